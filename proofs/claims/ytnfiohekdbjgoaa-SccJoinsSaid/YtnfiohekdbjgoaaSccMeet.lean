/- Contracts of package scc: isNode; meet (walk$1); further (ends$1). -/
import Derived.Test.YtnfiohekdbjgoaaSccPure
import Derived.Test.YtnfiohekdbjgoaaSearch
import Derived.Test.YtnfiohekdbjgoaaGraphMarks
namespace Go.Proofs.Ytnfiohekdbjgoaa.sc
open Go.ChangeShapes Go.WideShapes Go.ChangeAt Go.RowKit Go.Shelf

theorem isNode_any (A : Option Addr) (n c : Nat) (i : Int) (w : World) :
    Calls Try.prog 74 #[.slice A n c, .int .i64 i] w fun e w' => e = .returned (.bool (nodeB n i)) ∧ w = w' := by
  by_cases h0 : 0 ≤ i
  · by_cases h1 : i < (n : Int)
    · have HE : Hid (nodeB n i = true) := Lib.hid (decide_eq_true ⟨h0, h1⟩)
      rw [HE.out]
      go_enter Try.func74, Try.ntmps74
      go_wp2
      go_ret
      exact ⟨rfl, rfl⟩
    · have HE : Hid (nodeB n i = false) := Lib.hid (decide_eq_false (fun h => h1 h.2))
      have h2 : (n : Int) ≤ i := by omega
      rw [HE.out]
      clear h1
      go_enter Try.func74, Try.ntmps74
      go_wp2
      go_ret
      exact ⟨ret_bool (by simpa using h2), rfl⟩
  · have HE : Hid (nodeB n i = false) := Lib.hid (decide_eq_false (fun h => h0 h.1))
    have h2 : i < 0 := by omega
    rw [HE.out]
    clear h0
    go_enter Try.func74, Try.ntmps74
    go_wp2
    go_ret
    exact ⟨rfl, rfl⟩

/-- append of one element onto a row of the call's own: what turns is that row alone. -/
theorem append_tight {w : World} {ops : Array Oper} {rest : List Oper} {o : Oper} {a : Act} {Q : Exit → Act → World → Prop} (hgd : o.guard = none) (s x : Operand)
    (ho : o.op = .call { callee := .builtin .append, args := #[s, x], argTypes := #[22, 22] })
    (base : Nat) (v : Value) (l : List Int) (hs : a.eval s = v) (hown : OI base w v l) (z : Int)
    (hx : a.eval x = .slice (some ⟨w.heap.size, 0, none⟩) 1 1)
    (hlen : l.length + 1 ≤ 1000000) (hbase : base ≤ w.heap.size)
    (h : ∀ v' w', OI base w' v' (l ++ [z]) → Turn (fun q => v.ownBlock = some q) w w' → (v'.ownBlock = v.ownBlock ∨ ∃ g, v'.ownBlock = some g ∧ w.heap.size ≤ g) → wpList Try.prog ops Q rest (a.put o.dst v') w') :
    wpList Try.prog ops Q (o :: rest) a (w.alloc (.cells #[.int .i64 z] 3)) := by
  obtain ⟨i0, hi, hz0, hz1, hz2⟩ := info_parts Try.info3
  refine wpList_append_own_at _ hgd s x 22 ho base 3 i0 (.int .i64 0) 1 8 Try.underlying22 hi hz0 hz1 hz2 rfl (by decide) v l.length _ hs (hown.alloc _) ⟨w.heap.size, 0, none⟩ 1 1 [.int .i64 z] hx rfl (cell_one_new _ _ _) (by simp [Value.oneCell']) (by unfold maxLen; omega) (by omega) (by simp; omega) ?_
  intro v' w' hown' hgrow _ hb
  refine h v' w' (oi_snoc hown') ⟨hgrow.os, hgrow.tape, hgrow.output, Nat.le_trans (by simp) hgrow.size, fun k hk hn => (hgrow.block k (by simp; omega) (fun e => hn e.symm)).trans (Below.heap_alloc _ _ _ hk)⟩ (hb.imp id (fun e => ⟨_, e, by simp⟩))
/-- Which nodes are met, as cells. -/
def mtV (met : Nat → Bool) (k : Nat) : Value := .bool (met k)
/-- What a call of meet finds: the box of the marks zb, their row mb, the box of the way kb, the way. -/
structure MeetW (n zb mb kb base : Nat) (met : Nat → Bool) (v : Value) (l : List Int) (w : World) : Prop where
  box : w.heap[zb]? = some (.cells #[.slice (some ⟨mb, 0, none⟩) n n] 33 (0, 0))
  row : w.rowIs mb 4 n (mtV met)
  way : w.heap[kb]? = some (.cells #[v] 22 (0, 0))
  own : OI base w v l
  zm : zb ≠ mb
  zk : zb ≠ kb
  mkk : mb ≠ kb
  zlt : zb < base
  mlt : mb < base
  klt : kb < base
  big : base ≤ w.heap.size
theorem MeetW.turn {T : Nat → Prop} {n zb mb kb base : Nat} {met : Nat → Bool} {v : Value} {l : List Int} {w w' : World} (h : MeetW n zb mb kb base met v l w) (k : Turn T w w') (hz : ¬ T zb) (hm : ¬ T mb) (hk : ¬ T kb) (hv : ∀ q, v.ownBlock = some q → ¬ T q) : MeetW n zb mb kb base met v l w' where
  box := (k.block _ (by have := h.zlt; have := h.big; omega) hz).trans h.box
  row := h.row.of_block (k.block _ (by have := h.mlt; have := h.big; omega) hm)
  way := (k.block _ (by have := h.klt; have := h.big; omega) hk).trans h.way
  own := by
    obtain ⟨h1, h2⟩ := h.own
    refine ⟨h1, ?_⟩
    rcases h2 with h2 | ⟨g, cap, cur, e, hb, hg, r⟩
    · exact .inl h2
    · refine .inr ⟨g, cap, cur, e, hb, ?_, r⟩
      have hlt : g < w.heap.size := by
        rcases Nat.lt_or_ge g w.heap.size with hlt | hge
        · exact hlt
        · rw [Array.getElem?_eq_none hge] at hg; cases hg
      rw [k.block g hlt (hv g (by rw [e]; rfl))]
      exact hg
  zm := h.zm
  zk := h.zk
  mkk := h.mkk
  zlt := h.zlt
  mlt := h.mlt
  klt := h.klt
  big := Nat.le_trans h.big k.size
/-- What meet leaves. -/
def MeetP (n zb mb kb base : Nat) (met : Nat → Bool) (v : Value) (l : List Int) (k : Nat) (w : World) (e : Ending) (w' : World) : Prop :=
  (∃ r, e = .returned r) ∧ ∃ v', MeetW n zb mb kb base (fun i => met i || i == k) v' (l ++ [(k : Int)]) w' ∧ Turn (fun q => q = mb ∨ q = kb ∨ v.ownBlock = some q) w w' ∧ (v'.ownBlock = v.ownBlock ∨ ∃ g, v'.ownBlock = some g ∧ w.heap.size ≤ g)
set_option maxRecDepth 20000 in
set_option maxHeartbeats 2000000 in
theorem meet_any (n zb mb kb base : Nat) (met : Nat → Bool) (v : Value) (l : List Int) (k : Nat) (w : World) (h : MeetW n zb mb kb base met v l w) (hk : k < n) (hl : l.length + 1 ≤ 1000000) :
    Calls Try.prog 86 #[.int .i64 k, .pointer (some ⟨zb, 0, none⟩), .pointer (some ⟨kb, 0, none⟩)] w (MeetP n zb mb kb base met v l k w) := by
  have H := Lib.hid h
  have c1 := (cell_of_box_l h.box).1
  have c2 := h.row.cell hk
  have f2 := h.row.frozen k
  have HK := Lib.hid (World.rowIs.set h.row k (.bool true))
  have c3 : (w.setCell ⟨mb, k, none⟩ (.bool true)).cell? ⟨kb, 0, none⟩ = some v := by
    rw [World.cell?_setCell_other _ _ _ _ (by intro e; injection e with e1 _; exact h.mkk e1)]
    exact (cell_of_box_l h.way).1
  have T1 : Hid (Turn (fun q => q = mb) w (w.setCell ⟨mb, k, none⟩ (.bool true))) := Lib.hid ((Turn.refl _ w).set ⟨mb, k, none⟩ _ rfl)
  have O1 : Hid (OI base (w.setCell ⟨mb, k, none⟩ (.bool true)) v l) := Lib.hid (h.own.turn T1.out (fun q e => by rw [e]; exact h.mlt))
  have hbig : base ≤ w.heap.size := h.big
  have hbig1 : base ≤ (w.setCell ⟨mb, k, none⟩ (.bool true)).heap.size := Nat.le_trans h.big T1.out.size
  have W1 : Hid ((w.setCell ⟨mb, k, none⟩ (.bool true)).heap[zb]? = some (.cells #[.slice (some ⟨mb, 0, none⟩) n n] 33 (0, 0))) := Lib.hid ((T1.out.block _ (by have := h.zlt; omega) h.zm).trans h.box)
  have W2 : Hid ((w.setCell ⟨mb, k, none⟩ (.bool true)).heap[kb]? = some (.cells #[v] 22 (0, 0))) := Lib.hid ((T1.out.block _ (by have := h.klt; omega) (fun e => h.mkk e.symm)).trans h.way)
  have F3 := (cell_of_box_l W2.out).2
  have HM : Hid ((w.setCell ⟨mb, k, none⟩ (.bool true)).rowIs mb 4 n (mtV fun i => met i || i == k)) := Lib.hid (HK.out.congr (fun j _ => by
    unfold mtV
    by_cases e : j = k
    · subst e; rw [if_pos rfl]; simp
    · rw [if_neg e]
      have : (j == k) = false := by simpa using e
      show Value.bool (met j) = Value.bool (met j || j == k)
      rw [this, Bool.or_false]))
  unfold mtV at c2
  generalize met k = u at c2
  clear h HK
  go_enter Try.func86, Try.ntmps86
  go_upto_region 1 with (fail)
  generalize w.setCell ⟨mb, k, none⟩ (.bool true) = w1 at c3 T1 O1 hbig1 W1 W2 F3 HM ⊢
  have HG : Hid (∀ q, v.ownBlock = some q → base ≤ q) := Lib.hid (fun q e => (World.ownsRow.lt O1.out q e).1)
  go_wp2_with (at_builtin; refine append_tight rfl (.tmp 7) (.tmp 9) rfl base v l rfl O1.out (k : Int) rfl hl hbig1 ?_; intro v2 w2 ho2 hT2 hb2; obtain ⟨A2, d2, rfl, _⟩ := ho2.form; rw [show (l ++ [(k : Int)]).length = l.length + 1 by simp] at ho2 hb2 ⊢; have HO2 := Lib.hid ho2; have HT2 := Lib.hid hT2; have HB2 := Lib.hid hb2; have HN2 : Hid (w2.heap[kb]? = some (.cells #[v] 22 (0, 0))) := Lib.hid ((hT2.block kb (by have := H.out.klt; omega) (fun e => by have := HG.out _ e; have := H.out.klt; omega)).trans W2.out); have F4 := (cell_of_box_l HN2.out).2; have C4 := (cell_of_box_l HN2.out).1; clear ho2 hT2 hb2)
  have HS : Hid (Turn (fun q => q = kb) w2 (w2.setCell ⟨kb, 0, none⟩ (.slice A2 (l.length + 1) d2))) := Lib.hid ((Turn.refl _ w2).set ⟨kb, 0, none⟩ _ rfl)
  have HX : Hid ((w2.setCell ⟨kb, 0, none⟩ (.slice A2 (l.length + 1) d2)).heap[kb]? = some (.cells #[.slice A2 (l.length + 1) d2] 22 (0, 0))) := Lib.hid (box_set HN2.out _)
  generalize w2.setCell ⟨kb, 0, none⟩ (.slice A2 (l.length + 1) d2) = w3 at HS HX ⊢
  go_end0
  have hh := H.out
  have hz1 := hh.zlt
  have hz2 := hh.mlt
  have hz3 := hh.klt
  have hsz1 := T1.out.size
  have hsz2 := HT2.out.size
  have hsz3 := HS.out.size
  refine ⟨⟨_, rfl⟩, _, ⟨?_, ?_, HX.out, HO2.out.turn HS.out (fun q e => by rw [e]; exact hz3), hh.zm, hh.zk, hh.mkk, hz1, hz2, hz3, by omega⟩, ?_, HB2.out.imp id (fun ⟨g, e, hg⟩ => ⟨g, e, by omega⟩)⟩
  · rw [HS.out.block zb (by omega) hh.zk, HT2.out.block zb (by omega) (fun e => by have := HG.out _ e; omega)]
    exact W1.out
  · refine HM.out.of_block ?_
    rw [HS.out.block mb (by omega) hh.mkk, HT2.out.block mb (by omega) (fun e => by have := HG.out _ e; omega)]
  · exact ((T1.out.mono (fun q e => .inl e)).trans (HT2.out.mono (fun q e => .inr (.inr e)))).trans (HS.out.mono (fun q e => .inr (.inl e)))
end Go.Proofs.Ytnfiohekdbjgoaa.sc
