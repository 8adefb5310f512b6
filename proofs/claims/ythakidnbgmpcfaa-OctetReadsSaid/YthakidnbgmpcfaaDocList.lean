/- The document's reading of a list. -/
import Derived.Test.YthakidnbgmpcfaaDocMany
import Derived.Test.YthakidnbgmpcfaaTextAll
import Derived.RangeFuncRecord
import Derived.Deep.Cut
namespace Go.Proofs.Ythakidnbgmpcfaa
open Go.ChangeShapes Go.WideShapes Go.ChangeAt Go.RowKit

theorem one_new (w : World) (z : Int) : ∀ j u, ([Value.int .i64 z] : List Value)[j]? = some u → (w.alloc (.cells #[.int .i64 z] 3)).cell? ((⟨w.heap.size, 0, none⟩ : Addr).add j) = some u := by
  have h := World.alloc_heap_new w (.cells #[.int .i64 z] 3)
  generalize w.alloc (.cells #[.int .i64 z] 3) = W at h ⊢
  intro j u hj
  cases j with
  | zero => simp at hj; subst hj; simp [World.cell?, h, Addr.add]
  | succ j => simp at hj
/-- append of one int onto a row of the call's own. -/
theorem app_one {w : World} {ops : Array Oper} {rest : List Oper} {o : Oper} {a : Act} {Q : Exit → Act → World → Prop} (hgd : o.guard = none) (s x : Operand)
    (ho : o.op = .call { callee := .builtin .append, args := #[s, x], argTypes := #[33, 33] })
    (base : Nat) (v : Value) (l : List Int) (hs : a.eval s = v) (hown : OI base w v l) (z : Int)
    (hx : a.eval x = .slice (some ⟨w.heap.size, 0, none⟩) 1 1)
    (hlen : l.length + 1 ≤ 2000000) (hbase : base ≤ w.heap.size)
    (h : ∀ v' w', OI base w' v' (l ++ [z]) → Below base w w' → wpList Try.prog ops Q rest (a.put o.dst v') w') :
    wpList Try.prog ops Q (o :: rest) a (w.alloc (.cells #[.int .i64 z] 3)) := by
  obtain ⟨i0, hi, hz0, hz1, hz2⟩ := info_parts Try.info3'
  refine wpList_append_own_at _ hgd s x 33 ho base 3 i0 (.int .i64 0) 1 8 Try.underlying33 hi hz0 hz1 hz2 rfl (by decide) v l.length _ hs (hown.alloc _) ⟨w.heap.size, 0, none⟩ 1 1 [.int .i64 z] hx rfl (one_new w z) (by simp [Value.oneCell']) (by unfold maxLen; omega) (by omega) (by simp; omega) ?_
  intro v' w' hown' hgrow _ hb
  exact h v' w' (oi_snoc hown') (Below.grown ((Below.refl _ _).alloc hbase _) hgrow (by simp; omega) (fun k hk => (hown.lt k hk).1))

theorem cells_of {w : World} {Z : Nat} {v0 v1 v2 : Value} {t : TypeId} (h : w.heap[Z]? = some (.cells #[v0, v1, v2] t (0, 0))) : w.cell? ⟨Z, 0, none⟩ = some v0 ∧ w.cell? ⟨Z, 1, none⟩ = some v1 ∧ w.cell? ⟨Z, 2, none⟩ = some v2 ∧ ∀ i, w.frozen? ⟨Z, i, none⟩ = false := by
  refine ⟨by simp [World.cell?, h], by simp [World.cell?, h], by simp [World.cell?, h], fun i => by simp [World.frozen?, h]⟩
theorem cells_set {w : World} {Z : Nat} {u0 u1 u2 v0 v1 v2 : Value} {t : TypeId} (h : w.heap[Z]? = some (.cells #[u0, u1, u2] t (0, 0))) : (((w.setCell ⟨Z, 0, none⟩ v0).setCell ⟨Z, 1, none⟩ v1).setCell ⟨Z, 2, none⟩ v2).heap[Z]? = some (.cells #[v0, v1, v2] t (0, 0)) := by
  simp [World.setCell, Array.getElem?_modify, h]

theorem OI.blocks {B : Nat} {w w' : World} {v : Value} {l : List Int} (h : OI B w v l) (hz : w.heap.size ≤ w'.heap.size) (hb : ∀ q, B ≤ q → q < w.heap.size → w'.heap[q]? = w.heap[q]?) : OI B w' v l := by
  have hlt := World.ownsRow.lt h
  obtain ⟨h1, h2⟩ := h
  refine ⟨h1, ?_⟩
  rcases h2 with h2 | ⟨g, cap, cur, e, hg, hgg, r⟩
  · exact .inl h2
  · exact .inr ⟨g, cap, cur, e, hg, (hb g hg (Array.getElem?_eq_some_iff.1 hgg).1).trans hgg, r⟩
theorem OI.kept' {B : Nat} {w w' : World} {v : Value} {l : List Int} (h : OI B w v l) (hb : Below w.heap.size w w') : OI B w' v l := h.blocks hb.size (fun q _ hq => hb.block q hq)

def gotL (l : List Int) (p : Nat) (e : Int) : Got (List Int) := if e = 0 then readL (l.drop p) else ⟨e, [], 0⟩
def DList (A : Option Addr) (c : Nat) (l : List Int) (p : Nat) (M : Got (List Int)) (W : World) (en : Ending) (w' : World) : Prop :=
  ∃ A2 c2, en = .returned (.tuple #[rrV A l.length c (p + M.k) M.f, .slice A2 M.v.length c2]) ∧ IA w' A2 M.v ∧ Below W.heap.size W w' ∧ ∀ ad, A2 = some ad → W.heap.size ≤ ad.block
theorem gotL_bad {l : List Int} {p : Nat} {e : Int} (h : (gotC l p e).f ≠ 0) : gotL l p e = ⟨(gotC l p e).f, [], 0⟩ := by
  unfold gotL gotC at *
  by_cases h0 : e = 0
  · rw [if_pos h0] at h ⊢
    rw [if_pos h0]
    unfold readL
    rw [if_pos h]
  · rw [if_neg h0, if_neg h0]
theorem gotL_ok {l : List Int} {p : Nat} {e : Int} (h : (gotC l p e).f = 0) : ((readMany (gotC l p e).v (l.drop (p + (gotC l p e).k))).f ≠ 0 → gotL l p e = ⟨(readMany (gotC l p e).v (l.drop (p + (gotC l p e).k))).f, [], 0⟩) ∧
    ((readMany (gotC l p e).v (l.drop (p + (gotC l p e).k))).f = 0 → gotL l p e = ⟨0, (readMany (gotC l p e).v (l.drop (p + (gotC l p e).k))).v, (gotC l p e).k + (readMany (gotC l p e).v (l.drop (p + (gotC l p e).k))).k⟩) := by
  unfold gotL gotC at *
  by_cases h0 : e = 0
  · rw [if_pos h0] at h ⊢
    rw [if_pos h0]
    unfold readL
    rw [if_neg (by rw [h]; decide), List.drop_drop]
    constructor
    · intro h2; rw [if_pos h2]
    · intro h2; rw [if_neg (by rw [h2]; decide)]
  · rw [if_neg h0] at h
    exact absurd h h0
theorem gotC_bad {l : List Int} {p : Nat} {e : Int} (h : (gotC l p e).f ≠ 0) : (gotC l p e).v = 0 ∧ (gotC l p e).k = 0 := by
  unfold gotC at *
  by_cases h0 : e = 0
  · rw [if_pos h0] at h ⊢
    exact readC_fault _ h
  · rw [if_neg h0]; exact ⟨rfl, rfl⟩
theorem gotC_le {l : List Int} {p : Nat} (e : Int) (hp : p ≤ l.length) : p + (gotC l p e).k + (gotC l p e).v ≤ l.length := by
  unfold gotC
  by_cases h0 : e = 0
  · rw [if_pos h0]
    have := readC_le (l.drop p)
    rw [List.length_drop] at this
    omega
  · rw [if_neg h0]; exact hp

set_option maxRecDepth 20000 in
set_option maxHeartbeats 4000000 in
theorem dlist_any {A : Option Addr} {c : Nat} {l : List Int} {p : Nat} {e : Int} (w : World) (hB : BA w A l) (hp : p ≤ l.length) (hu : U8 l) (hl : l.length ≤ 1048576) :
    Calls Try.prog 9 #[rrV A l.length c p e] w (DList A c l p (gotL l p e) w) := by
  have HB := Lib.hid hB
  have HU := Lib.hid hu
  have HL := Lib.hid hl
  have HP := Lib.hid hp
  have HCB := Lib.hid (gotC_bad (l := l) (p := p) (e := e))
  have HCL := Lib.hid (gotC_le e hp)
  have HGB := Lib.hid (gotL_bad (l := l) (p := p) (e := e))
  have HGO := Lib.hid (gotL_ok (l := l) (p := p) (e := e))
  obtain ⟨M, HM⟩ : ∃ M, Hid (gotL l p e = M) := ⟨_, Lib.hid rfl⟩
  rw [HM.out] at HGB HGO ⊢
  clear hB hu HM
  unfold rrV
  go_enter Try.func9, Try.ntmps9
  go_wp2_with fail
  have hx0 := World.alloc_heap_new w (.cells #[.slice A l.length c, .int .i64 p, .int .i64 e] 28)
  have hx1 := World.alloc_heap_new (w.alloc (.cells #[.slice A l.length c, .int .i64 p, .int .i64 e] 28)) (.cells #[.slice none 0 0, .int .i64 0, .int .i64 0] 28)
  rw [World.size_alloc] at hx1
  have hx0 := (Below.heap_alloc (w.alloc (.cells #[.slice A l.length c, .int .i64 p, .int .i64 e] 28)) (.cells #[.slice none 0 0, .int .i64 0, .int .i64 0] 28) w.heap.size (by simp)).trans hx0
  have hb2 : Below w.heap.size w ((w.alloc (.cells #[.slice A l.length c, .int .i64 p, .int .i64 e] 28)).alloc (.cells #[.slice none 0 0, .int .i64 0, .int .i64 0] 28)) := ((Below.refl _ _).alloc (Nat.le_refl _) _).alloc (by simp) _
  have hz2 : ((w.alloc (.cells #[.slice A l.length c, .int .i64 p, .int .i64 e] 28)).alloc (.cells #[.slice none 0 0, .int .i64 0, .int .i64 0] 28)).heap.size = w.heap.size + 2 := by simp
  generalize ((w.alloc (.cells #[.slice A l.length c, .int .i64 p, .int .i64 e] 28)).alloc (.cells #[.slice none 0 0, .int .i64 0, .int .i64 0] 28)) = w2 at *
  have HX0 := Lib.hid hx0
  have HX1 := Lib.hid hx1
  have HB2 := Lib.hid hb2
  have hz2' : w.heap.size + 2 ≤ w2.heap.size := by omega
  clear hx0 hx1 hb2 hz2
  refine (dmany_any (c := c) (e := e) _ (HB.out.below HB2.out) hp HU.out hl).mono ?_
  rintro en w3 ⟨rfl, hb3⟩
  have HX0 := Lib.hid ((hb3.block _ (by omega)).trans HX0.out)
  have HX1 := Lib.hid ((hb3.block _ (by omega)).trans HX1.out)
  have HB3 : Hid (Below w.heap.size w w3) := Lib.hid (HB2.out.trans (hb3.mono HB2.out.size))
  have hz3 : w.heap.size + 2 ≤ w3.heap.size := Nat.le_trans hz2' hb3.size
  generalize gotC l p e = G at HCB HCL HGB HGO
  obtain ⟨f, n, k⟩ := G
  have HCB : Hid (f ≠ 0 → n = 0 ∧ k = 0) := HCB
  have HCL : Hid (p + k + n ≤ l.length) := HCL
  have HGB : Hid (f ≠ 0 → M = ⟨f, [], 0⟩) := HGB
  have HGO : Hid (f = 0 → ((readMany n (l.drop (p + k))).f ≠ 0 → M = ⟨(readMany n (l.drop (p + k))).f, [], 0⟩) ∧ ((readMany n (l.drop (p + k))).f = 0 → M = ⟨0, (readMany n (l.drop (p + k))).v, k + (readMany n (l.drop (p + k))).k⟩)) := HGO
  simp only
  obtain ⟨q0, HQ0⟩ : ∃ q0, Hid (p + k = q0) := ⟨_, Lib.hid rfl⟩
  rw [HQ0.out] at HGO HCL ⊢
  unfold rrV
  clear hb3 HB2 hz2'
  go_wp2_with fail
  have hx := World.alloc_heap_new w3 (.cells #[.slice A l.length c, .int .i64 (q0 : Int), .int .i64 f] 28)
  have hb5 : Below w3.heap.size w3 (w3.alloc (.cells #[.slice A l.length c, .int .i64 (q0 : Int), .int .i64 f] 28)) := (Below.refl _ _).alloc (Nat.le_refl _) _
  have hz5 : (w3.alloc (.cells #[.slice A l.length c, .int .i64 (q0 : Int), .int .i64 f] 28)).heap.size = w3.heap.size + 1 := by simp
  generalize w3.alloc (.cells #[.slice A l.length c, .int .i64 (q0 : Int), .int .i64 f] 28) = w5 at *
  have HX := Lib.hid hx
  have HB5 : Hid (Below (w.heap.size + 2) w3 w5) := Lib.hid (hb5.mono hz3)
  have hz6 : w3.heap.size < w5.heap.size := by omega
  have HFIN0 : Hid ((f = 0 ∧ f = 0 ∧ RestIs n q0 0 q0 [] l ∧ ([] : List Int).length = 0) ∨ (f ≠ 0 ∧ M = ⟨f, [], 0⟩)) := Lib.hid (by
    by_cases h : f = 0
    · refine .inl ⟨h, h, ⟨by have := HCL.out; omega, Nat.le_refl _, fun h2 => ?_, fun h2 => ?_⟩, rfl⟩
      · rw [Nat.sub_zero] at h2 ⊢
        have := (HGO.out h).1 h2
        -- what reads with a fault has read nothing
        have h3 := readMany_fault n (l.drop q0) h2
        rw [← h3.1, ← h3.2]
      · rw [Nat.sub_zero] at h2 ⊢
        rw [List.nil_append, Nat.sub_self, Nat.zero_add, ← h2]
    · exact .inr ⟨h, HGB.out h⟩)
  have HF0 : Hid (f ≠ 0 → n = 0) := Lib.hid (fun h => (HCB.out h).1)
  have HQP : Hid (f = 0 → q0 = p + k) := Lib.hid (fun _ => HQ0.out.symm)
  obtain ⟨f0, HFF⟩ : ∃ f0, Hid (f = f0) := ⟨_, Lib.hid rfl⟩
  have HGO0 : Hid (f0 = 0 → ((readMany n (l.drop q0)).f ≠ 0 → M = ⟨(readMany n (l.drop q0)).f, [], 0⟩) ∧ ((readMany n (l.drop q0)).f = 0 → M = ⟨0, (readMany n (l.drop q0)).v, k + (readMany n (l.drop q0)).k⟩)) := Lib.hid (by rw [← HFF.out]; exact HGO.out)
  have hnl : n ≤ l.length := by have := HCL.out; omega
  clear hx hb5 HGO HGB HCB
  go_loopw [6, 7] (fun q i wr => ∃ (i' qq : Nat) (f : Int) (xs : List Int) (Aq : Option Addr) (lq cq : Nat), q = .slice Aq lq cq ∧ i = .int .i64 i' ∧ i' ≤ n ∧ Hid (wr.heap[w3.heap.size]? = some (.cells #[.slice A l.length c, .int .i64 qq, .int .i64 f] 28 (0, 0))) ∧ Hid (OI w5.heap.size wr (.slice Aq lq cq) xs ∧ lq = xs.length) ∧ Hid (Below (w.heap.size + 2) w3 wr) ∧ Hid (w5.heap.size ≤ wr.heap.size) ∧ Hid ((f = 0 ∧ f0 = 0 ∧ RestIs n q0 i' qq xs l ∧ xs.length = i') ∨ (f ≠ 0 ∧ M = ⟨f, [], 0⟩))) (fun _ i _ => n - (intOf i).toNat)
  case atStart => exact ⟨0, q0, f, [], none, 0, 0, rfl, rfl, Nat.zero_le _, HX, Lib.hid ⟨World.ownsRow_nil _ _ _ _, rfl⟩, HB5, Lib.hid (Nat.le_refl _), Lib.hid (by have := HFIN0.out; rw [← HFF.out]; exact this)⟩
  case round =>
    clear HX HB5 HFIN0 HFF
    obtain ⟨i', qq, f, xs, Aq, lq, cq, rfl, rfl, hi', HX, HO, HW, HWZ, HR⟩ := hrel
    obtain ⟨x0, x1, x2, fx⟩ := cells_of HX.out
    by_cases hgo : i' < n ∧ f = 0
    · obtain ⟨hlt, rfl⟩ := hgo
      have hd : decide ((i' : Int) < (n : Int)) = true := decide_eq_true (by omega)
      obtain ⟨_, hf0, hrest, hxl⟩ : (0 : Int) = 0 ∧ f0 = 0 ∧ RestIs n q0 i' qq xs l ∧ xs.length = i' := by
        rcases HR.out with h | h
        · exact h
        · exact absurd rfl h.1
      have HST := Lib.hid (rest_step hrest hlt)
      have HF00 := Lib.hid hf0
      have HXL := Lib.hid hxl
      have hql := hrest.1
      have HBW : Hid (Below w.heap.size w wr) := Lib.hid (HB3.out.trans (HW.out.mono (by omega)))
      have hwz := HW.out.size
      have hwz5 := HWZ.out
      clear hrest hf0 hxl
      go_wp2_with fail
      refine (dnum_any (c := c) (e := 0) _ (HB.out.below HBW.out) hql HU.out hl).mono ?_
      rintro en w6 ⟨rfl, hb6⟩
      have HG : Hid (gotN l qq 0 = readN (l.drop qq)) := Lib.hid (if_pos rfl)
      have HST2 : Hid ((gotN l qq 0).f ≠ 0 → readMany n (l.drop q0) = ⟨(gotN l qq 0).f, [], 0⟩) := Lib.hid (by rw [HG.out]; exact HST.out.1)
      have HST3 : Hid ((gotN l qq 0).f = 0 → RestIs n q0 (i' + 1) (qq + (gotN l qq 0).k) (xs ++ [(gotN l qq 0).v]) l) := Lib.hid (by rw [HG.out]; exact HST.out.2)
      clear HST HG
      generalize gotN l qq 0 = N at HST2 HST3
      obtain ⟨nf, nv, nk⟩ := N
      have HST2 : Hid (nf ≠ 0 → readMany n (l.drop q0) = ⟨nf, [], 0⟩) := HST2
      have HST3 : Hid (nf = 0 → RestIs n q0 (i' + 1) (qq + nk) (xs ++ [nv]) l) := HST3
      simp only
      unfold rrV
      obtain ⟨q2, HQ2⟩ : ∃ q2, Hid (qq + nk = q2) := ⟨_, Lib.hid rfl⟩
      rw [HQ2.out] at HST3 ⊢
      have HX6 := Lib.hid ((hb6.block _ (by omega)).trans HX.out)
      have HO6 : Hid (OI w5.heap.size w6 (.slice Aq lq cq) xs) := Lib.hid (HO.out.1.kept' hb6)
      have HW6 : Hid (Below (w.heap.size + 2) w3 w6) := Lib.hid (HW.out.trans (hb6.mono (by omega)))
      have hwz6 := hb6.size
      clear x0 x1 x2 fx HX hb6 HBW
      obtain ⟨x0, x1, x2, fx⟩ := cells_of HX6.out
      have f0' := fx 0
      have f1' := fx 1
      have f2' := fx 2
      have hX := cells_set (v0 := .slice A l.length c) (v1 := .int .i64 (q2 : Int)) (v2 := .int .i64 nf) HX6.out
      have hblk : ∀ q, q ≠ w3.heap.size → (((w6.setCell ⟨w3.heap.size, 0, none⟩ (.slice A l.length c)).setCell ⟨w3.heap.size, 1, none⟩ (.int .i64 (q2 : Int))).setCell ⟨w3.heap.size, 2, none⟩ (.int .i64 nf)).heap[q]? = w6.heap[q]? := fun q hq => (Below.heap_setCell _ _ _ _ hq).trans ((Below.heap_setCell _ _ _ _ hq).trans (Below.heap_setCell _ _ _ _ hq))
      have hO7 : OI w5.heap.size (((w6.setCell ⟨w3.heap.size, 0, none⟩ (.slice A l.length c)).setCell ⟨w3.heap.size, 1, none⟩ (.int .i64 (q2 : Int))).setCell ⟨w3.heap.size, 2, none⟩ (.int .i64 nf)) (.slice Aq lq cq) xs := HO6.out.blocks (by simp) (fun q h1 h2 => hblk q (by omega))
      have hW7 : Below (w.heap.size + 2) w3 (((w6.setCell ⟨w3.heap.size, 0, none⟩ (.slice A l.length c)).setCell ⟨w3.heap.size, 1, none⟩ (.int .i64 (q2 : Int))).setCell ⟨w3.heap.size, 2, none⟩ (.int .i64 nf)) := ((HW6.out.setCell (show w.heap.size + 2 ≤ (⟨w3.heap.size, 0, none⟩ : Addr).block from hz3) _).setCell (show w.heap.size + 2 ≤ (⟨w3.heap.size, 1, none⟩ : Addr).block from hz3) _).setCell (show w.heap.size + 2 ≤ (⟨w3.heap.size, 2, none⟩ : Addr).block from hz3) _
      have hz7 : w5.heap.size ≤ (((w6.setCell ⟨w3.heap.size, 0, none⟩ (.slice A l.length c)).setCell ⟨w3.heap.size, 1, none⟩ (.int .i64 (q2 : Int))).setCell ⟨w3.heap.size, 2, none⟩ (.int .i64 nf)).heap.size := by simp; omega
      have HX7 := Lib.hid hX
      have HO7 := Lib.hid hO7
      have HW7 := Lib.hid hW7
      clear hX hblk hO7 hW7
      go_upto_region 8 with (fail)
      clear x0 x1 x2 fx f0' f1' f2'
      generalize (((w6.setCell ⟨w3.heap.size, 0, none⟩ (.slice A l.length c)).setCell ⟨w3.heap.size, 1, none⟩ (.int .i64 (q2 : Int))).setCell ⟨w3.heap.size, 2, none⟩ (.int .i64 nf)) = w7 at *
      have HLN : Hid (xs.length + 1 ≤ 2000000) := Lib.hid (by have := HXL.out; have := HL.out; omega)
      have HLQ : Hid (lq + 1 = (xs ++ [nv]).length) := Lib.hid (by rw [List.length_append, HO.out.2]; rfl)
      go_upto_region 5 with (at_builtin; refine app_one rfl (.tmp 29) (.tmp 31) rfl w5.heap.size _ xs rfl HO7.out nv rfl HLN.out hz7 ?_; intro v8 w8 ho8 hb8; obtain ⟨A8, c8, rfl, _⟩ := ho8.form; rw [← HLQ.out] at ho8 ⊢; have HO8 := Lib.hid ho8; have HB8 := Lib.hid hb8; clear ho8 hb8)
      have HX8 := Lib.hid ((HB8.out.block _ hz6).trans HX7.out)
      have HW8 : Hid (Below (w.heap.size + 2) w3 w8) := Lib.hid (HW7.out.trans (HB8.out.mono (by omega)))
      have HZ8 : Hid (w5.heap.size ≤ w8.heap.size) := Lib.hid (Nat.le_trans hz7 HB8.out.size)
      have HR8 : Hid ((nf = 0 ∧ f0 = 0 ∧ RestIs n q0 (i' + 1) q2 (xs ++ [nv]) l ∧ (xs ++ [nv]).length = i' + 1) ∨ (nf ≠ 0 ∧ M = ⟨nf, [], 0⟩)) := Lib.hid (by
        by_cases h : nf = 0
        · exact .inl ⟨h, HF00.out, HST3.out h, by rw [List.length_append, HXL.out]; rfl⟩
        · refine .inr ⟨h, ?_⟩
          have h2 := HST2.out h
          have h3 := (HGO0.out HF00.out).1
          rw [h2] at h3
          exact h3 h)
      clear HO HX6 HX7 HO6 HO7 HW6 HW7
      go_wp2_with fail
      go_roundw
      case rel => exact ⟨i' + 1, q2, nf, xs ++ [nv], A8, lq + 1, c8, rfl, by go_num, hlt, HX8, Lib.hid ⟨HO8.out, HLQ.out⟩, HW8, HZ8, HR8⟩
      case measure => simp [intOf]; omega
    · have HBW : Hid (Below w.heap.size w wr) := Lib.hid (HB3.out.trans (HW.out.mono (by omega)))
      have HY0 := Lib.hid ((HW.out.block w.heap.size (by omega)).trans HX0.out)
      have HY1 := Lib.hid ((HW.out.block (w.heap.size + 1) (by omega)).trans HX1.out)
      obtain ⟨y0, y1, y2, _⟩ := cells_of HY0.out
      obtain ⟨r0, r1, r2, fr⟩ := cells_of HY1.out
      have g0 := fr 0
      have g1 := fr 1
      have g2 := fr 2
      clear fr fx
      by_cases hf : f = 0
      · subst hf
        have hin : i' = n := by omega
        subst hin
        have hd : decide ((i' : Int) < (i' : Int)) = false := decide_eq_false (by omega)
        have HME : Hid (M = ⟨0, xs, k + (qq - q0)⟩ ∧ q0 ≤ qq ∧ q0 = p + k) := Lib.hid (by
          rcases HR.out with ⟨_, hf0, hrest, hxl⟩ | h
          · obtain ⟨h1, h2, _, h4⟩ := hrest
            rw [Nat.sub_self] at h4
            have h5 := h4 rfl
            have h6 := (HGO0.out hf0).2
            rw [h5] at h6
            refine ⟨?_, h2, HQ0.out.symm⟩
            rw [h6 rfl]
            simp [readMany]
          · exact absurd rfl h.1)
        have hblk : ∀ q, q ≠ w.heap.size + 1 → (((wr.setCell ⟨w.heap.size + 1, 0, none⟩ (.slice A l.length c)).setCell ⟨w.heap.size + 1, 1, none⟩ (.int .i64 (qq : Int))).setCell ⟨w.heap.size + 1, 2, none⟩ (.int .i64 0)).heap[q]? = wr.heap[q]? := fun q hq => (Below.heap_setCell _ _ _ _ hq).trans ((Below.heap_setCell _ _ _ _ hq).trans (Below.heap_setCell _ _ _ _ hq))
        have HO9 : Hid (OI w5.heap.size (((wr.setCell ⟨w.heap.size + 1, 0, none⟩ (.slice A l.length c)).setCell ⟨w.heap.size + 1, 1, none⟩ (.int .i64 (qq : Int))).setCell ⟨w.heap.size + 1, 2, none⟩ (.int .i64 0)) (.slice Aq lq cq) xs) := Lib.hid (HO.out.1.blocks (by simp) (fun q h1 h2 => hblk q (by omega)))
        have HB9 : Hid (Below w.heap.size w (((wr.setCell ⟨w.heap.size + 1, 0, none⟩ (.slice A l.length c)).setCell ⟨w.heap.size + 1, 1, none⟩ (.int .i64 (qq : Int))).setCell ⟨w.heap.size + 1, 2, none⟩ (.int .i64 0))) := Lib.hid (((HBW.out.setCell (show w.heap.size ≤ (⟨w.heap.size + 1, 0, none⟩ : Addr).block from Nat.le_succ _) _).setCell (show w.heap.size ≤ (⟨w.heap.size + 1, 1, none⟩ : Addr).block from Nat.le_succ _) _).setCell (show w.heap.size ≤ (⟨w.heap.size + 1, 2, none⟩ : Addr).block from Nat.le_succ _) _)
        clear hblk
        go_wp2_with fail
        (try simp only [Exit.inBlock, Exit.then])
        obtain ⟨hM, hq1, hq2⟩ := HME.out
        subst hM
        obtain ⟨A', c', e', hi9⟩ := HO9.out.form
        injection e' with e1 e2 e3
        refine bodyPost_ret (v := .tuple #[.agg #[.slice A l.length c, .int .i64 (qq : Int), .int .i64 0], .slice Aq lq cq]) ?_ rfl ⟨A', c', ?_, hi9, HB9.out, fun ad h => by
          have := (World.ownsRow.lt HO9.out ad.block (by rw [e1, h]; rfl)).1
          omega⟩
        · rw [results_cell_tmp rfl]; go_simp
        · simp only [rrV]
          rw [e1, e2, e3, show p + (k + (qq - q0)) = qq by omega]
      · have HME : Hid (M = ⟨f, [], 0⟩) := Lib.hid (by
          rcases HR.out with h | h
          · exact absurd h.1 hf
          · exact h.2)
        have hf1 : (f == 0) = false := by simpa using hf
        have hf2 : (f != 0) = true := by simpa using hf
        have hzw := HBW.out.size
        have hzw2 := HW.out.size
        by_cases hi2 : i' < n
        · have hd : decide ((i' : Int) < (n : Int)) = true := decide_eq_true (by omega)
          go_wp2_with fail
          refine (dwrong_any A l.length c p e f _).mono ?_
          rintro en w6 ⟨rfl, hb6⟩
          have HY6 := Lib.hid ((hb6.block _ (by omega)).trans HY1.out)
          have HB6 : Hid (Below w.heap.size w w6) := Lib.hid (HBW.out.trans (hb6.mono hzw))
          unfold rrV
          clear y0 y1 y2 r0 r1 r2 g0 g1 g2 x0 x1 x2 hb6
          obtain ⟨r0, r1, r2, fr⟩ := cells_of HY6.out
          have g0 := fr 0
          have g1 := fr 1
          have g2 := fr 2
          clear fr
          go_wp2_with fail
          (try simp only [Exit.inBlock, Exit.then])
          have hM := HME.out
          subst hM
          refine bodyPost_ret (v := .tuple #[.agg #[.slice A l.length c, .int .i64 (p : Int), .int .i64 f], .slice none 0 0]) ?_ rfl ⟨none, 0, rfl, IA.nil _ _, ((HB6.out.setCell (show w.heap.size ≤ (⟨w.heap.size + 1, 0, none⟩ : Addr).block from Nat.le_succ _) _).setCell (show w.heap.size ≤ (⟨w.heap.size + 1, 1, none⟩ : Addr).block from Nat.le_succ _) _).setCell (show w.heap.size ≤ (⟨w.heap.size + 1, 2, none⟩ : Addr).block from Nat.le_succ _) _, fun ad h => by cases h⟩
          rw [results_cell_tmp rfl]; go_simp
        · have hd : decide ((i' : Int) < (n : Int)) = false := decide_eq_false (by omega)
          go_wp2_with fail
          refine (dwrong_any A l.length c p e f _).mono ?_
          rintro en w6 ⟨rfl, hb6⟩
          have HY6 := Lib.hid ((hb6.block _ (by omega)).trans HY1.out)
          have HB6 : Hid (Below w.heap.size w w6) := Lib.hid (HBW.out.trans (hb6.mono hzw))
          unfold rrV
          clear y0 y1 y2 r0 r1 r2 g0 g1 g2 x0 x1 x2 hb6
          obtain ⟨r0, r1, r2, fr⟩ := cells_of HY6.out
          have g0 := fr 0
          have g1 := fr 1
          have g2 := fr 2
          clear fr
          go_wp2_with fail
          (try simp only [Exit.inBlock, Exit.then])
          have hM := HME.out
          subst hM
          refine bodyPost_ret (v := .tuple #[.agg #[.slice A l.length c, .int .i64 (p : Int), .int .i64 f], .slice none 0 0]) ?_ rfl ⟨none, 0, rfl, IA.nil _ _, ((HB6.out.setCell (show w.heap.size ≤ (⟨w.heap.size + 1, 0, none⟩ : Addr).block from Nat.le_succ _) _).setCell (show w.heap.size ≤ (⟨w.heap.size + 1, 1, none⟩ : Addr).block from Nat.le_succ _) _).setCell (show w.heap.size ≤ (⟨w.heap.size + 1, 2, none⟩ : Addr).block from Nat.le_succ _) _, fun ad h => by cases h⟩
          rw [results_cell_tmp rfl]; go_simp
end Go.Proofs.Ythakidnbgmpcfaa
