/- The document's Put, Push, Take, Last. -/
import Derived.Test.YtfhapodidjkmaaaRingWorks
import Derived.WalkSpells
namespace Go.Proofs.Ytfhapodidjkmaaa
open Go.ChangeShapes Go.WideShapes Go.ChangeAt Go.RowKit

set_option maxRecDepth 20000 in
/-- append of what a slice reads as onto a row of the call's own. -/
theorem append_list {w : World} {ops : Array Oper} {rest : List Oper} {o : Oper} {a : Act} {Q : Exit → Act → World → Prop} (hgd : o.guard = none) (s x : Operand)
    (ho : o.op = .call { callee := .builtin .append, args := #[s, x], argTypes := #[26, 26] })
    (base : Nat) (v : Value) (l : List Int) (hs : a.eval s = v) (hown : OI base w v l) (A : Option Addr) (m c : Nat) (l2 : List Int) (hm : m = l2.length)
    (hx : a.eval x = .slice A m c) (hA : IA w A l2) (hN : A = none → c = 0) (hlen : l.length + l2.length ≤ 1000000) (hbase : base ≤ w.heap.size)
    (h : ∀ v' w', OI base w' v' (l ++ l2) → Below base w w' → wpList Try.prog ops Q rest (a.put o.dst v') w') :
    wpList Try.prog ops Q (o :: rest) a w := by
  obtain ⟨i0, hi, hz0, hz1, hz2⟩ := info_parts info'
  subst hm
  cases A with
  | none =>
    have h0 : l2 = [] := by
      rcases Nat.eq_zero_or_pos l2.length with h | h
      · exact List.eq_nil_of_length_eq_zero h
      · obtain ⟨b, o, e, _⟩ := hA h
        cases e
    subst h0
    rw [hN rfl] at hx
    refine wpList_append_own_none hgd s x 26 ho base 3 i0 1 Try.underlying26 hi v l.length _ hs hown hx (h v w ?_ (Below.refl _ _))
    rw [List.append_nil]
    exact hown
  | some ad =>
    refine wpList_append_own_at _ hgd s x 26 ho base 3 i0 (.int .i64 0) 1 8 Try.underlying26 hi hz0 hz1 hz2 rfl (by decide) v l.length _ hs hown ad l2.length c (l2.map (Value.int .i64)) hx (by simp) (fun j u hu => ?_) (fun u hu => ?_) (by unfold maxLen; omega) (by omega) hbase ?_
    · rw [List.getElem?_map] at hu
      cases e : l2[j]? with
      | none => rw [e] at hu; cases hu
      | some y =>
        rw [e] at hu
        injection hu with hu
        subst hu
        have hj : j < l2.length := (List.getElem?_eq_some_iff.1 e).1
        obtain ⟨b, o2, e2, _, hc⟩ := hA (by omega)
        injection e2 with e2
        subst e2
        rw [add_plain, hc j hj]
        simp [List.getD, e]
    · obtain ⟨y, _, rfl⟩ := List.mem_map.1 hu
      simp [Value.oneCell']
    · intro v' w' hown' hgrow _ _
      refine h v' w' ?_ (Below.grown (Below.refl _ _) hgrow hbase (fun k hk => (hown.lt k hk).1))
      unfold OI
      rw [List.length_append, List.map_append]
      exact hown'

/-- A slice of ints with its capacity. -/
structure InS (w : World) (A : Option Addr) (c : Nat) (l : List Int) : Prop where
  ia : IA w A l
  le : l.length ≤ c
  max : c ≤ maxLen
  non : A = none → c = 0
theorem OI.ins {base : Nat} {w : World} {v : Value} {l : List Int} (h : OI base w v l) : ∃ A c, v = .slice A l.length c ∧ InS w A c l ∧ ∀ a, A = some a → base ≤ a.block ∧ a.block < w.heap.size := by
  have hb := World.ownsRow.lt h
  obtain ⟨A, c, e, i⟩ := h.form
  subst e
  refine ⟨A, c, rfl, ?_, fun a e => hb a.block (by rw [e]; rfl)⟩
  rcases h.2 with ⟨e2, h0⟩ | ⟨g2, cap, cur, e2, _, _, h1, h2, _⟩
  · injection e2 with e3 e4 e5
    subst e5
    exact ⟨i, by omega, by unfold maxLen; omega, fun _ => rfl⟩
  · injection e2 with e3 e4 e5
    subst e5
    exact ⟨i, h1, h2, fun e => by rw [e] at e3; cases e3⟩

/-- What the document's Put and Push leave where there is room. -/
def RefLaid (w : World) (l : List Int) (e : Ending) (w' : World) : Prop := ∃ A c, e = .returned (.tuple #[.slice A l.length c, .bool true]) ∧ InS w' A c l ∧ (∀ a, A = some a → w.heap.size ≤ a.block ∧ a.block < w'.heap.size) ∧ Below w.heap.size w w'

set_option maxHeartbeats 1000000 in
theorem refPut_no (A : Option Addr) (c m : Nat) (most x : Int) (w : World) (hm : mostOf most ≤ m) :
    Calls Try.prog 17 #[.slice A m c, .int .i64 most, .int .i64 x] w fun e w' => e = .returned (.tuple #[.slice A m c, .bool false]) ∧ w = w' := by
  go_enter Try.func17, Try.ntmps17
  go_wp2_with fail
  refine (most_any most w).mono ?_
  rintro e w' ⟨rfl, rfl⟩
  generalize mostOf most = M at *
  go_wp2_with fail
  go_ret2
  exact ⟨rfl, rfl⟩
set_option maxHeartbeats 1000000 in
theorem refPush_no (A : Option Addr) (c m : Nat) (most x : Int) (w : World) (hm : mostOf most ≤ m) :
    Calls Try.prog 19 #[.slice A m c, .int .i64 most, .int .i64 x] w fun e w' => e = .returned (.tuple #[.slice A m c, .bool false]) ∧ w = w' := by
  go_enter Try.func19, Try.ntmps19
  go_wp2_with fail
  refine (most_any most w).mono ?_
  rintro e w' ⟨rfl, rfl⟩
  generalize mostOf most = M at *
  go_wp2_with fail
  go_ret2
  exact ⟨rfl, rfl⟩
set_option maxHeartbeats 2000000 in
theorem refPut_yes (A : Option Addr) (c m : Nat) (most x : Int) (l : List Int) (w : World) (hl : l.length = m) (hm : m < mostOf most) (hI : InS w A c l) :
    Calls Try.prog 17 #[.slice A m c, .int .i64 most, .int .i64 x] w (RefLaid w (l ++ [x])) := by
  have hM : mostOf most ≤ 65536 := by unfold mostOf; omega
  have HI := Lib.hid hI
  have HL := Lib.hid hl
  clear hI hl
  go_enter Try.func17, Try.ntmps17
  go_wp2_with fail
  refine (most_any most w).mono ?_
  rintro e w' ⟨rfl, rfl⟩
  generalize mostOf most = M at *
  have HO : Hid (OI w.heap.size (w.alloc (.cells #[] 3)) (.slice (some ⟨w.heap.size, 0, none⟩) 0 0) []) := Lib.hid ⟨rfl, .inr ⟨w.heap.size, 0, #[], rfl, Nat.le_refl _, World.alloc_heap_new w _, Nat.le_refl _, Nat.zero_le _, rfl, rfl⟩⟩
  go_wp2_with (at_builtin; first
    | (refine append_list rfl (.tmp 14) (.tmp 15) rfl w.heap.size _ [] rfl HO.out A m c l HL.out.symm rfl (HI.out.ia.alloc _) HI.out.non (by have := HL.out; simp; omega) (by simp) ?_; intro v3 w3 ho3 hb3; rw [List.nil_append] at ho3; have HO3 := Lib.hid ho3; have HB3 : Hid (Below w.heap.size w w3) := Lib.hid (((Below.refl _ w).alloc (Nat.le_refl _) _).trans hb3); clear ho3 hb3)
    | (refine append_list rfl (.tmp 16) (.tmp 18) rfl w.heap.size _ l rfl (World.ownsRow.alloc HO3.out _) (some ⟨w3.heap.size, 0, none⟩) 1 1 [x] rfl rfl (ia_lit w3 [x] #[.int .i64 x] 3 rfl) (fun h => by cases h) (by have := HL.out; simp; omega) (by have := HB3.out.size; simp; omega) ?_; intro v4 w4 ho4 hb4; obtain ⟨A4, c4, rfl, h4, h5⟩ := ho4.ins; have H4 := Lib.hid h4; have H5 := Lib.hid h5; have HB4 : Hid (Below w.heap.size w w4) := Lib.hid (HB3.out.trans (((Below.refl _ w3).alloc HB3.out.size _).trans hb4)); clear ho4 hb4 h4 h5))
  go_ret2
  exact ⟨_, _, by rw [List.length_append]; rfl, H4.out, H5.out, HB4.out⟩
set_option maxHeartbeats 2000000 in
theorem refPush_yes (A : Option Addr) (c m : Nat) (most x : Int) (l : List Int) (w : World) (hl : l.length = m) (hm : m < mostOf most) (hI : InS w A c l) :
    Calls Try.prog 19 #[.slice A m c, .int .i64 most, .int .i64 x] w (RefLaid w (x :: l)) := by
  have hM : mostOf most ≤ 65536 := by unfold mostOf; omega
  have HI := Lib.hid hI
  have HL := Lib.hid hl
  clear hI hl
  go_enter Try.func19, Try.ntmps19
  go_wp2_with fail
  refine (most_any most w).mono ?_
  rintro e w' ⟨rfl, rfl⟩
  generalize mostOf most = M at *
  have HO : Hid (OI w.heap.size (w.alloc (.cells #[.int .i64 x] 3)) (.slice (some ⟨w.heap.size, 0, none⟩) 1 1) [x]) := Lib.hid ⟨rfl, .inr ⟨w.heap.size, 1, #[.int .i64 x], rfl, Nat.le_refl _, World.alloc_heap_new w _, Nat.le_refl _, by decide, rfl, rfl⟩⟩
  go_wp2_with (at_builtin; refine append_list rfl (.tmp 15) (.tmp 16) rfl w.heap.size _ [x] rfl HO.out A m c l HL.out.symm rfl (HI.out.ia.alloc _) HI.out.non (by have := HL.out; simp; omega) (by simp) ?_; intro v4 w4 ho4 hb4; obtain ⟨A4, c4, rfl, h4, h5⟩ := ho4.ins; have H4 := Lib.hid h4; have H5 := Lib.hid h5; have HB4 : Hid (Below w.heap.size w w4) := Lib.hid (((Below.refl _ w).alloc (Nat.le_refl _) _).trans hb4); clear ho4 hb4 h4 h5)
  go_ret2
  exact ⟨_, _, by rw [List.length_cons]; first | rfl | (rw [Nat.add_comm]; rfl), H4.out, H5.out, HB4.out⟩

/-- What the document's Take and Last leave where something stands. -/
def RefGone (w : World) (B : Nat) (x : Int) (l : List Int) (e : Ending) (w' : World) : Prop := ∃ A c, e = .returned (.tuple #[.slice A l.length c, .int .i64 x, .bool true]) ∧ InS w A c l ∧ (∀ a, A = some a → a.block = B) ∧ ∃ j, w' = w.drewN j
theorem refTake_none (A : Option Addr) (c : Nat) (w : World) :
    Calls Try.prog 21 #[.slice A 0 c] w fun e w' => e = .returned (.tuple #[.slice A 0 c, .int .i64 0, .bool false]) ∧ w = w' := by
  go_enter Try.func21, Try.ntmps21
  go_wp2
  go_ret3
  exact ⟨rfl, rfl⟩
theorem refLast_none (A : Option Addr) (c : Nat) (w : World) :
    Calls Try.prog 23 #[.slice A 0 c] w fun e w' => e = .returned (.tuple #[.slice A 0 c, .int .i64 0, .bool false]) ∧ w = w' := by
  go_enter Try.func23, Try.ntmps23
  go_wp2
  go_ret3
  exact ⟨rfl, rfl⟩
theorem InS.block {w : World} {A : Option Addr} {c : Nat} {l : List Int} (h : InS w A c l) (hn : 0 < l.length) : ∃ b o, A = some ⟨b, o, none⟩ := by
  obtain ⟨b, o, e, _⟩ := h.ia hn
  exact ⟨b, o, e⟩
set_option maxHeartbeats 1000000 in
theorem refTake_some (b o c : Nat) (x : Int) (l : List Int) (n : Nat) (w : World) (hn : l.length = n) (hl : n ≤ 1000000) (hI : InS w (some ⟨b, o, none⟩) c (x :: l)) :
    Calls Try.prog 21 #[.slice (some ⟨b, o, none⟩) (n + 1) c] w (RefGone w b x l) := by
  have hc : n + 1 ≤ c := by have := hI.le; rw [List.length_cons] at this; omega
  have hm := hI.max
  unfold maxLen at hm
  obtain ⟨b', o', e, hb, hcc⟩ := hI.ia (by simp)
  injection e with e
  injection e with e1 e2
  subst e1 e2
  have c1 : w.cell? ⟨b, o, none⟩ = some (.int .i64 x) := hcc 0 (by simp)
  have HI : Hid (IA w (some ⟨b, o + 1, none⟩) l) := Lib.hid (fun h => ⟨b, o + 1, rfl, hb, fun i hi => by have := hcc (i + 1) (by simp; omega); rw [show o + 1 + i = o + (i + 1) by omega, this]; simp [List.getD]⟩)
  have HN := Lib.hid hn
  clear hcc hI hn
  by_cases h1 : c = 1
  · subst h1
    obtain rfl : n = 0 := by omega
    go_enter Try.func21, Try.ntmps21
    go_wp2
    go_quiet (fail)
    go_wp2
    go_ret3
    refine ⟨some ⟨b, o, none⟩, 0, by rw [HN.out]; rfl, ⟨fun h => by rw [HN.out] at h; omega, by rw [HN.out]; omega, Nat.zero_le _, fun h => by cases h⟩, fun a e => by injection e with e; rw [← e], nq, rfl⟩
  · have h2 : 1 < c := by omega
    have h3 : ((c : Int) - 1) = ((c - 1 : Nat) : Int) := by omega
    go_enter Try.func21, Try.ntmps21
    go_wp2
    go_quiet (fail)
    go_wp2
    go_ret3
    refine ⟨some ⟨b, o + 1, none⟩, c - 1, by rw [HN.out]; rfl, ⟨HI.out, by rw [HN.out]; omega, by unfold maxLen; omega, fun h => by cases h⟩, fun a e => by injection e with e; rw [← e], nq, rfl⟩
set_option maxHeartbeats 1000000 in
theorem refLast_some (b o c : Nat) (x : Int) (l : List Int) (n : Nat) (w : World) (hn : l.length = n) (hl : n ≤ 1000000) (hI : InS w (some ⟨b, o, none⟩) c (l ++ [x])) :
    Calls Try.prog 23 #[.slice (some ⟨b, o, none⟩) (n + 1) c] w (RefGone w b x l) := by
  have hc : n + 1 ≤ c := by have := hI.le; rw [List.length_append] at this; simp at this; omega
  have hm := hI.max
  unfold maxLen at hm
  obtain ⟨b', o', e, hb, hcc⟩ := hI.ia (by simp)
  injection e with e
  injection e with e1 e2
  subst e1 e2
  have c1 : w.cell? ⟨b, o + n, none⟩ = some (.int .i64 x) := by rw [hcc n (by simp; omega), ← hn]; simp [List.getD]
  have HI : Hid (IA w (some ⟨b, o, none⟩) l) := Lib.hid (fun h => ⟨b, o, rfl, hb, fun i hi => by rw [hcc i (by simp; omega)]; simp [List.getD, List.getElem?_append_left hi]⟩)
  have HN := Lib.hid hn
  have h3 : (((n + 1 : Nat) : Int) - 1) = (n : Int) := by omega
  clear hcc hI hn
  go_enter Try.func23, Try.ntmps23
  go_wp2
  go_quiet (fail)
  go_wp2
  go_ret3
  refine ⟨some ⟨b, o, none⟩, c, by rw [HN.out]; rfl, ⟨HI.out, by rw [HN.out]; omega, by unfold maxLen; omega, fun h => by cases h⟩, fun a e => by injection e with e; rw [← e], nq, rfl⟩
end Go.Proofs.Ytfhapodidjkmaaa
