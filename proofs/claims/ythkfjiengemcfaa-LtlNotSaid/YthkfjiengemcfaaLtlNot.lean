/- Not: the program's and the document's. -/
import Derived.Test.YthkfjiengemcfaaLtlRefused
import Derived.Test.YthkfjiengemcfaaLtlParts
import Derived.Lib.SliceRun
namespace Go.Proofs.Ythkfjiengemcfaa.lt
open Go.ChangeShapes Go.WideShapes Go.ChangeAt Go.RowKit sr

def encN (x : Int × Int) : List Value := [.int .i64 x.1, .int .i64 x.2]
theorem encN_len (x : Int × Int) : (encN x).length = 2 := rfl
theorem encN_one (x : Int × Int) : ∀ u ∈ encN x, u.oneCell' = true := fun u hu => by
  simp [encN] at hu
  rcases hu with rfl | rfl <;> rfl
theorem infoN : (Try.prog.info? 34).map (fun i => (i.zero, i.size, i.bytes)) = some (some (.agg #[.int .i64 0, .int .i64 0]), 2, 16) := by kernel_rfl
theorem rs_pa {w : World} {A : Option Addr} {l : List (Int × Int)} (h : RS encN 2 w A l) : PA w A l := fun hn => by
  obtain ⟨b, off, e, hb, hc⟩ := h hn
  exact ⟨b, off, e, hb, fun i hi => ⟨hc i hi 0 (by decide), hc i hi 1 (by decide)⟩⟩
theorem pa_rs {w : World} {A : Option Addr} {l : List (Int × Int)} (h : PA w A l) : RS encN 2 w A l := fun hn => by
  obtain ⟨b, off, e, hb, hc⟩ := h hn
  refine ⟨b, off, e, hb, fun i hi j hj => ?_⟩
  obtain ⟨g1, g2⟩ := hc i hi
  rcases j with _ | _ | j
  · rw [Nat.add_zero, g1]; rfl
  · rw [g2]; rfl
  · omega
abbrev ON (base : Nat) (w : World) (v : Value) (l : List (Int × Int)) : Prop := OR encN 2 base 34 w v l
theorem on_empty (w : World) (base : Nat) (hb : base ≤ w.heap.size) : ON base (w.alloc (.cells #[] 34)) (.slice (some ⟨w.heap.size, 0, none⟩) 0 0) [] :=
  ⟨by simp [flatR], .inr ⟨w.heap.size, 0, #[], rfl, hb, World.alloc_heap_new _ _, Nat.le_refl _, Nat.zero_le _, by simp, by simp [flatR]⟩⟩
/-- append of all of a slice onto a row of the call's own, in a region that keeps its order. -/
theorem list_append_nodes {w : World} {ops : Array Oper} {rest : List Oper} {o : Oper} {a : Act} {Q : Exit → Act → World → Prop} (base : Nat) (hgd : o.guard = none) (s x : Operand)
    (ho : o.op = .call { callee := .builtin .append, args := #[s, x], argTypes := #[22, 22] }) (hty : o.type = 22) (v : Value) (l : List (Int × Int)) (hs : a.eval s = v) (hown : ON base w v l) (A : Option Addr) (m c : Nat) (l2 : List (Int × Int)) (hx : a.eval x = .slice A m c) (hm : m = l2.length) (hpos : 0 < m) (hA : PA w A l2) (hlen : l.length + m ≤ 100000) (hbase : base ≤ w.heap.size)
    (h : ∀ v' w', ON base w' v' (l ++ l2) → Below base w w' → wpList Try.prog ops Q rest (a.put o.dst v') w') :
    wpList Try.prog ops Q (o :: rest) a w := by
  obtain ⟨v', w', hr, h2, h3⟩ := run_append_rs encN_len encN_one Try.underlying22 infoN rfl (by decide) (by decide) (w := w) base v l hown A m c l2 hm hpos (pa_rs hA) (by omega) hbase
  exact Lib.wpList_append_run w hgd s x 22 22 ho v _ hs hx _ w' (by rw [hty]; exact hr) (h v' w' h2 (Below.grown (Below.refl _ _) h3 hbase (fun k hk => (World.ownsRow.lt hown k hk).1)))
theorem on_form {base : Nat} {w : World} {v : Value} {l : List (Int × Int)} (h : ON base w v l) : ∃ A c, v = .slice A l.length c ∧ PA w A l ∧ l.length ≤ c := by
  obtain ⟨A, c, e, hr⟩ := OR.rs encN_len h
  refine ⟨A, c, e, rs_pa hr, ?_⟩
  rcases h.2 with ⟨e2, h0⟩ | ⟨g, cap, cur, e2, _, _, h3, _⟩
  · omega
  · rw [e] at e2
    injection e2 with _ _ e3
    omega
theorem eqlNil (w : World) (a : Option Addr) (l c : Nat) : (binOp .eql 22 (.slice a l c) (.slice none 0 0)).run Try.prog w = .ok (.bool a.isNone) w := Lib.run_eql_slice_nil w _ _ a l c 0 0 Try.underlying22
/-- What a call leaves that hands back nodes. -/
def NotP (w : World) (L : List (Int × Int)) (e : Ending) (w' : World) : Prop := ∃ A c, e = .returned (.slice A L.length c) ∧ PA w' A L ∧ L.length ≤ c ∧ Below w.heap.size w w'
def CloneP (w : World) (L : List (Int × Int)) (e : Ending) (w' : World) : Prop := ∃ v, e = .returned v ∧ ON w.heap.size w' v L ∧ Below w.heap.size w w'
set_option maxHeartbeats 1000000 in
theorem clone_any (e : List (Int × Int)) (A : Option Addr) (c m : Nat) (w : World) (hm : m = e.length) (h0 : 0 < m) (hm2 : m ≤ 1000) (hA : PA w A e) :
    Calls Try.prog 33 #[.slice A m c] w (CloneP w e) := by
  have HM := Lib.hid hm
  have HA := Lib.hid hA
  obtain ⟨b, o, rfl, _, _⟩ := hA (by omega)
  clear hm hA
  have heq := eqlNil w (some ⟨b, o, none⟩) m c
  go_enter Try.func33, Try.ntmps33
  go_wp2_with (at_builtin; go_loud (refine list_append_nodes w.heap.size rfl (.tmp 5) (.tmp 6) rfl rfl _ [] rfl (on_empty w w.heap.size (Nat.le_refl _)) _ m c e rfl HM.out h0 (HA.out.below (below_one _ _)) (by simp; omega) (by simp) ?_); intro v4 w4 ho4 hb4; rw [List.nil_append] at ho4; have HO4 := Lib.hid ho4; have HB4 : Hid (Below w.heap.size w w4) := Lib.hid ((below_one _ _).trans hb4); clear ho4 hb4)
  go_ret
  exact ⟨v4, rfl, HO4.out, HB4.out⟩
set_option maxRecDepth 20000 in
set_option maxHeartbeats 1000000 in
theorem not_any (e : List (Int × Int)) (A : Option Addr) (c m : Nat) (w : World) (hm : m = e.length) (hm2 : m ≤ 1000) (hA : PA w A e) :
    Calls Try.prog 19 #[.slice A m c] w (NotP w (notF e)) := by
  have HM := Lib.hid hm
  have HA := Lib.hid hA
  have HK := Lib.hid (wn.refused_any e A c m w hm hA hm2)
  clear hm hA
  obtain ⟨z, HZ⟩ : ∃ z, Hid (wrF 0 e = z) := ⟨_, Lib.hid rfl⟩
  go_enter Try.func19, Try.ntmps19
  go_wp2_with fail
  refine HK.out.mono ?_
  rintro x w1 ⟨rfl, hb1⟩
  have HB1 := Lib.hid hb1
  rw [HZ.out]
  clear hb1 HK
  by_cases hz : z = 0
  · subst hz
    have HU : Hid (notF e = e ++ [(4, 0)]) := Lib.hid (if_pos (isF_iff.2 HZ.out))
    have HPOS : Hid (0 < m) := Lib.hid (by
      rcases Nat.eq_zero_or_pos m with h | h
      · have h2 := HZ.out
        have : e = [] := List.eq_nil_of_length_eq_zero (by rw [← HM.out]; exact h)
        subst this
        exact absurd h2 (by decide)
      · exact h)
    go_wp2_with fail
    refine (clone_any e A c m w1 HM.out HPOS.out hm2 (HA.out.below HB1.out)).mono ?_
    rintro x w2 ⟨v, rfl, ho2, hb2⟩
    have HO2 := Lib.hid ho2
    have HB2 := Lib.hid hb2
    obtain ⟨A2, c2, rfl, _, _⟩ := on_form ho2
    clear ho2 hb2
    rw [← HM.out]
    rw [← HM.out] at HO2
    have HL : Hid (e.length ≤ 100000) := Lib.hid (by rw [← HM.out]; omega)
    go_wp2_with (at_builtin; refine list_append_own encN_len encN_one Try.underlying22 infoN rfl (by decide) (by decide) w1.heap.size _ rfl (.tmp 7) (.tmp 9) rfl rfl _ e rfl (World.ownsRow.alloc HO2.out _) (4, 0) _ rfl rfl HL.out (by have := HB2.out.size; simp; omega) _ (World.alloc_heap_new _ _) ?_; intro v4 w4 ho4 hb4 _; have HO4 := Lib.hid ho4; have HB4 : Hid (Below w1.heap.size w1 w4) := Lib.hid ((HB2.out.alloc HB2.out.size _).trans hb4); clear ho4 hb4)
    go_ret
    obtain ⟨A5, c5, rfl, h5, h6⟩ := on_form HO4.out
    exact ⟨A5, c5, by rw [HU.out]; rfl, by rw [HU.out]; exact h5, by rw [HU.out]; exact h6, HB1.out.trans (HB4.out.mono HB1.out.size)⟩
  · have hz2 : (z != 0) = true := by simpa using hz
    have HU : Hid (notF e = []) := Lib.hid (if_neg (fun h => hz (by rw [← HZ.out]; exact isF_iff.1 h)))
    go_wp2
    go_ret
    exact ⟨none, 0, by rw [HU.out]; rfl, by rw [HU.out]; exact fun h => absurd h (by decide), by rw [HU.out]; exact Nat.le_refl _, HB1.out⟩
set_option maxRecDepth 20000 in
set_option maxHeartbeats 1000000 in
theorem refNot_any (e : List (Int × Int)) (A : Option Addr) (c m : Nat) (w : World) (hm : m = e.length) (hm2 : m ≤ 1000) (hA : PA w A e) :
    Calls Try.prog 20 #[.slice A m c] w (NotP w (notF e)) := by
  have HM := Lib.hid hm
  have HA := Lib.hid hA
  have HK := Lib.hid (refIs_any e A c m w hm hm2 hA)
  clear hm hA
  obtain ⟨z, HZ⟩ : ∃ z, Hid (isF e = z) := ⟨_, Lib.hid rfl⟩
  go_enter Try.func20, Try.ntmps20
  go_wp2_with fail
  refine HK.out.mono ?_
  rintro x w1 ⟨rfl, rfl⟩
  rw [HZ.out]
  clear HK
  cases z with
  | true =>
    have HU : Hid (notF e = e ++ [(4, 0)]) := Lib.hid (if_pos HZ.out)
    have HPOS : Hid (0 < m) := Lib.hid (by
      rcases Nat.eq_zero_or_pos m with h | h
      · have h2 := HZ.out
        have : e = [] := List.eq_nil_of_length_eq_zero (by rw [← HM.out]; exact h)
        subst this
        exact absurd h2 (by decide)
      · exact h)
    have HL : Hid (e.length ≤ 100000) := Lib.hid (by rw [← HM.out]; omega)
    go_wp2_with (first
      | (at_builtin; refine list_append_nodes w.heap.size rfl (.tmp 6) (.tmp 7) rfl rfl _ [] rfl (on_empty w w.heap.size (Nat.le_refl _)) _ m c e rfl HM.out HPOS.out (HA.out.below (below_one _ _)) (by simp; omega) (by simp) ?_; intro v3 w3 ho3 hb3; rw [List.nil_append] at ho3; have HO3 := Lib.hid ho3; have HB3 : Hid (Below w.heap.size w w3) := Lib.hid ((below_one _ _).trans hb3); clear ho3 hb3)
      | (at_builtin; refine list_append_own encN_len encN_one Try.underlying22 infoN rfl (by decide) (by decide) w.heap.size _ rfl (.tmp 8) (.tmp 10) rfl rfl _ e rfl (World.ownsRow.alloc HO3.out _) (4, 0) _ rfl rfl HL.out (by have := HB3.out.size; simp; omega) _ (World.alloc_heap_new _ _) ?_; intro v4 w4 ho4 hb4 _; have HO4 := Lib.hid ho4; have HB4 : Hid (Below w.heap.size w w4) := Lib.hid ((HB3.out.alloc HB3.out.size _).trans hb4); clear ho4 hb4)
      | fail)
    go_ret
    obtain ⟨A5, c5, rfl, h5, h6⟩ := on_form HO4.out
    exact ⟨A5, c5, by rw [HU.out]; rfl, by rw [HU.out]; exact h5, by rw [HU.out]; exact h6, HB4.out⟩
  | false =>
    have HU : Hid (notF e = []) := Lib.hid (if_neg (by rw [HZ.out]; decide))
    go_wp2
    go_ret
    exact ⟨none, 0, by rw [HU.out]; rfl, by rw [HU.out]; exact fun h => absurd h (by decide), by rw [HU.out]; exact Nat.le_refl _, Below.refl _ _⟩
end Go.Proofs.Ythkfjiengemcfaa.lt
