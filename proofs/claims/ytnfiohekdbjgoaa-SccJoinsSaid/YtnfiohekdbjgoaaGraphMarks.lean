/- Graphs: marks (slices of bools), the law's own comparisons. -/
import Derived.Test.YtnfiohekdbjgoaaGraphRefSame
import Derived.Deep.Grids
namespace Go.Proofs.Ytnfiohekdbjgoaa
open Go.ChangeShapes Go.WideShapes Go.ChangeAt Go.RowKit Go.Deep

/-- A slice of bools at address A (nil let in) reads as l. -/
def BL (w : World) (A : Option Addr) (l : List Bool) : Prop :=
  0 < l.length → ∃ b off, A = some ⟨b, off, none⟩ ∧ b < w.heap.size ∧ ∀ i, i < l.length → w.cell? ⟨b, off + i, none⟩ = some (.bool (l.getD i false))
theorem BL.below {w w' : World} {A : Option Addr} {l : List Bool} (h : BL w A l) (hb : Below w.heap.size w w') : BL w' A l := fun hn => by
  obtain ⟨b, off, e, hl, hc⟩ := h hn
  exact ⟨b, off, e, Nat.lt_of_lt_of_le hl hb.size, fun i hi => (hb.cell (p := ⟨b, off + i, none⟩) hl).trans (hc i hi)⟩
theorem bool_cells : Try.prog.cellsOf 4 = 1 := by kernel_rfl
set_option maxRecDepth 100000 in
theorem open_bools_arg {H : Type} {enc : TypeId × Value → H} {W : World} {base : Nat} {v : Value} {d : DataW H} {ps : List MemPlace} (hv : Value.okWide Try.prog W .any base 33 v) (h : DataW.Trod enc Try.prog W 0 (fun _ => true) true 33 v d ps) :
    ∃ (A : Option Addr) (c : Nat) (l : List Bool), v = .slice A l.length c ∧ l.length ≤ c ∧ c ≤ maxLen ∧ BL W A l := by
  obtain ⟨a0, len, cap, rfl⟩ := okWide_slice Try.underlying33 hv
  obtain ⟨fuel, hf⟩ := h
  rcases open_bools Try.underlying33 Try.underlying4 bool_cells hf with ⟨hcs, _⟩ | ⟨a, len', cap', B, hcs, _, hl, hm, _, hcell⟩
  · simp [Value.cells] at hcs
    obtain ⟨rfl, rfl, rfl⟩ := hcs
    exact ⟨none, 0, [], rfl, Nat.le_refl _, Nat.zero_le _, fun h => absurd h (by simp)⟩
  · simp [Value.cells] at hcs
    obtain ⟨rfl, rfl, rfl⟩ := hcs
    refine ⟨some a, cap, (List.range len).map B, by simp, by simpa using hl, hm, fun h0 => ?_⟩
    simp only [List.length_map, List.length_range] at h0
    obtain ⟨b, off, spot⟩ := a
    have g0 := hcell 0 (by omega)
    have hspot : spot = none := by simpa [Addr.add] using World.cell?_spot g0
    subst hspot
    rw [add_plain] at g0
    refine ⟨b, off, rfl, lt_of_cell g0, fun i hi => ?_⟩
    simp only [List.length_map, List.length_range] at hi
    have g := hcell i (by omega)
    rw [add_plain] at g
    rw [g]
    simp [List.getD, hi]

theorem marked_any (A : Option Addr) (c n k : Nat) (l : List Bool) (w : World) (hn : l.length = n) (hm : n ≤ maxLen) (hk : k ≤ maxLen) (hA : BL w A l) :
    Calls Try.prog 57 #[.slice A n c, .int .i64 k] w fun e w' => e = .returned (.bool (l.getD k false)) ∧ w = w' := by
  unfold maxLen at hm hk
  by_cases hlt : k < n
  · obtain ⟨b, o, rfl, hb, hc⟩ := hA (by omega)
    have c1 := hc k (by omega)
    obtain ⟨x, HX⟩ : ∃ x, Hid (l.getD k false = x) := ⟨_, Lib.hid rfl⟩
    rw [HX.out] at c1 ⊢
    clear hc hA hn
    go_enter Try.func57, Try.ntmps57
    go_wp2
    go_ret
    exact ⟨rfl, rfl⟩
  · have HE : Hid (l.getD k false = false) := Lib.hid (by simp [List.getD, List.getElem?_eq_none (show l.length ≤ k by omega)])
    have h2 : n ≤ k := by omega
    rw [HE.out]
    clear hlt hA hn
    go_enter Try.func57, Try.ntmps57
    go_wp2
    go_ret
    exact ⟨ret_bool (by simp), rfl⟩
set_option maxHeartbeats 1000000 in
theorem lawInts_any (A B : Option Addr) (c d m1 m2 : Nat) (xs ys : List Int) (w : World) (hm1 : m1 = xs.length) (hm2 : m2 = ys.length) (hA : IA w A xs) (hB : IA w B ys) (hxl : xs.length ≤ maxLen) (hyl : ys.length ≤ maxLen) :
    Calls Try.prog 32 #[.slice A m1 c, .slice B m2 d] w fun e w' => e = .returned (.bool (eqB xs ys)) ∧ ∃ n, w' = w.drewN n := by
  subst hm1 hm2
  unfold maxLen at hxl hyl
  by_cases hl : xs.length = ys.length
  · have H := Lib.hid hl
    clear hl
    go_enter Try.func32, Try.ntmps32
    have hl0 : (xs.length : Int) = (ys.length : Int) := by rw [H.out]
    go_wp2
    clear hl0
    go_loopw [5] (fun i wr => ∃ (k j : Nat), k ≤ ys.length ∧ i = .int .i64 k ∧ wr = w.drewN j ∧ Hid (∀ i, i < k → xs.getD i 0 = ys.getD i 0)) (fun i _ => ys.length - (intOf i).toNat)
    case atStart => exact ⟨0, 0, Nat.zero_le _, rfl, rfl, Lib.hid (fun i hi => absurd hi (by omega))⟩
    case round =>
      obtain ⟨k, j, hk, rfl, rfl, HV⟩ := hrel
      by_cases hlty : k < ys.length
      · have hlt : k < xs.length := by rw [H.out]; exact hlty
        obtain ⟨bA, oA, rfl, hbA, hcA⟩ := hA (by omega)
        obtain ⟨bB, oB, rfl, hbB, hcB⟩ := hB (by omega)
        have c1 := hcA k hlt
        have c2 := hcB k hlty
        by_cases t1 : xs.getD k 0 = ys.getD k 0
        · have HS : Hid (∀ i, i < k + 1 → xs.getD i 0 = ys.getD i 0) := Lib.hid (fun i hi => by
            by_cases hik : i = k
            · subst hik; exact t1
            · exact HV.out i (by omega))
          rw [← t1] at c2
          generalize xs.getD k 0 = x at c1 c2
          clear hcA hcB hA hB t1 HV
          go_wp2
          go_quiet (fail)
          go_wp2
          go_roundw
          case rel => exact ⟨k + 1, _, by omega, by go_num, rfl, HS⟩
          case measure => simp [intOf]; omega
        · have HE : Hid (eqB xs ys = false) := Lib.hid (decide_eq_false (fun h => t1 (by rw [h])))
          generalize xs.getD k 0 = x at c1 t1
          generalize ys.getD k 0 = y at c2 t1
          have t2 : (x != y) = true := by simpa using t1
          clear hcA hcB hA hB t1 HV
          go_wp2
          go_quiet (fail)
          go_wp2
          go_ret
          exact ⟨ret_bool HE.out.symm, _, World.drewN_drewN _ _ _⟩
      · have hk2 : k = xs.length := by rw [H.out]; omega
        subst hk2
        have HE : Hid (eqB xs ys = true) := Lib.hid (decide_eq_true (getD_ext' H.out HV.out))
        have hge : ys.length ≤ xs.length := by omega
        clear hlty hk
        go_wp2
        go_ret
        exact ⟨ret_bool HE.out.symm, _, rfl⟩
  · have e : eqB xs ys = false := decide_eq_false (fun h => hl (by rw [h]))
    rw [e]
    go_enter Try.func32, Try.ntmps32
    go_wp2
    go_ret
    exact ⟨rfl, 0, rfl⟩

def eqM (xs ys : List Bool) : Bool := decide (xs = ys)
theorem getM_ext {xs ys : List Bool} (hl : xs.length = ys.length) (h : ∀ i, i < xs.length → xs.getD i false = ys.getD i false) : xs = ys := by
  apply List.ext_getElem hl
  intro i h1 h2
  have := h i h1
  simpa [List.getD, h1, h2] using this
set_option maxHeartbeats 1000000 in
theorem lawBools_any (A B : Option Addr) (c d m1 m2 : Nat) (xs ys : List Bool) (w : World) (hm1 : m1 = xs.length) (hm2 : m2 = ys.length) (hA : BL w A xs) (hB : BL w B ys) (hxl : xs.length ≤ maxLen) (hyl : ys.length ≤ maxLen) :
    Calls Try.prog 21 #[.slice A m1 c, .slice B m2 d] w fun e w' => e = .returned (.bool (eqM xs ys)) ∧ ∃ n, w' = w.drewN n := by
  subst hm1 hm2
  unfold maxLen at hxl hyl
  by_cases hl : xs.length = ys.length
  · have H := Lib.hid hl
    clear hl
    go_enter Try.func21, Try.ntmps21
    have hl0 : (xs.length : Int) = (ys.length : Int) := by rw [H.out]
    go_wp2
    clear hl0
    go_loopw [5] (fun i wr => ∃ (k j : Nat), k ≤ ys.length ∧ i = .int .i64 k ∧ wr = w.drewN j ∧ Hid (∀ i, i < k → xs.getD i false = ys.getD i false)) (fun i _ => ys.length - (intOf i).toNat)
    case atStart => exact ⟨0, 0, Nat.zero_le _, rfl, rfl, Lib.hid (fun i hi => absurd hi (by omega))⟩
    case round =>
      obtain ⟨k, j, hk, rfl, rfl, HV⟩ := hrel
      by_cases hlty : k < ys.length
      · have hlt : k < xs.length := by rw [H.out]; exact hlty
        obtain ⟨bA, oA, rfl, hbA, hcA⟩ := hA (by omega)
        obtain ⟨bB, oB, rfl, hbB, hcB⟩ := hB (by omega)
        have c1 := hcA k hlt
        have c2 := hcB k hlty
        have HS : Hid (xs.getD k false = ys.getD k false → ∀ i, i < k + 1 → xs.getD i false = ys.getD i false) := Lib.hid (fun e i hi => by
          by_cases hik : i = k
          · subst hik; exact e
          · exact HV.out i (by omega))
        have HF : Hid (xs.getD k false ≠ ys.getD k false → eqM xs ys = false) := Lib.hid (fun e => decide_eq_false (fun h => e (by rw [h])))
        generalize xs.getD k false = x at c1 HS HF
        generalize ys.getD k false = y at c2 HS HF
        clear hcA hcB hA hB HV
        by_cases t1 : x = y
        · subst t1
          have HS2 := Lib.hid (HS.out rfl)
          clear HS HF
          go_wp2
          go_quiet (fail)
          go_wp2
          go_roundw
          case rel => exact ⟨k + 1, _, by omega, by go_num, rfl, HS2⟩
          case measure => simp [intOf]; omega
        · have HE := Lib.hid (HF.out t1)
          clear HS HF
          cases x <;> cases y <;> try exact absurd rfl t1
          all_goals
            clear t1
            go_wp2
            go_quiet (fail)
            go_wp2
            go_ret
            exact ⟨ret_bool HE.out.symm, _, World.drewN_drewN _ _ _⟩
      · have hk2 : k = xs.length := by rw [H.out]; omega
        subst hk2
        have HE : Hid (eqM xs ys = true) := Lib.hid (decide_eq_true (getM_ext H.out HV.out))
        have hge : ys.length ≤ xs.length := by omega
        clear hlty hk
        go_wp2
        go_ret
        exact ⟨ret_bool HE.out.symm, _, rfl⟩
  · have e : eqM xs ys = false := decide_eq_false (fun h => hl (by rw [h]))
    rw [e]
    go_enter Try.func21, Try.ntmps21
    go_wp2
    go_ret
    exact ⟨rfl, 0, rfl⟩
end Go.Proofs.Ytnfiohekdbjgoaa
