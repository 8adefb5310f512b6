/- Graphs: Same and what it calls; the document's Same. -/
import Derived.Test.YtnfiohekdbjgoaaGraphRefCheck
namespace Go.Proofs.Ytnfiohekdbjgoaa
open Go.ChangeShapes Go.WideShapes Go.ChangeAt Go.RowKit

def UL (w : World) (A : Option Addr) (zs : List Int) : Prop := LA .u64 w A zs
set_option maxHeartbeats 1000000 in
theorem equal_ints (A B : Option Addr) (c d m1 m2 : Nat) (xs ys : List Int) (w : World) (hm1 : m1 = xs.length) (hm2 : m2 = ys.length) (hA : IA w A xs) (hB : IA w B ys) (hxl : xs.length ≤ maxLen) (hyl : ys.length ≤ maxLen) :
    Calls Try.prog 51 #[.slice A m1 c, .slice B m2 d] w fun e w' => e = .returned (.bool (eqB xs ys)) ∧ ∃ n, w' = w.drewN n := by
  subst hm1 hm2
  unfold maxLen at hxl hyl
  by_cases hl : xs.length = ys.length
  · have H := Lib.hid hl
    clear hl
    go_enter Try.func51, Try.ntmps51
    have hl0 : (xs.length : Int) = (ys.length : Int) := by rw [H.out]
    go_wp2
    clear hl0
    go_loopw [13] (fun i wr => ∃ (k j : Nat), k ≤ ys.length ∧ i = .int .i64 k ∧ wr = w.drewN j ∧ Hid (∀ i, i < k → xs.getD i 0 = ys.getD i 0)) (fun i _ => ys.length - (intOf i).toNat)
    case atStart => exact ⟨0, 0, Nat.zero_le _, rfl, rfl, Lib.hid (fun i hi => absurd hi (by omega))⟩
    case round =>
      obtain ⟨k, j, hk, rfl, rfl, HV⟩ := hrel
      by_cases hlty : k < ys.length
      · have hlt : k < xs.length := by rw [H.out]; exact hlty
        obtain ⟨bA, oA, rfl, hbA, hcA⟩ := hA (by omega)
        obtain ⟨bB, oB, rfl, hbB, hcB⟩ := hB (by omega)
        have c1 := hcA k hlt
        have c2 := hcB k hlty
        by_cases t1 : xs.getD k 0 = ys.getD k 0
        · have HS : Hid (∀ i, i < k + 1 → xs.getD i 0 = ys.getD i 0) := Lib.hid (fun i hi => by
            by_cases hik : i = k
            · subst hik; exact t1
            · exact HV.out i (by omega))
          rw [← t1] at c2
          generalize xs.getD k 0 = x at c1 c2
          clear hcA hcB hA hB t1 HV
          go_wp2
          go_quiet (fail)
          go_wp2
          go_roundw
          case rel => exact ⟨k + 1, _, by omega, by go_num, rfl, HS⟩
          case measure => simp [intOf]; omega
        · have HE : Hid (eqB xs ys = false) := Lib.hid (decide_eq_false (fun h => t1 (by rw [h])))
          generalize xs.getD k 0 = x at c1 t1
          generalize ys.getD k 0 = y at c2 t1
          have t2 : (x != y) = true := by simpa using t1
          clear hcA hcB hA hB t1 HV
          go_wp2
          go_quiet (fail)
          go_wp2
          go_ret
          exact ⟨ret_bool HE.out.symm, _, World.drewN_drewN _ _ _⟩
      · have hk2 : k = xs.length := by rw [H.out]; omega
        subst hk2
        have HE : Hid (eqB xs ys = true) := Lib.hid (decide_eq_true (getD_ext' H.out HV.out))
        have hge : ys.length ≤ xs.length := by omega
        clear hlty hk
        go_wp2
        go_ret
        exact ⟨ret_bool HE.out.symm, _, rfl⟩
  · have e : eqB xs ys = false := decide_eq_false (fun h => hl (by rw [h]))
    rw [e]
    go_enter Try.func51, Try.ntmps51
    go_wp2
    go_ret
    exact ⟨rfl, 0, rfl⟩

set_option maxHeartbeats 1000000 in
theorem equal_words (A B : Option Addr) (c d m1 m2 : Nat) (xs ys : List Int) (w : World) (hm1 : m1 = xs.length) (hm2 : m2 = ys.length) (hA : UL w A xs) (hB : UL w B ys) (hxl : xs.length ≤ maxLen) (hyl : ys.length ≤ maxLen) :
    Calls Try.prog 54 #[.slice A m1 c, .slice B m2 d] w fun e w' => e = .returned (.bool (eqB xs ys)) ∧ ∃ n, w' = w.drewN n := by
  subst hm1 hm2
  unfold maxLen at hxl hyl
  by_cases hl : xs.length = ys.length
  · have H := Lib.hid hl
    clear hl
    go_enter Try.func54, Try.ntmps54
    have hl0 : (xs.length : Int) = (ys.length : Int) := by rw [H.out]
    go_wp2
    clear hl0
    go_loopw [13] (fun i wr => ∃ (k j : Nat), k ≤ ys.length ∧ i = .int .i64 k ∧ wr = w.drewN j ∧ Hid (∀ i, i < k → xs.getD i 0 = ys.getD i 0)) (fun i _ => ys.length - (intOf i).toNat)
    case atStart => exact ⟨0, 0, Nat.zero_le _, rfl, rfl, Lib.hid (fun i hi => absurd hi (by omega))⟩
    case round =>
      obtain ⟨k, j, hk, rfl, rfl, HV⟩ := hrel
      by_cases hlty : k < ys.length
      · have hlt : k < xs.length := by rw [H.out]; exact hlty
        obtain ⟨bA, oA, rfl, hbA, hcA⟩ := hA (by omega)
        obtain ⟨bB, oB, rfl, hbB, hcB⟩ := hB (by omega)
        have c1 := hcA k hlt
        have c2 := hcB k hlty
        by_cases t1 : xs.getD k 0 = ys.getD k 0
        · have HS : Hid (∀ i, i < k + 1 → xs.getD i 0 = ys.getD i 0) := Lib.hid (fun i hi => by
            by_cases hik : i = k
            · subst hik; exact t1
            · exact HV.out i (by omega))
          rw [← t1] at c2
          generalize xs.getD k 0 = x at c1 c2
          clear hcA hcB hA hB t1 HV
          go_wp2
          go_quiet (fail)
          go_wp2
          go_roundw
          case rel => exact ⟨k + 1, _, by omega, by go_num, rfl, HS⟩
          case measure => simp [intOf]; omega
        · have HE : Hid (eqB xs ys = false) := Lib.hid (decide_eq_false (fun h => t1 (by rw [h])))
          generalize xs.getD k 0 = x at c1 t1
          generalize ys.getD k 0 = y at c2 t1
          have t2 : (x != y) = true := by simpa using t1
          clear hcA hcB hA hB t1 HV
          go_wp2
          go_quiet (fail)
          go_wp2
          go_ret
          exact ⟨ret_bool HE.out.symm, _, World.drewN_drewN _ _ _⟩
      · have hk2 : k = xs.length := by rw [H.out]; omega
        subst hk2
        have HE : Hid (eqB xs ys = true) := Lib.hid (decide_eq_true (getD_ext' H.out HV.out))
        have hge : ys.length ≤ xs.length := by omega
        clear hlty hk
        go_wp2
        go_ret
        exact ⟨ret_bool HE.out.symm, _, rfl⟩
  · have e : eqB xs ys = false := decide_eq_false (fun h => hl (by rw [h]))
    rw [e]
    go_enter Try.func54, Try.ntmps54
    go_wp2
    go_ret
    exact ⟨rfl, 0, rfl⟩

set_option maxHeartbeats 1000000 in
theorem refInts_any (A B : Option Addr) (c d m1 m2 : Nat) (xs ys : List Int) (w : World) (hm1 : m1 = xs.length) (hm2 : m2 = ys.length) (hA : IA w A xs) (hB : IA w B ys) (hxl : xs.length ≤ maxLen) (hyl : ys.length ≤ maxLen) :
    Calls Try.prog 55 #[.slice A m1 c, .slice B m2 d] w fun e w' => e = .returned (.bool (eqB xs ys)) ∧ ∃ n, w' = w.drewN n := by
  subst hm1 hm2
  unfold maxLen at hxl hyl
  by_cases hl : xs.length = ys.length
  · have H := Lib.hid hl
    clear hl
    go_enter Try.func55, Try.ntmps55
    have hl0 : (xs.length : Int) = (ys.length : Int) := by rw [H.out]
    go_wp2
    clear hl0
    go_loopw [5] (fun i wr => ∃ (k j : Nat), k ≤ ys.length ∧ i = .int .i64 k ∧ wr = w.drewN j ∧ Hid (∀ i, i < k → xs.getD i 0 = ys.getD i 0)) (fun i _ => ys.length - (intOf i).toNat)
    case atStart => exact ⟨0, 0, Nat.zero_le _, rfl, rfl, Lib.hid (fun i hi => absurd hi (by omega))⟩
    case round =>
      obtain ⟨k, j, hk, rfl, rfl, HV⟩ := hrel
      by_cases hlty : k < ys.length
      · have hlt : k < xs.length := by rw [H.out]; exact hlty
        obtain ⟨bA, oA, rfl, hbA, hcA⟩ := hA (by omega)
        obtain ⟨bB, oB, rfl, hbB, hcB⟩ := hB (by omega)
        have c1 := hcA k hlt
        have c2 := hcB k hlty
        by_cases t1 : xs.getD k 0 = ys.getD k 0
        · have HS : Hid (∀ i, i < k + 1 → xs.getD i 0 = ys.getD i 0) := Lib.hid (fun i hi => by
            by_cases hik : i = k
            · subst hik; exact t1
            · exact HV.out i (by omega))
          rw [← t1] at c2
          generalize xs.getD k 0 = x at c1 c2
          clear hcA hcB hA hB t1 HV
          go_wp2
          go_quiet (fail)
          go_wp2
          go_roundw
          case rel => exact ⟨k + 1, _, by omega, by go_num, rfl, HS⟩
          case measure => simp [intOf]; omega
        · have HE : Hid (eqB xs ys = false) := Lib.hid (decide_eq_false (fun h => t1 (by rw [h])))
          generalize xs.getD k 0 = x at c1 t1
          generalize ys.getD k 0 = y at c2 t1
          have t2 : (x != y) = true := by simpa using t1
          clear hcA hcB hA hB t1 HV
          go_wp2
          go_quiet (fail)
          go_wp2
          go_ret
          exact ⟨ret_bool HE.out.symm, _, World.drewN_drewN _ _ _⟩
      · have hk2 : k = xs.length := by rw [H.out]; omega
        subst hk2
        have HE : Hid (eqB xs ys = true) := Lib.hid (decide_eq_true (getD_ext' H.out HV.out))
        have hge : ys.length ≤ xs.length := by omega
        clear hlty hk
        go_wp2
        go_ret
        exact ⟨ret_bool HE.out.symm, _, rfl⟩
  · have e : eqB xs ys = false := decide_eq_false (fun h => hl (by rw [h]))
    rw [e]
    go_enter Try.func55, Try.ntmps55
    go_wp2
    go_ret
    exact ⟨rfl, 0, rfl⟩


theorem getP_ext {xs ys : List (Int × Int)} (hl : xs.length = ys.length) (h : ∀ i, i < xs.length → xs.getD i (0, 0) = ys.getD i (0, 0)) : xs = ys := by
  apply List.ext_getElem hl
  intro i h1 h2
  have := h i h1
  simpa [List.getD, h1, h2] using this
def eqP (xs ys : List (Int × Int)) : Bool := decide (xs = ys)
set_option maxHeartbeats 1000000 in
theorem equal_edges (A B : Option Addr) (c d m1 m2 : Nat) (xs ys : List (Int × Int)) (w : World) (hm1 : m1 = xs.length) (hm2 : m2 = ys.length) (hA : PA w A xs) (hB : PA w B ys) (hxl : xs.length ≤ maxLen) (hyl : ys.length ≤ maxLen) :
    Calls Try.prog 53 #[.slice A m1 c, .slice B m2 d] w fun e w' => e = .returned (.bool (eqP xs ys)) ∧ ∃ n, w' = w.drewN n := by
  subst hm1 hm2
  unfold maxLen at hxl hyl
  by_cases hl : xs.length = ys.length
  · have H := Lib.hid hl
    clear hl
    go_enter Try.func53, Try.ntmps53
    have hl0 : (xs.length : Int) = (ys.length : Int) := by rw [H.out]
    go_wp2
    clear hl0
    go_loopw [13] (fun i wr => ∃ (k j : Nat), k ≤ ys.length ∧ i = .int .i64 k ∧ wr = w.drewN j ∧ Hid (∀ i, i < k → xs.getD i (0, 0) = ys.getD i (0, 0))) (fun i _ => ys.length - (intOf i).toNat)
    case atStart => exact ⟨0, 0, Nat.zero_le _, rfl, rfl, Lib.hid (fun i hi => absurd hi (by omega))⟩
    case round =>
      obtain ⟨k, j, hk, rfl, rfl, HV⟩ := hrel
      by_cases hlty : k < ys.length
      · have hlt : k < xs.length := by rw [H.out]; exact hlty
        obtain ⟨bA, oA, rfl, hbA, hcA⟩ := hA (by omega)
        obtain ⟨bB, oB, rfl, hbB, hcB⟩ := hB (by omega)
        have c1 := (hcA k hlt).1
        have c2 := (hcB k hlty).1
        have c3 := (hcA k hlt).2
        have c4 := (hcB k hlty).2
        by_cases t1 : xs.getD k (0, 0) = ys.getD k (0, 0)
        · have HS : Hid (∀ i, i < k + 1 → xs.getD i (0, 0) = ys.getD i (0, 0)) := Lib.hid (fun i hi => by
            by_cases hik : i = k
            · subst hik; exact t1
            · exact HV.out i (by omega))
          rw [← t1] at c2 c4
          generalize (xs.getD k (0, 0)).1 = x at c1 c2
          generalize (xs.getD k (0, 0)).2 = y at c3 c4
          clear hcA hcB hA hB t1 HV
          go_wp2
          go_quiet (fail)
          go_wp2
          go_roundw
          case rel => exact ⟨k + 1, _, by omega, by go_num, rfl, HS⟩
          case measure => simp [intOf]; omega
        · have HE : Hid (eqP xs ys = false) := Lib.hid (decide_eq_false (fun h => t1 (by rw [h])))
          have t2 : ((xs.getD k (0, 0)).1 != (ys.getD k (0, 0)).1 || (xs.getD k (0, 0)).2 != (ys.getD k (0, 0)).2) = true := by
            rw [Bool.or_eq_true]
            simp only [bne_iff_ne]
            by_cases e1 : (xs.getD k (0, 0)).1 = (ys.getD k (0, 0)).1
            · right
              intro e2
              exact t1 (Prod.ext e1 e2)
            · exact .inl e1
          generalize (xs.getD k (0, 0)).1 = x at c1 t2
          generalize (xs.getD k (0, 0)).2 = y at c3 t2
          generalize (ys.getD k (0, 0)).1 = x' at c2 t2
          generalize (ys.getD k (0, 0)).2 = y' at c4 t2
          clear hcA hcB hA hB t1 HV
          by_cases hx : x = x'
          · subst hx
            have hy : y ≠ y' := by intro e; subst e; simp at t2
            have hy2 : (y == y') = false := by simpa using hy
            clear t2
            go_wp2
            go_quiet (fail)
            go_wp2
            go_ret
            exact ⟨ret_bool HE.out.symm, _, World.drewN_drewN _ _ _⟩
          · have hx2 : (x == x') = false := by simpa using hx
            clear t2
            go_wp2
            go_quiet (fail)
            go_wp2
            go_ret
            exact ⟨ret_bool HE.out.symm, _, World.drewN_drewN _ _ _⟩
      · have hk2 : k = xs.length := by rw [H.out]; omega
        subst hk2
        have HE : Hid (eqP xs ys = true) := Lib.hid (decide_eq_true (getP_ext H.out HV.out))
        have hge : ys.length ≤ xs.length := by omega
        clear hlty hk
        go_wp2
        go_ret
        exact ⟨ret_bool HE.out.symm, _, rfl⟩
  · have e : eqP xs ys = false := decide_eq_false (fun h => hl (by rw [h]))
    rw [e]
    go_enter Try.func53, Try.ntmps53
    go_wp2
    go_ret
    exact ⟨rfl, 0, rfl⟩

theorem getR_ext {xs ys : List (List (Int × Int))} (hl : xs.length = ys.length) (h : ∀ i, i < xs.length → xs.getD i [] = ys.getD i []) : xs = ys := by
  apply List.ext_getElem hl
  intro i h1 h2
  have := h i h1
  simpa [List.getD, h1, h2] using this
def eqR (xs ys : List (List (Int × Int))) : Bool := decide (xs = ys)
theorem RA.drewN {w : World} {A : Option Addr} {rows : List (List (Int × Int))} (h : RA w A rows) (j : Nat) : RA (w.drewN j) A rows := h
set_option maxHeartbeats 1000000 in
theorem equal_rows (A B : Option Addr) (c d m1 m2 : Nat) (xs ys : List (List (Int × Int))) (w : World) (hm1 : m1 = xs.length) (hm2 : m2 = ys.length) (hA : RA w A xs) (hB : RA w B ys) (hxl : xs.length ≤ maxLen) (hyl : ys.length ≤ maxLen) :
    Calls Try.prog 52 #[.slice A m1 c, .slice B m2 d, .func (.func 53) #[] #[]] w fun e w' => e = .returned (.bool (eqR xs ys)) ∧ ∃ n, w' = w.drewN n := by
  subst hm1 hm2
  unfold maxLen at hxl hyl
  by_cases hl : xs.length = ys.length
  · have H := Lib.hid hl
    clear hl
    go_enter Try.func52, Try.ntmps52
    have hl0 : (xs.length : Int) = (ys.length : Int) := by rw [H.out]
    go_wp2_with fail
    clear hl0
    go_loopw [17] (fun i wr => ∃ (k j : Nat), k ≤ ys.length ∧ i = .int .i64 k ∧ wr = w.drewN j ∧ Hid (∀ i, i < k → xs.getD i [] = ys.getD i [])) (fun i _ => ys.length - (intOf i).toNat)
    case atStart => exact ⟨0, 0, Nat.zero_le _, rfl, rfl, Lib.hid (fun i hi => absurd hi (by omega))⟩
    case round =>
      obtain ⟨k, j, hk, rfl, rfl, HV⟩ := hrel
      by_cases hlty : k < ys.length
      · have hlt : k < xs.length := by rw [H.out]; exact hlty
        obtain ⟨bA, oA, rfl, hbA, hcA⟩ := hA (by omega)
        obtain ⟨bB, oB, rfl, hbB, hcB⟩ := hB (by omega)
        obtain ⟨A1, c1, a1, a2, a3, a4⟩ := hcA k hlt
        obtain ⟨B1, d1, b1, b2, b3, b4⟩ := hcB k hlty
        have HE : Hid (eqP (xs.getD k []) (ys.getD k []) = true → ∀ i, i < k + 1 → xs.getD i [] = ys.getD i []) := Lib.hid (fun e i hi => by
          by_cases hik : i = k
          · subst hik; exact of_decide_eq_true e
          · exact HV.out i (by omega))
        have HF : Hid (eqP (xs.getD k []) (ys.getD k []) = false → eqR xs ys = false) := Lib.hid (fun e => decide_eq_false (fun h => of_decide_eq_false e (by rw [h])))
        have P1 : Hid (PA (w.drewN j) A1 (xs.getD k [])) := Lib.hid a4
        have P2 : Hid (PA (w.drewN j) B1 (ys.getD k [])) := Lib.hid b4
        have HL1 : Hid ((xs.getD k []).length ≤ maxLen) := Lib.hid (Nat.le_trans a2 a3)
        have HL2 : Hid ((ys.getD k []).length ≤ maxLen) := Lib.hid (Nat.le_trans b2 b3)
        generalize xs.getD k [] = rx at a1 P1 HE HF HL1
        generalize ys.getD k [] = ry at b1 P2 HE HF HL2
        obtain ⟨n1, HN1⟩ : ∃ n1, Hid (rx.length = n1) := ⟨_, Lib.hid rfl⟩
        obtain ⟨n2, HN2⟩ : ∃ n2, Hid (ry.length = n2) := ⟨_, Lib.hid rfl⟩
        rw [HN1.out] at a1
        rw [HN2.out] at b1
        clear hcA hcB hA hB HV a2 a3 a4 b2 b3 b4
        go_wp2_with fail
        refine (equal_edges A1 B1 c1 d1 n1 n2 rx ry _ HN1.out.symm HN2.out.symm P1.out P2.out HL1.out HL2.out).mono ?_
        rintro e w' ⟨rfl, j2, rfl⟩
        by_cases hy : eqP rx ry = true
        · rw [hy]
          have HS := Lib.hid (HE.out hy)
          clear HE HF hy a1 b1
          go_wp2_with fail
          go_roundw
          case rel => exact ⟨k + 1, _, by omega, by go_num, by first | rfl | exact World.drewN_drewN _ _ _, HS⟩
          case measure => simp [intOf]; omega
        · have hy2 : eqP rx ry = false := by simpa using hy
          rw [hy2]
          have HS := Lib.hid (HF.out hy2)
          clear HE HF hy hy2 a1 b1
          go_wp2_with fail
          go_ret
          exact ⟨ret_bool HS.out.symm, _, by first | rfl | exact World.drewN_drewN _ _ _⟩
      · have hk2 : k = xs.length := by rw [H.out]; omega
        subst hk2
        have HE : Hid (eqR xs ys = true) := Lib.hid (decide_eq_true (getR_ext H.out HV.out))
        have hge : ys.length ≤ xs.length := by omega
        clear hlty hk
        go_wp2_with fail
        go_ret
        exact ⟨ret_bool HE.out.symm, _, rfl⟩
  · have e : eqR xs ys = false := decide_eq_false (fun h => hl (by rw [h]))
    rw [e]
    go_enter Try.func52, Try.ntmps52
    go_wp2
    go_ret
    exact ⟨rfl, 0, rfl⟩

/-- Are two graphs the same? -/
def sameB (G H : Gr) : Bool := eqB G.init H.init && (eqR G.rows H.rows && eqB G.labels H.labels)
set_option maxHeartbeats 1000000 in
theorem same_any {w : World} {v u : Value} {G H : Gr} (hv : GV w v G) (hu : GV w u H) : Calls Try.prog 19 #[v, u] w fun e w' => e = .returned (.bool (sameB G H)) ∧ Below w.heap.size w w' := by
  obtain ⟨A1, c1, A2, c2, A3, c3, rfl, ⟨a1, b1, d1⟩, ⟨a2, b2, d2⟩, ⟨a3, b3, d3⟩⟩ := hv
  obtain ⟨A4, c4, A5, c5, A6, c6, rfl, ⟨a4, b4, d4⟩, ⟨a5, b5, d5⟩, ⟨a6, b6, d6⟩⟩ := hu
  unfold sameB
  have HG1 : Hid (∀ W, Below w.heap.size w W → ∀ m1 m2, m1 = G.init.length → m2 = H.init.length → Calls Try.prog 51 #[.slice A1 m1 c1, .slice A4 m2 c4] W fun e w' => e = .returned (.bool (eqB G.init H.init)) ∧ ∃ n, w' = W.drewN n) := Lib.hid (fun W hW m1 m2 e1 e2 => equal_ints _ _ _ _ _ _ G.init H.init W e1 e2 (LA.below d1 hW) (LA.below d4 hW) (by omega) (by omega))
  have HG2 : Hid (∀ W, Below w.heap.size w W → ∀ m1 m2, m1 = G.rows.length → m2 = H.rows.length → Calls Try.prog 52 #[.slice A2 m1 c2, .slice A5 m2 c5, .func (.func 53) #[] #[]] W fun e w' => e = .returned (.bool (eqR G.rows H.rows)) ∧ ∃ n, w' = W.drewN n) := Lib.hid (fun W hW m1 m2 e1 e2 => equal_rows _ _ _ _ _ _ G.rows H.rows W e1 e2 (d2.below hW) (d5.below hW) (by omega) (by omega))
  have HG3 : Hid (∀ W, Below w.heap.size w W → ∀ m1 m2, m1 = G.labels.length → m2 = H.labels.length → Calls Try.prog 54 #[.slice A3 m1 c3, .slice A6 m2 c6] W fun e w' => e = .returned (.bool (eqB G.labels H.labels)) ∧ ∃ n, w' = W.drewN n) := Lib.hid (fun W hW m1 m2 e1 e2 => equal_words _ _ _ _ _ _ G.labels H.labels W e1 e2 (LA.below d3 hW) (LA.below d6 hW) (by omega) (by omega))
  clear a1 b1 d1 a2 b2 d2 a3 b3 d3 a4 b4 d4 a5 b5 d5 a6 b6 d6
  obtain ⟨m1, M1⟩ : ∃ m1, Hid (G.init.length = m1) := ⟨_, Lib.hid rfl⟩
  obtain ⟨m2, M2⟩ : ∃ m2, Hid (G.rows.length = m2) := ⟨_, Lib.hid rfl⟩
  obtain ⟨m3, M3⟩ : ∃ m3, Hid (G.labels.length = m3) := ⟨_, Lib.hid rfl⟩
  obtain ⟨m4, M4⟩ : ∃ m4, Hid (H.init.length = m4) := ⟨_, Lib.hid rfl⟩
  obtain ⟨m5, M5⟩ : ∃ m5, Hid (H.rows.length = m5) := ⟨_, Lib.hid rfl⟩
  obtain ⟨m6, M6⟩ : ∃ m6, Hid (H.labels.length = m6) := ⟨_, Lib.hid rfl⟩
  rw [M1.out, M2.out, M3.out, M4.out, M5.out, M6.out]
  have hBB : Below w.heap.size w ((w.alloc (.cells #[.slice A1 m1 c1, .slice A2 m2 c2, .slice A3 m3 c3] 26)).alloc (.cells #[.slice A4 m4 c4, .slice A5 m5 c5, .slice A6 m6 c6] 26)) := ((Below.refl _ w).alloc (Nat.le_refl _) _).alloc (by simp) _
  have HBB := Lib.hid hBB
  clear hBB
  by_cases hq1 : eqB G.init H.init = true
  · have HQ1 := Lib.hid hq1
    clear hq1
    by_cases hq2 : eqR G.rows H.rows = true
    · have HQ2 := Lib.hid hq2
      clear hq2
      rw [HQ1.out, HQ2.out]
      obtain ⟨z, HZ⟩ : ∃ z, Hid (eqB G.labels H.labels = z) := ⟨_, Lib.hid rfl⟩
      rw [HZ.out]
      go_enter Try.func19, Try.ntmps19
      go_wp2_with fail
      refine (HG1.out _ HBB.out _ _ M1.out.symm M4.out.symm).mono ?_
      rintro e w1 ⟨rfl, j1, rfl⟩
      rw [HQ1.out]
      go_wp2_with fail
      refine (HG2.out _ (below_drewN HBB.out j1) _ _ M2.out.symm M5.out.symm).mono ?_
      rintro e w2 ⟨rfl, j2, rfl⟩
      rw [HQ2.out]
      have HB2 := Lib.hid (below_drewN (below_drewN HBB.out j1) j2)
      go_wp2_with fail
      refine (HG3.out _ (by first | exact HB2.out | (have := HB2.out; rwa [World.drewN_drewN] at this)) _ _ M3.out.symm M6.out.symm).mono ?_
      rintro e w3 ⟨rfl, j3, rfl⟩
      rw [HZ.out]
      have HB3 := Lib.hid (below_drewN HB2.out j3)
      go_wp2_with fail
      go_ret
      exact ⟨ret_bool (by simp), by first | exact HB3.out | (have := HB3.out; simpa [World.drewN_drewN] using this)⟩
    · have hq3 : eqR G.rows H.rows = false := by simpa using hq2
      have HQ2 := Lib.hid hq3
      clear hq2 hq3
      rw [HQ1.out, HQ2.out]
      go_enter Try.func19, Try.ntmps19
      go_wp2_with fail
      refine (HG1.out _ HBB.out _ _ M1.out.symm M4.out.symm).mono ?_
      rintro e w1 ⟨rfl, j1, rfl⟩
      rw [HQ1.out]
      go_wp2_with fail
      refine (HG2.out _ (below_drewN HBB.out j1) _ _ M2.out.symm M5.out.symm).mono ?_
      rintro e w2 ⟨rfl, j2, rfl⟩
      rw [HQ2.out]
      have HB2 := Lib.hid (below_drewN (below_drewN HBB.out j1) j2)
      go_wp2_with fail
      go_ret
      exact ⟨rfl, by first | exact HB2.out | (have := HB2.out; simpa [World.drewN_drewN] using this)⟩
  · have hq2 : eqB G.init H.init = false := by simpa using hq1
    have HQ1 := Lib.hid hq2
    clear hq1 hq2
    rw [HQ1.out]
    go_enter Try.func19, Try.ntmps19
    go_wp2_with fail
    refine (HG1.out _ HBB.out _ _ M1.out.symm M4.out.symm).mono ?_
    rintro e w1 ⟨rfl, j1, rfl⟩
    rw [HQ1.out]
    have HB2 := Lib.hid (below_drewN HBB.out j1)
    go_wp2_with fail
    go_ret
    exact ⟨rfl, HB2.out⟩
end Go.Proofs.Ytnfiohekdbjgoaa
