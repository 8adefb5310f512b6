/- Same; Is: the program's and the document's; the laws' example. -/
import Derived.Test.YtmdfiamffipbcaaDoorNnfOf
import Derived.Deep.QuietTactic
namespace Go.Proofs.YtmdfiamffipbcaaDoor.nf
open Go.ChangeShapes Go.WideShapes Go.ChangeAt Go.RowKit Go.Deep sr lt

theorem getP_ext {xs ys : List (Int × Int)} (hl : xs.length = ys.length) (h : ∀ i, i < xs.length → xs.getD i (0, 0) = ys.getD i (0, 0)) : xs = ys := by
  apply List.ext_getElem hl
  intro i h1 h2
  have := h i h1
  simpa [List.getD, h1, h2] using this
def eqP (xs ys : List (Int × Int)) : Bool := decide (xs = ys)
set_option maxHeartbeats 1000000 in
theorem same_any (A B : Option Addr) (c d m1 m2 : Nat) (xs ys : List (Int × Int)) (w : World) (hm1 : m1 = xs.length) (hm2 : m2 = ys.length) (hA : PA w A xs) (hB : PA w B ys) (hxl : xs.length ≤ 100000) (hyl : ys.length ≤ 100000) :
    Calls Tryd.prog 10 #[.slice A m1 c, .slice B m2 d] w fun e w' => e = .returned (.bool (eqP xs ys)) ∧ ∃ n, w' = w.drewN n := by
  subst hm1 hm2
  by_cases hl : xs.length = ys.length
  · have H := Lib.hid hl
    clear hl
    go_enter Tryd.func10, Tryd.ntmps10
    have hl0 : (xs.length : Int) = (ys.length : Int) := by rw [H.out]
    go_wp2
    clear hl0
    go_loopw [5] (fun i wr => ∃ (k j : Nat), k ≤ ys.length ∧ i = .int .i64 k ∧ wr = w.drewN j ∧ Hid (∀ i, i < k → xs.getD i (0, 0) = ys.getD i (0, 0))) (fun i _ => ys.length - (intOf i).toNat)
    case atStart => exact ⟨0, 0, Nat.zero_le _, rfl, rfl, Lib.hid (fun i hi => absurd hi (by omega))⟩
    case round =>
      obtain ⟨k, j, hk, rfl, rfl, HV⟩ := hrel
      by_cases hlty : k < ys.length
      · have hlt : k < xs.length := by rw [H.out]; exact hlty
        obtain ⟨bA, oA, rfl, hbA, hcA⟩ := hA (by omega)
        obtain ⟨bB, oB, rfl, hbB, hcB⟩ := hB (by omega)
        have c1 := (hcA k hlt).1
        have c2 := (hcB k hlty).1
        have c3 := (hcA k hlt).2
        have c4 := (hcB k hlty).2
        by_cases t1 : xs.getD k (0, 0) = ys.getD k (0, 0)
        · have HS : Hid (∀ i, i < k + 1 → xs.getD i (0, 0) = ys.getD i (0, 0)) := Lib.hid (fun i hi => by
            by_cases hik : i = k
            · subst hik; exact t1
            · exact HV.out i (by omega))
          rw [← t1] at c2 c4
          generalize (xs.getD k (0, 0)).1 = x at c1 c2
          generalize (xs.getD k (0, 0)).2 = y at c3 c4
          clear hcA hcB hA hB t1 HV
          go_wp2
          go_quiet (fail)
          go_wp2
          go_roundw
          case rel => exact ⟨k + 1, _, by omega, by go_num, rfl, HS⟩
          case measure => simp [intOf]; omega
        · have HE : Hid (eqP xs ys = false) := Lib.hid (decide_eq_false (fun h => t1 (by rw [h])))
          have t2 : ((xs.getD k (0, 0)).1 != (ys.getD k (0, 0)).1 || (xs.getD k (0, 0)).2 != (ys.getD k (0, 0)).2) = true := by
            rw [Bool.or_eq_true]
            simp only [bne_iff_ne]
            by_cases e1 : (xs.getD k (0, 0)).1 = (ys.getD k (0, 0)).1
            · right
              intro e2
              exact t1 (Prod.ext e1 e2)
            · exact .inl e1
          generalize (xs.getD k (0, 0)).1 = x at c1 t2
          generalize (xs.getD k (0, 0)).2 = y at c3 t2
          generalize (ys.getD k (0, 0)).1 = x' at c2 t2
          generalize (ys.getD k (0, 0)).2 = y' at c4 t2
          clear hcA hcB hA hB t1 HV
          by_cases hx : x = x'
          · subst hx
            have hy : y ≠ y' := by intro e; subst e; simp at t2
            have hy2 : (y == y') = false := by simpa using hy
            clear t2
            go_wp2
            go_quiet (fail)
            go_wp2
            go_ret
            exact ⟨by rw [HE.out]; rfl, _, World.drewN_drewN _ _ _⟩
          · have hx2 : (x == x') = false := by simpa using hx
            clear t2
            go_wp2
            go_quiet (fail)
            go_wp2
            go_ret
            exact ⟨by rw [HE.out]; rfl, _, World.drewN_drewN _ _ _⟩
      · have hk2 : k = xs.length := by rw [H.out]; omega
        subst hk2
        have HE : Hid (eqP xs ys = true) := Lib.hid (decide_eq_true (getP_ext H.out HV.out))
        have hge : ys.length ≤ xs.length := by omega
        clear hlty hk
        go_wp2
        go_ret
        exact ⟨by rw [HE.out]; rfl, _, rfl⟩
  · have e : eqP xs ys = false := decide_eq_false (fun h => hl (by rw [h]))
    rw [e]
    have hln : ((xs.length : Int) == (ys.length : Int)) = false := by rw [beq_eq_false_iff_ne]; omega
    go_enter Tryd.func10, Tryd.ntmps10
    go_wp2
    go_ret
    exact ⟨rfl, 0, rfl⟩

/-- Is a node the other one, but for a number that is not looked at? -/
def stB (x y : Int × Int) : Bool := decide (bn x = y)
set_option maxHeartbeats 1000000 in
theorem stays_any (x y u v : Int) (w : World) : Calls Tryd.prog 24 #[.agg #[.int .i64 x, .int .i64 y], .agg #[.int .i64 u, .int .i64 v]] w fun e w' => e = .returned (.bool (stB (x, y) (u, v))) ∧ Below w.heap.size w w' := by
  obtain ⟨z, HZ⟩ : ∃ z, Hid (stB (x, y) (u, v) = z) := ⟨_, Lib.hid rfl⟩
  rw [HZ.out]
  have h2 : Below w.heap.size w ((w.alloc (.cells #[.int .i64 x, .int .i64 y] 38)).alloc (.cells #[.int .i64 u, .int .i64 v] 38)) := (below_one _ _).alloc (by simp) _
  have H2 := Lib.hid h2
  clear h2
  have HE0 : Hid (∀ b : Bool, (bn (x, y) = (u, v) ↔ b = true) → z = b) := Lib.hid (fun b hb => by
    rw [← HZ.out]
    unfold stB
    rw [Bool.eq_iff_iff, decide_eq_true_iff]
    exact hb)
  by_cases h3 : x = 3
  · subst h3
    have HBN : Hid (bn (3, y) = (3, y)) := Lib.hid (if_pos rfl)
    by_cases h1 : u = 3
    · subst h1
      by_cases h2 : v = y
      · subst h2
        have hz := HE0.out true (by rw [HBN.out]; simp)
        subst hz
        go_enter Tryd.func24, Tryd.ntmps24
        go_wp2
        go_ret
        exact ⟨rfl, H2.out⟩
      · have h2b : (y == v) = false := by rw [beq_eq_false_iff_ne]; exact fun e => h2 e.symm
        have hz := HE0.out false (by rw [HBN.out]; simp; exact fun e => h2 e.symm)
        subst hz
        go_enter Tryd.func24, Tryd.ntmps24
        go_wp2
        go_ret
        exact ⟨rfl, H2.out⟩
    · have h1b : ((3 : Int) == u) = false := by rw [beq_eq_false_iff_ne]; exact fun e => h1 e.symm
      have hz := HE0.out false (by rw [HBN.out]; simp; exact fun e => absurd e.symm h1)
      subst hz
      go_enter Tryd.func24, Tryd.ntmps24
      go_wp2
      go_ret
      exact ⟨rfl, H2.out⟩
  · have h3b : (x != 3) = true := by simpa using h3
    have HBN : Hid (bn (x, y) = (x, 0)) := Lib.hid (if_neg h3)
    have H3 : Hid (Below w.heap.size w ((w.alloc (.cells #[.int .i64 x, .int .i64 0] 38)).alloc (.cells #[.int .i64 u, .int .i64 v] 38))) := Lib.hid ((below_one _ _).alloc (by simp) _)
    by_cases h1 : u = x
    · subst h1
      by_cases h2 : v = 0
      · subst h2
        have hz := HE0.out true (by rw [HBN.out]; simp)
        subst hz
        go_enter Tryd.func24, Tryd.ntmps24
        go_wp2
        go_ret
        exact ⟨rfl, by first | exact H3.out | exact H2.out.setCell (p := ⟨w.heap.size, 1, none⟩) (Nat.le_refl _) _⟩
      · have h2b : ((0 : Int) == v) = false := by rw [beq_eq_false_iff_ne]; exact fun e => h2 e.symm
        have hz := HE0.out false (by rw [HBN.out]; simp; exact fun e => h2 e.symm)
        subst hz
        go_enter Tryd.func24, Tryd.ntmps24
        go_wp2
        go_ret
        exact ⟨rfl, by first | exact H3.out | exact H2.out.setCell (p := ⟨w.heap.size, 1, none⟩) (Nat.le_refl _) _⟩
    · have h1b : (x == u) = false := by rw [beq_eq_false_iff_ne]; exact fun e => h1 e.symm
      have hz := HE0.out false (by rw [HBN.out]; simp; exact fun e => absurd e.symm h1)
      subst hz
      go_enter Tryd.func24, Tryd.ntmps24
      go_wp2
      go_ret
      exact ⟨rfl, by first | exact H3.out | exact H2.out.setCell (p := ⟨w.heap.size, 1, none⟩) (Nat.le_refl _) _⟩
theorem map_bn {xs ys : List (Int × Int)} (hl : xs.length = ys.length) (h : ∀ i, i < xs.length → bn (xs.getD i (0, 0)) = ys.getD i (0, 0)) : xs.map bn = ys := by
  apply List.ext_getElem (by simpa using hl)
  intro i h1 h2
  have h3 : i < xs.length := by simpa using h1
  have := h i h3
  simpa [List.getD, h3, h2] using this
def eqS (xs ys : List (Int × Int)) : Bool := decide (xs.map bn = ys)
set_option maxRecDepth 20000 in
set_option maxHeartbeats 2000000 in
theorem equalFunc_any (A B : Option Addr) (c d m1 m2 : Nat) (xs ys : List (Int × Int)) (w : World) (hm1 : m1 = xs.length) (hm2 : m2 = ys.length) (hA : PA w A xs) (hB : PA w B ys) (hxl : xs.length ≤ 100000) (hyl : ys.length ≤ 100000) :
    Calls Tryd.prog 23 #[.slice A m1 c, .slice B m2 d, .func (.func 24) #[] #[]] w fun e w' => e = .returned (.bool (eqS xs ys)) ∧ Below w.heap.size w w' := by
  have HM1 := Lib.hid hm1
  have HM2 := Lib.hid hm2
  have HA := Lib.hid hA
  have HB := Lib.hid hB
  have eg : ∀ (args : Array Value) (w : World), (callFunc 24 args).run Tryd.prog w = .ok (.enter 24 args) w := enters_of Tryd.func24 (by kernel_rfl) rfl
  obtain ⟨z, HZ⟩ : ∃ z, Hid (eqS xs ys = z) := ⟨_, Lib.hid rfl⟩
  rw [HZ.out]
  clear hm1 hm2 hA hB
  have hm9 : m1 ≤ 100000 := by rw [HM1.out]; exact hxl
  by_cases hl : m1 = m2
  · subst hl
    go_enter Tryd.func23, Tryd.ntmps23
    go_wp2
    go_loopw [17] (fun iv wr => ∃ k : Nat, k ≤ m1 ∧ iv = .int .i64 k ∧ Hid (Below w.heap.size w wr) ∧ Hid (∀ i, i < k → bn (xs.getD i (0, 0)) = ys.getD i (0, 0))) (fun iv _ => m1 - (intOf iv).toNat)
    case atStart => exact ⟨0, Nat.zero_le _, rfl, Lib.hid (Below.refl _ _), Lib.hid (fun i hi => absurd hi (by omega))⟩
    case round =>
      obtain ⟨k, hk, rfl, HBW, HV⟩ := hrel
      by_cases hlt : k < m1
      · obtain ⟨bA, oA, rfl, hbA, hcA⟩ := (HA.out.below HBW.out) (by rw [← HM1.out]; omega)
        obtain ⟨bB, oB, rfl, hbB, hcB⟩ := (HB.out.below HBW.out) (by rw [← HM2.out]; omega)
        obtain ⟨c1, c3⟩ := hcA k (by rw [← HM1.out]; exact hlt)
        obtain ⟨c2, c4⟩ := hcB k (by rw [← HM2.out]; exact hlt)
        obtain ⟨x, y, HX⟩ : ∃ x y, Hid (xs.getD k (0, 0) = (x, y)) := ⟨_, _, Lib.hid rfl⟩
        obtain ⟨u, v, HU⟩ : ∃ u v, Hid (ys.getD k (0, 0) = (u, v)) := ⟨_, _, Lib.hid rfl⟩
        rw [HX.out] at c1 c3
        rw [HU.out] at c2 c4
        dsimp only at c1 c2 c3 c4
        obtain ⟨q, HQ⟩ : ∃ q, Hid (stB (x, y) (u, v) = q) := ⟨_, Lib.hid rfl⟩
        have hwz : w.heap.size ≤ wr.heap.size := HBW.out.size
        have HBA : Hid (Below w.heap.size w ((wr.alloc (.cells #[.int .i64 x, .int .i64 y] 38)).alloc (.cells #[.int .i64 u, .int .i64 v] 38))) := Lib.hid ((HBW.out.alloc hwz _).alloc (by simp; omega) _)
        have d1 := cell_al (o := .cells #[.int .i64 x, .int .i64 y] 38) c2 hbB
        have d2 := cell_al (o := .cells #[.int .i64 x, .int .i64 y] 38) c4 hbB
        clear hcA hcB
        go_wp2_with fail
        refine (stays_any x y u v _).mono ?_
        rw [HQ.out]
        rintro r w2 ⟨rfl, hb2⟩
        have HB2 : Hid (Below w.heap.size w w2) := Lib.hid (HBA.out.trans (hb2.mono HBA.out.size))
        clear hb2 c1 c2 c3 c4 d1 d2
        cases q with
        | true =>
          have HS : Hid (∀ i, i < k + 1 → bn (xs.getD i (0, 0)) = ys.getD i (0, 0)) := Lib.hid (fun i hi => by
            by_cases hik : i = k
            · subst hik
              rw [HX.out, HU.out]
              exact of_decide_eq_true HQ.out
            · exact HV.out i (by omega))
          go_wp2
          go_roundw
          case rel => exact ⟨k + 1, by omega, by go_num, HB2, HS⟩
          case measure => simp [intOf]; omega
        | false =>
          have HE : Hid (z = false) := Lib.hid (by
            rw [← HZ.out]
            refine decide_eq_false (fun h => ?_)
            have h1 : bn (xs.getD k (0, 0)) = ys.getD k (0, 0) := by
              rw [← h, List.getD_eq_getElem?_getD, List.getD_eq_getElem?_getD, List.getElem?_map]
              have h2 : k < xs.length := by rw [← HM1.out]; exact hlt
              simp [h2]
            rw [HX.out, HU.out] at h1
            exact of_decide_eq_false HQ.out h1)
          go_wp2
          go_ret
          exact ⟨by rw [HE.out]; rfl, HB2.out⟩
      · obtain rfl : k = m1 := by omega
        have HE : Hid (z = true) := Lib.hid (by rw [← HZ.out]; exact decide_eq_true (map_bn (by rw [← HM1.out, HM2.out]) (fun i hi => HV.out i (by rw [HM1.out]; exact hi))))
        go_wp2
        go_ret
        exact ⟨by rw [HE.out]; rfl, HBW.out⟩
  · have HE : Hid (z = false) := Lib.hid (by
      rw [← HZ.out]
      refine decide_eq_false (fun h => hl ?_)
      rw [HM1.out, HM2.out, ← h, List.length_map])
    have hlb : ((m1 : Int) != (m2 : Int)) = true := by simp; omega
    go_enter Tryd.func23, Tryd.ntmps23
    go_wp2
    go_ret
    exact ⟨by rw [HE.out]; rfl, Below.refl _ _⟩
/-- Is it a formula in normal form? -/
def isV (e : List (Int × Int)) : Bool := isF e && decide (e.map bn = nfL e false)
theorem isV_is {e : List (Int × Int)} (h : isF e = true) : isV e = true ↔ NL e := by
  obtain ⟨t, h1, h2, _, _, h5⟩ := nfL_is h
  unfold isV
  rw [h, Bool.true_and, decide_eq_true_iff, h5, ← h2]
  exact nl_iff h1
theorem is_any (e : List (Int × Int)) (A : Option Addr) (c m : Nat) (w : World) (hm : m = e.length) (hm2 : m ≤ 1000) (hA : PA w A e) (hF : FmW w) : Calls Tryd.prog 15 #[.slice A m c] w fun r w' => r = .returned (.bool (isV e)) ∧ Below w.heap.size w w' := by
  have HK := Lib.hid (of_any e A c m w hm hm2 hA hF)
  have HM := Lib.hid hm
  have HA := Lib.hid hA
  obtain ⟨L, HL⟩ : ∃ L, Hid (nfL e false = L) := ⟨_, Lib.hid rfl⟩
  rw [HL.out] at HK
  have HLE : Hid (L.length ≤ 2000) := Lib.hid (by rw [← HL.out]; have := nfL_len e false; omega)
  obtain ⟨n, HN⟩ : ∃ n, Hid (L.length = n) := ⟨_, Lib.hid rfl⟩
  obtain ⟨z, HZ⟩ : ∃ z, Hid (isV e = z) := ⟨_, Lib.hid rfl⟩
  rw [HZ.out]
  clear hA hm hF
  go_enter Tryd.func15, Tryd.ntmps15
  go_wp2_with fail
  refine HK.out.mono ?_
  rintro q w1 ⟨C, k, rfl, h1, h2, h3⟩
  have HC := Lib.hid h1
  have HB1 := Lib.hid h3
  clear h1 h2 h3 HK
  rw [HN.out]
  by_cases h0 : n = 0
  · subst h0
    have HE : Hid (z = false) := Lib.hid (by
      rw [← HZ.out]
      unfold isV
      rcases hf : isF e with _ | _
      · rfl
      · obtain ⟨t, g1, g2, _, _, g5⟩ := nfL_is hf
        have h9 : 0 < L.length := by rw [← HL.out, g5, post_len]; exact sz_pos _
        rw [HN.out] at h9
        omega)
    go_wp2
    go_ret
    exact ⟨by rw [HE.out]; rfl, HB1.out⟩
  · have HE : Hid (z = eqS e L) := Lib.hid (by
      rw [← HZ.out]
      unfold isV
      rcases hf : isF e with _ | _
      · have h9 : L = [] := by rw [← HL.out]; exact nfL_no hf
        rw [h9] at HN
        exact absurd HN.out.symm h0
      · rw [Bool.true_and, HL.out]
        rfl)
    have h0b : (n : Int) > 0 := by omega
    have HEQ := Lib.hid (equalFunc_any A C c k m n e L w1 HM.out HN.out.symm (HA.out.below HB1.out) HC.out (by rw [← HM.out]; omega) (by have := HLE.out; omega))
    go_wp2_with fail
    refine HEQ.out.mono ?_
    rw [← HE.out]
    rintro q w2 ⟨rfl, hb2⟩
    have HB2 := Lib.hid (HB1.out.trans (hb2.mono HB1.out.size))
    clear hb2
    go_wp2
    go_ret
    exact ⟨rfl, HB2.out⟩
end Go.Proofs.YtmdfiamffipbcaaDoor.nf
