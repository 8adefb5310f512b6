/- The document's answers for Unrank and Same: contracts. -/
import Derived.Test.YtbdlbljjbigjkaaUnrank
namespace Go.Proofs.Ytbdlbljjbigjkaa
open Go.ChangeShapes Go.WideShapes Go.ChangeAt Go.RowKit

set_option maxHeartbeats 1000000 in
theorem refUnrank_any (n : Int) (B : Option Addr) (d : Nat) (bs : List Int) (w : World) (hB : IA w B bs) (hb : W64 bs) (hbl : 8 * bs.length ≤ 281474976710656) (hn1 : -9223372036854775808 ≤ n) (hn2 : n ≤ 9223372036854775807) :
    Calls Try.prog 30 #[.int .i64 n, .slice B bs.length d] w (UnrPost n bs w) := by
  have hmk := fun W => run_make_row' (P := Try.prog) 29 3 (.int .i64 0) 8 Try.underlying29 Try.info3 rfl .i64 .i64 bs.length hbl (by omega) W
  by_cases h0 : 0 ≤ n ∧ n ≤ 1048576
  · have hin : Hid (unrankF n bs = (unr n bs).bind fun p => if p.1 = 0 then some p.2 else none) := if_pos h0
    obtain ⟨h01, h02⟩ := h0
    go_enter Try.func30, Try.ntmps30
    go_wp2
    go_loopw [0, 7] (fun q i wr => ∃ (k : Nat) (v p : Int) (ds : List Int), k ≤ bs.length ∧ v = (k : Int) - 1 ∧ i = .int .i64 v ∧ q = .int .i64 p ∧ 0 ≤ p ∧ p ≤ 1048576 ∧ Hid (unr n (bs.drop k) = some (p, ds)) ∧
      wr.rowIs w.heap.size 3 bs.length (rowF k ds) ∧ Below w.heap.size w wr) (fun _ i _ => (intOf i + 1).toNat)
    case atStart => exact ⟨bs.length, _, n, [], Nat.le_refl _, rfl, rfl, rfl, h01, h02, Lib.hid (by rw [List.drop_length]; rfl), (World.rowIs_made w _ _ _).congr (fun i hi => by unfold rowF; split <;> simp), (Below.refl _ _).alloc (Nat.le_refl _) _⟩
    case round =>
      obtain ⟨k, v, p, ds, hk, hv, rfl, rfl, hp1, hp2, HU, hrow, hbel⟩ := hrel
      cases k with
      | zero =>
        obtain rfl : v = -1 := by omega
        clear hv
        have hu0 : unr n bs = some (p, ds) := by have := HU.out; simpa using this
        have hlen : Hid (bs.length = ds.length) := Lib.hid (unr_length n bs _ hu0).symm
        by_cases t1 : p = 0
        · have HE : Hid (unrankF n bs = some ds) := Lib.hid (by rw [hin.out, hu0]; simp [t1])
          have HI : Hid (IA wr (some ⟨w.heap.size, 0, none⟩) ds) := Lib.hid (fun _ => ⟨_, 0, rfl, hrow.lt, fun i hi => by
            have := hrow.cell (i := i) (by rw [hlen.out]; exact hi)
            rw [Nat.zero_add, this]; simp [rowF]⟩)
          subst t1
          clear hu0 hrow HU hB hb
          go_wp2
          go_ret2
          exact UnrPost.some_ hbel HE.out hlen.out HI.out
        · have HE : Hid (unrankF n bs = none) := Lib.hid (by rw [hin.out, hu0]; simp [t1])
          have t2 : 0 < p := by omega
          clear hu0 hrow HU hB hb
          go_wp2
          go_ret2
          exact UnrPost.none_ hbel HE.out
      | succ k =>
        obtain rfl : v = (k : Int) := by omega
        clear hv
        have hlt : k < bs.length := by omega
        obtain ⟨bB, oB, rfl, hbB, hcB⟩ := hB (by omega)
        have c1 : wr.cell? ⟨bB, oB + k, none⟩ = some (.int .i64 (bs.getD k 0)) := by rw [hbel.cell (p := ⟨bB, oB + k, none⟩) hbB]; exact hcB k hlt
        have w1 := hb.at_ k
        have e1 : bs.drop k = bs.getD k 0 :: bs.drop (k + 1) := by rw [List.drop_eq_getElem_cons hlt]; simp [List.getD, hlt]
        have hu : Hid (unr n (bs.drop k) = if bs.getD k 0 < 1 then none else some (p / bs.getD k 0, (p % bs.getD k 0) :: ds)) := Lib.hid (by rw [e1, unr, HU.out]; rfl)
        have hno : Hid (unr n (bs.drop k) = none → unr n bs = none) := Lib.hid (unr_drop_none n bs k)
        have d1 := hrow.cell hlt
        have d2 := hrow.frozen k
        have hne : bB ≠ w.heap.size := by omega
        have hv0 : ∃ u, wr.cell? ⟨w.heap.size, k, none⟩ = some u := ⟨_, d1⟩
        generalize bs.getD k 0 = y at c1 w1 hu
        clear e1 hcB hB hb d1 HU
        obtain ⟨u, d1⟩ := hv0
        by_cases t1 : y < 1
        · have HE : Hid (unrankF n bs = none) := Lib.hid (by rw [hin.out, hno.out (by rw [hu.out, if_pos t1])]; rfl)
          clear hrow
          go_wp2
          go_ret2
          exact UnrPost.none_ hbel HE.out
        · have c3 : (wr.setCell ⟨w.heap.size, k, none⟩ (.int .i64 (p % y))).cell? ⟨bB, oB + k, none⟩ = some (.int .i64 y) := by rw [World.cell?_setCell_other _ _ _ _ (by intro h; injection h with h1; exact hne h1.symm)]; exact c1
          have q1 := Int.ediv_nonneg hp1 (show 0 ≤ y by omega)
          have q2 := Int.ediv_le_self y hp1
          have hrow2 : Hid ((wr.setCell ⟨w.heap.size, k, none⟩ (.int .i64 (p % y))).rowIs w.heap.size 3 bs.length (rowF k ((p % y) :: ds))) := Lib.hid ((hrow.set k _).congr (fun j hj => by
            unfold rowF
            by_cases hjk : j = k
            · subst hjk; simp
            · rw [if_neg hjk]
              by_cases hj2 : k + 1 ≤ j
              · rw [if_pos hj2, if_pos (by omega), show j - k = (j - (k + 1)) + 1 by omega]; rfl
              · rw [if_neg hj2, if_neg (by omega)]))
          have HU2 : Hid (unr n (bs.drop k) = some (p / y, (p % y) :: ds)) := Lib.hid (by rw [hu.out, if_neg t1])
          clear hrow hu
          go_wp2
          go_roundw
          case rel => exact ⟨k, _, _, _, by omega, rfl, rfl, rfl, by omega, by omega, HU2, hrow2.out, hbel.setCell (Nat.le_refl _) _⟩
          case measure => simp [intOf]
  · have hin := Lib.hid (show unrankF n bs = none from if_neg h0)
    clear hmk
    by_cases h1 : n < 0
    · clear h0
      go_enter Try.func30, Try.ntmps30
      go_wp2
      go_ret2
      exact UnrPost.none_ (Below.refl _ _) hin.out
    · have h2 : 1048576 < n := by omega
      clear h0
      go_enter Try.func30, Try.ntmps30
      go_wp2
      go_ret2
      exact UnrPost.none_ (Below.refl _ _) hin.out

theorem getD_ext {xs ys : List Int} (hl : xs.length = ys.length) (h : ∀ i, i < xs.length → xs.getD i 0 = ys.getD i 0) : xs = ys := by
  apply List.ext_getElem hl
  intro i h1 h2
  have := h i h1
  simpa [List.getD, h1, h2] using this

def sameB (xs ys : List Int) : Bool := decide (xs = ys)

set_option maxHeartbeats 1000000 in
theorem same_any (A B : Option Addr) (c d m1 m2 : Nat) (xs ys : List Int) (w : World) (hm1 : m1 = xs.length) (hm2 : m2 = ys.length) (hA : IA w A xs) (hB : IA w B ys) (hxl : xs.length ≤ maxLen) (hyl : ys.length ≤ maxLen) :
    Calls Try.prog 31 #[.slice A m1 c, .slice B m2 d] w fun e w' => e = .returned (.bool (sameB xs ys)) ∧ ∃ n, w' = w.drewN n := by
  subst hm1 hm2
  unfold maxLen at hxl hyl
  by_cases hl : xs.length = ys.length
  · have H := Lib.hid hl
    clear hl
    go_enter Try.func31, Try.ntmps31
    have hl0 : (xs.length : Int) = (ys.length : Int) := by rw [H.out]
    go_wp2
    clear hl0
    go_loopw [5] (fun i wr => ∃ (k j : Nat), k ≤ xs.length ∧ i = .int .i64 k ∧ wr = w.drewN j ∧ Hid (∀ i, i < k → xs.getD i 0 = ys.getD i 0)) (fun i _ => xs.length - (intOf i).toNat)
    case atStart => exact ⟨0, 0, Nat.zero_le _, rfl, rfl, Lib.hid (fun i hi => absurd hi (by omega))⟩
    case round =>
      obtain ⟨k, j, hk, rfl, rfl, HV⟩ := hrel
      by_cases hlt : k < xs.length
      · have hlty : k < ys.length := by rw [← H.out]; exact hlt
        obtain ⟨bA, oA, rfl, hbA, hcA⟩ := hA (by omega)
        obtain ⟨bB, oB, rfl, hbB, hcB⟩ := hB (by omega)
        have c1 := hcA k hlt
        have c2 := hcB k hlty
        by_cases t1 : xs.getD k 0 = ys.getD k 0
        · have HS : Hid (∀ i, i < k + 1 → xs.getD i 0 = ys.getD i 0) := Lib.hid (fun i hi => by
            by_cases hik : i = k
            · subst hik; exact t1
            · exact HV.out i (by omega))
          rw [← t1] at c2
          generalize xs.getD k 0 = x at c1 c2
          clear hcA hcB hA hB t1 HV
          go_wp2
          go_quiet (fail)
          go_wp2
          go_roundw
          case rel => exact ⟨k + 1, _, by omega, by go_num, rfl, HS⟩
          case measure => simp [intOf]; omega
        · have HE : Hid (sameB xs ys = false) := Lib.hid (decide_eq_false (fun h => t1 (by rw [h])))
          generalize xs.getD k 0 = x at c1 t1
          generalize ys.getD k 0 = y at c2 t1
          have t2 : (x != y) = true := by simpa using t1
          clear hcA hcB hA hB t1 HV
          go_wp2
          go_quiet (fail)
          go_wp2
          go_ret
          exact ⟨ret_bool HE.out.symm, _, World.drewN_drewN _ _ _⟩
      · have hk2 : k = xs.length := by omega
        subst hk2
        have HE : Hid (sameB xs ys = true) := Lib.hid (decide_eq_true (getD_ext H.out HV.out))
        clear hlt
        go_wp2
        go_ret
        exact ⟨ret_bool HE.out.symm, _, rfl⟩
  · have e : sameB xs ys = false := decide_eq_false (fun h => hl (by rw [h]))
    rw [e]
    go_enter Try.func31, Try.ntmps31
    go_wp2
    go_ret
    exact ⟨rfl, 0, rfl⟩
end Go.Proofs.Ytbdlbljjbigjkaa
