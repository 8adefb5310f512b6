/- The law ExprFits' own fill. -/
import Derived.Test.YtodloljpfbkkjaaRRRRExprLawCells
import Derived.Laws.Rows
import Derived.Deep.Cut
namespace Go.Proofs.YtodloljpfbkkjaaRRRR
open Go.ChangeShapes Go.WideShapes Go.ChangeAt Go.RowKit

/-- A number that fill may lay. -/
def FillOk (most z : Int) : Prop := if 0 < most then 0 ≤ z ∧ z ≤ most else -1048576 ≤ z ∧ z ≤ 1048576
theorem fill_elem {most x : Int} (h : 0 < most) (h2 : most ≤ 100) : FillOk most (wrap64 ((IntKind.u64.wrap x).tmod (most + 1))) := by
  have hu : 0 ≤ IntKind.u64.wrap x := by rw [IntKind.wrap_u64]; omega
  have h3 := Int.emod_nonneg (IntKind.u64.wrap x) (show most + 1 ≠ 0 by omega)
  have h4 := Int.emod_lt_of_pos (IntKind.u64.wrap x) (show 0 < most + 1 by omega)
  rw [Int.tmod_eq_emod_of_nonneg hu]
  have h5 : wrap64 (IntKind.u64.wrap x % (most + 1)) = IntKind.u64.wrap x % (most + 1) := by unfold wrap64; omega
  rw [h5]
  unfold FillOk
  rw [if_pos h]
  omega
theorem fill_num {most x : Int} (h : ¬ 0 < most) : FillOk most (x.tmod 1048577) := by
  unfold FillOk
  rw [if_neg h]
  rcases Int.le_total 0 x with hx | hx
  · rw [Int.tmod_eq_emod_of_nonneg hx]; omega
  · have e : x.tmod 1048577 = -((-x).tmod 1048577) := by rw [Int.neg_tmod, Int.neg_neg]
    rw [e, Int.tmod_eq_emod_of_nonneg (by omega)]
    omega
set_option maxRecDepth 20000 in
set_option maxHeartbeats 4000000 in
theorem fill_any (n m c at_ : Nat) (most : Int) (A : Option Addr) (raw : List Int) (w : World) (hn : n ≤ 100) (hat : at_ ≤ 1000) (hm : m = raw.length) (hmm : m ≤ 1000000000000000) (hA : IA w A raw) (hW : W64 raw) (hmost : most ≤ 100) :
    Calls Try.prog 18 #[.int .i64 n, .int .i64 most, .slice A m c, .int .i64 at_] w fun e w' => ∃ L : List Int, e = .returned (.slice (some ⟨w.heap.size, 0, none⟩) n n) ∧ IA w' (some ⟨w.heap.size, 0, none⟩) L ∧ Below w.heap.size w w' ∧ L.length = n ∧ ∀ z ∈ L, FillOk most z := by
  have HM := Lib.hid hm
  have HA := Lib.hid hA
  have HW := Lib.hid hW
  have hmk := run_make_row' (P := Try.prog) 29 3 (.int .i64 0) 8 Try.underlying29 Try.info3 rfl .i64 .i64 n (by omega) (by omega) w
  clear hm hA hW
  go_enter Try.func18, Try.ntmps18
  go_wp2
  clear hmk
  go_loopw [16] (fun i wr => ∃ (k : Nat) (g : Nat → Int), k ≤ n ∧ i = .int .i64 k ∧ Hid (wr.rowIs w.heap.size 3 n (fun i => .int .i64 (g i))) ∧ Hid (Below w.heap.size w wr) ∧ Hid (∀ i, i < k → FillOk most (g i))) (fun i _ => n - (intOf i).toNat)
  case atStart => exact ⟨0, fun _ => 0, Nat.zero_le _, rfl, Lib.hid (World.rowIs_made w _ _ _), Lib.hid ((Below.refl _ _).alloc (Nat.le_refl _) _), Lib.hid (fun i hi => absurd hi (Nat.not_lt_zero _))⟩
  case round =>
    obtain ⟨k, g, hk, rfl, HG, HB, HO⟩ := hrel
    by_cases hlt : k < n
    · obtain ⟨u, c3⟩ : ∃ u, wr.cell? ⟨w.heap.size, k, none⟩ = some u := ⟨_, World.rowIs.cell HG.out hlt⟩
      have c4 : wr.frozen? ⟨w.heap.size, k, none⟩ = false := World.rowIs.frozen HG.out k
      have HSET : Hid (∀ y, FillOk most y → ∃ g' : Nat → Int, (wr.setCell ⟨w.heap.size, k, none⟩ (.int .i64 y)).rowIs w.heap.size 3 n (fun i => .int .i64 (g' i)) ∧ ∀ i, i < k + 1 → FillOk most (g' i)) := Lib.hid (fun y hy => ⟨fun i => if i = k then y else g i, (HG.out.set k _).congr (fun i hi => by by_cases h : i = k <;> simp [h]), fun i hi => by
        by_cases h : i = k
        · simp only [if_pos h]; exact hy
        · simp only [if_neg h]; exact HO.out i (by omega)⟩)
      have HBS : Hid (∀ y, Below w.heap.size w (wr.setCell ⟨w.heap.size, k, none⟩ (.int .i64 y))) := Lib.hid (fun y => HB.out.setCell (Nat.le_refl _) _)
      have HFIN : Hid (∀ y, FillOk most y → (∃ (k1 : Nat) (g : Nat → Int), k1 ≤ n ∧ Value.int IntKind.i64 ((k : Int) + 1) = Value.int IntKind.i64 (k1 : Int) ∧ Hid ((wr.setCell ⟨w.heap.size, k, none⟩ (.int .i64 y)).rowIs w.heap.size 3 n (fun i => .int .i64 (g i))) ∧ Hid (Below w.heap.size w (wr.setCell ⟨w.heap.size, k, none⟩ (.int .i64 y))) ∧ Hid (∀ i, i < k1 → FillOk most (g i))) ∧
          n - (intOf (Value.int IntKind.i64 ((k : Int) + 1))).toNat < n - (intOf (Value.int IntKind.i64 (k : Int))).toNat) := Lib.hid (fun y hy => by
        obtain ⟨g', h1, h2⟩ := HSET.out y hy
        exact ⟨⟨k + 1, g', by omega, by go_num, Lib.hid h1, HBS.out y, Lib.hid h2⟩, by simp [intOf]; omega⟩)
      by_cases hm0 : m = 0
      · subst hm0
        by_cases hp : 0 < most
        · go_wp2
          exact HFIN.out 0 (by unfold FillOk; rw [if_pos hp]; omega)
        · go_wp2
          exact HFIN.out 0 (by unfold FillOk; rw [if_neg hp]; omega)
      · obtain ⟨j, HJ⟩ : ∃ j : Nat, Hid (((at_ : Int) + k) % m = j) := ⟨(((at_ : Int) + k) % m).toNat, Lib.hid (by have := Int.emod_nonneg ((at_ : Int) + k) (show (m : Int) ≠ 0 by omega); omega)⟩
        have hj : j < m := by have h1 := HJ.out; have h2 := Int.emod_lt_of_pos ((at_ : Int) + k) (show (0 : Int) < m by omega); omega
        obtain ⟨b, o, rfl, hb, hc⟩ := HA.out.below HB.out (by rw [← HM.out]; omega)
        have c1 := hc j (by rw [← HM.out]; exact hj)
        obtain ⟨x, HX⟩ : ∃ x, Hid (raw.getD j 0 = x) := ⟨_, Lib.hid rfl⟩
        rw [HX.out] at c1
        have q1 : IntKind.i64.wrap ((at_ : Int) + (k : Int)) = (at_ : Int) + (k : Int) := IntWalk.i64_in _ (by omega)
        have q2 : ((at_ : Int) + (k : Int)).tmod (m : Int) = (j : Int) := (Int.tmod_eq_emod_of_nonneg (by omega)).trans HJ.out
        have q3 : ((at_ : Int) + (k : Int)) % (m : Int) = (j : Int) := HJ.out
        have q4 : IntKind.i64.wrap (j : Int) = (j : Int) := IntWalk.i64_in _ (by omega)
        have hm1 : (0 : Int) < (m : Int) := by omega
        clear hc hm0
        by_cases hp : 0 < most
        · have q5 : IntKind.i64.wrap (most + 1) = most + 1 := IntWalk.i64_in _ (by omega)
          go_wp2
          exact HFIN.out _ (fill_elem hp hmost)
        · go_wp2
          exact HFIN.out _ (fill_num hp)
    · obtain rfl : k = n := by omega
      have HROW : Hid (∃ L : List Int, IA wr (some ⟨w.heap.size, 0, none⟩) L ∧ L.length = k ∧ ∀ z ∈ L, FillOk most z) := Lib.hid (by
        obtain ⟨A', c', e', hi', _⟩ := RowP.made (w := w) (w' := wr) (L := (List.range k).map g) (by simp) (by omega) HG.out (fun i hi => by simp [List.getD, hi]) HB.out
        injection e' with e'
        injection e' with e1 _ _
        refine ⟨(List.range k).map g, by rw [e1]; exact hi'.ia, by simp, fun z hz => ?_⟩
        obtain ⟨i, hi, rfl⟩ := List.mem_map.1 hz
        exact HO.out i (List.mem_range.1 hi))
      go_wp2
      go_ret
      obtain ⟨L, h1, h2, h3⟩ := HROW.out
      exact ⟨L, rfl, h1, HB.out, h2, h3⟩
end Go.Proofs.YtodloljpfbkkjaaRRRR
