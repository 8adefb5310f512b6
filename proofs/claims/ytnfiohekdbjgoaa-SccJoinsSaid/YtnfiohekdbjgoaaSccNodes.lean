/- Contract of package scc: nodes. -/
import Derived.Test.YtnfiohekdbjgoaaSccLeave
namespace Go.Proofs.Ytnfiohekdbjgoaa.sc
open Go.ChangeShapes Go.WideShapes Go.ChangeAt Go.RowKit Go.Shelf

def ups (n : Nat) : List Int := (List.range n).map Int.ofNat
theorem ups_length (n : Nat) : (ups n).length = n := by simp [ups]
theorem ups_getD {n i : Nat} (h : i < n) : (ups n).getD i 0 = (i : Int) := by simp [ups, List.getD, h]
set_option maxRecDepth 20000 in
theorem nodes_any (v1 v3 : Value) (A : Option Addr) (n c : Nat) (w : World) (hn : n ≤ 1000) : Calls Try.prog 69 #[.agg #[v1, .slice A n c, v3]] w (RowP w (ups n)) := by
  obtain ⟨i0, hi, hz0, hz1, hz2⟩ := info_parts Try.info3
  have hmk : ∀ W : World, (Instr.makeSlice 22 (.int .i64 (n : Int)) (.int .i64 (n : Int))).run Try.prog W = .ok (.slice (some ⟨W.heap.size, 0, none⟩) n n) (W.alloc (.cells (madeCells #[.int .i64 0] n) 3)) := fun W => by
    have hr := run_make (P := Try.prog) W 22 3 i0 _ (by kernel_rfl) hi hz0 .i64 .i64 (n : Int) (n : Int) (by omega) (Int.le_refl _) (by rw [hz2]; omega) (by omega)
    rw [hr, hz1]
    rw [Int.toNat_natCast, Nat.mul_one]
    rfl
  clear hi hz0 hz1 hz2
  go_enter Try.func69, Try.ntmps69
  go_wp2_with fail
  clear hmk
  obtain ⟨w1, HW1⟩ : ∃ w1, w1 = w.alloc (.cells #[v1, .slice A n c, v3] 26) := ⟨_, rfl⟩
  rw [← HW1]
  have HB1 : Hid (Below w.heap.size w w1 ∧ w1.heap.size = w.heap.size + 1) := Lib.hid (by rw [HW1]; exact ⟨(Below.refl _ _).alloc (Nat.le_refl _) _, by simp⟩)
  clear HW1
  go_loopw [11] (fun i wr => ∃ k : Nat, k ≤ n ∧ i = .int .i64 k ∧ Hid (wr.rowIs (w.heap.size + 1) 3 n (fst (ups n) k)) ∧ Hid (Below (w.heap.size + 1) w1 wr)) (fun i _ => n - (intOf i).toNat)
  case atStart => exact ⟨0, by omega, rfl, Lib.hid (by rw [← HB1.out.2]; exact (World.rowIs_made w1 _ _ _).congr (fun i hi => by simp [fst])), Lib.hid ((Below.refl _ _).alloc (Nat.le_of_eq HB1.out.2.symm) _)⟩
  case round =>
    obtain ⟨k, hk, rfl, HR, HB⟩ := hrel
    by_cases hlt : k < n
    · obtain ⟨u, d1⟩ : ∃ u, wr.cell? ⟨w.heap.size + 1, k, none⟩ = some u := ⟨_, HR.out.cell hlt⟩
      have d2 := HR.out.frozen k
      go_wp2
      go_roundw
      case rel => exact ⟨k + 1, by omega, by go_num, Lib.hid (fst_step HR.out (ups_getD hlt).symm), Lib.hid (HB.out.setCell (Nat.le_refl _) _)⟩
      case measure => simp [intOf]; omega
    · obtain rfl : k = n := by omega
      go_wp2
      go_ret
      exact RowP.made (ups_length _).symm (by omega) HR.out (fun i hi => fst_full i hi) (HB1.out.1.trans (HB.out.mono (Nat.le_succ _)))
end Go.Proofs.Ytnfiohekdbjgoaa.sc
