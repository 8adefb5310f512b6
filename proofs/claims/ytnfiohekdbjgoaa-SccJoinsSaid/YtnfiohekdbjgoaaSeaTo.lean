/- Contracts of package graph: edgesTo. -/
import Derived.Test.YtnfiohekdbjgoaaSeaRow
namespace Go.Proofs.Ytnfiohekdbjgoaa
open Go.ChangeShapes Go.WideShapes Go.ChangeAt Go.RowKit

theorem made2 (z : Value) (n : Nat) : (madeCells #[z, z] n).size = n ∧ ∀ i, i < n → (madeCells #[z, z] n)[i]? = some z := by
  refine ⟨size_madeCells _ _, fun i hi => ?_⟩
  unfold madeCells
  rw [Array.getElem?_map]
  rw [Array.getElem?_eq_getElem (by simpa using hi), Array.getElem_range]
  show some ((#[z, z] : Array Value)[i % 2]!) = some z
  have h : i % 2 = 0 ∨ i % 2 = 1 := by omega
  rcases h with h | h <;> rw [h] <;> rfl
/-- The cells of the first k edges to those nodes. -/
def toC (zs : List Int) (k j : Nat) : Value := .int .i64 (if j % 2 = 0 ∧ j / 2 < k then zs.getD (j / 2) 0 else 0)
theorem toC_step {zs : List Int} {k m : Nat} {w : World} {b : Nat} {t : TypeId} {z : Int} (hr : w.rowIs b t m (toC zs k)) (hz : z = zs.getD k 0) : (w.setCell ⟨b, k * 2, none⟩ (.int .i64 z)).rowIs b t m (toC zs (k + 1)) :=
  (hr.set (k * 2) (.int .i64 z)).congr (fun j _ => by
    by_cases e : j = k * 2
    · subst e
      rw [if_pos rfl, hz]
      unfold toC
      rw [if_pos ⟨by omega, by omega⟩, show k * 2 / 2 = k by omega]
    · rw [if_neg e]
      unfold toC
      by_cases h : j % 2 = 0 ∧ j / 2 < k
      · rw [if_pos h, if_pos ⟨h.1, by omega⟩]
      · rw [if_neg h, if_neg (fun h2 => h ⟨h2.1, by omega⟩)])
/-- Edges to those nodes. -/
def edgesF (zs : List Int) : List (Int × Int) := zs.map fun z => (z, 0)

set_option maxHeartbeats 1000000 in
theorem edgesTo_any (A : Option Addr) (c m : Nat) (zs : List Int) (w : World) (hm : m = zs.length) (hA : IA w A zs) (hl : m ≤ 1000000) :
    Calls Try.prog 85 #[.slice A m c] w fun e w' => e = .returned (.slice (some ⟨w.heap.size, 0, none⟩) m m) ∧ Below w.heap.size w w' ∧ w.heap.size < w'.heap.size ∧ PA w' (some ⟨w.heap.size, 0, none⟩) (edgesF zs) := by
  obtain ⟨i0, hi, hz0, hz1, hz2⟩ := info_parts (show (Try.prog.info? 46).map (fun i => (i.zero, i.size, i.bytes)) = some (some (.agg #[.int .i64 0, .int .i64 0]), 2, 16) by kernel_rfl)
  have hmk : ∀ W : World, (Instr.makeSlice 39 (.int .i64 (m : Int)) (.int .i64 (m : Int))).run Try.prog W = .ok (.slice (some ⟨W.heap.size, 0, none⟩) m m) (W.alloc (.cells (madeCells #[.int .i64 0, .int .i64 0] (m * 2)) 46)) := fun W => by
    have hr := run_make (P := Try.prog) W 39 46 i0 _ (by kernel_rfl) hi hz0 .i64 .i64 (m : Int) (m : Int) (by omega) (Int.le_refl _) (by rw [hz2]; omega) (by omega)
    rw [hr, hz1]
    rw [Int.toNat_natCast]
    rfl
  have HM := Lib.hid hm
  have HA := Lib.hid hA
  have hrow : (w.alloc (.cells (madeCells #[.int .i64 0, .int .i64 0] (m * 2)) 46)).rowIs w.heap.size 46 (m * 2) (toC zs 0) := by
    have h := World.rowIs_alloc w (madeCells #[.int .i64 0, .int .i64 0] (m * 2)) 46 (toC zs 0) (fun i hi => by
      rw [(made2 _ (m * 2)).2 i (by rw [← (made2 (.int .i64 0) (m * 2)).1]; exact hi)]
      unfold toC
      rw [if_neg (by omega)])
    rwa [(made2 _ (m * 2)).1] at h
  have HROW := Lib.hid hrow
  clear hi hz0 hz1 hz2 hA hm hrow
  go_enter Try.func85, Try.ntmps85
  go_wp2
  clear hmk
  go_loopw [11] (fun i wr => ∃ k : Nat, k ≤ m ∧ i = .int .i64 k ∧ Hid (wr.rowIs w.heap.size 46 (m * 2) (toC zs k)) ∧ Hid (Below w.heap.size w wr)) (fun i _ => m - (intOf i).toNat)
  case atStart => exact ⟨0, by omega, rfl, HROW, Lib.hid ((Below.refl _ _).alloc (Nat.le_refl _) _)⟩
  case round =>
    obtain ⟨k, hk, rfl, HR, HB⟩ := hrel
    by_cases hlt : k < m
    · obtain ⟨b, o, rfl, hb, hc⟩ := HA.out.at_ (i := k) (by rw [← HM.out]; exact hlt)
      have c1 := (HB.out.cell (p := ⟨b, o + k, none⟩) hb).trans hc
      have c2 := HR.out.cell (i := k * 2) (by omega)
      have f2 := HR.out.frozen (k * 2)
      obtain ⟨z, HZ⟩ : ∃ z, Hid (zs.getD k 0 = z) := ⟨_, Lib.hid rfl⟩
      rw [HZ.out] at c1
      generalize toC zs k (k * 2) = u at c2
      clear hc
      go_wp2
      have HR2 := Lib.hid (toC_step HR.out HZ.out.symm)
      have HB2 : Hid (Below w.heap.size w (wr.setCell ⟨w.heap.size, k * 2, none⟩ (.int .i64 z))) := Lib.hid (HB.out.setCell (Nat.le_refl _) _)
      go_roundw
      case rel => exact ⟨k + 1, by omega, by go_num, HR2, HB2⟩
      case measure => simp [intOf]; omega
    · obtain rfl : k = m := by omega
      go_wp2
      go_ret
      refine ⟨rfl, HB.out, HR.out.lt, fun hn => ⟨w.heap.size, 0, rfl, HR.out.lt, fun i hi => ?_⟩⟩
      have hi2 : i < zs.length := by unfold edgesF at hi; simpa using hi
      have hk2 := HM.out
      rw [Nat.zero_add, HR.out.cell (i := i * 2) (by omega), HR.out.cell (i := i * 2 + 1) (by omega)]
      unfold toC edgesF
      rw [if_pos ⟨by omega, by omega⟩, if_neg (by omega), show i * 2 / 2 = i by omega]
      simp [List.getD, hi2]
end Go.Proofs.Ytnfiohekdbjgoaa
