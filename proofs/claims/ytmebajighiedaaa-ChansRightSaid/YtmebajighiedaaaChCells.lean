/- Contracts of package chans: cells, Put, Take. -/
import Derived.Test.YtmebajighiedaaaChItems
import Derived.Laws.CopyOwn
namespace Go.Proofs.Ytmebajighiedaaa.ch
open Go.ChangeShapes Go.WideShapes Go.ChangeAt Go.RowKit

theorem rowIs_rowO {w w' : World} {L : List Int} {b m : Nat} {t : TypeId} (hm : m = L.length) (hl : 8 * m ≤ 140737488355328) (hr : w'.rowIs b t m (fun i => .int .i64 (L.getD i 0))) (hb : Below w.heap.size w w') (hbb : w.heap.size ≤ b) :
    RowO w L (.returned (.slice (some ⟨b, 0, none⟩) m m)) w' := by
  subst hm
  refine ⟨_, _, rfl, ⟨fun _ => ⟨b, 0, rfl, hr.lt, fun i hi => ?_⟩, Nat.le_refl _, by unfold maxLen; omega, fun h => by cases h⟩, hb, fun a e => ?_⟩
  · have := hr.cell (i := i) hi
    rw [Nat.zero_add, this]
  · injection e with e; subst e; exact ⟨hbb, hr.lt, hr.frozen⟩
/-- What stands in the row when the number of values has been laid. -/
def hd0 (k j : Nat) : Value := if j = 0 then .int .i64 (k : Int) else .int .i64 0
theorem splice_cells {w : World} {b n k : Nat} {t : TypeId} {cur : Array Value} {xs : List Int} (hn : cur.size = n) (hcur : ∀ i, i < n → cur[i]? = some (hd0 k i)) (hk : k = xs.length) (hkn : k + 1 ≤ n)
    (hg : w.heap[b]? = some (.cells (splice cur.toList 1 (xs.map (Value.int .i64))).toArray t (0, 0))) : w.rowIs b t n (fun i => .int .i64 ((cellsF n xs).getD i 0)) := by
  subst hk
  refine ⟨_, hg, ?_, fun i hi => ?_⟩
  · simp [splice]; omega
  · have hc : ∀ j, j < n → cur.toList[j]? = some (hd0 xs.length j) := fun j hj => by rw [Array.getElem?_toList]; exact hcur j hj
    simp only [splice, List.getElem?_toArray]
    cases i with
    | zero =>
      rw [cells_zero, List.getElem?_append_left (by simp; omega), List.getElem?_take_of_lt (by omega), hc 0 (by omega)]
      rfl
    | succ i =>
      have hl1 : (cur.toList.take 1).length = 1 := by simp; omega
      rw [List.getElem?_append_right (by omega), hl1, Nat.add_sub_cancel]
      by_cases hx : i < xs.length
      · rw [List.getElem?_append_left (by simpa using hx), cells_value hx, List.getElem?_map]
        simp [List.getD, hx]
      · rw [List.getElem?_append_right (by simp; omega), List.getElem?_drop, List.length_map, show 1 + xs.length + (i - xs.length) = i + 1 by omega, hc _ hi, cells_rest (by omega)]
        rfl
set_option maxRecDepth 20000 in
set_option maxHeartbeats 1000000 in
theorem cells_any (r : Int) (A : Option Addr) (c k n : Nat) (xs : List Int) (w : World) (hr : 1 + r = (n : Int)) (hk : k = xs.length) (hA : IA w A xs) (hkn : k + 1 ≤ n) (hl : 8 * n ≤ 140737488355328) :
    Calls Try.prog 24 #[.int .i64 r, .slice A k c] w (RowO w (cellsF n xs)) := by
  obtain ⟨i0, hi, hz0, hz1, hz2⟩ := info_parts Try.info3
  have hmk : ∀ W : World, (Instr.makeSlice 22 (.int .i64 (n : Int)) (.int .i64 (n : Int))).run Try.prog W = .ok (.slice (some ⟨W.heap.size, 0, none⟩) n n) (W.alloc (.cells (madeCells #[.int .i64 0] n) 3)) := fun W => by
    have hr := run_make (P := Try.prog) W 22 3 i0 _ (by kernel_rfl) hi hz0 .i64 .i64 (n : Int) (n : Int) (by omega) (Int.le_refl _) (by rw [hz2]; omega) (by omega)
    rw [hr, hz1]
    rw [Int.toNat_natCast, Nat.mul_one]
    rfl
  clear hi hz0 hz1 hz2
  have HK := Lib.hid hk
  have HA := Lib.hid hA
  have HKN := Lib.hid hkn
  obtain ⟨t, ht⟩ : ∃ t, n = 1 + t := ⟨n - 1, by omega⟩
  obtain ⟨B2, hB2, q2⟩ := tail_run (some ⟨w.heap.size, 0, none⟩) 1 t n
  rw [← ht] at q2
  have HT := Lib.hid ht
  have HB2 := Lib.hid hB2
  have hwr : (n : Int) ≤ 9223372036854775807 := by omega
  have hkw : (k : Int) ≤ 9223372036854775807 := by omega
  have hn0 : 0 < n := by omega
  have q3 : ∀ W : World, (Instr.sliceAt 22 (.slice (some ⟨w.heap.size, 0, none⟩) n n) (some (.int .i64 1)) none none).run Try.prog W = .ok (.slice B2 t (n - 1)) W := q2
  have hg0 := World.alloc_heap_new w (.cells ((madeCells #[.int .i64 0] n).setIfInBounds 0 (.int .i64 (k : Int))) 3)
  have hb0 : Below w.heap.size w (w.alloc (.cells ((madeCells #[.int .i64 0] n).setIfInBounds 0 (.int .i64 (k : Int))) 3)) := (Below.refl _ _).alloc (Nat.le_refl _) _
  have hcur : ∀ i, i < n → ((madeCells #[.int .i64 0] n).setIfInBounds 0 (.int .i64 (k : Int)))[i]? = some (hd0 k i) := fun i hi => by
    rw [Array.getElem?_setIfInBounds]
    unfold hd0
    by_cases e : i = 0
    · subst e; rw [if_pos rfl, if_pos rfl, if_pos (by rw [size_madeCells]; omega)]
    · rw [if_neg (fun h => e h.symm), if_neg e]; simp [madeCells, hi, Nat.mod_one]
  have hsz : ((madeCells #[.int .i64 0] n).setIfInBounds 0 (Value.int .i64 (k : Int))).size = n := by rw [Array.size_setIfInBounds, size_madeCells]
  have HIA : Hid (∀ W, Below w.heap.size w W → IA W A xs) := Lib.hid (fun W hW => HA.out.below hW)
  have HG0 := Lib.hid hg0
  have HBL0 := Lib.hid hb0
  have HCUR := Lib.hid hcur
  have HSZ := Lib.hid hsz
  have hin : (0 : Int) < (n : Int) := by omega
  have HPOS : Hid (0 < (xs.map (Value.int .i64)).length → B2 = some ⟨w.heap.size, 1, none⟩ ∧ ∃ ad, A = some ad ∧ ∀ j v, (xs.map (Value.int .i64))[j]? = some v → (w.alloc (.cells ((madeCells #[.int .i64 0] n).setIfInBounds 0 (.int .i64 (k : Int))) 3)).cell? (ad.add j) = some v) := Lib.hid (fun h0 => by
    rw [List.length_map, ← HK.out] at h0
    have hA1 := HIA.out _ HBL0.out
    obtain ⟨b, o, rfl, hb, hcc⟩ := hA1 (by rw [← HK.out]; omega)
    exact ⟨by rw [HB2.out, if_neg (by have := HKN.out; omega)]; rfl, _, rfl, news_map hA1⟩)
  have HFIT : Hid (1 + (xs.map (Value.int .i64)).length ≤ ((madeCells #[.int .i64 0] n).setIfInBounds 0 (Value.int .i64 (k : Int))).toList.length) := Lib.hid (by rw [show ((madeCells #[.int .i64 0] n).setIfInBounds 0 (Value.int .i64 (k : Int))).toList.length = n from Array.length_toList.trans HSZ.out, List.length_map, ← HK.out]; have := HKN.out; omega)
  have HMIN : Hid ((xs.map (Value.int .i64)).length = Nat.min k t) := Lib.hid (by rw [List.length_map, ← HK.out]; have := HKN.out; have := HT.out; exact (Nat.min_eq_left (by omega)).symm)
  have hW0 := World.rowIs_made w (.int .i64 0) n 3
  have c0 := hW0.cell hn0
  have f0 := hW0.frozen 0
  clear hW0
  clear hk hA hkn ht hB2 q2 hg0 hb0 hcur hsz
  go_enter Try.func24, Try.ntmps24
  go_wp2_with (with_reducible show wpList _ _ _ (⟨some 16, _, _, _, _, _⟩ :: _) _ _; go_loud (refine wpList_copy_splice rfl (.tmp 14) (.tmp 15) 22 22 rfl 3 Try.underlying22 (by kernel_rfl) B2 A t (n - 1) k c rfl rfl w.heap.size 1 ((madeCells #[.int .i64 0] n).setIfInBounds 0 (.int .i64 (k : Int))).toList 3 (by rw [Array.toArray_toList]; exact HG0.out) (xs.map (Value.int .i64)) HMIN.out HPOS.out HFIT.out (news_one xs) w.heap.size w HBL0.out (Nat.le_refl _) ?_); intro w3 hg3 hb3; have HB3 := Lib.hid hb3; have HR3 := Lib.hid (splice_cells HSZ.out HCUR.out HK.out HKN.out hg3.out); clear hb3 hg3)
  go_ret
  exact rowIs_rowO (cells_length (by rw [← HK.out]; exact HKN.out)).symm hl HR3.out HB3.out (Nat.le_refl _)
end Go.Proofs.Ytmebajighiedaaa.ch
