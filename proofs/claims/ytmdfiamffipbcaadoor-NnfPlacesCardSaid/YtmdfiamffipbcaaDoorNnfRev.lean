/- slices.Reverse over nodes. -/
import Derived.Test.YtmdfiamffipbcaaDoorNnfW
import Derived.Deep.Cut
namespace Go.Proofs.YtmdfiamffipbcaaDoor.nf
open Go.ChangeShapes Go.WideShapes Go.ChangeAt Go.RowKit Go.Deep sr lt

/-- What lies at a place when k places of either end are turned. -/
def rvF (L : List (Int × Int)) (k i : Nat) : Int × Int := if i < k ∨ L.length ≤ i + k then L.getD (L.length - 1 - i) (0, 0) else L.getD i (0, 0)
theorem rvF_next {L : List (Int × Int)} {k j : Nat} (hj : k + j + 1 = L.length) (hkj : k < j) (i : Nat) (hi : i < L.length) : rvF L (k + 1) i = if i = j then rvF L k k else if i = k then rvF L k j else rvF L k i := by
  have e1 : rvF L k k = L.getD k (0, 0) := by unfold rvF; rw [if_neg (by omega)]
  have e2 : rvF L k j = L.getD j (0, 0) := by unfold rvF; rw [if_neg (by omega)]
  rw [e1, e2]
  by_cases h1 : i = j
  · subst h1
    rw [if_pos rfl]
    unfold rvF
    rw [if_pos (by omega)]
    congr 1
    omega
  · rw [if_neg h1]
    by_cases h2 : i = k
    · subst h2
      rw [if_pos rfl]
      unfold rvF
      rw [if_pos (by omega)]
      congr 1
      omega
    · rw [if_neg h2]
      unfold rvF
      by_cases h3 : i < k ∨ L.length ≤ i + k
      · rw [if_pos h3, if_pos (by omega)]
      · rw [if_neg h3, if_neg (by omega)]
theorem rvF_end {L : List (Int × Int)} {k i : Nat} (hi : i < L.length) (hk : L.length ≤ 2 * k + 1) : rvF L k i = L.reverse.getD i (0, 0) := by
  have h1 : L.reverse.getD i (0, 0) = L.getD (L.length - 1 - i) (0, 0) := by
    simp [List.getD, List.getElem?_reverse hi]
  rw [h1]
  unfold rvF
  split
  · rfl
  · congr 1
    omega
/-- Nodes that lie in a block. -/
def RvW (W : World) (g n : Nat) (f : Nat → Int × Int) : Prop := ∀ i, i < n → W.cell? ⟨g, i * 2, none⟩ = some (.int .i64 (f i).1) ∧ W.cell? ⟨g, i * 2 + 1, none⟩ = some (.int .i64 (f i).2)
theorem RvW.set {W : World} {g n : Nat} {f : Nat → Int × Int} (h : RvW W g n f) {k : Nat} (hk : k < n) (x : Int × Int) : RvW ((W.setCell ⟨g, k * 2, none⟩ (.int .i64 x.1)).setCell ⟨g, k * 2 + 1, none⟩ (.int .i64 x.2)) g n (fun i => if i = k then x else f i) := by
  have ne : ∀ {a b : Nat}, a ≠ b → (⟨g, a, none⟩ : Addr) ≠ ⟨g, b, none⟩ := fun h e => by injection e with _ e _; exact h e
  intro i hi
  dsimp only
  by_cases e : i = k
  · subst e
    rw [if_pos rfl]
    refine ⟨?_, ?_⟩
    · rw [World.cell?_setCell_other _ _ _ _ (ne (by omega))]
      exact World.cell?_setCell_same _ _ _ (h i hi).1
    · exact World.cell?_setCell_same _ _ _ ((World.cell?_setCell_other _ _ _ _ (ne (by omega))).trans (h i hi).2)
  · rw [if_neg e]
    refine ⟨?_, ?_⟩
    · rw [World.cell?_setCell_other _ _ _ _ (ne (by omega)), World.cell?_setCell_other _ _ _ _ (ne (by omega))]
      exact (h i hi).1
    · rw [World.cell?_setCell_other _ _ _ _ (ne (by omega)), World.cell?_setCell_other _ _ _ _ (ne (by omega))]
      exact (h i hi).2
set_option maxRecDepth 20000 in
set_option maxHeartbeats 4000000 in
theorem reverse_any (L : List (Int × Int)) (g c n : Nat) (w : World) (hn : n = L.length) (hn9 : n ≤ 100000) (hc : ∀ i, i < n → w.cell? ⟨g, 0 + i * 2, none⟩ = some (.int .i64 (L.getD i (0, 0)).1) ∧ w.cell? ⟨g, 0 + i * 2 + 1, none⟩ = some (.int .i64 (L.getD i (0, 0)).2)) (hf : ∀ j, w.frozen? ⟨g, j, none⟩ = false) :
    Calls Tryd.prog 33 #[.slice (some ⟨g, 0, none⟩) n c] w fun e w' => e = .returned (.tuple #[]) ∧ RvW w' g n (fun i => L.reverse.getD i (0, 0)) ∧ Turn (· = g) w w' ∧ w'.heap.size = w.heap.size := by
  have HN := Lib.hid hn
  have HC : Hid (RvW w g n (rvF L 0)) := Lib.hid (fun i hi => by
    have h := hc i hi
    rw [Nat.zero_add] at h
    unfold rvF
    rw [if_neg (by omega)]
    exact h)
  have HF := Lib.hid hf
  clear hn hc hf
  go_enter Tryd.func33, Tryd.ntmps33
  go_wp2
  go_loopw [2, 3] (fun iv jv wr => ∃ k : Nat, 2 * k ≤ n + 1 ∧ iv = .int .i64 k ∧ jv = .int .i64 ((n : Int) - 1 - k) ∧ Hid (RvW wr g n (rvF L k)) ∧ Hid (∀ j, wr.frozen? ⟨g, j, none⟩ = false) ∧ Hid (Turn (· = g) w wr) ∧ Hid (wr.heap.size = w.heap.size)) (fun iv _ _ => n - (intOf iv).toNat)
  case atStart => exact ⟨0, by omega, rfl, by simp, HC, HF, Lib.hid (Turn.refl _ _), Lib.hid rfl⟩
  case round =>
    obtain ⟨k, hk, rfl, rfl, HR, HFR, HT, HSZ⟩ := hrel
    by_cases hlt : 2 * k + 1 < n
    · obtain ⟨j, hj⟩ : ∃ j : Nat, (n : Int) - 1 - k = (j : Int) := ⟨n - 1 - k, by omega⟩
      have hjn : j < n := by omega
      have hkj : k < j := by omega
      have hkji : (k : Int) < (j : Int) := by omega
      have hkn : (k : Int) < (n : Int) := by omega
      have hjni : (j : Int) < (n : Int) := by omega
      rw [hj]
      obtain ⟨c1, c2⟩ := HR.out k (by omega)
      obtain ⟨d1, d2⟩ := HR.out j hjn
      have f1 := HFR.out (k * 2)
      have f2 := HFR.out (k * 2 + 1)
      have f3 := HFR.out (j * 2)
      have f4 := HFR.out (j * 2 + 1)
      obtain ⟨x, HX⟩ : ∃ x, Hid (rvF L k k = x) := ⟨_, Lib.hid rfl⟩
      obtain ⟨y, HY⟩ : ∃ y, Hid (rvF L k j = y) := ⟨_, Lib.hid rfl⟩
      rw [HX.out] at c1 c2
      rw [HY.out] at d1 d2
      have HJ := Lib.hid hj
      clear hj
      obtain ⟨x1, x2⟩ := x
      obtain ⟨y1, y2⟩ := y
      dsimp only at c1 c2 d1 d2
      go_upto_region 3 with (fail)
      go_region
      have HNEW := Lib.hid ((HR.out.set (k := k) (by omega) (y1, y2)).set (k := j) hjn (x1, x2))
      have HTN : Hid (Turn (· = g) w ((((wr.setCell ⟨g, k * 2, none⟩ (.int .i64 y1)).setCell ⟨g, k * 2 + 1, none⟩ (.int .i64 y2)).setCell ⟨g, j * 2, none⟩ (.int .i64 x1)).setCell ⟨g, j * 2 + 1, none⟩ (.int .i64 x2)).drew) := Lib.hid (((((HT.out.set ⟨g, k * 2, none⟩ _ rfl).set ⟨g, k * 2 + 1, none⟩ _ rfl).set ⟨g, j * 2, none⟩ _ rfl).set ⟨g, j * 2 + 1, none⟩ _ rfl).drewN 1)
      have HZN : Hid (((((wr.setCell ⟨g, k * 2, none⟩ (.int .i64 y1)).setCell ⟨g, k * 2 + 1, none⟩ (.int .i64 y2)).setCell ⟨g, j * 2, none⟩ (.int .i64 x1)).setCell ⟨g, j * 2 + 1, none⟩ (.int .i64 x2)).drew.heap.size = w.heap.size) := Lib.hid (by
        show ((((wr.setCell ⟨g, k * 2, none⟩ (.int .i64 y1)).setCell ⟨g, k * 2 + 1, none⟩ (.int .i64 y2)).setCell ⟨g, j * 2, none⟩ (.int .i64 x1)).setCell ⟨g, j * 2 + 1, none⟩ (.int .i64 x2)).heap.size = _
        simp
        exact HSZ.out)
      have HFN : Hid (∀ i, ((((wr.setCell ⟨g, k * 2, none⟩ (.int .i64 y1)).setCell ⟨g, k * 2 + 1, none⟩ (.int .i64 y2)).setCell ⟨g, j * 2, none⟩ (.int .i64 x1)).setCell ⟨g, j * 2 + 1, none⟩ (.int .i64 x2)).drew.frozen? ⟨g, i, none⟩ = false) := Lib.hid (fun i => by
        show ((((wr.setCell ⟨g, k * 2, none⟩ (.int .i64 y1)).setCell ⟨g, k * 2 + 1, none⟩ (.int .i64 y2)).setCell ⟨g, j * 2, none⟩ (.int .i64 x1)).setCell ⟨g, j * 2 + 1, none⟩ (.int .i64 x2)).frozen? ⟨g, i, none⟩ = _
        simp
        exact HFR.out i)
      have HJN : Hid (k + j + 1 = L.length) := Lib.hid (by have := HN.out; have := HJ.out; omega)
      clear c1 c2 d1 d2 f1 f2 f3 f4
      generalize ((((wr.setCell ⟨g, k * 2, none⟩ (.int .i64 y1)).setCell ⟨g, k * 2 + 1, none⟩ (.int .i64 y2)).setCell ⟨g, j * 2, none⟩ (.int .i64 x1)).setCell ⟨g, j * 2 + 1, none⟩ (.int .i64 x2)) = wn at *
      go_wp2
      go_roundw
      case rel =>
        refine ⟨k + 1, by omega, by go_num, by have := HJ.out; simp only [Value.int.injEq, true_and]; omega, Lib.hid (fun i hi => ?_), HFN, HTN, HZN⟩
        rw [rvF_next HJN.out hkj i (by rw [← HN.out]; exact hi), HX.out, HY.out]
        exact HNEW.out i hi
      case measure => simp [intOf]; omega
    · have hge : ¬ ((k : Int) < (n : Int) - 1 - k) := by omega
      go_wp2
      go_end0
      refine ⟨rfl, fun i hi => ?_, HT.out, HSZ.out⟩
      have h := HR.out i hi
      rw [rvF_end (by rw [← HN.out]; exact hi) (by rw [← HN.out]; omega)] at h
      exact h
end Go.Proofs.YtmdfiamffipbcaaDoor.nf
