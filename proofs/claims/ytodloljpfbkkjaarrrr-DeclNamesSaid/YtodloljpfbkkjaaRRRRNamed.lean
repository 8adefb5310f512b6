/- The program's named: the names of five kinds of structs. -/
import Derived.Test.YtodloljpfbkkjaaRRRRNames
import Derived.Deep.RegionHeld3
import Derived.Laws.Rows
namespace Go.Proofs.YtodloljpfbkkjaaRRRR.nms
open Go.ChangeShapes Go.WideShapes Go.ChangeAt Go.RowKit

/-- What named leaves: a row of texts in new memory. -/
def NewT (w : World) (l : List ByteArray) (e : Ending) (w' : World) : Prop := e = .returned (.slice (some ⟨w.heap.size, 0, none⟩) l.length l.length) ∧ TA w' (some ⟨w.heap.size, 0, none⟩) l ∧ Below w.heap.size w w' ∧ w.heap.size < w'.heap.size
/-- A slice of api.Scalar, names l, at address A (nil let in). -/
def NA (w : World) (A : Option Addr) (l : List ByteArray) : Prop :=
  0 < l.length → ∃ b off, A = some ⟨b, off, none⟩ ∧ b < w.heap.size ∧ ∀ i, i < l.length → w.cell? ⟨b, off + i * 2, none⟩ = some (.string (l.getD i default)) ∧ ∃ (a1 : Int), w.cell? ⟨b, off + i * 2 + 1, none⟩ = some (.int .i64 a1)
theorem NA.below {w w' : World} {A : Option Addr} {l : List ByteArray} (h : NA w A l) (hk : Below w.heap.size w w') : NA w' A l := fun hn => by
  obtain ⟨b, off, e, hb, hc⟩ := h hn
  refine ⟨b, off, e, Nat.lt_of_lt_of_le hb hk.size, fun i hi => ?_⟩
  obtain ⟨h0, a1, g1⟩ := hc i hi
  exact ⟨(hk.cell (p := ⟨b, off + i * 2, none⟩) hb).trans h0, a1, (hk.cell (p := ⟨b, off + i * 2 + 1, none⟩) hb).trans g1⟩
theorem NA.ns {w : World} {A : Option Addr} {l : List ByteArray} (h : NA w A l) : NS 2 w A l := fun hn => by
  obtain ⟨b, off, e, hb, hc⟩ := h hn
  exact ⟨b, off, e, hb, fun i hi => (hc i hi).1⟩
theorem nameA_any (x : ByteArray) (a1 : Int) (w : World) : Calls Try.prog 25 #[.agg #[.string x, .int .i64 a1]] w fun e w' => e = .returned (.string x) ∧ Below w.heap.size w w' := by
  go_enter Try.func25, Try.ntmps25
  go_wp2
  go_ret
  exact ⟨rfl, below_alloc1 _ _⟩
set_option maxRecDepth 20000 in
set_option maxHeartbeats 4000000 in
theorem namedA_any (l : List ByteArray) (A : Option Addr) (c m : Nat) (w : World) (hm : m = l.length) (hmm : m ≤ 1000) (hA : NA w A l) :
    Calls Try.prog 24 #[.slice A m c, .func (.func 25) #[] #[]] w (NewT w l) := by
  have HM := Lib.hid hm
  have HA := Lib.hid hA
  have hmk := run_make_row' (P := Try.prog) 47 9 (.string ⟨#[]⟩) 16 Try.underlying47 (show (Try.prog.info? 9).map (fun i => (i.zero, i.size, i.bytes)) = some (some (.string ⟨#[]⟩), 1, 16) by kernel_rfl) rfl .i64 .i64 m (by omega) (by omega) w
  clear hm hA
  go_enter Try.func24, Try.ntmps24
  go_wp2
  clear hmk
  go_loopw [13] (fun i wr => ∃ (k : Nat) (f : Nat → ByteArray), k ≤ m ∧ i = .int .i64 k ∧ Hid (wr.rowIs w.heap.size 9 m (fun i => .string (f i))) ∧ Hid (Below w.heap.size w wr) ∧ Hid (∀ i, i < k → f i = l.getD i default)) (fun i _ => m - (intOf i).toNat)
  case atStart => exact ⟨0, fun _ => ⟨#[]⟩, Nat.zero_le _, rfl, Lib.hid (World.rowIs_made w _ _ _), Lib.hid ((Below.refl _ _).alloc (Nat.le_refl _) _), Lib.hid (fun i hi => absurd hi (Nat.not_lt_zero _))⟩
  case round =>
    obtain ⟨k, f, hk, rfl, HG, HB, HO⟩ := hrel
    by_cases hlt : k < m
    · obtain ⟨b, o, rfl, hb, hc⟩ := HA.out.below HB.out (by rw [← HM.out]; omega)
      obtain ⟨g0, a1, g1⟩ := hc k (by rw [← HM.out]; exact hlt)
      obtain ⟨x, HX⟩ : ∃ x, Hid (l.getD k default = x) := ⟨_, Lib.hid rfl⟩
      rw [HX.out] at g0
      have hi0 : (0 : Int) ≤ (k : Int) := by omega
      have hi9 : (k : Int) < (m : Int) := by omega
      clear hc
      go_wp2_with fail
      refine (nameA_any x a1 _).mono ?_
      rintro e w2 ⟨rfl, hb2⟩
      have HB2 : Hid (Below wr.heap.size wr w2) := Lib.hid (bthen (below_alloc1 _ _) hb2)
      have HB3 : Hid (Below w.heap.size w w2) := Lib.hid (HB.out.trans (HB2.out.mono HB.out.size))
      have HG2 : Hid (w2.rowIs w.heap.size 9 m (fun i => .string (f i))) := Lib.hid (by
        obtain ⟨cc, h1, h2, h3⟩ := HG.out
        exact ⟨cc, (HB2.out.block _ (Array.getElem?_eq_some_iff.1 h1).1).trans h1, h2, h3⟩)
      clear hb2 g0 g1
      obtain ⟨u, c3⟩ : ∃ u, w2.cell? ⟨w.heap.size, k, none⟩ = some u := ⟨_, World.rowIs.cell HG2.out hlt⟩
      have c4 : w2.frozen? ⟨w.heap.size, k, none⟩ = false := World.rowIs.frozen HG2.out k
      have HSET : Hid ((w2.setCell ⟨w.heap.size, k, none⟩ (.string x)).rowIs w.heap.size 9 m (fun i => .string (if i = k then x else f i))) := Lib.hid ((HG2.out.set k _).congr (fun i hi => by by_cases h : i = k <;> simp [h]))
      have HBS : Hid (Below w.heap.size w (w2.setCell ⟨w.heap.size, k, none⟩ (.string x))) := Lib.hid (HB3.out.setCell (Nat.le_refl _) _)
      have HOK : Hid (∀ i, i < k + 1 → (if i = k then x else f i) = l.getD i default) := Lib.hid (fun i hi => by
        by_cases h : i = k
        · subst h; rw [if_pos rfl, HX.out]
        · rw [if_neg h]; exact HO.out i (by omega))
      go_wp2
      go_roundw
      case rel => exact ⟨k + 1, _, by omega, by go_num, HSET, HBS, HOK⟩
      case measure => simp [intOf]; omega
    · obtain rfl : k = m := by omega
      have HROW : Hid (TA wr (some ⟨w.heap.size, 0, none⟩) l) := Lib.hid (fun hn => ⟨w.heap.size, 0, rfl, HG.out.lt, fun i hi => by
        have := HG.out.cell (i := i) (by rw [HM.out]; exact hi)
        rw [Nat.zero_add, this, HO.out i (by rw [HM.out]; exact hi)]⟩)
      have HLT : Hid (w.heap.size < wr.heap.size) := Lib.hid HG.out.lt
      go_wp2
      go_ret
      exact ⟨by rw [← HM.out]; rfl, HROW.out, HB.out, HLT.out⟩
/-- A slice of api.Var, names l, at address A (nil let in). -/
def NV (w : World) (A : Option Addr) (l : List ByteArray) : Prop :=
  0 < l.length → ∃ b off, A = some ⟨b, off, none⟩ ∧ b < w.heap.size ∧ ∀ i, i < l.length → w.cell? ⟨b, off + i * 6, none⟩ = some (.string (l.getD i default)) ∧ ∃ (a1 : Int) (a2 : Int) (a3 : Int) (a4 : Int) (a5 : Int), w.cell? ⟨b, off + i * 6 + 1, none⟩ = some (.int .i64 a1) ∧ w.cell? ⟨b, off + i * 6 + 2, none⟩ = some (.int .i64 a2) ∧ w.cell? ⟨b, off + i * 6 + 3, none⟩ = some (.int .i64 a3) ∧ w.cell? ⟨b, off + i * 6 + 4, none⟩ = some (.int .i64 a4) ∧ w.cell? ⟨b, off + i * 6 + 5, none⟩ = some (.int .i64 a5)
theorem NV.below {w w' : World} {A : Option Addr} {l : List ByteArray} (h : NV w A l) (hk : Below w.heap.size w w') : NV w' A l := fun hn => by
  obtain ⟨b, off, e, hb, hc⟩ := h hn
  refine ⟨b, off, e, Nat.lt_of_lt_of_le hb hk.size, fun i hi => ?_⟩
  obtain ⟨h0, a1, a2, a3, a4, a5, g1, g2, g3, g4, g5⟩ := hc i hi
  exact ⟨(hk.cell (p := ⟨b, off + i * 6, none⟩) hb).trans h0, a1, a2, a3, a4, a5, (hk.cell (p := ⟨b, off + i * 6 + 1, none⟩) hb).trans g1, (hk.cell (p := ⟨b, off + i * 6 + 2, none⟩) hb).trans g2, (hk.cell (p := ⟨b, off + i * 6 + 3, none⟩) hb).trans g3, (hk.cell (p := ⟨b, off + i * 6 + 4, none⟩) hb).trans g4, (hk.cell (p := ⟨b, off + i * 6 + 5, none⟩) hb).trans g5⟩
theorem NV.ns {w : World} {A : Option Addr} {l : List ByteArray} (h : NV w A l) : NS 6 w A l := fun hn => by
  obtain ⟨b, off, e, hb, hc⟩ := h hn
  exact ⟨b, off, e, hb, fun i hi => (hc i hi).1⟩
theorem nameV_any (x : ByteArray) (a1 : Int) (a2 : Int) (a3 : Int) (a4 : Int) (a5 : Int) (w : World) : Calls Try.prog 27 #[.agg #[.string x, .int .i64 a1, .int .i64 a2, .int .i64 a3, .int .i64 a4, .int .i64 a5]] w fun e w' => e = .returned (.string x) ∧ Below w.heap.size w w' := by
  go_enter Try.func27, Try.ntmps27
  go_wp2
  go_ret
  exact ⟨rfl, below_alloc1 _ _⟩
set_option maxRecDepth 20000 in
set_option maxHeartbeats 4000000 in
theorem namedV_any (l : List ByteArray) (A : Option Addr) (c m : Nat) (w : World) (hm : m = l.length) (hmm : m ≤ 1000) (hA : NV w A l) :
    Calls Try.prog 26 #[.slice A m c, .func (.func 27) #[] #[]] w (NewT w l) := by
  have HM := Lib.hid hm
  have HA := Lib.hid hA
  have hmk := run_make_row' (P := Try.prog) 47 9 (.string ⟨#[]⟩) 16 Try.underlying47 (show (Try.prog.info? 9).map (fun i => (i.zero, i.size, i.bytes)) = some (some (.string ⟨#[]⟩), 1, 16) by kernel_rfl) rfl .i64 .i64 m (by omega) (by omega) w
  clear hm hA
  go_enter Try.func26, Try.ntmps26
  go_wp2
  clear hmk
  go_loopw [13] (fun i wr => ∃ (k : Nat) (f : Nat → ByteArray), k ≤ m ∧ i = .int .i64 k ∧ Hid (wr.rowIs w.heap.size 9 m (fun i => .string (f i))) ∧ Hid (Below w.heap.size w wr) ∧ Hid (∀ i, i < k → f i = l.getD i default)) (fun i _ => m - (intOf i).toNat)
  case atStart => exact ⟨0, fun _ => ⟨#[]⟩, Nat.zero_le _, rfl, Lib.hid (World.rowIs_made w _ _ _), Lib.hid ((Below.refl _ _).alloc (Nat.le_refl _) _), Lib.hid (fun i hi => absurd hi (Nat.not_lt_zero _))⟩
  case round =>
    obtain ⟨k, f, hk, rfl, HG, HB, HO⟩ := hrel
    by_cases hlt : k < m
    · obtain ⟨b, o, rfl, hb, hc⟩ := HA.out.below HB.out (by rw [← HM.out]; omega)
      obtain ⟨g0, a1, a2, a3, a4, a5, g1, g2, g3, g4, g5⟩ := hc k (by rw [← HM.out]; exact hlt)
      obtain ⟨x, HX⟩ : ∃ x, Hid (l.getD k default = x) := ⟨_, Lib.hid rfl⟩
      rw [HX.out] at g0
      have hi0 : (0 : Int) ≤ (k : Int) := by omega
      have hi9 : (k : Int) < (m : Int) := by omega
      clear hc
      go_wp2_with fail
      refine (nameV_any x a1 a2 a3 a4 a5 _).mono ?_
      rintro e w2 ⟨rfl, hb2⟩
      have HB2 : Hid (Below wr.heap.size wr w2) := Lib.hid (bthen (below_alloc1 _ _) hb2)
      have HB3 : Hid (Below w.heap.size w w2) := Lib.hid (HB.out.trans (HB2.out.mono HB.out.size))
      have HG2 : Hid (w2.rowIs w.heap.size 9 m (fun i => .string (f i))) := Lib.hid (by
        obtain ⟨cc, h1, h2, h3⟩ := HG.out
        exact ⟨cc, (HB2.out.block _ (Array.getElem?_eq_some_iff.1 h1).1).trans h1, h2, h3⟩)
      clear hb2 g0 g1 g2 g3 g4 g5
      obtain ⟨u, c3⟩ : ∃ u, w2.cell? ⟨w.heap.size, k, none⟩ = some u := ⟨_, World.rowIs.cell HG2.out hlt⟩
      have c4 : w2.frozen? ⟨w.heap.size, k, none⟩ = false := World.rowIs.frozen HG2.out k
      have HSET : Hid ((w2.setCell ⟨w.heap.size, k, none⟩ (.string x)).rowIs w.heap.size 9 m (fun i => .string (if i = k then x else f i))) := Lib.hid ((HG2.out.set k _).congr (fun i hi => by by_cases h : i = k <;> simp [h]))
      have HBS : Hid (Below w.heap.size w (w2.setCell ⟨w.heap.size, k, none⟩ (.string x))) := Lib.hid (HB3.out.setCell (Nat.le_refl _) _)
      have HOK : Hid (∀ i, i < k + 1 → (if i = k then x else f i) = l.getD i default) := Lib.hid (fun i hi => by
        by_cases h : i = k
        · subst h; rw [if_pos rfl, HX.out]
        · rw [if_neg h]; exact HO.out i (by omega))
      go_wp2
      go_roundw
      case rel => exact ⟨k + 1, _, by omega, by go_num, HSET, HBS, HOK⟩
      case measure => simp [intOf]; omega
    · obtain rfl : k = m := by omega
      have HROW : Hid (TA wr (some ⟨w.heap.size, 0, none⟩) l) := Lib.hid (fun hn => ⟨w.heap.size, 0, rfl, HG.out.lt, fun i hi => by
        have := HG.out.cell (i := i) (by rw [HM.out]; exact hi)
        rw [Nat.zero_add, this, HO.out i (by rw [HM.out]; exact hi)]⟩)
      have HLT : Hid (w.heap.size < wr.heap.size) := Lib.hid HG.out.lt
      go_wp2
      go_ret
      exact ⟨by rw [← HM.out]; rfl, HROW.out, HB.out, HLT.out⟩
/-- A slice of api.Chan, names l, at address A (nil let in). -/
def NC (w : World) (A : Option Addr) (l : List ByteArray) : Prop :=
  0 < l.length → ∃ b off, A = some ⟨b, off, none⟩ ∧ b < w.heap.size ∧ ∀ i, i < l.length → w.cell? ⟨b, off + i * 6, none⟩ = some (.string (l.getD i default)) ∧ ∃ (a1 : Int) (a2 : Int) (a3 : Int) (a4 : Int) (a5 : Bool), w.cell? ⟨b, off + i * 6 + 1, none⟩ = some (.int .i64 a1) ∧ w.cell? ⟨b, off + i * 6 + 2, none⟩ = some (.int .i64 a2) ∧ w.cell? ⟨b, off + i * 6 + 3, none⟩ = some (.int .i64 a3) ∧ w.cell? ⟨b, off + i * 6 + 4, none⟩ = some (.int .i64 a4) ∧ w.cell? ⟨b, off + i * 6 + 5, none⟩ = some (.bool a5)
theorem NC.below {w w' : World} {A : Option Addr} {l : List ByteArray} (h : NC w A l) (hk : Below w.heap.size w w') : NC w' A l := fun hn => by
  obtain ⟨b, off, e, hb, hc⟩ := h hn
  refine ⟨b, off, e, Nat.lt_of_lt_of_le hb hk.size, fun i hi => ?_⟩
  obtain ⟨h0, a1, a2, a3, a4, a5, g1, g2, g3, g4, g5⟩ := hc i hi
  exact ⟨(hk.cell (p := ⟨b, off + i * 6, none⟩) hb).trans h0, a1, a2, a3, a4, a5, (hk.cell (p := ⟨b, off + i * 6 + 1, none⟩) hb).trans g1, (hk.cell (p := ⟨b, off + i * 6 + 2, none⟩) hb).trans g2, (hk.cell (p := ⟨b, off + i * 6 + 3, none⟩) hb).trans g3, (hk.cell (p := ⟨b, off + i * 6 + 4, none⟩) hb).trans g4, (hk.cell (p := ⟨b, off + i * 6 + 5, none⟩) hb).trans g5⟩
theorem NC.ns {w : World} {A : Option Addr} {l : List ByteArray} (h : NC w A l) : NS 6 w A l := fun hn => by
  obtain ⟨b, off, e, hb, hc⟩ := h hn
  exact ⟨b, off, e, hb, fun i hi => (hc i hi).1⟩
theorem nameC_any (x : ByteArray) (a1 : Int) (a2 : Int) (a3 : Int) (a4 : Int) (a5 : Bool) (w : World) : Calls Try.prog 29 #[.agg #[.string x, .int .i64 a1, .int .i64 a2, .int .i64 a3, .int .i64 a4, .bool a5]] w fun e w' => e = .returned (.string x) ∧ Below w.heap.size w w' := by
  go_enter Try.func29, Try.ntmps29
  go_wp2
  go_ret
  exact ⟨rfl, below_alloc1 _ _⟩
set_option maxRecDepth 20000 in
set_option maxHeartbeats 4000000 in
theorem namedC_any (l : List ByteArray) (A : Option Addr) (c m : Nat) (w : World) (hm : m = l.length) (hmm : m ≤ 1000) (hA : NC w A l) :
    Calls Try.prog 28 #[.slice A m c, .func (.func 29) #[] #[]] w (NewT w l) := by
  have HM := Lib.hid hm
  have HA := Lib.hid hA
  have hmk := run_make_row' (P := Try.prog) 47 9 (.string ⟨#[]⟩) 16 Try.underlying47 (show (Try.prog.info? 9).map (fun i => (i.zero, i.size, i.bytes)) = some (some (.string ⟨#[]⟩), 1, 16) by kernel_rfl) rfl .i64 .i64 m (by omega) (by omega) w
  clear hm hA
  go_enter Try.func28, Try.ntmps28
  go_wp2
  clear hmk
  go_loopw [13] (fun i wr => ∃ (k : Nat) (f : Nat → ByteArray), k ≤ m ∧ i = .int .i64 k ∧ Hid (wr.rowIs w.heap.size 9 m (fun i => .string (f i))) ∧ Hid (Below w.heap.size w wr) ∧ Hid (∀ i, i < k → f i = l.getD i default)) (fun i _ => m - (intOf i).toNat)
  case atStart => exact ⟨0, fun _ => ⟨#[]⟩, Nat.zero_le _, rfl, Lib.hid (World.rowIs_made w _ _ _), Lib.hid ((Below.refl _ _).alloc (Nat.le_refl _) _), Lib.hid (fun i hi => absurd hi (Nat.not_lt_zero _))⟩
  case round =>
    obtain ⟨k, f, hk, rfl, HG, HB, HO⟩ := hrel
    by_cases hlt : k < m
    · obtain ⟨b, o, rfl, hb, hc⟩ := HA.out.below HB.out (by rw [← HM.out]; omega)
      obtain ⟨g0, a1, a2, a3, a4, a5, g1, g2, g3, g4, g5⟩ := hc k (by rw [← HM.out]; exact hlt)
      obtain ⟨x, HX⟩ : ∃ x, Hid (l.getD k default = x) := ⟨_, Lib.hid rfl⟩
      rw [HX.out] at g0
      have hi0 : (0 : Int) ≤ (k : Int) := by omega
      have hi9 : (k : Int) < (m : Int) := by omega
      clear hc
      go_wp2_with fail
      refine (nameC_any x a1 a2 a3 a4 a5 _).mono ?_
      rintro e w2 ⟨rfl, hb2⟩
      have HB2 : Hid (Below wr.heap.size wr w2) := Lib.hid (bthen (below_alloc1 _ _) hb2)
      have HB3 : Hid (Below w.heap.size w w2) := Lib.hid (HB.out.trans (HB2.out.mono HB.out.size))
      have HG2 : Hid (w2.rowIs w.heap.size 9 m (fun i => .string (f i))) := Lib.hid (by
        obtain ⟨cc, h1, h2, h3⟩ := HG.out
        exact ⟨cc, (HB2.out.block _ (Array.getElem?_eq_some_iff.1 h1).1).trans h1, h2, h3⟩)
      clear hb2 g0 g1 g2 g3 g4 g5
      obtain ⟨u, c3⟩ : ∃ u, w2.cell? ⟨w.heap.size, k, none⟩ = some u := ⟨_, World.rowIs.cell HG2.out hlt⟩
      have c4 : w2.frozen? ⟨w.heap.size, k, none⟩ = false := World.rowIs.frozen HG2.out k
      have HSET : Hid ((w2.setCell ⟨w.heap.size, k, none⟩ (.string x)).rowIs w.heap.size 9 m (fun i => .string (if i = k then x else f i))) := Lib.hid ((HG2.out.set k _).congr (fun i hi => by by_cases h : i = k <;> simp [h]))
      have HBS : Hid (Below w.heap.size w (w2.setCell ⟨w.heap.size, k, none⟩ (.string x))) := Lib.hid (HB3.out.setCell (Nat.le_refl _) _)
      have HOK : Hid (∀ i, i < k + 1 → (if i = k then x else f i) = l.getD i default) := Lib.hid (fun i hi => by
        by_cases h : i = k
        · subst h; rw [if_pos rfl, HX.out]
        · rw [if_neg h]; exact HO.out i (by omega))
      go_wp2
      go_roundw
      case rel => exact ⟨k + 1, _, by omega, by go_num, HSET, HBS, HOK⟩
      case measure => simp [intOf]; omega
    · obtain rfl : k = m := by omega
      have HROW : Hid (TA wr (some ⟨w.heap.size, 0, none⟩) l) := Lib.hid (fun hn => ⟨w.heap.size, 0, rfl, HG.out.lt, fun i hi => by
        have := HG.out.cell (i := i) (by rw [HM.out]; exact hi)
        rw [Nat.zero_add, this, HO.out i (by rw [HM.out]; exact hi)]⟩)
      have HLT : Hid (w.heap.size < wr.heap.size) := Lib.hid HG.out.lt
      go_wp2
      go_ret
      exact ⟨by rw [← HM.out]; rfl, HROW.out, HB.out, HLT.out⟩
/-- A slice of api.Cmd, names l, at address A (nil let in). -/
def NM (w : World) (A : Option Addr) (l : List ByteArray) : Prop :=
  0 < l.length → ∃ b off, A = some ⟨b, off, none⟩ ∧ b < w.heap.size ∧ ∀ i, i < l.length → w.cell? ⟨b, off + i * 6, none⟩ = some (.string (l.getD i default)) ∧ ∃ (a1 : Int) (a2 : Int) (a3 : Option Addr) (p3 q3 : Nat) (a4 : Option Addr) (p4 q4 : Nat) (a5 : Bool), w.cell? ⟨b, off + i * 6 + 1, none⟩ = some (.int .i64 a1) ∧ w.cell? ⟨b, off + i * 6 + 2, none⟩ = some (.int .i64 a2) ∧ w.cell? ⟨b, off + i * 6 + 3, none⟩ = some (.slice a3 p3 q3) ∧ w.cell? ⟨b, off + i * 6 + 4, none⟩ = some (.slice a4 p4 q4) ∧ w.cell? ⟨b, off + i * 6 + 5, none⟩ = some (.bool a5)
theorem NM.below {w w' : World} {A : Option Addr} {l : List ByteArray} (h : NM w A l) (hk : Below w.heap.size w w') : NM w' A l := fun hn => by
  obtain ⟨b, off, e, hb, hc⟩ := h hn
  refine ⟨b, off, e, Nat.lt_of_lt_of_le hb hk.size, fun i hi => ?_⟩
  obtain ⟨h0, a1, a2, a3, p3, q3, a4, p4, q4, a5, g1, g2, g3, g4, g5⟩ := hc i hi
  exact ⟨(hk.cell (p := ⟨b, off + i * 6, none⟩) hb).trans h0, a1, a2, a3, p3, q3, a4, p4, q4, a5, (hk.cell (p := ⟨b, off + i * 6 + 1, none⟩) hb).trans g1, (hk.cell (p := ⟨b, off + i * 6 + 2, none⟩) hb).trans g2, (hk.cell (p := ⟨b, off + i * 6 + 3, none⟩) hb).trans g3, (hk.cell (p := ⟨b, off + i * 6 + 4, none⟩) hb).trans g4, (hk.cell (p := ⟨b, off + i * 6 + 5, none⟩) hb).trans g5⟩
theorem NM.ns {w : World} {A : Option Addr} {l : List ByteArray} (h : NM w A l) : NS 6 w A l := fun hn => by
  obtain ⟨b, off, e, hb, hc⟩ := h hn
  exact ⟨b, off, e, hb, fun i hi => (hc i hi).1⟩
theorem nameM_any (x : ByteArray) (a1 : Int) (a2 : Int) (a3 : Option Addr) (p3 q3 : Nat) (a4 : Option Addr) (p4 q4 : Nat) (a5 : Bool) (w : World) : Calls Try.prog 31 #[.agg #[.string x, .int .i64 a1, .int .i64 a2, .slice a3 p3 q3, .slice a4 p4 q4, .bool a5]] w fun e w' => e = .returned (.string x) ∧ Below w.heap.size w w' := by
  go_enter Try.func31, Try.ntmps31
  go_wp2
  go_ret
  exact ⟨rfl, below_alloc1 _ _⟩
set_option maxRecDepth 20000 in
set_option maxHeartbeats 4000000 in
theorem namedM_any (l : List ByteArray) (A : Option Addr) (c m : Nat) (w : World) (hm : m = l.length) (hmm : m ≤ 1000) (hA : NM w A l) :
    Calls Try.prog 30 #[.slice A m c, .func (.func 31) #[] #[]] w (NewT w l) := by
  have HM := Lib.hid hm
  have HA := Lib.hid hA
  have hmk := run_make_row' (P := Try.prog) 47 9 (.string ⟨#[]⟩) 16 Try.underlying47 (show (Try.prog.info? 9).map (fun i => (i.zero, i.size, i.bytes)) = some (some (.string ⟨#[]⟩), 1, 16) by kernel_rfl) rfl .i64 .i64 m (by omega) (by omega) w
  clear hm hA
  go_enter Try.func30, Try.ntmps30
  go_wp2
  clear hmk
  go_loopw [13] (fun i wr => ∃ (k : Nat) (f : Nat → ByteArray), k ≤ m ∧ i = .int .i64 k ∧ Hid (wr.rowIs w.heap.size 9 m (fun i => .string (f i))) ∧ Hid (Below w.heap.size w wr) ∧ Hid (∀ i, i < k → f i = l.getD i default)) (fun i _ => m - (intOf i).toNat)
  case atStart => exact ⟨0, fun _ => ⟨#[]⟩, Nat.zero_le _, rfl, Lib.hid (World.rowIs_made w _ _ _), Lib.hid ((Below.refl _ _).alloc (Nat.le_refl _) _), Lib.hid (fun i hi => absurd hi (Nat.not_lt_zero _))⟩
  case round =>
    obtain ⟨k, f, hk, rfl, HG, HB, HO⟩ := hrel
    by_cases hlt : k < m
    · obtain ⟨b, o, rfl, hb, hc⟩ := HA.out.below HB.out (by rw [← HM.out]; omega)
      obtain ⟨g0, a1, a2, a3, p3, q3, a4, p4, q4, a5, g1, g2, g3, g4, g5⟩ := hc k (by rw [← HM.out]; exact hlt)
      obtain ⟨x, HX⟩ : ∃ x, Hid (l.getD k default = x) := ⟨_, Lib.hid rfl⟩
      rw [HX.out] at g0
      have hi0 : (0 : Int) ≤ (k : Int) := by omega
      have hi9 : (k : Int) < (m : Int) := by omega
      clear hc
      go_wp2_with fail
      refine (nameM_any x a1 a2 a3 p3 q3 a4 p4 q4 a5 _).mono ?_
      rintro e w2 ⟨rfl, hb2⟩
      have HB2 : Hid (Below wr.heap.size wr w2) := Lib.hid (bthen (below_alloc1 _ _) hb2)
      have HB3 : Hid (Below w.heap.size w w2) := Lib.hid (HB.out.trans (HB2.out.mono HB.out.size))
      have HG2 : Hid (w2.rowIs w.heap.size 9 m (fun i => .string (f i))) := Lib.hid (by
        obtain ⟨cc, h1, h2, h3⟩ := HG.out
        exact ⟨cc, (HB2.out.block _ (Array.getElem?_eq_some_iff.1 h1).1).trans h1, h2, h3⟩)
      clear hb2 g0 g1 g2 g3 g4 g5
      obtain ⟨u, c3⟩ : ∃ u, w2.cell? ⟨w.heap.size, k, none⟩ = some u := ⟨_, World.rowIs.cell HG2.out hlt⟩
      have c4 : w2.frozen? ⟨w.heap.size, k, none⟩ = false := World.rowIs.frozen HG2.out k
      have HSET : Hid ((w2.setCell ⟨w.heap.size, k, none⟩ (.string x)).rowIs w.heap.size 9 m (fun i => .string (if i = k then x else f i))) := Lib.hid ((HG2.out.set k _).congr (fun i hi => by by_cases h : i = k <;> simp [h]))
      have HBS : Hid (Below w.heap.size w (w2.setCell ⟨w.heap.size, k, none⟩ (.string x))) := Lib.hid (HB3.out.setCell (Nat.le_refl _) _)
      have HOK : Hid (∀ i, i < k + 1 → (if i = k then x else f i) = l.getD i default) := Lib.hid (fun i hi => by
        by_cases h : i = k
        · subst h; rw [if_pos rfl, HX.out]
        · rw [if_neg h]; exact HO.out i (by omega))
      go_wp2
      go_roundw
      case rel => exact ⟨k + 1, _, by omega, by go_num, HSET, HBS, HOK⟩
      case measure => simp [intOf]; omega
    · obtain rfl : k = m := by omega
      have HROW : Hid (TA wr (some ⟨w.heap.size, 0, none⟩) l) := Lib.hid (fun hn => ⟨w.heap.size, 0, rfl, HG.out.lt, fun i hi => by
        have := HG.out.cell (i := i) (by rw [HM.out]; exact hi)
        rw [Nat.zero_add, this, HO.out i (by rw [HM.out]; exact hi)]⟩)
      have HLT : Hid (w.heap.size < wr.heap.size) := Lib.hid HG.out.lt
      go_wp2
      go_ret
      exact ⟨by rw [← HM.out]; rfl, HROW.out, HB.out, HLT.out⟩
/-- A slice of api.Prop, names l, at address A (nil let in). -/
def NR (w : World) (A : Option Addr) (l : List ByteArray) : Prop :=
  0 < l.length → ∃ b off, A = some ⟨b, off, none⟩ ∧ b < w.heap.size ∧ ∀ i, i < l.length → w.cell? ⟨b, off + i * 2, none⟩ = some (.string (l.getD i default)) ∧ ∃ (a1 : Option Addr) (p1 q1 : Nat), w.cell? ⟨b, off + i * 2 + 1, none⟩ = some (.slice a1 p1 q1)
theorem NR.below {w w' : World} {A : Option Addr} {l : List ByteArray} (h : NR w A l) (hk : Below w.heap.size w w') : NR w' A l := fun hn => by
  obtain ⟨b, off, e, hb, hc⟩ := h hn
  refine ⟨b, off, e, Nat.lt_of_lt_of_le hb hk.size, fun i hi => ?_⟩
  obtain ⟨h0, a1, p1, q1, g1⟩ := hc i hi
  exact ⟨(hk.cell (p := ⟨b, off + i * 2, none⟩) hb).trans h0, a1, p1, q1, (hk.cell (p := ⟨b, off + i * 2 + 1, none⟩) hb).trans g1⟩
theorem NR.ns {w : World} {A : Option Addr} {l : List ByteArray} (h : NR w A l) : NS 2 w A l := fun hn => by
  obtain ⟨b, off, e, hb, hc⟩ := h hn
  exact ⟨b, off, e, hb, fun i hi => (hc i hi).1⟩
theorem nameR_any (x : ByteArray) (a1 : Option Addr) (p1 q1 : Nat) (w : World) : Calls Try.prog 34 #[.agg #[.string x, .slice a1 p1 q1]] w fun e w' => e = .returned (.string x) ∧ Below w.heap.size w w' := by
  go_enter Try.func34, Try.ntmps34
  go_wp2
  go_ret
  exact ⟨rfl, below_alloc1 _ _⟩
set_option maxRecDepth 20000 in
set_option maxHeartbeats 4000000 in
theorem namedR_any (l : List ByteArray) (A : Option Addr) (c m : Nat) (w : World) (hm : m = l.length) (hmm : m ≤ 1000) (hA : NR w A l) :
    Calls Try.prog 33 #[.slice A m c, .func (.func 34) #[] #[]] w (NewT w l) := by
  have HM := Lib.hid hm
  have HA := Lib.hid hA
  have hmk := run_make_row' (P := Try.prog) 47 9 (.string ⟨#[]⟩) 16 Try.underlying47 (show (Try.prog.info? 9).map (fun i => (i.zero, i.size, i.bytes)) = some (some (.string ⟨#[]⟩), 1, 16) by kernel_rfl) rfl .i64 .i64 m (by omega) (by omega) w
  clear hm hA
  go_enter Try.func33, Try.ntmps33
  go_wp2
  clear hmk
  go_loopw [13] (fun i wr => ∃ (k : Nat) (f : Nat → ByteArray), k ≤ m ∧ i = .int .i64 k ∧ Hid (wr.rowIs w.heap.size 9 m (fun i => .string (f i))) ∧ Hid (Below w.heap.size w wr) ∧ Hid (∀ i, i < k → f i = l.getD i default)) (fun i _ => m - (intOf i).toNat)
  case atStart => exact ⟨0, fun _ => ⟨#[]⟩, Nat.zero_le _, rfl, Lib.hid (World.rowIs_made w _ _ _), Lib.hid ((Below.refl _ _).alloc (Nat.le_refl _) _), Lib.hid (fun i hi => absurd hi (Nat.not_lt_zero _))⟩
  case round =>
    obtain ⟨k, f, hk, rfl, HG, HB, HO⟩ := hrel
    by_cases hlt : k < m
    · obtain ⟨b, o, rfl, hb, hc⟩ := HA.out.below HB.out (by rw [← HM.out]; omega)
      obtain ⟨g0, a1, p1, q1, g1⟩ := hc k (by rw [← HM.out]; exact hlt)
      obtain ⟨x, HX⟩ : ∃ x, Hid (l.getD k default = x) := ⟨_, Lib.hid rfl⟩
      rw [HX.out] at g0
      have hi0 : (0 : Int) ≤ (k : Int) := by omega
      have hi9 : (k : Int) < (m : Int) := by omega
      clear hc
      go_wp2_with fail
      refine (nameR_any x a1 p1 q1 _).mono ?_
      rintro e w2 ⟨rfl, hb2⟩
      have HB2 : Hid (Below wr.heap.size wr w2) := Lib.hid (bthen (below_alloc1 _ _) hb2)
      have HB3 : Hid (Below w.heap.size w w2) := Lib.hid (HB.out.trans (HB2.out.mono HB.out.size))
      have HG2 : Hid (w2.rowIs w.heap.size 9 m (fun i => .string (f i))) := Lib.hid (by
        obtain ⟨cc, h1, h2, h3⟩ := HG.out
        exact ⟨cc, (HB2.out.block _ (Array.getElem?_eq_some_iff.1 h1).1).trans h1, h2, h3⟩)
      clear hb2 g0 g1
      obtain ⟨u, c3⟩ : ∃ u, w2.cell? ⟨w.heap.size, k, none⟩ = some u := ⟨_, World.rowIs.cell HG2.out hlt⟩
      have c4 : w2.frozen? ⟨w.heap.size, k, none⟩ = false := World.rowIs.frozen HG2.out k
      have HSET : Hid ((w2.setCell ⟨w.heap.size, k, none⟩ (.string x)).rowIs w.heap.size 9 m (fun i => .string (if i = k then x else f i))) := Lib.hid ((HG2.out.set k _).congr (fun i hi => by by_cases h : i = k <;> simp [h]))
      have HBS : Hid (Below w.heap.size w (w2.setCell ⟨w.heap.size, k, none⟩ (.string x))) := Lib.hid (HB3.out.setCell (Nat.le_refl _) _)
      have HOK : Hid (∀ i, i < k + 1 → (if i = k then x else f i) = l.getD i default) := Lib.hid (fun i hi => by
        by_cases h : i = k
        · subst h; rw [if_pos rfl, HX.out]
        · rw [if_neg h]; exact HO.out i (by omega))
      go_wp2
      go_roundw
      case rel => exact ⟨k + 1, _, by omega, by go_num, HSET, HBS, HOK⟩
      case measure => simp [intOf]; omega
    · obtain rfl : k = m := by omega
      have HROW : Hid (TA wr (some ⟨w.heap.size, 0, none⟩) l) := Lib.hid (fun hn => ⟨w.heap.size, 0, rfl, HG.out.lt, fun i hi => by
        have := HG.out.cell (i := i) (by rw [HM.out]; exact hi)
        rw [Nat.zero_add, this, HO.out i (by rw [HM.out]; exact hi)]⟩)
      have HLT : Hid (w.heap.size < wr.heap.size) := Lib.hid HG.out.lt
      go_wp2
      go_ret
      exact ⟨by rw [← HM.out]; rfl, HROW.out, HB.out, HLT.out⟩
end Go.Proofs.YtodloljpfbkkjaaRRRR.nms
