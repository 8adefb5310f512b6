/- The program's each and back: rows told by a function value. -/
import Derived.Test.YtophajljjnjcdaaWdAt
import Derived.Shelf.Abstract
namespace Go.Proofs.Ytophajljjnjcdaa.wd
open Go.ChangeShapes Go.WideShapes Go.ChangeAt Go.RowKit Go.Deep sr lt nf

theorem range_get {n k : Nat} {g : Nat → Bool} (h : k < n) : ((List.range n).map g).getD k false = g k := by simp [List.getD, h]
theorem OwnB.row {w W w' : World} {b n : Nat} {L : List Bool} (hn : L.length = n) (hb : w.heap.size ≤ b) (hr : W.rowIs b 4 n (fstB L n)) (hB : Below w.heap.size w W) : OwnB w L (.returned (.slice (some ⟨b, 0, none⟩) n n)) W := by
  subst hn
  exact ⟨b, rfl, hb, fstB_full hr, hB⟩
theorem wd_mk (n : Nat) (hn : n ≤ 100000) (W : World) : (Instr.makeSlice 36 (.int .i64 (n : Int)) (.int .i64 (n : Int))).run Try.prog W = .ok (.slice (some ⟨W.heap.size, 0, none⟩) n n) (W.alloc (.cells (madeCells #[.bool false] n) 4)) := by
  obtain ⟨i0, hi, hz0, hz1, hz2⟩ := info_parts infoBo
  have hr := run_make (P := Try.prog) W 36 4 i0 _ (by kernel_rfl) hi hz0 .i64 .i64 (n : Int) (n : Int) (by omega) (Int.le_refl _) (by rw [hz2]; omega) (by omega)
  rw [hr, hz1, Int.toNat_natCast, Nat.mul_one]
  rfl
theorem fstB_zero (w : World) (n : Nat) (t : TypeId) (L : List Bool) : (w.alloc (.cells (madeCells #[.bool false] n) t)).rowIs w.heap.size t n (fstB L 0) :=
  (World.rowIs_made w (.bool false) n t).congr (fun j _ => by simp [fstB])
set_option maxRecDepth 20000 in
set_option maxHeartbeats 2000000 in
theorem each_any (gf : Nat) (lb : Array Value) (x : WX) (n : Nat) (g : Nat → Bool) (w : World) (h1 : x.n ≤ 1000) (h2 : x.m ≤ 1000) (hn : x.n + x.m = n)
    (eg : ∀ args w, (callFunc gf args).run Try.prog w = .ok (.enter gf args) w) (hP : ∀ k W, k < n → Below w.heap.size w W → Calls Try.prog gf (#[.int .i64 k] ++ lb) W (ValP W (.bool (g k)))) :
    Calls Try.prog 57 #[x.v, .func (.func gf) #[] lb] w (OwnB w ((List.range n).map g)) := by
  obtain ⟨L, HL⟩ : ∃ L, Hid ((List.range n).map g = L) := ⟨_, Lib.hid rfl⟩
  have HLN : Hid (L.length = n) := Lib.hid (by rw [← HL.out]; simp)
  have HG : Hid (∀ k, k < n → g k = L.getD k false) := Lib.hid (fun k hk => by rw [← HL.out, range_get hk])
  rw [HL.out]
  have HP := Lib.hid hP
  have HLA := Lib.hid (fun w => len_any x w h1 h2)
  rw [hn] at HLA
  have hmk := wd_mk n (by omega)
  obtain ⟨A, p, c, B, q, d⟩ := x
  unfold WX.v at HLA ⊢
  dsimp only at h1 h2 hn HLA ⊢
  have hn2 : n ≤ 2000 := by omega
  have HB1 : Hid (Below w.heap.size w (w.alloc (.cells #[.slice A p c, .slice B q d] 24))) := Lib.hid (below_one _ _)
  have HBX : Hid (∀ W, Below (w.heap.size + 1) (w.alloc (.cells #[.slice A p c, .slice B q d] 24)) W → W.cell? ⟨w.heap.size, 0, none⟩ = some (.slice A p c) ∧ W.cell? ⟨w.heap.size, 1, none⟩ = some (.slice B q d)) := Lib.hid (fun W h => by
    have e : (w.alloc (.cells #[.slice A p c, .slice B q d] 24)).heap.size = w.heap.size + 1 := by simp
    exact ⟨(h.cell (p := ⟨w.heap.size, 0, none⟩) (by show w.heap.size < _; omega)).trans (World.cell?_alloc_at _ _ _ _ (by simp)), (h.cell (p := ⟨w.heap.size, 1, none⟩) (by show w.heap.size < _; omega)).trans (World.cell?_alloc_at _ _ _ _ (by simp))⟩)
  clear hP HL hn
  go_enter Try.func57, Try.ntmps57
  go_wp2_with fail
  refine (HLA.out _).mono ?_
  rintro e2 w2 ⟨rfl, hb2⟩
  have HB2 : Hid (Below w.heap.size w w2) := Lib.hid (HB1.out.trans (hb2.mono HB1.out.size))
  have HC2 : Hid (Below (w.heap.size + 1) (w.alloc (.cells #[.slice A p c, .slice B q d] 24)) w2) := Lib.hid (by simpa using hb2)
  clear hb2
  obtain ⟨w3, HW3, HB3, HC3, HR3, HS3⟩ : ∃ w3, w2.alloc (.cells (madeCells #[.bool false] n) 4) = w3 ∧ Hid (Below w.heap.size w w3) ∧ Hid (Below (w.heap.size + 1) (w.alloc (.cells #[.slice A p c, .slice B q d] 24)) w3) ∧ Hid (w3.rowIs w2.heap.size 4 n (fstB L 0)) ∧ Hid (w.heap.size ≤ w2.heap.size) :=
    ⟨_, rfl, Lib.hid (HB2.out.alloc HB2.out.size _), Lib.hid (HC2.out.alloc (by have := HC2.out.size; simpa using this) _), Lib.hid (fstB_zero _ _ _ _), Lib.hid HB2.out.size⟩
  have hmk2 := hmk w2
  rw [HW3] at hmk2
  clear hmk HW3 HB2 HC2
  generalize w2.heap.size = b at *
  obtain ⟨x1, x2⟩ := HBX.out w3 HC3.out
  go_wp2_with fail
  refine (HLA.out _).mono ?_
  rintro e4 w4 ⟨rfl, hb4⟩
  have HR4 : Hid (w4.rowIs b 4 n (fstB L 0)) := Lib.hid (HR3.out.of_block (hb4.block _ HR3.out.lt))
  have HB4 : Hid (Below w.heap.size w w4) := Lib.hid (HB3.out.trans (hb4.mono HB3.out.size))
  clear hb4 x1 x2 hmk2 HLA HR3 HB3 HC3 HBX HB1
  go_wp2
  go_loopw [12] (fun iv wr => ∃ i : Nat, i ≤ n ∧ iv = .int .i64 i ∧ Hid (wr.rowIs b 4 n (fstB L i)) ∧ Hid (Below w.heap.size w wr)) (fun iv _ => n - (intOf iv).toNat)
  case atStart => exact ⟨0, Nat.zero_le _, rfl, HR4, HB4⟩
  case round =>
    obtain ⟨i, hi, rfl, HR, HB⟩ := hrel
    by_cases hlt : i < n
    · have HC := Lib.hid (HP.out i wr hlt HB.out)
      rw [HG.out i hlt] at HC
      obtain ⟨y, HY⟩ : ∃ y, Hid (L.getD i false = y) := ⟨_, Lib.hid rfl⟩
      rw [HY.out] at HC
      go_wp2_with fail
      refine HC.out.mono ?_
      rintro e5 w5 ⟨rfl, hb5⟩
      have HR5 : Hid (w5.rowIs b 4 n (fstB L i)) := Lib.hid (HR.out.of_block (hb5.block _ HR.out.lt))
      have HB5 : Hid (Below w.heap.size w w5) := Lib.hid (HB.out.trans (hb5.mono HB.out.size))
      have d1 := HR5.out.cell hlt
      have f1 := HR5.out.frozen i
      generalize fstB L i i = u at d1
      have HR6 := Lib.hid (fstB_step HR5.out HY.out.symm)
      have HB6 : Hid (Below w.heap.size w (w5.setCell ⟨b, i, none⟩ (.bool y))) := Lib.hid (HB5.out.setCell (show w.heap.size ≤ (⟨b, i, none⟩ : Addr).block from HS3.out) _)
      clear hb5
      go_wp2
      exact ⟨⟨i + 1, by omega, by go_num, HR6, HB6⟩, by simp [intOf]; omega⟩
    · obtain rfl : i = n := by omega
      go_wp2
      go_ret
      exact OwnB.row (w' := w) HLN.out HS3.out HR.out HB.out
end Go.Proofs.Ytophajljjnjcdaa.wd
