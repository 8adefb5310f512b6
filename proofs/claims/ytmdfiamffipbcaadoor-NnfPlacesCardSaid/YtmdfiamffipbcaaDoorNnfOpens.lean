/- Arguments opened: a word (a struct of two slices of uint64s). -/
import Derived.Test.YtmdfiamffipbcaaDoorOpensSt
import Derived.Test.YtmdfiamffipbcaaDoorNnfPl
namespace Go.Proofs.YtmdfiamffipbcaaDoor.nf
open Go.Joins Go.ChangeShapes Go.WideShapes Go.ChangeAt Go.RowKit Go.Deep
open Go.Proofs.YtmdfiamffipbcaaDoor.dcl (Wt open_fields_w wt_arg wt_len lt_of_cell)

variable {H : Type} {enc : TypeId × Value → H} {W : World}
theorem cellsU : Tryd.prog.cellsOf 60 = 1 := by kernel_rfl
set_option maxRecDepth 100000 in
theorem open_us {n : Nat} {v : Value} {x : DataW H × List MemPlace} (h : DataW.trod enc Tryd.prog W 0 (fun _ => true) true n 30 [v] = some x) (hw : Wt Tryd.prog 30 x.1) :
    ∃ A c l, v = .slice A l.length c ∧ l.length ≤ 1000000000000000 ∧ UA W A l ∧ ∀ i, i < l.length → 0 ≤ l.getD i 0 ∧ l.getD i 0 < 18446744073709551616 := by
  rcases open_ints Tryd.underlying30 Tryd.underlying60 cellsU h with ⟨hcs, _⟩ | ⟨a, len, cap, zs, hcs, _, hl, hm, hz, hx, hcell, hwz⟩
  · injection hcs with hcs
    exact ⟨none, 0, [], hcs, by simp, fun h => absurd h (by simp), fun i hi => absurd hi (by simp)⟩
  · injection hcs with hcs
    subst hcs
    simp only [if_true] at hz
    have hlen : (zs.take len).length = len := by simp; omega
    have hget : ∀ i, i < len → (zs.take len).getD i 0 = zs.getD i 0 := fun i hi => by simp [List.getD, List.getElem?_take, hi]
    have hb := hw
    rw [hx] at hb
    have hb := wt_len Tryd.underlying30 hb
    rw [show Tryd.prog.bytesOf 60 = 8 by kernel_rfl, show (lits (H := H) .u64 (zs.take len)).length = len by simp [lits]; omega] at hb
    have hrb := reachBytes_lt
    refine ⟨some a, cap, zs.take len, by rw [hlen], by rw [hlen]; omega, fun h0 => ?_, fun i hi => ?_⟩
    · rw [hlen] at h0
      obtain ⟨b, off, spot⟩ := a
      have g0 := hcell 0 (by omega)
      have hspot : spot = none := by simpa [Addr.add] using World.cell?_spot g0
      subst hspot
      rw [add_plain] at g0
      refine ⟨b, off, rfl, lt_of_cell g0, fun i hi => ?_⟩
      rw [hlen] at hi
      rw [hget i hi, ← add_plain]
      exact hcell i (by omega)
    · rw [hlen] at hi
      rw [hget i hi]
      have hmem : zs.getD i 0 ∈ zs := by
        have : i < zs.length := by omega
        simp [List.getD, this]
      have wx := hwz _ hmem
      simp only [Lit.wf, Bool.and_eq_true, decide_eq_true_eq] at wx
      have e1 : IntKind.u64.min = 0 := rfl
      have e2 : IntKind.u64.max = 18446744073709551615 := rfl
      omega
set_option maxRecDepth 100000 in
/-- A word by value. -/
theorem open_word_arg {base : Nat} {v : Value} {d : DataW H} {ps : List MemPlace} (hv : Value.okWide Tryd.prog W .any base 32 v) (h : DataW.Trod enc Tryd.prog W 0 (fun _ => true) true 32 v d ps)
    {ts : List TypeId} {ds : List (DataW H)} (hsz : (DataW.weightsEach Tryd.prog ts ds).all (· ≤ reachBytes) = true) (j : Nat) (htj : ts[j]? = some 32) (hdj : ds[j]? = some d) :
    ∃ As cs stem Al cl lp, v = .agg #[.slice As stem.length cs, .slice Al lp.length cl] ∧ stem.length ≤ 1000000000000000 ∧ lp.length ≤ 1000000000000000 ∧ UA W As stem ∧ UA W Al lp ∧ ∀ i, i < stem.length + lp.length → 0 ≤ (stem ++ lp).getD i 0 ∧ (stem ++ lp).getD i 0 < 18446744073709551616 := by
  obtain ⟨cs, n, rfl, hsz, hf⟩ := open_fields_w Tryd.underlying32 (by kernel_rfl) (by kernel_rfl) hv h (wt_arg hsz htj hdj)
  obtain ⟨u0, y0, g0, t0, w0⟩ := hf 0 _ rfl
  obtain ⟨u1, y1, g1, t1, w1⟩ := hf 1 _ rfl
  obtain ⟨A3, c3, l3, rfl, m3, p3, q3⟩ := open_us t0 w0
  obtain ⟨A4, c4, l4, rfl, m4, p4, q4⟩ := open_us t1 w1
  obtain ⟨l⟩ := cs
  match l, hsz with
  | [a, b], _ =>
    simp at g0 g1
    subst g0 g1
    refine ⟨A3, c3, l3, A4, c4, l4, rfl, m3, m4, p3, p4, fun i hi => ?_⟩
    by_cases h : i < l3.length
    · rw [show (l3 ++ l4).getD i 0 = l3.getD i 0 by simp [List.getD, List.getElem?_append_left h]]
      exact q3 i h
    · rw [show (l3 ++ l4).getD i 0 = l4.getD (i - l3.length) 0 by simp [List.getD, List.getElem?_append_right (Nat.le_of_not_lt h)]]
      exact q4 _ (by omega)
end Go.Proofs.YtmdfiamffipbcaaDoor.nf
