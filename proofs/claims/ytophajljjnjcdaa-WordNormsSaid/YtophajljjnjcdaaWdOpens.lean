/- Arguments opened: a word (a struct of two slices of uint64s). -/
import Derived.Test.YtophajljjnjcdaaOpensSt
import Derived.Test.YtophajljjnjcdaaWdAt
namespace Go.Proofs.Ytophajljjnjcdaa.wd
open Go.Joins Go.ChangeShapes Go.WideShapes Go.ChangeAt Go.RowKit Go.Deep
open Go.Proofs.Ytophajljjnjcdaa.dcl (Wt open_fields_w wt_arg wt_len lt_of_cell)

variable {H : Type} {enc : TypeId × Value → H} {W : World}
theorem cellsU : Try.prog.cellsOf 30 = 1 := by kernel_rfl
set_option maxRecDepth 100000 in
theorem open_us {n : Nat} {v : Value} {x : DataW H × List MemPlace} (h : DataW.trod enc Try.prog W 0 (fun _ => true) true n 22 [v] = some x) (hw : Wt Try.prog 22 x.1) :
    ∃ A c l, v = .slice A l.length c ∧ l.length ≤ 1000000000000000 ∧ l.length ≤ c ∧ c ≤ maxLen ∧ UA W A l ∧ ∀ i, i < l.length → 0 ≤ l.getD i 0 ∧ l.getD i 0 < 18446744073709551616 := by
  rcases open_ints Try.underlying22 Try.underlying30 cellsU h with ⟨hcs, _⟩ | ⟨a, len, cap, zs, hcs, _, hl, hm, hz, hx, hcell, hwz⟩
  · injection hcs with hcs
    exact ⟨none, 0, [], hcs, by simp, Nat.le_refl _, Nat.zero_le _, fun h => absurd h (by simp), fun i hi => absurd hi (by simp)⟩
  · injection hcs with hcs
    subst hcs
    simp only [if_true] at hz
    have hlen : (zs.take len).length = len := by simp; omega
    have hget : ∀ i, i < len → (zs.take len).getD i 0 = zs.getD i 0 := fun i hi => by simp [List.getD, List.getElem?_take, hi]
    have hb := hw
    rw [hx] at hb
    have hb := wt_len Try.underlying22 hb
    rw [show Try.prog.bytesOf 30 = 8 by kernel_rfl, show (lits (H := H) .u64 (zs.take len)).length = len by simp [lits]; omega] at hb
    have hrb := reachBytes_lt
    refine ⟨some a, cap, zs.take len, by rw [hlen], by rw [hlen]; omega, by rw [hlen]; exact hl, hm, fun h0 => ?_, fun i hi => ?_⟩
    · rw [hlen] at h0
      obtain ⟨b, off, spot⟩ := a
      have g0 := hcell 0 (by omega)
      have hspot : spot = none := by simpa [Addr.add] using World.cell?_spot g0
      subst hspot
      rw [add_plain] at g0
      refine ⟨b, off, rfl, lt_of_cell g0, fun i hi => ?_⟩
      rw [hlen] at hi
      rw [hget i hi, ← add_plain]
      exact hcell i (by omega)
    · rw [hlen] at hi
      rw [hget i hi]
      have hmem : zs.getD i 0 ∈ zs := by
        have : i < zs.length := by omega
        simp [List.getD, this]
      have wx := hwz _ hmem
      simp only [Lit.wf, Bool.and_eq_true, decide_eq_true_eq] at wx
      have e1 : IntKind.u64.min = 0 := rfl
      have e2 : IntKind.u64.max = 18446744073709551615 := rfl
      omega
theorem fits64 {x : Int} (w : (Lit.int .i64 x).wf = true) : -9223372036854775808 ≤ x ∧ x ≤ 9223372036854775807 := by
  have e : IntKind.i64.min = -9223372036854775808 := rfl
  simpa [Lit.wf, e] using w
theorem fitsU8 {x : Int} (w : (Lit.int .u8 x).wf = true) : 0 ≤ x ∧ x ≤ 255 := by
  have e1 : IntKind.u8.min = 0 := rfl
  have e2 : IntKind.u8.max = 255 := rfl
  simpa [Lit.wf, e1, e2] using w
/-- A word, as it was handed in. -/
structure WdA (w : World) (x : WX) (st lp : List Int) : Prop where
  n1 : x.n = st.length
  n2 : x.m = lp.length
  r1 : UA w x.A st
  r2 : UA w x.B lp
  c1 : x.n ≤ x.c
  c2 : x.m ≤ x.d
  k1 : x.c ≤ 9223372036854775807
  k2 : x.d ≤ 9223372036854775807
  b1 : x.n ≤ 1000000000000000
  b2 : x.m ≤ 1000000000000000
  u1 : ∀ i, i < st.length → 0 ≤ st.getD i 0 ∧ st.getD i 0 < 18446744073709551616
  u2 : ∀ i, i < lp.length → 0 ≤ lp.getD i 0 ∧ lp.getD i 0 < 18446744073709551616
theorem WdA.small {w : World} {x : WX} {st lp : List Int} (h : WdA w x st lp) (h1 : x.n ≤ 1000) (h2 : x.m ≤ 1000) : WdR w x st lp :=
  ⟨h.n1, h.n2, h.r1, h.r2, h.c1, h.c2, h.k1, h.k2, h1, h2, h.u1, h.u2⟩
set_option maxRecDepth 100000 in
/-- A word by value. -/
theorem open_word_arg {base : Nat} {v : Value} {d : DataW H} {ps : List MemPlace} (hv : Value.okWide Try.prog W .any base 24 v) (h : DataW.Trod enc Try.prog W 0 (fun _ => true) true 24 v d ps)
    {ts : List TypeId} {ds : List (DataW H)} (hsz : (DataW.weightsEach Try.prog ts ds).all (· ≤ reachBytes) = true) (j : Nat) (htj : ts[j]? = some 24) (hdj : ds[j]? = some d) :
    ∃ (x : WX) (st lp : List Int), v = x.v ∧ WdA W x st lp := by
  obtain ⟨cs, n, rfl, hsz, hf⟩ := open_fields_w Try.underlying24 (by kernel_rfl) (by kernel_rfl) hv h (wt_arg hsz htj hdj)
  obtain ⟨u0, y0, g0, t0, w0⟩ := hf 0 _ rfl
  obtain ⟨u1, y1, g1, t1, w1⟩ := hf 1 _ rfl
  obtain ⟨A3, c3, l3, rfl, m3, x3, z3, p3, q3⟩ := open_us t0 w0
  obtain ⟨A4, c4, l4, rfl, m4, x4, z4, p4, q4⟩ := open_us t1 w1
  obtain ⟨l⟩ := cs
  match l, hsz with
  | [a, b], _ =>
    simp at g0 g1
    subst g0 g1
    unfold maxLen at z3 z4
    exact ⟨⟨A3, l3.length, c3, A4, l4.length, c4⟩, l3, l4, rfl, rfl, rfl, p3, p4, x3, x4, z3, z4, m3, m4, q3, q4⟩
end Go.Proofs.Ytophajljjnjcdaa.wd
