/- Arguments opened: a scope. -/
import Derived.Test.YtodloljpfbkkjaaRRRROpensSc
import Derived.Test.YtodloljpfbkkjaaRRRRExprPut
namespace Go.Proofs.YtodloljpfbkkjaaRRRR
open Go.Joins Go.ChangeShapes Go.WideShapes Go.ChangeAt Go.RowKit Go.Deep

variable {H : Type} {enc : TypeId × Value → H} {W : World}
theorem getD_range {α : Type} [Inhabited α] (R : Nat → α) {len i : Nat} (d : α) (h : i < len) : ((List.range len).map R).getD i d = R i := by simp [List.getD, h]
set_option maxRecDepth 100000 in
theorem open_sa {n : Nat} {v : Value} {x : DataW H × List MemPlace} (h : DataW.trod enc Try.prog W 0 (fun _ => true) true n 23 [v] = some x) (hw : Wt Try.prog 23 x.1) : ∃ A c l, v = .slice A l.length c ∧ l.length ≤ 1000000000000000 ∧ SA W A l := by
  obtain ⟨A, len, c, rfl, hb, hc, hm, hn, hg⟩ := open_structs Try.underlying23 Try.underlying41 (by kernel_rfl) (by kernel_rfl) (by decide) h hw
  rw [show Try.prog.bytesOf 41 = 24 by kernel_rfl] at hb
  have hrb := reachBytes_lt
  by_cases h0 : 0 < len
  · obtain ⟨b, off, rfl, hlt, hf⟩ := hg h0
    obtain ⟨R, hR⟩ := choose_lt (α := Int) (n := len) (p := fun i r => ∃ s : ByteArray, W.cell? ⟨b, off + i * 2, none⟩ = some (.string s) ∧ W.cell? ⟨b, off + i * 2 + 1, none⟩ = some (.int .i64 r)) (fun i hi => by
      obtain ⟨u0, y0, m0, g0, t0, w0⟩ := hf i hi 0 _ rfl
      obtain ⟨u1, y1, m1, g1, t1, w1⟩ := hf i hi 1 _ rfl
      obtain ⟨s, rfl, _⟩ := string_cell Try.underlying9 t0 w0
      obtain ⟨z, rfl, _⟩ := int_cell Try.underlying3 t1
      exact ⟨z, s, g0, g1⟩)
    refine ⟨_, c, (List.range len).map R, by simp, by simp; omega, fun _ => ⟨b, off, rfl, hlt, fun i hi => ?_⟩⟩
    simp only [List.length_map, List.length_range] at hi
    rw [getD_range R 0 hi]
    exact hR i hi
  · obtain rfl : len = 0 := by omega
    exact ⟨A, c, [], rfl, by simp, fun h => absurd h (by simp)⟩
set_option maxRecDepth 100000 in
theorem open_va {n : Nat} {v : Value} {x : DataW H × List MemPlace} (h : DataW.trod enc Try.prog W 0 (fun _ => true) true n 24 [v] = some x) (hw : Wt Try.prog 24 x.1) : ∃ A c l, v = .slice A l.length c ∧ l.length ≤ 1000000000000000 ∧ VA W A l := by
  obtain ⟨A, len, c, rfl, hb, hc, hm, hn, hg⟩ := open_structs Try.underlying24 Try.underlying53 (by kernel_rfl) (by kernel_rfl) (by decide) h hw
  rw [show Try.prog.bytesOf 53 = 56 by kernel_rfl] at hb
  have hrb := reachBytes_lt
  by_cases h0 : 0 < len
  · obtain ⟨b, off, rfl, hlt, hf⟩ := hg h0
    obtain ⟨R, hR⟩ := choose_lt (α := Int × Int) (n := len) (p := fun i r => ∃ (s : ByteArray) (p q t : Int), W.cell? ⟨b, off + i * 6, none⟩ = some (.string s) ∧ W.cell? ⟨b, off + i * 6 + 1, none⟩ = some (.int .i64 r.1) ∧ W.cell? ⟨b, off + i * 6 + 2, none⟩ = some (.int .i64 r.2) ∧ W.cell? ⟨b, off + i * 6 + 3, none⟩ = some (.int .i64 p) ∧ W.cell? ⟨b, off + i * 6 + 4, none⟩ = some (.int .i64 q) ∧ W.cell? ⟨b, off + i * 6 + 5, none⟩ = some (.int .i64 t)) (fun i hi => by
      obtain ⟨u0, y0, m0, g0, t0, w0⟩ := hf i hi 0 _ rfl
      obtain ⟨u1, y1, m1, g1, t1, w1⟩ := hf i hi 1 _ rfl
      obtain ⟨u2, y2, m2, g2, t2, w2⟩ := hf i hi 2 _ rfl
      obtain ⟨u3, y3, m3, g3, t3, w3⟩ := hf i hi 3 _ rfl
      obtain ⟨u4, y4, m4, g4, t4, w4⟩ := hf i hi 4 _ rfl
      obtain ⟨u5, y5, m5, g5, t5, w5⟩ := hf i hi 5 _ rfl
      obtain ⟨s, rfl, _⟩ := string_cell Try.underlying9 t0 w0
      obtain ⟨z1, rfl, _⟩ := int_cell Try.underlying3 t1
      obtain ⟨z2, rfl, _⟩ := int_cell Try.underlying3 t2
      obtain ⟨z3, rfl, _⟩ := int_cell Try.underlying3 t3
      obtain ⟨z4, rfl, _⟩ := int_cell Try.underlying3 t4
      obtain ⟨z5, rfl, _⟩ := int_cell Try.underlying3 t5
      exact ⟨(z1, z2), s, z3, z4, z5, g0, g1, g2, g3, g4, g5⟩)
    refine ⟨_, c, (List.range len).map R, by simp, by simp; omega, fun _ => ⟨b, off, rfl, hlt, fun i hi => ?_⟩⟩
    simp only [List.length_map, List.length_range] at hi
    rw [getD_range R (0, 0) hi]
    exact hR i hi
  · obtain rfl : len = 0 := by omega
    exact ⟨A, c, [], rfl, by simp, fun h => absurd h (by simp)⟩
set_option maxRecDepth 100000 in
theorem open_ca {n : Nat} {v : Value} {x : DataW H × List MemPlace} (h : DataW.trod enc Try.prog W 0 (fun _ => true) true n 25 [v] = some x) (hw : Wt Try.prog 25 x.1) : ∃ A c l, v = .slice A l.length c ∧ l.length ≤ 1000000000000000 ∧ CA W A l := by
  obtain ⟨A, len, c, rfl, hb, hc, hm, hn, hg⟩ := open_structs Try.underlying25 Try.underlying55 (by kernel_rfl) (by kernel_rfl) (by decide) h hw
  rw [show Try.prog.bytesOf 55 = 56 by kernel_rfl] at hb
  have hrb := reachBytes_lt
  by_cases h0 : 0 < len
  · obtain ⟨b, off, rfl, hlt, hf⟩ := hg h0
    obtain ⟨R, hR⟩ := choose_lt (α := Int) (n := len) (p := fun i r => ∃ (s : ByteArray) (p q t : Int) (z : Bool), W.cell? ⟨b, off + i * 6, none⟩ = some (.string s) ∧ W.cell? ⟨b, off + i * 6 + 1, none⟩ = some (.int .i64 r) ∧ W.cell? ⟨b, off + i * 6 + 2, none⟩ = some (.int .i64 p) ∧ W.cell? ⟨b, off + i * 6 + 3, none⟩ = some (.int .i64 q) ∧ W.cell? ⟨b, off + i * 6 + 4, none⟩ = some (.int .i64 t) ∧ W.cell? ⟨b, off + i * 6 + 5, none⟩ = some (.bool z)) (fun i hi => by
      obtain ⟨u0, y0, m0, g0, t0, w0⟩ := hf i hi 0 _ rfl
      obtain ⟨u1, y1, m1, g1, t1, w1⟩ := hf i hi 1 _ rfl
      obtain ⟨u2, y2, m2, g2, t2, w2⟩ := hf i hi 2 _ rfl
      obtain ⟨u3, y3, m3, g3, t3, w3⟩ := hf i hi 3 _ rfl
      obtain ⟨u4, y4, m4, g4, t4, w4⟩ := hf i hi 4 _ rfl
      obtain ⟨u5, y5, m5, g5, t5, w5⟩ := hf i hi 5 _ rfl
      obtain ⟨s, rfl, _⟩ := string_cell Try.underlying9 t0 w0
      obtain ⟨z1, rfl, _⟩ := int_cell Try.underlying3 t1
      obtain ⟨z2, rfl, _⟩ := int_cell Try.underlying3 t2
      obtain ⟨z3, rfl, _⟩ := int_cell Try.underlying3 t3
      obtain ⟨z4, rfl, _⟩ := int_cell Try.underlying3 t4
      obtain ⟨z5, e5, _⟩ := DataW.trod_bool Try.underlying4 t5
      injection e5 with e5
      subst e5
      exact ⟨z1, s, z2, z3, z4, z5, g0, g1, g2, g3, g4, g5⟩)
    refine ⟨_, c, (List.range len).map R, by simp, by simp; omega, fun _ => ⟨b, off, rfl, hlt, fun i hi => ?_⟩⟩
    simp only [List.length_map, List.length_range] at hi
    rw [getD_range R 0 hi]
    exact hR i hi
  · obtain rfl : len = 0 := by omega
    exact ⟨A, c, [], rfl, by simp, fun h => absurd h (by simp)⟩
set_option maxRecDepth 100000 in
theorem open_qa {n : Nat} {v : Value} {x : DataW H × List MemPlace} (h : DataW.trod enc Try.prog W 0 (fun _ => true) true n 26 [v] = some x) (hw : Wt Try.prog 26 x.1) : ∃ A c l, v = .slice A l.length c ∧ l.length ≤ 1000000000000000 ∧ QA W A l := by
  obtain ⟨A, len, c, rfl, hb, hc, hm, hn, hg⟩ := open_structs Try.underlying26 Try.underlying64 (by kernel_rfl) (by kernel_rfl) (by decide) h hw
  rw [show Try.prog.bytesOf 64 = 80 by kernel_rfl] at hb
  have hrb := reachBytes_lt
  by_cases h0 : 0 < len
  · obtain ⟨b, off, rfl, hlt, hf⟩ := hg h0
    obtain ⟨R, hR⟩ := choose_lt (α := Int) (n := len) (p := fun i r => ∃ (s : ByteArray) (p : Int) (A1 A2 : Option Addr) (m1 d1 m2 d2 : Nat), W.cell? ⟨b, off + i * 5, none⟩ = some (.string s) ∧ W.cell? ⟨b, off + i * 5 + 1, none⟩ = some (.int .i64 p) ∧ W.cell? ⟨b, off + i * 5 + 2, none⟩ = some (.int .i64 r) ∧ W.cell? ⟨b, off + i * 5 + 3, none⟩ = some (.slice A1 m1 d1) ∧ W.cell? ⟨b, off + i * 5 + 4, none⟩ = some (.slice A2 m2 d2)) (fun i hi => by
      obtain ⟨u0, y0, m0, g0, t0, w0⟩ := hf i hi 0 _ rfl
      obtain ⟨u1, y1, m1, g1, t1, w1⟩ := hf i hi 1 _ rfl
      obtain ⟨u2, y2, m2, g2, t2, w2⟩ := hf i hi 2 _ rfl
      obtain ⟨u3, y3, m3, g3, t3, w3⟩ := hf i hi 3 _ rfl
      obtain ⟨u4, y4, m4, g4, t4, w4⟩ := hf i hi 4 _ rfl
      obtain ⟨s, rfl, _⟩ := string_cell Try.underlying9 t0 w0
      obtain ⟨z1, rfl, _⟩ := int_cell Try.underlying3 t1
      obtain ⟨z2, rfl, _⟩ := int_cell Try.underlying3 t2
      obtain ⟨A1, l1, c1, rfl⟩ := slice_cell Try.underlying24 t3
      obtain ⟨A2, l2, c2, rfl⟩ := slice_cell Try.underlying62 t4
      exact ⟨z2, s, z1, A1, A2, l1, c1, l2, c2, g0, g1, g2, g3, g4⟩)
    refine ⟨_, c, (List.range len).map R, by simp, by simp; omega, fun _ => ⟨b, off, rfl, hlt, fun i hi => ?_⟩⟩
    simp only [List.length_map, List.length_range] at hi
    rw [getD_range R 0 hi]
    exact hR i hi
  · obtain rfl : len = 0 := by omega
    exact ⟨A, c, [], rfl, by simp, fun h => absurd h (by simp)⟩

set_option maxRecDepth 100000 in
/-- A scope that came in: argument j. -/
theorem open_scope_arg {base : Nat} {v : Value} {d : DataW H} {ps : List MemPlace} (hv : Value.okWide Try.prog W .any base 28 v) (h : DataW.Trod enc Try.prog W 0 (fun _ => true) true 28 v d ps)
    {ts : List TypeId} {ds : List (DataW H)} (hsz : (DataW.weightsEach Try.prog ts ds).all (· ≤ reachBytes) = true) (j : Nat) (htj : ts[j]? = some 28) (hdj : ds[j]? = some d) :
    ∃ (X : ScX) (S : Sc), v = X.v ∧ SR W X S := by
  obtain ⟨cs, n, rfl, hsz, hf⟩ := open_fields_w Try.underlying28 (by kernel_rfl) (by kernel_rfl) hv h (wt_arg hsz htj hdj)
  obtain ⟨u0, y0, g0, t0, w0⟩ := hf 0 _ rfl
  obtain ⟨u1, y1, g1, t1, w1⟩ := hf 1 _ rfl
  obtain ⟨u2, y2, g2, t2, w2⟩ := hf 2 _ rfl
  obtain ⟨u3, y3, g3, t3, w3⟩ := hf 3 _ rfl
  obtain ⟨u4, y4, g4, t4, w4⟩ := hf 4 _ rfl
  obtain ⟨u5, y5, g5, t5, w5⟩ := hf 5 _ rfl
  obtain ⟨A1, c1, z1, rfl, b1, r1⟩ := open_sa t0 w0
  obtain ⟨A2, c2, z2, rfl, b2, r2⟩ := open_va t1 w1
  obtain ⟨A3, c3, z3, rfl, b3, r3⟩ := open_ca t2 w2
  obtain ⟨A4, c4, z4, rfl, b4, r4⟩ := open_qa t3 w3
  obtain ⟨A5, c5, z5, rfl, b5, r5⟩ := open_va t4 w4
  obtain ⟨z6, rfl, _⟩ := int_cell Try.underlying3 t5
  obtain ⟨l⟩ := cs
  match l, hsz with
  | [a, b, c, d, e, f], _ =>
    simp at g0 g1 g2 g3 g4 g5
    subst g0 g1 g2 g3 g4 g5
    exact ⟨⟨A1, A2, A3, A4, A5, z1.length, c1, z2.length, c2, z3.length, c3, z4.length, c4, z5.length, c5, z6⟩, ⟨z1, z2, z3, z4, z5, z6⟩, rfl, rfl, rfl, rfl, rfl, rfl, rfl, b1, r1, r2, r3, r4, r5⟩
end Go.Proofs.YtodloljpfbkkjaaRRRR
