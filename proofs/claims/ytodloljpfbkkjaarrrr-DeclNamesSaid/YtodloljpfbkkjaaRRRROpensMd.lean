/- Arguments opened: a model. -/
import Derived.Test.YtodloljpfbkkjaaRRRRNamesLight
import Derived.Test.YtodloljpfbkkjaaRRRROpensSt
namespace Go.Proofs.YtodloljpfbkkjaaRRRR.nms
open Go.Joins Go.ChangeShapes Go.WideShapes Go.ChangeAt Go.RowKit Go.Deep
open Go.Proofs.YtodloljpfbkkjaaRRRR.dcl (Wt open_structs open_fields_w wt_arg string_cell int_cell slice_cell getD_range)

variable {H : Type} {enc : TypeId × Value → H} {W : World}
set_option maxRecDepth 100000 in
theorem open_na {n : Nat} {v : Value} {x : DataW H × List MemPlace} (h : DataW.trod enc Try.prog W 0 (fun _ => true) true n 23 [v] = some x) (hw : Wt Try.prog 23 x.1) : ∃ A c l, v = .slice A l.length c ∧ NA W A l := by
  obtain ⟨A, len, c, rfl, hb, hc, hm, hn, hg⟩ := open_structs Try.underlying23 Try.underlying41 (by kernel_rfl) (by kernel_rfl) (by decide) h hw
  by_cases h0 : 0 < len
  · obtain ⟨b, off, rfl, hlt, hf⟩ := hg h0
    obtain ⟨R, hR⟩ := choose_lt (α := ByteArray) (n := len) (p := fun i r => W.cell? ⟨b, off + i * 2, none⟩ = some (.string r) ∧ ∃ (a1 : Int), W.cell? ⟨b, off + i * 2 + 1, none⟩ = some (.int .i64 a1)) (fun i hi => by
      obtain ⟨u0, y0, m0, g0, t0, w0⟩ := hf i hi 0 _ rfl
      obtain ⟨u1, y1, m1, g1, t1, w1⟩ := hf i hi 1 _ rfl
      obtain ⟨s, rfl, _⟩ := string_cell Try.underlying9 t0 w0
      obtain ⟨z1, rfl, _⟩ := int_cell Try.underlying3 t1
      exact ⟨s, g0, z1, g1⟩)
    refine ⟨_, c, (List.range len).map R, by simp, fun _ => ⟨b, off, rfl, hlt, fun i hi => ?_⟩⟩
    simp only [List.length_map, List.length_range] at hi
    rw [getD_range R default hi]
    exact hR i hi
  · obtain rfl : len = 0 := by omega
    exact ⟨A, c, [], rfl, fun h => absurd h (by simp)⟩
set_option maxRecDepth 100000 in
theorem open_nv {n : Nat} {v : Value} {x : DataW H × List MemPlace} (h : DataW.trod enc Try.prog W 0 (fun _ => true) true n 24 [v] = some x) (hw : Wt Try.prog 24 x.1) : ∃ A c l, v = .slice A l.length c ∧ NV W A l := by
  obtain ⟨A, len, c, rfl, hb, hc, hm, hn, hg⟩ := open_structs Try.underlying24 Try.underlying53 (by kernel_rfl) (by kernel_rfl) (by decide) h hw
  by_cases h0 : 0 < len
  · obtain ⟨b, off, rfl, hlt, hf⟩ := hg h0
    obtain ⟨R, hR⟩ := choose_lt (α := ByteArray) (n := len) (p := fun i r => W.cell? ⟨b, off + i * 6, none⟩ = some (.string r) ∧ ∃ (a1 : Int) (a2 : Int) (a3 : Int) (a4 : Int) (a5 : Int), W.cell? ⟨b, off + i * 6 + 1, none⟩ = some (.int .i64 a1) ∧ W.cell? ⟨b, off + i * 6 + 2, none⟩ = some (.int .i64 a2) ∧ W.cell? ⟨b, off + i * 6 + 3, none⟩ = some (.int .i64 a3) ∧ W.cell? ⟨b, off + i * 6 + 4, none⟩ = some (.int .i64 a4) ∧ W.cell? ⟨b, off + i * 6 + 5, none⟩ = some (.int .i64 a5)) (fun i hi => by
      obtain ⟨u0, y0, m0, g0, t0, w0⟩ := hf i hi 0 _ rfl
      obtain ⟨u1, y1, m1, g1, t1, w1⟩ := hf i hi 1 _ rfl
      obtain ⟨u2, y2, m2, g2, t2, w2⟩ := hf i hi 2 _ rfl
      obtain ⟨u3, y3, m3, g3, t3, w3⟩ := hf i hi 3 _ rfl
      obtain ⟨u4, y4, m4, g4, t4, w4⟩ := hf i hi 4 _ rfl
      obtain ⟨u5, y5, m5, g5, t5, w5⟩ := hf i hi 5 _ rfl
      obtain ⟨s, rfl, _⟩ := string_cell Try.underlying9 t0 w0
      obtain ⟨z1, rfl, _⟩ := int_cell Try.underlying3 t1
      obtain ⟨z2, rfl, _⟩ := int_cell Try.underlying3 t2
      obtain ⟨z3, rfl, _⟩ := int_cell Try.underlying3 t3
      obtain ⟨z4, rfl, _⟩ := int_cell Try.underlying3 t4
      obtain ⟨z5, rfl, _⟩ := int_cell Try.underlying3 t5
      exact ⟨s, g0, z1, z2, z3, z4, z5, g1, g2, g3, g4, g5⟩)
    refine ⟨_, c, (List.range len).map R, by simp, fun _ => ⟨b, off, rfl, hlt, fun i hi => ?_⟩⟩
    simp only [List.length_map, List.length_range] at hi
    rw [getD_range R default hi]
    exact hR i hi
  · obtain rfl : len = 0 := by omega
    exact ⟨A, c, [], rfl, fun h => absurd h (by simp)⟩
set_option maxRecDepth 100000 in
theorem open_nc {n : Nat} {v : Value} {x : DataW H × List MemPlace} (h : DataW.trod enc Try.prog W 0 (fun _ => true) true n 25 [v] = some x) (hw : Wt Try.prog 25 x.1) : ∃ A c l, v = .slice A l.length c ∧ NC W A l := by
  obtain ⟨A, len, c, rfl, hb, hc, hm, hn, hg⟩ := open_structs Try.underlying25 Try.underlying55 (by kernel_rfl) (by kernel_rfl) (by decide) h hw
  by_cases h0 : 0 < len
  · obtain ⟨b, off, rfl, hlt, hf⟩ := hg h0
    obtain ⟨R, hR⟩ := choose_lt (α := ByteArray) (n := len) (p := fun i r => W.cell? ⟨b, off + i * 6, none⟩ = some (.string r) ∧ ∃ (a1 : Int) (a2 : Int) (a3 : Int) (a4 : Int) (a5 : Bool), W.cell? ⟨b, off + i * 6 + 1, none⟩ = some (.int .i64 a1) ∧ W.cell? ⟨b, off + i * 6 + 2, none⟩ = some (.int .i64 a2) ∧ W.cell? ⟨b, off + i * 6 + 3, none⟩ = some (.int .i64 a3) ∧ W.cell? ⟨b, off + i * 6 + 4, none⟩ = some (.int .i64 a4) ∧ W.cell? ⟨b, off + i * 6 + 5, none⟩ = some (.bool a5)) (fun i hi => by
      obtain ⟨u0, y0, m0, g0, t0, w0⟩ := hf i hi 0 _ rfl
      obtain ⟨u1, y1, m1, g1, t1, w1⟩ := hf i hi 1 _ rfl
      obtain ⟨u2, y2, m2, g2, t2, w2⟩ := hf i hi 2 _ rfl
      obtain ⟨u3, y3, m3, g3, t3, w3⟩ := hf i hi 3 _ rfl
      obtain ⟨u4, y4, m4, g4, t4, w4⟩ := hf i hi 4 _ rfl
      obtain ⟨u5, y5, m5, g5, t5, w5⟩ := hf i hi 5 _ rfl
      obtain ⟨s, rfl, _⟩ := string_cell Try.underlying9 t0 w0
      obtain ⟨z1, rfl, _⟩ := int_cell Try.underlying3 t1
      obtain ⟨z2, rfl, _⟩ := int_cell Try.underlying3 t2
      obtain ⟨z3, rfl, _⟩ := int_cell Try.underlying3 t3
      obtain ⟨z4, rfl, _⟩ := int_cell Try.underlying3 t4
      obtain ⟨z5, e5, _⟩ := DataW.trod_bool Try.underlying4 t5
      injection e5 with e5
      subst e5
      exact ⟨s, g0, z1, z2, z3, z4, z5, g1, g2, g3, g4, g5⟩)
    refine ⟨_, c, (List.range len).map R, by simp, fun _ => ⟨b, off, rfl, hlt, fun i hi => ?_⟩⟩
    simp only [List.length_map, List.length_range] at hi
    rw [getD_range R default hi]
    exact hR i hi
  · obtain rfl : len = 0 := by omega
    exact ⟨A, c, [], rfl, fun h => absurd h (by simp)⟩
set_option maxRecDepth 100000 in
theorem open_nm {n : Nat} {v : Value} {x : DataW H × List MemPlace} (h : DataW.trod enc Try.prog W 0 (fun _ => true) true n 62 [v] = some x) (hw : Wt Try.prog 62 x.1) : ∃ A c l, v = .slice A l.length c ∧ NM W A l := by
  obtain ⟨A, len, c, rfl, hb, hc, hm, hn, hg⟩ := open_structs Try.underlying62 Try.underlying82 (by kernel_rfl) (by kernel_rfl) (by decide) h hw
  by_cases h0 : 0 < len
  · obtain ⟨b, off, rfl, hlt, hf⟩ := hg h0
    obtain ⟨R, hR⟩ := choose_lt (α := ByteArray) (n := len) (p := fun i r => W.cell? ⟨b, off + i * 6, none⟩ = some (.string r) ∧ ∃ (a1 : Int) (a2 : Int) (a3 : Option Addr) (p3 q3 : Nat) (a4 : Option Addr) (p4 q4 : Nat) (a5 : Bool), W.cell? ⟨b, off + i * 6 + 1, none⟩ = some (.int .i64 a1) ∧ W.cell? ⟨b, off + i * 6 + 2, none⟩ = some (.int .i64 a2) ∧ W.cell? ⟨b, off + i * 6 + 3, none⟩ = some (.slice a3 p3 q3) ∧ W.cell? ⟨b, off + i * 6 + 4, none⟩ = some (.slice a4 p4 q4) ∧ W.cell? ⟨b, off + i * 6 + 5, none⟩ = some (.bool a5)) (fun i hi => by
      obtain ⟨u0, y0, m0, g0, t0, w0⟩ := hf i hi 0 _ rfl
      obtain ⟨u1, y1, m1, g1, t1, w1⟩ := hf i hi 1 _ rfl
      obtain ⟨u2, y2, m2, g2, t2, w2⟩ := hf i hi 2 _ rfl
      obtain ⟨u3, y3, m3, g3, t3, w3⟩ := hf i hi 3 _ rfl
      obtain ⟨u4, y4, m4, g4, t4, w4⟩ := hf i hi 4 _ rfl
      obtain ⟨u5, y5, m5, g5, t5, w5⟩ := hf i hi 5 _ rfl
      obtain ⟨s, rfl, _⟩ := string_cell Try.underlying9 t0 w0
      obtain ⟨z1, rfl, _⟩ := int_cell Try.underlying3 t1
      obtain ⟨z2, rfl, _⟩ := int_cell Try.underlying3 t2
      obtain ⟨A3, l3, c3, rfl⟩ := slice_cell Try.underlying22 t3
      obtain ⟨A4, l4, c4, rfl⟩ := slice_cell Try.underlying80 t4
      obtain ⟨z5, e5, _⟩ := DataW.trod_bool Try.underlying4 t5
      injection e5 with e5
      subst e5
      exact ⟨s, g0, z1, z2, A3, l3, c3, A4, l4, c4, z5, g1, g2, g3, g4, g5⟩)
    refine ⟨_, c, (List.range len).map R, by simp, fun _ => ⟨b, off, rfl, hlt, fun i hi => ?_⟩⟩
    simp only [List.length_map, List.length_range] at hi
    rw [getD_range R default hi]
    exact hR i hi
  · obtain rfl : len = 0 := by omega
    exact ⟨A, c, [], rfl, fun h => absurd h (by simp)⟩
set_option maxRecDepth 100000 in
theorem open_nr {n : Nat} {v : Value} {x : DataW H × List MemPlace} (h : DataW.trod enc Try.prog W 0 (fun _ => true) true n 43 [v] = some x) (hw : Wt Try.prog 43 x.1) : ∃ A c l, v = .slice A l.length c ∧ NR W A l := by
  obtain ⟨A, len, c, rfl, hb, hc, hm, hn, hg⟩ := open_structs Try.underlying43 Try.underlying87 (by kernel_rfl) (by kernel_rfl) (by decide) h hw
  by_cases h0 : 0 < len
  · obtain ⟨b, off, rfl, hlt, hf⟩ := hg h0
    obtain ⟨R, hR⟩ := choose_lt (α := ByteArray) (n := len) (p := fun i r => W.cell? ⟨b, off + i * 2, none⟩ = some (.string r) ∧ ∃ (a1 : Option Addr) (p1 q1 : Nat), W.cell? ⟨b, off + i * 2 + 1, none⟩ = some (.slice a1 p1 q1)) (fun i hi => by
      obtain ⟨u0, y0, m0, g0, t0, w0⟩ := hf i hi 0 _ rfl
      obtain ⟨u1, y1, m1, g1, t1, w1⟩ := hf i hi 1 _ rfl
      obtain ⟨s, rfl, _⟩ := string_cell Try.underlying9 t0 w0
      obtain ⟨A1, l1, c1, rfl⟩ := slice_cell Try.underlying22 t1
      exact ⟨s, g0, A1, l1, c1, g1⟩)
    refine ⟨_, c, (List.range len).map R, by simp, fun _ => ⟨b, off, rfl, hlt, fun i hi => ?_⟩⟩
    simp only [List.length_map, List.length_range] at hi
    rw [getD_range R default hi]
    exact hR i hi
  · obtain rfl : len = 0 := by omega
    exact ⟨A, c, [], rfl, fun h => absurd h (by simp)⟩
set_option maxRecDepth 100000 in
theorem open_np {n : Nat} {v : Value} {x : DataW H × List MemPlace} (h : DataW.trod enc Try.prog W 0 (fun _ => true) true n 26 [v] = some x) (hw : Wt Try.prog 26 x.1) : ∃ A c l, v = .slice A l.length c ∧ PSq W A l := by
  obtain ⟨A, len, c, rfl, hb, hc, hm, hn, hg⟩ := open_structs Try.underlying26 Try.underlying64 (by kernel_rfl) (by kernel_rfl) (by decide) h hw
  by_cases h0 : 0 < len
  · obtain ⟨b, off, rfl, hlt, hf⟩ := hg h0
    obtain ⟨R, hR⟩ := choose_lt (α := PN) (n := len) (p := fun i r => W.cell? ⟨b, off + i * 5, none⟩ = some (.string r.name) ∧ (∃ x y : Int, W.cell? ⟨b, off + i * 5 + 1, none⟩ = some (.int .i64 x) ∧ W.cell? ⟨b, off + i * 5 + 2, none⟩ = some (.int .i64 y)) ∧
      W.cell? ⟨b, off + i * 5 + 3, none⟩ = some (.slice r.A1 r.n1 r.c1) ∧ W.cell? ⟨b, off + i * 5 + 4, none⟩ = some (.slice r.A2 r.n2 r.c2) ∧ PLq W r) (fun i hi => by
      obtain ⟨u0, y0, m0, g0, t0, w0⟩ := hf i hi 0 _ rfl
      obtain ⟨u1, y1, m1, g1, t1, w1⟩ := hf i hi 1 _ rfl
      obtain ⟨u2, y2, m2, g2, t2, w2⟩ := hf i hi 2 _ rfl
      obtain ⟨u3, y3, m3, g3, t3, w3⟩ := hf i hi 3 _ rfl
      obtain ⟨u4, y4, m4, g4, t4, w4⟩ := hf i hi 4 _ rfl
      obtain ⟨s, rfl, _⟩ := string_cell Try.underlying9 t0 w0
      obtain ⟨z1, rfl, _⟩ := int_cell Try.underlying3 t1
      obtain ⟨z2, rfl, _⟩ := int_cell Try.underlying3 t2
      obtain ⟨A3, c3, l3, rfl, r3⟩ := open_nv t3 w3
      obtain ⟨A4, c4, l4, rfl, r4⟩ := open_nm t4 w4
      exact ⟨⟨s, A3, l3.length, c3, A4, l4.length, c4, l3, l4⟩, g0, ⟨z1, z2, g1, g2⟩, g3, g4, ⟨rfl, rfl, r3, r4⟩⟩)
    refine ⟨_, c, (List.range len).map R, by simp, fun _ => ⟨b, off, rfl, hlt, fun i hi => ?_⟩⟩
    simp only [List.length_map, List.length_range] at hi
    rw [getD_range R default hi]
    exact hR i hi
  · obtain rfl : len = 0 := by omega
    exact ⟨A, c, [], rfl, fun h => absurd h (by simp)⟩
set_option maxRecDepth 100000 in
/-- A model that came in: argument j. -/
theorem open_model_arg {base : Nat} {v : Value} {d : DataW H} {ps : List MemPlace} (hv : Value.okWide Try.prog W .any base 45 v) (h : DataW.Trod enc Try.prog W 0 (fun _ => true) true 45 v d ps)
    {ts : List TypeId} {ds : List (DataW H)} (hsz : (DataW.weightsEach Try.prog ts ds).all (· ≤ reachBytes) = true) (j : Nat) (htj : ts[j]? = some 45) (hdj : ds[j]? = some d) :
    ∃ (X : MdX) (M : Md), v = X.v ∧ MQ W X M := by
  obtain ⟨cs, n, rfl, hsz, hf⟩ := open_fields_w Try.underlying45 (by kernel_rfl) (by kernel_rfl) hv h (wt_arg hsz htj hdj)
  obtain ⟨u0, y0, g0, t0, w0⟩ := hf 0 _ rfl
  obtain ⟨u1, y1, g1, t1, w1⟩ := hf 1 _ rfl
  obtain ⟨u2, y2, g2, t2, w2⟩ := hf 2 _ rfl
  obtain ⟨u3, y3, g3, t3, w3⟩ := hf 3 _ rfl
  obtain ⟨u4, y4, g4, t4, w4⟩ := hf 4 _ rfl
  obtain ⟨A1, c1, z1, rfl, r1⟩ := open_na t0 w0
  obtain ⟨A2, c2, z2, rfl, r2⟩ := open_nv t1 w1
  obtain ⟨A3, c3, z3, rfl, r3⟩ := open_nc t2 w2
  obtain ⟨A4, c4, z4, rfl, r4⟩ := open_np t3 w3
  obtain ⟨A5, c5, z5, rfl, r5⟩ := open_nr t4 w4
  obtain ⟨l⟩ := cs
  match l, hsz with
  | [a, b, c, d, e], _ =>
    simp at g0 g1 g2 g3 g4
    subst g0 g1 g2 g3 g4
    exact ⟨⟨A1, A2, A3, A4, A5, z1.length, c1, z2.length, c2, z3.length, c3, z4.length, c4, z5.length, c5⟩, ⟨z1, z2, z3, z4, z5⟩, rfl, rfl, rfl, rfl, rfl, rfl, r1, r2, r3, r4, r5⟩
end Go.Proofs.YtodloljpfbkkjaaRRRR.nms
