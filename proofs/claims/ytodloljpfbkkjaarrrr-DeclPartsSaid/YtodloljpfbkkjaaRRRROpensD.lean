/- Arguments opened: scalars, variables, channels. -/
import Derived.Test.YtodloljpfbkkjaaRRRROpensSt
import Derived.Test.YtodloljpfbkkjaaRRRRDeclaredS
import Derived.Test.YtodloljpfbkkjaaRRRRDeclaredV
import Derived.Test.YtodloljpfbkkjaaRRRRDeclaredC
namespace Go.Proofs.YtodloljpfbkkjaaRRRR.dcl
open Go.Joins Go.ChangeShapes Go.WideShapes Go.ChangeAt Go.RowKit Go.Deep

variable {H : Type} {enc : TypeId × Value → H} {W : World}
theorem reach_max : reachBytes ≤ maxLen := by decide
set_option maxRecDepth 100000 in
theorem open_sa {n : Nat} {v : Value} {x : DataW H × List MemPlace} (h : DataW.trod enc Try.prog W 0 (fun _ => true) true n 23 [v] = some x) (hw : Wt Try.prog 23 x.1) : ∃ A c l, v = .slice A l.length c ∧ l.length ≤ 1000000000000000 ∧ DS W A l ∧ (∀ z ∈ l, z.name.size ≤ maxLen) ∧ l.length ≤ c ∧ c ≤ maxLen ∧ (A = none → c = 0) := by
  obtain ⟨A, len, c, rfl, hb, hc, hm, hn, hg⟩ := open_structs Try.underlying23 Try.underlying41 (by kernel_rfl) (by kernel_rfl) (by decide) h hw
  rw [show Try.prog.bytesOf 41 = 24 by kernel_rfl] at hb
  have hrb := reachBytes_lt
  by_cases h0 : 0 < len
  · obtain ⟨b, off, rfl, hlt, hf⟩ := hg h0
    obtain ⟨R, hR⟩ := choose_lt (α := ScR) (n := len) (p := fun i r => (W.cell? ⟨b, off + i * 2, none⟩ = some (.string r.name) ∧ W.cell? ⟨b, off + i * 2 + 1, none⟩ = some (.int .i64 r.size)) ∧ r.name.size ≤ maxLen) (fun i hi => by
      obtain ⟨u0, y0, m0, g0, t0, w0⟩ := hf i hi 0 _ rfl
      obtain ⟨u1, y1, m1, g1, t1, w1⟩ := hf i hi 1 _ rfl
      obtain ⟨z0, rfl, b0⟩ := string_cell Try.underlying9 t0 w0
      obtain ⟨z1, rfl, _⟩ := int_cell Try.underlying3 t1
      exact ⟨⟨z0, z1⟩, ⟨g0, g1⟩, Nat.le_trans b0 reach_max⟩)
    refine ⟨_, c, (List.range len).map R, by simp, by simp; omega, fun _ => ⟨b, off, rfl, hlt, fun i hi => ?_⟩, fun z hz => ?_, by simpa using hc, hm, hn⟩
    · simp only [List.length_map, List.length_range] at hi
      rw [getD_range R default hi]
      exact (hR i hi).1
    · obtain ⟨i, hi, rfl⟩ := List.mem_map.1 hz
      exact (hR i (List.mem_range.1 hi)).2
  · obtain rfl : len = 0 := by omega
    exact ⟨A, c, [], rfl, by simp, fun h => absurd h (by simp), fun z hz => by simp at hz, by simp, hm, hn⟩
set_option maxRecDepth 100000 in
theorem open_s_arg {base : Nat} {v : Value} {d : DataW H} {ps : List MemPlace} (hv : Value.okWide Try.prog W .any base 23 v) (h : DataW.Trod enc Try.prog W 0 (fun _ => true) true 23 v d ps)
    {ts : List TypeId} {ds : List (DataW H)} (hsz : (DataW.weightsEach Try.prog ts ds).all (· ≤ reachBytes) = true) (j : Nat) (htj : ts[j]? = some 23) (hdj : ds[j]? = some d) :
    ∃ A c l, v = .slice A l.length c ∧ l.length ≤ 1000000000000000 ∧ DS W A l ∧ (∀ z ∈ l, z.name.size ≤ maxLen) ∧ l.length ≤ c ∧ c ≤ maxLen ∧ (A = none → c = 0) := by
  obtain ⟨a0, len, cap, rfl⟩ := okWide_slice Try.underlying23 hv
  obtain ⟨fuel, hf⟩ := h
  have hf' : DataW.trod enc Try.prog W 0 (fun _ => true) true fuel 23 [.slice a0 len cap] = some (d, ps) := by simpa [Value.cells] using hf
  exact open_sa hf' (wt_arg hsz htj hdj)
set_option maxRecDepth 100000 in
theorem open_va {n : Nat} {v : Value} {x : DataW H × List MemPlace} (h : DataW.trod enc Try.prog W 0 (fun _ => true) true n 24 [v] = some x) (hw : Wt Try.prog 24 x.1) : ∃ A c l, v = .slice A l.length c ∧ l.length ≤ 1000000000000000 ∧ DV W A l ∧ (∀ z ∈ l, z.name.size ≤ maxLen) ∧ l.length ≤ c ∧ c ≤ maxLen ∧ (A = none → c = 0) := by
  obtain ⟨A, len, c, rfl, hb, hc, hm, hn, hg⟩ := open_structs Try.underlying24 Try.underlying53 (by kernel_rfl) (by kernel_rfl) (by decide) h hw
  rw [show Try.prog.bytesOf 53 = 56 by kernel_rfl] at hb
  have hrb := reachBytes_lt
  by_cases h0 : 0 < len
  · obtain ⟨b, off, rfl, hlt, hf⟩ := hg h0
    obtain ⟨R, hR⟩ := choose_lt (α := VarR) (n := len) (p := fun i r => (W.cell? ⟨b, off + i * 6, none⟩ = some (.string r.name) ∧ W.cell? ⟨b, off + i * 6 + 1, none⟩ = some (.int .i64 r.sc) ∧ W.cell? ⟨b, off + i * 6 + 2, none⟩ = some (.int .i64 r.over) ∧ W.cell? ⟨b, off + i * 6 + 3, none⟩ = some (.int .i64 r.lo) ∧ W.cell? ⟨b, off + i * 6 + 4, none⟩ = some (.int .i64 r.hi) ∧ W.cell? ⟨b, off + i * 6 + 5, none⟩ = some (.int .i64 r.init)) ∧ r.name.size ≤ maxLen) (fun i hi => by
      obtain ⟨u0, y0, m0, g0, t0, w0⟩ := hf i hi 0 _ rfl
      obtain ⟨u1, y1, m1, g1, t1, w1⟩ := hf i hi 1 _ rfl
      obtain ⟨u2, y2, m2, g2, t2, w2⟩ := hf i hi 2 _ rfl
      obtain ⟨u3, y3, m3, g3, t3, w3⟩ := hf i hi 3 _ rfl
      obtain ⟨u4, y4, m4, g4, t4, w4⟩ := hf i hi 4 _ rfl
      obtain ⟨u5, y5, m5, g5, t5, w5⟩ := hf i hi 5 _ rfl
      obtain ⟨z0, rfl, b0⟩ := string_cell Try.underlying9 t0 w0
      obtain ⟨z1, rfl, _⟩ := int_cell Try.underlying3 t1
      obtain ⟨z2, rfl, _⟩ := int_cell Try.underlying3 t2
      obtain ⟨z3, rfl, _⟩ := int_cell Try.underlying3 t3
      obtain ⟨z4, rfl, _⟩ := int_cell Try.underlying3 t4
      obtain ⟨z5, rfl, _⟩ := int_cell Try.underlying3 t5
      exact ⟨⟨z0, z1, z2, z3, z4, z5⟩, ⟨g0, g1, g2, g3, g4, g5⟩, Nat.le_trans b0 reach_max⟩)
    refine ⟨_, c, (List.range len).map R, by simp, by simp; omega, fun _ => ⟨b, off, rfl, hlt, fun i hi => ?_⟩, fun z hz => ?_, by simpa using hc, hm, hn⟩
    · simp only [List.length_map, List.length_range] at hi
      rw [getD_range R default hi]
      exact (hR i hi).1
    · obtain ⟨i, hi, rfl⟩ := List.mem_map.1 hz
      exact (hR i (List.mem_range.1 hi)).2
  · obtain rfl : len = 0 := by omega
    exact ⟨A, c, [], rfl, by simp, fun h => absurd h (by simp), fun z hz => by simp at hz, by simp, hm, hn⟩
set_option maxRecDepth 100000 in
theorem open_v_arg {base : Nat} {v : Value} {d : DataW H} {ps : List MemPlace} (hv : Value.okWide Try.prog W .any base 24 v) (h : DataW.Trod enc Try.prog W 0 (fun _ => true) true 24 v d ps)
    {ts : List TypeId} {ds : List (DataW H)} (hsz : (DataW.weightsEach Try.prog ts ds).all (· ≤ reachBytes) = true) (j : Nat) (htj : ts[j]? = some 24) (hdj : ds[j]? = some d) :
    ∃ A c l, v = .slice A l.length c ∧ l.length ≤ 1000000000000000 ∧ DV W A l ∧ (∀ z ∈ l, z.name.size ≤ maxLen) ∧ l.length ≤ c ∧ c ≤ maxLen ∧ (A = none → c = 0) := by
  obtain ⟨a0, len, cap, rfl⟩ := okWide_slice Try.underlying24 hv
  obtain ⟨fuel, hf⟩ := h
  have hf' : DataW.trod enc Try.prog W 0 (fun _ => true) true fuel 24 [.slice a0 len cap] = some (d, ps) := by simpa [Value.cells] using hf
  exact open_va hf' (wt_arg hsz htj hdj)
set_option maxRecDepth 100000 in
theorem open_ca {n : Nat} {v : Value} {x : DataW H × List MemPlace} (h : DataW.trod enc Try.prog W 0 (fun _ => true) true n 25 [v] = some x) (hw : Wt Try.prog 25 x.1) : ∃ A c l, v = .slice A l.length c ∧ l.length ≤ 1000000000000000 ∧ DC W A l ∧ (∀ z ∈ l, z.name.size ≤ maxLen) ∧ l.length ≤ c ∧ c ≤ maxLen ∧ (A = none → c = 0) := by
  obtain ⟨A, len, c, rfl, hb, hc, hm, hn, hg⟩ := open_structs Try.underlying25 Try.underlying55 (by kernel_rfl) (by kernel_rfl) (by decide) h hw
  rw [show Try.prog.bytesOf 55 = 56 by kernel_rfl] at hb
  have hrb := reachBytes_lt
  by_cases h0 : 0 < len
  · obtain ⟨b, off, rfl, hlt, hf⟩ := hg h0
    obtain ⟨R, hR⟩ := choose_lt (α := ChR) (n := len) (p := fun i r => (W.cell? ⟨b, off + i * 6, none⟩ = some (.string r.name) ∧ W.cell? ⟨b, off + i * 6 + 1, none⟩ = some (.int .i64 r.sc) ∧ W.cell? ⟨b, off + i * 6 + 2, none⟩ = some (.int .i64 r.cap) ∧ W.cell? ⟨b, off + i * 6 + 3, none⟩ = some (.int .i64 r.lo) ∧ W.cell? ⟨b, off + i * 6 + 4, none⟩ = some (.int .i64 r.hi) ∧ W.cell? ⟨b, off + i * 6 + 5, none⟩ = some (.bool r.lossy)) ∧ r.name.size ≤ maxLen) (fun i hi => by
      obtain ⟨u0, y0, m0, g0, t0, w0⟩ := hf i hi 0 _ rfl
      obtain ⟨u1, y1, m1, g1, t1, w1⟩ := hf i hi 1 _ rfl
      obtain ⟨u2, y2, m2, g2, t2, w2⟩ := hf i hi 2 _ rfl
      obtain ⟨u3, y3, m3, g3, t3, w3⟩ := hf i hi 3 _ rfl
      obtain ⟨u4, y4, m4, g4, t4, w4⟩ := hf i hi 4 _ rfl
      obtain ⟨u5, y5, m5, g5, t5, w5⟩ := hf i hi 5 _ rfl
      obtain ⟨z0, rfl, b0⟩ := string_cell Try.underlying9 t0 w0
      obtain ⟨z1, rfl, _⟩ := int_cell Try.underlying3 t1
      obtain ⟨z2, rfl, _⟩ := int_cell Try.underlying3 t2
      obtain ⟨z3, rfl, _⟩ := int_cell Try.underlying3 t3
      obtain ⟨z4, rfl, _⟩ := int_cell Try.underlying3 t4
      obtain ⟨z5, e5, _, _⟩ := DataW.trod_bool Try.underlying4 t5
      injection e5 with e5
      subst e5
      exact ⟨⟨z0, z1, z2, z3, z4, z5⟩, ⟨g0, g1, g2, g3, g4, g5⟩, Nat.le_trans b0 reach_max⟩)
    refine ⟨_, c, (List.range len).map R, by simp, by simp; omega, fun _ => ⟨b, off, rfl, hlt, fun i hi => ?_⟩, fun z hz => ?_, by simpa using hc, hm, hn⟩
    · simp only [List.length_map, List.length_range] at hi
      rw [getD_range R default hi]
      exact (hR i hi).1
    · obtain ⟨i, hi, rfl⟩ := List.mem_map.1 hz
      exact (hR i (List.mem_range.1 hi)).2
  · obtain rfl : len = 0 := by omega
    exact ⟨A, c, [], rfl, by simp, fun h => absurd h (by simp), fun z hz => by simp at hz, by simp, hm, hn⟩
set_option maxRecDepth 100000 in
theorem open_c_arg {base : Nat} {v : Value} {d : DataW H} {ps : List MemPlace} (hv : Value.okWide Try.prog W .any base 25 v) (h : DataW.Trod enc Try.prog W 0 (fun _ => true) true 25 v d ps)
    {ts : List TypeId} {ds : List (DataW H)} (hsz : (DataW.weightsEach Try.prog ts ds).all (· ≤ reachBytes) = true) (j : Nat) (htj : ts[j]? = some 25) (hdj : ds[j]? = some d) :
    ∃ A c l, v = .slice A l.length c ∧ l.length ≤ 1000000000000000 ∧ DC W A l ∧ (∀ z ∈ l, z.name.size ≤ maxLen) ∧ l.length ≤ c ∧ c ≤ maxLen ∧ (A = none → c = 0) := by
  obtain ⟨a0, len, cap, rfl⟩ := okWide_slice Try.underlying25 hv
  obtain ⟨fuel, hf⟩ := h
  have hf' : DataW.trod enc Try.prog W 0 (fun _ => true) true fuel 25 [.slice a0 len cap] = some (d, ps) := by simpa [Value.cells] using hf
  exact open_ca hf' (wt_arg hsz htj hdj)
set_option maxRecDepth 100000 in
/-- A variable by value. -/
theorem open_var_arg {base : Nat} {v : Value} {d : DataW H} {ps : List MemPlace} (hv : Value.okWide Try.prog W .any base 53 v) (h : DataW.Trod enc Try.prog W 0 (fun _ => true) true 53 v d ps)
    {ts : List TypeId} {ds : List (DataW H)} (hsz : (DataW.weightsEach Try.prog ts ds).all (· ≤ reachBytes) = true) (j : Nat) (htj : ts[j]? = some 53) (hdj : ds[j]? = some d) : ∃ x : VarR, v = x.v := by
  obtain ⟨cs, n, rfl, hsz, hf⟩ := open_fields_w Try.underlying53 (by kernel_rfl) (by kernel_rfl) hv h (wt_arg hsz htj hdj)
  obtain ⟨u0, y0, g0, t0, w0⟩ := hf 0 _ rfl
  obtain ⟨u1, y1, g1, t1, w1⟩ := hf 1 _ rfl
  obtain ⟨u2, y2, g2, t2, w2⟩ := hf 2 _ rfl
  obtain ⟨u3, y3, g3, t3, w3⟩ := hf 3 _ rfl
  obtain ⟨u4, y4, g4, t4, w4⟩ := hf 4 _ rfl
  obtain ⟨u5, y5, g5, t5, w5⟩ := hf 5 _ rfl
  obtain ⟨z0, rfl, b0⟩ := string_cell Try.underlying9 t0 w0
  obtain ⟨z1, rfl, _⟩ := int_cell Try.underlying3 t1
  obtain ⟨z2, rfl, _⟩ := int_cell Try.underlying3 t2
  obtain ⟨z3, rfl, _⟩ := int_cell Try.underlying3 t3
  obtain ⟨z4, rfl, _⟩ := int_cell Try.underlying3 t4
  obtain ⟨z5, rfl, _⟩ := int_cell Try.underlying3 t5
  obtain ⟨l⟩ := cs
  match l, hsz with
  | [a, b, c, d, e, f], _ =>
    simp at g0 g1 g2 g3 g4 g5
    subst g0 g1 g2 g3 g4 g5
    exact ⟨⟨z0, z1, z2, z3, z4, z5⟩, rfl⟩
end Go.Proofs.YtodloljpfbkkjaaRRRR.dcl
