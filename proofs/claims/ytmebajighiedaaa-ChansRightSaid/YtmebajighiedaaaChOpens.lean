/- Arguments opened: scalars, a channel by value. -/
import Derived.Test.YtmebajighiedaaaOpensSt
import Derived.Test.YtmebajighiedaaaChLaw
namespace Go.Proofs.Ytmebajighiedaaa.ch
open Go.Joins Go.ChangeShapes Go.WideShapes Go.ChangeAt Go.RowKit Go.Deep Go.Proofs.Ytmebajighiedaaa.dcl

/-- A scalar. -/
structure ScR where
  name : ByteArray
  size : Int
instance : Inhabited ScR := ⟨⟨⟨#[]⟩, 0⟩⟩
/-- A slice of api.Scalar at address A (nil let in) reads as l. -/
def DS (w : World) (A : Option Addr) (l : List ScR) : Prop :=
  0 < l.length → ∃ b off, A = some ⟨b, off, none⟩ ∧ b < w.heap.size ∧ ∀ i, i < l.length → w.cell? ⟨b, off + i * 2, none⟩ = some (.string (l.getD i default).name) ∧ w.cell? ⟨b, off + i * 2 + 1, none⟩ = some (.int .i64 (l.getD i default).size)
theorem DS.below {w w' : World} {A : Option Addr} {l : List ScR} (h : DS w A l) (hk : Below w.heap.size w w') : DS w' A l := fun hn => by
  obtain ⟨b, off, e, hb, hc⟩ := h hn
  exact ⟨b, off, e, Nat.lt_of_lt_of_le hb hk.size, fun i hi => ⟨(hk.cell (p := ⟨b, off + i * 2, none⟩) hb).trans (hc i hi).1, (hk.cell (p := ⟨b, off + i * 2 + 1, none⟩) hb).trans (hc i hi).2⟩⟩
/-- A channel. -/
structure ChR where
  name : ByteArray
  sc : Int
  cap : Int
  lo : Int
  hi : Int
  lossy : Bool
@[reducible] def ChR.v (x : ChR) : Value := .agg #[.string x.name, .int .i64 x.sc, .int .i64 x.cap, .int .i64 x.lo, .int .i64 x.hi, .bool x.lossy]
variable {H : Type} {enc : TypeId × Value → H} {W : World}
theorem reach_max : reachBytes ≤ maxLen := by decide
set_option maxRecDepth 100000 in
theorem open_sa {n : Nat} {v : Value} {x : DataW H × List MemPlace} (h : DataW.trod enc Try.prog W 0 (fun _ => true) true n 35 [v] = some x) (hw : Wt Try.prog 35 x.1) : ∃ A c l, v = .slice A l.length c ∧ l.length ≤ 1000000000000000 ∧ DS W A l ∧ (∀ z ∈ l, z.name.size ≤ maxLen) ∧ l.length ≤ c ∧ c ≤ maxLen ∧ (A = none → c = 0) := by
  obtain ⟨A, len, c, rfl, hb, hc, hm, hn, hg⟩ := open_structs Try.underlying35 Try.underlying47 (by kernel_rfl) (by kernel_rfl) (by decide) h hw
  rw [show Try.prog.bytesOf 47 = 24 by kernel_rfl] at hb
  have hrb := reachBytes_lt
  by_cases h0 : 0 < len
  · obtain ⟨b, off, rfl, hlt, hf⟩ := hg h0
    obtain ⟨R, hR⟩ := choose_lt (α := ScR) (n := len) (p := fun i r => (W.cell? ⟨b, off + i * 2, none⟩ = some (.string r.name) ∧ W.cell? ⟨b, off + i * 2 + 1, none⟩ = some (.int .i64 r.size)) ∧ r.name.size ≤ maxLen) (fun i hi => by
      obtain ⟨u0, y0, m0, g0, t0, w0⟩ := hf i hi 0 _ rfl
      obtain ⟨u1, y1, m1, g1, t1, w1⟩ := hf i hi 1 _ rfl
      obtain ⟨z0, rfl, b0⟩ := string_cell Try.underlying9 t0 w0
      obtain ⟨z1, rfl, _⟩ := int_cell Try.underlying3 t1
      exact ⟨⟨z0, z1⟩, ⟨g0, g1⟩, Nat.le_trans b0 reach_max⟩)
    refine ⟨_, c, (List.range len).map R, by simp, by simp; omega, fun _ => ⟨b, off, rfl, hlt, fun i hi => ?_⟩, fun z hz => ?_, by simpa using hc, hm, hn⟩
    · simp only [List.length_map, List.length_range] at hi
      rw [getD_range R default hi]
      exact (hR i hi).1
    · obtain ⟨i, hi, rfl⟩ := List.mem_map.1 hz
      exact (hR i (List.mem_range.1 hi)).2
  · obtain rfl : len = 0 := by omega
    exact ⟨A, c, [], rfl, by simp, fun h => absurd h (by simp), fun z hz => by simp at hz, by simp, hm, hn⟩
set_option maxRecDepth 100000 in
theorem open_s_arg {base : Nat} {v : Value} {d : DataW H} {ps : List MemPlace} (hv : Value.okWide Try.prog W .any base 35 v) (h : DataW.Trod enc Try.prog W 0 (fun _ => true) true 35 v d ps)
    {ts : List TypeId} {ds : List (DataW H)} (hsz : (DataW.weightsEach Try.prog ts ds).all (· ≤ reachBytes) = true) (j : Nat) (htj : ts[j]? = some 35) (hdj : ds[j]? = some d) :
    ∃ A c l, v = .slice A l.length c ∧ l.length ≤ 1000000000000000 ∧ DS W A l ∧ (∀ z ∈ l, z.name.size ≤ maxLen) ∧ l.length ≤ c ∧ c ≤ maxLen ∧ (A = none → c = 0) := by
  obtain ⟨a0, len, cap, rfl⟩ := okWide_slice Try.underlying35 hv
  obtain ⟨fuel, hf⟩ := h
  have hf' : DataW.trod enc Try.prog W 0 (fun _ => true) true fuel 35 [.slice a0 len cap] = some (d, ps) := by simpa [Value.cells] using hf
  exact open_sa hf' (wt_arg hsz htj hdj)
set_option maxRecDepth 100000 in
/-- A channel by value. -/
theorem open_chan_arg {base : Nat} {v : Value} {d : DataW H} {ps : List MemPlace} (hv : Value.okWide Try.prog W .any base 34 v) (h : DataW.Trod enc Try.prog W 0 (fun _ => true) true 34 v d ps)
    {ts : List TypeId} {ds : List (DataW H)} (hsz : (DataW.weightsEach Try.prog ts ds).all (· ≤ reachBytes) = true) (j : Nat) (htj : ts[j]? = some 34) (hdj : ds[j]? = some d) : ∃ x : ChR, v = x.v := by
  obtain ⟨cs, n, rfl, hsz, hf⟩ := open_fields_w Try.underlying34 (by kernel_rfl) (by kernel_rfl) hv h (wt_arg hsz htj hdj)
  obtain ⟨u0, y0, g0, t0, w0⟩ := hf 0 _ rfl
  obtain ⟨u1, y1, g1, t1, w1⟩ := hf 1 _ rfl
  obtain ⟨u2, y2, g2, t2, w2⟩ := hf 2 _ rfl
  obtain ⟨u3, y3, g3, t3, w3⟩ := hf 3 _ rfl
  obtain ⟨u4, y4, g4, t4, w4⟩ := hf 4 _ rfl
  obtain ⟨u5, y5, g5, t5, w5⟩ := hf 5 _ rfl
  obtain ⟨z0, rfl, b0⟩ := string_cell Try.underlying9 t0 w0
  obtain ⟨z1, rfl, _⟩ := int_cell Try.underlying3 t1
  obtain ⟨z2, rfl, _⟩ := int_cell Try.underlying3 t2
  obtain ⟨z3, rfl, _⟩ := int_cell Try.underlying3 t3
  obtain ⟨z4, rfl, _⟩ := int_cell Try.underlying3 t4
  obtain ⟨z5, e5, _, _⟩ := DataW.trod_bool Try.underlying4 t5
  injection e5 with e5
  obtain ⟨l⟩ := cs
  match l, hsz with
  | [a, b, c, d, e, f], _ =>
    simp at g0 g1 g2 g3 g4 g5
    subst g0 g1 g2 g3 g4 g5
    subst e5
    exact ⟨⟨z0, z1, z2, z3, z4, z5⟩, rfl⟩
end Go.Proofs.Ytmebajighiedaaa.ch
