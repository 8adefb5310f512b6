/- Arguments opened: a slice of ints with its capacity. -/
import Derived.Test.YtfhapodidjkmaaaLaw
namespace Go.Proofs.Ytfhapodidjkmaaa
open Go.ChangeShapes Go.WideShapes Go.ChangeAt Go.RowKit

set_option maxRecDepth 100000 in
/-- A slice of ints that came in, its capacity too: argument j. -/
theorem open_ints_cap {H : Type} {enc : TypeId × Value → H} {W : World} {base : Nat} {v : Value} {d : DataW H} {ps : List MemPlace} (hv : Value.okWide Try.prog W .any base 26 v)
    (h : DataW.Trod enc Try.prog W 0 (fun _ => true) true 26 v d ps) {ts : List TypeId} {ds : List (DataW H)} (hsz : (DataW.weightsEach Try.prog ts ds).all (· ≤ reachBytes) = true) (j : Nat) (htj : ts[j]? = some 26) (hdj : ds[j]? = some d) :
    ∃ (A : Option Addr) (c : Nat) (zs : List Int), v = .slice A zs.length c ∧ 8 * zs.length ≤ 140737488355328 ∧ zs.length ≤ c ∧ c ≤ maxLen ∧ IA W A zs ∧ W64 zs := by
  obtain ⟨a0, len, cap, rfl⟩ := okWide_slice Try.underlying26 hv
  obtain ⟨fuel, hf⟩ := h
  rcases open_ints Try.underlying26 Try.underlying3 Try.cells3 hf with ⟨hcs, hx⟩ | ⟨a, len', cap', zs, hcs, _, hl, hm, hz, hx, hcell, hwz⟩
  · simp [Value.cells] at hcs
    obtain ⟨rfl, rfl, rfl⟩ := hcs
    exact ⟨none, 0, [], rfl, by simp, Nat.le_refl _, Nat.zero_le _, IA.nil _ _, fun z hz => by simp at hz⟩
  · simp [Value.cells] at hcs
    obtain ⟨rfl, rfl, rfl⟩ := hcs
    simp only [Prod.mk.injEq] at hx
    obtain ⟨rfl, rfl⟩ := hx
    simp only [if_true] at hz
    have hle : len ≤ zs.length := by omega
    have hlen : (zs.take len).length = len := by simp; omega
    have hs := sized_slice hsz htj hdj Try.underlying26
    rw [Try.bytes3] at hs
    have hrb := reachBytes_lt
    have hs2 : (lits (H := H) .i64 (zs.take len)).length = len := by simp [lits]; omega
    rw [hs2] at hs
    refine ⟨some a, cap, zs.take len, by rw [hlen], by rw [hlen]; omega, by rw [hlen]; omega, hm, ?_, ?_⟩
    · intro h0
      obtain ⟨b, off, spot⟩ := a
      have g0 := hcell 0 (by omega)
      have hspot : spot = none := by simpa [Addr.add] using World.cell?_spot g0
      subst hspot
      have hcell' : ∀ i, i < zs.length → W.cell? ⟨b, off + i, none⟩ = some (.int .i64 (zs.getD i 0)) := fun i hi => by rw [← add_plain]; exact hcell i hi
      refine ⟨b, off, rfl, ?_, fun i hi => ?_⟩
      · have g1 := hcell' 0 (by omega)
        rcases Nat.lt_or_ge b W.heap.size with hlt | hge
        · exact hlt
        · simp [World.cell?, Array.getElem?_eq_none hge] at g1
      · rw [hcell' i (by omega)]
        simp [List.getD, show i < len by omega]
    · intro z hz
      have := hwz z (List.mem_of_mem_take hz)
      have e : IntKind.i64.min = -9223372036854775808 := rfl
      simpa [Lit.wf, e] using this
end Go.Proofs.Ytfhapodidjkmaaa
