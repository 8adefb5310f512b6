/- Laws over chans: a slice that comes in with its capacity; the law's example. -/
import Derived.Test.YtmebajighiedaaaChRefPut
namespace Go.Proofs.Ytmebajighiedaaa.ch
open Go.ChangeShapes Go.WideShapes Go.ChangeAt Go.RowKit

set_option maxRecDepth 100000 in
theorem open_ins_arg {H : Type} {enc : TypeId × Value → H} {W : World} {base : Nat} {v : Value} {d : DataW H} {ps : List MemPlace} (hv : Value.okWide Try.prog W .any base 22 v)
    (h : DataW.Trod enc Try.prog W 0 (fun _ => true) true 22 v d ps) {ts : List TypeId} {ds : List (DataW H)} (hsz : (DataW.weightsEach Try.prog ts ds).all (· ≤ reachBytes) = true) (j : Nat) (htj : ts[j]? = some 22) (hdj : ds[j]? = some d) :
    ∃ (A : Option Addr) (c : Nat) (zs : List Int), v = .slice A zs.length c ∧ 8 * zs.length ≤ 140737488355328 ∧ InS W A c zs ∧ W64 zs := by
  obtain ⟨a0, len, cap, rfl⟩ := okWide_slice Try.underlying22 hv
  obtain ⟨fuel, hf⟩ := h
  rcases open_ints Try.underlying22 Try.underlying3 Try.cells3 hf with ⟨hcs, hx⟩ | ⟨a, len', cap', zs, hcs, _, hl, hm, hz, hx, hcell, hwz⟩
  · simp [Value.cells] at hcs
    obtain ⟨rfl, rfl, rfl⟩ := hcs
    exact ⟨none, 0, [], rfl, by simp, ⟨IA.nil _ _, Nat.le_refl _, Nat.zero_le _, fun _ => rfl⟩, fun z hz => by simp at hz⟩
  · simp [Value.cells] at hcs
    obtain ⟨rfl, rfl, rfl⟩ := hcs
    simp only [Prod.mk.injEq] at hx
    obtain ⟨rfl, rfl⟩ := hx
    simp only [if_true] at hz
    have hle : len ≤ zs.length := by omega
    have hlen : (zs.take len).length = len := by simp; omega
    have hs := sized_slice hsz htj hdj Try.underlying22
    rw [Try.bytes3] at hs
    have hrb := reachBytes_lt
    have hs2 : (lits (H := H) .i64 (zs.take len)).length = len := by simp [lits]; omega
    rw [hs2] at hs
    refine ⟨some a, cap, zs.take len, by rw [hlen], by rw [hlen]; omega, ⟨?_, by rw [hlen]; omega, hm, fun e => by cases e⟩, ?_⟩
    · intro h0
      obtain ⟨b, off, spot⟩ := a
      have g0 := hcell 0 (by omega)
      have hspot : spot = none := by simpa [Addr.add] using World.cell?_spot g0
      subst hspot
      have hcell' : ∀ i, i < zs.length → W.cell? ⟨b, off + i, none⟩ = some (.int .i64 (zs.getD i 0)) := fun i hi => by rw [← add_plain]; exact hcell i hi
      refine ⟨b, off, rfl, ?_, fun i hi => ?_⟩
      · have g1 := hcell' 0 (by omega)
        rcases Nat.lt_or_ge b W.heap.size with hlt | hge
        · exact hlt
        · simp [World.cell?, Array.getElem?_eq_none hge] at g1
      · rw [hcell' i (by omega)]
        simp [List.getD, show i < len by omega]
    · intro z hz
      have := hwz z (List.mem_of_mem_take hz)
      have e : IntKind.i64.min = -9223372036854775808 := rfl
      simpa [Lit.wf, e] using this

theorem eqB_same (l : List Int) : eqB l l = true := decide_eq_true rfl
set_option maxRecDepth 20000 in
set_option maxHeartbeats 1000000 in
theorem lives_any (w : World) : Calls Try.prog 13 #[] w fun e w' => e = .returned (.bool true) ∧ Below w.heap.size w w' := by
  have P1 : Hid (putL [1, 5, 0] 7 = [2, 5, 7] ∧ roomB [1, 5, 0] = true) := Lib.hid (by decide)
  have P2 : Hid (takeL [2, 5, 7] = [1, 7, 0] ∧ takeV [2, 5, 7] = 5 ∧ someB [2, 5, 7] = true) := Lib.hid (by decide)
  have I0 : Hid (IA (w.alloc (.cells #[.int .i64 1, .int .i64 5, .int .i64 0] 3)) (some ⟨w.heap.size, 0, none⟩) [1, 5, 0]) := Lib.hid (ia_lit w _ _ _ rfl)
  have B0 : Hid (Below w.heap.size w (w.alloc (.cells #[.int .i64 1, .int .i64 5, .int .i64 0] 3))) := Lib.hid ((Below.refl _ _).alloc (Nat.le_refl _) _)
  go_enter Try.func13, Try.ntmps13
  go_wp2_with fail
  refine (put_any _ 3 3 [1, 5, 0] 7 _ rfl I0.out (Nat.le_refl _) (by decide) (by decide)).mono ?_
  rintro e w1 ⟨A1, c1, rfl, h1, hb1, _⟩
  rw [P1.out.1, P1.out.2]
  rw [P1.out.1] at h1
  have H1 := Lib.hid h1
  have B1 := Lib.hid (B0.out.trans (hb1.mono B0.out.size))
  clear h1 hb1
  simp only [List.length_cons, List.length_nil, Nat.zero_add, Nat.reduceAdd]
  go_wp2_with fail
  refine (take_any A1 c1 3 [2, 5, 7] w1 rfl H1.out.ia H1.out.le H1.out.max (by decide)).mono ?_
  rintro e w2 ⟨A2, c2, rfl, h2, hb2, _⟩
  rw [P2.out.1, P2.out.2.1, P2.out.2.2]
  rw [P2.out.1] at h2
  have H2 := Lib.hid h2
  have H12 := Lib.hid (H1.out.ia.below hb2)
  have B2 := Lib.hid (B1.out.trans (hb2.mono B1.out.size))
  clear h2 hb2
  have I2 : Hid (IA (w2.alloc (.cells #[.int .i64 2, .int .i64 5, .int .i64 7] 3)) (some ⟨w2.heap.size, 0, none⟩) [2, 5, 7]) := Lib.hid (ia_lit w2 _ _ _ rfl)
  simp only [List.length_cons, List.length_nil, Nat.zero_add, Nat.reduceAdd]
  go_wp2_with fail
  refine (same_any A1 _ c1 3 3 3 [2, 5, 7] [2, 5, 7] _ rfl rfl (H12.out.alloc _) I2.out (by decide) (by decide)).mono ?_
  rintro e w3 ⟨rfl, j, rfl⟩
  rw [eqB_same]
  have B3 : Hid (Below w.heap.size w ((w2.alloc (.cells #[.int .i64 2, .int .i64 5, .int .i64 7] 3)).drewN j)) := Lib.hid (below_drewN (B2.out.alloc B2.out.size _) j)
  have H3 : Hid (IA ((w2.alloc (.cells #[.int .i64 2, .int .i64 5, .int .i64 7] 3)).drewN j) A2 [1, 7, 0]) := Lib.hid ((H2.out.ia.alloc _).drewN j)
  generalize (w2.alloc (.cells #[.int .i64 2, .int .i64 5, .int .i64 7] 3)).drewN j = w3 at B3 H3 ⊢
  have I3 : Hid (IA (w3.alloc (.cells #[.int .i64 1, .int .i64 7, .int .i64 0] 3)) (some ⟨w3.heap.size, 0, none⟩) [1, 7, 0]) := Lib.hid (ia_lit w3 _ _ _ rfl)
  go_wp2_with fail
  refine (same_any A2 _ c2 3 3 3 [1, 7, 0] [1, 7, 0] _ rfl rfl (H3.out.alloc _) I3.out (by decide) (by decide)).mono ?_
  rintro e w4 ⟨rfl, j2, rfl⟩
  rw [eqB_same]
  have B4 : Hid (Below w.heap.size w ((w3.alloc (.cells #[.int .i64 1, .int .i64 7, .int .i64 0] 3)).drewN j2)) := Lib.hid (below_drewN (B3.out.alloc B3.out.size _) j2)
  go_wp2_with fail
  go_ret
  exact ⟨rfl, B4.out⟩
end Go.Proofs.Ytmebajighiedaaa.ch
