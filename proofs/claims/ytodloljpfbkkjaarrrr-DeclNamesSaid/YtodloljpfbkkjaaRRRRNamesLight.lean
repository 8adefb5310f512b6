/- light: a model whose parts are few. -/
import Derived.Test.YtodloljpfbkkjaaRRRRNamesProg
import Derived.Test.YtodloljpfbkkjaaRRRRRefNames
import Derived.Test.YtodloljpfbkkjaaRRRRDeclAwake
namespace Go.Proofs.YtodloljpfbkkjaaRRRR.nms
open Go.ChangeShapes Go.WideShapes Go.ChangeAt Go.RowKit Go.Deep Go.Joins

/-- A process' variables and commands lie there, of any length. -/
structure PLq (w : World) (p : PN) : Prop where
  l1 : p.n1 = p.vars.length
  l2 : p.n2 = p.cmds.length
  r1 : NV w p.A1 p.vars
  r2 : NM w p.A2 p.cmds
def PSq (w : World) (A : Option Addr) (l : List PN) : Prop :=
  0 < l.length → ∃ b off, A = some ⟨b, off, none⟩ ∧ b < w.heap.size ∧ ∀ i, i < l.length → w.cell? ⟨b, off + i * 5, none⟩ = some (.string (l.getD i default).name) ∧ (∃ x y : Int, w.cell? ⟨b, off + i * 5 + 1, none⟩ = some (.int .i64 x) ∧ w.cell? ⟨b, off + i * 5 + 2, none⟩ = some (.int .i64 y)) ∧
    w.cell? ⟨b, off + i * 5 + 3, none⟩ = some (.slice (l.getD i default).A1 (l.getD i default).n1 (l.getD i default).c1) ∧ w.cell? ⟨b, off + i * 5 + 4, none⟩ = some (.slice (l.getD i default).A2 (l.getD i default).n2 (l.getD i default).c2) ∧ PLq w (l.getD i default)
theorem PSq.below {w w' : World} {A : Option Addr} {l : List PN} (h : PSq w A l) (k : Below w.heap.size w w') : PSq w' A l := fun hn => by
  obtain ⟨b, off, e, hb, hc⟩ := h hn
  refine ⟨b, off, e, Nat.lt_of_lt_of_le hb k.size, fun i hi => ?_⟩
  obtain ⟨h0, ⟨x, y, h4, h5⟩, h1, h2, h3⟩ := hc i hi
  exact ⟨(k.cell (p := ⟨b, off + i * 5, none⟩) hb).trans h0, ⟨x, y, (k.cell (p := ⟨b, off + i * 5 + 1, none⟩) hb).trans h4, (k.cell (p := ⟨b, off + i * 5 + 2, none⟩) hb).trans h5⟩, (k.cell (p := ⟨b, off + i * 5 + 3, none⟩) hb).trans h1, (k.cell (p := ⟨b, off + i * 5 + 4, none⟩) hb).trans h2, ⟨h3.l1, h3.l2, h3.r1.below k, h3.r2.below k⟩⟩
/-- A model lies there, of any size. -/
structure MQ (w : World) (X : MdX) (M : Md) : Prop where
  l1 : X.n1 = M.scs.length
  l2 : X.n2 = M.vars.length
  l3 : X.n3 = M.chans.length
  l4 : X.n4 = M.procs.length
  l5 : X.n5 = M.props.length
  r1 : NA w X.a1 M.scs
  r2 : NV w X.a2 M.vars
  r3 : NC w X.a3 M.chans
  r4 : PSq w X.a4 M.procs
  r5 : NR w X.a5 M.props
theorem MQ.below {w w' : World} {X : MdX} {M : Md} (h : MQ w X M) (k : Below w.heap.size w w') : MQ w' X M :=
  ⟨h.l1, h.l2, h.l3, h.l4, h.l5, h.r1.below k, h.r2.below k, h.r3.below k, h.r4.below k, h.r5.below k⟩
/-- Its parts are few. -/
def Few (X : MdX) (M : Md) : Prop := (X.n1 ≤ 20 ∧ X.n2 ≤ 20 ∧ X.n3 ≤ 20 ∧ X.n4 ≤ 20 ∧ X.n5 ≤ 20) ∧ ∀ i, i < X.n4 → (M.procs.getD i default).n1 ≤ 20 ∧ (M.procs.getD i default).n2 ≤ 20
theorem MQ.mp {w : World} {X : MdX} {M : Md} (h : MQ w X M) (f : Few X M) : MP w X M := by
  obtain ⟨⟨f1, f2, f3, f4, f5⟩, f6⟩ := f
  refine ⟨h.l1, h.l2, h.l3, h.l4, h.l5, by omega, by omega, by omega, by omega, by omega, h.r1, h.r2, h.r3, fun hn => ?_, h.r5⟩
  obtain ⟨b, off, e, hb, hc⟩ := h.r4 hn
  refine ⟨b, off, e, hb, fun i hi => ?_⟩
  obtain ⟨h0, h9, h1, h2, h3⟩ := hc i hi
  have h8 := f6 i (by rw [h.l4]; exact hi)
  exact ⟨h0, h9, h1, h2, ⟨h3.l1, h3.l2, by omega, by omega, h3.r1, h3.r2⟩⟩
theorem flat_few {n : Nat} : ∀ l : List PN, (∀ i, i < l.length → (l.getD i default).all.length ≤ n) → (l.flatMap PN.all).length ≤ l.length * n
  | [], _ => by simp
  | x :: l, h => by
    have h0 : x.all.length ≤ n := h 0 (by simp)
    have h1 := flat_few l (fun i hi => h (i + 1) (by simp; omega))
    rw [List.flatMap_cons, List.length_append, List.length_cons, Nat.succ_mul]
    omega
theorem MQ.few {w : World} {X : MdX} {M : Md} (h : MQ w X M) (f : Few X M) : M.all.length ≤ 1000 := by
  obtain ⟨⟨f1, f2, f3, f4, f5⟩, f6⟩ := f
  have h9 : (M.procs.flatMap PN.all).length ≤ M.procs.length * 41 := flat_few _ fun i hi => by
    obtain ⟨b, off, e, hb, hc⟩ := h.r4 (by omega)
    obtain ⟨_, _, _, _, h3⟩ := hc i hi
    have h8 := f6 i (by rw [h.l4]; exact hi)
    rw [h3.l1, h3.l2] at h8
    simp only [PN.all, List.length_cons, List.length_append]
    omega
  have h1 := h.l1
  have h2 := h.l2
  have h3 := h.l3
  have h4 := h.l4
  have h5 := h.l5
  simp only [Md.all, List.length_append]
  omega

def LightP (w : World) (X : MdX) (M : Md) (e : Ending) (w' : World) : Prop := ∃ r, e = .returned (.bool r) ∧ (r = true → Few X M) ∧ Below w.heap.size w w'
set_option maxRecDepth 100000 in
set_option maxHeartbeats 8000000 in
theorem light_any (X : MdX) (M : Md) (w : World) (h : MQ w X M) : Calls Try.prog 10 #[X.v] w (LightP w X M) := by
  have HS := Lib.hid h
  clear h
  by_cases g1 : 20 < X.n1
  · go_enter Try.func10, Try.ntmps10
    go_wp2
    go_ret
    exact ⟨false, rfl, (fun e => by cases e), below_alloc1 _ _⟩
  by_cases g2 : 20 < X.n2
  · go_enter Try.func10, Try.ntmps10
    go_wp2
    go_ret
    exact ⟨false, rfl, (fun e => by cases e), below_alloc1 _ _⟩
  by_cases g3 : 20 < X.n3
  · go_enter Try.func10, Try.ntmps10
    go_wp2
    go_ret
    exact ⟨false, rfl, (fun e => by cases e), below_alloc1 _ _⟩
  by_cases g4 : 20 < X.n4
  · go_enter Try.func10, Try.ntmps10
    go_wp2
    go_ret
    exact ⟨false, rfl, (fun e => by cases e), below_alloc1 _ _⟩
  by_cases g5 : 20 < X.n5
  · go_enter Try.func10, Try.ntmps10
    go_wp2
    go_ret
    exact ⟨false, rfl, (fun e => by cases e), below_alloc1 _ _⟩
  go_enter Try.func10, Try.ntmps10
  go_wp2
  obtain ⟨w1, HW1⟩ : ∃ w1, w1 = w.alloc (.cells #[.slice X.a1 X.n1 X.c1, .slice X.a2 X.n2 X.c2, .slice X.a3 X.n3 X.c3, .slice X.a4 X.n4 X.c4, .slice X.a5 X.n5 X.c5] 45) := ⟨_, rfl⟩
  have HM1 : Hid (BM w1 w.heap.size X) := Lib.hid (by rw [HW1]; exact BM.new _ _ _)
  have HBW : Hid (Below w.heap.size w w1) := Lib.hid (by rw [HW1]; exact below_alloc1 _ _)
  rw [← HW1]
  clear HW1
  have HS1 := Lib.hid (HS.out.below HBW.out)
  obtain ⟨⟨m0, m1, m2, m3, m4⟩, mz⟩ := HM1.out
  clear m0 m1 m2 m4 mz
  go_loopw [3] (fun iv wr => ∃ k : Nat, k ≤ X.n4 ∧ iv = .int .i64 k ∧ wr = w1 ∧ Hid (∀ i, i < k → (M.procs.getD i default).n1 ≤ 20 ∧ (M.procs.getD i default).n2 ≤ 20)) (fun iv _ => X.n4 - (intOf iv).toNat)
  case atStart => exact ⟨0, Nat.zero_le _, rfl, rfl, Lib.hid (fun i hi => by omega)⟩
  case round =>
    obtain ⟨k, hk, rfl, rfl, HK⟩ := hrel
    by_cases hlt : k < X.n4
    · obtain ⟨b, o, hAA, hb, hc⟩ := HS1.out.r4 (by rw [← HS.out.l4]; omega)
      obtain ⟨_, _, e3, e4, _⟩ := hc k (by rw [← HS.out.l4]; exact hlt)
      obtain ⟨p, HPP⟩ : ∃ p, Hid (M.procs.getD k default = p) := ⟨_, Lib.hid rfl⟩
      rw [HPP.out] at e3 e4
      have HAA := Lib.hid hAA
      have hi0 : (0 : Int) ≤ (k : Int) := by omega
      have hi9 : (k : Int) < (X.n4 : Int) := by omega
      rw [HAA.out] at m3
      clear hAA hc
      by_cases q1 : 20 < p.n1
      · go_wp2
        go_ret
        exact ⟨false, rfl, (fun e => by cases e), HBW.out⟩
      by_cases q2 : 20 < p.n2
      · go_wp2
        go_ret
        exact ⟨false, rfl, (fun e => by cases e), HBW.out⟩
      go_wp2
      go_roundw
      case rel => exact ⟨k + 1, by omega, by go_num, by first | rfl | trivial, Lib.hid (fun i hi => by
        by_cases hik : i < k
        · exact HK.out i hik
        · obtain rfl : i = k := by omega
          rw [HPP.out]
          exact ⟨by omega, by omega⟩)⟩
      case measure => simp [intOf]; omega
    · obtain rfl : k = X.n4 := by omega
      go_wp2
      go_ret
      exact ⟨true, rfl, (fun _ => ⟨⟨by omega, by omega, by omega, by omega, by omega⟩, HK.out⟩), HBW.out⟩
end Go.Proofs.YtodloljpfbkkjaaRRRR.nms
