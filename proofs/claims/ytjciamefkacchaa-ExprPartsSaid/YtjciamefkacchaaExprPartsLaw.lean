/- The law ExprParts: of any nodes in any scope: each part of what has a kind has a kind, and the parts of a node lie side by side, just ahead of it; nothing that was there is changed. No condition. -/
import Derived.Test.YtjciamefkacchaaOpensScope
import Derived.Test.YtjciamefkacchaaOpensN
import Derived.Test.YtjciamefkacchaaExprSegs
import Derived.Test.YtjciamefkacchaaExprLives
import Derived.Test.YtjciamefkacchaaExprSpans
import Derived.IntWalk
import Derived.Deep.RegionHeld3
namespace Go.Proofs.Ytjciamefkacchaa.exprParts
open Go.ChangeShapes Go.WideShapes Go.ChangeAt Go.RowKit

def sub (e : List (Int × Int)) (s i : Nat) : List (Int × Int) := (e.drop s).take (i + 1 - s)
theorem sub_len {e : List (Int × Int)} {s i : Nat} (h1 : s ≤ i) (h2 : i < e.length) : (sub e s i).length = i + 1 - s := by
  unfold sub
  simp
  omega
theorem sub_n64 {e : List (Int × Int)} {s i : Nat} (h : N64 e) : N64 (sub e s i) := fun z hz => h z (List.mem_of_mem_drop (List.mem_of_mem_take hz))
theorem sub_pa {w : World} {b off : Nat} {e : List (Int × Int)} {s i : Nat} (h : PA w (some ⟨b, off, none⟩) e) (h1 : s ≤ i) (h2 : i < e.length) : PA w (some ⟨b, off + s * 2, none⟩) (sub e s i) := fun _ => by
  obtain ⟨b', off', e1, hb, hc⟩ := h (by omega)
  injection e1 with e1
  injection e1 with e1 e2
  subst e1 e2
  refine ⟨b, off + s * 2, rfl, hb, fun j hj => ?_⟩
  rw [sub_len h1 h2] at hj
  have hg : (sub e s i).getD j (0, 0) = e.getD (s + j) (0, 0) := by
    unfold sub
    simp only [List.getD, List.getElem?_take, List.getElem?_drop]
    rw [if_pos hj]
  rw [hg, show off + s * 2 + j * 2 = off + (s + j) * 2 by omega]
  exact hc (s + j) (by omega)
theorem parts_pure {S : Sc} {e : List (Int × Int)} {x : Int} (h : kindF S e = (x, 0)) : e.length ≤ 24 ∧ 0 < e.length ∧ ∃ l, spansF e = some l ∧ l.length = e.length ∧ l.getD (e.length - 1) 0 = 0 ∧
    ∀ i, i < e.length → ∃ (s : Nat) (y : Int), l.getD i 0 = s ∧ s ≤ i ∧ kindF S (sub e s i) = (y, 0) ∧ ∃ l', spansF (sub e s i) = some l' ∧ l'.length = i + 1 - s ∧ l'.getD 0 0 = 0 := by
  unfold kindF at h
  split at h
  · cases h
  · next h24 =>
    obtain ⟨x', hx⟩ := runSt_of_runF (show (runF (fun _ => nodeK S) 12 0 e []).2 = 0 by rw [h])
    obtain ⟨l, h1, h2, h3, h4, h5, h6⟩ := spans_of_run hx
    refine ⟨by omega, h3, l, h1, h2, h4, fun i hi => ?_⟩
    obtain ⟨s, y, p1, p2, p3⟩ := h6 i hi
    have hsl := sub_len p2 hi
    obtain ⟨l', g1, g2, g3, g4, g5, _⟩ := spans_of_run (show runSt (nodeK S) 12 (sub e s i) [] = some [y] from p3)
    refine ⟨s, y, p1, p2, ?_, l', g1, g2.trans hsl, g5⟩
    unfold kindF
    rw [if_neg (by omega)]
    exact runF_of_runSt p3

theorem n64_of {e : List (Int × Int)} (h : ∀ z ∈ e, (Lit.int .i64 z.1).wf = true ∧ (Lit.int .i64 z.2).wf = true) : N64 e := fun z hz => by
  have h2 := (h z hz).2
  have e2 : IntKind.i64.min = -9223372036854775808 := rfl
  simpa [Lit.wf, e2] using h2

set_option maxRecDepth 20000 in
theorem sub_run (b off m c s k : Nat) (h1 : s ≤ k) (h2 : k < c) (W : World) : (Instr.sliceAt 22 (.slice (some ⟨b, off, none⟩) m c) (some (.int .i64 (s : Int))) (some (.int .i64 ((k : Int) + 1))) none).run Try.prog W = .ok (.slice (some ⟨b, off + s * 2, none⟩) (k + 1 - s) (c - s)) W := by
  have hsz : (sizeOf (Try.prog.elem 22)).run Try.prog W = .ok 2 W := by simp [go_sem]
  rw [run_sliceAt_slice (P := Try.prog) W 22 _ _ _ _ Try.underlying22, run_slice_lh (P := Try.prog) W 22 (some ⟨b, off, none⟩) m c Try.underlying22 .i64 .i64 (s : Int) ((k : Int) + 1) (by omega) (by omega) (by omega), hsz]
  have e1 : ((k : Int) + 1).toNat = k + 1 := by omega
  have e2 : ¬ c = s := by omega
  simp [Result.andThen, sliced, Addr.add, e1, e2]

set_option maxRecDepth 20000 in
set_option maxHeartbeats 4000000 in
theorem walk (A : Option Addr) (c : Nat) (e : List (Int × Int)) (X : ScX) (S : Sc) (w : World) (hc : e.length ≤ c) (hA : PA w A e) (hN : N64 e) (h : SR w X S) : Calls Try.prog 7 #[.slice A e.length c, X.v] w (LawPost w) := by
  have HA := Lib.hid hA
  have HN := Lib.hid hN
  have HS := Lib.hid h
  obtain ⟨m, HM⟩ : ∃ m, Hid (m = e.length) := ⟨_, Lib.hid rfl⟩
  rw [← HM.out] at hc ⊢
  obtain ⟨r1, r2, HR⟩ : ∃ r1 r2, Hid (kindF S e = (r1, r2)) := ⟨_, _, Lib.hid rfl⟩
  clear hA hN h
  unfold ScX.v
  go_enter Try.func7, Try.ntmps7
  go_wp2_with fail
  refine (kind_any X S e A c m _ (HS.out.below (below_alloc1 _ _)) HM.out (HA.out.below (below_alloc1 _ _)) HN.out).mono ?_
  rw [HR.out]
  rintro x w1 ⟨rfl, hb1⟩
  have HB1 : Hid (Below w.heap.size w w1) := Lib.hid (bthen (below_alloc1 _ _) hb1)
  have HX1 := Lib.hid ((Bx.new w X 28).below hb1)
  clear hb1
  by_cases hr : r2 = 0
  · subst hr
    obtain ⟨h24, hpos, l, hl1, hl2, hl3, hl4⟩ := parts_pure HR.out
    have HL1 := Lib.hid hl1
    have HL2 := Lib.hid hl2
    have HL3 := Lib.hid hl3
    have HL4 := Lib.hid hl4
    have hm24 : m ≤ 24 := by rw [HM.out]; exact h24
    have hm0 : 0 < m := by rw [HM.out]; exact hpos
    clear hl1 hl2 hl3 hl4 h24 hpos
    obtain ⟨ba, oa, rfl, hba, _⟩ := HA.out (by rw [← HM.out]; exact hm0)
    go_wp2_with fail
    refine (spans_any e _ c m w1 HM.out (by omega) (HA.out.below HB1.out)).mono ?_
    rw [HL1.out]
    rintro x w2 ⟨hb2, A1, c1, rfl, i1⟩
    have HLM : Hid (l.length = m) := Lib.hid (by rw [HL2.out, HM.out])
    rw [HLM.out]
    have HB2 : Hid (Below w.heap.size w w2) := Lib.hid (HB1.out.trans (hb2.mono HB1.out.size))
    have HX2 := Lib.hid (HX1.out.below hb2)
    have HI := Lib.hid i1.ia
    obtain ⟨bl, ol, rfl, hbl, hcl⟩ := i1.ia (by rw [HLM.out]; exact hm0)
    have hlast := hcl (m - 1) (by rw [HLM.out]; omega)
    rw [show l.getD (m - 1) 0 = 0 by rw [HM.out]; exact HL3.out] at hlast
    have q1 : IntKind.i64.wrap ((m : Int) - 1) = ((m - 1 : Nat) : Int) := (IntWalk.i64_in _ (by omega)).trans (by omega)
    clear hb2 i1 hcl
    go_wp2
    go_loopw [48] (fun i wr => ∃ k : Nat, k ≤ m ∧ i = .int .i64 k ∧ Hid (Below w2.heap.size w2 wr)) (fun i _ => m - (intOf i).toNat)
    case atStart => exact ⟨0, Nat.zero_le _, rfl, Lib.hid (Below.refl _ _)⟩
    case round =>
      obtain ⟨k, hk, rfl, HW⟩ := hrel
      have HWW : Hid (Below w.heap.size w wr) := Lib.hid (HB2.out.trans (HW.out.mono HB2.out.size))
      by_cases hlt : k < m
      · obtain ⟨s, y, hs1, hs2, hs3, l', hp1, hp2, hp3⟩ := HL4.out k (by rw [← HM.out]; exact hlt)
        have HS1 := Lib.hid hs1
        have HS3 := Lib.hid hs3
        have HP1 := Lib.hid hp1
        have HP2 := Lib.hid hp2
        have HP3 := Lib.hid hp3
        have cl : wr.cell? ⟨bl, ol + k, none⟩ = some (.int .i64 (s : Int)) := by
          obtain ⟨bl', ol', e1, hb', hc'⟩ := HI.out (by rw [HLM.out]; exact hm0)
          injection e1 with e1
          injection e1 with e1 e2
          subst e1 e2
          rw [← hs1]
          exact (HW.out.cell (p := ⟨bl, ol + k, none⟩) hb').trans (hc' k (by rw [HLM.out]; exact hlt))
        clear hs1 hs3 hp1 hp2 hp3
        have HKE : Hid (k < e.length) := Lib.hid (by rw [← HM.out]; exact hlt)
        have HCL : Hid (∀ W, Below wr.heap.size wr W → Calls Try.prog 15 #[.slice (some ⟨ba, oa + s * 2, none⟩) (k + 1 - s) (c - s), X.v] W (PairP W (y, 0))) := Lib.hid (fun W hb => by
          have h1 := kind_any X S (sub e s k) (some ⟨ba, oa + s * 2, none⟩) (c - s) (k + 1 - s) W ((HS.out.below HWW.out).below hb) (sub_len hs2 HKE.out).symm (sub_pa ((HA.out.below HWW.out).below hb) hs2 HKE.out) (sub_n64 HN.out)
          rw [HS3.out] at h1
          exact h1)
        obtain ⟨⟨x0, x1, x2, x3, x4, x5⟩, hbz⟩ := HX2.out.below HW.out
        have EH := sub_run ba oa m c s k hs2 (by omega)
        have q5 : IntKind.i64.wrap ((k : Int) + 1) = (k : Int) + 1 := IntWalk.i64_in _ (by omega)
        have hblr : bl < wr.heap.size := Nat.lt_of_lt_of_le hbl HW.out.size
        go_upto_region 12 with (fail)
        go_region_held3 (fun w' => w'.cell? ⟨w.heap.size, 0, none⟩ = some (.slice X.a1 X.n1 X.c1) ∧ w'.cell? ⟨w.heap.size, 1, none⟩ = some (.slice X.a2 X.n2 X.c2) ∧ w'.cell? ⟨w.heap.size, 2, none⟩ = some (.slice X.a3 X.n3 X.c3) ∧ w'.cell? ⟨w.heap.size, 3, none⟩ = some (.slice X.a4 X.n4 X.c4) ∧ w'.cell? ⟨w.heap.size, 4, none⟩ = some (.slice X.a5 X.n5 X.c5) ∧ w'.cell? ⟨w.heap.size, 5, none⟩ = some (.int .i64 X.self) ∧ w'.cell? ⟨bl, ol + k, none⟩ = some (.int .i64 (s : Int)))
          (first | exact ⟨x0, x1, x2, x3, x4, x5, cl⟩ | exact ⟨g0, g1, g2, g3, g4, g5, g6⟩ | go_keep)
          ((go_at_call 15; refine (HCL.out wr.drew (Below.refl _ wr).drew).mono ?_; rintro x v3 ⟨rfl, hb4⟩; have g0 := (hb4.cell (p := ⟨w.heap.size, 0, none⟩) hbz).trans x0; have g1 := (hb4.cell (p := ⟨w.heap.size, 1, none⟩) hbz).trans x1; have g2 := (hb4.cell (p := ⟨w.heap.size, 2, none⟩) hbz).trans x2; have g3 := (hb4.cell (p := ⟨w.heap.size, 3, none⟩) hbz).trans x3; have g4 := (hb4.cell (p := ⟨w.heap.size, 4, none⟩) hbz).trans x4; have g5 := (hb4.cell (p := ⟨w.heap.size, 5, none⟩) hbz).trans x5; have g6 := (hb4.cell (p := ⟨bl, ol + k, none⟩) hblr).trans cl; have HBV : Hid (Below wr.heap.size wr v3) := Lib.hid ((Below.refl wr.heap.size wr).drew.trans hb4); clear hb4))
        clear x0 x1 x2 x3 x4 x5 g0 g1 g2 g3 g4 g5 g6 cl
        have HBW : Hid (Below w.heap.size w v3) := Lib.hid (bthen HWW.out HBV.out)
        have HB2W : Hid (Below w2.heap.size w2 v3) := Lib.hid (bthen HW.out HBV.out)
        have cl : v3.cell? ⟨bl, ol + k, none⟩ = some (.int .i64 (s : Int)) := by
          obtain ⟨bl', ol', e1, hb', hc'⟩ := HI.out (by rw [HLM.out]; exact hm0)
          injection e1 with e1
          injection e1 with e1 e2
          subst e1 e2
          rw [← HS1.out]
          exact (HB2W.out.cell (p := ⟨bl, ol + k, none⟩) hb').trans (hc' k (by rw [HLM.out]; exact hlt))
        go_wp2_with fail
        refine (spans_any (sub e s k) (some ⟨ba, oa + s * 2, none⟩) (c - s) (k + 1 - s) v3 (sub_len hs2 HKE.out).symm (by omega) (sub_pa (HA.out.below HBW.out) hs2 HKE.out)).mono ?_
        rw [HP1.out]
        rintro x v4 ⟨hb5, A5, c5, rfl, i5⟩
        rw [HP2.out]
        have HB5 : Hid (Below w2.heap.size w2 v4) := Lib.hid (bthen HB2W.out hb5)
        obtain ⟨b5, o5, rfl, hbb, hcc⟩ := i5.ia (by rw [HP2.out]; omega)
        have c0 := hcc 0 (by rw [HP2.out]; omega)
        rw [HP3.out, Nat.add_zero] at c0
        have hpl : 0 < k + 1 - s := by omega
        clear hb5 i5 hcc cl
        go_wp2
        go_roundw
        case rel => exact ⟨k + 1, by omega, by go_num, HB5⟩
        case measure => simp [intOf]; omega
      · obtain rfl : k = m := by omega
        go_wp2_with fail
        refine (lives_any wr).mono ?_
        rintro x w3 ⟨rfl, hb3⟩
        have HB3 : Hid (Below w.heap.size w w3) := Lib.hid (bthen HWW.out hb3)
        clear hb3
        go_wp2
        go_ret
        exact ⟨rfl, HB3.out⟩
  · have hne : (r2 != 0) = true := by simpa using hr
    go_wp2_with fail
    refine (lives_any w1).mono ?_
    rintro x w2 ⟨rfl, hb2⟩
    have HB2 : Hid (Below w.heap.size w w2) := Lib.hid (bthen HB1.out hb2)
    clear hb2
    go_wp2
    go_ret
    exact ⟨rfl, HB2.out⟩

set_option maxRecDepth 100000 in
theorem lifted (os : Os) (started : os.Started) (H : Type) (enc : TypeId × Value → H) :
    ReturnsInHanded {} Try.checked os 7 .any (Rows.exprPartsSpec.pre6 enc Try.prog Try.f7 Rows.exprPartsRow.domain false) (Rows.exprPartsSpec.post enc Try.prog Try.f7 false true false false) := by
  refine law_lifted started [22, 28] rfl (by kernel_rfl) Try.func7 rfl (by decide +kernel) rfl (fun ds hl => by
    match ds, hl with
    | [_, _], _ => rfl) (ChangeSpec.witness6 (enc := enc) (C := Try.checked) false ⟨#[], #[.slice none 0 0, .agg #[.slice none 0 0, .slice none 0 0, .slice none 0 0, .slice none 0 0, .slice none 0 0, .int .i64 0]], []⟩ 8 (by kernel_rfl) (by kernel_rfl) (by kernel_rfl) (by kernel_rfl)) ?_
  intro W base args ds ps hval hA hlt hsz
  obtain ⟨v0, vs0, d0, ds0, p0, q0, hargs, rfl, rfl, h0, r0⟩ := trodAll_cons hA
  obtain ⟨v1, vs1, d1, ds1, p1, q1, rfl, rfl, rfl, h1, r1⟩ := trodAll_cons r0
  obtain ⟨rfl, rfl, rfl⟩ := trodAll_nil r1
  obtain rfl : args = #[v0, v1] := by cases args; simp_all
  obtain ⟨A0, c0, x0, rfl, b0, q0, m0, i0, z0⟩ := open_pairs_arg Try.underlying22 Try.underlying77 (by kernel_rfl) (by kernel_rfl) rfl rfl rfl rfl (hval 0 22 v0 rfl rfl) h0 hsz 0 rfl rfl
  obtain ⟨X1, S1, rfl, f1⟩ := open_scope_arg (hval 1 28 v1 rfl rfl) h1 hsz 1 rfl rfl
  exact walk A0 c0 x0 X1 S1 W q0 i0 (n64_of z0) f1

set_option maxRecDepth 100000 in
theorem over : Rows.exprPartsRow.holds Try.pinned (OpenSpec.ofChange Rows.exprPartsSpec) :=
  OpenClaim.holds_of_wide 7 Try.f7 rfl rfl rfl rfl rfl rfl rfl ⟨rfl, rfl, rfl, rfl, rfl⟩ rfl rfl rfl rfl rfl (by kernel_rfl) Try.func7 (by kernel_rfl)
    (of_decide_eq_true (by kernel_rfl)) (by unfold Func.isWrapper; first | (rw [if_pos (by decide +kernel)]; kernel_rfl) | (rw [if_neg (by decide +kernel)]; exact ⟨rfl, rfl⟩))
    (fun os started H enc _ => lifted os started H enc)

theorem proved : Rows.ExprPartsSaid := over
#print axioms proved
end Go.Proofs.Ytjciamefkacchaa.exprParts
