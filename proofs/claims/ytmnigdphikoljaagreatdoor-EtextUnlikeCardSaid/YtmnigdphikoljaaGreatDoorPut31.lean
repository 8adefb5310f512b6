/- Contracts that the claim stands on, several texts in one: EtRPart. -/
import Derived.Test.YtmnigdphikoljaaGreatDoorPut1
import Derived.Test.YtmnigdphikoljaaGreatDoorPut2
import Derived.Test.YtmnigdphikoljaaGreatDoorPut3
import Derived.Test.YtmnigdphikoljaaGreatDoorPut4
import Derived.Test.YtmnigdphikoljaaGreatDoorPut5
import Derived.Test.YtmnigdphikoljaaGreatDoorPut6
import Derived.Test.YtmnigdphikoljaaGreatDoorPut7
import Derived.Test.YtmnigdphikoljaaGreatDoorPut8
import Derived.Test.YtmnigdphikoljaaGreatDoorPut9
import Derived.Test.YtmnigdphikoljaaGreatDoorPut10
import Derived.Test.YtmnigdphikoljaaGreatDoorPut11
import Derived.Test.YtmnigdphikoljaaGreatDoorPut12
import Derived.Test.YtmnigdphikoljaaGreatDoorPut13
import Derived.Test.YtmnigdphikoljaaGreatDoorPut14
import Derived.Test.YtmnigdphikoljaaGreatDoorPut15
import Derived.Test.YtmnigdphikoljaaGreatDoorPut16
import Derived.Test.YtmnigdphikoljaaGreatDoorPut17
import Derived.Test.YtmnigdphikoljaaGreatDoorPut18
import Derived.Test.YtmnigdphikoljaaGreatDoorPut19
import Derived.Test.YtmnigdphikoljaaGreatDoorPut20
import Derived.Test.YtmnigdphikoljaaGreatDoorPut21
import Derived.Test.YtmnigdphikoljaaGreatDoorPut22
import Derived.Test.YtmnigdphikoljaaGreatDoorPut23
import Derived.Test.YtmnigdphikoljaaGreatDoorPut24
import Derived.Test.YtmnigdphikoljaaGreatDoorPut25
import Derived.Test.YtmnigdphikoljaaGreatDoorPut26
import Derived.Test.YtmnigdphikoljaaGreatDoorPut27
import Derived.Test.YtmnigdphikoljaaGreatDoorPut28
import Derived.Test.YtmnigdphikoljaaGreatDoorPut29
import Derived.Test.YtmnigdphikoljaaGreatDoorPut30
namespace Go.Proofs.YtmnigdphikoljaaGreatDoor.et
open Go.ChangeShapes Go.WideShapes Go.ChangeAt Go.RowKit Go.Deep

/-- What the document's part finds: nodes, their beginnings, a scope. -/
structure RpW (F : Wr) (w : World) : Prop where
  n : F.n = F.e.length
  pa : PA w F.A F.e
  nm : NmR w F.X F.N
  sp : spansF F.e = some F.B
  lb : F.B.length = F.e.length
  ln : F.e.length ≤ 1000
  lens : ∀ op l, nmOf F.N op = some l → l.length ≤ 1000000
theorem RpW.below {F : Wr} {w w' : World} (h : RpW F w) (k : Below w.heap.size w w') : RpW F w' := ⟨h.n, h.pa.below k, h.nm.below k, h.sp, h.lb, h.ln, h.lens⟩
/-- The document's part writes t at node k. -/
def RpK (F : Wr) (k : Nat) (t : ByteArray) : Prop := ∀ w, RpW F w → Calls Tryz.prog 24 #[.slice F.A F.n F.c, F.X.v, .int .i64 (k : Nat)] w fun e w' => e = .returned (.string t) ∧ Below w.heap.size w w'
theorem rn_name {N : Nm} {nd : Int × Int} {l : List ByteArray} (h : nmOf N nd.1 = some l) : (rnB N nd).1 = nameB N nd := by
  unfold rnB nameB nameOf
  rw [h]
  rfl
theorem if_iff {p q : Prop} [Decidable p] [Decidable q] (h : p ↔ q) (x y : ByteArray) : (if p then x else y) = if q then x else y := by
  by_cases hp : p
  · rw [if_pos hp, if_pos (h.1 hp)]
  · rw [if_neg hp, if_neg (fun hq => hp (h.2 hq))]
theorem dec_bnd {p : Prop} [Decidable p] (t : ByteArray) : (if decide p = true then brB t else t) = if p then brB t else t := by
  by_cases h : p <;> simp [h]
set_option maxRecDepth 20000 in
set_option maxHeartbeats 4000000 in
theorem rp1 (F : Wr) (k : Nat) (n : Int) (hk : k < F.e.length) (hnd : F.e.getD (k) (0, 0) = (1, n)) (ht : There F.N (1, n)) (hs : (nameB F.N (1, n)).size ≤ 1000) (h0 : -9223372036854775808 ≤ n) (h9 : n ≤ 9223372036854775807) :
    RpK F (k) (dS n) := by
  intro w h
  have hb1 := below_alloc1 w (.cells #[.slice F.X.a1 F.X.n1 F.X.c1, .slice F.X.a2 F.X.n2 F.X.c2, .slice F.X.a3 F.X.n3 F.X.c3, .slice F.X.a4 F.X.n4 F.X.c4, .slice F.X.a5 F.X.n5 F.X.c5, .int .i64 F.X.self] 28)
  have H1 := Lib.hid (h.below hb1)
  have HBX1 : Hid (Bx (w.alloc (.cells #[.slice F.X.a1 F.X.n1 F.X.c1, .slice F.X.a2 F.X.n2 F.X.c2, .slice F.X.a3 F.X.n3 F.X.c3, .slice F.X.a4 F.X.n4 F.X.c4, .slice F.X.a5 F.X.n5 F.X.c5, .int .i64 F.X.self] 28)) w.heap.size F.X) := Lib.hid (Bx.new w F.X 28)
  have HB1 := Lib.hid hb1
  have hkn : (k : Int) < (F.n : Int) := by rw [h.n]; omega
  have hk0 : (0 : Int) ≤ (k : Int) := by omega
  have hk00 : (0 : Int) ≤ (k : Int) := by omega
  have hk9 : (k : Int) ≤ 1000000 := by have := h.ln; omega
  have HTH := Lib.hid ht
  have HN0 := Lib.hid h0
  have HN9 := Lib.hid h9
  have HSZ := Lib.hid hs
  obtain ⟨nm, hr1⟩ : ∃ x, (rnB F.N (1, n)).1 = x := ⟨_, rfl⟩
  obtain ⟨isn, hr2⟩ : ∃ x, (rnB F.N (1, n)).2 = x := ⟨_, rfl⟩
  have HR1 := Lib.hid hr1
  have HR2 := Lib.hid hr2
  clear h hb1 ht h0 h9 hs hr1 hr2
  obtain ⟨ba, oa, hA, hba, hc⟩ := H1.out.pa (by omega)
  obtain ⟨d0, d1⟩ := hc (k) hk
  rw [hnd] at d0 d1
  dsimp only at d0 d1
  clear hc
  unfold ScX.v
  rw [hA, show ((k : Nat) : Int) = (k : Int) from rfl]
  go_enter Tryz.func24, Tryz.ntmps24
  go_upto_region 1 with (fail)
  generalize hgn : w.heap.size = g at *
  generalize w.alloc (.cells #[.slice F.X.a1 F.X.n1 F.X.c1, .slice F.X.a2 F.X.n2 F.X.c2, .slice F.X.a3 F.X.n3 F.X.c3, .slice F.X.a4 F.X.n4 F.X.c4, .slice F.X.a5 F.X.n5 F.X.c5, .int .i64 F.X.self] 28) = w1 at *
  have hb2 := below_alloc1 w1 (.cells #[.int .i64 1, .int .i64 n] 39)
  have H2 := Lib.hid (H1.out.below hb2)
  have HB2 := Lib.hid (HB1.out.trans (hb2.mono (by have := HB1.out.size; omega)))
  have HBX2 := Lib.hid (HBX1.out.below hb2)
  have HNB2 : Hid ((w1.alloc (.cells #[.int .i64 1, .int .i64 n] 39)).heap[w1.heap.size]? = some (.cells #[.int .i64 1, .int .i64 n] 39 (0, 0))) := Lib.hid (World.alloc_heap_new w1 _)
  go_upto_region 2 with (fail)
  clear d0 d1 hb2
  generalize hpn : w1.heap.size = pb at *
  generalize w1.alloc (.cells #[.int .i64 1, .int .i64 n] 39) = w2 at *
  obtain ⟨⟨x0, x1, x2, x3, x4, x5⟩, _⟩ := HBX2.out
  have y0 : w2.cell? ⟨pb, 0, none⟩ = some (.int .i64 1) := cell_of_heap HNB2.out rfl
  have y1 : w2.cell? ⟨pb, 1, none⟩ = some (.int .i64 n) := cell_of_heap HNB2.out rfl
  have HNC := refNm_any F.X F.N (1, n) w2 H2.out.nm HTH.out H2.out.lens
  unfold RnP at HNC
  rw [HR1.out, HR2.out] at HNC
  unfold ScX.v at HNC
  have HNC := Lib.hid HNC
  go_wp2_with fail
  refine HNC.out.mono ?_
  rintro e w3 ⟨rfl, hb3⟩
  have H3 := Lib.hid (H2.out.below hb3)
  have HB3 := Lib.hid (HB2.out.trans (hb3.mono (by have := HB2.out.size; omega)))
  have HBX3 := Lib.hid (HBX2.out.below hb3)
  have HNB3 : Hid (w3.heap[pb]? = some (.cells #[.int .i64 1, .int .i64 n] 39 (0, 0))) := Lib.hid ((hb3.block _ (Array.getElem?_eq_some_iff.1 HNB2.out).1).trans HNB2.out)
  clear x0 x1 x2 x3 x4 x5 y0 y1 hb3 HNC
  have HSC := refSpans_any F.e F.A F.c F.n w3 H3.out.n (by rw [H3.out.n]; exact H3.out.ln) H3.out.pa
  rw [H3.out.sp, hA] at HSC
  have HSC := Lib.hid HSC
  go_wp2_with fail
  refine HSC.out.mono ?_
  rintro e w4 ⟨hb4, A4, c4, rfl, hI4⟩
  have H4 := Lib.hid (H3.out.below hb4)
  have HB4 := Lib.hid (HB3.out.trans (hb4.mono (by have := HB3.out.size; omega)))
  have HBX4 := Lib.hid (HBX3.out.below hb4)
  have HNB4 : Hid (w4.heap[pb]? = some (.cells #[.int .i64 1, .int .i64 n] 39 (0, 0))) := Lib.hid ((hb4.block _ (Array.getElem?_eq_some_iff.1 HNB3.out).1).trans HNB3.out)
  have HI4 := Lib.hid hI4.ia
  clear hb4 hI4 HSC
  obtain ⟨⟨x0, x1, x2, x3, x4, x5⟩, hz5⟩ := HBX4.out
  have y0 : w4.cell? ⟨pb, 0, none⟩ = some (.int .i64 1) := cell_of_heap HNB4.out rfl
  have y1 : w4.cell? ⟨pb, 1, none⟩ = some (.int .i64 n) := cell_of_heap HNB4.out rfl
  have hzp : pb < w4.heap.size := (Array.getElem?_eq_some_iff.1 HNB4.out).1
  rw [← hgn]
  go_wp2_with fail
  refine (refDecimal_any n w4 (by have := HN0.out; omega) (by have := HN9.out; omega)).mono ?_
  rintro e w5 ⟨rfl, hb5⟩
  have HB5 := Lib.hid (HB4.out.trans (hb5.mono (by have := HB4.out.size; omega)))
  clear hb5
  go_wp2
  go_ret
  exact ⟨rfl, by rw [hgn]; exact HB5.out⟩
set_option maxRecDepth 20000 in
set_option maxHeartbeats 4000000 in
theorem rp2 (F : Wr) (k : Nat) (n : Int) (hk : k < F.e.length) (hnd : F.e.getD (k) (0, 0) = (2, n)) (ht : There F.N (2, n)) (hs : (nameB F.N (2, n)).size ≤ 1000) (h0 : -9223372036854775808 ≤ n) (h9 : n ≤ 9223372036854775807) :
    RpK F (k) (nameB F.N (2, n)) := by
  intro w h
  have hb1 := below_alloc1 w (.cells #[.slice F.X.a1 F.X.n1 F.X.c1, .slice F.X.a2 F.X.n2 F.X.c2, .slice F.X.a3 F.X.n3 F.X.c3, .slice F.X.a4 F.X.n4 F.X.c4, .slice F.X.a5 F.X.n5 F.X.c5, .int .i64 F.X.self] 28)
  have H1 := Lib.hid (h.below hb1)
  have HBX1 : Hid (Bx (w.alloc (.cells #[.slice F.X.a1 F.X.n1 F.X.c1, .slice F.X.a2 F.X.n2 F.X.c2, .slice F.X.a3 F.X.n3 F.X.c3, .slice F.X.a4 F.X.n4 F.X.c4, .slice F.X.a5 F.X.n5 F.X.c5, .int .i64 F.X.self] 28)) w.heap.size F.X) := Lib.hid (Bx.new w F.X 28)
  have HB1 := Lib.hid hb1
  have hkn : (k : Int) < (F.n : Int) := by rw [h.n]; omega
  have hk0 : (0 : Int) ≤ (k : Int) := by omega
  have hk00 : (0 : Int) ≤ (k : Int) := by omega
  have hk9 : (k : Int) ≤ 1000000 := by have := h.ln; omega
  have HTH := Lib.hid ht
  have HN0 := Lib.hid h0
  have HN9 := Lib.hid h9
  have HSZ := Lib.hid hs
  obtain ⟨nm, HNM⟩ : ∃ x, Hid (nameB F.N (2, n) = x) := ⟨_, Lib.hid rfl⟩
  rw [HNM.out] at HSZ
  have hr1 : (rnB F.N (2, n)).1 = nm := (rn_name (l := F.N.vars) rfl).trans HNM.out
  obtain ⟨isn, hr2⟩ : ∃ x, (rnB F.N (2, n)).2 = x := ⟨_, rfl⟩
  have HR1 := Lib.hid hr1
  have HR2 := Lib.hid hr2
  clear h hb1 ht h0 h9 hs hr1 hr2
  obtain ⟨ba, oa, hA, hba, hc⟩ := H1.out.pa (by omega)
  obtain ⟨d0, d1⟩ := hc (k) hk
  rw [hnd] at d0 d1
  dsimp only at d0 d1
  clear hc
  unfold ScX.v
  rw [hA, show ((k : Nat) : Int) = (k : Int) from rfl]
  go_enter Tryz.func24, Tryz.ntmps24
  go_upto_region 1 with (fail)
  generalize hgn : w.heap.size = g at *
  generalize w.alloc (.cells #[.slice F.X.a1 F.X.n1 F.X.c1, .slice F.X.a2 F.X.n2 F.X.c2, .slice F.X.a3 F.X.n3 F.X.c3, .slice F.X.a4 F.X.n4 F.X.c4, .slice F.X.a5 F.X.n5 F.X.c5, .int .i64 F.X.self] 28) = w1 at *
  have hb2 := below_alloc1 w1 (.cells #[.int .i64 2, .int .i64 n] 39)
  have H2 := Lib.hid (H1.out.below hb2)
  have HB2 := Lib.hid (HB1.out.trans (hb2.mono (by have := HB1.out.size; omega)))
  have HBX2 := Lib.hid (HBX1.out.below hb2)
  have HNB2 : Hid ((w1.alloc (.cells #[.int .i64 2, .int .i64 n] 39)).heap[w1.heap.size]? = some (.cells #[.int .i64 2, .int .i64 n] 39 (0, 0))) := Lib.hid (World.alloc_heap_new w1 _)
  go_upto_region 2 with (fail)
  clear d0 d1 hb2
  generalize hpn : w1.heap.size = pb at *
  generalize w1.alloc (.cells #[.int .i64 2, .int .i64 n] 39) = w2 at *
  obtain ⟨⟨x0, x1, x2, x3, x4, x5⟩, _⟩ := HBX2.out
  have y0 : w2.cell? ⟨pb, 0, none⟩ = some (.int .i64 2) := cell_of_heap HNB2.out rfl
  have y1 : w2.cell? ⟨pb, 1, none⟩ = some (.int .i64 n) := cell_of_heap HNB2.out rfl
  have HNC := refNm_any F.X F.N (2, n) w2 H2.out.nm HTH.out H2.out.lens
  unfold RnP at HNC
  rw [HR1.out, HR2.out] at HNC
  unfold ScX.v at HNC
  have HNC := Lib.hid HNC
  go_wp2_with fail
  refine HNC.out.mono ?_
  rintro e w3 ⟨rfl, hb3⟩
  have H3 := Lib.hid (H2.out.below hb3)
  have HB3 := Lib.hid (HB2.out.trans (hb3.mono (by have := HB2.out.size; omega)))
  have HBX3 := Lib.hid (HBX2.out.below hb3)
  have HNB3 : Hid (w3.heap[pb]? = some (.cells #[.int .i64 2, .int .i64 n] 39 (0, 0))) := Lib.hid ((hb3.block _ (Array.getElem?_eq_some_iff.1 HNB2.out).1).trans HNB2.out)
  clear x0 x1 x2 x3 x4 x5 y0 y1 hb3 HNC
  have HSC := refSpans_any F.e F.A F.c F.n w3 H3.out.n (by rw [H3.out.n]; exact H3.out.ln) H3.out.pa
  rw [H3.out.sp, hA] at HSC
  have HSC := Lib.hid HSC
  go_wp2_with fail
  refine HSC.out.mono ?_
  rintro e w4 ⟨hb4, A4, c4, rfl, hI4⟩
  have H4 := Lib.hid (H3.out.below hb4)
  have HB4 := Lib.hid (HB3.out.trans (hb4.mono (by have := HB3.out.size; omega)))
  have HBX4 := Lib.hid (HBX3.out.below hb4)
  have HNB4 : Hid (w4.heap[pb]? = some (.cells #[.int .i64 2, .int .i64 n] 39 (0, 0))) := Lib.hid ((hb4.block _ (Array.getElem?_eq_some_iff.1 HNB3.out).1).trans HNB3.out)
  have HI4 := Lib.hid hI4.ia
  clear hb4 hI4 HSC
  obtain ⟨⟨x0, x1, x2, x3, x4, x5⟩, hz5⟩ := HBX4.out
  have y0 : w4.cell? ⟨pb, 0, none⟩ = some (.int .i64 2) := cell_of_heap HNB4.out rfl
  have y1 : w4.cell? ⟨pb, 1, none⟩ = some (.int .i64 n) := cell_of_heap HNB4.out rfl
  have hzp : pb < w4.heap.size := (Array.getElem?_eq_some_iff.1 HNB4.out).1
  rw [← hgn]
  have HE : Hid (nameB F.N (2, n) = nm) := Lib.hid HNM.out
  go_wp2
  go_ret
  exact ⟨by rw [HE.out]; rfl, by rw [hgn]; exact HB4.out⟩
set_option maxRecDepth 20000 in
set_option maxHeartbeats 4000000 in
theorem rp4 (F : Wr) (k : Nat) (n : Int) (hk : k < F.e.length) (hnd : F.e.getD (k) (0, 0) = (4, n)) (ht : There F.N (4, n)) (hs : (nameB F.N (4, n)).size ≤ 1000) (h0 : -9223372036854775808 ≤ n) (h9 : n ≤ 9223372036854775807) :
    RpK F (k) (nameB F.N (4, n)) := by
  intro w h
  have hb1 := below_alloc1 w (.cells #[.slice F.X.a1 F.X.n1 F.X.c1, .slice F.X.a2 F.X.n2 F.X.c2, .slice F.X.a3 F.X.n3 F.X.c3, .slice F.X.a4 F.X.n4 F.X.c4, .slice F.X.a5 F.X.n5 F.X.c5, .int .i64 F.X.self] 28)
  have H1 := Lib.hid (h.below hb1)
  have HBX1 : Hid (Bx (w.alloc (.cells #[.slice F.X.a1 F.X.n1 F.X.c1, .slice F.X.a2 F.X.n2 F.X.c2, .slice F.X.a3 F.X.n3 F.X.c3, .slice F.X.a4 F.X.n4 F.X.c4, .slice F.X.a5 F.X.n5 F.X.c5, .int .i64 F.X.self] 28)) w.heap.size F.X) := Lib.hid (Bx.new w F.X 28)
  have HB1 := Lib.hid hb1
  have hkn : (k : Int) < (F.n : Int) := by rw [h.n]; omega
  have hk0 : (0 : Int) ≤ (k : Int) := by omega
  have hk00 : (0 : Int) ≤ (k : Int) := by omega
  have hk9 : (k : Int) ≤ 1000000 := by have := h.ln; omega
  have HTH := Lib.hid ht
  have HN0 := Lib.hid h0
  have HN9 := Lib.hid h9
  have HSZ := Lib.hid hs
  obtain ⟨nm, HNM⟩ : ∃ x, Hid (nameB F.N (4, n) = x) := ⟨_, Lib.hid rfl⟩
  rw [HNM.out] at HSZ
  have hr1 : (rnB F.N (4, n)).1 = nm := (rn_name (l := F.N.locals) rfl).trans HNM.out
  obtain ⟨isn, hr2⟩ : ∃ x, (rnB F.N (4, n)).2 = x := ⟨_, rfl⟩
  have HR1 := Lib.hid hr1
  have HR2 := Lib.hid hr2
  clear h hb1 ht h0 h9 hs hr1 hr2
  obtain ⟨ba, oa, hA, hba, hc⟩ := H1.out.pa (by omega)
  obtain ⟨d0, d1⟩ := hc (k) hk
  rw [hnd] at d0 d1
  dsimp only at d0 d1
  clear hc
  unfold ScX.v
  rw [hA, show ((k : Nat) : Int) = (k : Int) from rfl]
  go_enter Tryz.func24, Tryz.ntmps24
  go_upto_region 1 with (fail)
  generalize hgn : w.heap.size = g at *
  generalize w.alloc (.cells #[.slice F.X.a1 F.X.n1 F.X.c1, .slice F.X.a2 F.X.n2 F.X.c2, .slice F.X.a3 F.X.n3 F.X.c3, .slice F.X.a4 F.X.n4 F.X.c4, .slice F.X.a5 F.X.n5 F.X.c5, .int .i64 F.X.self] 28) = w1 at *
  have hb2 := below_alloc1 w1 (.cells #[.int .i64 4, .int .i64 n] 39)
  have H2 := Lib.hid (H1.out.below hb2)
  have HB2 := Lib.hid (HB1.out.trans (hb2.mono (by have := HB1.out.size; omega)))
  have HBX2 := Lib.hid (HBX1.out.below hb2)
  have HNB2 : Hid ((w1.alloc (.cells #[.int .i64 4, .int .i64 n] 39)).heap[w1.heap.size]? = some (.cells #[.int .i64 4, .int .i64 n] 39 (0, 0))) := Lib.hid (World.alloc_heap_new w1 _)
  go_upto_region 2 with (fail)
  clear d0 d1 hb2
  generalize hpn : w1.heap.size = pb at *
  generalize w1.alloc (.cells #[.int .i64 4, .int .i64 n] 39) = w2 at *
  obtain ⟨⟨x0, x1, x2, x3, x4, x5⟩, _⟩ := HBX2.out
  have y0 : w2.cell? ⟨pb, 0, none⟩ = some (.int .i64 4) := cell_of_heap HNB2.out rfl
  have y1 : w2.cell? ⟨pb, 1, none⟩ = some (.int .i64 n) := cell_of_heap HNB2.out rfl
  have HNC := refNm_any F.X F.N (4, n) w2 H2.out.nm HTH.out H2.out.lens
  unfold RnP at HNC
  rw [HR1.out, HR2.out] at HNC
  unfold ScX.v at HNC
  have HNC := Lib.hid HNC
  go_wp2_with fail
  refine HNC.out.mono ?_
  rintro e w3 ⟨rfl, hb3⟩
  have H3 := Lib.hid (H2.out.below hb3)
  have HB3 := Lib.hid (HB2.out.trans (hb3.mono (by have := HB2.out.size; omega)))
  have HBX3 := Lib.hid (HBX2.out.below hb3)
  have HNB3 : Hid (w3.heap[pb]? = some (.cells #[.int .i64 4, .int .i64 n] 39 (0, 0))) := Lib.hid ((hb3.block _ (Array.getElem?_eq_some_iff.1 HNB2.out).1).trans HNB2.out)
  clear x0 x1 x2 x3 x4 x5 y0 y1 hb3 HNC
  have HSC := refSpans_any F.e F.A F.c F.n w3 H3.out.n (by rw [H3.out.n]; exact H3.out.ln) H3.out.pa
  rw [H3.out.sp, hA] at HSC
  have HSC := Lib.hid HSC
  go_wp2_with fail
  refine HSC.out.mono ?_
  rintro e w4 ⟨hb4, A4, c4, rfl, hI4⟩
  have H4 := Lib.hid (H3.out.below hb4)
  have HB4 := Lib.hid (HB3.out.trans (hb4.mono (by have := HB3.out.size; omega)))
  have HBX4 := Lib.hid (HBX3.out.below hb4)
  have HNB4 : Hid (w4.heap[pb]? = some (.cells #[.int .i64 4, .int .i64 n] 39 (0, 0))) := Lib.hid ((hb4.block _ (Array.getElem?_eq_some_iff.1 HNB3.out).1).trans HNB3.out)
  have HI4 := Lib.hid hI4.ia
  clear hb4 hI4 HSC
  obtain ⟨⟨x0, x1, x2, x3, x4, x5⟩, hz5⟩ := HBX4.out
  have y0 : w4.cell? ⟨pb, 0, none⟩ = some (.int .i64 4) := cell_of_heap HNB4.out rfl
  have y1 : w4.cell? ⟨pb, 1, none⟩ = some (.int .i64 n) := cell_of_heap HNB4.out rfl
  have hzp : pb < w4.heap.size := (Array.getElem?_eq_some_iff.1 HNB4.out).1
  rw [← hgn]
  have HE : Hid (nameB F.N (4, n) = nm) := Lib.hid HNM.out
  go_wp2
  go_ret
  exact ⟨by rw [HE.out]; rfl, by rw [hgn]; exact HB4.out⟩
set_option maxRecDepth 20000 in
set_option maxHeartbeats 4000000 in
theorem rp5 (F : Wr) (k : Nat) (n : Int) (hk : k < F.e.length) (hnd : F.e.getD (k) (0, 0) = (5, n)) (ht : There F.N (5, n)) (hs : (nameB F.N (5, n)).size ≤ 1000) (h0 : -9223372036854775808 ≤ n) (h9 : n ≤ 9223372036854775807) :
    RpK F (k) (⟨#[115, 101, 108, 102]⟩) := by
  intro w h
  have hb1 := below_alloc1 w (.cells #[.slice F.X.a1 F.X.n1 F.X.c1, .slice F.X.a2 F.X.n2 F.X.c2, .slice F.X.a3 F.X.n3 F.X.c3, .slice F.X.a4 F.X.n4 F.X.c4, .slice F.X.a5 F.X.n5 F.X.c5, .int .i64 F.X.self] 28)
  have H1 := Lib.hid (h.below hb1)
  have HBX1 : Hid (Bx (w.alloc (.cells #[.slice F.X.a1 F.X.n1 F.X.c1, .slice F.X.a2 F.X.n2 F.X.c2, .slice F.X.a3 F.X.n3 F.X.c3, .slice F.X.a4 F.X.n4 F.X.c4, .slice F.X.a5 F.X.n5 F.X.c5, .int .i64 F.X.self] 28)) w.heap.size F.X) := Lib.hid (Bx.new w F.X 28)
  have HB1 := Lib.hid hb1
  have hkn : (k : Int) < (F.n : Int) := by rw [h.n]; omega
  have hk0 : (0 : Int) ≤ (k : Int) := by omega
  have hk00 : (0 : Int) ≤ (k : Int) := by omega
  have hk9 : (k : Int) ≤ 1000000 := by have := h.ln; omega
  have HTH := Lib.hid ht
  have HN0 := Lib.hid h0
  have HN9 := Lib.hid h9
  have HSZ := Lib.hid hs
  obtain ⟨nm, hr1⟩ : ∃ x, (rnB F.N (5, n)).1 = x := ⟨_, rfl⟩
  obtain ⟨isn, hr2⟩ : ∃ x, (rnB F.N (5, n)).2 = x := ⟨_, rfl⟩
  have HR1 := Lib.hid hr1
  have HR2 := Lib.hid hr2
  clear h hb1 ht h0 h9 hs hr1 hr2
  obtain ⟨ba, oa, hA, hba, hc⟩ := H1.out.pa (by omega)
  obtain ⟨d0, d1⟩ := hc (k) hk
  rw [hnd] at d0 d1
  dsimp only at d0 d1
  clear hc
  unfold ScX.v
  rw [hA, show ((k : Nat) : Int) = (k : Int) from rfl]
  go_enter Tryz.func24, Tryz.ntmps24
  go_upto_region 1 with (fail)
  generalize hgn : w.heap.size = g at *
  generalize w.alloc (.cells #[.slice F.X.a1 F.X.n1 F.X.c1, .slice F.X.a2 F.X.n2 F.X.c2, .slice F.X.a3 F.X.n3 F.X.c3, .slice F.X.a4 F.X.n4 F.X.c4, .slice F.X.a5 F.X.n5 F.X.c5, .int .i64 F.X.self] 28) = w1 at *
  have hb2 := below_alloc1 w1 (.cells #[.int .i64 5, .int .i64 n] 39)
  have H2 := Lib.hid (H1.out.below hb2)
  have HB2 := Lib.hid (HB1.out.trans (hb2.mono (by have := HB1.out.size; omega)))
  have HBX2 := Lib.hid (HBX1.out.below hb2)
  have HNB2 : Hid ((w1.alloc (.cells #[.int .i64 5, .int .i64 n] 39)).heap[w1.heap.size]? = some (.cells #[.int .i64 5, .int .i64 n] 39 (0, 0))) := Lib.hid (World.alloc_heap_new w1 _)
  go_upto_region 2 with (fail)
  clear d0 d1 hb2
  generalize hpn : w1.heap.size = pb at *
  generalize w1.alloc (.cells #[.int .i64 5, .int .i64 n] 39) = w2 at *
  obtain ⟨⟨x0, x1, x2, x3, x4, x5⟩, _⟩ := HBX2.out
  have y0 : w2.cell? ⟨pb, 0, none⟩ = some (.int .i64 5) := cell_of_heap HNB2.out rfl
  have y1 : w2.cell? ⟨pb, 1, none⟩ = some (.int .i64 n) := cell_of_heap HNB2.out rfl
  have HNC := refNm_any F.X F.N (5, n) w2 H2.out.nm HTH.out H2.out.lens
  unfold RnP at HNC
  rw [HR1.out, HR2.out] at HNC
  unfold ScX.v at HNC
  have HNC := Lib.hid HNC
  go_wp2_with fail
  refine HNC.out.mono ?_
  rintro e w3 ⟨rfl, hb3⟩
  have H3 := Lib.hid (H2.out.below hb3)
  have HB3 := Lib.hid (HB2.out.trans (hb3.mono (by have := HB2.out.size; omega)))
  have HBX3 := Lib.hid (HBX2.out.below hb3)
  have HNB3 : Hid (w3.heap[pb]? = some (.cells #[.int .i64 5, .int .i64 n] 39 (0, 0))) := Lib.hid ((hb3.block _ (Array.getElem?_eq_some_iff.1 HNB2.out).1).trans HNB2.out)
  clear x0 x1 x2 x3 x4 x5 y0 y1 hb3 HNC
  have HSC := refSpans_any F.e F.A F.c F.n w3 H3.out.n (by rw [H3.out.n]; exact H3.out.ln) H3.out.pa
  rw [H3.out.sp, hA] at HSC
  have HSC := Lib.hid HSC
  go_wp2_with fail
  refine HSC.out.mono ?_
  rintro e w4 ⟨hb4, A4, c4, rfl, hI4⟩
  have H4 := Lib.hid (H3.out.below hb4)
  have HB4 := Lib.hid (HB3.out.trans (hb4.mono (by have := HB3.out.size; omega)))
  have HBX4 := Lib.hid (HBX3.out.below hb4)
  have HNB4 : Hid (w4.heap[pb]? = some (.cells #[.int .i64 5, .int .i64 n] 39 (0, 0))) := Lib.hid ((hb4.block _ (Array.getElem?_eq_some_iff.1 HNB3.out).1).trans HNB3.out)
  have HI4 := Lib.hid hI4.ia
  clear hb4 hI4 HSC
  obtain ⟨⟨x0, x1, x2, x3, x4, x5⟩, hz5⟩ := HBX4.out
  have y0 : w4.cell? ⟨pb, 0, none⟩ = some (.int .i64 5) := cell_of_heap HNB4.out rfl
  have y1 : w4.cell? ⟨pb, 1, none⟩ = some (.int .i64 n) := cell_of_heap HNB4.out rfl
  have hzp : pb < w4.heap.size := (Array.getElem?_eq_some_iff.1 HNB4.out).1
  rw [← hgn]
  go_wp2
  go_ret
  exact ⟨rfl, by rw [hgn]; exact HB4.out⟩
set_option maxRecDepth 20000 in
set_option maxHeartbeats 4000000 in
theorem rp6 (F : Wr) (k : Nat) (n : Int) (hk : k < F.e.length) (hnd : F.e.getD (k) (0, 0) = (6, n)) (ht : There F.N (6, n)) (hs : (nameB F.N (6, n)).size ≤ 1000) (h0 : -9223372036854775808 ≤ n) (h9 : n ≤ 9223372036854775807) :
    RpK F (k) (⟨#[108, 101, 110]⟩ ++ brB (nameB F.N (6, n))) := by
  intro w h
  have hb1 := below_alloc1 w (.cells #[.slice F.X.a1 F.X.n1 F.X.c1, .slice F.X.a2 F.X.n2 F.X.c2, .slice F.X.a3 F.X.n3 F.X.c3, .slice F.X.a4 F.X.n4 F.X.c4, .slice F.X.a5 F.X.n5 F.X.c5, .int .i64 F.X.self] 28)
  have H1 := Lib.hid (h.below hb1)
  have HBX1 : Hid (Bx (w.alloc (.cells #[.slice F.X.a1 F.X.n1 F.X.c1, .slice F.X.a2 F.X.n2 F.X.c2, .slice F.X.a3 F.X.n3 F.X.c3, .slice F.X.a4 F.X.n4 F.X.c4, .slice F.X.a5 F.X.n5 F.X.c5, .int .i64 F.X.self] 28)) w.heap.size F.X) := Lib.hid (Bx.new w F.X 28)
  have HB1 := Lib.hid hb1
  have hkn : (k : Int) < (F.n : Int) := by rw [h.n]; omega
  have hk0 : (0 : Int) ≤ (k : Int) := by omega
  have hk00 : (0 : Int) ≤ (k : Int) := by omega
  have hk9 : (k : Int) ≤ 1000000 := by have := h.ln; omega
  have HTH := Lib.hid ht
  have HN0 := Lib.hid h0
  have HN9 := Lib.hid h9
  have HSZ := Lib.hid hs
  obtain ⟨nm, HNM⟩ : ∃ x, Hid (nameB F.N (6, n) = x) := ⟨_, Lib.hid rfl⟩
  rw [HNM.out] at HSZ
  have hr1 : (rnB F.N (6, n)).1 = nm := (rn_name (l := F.N.chans) rfl).trans HNM.out
  obtain ⟨z1, h1⟩ : ∃ z, (⟨#[108, 101, 110, 40]⟩ : ByteArray) ++ nm = z := ⟨_, rfl⟩
  obtain ⟨z2, h2⟩ : ∃ z, z1 ++ (⟨#[41]⟩ : ByteArray) = z := ⟨_, rfl⟩
  have s1 : z1.size = 4 + nm.size := by rw [← h1, size_app]; rfl
  have HE : Hid ((⟨#[108, 101, 110]⟩ : ByteArray) ++ brB (nameB F.N (6, n)) = z2) := Lib.hid (by
    rw [HNM.out, ← h2, ← h1, show (⟨#[108, 101, 110, 40]⟩ : ByteArray) = ⟨#[108, 101, 110]⟩ ++ ⟨#[40]⟩ from by decide +kernel]
    unfold brB
    rw [ByteArray.append_assoc, ByteArray.append_assoc, ByteArray.append_assoc])
  have e1 := fun W => str_add (P := Tryz.prog) h1 (by have := HSZ.out; show 4 + _ ≤ _; omega) W
  have e2 := fun W => str_add (P := Tryz.prog) h2 (by have := HSZ.out; show _ + 1 ≤ _; omega) W
  clear h1 h2 s1
  obtain ⟨isn, hr2⟩ : ∃ x, (rnB F.N (6, n)).2 = x := ⟨_, rfl⟩
  have HR1 := Lib.hid hr1
  have HR2 := Lib.hid hr2
  clear h hb1 ht h0 h9 hs hr1 hr2
  obtain ⟨ba, oa, hA, hba, hc⟩ := H1.out.pa (by omega)
  obtain ⟨d0, d1⟩ := hc (k) hk
  rw [hnd] at d0 d1
  dsimp only at d0 d1
  clear hc
  unfold ScX.v
  rw [hA, show ((k : Nat) : Int) = (k : Int) from rfl]
  go_enter Tryz.func24, Tryz.ntmps24
  go_upto_region 1 with (fail)
  generalize hgn : w.heap.size = g at *
  generalize w.alloc (.cells #[.slice F.X.a1 F.X.n1 F.X.c1, .slice F.X.a2 F.X.n2 F.X.c2, .slice F.X.a3 F.X.n3 F.X.c3, .slice F.X.a4 F.X.n4 F.X.c4, .slice F.X.a5 F.X.n5 F.X.c5, .int .i64 F.X.self] 28) = w1 at *
  have hb2 := below_alloc1 w1 (.cells #[.int .i64 6, .int .i64 n] 39)
  have H2 := Lib.hid (H1.out.below hb2)
  have HB2 := Lib.hid (HB1.out.trans (hb2.mono (by have := HB1.out.size; omega)))
  have HBX2 := Lib.hid (HBX1.out.below hb2)
  have HNB2 : Hid ((w1.alloc (.cells #[.int .i64 6, .int .i64 n] 39)).heap[w1.heap.size]? = some (.cells #[.int .i64 6, .int .i64 n] 39 (0, 0))) := Lib.hid (World.alloc_heap_new w1 _)
  go_upto_region 2 with (fail)
  clear d0 d1 hb2
  generalize hpn : w1.heap.size = pb at *
  generalize w1.alloc (.cells #[.int .i64 6, .int .i64 n] 39) = w2 at *
  obtain ⟨⟨x0, x1, x2, x3, x4, x5⟩, _⟩ := HBX2.out
  have y0 : w2.cell? ⟨pb, 0, none⟩ = some (.int .i64 6) := cell_of_heap HNB2.out rfl
  have y1 : w2.cell? ⟨pb, 1, none⟩ = some (.int .i64 n) := cell_of_heap HNB2.out rfl
  have HNC := refNm_any F.X F.N (6, n) w2 H2.out.nm HTH.out H2.out.lens
  unfold RnP at HNC
  rw [HR1.out, HR2.out] at HNC
  unfold ScX.v at HNC
  have HNC := Lib.hid HNC
  go_wp2_with fail
  refine HNC.out.mono ?_
  rintro e w3 ⟨rfl, hb3⟩
  have H3 := Lib.hid (H2.out.below hb3)
  have HB3 := Lib.hid (HB2.out.trans (hb3.mono (by have := HB2.out.size; omega)))
  have HBX3 := Lib.hid (HBX2.out.below hb3)
  have HNB3 : Hid (w3.heap[pb]? = some (.cells #[.int .i64 6, .int .i64 n] 39 (0, 0))) := Lib.hid ((hb3.block _ (Array.getElem?_eq_some_iff.1 HNB2.out).1).trans HNB2.out)
  clear x0 x1 x2 x3 x4 x5 y0 y1 hb3 HNC
  have HSC := refSpans_any F.e F.A F.c F.n w3 H3.out.n (by rw [H3.out.n]; exact H3.out.ln) H3.out.pa
  rw [H3.out.sp, hA] at HSC
  have HSC := Lib.hid HSC
  go_wp2_with fail
  refine HSC.out.mono ?_
  rintro e w4 ⟨hb4, A4, c4, rfl, hI4⟩
  have H4 := Lib.hid (H3.out.below hb4)
  have HB4 := Lib.hid (HB3.out.trans (hb4.mono (by have := HB3.out.size; omega)))
  have HBX4 := Lib.hid (HBX3.out.below hb4)
  have HNB4 : Hid (w4.heap[pb]? = some (.cells #[.int .i64 6, .int .i64 n] 39 (0, 0))) := Lib.hid ((hb4.block _ (Array.getElem?_eq_some_iff.1 HNB3.out).1).trans HNB3.out)
  have HI4 := Lib.hid hI4.ia
  clear hb4 hI4 HSC
  obtain ⟨⟨x0, x1, x2, x3, x4, x5⟩, hz5⟩ := HBX4.out
  have y0 : w4.cell? ⟨pb, 0, none⟩ = some (.int .i64 6) := cell_of_heap HNB4.out rfl
  have y1 : w4.cell? ⟨pb, 1, none⟩ = some (.int .i64 n) := cell_of_heap HNB4.out rfl
  have hzp : pb < w4.heap.size := (Array.getElem?_eq_some_iff.1 HNB4.out).1
  rw [← hgn]
  go_wp2
  go_ret
  exact ⟨by rw [HE.out]; rfl, by rw [hgn]; exact HB4.out⟩
set_option maxRecDepth 20000 in
set_option maxHeartbeats 4000000 in
theorem rp8 (F : Wr) (k : Nat) (n : Int) (hk : k < F.e.length) (hnd : F.e.getD (k) (0, 0) = (8, n)) (ht : There F.N (8, n)) (hs : (nameB F.N (8, n)).size ≤ 1000) (h0 : -9223372036854775808 ≤ n) (h9 : n ≤ 9223372036854775807) :
    RpK F (k) (⟨#[110, 111, 110, 101]⟩ ++ brB (nameB F.N (8, n))) := by
  intro w h
  have hb1 := below_alloc1 w (.cells #[.slice F.X.a1 F.X.n1 F.X.c1, .slice F.X.a2 F.X.n2 F.X.c2, .slice F.X.a3 F.X.n3 F.X.c3, .slice F.X.a4 F.X.n4 F.X.c4, .slice F.X.a5 F.X.n5 F.X.c5, .int .i64 F.X.self] 28)
  have H1 := Lib.hid (h.below hb1)
  have HBX1 : Hid (Bx (w.alloc (.cells #[.slice F.X.a1 F.X.n1 F.X.c1, .slice F.X.a2 F.X.n2 F.X.c2, .slice F.X.a3 F.X.n3 F.X.c3, .slice F.X.a4 F.X.n4 F.X.c4, .slice F.X.a5 F.X.n5 F.X.c5, .int .i64 F.X.self] 28)) w.heap.size F.X) := Lib.hid (Bx.new w F.X 28)
  have HB1 := Lib.hid hb1
  have hkn : (k : Int) < (F.n : Int) := by rw [h.n]; omega
  have hk0 : (0 : Int) ≤ (k : Int) := by omega
  have hk00 : (0 : Int) ≤ (k : Int) := by omega
  have hk9 : (k : Int) ≤ 1000000 := by have := h.ln; omega
  have HTH := Lib.hid ht
  have HN0 := Lib.hid h0
  have HN9 := Lib.hid h9
  have HSZ := Lib.hid hs
  obtain ⟨nm, HNM⟩ : ∃ x, Hid (nameB F.N (8, n) = x) := ⟨_, Lib.hid rfl⟩
  rw [HNM.out] at HSZ
  have hr1 : (rnB F.N (8, n)).1 = nm := (rn_name (l := F.N.scals) rfl).trans HNM.out
  obtain ⟨z1, h1⟩ : ∃ z, (⟨#[110, 111, 110, 101, 40]⟩ : ByteArray) ++ nm = z := ⟨_, rfl⟩
  obtain ⟨z2, h2⟩ : ∃ z, z1 ++ (⟨#[41]⟩ : ByteArray) = z := ⟨_, rfl⟩
  have s1 : z1.size = 5 + nm.size := by rw [← h1, size_app]; rfl
  have HE : Hid ((⟨#[110, 111, 110, 101]⟩ : ByteArray) ++ brB (nameB F.N (8, n)) = z2) := Lib.hid (by
    rw [HNM.out, ← h2, ← h1, show (⟨#[110, 111, 110, 101, 40]⟩ : ByteArray) = ⟨#[110, 111, 110, 101]⟩ ++ ⟨#[40]⟩ from by decide +kernel]
    unfold brB
    rw [ByteArray.append_assoc, ByteArray.append_assoc, ByteArray.append_assoc])
  have e1 := fun W => str_add (P := Tryz.prog) h1 (by have := HSZ.out; show 5 + _ ≤ _; omega) W
  have e2 := fun W => str_add (P := Tryz.prog) h2 (by have := HSZ.out; show _ + 1 ≤ _; omega) W
  clear h1 h2 s1
  obtain ⟨isn, hr2⟩ : ∃ x, (rnB F.N (8, n)).2 = x := ⟨_, rfl⟩
  have HR1 := Lib.hid hr1
  have HR2 := Lib.hid hr2
  clear h hb1 ht h0 h9 hs hr1 hr2
  obtain ⟨ba, oa, hA, hba, hc⟩ := H1.out.pa (by omega)
  obtain ⟨d0, d1⟩ := hc (k) hk
  rw [hnd] at d0 d1
  dsimp only at d0 d1
  clear hc
  unfold ScX.v
  rw [hA, show ((k : Nat) : Int) = (k : Int) from rfl]
  go_enter Tryz.func24, Tryz.ntmps24
  go_upto_region 1 with (fail)
  generalize hgn : w.heap.size = g at *
  generalize w.alloc (.cells #[.slice F.X.a1 F.X.n1 F.X.c1, .slice F.X.a2 F.X.n2 F.X.c2, .slice F.X.a3 F.X.n3 F.X.c3, .slice F.X.a4 F.X.n4 F.X.c4, .slice F.X.a5 F.X.n5 F.X.c5, .int .i64 F.X.self] 28) = w1 at *
  have hb2 := below_alloc1 w1 (.cells #[.int .i64 8, .int .i64 n] 39)
  have H2 := Lib.hid (H1.out.below hb2)
  have HB2 := Lib.hid (HB1.out.trans (hb2.mono (by have := HB1.out.size; omega)))
  have HBX2 := Lib.hid (HBX1.out.below hb2)
  have HNB2 : Hid ((w1.alloc (.cells #[.int .i64 8, .int .i64 n] 39)).heap[w1.heap.size]? = some (.cells #[.int .i64 8, .int .i64 n] 39 (0, 0))) := Lib.hid (World.alloc_heap_new w1 _)
  go_upto_region 2 with (fail)
  clear d0 d1 hb2
  generalize hpn : w1.heap.size = pb at *
  generalize w1.alloc (.cells #[.int .i64 8, .int .i64 n] 39) = w2 at *
  obtain ⟨⟨x0, x1, x2, x3, x4, x5⟩, _⟩ := HBX2.out
  have y0 : w2.cell? ⟨pb, 0, none⟩ = some (.int .i64 8) := cell_of_heap HNB2.out rfl
  have y1 : w2.cell? ⟨pb, 1, none⟩ = some (.int .i64 n) := cell_of_heap HNB2.out rfl
  have HNC := refNm_any F.X F.N (8, n) w2 H2.out.nm HTH.out H2.out.lens
  unfold RnP at HNC
  rw [HR1.out, HR2.out] at HNC
  unfold ScX.v at HNC
  have HNC := Lib.hid HNC
  go_wp2_with fail
  refine HNC.out.mono ?_
  rintro e w3 ⟨rfl, hb3⟩
  have H3 := Lib.hid (H2.out.below hb3)
  have HB3 := Lib.hid (HB2.out.trans (hb3.mono (by have := HB2.out.size; omega)))
  have HBX3 := Lib.hid (HBX2.out.below hb3)
  have HNB3 : Hid (w3.heap[pb]? = some (.cells #[.int .i64 8, .int .i64 n] 39 (0, 0))) := Lib.hid ((hb3.block _ (Array.getElem?_eq_some_iff.1 HNB2.out).1).trans HNB2.out)
  clear x0 x1 x2 x3 x4 x5 y0 y1 hb3 HNC
  have HSC := refSpans_any F.e F.A F.c F.n w3 H3.out.n (by rw [H3.out.n]; exact H3.out.ln) H3.out.pa
  rw [H3.out.sp, hA] at HSC
  have HSC := Lib.hid HSC
  go_wp2_with fail
  refine HSC.out.mono ?_
  rintro e w4 ⟨hb4, A4, c4, rfl, hI4⟩
  have H4 := Lib.hid (H3.out.below hb4)
  have HB4 := Lib.hid (HB3.out.trans (hb4.mono (by have := HB3.out.size; omega)))
  have HBX4 := Lib.hid (HBX3.out.below hb4)
  have HNB4 : Hid (w4.heap[pb]? = some (.cells #[.int .i64 8, .int .i64 n] 39 (0, 0))) := Lib.hid ((hb4.block _ (Array.getElem?_eq_some_iff.1 HNB3.out).1).trans HNB3.out)
  have HI4 := Lib.hid hI4.ia
  clear hb4 hI4 HSC
  obtain ⟨⟨x0, x1, x2, x3, x4, x5⟩, hz5⟩ := HBX4.out
  have y0 : w4.cell? ⟨pb, 0, none⟩ = some (.int .i64 8) := cell_of_heap HNB4.out rfl
  have y1 : w4.cell? ⟨pb, 1, none⟩ = some (.int .i64 n) := cell_of_heap HNB4.out rfl
  have hzp : pb < w4.heap.size := (Array.getElem?_eq_some_iff.1 HNB4.out).1
  rw [← hgn]
  go_wp2
  go_ret
  exact ⟨by rw [HE.out]; rfl, by rw [hgn]; exact HB4.out⟩
set_option maxRecDepth 20000 in
set_option maxHeartbeats 4000000 in
theorem rp7 (F : Wr) (k : Nat) (n : Int) (hk : k < F.e.length) (hnd : F.e.getD (k) (0, 0) = (7, n)) (ht : There F.N (7, n)) (hs : (nameB F.N (7, n)).size ≤ 1000) (h0 : -9223372036854775808 ≤ n) (h9 : n ≤ 9223372036854775807) (hn0 : 0 ≤ n) :
    RpK F (k) (⟨#[97, 116]⟩ ++ brB (nameB F.N (7, n) ++ ⟨#[44, 32]⟩ ++ dS (n % 16))) := by
  intro w h
  have hb1 := below_alloc1 w (.cells #[.slice F.X.a1 F.X.n1 F.X.c1, .slice F.X.a2 F.X.n2 F.X.c2, .slice F.X.a3 F.X.n3 F.X.c3, .slice F.X.a4 F.X.n4 F.X.c4, .slice F.X.a5 F.X.n5 F.X.c5, .int .i64 F.X.self] 28)
  have H1 := Lib.hid (h.below hb1)
  have HBX1 : Hid (Bx (w.alloc (.cells #[.slice F.X.a1 F.X.n1 F.X.c1, .slice F.X.a2 F.X.n2 F.X.c2, .slice F.X.a3 F.X.n3 F.X.c3, .slice F.X.a4 F.X.n4 F.X.c4, .slice F.X.a5 F.X.n5 F.X.c5, .int .i64 F.X.self] 28)) w.heap.size F.X) := Lib.hid (Bx.new w F.X 28)
  have HB1 := Lib.hid hb1
  have hkn : (k : Int) < (F.n : Int) := by rw [h.n]; omega
  have hk0 : (0 : Int) ≤ (k : Int) := by omega
  have hk00 : (0 : Int) ≤ (k : Int) := by omega
  have hk9 : (k : Int) ≤ 1000000 := by have := h.ln; omega
  have HTH := Lib.hid ht
  have HN0 := Lib.hid h0
  have HN9 := Lib.hid h9
  have HSZ := Lib.hid hs
  obtain ⟨nm, HNM⟩ : ∃ x, Hid (nameB F.N (7, n) = x) := ⟨_, Lib.hid rfl⟩
  rw [HNM.out] at HSZ
  have hr1 : (rnB F.N (7, n)).1 = nm := (rn_name (l := F.N.procs) rfl).trans HNM.out
  have hmod : n.tmod 16 = n % 16 := Int.tmod_eq_emod_of_nonneg hn0
  have hd := dS_size (n := n % 16) (by omega) (by omega)
  obtain ⟨z1, h1⟩ : ∃ z, (⟨#[97, 116, 40]⟩ : ByteArray) ++ nm = z := ⟨_, rfl⟩
  obtain ⟨z2, h2⟩ : ∃ z, z1 ++ (⟨#[44, 32]⟩ : ByteArray) = z := ⟨_, rfl⟩
  obtain ⟨z3, h3⟩ : ∃ z, z2 ++ dS (n % 16) = z := ⟨_, rfl⟩
  obtain ⟨z4, h4⟩ : ∃ z, z3 ++ (⟨#[41]⟩ : ByteArray) = z := ⟨_, rfl⟩
  have s1 : z1.size = 3 + nm.size := by rw [← h1, size_app]; rfl
  have s2 : z2.size = z1.size + 2 := by rw [← h2, size_app]; rfl
  have s3 : z3.size = z2.size + (dS (n % 16)).size := by rw [← h3, size_app]
  have HE : Hid ((⟨#[97, 116]⟩ : ByteArray) ++ brB (nameB F.N (7, n) ++ ⟨#[44, 32]⟩ ++ dS (n % 16)) = z4) := Lib.hid (by
    rw [HNM.out, ← h4, ← h3, ← h2, ← h1, show (⟨#[97, 116, 40]⟩ : ByteArray) = ⟨#[97, 116]⟩ ++ ⟨#[40]⟩ from by decide +kernel]
    unfold brB
    simp only [ByteArray.append_assoc])
  have e1 := fun W => str_add (P := Tryz.prog) h1 (by have := HSZ.out; show 3 + _ ≤ _; omega) W
  have e2 := fun W => str_add (P := Tryz.prog) h2 (by have := HSZ.out; show _ + 2 ≤ _; omega) W
  have e3 := fun W => str_add (P := Tryz.prog) h3 (by have := HSZ.out; omega) W
  have e4 := fun W => str_add (P := Tryz.prog) h4 (by have := HSZ.out; show _ + 1 ≤ _; omega) W
  obtain ⟨q, HQ⟩ : ∃ q, n % 16 = q := ⟨_, rfl⟩
  have HQ1 : Hid (0 ≤ q ∧ q < 16) := Lib.hid (by omega)
  rw [HQ] at hmod e3
  clear h1 h2 h3 h4 s1 s2 s3 hd HQ
  obtain ⟨isn, hr2⟩ : ∃ x, (rnB F.N (7, n)).2 = x := ⟨_, rfl⟩
  have HR1 := Lib.hid hr1
  have HR2 := Lib.hid hr2
  clear h hb1 ht h0 h9 hs hr1 hr2
  obtain ⟨ba, oa, hA, hba, hc⟩ := H1.out.pa (by omega)
  obtain ⟨d0, d1⟩ := hc (k) hk
  rw [hnd] at d0 d1
  dsimp only at d0 d1
  clear hc
  unfold ScX.v
  rw [hA, show ((k : Nat) : Int) = (k : Int) from rfl]
  go_enter Tryz.func24, Tryz.ntmps24
  go_upto_region 1 with (fail)
  generalize hgn : w.heap.size = g at *
  generalize w.alloc (.cells #[.slice F.X.a1 F.X.n1 F.X.c1, .slice F.X.a2 F.X.n2 F.X.c2, .slice F.X.a3 F.X.n3 F.X.c3, .slice F.X.a4 F.X.n4 F.X.c4, .slice F.X.a5 F.X.n5 F.X.c5, .int .i64 F.X.self] 28) = w1 at *
  have hb2 := below_alloc1 w1 (.cells #[.int .i64 7, .int .i64 n] 39)
  have H2 := Lib.hid (H1.out.below hb2)
  have HB2 := Lib.hid (HB1.out.trans (hb2.mono (by have := HB1.out.size; omega)))
  have HBX2 := Lib.hid (HBX1.out.below hb2)
  have HNB2 : Hid ((w1.alloc (.cells #[.int .i64 7, .int .i64 n] 39)).heap[w1.heap.size]? = some (.cells #[.int .i64 7, .int .i64 n] 39 (0, 0))) := Lib.hid (World.alloc_heap_new w1 _)
  go_upto_region 2 with (fail)
  clear d0 d1 hb2
  generalize hpn : w1.heap.size = pb at *
  generalize w1.alloc (.cells #[.int .i64 7, .int .i64 n] 39) = w2 at *
  obtain ⟨⟨x0, x1, x2, x3, x4, x5⟩, _⟩ := HBX2.out
  have y0 : w2.cell? ⟨pb, 0, none⟩ = some (.int .i64 7) := cell_of_heap HNB2.out rfl
  have y1 : w2.cell? ⟨pb, 1, none⟩ = some (.int .i64 n) := cell_of_heap HNB2.out rfl
  have HNC := refNm_any F.X F.N (7, n) w2 H2.out.nm HTH.out H2.out.lens
  unfold RnP at HNC
  rw [HR1.out, HR2.out] at HNC
  unfold ScX.v at HNC
  have HNC := Lib.hid HNC
  go_wp2_with fail
  refine HNC.out.mono ?_
  rintro e w3 ⟨rfl, hb3⟩
  have H3 := Lib.hid (H2.out.below hb3)
  have HB3 := Lib.hid (HB2.out.trans (hb3.mono (by have := HB2.out.size; omega)))
  have HBX3 := Lib.hid (HBX2.out.below hb3)
  have HNB3 : Hid (w3.heap[pb]? = some (.cells #[.int .i64 7, .int .i64 n] 39 (0, 0))) := Lib.hid ((hb3.block _ (Array.getElem?_eq_some_iff.1 HNB2.out).1).trans HNB2.out)
  clear x0 x1 x2 x3 x4 x5 y0 y1 hb3 HNC
  have HSC := refSpans_any F.e F.A F.c F.n w3 H3.out.n (by rw [H3.out.n]; exact H3.out.ln) H3.out.pa
  rw [H3.out.sp, hA] at HSC
  have HSC := Lib.hid HSC
  go_wp2_with fail
  refine HSC.out.mono ?_
  rintro e w4 ⟨hb4, A4, c4, rfl, hI4⟩
  have H4 := Lib.hid (H3.out.below hb4)
  have HB4 := Lib.hid (HB3.out.trans (hb4.mono (by have := HB3.out.size; omega)))
  have HBX4 := Lib.hid (HBX3.out.below hb4)
  have HNB4 : Hid (w4.heap[pb]? = some (.cells #[.int .i64 7, .int .i64 n] 39 (0, 0))) := Lib.hid ((hb4.block _ (Array.getElem?_eq_some_iff.1 HNB3.out).1).trans HNB3.out)
  have HI4 := Lib.hid hI4.ia
  clear hb4 hI4 HSC
  obtain ⟨⟨x0, x1, x2, x3, x4, x5⟩, hz5⟩ := HBX4.out
  have y0 : w4.cell? ⟨pb, 0, none⟩ = some (.int .i64 7) := cell_of_heap HNB4.out rfl
  have y1 : w4.cell? ⟨pb, 1, none⟩ = some (.int .i64 n) := cell_of_heap HNB4.out rfl
  have hzp : pb < w4.heap.size := (Array.getElem?_eq_some_iff.1 HNB4.out).1
  rw [← hgn]
  go_wp2_with fail
  refine (refDecimal_any q w4 (by have := HQ1.out; omega) (by have := HQ1.out; omega)).mono ?_
  rintro e w5 ⟨rfl, hb5⟩
  have HB5 := Lib.hid (HB4.out.trans (hb5.mono (by have := HB4.out.size; omega)))
  clear hb5
  go_wp2
  go_ret
  exact ⟨by rw [HE.out]; rfl, by rw [hgn]; exact HB5.out⟩
set_option maxRecDepth 20000 in
set_option maxHeartbeats 4000000 in
theorem rp3 (F : Wr) (k : Nat) (n : Int) (hk : k + 1 < F.e.length) (hnd : F.e.getD (k + 1) (0, 0) = (3, n)) (ht : There F.N (3, n)) (hs : (nameB F.N (3, n)).size ≤ 1000) (h0 : -9223372036854775808 ≤ n) (h9 : n ≤ 9223372036854775807) (t : ByteArray) (hpt : RpK F k t) (hts : t.size ≤ 1000000000) :
    RpK F (k + 1) (nameB F.N (3, n) ++ ⟨#[91]⟩ ++ t ++ ⟨#[93]⟩) := by
  intro w h
  have hb1 := below_alloc1 w (.cells #[.slice F.X.a1 F.X.n1 F.X.c1, .slice F.X.a2 F.X.n2 F.X.c2, .slice F.X.a3 F.X.n3 F.X.c3, .slice F.X.a4 F.X.n4 F.X.c4, .slice F.X.a5 F.X.n5 F.X.c5, .int .i64 F.X.self] 28)
  have H1 := Lib.hid (h.below hb1)
  have HBX1 : Hid (Bx (w.alloc (.cells #[.slice F.X.a1 F.X.n1 F.X.c1, .slice F.X.a2 F.X.n2 F.X.c2, .slice F.X.a3 F.X.n3 F.X.c3, .slice F.X.a4 F.X.n4 F.X.c4, .slice F.X.a5 F.X.n5 F.X.c5, .int .i64 F.X.self] 28)) w.heap.size F.X) := Lib.hid (Bx.new w F.X 28)
  have HB1 := Lib.hid hb1
  have hkn : ((k : Int) + 1) < (F.n : Int) := by rw [h.n]; omega
  have hk0 : (0 : Int) ≤ ((k : Int) + 1) := by omega
  have hk00 : (0 : Int) ≤ (k : Int) := by omega
  have hk9 : (k : Int) ≤ 1000000 := by have := h.ln; omega
  have HTH := Lib.hid ht
  have HN0 := Lib.hid h0
  have HN9 := Lib.hid h9
  have HSZ := Lib.hid hs
  obtain ⟨nm, HNM⟩ : ∃ x, Hid (nameB F.N (3, n) = x) := ⟨_, Lib.hid rfl⟩
  rw [HNM.out] at HSZ
  have hr1 : (rnB F.N (3, n)).1 = nm := (rn_name (l := F.N.vars) rfl).trans HNM.out
  have HPT := Lib.hid hpt
  have HTS := Lib.hid hts
  obtain ⟨z1, h1⟩ : ∃ z, nm ++ (⟨#[91]⟩ : ByteArray) = z := ⟨_, rfl⟩
  obtain ⟨z2, h2⟩ : ∃ z, z1 ++ t = z := ⟨_, rfl⟩
  obtain ⟨z3, h3⟩ : ∃ z, z2 ++ (⟨#[93]⟩ : ByteArray) = z := ⟨_, rfl⟩
  have s1 : z1.size = nm.size + 1 := by rw [← h1, size_app]; rfl
  have s2 : z2.size = z1.size + t.size := by rw [← h2, size_app]
  have HE : Hid (nameB F.N (3, n) ++ ⟨#[91]⟩ ++ t ++ ⟨#[93]⟩ = z3) := Lib.hid (by rw [HNM.out, h1, h2, h3])
  have e1 := fun W => str_add (P := Tryz.prog) h1 (by have := HSZ.out; show _ + 1 ≤ _; omega) W
  have e2 := fun W => str_add (P := Tryz.prog) h2 (by have := HSZ.out; omega) W
  have e3 := fun W => str_add (P := Tryz.prog) h3 (by have := HSZ.out; show _ + 1 ≤ _; omega) W
  clear h1 h2 h3 s1 s2 hpt hts
  obtain ⟨isn, hr2⟩ : ∃ x, (rnB F.N (3, n)).2 = x := ⟨_, rfl⟩
  have HR1 := Lib.hid hr1
  have HR2 := Lib.hid hr2
  clear h hb1 ht h0 h9 hs hr1 hr2
  obtain ⟨ba, oa, hA, hba, hc⟩ := H1.out.pa (by omega)
  obtain ⟨d0, d1⟩ := hc (k + 1) hk
  rw [hnd] at d0 d1
  dsimp only at d0 d1
  clear hc
  unfold ScX.v
  rw [hA, show ((k + 1 : Nat) : Int) = ((k : Int) + 1) from rfl]
  go_enter Tryz.func24, Tryz.ntmps24
  go_upto_region 1 with (fail)
  generalize hgn : w.heap.size = g at *
  generalize w.alloc (.cells #[.slice F.X.a1 F.X.n1 F.X.c1, .slice F.X.a2 F.X.n2 F.X.c2, .slice F.X.a3 F.X.n3 F.X.c3, .slice F.X.a4 F.X.n4 F.X.c4, .slice F.X.a5 F.X.n5 F.X.c5, .int .i64 F.X.self] 28) = w1 at *
  have hb2 := below_alloc1 w1 (.cells #[.int .i64 3, .int .i64 n] 39)
  have H2 := Lib.hid (H1.out.below hb2)
  have HB2 := Lib.hid (HB1.out.trans (hb2.mono (by have := HB1.out.size; omega)))
  have HBX2 := Lib.hid (HBX1.out.below hb2)
  have HNB2 : Hid ((w1.alloc (.cells #[.int .i64 3, .int .i64 n] 39)).heap[w1.heap.size]? = some (.cells #[.int .i64 3, .int .i64 n] 39 (0, 0))) := Lib.hid (World.alloc_heap_new w1 _)
  go_upto_region 2 with (fail)
  clear d0 d1 hb2
  generalize hpn : w1.heap.size = pb at *
  generalize w1.alloc (.cells #[.int .i64 3, .int .i64 n] 39) = w2 at *
  obtain ⟨⟨x0, x1, x2, x3, x4, x5⟩, _⟩ := HBX2.out
  have y0 : w2.cell? ⟨pb, 0, none⟩ = some (.int .i64 3) := cell_of_heap HNB2.out rfl
  have y1 : w2.cell? ⟨pb, 1, none⟩ = some (.int .i64 n) := cell_of_heap HNB2.out rfl
  have HNC := refNm_any F.X F.N (3, n) w2 H2.out.nm HTH.out H2.out.lens
  unfold RnP at HNC
  rw [HR1.out, HR2.out] at HNC
  unfold ScX.v at HNC
  have HNC := Lib.hid HNC
  go_wp2_with fail
  refine HNC.out.mono ?_
  rintro e w3 ⟨rfl, hb3⟩
  have H3 := Lib.hid (H2.out.below hb3)
  have HB3 := Lib.hid (HB2.out.trans (hb3.mono (by have := HB2.out.size; omega)))
  have HBX3 := Lib.hid (HBX2.out.below hb3)
  have HNB3 : Hid (w3.heap[pb]? = some (.cells #[.int .i64 3, .int .i64 n] 39 (0, 0))) := Lib.hid ((hb3.block _ (Array.getElem?_eq_some_iff.1 HNB2.out).1).trans HNB2.out)
  clear x0 x1 x2 x3 x4 x5 y0 y1 hb3 HNC
  have HSC := refSpans_any F.e F.A F.c F.n w3 H3.out.n (by rw [H3.out.n]; exact H3.out.ln) H3.out.pa
  rw [H3.out.sp, hA] at HSC
  have HSC := Lib.hid HSC
  go_wp2_with fail
  refine HSC.out.mono ?_
  rintro e w4 ⟨hb4, A4, c4, rfl, hI4⟩
  have H4 := Lib.hid (H3.out.below hb4)
  have HB4 := Lib.hid (HB3.out.trans (hb4.mono (by have := HB3.out.size; omega)))
  have HBX4 := Lib.hid (HBX3.out.below hb4)
  have HNB4 : Hid (w4.heap[pb]? = some (.cells #[.int .i64 3, .int .i64 n] 39 (0, 0))) := Lib.hid ((hb4.block _ (Array.getElem?_eq_some_iff.1 HNB3.out).1).trans HNB3.out)
  have HI4 := Lib.hid hI4.ia
  clear hb4 hI4 HSC
  obtain ⟨⟨x0, x1, x2, x3, x4, x5⟩, hz5⟩ := HBX4.out
  have y0 : w4.cell? ⟨pb, 0, none⟩ = some (.int .i64 3) := cell_of_heap HNB4.out rfl
  have y1 : w4.cell? ⟨pb, 1, none⟩ = some (.int .i64 n) := cell_of_heap HNB4.out rfl
  have hzp : pb < w4.heap.size := (Array.getElem?_eq_some_iff.1 HNB4.out).1
  rw [← hgn]
  have HPC := HPT.out w4 H4.out
  unfold ScX.v at HPC
  rw [hA] at HPC
  have HPC := Lib.hid HPC
  go_wp2_with fail
  refine HPC.out.mono ?_
  rintro e w5 ⟨rfl, hb5⟩
  have HB5 := Lib.hid (HB4.out.trans (hb5.mono (by have := HB4.out.size; omega)))
  clear hb5 HPC
  go_wp2
  go_ret
  exact ⟨by rw [HE.out]; rfl, by rw [hgn]; exact HB5.out⟩
set_option maxRecDepth 20000 in
set_option maxHeartbeats 4000000 in
theorem rp9 (F : Wr) (k : Nat) (n : Int) (hk : k + 1 < F.e.length) (hnd : F.e.getD (k + 1) (0, 0) = (9, n)) (ht : There F.N (9, n)) (hs : (nameB F.N (9, n)).size ≤ 1000) (h0 : -9223372036854775808 ≤ n) (h9 : n ≤ 9223372036854775807) (t : ByteArray) (r : Int × Int) (hpt : RpK F k t) (hr : F.e.getD k (0, 0) = r) (hts : t.size ≤ 1000000000) :
    RpK F (k + 1) (⟨#[33]⟩ ++ bndT r 6 t) := by
  intro w h
  have hb1 := below_alloc1 w (.cells #[.slice F.X.a1 F.X.n1 F.X.c1, .slice F.X.a2 F.X.n2 F.X.c2, .slice F.X.a3 F.X.n3 F.X.c3, .slice F.X.a4 F.X.n4 F.X.c4, .slice F.X.a5 F.X.n5 F.X.c5, .int .i64 F.X.self] 28)
  have H1 := Lib.hid (h.below hb1)
  have HBX1 : Hid (Bx (w.alloc (.cells #[.slice F.X.a1 F.X.n1 F.X.c1, .slice F.X.a2 F.X.n2 F.X.c2, .slice F.X.a3 F.X.n3 F.X.c3, .slice F.X.a4 F.X.n4 F.X.c4, .slice F.X.a5 F.X.n5 F.X.c5, .int .i64 F.X.self] 28)) w.heap.size F.X) := Lib.hid (Bx.new w F.X 28)
  have HB1 := Lib.hid hb1
  have hkn : ((k : Int) + 1) < (F.n : Int) := by rw [h.n]; omega
  have hk0 : (0 : Int) ≤ ((k : Int) + 1) := by omega
  have hk00 : (0 : Int) ≤ (k : Int) := by omega
  have hk9 : (k : Int) ≤ 1000000 := by have := h.ln; omega
  have HTH := Lib.hid ht
  have HN0 := Lib.hid h0
  have HN9 := Lib.hid h9
  have HSZ := Lib.hid hs
  obtain ⟨nm, hr1⟩ : ∃ x, (rnB F.N (9, n)).1 = x := ⟨_, rfl⟩
  obtain ⟨r1, r2⟩ := r
  have HPT := Lib.hid hpt
  have HTS := Lib.hid hts
  have HR := Lib.hid hr
  have HKL : Hid (k < F.e.length) := Lib.hid (by omega)
  obtain ⟨q, HQ⟩ : ∃ q, Hid (stR (r1, r2) = q) := ⟨_, Lib.hid rfl⟩
  have HST : Hid (∀ W, Calls Tryz.prog 59 #[.agg #[.int .i64 r1, .int .i64 r2]] W fun e w' => e = .returned (.int .i64 q) ∧ Below W.heap.size W w') := Lib.hid (fun W => by rw [← HQ.out]; exact refStrength_any (r1, r2) W)
  obtain ⟨v, HV⟩ : ∃ v, Hid (bndT (r1, r2) 6 t = v) := ⟨_, Lib.hid rfl⟩
  have hvs : v.size ≤ 1000000002 := by rw [← HV.out]; have := bndT_size (r1, r2) 6 t; omega
  obtain ⟨z1, h1⟩ : ∃ z, (⟨#[33]⟩ : ByteArray) ++ v = z := ⟨_, rfl⟩
  have HE : Hid ((⟨#[33]⟩ : ByteArray) ++ bndT (r1, r2) 6 t = z1) := Lib.hid (by rw [HV.out]; exact h1)
  have e1 := fun W => str_add (P := Tryz.prog) h1 (by show 1 + _ ≤ _; omega) W
  have HAR : Hid (∀ W, Calls Tryz.prog 58 #[.string t, .bool (decide (q < 6))] W fun e w' => e = .returned (.string v) ∧ Below W.heap.size W w') := Lib.hid (fun W => by
    have h := refAround_any t (decide (q < 6)) W (by omega)
    rw [show (if decide (q < 6) = true then brB t else t) = v by rw [← HV.out, ← st_bnd (Nat.le_refl 6), HQ.out]; exact dec_bnd t] at h
    exact h)
  clear h1 hvs hpt hts hr
  obtain ⟨isn, hr2⟩ : ∃ x, (rnB F.N (9, n)).2 = x := ⟨_, rfl⟩
  have HR1 := Lib.hid hr1
  have HR2 := Lib.hid hr2
  clear h hb1 ht h0 h9 hs hr1 hr2
  obtain ⟨ba, oa, hA, hba, hc⟩ := H1.out.pa (by omega)
  obtain ⟨d0, d1⟩ := hc (k + 1) hk
  rw [hnd] at d0 d1
  dsimp only at d0 d1
  clear hc
  unfold ScX.v
  rw [hA, show ((k + 1 : Nat) : Int) = ((k : Int) + 1) from rfl]
  go_enter Tryz.func24, Tryz.ntmps24
  go_upto_region 1 with (fail)
  generalize hgn : w.heap.size = g at *
  generalize w.alloc (.cells #[.slice F.X.a1 F.X.n1 F.X.c1, .slice F.X.a2 F.X.n2 F.X.c2, .slice F.X.a3 F.X.n3 F.X.c3, .slice F.X.a4 F.X.n4 F.X.c4, .slice F.X.a5 F.X.n5 F.X.c5, .int .i64 F.X.self] 28) = w1 at *
  have hb2 := below_alloc1 w1 (.cells #[.int .i64 9, .int .i64 n] 39)
  have H2 := Lib.hid (H1.out.below hb2)
  have HB2 := Lib.hid (HB1.out.trans (hb2.mono (by have := HB1.out.size; omega)))
  have HBX2 := Lib.hid (HBX1.out.below hb2)
  have HNB2 : Hid ((w1.alloc (.cells #[.int .i64 9, .int .i64 n] 39)).heap[w1.heap.size]? = some (.cells #[.int .i64 9, .int .i64 n] 39 (0, 0))) := Lib.hid (World.alloc_heap_new w1 _)
  go_upto_region 2 with (fail)
  clear d0 d1 hb2
  generalize hpn : w1.heap.size = pb at *
  generalize w1.alloc (.cells #[.int .i64 9, .int .i64 n] 39) = w2 at *
  obtain ⟨⟨x0, x1, x2, x3, x4, x5⟩, _⟩ := HBX2.out
  have y0 : w2.cell? ⟨pb, 0, none⟩ = some (.int .i64 9) := cell_of_heap HNB2.out rfl
  have y1 : w2.cell? ⟨pb, 1, none⟩ = some (.int .i64 n) := cell_of_heap HNB2.out rfl
  have HNC := refNm_any F.X F.N (9, n) w2 H2.out.nm HTH.out H2.out.lens
  unfold RnP at HNC
  rw [HR1.out, HR2.out] at HNC
  unfold ScX.v at HNC
  have HNC := Lib.hid HNC
  go_wp2_with fail
  refine HNC.out.mono ?_
  rintro e w3 ⟨rfl, hb3⟩
  have H3 := Lib.hid (H2.out.below hb3)
  have HB3 := Lib.hid (HB2.out.trans (hb3.mono (by have := HB2.out.size; omega)))
  have HBX3 := Lib.hid (HBX2.out.below hb3)
  have HNB3 : Hid (w3.heap[pb]? = some (.cells #[.int .i64 9, .int .i64 n] 39 (0, 0))) := Lib.hid ((hb3.block _ (Array.getElem?_eq_some_iff.1 HNB2.out).1).trans HNB2.out)
  clear x0 x1 x2 x3 x4 x5 y0 y1 hb3 HNC
  have HSC := refSpans_any F.e F.A F.c F.n w3 H3.out.n (by rw [H3.out.n]; exact H3.out.ln) H3.out.pa
  rw [H3.out.sp, hA] at HSC
  have HSC := Lib.hid HSC
  go_wp2_with fail
  refine HSC.out.mono ?_
  rintro e w4 ⟨hb4, A4, c4, rfl, hI4⟩
  have H4 := Lib.hid (H3.out.below hb4)
  have HB4 := Lib.hid (HB3.out.trans (hb4.mono (by have := HB3.out.size; omega)))
  have HBX4 := Lib.hid (HBX3.out.below hb4)
  have HNB4 : Hid (w4.heap[pb]? = some (.cells #[.int .i64 9, .int .i64 n] 39 (0, 0))) := Lib.hid ((hb4.block _ (Array.getElem?_eq_some_iff.1 HNB3.out).1).trans HNB3.out)
  have HI4 := Lib.hid hI4.ia
  clear hb4 hI4 HSC
  obtain ⟨⟨x0, x1, x2, x3, x4, x5⟩, hz5⟩ := HBX4.out
  have y0 : w4.cell? ⟨pb, 0, none⟩ = some (.int .i64 9) := cell_of_heap HNB4.out rfl
  have y1 : w4.cell? ⟨pb, 1, none⟩ = some (.int .i64 n) := cell_of_heap HNB4.out rfl
  have hzp : pb < w4.heap.size := (Array.getElem?_eq_some_iff.1 HNB4.out).1
  rw [← hgn]
  obtain ⟨ba2, oa2, hA2, hba2, hc2⟩ := H4.out.pa (by omega)
  cases Option.some.inj (hA.symm.trans hA2)
  obtain ⟨d0, d1⟩ := hc2 k HKL.out
  rw [HR.out] at d0 d1
  dsimp only at d0 d1
  clear hc2 hA2 hba
  have HPC : Hid (∀ W, Below w4.heap.size w4 W → Calls Tryz.prog 24 #[.slice (some ⟨ba, oa, none⟩) F.n F.c, .agg #[.slice F.X.a1 F.X.n1 F.X.c1, .slice F.X.a2 F.X.n2 F.X.c2, .slice F.X.a3 F.X.n3 F.X.c3, .slice F.X.a4 F.X.n4 F.X.c4, .slice F.X.a5 F.X.n5 F.X.c5, .int .i64 F.X.self], .int .i64 (k : Nat)] W fun e w' => e = .returned (.string t) ∧ Below W.heap.size W w') := Lib.hid (fun W hW => by
    have h := HPT.out W (H4.out.below hW)
    unfold ScX.v at h
    rw [hA] at h
    exact h)
  have hkl : (k : Int) < (F.n : Int) := by omega
  have hw1 : IntKind.i64.wrap ((k : Int) + 1 - 1) = (k : Int) := by rw [show (k : Int) + 1 - 1 = k by omega]; exact IntWalk.i64_in _ (by omega)
  have hw2 : wrap64 ((k : Int) + 1 - 1) = (k : Int) := by unfold wrap64; omega
  have hw3 : (k : Int) + 1 - 1 = (k : Int) := by omega
  have hw4 : IntKind.i64.wrap (k : Int) = (k : Int) := IntWalk.i64_in _ (by omega)
  have HK0 : Hid (Below w4.heap.size w4 w4.drew) := Lib.hid (Below.refl _ w4).drew
  go_upto_region 21 with (fail)
  go_region_held3 (fun w' => w'.cell? ⟨g, 0, none⟩ = some (.slice F.X.a1 F.X.n1 F.X.c1) ∧ w'.cell? ⟨g, 1, none⟩ = some (.slice F.X.a2 F.X.n2 F.X.c2) ∧ w'.cell? ⟨g, 2, none⟩ = some (.slice F.X.a3 F.X.n3 F.X.c3) ∧ w'.cell? ⟨g, 3, none⟩ = some (.slice F.X.a4 F.X.n4 F.X.c4) ∧ w'.cell? ⟨g, 4, none⟩ = some (.slice F.X.a5 F.X.n5 F.X.c5) ∧ w'.cell? ⟨g, 5, none⟩ = some (.int .i64 F.X.self) ∧ w'.cell? ⟨ba, oa + k * 2, none⟩ = some (.int .i64 r1) ∧ w'.cell? ⟨ba, oa + k * 2 + 1, none⟩ = some (.int .i64 r2))
    (first | exact ⟨c3_0, c3_1, c3_2, c3_3, c3_4, c3_5, c3_6, c3_7⟩ | exact ⟨c2_0, c2_1, c2_2, c2_3, c2_4, c2_5, c2_6, c2_7⟩ | exact ⟨c1_0, c1_1, c1_2, c1_3, c1_4, c1_5, c1_6, c1_7⟩ | exact ⟨x0, x1, x2, x3, x4, x5, d0, d1⟩ | go_keep)
    ((first | (go_at_call 58; refine (HAR.out _).mono ?_; rintro e v3 ⟨ho, hb⟩; subst ho; have HK3 : Hid (Below w4.heap.size w4 v3) := Lib.hid (HK2.out.trans (hb.mono HK2.out.size)); have c3_0 := (HK3.out.cell (p := ⟨g, 0, none⟩) hz5).trans x0; have c3_1 := (HK3.out.cell (p := ⟨g, 1, none⟩) hz5).trans x1; have c3_2 := (HK3.out.cell (p := ⟨g, 2, none⟩) hz5).trans x2; have c3_3 := (HK3.out.cell (p := ⟨g, 3, none⟩) hz5).trans x3; have c3_4 := (HK3.out.cell (p := ⟨g, 4, none⟩) hz5).trans x4; have c3_5 := (HK3.out.cell (p := ⟨g, 5, none⟩) hz5).trans x5; have c3_6 := (HK3.out.cell (p := ⟨ba, oa + k * 2, none⟩) hba2).trans d0; have c3_7 := (HK3.out.cell (p := ⟨ba, oa + k * 2 + 1, none⟩) hba2).trans d1; clear hb) | (go_at_call 59; refine (HST.out _).mono ?_; rintro e v2 ⟨ho, hb⟩; subst ho; have HK2 : Hid (Below w4.heap.size w4 v2) := Lib.hid (HK1.out.trans (hb.mono HK1.out.size)); have c2_0 := (HK2.out.cell (p := ⟨g, 0, none⟩) hz5).trans x0; have c2_1 := (HK2.out.cell (p := ⟨g, 1, none⟩) hz5).trans x1; have c2_2 := (HK2.out.cell (p := ⟨g, 2, none⟩) hz5).trans x2; have c2_3 := (HK2.out.cell (p := ⟨g, 3, none⟩) hz5).trans x3; have c2_4 := (HK2.out.cell (p := ⟨g, 4, none⟩) hz5).trans x4; have c2_5 := (HK2.out.cell (p := ⟨g, 5, none⟩) hz5).trans x5; have c2_6 := (HK2.out.cell (p := ⟨ba, oa + k * 2, none⟩) hba2).trans d0; have c2_7 := (HK2.out.cell (p := ⟨ba, oa + k * 2 + 1, none⟩) hba2).trans d1; clear hb) | (go_at_call 24; refine (HPC.out _ HK0.out).mono ?_; rintro e v1 ⟨ho, hb⟩; subst ho; have HK1 : Hid (Below w4.heap.size w4 v1) := Lib.hid (HK0.out.trans (hb.mono HK0.out.size)); have c1_0 := (HK1.out.cell (p := ⟨g, 0, none⟩) hz5).trans x0; have c1_1 := (HK1.out.cell (p := ⟨g, 1, none⟩) hz5).trans x1; have c1_2 := (HK1.out.cell (p := ⟨g, 2, none⟩) hz5).trans x2; have c1_3 := (HK1.out.cell (p := ⟨g, 3, none⟩) hz5).trans x3; have c1_4 := (HK1.out.cell (p := ⟨g, 4, none⟩) hz5).trans x4; have c1_5 := (HK1.out.cell (p := ⟨g, 5, none⟩) hz5).trans x5; have c1_6 := (HK1.out.cell (p := ⟨ba, oa + k * 2, none⟩) hba2).trans d0; have c1_7 := (HK1.out.cell (p := ⟨ba, oa + k * 2 + 1, none⟩) hba2).trans d1; clear hb)))
  clear x0 x1 x2 x3 x4 x5 d0 d1 HPC
  go_wp2
  go_ret
  exact ⟨by rw [HE.out]; rfl, by rw [hgn]; exact HB4.out.trans (HK3.out.mono (by have := HB4.out.size; omega))⟩
set_option maxRecDepth 20000 in
set_option maxHeartbeats 4000000 in
theorem rp10 (F : Wr) (k : Nat) (n : Int) (hk : k + 1 < F.e.length) (hnd : F.e.getD (k + 1) (0, 0) = (10, n)) (ht : There F.N (10, n)) (hs : (nameB F.N (10, n)).size ≤ 1000) (h0 : -9223372036854775808 ≤ n) (h9 : n ≤ 9223372036854775807) (t : ByteArray) (r : Int × Int) (hpt : RpK F k t) (hr : F.e.getD k (0, 0) = r) (hts : t.size ≤ 1000000000) :
    RpK F (k + 1) (⟨#[45]⟩ ++ negT r t) := by
  intro w h
  have hb1 := below_alloc1 w (.cells #[.slice F.X.a1 F.X.n1 F.X.c1, .slice F.X.a2 F.X.n2 F.X.c2, .slice F.X.a3 F.X.n3 F.X.c3, .slice F.X.a4 F.X.n4 F.X.c4, .slice F.X.a5 F.X.n5 F.X.c5, .int .i64 F.X.self] 28)
  have H1 := Lib.hid (h.below hb1)
  have HBX1 : Hid (Bx (w.alloc (.cells #[.slice F.X.a1 F.X.n1 F.X.c1, .slice F.X.a2 F.X.n2 F.X.c2, .slice F.X.a3 F.X.n3 F.X.c3, .slice F.X.a4 F.X.n4 F.X.c4, .slice F.X.a5 F.X.n5 F.X.c5, .int .i64 F.X.self] 28)) w.heap.size F.X) := Lib.hid (Bx.new w F.X 28)
  have HB1 := Lib.hid hb1
  have hkn : ((k : Int) + 1) < (F.n : Int) := by rw [h.n]; omega
  have hk0 : (0 : Int) ≤ ((k : Int) + 1) := by omega
  have hk00 : (0 : Int) ≤ (k : Int) := by omega
  have hk9 : (k : Int) ≤ 1000000 := by have := h.ln; omega
  have HTH := Lib.hid ht
  have HN0 := Lib.hid h0
  have HN9 := Lib.hid h9
  have HSZ := Lib.hid hs
  obtain ⟨nm, hr1⟩ : ∃ x, (rnB F.N (10, n)).1 = x := ⟨_, rfl⟩
  obtain ⟨r1, r2⟩ := r
  have HPT := Lib.hid hpt
  have HTS := Lib.hid hts
  have HR := Lib.hid hr
  have HKL : Hid (k < F.e.length) := Lib.hid (by omega)
  obtain ⟨q, HQ⟩ : ∃ q, Hid (stR (r1, r2) = q) := ⟨_, Lib.hid rfl⟩
  have HST : Hid (∀ W, Calls Tryz.prog 59 #[.agg #[.int .i64 r1, .int .i64 r2]] W fun e w' => e = .returned (.int .i64 q) ∧ Below W.heap.size W w') := Lib.hid (fun W => by rw [← HQ.out]; exact refStrength_any (r1, r2) W)
  obtain ⟨v, HV9⟩ : ∃ v, Hid (negT (r1, r2) t = v) := ⟨_, Lib.hid rfl⟩
  have hvs : v.size ≤ 1000000002 := by rw [← HV9.out]; unfold negT; split; rw [brB_size]; omega; have := bndT_size (r1, r2) 6 t; omega
  obtain ⟨z1, h1⟩ : ∃ z, (⟨#[45]⟩ : ByteArray) ++ v = z := ⟨_, rfl⟩
  have HE : Hid ((⟨#[45]⟩ : ByteArray) ++ negT (r1, r2) t = z1) := Lib.hid (by rw [HV9.out]; exact h1)
  have e1 := fun W => str_add (P := Tryz.prog) h1 (by show 1 + _ ≤ _; omega) W
  clear h1 hvs hpt hts hr
  obtain ⟨isn, hr2⟩ : ∃ x, (rnB F.N (10, n)).2 = x := ⟨_, rfl⟩
  have HR1 := Lib.hid hr1
  have HR2 := Lib.hid hr2
  clear h hb1 ht h0 h9 hs hr1 hr2
  obtain ⟨ba, oa, hA, hba, hc⟩ := H1.out.pa (by omega)
  obtain ⟨d0, d1⟩ := hc (k + 1) hk
  rw [hnd] at d0 d1
  dsimp only at d0 d1
  clear hc
  unfold ScX.v
  rw [hA, show ((k + 1 : Nat) : Int) = ((k : Int) + 1) from rfl]
  go_enter Tryz.func24, Tryz.ntmps24
  go_upto_region 1 with (fail)
  generalize hgn : w.heap.size = g at *
  generalize w.alloc (.cells #[.slice F.X.a1 F.X.n1 F.X.c1, .slice F.X.a2 F.X.n2 F.X.c2, .slice F.X.a3 F.X.n3 F.X.c3, .slice F.X.a4 F.X.n4 F.X.c4, .slice F.X.a5 F.X.n5 F.X.c5, .int .i64 F.X.self] 28) = w1 at *
  have hb2 := below_alloc1 w1 (.cells #[.int .i64 10, .int .i64 n] 39)
  have H2 := Lib.hid (H1.out.below hb2)
  have HB2 := Lib.hid (HB1.out.trans (hb2.mono (by have := HB1.out.size; omega)))
  have HBX2 := Lib.hid (HBX1.out.below hb2)
  have HNB2 : Hid ((w1.alloc (.cells #[.int .i64 10, .int .i64 n] 39)).heap[w1.heap.size]? = some (.cells #[.int .i64 10, .int .i64 n] 39 (0, 0))) := Lib.hid (World.alloc_heap_new w1 _)
  go_upto_region 2 with (fail)
  clear d0 d1 hb2
  generalize hpn : w1.heap.size = pb at *
  generalize w1.alloc (.cells #[.int .i64 10, .int .i64 n] 39) = w2 at *
  obtain ⟨⟨x0, x1, x2, x3, x4, x5⟩, _⟩ := HBX2.out
  have y0 : w2.cell? ⟨pb, 0, none⟩ = some (.int .i64 10) := cell_of_heap HNB2.out rfl
  have y1 : w2.cell? ⟨pb, 1, none⟩ = some (.int .i64 n) := cell_of_heap HNB2.out rfl
  have HNC := refNm_any F.X F.N (10, n) w2 H2.out.nm HTH.out H2.out.lens
  unfold RnP at HNC
  rw [HR1.out, HR2.out] at HNC
  unfold ScX.v at HNC
  have HNC := Lib.hid HNC
  go_wp2_with fail
  refine HNC.out.mono ?_
  rintro e w3 ⟨rfl, hb3⟩
  have H3 := Lib.hid (H2.out.below hb3)
  have HB3 := Lib.hid (HB2.out.trans (hb3.mono (by have := HB2.out.size; omega)))
  have HBX3 := Lib.hid (HBX2.out.below hb3)
  have HNB3 : Hid (w3.heap[pb]? = some (.cells #[.int .i64 10, .int .i64 n] 39 (0, 0))) := Lib.hid ((hb3.block _ (Array.getElem?_eq_some_iff.1 HNB2.out).1).trans HNB2.out)
  clear x0 x1 x2 x3 x4 x5 y0 y1 hb3 HNC
  have HSC := refSpans_any F.e F.A F.c F.n w3 H3.out.n (by rw [H3.out.n]; exact H3.out.ln) H3.out.pa
  rw [H3.out.sp, hA] at HSC
  have HSC := Lib.hid HSC
  go_wp2_with fail
  refine HSC.out.mono ?_
  rintro e w4 ⟨hb4, A4, c4, rfl, hI4⟩
  have H4 := Lib.hid (H3.out.below hb4)
  have HB4 := Lib.hid (HB3.out.trans (hb4.mono (by have := HB3.out.size; omega)))
  have HBX4 := Lib.hid (HBX3.out.below hb4)
  have HNB4 : Hid (w4.heap[pb]? = some (.cells #[.int .i64 10, .int .i64 n] 39 (0, 0))) := Lib.hid ((hb4.block _ (Array.getElem?_eq_some_iff.1 HNB3.out).1).trans HNB3.out)
  have HI4 := Lib.hid hI4.ia
  clear hb4 hI4 HSC
  obtain ⟨⟨x0, x1, x2, x3, x4, x5⟩, hz5⟩ := HBX4.out
  have y0 : w4.cell? ⟨pb, 0, none⟩ = some (.int .i64 10) := cell_of_heap HNB4.out rfl
  have y1 : w4.cell? ⟨pb, 1, none⟩ = some (.int .i64 n) := cell_of_heap HNB4.out rfl
  have hzp : pb < w4.heap.size := (Array.getElem?_eq_some_iff.1 HNB4.out).1
  rw [← hgn]
  obtain ⟨ba2, oa2, hA2, hba2, hc2⟩ := H4.out.pa (by omega)
  cases Option.some.inj (hA.symm.trans hA2)
  obtain ⟨d0, d1⟩ := hc2 k HKL.out
  rw [HR.out] at d0 d1
  dsimp only at d0 d1
  clear hc2 hA2 hba
  have HPC : Hid (∀ W, Below w4.heap.size w4 W → Calls Tryz.prog 24 #[.slice (some ⟨ba, oa, none⟩) F.n F.c, .agg #[.slice F.X.a1 F.X.n1 F.X.c1, .slice F.X.a2 F.X.n2 F.X.c2, .slice F.X.a3 F.X.n3 F.X.c3, .slice F.X.a4 F.X.n4 F.X.c4, .slice F.X.a5 F.X.n5 F.X.c5, .int .i64 F.X.self], .int .i64 (k : Nat)] W fun e w' => e = .returned (.string t) ∧ Below W.heap.size W w') := Lib.hid (fun W hW => by
    have h := HPT.out W (H4.out.below hW)
    unfold ScX.v at h
    rw [hA] at h
    exact h)
  have hkl : (k : Int) < (F.n : Int) := by omega
  have hw1 : IntKind.i64.wrap ((k : Int) + 1 - 1) = (k : Int) := by rw [show (k : Int) + 1 - 1 = k by omega]; exact IntWalk.i64_in _ (by omega)
  have hw2 : wrap64 ((k : Int) + 1 - 1) = (k : Int) := by unfold wrap64; omega
  have hw3 : (k : Int) + 1 - 1 = (k : Int) := by omega
  have hw4 : IntKind.i64.wrap (k : Int) = (k : Int) := IntWalk.i64_in _ (by omega)
  have HK0 : Hid (Below w4.heap.size w4 w4.drew) := Lib.hid (Below.refl _ w4).drew
  go_upto_region 23 with (fail)
  by_cases hq : q < 6
  · have hd : decide (q < 6) = true := decide_eq_true hq
    have HNG : Hid (negT (r1, r2) t = brB t) := Lib.hid (by
      unfold negT
      split
      · rfl
      · rw [← st_bnd (Nat.le_refl 6), HQ.out]
        exact if_pos hq)
    have HAR : Hid (∀ W, Calls Tryz.prog 58 #[.string t, .bool true] W fun e w' => e = .returned (.string v) ∧ Below W.heap.size W w') := Lib.hid (fun W => by
      have h := refAround_any t true W (by have := HTS.out; omega)
      rw [show (if true = true then brB t else t) = v by rw [← HV9.out, HNG.out]; rfl] at h
      exact h)
    have HV : Hid (∀ W, Below w4.heap.size w4 W → W.cell? ⟨g, 0, none⟩ = some (.slice F.X.a1 F.X.n1 F.X.c1) ∧ W.cell? ⟨g, 1, none⟩ = some (.slice F.X.a2 F.X.n2 F.X.c2) ∧ W.cell? ⟨g, 2, none⟩ = some (.slice F.X.a3 F.X.n3 F.X.c3) ∧ W.cell? ⟨g, 3, none⟩ = some (.slice F.X.a4 F.X.n4 F.X.c4) ∧ W.cell? ⟨g, 4, none⟩ = some (.slice F.X.a5 F.X.n5 F.X.c5) ∧ W.cell? ⟨g, 5, none⟩ = some (.int .i64 F.X.self) ∧ W.cell? ⟨ba, oa + k * 2, none⟩ = some (.int .i64 r1) ∧ W.cell? ⟨ba, oa + k * 2 + 1, none⟩ = some (.int .i64 r2)) := Lib.hid (fun W hW => ⟨(hW.cell (p := ⟨g, 0, none⟩) hz5).trans x0, (hW.cell (p := ⟨g, 1, none⟩) hz5).trans x1, (hW.cell (p := ⟨g, 2, none⟩) hz5).trans x2, (hW.cell (p := ⟨g, 3, none⟩) hz5).trans x3, (hW.cell (p := ⟨g, 4, none⟩) hz5).trans x4, (hW.cell (p := ⟨g, 5, none⟩) hz5).trans x5, (hW.cell (p := ⟨ba, oa + k * 2, none⟩) hba2).trans d0, (hW.cell (p := ⟨ba, oa + k * 2 + 1, none⟩) hba2).trans d1⟩)
    clear x0 x1 x2 x3 x4 x5 d0 d1
    refine wp_region_held_drew (S := (fun w' => w'.cell? ⟨g, 0, none⟩ = some (.slice F.X.a1 F.X.n1 F.X.c1) ∧ w'.cell? ⟨g, 1, none⟩ = some (.slice F.X.a2 F.X.n2 F.X.c2) ∧ w'.cell? ⟨g, 2, none⟩ = some (.slice F.X.a3 F.X.n3 F.X.c3) ∧ w'.cell? ⟨g, 3, none⟩ = some (.slice F.X.a4 F.X.n4 F.X.c4) ∧ w'.cell? ⟨g, 4, none⟩ = some (.slice F.X.a5 F.X.n5 F.X.c5) ∧ w'.cell? ⟨g, 5, none⟩ = some (.int .i64 F.X.self) ∧ w'.cell? ⟨ba, oa + k * 2, none⟩ = some (.int .i64 r1) ∧ w'.cell? ⟨ba, oa + k * 2 + 1, none⟩ = some (.int .i64 r2))) (by kernel_rfl) (HV.out w4.drew (Below.refl _ w4).drew) (fun hS0 => ?_)
    have HS0 := Lib.hid hS0
    clear hS0
    simp only [Array.replicate, List.replicate]
    refine wpAnyH_take (i := 0) (oi := ⟨some 96, _, _, _, _, _⟩) (v := .slice (some ⟨ba, oa, none⟩) F.n F.c) rfl (by kernel_rfl) (by kernel_rfl) (by kernel_rfl) (fun _ _ _ h => h) (Or.inl ⟨by kernel_rfl, fun w9 hS => ?_⟩) HS0.out ?_
    · clear hS
      go_simp
    try simp only [Act.put, List.setIfInBounds_toArray, List.set_cons_zero, List.set_cons_succ]
    refine wpAnyH_take (i := 1) (oi := ⟨some 97, _, _, _, _, _⟩) (v := .agg #[.slice F.X.a1 F.X.n1 F.X.c1, .slice F.X.a2 F.X.n2 F.X.c2, .slice F.X.a3 F.X.n3 F.X.c3, .slice F.X.a4 F.X.n4 F.X.c4, .slice F.X.a5 F.X.n5 F.X.c5, .int .i64 F.X.self]) rfl (by kernel_rfl) (by kernel_rfl) (by kernel_rfl) (fun _ _ _ h => h) (Or.inl ⟨by kernel_rfl, fun w9 hS => ?_⟩) HS0.out ?_
    · obtain ⟨x0, x1, x2, x3, x4, x5, d0, d1⟩ := hS
      go_simp
    try simp only [Act.put, List.setIfInBounds_toArray, List.set_cons_zero, List.set_cons_succ]
    refine wpAnyH_take (i := 2) (oi := ⟨some 98, _, _, _, _, _⟩) (v := .int .i64 ((k : Int) + 1)) rfl (by kernel_rfl) (by kernel_rfl) (by kernel_rfl) (fun _ _ _ h => h) (Or.inl ⟨by kernel_rfl, fun w9 hS => ?_⟩) HS0.out ?_
    · clear hS
      go_simp
    try simp only [Act.put, List.setIfInBounds_toArray, List.set_cons_zero, List.set_cons_succ]
    refine wpAnyH_take (i := 3) (oi := ⟨some 99, _, _, _, _, _⟩) (v := .int .i64 (k : Int)) rfl (by kernel_rfl) (by kernel_rfl) (by kernel_rfl) (fun _ _ _ h => h) (Or.inl ⟨by kernel_rfl, fun w9 hS => ?_⟩) HS0.out ?_
    · clear hS
      go_simp
    try simp only [Act.put, List.setIfInBounds_toArray, List.set_cons_zero, List.set_cons_succ]
    refine wpAnyH_take (i := 5) (oi := ⟨some 101, _, _, _, _, _⟩) (v := .slice (some ⟨ba, oa, none⟩) F.n F.c) rfl (by kernel_rfl) (by kernel_rfl) (by kernel_rfl) (fun _ _ _ h => h) (Or.inl ⟨by kernel_rfl, fun w9 hS => ?_⟩) HS0.out ?_
    · clear hS
      go_simp
    try simp only [Act.put, List.setIfInBounds_toArray, List.set_cons_zero, List.set_cons_succ]
    refine wpAnyH_take (i := 6) (oi := ⟨some 102, _, _, _, _, _⟩) (v := .int .i64 ((k : Int) + 1)) rfl (by kernel_rfl) (by kernel_rfl) (by kernel_rfl) (fun _ _ _ h => h) (Or.inl ⟨by kernel_rfl, fun w9 hS => ?_⟩) HS0.out ?_
    · clear hS
      go_simp
    try simp only [Act.put, List.setIfInBounds_toArray, List.set_cons_zero, List.set_cons_succ]
    refine wpAnyH_take (i := 7) (oi := ⟨some 103, _, _, _, _, _⟩) (v := .int .i64 (k : Int)) rfl (by kernel_rfl) (by kernel_rfl) (by kernel_rfl) (fun _ _ _ h => h) (Or.inl ⟨by kernel_rfl, fun w9 hS => ?_⟩) HS0.out ?_
    · clear hS
      go_simp
    try simp only [Act.put, List.setIfInBounds_toArray, List.set_cons_zero, List.set_cons_succ]
    refine wpAnyH_take (i := 8) (oi := ⟨some 104, _, _, _, _, _⟩) (v := .pointer (some ⟨ba, oa + k * 2, none⟩)) rfl (by kernel_rfl) (by kernel_rfl) (by kernel_rfl) (fun _ _ _ h => h) (Or.inl ⟨by kernel_rfl, fun w9 hS => ?_⟩) HS0.out ?_
    · clear hS
      go_simp
    try simp only [Act.put, List.setIfInBounds_toArray, List.set_cons_zero, List.set_cons_succ]
    refine wpAnyH_take (i := 9) (oi := ⟨some 105, _, _, _, _, _⟩) (v := .agg #[.int .i64 r1, .int .i64 r2]) rfl (by kernel_rfl) (by kernel_rfl) (by kernel_rfl) (fun _ _ _ h => h) (Or.inl ⟨by kernel_rfl, fun w9 hS => ?_⟩) HS0.out ?_
    · obtain ⟨x0, x1, x2, x3, x4, x5, d0, d1⟩ := hS
      go_simp
    try simp only [Act.put, List.setIfInBounds_toArray, List.set_cons_zero, List.set_cons_succ]
    refine wpAnyH_ready (rs := [4]) (by kernel_rfl) (by simp) ?_
    refine AllReadyH.cons (o := ⟨some 100, _, _, _, _, _⟩) rfl (fun K hK => ?_) AllReadyH.nil
    rw [if_pos (by kernel_rfl)]
    go_simp
    go_at_call 24
    refine (HPC.out _ HK0.out).mono ?_
    rintro e v1 ⟨rfl, hb1⟩
    have HK1 : Hid (Below w4.heap.size w4 v1) := Lib.hid (HK0.out.trans (hb1.mono HK0.out.size))
    have HS1 : Hid _ := Lib.hid (HV.out v1 HK1.out)
    refine hK.out _ _ HS1.out (fun _ => ?_)
    clear hK K hb1
    try simp only [Act.put, List.setIfInBounds_toArray, List.set_cons_zero, List.set_cons_succ]
    refine wpAnyH_ready (rs := [10]) (by kernel_rfl) (by simp) ?_
    refine AllReadyH.cons (o := ⟨some 106, _, _, _, _, _⟩) rfl (fun K hK => ?_) AllReadyH.nil
    rw [if_pos (by kernel_rfl)]
    go_simp
    go_at_call 59
    refine (HST.out _).mono ?_
    rintro e v2 ⟨rfl, hb2⟩
    have HK2 : Hid (Below w4.heap.size w4 v2) := Lib.hid (HK1.out.trans (hb2.mono HK1.out.size))
    have HS2 : Hid _ := Lib.hid (HV.out v2 HK2.out)
    refine hK.out _ _ HS2.out (fun _ => ?_)
    clear hK K hb2
    try simp only [Act.put, List.setIfInBounds_toArray, List.set_cons_zero, List.set_cons_succ]
    refine wpAnyH_take (i := 11) (oi := ⟨some 107, _, _, _, _, _⟩) (v := .bool true) rfl (by kernel_rfl) (by kernel_rfl) (by kernel_rfl) (fun _ _ _ h => h) (Or.inl ⟨by kernel_rfl, fun w9 hS => ?_⟩) HS2.out ?_
    · clear hS
      go_simp
    try simp only [Act.put, List.setIfInBounds_toArray, List.set_cons_zero, List.set_cons_succ]
    refine wpAnyH_take (i := 12) (oi := ⟨some 108, _, _, _, _, _⟩) (v := .bool true) rfl (by kernel_rfl) (by kernel_rfl) (by kernel_rfl) (fun _ _ _ h => h) (Or.inl ⟨by kernel_rfl, fun w9 hS => ?_⟩) HS2.out ?_
    · clear hS
      go_simp
    try simp only [Act.put, List.setIfInBounds_toArray, List.set_cons_zero, List.set_cons_succ]
    refine wpAnyH_take (i := 13) (oi := ⟨some 109, _, _, _, _, _⟩) (v := undef) rfl (by kernel_rfl) (by kernel_rfl) (by kernel_rfl) (fun _ _ _ h => h) (Or.inr ⟨by kernel_rfl, rfl⟩) HS2.out ?_
    try simp only [Act.put, List.setIfInBounds_toArray, List.set_cons_zero, List.set_cons_succ]
    refine wpAnyH_take (i := 14) (oi := ⟨some 110, _, _, _, _, _⟩) (v := undef) rfl (by kernel_rfl) (by kernel_rfl) (by kernel_rfl) (fun _ _ _ h => h) (Or.inr ⟨by kernel_rfl, rfl⟩) HS2.out ?_
    try simp only [Act.put, List.setIfInBounds_toArray, List.set_cons_zero, List.set_cons_succ]
    refine wpAnyH_take (i := 15) (oi := ⟨some 111, _, _, _, _, _⟩) (v := undef) rfl (by kernel_rfl) (by kernel_rfl) (by kernel_rfl) (fun _ _ _ h => h) (Or.inr ⟨by kernel_rfl, rfl⟩) HS2.out ?_
    try simp only [Act.put, List.setIfInBounds_toArray, List.set_cons_zero, List.set_cons_succ]
    refine wpAnyH_take (i := 16) (oi := ⟨some 112, _, _, _, _, _⟩) (v := undef) rfl (by kernel_rfl) (by kernel_rfl) (by kernel_rfl) (fun _ _ _ h => h) (Or.inr ⟨by kernel_rfl, rfl⟩) HS2.out ?_
    try simp only [Act.put, List.setIfInBounds_toArray, List.set_cons_zero, List.set_cons_succ]
    refine wpAnyH_take (i := 17) (oi := ⟨some 113, _, _, _, _, _⟩) (v := undef) rfl (by kernel_rfl) (by kernel_rfl) (by kernel_rfl) (fun _ _ _ h => h) (Or.inr ⟨by kernel_rfl, rfl⟩) HS2.out ?_
    try simp only [Act.put, List.setIfInBounds_toArray, List.set_cons_zero, List.set_cons_succ]
    refine wpAnyH_take (i := 18) (oi := ⟨some 114, _, _, _, _, _⟩) (v := undef) rfl (by kernel_rfl) (by kernel_rfl) (by kernel_rfl) (fun _ _ _ h => h) (Or.inr ⟨by kernel_rfl, rfl⟩) HS2.out ?_
    try simp only [Act.put, List.setIfInBounds_toArray, List.set_cons_zero, List.set_cons_succ]
    refine wpAnyH_take (i := 19) (oi := ⟨some 115, _, _, _, _, _⟩) (v := undef) rfl (by kernel_rfl) (by kernel_rfl) (by kernel_rfl) (fun _ _ _ h => h) (Or.inr ⟨by kernel_rfl, rfl⟩) HS2.out ?_
    try simp only [Act.put, List.setIfInBounds_toArray, List.set_cons_zero, List.set_cons_succ]
    refine wpAnyH_take (i := 20) (oi := ⟨some 116, _, _, _, _, _⟩) (v := .bool true) rfl (by kernel_rfl) (by kernel_rfl) (by kernel_rfl) (fun _ _ _ h => h) (Or.inl ⟨by kernel_rfl, fun w9 hS => ?_⟩) HS2.out ?_
    · clear hS
      go_simp
    try simp only [Act.put, List.setIfInBounds_toArray, List.set_cons_zero, List.set_cons_succ]
    refine wpAnyH_ready (rs := [21]) (by kernel_rfl) (by simp) ?_
    refine AllReadyH.cons (o := ⟨some 117, _, _, _, _, _⟩) rfl (fun K hK => ?_) AllReadyH.nil
    rw [if_pos (by kernel_rfl)]
    go_simp
    go_at_call 58
    refine (HAR.out _).mono ?_
    rintro e v3 ⟨rfl, hb3⟩
    have HK3 : Hid (Below w4.heap.size w4 v3) := Lib.hid (HK2.out.trans (hb3.mono HK2.out.size))
    have HS3 : Hid _ := Lib.hid (HV.out v3 HK3.out)
    refine hK.out _ _ HS3.out (fun _ => ?_)
    clear hK K hb3
    try simp only [Act.put, List.setIfInBounds_toArray, List.set_cons_zero, List.set_cons_succ]
    refine wpAnyH_take (i := 22) (oi := ⟨some 118, _, _, _, _, _⟩) (v := .string z1) rfl (by kernel_rfl) (by kernel_rfl) (by kernel_rfl) (fun _ _ _ h => h) (Or.inl ⟨by kernel_rfl, fun w9 hS => ?_⟩) HS3.out ?_
    · clear hS
      go_simp
    try simp only [Act.put, List.setIfInBounds_toArray, List.set_cons_zero, List.set_cons_succ]
    refine wpAnyH_take (i := 23) (oi := ⟨some 6, _, _, _, _, _⟩) (v := .string z1) rfl (by kernel_rfl) (by kernel_rfl) (by kernel_rfl) (fun _ _ _ h => h) (Or.inl ⟨by kernel_rfl, fun w9 hS => ?_⟩) HS3.out ?_
    · clear hS
      go_simp
    try simp only [Act.put, List.setIfInBounds_toArray, List.set_cons_zero, List.set_cons_succ]
    refine wpAnyH_done (by kernel_rfl) ?_ _
    have HB9 : Hid (Below g w v3) := Lib.hid (HB4.out.trans (HK3.out.mono (by have := HB4.out.size; omega)))
    clear HPC
    go_wp2
    go_ret
    exact ⟨by rw [HE.out]; rfl, by first | exact HB9.out | (rw [hgn]; exact HB9.out)⟩
  · have hd : decide (q < 6) = false := decide_eq_false hq
    by_cases h1 : r1 = 1
    · have HNG : Hid (negT (r1, r2) t = brB t) := Lib.hid (by unfold negT; rw [if_pos h1])
      subst h1
      have HAR : Hid (∀ W, Calls Tryz.prog 58 #[.string t, .bool true] W fun e w' => e = .returned (.string v) ∧ Below W.heap.size W w') := Lib.hid (fun W => by
        have h := refAround_any t true W (by have := HTS.out; omega)
        rw [show (if true = true then brB t else t) = v by rw [← HV9.out, HNG.out]; rfl] at h
        exact h)
      have HV : Hid (∀ W, Below w4.heap.size w4 W → W.cell? ⟨g, 0, none⟩ = some (.slice F.X.a1 F.X.n1 F.X.c1) ∧ W.cell? ⟨g, 1, none⟩ = some (.slice F.X.a2 F.X.n2 F.X.c2) ∧ W.cell? ⟨g, 2, none⟩ = some (.slice F.X.a3 F.X.n3 F.X.c3) ∧ W.cell? ⟨g, 3, none⟩ = some (.slice F.X.a4 F.X.n4 F.X.c4) ∧ W.cell? ⟨g, 4, none⟩ = some (.slice F.X.a5 F.X.n5 F.X.c5) ∧ W.cell? ⟨g, 5, none⟩ = some (.int .i64 F.X.self) ∧ W.cell? ⟨ba, oa + k * 2, none⟩ = some (.int .i64 1) ∧ W.cell? ⟨ba, oa + k * 2 + 1, none⟩ = some (.int .i64 r2)) := Lib.hid (fun W hW => ⟨(hW.cell (p := ⟨g, 0, none⟩) hz5).trans x0, (hW.cell (p := ⟨g, 1, none⟩) hz5).trans x1, (hW.cell (p := ⟨g, 2, none⟩) hz5).trans x2, (hW.cell (p := ⟨g, 3, none⟩) hz5).trans x3, (hW.cell (p := ⟨g, 4, none⟩) hz5).trans x4, (hW.cell (p := ⟨g, 5, none⟩) hz5).trans x5, (hW.cell (p := ⟨ba, oa + k * 2, none⟩) hba2).trans d0, (hW.cell (p := ⟨ba, oa + k * 2 + 1, none⟩) hba2).trans d1⟩)
      clear x0 x1 x2 x3 x4 x5 d0 d1
      refine wp_region_held_drew (S := (fun w' => w'.cell? ⟨g, 0, none⟩ = some (.slice F.X.a1 F.X.n1 F.X.c1) ∧ w'.cell? ⟨g, 1, none⟩ = some (.slice F.X.a2 F.X.n2 F.X.c2) ∧ w'.cell? ⟨g, 2, none⟩ = some (.slice F.X.a3 F.X.n3 F.X.c3) ∧ w'.cell? ⟨g, 3, none⟩ = some (.slice F.X.a4 F.X.n4 F.X.c4) ∧ w'.cell? ⟨g, 4, none⟩ = some (.slice F.X.a5 F.X.n5 F.X.c5) ∧ w'.cell? ⟨g, 5, none⟩ = some (.int .i64 F.X.self) ∧ w'.cell? ⟨ba, oa + k * 2, none⟩ = some (.int .i64 1) ∧ w'.cell? ⟨ba, oa + k * 2 + 1, none⟩ = some (.int .i64 r2))) (by kernel_rfl) (HV.out w4.drew (Below.refl _ w4).drew) (fun hS0 => ?_)
      have HS0 := Lib.hid hS0
      clear hS0
      simp only [Array.replicate, List.replicate]
      refine wpAnyH_take (i := 0) (oi := ⟨some 96, _, _, _, _, _⟩) (v := .slice (some ⟨ba, oa, none⟩) F.n F.c) rfl (by kernel_rfl) (by kernel_rfl) (by kernel_rfl) (fun _ _ _ h => h) (Or.inl ⟨by kernel_rfl, fun w9 hS => ?_⟩) HS0.out ?_
      · clear hS
        go_simp
      try simp only [Act.put, List.setIfInBounds_toArray, List.set_cons_zero, List.set_cons_succ]
      refine wpAnyH_take (i := 1) (oi := ⟨some 97, _, _, _, _, _⟩) (v := .agg #[.slice F.X.a1 F.X.n1 F.X.c1, .slice F.X.a2 F.X.n2 F.X.c2, .slice F.X.a3 F.X.n3 F.X.c3, .slice F.X.a4 F.X.n4 F.X.c4, .slice F.X.a5 F.X.n5 F.X.c5, .int .i64 F.X.self]) rfl (by kernel_rfl) (by kernel_rfl) (by kernel_rfl) (fun _ _ _ h => h) (Or.inl ⟨by kernel_rfl, fun w9 hS => ?_⟩) HS0.out ?_
      · obtain ⟨x0, x1, x2, x3, x4, x5, d0, d1⟩ := hS
        go_simp
      try simp only [Act.put, List.setIfInBounds_toArray, List.set_cons_zero, List.set_cons_succ]
      refine wpAnyH_take (i := 2) (oi := ⟨some 98, _, _, _, _, _⟩) (v := .int .i64 ((k : Int) + 1)) rfl (by kernel_rfl) (by kernel_rfl) (by kernel_rfl) (fun _ _ _ h => h) (Or.inl ⟨by kernel_rfl, fun w9 hS => ?_⟩) HS0.out ?_
      · clear hS
        go_simp
      try simp only [Act.put, List.setIfInBounds_toArray, List.set_cons_zero, List.set_cons_succ]
      refine wpAnyH_take (i := 3) (oi := ⟨some 99, _, _, _, _, _⟩) (v := .int .i64 (k : Int)) rfl (by kernel_rfl) (by kernel_rfl) (by kernel_rfl) (fun _ _ _ h => h) (Or.inl ⟨by kernel_rfl, fun w9 hS => ?_⟩) HS0.out ?_
      · clear hS
        go_simp
      try simp only [Act.put, List.setIfInBounds_toArray, List.set_cons_zero, List.set_cons_succ]
      refine wpAnyH_take (i := 5) (oi := ⟨some 101, _, _, _, _, _⟩) (v := .slice (some ⟨ba, oa, none⟩) F.n F.c) rfl (by kernel_rfl) (by kernel_rfl) (by kernel_rfl) (fun _ _ _ h => h) (Or.inl ⟨by kernel_rfl, fun w9 hS => ?_⟩) HS0.out ?_
      · clear hS
        go_simp
      try simp only [Act.put, List.setIfInBounds_toArray, List.set_cons_zero, List.set_cons_succ]
      refine wpAnyH_take (i := 6) (oi := ⟨some 102, _, _, _, _, _⟩) (v := .int .i64 ((k : Int) + 1)) rfl (by kernel_rfl) (by kernel_rfl) (by kernel_rfl) (fun _ _ _ h => h) (Or.inl ⟨by kernel_rfl, fun w9 hS => ?_⟩) HS0.out ?_
      · clear hS
        go_simp
      try simp only [Act.put, List.setIfInBounds_toArray, List.set_cons_zero, List.set_cons_succ]
      refine wpAnyH_take (i := 7) (oi := ⟨some 103, _, _, _, _, _⟩) (v := .int .i64 (k : Int)) rfl (by kernel_rfl) (by kernel_rfl) (by kernel_rfl) (fun _ _ _ h => h) (Or.inl ⟨by kernel_rfl, fun w9 hS => ?_⟩) HS0.out ?_
      · clear hS
        go_simp
      try simp only [Act.put, List.setIfInBounds_toArray, List.set_cons_zero, List.set_cons_succ]
      refine wpAnyH_take (i := 8) (oi := ⟨some 104, _, _, _, _, _⟩) (v := .pointer (some ⟨ba, oa + k * 2, none⟩)) rfl (by kernel_rfl) (by kernel_rfl) (by kernel_rfl) (fun _ _ _ h => h) (Or.inl ⟨by kernel_rfl, fun w9 hS => ?_⟩) HS0.out ?_
      · clear hS
        go_simp
      try simp only [Act.put, List.setIfInBounds_toArray, List.set_cons_zero, List.set_cons_succ]
      refine wpAnyH_take (i := 9) (oi := ⟨some 105, _, _, _, _, _⟩) (v := .agg #[.int .i64 1, .int .i64 r2]) rfl (by kernel_rfl) (by kernel_rfl) (by kernel_rfl) (fun _ _ _ h => h) (Or.inl ⟨by kernel_rfl, fun w9 hS => ?_⟩) HS0.out ?_
      · obtain ⟨x0, x1, x2, x3, x4, x5, d0, d1⟩ := hS
        go_simp
      try simp only [Act.put, List.setIfInBounds_toArray, List.set_cons_zero, List.set_cons_succ]
      refine wpAnyH_ready (rs := [4]) (by kernel_rfl) (by simp) ?_
      refine AllReadyH.cons (o := ⟨some 100, _, _, _, _, _⟩) rfl (fun K hK => ?_) AllReadyH.nil
      rw [if_pos (by kernel_rfl)]
      go_simp
      go_at_call 24
      refine (HPC.out _ HK0.out).mono ?_
      rintro e v1 ⟨rfl, hb1⟩
      have HK1 : Hid (Below w4.heap.size w4 v1) := Lib.hid (HK0.out.trans (hb1.mono HK0.out.size))
      have HS1 : Hid _ := Lib.hid (HV.out v1 HK1.out)
      refine hK.out _ _ HS1.out (fun _ => ?_)
      clear hK K hb1
      try simp only [Act.put, List.setIfInBounds_toArray, List.set_cons_zero, List.set_cons_succ]
      refine wpAnyH_ready (rs := [10]) (by kernel_rfl) (by simp) ?_
      refine AllReadyH.cons (o := ⟨some 106, _, _, _, _, _⟩) rfl (fun K hK => ?_) AllReadyH.nil
      rw [if_pos (by kernel_rfl)]
      go_simp
      go_at_call 59
      refine (HST.out _).mono ?_
      rintro e v2 ⟨rfl, hb2⟩
      have HK2 : Hid (Below w4.heap.size w4 v2) := Lib.hid (HK1.out.trans (hb2.mono HK1.out.size))
      have HS2 : Hid _ := Lib.hid (HV.out v2 HK2.out)
      refine hK.out _ _ HS2.out (fun _ => ?_)
      clear hK K hb2
      try simp only [Act.put, List.setIfInBounds_toArray, List.set_cons_zero, List.set_cons_succ]
      refine wpAnyH_take (i := 11) (oi := ⟨some 107, _, _, _, _, _⟩) (v := .bool false) rfl (by kernel_rfl) (by kernel_rfl) (by kernel_rfl) (fun _ _ _ h => h) (Or.inl ⟨by kernel_rfl, fun w9 hS => ?_⟩) HS2.out ?_
      · clear hS
        go_simp
      try simp only [Act.put, List.setIfInBounds_toArray, List.set_cons_zero, List.set_cons_succ]
      refine wpAnyH_take (i := 12) (oi := ⟨some 108, _, _, _, _, _⟩) (v := .bool false) rfl (by kernel_rfl) (by kernel_rfl) (by kernel_rfl) (fun _ _ _ h => h) (Or.inl ⟨by kernel_rfl, fun w9 hS => ?_⟩) HS2.out ?_
      · clear hS
        go_simp
      try simp only [Act.put, List.setIfInBounds_toArray, List.set_cons_zero, List.set_cons_succ]
      refine wpAnyH_take (i := 13) (oi := ⟨some 109, _, _, _, _, _⟩) (v := .slice (some ⟨ba, oa, none⟩) F.n F.c) rfl (by kernel_rfl) (by kernel_rfl) (by kernel_rfl) (fun _ _ _ h => h) (Or.inl ⟨by kernel_rfl, fun w9 hS => ?_⟩) HS2.out ?_
      · clear hS
        go_simp
      try simp only [Act.put, List.setIfInBounds_toArray, List.set_cons_zero, List.set_cons_succ]
      refine wpAnyH_take (i := 14) (oi := ⟨some 110, _, _, _, _, _⟩) (v := .int .i64 ((k : Int) + 1)) rfl (by kernel_rfl) (by kernel_rfl) (by kernel_rfl) (fun _ _ _ h => h) (Or.inl ⟨by kernel_rfl, fun w9 hS => ?_⟩) HS2.out ?_
      · clear hS
        go_simp
      try simp only [Act.put, List.setIfInBounds_toArray, List.set_cons_zero, List.set_cons_succ]
      refine wpAnyH_take (i := 15) (oi := ⟨some 111, _, _, _, _, _⟩) (v := .int .i64 (k : Int)) rfl (by kernel_rfl) (by kernel_rfl) (by kernel_rfl) (fun _ _ _ h => h) (Or.inl ⟨by kernel_rfl, fun w9 hS => ?_⟩) HS2.out ?_
      · clear hS
        go_simp
      try simp only [Act.put, List.setIfInBounds_toArray, List.set_cons_zero, List.set_cons_succ]
      refine wpAnyH_take (i := 16) (oi := ⟨some 112, _, _, _, _, _⟩) (v := .pointer (some ⟨ba, oa + k * 2, none⟩)) rfl (by kernel_rfl) (by kernel_rfl) (by kernel_rfl) (fun _ _ _ h => h) (Or.inl ⟨by kernel_rfl, fun w9 hS => ?_⟩) HS2.out ?_
      · clear hS
        go_simp
      try simp only [Act.put, List.setIfInBounds_toArray, List.set_cons_zero, List.set_cons_succ]
      refine wpAnyH_take (i := 17) (oi := ⟨some 113, _, _, _, _, _⟩) (v := .pointer (some ⟨ba, oa + k * 2, none⟩)) rfl (by kernel_rfl) (by kernel_rfl) (by kernel_rfl) (fun _ _ _ h => h) (Or.inl ⟨by kernel_rfl, fun w9 hS => ?_⟩) HS2.out ?_
      · clear hS
        go_simp
      try simp only [Act.put, List.setIfInBounds_toArray, List.set_cons_zero, List.set_cons_succ]
      refine wpAnyH_take (i := 18) (oi := ⟨some 114, _, _, _, _, _⟩) (v := .int .i64 1) rfl (by kernel_rfl) (by kernel_rfl) (by kernel_rfl) (fun _ _ _ h => h) (Or.inl ⟨by kernel_rfl, fun w9 hS => ?_⟩) HS2.out ?_
      · obtain ⟨x0, x1, x2, x3, x4, x5, d0, d1⟩ := hS
        go_simp
      try simp only [Act.put, List.setIfInBounds_toArray, List.set_cons_zero, List.set_cons_succ]
      refine wpAnyH_take (i := 19) (oi := ⟨some 115, _, _, _, _, _⟩) (v := .bool true) rfl (by kernel_rfl) (by kernel_rfl) (by kernel_rfl) (fun _ _ _ h => h) (Or.inl ⟨by kernel_rfl, fun w9 hS => ?_⟩) HS2.out ?_
      · clear hS
        go_simp
      try simp only [Act.put, List.setIfInBounds_toArray, List.set_cons_zero, List.set_cons_succ]
      refine wpAnyH_take (i := 20) (oi := ⟨some 116, _, _, _, _, _⟩) (v := .bool true) rfl (by kernel_rfl) (by kernel_rfl) (by kernel_rfl) (fun _ _ _ h => h) (Or.inl ⟨by kernel_rfl, fun w9 hS => ?_⟩) HS2.out ?_
      · clear hS
        go_simp
      try simp only [Act.put, List.setIfInBounds_toArray, List.set_cons_zero, List.set_cons_succ]
      refine wpAnyH_ready (rs := [21]) (by kernel_rfl) (by simp) ?_
      refine AllReadyH.cons (o := ⟨some 117, _, _, _, _, _⟩) rfl (fun K hK => ?_) AllReadyH.nil
      rw [if_pos (by kernel_rfl)]
      go_simp
      go_at_call 58
      refine (HAR.out _).mono ?_
      rintro e v3 ⟨rfl, hb3⟩
      have HK3 : Hid (Below w4.heap.size w4 v3) := Lib.hid (HK2.out.trans (hb3.mono HK2.out.size))
      have HS3 : Hid _ := Lib.hid (HV.out v3 HK3.out)
      refine hK.out _ _ HS3.out (fun _ => ?_)
      clear hK K hb3
      try simp only [Act.put, List.setIfInBounds_toArray, List.set_cons_zero, List.set_cons_succ]
      refine wpAnyH_take (i := 22) (oi := ⟨some 118, _, _, _, _, _⟩) (v := .string z1) rfl (by kernel_rfl) (by kernel_rfl) (by kernel_rfl) (fun _ _ _ h => h) (Or.inl ⟨by kernel_rfl, fun w9 hS => ?_⟩) HS3.out ?_
      · clear hS
        go_simp
      try simp only [Act.put, List.setIfInBounds_toArray, List.set_cons_zero, List.set_cons_succ]
      refine wpAnyH_take (i := 23) (oi := ⟨some 6, _, _, _, _, _⟩) (v := .string z1) rfl (by kernel_rfl) (by kernel_rfl) (by kernel_rfl) (fun _ _ _ h => h) (Or.inl ⟨by kernel_rfl, fun w9 hS => ?_⟩) HS3.out ?_
      · clear hS
        go_simp
      try simp only [Act.put, List.setIfInBounds_toArray, List.set_cons_zero, List.set_cons_succ]
      refine wpAnyH_done (by kernel_rfl) ?_ _
      have HB9 : Hid (Below g w v3) := Lib.hid (HB4.out.trans (HK3.out.mono (by have := HB4.out.size; omega)))
      clear HPC
      go_wp2
      go_ret
      exact ⟨by rw [HE.out]; rfl, by first | exact HB9.out | (rw [hgn]; exact HB9.out)⟩
    · have HNG : Hid (negT (r1, r2) t = t) := Lib.hid (by unfold negT; rw [if_neg h1, ← st_bnd (Nat.le_refl 6), HQ.out]; exact if_neg hq)
      have HAR : Hid (∀ W, Calls Tryz.prog 58 #[.string t, .bool false] W fun e w' => e = .returned (.string v) ∧ Below W.heap.size W w') := Lib.hid (fun W => by
        have h := refAround_any t false W (by have := HTS.out; omega)
        rw [show (if false = true then brB t else t) = v by rw [← HV9.out, HNG.out]; rfl] at h
        exact h)
      have HV : Hid (∀ W, Below w4.heap.size w4 W → W.cell? ⟨g, 0, none⟩ = some (.slice F.X.a1 F.X.n1 F.X.c1) ∧ W.cell? ⟨g, 1, none⟩ = some (.slice F.X.a2 F.X.n2 F.X.c2) ∧ W.cell? ⟨g, 2, none⟩ = some (.slice F.X.a3 F.X.n3 F.X.c3) ∧ W.cell? ⟨g, 3, none⟩ = some (.slice F.X.a4 F.X.n4 F.X.c4) ∧ W.cell? ⟨g, 4, none⟩ = some (.slice F.X.a5 F.X.n5 F.X.c5) ∧ W.cell? ⟨g, 5, none⟩ = some (.int .i64 F.X.self) ∧ W.cell? ⟨ba, oa + k * 2, none⟩ = some (.int .i64 r1) ∧ W.cell? ⟨ba, oa + k * 2 + 1, none⟩ = some (.int .i64 r2)) := Lib.hid (fun W hW => ⟨(hW.cell (p := ⟨g, 0, none⟩) hz5).trans x0, (hW.cell (p := ⟨g, 1, none⟩) hz5).trans x1, (hW.cell (p := ⟨g, 2, none⟩) hz5).trans x2, (hW.cell (p := ⟨g, 3, none⟩) hz5).trans x3, (hW.cell (p := ⟨g, 4, none⟩) hz5).trans x4, (hW.cell (p := ⟨g, 5, none⟩) hz5).trans x5, (hW.cell (p := ⟨ba, oa + k * 2, none⟩) hba2).trans d0, (hW.cell (p := ⟨ba, oa + k * 2 + 1, none⟩) hba2).trans d1⟩)
      clear x0 x1 x2 x3 x4 x5 d0 d1
      refine wp_region_held_drew (S := (fun w' => w'.cell? ⟨g, 0, none⟩ = some (.slice F.X.a1 F.X.n1 F.X.c1) ∧ w'.cell? ⟨g, 1, none⟩ = some (.slice F.X.a2 F.X.n2 F.X.c2) ∧ w'.cell? ⟨g, 2, none⟩ = some (.slice F.X.a3 F.X.n3 F.X.c3) ∧ w'.cell? ⟨g, 3, none⟩ = some (.slice F.X.a4 F.X.n4 F.X.c4) ∧ w'.cell? ⟨g, 4, none⟩ = some (.slice F.X.a5 F.X.n5 F.X.c5) ∧ w'.cell? ⟨g, 5, none⟩ = some (.int .i64 F.X.self) ∧ w'.cell? ⟨ba, oa + k * 2, none⟩ = some (.int .i64 r1) ∧ w'.cell? ⟨ba, oa + k * 2 + 1, none⟩ = some (.int .i64 r2))) (by kernel_rfl) (HV.out w4.drew (Below.refl _ w4).drew) (fun hS0 => ?_)
      have HS0 := Lib.hid hS0
      clear hS0
      simp only [Array.replicate, List.replicate]
      refine wpAnyH_take (i := 0) (oi := ⟨some 96, _, _, _, _, _⟩) (v := .slice (some ⟨ba, oa, none⟩) F.n F.c) rfl (by kernel_rfl) (by kernel_rfl) (by kernel_rfl) (fun _ _ _ h => h) (Or.inl ⟨by kernel_rfl, fun w9 hS => ?_⟩) HS0.out ?_
      · clear hS
        go_simp
      try simp only [Act.put, List.setIfInBounds_toArray, List.set_cons_zero, List.set_cons_succ]
      refine wpAnyH_take (i := 1) (oi := ⟨some 97, _, _, _, _, _⟩) (v := .agg #[.slice F.X.a1 F.X.n1 F.X.c1, .slice F.X.a2 F.X.n2 F.X.c2, .slice F.X.a3 F.X.n3 F.X.c3, .slice F.X.a4 F.X.n4 F.X.c4, .slice F.X.a5 F.X.n5 F.X.c5, .int .i64 F.X.self]) rfl (by kernel_rfl) (by kernel_rfl) (by kernel_rfl) (fun _ _ _ h => h) (Or.inl ⟨by kernel_rfl, fun w9 hS => ?_⟩) HS0.out ?_
      · obtain ⟨x0, x1, x2, x3, x4, x5, d0, d1⟩ := hS
        go_simp
      try simp only [Act.put, List.setIfInBounds_toArray, List.set_cons_zero, List.set_cons_succ]
      refine wpAnyH_take (i := 2) (oi := ⟨some 98, _, _, _, _, _⟩) (v := .int .i64 ((k : Int) + 1)) rfl (by kernel_rfl) (by kernel_rfl) (by kernel_rfl) (fun _ _ _ h => h) (Or.inl ⟨by kernel_rfl, fun w9 hS => ?_⟩) HS0.out ?_
      · clear hS
        go_simp
      try simp only [Act.put, List.setIfInBounds_toArray, List.set_cons_zero, List.set_cons_succ]
      refine wpAnyH_take (i := 3) (oi := ⟨some 99, _, _, _, _, _⟩) (v := .int .i64 (k : Int)) rfl (by kernel_rfl) (by kernel_rfl) (by kernel_rfl) (fun _ _ _ h => h) (Or.inl ⟨by kernel_rfl, fun w9 hS => ?_⟩) HS0.out ?_
      · clear hS
        go_simp
      try simp only [Act.put, List.setIfInBounds_toArray, List.set_cons_zero, List.set_cons_succ]
      refine wpAnyH_take (i := 5) (oi := ⟨some 101, _, _, _, _, _⟩) (v := .slice (some ⟨ba, oa, none⟩) F.n F.c) rfl (by kernel_rfl) (by kernel_rfl) (by kernel_rfl) (fun _ _ _ h => h) (Or.inl ⟨by kernel_rfl, fun w9 hS => ?_⟩) HS0.out ?_
      · clear hS
        go_simp
      try simp only [Act.put, List.setIfInBounds_toArray, List.set_cons_zero, List.set_cons_succ]
      refine wpAnyH_take (i := 6) (oi := ⟨some 102, _, _, _, _, _⟩) (v := .int .i64 ((k : Int) + 1)) rfl (by kernel_rfl) (by kernel_rfl) (by kernel_rfl) (fun _ _ _ h => h) (Or.inl ⟨by kernel_rfl, fun w9 hS => ?_⟩) HS0.out ?_
      · clear hS
        go_simp
      try simp only [Act.put, List.setIfInBounds_toArray, List.set_cons_zero, List.set_cons_succ]
      refine wpAnyH_take (i := 7) (oi := ⟨some 103, _, _, _, _, _⟩) (v := .int .i64 (k : Int)) rfl (by kernel_rfl) (by kernel_rfl) (by kernel_rfl) (fun _ _ _ h => h) (Or.inl ⟨by kernel_rfl, fun w9 hS => ?_⟩) HS0.out ?_
      · clear hS
        go_simp
      try simp only [Act.put, List.setIfInBounds_toArray, List.set_cons_zero, List.set_cons_succ]
      refine wpAnyH_take (i := 8) (oi := ⟨some 104, _, _, _, _, _⟩) (v := .pointer (some ⟨ba, oa + k * 2, none⟩)) rfl (by kernel_rfl) (by kernel_rfl) (by kernel_rfl) (fun _ _ _ h => h) (Or.inl ⟨by kernel_rfl, fun w9 hS => ?_⟩) HS0.out ?_
      · clear hS
        go_simp
      try simp only [Act.put, List.setIfInBounds_toArray, List.set_cons_zero, List.set_cons_succ]
      refine wpAnyH_take (i := 9) (oi := ⟨some 105, _, _, _, _, _⟩) (v := .agg #[.int .i64 r1, .int .i64 r2]) rfl (by kernel_rfl) (by kernel_rfl) (by kernel_rfl) (fun _ _ _ h => h) (Or.inl ⟨by kernel_rfl, fun w9 hS => ?_⟩) HS0.out ?_
      · obtain ⟨x0, x1, x2, x3, x4, x5, d0, d1⟩ := hS
        go_simp
      try simp only [Act.put, List.setIfInBounds_toArray, List.set_cons_zero, List.set_cons_succ]
      refine wpAnyH_ready (rs := [4]) (by kernel_rfl) (by simp) ?_
      refine AllReadyH.cons (o := ⟨some 100, _, _, _, _, _⟩) rfl (fun K hK => ?_) AllReadyH.nil
      rw [if_pos (by kernel_rfl)]
      go_simp
      go_at_call 24
      refine (HPC.out _ HK0.out).mono ?_
      rintro e v1 ⟨rfl, hb1⟩
      have HK1 : Hid (Below w4.heap.size w4 v1) := Lib.hid (HK0.out.trans (hb1.mono HK0.out.size))
      have HS1 : Hid _ := Lib.hid (HV.out v1 HK1.out)
      refine hK.out _ _ HS1.out (fun _ => ?_)
      clear hK K hb1
      try simp only [Act.put, List.setIfInBounds_toArray, List.set_cons_zero, List.set_cons_succ]
      refine wpAnyH_ready (rs := [10]) (by kernel_rfl) (by simp) ?_
      refine AllReadyH.cons (o := ⟨some 106, _, _, _, _, _⟩) rfl (fun K hK => ?_) AllReadyH.nil
      rw [if_pos (by kernel_rfl)]
      go_simp
      go_at_call 59
      refine (HST.out _).mono ?_
      rintro e v2 ⟨rfl, hb2⟩
      have HK2 : Hid (Below w4.heap.size w4 v2) := Lib.hid (HK1.out.trans (hb2.mono HK1.out.size))
      have HS2 : Hid _ := Lib.hid (HV.out v2 HK2.out)
      refine hK.out _ _ HS2.out (fun _ => ?_)
      clear hK K hb2
      try simp only [Act.put, List.setIfInBounds_toArray, List.set_cons_zero, List.set_cons_succ]
      refine wpAnyH_take (i := 11) (oi := ⟨some 107, _, _, _, _, _⟩) (v := .bool false) rfl (by kernel_rfl) (by kernel_rfl) (by kernel_rfl) (fun _ _ _ h => h) (Or.inl ⟨by kernel_rfl, fun w9 hS => ?_⟩) HS2.out ?_
      · clear hS
        go_simp
      try simp only [Act.put, List.setIfInBounds_toArray, List.set_cons_zero, List.set_cons_succ]
      refine wpAnyH_take (i := 12) (oi := ⟨some 108, _, _, _, _, _⟩) (v := .bool false) rfl (by kernel_rfl) (by kernel_rfl) (by kernel_rfl) (fun _ _ _ h => h) (Or.inl ⟨by kernel_rfl, fun w9 hS => ?_⟩) HS2.out ?_
      · clear hS
        go_simp
      try simp only [Act.put, List.setIfInBounds_toArray, List.set_cons_zero, List.set_cons_succ]
      refine wpAnyH_take (i := 13) (oi := ⟨some 109, _, _, _, _, _⟩) (v := .slice (some ⟨ba, oa, none⟩) F.n F.c) rfl (by kernel_rfl) (by kernel_rfl) (by kernel_rfl) (fun _ _ _ h => h) (Or.inl ⟨by kernel_rfl, fun w9 hS => ?_⟩) HS2.out ?_
      · clear hS
        go_simp
      try simp only [Act.put, List.setIfInBounds_toArray, List.set_cons_zero, List.set_cons_succ]
      refine wpAnyH_take (i := 14) (oi := ⟨some 110, _, _, _, _, _⟩) (v := .int .i64 ((k : Int) + 1)) rfl (by kernel_rfl) (by kernel_rfl) (by kernel_rfl) (fun _ _ _ h => h) (Or.inl ⟨by kernel_rfl, fun w9 hS => ?_⟩) HS2.out ?_
      · clear hS
        go_simp
      try simp only [Act.put, List.setIfInBounds_toArray, List.set_cons_zero, List.set_cons_succ]
      refine wpAnyH_take (i := 15) (oi := ⟨some 111, _, _, _, _, _⟩) (v := .int .i64 (k : Int)) rfl (by kernel_rfl) (by kernel_rfl) (by kernel_rfl) (fun _ _ _ h => h) (Or.inl ⟨by kernel_rfl, fun w9 hS => ?_⟩) HS2.out ?_
      · clear hS
        go_simp
      try simp only [Act.put, List.setIfInBounds_toArray, List.set_cons_zero, List.set_cons_succ]
      refine wpAnyH_take (i := 16) (oi := ⟨some 112, _, _, _, _, _⟩) (v := .pointer (some ⟨ba, oa + k * 2, none⟩)) rfl (by kernel_rfl) (by kernel_rfl) (by kernel_rfl) (fun _ _ _ h => h) (Or.inl ⟨by kernel_rfl, fun w9 hS => ?_⟩) HS2.out ?_
      · clear hS
        go_simp
      try simp only [Act.put, List.setIfInBounds_toArray, List.set_cons_zero, List.set_cons_succ]
      refine wpAnyH_take (i := 17) (oi := ⟨some 113, _, _, _, _, _⟩) (v := .pointer (some ⟨ba, oa + k * 2, none⟩)) rfl (by kernel_rfl) (by kernel_rfl) (by kernel_rfl) (fun _ _ _ h => h) (Or.inl ⟨by kernel_rfl, fun w9 hS => ?_⟩) HS2.out ?_
      · clear hS
        go_simp
      try simp only [Act.put, List.setIfInBounds_toArray, List.set_cons_zero, List.set_cons_succ]
      refine wpAnyH_take (i := 18) (oi := ⟨some 114, _, _, _, _, _⟩) (v := .int .i64 r1) rfl (by kernel_rfl) (by kernel_rfl) (by kernel_rfl) (fun _ _ _ h => h) (Or.inl ⟨by kernel_rfl, fun w9 hS => ?_⟩) HS2.out ?_
      · obtain ⟨x0, x1, x2, x3, x4, x5, d0, d1⟩ := hS
        go_simp
      try simp only [Act.put, List.setIfInBounds_toArray, List.set_cons_zero, List.set_cons_succ]
      refine wpAnyH_take (i := 19) (oi := ⟨some 115, _, _, _, _, _⟩) (v := .bool false) rfl (by kernel_rfl) (by kernel_rfl) (by kernel_rfl) (fun _ _ _ h => h) (Or.inl ⟨by kernel_rfl, fun w9 hS => ?_⟩) HS2.out ?_
      · clear hS
        go_simp
      try simp only [Act.put, List.setIfInBounds_toArray, List.set_cons_zero, List.set_cons_succ]
      refine wpAnyH_take (i := 20) (oi := ⟨some 116, _, _, _, _, _⟩) (v := .bool false) rfl (by kernel_rfl) (by kernel_rfl) (by kernel_rfl) (fun _ _ _ h => h) (Or.inl ⟨by kernel_rfl, fun w9 hS => ?_⟩) HS2.out ?_
      · clear hS
        go_simp
      try simp only [Act.put, List.setIfInBounds_toArray, List.set_cons_zero, List.set_cons_succ]
      refine wpAnyH_ready (rs := [21]) (by kernel_rfl) (by simp) ?_
      refine AllReadyH.cons (o := ⟨some 117, _, _, _, _, _⟩) rfl (fun K hK => ?_) AllReadyH.nil
      rw [if_pos (by kernel_rfl)]
      go_simp
      go_at_call 58
      refine (HAR.out _).mono ?_
      rintro e v3 ⟨rfl, hb3⟩
      have HK3 : Hid (Below w4.heap.size w4 v3) := Lib.hid (HK2.out.trans (hb3.mono HK2.out.size))
      have HS3 : Hid _ := Lib.hid (HV.out v3 HK3.out)
      refine hK.out _ _ HS3.out (fun _ => ?_)
      clear hK K hb3
      try simp only [Act.put, List.setIfInBounds_toArray, List.set_cons_zero, List.set_cons_succ]
      refine wpAnyH_take (i := 22) (oi := ⟨some 118, _, _, _, _, _⟩) (v := .string z1) rfl (by kernel_rfl) (by kernel_rfl) (by kernel_rfl) (fun _ _ _ h => h) (Or.inl ⟨by kernel_rfl, fun w9 hS => ?_⟩) HS3.out ?_
      · clear hS
        go_simp
      try simp only [Act.put, List.setIfInBounds_toArray, List.set_cons_zero, List.set_cons_succ]
      refine wpAnyH_take (i := 23) (oi := ⟨some 6, _, _, _, _, _⟩) (v := .string z1) rfl (by kernel_rfl) (by kernel_rfl) (by kernel_rfl) (fun _ _ _ h => h) (Or.inl ⟨by kernel_rfl, fun w9 hS => ?_⟩) HS3.out ?_
      · clear hS
        go_simp
      try simp only [Act.put, List.setIfInBounds_toArray, List.set_cons_zero, List.set_cons_succ]
      refine wpAnyH_done (by kernel_rfl) ?_ _
      have HB9 : Hid (Below g w v3) := Lib.hid (HB4.out.trans (HK3.out.mono (by have := HB4.out.size; omega)))
      clear HPC
      go_wp2
      go_ret
      exact ⟨by rw [HE.out]; rfl, by first | exact HB9.out | (rw [hgn]; exact HB9.out)⟩
set_option maxRecDepth 20000 in
set_option maxHeartbeats 4000000 in
theorem rpB (F : Wr) (k : Nat) (op n : Int) (hk : k + 1 < F.e.length) (hnd : F.e.getD (k + 1) (0, 0) = (op, n)) (ht : There F.N (op, n)) (hs : (nameB F.N (op, n)).size ≤ 1000) (h0 : -9223372036854775808 ≤ n) (h9 : n ≤ 9223372036854775807) (hop : 11 ≤ op) (m : Nat) (ta tb : ByteArray) (ra rb : Int × Int) (hpa : RpK F m ta) (hpb : RpK F k tb) (hm : m < k) (hbg : F.B.getD k 0 = ((m + 1 : Nat) : Int)) (hra : F.e.getD m (0, 0) = ra) (hrb : F.e.getD k (0, 0) = rb) (hsa : ta.size ≤ 1000000000) (hsb : tb.size ≤ 1000000000) (p : Int × Nat × ByteArray × Nat) (hp : pOf op = some p) :
    RpK F (k + 1) (biT (op, n) ra rb ta tb) := by
  intro w h
  have hb1 := below_alloc1 w (.cells #[.slice F.X.a1 F.X.n1 F.X.c1, .slice F.X.a2 F.X.n2 F.X.c2, .slice F.X.a3 F.X.n3 F.X.c3, .slice F.X.a4 F.X.n4 F.X.c4, .slice F.X.a5 F.X.n5 F.X.c5, .int .i64 F.X.self] 28)
  have H1 := Lib.hid (h.below hb1)
  have HBX1 : Hid (Bx (w.alloc (.cells #[.slice F.X.a1 F.X.n1 F.X.c1, .slice F.X.a2 F.X.n2 F.X.c2, .slice F.X.a3 F.X.n3 F.X.c3, .slice F.X.a4 F.X.n4 F.X.c4, .slice F.X.a5 F.X.n5 F.X.c5, .int .i64 F.X.self] 28)) w.heap.size F.X) := Lib.hid (Bx.new w F.X 28)
  have HB1 := Lib.hid hb1
  have hkn : ((k : Int) + 1) < (F.n : Int) := by rw [h.n]; omega
  have hk0 : (0 : Int) ≤ ((k : Int) + 1) := by omega
  have hk00 : (0 : Int) ≤ (k : Int) := by omega
  have hk9 : (k : Int) ≤ 1000000 := by have := h.ln; omega
  have HTH := Lib.hid ht
  have HN0 := Lib.hid h0
  have HN9 := Lib.hid h9
  have HSZ := Lib.hid hs
  obtain ⟨nm, hr1⟩ : ∃ x, (rnB F.N (op, n)).1 = x := ⟨_, rfl⟩
  obtain ⟨a1, a2⟩ := ra
  obtain ⟨b1, b2⟩ := rb
  obtain ⟨po, sr, sg, fn⟩ := p
  obtain ⟨hst, hsg, hs5, hs1, hsz⟩ := st_pair (n := n) hp
  dsimp only at hst hsg hs5 hs1 hsz
  have HPA := Lib.hid hpa
  have HPB := Lib.hid hpb
  have HBG := Lib.hid hbg
  have HRA := Lib.hid hra
  have HRB := Lib.hid hrb
  have HSA := Lib.hid hsa
  have HSB := Lib.hid hsb
  have HM := Lib.hid hm
  have HKL : Hid (k < F.e.length) := Lib.hid (by omega)
  have HS5 := Lib.hid hs5
  have HS1 := Lib.hid hs1
  have HGZ := Lib.hid hsz
  have HOP := Lib.hid hp
  have HSX : Hid (∀ W, Calls Tryz.prog 59 #[.agg #[.int .i64 op, .int .i64 n]] W fun e w' => e = .returned (.int .i64 (sr : Nat)) ∧ Below W.heap.size W w') := Lib.hid (fun W => by rw [← hst]; exact refStrength_any (op, n) W)
  have HSG : Hid (∀ W, Calls Tryz.prog 60 #[.int .i64 op] W fun e w' => e = .returned (.string sg) ∧ Below W.heap.size W w') := Lib.hid (fun W => by rw [← hsg]; exact refSign_any op W)
  obtain ⟨qa, HQA⟩ : ∃ q, Hid (stR (a1, a2) = q) := ⟨_, Lib.hid rfl⟩
  obtain ⟨qb, HQB⟩ : ∃ q, Hid (stR (b1, b2) = q) := ⟨_, Lib.hid rfl⟩
  have HSTA : Hid (∀ W, Calls Tryz.prog 59 #[.agg #[.int .i64 a1, .int .i64 a2]] W fun e w' => e = .returned (.int .i64 qa) ∧ Below W.heap.size W w') := Lib.hid (fun W => by rw [← HQA.out]; exact refStrength_any (a1, a2) W)
  have HSTB : Hid (∀ W, Calls Tryz.prog 59 #[.agg #[.int .i64 b1, .int .i64 b2]] W fun e w' => e = .returned (.int .i64 qb) ∧ Below W.heap.size W w') := Lib.hid (fun W => by rw [← HQB.out]; exact refStrength_any (b1, b2) W)
  have hk1000 : k ≤ 1000 := by have := h.ln; omega
  have hv1 : IntKind.i64.wrap ((k : Int) + 1 - 1) = (k : Int) := by rw [IntKind.wrap_i64]; omega
  have hv2 : IntKind.i64.wrap ((m : Int) + 1 - 1) = (m : Int) := by rw [IntKind.wrap_i64]; omega
  have hv4 : IntKind.i64.wrap (k : Int) = (k : Int) := by rw [IntKind.wrap_i64]; omega
  have hv5 : IntKind.i64.wrap (m : Int) = (m : Int) := by rw [IntKind.wrap_i64]; omega
  have hw2 : wrap64 ((k : Int) + 1 - 1) = (k : Int) := by unfold wrap64; omega
  have hw5 : wrap64 ((m : Int) + 1 - 1) = (m : Int) := by unfold wrap64; omega
  have hw3 : (k : Int) + 1 - 1 = (k : Int) := by omega
  have hw6 : (m : Int) + 1 - 1 = (m : Int) := by omega
  have hkl : (k : Int) < (F.n : Int) := by omega
  have hml : (m : Int) < (F.n : Int) := by omega
  have hm0 : (0 : Int) ≤ (m : Int) := by omega
  have hkb : (k : Int) < (F.B.length : Int) := by rw [h.lb]; omega
  have q1 : ¬ op = 1 := by omega
  have q2 : ¬ op = 2 := by omega
  have q3 : ¬ op = 3 := by omega
  have q4 : ¬ op = 4 := by omega
  have q5 : ¬ op = 5 := by omega
  have q6 : ¬ op = 6 := by omega
  have q7 : ¬ op = 7 := by omega
  have q8 : ¬ op = 8 := by omega
  have q9 : ¬ op = 9 := by omega
  have q10 : ¬ op = 10 := by omega
  clear hpa hpb hbg hra hrb hsa hsb hm hp hop hst hsg hs5 hs1 hsz hk1000
  obtain ⟨isn, hr2⟩ : ∃ x, (rnB F.N (op, n)).2 = x := ⟨_, rfl⟩
  have HR1 := Lib.hid hr1
  have HR2 := Lib.hid hr2
  clear h hb1 ht h0 h9 hs hr1 hr2
  obtain ⟨ba, oa, hA, hba, hc⟩ := H1.out.pa (by omega)
  obtain ⟨d0, d1⟩ := hc (k + 1) hk
  rw [hnd] at d0 d1
  dsimp only at d0 d1
  clear hc
  unfold ScX.v
  rw [hA, show ((k + 1 : Nat) : Int) = ((k : Int) + 1) from rfl]
  go_enter Tryz.func24, Tryz.ntmps24
  go_upto_region 1 with (fail)
  generalize hgn : w.heap.size = g at *
  generalize w.alloc (.cells #[.slice F.X.a1 F.X.n1 F.X.c1, .slice F.X.a2 F.X.n2 F.X.c2, .slice F.X.a3 F.X.n3 F.X.c3, .slice F.X.a4 F.X.n4 F.X.c4, .slice F.X.a5 F.X.n5 F.X.c5, .int .i64 F.X.self] 28) = w1 at *
  have hb2 := below_alloc1 w1 (.cells #[.int .i64 op, .int .i64 n] 39)
  have H2 := Lib.hid (H1.out.below hb2)
  have HB2 := Lib.hid (HB1.out.trans (hb2.mono (by have := HB1.out.size; omega)))
  have HBX2 := Lib.hid (HBX1.out.below hb2)
  have HNB2 : Hid ((w1.alloc (.cells #[.int .i64 op, .int .i64 n] 39)).heap[w1.heap.size]? = some (.cells #[.int .i64 op, .int .i64 n] 39 (0, 0))) := Lib.hid (World.alloc_heap_new w1 _)
  go_upto_region 2 with (fail)
  clear d0 d1 hb2
  generalize hpn : w1.heap.size = pb at *
  generalize w1.alloc (.cells #[.int .i64 op, .int .i64 n] 39) = w2 at *
  obtain ⟨⟨x0, x1, x2, x3, x4, x5⟩, _⟩ := HBX2.out
  have y0 : w2.cell? ⟨pb, 0, none⟩ = some (.int .i64 op) := cell_of_heap HNB2.out rfl
  have y1 : w2.cell? ⟨pb, 1, none⟩ = some (.int .i64 n) := cell_of_heap HNB2.out rfl
  have HNC := refNm_any F.X F.N (op, n) w2 H2.out.nm HTH.out H2.out.lens
  unfold RnP at HNC
  rw [HR1.out, HR2.out] at HNC
  unfold ScX.v at HNC
  have HNC := Lib.hid HNC
  go_wp2_with fail
  refine HNC.out.mono ?_
  rintro e w3 ⟨rfl, hb3⟩
  have H3 := Lib.hid (H2.out.below hb3)
  have HB3 := Lib.hid (HB2.out.trans (hb3.mono (by have := HB2.out.size; omega)))
  have HBX3 := Lib.hid (HBX2.out.below hb3)
  have HNB3 : Hid (w3.heap[pb]? = some (.cells #[.int .i64 op, .int .i64 n] 39 (0, 0))) := Lib.hid ((hb3.block _ (Array.getElem?_eq_some_iff.1 HNB2.out).1).trans HNB2.out)
  clear x0 x1 x2 x3 x4 x5 y0 y1 hb3 HNC
  have HSC := refSpans_any F.e F.A F.c F.n w3 H3.out.n (by rw [H3.out.n]; exact H3.out.ln) H3.out.pa
  rw [H3.out.sp, hA] at HSC
  have HSC := Lib.hid HSC
  go_wp2_with fail
  refine HSC.out.mono ?_
  rintro e w4 ⟨hb4, A4, c4, rfl, hI4⟩
  have H4 := Lib.hid (H3.out.below hb4)
  have HB4 := Lib.hid (HB3.out.trans (hb4.mono (by have := HB3.out.size; omega)))
  have HBX4 := Lib.hid (HBX3.out.below hb4)
  have HNB4 : Hid (w4.heap[pb]? = some (.cells #[.int .i64 op, .int .i64 n] 39 (0, 0))) := Lib.hid ((hb4.block _ (Array.getElem?_eq_some_iff.1 HNB3.out).1).trans HNB3.out)
  have HI4 := Lib.hid hI4.ia
  clear hb4 hI4 HSC
  obtain ⟨⟨x0, x1, x2, x3, x4, x5⟩, hz5⟩ := HBX4.out
  have y0 : w4.cell? ⟨pb, 0, none⟩ = some (.int .i64 op) := cell_of_heap HNB4.out rfl
  have y1 : w4.cell? ⟨pb, 1, none⟩ = some (.int .i64 n) := cell_of_heap HNB4.out rfl
  have hzp : pb < w4.heap.size := (Array.getElem?_eq_some_iff.1 HNB4.out).1
  rw [← hgn]
  obtain ⟨ba2, oa2, hA2, hba2, hc2⟩ := H4.out.pa (by omega)
  cases Option.some.inj (hA.symm.trans hA2)
  obtain ⟨d0, d1⟩ := hc2 k HKL.out
  obtain ⟨f0, f1⟩ := hc2 m (by have := HKL.out; have := HM.out; omega)
  rw [HRB.out] at d0 d1
  rw [HRA.out] at f0 f1
  dsimp only at d0 d1 f0 f1
  obtain ⟨bb, ob, hAB, hbb, hbc⟩ := HI4.out (by rw [H4.out.lb]; have := HKL.out; omega)
  have t0 : w4.cell? ⟨bb, ob + k, none⟩ = some (.int .i64 ((m : Int) + 1)) := by rw [hbc k (by rw [H4.out.lb]; exact HKL.out), HBG.out]; rfl
  subst hAB
  clear hc2 hA2 hba hbc
  have HPCA : Hid (∀ W, Below w4.heap.size w4 W → Calls Tryz.prog 24 #[.slice (some ⟨ba, oa, none⟩) F.n F.c, .agg #[.slice F.X.a1 F.X.n1 F.X.c1, .slice F.X.a2 F.X.n2 F.X.c2, .slice F.X.a3 F.X.n3 F.X.c3, .slice F.X.a4 F.X.n4 F.X.c4, .slice F.X.a5 F.X.n5 F.X.c5, .int .i64 F.X.self], .int .i64 (m : Nat)] W fun e w' => e = .returned (.string ta) ∧ Below W.heap.size W w') := Lib.hid (fun W hW => by
    have h := HPA.out W (H4.out.below hW)
    unfold ScX.v at h
    rw [hA] at h
    exact h)
  have HPCB : Hid (∀ W, Below w4.heap.size w4 W → Calls Tryz.prog 24 #[.slice (some ⟨ba, oa, none⟩) F.n F.c, .agg #[.slice F.X.a1 F.X.n1 F.X.c1, .slice F.X.a2 F.X.n2 F.X.c2, .slice F.X.a3 F.X.n3 F.X.c3, .slice F.X.a4 F.X.n4 F.X.c4, .slice F.X.a5 F.X.n5 F.X.c5, .int .i64 F.X.self], .int .i64 (k : Nat)] W fun e w' => e = .returned (.string tb) ∧ Below W.heap.size W w') := Lib.hid (fun W hW => by
    have h := HPB.out W (H4.out.below hW)
    unfold ScX.v at h
    rw [hA] at h
    exact h)
  go_wp2_with fail
  refine (HSX.out w4).mono ?_
  rintro e w5 ⟨rfl, hb5⟩
  have x0w : w5.cell? ⟨g, 0, none⟩ = some (.slice F.X.a1 F.X.n1 F.X.c1) := (hb5.cell (p := ⟨g, 0, none⟩) hz5).trans x0
  have x1w : w5.cell? ⟨g, 1, none⟩ = some (.slice F.X.a2 F.X.n2 F.X.c2) := (hb5.cell (p := ⟨g, 1, none⟩) hz5).trans x1
  have x2w : w5.cell? ⟨g, 2, none⟩ = some (.slice F.X.a3 F.X.n3 F.X.c3) := (hb5.cell (p := ⟨g, 2, none⟩) hz5).trans x2
  have x3w : w5.cell? ⟨g, 3, none⟩ = some (.slice F.X.a4 F.X.n4 F.X.c4) := (hb5.cell (p := ⟨g, 3, none⟩) hz5).trans x3
  have x4w : w5.cell? ⟨g, 4, none⟩ = some (.slice F.X.a5 F.X.n5 F.X.c5) := (hb5.cell (p := ⟨g, 4, none⟩) hz5).trans x4
  have x5w : w5.cell? ⟨g, 5, none⟩ = some (.int .i64 F.X.self) := (hb5.cell (p := ⟨g, 5, none⟩) hz5).trans x5
  have y0w : w5.cell? ⟨pb, 0, none⟩ = some (.int .i64 op) := (hb5.cell (p := ⟨pb, 0, none⟩) hzp).trans y0
  have y1w : w5.cell? ⟨pb, 1, none⟩ = some (.int .i64 n) := (hb5.cell (p := ⟨pb, 1, none⟩) hzp).trans y1
  have d0w : w5.cell? ⟨ba, oa + k * 2, none⟩ = some (.int .i64 b1) := (hb5.cell (p := ⟨ba, oa + k * 2, none⟩) hba2).trans d0
  have d1w : w5.cell? ⟨ba, oa + k * 2 + 1, none⟩ = some (.int .i64 b2) := (hb5.cell (p := ⟨ba, oa + k * 2 + 1, none⟩) hba2).trans d1
  have f0w : w5.cell? ⟨ba, oa + m * 2, none⟩ = some (.int .i64 a1) := (hb5.cell (p := ⟨ba, oa + m * 2, none⟩) hba2).trans f0
  have f1w : w5.cell? ⟨ba, oa + m * 2 + 1, none⟩ = some (.int .i64 a2) := (hb5.cell (p := ⟨ba, oa + m * 2 + 1, none⟩) hba2).trans f1
  have t0w : w5.cell? ⟨bb, ob + k, none⟩ = some (.int .i64 ((m : Int) + 1)) := (hb5.cell (p := ⟨bb, ob + k, none⟩) hbb).trans t0
  have HK5 := Lib.hid hb5
  have hz5w : g < w5.heap.size := Nat.lt_of_lt_of_le hz5 hb5.size
  have hzpw : pb < w5.heap.size := Nat.lt_of_lt_of_le hzp hb5.size
  have hba2w : ba < w5.heap.size := Nat.lt_of_lt_of_le hba2 hb5.size
  clear hb5 x0 x1 x2 x3 x4 x5 y0 y1 d0 d1 f0 f1 t0
  go_upto_region 26 with (fail)
  clear t0w
  have HK0 : Hid (Below w5.heap.size w5 w5.drew) := Lib.hid (Below.refl _ w5).drew
  go_region_held3 (fun w' => w'.cell? ⟨ba, oa + k * 2, none⟩ = some (.int .i64 b1) ∧ w'.cell? ⟨ba, oa + k * 2 + 1, none⟩ = some (.int .i64 b2) ∧ w'.cell? ⟨ba, oa + m * 2, none⟩ = some (.int .i64 a1) ∧ w'.cell? ⟨ba, oa + m * 2 + 1, none⟩ = some (.int .i64 a2))
    (first | exact ⟨c2_0, c2_1, c2_2, c2_3⟩ | exact ⟨c1_0, c1_1, c1_2, c1_3⟩ | exact ⟨d0w, d1w, f0w, f1w⟩ | go_keep)
    ((first | (have hkk := HK1; clear hkk; go_at_call 59; refine (HSTB.out _).mono ?_; rintro e v2 ⟨ho, hb⟩; subst ho; have HK2 : Hid (Below w5.heap.size w5 v2) := Lib.hid (HK1.out.trans (hb.mono HK1.out.size)); have c2_0 := (HK2.out.cell (p := ⟨ba, oa + k * 2, none⟩) hba2w).trans d0w; have c2_1 := (HK2.out.cell (p := ⟨ba, oa + k * 2 + 1, none⟩) hba2w).trans d1w; have c2_2 := (HK2.out.cell (p := ⟨ba, oa + m * 2, none⟩) hba2w).trans f0w; have c2_3 := (HK2.out.cell (p := ⟨ba, oa + m * 2 + 1, none⟩) hba2w).trans f1w; clear hb) | (have hkk := HK0; clear hkk; go_at_call 59; refine (HSTA.out _).mono ?_; rintro e v1 ⟨ho, hb⟩; subst ho; have HK1 : Hid (Below w5.heap.size w5 v1) := Lib.hid (HK0.out.trans (hb.mono HK0.out.size)); have c1_0 := (HK1.out.cell (p := ⟨ba, oa + k * 2, none⟩) hba2w).trans d0w; have c1_1 := (HK1.out.cell (p := ⟨ba, oa + k * 2 + 1, none⟩) hba2w).trans d1w; have c1_2 := (HK1.out.cell (p := ⟨ba, oa + m * 2, none⟩) hba2w).trans f0w; have c1_3 := (HK1.out.cell (p := ⟨ba, oa + m * 2 + 1, none⟩) hba2w).trans f1w; clear hb)))
  have x0v : v2.cell? ⟨g, 0, none⟩ = some (.slice F.X.a1 F.X.n1 F.X.c1) := (HK2.out.cell (p := ⟨g, 0, none⟩) hz5w).trans x0w
  have x1v : v2.cell? ⟨g, 1, none⟩ = some (.slice F.X.a2 F.X.n2 F.X.c2) := (HK2.out.cell (p := ⟨g, 1, none⟩) hz5w).trans x1w
  have x2v : v2.cell? ⟨g, 2, none⟩ = some (.slice F.X.a3 F.X.n3 F.X.c3) := (HK2.out.cell (p := ⟨g, 2, none⟩) hz5w).trans x2w
  have x3v : v2.cell? ⟨g, 3, none⟩ = some (.slice F.X.a4 F.X.n4 F.X.c4) := (HK2.out.cell (p := ⟨g, 3, none⟩) hz5w).trans x3w
  have x4v : v2.cell? ⟨g, 4, none⟩ = some (.slice F.X.a5 F.X.n5 F.X.c5) := (HK2.out.cell (p := ⟨g, 4, none⟩) hz5w).trans x4w
  have x5v : v2.cell? ⟨g, 5, none⟩ = some (.int .i64 F.X.self) := (HK2.out.cell (p := ⟨g, 5, none⟩) hz5w).trans x5w
  have y0v : v2.cell? ⟨pb, 0, none⟩ = some (.int .i64 op) := (HK2.out.cell (p := ⟨pb, 0, none⟩) hzpw).trans y0w
  have hz5v : g < v2.heap.size := Nat.lt_of_lt_of_le hz5w HK2.out.size
  have hzpv : pb < v2.heap.size := Nat.lt_of_lt_of_le hzpw HK2.out.size
  have HK2w : Hid (Below w4.heap.size w4 v2) := Lib.hid (HK5.out.trans (HK2.out.mono HK5.out.size))
  have HBv : Hid (Below g w v2) := Lib.hid (HB4.out.trans (HK2w.out.mono (by have := HB4.out.size; omega)))
  clear x0w x1w x2w x3w x4w x5w y0w y1w d0w d1w f0w f1w c1_0 c1_1 c1_2 c1_3 c2_0 c2_1 c2_2 c2_3
  by_cases h3 : sr = 3
  · have HTA : Hid (bndT (a1, a2) 4 ta = bndT (a1, a2) (if sr = 3 then 4 else sr) ta) := Lib.hid (by rw [if_pos h3])
    obtain ⟨TA, HTA2⟩ : ∃ x, Hid (bndT (a1, a2) 4 ta = x) := ⟨_, Lib.hid rfl⟩
    obtain ⟨TB, HTB2⟩ : ∃ x, Hid (bndT (b1, b2) (sr + 1) tb = x) := ⟨_, Lib.hid rfl⟩
    have hta : TA.size ≤ 1000000002 := by have := bndT_size (a1, a2) 4 ta; rw [HTA2.out] at this; have := HSA.out; omega
    have htb : TB.size ≤ 1000000002 := by have := bndT_size (b1, b2) (sr + 1) tb; rw [HTB2.out] at this; have := HSB.out; omega
    have HAA : Hid (∀ W, Calls Tryz.prog 58 #[.string ta, .bool (decide (qa < 4))] W fun e w' => e = .returned (.string TA) ∧ Below W.heap.size W w') := Lib.hid (fun W => by
      have h := refAround_any ta (decide (qa < 4)) W (by have := HSA.out; omega)
      rw [show (if (decide (qa < 4)) = true then brB ta else ta) = TA by rw [← HTA2.out, ← st_bnd (by have := HS5.out; omega), HQA.out]; exact dec_bnd ta] at h
      exact h)
    have HAB : Hid (∀ W, Calls Tryz.prog 58 #[.string tb, .bool (decide (qb < 4))] W fun e w' => e = .returned (.string TB) ∧ Below W.heap.size W w') := Lib.hid (fun W => by
      have h := refAround_any tb (decide (qb < 4)) W (by have := HSB.out; omega)
      rw [show (if (decide (qb < 4)) = true then brB tb else tb) = TB by rw [← HTB2.out, ← st_bnd (by have := HS5.out; omega), HQB.out, dec_bnd tb]; exact if_iff (by have := h3; omega) _ _] at h
      exact h)
    obtain ⟨z1, h1⟩ : ∃ z, TA ++ (⟨#[32]⟩ : ByteArray) = z := ⟨_, rfl⟩
    obtain ⟨z2, h2⟩ : ∃ z, z1 ++ sg = z := ⟨_, rfl⟩
    obtain ⟨z4, h4⟩ : ∃ z, z2 ++ (⟨#[32]⟩ : ByteArray) = z := ⟨_, rfl⟩
    obtain ⟨z5, h5⟩ : ∃ z, z4 ++ TB = z := ⟨_, rfl⟩
    have s1 : z1.size = TA.size + 1 := by rw [← h1, size_app]; rfl
    have s2 : z2.size = z1.size + sg.size := by rw [← h2, size_app]
    have s4 : z4.size = z2.size + 1 := by rw [← h4, size_app]; rfl
    have HE : Hid (biT (op, n) (a1, a2) (b1, b2) ta tb = z5) := Lib.hid (by
      unfold biT
      dsimp only
      rw [HOP.out]
      dsimp only
      rw [← HTA.out, HTA2.out, HTB2.out, h1, h2, h4, h5])
    have e1 := fun W => str_add (P := Tryz.prog) h1 (by show _ + 1 ≤ _; omega) W
    have e2 := fun W => str_add (P := Tryz.prog) h2 (by have := HGZ.out; omega) W
    have e3 := fun W => str_add (P := Tryz.prog) h4 (by have := HGZ.out; show _ + 1 ≤ _; omega) W
    have e4 := fun W => str_add (P := Tryz.prog) h5 (by have := HGZ.out; omega) W
    clear h1 h2 h4 h5 s1 s2 s4 hta htb
    have h3z : (sr : Int) = 3 := by omega
    subst h3
    clear h3z
    rw [show ((3 : Nat) : Int) = 3 from rfl]
    go_upto_region 30 with (fail)
    have HL0 : Hid (Below v2.heap.size v2 v2.drew) := Lib.hid (Below.refl _ v2).drew
    go_region_held3 (fun w' => w'.cell? ⟨g, 0, none⟩ = some (.slice F.X.a1 F.X.n1 F.X.c1) ∧ w'.cell? ⟨g, 1, none⟩ = some (.slice F.X.a2 F.X.n2 F.X.c2) ∧ w'.cell? ⟨g, 2, none⟩ = some (.slice F.X.a3 F.X.n3 F.X.c3) ∧ w'.cell? ⟨g, 3, none⟩ = some (.slice F.X.a4 F.X.n4 F.X.c4) ∧ w'.cell? ⟨g, 4, none⟩ = some (.slice F.X.a5 F.X.n5 F.X.c5) ∧ w'.cell? ⟨g, 5, none⟩ = some (.int .i64 F.X.self) ∧ w'.cell? ⟨pb, 0, none⟩ = some (.int .i64 op))
      (first | exact ⟨g5_0, g5_1, g5_2, g5_3, g5_4, g5_5, g5_6⟩ | exact ⟨g4_0, g4_1, g4_2, g4_3, g4_4, g4_5, g4_6⟩ | exact ⟨g3_0, g3_1, g3_2, g3_3, g3_4, g3_5, g3_6⟩ | exact ⟨g2_0, g2_1, g2_2, g2_3, g2_4, g2_5, g2_6⟩ | exact ⟨g1_0, g1_1, g1_2, g1_3, g1_4, g1_5, g1_6⟩ | exact ⟨x0v, x1v, x2v, x3v, x4v, x5v, y0v⟩ | go_keep)
      ((first | (have hkk := HL4; clear hkk; go_at_call 58; refine (HAB.out _).mono ?_; rintro e u5 ⟨ho, hb⟩; subst ho; have HL5 : Hid (Below v2.heap.size v2 u5) := Lib.hid (HL4.out.trans (hb.mono HL4.out.size)); have g5_0 := (HL5.out.cell (p := ⟨g, 0, none⟩) hz5v).trans x0v; have g5_1 := (HL5.out.cell (p := ⟨g, 1, none⟩) hz5v).trans x1v; have g5_2 := (HL5.out.cell (p := ⟨g, 2, none⟩) hz5v).trans x2v; have g5_3 := (HL5.out.cell (p := ⟨g, 3, none⟩) hz5v).trans x3v; have g5_4 := (HL5.out.cell (p := ⟨g, 4, none⟩) hz5v).trans x4v; have g5_5 := (HL5.out.cell (p := ⟨g, 5, none⟩) hz5v).trans x5v; have g5_6 := (HL5.out.cell (p := ⟨pb, 0, none⟩) hzpv).trans y0v; clear hb) | (have hkk := HL3; clear hkk; go_at_call 24; refine (HPCB.out _ (HK2w.out.trans (HL3.out.mono HK2w.out.size))).mono ?_; rintro e u4 ⟨ho, hb⟩; subst ho; have HL4 : Hid (Below v2.heap.size v2 u4) := Lib.hid (HL3.out.trans (hb.mono HL3.out.size)); have g4_0 := (HL4.out.cell (p := ⟨g, 0, none⟩) hz5v).trans x0v; have g4_1 := (HL4.out.cell (p := ⟨g, 1, none⟩) hz5v).trans x1v; have g4_2 := (HL4.out.cell (p := ⟨g, 2, none⟩) hz5v).trans x2v; have g4_3 := (HL4.out.cell (p := ⟨g, 3, none⟩) hz5v).trans x3v; have g4_4 := (HL4.out.cell (p := ⟨g, 4, none⟩) hz5v).trans x4v; have g4_5 := (HL4.out.cell (p := ⟨g, 5, none⟩) hz5v).trans x5v; have g4_6 := (HL4.out.cell (p := ⟨pb, 0, none⟩) hzpv).trans y0v; clear hb) | (have hkk := HL2; clear hkk; go_at_call 60; refine (HSG.out _).mono ?_; rintro e u3 ⟨ho, hb⟩; subst ho; have HL3 : Hid (Below v2.heap.size v2 u3) := Lib.hid (HL2.out.trans (hb.mono HL2.out.size)); have g3_0 := (HL3.out.cell (p := ⟨g, 0, none⟩) hz5v).trans x0v; have g3_1 := (HL3.out.cell (p := ⟨g, 1, none⟩) hz5v).trans x1v; have g3_2 := (HL3.out.cell (p := ⟨g, 2, none⟩) hz5v).trans x2v; have g3_3 := (HL3.out.cell (p := ⟨g, 3, none⟩) hz5v).trans x3v; have g3_4 := (HL3.out.cell (p := ⟨g, 4, none⟩) hz5v).trans x4v; have g3_5 := (HL3.out.cell (p := ⟨g, 5, none⟩) hz5v).trans x5v; have g3_6 := (HL3.out.cell (p := ⟨pb, 0, none⟩) hzpv).trans y0v; clear hb) | (have hkk := HL1; clear hkk; go_at_call 58; refine (HAA.out _).mono ?_; rintro e u2 ⟨ho, hb⟩; subst ho; have HL2 : Hid (Below v2.heap.size v2 u2) := Lib.hid (HL1.out.trans (hb.mono HL1.out.size)); have g2_0 := (HL2.out.cell (p := ⟨g, 0, none⟩) hz5v).trans x0v; have g2_1 := (HL2.out.cell (p := ⟨g, 1, none⟩) hz5v).trans x1v; have g2_2 := (HL2.out.cell (p := ⟨g, 2, none⟩) hz5v).trans x2v; have g2_3 := (HL2.out.cell (p := ⟨g, 3, none⟩) hz5v).trans x3v; have g2_4 := (HL2.out.cell (p := ⟨g, 4, none⟩) hz5v).trans x4v; have g2_5 := (HL2.out.cell (p := ⟨g, 5, none⟩) hz5v).trans x5v; have g2_6 := (HL2.out.cell (p := ⟨pb, 0, none⟩) hzpv).trans y0v; clear hb) | (have hkk := HL0; clear hkk; go_at_call 24; refine (HPCA.out _ (HK2w.out.trans (HL0.out.mono HK2w.out.size))).mono ?_; rintro e u1 ⟨ho, hb⟩; subst ho; have HL1 : Hid (Below v2.heap.size v2 u1) := Lib.hid (HL0.out.trans (hb.mono HL0.out.size)); have g1_0 := (HL1.out.cell (p := ⟨g, 0, none⟩) hz5v).trans x0v; have g1_1 := (HL1.out.cell (p := ⟨g, 1, none⟩) hz5v).trans x1v; have g1_2 := (HL1.out.cell (p := ⟨g, 2, none⟩) hz5v).trans x2v; have g1_3 := (HL1.out.cell (p := ⟨g, 3, none⟩) hz5v).trans x3v; have g1_4 := (HL1.out.cell (p := ⟨g, 4, none⟩) hz5v).trans x4v; have g1_5 := (HL1.out.cell (p := ⟨g, 5, none⟩) hz5v).trans x5v; have g1_6 := (HL1.out.cell (p := ⟨pb, 0, none⟩) hzpv).trans y0v; clear hb)))
    have HB9 : Hid (Below g w u5) := Lib.hid (HBv.out.trans (HL5.out.mono (by have := HBv.out.size; omega)))
    clear HPCA HPCB
    go_wp2
    go_ret
    exact ⟨by rw [HE.out]; rfl, by first | exact HB9.out | (rw [hgn]; exact HB9.out)⟩
  · have HTA : Hid (bndT (a1, a2) sr ta = bndT (a1, a2) (if sr = 3 then 4 else sr) ta) := Lib.hid (by rw [if_neg h3])
    obtain ⟨TA, HTA2⟩ : ∃ x, Hid (bndT (a1, a2) sr ta = x) := ⟨_, Lib.hid rfl⟩
    obtain ⟨TB, HTB2⟩ : ∃ x, Hid (bndT (b1, b2) (sr + 1) tb = x) := ⟨_, Lib.hid rfl⟩
    have hta : TA.size ≤ 1000000002 := by have := bndT_size (a1, a2) sr ta; rw [HTA2.out] at this; have := HSA.out; omega
    have htb : TB.size ≤ 1000000002 := by have := bndT_size (b1, b2) (sr + 1) tb; rw [HTB2.out] at this; have := HSB.out; omega
    have HAA : Hid (∀ W, Calls Tryz.prog 58 #[.string ta, .bool (decide (qa < (sr : Int)))] W fun e w' => e = .returned (.string TA) ∧ Below W.heap.size W w') := Lib.hid (fun W => by
      have h := refAround_any ta (decide (qa < (sr : Int))) W (by have := HSA.out; omega)
      rw [show (if (decide (qa < (sr : Int))) = true then brB ta else ta) = TA by rw [← HTA2.out, ← st_bnd (by have := HS5.out; omega), HQA.out]; exact dec_bnd ta] at h
      exact h)
    have HAB : Hid (∀ W, Calls Tryz.prog 58 #[.string tb, .bool (decide (qb ≤ (sr : Int)))] W fun e w' => e = .returned (.string TB) ∧ Below W.heap.size W w') := Lib.hid (fun W => by
      have h := refAround_any tb (decide (qb ≤ (sr : Int))) W (by have := HSB.out; omega)
      rw [show (if (decide (qb ≤ (sr : Int))) = true then brB tb else tb) = TB by rw [← HTB2.out, ← st_bnd (by have := HS5.out; omega), HQB.out, dec_bnd tb]; exact if_iff (by omega) _ _] at h
      exact h)
    obtain ⟨z1, h1⟩ : ∃ z, TA ++ (⟨#[32]⟩ : ByteArray) = z := ⟨_, rfl⟩
    obtain ⟨z2, h2⟩ : ∃ z, z1 ++ sg = z := ⟨_, rfl⟩
    obtain ⟨z4, h4⟩ : ∃ z, z2 ++ (⟨#[32]⟩ : ByteArray) = z := ⟨_, rfl⟩
    obtain ⟨z5, h5⟩ : ∃ z, z4 ++ TB = z := ⟨_, rfl⟩
    have s1 : z1.size = TA.size + 1 := by rw [← h1, size_app]; rfl
    have s2 : z2.size = z1.size + sg.size := by rw [← h2, size_app]
    have s4 : z4.size = z2.size + 1 := by rw [← h4, size_app]; rfl
    have HE : Hid (biT (op, n) (a1, a2) (b1, b2) ta tb = z5) := Lib.hid (by
      unfold biT
      dsimp only
      rw [HOP.out]
      dsimp only
      rw [← HTA.out, HTA2.out, HTB2.out, h1, h2, h4, h5])
    have e1 := fun W => str_add (P := Tryz.prog) h1 (by show _ + 1 ≤ _; omega) W
    have e2 := fun W => str_add (P := Tryz.prog) h2 (by have := HGZ.out; omega) W
    have e3 := fun W => str_add (P := Tryz.prog) h4 (by have := HGZ.out; show _ + 1 ≤ _; omega) W
    have e4 := fun W => str_add (P := Tryz.prog) h5 (by have := HGZ.out; omega) W
    clear h1 h2 h4 h5 s1 s2 s4 hta htb
    have h3z : ¬ (sr : Int) = 3 := by omega
    clear h3
    go_upto_region 30 with (fail)
    have HL0 : Hid (Below v2.heap.size v2 v2.drew) := Lib.hid (Below.refl _ v2).drew
    go_region_held3 (fun w' => w'.cell? ⟨g, 0, none⟩ = some (.slice F.X.a1 F.X.n1 F.X.c1) ∧ w'.cell? ⟨g, 1, none⟩ = some (.slice F.X.a2 F.X.n2 F.X.c2) ∧ w'.cell? ⟨g, 2, none⟩ = some (.slice F.X.a3 F.X.n3 F.X.c3) ∧ w'.cell? ⟨g, 3, none⟩ = some (.slice F.X.a4 F.X.n4 F.X.c4) ∧ w'.cell? ⟨g, 4, none⟩ = some (.slice F.X.a5 F.X.n5 F.X.c5) ∧ w'.cell? ⟨g, 5, none⟩ = some (.int .i64 F.X.self) ∧ w'.cell? ⟨pb, 0, none⟩ = some (.int .i64 op))
      (first | exact ⟨g5_0, g5_1, g5_2, g5_3, g5_4, g5_5, g5_6⟩ | exact ⟨g4_0, g4_1, g4_2, g4_3, g4_4, g4_5, g4_6⟩ | exact ⟨g3_0, g3_1, g3_2, g3_3, g3_4, g3_5, g3_6⟩ | exact ⟨g2_0, g2_1, g2_2, g2_3, g2_4, g2_5, g2_6⟩ | exact ⟨g1_0, g1_1, g1_2, g1_3, g1_4, g1_5, g1_6⟩ | exact ⟨x0v, x1v, x2v, x3v, x4v, x5v, y0v⟩ | go_keep)
      ((first | (have hkk := HL4; clear hkk; go_at_call 58; refine (HAB.out _).mono ?_; rintro e u5 ⟨ho, hb⟩; subst ho; have HL5 : Hid (Below v2.heap.size v2 u5) := Lib.hid (HL4.out.trans (hb.mono HL4.out.size)); have g5_0 := (HL5.out.cell (p := ⟨g, 0, none⟩) hz5v).trans x0v; have g5_1 := (HL5.out.cell (p := ⟨g, 1, none⟩) hz5v).trans x1v; have g5_2 := (HL5.out.cell (p := ⟨g, 2, none⟩) hz5v).trans x2v; have g5_3 := (HL5.out.cell (p := ⟨g, 3, none⟩) hz5v).trans x3v; have g5_4 := (HL5.out.cell (p := ⟨g, 4, none⟩) hz5v).trans x4v; have g5_5 := (HL5.out.cell (p := ⟨g, 5, none⟩) hz5v).trans x5v; have g5_6 := (HL5.out.cell (p := ⟨pb, 0, none⟩) hzpv).trans y0v; clear hb) | (have hkk := HL3; clear hkk; go_at_call 24; refine (HPCB.out _ (HK2w.out.trans (HL3.out.mono HK2w.out.size))).mono ?_; rintro e u4 ⟨ho, hb⟩; subst ho; have HL4 : Hid (Below v2.heap.size v2 u4) := Lib.hid (HL3.out.trans (hb.mono HL3.out.size)); have g4_0 := (HL4.out.cell (p := ⟨g, 0, none⟩) hz5v).trans x0v; have g4_1 := (HL4.out.cell (p := ⟨g, 1, none⟩) hz5v).trans x1v; have g4_2 := (HL4.out.cell (p := ⟨g, 2, none⟩) hz5v).trans x2v; have g4_3 := (HL4.out.cell (p := ⟨g, 3, none⟩) hz5v).trans x3v; have g4_4 := (HL4.out.cell (p := ⟨g, 4, none⟩) hz5v).trans x4v; have g4_5 := (HL4.out.cell (p := ⟨g, 5, none⟩) hz5v).trans x5v; have g4_6 := (HL4.out.cell (p := ⟨pb, 0, none⟩) hzpv).trans y0v; clear hb) | (have hkk := HL2; clear hkk; go_at_call 60; refine (HSG.out _).mono ?_; rintro e u3 ⟨ho, hb⟩; subst ho; have HL3 : Hid (Below v2.heap.size v2 u3) := Lib.hid (HL2.out.trans (hb.mono HL2.out.size)); have g3_0 := (HL3.out.cell (p := ⟨g, 0, none⟩) hz5v).trans x0v; have g3_1 := (HL3.out.cell (p := ⟨g, 1, none⟩) hz5v).trans x1v; have g3_2 := (HL3.out.cell (p := ⟨g, 2, none⟩) hz5v).trans x2v; have g3_3 := (HL3.out.cell (p := ⟨g, 3, none⟩) hz5v).trans x3v; have g3_4 := (HL3.out.cell (p := ⟨g, 4, none⟩) hz5v).trans x4v; have g3_5 := (HL3.out.cell (p := ⟨g, 5, none⟩) hz5v).trans x5v; have g3_6 := (HL3.out.cell (p := ⟨pb, 0, none⟩) hzpv).trans y0v; clear hb) | (have hkk := HL1; clear hkk; go_at_call 58; refine (HAA.out _).mono ?_; rintro e u2 ⟨ho, hb⟩; subst ho; have HL2 : Hid (Below v2.heap.size v2 u2) := Lib.hid (HL1.out.trans (hb.mono HL1.out.size)); have g2_0 := (HL2.out.cell (p := ⟨g, 0, none⟩) hz5v).trans x0v; have g2_1 := (HL2.out.cell (p := ⟨g, 1, none⟩) hz5v).trans x1v; have g2_2 := (HL2.out.cell (p := ⟨g, 2, none⟩) hz5v).trans x2v; have g2_3 := (HL2.out.cell (p := ⟨g, 3, none⟩) hz5v).trans x3v; have g2_4 := (HL2.out.cell (p := ⟨g, 4, none⟩) hz5v).trans x4v; have g2_5 := (HL2.out.cell (p := ⟨g, 5, none⟩) hz5v).trans x5v; have g2_6 := (HL2.out.cell (p := ⟨pb, 0, none⟩) hzpv).trans y0v; clear hb) | (have hkk := HL0; clear hkk; go_at_call 24; refine (HPCA.out _ (HK2w.out.trans (HL0.out.mono HK2w.out.size))).mono ?_; rintro e u1 ⟨ho, hb⟩; subst ho; have HL1 : Hid (Below v2.heap.size v2 u1) := Lib.hid (HL0.out.trans (hb.mono HL0.out.size)); have g1_0 := (HL1.out.cell (p := ⟨g, 0, none⟩) hz5v).trans x0v; have g1_1 := (HL1.out.cell (p := ⟨g, 1, none⟩) hz5v).trans x1v; have g1_2 := (HL1.out.cell (p := ⟨g, 2, none⟩) hz5v).trans x2v; have g1_3 := (HL1.out.cell (p := ⟨g, 3, none⟩) hz5v).trans x3v; have g1_4 := (HL1.out.cell (p := ⟨g, 4, none⟩) hz5v).trans x4v; have g1_5 := (HL1.out.cell (p := ⟨g, 5, none⟩) hz5v).trans x5v; have g1_6 := (HL1.out.cell (p := ⟨pb, 0, none⟩) hzpv).trans y0v; clear hb)))
    have HB9 : Hid (Below g w u5) := Lib.hid (HBv.out.trans (HL5.out.mono (by have := HBv.out.size; omega)))
    clear HPCA HPCB
    go_wp2
    go_ret
    exact ⟨by rw [HE.out]; rfl, by first | exact HB9.out | (rw [hgn]; exact HB9.out)⟩
end Go.Proofs.YtmnigdphikoljaaGreatDoor.et
