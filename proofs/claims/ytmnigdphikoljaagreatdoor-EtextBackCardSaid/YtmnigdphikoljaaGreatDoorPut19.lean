/- Contracts that the claim stands on, several texts in one: EtPart. -/
import Derived.Test.YtmnigdphikoljaaGreatDoorPut1
import Derived.Test.YtmnigdphikoljaaGreatDoorPut2
import Derived.Test.YtmnigdphikoljaaGreatDoorPut3
import Derived.Test.YtmnigdphikoljaaGreatDoorPut4
import Derived.Test.YtmnigdphikoljaaGreatDoorPut5
import Derived.Test.YtmnigdphikoljaaGreatDoorPut6
import Derived.Test.YtmnigdphikoljaaGreatDoorPut7
import Derived.Test.YtmnigdphikoljaaGreatDoorPut8
import Derived.Test.YtmnigdphikoljaaGreatDoorPut9
import Derived.Test.YtmnigdphikoljaaGreatDoorPut10
import Derived.Test.YtmnigdphikoljaaGreatDoorPut11
import Derived.Test.YtmnigdphikoljaaGreatDoorPut12
import Derived.Test.YtmnigdphikoljaaGreatDoorPut13
import Derived.Test.YtmnigdphikoljaaGreatDoorPut14
import Derived.Test.YtmnigdphikoljaaGreatDoorPut15
import Derived.Test.YtmnigdphikoljaaGreatDoorPut16
import Derived.Test.YtmnigdphikoljaaGreatDoorPut17
import Derived.Test.YtmnigdphikoljaaGreatDoorPut18
namespace Go.Proofs.YtmnigdphikoljaaGreatDoor.et
open Go.ChangeShapes Go.WideShapes Go.ChangeAt Go.RowKit Go.Deep

set_option maxRecDepth 20000 in
set_option maxHeartbeats 4000000 in
theorem part1 (F : Wr) (k : Nat) (n : Int) (hk : k < F.e.length) (hnd : F.e.getD (k) (0, 0) = (1, n)) (ht : There F.N (1, n)) (hs : (nameB F.N (1, n)).size ≤ 1000) (h0 : -9223372036854775808 ≤ n) (h9 : n ≤ 9223372036854775807) :
    PartK F (k) (dS n) := by
  intro w h
  have hb1 := below_alloc1 w (.cells #[.slice F.A F.n F.c, .slice F.AB F.nb F.cb, .slice F.X.a1 F.X.n1 F.X.c1, .slice F.X.a2 F.X.n2 F.X.c2, .slice F.X.a3 F.X.n3 F.X.c3, .slice F.X.a4 F.X.n4 F.X.c4, .slice F.X.a5 F.X.n5 F.X.c5, .int .i64 F.X.self] 52)
  have H1 := Lib.hid (h.below hb1)
  have HWB := Lib.hid (WB.new F w)
  have HB1 := Lib.hid hb1
  have hkn : (k : Int) < (F.n : Int) := by rw [h.n]; omega
  have hk0 : (0 : Int) ≤ (k : Int) := by omega
  have hk00 : (0 : Int) ≤ (k : Int) := by omega
  have hk9 : (k : Int) ≤ 1000000 := by have := h.ln; omega
  have HTH := Lib.hid ht
  have HN0 := Lib.hid h0
  have HN9 := Lib.hid h9
  have HSZ := Lib.hid hs
  obtain ⟨nm, HNM⟩ : ∃ x, Hid (nameB F.N (1, n) = x) := ⟨_, Lib.hid rfl⟩
  rw [HNM.out] at HSZ
  clear h hb1 ht h0 h9 hs
  unfold Wr.v
  rw [show ((k : Nat) : Int) = (k : Int) from rfl]
  go_enter Tryz.func21, Tryz.ntmps21
  go_upto_region 1 with (fail)
  generalize hgn : w.heap.size = g at *
  generalize w.alloc (.cells #[.slice F.A F.n F.c, .slice F.AB F.nb F.cb, .slice F.X.a1 F.X.n1 F.X.c1, .slice F.X.a2 F.X.n2 F.X.c2, .slice F.X.a3 F.X.n3 F.X.c3, .slice F.X.a4 F.X.n4 F.X.c4, .slice F.X.a5 F.X.n5 F.X.c5, .int .i64 F.X.self] 52) = w1 at *
  obtain ⟨x0, x1, x2, x3, x4, x5, x6, x7⟩ := HWB.out.c
  obtain ⟨ba, oa, hA, hba, hc⟩ := H1.out.pa (by omega)
  obtain ⟨d0, d1⟩ := hc (k) hk
  rw [hnd] at d0 d1
  dsimp only at d0 d1
  rw [hA] at x0
  clear hc hba
  have hb2 := below_alloc1 w1 (.cells #[.int .i64 1, .int .i64 n] 39)
  have H2 := Lib.hid (H1.out.below hb2)
  have HB2 := Lib.hid (HB1.out.trans (hb2.mono (by have := HB1.out.size; omega)))
  have HWB2 := Lib.hid (HWB.out.keep hb2)
  have HNB2 : Hid ((w1.alloc (.cells #[.int .i64 1, .int .i64 n] 39)).heap[w1.heap.size]? = some (.cells #[.int .i64 1, .int .i64 n] 39 (0, 0))) := Lib.hid (World.alloc_heap_new w1 _)
  go_upto_region 2 with (fail)
  clear x0 x1 x2 x3 x4 x5 x6 x7 d0 d1 hb2
  generalize hpn : w1.heap.size = pb at *
  generalize w1.alloc (.cells #[.int .i64 1, .int .i64 n] 39) = w2 at *
  obtain ⟨x0, x1, x2, x3, x4, x5, x6, x7⟩ := HWB2.out.c
  rw [hA] at x0
  have y0 : w2.cell? ⟨pb, 0, none⟩ = some (.int .i64 1) := cell_of_heap HNB2.out rfl
  have y1 : w2.cell? ⟨pb, 1, none⟩ = some (.int .i64 n) := cell_of_heap HNB2.out rfl
  have HNC := name_any F.X F.N (1, n) w2 H2.out.nm HTH.out
  unfold ScX.v at HNC
  have HNC := Lib.hid HNC
  generalize (nameOf F.N (1, n)).isSome = hs at *
  go_wp2_with fail
  refine HNC.out.mono ?_
  rw [show (nameOf F.N (1, n)).getD ⟨#[]⟩ = nm from HNM.out]
  rintro e w3 ⟨rfl, hb3⟩
  have H3 := Lib.hid (H2.out.below hb3)
  have HB3 := Lib.hid (HB2.out.trans (hb3.mono (by have := HB2.out.size; omega)))
  have HWB3 := Lib.hid (HWB2.out.keep hb3)
  have HNB3 : Hid (w3.heap[pb]? = some (.cells #[.int .i64 1, .int .i64 n] 39 (0, 0))) := Lib.hid ((hb3.block _ (Array.getElem?_eq_some_iff.1 HNB2.out).1).trans HNB2.out)
  clear x0 x1 x2 x3 x4 x5 x6 x7 y0 y1 hb3
  obtain ⟨x0, x1, x2, x3, x4, x5, x6, x7⟩ := HWB3.out.c
  rw [hA] at x0
  have y0 : w3.cell? ⟨pb, 0, none⟩ = some (.int .i64 1) := cell_of_heap HNB3.out rfl
  have y1 : w3.cell? ⟨pb, 1, none⟩ = some (.int .i64 n) := cell_of_heap HNB3.out rfl
  rw [← hgn]
  go_wp2_with fail
  refine (decimal_any n w3 (by have := HN0.out; omega) (by have := HN9.out; omega) H3.out.tabs).mono ?_
  rintro e w4 ⟨rfl, hb4⟩
  have HB4 := Lib.hid (HB3.out.trans (hb4.mono (by have := HB3.out.size; omega)))
  clear hb4
  go_wp2
  go_ret
  exact ⟨rfl, by rw [hgn]; exact HB4.out⟩
set_option maxRecDepth 20000 in
set_option maxHeartbeats 4000000 in
theorem part2 (F : Wr) (k : Nat) (n : Int) (hk : k < F.e.length) (hnd : F.e.getD (k) (0, 0) = (2, n)) (ht : There F.N (2, n)) (hs : (nameB F.N (2, n)).size ≤ 1000) (h0 : -9223372036854775808 ≤ n) (h9 : n ≤ 9223372036854775807) :
    PartK F (k) (nameB F.N (2, n)) := by
  intro w h
  have hb1 := below_alloc1 w (.cells #[.slice F.A F.n F.c, .slice F.AB F.nb F.cb, .slice F.X.a1 F.X.n1 F.X.c1, .slice F.X.a2 F.X.n2 F.X.c2, .slice F.X.a3 F.X.n3 F.X.c3, .slice F.X.a4 F.X.n4 F.X.c4, .slice F.X.a5 F.X.n5 F.X.c5, .int .i64 F.X.self] 52)
  have H1 := Lib.hid (h.below hb1)
  have HWB := Lib.hid (WB.new F w)
  have HB1 := Lib.hid hb1
  have hkn : (k : Int) < (F.n : Int) := by rw [h.n]; omega
  have hk0 : (0 : Int) ≤ (k : Int) := by omega
  have hk00 : (0 : Int) ≤ (k : Int) := by omega
  have hk9 : (k : Int) ≤ 1000000 := by have := h.ln; omega
  have HTH := Lib.hid ht
  have HN0 := Lib.hid h0
  have HN9 := Lib.hid h9
  have HSZ := Lib.hid hs
  obtain ⟨nm, HNM⟩ : ∃ x, Hid (nameB F.N (2, n) = x) := ⟨_, Lib.hid rfl⟩
  rw [HNM.out] at HSZ
  clear h hb1 ht h0 h9 hs
  unfold Wr.v
  rw [show ((k : Nat) : Int) = (k : Int) from rfl]
  go_enter Tryz.func21, Tryz.ntmps21
  go_upto_region 1 with (fail)
  generalize hgn : w.heap.size = g at *
  generalize w.alloc (.cells #[.slice F.A F.n F.c, .slice F.AB F.nb F.cb, .slice F.X.a1 F.X.n1 F.X.c1, .slice F.X.a2 F.X.n2 F.X.c2, .slice F.X.a3 F.X.n3 F.X.c3, .slice F.X.a4 F.X.n4 F.X.c4, .slice F.X.a5 F.X.n5 F.X.c5, .int .i64 F.X.self] 52) = w1 at *
  obtain ⟨x0, x1, x2, x3, x4, x5, x6, x7⟩ := HWB.out.c
  obtain ⟨ba, oa, hA, hba, hc⟩ := H1.out.pa (by omega)
  obtain ⟨d0, d1⟩ := hc (k) hk
  rw [hnd] at d0 d1
  dsimp only at d0 d1
  rw [hA] at x0
  clear hc hba
  have hb2 := below_alloc1 w1 (.cells #[.int .i64 2, .int .i64 n] 39)
  have H2 := Lib.hid (H1.out.below hb2)
  have HB2 := Lib.hid (HB1.out.trans (hb2.mono (by have := HB1.out.size; omega)))
  have HWB2 := Lib.hid (HWB.out.keep hb2)
  have HNB2 : Hid ((w1.alloc (.cells #[.int .i64 2, .int .i64 n] 39)).heap[w1.heap.size]? = some (.cells #[.int .i64 2, .int .i64 n] 39 (0, 0))) := Lib.hid (World.alloc_heap_new w1 _)
  go_upto_region 2 with (fail)
  clear x0 x1 x2 x3 x4 x5 x6 x7 d0 d1 hb2
  generalize hpn : w1.heap.size = pb at *
  generalize w1.alloc (.cells #[.int .i64 2, .int .i64 n] 39) = w2 at *
  obtain ⟨x0, x1, x2, x3, x4, x5, x6, x7⟩ := HWB2.out.c
  rw [hA] at x0
  have y0 : w2.cell? ⟨pb, 0, none⟩ = some (.int .i64 2) := cell_of_heap HNB2.out rfl
  have y1 : w2.cell? ⟨pb, 1, none⟩ = some (.int .i64 n) := cell_of_heap HNB2.out rfl
  have HNC := name_any F.X F.N (2, n) w2 H2.out.nm HTH.out
  unfold ScX.v at HNC
  have HNC := Lib.hid HNC
  generalize (nameOf F.N (2, n)).isSome = hs at *
  go_wp2_with fail
  refine HNC.out.mono ?_
  rw [show (nameOf F.N (2, n)).getD ⟨#[]⟩ = nm from HNM.out]
  rintro e w3 ⟨rfl, hb3⟩
  have H3 := Lib.hid (H2.out.below hb3)
  have HB3 := Lib.hid (HB2.out.trans (hb3.mono (by have := HB2.out.size; omega)))
  have HWB3 := Lib.hid (HWB2.out.keep hb3)
  have HNB3 : Hid (w3.heap[pb]? = some (.cells #[.int .i64 2, .int .i64 n] 39 (0, 0))) := Lib.hid ((hb3.block _ (Array.getElem?_eq_some_iff.1 HNB2.out).1).trans HNB2.out)
  clear x0 x1 x2 x3 x4 x5 x6 x7 y0 y1 hb3
  obtain ⟨x0, x1, x2, x3, x4, x5, x6, x7⟩ := HWB3.out.c
  rw [hA] at x0
  have y0 : w3.cell? ⟨pb, 0, none⟩ = some (.int .i64 2) := cell_of_heap HNB3.out rfl
  have y1 : w3.cell? ⟨pb, 1, none⟩ = some (.int .i64 n) := cell_of_heap HNB3.out rfl
  rw [← hgn]
  have HE : Hid (nameB F.N (2, n) = nm) := Lib.hid HNM.out
  go_wp2
  go_ret
  exact ⟨by rw [HE.out]; rfl, by rw [hgn]; exact HB3.out⟩
set_option maxRecDepth 20000 in
set_option maxHeartbeats 4000000 in
theorem part4 (F : Wr) (k : Nat) (n : Int) (hk : k < F.e.length) (hnd : F.e.getD (k) (0, 0) = (4, n)) (ht : There F.N (4, n)) (hs : (nameB F.N (4, n)).size ≤ 1000) (h0 : -9223372036854775808 ≤ n) (h9 : n ≤ 9223372036854775807) :
    PartK F (k) (nameB F.N (4, n)) := by
  intro w h
  have hb1 := below_alloc1 w (.cells #[.slice F.A F.n F.c, .slice F.AB F.nb F.cb, .slice F.X.a1 F.X.n1 F.X.c1, .slice F.X.a2 F.X.n2 F.X.c2, .slice F.X.a3 F.X.n3 F.X.c3, .slice F.X.a4 F.X.n4 F.X.c4, .slice F.X.a5 F.X.n5 F.X.c5, .int .i64 F.X.self] 52)
  have H1 := Lib.hid (h.below hb1)
  have HWB := Lib.hid (WB.new F w)
  have HB1 := Lib.hid hb1
  have hkn : (k : Int) < (F.n : Int) := by rw [h.n]; omega
  have hk0 : (0 : Int) ≤ (k : Int) := by omega
  have hk00 : (0 : Int) ≤ (k : Int) := by omega
  have hk9 : (k : Int) ≤ 1000000 := by have := h.ln; omega
  have HTH := Lib.hid ht
  have HN0 := Lib.hid h0
  have HN9 := Lib.hid h9
  have HSZ := Lib.hid hs
  obtain ⟨nm, HNM⟩ : ∃ x, Hid (nameB F.N (4, n) = x) := ⟨_, Lib.hid rfl⟩
  rw [HNM.out] at HSZ
  clear h hb1 ht h0 h9 hs
  unfold Wr.v
  rw [show ((k : Nat) : Int) = (k : Int) from rfl]
  go_enter Tryz.func21, Tryz.ntmps21
  go_upto_region 1 with (fail)
  generalize hgn : w.heap.size = g at *
  generalize w.alloc (.cells #[.slice F.A F.n F.c, .slice F.AB F.nb F.cb, .slice F.X.a1 F.X.n1 F.X.c1, .slice F.X.a2 F.X.n2 F.X.c2, .slice F.X.a3 F.X.n3 F.X.c3, .slice F.X.a4 F.X.n4 F.X.c4, .slice F.X.a5 F.X.n5 F.X.c5, .int .i64 F.X.self] 52) = w1 at *
  obtain ⟨x0, x1, x2, x3, x4, x5, x6, x7⟩ := HWB.out.c
  obtain ⟨ba, oa, hA, hba, hc⟩ := H1.out.pa (by omega)
  obtain ⟨d0, d1⟩ := hc (k) hk
  rw [hnd] at d0 d1
  dsimp only at d0 d1
  rw [hA] at x0
  clear hc hba
  have hb2 := below_alloc1 w1 (.cells #[.int .i64 4, .int .i64 n] 39)
  have H2 := Lib.hid (H1.out.below hb2)
  have HB2 := Lib.hid (HB1.out.trans (hb2.mono (by have := HB1.out.size; omega)))
  have HWB2 := Lib.hid (HWB.out.keep hb2)
  have HNB2 : Hid ((w1.alloc (.cells #[.int .i64 4, .int .i64 n] 39)).heap[w1.heap.size]? = some (.cells #[.int .i64 4, .int .i64 n] 39 (0, 0))) := Lib.hid (World.alloc_heap_new w1 _)
  go_upto_region 2 with (fail)
  clear x0 x1 x2 x3 x4 x5 x6 x7 d0 d1 hb2
  generalize hpn : w1.heap.size = pb at *
  generalize w1.alloc (.cells #[.int .i64 4, .int .i64 n] 39) = w2 at *
  obtain ⟨x0, x1, x2, x3, x4, x5, x6, x7⟩ := HWB2.out.c
  rw [hA] at x0
  have y0 : w2.cell? ⟨pb, 0, none⟩ = some (.int .i64 4) := cell_of_heap HNB2.out rfl
  have y1 : w2.cell? ⟨pb, 1, none⟩ = some (.int .i64 n) := cell_of_heap HNB2.out rfl
  have HNC := name_any F.X F.N (4, n) w2 H2.out.nm HTH.out
  unfold ScX.v at HNC
  have HNC := Lib.hid HNC
  generalize (nameOf F.N (4, n)).isSome = hs at *
  go_wp2_with fail
  refine HNC.out.mono ?_
  rw [show (nameOf F.N (4, n)).getD ⟨#[]⟩ = nm from HNM.out]
  rintro e w3 ⟨rfl, hb3⟩
  have H3 := Lib.hid (H2.out.below hb3)
  have HB3 := Lib.hid (HB2.out.trans (hb3.mono (by have := HB2.out.size; omega)))
  have HWB3 := Lib.hid (HWB2.out.keep hb3)
  have HNB3 : Hid (w3.heap[pb]? = some (.cells #[.int .i64 4, .int .i64 n] 39 (0, 0))) := Lib.hid ((hb3.block _ (Array.getElem?_eq_some_iff.1 HNB2.out).1).trans HNB2.out)
  clear x0 x1 x2 x3 x4 x5 x6 x7 y0 y1 hb3
  obtain ⟨x0, x1, x2, x3, x4, x5, x6, x7⟩ := HWB3.out.c
  rw [hA] at x0
  have y0 : w3.cell? ⟨pb, 0, none⟩ = some (.int .i64 4) := cell_of_heap HNB3.out rfl
  have y1 : w3.cell? ⟨pb, 1, none⟩ = some (.int .i64 n) := cell_of_heap HNB3.out rfl
  rw [← hgn]
  have HE : Hid (nameB F.N (4, n) = nm) := Lib.hid HNM.out
  go_wp2
  go_ret
  exact ⟨by rw [HE.out]; rfl, by rw [hgn]; exact HB3.out⟩
set_option maxRecDepth 20000 in
set_option maxHeartbeats 4000000 in
theorem part5 (F : Wr) (k : Nat) (n : Int) (hk : k < F.e.length) (hnd : F.e.getD (k) (0, 0) = (5, n)) (ht : There F.N (5, n)) (hs : (nameB F.N (5, n)).size ≤ 1000) (h0 : -9223372036854775808 ≤ n) (h9 : n ≤ 9223372036854775807) :
    PartK F (k) (⟨#[115, 101, 108, 102]⟩) := by
  intro w h
  have hb1 := below_alloc1 w (.cells #[.slice F.A F.n F.c, .slice F.AB F.nb F.cb, .slice F.X.a1 F.X.n1 F.X.c1, .slice F.X.a2 F.X.n2 F.X.c2, .slice F.X.a3 F.X.n3 F.X.c3, .slice F.X.a4 F.X.n4 F.X.c4, .slice F.X.a5 F.X.n5 F.X.c5, .int .i64 F.X.self] 52)
  have H1 := Lib.hid (h.below hb1)
  have HWB := Lib.hid (WB.new F w)
  have HB1 := Lib.hid hb1
  have hkn : (k : Int) < (F.n : Int) := by rw [h.n]; omega
  have hk0 : (0 : Int) ≤ (k : Int) := by omega
  have hk00 : (0 : Int) ≤ (k : Int) := by omega
  have hk9 : (k : Int) ≤ 1000000 := by have := h.ln; omega
  have HTH := Lib.hid ht
  have HN0 := Lib.hid h0
  have HN9 := Lib.hid h9
  have HSZ := Lib.hid hs
  obtain ⟨nm, HNM⟩ : ∃ x, Hid (nameB F.N (5, n) = x) := ⟨_, Lib.hid rfl⟩
  rw [HNM.out] at HSZ
  clear h hb1 ht h0 h9 hs
  unfold Wr.v
  rw [show ((k : Nat) : Int) = (k : Int) from rfl]
  go_enter Tryz.func21, Tryz.ntmps21
  go_upto_region 1 with (fail)
  generalize hgn : w.heap.size = g at *
  generalize w.alloc (.cells #[.slice F.A F.n F.c, .slice F.AB F.nb F.cb, .slice F.X.a1 F.X.n1 F.X.c1, .slice F.X.a2 F.X.n2 F.X.c2, .slice F.X.a3 F.X.n3 F.X.c3, .slice F.X.a4 F.X.n4 F.X.c4, .slice F.X.a5 F.X.n5 F.X.c5, .int .i64 F.X.self] 52) = w1 at *
  obtain ⟨x0, x1, x2, x3, x4, x5, x6, x7⟩ := HWB.out.c
  obtain ⟨ba, oa, hA, hba, hc⟩ := H1.out.pa (by omega)
  obtain ⟨d0, d1⟩ := hc (k) hk
  rw [hnd] at d0 d1
  dsimp only at d0 d1
  rw [hA] at x0
  clear hc hba
  have hb2 := below_alloc1 w1 (.cells #[.int .i64 5, .int .i64 n] 39)
  have H2 := Lib.hid (H1.out.below hb2)
  have HB2 := Lib.hid (HB1.out.trans (hb2.mono (by have := HB1.out.size; omega)))
  have HWB2 := Lib.hid (HWB.out.keep hb2)
  have HNB2 : Hid ((w1.alloc (.cells #[.int .i64 5, .int .i64 n] 39)).heap[w1.heap.size]? = some (.cells #[.int .i64 5, .int .i64 n] 39 (0, 0))) := Lib.hid (World.alloc_heap_new w1 _)
  go_upto_region 2 with (fail)
  clear x0 x1 x2 x3 x4 x5 x6 x7 d0 d1 hb2
  generalize hpn : w1.heap.size = pb at *
  generalize w1.alloc (.cells #[.int .i64 5, .int .i64 n] 39) = w2 at *
  obtain ⟨x0, x1, x2, x3, x4, x5, x6, x7⟩ := HWB2.out.c
  rw [hA] at x0
  have y0 : w2.cell? ⟨pb, 0, none⟩ = some (.int .i64 5) := cell_of_heap HNB2.out rfl
  have y1 : w2.cell? ⟨pb, 1, none⟩ = some (.int .i64 n) := cell_of_heap HNB2.out rfl
  have HNC := name_any F.X F.N (5, n) w2 H2.out.nm HTH.out
  unfold ScX.v at HNC
  have HNC := Lib.hid HNC
  generalize (nameOf F.N (5, n)).isSome = hs at *
  go_wp2_with fail
  refine HNC.out.mono ?_
  rw [show (nameOf F.N (5, n)).getD ⟨#[]⟩ = nm from HNM.out]
  rintro e w3 ⟨rfl, hb3⟩
  have H3 := Lib.hid (H2.out.below hb3)
  have HB3 := Lib.hid (HB2.out.trans (hb3.mono (by have := HB2.out.size; omega)))
  have HWB3 := Lib.hid (HWB2.out.keep hb3)
  have HNB3 : Hid (w3.heap[pb]? = some (.cells #[.int .i64 5, .int .i64 n] 39 (0, 0))) := Lib.hid ((hb3.block _ (Array.getElem?_eq_some_iff.1 HNB2.out).1).trans HNB2.out)
  clear x0 x1 x2 x3 x4 x5 x6 x7 y0 y1 hb3
  obtain ⟨x0, x1, x2, x3, x4, x5, x6, x7⟩ := HWB3.out.c
  rw [hA] at x0
  have y0 : w3.cell? ⟨pb, 0, none⟩ = some (.int .i64 5) := cell_of_heap HNB3.out rfl
  have y1 : w3.cell? ⟨pb, 1, none⟩ = some (.int .i64 n) := cell_of_heap HNB3.out rfl
  rw [← hgn]
  go_wp2
  go_ret
  exact ⟨rfl, by rw [hgn]; exact HB3.out⟩
set_option maxRecDepth 20000 in
set_option maxHeartbeats 4000000 in
theorem part6 (F : Wr) (k : Nat) (n : Int) (hk : k < F.e.length) (hnd : F.e.getD (k) (0, 0) = (6, n)) (ht : There F.N (6, n)) (hs : (nameB F.N (6, n)).size ≤ 1000) (h0 : -9223372036854775808 ≤ n) (h9 : n ≤ 9223372036854775807) :
    PartK F (k) (⟨#[108, 101, 110]⟩ ++ brB (nameB F.N (6, n))) := by
  intro w h
  have hb1 := below_alloc1 w (.cells #[.slice F.A F.n F.c, .slice F.AB F.nb F.cb, .slice F.X.a1 F.X.n1 F.X.c1, .slice F.X.a2 F.X.n2 F.X.c2, .slice F.X.a3 F.X.n3 F.X.c3, .slice F.X.a4 F.X.n4 F.X.c4, .slice F.X.a5 F.X.n5 F.X.c5, .int .i64 F.X.self] 52)
  have H1 := Lib.hid (h.below hb1)
  have HWB := Lib.hid (WB.new F w)
  have HB1 := Lib.hid hb1
  have hkn : (k : Int) < (F.n : Int) := by rw [h.n]; omega
  have hk0 : (0 : Int) ≤ (k : Int) := by omega
  have hk00 : (0 : Int) ≤ (k : Int) := by omega
  have hk9 : (k : Int) ≤ 1000000 := by have := h.ln; omega
  have HTH := Lib.hid ht
  have HN0 := Lib.hid h0
  have HN9 := Lib.hid h9
  have HSZ := Lib.hid hs
  obtain ⟨nm, HNM⟩ : ∃ x, Hid (nameB F.N (6, n) = x) := ⟨_, Lib.hid rfl⟩
  rw [HNM.out] at HSZ
  obtain ⟨z1, h1⟩ : ∃ z, (⟨#[108, 101, 110]⟩ : ByteArray) ++ brB nm = z := ⟨_, rfl⟩
  have HE : Hid ((⟨#[108, 101, 110]⟩ : ByteArray) ++ brB (nameB F.N (6, n)) = z1) := Lib.hid (by rw [HNM.out]; exact h1)
  have e1 := fun W => str_add (P := Tryz.prog) h1 (by rw [brB_size]; have := HSZ.out; show 3 + _ ≤ _; omega) W
  clear h1
  clear h hb1 ht h0 h9 hs
  unfold Wr.v
  rw [show ((k : Nat) : Int) = (k : Int) from rfl]
  go_enter Tryz.func21, Tryz.ntmps21
  go_upto_region 1 with (fail)
  generalize hgn : w.heap.size = g at *
  generalize w.alloc (.cells #[.slice F.A F.n F.c, .slice F.AB F.nb F.cb, .slice F.X.a1 F.X.n1 F.X.c1, .slice F.X.a2 F.X.n2 F.X.c2, .slice F.X.a3 F.X.n3 F.X.c3, .slice F.X.a4 F.X.n4 F.X.c4, .slice F.X.a5 F.X.n5 F.X.c5, .int .i64 F.X.self] 52) = w1 at *
  obtain ⟨x0, x1, x2, x3, x4, x5, x6, x7⟩ := HWB.out.c
  obtain ⟨ba, oa, hA, hba, hc⟩ := H1.out.pa (by omega)
  obtain ⟨d0, d1⟩ := hc (k) hk
  rw [hnd] at d0 d1
  dsimp only at d0 d1
  rw [hA] at x0
  clear hc hba
  have hb2 := below_alloc1 w1 (.cells #[.int .i64 6, .int .i64 n] 39)
  have H2 := Lib.hid (H1.out.below hb2)
  have HB2 := Lib.hid (HB1.out.trans (hb2.mono (by have := HB1.out.size; omega)))
  have HWB2 := Lib.hid (HWB.out.keep hb2)
  have HNB2 : Hid ((w1.alloc (.cells #[.int .i64 6, .int .i64 n] 39)).heap[w1.heap.size]? = some (.cells #[.int .i64 6, .int .i64 n] 39 (0, 0))) := Lib.hid (World.alloc_heap_new w1 _)
  go_upto_region 2 with (fail)
  clear x0 x1 x2 x3 x4 x5 x6 x7 d0 d1 hb2
  generalize hpn : w1.heap.size = pb at *
  generalize w1.alloc (.cells #[.int .i64 6, .int .i64 n] 39) = w2 at *
  obtain ⟨x0, x1, x2, x3, x4, x5, x6, x7⟩ := HWB2.out.c
  rw [hA] at x0
  have y0 : w2.cell? ⟨pb, 0, none⟩ = some (.int .i64 6) := cell_of_heap HNB2.out rfl
  have y1 : w2.cell? ⟨pb, 1, none⟩ = some (.int .i64 n) := cell_of_heap HNB2.out rfl
  have HNC := name_any F.X F.N (6, n) w2 H2.out.nm HTH.out
  unfold ScX.v at HNC
  have HNC := Lib.hid HNC
  generalize (nameOf F.N (6, n)).isSome = hs at *
  go_wp2_with fail
  refine HNC.out.mono ?_
  rw [show (nameOf F.N (6, n)).getD ⟨#[]⟩ = nm from HNM.out]
  rintro e w3 ⟨rfl, hb3⟩
  have H3 := Lib.hid (H2.out.below hb3)
  have HB3 := Lib.hid (HB2.out.trans (hb3.mono (by have := HB2.out.size; omega)))
  have HWB3 := Lib.hid (HWB2.out.keep hb3)
  have HNB3 : Hid (w3.heap[pb]? = some (.cells #[.int .i64 6, .int .i64 n] 39 (0, 0))) := Lib.hid ((hb3.block _ (Array.getElem?_eq_some_iff.1 HNB2.out).1).trans HNB2.out)
  clear x0 x1 x2 x3 x4 x5 x6 x7 y0 y1 hb3
  obtain ⟨x0, x1, x2, x3, x4, x5, x6, x7⟩ := HWB3.out.c
  rw [hA] at x0
  have y0 : w3.cell? ⟨pb, 0, none⟩ = some (.int .i64 6) := cell_of_heap HNB3.out rfl
  have y1 : w3.cell? ⟨pb, 1, none⟩ = some (.int .i64 n) := cell_of_heap HNB3.out rfl
  rw [← hgn]
  go_wp2_with fail
  refine (bracketed_any nm w3 (by have := HSZ.out; omega)).mono ?_
  rintro e w4 ⟨rfl, hb4⟩
  have HB4 := Lib.hid (HB3.out.trans (hb4.mono (by have := HB3.out.size; omega)))
  clear hb4
  go_wp2
  go_ret
  exact ⟨by rw [HE.out]; rfl, by rw [hgn]; exact HB4.out⟩
set_option maxRecDepth 20000 in
set_option maxHeartbeats 4000000 in
theorem part8 (F : Wr) (k : Nat) (n : Int) (hk : k < F.e.length) (hnd : F.e.getD (k) (0, 0) = (8, n)) (ht : There F.N (8, n)) (hs : (nameB F.N (8, n)).size ≤ 1000) (h0 : -9223372036854775808 ≤ n) (h9 : n ≤ 9223372036854775807) :
    PartK F (k) (⟨#[110, 111, 110, 101]⟩ ++ brB (nameB F.N (8, n))) := by
  intro w h
  have hb1 := below_alloc1 w (.cells #[.slice F.A F.n F.c, .slice F.AB F.nb F.cb, .slice F.X.a1 F.X.n1 F.X.c1, .slice F.X.a2 F.X.n2 F.X.c2, .slice F.X.a3 F.X.n3 F.X.c3, .slice F.X.a4 F.X.n4 F.X.c4, .slice F.X.a5 F.X.n5 F.X.c5, .int .i64 F.X.self] 52)
  have H1 := Lib.hid (h.below hb1)
  have HWB := Lib.hid (WB.new F w)
  have HB1 := Lib.hid hb1
  have hkn : (k : Int) < (F.n : Int) := by rw [h.n]; omega
  have hk0 : (0 : Int) ≤ (k : Int) := by omega
  have hk00 : (0 : Int) ≤ (k : Int) := by omega
  have hk9 : (k : Int) ≤ 1000000 := by have := h.ln; omega
  have HTH := Lib.hid ht
  have HN0 := Lib.hid h0
  have HN9 := Lib.hid h9
  have HSZ := Lib.hid hs
  obtain ⟨nm, HNM⟩ : ∃ x, Hid (nameB F.N (8, n) = x) := ⟨_, Lib.hid rfl⟩
  rw [HNM.out] at HSZ
  obtain ⟨z1, h1⟩ : ∃ z, (⟨#[110, 111, 110, 101]⟩ : ByteArray) ++ brB nm = z := ⟨_, rfl⟩
  have HE : Hid ((⟨#[110, 111, 110, 101]⟩ : ByteArray) ++ brB (nameB F.N (8, n)) = z1) := Lib.hid (by rw [HNM.out]; exact h1)
  have e1 := fun W => str_add (P := Tryz.prog) h1 (by rw [brB_size]; have := HSZ.out; show 4 + _ ≤ _; omega) W
  clear h1
  clear h hb1 ht h0 h9 hs
  unfold Wr.v
  rw [show ((k : Nat) : Int) = (k : Int) from rfl]
  go_enter Tryz.func21, Tryz.ntmps21
  go_upto_region 1 with (fail)
  generalize hgn : w.heap.size = g at *
  generalize w.alloc (.cells #[.slice F.A F.n F.c, .slice F.AB F.nb F.cb, .slice F.X.a1 F.X.n1 F.X.c1, .slice F.X.a2 F.X.n2 F.X.c2, .slice F.X.a3 F.X.n3 F.X.c3, .slice F.X.a4 F.X.n4 F.X.c4, .slice F.X.a5 F.X.n5 F.X.c5, .int .i64 F.X.self] 52) = w1 at *
  obtain ⟨x0, x1, x2, x3, x4, x5, x6, x7⟩ := HWB.out.c
  obtain ⟨ba, oa, hA, hba, hc⟩ := H1.out.pa (by omega)
  obtain ⟨d0, d1⟩ := hc (k) hk
  rw [hnd] at d0 d1
  dsimp only at d0 d1
  rw [hA] at x0
  clear hc hba
  have hb2 := below_alloc1 w1 (.cells #[.int .i64 8, .int .i64 n] 39)
  have H2 := Lib.hid (H1.out.below hb2)
  have HB2 := Lib.hid (HB1.out.trans (hb2.mono (by have := HB1.out.size; omega)))
  have HWB2 := Lib.hid (HWB.out.keep hb2)
  have HNB2 : Hid ((w1.alloc (.cells #[.int .i64 8, .int .i64 n] 39)).heap[w1.heap.size]? = some (.cells #[.int .i64 8, .int .i64 n] 39 (0, 0))) := Lib.hid (World.alloc_heap_new w1 _)
  go_upto_region 2 with (fail)
  clear x0 x1 x2 x3 x4 x5 x6 x7 d0 d1 hb2
  generalize hpn : w1.heap.size = pb at *
  generalize w1.alloc (.cells #[.int .i64 8, .int .i64 n] 39) = w2 at *
  obtain ⟨x0, x1, x2, x3, x4, x5, x6, x7⟩ := HWB2.out.c
  rw [hA] at x0
  have y0 : w2.cell? ⟨pb, 0, none⟩ = some (.int .i64 8) := cell_of_heap HNB2.out rfl
  have y1 : w2.cell? ⟨pb, 1, none⟩ = some (.int .i64 n) := cell_of_heap HNB2.out rfl
  have HNC := name_any F.X F.N (8, n) w2 H2.out.nm HTH.out
  unfold ScX.v at HNC
  have HNC := Lib.hid HNC
  generalize (nameOf F.N (8, n)).isSome = hs at *
  go_wp2_with fail
  refine HNC.out.mono ?_
  rw [show (nameOf F.N (8, n)).getD ⟨#[]⟩ = nm from HNM.out]
  rintro e w3 ⟨rfl, hb3⟩
  have H3 := Lib.hid (H2.out.below hb3)
  have HB3 := Lib.hid (HB2.out.trans (hb3.mono (by have := HB2.out.size; omega)))
  have HWB3 := Lib.hid (HWB2.out.keep hb3)
  have HNB3 : Hid (w3.heap[pb]? = some (.cells #[.int .i64 8, .int .i64 n] 39 (0, 0))) := Lib.hid ((hb3.block _ (Array.getElem?_eq_some_iff.1 HNB2.out).1).trans HNB2.out)
  clear x0 x1 x2 x3 x4 x5 x6 x7 y0 y1 hb3
  obtain ⟨x0, x1, x2, x3, x4, x5, x6, x7⟩ := HWB3.out.c
  rw [hA] at x0
  have y0 : w3.cell? ⟨pb, 0, none⟩ = some (.int .i64 8) := cell_of_heap HNB3.out rfl
  have y1 : w3.cell? ⟨pb, 1, none⟩ = some (.int .i64 n) := cell_of_heap HNB3.out rfl
  rw [← hgn]
  go_wp2_with fail
  refine (bracketed_any nm w3 (by have := HSZ.out; omega)).mono ?_
  rintro e w4 ⟨rfl, hb4⟩
  have HB4 := Lib.hid (HB3.out.trans (hb4.mono (by have := HB3.out.size; omega)))
  clear hb4
  go_wp2
  go_ret
  exact ⟨by rw [HE.out]; rfl, by rw [hgn]; exact HB4.out⟩
set_option maxRecDepth 20000 in
set_option maxHeartbeats 4000000 in
theorem part7 (F : Wr) (k : Nat) (n : Int) (hk : k < F.e.length) (hnd : F.e.getD (k) (0, 0) = (7, n)) (ht : There F.N (7, n)) (hs : (nameB F.N (7, n)).size ≤ 1000) (h0 : -9223372036854775808 ≤ n) (h9 : n ≤ 9223372036854775807) (hn0 : 0 ≤ n) :
    PartK F (k) (⟨#[97, 116]⟩ ++ brB (nameB F.N (7, n) ++ ⟨#[44, 32]⟩ ++ dS (n % 16))) := by
  intro w h
  have hb1 := below_alloc1 w (.cells #[.slice F.A F.n F.c, .slice F.AB F.nb F.cb, .slice F.X.a1 F.X.n1 F.X.c1, .slice F.X.a2 F.X.n2 F.X.c2, .slice F.X.a3 F.X.n3 F.X.c3, .slice F.X.a4 F.X.n4 F.X.c4, .slice F.X.a5 F.X.n5 F.X.c5, .int .i64 F.X.self] 52)
  have H1 := Lib.hid (h.below hb1)
  have HWB := Lib.hid (WB.new F w)
  have HB1 := Lib.hid hb1
  have hkn : (k : Int) < (F.n : Int) := by rw [h.n]; omega
  have hk0 : (0 : Int) ≤ (k : Int) := by omega
  have hk00 : (0 : Int) ≤ (k : Int) := by omega
  have hk9 : (k : Int) ≤ 1000000 := by have := h.ln; omega
  have HTH := Lib.hid ht
  have HN0 := Lib.hid h0
  have HN9 := Lib.hid h9
  have HSZ := Lib.hid hs
  obtain ⟨nm, HNM⟩ : ∃ x, Hid (nameB F.N (7, n) = x) := ⟨_, Lib.hid rfl⟩
  rw [HNM.out] at HSZ
  have hmod : n.tmod 16 = n % 16 := Int.tmod_eq_emod_of_nonneg hn0
  have hd := dS_size (n := n % 16) (by omega) (by omega)
  obtain ⟨z1, h1⟩ : ∃ z, nm ++ (⟨#[44, 32]⟩ : ByteArray) = z := ⟨_, rfl⟩
  obtain ⟨z2, h2⟩ : ∃ z, z1 ++ dS (n % 16) = z := ⟨_, rfl⟩
  obtain ⟨z3, h3⟩ : ∃ z, (⟨#[97, 116]⟩ : ByteArray) ++ brB z2 = z := ⟨_, rfl⟩
  have s1 : z1.size = nm.size + 2 := by rw [← h1, size_app]; rfl
  have s2 : z2.size = z1.size + (dS (n % 16)).size := by rw [← h2, size_app]
  have HE : Hid ((⟨#[97, 116]⟩ : ByteArray) ++ brB (nameB F.N (7, n) ++ ⟨#[44, 32]⟩ ++ dS (n % 16)) = z3) := Lib.hid (by rw [HNM.out, h1, h2, h3])
  have e1 := fun W => str_add (P := Tryz.prog) h1 (by have := HSZ.out; show _ + 2 ≤ _; omega) W
  have e2 := fun W => str_add (P := Tryz.prog) h2 (by have := HSZ.out; omega) W
  have e3 := fun W => str_add (P := Tryz.prog) h3 (by rw [brB_size]; have := HSZ.out; show 2 + _ ≤ _; omega) W
  have HZ2 : Hid (z2.size ≤ 1000000000) := Lib.hid (by have := HSZ.out; omega)
  obtain ⟨q, HQ⟩ : ∃ q, n % 16 = q := ⟨_, rfl⟩
  have HQ1 : Hid (0 ≤ q ∧ q < 16) := Lib.hid (by omega)
  rw [HQ] at hmod e2
  clear h1 h2 h3 s1 s2 hd HQ
  clear h hb1 ht h0 h9 hs
  unfold Wr.v
  rw [show ((k : Nat) : Int) = (k : Int) from rfl]
  go_enter Tryz.func21, Tryz.ntmps21
  go_upto_region 1 with (fail)
  generalize hgn : w.heap.size = g at *
  generalize w.alloc (.cells #[.slice F.A F.n F.c, .slice F.AB F.nb F.cb, .slice F.X.a1 F.X.n1 F.X.c1, .slice F.X.a2 F.X.n2 F.X.c2, .slice F.X.a3 F.X.n3 F.X.c3, .slice F.X.a4 F.X.n4 F.X.c4, .slice F.X.a5 F.X.n5 F.X.c5, .int .i64 F.X.self] 52) = w1 at *
  obtain ⟨x0, x1, x2, x3, x4, x5, x6, x7⟩ := HWB.out.c
  obtain ⟨ba, oa, hA, hba, hc⟩ := H1.out.pa (by omega)
  obtain ⟨d0, d1⟩ := hc (k) hk
  rw [hnd] at d0 d1
  dsimp only at d0 d1
  rw [hA] at x0
  clear hc hba
  have hb2 := below_alloc1 w1 (.cells #[.int .i64 7, .int .i64 n] 39)
  have H2 := Lib.hid (H1.out.below hb2)
  have HB2 := Lib.hid (HB1.out.trans (hb2.mono (by have := HB1.out.size; omega)))
  have HWB2 := Lib.hid (HWB.out.keep hb2)
  have HNB2 : Hid ((w1.alloc (.cells #[.int .i64 7, .int .i64 n] 39)).heap[w1.heap.size]? = some (.cells #[.int .i64 7, .int .i64 n] 39 (0, 0))) := Lib.hid (World.alloc_heap_new w1 _)
  go_upto_region 2 with (fail)
  clear x0 x1 x2 x3 x4 x5 x6 x7 d0 d1 hb2
  generalize hpn : w1.heap.size = pb at *
  generalize w1.alloc (.cells #[.int .i64 7, .int .i64 n] 39) = w2 at *
  obtain ⟨x0, x1, x2, x3, x4, x5, x6, x7⟩ := HWB2.out.c
  rw [hA] at x0
  have y0 : w2.cell? ⟨pb, 0, none⟩ = some (.int .i64 7) := cell_of_heap HNB2.out rfl
  have y1 : w2.cell? ⟨pb, 1, none⟩ = some (.int .i64 n) := cell_of_heap HNB2.out rfl
  have HNC := name_any F.X F.N (7, n) w2 H2.out.nm HTH.out
  unfold ScX.v at HNC
  have HNC := Lib.hid HNC
  generalize (nameOf F.N (7, n)).isSome = hs at *
  go_wp2_with fail
  refine HNC.out.mono ?_
  rw [show (nameOf F.N (7, n)).getD ⟨#[]⟩ = nm from HNM.out]
  rintro e w3 ⟨rfl, hb3⟩
  have H3 := Lib.hid (H2.out.below hb3)
  have HB3 := Lib.hid (HB2.out.trans (hb3.mono (by have := HB2.out.size; omega)))
  have HWB3 := Lib.hid (HWB2.out.keep hb3)
  have HNB3 : Hid (w3.heap[pb]? = some (.cells #[.int .i64 7, .int .i64 n] 39 (0, 0))) := Lib.hid ((hb3.block _ (Array.getElem?_eq_some_iff.1 HNB2.out).1).trans HNB2.out)
  clear x0 x1 x2 x3 x4 x5 x6 x7 y0 y1 hb3
  obtain ⟨x0, x1, x2, x3, x4, x5, x6, x7⟩ := HWB3.out.c
  rw [hA] at x0
  have y0 : w3.cell? ⟨pb, 0, none⟩ = some (.int .i64 7) := cell_of_heap HNB3.out rfl
  have y1 : w3.cell? ⟨pb, 1, none⟩ = some (.int .i64 n) := cell_of_heap HNB3.out rfl
  rw [← hgn]
  go_wp2_with fail
  refine (decimal_any q w3 (by have := HQ1.out; omega) (by have := HQ1.out; omega) H3.out.tabs).mono ?_
  rintro e w4 ⟨rfl, hb4⟩
  have HB4 := Lib.hid (HB3.out.trans (hb4.mono (by have := HB3.out.size; omega)))
  clear hb4
  go_wp2_with fail
  refine (bracketed_any z2 w4 HZ2.out).mono ?_
  rintro e w5 ⟨rfl, hb5⟩
  have HB5 := Lib.hid (HB4.out.trans (hb5.mono (by have := HB4.out.size; omega)))
  clear hb5
  go_wp2
  go_ret
  exact ⟨by rw [HE.out]; rfl, by rw [hgn]; exact HB5.out⟩
set_option maxRecDepth 20000 in
set_option maxHeartbeats 4000000 in
theorem part3 (F : Wr) (k : Nat) (n : Int) (hk : k + 1 < F.e.length) (hnd : F.e.getD (k + 1) (0, 0) = (3, n)) (ht : There F.N (3, n)) (hs : (nameB F.N (3, n)).size ≤ 1000) (h0 : -9223372036854775808 ≤ n) (h9 : n ≤ 9223372036854775807) (t : ByteArray) (hpt : PartK F k t) (hts : t.size ≤ 1000000000) :
    PartK F (k + 1) (nameB F.N (3, n) ++ ⟨#[91]⟩ ++ t ++ ⟨#[93]⟩) := by
  intro w h
  have hb1 := below_alloc1 w (.cells #[.slice F.A F.n F.c, .slice F.AB F.nb F.cb, .slice F.X.a1 F.X.n1 F.X.c1, .slice F.X.a2 F.X.n2 F.X.c2, .slice F.X.a3 F.X.n3 F.X.c3, .slice F.X.a4 F.X.n4 F.X.c4, .slice F.X.a5 F.X.n5 F.X.c5, .int .i64 F.X.self] 52)
  have H1 := Lib.hid (h.below hb1)
  have HWB := Lib.hid (WB.new F w)
  have HB1 := Lib.hid hb1
  have hkn : ((k : Int) + 1) < (F.n : Int) := by rw [h.n]; omega
  have hk0 : (0 : Int) ≤ ((k : Int) + 1) := by omega
  have hk00 : (0 : Int) ≤ (k : Int) := by omega
  have hk9 : (k : Int) ≤ 1000000 := by have := h.ln; omega
  have HTH := Lib.hid ht
  have HN0 := Lib.hid h0
  have HN9 := Lib.hid h9
  have HSZ := Lib.hid hs
  obtain ⟨nm, HNM⟩ : ∃ x, Hid (nameB F.N (3, n) = x) := ⟨_, Lib.hid rfl⟩
  rw [HNM.out] at HSZ
  have HPT := Lib.hid hpt
  have HTS := Lib.hid hts
  obtain ⟨z1, h1⟩ : ∃ z, nm ++ (⟨#[91]⟩ : ByteArray) = z := ⟨_, rfl⟩
  obtain ⟨z2, h2⟩ : ∃ z, z1 ++ t = z := ⟨_, rfl⟩
  obtain ⟨z3, h3⟩ : ∃ z, z2 ++ (⟨#[93]⟩ : ByteArray) = z := ⟨_, rfl⟩
  have s1 : z1.size = nm.size + 1 := by rw [← h1, size_app]; rfl
  have s2 : z2.size = z1.size + t.size := by rw [← h2, size_app]
  have HE : Hid (nameB F.N (3, n) ++ ⟨#[91]⟩ ++ t ++ ⟨#[93]⟩ = z3) := Lib.hid (by rw [HNM.out, h1, h2, h3])
  have e1 := fun W => str_add (P := Tryz.prog) h1 (by have := HSZ.out; show _ + 1 ≤ _; omega) W
  have e2 := fun W => str_add (P := Tryz.prog) h2 (by have := HSZ.out; omega) W
  have e3 := fun W => str_add (P := Tryz.prog) h3 (by have := HSZ.out; show _ + 1 ≤ _; omega) W
  clear h1 h2 h3 s1 s2 hpt hts
  clear h hb1 ht h0 h9 hs
  unfold Wr.v
  rw [show ((k + 1 : Nat) : Int) = ((k : Int) + 1) from rfl]
  go_enter Tryz.func21, Tryz.ntmps21
  go_upto_region 1 with (fail)
  generalize hgn : w.heap.size = g at *
  generalize w.alloc (.cells #[.slice F.A F.n F.c, .slice F.AB F.nb F.cb, .slice F.X.a1 F.X.n1 F.X.c1, .slice F.X.a2 F.X.n2 F.X.c2, .slice F.X.a3 F.X.n3 F.X.c3, .slice F.X.a4 F.X.n4 F.X.c4, .slice F.X.a5 F.X.n5 F.X.c5, .int .i64 F.X.self] 52) = w1 at *
  obtain ⟨x0, x1, x2, x3, x4, x5, x6, x7⟩ := HWB.out.c
  obtain ⟨ba, oa, hA, hba, hc⟩ := H1.out.pa (by omega)
  obtain ⟨d0, d1⟩ := hc (k + 1) hk
  rw [hnd] at d0 d1
  dsimp only at d0 d1
  rw [hA] at x0
  clear hc hba
  have hb2 := below_alloc1 w1 (.cells #[.int .i64 3, .int .i64 n] 39)
  have H2 := Lib.hid (H1.out.below hb2)
  have HB2 := Lib.hid (HB1.out.trans (hb2.mono (by have := HB1.out.size; omega)))
  have HWB2 := Lib.hid (HWB.out.keep hb2)
  have HNB2 : Hid ((w1.alloc (.cells #[.int .i64 3, .int .i64 n] 39)).heap[w1.heap.size]? = some (.cells #[.int .i64 3, .int .i64 n] 39 (0, 0))) := Lib.hid (World.alloc_heap_new w1 _)
  go_upto_region 2 with (fail)
  clear x0 x1 x2 x3 x4 x5 x6 x7 d0 d1 hb2
  generalize hpn : w1.heap.size = pb at *
  generalize w1.alloc (.cells #[.int .i64 3, .int .i64 n] 39) = w2 at *
  obtain ⟨x0, x1, x2, x3, x4, x5, x6, x7⟩ := HWB2.out.c
  rw [hA] at x0
  have y0 : w2.cell? ⟨pb, 0, none⟩ = some (.int .i64 3) := cell_of_heap HNB2.out rfl
  have y1 : w2.cell? ⟨pb, 1, none⟩ = some (.int .i64 n) := cell_of_heap HNB2.out rfl
  have HNC := name_any F.X F.N (3, n) w2 H2.out.nm HTH.out
  unfold ScX.v at HNC
  have HNC := Lib.hid HNC
  generalize (nameOf F.N (3, n)).isSome = hs at *
  go_wp2_with fail
  refine HNC.out.mono ?_
  rw [show (nameOf F.N (3, n)).getD ⟨#[]⟩ = nm from HNM.out]
  rintro e w3 ⟨rfl, hb3⟩
  have H3 := Lib.hid (H2.out.below hb3)
  have HB3 := Lib.hid (HB2.out.trans (hb3.mono (by have := HB2.out.size; omega)))
  have HWB3 := Lib.hid (HWB2.out.keep hb3)
  have HNB3 : Hid (w3.heap[pb]? = some (.cells #[.int .i64 3, .int .i64 n] 39 (0, 0))) := Lib.hid ((hb3.block _ (Array.getElem?_eq_some_iff.1 HNB2.out).1).trans HNB2.out)
  clear x0 x1 x2 x3 x4 x5 x6 x7 y0 y1 hb3
  obtain ⟨x0, x1, x2, x3, x4, x5, x6, x7⟩ := HWB3.out.c
  rw [hA] at x0
  have y0 : w3.cell? ⟨pb, 0, none⟩ = some (.int .i64 3) := cell_of_heap HNB3.out rfl
  have y1 : w3.cell? ⟨pb, 1, none⟩ = some (.int .i64 n) := cell_of_heap HNB3.out rfl
  rw [← hgn]
  have HPC := HPT.out w3 H3.out
  unfold Wr.v at HPC
  rw [hA] at HPC
  have HPC := Lib.hid HPC
  go_wp2_with fail
  refine HPC.out.mono ?_
  rintro e w4 ⟨rfl, hb4⟩
  have HB4 := Lib.hid (HB3.out.trans (hb4.mono (by have := HB3.out.size; omega)))
  clear hb4 HPC
  go_wp2
  go_ret
  exact ⟨by rw [HE.out]; rfl, by rw [hgn]; exact HB4.out⟩
set_option maxRecDepth 20000 in
set_option maxHeartbeats 4000000 in
theorem part9 (F : Wr) (k : Nat) (n : Int) (hk : k + 1 < F.e.length) (hnd : F.e.getD (k + 1) (0, 0) = (9, n)) (ht : There F.N (9, n)) (hs : (nameB F.N (9, n)).size ≤ 1000) (h0 : -9223372036854775808 ≤ n) (h9 : n ≤ 9223372036854775807) (t : ByteArray) (r : Int × Int) (hpt : PartK F k t) (hr : F.e.getD k (0, 0) = r) (hts : t.size ≤ 1000000000) :
    PartK F (k + 1) (⟨#[33]⟩ ++ bndT r 6 t) := by
  intro w h
  have hb1 := below_alloc1 w (.cells #[.slice F.A F.n F.c, .slice F.AB F.nb F.cb, .slice F.X.a1 F.X.n1 F.X.c1, .slice F.X.a2 F.X.n2 F.X.c2, .slice F.X.a3 F.X.n3 F.X.c3, .slice F.X.a4 F.X.n4 F.X.c4, .slice F.X.a5 F.X.n5 F.X.c5, .int .i64 F.X.self] 52)
  have H1 := Lib.hid (h.below hb1)
  have HWB := Lib.hid (WB.new F w)
  have HB1 := Lib.hid hb1
  have hkn : ((k : Int) + 1) < (F.n : Int) := by rw [h.n]; omega
  have hk0 : (0 : Int) ≤ ((k : Int) + 1) := by omega
  have hk00 : (0 : Int) ≤ (k : Int) := by omega
  have hk9 : (k : Int) ≤ 1000000 := by have := h.ln; omega
  have HTH := Lib.hid ht
  have HN0 := Lib.hid h0
  have HN9 := Lib.hid h9
  have HSZ := Lib.hid hs
  obtain ⟨nm, HNM⟩ : ∃ x, Hid (nameB F.N (9, n) = x) := ⟨_, Lib.hid rfl⟩
  rw [HNM.out] at HSZ
  have HPT := Lib.hid hpt
  have HTS := Lib.hid hts
  have HR := Lib.hid hr
  have HKL : Hid (k < F.e.length) := Lib.hid (by omega)
  obtain ⟨v, HV⟩ : ∃ v, Hid (bndT r 6 t = v) := ⟨_, Lib.hid rfl⟩
  have hvs : v.size ≤ 1000000002 := by rw [← HV.out]; have := bndT_size r 6 t; omega
  obtain ⟨z1, h1⟩ : ∃ z, (⟨#[33]⟩ : ByteArray) ++ v = z := ⟨_, rfl⟩
  have HE : Hid ((⟨#[33]⟩ : ByteArray) ++ bndT r 6 t = z1) := Lib.hid (by rw [HV.out]; exact h1)
  have e1 := fun W => str_add (P := Tryz.prog) h1 (by show 1 + _ ≤ _; omega) W
  clear h1 hvs hpt hts hr
  clear h hb1 ht h0 h9 hs
  unfold Wr.v
  rw [show ((k + 1 : Nat) : Int) = ((k : Int) + 1) from rfl]
  go_enter Tryz.func21, Tryz.ntmps21
  go_upto_region 1 with (fail)
  generalize hgn : w.heap.size = g at *
  generalize w.alloc (.cells #[.slice F.A F.n F.c, .slice F.AB F.nb F.cb, .slice F.X.a1 F.X.n1 F.X.c1, .slice F.X.a2 F.X.n2 F.X.c2, .slice F.X.a3 F.X.n3 F.X.c3, .slice F.X.a4 F.X.n4 F.X.c4, .slice F.X.a5 F.X.n5 F.X.c5, .int .i64 F.X.self] 52) = w1 at *
  obtain ⟨x0, x1, x2, x3, x4, x5, x6, x7⟩ := HWB.out.c
  obtain ⟨ba, oa, hA, hba, hc⟩ := H1.out.pa (by omega)
  obtain ⟨d0, d1⟩ := hc (k + 1) hk
  rw [hnd] at d0 d1
  dsimp only at d0 d1
  rw [hA] at x0
  clear hc hba
  have hb2 := below_alloc1 w1 (.cells #[.int .i64 9, .int .i64 n] 39)
  have H2 := Lib.hid (H1.out.below hb2)
  have HB2 := Lib.hid (HB1.out.trans (hb2.mono (by have := HB1.out.size; omega)))
  have HWB2 := Lib.hid (HWB.out.keep hb2)
  have HNB2 : Hid ((w1.alloc (.cells #[.int .i64 9, .int .i64 n] 39)).heap[w1.heap.size]? = some (.cells #[.int .i64 9, .int .i64 n] 39 (0, 0))) := Lib.hid (World.alloc_heap_new w1 _)
  go_upto_region 2 with (fail)
  clear x0 x1 x2 x3 x4 x5 x6 x7 d0 d1 hb2
  generalize hpn : w1.heap.size = pb at *
  generalize w1.alloc (.cells #[.int .i64 9, .int .i64 n] 39) = w2 at *
  obtain ⟨x0, x1, x2, x3, x4, x5, x6, x7⟩ := HWB2.out.c
  rw [hA] at x0
  have y0 : w2.cell? ⟨pb, 0, none⟩ = some (.int .i64 9) := cell_of_heap HNB2.out rfl
  have y1 : w2.cell? ⟨pb, 1, none⟩ = some (.int .i64 n) := cell_of_heap HNB2.out rfl
  have HNC := name_any F.X F.N (9, n) w2 H2.out.nm HTH.out
  unfold ScX.v at HNC
  have HNC := Lib.hid HNC
  generalize (nameOf F.N (9, n)).isSome = hs at *
  go_wp2_with fail
  refine HNC.out.mono ?_
  rw [show (nameOf F.N (9, n)).getD ⟨#[]⟩ = nm from HNM.out]
  rintro e w3 ⟨rfl, hb3⟩
  have H3 := Lib.hid (H2.out.below hb3)
  have HB3 := Lib.hid (HB2.out.trans (hb3.mono (by have := HB2.out.size; omega)))
  have HWB3 := Lib.hid (HWB2.out.keep hb3)
  have HNB3 : Hid (w3.heap[pb]? = some (.cells #[.int .i64 9, .int .i64 n] 39 (0, 0))) := Lib.hid ((hb3.block _ (Array.getElem?_eq_some_iff.1 HNB2.out).1).trans HNB2.out)
  clear x0 x1 x2 x3 x4 x5 x6 x7 y0 y1 hb3
  obtain ⟨x0, x1, x2, x3, x4, x5, x6, x7⟩ := HWB3.out.c
  rw [hA] at x0
  have y0 : w3.cell? ⟨pb, 0, none⟩ = some (.int .i64 9) := cell_of_heap HNB3.out rfl
  have y1 : w3.cell? ⟨pb, 1, none⟩ = some (.int .i64 n) := cell_of_heap HNB3.out rfl
  rw [← hgn]
  have HPC := bound_any F k 6 t r HPT.out HKL.out HR.out HTS.out w3 H3.out
  unfold Wr.v at HPC
  rw [hA] at HPC
  rw [HV.out] at HPC
  rw [show ((6 : Nat) : Int) = 6 from rfl] at HPC
  have HPC := Lib.hid HPC
  go_wp2_with fail
  refine HPC.out.mono ?_
  rintro e w4 ⟨rfl, hb4⟩
  have HB4 := Lib.hid (HB3.out.trans (hb4.mono (by have := HB3.out.size; omega)))
  clear hb4 HPC
  go_wp2
  go_ret
  exact ⟨by rw [HE.out]; rfl, by rw [hgn]; exact HB4.out⟩
set_option maxRecDepth 20000 in
set_option maxHeartbeats 4000000 in
theorem part10 (F : Wr) (k : Nat) (n : Int) (hk : k + 1 < F.e.length) (hnd : F.e.getD (k + 1) (0, 0) = (10, n)) (ht : There F.N (10, n)) (hs : (nameB F.N (10, n)).size ≤ 1000) (h0 : -9223372036854775808 ≤ n) (h9 : n ≤ 9223372036854775807) (t : ByteArray) (r : Int × Int) (hpt : PartK F k t) (hr : F.e.getD k (0, 0) = r) (hts : t.size ≤ 1000000000) :
    PartK F (k + 1) (⟨#[45]⟩ ++ negT r t) := by
  intro w h
  have hb1 := below_alloc1 w (.cells #[.slice F.A F.n F.c, .slice F.AB F.nb F.cb, .slice F.X.a1 F.X.n1 F.X.c1, .slice F.X.a2 F.X.n2 F.X.c2, .slice F.X.a3 F.X.n3 F.X.c3, .slice F.X.a4 F.X.n4 F.X.c4, .slice F.X.a5 F.X.n5 F.X.c5, .int .i64 F.X.self] 52)
  have H1 := Lib.hid (h.below hb1)
  have HWB := Lib.hid (WB.new F w)
  have HB1 := Lib.hid hb1
  have hkn : ((k : Int) + 1) < (F.n : Int) := by rw [h.n]; omega
  have hk0 : (0 : Int) ≤ ((k : Int) + 1) := by omega
  have hk00 : (0 : Int) ≤ (k : Int) := by omega
  have hk9 : (k : Int) ≤ 1000000 := by have := h.ln; omega
  have HTH := Lib.hid ht
  have HN0 := Lib.hid h0
  have HN9 := Lib.hid h9
  have HSZ := Lib.hid hs
  obtain ⟨nm, HNM⟩ : ∃ x, Hid (nameB F.N (10, n) = x) := ⟨_, Lib.hid rfl⟩
  rw [HNM.out] at HSZ
  have HPT := Lib.hid hpt
  have HTS := Lib.hid hts
  have HR := Lib.hid hr
  have HKL : Hid (k < F.e.length) := Lib.hid (by omega)
  obtain ⟨v, HV⟩ : ∃ v, Hid (negT r t = v) := ⟨_, Lib.hid rfl⟩
  have hvs : v.size ≤ 1000000002 := by rw [← HV.out]; unfold negT; split; rw [brB_size]; omega; have := bndT_size r 6 t; omega
  obtain ⟨z1, h1⟩ : ∃ z, (⟨#[45]⟩ : ByteArray) ++ v = z := ⟨_, rfl⟩
  have HE : Hid ((⟨#[45]⟩ : ByteArray) ++ negT r t = z1) := Lib.hid (by rw [HV.out]; exact h1)
  have e1 := fun W => str_add (P := Tryz.prog) h1 (by show 1 + _ ≤ _; omega) W
  clear h1 hvs hpt hts hr
  clear h hb1 ht h0 h9 hs
  unfold Wr.v
  rw [show ((k + 1 : Nat) : Int) = ((k : Int) + 1) from rfl]
  go_enter Tryz.func21, Tryz.ntmps21
  go_upto_region 1 with (fail)
  generalize hgn : w.heap.size = g at *
  generalize w.alloc (.cells #[.slice F.A F.n F.c, .slice F.AB F.nb F.cb, .slice F.X.a1 F.X.n1 F.X.c1, .slice F.X.a2 F.X.n2 F.X.c2, .slice F.X.a3 F.X.n3 F.X.c3, .slice F.X.a4 F.X.n4 F.X.c4, .slice F.X.a5 F.X.n5 F.X.c5, .int .i64 F.X.self] 52) = w1 at *
  obtain ⟨x0, x1, x2, x3, x4, x5, x6, x7⟩ := HWB.out.c
  obtain ⟨ba, oa, hA, hba, hc⟩ := H1.out.pa (by omega)
  obtain ⟨d0, d1⟩ := hc (k + 1) hk
  rw [hnd] at d0 d1
  dsimp only at d0 d1
  rw [hA] at x0
  clear hc hba
  have hb2 := below_alloc1 w1 (.cells #[.int .i64 10, .int .i64 n] 39)
  have H2 := Lib.hid (H1.out.below hb2)
  have HB2 := Lib.hid (HB1.out.trans (hb2.mono (by have := HB1.out.size; omega)))
  have HWB2 := Lib.hid (HWB.out.keep hb2)
  have HNB2 : Hid ((w1.alloc (.cells #[.int .i64 10, .int .i64 n] 39)).heap[w1.heap.size]? = some (.cells #[.int .i64 10, .int .i64 n] 39 (0, 0))) := Lib.hid (World.alloc_heap_new w1 _)
  go_upto_region 2 with (fail)
  clear x0 x1 x2 x3 x4 x5 x6 x7 d0 d1 hb2
  generalize hpn : w1.heap.size = pb at *
  generalize w1.alloc (.cells #[.int .i64 10, .int .i64 n] 39) = w2 at *
  obtain ⟨x0, x1, x2, x3, x4, x5, x6, x7⟩ := HWB2.out.c
  rw [hA] at x0
  have y0 : w2.cell? ⟨pb, 0, none⟩ = some (.int .i64 10) := cell_of_heap HNB2.out rfl
  have y1 : w2.cell? ⟨pb, 1, none⟩ = some (.int .i64 n) := cell_of_heap HNB2.out rfl
  have HNC := name_any F.X F.N (10, n) w2 H2.out.nm HTH.out
  unfold ScX.v at HNC
  have HNC := Lib.hid HNC
  generalize (nameOf F.N (10, n)).isSome = hs at *
  go_wp2_with fail
  refine HNC.out.mono ?_
  rw [show (nameOf F.N (10, n)).getD ⟨#[]⟩ = nm from HNM.out]
  rintro e w3 ⟨rfl, hb3⟩
  have H3 := Lib.hid (H2.out.below hb3)
  have HB3 := Lib.hid (HB2.out.trans (hb3.mono (by have := HB2.out.size; omega)))
  have HWB3 := Lib.hid (HWB2.out.keep hb3)
  have HNB3 : Hid (w3.heap[pb]? = some (.cells #[.int .i64 10, .int .i64 n] 39 (0, 0))) := Lib.hid ((hb3.block _ (Array.getElem?_eq_some_iff.1 HNB2.out).1).trans HNB2.out)
  clear x0 x1 x2 x3 x4 x5 x6 x7 y0 y1 hb3
  obtain ⟨x0, x1, x2, x3, x4, x5, x6, x7⟩ := HWB3.out.c
  rw [hA] at x0
  have y0 : w3.cell? ⟨pb, 0, none⟩ = some (.int .i64 10) := cell_of_heap HNB3.out rfl
  have y1 : w3.cell? ⟨pb, 1, none⟩ = some (.int .i64 n) := cell_of_heap HNB3.out rfl
  rw [← hgn]
  have HPC := negated_any F k t r HPT.out HKL.out HR.out HTS.out w3 H3.out
  unfold Wr.v at HPC
  rw [hA] at HPC
  rw [HV.out] at HPC
  have HPC := Lib.hid HPC
  go_wp2_with fail
  refine HPC.out.mono ?_
  rintro e w4 ⟨rfl, hb4⟩
  have HB4 := Lib.hid (HB3.out.trans (hb4.mono (by have := HB3.out.size; omega)))
  clear hb4 HPC
  go_wp2
  go_ret
  exact ⟨by rw [HE.out]; rfl, by rw [hgn]; exact HB4.out⟩
set_option maxRecDepth 20000 in
set_option maxHeartbeats 4000000 in
theorem partB (F : Wr) (k : Nat) (op n : Int) (hk : k + 1 < F.e.length) (hnd : F.e.getD (k + 1) (0, 0) = (op, n)) (ht : There F.N (op, n)) (hs : (nameB F.N (op, n)).size ≤ 1000) (h0 : -9223372036854775808 ≤ n) (h9 : n ≤ 9223372036854775807) (hop : 11 ≤ op) (m : Nat) (ta tb : ByteArray) (ra rb : Int × Int) (hpa : PartK F m ta) (hpb : PartK F k tb) (hm : m < k) (hbg : F.B.getD k 0 = ((m + 1 : Nat) : Int)) (hra : F.e.getD m (0, 0) = ra) (hrb : F.e.getD k (0, 0) = rb) (hsa : ta.size ≤ 1000000000) (hsb : tb.size ≤ 1000000000) (p : Int × Nat × ByteArray × Nat) (hp : pOf op = some p) :
    PartK F (k + 1) (biT (op, n) ra rb ta tb) := by
  intro w h
  have hb1 := below_alloc1 w (.cells #[.slice F.A F.n F.c, .slice F.AB F.nb F.cb, .slice F.X.a1 F.X.n1 F.X.c1, .slice F.X.a2 F.X.n2 F.X.c2, .slice F.X.a3 F.X.n3 F.X.c3, .slice F.X.a4 F.X.n4 F.X.c4, .slice F.X.a5 F.X.n5 F.X.c5, .int .i64 F.X.self] 52)
  have H1 := Lib.hid (h.below hb1)
  have HWB := Lib.hid (WB.new F w)
  have HB1 := Lib.hid hb1
  have hkn : ((k : Int) + 1) < (F.n : Int) := by rw [h.n]; omega
  have hk0 : (0 : Int) ≤ ((k : Int) + 1) := by omega
  have hk00 : (0 : Int) ≤ (k : Int) := by omega
  have hk9 : (k : Int) ≤ 1000000 := by have := h.ln; omega
  have HTH := Lib.hid ht
  have HN0 := Lib.hid h0
  have HN9 := Lib.hid h9
  have HSZ := Lib.hid hs
  obtain ⟨nm, HNM⟩ : ∃ x, Hid (nameB F.N (op, n) = x) := ⟨_, Lib.hid rfl⟩
  rw [HNM.out] at HSZ
  have HPA := Lib.hid hpa
  have HPB := Lib.hid hpb
  have HBG := Lib.hid hbg
  have HRA := Lib.hid hra
  have HRB := Lib.hid hrb
  have HSA := Lib.hid hsa
  have HSB := Lib.hid hsb
  have HM := Lib.hid hm
  have HKK := Lib.hid hk
  have HND := Lib.hid hnd
  have HOP := Lib.hid hp
  have g1 : ¬ op = 1 := by omega
  have g2 : ¬ op = 2 := by omega
  have g3 : ¬ op = 3 := by omega
  have g4 : ¬ op = 4 := by omega
  have g5 : ¬ op = 5 := by omega
  have g6 : ¬ op = 6 := by omega
  have g7 : ¬ op = 7 := by omega
  have g8 : ¬ op = 8 := by omega
  have g9 : ¬ op = 9 := by omega
  have g10 : ¬ op = 10 := by omega
  clear hpa hpb hbg hra hrb hsa hsb hm hp hop
  clear h hb1 ht h0 h9 hs
  unfold Wr.v
  rw [show ((k + 1 : Nat) : Int) = ((k : Int) + 1) from rfl]
  go_enter Tryz.func21, Tryz.ntmps21
  go_upto_region 1 with (fail)
  generalize hgn : w.heap.size = g at *
  generalize w.alloc (.cells #[.slice F.A F.n F.c, .slice F.AB F.nb F.cb, .slice F.X.a1 F.X.n1 F.X.c1, .slice F.X.a2 F.X.n2 F.X.c2, .slice F.X.a3 F.X.n3 F.X.c3, .slice F.X.a4 F.X.n4 F.X.c4, .slice F.X.a5 F.X.n5 F.X.c5, .int .i64 F.X.self] 52) = w1 at *
  obtain ⟨x0, x1, x2, x3, x4, x5, x6, x7⟩ := HWB.out.c
  obtain ⟨ba, oa, hA, hba, hc⟩ := H1.out.pa (by omega)
  obtain ⟨d0, d1⟩ := hc (k + 1) hk
  rw [hnd] at d0 d1
  dsimp only at d0 d1
  rw [hA] at x0
  clear hc hba
  have hb2 := below_alloc1 w1 (.cells #[.int .i64 op, .int .i64 n] 39)
  have H2 := Lib.hid (H1.out.below hb2)
  have HB2 := Lib.hid (HB1.out.trans (hb2.mono (by have := HB1.out.size; omega)))
  have HWB2 := Lib.hid (HWB.out.keep hb2)
  have HNB2 : Hid ((w1.alloc (.cells #[.int .i64 op, .int .i64 n] 39)).heap[w1.heap.size]? = some (.cells #[.int .i64 op, .int .i64 n] 39 (0, 0))) := Lib.hid (World.alloc_heap_new w1 _)
  go_upto_region 2 with (fail)
  clear x0 x1 x2 x3 x4 x5 x6 x7 d0 d1 hb2
  generalize hpn : w1.heap.size = pb at *
  generalize w1.alloc (.cells #[.int .i64 op, .int .i64 n] 39) = w2 at *
  obtain ⟨x0, x1, x2, x3, x4, x5, x6, x7⟩ := HWB2.out.c
  rw [hA] at x0
  have y0 : w2.cell? ⟨pb, 0, none⟩ = some (.int .i64 op) := cell_of_heap HNB2.out rfl
  have y1 : w2.cell? ⟨pb, 1, none⟩ = some (.int .i64 n) := cell_of_heap HNB2.out rfl
  have HNC := name_any F.X F.N (op, n) w2 H2.out.nm HTH.out
  unfold ScX.v at HNC
  have HNC := Lib.hid HNC
  generalize (nameOf F.N (op, n)).isSome = hs at *
  go_wp2_with fail
  refine HNC.out.mono ?_
  rw [show (nameOf F.N (op, n)).getD ⟨#[]⟩ = nm from HNM.out]
  rintro e w3 ⟨rfl, hb3⟩
  have H3 := Lib.hid (H2.out.below hb3)
  have HB3 := Lib.hid (HB2.out.trans (hb3.mono (by have := HB2.out.size; omega)))
  have HWB3 := Lib.hid (HWB2.out.keep hb3)
  have HNB3 : Hid (w3.heap[pb]? = some (.cells #[.int .i64 op, .int .i64 n] 39 (0, 0))) := Lib.hid ((hb3.block _ (Array.getElem?_eq_some_iff.1 HNB2.out).1).trans HNB2.out)
  clear x0 x1 x2 x3 x4 x5 x6 x7 y0 y1 hb3
  obtain ⟨x0, x1, x2, x3, x4, x5, x6, x7⟩ := HWB3.out.c
  rw [hA] at x0
  have y0 : w3.cell? ⟨pb, 0, none⟩ = some (.int .i64 op) := cell_of_heap HNB3.out rfl
  have y1 : w3.cell? ⟨pb, 1, none⟩ = some (.int .i64 n) := cell_of_heap HNB3.out rfl
  rw [← hgn]
  have HPC := pair_any F m k ta tb (op, n) ra rb HPA.out HPB.out HKK.out HM.out HBG.out HND.out HRA.out HRB.out HSA.out HSB.out p HOP.out w3 H3.out
  unfold Wr.v at HPC
  rw [hA] at HPC
  have HPC := Lib.hid HPC
  go_wp2_with fail
  refine HPC.out.mono ?_
  rintro e w4 ⟨rfl, hb4⟩
  have HB4 := Lib.hid (HB3.out.trans (hb4.mono (by have := HB3.out.size; omega)))
  clear hb4 HPC
  go_wp2
  go_ret
  exact ⟨rfl, by rw [hgn]; exact HB4.out⟩
end Go.Proofs.YtmnigdphikoljaaGreatDoor.et
