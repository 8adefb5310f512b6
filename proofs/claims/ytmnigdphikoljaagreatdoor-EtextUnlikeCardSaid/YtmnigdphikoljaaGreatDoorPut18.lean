/- Contracts that the claim stands on, several texts in one: EtPair. -/
import Derived.Test.YtmnigdphikoljaaGreatDoorPut1
import Derived.Test.YtmnigdphikoljaaGreatDoorPut2
import Derived.Test.YtmnigdphikoljaaGreatDoorPut3
import Derived.Test.YtmnigdphikoljaaGreatDoorPut4
import Derived.Test.YtmnigdphikoljaaGreatDoorPut5
import Derived.Test.YtmnigdphikoljaaGreatDoorPut6
import Derived.Test.YtmnigdphikoljaaGreatDoorPut7
import Derived.Test.YtmnigdphikoljaaGreatDoorPut8
import Derived.Test.YtmnigdphikoljaaGreatDoorPut9
import Derived.Test.YtmnigdphikoljaaGreatDoorPut10
import Derived.Test.YtmnigdphikoljaaGreatDoorPut11
import Derived.Test.YtmnigdphikoljaaGreatDoorPut12
import Derived.Test.YtmnigdphikoljaaGreatDoorPut13
import Derived.Test.YtmnigdphikoljaaGreatDoorPut14
import Derived.Test.YtmnigdphikoljaaGreatDoorPut15
import Derived.Test.YtmnigdphikoljaaGreatDoorPut16
import Derived.Test.YtmnigdphikoljaaGreatDoorPut17
namespace Go.Proofs.YtmnigdphikoljaaGreatDoor.et
open Go.ChangeShapes Go.WideShapes Go.ChangeAt Go.RowKit Go.Deep

def negT (r : Int × Int) (t : ByteArray) : ByteArray := if r.1 = 1 then brB t else bndT r 6 t
set_option maxRecDepth 20000 in
set_option maxHeartbeats 4000000 in
theorem negated_any (F : Wr) (k : Nat) (t : ByteArray) (nd : Int × Int) (hp : PartK F k t) (hk : k < F.e.length) (hnd : F.e.getD k (0, 0) = nd) (hs : t.size ≤ 1000000000) (w : World) (h : WrW F w) :
    Calls Tryz.prog 48 #[F.v, .int .i64 (k : Nat)] w fun e w' => e = .returned (.string (negT nd t)) ∧ Below w.heap.size w w' := by
  have H := Lib.hid h
  have HP := Lib.hid hp
  have HS := Lib.hid hs
  have hb1 := below_alloc1 w (.cells #[.slice F.A F.n F.c, .slice F.AB F.nb F.cb, .slice F.X.a1 F.X.n1 F.X.c1, .slice F.X.a2 F.X.n2 F.X.c2, .slice F.X.a3 F.X.n3 F.X.c3, .slice F.X.a4 F.X.n4 F.X.c4, .slice F.X.a5 F.X.n5 F.X.c5, .int .i64 F.X.self] 52)
  have H1 := Lib.hid (h.below hb1)
  have HWB := Lib.hid (WB.new F w)
  have HB1 := Lib.hid hb1
  have hkn : (k : Int) < (F.n : Int) := by rw [h.n]; omega
  have hk0 : (0 : Int) ≤ (k : Int) := by omega
  have HND := Lib.hid hnd
  have HKK := Lib.hid hk
  clear h hp hs hb1
  unfold Wr.v
  go_enter Tryz.func48, Tryz.ntmps48
  go_upto_region 1 with (fail)
  generalize hgn : w.heap.size = g at *
  generalize w.alloc (.cells #[.slice F.A F.n F.c, .slice F.AB F.nb F.cb, .slice F.X.a1 F.X.n1 F.X.c1, .slice F.X.a2 F.X.n2 F.X.c2, .slice F.X.a3 F.X.n3 F.X.c3, .slice F.X.a4 F.X.n4 F.X.c4, .slice F.X.a5 F.X.n5 F.X.c5, .int .i64 F.X.self] 52) = w1 at *
  obtain ⟨x0, x1, x2, x3, x4, x5, x6, x7⟩ := HWB.out.c
  obtain ⟨ba, oa, hA, hba, hc⟩ := H1.out.pa (by omega)
  obtain ⟨d0, d1⟩ := hc k hk
  rw [hnd] at d0 d1
  rw [hA] at x0
  clear hc hba hnd
  by_cases h1 : nd.1 = 1
  · have HE : Hid (negT nd t = brB t) := Lib.hid (if_pos h1)
    rw [h1] at d0
    have HPC := HP.out w1 H1.out
    unfold Wr.v at HPC
    rw [hA] at HPC
    have HPC := Lib.hid HPC
    go_wp2_with fail
    refine HPC.out.mono ?_
    rintro e w7 ⟨rfl, hb7⟩
    have HB7 := Lib.hid (HB1.out.trans (hb7.mono (by have := HB1.out.size; omega)))
    clear hb7 HPC
    go_wp2_with fail
    refine (bracketed_any t w7 HS.out).mono ?_
    rintro e w8 ⟨rfl, hb8⟩
    have HB8 := Lib.hid (HB7.out.trans (hb8.mono (by have := HB7.out.size; omega)))
    clear hb8
    go_wp2
    go_ret
    rw [hgn]
    exact ⟨by rw [HE.out]; rfl, HB8.out⟩
  · have HE : Hid (negT nd t = bndT nd 6 t) := Lib.hid (if_neg h1)
    have HPC := bound_any F k 6 t nd HP.out HKK.out HND.out HS.out w1 H1.out
    unfold Wr.v at HPC
    rw [hA] at HPC
    have HPC := Lib.hid HPC
    go_wp2_with fail
    refine HPC.out.mono ?_
    rintro e w7 ⟨rfl, hb7⟩
    have HB7 := Lib.hid (HB1.out.trans (hb7.mono (by have := HB1.out.size; omega)))
    clear hb7 HPC
    go_wp2
    go_ret
    rw [hgn]
    exact ⟨by rw [HE.out]; rfl, HB7.out⟩

set_option maxRecDepth 20000 in
set_option maxHeartbeats 8000000 in
theorem pair_any (F : Wr) (m k : Nat) (ta tb : ByteArray) (nd ra rb : Int × Int) (hpa : PartK F m ta) (hpb : PartK F k tb) (hk : k + 1 < F.e.length) (hm : m < k) (hbg : F.B.getD k 0 = ((m + 1 : Nat) : Int)) (hnd : F.e.getD (k + 1) (0, 0) = nd) (hra : F.e.getD m (0, 0) = ra) (hrb : F.e.getD k (0, 0) = rb)
    (hsa : ta.size ≤ 1000000000) (hsb : tb.size ≤ 1000000000) (p : Int × Nat × ByteArray × Nat) (hp : pOf nd.1 = some p) (w : World) (h : WrW F w) :
    Calls Tryz.prog 49 #[F.v, .int .i64 ((k : Int) + 1)] w fun e w' => e = .returned (.string (biT nd ra rb ta tb)) ∧ Below w.heap.size w w' := by
  obtain ⟨q1, q2, q3, q4⟩ := pOf_size hp
  have H := Lib.hid h
  have HPA := Lib.hid hpa
  have HPB := Lib.hid hpb
  have HSA := Lib.hid hsa
  have HSB := Lib.hid hsb
  have HO := Lib.hid hp
  have HRA := Lib.hid hra
  have HRB := Lib.hid hrb
  have HKL := Lib.hid hk
  have HML := Lib.hid hm
  have hb1 := below_alloc1 w (.cells #[.slice F.A F.n F.c, .slice F.AB F.nb F.cb, .slice F.X.a1 F.X.n1 F.X.c1, .slice F.X.a2 F.X.n2 F.X.c2, .slice F.X.a3 F.X.n3 F.X.c3, .slice F.X.a4 F.X.n4 F.X.c4, .slice F.X.a5 F.X.n5 F.X.c5, .int .i64 F.X.self] 52)
  have H1 := Lib.hid (h.below hb1)
  have HWB := Lib.hid (WB.new F w)
  have HB1 := Lib.hid hb1
  have hkn : (k : Int) + 1 < (F.n : Int) := by rw [h.n]; omega
  have hk0 : (0 : Int) ≤ (k : Int) + 1 := by omega
  have hk00 : (0 : Int) ≤ (k : Int) := by omega
  have hk9 : (k : Int) ≤ 1000000 := by have := h.ln; omega
  have hm9 : (m : Int) ≤ 1000000 := by have := h.ln; omega
  obtain ⟨op, sr, sg, fn⟩ := p
  dsimp only at q1 q2 q3 q4
  clear h hpa hpb hsa hsb hb1 hp hra hrb q2
  unfold Wr.v
  go_enter Tryz.func49, Tryz.ntmps49
  go_upto_region 1 with (fail)
  generalize hgn : w.heap.size = g at *
  generalize w.alloc (.cells #[.slice F.A F.n F.c, .slice F.AB F.nb F.cb, .slice F.X.a1 F.X.n1 F.X.c1, .slice F.X.a2 F.X.n2 F.X.c2, .slice F.X.a3 F.X.n3 F.X.c3, .slice F.X.a4 F.X.n4 F.X.c4, .slice F.X.a5 F.X.n5 F.X.c5, .int .i64 F.X.self] 52) = w1 at *
  obtain ⟨x0, x1, x2, x3, x4, x5, x6, x7⟩ := HWB.out.c
  obtain ⟨ba, oa, hA, hba, hc⟩ := H1.out.pa (by omega)
  obtain ⟨d0, d1⟩ := hc (k + 1) (by omega)
  rw [hnd] at d0 d1
  rw [hA] at x0
  clear hc hba
  go_wp2_with fail
  refine (pairOf_any nd.1 w1).mono ?_
  rw [HO.out]
  rintro e w2 ⟨rfl, hb2⟩
  have HB2 := Lib.hid (HB1.out.trans (hb2.mono (by have := HB1.out.size; omega)))
  have H2 := Lib.hid (H1.out.below hb2)
  have HWB2 := Lib.hid (HWB.out.keep hb2)
  clear x0 x1 x2 x3 x4 x5 x6 x7 d0 d1 hb2
  unfold pvC
  dsimp only [Option.isSome]
  have hb3 := below_alloc1 w2 (.cells #[.int .i64 op, .int .i64 (sr : Nat), .string sg, .func (.func fn) #[] #[]] 139)
  have H3 := Lib.hid (H2.out.below hb3)
  have HB3 := Lib.hid (HB2.out.trans (hb3.mono (by have := HB2.out.size; omega)))
  have HWB3 := Lib.hid (HWB2.out.keep hb3)
  have HNEW : Hid ((w2.alloc (.cells #[.int .i64 op, .int .i64 (sr : Nat), .string sg, .func (.func fn) #[] #[]] 139)).heap[w2.heap.size]? = some (.cells #[.int .i64 op, .int .i64 (sr : Nat), .string sg, .func (.func fn) #[] #[]] 139 (0, 0))) := Lib.hid (World.alloc_heap_new w2 _)
  clear hb3
  go_upto_region 2 with (fail)
  generalize hpn : w2.heap.size = pb at *
  generalize w2.alloc (.cells #[.int .i64 op, .int .i64 (sr : Nat), .string sg, .func (.func fn) #[] #[]] 139) = w3 at *
  have p1 : w3.cell? ⟨pb, 1, none⟩ = some (.int .i64 (sr : Nat)) := cell_of_heap HNEW.out rfl
  obtain ⟨lst, hlst⟩ : ∃ l : Nat, (if sr = 3 then 4 else sr) = l := ⟨_, rfl⟩
  have HE : Hid (biT nd ra rb ta tb = bndT ra lst ta ++ ⟨#[32]⟩ ++ sg ++ ⟨#[32]⟩ ++ bndT rb (sr + 1) tb) := Lib.hid (by unfold biT; rw [HO.out, ← hlst])
  obtain ⟨bb, ob, hAB, hbb, hbc⟩ := H3.out.ia (by rw [H3.out.lb]; have := HKL.out; omega)
  have HBB := Lib.hid hbb
  have HBC : Hid (w3.cell? ⟨bb, ob + k, none⟩ = some (.int .i64 ((m : Int) + 1))) := Lib.hid (by rw [hbc k (by rw [H3.out.lb]; have := HKL.out; omega), hbg]; rfl)
  obtain ⟨y0, x1, y2, y3, y4, y5, y6, y7⟩ := HWB3.out.c
  rw [hA] at y0
  rw [hAB] at x1
  have y1 := x1
  clear x1
  have hkb : (k : Int) < (F.nb : Int) := by rw [H3.out.nb, H3.out.lb]; have := HKL.out; omega
  have hkk0 : (0 : Int) ≤ (k : Int) := by omega
  have hv1 : IntKind.i64.wrap ((k : Int) + 1 - 1) = (k : Int) := by rw [IntKind.wrap_i64]; omega
  have hv2 : IntKind.i64.wrap ((m : Int) + 1 - 1) = (m : Int) := by rw [IntKind.wrap_i64]; omega
  have hv3 : IntKind.i64.wrap ((sr : Int) + 1) = (sr : Int) + 1 := by rw [IntKind.wrap_i64]; omega
  have hv4 : IntKind.i64.wrap (k : Int) = (k : Int) := by rw [IntKind.wrap_i64]; omega
  have hv5 : IntKind.i64.wrap (m : Int) = (m : Int) := by rw [IntKind.wrap_i64]; omega
  obtain ⟨TA, HTA⟩ : ∃ x, Hid (bndT ra lst ta = x) := ⟨_, Lib.hid rfl⟩
  obtain ⟨TB, HTB⟩ : ∃ x, Hid (bndT rb (sr + 1) tb = x) := ⟨_, Lib.hid rfl⟩
  have hta : TA.size ≤ 1000000002 := by have := bndT_size ra lst ta; rw [HTA.out] at this; have := HSA.out; omega
  have htb : TB.size ≤ 1000000002 := by have := bndT_size rb (sr + 1) tb; rw [HTB.out] at this; have := HSB.out; omega
  rw [HTA.out, HTB.out] at HE
  obtain ⟨z1, h1⟩ : ∃ z, TA ++ (⟨#[32]⟩ : ByteArray) = z := ⟨_, rfl⟩
  obtain ⟨z2, h2⟩ : ∃ z, z1 ++ sg = z := ⟨_, rfl⟩
  obtain ⟨z3, h3⟩ : ∃ z, z2 ++ (⟨#[32]⟩ : ByteArray) = z := ⟨_, rfl⟩
  obtain ⟨z4, h4⟩ : ∃ z, z3 ++ TB = z := ⟨_, rfl⟩
  have HZ : Hid (TA ++ ⟨#[32]⟩ ++ sg ++ ⟨#[32]⟩ ++ TB = z4) := Lib.hid (by rw [h1, h2, h3, h4])
  have s1 : z1.size = TA.size + 1 := by rw [← h1, size_app]; rfl
  have s2 : z2.size = z1.size + sg.size := by rw [← h2, size_app]
  have s3 : z3.size = z2.size + 1 := by rw [← h3, size_app]; rfl
  have e1 := fun W => str_add (P := Tryz.prog) h1 (by show TA.size + 1 ≤ _; omega) W
  have e2 := fun W => str_add (P := Tryz.prog) h2 (by omega) W
  have e3 := fun W => str_add (P := Tryz.prog) h3 (by show z2.size + 1 ≤ _; omega) W
  have e4 := fun W => str_add (P := Tryz.prog) h4 (by omega) W
  have hs9 : sr ≤ 5 := q4
  clear h1 h2 h3 h4 s1 s2 s3 hbc hbb hbg q1 q3 q4 hta htb
  by_cases h3 : sr = 3
  · have hlst4 : lst = 4 := by rw [← hlst, if_pos h3]
    subst hlst4
    have h33 : (sr : Int) = 3 := by omega
    have HSR := Lib.hid h3
    clear hlst h3
    go_upto_region 5 with (fail)
    clear h33
    have HLC := bound_any F m 4 ta ra HPA.out (by have := HML.out; have := HKL.out; omega) HRA.out HSA.out w3.drew (H3.out.below (Below.refl _ w3).drew)
    have HRC : ∀ w, WrW F w → _ := fun w h => bound_any F k (sr + 1) tb rb HPB.out (by have := HKL.out; omega) HRB.out HSB.out w h
    unfold Wr.v at HLC HRC
    rw [hA, hAB] at HLC
    simp only [hA, hAB, Int.natCast_succ] at HRC
    rw [HTA.out] at HLC
    simp only [HTB.out] at HRC
    rw [show ((4 : Nat) : Int) = 4 from rfl] at HLC
    have HLC := Lib.hid HLC
    have HRC := Lib.hid HRC
    have rg : g < w3.heap.size := HWB3.out.lt
    have rp : pb < w3.heap.size := (Array.getElem?_eq_some_iff.1 HNEW.out).1
    have rb : bb < w3.heap.size := HBB.out
    have y8 := HBC.out
    have y9 : w3.cell? ⟨pb, 1, none⟩ = some (.int .i64 (sr : Nat)) := cell_of_heap HNEW.out rfl
    have y10 : w3.cell? ⟨pb, 2, none⟩ = some (.string sg) := cell_of_heap HNEW.out rfl
    have HV : Hid (∀ W, Below w3.heap.size w3 W → W.cell? ⟨g, 0, none⟩ = some (.slice (some ⟨ba, oa, none⟩) F.n F.c) ∧ W.cell? ⟨g, 1, none⟩ = some (.slice (some ⟨bb, ob, none⟩) F.nb F.cb) ∧ W.cell? ⟨g, 2, none⟩ = some (.slice F.X.a1 F.X.n1 F.X.c1) ∧ W.cell? ⟨g, 3, none⟩ = some (.slice F.X.a2 F.X.n2 F.X.c2) ∧ W.cell? ⟨g, 4, none⟩ = some (.slice F.X.a3 F.X.n3 F.X.c3) ∧ W.cell? ⟨g, 5, none⟩ = some (.slice F.X.a4 F.X.n4 F.X.c4) ∧ W.cell? ⟨g, 6, none⟩ = some (.slice F.X.a5 F.X.n5 F.X.c5) ∧ W.cell? ⟨g, 7, none⟩ = some (.int .i64 F.X.self) ∧ W.cell? ⟨bb, ob + k, none⟩ = some (.int .i64 ((m : Int) + 1)) ∧ W.cell? ⟨pb, 1, none⟩ = some (.int .i64 (sr : Nat)) ∧ W.cell? ⟨pb, 2, none⟩ = some (.string sg)) := Lib.hid (fun W hW => ⟨(hW.cell (p := ⟨g, 0, none⟩) rg).trans y0, (hW.cell (p := ⟨g, 1, none⟩) rg).trans y1, (hW.cell (p := ⟨g, 2, none⟩) rg).trans y2, (hW.cell (p := ⟨g, 3, none⟩) rg).trans y3, (hW.cell (p := ⟨g, 4, none⟩) rg).trans y4, (hW.cell (p := ⟨g, 5, none⟩) rg).trans y5, (hW.cell (p := ⟨g, 6, none⟩) rg).trans y6, (hW.cell (p := ⟨g, 7, none⟩) rg).trans y7, (hW.cell (p := ⟨bb, ob + k, none⟩) rb).trans y8, (hW.cell (p := ⟨pb, 1, none⟩) rp).trans y9, (hW.cell (p := ⟨pb, 2, none⟩) rp).trans y10⟩)
    clear y0 y1 y2 y3 y4 y5 y6 y7 y8 y9 y10 rg rp rb p1
    refine wp_region_held_drew (S := (fun w' => w'.cell? ⟨g, 0, none⟩ = some (.slice (some ⟨ba, oa, none⟩) F.n F.c) ∧ w'.cell? ⟨g, 1, none⟩ = some (.slice (some ⟨bb, ob, none⟩) F.nb F.cb) ∧ w'.cell? ⟨g, 2, none⟩ = some (.slice F.X.a1 F.X.n1 F.X.c1) ∧ w'.cell? ⟨g, 3, none⟩ = some (.slice F.X.a2 F.X.n2 F.X.c2) ∧ w'.cell? ⟨g, 4, none⟩ = some (.slice F.X.a3 F.X.n3 F.X.c3) ∧ w'.cell? ⟨g, 5, none⟩ = some (.slice F.X.a4 F.X.n4 F.X.c4) ∧ w'.cell? ⟨g, 6, none⟩ = some (.slice F.X.a5 F.X.n5 F.X.c5) ∧ w'.cell? ⟨g, 7, none⟩ = some (.int .i64 F.X.self) ∧ w'.cell? ⟨bb, ob + k, none⟩ = some (.int .i64 ((m : Int) + 1)) ∧ w'.cell? ⟨pb, 1, none⟩ = some (.int .i64 (sr : Nat)) ∧ w'.cell? ⟨pb, 2, none⟩ = some (.string sg))) (by kernel_rfl) (HV.out w3.drew (Below.refl _ w3).drew) (fun hS0 => ?_)
    have HS0 := Lib.hid hS0
    clear hS0
    simp only [Array.replicate, List.replicate]
    refine wpAnyH_take (i := 0) (oi := ⟨some 24, _, _, _, _, _⟩) (v := .agg #[.slice (some ⟨ba, oa, none⟩) F.n F.c, .slice (some ⟨bb, ob, none⟩) F.nb F.cb, .slice F.X.a1 F.X.n1 F.X.c1, .slice F.X.a2 F.X.n2 F.X.c2, .slice F.X.a3 F.X.n3 F.X.c3, .slice F.X.a4 F.X.n4 F.X.c4, .slice F.X.a5 F.X.n5 F.X.c5, .int .i64 F.X.self]) rfl (by kernel_rfl) (by kernel_rfl) (by kernel_rfl) (fun _ _ _ h => h) (Or.inl ⟨by kernel_rfl, fun w9 hS => ?_⟩) HS0.out ?_
    · obtain ⟨y0, y1, y2, y3, y4, y5, y6, y7, y8, y9, y10⟩ := hS
      go_simp
    try simp only [Act.put, List.setIfInBounds_toArray, List.set_cons_zero, List.set_cons_succ]
    refine wpAnyH_take (i := 1) (oi := ⟨some 25, _, _, _, _, _⟩) (v := .pointer (some ⟨g, 1, none⟩)) rfl (by kernel_rfl) (by kernel_rfl) (by kernel_rfl) (fun _ _ _ h => h) (Or.inl ⟨by kernel_rfl, fun w9 hS => ?_⟩) HS0.out ?_
    · clear hS
      go_simp
    try simp only [Act.put, List.setIfInBounds_toArray, List.set_cons_zero, List.set_cons_succ]
    refine wpAnyH_take (i := 2) (oi := ⟨some 26, _, _, _, _, _⟩) (v := .slice (some ⟨bb, ob, none⟩) F.nb F.cb) rfl (by kernel_rfl) (by kernel_rfl) (by kernel_rfl) (fun _ _ _ h => h) (Or.inl ⟨by kernel_rfl, fun w9 hS => ?_⟩) HS0.out ?_
    · obtain ⟨y0, y1, y2, y3, y4, y5, y6, y7, y8, y9, y10⟩ := hS
      go_simp
    try simp only [Act.put, List.setIfInBounds_toArray, List.set_cons_zero, List.set_cons_succ]
    refine wpAnyH_take (i := 3) (oi := ⟨some 27, _, _, _, _, _⟩) (v := .int .i64 ((k : Int) + 1)) rfl (by kernel_rfl) (by kernel_rfl) (by kernel_rfl) (fun _ _ _ h => h) (Or.inl ⟨by kernel_rfl, fun w9 hS => ?_⟩) HS0.out ?_
    · clear hS
      go_simp
    try simp only [Act.put, List.setIfInBounds_toArray, List.set_cons_zero, List.set_cons_succ]
    refine wpAnyH_take (i := 4) (oi := ⟨some 28, _, _, _, _, _⟩) (v := .int .i64 (k : Int)) rfl (by kernel_rfl) (by kernel_rfl) (by kernel_rfl) (fun _ _ _ h => h) (Or.inl ⟨by kernel_rfl, fun w9 hS => ?_⟩) HS0.out ?_
    · clear hS
      go_simp
    try simp only [Act.put, List.setIfInBounds_toArray, List.set_cons_zero, List.set_cons_succ]
    refine wpAnyH_take (i := 5) (oi := ⟨some 29, _, _, _, _, _⟩) (v := .pointer (some ⟨bb, ob + k, none⟩)) rfl (by kernel_rfl) (by kernel_rfl) (by kernel_rfl) (fun _ _ _ h => h) (Or.inl ⟨by kernel_rfl, fun w9 hS => ?_⟩) HS0.out ?_
    · clear hS
      go_simp
    try simp only [Act.put, List.setIfInBounds_toArray, List.set_cons_zero, List.set_cons_succ]
    refine wpAnyH_take (i := 6) (oi := ⟨some 30, _, _, _, _, _⟩) (v := .int .i64 ((m : Int) + 1)) rfl (by kernel_rfl) (by kernel_rfl) (by kernel_rfl) (fun _ _ _ h => h) (Or.inl ⟨by kernel_rfl, fun w9 hS => ?_⟩) HS0.out ?_
    · obtain ⟨y0, y1, y2, y3, y4, y5, y6, y7, y8, y9, y10⟩ := hS
      go_simp
    try simp only [Act.put, List.setIfInBounds_toArray, List.set_cons_zero, List.set_cons_succ]
    refine wpAnyH_take (i := 7) (oi := ⟨some 31, _, _, _, _, _⟩) (v := .int .i64 (m : Int)) rfl (by kernel_rfl) (by kernel_rfl) (by kernel_rfl) (fun _ _ _ h => h) (Or.inl ⟨by kernel_rfl, fun w9 hS => ?_⟩) HS0.out ?_
    · clear hS
      go_simp
    try simp only [Act.put, List.setIfInBounds_toArray, List.set_cons_zero, List.set_cons_succ]
    refine wpAnyH_take (i := 8) (oi := ⟨some 32, _, _, _, _, _⟩) (v := .int .i64 4) rfl (by kernel_rfl) (by kernel_rfl) (by kernel_rfl) (fun _ _ _ h => h) (Or.inl ⟨by kernel_rfl, fun w9 hS => ?_⟩) HS0.out ?_
    · clear hS
      go_simp
    try simp only [Act.put, List.setIfInBounds_toArray, List.set_cons_zero, List.set_cons_succ]
    refine wpAnyH_take (i := 11) (oi := ⟨some 35, _, _, _, _, _⟩) (v := .pointer (some ⟨pb, 2, none⟩)) rfl (by kernel_rfl) (by kernel_rfl) (by kernel_rfl) (fun _ _ _ h => h) (Or.inl ⟨by kernel_rfl, fun w9 hS => ?_⟩) HS0.out ?_
    · clear hS
      go_simp
    try simp only [Act.put, List.setIfInBounds_toArray, List.set_cons_zero, List.set_cons_succ]
    refine wpAnyH_take (i := 12) (oi := ⟨some 36, _, _, _, _, _⟩) (v := .string sg) rfl (by kernel_rfl) (by kernel_rfl) (by kernel_rfl) (fun _ _ _ h => h) (Or.inl ⟨by kernel_rfl, fun w9 hS => ?_⟩) HS0.out ?_
    · obtain ⟨y0, y1, y2, y3, y4, y5, y6, y7, y8, y9, y10⟩ := hS
      go_simp
    try simp only [Act.put, List.setIfInBounds_toArray, List.set_cons_zero, List.set_cons_succ]
    refine wpAnyH_take (i := 15) (oi := ⟨some 39, _, _, _, _, _⟩) (v := .agg #[.slice (some ⟨ba, oa, none⟩) F.n F.c, .slice (some ⟨bb, ob, none⟩) F.nb F.cb, .slice F.X.a1 F.X.n1 F.X.c1, .slice F.X.a2 F.X.n2 F.X.c2, .slice F.X.a3 F.X.n3 F.X.c3, .slice F.X.a4 F.X.n4 F.X.c4, .slice F.X.a5 F.X.n5 F.X.c5, .int .i64 F.X.self]) rfl (by kernel_rfl) (by kernel_rfl) (by kernel_rfl) (fun _ _ _ h => h) (Or.inl ⟨by kernel_rfl, fun w9 hS => ?_⟩) HS0.out ?_
    · obtain ⟨y0, y1, y2, y3, y4, y5, y6, y7, y8, y9, y10⟩ := hS
      go_simp
    try simp only [Act.put, List.setIfInBounds_toArray, List.set_cons_zero, List.set_cons_succ]
    refine wpAnyH_take (i := 16) (oi := ⟨some 40, _, _, _, _, _⟩) (v := .int .i64 ((k : Int) + 1)) rfl (by kernel_rfl) (by kernel_rfl) (by kernel_rfl) (fun _ _ _ h => h) (Or.inl ⟨by kernel_rfl, fun w9 hS => ?_⟩) HS0.out ?_
    · clear hS
      go_simp
    try simp only [Act.put, List.setIfInBounds_toArray, List.set_cons_zero, List.set_cons_succ]
    refine wpAnyH_take (i := 17) (oi := ⟨some 41, _, _, _, _, _⟩) (v := .int .i64 (k : Int)) rfl (by kernel_rfl) (by kernel_rfl) (by kernel_rfl) (fun _ _ _ h => h) (Or.inl ⟨by kernel_rfl, fun w9 hS => ?_⟩) HS0.out ?_
    · clear hS
      go_simp
    try simp only [Act.put, List.setIfInBounds_toArray, List.set_cons_zero, List.set_cons_succ]
    refine wpAnyH_take (i := 18) (oi := ⟨some 42, _, _, _, _, _⟩) (v := .pointer (some ⟨pb, 1, none⟩)) rfl (by kernel_rfl) (by kernel_rfl) (by kernel_rfl) (fun _ _ _ h => h) (Or.inl ⟨by kernel_rfl, fun w9 hS => ?_⟩) HS0.out ?_
    · clear hS
      go_simp
    try simp only [Act.put, List.setIfInBounds_toArray, List.set_cons_zero, List.set_cons_succ]
    refine wpAnyH_take (i := 19) (oi := ⟨some 43, _, _, _, _, _⟩) (v := .int .i64 (sr : Nat)) rfl (by kernel_rfl) (by kernel_rfl) (by kernel_rfl) (fun _ _ _ h => h) (Or.inl ⟨by kernel_rfl, fun w9 hS => ?_⟩) HS0.out ?_
    · obtain ⟨y0, y1, y2, y3, y4, y5, y6, y7, y8, y9, y10⟩ := hS
      go_simp
    try simp only [Act.put, List.setIfInBounds_toArray, List.set_cons_zero, List.set_cons_succ]
    refine wpAnyH_take (i := 20) (oi := ⟨some 44, _, _, _, _, _⟩) (v := .int .i64 ((sr : Int) + 1)) rfl (by kernel_rfl) (by kernel_rfl) (by kernel_rfl) (fun _ _ _ h => h) (Or.inl ⟨by kernel_rfl, fun w9 hS => ?_⟩) HS0.out ?_
    · clear hS
      go_simp
    try simp only [Act.put, List.setIfInBounds_toArray, List.set_cons_zero, List.set_cons_succ]
    refine wpAnyH_ready (rs := [9]) (by kernel_rfl) (by simp) ?_
    refine AllReadyH.cons (o := ⟨some 33, _, _, _, _, _⟩) rfl (fun K hK => ?_) AllReadyH.nil
    rw [if_pos (by kernel_rfl)]
    go_simp
    go_at_call 47
    refine (HLC.out).mono ?_
    rintro e v6 ⟨rfl, hb6⟩
    have HKEEP6 : Hid (Below w3.heap.size w3 v6) := Lib.hid (bthen (Below.refl _ w3).drew hb6)
    have HS1 : Hid _ := Lib.hid (HV.out v6 HKEEP6.out)
    refine hK.out _ _ HS1.out (fun _ => ?_)
    clear hK K hb6
    try simp only [Act.put, List.setIfInBounds_toArray, List.set_cons_zero, List.set_cons_succ]
    refine wpAnyH_take (i := 10) (oi := ⟨some 34, _, _, _, _, _⟩) (v := .string z1) rfl (by kernel_rfl) (by kernel_rfl) (by kernel_rfl) (fun _ _ _ h => h) (Or.inl ⟨by kernel_rfl, fun w9 hS => ?_⟩) HS1.out ?_
    · clear hS
      go_simp
    try simp only [Act.put, List.setIfInBounds_toArray, List.set_cons_zero, List.set_cons_succ]
    refine wpAnyH_take (i := 13) (oi := ⟨some 37, _, _, _, _, _⟩) (v := .string z2) rfl (by kernel_rfl) (by kernel_rfl) (by kernel_rfl) (fun _ _ _ h => h) (Or.inl ⟨by kernel_rfl, fun w9 hS => ?_⟩) HS1.out ?_
    · clear hS
      go_simp
    try simp only [Act.put, List.setIfInBounds_toArray, List.set_cons_zero, List.set_cons_succ]
    refine wpAnyH_take (i := 14) (oi := ⟨some 38, _, _, _, _, _⟩) (v := .string z3) rfl (by kernel_rfl) (by kernel_rfl) (by kernel_rfl) (fun _ _ _ h => h) (Or.inl ⟨by kernel_rfl, fun w9 hS => ?_⟩) HS1.out ?_
    · clear hS
      go_simp
    try simp only [Act.put, List.setIfInBounds_toArray, List.set_cons_zero, List.set_cons_succ]
    refine wpAnyH_ready (rs := [21]) (by kernel_rfl) (by simp) ?_
    refine AllReadyH.cons (o := ⟨some 45, _, _, _, _, _⟩) rfl (fun K hK => ?_) AllReadyH.nil
    rw [if_pos (by kernel_rfl)]
    go_simp
    go_at_call 47
    refine (HRC.out _ (H3.out.below HKEEP6.out)).mono ?_
    rintro e v7 ⟨rfl, hb7⟩
    have HKEEP7 : Hid (Below w3.heap.size w3 v7) := Lib.hid (bthen HKEEP6.out hb7)
    have HS2 : Hid _ := Lib.hid (HV.out v7 HKEEP7.out)
    refine hK.out _ _ HS2.out (fun _ => ?_)
    clear hK K hb7
    try simp only [Act.put, List.setIfInBounds_toArray, List.set_cons_zero, List.set_cons_succ]
    refine wpAnyH_take (i := 22) (oi := ⟨some 46, _, _, _, _, _⟩) (v := .string z4) rfl (by kernel_rfl) (by kernel_rfl) (by kernel_rfl) (fun _ _ _ h => h) (Or.inl ⟨by kernel_rfl, fun w9 hS => ?_⟩) HS2.out ?_
    · clear hS
      go_simp
    try simp only [Act.put, List.setIfInBounds_toArray, List.set_cons_zero, List.set_cons_succ]
    refine wpAnyH_take (i := 23) (oi := ⟨some 4, _, _, _, _, _⟩) (v := .string z4) rfl (by kernel_rfl) (by kernel_rfl) (by kernel_rfl) (fun _ _ _ h => h) (Or.inl ⟨by kernel_rfl, fun w9 hS => ?_⟩) HS2.out ?_
    · clear hS
      go_simp
    try simp only [Act.put, List.setIfInBounds_toArray, List.set_cons_zero, List.set_cons_succ]
    refine wpAnyH_done (by kernel_rfl) ?_ _
    have HB7 : Hid (Below g w v7) := Lib.hid (HB3.out.trans (HKEEP7.out.mono (by have := HB3.out.size; omega)))
    go_wp2
    go_ret
    rw [hgn]
    exact ⟨by rw [HE.out, ← HZ.out]; rfl, HB7.out⟩
  · have hlsts : lst = sr := by rw [← hlst, if_neg h3]
    subst hlsts
    have h33 : ¬ (lst : Int) = 3 := by omega
    clear hlst h3
    go_upto_region 5 with (fail)
    clear h33
    have HLC := bound_any F m lst ta ra HPA.out (by have := HML.out; have := HKL.out; omega) HRA.out HSA.out w3.drew (H3.out.below (Below.refl _ w3).drew)
    have HRC : ∀ w, WrW F w → _ := fun w h => bound_any F k (lst + 1) tb rb HPB.out (by have := HKL.out; omega) HRB.out HSB.out w h
    unfold Wr.v at HLC HRC
    rw [hA, hAB] at HLC
    simp only [hA, hAB, Int.natCast_succ] at HRC
    rw [HTA.out] at HLC
    simp only [HTB.out] at HRC
    have HLC := Lib.hid HLC
    have HRC := Lib.hid HRC
    have rg : g < w3.heap.size := HWB3.out.lt
    have rp : pb < w3.heap.size := (Array.getElem?_eq_some_iff.1 HNEW.out).1
    have rb : bb < w3.heap.size := HBB.out
    have y8 := HBC.out
    have y9 : w3.cell? ⟨pb, 1, none⟩ = some (.int .i64 (lst : Nat)) := cell_of_heap HNEW.out rfl
    have y10 : w3.cell? ⟨pb, 2, none⟩ = some (.string sg) := cell_of_heap HNEW.out rfl
    have HV : Hid (∀ W, Below w3.heap.size w3 W → W.cell? ⟨g, 0, none⟩ = some (.slice (some ⟨ba, oa, none⟩) F.n F.c) ∧ W.cell? ⟨g, 1, none⟩ = some (.slice (some ⟨bb, ob, none⟩) F.nb F.cb) ∧ W.cell? ⟨g, 2, none⟩ = some (.slice F.X.a1 F.X.n1 F.X.c1) ∧ W.cell? ⟨g, 3, none⟩ = some (.slice F.X.a2 F.X.n2 F.X.c2) ∧ W.cell? ⟨g, 4, none⟩ = some (.slice F.X.a3 F.X.n3 F.X.c3) ∧ W.cell? ⟨g, 5, none⟩ = some (.slice F.X.a4 F.X.n4 F.X.c4) ∧ W.cell? ⟨g, 6, none⟩ = some (.slice F.X.a5 F.X.n5 F.X.c5) ∧ W.cell? ⟨g, 7, none⟩ = some (.int .i64 F.X.self) ∧ W.cell? ⟨bb, ob + k, none⟩ = some (.int .i64 ((m : Int) + 1)) ∧ W.cell? ⟨pb, 1, none⟩ = some (.int .i64 (lst : Nat)) ∧ W.cell? ⟨pb, 2, none⟩ = some (.string sg)) := Lib.hid (fun W hW => ⟨(hW.cell (p := ⟨g, 0, none⟩) rg).trans y0, (hW.cell (p := ⟨g, 1, none⟩) rg).trans y1, (hW.cell (p := ⟨g, 2, none⟩) rg).trans y2, (hW.cell (p := ⟨g, 3, none⟩) rg).trans y3, (hW.cell (p := ⟨g, 4, none⟩) rg).trans y4, (hW.cell (p := ⟨g, 5, none⟩) rg).trans y5, (hW.cell (p := ⟨g, 6, none⟩) rg).trans y6, (hW.cell (p := ⟨g, 7, none⟩) rg).trans y7, (hW.cell (p := ⟨bb, ob + k, none⟩) rb).trans y8, (hW.cell (p := ⟨pb, 1, none⟩) rp).trans y9, (hW.cell (p := ⟨pb, 2, none⟩) rp).trans y10⟩)
    clear y0 y1 y2 y3 y4 y5 y6 y7 y8 y9 y10 rg rp rb p1
    refine wp_region_held_drew (S := (fun w' => w'.cell? ⟨g, 0, none⟩ = some (.slice (some ⟨ba, oa, none⟩) F.n F.c) ∧ w'.cell? ⟨g, 1, none⟩ = some (.slice (some ⟨bb, ob, none⟩) F.nb F.cb) ∧ w'.cell? ⟨g, 2, none⟩ = some (.slice F.X.a1 F.X.n1 F.X.c1) ∧ w'.cell? ⟨g, 3, none⟩ = some (.slice F.X.a2 F.X.n2 F.X.c2) ∧ w'.cell? ⟨g, 4, none⟩ = some (.slice F.X.a3 F.X.n3 F.X.c3) ∧ w'.cell? ⟨g, 5, none⟩ = some (.slice F.X.a4 F.X.n4 F.X.c4) ∧ w'.cell? ⟨g, 6, none⟩ = some (.slice F.X.a5 F.X.n5 F.X.c5) ∧ w'.cell? ⟨g, 7, none⟩ = some (.int .i64 F.X.self) ∧ w'.cell? ⟨bb, ob + k, none⟩ = some (.int .i64 ((m : Int) + 1)) ∧ w'.cell? ⟨pb, 1, none⟩ = some (.int .i64 (lst : Nat)) ∧ w'.cell? ⟨pb, 2, none⟩ = some (.string sg))) (by kernel_rfl) (HV.out w3.drew (Below.refl _ w3).drew) (fun hS0 => ?_)
    have HS0 := Lib.hid hS0
    clear hS0
    simp only [Array.replicate, List.replicate]
    refine wpAnyH_take (i := 0) (oi := ⟨some 24, _, _, _, _, _⟩) (v := .agg #[.slice (some ⟨ba, oa, none⟩) F.n F.c, .slice (some ⟨bb, ob, none⟩) F.nb F.cb, .slice F.X.a1 F.X.n1 F.X.c1, .slice F.X.a2 F.X.n2 F.X.c2, .slice F.X.a3 F.X.n3 F.X.c3, .slice F.X.a4 F.X.n4 F.X.c4, .slice F.X.a5 F.X.n5 F.X.c5, .int .i64 F.X.self]) rfl (by kernel_rfl) (by kernel_rfl) (by kernel_rfl) (fun _ _ _ h => h) (Or.inl ⟨by kernel_rfl, fun w9 hS => ?_⟩) HS0.out ?_
    · obtain ⟨y0, y1, y2, y3, y4, y5, y6, y7, y8, y9, y10⟩ := hS
      go_simp
    try simp only [Act.put, List.setIfInBounds_toArray, List.set_cons_zero, List.set_cons_succ]
    refine wpAnyH_take (i := 1) (oi := ⟨some 25, _, _, _, _, _⟩) (v := .pointer (some ⟨g, 1, none⟩)) rfl (by kernel_rfl) (by kernel_rfl) (by kernel_rfl) (fun _ _ _ h => h) (Or.inl ⟨by kernel_rfl, fun w9 hS => ?_⟩) HS0.out ?_
    · clear hS
      go_simp
    try simp only [Act.put, List.setIfInBounds_toArray, List.set_cons_zero, List.set_cons_succ]
    refine wpAnyH_take (i := 2) (oi := ⟨some 26, _, _, _, _, _⟩) (v := .slice (some ⟨bb, ob, none⟩) F.nb F.cb) rfl (by kernel_rfl) (by kernel_rfl) (by kernel_rfl) (fun _ _ _ h => h) (Or.inl ⟨by kernel_rfl, fun w9 hS => ?_⟩) HS0.out ?_
    · obtain ⟨y0, y1, y2, y3, y4, y5, y6, y7, y8, y9, y10⟩ := hS
      go_simp
    try simp only [Act.put, List.setIfInBounds_toArray, List.set_cons_zero, List.set_cons_succ]
    refine wpAnyH_take (i := 3) (oi := ⟨some 27, _, _, _, _, _⟩) (v := .int .i64 ((k : Int) + 1)) rfl (by kernel_rfl) (by kernel_rfl) (by kernel_rfl) (fun _ _ _ h => h) (Or.inl ⟨by kernel_rfl, fun w9 hS => ?_⟩) HS0.out ?_
    · clear hS
      go_simp
    try simp only [Act.put, List.setIfInBounds_toArray, List.set_cons_zero, List.set_cons_succ]
    refine wpAnyH_take (i := 4) (oi := ⟨some 28, _, _, _, _, _⟩) (v := .int .i64 (k : Int)) rfl (by kernel_rfl) (by kernel_rfl) (by kernel_rfl) (fun _ _ _ h => h) (Or.inl ⟨by kernel_rfl, fun w9 hS => ?_⟩) HS0.out ?_
    · clear hS
      go_simp
    try simp only [Act.put, List.setIfInBounds_toArray, List.set_cons_zero, List.set_cons_succ]
    refine wpAnyH_take (i := 5) (oi := ⟨some 29, _, _, _, _, _⟩) (v := .pointer (some ⟨bb, ob + k, none⟩)) rfl (by kernel_rfl) (by kernel_rfl) (by kernel_rfl) (fun _ _ _ h => h) (Or.inl ⟨by kernel_rfl, fun w9 hS => ?_⟩) HS0.out ?_
    · clear hS
      go_simp
    try simp only [Act.put, List.setIfInBounds_toArray, List.set_cons_zero, List.set_cons_succ]
    refine wpAnyH_take (i := 6) (oi := ⟨some 30, _, _, _, _, _⟩) (v := .int .i64 ((m : Int) + 1)) rfl (by kernel_rfl) (by kernel_rfl) (by kernel_rfl) (fun _ _ _ h => h) (Or.inl ⟨by kernel_rfl, fun w9 hS => ?_⟩) HS0.out ?_
    · obtain ⟨y0, y1, y2, y3, y4, y5, y6, y7, y8, y9, y10⟩ := hS
      go_simp
    try simp only [Act.put, List.setIfInBounds_toArray, List.set_cons_zero, List.set_cons_succ]
    refine wpAnyH_take (i := 7) (oi := ⟨some 31, _, _, _, _, _⟩) (v := .int .i64 (m : Int)) rfl (by kernel_rfl) (by kernel_rfl) (by kernel_rfl) (fun _ _ _ h => h) (Or.inl ⟨by kernel_rfl, fun w9 hS => ?_⟩) HS0.out ?_
    · clear hS
      go_simp
    try simp only [Act.put, List.setIfInBounds_toArray, List.set_cons_zero, List.set_cons_succ]
    refine wpAnyH_take (i := 8) (oi := ⟨some 32, _, _, _, _, _⟩) (v := .int .i64 (lst : Nat)) rfl (by kernel_rfl) (by kernel_rfl) (by kernel_rfl) (fun _ _ _ h => h) (Or.inl ⟨by kernel_rfl, fun w9 hS => ?_⟩) HS0.out ?_
    · clear hS
      go_simp
    try simp only [Act.put, List.setIfInBounds_toArray, List.set_cons_zero, List.set_cons_succ]
    refine wpAnyH_take (i := 11) (oi := ⟨some 35, _, _, _, _, _⟩) (v := .pointer (some ⟨pb, 2, none⟩)) rfl (by kernel_rfl) (by kernel_rfl) (by kernel_rfl) (fun _ _ _ h => h) (Or.inl ⟨by kernel_rfl, fun w9 hS => ?_⟩) HS0.out ?_
    · clear hS
      go_simp
    try simp only [Act.put, List.setIfInBounds_toArray, List.set_cons_zero, List.set_cons_succ]
    refine wpAnyH_take (i := 12) (oi := ⟨some 36, _, _, _, _, _⟩) (v := .string sg) rfl (by kernel_rfl) (by kernel_rfl) (by kernel_rfl) (fun _ _ _ h => h) (Or.inl ⟨by kernel_rfl, fun w9 hS => ?_⟩) HS0.out ?_
    · obtain ⟨y0, y1, y2, y3, y4, y5, y6, y7, y8, y9, y10⟩ := hS
      go_simp
    try simp only [Act.put, List.setIfInBounds_toArray, List.set_cons_zero, List.set_cons_succ]
    refine wpAnyH_take (i := 15) (oi := ⟨some 39, _, _, _, _, _⟩) (v := .agg #[.slice (some ⟨ba, oa, none⟩) F.n F.c, .slice (some ⟨bb, ob, none⟩) F.nb F.cb, .slice F.X.a1 F.X.n1 F.X.c1, .slice F.X.a2 F.X.n2 F.X.c2, .slice F.X.a3 F.X.n3 F.X.c3, .slice F.X.a4 F.X.n4 F.X.c4, .slice F.X.a5 F.X.n5 F.X.c5, .int .i64 F.X.self]) rfl (by kernel_rfl) (by kernel_rfl) (by kernel_rfl) (fun _ _ _ h => h) (Or.inl ⟨by kernel_rfl, fun w9 hS => ?_⟩) HS0.out ?_
    · obtain ⟨y0, y1, y2, y3, y4, y5, y6, y7, y8, y9, y10⟩ := hS
      go_simp
    try simp only [Act.put, List.setIfInBounds_toArray, List.set_cons_zero, List.set_cons_succ]
    refine wpAnyH_take (i := 16) (oi := ⟨some 40, _, _, _, _, _⟩) (v := .int .i64 ((k : Int) + 1)) rfl (by kernel_rfl) (by kernel_rfl) (by kernel_rfl) (fun _ _ _ h => h) (Or.inl ⟨by kernel_rfl, fun w9 hS => ?_⟩) HS0.out ?_
    · clear hS
      go_simp
    try simp only [Act.put, List.setIfInBounds_toArray, List.set_cons_zero, List.set_cons_succ]
    refine wpAnyH_take (i := 17) (oi := ⟨some 41, _, _, _, _, _⟩) (v := .int .i64 (k : Int)) rfl (by kernel_rfl) (by kernel_rfl) (by kernel_rfl) (fun _ _ _ h => h) (Or.inl ⟨by kernel_rfl, fun w9 hS => ?_⟩) HS0.out ?_
    · clear hS
      go_simp
    try simp only [Act.put, List.setIfInBounds_toArray, List.set_cons_zero, List.set_cons_succ]
    refine wpAnyH_take (i := 18) (oi := ⟨some 42, _, _, _, _, _⟩) (v := .pointer (some ⟨pb, 1, none⟩)) rfl (by kernel_rfl) (by kernel_rfl) (by kernel_rfl) (fun _ _ _ h => h) (Or.inl ⟨by kernel_rfl, fun w9 hS => ?_⟩) HS0.out ?_
    · clear hS
      go_simp
    try simp only [Act.put, List.setIfInBounds_toArray, List.set_cons_zero, List.set_cons_succ]
    refine wpAnyH_take (i := 19) (oi := ⟨some 43, _, _, _, _, _⟩) (v := .int .i64 (lst : Nat)) rfl (by kernel_rfl) (by kernel_rfl) (by kernel_rfl) (fun _ _ _ h => h) (Or.inl ⟨by kernel_rfl, fun w9 hS => ?_⟩) HS0.out ?_
    · obtain ⟨y0, y1, y2, y3, y4, y5, y6, y7, y8, y9, y10⟩ := hS
      go_simp
    try simp only [Act.put, List.setIfInBounds_toArray, List.set_cons_zero, List.set_cons_succ]
    refine wpAnyH_take (i := 20) (oi := ⟨some 44, _, _, _, _, _⟩) (v := .int .i64 ((lst : Int) + 1)) rfl (by kernel_rfl) (by kernel_rfl) (by kernel_rfl) (fun _ _ _ h => h) (Or.inl ⟨by kernel_rfl, fun w9 hS => ?_⟩) HS0.out ?_
    · clear hS
      go_simp
    try simp only [Act.put, List.setIfInBounds_toArray, List.set_cons_zero, List.set_cons_succ]
    refine wpAnyH_ready (rs := [9]) (by kernel_rfl) (by simp) ?_
    refine AllReadyH.cons (o := ⟨some 33, _, _, _, _, _⟩) rfl (fun K hK => ?_) AllReadyH.nil
    rw [if_pos (by kernel_rfl)]
    go_simp
    go_at_call 47
    refine (HLC.out).mono ?_
    rintro e v6 ⟨rfl, hb6⟩
    have HKEEP6 : Hid (Below w3.heap.size w3 v6) := Lib.hid (bthen (Below.refl _ w3).drew hb6)
    have HS1 : Hid _ := Lib.hid (HV.out v6 HKEEP6.out)
    refine hK.out _ _ HS1.out (fun _ => ?_)
    clear hK K hb6
    try simp only [Act.put, List.setIfInBounds_toArray, List.set_cons_zero, List.set_cons_succ]
    refine wpAnyH_take (i := 10) (oi := ⟨some 34, _, _, _, _, _⟩) (v := .string z1) rfl (by kernel_rfl) (by kernel_rfl) (by kernel_rfl) (fun _ _ _ h => h) (Or.inl ⟨by kernel_rfl, fun w9 hS => ?_⟩) HS1.out ?_
    · clear hS
      go_simp
    try simp only [Act.put, List.setIfInBounds_toArray, List.set_cons_zero, List.set_cons_succ]
    refine wpAnyH_take (i := 13) (oi := ⟨some 37, _, _, _, _, _⟩) (v := .string z2) rfl (by kernel_rfl) (by kernel_rfl) (by kernel_rfl) (fun _ _ _ h => h) (Or.inl ⟨by kernel_rfl, fun w9 hS => ?_⟩) HS1.out ?_
    · clear hS
      go_simp
    try simp only [Act.put, List.setIfInBounds_toArray, List.set_cons_zero, List.set_cons_succ]
    refine wpAnyH_take (i := 14) (oi := ⟨some 38, _, _, _, _, _⟩) (v := .string z3) rfl (by kernel_rfl) (by kernel_rfl) (by kernel_rfl) (fun _ _ _ h => h) (Or.inl ⟨by kernel_rfl, fun w9 hS => ?_⟩) HS1.out ?_
    · clear hS
      go_simp
    try simp only [Act.put, List.setIfInBounds_toArray, List.set_cons_zero, List.set_cons_succ]
    refine wpAnyH_ready (rs := [21]) (by kernel_rfl) (by simp) ?_
    refine AllReadyH.cons (o := ⟨some 45, _, _, _, _, _⟩) rfl (fun K hK => ?_) AllReadyH.nil
    rw [if_pos (by kernel_rfl)]
    go_simp
    go_at_call 47
    refine (HRC.out _ (H3.out.below HKEEP6.out)).mono ?_
    rintro e v7 ⟨rfl, hb7⟩
    have HKEEP7 : Hid (Below w3.heap.size w3 v7) := Lib.hid (bthen HKEEP6.out hb7)
    have HS2 : Hid _ := Lib.hid (HV.out v7 HKEEP7.out)
    refine hK.out _ _ HS2.out (fun _ => ?_)
    clear hK K hb7
    try simp only [Act.put, List.setIfInBounds_toArray, List.set_cons_zero, List.set_cons_succ]
    refine wpAnyH_take (i := 22) (oi := ⟨some 46, _, _, _, _, _⟩) (v := .string z4) rfl (by kernel_rfl) (by kernel_rfl) (by kernel_rfl) (fun _ _ _ h => h) (Or.inl ⟨by kernel_rfl, fun w9 hS => ?_⟩) HS2.out ?_
    · clear hS
      go_simp
    try simp only [Act.put, List.setIfInBounds_toArray, List.set_cons_zero, List.set_cons_succ]
    refine wpAnyH_take (i := 23) (oi := ⟨some 4, _, _, _, _, _⟩) (v := .string z4) rfl (by kernel_rfl) (by kernel_rfl) (by kernel_rfl) (fun _ _ _ h => h) (Or.inl ⟨by kernel_rfl, fun w9 hS => ?_⟩) HS2.out ?_
    · clear hS
      go_simp
    try simp only [Act.put, List.setIfInBounds_toArray, List.set_cons_zero, List.set_cons_succ]
    refine wpAnyH_done (by kernel_rfl) ?_ _
    have HB7 : Hid (Below g w v7) := Lib.hid (HB3.out.trans (HKEEP7.out.mono (by have := HB3.out.size; omega)))
    go_wp2
    go_ret
    rw [hgn]
    exact ⟨by rw [HE.out, ← HZ.out]; rfl, HB7.out⟩
end Go.Proofs.YtmnigdphikoljaaGreatDoor.et
