/- Contracts that the claim stands on, several texts in one: EtRName. -/
import Derived.Test.YtmnigdphikoljaaGreatDoorPut1
import Derived.Test.YtmnigdphikoljaaGreatDoorPut2
import Derived.Test.YtmnigdphikoljaaGreatDoorPut3
import Derived.Test.YtmnigdphikoljaaGreatDoorPut4
import Derived.Test.YtmnigdphikoljaaGreatDoorPut5
import Derived.Test.YtmnigdphikoljaaGreatDoorPut6
import Derived.Test.YtmnigdphikoljaaGreatDoorPut7
import Derived.Test.YtmnigdphikoljaaGreatDoorPut8
import Derived.Test.YtmnigdphikoljaaGreatDoorPut9
import Derived.Test.YtmnigdphikoljaaGreatDoorPut10
import Derived.Test.YtmnigdphikoljaaGreatDoorPut11
import Derived.Test.YtmnigdphikoljaaGreatDoorPut12
import Derived.Test.YtmnigdphikoljaaGreatDoorPut13
import Derived.Test.YtmnigdphikoljaaGreatDoorPut14
import Derived.Test.YtmnigdphikoljaaGreatDoorPut15
import Derived.Test.YtmnigdphikoljaaGreatDoorPut16
import Derived.Test.YtmnigdphikoljaaGreatDoorPut17
import Derived.Test.YtmnigdphikoljaaGreatDoorPut18
import Derived.Test.YtmnigdphikoljaaGreatDoorPut19
import Derived.Test.YtmnigdphikoljaaGreatDoorPut20
import Derived.Test.YtmnigdphikoljaaGreatDoorPut21
import Derived.Test.YtmnigdphikoljaaGreatDoorPut22
import Derived.Test.YtmnigdphikoljaaGreatDoorPut23
import Derived.Test.YtmnigdphikoljaaGreatDoorPut24
import Derived.Test.YtmnigdphikoljaaGreatDoorPut25
import Derived.Test.YtmnigdphikoljaaGreatDoorPut26
import Derived.Test.YtmnigdphikoljaaGreatDoorPut27
import Derived.Test.YtmnigdphikoljaaGreatDoorPut28
namespace Go.Proofs.YtmnigdphikoljaaGreatDoor.et
open Go.ChangeShapes Go.WideShapes Go.ChangeAt Go.RowKit Go.Deep

/-- The name that a node tells in the document, and whether it stands for what the node means. -/
def rnB (N : Nm) (nd : Int × Int) : ByteArray × Bool := match nmOf N nd.1 with
  | none => (⟨#[97]⟩, true)
  | some l => (l.getD (placeF nd).toNat default, (if nd.1 = 2 ∨ nd.1 = 3 then lookV N (l.getD (placeF nd).toNat default) else lookI (findF (l.getD (placeF nd).toNat default) 0 l)) == placeF nd)
theorem find_none {s : ByteArray} : ∀ {l : List ByteArray} {k : Nat}, findF s k l = none → ∀ x ∈ l, (x.toList == s.toList) = false
  | [], _, _ => fun x hx => absurd hx (by simp)
  | y :: l, k, h => fun x hx => by
    unfold findF at h
    split at h
    · cases h
    · rename_i h2
      rcases List.mem_cons.1 hx with rfl | hx
      · simpa using h2
      · exact find_none h x hx
theorem tells_rn {N : Nm} {nd : Int × Int} (ht : There N nd) : tellsB N nd = ((rnB N nd).2 && lx.nameB (rnB N nd).1) := by
  unfold tellsB rnB
  cases hl : nmOf N nd.1 with
  | none => exact (by decide +kernel : true = (true && lx.nameB ⟨#[97]⟩))
  | some l =>
    obtain ⟨h0, h9, hlt, hlen⟩ := ht l hl
    have hp := placeF_nat h0
    dsimp only
    generalize placeF nd = p at *
    obtain ⟨k, hk⟩ : ∃ k, p.toNat = k := ⟨_, rfl⟩
    rw [hk] at hp hlt ⊢
    subst hp
    have hin : l.getD k default ∈ l := by
      have e : l.getD k default = l[k] := by simp [List.getD, hlt]
      rw [e]
      exact List.getElem_mem hlt
    have hfind : ∃ j, findF (l.getD k default) 0 l = some j := by
      cases hf : findF (l.getD k default) 0 l with
      | some j => exact ⟨j, rfl⟩
      | none => have := find_none hf _ hin; simp at this
    obtain ⟨j, hj⟩ := hfind
    generalize hs : l.getD k default = s at *
    by_cases hv : nd.1 = 2 ∨ nd.1 = 3
    · have hlv : l = N.vars := by
        unfold nmOf at hl
        rw [if_pos hv] at hl
        exact (Option.some.inj hl).symm
      rw [if_pos hv]
      unfold lookV
      rw [← hlv, hj]
      by_cases hc : (findF s 0 N.locals).isSome = true
      · rw [if_pos ⟨hv, hc⟩, if_pos hc]
        have : ((-1 : Int) == (k : Int)) = false := beq_eq_false_iff_ne.2 (by omega)
        rw [this]
        rfl
      · rw [if_neg (fun h => hc h.2), if_neg hc]
        exact Bool.and_comm _ _
    · rw [if_neg (fun h => hv h.1), if_neg hv, hj]
      exact Bool.and_comm _ _
def RnP (w : World) (r : ByteArray × Bool) (e : Ending) (w' : World) : Prop := e = .returned (.tuple #[.string r.1, .bool r.2]) ∧ Below w.heap.size w w'
set_option maxRecDepth 20000 in
set_option maxHeartbeats 4000000 in
theorem rn2 (X : ScX) (N : Nm) (n : Int) (w : World) (h : NmR w X N) (ht : There N (2, n)) (hlens : ∀ op l, nmOf N op = some l → l.length ≤ 1000000) : Calls Tryz.prog 22 #[.agg #[.int .i64 2, .int .i64 n], X.v] w (RnP w (rnB N (2, n))) := by
  obtain ⟨h0, h9, hlt, hlen⟩ := ht N.vars rfl
  dsimp only at h0 h9
  obtain ⟨k, rfl⟩ : ∃ k : Nat, n = k := ⟨n.toNat, by omega⟩
  have hpl : placeF (2, (k : Int)) = (k : Int) := rfl
  rw [hpl] at hlt
  have hlt : k < N.vars.length := hlt
  obtain ⟨x, hx⟩ : ∃ x, N.vars.getD k default = x := ⟨_, rfl⟩
  obtain ⟨q, HQ⟩ : ∃ q, Hid (lookV N x = q) := ⟨_, Lib.hid rfl⟩
  have HR : Hid (rnB N (2, (k : Int)) = (x, q == (k : Int))) := Lib.hid (by
    rw [← HQ.out, ← hx]
    unfold rnB
    rw [hpl]
    rfl)
  have HLA : Hid (N.vars.length ≤ 1000000) := Lib.hid hlen
  have HLL : Hid (N.locals.length ≤ 1000000) := Lib.hid (hlens 4 _ rfl)
  have hb1 := below_alloc1 w (.cells #[.int .i64 2, .int .i64 (k : Nat)] 39)
  have hb2 := below_alloc1 (w.alloc (.cells #[.int .i64 2, .int .i64 (k : Nat)] 39)) (.cells #[.slice X.a1 X.n1 X.c1, .slice X.a2 X.n2 X.c2, .slice X.a3 X.n3 X.c3, .slice X.a4 X.n4 X.c4, .slice X.a5 X.n5 X.c5, .int .i64 X.self] 28)
  have HB2 := Lib.hid (bthen hb1 hb2)
  have HM2 := Lib.hid ((h.below hb1).below hb2)
  have hsz : (w.alloc (.cells #[.int .i64 2, .int .i64 (k : Nat)] 39)).heap.size = w.heap.size + 1 := by simp
  have hnew := World.alloc_heap_new w (.cells #[.int .i64 2, .int .i64 (k : Nat)] 39)
  have HBX := Bx.new (w.alloc (.cells #[.int .i64 2, .int .i64 (k : Nat)] 39)) X 28
  have HNB : Hid (((w.alloc (.cells #[.int .i64 2, .int .i64 (k : Nat)] 39)).alloc (.cells #[.slice X.a1 X.n1 X.c1, .slice X.a2 X.n2 X.c2, .slice X.a3 X.n3 X.c3, .slice X.a4 X.n4 X.c4, .slice X.a5 X.n5 X.c5, .int .i64 X.self] 28)).heap[w.heap.size]? = some (.cells #[.int .i64 2, .int .i64 (k : Nat)] 39 (0, 0))) := Lib.hid ((hb2.block _ (by omega)).trans hnew)
  rw [hsz] at HBX
  have HBX := Lib.hid HBX
  have HLT := Lib.hid hlt
  have HXX := Lib.hid hx
  clear hb1 hb2 hnew h ht hlens hx hlen hlt hpl
  unfold ScX.v
  go_enter Tryz.func22, Tryz.ntmps22
  go_upto_region 4 with (fail)
  generalize hgn : w.heap.size = g at *
  generalize hw9 : (w.alloc (.cells #[.int .i64 2, .int .i64 (k : Nat)] 39)).alloc (.cells #[.slice X.a1 X.n1 X.c1, .slice X.a2 X.n2 X.c2, .slice X.a3 X.n3 X.c3, .slice X.a4 X.n4 X.c4, .slice X.a5 X.n5 X.c5, .int .i64 X.self] 28) = w9 at *
  clear hw9
  try rw [hsz]
  clear hsz
  obtain ⟨⟨s0, s1, s2, s3, s4, s5⟩, hz2⟩ := HBX.out
  have y0 : w9.cell? ⟨g, 0, none⟩ = some (.int .i64 2) := cell_of_heap HNB.out rfl
  have y1 : w9.cell? ⟨g, 1, none⟩ = some (.int .i64 (k : Nat)) := cell_of_heap HNB.out rfl
  obtain ⟨b, off, ha, hbz, hc⟩ := HM2.out.r2 (by have := HLT.out; omega)
  have d0 := hc k HLT.out
  rw [HXX.out] at d0
  have hns : X.n2 = N.vars.length := HM2.out.l2
  have hi9 : (k : Int) < (X.n2 : Int) := by rw [hns]; have := HLT.out; omega
  have hi0 : (0 : Int) ≤ (k : Int) := by omega
  have hz1 : g < w9.drew.heap.size := by show g < w9.heap.size; omega
  have hz3 : g + 1 < w9.drew.heap.size := hz2
  have hz4 : b < w9.drew.heap.size := hbz
  have HNM : Hid (NmR w9.drew X N) := Lib.hid (HM2.out.below (Below.refl _ w9).drew)
  have HCALL := refVar_any X N x w9.drew HNM.out HLA.out HLL.out
  rw [HQ.out] at HCALL
  unfold ScX.v at HCALL
  obtain ⟨a, haa⟩ : ∃ a, X.a2 = a := ⟨_, rfl⟩
  rw [haa] at s1 ha
  try rw [haa] at HCALL
  subst ha
  have HCALL := Lib.hid HCALL
  clear hc hns haa
  go_region_held3 (fun w' => w'.cell? ⟨g + 1, 0, none⟩ = some (.slice X.a1 X.n1 X.c1) ∧ w'.cell? ⟨g + 1, 1, none⟩ = some (.slice (some ⟨b, off, none⟩) X.n2 X.c2) ∧ w'.cell? ⟨g + 1, 2, none⟩ = some (.slice X.a3 X.n3 X.c3) ∧ w'.cell? ⟨g + 1, 3, none⟩ = some (.slice X.a4 X.n4 X.c4) ∧ w'.cell? ⟨g + 1, 4, none⟩ = some (.slice X.a5 X.n5 X.c5) ∧ w'.cell? ⟨g + 1, 5, none⟩ = some (.int .i64 X.self) ∧ w'.cell? ⟨g, 0, none⟩ = some (.int .i64 2) ∧ w'.cell? ⟨g, 1, none⟩ = some (.int .i64 (k : Nat)) ∧ w'.cell? ⟨b, off + k * 6, none⟩ = some (.string x))
    (first | exact ⟨s0, s1, s2, s3, s4, s5, y0, y1, d0⟩ | exact ⟨g0, g1, g2, g3, g4, g5, g6, g7, g8⟩ | go_keep)
    ((go_at_call 50; refine HCALL.out.mono ?_; rintro e w10 ⟨ho10, hb10⟩; subst ho10; have g0 := (hb10.cell (p := ⟨g + 1, 0, none⟩) hz3).trans s0; have g1 := (hb10.cell (p := ⟨g + 1, 1, none⟩) hz3).trans s1; have g2 := (hb10.cell (p := ⟨g + 1, 2, none⟩) hz3).trans s2; have g3 := (hb10.cell (p := ⟨g + 1, 3, none⟩) hz3).trans s3; have g4 := (hb10.cell (p := ⟨g + 1, 4, none⟩) hz3).trans s4; have g5 := (hb10.cell (p := ⟨g + 1, 5, none⟩) hz3).trans s5; have g6 := (hb10.cell (p := ⟨g, 0, none⟩) hz1).trans y0; have g7 := (hb10.cell (p := ⟨g, 1, none⟩) hz1).trans y1; have g8 := (hb10.cell (p := ⟨b, off + k * 6, none⟩) hz4).trans d0; have HB10 := Lib.hid hb10; clear hb10))
  have HB11 := Lib.hid (bthen (Below.refl _ w9).drew HB10.out)
  have HB12 : Hid (Below g w w10) := Lib.hid (HB2.out.trans (HB11.out.mono (by have := HB2.out.size; omega)))
  clear s0 s1 s2 s3 s4 s5 y0 y1 d0 g0 g1 g2 g3 g4 g5 g6 g7 g8 HCALL
  go_wp2
  refine bodyPost_ret (v := .tuple #[.string x, .bool (q == (k : Int))]) (by simp [results, Tryz.results22, go_sem]; try rfl) rfl ⟨?_, ?_⟩
  · rw [HR.out]
  · first | exact HB12.out | (rw [hgn]; exact HB12.out)
set_option maxRecDepth 20000 in
set_option maxHeartbeats 4000000 in
theorem rn3 (X : ScX) (N : Nm) (n : Int) (w : World) (h : NmR w X N) (ht : There N (3, n)) (hlens : ∀ op l, nmOf N op = some l → l.length ≤ 1000000) : Calls Tryz.prog 22 #[.agg #[.int .i64 3, .int .i64 n], X.v] w (RnP w (rnB N (3, n))) := by
  obtain ⟨h0, h9, hlt, hlen⟩ := ht N.vars rfl
  dsimp only at h0 h9
  obtain ⟨k, rfl⟩ : ∃ k : Nat, n = k := ⟨n.toNat, by omega⟩
  have hpl : placeF (3, (k : Int)) = (k : Int) := rfl
  rw [hpl] at hlt
  have hlt : k < N.vars.length := hlt
  obtain ⟨x, hx⟩ : ∃ x, N.vars.getD k default = x := ⟨_, rfl⟩
  obtain ⟨q, HQ⟩ : ∃ q, Hid (lookV N x = q) := ⟨_, Lib.hid rfl⟩
  have HR : Hid (rnB N (3, (k : Int)) = (x, q == (k : Int))) := Lib.hid (by
    rw [← HQ.out, ← hx]
    unfold rnB
    rw [hpl]
    rfl)
  have HLA : Hid (N.vars.length ≤ 1000000) := Lib.hid hlen
  have HLL : Hid (N.locals.length ≤ 1000000) := Lib.hid (hlens 4 _ rfl)
  have hb1 := below_alloc1 w (.cells #[.int .i64 3, .int .i64 (k : Nat)] 39)
  have hb2 := below_alloc1 (w.alloc (.cells #[.int .i64 3, .int .i64 (k : Nat)] 39)) (.cells #[.slice X.a1 X.n1 X.c1, .slice X.a2 X.n2 X.c2, .slice X.a3 X.n3 X.c3, .slice X.a4 X.n4 X.c4, .slice X.a5 X.n5 X.c5, .int .i64 X.self] 28)
  have HB2 := Lib.hid (bthen hb1 hb2)
  have HM2 := Lib.hid ((h.below hb1).below hb2)
  have hsz : (w.alloc (.cells #[.int .i64 3, .int .i64 (k : Nat)] 39)).heap.size = w.heap.size + 1 := by simp
  have hnew := World.alloc_heap_new w (.cells #[.int .i64 3, .int .i64 (k : Nat)] 39)
  have HBX := Bx.new (w.alloc (.cells #[.int .i64 3, .int .i64 (k : Nat)] 39)) X 28
  have HNB : Hid (((w.alloc (.cells #[.int .i64 3, .int .i64 (k : Nat)] 39)).alloc (.cells #[.slice X.a1 X.n1 X.c1, .slice X.a2 X.n2 X.c2, .slice X.a3 X.n3 X.c3, .slice X.a4 X.n4 X.c4, .slice X.a5 X.n5 X.c5, .int .i64 X.self] 28)).heap[w.heap.size]? = some (.cells #[.int .i64 3, .int .i64 (k : Nat)] 39 (0, 0))) := Lib.hid ((hb2.block _ (by omega)).trans hnew)
  rw [hsz] at HBX
  have HBX := Lib.hid HBX
  have HLT := Lib.hid hlt
  have HXX := Lib.hid hx
  clear hb1 hb2 hnew h ht hlens hx hlen hlt hpl
  unfold ScX.v
  go_enter Tryz.func22, Tryz.ntmps22
  go_upto_region 4 with (fail)
  generalize hgn : w.heap.size = g at *
  generalize hw9 : (w.alloc (.cells #[.int .i64 3, .int .i64 (k : Nat)] 39)).alloc (.cells #[.slice X.a1 X.n1 X.c1, .slice X.a2 X.n2 X.c2, .slice X.a3 X.n3 X.c3, .slice X.a4 X.n4 X.c4, .slice X.a5 X.n5 X.c5, .int .i64 X.self] 28) = w9 at *
  clear hw9
  try rw [hsz]
  clear hsz
  obtain ⟨⟨s0, s1, s2, s3, s4, s5⟩, hz2⟩ := HBX.out
  have y0 : w9.cell? ⟨g, 0, none⟩ = some (.int .i64 3) := cell_of_heap HNB.out rfl
  have y1 : w9.cell? ⟨g, 1, none⟩ = some (.int .i64 (k : Nat)) := cell_of_heap HNB.out rfl
  obtain ⟨b, off, ha, hbz, hc⟩ := HM2.out.r2 (by have := HLT.out; omega)
  have d0 := hc k HLT.out
  rw [HXX.out] at d0
  have hns : X.n2 = N.vars.length := HM2.out.l2
  have hi9 : (k : Int) < (X.n2 : Int) := by rw [hns]; have := HLT.out; omega
  have hi0 : (0 : Int) ≤ (k : Int) := by omega
  have hz1 : g < w9.drew.heap.size := by show g < w9.heap.size; omega
  have hz3 : g + 1 < w9.drew.heap.size := hz2
  have hz4 : b < w9.drew.heap.size := hbz
  have HNM : Hid (NmR w9.drew X N) := Lib.hid (HM2.out.below (Below.refl _ w9).drew)
  have HCALL := refVar_any X N x w9.drew HNM.out HLA.out HLL.out
  rw [HQ.out] at HCALL
  unfold ScX.v at HCALL
  obtain ⟨a, haa⟩ : ∃ a, X.a2 = a := ⟨_, rfl⟩
  rw [haa] at s1 ha
  try rw [haa] at HCALL
  subst ha
  have HCALL := Lib.hid HCALL
  clear hc hns haa
  go_region_held3 (fun w' => w'.cell? ⟨g + 1, 0, none⟩ = some (.slice X.a1 X.n1 X.c1) ∧ w'.cell? ⟨g + 1, 1, none⟩ = some (.slice (some ⟨b, off, none⟩) X.n2 X.c2) ∧ w'.cell? ⟨g + 1, 2, none⟩ = some (.slice X.a3 X.n3 X.c3) ∧ w'.cell? ⟨g + 1, 3, none⟩ = some (.slice X.a4 X.n4 X.c4) ∧ w'.cell? ⟨g + 1, 4, none⟩ = some (.slice X.a5 X.n5 X.c5) ∧ w'.cell? ⟨g + 1, 5, none⟩ = some (.int .i64 X.self) ∧ w'.cell? ⟨g, 0, none⟩ = some (.int .i64 3) ∧ w'.cell? ⟨g, 1, none⟩ = some (.int .i64 (k : Nat)) ∧ w'.cell? ⟨b, off + k * 6, none⟩ = some (.string x))
    (first | exact ⟨s0, s1, s2, s3, s4, s5, y0, y1, d0⟩ | exact ⟨g0, g1, g2, g3, g4, g5, g6, g7, g8⟩ | go_keep)
    ((go_at_call 50; refine HCALL.out.mono ?_; rintro e w10 ⟨ho10, hb10⟩; subst ho10; have g0 := (hb10.cell (p := ⟨g + 1, 0, none⟩) hz3).trans s0; have g1 := (hb10.cell (p := ⟨g + 1, 1, none⟩) hz3).trans s1; have g2 := (hb10.cell (p := ⟨g + 1, 2, none⟩) hz3).trans s2; have g3 := (hb10.cell (p := ⟨g + 1, 3, none⟩) hz3).trans s3; have g4 := (hb10.cell (p := ⟨g + 1, 4, none⟩) hz3).trans s4; have g5 := (hb10.cell (p := ⟨g + 1, 5, none⟩) hz3).trans s5; have g6 := (hb10.cell (p := ⟨g, 0, none⟩) hz1).trans y0; have g7 := (hb10.cell (p := ⟨g, 1, none⟩) hz1).trans y1; have g8 := (hb10.cell (p := ⟨b, off + k * 6, none⟩) hz4).trans d0; have HB10 := Lib.hid hb10; clear hb10))
  have HB11 := Lib.hid (bthen (Below.refl _ w9).drew HB10.out)
  have HB12 : Hid (Below g w w10) := Lib.hid (HB2.out.trans (HB11.out.mono (by have := HB2.out.size; omega)))
  clear s0 s1 s2 s3 s4 s5 y0 y1 d0 g0 g1 g2 g3 g4 g5 g6 g7 g8 HCALL
  go_wp2
  refine bodyPost_ret (v := .tuple #[.string x, .bool (q == (k : Int))]) (by simp [results, Tryz.results22, go_sem]; try rfl) rfl ⟨?_, ?_⟩
  · rw [HR.out]
  · first | exact HB12.out | (rw [hgn]; exact HB12.out)
set_option maxRecDepth 20000 in
set_option maxHeartbeats 4000000 in
theorem rn4 (X : ScX) (N : Nm) (n : Int) (w : World) (h : NmR w X N) (ht : There N (4, n)) (hlens : ∀ op l, nmOf N op = some l → l.length ≤ 1000000) : Calls Tryz.prog 22 #[.agg #[.int .i64 4, .int .i64 n], X.v] w (RnP w (rnB N (4, n))) := by
  obtain ⟨h0, h9, hlt, hlen⟩ := ht N.locals rfl
  dsimp only at h0 h9
  obtain ⟨k, rfl⟩ : ∃ k : Nat, n = k := ⟨n.toNat, by omega⟩
  have hpl : placeF (4, (k : Int)) = (k : Int) := rfl
  rw [hpl] at hlt
  have hlt : k < N.locals.length := hlt
  obtain ⟨x, hx⟩ : ∃ x, N.locals.getD k default = x := ⟨_, rfl⟩
  obtain ⟨q, HQ⟩ : ∃ q, Hid (lookI (findF x 0 N.locals) = q) := ⟨_, Lib.hid rfl⟩
  have HR : Hid (rnB N (4, (k : Int)) = (x, q == (k : Int))) := Lib.hid (by
    rw [← HQ.out, ← hx]
    unfold rnB
    rw [hpl]
    rfl)
  have HLA : Hid (N.locals.length ≤ 1000000) := Lib.hid hlen
  have HLL : Hid (N.locals.length ≤ 1000000) := Lib.hid (hlens 4 _ rfl)
  have hb1 := below_alloc1 w (.cells #[.int .i64 4, .int .i64 (k : Nat)] 39)
  have hb2 := below_alloc1 (w.alloc (.cells #[.int .i64 4, .int .i64 (k : Nat)] 39)) (.cells #[.slice X.a1 X.n1 X.c1, .slice X.a2 X.n2 X.c2, .slice X.a3 X.n3 X.c3, .slice X.a4 X.n4 X.c4, .slice X.a5 X.n5 X.c5, .int .i64 X.self] 28)
  have HB2 := Lib.hid (bthen hb1 hb2)
  have HM2 := Lib.hid ((h.below hb1).below hb2)
  have hsz : (w.alloc (.cells #[.int .i64 4, .int .i64 (k : Nat)] 39)).heap.size = w.heap.size + 1 := by simp
  have hnew := World.alloc_heap_new w (.cells #[.int .i64 4, .int .i64 (k : Nat)] 39)
  have HBX := Bx.new (w.alloc (.cells #[.int .i64 4, .int .i64 (k : Nat)] 39)) X 28
  have HNB : Hid (((w.alloc (.cells #[.int .i64 4, .int .i64 (k : Nat)] 39)).alloc (.cells #[.slice X.a1 X.n1 X.c1, .slice X.a2 X.n2 X.c2, .slice X.a3 X.n3 X.c3, .slice X.a4 X.n4 X.c4, .slice X.a5 X.n5 X.c5, .int .i64 X.self] 28)).heap[w.heap.size]? = some (.cells #[.int .i64 4, .int .i64 (k : Nat)] 39 (0, 0))) := Lib.hid ((hb2.block _ (by omega)).trans hnew)
  rw [hsz] at HBX
  have HBX := Lib.hid HBX
  have HLT := Lib.hid hlt
  have HXX := Lib.hid hx
  clear hb1 hb2 hnew h ht hlens hx hlen hlt hpl
  unfold ScX.v
  go_enter Tryz.func22, Tryz.ntmps22
  go_upto_region 6 with (fail)
  generalize hgn : w.heap.size = g at *
  generalize hw9 : (w.alloc (.cells #[.int .i64 4, .int .i64 (k : Nat)] 39)).alloc (.cells #[.slice X.a1 X.n1 X.c1, .slice X.a2 X.n2 X.c2, .slice X.a3 X.n3 X.c3, .slice X.a4 X.n4 X.c4, .slice X.a5 X.n5 X.c5, .int .i64 X.self] 28) = w9 at *
  clear hw9
  try rw [hsz]
  clear hsz
  obtain ⟨⟨s0, s1, s2, s3, s4, s5⟩, hz2⟩ := HBX.out
  have y0 : w9.cell? ⟨g, 0, none⟩ = some (.int .i64 4) := cell_of_heap HNB.out rfl
  have y1 : w9.cell? ⟨g, 1, none⟩ = some (.int .i64 (k : Nat)) := cell_of_heap HNB.out rfl
  obtain ⟨b, off, ha, hbz, hc⟩ := HM2.out.r5 (by have := HLT.out; omega)
  have d0 := hc k HLT.out
  rw [HXX.out] at d0
  have hns : X.n5 = N.locals.length := HM2.out.l5
  have hi9 : (k : Int) < (X.n5 : Int) := by rw [hns]; have := HLT.out; omega
  have hi0 : (0 : Int) ≤ (k : Int) := by omega
  have hz1 : g < w9.drew.heap.size := by show g < w9.heap.size; omega
  have hz3 : g + 1 < w9.drew.heap.size := hz2
  have hz4 : b < w9.drew.heap.size := hbz
  have HNM : Hid (NmR w9.drew X N) := Lib.hid (HM2.out.below (Below.refl _ w9).drew)
  have HCALL := refLocal_any X N x w9.drew HNM.out HLA.out
  rw [HQ.out] at HCALL
  unfold ScX.v at HCALL
  obtain ⟨a, haa⟩ : ∃ a, X.a5 = a := ⟨_, rfl⟩
  rw [haa] at s4 ha
  try rw [haa] at HCALL
  subst ha
  have HCALL := Lib.hid HCALL
  clear hc hns haa
  go_region_held3 (fun w' => w'.cell? ⟨g + 1, 0, none⟩ = some (.slice X.a1 X.n1 X.c1) ∧ w'.cell? ⟨g + 1, 1, none⟩ = some (.slice X.a2 X.n2 X.c2) ∧ w'.cell? ⟨g + 1, 2, none⟩ = some (.slice X.a3 X.n3 X.c3) ∧ w'.cell? ⟨g + 1, 3, none⟩ = some (.slice X.a4 X.n4 X.c4) ∧ w'.cell? ⟨g + 1, 4, none⟩ = some (.slice (some ⟨b, off, none⟩) X.n5 X.c5) ∧ w'.cell? ⟨g + 1, 5, none⟩ = some (.int .i64 X.self) ∧ w'.cell? ⟨g, 0, none⟩ = some (.int .i64 4) ∧ w'.cell? ⟨g, 1, none⟩ = some (.int .i64 (k : Nat)) ∧ w'.cell? ⟨b, off + k * 6, none⟩ = some (.string x))
    (first | exact ⟨s0, s1, s2, s3, s4, s5, y0, y1, d0⟩ | exact ⟨g0, g1, g2, g3, g4, g5, g6, g7, g8⟩ | go_keep)
    ((go_at_call 51; refine HCALL.out.mono ?_; rintro e w10 ⟨ho10, hb10⟩; subst ho10; have g0 := (hb10.cell (p := ⟨g + 1, 0, none⟩) hz3).trans s0; have g1 := (hb10.cell (p := ⟨g + 1, 1, none⟩) hz3).trans s1; have g2 := (hb10.cell (p := ⟨g + 1, 2, none⟩) hz3).trans s2; have g3 := (hb10.cell (p := ⟨g + 1, 3, none⟩) hz3).trans s3; have g4 := (hb10.cell (p := ⟨g + 1, 4, none⟩) hz3).trans s4; have g5 := (hb10.cell (p := ⟨g + 1, 5, none⟩) hz3).trans s5; have g6 := (hb10.cell (p := ⟨g, 0, none⟩) hz1).trans y0; have g7 := (hb10.cell (p := ⟨g, 1, none⟩) hz1).trans y1; have g8 := (hb10.cell (p := ⟨b, off + k * 6, none⟩) hz4).trans d0; have HB10 := Lib.hid hb10; clear hb10))
  have HB11 := Lib.hid (bthen (Below.refl _ w9).drew HB10.out)
  have HB12 : Hid (Below g w w10) := Lib.hid (HB2.out.trans (HB11.out.mono (by have := HB2.out.size; omega)))
  clear s0 s1 s2 s3 s4 s5 y0 y1 d0 g0 g1 g2 g3 g4 g5 g6 g7 g8 HCALL
  go_wp2
  refine bodyPost_ret (v := .tuple #[.string x, .bool (q == (k : Int))]) (by simp [results, Tryz.results22, go_sem]; try rfl) rfl ⟨?_, ?_⟩
  · rw [HR.out]
  · first | exact HB12.out | (rw [hgn]; exact HB12.out)
set_option maxRecDepth 20000 in
set_option maxHeartbeats 4000000 in
theorem rn6 (X : ScX) (N : Nm) (n : Int) (w : World) (h : NmR w X N) (ht : There N (6, n)) (hlens : ∀ op l, nmOf N op = some l → l.length ≤ 1000000) : Calls Tryz.prog 22 #[.agg #[.int .i64 6, .int .i64 n], X.v] w (RnP w (rnB N (6, n))) := by
  obtain ⟨h0, h9, hlt, hlen⟩ := ht N.chans rfl
  dsimp only at h0 h9
  obtain ⟨k, rfl⟩ : ∃ k : Nat, n = k := ⟨n.toNat, by omega⟩
  have hpl : placeF (6, (k : Int)) = (k : Int) := rfl
  rw [hpl] at hlt
  have hlt : k < N.chans.length := hlt
  obtain ⟨x, hx⟩ : ∃ x, N.chans.getD k default = x := ⟨_, rfl⟩
  obtain ⟨q, HQ⟩ : ∃ q, Hid (lookI (findF x 0 N.chans) = q) := ⟨_, Lib.hid rfl⟩
  have HR : Hid (rnB N (6, (k : Int)) = (x, q == (k : Int))) := Lib.hid (by
    rw [← HQ.out, ← hx]
    unfold rnB
    rw [hpl]
    rfl)
  have HLA : Hid (N.chans.length ≤ 1000000) := Lib.hid hlen
  have HLL : Hid (N.locals.length ≤ 1000000) := Lib.hid (hlens 4 _ rfl)
  have hb1 := below_alloc1 w (.cells #[.int .i64 6, .int .i64 (k : Nat)] 39)
  have hb2 := below_alloc1 (w.alloc (.cells #[.int .i64 6, .int .i64 (k : Nat)] 39)) (.cells #[.slice X.a1 X.n1 X.c1, .slice X.a2 X.n2 X.c2, .slice X.a3 X.n3 X.c3, .slice X.a4 X.n4 X.c4, .slice X.a5 X.n5 X.c5, .int .i64 X.self] 28)
  have HB2 := Lib.hid (bthen hb1 hb2)
  have HM2 := Lib.hid ((h.below hb1).below hb2)
  have hsz : (w.alloc (.cells #[.int .i64 6, .int .i64 (k : Nat)] 39)).heap.size = w.heap.size + 1 := by simp
  have hnew := World.alloc_heap_new w (.cells #[.int .i64 6, .int .i64 (k : Nat)] 39)
  have HBX := Bx.new (w.alloc (.cells #[.int .i64 6, .int .i64 (k : Nat)] 39)) X 28
  have HNB : Hid (((w.alloc (.cells #[.int .i64 6, .int .i64 (k : Nat)] 39)).alloc (.cells #[.slice X.a1 X.n1 X.c1, .slice X.a2 X.n2 X.c2, .slice X.a3 X.n3 X.c3, .slice X.a4 X.n4 X.c4, .slice X.a5 X.n5 X.c5, .int .i64 X.self] 28)).heap[w.heap.size]? = some (.cells #[.int .i64 6, .int .i64 (k : Nat)] 39 (0, 0))) := Lib.hid ((hb2.block _ (by omega)).trans hnew)
  rw [hsz] at HBX
  have HBX := Lib.hid HBX
  have HLT := Lib.hid hlt
  have HXX := Lib.hid hx
  clear hb1 hb2 hnew h ht hlens hx hlen hlt hpl
  unfold ScX.v
  go_enter Tryz.func22, Tryz.ntmps22
  go_upto_region 8 with (fail)
  generalize hgn : w.heap.size = g at *
  generalize hw9 : (w.alloc (.cells #[.int .i64 6, .int .i64 (k : Nat)] 39)).alloc (.cells #[.slice X.a1 X.n1 X.c1, .slice X.a2 X.n2 X.c2, .slice X.a3 X.n3 X.c3, .slice X.a4 X.n4 X.c4, .slice X.a5 X.n5 X.c5, .int .i64 X.self] 28) = w9 at *
  clear hw9
  try rw [hsz]
  clear hsz
  obtain ⟨⟨s0, s1, s2, s3, s4, s5⟩, hz2⟩ := HBX.out
  have y0 : w9.cell? ⟨g, 0, none⟩ = some (.int .i64 6) := cell_of_heap HNB.out rfl
  have y1 : w9.cell? ⟨g, 1, none⟩ = some (.int .i64 (k : Nat)) := cell_of_heap HNB.out rfl
  obtain ⟨b, off, ha, hbz, hc⟩ := HM2.out.r3 (by have := HLT.out; omega)
  have d0 := hc k HLT.out
  rw [HXX.out] at d0
  have hns : X.n3 = N.chans.length := HM2.out.l3
  have hi9 : (k : Int) < (X.n3 : Int) := by rw [hns]; have := HLT.out; omega
  have hi0 : (0 : Int) ≤ (k : Int) := by omega
  have hz1 : g < w9.drew.heap.size := by show g < w9.heap.size; omega
  have hz3 : g + 1 < w9.drew.heap.size := hz2
  have hz4 : b < w9.drew.heap.size := hbz
  have HNM : Hid (NmR w9.drew X N) := Lib.hid (HM2.out.below (Below.refl _ w9).drew)
  have HCALL := refChan_any X N x w9.drew HNM.out HLA.out
  rw [HQ.out] at HCALL
  unfold ScX.v at HCALL
  obtain ⟨a, haa⟩ : ∃ a, X.a3 = a := ⟨_, rfl⟩
  rw [haa] at s2 ha
  try rw [haa] at HCALL
  subst ha
  have HCALL := Lib.hid HCALL
  clear hc hns haa
  go_region_held3 (fun w' => w'.cell? ⟨g + 1, 0, none⟩ = some (.slice X.a1 X.n1 X.c1) ∧ w'.cell? ⟨g + 1, 1, none⟩ = some (.slice X.a2 X.n2 X.c2) ∧ w'.cell? ⟨g + 1, 2, none⟩ = some (.slice (some ⟨b, off, none⟩) X.n3 X.c3) ∧ w'.cell? ⟨g + 1, 3, none⟩ = some (.slice X.a4 X.n4 X.c4) ∧ w'.cell? ⟨g + 1, 4, none⟩ = some (.slice X.a5 X.n5 X.c5) ∧ w'.cell? ⟨g + 1, 5, none⟩ = some (.int .i64 X.self) ∧ w'.cell? ⟨g, 0, none⟩ = some (.int .i64 6) ∧ w'.cell? ⟨g, 1, none⟩ = some (.int .i64 (k : Nat)) ∧ w'.cell? ⟨b, off + k * 6, none⟩ = some (.string x))
    (first | exact ⟨s0, s1, s2, s3, s4, s5, y0, y1, d0⟩ | exact ⟨g0, g1, g2, g3, g4, g5, g6, g7, g8⟩ | go_keep)
    ((go_at_call 52; refine HCALL.out.mono ?_; rintro e w10 ⟨ho10, hb10⟩; subst ho10; have g0 := (hb10.cell (p := ⟨g + 1, 0, none⟩) hz3).trans s0; have g1 := (hb10.cell (p := ⟨g + 1, 1, none⟩) hz3).trans s1; have g2 := (hb10.cell (p := ⟨g + 1, 2, none⟩) hz3).trans s2; have g3 := (hb10.cell (p := ⟨g + 1, 3, none⟩) hz3).trans s3; have g4 := (hb10.cell (p := ⟨g + 1, 4, none⟩) hz3).trans s4; have g5 := (hb10.cell (p := ⟨g + 1, 5, none⟩) hz3).trans s5; have g6 := (hb10.cell (p := ⟨g, 0, none⟩) hz1).trans y0; have g7 := (hb10.cell (p := ⟨g, 1, none⟩) hz1).trans y1; have g8 := (hb10.cell (p := ⟨b, off + k * 6, none⟩) hz4).trans d0; have HB10 := Lib.hid hb10; clear hb10))
  have HB11 := Lib.hid (bthen (Below.refl _ w9).drew HB10.out)
  have HB12 : Hid (Below g w w10) := Lib.hid (HB2.out.trans (HB11.out.mono (by have := HB2.out.size; omega)))
  clear s0 s1 s2 s3 s4 s5 y0 y1 d0 g0 g1 g2 g3 g4 g5 g6 g7 g8 HCALL
  go_wp2
  refine bodyPost_ret (v := .tuple #[.string x, .bool (q == (k : Int))]) (by simp [results, Tryz.results22, go_sem]; try rfl) rfl ⟨?_, ?_⟩
  · rw [HR.out]
  · first | exact HB12.out | (rw [hgn]; exact HB12.out)
set_option maxRecDepth 20000 in
set_option maxHeartbeats 4000000 in
theorem rn7 (X : ScX) (N : Nm) (n : Int) (w : World) (h : NmR w X N) (ht : There N (7, n)) (hlens : ∀ op l, nmOf N op = some l → l.length ≤ 1000000) : Calls Tryz.prog 22 #[.agg #[.int .i64 7, .int .i64 n], X.v] w (RnP w (rnB N (7, n))) := by
  obtain ⟨h0, h9, hlt, hlen⟩ := ht N.procs rfl
  dsimp only at h0 h9
  have hw : n.tdiv 16 = n / 16 := Int.tdiv_eq_ediv_of_nonneg h0
  have hw2 : wrap64 (n / 16) = n / 16 := by unfold wrap64; omega
  have hw4 : IntKind.i64.wrap (n / 16) = n / 16 := IntWalk.i64_in _ (by omega)
  have hw5 : IntKind.i64.wrap (n.tdiv 16) = n / 16 := by rw [hw]; exact hw4
  have hw3 : ((n / 16).toNat : Int) = n / 16 := by omega
  have hpl : placeF (7, n) = (n / 16) := rfl
  rw [hpl] at hlt
  have hlt : (n / 16).toNat < N.procs.length := hlt
  obtain ⟨x, hx⟩ : ∃ x, N.procs.getD (n / 16).toNat default = x := ⟨_, rfl⟩
  obtain ⟨q, HQ⟩ : ∃ q, Hid (lookI (findF x 0 N.procs) = q) := ⟨_, Lib.hid rfl⟩
  have HR : Hid (rnB N (7, n) = (x, q == (n / 16))) := Lib.hid (by
    rw [← HQ.out, ← hx]
    unfold rnB
    rw [hpl]
    rfl)
  have HLA : Hid (N.procs.length ≤ 1000000) := Lib.hid hlen
  have HLL : Hid (N.locals.length ≤ 1000000) := Lib.hid (hlens 4 _ rfl)
  have hb1 := below_alloc1 w (.cells #[.int .i64 7, .int .i64 n] 39)
  have hb2 := below_alloc1 (w.alloc (.cells #[.int .i64 7, .int .i64 n] 39)) (.cells #[.slice X.a1 X.n1 X.c1, .slice X.a2 X.n2 X.c2, .slice X.a3 X.n3 X.c3, .slice X.a4 X.n4 X.c4, .slice X.a5 X.n5 X.c5, .int .i64 X.self] 28)
  have HB2 := Lib.hid (bthen hb1 hb2)
  have HM2 := Lib.hid ((h.below hb1).below hb2)
  have hsz : (w.alloc (.cells #[.int .i64 7, .int .i64 n] 39)).heap.size = w.heap.size + 1 := by simp
  have hnew := World.alloc_heap_new w (.cells #[.int .i64 7, .int .i64 n] 39)
  have HBX := Bx.new (w.alloc (.cells #[.int .i64 7, .int .i64 n] 39)) X 28
  have HNB : Hid (((w.alloc (.cells #[.int .i64 7, .int .i64 n] 39)).alloc (.cells #[.slice X.a1 X.n1 X.c1, .slice X.a2 X.n2 X.c2, .slice X.a3 X.n3 X.c3, .slice X.a4 X.n4 X.c4, .slice X.a5 X.n5 X.c5, .int .i64 X.self] 28)).heap[w.heap.size]? = some (.cells #[.int .i64 7, .int .i64 n] 39 (0, 0))) := Lib.hid ((hb2.block _ (by omega)).trans hnew)
  rw [hsz] at HBX
  have HBX := Lib.hid HBX
  have HLT := Lib.hid hlt
  have HXX := Lib.hid hx
  clear hb1 hb2 hnew h ht hlens hx hlen hlt hpl
  unfold ScX.v
  go_enter Tryz.func22, Tryz.ntmps22
  go_upto_region 10 with (fail)
  generalize hgn : w.heap.size = g at *
  generalize hw9 : (w.alloc (.cells #[.int .i64 7, .int .i64 n] 39)).alloc (.cells #[.slice X.a1 X.n1 X.c1, .slice X.a2 X.n2 X.c2, .slice X.a3 X.n3 X.c3, .slice X.a4 X.n4 X.c4, .slice X.a5 X.n5 X.c5, .int .i64 X.self] 28) = w9 at *
  clear hw9
  try rw [hsz]
  clear hsz
  obtain ⟨⟨s0, s1, s2, s3, s4, s5⟩, hz2⟩ := HBX.out
  have y0 : w9.cell? ⟨g, 0, none⟩ = some (.int .i64 7) := cell_of_heap HNB.out rfl
  have y1 : w9.cell? ⟨g, 1, none⟩ = some (.int .i64 n) := cell_of_heap HNB.out rfl
  obtain ⟨b, off, ha, hbz, hc⟩ := HM2.out.r4 (by have := HLT.out; omega)
  have d0 := hc (n / 16).toNat HLT.out
  rw [HXX.out] at d0
  have hns : X.n4 = N.procs.length := HM2.out.l4
  have hi9 : n / 16 < (X.n4 : Int) := by rw [hns]; have := HLT.out; omega
  have hi0 : (0 : Int) ≤ n / 16 := by omega
  have hz1 : g < w9.drew.heap.size := by show g < w9.heap.size; omega
  have hz3 : g + 1 < w9.drew.heap.size := hz2
  have hz4 : b < w9.drew.heap.size := hbz
  have HNM : Hid (NmR w9.drew X N) := Lib.hid (HM2.out.below (Below.refl _ w9).drew)
  have HCALL := refProc_any X N x w9.drew HNM.out HLA.out
  rw [HQ.out] at HCALL
  unfold ScX.v at HCALL
  obtain ⟨a, haa⟩ : ∃ a, X.a4 = a := ⟨_, rfl⟩
  rw [haa] at s3 ha
  try rw [haa] at HCALL
  subst ha
  have HCALL := Lib.hid HCALL
  clear hc hns haa hw3
  go_region_held3 (fun w' => w'.cell? ⟨g + 1, 0, none⟩ = some (.slice X.a1 X.n1 X.c1) ∧ w'.cell? ⟨g + 1, 1, none⟩ = some (.slice X.a2 X.n2 X.c2) ∧ w'.cell? ⟨g + 1, 2, none⟩ = some (.slice X.a3 X.n3 X.c3) ∧ w'.cell? ⟨g + 1, 3, none⟩ = some (.slice (some ⟨b, off, none⟩) X.n4 X.c4) ∧ w'.cell? ⟨g + 1, 4, none⟩ = some (.slice X.a5 X.n5 X.c5) ∧ w'.cell? ⟨g + 1, 5, none⟩ = some (.int .i64 X.self) ∧ w'.cell? ⟨g, 0, none⟩ = some (.int .i64 7) ∧ w'.cell? ⟨g, 1, none⟩ = some (.int .i64 n) ∧ w'.cell? ⟨b, off + (n / 16).toNat * 5, none⟩ = some (.string x))
    (first | exact ⟨s0, s1, s2, s3, s4, s5, y0, y1, d0⟩ | exact ⟨g0, g1, g2, g3, g4, g5, g6, g7, g8⟩ | go_keep)
    ((go_at_call 53; refine HCALL.out.mono ?_; rintro e w10 ⟨ho10, hb10⟩; subst ho10; have g0 := (hb10.cell (p := ⟨g + 1, 0, none⟩) hz3).trans s0; have g1 := (hb10.cell (p := ⟨g + 1, 1, none⟩) hz3).trans s1; have g2 := (hb10.cell (p := ⟨g + 1, 2, none⟩) hz3).trans s2; have g3 := (hb10.cell (p := ⟨g + 1, 3, none⟩) hz3).trans s3; have g4 := (hb10.cell (p := ⟨g + 1, 4, none⟩) hz3).trans s4; have g5 := (hb10.cell (p := ⟨g + 1, 5, none⟩) hz3).trans s5; have g6 := (hb10.cell (p := ⟨g, 0, none⟩) hz1).trans y0; have g7 := (hb10.cell (p := ⟨g, 1, none⟩) hz1).trans y1; have g8 := (hb10.cell (p := ⟨b, off + (n / 16).toNat * 5, none⟩) hz4).trans d0; have HB10 := Lib.hid hb10; clear hb10))
  have HB11 := Lib.hid (bthen (Below.refl _ w9).drew HB10.out)
  have HB12 : Hid (Below g w w10) := Lib.hid (HB2.out.trans (HB11.out.mono (by have := HB2.out.size; omega)))
  clear s0 s1 s2 s3 s4 s5 y0 y1 d0 g0 g1 g2 g3 g4 g5 g6 g7 g8 HCALL
  go_wp2
  refine bodyPost_ret (v := .tuple #[.string x, .bool (q == (n / 16))]) (by simp [results, Tryz.results22, go_sem]; try rfl) rfl ⟨?_, ?_⟩
  · rw [HR.out]
  · first | exact HB12.out | (rw [hgn]; exact HB12.out)
set_option maxRecDepth 20000 in
set_option maxHeartbeats 4000000 in
theorem rn8 (X : ScX) (N : Nm) (n : Int) (w : World) (h : NmR w X N) (ht : There N (8, n)) (hlens : ∀ op l, nmOf N op = some l → l.length ≤ 1000000) : Calls Tryz.prog 22 #[.agg #[.int .i64 8, .int .i64 n], X.v] w (RnP w (rnB N (8, n))) := by
  obtain ⟨h0, h9, hlt, hlen⟩ := ht N.scals rfl
  dsimp only at h0 h9
  obtain ⟨k, rfl⟩ : ∃ k : Nat, n = k := ⟨n.toNat, by omega⟩
  have hpl : placeF (8, (k : Int)) = (k : Int) := rfl
  rw [hpl] at hlt
  have hlt : k < N.scals.length := hlt
  obtain ⟨x, hx⟩ : ∃ x, N.scals.getD k default = x := ⟨_, rfl⟩
  obtain ⟨q, HQ⟩ : ∃ q, Hid (lookI (findF x 0 N.scals) = q) := ⟨_, Lib.hid rfl⟩
  have HR : Hid (rnB N (8, (k : Int)) = (x, q == (k : Int))) := Lib.hid (by
    rw [← HQ.out, ← hx]
    unfold rnB
    rw [hpl]
    rfl)
  have HLA : Hid (N.scals.length ≤ 1000000) := Lib.hid hlen
  have HLL : Hid (N.locals.length ≤ 1000000) := Lib.hid (hlens 4 _ rfl)
  have hb1 := below_alloc1 w (.cells #[.int .i64 8, .int .i64 (k : Nat)] 39)
  have hb2 := below_alloc1 (w.alloc (.cells #[.int .i64 8, .int .i64 (k : Nat)] 39)) (.cells #[.slice X.a1 X.n1 X.c1, .slice X.a2 X.n2 X.c2, .slice X.a3 X.n3 X.c3, .slice X.a4 X.n4 X.c4, .slice X.a5 X.n5 X.c5, .int .i64 X.self] 28)
  have HB2 := Lib.hid (bthen hb1 hb2)
  have HM2 := Lib.hid ((h.below hb1).below hb2)
  have hsz : (w.alloc (.cells #[.int .i64 8, .int .i64 (k : Nat)] 39)).heap.size = w.heap.size + 1 := by simp
  have hnew := World.alloc_heap_new w (.cells #[.int .i64 8, .int .i64 (k : Nat)] 39)
  have HBX := Bx.new (w.alloc (.cells #[.int .i64 8, .int .i64 (k : Nat)] 39)) X 28
  have HNB : Hid (((w.alloc (.cells #[.int .i64 8, .int .i64 (k : Nat)] 39)).alloc (.cells #[.slice X.a1 X.n1 X.c1, .slice X.a2 X.n2 X.c2, .slice X.a3 X.n3 X.c3, .slice X.a4 X.n4 X.c4, .slice X.a5 X.n5 X.c5, .int .i64 X.self] 28)).heap[w.heap.size]? = some (.cells #[.int .i64 8, .int .i64 (k : Nat)] 39 (0, 0))) := Lib.hid ((hb2.block _ (by omega)).trans hnew)
  rw [hsz] at HBX
  have HBX := Lib.hid HBX
  have HLT := Lib.hid hlt
  have HXX := Lib.hid hx
  clear hb1 hb2 hnew h ht hlens hx hlen hlt hpl
  unfold ScX.v
  go_enter Tryz.func22, Tryz.ntmps22
  go_upto_region 12 with (fail)
  generalize hgn : w.heap.size = g at *
  generalize hw9 : (w.alloc (.cells #[.int .i64 8, .int .i64 (k : Nat)] 39)).alloc (.cells #[.slice X.a1 X.n1 X.c1, .slice X.a2 X.n2 X.c2, .slice X.a3 X.n3 X.c3, .slice X.a4 X.n4 X.c4, .slice X.a5 X.n5 X.c5, .int .i64 X.self] 28) = w9 at *
  clear hw9
  try rw [hsz]
  clear hsz
  obtain ⟨⟨s0, s1, s2, s3, s4, s5⟩, hz2⟩ := HBX.out
  have y0 : w9.cell? ⟨g, 0, none⟩ = some (.int .i64 8) := cell_of_heap HNB.out rfl
  have y1 : w9.cell? ⟨g, 1, none⟩ = some (.int .i64 (k : Nat)) := cell_of_heap HNB.out rfl
  obtain ⟨b, off, ha, hbz, hc⟩ := HM2.out.r1 (by have := HLT.out; omega)
  have d0 := hc k HLT.out
  rw [HXX.out] at d0
  have hns : X.n1 = N.scals.length := HM2.out.l1
  have hi9 : (k : Int) < (X.n1 : Int) := by rw [hns]; have := HLT.out; omega
  have hi0 : (0 : Int) ≤ (k : Int) := by omega
  have hz1 : g < w9.drew.heap.size := by show g < w9.heap.size; omega
  have hz3 : g + 1 < w9.drew.heap.size := hz2
  have hz4 : b < w9.drew.heap.size := hbz
  have HNM : Hid (NmR w9.drew X N) := Lib.hid (HM2.out.below (Below.refl _ w9).drew)
  have HCALL := refScalar_any X N x w9.drew HNM.out HLA.out
  rw [HQ.out] at HCALL
  unfold ScX.v at HCALL
  obtain ⟨a, haa⟩ : ∃ a, X.a1 = a := ⟨_, rfl⟩
  rw [haa] at s0 ha
  try rw [haa] at HCALL
  subst ha
  have HCALL := Lib.hid HCALL
  clear hc hns haa
  go_region_held3 (fun w' => w'.cell? ⟨g + 1, 0, none⟩ = some (.slice (some ⟨b, off, none⟩) X.n1 X.c1) ∧ w'.cell? ⟨g + 1, 1, none⟩ = some (.slice X.a2 X.n2 X.c2) ∧ w'.cell? ⟨g + 1, 2, none⟩ = some (.slice X.a3 X.n3 X.c3) ∧ w'.cell? ⟨g + 1, 3, none⟩ = some (.slice X.a4 X.n4 X.c4) ∧ w'.cell? ⟨g + 1, 4, none⟩ = some (.slice X.a5 X.n5 X.c5) ∧ w'.cell? ⟨g + 1, 5, none⟩ = some (.int .i64 X.self) ∧ w'.cell? ⟨g, 0, none⟩ = some (.int .i64 8) ∧ w'.cell? ⟨g, 1, none⟩ = some (.int .i64 (k : Nat)) ∧ w'.cell? ⟨b, off + k * 2, none⟩ = some (.string x))
    (first | exact ⟨s0, s1, s2, s3, s4, s5, y0, y1, d0⟩ | exact ⟨g0, g1, g2, g3, g4, g5, g6, g7, g8⟩ | go_keep)
    ((go_at_call 54; refine HCALL.out.mono ?_; rintro e w10 ⟨ho10, hb10⟩; subst ho10; have g0 := (hb10.cell (p := ⟨g + 1, 0, none⟩) hz3).trans s0; have g1 := (hb10.cell (p := ⟨g + 1, 1, none⟩) hz3).trans s1; have g2 := (hb10.cell (p := ⟨g + 1, 2, none⟩) hz3).trans s2; have g3 := (hb10.cell (p := ⟨g + 1, 3, none⟩) hz3).trans s3; have g4 := (hb10.cell (p := ⟨g + 1, 4, none⟩) hz3).trans s4; have g5 := (hb10.cell (p := ⟨g + 1, 5, none⟩) hz3).trans s5; have g6 := (hb10.cell (p := ⟨g, 0, none⟩) hz1).trans y0; have g7 := (hb10.cell (p := ⟨g, 1, none⟩) hz1).trans y1; have g8 := (hb10.cell (p := ⟨b, off + k * 2, none⟩) hz4).trans d0; have HB10 := Lib.hid hb10; clear hb10))
  have HB11 := Lib.hid (bthen (Below.refl _ w9).drew HB10.out)
  have HB12 : Hid (Below g w w10) := Lib.hid (HB2.out.trans (HB11.out.mono (by have := HB2.out.size; omega)))
  clear s0 s1 s2 s3 s4 s5 y0 y1 d0 g0 g1 g2 g3 g4 g5 g6 g7 g8 HCALL
  go_wp2
  refine bodyPost_ret (v := .tuple #[.string x, .bool (q == (k : Int))]) (by simp [results, Tryz.results22, go_sem]; try rfl) rfl ⟨?_, ?_⟩
  · rw [HR.out]
  · first | exact HB12.out | (rw [hgn]; exact HB12.out)
set_option maxRecDepth 20000 in
set_option maxHeartbeats 4000000 in
theorem rn0 (X : ScX) (N : Nm) (op n : Int) (w : World) (h2 : op ≠ 2) (h3 : op ≠ 3) (h4 : op ≠ 4) (h6 : op ≠ 6) (h7 : op ≠ 7) (h8 : op ≠ 8) : Calls Tryz.prog 22 #[.agg #[.int .i64 op, .int .i64 n], X.v] w (RnP w (rnB N (op, n))) := by
  have e : nmOf N op = none := by unfold nmOf; simp [h2, h3, h4, h6, h7, h8]
  have HR : Hid (rnB N (op, n) = (⟨#[97]⟩, true)) := Lib.hid (by unfold rnB; rw [e])
  unfold ScX.v
  go_enter Tryz.func22, Tryz.ntmps22
  go_wp2
  refine bodyPost_ret (v := .tuple #[.string ⟨#[97]⟩, .bool true]) (by simp [results, Tryz.results22, go_sem]) rfl ⟨?_, ?_⟩
  · rw [HR.out]
  · exact bthen (below_alloc1 _ _) (below_alloc1 _ _)
theorem refNm_any (X : ScX) (N : Nm) (nd : Int × Int) (w : World) (h : NmR w X N) (ht : There N nd) (hlens : ∀ op l, nmOf N op = some l → l.length ≤ 1000000) : Calls Tryz.prog 22 #[.agg #[.int .i64 nd.1, .int .i64 nd.2], X.v] w (RnP w (rnB N nd)) := by
  obtain ⟨op, n⟩ := nd
  by_cases h2 : op = 2
  · subst h2; exact rn2 X N n w h ht hlens
  by_cases h3 : op = 3
  · subst h3; exact rn3 X N n w h ht hlens
  by_cases h4 : op = 4
  · subst h4; exact rn4 X N n w h ht hlens
  by_cases h6 : op = 6
  · subst h6; exact rn6 X N n w h ht hlens
  by_cases h7 : op = 7
  · subst h7; exact rn7 X N n w h ht hlens
  by_cases h8 : op = 8
  · subst h8; exact rn8 X N n w h ht hlens
  exact rn0 X N op n w h2 h3 h4 h6 h7 h8
end Go.Proofs.YtmnigdphikoljaaGreatDoor.et
