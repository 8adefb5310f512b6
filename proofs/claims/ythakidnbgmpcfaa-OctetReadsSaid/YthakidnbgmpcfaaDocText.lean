/- The document's reading of a text. -/
import Derived.Test.YthakidnbgmpcfaaDocList
import Derived.Deep.RegionHeld3
namespace Go.Proofs.Ythakidnbgmpcfaa
open Go.ChangeShapes Go.WideShapes Go.ChangeAt Go.RowKit

def DText (A : Option Addr) (c : Nat) (l : List Int) (p : Nat) (M : Got (List Int)) (W : World) (en : Ending) (w' : World) : Prop :=
  en = .returned (.tuple #[rrV A l.length c (p + M.k) M.f, .string (strOfNums M.v)]) ∧ Below W.heap.size W w'
theorem txt_bad {l : List Int} {p : Nat} {e : Int} (h : (gotC l p e).f ≠ 0) : txt l p e = ⟨(gotC l p e).f, [], 0⟩ := by
  unfold txt gotC at *
  by_cases h0 : e = 0
  · rw [if_pos h0] at h ⊢
    rw [if_pos h0]
    unfold readT
    rw [if_pos h]
  · rw [if_neg h0, if_neg h0]
theorem txt_ok {l : List Int} {p : Nat} {e : Int} (h : (gotC l p e).f = 0) : txt l p e = ⟨0, (l.drop (p + (gotC l p e).k)).take (gotC l p e).v, (gotC l p e).k + (gotC l p e).v⟩ := by
  unfold txt gotC at *
  by_cases h0 : e = 0
  · rw [if_pos h0] at h ⊢
    rw [if_pos h0]
    unfold readT
    rw [if_neg (by rw [h]; decide), List.drop_drop]
  · rw [if_neg h0] at h
    exact absurd h h0
theorem ba_set {W : World} {A : Option Addr} {l : List Int} {g i : Nat} {v : Value} (h : BA W A l) (hg : 0 < l.length → ∀ a, A = some a → a.block ≠ g) : BA (W.setCell ⟨g, i, none⟩ v) A l := fun hn => by
  obtain ⟨b, off, e, hlt, hc⟩ := h hn
  exact ⟨b, off, e, by simpa using hlt, fun j hj => (World.cell?_setCell_other _ _ _ _ (by intro h1; injection h1 with h1; exact hg hn _ e h1.symm)).trans (hc j hj)⟩

set_option maxRecDepth 20000 in
set_option maxHeartbeats 4000000 in
theorem dtext_any {A : Option Addr} {c : Nat} {l : List Int} {p : Nat} {e : Int} (w : World) (hB : BA w A l) (hp : p ≤ l.length) (hu : U8 l) (hl : l.length ≤ 1048576) (hcap : l.length ≤ c) :
    Calls Try.prog 12 #[rrV A l.length c p e] w (DText A c l p (txt l p e) w) := by
  have HB := Lib.hid hB
  have HU := Lib.hid hu
  have HL := Lib.hid hl
  have HCB := Lib.hid (gotC_bad (l := l) (p := p) (e := e))
  have HCL := Lib.hid (gotC_le e hp)
  have HGB := Lib.hid (txt_bad (l := l) (p := p) (e := e))
  have HGO := Lib.hid (txt_ok (l := l) (p := p) (e := e))
  obtain ⟨M, HM⟩ : ∃ M, Hid (txt l p e = M) := ⟨_, Lib.hid rfl⟩
  rw [HM.out] at HGB HGO ⊢
  clear hB hu HM
  unfold rrV
  go_enter Try.func12, Try.ntmps12
  go_wp2_with fail
  have hx0 := World.alloc_heap_new w (.cells #[.slice A l.length c, .int .i64 p, .int .i64 e] 28)
  have hx1 := World.alloc_heap_new (w.alloc (.cells #[.slice A l.length c, .int .i64 p, .int .i64 e] 28)) (.cells #[.slice none 0 0, .int .i64 0, .int .i64 0] 28)
  rw [World.size_alloc] at hx1
  have hx0 := (Below.heap_alloc (w.alloc (.cells #[.slice A l.length c, .int .i64 p, .int .i64 e] 28)) (.cells #[.slice none 0 0, .int .i64 0, .int .i64 0] 28) w.heap.size (by simp)).trans hx0
  have hb2 : Below w.heap.size w ((w.alloc (.cells #[.slice A l.length c, .int .i64 p, .int .i64 e] 28)).alloc (.cells #[.slice none 0 0, .int .i64 0, .int .i64 0] 28)) := ((Below.refl _ _).alloc (Nat.le_refl _) _).alloc (by simp) _
  have hz2 : ((w.alloc (.cells #[.slice A l.length c, .int .i64 p, .int .i64 e] 28)).alloc (.cells #[.slice none 0 0, .int .i64 0, .int .i64 0] 28)).heap.size = w.heap.size + 2 := by simp
  generalize ((w.alloc (.cells #[.slice A l.length c, .int .i64 p, .int .i64 e] 28)).alloc (.cells #[.slice none 0 0, .int .i64 0, .int .i64 0] 28)) = w2 at *
  have HX0 := Lib.hid hx0
  have HX1 := Lib.hid hx1
  have HB2 := Lib.hid hb2
  have hz2' : w.heap.size + 2 ≤ w2.heap.size := by omega
  clear hx0 hx1 hb2 hz2
  refine (dmany_any (c := c) (e := e) _ (HB.out.below HB2.out) hp HU.out hl).mono ?_
  rintro en w3 ⟨rfl, hb3⟩
  have HX0 := Lib.hid ((hb3.block _ (by omega)).trans HX0.out)
  have HX1 := Lib.hid ((hb3.block _ (by omega)).trans HX1.out)
  have HB3 : Hid (Below w.heap.size w w3) := Lib.hid (HB2.out.trans (hb3.mono HB2.out.size))
  have hz3 : w.heap.size + 2 ≤ w3.heap.size := Nat.le_trans hz2' hb3.size
  generalize gotC l p e = G at HCB HCL HGB HGO
  obtain ⟨f, n, k⟩ := G
  have HCL2 : Hid (p + k + n ≤ l.length) := HCL
  have HGB : Hid (f ≠ 0 → M = ⟨f, [], 0⟩) := HGB
  have HGO : Hid (f = 0 → M = ⟨0, (l.drop (p + k)).take n, k + n⟩) := HGO
  have HK0 : Hid (f ≠ 0 → k = 0) := Lib.hid (fun h => (HCB.out h).2)
  simp only
  obtain ⟨q0, HQ0⟩ : ∃ q0, Hid (p + k = q0) := ⟨_, Lib.hid rfl⟩
  rw [HQ0.out] at HGO HCL2 ⊢
  unfold rrV
  clear hb3 HB2 hz2' HCB
  by_cases hf : f = 0
  · subst hf
    have hM := HGO.out rfl
    have HMM := Lib.hid hM
    have hqn := HCL2.out
    have hwr : IntKind.i64.wrap ((q0 : Int) + (n : Int)) = (q0 : Int) + (n : Int) := by rw [IntKind.wrap_i64]; omega
    have hsl0 := fun V => slice_bytes V A l.length c q0 n (by omega)
    have hcv0 := fun (V : World) (h : BA V A l) => conv_piece h c q0 n hqn hcap
    generalize (if c = q0 then A else A.map (fun x => x.add q0)) = A' at hsl0 hcv0
    generalize c - q0 = c' at hsl0 hcv0
    have HSL := Lib.hid hsl0
    have HCV := Lib.hid hcv0
    clear hM hsl0 hcv0 HGB HGO
    go_upto_region 4 with (fail)
    have hx := World.alloc_heap_new w3 (.cells #[.slice A l.length c, .int .i64 (q0 : Int), .int .i64 0] 28)
    have hb5 : Below w3.heap.size w3 (w3.alloc (.cells #[.slice A l.length c, .int .i64 (q0 : Int), .int .i64 0] 28)) := (Below.refl _ _).alloc (Nat.le_refl _) _
    generalize w3.alloc (.cells #[.slice A l.length c, .int .i64 (q0 : Int), .int .i64 0] 28) = w5 at *
    have HB5 : Hid (Below w.heap.size w w5) := Lib.hid (HB3.out.trans (hb5.mono (by omega)))
    obtain ⟨_, z1, _, _⟩ := cells_of hx
    obtain ⟨y0, _, _, _⟩ := cells_of ((hb5.block _ (by omega)).trans HX0.out)
    obtain ⟨r0, r1, r2, fr⟩ := cells_of ((hb5.block _ (by omega)).trans HX1.out)
    have g0 := fr 0
    have g1 := fr 1
    have g2 := fr 2
    have HBA5 : Hid (BA w5 A l) := Lib.hid (HB.out.below HB5.out)
    have HNE : Hid (0 < l.length → ∀ a, A = some a → a.block ≠ w.heap.size + 1) := Lib.hid (fun hn a e => by
      obtain ⟨b, off, e2, hb, _⟩ := HB.out hn
      rw [e] at e2
      injection e2 with e2
      subst e2
      show b ≠ _
      omega)
    have HS0 : Hid (w5.drew.cell? ⟨w.heap.size, 0, none⟩ = some (.slice A l.length c) ∧ w5.drew.cell? ⟨w3.heap.size, 1, none⟩ = some (.int .i64 (q0 : Int)) ∧ BA w5.drew A l) := Lib.hid ⟨y0, z1, HBA5.out⟩
    have HS1 : Hid ((((w5.drew.setCell ⟨w.heap.size + 1, 0, none⟩ (.slice A l.length c)).setCell ⟨w.heap.size + 1, 1, none⟩ (.int .i64 ((q0 : Int) + (n : Int)))).setCell ⟨w.heap.size + 1, 2, none⟩ (.int .i64 0)).cell? ⟨w.heap.size, 0, none⟩ = some (.slice A l.length c) ∧ (((w5.drew.setCell ⟨w.heap.size + 1, 0, none⟩ (.slice A l.length c)).setCell ⟨w.heap.size + 1, 1, none⟩ (.int .i64 ((q0 : Int) + (n : Int)))).setCell ⟨w.heap.size + 1, 2, none⟩ (.int .i64 0)).cell? ⟨w3.heap.size, 1, none⟩ = some (.int .i64 (q0 : Int)) ∧ BA (((w5.drew.setCell ⟨w.heap.size + 1, 0, none⟩ (.slice A l.length c)).setCell ⟨w.heap.size + 1, 1, none⟩ (.int .i64 ((q0 : Int) + (n : Int)))).setCell ⟨w.heap.size + 1, 2, none⟩ (.int .i64 0)) A l) := Lib.hid (by
      refine ⟨?_, ?_, ba_set (ba_set (ba_set HBA5.out HNE.out) HNE.out) HNE.out⟩
      · refine (World.cell?_of_block ((Below.heap_setCell _ _ _ _ (by simp)).trans ((Below.heap_setCell _ _ _ _ (by simp)).trans (Below.heap_setCell _ _ _ _ (by simp))))).trans HS0.out.1
      · refine (World.cell?_of_block ((Below.heap_setCell _ _ _ _ (by simp; omega)).trans ((Below.heap_setCell _ _ _ _ (by simp; omega)).trans (Below.heap_setCell _ _ _ _ (by simp; omega))))).trans HS0.out.2.1)
    have HB9 : Hid (Below w.heap.size w (((w5.drew.setCell ⟨w.heap.size + 1, 0, none⟩ (.slice A l.length c)).setCell ⟨w.heap.size + 1, 1, none⟩ (.int .i64 ((q0 : Int) + (n : Int)))).setCell ⟨w.heap.size + 1, 2, none⟩ (.int .i64 0))) := Lib.hid (((HB5.out.drew.setCell (show w.heap.size ≤ (⟨w.heap.size + 1, 0, none⟩ : Addr).block from Nat.le_succ _) _).setCell (show w.heap.size ≤ (⟨w.heap.size + 1, 1, none⟩ : Addr).block from Nat.le_succ _) _).setCell (show w.heap.size ≤ (⟨w.heap.size + 1, 2, none⟩ : Addr).block from Nat.le_succ _) _)
    clear y0 z1 fr hb5 hx
    refine wp_region_held_drew (S := (fun W => W.cell? ⟨w.heap.size, 0, none⟩ = some (.slice A l.length c) ∧ W.cell? ⟨w3.heap.size, 1, none⟩ = some (.int .i64 (q0 : Int)) ∧ BA W A l)) (by kernel_rfl) HS0.out ?_
    intro hS0
    clear hS0
    simp only [Array.replicate, List.replicate]
    refine wpAnyH_take (i := 0) (oi := ⟨some 15, _, _, _, _, _⟩) (v := .pointer (some ⟨w.heap.size, 0, none⟩)) rfl (by kernel_rfl) (by kernel_rfl) (by kernel_rfl) (fun _ _ _ h => h) (Or.inl ⟨by kernel_rfl, fun w9 hS => ?_⟩) HS0.out ?_
    · clear hS
      go_simp
    try simp only [Act.put, List.setIfInBounds_toArray, List.set_cons_zero, List.set_cons_succ]
    refine wpAnyH_take (i := 1) (oi := ⟨some 16, _, _, _, _, _⟩) (v := .slice A l.length c) rfl (by kernel_rfl) (by kernel_rfl) (by kernel_rfl) (fun _ _ _ h => h) (Or.inl ⟨by kernel_rfl, fun w9 hS => ?_⟩) HS0.out ?_
    · obtain ⟨s0, s1, sB⟩ := hS
      go_simp
    try simp only [Act.put, List.setIfInBounds_toArray, List.set_cons_zero, List.set_cons_succ]
    refine wpAnyH_take (i := 2) (oi := ⟨some 17, _, _, _, _, _⟩) (v := .pointer (some ⟨w3.heap.size, 1, none⟩)) rfl (by kernel_rfl) (by kernel_rfl) (by kernel_rfl) (fun _ _ _ h => h) (Or.inl ⟨by kernel_rfl, fun w9 hS => ?_⟩) HS0.out ?_
    · clear hS
      go_simp
    try simp only [Act.put, List.setIfInBounds_toArray, List.set_cons_zero, List.set_cons_succ]
    refine wpAnyH_take (i := 3) (oi := ⟨some 18, _, _, _, _, _⟩) (v := .int .i64 (q0 : Int)) rfl (by kernel_rfl) (by kernel_rfl) (by kernel_rfl) (fun _ _ _ h => h) (Or.inl ⟨by kernel_rfl, fun w9 hS => ?_⟩) HS0.out ?_
    · obtain ⟨s0, s1, sB⟩ := hS
      go_simp
    try simp only [Act.put, List.setIfInBounds_toArray, List.set_cons_zero, List.set_cons_succ]
    refine wpAnyH_take (i := 4) (oi := ⟨some 19, _, _, _, _, _⟩) (v := .int .i64 (n : Int)) rfl (by kernel_rfl) (by kernel_rfl) (by kernel_rfl) (fun _ _ _ h => h) (Or.inl ⟨by kernel_rfl, fun w9 hS => ?_⟩) HS0.out ?_
    · clear hS
      go_simp
    try simp only [Act.put, List.setIfInBounds_toArray, List.set_cons_zero, List.set_cons_succ]
    refine wpAnyH_take (i := 5) (oi := ⟨some 20, _, _, _, _, _⟩) (v := .int .i64 ((q0 : Int) + (n : Int))) rfl (by kernel_rfl) (by kernel_rfl) (by kernel_rfl) (fun _ _ _ h => h) (Or.inl ⟨by kernel_rfl, fun w9 hS => ?_⟩) HS0.out ?_
    · clear hS
      go_simp
    try simp only [Act.put, List.setIfInBounds_toArray, List.set_cons_zero, List.set_cons_succ]
    refine wpAnyH_take (i := 6) (oi := ⟨some 21, _, _, _, _, _⟩) (v := .agg #[.slice A l.length c, .int .i64 ((q0 : Int) + (n : Int)), .int .i64 0]) rfl (by kernel_rfl) (by kernel_rfl) (by kernel_rfl) (fun _ _ _ h => h) (Or.inl ⟨by kernel_rfl, fun w9 hS => ?_⟩) HS0.out ?_
    · clear hS
      go_simp
    try simp only [Act.put, List.setIfInBounds_toArray, List.set_cons_zero, List.set_cons_succ]
    refine wpAnyH_take (i := 7) (oi := ⟨some 22, _, _, _, _, _⟩) (v := .pointer (some ⟨w.heap.size, 0, none⟩)) rfl (by kernel_rfl) (by kernel_rfl) (by kernel_rfl) (fun _ _ _ h => h) (Or.inl ⟨by kernel_rfl, fun w9 hS => ?_⟩) HS0.out ?_
    · clear hS
      go_simp
    try simp only [Act.put, List.setIfInBounds_toArray, List.set_cons_zero, List.set_cons_succ]
    refine wpAnyH_take (i := 8) (oi := ⟨some 23, _, _, _, _, _⟩) (v := .slice A l.length c) rfl (by kernel_rfl) (by kernel_rfl) (by kernel_rfl) (fun _ _ _ h => h) (Or.inl ⟨by kernel_rfl, fun w9 hS => ?_⟩) HS0.out ?_
    · obtain ⟨s0, s1, sB⟩ := hS
      go_simp
    try simp only [Act.put, List.setIfInBounds_toArray, List.set_cons_zero, List.set_cons_succ]
    refine wpAnyH_take (i := 9) (oi := ⟨some 24, _, _, _, _, _⟩) (v := .pointer (some ⟨w3.heap.size, 1, none⟩)) rfl (by kernel_rfl) (by kernel_rfl) (by kernel_rfl) (fun _ _ _ h => h) (Or.inl ⟨by kernel_rfl, fun w9 hS => ?_⟩) HS0.out ?_
    · clear hS
      go_simp
    try simp only [Act.put, List.setIfInBounds_toArray, List.set_cons_zero, List.set_cons_succ]
    refine wpAnyH_take (i := 10) (oi := ⟨some 25, _, _, _, _, _⟩) (v := .int .i64 (q0 : Int)) rfl (by kernel_rfl) (by kernel_rfl) (by kernel_rfl) (fun _ _ _ h => h) (Or.inl ⟨by kernel_rfl, fun w9 hS => ?_⟩) HS0.out ?_
    · obtain ⟨s0, s1, sB⟩ := hS
      go_simp
    try simp only [Act.put, List.setIfInBounds_toArray, List.set_cons_zero, List.set_cons_succ]
    refine wpAnyH_take (i := 11) (oi := ⟨some 26, _, _, _, _, _⟩) (v := .pointer (some ⟨w3.heap.size, 1, none⟩)) rfl (by kernel_rfl) (by kernel_rfl) (by kernel_rfl) (fun _ _ _ h => h) (Or.inl ⟨by kernel_rfl, fun w9 hS => ?_⟩) HS0.out ?_
    · clear hS
      go_simp
    try simp only [Act.put, List.setIfInBounds_toArray, List.set_cons_zero, List.set_cons_succ]
    refine wpAnyH_take (i := 12) (oi := ⟨some 27, _, _, _, _, _⟩) (v := .int .i64 (q0 : Int)) rfl (by kernel_rfl) (by kernel_rfl) (by kernel_rfl) (fun _ _ _ h => h) (Or.inl ⟨by kernel_rfl, fun w9 hS => ?_⟩) HS0.out ?_
    · obtain ⟨s0, s1, sB⟩ := hS
      go_simp
    try simp only [Act.put, List.setIfInBounds_toArray, List.set_cons_zero, List.set_cons_succ]
    refine wpAnyH_take (i := 13) (oi := ⟨some 28, _, _, _, _, _⟩) (v := .int .i64 (n : Int)) rfl (by kernel_rfl) (by kernel_rfl) (by kernel_rfl) (fun _ _ _ h => h) (Or.inl ⟨by kernel_rfl, fun w9 hS => ?_⟩) HS0.out ?_
    · clear hS
      go_simp
    try simp only [Act.put, List.setIfInBounds_toArray, List.set_cons_zero, List.set_cons_succ]
    refine wpAnyH_take (i := 14) (oi := ⟨some 29, _, _, _, _, _⟩) (v := .int .i64 ((q0 : Int) + (n : Int))) rfl (by kernel_rfl) (by kernel_rfl) (by kernel_rfl) (fun _ _ _ h => h) (Or.inl ⟨by kernel_rfl, fun w9 hS => ?_⟩) HS0.out ?_
    · clear hS
      go_simp
    try simp only [Act.put, List.setIfInBounds_toArray, List.set_cons_zero, List.set_cons_succ]
    refine wpAnyH_take (i := 15) (oi := ⟨some 30, _, _, _, _, _⟩) (v := .slice A' n c') rfl (by kernel_rfl) (by kernel_rfl) (by kernel_rfl) (fun _ _ _ h => h) (Or.inl ⟨by kernel_rfl, fun w9 hS => ?_⟩) HS0.out ?_
    · clear hS
      have hsl := HSL.out w9
      go_simp
    try simp only [Act.put, List.setIfInBounds_toArray, List.set_cons_zero, List.set_cons_succ]
    refine wpAnyH_take (i := 16) (oi := ⟨some 31, _, _, _, _, _⟩) (v := .string (strOfNums ((l.drop q0).take n))) rfl (by kernel_rfl) (by kernel_rfl) (by kernel_rfl) (fun _ _ _ h => h) (Or.inl ⟨by kernel_rfl, fun w9 hS => ?_⟩) HS0.out ?_
    · obtain ⟨s0, s1, sB⟩ := hS
      have hcv := HCV.out w9 sB
      go_simp
    try simp only [Act.put, List.setIfInBounds_toArray, List.set_cons_zero, List.set_cons_succ]
    refine wpAnyH_ready (rs := [17]) (by kernel_rfl) (by simp) ?_
    refine AllReadyH.cons (o := ⟨none, _, _, _, _, _⟩) rfl (fun K hK => ?_) AllReadyH.nil
    go_simp
    refine hK.out _ _ HS1.out (fun _ => ?_)
    clear hK K
    try dsimp only
    refine wpAnyH_take (i := 18) (oi := ⟨some 3, _, _, _, _, _⟩) (v := .string (strOfNums ((l.drop q0).take n))) rfl (by kernel_rfl) (by kernel_rfl) (by kernel_rfl) (fun _ _ _ h => h) (Or.inl ⟨by kernel_rfl, fun w9 hS => ?_⟩) HS1.out ?_
    · clear hS
      go_simp
    try simp only [Act.put, List.setIfInBounds_toArray, List.set_cons_zero, List.set_cons_succ]
    refine wpAnyH_done (by kernel_rfl) ?_ _
    go_wp2_with fail
    (try simp only [Exit.inBlock, Exit.then])
    have hM := HMM.out
    subst hM
    refine bodyPost_ret (v := .tuple #[.agg #[.slice A l.length c, .int .i64 ((q0 : Int) + (n : Int)), .int .i64 0], .string (strOfNums ((l.drop q0).take n))]) ?_ rfl ⟨?_, HB9.out⟩
    · rw [results_cell_tmp rfl]; go_simp
    · have hq := HQ0.out
      simp only [rrV]
      rw [show ((p + (k + n) : Nat) : Int) = (q0 : Int) + (n : Int) by omega]
  · have HMM := Lib.hid (HGB.out hf)
    have hf2 : (f != 0) = true := by simpa using hf
    obtain ⟨r0, r1, r2, fr⟩ := cells_of HX1.out
    have g0 := fr 0
    have g1 := fr 1
    have g2 := fr 2
    have hzz : w.heap.size + 1 < w3.heap.size := by omega
    have hzz2 : ¬ w.heap.size + 1 = w3.heap.size := by omega
    clear fr
    go_wp2_with fail
    (try simp only [Exit.inBlock, Exit.then])
    have hM := HMM.out
    subst hM
    have hk := HK0.out hf
    have hq := HQ0.out
    refine bodyPost_ret (v := .tuple #[.agg #[.slice A l.length c, .int .i64 (q0 : Int), .int .i64 f], .string ⟨#[]⟩]) ?_ rfl ⟨?_, ?_⟩
    · rw [results_cell_tmp rfl]; go_simp
    · simp only [rrV]
      rw [show ((p + 0 : Nat) : Int) = (q0 : Int) by omega]
      rfl
    · (repeat' (first | exact HB3.out | refine Below.drew ?_ | refine Below.setCell ?_ (by simp <;> omega) _ | refine Below.alloc ?_ (by simp <;> omega) _))
end Go.Proofs.Ythakidnbgmpcfaa
