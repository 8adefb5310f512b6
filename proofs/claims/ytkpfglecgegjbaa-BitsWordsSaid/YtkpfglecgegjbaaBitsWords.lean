/- The law BitsWords: how many digits of any number are 1, and which, as far as one goes, are the document's. No condition. -/
import Derived.Test.YtkpfglecgegjbaaEach
namespace Go.Proofs.Ytkpfglecgegjbaa.bitsWords
open Go.ChangeShapes Go.WideShapes Go.ChangeAt Go.RowKit Go.Shelf

attribute [local go_sem] Oper.semAt_some

/-- A bool lies there. -/
def BoolAt (W : World) (a : Addr) : Prop := ∃ b, W.cell? a = some (.bool b)
theorem pli_at (l : List Nat) {k : Nat} (h : k < l.length) : (pli l).getD k 0 = ((l.getD k 0 : Nat) : Int) := by
  simp [pli, List.getD, h]
theorem snoc_prefix {pre want : List Nat} {x : Nat} (h : pre <+: want) (hlt : pre.length < want.length) : pre ++ [x] <+: want ↔ want.getD pre.length 0 = x := by
  obtain ⟨r, rfl⟩ := h
  cases r with
  | nil => simp at hlt
  | cons y r =>
    rw [List.prefix_append_right_inj]
    simp [List.getD]
    exact eq_comm

set_option maxRecDepth 100000 in
set_option maxHeartbeats 4000000 in
theorem walk (u : Nat) (most : Int) (w : World) (hu : u < 18446744073709551616) (hm : 0 ≤ most ∧ most ≤ 255) :
    Calls Try.prog 7 #[.int .u64 u, .int .u8 most] w (LawPost w) := by
  have HU := Lib.hid hu
  obtain ⟨hm1, hm2⟩ := hm
  clear hu
  refine (callsIn_wide (n := 5)).1 ?_
  refine callsIn_of_wp_marks Try.func7 rfl trivial ?_ rfl
  simp only [Try.ntmps7, List.size_toArray, List.length_cons, List.length_nil, Nat.reduceAdd, Nat.reduceSub, Array.replicate_succ, Array.replicate_zero, List.push_toArray, List.append_toArray, List.nil_append, List.cons_append]
  gi_wp2_with fail
  refine ⟨trivial, ?_⟩
  refine (callsIn_wide.2 (each_any u _)).mono ?_
  rintro e w1 ⟨rfl, rfl⟩
  have hz : (((w.alloc (.cells #[.int .u8 most] 5)).alloc (.cells #[.bool false] 4)).alloc (.cells #[.int .u64 u] 51)).heap.size = w.heap.size + 3 := by simp
  have q1 := cell_new_l w (.int .u8 most) 5
  have q2 := cell_new_l (w.alloc (.cells #[.int .u8 most] 5)) (.bool false) 4
  have q3 := cell_new_l ((w.alloc (.cells #[.int .u8 most] 5)).alloc (.cells #[.bool false] 4)) (.int .u64 u) 51
  simp only [World.size_alloc] at q2 q3
  have m1 := cell_alloc_l (.cells #[.int .u64 u] 51) (cell_alloc_l (.cells #[.bool false] 4) q1.1)
  have m2 := cell_alloc_l (.cells #[.int .u64 u] 51) q2.1
  have m2f := frozen_alloc_l (.cells #[.int .u64 u] 51) q2.1 q2.2
  have m3 := q3.1
  have HB : Below w.heap.size w (((w.alloc (.cells #[.int .u8 most] 5)).alloc (.cells #[.bool false] 4)).alloc (.cells #[.int .u64 u] 51)) := (((Below.refl _ w).alloc (Nat.le_refl _) _).alloc (by simp) _).alloc (by simp; omega) _
  simp only [World.size_alloc]
  clear q1 q2 q3
  generalize ((w.alloc (.cells #[.int .u8 most] 5)).alloc (.cells #[.bool false] 4)).alloc (.cells #[.int .u64 u] 51) = w1 at *
  have hs := Try.seqNotNil
  gi_wp2_with fail
  clear hs
  refine ⟨trivial, ?_⟩
  refine (callsIn_wide.2 (refEach_any u w1 HU.out)).mono ?_
  rintro e w2 ⟨v, rfl, ho, hb2⟩
  obtain ⟨A, c, rfl, hA⟩ := ho.form
  rw [pli_length] at *
  gi_wp2_with fail
  have HW2 := HB.trans (hb2.mono HB.size)
  have n1 := hb2.cell (p := ⟨w.heap.size, 0, none⟩) (by simp; omega)
  have n2 := hb2.cell (p := ⟨w.heap.size + 1, 0, none⟩) (by simp; omega)
  have n2f := hb2.frozen (p := ⟨w.heap.size + 1, 0, none⟩) (by simp; omega)
  have n3 := hb2.cell (p := ⟨w.heap.size + 1 + 1, 0, none⟩) (by simp; omega)
  rw [m1] at n1
  rw [m2] at n2
  rw [m2f] at n2f
  rw [m3] at n3
  have hz2 : w.heap.size + 3 ≤ w2.heap.size := by have := hb2.size; omega
  clear m1 m2 m2f m3 hb2 HB ho hz
  obtain ⟨want, HWT⟩ : ∃ want, Hid (plc u 64 = want) := ⟨_, Lib.hid rfl⟩
  rw [HWT.out] at hA ⊢
  have k4 := cell_new_l w2 (.slice A want.length c) 37
  have k5 := cell_new_l (w2.alloc (.cells #[.slice A want.length c] 37)) (.int .i64 0) 3
  simp only [World.size_alloc] at k5
  have p1 := cell_alloc_l (.cells #[.int .i64 0] 3) (cell_alloc_l (.cells #[.slice A want.length c] 37) n1)
  have p2 := cell_alloc_l (.cells #[.int .i64 0] 3) (cell_alloc_l (.cells #[.slice A want.length c] 37) n2)
  have p2f := frozen_alloc_l (.cells #[.int .i64 0] 3) (cell_alloc_l (.cells #[.slice A want.length c] 37) n2) (frozen_alloc_l (.cells #[.slice A want.length c] 37) n2 n2f)
  have p3 := cell_alloc_l (.cells #[.int .i64 0] 3) (cell_alloc_l (.cells #[.slice A want.length c] 37) n3)
  have p4 := cell_alloc_l (.cells #[.int .i64 0] 3) k4.1
  have p5 := k5.1
  have p5f := k5.2
  have pA := (hA.alloc (.cells #[.slice A want.length c] 37)).alloc (.cells #[.int .i64 0] 3)
  have hB0 : Below w.heap.size w ((w2.alloc (.cells #[.slice A want.length c] 37)).alloc (.cells #[.int .i64 0] 3)) := HW2.trans (((Below.refl _ w2).alloc (by omega) _).alloc (by simp; omega) _)
  have hzW : ((w2.alloc (.cells #[.slice A want.length c] 37)).alloc (.cells #[.int .i64 0] 3)).heap.size = w2.heap.size + 2 := by simp
  have HAB : Hid (0 < want.length → ∀ ad, A = some ad → ad.block < w2.heap.size) := Lib.hid (fun hn ad ha => by
    obtain ⟨b, off, e, hb, _⟩ := hA (by rw [pli_length]; exact hn)
    rw [ha] at e
    injection e with e
    rw [e]
    exact hb)
  generalize (w2.alloc (.cells #[.slice A want.length c] 37)).alloc (.cells #[.int .i64 0] 3) = W0 at *
  clear n1 n2 n2f n3 k4 k5 hA HW2
  have hstops := each_stops Fence.wide (5 - 1) trivial rfl (by omega) (w.heap.size + 1 + 1) u HU.out (Below w.heap.size) W0 (by omega) p3
  rw [HWT.out] at hstops
  refine wpIn_rangeFunc_ownF (F := Fence.wide) (n := 5) rfl (by omega) (gf := 58) (lb := #[.pointer (some ⟨w.heap.size + 1 + 1, 0, none⟩)]) rfl trivial (enters_of Try.func58 (by kernel_rfl) rfl)
    hstops belowK_t (belowK_b (by omega)) (Below.refl _ _) (fun _ => rfl)
    (fun pre W => (pre <+: want ∧ (pre.length : Int) ≤ most % 64 ∧ W.cell? ⟨w.heap.size, 0, none⟩ = some (.int .u8 most) ∧ BoolAt W ⟨w.heap.size + 1, 0, none⟩ ∧ W.frozen? ⟨w.heap.size + 1, 0, none⟩ = false ∧ W.cell? ⟨w2.heap.size, 0, none⟩ = some (.slice A want.length c) ∧
      W.cell? ⟨w2.heap.size + 1, 0, none⟩ = some (.int .i64 (pre.length : Nat)) ∧ W.frozen? ⟨w2.heap.size + 1, 0, none⟩ = false ∧ IA W A (pli want)) ∧ Below w.heap.size w W)
    (fun cd pre W => (cd = .ret ∧ ¬ pre <+: want ∨ cd = .exit 0 ∧ pre <+: want ∧ (pre.length : Int) = most % 64 + 1 ∧ W.cell? ⟨w.heap.size, 0, none⟩ = some (.int .u8 most) ∧ BoolAt W ⟨w.heap.size + 1, 0, none⟩ ∧ W.frozen? ⟨w.heap.size + 1, 0, none⟩ = false ∧
      W.cell? ⟨w2.heap.size, 0, none⟩ = some (.slice A want.length c) ∧ W.cell? ⟨w2.heap.size + 1, 0, none⟩ = some (.int .i64 (pre.length : Nat))) ∧ Below w.heap.size w W)
    ?hI ?hIx ?h0 (fun x => { tmps := #[.int .u64 u, .int .u8 most, undef, .pointer (some ⟨w.heap.size, 0, none⟩), .pointer (some ⟨w.heap.size + 1, 0, none⟩), .func (.func 58) #[] #[.pointer (some ⟨w.heap.size + 1 + 1, 0, none⟩)], .pointer (some ⟨w2.heap.size, 0, none⟩), .pointer (some ⟨w2.heap.size + 1, 0, none⟩), .int .i64 x, .int .u64 u, .func (.func 58) #[] #[.pointer (some ⟨w.heap.size + 1 + 1, 0, none⟩)], .func (.func 58) #[] #[.pointer (some ⟨w.heap.size + 1 + 1, 0, none⟩)], .bool false, .int .u64 u, .slice A want.length c, .func (.func 58) #[] #[.pointer (some ⟨w.heap.size + 1 + 1, 0, none⟩)], .int .i64 x, undef, undef, undef, undef, undef, undef, undef, undef, undef, undef, undef, undef, undef, undef, undef, undef, undef, undef, undef, undef, undef, undef, undef, undef, undef, undef, undef, undef, undef, undef, undef, undef, undef, undef, undef, undef, undef, undef], defers := [] }) ?assign ?body ?done ?stop
  case hI =>
    refine OwnFrom.and (Own.from (fun s X Y row hs hg hr => ?_) _) (ownFrom_below (Nat.le_refl _) (by omega))
    obtain ⟨h1, h2, h3, ⟨b, h4⟩, h5, h6, h7, h8, h9⟩ := hs
    exact ⟨h1, h2, cell_kept h3 hg hr, ⟨b, cell_kept h4 hg hr⟩, (frozen_kept h4 hg hr).trans h5, cell_kept h6 hg hr, cell_kept h7 hg hr, (frozen_kept h7 hg hr).trans h8, ia_kept h9 hg hr⟩
  case hIx =>
    refine fun cd => OwnFrom.and (Own.from (fun s X Y row hs hg hr => ?_) _) (ownFrom_below (Nat.le_refl _) (by omega))
    rcases hs with h | ⟨h0, h1, h2, h3, ⟨b, h4⟩, h5, h6, h7⟩
    · exact .inl h
    · exact .inr ⟨h0, h1, h2, cell_kept h3 hg hr, ⟨b, cell_kept h4 hg hr⟩, (frozen_kept h4 hg hr).trans h5, cell_kept h6 hg hr, cell_kept h7 hg hr⟩
  case h0 => exact ⟨⟨List.nil_prefix, by simp; omega, p1, ⟨_, p2⟩, p2f, p4, p5, p5f, pA⟩, hB0⟩
  case assign =>
    intro l x W K hK
    gi_wp2
    exact hK
  case body =>
    rintro l pre x W ⟨⟨h1, h2, h3, ⟨b, h4⟩, h5, h6, h7, h8, h9⟩, hB⟩ hlen
    have hBz := hB.size
    by_cases hlt : pre.length < want.length
    · obtain ⟨bA, oA, rfl, hbA, hcA⟩ := h9 (by rw [pli_length]; omega)
      have hbl : bA < w2.heap.size := HAB.out (by omega) _ rfl
      have e1 := hcA pre.length (by rw [pli_length]; exact hlt)
      rw [pli_at want hlt] at e1
      have HPX : Hid (pre ++ [x] <+: want ↔ want.getD pre.length 0 = x) := Lib.hid (snoc_prefix h1 hlt)
      have H1 := Lib.hid h1
      have H9 := Lib.hid h9
      have HBB := Lib.hid hB
      generalize want.getD pre.length 0 = y at e1 HPX
      obtain ⟨k, HK⟩ : ∃ k, Hid (pre.length = k) := ⟨_, Lib.hid rfl⟩
      obtain ⟨L, HL⟩ : ∃ L, Hid (want.length = L) := ⟨_, Lib.hid rfl⟩
      have HKX : Hid ((pre ++ [x]).length = k + 1) := Lib.hid (by rw [List.length_append, HK.out]; rfl)
      rw [HK.out] at h2 hlen hlt e1 h7
      rw [HL.out] at hlt h6
      rw [HL.out]
      clear h1 h9 hB hcA
      by_cases hxy : y = x
      · subst hxy
        have HPX2 := Lib.hid (HPX.out.2 rfl)
        have o3 := World.cell?_setCell_other W ⟨w2.heap.size + 1, 0, none⟩ ⟨w.heap.size, 0, none⟩ (.int .i64 ((k : Int) + 1)) (by intro e; injection e with e; omega)
        have o4 := World.cell?_setCell_other W ⟨w2.heap.size + 1, 0, none⟩ ⟨w.heap.size + 1, 0, none⟩ (.int .i64 ((k : Int) + 1)) (by intro e; injection e with e; omega)
        have o6 := World.cell?_setCell_other W ⟨w2.heap.size + 1, 0, none⟩ ⟨w2.heap.size, 0, none⟩ (.int .i64 ((k : Int) + 1)) (by intro e; injection e with e; omega)
        have o7 := World.cell?_setCell_same' W ⟨w2.heap.size + 1, 0, none⟩ (.int .i64 ((k : Int) + 1)) (by rw [h7]; rfl)
        rw [h3] at o3
        rw [h4] at o4
        rw [h6] at o6
        have H9' : Hid (IA (W.setCell ⟨w2.heap.size + 1, 0, none⟩ (.int .i64 ((k : Int) + 1))) (some ⟨bA, oA, none⟩) (pli want)) := Lib.hid (fun hn => by
          obtain ⟨b', o', e, hb', hc'⟩ := H9.out hn
          injection e with e
          injection e with e e2
          subst e e2
          refine ⟨_, _, rfl, by simpa using hb', fun i hi => ?_⟩
          rw [World.cell?_setCell_other _ _ _ _ (by intro e; injection e with e; omega)]
          exact hc' i hi)
        have HKP : Hid (KeepsOthers W (W.setCell ⟨w2.heap.size + 1, 0, none⟩ (.int .i64 ((k : Int) + 1)))) := Lib.hid (KeepsOthers.setCell _ _ _)
        have HBW : Hid (Below w.heap.size W (W.setCell ⟨w2.heap.size + 1, 0, none⟩ (.int .i64 ((k : Int) + 1)))) := Lib.hid ((Below.refl _ _).setCell (p := ⟨w2.heap.size + 1, 0, none⟩) (by show w.heap.size ≤ w2.heap.size + 1; omega) _)
        have hm3 : most % 64 ≤ 63 := by omega
        have hm4 : 0 ≤ most % 64 := by omega
        have o5 : (W.setCell ⟨w2.heap.size + 1, 0, none⟩ (.int .i64 ((k : Int) + 1))).frozen? ⟨w.heap.size + 1, 0, none⟩ = false := by rw [World.frozen?_setCell]; exact h5
        have o8 : (W.setCell ⟨w2.heap.size + 1, 0, none⟩ (.int .i64 ((k : Int) + 1))).frozen? ⟨w2.heap.size + 1, 0, none⟩ = false := by rw [World.frozen?_setCell]; exact h8
        have HO3 := Lib.hid o3
        have HO4 := Lib.hid o4
        have HO5 := Lib.hid o5
        have HO6 := Lib.hid o6
        have HO7 := Lib.hid o7
        have HO8 := Lib.hid o8
        clear o4 o5 o6 o8
        by_cases hbr : (k : Int) + 1 ≤ most % 64
        · gi_wp2
          refine ⟨HKP.out, HBW.out, ⟨HPX2.out, by rw [HKX.out]; omega, HO3.out, ⟨_, HO4.out⟩, HO5.out, HO6.out, ?_, HO8.out, H9'.out⟩, HBB.out.trans HBW.out⟩
          rw [HKX.out]
          exact HO7.out
        · have hbr2 : most % 64 < (k : Int) + 1 := by omega
          gi_wp2
          refine ⟨HKP.out, .inr ⟨rfl, HPX2.out, by rw [HKX.out]; omega, HO3.out, ⟨_, HO4.out⟩, HO5.out, HO6.out, ?_⟩, HBB.out.trans HBW.out⟩
          rw [HKX.out]
          exact HO7.out
      · have hne : ((y : Int) != (x : Int)) = true := by simp; omega
        gi_wp2
        exact ⟨KeepsOthers.setCell _ _ _, .inl ⟨rfl, fun h => hxy (HPX.out.1 h)⟩, HBB.out.setCell (p := ⟨w.heap.size + 1, 0, none⟩) (by show w.heap.size ≤ w.heap.size + 1; omega) _⟩
    · have HNP : Hid (¬ pre ++ [x] <+: want) := Lib.hid (fun h => by
        have := h.length_le
        rw [List.length_append] at this
        simp at this
        omega)
      have HBB := Lib.hid hB
      have hge : want.length ≤ pre.length := by omega
      obtain ⟨k, HK⟩ : ∃ k, Hid (pre.length = k) := ⟨_, Lib.hid rfl⟩
      obtain ⟨L, HL⟩ : ∃ L, Hid (want.length = L) := ⟨_, Lib.hid rfl⟩
      rw [HK.out, HL.out] at hge
      rw [HK.out] at h7
      rw [HL.out] at h6
      rw [HL.out]
      clear hlt h1 h2 h9 hB hlen
      gi_wp2
      exact ⟨KeepsOthers.setCell _ _ _, .inl ⟨rfl, HNP.out⟩, HBB.out.setCell (p := ⟨w.heap.size + 1, 0, none⟩) (by show w.heap.size ≤ w.heap.size + 1; omega) _⟩
  case done =>
    rintro D ys W hD rfl ⟨⟨h1, h2, h3, ⟨b, h4⟩, h5, h6, h7, h8, h9⟩, hB⟩ hK
    have hmin : min (ys.length : Int) (most % 64 + 1) = (ys.length : Int) := by omega
    gi_wp2_with fail
    refine ⟨trivial, ?_⟩
    refine (callsIn_wide.2 (ones_any u W HU.out)).mono ?_
    rintro e w3 ⟨rfl, rfl⟩
    gi_wp2_with fail
    refine ⟨trivial, ?_⟩
    refine (callsIn_wide.2 (refOnes_any u W HU.out)).mono ?_
    rintro e w3 ⟨rfl, hb3⟩
    have hpp : ((pop u : Int) == (pop u : Int)) = true := by simp
    have hDl : D < W.heap.size := (Array.getElem?_eq_some_iff.1 hK).1
    have hBz := hB.size
    have hR1 : w.heap.size + 1 < W.heap.size := by rw [hzW] at hD; omega
    have r1 := (hb3.block D hDl).trans hK
    have r2 := (hb3.cell (p := ⟨w.heap.size + 1, 0, none⟩) hR1).trans h4
    have r3 := (hb3.frozen (p := ⟨w.heap.size + 1, 0, none⟩) hR1).trans h5
    have HB3 : Below w.heap.size w w3 := hB.trans (hb3.mono hBz)
    clear hb3 h4 h5
    gi_wp2_with fail
    refine ⟨trivial, ?_⟩
    refine (callsIn_wide.2 (awake_any w3)).mono ?_
    rintro e w4 ⟨rfl, hb4⟩
    have hw3 : D < w3.heap.size := (Array.getElem?_eq_some_iff.1 r1).1
    have s1 := (hb4.block D hw3).trans r1
    have s2 := (hb4.cell (p := ⟨w.heap.size + 1, 0, none⟩) (by show w.heap.size + 1 < w3.heap.size; omega)).trans r2
    have s3 := (hb4.frozen (p := ⟨w.heap.size + 1, 0, none⟩) (by show w.heap.size + 1 < w3.heap.size; omega)).trans r3
    have HB4 : Below w.heap.size w w4 := HB3.trans (hb4.mono HB3.size)
    clear hb4 r1 r2 r3
    gi_wp2_with fail
    have hK' := (KeepsOthers.setCell w4 ⟨w.heap.size + 1, 0, none⟩ (.bool true)).same D _ s1 rfl
    refine ⟨by simp, .inl ⟨_, _, rfl, run_takeDeferred hK', ?_⟩⟩
    have hc5 := cell_kept (World.cell?_setCell_same' w4 ⟨w.heap.size + 1, 0, none⟩ (.bool true) (by rw [s2]; rfl)) (grownBy_putObj' _ D (.deferred none)) (fun r e => by cases e; exact ⟨_, hK', rfl⟩)
    refine ⟨.bool true, ?_, rfl, (HB4.setCell (p := ⟨w.heap.size + 1, 0, none⟩) (by show w.heap.size ≤ w.heap.size + 1; omega) _).trans (belowK_b (w := w) (Nat.le_refl _) _ D _ _ (by omega) hK' rfl rfl)⟩
    simp [results, Try.f7, go_sem, hc5]
  case stop =>
    rintro D cd pre W hD hpre ⟨h, hB⟩ hK
    rcases h with ⟨_, h⟩ | ⟨rfl, h1, h2, h3, ⟨b, h4⟩, h5, h6, h7⟩
    · exact absurd hpre h
    have hlen := h1.length_le
    have HL2 := Lib.hid h2
    by_cases hw : (want.length : Int) ≤ most % 64 + 1
    case' pos =>
      have e1 : ((pre.length : Int) == (want.length : Int)) = true := by simp; omega
      have hw2 : min (want.length : Int) (most % 64 + 1) = (want.length : Int) := by omega
    case' neg =>
      have e1 : ((pre.length : Int) == (most % 64 + 1)) = true := by simp; omega
      have hw2 : min (want.length : Int) (most % 64 + 1) = (most % 64 + 1) := by omega
    all_goals
      clear h2
      gi_wp2_with fail
      refine ⟨trivial, ?_⟩
      refine (callsIn_wide.2 (ones_any u W HU.out)).mono ?_
      rintro e w3 ⟨rfl, rfl⟩
      gi_wp2_with fail
      refine ⟨trivial, ?_⟩
      refine (callsIn_wide.2 (refOnes_any u W HU.out)).mono ?_
      rintro e w3 ⟨rfl, hb3⟩
      have hpp : ((pop u : Int) == (pop u : Int)) = true := by simp
      have hDl : D < W.heap.size := (Array.getElem?_eq_some_iff.1 hK).1
      have hBz := hB.size
      have hR1 : w.heap.size + 1 < W.heap.size := by rw [hzW] at hD; omega
      have r1 := (hb3.block D hDl).trans hK
      have r2 := (hb3.cell (p := ⟨w.heap.size + 1, 0, none⟩) hR1).trans h4
      have r3 := (hb3.frozen (p := ⟨w.heap.size + 1, 0, none⟩) hR1).trans h5
      have HB3 : Below w.heap.size w w3 := hB.trans (hb3.mono hBz)
      clear hb3 h4 h5
      gi_wp2_with fail
      refine ⟨trivial, ?_⟩
      refine (callsIn_wide.2 (awake_any w3)).mono ?_
      rintro e w4 ⟨rfl, hb4⟩
      have hw3 : D < w3.heap.size := (Array.getElem?_eq_some_iff.1 r1).1
      have s1 := (hb4.block D hw3).trans r1
      have s2 := (hb4.cell (p := ⟨w.heap.size + 1, 0, none⟩) (by show w.heap.size + 1 < w3.heap.size; omega)).trans r2
      have s3 := (hb4.frozen (p := ⟨w.heap.size + 1, 0, none⟩) (by show w.heap.size + 1 < w3.heap.size; omega)).trans r3
      have HB4 : Below w.heap.size w w4 := HB3.trans (hb4.mono HB3.size)
      clear hb4 r1 r2 r3
      gi_wp2_with fail
      have hK' := (KeepsOthers.setCell w4 ⟨w.heap.size + 1, 0, none⟩ (.bool true)).same D _ s1 rfl
      refine ⟨by simp, .inl ⟨_, _, rfl, run_takeDeferred hK', ?_⟩⟩
      have hc5 := cell_kept (World.cell?_setCell_same' w4 ⟨w.heap.size + 1, 0, none⟩ (.bool true) (by rw [s2]; rfl)) (grownBy_putObj' _ D (.deferred none)) (fun r e => by cases e; exact ⟨_, hK', rfl⟩)
      refine ⟨.bool true, ?_, rfl, (HB4.setCell (p := ⟨w.heap.size + 1, 0, none⟩) (by show w.heap.size ≤ w.heap.size + 1; omega) _).trans (belowK_b (w := w) (Nat.le_refl _) _ D _ _ (by omega) hK' rfl rfl)⟩
      simp [results, Try.f7, go_sem, hc5]

theorem byInt (u most : Int) (w : World) (hu : 0 ≤ u ∧ u < 18446744073709551616) (hm : 0 ≤ most ∧ most ≤ 255) :
    Calls Try.prog 7 #[.int .u64 u, .int .u8 most] w (LawPost w) := by
  obtain ⟨k, rfl⟩ := Int.eq_ofNat_of_zero_le hu.1
  exact walk k most w (by omega) hm

theorem lifted (os : Os) (started : os.Started) (H : Type) (enc : TypeId × Value → H) :
    ReturnsInHanded {} Try.checked os 7 .any (Rows.bitsWordsSpec.pre6 enc Try.prog Try.f7 Rows.bitsWordsRow.domain false) (Rows.bitsWordsSpec.post enc Try.prog Try.f7 false true false false) := by
  refine law_lifted started [51, 5] rfl (by kernel_rfl) Try.func7 rfl (by decide +kernel) rfl (fun ds hl => by
    match ds, hl with
    | [_, _], _ => rfl) (ChangeSpec.witness6 (enc := enc) (C := Try.checked) false ⟨#[], #[.int .u64 0, .int .u8 0], []⟩ 8 (by kernel_rfl) (by kernel_rfl) (by kernel_rfl) (by kernel_rfl)) ?_
  intro W base args ds ps hval hA hlt hsz
  obtain ⟨v0, vs0, d0, ds0, p0, q0, hargs, rfl, rfl, h0, r0⟩ := trodAll_cons hA
  obtain ⟨v1, vs1, d1, ds1, p1, q1, rfl, rfl, rfl, h1, r1⟩ := trodAll_cons r0
  obtain ⟨rfl, rfl, rfl⟩ := trodAll_nil r1
  obtain rfl : args = #[v0, v1] := by cases args; simp_all
  obtain ⟨x0, rfl, rfl, rfl, w0⟩ := open_int Try.underlying51 (hval 0 51 v0 rfl rfl) h0
  obtain ⟨x1, rfl, rfl, rfl, w1⟩ := open_int Try.underlying5 (hval 1 5 v1 rfl rfl) h1
  exact byInt x0 x1 W (fitsU64 w0) (fitsU8 w1)

theorem over : Rows.bitsWordsRow.holds Try.pinned (OpenSpec.ofChange Rows.bitsWordsSpec) :=
  OpenClaim.holds_of_wide 7 Try.f7 rfl rfl rfl rfl rfl rfl rfl ⟨rfl, rfl, rfl, rfl, rfl⟩ rfl rfl rfl rfl rfl (by kernel_rfl) Try.func7 (by kernel_rfl)
    (of_decide_eq_true (by kernel_rfl)) (by unfold Func.isWrapper; first | (rw [if_pos (by decide +kernel)]; kernel_rfl) | (rw [if_neg (by decide +kernel)]; exact ⟨rfl, rfl⟩))
    (fun os started H enc _ => lifted os started H enc)

theorem proved : Rows.BitsWordsSaid := over
#print axioms proved
end Go.Proofs.Ytkpfglecgegjbaa.bitsWords
