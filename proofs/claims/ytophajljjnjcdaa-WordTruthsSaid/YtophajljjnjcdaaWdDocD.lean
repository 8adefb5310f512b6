/- The document's two. -/
import Derived.Test.YtophajljjnjcdaaWdDocC
namespace Go.Proofs.Ytophajljjnjcdaa.wd
open Go.ChangeShapes Go.WideShapes Go.ChangeAt Go.RowKit Go.Deep sr lt nf

theorem calls_args {P : _} {f : _} {args args' : Array Value} {w : World} {Q : Ending → World → Prop} (h : args' = args) (hc : Calls P f args w Q) : Calls P f args' w Q := by
  subst h
  exact hc
set_option maxRecDepth 20000 in
set_option maxHeartbeats 8000000 in
theorem refTwo_any (x : WX) (sets : List Int) (op N : Int) (a b : List Bool) (A B : Option Addr) (c d n : Nat) (w : World) (h1 : x.n ≤ 1000) (h2 : x.m ≤ 1000) (hn : x.n + x.m = n) (h0 : 0 < x.m) (hsl : sets.length = n) (hop : op = 5 ∨ op = 6 ∨ op = 7 ∨ op = 9 ∨ op = 10) (ha : a.length = n) (hA : BL w A a) (hb : b.length = n) (hB : BL w B b) :
    Calls Try.prog 34 #[.int .i64 op, x.v, .slice A n c, .slice B n d] w (OwnN w n (plF (op, N) sets x.n a b)) := by
  have hn2 : n ≤ 2000 := by omega
  have hn0 : 0 < n := by omega
  have HNX := Lib.hid (fun k W (hk : k < n) => refNext_any x k n W h1 h2 hn h0 hk)
  have HLS := Lib.hid (fun a b A B c d W (ha : a.length = n) (hb : b.length = n) (hA : BL W A a) (hB : BL W B b) => refLeast_any x a b A B c d n W h1 h2 hn h0 ha hb hA hB)
  have HNO := Lib.hid (fun a A c W (ha : a.length = n) (hA : BL W A a) => refNot_any a A c n W ha hn2 hA hn0)
  have HFI := Lib.hid (fun v W => refFill_any n v W hn2)
  obtain ⟨P, s, pc, Q, q, qc⟩ := x
  unfold WX.v at HNX HLS ⊢
  dsimp only at h1 h2 hn h0 HNX HLS ⊢
  have hsn : s < n := by omega
  obtain ⟨w1, HW1, HB1, HBX⟩ : ∃ w1, w.alloc (.cells #[.slice P s pc, .slice Q q qc] 24) = w1 ∧ Hid (Below w.heap.size w w1) ∧ Hid (∀ W, Below w1.heap.size w1 W → W.cell? ⟨w.heap.size, 0, none⟩ = some (.slice P s pc) ∧ W.cell? ⟨w.heap.size, 1, none⟩ = some (.slice Q q qc)) := by
    have e : (w.alloc (.cells #[.slice P s pc, .slice Q q qc] 24)).heap.size = w.heap.size + 1 := by simp
    exact ⟨_, rfl, Lib.hid (below_one _ _), Lib.hid (fun W h => ⟨(h.cell (p := ⟨w.heap.size, 0, none⟩) (by show w.heap.size < _; omega)).trans (World.cell?_alloc_at _ _ _ _ (by simp)), (h.cell (p := ⟨w.heap.size, 1, none⟩) (by show w.heap.size < _; omega)).trans (World.cell?_alloc_at _ _ _ _ (by simp))⟩)⟩
  have HWZ : Hid (Below w1.heap.size w1 w1) := Lib.hid (Below.refl _ _)
  obtain ⟨L, HLE⟩ : ∃ L, Hid (L = plF (op, N) sets s a b) := ⟨_, Lib.hid rfl⟩
  rw [← HLE.out]
  have HAB : Hid (∀ W, Below w1.heap.size w1 W → BL W A a ∧ BL W B b) := Lib.hid (fun W h => ⟨hA.below (HB1.out.trans (h.mono HB1.out.size)), hB.below (HB1.out.trans (h.mono HB1.out.size))⟩)
  have HAL := Lib.hid ha
  have HBL := Lib.hid hb
  have HSL := Lib.hid hsl
  have hop2 : (op = 5 ∨ op = 6 ∨ op = 7) ∨ op = 9 ∨ op = 10 := by omega
  clear hn hA ha hB hb hsl hop
  go_enter Try.func34, Try.ntmps34
  go_upto_region 1 with (fail)
  clear HW1
  obtain ⟨g1, g2⟩ := HBX.out w1 HWZ.out
  rcases hop2 with hop | rfl | rfl
  · have hne : op ≠ 9 ∧ op ≠ 10 ∧ op ≠ 11 ∧ op ≠ 12 := by omega
    have HLL : Hid (L.length = n) := Lib.hid (by rw [HLE.out, pl_one hne]; simp [HSL.out])
    have HLG : Hid (∀ k, k < n → L.getD k false = oneF (op, N) sets s a b k) := Lib.hid (fun k hk => by
      rw [HLE.out, pl_one hne, HSL.out]
      simp [List.getD, hk])
    have hmk1 := wd_mk n (by omega) w1
    have h9 : ¬ op = 9 := hne.1
    have h10 : ¬ op = 10 := hne.2.1
    clear HNX HLS HFI HNO HLE hne
    obtain ⟨w2, HW2, HB2, HR2⟩ : ∃ w2, w1.alloc (.cells (madeCells #[.bool false] n) 4) = w2 ∧ Hid (Below w1.heap.size w1 w2) ∧ Hid (w2.rowIs w1.heap.size 4 n (fun _ => .bool false)) :=
      ⟨_, rfl, Lib.hid (below_one _ _), Lib.hid (World.rowIs_made w1 _ n _)⟩
    rw [HW2] at hmk1
    obtain ⟨g, HGG, hg⟩ : ∃ g, Hid (g = w1.heap.size) ∧ w1.heap.size = g := ⟨_, Lib.hid rfl, rfl⟩
    rw [hg] at hmk1 HR2
    clear HW2 hg
    go_wp2
    clear hmk1
    go_loopw [10] (fun iv wr => ∃ i : Nat, i ≤ n ∧ iv = .int .i64 i ∧ Hid (wr.rowIs g 4 n (fstB L i)) ∧ Hid (Below w1.heap.size w1 wr)) (fun iv _ => n - (intOf iv).toNat)
    case atStart => exact ⟨0, Nat.zero_le _, rfl, Lib.hid (HR2.out.congr (fun j _ => by simp [fstB])), HB2⟩
    case round =>
      clear HR2 HB2 g1 g2 h9 h10
      obtain ⟨i, hi, rfl, HR, HB⟩ := hrel
      by_cases hlt : i < n
      · have hlti : (i : Int) < n := by omega
        obtain ⟨hA, hB⟩ := HAB.out wr HB.out
        obtain ⟨ba, oa, rfl, _, hca⟩ := hA (by rw [HAL.out]; omega)
        obtain ⟨bb, ob, rfl, _, hcb⟩ := hB (by rw [HBL.out]; omega)
        have c1 := hca i (by rw [HAL.out]; exact hlt)
        have c2 := hcb i (by rw [HBL.out]; exact hlt)
        have hf := HLG.out i hlt
        obtain ⟨y, HY⟩ : ∃ y, Hid (a.getD i false = y) := ⟨_, Lib.hid rfl⟩
        obtain ⟨z, HZ⟩ : ∃ z, Hid (b.getD i false = z) := ⟨_, Lib.hid rfl⟩
        rw [HY.out] at c1
        rw [HZ.out] at c2
        unfold oneF at hf
        rw [HY.out, HZ.out] at hf
        obtain ⟨v, HV⟩ : ∃ v, Hid (L.getD i false = v) := ⟨_, Lib.hid rfl⟩
        rw [HV.out] at hf
        have d1 := HR.out.cell hlt
        have f1 := HR.out.frozen i
        generalize fstB L i i = u at d1
        have hr2 := Lib.hid (fstB_step HR.out HV.out.symm)
        have hb2 : Hid (Below w1.heap.size w1 (wr.setCell ⟨g, i, none⟩ (.bool v))) := Lib.hid (HB.out.setCell (show w1.heap.size ≤ (⟨g, i, none⟩ : Addr).block from Nat.le_of_eq HGG.out.symm) _)
        have HF := Lib.hid hf
        clear hf hca hcb hA hB
        rcases hop with rfl | rfl | rfl
        all_goals
          cases y <;> cases z <;>
          · have hv := HF.out
            simp at hv
            subst hv
            clear HF
            go_wp2
            go_roundw
            case rel => exact ⟨i + 1, by omega, by go_num, hr2, hb2⟩
            case measure => simp [intOf]; omega
      · obtain rfl : i = n := by omega
        go_wp2
        go_ret
        exact ⟨HLL.out, g, rfl, by have := HB1.out.size; have := HGG.out; omega, fstB_full HR.out, HB1.out.trans (HB.out.mono HB1.out.size)⟩
  · have HLE2 : Hid (L = untF a b s) := HLE
    have HLE := HLE2
    have HLL : Hid (L.length = n) := Lib.hid (by rw [HLE.out, unt_len]; exact HAL.out)
    clear HNX HNO HFI HLE2
    go_wp2_with fail
    refine (HLS.out a b A B c d w1 HAL.out HBL.out (HAB.out w1 HWZ.out).1 (HAB.out w1 HWZ.out).2).mono ?_
    rintro e5 w5 ⟨hl5, p5, rfl, hp5, hr5, hb5⟩
    have HB5 : Hid (Below w1.heap.size w1 w5) := Lib.hid hb5
    have HO5 := Lib.hid hr5
    have HP5 : Hid (w1.heap.size ≤ p5) := Lib.hid hp5
    clear hl5 hp5 hr5 hb5
    go_wp2
    go_ret
    exact ⟨HLL.out, p5, rfl, by have := HB1.out.size; have := HP5.out; omega, by have := HO5.out; rw [HLE.out]; exact this, HB1.out.trans (HB5.out.mono HB1.out.size)⟩
  · have HLE2 : Hid (L = flipF (untF (flipF a) (flipF b) s)) := HLE
    have HLE := HLE2
    have HLL : Hid (L.length = n) := Lib.hid (by rw [HLE.out, flip_len, unt_len, flip_len]; exact HAL.out)
    have HNA := Lib.hid (fun W (hW : Below w1.heap.size w1 W) => HNO.out a A c W HAL.out (HAB.out W hW).1)
    have HNB := Lib.hid (fun W (hW : Below w1.heap.size w1 W) => HNO.out b B d W HBL.out (HAB.out W hW).2)
    clear HNX HLE2 HFI
    go_wp2_with fail
    clear g1 g2
    obtain ⟨g1, g2⟩ := HBX.out w1 HWZ.out
    go_region_held3 (fun W => W.cell? ⟨w.heap.size, 0, none⟩ = some (.slice P s pc) ∧ W.cell? ⟨w.heap.size, 1, none⟩ = some (.slice Q q qc))
      (first | exact HBX.out _ HWZ.out | exact HBX.out _ HWZ.out.drew | exact HBX.out _ HB5.out | exact HBX.out _ HB6.out | exact HBX.out _ HB7.out | exact HBX.out _ HB8.out | go_keep)
      (first
        | (go_at_call 50; refine (HNO.out _ (some ⟨p7, 0, none⟩) n w7 HL7.out HR7.out).mono ?_; rintro e8 w8 ⟨hl8, p8, rfl, hp8, hr8, hb8⟩; have HB8 : Hid (Below w1.heap.size w1 w8) := Lib.hid (by first | exact HB7.out.trans (hb8.mono HB7.out.size)); have HR8 := Lib.hid (bl_row hl8 hr8); have HO8 := Lib.hid hr8; have HL8 := Lib.hid hl8; have HP8 : Hid (w1.heap.size ≤ p8) := Lib.hid (Nat.le_trans (by first | exact Nat.le_refl _ | exact HWZ.out.drew.size | exact HB7.out.size) hp8); clear hb8 hr8 hp8 hl8)
        | (go_at_call 51; refine (HLS.out (flipF a) (flipF b) (some ⟨p5, 0, none⟩) (some ⟨p6, 0, none⟩) n n _ HL5.out HL6.out (by first | exact HR5.out | exact HR5.out.below HD6.out) (by first | exact HR6.out | exact HR6.out.below HD5.out)).mono ?_; rintro e7 w7 ⟨hl7, p7, rfl, hp7, hr7, hb7⟩; have HB7 : Hid (Below w1.heap.size w1 w7) := Lib.hid (by first | exact HB6.out.trans (hb7.mono HB6.out.size) | exact HB5.out.trans (hb7.mono HB5.out.size)); have HR7 := Lib.hid (bl_row hl7 hr7); have HO7 := Lib.hid hr7; have HL7 := Lib.hid hl7; have HP7 : Hid (w1.heap.size ≤ p7) := Lib.hid (Nat.le_trans (by first | exact Nat.le_refl _ | exact HWZ.out.drew.size | exact HB6.out.size | exact HB5.out.size) hp7); clear hb7 hr7 hp7 hl7)
        | (go_at_call 50; refine calls_args (args := #[.slice B n d]) rfl ?_; refine (HNB.out _ (by first | exact HB5.out | exact HWZ.out.drew | exact HWZ.out)).mono ?_; rintro e6 w6 ⟨hl6, p6, rfl, hp6, hr6, hb6⟩; have HB6 : Hid (Below w1.heap.size w1 w6) := Lib.hid (by first | exact HB5.out.trans (hb6.mono HB5.out.size) | exact HWZ.out.drew.trans hb6); have HR6 := Lib.hid (bl_row hl6 hr6); have HO6 := Lib.hid hr6; have HL6 := Lib.hid hl6; have HP6 : Hid (w1.heap.size ≤ p6) := Lib.hid (Nat.le_trans (by first | exact Nat.le_refl _ | exact HWZ.out.drew.size | exact HB5.out.size) hp6); (try have HD6 : Hid (Below w5.heap.size w5 w6) := Lib.hid hb6); clear hb6 hr6 hp6 hl6)
        | (go_at_call 50; refine calls_args (args := #[.slice A n c]) rfl ?_; refine (HNA.out _ (by first | exact HB6.out | exact HWZ.out.drew | exact HWZ.out)).mono ?_; rintro e5 w5 ⟨hl5, p5, rfl, hp5, hr5, hb5⟩; have HB5 : Hid (Below w1.heap.size w1 w5) := Lib.hid (by first | exact HB6.out.trans (hb5.mono HB6.out.size) | exact HWZ.out.drew.trans hb5); have HR5 := Lib.hid (bl_row hl5 hr5); have HO5 := Lib.hid hr5; have HL5 := Lib.hid hl5; have HP5 : Hid (w1.heap.size ≤ p5) := Lib.hid (Nat.le_trans (by first | exact Nat.le_refl _ | exact HWZ.out.drew.size | exact HB6.out.size) hp5); (try have HD5 : Hid (Below w6.heap.size w6 w5) := Lib.hid hb5); clear hb5 hr5 hp5 hl5)
        | fail)
    all_goals
      go_wp2
      go_ret
      exact ⟨HLL.out, p8, rfl, by have := HB1.out.size; have := HP8.out; omega, by have := HO8.out; rw [HLE.out]; exact this, HB1.out.trans (HB8.out.mono HB1.out.size)⟩
end Go.Proofs.Ytophajljjnjcdaa.wd
