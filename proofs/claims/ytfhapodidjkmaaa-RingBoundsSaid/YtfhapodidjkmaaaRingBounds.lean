/- The law RingBounds: a queue has room for as many as may be, none for less than none; one that New did not make has nothing. No condition. -/
import Derived.Test.YtfhapodidjkmaaaRingWorks
namespace Go.Proofs.Ytfhapodidjkmaaa.ringBounds
open Go.ChangeShapes Go.WideShapes Go.ChangeAt Go.RowKit

/-- The numbers below k. -/
def upto (k : Nat) : List Int := (List.range k).map fun (i : Nat) => (i : Int)
theorem upto_length (k : Nat) : (upto k).length = k := by simp [upto]
theorem upto_succ (k : Nat) : upto (k + 1) = upto k ++ [(k : Int)] := by simp [upto, List.range_succ]

set_option maxRecDepth 20000 in
set_option maxHeartbeats 4000000 in
theorem many (m : Int) (w : World) (h3 : 300 < mostOf m) : Calls Try.prog 6 #[.int .i64 m] w (LawPost w) := by
  have hmo : mostOf m ≤ 65536 := by unfold mostOf; omega
  go_enter Try.func6, Try.ntmps6
  go_wp2_with fail
  refine (new_any m w).mono ?_
  rintro e w1 ⟨s, rfl, rfl, h1, hb1, hz1⟩
  have H1 : Hid (QU w1 w.heap.size none (mostOf m) ([] : List Int)) := Lib.hid h1
  have HB1 := Lib.hid hb1
  have HZ1 : Hid (w.heap.size < w1.heap.size) := Lib.hid (by omega)
  clear h1 hb1 hz1
  go_wp2_with fail
  refine (most_any m w1).mono ?_
  rintro e w2 ⟨rfl, rfl⟩
  obtain ⟨M, HM⟩ : ∃ M, Hid (mostOf m = M) := ⟨_, Lib.hid rfl⟩
  rw [HM.out] at h3 hmo H1
  rw [HM.out]
  have hd : decide ((300 : Int) < (M : Int)) = true := by simp; omega
  go_wp2_with fail
  go_loopw [5] (fun i wr => ∃ (k : Nat) (t : Option Nat), k ≤ 300 ∧ i = .int .i64 k ∧ Hid (QU wr w.heap.size t M (upto k)) ∧ Hid (∀ b, t = some b → w.heap.size ≤ b) ∧ Hid (Below w.heap.size w wr)) (fun i _ => 300 - (intOf i).toNat)
  case atStart => exact ⟨0, none, by omega, rfl, H1, Lib.hid (fun b e => by cases e), HB1⟩
  case round =>
    obtain ⟨k, t, hk, rfl, HQ, HT, HB⟩ := hrel
    by_cases hlt : k < 300
    · go_wp2_with fail
      refine (put_yes HQ.out (k : Int) (by rw [upto_length]; omega)).mono ?_
      rintro e w3 ⟨rfl, t3, h3', hT3, hN3⟩
      rw [← upto_succ] at h3'
      have HQ3 := Lib.hid h3'
      have HT3 : Hid (∀ b, t3 = some b → w.heap.size ≤ b) := Lib.hid (hN3.le HT.out HB.out.size)
      have HB3 : Hid (Below w.heap.size w w3) := Lib.hid (HB.out.trans (hT3.below (Nat.le_refl _) HT.out HB.out.size))
      clear h3' hT3 hN3
      go_wp2_with fail
      go_roundw
      case rel => exact ⟨k + 1, t3, by omega, by go_num, HQ3, HT3, HB3⟩
      case measure => simp [intOf]; omega
    · obtain rfl : 300 = k := by omega
      clear hlt hk H1 HB1 HZ1
      have HZQ := Lib.hid (newQ wr 0 0 (by omega) rfl)
      go_wp2_with fail
      obtain ⟨z, e, rfl, h4, hb4, hz4⟩ := HZQ.out
      have H4 : Hid (QU (wr.alloc (.cells #[.int .i64 0, .slice none 0 0, .int .i64 0, .int .i64 0] 44)) wr.heap.size none 0 ([] : List Int)) := Lib.hid h4
      have HQ4 : Hid (QU (wr.alloc (.cells #[.int .i64 0, .slice none 0 0, .int .i64 0, .int .i64 0] 44)) w.heap.size t M (upto 300)) := Lib.hid (HQ.out.keep hb4)
      have HB4 : Hid (Below w.heap.size w (wr.alloc (.cells #[.int .i64 0, .slice none 0 0, .int .i64 0, .int .i64 0] 44))) := Lib.hid (HB.out.trans (hb4.mono HB.out.size))
      have HWZ : Hid (w.heap.size ≤ wr.heap.size ∧ w.heap.size ≠ wr.heap.size ∧ (∀ b, t = some b → b < wr.heap.size) ∧ w.heap.size < wr.heap.size) := Lib.hid ⟨HB.out.size, by have := HQ.out.lt.1; omega, HQ.out.lt.2, HQ.out.lt.1⟩
      clear e h4 hb4 hz4 HZQ HQ HB
      obtain ⟨Z, HZ⟩ : ∃ Z, Hid (wr.heap.size = Z) := ⟨_, Lib.hid rfl⟩
      rw [HZ.out] at H4 HWZ ⊢
      generalize wr.alloc (.cells #[.int .i64 0, .slice none 0 0, .int .i64 0, .int .i64 0] 44) = w4 at *
      refine (take_nil w4).mono ?_
      rintro e w5 ⟨rfl, rfl⟩
      go_wp2_with fail
      refine (last_none H4.out).mono ?_
      rintro e w5 ⟨rfl, rfl⟩
      go_wp2_with fail
      refine (list_nil w4).mono ?_
      rintro e w5 ⟨A5, c5, rfl, _, _, hb5⟩
      have H5 := Lib.hid (H4.out.keep hb5)
      have HQ5 := Lib.hid (HQ4.out.keep hb5)
      have HB5 : Hid (Below w.heap.size w w5) := Lib.hid (HB4.out.trans (hb5.mono HB4.out.size))
      clear hb5 H4 HQ4 HB4
      rw [List.length_nil]
      go_wp2_with fail
      refine (list_any H5.out).mono ?_
      rintro e w6 ⟨A6, c6, rfl, _, _, hb6⟩
      have H6 := Lib.hid (H5.out.keep hb6)
      have HQ6 := Lib.hid (HQ5.out.keep hb6)
      have HB6 : Hid (Below w.heap.size w w6) := Lib.hid (HB5.out.trans (hb6.mono HB5.out.size))
      clear hb6 H5 HQ5 HB5
      rw [List.length_nil]
      obtain ⟨L6, f6, g6, q6, _⟩ := HQ6.out
      rw [upto_length] at q6
      have HL6 := Lib.hid q6
      clear q6
      go_wp2_with fail
      refine (len_any HL6.out).mono ?_
      rintro e w7 ⟨rfl, rfl⟩
      go_wp2_with fail
      refine (put_yes HQ6.out 0 (by rw [upto_length]; omega)).mono ?_
      rintro e w7 ⟨rfl, t7, h7, hT7, hN7⟩
      have H7 : Hid (QU w7 Z none 0 ([] : List Int)) := Lib.hid (H6.out.other hT7 (fun e => HWZ.out.2.1 e.symm) (.inl rfl) (fun b e e2 => by have := HWZ.out.2.2.1 b e; omega) (by simp))
      have HB7 : Hid (Below w.heap.size w w7) := Lib.hid (HB6.out.trans (hT7.below (Nat.le_refl _) HT.out HB6.out.size))
      clear h7 hT7 hN7 H6 HQ6 HB6 HL6
      go_wp2_with fail
      refine (most_any m w7).mono ?_
      rintro e w8 ⟨rfl, rfl⟩
      rw [HM.out]
      go_wp2_with fail
      refine (put_nil 1 _).mono ?_
      rintro e w' ⟨rfl, j, rfl⟩
      have H8 : Hid (QU (w7.drewN j) Z none 0 ([] : List Int)) := Lib.hid (H7.out.of_blocks rfl (fun _ _ => rfl))
      have HB8 : Hid (Below w.heap.size w (w7.drewN j)) := Lib.hid (below_drewN HB7.out j)
      clear H7 HB7
      generalize w7.drewN j = w8 at *
      go_wp2_with fail
      refine (put_no H8.out 1 rfl).mono ?_
      rintro e w' ⟨rfl, j, rfl⟩
      have H9 : Hid (QU (w8.drewN j) Z none 0 ([] : List Int)) := Lib.hid (H8.out.of_blocks rfl (fun _ _ => rfl))
      have HB9 : Hid (Below w.heap.size w (w8.drewN j)) := Lib.hid (below_drewN HB8.out j)
      clear H8 HB8
      generalize w8.drewN j = w9 at *
      go_wp2_with fail
      refine (push_nil 1 _).mono ?_
      rintro e w' ⟨rfl, j, rfl⟩
      have H10 : Hid (QU (w9.drewN j) Z none 0 ([] : List Int)) := Lib.hid (H9.out.of_blocks rfl (fun _ _ => rfl))
      have HB10 : Hid (Below w.heap.size w (w9.drewN j)) := Lib.hid (below_drewN HB9.out j)
      clear H9 HB9
      generalize w9.drewN j = w10 at *
      go_wp2_with fail
      refine (push_no H10.out 1 rfl).mono ?_
      rintro e w' ⟨rfl, j, rfl⟩
      have H11 : Hid (QU (w10.drewN j) Z none 0 ([] : List Int)) := Lib.hid (H10.out.of_blocks rfl (fun _ _ => rfl))
      have HB11 : Hid (Below w.heap.size w (w10.drewN j)) := Lib.hid (below_drewN HB10.out j)
      clear H10 HB10
      generalize w10.drewN j = w11 at *
      go_wp2_with fail
      refine (len_nil _).mono ?_
      rintro e w' ⟨rfl, rfl⟩
      obtain ⟨L9, f9, g9, q9, _⟩ := H11.out
      rw [List.length_nil] at q9
      have HL9 := Lib.hid q9
      clear q9
      go_wp2_with fail
      refine (len_any HL9.out).mono ?_
      rintro e w' ⟨rfl, rfl⟩
      go_wp2_with fail
      refine (works_any _).mono ?_
      rintro e w' ⟨rfl, hb⟩
      have HB := Lib.hid (HB11.out.trans (hb.mono HB11.out.size))
      clear hb
      go_wp2_with fail
      go_ret
      exact ⟨rfl, HB.out⟩

set_option maxRecDepth 20000 in
set_option maxHeartbeats 4000000 in
theorem few (m : Int) (w : World) (h3 : mostOf m ≤ 300) : Calls Try.prog 6 #[.int .i64 m] w (LawPost w) := by
  have hmo : mostOf m ≤ 65536 := by unfold mostOf; omega
  go_enter Try.func6, Try.ntmps6
  go_wp2_with fail
  refine (new_any m w).mono ?_
  rintro e w1 ⟨s, rfl, rfl, h1, hb1, hz1⟩
  have H1 : Hid (QU w1 w.heap.size none (mostOf m) ([] : List Int)) := Lib.hid h1
  have HB1 := Lib.hid hb1
  have HZ1 : Hid (w.heap.size < w1.heap.size) := Lib.hid (by omega)
  clear h1 hb1 hz1
  go_wp2_with fail
  refine (most_any m w1).mono ?_
  rintro e w2 ⟨rfl, rfl⟩
  obtain ⟨M, HM⟩ : ∃ M, Hid (mostOf m = M) := ⟨_, Lib.hid rfl⟩
  rw [HM.out] at h3 hmo H1
  rw [HM.out]
  go_wp2_with fail
  go_loopw [5] (fun i wr => ∃ (k : Nat) (t : Option Nat), k ≤ M ∧ i = .int .i64 k ∧ Hid (QU wr w.heap.size t M (upto k)) ∧ Hid (∀ b, t = some b → w.heap.size ≤ b) ∧ Hid (Below w.heap.size w wr)) (fun i _ => M - (intOf i).toNat)
  case atStart => exact ⟨0, none, by omega, rfl, H1, Lib.hid (fun b e => by cases e), HB1⟩
  case round =>
    obtain ⟨k, t, hk, rfl, HQ, HT, HB⟩ := hrel
    by_cases hlt : k < M
    · go_wp2_with fail
      refine (put_yes HQ.out (k : Int) (by rw [upto_length]; omega)).mono ?_
      rintro e w3 ⟨rfl, t3, h3', hT3, hN3⟩
      rw [← upto_succ] at h3'
      have HQ3 := Lib.hid h3'
      have HT3 : Hid (∀ b, t3 = some b → w.heap.size ≤ b) := Lib.hid (hN3.le HT.out HB.out.size)
      have HB3 : Hid (Below w.heap.size w w3) := Lib.hid (HB.out.trans (hT3.below (Nat.le_refl _) HT.out HB.out.size))
      clear h3' hT3 hN3
      go_wp2_with fail
      go_roundw
      case rel => exact ⟨k + 1, t3, by omega, by go_num, HQ3, HT3, HB3⟩
      case measure => simp [intOf]; omega
    · obtain rfl : M = k := by omega
      clear hlt hk H1 HB1 HZ1
      have HZQ := Lib.hid (newQ wr 0 0 (by omega) rfl)
      go_wp2_with fail
      obtain ⟨z, e, rfl, h4, hb4, hz4⟩ := HZQ.out
      have H4 : Hid (QU (wr.alloc (.cells #[.int .i64 0, .slice none 0 0, .int .i64 0, .int .i64 0] 44)) wr.heap.size none 0 ([] : List Int)) := Lib.hid h4
      have HQ4 : Hid (QU (wr.alloc (.cells #[.int .i64 0, .slice none 0 0, .int .i64 0, .int .i64 0] 44)) w.heap.size t M (upto M)) := Lib.hid (HQ.out.keep hb4)
      have HB4 : Hid (Below w.heap.size w (wr.alloc (.cells #[.int .i64 0, .slice none 0 0, .int .i64 0, .int .i64 0] 44))) := Lib.hid (HB.out.trans (hb4.mono HB.out.size))
      have HWZ : Hid (w.heap.size ≤ wr.heap.size ∧ w.heap.size ≠ wr.heap.size ∧ (∀ b, t = some b → b < wr.heap.size) ∧ w.heap.size < wr.heap.size) := Lib.hid ⟨HB.out.size, by have := HQ.out.lt.1; omega, HQ.out.lt.2, HQ.out.lt.1⟩
      clear e h4 hb4 hz4 HZQ HQ HB
      obtain ⟨Z, HZ⟩ : ∃ Z, Hid (wr.heap.size = Z) := ⟨_, Lib.hid rfl⟩
      rw [HZ.out] at H4 HWZ ⊢
      generalize wr.alloc (.cells #[.int .i64 0, .slice none 0 0, .int .i64 0, .int .i64 0] 44) = w4 at *
      refine (take_nil w4).mono ?_
      rintro e w5 ⟨rfl, rfl⟩
      go_wp2_with fail
      refine (last_none H4.out).mono ?_
      rintro e w5 ⟨rfl, rfl⟩
      go_wp2_with fail
      refine (list_nil w4).mono ?_
      rintro e w5 ⟨A5, c5, rfl, _, _, hb5⟩
      have H5 := Lib.hid (H4.out.keep hb5)
      have HQ5 := Lib.hid (HQ4.out.keep hb5)
      have HB5 : Hid (Below w.heap.size w w5) := Lib.hid (HB4.out.trans (hb5.mono HB4.out.size))
      clear hb5 H4 HQ4 HB4
      rw [List.length_nil]
      go_wp2_with fail
      refine (list_any H5.out).mono ?_
      rintro e w6 ⟨A6, c6, rfl, _, _, hb6⟩
      have H6 := Lib.hid (H5.out.keep hb6)
      have HQ6 := Lib.hid (HQ5.out.keep hb6)
      have HB6 : Hid (Below w.heap.size w w6) := Lib.hid (HB5.out.trans (hb6.mono HB5.out.size))
      clear hb6 H5 HQ5 HB5
      rw [List.length_nil]
      obtain ⟨L6, f6, g6, q6, _⟩ := HQ6.out
      rw [upto_length] at q6
      have HL6 := Lib.hid q6
      clear q6
      go_wp2_with fail
      refine (len_any HL6.out).mono ?_
      rintro e w7 ⟨rfl, rfl⟩
      go_wp2_with fail
      refine (put_no HQ6.out 0 (by rw [upto_length])).mono ?_
      rintro e w7 ⟨rfl, j7, rfl⟩
      have H7 : Hid (QU (w6.drewN j7) Z none 0 ([] : List Int)) := Lib.hid (H6.out.of_blocks rfl (fun _ _ => rfl))
      have HB7 : Hid (Below w.heap.size w (w6.drewN j7)) := Lib.hid (below_drewN HB6.out j7)
      clear H6 HQ6 HB6 HL6
      generalize w6.drewN j7 = w7 at *
      go_wp2_with fail
      refine (most_any m w7).mono ?_
      rintro e w8 ⟨rfl, rfl⟩
      rw [HM.out]
      go_wp2_with fail
      refine (put_nil 1 _).mono ?_
      rintro e w' ⟨rfl, j, rfl⟩
      have H8 : Hid (QU (w7.drewN j) Z none 0 ([] : List Int)) := Lib.hid (H7.out.of_blocks rfl (fun _ _ => rfl))
      have HB8 : Hid (Below w.heap.size w (w7.drewN j)) := Lib.hid (below_drewN HB7.out j)
      clear H7 HB7
      generalize w7.drewN j = w8 at *
      go_wp2_with fail
      refine (put_no H8.out 1 rfl).mono ?_
      rintro e w' ⟨rfl, j, rfl⟩
      have H9 : Hid (QU (w8.drewN j) Z none 0 ([] : List Int)) := Lib.hid (H8.out.of_blocks rfl (fun _ _ => rfl))
      have HB9 : Hid (Below w.heap.size w (w8.drewN j)) := Lib.hid (below_drewN HB8.out j)
      clear H8 HB8
      generalize w8.drewN j = w9 at *
      go_wp2_with fail
      refine (push_nil 1 _).mono ?_
      rintro e w' ⟨rfl, j, rfl⟩
      have H10 : Hid (QU (w9.drewN j) Z none 0 ([] : List Int)) := Lib.hid (H9.out.of_blocks rfl (fun _ _ => rfl))
      have HB10 : Hid (Below w.heap.size w (w9.drewN j)) := Lib.hid (below_drewN HB9.out j)
      clear H9 HB9
      generalize w9.drewN j = w10 at *
      go_wp2_with fail
      refine (push_no H10.out 1 rfl).mono ?_
      rintro e w' ⟨rfl, j, rfl⟩
      have H11 : Hid (QU (w10.drewN j) Z none 0 ([] : List Int)) := Lib.hid (H10.out.of_blocks rfl (fun _ _ => rfl))
      have HB11 : Hid (Below w.heap.size w (w10.drewN j)) := Lib.hid (below_drewN HB10.out j)
      clear H10 HB10
      generalize w10.drewN j = w11 at *
      go_wp2_with fail
      refine (len_nil _).mono ?_
      rintro e w' ⟨rfl, rfl⟩
      obtain ⟨L9, f9, g9, q9, _⟩ := H11.out
      rw [List.length_nil] at q9
      have HL9 := Lib.hid q9
      clear q9
      go_wp2_with fail
      refine (len_any HL9.out).mono ?_
      rintro e w' ⟨rfl, rfl⟩
      go_wp2_with fail
      refine (works_any _).mono ?_
      rintro e w' ⟨rfl, hb⟩
      have HB := Lib.hid (HB11.out.trans (hb.mono HB11.out.size))
      clear hb
      go_wp2_with fail
      go_ret
      exact ⟨rfl, HB.out⟩

theorem walk (m : Int) (w : World) : Calls Try.prog 6 #[.int .i64 m] w (LawPost w) := by
  by_cases h : 300 < mostOf m
  · exact many m w h
  · exact few m w (by omega)

set_option maxRecDepth 100000 in
theorem lifted (os : Os) (started : os.Started) (H : Type) (enc : TypeId × Value → H) :
    ReturnsInHanded {} Try.checked os 6 .any (Rows.ringBoundsSpec.pre6 enc Try.prog Try.f6 Rows.ringBoundsRow.domain false) (Rows.ringBoundsSpec.post enc Try.prog Try.f6 false true false false) := by
  refine law_lifted started [3] rfl (by kernel_rfl) Try.func6 rfl (by decide +kernel) rfl (fun ds hl => by
    match ds, hl with
    | [_], _ => rfl) (ChangeSpec.witness6 (enc := enc) (C := Try.checked) false ⟨#[], #[.int .i64 0], []⟩ 8 (by kernel_rfl) (by kernel_rfl) (by kernel_rfl) (by kernel_rfl)) ?_
  intro W base args ds ps hval hA hlt hsz
  obtain ⟨v0, vs0, d0, ds0, p0, q0, hargs, rfl, rfl, h0, r0⟩ := trodAll_cons hA
  obtain ⟨rfl, rfl, rfl⟩ := trodAll_nil r0
  obtain rfl : args = #[v0] := by cases args; simp_all
  obtain ⟨x0, rfl, rfl, rfl, w0⟩ := open_int Try.underlying3 (hval 0 3 v0 rfl rfl) h0
  exact walk x0 W

set_option maxRecDepth 100000 in
theorem over : Rows.ringBoundsRow.holds Try.pinned (OpenSpec.ofChange Rows.ringBoundsSpec) :=
  OpenClaim.holds_of_wide 6 Try.f6 rfl rfl rfl rfl rfl rfl rfl ⟨rfl, rfl, rfl, rfl, rfl⟩ rfl rfl rfl rfl rfl (by kernel_rfl) Try.func6 (by kernel_rfl)
    (of_decide_eq_true (by kernel_rfl)) (by unfold Func.isWrapper; first | (rw [if_pos (by decide +kernel)]; kernel_rfl) | (rw [if_neg (by decide +kernel)]; exact ⟨rfl, rfl⟩))
    (fun os started H enc _ => lifted os started H enc)

theorem proved : Rows.RingBoundsSaid := over
#print axioms proved
end Go.Proofs.Ytfhapodidjkmaaa.ringBounds
