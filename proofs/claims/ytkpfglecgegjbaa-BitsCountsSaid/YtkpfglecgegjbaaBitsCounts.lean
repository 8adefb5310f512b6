/- The law BitsCounts: as many are in one or in both of two sets as in each, less those in both, and each number of the first is in both, or in it alone. No condition. -/
import Derived.Test.YtkpfglecgegjbaaSame
namespace Go.Proofs.Ytkpfglecgegjbaa.bitsCounts
open Go.ChangeShapes Go.WideShapes Go.ChangeAt Go.RowKit

theorem counts (g f : Nat → Bool) (n : Nat) : num (fun i => g i || f i) n + num (fun i => g i && f i) n = num g n + num f n := by
  unfold num
  induction n with
  | zero => simp [cnt]
  | succ n ih =>
    simp only [cnt, Nat.zero_add]
    cases g n <;> cases f n <;> simp <;> omega
theorem again (g f : Nat → Bool) : (fun i => (g i && f i) || (g i && !f i)) = g := by
  funext i
  cases g i <;> cases f i <;> rfl

theorem large (A B : Option Addr) (c d : Nat) (n : Int) (a b : List Int) (w : World) (h : 300 < n ∨ 100 < a.length ∨ 100 < b.length) (ha : a.length ≤ 17592186044416) (hb : b.length ≤ 17592186044416) :
    Calls Try.prog 5 #[.int .i64 n, .slice A a.length c, .slice B b.length d] w (LawPost w) := by
  generalize a.length = x at h ha
  generalize b.length = y at h hb
  by_cases h1 : 300 < n
  · clear h
    go_enter Try.func5, Try.ntmps5
    go_wp2_with (go_at_call 16; refine (awake_any _).mono ?_; rintro e w' ⟨rfl, hbw⟩)
    go_ret
    exact ⟨rfl, hbw⟩
  · by_cases h2 : 100 < x
    · clear h
      go_enter Try.func5, Try.ntmps5
      go_wp2_with (go_at_call 16; refine (awake_any _).mono ?_; rintro e w' ⟨rfl, hbw⟩)
      go_ret
      exact ⟨rfl, hbw⟩
    · have h3 : 100 < y := by omega
      clear h
      go_enter Try.func5, Try.ntmps5
      go_wp2_with (go_at_call 16; refine (awake_any _).mono ?_; rintro e w' ⟨rfl, hbw⟩)
      go_ret
      exact ⟨rfl, hbw⟩
theorem below0 (A B : Option Addr) (c d : Nat) (n : Int) (a b : List Int) (w : World) (hA : IA w A a) (hB : IA w B b) (h : n < 0) (ha : a.length ≤ 100) (hb : b.length ≤ 100) :
    Calls Try.prog 5 #[.int .i64 n, .slice A a.length c, .slice B b.length d] w (LawPost w) := by
  have HA := Lib.hid hA
  have HB := Lib.hid hB
  obtain ⟨x, HX⟩ : ∃ x, Hid (a.length = x) := ⟨_, Lib.hid rfl⟩
  obtain ⟨y, HY⟩ : ∃ y, Hid (b.length = y) := ⟨_, Lib.hid rfl⟩
  rw [HX.out] at ha ⊢
  rw [HY.out] at hb ⊢
  clear hA hB
  go_enter Try.func5, Try.ntmps5
  go_wp2_with fail
  refine (of_none n A c x a w HX.out.symm (by omega) HA.out (by have := HX.out; omega)).mono ?_
  rintro e w' ⟨rfl, rfl⟩
  go_wp2_with fail
  refine (of_none n B d y b w HY.out.symm (by omega) HB.out (by have := HY.out; omega)).mono ?_
  rintro e w' ⟨rfl, rfl⟩
  go_wp2_with fail
  refine (awake_any _).mono ?_
  rintro e w' ⟨rfl, hbw⟩
  go_wp2_with fail
  go_ret
  exact ⟨rfl, hbw⟩

set_option maxHeartbeats 2000000 in
theorem small (A B : Option Addr) (c d : Nat) (n : Nat) (a b : List Int) (w : World) (hA : IA w A a) (hB : IA w B b) (h : n ≤ 300) (ha : a.length ≤ 100) (hb : b.length ≤ 100) :
    Calls Try.prog 5 #[.int .i64 n, .slice A a.length c, .slice B b.length d] w (LawPost w) := by
  have HA := Lib.hid hA
  have HB := Lib.hid hB
  obtain ⟨x, HX⟩ : ∃ x, Hid (a.length = x) := ⟨_, Lib.hid rfl⟩
  obtain ⟨y, HY⟩ : ∃ y, Hid (b.length = y) := ⟨_, Lib.hid rfl⟩
  rw [HX.out] at ha ⊢
  rw [HY.out] at hb ⊢
  clear hA hB
  go_enter Try.func5, Try.ntmps5
  go_wp2_with fail
  refine (of_some n A c x a w HX.out.symm (by omega) HA.out (by have := HX.out; omega)).mono ?_
  rintro e w1 ⟨s, t, rfl, h1, hs, ht, hb1⟩
  have H1 := Lib.hid h1
  have HW1 := Lib.hid hb1
  clear h1 hb1 hs ht
  go_wp2_with fail
  refine (of_some n B d y b w1 HY.out.symm (by omega) (HB.out.below HW1.out) (by have := HY.out; omega)).mono ?_
  rintro e w2 ⟨s2, t2, rfl, h2, hs2, ht2, hb2⟩
  have H2 := Lib.hid h2
  have H1' := Lib.hid (H1.out.keep hb2)
  have HW2 := Lib.hid (HW1.out.trans (hb2.mono HW1.out.size))
  clear h2 hb2 H1 HW1 hs2 ht2
  generalize ofG n a = g at *
  generalize ofG n b = f at *
  go_wp2_with fail
  refine (and_sets H1'.out H2.out).mono ?_
  rintro e w3 ⟨s3, t3, rfl, h3, _, _, hb3⟩
  have H3 := Lib.hid h3
  have K1 := Lib.hid (H1'.out.keep hb3)
  have K2 := Lib.hid (H2.out.keep hb3)
  have HW3 := Lib.hid (HW2.out.trans (hb3.mono HW2.out.size))
  clear h3 hb3 H1' H2 HW2
  go_wp2_with fail
  refine (or_sets K1.out K2.out).mono ?_
  rintro e w4 ⟨s4, t4, rfl, h4, _, _, hb4⟩
  have H4 := Lib.hid h4
  have J1 := Lib.hid (K1.out.keep hb4)
  have J2 := Lib.hid (K2.out.keep hb4)
  have J3 := Lib.hid (H3.out.keep hb4)
  have HW4 := Lib.hid (HW3.out.trans (hb4.mono HW3.out.size))
  clear h4 hb4 K1 K2 H3 HW3
  go_wp2_with fail
  refine (minus_sets J1.out J2.out).mono ?_
  rintro e w5 ⟨s5, t5, rfl, h5, _, _, hb5⟩
  have I1 := Lib.hid (J1.out.keep hb5)
  have I2 := Lib.hid (J2.out.keep hb5)
  have I3 := Lib.hid (J3.out.keep hb5)
  have I4 := Lib.hid (H4.out.keep hb5)
  have I5 := Lib.hid h5
  have HW5 := Lib.hid (HW4.out.trans (hb5.mono HW4.out.size))
  clear h5 hb5 J1 J2 J3 H4 HW4
  have hsum := counts g f n
  have HAG := Lib.hid (again g f)
  obtain ⟨ga, HGA⟩ : ∃ ga, Hid ((fun i => g i && f i) = ga) := ⟨_, Lib.hid rfl⟩
  obtain ⟨gu, HGU⟩ : ∃ gu, Hid ((fun i => g i || f i) = gu) := ⟨_, Lib.hid rfl⟩
  obtain ⟨gm, HGM⟩ : ∃ gm, Hid ((fun i => g i && !f i) = gm) := ⟨_, Lib.hid rfl⟩
  have HAG2 : Hid ((fun i => ga i || gm i) = g) := Lib.hid (by rw [← HGA.out, ← HGM.out]; exact HAG.out)
  rw [HGA.out] at I3 hsum
  rw [HGU.out] at I4 hsum
  rw [HGM.out] at I5
  have hz1 := cnt_le g 0 n
  have hz2 := cnt_le f 0 n
  have hz3 := cnt_le ga 0 n
  have hz4 := cnt_le gu 0 n
  obtain ⟨q1, hq1⟩ : ∃ q, Hid (num g n = q) := ⟨_, Lib.hid rfl⟩
  obtain ⟨q2, hq2⟩ : ∃ q, Hid (num f n = q) := ⟨_, Lib.hid rfl⟩
  obtain ⟨q3, hq3⟩ : ∃ q, Hid (num ga n = q) := ⟨_, Lib.hid rfl⟩
  obtain ⟨q4, hq4⟩ : ∃ q, Hid (num gu n = q) := ⟨_, Lib.hid rfl⟩
  change num g n ≤ n at hz1
  change num f n ≤ n at hz2
  change num ga n ≤ n at hz3
  change num gu n ≤ n at hz4
  rw [hq1.out] at hz1 hsum
  rw [hq2.out] at hz2 hsum
  rw [hq3.out] at hz3 hsum
  rw [hq4.out] at hz4 hsum
  have hne : ((q4 : Int) != (q1 : Int) + (q2 : Int) - (q3 : Int)) = false := by simp; omega
  have HSUM := Lib.hid hsum
  clear hsum
  go_wp2_with fail
  refine (count_any I4.out).mono ?_
  rintro e w' ⟨rfl, rfl⟩
  rw [hq4.out]
  go_wp2_with fail
  refine (count_any I1.out).mono ?_
  rintro e w' ⟨rfl, rfl⟩
  rw [hq1.out]
  go_wp2_with fail
  refine (count_any I2.out).mono ?_
  rintro e w' ⟨rfl, rfl⟩
  rw [hq2.out]
  go_wp2_with fail
  refine (count_any I3.out).mono ?_
  rintro e w' ⟨rfl, rfl⟩
  rw [hq3.out]
  go_wp2_with fail
  clear hz1 hz2 hz3 hz4 hne
  go_loopw [12] (fun i wr => ∃ (k j : Nat), k ≤ n ∧ i = .int .i64 k ∧ wr = w5.drewN j) (fun i _ => n - (intOf i).toNat)
  case atStart => exact ⟨0, 0, Nat.zero_le _, rfl, rfl⟩
  case round =>
    obtain ⟨k, j, hk, rfl, rfl⟩ := hrel
    by_cases hlt : k < n
    · have J1 := I1.out
      have J2 := I2.out
      have J3 := I3.out
      have J4 := I4.out
      have J5 := I5.out
      obtain ⟨bg, hbg⟩ : ∃ b, g k = b := ⟨_, rfl⟩
      obtain ⟨bf, hbf⟩ : ∃ b, f k = b := ⟨_, rfl⟩
      have hba : ga k = (bg && bf) := by rw [← HGA.out, ← hbg, ← hbf]
      have hbu : gu k = (bg || bf) := by rw [← HGU.out, ← hbg, ← hbf]
      have hbm : gm k = (bg && !bf) := by rw [← HGM.out, ← hbg, ← hbf]
      clear HGA HGU HGM HAG HAG2 HSUM hq1 hq2 hq3 hq4
      cases bg <;> cases bf <;> simp only [Bool.and_true, Bool.and_false, Bool.or_true, Bool.or_false, Bool.not_true, Bool.not_false] at hba hbu hbm
      all_goals
        go_wp2_with (go_at_call 18; refine (has_at (by assumption) _ _ hlt (by assumption)).mono ?_; rintro e w' ⟨rfl, j', rfl⟩)
        go_roundw
        case rel => exact ⟨k + 1, _, by omega, by go_num, rfl⟩
        case measure => simp [intOf]; omega
    · obtain rfl : k = n := by omega
      go_wp2_with fail
      refine (or_sets (I3.out.drewN j) (I5.out.drewN j)).mono ?_
      rintro e w6 ⟨s6, t6, rfl, h6, _, _, hb6⟩
      have K1 : Hid (ST w6 s t k g) := Lib.hid ((I1.out.drewN j).keep hb6)
      have HW6 : Hid (Below w.heap.size w w6) := Lib.hid ((below_drewN HW5.out j).trans (hb6.mono HW5.out.size))
      have K6 := Lib.hid h6
      clear h6 hb6
      go_wp2_with fail
      refine (same_sets K6.out K1.out).mono ?_
      rintro e w7 ⟨⟨b, rfl, hb⟩, j7, rfl⟩
      have HBT : b = true := hb.2 HAG2.out
      clear hb
      subst HBT
      go_wp2_with fail
      refine (awake_any _).mono ?_
      rintro e w8 ⟨rfl, hb8⟩
      have HW8 : Hid (Below w.heap.size w w8) := Lib.hid ((below_drewN HW6.out j7).trans (hb8.mono HW6.out.size))
      clear hb8
      go_wp2_with fail
      go_ret
      exact ⟨rfl, HW8.out⟩

theorem walk (A B : Option Addr) (c d : Nat) (n : Int) (a b : List Int) (w : World) (hA : IA w A a) (hB : IA w B b) (ha : 8 * a.length ≤ 140737488355328) (hb : 8 * b.length ≤ 140737488355328) :
    Calls Try.prog 5 #[.int .i64 n, .slice A a.length c, .slice B b.length d] w (LawPost w) := by
  by_cases h : 300 < n ∨ 100 < a.length ∨ 100 < b.length
  · exact large A B c d n a b w h (by omega) (by omega)
  · by_cases h0 : n < 0
    · exact below0 A B c d n a b w hA hB h0 (by omega) (by omega)
    · obtain ⟨k, rfl⟩ := Int.eq_ofNat_of_zero_le (show 0 ≤ n by omega)
      exact small A B c d k a b w hA hB (by omega) (by omega) (by omega)

theorem lifted (os : Os) (started : os.Started) (H : Type) (enc : TypeId × Value → H) :
    ReturnsInHanded {} Try.checked os 5 .any (Rows.bitsCountsSpec.pre6 enc Try.prog Try.f5 Rows.bitsCountsRow.domain false) (Rows.bitsCountsSpec.post enc Try.prog Try.f5 false true false false) := by
  refine law_lifted started [3, 37, 37] rfl (by kernel_rfl) Try.func5 rfl (by decide +kernel) rfl (fun ds hl => by
    match ds, hl with
    | [_, _, _], _ => rfl) (ChangeSpec.witness6 (enc := enc) (C := Try.checked) false ⟨#[], #[.int .i64 0, .slice none 0 0, .slice none 0 0], []⟩ 8 (by kernel_rfl) (by kernel_rfl) (by kernel_rfl) (by kernel_rfl)) ?_
  intro W base args ds ps hval hA hlt hsz
  obtain ⟨v0, vs0, d0, ds0, p0, q0, hargs, rfl, rfl, h0, r0⟩ := trodAll_cons hA
  obtain ⟨v1, vs1, d1, ds1, p1, q1, rfl, rfl, rfl, h1, r1⟩ := trodAll_cons r0
  obtain ⟨v2, vs2, d2, ds2, p2, q2, rfl, rfl, rfl, h2, r2⟩ := trodAll_cons r1
  obtain ⟨rfl, rfl, rfl⟩ := trodAll_nil r2
  obtain rfl : args = #[v0, v1, v2] := by cases args; simp_all
  obtain ⟨x0, rfl, rfl, rfl, w0⟩ := open_int Try.underlying3 (hval 0 3 v0 rfl rfl) h0
  obtain ⟨A1, c1, x1, rfl, b1, i1, z1⟩ := open_ints_arg (hval 1 37 v1 rfl rfl) h1 hsz 1 rfl rfl
  obtain ⟨A2, c2, x2, rfl, b2, i2, z2⟩ := open_ints_arg (hval 2 37 v2 rfl rfl) h2 hsz 2 rfl rfl
  exact walk A1 A2 c1 c2 x0 x1 x2 W i1 i2 b1 b2

theorem over : Rows.bitsCountsRow.holds Try.pinned (OpenSpec.ofChange Rows.bitsCountsSpec) :=
  OpenClaim.holds_of_wide 5 Try.f5 rfl rfl rfl rfl rfl rfl rfl ⟨rfl, rfl, rfl, rfl, rfl⟩ rfl rfl rfl rfl rfl (by kernel_rfl) Try.func5 (by kernel_rfl)
    (of_decide_eq_true (by kernel_rfl)) (by unfold Func.isWrapper; first | (rw [if_pos (by decide +kernel)]; kernel_rfl) | (rw [if_neg (by decide +kernel)]; exact ⟨rfl, rfl⟩))
    (fun os started H enc _ => lifted os started H enc)

theorem proved : Rows.BitsCountsSaid := over
#print axioms proved
end Go.Proofs.Ytkpfglecgegjbaa.bitsCounts
