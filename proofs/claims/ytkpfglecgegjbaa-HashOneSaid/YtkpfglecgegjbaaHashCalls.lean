/- Package hash: Mix, Bucket, and the document's; 'lives'. -/
import Derived.Test.YtkpfglecgegjbaaHash
import Derived.Lib.SlBytesConst
import Derived.Lib.SmallJoins
namespace Go.Proofs.Ytkpfglecgegjbaa
open Go.ChangeShapes Go.WideShapes Go.ChangeAt Go.RowKit

theorem mix_any (a b : Int) (w : World) (ha : 0 ≤ a ∧ a < 18446744073709551616) (hb : 0 ≤ b ∧ b < 18446744073709551616) :
    Calls Try.prog 47 #[.int .u64 a, .int .u64 b] w fun e w' => e = .returned (.int .u64 (bsum none64 (b8 a ++ b8 b))) ∧ w = w' := by
  have HS : Hid (bsum (bsum none64 (b8 a)) (b8 b) = bsum none64 (b8 a ++ b8 b)) := Lib.hid (bsum_append _ _ _).symm
  have HA := Lib.hid ha
  have HB := Lib.hid hb
  clear ha hb
  go_enter Try.func47, Try.ntmps47
  go_wp2_with fail
  refine (number_any _ _ _ HA.out).mono ?_
  rintro e w1 ⟨rfl, rfl⟩
  go_wp2_with fail
  refine (number_any _ _ _ HB.out).mono ?_
  rintro e w1 ⟨rfl, rfl⟩
  go_wp2_with fail
  go_ret
  exact ⟨by rw [← HS.out]; rfl, rfl⟩

set_option maxRecDepth 20000 in
set_option maxHeartbeats 1000000 in
theorem refMix_any (a b : Int) (w : World) (ha : 0 ≤ a ∧ a < 18446744073709551616) (hb : 0 ≤ b ∧ b < 18446744073709551616) :
    Calls Try.prog 48 #[.int .u64 a, .int .u64 b] w fun e w' => e = .returned (.int .u64 (bsum none64 (b8 a ++ b8 b))) ∧ Below w.heap.size w w' := by
  have HA := Lib.hid ha
  have HB := Lib.hid hb
  clear ha hb
  have hne : ∀ (w : World) (A : Option Addr) (u : Int), BA w A (b8 u) → A ≠ none := fun w A u hA h => by
    subst h
    obtain ⟨b, o, h, _⟩ := hA (by rw [b8_length]; omega)
    cases h
  go_enter Try.func48, Try.ntmps48
  go_wp2_with fail
  refine (bits64_any _ _ HA.out).mono ?_
  rintro e w1 ⟨v1, rfl, ho1, hb1⟩
  obtain ⟨A1, c1, rfl, hA1⟩ := ho1.form
  have HN1 := Lib.hid (hne _ _ _ hA1)
  have HR1 := Lib.hid hA1
  have HW1 := Lib.hid hb1
  clear ho1 hb1 hA1
  go_wp2_with (at_builtin; refine append_bytes _ rfl (.tmp 6) (.tmp 8) rfl w.heap.size _ [] rfl (OB.nil _ _) A1 c1 _ (b8 a) rfl rfl (fun h => absurd h HN1.out) HR1.out (by simp [b8_length]) HW1.out.size ?_; intro v2 w2 ho2 hb2)
  have HW2 := Lib.hid (HW1.out.trans hb2)
  have HO2 := Lib.hid ho2
  clear ho2 hb2
  go_wp2_with fail
  refine (bits64_any _ _ HB.out).mono ?_
  rintro e w3 ⟨v3, rfl, ho3, hb3⟩
  obtain ⟨A3, c3, rfl, hA3⟩ := ho3.form
  have HN3 := Lib.hid (hne _ _ _ hA3)
  have HR3 := Lib.hid hA3
  have HO3 := Lib.hid (HO2.out.kept hb3)
  have HW3 := Lib.hid (HW2.out.trans (hb3.mono HW2.out.size))
  clear ho3 hb3 hA3
  go_wp2_with (at_builtin; refine append_bytes _ rfl (.tmp 10) (.tmp 12) rfl w.heap.size _ ([] ++ b8 a) rfl HO3.out A3 c3 _ (b8 b) rfl rfl (fun h => absurd h HN3.out) HR3.out (by simp [b8_length]) HW3.out.size ?_; intro v4 w4 ho4 hb4)
  have HW4 := Lib.hid (HW3.out.trans hb4)
  obtain ⟨A4, c4, rfl, hA4⟩ := ho4.form
  have HR4 : Hid (BA w4 A4 (b8 a ++ b8 b)) := Lib.hid (by simpa using hA4)
  have HU4 : Hid (U8 (b8 a ++ b8 b)) := Lib.hid (fun z hz => by
    rcases List.mem_append.1 hz with h | h
    · exact b8_u8 _ z h
    · exact b8_u8 _ z h)
  clear ho4 hb4 hA4 hne
  go_wp2_with fail
  refine (refBytes_any A4 c4 _ (b8 a ++ b8 b) w4 (by simp [b8_length]) HR4.out HU4.out (by simp [b8_length])).mono ?_
  rintro e w1 ⟨rfl, rfl⟩
  go_wp2
  go_ret
  exact ⟨rfl, HW4.out⟩

/-- The remainder. -/
def bucketF (h n : Int) : Int := if n < 1 then 0 else h % n

theorem bucket_any (h n : Int) (w : World) (hn : n ≤ 9223372036854775807) (hh : 0 ≤ h ∧ h < 18446744073709551616) :
    Calls Try.prog 46 #[.int .u64 h, .int .i64 n] w fun e w' => e = .returned (.int .i64 (bucketF h n)) ∧ w = w' := by
  obtain ⟨h1, h2⟩ := hh
  unfold bucketF
  by_cases c : n < 1
  · rw [if_pos c]
    go_enter Try.func46, Try.ntmps46
    go_wp2
    go_ret
    exact ⟨rfl, rfl⟩
  · rw [if_neg c]
    have h3 : 0 ≤ h % n := Int.emod_nonneg _ (by omega)
    have h4 : h % n < n := Int.emod_lt_of_pos _ (by omega)
    have h5 : h % n ≤ 9223372036854775807 := by omega
    go_enter Try.func46, Try.ntmps46
    go_wp2
    go_ret
    exact ⟨rfl, rfl⟩
theorem refBucket_any (h n : Int) (w : World) (hn : n ≤ 9223372036854775807) (hh : 0 ≤ h ∧ h < 18446744073709551616) :
    Calls Try.prog 49 #[.int .u64 h, .int .i64 n] w fun e w' => e = .returned (.int .i64 (bucketF h n)) ∧ w = w' := by
  obtain ⟨h1, h2⟩ := hh
  unfold bucketF
  by_cases c : n < 1
  · rw [if_pos c]
    go_enter Try.func49, Try.ntmps49
    go_wp2
    go_ret
    exact ⟨rfl, rfl⟩
  · rw [if_neg c]
    have h3 : 0 ≤ h % n := Int.emod_nonneg _ (by omega)
    have h4 : h % n < n := Int.emod_lt_of_pos _ (by omega)
    have h5 : h % n ≤ 9223372036854775807 := by omega
    go_enter Try.func49, Try.ntmps49
    go_wp2
    go_ret
    exact ⟨rfl, rfl⟩

theorem bsum_nothing : bsum none64 [] = 14695981039346656037 := by decide +kernel
theorem bsum_a : bsum none64 [97] = 12638187200555641996 := by decide +kernel

theorem ba_const (w : World) (fr : Nat × Nat) : BA (w.alloc (.cells #[.int .u8 97] 5 fr)) (some ⟨w.heap.size, 0, none⟩) [97] := fun _ => by
  refine ⟨_, 0, rfl, by simp, fun i hi => ?_⟩
  obtain rfl : i = 0 := by simpa using hi
  rw [World.cell?_alloc_mark]
  rfl

set_option maxRecDepth 20000 in
theorem hlives_any (w : World) : Calls Try.prog 43 #[] w fun e w' => e = .returned (.bool true) ∧ Below w.heap.size w w' := by
  have h1 := fun w => bytes_any none 0 0 [] w rfl (BA.nil _ _) (fun z hz => by cases hz) (by simp)
  rw [bsum_nothing] at h1
  have h2 := fun A c w hA => bytes_any A c 1 [97] w rfl hA (fun z hz => by simp at hz; omega) (by simp)
  rw [bsum_a] at h2
  have kc := fun (w : World) (C : Array Value) (n c : Nat) => Lib.run_convert_bytes_const (P := Try.prog) w 63 5 C n c Try.underlying63 Try.underlying5
  go_enter Try.func43, Try.ntmps43
  go_wp2_with fail
  refine (h1 _).mono ?_
  rintro e w1 ⟨rfl, rfl⟩
  go_wp2_with fail
  refine (h2 _ _ _ (ba_const _ _)).mono ?_
  rintro e w1 ⟨rfl, rfl⟩
  go_wp2_with fail
  go_ret
  exact ⟨rfl, (Below.refl _ _).alloc (Nat.le_refl _) _⟩
end Go.Proofs.Ytkpfglecgegjbaa
