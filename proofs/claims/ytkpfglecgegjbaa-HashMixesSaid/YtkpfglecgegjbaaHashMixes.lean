/- The law HashMixes: two numbers mixed, and the remainder of any sum, are the document's; a remainder is below what divides. No condition. -/
import Derived.Test.YtkpfglecgegjbaaHashCalls
namespace Go.Proofs.Ytkpfglecgegjbaa.hashMixes
open Go.ChangeShapes Go.WideShapes Go.ChangeAt Go.RowKit

theorem walk (a b n : Int) (w : World) (ha : 0 ≤ a ∧ a < 18446744073709551616) (hb : 0 ≤ b ∧ b < 18446744073709551616) (hn : -9223372036854775808 ≤ n ∧ n ≤ 9223372036854775807) :
    Calls Try.prog 11 #[.int .u64 a, .int .u64 b, .int .i64 n] w (LawPost w) := by
  have HA := Lib.hid ha
  have HB := Lib.hid hb
  have HN := Lib.hid hn
  by_cases c : n < 1
  · have HK : Hid (bucketF a n = 0) := Lib.hid (if_pos c)
    clear ha hb hn
    go_enter Try.func11, Try.ntmps11
    go_wp2_with (first | (go_at_call 46; refine (bucket_any a n w HN.out.2 HA.out).mono ?_; rintro e w' ⟨rfl, rfl⟩; rw [HK.out]) | (go_at_call 47; refine (mix_any a b w HA.out HB.out).mono ?_; rintro e w' ⟨rfl, rfl⟩) | (go_at_call 48; refine (refMix_any a b w HA.out HB.out).mono ?_; rintro e w1 ⟨rfl, hb1⟩; have HW := Lib.hid hb1; clear hb1) | (go_at_call 49; refine (refBucket_any a n _ HN.out.2 HA.out).mono ?_; rintro e w' ⟨rfl, rfl⟩; rw [HK.out]) | (go_at_call 43; refine (hlives_any _).mono ?_; rintro e w' ⟨rfl, hbw⟩))
    go_ret
    exact ⟨rfl, HW.out.trans (hbw.mono HW.out.size)⟩
  · have h3 : 0 ≤ a % n := Int.emod_nonneg _ (by omega)
    have h4 : a % n < n := Int.emod_lt_of_pos _ (by omega)
    have HK : Hid (bucketF a n = a % n) := Lib.hid (if_neg c)
    generalize a % n = k at h3 h4 HK
    have h5 : 1 ≤ n := by omega
    clear ha hb hn c
    go_enter Try.func11, Try.ntmps11
    go_wp2_with (first | (go_at_call 46; refine (bucket_any a n w HN.out.2 HA.out).mono ?_; rintro e w' ⟨rfl, rfl⟩; rw [HK.out]) | (go_at_call 47; refine (mix_any a b w HA.out HB.out).mono ?_; rintro e w' ⟨rfl, rfl⟩) | (go_at_call 48; refine (refMix_any a b w HA.out HB.out).mono ?_; rintro e w1 ⟨rfl, hb1⟩; have HW := Lib.hid hb1; clear hb1) | (go_at_call 49; refine (refBucket_any a n _ HN.out.2 HA.out).mono ?_; rintro e w' ⟨rfl, rfl⟩; rw [HK.out]) | (go_at_call 43; refine (hlives_any _).mono ?_; rintro e w' ⟨rfl, hbw⟩))
    go_ret
    exact ⟨rfl, HW.out.trans (hbw.mono HW.out.size)⟩

theorem lifted (os : Os) (started : os.Started) (H : Type) (enc : TypeId × Value → H) :
    ReturnsInHanded {} Try.checked os 11 .any (Rows.hashMixesSpec.pre6 enc Try.prog Try.f11 Rows.hashMixesRow.domain false) (Rows.hashMixesSpec.post enc Try.prog Try.f11 false true false false) := by
  refine law_lifted started [51, 51, 3] rfl (by kernel_rfl) Try.func11 rfl (by decide +kernel) rfl (fun ds hl => by
    match ds, hl with
    | [_, _, _], _ => rfl) (ChangeSpec.witness6 (enc := enc) (C := Try.checked) false ⟨#[], #[.int .u64 0, .int .u64 0, .int .i64 0], []⟩ 8 (by kernel_rfl) (by kernel_rfl) (by kernel_rfl) (by kernel_rfl)) ?_
  intro W base args ds ps hval hA hlt hsz
  obtain ⟨v0, vs0, d0, ds0, p0, q0, hargs, rfl, rfl, h0, r0⟩ := trodAll_cons hA
  obtain ⟨v1, vs1, d1, ds1, p1, q1, rfl, rfl, rfl, h1, r1⟩ := trodAll_cons r0
  obtain ⟨v2, vs2, d2, ds2, p2, q2, rfl, rfl, rfl, h2, r2⟩ := trodAll_cons r1
  obtain ⟨rfl, rfl, rfl⟩ := trodAll_nil r2
  obtain rfl : args = #[v0, v1, v2] := by cases args; simp_all
  obtain ⟨x0, rfl, rfl, rfl, w0⟩ := open_int Try.underlying51 (hval 0 51 v0 rfl rfl) h0
  obtain ⟨x1, rfl, rfl, rfl, w1⟩ := open_int Try.underlying51 (hval 1 51 v1 rfl rfl) h1
  obtain ⟨x2, rfl, rfl, rfl, w2⟩ := open_int Try.underlying3 (hval 2 3 v2 rfl rfl) h2
  exact walk x0 x1 x2 W (fitsU64 w0) (fitsU64 w1) (fits64 w2)

theorem over : Rows.hashMixesRow.holds Try.pinned (OpenSpec.ofChange Rows.hashMixesSpec) :=
  OpenClaim.holds_of_wide 11 Try.f11 rfl rfl rfl rfl rfl rfl rfl ⟨rfl, rfl, rfl, rfl, rfl⟩ rfl rfl rfl rfl rfl (by kernel_rfl) Try.func11 (by kernel_rfl)
    (of_decide_eq_true (by kernel_rfl)) (by unfold Func.isWrapper; first | (rw [if_pos (by decide +kernel)]; kernel_rfl) | (rw [if_neg (by decide +kernel)]; exact ⟨rfl, rfl⟩))
    (fun os started H enc _ => lifted os started H enc)

theorem proved : Rows.HashMixesSaid := over
#print axioms proved

end Go.Proofs.Ytkpfglecgegjbaa.hashMixes
