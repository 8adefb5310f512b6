/- The law NumMods: what any number leaves by any other one is the document's: not below 0, below the other one without its sign, and it differs by a multiple. No condition. -/
import Derived.Test.YtbdlbljjbigjkaaNumCalls
namespace Go.Proofs.Ytbdlbljjbigjkaa.numMods
open Go.ChangeShapes Go.WideShapes Go.ChangeAt Go.RowKit

theorem refMod_any (n b : Int) (w : World) (hn1 : -9223372036854775808 ≤ n) (hn2 : n ≤ 9223372036854775807) (hb1 : -9223372036854775808 ≤ b) (hb2 : b ≤ 9223372036854775807) :
    Calls Try.prog 26 #[.int .i64 n, .int .i64 b] w fun e w' => e = .returned (.int .i64 (modF n b)) ∧ w = w' := by
  unfold modF
  by_cases c0 : b = 0
  · rw [if_pos c0]
    subst c0
    go_enter Try.func26, Try.ntmps26
    go_wp2
    go_ret
    exact ⟨rfl, rfl⟩
  rw [if_neg c0]
  by_cases c1 : 0 ≤ n
  · have c2 := Int.emod_nonneg n c0
    have c3 := Int.emod_lt n c0
    have c4 : n % b ≤ 9223372036854775807 := by omega
    have c5 : n.tmod b = n % b := Int.tmod_eq_emod_of_nonneg c1
    clear c3
    go_enter Try.func26, Try.ntmps26
    go_wp2
    go_ret
    exact ⟨rfl, rfl⟩
  · rcases tmod_neg n b (by omega) c0 with ⟨h1, h2⟩ | ⟨h1, h2, h3⟩
    · rw [h2]
      go_enter Try.func26, Try.ntmps26
      go_wp2
      go_ret
      exact ⟨rfl, rfl⟩
    · rw [h3]
      clear h3
      by_cases c2 : b < 0
      · have h4 : b < n.tmod b := by omega
        have h5 : n.tmod b + (b.natAbs : Int) = n.tmod b - b := by omega
        have h6 : ¬ (n.tmod b - b < 0) := by omega
        rw [h5]
        clear h5 h2
        go_enter Try.func26, Try.ntmps26
        go_wp2
        go_ret
        exact ⟨rfl, rfl⟩
      · have h4 : -b < n.tmod b := by omega
        have h5 : n.tmod b + (b.natAbs : Int) = n.tmod b + b := by omega
        rw [h5]
        clear h5 h2
        go_enter Try.func26, Try.ntmps26
        go_wp2
        go_ret
        exact ⟨rfl, rfl⟩

theorem mod_at {n b r : Int} (h : modF n b = r) (w : World) (hn : -9223372036854775808 ≤ n ∧ n ≤ 9223372036854775807) (hb : -9223372036854775808 ≤ b ∧ b ≤ 9223372036854775807) :
    Calls Try.prog 25 #[.int .i64 n, .int .i64 b] w fun e w' => e = .returned (.int .i64 r) ∧ w = w' := by
  subst h; exact mod_any n b w hn.1 hn.2 hb.1 hb.2
theorem refMod_at {n b r : Int} (h : modF n b = r) (w : World) (hn : -9223372036854775808 ≤ n ∧ n ≤ 9223372036854775807) (hb : -9223372036854775808 ≤ b ∧ b ≤ 9223372036854775807) :
    Calls Try.prog 26 #[.int .i64 n, .int .i64 b] w fun e w' => e = .returned (.int .i64 r) ∧ w = w' := by
  subst h; exact refMod_any n b w hn.1 hn.2 hb.1 hb.2

/-- What the law asks of the remainder. -/
theorem facts (n b : Int) (hn : -9223372036854775808 ≤ n ∧ n ≤ 9223372036854775807) (hb : -9223372036854775808 ≤ b ∧ b ≤ 9223372036854775807) (h0 : b ≠ 0) :
    0 ≤ modF n b ∧ modF n b < b.natAbs ∧ -9223372036854775808 ≤ n.tmod b ∧ n.tmod b ≤ 9223372036854775807 ∧ -9223372036854775808 ≤ n.tmod b - modF n b ∧ n.tmod b - modF n b ≤ 0 ∧ (n.tmod b - modF n b).tmod b = 0 := by
  unfold modF
  rw [if_neg h0]
  have h1 := Int.emod_nonneg n h0
  have h2 := Int.emod_lt n h0
  by_cases c1 : 0 ≤ n
  · have c5 : n.tmod b = n % b := Int.tmod_eq_emod_of_nonneg c1
    rw [c5]
    exact ⟨h1, h2, by omega, by omega, by omega, by omega, by rw [Int.sub_self]; exact Int.zero_tmod b⟩
  · rcases tmod_neg n b (by omega) h0 with ⟨g1, g2⟩ | ⟨g1, g2, g3⟩
    · rw [g1, g2]
      exact ⟨by omega, by omega, by omega, by omega, by omega, by omega, Int.zero_tmod b⟩
    · have e : n.tmod b - n % b = -(b.natAbs : Int) := by omega
      have e2 : (-(b.natAbs : Int)).tmod b = 0 := by
        rcases Int.natAbs_eq b with hh | hh
        · rw [← hh]; simp
        · rw [show -(b.natAbs : Int) = b by omega]; simp
      rw [e, e2]
      exact ⟨h1, h2, by omega, by omega, by omega, by omega, rfl⟩

theorem walk (n b : Int) (w : World) (hn : -9223372036854775808 ≤ n ∧ n ≤ 9223372036854775807) (hb : -9223372036854775808 ≤ b ∧ b ≤ 9223372036854775807) :
    Calls Try.prog 5 #[.int .i64 n, .int .i64 b] w (LawPost w) := by
  by_cases c0 : b = 0
  · subst c0
    have H : Hid (modF n 0 = 0) := Lib.hid (if_pos rfl)
    go_enter Try.func5, Try.ntmps5
    go_wp2_with (first | (go_at_call 25; refine (mod_at H.out _ hn hb).mono ?_; rintro e w' ⟨rfl, rfl⟩) | (go_at_call 26; refine (refMod_at H.out _ hn hb).mono ?_; rintro e w' ⟨rfl, rfl⟩) | (go_at_call 18; refine (lives_any _).mono ?_; rintro e w' ⟨rfl, hbw⟩))
    go_ret
    exact ⟨rfl, hbw⟩
  · obtain ⟨f1, f2, f3, f4, f5, f6, f7⟩ := facts n b hn hb c0
    have H := Lib.hid (show modF n b = modF n b from rfl)
    have HN := Lib.hid hn
    have HB := Lib.hid hb
    have hb1 := hb.1
    have hb2 := hb.2
    generalize hr : modF n b = r at f1 f2 f5 f6 f7 H
    have H2 := Lib.hid hr
    have c1 : (b == 0) = false := by simpa using c0
    have g7 : ((n.tmod b - r).tmod b == 0) = true := by rw [f7]; rfl
    clear hr H f7 hn hb
    by_cases c2 : b < 0
    · have f8 : r + b < 0 := by omega
      have f9 : -9223372036854775808 ≤ r + b := by omega
      by_cases c3 : 0 ≤ n
      · have c5 : n.tmod b = n % b := Int.tmod_eq_emod_of_nonneg c3
        have c6 : n % b - r = 0 := by
          have := H2.out; unfold modF at this; rw [if_neg c0] at this; omega
        clear f2 c0 g7
        go_enter Try.func5, Try.ntmps5
        go_wp2_with (first | (go_at_call 25; refine (mod_at H2.out _ HN.out HB.out).mono ?_; rintro e w' ⟨rfl, rfl⟩) | (go_at_call 26; refine (refMod_at H2.out _ HN.out HB.out).mono ?_; rintro e w' ⟨rfl, rfl⟩) | (go_at_call 18; refine (lives_any _).mono ?_; rintro e w' ⟨rfl, hbw⟩))
        go_ret
        exact ⟨rfl, hbw⟩
      · clear f2 c0
        go_enter Try.func5, Try.ntmps5
        go_wp2_with (first | (go_at_call 25; refine (mod_at H2.out _ HN.out HB.out).mono ?_; rintro e w' ⟨rfl, rfl⟩) | (go_at_call 26; refine (refMod_at H2.out _ HN.out HB.out).mono ?_; rintro e w' ⟨rfl, rfl⟩) | (go_at_call 18; refine (lives_any _).mono ?_; rintro e w' ⟨rfl, hbw⟩))
        go_ret
        exact ⟨rfl, hbw⟩
    · have f8 : r < b := by omega
      have f9 : 0 < b := by omega
      by_cases c3 : 0 ≤ n
      · have c5 : n.tmod b = n % b := Int.tmod_eq_emod_of_nonneg c3
        have c6 : n % b - r = 0 := by
          have := H2.out; unfold modF at this; rw [if_neg c0] at this; omega
        clear f2 c0 g7
        go_enter Try.func5, Try.ntmps5
        go_wp2_with (first | (go_at_call 25; refine (mod_at H2.out _ HN.out HB.out).mono ?_; rintro e w' ⟨rfl, rfl⟩) | (go_at_call 26; refine (refMod_at H2.out _ HN.out HB.out).mono ?_; rintro e w' ⟨rfl, rfl⟩) | (go_at_call 18; refine (lives_any _).mono ?_; rintro e w' ⟨rfl, hbw⟩))
        go_ret
        exact ⟨rfl, hbw⟩
      · clear f2 c0
        go_enter Try.func5, Try.ntmps5
        go_wp2_with (first | (go_at_call 25; refine (mod_at H2.out _ HN.out HB.out).mono ?_; rintro e w' ⟨rfl, rfl⟩) | (go_at_call 26; refine (refMod_at H2.out _ HN.out HB.out).mono ?_; rintro e w' ⟨rfl, rfl⟩) | (go_at_call 18; refine (lives_any _).mono ?_; rintro e w' ⟨rfl, hbw⟩))
        go_ret
        exact ⟨rfl, hbw⟩

theorem lifted (os : Os) (started : os.Started) (H : Type) (enc : TypeId × Value → H) :
    ReturnsInHanded {} Try.checked os 5 .any (Rows.numModsSpec.pre6 enc Try.prog Try.f5 Rows.numModsRow.domain false) (Rows.numModsSpec.post enc Try.prog Try.f5 false true false false) := by
  refine law_lifted started [3, 3] rfl (by kernel_rfl) Try.func5 rfl (by decide +kernel) rfl (fun ds hl => by
    match ds, hl with
    | [_, _], _ => rfl) (ChangeSpec.witness6 (enc := enc) (C := Try.checked) false ⟨#[], #[.int .i64 0, .int .i64 0], []⟩ 8 (by kernel_rfl) (by kernel_rfl) (by kernel_rfl) (by kernel_rfl)) ?_
  intro W base args ds ps hval hA hlt hsz
  obtain ⟨v0, vs0, d0, ds0, p0, q0, hargs, rfl, rfl, h0, r0⟩ := trodAll_cons hA
  obtain ⟨v1, vs1, d1, ds1, p1, q1, rfl, rfl, rfl, h1, r1⟩ := trodAll_cons r0
  obtain ⟨rfl, rfl, rfl⟩ := trodAll_nil r1
  obtain rfl : args = #[v0, v1] := by cases args; simp_all
  obtain ⟨x0, rfl, rfl, rfl, w0⟩ := open_int Try.underlying3 (hval 0 3 v0 rfl rfl) h0
  obtain ⟨x1, rfl, rfl, rfl, w1⟩ := open_int Try.underlying3 (hval 1 3 v1 rfl rfl) h1
  exact walk x0 x1 W (fits64 w0) (fits64 w1)

theorem over : Rows.numModsRow.holds Try.pinned (OpenSpec.ofChange Rows.numModsSpec) :=
  OpenClaim.holds_of_wide 5 Try.f5 rfl rfl rfl rfl rfl rfl rfl ⟨rfl, rfl, rfl, rfl, rfl⟩ rfl rfl rfl rfl rfl (by kernel_rfl) Try.func5 (by kernel_rfl)
    (of_decide_eq_true (by kernel_rfl)) (by unfold Func.isWrapper; first | (rw [if_pos (by decide +kernel)]; kernel_rfl) | (rw [if_neg (by decide +kernel)]; exact ⟨rfl, rfl⟩))
    (fun os started H enc _ => lifted os started H enc)

theorem proved : Rows.NumModsSaid := over
#print axioms proved
end Go.Proofs.Ytbdlbljjbigjkaa.numMods
