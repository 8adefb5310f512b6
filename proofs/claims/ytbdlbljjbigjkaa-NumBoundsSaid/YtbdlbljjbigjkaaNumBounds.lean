/- The law NumBounds: whether any number lies between any two, and what it is held to, are the document's; what it is held to lies between them, and lies there if it did. No condition. -/
import Derived.Test.YtbdlbljjbigjkaaNumCalls
namespace Go.Proofs.Ytbdlbljjbigjkaa.numBounds
open Go.ChangeShapes Go.WideShapes Go.ChangeAt Go.RowKit

theorem walk (n lo hi : Int) (w : World) :
    Calls Try.prog 3 #[.int .i64 n, .int .i64 lo, .int .i64 hi] w (LawPost w) := by
  by_cases c1 : hi < lo
  · by_cases c2 : lo ≤ n
    · have c3 : ¬ n ≤ hi ∨ n ≤ hi := by omega
      clear c3
      by_cases c4 : n ≤ hi
      · exfalso; omega
      · have c5 : ¬ n < lo := by omega
        have c6 : hi < n := by omega
        have c7 : ¬ lo ≤ hi := by omega
        go_enter Try.func3, Try.ntmps3
        go_wp2_with (first | (go_at_call 18; refine (lives_any _).mono ?_; rintro e w' ⟨rfl, hbw⟩) | go_in)
        go_ret
        exact ⟨rfl, hbw⟩
    · have c5 : n < lo := by omega
      go_enter Try.func3, Try.ntmps3
      go_wp2_with (first | (go_at_call 18; refine (lives_any _).mono ?_; rintro e w' ⟨rfl, hbw⟩) | go_in)
      go_ret
      exact ⟨rfl, hbw⟩
  · have c0 : lo ≤ hi := by omega
    by_cases c2 : n < lo
    · have c3 : ¬ lo ≤ n := by omega
      have c4 : (lo == n) = false := by simp; omega
      go_enter Try.func3, Try.ntmps3
      go_wp2_with (first | (go_at_call 18; refine (lives_any _).mono ?_; rintro e w' ⟨rfl, hbw⟩) | go_in)
      go_ret
      exact ⟨rfl, hbw⟩
    · have c3 : lo ≤ n := by omega
      by_cases c4 : hi < n
      · have c5 : ¬ n ≤ hi := by omega
        have c6 : (hi == n) = false := by simp; omega
        go_enter Try.func3, Try.ntmps3
        go_wp2_with (first | (go_at_call 18; refine (lives_any _).mono ?_; rintro e w' ⟨rfl, hbw⟩) | go_in)
        go_ret
        exact ⟨rfl, hbw⟩
      · have c5 : n ≤ hi := by omega
        go_enter Try.func3, Try.ntmps3
        go_wp2_with (first | (go_at_call 18; refine (lives_any _).mono ?_; rintro e w' ⟨rfl, hbw⟩) | go_in)
        go_ret
        exact ⟨rfl, hbw⟩

theorem lifted (os : Os) (started : os.Started) (H : Type) (enc : TypeId × Value → H) :
    ReturnsInHanded {} Try.checked os 3 .any (Rows.numBoundsSpec.pre6 enc Try.prog Try.f3 Rows.numBoundsRow.domain false) (Rows.numBoundsSpec.post enc Try.prog Try.f3 false true false false) := by
  refine law_lifted started [3, 3, 3] rfl (by kernel_rfl) Try.func3 rfl (by decide +kernel) rfl (fun ds hl => by
    match ds, hl with
    | [_, _, _], _ => rfl) (ChangeSpec.witness6 (enc := enc) (C := Try.checked) false ⟨#[], #[.int .i64 0, .int .i64 0, .int .i64 0], []⟩ 8 (by kernel_rfl) (by kernel_rfl) (by kernel_rfl) (by kernel_rfl)) ?_
  intro W base args ds ps hval hA hlt hsz
  obtain ⟨v0, vs0, d0, ds0, p0, q0, hargs, rfl, rfl, h0, r0⟩ := trodAll_cons hA
  obtain ⟨v1, vs1, d1, ds1, p1, q1, rfl, rfl, rfl, h1, r1⟩ := trodAll_cons r0
  obtain ⟨v2, vs2, d2, ds2, p2, q2, rfl, rfl, rfl, h2, r2⟩ := trodAll_cons r1
  obtain ⟨rfl, rfl, rfl⟩ := trodAll_nil r2
  obtain rfl : args = #[v0, v1, v2] := by cases args; simp_all
  obtain ⟨x0, rfl, rfl, rfl, w0⟩ := open_int Try.underlying3 (hval 0 3 v0 rfl rfl) h0
  obtain ⟨x1, rfl, rfl, rfl, w1⟩ := open_int Try.underlying3 (hval 1 3 v1 rfl rfl) h1
  obtain ⟨x2, rfl, rfl, rfl, w2⟩ := open_int Try.underlying3 (hval 2 3 v2 rfl rfl) h2
  exact walk x0 x1 x2 W

theorem over : Rows.numBoundsRow.holds Try.pinned (OpenSpec.ofChange Rows.numBoundsSpec) :=
  OpenClaim.holds_of_wide 3 Try.f3 rfl rfl rfl rfl rfl rfl rfl ⟨rfl, rfl, rfl, rfl, rfl⟩ rfl rfl rfl rfl rfl (by kernel_rfl) Try.func3 (by kernel_rfl)
    (of_decide_eq_true (by kernel_rfl)) (by unfold Func.isWrapper; first | (rw [if_pos (by decide +kernel)]; kernel_rfl) | (rw [if_neg (by decide +kernel)]; exact ⟨rfl, rfl⟩))
    (fun os started H enc _ => lifted os started H enc)

theorem proved : Rows.NumBoundsSaid := over
#print axioms proved
end Go.Proofs.Ytbdlbljjbigjkaa.numBounds
