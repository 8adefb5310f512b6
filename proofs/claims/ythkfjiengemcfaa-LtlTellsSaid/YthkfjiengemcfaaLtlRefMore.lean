/- The document's Props and Next. -/
import Derived.Test.YthkfjiengemcfaaLtlProps
import Derived.Test.YthkfjiengemcfaaLtlNext
import Derived.Test.YthkfjiengemcfaaLtlWrong
namespace Go.Proofs.Ythkfjiengemcfaa.lt
open Go.ChangeShapes Go.WideShapes Go.ChangeAt Go.RowKit

set_option maxRecDepth 20000 in
set_option maxHeartbeats 4000000 in
theorem refProps_any (e : List (Int × Int)) (A : Option Addr) (c m : Nat) (w : World) (hm : m = e.length) (hm2 : m ≤ 1000) (hA : PA w A e) :
    Calls Try.prog 12 #[.slice A m c] w fun x w' => x = .returned (.int .u64 ((propsF e : Nat) : Int)) ∧ w = w' := by
  have HM := Lib.hid hm
  have HA := Lib.hid hA
  have HK := Lib.hid (refIs_any e A c m w hm hm2 hA)
  clear hm hA
  obtain ⟨z, HZ⟩ : ∃ z, Hid (isF e = z) := ⟨_, Lib.hid rfl⟩
  obtain ⟨r, HR⟩ : ∃ r, Hid (propsF e = r) := ⟨_, Lib.hid rfl⟩
  rw [HR.out]
  go_enter Try.func12, Try.ntmps12
  go_wp2_with fail
  refine HK.out.mono ?_
  rintro x w1 ⟨rfl, rfl⟩
  rw [HZ.out]
  clear HK
  cases z with
  | true =>
    have HI : Hid (wrF 0 e = 0) := Lib.hid (isF_iff.1 HZ.out)
    have HU : Hid (r = prK e m) := Lib.hid (by rw [← HR.out]; unfold propsF; rw [if_pos HZ.out, HM.out])
    go_wp2
    go_loop [3, 4] (fun pv iv => ∃ (i : Nat), i ≤ m ∧ iv = .int .i64 i ∧ pv = .int .u64 ((prK e i : Nat) : Int)) (fun _ iv => m - (intOf iv).toNat)
    case atStart => exact ⟨0, Nat.zero_le _, rfl, rfl⟩
    case round =>
      obtain ⟨i, hi, rfl, rfl⟩ := hrel
      by_cases hlt : i < m
      · obtain ⟨b, o, rfl, hb, hc⟩ := HA.out (by rw [← HM.out]; omega)
        obtain ⟨c1, c2⟩ := hc i (by rw [← HM.out]; exact hlt)
        have HP8 : Hid (prK e i < 256) := Lib.hid (prK_lt HI.out i (by rw [← HM.out]; omega))
        have HN8 : Hid ((e.getD i (0, 0)).1 = 3 → 0 ≤ (e.getD i (0, 0)).2 ∧ (e.getD i (0, 0)).2 < 8) := Lib.hid (by
          obtain ⟨st, _, h3⟩ := Ok.of_is HI.out i (by rw [← HM.out]; omega)
          exact (ndW_ok (h3 (by rw [← HM.out]; exact hlt))).2.2)
        have HS : Hid (prK e (i + 1) = prK e i ||| pn (e.getD i (0, 0))) := Lib.hid rfl
        obtain ⟨op, q, HND⟩ : ∃ op q, Hid (e.getD i (0, 0) = (op, q)) := ⟨_, _, Lib.hid rfl⟩
        rw [HND.out] at c1 c2 HN8 HS
        simp only at c1 c2
        obtain ⟨p, HPP⟩ : ∃ p, Hid (prK e i = p) := ⟨_, Lib.hid rfl⟩
        rw [HPP.out] at HP8 HS ⊢
        clear hc
        by_cases h3 : op = 3
        · subst h3
          obtain ⟨q0, q8⟩ := HN8.out rfl
          simp only at q0 q8
          obtain ⟨own, HOW⟩ : ∃ own, Hid (pn (3, q) = own) := ⟨_, Lib.hid rfl⟩
          have HO8 : Hid (own < 256) := Lib.hid (by rw [← HOW.out]; exact pn_lt HN8.out)
          have HPW : Hid (IntKind.u64.wrap (2 ^ q.toNat) = (own : Int)) := Lib.hid (by
            rw [← HOW.out]
            unfold pn
            rw [if_pos rfl]
            have : q = 0 ∨ q = 1 ∨ q = 2 ∨ q = 3 ∨ q = 4 ∨ q = 5 ∨ q = 6 ∨ q = 7 := by omega
            rcases this with rfl | rfl | rfl | rfl | rfl | rfl | rfl | rfl <;> decide)
          rw [HOW.out] at HS
          go_wp2
          go_round
          case rel => exact ⟨i + 1, by omega, by go_num, by rw [HS.out, ← or_u64 p own HP8.out HO8.out]; first | rw [HPW.out] | (rw [← HPW.out]; rfl)⟩
          case measure => simp [intOf]; omega
        · have HE : Hid (prK e (i + 1) = p) := Lib.hid (by rw [HS.out]; unfold pn; rw [if_neg h3, Nat.or_zero])
          go_wp2
          go_round
          case rel => exact ⟨i + 1, by omega, by go_num, by rw [HE.out]⟩
          case measure => simp [intOf]; omega
      · obtain rfl : i = m := by omega
        rw [← HU.out]
        go_wp2
        go_ret
        exact ⟨rfl, rfl⟩
  | false =>
    have HU : Hid (r = 0) := Lib.hid (by rw [← HR.out]; unfold propsF; rw [HZ.out]; rfl)
    go_wp2
    go_ret
    exact ⟨by rw [HU.out]; rfl, rfl⟩
set_option maxRecDepth 20000 in
set_option maxHeartbeats 4000000 in
theorem refNext_any (e : List (Int × Int)) (A : Option Addr) (c m : Nat) (w : World) (hm : m = e.length) (hm2 : m ≤ 1000) (hA : PA w A e) :
    Calls Try.prog 14 #[.slice A m c] w fun x w' => x = .returned (.bool (nextF e)) ∧ w = w' := by
  have HM := Lib.hid hm
  have HA := Lib.hid hA
  have HK := Lib.hid (refIs_any e A c m w hm hm2 hA)
  clear hm hA
  obtain ⟨r, HR⟩ : ∃ r, Hid (nextF e = r) := ⟨_, Lib.hid rfl⟩
  rw [HR.out]
  go_enter Try.func14, Try.ntmps14
  go_wp2
  go_loop [3] (fun iv => ∃ (i : Nat), i ≤ m ∧ iv = .int .i64 i ∧ Hid (nxK e i = false)) (fun iv => m - (intOf iv).toNat)
  case atStart => exact ⟨0, Nat.zero_le _, rfl, Lib.hid (by simp [nxK])⟩
  case round =>
    obtain ⟨i, hi, rfl, HF⟩ := hrel
    by_cases hlt : i < m
    · obtain ⟨b, o, rfl, hb, hc⟩ := HA.out (by rw [← HM.out]; omega)
      obtain ⟨c1, _⟩ := hc i (by rw [← HM.out]; exact hlt)
      have HS := Lib.hid (nxK_succ (e := e) (k := i) (by rw [← HM.out]; exact hlt))
      obtain ⟨op, HOP⟩ : ∃ op, Hid ((e.getD i (0, 0)).1 = op) := ⟨_, Lib.hid rfl⟩
      rw [HOP.out, HF.out] at HS
      rw [HOP.out] at c1
      clear hc
      by_cases h8 : op = 8
      · subst h8
        have HE : Hid (r = isF e) := Lib.hid (by
          rw [← HR.out]
          unfold nextF
          have h : nxK e e.length = true := by
            unfold nxK
            rw [List.take_length, List.any_eq_true]
            have hil : i < e.length := by rw [← HM.out]; exact hlt
            refine ⟨e[i], List.getElem_mem hil, ?_⟩
            have e1 : e.getD i (0, 0) = e[i] := by simp [List.getD, hil]
            rw [← e1, HOP.out]
            rfl
          rw [h, Bool.and_true])
        obtain ⟨z, HZ⟩ : ∃ z, Hid (isF e = z) := ⟨_, Lib.hid rfl⟩
        go_wp2_with fail
        refine HK.out.mono ?_
        rw [HZ.out]
        rintro x w1 ⟨rfl, rfl⟩
        go_wp2
        go_ret
        exact ⟨by rw [HE.out, HZ.out]; rfl, rfl⟩
      · have HE : Hid (nxK e (i + 1) = false) := Lib.hid (by rw [HS.out, decide_eq_false h8]; rfl)
        go_wp2
        go_round
        case rel => exact ⟨i + 1, by omega, by go_num, HE⟩
        case measure => simp [intOf]; omega
    · obtain rfl : i = m := by omega
      have HE : Hid (r = false) := Lib.hid (by rw [← HR.out]; unfold nextF; rw [← HM.out, HF.out, Bool.and_false])
      go_wp2
      go_ret
      exact ⟨by rw [HE.out]; rfl, rfl⟩
end Go.Proofs.Ythkfjiengemcfaa.lt
