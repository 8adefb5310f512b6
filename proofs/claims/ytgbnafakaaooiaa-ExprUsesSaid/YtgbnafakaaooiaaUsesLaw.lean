/- Proved is the law ExprUses of layer 10 (expr): it returns true for every input, and the argument reads behind the call as it read before. -/
import Derived.Test.YtgbnafakaaooiaaUsesDoc
import Derived.Test.YtgbnafakaaooiaaExprLives
import Derived.Test.YtgbnafakaaooiaaOpensN
import Derived.Test.YtgbnafakaaooiaaRows
import Derived.Carry
import Derived.SizedLaws
namespace Go.Proofs.Ytgbnafakaaooiaa.exprUses
open Go.ChangeShapes Go.WideShapes Go.ChangeAt Go.RowKit Go.Proofs.Ytgbnafakaaooiaa.sr Go.Proofs.Ytgbnafakaaooiaa.us

set_option maxRecDepth 100000 in
set_option maxHeartbeats 4000000 in
theorem refSame_any (L : List (Int × Int)) (A1 A2 : Option Addr) (n c1 c2 : Nat) (w : World) (h1 : n = L.length) (hz : n ≤ 1000000) (hr1 : RS encN 2 w A1 L) (hr2 : RS encN 2 w A2 L) :
    Calls Try.prog 5 #[.slice A1 n c1, .slice A2 n c2] w fun e w' => e = .returned (.bool true) ∧ Below w.heap.size w w' := by
  have HR1 := Lib.hid hr1
  have HR2 := Lib.hid hr2
  have HN1 := Lib.hid h1
  clear hr1 hr2 h1
  go_enter Try.func5, Try.ntmps5
  go_wp2
  go_loopw [5] (fun i wr => ∃ k j : Nat, k ≤ n ∧ i = .int .i64 k ∧ wr = w.drewN j) (fun i _ => n - (intOf i).toNat)
  case atStart => exact ⟨0, 0, Nat.zero_le _, rfl, rfl⟩
  case round =>
    obtain ⟨k, j, hk, rfl, rfl⟩ := hrel
    by_cases hlt : k < n
    · obtain ⟨b, o, rfl, hb, hc⟩ := HR1.out (by rw [← HN1.out]; omega)
      obtain ⟨d, p, rfl, hd, hq⟩ := HR2.out (by rw [← HN1.out]; omega)
      have a0 := hc k (by rw [← HN1.out]; exact hlt) 0 (by decide)
      have a1 := hc k (by rw [← HN1.out]; exact hlt) 1 (by decide)
      have b0 := hq k (by rw [← HN1.out]; exact hlt) 0 (by decide)
      have b1 := hq k (by rw [← HN1.out]; exact hlt) 1 (by decide)
      generalize L.getD k default = t at a0 a1 b0 b1
      obtain ⟨t0, t1⟩ := t
      simp only [encN, List.getElem?_cons_zero, List.getElem?_cons_succ, Nat.add_zero] at a0 a1 b0 b1
      have hi9 : (k : Int) < (n : Int) := by omega
      clear hc hq
      go_wp2
      go_quiet (fail)
      go_wp2
      go_roundw
      case rel => exact ⟨k + 1, _, by omega, by go_num, rfl⟩
      case measure => simp [intOf]; omega
    · obtain rfl : k = n := by omega
      have HB := Lib.hid (below_drewN (Below.refl w.heap.size w) j)
      go_wp2
      go_ret
      exact ⟨rfl, HB.out⟩
theorem pa_rs {w : World} {A : Option Addr} {E : List (Int × Int)} (h : PA w A E) : RS encN 2 w A E := fun hn => by
  obtain ⟨b, off, e, hb, hc⟩ := h hn
  refine ⟨b, off, e, hb, fun i hi j hj => ?_⟩
  obtain rfl | rfl : j = 0 ∨ j = 1 := by omega
  · exact (hc i hi).1
  · exact (hc i hi).2
theorem large (A : Option Addr) (c n : Nat) (w : World) (h : 300 < n) (hl : 16 * n ≤ 140737488355328) : Calls Try.prog 3 #[.slice A n c] w (LawPost w) := by
  have h' : (300 : Int) < (n : Int) := by omega
  go_enter Try.func3, Try.ntmps3
  go_wp2_with fail
  refine (lives_any _).mono ?_
  rintro x w1 ⟨rfl, hb1⟩
  go_wp2
  go_ret
  exact ⟨rfl, hb1⟩
set_option maxRecDepth 100000 in
set_option maxHeartbeats 4000000 in
theorem small (A : Option Addr) (c m : Nat) (e : List (Int × Int)) (w : World) (hm : m = e.length) (h : m ≤ 300) (hA : PA w A e) : Calls Try.prog 3 #[.slice A m c] w (LawPost w) := by
  have HM := Lib.hid hm
  have HA := Lib.hid (pa_rs hA)
  have h' : ¬ (300 : Int) < (m : Int) := by omega
  have HDL : Hid ((docU e).length ≤ 1500) := Lib.hid (by
    have := docPart_len e 5 (by decide)
    rw [docPart_all] at this
    omega)
  clear hm hA
  go_enter Try.func3, Try.ntmps3
  go_wp2_with fail
  refine (uses_any e A m c w HM.out (by omega) HA.out).mono ?_
  rintro x w1 ⟨A1, c1, rfl, hr1, hb1⟩
  have HR1 := Lib.hid hr1
  have HB1 := Lib.hid hb1
  clear hr1 hb1
  obtain ⟨n, HN⟩ : ∃ n, Hid (n = (docU e).length) := ⟨_, Lib.hid rfl⟩
  rw [← HN.out]
  go_wp2_with fail
  refine (refUses_any e A m c w1 HM.out (by omega) (HA.out.below HB1.out)).mono ?_
  rintro x w2 ⟨A2, c2, rfl, hr2, hb2⟩
  have HR2 := Lib.hid hr2
  have HR12 := Lib.hid (HR1.out.below hb2)
  have HB2 : Hid (Below w.heap.size w w2) := Lib.hid (HB1.out.trans (hb2.mono HB1.out.size))
  clear hr2 hb2
  rw [← HN.out]
  go_wp2_with fail
  refine (refSame_any (docU e) A1 A2 n c1 c2 w2 HN.out (by have := HDL.out; have := HN.out; omega) HR12.out HR2.out).mono ?_
  rintro x w3 ⟨rfl, hb3⟩
  have HB3 : Hid (Below w.heap.size w w3) := Lib.hid (HB2.out.trans (hb3.mono HB2.out.size))
  clear hb3
  go_wp2_with fail
  refine (lives_any w3).mono ?_
  rintro x w4 ⟨rfl, hb4⟩
  have HB4 : Hid (Below w.heap.size w w4) := Lib.hid (HB3.out.trans (hb4.mono HB3.out.size))
  clear hb4
  go_wp2
  go_ret
  exact ⟨rfl, HB4.out⟩
theorem walk (A : Option Addr) (c : Nat) (e : List (Int × Int)) (w : World) (hl : 16 * e.length ≤ 140737488355328) (hA : PA w A e) : Calls Try.prog 3 #[.slice A e.length c] w (LawPost w) := by
  by_cases h : 300 < e.length
  · exact large A c _ w h (by omega)
  · exact small A c _ e w rfl (by omega) hA

set_option maxRecDepth 100000 in
theorem lifted (os : Os) (started : os.Started) (H : Type) (enc : TypeId × Value → H) :
    ReturnsInHanded {} Try.checked os 3 .any (Rows.exprUsesSpec.pre6 enc Try.prog Try.f3 Rows.exprUsesRow.domain false) (Rows.exprUsesSpec.post enc Try.prog Try.f3 false true false false) := by
  refine law_lifted started [22] rfl (by kernel_rfl) Try.func3 rfl (by decide +kernel) rfl (fun ds hl => by
    match ds, hl with
    | [_], _ => rfl) (ChangeSpec.witness6 (enc := enc) (C := Try.checked) false ⟨#[], #[.slice none 0 0], []⟩ 8 (by kernel_rfl) (by kernel_rfl) (by kernel_rfl) (by kernel_rfl)) ?_
  intro W base args ds ps hval hA hlt hsz
  obtain ⟨v0, vs0, d0, ds0, p0, q0, hargs, rfl, rfl, h0, r0⟩ := trodAll_cons hA
  obtain ⟨rfl, rfl, rfl⟩ := trodAll_nil r0
  obtain rfl : args = #[v0] := by cases args; simp_all
  obtain ⟨A0, c0, x0, rfl, b0, q0, m0, i0, z0⟩ := open_pairs_arg Try.underlying22 Try.underlying28 (by kernel_rfl) (by kernel_rfl) rfl rfl rfl rfl (hval 0 22 v0 rfl rfl) h0 hsz 0 rfl rfl
  exact walk A0 c0 x0 W b0 i0

set_option maxRecDepth 100000 in
theorem over : Rows.exprUsesRow.holds Try.pinned (OpenSpec.ofChange Rows.exprUsesSpec) :=
  OpenClaim.holds_of_wide 3 Try.f3 rfl rfl rfl rfl rfl rfl rfl ⟨rfl, rfl, rfl, rfl, rfl⟩ rfl rfl rfl rfl rfl (by kernel_rfl) Try.func3 (by kernel_rfl)
    (of_decide_eq_true (by kernel_rfl)) (by unfold Func.isWrapper; first | (rw [if_pos (by decide +kernel)]; kernel_rfl) | (rw [if_neg (by decide +kernel)]; exact ⟨rfl, rfl⟩))
    (fun os started H enc _ => lifted os started H enc)

theorem proved : Rows.ExprUsesSaid := over
#print axioms proved
end Go.Proofs.Ytgbnafakaaooiaa.exprUses
