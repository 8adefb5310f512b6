/- The law NumBack: digits lead to a number that leads back to them, a number to digits that lead back to it: of any number, digits and bases; nothing that was there is changed. No condition. -/
import Derived.Test.YtbdlbljjbigjkaaNumCalls
namespace Go.Proofs.Ytbdlbljjbigjkaa.numBack
open Go.ChangeShapes Go.WideShapes Go.ChangeAt Go.RowKit

theorem walk (n : Int) (A B : Option Addr) (c d : Nat) (ds bs : List Int) (w : World) (hn1 : -9223372036854775808 ≤ n) (hn2 : n ≤ 9223372036854775807) (hA : IA w A ds) (hB : IA w B bs) (hd : W64 ds) (hb : W64 bs) (hdl : 8 * ds.length ≤ 140737488355328) (hbl : 8 * bs.length ≤ 140737488355328) :
    Calls Try.prog 8 #[.int .i64 n, .slice A ds.length c, .slice B bs.length d] w (LawPost w) := by
  have h1 : ds.length ≤ maxLen := by unfold maxLen; omega
  have h2 : bs.length ≤ maxLen := by unfold maxLen; omega
  have h3 : 8 * bs.length ≤ 281474976710656 := by omega
  have HA := Lib.hid hA
  have HB := Lib.hid hB
  have WA := Lib.hid hd
  have WB := Lib.hid hb
  clear hA hB hd hb
  cases hr : rankF ds bs with
  | none =>
    have HR := Lib.hid hr
    clear hr
    cases hu : unrankF n bs with
    | none =>
      have HU := Lib.hid hu
      clear hu
      go_enter Try.func8, Try.ntmps8
      go_wp2_with fail
      refine (rank_none HR.out HA.out HB.out WA.out WB.out h1 h2).mono ?_
      rintro e w' ⟨rfl, rfl⟩
      have HB1 := HB
      have hbB : Below w.heap.size w w := Below.refl _ _
      go_wp2_with fail
      refine (unrank_none HU.out HB1.out WB.out h3 hn1 hn2).mono ?_
      rintro e w4 ⟨rfl, hb4⟩
      have hB4 : Below w.heap.size w w4 := hbB.trans (hb4.mono hbB.size)
      clear hb4
      go_wp2_with fail
      refine (lives_any _).mono ?_
      rintro e w6 ⟨rfl, hb6⟩
      go_wp2
      go_ret
      exact ⟨rfl, hB4.trans (hb6.mono hB4.size)⟩
    | some l =>
      have HU := Lib.hid hu
      have HK : Hid (rankF l bs = some n) := Lib.hid (rankF_of_unrank hu).1
      have WL : Hid (W64 l) := Lib.hid (unrankF_w64 hu)
      have HLL : Hid (l.length ≤ maxLen) := Lib.hid (by rw [(rankF_of_unrank hu).2]; exact h2)
      clear hu
      go_enter Try.func8, Try.ntmps8
      go_wp2_with fail
      refine (rank_none HR.out HA.out HB.out WA.out WB.out h1 h2).mono ?_
      rintro e w' ⟨rfl, rfl⟩
      have HB1 := HB
      have hbB : Below w.heap.size w w := Below.refl _ _
      go_wp2_with fail
      refine (unrank_some HU.out HB1.out WB.out h3 hn1 hn2).mono ?_
      rintro e w4 ⟨g4, rfl, hb4, hi4⟩
      have HI4 := Lib.hid hi4
      have HB4 := Lib.hid (HB1.out.below hb4)
      have hB4 : Below w.heap.size w w4 := hbB.trans (hb4.mono hbB.size)
      clear hb4 hi4
      go_wp2_with fail
      refine (rank_some HK.out HI4.out HB4.out WL.out WB.out HLL.out h2).mono ?_
      rintro e w5 ⟨rfl, rfl⟩
      go_wp2_with fail
      refine (lives_any _).mono ?_
      rintro e w6 ⟨rfl, hb6⟩
      go_wp2
      go_ret
      exact ⟨rfl, hB4.trans (hb6.mono hB4.size)⟩
  | some k =>
    have HR := Lib.hid hr
    have HV : Hid (unrankF k bs = some ds) := Lib.hid (unrankF_of_rank hr).1
    have k1 := (unrankF_of_rank hr).2.1
    have k2 := (unrankF_of_rank hr).2.2
    clear hr
    cases hu : unrankF n bs with
    | none =>
      have HU := Lib.hid hu
      clear hu
      go_enter Try.func8, Try.ntmps8
      go_wp2_with fail
      refine (rank_some HR.out HA.out HB.out WA.out WB.out h1 h2).mono ?_
      rintro e w' ⟨rfl, rfl⟩
      go_wp2_with fail
      refine (unrank_some HV.out HB.out WB.out h3 (by omega) (by omega)).mono ?_
      rintro e w2 ⟨g, rfl, hb2, hi2⟩
      have HI2 := Lib.hid hi2
      have HA2 := Lib.hid (HA.out.below hb2)
      have HB2 := Lib.hid (HB.out.below hb2)
      clear hi2
      go_wp2_with fail
      refine (same_yes HI2.out HA2.out h1).mono ?_
      rintro e w3 ⟨rfl, j, rfl⟩
      have HB1 := Lib.hid (HB2.out.drewN j)
      have hbB : Below w.heap.size w (w2.drewN j) := below_drewN hb2 j
      clear hb2
      go_wp2_with fail
      refine (unrank_none HU.out HB1.out WB.out h3 hn1 hn2).mono ?_
      rintro e w4 ⟨rfl, hb4⟩
      have hB4 : Below w.heap.size w w4 := hbB.trans (hb4.mono hbB.size)
      clear hb4
      go_wp2_with fail
      refine (lives_any _).mono ?_
      rintro e w6 ⟨rfl, hb6⟩
      go_wp2
      go_ret
      exact ⟨rfl, hB4.trans (hb6.mono hB4.size)⟩
    | some l =>
      have HU := Lib.hid hu
      have HK : Hid (rankF l bs = some n) := Lib.hid (rankF_of_unrank hu).1
      have WL : Hid (W64 l) := Lib.hid (unrankF_w64 hu)
      have HLL : Hid (l.length ≤ maxLen) := Lib.hid (by rw [(rankF_of_unrank hu).2]; exact h2)
      clear hu
      go_enter Try.func8, Try.ntmps8
      go_wp2_with fail
      refine (rank_some HR.out HA.out HB.out WA.out WB.out h1 h2).mono ?_
      rintro e w' ⟨rfl, rfl⟩
      go_wp2_with fail
      refine (unrank_some HV.out HB.out WB.out h3 (by omega) (by omega)).mono ?_
      rintro e w2 ⟨g, rfl, hb2, hi2⟩
      have HI2 := Lib.hid hi2
      have HA2 := Lib.hid (HA.out.below hb2)
      have HB2 := Lib.hid (HB.out.below hb2)
      clear hi2
      go_wp2_with fail
      refine (same_yes HI2.out HA2.out h1).mono ?_
      rintro e w3 ⟨rfl, j, rfl⟩
      have HB1 := Lib.hid (HB2.out.drewN j)
      have hbB : Below w.heap.size w (w2.drewN j) := below_drewN hb2 j
      clear hb2
      go_wp2_with fail
      refine (unrank_some HU.out HB1.out WB.out h3 hn1 hn2).mono ?_
      rintro e w4 ⟨g4, rfl, hb4, hi4⟩
      have HI4 := Lib.hid hi4
      have HB4 := Lib.hid (HB1.out.below hb4)
      have hB4 : Below w.heap.size w w4 := hbB.trans (hb4.mono hbB.size)
      clear hb4 hi4
      go_wp2_with fail
      refine (rank_some HK.out HI4.out HB4.out WL.out WB.out HLL.out h2).mono ?_
      rintro e w5 ⟨rfl, rfl⟩
      go_wp2_with fail
      refine (lives_any _).mono ?_
      rintro e w6 ⟨rfl, hb6⟩
      go_wp2
      go_ret
      exact ⟨rfl, hB4.trans (hb6.mono hB4.size)⟩

theorem lifted (os : Os) (started : os.Started) (H : Type) (enc : TypeId × Value → H) :
    ReturnsInHanded {} Try.checked os 8 .any (Rows.numBackSpec.pre6 enc Try.prog Try.f8 Rows.numBackRow.domain false) (Rows.numBackSpec.post enc Try.prog Try.f8 false true false false) := by
  refine law_lifted started [3, 29, 29] rfl (by kernel_rfl) Try.func8 rfl (by decide +kernel) rfl (fun ds hl => by
    match ds, hl with
    | [_, _, _], _ => rfl) (ChangeSpec.witness6 (enc := enc) (C := Try.checked) false ⟨#[], #[.int .i64 0, .slice none 0 0, .slice none 0 0], []⟩ 8 (by kernel_rfl) (by kernel_rfl) (by kernel_rfl) (by kernel_rfl)) ?_
  intro W base args ds ps hval hA hlt hsz
  obtain ⟨v0, vs0, d0, ds0, p0, q0, hargs, rfl, rfl, h0, r0⟩ := trodAll_cons hA
  obtain ⟨v1, vs1, d1, ds1, p1, q1, rfl, rfl, rfl, h1, r1⟩ := trodAll_cons r0
  obtain ⟨v2, vs2, d2, ds2, p2, q2, rfl, rfl, rfl, h2, r2⟩ := trodAll_cons r1
  obtain ⟨rfl, rfl, rfl⟩ := trodAll_nil r2
  obtain rfl : args = #[v0, v1, v2] := by cases args; simp_all
  obtain ⟨x0, rfl, rfl, rfl, w0⟩ := open_int Try.underlying3 (hval 0 3 v0 rfl rfl) h0
  obtain ⟨A1, c1, x1, rfl, b1, i1, z1⟩ := open_ints_arg (hval 1 29 v1 rfl rfl) h1 hsz 1 rfl rfl
  obtain ⟨A2, c2, x2, rfl, b2, i2, z2⟩ := open_ints_arg (hval 2 29 v2 rfl rfl) h2 hsz 2 rfl rfl
  exact walk x0 A1 A2 c1 c2 x1 x2 W (fits64 w0).1 (fits64 w0).2 i1 i2 z1 z2 b1 b2

theorem over : Rows.numBackRow.holds Try.pinned (OpenSpec.ofChange Rows.numBackSpec) :=
  OpenClaim.holds_of_wide 8 Try.f8 rfl rfl rfl rfl rfl rfl rfl ⟨rfl, rfl, rfl, rfl, rfl⟩ rfl rfl rfl rfl rfl (by kernel_rfl) Try.func8 (by kernel_rfl)
    (of_decide_eq_true (by kernel_rfl)) (by unfold Func.isWrapper; first | (rw [if_pos (by decide +kernel)]; kernel_rfl) | (rw [if_neg (by decide +kernel)]; exact ⟨rfl, rfl⟩))
    (fun os started H enc _ => lifted os started H enc)

theorem proved : Rows.NumBackSaid := over
#print axioms proved
end Go.Proofs.Ytbdlbljjbigjkaa.numBack
