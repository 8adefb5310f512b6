/- The law ChansItems: how many values any numbers have as cells, and which, are the document's, and nothing that was there is changed. No condition. -/
import Derived.Test.YtmebajighiedaaaChLaw
namespace Go.Proofs.Ytmebajighiedaaa.chansItems
open Go.ChangeShapes Go.WideShapes Go.ChangeAt Go.RowKit Go.Proofs.Ytmebajighiedaaa.ch

set_option maxHeartbeats 1000000 in
theorem walk (A : Option Addr) (c m : Nat) (l : List Int) (w : World) (hm : m = l.length) (hI : InS w A c l) (hl : 8 * m ≤ 140737488355328) :
    Calls Try.prog 3 #[.slice A m c] w (LawPost w) := by
  have HM := Lib.hid hm
  have HI := Lib.hid hI
  have HL := Lib.hid hl
  have HLE : Hid (m ≤ c) := Lib.hid (by rw [hm]; exact hI.le)
  have HN : Hid ((itemsF l).length ≤ maxLen) := Lib.hid (by have := items_le l; unfold maxLen; omega)
  clear hm hI
  go_enter Try.func3, Try.ntmps3
  go_wp2_with fail
  refine (len_any A c m l w HM.out HI.out.ia HLE.out HI.out.max HL.out).mono ?_
  rintro e w1 ⟨rfl, hb1⟩
  have HB1 := Lib.hid hb1
  clear hb1
  obtain ⟨n, HLN⟩ : ∃ n, Hid (n = (itemsF l).length) := ⟨_, Lib.hid rfl⟩
  rw [← HLN.out]
  go_wp2_with fail
  refine (refLen_any A c m l w1 HM.out (HI.out.ia.below HB1.out) HL.out).mono ?_
  rintro e w2 ⟨rfl, hb2⟩
  have HB2 := Lib.hid (HB1.out.trans (hb2.mono HB1.out.size))
  clear hb2
  rw [← HLN.out]
  go_wp2_with fail
  refine (items_any A c m l w2 HM.out (HI.out.ia.below HB2.out) HLE.out HI.out.max HL.out).mono ?_
  rintro e w3 ⟨A3, c3, rfl, h3, hb3, _⟩
  have H3 := Lib.hid h3.ia
  have HB3 := Lib.hid (HB2.out.trans (hb3.mono HB2.out.size))
  clear h3 hb3
  rw [← HLN.out]
  go_wp2_with fail
  refine (refItems_any A c m l w3 HM.out (HI.out.ia.below HB3.out) HL.out).mono ?_
  rintro e w4 ⟨v4, rfl, ho4, hb4⟩
  obtain ⟨A4, c4, rfl, h4, _⟩ := ho4.ins
  have H4 := Lib.hid h4.ia
  have H34 := Lib.hid (H3.out.below hb4)
  have HB4 := Lib.hid (HB3.out.trans (hb4.mono HB3.out.size))
  clear h4 hb4 ho4
  rw [← HLN.out]
  go_wp2_with fail
  refine (same_any A3 A4 c3 c4 n n (itemsF l) (itemsF l) w4 HLN.out HLN.out H34.out H4.out HN.out HN.out).mono ?_
  rintro e w5 ⟨rfl, j, rfl⟩
  rw [eqB_same]
  have HB5 := Lib.hid (below_drewN HB4.out j)
  generalize w4.drewN j = w5 at HB5 ⊢
  go_wp2_with fail
  refine (lives_any w5).mono ?_
  rintro e w6 ⟨rfl, hb6⟩
  have HB6 := Lib.hid (HB5.out.trans (hb6.mono HB5.out.size))
  clear hb6
  go_wp2_with fail
  go_ret
  exact ⟨rfl, HB6.out⟩

set_option maxRecDepth 100000 in
theorem lifted (os : Os) (started : os.Started) (H : Type) (enc : TypeId × Value → H) :
    ReturnsInHanded {} Try.checked os 3 .any (Rows.chansItemsSpec.pre6 enc Try.prog Try.f3 Rows.chansItemsRow.domain false) (Rows.chansItemsSpec.post enc Try.prog Try.f3 false true false false) := by
  refine law_lifted started [22] rfl (by kernel_rfl) Try.func3 rfl (by decide +kernel) rfl (fun ds hl => by
    match ds, hl with
    | [_], _ => rfl) (ChangeSpec.witness6 (enc := enc) (C := Try.checked) false ⟨#[], #[.slice none 0 0], []⟩ 8 (by kernel_rfl) (by kernel_rfl) (by kernel_rfl) (by kernel_rfl)) ?_
  intro W base args ds ps hval hA hlt hsz
  obtain ⟨v0, vs0, d0, ds0, p0, q0, hargs, rfl, rfl, h0, r0⟩ := trodAll_cons hA
  obtain ⟨rfl, rfl, rfl⟩ := trodAll_nil r0
  obtain rfl : args = #[v0] := by cases args; simp_all
  obtain ⟨A0, c0, x0, rfl, b0, i0, z0⟩ := open_ins_arg (hval 0 22 v0 rfl rfl) h0 hsz 0 rfl rfl
  exact walk A0 c0 _ x0 W rfl i0 b0

set_option maxRecDepth 100000 in
theorem over : Rows.chansItemsRow.holds Try.pinned (OpenSpec.ofChange Rows.chansItemsSpec) :=
  OpenClaim.holds_of_wide 3 Try.f3 rfl rfl rfl rfl rfl rfl rfl ⟨rfl, rfl, rfl, rfl, rfl⟩ rfl rfl rfl rfl rfl (by kernel_rfl) Try.func3 (by kernel_rfl)
    (of_decide_eq_true (by kernel_rfl)) (by unfold Func.isWrapper; first | (rw [if_pos (by decide +kernel)]; kernel_rfl) | (rw [if_neg (by decide +kernel)]; exact ⟨rfl, rfl⟩))
    (fun os started H enc _ => lifted os started H enc)

theorem proved : Rows.ChansItemsSaid := over
#print axioms proved
end Go.Proofs.Ytmebajighiedaaa.chansItems
