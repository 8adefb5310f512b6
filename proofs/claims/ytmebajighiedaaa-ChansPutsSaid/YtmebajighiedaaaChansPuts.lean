/- The law ChansPuts: what any cells are behind any value, and without their first one, or that they can't be, is the document's; what was handed in stays. No condition. -/
import Derived.Test.YtmebajighiedaaaChLaw
namespace Go.Proofs.Ytmebajighiedaaa.chansPuts
open Go.ChangeShapes Go.WideShapes Go.ChangeAt Go.RowKit Go.Proofs.Ytmebajighiedaaa.ch

set_option maxHeartbeats 2000000 in
theorem walk (A : Option Addr) (c m : Nat) (l : List Int) (v : Int) (w : World) (hm : m = l.length) (hI : InS w A c l) (hl : 8 * m ≤ 140737488355328) :
    Calls Try.prog 4 #[.slice A m c, .int .i64 v] w (LawPost w) := by
  have HM := Lib.hid hm
  have HI := Lib.hid hI
  have HL := Lib.hid hl
  have HLE : Hid (m ≤ c) := Lib.hid (by rw [hm]; exact hI.le)
  have HLM : Hid (l.length ≤ maxLen) := Lib.hid (by unfold maxLen; omega)
  have HN1 : Hid ((putL l v).length ≤ maxLen) := Lib.hid (by have := put_le l v; unfold maxLen; omega)
  have HN2 : Hid ((takeL l).length ≤ maxLen) := Lib.hid (by have := take_le l; unfold maxLen; omega)
  clear hm hI
  go_enter Try.func4, Try.ntmps4
  go_wp2_with (first | (at_builtin; go_loud (refine append_list8 rfl (.tmp 16) (.tmp 17) rfl w.heap.size _ [] rfl (empty_own w) A m c l HM.out rfl (HI.out.ia.alloc _) HI.out.non (by have := HL.out; have := HM.out; simp; omega) (by simp) ?_); intro v3 w3 ho3 hb3; rw [List.nil_append] at ho3; have HO3 := Lib.hid ho3; have HB1 : Hid (Below w.heap.size w w3) := Lib.hid (((Below.refl _ w).alloc (Nat.le_refl _) _).trans hb3); clear ho3 hb3) | fail)
  obtain ⟨D, d, rfl, hd, _⟩ := HO3.out.ins
  have HD := Lib.hid hd.ia
  rw [← HM.out]
  clear HO3 hd
  refine (put_any A c m l v w3 HM.out (HI.out.ia.below HB1.out) HLE.out HI.out.max HL.out).mono ?_
  rintro e w4 ⟨A4, c4, rfl, h4, hb4, _⟩
  have H4 := Lib.hid h4.ia
  have HD4 := Lib.hid (HD.out.below hb4)
  have HB4 := Lib.hid (HB1.out.trans (hb4.mono HB1.out.size))
  clear h4 hb4 HD
  obtain ⟨n1, HL1⟩ : ∃ n, Hid (n = (putL l v).length) := ⟨_, Lib.hid rfl⟩
  obtain ⟨p1, HP1⟩ : ∃ p, Hid (roomB l = p) := ⟨_, Lib.hid rfl⟩
  obtain ⟨n2, HL2⟩ : ∃ n, Hid (n = (takeL l).length) := ⟨_, Lib.hid rfl⟩
  obtain ⟨p2, HP2⟩ : ∃ p, Hid (someB l = p) := ⟨_, Lib.hid rfl⟩
  obtain ⟨x2, HX2⟩ : ∃ p, Hid (takeV l = p) := ⟨_, Lib.hid rfl⟩
  rw [← HL1.out, HP1.out]
  go_wp2_with fail
  refine (refPut_any D d m l v w4 HM.out HD4.out HL.out).mono ?_
  rintro e w5 ⟨A5, c5, rfl, h5, hb5, _⟩
  have H5 := Lib.hid h5.ia
  have H45 := Lib.hid (H4.out.below hb5)
  have HD5 := Lib.hid (HD4.out.below hb5)
  have HB5 := Lib.hid (HB4.out.trans (hb5.mono HB4.out.size))
  clear h5 hb5 HD4 H4
  rw [← HL1.out, HP1.out]
  go_wp2_with fail
  refine (take_any A c m l w5 HM.out (HI.out.ia.below HB5.out) HLE.out HI.out.max HL.out).mono ?_
  rintro e w6 ⟨A6, c6, rfl, h6, hb6, _⟩
  have H6 := Lib.hid h6.ia
  have H46 := Lib.hid (H45.out.below hb6)
  have H56 := Lib.hid (H5.out.below hb6)
  have HD6 := Lib.hid (HD5.out.below hb6)
  have HB6 := Lib.hid (HB5.out.trans (hb6.mono HB5.out.size))
  clear h6 hb6 HD5 H45 H5
  rw [← HL2.out, HP2.out, HX2.out]
  go_wp2_with fail
  refine (refTake_any D d m l w6 HM.out HD6.out HL.out).mono ?_
  rintro e w7 ⟨A7, c7, rfl, h7, hb7, _⟩
  have H7 := Lib.hid h7.ia
  have H47 := Lib.hid (H46.out.below hb7)
  have H57 := Lib.hid (H56.out.below hb7)
  have H67 := Lib.hid (H6.out.below hb7)
  have HD7 := Lib.hid (HD6.out.below hb7)
  have HB7 := Lib.hid (HB6.out.trans (hb7.mono HB6.out.size))
  clear h7 hb7 HD6 H46 H56 H6
  rw [← HL2.out, HP2.out, HX2.out]
  go_wp2_with fail
  refine (same_any A4 A5 c4 c5 n1 n1 (putL l v) (putL l v) w7 HL1.out HL1.out H47.out H57.out HN1.out HN1.out).mono ?_
  rintro e w8 ⟨rfl, j, rfl⟩
  rw [eqB_same]
  have q1 : (p1 == p1) = true := by simp
  have q2 : (x2 == x2) = true := by simp
  have q3 : (p2 == p2) = true := by simp
  go_wp2_with fail
  refine (same_any A6 A7 c6 c7 n2 n2 (takeL l) (takeL l) (w7.drewN j) HL2.out HL2.out (H67.out.drewN j) (H7.out.drewN j) HN2.out HN2.out).mono ?_
  rintro e w9 ⟨rfl, j2, rfl⟩
  rw [eqB_same]
  have HB9 := Lib.hid (below_drewN (below_drewN HB7.out j) j2)
  have HD9 : Hid (IA ((w7.drewN j).drewN j2) D l) := Lib.hid ((HD7.out.drewN j).drewN j2)
  generalize (w7.drewN j).drewN j2 = w9 at HB9 HD9 ⊢
  go_wp2_with fail
  refine (same_any A D c d m m l l w9 HM.out HM.out (HI.out.ia.below HB9.out) HD9.out HLM.out HLM.out).mono ?_
  rintro e w10 ⟨rfl, j3, rfl⟩
  rw [eqB_same]
  have HB10 := Lib.hid (below_drewN HB9.out j3)
  generalize w9.drewN j3 = w10 at HB10 ⊢
  go_wp2_with fail
  refine (lives_any w10).mono ?_
  rintro e w11 ⟨rfl, hb11⟩
  have HB11 := Lib.hid (HB10.out.trans (hb11.mono HB10.out.size))
  clear hb11
  go_wp2_with fail
  go_ret
  exact ⟨rfl, HB11.out⟩

set_option maxRecDepth 100000 in
theorem lifted (os : Os) (started : os.Started) (H : Type) (enc : TypeId × Value → H) :
    ReturnsInHanded {} Try.checked os 4 .any (Rows.chansPutsSpec.pre6 enc Try.prog Try.f4 Rows.chansPutsRow.domain false) (Rows.chansPutsSpec.post enc Try.prog Try.f4 false true false false) := by
  refine law_lifted started [22, 3] rfl (by kernel_rfl) Try.func4 rfl (by decide +kernel) rfl (fun ds hl => by
    match ds, hl with
    | [_, _], _ => rfl) (ChangeSpec.witness6 (enc := enc) (C := Try.checked) false ⟨#[], #[.slice none 0 0, .int .i64 0], []⟩ 8 (by kernel_rfl) (by kernel_rfl) (by kernel_rfl) (by kernel_rfl)) ?_
  intro W base args ds ps hval hA hlt hsz
  obtain ⟨v0, vs0, d0, ds0, p0, q0, hargs, rfl, rfl, h0, r0⟩ := trodAll_cons hA
  obtain ⟨v1, vs1, d1, ds1, p1, q1, rfl, rfl, rfl, h1, r1⟩ := trodAll_cons r0
  obtain ⟨rfl, rfl, rfl⟩ := trodAll_nil r1
  obtain rfl : args = #[v0, v1] := by cases args; simp_all
  obtain ⟨A0, c0, x0, rfl, b0, i0, z0⟩ := open_ins_arg (hval 0 22 v0 rfl rfl) h0 hsz 0 rfl rfl
  obtain ⟨x1, rfl, rfl, rfl, w1⟩ := open_int Try.underlying3 (hval 1 3 v1 rfl rfl) h1
  exact walk A0 c0 _ x0 x1 W rfl i0 b0

set_option maxRecDepth 100000 in
theorem over : Rows.chansPutsRow.holds Try.pinned (OpenSpec.ofChange Rows.chansPutsSpec) :=
  OpenClaim.holds_of_wide 4 Try.f4 rfl rfl rfl rfl rfl rfl rfl ⟨rfl, rfl, rfl, rfl, rfl⟩ rfl rfl rfl rfl rfl (by kernel_rfl) Try.func4 (by kernel_rfl)
    (of_decide_eq_true (by kernel_rfl)) (by unfold Func.isWrapper; first | (rw [if_pos (by decide +kernel)]; kernel_rfl) | (rw [if_neg (by decide +kernel)]; exact ⟨rfl, rfl⟩))
    (fun os started H enc _ => lifted os started H enc)

theorem proved : Rows.ChansPutsSaid := over
#print axioms proved
end Go.Proofs.Ytmebajighiedaaa.chansPuts
