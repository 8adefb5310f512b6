/- The law DeclChans: of any channels over any scalars: the first that may not be, and why, is the document's, and nothing that was there is changed. No condition. -/
import Derived.Test.YtjciamefkacchaaDeclAwake
import Derived.Test.YtjciamefkacchaaRefDeclC
import Derived.Test.YtjciamefkacchaaOpensD
namespace Go.Proofs.Ytjciamefkacchaa.declChans
open Go.ChangeShapes Go.WideShapes Go.ChangeAt Go.RowKit Go.Proofs.Ytjciamefkacchaa.dcl

set_option maxHeartbeats 4000000 in
theorem walk (X : SX) (s : List ScR) (l : List ChR) (A : Option Addr) (c m : Nat) (w : World) (hS : SL w X s) (hm : m = l.length) (hmm : m ≤ 1000000000000000) (hA : DC w A l) (hN : ∀ x ∈ l, x.name.size ≤ maxLen) :
    Calls Try.prog 11 #[.slice A m c, X.v] w (LawPost w) := by
  have HM := Lib.hid hm
  have HA := Lib.hid hA
  have HN := Lib.hid hN
  have HS := Lib.hid hS
  have hsm := hS.small
  clear hm hA hN hS
  unfold SX.v
  by_cases hl : 30 < m
  · go_enter Try.func11, Try.ntmps11
    go_wp2_with fail
    refine (awake_any _).mono ?_
    rintro e w1 ⟨rfl, hb⟩
    have HB := Lib.hid hb
    clear hb
    go_wp2
    go_ret
    exact ⟨rfl, HB.out⟩
  · by_cases hl2 : 30 < X.m
    · go_enter Try.func11, Try.ntmps11
      go_wp2_with fail
      refine (awake_any _).mono ?_
      rintro e w1 ⟨rfl, hb⟩
      have HB := Lib.hid hb
      clear hb
      go_wp2
      go_ret
      exact ⟨rfl, HB.out⟩
    · obtain ⟨r1, r2, HR⟩ : ∃ r1 r2, Hid (chansF s l = (r1, r2)) := ⟨_, _, Lib.hid rfl⟩
      go_enter Try.func11, Try.ntmps11
      go_wp2_with fail
      refine (chans_any X s l A c m w HS.out HM.out hmm HA.out HN.out).mono ?_
      rw [HR.out]
      rintro e w1 ⟨rfl, hb1⟩
      have HB1 := Lib.hid hb1
      clear hb1
      go_wp2_with fail
      refine (refChans_any X s l A c m w1 (HS.out.below HB1.out) HM.out hmm (HA.out.below HB1.out)).mono ?_
      rw [HR.out]
      rintro e w2 ⟨rfl, hb2⟩
      have HB2 := Lib.hid (bthen HB1.out hb2)
      have h1 : (r1 == r1) = true := by simp
      have h2 : (r2 == r2) = true := by simp
      clear hb2
      go_wp2_with fail
      refine (awake_any _).mono ?_
      rintro e w3 ⟨rfl, hb3⟩
      have HB3 := Lib.hid (bthen HB2.out hb3)
      clear hb3
      go_wp2
      go_ret
      exact ⟨rfl, HB3.out⟩
set_option maxRecDepth 100000 in
theorem lifted (os : Os) (started : os.Started) (H : Type) (enc : TypeId × Value → H) :
    ReturnsInHanded {} Try.checked os 11 .any (Rows.declChansSpec.pre6 enc Try.prog Try.f11 Rows.declChansRow.domain false) (Rows.declChansSpec.post enc Try.prog Try.f11 false true false false) := by
  refine law_lifted started [25, 23] rfl (by kernel_rfl) Try.func11 rfl (by decide +kernel) rfl (fun ds hl => by
    match ds, hl with
    | [_, _], _ => rfl) (ChangeSpec.witness6 (enc := enc) (C := Try.checked) false ⟨#[], #[.slice none 0 0, .slice none 0 0], []⟩ 8 (by kernel_rfl) (by kernel_rfl) (by kernel_rfl) (by kernel_rfl)) ?_
  intro W base args ds ps hval hA hlt hsz
  obtain ⟨v0, vs0, d0, ds0, p0, q0, hargs, rfl, rfl, h0, r0⟩ := trodAll_cons hA
  obtain ⟨v1, vs1, d1, ds1, p1, q1, rfl, rfl, rfl, h1, r1⟩ := trodAll_cons r0
  obtain ⟨rfl, rfl, rfl⟩ := trodAll_nil r1
  obtain rfl : args = #[v0, v1] := by cases args; simp_all
  obtain ⟨A0, c0, x0, rfl, b0, i0, z0, q0, m0, o0⟩ := open_c_arg (hval 0 25 v0 rfl rfl) h0 hsz 0 rfl rfl
  obtain ⟨A1, c1, x1, rfl, b1, i1, z1, q1, m1, o1⟩ := open_s_arg (hval 1 23 v1 rfl rfl) h1 hsz 1 rfl rfl
  exact walk ⟨A1, x1.length, c1⟩ x1 x0 A0 c0 _ W ⟨rfl, b1, i1⟩ rfl b0 i0 z0

set_option maxRecDepth 100000 in
theorem over : Rows.declChansRow.holds Try.pinned (OpenSpec.ofChange Rows.declChansSpec) :=
  OpenClaim.holds_of_wide 11 Try.f11 rfl rfl rfl rfl rfl rfl rfl ⟨rfl, rfl, rfl, rfl, rfl⟩ rfl rfl rfl rfl rfl (by kernel_rfl) Try.func11 (by kernel_rfl)
    (of_decide_eq_true (by kernel_rfl)) (by unfold Func.isWrapper; first | (rw [if_pos (by decide +kernel)]; kernel_rfl) | (rw [if_neg (by decide +kernel)]; exact ⟨rfl, rfl⟩))
    (fun os started H enc _ => lifted os started H enc)

theorem proved : Rows.DeclChansSaid := over
#print axioms proved
end Go.Proofs.Ytjciamefkacchaa.declChans
