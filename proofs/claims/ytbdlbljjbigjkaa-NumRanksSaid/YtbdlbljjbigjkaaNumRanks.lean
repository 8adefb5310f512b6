/- The law NumRanks: of any digits and any bases, of whatever length, Rank answers what the document's own answer is, and nothing that was there is changed. No condition. -/
import Derived.Test.YtbdlbljjbigjkaaNumCalls
namespace Go.Proofs.Ytbdlbljjbigjkaa.numRanks
open Go.ChangeShapes Go.WideShapes Go.ChangeAt Go.RowKit

theorem walk (A B : Option Addr) (c d : Nat) (ds bs : List Int) (w : World) (hA : IA w A ds) (hB : IA w B bs) (hd : W64 ds) (hb : W64 bs) (hdl : 8 * ds.length ≤ 140737488355328) (hbl : 8 * bs.length ≤ 140737488355328) :
    Calls Try.prog 6 #[.slice A ds.length c, .slice B bs.length d] w (LawPost w) := by
  have h1 : ds.length ≤ maxLen := by unfold maxLen; omega
  have h2 : bs.length ≤ maxLen := by unfold maxLen; omega
  cases hr : rankF ds bs with
  | none =>
    have HR := Lib.hid hr
    have HA := Lib.hid hA
    have HB := Lib.hid hB
    have HD := Lib.hid hd
    have HE := Lib.hid hb
    clear hr hA hB hd hb
    go_enter Try.func6, Try.ntmps6
    go_wp2_with (first | (go_at_call 27; refine (rank_none HR.out HA.out HB.out HD.out HE.out h1 h2).mono ?_; rintro e w' ⟨rfl, rfl⟩) | (go_at_call 28; refine (refRank_none HR.out HA.out HB.out HD.out HE.out h1 h2).mono ?_; rintro e w' ⟨rfl, j, rfl⟩) | (go_at_call 18; refine (lives_any _).mono ?_; rintro e w' ⟨rfl, hbw⟩))
    go_ret
    exact ⟨rfl, (below_drewN (Below.refl _ _) j).trans hbw⟩
  | some n =>
    have HR := Lib.hid hr
    have HA := Lib.hid hA
    have HB := Lib.hid hB
    have HD := Lib.hid hd
    have HE := Lib.hid hb
    clear hr hA hB hd hb
    go_enter Try.func6, Try.ntmps6
    go_wp2_with (first | (go_at_call 27; refine (rank_some HR.out HA.out HB.out HD.out HE.out h1 h2).mono ?_; rintro e w' ⟨rfl, rfl⟩) | (go_at_call 28; refine (refRank_some HR.out HA.out HB.out HD.out HE.out h1 h2).mono ?_; rintro e w' ⟨rfl, j, rfl⟩) | (go_at_call 18; refine (lives_any _).mono ?_; rintro e w' ⟨rfl, hbw⟩))
    go_ret
    exact ⟨rfl, (below_drewN (Below.refl _ _) j).trans hbw⟩

theorem lifted (os : Os) (started : os.Started) (H : Type) (enc : TypeId × Value → H) :
    ReturnsInHanded {} Try.checked os 6 .any (Rows.numRanksSpec.pre6 enc Try.prog Try.f6 Rows.numRanksRow.domain false) (Rows.numRanksSpec.post enc Try.prog Try.f6 false true false false) := by
  refine law_lifted started [29, 29] rfl (by kernel_rfl) Try.func6 rfl (by decide +kernel) rfl (fun ds hl => by
    match ds, hl with
    | [_, _], _ => rfl) (ChangeSpec.witness6 (enc := enc) (C := Try.checked) false ⟨#[], #[.slice none 0 0, .slice none 0 0], []⟩ 8 (by kernel_rfl) (by kernel_rfl) (by kernel_rfl) (by kernel_rfl)) ?_
  intro W base args ds ps hval hA hlt hsz
  obtain ⟨v0, vs0, d0, ds0, p0, q0, hargs, rfl, rfl, h0, r0⟩ := trodAll_cons hA
  obtain ⟨v1, vs1, d1, ds1, p1, q1, rfl, rfl, rfl, h1, r1⟩ := trodAll_cons r0
  obtain ⟨rfl, rfl, rfl⟩ := trodAll_nil r1
  obtain rfl : args = #[v0, v1] := by cases args; simp_all
  obtain ⟨A0, c0, x0, rfl, b0, i0, z0⟩ := open_ints_arg (hval 0 29 v0 rfl rfl) h0 hsz 0 rfl rfl
  obtain ⟨A1, c1, x1, rfl, b1, i1, z1⟩ := open_ints_arg (hval 1 29 v1 rfl rfl) h1 hsz 1 rfl rfl
  exact walk A0 A1 c0 c1 x0 x1 W i0 i1 z0 z1 b0 b1

theorem over : Rows.numRanksRow.holds Try.pinned (OpenSpec.ofChange Rows.numRanksSpec) :=
  OpenClaim.holds_of_wide 6 Try.f6 rfl rfl rfl rfl rfl rfl rfl ⟨rfl, rfl, rfl, rfl, rfl⟩ rfl rfl rfl rfl rfl (by kernel_rfl) Try.func6 (by kernel_rfl)
    (of_decide_eq_true (by kernel_rfl)) (by unfold Func.isWrapper; first | (rw [if_pos (by decide +kernel)]; kernel_rfl) | (rw [if_neg (by decide +kernel)]; exact ⟨rfl, rfl⟩))
    (fun os started H enc _ => lifted os started H enc)

theorem proved : Rows.NumRanksSaid := over
#print axioms proved
end Go.Proofs.Ytbdlbljjbigjkaa.numRanks
