/- The law NumUnranks: of any number and any bases, of whatever length, Unrank answers what the document's own answer is, and nothing that was there is changed. No condition. -/
import Derived.Test.YtbdlbljjbigjkaaNumCalls
namespace Go.Proofs.Ytbdlbljjbigjkaa.numUnranks
open Go.ChangeShapes Go.WideShapes Go.ChangeAt Go.RowKit

theorem walk (n : Int) (B : Option Addr) (d : Nat) (bs : List Int) (w : World) (hn1 : -9223372036854775808 ≤ n) (hn2 : n ≤ 9223372036854775807) (hB : IA w B bs) (hb : W64 bs) (hbl : 8 * bs.length ≤ 140737488355328) :
    Calls Try.prog 7 #[.int .i64 n, .slice B bs.length d] w (LawPost w) := by
  have h2 : 8 * bs.length ≤ 281474976710656 := by omega
  cases hr : unrankF n bs with
  | none =>
    have HR := Lib.hid hr
    have HB := Lib.hid hB
    have HE := Lib.hid hb
    clear hr hB hb
    go_enter Try.func7, Try.ntmps7
    go_wp2_with fail
    refine (unrank_none HR.out HB.out HE.out h2 hn1 hn2).mono ?_
    rintro e w1 ⟨rfl, hb1⟩
    have HB1 := Lib.hid (HB.out.below hb1)
    go_wp2_with fail
    refine (refUnrank_none HR.out HB1.out HE.out h2 hn1 hn2).mono ?_
    rintro e w2 ⟨rfl, hb2⟩
    have hb12 : Below w.heap.size w w2 := hb1.trans (hb2.mono hb1.size)
    clear hb1 hb2
    go_wp2_with fail
    refine same_nil.mono ?_
    rintro e w3 ⟨rfl, j, rfl⟩
    go_wp2_with fail
    refine (lives_any _).mono ?_
    rintro e w4 ⟨rfl, hb4⟩
    go_wp2
    go_ret
    exact ⟨rfl, (below_drewN hb12 j).trans (hb4.mono hb12.size)⟩
  | some ds =>
    have hl := (rankF_of_unrank hr).2
    have hdl : ds.length ≤ maxLen := by unfold maxLen; omega
    have HL := Lib.hid hl
    have HR := Lib.hid hr
    have HB := Lib.hid hB
    have HE := Lib.hid hb
    clear hr hB hb hl
    go_enter Try.func7, Try.ntmps7
    go_wp2_with fail
    refine (unrank_some HR.out HB.out HE.out h2 hn1 hn2).mono ?_
    rintro e w1 ⟨g1, rfl, hb1, hi1⟩
    have HB1 := Lib.hid (HB.out.below hb1)
    have HI1 := Lib.hid hi1
    clear hi1
    go_wp2_with fail
    refine (refUnrank_some HR.out HB1.out HE.out h2 hn1 hn2).mono ?_
    rintro e w2 ⟨g2, rfl, hb2, hi2⟩
    have HI2 := Lib.hid hi2
    have HI1' := Lib.hid (HI1.out.below hb2)
    have hb12 : Below w.heap.size w w2 := hb1.trans (hb2.mono hb1.size)
    clear hb1 hb2 hi2
    go_wp2_with fail
    refine (same_yes HI1'.out HI2.out hdl).mono ?_
    rintro e w3 ⟨rfl, j, rfl⟩
    go_wp2_with fail
    refine (lives_any _).mono ?_
    rintro e w4 ⟨rfl, hb4⟩
    go_wp2
    go_ret
    exact ⟨rfl, (below_drewN hb12 j).trans (hb4.mono hb12.size)⟩

theorem lifted (os : Os) (started : os.Started) (H : Type) (enc : TypeId × Value → H) :
    ReturnsInHanded {} Try.checked os 7 .any (Rows.numUnranksSpec.pre6 enc Try.prog Try.f7 Rows.numUnranksRow.domain false) (Rows.numUnranksSpec.post enc Try.prog Try.f7 false true false false) := by
  refine law_lifted started [3, 29] rfl (by kernel_rfl) Try.func7 rfl (by decide +kernel) rfl (fun ds hl => by
    match ds, hl with
    | [_, _], _ => rfl) (ChangeSpec.witness6 (enc := enc) (C := Try.checked) false ⟨#[], #[.int .i64 0, .slice none 0 0], []⟩ 8 (by kernel_rfl) (by kernel_rfl) (by kernel_rfl) (by kernel_rfl)) ?_
  intro W base args ds ps hval hA hlt hsz
  obtain ⟨v0, vs0, d0, ds0, p0, q0, hargs, rfl, rfl, h0, r0⟩ := trodAll_cons hA
  obtain ⟨v1, vs1, d1, ds1, p1, q1, rfl, rfl, rfl, h1, r1⟩ := trodAll_cons r0
  obtain ⟨rfl, rfl, rfl⟩ := trodAll_nil r1
  obtain rfl : args = #[v0, v1] := by cases args; simp_all
  obtain ⟨x0, rfl, rfl, rfl, w0⟩ := open_int Try.underlying3 (hval 0 3 v0 rfl rfl) h0
  obtain ⟨A1, c1, x1, rfl, b1, i1, z1⟩ := open_ints_arg (hval 1 29 v1 rfl rfl) h1 hsz 1 rfl rfl
  exact walk x0 A1 c1 x1 W (fits64 w0).1 (fits64 w0).2 i1 z1 b1

theorem over : Rows.numUnranksRow.holds Try.pinned (OpenSpec.ofChange Rows.numUnranksSpec) :=
  OpenClaim.holds_of_wide 7 Try.f7 rfl rfl rfl rfl rfl rfl rfl ⟨rfl, rfl, rfl, rfl, rfl⟩ rfl rfl rfl rfl rfl (by kernel_rfl) Try.func7 (by kernel_rfl)
    (of_decide_eq_true (by kernel_rfl)) (by unfold Func.isWrapper; first | (rw [if_pos (by decide +kernel)]; kernel_rfl) | (rw [if_neg (by decide +kernel)]; exact ⟨rfl, rfl⟩))
    (fun os started H enc _ => lifted os started H enc)

theorem proved : Rows.NumUnranksSaid := over
#print axioms proved
end Go.Proofs.Ytbdlbljjbigjkaa.numUnranks
