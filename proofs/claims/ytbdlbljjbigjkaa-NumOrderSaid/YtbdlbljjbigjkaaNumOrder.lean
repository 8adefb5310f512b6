/- The law NumOrder: of any two lists of digits to any bases that both make a number, the one that is less at the first place where they differ has the lesser number; nothing that was there is changed. No condition. -/
import Derived.Test.YtbdlbljjbigjkaaNumCalls
import Derived.StillTailTactics
import Derived.WalkLawsBesides
namespace Go.Proofs.Ytbdlbljjbigjkaa.numOrder
open Go.ChangeShapes Go.WideShapes Go.ChangeAt Go.RowKit

/-- A region whose first n operations only read, and whose others stand in one order: the draw's world under a name of its own. -/
theorem still_tail_at {P : Program} {id : Nat} {Q : Exit → Act → World → Prop} {a : Act} {w : World} {l : List Oper} (n : Nat) (hm : P.follows .mixedOrders = true) (hB : Region.lexTailB .any l.toArray n = true)
    (h : ∀ W, W = w.drew → wpStill P l.toArray W (fun a' => wpList P l.toArray Q (l.drop n) a' W) (l.take n) a) : (Code.region id l.toArray true).wp P Q a w := wp_region_still_tail n hm hB (h _ rfl)

theorem same_rank {a b bs : List Int} {n m : Int} (h1 : rankF a bs = some n) (h2 : rankF b bs = some m) (hl : a.length = b.length) (h : ∀ j, j < a.length → a.getD j 0 = b.getD j 0) : n = m := by
  have := getD_ext hl h
  subst this
  rw [h1] at h2; injection h2

theorem walk (A B C : Option Addr) (c d e0 : Nat) (a b bs : List Int) (w : World) (hA : IA w A a) (hB : IA w B b) (hC : IA w C bs) (ha : W64 a) (hb : W64 b) (hc : W64 bs) (hal : 8 * a.length ≤ 140737488355328) (hbl : 8 * b.length ≤ 140737488355328) (hcl : 8 * bs.length ≤ 140737488355328) :
    Calls Try.prog 9 #[.slice A a.length c, .slice B b.length d, .slice C bs.length e0] w (LawPost w) := by
  have h1 : a.length ≤ maxLen := by unfold maxLen; omega
  have h2 : b.length ≤ maxLen := by unfold maxLen; omega
  have h3 : bs.length ≤ maxLen := by unfold maxLen; omega
  have HA := Lib.hid hA
  have HB := Lib.hid hB
  have HC := Lib.hid hC
  have WA := Lib.hid ha
  have WB := Lib.hid hb
  have WC := Lib.hid hc
  clear hA hB hC ha hb hc
  cases hr : rankF a bs with
  | none =>
    have HR := Lib.hid hr
    clear hr
    cases hs : rankF b bs with
    | none =>
      have HS := Lib.hid hs
      clear hs
      go_enter Try.func9, Try.ntmps9
      go_wp2_with fail
      refine (rank_none HR.out HA.out HC.out WA.out WC.out h1 h3).mono ?_
      rintro e w' ⟨rfl, rfl⟩
      go_wp2_with fail
      refine (rank_none HS.out HB.out HC.out WB.out WC.out h2 h3).mono ?_
      rintro e w' ⟨rfl, rfl⟩
      go_wp2_with fail
      refine (lives_any _).mono ?_
      rintro e w4 ⟨rfl, hb4⟩
      go_wp2
      go_ret
      exact ⟨rfl, hb4⟩
    | some m =>
      have HS := Lib.hid hs
      clear hs
      go_enter Try.func9, Try.ntmps9
      go_wp2_with fail
      refine (rank_none HR.out HA.out HC.out WA.out WC.out h1 h3).mono ?_
      rintro e w' ⟨rfl, rfl⟩
      go_wp2_with fail
      refine (rank_some HS.out HB.out HC.out WB.out WC.out h2 h3).mono ?_
      rintro e w' ⟨rfl, rfl⟩
      go_wp2_with fail
      refine (lives_any _).mono ?_
      rintro e w4 ⟨rfl, hb4⟩
      go_wp2
      go_ret
      exact ⟨rfl, hb4⟩
  | some n =>
    have HR := Lib.hid hr
    clear hr
    cases hs : rankF b bs with
    | none =>
      have HS := Lib.hid hs
      clear hs
      go_enter Try.func9, Try.ntmps9
      go_wp2_with fail
      refine (rank_some HR.out HA.out HC.out WA.out WC.out h1 h3).mono ?_
      rintro e w' ⟨rfl, rfl⟩
      go_wp2_with fail
      refine (rank_none HS.out HB.out HC.out WB.out WC.out h2 h3).mono ?_
      rintro e w' ⟨rfl, rfl⟩
      go_wp2_with fail
      refine (lives_any _).mono ?_
      rintro e w4 ⟨rfl, hb4⟩
      go_wp2
      go_ret
      exact ⟨rfl, hb4⟩
    | some m =>
      have HS := Lib.hid hs
      clear hs
      have HL : Hid (a.length = b.length) := Lib.hid ((rankF_length HR.out).trans (rankF_length HS.out).symm)
      go_enter Try.func9, Try.ntmps9
      go_wp2_with fail
      refine (rank_some HR.out HA.out HC.out WA.out WC.out h1 h3).mono ?_
      rintro e w' ⟨rfl, rfl⟩
      go_wp2_with fail
      refine (rank_some HS.out HB.out HC.out WB.out WC.out h2 h3).mono ?_
      rintro e w' ⟨rfl, rfl⟩
      have hl0 : (b.length : Int) = (a.length : Int) := by rw [HL.out]
      go_wp2_with fail
      clear hl0
      go_loopw [36] (fun i wr => ∃ (k j : Nat), k ≤ a.length ∧ i = .int .i64 k ∧ wr = w.drewN j ∧ Hid (∀ i, i < k → a.getD i 0 = b.getD i 0)) (fun i _ => a.length - (intOf i).toNat)
      case atStart => exact ⟨0, 0, Nat.zero_le _, rfl, rfl, Lib.hid (fun i hi => absurd hi (by omega))⟩
      case round =>
        obtain ⟨k, j, hk, rfl, rfl, HV⟩ := hrel
        by_cases hlt : k < a.length
        · have hltb : k < b.length := by rw [← HL.out]; exact hlt
          obtain ⟨bA, oA, rfl, hbA, hcA⟩ := HA.out (by omega)
          obtain ⟨bB, oB, rfl, hbB, hcB⟩ := HB.out (by omega)
          have c1 := hcA k hlt
          have c2 := hcB k hltb
          clear hcA hcB HA HB
          by_cases t1 : a.getD k 0 = b.getD k 0
          · have HS2 : Hid (∀ i, i < k + 1 → a.getD i 0 = b.getD i 0) := Lib.hid (fun i hi => by
              by_cases hik : i = k
              · subst hik; exact t1
              · exact HV.out i (by omega))
            rw [← t1] at c2
            generalize a.getD k 0 = x at c1 c2
            clear t1 HV
            go_wp2
            go_quiet (fail)
            go_wp2
            go_roundw
            case rel => exact ⟨k + 1, _, by omega, by go_num, rfl, HS2⟩
            case measure => simp [intOf]; omega
          · have hord : Hid ((a.getD k 0 < b.getD k 0 → n < m) ∧ (b.getD k 0 < a.getD k 0 → m < n)) := Lib.hid ⟨fun h => rankF_first HR.out HS.out hlt HV.out h, fun h => rankF_first HS.out HR.out hltb (fun i hi => (HV.out i hi).symm) h⟩
            generalize a.getD k 0 = x at c1 t1 hord
            generalize b.getD k 0 = y at c2 t1 hord
            have t2 : (x != y) = true := by simpa using t1
            by_cases t3 : x < y
            · have t4 : n < m := hord.out.1 t3
              have t5 : (n != m) = true := by simp; omega
              have t6 : decide (n < m) = true := decide_eq_true t4
              have t7 : decide (x < y) = true := decide_eq_true t3
              clear t1
              go_wp2
              go_quiet (fail)
              go_wp2
              refine still_tail_at 19 (by kernel_rfl) (by kernel_rfl) ?_
              intro W hW
              have d1 : W.cell? ⟨bA, oA + k, none⟩ = some (.int .i64 x) := by rw [hW]; exact c1
              have d2 : W.cell? ⟨bB, oB + k, none⟩ = some (.int .i64 y) := by rw [hW]; exact c2
              have hbW : Below w.heap.size w W := by rw [hW]; exact (below_drewN (below_drewN (Below.refl _ _) j) nq).drew
              clear hW c1 c2
              simp only [List.take_succ_cons, List.take_zero, List.drop_succ_cons, List.drop_zero]
              repeat still_step
              refine wpStill_nil ?_
              go_wp2_with fail
              refine (lives_any _).mono ?_
              rintro e w4 ⟨rfl, hb4⟩
              go_wp2
              go_ret
              exact ⟨rfl, hbW.trans (hb4.mono hbW.size)⟩
            · have t4 : m < n := hord.out.2 (by omega)
              have t5 : (n != m) = true := by simp; omega
              have t6 : decide (n < m) = false := decide_eq_false (by omega)
              have t7 : decide (x < y) = false := decide_eq_false t3
              clear t1 t3
              go_wp2
              go_quiet (fail)
              go_wp2
              refine still_tail_at 19 (by kernel_rfl) (by kernel_rfl) ?_
              intro W hW
              have d1 : W.cell? ⟨bA, oA + k, none⟩ = some (.int .i64 x) := by rw [hW]; exact c1
              have d2 : W.cell? ⟨bB, oB + k, none⟩ = some (.int .i64 y) := by rw [hW]; exact c2
              have hbW : Below w.heap.size w W := by rw [hW]; exact (below_drewN (below_drewN (Below.refl _ _) j) nq).drew
              clear hW c1 c2
              simp only [List.take_succ_cons, List.take_zero, List.drop_succ_cons, List.drop_zero]
              repeat still_step
              refine wpStill_nil ?_
              go_wp2_with fail
              refine (lives_any _).mono ?_
              rintro e w4 ⟨rfl, hb4⟩
              go_wp2
              go_ret
              exact ⟨rfl, hbW.trans (hb4.mono hbW.size)⟩
        · have hk2 : k = a.length := by omega
          subst hk2
          have hz : n = m := same_rank HR.out HS.out HL.out HV.out
          subst hz
          go_wp2_with fail
          refine (lives_any _).mono ?_
          rintro e w4 ⟨rfl, hb4⟩
          go_wp2
          go_ret
          exact ⟨rfl, (below_drewN (Below.refl _ _) j).trans hb4⟩

theorem lifted (os : Os) (started : os.Started) (H : Type) (enc : TypeId × Value → H) :
    ReturnsInHanded {} Try.checked os 9 .any (Rows.numOrderSpec.pre6 enc Try.prog Try.f9 Rows.numOrderRow.domain false) (Rows.numOrderSpec.post enc Try.prog Try.f9 false true false false) := by
  refine law_lifted started [29, 29, 29] rfl (by kernel_rfl) Try.func9 rfl (by decide +kernel) rfl (fun ds hl => by
    match ds, hl with
    | [_, _, _], _ => rfl) (ChangeSpec.witness6 (enc := enc) (C := Try.checked) false ⟨#[], #[.slice none 0 0, .slice none 0 0, .slice none 0 0], []⟩ 8 (by kernel_rfl) (by kernel_rfl) (by kernel_rfl) (by kernel_rfl)) ?_
  intro W base args ds ps hval hA hlt hsz
  obtain ⟨v0, vs0, d0, ds0, p0, q0, hargs, rfl, rfl, h0, r0⟩ := trodAll_cons hA
  obtain ⟨v1, vs1, d1, ds1, p1, q1, rfl, rfl, rfl, h1, r1⟩ := trodAll_cons r0
  obtain ⟨v2, vs2, d2, ds2, p2, q2, rfl, rfl, rfl, h2, r2⟩ := trodAll_cons r1
  obtain ⟨rfl, rfl, rfl⟩ := trodAll_nil r2
  obtain rfl : args = #[v0, v1, v2] := by cases args; simp_all
  obtain ⟨A0, c0, x0, rfl, b0, i0, z0⟩ := open_ints_arg (hval 0 29 v0 rfl rfl) h0 hsz 0 rfl rfl
  obtain ⟨A1, c1, x1, rfl, b1, i1, z1⟩ := open_ints_arg (hval 1 29 v1 rfl rfl) h1 hsz 1 rfl rfl
  obtain ⟨A2, c2, x2, rfl, b2, i2, z2⟩ := open_ints_arg (hval 2 29 v2 rfl rfl) h2 hsz 2 rfl rfl
  exact walk A0 A1 A2 c0 c1 c2 x0 x1 x2 W i0 i1 i2 z0 z1 z2 b0 b1 b2

theorem over : Rows.numOrderRow.holds Try.pinned (OpenSpec.ofChange Rows.numOrderSpec) :=
  OpenClaim.holds_of_wide 9 Try.f9 rfl rfl rfl rfl rfl rfl rfl ⟨rfl, rfl, rfl, rfl, rfl⟩ rfl rfl rfl rfl rfl (by kernel_rfl) Try.func9 (by kernel_rfl)
    (of_decide_eq_true (by kernel_rfl)) (by unfold Func.isWrapper; first | (rw [if_pos (by decide +kernel)]; kernel_rfl) | (rw [if_neg (by decide +kernel)]; exact ⟨rfl, rfl⟩))
    (fun os started H enc _ => lifted os started H enc)

theorem proved : Rows.NumOrderSaid := over
#print axioms proved
end Go.Proofs.Ytbdlbljjbigjkaa.numOrder
