/- The document's answer for Rank: a contract. -/
import Derived.Test.YtbdlbljjbigjkaaRank
namespace Go.Proofs.Ytbdlbljjbigjkaa
open Go.ChangeShapes Go.WideShapes Go.ChangeAt Go.RowKit

/-- What Rank tells of is made of digits below their bases. -/
theorem rankGo_valid : ∀ (ds bs : List Int) (m r : Int), 0 ≤ m → rankGo m ds bs = some r → ∀ i, i < ds.length → i < bs.length → 1 ≤ bs.getD i 0 ∧ 0 ≤ ds.getD i 0 ∧ ds.getD i 0 < bs.getD i 0
  | [], _, _, _, _, _, i, hi, _ => absurd hi (by simp)
  | _ :: _, [], _, _, _, _, i, _, hi => absurd hi (by simp)
  | d :: ds, b :: bs, m, r, hm, h, i, h1, h2 => by
    rw [rankGo] at h
    cases hf : further m d b with
    | none => rw [hf] at h; cases h
    | some m' =>
      rw [hf] at h
      have s := further_some_spec hm hf
      cases i with
      | zero => exact ⟨s.1, s.2.1, s.2.2.1⟩
      | succ i => exact rankGo_valid ds bs m' r (by omega) h i (by simpa using h1) (by simpa using h2)

def okAt (ds bs : List Int) (i : Nat) : Prop := 1 ≤ bs.getD i 0 ∧ 0 ≤ ds.getD i 0 ∧ ds.getD i 0 < bs.getD i 0

theorem rank_bad {ds bs : List Int} {k : Nat} (h1 : k < ds.length) (h2 : k < bs.length) (h : ¬ okAt ds bs k) : rankGo 0 ds bs = none := by
  cases hr : rankGo 0 ds bs with
  | none => rfl
  | some r => exact absurd (rankGo_valid ds bs 0 r (by omega) hr k h1 h2) h

set_option maxHeartbeats 1000000 in
theorem refRank_any (A B : Option Addr) (c d : Nat) (ds bs : List Int) (w : World) (hA : IA w A ds) (hB : IA w B bs) (hd : W64 ds) (hb : W64 bs) (hdl : ds.length ≤ maxLen) (hbl : bs.length ≤ maxLen) :
    Calls Try.prog 28 #[.slice A ds.length c, .slice B bs.length d] w fun e w' => e = .returned (pairOf (rankF ds bs)) ∧ ∃ n, w' = w.drewN n := by
  unfold maxLen at hdl hbl
  by_cases hl : ds.length = bs.length
  · have H := Lib.hid hl
    have e : rankF ds bs = rankGo 0 ds bs := if_pos hl
    rw [e]
    clear hl e
    go_enter Try.func28, Try.ntmps28
    have hl0 : (ds.length : Int) = (bs.length : Int) := by rw [H.out]
    go_wp2
    clear hl0
    go_loopw [6] (fun i wr => ∃ (k j : Nat), k ≤ bs.length ∧ i = .int .i64 k ∧ wr = w.drewN j ∧ Hid (∀ i, i < k → okAt ds bs i)) (fun i _ => bs.length - (intOf i).toNat)
    case atStart => exact ⟨0, 0, Nat.zero_le _, rfl, rfl, Lib.hid (fun i hi => absurd hi (by omega))⟩
    case round =>
      obtain ⟨k, j, hk, rfl, rfl, HV⟩ := hrel
      by_cases hlt : k < bs.length
      · have hltd : k < ds.length := by rw [H.out]; exact hlt
        obtain ⟨bA, oA, rfl, hbA, hcA⟩ := hA (by omega)
        obtain ⟨bB, oB, rfl, hbB, hcB⟩ := hB (by omega)
        have c1 := hcA k hltd
        have c2 := hcB k hlt
        have w1 := hd.at_ k
        have w2 := hb.at_ k
        have hbad : Hid (¬ okAt ds bs k → rankGo 0 ds bs = none) := Lib.hid (rank_bad hltd hlt)
        have hstep : Hid (okAt ds bs k → ∀ i, i < k + 1 → okAt ds bs i) := Lib.hid (fun h i hi => by
          by_cases hik : i = k
          · subst hik; exact h
          · exact HV.out i (by omega))
        have hdef : Hid (okAt ds bs k ↔ 1 ≤ bs.getD k 0 ∧ 0 ≤ ds.getD k 0 ∧ ds.getD k 0 < bs.getD k 0) := Lib.hid Iff.rfl
        generalize ds.getD k 0 = x at c1 w1 hdef
        generalize bs.getD k 0 = y at c2 w2 hdef
        clear hcA hcB hA hB hd hb
        by_cases t1 : y < 1
        · have HE : Hid (rankGo 0 ds bs = none) := Lib.hid (hbad.out (fun h => by have := hdef.out.1 h; omega))
          have t1' : decide (y < 1) = true := decide_eq_true t1
          go_wp2
          go_quiet (fail)
          go_wp2
          go_ret2
          exact ⟨by rw [HE.out]; rfl, _, World.drewN_drewN _ _ _⟩
        by_cases t2 : x < 0
        · have HE : Hid (rankGo 0 ds bs = none) := Lib.hid (hbad.out (fun h => by have := hdef.out.1 h; omega))
          have t1' : decide (y < 1) = false := decide_eq_false t1
          have t2' : decide (x < 0) = true := decide_eq_true t2
          go_wp2
          go_quiet (fail)
          go_wp2
          go_ret2
          exact ⟨by rw [HE.out]; rfl, _, World.drewN_drewN _ _ _⟩
        by_cases t3 : y ≤ x
        · have HE : Hid (rankGo 0 ds bs = none) := Lib.hid (hbad.out (fun h => by have := hdef.out.1 h; omega))
          have t1' : decide (y < 1) = false := decide_eq_false t1
          have t2' : decide (x < 0) = false := decide_eq_false t2
          have t3' : decide (y ≤ x) = true := decide_eq_true t3
          go_wp2
          go_quiet (fail)
          go_wp2
          go_ret2
          exact ⟨by rw [HE.out]; rfl, _, World.drewN_drewN _ _ _⟩
        · have HS : Hid (∀ i, i < k + 1 → okAt ds bs i) := Lib.hid (hstep.out (hdef.out.2 ⟨by omega, by omega, by omega⟩))
          have t1' : decide (y < 1) = false := decide_eq_false t1
          have t2' : decide (x < 0) = false := decide_eq_false t2
          have t3' : decide (y ≤ x) = false := decide_eq_false t3
          go_wp2
          go_quiet (fail)
          go_wp2
          go_roundw
          case rel => exact ⟨k + 1, _, by omega, by go_num, rfl, HS⟩
          case measure => simp [intOf]; omega
      · have hk2 : k = bs.length := by omega
        subst hk2
        go_wp2
        go_loopw [7, 8] (fun n i wr => ∃ (k j : Nat) (m : Int), k ≤ bs.length ∧ i = .int .i64 k ∧ n = .int .i64 m ∧ wr = w.drewN j ∧ 0 ≤ m ∧ m ≤ 1048576 ∧ Hid (rankGo m (ds.drop k) (bs.drop k) = rankGo 0 ds bs)) (fun _ i _ => bs.length - (intOf i).toNat)
        case atStart => exact ⟨0, j, 0, Nat.zero_le _, rfl, rfl, rfl, by omega, by omega, Lib.hid rfl⟩
        case round =>
          obtain ⟨k, j, m, hk, rfl, rfl, rfl, hm1, hm2, HR0⟩ := hrel
          by_cases hlt : k < bs.length
          · have hltd : k < ds.length := by rw [H.out]; exact hlt
            obtain ⟨bA, oA, rfl, hbA, hcA⟩ := hA (by omega)
            obtain ⟨bB, oB, rfl, hbB, hcB⟩ := hB (by omega)
            have c1 := hcA k hltd
            have c2 := hcB k hlt
            have w1 := hd.at_ k
            have w2 := hb.at_ k
            have v := HV.out k hlt
            unfold okAt at v
            have e1 : ds.drop k = ds.getD k 0 :: ds.drop (k + 1) := by rw [List.drop_eq_getElem_cons hltd]; simp [List.getD, hltd]
            have e2 : bs.drop k = bs.getD k 0 :: bs.drop (k + 1) := by rw [List.drop_eq_getElem_cons hlt]; simp [List.getD, hlt]
            have hr := HR0.out
            rw [e1, e2, rankGo] at hr
            generalize ds.getD k 0 = x at c1 w1 hr v
            generalize bs.getD k 0 = y at c2 w2 hr v
            obtain ⟨v1, v2, v3⟩ := v
            unfold further at hr
            rw [if_neg (by omega)] at hr
            have HR := Lib.hid hr
            clear e1 e2 hr hcA hcB hA hB hd hb HV
            by_cases t1 : 0 < m
            · by_cases t2 : 1048576 / m < y
              · have HE : Hid (rankGo 0 ds bs = none) := by have := HR.out; rw [if_pos ⟨t1, t2⟩] at this; exact Lib.hid this.symm
                have t1' : decide (0 < m) = true := decide_eq_true t1
                have t2' : decide (1048576 / m < y) = true := decide_eq_true t2
                go_wp2
                go_quiet (fail)
                go_wp2
                go_ret2
                exact ⟨by rw [HE.out]; rfl, _, World.drewN_drewN _ _ _⟩
              · have c5 : m * y ≤ 1048576 := by
                  have h1 : y ≤ 1048576 / m := by omega
                  have h2 := Int.mul_le_mul_of_nonneg_left h1 hm1
                  have h3 := Int.mul_ediv_self_le (x := 1048576) (k := m) (by omega)
                  omega
                have c6 : 0 ≤ m * y := Int.mul_nonneg hm1 (by omega)
                have t1' : decide (0 < m) = true := decide_eq_true t1
                have t2' : decide (1048576 / m < y) = false := decide_eq_false t2
                by_cases t3 : 1048576 - m * y < x
                · have HE : Hid (rankGo 0 ds bs = none) := by have := HR.out; rw [if_neg (fun h => t2 h.2), if_pos t3] at this; exact Lib.hid this.symm
                  go_wp2
                  go_quiet (fail)
                  go_wp2
                  go_ret2
                  exact ⟨by rw [HE.out]; rfl, _, rfl⟩
                · have HE : Hid (rankGo (m * y + x) (ds.drop (k + 1)) (bs.drop (k + 1)) = rankGo 0 ds bs) := by have := HR.out; rw [if_neg (fun h => t2 h.2), if_neg t3] at this; exact Lib.hid this
                  have c8 : m * y + x ≤ 1048576 := by omega
                  go_wp2
                  go_quiet (fail)
                  go_wp2
                  go_roundw
                  case rel => exact ⟨k + 1, _, _, by omega, by go_num, rfl, rfl, by omega, by omega, HE⟩
                  case measure => simp [intOf]; omega
            · obtain rfl : m = 0 := by omega
              have t1' : decide ((0 : Int) < 0) = false := by decide
              by_cases t3 : 1048576 < x
              · have HE : Hid (rankGo 0 ds bs = none) := by have := HR.out; rw [if_neg (fun h => t1 h.1), if_pos (by omega)] at this; exact Lib.hid this.symm
                go_wp2
                go_quiet (fail)
                go_wp2
                go_ret2
                exact ⟨by rw [HE.out]; rfl, _, rfl⟩
              · have HE : Hid (rankGo x (ds.drop (k + 1)) (bs.drop (k + 1)) = rankGo 0 ds bs) := by have := HR.out; rw [if_neg (fun h => t1 h.1), if_neg (by omega), Int.zero_mul, Int.zero_add] at this; exact Lib.hid this
                go_wp2
                go_quiet (fail)
                go_wp2
                go_roundw
                case rel => exact ⟨k + 1, _, _, by omega, by go_num, rfl, rfl, by omega, by omega, HE⟩
                case measure => simp [intOf]; omega
          · have hk2 : k = bs.length := by omega
            subst hk2
            go_wp2
            go_ret2
            have hz : rankGo 0 ds bs = some m := by rw [← HR0.out, List.drop_of_length_le (by rw [H.out]; exact Nat.le_refl _), List.drop_length]; rfl
            exact ⟨by rw [hz]; rfl, _, rfl⟩
  · have e : rankF ds bs = none := if_neg hl
    rw [e]
    go_enter Try.func28, Try.ntmps28
    go_wp2
    go_ret2
    exact ⟨rfl, 0, rfl⟩
end Go.Proofs.Ytbdlbljjbigjkaa
