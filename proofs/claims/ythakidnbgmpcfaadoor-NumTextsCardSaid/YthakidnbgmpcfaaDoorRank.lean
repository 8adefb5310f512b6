/- Rank and Unrank: contracts. -/
import Derived.Test.YthakidnbgmpcfaaDoorNum
namespace Go.Proofs.YthakidnbgmpcfaaDoor
open Go.ChangeShapes Go.WideShapes Go.ChangeAt Go.RowKit

theorem rank_any (A B : Option Addr) (c d : Nat) (ds bs : List Int) (w : World) (hA : IA w A ds) (hB : IA w B bs) (hd : W64 ds) (hb : W64 bs) (hdl : ds.length ≤ maxLen) (hbl : bs.length ≤ maxLen) :
    Calls Tryd.prog 9 #[.slice A ds.length c, .slice B bs.length d] w fun e w' => e = .returned (pairOf (rankF ds bs)) ∧ w = w' := by
  unfold maxLen at hdl hbl
  by_cases hl : ds.length = bs.length
  · have H := Lib.hid hl
    have e : rankF ds bs = rankGo 0 ds bs := if_pos hl
    rw [e]
    clear hl e
    go_enter Tryd.func9, Tryd.ntmps9
    have hl0 : (ds.length : Int) = (bs.length : Int) := by rw [H.out]
    go_wp2
    clear hl0
    go_loop [6, 18] (fun n i => ∃ (k : Nat) (m : Int), k ≤ bs.length ∧ i = .int .i64 k ∧ n = .int .i64 m ∧ 0 ≤ m ∧ m ≤ 1048576 ∧ rankGo m (ds.drop k) (bs.drop k) = rankGo 0 ds bs) (fun _ i => bs.length - (intOf i).toNat)
    case atStart => exact ⟨0, 0, Nat.zero_le _, rfl, rfl, by omega, by omega, rfl⟩
    case round =>
      obtain ⟨k, m, hk, rfl, rfl, hm1, hm2, hr⟩ := hrel
      by_cases hlt : k < bs.length
      · have hltd : k < ds.length := by rw [H.out]; exact hlt
        obtain ⟨bA, oA, rfl, hbA, hcA⟩ := hA (by omega)
        obtain ⟨bB, oB, rfl, hbB, hcB⟩ := hB (by omega)
        have c1 := hcA k hltd
        have c2 := hcB k hlt
        have w1 := hd.at_ k
        have w2 := hb.at_ k
        have e1 : ds.drop k = ds.getD k 0 :: ds.drop (k + 1) := by rw [List.drop_eq_getElem_cons hltd]; simp [List.getD, hltd]
        have e2 : bs.drop k = bs.getD k 0 :: bs.drop (k + 1) := by rw [List.drop_eq_getElem_cons hlt]; simp [List.getD, hlt]
        rw [e1, e2, rankGo] at hr
        generalize ds.getD k 0 = x at c1 w1 hr
        generalize bs.getD k 0 = y at c2 w2 hr
        have HR := Lib.hid hr
        clear e1 e2 hr hcA hcB hA hB hd hb
        cases hf : further m x y with
        | none =>
          have HF := Lib.hid hf
          have HE : Hid (rankGo 0 ds bs = none) := by have := HR.out; rw [HF.out] at this; exact Lib.hid this.symm
          clear hf
          go_wp2_with (go_at_call 17; refine (further_none _ _ _ _ hm1 hm2 w1.1 w1.2 w2.1 w2.2 HF.out).mono ?_; rintro e w' ⟨rfl, rfl⟩)
          go_ret2
          exact ⟨by rw [HE.out]; rfl, rfl⟩
        | some m' =>
          have HF := Lib.hid hf
          obtain ⟨_, s2, _, _, s5, s6, s7, rfl⟩ := further_some_spec hm1 hf
          clear hf
          go_wp2_with (go_at_call 17; refine (further_some _ _ _ _ _ hm1 hm2 w2.2 HF.out).mono ?_; rintro e w' ⟨rfl, rfl⟩)
          go_round
          case rel => exact ⟨k + 1, m * y + x, by omega, by go_num, rfl, by omega, by omega, by have := HR.out; rw [HF.out] at this; exact this⟩
          case measure => simp [intOf]; omega
      · have hk2 : k = bs.length := by omega
        subst hk2
        go_wp2
        go_ret2
        have hz : rankGo 0 ds bs = some m := by rw [← hr, List.drop_of_length_le (by rw [H.out]; exact Nat.le_refl _), List.drop_length]; rfl
        exact ⟨by rw [hz]; rfl, rfl⟩
  · have e : rankF ds bs = none := if_neg hl
    rw [e]
    go_enter Tryd.func9, Tryd.ntmps9
    go_wp2
    go_ret2
    exact ⟨rfl, rfl⟩

end Go.Proofs.YthakidnbgmpcfaaDoor
