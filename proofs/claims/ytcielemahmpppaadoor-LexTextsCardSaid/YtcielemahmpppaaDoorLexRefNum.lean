/- The document's Number. -/
import Derived.Test.YtcielemahmpppaaDoorLexNum
namespace Go.Proofs.YtcielemahmpppaaDoor
open Go.ChangeShapes Go.WideShapes Go.ChangeAt Go.RowKit Go.Lib Go.Sort

def InB (n : Int) : Prop := -1048576 ≤ n ∧ n ≤ 1048576
theorem refWithin_yes (n : Int) (w : World) (h : InB n) : Calls Tryd.prog 45 #[.int .i64 n] w fun e w' => e = .returned (.bool true) ∧ w = w' := by
  obtain ⟨h1, h2⟩ := h
  go_enter Tryd.func45, Tryd.ntmps45
  go_wp2
  go_ret
  exact ⟨rfl, rfl⟩
theorem refWithin_no (n : Int) (w : World) (h : ¬ InB n) : Calls Tryd.prog 45 #[.int .i64 n] w fun e w' => e = .returned (.bool false) ∧ w = w' := by
  unfold InB at h
  by_cases h1 : -1048576 ≤ n
  · have h2 : ¬ n ≤ 1048576 := by omega
    clear h
    go_enter Tryd.func45, Tryd.ntmps45
    go_wp2
    go_ret
    exact ⟨rfl, rfl⟩
  · clear h
    go_enter Tryd.func45, Tryd.ntmps45
    go_wp2
    go_ret
    exact ⟨rfl, rfl⟩
def foldK (s : ByteArray) (k : Nat) : Nat × Nat := docFold (s.data.toList.take k)
theorem foldK_step (s : ByteArray) (k : Nat) (hk : k < s.size) : foldK s (k + 1) = docStep (foldK s k) s.data[k] := by
  unfold foldK
  have hk2 : k < s.data.toList.length := by rw [Array.length_toList]; exact hk
  rw [← docFold_snoc]
  congr 1
  rw [List.take_add_one, List.getElem?_eq_getElem hk2]
  simp
theorem ten_le {d : Nat} (h : d ≤ 7) : 10 ^ d ≤ 10000000 := Nat.pow_le_pow_right (by decide) h
theorem wr_num {a c : Nat} (ha : a < 10000000) (h1 : 48 ≤ (c : Int)) (h2 : (c : Int) ≤ 57) : wrap64 (wrap64 ((a : Int) * 10) + ((c : Int) - 48)) = ((a * 10 + (c - 48) : Nat) : Int) := by
  rw [wrap_id (x := (a : Int) * 10) (by omega) (by omega), wrap_id (by omega) (by omega)]; omega
theorem msr {k n : Nat} (hk : k < n) (hn : n ≤ 20000) : n - (RowKit.intOf (Value.int IntKind.i64 (wrap64 (k + 1 : Int)))).toNat < n - (RowKit.intOf (Value.int IntKind.i64 (k : Int))).toNat := by
  rw [wrap_id (x := (k : Int) + 1) (by omega) (by omega)]
  show n - ((k : Int) + 1).toNat < n - (k : Int).toNat
  omega
theorem step_num {s : ByteArray} {k : Nat} {c : UInt8} (hk : k < s.size) (hs : s.size ≤ 20000) (h1 : 48 ≤ (c.toNat : Int)) (h2 : (c.toNat : Int) ≤ 57) (h3 : ((foldK s k).2 : Int) < 8) (hst : foldK s (k + 1) = docStep (foldK s k) c) :
    (∃ k2 : Nat, Hid (k2 ≤ s.size) ∧ Value.int IntKind.i64 (wrap64 (wrap64 (((foldK s k).1 : Int) * 10) + ((c.toNat : Int) - 48))) = Value.int IntKind.i64 (foldK s k2).1 ∧ Value.int IntKind.i64 (((foldK s k).2 : Int) + 1) = Value.int IntKind.i64 (foldK s k2).2 ∧ Value.int IntKind.i64 (wrap64 ((k : Int) + 1)) = Value.int IntKind.i64 k2 ∧ True) ∧
    s.size - (RowKit.intOf (Value.int IntKind.i64 (wrap64 ((k : Int) + 1)))).toNat < s.size - (RowKit.intOf (Value.int IntKind.i64 (k : Int))).toNat := by
  have hlt := (docFold_le (s.data.toList.take k)).1
  change (foldK s k).1 < 10 ^ (foldK s k).2 at hlt
  have ha : (foldK s k).1 < 10000000 := Nat.lt_of_lt_of_le hlt (ten_le (by omega))
  have e : docStep (foldK s k) c = ((foldK s k).1 * 10 + (c.toNat - 48), (foldK s k).2 + 1) := if_pos ⟨by omega, by omega, by omega⟩
  rw [e] at hst
  refine ⟨⟨k + 1, Lib.hid (by omega), ?_, ?_, ?_, trivial⟩, msr hk hs⟩
  · rw [wr_num ha h1 h2, hst]
  · rw [hst]; rfl
  · rw [wrap_id (by omega) (by omega)]; rfl
theorem step_same {s : ByteArray} {k : Nat} {c : UInt8} (hk : k < s.size) (hs : s.size ≤ 20000) (h : ¬ (48 ≤ c.toNat ∧ c.toNat ≤ 57 ∧ (foldK s k).2 < 8)) (hst : foldK s (k + 1) = docStep (foldK s k) c) :
    (∃ k2 : Nat, Hid (k2 ≤ s.size) ∧ Value.int IntKind.i64 ((foldK s k).1 : Int) = Value.int IntKind.i64 (foldK s k2).1 ∧ Value.int IntKind.i64 ((foldK s k).2 : Int) = Value.int IntKind.i64 (foldK s k2).2 ∧ Value.int IntKind.i64 (wrap64 ((k : Int) + 1)) = Value.int IntKind.i64 k2 ∧ True) ∧
    s.size - (RowKit.intOf (Value.int IntKind.i64 (wrap64 ((k : Int) + 1)))).toNat < s.size - (RowKit.intOf (Value.int IntKind.i64 (k : Int))).toNat := by
  have e : docStep (foldK s k) c = foldK s k := if_neg h
  rw [e] at hst
  refine ⟨⟨k + 1, Lib.hid (by omega), ?_, ?_, ?_, trivial⟩, msr hk hs⟩
  · rw [hst]
  · rw [hst]
  · rw [wrap_id (by omega) (by omega)]; rfl
theorem minusB_pos {s : ByteArray} (h : 0 < s.size) : minusB s.data.toList = (s.data[0].toNat == 45) := by
  unfold minusB
  rw [List.head?_eq_getElem?, List.getElem?_eq_getElem (by rw [Array.length_toList]; exact h)]
  simp
theorem minusB_zero {s : ByteArray} (h : s.size = 0) : minusB s.data.toList = false := by
  have : s.data.toList = [] := List.length_eq_zero_iff.1 (by rw [Array.length_toList]; exact h)
  rw [this]; rfl
theorem numD_in {l : List UInt8} (h1 : (docFold l).2 ≤ 7) (h2 : InB (docNum l)) (h3 : itoa (docNum l) = l) : numD l = (docNum l, true) := if_pos ⟨h1, h2, h3⟩
theorem numD_un {l : List UInt8} (h : ¬ (docFold l).2 ≤ 7 ∨ ¬ InB (docNum l) ∨ itoa (docNum l) ≠ l) : numD l = (0, false) := if_neg (fun ⟨h1, h2, h3⟩ => h.elim (fun h => h h1) (fun h => h.elim (fun h => h h2) (fun h => h h3)))
set_option maxRecDepth 20000 in
set_option maxHeartbeats 2000000 in
theorem refNumber_any (s : ByteArray) (w : World) (hs : s.size ≤ 20000) :
    Calls Tryd.prog 24 #[.string s] w fun e w' => e = .returned (.tuple #[.int .i64 (numD s.data.toList).1, .bool (numD s.data.toList).2]) ∧ Below w.heap.size w w' := by
  have HS := Lib.hid hs
  clear hs
  go_enter Tryd.func24, Tryd.ntmps24
  go_wp2
  go_loopw [4, 5, 6] (fun n d i wr => ∃ k : Nat, Hid (k ≤ s.size) ∧ n = .int .i64 ((foldK s k).1 : Nat) ∧ d = .int .i64 ((foldK s k).2 : Nat) ∧ i = .int .i64 (k : Nat) ∧ wr = w) (fun _ _ i _ => s.size - (RowKit.intOf i).toNat)
  case atStart => exact ⟨0, Lib.hid (Nat.zero_le _), rfl, rfl, rfl, rfl⟩
  case round =>
    obtain ⟨k, HK, rfl, rfl, rfl, rfl⟩ := hrel
    by_cases hk : k < s.size
    · have hk' : (k : Int) < (s.size : Int) := by omega
      have hst := Lib.hid (foldK_step s k hk)
      have hix : ∃ c : UInt8, c = s.data[k] ∧ ∀ W : World, (Instr.index 9 (.string s) (.int .i64 (k : Nat))).run Tryd.prog W = .ok (.int .u8 (c.toNat : Nat)) W := ⟨_, rfl, fun W => by
        rw [run_index_string W _ _ _ _ Tryd.underlying9, dif_pos ⟨by omega, by omega⟩]; rfl⟩
      obtain ⟨c, hc, hix⟩ := hix
      rw [← hc] at hst
      clear hc
      by_cases h1 : 48 ≤ (c.toNat : Int)
      · by_cases h2 : (c.toNat : Int) ≤ 57
        · by_cases h3 : ((foldK s k).2 : Int) < 8
          · go_wp2_with fail
            exact step_num hk HS.out h1 h2 h3 hst.out
          · go_wp2_with fail
            exact step_same hk HS.out (fun h => h3 (by omega)) hst.out
        · go_wp2_with fail
          exact step_same hk HS.out (fun h => h2 (by omega)) hst.out
      · go_wp2_with fail
        exact step_same hk HS.out (fun h => h1 (by omega)) hst.out
    · obtain rfl : k = s.size := by have := HK.out; omega
      clear hk
      have hF : foldK s s.size = docFold s.data.toList := by unfold foldK; rw [show s.size = s.data.toList.length from Array.length_toList.symm, List.take_length]
      have hlt := docFold_le s.data.toList
      rw [← hF] at hlt
      by_cases hd0 : 7 < ((foldK s s.size).2 : Int)
      · have hR : Hid (numD s.data.toList = (0, false)) := Lib.hid (numD_un (.inl (by rw [← hF]; omega)))
        clear hF hlt
        go_wp2 <;> (go_ret2; rw [hR.out]; exact ⟨rfl, Below.refl _ _⟩)
      · have hd : (docFold s.data.toList).2 ≤ 7 := by rw [← hF]; omega
        have ha : (foldK s s.size).1 < 10000000 := Nat.lt_of_lt_of_le hlt.1 (ten_le (by omega))
        have hdn : docNum s.data.toList = if minusB s.data.toList = true then -((foldK s s.size).1 : Int) else ((foldK s s.size).1 : Int) := by unfold docNum; rw [hF]
        clear hF hlt
        by_cases he : 0 < s.size
        · have hix : ∃ c : UInt8, c = s.data[0] ∧ ∀ W : World, (Instr.index 9 (.string s) (.int .i64 0)).run Tryd.prog W = .ok (.int .u8 (c.toNat : Nat)) W := ⟨_, rfl, fun W => by
            rw [run_index_string W _ _ _ _ Tryd.underlying9, dif_pos ⟨by omega, by omega⟩]; rfl⟩
          obtain ⟨c, hc, hix⟩ := hix
          have hmb := minusB_pos he
          rw [← hc] at hmb
          by_cases hm : c.toNat = 45
          · have hz : wrap64 (-((foldK s s.size).1 : Int)) = docNum s.data.toList := by
              rw [hdn, if_pos (by rw [hmb, hm]; rfl), wrap_id (by omega) (by omega)]
            have hm2 : ((c.toNat : Int) == 45) = true := by rw [hm]; rfl
            have HD := Lib.hid hd
            clear hdn ha hmb hm hc hd
            have hd := HD.out
            have he2 : (0 : Int) < (s.size : Int) := by omega
            skip
            by_cases hn : InB (docNum s.data.toList)
            · have HN := Lib.hid hn
              by_cases hq : dS (docNum s.data.toList) = s
              · have hR : Hid (numD s.data.toList = (docNum s.data.toList, true)) := Lib.hid (numD_in hd hn (dS_iff.1 hq.symm))
                have HQ := Lib.hid hq
                clear hn hq
                go_wp2_with fail
                refine (refWithin_yes _ _ HN.out).mono ?_
                rintro e1 w1 ⟨rfl, rfl⟩
                go_wp2_with fail
                refine (refDecimal_any _ _ (by have := HN.out.1; omega) (by have := HN.out.2; omega)).mono ?_
                rintro e2 w2 ⟨rfl, hw2⟩
                have H2 := Lib.hid hw2
                clear hw2
                rw [HQ.out]
                go_wp2
                go_ret2
                rw [hR.out]
                exact ⟨rfl, H2.out⟩
              · have hR : Hid (numD s.data.toList = (0, false)) := Lib.hid (numD_un (.inr (.inr (fun h => hq (dS_iff.2 h).symm))))
                have hq2 := str_ne hq
                clear hn hq
                go_wp2_with fail
                refine (refWithin_yes _ _ HN.out).mono ?_
                rintro e1 w1 ⟨rfl, rfl⟩
                go_wp2_with fail
                refine (refDecimal_any _ _ (by have := HN.out.1; omega) (by have := HN.out.2; omega)).mono ?_
                rintro e2 w2 ⟨rfl, hw2⟩
                have H2 := Lib.hid hw2
                clear hw2
                generalize dS (docNum s.data.toList) = q at hq2 ⊢
                go_wp2
                go_ret2
                rw [hR.out]
                exact ⟨rfl, H2.out⟩
            · have hR : Hid (numD s.data.toList = (0, false)) := Lib.hid (numD_un (.inr (.inl hn)))
              have HN := Lib.hid hn
              clear hn
              go_wp2_with fail
              refine (refWithin_no _ _ HN.out).mono ?_
              rintro e1 w1 ⟨rfl, rfl⟩
              go_wp2
              go_ret2
              rw [hR.out]
              exact ⟨rfl, Below.refl _ _⟩
          · have hz : ((foldK s s.size).1 : Int) = docNum s.data.toList := by
              rw [hdn, if_neg (by rw [hmb]; simpa using hm)]
            have hm2 : ((c.toNat : Int) == 45) = false := by simp; omega
            have he2 : (0 : Int) < (s.size : Int) := by omega
            rw [hz]
            clear hdn ha hmb hm hc
            skip
            by_cases hn : InB (docNum s.data.toList)
            · have HN := Lib.hid hn
              by_cases hq : dS (docNum s.data.toList) = s
              · have hR : Hid (numD s.data.toList = (docNum s.data.toList, true)) := Lib.hid (numD_in hd hn (dS_iff.1 hq.symm))
                have HQ := Lib.hid hq
                clear hn hq
                go_wp2_with fail
                refine (refWithin_yes _ _ HN.out).mono ?_
                rintro e1 w1 ⟨rfl, rfl⟩
                go_wp2_with fail
                refine (refDecimal_any _ _ (by have := HN.out.1; omega) (by have := HN.out.2; omega)).mono ?_
                rintro e2 w2 ⟨rfl, hw2⟩
                have H2 := Lib.hid hw2
                clear hw2
                rw [HQ.out]
                go_wp2
                go_ret2
                rw [hR.out]
                exact ⟨rfl, H2.out⟩
              · have hR : Hid (numD s.data.toList = (0, false)) := Lib.hid (numD_un (.inr (.inr (fun h => hq (dS_iff.2 h).symm))))
                have hq2 := str_ne hq
                clear hn hq
                go_wp2_with fail
                refine (refWithin_yes _ _ HN.out).mono ?_
                rintro e1 w1 ⟨rfl, rfl⟩
                go_wp2_with fail
                refine (refDecimal_any _ _ (by have := HN.out.1; omega) (by have := HN.out.2; omega)).mono ?_
                rintro e2 w2 ⟨rfl, hw2⟩
                have H2 := Lib.hid hw2
                clear hw2
                generalize dS (docNum s.data.toList) = q at hq2 ⊢
                go_wp2
                go_ret2
                rw [hR.out]
                exact ⟨rfl, H2.out⟩
            · have hR : Hid (numD s.data.toList = (0, false)) := Lib.hid (numD_un (.inr (.inl hn)))
              have HN := Lib.hid hn
              clear hn
              go_wp2_with fail
              refine (refWithin_no _ _ HN.out).mono ?_
              rintro e1 w1 ⟨rfl, rfl⟩
              go_wp2
              go_ret2
              rw [hR.out]
              exact ⟨rfl, Below.refl _ _⟩
        · have hz : ((foldK s s.size).1 : Int) = docNum s.data.toList := by
            rw [hdn, if_neg (by rw [minusB_zero (by omega)]; decide)]
          have he2 : ¬ (0 : Int) < (s.size : Int) := by omega
          rw [hz]
          clear hdn ha
          skip
          by_cases hn : InB (docNum s.data.toList)
          · have HN := Lib.hid hn
            by_cases hq : dS (docNum s.data.toList) = s
            · have hR : Hid (numD s.data.toList = (docNum s.data.toList, true)) := Lib.hid (numD_in hd hn (dS_iff.1 hq.symm))
              have HQ := Lib.hid hq
              clear hn hq
              go_wp2_with fail
              refine (refWithin_yes _ _ HN.out).mono ?_
              rintro e1 w1 ⟨rfl, rfl⟩
              go_wp2_with fail
              refine (refDecimal_any _ _ (by have := HN.out.1; omega) (by have := HN.out.2; omega)).mono ?_
              rintro e2 w2 ⟨rfl, hw2⟩
              have H2 := Lib.hid hw2
              clear hw2
              rw [HQ.out]
              go_wp2
              go_ret2
              rw [hR.out]
              exact ⟨rfl, H2.out⟩
            · have hR : Hid (numD s.data.toList = (0, false)) := Lib.hid (numD_un (.inr (.inr (fun h => hq (dS_iff.2 h).symm))))
              have hq2 := str_ne hq
              clear hn hq
              go_wp2_with fail
              refine (refWithin_yes _ _ HN.out).mono ?_
              rintro e1 w1 ⟨rfl, rfl⟩
              go_wp2_with fail
              refine (refDecimal_any _ _ (by have := HN.out.1; omega) (by have := HN.out.2; omega)).mono ?_
              rintro e2 w2 ⟨rfl, hw2⟩
              have H2 := Lib.hid hw2
              clear hw2
              generalize dS (docNum s.data.toList) = q at hq2 ⊢
              go_wp2
              go_ret2
              rw [hR.out]
              exact ⟨rfl, H2.out⟩
          · have hR : Hid (numD s.data.toList = (0, false)) := Lib.hid (numD_un (.inr (.inl hn)))
            have HN := Lib.hid hn
            clear hn
            go_wp2_with fail
            refine (refWithin_no _ _ HN.out).mono ?_
            rintro e1 w1 ⟨rfl, rfl⟩
            go_wp2
            go_ret2
            rw [hR.out]
            exact ⟨rfl, Below.refl _ _⟩
end Go.Proofs.YtcielemahmpppaaDoor
