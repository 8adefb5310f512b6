/- The law LexBack: its walk. -/
import Derived.Test.YtcielemahmpppaaDoorLexScansLaw
namespace Go.Proofs.YtcielemahmpppaaDoor.lx
open Go.ChangeShapes Go.WideShapes Go.ChangeAt Go.RowKit Go.Deep Go.Proofs.YtcielemahmpppaaDoor.sr

theorem numD_yes {l : List UInt8} (h : (numD l).2 = true) : InB (numD l).1 ∧ Lib.itoa (numD l).1 = l := by
  by_cases c : (docFold l).2 ≤ 7 ∧ InB (docNum l) ∧ Lib.itoa (docNum l) = l
  · rw [numD_in c.1 c.2.1 c.2.2]; exact c.2
  · have : numD l = (0, false) := if_neg c
    rw [this] at h; cases h
theorem first_nums {s : ByteArray} {k m : Nat} {n : Int} (hf : firstP numD s = .ok (k, n, m)) (hk : k = 2) : InB n ∧ Lib.itoa n = (s.extract 0 m).data.toList := by
  subst hk
  unfold firstP at hf
  split at hf
  · cases hf
  · split at hf
    · injection hf with hf
      injection hf with e1 _
      cases e1
    · split at hf
      · split at hf
        · rename_i hn
          injection hf with hf
          injection hf with _ hf
          injection hf with e2 e3
          subst e3
          rw [← e2]
          exact numD_yes hn
        · cases hf
      · split at hf
        · injection hf with hf
          injection hf with e1 _
          cases e1
        · cases hf
theorem Tks.nums {s : ByteArray} {a : Nat} {T : List Tok} (h : Tks numD s a T) : ∀ t ∈ T, t.kind = 2 → InB t.num ∧ Lib.itoa t.num = t.text.data.toList := by
  induction h with
  | done => intro t h; cases h
  | blank _ _ _ ih => exact ih
  | remark _ _ _ ih => exact ih
  | @token a L k n m h1 hb hr hf hh ih =>
    intro t ht
    rcases List.mem_cons.1 ht with rfl | ht
    · intro hk
      have h2 := (first_ok h1 hf).2.1
      have := first_nums hf hk
      rw [extract_tail_in h2] at this
      exact this
    · exact ih t ht
theorem Tks.text {s : ByteArray} {a : Nat} {T : List Tok} (h : Tks numD s a T) : textP T = textL T := by
  unfold textP textL
  congr 1
  refine List.map_congr_left fun t ht => ?_
  unfold tokB
  split
  · rename_i hk; exact (h.nums t ht hk).2
  · rfl
theorem Tks.numsOk {s : ByteArray} {a : Nat} {T : List Tok} (h : Tks numD s a T) : NumsOk T := fun t ht hk => by
  have := (h.nums t ht hk).1
  unfold InB at this
  omega
theorem text_le {nm : List UInt8 → Int × Bool} {s : ByteArray} {a : Nat} {T : List Tok} (h : Tks nm s a T) : (textL T).length ≤ 2 * (s.size - a) := by
  induction h with
  | done => rw [textL_nil]; exact Nat.zero_le _
  | blank h1 _ _ ih => omega
  | remark h1 hb _ ih => have := lineE_gt h1 hb; omega
  | @token a L k n m h1 hb hr hf hh ih =>
    obtain ⟨h2, h3, _⟩ := first_ok h1 hf
    have hz : (s.extract a (a + m)).data.toList.length = m := by rw [size_toList, ByteArray.size_extract]; omega
    cases L with
    | nil => rw [textL_one]; show (s.extract a (a + m)).data.toList.length ≤ _; omega
    | cons x r =>
      rw [textL_cons, List.length_append, List.length_cons]
      show (s.extract a (a + m)).data.toList.length + _ ≤ _
      omega
/-- The text of the tokens of a text is read as them. -/
theorem back_sc {s : ByteArray} {T : List Tok} (h : Tks numD s 0 T) (hz : s.size ≤ 3000) : ∃ T', Sc numD ⟨(textP T).toArray⟩ 0 [] (T', 0, 0) ∧ SameT T T' ∧ (textP T).length ≤ 6000 := by
  have hl := text_le h
  have hn := tks_len h
  rw [h.text]
  obtain ⟨T', h1, h2⟩ := join_tks (nm := numD) (u := ⟨(textL T).toArray⟩) T h.good 0 (Nat.zero_le _) (by unfold tailS; exact ByteArray.extract_zero_size)
  have := h2.len
  exact ⟨T', by have := h1.sc [] (by simp; omega); simpa using this, h2, by omega⟩
set_option maxRecDepth 100000 in
set_option maxHeartbeats 4000000 in
theorem lexBack_any (s : ByteArray) (w : World) (h : LexW w) : Calls Tryd.prog 5 #[.string s] w fun e w' => e = .returned (.bool true) ∧ Below w.heap.size w w' := by
  have HW := Lib.hid h
  clear h
  by_cases hz : 3000 < s.size
  · have g : (3000 : Int) < (s.size : Int) := by omega
    go_enter Tryd.func5, Tryd.ntmps5
    go_wp2_with fail
    refine (awake_any _ HW.out).mono ?_
    rintro e w1 ⟨rfl, hb1⟩
    go_wp2
    go_ret
    exact ⟨rfl, hb1⟩
  · have g : ¬ (3000 : Int) < (s.size : Int) := by omega
    have hz2 : s.size ≤ 20000 := by omega
    go_enter Tryd.func5, Tryd.ntmps5
    go_wp2_with fail
    refine (scan_sc s _ HW.out hz2).mono ?_
    rintro e w1 ⟨r, A, c, hsc, rfl, _, hr1, hb1⟩
    have HSC := Lib.hid hsc
    have HR1 := Lib.hid hr1
    have HB1 := Lib.hid hb1
    clear hsc hr1 hb1
    obtain ⟨l, at', why⟩ := r
    by_cases hw : why = 0
    · obtain ⟨T, hT, htk, _⟩ := HSC.out.tks hw
      rw [List.nil_append] at hT
      injection hT with e1 e2
      injection e2 with e2 e3
      subst e1 e2 e3
      obtain ⟨T', hs2, hst, hle⟩ := back_sc htk (by omega)
      have HTK := Lib.hid htk
      have HS2 := Lib.hid hs2
      have HST := Lib.hid hst
      have HLE := Lib.hid hle
      have hnl : l.length ≤ 6000 := by have := tks_len htk; omega
      obtain ⟨n, HN⟩ : ∃ n, Hid (n = l.length) := ⟨_, Lib.hid rfl⟩
      have HN2 : Hid (n = T'.length) := Lib.hid (HN.out.trans hst.len)
      simp only at HR1 ⊢
      rw [← HN.out] at hnl ⊢
      clear htk hs2 hst hle hw
      go_wp2_with fail
      refine (text_any l A n c _ HN.out hnl HR1.out (HW.out.below HB1.out).tabs HTK.out.numsOk (by have := HLE.out; omega)).mono ?_
      rintro e w2 ⟨rfl, hb2⟩
      have HR2 := Lib.hid (HR1.out.below hb2)
      have HB2 : Hid (Below w.heap.size w w2) := Lib.hid (HB1.out.trans (hb2.mono HB1.out.size))
      clear hb2
      have HQZ : Hid ((⟨(textP l).toArray⟩ : ByteArray).size ≤ 20000) := Lib.hid (by rw [size_list]; have := HLE.out; omega)
      generalize (⟨(textP l).toArray⟩ : ByteArray) = q at HS2 HQZ ⊢
      go_wp2_with fail
      refine (scan_known q _ (HW.out.below HB2.out) HQZ.out _ HS2.out).mono ?_
      rintro e w3 ⟨A3, c3, rfl, _, hr3, hb3⟩
      have HR3 := Lib.hid hr3
      have HR23 := Lib.hid (HR2.out.below hb3)
      have HB3 : Hid (Below w.heap.size w w3) := Lib.hid (HB2.out.trans (hb3.mono HB2.out.size))
      clear hr3 hb3
      simp only at HR3 ⊢
      rw [← HN2.out]
      go_wp2_with fail
      refine (back_any l A n c _ HN.out hnl HR23.out).mono ?_
      rintro e w4 ⟨v4, rfl, ho4, hb4⟩
      obtain ⟨A4, c4, rfl, hr4⟩ := OR.rs cellT_len ho4
      have HR4 := Lib.hid hr4
      have HR34 := Lib.hid (HR3.out.below hb4)
      have HB4 : Hid (Below w.heap.size w w4) := Lib.hid (HB3.out.trans (hb4.mono HB3.out.size))
      clear ho4 hr4 hb4
      rw [← HN.out]
      go_wp2_with fail
      refine (back_any T' A3 n c3 _ HN2.out hnl HR34.out).mono ?_
      rintro e w5 ⟨v5, rfl, ho5, hb5⟩
      obtain ⟨A5, c5, rfl, hr5⟩ := OR.rs cellT_len ho5
      have HR5 := Lib.hid hr5
      have HR45 := Lib.hid (HR4.out.below hb5)
      have HB5 : Hid (Below w.heap.size w w5) := Lib.hid (HB4.out.trans (hb5.mono HB4.out.size))
      clear ho5 hr5 hb5
      rw [← HN2.out]
      go_wp2_with fail
      refine (refSame_true l T' A4 A5 n c4 c5 false _ HN.out HN2.out (by omega) HR45.out HR5.out HST.out (fun h => by cases h)).mono ?_
      rintro e w6 ⟨rfl, hb6⟩
      have HB6 : Hid (Below w.heap.size w w6) := Lib.hid (HB5.out.trans (hb6.mono HB5.out.size))
      clear hb6
      go_wp2_with fail
      refine (awake_any _ (HW.out.below HB6.out)).mono ?_
      rintro e w7 ⟨rfl, hb7⟩
      have HB7 : Hid (Below w.heap.size w w7) := Lib.hid (HB6.out.trans (hb7.mono HB6.out.size))
      clear hb7
      go_wp2
      go_ret
      exact ⟨rfl, HB7.out⟩
    · have hl : l = [] := HSC.out.err hw
      subst hl
      have gw : ((why : Int) != 0) = true := by simp; omega
      simp only [List.length_nil]
      go_wp2_with fail
      refine (awake_any _ (HW.out.below HB1.out)).mono ?_
      rintro e w2 ⟨rfl, hb2⟩
      have HB2 : Hid (Below w.heap.size w w2) := Lib.hid (HB1.out.trans (hb2.mono HB1.out.size))
      clear hb2
      go_wp2
      go_ret
      exact ⟨rfl, HB2.out⟩
end Go.Proofs.YtcielemahmpppaaDoor.lx
