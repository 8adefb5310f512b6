/- The law LexBounds: its walk. -/
import Derived.Test.YtcielemahmpppaaDoorLexScansLaw
import Derived.Lib.Repeat
namespace Go.Proofs.YtcielemahmpppaaDoor.lx
open Go.ChangeShapes Go.WideShapes Go.ChangeAt Go.RowKit Go.Deep Go.Proofs.YtcielemahmpppaaDoor.sr

theorem bt_head {c : UInt8} {l : List UInt8} : bt ⟨(c :: l).toArray⟩ 0 = c.toNat := by
  rw [bt_eq (by rw [size_list]; simp)]
  rfl
theorem tail_cons {u : ByteArray} {a : Nat} {c : UInt8} {l : List UInt8} (ha : a ≤ u.size) (h : tailS u a = ⟨(c :: l).toArray⟩) : a < u.size ∧ bt u a = c.toNat ∧ tailS u (a + 1) = ⟨l.toArray⟩ := by
  have hz := congrArg ByteArray.size h
  rw [tail_size, size_list (c :: l), List.length_cons] at hz
  have hlt : a < u.size := by omega
  refine ⟨hlt, ?_, ?_⟩
  · have := tail_bt (s := u) (a := a) (i := 0) (by omega)
    rw [Nat.add_zero] at this
    rw [← this, h, bt_head]
  · rw [← tail_tail (by omega), h]
    exact tail_app [c] l
theorem spaces_sc {nm : List UInt8 → Int × Bool} {u : ByteArray} : ∀ (k a : Nat), a ≤ u.size → tailS u a = ⟨(Lib.repeatL [32] k).toArray⟩ → Sc nm u a [] ([], 0, 0)
  | 0, a, ha, h => by
    have hz := congrArg ByteArray.size h
    rw [tail_size, size_list (Lib.repeatL [32] 0)] at hz
    exact .done (by simp [Lib.repeatL] at hz; omega)
  | k + 1, a, ha, h => by
    obtain ⟨h1, h2, h3⟩ := tail_cons (c := 32) (l := Lib.repeatL [32] k) ha h
    exact .blank h1 (by rw [h2]; decide) (spaces_sc k (a + 1) (by omega) h3)
theorem word_a {nm : List UInt8 → Int × Bool} {l : List UInt8} : firstP nm ⟨(97 :: 32 :: l).toArray⟩ = .ok (1, 0, 1) := by
  have b0 : bt ⟨(97 :: 32 :: l).toArray⟩ 0 = 97 := bt_head
  have b1 : bt ⟨(97 :: 32 :: l).toArray⟩ 1 = 32 := by
    rw [bt_eq (by rw [size_list]; simp)]
    rfl
  refine first_word 1 (wordN_of (by rw [size_list]; simp) (fun i hi => ?_) (fun _ => by rw [b1]; decide)) (by decide) (by decide)
  obtain rfl : i = 0 := by omega
  rw [b0]; decide
/-- Words of one byte, a blank behind each. -/
theorem words_sc {nm : List UInt8 → Int × Bool} {u : ByteArray} : ∀ (k a : Nat) (l : List Tok), a ≤ u.size → l.length ≤ 6000 → tailS u a = ⟨(Lib.repeatL [97, 32] k).toArray⟩ →
    ∃ r, Sc nm u a l r ∧ ((l.length + k ≤ 6000 ∧ r.2 = (0, 0) ∧ r.1.length = l.length + k) ∨ (6000 < l.length + k ∧ r = ([], a + 2 * (6000 - l.length), 11)))
  | 0, a, l, ha, hl, h => by
    have hz := congrArg ByteArray.size h
    rw [tail_size, size_list (Lib.repeatL [97, 32] 0)] at hz
    exact ⟨_, .done (by simp [Lib.repeatL] at hz; omega), .inl ⟨by omega, rfl, rfl⟩⟩
  | k + 1, a, l, ha, hl, h => by
    have h' : tailS u a = ⟨(97 :: 32 :: Lib.repeatL [97, 32] k).toArray⟩ := h
    obtain ⟨h1, h2, h3⟩ := tail_cons ha h'
    obtain ⟨h4, h5, h6⟩ := tail_cons (by omega) h3
    have nb1 : blankB (bt u a) = false := by rw [h2]; decide
    have nb2 : bt u a ≠ 35 := by rw [h2]; decide
    by_cases hm : l.length = 6000
    · exact ⟨_, .many h1 nb1 nb2 hm, .inr ⟨by omega, by rw [hm]; rfl⟩⟩
    · have hlen : (l ++ [(⟨1, 0, a, u.extract a (a + 1)⟩ : Tok)]).length = l.length + 1 := by simp
      obtain ⟨r, hr, hc⟩ := words_sc (nm := nm) k (a + 1 + 1) (l ++ [⟨1, 0, a, u.extract a (a + 1)⟩]) (by omega) (by rw [hlen]; omega) h6
      refine ⟨r, .token h1 nb1 nb2 hm (by rw [h']; exact word_a) (.blank h4 (by rw [h5]; decide) hr), ?_⟩
      rw [hlen] at hc
      rcases hc with ⟨c1, c2, c3⟩ | ⟨c1, c2⟩
      · exact .inl ⟨by omega, c2, by omega⟩
      · exact .inr ⟨by omega, by rw [c2, show a + 1 + 1 + 2 * (6000 - (l.length + 1)) = a + 2 * (6000 - l.length) by omega]⟩
theorem words_all {nm : List UInt8 → Int × Bool} (n : Nat) : ∃ r, Sc nm ⟨(Lib.repeatL [97, 32] n).toArray⟩ 0 [] r ∧ ((n ≤ 6000 ∧ r.2 = (0, 0) ∧ r.1.length = n) ∨ (6000 < n ∧ r = ([], 12000, 11))) := by
  obtain ⟨r, h1, h2⟩ := words_sc (nm := nm) (u := ⟨(Lib.repeatL [97, 32] n).toArray⟩) n 0 [] (Nat.zero_le _) (by simp) (tail_zero' _)
  simp only [List.length_nil, Nat.zero_add] at h2
  exact ⟨r, h1, h2⟩
where tail_zero' (s : ByteArray) : tailS s 0 = s := by unfold tailS; exact ByteArray.extract_zero_size
theorem rep_size (l : List UInt8) (n : Nat) : (⟨(Lib.repeatL l n).toArray⟩ : ByteArray).size = n * l.length := by rw [size_list, Lib.repeatL_length]
/-- strings.Repeat, at what the law asks of it. -/
theorem repeat_any (l : List UInt8) (n : Nat) (w : World) (hn : n ≤ 100000) (hl : l.length ≤ 2) : Calls Tryd.prog 19 #[.string ⟨l.toArray⟩, .int .i64 n] w fun e w' => e = .returned (.string ⟨(Lib.repeatL l n).toArray⟩) ∧ Below w.heap.size w w' := by
  have h1 : (⟨l.toArray⟩ : ByteArray).size = l.length := size_list l
  have h2 : (⟨l.toArray⟩ : ByteArray).size * n ≤ 2 * n := Nat.mul_le_mul_right _ (by omega)
  exact Tryd.strings_Repeat ⟨l.toArray⟩ n w (by omega) (by omega)
theorem long_sc {nm : List UInt8 → Int × Bool} {s : ByteArray} {r : Res} (h : ScanR nm s r) (hz : 20000 < s.size) : r = ([], 0, 5) := by
  rcases h with ⟨_, h1⟩ | ⟨h1, _⟩
  · exact h1
  · omega
/-- What is made of blanks alone. -/
theorem rep_spaces (n : Nat) (w : World) (hn : n ≤ 100000) : Calls Tryd.prog 19 #[.string ⟨#[32]⟩, .int .i64 n] w fun e w' => ∃ q, e = .returned (.string q) ∧ q.size = n ∧ Sc numD q 0 [] ([], 0, 0) ∧ Below w.heap.size w w' := by
  refine (repeat_any [32] n w hn (by decide)).mono ?_
  rintro e w' ⟨rfl, hb⟩
  exact ⟨_, rfl, by rw [rep_size]; simp, spaces_sc n 0 (Nat.zero_le _) (words_all.tail_zero' _), hb⟩
/-- .. of words. -/
theorem rep_words (n : Nat) (w : World) (hn : n ≤ 10000) : Calls Tryd.prog 19 #[.string ⟨#[97, 32]⟩, .int .i64 n] w fun e w' => ∃ q r, e = .returned (.string q) ∧ q.size ≤ 20000 ∧ Sc numD q 0 [] r ∧ ((n ≤ 6000 ∧ r.2 = (0, 0) ∧ r.1.length = n) ∨ (6000 < n ∧ r = ([], 12000, 11))) ∧ Below w.heap.size w w' := by
  refine (repeat_any [97, 32] n w (by omega) (by decide)).mono ?_
  rintro e w' ⟨rfl, hb⟩
  obtain ⟨r, h1, h2⟩ := words_all (nm := numD) n
  exact ⟨_, r, rfl, by rw [rep_size]; simp; omega, h1, h2, hb⟩
theorem scan_long (s : ByteArray) (w : World) (h : LexW w) (hz : 20000 < s.size) : Calls Tryd.prog 10 #[.string s] w fun e w' => ∃ v, e = .returned (.tuple #[v, .int .i64 0, .int .i64 5]) ∧ Below w.heap.size w w' := by
  refine (scan_any numD s w h.sg h.num).mono ?_
  rintro e w' ⟨r, v, h1, rfl, _, h3⟩
  obtain rfl := long_sc h1 hz
  exact ⟨v, rfl, h3⟩
theorem scan_short (s : ByteArray) (w : World) (h : LexW w) (hz : s.size ≤ 20000) (hs : Sc numD s 0 [] ([], 0, 0)) : Calls Tryd.prog 10 #[.string s] w fun e w' => ∃ v, e = .returned (.tuple #[v, .int .i64 0, .int .i64 0]) ∧ Below w.heap.size w w' := by
  refine (scan_known s w h hz _ hs).mono ?_
  rintro e w' ⟨A, c, rfl, _, _, h3⟩
  exact ⟨_, rfl, h3⟩
set_option maxRecDepth 100000 in
set_option maxHeartbeats 4000000 in
theorem lexBounds_at (x : Int) (n : Nat) (b : Bool) (w : World) (h : LexW w) (d : Nat) (hx : x.tmod 8 = (d : Int)) (h1 : 5996 + d = n) (h2 : d ≤ 7) : Calls Tryd.prog 8 #[.int .u8 x, .bool b] w fun e w' => e = .returned (.bool true) ∧ Below w.heap.size w w' := by
  have HW := Lib.hid h
  have HX := hx
  have he : (5996 : Int) + (d : Int) = (n : Int) := by omega
  have hn : n ≤ 10000 := by omega
  have HE := Lib.hid he
  clear h he h1
  go_enter Tryd.func8, Tryd.ntmps8
  go_wp2_with fail
  rw [HE.out]
  clear hx HX h2
  refine (rep_words n _ hn).mono ?_
  rintro e w1 ⟨q, r, rfl, hq, hsc, hcs, hb1⟩
  have HSC := Lib.hid hsc
  have HB1 := Lib.hid hb1
  have HCS := Lib.hid hcs
  clear hsc hb1 hcs
  go_wp2_with fail
  refine (scan_known q _ (HW.out.below HB1.out) hq _ HSC.out).mono ?_
  rintro e w2 ⟨A, c, rfl, _, _, hb2⟩
  have HB2 : Hid (Below w.heap.size w w2) := Lib.hid (HB1.out.trans (hb2.mono HB1.out.size))
  clear hb2
  have FIN : Hid (∀ W, Below w.heap.size w W → LexW W) := Lib.hid (fun W hW => HW.out.below hW)
  rcases HCS.out with ⟨c1, c2, c3⟩ | ⟨c1, c2⟩
  · obtain ⟨r1, r2, r3⟩ := r
    injection c2 with e1 e2
    subst e1 e2
    simp only at c3 ⊢
    rw [c3]
    have g1 : (n : Int) ≤ 6000 := by omega
    have g2 : ¬ (6000 : Int) < (n : Int) := by omega
    cases b with
    | true =>
      go_wp2_with fail
      refine (rep_spaces 20001 _ (by decide)).mono ?_
      rintro e w3 ⟨q3, rfl, hq3, _, hb3⟩
      have HB3 : Hid (Below w.heap.size w w3) := Lib.hid (HB2.out.trans (hb3.mono HB2.out.size))
      clear hb3
      go_wp2_with fail
      refine (scan_long q3 _ (FIN.out _ HB3.out) (by omega)).mono ?_
      rintro e w4 ⟨v4, rfl, hb4⟩
      have HB4 : Hid (Below w.heap.size w w4) := Lib.hid (HB3.out.trans (hb4.mono HB3.out.size))
      clear hb4
      go_wp2_with fail
      refine (awake_any _ (FIN.out _ HB4.out)).mono ?_
      rintro e w5 ⟨rfl, hb5⟩
      have HB5 : Hid (Below w.heap.size w w5) := Lib.hid (HB4.out.trans (hb5.mono HB4.out.size))
      clear hb5
      go_wp2
      go_ret
      exact ⟨rfl, HB5.out⟩
    | false =>
      go_wp2_with fail
      refine (rep_spaces 20000 _ (by decide)).mono ?_
      rintro e w3 ⟨q3, rfl, hq3, hs3, hb3⟩
      have HS3 := Lib.hid hs3
      have HB3 : Hid (Below w.heap.size w w3) := Lib.hid (HB2.out.trans (hb3.mono HB2.out.size))
      clear hb3 hs3
      go_wp2_with fail
      refine (scan_short q3 _ (FIN.out _ HB3.out) (by omega) HS3.out).mono ?_
      rintro e w4 ⟨v4, rfl, hb4⟩
      have HB4 : Hid (Below w.heap.size w w4) := Lib.hid (HB3.out.trans (hb4.mono HB3.out.size))
      clear hb4
      go_wp2_with fail
      refine (awake_any _ (FIN.out _ HB4.out)).mono ?_
      rintro e w5 ⟨rfl, hb5⟩
      have HB5 : Hid (Below w.heap.size w w5) := Lib.hid (HB4.out.trans (hb5.mono HB4.out.size))
      clear hb5
      go_wp2
      go_ret
      exact ⟨rfl, HB5.out⟩
  · subst c2
    simp only [List.length_nil]
    have g1 : ¬ (n : Int) ≤ 6000 := by omega
    have g2 : (6000 : Int) < (n : Int) := by omega
    cases b with
    | true =>
      go_wp2_with fail
      refine (rep_spaces 20001 _ (by decide)).mono ?_
      rintro e w3 ⟨q3, rfl, hq3, _, hb3⟩
      have HB3 : Hid (Below w.heap.size w w3) := Lib.hid (HB2.out.trans (hb3.mono HB2.out.size))
      clear hb3
      go_wp2_with fail
      refine (scan_long q3 _ (FIN.out _ HB3.out) (by omega)).mono ?_
      rintro e w4 ⟨v4, rfl, hb4⟩
      have HB4 : Hid (Below w.heap.size w w4) := Lib.hid (HB3.out.trans (hb4.mono HB3.out.size))
      clear hb4
      go_wp2_with fail
      refine (awake_any _ (FIN.out _ HB4.out)).mono ?_
      rintro e w5 ⟨rfl, hb5⟩
      have HB5 : Hid (Below w.heap.size w w5) := Lib.hid (HB4.out.trans (hb5.mono HB4.out.size))
      clear hb5
      go_wp2
      go_ret
      exact ⟨rfl, HB5.out⟩
    | false =>
      go_wp2_with fail
      refine (rep_spaces 20000 _ (by decide)).mono ?_
      rintro e w3 ⟨q3, rfl, hq3, hs3, hb3⟩
      have HS3 := Lib.hid hs3
      have HB3 : Hid (Below w.heap.size w w3) := Lib.hid (HB2.out.trans (hb3.mono HB2.out.size))
      clear hb3 hs3
      go_wp2_with fail
      refine (scan_short q3 _ (FIN.out _ HB3.out) (by omega) HS3.out).mono ?_
      rintro e w4 ⟨v4, rfl, hb4⟩
      have HB4 : Hid (Below w.heap.size w w4) := Lib.hid (HB3.out.trans (hb4.mono HB3.out.size))
      clear hb4
      go_wp2_with fail
      refine (awake_any _ (FIN.out _ HB4.out)).mono ?_
      rintro e w5 ⟨rfl, hb5⟩
      have HB5 : Hid (Below w.heap.size w w5) := Lib.hid (HB4.out.trans (hb5.mono HB4.out.size))
      clear hb5
      go_wp2
      go_ret
      exact ⟨rfl, HB5.out⟩
theorem lexBounds_any (x : Int) (b : Bool) (w : World) (h0 : 0 ≤ x) (h1 : x ≤ 255) (h : LexW w) : Calls Tryd.prog 8 #[.int .u8 x, .bool b] w fun e w' => e = .returned (.bool true) ∧ Below w.heap.size w w' := by
  have h2 : x.tmod 8 = x % 8 := Int.tmod_eq_emod_of_nonneg h0
  exact lexBounds_at x (5996 + (x % 8).toNat) b w h (x % 8).toNat (by omega) rfl (by omega)
end Go.Proofs.YtcielemahmpppaaDoor.lx
