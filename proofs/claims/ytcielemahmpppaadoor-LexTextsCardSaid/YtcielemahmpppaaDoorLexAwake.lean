/- The law's awake. -/
import Derived.Test.YtcielemahmpppaaDoorLexText
import Derived.Test.YtcielemahmpppaaDoorLexName
namespace Go.Proofs.YtcielemahmpppaaDoor.lx
open Go.ChangeShapes Go.WideShapes Go.ChangeAt Go.RowKit Go.Deep Go.Proofs.YtcielemahmpppaaDoor.sr

theorem first_word {nm : List UInt8 → Int × Bool} {s : ByteArray} (m : Nat) (h : wordN s = m) (h0 : 0 < m) (h1 : m ≤ 16) : firstP nm s = .ok (1, 0, m) := by
  unfold firstP; rw [if_neg (by omega), if_pos (by omega), h]
theorem first_num {nm : List UInt8 → Int × Bool} {s : ByteArray} (m : Nat) (v : Int) (hw : wordN s = 0) (h : digN s = m) (h0 : 0 < m) (hn : nm (s.extract 0 m).data.toList = (v, true)) : firstP nm s = .ok (2, v, m) := by
  unfold firstP; rw [if_neg (by omega), if_neg (by omega), if_pos (by omega), h, hn, if_pos rfl]
theorem first_bad {nm : List UInt8 → Int × Bool} {s : ByteArray} (m : Nat) (v : Int) (hw : wordN s = 0) (h : digN s = m) (h0 : 0 < m) (hn : nm (s.extract 0 m).data.toList = (v, false)) : firstP nm s = .error 10 := by
  unfold firstP; rw [if_neg (by omega), if_neg (by omega), if_pos (by omega), h, hn, if_neg (fun h => by cases h)]
theorem first_sgn {nm : List UInt8 → Int × Bool} {s : ByteArray} (m : Nat) (hw : wordN s = 0) (hd : digN s = 0) (h : signN s = m) (h0 : 0 < m) : firstP nm s = .ok (3, 0, m) := by
  unfold firstP; rw [if_neg (by omega), if_neg (by omega), if_neg (by omega), if_pos (by omega), h]
theorem first_no {nm : List UInt8 → Int × Bool} {s : ByteArray} (hw : wordN s = 0) (hd : digN s = 0) (h : signN s = 0) : firstP nm s = .error 13 := by
  unfold firstP; rw [if_neg (by omega), if_neg (by omega), if_neg (by omega), if_neg (by omega)]
theorem itoa12 : Lib.itoa 12 = [49, 50] := by
  unfold Lib.itoa
  rw [if_neg (by omega), show (12 : Int).toNat = 12 from rfl, decDigits_big (by omega), Lib.decDigits_one (by omega)]
  rfl
theorem itoa7 : Lib.itoa 7 = [55] := by
  unfold Lib.itoa
  rw [if_neg (by omega), show (7 : Int).toNat = 7 from rfl, Lib.decDigits_one (by omega)]
  rfl
def w1S : ByteArray := ⟨#[120, 58, 61, 121, 43, 49, 50, 32, 35, 32, 110, 111]⟩
def w2S : ByteArray := ⟨#[97, 32, 61, 32, 98]⟩
def w3S : ByteArray := ⟨#[48, 48, 55]⟩
def w1T : List Tok := [⟨1, 0, 0, ⟨#[120]⟩⟩, ⟨3, 0, 1, ⟨#[58, 61]⟩⟩, ⟨1, 0, 3, ⟨#[121]⟩⟩, ⟨3, 0, 4, ⟨#[43]⟩⟩, ⟨2, 12, 5, ⟨#[49, 50]⟩⟩]
theorem tok_step {nm : List UInt8 → Int × Bool} {s : ByteArray} {a : Nat} {L : List Tok} (k : Nat) (n : Int) (m : Nat) (q : ByteArray) (h : a < s.size) (hb : blankB (bt s a) = false) (hr : bt s a ≠ 35) (hf : firstP nm (tailS s a) = .ok (k, n, m)) (hq : s.extract a (a + m) = q) (hh : Tks nm s (a + m) L) : Tks nm s a (⟨k, n, a, q⟩ :: L) := by
  subst hq
  exact .token h hb hr hf hh
theorem w1_tks : Tks numD w1S 0 w1T :=
  tok_step 1 0 1 _ (by decide) (by decide) (by decide) (first_word 1 (by decide +kernel) (by decide) (by decide)) (by decide +kernel)
  (tok_step 3 0 2 _ (by decide) (by decide) (by decide) (first_sgn 2 (by decide +kernel) (by decide +kernel) (by decide +kernel) (by decide)) (by decide +kernel)
  (tok_step 1 0 1 _ (by decide) (by decide) (by decide) (first_word 1 (by decide +kernel) (by decide) (by decide)) (by decide +kernel)
  (tok_step 3 0 1 _ (by decide) (by decide) (by decide) (first_sgn 1 (by decide +kernel) (by decide +kernel) (by decide +kernel) (by decide)) (by decide +kernel)
  (tok_step 2 12 2 _ (by decide) (by decide) (by decide) (first_num 2 12 (by decide +kernel) (by decide +kernel) (by decide) (by
    rw [show ((tailS w1S (0 + 1 + 2 + 1 + 1)).extract 0 2).data.toList = [49, 50] by decide +kernel]
    exact numD_some (by decide) (by decide) itoa12)) (by decide +kernel)
  (.blank (by decide) (by decide) (.remark (by decide) (by decide) (.done (by decide +kernel))))))))
theorem w1_sc : Sc numD w1S 0 [] (w1T, 0, 0) := w1_tks.sc [] (by decide)
theorem w2_sc : Sc numD w2S 0 [] ([], 2, 13) :=
  .token (k := 1) (n := 0) (m := 1) (by decide) (by decide) (by decide) (by decide) (first_word 1 (by decide +kernel) (by decide) (by decide))
  (.blank (by decide) (by decide) (.wrong (by decide) (by decide) (by decide) (by simp) (first_no (by decide +kernel) (by decide +kernel) (by decide +kernel))))
theorem w3_sc : Sc numD w3S 0 [] ([], 0, 10) :=
  .wrong (by decide) (by decide) (by decide) (by decide) (first_bad 3 0 (by decide +kernel) (by decide +kernel) (by decide) (by
    rw [show ((tailS w3S 0).extract 0 3).data.toList = [48, 48, 55] by decide +kernel]
    refine numD_un (.inr (.inr ?_))
    rw [show docNum [48, 48, 55] = 7 by decide +kernel, itoa7]
    decide))
theorem scan_one {nm : List UInt8 → Int × Bool} {s : ByteArray} {r r' : Res} (h : ScanR nm s r) (hz : s.size ≤ 20000) (h' : Sc nm s 0 [] r') : r = r' := by
  rcases h with ⟨h1, _⟩ | ⟨_, h1⟩
  · omega
  · exact h1.one h'
theorem w1_text : textP w1T = [120, 32, 58, 61, 32, 121, 32, 43, 32, 49, 50] := by
  unfold textP w1T
  simp only [List.map_cons, List.map_nil, tokB, itoa12, if_pos]
  decide +kernel
/-- What scan_any asks, laid in one. -/
structure LexW (w : World) : Prop where
  sg : SgW w
  tabs : Tabs w
theorem LexW.below {w w' : World} (h : LexW w) (hb : Below w.heap.size w w') : LexW w' := ⟨h.sg.below hb, h.tabs.below hb⟩
theorem LexW.num {w : World} (h : LexW w) : NumC numD w := fun t W hz hW => number_any t W hz (h.tabs.below hW)
/-- Scan of a text of which it is known what is told. -/
theorem scan_known (s : ByteArray) (w : World) (h : LexW w) (hz : s.size ≤ 20000) (r : Res) (hr : Sc numD s 0 [] r) :
    Calls Tryd.prog 10 #[.string s] w fun e w' => ∃ A c, e = .returned (.tuple #[.slice A r.1.length c, .int .i64 (r.2.1 : Nat), .int .i64 (r.2.2 : Nat)]) ∧ OTp w.heap.size w' (.slice A r.1.length c) r.1 ∧ TR w' A r.1 ∧ Below w.heap.size w w' := by
  refine (scan_any numD s w h.sg h.num).mono ?_
  rintro e w' ⟨r2, v, h1, rfl, h2, h3⟩
  obtain rfl := scan_one h1 hz hr
  obtain ⟨A, c, rfl, h4⟩ := OR.rs cellT_len h2.p
  exact ⟨A, c, rfl, h2, h4, h3⟩
theorem nm1 : nameB ⟨#[97, 95, 49]⟩ = true := by decide +kernel
theorem nm2 : nameB ⟨#[115, 101, 108, 102]⟩ = false := by decide +kernel
theorem nm3 : nameB ⟨#[49, 97]⟩ = false := by decide +kernel
set_option maxRecDepth 100000 in
set_option maxHeartbeats 4000000 in
theorem awake_any (w : World) (h : LexW w) : Calls Tryd.prog 9 #[] w fun e w' => e = .returned (.bool true) ∧ Below w.heap.size w w' := by
  have HW := Lib.hid h
  clear h
  go_enter Tryd.func9, Tryd.ntmps9
  go_wp2_with fail
  refine (scan_known w1S _ HW.out (by decide) _ w1_sc).mono ?_
  rintro e w1 ⟨A, c, rfl, _, hr1, hb1⟩
  have HR1 := Lib.hid hr1
  have HB1 := Lib.hid hb1
  clear hr1 hb1
  go_wp2_with fail
  refine (scan_known w2S _ (HW.out.below HB1.out) (by decide) _ w2_sc).mono ?_
  rintro e w2 ⟨A2, c2, rfl, _, _, hb2⟩
  have HR2 := Lib.hid (HR1.out.below hb2)
  have HB2 : Hid (Below w.heap.size w w2) := Lib.hid (HB1.out.trans (hb2.mono HB1.out.size))
  clear hb2
  go_wp2_with fail
  refine (scan_known w3S _ (HW.out.below HB2.out) (by decide) _ w3_sc).mono ?_
  rintro e w3 ⟨A3, c3, rfl, _, _, hb3⟩
  have HR3 := Lib.hid (HR2.out.below hb3)
  have HB3 : Hid (Below w.heap.size w w3) := Lib.hid (HB2.out.trans (hb3.mono HB2.out.size))
  clear hb3
  obtain ⟨b, o, rfl, hb, hc⟩ := HR3.out (by decide)
  have a0 : w3.cell? ⟨b, o + 4, none⟩ = some (.int .i64 3) := hc 1 (by decide) 0 (by decide)
  have a1 : w3.cell? ⟨b, o + 4 + 1, none⟩ = some (.int .i64 0) := hc 1 (by decide) 1 (by decide)
  have a2 : w3.cell? ⟨b, o + 4 + 2, none⟩ = some (.int .i64 1) := hc 1 (by decide) 2 (by decide)
  have a3 : w3.cell? ⟨b, o + 4 + 3, none⟩ = some (.string ⟨#[58, 61]⟩) := hc 1 (by decide) 3 (by decide)
  have b0 : w3.cell? ⟨b, o + 16, none⟩ = some (.int .i64 2) := hc 4 (by decide) 0 (by decide)
  have b1 : w3.cell? ⟨b, o + 16 + 1, none⟩ = some (.int .i64 12) := hc 4 (by decide) 1 (by decide)
  have b2 : w3.cell? ⟨b, o + 16 + 2, none⟩ = some (.int .i64 5) := hc 4 (by decide) 2 (by decide)
  have b3 : w3.cell? ⟨b, o + 16 + 3, none⟩ = some (.string ⟨#[49, 50]⟩) := hc 4 (by decide) 3 (by decide)
  clear hc
  go_wp2_with fail
  clear a0 a1 a2 a3 b0 b1 b2 b3
  refine (name_any ⟨#[97, 95, 49]⟩ _).mono ?_
  rw [nm1]
  rintro e w4 ⟨rfl, hb4⟩
  have HB4 := Lib.hid hb4
  clear hb4
  go_wp2_with fail
  refine (name_any ⟨#[115, 101, 108, 102]⟩ _).mono ?_
  rw [nm2]
  rintro e w5 ⟨rfl, hb5⟩
  have HB5 := Lib.hid hb5
  clear hb5
  go_wp2_with fail
  refine (name_any ⟨#[49, 97]⟩ _).mono ?_
  rw [nm3]
  rintro e w6 ⟨rfl, hb6⟩
  have HB6 := Lib.hid hb6
  have HB36 : Hid (Below w3.heap.size w3 w6) := Lib.hid (by
    have h45 : Below w3.heap.size w3 w5 := HB4.out.trans (HB5.out.mono HB4.out.size)
    exact h45.trans (HB6.out.mono h45.size))
  have HB06 : Hid (Below w.heap.size w w6) := Lib.hid (HB3.out.trans (HB36.out.mono HB3.out.size))
  clear hb6
  go_wp2_with fail
  refine (text_any w1T _ 5 c _ (by decide) (by decide) (HR3.out.below HB36.out) (HW.out.below HB06.out).tabs (by
    intro t ht hk
    simp only [w1T, List.mem_cons, List.not_mem_nil, or_false] at ht
    rcases ht with rfl | rfl | rfl | rfl | rfl <;> first | (exfalso; revert hk; decide) | decide) (by rw [w1_text]; decide)).mono ?_
  rw [w1_text]
  rintro e w7 ⟨rfl, hb7⟩
  have HB7 : Hid (Below w.heap.size w w7) := Lib.hid (HB06.out.trans (hb7.mono HB06.out.size))
  clear hb7
  go_wp2
  go_ret
  exact ⟨rfl, HB7.out⟩
end Go.Proofs.YtcielemahmpppaaDoor.lx
