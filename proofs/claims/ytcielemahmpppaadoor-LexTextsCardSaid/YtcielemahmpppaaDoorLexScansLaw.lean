/- The law LexScans: its walk. -/
import Derived.Test.YtcielemahmpppaaDoorLexLaid
import Derived.Test.YtcielemahmpppaaDoorLexSame
namespace Go.Proofs.YtcielemahmpppaaDoor.lx
open Go.ChangeShapes Go.WideShapes Go.ChangeAt Go.RowKit Go.Deep Go.Proofs.YtcielemahmpppaaDoor.sr

theorem tks_len {nm : List UInt8 → Int × Bool} {s : ByteArray} {a : Nat} {T : List Tok} (h : Tks nm s a T) : T.length ≤ s.size - a := by
  induction h with
  | done => simp
  | blank h1 _ _ ih => omega
  | remark h1 hb _ ih => have := lineE_gt h1 hb; omega
  | @token a L k n m h1 hb hr hf hh ih => have := (first_ok h1 hf).1; rw [List.length_cons]; omega
theorem sc_len {nm : List UInt8 → Int × Bool} {s : ByteArray} {r : Res} (h : Sc nm s 0 [] r) : r.1.length ≤ s.size := by
  by_cases h0 : r.2.2 = 0
  · obtain ⟨T, rfl, ht, _⟩ := h.tks h0
    have := tks_len ht
    simpa using this
  · rw [h.err h0]; simp
theorem scan_sc (s : ByteArray) (w : World) (h : LexW w) (hz : s.size ≤ 20000) :
    Calls Tryd.prog 10 #[.string s] w fun e w' => ∃ r A c, Sc numD s 0 [] r ∧ e = .returned (.tuple #[.slice A r.1.length c, .int .i64 (r.2.1 : Nat), .int .i64 (r.2.2 : Nat)]) ∧ OTp w.heap.size w' (.slice A r.1.length c) r.1 ∧ TR w' A r.1 ∧ Below w.heap.size w w' := by
  refine (scan_any numD s w h.sg h.num).mono ?_
  rintro e w' ⟨r2, v, h1, rfl, h2, h3⟩
  obtain ⟨A, c, rfl, h4⟩ := OR.rs cellT_len h2.p
  refine ⟨r2, A, c, ?_, rfl, h2, h4, h3⟩
  rcases h1 with ⟨h1, _⟩ | ⟨_, h1⟩
  · omega
  · exact h1
set_option maxRecDepth 100000 in
set_option maxHeartbeats 4000000 in
theorem lexScans_any (s : ByteArray) (w : World) (h : LexW w) : Calls Tryd.prog 3 #[.string s] w fun e w' => e = .returned (.bool true) ∧ Below w.heap.size w w' := by
  have HW := Lib.hid h
  clear h
  by_cases hz : 3000 < s.size
  · have g : (3000 : Int) < (s.size : Int) := by omega
    go_enter Tryd.func3, Tryd.ntmps3
    go_wp2_with fail
    refine (awake_any _ HW.out).mono ?_
    rintro e w1 ⟨rfl, hb1⟩
    go_wp2
    go_ret
    exact ⟨rfl, hb1⟩
  · have g : ¬ (3000 : Int) < (s.size : Int) := by omega
    have hz2 : s.size ≤ 20000 := by omega
    go_enter Tryd.func3, Tryd.ntmps3
    go_wp2_with fail
    refine (scan_sc s _ HW.out hz2).mono ?_
    rintro e w1 ⟨r, A, c, hsc, rfl, _, hr1, hb1⟩
    have HSC := Lib.hid hsc
    have HR1 := Lib.hid hr1
    have HB1 := Lib.hid hb1
    have hrl : r.1.length ≤ 6000 := by have := sc_len hsc; omega
    clear hsc hr1 hb1
    go_wp2_with fail
    refine (refScan_any s _ hz2).mono ?_
    rintro e w2 ⟨r2, v2, hsc2, rfl, ho2, hb2⟩
    obtain rfl := HSC.out.one hsc2
    obtain ⟨A2, c2, rfl, hr2⟩ := OR.rs cellT_len ho2
    have HR2 := Lib.hid hr2
    have HR12 := Lib.hid (HR1.out.below hb2)
    have HB2 : Hid (Below w.heap.size w w2) := Lib.hid (HB1.out.trans (hb2.mono HB1.out.size))
    clear hsc2 ho2 hr2 hb2
    obtain ⟨l, at', why⟩ := r
    obtain ⟨n, HN⟩ : ∃ n, Hid (n = l.length) := ⟨_, Lib.hid rfl⟩
    simp only at hrl HR2 HR12 ⊢
    rw [← HN.out] at hrl ⊢
    go_wp2_with fail
    refine (back_any l A n c _ HN.out hrl HR12.out).mono ?_
    rintro e w3 ⟨v3, rfl, ho3, hb3⟩
    obtain ⟨A3, c3, rfl, hr3⟩ := OR.rs cellT_len ho3
    have HR3 := Lib.hid hr3
    have HR23 := Lib.hid (HR2.out.below hb3)
    have HB3 : Hid (Below w.heap.size w w3) := Lib.hid (HB2.out.trans (hb3.mono HB2.out.size))
    clear ho3 hr3 hb3
    rw [← HN.out]
    go_wp2_with fail
    refine (refSame_true l l A3 A2 n c3 c2 true _ HN.out HN.out (by omega) HR3.out HR23.out (SameT.refl l) (fun _ => rfl)).mono ?_
    rintro e w4 ⟨rfl, hb4⟩
    have HB4 : Hid (Below w.heap.size w w4) := Lib.hid (HB3.out.trans (hb4.mono HB3.out.size))
    clear hb4
    go_wp2_with fail
    refine (awake_any _ (HW.out.below HB4.out)).mono ?_
    rintro e w5 ⟨rfl, hb5⟩
    have HB5 : Hid (Below w.heap.size w w5) := Lib.hid (HB4.out.trans (hb5.mono HB4.out.size))
    clear hb5
    go_wp2
    go_ret
    exact ⟨rfl, HB5.out⟩
end Go.Proofs.YtcielemahmpppaaDoor.lx
