/- Contracts that the claim stands on, several texts in one: LtxParse, LtxKnown, LtxNodes, LtxAwake, LtxBare, LtxBn. -/
import Derived.Deep.QuietTactic
import Derived.Test.YtgnflnfajkoibaaDoorPut1
import Derived.Test.YtgnflnfajkoibaaDoorPut2
import Derived.Test.YtgnflnfajkoibaaDoorPut3
import Derived.Test.YtgnflnfajkoibaaDoorPut4
import Derived.Test.YtgnflnfajkoibaaDoorPut5
import Derived.Test.YtgnflnfajkoibaaDoorPut6
import Derived.Test.YtgnflnfajkoibaaDoorPut7
import Derived.Test.YtgnflnfajkoibaaDoorPut8
import Derived.Test.YtgnflnfajkoibaaDoorPut9
import Derived.Test.YtgnflnfajkoibaaDoorPut10
import Derived.Test.YtgnflnfajkoibaaDoorPut11
import Derived.Test.YtgnflnfajkoibaaDoorPut12
import Derived.Test.YtgnflnfajkoibaaDoorPut13
import Derived.Test.YtgnflnfajkoibaaDoorPut14
import Derived.Test.YtgnflnfajkoibaaDoorPut15
namespace Go.Proofs.YtgnflnfajkoibaaDoor.tx
open Go.ChangeShapes Go.WideShapes Go.ChangeAt Go.RowKit Go.Deep sr lt

/-- What is asked of the listed variables. -/
structure LxW (w : World) : Prop where
  sg : lx.SgW w
  tabs : Tabs w
  ops : OpsW w
theorem LxW.below {w w' : World} (h : LxW w) (hb : Below w.heap.size w w') : LxW w' := ⟨h.sg.below hb, h.tabs.below hb, OpsW.keep h.ops hb⟩
theorem LxW.num {w : World} (h : LxW w) : lx.NumC numD w := fun t W hz hW => _root_.Go.Proofs.YtgnflnfajkoibaaDoor.number_any t W hz (h.tabs.below hW)
/-- What the reader tells of the tokens of a text. -/
def redV (N : List ByteArray) (s : ByteArray) (toks : List lx.Tok) : List (Int × Int) × Nat × Int := allV N (allT toks s.size) (runF (prN N) (tkL (allT toks s.size)) rd0)
/-- What Parse tells of a text, by what Scan tells of it. -/
def parseT (N : List ByteArray) (s : ByteArray) (r : lx.Res) : List (Int × Int) × Nat × Int :=
  if r.2.2 = 0 then
    (if (redV N s r.1).2.2 = 0 then
      (if 24 < (redV N s r.1).1.length then ([], s.size, 5)
      else if (textV (redV N s r.1).1 N).1 = s then ((redV N s r.1).1, 0, 0) else ([], apartF (textV (redV N s r.1).1 N).1 s, 13))
    else ([], (redV N s r.1).2))
  else ([], r.2.1, (r.2.2 : Nat))
def ParseP (N : List ByteArray) (s : ByteArray) (w : World) (e : Ending) (w' : World) : Prop :=
  ∃ r v, lx.ScanR numD s r ∧ e = .returned (.tuple #[v, .int .i64 ((parseT N s r).2.1 : Nat), .int .i64 (parseT N s r).2.2]) ∧ ON w.heap.size w' v (parseT N s r).1 ∧ Below w.heap.size w w'
theorem pa_of {w : World} {A : Option Addr} {l : List (Int × Int)} (h : RS encN 2 w A l) : PA w A l := fun hn => by
  obtain ⟨b, off, e, hb, hc⟩ := h hn
  refine ⟨b, off, e, hb, fun i hi => ?_⟩
  have e2 : l.getD i (0, 0) = l.getD i default := rfl
  rw [e2]
  exact ⟨hc i hi 0 (by decide), hc i hi 1 (by decide)⟩
theorem str_is {a b : ByteArray} : (a.toList == b.toList) = decide (a = b) := str_eq a b
theorem sc_few {s : ByteArray} {r : lx.Res} (h : lx.Sc numD s 0 [] r) : r.1.length ≤ 6000 := by
  by_cases h0 : r.2.2 = 0
  · obtain ⟨Q, rfl, ht, hl⟩ := h.tks h0
    rw [List.nil_append]
    simpa using hl (Nat.zero_le _)
  · rw [h.err h0]
    exact Nat.zero_le _
theorem all_len (N : List ByteArray) : ∀ (Q : List (Int × List UInt8)) (S : Rd), (runF (prN N) Q S).2.2.nd.length ≤ S.nd.length + S.pd.length + Q.length
  | [], S => by simp [runF]
  | (k, s) :: Q, S => by
    have h1 := step_len (prN N) k s S
    have h2 := all_len N Q (stepF (prN N) k s S).2
    unfold runF
    split
    · simp only [List.length_cons]; omega
    · simp only [List.length_cons]; omega
theorem red_len {N : List ByteArray} {s : ByteArray} {toks : List lx.Tok} (h : toks.length ≤ 6000) : (redV N s toks).1.length ≤ 6001 := by
  unfold redV allV
  split
  · have := all_len N (tkL (allT toks s.size)) rd0
    unfold tkL allT rd0 at *
    simp at *
    omega
  · simp
set_option maxRecDepth 20000 in
set_option maxHeartbeats 8000000 in
theorem parse_any (NA : Option Addr) (n d : Nat) (N : List ByteArray) (s : ByteArray) (w : World) (hN : NmS w NA n d N) (hx : LxW w) :
    Calls Tryd.prog 11 #[.string s, .slice NA n d] w (ParseP N s w) := by
  have HN := Lib.hid hN
  have HX := Lib.hid hx
  clear hN hx
  go_enter Tryd.func11, Tryd.ntmps11
  go_wp2_with fail
  refine (lx.scan_any numD s w HX.out.sg HX.out.num).mono ?_
  rintro x w2 ⟨r, v, hr, rfl, ho2, hb2⟩
  have HR := Lib.hid hr
  have HB2 := Lib.hid hb2
  have ho2 : OR lx.cellT 4 w.heap.size 72 w2 v r.1 := ho2
  have HO2 := Lib.hid ho2
  have HP : Hid (∀ p, parseT N s r = p → ∀ v w', ON w.heap.size w' v p.1 → Below w.heap.size w w' → ParseP N s w (.returned (.tuple #[v, .int .i64 (p.2.1 : Nat), .int .i64 p.2.2])) w') := Lib.hid (fun p hp v w' h1 h2 => by
    subst hp
    exact ⟨r, v, HR.out, rfl, h1, h2⟩)
  have HLT : Hid (∀ g, v.ownBlock = some g → g < w2.heap.size) := Lib.hid (fun g hg => (World.ownsRow.lt ho2 g hg).2)
  obtain ⟨A, c, l, rfl⟩ := or_form tokC_len ho2
  clear hr ho2 hb2
  obtain ⟨ts, at0, why⟩ := r
  dsimp only at HO2 ⊢
  by_cases hw : why = 0
  · subst hw
    have hsc : s.size ≤ 20000 ∧ lx.Sc numD s 0 [] (ts, at0, 0) := by
      rcases HR.out with ⟨_, h⟩ | h
      · injection h with h1 h; injection h with h2 h3; cases h3
      · exact h
    have HFW := Lib.hid (sc_few hsc.2)
    have HSZ := Lib.hid hsc.1
    have HRL := Lib.hid (red_len (N := N) (s := s) (sc_few hsc.2))
    have hs9 : (s.size : Int) ≤ 20000 := by have := hsc.1; omega
    clear hsc
    dsimp only at HFW HRL
    have hAC : Calls Tryd.prog 21 #[.pointer (some ⟨w2.heap.size, 0, none⟩), .slice A l c, .int .i64 (s.size : Nat)] (w2.alloc (.cells #[.slice NA n d, .nilFunc, .slice none 0 0, .slice none 0 0] 54)) (AllP w (redV N s ts)) :=
      all_any w _ w2.heap.size NA n d N (.slice A l c) ts s.size .nilFunc Rc.new (OR.below HO2.out (below_one _ _)) HLT.out (HB2.out.trans ((below_one w2 _).mono HB2.out.size)) HB2.out.size HN.out HX.out.ops HFW.out
    have HAC := Lib.hid hAC
    obtain ⟨V, HV⟩ : ∃ V, Hid (redV N s ts = V) := ⟨_, Lib.hid rfl⟩
    rw [HV.out] at HAC HRL
    clear hAC
    obtain ⟨E, qa, qy⟩ := V
    have HPT : Hid (parseT N s (ts, at0, 0) = if qy = 0 then (if 24 < E.length then ([], s.size, 5) else if (textV E N).1 = s then (E, 0, 0) else ([], apartF (textV E N).1 s, 13)) else ([], qa, qy)) := Lib.hid (by
      unfold parseT
      simp only [if_true]
      rw [HV.out])
    go_wp2_with fail
    refine HAC.out.mono ?_
    rintro x w3 ⟨v3, rfl, ho3, hb3⟩
    dsimp only at ho3 HRL ⊢
    have HB3 := Lib.hid hb3
    have HO3 := Lib.hid ho3
    obtain ⟨A4, c4, hv4, hr4⟩ := OR.rs encN_len ho3
    obtain ⟨m, hm⟩ : ∃ m, m = E.length := ⟨_, rfl⟩
    rw [← hm] at hv4
    subst hv4
    have HM := Lib.hid hm
    have HR4 := Lib.hid (pa_of hr4)
    clear hb3 ho3 hr4 HAC hm
    by_cases hy : qy = 0
    · subst hy
      by_cases h24 : 24 < m
      · have HP2 : Hid (parseT N s (ts, at0, 0) = ([], s.size, 5)) := Lib.hid (by rw [HPT.out, if_pos (by trivial), if_pos (by rw [← HM.out]; exact h24)])
        go_wp2
        go_ret3
        exact HP.out _ HP2.out _ _ (World.ownsRow_nil _ _ _ _) HB3.out
      · have hm24 : m ≤ 24 := by omega
        have HTC := Lib.hid (text_any A4 m c4 NA n d E N w3 HM.out (by omega) HR4.out (HN.out.below HB3.out) (OpsW.keep HX.out.ops HB3.out))
        obtain ⟨u, uy, HT⟩ : ∃ u uy, Hid (textV E N = (u, uy)) := ⟨_, _, Lib.hid rfl⟩
        rw [HT.out] at HTC HPT
        go_wp2_with fail
        refine HTC.out.mono ?_
        rintro x w5 ⟨rfl, hb5⟩
        have HB5 := Lib.hid (HB3.out.trans (hb5.mono HB3.out.size))
        have HO5 := Lib.hid (OR.below HO3.out hb5)
        clear hb5 HTC
        dsimp only at HPT ⊢
        by_cases he : u = s
        · have hbe : (u.toList == s.toList) = true := by rw [str_is, decide_eq_true he]
          have HP2 : Hid (parseT N s (ts, at0, 0) = (E, 0, 0)) := Lib.hid (by rw [HPT.out, if_pos (by trivial), if_neg (by rw [← HM.out]; exact h24), if_pos he])
          go_wp2
          go_ret3
          exact HP.out _ HP2.out _ _ HO5.out HB5.out
        · have hbe : (u.toList == s.toList) = false := by rw [str_is, decide_eq_false he]
          have HP2 : Hid (parseT N s (ts, at0, 0) = ([], apartF u s, 13)) := Lib.hid (by rw [HPT.out, if_pos (by trivial), if_neg (by rw [← HM.out]; exact h24), if_neg he])
          go_wp2_with fail
          refine (parting_any u s w5 (by have := HSZ.out; omega)).mono ?_
          rintro x w6 ⟨rfl, hb6⟩
          have HB6 := Lib.hid (HB5.out.trans (hb6.mono HB5.out.size))
          clear hb6
          go_wp2
          go_ret3
          exact HP.out _ HP2.out _ _ (World.ownsRow_nil _ _ _ _) HB6.out
    · have HP2 : Hid (parseT N s (ts, at0, 0) = ([], qa, qy)) := Lib.hid (by rw [HPT.out, if_neg hy])
      go_wp2
      go_ret3
      exact HP.out _ HP2.out _ _ (World.ownsRow_nil _ _ _ _) HB3.out
  · have hw2 : ¬ (why : Int) = 0 := by omega
    have HP2 : Hid (parseT N s (ts, at0, why) = ([], at0, (why : Int))) := Lib.hid (if_neg hw)
    go_wp2
    go_ret3
    exact HP.out _ HP2.out _ _ (World.ownsRow_nil _ _ _ _) HB2.out
end Go.Proofs.YtgnflnfajkoibaaDoor.tx
namespace Go.Proofs.YtgnflnfajkoibaaDoor.tx
open Go.ChangeShapes Go.WideShapes Go.ChangeAt Go.RowKit Go.Deep sr lt lx

theorem fst_word {nm : List UInt8 → Int × Bool} {s : ByteArray} (m : Nat) (h : wordN s = m) (h0 : 0 < m) (h1 : m ≤ 16) : firstP nm s = .ok (1, 0, m) := by
  unfold firstP; rw [if_neg (by omega), if_pos (by omega), h]
theorem fst_sgn {nm : List UInt8 → Int × Bool} {s : ByteArray} (m : Nat) (hw : wordN s = 0) (hd : digN s = 0) (h : signN s = m) (h0 : 0 < m) : firstP nm s = .ok (3, 0, m) := by
  unfold firstP; rw [if_neg (by omega), if_neg (by omega), if_neg (by omega), if_pos (by omega), h]
theorem tk_step {nm : List UInt8 → Int × Bool} {s : ByteArray} {a : Nat} {L : List Tok} (k : Nat) (n : Int) (m : Nat) (q : ByteArray) (h : a < s.size) (hb : blankB (bt s a) = false) (hr : bt s a ≠ 35) (hf : firstP nm (tailS s a) = .ok (k, n, m)) (hq : s.extract a (a + m) = q) (hh : Tks nm s (a + m) L) : Tks nm s a (⟨k, n, a, q⟩ :: L) := by
  subst hq
  exact .token h hb hr hf hh
def s1 : ByteArray := ⟨#[71, 32, 40, 112, 32, 61, 62, 32, 70, 32, 113, 41]⟩
def s2 : ByteArray := ⟨#[112, 32, 85, 32, 40, 113, 32, 85, 32, 114, 41]⟩
def s3 : ByteArray := ⟨#[112, 32, 85]⟩
def s4 : ByteArray := ⟨#[112, 32, 38, 38, 32, 115]⟩
def N0 : List ByteArray := [⟨#[112]⟩, ⟨#[113]⟩, ⟨#[114]⟩]
def f0 : List (Int × Int) := [(3, 0), (3, 1), (11, 0), (7, 0), (12, 0)]
def T1 : List Tok := [⟨1, 0, 0, ⟨#[71]⟩⟩, ⟨3, 0, 2, ⟨#[40]⟩⟩, ⟨1, 0, 3, ⟨#[112]⟩⟩, ⟨3, 0, 5, ⟨#[61, 62]⟩⟩, ⟨1, 0, 8, ⟨#[70]⟩⟩, ⟨1, 0, 10, ⟨#[113]⟩⟩, ⟨3, 0, 11, ⟨#[41]⟩⟩]
def T2 : List Tok := [⟨1, 0, 0, ⟨#[112]⟩⟩, ⟨1, 0, 2, ⟨#[85]⟩⟩, ⟨3, 0, 4, ⟨#[40]⟩⟩, ⟨1, 0, 5, ⟨#[113]⟩⟩, ⟨1, 0, 7, ⟨#[85]⟩⟩, ⟨1, 0, 9, ⟨#[114]⟩⟩, ⟨3, 0, 10, ⟨#[41]⟩⟩]
def T3 : List Tok := [⟨1, 0, 0, ⟨#[112]⟩⟩, ⟨1, 0, 2, ⟨#[85]⟩⟩]
def T4 : List Tok := [⟨1, 0, 0, ⟨#[112]⟩⟩, ⟨3, 0, 2, ⟨#[38, 38]⟩⟩, ⟨1, 0, 5, ⟨#[115]⟩⟩]
theorem fw {s : ByteArray} (h : wordN s = 1) : firstP numD s = .ok (1, 0, 1) := fst_word 1 h (by decide) (by decide)
theorem fs {s : ByteArray} (m : Nat) (hw : wordN s = 0) (hd : digN s = 0) (h : signN s = m) (h0 : 0 < m) : firstP numD s = .ok (3, 0, m) := fst_sgn m hw hd h h0
theorem t3_tks : Tks numD s3 0 T3 :=
  tk_step 1 0 1 _ (by decide) (by decide) (by decide) (fw (by decide +kernel)) (by decide +kernel) (.blank (by decide) (by decide)
  (tk_step 1 0 1 _ (by decide) (by decide) (by decide) (fw (by decide +kernel)) (by decide +kernel) (.done (by decide +kernel))))
theorem t4_tks : Tks numD s4 0 T4 :=
  tk_step 1 0 1 _ (by decide) (by decide) (by decide) (fw (by decide +kernel)) (by decide +kernel) (.blank (by decide) (by decide)
  (tk_step 3 0 2 _ (by decide) (by decide) (by decide) (fs 2 (by decide +kernel) (by decide +kernel) (by decide +kernel) (by decide)) (by decide +kernel) (.blank (by decide) (by decide)
  (tk_step 1 0 1 _ (by decide) (by decide) (by decide) (fw (by decide +kernel)) (by decide +kernel) (.done (by decide +kernel))))))
theorem t1_tks : Tks numD s1 0 T1 :=
  tk_step 1 0 1 _ (by decide) (by decide) (by decide) (fw (by decide +kernel)) (by decide +kernel) (.blank (by decide) (by decide)
  (tk_step 3 0 1 _ (by decide) (by decide) (by decide) (fs 1 (by decide +kernel) (by decide +kernel) (by decide +kernel) (by decide)) (by decide +kernel)
  (tk_step 1 0 1 _ (by decide) (by decide) (by decide) (fw (by decide +kernel)) (by decide +kernel) (.blank (by decide) (by decide)
  (tk_step 3 0 2 _ (by decide) (by decide) (by decide) (fs 2 (by decide +kernel) (by decide +kernel) (by decide +kernel) (by decide)) (by decide +kernel) (.blank (by decide) (by decide)
  (tk_step 1 0 1 _ (by decide) (by decide) (by decide) (fw (by decide +kernel)) (by decide +kernel) (.blank (by decide) (by decide)
  (tk_step 1 0 1 _ (by decide) (by decide) (by decide) (fw (by decide +kernel)) (by decide +kernel)
  (tk_step 3 0 1 _ (by decide) (by decide) (by decide) (fs 1 (by decide +kernel) (by decide +kernel) (by decide +kernel) (by decide)) (by decide +kernel) (.done (by decide +kernel))))))))))))
theorem t2_tks : Tks numD s2 0 T2 :=
  tk_step 1 0 1 _ (by decide) (by decide) (by decide) (fw (by decide +kernel)) (by decide +kernel) (.blank (by decide) (by decide)
  (tk_step 1 0 1 _ (by decide) (by decide) (by decide) (fw (by decide +kernel)) (by decide +kernel) (.blank (by decide) (by decide)
  (tk_step 3 0 1 _ (by decide) (by decide) (by decide) (fs 1 (by decide +kernel) (by decide +kernel) (by decide +kernel) (by decide)) (by decide +kernel)
  (tk_step 1 0 1 _ (by decide) (by decide) (by decide) (fw (by decide +kernel)) (by decide +kernel) (.blank (by decide) (by decide)
  (tk_step 1 0 1 _ (by decide) (by decide) (by decide) (fw (by decide +kernel)) (by decide +kernel) (.blank (by decide) (by decide)
  (tk_step 1 0 1 _ (by decide) (by decide) (by decide) (fw (by decide +kernel)) (by decide +kernel)
  (tk_step 3 0 1 _ (by decide) (by decide) (by decide) (fs 1 (by decide +kernel) (by decide +kernel) (by decide +kernel) (by decide)) (by decide +kernel) (.done (by decide +kernel))))))))))))
theorem p1 : parseT N0 s1 (T1, 0, 0) = (f0, 0, 0) := by decide +kernel
theorem p2 : parseT N0 s2 (T2, 0, 0) = ([], 4, 13) := by decide +kernel
theorem p3 : parseT N0 s3 (T3, 0, 0) = ([], 3, 4) := by decide +kernel
theorem p4 : parseT N0 s4 (T4, 0, 0) = ([], 5, 8) := by decide +kernel
theorem x1 : textV f0 N0 = (s1, 0) := by decide +kernel
/-- Parse of a text whose tokens are known. -/
theorem parse_known (NA : Option Addr) (n d : Nat) (N : List ByteArray) (s : ByteArray) (w : World) (hN : NmS w NA n d N) (hx : LxW w) (hz : s.size ≤ 20000) (Q : List Tok) (hQ : Tks numD s 0 Q) (hl : Q.length ≤ 6000) (p : List (Int × Int) × Nat × Int) (hp : parseT N s (Q, 0, 0) = p) :
    Calls Tryd.prog 11 #[.string s, .slice NA n d] w fun e w' => ∃ A c, e = .returned (.tuple #[.slice A p.1.length c, .int .i64 (p.2.1 : Nat), .int .i64 p.2.2]) ∧ PA w' A p.1 ∧ Below w.heap.size w w' := by
  refine (parse_any NA n d N s w hN hx).mono ?_
  rintro e w' ⟨r, v, h1, rfl, h2, h3⟩
  have hr : r = (Q, 0, 0) := by
    rcases h1 with ⟨h1, _⟩ | ⟨_, h1⟩
    · omega
    · exact h1.one (hQ.sc [] (by simpa using hl))
  subst hr
  rw [hp] at h2 ⊢
  obtain ⟨A, c, rfl, h4⟩ := OR.rs encN_len h2
  exact ⟨A, c, rfl, pa_of h4, h3⟩
end Go.Proofs.YtgnflnfajkoibaaDoor.tx
namespace Go.Proofs.YtgnflnfajkoibaaDoor.tx
open Go.ChangeShapes Go.WideShapes Go.ChangeAt Go.RowKit Go.Deep sr lt

theorem getP_ext {xs ys : List (Int × Int)} (hl : xs.length = ys.length) (h : ∀ i, i < xs.length → xs.getD i (0, 0) = ys.getD i (0, 0)) : xs = ys := by
  apply List.ext_getElem hl
  intro i h1 h2
  have := h i h1
  simpa [List.getD, h1, h2] using this
def eqP (xs ys : List (Int × Int)) : Bool := decide (xs = ys)
set_option maxHeartbeats 1000000 in
theorem nodes_any (A B : Option Addr) (c d m1 m2 : Nat) (xs ys : List (Int × Int)) (w : World) (hm1 : m1 = xs.length) (hm2 : m2 = ys.length) (hA : PA w A xs) (hB : PA w B ys) (hxl : xs.length ≤ 100000) (hyl : ys.length ≤ 100000) :
    Calls Tryd.prog 12 #[.slice A m1 c, .slice B m2 d] w fun e w' => e = .returned (.bool (eqP xs ys)) ∧ ∃ n, w' = w.drewN n := by
  subst hm1 hm2
  by_cases hl : xs.length = ys.length
  · have H := Lib.hid hl
    clear hl
    go_enter Tryd.func12, Tryd.ntmps12
    have hl0 : (xs.length : Int) = (ys.length : Int) := by rw [H.out]
    go_wp2
    clear hl0
    go_loopw [5] (fun i wr => ∃ (k j : Nat), k ≤ ys.length ∧ i = .int .i64 k ∧ wr = w.drewN j ∧ Hid (∀ i, i < k → xs.getD i (0, 0) = ys.getD i (0, 0))) (fun i _ => ys.length - (intOf i).toNat)
    case atStart => exact ⟨0, 0, Nat.zero_le _, rfl, rfl, Lib.hid (fun i hi => absurd hi (by omega))⟩
    case round =>
      obtain ⟨k, j, hk, rfl, rfl, HV⟩ := hrel
      by_cases hlty : k < ys.length
      · have hlt : k < xs.length := by rw [H.out]; exact hlty
        obtain ⟨bA, oA, rfl, hbA, hcA⟩ := hA (by omega)
        obtain ⟨bB, oB, rfl, hbB, hcB⟩ := hB (by omega)
        have c1 := (hcA k hlt).1
        have c2 := (hcB k hlty).1
        have c3 := (hcA k hlt).2
        have c4 := (hcB k hlty).2
        by_cases t1 : xs.getD k (0, 0) = ys.getD k (0, 0)
        · have HS : Hid (∀ i, i < k + 1 → xs.getD i (0, 0) = ys.getD i (0, 0)) := Lib.hid (fun i hi => by
            by_cases hik : i = k
            · subst hik; exact t1
            · exact HV.out i (by omega))
          rw [← t1] at c2 c4
          generalize (xs.getD k (0, 0)).1 = x at c1 c2
          generalize (xs.getD k (0, 0)).2 = y at c3 c4
          clear hcA hcB hA hB t1 HV
          go_wp2
          go_quiet (fail)
          go_wp2
          go_roundw
          case rel => exact ⟨k + 1, _, by omega, by go_num, rfl, HS⟩
          case measure => simp [intOf]; omega
        · have HE : Hid (eqP xs ys = false) := Lib.hid (decide_eq_false (fun h => t1 (by rw [h])))
          have t2 : ((xs.getD k (0, 0)).1 != (ys.getD k (0, 0)).1 || (xs.getD k (0, 0)).2 != (ys.getD k (0, 0)).2) = true := by
            rw [Bool.or_eq_true]
            simp only [bne_iff_ne]
            by_cases e1 : (xs.getD k (0, 0)).1 = (ys.getD k (0, 0)).1
            · right
              intro e2
              exact t1 (Prod.ext e1 e2)
            · exact .inl e1
          generalize (xs.getD k (0, 0)).1 = x at c1 t2
          generalize (xs.getD k (0, 0)).2 = y at c3 t2
          generalize (ys.getD k (0, 0)).1 = x' at c2 t2
          generalize (ys.getD k (0, 0)).2 = y' at c4 t2
          clear hcA hcB hA hB t1 HV
          by_cases hx : x = x'
          · subst hx
            have hy : y ≠ y' := by intro e; subst e; simp at t2
            have hy2 : (y == y') = false := by simpa using hy
            clear t2
            go_wp2
            go_quiet (fail)
            go_wp2
            go_ret
            exact ⟨by rw [HE.out]; rfl, _, World.drewN_drewN _ _ _⟩
          · have hx2 : (x == x') = false := by simpa using hx
            clear t2
            go_wp2
            go_quiet (fail)
            go_wp2
            go_ret
            exact ⟨by rw [HE.out]; rfl, _, World.drewN_drewN _ _ _⟩
      · have hk2 : k = xs.length := by rw [H.out]; omega
        subst hk2
        have HE : Hid (eqP xs ys = true) := Lib.hid (decide_eq_true (getP_ext H.out HV.out))
        have hge : ys.length ≤ xs.length := by omega
        clear hlty hk
        go_wp2
        go_ret
        exact ⟨by rw [HE.out]; rfl, _, rfl⟩
  · have e : eqP xs ys = false := decide_eq_false (fun h => hl (by rw [h]))
    rw [e]
    have hln : ((xs.length : Int) == (ys.length : Int)) = false := by rw [beq_eq_false_iff_ne]; omega
    go_enter Tryd.func12, Tryd.ntmps12
    go_wp2
    go_ret
    exact ⟨rfl, 0, rfl⟩
/-- More than a statement takes. -/
def hvF (N : List ByteArray) (m : Nat) : Bool := N.any (fun s => decide (40 < s.size)) || (decide (60 < m) || decide (20 < N.length))
set_option maxHeartbeats 1000000 in
theorem heavy_any (A NA : Option Addr) (c m n d : Nat) (N : List ByteArray) (w : World) (hm : m ≤ 4611686018427387904) (hn : n = N.length) (hn9 : n ≤ 4611686018427387904) (hN : RS encS 1 w NA N) :
    Calls Tryd.prog 7 #[.slice A m c, .slice NA n d] w fun e w' => e = .returned (.bool (hvF N m)) ∧ Below w.heap.size w w' := by
  have HN := Lib.hid hN
  have HL := Lib.hid hn
  obtain ⟨z, HZ⟩ : ∃ z, Hid (hvF N m = z) := ⟨_, Lib.hid rfl⟩
  rw [HZ.out]
  clear hN hn
  go_enter Tryd.func7, Tryd.ntmps7
  go_wp2
  go_loopw [5] (fun iv wr => ∃ i : Nat, i ≤ n ∧ iv = .int .i64 i ∧ Hid ((N.take i).any (fun s => decide (40 < s.size)) = false) ∧ Hid (Below w.heap.size w wr)) (fun iv _ => n - (intOf iv).toNat)
  case atStart => exact ⟨0, Nat.zero_le _, rfl, Lib.hid rfl, Lib.hid (Below.refl _ _)⟩
  case round =>
    obtain ⟨i, hi, rfl, HF, HB⟩ := hrel
    by_cases hlt : i < n
    · have HIL : Hid (i < N.length) := Lib.hid (by rw [← HL.out]; exact hlt)
      obtain ⟨b, o, rfl, hb, c1⟩ := str_at (HN.out.below HB.out) HIL.out
      obtain ⟨s, HS⟩ : ∃ s, Hid (N.getD i default = s) := ⟨_, Lib.hid rfl⟩
      rw [HS.out] at c1
      have HIS : Hid (N[i]'(HIL.out) = s) := Lib.hid (by
        have h := HS.out
        have hil := HIL.out
        simpa [List.getD, hil] using h)
      by_cases h40 : 40 < s.size
      · have HE : Hid (z = true) := Lib.hid (by
          rw [← HZ.out]
          unfold hvF
          rw [Bool.or_eq_true]
          left
          rw [List.any_eq_true]
          exact ⟨N[i]'(HIL.out), List.getElem_mem _, by rw [HIS.out]; exact decide_eq_true h40⟩)
        go_wp2
        go_ret
        exact ⟨by rw [HE.out]; rfl, HB.out⟩
      · have HN2 : Hid ((N.take (i + 1)).any (fun s => decide (40 < s.size)) = false) := Lib.hid (by
          rw [List.take_succ_eq_append_getElem HIL.out, List.any_append, HF.out, HIS.out]
          simpa using h40)
        have h40i : (s.size : Int) ≤ 40 := by omega
        go_wp2
        go_roundw
        case rel => exact ⟨i + 1, by omega, by go_num, HN2, HB⟩
        case measure => simp [intOf]; omega
    · obtain rfl : i = n := by omega
      have HE : Hid (z = (decide (60 < m) || decide (20 < i))) := Lib.hid (by
        have h := HF.out
        rw [HL.out, List.take_length] at h
        rw [← HZ.out]
        unfold hvF
        rw [h, ← HL.out, Bool.false_or])
      by_cases h60 : 60 < m
      · go_wp2
        go_ret
        exact ⟨by rw [HE.out, decide_eq_true h60]; rfl, HB.out⟩
      · have e1 : decide ((60 : Int) < (m : Int)) = decide (60 < m) := decide_eq_decide.2 (by omega)
        have e2 : decide ((20 : Int) < (i : Int)) = decide (20 < i) := decide_eq_decide.2 (by omega)
        have HE2 : Hid (z = (decide ((60 : Int) < (m : Int)) || decide ((20 : Int) < (i : Int)))) := Lib.hid (by rw [e1, e2]; exact HE.out)
        clear e1 e2
        go_wp2
        go_ret
        exact ⟨by rw [HE2.out]; rfl, HB.out⟩
end Go.Proofs.YtgnflnfajkoibaaDoor.tx
namespace Go.Proofs.YtgnflnfajkoibaaDoor.tx
open Go.ChangeShapes Go.WideShapes Go.ChangeAt Go.RowKit Go.Deep sr lt

theorem pa0 {w : World} {b : Nat} {t : TypeId} (h : w.heap[b]? = some (.cells #[.int .i64 3, .int .i64 0, .int .i64 3, .int .i64 1, .int .i64 11, .int .i64 0, .int .i64 7, .int .i64 0, .int .i64 12, .int .i64 0] t (0, 0))) : PA w (some ⟨b, 0, none⟩) f0 := fun _ => by
  refine ⟨b, 0, rfl, (Array.getElem?_eq_some_iff.1 h).1, fun i hi => ?_⟩
  have hi2 : i = 0 ∨ i = 1 ∨ i = 2 ∨ i = 3 ∨ i = 4 := by have : f0.length = 5 := rfl; omega
  rcases hi2 with rfl | rfl | rfl | rfl | rfl <;> exact ⟨cell_of h _, cell_of h _⟩
theorem nm0 {w : World} {b : Nat} {t : TypeId} (h : w.heap[b]? = some (.cells #[.string ⟨#[112]⟩, .string ⟨#[113]⟩, .string ⟨#[114]⟩] t (0, 0))) : NmS w (some ⟨b, 0, none⟩) 3 3 N0 :=
  ⟨fun _ => by
    refine ⟨b, 0, rfl, (Array.getElem?_eq_some_iff.1 h).1, fun i hi j hj => ?_⟩
    have hi2 : i = 0 ∨ i = 1 ∨ i = 2 := by have : N0.length = 3 := rfl; omega
    obtain rfl : j = 0 := by omega
    rcases hi2 with rfl | rfl | rfl <;> exact cell_of h _, rfl, by decide, by decide⟩
set_option maxRecDepth 100000 in
set_option maxHeartbeats 4000000 in
theorem awake_any (w : World) (h : LxW w) : Calls Tryd.prog 8 #[] w fun e w' => e = .returned (.bool true) ∧ Below w.heap.size w w' := by
  have HX := Lib.hid h
  clear h
  obtain ⟨w1, HW1⟩ : ∃ w1, w1 = w.alloc (.cells #[.string ⟨#[112]⟩, .string ⟨#[113]⟩, .string ⟨#[114]⟩] 9) := ⟨_, rfl⟩
  have hb1 : Below w.heap.size w w1 := by rw [HW1]; exact below_one _ _
  have hn1 : NmS w1 (some ⟨w.heap.size, 0, none⟩) 3 3 N0 := by rw [HW1]; exact nm0 (World.alloc_heap_new _ _)
  obtain ⟨w2, HW2⟩ : ∃ w2, w2 = w1.alloc (.cells #[.int .i64 3, .int .i64 0, .int .i64 3, .int .i64 1, .int .i64 11, .int .i64 0, .int .i64 7, .int .i64 0, .int .i64 12, .int .i64 0] 39) := ⟨_, rfl⟩
  have hb12 : Below w1.heap.size w1 w2 := by rw [HW2]; exact below_one _ _
  have HF2 : Hid (PA w2 (some ⟨w1.heap.size, 0, none⟩) f0) := Lib.hid (by rw [HW2]; exact pa0 (World.alloc_heap_new _ _))
  have HN2 := Lib.hid (hn1.below hb12)
  have HB2 : Hid (Below w.heap.size w w2) := Lib.hid (hb1.trans (hb12.mono hb1.size))
  have HG1 : Hid (w1.heap.size = w.heap.size + 1) := Lib.hid (by rw [HW1]; simp)
  go_enter Tryd.func8, Tryd.ntmps8
  go_wp2_with fail
  rw [← HW1, ← HG1.out, ← HW2]
  clear HW1 HW2 hb1 hn1 hb12
  refine (text_any (some ⟨w1.heap.size, 0, none⟩) 5 5 (some ⟨w.heap.size, 0, none⟩) 3 3 f0 N0 w2 rfl (by decide) HF2.out HN2.out (HX.out.below HB2.out).ops).mono ?_
  rw [x1]
  rintro e w3 ⟨rfl, hb3⟩
  have HB3 : Hid (Below w.heap.size w w3) := Lib.hid (HB2.out.trans (hb3.mono HB2.out.size))
  have HB23 := Lib.hid hb3
  clear hb3
  unfold s1
  have HP1 := Lib.hid (parse_known (some ⟨w.heap.size, 0, none⟩) 3 3 N0 s1 w3 (HN2.out.below HB23.out) (HX.out.below HB3.out) (by decide) _ t1_tks (by decide) _ p1)
  unfold s1 at HP1
  go_wp2_with fail
  refine HP1.out.mono ?_
  rintro e w4 ⟨A1, c1, rfl, ha1, hb⟩
  have HB4 : Hid (Below w.heap.size w w4) := Lib.hid (HB3.out.trans (hb.mono HB3.out.size))
  have HB24 : Hid (Below w2.heap.size w2 w4) := Lib.hid (HB23.out.trans (hb.mono HB23.out.size))
  have HA4 : Hid (PA w4 A1 f0) := Lib.hid ha1
  clear hb ha1 HP1
  dsimp only [List.length, f0]
  have HP2 := Lib.hid (parse_known (some ⟨w.heap.size, 0, none⟩) 3 3 N0 s2 w4 (HN2.out.below HB24.out) (HX.out.below HB4.out) (by decide) _ t2_tks (by decide) _ p2)
  unfold s2 at HP2
  go_wp2_with fail
  refine HP2.out.mono ?_
  rintro e w5 ⟨A2, c2, rfl, ha2, hb⟩
  have HB5 : Hid (Below w.heap.size w w5) := Lib.hid (HB4.out.trans (hb.mono HB4.out.size))
  have HB25 : Hid (Below w2.heap.size w2 w5) := Lib.hid (HB24.out.trans (hb.mono HB24.out.size))
  have HA5 : Hid (PA w5 A1 f0) := Lib.hid (HA4.out.below hb)
  clear hb ha2 HP2
  dsimp only [List.length]
  have HP3 := Lib.hid (parse_known (some ⟨w.heap.size, 0, none⟩) 3 3 N0 s3 w5 (HN2.out.below HB25.out) (HX.out.below HB5.out) (by decide) _ t3_tks (by decide) _ p3)
  unfold s3 at HP3
  go_wp2_with fail
  refine HP3.out.mono ?_
  rintro e w6 ⟨A3, c3, rfl, ha3, hb⟩
  have HB6 : Hid (Below w.heap.size w w6) := Lib.hid (HB5.out.trans (hb.mono HB5.out.size))
  have HB26 : Hid (Below w2.heap.size w2 w6) := Lib.hid (HB25.out.trans (hb.mono HB25.out.size))
  have HA6 : Hid (PA w6 A1 f0) := Lib.hid (HA5.out.below hb)
  clear hb ha3 HP3
  dsimp only [List.length]
  have HP4 := Lib.hid (parse_known (some ⟨w.heap.size, 0, none⟩) 3 3 N0 s4 w6 (HN2.out.below HB26.out) (HX.out.below HB6.out) (by decide) _ t4_tks (by decide) _ p4)
  unfold s4 at HP4
  go_wp2_with fail
  refine HP4.out.mono ?_
  rintro e w7 ⟨A4, c4, rfl, ha4, hb⟩
  have HB7 : Hid (Below w.heap.size w w7) := Lib.hid (HB6.out.trans (hb.mono HB6.out.size))
  have HB27 : Hid (Below w2.heap.size w2 w7) := Lib.hid (HB26.out.trans (hb.mono HB26.out.size))
  have HA7 : Hid (PA w7 A1 f0) := Lib.hid (HA6.out.below hb)
  clear hb ha4 HP4
  dsimp only [List.length]
  have HND := Lib.hid (nodes_any (some ⟨w1.heap.size, 0, none⟩) A1 5 c1 5 5 f0 f0 w7 rfl rfl (HF2.out.below HB27.out) HA7.out (by decide) (by decide))
  go_wp2_with fail
  refine HND.out.mono ?_
  rw [show eqP f0 f0 = true from by decide]
  rintro e w8 ⟨rfl, j, rfl⟩
  have HB8 : Hid (Below w.heap.size w (w7.drewN j)) := Lib.hid (below_drewN HB7.out j)
  go_wp2
  go_ret
  exact ⟨rfl, HB8.out⟩
end Go.Proofs.YtgnflnfajkoibaaDoor.tx
namespace Go.Proofs.YtgnflnfajkoibaaDoor.tx
open Go.ChangeShapes Go.WideShapes Go.ChangeAt Go.RowKit Go.Deep sr lt

/-- A node, its number 0 but of a proposition. -/
def bnF (nd : Int × Int) : Int × Int := if nd.1 = 3 then nd else (nd.1, 0)
theorem bn_more {e : List (Int × Int)} {k : Nat} (h : k < e.length) : (e.map bnF).take k ++ [bnF (e.getD k (0, 0))] = (e.map bnF).take (k + 1) := by
  rw [List.take_add_one]
  simp [List.getD, h]
set_option maxRecDepth 100000 in
set_option maxHeartbeats 4000000 in
theorem bare_of (e : List (Int × Int)) (A : Option Addr) (n c : Nat) (w : World) (hn : n = e.length) (hz : n ≤ 6000) (hA : PA w A e) :
    Calls Tryd.prog 13 #[.slice A n c] w fun x w' => ∃ v, x = .returned v ∧ ON w.heap.size w' v (e.map bnF) ∧ Below w.heap.size w w' := by
  have HA := Lib.hid hA
  have HN := Lib.hid hn
  clear hA hn
  go_enter Tryd.func13, Tryd.ntmps13
  go_wp2
  go_loopw [3, 4] (fun ov iv wr => ∃ k : Nat, k ≤ n ∧ iv = .int .i64 k ∧ Hid (ON w.heap.size wr ov ((e.map bnF).take k)) ∧ Hid (Below w.heap.size w wr)) (fun _ iv _ => n - (intOf iv).toNat)
  case atStart => exact ⟨0, Nat.zero_le _, rfl, Lib.hid (by rw [List.take_zero]; exact World.ownsRow_nil _ _ _ _), Lib.hid (Below.refl _ _)⟩
  case round =>
    obtain ⟨k, hk, rfl, HO, HB⟩ := hrel
    by_cases hlt : k < n
    · have HIL : Hid (k < e.length) := Lib.hid (by rw [← HN.out]; exact hlt)
      obtain ⟨b, o, hAA, hb, hc⟩ := (HA.out.below HB.out) (by rw [← HN.out]; omega)
      obtain ⟨d0, d1⟩ := hc k HIL.out
      have HT := Lib.hid (bn_more (e := e) HIL.out)
      obtain ⟨op, q, HND⟩ : ∃ op q, Hid (e.getD k (0, 0) = (op, q)) := ⟨_, _, Lib.hid rfl⟩
      rw [HND.out] at d0 d1 HT
      dsimp only at d0 d1
      subst hAA
      obtain ⟨A3, c3, l3, e3⟩ := or_form encN_len HO.out
      subst e3
      obtain ⟨w7, HW7⟩ : ∃ w7, w7 = wr.alloc (.cells #[.int .i64 op, .int .i64 q] 39) := ⟨_, rfl⟩
      obtain ⟨pb, HPB⟩ : ∃ pb, Hid (pb = wr.heap.size) := ⟨_, Lib.hid rfl⟩
      have hsr := HB.out.size
      have hb7 : Below wr.heap.size wr w7 := by rw [HW7]; exact below_one _ _
      have HH7 : Hid (w7.heap[pb]? = some (.cells #[.int .i64 op, .int .i64 q] 39)) := Lib.hid (by rw [HPB.out, HW7]; exact World.alloc_heap_new _ _)
      have HB7 : Hid (Below w.heap.size w w7) := Lib.hid (HB.out.trans (hb7.mono hsr))
      have HPW : Hid (w.heap.size ≤ pb) := Lib.hid (by rw [HPB.out]; exact hsr)
      have HOP : Hid (∀ v, ON w.heap.size (w7.setCell ⟨pb, 1, none⟩ v) (.slice A3 l3 c3) ((e.map bnF).take k)) := Lib.hid (fun v => by
        refine World.ownsRow.kept (OR.below HO.out hb7) (Lib.grownBy_setCell w7 pb 1 v) ?_
        rcases hv : (Value.slice A3 l3 c3).ownBlock with _ | g
        · exact .inl rfl
        · refine .inr (fun e => ?_)
          injection e with e
          have := (World.ownsRow.lt HO.out g hv).2
          have := HPB.out
          omega)
      have HO7 := Lib.hid (OR.below HO.out hb7)
      have y0 : w7.cell? ⟨pb, 0, none⟩ = some (.int .i64 op) := cell_of HH7.out 0
      have y1 : w7.cell? ⟨pb, 1, none⟩ = some (.int .i64 q) := cell_of HH7.out 1
      have y2 : w7.frozen? ⟨pb, 1, none⟩ = false := by have h := HH7.out; simp [World.frozen?, h]
      have HKL : Hid (((e.map bnF).take k).length ≤ 6000) := Lib.hid (by rw [List.length_take]; omega)
      go_upto_region 6 with (fail)
      rw [← HPB.out, ← HW7]
      clear HW7 HPB d0 d1 hc hb7 hsr hb
      by_cases h3 : op = 3
      · have HF : Hid (bnF (op, q) = (op, q)) := Lib.hid (if_pos h3)
        subst h3
        go_wp2_with (at_builtin; go_loud (refine sr.list_append_own encN_len encN_one Tryd.underlying22 infoN rfl (by decide) (by decide) w.heap.size _ rfl (.tmp 20) (.tmp 22) rfl rfl _ ((e.map bnF).take k) rfl (OR.below HO7.out (below_one _ _)) ((3, q) : Int × Int) _ rfl rfl (by have := HKL.out; omega) (by have := HB7.out.size; simp; omega) _ (World.alloc_heap_new _ _) ?_); intro v9 w9 ho9 hb9 _; have HO9 := Lib.hid ho9; have HB9 : Hid (Below w.heap.size w w9) := Lib.hid ((HB7.out.alloc HB7.out.size _).trans hb9); clear ho9 hb9)
        go_roundw
        case rel => exact ⟨k + 1, by omega, by go_num, Lib.hid (by rw [← HT.out, HF.out]; exact HO9.out), HB9⟩
        case measure => simp [intOf]; omega
      · have HF : Hid (bnF (op, q) = (op, 0)) := Lib.hid (if_neg h3)
        have h3b : (op == 3) = false := by rw [beq_eq_false_iff_ne]; exact h3
        go_upto_region 8 with (fail)
        have HO8 := Lib.hid (HOP.out (.int .i64 0))
        have HB8 : Hid (Below w.heap.size w (w7.setCell ⟨pb, 1, none⟩ (.int .i64 0))) := Lib.hid (HB7.out.setCell HPW.out _)
        have z0 : (w7.setCell ⟨pb, 1, none⟩ (.int .i64 0)).cell? ⟨pb, 0, none⟩ = some (.int .i64 op) := (World.cell?_setCell_other _ _ _ _ (rc_ne pb 1 0 (by decide))).trans y0
        have z1 : (w7.setCell ⟨pb, 1, none⟩ (.int .i64 0)).cell? ⟨pb, 1, none⟩ = some (.int .i64 0) := World.cell?_setCell_same _ _ _ y1
        generalize w7.setCell ⟨pb, 1, none⟩ (.int .i64 0) = w8 at *
        clear y0 y1 y2
        go_wp2_with (at_builtin; go_loud (refine sr.list_append_own encN_len encN_one Tryd.underlying22 infoN rfl (by decide) (by decide) w.heap.size _ rfl (.tmp 20) (.tmp 22) rfl rfl _ ((e.map bnF).take k) rfl (OR.below HO8.out (below_one _ _)) ((op, 0) : Int × Int) _ rfl rfl (by have := HKL.out; omega) (by have := HB8.out.size; simp; omega) _ (World.alloc_heap_new _ _) ?_); intro v9 w9 ho9 hb9 _; have HO9 := Lib.hid ho9; have HB9 : Hid (Below w.heap.size w w9) := Lib.hid ((HB8.out.alloc HB8.out.size _).trans hb9); clear ho9 hb9)
        go_roundw
        case rel => exact ⟨k + 1, by omega, by go_num, Lib.hid (by rw [← HT.out, HF.out]; exact HO9.out), HB9⟩
        case measure => simp [intOf]; omega
    · obtain rfl : k = n := by omega
      have HE : Hid ((e.map bnF).take k = e.map bnF) := Lib.hid (List.take_of_length_le (by rw [List.length_map, ← HN.out]; exact Nat.le_refl _))
      go_wp2
      go_ret
      exact ⟨_, rfl, by rw [← HE.out]; exact HO.out, HB.out⟩
end Go.Proofs.YtgnflnfajkoibaaDoor.tx
namespace Go.Proofs.YtgnflnfajkoibaaDoor.tx
open lt

theorem bn1 (x : Int × Int) : (bnF x).1 = x.1 := by unfold bnF; split <;> rfl
theorem bn3 {x : Int × Int} (h : x.1 = 3) : bnF x = x := if_pos h
theorem getD_bn (e : List (Int × Int)) (i : Nat) : (e.map bnF).getD i (0, 0) = bnF (e.getD i (0, 0)) := by
  rw [List.getD_eq_getElem?_getD, List.getD_eq_getElem?_getD, List.getElem?_map]
  cases e[i]? <;> rfl
theorem ndW_bn (n : Nat) (x : Int × Int) : ndW n (bnF x) = ndW n x := by
  unfold ndW
  rw [bn1]
  by_cases h : x.1 = 3
  · rw [bn3 h]
  · simp [h]
theorem wrF_bn : ∀ (e : List (Int × Int)) (n : Nat), wrF n (e.map bnF) = wrF n e
  | [], n => rfl
  | x :: e, n => by
    rw [List.map_cons]
    unfold wrF
    rw [ndW_bn, bn1, wrF_bn e]
theorem outF_bn (e : List (Int × Int)) : ∀ k, outF (e.map bnF) k = outF e k
  | 0 => rfl
  | k + 1 => by rw [outF_succ, outF_succ, outF_bn e k, getD_bn, bn1]
theorem isF_bn (e : List (Int × Int)) : isF (e.map bnF) = isF e := by unfold isF; rw [wrF_bn]
theorem kidsF_bn (e : List (Int × Int)) (a : Int) : kidsF (e.map bnF) a = kidsF e a := by
  unfold kidsF
  simp only [isF_bn, wrF_bn, outF_bn, getD_bn, bn1, List.length_map]
theorem txF_bn {e : List (Int × Int)} (N : List (List UInt8)) (h : ∀ i, opO (e.getD i (0, 0)).1 = none → bnF (e.getD i (0, 0)) = e.getD i (0, 0)) : ∀ f i a, txF (e.map bnF) N f i a = txF e N f i a
  | 0, _, _ => rfl
  | f + 1, i, a => by
    have ih := txF_bn N h f
    cases ho : opO (e.getD i (0, 0)).1 with
    | none =>
      rw [txF_none (by rw [getD_bn, bn1]; exact ho), txF_none ho, getD_bn, h i ho]
    | some o =>
      rw [txF_some (o := o) (by rw [getD_bn, bn1]; exact ho), txF_some ho]
      unfold bareF
      simp only [kidsF_bn, ih]
theorem nmW_bn (N : List ByteArray) : ∀ e : List (Int × Int), nmW N (e.map bnF) = nmW N e
  | [] => rfl
  | x :: e => by
    rw [List.map_cons]
    unfold nmW
    rw [bn1, nmW_bn N e]
    by_cases h : x.1 = 3
    · rw [bn3 h]
    · simp [h]
theorem textV_bn {e : List (Int × Int)} {N : List ByteArray} (h : (textV e N).2 = 0) : textV (e.map bnF) N = textV e N := by
  have hw : wrF 0 e = 0 := by
    unfold textV at h
    split at h
    · cases h
    · split at h
      · rename_i h2; exact absurd h h2
      · rename_i h2; exact Decidable.not_not.1 h2
  have hk : ∀ i, opO (e.getD i (0, 0)).1 = none → bnF (e.getD i (0, 0)) = e.getD i (0, 0) := fun i ho => by
    by_cases hi : i < e.length
    · obtain ⟨st, _, h3⟩ := Ok.of_is hw i (Nat.le_of_lt hi)
      have h4 := (ndW_ok (h3 hi)).1
      by_cases h5 : (e.getD i (0, 0)).1 = 3
      · exact bn3 h5
      · obtain ⟨o, h6, _⟩ := opO_is h4 h5
        rw [h6] at ho
        cases ho
    · have : e.getD i (0, 0) = (0, 0) := by simp [List.getD, List.getElem?_eq_none (by omega : e.length ≤ i)]
      rw [this]
      rfl
  unfold textV tB
  rw [List.length_map, wrF_bn, nmW_bn, txF_bn _ hk]
end Go.Proofs.YtgnflnfajkoibaaDoor.tx
