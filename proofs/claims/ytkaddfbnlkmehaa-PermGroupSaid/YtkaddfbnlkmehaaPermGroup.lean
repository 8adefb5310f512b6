/- The law PermGroup: of any three permutations of as many things: one and that which leads back make nothing move, either way round; three may be bracketed in either way; a list is moved by one behind another as by both; and nothing that was there is changed. No condition. -/
import Derived.Test.YtkaddfbnlkmehaaPermWorks
namespace Go.Proofs.Ytkaddfbnlkmehaa.permGroup
open Go.ChangeShapes Go.WideShapes Go.ChangeAt Go.RowKit

/-- 100 and on. -/
def hund (n : Nat) : List Int := (List.range n).map fun i : Nat => 100 + (i : Int)
theorem hund_length (n : Nat) : (hund n).length = n := by simp [hund]
theorem hund_succ (n : Nat) : hund (n + 1) = hund n ++ [100 + (n : Int)] := by simp [hund, List.range_succ]
theorem mulF_eq {a b : List Int} (ha : Prm a) (hb : Prm b) (hl : a.length = b.length) : mulF a b = mulL a b := if_pos ⟨hl, chk_iff.2 ha, chk_iff.2 hb⟩
theorem moveF_eq {a l : List Int} (ha : Prm a) (hl : a.length = l.length) : moveF a l = moveL a l := if_pos ⟨hl, chk_iff.2 ha⟩
/-- What the calls answer. -/
structure Facts (x : Nat) (a b c l I U P Q S R T : List Int) : Prop where
  f1 : invF a = I
  f2 : mulF a I = U
  f3 : idF (x : Int) = U
  f4 : mulF I a = U
  f5 : mulF a b = P
  f6 : mulF P c = Q
  f7 : mulF b c = S
  f8 : mulF a S = Q
  f9 : moveF P l = R
  f10 : moveF a l = T
  f11 : moveF b T = R
  lI : I.length = x
  lU : U.length = x
  lP : P.length = x
  lQ : Q.length = x
  lS : S.length = x
  lR : R.length = x
  lT : T.length = x
theorem facts {x : Nat} {a b c : List Int} (ha : Prm a) (hb : Prm b) (hc : Prm c) (la : x = a.length) (lb : x = b.length) (lc : x = c.length) : ∃ I U P Q S R T, Facts x a b c (hund x) I U P Q S R T := by
  have hl := hund_length x
  have hx := ha.len
  have p1 := ha.mul hb (by omega)
  have p2 := hb.mul hc (by omega)
  have l1 := mulL_length a b
  have l2 := mulL_length b c
  refine ⟨invL a, ups x, mulL a b, mulL (mulL a b) c, mulL b c, moveL (mulL a b) (hund x), moveL a (hund x), if_pos (chk_iff.2 ha), ?_, ?_, ?_, mulF_eq ha hb (by omega), mulF_eq p1 hc (by omega), mulF_eq hb hc (by omega), ?_, moveF_eq p1 (by omega), moveF_eq ha (by omega), ?_, ?_, ups_length x, by omega, ?_, by omega, ?_, ?_⟩
  · rw [mulF_eq ha ha.inv (by rw [invL_length]), mul_inv ha, la]
  · unfold idF
    rw [if_pos (by omega)]
    simp
  · rw [mulF_eq ha.inv ha (by rw [invL_length]), inv_mul ha, la]
  · rw [mulF_eq ha p2 (by omega), mul_assoc' ha (by omega)]
  · rw [moveF_eq hb (by rw [moveL_length]; omega), ← move_mul ha hb (by omega) (by omega)]
  · rw [invL_length]; omega
  · rw [mulL_length]; omega
  · rw [moveL_length]; omega
  · rw [moveL_length]; omega

set_option maxRecDepth 20000 in
set_option maxHeartbeats 8000000 in
theorem small (A B C : Option Addr) (c d f x : Nat) (a b l : List Int) (w : World) (hx : x = a.length) (hy : x = b.length) (hz : x = l.length) (hA : IA w A a) (hB : IA w B b) (hC : IA w C l) (pa : Prm a) (pb : Prm b) (pc : Prm l) :
    Calls Try.prog 11 #[.slice A x c, .slice B x d, .slice C x f] w (LawPost w) := by
  have HX := Lib.hid hx
  have HY := Lib.hid hy
  have HZ := Lib.hid hz
  have HA := Lib.hid hA
  have HB := Lib.hid hB
  have HC := Lib.hid hC
  have hx8 : x ≤ 8 := by have := pa.len; omega
  have HLA : Hid (a.length ≤ 1000000) := Lib.hid (by omega)
  have HLB : Hid (b.length ≤ 1000000) := Lib.hid (by omega)
  have HLC : Hid (l.length ≤ 1000000) := Lib.hid (by omega)
  have KA := Lib.hid (chk_iff.2 pa)
  have KB := Lib.hid (chk_iff.2 pb)
  have KC := Lib.hid (chk_iff.2 pc)
  obtain ⟨I, U, P, Q, S, R, T, F⟩ := facts pa pb pc hx hy hz
  have FF := Lib.hid F
  have HLH := Lib.hid (hund_length x)
  clear hx hy hz hA hB hC pa pb pc F
  go_enter Try.func11, Try.ntmps11
  go_wp2_with fail
  refine (refCheck_any A c x a w HX.out HA.out HLA.out).mono ?_
  rintro e w' ⟨rfl, rfl⟩
  rw [KA.out]
  go_wp2_with fail
  refine (refCheck_any B d x b w HY.out HB.out HLB.out).mono ?_
  rintro e w' ⟨rfl, rfl⟩
  rw [KB.out]
  go_wp2_with fail
  refine (refCheck_any C f x l w HZ.out HC.out HLC.out).mono ?_
  rintro e w' ⟨rfl, rfl⟩
  rw [KC.out]
  go_wp2_with fail
  go_loopw [7, 8] (fun q i wr => ∃ (v : Value) (k : Nat), k ≤ x ∧ q = v ∧ i = .int .i64 k ∧ Hid (OI w.heap.size wr v (hund k)) ∧ Hid (Below w.heap.size w wr)) (fun _ i _ => x - (intOf i).toNat)
  case atStart => exact ⟨_, 0, by omega, rfl, rfl, Lib.hid (OI.nil _ _), Lib.hid (Below.refl _ _)⟩
  case round =>
    obtain ⟨v, k, hk, rfl, rfl, HO, HBR⟩ := hrel
    by_cases hlt : k < x
    · have HL : Hid ((hund k).length + 1 ≤ 1000000) := Lib.hid (by rw [hund_length]; omega)
      have hz := HBR.out.size
      go_wp2_with (at_builtin; refine append_one rfl (.tmp 43) (.tmp 46) rfl w.heap.size _ (hund k) rfl HO.out (100 + (k : Int)) rfl HL.out hz ?_; intro v3 w3 ho3 hb3; have HO3 := Lib.hid ho3; have HB3 := Lib.hid hb3; clear ho3 hb3)
      go_roundw
      case rel => exact ⟨_, k + 1, by omega, rfl, by go_num, Lib.hid (by rw [hund_succ]; exact HO3.out), Lib.hid (HBR.out.trans HB3.out)⟩
      case measure => simp [intOf]; omega
    · obtain rfl : k = x := by omega
      have HLHd : Hid ((hund k).length = k) := Lib.hid (hund_length k)
      obtain ⟨LA, lc, rfl, hLI⟩ := HO.out.form
      have HLl := Lib.hid hLI
      have W0 := HBR
      clear hLI HO HBR
      rw [HLHd.out]
      clear hk hlt
      generalize hund k = L at *
      have HLL : Hid (L.length ≤ 1000000) := Lib.hid (by rw [HLHd.out]; omega)
      go_wp2_with fail
      refine (inv_any A c k a wr HX.out (HA.out.below W0.out) HLA.out).mono ?_
      rw [FF.out.f1]
      rintro e w1 ⟨D1, c1, rfl, h1, hb1⟩
      rw [FF.out.lI]
      have L2 := Lib.hid (HLl.out.below hb1)
      have R1 := Lib.hid h1.ia
      have W1 := Lib.hid (W0.out.trans (hb1.mono W0.out.size))
      clear h1 hb1
      go_wp2_with fail
      refine (mul_any A D1 c c1 k k a I w1 HX.out FF.out.lI.symm (HA.out.below W1.out) R1.out HLA.out (by rw [FF.out.lI]; omega)).mono ?_
      rw [FF.out.f2]
      rintro e w3 ⟨D3, c3, rfl, h3, hb3⟩
      rw [FF.out.lU]
      have L4 := Lib.hid (L2.out.below hb3)
      have L5 := Lib.hid (R1.out.below hb3)
      have R3 := Lib.hid h3.ia
      have W3 := Lib.hid (W1.out.trans (hb3.mono W1.out.size))
      clear h3 hb3
      go_wp2_with fail
      refine (id_any k w3).mono ?_
      rw [FF.out.f3]
      rintro e w6 ⟨D6, c6, rfl, h6, hb6⟩
      rw [FF.out.lU]
      have L7 := Lib.hid (L4.out.below hb6)
      have L8 := Lib.hid (R3.out.below hb6)
      have R6 := Lib.hid h6.ia
      have W6 := Lib.hid (W3.out.trans (hb6.mono W3.out.size))
      clear h6 hb6
      go_wp2_with fail
      refine (equal_ints _ _ _ _ _ _ U U w6 FF.out.lU.symm FF.out.lU.symm L8.out R6.out (by rw [FF.out.lU]; unfold maxLen; omega) (by rw [FF.out.lU]; unfold maxLen; omega)).mono ?_
      rintro e w9 ⟨rfl, j9, rfl⟩
      rw [eqB_yes (show U = U from rfl)]
      have L10 := Lib.hid (L7.out.below (below_drewN (Below.refl _ w6) j9))
      have W9 := Lib.hid (below_drewN W6.out j9)
      clear W6
      generalize w6.drewN j9 = w9 at *
      go_wp2_with fail
      refine (inv_any A c k a w9 HX.out (HA.out.below W9.out) HLA.out).mono ?_
      rw [FF.out.f1]
      rintro e w11 ⟨D11, c11, rfl, h11, hb11⟩
      rw [FF.out.lI]
      have L12 := Lib.hid (L10.out.below hb11)
      have R11 := Lib.hid h11.ia
      have W11 := Lib.hid (W9.out.trans (hb11.mono W9.out.size))
      clear h11 hb11
      go_wp2_with fail
      refine (mul_any D11 A c11 c k k I a w11 FF.out.lI.symm HX.out R11.out (HA.out.below W11.out) (by rw [FF.out.lI]; omega) HLA.out).mono ?_
      rw [FF.out.f4]
      rintro e w13 ⟨D13, c13, rfl, h13, hb13⟩
      rw [FF.out.lU]
      have L14 := Lib.hid (L12.out.below hb13)
      have L15 := Lib.hid (R11.out.below hb13)
      have R13 := Lib.hid h13.ia
      have W13 := Lib.hid (W11.out.trans (hb13.mono W11.out.size))
      clear h13 hb13
      go_wp2_with fail
      refine (id_any k w13).mono ?_
      rw [FF.out.f3]
      rintro e w16 ⟨D16, c16, rfl, h16, hb16⟩
      rw [FF.out.lU]
      have L17 := Lib.hid (L14.out.below hb16)
      have L18 := Lib.hid (R13.out.below hb16)
      have R16 := Lib.hid h16.ia
      have W16 := Lib.hid (W13.out.trans (hb16.mono W13.out.size))
      clear h16 hb16
      go_wp2_with fail
      refine (equal_ints _ _ _ _ _ _ U U w16 FF.out.lU.symm FF.out.lU.symm L18.out R16.out (by rw [FF.out.lU]; unfold maxLen; omega) (by rw [FF.out.lU]; unfold maxLen; omega)).mono ?_
      rintro e w19 ⟨rfl, j19, rfl⟩
      rw [eqB_yes (show U = U from rfl)]
      have L20 := Lib.hid (L17.out.below (below_drewN (Below.refl _ w16) j19))
      have W19 := Lib.hid (below_drewN W16.out j19)
      clear W16
      generalize w16.drewN j19 = w19 at *
      go_wp2_with fail
      refine (mul_any A B c d k k a b w19 HX.out HY.out (HA.out.below W19.out) (HB.out.below W19.out) HLA.out HLB.out).mono ?_
      rw [FF.out.f5]
      rintro e w21 ⟨D21, c21, rfl, h21, hb21⟩
      rw [FF.out.lP]
      have L22 := Lib.hid (L20.out.below hb21)
      have R21 := Lib.hid h21.ia
      have W21 := Lib.hid (W19.out.trans (hb21.mono W19.out.size))
      clear h21 hb21
      go_wp2_with fail
      refine (mul_any D21 C c21 f k k P l w21 FF.out.lP.symm HZ.out R21.out (HC.out.below W21.out) (by rw [FF.out.lP]; omega) HLC.out).mono ?_
      rw [FF.out.f6]
      rintro e w23 ⟨D23, c23, rfl, h23, hb23⟩
      rw [FF.out.lQ]
      have L24 := Lib.hid (L22.out.below hb23)
      have L25 := Lib.hid (R21.out.below hb23)
      have R23 := Lib.hid h23.ia
      have W23 := Lib.hid (W21.out.trans (hb23.mono W21.out.size))
      clear h23 hb23
      go_wp2_with fail
      refine (mul_any B C d f k k b l w23 HY.out HZ.out (HB.out.below W23.out) (HC.out.below W23.out) HLB.out HLC.out).mono ?_
      rw [FF.out.f7]
      rintro e w26 ⟨D26, c26, rfl, h26, hb26⟩
      rw [FF.out.lS]
      have L27 := Lib.hid (L24.out.below hb26)
      have L28 := Lib.hid (R23.out.below hb26)
      have R26 := Lib.hid h26.ia
      have W26 := Lib.hid (W23.out.trans (hb26.mono W23.out.size))
      clear h26 hb26
      go_wp2_with fail
      refine (mul_any A D26 c c26 k k a S w26 HX.out FF.out.lS.symm (HA.out.below W26.out) R26.out HLA.out (by rw [FF.out.lS]; omega)).mono ?_
      rw [FF.out.f8]
      rintro e w29 ⟨D29, c29, rfl, h29, hb29⟩
      rw [FF.out.lQ]
      have L30 := Lib.hid (L27.out.below hb29)
      have L31 := Lib.hid (L28.out.below hb29)
      have L32 := Lib.hid (R26.out.below hb29)
      have R29 := Lib.hid h29.ia
      have W29 := Lib.hid (W26.out.trans (hb29.mono W26.out.size))
      clear h29 hb29
      go_wp2_with fail
      refine (equal_ints _ _ _ _ _ _ Q Q w29 FF.out.lQ.symm FF.out.lQ.symm L31.out R29.out (by rw [FF.out.lQ]; unfold maxLen; omega) (by rw [FF.out.lQ]; unfold maxLen; omega)).mono ?_
      rintro e w33 ⟨rfl, j33, rfl⟩
      rw [eqB_yes (show Q = Q from rfl)]
      have L34 := Lib.hid (L30.out.below (below_drewN (Below.refl _ w29) j33))
      have W33 := Lib.hid (below_drewN W29.out j33)
      clear W29
      generalize w29.drewN j33 = w33 at *
      go_wp2_with fail
      refine (mul_any A B c d k k a b w33 HX.out HY.out (HA.out.below W33.out) (HB.out.below W33.out) HLA.out HLB.out).mono ?_
      rw [FF.out.f5]
      rintro e w35 ⟨D35, c35, rfl, h35, hb35⟩
      rw [FF.out.lP]
      have L36 := Lib.hid (L34.out.below hb35)
      have R35 := Lib.hid h35.ia
      have W35 := Lib.hid (W33.out.trans (hb35.mono W33.out.size))
      clear h35 hb35
      go_wp2_with fail
      refine (move_any D35 LA c35 lc k k P L w35 FF.out.lP.symm HLHd.out.symm R35.out L36.out (by rw [FF.out.lP]; omega) HLL.out).mono ?_
      rw [FF.out.f9]
      rintro e w37 ⟨D37, c37, rfl, h37, hb37⟩
      rw [FF.out.lR]
      have L38 := Lib.hid (L36.out.below hb37)
      have L39 := Lib.hid (R35.out.below hb37)
      have R37 := Lib.hid h37.ia
      have W37 := Lib.hid (W35.out.trans (hb37.mono W35.out.size))
      clear h37 hb37
      go_wp2_with fail
      refine (move_any A LA c lc k k a L w37 HX.out HLHd.out.symm (HA.out.below W37.out) L38.out HLA.out HLL.out).mono ?_
      rw [FF.out.f10]
      rintro e w40 ⟨D40, c40, rfl, h40, hb40⟩
      rw [FF.out.lT]
      have L41 := Lib.hid (L38.out.below hb40)
      have L42 := Lib.hid (R37.out.below hb40)
      have R40 := Lib.hid h40.ia
      have W40 := Lib.hid (W37.out.trans (hb40.mono W37.out.size))
      clear h40 hb40
      go_wp2_with fail
      refine (move_any B D40 d c40 k k b T w40 HY.out FF.out.lT.symm (HB.out.below W40.out) R40.out HLB.out (by rw [FF.out.lT]; omega)).mono ?_
      rw [FF.out.f11]
      rintro e w43 ⟨D43, c43, rfl, h43, hb43⟩
      rw [FF.out.lR]
      have L44 := Lib.hid (L42.out.below hb43)
      have L45 := Lib.hid (R40.out.below hb43)
      have R43 := Lib.hid h43.ia
      have W43 := Lib.hid (W40.out.trans (hb43.mono W40.out.size))
      clear h43 hb43
      go_wp2_with fail
      refine (equal_ints _ _ _ _ _ _ R R w43 FF.out.lR.symm FF.out.lR.symm L44.out R43.out (by rw [FF.out.lR]; unfold maxLen; omega) (by rw [FF.out.lR]; unfold maxLen; omega)).mono ?_
      rintro e w46 ⟨rfl, j46, rfl⟩
      rw [eqB_yes (show R = R from rfl)]
      have W46 := Lib.hid (below_drewN W43.out j46)
      clear W43
      generalize w43.drewN j46 = w46 at *
      go_wp2_with fail
      refine (works_any w46).mono ?_
      rintro e wz ⟨rfl, hbz⟩
      have WZ := Lib.hid (W46.out.trans (hbz.mono W46.out.size))
      clear hbz
      go_wp2
      go_ret
      exact ⟨rfl, WZ.out⟩

theorem refCheck_wide (A : Option Addr) (c m : Nat) (p : List Int) (w : World) (hm : m = p.length) (hA : IA w A p) (hl : 8 * p.length ≤ 140737488355328) :
    Calls Try.prog 26 #[.slice A m c] w fun e w' => e = .returned (.bool (chk p)) ∧ w = w' := by
  by_cases h : p.length ≤ 1000000
  · exact refCheck_any A c m p w hm hA h
  · have HE : Hid (false = chk p) := Lib.hid (by
      by_cases hc : chk p = true
      · have := (chk_iff.1 hc).len
        omega
      · simpa using hc)
    have h1 : 8 < m := by omega
    have h2 : m ≤ 140737488355328 := by omega
    clear hm hA hl h
    go_enter Try.func26, Try.ntmps26
    go_wp2
    go_ret
    exact ⟨ret_bool HE.out, rfl⟩

set_option maxHeartbeats 4000000 in
theorem other (A B C : Option Addr) (c d f x y z : Nat) (a b l : List Int) (w : World) (hx : x = a.length) (hy : y = b.length) (hz : z = l.length) (hA : IA w A a) (hB : IA w B b) (hC : IA w C l) (ha : 8 * a.length ≤ 140737488355328)
    (hb : 8 * b.length ≤ 140737488355328) (hc : 8 * l.length ≤ 140737488355328) (h : ¬ (chk a = true ∧ chk b = true ∧ chk l = true ∧ x = y ∧ y = z)) :
    Calls Try.prog 11 #[.slice A x c, .slice B y d, .slice C z f] w (LawPost w) := by
  have HX := Lib.hid hx
  have HY := Lib.hid hy
  have HZ := Lib.hid hz
  have HA := Lib.hid hA
  have HB := Lib.hid hB
  have HC := Lib.hid hC
  have HLA := Lib.hid ha
  have HLB := Lib.hid hb
  have HLC := Lib.hid hc
  have HN := Lib.hid h
  have lx : x ≤ 140737488355328 := by omega
  have ly : y ≤ 140737488355328 := by omega
  have lz : z ≤ 140737488355328 := by omega
  clear hx hy hz hA hB hC ha hb hc h
  go_enter Try.func11, Try.ntmps11
  go_wp2_with fail
  refine (refCheck_wide A c x a w HX.out HA.out HLA.out).mono ?_
  rintro e w' ⟨rfl, rfl⟩
  cases ka : chk a with
  | false =>
    clear ka
    go_wp2_with fail
    refine (works_any w).mono ?_
    rintro e w7 ⟨rfl, hb7⟩
    go_wp2
    go_ret
    exact ⟨rfl, hb7⟩
  | true =>
    have KA := Lib.hid ka
    clear ka
    go_wp2_with fail
    refine (refCheck_wide B d y b w HY.out HB.out HLB.out).mono ?_
    rintro e w' ⟨rfl, rfl⟩
    cases kb : chk b with
    | false =>
      clear kb
      go_wp2_with fail
      refine (works_any w).mono ?_
      rintro e w7 ⟨rfl, hb7⟩
      go_wp2
      go_ret
      exact ⟨rfl, hb7⟩
    | true =>
      have KB := Lib.hid kb
      clear kb
      go_wp2_with fail
      refine (refCheck_wide C f z l w HZ.out HC.out HLC.out).mono ?_
      rintro e w' ⟨rfl, rfl⟩
      cases kc : chk l with
      | false =>
        clear kc
        go_wp2_with fail
        refine (works_any w).mono ?_
        rintro e w7 ⟨rfl, hb7⟩
        go_wp2
        go_ret
        exact ⟨rfl, hb7⟩
      | true =>
        have KC := Lib.hid kc
        clear kc
        by_cases hxy : x = y
        · subst hxy
          by_cases hyz : x = z
          · exact absurd ⟨KA.out, KB.out, KC.out, rfl, hyz⟩ HN.out
          · have hyz2 : ¬ (x : Int) = (z : Int) := by omega
            go_wp2_with fail
            refine (works_any w).mono ?_
            rintro e w7 ⟨rfl, hb7⟩
            go_wp2
            go_ret
            exact ⟨rfl, hb7⟩
        · have hxy2 : ¬ (x : Int) = (y : Int) := by omega
          go_wp2_with fail
          refine (works_any w).mono ?_
          rintro e w7 ⟨rfl, hb7⟩
          go_wp2
          go_ret
          exact ⟨rfl, hb7⟩

theorem walk (A B C : Option Addr) (c d f : Nat) (a b l : List Int) (w : World) (hA : IA w A a) (hB : IA w B b) (hC : IA w C l) (ha : 8 * a.length ≤ 140737488355328) (hb : 8 * b.length ≤ 140737488355328) (hc : 8 * l.length ≤ 140737488355328) :
    Calls Try.prog 11 #[.slice A a.length c, .slice B b.length d, .slice C l.length f] w (LawPost w) := by
  by_cases h : chk a = true ∧ chk b = true ∧ chk l = true ∧ a.length = b.length ∧ b.length = l.length
  · obtain ⟨h1, h2, h3, h4, h5⟩ := h
    have := small A B C c d f a.length a b l w rfl h4 (h4.trans h5) hA hB hC (chk_iff.1 h1) (chk_iff.1 h2) (chk_iff.1 h3)
    rwa [← h5, ← h4]
  · exact other A B C c d f _ _ _ a b l w rfl rfl rfl hA hB hC ha hb hc h

set_option maxRecDepth 100000 in
theorem lifted (os : Os) (started : os.Started) (H : Type) (enc : TypeId × Value → H) :
    ReturnsInHanded {} Try.checked os 11 .any (Rows.permGroupSpec.pre6 enc Try.prog Try.f11 Rows.permGroupRow.domain false) (Rows.permGroupSpec.post enc Try.prog Try.f11 false true false false) := by
  refine law_lifted started [22, 22, 22] rfl (by kernel_rfl) Try.func11 rfl (by decide +kernel) rfl (fun ds hl => by
    match ds, hl with
    | [_, _, _], _ => rfl) (ChangeSpec.witness6 (enc := enc) (C := Try.checked) false ⟨#[], #[.slice none 0 0, .slice none 0 0, .slice none 0 0], []⟩ 8 (by kernel_rfl) (by kernel_rfl) (by kernel_rfl) (by kernel_rfl)) ?_
  intro W base args ds ps hval hA hlt hsz
  obtain ⟨v0, vs0, d0, ds0, p0, q0, hargs, rfl, rfl, h0, r0⟩ := trodAll_cons hA
  obtain ⟨v1, vs1, d1, ds1, p1, q1, rfl, rfl, rfl, h1, r1⟩ := trodAll_cons r0
  obtain ⟨v2, vs2, d2, ds2, p2, q2, rfl, rfl, rfl, h2, r2⟩ := trodAll_cons r1
  obtain ⟨rfl, rfl, rfl⟩ := trodAll_nil r2
  obtain rfl : args = #[v0, v1, v2] := by cases args; simp_all
  obtain ⟨A0, c0, x0, rfl, b0, i0, z0⟩ := open_ints_arg (hval 0 22 v0 rfl rfl) h0 hsz 0 rfl rfl
  obtain ⟨A1, c1, x1, rfl, b1, i1, z1⟩ := open_ints_arg (hval 1 22 v1 rfl rfl) h1 hsz 1 rfl rfl
  obtain ⟨A2, c2, x2, rfl, b2, i2, z2⟩ := open_ints_arg (hval 2 22 v2 rfl rfl) h2 hsz 2 rfl rfl
  exact walk A0 A1 A2 c0 c1 c2 x0 x1 x2 W i0 i1 i2 b0 b1 b2

set_option maxRecDepth 100000 in
theorem over : Rows.permGroupRow.holds Try.pinned (OpenSpec.ofChange Rows.permGroupSpec) :=
  OpenClaim.holds_of_wide 11 Try.f11 rfl rfl rfl rfl rfl rfl rfl ⟨rfl, rfl, rfl, rfl, rfl⟩ rfl rfl rfl rfl rfl (by kernel_rfl) Try.func11 (by kernel_rfl)
    (of_decide_eq_true (by kernel_rfl)) (by unfold Func.isWrapper; first | (rw [if_pos (by decide +kernel)]; kernel_rfl) | (rw [if_neg (by decide +kernel)]; exact ⟨rfl, rfl⟩))
    (fun os started H enc _ => lifted os started H enc)

theorem proved : Rows.PermGroupSaid := over
#print axioms proved
end Go.Proofs.Ytkaddfbnlkmehaa.permGroup
