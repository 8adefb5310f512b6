/- Contracts that the claim stands on, several texts in one: EtSame, EtBackLaw, EtUnlikeLaw, EtBackP, EtUnlikeP. -/
import Derived.Deep.QuietTactic
import Derived.Test.YtmnigdphikoljaaGreatDoorPut1
import Derived.Test.YtmnigdphikoljaaGreatDoorPut2
import Derived.Test.YtmnigdphikoljaaGreatDoorPut3
import Derived.Test.YtmnigdphikoljaaGreatDoorPut4
import Derived.Test.YtmnigdphikoljaaGreatDoorPut5
import Derived.Test.YtmnigdphikoljaaGreatDoorPut6
import Derived.Test.YtmnigdphikoljaaGreatDoorPut7
import Derived.Test.YtmnigdphikoljaaGreatDoorPut8
import Derived.Test.YtmnigdphikoljaaGreatDoorPut9
import Derived.Test.YtmnigdphikoljaaGreatDoorPut10
import Derived.Test.YtmnigdphikoljaaGreatDoorPut11
import Derived.Test.YtmnigdphikoljaaGreatDoorPut12
import Derived.Test.YtmnigdphikoljaaGreatDoorPut13
import Derived.Test.YtmnigdphikoljaaGreatDoorPut14
import Derived.Test.YtmnigdphikoljaaGreatDoorPut15
import Derived.Test.YtmnigdphikoljaaGreatDoorPut16
import Derived.Test.YtmnigdphikoljaaGreatDoorPut17
import Derived.Test.YtmnigdphikoljaaGreatDoorPut18
import Derived.Test.YtmnigdphikoljaaGreatDoorPut19
import Derived.Test.YtmnigdphikoljaaGreatDoorPut20
import Derived.Test.YtmnigdphikoljaaGreatDoorPut21
import Derived.Test.YtmnigdphikoljaaGreatDoorPut22
import Derived.Test.YtmnigdphikoljaaGreatDoorPut23
import Derived.Test.YtmnigdphikoljaaGreatDoorPut24
import Derived.Test.YtmnigdphikoljaaGreatDoorPut25
import Derived.Test.YtmnigdphikoljaaGreatDoorPut26
import Derived.Test.YtmnigdphikoljaaGreatDoorPut27
import Derived.Test.YtmnigdphikoljaaGreatDoorPut28
import Derived.Test.YtmnigdphikoljaaGreatDoorPut29
import Derived.Test.YtmnigdphikoljaaGreatDoorPut30
import Derived.Test.YtmnigdphikoljaaGreatDoorPut31
import Derived.Test.YtmnigdphikoljaaGreatDoorPut32
import Derived.Test.YtmnigdphikoljaaGreatDoorPut33
import Derived.Test.YtmnigdphikoljaaGreatDoorPut34
import Derived.Test.YtmnigdphikoljaaGreatDoorPut35
namespace Go.Proofs.YtmnigdphikoljaaGreatDoor.et
open Go.ChangeShapes Go.WideShapes Go.ChangeAt Go.RowKit

theorem getP_ext {xs ys : List (Int × Int)} (hl : xs.length = ys.length) (h : ∀ i, i < xs.length → xs.getD i (0, 0) = ys.getD i (0, 0)) : xs = ys := by
  apply List.ext_getElem hl
  intro i h1 h2
  have := h i h1
  simpa [List.getD, h1, h2] using this
def eqP (xs ys : List (Int × Int)) : Bool := decide (xs = ys)
set_option maxHeartbeats 1000000 in
theorem equal_nodes (A B : Option Addr) (c d m1 m2 : Nat) (xs ys : List (Int × Int)) (w : World) (hm1 : m1 = xs.length) (hm2 : m2 = ys.length) (hA : PA w A xs) (hB : PA w B ys) (hxl : xs.length ≤ maxLen) (hyl : ys.length ≤ maxLen) :
    Calls Tryz.prog 14 #[.slice A m1 c, .slice B m2 d] w fun e w' => e = .returned (.bool (eqP xs ys)) ∧ ∃ n, w' = w.drewN n := by
  subst hm1 hm2
  unfold maxLen at hxl hyl
  by_cases hl : xs.length = ys.length
  · have H := Lib.hid hl
    clear hl
    go_enter Tryz.func14, Tryz.ntmps14
    have hl0 : (xs.length : Int) = (ys.length : Int) := by rw [H.out]
    go_wp2
    clear hl0
    go_loopw [13] (fun i wr => ∃ (k j : Nat), k ≤ ys.length ∧ i = .int .i64 k ∧ wr = w.drewN j ∧ Hid (∀ i, i < k → xs.getD i (0, 0) = ys.getD i (0, 0))) (fun i _ => ys.length - (intOf i).toNat)
    case atStart => exact ⟨0, 0, Nat.zero_le _, rfl, rfl, Lib.hid (fun i hi => absurd hi (by omega))⟩
    case round =>
      obtain ⟨k, j, hk, rfl, rfl, HV⟩ := hrel
      by_cases hlty : k < ys.length
      · have hlt : k < xs.length := by rw [H.out]; exact hlty
        obtain ⟨bA, oA, rfl, hbA, hcA⟩ := hA (by omega)
        obtain ⟨bB, oB, rfl, hbB, hcB⟩ := hB (by omega)
        have c1 := (hcA k hlt).1
        have c2 := (hcB k hlty).1
        have c3 := (hcA k hlt).2
        have c4 := (hcB k hlty).2
        by_cases t1 : xs.getD k (0, 0) = ys.getD k (0, 0)
        · have HS : Hid (∀ i, i < k + 1 → xs.getD i (0, 0) = ys.getD i (0, 0)) := Lib.hid (fun i hi => by
            by_cases hik : i = k
            · subst hik; exact t1
            · exact HV.out i (by omega))
          rw [← t1] at c2 c4
          generalize (xs.getD k (0, 0)).1 = x at c1 c2
          generalize (xs.getD k (0, 0)).2 = y at c3 c4
          clear hcA hcB hA hB t1 HV
          go_wp2
          go_quiet (fail)
          go_wp2
          go_roundw
          case rel => exact ⟨k + 1, _, by omega, by go_num, rfl, HS⟩
          case measure => simp [intOf]; omega
        · have HE : Hid (eqP xs ys = false) := Lib.hid (decide_eq_false (fun h => t1 (by rw [h])))
          have t2 : ((xs.getD k (0, 0)).1 != (ys.getD k (0, 0)).1 || (xs.getD k (0, 0)).2 != (ys.getD k (0, 0)).2) = true := by
            rw [Bool.or_eq_true]
            simp only [bne_iff_ne]
            by_cases e1 : (xs.getD k (0, 0)).1 = (ys.getD k (0, 0)).1
            · right
              intro e2
              exact t1 (Prod.ext e1 e2)
            · exact .inl e1
          generalize (xs.getD k (0, 0)).1 = x at c1 t2
          generalize (xs.getD k (0, 0)).2 = y at c3 t2
          generalize (ys.getD k (0, 0)).1 = x' at c2 t2
          generalize (ys.getD k (0, 0)).2 = y' at c4 t2
          clear hcA hcB hA hB t1 HV
          by_cases hx : x = x'
          · subst hx
            have hy : y ≠ y' := by intro e; subst e; simp at t2
            have hy2 : (y == y') = false := by simpa using hy
            clear t2
            go_wp2
            go_quiet (fail)
            go_wp2
            go_ret
            exact ⟨ret_bool HE.out.symm, _, World.drewN_drewN _ _ _⟩
          · have hx2 : (x == x') = false := by simpa using hx
            clear t2
            go_wp2
            go_quiet (fail)
            go_wp2
            go_ret
            exact ⟨ret_bool HE.out.symm, _, World.drewN_drewN _ _ _⟩
      · have hk2 : k = xs.length := by rw [H.out]; omega
        subst hk2
        have HE : Hid (eqP xs ys = true) := Lib.hid (decide_eq_true (getP_ext H.out HV.out))
        have hge : ys.length ≤ xs.length := by omega
        clear hlty hk
        go_wp2
        go_ret
        exact ⟨ret_bool HE.out.symm, _, rfl⟩
  · have e : eqP xs ys = false := decide_eq_false (fun h => hl (by rw [h]))
    rw [e]
    go_enter Tryz.func14, Tryz.ntmps14
    go_wp2
    go_ret
    exact ⟨rfl, 0, rfl⟩

end Go.Proofs.YtmnigdphikoljaaGreatDoor.et
namespace Go.Proofs.YtmnigdphikoljaaGreatDoor.et
open Go.ChangeShapes Go.WideShapes Go.ChangeAt Go.RowKit Go.Deep

/-- What is plain about it: the text of an expression is read as it, but for numbers of nodes that have none. -/
def BackP : Prop := ∀ (S : Sc) (N : Nm) (e : List (Int × Int)) (t : ByteArray) (r : lx.Res), Lens S N → Lim N → N64 e → textF S N e = (t, 0) → lx.ScanR numD t r → parseT S N t r = (e.map bareF, 0, 0)
set_option maxRecDepth 20000 in
set_option maxHeartbeats 1000000 in
theorem etextBack_of (hback : BackP) (A : Option Addr) (n c : Nat) (e : List (Int × Int)) (X : ScX) (S : Sc) (N : Nm) (w : World) (hn : n = e.length) (hPA : PA w A e) (hN : N64 e) (hs : SR w X S) (hnm : NmR w X N) (hx : LxW w) : Calls Tryz.prog 5 #[.slice A n c, X.v] w fun e w' => e = .returned (.bool true) ∧ Below w.heap.size w w' := by
  have hb1 := below_alloc1 w (.cells #[.slice X.a1 X.n1 X.c1, .slice X.a2 X.n2 X.c2, .slice X.a3 X.n3 X.c3, .slice X.a4 X.n4 X.c4, .slice X.a5 X.n5 X.c5, .int .i64 X.self] 28)
  have HB1 := Lib.hid hb1
  have HBX : Hid (Bx (w.alloc (.cells #[.slice X.a1 X.n1 X.c1, .slice X.a2 X.n2 X.c2, .slice X.a3 X.n3 X.c3, .slice X.a4 X.n4 X.c4, .slice X.a5 X.n5 X.c5, .int .i64 X.self] 28)) w.heap.size X) := Lib.hid (Bx.new w X 28)
  have HS1 := Lib.hid (hs.below hb1)
  have HM1 := Lib.hid (hnm.below hb1)
  have HX1 := Lib.hid (hx.below hb1)
  have HA1 := Lib.hid (hPA.below hb1)
  have HN := Lib.hid hn
  have H64 := Lib.hid hN
  clear hs hnm hx hb1 hPA hn hN
  unfold ScX.v
  go_enter Tryz.func5, Tryz.ntmps5
  go_upto_region 1 with (fail)
  generalize hgn : w.heap.size = g at *
  generalize w.alloc (.cells #[.slice X.a1 X.n1 X.c1, .slice X.a2 X.n2 X.c2, .slice X.a3 X.n3 X.c3, .slice X.a4 X.n4 X.c4, .slice X.a5 X.n5 X.c5, .int .i64 X.self] 28) = w1 at *
  obtain ⟨⟨s0, s1, s2, s3, s4, s5⟩, _⟩ := HBX.out
  have hLC := light_any A n c X w1
  obtain ⟨li, HLI⟩ : ∃ b, Hid (lightF n X = b) := ⟨_, Lib.hid rfl⟩
  rw [HLI.out] at hLC
  unfold ScX.v at hLC
  have HLC := Lib.hid hLC
  clear hLC
  go_wp2_with fail
  refine HLC.out.mono ?_
  rintro e2 w2 ⟨rfl, hb2⟩
  have HB2 := Lib.hid (HB1.out.trans (hb2.mono (by have := HB1.out.size; omega)))
  have HBX2 := Lib.hid (HBX.out.below hb2)
  have HS2 := Lib.hid (HS1.out.below hb2)
  have HM2 := Lib.hid (HM1.out.below hb2)
  have HX2 := Lib.hid (HX1.out.below hb2)
  have HA2 := Lib.hid (HA1.out.below hb2)
  clear hb2 HLC s0 s1 s2 s3 s4 s5
  cases li with
  | false =>
    rw [if_neg (by decide)]
    go_wp2_with fail
    refine (works_any w2 HX2.out).mono ?_
    rintro e3 w3 ⟨rfl, hb3⟩
    have HB3 := Lib.hid (HB2.out.trans (hb3.mono (by have := HB2.out.size; omega)))
    clear hb3
    go_wp2
    go_ret
    rw [hgn]
    exact ⟨rfl, HB3.out⟩
  | true =>
    rw [if_pos rfl]
    obtain ⟨hn60, hlim⟩ := light_lim HLI.out HM2.out
    have HLIM := Lib.hid hlim
    clear hlim
    obtain ⟨T, y, HT⟩ : ∃ a b, Hid (textF S N e = (a, b)) := ⟨_, _, Lib.hid rfl⟩
    have HTC : Hid (∀ W, Below w2.heap.size w2 W → Calls Tryz.prog 10 #[.slice A n c, .agg #[.slice X.a1 X.n1 X.c1, .slice X.a2 X.n2 X.c2, .slice X.a3 X.n3 X.c3, .slice X.a4 X.n4 X.c4, .slice X.a5 X.n5 X.c5, .int .i64 X.self]] W fun x w' => x = .returned (.tuple #[.string T, .int .i64 y]) ∧ Below W.heap.size W w') := Lib.hid (fun W hW => by
      have h := text_any X S N e A n c W (HS2.out.below hW) (HM2.out.below hW) HLIM.out HN.out (HA2.out.below hW) H64.out (HX2.out.below hW).tabs
      unfold TextP at h
      rw [HT.out] at h
      unfold ScX.v at h
      exact h)
    obtain ⟨⟨s0, s1, s2, s3, s4, s5⟩, _⟩ := HBX2.out
    go_wp2_with fail
    refine (HTC.out w2 (Below.refl _ _)).mono ?_
    rintro e3 w3 ⟨rfl, hb3⟩
    have HK3 := Lib.hid hb3
    have HBX3 := Lib.hid (HBX2.out.below hb3)
    have HS3 := Lib.hid (HS2.out.below hb3)
    have HM3 := Lib.hid (HM2.out.below hb3)
    have HX3 := Lib.hid (HX2.out.below hb3)
    have HA3 := Lib.hid (HA2.out.below hb3)
    have HB3 := Lib.hid (HB2.out.trans (hb3.mono (by have := HB2.out.size; omega)))
    clear hb3 s0 s1 s2 s3 s4 s5 HTC
    by_cases hy : y = 0
    · subst hy
      have HBK := Lib.hid (fun r => hback S N e T r (lens_of HS3.out HM3.out HLIM.out) HLIM.out H64.out HT.out)
      obtain ⟨⟨s0, s1, s2, s3, s4, s5⟩, _⟩ := HBX3.out
      have hPC := parse_any X S N T w3 HS3.out HM3.out HLIM.out HX3.out
      unfold ScX.v at hPC
      have HPC := Lib.hid hPC
      clear hPC
      go_wp2_with fail
      refine HPC.out.mono ?_
      rintro e4 w4 ⟨r, v, hr, rfl, ho, hb4⟩
      rw [HBK.out r hr] at ho
      rw [HBK.out r hr]
      obtain ⟨A4, c4, rfl, hra⟩ := sr.OR.rs nodC_len ho
      have HPA := Lib.hid (pa_of hra)
      have HK4 := Lib.hid (HK3.out.trans (hb4.mono HK3.out.size))
      have HX4 := Lib.hid (HX3.out.below hb4)
      have HA4 := Lib.hid (HA3.out.below hb4)
      have HB4 := Lib.hid (HB3.out.trans (hb4.mono (by have := HB3.out.size; omega)))
      clear hr ho hra hb4 HPC s0 s1 s2 s3 s4 s5
      dsimp only at HPA ⊢
      have HM9 : Hid ((e.map bareF).length = n) := Lib.hid (by rw [List.length_map, HN.out])
      rw [HM9.out]
      go_wp2_with fail
      refine (bare_any e A n c w4 HN.out (by omega) HA4.out).mono ?_
      rintro e5 w5 ⟨v5, rfl, ho5, hb5⟩
      obtain ⟨A5, c5, rfl, hra5⟩ := sr.OR.rs nodC_len ho5
      have HPA5 := Lib.hid (pa_of hra5)
      have HPA4 := Lib.hid (HPA.out.below hb5)
      have HX5 := Lib.hid (HX4.out.below hb5)
      have HB5 := Lib.hid (HB4.out.trans (hb5.mono (by have := HB4.out.size; omega)))
      clear ho5 hra5 hb5
      rw [HM9.out]
      have hml : (e.map bareF).length ≤ maxLen := by rw [HM9.out]; unfold maxLen; omega
      have HEQ := equal_nodes A4 A5 c4 c5 n n (e.map bareF) (e.map bareF) w5 HM9.out.symm HM9.out.symm HPA4.out HPA5.out hml hml
      rw [show eqP (e.map bareF) (e.map bareF) = true from decide_eq_true rfl] at HEQ
      have HEQ := Lib.hid HEQ
      clear hml
      go_wp2_with fail
      refine HEQ.out.mono ?_
      rintro e6 w6 ⟨rfl, j, rfl⟩
      have HD : Hid (Below w5.heap.size w5 (w5.drewN j)) := Lib.hid (below_drewN (Below.refl _ _) _)
      have HX6 := Lib.hid (HX5.out.below HD.out)
      have HB6 : Hid (Below g w (w5.drewN j)) := Lib.hid (HB5.out.trans (HD.out.mono (by have := HB5.out.size; omega)))
      go_wp2_with fail
      refine (works_any _ HX6.out).mono ?_
      rintro e7 w7 ⟨rfl, hb7⟩
      have HB7 := Lib.hid (HB6.out.trans (hb7.mono (by have := HB6.out.size; omega)))
      clear hb7
      go_wp2
      go_ret
      rw [hgn]
      exact ⟨rfl, HB7.out⟩
    · have hy2 : (y == 0) = false := by simpa using hy
      go_wp2_with fail
      refine (works_any w3 HX3.out).mono ?_
      rintro e4 w4 ⟨rfl, hb4⟩
      have HB4 := Lib.hid (HB3.out.trans (hb4.mono (by have := HB3.out.size; omega)))
      clear hb4
      go_wp2
      go_ret
      rw [hgn]
      exact ⟨rfl, HB4.out⟩
end Go.Proofs.YtmnigdphikoljaaGreatDoor.et
namespace Go.Proofs.YtmnigdphikoljaaGreatDoor.et
open Go.ChangeShapes Go.WideShapes Go.ChangeAt Go.RowKit Go.Deep

/-- What is plain about it: expressions with the same text are the same but for numbers of nodes that have none. -/
def UnlikeP : Prop := ∀ (S : Sc) (N : Nm) (a b : List (Int × Int)) (t : ByteArray), Lens S N → Lim N → N64 a → N64 b → textF S N a = (t, 0) → textF S N b = (t, 0) → a.map bareF = b.map bareF
set_option maxRecDepth 20000 in
set_option maxHeartbeats 2000000 in
theorem etextUnlike_of (hun : UnlikeP) (A : Option Addr) (n c : Nat) (a : List (Int × Int)) (B : Option Addr) (m d : Nat) (b : List (Int × Int)) (X : ScX) (S : Sc) (N : Nm) (w : World) (hn : n = a.length) (hm : m = b.length) (hPA : PA w A a) (hPB : PA w B b) (hNa : N64 a) (hNb : N64 b) (hs : SR w X S) (hnm : NmR w X N) (hx : LxW w) : Calls Tryz.prog 7 #[.slice A n c, .slice B m d, X.v] w fun e w' => e = .returned (.bool true) ∧ Below w.heap.size w w' := by
  have hb1 := below_alloc1 w (.cells #[.slice X.a1 X.n1 X.c1, .slice X.a2 X.n2 X.c2, .slice X.a3 X.n3 X.c3, .slice X.a4 X.n4 X.c4, .slice X.a5 X.n5 X.c5, .int .i64 X.self] 28)
  have HB1 := Lib.hid hb1
  have HBX1 : Hid (Bx (w.alloc (.cells #[.slice X.a1 X.n1 X.c1, .slice X.a2 X.n2 X.c2, .slice X.a3 X.n3 X.c3, .slice X.a4 X.n4 X.c4, .slice X.a5 X.n5 X.c5, .int .i64 X.self] 28)) w.heap.size X) := Lib.hid (Bx.new w X 28)
  have HS1 := Lib.hid (hs.below hb1)
  have HM1 := Lib.hid (hnm.below hb1)
  have HX1 := Lib.hid (hx.below hb1)
  have HA1 := Lib.hid (hPA.below hb1)
  have HE1 := Lib.hid (hPB.below hb1)
  have HN := Lib.hid hn
  have HNb := Lib.hid hm
  have H64 := Lib.hid hNa
  have H64b := Lib.hid hNb
  clear hs hnm hx hb1 hPA hPB hn hm hNa hNb
  unfold ScX.v
  go_enter Tryz.func7, Tryz.ntmps7
  go_upto_region 1 with (fail)
  generalize hgn : w.heap.size = g at *
  generalize w.alloc (.cells #[.slice X.a1 X.n1 X.c1, .slice X.a2 X.n2 X.c2, .slice X.a3 X.n3 X.c3, .slice X.a4 X.n4 X.c4, .slice X.a5 X.n5 X.c5, .int .i64 X.self] 28) = w1 at *
  obtain ⟨⟨s0, s1, s2, s3, s4, s5⟩, _⟩ := HBX1.out
  have hLC := light_any A n c X w1
  obtain ⟨la, Hla⟩ : ∃ b, Hid (lightF n X = b) := ⟨_, Lib.hid rfl⟩
  rw [Hla.out] at hLC
  unfold ScX.v at hLC
  have HLC := Lib.hid hLC
  clear hLC
  go_wp2_with fail
  refine (HLC.out).mono ?_
  rintro e2 w2 ⟨rfl, hb2⟩
  have HB2 := Lib.hid (HB1.out.trans (hb2.mono (by have := HB1.out.size; omega)))
  have HBX2 := Lib.hid (HBX1.out.below hb2)
  have HS2 := Lib.hid (HS1.out.below hb2)
  have HM2 := Lib.hid (HM1.out.below hb2)
  have HX2 := Lib.hid (HX1.out.below hb2)
  have HA2 := Lib.hid (HA1.out.below hb2)
  have HE2 := Lib.hid (HE1.out.below hb2)
  clear hb2 s0 s1 s2 s3 s4 s5
  clear HLC
  cases la with
  | false =>
    rw [if_neg (by decide)]
    go_wp2_with fail
    refine (works_any w2 HX2.out).mono ?_
    rintro e8 w8 ⟨rfl, hb8⟩
    have HB8 := Lib.hid (HB2.out.trans (hb8.mono (by have := HB2.out.size; omega)))
    clear hb8
    go_wp2
    go_ret
    rw [hgn]
    exact ⟨rfl, HB8.out⟩
  | true =>
    rw [if_pos rfl]
    obtain ⟨⟨s0, s1, s2, s3, s4, s5⟩, _⟩ := HBX2.out
    have hLC := light_any B m d X w2
    obtain ⟨lb, Hlb⟩ : ∃ b, Hid (lightF m X = b) := ⟨_, Lib.hid rfl⟩
    rw [Hlb.out] at hLC
    unfold ScX.v at hLC
    have HLC := Lib.hid hLC
    clear hLC
    go_wp2_with fail
    refine (HLC.out).mono ?_
    rintro e3 w3 ⟨rfl, hb3⟩
    have HB3 := Lib.hid (HB2.out.trans (hb3.mono (by have := HB2.out.size; omega)))
    have HBX3 := Lib.hid (HBX2.out.below hb3)
    have HS3 := Lib.hid (HS2.out.below hb3)
    have HM3 := Lib.hid (HM2.out.below hb3)
    have HX3 := Lib.hid (HX2.out.below hb3)
    have HA3 := Lib.hid (HA2.out.below hb3)
    have HE3 := Lib.hid (HE2.out.below hb3)
    clear hb3 s0 s1 s2 s3 s4 s5
    clear HLC
    cases lb with
    | false =>
      rw [if_neg (by decide)]
      go_wp2_with fail
      refine (works_any w3 HX3.out).mono ?_
      rintro e8 w8 ⟨rfl, hb8⟩
      have HB8 := Lib.hid (HB3.out.trans (hb8.mono (by have := HB3.out.size; omega)))
      clear hb8
      go_wp2
      go_ret
      rw [hgn]
      exact ⟨rfl, HB8.out⟩
    | true =>
      rw [if_pos rfl]
      obtain ⟨hn60, hlim⟩ := light_lim Hla.out HM3.out
      have hm60 := (light_lim Hlb.out HM3.out).1
      have HLIM := Lib.hid hlim
      clear hlim
      obtain ⟨T, y, HT⟩ : ∃ p1 p2, Hid (textF S N a = (p1, p2)) := ⟨_, _, Lib.hid rfl⟩
      have HTC : Hid (Calls Tryz.prog 10 #[.slice A n c, .agg #[.slice X.a1 X.n1 X.c1, .slice X.a2 X.n2 X.c2, .slice X.a3 X.n3 X.c3, .slice X.a4 X.n4 X.c4, .slice X.a5 X.n5 X.c5, .int .i64 X.self]] w3 fun x w' => x = .returned (.tuple #[.string T, .int .i64 y]) ∧ Below w3.heap.size w3 w') := Lib.hid (by
        have h := text_any X S N a A n c w3 HS3.out HM3.out HLIM.out HN.out HA3.out H64.out HX3.out.tabs
        unfold TextP at h
        rw [HT.out] at h
        unfold ScX.v at h
        exact h)
      obtain ⟨⟨s0, s1, s2, s3, s4, s5⟩, _⟩ := HBX3.out
      go_wp2_with fail
      refine (HTC.out).mono ?_
      rintro e4 w4 ⟨rfl, hb4⟩
      have HB4 := Lib.hid (HB3.out.trans (hb4.mono (by have := HB3.out.size; omega)))
      have HBX4 := Lib.hid (HBX3.out.below hb4)
      have HS4 := Lib.hid (HS3.out.below hb4)
      have HM4 := Lib.hid (HM3.out.below hb4)
      have HX4 := Lib.hid (HX3.out.below hb4)
      have HA4 := Lib.hid (HA3.out.below hb4)
      have HE4 := Lib.hid (HE3.out.below hb4)
      clear hb4 s0 s1 s2 s3 s4 s5
      obtain ⟨U, z, HU⟩ : ∃ p1 p2, Hid (textF S N b = (p1, p2)) := ⟨_, _, Lib.hid rfl⟩
      have HUC : Hid (Calls Tryz.prog 10 #[.slice B m d, .agg #[.slice X.a1 X.n1 X.c1, .slice X.a2 X.n2 X.c2, .slice X.a3 X.n3 X.c3, .slice X.a4 X.n4 X.c4, .slice X.a5 X.n5 X.c5, .int .i64 X.self]] w4 fun x w' => x = .returned (.tuple #[.string U, .int .i64 z]) ∧ Below w4.heap.size w4 w') := Lib.hid (by
        have h := text_any X S N b B m d w4 HS4.out HM4.out HLIM.out HNb.out HE4.out H64b.out HX4.out.tabs
        unfold TextP at h
        rw [HU.out] at h
        unfold ScX.v at h
        exact h)
      obtain ⟨⟨s0, s1, s2, s3, s4, s5⟩, _⟩ := HBX4.out
      go_wp2_with fail
      refine (HUC.out).mono ?_
      rintro e5 w5 ⟨rfl, hb5⟩
      have HB5 := Lib.hid (HB4.out.trans (hb5.mono (by have := HB4.out.size; omega)))
      have HBX5 := Lib.hid (HBX4.out.below hb5)
      have HS5 := Lib.hid (HS4.out.below hb5)
      have HM5 := Lib.hid (HM4.out.below hb5)
      have HX5 := Lib.hid (HX4.out.below hb5)
      have HA5 := Lib.hid (HA4.out.below hb5)
      have HE5 := Lib.hid (HE4.out.below hb5)
      clear hb5 s0 s1 s2 s3 s4 s5
      clear HTC HUC
      by_cases hy : y = 0
      · by_cases hz : z = 0
        · subst hy
          subst hz
          have HPQ : Hid (eqP (a.map bareF) (b.map bareF) = (T.toList == U.toList)) := Lib.hid (by
            by_cases hTU : T = U
            · have h := hun S N a b T (lens_of HS5.out HM5.out HLIM.out) HLIM.out H64.out H64b.out HT.out (by rw [HU.out, hTU])
              rw [hTU]
              rw [show eqP (a.map bareF) (b.map bareF) = true from decide_eq_true h]
              simp
            · have h1 : (T.toList == U.toList) = false := by
                cases h : (T.toList == U.toList) with
                | false => rfl
                | true => exact absurd (str_eq.1 h) hTU
              rw [h1]
              refine decide_eq_false (fun h => hTU ?_)
              have h2 := text_same (S := S) (N := N) h
              rw [HT.out, HU.out] at h2
              exact (Prod.mk.inj h2).1)
          have HLa : Hid ((a.map bareF).length = n) := Lib.hid (by rw [List.length_map, HN.out])
          have HLb : Hid ((b.map bareF).length = m) := Lib.hid (by rw [List.length_map, HNb.out])
          obtain ⟨tu, htu⟩ : ∃ x, (T.toList == U.toList) = x := ⟨_, rfl⟩
          rw [htu] at HPQ
          go_wp2_with fail
          refine (bare_any a A n c w5 HN.out (by omega) HA5.out).mono ?_
          rintro e6 w6 ⟨v6, rfl, ho6, hb6⟩
          obtain ⟨A6, c6, rfl, hra6⟩ := sr.OR.rs nodC_len ho6
          have HP6 := Lib.hid (pa_of hra6)
          have HX6 := Lib.hid (HX5.out.below hb6)
          have HE6 := Lib.hid (HE5.out.below hb6)
          have HB6 := Lib.hid (HB5.out.trans (hb6.mono (by have := HB5.out.size; omega)))
          clear ho6 hra6 hb6
          rw [HLa.out]
          go_wp2_with fail
          refine (bare_any b B m d w6 HNb.out (by omega) HE6.out).mono ?_
          rintro e7 w7 ⟨v7, rfl, ho7, hb7⟩
          obtain ⟨A7, c7, rfl, hra7⟩ := sr.OR.rs nodC_len ho7
          have HP7 := Lib.hid (pa_of hra7)
          have HP67 := Lib.hid (HP6.out.below hb7)
          have HX7 := Lib.hid (HX6.out.below hb7)
          have HB7 := Lib.hid (HB6.out.trans (hb7.mono (by have := HB6.out.size; omega)))
          clear ho7 hra7 hb7
          rw [HLb.out]
          have hml1 : (a.map bareF).length ≤ maxLen := by rw [HLa.out]; unfold maxLen; omega
          have hml2 : (b.map bareF).length ≤ maxLen := by rw [HLb.out]; unfold maxLen; omega
          have HEQ := equal_nodes A6 A7 c6 c7 n m (a.map bareF) (b.map bareF) w7 HLa.out.symm HLb.out.symm HP67.out HP7.out hml1 hml2
          rw [HPQ.out] at HEQ
          have HEQ := Lib.hid HEQ
          clear hml1 hml2
          go_wp2_with fail
          refine HEQ.out.mono ?_
          rintro e9 w9 ⟨rfl, j, rfl⟩
          have HD : Hid (Below w7.heap.size w7 (w7.drewN j)) := Lib.hid (below_drewN (Below.refl _ _) _)
          have HX9 := Lib.hid (HX7.out.below HD.out)
          have HB9 : Hid (Below g w (w7.drewN j)) := Lib.hid (HB7.out.trans (HD.out.mono (by have := HB7.out.size; omega)))
          cases tu
          all_goals
            go_wp2_with fail
            refine (works_any _ HX9.out).mono ?_
            rintro e8 w8 ⟨rfl, hb8⟩
            have HB8 := Lib.hid (HB9.out.trans (hb8.mono (by have := HB9.out.size; omega)))
            clear hb8
            go_wp2
            go_ret
            rw [hgn]
            exact ⟨rfl, HB8.out⟩
        · have hz2 : (z == 0) = false := by simpa using hz
          subst hy
          go_wp2_with fail
          refine (works_any w5 HX5.out).mono ?_
          rintro e8 w8 ⟨rfl, hb8⟩
          have HB8 := Lib.hid (HB5.out.trans (hb8.mono (by have := HB5.out.size; omega)))
          clear hb8
          go_wp2
          go_ret
          rw [hgn]
          exact ⟨rfl, HB8.out⟩
      · have hy2 : (y == 0) = false := by simpa using hy
        go_wp2_with fail
        refine (works_any w5 HX5.out).mono ?_
        rintro e8 w8 ⟨rfl, hb8⟩
        have HB8 := Lib.hid (HB5.out.trans (hb8.mono (by have := HB5.out.size; omega)))
        clear hb8
        go_wp2
        go_ret
        rw [hgn]
        exact ⟨rfl, HB8.out⟩
end Go.Proofs.YtmnigdphikoljaaGreatDoor.et
namespace Go.Proofs.YtmnigdphikoljaaGreatDoor.et
open Go.ChangeShapes Go.WideShapes Go.ChangeAt Go.RowKit Go.Deep

/-- What is known of an expression that has a text. -/
theorem text_tree {S : Sc} {N : Nm} {e : List (Int × Int)} {t : ByteArray} (hL : Lens S N) (h64 : N64 e) (ht : textF S N e = (t, 0)) : ∃ x, x.flat = e ∧ Fits x ∧ t = txt N x ∧ (txt N x).size ≤ 6000 ∧ (∀ nd ∈ x.flat, GoodL N nd) ∧ (∀ nd ∈ x.flat, There N nd ∧ tellsB N nd = true) := by
  have hk : (kindF S e).2 = 0 := kind_of_text (by rw [ht])
  obtain ⟨B, x, hB, hBl, hpos, h24, hAt, hfl, htr⟩ := kind_tree hk
  have h0 := ht
  unfold textF at h0
  rw [if_pos hk] at h0
  cases hall : e.all (tellsB N) with
  | false =>
    rw [hall] at h0
    exact absurd (Prod.mk.inj h0).2 (by decide)
  | true =>
    rw [hall, if_pos rfl, htr] at h0
    have hgood := good_of hL h64 hk hall
    have htell : ∀ nd ∈ e, tellsB N nd = true := fun nd hn => List.all_eq_true.1 hall nd hn
    have hc := hAt.spec.2.2.2.2
    have hsz := txt_size (N := N) (x := x) (fun nd hn => (hgood nd (hfl ▸ hn)).2)
    refine ⟨x, hfl, hAt.fits, ((Prod.mk.inj h0).1).symm, by omega, fun nd hn => ?_, fun nd hn => ?_⟩
    · rw [hfl] at hn
      refine ⟨fun l hl => (tell_find (hgood nd hn).1 hl (htell nd hn)).1, fun h1 => ?_⟩
      obtain ⟨ps, g1, _⟩ := kind_each hk nd hn
      unfold nodeK at g1
      rw [if_pos h1] at g1
      dsimp only at g1
      unfold hadF at g1
      cases hf : fitB nd.2 (-1048576) 1048576 with
      | false =>
        rw [hf, if_neg (by decide)] at g1
        exact absurd g1 (by decide)
      | true => exact of_decide_eq_true hf
    · rw [hfl] at hn
      exact ⟨(hgood nd hn).1, htell nd hn⟩
/-- Its text is read as its nodes, bare. -/
theorem back_read {S : Sc} {N : Nm} {e : List (Int × Int)} {t : ByteArray} (hL : Lens S N) (h64 : N64 e) (ht : textF S N e = (t, 0)) {r : lx.Res} (hr : lx.ScanR numD t r) (en : Nat) : r.2.2 = 0 ∧ allF N en r.1 = (e.map bareF, 0, 0) := by
  obtain ⟨x, hfl, hfit, rfl, hsz, hgl, hth⟩ := text_tree hL h64 ht
  obtain ⟨T, rfl, hT⟩ := scan_txt hfit hgl hsz hr
  refine ⟨rfl, ?_⟩
  have h := (rdx (en := en) hfit hth).all T hT (T.length + 1) [] 0 (by simp) (fun t r e => by cases e)
  rw [List.append_nil, hfl] at h
  unfold allF
  dsimp only
  rw [h]
  rfl
theorem backP : BackP := fun S N e t r hL _ h64 ht hr => by
  obtain ⟨h1, h2⟩ := back_read hL h64 ht hr t.size
  unfold parseT
  rw [if_pos h1, h2]
  dsimp only
  rw [text_bare, ht, if_pos rfl, if_pos rfl, if_pos rfl]
theorem unlikeP : UnlikeP := fun S N a b t hL _ ha hb hta htb => by
  obtain ⟨x, hfl, hfit, rfl, hsz, hgl, hth⟩ := text_tree hL ha hta
  obtain ⟨T, h1, _⟩ := toks_tks hfit hgl
  have hr : lx.ScanR numD (txt N x) ([] ++ T, 0, 0) := .inr ⟨by omega, h1.sc [] (by have := tks_few h1; simp; omega)⟩
  have e1 := (back_read hL ha hta hr 0).2
  have e2 := (back_read hL hb htb hr 0).2
  rw [e1] at e2
  exact (Prod.mk.inj e2).1
theorem etextBack_any (A : Option Addr) (n c : Nat) (e : List (Int × Int)) (X : ScX) (S : Sc) (N : Nm) (w : World) (hn : n = e.length) (hPA : PA w A e) (hN : N64 e) (hs : SR w X S) (hnm : NmR w X N) (hx : LxW w) : Calls Tryz.prog 5 #[.slice A n c, X.v] w fun e w' => e = .returned (.bool true) ∧ Below w.heap.size w w' :=
  etextBack_of backP A n c e X S N w hn hPA hN hs hnm hx
end Go.Proofs.YtmnigdphikoljaaGreatDoor.et
namespace Go.Proofs.YtmnigdphikoljaaGreatDoor.et
open Go.ChangeShapes Go.WideShapes Go.ChangeAt Go.RowKit Go.Deep

theorem etextUnlike_any (A : Option Addr) (n c : Nat) (a : List (Int × Int)) (B : Option Addr) (m d : Nat) (b : List (Int × Int)) (X : ScX) (S : Sc) (N : Nm) (w : World) (hn : n = a.length) (hm : m = b.length) (hPA : PA w A a) (hPB : PA w B b) (hNa : N64 a) (hNb : N64 b) (hs : SR w X S) (hnm : NmR w X N) (hx : LxW w) : Calls Tryz.prog 7 #[.slice A n c, .slice B m d, X.v] w fun e w' => e = .returned (.bool true) ∧ Below w.heap.size w w' :=
  etextUnlike_of unlikeP A n c a B m d b X S N w hn hm hPA hPB hNa hNb hs hnm hx
end Go.Proofs.YtmnigdphikoljaaGreatDoor.et
