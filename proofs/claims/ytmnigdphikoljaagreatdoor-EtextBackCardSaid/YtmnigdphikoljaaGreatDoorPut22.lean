/- Contracts that the claim stands on, several texts in one: EtParse. -/
import Derived.Test.YtmnigdphikoljaaGreatDoorPut1
import Derived.Test.YtmnigdphikoljaaGreatDoorPut2
import Derived.Test.YtmnigdphikoljaaGreatDoorPut3
import Derived.Test.YtmnigdphikoljaaGreatDoorPut4
import Derived.Test.YtmnigdphikoljaaGreatDoorPut5
import Derived.Test.YtmnigdphikoljaaGreatDoorPut6
import Derived.Test.YtmnigdphikoljaaGreatDoorPut7
import Derived.Test.YtmnigdphikoljaaGreatDoorPut8
import Derived.Test.YtmnigdphikoljaaGreatDoorPut9
import Derived.Test.YtmnigdphikoljaaGreatDoorPut10
import Derived.Test.YtmnigdphikoljaaGreatDoorPut11
import Derived.Test.YtmnigdphikoljaaGreatDoorPut12
import Derived.Test.YtmnigdphikoljaaGreatDoorPut13
import Derived.Test.YtmnigdphikoljaaGreatDoorPut14
import Derived.Test.YtmnigdphikoljaaGreatDoorPut15
import Derived.Test.YtmnigdphikoljaaGreatDoorPut16
import Derived.Test.YtmnigdphikoljaaGreatDoorPut17
import Derived.Test.YtmnigdphikoljaaGreatDoorPut18
import Derived.Test.YtmnigdphikoljaaGreatDoorPut19
import Derived.Test.YtmnigdphikoljaaGreatDoorPut20
import Derived.Test.YtmnigdphikoljaaGreatDoorPut21
namespace Go.Proofs.YtmnigdphikoljaaGreatDoor.et
open Go.ChangeShapes Go.WideShapes Go.ChangeAt Go.RowKit Go.Deep

/-- What Parse tells of a text, by what Scan tells of it. -/
def parseT (S : Sc) (N : Nm) (s : ByteArray) (r : lx.Res) : List (Int × Int) × Int × Int :=
  if r.2.2 = 0 then
    (if (allF N s.size r.1).2.2 = 0 then
      (if (textF S N (allF N s.size r.1).1).2 = 0 then
        (if (textF S N (allF N s.size r.1).1).1 = s then ((allF N s.size r.1).1, 0, 0) else ([], (apartF (textF S N (allF N s.size r.1).1).1 s : Nat), 13))
      else ([], 0, (textF S N (allF N s.size r.1).1).2))
    else ([], (allF N s.size r.1).2.1, (allF N s.size r.1).2.2))
  else ([], (r.2.1 : Nat), (r.2.2 : Nat))
def ParseP (S : Sc) (N : Nm) (s : ByteArray) (w : World) (e : Ending) (w' : World) : Prop :=
  ∃ r v, lx.ScanR numD s r ∧ e = .returned (.tuple #[v, .int .i64 (parseT S N s r).2.1, .int .i64 (parseT S N s r).2.2]) ∧ ON w.heap.size w' v (parseT S N s r).1 ∧ Below w.heap.size w w'
theorem or_cap {α : Type} {enc : α → List Value} {size base : Nat} {e : TypeId} {w : World} {v : Value} {l : List α} (h : sr.OR enc size base e w v l) {A : Option Addr} {n c : Nat} (hv : v = .slice A n c) : n ≤ c := by
  rcases h.2 with ⟨e, e2⟩ | ⟨g, cap, cur, e, _, _, hn, _⟩
  · rw [hv] at e
    injection e with e1 e2 e3
    omega
  · rw [hv] at e
    injection e with e1 e2 e3
    omega
theorem str_eq {a b : ByteArray} : (a.toList == b.toList) = true ↔ a = b := by
  constructor
  · intro h
    have h2 : a.toList = b.toList := by simpa using h
    rw [ByteArray.toList_eq, ByteArray.toList_eq] at h2
    exact ByteArray.ext (Array.toList_inj.1 h2)
  · rintro rfl
    simp
set_option maxRecDepth 20000 in
set_option maxHeartbeats 8000000 in
theorem parse_any (X : ScX) (S : Sc) (N : Nm) (s : ByteArray) (w : World) (hs : SR w X S) (hnm : NmR w X N) (hlens : Lim N) (hx : LxW w) :
    Calls Tryz.prog 12 #[.string s, X.v] w (ParseP S N s w) := by
  have hb1 := below_alloc1 w (.cells #[.slice X.a1 X.n1 X.c1, .slice X.a2 X.n2 X.c2, .slice X.a3 X.n3 X.c3, .slice X.a4 X.n4 X.c4, .slice X.a5 X.n5 X.c5, .int .i64 X.self] 28)
  have HB1 := Lib.hid hb1
  have HBX : Hid (Bx (w.alloc (.cells #[.slice X.a1 X.n1 X.c1, .slice X.a2 X.n2 X.c2, .slice X.a3 X.n3 X.c3, .slice X.a4 X.n4 X.c4, .slice X.a5 X.n5 X.c5, .int .i64 X.self] 28)) w.heap.size X) := Lib.hid (Bx.new w X 28)
  have HLE := Lib.hid hlens
  have HS1 := Lib.hid (hs.below hb1)
  have HM1 := Lib.hid (hnm.below hb1)
  have HX1 := Lib.hid (hx.below hb1)
  clear hs hnm hlens hx hb1
  unfold ScX.v
  go_enter Tryz.func12, Tryz.ntmps12
  go_upto_region 1 with (fail)
  generalize hgn : w.heap.size = g at *
  generalize w.alloc (.cells #[.slice X.a1 X.n1 X.c1, .slice X.a2 X.n2 X.c2, .slice X.a3 X.n3 X.c3, .slice X.a4 X.n4 X.c4, .slice X.a5 X.n5 X.c5, .int .i64 X.self] 28) = w1 at *
  go_wp2_with fail
  refine (lx.scan_any numD s w1 HX1.out.sg HX1.out.num).mono ?_
  rintro x w2 ⟨r, v, hr, rfl, ho2, hb2⟩
  have HR := Lib.hid hr
  have HB2 := Lib.hid (HB1.out.trans (hb2.mono (by have := HB1.out.size; omega)))
  have HBX2 := Lib.hid (HBX.out.below hb2)
  have HS2 := Lib.hid (HS1.out.below hb2)
  have HM2 := Lib.hid (HM1.out.below hb2)
  have HX2 := Lib.hid (HX1.out.below hb2)
  have ho2 : sr.OR tokC 4 w1.heap.size 107 w2 v r.1 := ho2
  obtain ⟨A, c, rfl, hrs2⟩ := sr.OR.rs tokC_len ho2
  have HCAP := Lib.hid (or_cap ho2 rfl)
  have HRS := Lib.hid hrs2
  have HP : Hid (∀ p, parseT S N s r = p → ∀ v w', ON g w' v p.1 → Below g w w' → ParseP S N s w (.returned (.tuple #[v, .int .i64 p.2.1, .int .i64 p.2.2])) w') := Lib.hid (fun p hp v w' h1 h2 => by
    subst hp
    exact ⟨r, v, HR.out, rfl, by rw [hgn]; exact h1, by rw [hgn]; exact h2⟩)
  clear hr ho2 hrs2 hb2
  obtain ⟨ts, at0, why⟩ := r
  dsimp only at HCAP HRS ⊢
  by_cases hw : why = 0
  · subst hw
    have hsc : s.size ≤ 20000 ∧ lx.Sc numD s 0 [] (ts, at0, 0) := by
      rcases HR.out with ⟨_, h⟩ | h
      · injection h with h1 h; injection h with h2 h3; cases h3
      · exact h
    obtain ⟨hn1, hn2, hn3⟩ := sc_bd hsc.2
    dsimp only at hn1 hn2 hn3
    have hbd := all_bd HLE.out s.size ts hn1
    have hfw := all_few N s.size ts
    have HPT : Hid (parseT S N s (ts, at0, 0) = (if (allF N s.size ts).2.2 = 0 then
      (if (textF S N (allF N s.size ts).1).2 = 0 then
        (if (textF S N (allF N s.size ts).1).1 = s then ((allF N s.size ts).1, 0, 0) else ([], ((apartF (textF S N (allF N s.size ts).1).1 s : Nat) : Int), 13))
      else ([], 0, (textF S N (allF N s.size ts).1).2))
      else ([], (allF N s.size ts).2.1, (allF N s.size ts).2.2) : List (Int × Int) × Int × Int)) := Lib.hid rfl
    obtain ⟨n, hn⟩ : ∃ n, ts.length = n := ⟨_, rfl⟩
    have hNC := newReader_any X N s.size ts A n c w2 hn.symm HRS.out HCAP.out HM2.out hn1 hn3 HLE.out (fun t ht => by have := hn2 t ht; have := hsc.1; omega)
    unfold ScX.v at hNC
    have HNC := Lib.hid hNC
    have HSZ := Lib.hid hsc.1
    have HBD : Hid (N64 (allF N s.size ts).1) := Lib.hid (fun z hz => by have := hbd z hz; unfold Bd at this; omega)
    have HFW : Hid ((allF N s.size ts).1.length ≤ 6000) := Lib.hid (by omega)
    rw [hn]
    clear hNC hsc hn1 hn2 hn3 hbd hfw hn
    obtain ⟨⟨s0, s1, s2, s3, s4, s5⟩, _⟩ := HBX2.out
    go_wp2_with fail
    refine HNC.out.mono ?_
    rintro x w3 ⟨b, V, rfl, hrd, hclo, hb3⟩
    have HRD := Lib.hid hrd
    have HCL := Lib.hid hclo
    have HB3 := Lib.hid (HB2.out.trans (hb3.mono (by have := HB2.out.size; omega)))
    have HBB : Hid (w2.heap.size ≤ b) := Lib.hid (by obtain ⟨A, c, h⟩ := hrd; exact h.hb)
    have HB23 := Lib.hid hb3
    have HW23 := Lib.hid hb3.size
    clear hrd hclo hb3 HNC s0 s1 s2 s3 s4 s5
    have hAC := all_any ⟨w2, b, X, N, s.size, V⟩ ts w3 HRD.out HCL.out
    dsimp only at hAC
    have HAC := Lib.hid hAC
    clear hAC
    obtain ⟨Q, HQ⟩ : ∃ Q, Hid (allF N s.size ts = Q) := ⟨_, Lib.hid rfl⟩
    rw [HQ.out] at HAC HPT HBD HFW
    go_wp2_with fail
    refine HAC.out.mono ?_
    rintro x w4 ⟨v4, rfl, ho4, ht4⟩
    have hb4 : Below w2.heap.size w3 w4 := Turn.below ht4 (fun k hk => by rw [hk]; exact HBB.out) HW23.out
    have HB4 := Lib.hid (HB3.out.trans (hb4.mono (by have := HB2.out.size; omega)))
    have h24 := HB23.out.trans hb4
    have HBX4 := Lib.hid (HBX2.out.below h24)
    have HS4 := Lib.hid (HS2.out.below h24)
    have HM4 := Lib.hid (HM2.out.below h24)
    have HX4 := Lib.hid (HX2.out.below h24)
    have HG3 : Hid (g ≤ w3.heap.size) := Lib.hid (by have := HB2.out.size; have := HW23.out; have := HB1.out.size; omega)
    have HO4 := Lib.hid (ho4.down HG3.out)
    obtain ⟨A4, c4, rfl, hr4⟩ := sr.OR.rs nodC_len ho4
    have HR4 := Lib.hid (pa_of hr4)
    clear ho4 hb4 ht4 h24 hr4 HAC
    obtain ⟨E, qa, qy⟩ := Q
    dsimp only at HO4 HR4 HPT HBD HFW ⊢
    by_cases hy : qy = 0
    · subst hy
      obtain ⟨m, hm⟩ : ∃ m, E.length = m := ⟨_, rfl⟩
      have hTC := text_any X S N E A4 m c4 w4 HS4.out HM4.out HLE.out hm.symm HR4.out HBD.out HX4.out.tabs
      unfold ScX.v at hTC
      have HTC := Lib.hid hTC
      rw [hm] at HO4 ⊢
      clear hTC
      obtain ⟨T, HT⟩ : ∃ T, Hid (textF S N E = T) := ⟨_, Lib.hid rfl⟩
      rw [HT.out] at HTC HPT
      obtain ⟨u, uy⟩ := T
      obtain ⟨⟨s0, s1, s2, s3, s4, s5⟩, _⟩ := HBX4.out
      go_wp2_with fail
      refine HTC.out.mono ?_
      rintro x w5 ⟨rfl, hb5⟩
      have HB5 := Lib.hid (HB4.out.trans (hb5.mono (by have := HB4.out.size; omega)))
      have HO5 := Lib.hid (HO4.out.below hb5)
      clear hb5 HTC s0 s1 s2 s3 s4 s5
      dsimp only at HPT ⊢
      by_cases hu : uy = 0
      · subst hu
        by_cases he : u = s
        · have hbe : (u.toList == s.toList) = true := str_eq.2 he
          have HP2 : Hid (parseT S N s (ts, at0, 0) = (E, 0, 0)) := Lib.hid (by rw [HPT.out]; simp [he])
          go_wp2
          go_ret3
          exact HP.out _ HP2.out _ _ HO5.out HB5.out
        · have hbe : (u.toList == s.toList) = false := by
            rw [Bool.eq_false_iff]
            exact fun h => he (str_eq.1 h)
          have HP2 : Hid (parseT S N s (ts, at0, 0) = ([], ((apartF u s : Nat) : Int), 13)) := Lib.hid (by rw [HPT.out]; simp [he])
          go_wp2_with fail
          refine (parting_any u s w5 (by have := HSZ.out; omega)).mono ?_
          rintro x w6 ⟨rfl, hb6⟩
          have HB6 := Lib.hid (HB5.out.trans (hb6.mono (by have := HB5.out.size; omega)))
          clear hb6
          go_wp2
          go_ret3
          exact HP.out _ HP2.out _ _ (ON.nil _ _) HB6.out
      · have HP2 : Hid (parseT S N s (ts, at0, 0) = ([], 0, uy)) := Lib.hid (by rw [HPT.out]; simp [hu])
        go_wp2
        go_ret3
        exact HP.out _ HP2.out _ _ (ON.nil _ _) HB5.out
    · have HP2 : Hid (parseT S N s (ts, at0, 0) = ([], qa, qy)) := Lib.hid (by rw [HPT.out, if_neg hy])
      go_wp2
      go_ret3
      exact HP.out _ HP2.out _ _ (ON.nil _ _) HB4.out
  · have hw2 : ¬ (why : Int) = 0 := by omega
    have HP2 : Hid (parseT S N s (ts, at0, why) = ([], (at0 : Int), (why : Int))) := Lib.hid (if_neg hw)
    go_wp2
    go_ret3
    exact HP.out _ HP2.out _ _ (ON.nil _ _) HB2.out
end Go.Proofs.YtmnigdphikoljaaGreatDoor.et
