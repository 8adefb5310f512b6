/- Contracts that the claim stands on, several texts in one: LtxRefL, LtxTextAll, LtxRefT, LtlNd, LtxRdr. -/
import Derived.Deep.RegionHeld3
import Derived.Deep.Cut
import Derived.Lib.OwnKind
import Derived.Deep.RegionLaw
import Derived.Lib.BufferWrite
import Derived.Test.YtgnflnfajkoibaaDoorPut1
import Derived.Test.YtgnflnfajkoibaaDoorPut2
import Derived.Test.YtgnflnfajkoibaaDoorPut3
import Derived.Test.YtgnflnfajkoibaaDoorPut4
import Derived.Test.YtgnflnfajkoibaaDoorPut5
import Derived.Test.YtgnflnfajkoibaaDoorPut6
import Derived.Test.YtgnflnfajkoibaaDoorPut7
import Derived.Test.YtgnflnfajkoibaaDoorPut8
import Derived.Test.YtgnflnfajkoibaaDoorPut9
import Derived.Test.YtgnflnfajkoibaaDoorPut10
namespace Go.Proofs.YtgnflnfajkoibaaDoor.tx
open Go.ChangeShapes Go.WideShapes Go.ChangeAt Go.RowKit Go.Deep sr lt

theorem laid_step (A : Option Addr) (m c : Nat) (NA : Option Addr) (n d : Nat) (e : List (Int × Int)) (N : List ByteArray) (f : Nat) (HP : LaidC A m c NA n d e N f) : LaidC A m c NA n d e N (f + 1) := by
  intro i a w hif hi ha0 ha5 h
  obtain ⟨op, q, hnd⟩ : ∃ op q, e.getD i (0, 0) = (op, q) := ⟨_, _, rfl⟩
  rcases node_of h.is_ (i := i) (by rw [← h.lm]; exact hi) with ⟨q', h1, _⟩ | ⟨o, ho, hm, _⟩
  · rw [hnd] at h1
    injection h1 with h2 h3
    subst h2
    exact laid3 A m c NA n d e N f i q a w ⟨h, hnd, hi⟩ ⟨ha0, ha5⟩
  · rw [hnd] at ho
    obtain ⟨_, h2⟩ := opO_mem ho
    dsimp only at h2
    subst h2
    clear ho
    rcases ops_cases hm with rfl | rfl | rfl | rfl | rfl | rfl | rfl | rfl | rfl | rfl | rfl
    · exact laid1 A m c NA n d e N f i q a w ⟨h, hnd, hi⟩ ⟨ha0, ha5⟩
    · exact laid2 A m c NA n d e N f i q a w ⟨h, hnd, hi⟩ ⟨ha0, ha5⟩
    · exact laid4 A m c NA n d e N f i q a w HP (by omega) ⟨h, hnd, hi⟩ ⟨ha0, ha5⟩
    · exact laid8 A m c NA n d e N f i q a w HP (by omega) ⟨h, hnd, hi⟩ ⟨ha0, ha5⟩
    · exact laid11 A m c NA n d e N f i q a w HP (by omega) ⟨h, hnd, hi⟩ ⟨ha0, ha5⟩
    · exact laid12 A m c NA n d e N f i q a w HP (by omega) ⟨h, hnd, hi⟩ ⟨ha0, ha5⟩
    · exact laid9 A m c NA n d e N f i q a w HP (by omega) ⟨h, hnd, hi⟩ ⟨ha0, ha5⟩
    · exact laid10 A m c NA n d e N f i q a w HP (by omega) ⟨h, hnd, hi⟩ ⟨ha0, ha5⟩
    · exact laid5 A m c NA n d e N f i q a w HP (by omega) ⟨h, hnd, hi⟩ ⟨ha0, ha5⟩
    · exact laid6 A m c NA n d e N f i q a w HP (by omega) ⟨h, hnd, hi⟩ ⟨ha0, ha5⟩
    · exact laid7 A m c NA n d e N f i q a w HP (by omega) ⟨h, hnd, hi⟩ ⟨ha0, ha5⟩
theorem laid_any (A : Option Addr) (m c : Nat) (NA : Option Addr) (n d : Nat) (e : List (Int × Int)) (N : List ByteArray) : ∀ f, LaidC A m c NA n d e N f
  | 0 => fun i a w hi => absurd hi (by omega)
  | f + 1 => laid_step A m c NA n d e N f (laid_any A m c NA n d e N f)
end Go.Proofs.YtgnflnfajkoibaaDoor.tx
namespace Go.Proofs.YtgnflnfajkoibaaDoor.tx
open Go.ChangeShapes Go.WideShapes Go.ChangeAt Go.RowKit Go.Deep sr lt

/-- What is wrong first with the names of propositions. -/
def nmW (N : List ByteArray) : List (Int × Int) → Int
  | [] => 0
  | x :: e => if x.1 ≠ 3 then nmW N e else if (N.length : Int) ≤ x.2 then 8 else if mayB N x.2.toNat = true then nmW N e else 6
theorem nmW_ok {N : List ByteArray} : ∀ {e : List (Int × Int)}, nmW N e = 0 → ∀ i q, i < e.length → e.getD i (0, 0) = (3, q) → q < N.length ∧ mayB N q.toNat = true
  | [], _, i, q, hi, _ => absurd hi (by simp)
  | x :: e, h, i, q, hi, hq => by
    unfold nmW at h
    rcases i with _ | i
    · have hx : x = (3, q) := hq
      subst hx
      rw [if_neg (by simp)] at h
      split at h
      · cases h
      · split at h
        · rename_i h1 h2
          exact ⟨by simp only at h1; omega, h2⟩
        · cases h
    · have hq' : e.getD i (0, 0) = (3, q) := by simpa [List.getD] using hq
      have hi' : i < e.length := by simpa using hi
      split at h
      · exact nmW_ok h i q hi' hq'
      · split at h
        · cases h
        · split at h
          · exact nmW_ok h i q hi' hq'
          · cases h
theorem nmW_drop {N : List ByteArray} {e : List (Int × Int)} {i : Nat} (hi : i < e.length) : nmW N (e.drop i) = if (e.getD i (0, 0)).1 ≠ 3 then nmW N (e.drop (i + 1)) else if (N.length : Int) ≤ (e.getD i (0, 0)).2 then 8 else if mayB N (e.getD i (0, 0)).2.toNat = true then nmW N (e.drop (i + 1)) else 6 := by
  rw [drop_nd hi, nmW]
theorem name_size {s : ByteArray} (h : lx.nameB s = true) : s.size ≤ 16 := by
  unfold lx.nameB at h
  simp only [Bool.and_eq_true, decide_eq_true_eq] at h
  omega
/-- The text of nodes, and why they have none. -/
def textV (e : List (Int × Int)) (N : List ByteArray) : ByteArray × Int :=
  if 24 < e.length then (⟨#[]⟩, 5) else if wrF 0 e ≠ 0 then (⟨#[]⟩, wrF 0 e) else if nmW N e ≠ 0 then (⟨#[]⟩, nmW N e) else (tB e N e.length (e.length - 1) 1, 0)
def TextP (r : ByteArray × Int) (w : World) (x : Ending) (w' : World) : Prop := x = .returned (.tuple #[.string r.1, .int .i64 r.2]) ∧ Below w.heap.size w w'
set_option maxRecDepth 20000 in
set_option maxHeartbeats 4000000 in
theorem text_any (A : Option Addr) (m c : Nat) (NA : Option Addr) (n d : Nat) (e : List (Int × Int)) (N : List ByteArray) (w : World) (hm : m = e.length) (hz : m ≤ 1000) (hA : PA w A e) (hN : NmS w NA n d N) (hO : OpsW w) :
    Calls Tryd.prog 9 #[.slice A m c, .slice NA n d] w (TextP (textV e N) w) := by
  have HM := Lib.hid hm
  have HA := Lib.hid hA
  have HN := Lib.hid hN
  have HO := Lib.hid hO
  have HK := Lib.hid (wn.check_any e A c m w hm hA hz)
  have HLN := Lib.hid hN.ln
  clear hm hA hN hO
  obtain ⟨z, HZ⟩ : ∃ z, Hid ((if 24 < m then 5 else wrF 0 e) = z) := ⟨_, Lib.hid rfl⟩
  obtain ⟨r1, r2, HR⟩ : ∃ r1 r2, Hid (textV e N = (r1, r2)) := ⟨_, _, Lib.hid rfl⟩
  rw [HR.out]
  by_cases hz0 : z = 0
  · subst hz0
    have HMW : Hid (m ≤ 24 ∧ wrF 0 e = 0) := Lib.hid (by
      have h := HZ.out
      by_cases h24 : 24 < m
      · rw [if_pos h24] at h; cases h
      · rw [if_neg h24] at h; exact ⟨by omega, h⟩)
    have HRV : Hid (textV e N = if nmW N e ≠ 0 then (⟨#[]⟩, nmW N e) else (tB e N e.length (e.length - 1) 1, 0)) := Lib.hid (by
      unfold textV
      rw [if_neg (by rw [← HM.out]; have := HMW.out.1; omega), if_neg (by rw [HMW.out.2]; decide)])
    have hm24 : m ≤ 24 := HMW.out.1
    go_enter Tryd.func9, Tryd.ntmps9
    go_wp2_with fail
    refine HK.out.mono ?_
    rw [HZ.out]
    rintro x w1 ⟨rfl, hb1⟩
    have HB1 := Lib.hid hb1
    clear hb1 HK
    go_wp2
    go_loopw [16] (fun iv wr => ∃ i : Nat, i ≤ m ∧ iv = .int .i64 i ∧ Hid (nmW N e = nmW N (e.drop i)) ∧ Hid (Below w.heap.size w wr)) (fun iv _ => m - (intOf iv).toNat)
    case atStart => exact ⟨0, Nat.zero_le _, rfl, Lib.hid rfl, HB1⟩
    case round =>
      obtain ⟨i, hi, rfl, HF, HB⟩ := hrel
      by_cases hlt : i < m
      · have HIL : Hid (i < e.length) := Lib.hid (by rw [← HM.out]; exact hlt)
        obtain ⟨b, o, rfl, hb, hc⟩ := (HA.out.below HB.out) (by rw [← HM.out]; omega)
        obtain ⟨c1, c2⟩ := hc i HIL.out
        have HDR := Lib.hid (nmW_drop (N := N) HIL.out)
        have HQ8 : Hid ((e.getD i (0, 0)).1 = 3 → 0 ≤ (e.getD i (0, 0)).2 ∧ (e.getD i (0, 0)).2 < 8) := Lib.hid (by
          obtain ⟨st, _, h3⟩ := Ok.of_is HMW.out.2 i (by rw [← HM.out]; omega)
          exact (ndW_ok (h3 HIL.out)).2.2)
        obtain ⟨op, q, HND⟩ : ∃ op q, Hid (e.getD i (0, 0) = (op, q)) := ⟨_, _, Lib.hid rfl⟩
        rw [HND.out] at c1 c2 HDR HQ8
        simp only at c1 c2
        clear hc
        have hwz : w.heap.size ≤ wr.heap.size := HB.out.size
        by_cases h3 : op = 3
        · subst h3
          have hq8 := HQ8.out rfl
          obtain ⟨k, rfl⟩ : ∃ k : Nat, q = k := ⟨q.toNat, by have := hq8.1; simp only at this; omega⟩
          have HBA : Hid (Below w.heap.size w (wr.alloc (.cells #[.int .i64 3, .int .i64 (k : Int)] 39))) := Lib.hid (HB.out.alloc hwz _)
          clear hq8
          by_cases hn : n ≤ k
          · have HE : Hid (r1 = ⟨#[]⟩ ∧ r2 = 8) := Lib.hid (by
              have h8 : nmW N e = 8 := by rw [HF.out, HDR.out, if_neg (by simp), if_pos (by rw [← HLN.out]; simp only; omega)]
              have h := HR.out
              rw [HRV.out, if_pos (by rw [h8]; decide), h8] at h
              injection h with h1 h2
              exact ⟨h1.symm, h2.symm⟩)
            go_wp2
            go_ret2
            exact ⟨by rw [HE.out.1, HE.out.2]; rfl, HBA.out⟩
          · have hkn : k < n := by omega
            obtain ⟨v, HV⟩ : ∃ v, Hid (mayB N k = v) := ⟨_, Lib.hid rfl⟩
            have HNX : Hid (nmW N e = if v = true then nmW N (e.drop (i + 1)) else 6) := Lib.hid (by
              rw [HF.out, HDR.out, if_neg (by simp), if_neg (by rw [← HLN.out]; simp only; omega)]
              simp only [Int.toNat_natCast, HV.out])
            go_upto_region 8 with (fail)
            have n0 : (wr.alloc (.cells #[.int .i64 3, .int .i64 (k : Int)] 39)).cell? ⟨wr.heap.size, 0, none⟩ = some (.int .i64 3) := World.cell?_alloc_at _ _ _ _ rfl
            have n1 : (wr.alloc (.cells #[.int .i64 3, .int .i64 (k : Int)] 39)).cell? ⟨wr.heap.size, 1, none⟩ = some (.int .i64 (k : Int)) := World.cell?_alloc_at _ _ _ _ rfl
            generalize wr.alloc (.cells #[.int .i64 3, .int .i64 (k : Int)] 39) = w5 at *
            go_wp2_with fail
            refine (mayBe_any NA n d k N w5 (HN.out.below HBA.out) hkn (HO.out.keep HBA.out)).mono ?_
            rw [HV.out]
            rintro x w6 ⟨rfl, hb6⟩
            have HB6 : Hid (Below w.heap.size w w6) := Lib.hid (HBA.out.trans (hb6.mono HBA.out.size))
            clear hb6 n0 n1
            cases v with
            | true =>
              have HNX2 : Hid (nmW N e = nmW N (e.drop (i + 1))) := Lib.hid HNX.out
              clear HNX
              go_wp2
              go_roundw
              case rel => exact ⟨i + 1, by omega, by go_num, HNX2, HB6⟩
              case measure => simp [intOf]; omega
            | false =>
              have HE : Hid (r1 = ⟨#[]⟩ ∧ r2 = 6) := Lib.hid (by
                have h8 : nmW N e = 6 := HNX.out
                have h := HR.out
                rw [HRV.out, if_pos (by rw [h8]; decide), h8] at h
                injection h with h1 h2
                exact ⟨h1.symm, h2.symm⟩)
              clear HNX
              go_wp2
              go_ret2
              exact ⟨by rw [HE.out.1, HE.out.2]; rfl, HB6.out⟩
        · have h3b : (op != 3) = true := by simpa using h3
          have HNX : Hid (nmW N e = nmW N (e.drop (i + 1))) := Lib.hid (by rw [HF.out, HDR.out, if_pos h3])
          go_wp2
          go_roundw
          case rel => exact ⟨i + 1, by omega, by go_num, HNX, Lib.hid (HB.out.alloc hwz _)⟩
          case measure => simp [intOf]; omega
      · obtain rfl : i = m := by omega
        have HN0 : Hid (nmW N e = 0) := Lib.hid (by rw [HF.out, HM.out, List.drop_length]; rfl)
        have HE : Hid (r1 = tB e N i (i - 1) 1 ∧ r2 = 0) := Lib.hid (by
          have h := HR.out
          rw [HRV.out, if_neg (by rw [HN0.out]; decide), ← HM.out] at h
          injection h with h1 h2
          exact ⟨h1.symm, h2.symm⟩)
        have hpos : 0 < i := by have := (whole_last HMW.out.2).1; rw [HM.out]; exact this
        have HWO : Hid (WrOk wr A i c NA n d e N) := Lib.hid ⟨HA.out.below HB.out, HM.out, by omega, HN.out.below HB.out, HMW.out.2, HO.out.keep HB.out, fun j q hj hq => by
          have h1 := nmW_ok HN0.out j q hj hq
          have h0 : 0 ≤ q := by
            obtain ⟨st, _, h3⟩ := Ok.of_is HMW.out.2 j (by omega)
            have h4 := (ndW_ok (h3 hj)).2.2
            rw [hq] at h4
            exact (h4 rfl).1
          refine ⟨by rw [HLN.out]; omega, name_size ?_⟩
          have h2 := h1.2
          unfold mayB at h2
          rw [Bool.and_eq_true] at h2
          exact h2.1⟩
        obtain ⟨l, rfl⟩ : ∃ l, i = l + 1 := ⟨i - 1, by omega⟩
        rw [Nat.add_sub_cancel] at HE
        go_wp2_with fail
        refine (part_any A (l + 1) c NA n d e N (l + 1) l 1 wr (by omega) (by omega) HWO.out).mono ?_
        rintro x w6 ⟨rfl, hb6⟩
        have HB6 : Hid (Below w.heap.size w w6) := Lib.hid (HB.out.trans (hb6.mono HB.out.size))
        clear hb6
        go_wp2
        go_ret2
        exact ⟨by rw [HE.out.1, HE.out.2]; rfl, HB6.out⟩
  · have hzb : (z != 0) = true := by simpa using hz0
    have HE : Hid (r1 = ⟨#[]⟩ ∧ r2 = z) := Lib.hid (by
      have h := HR.out
      unfold textV at h
      rw [← HM.out] at h
      by_cases h24 : 24 < m
      · rw [if_pos h24] at h
        have h5 := HZ.out
        rw [if_pos h24] at h5
        injection h with h1 h2
        exact ⟨h1.symm, by rw [← h2, h5]⟩
      · rw [if_neg h24] at h
        have h5 := HZ.out
        rw [if_neg h24] at h5
        rw [if_pos (by rw [h5]; exact hz0), h5] at h
        injection h with h1 h2
        exact ⟨h1.symm, h2.symm⟩)
    go_enter Tryd.func9, Tryd.ntmps9
    go_wp2_with fail
    refine HK.out.mono ?_
    rw [HZ.out]
    rintro x w1 ⟨rfl, hb1⟩
    have HB1 := Lib.hid hb1
    clear hb1 HK
    go_wp2
    go_ret2
    exact ⟨by rw [HE.out.1, HE.out.2]; rfl, HB1.out⟩
end Go.Proofs.YtgnflnfajkoibaaDoor.tx
namespace Go.Proofs.YtgnflnfajkoibaaDoor.tx
open Go.ChangeShapes Go.WideShapes Go.ChangeAt Go.RowKit Go.Deep sr lt

set_option maxRecDepth 20000 in
set_option maxHeartbeats 4000000 in
theorem refText_any (A : Option Addr) (m c : Nat) (NA : Option Addr) (n d : Nat) (e : List (Int × Int)) (N : List ByteArray) (w : World) (hm : m = e.length) (hz : m ≤ 1000) (hA : PA w A e) (hN : NmS w NA n d N) (hO : OpsW w) :
    Calls Tryd.prog 10 #[.slice A m c, .slice NA n d] w (TextP (textV e N) w) := by
  have HM := Lib.hid hm
  have HA := Lib.hid hA
  have HN := Lib.hid hN
  have HO := Lib.hid hO
  have HK := Lib.hid (refCheck_any e A c m w hm hz hA)
  have HLN := Lib.hid hN.ln
  clear hm hA hN hO
  obtain ⟨z, HZ⟩ : ∃ z, Hid ((if 24 < m then 5 else wrF 0 e) = z) := ⟨_, Lib.hid rfl⟩
  obtain ⟨r1, r2, HR⟩ : ∃ r1 r2, Hid (textV e N = (r1, r2)) := ⟨_, _, Lib.hid rfl⟩
  rw [HR.out]
  by_cases hz0 : z = 0
  · subst hz0
    have HMW : Hid (m ≤ 24 ∧ wrF 0 e = 0) := Lib.hid (by
      have h := HZ.out
      by_cases h24 : 24 < m
      · rw [if_pos h24] at h; cases h
      · rw [if_neg h24] at h; exact ⟨by omega, h⟩)
    have HRV : Hid (textV e N = if nmW N e ≠ 0 then (⟨#[]⟩, nmW N e) else (tB e N e.length (e.length - 1) 1, 0)) := Lib.hid (by
      unfold textV
      rw [if_neg (by rw [← HM.out]; have := HMW.out.1; omega), if_neg (by rw [HMW.out.2]; decide)])
    have hm24 : m ≤ 24 := HMW.out.1
    go_enter Tryd.func10, Tryd.ntmps10
    go_wp2_with fail
    refine HK.out.mono ?_
    rw [HZ.out]
    rintro x w1 ⟨rfl, rfl⟩
    have HB1 : Hid (Below w.heap.size w w) := Lib.hid (Below.refl _ _)
    clear HK
    go_wp2
    go_loopw [7] (fun iv wr => ∃ i : Nat, i ≤ m ∧ iv = .int .i64 i ∧ Hid (nmW N e = nmW N (e.drop i)) ∧ Hid (Below w.heap.size w wr)) (fun iv _ => m - (intOf iv).toNat)
    case atStart => exact ⟨0, Nat.zero_le _, rfl, Lib.hid rfl, HB1⟩
    case round =>
      obtain ⟨i, hi, rfl, HF, HB⟩ := hrel
      by_cases hlt : i < m
      · have hlti : (i : Int) < m := by omega
        have HIL : Hid (i < e.length) := Lib.hid (by rw [← HM.out]; exact hlt)
        obtain ⟨b, o, rfl, hb, hc⟩ := (HA.out.below HB.out) (by rw [← HM.out]; omega)
        obtain ⟨c1, c2⟩ := hc i HIL.out
        have HDR := Lib.hid (nmW_drop (N := N) HIL.out)
        have HQ8 : Hid ((e.getD i (0, 0)).1 = 3 → 0 ≤ (e.getD i (0, 0)).2 ∧ (e.getD i (0, 0)).2 < 8) := Lib.hid (by
          obtain ⟨st, _, h3⟩ := Ok.of_is HMW.out.2 i (by rw [← HM.out]; omega)
          exact (ndW_ok (h3 HIL.out)).2.2)
        obtain ⟨op, q, HND⟩ : ∃ op q, Hid (e.getD i (0, 0) = (op, q)) := ⟨_, _, Lib.hid rfl⟩
        rw [HND.out] at c1 c2 HDR HQ8
        simp only at c1 c2
        clear hc
        by_cases h3 : op = 3
        · subst h3
          have hq8 := HQ8.out rfl
          obtain ⟨k, rfl⟩ : ∃ k : Nat, q = k := ⟨q.toNat, by have := hq8.1; simp only at this; omega⟩
          clear hq8
          by_cases hn : n ≤ k
          · have HE : Hid (r1 = ⟨#[]⟩ ∧ r2 = 8) := Lib.hid (by
              have h8 : nmW N e = 8 := by rw [HF.out, HDR.out, if_neg (by simp), if_pos (by rw [← HLN.out]; simp only; omega)]
              have h := HR.out
              rw [HRV.out, if_pos (by rw [h8]; decide), h8] at h
              injection h with h1 h2
              exact ⟨h1.symm, h2.symm⟩)
            have hni : (n : Int) ≤ (k : Int) := by omega
            go_wp2
            go_ret2
            exact ⟨by rw [HE.out.1, HE.out.2]; rfl, HB.out⟩
          · have hkn : k < n := by omega
            have hni : ¬ (n : Int) ≤ (k : Int) := by omega
            obtain ⟨v, HV⟩ : ∃ v, Hid (mayB N k = v) := ⟨_, Lib.hid rfl⟩
            have HNX : Hid (nmW N e = if v = true then nmW N (e.drop (i + 1)) else 6) := Lib.hid (by
              rw [HF.out, HDR.out, if_neg (by simp), if_neg (by rw [← HLN.out]; simp only; omega)]
              simp only [Int.toNat_natCast, HV.out])
            go_wp2_with fail
            refine (refMay_any NA n d k N wr (HN.out.below HB.out) hkn).mono ?_
            rw [HV.out]
            rintro x w6 ⟨rfl, hb6⟩
            have HB6 : Hid (Below w.heap.size w w6) := Lib.hid (HB.out.trans (hb6.mono HB.out.size))
            clear hb6 c1 c2
            cases v with
            | true =>
              have HNX2 : Hid (nmW N e = nmW N (e.drop (i + 1))) := Lib.hid HNX.out
              clear HNX
              go_wp2
              go_roundw
              case rel => exact ⟨i + 1, by omega, by go_num, HNX2, HB6⟩
              case measure => simp [intOf]; omega
            | false =>
              have HE : Hid (r1 = ⟨#[]⟩ ∧ r2 = 6) := Lib.hid (by
                have h8 : nmW N e = 6 := HNX.out
                have h := HR.out
                rw [HRV.out, if_pos (by rw [h8]; decide), h8] at h
                injection h with h1 h2
                exact ⟨h1.symm, h2.symm⟩)
              clear HNX
              go_wp2
              go_ret2
              exact ⟨by rw [HE.out.1, HE.out.2]; rfl, HB6.out⟩
        · have h3b : (op == 3) = false := by simpa using h3
          have HNX : Hid (nmW N e = nmW N (e.drop (i + 1))) := Lib.hid (by rw [HF.out, HDR.out, if_pos h3])
          go_wp2
          go_roundw
          case rel => exact ⟨i + 1, by omega, by go_num, HNX, HB⟩
          case measure => simp [intOf]; omega
      · obtain rfl : i = m := by omega
        have hlti : ¬ (i : Int) < i := by omega
        have HN0 : Hid (nmW N e = 0) := Lib.hid (by rw [HF.out, HM.out, List.drop_length]; rfl)
        have HE : Hid (r1 = tB e N i (i - 1) 1 ∧ r2 = 0) := Lib.hid (by
          have h := HR.out
          rw [HRV.out, if_neg (by rw [HN0.out]; decide), ← HM.out] at h
          injection h with h1 h2
          exact ⟨h1.symm, h2.symm⟩)
        have hpos : 0 < i := by have := (whole_last HMW.out.2).1; rw [HM.out]; exact this
        have HWO : Hid (WrOk wr A i c NA n d e N) := Lib.hid ⟨HA.out.below HB.out, HM.out, by omega, HN.out.below HB.out, HMW.out.2, HO.out.keep HB.out, fun j q hj hq => by
          have h1 := nmW_ok HN0.out j q hj hq
          have h0 : 0 ≤ q := by
            obtain ⟨st, _, h3⟩ := Ok.of_is HMW.out.2 j (by omega)
            have h4 := (ndW_ok (h3 hj)).2.2
            rw [hq] at h4
            exact (h4 rfl).1
          refine ⟨by rw [HLN.out]; omega, name_size ?_⟩
          have h2 := h1.2
          unfold mayB at h2
          rw [Bool.and_eq_true] at h2
          exact h2.1⟩
        obtain ⟨l, HL, hl⟩ : ∃ l : Nat, Hid (i = l + 1) ∧ (i : Int) - 1 = (l : Int) := ⟨i - 1, Lib.hid (by omega), by omega⟩
        have HLC := Lib.hid (laid_any A i c NA n d e N i l 1 wr (by have := HL.out; omega) (by have := HL.out; omega) (by decide) (by decide) HWO.out)
        rw [show i - 1 = l by have := HL.out; omega] at HE
        go_wp2_with fail
        refine HLC.out.mono ?_
        rintro x w6 ⟨rfl, hb6⟩
        have HB6 : Hid (Below w.heap.size w w6) := Lib.hid (HB.out.trans (hb6.mono HB.out.size))
        clear hb6
        go_wp2
        go_ret2
        exact ⟨by rw [HE.out.1, HE.out.2]; rfl, HB6.out⟩
  · have hzb : (z != 0) = true := by simpa using hz0
    have HE : Hid (r1 = ⟨#[]⟩ ∧ r2 = z) := Lib.hid (by
      have h := HR.out
      unfold textV at h
      rw [← HM.out] at h
      by_cases h24 : 24 < m
      · rw [if_pos h24] at h
        have h5 := HZ.out
        rw [if_pos h24] at h5
        injection h with h1 h2
        exact ⟨h1.symm, by rw [← h2, h5]⟩
      · rw [if_neg h24] at h
        have h5 := HZ.out
        rw [if_neg h24] at h5
        rw [if_pos (by rw [h5]; exact hz0), h5] at h
        injection h with h1 h2
        exact ⟨h1.symm, h2.symm⟩)
    go_enter Tryd.func10, Tryd.ntmps10
    go_wp2_with fail
    refine HK.out.mono ?_
    rw [HZ.out]
    rintro x w1 ⟨rfl, rfl⟩
    clear HK
    go_wp2
    go_ret2
    exact ⟨by rw [HE.out.1, HE.out.2]; rfl, Below.refl _ _⟩
end Go.Proofs.YtgnflnfajkoibaaDoor.tx
namespace Go.Proofs.YtgnflnfajkoibaaDoor.lt
open Go.ChangeShapes Go.WideShapes Go.ChangeAt Go.RowKit sr

def encN (x : Int × Int) : List Value := [.int .i64 x.1, .int .i64 x.2]
theorem encN_len (x : Int × Int) : (encN x).length = 2 := rfl
theorem encN_one (x : Int × Int) : ∀ u ∈ encN x, u.oneCell' = true := fun u hu => by
  simp [encN] at hu
  rcases hu with rfl | rfl <;> rfl
theorem infoN : (Tryd.prog.info? 39).map (fun i => (i.zero, i.size, i.bytes)) = some (some (.agg #[.int .i64 0, .int .i64 0]), 2, 16) := by kernel_rfl
theorem rs_pa {w : World} {A : Option Addr} {l : List (Int × Int)} (h : RS encN 2 w A l) : PA w A l := fun hn => by
  obtain ⟨b, off, e, hb, hc⟩ := h hn
  exact ⟨b, off, e, hb, fun i hi => ⟨hc i hi 0 (by decide), hc i hi 1 (by decide)⟩⟩
theorem pa_rs {w : World} {A : Option Addr} {l : List (Int × Int)} (h : PA w A l) : RS encN 2 w A l := fun hn => by
  obtain ⟨b, off, e, hb, hc⟩ := h hn
  refine ⟨b, off, e, hb, fun i hi j hj => ?_⟩
  obtain ⟨g1, g2⟩ := hc i hi
  rcases j with _ | _ | j
  · rw [Nat.add_zero, g1]; rfl
  · rw [g2]; rfl
  · omega
abbrev ON (base : Nat) (w : World) (v : Value) (l : List (Int × Int)) : Prop := OR encN 2 base 39 w v l
theorem on_empty (w : World) (base : Nat) (hb : base ≤ w.heap.size) : ON base (w.alloc (.cells #[] 39)) (.slice (some ⟨w.heap.size, 0, none⟩) 0 0) [] :=
  ⟨by simp [flatR], .inr ⟨w.heap.size, 0, #[], rfl, hb, World.alloc_heap_new _ _, Nat.le_refl _, Nat.zero_le _, by simp, by simp [flatR]⟩⟩
/-- append of all of a slice onto a row of the call's own, in a region that keeps its order. -/
theorem list_append_nodes {w : World} {ops : Array Oper} {rest : List Oper} {o : Oper} {a : Act} {Q : Exit → Act → World → Prop} (base : Nat) (hgd : o.guard = none) (s x : Operand)
    (ho : o.op = .call { callee := .builtin .append, args := #[s, x], argTypes := #[22, 22] }) (hty : o.type = 22) (v : Value) (l : List (Int × Int)) (hs : a.eval s = v) (hown : ON base w v l) (A : Option Addr) (m c : Nat) (l2 : List (Int × Int)) (hx : a.eval x = .slice A m c) (hm : m = l2.length) (hpos : 0 < m) (hA : PA w A l2) (hlen : l.length + m ≤ 100000) (hbase : base ≤ w.heap.size)
    (h : ∀ v' w', ON base w' v' (l ++ l2) → Below base w w' → wpList Tryd.prog ops Q rest (a.put o.dst v') w') :
    wpList Tryd.prog ops Q (o :: rest) a w := by
  obtain ⟨v', w', hr, h2, h3⟩ := run_append_rs encN_len encN_one Tryd.underlying22 infoN rfl (by decide) (by decide) (w := w) base v l hown A m c l2 hm hpos (pa_rs hA) (by omega) hbase
  exact Lib.wpList_append_run w hgd s x 22 22 ho v _ hs hx _ w' (by rw [hty]; exact hr) (h v' w' h2 (Below.grown (Below.refl _ _) h3 hbase (fun k hk => (World.ownsRow.lt hown k hk).1)))
theorem on_form {base : Nat} {w : World} {v : Value} {l : List (Int × Int)} (h : ON base w v l) : ∃ A c, v = .slice A l.length c ∧ PA w A l ∧ l.length ≤ c := by
  obtain ⟨A, c, e, hr⟩ := OR.rs encN_len h
  refine ⟨A, c, e, rs_pa hr, ?_⟩
  rcases h.2 with ⟨e2, h0⟩ | ⟨g, cap, cur, e2, _, _, h3, _⟩
  · omega
  · rw [e] at e2
    injection e2 with _ _ e3
    omega
end Go.Proofs.YtgnflnfajkoibaaDoor.lt
namespace Go.Proofs.YtgnflnfajkoibaaDoor.tx
open Go.ChangeShapes Go.WideShapes Go.ChangeAt Go.RowKit Go.Deep sr lt

/-- Four cells of a block that may be written. -/
structure Rc (w : World) (b : Nat) (v0 v1 v2 v3 : Value) : Prop where
  c0 : w.cell? ⟨b, 0, none⟩ = some v0
  c1 : w.cell? ⟨b, 1, none⟩ = some v1
  c2 : w.cell? ⟨b, 2, none⟩ = some v2
  c3 : w.cell? ⟨b, 3, none⟩ = some v3
  f : ∀ j, w.frozen? ⟨b, j, none⟩ = false
  lt : b < w.heap.size
theorem frozen_blk {w w' : World} {b j : Nat} (h : w'.heap[b]? = w.heap[b]?) : w'.frozen? ⟨b, j, none⟩ = w.frozen? ⟨b, j, none⟩ := by
  simp only [World.frozen?, h]
theorem Rc.lower {B : Nat} {w w' : World} {b : Nat} {v0 v1 v2 v3 : Value} (h : Rc w b v0 v1 v2 v3) (k : Below B w w') (hb : b < B) : Rc w' b v0 v1 v2 v3 :=
  ⟨(k.cell (p := ⟨b, 0, none⟩) hb).trans h.c0, (k.cell (p := ⟨b, 1, none⟩) hb).trans h.c1, (k.cell (p := ⟨b, 2, none⟩) hb).trans h.c2, (k.cell (p := ⟨b, 3, none⟩) hb).trans h.c3, fun j => (frozen_blk (k.block b hb)).trans (h.f j), Nat.lt_of_lt_of_le h.lt k.size⟩
theorem Rc.below {w w' : World} {b : Nat} {v0 v1 v2 v3 : Value} (h : Rc w b v0 v1 v2 v3) (k : Below w.heap.size w w') : Rc w' b v0 v1 v2 v3 := h.lower k h.lt
theorem Rc.new {w : World} {v0 v1 v2 v3 : Value} {t : TypeId} : Rc (w.alloc (.cells #[v0, v1, v2, v3] t)) w.heap.size v0 v1 v2 v3 :=
  ⟨World.cell?_alloc_at _ _ _ _ rfl, World.cell?_alloc_at _ _ _ _ rfl, World.cell?_alloc_at _ _ _ _ rfl, World.cell?_alloc_at _ _ _ _ rfl, fun j => World.frozen?_alloc_at _ _ _ _ rfl, by simp⟩
theorem rc_ne (b i j : Nat) (h : i ≠ j) : (⟨b, i, none⟩ : Addr) ≠ ⟨b, j, none⟩ := fun e => by
  injection e with _ e _
  exact h e
theorem frozen_set (w : World) (a : Addr) (v : Value) (p : Addr) : (w.setCell a v).frozen? p = w.frozen? p := by simp
theorem Rc.set1 {w : World} {b : Nat} {v0 v1 v2 v3 : Value} (h : Rc w b v0 v1 v2 v3) (v : Value) : Rc (w.setCell ⟨b, 1, none⟩ v) b v0 v v2 v3 :=
  ⟨(World.cell?_setCell_other _ _ _ _ (rc_ne b 1 0 (by decide))).trans h.c0, World.cell?_setCell_same _ _ _ h.c1, (World.cell?_setCell_other _ _ _ _ (rc_ne b 1 2 (by decide))).trans h.c2, (World.cell?_setCell_other _ _ _ _ (rc_ne b 1 3 (by decide))).trans h.c3, fun j => (frozen_set _ _ _ _).trans (h.f j), by simpa using h.lt⟩
theorem Rc.set2 {w : World} {b : Nat} {v0 v1 v2 v3 : Value} (h : Rc w b v0 v1 v2 v3) (v : Value) : Rc (w.setCell ⟨b, 2, none⟩ v) b v0 v1 v v3 :=
  ⟨(World.cell?_setCell_other _ _ _ _ (rc_ne b 2 0 (by decide))).trans h.c0, (World.cell?_setCell_other _ _ _ _ (rc_ne b 2 1 (by decide))).trans h.c1, World.cell?_setCell_same _ _ _ h.c2, (World.cell?_setCell_other _ _ _ _ (rc_ne b 2 3 (by decide))).trans h.c3, fun j => (frozen_set _ _ _ _).trans (h.f j), by simpa using h.lt⟩
theorem Rc.set3 {w : World} {b : Nat} {v0 v1 v2 v3 : Value} (h : Rc w b v0 v1 v2 v3) (v : Value) : Rc (w.setCell ⟨b, 3, none⟩ v) b v0 v1 v2 v :=
  ⟨(World.cell?_setCell_other _ _ _ _ (rc_ne b 3 0 (by decide))).trans h.c0, (World.cell?_setCell_other _ _ _ _ (rc_ne b 3 1 (by decide))).trans h.c1, (World.cell?_setCell_other _ _ _ _ (rc_ne b 3 2 (by decide))).trans h.c2, World.cell?_setCell_same _ _ _ h.c3, fun j => (frozen_set _ _ _ _).trans (h.f j), by simpa using h.lt⟩

theorem oC_len (x : Opr) : (oC x).length = 5 := rfl
theorem oC_one (x : Opr) : ∀ u ∈ oC x, u.oneCell' = true := fun u hu => by
  simp [oC] at hu
  rcases hu with rfl | rfl | rfl | rfl | rfl <;> rfl
theorem infoO : (Tryd.prog.info? 58).map (fun i => (i.zero, i.size, i.bytes)) = some (some (.agg #[.int .i64 0, .string ⟨#[]⟩, .int .i64 0, .int .i64 0, .int .i64 0]), 5, 48) := by kernel_rfl
/-- Rows of operations of the call's own. -/
abbrev OO (base : Nat) (w : World) (v : Value) (l : List Opr) : Prop := OR oC 5 base 58 w v l
theorem on_apart {b1 b2 : Nat} {w w' : World} {v lv : Value} {L : List (Int × Int)} {l : List Opr} (hO : ON b1 w v L) (hL : OO b2 w lv l) (hg : w.grownBy w' v.ownBlock) : OO b2 w' lv l := by
  refine World.ownsRow.kept hL hg ?_
  rcases hv : lv.ownBlock with _ | b
  · exact .inl rfl
  · refine .inr (fun e => ?_)
    obtain ⟨c1, f1, k1⟩ := Lib.ownsRow_kind hL b hv
    obtain ⟨c2, f2, k2⟩ := Lib.ownsRow_kind hO b e.symm
    rw [k1] at k2
    injection k2 with k2
    injection k2 with _ k2
    exact absurd k2 (by decide)
theorem oo_apart {b1 b2 : Nat} {w w' : World} {v lv : Value} {L : List (Int × Int)} {l : List Opr} (hO : OO b1 w v l) (hL : ON b2 w lv L) (hg : w.grownBy w' v.ownBlock) : ON b2 w' lv L := by
  refine World.ownsRow.kept hL hg ?_
  rcases hv : lv.ownBlock with _ | b
  · exact .inl rfl
  · refine .inr (fun e => ?_)
    obtain ⟨c1, f1, k1⟩ := Lib.ownsRow_kind hL b hv
    obtain ⟨c2, f2, k2⟩ := Lib.ownsRow_kind hO b e.symm
    rw [k1] at k2
    injection k2 with k2
    injection k2 with _ k2
    exact absurd k2 (by decide)
/-- The next step as a value. -/
def fv (bg : Bool) (rb : Nat) : Value := if bg = true then .func (.func 37) #[.pointer (some ⟨rb, 0, none⟩)] #[] else .func (.func 71) #[.pointer (some ⟨rb, 0, none⟩)] #[]
/-- The reader as it lies: in block rb, its rows behind it. -/
structure RdW (w : World) (rb : Nat) (NV : Value) (S : Rd) (vn vp : Value) : Prop where
  c : Rc w rb NV (fv S.bg rb) vn vp
  n : ON (rb + 1) w vn S.nd
  p : OO (rb + 1) w vp S.pd
theorem RdW.below {w w' : World} {rb : Nat} {NV : Value} {S : Rd} {vn vp : Value} (h : RdW w rb NV S vn vp) (k : Below w.heap.size w w') : RdW w' rb NV S vn vp := ⟨h.c.below k, OR.below h.n k, OR.below h.p k⟩
/-- Blocks of other kinds than these stay, the reader's own aside. -/
def Kp (ts : List TypeId) (rb : Nat) (w w' : World) : Prop := ∀ k, k < w.heap.size → k ≠ rb → (∀ c t f, w.heap[k]? = some (.cells c t f) → t ∉ ts) → w'.heap[k]? = w.heap[k]?
theorem Kp.trans {ts : List TypeId} {rb : Nat} {w w1 w2 : World} (h : Kp ts rb w w1) (h2 : Kp ts rb w1 w2) (hs : w.heap.size ≤ w1.heap.size) : Kp ts rb w w2 := fun k hk hr ht =>
  (h2 k (Nat.lt_of_lt_of_le hk hs) hr (fun c t f e => ht c t f ((h k hk hr ht).symm.trans e))).trans (h k hk hr ht)
theorem Kp.below {ts : List TypeId} {rb : Nat} {w w' : World} (h : Below w.heap.size w w') : Kp ts rb w w' := fun k hk _ _ => h.block k hk
theorem Kp.refl (ts : List TypeId) (rb : Nat) (w : World) : Kp ts rb w w := fun _ _ _ _ => rfl
theorem Kp.set {ts : List TypeId} {rb : Nat} {w w' : World} (h : Kp ts rb w w') (hs : w.heap.size ≤ w'.heap.size) (i : Nat) (v : Value) : Kp ts rb w (w'.setCell ⟨rb, i, none⟩ v) :=
  h.trans (fun k hk hr _ => (Lib.grownBy_setCell w' rb i v).block k hk (fun e => hr (by injection e))) hs
theorem Kp.grow {ts : List TypeId} {rb : Nat} {w X w' : World} {B : Nat} {e : TypeId} {size : Nat} {v : Value} {n : Nat} {xs : List Value} (hb : Below w.heap.size w X) (hg : X.grownBy w' v.ownBlock) (ho : w.ownsRow B e size v n xs) (he : e ∈ ts) : Kp ts rb w w' := fun k hk _ ht =>
  (hg.block k (Nat.lt_of_lt_of_le hk hb.size) (fun e2 => by
    obtain ⟨c, f, k1⟩ := Lib.ownsRow_kind ho k e2.symm
    exact ht _ _ _ k1 he)).trans (hb.block k hk)
theorem Kp.mono {ts ts' : List TypeId} {rb : Nat} {w w' : World} (h : Kp ts rb w w') (hs : ∀ t ∈ ts, t ∈ ts') : Kp ts' rb w w' := fun k hk hr ht => h k hk hr (fun c t f e hm => ht c t f e (hs t hm))
abbrev tsN : List TypeId := [39]
abbrev tsO : List TypeId := [39, 58]
/-- What a step leaves. -/
def StP (ts : List TypeId) (w : World) (rb : Nat) (NV : Value) (S : Rd) (w' : World) : Prop := (∃ vn vp, RdW w' rb NV S vn vp) ∧ Below rb w w' ∧ Kp ts rb w w'
def UnitP (ts : List TypeId) (w : World) (rb : Nat) (NV : Value) (S : Rd) (e : Ending) (w' : World) : Prop := e = .returned (.tuple #[]) ∧ StP ts w rb NV S w'
theorem StP.trans {ts ts' : List TypeId} {w w1 w2 : World} {rb : Nat} {NV : Value} {S : Rd} (hb : Below rb w w1) (hk : Kp ts rb w w1) (h : StP ts' w1 rb NV S w2) (hs : ∀ t ∈ ts', t ∈ ts) : StP ts w rb NV S w2 := ⟨h.1, hb.trans h.2.1, hk.trans (h.2.2.mono hs) hb.size⟩
/-- A function value is stored as anything else. -/
theorem store_func (W : World) (a : Addr) (f : Fn) (fs cs : Array Value) : (store a (.func f fs cs)).run Tryd.prog W = stored Tryd.prog W a (.func f fs cs) .plain := run_store Tryd.prog W a _ .plain rfl
theorem or_form {α : Type} [Inhabited α] {enc : α → List Value} {size base : Nat} {e : TypeId} {w : World} {v : Value} {l : List α} (hsz : ∀ x, (enc x).length = size) (h : OR enc size base e w v l) : ∃ A c q, v = .slice A q c := by
  obtain ⟨A, c, e, _⟩ := OR.rs hsz h
  exact ⟨A, c, _, e⟩
set_option maxRecDepth 20000 in
set_option maxHeartbeats 4000000 in
theorem leaf_any (rb : Nat) (NV : Value) (S : Rd) (vn vp : Value) (x y : Int) (w : World) (h : RdW w rb NV S vn vp) (hl : S.nd.length ≤ 100000) :
    Calls Tryd.prog 56 #[.pointer (some ⟨rb, 0, none⟩), .agg #[.int .i64 x, .int .i64 y]] w (UnitP tsN w rb NV (leafF (x, y) S)) := by
  have HL := Lib.hid hl
  obtain ⟨w1, HW1⟩ : ∃ w1, w1 = w.alloc (.cells #[.int .i64 x, .int .i64 y] 39) := ⟨_, rfl⟩
  have hb1 : Below w.heap.size w w1 := by rw [HW1]; exact below_one _ _
  have H1 := Lib.hid (h.below hb1)
  have HB1 : Hid (Below rb w w1) := Lib.hid (hb1.mono (Nat.le_of_lt h.c.lt))
  have HK1 : Hid (Kp tsN rb w w1) := Lib.hid (Kp.below hb1)
  have n0 : w1.cell? ⟨w.heap.size, 0, none⟩ = some (.int .i64 x) := by rw [HW1]; exact World.cell?_alloc_at _ _ _ _ rfl
  have n1 : w1.cell? ⟨w.heap.size, 1, none⟩ = some (.int .i64 y) := by rw [HW1]; exact World.cell?_alloc_at _ _ _ _ rfl
  obtain ⟨A, c, e, _⟩ := OR.rs encN_len h.n
  subst e
  obtain ⟨l, HLE⟩ : ∃ l, Hid (l = S.nd.length) := ⟨_, Lib.hid rfl⟩
  rw [← HLE.out] at H1
  clear h hl hb1
  go_enter Tryd.func56, Tryd.ntmps56
  go_upto_region 1 with (fail)
  rw [← HW1]
  clear HW1
  have HRS : Hid (rb + 1 ≤ w1.heap.size) := Lib.hid H1.out.c.lt
  have c2 := H1.out.c.c2
  have f2 := H1.out.c.f 2
  have c2a := ((below_one w1 (.cells #[.int .i64 x, .int .i64 y] 39)).cell (p := ⟨rb, 2, none⟩) H1.out.c.lt).trans c2
  refine wp_region_noPanic ?_
  go_region_law
    (first
      | (refine step_append_own encN_len encN_one Tryd.underlying22 infoN rfl (by decide) (by decide) (rb + 1) _ (by rfl) (.tmp 8) (.tmp 10) (by rfl) (by rfl) _ S.nd (by rfl) (OR.below H1.out.n (by first | exact (below_one _ _).drew | exact (below_one _ _) | exact (Below.refl _ _).drew.trans (below_one _ _))) (x, y) _ (by rfl) (by rfl) HL.out (by have := HRS.out; first | omega | (simp; omega)) _ (by first | exact World.alloc_heap_new _ _) ?_; intro v5 w5 ho5 hb5 hg5; obtain ⟨A5, c5, q5, rfl⟩ := or_form encN_len ho5; have HO5 := Lib.hid ho5; have HB5 : Hid (Below (rb + 1) w1 w5) := Lib.hid (by first | exact ((Below.refl _ _).alloc HRS.out _).drew.trans hb5 | exact ((Below.refl _ _).alloc HRS.out _).trans hb5 | exact ((Below.refl _ _).drew.alloc HRS.out _).trans hb5); have HC5 := Lib.hid (H1.out.c.lower HB5.out (Nat.lt_succ_self _)); have HP5 : Hid (OO (rb + 1) w5 vp S.pd) := Lib.hid (by first | exact on_apart (World.ownsRow.drew (World.ownsRow.alloc H1.out.n _)) (World.ownsRow.drew (World.ownsRow.alloc H1.out.p _)) hg5 | exact on_apart (World.ownsRow.alloc H1.out.n _) (World.ownsRow.alloc H1.out.p _) hg5 | exact on_apart (World.ownsRow.alloc (World.ownsRow.drew H1.out.n) _) (World.ownsRow.alloc (World.ownsRow.drew H1.out.p) _) hg5); have HK5 : Hid (Kp tsN rb w1 w5) := Lib.hid (Kp.grow (by first | exact (below_one _ _).drew | exact (below_one _ _) | exact (Below.refl _ _).drew.trans (below_one _ _)) hg5 H1.out.n (by decide)); have k2 := HC5.out.c2; have k3 := HC5.out.f 2; clear ho5 hb5 hg5)
      | fail)
  all_goals
    refine NoPanic.normal ?_
    obtain ⟨fw, HFW⟩ : ∃ f, Hid (fv S.bg rb = f) := ⟨_, Lib.hid rfl⟩
    have j1 := HC5.out.c1
    rw [HFW.out] at j1
    have g1 := HC5.out.f 1
    have hst := store_func
    go_wp2
    go_end0
    exact ⟨rfl, ⟨_, _, (HC5.out.set2 _).set1 _, ownsRow_setCell_below (ownsRow_setCell_below HO5.out (Nat.lt_succ_self _) _) (Nat.lt_succ_self _) _, ownsRow_setCell_below (ownsRow_setCell_below HP5.out (Nat.lt_succ_self _) _) (Nat.lt_succ_self _) _⟩, ((HB1.out.trans (HB5.out.mono (Nat.le_succ _))).setCell (Nat.le_refl _) _).setCell (Nat.le_refl _) _, ((HK1.out.trans HK5.out HB1.out.size).set (Nat.le_trans HB1.out.size HB5.out.size) _ _).set (by simp; exact Nat.le_trans HB1.out.size HB5.out.size) _ _⟩
end Go.Proofs.YtgnflnfajkoibaaDoor.tx
