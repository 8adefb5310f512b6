/- Contracts that the claim stands on, several texts in one: EtLook. -/
import Derived.Test.YtmnigdphikoljaaGreatDoorPut1
import Derived.Test.YtmnigdphikoljaaGreatDoorPut2
import Derived.Test.YtmnigdphikoljaaGreatDoorPut3
import Derived.Test.YtmnigdphikoljaaGreatDoorPut4
import Derived.Test.YtmnigdphikoljaaGreatDoorPut5
import Derived.Test.YtmnigdphikoljaaGreatDoorPut6
import Derived.Test.YtmnigdphikoljaaGreatDoorPut7
import Derived.Test.YtmnigdphikoljaaGreatDoorPut8
import Derived.Test.YtmnigdphikoljaaGreatDoorPut9
import Derived.Test.YtmnigdphikoljaaGreatDoorPut10
import Derived.Test.YtmnigdphikoljaaGreatDoorPut11
import Derived.Test.YtmnigdphikoljaaGreatDoorPut12
import Derived.Test.YtmnigdphikoljaaGreatDoorPut13
import Derived.Test.YtmnigdphikoljaaGreatDoorPut14
import Derived.Test.YtmnigdphikoljaaGreatDoorPut15
import Derived.Test.YtmnigdphikoljaaGreatDoorPut16
import Derived.Test.YtmnigdphikoljaaGreatDoorPut17
import Derived.Test.YtmnigdphikoljaaGreatDoorPut18
import Derived.Test.YtmnigdphikoljaaGreatDoorPut19
import Derived.Test.YtmnigdphikoljaaGreatDoorPut20
import Derived.Test.YtmnigdphikoljaaGreatDoorPut21
import Derived.Test.YtmnigdphikoljaaGreatDoorPut22
import Derived.Test.YtmnigdphikoljaaGreatDoorPut23
import Derived.Test.YtmnigdphikoljaaGreatDoorPut24
import Derived.Test.YtmnigdphikoljaaGreatDoorPut25
import Derived.Test.YtmnigdphikoljaaGreatDoorPut26
import Derived.Test.YtmnigdphikoljaaGreatDoorPut27
namespace Go.Proofs.YtmnigdphikoljaaGreatDoor.et
open Go.ChangeShapes Go.WideShapes Go.ChangeAt Go.RowKit Go.Deep

/-- A place, or -1. -/
def lookI (o : Option Nat) : Int := match o with
  | none => -1
  | some k => (k : Int)
set_option maxRecDepth 20000 in
set_option maxHeartbeats 2000000 in
theorem refLocal_any (X : ScX) (N : Nm) (s : ByteArray) (w : World) (h : NmR w X N) (hlen : N.locals.length ≤ 1000000) : Calls Tryz.prog 51 #[X.v, .string s] w fun e w' => e = .returned (.int .i64 (lookI (findF s 0 N.locals))) ∧ Below w.heap.size w w' := by
  have HB1 := Lib.hid (below_alloc1 w (.cells #[.slice X.a1 X.n1 X.c1, .slice X.a2 X.n2 X.c2, .slice X.a3 X.n3 X.c3, .slice X.a4 X.n4 X.c4, .slice X.a5 X.n5 X.c5, .int .i64 X.self] 28))
  have HBX : Hid (Bx (w.alloc (.cells #[.slice X.a1 X.n1 X.c1, .slice X.a2 X.n2 X.c2, .slice X.a3 X.n3 X.c3, .slice X.a4 X.n4 X.c4, .slice X.a5 X.n5 X.c5, .int .i64 X.self] 28)) w.heap.size X) := Lib.hid (Bx.new w X 28)
  have HM1 := Lib.hid (h.below HB1.out)
  obtain ⟨o, HO⟩ : ∃ o, Hid (findF s 0 N.locals = o) := ⟨_, Lib.hid rfl⟩
  rw [HO.out]
  obtain ⟨n, hn⟩ : ∃ n, X.n5 = n := ⟨_, rfl⟩
  have HN : Hid (N.locals.length = n) := Lib.hid (by rw [← hn]; exact h.l5.symm)
  have hn9 : n ≤ 1000000 := by rw [← HN.out]; exact hlen
  have HNE := Lib.hid hn
  clear h hlen hn
  unfold ScX.v
  go_enter Tryz.func51, Tryz.ntmps51
  go_upto_region 1 with (fail)
  generalize hgn : w.heap.size = g at *
  generalize w.alloc (.cells #[.slice X.a1 X.n1 X.c1, .slice X.a2 X.n2 X.c2, .slice X.a3 X.n3 X.c3, .slice X.a4 X.n4 X.c4, .slice X.a5 X.n5 X.c5, .int .i64 X.self] 28) = w1 at *
  go_wp2_with fail
  go_loopw [5] (fun i wr => ∃ k : Nat, k ≤ n ∧ i = .int .i64 (k : Nat) ∧ Hid (Below w1.heap.size w1 wr) ∧ Hid (findF s k (N.locals.drop k) = o)) (fun i _ => n - (intOf i).toNat)
  case atStart => exact ⟨0, Nat.zero_le _, rfl, Lib.hid (Below.refl _ _), Lib.hid (by rw [List.drop_zero]; exact HO.out)⟩
  case round =>
    obtain ⟨k, hk, rfl, HB, HF⟩ := hrel
    obtain ⟨⟨s0, s1, s2, s3, s4, s5⟩, _⟩ := (HBX.out.below HB.out)
    have hns : X.n5 = n := HNE.out
    have HB9 : Hid (Below g w wr) := Lib.hid (HB1.out.trans (HB.out.mono (by have := HB1.out.size; omega)))
    by_cases hlt : k < n
    · have hi9 : (k : Int) < (n : Int) := by omega
      have hi0 : (0 : Int) ≤ (k : Int) := by omega
      have hF := find_at (by rw [HN.out]; exact hlt) o HF.out
      obtain ⟨b, off, ha, hb, hc⟩ := (HM1.out.below HB.out).r5 (by rw [HN.out]; omega)
      have d0 := hc k (by rw [HN.out]; exact hlt)
      rw [ha, hns] at s4
      obtain ⟨x, hx⟩ : ∃ x, N.locals.getD k default = x := ⟨_, rfl⟩
      rw [hx] at hF d0
      clear hc hb ha hx hns
      cases hxs : x.toList == s.toList <;> rw [hxs] at hF <;> simp only [if_true, Bool.false_eq_true, if_false] at hF
      · have HF2 := Lib.hid hF
        clear hF
        go_wp2
        go_roundw
        case rel => exact ⟨k + 1, by omega, by go_num, HB, HF2⟩
        case measure => simp [intOf]; omega
      · have HF2 := Lib.hid hF
        clear hF
        go_wp2
        refine bodyPost_ret (v := .int .i64 (k : Nat)) (by simp [results, Tryz.results51, go_sem]) rfl ⟨?_, ?_⟩
        · rw [HF2.out]; rfl
        · first | exact HB9.out | (rw [hgn]; exact HB9.out)
    · obtain rfl : k = n := by omega
      have hdb : ¬ (k : Int) < (k : Int) := by omega
      have HF2 : Hid (o = none) := Lib.hid (by rw [← HF.out, ← HN.out, List.drop_length]; rfl)
      rw [hns] at s4
      go_wp2
      refine bodyPost_ret (v := .int .i64 (-1)) (by simp [results, Tryz.results51, go_sem]) rfl ⟨?_, ?_⟩
      · rw [HF2.out]; rfl
      · first | exact HB9.out | (rw [hgn]; exact HB9.out)
set_option maxRecDepth 20000 in
set_option maxHeartbeats 2000000 in
theorem refChan_any (X : ScX) (N : Nm) (s : ByteArray) (w : World) (h : NmR w X N) (hlen : N.chans.length ≤ 1000000) : Calls Tryz.prog 52 #[X.v, .string s] w fun e w' => e = .returned (.int .i64 (lookI (findF s 0 N.chans))) ∧ Below w.heap.size w w' := by
  have HB1 := Lib.hid (below_alloc1 w (.cells #[.slice X.a1 X.n1 X.c1, .slice X.a2 X.n2 X.c2, .slice X.a3 X.n3 X.c3, .slice X.a4 X.n4 X.c4, .slice X.a5 X.n5 X.c5, .int .i64 X.self] 28))
  have HBX : Hid (Bx (w.alloc (.cells #[.slice X.a1 X.n1 X.c1, .slice X.a2 X.n2 X.c2, .slice X.a3 X.n3 X.c3, .slice X.a4 X.n4 X.c4, .slice X.a5 X.n5 X.c5, .int .i64 X.self] 28)) w.heap.size X) := Lib.hid (Bx.new w X 28)
  have HM1 := Lib.hid (h.below HB1.out)
  obtain ⟨o, HO⟩ : ∃ o, Hid (findF s 0 N.chans = o) := ⟨_, Lib.hid rfl⟩
  rw [HO.out]
  obtain ⟨n, hn⟩ : ∃ n, X.n3 = n := ⟨_, rfl⟩
  have HN : Hid (N.chans.length = n) := Lib.hid (by rw [← hn]; exact h.l3.symm)
  have hn9 : n ≤ 1000000 := by rw [← HN.out]; exact hlen
  have HNE := Lib.hid hn
  clear h hlen hn
  unfold ScX.v
  go_enter Tryz.func52, Tryz.ntmps52
  go_upto_region 1 with (fail)
  generalize hgn : w.heap.size = g at *
  generalize w.alloc (.cells #[.slice X.a1 X.n1 X.c1, .slice X.a2 X.n2 X.c2, .slice X.a3 X.n3 X.c3, .slice X.a4 X.n4 X.c4, .slice X.a5 X.n5 X.c5, .int .i64 X.self] 28) = w1 at *
  go_wp2_with fail
  go_loopw [5] (fun i wr => ∃ k : Nat, k ≤ n ∧ i = .int .i64 (k : Nat) ∧ Hid (Below w1.heap.size w1 wr) ∧ Hid (findF s k (N.chans.drop k) = o)) (fun i _ => n - (intOf i).toNat)
  case atStart => exact ⟨0, Nat.zero_le _, rfl, Lib.hid (Below.refl _ _), Lib.hid (by rw [List.drop_zero]; exact HO.out)⟩
  case round =>
    obtain ⟨k, hk, rfl, HB, HF⟩ := hrel
    obtain ⟨⟨s0, s1, s2, s3, s4, s5⟩, _⟩ := (HBX.out.below HB.out)
    have hns : X.n3 = n := HNE.out
    have HB9 : Hid (Below g w wr) := Lib.hid (HB1.out.trans (HB.out.mono (by have := HB1.out.size; omega)))
    by_cases hlt : k < n
    · have hi9 : (k : Int) < (n : Int) := by omega
      have hi0 : (0 : Int) ≤ (k : Int) := by omega
      have hF := find_at (by rw [HN.out]; exact hlt) o HF.out
      obtain ⟨b, off, ha, hb, hc⟩ := (HM1.out.below HB.out).r3 (by rw [HN.out]; omega)
      have d0 := hc k (by rw [HN.out]; exact hlt)
      rw [ha, hns] at s2
      obtain ⟨x, hx⟩ : ∃ x, N.chans.getD k default = x := ⟨_, rfl⟩
      rw [hx] at hF d0
      clear hc hb ha hx hns
      cases hxs : x.toList == s.toList <;> rw [hxs] at hF <;> simp only [if_true, Bool.false_eq_true, if_false] at hF
      · have HF2 := Lib.hid hF
        clear hF
        go_wp2
        go_roundw
        case rel => exact ⟨k + 1, by omega, by go_num, HB, HF2⟩
        case measure => simp [intOf]; omega
      · have HF2 := Lib.hid hF
        clear hF
        go_wp2
        refine bodyPost_ret (v := .int .i64 (k : Nat)) (by simp [results, Tryz.results52, go_sem]) rfl ⟨?_, ?_⟩
        · rw [HF2.out]; rfl
        · first | exact HB9.out | (rw [hgn]; exact HB9.out)
    · obtain rfl : k = n := by omega
      have hdb : ¬ (k : Int) < (k : Int) := by omega
      have HF2 : Hid (o = none) := Lib.hid (by rw [← HF.out, ← HN.out, List.drop_length]; rfl)
      rw [hns] at s2
      go_wp2
      refine bodyPost_ret (v := .int .i64 (-1)) (by simp [results, Tryz.results52, go_sem]) rfl ⟨?_, ?_⟩
      · rw [HF2.out]; rfl
      · first | exact HB9.out | (rw [hgn]; exact HB9.out)
set_option maxRecDepth 20000 in
set_option maxHeartbeats 2000000 in
theorem refProc_any (X : ScX) (N : Nm) (s : ByteArray) (w : World) (h : NmR w X N) (hlen : N.procs.length ≤ 1000000) : Calls Tryz.prog 53 #[X.v, .string s] w fun e w' => e = .returned (.int .i64 (lookI (findF s 0 N.procs))) ∧ Below w.heap.size w w' := by
  have HB1 := Lib.hid (below_alloc1 w (.cells #[.slice X.a1 X.n1 X.c1, .slice X.a2 X.n2 X.c2, .slice X.a3 X.n3 X.c3, .slice X.a4 X.n4 X.c4, .slice X.a5 X.n5 X.c5, .int .i64 X.self] 28))
  have HBX : Hid (Bx (w.alloc (.cells #[.slice X.a1 X.n1 X.c1, .slice X.a2 X.n2 X.c2, .slice X.a3 X.n3 X.c3, .slice X.a4 X.n4 X.c4, .slice X.a5 X.n5 X.c5, .int .i64 X.self] 28)) w.heap.size X) := Lib.hid (Bx.new w X 28)
  have HM1 := Lib.hid (h.below HB1.out)
  obtain ⟨o, HO⟩ : ∃ o, Hid (findF s 0 N.procs = o) := ⟨_, Lib.hid rfl⟩
  rw [HO.out]
  obtain ⟨n, hn⟩ : ∃ n, X.n4 = n := ⟨_, rfl⟩
  have HN : Hid (N.procs.length = n) := Lib.hid (by rw [← hn]; exact h.l4.symm)
  have hn9 : n ≤ 1000000 := by rw [← HN.out]; exact hlen
  have HNE := Lib.hid hn
  clear h hlen hn
  unfold ScX.v
  go_enter Tryz.func53, Tryz.ntmps53
  go_upto_region 1 with (fail)
  generalize hgn : w.heap.size = g at *
  generalize w.alloc (.cells #[.slice X.a1 X.n1 X.c1, .slice X.a2 X.n2 X.c2, .slice X.a3 X.n3 X.c3, .slice X.a4 X.n4 X.c4, .slice X.a5 X.n5 X.c5, .int .i64 X.self] 28) = w1 at *
  go_wp2_with fail
  go_loopw [5] (fun i wr => ∃ k : Nat, k ≤ n ∧ i = .int .i64 (k : Nat) ∧ Hid (Below w1.heap.size w1 wr) ∧ Hid (findF s k (N.procs.drop k) = o)) (fun i _ => n - (intOf i).toNat)
  case atStart => exact ⟨0, Nat.zero_le _, rfl, Lib.hid (Below.refl _ _), Lib.hid (by rw [List.drop_zero]; exact HO.out)⟩
  case round =>
    obtain ⟨k, hk, rfl, HB, HF⟩ := hrel
    obtain ⟨⟨s0, s1, s2, s3, s4, s5⟩, _⟩ := (HBX.out.below HB.out)
    have hns : X.n4 = n := HNE.out
    have HB9 : Hid (Below g w wr) := Lib.hid (HB1.out.trans (HB.out.mono (by have := HB1.out.size; omega)))
    by_cases hlt : k < n
    · have hi9 : (k : Int) < (n : Int) := by omega
      have hi0 : (0 : Int) ≤ (k : Int) := by omega
      have hF := find_at (by rw [HN.out]; exact hlt) o HF.out
      obtain ⟨b, off, ha, hb, hc⟩ := (HM1.out.below HB.out).r4 (by rw [HN.out]; omega)
      have d0 := hc k (by rw [HN.out]; exact hlt)
      rw [ha, hns] at s3
      obtain ⟨x, hx⟩ : ∃ x, N.procs.getD k default = x := ⟨_, rfl⟩
      rw [hx] at hF d0
      clear hc hb ha hx hns
      cases hxs : x.toList == s.toList <;> rw [hxs] at hF <;> simp only [if_true, Bool.false_eq_true, if_false] at hF
      · have HF2 := Lib.hid hF
        clear hF
        go_wp2
        go_roundw
        case rel => exact ⟨k + 1, by omega, by go_num, HB, HF2⟩
        case measure => simp [intOf]; omega
      · have HF2 := Lib.hid hF
        clear hF
        go_wp2
        refine bodyPost_ret (v := .int .i64 (k : Nat)) (by simp [results, Tryz.results53, go_sem]) rfl ⟨?_, ?_⟩
        · rw [HF2.out]; rfl
        · first | exact HB9.out | (rw [hgn]; exact HB9.out)
    · obtain rfl : k = n := by omega
      have hdb : ¬ (k : Int) < (k : Int) := by omega
      have HF2 : Hid (o = none) := Lib.hid (by rw [← HF.out, ← HN.out, List.drop_length]; rfl)
      rw [hns] at s3
      go_wp2
      refine bodyPost_ret (v := .int .i64 (-1)) (by simp [results, Tryz.results53, go_sem]) rfl ⟨?_, ?_⟩
      · rw [HF2.out]; rfl
      · first | exact HB9.out | (rw [hgn]; exact HB9.out)
set_option maxRecDepth 20000 in
set_option maxHeartbeats 2000000 in
theorem refScalar_any (X : ScX) (N : Nm) (s : ByteArray) (w : World) (h : NmR w X N) (hlen : N.scals.length ≤ 1000000) : Calls Tryz.prog 54 #[X.v, .string s] w fun e w' => e = .returned (.int .i64 (lookI (findF s 0 N.scals))) ∧ Below w.heap.size w w' := by
  have HB1 := Lib.hid (below_alloc1 w (.cells #[.slice X.a1 X.n1 X.c1, .slice X.a2 X.n2 X.c2, .slice X.a3 X.n3 X.c3, .slice X.a4 X.n4 X.c4, .slice X.a5 X.n5 X.c5, .int .i64 X.self] 28))
  have HBX : Hid (Bx (w.alloc (.cells #[.slice X.a1 X.n1 X.c1, .slice X.a2 X.n2 X.c2, .slice X.a3 X.n3 X.c3, .slice X.a4 X.n4 X.c4, .slice X.a5 X.n5 X.c5, .int .i64 X.self] 28)) w.heap.size X) := Lib.hid (Bx.new w X 28)
  have HM1 := Lib.hid (h.below HB1.out)
  obtain ⟨o, HO⟩ : ∃ o, Hid (findF s 0 N.scals = o) := ⟨_, Lib.hid rfl⟩
  rw [HO.out]
  obtain ⟨n, hn⟩ : ∃ n, X.n1 = n := ⟨_, rfl⟩
  have HN : Hid (N.scals.length = n) := Lib.hid (by rw [← hn]; exact h.l1.symm)
  have hn9 : n ≤ 1000000 := by rw [← HN.out]; exact hlen
  have HNE := Lib.hid hn
  clear h hlen hn
  unfold ScX.v
  go_enter Tryz.func54, Tryz.ntmps54
  go_upto_region 1 with (fail)
  generalize hgn : w.heap.size = g at *
  generalize w.alloc (.cells #[.slice X.a1 X.n1 X.c1, .slice X.a2 X.n2 X.c2, .slice X.a3 X.n3 X.c3, .slice X.a4 X.n4 X.c4, .slice X.a5 X.n5 X.c5, .int .i64 X.self] 28) = w1 at *
  go_wp2_with fail
  go_loopw [5] (fun i wr => ∃ k : Nat, k ≤ n ∧ i = .int .i64 (k : Nat) ∧ Hid (Below w1.heap.size w1 wr) ∧ Hid (findF s k (N.scals.drop k) = o)) (fun i _ => n - (intOf i).toNat)
  case atStart => exact ⟨0, Nat.zero_le _, rfl, Lib.hid (Below.refl _ _), Lib.hid (by rw [List.drop_zero]; exact HO.out)⟩
  case round =>
    obtain ⟨k, hk, rfl, HB, HF⟩ := hrel
    obtain ⟨⟨s0, s1, s2, s3, s4, s5⟩, _⟩ := (HBX.out.below HB.out)
    have hns : X.n1 = n := HNE.out
    have HB9 : Hid (Below g w wr) := Lib.hid (HB1.out.trans (HB.out.mono (by have := HB1.out.size; omega)))
    by_cases hlt : k < n
    · have hi9 : (k : Int) < (n : Int) := by omega
      have hi0 : (0 : Int) ≤ (k : Int) := by omega
      have hF := find_at (by rw [HN.out]; exact hlt) o HF.out
      obtain ⟨b, off, ha, hb, hc⟩ := (HM1.out.below HB.out).r1 (by rw [HN.out]; omega)
      have d0 := hc k (by rw [HN.out]; exact hlt)
      rw [ha, hns] at s0
      obtain ⟨x, hx⟩ : ∃ x, N.scals.getD k default = x := ⟨_, rfl⟩
      rw [hx] at hF d0
      clear hc hb ha hx hns
      cases hxs : x.toList == s.toList <;> rw [hxs] at hF <;> simp only [if_true, Bool.false_eq_true, if_false] at hF
      · have HF2 := Lib.hid hF
        clear hF
        go_wp2
        go_roundw
        case rel => exact ⟨k + 1, by omega, by go_num, HB, HF2⟩
        case measure => simp [intOf]; omega
      · have HF2 := Lib.hid hF
        clear hF
        go_wp2
        refine bodyPost_ret (v := .int .i64 (k : Nat)) (by simp [results, Tryz.results54, go_sem]) rfl ⟨?_, ?_⟩
        · rw [HF2.out]; rfl
        · first | exact HB9.out | (rw [hgn]; exact HB9.out)
    · obtain rfl : k = n := by omega
      have hdb : ¬ (k : Int) < (k : Int) := by omega
      have HF2 : Hid (o = none) := Lib.hid (by rw [← HF.out, ← HN.out, List.drop_length]; rfl)
      rw [hns] at s0
      go_wp2
      refine bodyPost_ret (v := .int .i64 (-1)) (by simp [results, Tryz.results54, go_sem]) rfl ⟨?_, ?_⟩
      · rw [HF2.out]; rfl
      · first | exact HB9.out | (rw [hgn]; exact HB9.out)
/-- Which variable a name stands for: none, where it stands for a local. -/
def lookV (N : Nm) (s : ByteArray) : Int := if (findF s 0 N.locals).isSome then -1 else lookI (findF s 0 N.vars)
set_option maxRecDepth 20000 in
set_option maxHeartbeats 2000000 in
theorem refVar_any (X : ScX) (N : Nm) (s : ByteArray) (w : World) (h : NmR w X N) (hlen : N.vars.length ≤ 1000000) (hlen2 : N.locals.length ≤ 1000000) : Calls Tryz.prog 50 #[X.v, .string s] w fun e w' => e = .returned (.int .i64 (lookV N s)) ∧ Below w.heap.size w w' := by
  have HB1 := Lib.hid (below_alloc1 w (.cells #[.slice X.a1 X.n1 X.c1, .slice X.a2 X.n2 X.c2, .slice X.a3 X.n3 X.c3, .slice X.a4 X.n4 X.c4, .slice X.a5 X.n5 X.c5, .int .i64 X.self] 28))
  have HBX : Hid (Bx (w.alloc (.cells #[.slice X.a1 X.n1 X.c1, .slice X.a2 X.n2 X.c2, .slice X.a3 X.n3 X.c3, .slice X.a4 X.n4 X.c4, .slice X.a5 X.n5 X.c5, .int .i64 X.self] 28)) w.heap.size X) := Lib.hid (Bx.new w X 28)
  have HM1 := Lib.hid (h.below HB1.out)
  obtain ⟨q, HQ⟩ : ∃ q, Hid (lookI (findF s 0 N.locals) = q) := ⟨_, Lib.hid rfl⟩
  obtain ⟨o, HO⟩ : ∃ o, Hid (findF s 0 N.vars = o) := ⟨_, Lib.hid rfl⟩
  obtain ⟨res, hres⟩ : ∃ r, lookV N s = r := ⟨_, rfl⟩
  have HV : Hid (res = if q < 0 then lookI o else -1) := Lib.hid (by
    rw [← hres]
    unfold lookV
    rw [HO.out, ← HQ.out]
    cases findF s 0 N.locals with
    | none => rfl
    | some k => rw [if_neg (show ¬ lookI (some k) < 0 by show ¬ (k : Int) < 0; omega)]; rfl)
  rw [hres]
  clear hres
  obtain ⟨n, hn⟩ : ∃ n, X.n2 = n := ⟨_, rfl⟩
  have HN : Hid (N.vars.length = n) := Lib.hid (by rw [← hn]; exact h.l2.symm)
  have hn9 : n ≤ 1000000 := by rw [← HN.out]; exact hlen
  have HNE := Lib.hid hn
  have HL2 := Lib.hid hlen2
  clear h hlen hn hlen2
  unfold ScX.v
  go_enter Tryz.func50, Tryz.ntmps50
  go_upto_region 1 with (fail)
  generalize hgn : w.heap.size = g at *
  generalize w.alloc (.cells #[.slice X.a1 X.n1 X.c1, .slice X.a2 X.n2 X.c2, .slice X.a3 X.n3 X.c3, .slice X.a4 X.n4 X.c4, .slice X.a5 X.n5 X.c5, .int .i64 X.self] 28) = w1 at *
  go_wp2_with fail
  go_loopw [5] (fun i wr => ∃ k : Nat, k ≤ n ∧ i = .int .i64 (k : Nat) ∧ Hid (Below w1.heap.size w1 wr) ∧ Hid (findF s k (N.vars.drop k) = o)) (fun i _ => n - (intOf i).toNat)
  case atStart => exact ⟨0, Nat.zero_le _, rfl, Lib.hid (Below.refl _ _), Lib.hid (by rw [List.drop_zero]; exact HO.out)⟩
  case round =>
    obtain ⟨k, hk, rfl, HB, HF⟩ := hrel
    obtain ⟨⟨s0, s1, s2, s3, s4, s5⟩, _⟩ := (HBX.out.below HB.out)
    have hns : X.n2 = n := HNE.out
    have HB9 : Hid (Below g w wr) := Lib.hid (HB1.out.trans (HB.out.mono (by have := HB1.out.size; omega)))
    by_cases hlt : k < n
    · have hi9 : (k : Int) < (n : Int) := by omega
      have hi0 : (0 : Int) ≤ (k : Int) := by omega
      have HLC := refLocal_any X N s wr (HM1.out.below HB.out) HL2.out
      rw [HQ.out] at HLC
      unfold ScX.v at HLC
      have HLC := Lib.hid HLC
      have hi7 : (k : Int) < (X.n2 : Int) := by rw [hns]; exact hi9
      clear hns
      go_wp2_with fail
      refine HLC.out.mono ?_
      rintro e w2 ⟨rfl, hb2⟩
      have HB2 := Lib.hid (HB.out.trans (hb2.mono HB.out.size))
      have HBg : Hid (Below g w w2) := Lib.hid (HB9.out.trans (hb2.mono (by have := HB9.out.size; omega)))
      clear hb2 HLC s0 s1 s2 s3 s4 s5
      by_cases hq : q < 0
      · have HV2 : Hid ((if q < 0 then lookI o else -1) = lookI o) := Lib.hid (if_pos hq)
        obtain ⟨⟨s0, s1, s2, s3, s4, s5⟩, _⟩ := (HBX.out.below HB2.out)
        have hns : X.n2 = n := HNE.out
        have hF := find_at (by rw [HN.out]; exact hlt) o HF.out
        obtain ⟨b, off, ha, hb, hc⟩ := (HM1.out.below HB2.out).r2 (by rw [HN.out]; omega)
        have d0 := hc k (by rw [HN.out]; exact hlt)
        rw [ha, hns] at s1
        obtain ⟨x, hx⟩ : ∃ x, N.vars.getD k default = x := ⟨_, rfl⟩
        rw [hx] at hF d0
        clear hc hb ha hx hns
        cases hxs : x.toList == s.toList <;> rw [hxs] at hF <;> simp only [if_true, Bool.false_eq_true, if_false] at hF
        · have HF2 := Lib.hid hF
          clear hF
          go_wp2
          go_roundw
          case rel => exact ⟨k + 1, by omega, by go_num, HB2, HF2⟩
          case measure => simp [intOf]; omega
        · have HF2 := Lib.hid hF
          clear hF
          go_wp2
          refine bodyPost_ret (v := .int .i64 (k : Nat)) (by simp [results, Tryz.results50, go_sem]) rfl ⟨?_, ?_⟩
          · rw [HV.out, HV2.out, HF2.out]; rfl
          · first | exact HBg.out | (rw [hgn]; exact HBg.out)
      · have HV2 : Hid ((if q < 0 then lookI o else -1) = -1) := Lib.hid (if_neg hq)
        go_wp2
        refine bodyPost_ret (v := .int .i64 (-1)) (by simp [results, Tryz.results50, go_sem]) rfl ⟨by rw [HV.out, HV2.out], ?_⟩
        first | exact HBg.out | (rw [hgn]; exact HBg.out)
    · obtain rfl : k = n := by omega
      have hdb : ¬ (k : Int) < (k : Int) := by omega
      have HF2 : Hid (o = none) := Lib.hid (by rw [← HF.out, ← HN.out, List.drop_length]; rfl)
      have HV2 : Hid ((if q < 0 then lookI o else -1) = -1) := Lib.hid (by rw [HF2.out]; split <;> rfl)
      rw [hns] at s1
      go_wp2
      refine bodyPost_ret (v := .int .i64 (-1)) (by simp [results, Tryz.results50, go_sem]) rfl ⟨by rw [HV.out, HV2.out], ?_⟩
      first | exact HB9.out | (rw [hgn]; exact HB9.out)
end Go.Proofs.YtmnigdphikoljaaGreatDoor.et
