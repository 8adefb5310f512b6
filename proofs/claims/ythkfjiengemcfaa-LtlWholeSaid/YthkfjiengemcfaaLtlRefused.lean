/- The program's refused and Check: a formula worked off with a stack of nothing. -/
import Derived.Test.YthkfjiengemcfaaLtlNone
import Derived.Test.YthkfjiengemcfaaLtlWrong
import Derived.Shelf.Abstract
namespace Go.Proofs.Ythkfjiengemcfaa.lt.wn
open Go.ChangeShapes Go.WideShapes Go.ChangeAt Go.RowKit

set_option maxHeartbeats 1000000 in
theorem made_any (k : Nat) (v : Value) (w : World) : Calls Try.prog 39 #[.int .i64 k, v] w fun e w' => e = .returned (.agg #[]) ∧ Below w.heap.size w w' := by
  go_enter Try.func39, Try.ntmps39
  go_wp2
  exact bodyPost_ret (v := .agg #[]) (by simp [results, Try.results39, go_sem]) rfl ⟨rfl, (Below.refl _ _).alloc (Nat.le_refl _) _⟩

set_option maxRecDepth 20000 in
theorem tail_run (B : Option Addr) (left t d : Nat) : ∃ B2, ∀ W, (Instr.sliceAt 58 (.slice B (left + t) d) (some (.int .i64 (left : Int))) none none).run Try.prog W = .ok (.slice B2 t (d - left)) W := by
  refine ⟨if d = left then B else B.map (·.add 0), fun W => ?_⟩
  have hsz : (sizeOf (Try.prog.elem 58)).run Try.prog W = .ok 0 W := by simp [go_sem]
  rw [run_sliceAt_slice (P := Try.prog) W 58 _ _ _ _ Try.underlying58, run_slice_l (P := Try.prog) W 58 B (left + t) d Try.underlying58 .i64 left (by omega) (by omega), hsz]
  simp [Result.andThen, sliced]
set_option maxRecDepth 20000 in
theorem head_run (B : Option Addr) (left t d : Nat) (h : left + t ≤ d) (W : World) : (Instr.sliceAt 58 (.slice B (left + t) d) none (some (.int .i64 (left : Int))) none).run Try.prog W = .ok (.slice B left d) W := by
  have hsz : (sizeOf (Try.prog.elem 58)).run Try.prog W = .ok 0 W := by simp [go_sem]
  rw [run_sliceAt_slice (P := Try.prog) W 58 _ _ _ _ Try.underlying58, run_slice_h (P := Try.prog) W 58 B (left + t) d Try.underlying58 .i64 left (by omega) (by omega), hsz]
  cases B <;> simp [Result.andThen, sliced, Addr.add]

set_option maxRecDepth 20000 in
set_option maxHeartbeats 4000000 in
theorem work_any (e : List (Int × Int)) (A : Option Addr) (c m : Nat) (w : World) (hm : m = e.length) (hA : PA w A e) (hlm : m ≤ 1000) :
    Calls Try.prog 38 #[.slice A m c, .func (.func 39) #[] #[]] w fun x w' => x = .returned (.tuple #[.agg #[], .int .i64 (wrF 0 e)]) ∧ Below w.heap.size w w' := by
  have HM := Lib.hid hm
  have HA := Lib.hid hA
  have eg := enters_of Try.func39 (by kernel_rfl) rfl
  clear hm hA
  obtain ⟨z, HZ⟩ : ∃ z, Hid (wrF 0 e = z) := ⟨_, Lib.hid rfl⟩
  rw [HZ.out]
  go_enter Try.func38, Try.ntmps38
  go_wp2
  go_loopw [7, 14] (fun s i wr => ∃ (k n : Nat) (B : Option Addr) (d : Nat), k ≤ m ∧ i = .int .i64 k ∧ s = .slice B n d ∧ n ≤ k ∧ Hid (n ≤ d ∧ (B = none → d = 0)) ∧ Hid (Below w.heap.size w wr) ∧ Hid (z = wrF n (e.drop k))) (fun _ i _ => m - (intOf i).toNat)
  case atStart => exact ⟨0, 0, none, 0, Nat.zero_le _, rfl, rfl, Nat.le_refl _, Lib.hid ⟨Nat.le_refl _, fun _ => rfl⟩, Lib.hid (((Below.refl _ _).alloc (Nat.le_refl _) _).alloc (by simp) _), Lib.hid HZ.out.symm⟩
  case round =>
    obtain ⟨k, n, B, d, hk, rfl, rfl, hn, HC, HW, HR⟩ := hrel
    by_cases hlt : k < m
    · obtain ⟨b, o, rfl, hb, hc⟩ := (HA.out.below HW.out) (by rw [← HM.out]; omega)
      obtain ⟨c1, c2⟩ := hc k (by rw [← HM.out]; exact hlt)
      have HK : Hid (k < e.length) := Lib.hid (by rw [← HM.out]; exact hlt)
      obtain ⟨op, q, HND⟩ : ∃ op q, Hid (e.getD k (0, 0) = (op, q)) := ⟨_, _, Lib.hid rfl⟩
      rw [HND.out] at c1 c2
      clear hc
      go_wp2_with fail
      refine (left_any op q n _ (by omega)).mono ?_
      rintro x w1 ⟨rfl, hb1⟩
      have HB1W : Hid (Below wr.heap.size wr w1) := Lib.hid (((Below.refl _ _).alloc (Nat.le_refl _) _).trans (hb1.mono (by simp)))
      clear hb1 c1 c2
      by_cases hw : ndW n (op, q) = 0
      · obtain ⟨h1, h2, _⟩ := ndW_ok hw
        obtain ⟨t, HT⟩ : ∃ t : Nat, Hid (kT op = t) := ⟨(kT op).toNat, Lib.hid (by simp at h1; omega)⟩
        have htn : t ≤ n := by have := HT.out; simp at h2; omega
        obtain ⟨left, rfl⟩ : ∃ left, n = left + t := ⟨n - t, by omega⟩
        have HLV : Hid (leftV (left + t) (op, q) = (left : Int)) := Lib.hid (by unfold leftV; rw [if_pos hw]; show ((left + t : Nat) : Int) - kT op = _; rw [HT.out]; omega)
        have HW0 := Lib.hid hw
        rw [HLV.out, HW0.out]
        have EH := head_run B left t d HC.out.1
        obtain ⟨B2, ET⟩ := tail_run B left t d
        have HE : Hid (z = wrF (left + 1) (e.drop (k + 1))) := Lib.hid (by
          rw [HR.out, wr_next HK.out (by rw [HND.out]; exact HW0.out), HND.out]
          show wrF (left + t - (kT op).toNat + 1) _ = _
          rw [HT.out]
          congr 1
          simp)
        have HBW : Hid (Below w.heap.size w w1) := Lib.hid (HW.out.trans (HB1W.out.mono HW.out.size))
        have HLD : Hid (left ≤ d) := Lib.hid (by have := HC.out.1; omega)
        have HCALL : Hid (∀ W, Calls Try.prog 39 (#[.int .i64 k, .slice B2 t (d - left)] ++ #[]) W (fun e w' => e = .returned (.agg #[]) ∧ Below W.heap.size W w')) := Lib.hid (fun W => made_any k _ W)
        clear h1 h2 hw
        go_wp2_with fail
        go_region_held3 (fun _ => True) (trivial)
          (first
            | (refine (HCALL.out _).mono ?_; rintro x w3 ⟨rfl, hb3⟩; have HB3 : Hid (Below w.heap.size w w3) := Lib.hid (by first | exact HBW.out.drew.trans (hb3.mono HBW.out.size) | exact HBW.out.trans (hb3.mono HBW.out.size)); clear hb3)
            | (refine step_append (by rfl) (.tmp 32) (.tmp 39) (by rfl) (by rfl) B _ left d _ (by rfl) (by rfl) HLD.out HC.out.2 (by omega) ?_; intro A4 c4 w4 hc4 hb4; have HC4 := Lib.hid hc4; have HB4 : Hid (Below w.heap.size w w4) := Lib.hid ((HB3.out.alloc HB3.out.size _).trans (hb4.mono (by have := HB3.out.size; simp; omega))); clear hc4 hb4)
            | fail)
        clear EH ET
        go_wp2
        go_roundw
        case rel => exact ⟨k + 1, left + 1, some A4, c4, by omega, by go_num, rfl, by omega, Lib.hid ⟨HC4.out, fun h => by cases h⟩, HB4, HE⟩
        case measure => simp [intOf]; omega
      · obtain ⟨y, HY⟩ : ∃ y, Hid (ndW n (op, q) = y) := ⟨_, Lib.hid rfl⟩
        have HE : Hid (z = y) := Lib.hid (by rw [HR.out, wr_stop HK.out (by rw [HND.out]; exact hw), HND.out, HY.out])
        have HLV : Hid (leftV n (op, q) = 0) := Lib.hid (by unfold leftV; rw [if_neg hw])
        rw [HLV.out, HY.out]
        rw [HY.out] at hw
        have hz : (y != 0) = true := by simpa using hw
        go_wp2
        exact bodyPost_ret (v := .tuple #[.agg #[], .int .i64 y]) (by simp [results, Try.results38, go_sem]) rfl ⟨by rw [HE.out], HW.out.trans (HB1W.out.mono HW.out.size)⟩
    · obtain rfl : k = m := by omega
      have HE : Hid (z = if n = 0 then 4 else if 1 < n then 5 else 0) := Lib.hid (by rw [HR.out, wr_end (by rw [HM.out]; exact Nat.le_refl _)])
      by_cases n0 : n = 0
      · subst n0
        have HE2 : Hid (z = 4) := Lib.hid (HE.out.trans (if_pos rfl))
        clear HE
        go_wp2
        exact bodyPost_ret (v := .tuple #[.agg #[], .int .i64 4]) (by simp [results, Try.results38, go_sem]) rfl ⟨by rw [HE2.out], HW.out⟩
      · by_cases n1 : 1 < n
        · have HE2 : Hid (z = 5) := Lib.hid (HE.out.trans ((if_neg n0).trans (if_pos n1)))
          clear HE
          go_wp2
          exact bodyPost_ret (v := .tuple #[.agg #[], .int .i64 5]) (by simp [results, Try.results38, go_sem]) rfl ⟨by rw [HE2.out], HW.out⟩
        · obtain rfl : n = 1 := by omega
          have HE2 : Hid (z = 0) := Lib.hid (HE.out.trans ((if_neg n0).trans (if_neg n1)))
          obtain ⟨a, rfl⟩ : ∃ a, B = some a := by
            rcases B with _ | a
            · exact absurd HC.out.1 (by rw [HC.out.2 rfl]; decide)
            · exact ⟨a, rfl⟩
          clear HE n0 n1
          go_wp2
          exact bodyPost_ret (v := .tuple #[.agg #[], .int .i64 0]) (by simp [results, Try.results38, go_sem]) rfl ⟨by rw [HE2.out], HW.out⟩

theorem refused_any (e : List (Int × Int)) (A : Option Addr) (c m : Nat) (w : World) (hm : m = e.length) (hA : PA w A e) (hlm : m ≤ 1000) :
    Calls Try.prog 26 #[.slice A m c] w fun x w' => x = .returned (.int .i64 (wrF 0 e)) ∧ Below w.heap.size w w' := by
  have HK := Lib.hid (work_any e A c m w hm hA hlm)
  clear hm hA
  go_enter Try.func26, Try.ntmps26
  go_wp2_with fail
  refine HK.out.mono ?_
  rintro x w1 ⟨rfl, hb⟩
  have HB := Lib.hid hb
  clear hb
  go_wp2
  go_ret
  exact ⟨rfl, HB.out.alloc HB.out.size _⟩
theorem check_any (e : List (Int × Int)) (A : Option Addr) (c m : Nat) (w : World) (hm : m = e.length) (hA : PA w A e) (hlm : m ≤ 1000) :
    Calls Try.prog 9 #[.slice A m c] w fun x w' => x = .returned (.int .i64 (if 24 < m then 5 else wrF 0 e)) ∧ Below w.heap.size w w' := by
  have HK := Lib.hid (refused_any e A c m w hm hA hlm)
  clear hm hA
  obtain ⟨z, HZ⟩ : ∃ z, Hid ((if 24 < m then 5 else wrF 0 e) = z) := ⟨_, Lib.hid rfl⟩
  rw [HZ.out]
  by_cases h : 24 < m
  · have HE : Hid (z = 5) := Lib.hid (by rw [← HZ.out, if_pos h])
    go_enter Try.func9, Try.ntmps9
    go_wp2
    go_ret
    exact ⟨by rw [HE.out]; rfl, Below.refl _ _⟩
  · have HE : Hid (wrF 0 e = z) := Lib.hid (by rw [← HZ.out, if_neg h])
    go_enter Try.func9, Try.ntmps9
    go_wp2_with fail
    refine HK.out.mono ?_
    rintro x w' ⟨rfl, hb⟩
    have HB := Lib.hid hb
    clear hb
    rw [HE.out]
    go_wp2
    go_ret
    exact ⟨rfl, HB.out⟩
end Go.Proofs.Ythkfjiengemcfaa.lt.wn
