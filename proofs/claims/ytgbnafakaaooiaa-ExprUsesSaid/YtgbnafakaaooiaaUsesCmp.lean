/- What the program's Uses compares nodes by. -/
import Derived.Test.YtgbnafakaaooiaaIntRows
import Derived.Test.YtgbnafakaaooiaaShelf
import Derived.Test.YtgbnafakaaooiaaUsesPure
import Derived.Deep.RegionHeld3
import Derived.Shelf.Abstract
import Derived.Deep.Cut
namespace Go.Proofs.Ytgbnafakaaooiaa.us
open Go.ChangeShapes Go.WideShapes Go.ChangeAt Go.RowKit Go.Sort

def cmpI (x y : Int) : Int := if x < y then -1 else if y < x then 1 else 0
def orI (a b : Int) : Int := if a ≠ 0 then a else b
def cfN (x y : Int × Int) : Int := orI (cmpI x.1 y.1) (cmpI x.2 y.2)
theorem lt_cf (x y : Int × Int) : ltOf cfN x y = ltN x y := by
  unfold ltOf cfN orI cmpI ltN
  rw [Bool.eq_iff_iff, decide_eq_true_iff, decide_eq_true_iff]
  by_cases h1 : x.1 < y.1
  · simp [h1]
  · by_cases h2 : y.1 < x.1
    · have : ¬ x.1 = y.1 := by omega
      simp [h1, h2, this]
    · have : x.1 = y.1 := by omega
      by_cases h3 : x.2 < y.2
      · simp [this, h3]
      · by_cases h4 : y.2 < x.2 <;> simp [this, h3, h4]
theorem swo_cf : SWO (ltOf cfN) := by
  have : ltOf cfN = ltN := by funext x y; exact lt_cf x y
  rw [this]
  exact ltN_swo
theorem isNaN_any (x : Int) (w : World) : Calls Try.prog 21 #[.int .i64 x] w fun e w' => e = .returned (.bool false) ∧ w = w' := by
  go_enter Try.func21, Try.ntmps21
  go_wp2
  go_ret
  exact ⟨rfl, rfl⟩
theorem compare_any (x y : Int) (w : World) : Calls Try.prog 13 #[.int .i64 x, .int .i64 y] w fun e w' => e = .returned (.int .i64 (cmpI x y)) ∧ w = w' := by
  by_cases h1 : x < y
  · have HE : Hid (cmpI x y = -1) := Lib.hid (by unfold cmpI; rw [if_pos h1])
    go_enter Try.func13, Try.ntmps13
    go_wp2_with fail
    refine (isNaN_any _ _).mono ?_
    rintro e w' ⟨rfl, rfl⟩
    go_wp2_with fail
    refine (isNaN_any _ _).mono ?_
    rintro e w' ⟨rfl, rfl⟩
    go_wp2
    go_ret
    exact ⟨by rw [HE.out]; rfl, rfl⟩
  · by_cases h2 : y < x
    · have HE : Hid (cmpI x y = 1) := Lib.hid (by unfold cmpI; rw [if_neg h1, if_pos h2])
      go_enter Try.func13, Try.ntmps13
      go_wp2_with fail
      refine (isNaN_any _ _).mono ?_
      rintro e w' ⟨rfl, rfl⟩
      go_wp2_with fail
      refine (isNaN_any _ _).mono ?_
      rintro e w' ⟨rfl, rfl⟩
      go_wp2
      go_ret
      exact ⟨by rw [HE.out]; rfl, rfl⟩
    · have HE : Hid (cmpI x y = 0) := Lib.hid (by unfold cmpI; rw [if_neg h1, if_neg h2])
      go_enter Try.func13, Try.ntmps13
      go_wp2_with fail
      refine (isNaN_any _ _).mono ?_
      rintro e w' ⟨rfl, rfl⟩
      go_wp2_with fail
      refine (isNaN_any _ _).mono ?_
      rintro e w' ⟨rfl, rfl⟩
      go_wp2
      go_ret
      exact ⟨by rw [HE.out]; rfl, rfl⟩
theorem or_any (b : Nat) (x y : Int) (w : World) (h0 : w.cell? ⟨b, 0, none⟩ = some (.int .i64 x)) (h1 : w.cell? ⟨b, 1, none⟩ = some (.int .i64 y)) : Calls Try.prog 12 #[.slice (some ⟨b, 0, none⟩) 2 2] w fun e w' => e = .returned (.int .i64 (orI x y)) ∧ w = w' := by
  have HX : Hid (orI x y = if x ≠ 0 then x else y) := Lib.hid rfl
  have H0 := Lib.hid h0
  have H1 := Lib.hid h1
  clear h0 h1
  go_enter Try.func12, Try.ntmps12
  go_wp2
  go_loop [8] (fun i => ∃ k : Nat, k ≤ 2 ∧ i = .int .i64 k ∧ Hid ((0 < k → x = 0) ∧ (1 < k → y = 0))) (fun i => 2 - (intOf i).toNat)
  case atStart => exact ⟨0, by omega, rfl, Lib.hid ⟨fun h => by omega, fun h => by omega⟩⟩
  case round =>
    obtain ⟨k, hk, rfl, HK⟩ := hrel
    by_cases k0 : k = 0
    · subst k0
      have c0 := H0.out
      by_cases hx : x = 0
      · subst hx
        have HN : Hid ((0 < 1 → (0 : Int) = 0) ∧ (1 < 1 → y = 0)) := Lib.hid ⟨fun _ => rfl, fun h => by omega⟩
        go_wp2
        go_round
        case rel => exact ⟨1, by omega, rfl, Lib.hid ⟨fun _ => by first | trivial | rfl, fun h => by omega⟩⟩
        case measure => simp [intOf]
      · have hb : (x != 0) = true := by simpa using hx
        have HE : Hid (orI x y = x) := Lib.hid (by rw [HX.out, if_pos hx])
        go_wp2
        go_ret
        exact ⟨by rw [HE.out]; rfl, rfl⟩
    · by_cases k1 : k = 1
      · subst k1
        obtain rfl : x = 0 := HK.out.1 (by omega)
        have c1 := H1.out
        have HE0 : Hid (orI 0 y = y) := Lib.hid rfl
        by_cases hy : y = 0
        · subst hy
          have HN : Hid ((0 < 2 → (0 : Int) = 0) ∧ (1 < 2 → (0 : Int) = 0)) := Lib.hid ⟨fun _ => rfl, fun _ => rfl⟩
          go_wp2
          go_round
          case rel => exact ⟨2, by omega, rfl, Lib.hid ⟨fun _ => by first | trivial | rfl, fun _ => by first | trivial | rfl⟩⟩
          case measure => simp [intOf]
        · have hb : (y != 0) = true := by simpa using hy
          go_wp2
          go_ret
          exact ⟨by rw [HE0.out]; rfl, rfl⟩
      · obtain rfl : k = 2 := by omega
        obtain ⟨r1, r2⟩ := HK.out
        obtain rfl : x = 0 := r1 (by omega)
        obtain rfl : y = 0 := r2 (by omega)
        go_wp2
        go_ret
        exact ⟨rfl, rfl⟩
/-- Draws and new blocks behind a world. -/
def Grown (W w' : World) : Prop := ∃ (q : Nat) (os : Array Obj), w' = grow (W.drewN q) os
theorem Grown.refl (W : World) : Grown W W := ⟨0, #[], by unfold grow; simp; rfl⟩
theorem Grown.drew {W w' : World} (h : Grown W w') : Grown W w'.drew := by
  obtain ⟨q, os, rfl⟩ := h
  exact ⟨q + 1, os, rfl⟩
theorem Grown.alloc {W w' : World} (h : Grown W w') (o : Obj) : Grown W (w'.alloc o) := by
  obtain ⟨q, os, rfl⟩ := h
  exact ⟨q, os ++ #[o], by rw [alloc_eq_grow, grow_grow]⟩
set_option maxRecDepth 100000 in
set_option maxHeartbeats 4000000 in
theorem uses1_any (x y : Int × Int) (W : World) : Calls Try.prog 11 #[.agg #[.int .i64 x.1, .int .i64 x.2], .agg #[.int .i64 y.1, .int .i64 y.2]] W fun e w' => e = .returned (.int .i64 (cfN x y)) ∧ Grown W w' := by
  obtain ⟨x1, x2⟩ := x
  obtain ⟨y1, y2⟩ := y
  have HE : Hid (cfN (x1, x2) (y1, y2) = orI (cmpI x1 y1) (cmpI x2 y2)) := Lib.hid rfl
  rw [HE.out]
  clear HE
  obtain ⟨b, HB⟩ : ∃ b, Hid (b = W.heap.size) := ⟨_, Lib.hid rfl⟩
  obtain ⟨w2, HW2⟩ : ∃ w2, Hid (w2 = (W.alloc (.cells #[.int .i64 x1, .int .i64 x2] 28)).alloc (.cells #[.int .i64 y1, .int .i64 y2] 28)) := ⟨_, Lib.hid rfl⟩
  have HG2 : Hid (Grown W w2) := Lib.hid (by rw [HW2.out]; exact ((Grown.refl W).alloc _).alloc _)
  have HC : Hid (w2.cell? ⟨b, 0, none⟩ = some (.int .i64 x1) ∧ w2.cell? ⟨b, 1, none⟩ = some (.int .i64 x2) ∧ w2.cell? ⟨b + 1, 0, none⟩ = some (.int .i64 y1) ∧ w2.cell? ⟨b + 1, 1, none⟩ = some (.int .i64 y2)) := Lib.hid (by
    rw [HW2.out, HB.out]
    have hb := Below.refl (W.alloc (.cells #[.int .i64 x1, .int .i64 x2] 28)).heap.size (W.alloc (.cells #[.int .i64 x1, .int .i64 x2] 28))
    have hb2 := hb.alloc (Nat.le_refl _) (.cells #[.int .i64 y1, .int .i64 y2] 28)
    have e : (W.alloc (.cells #[.int .i64 x1, .int .i64 x2] 28)).heap.size = W.heap.size + 1 := by simp
    refine ⟨(hb2.cell (p := ⟨W.heap.size, 0, none⟩) (by simp)).trans (World.cell?_alloc_at _ _ _ _ (by simp)), (hb2.cell (p := ⟨W.heap.size, 1, none⟩) (by simp)).trans (World.cell?_alloc_at _ _ _ _ (by simp)), ?_, ?_⟩
    · rw [← e]; exact World.cell?_alloc_at _ _ _ _ (by simp)
    · rw [← e]; exact World.cell?_alloc_at _ _ _ _ (by simp))
  have HZ : Hid (b + 1 < w2.heap.size) := Lib.hid (by rw [HW2.out, HB.out]; simp)
  go_enter Try.func11, Try.ntmps11
  go_upto_region 1 with (fail)
  rw [← HW2.out, ← HB.out]
  clear HB HW2
  obtain ⟨c0, c1, d0, d1⟩ := HC.out
  go_region_held3 (fun w' => w'.cell? ⟨b, 0, none⟩ = some (.int .i64 x1) ∧ w'.cell? ⟨b, 1, none⟩ = some (.int .i64 x2) ∧ w'.cell? ⟨b + 1, 0, none⟩ = some (.int .i64 y1) ∧ w'.cell? ⟨b + 1, 1, none⟩ = some (.int .i64 y2))
    (first | exact ⟨c0, c1, d0, d1⟩ | go_keep)
    (first
      | (go_at_call 13; refine (compare_any _ _ _).mono ?_; rintro e w' ⟨rfl, rfl⟩)
      | (go_at_call 12; refine (or_any _ _ _ _ (World.cell?_alloc_at _ _ _ _ (by simp)) (World.cell?_alloc_at _ _ _ _ (by simp))).mono ?_; rintro e w' ⟨rfl, rfl⟩)
      | fail)
  all_goals
    go_wp2
    go_ret
    exact ⟨rfl, by repeat' (first | exact HG2.out | refine Grown.alloc ?_ _ | refine Grown.drew ?_)⟩
/-- As the library's sort asks it. -/
def encN (x : Int × Int) : List Value := [.int .i64 x.1, .int .i64 x.2]
theorem encN_len (x : Int × Int) : (encN x).length = 2 := rfl
theorem encN_one (x : Int × Int) : ∀ v ∈ encN x, v.oneCell' = true := by
  intro v hv
  simp only [encN, List.mem_cons, List.not_mem_nil, or_false] at hv
  rcases hv with rfl | rfl <;> rfl
theorem cmpLays (blk off size : Nat) (w : World) : CmpLays Try.prog 11 #[] encN 2 cfN blk off size w := fun _ _ _ _ x y => by
  have := uses1_any x y
  exact this _
theorem sort_any (blk cap : Nat) (d : Array (Int × Int)) (w : World) (hH : HoldsK encN 2 w blk 0 d) (hblk : blk < w.heap.size) (hsz : d.size < 4611686018427387904) :
    Calls Try.prog 10 #[.slice (some ⟨blk, 0, none⟩) d.size cap, .func (.func 11) #[] #[]] w fun e w' => e = .returned (.tuple #[]) ∧ ∃ d' n os, PermIn 0 d.size d d' ∧ SortedIn ltN 0 d.size d' ∧ w' = sortWorldK encN 2 w blk 0 n d' os := by
  have eg : ∀ args w, (callFunc 11 args).run Try.prog w = .ok (.enter 11 args) w := enters_of Try.func11 (by kernel_rfl) rfl
  have h := AnyQ.slices_SortFunc Try.sortN 2 Try.isAgg28 Try.sizeOf28 encN encN_len encN_one cfN swo_cf 11 #[] blk 0 cap d w eg (cmpLays blk 0 d.size w) hH hblk hsz
  rw [show ltOf cfN = ltN by funext x y; exact lt_cf x y] at h
  exact h
theorem sort_none (p : Option Addr) (cap : Nat) (fv : Value) (w : World) : Calls Try.prog 10 #[.slice p 0 cap, fv] w fun e w' => e = .returned (.tuple #[]) ∧ w' = w := AnyF.slices_SortFunc_none Try.sortN p cap fv w
end Go.Proofs.Ytgbnafakaaooiaa.us
