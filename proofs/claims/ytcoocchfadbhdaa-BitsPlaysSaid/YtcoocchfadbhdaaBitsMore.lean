/- Contracts of package bits: Of, Ones, Count. -/
import Derived.Test.YtcoocchfadbhdaaBits
namespace Go.Proofs.Ytcoocchfadbhdaa
open Go.ChangeShapes Go.WideShapes Go.ChangeAt Go.RowKit

/-- The numbers of l that a set of length n has room for. -/
def ofG (n : Nat) (l : List Int) : Nat → Bool := l.foldl (fun g i => putG g n i) (fun _ => false)
theorem ofG_snoc (n : Nat) (l : List Int) (k : Nat) (h : k < l.length) : ofG n (l.take (k + 1)) = putG (ofG n (l.take k)) n (l.getD k 0) := by
  have e : l.take (k + 1) = l.take k ++ [l.getD k 0] := by rw [List.take_succ_eq_append_getElem h]; simp [List.getD, h]
  rw [e]
  simp [ofG]

theorem of_some (n : Nat) (A : Option Addr) (c m : Nat) (l : List Int) (w : World) (hm : m = l.length) (hn : n ≤ 65536) (hA : IA w A l) (hl : l.length ≤ 17592186044416) :
    Calls Try.prog 24 #[.int .i64 n, .slice A m c] w (NewSet w n (ofG n l)) := by
  subst hm
  have HA := Lib.hid hA
  clear hA
  go_enter Try.func24, Try.ntmps24
  go_wp2_with fail
  refine (new_some n w hn).mono ?_
  rintro e w1 ⟨s, t, rfl, h1, hs, ht, hb1⟩
  have H1 := Lib.hid h1
  have HB1 := Lib.hid hb1
  clear h1 hb1
  go_wp2_with fail
  go_loopw [12] (fun i wr => ∃ k : Nat, k ≤ l.length ∧ i = .int .i64 k ∧ Hid (ST wr s t n (ofG n (l.take k))) ∧ Hid (Below w.heap.size w wr)) (fun i _ => l.length - (intOf i).toNat)
  case atStart => exact ⟨0, Nat.zero_le _, rfl, H1, HB1⟩
  case round =>
    obtain ⟨k, hk, rfl, HS, HW⟩ := hrel
    by_cases hlt : k < l.length
    · obtain ⟨b, o, rfl, hb, hc⟩ := HA.out (by omega)
      have c1 : wr.cell? ⟨b, o + k, none⟩ = some (.int .i64 (l.getD k 0)) := by rw [HW.out.cell (p := ⟨b, o + k, none⟩) hb]; exact hc k hlt
      have HG : Hid (ofG n (l.take (k + 1)) = putG (ofG n (l.take k)) n (l.getD k 0)) := Lib.hid (ofG_snoc n l k hlt)
      generalize l.getD k 0 = x at c1 HG
      generalize ofG n (l.take k) = g at HS HG
      clear hc
      go_wp2_with fail
      refine (put_any HS.out x).mono ?_
      rintro e w2 ⟨rfl, h2, hT, hz⟩
      have HS2 := Lib.hid h2
      have HW2 : Hid (Below w.heap.size w w2) := Lib.hid (HW.out.grown hT HW.out.size (fun j hj => by injection hj with hj; omega))
      clear h2 hT hz
      go_wp2_with fail
      go_roundw
      case rel => exact ⟨k + 1, by omega, by go_num, by rw [HG.out]; exact HS2, HW2⟩
      case measure => simp [intOf]; omega
    · obtain rfl : k = l.length := by omega
      go_wp2
      go_ret
      exact ⟨s, t, rfl, by have := HS.out; rwa [List.take_length] at this, hs, ht, HW.out⟩
theorem of_none (n : Int) (A : Option Addr) (c m : Nat) (l : List Int) (w : World) (hm : m = l.length) (hn : n < 0 ∨ 65536 < n) (hA : IA w A l) (hl : l.length ≤ 17592186044416) :
    Calls Try.prog 24 #[.int .i64 n, .slice A m c] w fun e w' => e = .returned (.pointer none) ∧ w = w' := by
  subst hm
  have HA := Lib.hid hA
  have HN := Lib.hid hn
  have hd : HD w none false 0 none 0 0 := .inl ⟨rfl, rfl, rfl, rfl, rfl, rfl⟩
  have HH := Lib.hid hd
  clear hA hn hd
  go_enter Try.func24, Try.ntmps24
  go_wp2_with fail
  refine (new_none n w HN.out).mono ?_
  rintro e w1 ⟨rfl, rfl⟩
  go_wp2_with fail
  go_loop [12] (fun i => ∃ k : Nat, k ≤ l.length ∧ i = .int .i64 k) (fun i => l.length - (intOf i).toNat)
  case atStart => exact ⟨0, Nat.zero_le _, rfl⟩
  case round =>
    obtain ⟨k, hk, rfl⟩ := hrel
    by_cases hlt : k < l.length
    · obtain ⟨b, o, rfl, hb, hc⟩ := HA.out (by omega)
      have c1 := hc k hlt
      generalize l.getD k 0 = x at c1
      clear hc
      go_wp2_with fail
      refine (put_out HH.out x (by omega)).mono ?_
      rintro e w2 ⟨rfl, rfl⟩
      go_wp2_with fail
      go_round
      case rel => exact ⟨k + 1, by omega, by go_num⟩
      case measure => simp [intOf]; omega
    · obtain rfl : k = l.length := by omega
      go_wp2
      go_ret
      exact ⟨rfl, rfl⟩

theorem ones_any (u : Nat) (w : World) (hu : u < 18446744073709551616) :
    Calls Try.prog 38 #[.int .u64 u] w fun e w' => e = .returned (.int .i64 (pop u)) ∧ w = w' := by
  have hp := pop_le 64 u hu
  have HU := Lib.hid hu
  clear hu
  go_enter Try.func38, Try.ntmps38
  go_wp2
  go_loop [3, 4] (fun a b => ∃ (k x : Nat), a = .int .i64 k ∧ b = .int .u64 x ∧ x ≤ u ∧ k + pop x = pop u) (fun _ b => (intOf b).toNat)
  case atStart => exact ⟨0, u, rfl, rfl, Nat.le_refl _, by omega⟩
  case round =>
    obtain ⟨k, x, rfl, rfl, hx, hk⟩ := hrel
    by_cases h0 : x = 0
    · subst h0
      rw [pop_zero] at hk
      have HK := Lib.hid hk
      clear hk
      go_wp2
      go_ret
      exact ⟨ret_int (by have := HK.out; omega), rfl⟩
    · have h1 := pop_less x h0
      have h2 := and_less h0
      have HB : Hid (bits .and .u64 (x : Int) ((x : Int) - 1) = ((x &&& (x - 1) : Nat) : Int)) := Lib.hid (by
        rw [show (x : Int) - 1 = ((x - 1 : Nat) : Int) by omega, u64_and_nat _ _ (by have := HU.out; omega) (by have := HU.out; omega)])
      have HX : Hid (x < 18446744073709551616) := Lib.hid (by have := HU.out; omega)
      generalize x &&& (x - 1) = y at h1 h2 HB
      have hx0 : ((x : Int) == 0) = false := by simpa using h0
      have hx1 : ((x : Int) != 0) = true := by simpa using h0
      have HK : Hid (k + 1 + pop y = pop u) := Lib.hid (by omega)
      have hk3 : k ≤ 64 := by omega
      have hx4 : 0 < x := by omega
      have HX2 := HX.out
      clear h1 hk hp
      go_wp2
      go_round
      case rel => exact ⟨k + 1, y, by go_num, by rw [HB.out], by omega, HK.out⟩
      case measure => rw [HB.out]; simp [intOf]; omega

/-- How many numbers are in the set. -/
def num (g : Nat → Bool) (n : Nat) : Nat := cnt g 0 n
theorem num_words {g : Nat → Bool} {n : Nat} (h : ∀ i, n ≤ i → g i = false) : cnt g 0 (64 * SW n) = num g n := by
  obtain ⟨d, hd⟩ : ∃ d, 64 * SW n = n + d := ⟨64 * SW n - n, by unfold SW; omega⟩
  have h1 : cnt g (0 + n) d = 0 := cnt_none (fun i _ => h _ (by omega))
  rw [hd, cnt_add, h1]
  rfl
theorem pop_W (g : Nat → Bool) (k : Nat) : pop (wd g k 64) = cnt g (64 * k) 64 := pop_wd g k 64

theorem count_any {w : World} {s t n : Nat} {g : Nat → Bool} (h : ST w s t n g) :
    Calls Try.prog 32 #[.pointer (some ⟨s, 0, none⟩)] w fun e w' => e = .returned (.int .i64 (num g n)) ∧ w = w' := by
  have H := Lib.hid h
  have HN := Lib.hid (num_words h.off)
  have hn := h.len
  have hsw : SW n ≤ 1024 := by unfold SW; omega
  clear h
  go_enter Try.func32, Try.ntmps32
  go_wp2_with fail
  refine (held_any H.out.hd).mono ?_
  rintro e w' ⟨rfl, rfl⟩
  go_wp2_with fail
  go_loop [3, 9] (fun a i => ∃ k : Nat, k ≤ SW n ∧ i = .int .i64 k ∧ a = .int .i64 (cnt g 0 (64 * k))) (fun _ i => SW n - (intOf i).toNat)
  case atStart => exact ⟨0, Nat.zero_le _, rfl, rfl⟩
  case round =>
    obtain ⟨k, hk, rfl, rfl⟩ := hrel
    by_cases hlt : k < SW n
    · have c1 : w.cell? ⟨t, k, none⟩ = some (.int .u64 (wd g k 64 : Int)) := H.out.words.cell hlt
      have HS : Hid (cnt g 0 (64 * (k + 1)) = cnt g 0 (64 * k) + pop (wd g k 64)) := Lib.hid (by rw [Nat.mul_add, cnt_add, pop_W, Nat.zero_add])
      have h1 := cnt_le g 0 (64 * k)
      have h2 := pop_le 64 (wd g k 64) (wd_lt g k 64)
      have HF := Lib.hid (wdn_lt g k)
      generalize wd g k 64 = x at *
      generalize cnt g 0 (64 * k) = a at *
      go_wp2_with fail
      refine (ones_any x w HF.out).mono ?_
      rintro e w' ⟨rfl, rfl⟩
      go_wp2_with fail
      go_round
      case rel => exact ⟨k + 1, by omega, by go_num, by rw [HS.out]; go_num⟩
      case measure => simp [intOf]; omega
    · obtain rfl : k = SW n := by omega
      go_wp2
      go_ret
      exact ⟨ret_int (by rw [HN.out]), rfl⟩
theorem count_none {w : World} {p : Option Addr} {mk : Bool} {n : Nat} {A : Option Addr} {c : Nat} (h : HD w p mk n A 0 c) :
    Calls Try.prog 32 #[.pointer p] w fun e w' => e = .returned (.int .i64 0) ∧ w = w' := by
  have H := Lib.hid h
  clear h
  go_enter Try.func32, Try.ntmps32
  go_wp2_with fail
  refine (held_any H.out).mono ?_
  rintro e w' ⟨rfl, rfl⟩
  go_wp2_with fail
  go_loop [3, 9] (fun a i => i = .int .i64 0 ∧ a = .int .i64 0) (fun _ _ => 0)
  case atStart => exact ⟨rfl, rfl⟩
  case round =>
    obtain ⟨rfl, rfl⟩ := hrel
    go_wp2
    go_ret
    exact ⟨rfl, rfl⟩

def aw1 : Nat → Bool := ofG 5 [3, 1, 3, 9]
def aw0 : Nat → Bool := fun _ => false
theorem aw_num : num aw1 5 = 2 := by decide
theorem aw_has : memI aw1 1 = true := by decide
theorem aw_put : (decide ((0 : Int) ≤ 3 ∧ (3 : Int) < ((5 : Nat) : Int)) && !memI aw1 3) = false := by decide
theorem aw_put4 : (decide ((0 : Int) ≤ 4 ∧ (4 : Int) < ((5 : Nat) : Int)) && !memI aw0 4) = true := by decide
def aw2 : Nat → Bool := putG aw0 5 4
theorem aw_put5 : (decide ((0 : Int) ≤ 5 ∧ (5 : Int) < ((5 : Nat) : Int)) && !memI aw2 5) = false := by decide
def aw3 : Nat → Bool := putG aw2 5 5
theorem aw_num3 : num aw3 5 = 1 := by decide
theorem aw_drop : (decide ((0 : Int) ≤ 4 ∧ (4 : Int) < ((5 : Nat) : Int)) && memI aw3 4) = true := by decide
def aw4 : Nat → Bool := dropG aw3 5 4
theorem aw_drop2 : (decide ((0 : Int) ≤ 4 ∧ (4 : Int) < ((5 : Nat) : Int)) && memI aw4 4) = false := by decide
theorem pop_10 : pop 10 = 2 := by
  have a := pop_step 10
  have b := pop_step 5
  have c := pop_step 2
  have d := pop_step 1
  simp [pop_zero] at a b c d
  omega
theorem Turned.below {w w1 w2 : World} {s t n B : Nat} {g : Nat → Bool} (h : Turned w1 s t n g w2) (hb : Below B w w1) (hB : B ≤ w1.heap.size) (ht : B ≤ t) : Below B w w2 :=
  hb.grown h.2.1 hB (fun k hk => by injection hk with hk; omega)

theorem awake_any (w : World) : Calls Try.prog 16 #[] w fun e w' => e = .returned (.bool true) ∧ Below w.heap.size w w' := by
  go_enter Try.func16, Try.ntmps16
  go_wp2_with fail
  have hl : IA (w.alloc (.cells #[.int .i64 3, .int .i64 1, .int .i64 3, .int .i64 9] 3)) (some ⟨w.heap.size, 0, none⟩) [3, 1, 3, 9] := ia_lit w [3, 1, 3, 9] _ _ rfl
  refine (of_some 5 _ _ _ [3, 1, 3, 9] _ (by rfl) (by omega) hl (by simp)).mono ?_
  rintro e w1 ⟨s, t, rfl, h1, hs, ht, hb1⟩
  have H1 : Hid (ST w1 s t 5 aw1) := Lib.hid h1
  have HB1 : Hid (Below w.heap.size w w1) := Lib.hid (((Below.refl _ _).alloc (Nat.le_refl _) _).trans (hb1.mono (by simp)))
  have hs' : Hid (w.heap.size ≤ s) := Lib.hid (by simp at hs; omega)
  have ht' : Hid (w.heap.size ≤ t) := Lib.hid (by simp at ht; omega)
  clear h1 hb1 hs ht hl
  go_wp2_with fail
  refine (new_some 5 w1 (by omega)).mono ?_
  rintro e w2 ⟨s2, t2, rfl, h2, hs2, ht2, hb2⟩
  have N3 : Hid (s2 ≠ t ∧ t2 ≠ t) := Lib.hid (by have := H1.out.words.lt; omega)
  have H2 : Hid (ST w2 s t 5 aw1) := Lib.hid (H1.out.keep hb2)
  have K2 : Hid (ST w2 s2 t2 5 aw0) := Lib.hid h2
  have HB2 : Hid (Below w.heap.size w w2) := Lib.hid (HB1.out.trans (hb2.mono HB1.out.size))
  have T2 : Hid (w.heap.size ≤ t2) := Lib.hid (by have := HB1.out.size; omega)
  clear h2 hb2 hs2 ht2 H1
  go_wp2_with (first | (go_at_call 14; refine (new_none _ _ (by omega)).mono ?_; rintro e w' ⟨rfl, rfl⟩) | (go_at_call 17; refine (len_any H2.out.hd).mono ?_; rintro e w' ⟨rfl, rfl⟩))
  refine (count_any H2.out).mono ?_
  rintro e w' ⟨rfl, rfl⟩
  rw [aw_num]
  go_wp2_with fail
  refine (has_any H2.out 1).mono ?_
  rintro e w3 ⟨rfl, j3, rfl⟩
  rw [aw_has]
  have H3 : Hid (ST (w2.drewN j3) s t 5 aw1) := Lib.hid (H2.out.drewN j3)
  have K3 : Hid (ST (w2.drewN j3) s2 t2 5 aw0) := Lib.hid (K2.out.drewN j3)
  have HB3 : Hid (Below w.heap.size w (w2.drewN j3)) := Lib.hid (below_drewN HB2.out j3)
  generalize w2.drewN j3 = w3 at *
  clear H2 K2 HB2
  go_wp2_with fail
  refine (put_any H3.out 3).mono ?_
  rintro e w4 ⟨rfl, hT⟩
  rw [aw_put]
  have HB4 : Hid (Below w.heap.size w w4) := Lib.hid (hT.below HB3.out HB3.out.size ht'.out)
  have K4 : Hid (ST w4 s2 t2 5 aw0) := Lib.hid (K3.out.other hT.2.1 N3.out.1 N3.out.2)
  clear hT H3 K3 HB3
  go_wp2_with fail
  refine (put_any K4.out 4).mono ?_
  rintro e w5 ⟨rfl, hT⟩
  rw [aw_put4]
  have HB5 : Hid (Below w.heap.size w w5) := Lib.hid (hT.below HB4.out HB4.out.size T2.out)
  have K5 : Hid (ST w5 s2 t2 5 aw2) := Lib.hid hT.1
  clear hT K4 HB4
  go_wp2_with fail
  refine (put_any K5.out 5).mono ?_
  rintro e w6 ⟨rfl, hT⟩
  rw [aw_put5]
  have HB6 : Hid (Below w.heap.size w w6) := Lib.hid (hT.below HB5.out HB5.out.size T2.out)
  have K6 : Hid (ST w6 s2 t2 5 aw3) := Lib.hid hT.1
  clear hT K5 HB5
  go_wp2_with fail
  refine (count_any K6.out).mono ?_
  rintro e w' ⟨rfl, rfl⟩
  rw [aw_num3]
  go_wp2_with fail
  refine (drop_any K6.out 4).mono ?_
  rintro e w7 ⟨rfl, hT⟩
  rw [aw_drop]
  have HB7 : Hid (Below w.heap.size w w7) := Lib.hid (hT.below HB6.out HB6.out.size T2.out)
  have K7 : Hid (ST w7 s2 t2 5 aw4) := Lib.hid hT.1
  clear hT K6 HB6
  go_wp2_with fail
  refine (drop_any K7.out 4).mono ?_
  rintro e w8 ⟨rfl, hT⟩
  rw [aw_drop2]
  have HB8 : Hid (Below w.heap.size w w8) := Lib.hid (hT.below HB7.out HB7.out.size T2.out)
  clear hT K7 HB7
  go_wp2_with fail
  refine (ones_any 10 w8 (by omega)).mono ?_
  rintro e w' ⟨rfl, rfl⟩
  rw [pop_10]
  go_wp2_with fail
  go_ret
  exact ⟨rfl, HB8.out⟩
end Go.Proofs.Ytcoocchfadbhdaa
