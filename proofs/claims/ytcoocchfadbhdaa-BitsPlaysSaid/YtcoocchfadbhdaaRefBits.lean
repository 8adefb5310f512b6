/- The document's own sets: a row of bools; New, Of, All, and the law's same. -/
import Derived.Test.YtcoocchfadbhdaaNumbers
namespace Go.Proofs.Ytcoocchfadbhdaa
open Go.ChangeShapes Go.WideShapes Go.ChangeAt Go.RowKit

/-- The numbers below n of g, rising. -/
def memN (g : Nat → Bool) (n : Nat) : List Nat := (List.range n).filter g
theorem memN_succ (g : Nat → Bool) (n : Nat) : memN g (n + 1) = memN g n ++ if g n then [n] else [] := by
  unfold memN
  rw [List.range_succ, List.filter_append]
  congr 1
  by_cases h : g n <;> simp [h]
theorem memN_length (g : Nat → Bool) (n : Nat) : (memN g n).length ≤ n := by
  have := List.length_filter_le g (List.range n)
  rw [List.length_range] at this
  exact this
theorem plc_wd (g : Nat → Bool) (k j : Nat) (hj : j ≤ 64) : plc (wd g k 64) j = memN (fun i => g (64 * k + i)) j := by
  induction j with
  | zero => rfl
  | succ j ih =>
    rw [plc, memN_succ, ih (by omega)]
    have h := wd_testBit g k 64 j
    rw [decide_eq_true (show j < 64 by omega), Bool.true_and] at h
    rw [← h, Nat.testBit_eq_decide_div_mod_eq]
    by_cases e : wd g k 64 / 2 ^ j % 2 = 1
    · rw [if_pos e, decide_eq_true e]; rfl
    · rw [if_neg e, decide_eq_false e]; simp
theorem memN_add (g : Nat → Bool) (m d : Nat) : memN g (m + d) = memN g m ++ (memN (fun i => g (m + i)) d).map (m + ·) := by
  unfold memN
  rw [List.range_add, List.filter_append, List.filter_map]
  rfl
theorem memW_memN (g : Nat → Bool) (k : Nat) : memW g k = memN g (64 * k) := by
  induction k with
  | zero => rfl
  | succ k ih => rw [memW, ih, plc_wd g k 64 (Nat.le_refl _), show 64 * (k + 1) = 64 * k + 64 by omega, memN_add]
theorem mem_set {g : Nat → Bool} {n : Nat} (h : ∀ i, n ≤ i → g i = false) : memW g (SW n) = memN g n := by
  obtain ⟨d, hd⟩ : ∃ d, 64 * SW n = n + d := ⟨64 * SW n - n, by unfold SW; omega⟩
  rw [memW_memN, hd, memN_add]
  have : memN (fun i => g (n + i)) d = [] := by
    unfold memN
    rw [List.filter_eq_nil_iff]
    intro i _
    rw [h _ (by omega)]
    simp
  rw [this]
  simp

/-- A slice of bools at address A (nil let in) reads as the first n of g. -/
def GA (w : World) (A : Option Addr) (n : Nat) (g : Nat → Bool) : Prop :=
  0 < n → ∃ b off, A = some ⟨b, off, none⟩ ∧ b < w.heap.size ∧ ∀ i, i < n → w.cell? ⟨b, off + i, none⟩ = some (.bool (g i))
theorem GA.below {w w' : World} {A : Option Addr} {n : Nat} {g : Nat → Bool} (h : GA w A n g) (hb : Below w.heap.size w w') : GA w' A n g := fun hn => by
  obtain ⟨b, off, e, hl, hc⟩ := h hn
  exact ⟨b, off, e, Nat.lt_of_lt_of_le hl hb.size, fun i hi => (hb.cell (p := ⟨b, off + i, none⟩) hl).trans (hc i hi)⟩
/-- A row of n bools of its own. -/
def GR (w : World) (b n : Nat) (g : Nat → Bool) : Prop := w.rowIs b 4 n (fun k => .bool (g k))
theorem GR.ga {w : World} {b n : Nat} {g : Nat → Bool} (h : GR w b n g) : GA w (some ⟨b, 0, none⟩) n g := fun _ => ⟨b, 0, rfl, h.lt, fun i hi => by rw [Nat.zero_add]; exact h.cell hi⟩
theorem GR.keep {w w' : World} {b n : Nat} {g : Nat → Bool} (h : GR w b n g) (hb : Below w.heap.size w w') : GR w' b n g := World.rowIs.of_block h (hb.block b h.lt)
theorem GR.put {w : World} {b n : Nat} {g : Nat → Bool} (h : GR w b n g) (i : Nat) (v : Bool) : GR (w.setCell ⟨b, i, none⟩ (.bool v)) b n (upd g i v) :=
  (World.rowIs.set h i _).congr (fun k _ => by
    unfold upd
    by_cases e : k = i
    · rw [if_pos e, if_pos e]
    · rw [if_neg e, if_neg e])

/-- What the document's New and Of leave. -/
def NewRow (w : World) (n : Nat) (g : Nat → Bool) (e : Ending) (w' : World) : Prop := ∃ b, e = .returned (.tuple #[.slice (some ⟨b, 0, none⟩) n n, .bool true]) ∧ GR w' b n g ∧ w.heap.size ≤ b ∧ Below w.heap.size w w'

theorem Try.info4' : (Try.prog.info? 4).map (fun i => (i.zero, i.size, i.bytes)) = some (some (.bool false), 1, 1) := by kernel_rfl
theorem refNew_some (n : Nat) (w : World) (h : n ≤ 65536) : Calls Try.prog 15 #[.int .i64 n] w (NewRow w n (fun _ => false)) := by
  obtain ⟨i0, hi, hz0, hz1, hz2⟩ := info_parts Try.info4'
  have hmk : ∀ W : World, (Instr.makeSlice 25 (.int .i64 (n : Int)) (.int .i64 (n : Int))).run Try.prog W = .ok (.slice (some ⟨W.heap.size, 0, none⟩) n n) (W.alloc (.cells (madeCells #[.bool false] n) 4)) := fun W => by
    have hr := run_make (P := Try.prog) W 25 4 i0 _ Try.underlying25 hi hz0 .i64 .i64 (n : Int) (n : Int) (by omega) (Int.le_refl _) (by rw [hz2]; omega) (by omega)
    rw [hr, hz1]
    rw [Int.toNat_natCast, Nat.mul_one]
    rfl
  have h1 : (n : Int) ≤ 65536 := by omega
  clear hi hz0 hz1 hz2
  go_enter Try.func15, Try.ntmps15
  go_wp2
  go_ret2
  exact ⟨w.heap.size, rfl, World.rowIs_made w (.bool false) n 4, Nat.le_refl _, (Below.refl _ _).alloc (Nat.le_refl _) _⟩
theorem refNew_none (n : Int) (w : World) (h : n < 0 ∨ 65536 < n) : Calls Try.prog 15 #[.int .i64 n] w fun e w' => e = .returned (.tuple #[.slice none 0 0, .bool false]) ∧ w = w' := by
  go_enter Try.func15, Try.ntmps15
  rcases h with h | h
  · go_wp2
    go_ret2
    exact ⟨rfl, rfl⟩
  · have h0 : ¬ n < 0 := by omega
    go_wp2
    go_ret2
    exact ⟨rfl, rfl⟩

set_option maxHeartbeats 1000000 in
theorem refOf_some (n : Nat) (A : Option Addr) (c m : Nat) (l : List Int) (w : World) (hm : m = l.length) (hn : n ≤ 65536) (hA : IA w A l) (hl : l.length ≤ 17592186044416) :
    Calls Try.prog 25 #[.int .i64 n, .slice A m c] w (NewRow w n (ofG n l)) := by
  subst hm
  have HA := Lib.hid hA
  clear hA
  go_enter Try.func25, Try.ntmps25
  go_wp2_with fail
  refine (refNew_some n w hn).mono ?_
  rintro e w1 ⟨b, rfl, h1, hb, hb1⟩
  have H1 := Lib.hid h1
  have HB1 := Lib.hid hb1
  clear h1 hb1
  go_wp2_with fail
  go_loopw [8] (fun i wr => ∃ k : Nat, k ≤ l.length ∧ i = .int .i64 k ∧ Hid (GR wr b n (ofG n (l.take k))) ∧ Hid (Below w.heap.size w wr)) (fun i _ => l.length - (intOf i).toNat)
  case atStart => exact ⟨0, Nat.zero_le _, rfl, H1, HB1⟩
  case round =>
    obtain ⟨k, hk, rfl, HS, HW⟩ := hrel
    by_cases hlt : k < l.length
    · obtain ⟨bl, o, rfl, hbl, hc⟩ := HA.out (by omega)
      have c1 : wr.cell? ⟨bl, o + k, none⟩ = some (.int .i64 (l.getD k 0)) := by rw [HW.out.cell (p := ⟨bl, o + k, none⟩) hbl]; exact hc k hlt
      have HG : Hid (ofG n (l.take (k + 1)) = putG (ofG n (l.take k)) n (l.getD k 0)) := Lib.hid (ofG_snoc n l k hlt)
      generalize l.getD k 0 = x at c1 HG
      generalize ofG n (l.take k) = g at HS HG
      clear hc
      by_cases hx : 0 ≤ x ∧ x < n
      · obtain ⟨hx0, hx1⟩ := hx
        obtain ⟨i, rfl⟩ := Int.eq_ofNat_of_zero_le hx0
        have hi : i < n := by omega
        have HG2 : Hid (putG g n (i : Int) = upd g i true) := Lib.hid (by unfold putG; rw [if_pos ⟨hx0, hx1⟩, Int.toNat_natCast])
        have c2 : wr.cell? ⟨b, i, none⟩ = some (.bool (g i)) := HS.out.cell hi
        have c3 : wr.frozen? ⟨b, i, none⟩ = false := HS.out.frozen _
        have HS2 : Hid (GR (wr.setCell ⟨b, i, none⟩ (.bool true)) b n (upd g i true)) := Lib.hid (HS.out.put i true)
        have HW2 : Hid (Below w.heap.size w (wr.setCell ⟨b, i, none⟩ (.bool true))) := Lib.hid (HW.out.setCell (p := ⟨b, i, none⟩) hb _)
        go_wp2
        go_roundw
        case rel => exact ⟨k + 1, by omega, by go_num, by rw [HG.out, HG2.out]; exact HS2, HW2⟩
        case measure => simp [intOf]; omega
      · have HG2 : Hid (putG g n x = g) := Lib.hid (by unfold putG; rw [if_neg hx])
        by_cases hx0 : 0 ≤ x
        · have hx1 : ¬ x < n := fun h => hx ⟨hx0, h⟩
          clear hx
          go_wp2
          go_roundw
          case rel => exact ⟨k + 1, by omega, by go_num, by rw [HG.out, HG2.out]; exact HS, HW⟩
          case measure => simp [intOf]; omega
        · clear hx
          go_wp2
          go_roundw
          case rel => exact ⟨k + 1, by omega, by go_num, by rw [HG.out, HG2.out]; exact HS, HW⟩
          case measure => simp [intOf]; omega
    · obtain rfl : k = l.length := by omega
      go_wp2
      go_ret2
      exact ⟨b, rfl, by have := HS.out; rwa [List.take_length] at this, hb, HW.out⟩
theorem refOf_none (n : Int) (A : Option Addr) (c m : Nat) (l : List Int) (w : World) (hm : m = l.length) (hn : n < 0 ∨ 65536 < n) (hA : IA w A l) (hl : l.length ≤ 17592186044416) :
    Calls Try.prog 25 #[.int .i64 n, .slice A m c] w fun e w' => e = .returned (.tuple #[.slice none 0 0, .bool false]) ∧ w = w' := by
  subst hm
  have HA := Lib.hid hA
  clear hA
  go_enter Try.func25, Try.ntmps25
  go_wp2_with fail
  refine (refNew_none n w hn).mono ?_
  rintro e w1 ⟨rfl, rfl⟩
  go_wp2_with fail
  go_loopw [8] (fun i wr => ∃ k : Nat, k ≤ l.length ∧ i = .int .i64 k ∧ wr = w) (fun i _ => l.length - (intOf i).toNat)
  case atStart => exact ⟨0, Nat.zero_le _, rfl, rfl⟩
  case round =>
    obtain ⟨k, hk, rfl, rfl⟩ := hrel
    by_cases hlt : k < l.length
    · obtain ⟨bl, o, rfl, hbl, hc⟩ := HA.out (by omega)
      have c1 := hc k hlt
      generalize l.getD k 0 = x at c1
      clear hc
      by_cases hx0 : 0 ≤ x
      · go_wp2
        go_roundw
        case rel => exact ⟨k + 1, by omega, by go_num, trivial⟩
        case measure => simp [intOf]; omega
      · go_wp2
        go_roundw
        case rel => exact ⟨k + 1, by omega, by go_num, trivial⟩
        case measure => simp [intOf]; omega
    · obtain rfl : k = l.length := by omega
      go_wp2
      go_ret2
      exact ⟨rfl, rfl⟩

set_option maxHeartbeats 1000000 in
theorem refAll_any (A : Option Addr) (n c : Nat) (g : Nat → Bool) (w : World) (hn : n ≤ 65536) (hA : GA w A n g) :
    Calls Try.prog 33 #[.slice A n c] w fun e w' => ∃ v, e = .returned v ∧ OI w.heap.size w' v (pli (memN g n)) ∧ Below w.heap.size w w' := by
  have HA := Lib.hid hA
  clear hA
  go_enter Try.func33, Try.ntmps33
  go_wp2
  go_loopw [3, 4] (fun a i wr => ∃ (v' : Value) (k : Nat), a = v' ∧ i = .int .i64 k ∧ k ≤ n ∧ Hid (OI w.heap.size wr v' (pli (memN g k))) ∧ Hid (Below w.heap.size w wr)) (fun _ i _ => n - (intOf i).toNat)
  case atStart => exact ⟨_, 0, rfl, rfl, by omega, Lib.hid (OI.nil _ _), Lib.hid (Below.refl _ _)⟩
  case round =>
    obtain ⟨v', k, rfl, rfl, hk, HO, HW⟩ := hrel
    have hbw : w.heap.size ≤ wr.heap.size := HW.out.size
    by_cases hlt : k < n
    · obtain ⟨b, o, rfl, hb, hc⟩ := HA.out (by omega)
      have c1 : wr.cell? ⟨b, o + k, none⟩ = some (.bool (g k)) := by rw [HW.out.cell (p := ⟨b, o + k, none⟩) hb]; exact hc k hlt
      clear hc
      have hlen : (pli (memN g k)).length ≤ 65536 := by rw [pli_length]; have := memN_length g k; omega
      by_cases hg : g k = true
      · have HS : Hid (pli (memN g (k + 1)) = pli (memN g k) ++ [(k : Int)]) := Lib.hid (by rw [memN_succ, if_pos hg]; simp [pli])
        rw [hg] at c1
        generalize pli (memN g k) = l' at HS HO hlen
        clear hg
        go_wp2_with (at_builtin; refine append_one rfl (.tmp 15) (.tmp 17) rfl w.heap.size _ l' rfl HO.out (k : Int) rfl (by omega) hbw ?_; intro v3 w3 ho3 hg3 hb3 hn3)
        have HO3 := Lib.hid ho3
        have HW3 := Lib.hid (HW.out.trans hb3)
        clear ho3 hg3 hb3 hn3
        go_wp2
        go_roundw
        case rel => exact ⟨_, k + 1, rfl, by go_num, by omega, by rw [HS.out]; exact HO3, HW3⟩
        case measure => simp [intOf]; omega
      · have HS : Hid (pli (memN g (k + 1)) = pli (memN g k)) := Lib.hid (by rw [memN_succ, if_neg hg]; simp)
        rw [Bool.not_eq_true] at hg
        rw [hg] at c1
        clear hg
        go_wp2
        go_roundw
        case rel => exact ⟨_, k + 1, rfl, by go_num, by omega, by rw [HS.out]; exact HO, HW⟩
        case measure => simp [intOf]; omega
    · obtain rfl : k = n := by omega
      go_wp2
      go_ret
      exact ⟨_, rfl, HO.out, HW.out⟩

set_option maxHeartbeats 1000000 in
theorem same_any (A B : Option Addr) (c d m1 m2 : Nat) (xs ys : List Int) (w : World) (hm1 : m1 = xs.length) (hm2 : m2 = ys.length) (hA : IA w A xs) (hB : IA w B ys) (hxl : xs.length ≤ maxLen) (hyl : ys.length ≤ maxLen) :
    Calls Try.prog 35 #[.slice A m1 c, .slice B m2 d] w fun e w' => e = .returned (.bool (eqB xs ys)) ∧ ∃ n, w' = w.drewN n := by
  subst hm1 hm2
  unfold maxLen at hxl hyl
  by_cases hl : xs.length = ys.length
  · have H := Lib.hid hl
    clear hl
    go_enter Try.func35, Try.ntmps35
    have hl0 : (xs.length : Int) = (ys.length : Int) := by rw [H.out]
    go_wp2
    clear hl0
    go_loopw [5] (fun i wr => ∃ (k j : Nat), k ≤ ys.length ∧ i = .int .i64 k ∧ wr = w.drewN j ∧ Hid (∀ i, i < k → xs.getD i 0 = ys.getD i 0)) (fun i _ => ys.length - (intOf i).toNat)
    case atStart => exact ⟨0, 0, Nat.zero_le _, rfl, rfl, Lib.hid (fun i hi => absurd hi (by omega))⟩
    case round =>
      obtain ⟨k, j, hk, rfl, rfl, HV⟩ := hrel
      by_cases hlty : k < ys.length
      · have hlt : k < xs.length := by rw [H.out]; exact hlty
        obtain ⟨bA, oA, rfl, hbA, hcA⟩ := hA (by omega)
        obtain ⟨bB, oB, rfl, hbB, hcB⟩ := hB (by omega)
        have c1 := hcA k hlt
        have c2 := hcB k hlty
        by_cases t1 : xs.getD k 0 = ys.getD k 0
        · have HS : Hid (∀ i, i < k + 1 → xs.getD i 0 = ys.getD i 0) := Lib.hid (fun i hi => by
            by_cases hik : i = k
            · subst hik; exact t1
            · exact HV.out i (by omega))
          rw [← t1] at c2
          generalize xs.getD k 0 = x at c1 c2
          clear hcA hcB hA hB t1 HV
          go_wp2
          go_quiet (fail)
          go_wp2
          go_roundw
          case rel => exact ⟨k + 1, _, by omega, by go_num, rfl, HS⟩
          case measure => simp [intOf]; omega
        · have HE : Hid (eqB xs ys = false) := Lib.hid (decide_eq_false (fun h => t1 (by rw [h])))
          generalize xs.getD k 0 = x at c1 t1
          generalize ys.getD k 0 = y at c2 t1
          have t2 : (x != y) = true := by simpa using t1
          clear hcA hcB hA hB t1 HV
          go_wp2
          go_quiet (fail)
          go_wp2
          go_ret
          exact ⟨ret_bool HE.out.symm, _, World.drewN_drewN _ _ _⟩
      · have hk2 : k = xs.length := by rw [H.out]; omega
        subst hk2
        have HE : Hid (eqB xs ys = true) := Lib.hid (decide_eq_true (getD_ext' H.out HV.out))
        have hge : ys.length ≤ xs.length := by omega
        clear hlty hk
        go_wp2
        go_ret
        exact ⟨ret_bool HE.out.symm, _, rfl⟩
  · have e : eqB xs ys = false := decide_eq_false (fun h => hl (by rw [h]))
    rw [e]
    go_enter Try.func35, Try.ntmps35
    go_wp2
    go_ret
    exact ⟨rfl, 0, rfl⟩
end Go.Proofs.Ytcoocchfadbhdaa
