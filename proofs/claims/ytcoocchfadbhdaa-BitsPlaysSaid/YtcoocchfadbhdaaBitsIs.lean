/- The law's is; the document's Both and Same. -/
import Derived.Test.YtcoocchfadbhdaaRefBits
namespace Go.Proofs.Ytcoocchfadbhdaa
open Go.ChangeShapes Go.WideShapes Go.ChangeAt Go.RowKit

theorem num_memN (g : Nat → Bool) : ∀ n, (memN g n).length = num g n
  | 0 => rfl
  | n + 1 => by
    have ih := num_memN g n
    unfold num at ih ⊢
    rw [memN_succ, cnt, List.length_append, ih, Nat.zero_add]
    by_cases h : g n = true
    · rw [if_pos h, if_pos h]; rfl
    · rw [if_neg h, if_neg h]; rfl

set_option maxRecDepth 20000 in
set_option maxHeartbeats 2000000 in
theorem is_yes {s t n : Nat} {g : Nat → Bool} {A : Option Addr} {c : Nat} {w : World} (hS : ST w s t n g) (hA : GA w A n g) :
    Calls Try.prog 23 #[.pointer (some ⟨s, 0, none⟩), .slice A n c] w fun e w' => e = .returned (.bool true) ∧ Below w.heap.size w w' := by
  have hn := hS.len
  have HS := Lib.hid hS
  have HA := Lib.hid hA
  have HN : Hid (n ≤ 65536) := Lib.hid hn
  have HT : Hid ((memW g (SW n)).take (n + 1) = memN g n) := Lib.hid (by
    rw [mem_set hS.off, List.take_of_length_le]
    have := memN_length g n
    omega)
  have HNM : Hid (num g n = (memN g n).length) := Lib.hid (num_memN g n).symm
  have hml := memN_length g n
  obtain ⟨M, HM⟩ : ∃ M, Hid (memN g n = M) := ⟨_, Lib.hid rfl⟩
  rw [HM.out] at hml
  have HPL : Hid ((pli M).length = M.length) := Lib.hid (pli_length M)
  obtain ⟨q, HQ⟩ : ∃ q, Hid (M.length = q) := ⟨_, Lib.hid rfl⟩
  rw [HQ.out] at hml
  have HPM : Hid ((pli M).length ≤ maxLen) := Lib.hid (by rw [pli_length, HQ.out]; unfold maxLen; omega)
  have HEQ : Hid (eqB (pli M) (pli M) = true) := Lib.hid (decide_eq_true rfl)
  clear hS hA
  go_enter Try.func23, Try.ntmps23
  go_wp2_with fail
  have hk : (n : Int) + 1 = ((n + 1 : Nat) : Int) := by omega
  rw [hk]
  refine (numbers_any s t n (n + 1) g w HS.out (by omega) (by omega)).mono ?_
  rw [HT.out, HM.out]
  rintro e w1 ⟨v1, rfl, h1, hb1⟩
  obtain ⟨A1, c1, rfl, i1⟩ := h1.form
  rw [HPL.out, HQ.out]
  have I1 := Lib.hid i1
  have HB1 := Lib.hid hb1
  have HS1 := Lib.hid (HS.out.keep hb1)
  have HA1 := Lib.hid (HA.out.below hb1)
  clear h1 i1 hb1 hk
  go_wp2_with fail
  refine (len_any HS1.out.hd).mono ?_
  rintro e w' ⟨rfl, rfl⟩
  go_wp2_with fail
  refine (count_any HS1.out).mono ?_
  rintro e w' ⟨rfl, rfl⟩
  rw [HNM.out, HM.out, HQ.out]
  go_wp2_with fail
  refine (refAll_any A n c g w1 HN.out HA1.out).mono ?_
  rw [HM.out]
  rintro e w2 ⟨v2, rfl, h2, hb2⟩
  obtain ⟨A2, c2, rfl, i2⟩ := h2.form
  rw [HPL.out, HQ.out]
  have I2 := Lib.hid (I1.out.below hb2)
  have HB2 := Lib.hid (HB1.out.trans (hb2.mono HB1.out.size))
  have HA2 := Lib.hid (HA1.out.below hb2)
  clear h2 i2 hb2
  go_wp2_with fail
  refine (refAll_any A n c g w2 HN.out HA2.out).mono ?_
  rw [HM.out]
  rintro e w3 ⟨v3, rfl, h3, hb3⟩
  obtain ⟨A3, c3, rfl, i3⟩ := h3.form
  rw [HPL.out, HQ.out]
  have I3 := Lib.hid i3
  have I2' := Lib.hid (I2.out.below hb3)
  have HB3 := Lib.hid (HB2.out.trans (hb3.mono HB2.out.size))
  clear h3 i3 hb3
  go_wp2_with fail
  refine (same_any A1 A3 c1 c3 q q (pli M) (pli M) w3 (by rw [HPL.out, HQ.out]) (by rw [HPL.out, HQ.out]) I2'.out I3.out HPM.out HPM.out).mono ?_
  rintro e w4 ⟨rfl, j4, rfl⟩
  rw [HEQ.out]
  have HB4 := Lib.hid (below_drewN HB3.out j4)
  go_wp2
  go_ret
  exact ⟨rfl, HB4.out⟩

/-- What comes of two sets, in the way how. -/
def bothG (how : Nat) (g f : Nat → Bool) (i : Nat) : Bool := if how = 0 then g i && f i else if how = 1 then g i || f i else g i && !f i

/-- The first k of h. -/
def fstG (h : Nat → Bool) (k i : Nat) : Bool := if i < k then h i else false
theorem GR.nodes {w : World} {b n : Nat} {g : Nat → Bool} (h : GR w b n g) : b < w.heap.size := World.rowIs.lt h

set_option maxRecDepth 20000 in
set_option maxHeartbeats 4000000 in
theorem refBoth_any (how : Nat) (hh : how ≤ 2) {n c d : Nat} {g f : Nat → Bool} {A B : Option Addr} {w : World} (hA : GA w A n g) (hB : GA w B n f) (hn : n ≤ 300) :
    Calls Try.prog 30 #[.slice A n c, .slice B n d, .int .i64 how] w fun e w' => ∃ b, e = .returned (.slice (some ⟨b, 0, none⟩) n n) ∧ GR w' b n (bothG how g f) ∧ Below w.heap.size w w' := by
  obtain ⟨i0, hi, hz0, hz1, hz2⟩ := info_parts Try.info4'
  have hmk : ∀ W : World, (Instr.makeSlice 25 (.int .i64 (n : Int)) (.int .i64 (n : Int))).run Try.prog W = .ok (.slice (some ⟨W.heap.size, 0, none⟩) n n) (W.alloc (.cells (madeCells #[.bool false] n) 4)) := fun W => by
    have hr := run_make (P := Try.prog) W 25 4 i0 _ Try.underlying25 hi hz0 .i64 .i64 (n : Int) (n : Int) (by omega) (Int.le_refl _) (by rw [hz2]; omega) (by omega)
    rw [hr, hz1]
    rw [Int.toNat_natCast, Nat.mul_one]
    rfl
  have HA := Lib.hid hA
  have HB := Lib.hid hB
  clear hi hz0 hz1 hz2 hA hB
  go_enter Try.func30, Try.ntmps30
  go_wp2
  clear hmk
  go_loopw [8] (fun i wr => ∃ k : Nat, k ≤ n ∧ i = .int .i64 k ∧ Hid (GR wr w.heap.size n (fstG (bothG how g f) k)) ∧ Hid (Below w.heap.size w wr)) (fun i _ => n - (intOf i).toNat)
  case atStart => exact ⟨0, by omega, rfl, Lib.hid ((World.rowIs_made w (.bool false) n 4).congr (fun i hi => by simp [fstG])), Lib.hid ((Below.refl _ _).alloc (Nat.le_refl _) _)⟩
  case round =>
    obtain ⟨k, hk, rfl, HG, HW⟩ := hrel
    by_cases hlt : k < n
    · obtain ⟨bA, oA, rfl, hbA, hcA⟩ := HA.out (by omega)
      obtain ⟨bB, oB, rfl, hbB, hcB⟩ := HB.out (by omega)
      have c1 : wr.cell? ⟨bA, oA + k, none⟩ = some (.bool (g k)) := (HW.out.cell (p := ⟨bA, oA + k, none⟩) hbA).trans (hcA k hlt)
      have c2 : wr.cell? ⟨bB, oB + k, none⟩ = some (.bool (f k)) := (HW.out.cell (p := ⟨bB, oB + k, none⟩) hbB).trans (hcB k hlt)
      obtain ⟨u, c3⟩ : ∃ u, wr.cell? ⟨w.heap.size, k, none⟩ = some u := ⟨_, World.rowIs.cell HG.out hlt⟩
      have c4 : wr.frozen? ⟨w.heap.size, k, none⟩ = false := World.rowIs.frozen HG.out k
      have HS : ∀ v, v = bothG how g f k → Hid (GR (wr.setCell ⟨w.heap.size, k, none⟩ (.bool v)) w.heap.size n (fstG (bothG how g f) (k + 1))) := fun v hv => Lib.hid ((HG.out.put k v).congr (fun i hi => by
        unfold upd fstG
        by_cases h1 : i = k
        · subst h1; simp [hv]
        · by_cases h2 : i < k
          · rw [if_neg h1, if_pos h2, if_pos (by omega)]
          · rw [if_neg h1, if_neg h2, if_neg (by omega)]))
      have HSS := Lib.hid HS
      have HV : Hid (bothG how g f k = if how = 0 then g k && f k else if how = 1 then g k || f k else g k && !f k) := Lib.hid rfl
      clear HS hcA hcB
      generalize g k = x at c1 HV
      generalize f k = y at c2 HV
      obtain rfl | rfl | rfl : how = 0 ∨ how = 1 ∨ how = 2 := by omega
      all_goals
        cases x <;> cases y
      all_goals
        go_wp2
        refine ⟨⟨k + 1, by omega, by go_num, HSS.out _ (by rw [HV.out]; rfl), Lib.hid (HW.out.setCell (Nat.le_refl _) _)⟩, ?_⟩
        simp [intOf]; omega
    · obtain rfl : k = n := by omega
      go_wp2
      go_ret
      exact ⟨w.heap.size, rfl, World.rowIs.congr HG.out (fun i hi => by unfold fstG; rw [if_pos hi]), HW.out⟩

def AlikeB (n : Nat) (g f : Nat → Bool) (e : Ending) : Prop := ∃ b, e = .returned (.bool b) ∧ (b = true ↔ ∀ i, i < n → g i = f i)
set_option maxHeartbeats 2000000 in
theorem refSame_any {n c d : Nat} {g f : Nat → Bool} {A B : Option Addr} {w : World} (hA : GA w A n g) (hB : GA w B n f) (hn : n ≤ 300) :
    Calls Try.prog 31 #[.slice A n c, .slice B n d] w fun e w' => AlikeB n g f e ∧ ∃ j, w' = w.drewN j := by
  have HA := Lib.hid hA
  have HB := Lib.hid hB
  clear hA hB
  go_enter Try.func31, Try.ntmps31
  go_wp2
  go_loopw [5] (fun i wr => ∃ k j : Nat, k ≤ n ∧ i = .int .i64 k ∧ wr = w.drewN j ∧ Hid (∀ i, i < k → g i = f i)) (fun i _ => n - (intOf i).toNat)
  case atStart => exact ⟨0, 0, by omega, rfl, rfl, Lib.hid (fun i hi => by omega)⟩
  case round =>
    obtain ⟨k, j, hk, rfl, rfl, HE⟩ := hrel
    by_cases hlt : k < n
    · obtain ⟨bA, oA, rfl, hbA, hcA⟩ := HA.out (by omega)
      obtain ⟨bB, oB, rfl, hbB, hcB⟩ := HB.out (by omega)
      have c1 := hcA k hlt
      have c2 := hcB k hlt
      clear hcA hcB
      by_cases he : g k = f k
      · have HE2 : Hid (∀ i, i < k + 1 → g i = f i) := Lib.hid (fun i hi => by
          by_cases e : i = k
          · subst e; exact he
          · exact HE.out i (by omega))
        rw [← he] at c2
        generalize g k = x at c1 c2
        clear he
        go_wp2
        go_quiet (fail)
        go_wp2
        go_roundw
        case rel => exact ⟨k + 1, _, by omega, by go_num, rfl, HE2⟩
        case measure => simp [intOf]; omega
      · have HN : Hid (false = true ↔ ∀ i, i < n → g i = f i) := Lib.hid ⟨fun h => (by cases h), fun h => absurd (h k hlt) he⟩
        generalize g k = x at c1 he
        generalize f k = y at c2 he
        have hxy : (x = true ∧ y = false) ∨ (x = false ∧ y = true) := by cases x <;> cases y <;> simp_all
        clear he
        rcases hxy with ⟨rfl, rfl⟩ | ⟨rfl, rfl⟩
        all_goals
          go_wp2
          go_quiet (fail)
          go_wp2
          go_ret
          exact ⟨⟨_, rfl, HN.out⟩, _, World.drewN_drewN _ _ _⟩
    · obtain rfl : k = n := by omega
      go_wp2
      go_ret
      exact ⟨⟨_, rfl, fun _ => HE.out, fun _ => rfl⟩, _, rfl⟩
end Go.Proofs.Ytcoocchfadbhdaa
