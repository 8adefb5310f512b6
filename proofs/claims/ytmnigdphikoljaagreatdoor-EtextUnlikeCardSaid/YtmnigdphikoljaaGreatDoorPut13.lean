/- Contracts that the claim stands on, several texts in one: LexSign, LexSgn, LexClone, LexFirst, LexTok. -/
import Derived.Deep.MidRow
import Derived.Deep.Cut
import Derived.RangeFuncRecord
import Derived.Test.YtmnigdphikoljaaGreatDoorPut1
import Derived.Test.YtmnigdphikoljaaGreatDoorPut2
import Derived.Test.YtmnigdphikoljaaGreatDoorPut3
import Derived.Test.YtmnigdphikoljaaGreatDoorPut4
import Derived.Test.YtmnigdphikoljaaGreatDoorPut5
import Derived.Test.YtmnigdphikoljaaGreatDoorPut6
import Derived.Test.YtmnigdphikoljaaGreatDoorPut7
import Derived.Test.YtmnigdphikoljaaGreatDoorPut8
import Derived.Test.YtmnigdphikoljaaGreatDoorPut9
import Derived.Test.YtmnigdphikoljaaGreatDoorPut10
import Derived.Test.YtmnigdphikoljaaGreatDoorPut11
import Derived.Test.YtmnigdphikoljaaGreatDoorPut12
namespace Go.Proofs.YtmnigdphikoljaaGreatDoor.lx
open Go.ChangeShapes Go.WideShapes Go.ChangeAt Go.RowKit Go.Deep

/-- Does one text begin with the other one? -/
def prefB (s p : ByteArray) : Bool := decide (p.size ≤ s.size) && ((s.extract 0 p.size).toList == p.toList)
set_option maxRecDepth 100000 in
theorem hasPrefix_lite (s p : ByteArray) (w : World) : Calls Tryz.prog 162 #[.string s, .string p] w fun e w' => e = .returned (.bool (prefB s p)) ∧ w' = w := by
  by_cases h : p.size ≤ s.size
  · have HE : Hid (prefB s p = ((s.extract 0 p.size).toList == p.toList)) := Lib.hid (by unfold prefB; rw [decide_eq_true h, Bool.true_and])
    have h2 : (p.size : Int) ≤ (s.size : Int) := by omega
    go_enter Tryz.func162, Tryz.ntmps162
    go_wp2
    go_ret
    exact ⟨by rw [HE.out]; rfl, rfl⟩
  · have HE : Hid (prefB s p = false) := Lib.hid (by unfold prefB; rw [decide_eq_false h, Bool.false_and])
    have h2 : ¬ (p.size : Int) ≤ (s.size : Int) := by omega
    go_enter Tryz.func162, Tryz.ntmps162
    go_wp2
    go_ret
    exact ⟨by rw [HE.out]; rfl, rfl⟩
theorem hasPrefix_any (s p : ByteArray) (w : World) : Calls Tryz.prog 140 #[.string s, .string p] w fun e w' => e = .returned (.bool (prefB s p)) ∧ w' = w := by
  go_enter Tryz.func140, Tryz.ntmps140
  go_wp2_with fail
  refine (hasPrefix_lite s p _).mono ?_
  rintro e w' ⟨rfl, rfl⟩
  go_wp2
  go_ret
  exact ⟨rfl, rfl⟩

/-- The signs, in the program's order. -/
def sgL : List (List UInt8) := [[40], [41], [91], [93], [123], [125], [59], [44], [58], [46], [58, 61], [61, 61], [33, 61], [60], [60, 61], [45, 62], [43], [45], [42], [33], [63], [38, 38], [124, 124], [61, 62], [64]]
def sgS (k : Nat) : ByteArray := ⟨(sgL.getD k []).toArray⟩
def sgA : Array Value := (sgL.map fun l => Value.string ⟨l.toArray⟩).toArray
/-- The table of the signs lies where the program has it. -/
def SgW (w : World) : Prop := ∀ i, i < 25 → w.cell? ⟨0, i, none⟩ = some (.string (sgS i))
theorem sgS_le {k : Nat} (h : k < 25) : (sgS k).size ≤ 2 := by
  have : ∀ k : Fin 25, (sgS k.1).size ≤ 2 := by decide
  exact this ⟨k, h⟩
/-- The longest one of the first k texts that a text begins with. -/
def gM (g : Nat → ByteArray) (s : ByteArray) : Nat → Nat
  | 0 => 0
  | k + 1 => if prefB s (g k) = true then max (gM g s k) (g k).size else gM g s k
theorem gM_le {g : Nat → ByteArray} (hz : ∀ k, k < 25 → (g k).size ≤ 2) (s : ByteArray) : ∀ k, k ≤ 25 → gM g s k ≤ 2
  | 0, _ => by simp [gM]
  | k + 1, h => by
    have h1 := gM_le hz s k (by omega)
    have h2 := hz k (by omega)
    unfold gM
    split <;> omega
def gL (g : Nat → ByteArray) : List Value := (List.range 25).map fun i => .string (g i)
set_option maxRecDepth 100000 in
theorem sg_at (g : Nat → ByteArray) {k : Nat} (hk : k < 25) (W : World) : (Instr.index 171 (.agg (gL g).toArray) (.int .i64 (k : Int))).run Tryz.prog W = .ok (.string (g k)) W := by
  have h : k = 0 ∨ k = 1 ∨ k = 2 ∨ k = 3 ∨ k = 4 ∨ k = 5 ∨ k = 6 ∨ k = 7 ∨ k = 8 ∨ k = 9 ∨ k = 10 ∨ k = 11 ∨ k = 12 ∨ k = 13 ∨ k = 14 ∨ k = 15 ∨ k = 16 ∨ k = 17 ∨ k = 18 ∨ k = 19 ∨ k = 20 ∨ k = 21 ∨ k = 22 ∨ k = 23 ∨ k = 24 := by omega
  rcases h with h | h | h | h | h | h | h | h | h | h | h | h | h | h | h | h | h | h | h | h | h | h | h | h | h
  all_goals (subst h; show _ = _; first | rfl | kernel_rfl)
set_option maxRecDepth 100000 in
set_option maxHeartbeats 2000000 in
theorem sign_any' (g : Nat → ByteArray) (hz : ∀ k, k < 25 → (g k).size ≤ 2) (s : ByteArray) (w : World) (hs : ∀ i, i < 25 → w.cell? ⟨0, i, none⟩ = some (.string (g i))) : Calls Tryz.prog 98 #[.string s] w fun e w' => e = .returned (.int .i64 (gM g s 25)) ∧ w' = w := by
  have HZ := Lib.hid hz
  have HR : Hid (w.rangeAt 0 0 (gL g)) := Lib.hid (fun j v hv => by
    unfold gL at hv
    rw [List.getElem?_map] at hv
    by_cases hj : j < 25
    · rw [List.getElem?_range hj] at hv
      injection hv with hv
      rw [← hv, Nat.zero_add]
      exact hs j hj
    · rw [List.getElem?_eq_none (by simp; omega)] at hv
      cases hv)
  have HI : Hid (∀ k : Nat, k < 25 → ∀ W : World, (Instr.index 171 (.agg (gL g).toArray) (.int .i64 (k : Int))).run Tryz.prog W = .ok (.string (g k)) W) := Lib.hid (fun k hk W => sg_at g hk W)
  have hlen : (Tryz.prog.info? 171).map (·.size) = some (gL g).length := by kernel_rfl
  have HLEN := Lib.hid hlen
  clear hz hs hlen
  obtain ⟨gl, HGL⟩ : ∃ gl, Hid (gL g = gl) := ⟨_, Lib.hid rfl⟩
  rw [HGL.out] at HR HI HLEN
  go_enter Tryz.func98, Tryz.ntmps98
  go_wp2_with (refine wpList_load_mid rfl 171 (.global 0) rfl 0 0 rfl gl _ HR.out Tryz.underlying171 rfl HLEN.out ?_)
  go_loopw [3, 7] (fun m i wr => ∃ k : Nat, k ≤ 25 ∧ i = .int .i64 k ∧ m = .int .i64 (gM g s k) ∧ wr = w) (fun _ i _ => 25 - (intOf i).toNat)
  case atStart => exact ⟨0, by omega, rfl, rfl, by first | rfl | trivial⟩
  case round =>
    obtain ⟨k, hk, rfl, rfl, rfl⟩ := hrel
    by_cases hlt : k < 25
    · have h1 := HI.out k hlt
      have HM2 : Hid (gM g s k ≤ 2) := Lib.hid (gM_le HZ.out s k hk)
      have HS2 : Hid ((g k).size ≤ 2) := Lib.hid (HZ.out k hlt)
      obtain ⟨q, HQ⟩ : ∃ q, Hid (prefB s (g k) = q) := ⟨_, Lib.hid rfl⟩
      have HN : Hid (gM g s (k + 1) = if q = true then max (gM g s k) (g k).size else gM g s k) := Lib.hid (by rw [← HQ.out]; rfl)
      go_wp2_with fail
      clear h1
      refine (hasPrefix_any s (g k) _).mono ?_
      rw [HQ.out]
      rintro e w' ⟨rfl, rfl⟩
      cases q with
      | false =>
        go_wp2_with fail
        go_roundw
        case rel => exact ⟨k + 1, by omega, by go_num, by rw [HN.out]; rfl, by first | rfl | trivial⟩
        case measure => simp [intOf]; omega
      | true =>
        have h3 : gM g s k ≤ 2 := HM2.out
        generalize gM g s k = m at h3 HN
        go_wp2_with fail
        go_roundw
        case rel => exact ⟨k + 1, by omega, by go_num, by rw [HN.out]; simp; omega, by first | rfl | trivial⟩
        case measure => simp [intOf]; omega
    · obtain rfl : k = 25 := by omega
      go_wp2
      go_ret
      exact ⟨rfl, rfl⟩
end Go.Proofs.YtmnigdphikoljaaGreatDoor.lx
namespace Go.Proofs.YtmnigdphikoljaaGreatDoor.lx
open Go.ChangeShapes Go.WideShapes Go.ChangeAt Go.RowKit Go.Deep

theorem pref_list {s p : ByteArray} (h : prefB s p = true) : p.size ≤ s.size ∧ s.data.toList.take p.size = p.data.toList := by
  unfold prefB at h
  rw [Bool.and_eq_true, decide_eq_true_iff, beq_iff_eq, ByteArray.toList_eq, ByteArray.toList_eq] at h
  refine ⟨h.1, ?_⟩
  rw [← h.2]
  simp [ByteArray.data_extract]
theorem pref_of {s p : ByteArray} (h1 : p.size ≤ s.size) (h2 : s.data.toList.take p.size = p.data.toList) : prefB s p = true := by
  unfold prefB
  rw [Bool.and_eq_true, decide_eq_true_iff, beq_iff_eq, ByteArray.toList_eq, ByteArray.toList_eq]
  refine ⟨h1, ?_⟩
  rw [← h2]
  simp [ByteArray.data_extract]
theorem bt_list {s : ByteArray} {i : Nat} (h : i < s.size) : s.data.toList[i]? = some (s[i]'h) := by
  rw [Array.getElem?_toList, Array.getElem?_eq_getElem h]
  rfl
theorem pref1 {s : ByteArray} {c : UInt8} : prefB s ⟨[c].toArray⟩ = true ↔ 0 < s.size ∧ bt s 0 = c.toNat := by
  constructor
  · intro h
    obtain ⟨h1, h2⟩ := pref_list h
    have h0 : 0 < s.size := h1
    refine ⟨h0, ?_⟩
    have := congrArg (fun l => l[0]?) h2
    simp only [List.getElem?_take] at this
    rw [if_pos (by show 0 < 1; omega), bt_list h0] at this
    rw [bt_eq h0]
    have e : s[0] = c := by simpa using this
    rw [e]
  · rintro ⟨h0, h1⟩
    refine pref_of h0 ?_
    rw [bt_eq h0] at h1
    have e : s[0] = c := UInt8.toNat_inj.1 h1
    refine List.ext_getElem? fun i => ?_
    rcases i with _ | i
    · simp only [List.getElem?_take]
      rw [if_pos (by show 0 < 1; omega), bt_list h0, e]
      rfl
    · simp only [List.getElem?_take]
      rw [if_neg (by show ¬ i + 1 < 1; omega)]
      rfl
theorem pref2 {s : ByteArray} {c d : UInt8} : prefB s ⟨[c, d].toArray⟩ = true ↔ 1 < s.size ∧ bt s 0 = c.toNat ∧ bt s 1 = d.toNat := by
  constructor
  · intro h
    obtain ⟨h1, h2⟩ := pref_list h
    have h0 : 1 < s.size := h1
    have a := congrArg (fun l => l[0]?) h2
    have b := congrArg (fun l => l[1]?) h2
    simp only [List.getElem?_take] at a b
    rw [if_pos (by show 0 < 2; omega), bt_list (by omega)] at a
    rw [if_pos (by show 1 < 2; omega), bt_list h0] at b
    rw [bt_eq h0, bt_eq (pos := 0) (by omega)]
    have e : s[0] = c := by simpa using a
    have f : s[1] = d := by simpa using b
    rw [e, f]
    exact ⟨h0, rfl, rfl⟩
  · rintro ⟨h0, h1, h2⟩
    refine pref_of h0 ?_
    rw [bt_eq (pos := 0) (by omega)] at h1
    rw [bt_eq h0] at h2
    have e : s[0] = c := UInt8.toNat_inj.1 h1
    have f : s[1] = d := UInt8.toNat_inj.1 h2
    refine List.ext_getElem? fun i => ?_
    simp only [List.getElem?_take]
    rcases i with _ | _ | i
    · rw [if_pos (by show 0 < 2; omega), bt_list (by omega), e]
      rfl
    · rw [if_pos (by show 0 + 1 < 2; omega), bt_list h0, f]
      rfl
    · rw [if_neg (by show ¬ i + 2 < 2; omega)]
      rfl
theorem sg_two {s : ByteArray} {k : Nat} (hk : k < 25) (hp : prefB s (sgS k) = true) (h2 : (sgS k).size = 2) : 1 < s.size ∧ twoB (bt s 0) (bt s 1) = true := by
  have h : k = 0 ∨ k = 1 ∨ k = 2 ∨ k = 3 ∨ k = 4 ∨ k = 5 ∨ k = 6 ∨ k = 7 ∨ k = 8 ∨ k = 9 ∨ k = 10 ∨ k = 11 ∨ k = 12 ∨ k = 13 ∨ k = 14 ∨ k = 15 ∨ k = 16 ∨ k = 17 ∨ k = 18 ∨ k = 19 ∨ k = 20 ∨ k = 21 ∨ k = 22 ∨ k = 23 ∨ k = 24 := by omega
  rcases h with rfl | rfl | rfl | rfl | rfl | rfl | rfl | rfl | rfl | rfl | rfl | rfl | rfl | rfl | rfl | rfl | rfl | rfl | rfl | rfl | rfl | rfl | rfl | rfl | rfl
  all_goals first
    | exact absurd h2 (by decide)
    | (obtain ⟨h1, e1, e2⟩ := pref2.1 hp; exact ⟨h1, by rw [e1, e2]; decide⟩)
theorem sg_one {s : ByteArray} {k : Nat} (hk : k < 25) (hp : prefB s (sgS k) = true) (h2 : (sgS k).size = 1) : 0 < s.size ∧ oneB (bt s 0) = true := by
  have h : k = 0 ∨ k = 1 ∨ k = 2 ∨ k = 3 ∨ k = 4 ∨ k = 5 ∨ k = 6 ∨ k = 7 ∨ k = 8 ∨ k = 9 ∨ k = 10 ∨ k = 11 ∨ k = 12 ∨ k = 13 ∨ k = 14 ∨ k = 15 ∨ k = 16 ∨ k = 17 ∨ k = 18 ∨ k = 19 ∨ k = 20 ∨ k = 21 ∨ k = 22 ∨ k = 23 ∨ k = 24 := by omega
  rcases h with rfl | rfl | rfl | rfl | rfl | rfl | rfl | rfl | rfl | rfl | rfl | rfl | rfl | rfl | rfl | rfl | rfl | rfl | rfl | rfl | rfl | rfl | rfl | rfl | rfl
  all_goals first
    | exact absurd h2 (by decide)
    | (obtain ⟨h1, e1⟩ := pref1.1 hp; exact ⟨h1, by rw [e1]; decide⟩)
theorem sgS_ge {k : Nat} (h : k < 25) : (sgS k).size = 1 ∨ (sgS k).size = 2 := by
  have : ∀ k : Fin 25, (sgS k.1).size = 1 ∨ (sgS k.1).size = 2 := by decide
  exact this ⟨k, h⟩
theorem two_sg {s : ByteArray} (h1 : 1 < s.size) (h : twoB (bt s 0) (bt s 1) = true) : ∃ k, k < 25 ∧ prefB s (sgS k) = true ∧ (sgS k).size = 2 := by
  unfold twoB at h
  simp only [Bool.or_eq_true, Bool.and_eq_true, beq_iff_eq] at h
  have go : ∀ (c d : UInt8), bt s 0 = c.toNat ∧ bt s 1 = d.toNat → prefB s ⟨[c, d].toArray⟩ = true := fun c d e => pref2.2 ⟨h1, e.1, e.2⟩
  rcases h with ((((((h | h) | h) | h) | h) | h) | h) | h
  · exact ⟨10, by decide, go 58 61 h, by decide⟩
  · exact ⟨11, by decide, go 61 61 h, by decide⟩
  · exact ⟨12, by decide, go 33 61 h, by decide⟩
  · exact ⟨14, by decide, go 60 61 h, by decide⟩
  · exact ⟨15, by decide, go 45 62 h, by decide⟩
  · exact ⟨21, by decide, go 38 38 h, by decide⟩
  · exact ⟨22, by decide, go 124 124 h, by decide⟩
  · exact ⟨23, by decide, go 61 62 h, by decide⟩
theorem one_sg {s : ByteArray} (h1 : 0 < s.size) (h : oneB (bt s 0) = true) : ∃ k, k < 25 ∧ prefB s (sgS k) = true := by
  unfold oneB at h
  simp only [Bool.or_eq_true, beq_iff_eq] at h
  have go : ∀ (c : UInt8), bt s 0 = c.toNat → prefB s ⟨[c].toArray⟩ = true := fun c e => pref1.2 ⟨h1, e⟩
  rcases h with (((((((((((((((h | h) | h) | h) | h) | h) | h) | h) | h) | h) | h) | h) | h) | h) | h) | h) | h
  · exact ⟨0, by decide, go 40 h⟩
  · exact ⟨1, by decide, go 41 h⟩
  · exact ⟨2, by decide, go 91 h⟩
  · exact ⟨3, by decide, go 93 h⟩
  · exact ⟨4, by decide, go 123 h⟩
  · exact ⟨5, by decide, go 125 h⟩
  · exact ⟨6, by decide, go 59 h⟩
  · exact ⟨7, by decide, go 44 h⟩
  · exact ⟨8, by decide, go 58 h⟩
  · exact ⟨9, by decide, go 46 h⟩
  · exact ⟨13, by decide, go 60 h⟩
  · exact ⟨16, by decide, go 43 h⟩
  · exact ⟨17, by decide, go 45 h⟩
  · exact ⟨18, by decide, go 42 h⟩
  · exact ⟨19, by decide, go 33 h⟩
  · exact ⟨20, by decide, go 63 h⟩
  · exact ⟨24, by decide, go 64 h⟩
theorem gM_has {g : Nat → ByteArray} {s : ByteArray} : ∀ {n k : Nat}, k < n → prefB s (g k) = true → (g k).size ≤ gM g s n
  | 0, _, h, _ => absurd h (Nat.not_lt_zero _)
  | n + 1, k, h, hp => by
    unfold gM
    by_cases e : k = n
    · subst e
      rw [if_pos hp]; omega
    · have := gM_has (g := g) (s := s) (n := n) (k := k) (by omega) hp
      split <;> omega
theorem gM_from {g : Nat → ByteArray} {s : ByteArray} : ∀ n, gM g s n = 0 ∨ ∃ k, k < n ∧ prefB s (g k) = true ∧ (g k).size = gM g s n
  | 0 => .inl rfl
  | n + 1 => by
    unfold gM
    by_cases hp : prefB s (g n) = true
    · rw [if_pos hp]
      rcases Nat.le_total (gM g s n) (g n).size with h | h
      · exact .inr ⟨n, by omega, hp, by omega⟩
      · rcases gM_from (g := g) (s := s) n with h0 | ⟨k, h1, h2, h3⟩
        · exact .inl (by omega)
        · exact .inr ⟨k, by omega, h2, by omega⟩
    · rw [if_neg hp]
      rcases gM_from (g := g) (s := s) n with h0 | ⟨k, h1, h2, h3⟩
      · exact .inl h0
      · exact .inr ⟨k, by omega, h2, h3⟩
/-- The longest sign, by the first two bytes. -/
theorem sign_eq (s : ByteArray) : gM sgS s 25 = signN s := by
  unfold signN
  have hle := gM_le (g := sgS) (fun k hk => sgS_le hk) s 25 (Nat.le_refl _)
  by_cases h2 : 1 < s.size ∧ twoB (bt s 0) (bt s 1) = true
  · rw [if_pos h2]
    obtain ⟨k, hk, hp, hz⟩ := two_sg h2.1 h2.2
    have := gM_has (g := sgS) hk hp
    omega
  · rw [if_neg h2]
    by_cases h1 : 0 < s.size ∧ oneB (bt s 0) = true
    · rw [if_pos h1]
      obtain ⟨k, hk, hp⟩ := one_sg h1.1 h1.2
      have hge := gM_has (g := sgS) hk hp
      have hz := sgS_ge hk
      rcases gM_from (g := sgS) (s := s) 25 with h0 | ⟨j, g1, g2, g3⟩
      · omega
      · rcases sgS_ge g1 with e | e
        · omega
        · exact absurd (sg_two g1 g2 e) h2
    · rw [if_neg h1]
      rcases gM_from (g := sgS) (s := s) 25 with h0 | ⟨j, g1, g2, g3⟩
      · exact h0
      · rcases sgS_ge g1 with e | e
        · exact absurd (sg_one g1 g2 e) h1
        · exact absurd (sg_two g1 g2 e) h2
/-- The program's sign. -/
theorem sign_any (s : ByteArray) (w : World) (hs : SgW w) : Calls Tryz.prog 98 #[.string s] w fun e w' => e = .returned (.int .i64 (signN s)) ∧ w' = w := by
  have := sign_any' sgS (fun k hk => sgS_le hk) s w hs
  rw [sign_eq] at this
  exact this
end Go.Proofs.YtmnigdphikoljaaGreatDoor.lx
namespace Go.Proofs.YtmnigdphikoljaaGreatDoor.lx
open Go.ChangeShapes Go.WideShapes Go.ChangeAt Go.RowKit Go.Deep

theorem clone_any (s : ByteArray) (w : World) (hs : s.size ≤ 281474976710656) : Calls Tryz.prog 95 #[.string s] w fun e w' => e = .returned (.string s) ∧ Below w.heap.size w w' := by
  go_enter Tryz.func95, Tryz.ntmps95
  go_wp2_with fail
  refine (Tryz.stringslite_Clone s _ hs).mono ?_
  rintro e w' ⟨rfl, hb⟩
  go_wp2
  go_ret
  exact ⟨rfl, hb⟩
end Go.Proofs.YtmnigdphikoljaaGreatDoor.lx
namespace Go.Proofs.YtmnigdphikoljaaGreatDoor.lx
open Go.ChangeShapes Go.WideShapes Go.ChangeAt Go.RowKit Go.Deep

/-- What first tells. -/
def firstV (nm : List UInt8 → Int × Bool) (s : ByteArray) : Value :=
  match firstP nm s with
  | .error why => .tuple #[.agg #[.int .i64 0, .int .i64 0, .int .i64 0, .string ⟨#[]⟩], .int .i64 (why : Nat)]
  | .ok (k, n, m) => .tuple #[.agg #[.int .i64 (k : Nat), .int .i64 n, .int .i64 0, .string (s.extract 0 m)], .int .i64 0]
/-- What num.Number tells of texts. -/
def NumC (nm : List UInt8 → Int × Bool) (w : World) : Prop := ∀ (t : ByteArray) (W : World), t.size ≤ 20000 → Below w.heap.size w W → Calls Tryz.prog 97 #[.string t] W fun e w' => e = .returned (.tuple #[.int .i64 (nm t.data.toList).1, .bool (nm t.data.toList).2]) ∧ Below W.heap.size W w'
/-- A token's cells that the call itself made. -/
def TZ (W : World) (b : Nat) : Prop := W.cell? ⟨b, 0, none⟩ = some (.int .i64 0) ∧ W.cell? ⟨b, 1, none⟩ = some (.int .i64 0) ∧ W.cell? ⟨b, 2, none⟩ = some (.int .i64 0) ∧ W.cell? ⟨b, 3, none⟩ = some (.string ⟨#[]⟩) ∧ b < W.heap.size ∧ ∀ i, W.frozen? ⟨b, i, none⟩ = false
theorem TZ.below {W W' : World} {b : Nat} (h : TZ W b) (k : Below W.heap.size W W') : TZ W' b :=
  ⟨(k.cell (p := ⟨b, 0, none⟩) h.2.2.2.2.1).trans h.1, (k.cell (p := ⟨b, 1, none⟩) h.2.2.2.2.1).trans h.2.1, (k.cell (p := ⟨b, 2, none⟩) h.2.2.2.2.1).trans h.2.2.1, (k.cell (p := ⟨b, 3, none⟩) h.2.2.2.2.1).trans h.2.2.2.1, Nat.lt_of_lt_of_le h.2.2.2.2.1 k.size, fun i => (World.frozen?_of_block (k.block b h.2.2.2.2.1)).trans (h.2.2.2.2.2 i)⟩
theorem TZ.made (w : World) (t : TypeId) : TZ (w.alloc (.cells #[.int .i64 0, .int .i64 0, .int .i64 0, .string ⟨#[]⟩] t)) w.heap.size :=
  ⟨World.cell?_alloc_at _ _ _ _ (by simp), World.cell?_alloc_at _ _ _ _ (by simp), World.cell?_alloc_at _ _ _ _ (by simp), World.cell?_alloc_at _ _ _ _ (by simp), by simp, fun i => World.frozen?_alloc_at _ _ _ _ (by simp)⟩
theorem SgW.below {w W : World} (h : SgW w) (k : Below w.heap.size w W) : SgW W := fun i hi => (k.cell (p := ⟨0, i, none⟩) (World.block_lt_of_cell? _ _ (h i hi))).trans (h i hi)
theorem fv_word {nm : List UInt8 → Int × Bool} {s : ByteArray} (h : ¬ 16 < wordN s) (h0 : 0 < wordN s) : firstV nm s = .tuple #[.agg #[.int .i64 1, .int .i64 0, .int .i64 0, .string (s.extract 0 (wordN s))], .int .i64 0] := by
  unfold firstV firstP; rw [if_neg h, if_pos h0]; rfl
theorem fv_long {nm : List UInt8 → Int × Bool} {s : ByteArray} (h : 16 < wordN s) : firstV nm s = .tuple #[.agg #[.int .i64 0, .int .i64 0, .int .i64 0, .string ⟨#[]⟩], .int .i64 6] := by
  unfold firstV firstP; rw [if_pos h]; rfl
theorem fv_num {nm : List UInt8 → Int × Bool} {s : ByteArray} (h : wordN s = 0) (h0 : 0 < digN s) (hn : (nm (s.extract 0 (digN s)).data.toList).2 = true) : firstV nm s = .tuple #[.agg #[.int .i64 2, .int .i64 (nm (s.extract 0 (digN s)).data.toList).1, .int .i64 0, .string (s.extract 0 (digN s))], .int .i64 0] := by
  unfold firstV firstP; rw [if_neg (by omega), if_neg (by omega), if_pos h0, if_pos hn]; rfl
theorem fv_bad {nm : List UInt8 → Int × Bool} {s : ByteArray} (h : wordN s = 0) (h0 : 0 < digN s) (hn : (nm (s.extract 0 (digN s)).data.toList).2 = false) : firstV nm s = .tuple #[.agg #[.int .i64 0, .int .i64 0, .int .i64 0, .string ⟨#[]⟩], .int .i64 10] := by
  unfold firstV firstP; rw [if_neg (by omega), if_neg (by omega), if_pos h0, if_neg (by rw [hn]; decide)]; rfl
theorem fv_sign {nm : List UInt8 → Int × Bool} {s : ByteArray} (h : wordN s = 0) (h0 : digN s = 0) (h1 : 0 < signN s) : firstV nm s = .tuple #[.agg #[.int .i64 3, .int .i64 0, .int .i64 0, .string (s.extract 0 (signN s))], .int .i64 0] := by
  unfold firstV firstP; rw [if_neg (by omega), if_neg (by omega), if_neg (by omega), if_pos h1]; rfl
theorem fv_none {nm : List UInt8 → Int × Bool} {s : ByteArray} (h : wordN s = 0) (h0 : digN s = 0) (h1 : signN s = 0) : firstV nm s = .tuple #[.agg #[.int .i64 0, .int .i64 0, .int .i64 0, .string ⟨#[]⟩], .int .i64 13] := by
  unfold firstV firstP; rw [if_neg (by omega), if_neg (by omega), if_neg (by omega), if_neg (by omega)]; rfl
theorem signN_le (s : ByteArray) : signN s ≤ s.size := by
  unfold signN
  split
  · omega
  · split <;> omega
set_option maxRecDepth 100000 in
set_option maxHeartbeats 4000000 in
theorem first_any (nm : List UInt8 → Int × Bool) (s : ByteArray) (w : World) (hz : s.size ≤ 20000) (hs : SgW w) (hn : NumC nm w) : Calls Tryz.prog 62 #[.string s] w fun e w' => e = .returned (firstV nm s) ∧ Below w.heap.size w w' := by
  obtain ⟨b, HB⟩ : ∃ b, Hid (b = w.heap.size) := ⟨_, Lib.hid rfl⟩
  obtain ⟨w1, HW1⟩ : ∃ w1, Hid (w1 = w.alloc (.cells #[.int .i64 0, .int .i64 0, .int .i64 0, .string ⟨#[]⟩] 107)) := ⟨_, Lib.hid rfl⟩
  have HT1 : Hid (TZ w1 b) := Lib.hid (by rw [HW1.out, HB.out]; exact TZ.made _ _)
  have HB1 : Hid (Below b w w1) := Lib.hid (by rw [HW1.out, HB.out]; exact (Below.refl _ _).alloc (Nat.le_refl _) _)
  have HNC : Hid (∀ (t : ByteArray) (W : World), t.size ≤ 20000 → Below b w W → Calls Tryz.prog 97 #[.string t] W fun e w' => e = .returned (.tuple #[.int .i64 (nm t.data.toList).1, .bool (nm t.data.toList).2]) ∧ Below W.heap.size W w') := Lib.hid (fun t W h1 h2 => hn t W h1 (by rw [HB.out] at h2; exact h2))
  have HSG : Hid (∀ W, Below b w W → SgW W) := Lib.hid (fun W h2 => hs.below (by rw [HB.out] at h2; exact h2))
  have hwl : wordN s ≤ s.size := stopF_le _ _ _ _
  have hdl : digN s ≤ s.size := stopF_le _ _ _ _
  have hsl : signN s ≤ s.size := signN_le s
  have HW := Lib.hid (word_any s w1)
  have HEX : Hid (∀ n, n ≤ s.size → (s.extract 0 n).size ≤ 20000) := Lib.hid (fun n hn => by rw [ByteArray.size_extract]; omega)
  clear hs hn
  rw [← HB.out]
  go_enter Tryz.func62, Tryz.ntmps62
  go_upto_region 1 with (fail)
  rw [← HW1.out, ← HB.out]
  go_wp2_with fail
  refine HW.out.mono ?_
  rintro e w2 ⟨rfl, hb2⟩
  have HT2 := Lib.hid (HT1.out.below hb2)
  have HB2 : Hid (Below b w w2) := Lib.hid (HB1.out.trans (hb2.mono (Nat.le_of_lt HT1.out.2.2.2.2.1)))
  clear hb2
  obtain ⟨n1, HN1⟩ : ∃ n, Hid (wordN s = n) := ⟨_, Lib.hid rfl⟩
  rw [show stopF okB s s.size 0 = n1 from HN1.out]
  rw [HN1.out] at hwl
  have hwl2 : (n1 : Int) ≤ (s.size : Int) := by omega
  by_cases h16 : 16 < n1
  · have HV := Lib.hid (fv_long (nm := nm) (s := s) (by rw [HN1.out]; exact h16))
    have g16 : (16 : Int) < (n1 : Int) := by omega
    have z0 := HT2.out.1
    have z1 := HT2.out.2.1
    have z2 := HT2.out.2.2.1
    have z3 := HT2.out.2.2.2.1
    have f0 := HT2.out.2.2.2.2.2 0
    have f1 := HT2.out.2.2.2.2.2 1
    have f2 := HT2.out.2.2.2.2.2 2
    have f3 := HT2.out.2.2.2.2.2 3
    go_wp2
    (try simp only [Exit.inBlock, Exit.then])
    refine bodyPost_ret (v := .tuple #[.agg #[.int .i64 0, .int .i64 0, .int .i64 0, .string ⟨#[]⟩], .int .i64 6]) ?_ rfl ⟨by rw [HV.out], ?_⟩
    · rw [results_cell_tmp rfl]; go_simp
    · (repeat' (first | exact HB2.out | exact Below.refl _ _ | refine Below.drew ?_ | refine Below.setCell ?_ (by first | exact Nat.le_refl _ | (simp <;> omega)) _))
  · have g16 : ¬ (16 : Int) < (n1 : Int) := by omega
    by_cases h0 : 0 < n1
    · have HV := Lib.hid (fv_word (nm := nm) (s := s) (by rw [HN1.out]; exact h16) (by rw [HN1.out]; exact h0))
      have g0 : (0 : Int) < (n1 : Int) := by omega
      rw [HN1.out] at HV
      go_wp2_with fail
      refine (clone_any (s.extract 0 n1) _ (by have := HEX.out n1 hwl; omega)).mono ?_
      rintro e w3 ⟨rfl, hb3⟩
      have HT3 := Lib.hid (HT2.out.below hb3)
      have HB3 : Hid (Below b w w3) := Lib.hid (HB2.out.trans (hb3.mono (Nat.le_of_lt HT2.out.2.2.2.2.1)))
      clear hb3
      generalize s.extract 0 n1 = q at HV ⊢
      have z0 := HT3.out.1
      have z1 := HT3.out.2.1
      have z2 := HT3.out.2.2.1
      have z3 := HT3.out.2.2.2.1
      have f0 := HT3.out.2.2.2.2.2 0
      have f1 := HT3.out.2.2.2.2.2 1
      have f2 := HT3.out.2.2.2.2.2 2
      have f3 := HT3.out.2.2.2.2.2 3
      go_wp2
      (try simp only [Exit.inBlock, Exit.then])
      refine bodyPost_ret (v := .tuple #[.agg #[.int .i64 1, .int .i64 0, .int .i64 0, .string q], .int .i64 0]) ?_ rfl ⟨by rw [HV.out], ?_⟩
      · rw [results_cell_tmp rfl]; go_simp
      · (repeat' (first | exact HB3.out | exact Below.refl _ _ | refine Below.drew ?_ | refine Below.setCell ?_ (by first | exact Nat.le_refl _ | (simp <;> omega)) _))
    · obtain rfl : n1 = 0 := by omega
      have HD := Lib.hid (digits_any s w2)
      go_wp2_with fail
      refine HD.out.mono ?_
      rintro e w3 ⟨rfl, hb3⟩
      have HT3 := Lib.hid (HT2.out.below hb3)
      have HB3 : Hid (Below b w w3) := Lib.hid (HB2.out.trans (hb3.mono (Nat.le_of_lt HT2.out.2.2.2.2.1)))
      clear hb3
      obtain ⟨n2, HN2⟩ : ∃ n, Hid (digN s = n) := ⟨_, Lib.hid rfl⟩
      rw [show stopF dgB s s.size 0 = n2 from HN2.out]
      rw [HN2.out] at hdl
      have hdl2 : (n2 : Int) ≤ (s.size : Int) := by omega
      by_cases h0 : 0 < n2
      · have g0 : (0 : Int) < (n2 : Int) := by omega
        have HNU := Lib.hid (HNC.out (s.extract 0 n2) w3 (HEX.out n2 hdl) HB3.out)
        cases hnb : (nm (s.extract 0 n2).data.toList).2 with
        | false =>
          have HV := Lib.hid (fv_bad (nm := nm) (s := s) HN1.out (by rw [HN2.out]; exact h0) (by rw [HN2.out]; exact hnb))
          have HNB := Lib.hid hnb
          clear hnb
          go_wp2_with fail
          refine HNU.out.mono ?_
          rw [HNB.out]
          rintro e w4 ⟨rfl, hb4⟩
          have HT4 := Lib.hid (HT3.out.below hb4)
          have HB4 : Hid (Below b w w4) := Lib.hid (HB3.out.trans (hb4.mono (Nat.le_of_lt HT3.out.2.2.2.2.1)))
          clear hb4
          generalize (nm (s.extract 0 n2).data.toList).1 = v0
          have z0 := HT4.out.1
          have z1 := HT4.out.2.1
          have z2 := HT4.out.2.2.1
          have z3 := HT4.out.2.2.2.1
          have f0 := HT4.out.2.2.2.2.2 0
          have f1 := HT4.out.2.2.2.2.2 1
          have f2 := HT4.out.2.2.2.2.2 2
          have f3 := HT4.out.2.2.2.2.2 3
          go_wp2
          (try simp only [Exit.inBlock, Exit.then])
          refine bodyPost_ret (v := .tuple #[.agg #[.int .i64 0, .int .i64 0, .int .i64 0, .string ⟨#[]⟩], .int .i64 10]) ?_ rfl ⟨by rw [HV.out], ?_⟩
          · rw [results_cell_tmp rfl]; go_simp
          · (repeat' (first | exact HB4.out | exact Below.refl _ _ | refine Below.drew ?_ | refine Below.setCell ?_ (by first | exact Nat.le_refl _ | (simp <;> omega)) _))
        | true =>
          have HV := Lib.hid (fv_num (nm := nm) (s := s) HN1.out (by rw [HN2.out]; exact h0) (by rw [HN2.out]; exact hnb))
          have HNB := Lib.hid hnb
          rw [HN2.out] at HV
          clear hnb
          go_wp2_with fail
          refine HNU.out.mono ?_
          rw [HNB.out]
          rintro e w4 ⟨rfl, hb4⟩
          have HT4 := Lib.hid (HT3.out.below hb4)
          have HB4 : Hid (Below b w w4) := Lib.hid (HB3.out.trans (hb4.mono (Nat.le_of_lt HT3.out.2.2.2.2.1)))
          clear hb4
          generalize (nm (s.extract 0 n2).data.toList).1 = v0 at HV ⊢
          go_wp2_with fail
          refine (clone_any (s.extract 0 n2) _ (by have := HEX.out n2 hdl; omega)).mono ?_
          rintro e w5 ⟨rfl, hb5⟩
          have HT5 := Lib.hid (HT4.out.below hb5)
          have HB5 : Hid (Below b w w5) := Lib.hid (HB4.out.trans (hb5.mono (Nat.le_of_lt HT4.out.2.2.2.2.1)))
          clear hb5
          generalize s.extract 0 n2 = q at HV ⊢
          have z0 := HT5.out.1
          have z1 := HT5.out.2.1
          have z2 := HT5.out.2.2.1
          have z3 := HT5.out.2.2.2.1
          have f0 := HT5.out.2.2.2.2.2 0
          have f1 := HT5.out.2.2.2.2.2 1
          have f2 := HT5.out.2.2.2.2.2 2
          have f3 := HT5.out.2.2.2.2.2 3
          go_wp2
          (try simp only [Exit.inBlock, Exit.then])
          refine bodyPost_ret (v := .tuple #[.agg #[.int .i64 2, .int .i64 v0, .int .i64 0, .string q], .int .i64 0]) ?_ rfl ⟨by rw [HV.out], ?_⟩
          · rw [results_cell_tmp rfl]; go_simp
          · (repeat' (first | exact HB5.out | exact Below.refl _ _ | refine Below.drew ?_ | refine Below.setCell ?_ (by first | exact Nat.le_refl _ | (simp <;> omega)) _))
      · obtain rfl : n2 = 0 := by omega
        have HS := Lib.hid (sign_any s w3 (HSG.out w3 HB3.out))
        go_wp2_with fail
        refine HS.out.mono ?_
        rintro e w4 ⟨rfl, rfl⟩
        obtain ⟨n3, HN3⟩ : ∃ n, Hid (signN s = n) := ⟨_, Lib.hid rfl⟩
        rw [HN3.out] at hsl ⊢
        have hsl2 : (n3 : Int) ≤ (s.size : Int) := by omega
        by_cases h3 : 0 < n3
        · have g3 : (0 : Int) < (n3 : Int) := by omega
          have HV := Lib.hid (fv_sign (nm := nm) (s := s) HN1.out HN2.out (by rw [HN3.out]; exact h3))
          rw [HN3.out] at HV
          go_wp2_with fail
          refine (clone_any (s.extract 0 n3) _ (by have := HEX.out n3 hsl; omega)).mono ?_
          rintro e w5 ⟨rfl, hb5⟩
          have HT5 := Lib.hid (HT3.out.below hb5)
          have HB5 : Hid (Below b w w5) := Lib.hid (HB3.out.trans (hb5.mono (Nat.le_of_lt HT3.out.2.2.2.2.1)))
          clear hb5
          generalize s.extract 0 n3 = q at HV ⊢
          have z0 := HT5.out.1
          have z1 := HT5.out.2.1
          have z2 := HT5.out.2.2.1
          have z3 := HT5.out.2.2.2.1
          have f0 := HT5.out.2.2.2.2.2 0
          have f1 := HT5.out.2.2.2.2.2 1
          have f2 := HT5.out.2.2.2.2.2 2
          have f3 := HT5.out.2.2.2.2.2 3
          go_wp2
          (try simp only [Exit.inBlock, Exit.then])
          refine bodyPost_ret (v := .tuple #[.agg #[.int .i64 3, .int .i64 0, .int .i64 0, .string q], .int .i64 0]) ?_ rfl ⟨by rw [HV.out], ?_⟩
          · rw [results_cell_tmp rfl]; go_simp
          · (repeat' (first | exact HB5.out | exact Below.refl _ _ | refine Below.drew ?_ | refine Below.setCell ?_ (by first | exact Nat.le_refl _ | (simp <;> omega)) _))
        · obtain rfl : n3 = 0 := by omega
          have HV := Lib.hid (fv_none (nm := nm) (s := s) HN1.out HN2.out HN3.out)
          have z0 := HT3.out.1
          have z1 := HT3.out.2.1
          have z2 := HT3.out.2.2.1
          have z3 := HT3.out.2.2.2.1
          have f0 := HT3.out.2.2.2.2.2 0
          have f1 := HT3.out.2.2.2.2.2 1
          have f2 := HT3.out.2.2.2.2.2 2
          have f3 := HT3.out.2.2.2.2.2 3
          go_wp2
          (try simp only [Exit.inBlock, Exit.then])
          refine bodyPost_ret (v := .tuple #[.agg #[.int .i64 0, .int .i64 0, .int .i64 0, .string ⟨#[]⟩], .int .i64 13]) ?_ rfl ⟨by rw [HV.out], ?_⟩
          · rw [results_cell_tmp rfl]; go_simp
          · (repeat' (first | exact HB3.out | exact Below.refl _ _ | refine Below.drew ?_ | refine Below.setCell ?_ (by first | exact Nat.le_refl _ | (simp <;> omega)) _))
end Go.Proofs.YtmnigdphikoljaaGreatDoor.lx
namespace Go.Proofs.YtmnigdphikoljaaGreatDoor.lx
open Go.ChangeShapes Go.WideShapes Go.ChangeAt Go.RowKit Go.Deep

def cellT (t : Tok) : List Value := [.int .i64 (t.kind : Nat), .int .i64 t.num, .int .i64 (t.pos : Nat), .string t.text]
def flatT (l : List Tok) : List Value := l.flatMap cellT
theorem flatT_snoc (l : List Tok) (t : Tok) : flatT (l ++ [t]) = flatT l ++ cellT t := by unfold flatT; simp
/-- A row of tokens of the call's own. -/
def OT (base : Nat) (w : World) (v : Value) (l : List Tok) : Prop := w.ownsRow base 107 4 v l.length (flatT l)
theorem OT.nil (base : Nat) (w : World) : OT base w (.slice none 0 0) [] := World.ownsRow_nil _ _ _ _
set_option maxRecDepth 20000 in
/-- append of one token onto a row of the call's own. -/
theorem append_tok {w : World} {ops : Array Oper} {rest : List Oper} {o : Oper} {a : Act} {Q : Exit → Act → World → Prop} (hgd : o.guard = none) (s x : Operand)
    (ho : o.op = .call { callee := .builtin .append, args := #[s, x], argTypes := #[58, 58] })
    (base : Nat) (v : Value) (l : List Tok) (hs : a.eval s = v) (hown : OT base w v l) (k p : Nat) (n : Int) (t : ByteArray)
    (hx : a.eval x = .slice (some ⟨w.heap.size, 0, none⟩) 1 1) (hlen : l.length + 1 ≤ 1000000) (hbase : base ≤ w.heap.size)
    (h : ∀ v' w', OT base w' v' (l ++ [⟨k, n, p, t⟩]) → Below base w w' → (w.alloc (.cells #[.int .i64 (k : Nat), .int .i64 n, .int .i64 (p : Nat), .string t] 107)).grownBy w' v.ownBlock → wpList Tryz.prog ops Q rest (a.put o.dst v') w') :
    wpList Tryz.prog ops Q (o :: rest) a (w.alloc (.cells #[.int .i64 (k : Nat), .int .i64 n, .int .i64 (p : Nat), .string t] 107)) := by
  obtain ⟨i0, hi, hz0, hz1, hz2⟩ := info_parts (show (Tryz.prog.info? 107).map (fun i => (i.zero, i.size, i.bytes)) = some (some (.agg #[.int .i64 0, .int .i64 0, .int .i64 0, .string ⟨#[]⟩]), 4, 40) by kernel_rfl)
  refine wpList_append_own_at _ hgd s x 58 ho base 107 i0 (.agg #[.int .i64 0, .int .i64 0, .int .i64 0, .string ⟨#[]⟩]) 4 40 Tryz.underlying58 hi hz0 hz1 hz2 rfl (by decide) v l.length _ hs (World.ownsRow.alloc hown _) ⟨w.heap.size, 0, none⟩ 1 1 (cellT ⟨k, n, p, t⟩) hx rfl (fun j u hju => by
    rw [add_plain]
    rcases j with _ | _ | _ | _ | j
    · obtain rfl := Option.some.inj hju
      exact cell_of_row _ _ 0 _ _ _ (World.alloc_heap_new w _)
    · obtain rfl := Option.some.inj hju
      exact cell_of_row _ _ 1 _ _ _ (World.alloc_heap_new w _)
    · obtain rfl := Option.some.inj hju
      exact cell_of_row _ _ 2 _ _ _ (World.alloc_heap_new w _)
    · obtain rfl := Option.some.inj hju
      exact cell_of_row _ _ 3 _ _ _ (World.alloc_heap_new w _)
    · simp [cellT] at hju) (fun u hu => by
    simp only [cellT, List.mem_cons, List.not_mem_nil, or_false] at hu
    rcases hu with rfl | rfl | rfl | rfl <;> simp [Value.oneCell']) (by unfold maxLen; omega) (by omega) (by simp; omega) ?_
  intro v' w' hown' hgrow _ hb
  refine h v' w' ?_ (Below.grown ((Below.refl _ _).alloc hbase _) hgrow (by simp; omega) (fun q hq => (World.ownsRow.lt hown q hq).1)) hgrow
  show w'.ownsRow base 107 4 v' (l ++ [(⟨k, n, p, t⟩ : Tok)]).length (flatT (l ++ [⟨k, n, p, t⟩]))
  rw [List.length_append, flatT_snoc]
  exact hown'
end Go.Proofs.YtmnigdphikoljaaGreatDoor.lx
