/- The library's HasPrefix; the program's sign. -/
import Derived.Test.YtcielemahmpppaaDoorLexStop
import Derived.Deep.MidRow
namespace Go.Proofs.YtcielemahmpppaaDoor.lx
open Go.ChangeShapes Go.WideShapes Go.ChangeAt Go.RowKit Go.Deep

/-- Does one text begin with the other one? -/
def prefB (s p : ByteArray) : Bool := decide (p.size ≤ s.size) && ((s.extract 0 p.size).toList == p.toList)
set_option maxRecDepth 100000 in
theorem hasPrefix_lite (s p : ByteArray) (w : World) : Calls Tryd.prog 52 #[.string s, .string p] w fun e w' => e = .returned (.bool (prefB s p)) ∧ w' = w := by
  by_cases h : p.size ≤ s.size
  · have HE : Hid (prefB s p = ((s.extract 0 p.size).toList == p.toList)) := Lib.hid (by unfold prefB; rw [decide_eq_true h, Bool.true_and])
    have h2 : (p.size : Int) ≤ (s.size : Int) := by omega
    go_enter Tryd.func52, Tryd.ntmps52
    go_wp2
    go_ret
    exact ⟨by rw [HE.out]; rfl, rfl⟩
  · have HE : Hid (prefB s p = false) := Lib.hid (by unfold prefB; rw [decide_eq_false h, Bool.false_and])
    have h2 : ¬ (p.size : Int) ≤ (s.size : Int) := by omega
    go_enter Tryd.func52, Tryd.ntmps52
    go_wp2
    go_ret
    exact ⟨by rw [HE.out]; rfl, rfl⟩
theorem hasPrefix_any (s p : ByteArray) (w : World) : Calls Tryd.prog 31 #[.string s, .string p] w fun e w' => e = .returned (.bool (prefB s p)) ∧ w' = w := by
  go_enter Tryd.func31, Tryd.ntmps31
  go_wp2_with fail
  refine (hasPrefix_lite s p _).mono ?_
  rintro e w' ⟨rfl, rfl⟩
  go_wp2
  go_ret
  exact ⟨rfl, rfl⟩

/-- The signs, in the program's order. -/
def sgL : List (List UInt8) := [[40], [41], [91], [93], [123], [125], [59], [44], [58], [46], [58, 61], [61, 61], [33, 61], [60], [60, 61], [45, 62], [43], [45], [42], [33], [63], [38, 38], [124, 124], [61, 62], [64]]
def sgS (k : Nat) : ByteArray := ⟨(sgL.getD k []).toArray⟩
def sgA : Array Value := (sgL.map fun l => Value.string ⟨l.toArray⟩).toArray
/-- The table of the signs lies where the program has it. -/
def SgW (w : World) : Prop := ∀ i, i < 25 → w.cell? ⟨0, i, none⟩ = some (.string (sgS i))
theorem sgS_le {k : Nat} (h : k < 25) : (sgS k).size ≤ 2 := by
  have : ∀ k : Fin 25, (sgS k.1).size ≤ 2 := by decide
  exact this ⟨k, h⟩
/-- The longest one of the first k texts that a text begins with. -/
def gM (g : Nat → ByteArray) (s : ByteArray) : Nat → Nat
  | 0 => 0
  | k + 1 => if prefB s (g k) = true then max (gM g s k) (g k).size else gM g s k
theorem gM_le {g : Nat → ByteArray} (hz : ∀ k, k < 25 → (g k).size ≤ 2) (s : ByteArray) : ∀ k, k ≤ 25 → gM g s k ≤ 2
  | 0, _ => by simp [gM]
  | k + 1, h => by
    have h1 := gM_le hz s k (by omega)
    have h2 := hz k (by omega)
    unfold gM
    split <;> omega
def gL (g : Nat → ByteArray) : List Value := (List.range 25).map fun i => .string (g i)
set_option maxRecDepth 100000 in
theorem sg_at (g : Nat → ByteArray) {k : Nat} (hk : k < 25) (W : World) : (Instr.index 84 (.agg (gL g).toArray) (.int .i64 (k : Int))).run Tryd.prog W = .ok (.string (g k)) W := by
  have h : k = 0 ∨ k = 1 ∨ k = 2 ∨ k = 3 ∨ k = 4 ∨ k = 5 ∨ k = 6 ∨ k = 7 ∨ k = 8 ∨ k = 9 ∨ k = 10 ∨ k = 11 ∨ k = 12 ∨ k = 13 ∨ k = 14 ∨ k = 15 ∨ k = 16 ∨ k = 17 ∨ k = 18 ∨ k = 19 ∨ k = 20 ∨ k = 21 ∨ k = 22 ∨ k = 23 ∨ k = 24 := by omega
  rcases h with h | h | h | h | h | h | h | h | h | h | h | h | h | h | h | h | h | h | h | h | h | h | h | h | h
  all_goals (subst h; show _ = _; first | rfl | kernel_rfl)
set_option maxRecDepth 100000 in
set_option maxHeartbeats 2000000 in
theorem sign_any' (g : Nat → ByteArray) (hz : ∀ k, k < 25 → (g k).size ≤ 2) (s : ByteArray) (w : World) (hs : ∀ i, i < 25 → w.cell? ⟨0, i, none⟩ = some (.string (g i))) : Calls Tryd.prog 41 #[.string s] w fun e w' => e = .returned (.int .i64 (gM g s 25)) ∧ w' = w := by
  have HZ := Lib.hid hz
  have HR : Hid (w.rangeAt 0 0 (gL g)) := Lib.hid (fun j v hv => by
    unfold gL at hv
    rw [List.getElem?_map] at hv
    by_cases hj : j < 25
    · rw [List.getElem?_range hj] at hv
      injection hv with hv
      rw [← hv, Nat.zero_add]
      exact hs j hj
    · rw [List.getElem?_eq_none (by simp; omega)] at hv
      cases hv)
  have HI : Hid (∀ k : Nat, k < 25 → ∀ W : World, (Instr.index 84 (.agg (gL g).toArray) (.int .i64 (k : Int))).run Tryd.prog W = .ok (.string (g k)) W) := Lib.hid (fun k hk W => sg_at g hk W)
  have hlen : (Tryd.prog.info? 84).map (·.size) = some (gL g).length := by kernel_rfl
  have HLEN := Lib.hid hlen
  clear hz hs hlen
  obtain ⟨gl, HGL⟩ : ∃ gl, Hid (gL g = gl) := ⟨_, Lib.hid rfl⟩
  rw [HGL.out] at HR HI HLEN
  go_enter Tryd.func41, Tryd.ntmps41
  go_wp2_with (refine wpList_load_mid rfl 84 (.global 0) rfl 0 0 rfl gl _ HR.out Tryd.underlying84 rfl HLEN.out ?_)
  go_loopw [3, 7] (fun m i wr => ∃ k : Nat, k ≤ 25 ∧ i = .int .i64 k ∧ m = .int .i64 (gM g s k) ∧ wr = w) (fun _ i _ => 25 - (intOf i).toNat)
  case atStart => exact ⟨0, by omega, rfl, rfl, by first | rfl | trivial⟩
  case round =>
    obtain ⟨k, hk, rfl, rfl, rfl⟩ := hrel
    by_cases hlt : k < 25
    · have h1 := HI.out k hlt
      have HM2 : Hid (gM g s k ≤ 2) := Lib.hid (gM_le HZ.out s k hk)
      have HS2 : Hid ((g k).size ≤ 2) := Lib.hid (HZ.out k hlt)
      obtain ⟨q, HQ⟩ : ∃ q, Hid (prefB s (g k) = q) := ⟨_, Lib.hid rfl⟩
      have HN : Hid (gM g s (k + 1) = if q = true then max (gM g s k) (g k).size else gM g s k) := Lib.hid (by rw [← HQ.out]; rfl)
      go_wp2_with fail
      clear h1
      refine (hasPrefix_any s (g k) _).mono ?_
      rw [HQ.out]
      rintro e w' ⟨rfl, rfl⟩
      cases q with
      | false =>
        go_wp2_with fail
        go_roundw
        case rel => exact ⟨k + 1, by omega, by go_num, by rw [HN.out]; rfl, by first | rfl | trivial⟩
        case measure => simp [intOf]; omega
      | true =>
        have h3 : gM g s k ≤ 2 := HM2.out
        generalize gM g s k = m at h3 HN
        go_wp2_with fail
        go_roundw
        case rel => exact ⟨k + 1, by omega, by go_num, by rw [HN.out]; simp; omega, by first | rfl | trivial⟩
        case measure => simp [intOf]; omega
    · obtain rfl : k = 25 := by omega
      go_wp2
      go_ret
      exact ⟨rfl, rfl⟩
end Go.Proofs.YtcielemahmpppaaDoor.lx
