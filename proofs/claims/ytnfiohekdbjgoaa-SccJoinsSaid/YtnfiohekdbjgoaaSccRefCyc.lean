/- The document's Cyclic. -/
import Derived.Test.YtnfiohekdbjgoaaSccCyc
namespace Go.Proofs.Ytnfiohekdbjgoaa.sc
open Go.ChangeShapes Go.WideShapes Go.ChangeAt Go.RowKit

/-- How many of the first i nodes are in the part, the last one of them. -/
def RcI (part : List Int) (i cnt last : Nat) : Prop :=
  (cnt = 0 ∧ ∀ b : Nat, b < i → (b : Int) ∉ part) ∨ (cnt = 1 ∧ last < i ∧ (last : Int) ∈ part ∧ ∀ b : Nat, b < i → (b : Int) ∈ part → b = last) ∨ (2 ≤ cnt ∧ ∃ a b : Nat, a < i ∧ b < i ∧ a ≠ b ∧ (a : Int) ∈ part ∧ (b : Int) ∈ part)
theorem RcI.no {part : List Int} {i cnt last : Nat} (h : RcI part i cnt last) (hi : (i : Int) ∉ part) : RcI part (i + 1) cnt last := by
  rcases h with ⟨h1, h2⟩ | ⟨h1, h2, h3, h4⟩ | ⟨h1, a, b, h2, h3, h4, h5⟩
  · exact .inl ⟨h1, fun b hb hm => by
      by_cases e : b = i
      · subst e; exact hi hm
      · exact h2 b (by omega) hm⟩
  · exact .inr (.inl ⟨h1, by omega, h3, fun b hb hm => by
      by_cases e : b = i
      · subst e; exact absurd hm hi
      · exact h4 b (by omega) hm⟩)
  · exact .inr (.inr ⟨h1, a, b, by omega, by omega, h4, h5⟩)
theorem RcI.yes {part : List Int} {i cnt last : Nat} (h : RcI part i cnt last) (hi : (i : Int) ∈ part) : RcI part (i + 1) (cnt + 1) i := by
  rcases h with ⟨h1, h2⟩ | ⟨h1, h2, h3, h4⟩ | ⟨h1, a, b, h2, h3, h4, h5⟩
  · exact .inr (.inl ⟨by omega, by omega, hi, fun b hb hm => by
      by_cases e : b = i
      · exact e
      · exact absurd hm (h2 b (by omega))⟩)
  · exact .inr (.inr ⟨by omega, last, i, by omega, by omega, by omega, h3, hi⟩)
  · exact .inr (.inr ⟨by omega, a, b, by omega, by omega, h4, h5⟩)
theorem RcI.not_one {n : Nat} {rows : List (List (Int × Int))} {part : List Int} {cnt last : Nat} (h : RcI part n cnt last) (h1 : cnt ≠ 1) : CyP n rows part ↔ 1 < cnt := by
  rcases h with ⟨h2, h3⟩ | ⟨h2, _⟩ | ⟨h2, a, b, h3, h4, h5, h6, h7⟩
  · constructor
    · rintro (⟨a, b, ha, _, _, hm, _⟩ | ⟨a, ha, hm, _⟩)
      · exact absurd hm (h3 a ha)
      · exact absurd hm (h3 a ha)
    · intro h; omega
  · exact absurd h2 h1
  · exact ⟨fun _ => by omega, fun _ => .inl ⟨a, b, h3, h4, h5, h6, h7⟩⟩
theorem RcI.one {n : Nat} {rows : List (List (Int × Int))} {part : List Int} {last : Nat} (h : RcI part n 1 last) : last < n ∧ (CyP n rows part ↔ eR n rows last last) := by
  rcases h with ⟨h2, _⟩ | ⟨_, h2, h3, h4⟩ | ⟨h2, _⟩
  · omega
  · exact ⟨h2, (CyI.one (.inr ⟨last, h2, rfl, h3, h4⟩))⟩
  · omega
def CycP (w : World) (n : Nat) (rows : List (List (Int × Int))) (part : List Int) (e : Ending) (w' : World) : Prop := (∃ b, e = .returned (.bool b) ∧ (b = true ↔ CyP n rows part)) ∧ Below w.heap.size w w'
set_option maxRecDepth 20000 in
set_option maxHeartbeats 4000000 in
theorem refCyclic_any' (v1 v3 : Value) (A2 : Option Addr) (c2 n : Nat) (rows : List (List (Int × Int))) (A : Option Addr) (m c : Nat) (part : List Int) (w : World) (hn : n = rows.length) (hnl : n ≤ 100) (hrow : ∀ i, (rows.getD i []).length ≤ 2000) (hA : RA w A2 rows) (hm : m = part.length) (hml : m ≤ 1000000) (hP : IA w A part) :
    Calls Try.prog 42 #[.agg #[v1, .slice A2 n c2, v3], .slice A m c] w (CycP w n rows part) := by
  have HN := Lib.hid hn
  have HM := Lib.hid hm
  have HROW := Lib.hid hrow
  obtain ⟨w1, HW1⟩ : ∃ w1, Hid (w1 = w.alloc (.cells #[v1, .slice A2 n c2, v3] 26)) := ⟨_, Lib.hid rfl⟩
  have HB1 : Hid (Below w.heap.size w w1) := Lib.hid (by rw [HW1.out]; exact (Below.refl _ _).alloc (Nat.le_refl _) _)
  obtain ⟨q0, q1, q2⟩ := box3 w v1 (.slice A2 n c2) v3 26
  rw [← HW1.out] at q0 q1 q2
  have HA := Lib.hid (RA.below hA HB1.out)
  have HP := Lib.hid (hP.below HB1.out)
  clear hn hm hrow hA hP q0 q2
  go_enter Try.func42, Try.ntmps42
  go_upto_region 1 with (fail)
  rw [← HW1.out]
  go_wp2_with fail
  go_loop [5, 6, 7] (fun a b i => ∃ (j cnt last : Nat), j ≤ n ∧ i = .int .i64 j ∧ a = .int .i64 cnt ∧ b = .int .i64 last ∧ cnt ≤ j ∧ Hid (RcI part j cnt last)) (fun _ _ i => n - (intOf i).toNat)
  case atStart => exact ⟨0, 0, 0, by omega, rfl, rfl, rfl, by omega, Lib.hid (.inl ⟨rfl, fun b hb => absurd hb (by omega)⟩)⟩
  case round =>
    obtain ⟨j, cnt, last, hj, rfl, rfl, rfl, hcj, HR⟩ := hrel
    by_cases hlt : j < n
    · go_wp2_with fail
      go_loop [8, 9] (fun s i => ∃ (k : Nat) (q : Bool), k ≤ m ∧ i = .int .i64 k ∧ s = .bool q ∧ Hid (q = (part.take k).any (fun z => decide (z = (j : Int))))) (fun _ i => m - (intOf i).toNat)
      case atStart => exact ⟨0, false, by omega, rfl, rfl, Lib.hid rfl⟩
      case round =>
        obtain ⟨k, q, hk, rfl, rfl, HQ⟩ := hrel
        by_cases hltk : k < m
        · obtain ⟨b, o, rfl, hb, hcc⟩ := HP.out (by rw [← HM.out]; omega)
          have c1 := hcc k (by rw [← HM.out]; exact hltk)
          have HT : Hid ((part.take (k + 1)).any (fun z => decide (z = (j : Int))) = (q || decide (part.getD k 0 = (j : Int)))) := Lib.hid (by
            have h : k < part.length := by rw [← HM.out]; exact hltk
            rw [List.take_succ_eq_append_getElem h, List.any_append, ← HQ.out]
            simp [List.getD, h])
          generalize part.getD k 0 = z at c1 HT
          clear hcc
          cases q with
          | true =>
            have HT2 : Hid (true = (part.take (k + 1)).any (fun z => decide (z = (j : Int)))) := Lib.hid (by rw [HT.out]; rfl)
            go_wp2
            go_round
            case rel => exact ⟨k + 1, true, by omega, by go_num, rfl, HT2⟩
            case measure => simp [intOf]; omega
          | false =>
            by_cases hz : z = (j : Int)
            · have HT2 : Hid (true = (part.take (k + 1)).any (fun z => decide (z = (j : Int)))) := Lib.hid (by rw [HT.out]; simp [hz])
              have hz1 : (z == (j : Int)) = true := by simpa using hz
              clear hz
              go_wp2
              go_round
              case rel => exact ⟨k + 1, true, by omega, by go_num, rfl, HT2⟩
              case measure => simp [intOf]; omega
            · have HT2 : Hid (false = (part.take (k + 1)).any (fun z => decide (z = (j : Int)))) := Lib.hid (by rw [HT.out]; simp [hz])
              have hz1 : (z == (j : Int)) = false := by simpa using hz
              clear hz
              go_wp2
              go_round
              case rel => exact ⟨k + 1, false, by omega, by go_num, rfl, HT2⟩
              case measure => simp [intOf]; omega
        · obtain rfl : m = k := by omega
          have HQ2 : Hid (q = part.any (fun z => decide (z = (j : Int)))) := Lib.hid (by have h := HQ.out; rwa [List.take_of_length_le (by rw [← HM.out]; exact Nat.le_refl _)] at h)
          cases q with
          | true =>
            have HIN : Hid (RcI part (j + 1) (cnt + 1) j) := Lib.hid (HR.out.yes (by
              have h := HQ2.out.symm
              rw [List.any_eq_true] at h
              obtain ⟨x, hx, h2⟩ := h
              have : x = (j : Int) := by simpa using h2
              rw [← this]; exact hx))
            go_wp2
            go_round
            case rel => exact ⟨j + 1, cnt + 1, j, by omega, by go_num, by go_num, rfl, by omega, HIN⟩
            case measure => simp [intOf]; omega
          | false =>
            have HIN : Hid (RcI part (j + 1) cnt last) := Lib.hid (HR.out.no (fun hm => by
              have h := HQ2.out.symm
              rw [List.any_eq_false] at h
              exact absurd (h _ hm) (by simp)))
            go_wp2
            go_round
            case rel => exact ⟨j + 1, cnt, last, by omega, by go_num, rfl, rfl, by omega, HIN⟩
            case measure => simp [intOf]; omega
    · obtain rfl : n = j := by omega
      by_cases h1 : cnt = 1
      · subst h1
        obtain ⟨hln, hiff⟩ := HR.out.one (rows := rows)
        have HIFF := Lib.hid hiff
        obtain ⟨b, o, rfl, hb, hcc⟩ := HA.out (by rw [← HN.out]; omega)
        obtain ⟨A', c', hcell, hle, hmx, hpa⟩ := hcc last (by rw [← HN.out]; exact hln)
        have HPA := Lib.hid hpa
        have HRL := HROW.out last
        have HAS : Hid (((rows.getD last []).any fun e => decide (e.1 = (last : Int))) = true ↔ eR n rows last last) := Lib.hid (any_self hln)
        generalize rows.getD last [] = row at hcell HPA HRL HAS
        obtain ⟨len, HLEN⟩ : ∃ len, Hid (row.length = len) := ⟨_, Lib.hid rfl⟩
        rw [HLEN.out] at hcell HRL
        clear hcc hpa hle hmx hiff
        go_wp2_with fail
        go_loop [10] (fun i => ∃ k : Nat, k ≤ len ∧ i = .int .i64 k ∧ Hid ((row.take k).any (fun e => decide (e.1 = (last : Int))) = false)) (fun i => len - (intOf i).toNat)
        case atStart => exact ⟨0, by omega, rfl, Lib.hid rfl⟩
        case round =>
          obtain ⟨k, hk, rfl, HT⟩ := hrel
          by_cases hltk : k < len
          · obtain ⟨b', o', rfl, hb', hpp⟩ := HPA.out (by rw [HLEN.out]; omega)
            obtain ⟨p1, _⟩ := hpp k (by rw [HLEN.out]; exact hltk)
            have hkl : k < row.length := by rw [HLEN.out]; exact hltk
            have HS : Hid ((row.take (k + 1)).any (fun e => decide (e.1 = (last : Int))) = decide ((row.getD k (0, 0)).1 = (last : Int))) := Lib.hid (by
              rw [any_take hkl, HT.out]
              simp [List.getD, hkl])
            have HF : Hid ((row.getD k (0, 0)).1 = (last : Int) → CyP n rows part) := Lib.hid (fun h => HIFF.out.2 (HAS.out.1 (any_at hkl (by simp [List.getD, hkl] at h; simp [h]))))
            generalize (row.getD k (0, 0)).1 = to at p1 HS HF
            clear hpp
            by_cases ht : to = (last : Int)
            · have HY := Lib.hid (HF.out ht)
              have hz1 : (to == (last : Int)) = true := by simpa using ht
              clear ht
              go_wp2
              go_ret
              exact ⟨⟨true, rfl, fun _ => HY.out, fun _ => rfl⟩, HB1.out⟩
            · have HT2 : Hid ((row.take (k + 1)).any (fun e => decide (e.1 = (last : Int))) = false) := Lib.hid (by rw [HS.out]; exact decide_eq_false ht)
              have hz1 : (to == (last : Int)) = false := by simpa using ht
              clear ht
              go_wp2
              go_round
              case rel => exact ⟨k + 1, by omega, by go_num, HT2⟩
              case measure => simp [intOf]; omega
          · obtain rfl : len = k := by omega
            have HY : Hid (¬ CyP n rows part) := Lib.hid (fun h => by
              have h2 := HAS.out.2 (HIFF.out.1 h)
              have h3 := HT.out
              rw [List.take_of_length_le (by rw [HLEN.out]; exact Nat.le_refl _)] at h3
              rw [h3] at h2; cases h2)
            go_wp2
            go_ret
            exact ⟨⟨false, rfl, ⟨fun h => Bool.noConfusion h, fun h => absurd h HY.out⟩⟩, HB1.out⟩
      · have hz1 : ((cnt : Int) != 1) = true := by simp; omega
        have HIFF := Lib.hid (HR.out.not_one (rows := rows) h1)
        clear h1
        go_wp2
        go_ret
        exact ⟨⟨decide ((1 : Int) < (cnt : Int)), rfl, by rw [decide_eq_true_iff, HIFF.out]; omega⟩, HB1.out⟩
theorem refCyclic_any {w : World} {v : Value} {G : Gr} (hv : GV w v G) (A : Option Addr) (m c : Nat) (part : List Int) (hnl : G.rows.length ≤ 100) (hrow : ∀ i, (G.rows.getD i []).length ≤ 2000) (hm : m = part.length) (hml : m ≤ 1000000) (hP : IA w A part) :
    Calls Try.prog 42 #[v, .slice A m c] w (CycP w G.rows.length G.rows part) := by
  obtain ⟨A1, c1, A2, c2, A3, c3, rfl, _, ⟨a2, b2, d2⟩, _⟩ := hv
  exact refCyclic_any' _ _ A2 c2 _ G.rows A m c part w rfl hnl hrow d2 hm hml hP
end Go.Proofs.Ytnfiohekdbjgoaa.sc
