/- The document's Goals hands back a row of its own. -/
import Derived.Test.YtjgifbcjokeigaaRefGoals
namespace Go.Proofs.Ytjgifbcjokeigaa
open Go.ChangeShapes Go.WideShapes Go.ChangeAt Go.RowKit Go.Shelf

/-- What hands back a list of ints of the call's own, to be added to. -/
def ListO (w : World) (L : List Int) (e : Ending) (w' : World) : Prop := ∃ A c B, w.heap.size ≤ B ∧ e = .returned (.slice A L.length c) ∧ OI B w' (.slice A L.length c) L ∧ Below w.heap.size w w'
theorem OI.weak {B C : Nat} {w : World} {v : Value} {l : List Int} (h : OI C w v l) (hb : B ≤ C) : OI B w v l := by
  obtain ⟨h1, h2⟩ := h
  refine ⟨h1, ?_⟩
  rcases h2 with h2 | ⟨g, cap, cur, e, hg, r⟩
  · exact .inl h2
  · exact .inr ⟨g, cap, cur, e, by omega, r⟩

set_option maxRecDepth 20000 in
set_option maxHeartbeats 4000000 in
theorem refGoals_own (v1 v3 : Value) (A2 : Option Addr) (c2 n : Nat) (GA : Option Addr) (gn gc : Nat) (goal : List Bool) (w : World) (hnl : n ≤ 1000) (hg : gn = goal.length) (hgl : goal.length ≤ maxLen) (hG : BL w GA goal) :
    Calls Try.prog 59 #[.agg #[v1, .slice A2 n c2, v3], .slice GA gn gc] w (ListO w (goalsTo goal n)) := by
  have HGN := Lib.hid hg
  have hgn : gn ≤ 9223372036854775807 := by rw [hg]; exact hgl
  have HG := Lib.hid hG
  clear hg hgl hG
  go_enter Try.func59, Try.ntmps59
  go_wp2_with fail
  have hbx := box3 w v1 (.slice A2 n c2) v3 26
  have hB2 := below1 w (.cells #[v1, .slice A2 n c2, v3] 26)
  generalize (w.alloc (.cells #[v1, .slice A2 n c2, v3] 26)) = w2 at *
  have HBX : Hid (B3 w2 w.heap.size v1 (.slice A2 n c2) v3) := Lib.hid hbx
  have HB2 := Lib.hid hB2
  clear hbx hB2
  go_loopw [5, 6] (fun s i wr => ∃ (k : Nat) (A : Option Addr) (lq cq : Nat), k ≤ n ∧ k ≤ gn ∧ s = .slice A lq cq ∧ i = .int .i64 k ∧ Hid (lq = (goalsTo goal k).length) ∧ Hid (OI w2.heap.size wr (.slice A lq cq) (goalsTo goal k)) ∧ Hid (Below w2.heap.size w2 wr)) (fun _ i _ => n - (intOf i).toNat)
  case atStart => exact ⟨0, none, 0, 0, Nat.zero_le _, Nat.zero_le _, rfl, rfl, Lib.hid rfl, Lib.hid (OI.nil _ _), Lib.hid (Below.refl _ _)⟩
  case round =>
    obtain ⟨k, A, lq, cq, hk, hkg, rfl, rfl, HLQ, HO, HW⟩ := hrel
    have HBW : Hid (Below w.heap.size w wr) := Lib.hid (HB2.out.trans (HW.out.mono HB2.out.size))
    obtain ⟨q0, q1, q2⟩ := HBX.out.below HW.out
    have hwz : w2.heap.size ≤ wr.heap.size := HW.out.size
    have HEND : Hid (¬ (k < n ∧ k < gn) → goalsTo goal n = goalsTo goal k) := Lib.hid (fun h => by
      have := goals_end (goal := goal) (k := k)
      by_cases hkn : k = n
      · rw [hkn]
      · have := this (by rw [← HGN.out]; omega) (n - k)
        rwa [show k + (n - k) = n by omega] at this)
    have HFIN : Hid (¬ (k < n ∧ k < gn) → ListO w (goalsTo goal n) (.returned (.slice A lq cq)) wr) := Lib.hid (fun h => by
      rw [HEND.out h]
      exact ⟨A, cq, w2.heap.size, HB2.out.size, by rw [← HLQ.out], by rw [← HLQ.out]; exact HO.out, HBW.out⟩)
    by_cases hlt : k < n
    · have hd1 : decide ((k : Int) < (n : Int)) = true := decide_eq_true (by omega)
      by_cases hlg : k < gn
      · have hd2 : decide ((k : Int) < (gn : Int)) = true := decide_eq_true (by omega)
        obtain ⟨b, o, rfl, hb, hc⟩ := HG.out (by rw [← HGN.out]; omega)
        have d1 := (HBW.out.cell (p := ⟨b, o + k, none⟩) hb).trans (hc k (by rw [← HGN.out]; exact hlg))
        obtain ⟨B, HB⟩ : ∃ B, Hid (goal.getD k false = B) := ⟨_, Lib.hid rfl⟩
        have HST : Hid (goalsTo goal (k + 1) = if B then goalsTo goal k ++ [(k : Int)] else goalsTo goal k) := Lib.hid (by rw [goalsTo, HB.out])
        rw [HB.out] at d1
        have HLN : Hid ((goalsTo goal k).length + 1 ≤ 1000000) := Lib.hid (by have := goalsTo_len goal k; omega)
        clear hb hc HEND HFIN
        cases B with
        | false =>
          have HST2 : Hid (goalsTo goal (k + 1) = goalsTo goal k) := Lib.hid (by rw [HST.out]; rfl)
          go_wp2_with fail
          go_roundw
          case rel => exact ⟨k + 1, A, lq, cq, hlt, hlg, rfl, by go_num, by rw [HST2.out]; exact HLQ, by rw [HST2.out]; exact HO, HW⟩
          case measure => simp [intOf]; omega
        | true =>
          have HST2 : Hid (goalsTo goal (k + 1) = goalsTo goal k ++ [(k : Int)]) := Lib.hid (by rw [HST.out]; rfl)
          have HLA : Hid (lq + 1 = (goalsTo goal k ++ [(k : Int)]).length) := Lib.hid (by rw [List.length_append, HLQ.out]; rfl)
          generalize goalsTo goal k = out at *
          go_upto_region 4 with (at_builtin; refine append_one rfl (.tmp 24) (.tmp 26) rfl w2.heap.size _ out rfl HO.out (k : Int) rfl HLN.out hwz ?_; intro v4 w4' ho4 hb4; obtain ⟨A4, c4, rfl, _⟩ := ho4.form; rw [← HLA.out] at ho4 ⊢; have HO4 := Lib.hid ho4; have HB4 := Lib.hid hb4; clear ho4 hb4)
          have HW4 : Hid (Below w2.heap.size w2 w4') := Lib.hid (HW.out.trans HB4.out)
          go_wp2_with fail
          go_roundw
          case rel => exact ⟨k + 1, A4, lq + 1, c4, hlt, hlg, rfl, by go_num, by rw [HST2.out]; exact HLA, by rw [HST2.out]; exact HO4, HW4⟩
          case measure => simp [intOf]; omega
      · have hd2 : decide ((k : Int) < (gn : Int)) = false := decide_eq_false (by omega)
        go_wp2_with fail
        go_ret
        exact HFIN.out (fun h => hlg h.2)
    · have hd1 : decide ((k : Int) < (n : Int)) = false := decide_eq_false (by omega)
      go_wp2_with fail
      go_ret
      exact HFIN.out (fun h => hlt h.1)
end Go.Proofs.Ytjgifbcjokeigaa
