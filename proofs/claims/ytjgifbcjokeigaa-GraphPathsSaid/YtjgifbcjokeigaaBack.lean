/- Contracts of package graph: Back. -/
import Derived.Test.YtjgifbcjokeigaaAwake
namespace Go.Proofs.Ytjgifbcjokeigaa
open Go.ChangeShapes Go.WideShapes Go.ChangeAt Go.RowKit Go.Shelf

/-- The goals below k. -/
def goalsTo (goal : List Bool) : Nat → List Int
  | 0 => []
  | k + 1 => if goal.getD k false then goalsTo goal k ++ [(k : Int)] else goalsTo goal k
theorem goalsTo_len (goal : List Bool) : ∀ k, (goalsTo goal k).length ≤ k
  | 0 => Nat.le_refl _
  | k + 1 => by
    have := goalsTo_len goal k
    rw [goalsTo]
    split
    · simp; omega
    · omega

set_option maxRecDepth 20000 in
set_option maxHeartbeats 4000000 in
theorem back_any (v1 v3 : Value) (A2 : Option Addr) (c2 n : Nat) (rows : List (List (Int × Int))) (GA : Option Addr) (gn gc : Nat) (goal : List Bool) (w : World) (hn : n = rows.length) (hnl : n ≤ 1000) (hR : RA w A2 rows) (hrow : ∀ i, (rows.getD i []).length ≤ 1000)
    (hg : gn = goal.length) (hgl : goal.length ≤ maxLen) (hG : BL w GA goal) :
    Calls Try.prog 24 #[.agg #[v1, .slice A2 n c2, v3], .slice GA gn gc] w (Marks w n (seen n (turnR rows) (goalsTo goal n))) := by
  have HN := Lib.hid hn
  have HR := Lib.hid hR
  have HGN := Lib.hid hg
  have HGL := Lib.hid hgl
  have HG := Lib.hid hG
  have hlen1 := leadTo_len hrow n
  have HL1 : Hid ((leadTo rows n).length * 16 ≤ 140737488355328) := Lib.hid (by have : n * 1000 ≤ 1000 * 1000 := Nat.mul_le_mul_right _ hnl; omega)
  have HTR1 : Hid (turnR rows = (List.range n).map (turnL (leadTo rows n))) := Lib.hid (by unfold turnR; rw [hn])
  have HTL : Hid ((turnR rows).length = n) := Lib.hid (by rw [turnR_len]; exact hn.symm)
  clear hn hR hg hgl hG hlen1 hrow
  go_enter Try.func24, Try.ntmps24
  go_wp2_with fail
  have hbx := box3 w v1 (.slice A2 n c2) v3 26
  have hB2 := below1 w (.cells #[v1, .slice A2 n c2, v3] 26)
  generalize (w.alloc (.cells #[v1, .slice A2 n c2, v3] 26)) = w2 at *
  have HBX : Hid (B3 w2 w.heap.size v1 (.slice A2 n c2) v3) := Lib.hid hbx
  have HB2 := Lib.hid hB2
  clear hbx hB2
  go_loopw [5, 10] (fun s i wr => ∃ (k : Nat) (A : Option Addr) (lq cq : Nat), k ≤ n ∧ s = .slice A lq cq ∧ i = .int .i64 k ∧ Hid (lq = (goalsTo goal k).length) ∧ Hid (OI w2.heap.size wr (.slice A lq cq) (goalsTo goal k)) ∧ Hid (Below w2.heap.size w2 wr)) (fun _ i _ => n - (intOf i).toNat)
  case atStart => exact ⟨0, none, 0, 0, Nat.zero_le _, rfl, rfl, Lib.hid rfl, Lib.hid (OI.nil _ _), Lib.hid (Below.refl _ _)⟩
  case round =>
    obtain ⟨k, A, lq, cq, hk, rfl, rfl, HLQ, HO, HW⟩ := hrel
    have HBW : Hid (Below w.heap.size w wr) := Lib.hid (HB2.out.trans (HW.out.mono HB2.out.size))
    obtain ⟨q0, q1, q2⟩ := HBX.out.below HW.out
    have hwz : w2.heap.size ≤ wr.heap.size := HW.out.size
    by_cases hlt : k < n
    · go_wp2_with fail
      refine (marked_any GA gc gn k goal _ HGN.out.symm (by rw [HGN.out]; exact HGL.out) (by unfold maxLen; omega) (HG.out.below HBW.out)).mono ?_
      obtain ⟨B, HB⟩ : ∃ B, Hid (goal.getD k false = B) := ⟨_, Lib.hid rfl⟩
      have HST : Hid (goalsTo goal (k + 1) = if B then goalsTo goal k ++ [(k : Int)] else goalsTo goal k) := Lib.hid (by rw [goalsTo, HB.out])
      rw [HB.out]
      rintro e w3 ⟨rfl, rfl⟩
      have HLN : Hid ((goalsTo goal k).length + 1 ≤ 1000000) := Lib.hid (by have := goalsTo_len goal k; omega)
      clear q0 q1 q2
      cases B with
      | false =>
        have HST2 : Hid (goalsTo goal (k + 1) = goalsTo goal k) := Lib.hid (by rw [HST.out]; rfl)
        go_wp2_with fail
        go_roundw
        case rel => exact ⟨k + 1, A, lq, cq, hlt, rfl, by go_num, by rw [HST2.out]; exact HLQ, by rw [HST2.out]; exact HO, HW⟩
        case measure => simp [intOf]; omega
      | true =>
        have HST2 : Hid (goalsTo goal (k + 1) = goalsTo goal k ++ [(k : Int)]) := Lib.hid (by rw [HST.out]; rfl)
        have HLA : Hid (lq + 1 = (goalsTo goal k ++ [(k : Int)]).length) := Lib.hid (by rw [List.length_append, HLQ.out]; rfl)
        generalize goalsTo goal k = out at *
        go_upto_region 7 with (at_builtin; refine append_one rfl (.tmp 16) (.tmp 18) rfl w2.heap.size _ out rfl HO.out (k : Int) rfl HLN.out hwz ?_; intro v4 w4' ho4 hb4; obtain ⟨A4, c4, rfl, _⟩ := ho4.form; rw [← HLA.out] at ho4 ⊢; have HO4 := Lib.hid ho4; have HB4 := Lib.hid hb4; clear ho4 hb4)
        have HW4 : Hid (Below w2.heap.size w2 w4') := Lib.hid (HW.out.trans HB4.out)
        go_wp2_with fail
        go_roundw
        case rel => exact ⟨k + 1, A4, lq + 1, c4, hlt, rfl, by go_num, by rw [HST2.out]; exact HLA, by rw [HST2.out]; exact HO4, HW4⟩
        case measure => simp [intOf]; omega
    · obtain rfl : k = n := by omega
      have HLE : Hid (lq ≤ 1000000) := Lib.hid (by rw [HLQ.out]; have := goalsTo_len goal k; omega)
      go_wp2_with fail
      refine (turned_any A2 k c2 rows _ HN.out (HR.out.below HBW.out) (by omega) HL1.out).mono ?_
      rintro e w3 ⟨rfl, ⟨vs, ho3⟩, hb3⟩
      have HRA3 := Lib.hid ho3.ra
      rw [← HTR1.out] at HRA3
      have HS3 : Hid (IA w3 A (goalsTo goal k)) := Lib.hid (by
        have h := OI.below HO.out hb3
        obtain ⟨A', c', e, i⟩ := h.form
        injection e with e1 e2 e3
        rw [e1]; exact i)
      have HB3 : Hid (Below w.heap.size w w3) := Lib.hid (HBW.out.trans (hb3.mono HBW.out.size))
      clear ho3 hb3 q0 q1 q2
      go_wp2_with fail
      refine (reached_any k (turnR rows) _ k A lq cq (goalsTo goal k) w3 HTL.out (by omega) HRA3.out HLQ.out HLE.out HS3.out).mono ?_
      rintro e w4 ⟨b, rfl, hb, hr, hb4⟩
      have HM : Hid (Marks w k (seen k (turnR rows) (goalsTo goal k)) (.returned (.slice (some ⟨b, 0, none⟩) k k)) w4) := Lib.hid ⟨b, rfl, by have := HB3.out.size; omega, hr, HB3.out.trans (hb4.mono HB3.out.size)⟩
      clear hb hr hb4
      go_wp2_with fail
      go_ret
      exact HM.out
end Go.Proofs.Ytjgifbcjokeigaa
