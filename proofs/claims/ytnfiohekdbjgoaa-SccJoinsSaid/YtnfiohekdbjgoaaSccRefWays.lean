/- The document's Ways. -/
import Derived.Test.YtnfiohekdbjgoaaSccWays
namespace Go.Proofs.Ytnfiohekdbjgoaa.sc
open Go.ChangeShapes Go.WideShapes Go.ChangeAt Go.RowKit

theorem MX.at_ {base : Nat} {w : World} {g n cnt cap : Nat} {rb : Nat → Nat} {m : Nat → Nat → Bool} (h : MX base w (.slice (some ⟨g, 0, none⟩) cnt cap) n cnt rb m) {j : Nat} (hj : j < cnt) : w.cell? ⟨g, j, none⟩ = some (.slice (some ⟨rb j, 0, none⟩) n n) := by
  obtain ⟨g', cap', e, _, _, _, hc⟩ := h.cell (by omega)
  injection e with e1 e2 e3
  injection e1 with e1
  injection e1 with e1
  subst e1
  exact hc j hj
theorem MX.mono {base base' : Nat} {w : World} {v : Value} {n cnt : Nat} {rb : Nat → Nat} {m : Nat → Nat → Bool} (h : MX base w v n cnt rb m) (hb : base' ≤ base) : MX base' w v n cnt rb m :=
  ⟨⟨h.own.1, h.own.2.imp id (fun ⟨g, cap, cur, e, h1, r⟩ => ⟨g, cap, cur, e, Nat.le_trans hb h1, r⟩)⟩, h.row, h.inc, fun j hj => Nat.le_trans hb (h.low j hj)⟩
def WaysP (w : World) (n : Nat) (rows : List (List (Int × Int))) (e : Ending) (w' : World) : Prop := ∃ v rb, e = .returned v ∧ MX w.heap.size w' v n n rb (wR n rows) ∧ Below w.heap.size w w'
set_option maxRecDepth 20000 in
set_option maxHeartbeats 8000000 in
theorem refWays_any' (v1 v3 : Value) (A2 : Option Addr) (c2 n : Nat) (rows : List (List (Int × Int))) (w : World) (hn : n = rows.length) (hnl : n ≤ 100) (hrow : ∀ i, (rows.getD i []).length ≤ 2000) (hA : RA w A2 rows) :
    Calls Try.prog 73 #[.agg #[v1, .slice A2 n c2, v3]] w (WaysP w n rows) := by
  obtain ⟨i0, hi, hz0, hz1, hz2⟩ := info_parts (show (Try.prog.info? 4).map (fun i => (i.zero, i.size, i.bytes)) = some (some (.bool false), 1, 1) by kernel_rfl)
  have hmk : ∀ W : World, (Instr.makeSlice 33 (.int .i64 (n : Int)) (.int .i64 (n : Int))).run Try.prog W = .ok (.slice (some ⟨W.heap.size, 0, none⟩) n n) (W.alloc (.cells (madeCells #[.bool false] n) 4)) := fun W => by
    have hr := run_make (P := Try.prog) W 33 4 i0 _ (by kernel_rfl) hi hz0 .i64 .i64 (n : Int) (n : Int) (by omega) (Int.le_refl _) (by rw [hz2]; omega) (by omega)
    rw [hr, hz1]
    rw [Int.toNat_natCast, Nat.mul_one]
    rfl
  have HN := Lib.hid hn
  have HROW := Lib.hid hrow
  have HMK := Lib.hid hmk
  clear hn hrow hi hz0 hz1 hz2 hmk
  obtain ⟨w1, HW1⟩ : ∃ w1, Hid (w1 = w.alloc (.cells #[v1, .slice A2 n c2, v3] 26)) := ⟨_, Lib.hid rfl⟩
  have HB1 : Hid (Below w.heap.size w w1) := Lib.hid (by rw [HW1.out]; exact (Below.refl _ _).alloc (Nat.le_refl _) _)
  have HZ1 : Hid (w1.heap.size = w.heap.size + 1) := Lib.hid (by rw [HW1.out]; simp)
  have HD1 : Hid (∀ W, Below w1.heap.size w1 W → W.cell? ⟨w.heap.size, 1, none⟩ = some (.slice A2 n c2)) := Lib.hid (fun W hW => by
    obtain ⟨_, q1, _⟩ := box3 w v1 (.slice A2 n c2) v3 26
    rw [← HW1.out] at q1
    exact (hW.cell (p := ⟨w.heap.size, 1, none⟩) (by have := HZ1.out; simp; omega)).trans q1)
  have HRA : Hid (∀ W, Below w1.heap.size w1 W → RA W A2 rows) := Lib.hid (fun W hW => RA.below hA (HB1.out.trans (hW.mono HB1.out.size)))
  clear hA
  have d1 := HD1.out w1 (Below.refl _ _)
  go_enter Try.func73, Try.ntmps73
  go_wp2_with fail
  rw [← HW1.out]
  go_wp2_with fail
  go_loopw [4, 5] (fun v i wr => ∃ (j : Nat) (rb : Nat → Nat), j ≤ n ∧ i = .int .i64 j ∧ Hid (MX w1.heap.size wr v n j rb (mR n rows)) ∧ Hid (Below w1.heap.size w1 wr)) (fun _ i _ => n - (intOf i).toNat)
  case atStart => exact ⟨0, fun _ => 0, by omega, rfl, Lib.hid ((MX.nil _ _ _).congr (fun a b ha _ => absurd ha (by omega))), Lib.hid (Below.refl _ _)⟩
  case round =>
    obtain ⟨j, rb, hj, rfl, HM, HB⟩ := hrel
    by_cases hlt : j < n
    · obtain ⟨b, o, rfl, hb, hcc⟩ := (HRA.out _ HB.out) (by rw [← HN.out]; omega)
      obtain ⟨A', c', hcell, hle, hmx, hpa⟩ := hcc j (by rw [← HN.out]; exact hlt)
      have HPA : Hid (∀ W, Below wr.heap.size wr W → PA W A' (rows.getD j [])) := Lib.hid (fun W hW => PA.below hpa hW)
      have HCE : Hid (∀ W, Below wr.heap.size wr W → W.cell? ⟨b, o + j, none⟩ = some (.slice A' (rows.getD j []).length c')) := Lib.hid (fun W hW => (hW.cell (p := ⟨b, o + j, none⟩) hb).trans hcell)
      have HRL := HROW.out j
      obtain ⟨row, HR⟩ : ∃ row, Hid (rows.getD j [] = row) := ⟨_, Lib.hid rfl⟩
      rw [HR.out] at HPA HCE HRL
      obtain ⟨len, HLEN⟩ : ∃ len, Hid (row.length = len) := ⟨_, Lib.hid rfl⟩
      rw [HLEN.out] at HCE HRL
      clear hcell hcc hpa hle hmx
      have hmk := HMK.out
      obtain ⟨A0, cap0, hv⟩ := HM.out.form
      subst hv
      go_wp2_with fail
      clear hmk
      have R2 : Hid ((wr.alloc (.cells (madeCells #[.bool false] n) 4)).rowIs wr.heap.size 4 n (fun k => .bool (mRk n row 0 k))) := Lib.hid ((World.rowIs_made wr (.bool false) n 4).congr (fun k _ => by rw [mRk_zero]))
      have B2 : Hid (Below wr.heap.size wr (wr.alloc (.cells (madeCells #[.bool false] n) 4))) := Lib.hid ((Below.refl _ _).alloc (Nat.le_refl _) _)
      obtain ⟨wo, hwo⟩ : ∃ wo, wo = wr := ⟨_, rfl⟩
      subst hwo
      generalize wo.alloc (.cells (madeCells #[.bool false] n) 4) = w2 at R2 B2 ⊢
      have hzr := HB.out.size
      go_loopw [7] (fun i wr => ∃ k : Nat, k ≤ len ∧ i = .int .i64 k ∧ Hid (wr.rowIs wo.heap.size 4 n (fun b => .bool (mRk n row k b))) ∧ Hid (Below wo.heap.size wo wr)) (fun i _ => len - (intOf i).toNat)
      case atStart => exact ⟨0, by omega, rfl, R2, B2⟩
      case round =>
        obtain ⟨k, hk, rfl, HQ, HBQ⟩ := hrel
        have HBW : Hid (Below w1.heap.size w1 wr) := Lib.hid (HB.out.trans (HBQ.out.mono hzr))
        have d1 := HD1.out _ HBW.out
        have d2 := HCE.out _ HBQ.out
        by_cases hlt2 : k < len
        · obtain ⟨b', o', rfl, hb', hpp⟩ := (HPA.out _ HBQ.out) (by rw [HLEN.out]; omega)
          obtain ⟨p1, _⟩ := hpp k (by rw [HLEN.out]; exact hlt2)
          have HS : Hid (∀ b, mRk n row (k + 1) b = (mRk n row k b || (decide (b < n) && decide ((row.getD k (0, 0)).1 = (b : Int))))) := Lib.hid (fun b => mRk_snoc (by rw [HLEN.out]; exact hlt2) b)
          generalize (row.getD k (0, 0)).1 = to at p1 HS
          clear hpp
          by_cases t0 : to ≥ 0
          · by_cases t1 : to < (n : Int)
            · obtain ⟨t, rfl⟩ : ∃ t : Nat, to = (t : Int) := ⟨to.toNat, by omega⟩
              have htn : t < n := by omega
              have c3 := HQ.out.cell htn
              have f3 := HQ.out.frozen t
              have HNX : Hid ((wr.setCell ⟨wo.heap.size, t, none⟩ (.bool true)).rowIs wo.heap.size 4 n (fun b => .bool (mRk n row (k + 1) b))) := Lib.hid ((HQ.out.set t (.bool true)).congr (fun b hb => by
                rw [HS.out b]
                by_cases e : b = t
                · subst e; simp [htn]
                · have h1 : ¬ ((t : Int) = (b : Int)) := by omega
                  rw [if_neg e]; simp [h1]))
              have HBN : Hid (Below wo.heap.size wo (wr.setCell ⟨wo.heap.size, t, none⟩ (.bool true))) := Lib.hid (HBQ.out.setCell (Nat.le_refl _) _)
              go_wp2
              go_roundw
              case rel => exact ⟨k + 1, by omega, by go_num, HNX, HBN⟩
              case measure => simp [intOf]; omega
            · have HNX : Hid (wr.rowIs wo.heap.size 4 n (fun b => .bool (mRk n row (k + 1) b))) := Lib.hid (HQ.out.congr (fun b hb => by
                rw [HS.out b]
                have h1 : ¬ (to = (b : Int)) := by omega
                simp [h1]))
              go_wp2
              go_roundw
              case rel => exact ⟨k + 1, by omega, by go_num, HNX, HBQ⟩
              case measure => simp [intOf]; omega
          · have HNX : Hid (wr.rowIs wo.heap.size 4 n (fun b => .bool (mRk n row (k + 1) b))) := Lib.hid (HQ.out.congr (fun b hb => by
              rw [HS.out b]
              have h1 : ¬ (to = (b : Int)) := by omega
              simp [h1]))
            go_wp2
            go_roundw
            case rel => exact ⟨k + 1, by omega, by go_num, HNX, HBQ⟩
            case measure => simp [intOf]; omega
        · obtain rfl : k = len := by omega
          have HQ2 : Hid (wr.rowIs wo.heap.size 4 n (fun b => .bool (mR n rows j b))) := Lib.hid (HQ.out.congr (fun b hb => by
            have h := mRk_full (n := n) (rows := rows) (a := j) b
            rw [HR.out, HLEN.out] at h
            rw [h]))
          have HM2 : Hid (MX w1.heap.size wr (.slice A0 j cap0) n j rb (mR n rows)) := Lib.hid (HM.out.below HBQ.out)
          have HIN : Hid (∀ i, i < j → rb i < wo.heap.size) := Lib.hid (fun i hi => (HM.out.row i hi).lt)
          clear HQ R2 B2
          go_wp2_with (at_builtin; go_loud (refine append_mx rfl (.tmp 51) (.tmp 53) rfl w1.heap.size _ n j rb (mR n rows) rfl HM2.out wo.heap.size (mR n rows j) HQ2.out hzr HIN.out rfl (by omega) HBW.out.size ?_); intro v4 w4 hm4 hb4; have HM4 := Lib.hid hm4; have HB4 : Hid (Below w1.heap.size w1 w4) := Lib.hid (HBW.out.trans hb4); clear hm4 hb4)
          go_roundw
          case rel => exact ⟨j + 1, _, by omega, by go_num, Lib.hid (HM4.out.congr (fun a b _ _ => by
            by_cases e : a = j
            · subst e; simp
            · simp [e])), HB4⟩
          case measure => simp [intOf]; omega
    · obtain rfl : n = j := by omega
      clear hlt hj d1
      obtain ⟨A0, cap0, hv⟩ := HM.out.form
      subst hv
      obtain ⟨wo, hwo⟩ : ∃ wo, wo = wr := ⟨_, rfl⟩
      subst hwo
      go_wp2_with fail
      go_loopw [9] (fun i wr => ∃ k : Nat, k ≤ n ∧ i = .int .i64 k ∧ Hid (MX w1.heap.size wr (.slice A0 n cap0) n n rb (wnF (mR n rows) k)) ∧ Hid (Below w1.heap.size w1 wr)) (fun i _ => n - (intOf i).toNat)
      case atStart => exact ⟨0, by omega, rfl, HM, HB⟩
      case round =>
        obtain ⟨k, hk, rfl, HK, HBK⟩ := hrel
        by_cases hltk : k < n
        · obtain ⟨M, HMM⟩ : ∃ M, Hid (wnF (mR n rows) k = M) := ⟨_, Lib.hid rfl⟩
          rw [HMM.out] at HK
          have HNX : Hid (wnF (mR n rows) (k + 1) = wsF M k) := Lib.hid (by show wsF (wnF (mR n rows) k) k = _; rw [HMM.out])
          have HKK : Hid (∀ b, wsF M k k b = M k b) := Lib.hid (fun b => by unfold wsF; cases M k b <;> simp)
          obtain ⟨wk, hwk⟩ : ∃ wk, wk = wr := ⟨_, rfl⟩
          subst hwk
          obtain ⟨g0, cap1, hv, hg1, _, _, _⟩ := HK.out.cell (by omega)
          injection hv with hv1 _ hv2
          subst hv1 hv2
          go_wp2_with fail
          go_loopw [10] (fun i wr => ∃ i' : Nat, i' ≤ n ∧ i = .int .i64 i' ∧ Hid (MX w1.heap.size wr (.slice (some ⟨g0, 0, none⟩) n cap0) n n rb (fun a b => if a < i' then wsF M k a b else M a b)) ∧ Hid (Below w1.heap.size w1 wr)) (fun i _ => n - (intOf i).toNat)
          case atStart => exact ⟨0, by omega, rfl, Lib.hid (HK.out.congr (fun a b _ _ => by simp)), HBK⟩
          case round =>
            obtain ⟨i', hi', rfl, HI, HBI⟩ := hrel
            by_cases hlti : i' < n
            · have c1 := HI.out.at_ hlti
              have c2 := (HI.out.row i' hlti).cell hltk
              rw [if_neg (by omega)] at c2
              cases hmi : M i' k with
              | false =>
                rw [hmi] at c2
                have HI2 : Hid (MX w1.heap.size wr (.slice (some ⟨g0, 0, none⟩) n cap0) n n rb (fun a b => if a < i' + 1 then wsF M k a b else M a b)) := Lib.hid (HI.out.congr (fun a b _ _ => by
                  by_cases e : a = i'
                  · subst e; simp [wsF, hmi]
                  · by_cases e2 : a < i'
                    · rw [if_pos e2, if_pos (by omega)]
                    · rw [if_neg e2, if_neg (by omega)]))
                go_wp2
                go_roundw
                case rel => exact ⟨i' + 1, by omega, by go_num, HI2, HBI⟩
                case measure => simp [intOf]; omega
              | true =>
                rw [hmi] at c2
                have HMI := Lib.hid hmi
                obtain ⟨wi, hwi⟩ : ∃ wi, wi = wr := ⟨_, rfl⟩
                subst hwi
                go_wp2_with fail
                go_loopw [11] (fun i wr => ∃ j : Nat, j ≤ n ∧ i = .int .i64 j ∧ Hid (MX w1.heap.size wr (.slice (some ⟨g0, 0, none⟩) n cap0) n n rb (fun a b => if a < i' ∨ (a = i' ∧ b < j) then wsF M k a b else M a b)) ∧ Hid (Below w1.heap.size w1 wr)) (fun i _ => n - (intOf i).toNat)
                case atStart => exact ⟨0, by omega, rfl, Lib.hid (HI.out.congr (fun a b _ _ => by simp)), HBI⟩
                case round =>
                  obtain ⟨j, hj, rfl, HJ, HBJ⟩ := hrel
                  by_cases hltj : j < n
                  · have e1 := HJ.out.at_ hltk
                    have e2 := HJ.out.at_ hlti
                    have e3 := (HJ.out.row k hltk).cell hltj
                    have e4 := (HJ.out.row i' hlti).cell hltj
                    have f4 := (HJ.out.row i' hlti).frozen j
                    have HE3 : Hid ((if k < i' ∨ (k = i' ∧ j < j) then wsF M k k j else M k j) = M k j) := Lib.hid (by rw [HKK.out]; simp)
                    rw [HE3.out] at e3
                    generalize (if i' < i' ∨ (i' = i' ∧ j < j) then wsF M k i' j else M i' j) = z4 at e4
                    cases hmk2 : M k j with
                    | false =>
                      rw [hmk2] at e3
                      have HJ2 : Hid (MX w1.heap.size wr (.slice (some ⟨g0, 0, none⟩) n cap0) n n rb (fun a b => if a < i' ∨ (a = i' ∧ b < j + 1) then wsF M k a b else M a b)) := Lib.hid (HJ.out.congr (fun a b _ _ => by
                        by_cases e : a = i' ∧ b = j
                        · obtain ⟨rfl, rfl⟩ := e
                          simp [wsF, hmk2]
                        · by_cases e2 : a < i' ∨ (a = i' ∧ b < j)
                          · rw [if_pos e2, if_pos (by omega)]
                          · rw [if_neg e2, if_neg (by omega)]))
                      go_wp2
                      go_roundw
                      case rel => exact ⟨j + 1, by omega, by go_num, HJ2, HBJ⟩
                      case measure => simp [intOf]; omega
                    | true =>
                      rw [hmk2] at e3
                      have HJ2 : Hid (MX w1.heap.size (wr.setCell ⟨rb i', j, none⟩ (.bool true)) (.slice (some ⟨g0, 0, none⟩) n cap0) n n rb (fun a b => if a < i' ∨ (a = i' ∧ b < j + 1) then wsF M k a b else M a b)) := Lib.hid ((HJ.out.set (k := j) hlti).congr (fun a b _ _ => by
                        by_cases e : a = i' ∧ b = j
                        · obtain ⟨rfl, rfl⟩ := e
                          simp [wsF, hmk2, HMI.out]
                        · have e5 : (a == i' && b == j) = false := by
                            cases h : (a == i' && b == j) with
                            | false => rfl
                            | true => simp at h; exact absurd h e
                          rw [e5, Bool.or_false]
                          by_cases e2 : a < i' ∨ (a = i' ∧ b < j)
                          · rw [if_pos e2, if_pos (by omega)]
                          · rw [if_neg e2, if_neg (by omega)]))
                      have HB2 : Hid (Below w1.heap.size w1 (wr.setCell ⟨rb i', j, none⟩ (.bool true))) := Lib.hid (HBJ.out.setCell (HJ.out.low i' hlti) _)
                      go_wp2
                      go_roundw
                      case rel => exact ⟨j + 1, by omega, by go_num, HJ2, HB2⟩
                      case measure => simp [intOf]; omega
                  · obtain rfl : n = j := by omega
                    have HI2 : Hid (MX w1.heap.size wr (.slice (some ⟨g0, 0, none⟩) n cap0) n n rb (fun a b => if a < i' + 1 then wsF M k a b else M a b)) := Lib.hid (HJ.out.congr (fun a b _ hb => by
                      by_cases e2 : a < i' + 1
                      · rw [if_pos e2, if_pos (by omega)]
                      · rw [if_neg e2, if_neg (by omega)]))
                    go_wp2_with fail
                    go_roundw
                    case rel => exact ⟨i' + 1, by omega, by go_num, HI2, HBJ⟩
                    case measure => simp [intOf]; omega
            · obtain rfl : n = i' := by omega
              have HI2 : Hid (MX w1.heap.size wr (.slice (some ⟨g0, 0, none⟩) n cap0) n n rb (wnF (mR n rows) (k + 1))) := Lib.hid (HI.out.congr (fun a b ha _ => by rw [if_pos ha, HNX.out]))
              go_wp2_with fail
              go_roundw
              case rel => exact ⟨k + 1, by omega, by go_num, HI2, HBI⟩
              case measure => simp [intOf]; omega
        · obtain rfl : n = k := by omega
          go_wp2_with fail
          go_ret
          exact ⟨_, rb, rfl, HK.out.mono (by have := HZ1.out; omega), HB1.out.trans (HBK.out.mono HB1.out.size)⟩
end Go.Proofs.Ytnfiohekdbjgoaa.sc
