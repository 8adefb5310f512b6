/- The law RingPlays: what any calls of a queue tell, and what stands there then. No condition. -/
import Derived.Test.YtfhapodidjkmaaaRingRef
import Derived.Test.YtfhapodidjkmaaaOpensP
namespace Go.Proofs.Ytfhapodidjkmaaa
open Go.ChangeShapes Go.WideShapes Go.ChangeAt Go.RowKit
theorem InS.below {w w' : World} {A : Option Addr} {c : Nat} {l : List Int} (h : InS w A c l) (hb : Below w.heap.size w w') : InS w' A c l := ⟨h.ia.below hb, h.le, h.max, h.non⟩
theorem InS.drewN {w : World} {A : Option Addr} {c : Nat} {l : List Int} (h : InS w A c l) (j : Nat) : InS (w.drewN j) A c l := ⟨h.ia.drewN j, h.le, h.max, h.non⟩
end Go.Proofs.Ytfhapodidjkmaaa
namespace Go.Proofs.Ytfhapodidjkmaaa.ringPlays
open Go.ChangeShapes Go.WideShapes Go.ChangeAt Go.RowKit

theorem list_cons (l : List Int) : l = [] ∨ ∃ x l2, l = x :: l2 := by
  cases l with
  | nil => exact .inl rfl
  | cons x l2 => exact .inr ⟨x, l2, rfl⟩
theorem list_snoc (l : List Int) : l = [] ∨ ∃ x l2, l = l2 ++ [x] := by
  rcases List.eq_nil_or_concat l with h | ⟨l2, x, h⟩
  · exact .inl h
  · exact .inr ⟨x, l2, by rw [h, List.concat_eq_append]⟩
theorem qu_drewN {w : World} {s n : Nat} {t : Option Nat} {l : List Int} (h : QU w s t n l) (j : Nat) : QU (w.drewN j) s t n l := h.of_blocks rfl (fun _ _ => rfl)
/-- The slice's block is none of the queue's. -/
def Sep (w : World) (s : Nat) (t : Option Nat) (A : Option Addr) : Prop := ∀ a, A = some a → a.block < w.heap.size ∧ a.block ≠ s ∧ t ≠ some a.block
theorem Sep.grows {w w' : World} {s : Nat} {t : Option Nat} {A : Option Addr} (h : Sep w s t A) (hz : w.heap.size ≤ w'.heap.size) : Sep w' s t A := fun a e => ⟨Nat.lt_of_lt_of_le (h a e).1 hz, (h a e).2⟩
theorem Sep.next {w w' : World} {s : Nat} {t t' : Option Nat} {A : Option Addr} (h : Sep w s t A) (hT : Turns w w' s t) (hN : Newer w t t') : Sep w' s t' A := fun a e => by
  obtain ⟨h1, h2, h3⟩ := h a e
  refine ⟨Nat.lt_of_lt_of_le h1 hT.size, h2, ?_⟩
  rcases hN with rfl | ⟨b, rfl, hb⟩
  · exact h3
  · intro e2
    injection e2 with e2
    omega
theorem ins_turns {w w' : World} {s : Nat} {t : Option Nat} {A : Option Addr} {c : Nat} {l : List Int} (h : InS w A c l) (hT : Turns w w' s t) (hS : Sep w s t A) : InS w' A c l := ⟨h.ia.turns hT (fun a e => (hS a e).2), h.le, h.max, h.non⟩

set_option maxRecDepth 20000 in
theorem large (A : Option Addr) (c n : Nat) (most : Int) (w : World) (h : 80 < n) (ha : n ≤ 17592186044416) :
    Calls Try.prog 3 #[.int .i64 most, .slice A n c] w (LawPost w) := by
  go_enter Try.func3, Try.ntmps3
  go_wp2_with (go_at_call 15; refine (works_any _).mono ?_; rintro e w' ⟨rfl, hbw⟩)
  go_ret
  exact ⟨rfl, hbw⟩

set_option maxRecDepth 20000 in
set_option maxHeartbeats 16000000 in
theorem small (A0 : Option Addr) (cap0 : Nat) (most : Int) (zs : List (Int × Int)) (w : World) (hA : PA w A0 zs) (hl : zs.length ≤ 80) :
    Calls Try.prog 3 #[.int .i64 most, .slice A0 zs.length cap0] w (LawPost w) := by
  have HA := Lib.hid hA
  obtain ⟨n, HN⟩ : ∃ n, Hid (zs.length = n) := ⟨_, Lib.hid rfl⟩
  rw [HN.out] at hl ⊢
  obtain ⟨M, HM⟩ : ∃ M, Hid (mostOf most = M) := ⟨_, Lib.hid rfl⟩
  have hM : M ≤ 65536 := by rw [← HM.out]; unfold mostOf; omega
  have hn0 : decide ((80 : Int) < (n : Int)) = false := by simp; omega
  clear hA
  go_enter Try.func3, Try.ntmps3
  go_wp2_with fail
  refine (new_any most w).mono ?_
  rintro e w1 ⟨s, rfl, rfl, h1, hb1, hz1⟩
  have H1 : Hid (QU w1 w.heap.size none M ([] : List Int)) := Lib.hid (by rw [HM.out] at h1; exact h1)
  have HB1 := Lib.hid hb1
  clear h1 hb1 hz1
  go_wp2_with fail
  go_loopw [6, 7] (fun v i wr => ∃ (k : Nat) (t : Option Nat) (A : Option Addr) (c : Nat) (l : List Int), k ≤ n ∧ i = .int .i64 k ∧ v = .slice A l.length c ∧ Hid (InS wr A c l) ∧ Hid (Sep wr w.heap.size t A) ∧ Hid (QU wr w.heap.size t M l) ∧ Hid (∀ b, t = some b → w.heap.size ≤ b) ∧ Hid (Below w.heap.size w wr)) (fun _ i _ => n - (intOf i).toNat)
  case atStart => exact ⟨0, none, none, 0, [], by omega, rfl, rfl, Lib.hid ⟨IA.nil _ _, Nat.le_refl _, Nat.zero_le _, fun _ => rfl⟩, Lib.hid (fun a e => by cases e), H1, Lib.hid (fun b e => by cases e), HB1⟩
  case round =>
    obtain ⟨k, t, A, c, l, hk, rfl, rfl, HI, HS, HQ, HT, HB⟩ := hrel
    by_cases hlt : k < n
    · obtain ⟨b, o, rfl, hb, hcc⟩ := HA.out (by rw [HN.out]; omega)
      have HC0 : Hid (∀ W, Below w.heap.size w W → W.cell? ⟨b, o + k * 2, none⟩ = some (.int .i64 (zs.getD k (0, 0)).1)) := Lib.hid (fun W hW => (hW.cell (p := ⟨b, o + k * 2, none⟩) hb).trans (hcc k (by rw [HN.out]; exact hlt)).1)
      have HC1 : Hid (∀ W, Below w.heap.size w W → W.cell? ⟨b, o + k * 2 + 1, none⟩ = some (.int .i64 (zs.getD k (0, 0)).2)) := Lib.hid (fun W hW => (hW.cell (p := ⟨b, o + k * 2 + 1, none⟩) hb).trans (hcc k (by rw [HN.out]; exact hlt)).2)
      generalize (zs.getD k (0, 0)).1 = kd at HC0 HC1
      generalize (zs.getD k (0, 0)).2 = x at HC1
      have c0 := HC0.out _ HB.out
      have c1 := HC1.out _ HB.out
      clear hcc HC0 H1 HB1
      by_cases k0 : kd = 0
      · subst k0
        have hd0 : True := trivial
        have hd1 : True := trivial
        have hd2 : True := trivial
        by_cases hroom : l.length < M
        · obtain ⟨l2, HL2⟩ : ∃ l2, Hid (l ++ [x] = l2) := ⟨_, Lib.hid rfl⟩
          have hp := refPut_yes A c l.length most x l wr rfl (by rw [HM.out]; exact hroom) HI.out
          rw [HL2.out] at hp
          have HP := Lib.hid hp
          clear hp
          go_wp2_with fail
          refine HP.out.mono ?_
          rintro e w2 ⟨A2, c2, rfl, i2, s2, b2⟩
          have HI2 := Lib.hid i2
          have HS2 : Hid (Sep w2 w.heap.size t A2) := Lib.hid (fun a e => ⟨(s2 a e).2, by have := (s2 a e).1; have := HQ.out.lt.1; omega, fun e2 => by have := (s2 a e).1; have := HQ.out.lt.2 _ e2; omega⟩)
          have HQ2 : Hid (QU w2 w.heap.size t M l) := Lib.hid (HQ.out.keep b2)
          have HB2 : Hid (Below w.heap.size w w2) := Lib.hid (HB.out.trans (b2.mono HB.out.size))
          have d1 := HC1.out _ HB2.out
          clear i2 s2 b2 HP HI HS HQ HB c0 c1
          go_wp2_with fail
          refine (put_yes HQ2.out x hroom).mono ?_
          rintro e w3 ⟨rfl, t3, h3, hT3, hN3⟩
          rw [HL2.out] at h3
          have HI3 : Hid (InS w3 A2 c2 l2) := Lib.hid (ins_turns HI2.out hT3 HS2.out)
          have HS3 : Hid (Sep w3 w.heap.size t3 A2) := Lib.hid (HS2.out.next hT3 hN3)
          have HQ3 := Lib.hid h3
          have HT3 : Hid (∀ b, t3 = some b → w.heap.size ≤ b) := Lib.hid (hN3.le HT.out HB2.out.size)
          have HB3 : Hid (Below w.heap.size w w3) := Lib.hid (HB2.out.trans (hT3.below (Nat.le_refl _) HT.out HB2.out.size))
          clear h3 hT3 hN3 d1 HI2 HS2 HQ2 HB2
          go_wp2_with fail
          refine (list_any HQ3.out).mono ?_
          rintro e w7 ⟨A7, c7, rfl, i7, _, hb7⟩
          have I7 := Lib.hid i7
          have HI7 : Hid (InS w7 A2 c2 l2) := Lib.hid (HI3.out.below hb7)
          have HS7 : Hid (Sep w7 w.heap.size t3 A2) := Lib.hid (HS3.out.grows hb7.size)
          have HQ7 : Hid (QU w7 w.heap.size t3 M l2) := Lib.hid (HQ3.out.keep hb7)
          have HB7 : Hid (Below w.heap.size w w7) := Lib.hid (HB3.out.trans (hb7.mono HB3.out.size))
          have HE : Hid (eqB l2 l2 = true) := Lib.hid (decide_eq_true rfl)
          obtain ⟨L7, f7, g7, q7, _⟩ := HQ7.out
          have HL7 := Lib.hid q7
          have hr7 := HQ7.out.room.1
          clear i7 hb7 q7 HQ3 HI3 HS3 HB3
          go_wp2_with fail
          refine (len_any HL7.out).mono ?_
          rintro e w8 ⟨rfl, rfl⟩
          go_wp2_with fail
          refine (equal_ints _ _ _ _ _ _ l2 l2 w7 rfl rfl I7.out HI7.out.ia (by unfold maxLen; omega) (by unfold maxLen; omega)).mono ?_
          rintro e w8 ⟨rfl, j8, rfl⟩
          rw [HE.out]
          have HI8 : Hid (InS (w7.drewN j8) A2 c2 l2) := Lib.hid (HI7.out.drewN j8)
          have HS8 : Hid (Sep (w7.drewN j8) w.heap.size t3 A2) := Lib.hid (HS7.out.grows (Nat.le_refl _))
          have HQ8 : Hid (QU (w7.drewN j8) w.heap.size t3 M l2) := Lib.hid (qu_drewN HQ7.out j8)
          have HB8 : Hid (Below w.heap.size w (w7.drewN j8)) := Lib.hid (below_drewN HB7.out j8)
          clear HI7 HS7 HQ7 HB7 HL7 I7 HE hr7 hd0 hd1 hd2
          go_wp2_with fail
          go_roundw
          case rel => exact ⟨k + 1, t3, A2, c2, l2, by omega, by go_num, rfl, HI8, HS8, HQ8, HT3, HB8⟩
          case measure => simp [intOf]; omega
        · have HF : Hid (l.length = M) := Lib.hid (by have := HQ.out.room.1; omega)
          clear hroom
          have HP := Lib.hid (refPut_no A c l.length most x wr (by rw [HM.out, HF.out]; exact Nat.le_refl _))
          go_wp2_with fail
          refine HP.out.mono ?_
          rintro e w2 ⟨rfl, rfl⟩
          go_wp2_with fail
          refine (put_no HQ.out x HF.out).mono ?_
          rintro e w3 ⟨rfl, j3, rfl⟩
          have HI3 : Hid (InS (wr.drewN j3) A c l) := Lib.hid (HI.out.drewN j3)
          have HS3 : Hid (Sep (wr.drewN j3) w.heap.size t A) := Lib.hid (HS.out.grows (Nat.le_refl _))
          have HQ3 : Hid (QU (wr.drewN j3) w.heap.size t M l) := Lib.hid (qu_drewN HQ.out j3)
          have HB3 : Hid (Below w.heap.size w (wr.drewN j3)) := Lib.hid (below_drewN HB.out j3)
          clear c0 c1 HP HI HS HQ HB HF
          generalize wr.drewN j3 = w3 at *
          go_wp2_with fail
          refine (list_any HQ3.out).mono ?_
          rintro e w7 ⟨A7, c7, rfl, i7, _, hb7⟩
          have I7 := Lib.hid i7
          have HI7 : Hid (InS w7 A c l) := Lib.hid (HI3.out.below hb7)
          have HS7 : Hid (Sep w7 w.heap.size t A) := Lib.hid (HS3.out.grows hb7.size)
          have HQ7 : Hid (QU w7 w.heap.size t M l) := Lib.hid (HQ3.out.keep hb7)
          have HB7 : Hid (Below w.heap.size w w7) := Lib.hid (HB3.out.trans (hb7.mono HB3.out.size))
          have HE : Hid (eqB l l = true) := Lib.hid (decide_eq_true rfl)
          obtain ⟨L7, f7, g7, q7, _⟩ := HQ7.out
          have HL7 := Lib.hid q7
          have hr7 := HQ7.out.room.1
          clear i7 hb7 q7 HQ3 HI3 HS3 HB3
          go_wp2_with fail
          refine (len_any HL7.out).mono ?_
          rintro e w8 ⟨rfl, rfl⟩
          go_wp2_with fail
          refine (equal_ints _ _ _ _ _ _ l l w7 rfl rfl I7.out HI7.out.ia (by unfold maxLen; omega) (by unfold maxLen; omega)).mono ?_
          rintro e w8 ⟨rfl, j8, rfl⟩
          rw [HE.out]
          have HI8 : Hid (InS (w7.drewN j8) A c l) := Lib.hid (HI7.out.drewN j8)
          have HS8 : Hid (Sep (w7.drewN j8) w.heap.size t A) := Lib.hid (HS7.out.grows (Nat.le_refl _))
          have HQ8 : Hid (QU (w7.drewN j8) w.heap.size t M l) := Lib.hid (qu_drewN HQ7.out j8)
          have HB8 : Hid (Below w.heap.size w (w7.drewN j8)) := Lib.hid (below_drewN HB7.out j8)
          clear HI7 HS7 HQ7 HB7 HL7 I7 HE hr7 hd0 hd1 hd2
          go_wp2_with fail
          go_roundw
          case rel => exact ⟨k + 1, t, A, c, l, by omega, by go_num, rfl, HI8, HS8, HQ8, HT, HB8⟩
          case measure => simp [intOf]; omega

      · have hd0 : (kd == 0) = false := by simpa using k0
        by_cases k1 : kd = 1
        · subst k1
          have hd1 : True := trivial
          have hd2 : True := trivial
          clear k0
          by_cases hroom : l.length < M
          · obtain ⟨l2, HL2⟩ : ∃ l2, Hid (x :: l = l2) := ⟨_, Lib.hid rfl⟩
            have hp := refPush_yes A c l.length most x l wr rfl (by rw [HM.out]; exact hroom) HI.out
            rw [HL2.out] at hp
            have HP := Lib.hid hp
            clear hp
            go_wp2_with fail
            refine HP.out.mono ?_
            rintro e w2 ⟨A2, c2, rfl, i2, s2, b2⟩
            have HI2 := Lib.hid i2
            have HS2 : Hid (Sep w2 w.heap.size t A2) := Lib.hid (fun a e => ⟨(s2 a e).2, by have := (s2 a e).1; have := HQ.out.lt.1; omega, fun e2 => by have := (s2 a e).1; have := HQ.out.lt.2 _ e2; omega⟩)
            have HQ2 : Hid (QU w2 w.heap.size t M l) := Lib.hid (HQ.out.keep b2)
            have HB2 : Hid (Below w.heap.size w w2) := Lib.hid (HB.out.trans (b2.mono HB.out.size))
            have d1 := HC1.out _ HB2.out
            clear i2 s2 b2 HP HI HS HQ HB c0 c1
            go_wp2_with fail
            refine (push_yes HQ2.out x hroom).mono ?_
            rintro e w3 ⟨rfl, t3, h3, hT3, hN3⟩
            rw [HL2.out] at h3
            have HI3 : Hid (InS w3 A2 c2 l2) := Lib.hid (ins_turns HI2.out hT3 HS2.out)
            have HS3 : Hid (Sep w3 w.heap.size t3 A2) := Lib.hid (HS2.out.next hT3 hN3)
            have HQ3 := Lib.hid h3
            have HT3 : Hid (∀ b, t3 = some b → w.heap.size ≤ b) := Lib.hid (hN3.le HT.out HB2.out.size)
            have HB3 : Hid (Below w.heap.size w w3) := Lib.hid (HB2.out.trans (hT3.below (Nat.le_refl _) HT.out HB2.out.size))
            clear h3 hT3 hN3 d1 HI2 HS2 HQ2 HB2
            go_wp2_with fail
            refine (list_any HQ3.out).mono ?_
            rintro e w7 ⟨A7, c7, rfl, i7, _, hb7⟩
            have I7 := Lib.hid i7
            have HI7 : Hid (InS w7 A2 c2 l2) := Lib.hid (HI3.out.below hb7)
            have HS7 : Hid (Sep w7 w.heap.size t3 A2) := Lib.hid (HS3.out.grows hb7.size)
            have HQ7 : Hid (QU w7 w.heap.size t3 M l2) := Lib.hid (HQ3.out.keep hb7)
            have HB7 : Hid (Below w.heap.size w w7) := Lib.hid (HB3.out.trans (hb7.mono HB3.out.size))
            have HE : Hid (eqB l2 l2 = true) := Lib.hid (decide_eq_true rfl)
            obtain ⟨L7, f7, g7, q7, _⟩ := HQ7.out
            have HL7 := Lib.hid q7
            have hr7 := HQ7.out.room.1
            clear i7 hb7 q7 HQ3 HI3 HS3 HB3
            go_wp2_with fail
            refine (len_any HL7.out).mono ?_
            rintro e w8 ⟨rfl, rfl⟩
            go_wp2_with fail
            refine (equal_ints _ _ _ _ _ _ l2 l2 w7 rfl rfl I7.out HI7.out.ia (by unfold maxLen; omega) (by unfold maxLen; omega)).mono ?_
            rintro e w8 ⟨rfl, j8, rfl⟩
            rw [HE.out]
            have HI8 : Hid (InS (w7.drewN j8) A2 c2 l2) := Lib.hid (HI7.out.drewN j8)
            have HS8 : Hid (Sep (w7.drewN j8) w.heap.size t3 A2) := Lib.hid (HS7.out.grows (Nat.le_refl _))
            have HQ8 : Hid (QU (w7.drewN j8) w.heap.size t3 M l2) := Lib.hid (qu_drewN HQ7.out j8)
            have HB8 : Hid (Below w.heap.size w (w7.drewN j8)) := Lib.hid (below_drewN HB7.out j8)
            clear HI7 HS7 HQ7 HB7 HL7 I7 HE hr7 hd0 hd1 hd2
            go_wp2_with fail
            go_roundw
            case rel => exact ⟨k + 1, t3, A2, c2, l2, by omega, by go_num, rfl, HI8, HS8, HQ8, HT3, HB8⟩
            case measure => simp [intOf]; omega
          · have HF : Hid (l.length = M) := Lib.hid (by have := HQ.out.room.1; omega)
            clear hroom
            have HP := Lib.hid (refPush_no A c l.length most x wr (by rw [HM.out, HF.out]; exact Nat.le_refl _))
            go_wp2_with fail
            refine HP.out.mono ?_
            rintro e w2 ⟨rfl, rfl⟩
            go_wp2_with fail
            refine (push_no HQ.out x HF.out).mono ?_
            rintro e w3 ⟨rfl, j3, rfl⟩
            have HI3 : Hid (InS (wr.drewN j3) A c l) := Lib.hid (HI.out.drewN j3)
            have HS3 : Hid (Sep (wr.drewN j3) w.heap.size t A) := Lib.hid (HS.out.grows (Nat.le_refl _))
            have HQ3 : Hid (QU (wr.drewN j3) w.heap.size t M l) := Lib.hid (qu_drewN HQ.out j3)
            have HB3 : Hid (Below w.heap.size w (wr.drewN j3)) := Lib.hid (below_drewN HB.out j3)
            clear c0 c1 HP HI HS HQ HB HF
            generalize wr.drewN j3 = w3 at *
            go_wp2_with fail
            refine (list_any HQ3.out).mono ?_
            rintro e w7 ⟨A7, c7, rfl, i7, _, hb7⟩
            have I7 := Lib.hid i7
            have HI7 : Hid (InS w7 A c l) := Lib.hid (HI3.out.below hb7)
            have HS7 : Hid (Sep w7 w.heap.size t A) := Lib.hid (HS3.out.grows hb7.size)
            have HQ7 : Hid (QU w7 w.heap.size t M l) := Lib.hid (HQ3.out.keep hb7)
            have HB7 : Hid (Below w.heap.size w w7) := Lib.hid (HB3.out.trans (hb7.mono HB3.out.size))
            have HE : Hid (eqB l l = true) := Lib.hid (decide_eq_true rfl)
            obtain ⟨L7, f7, g7, q7, _⟩ := HQ7.out
            have HL7 := Lib.hid q7
            have hr7 := HQ7.out.room.1
            clear i7 hb7 q7 HQ3 HI3 HS3 HB3
            go_wp2_with fail
            refine (len_any HL7.out).mono ?_
            rintro e w8 ⟨rfl, rfl⟩
            go_wp2_with fail
            refine (equal_ints _ _ _ _ _ _ l l w7 rfl rfl I7.out HI7.out.ia (by unfold maxLen; omega) (by unfold maxLen; omega)).mono ?_
            rintro e w8 ⟨rfl, j8, rfl⟩
            rw [HE.out]
            have HI8 : Hid (InS (w7.drewN j8) A c l) := Lib.hid (HI7.out.drewN j8)
            have HS8 : Hid (Sep (w7.drewN j8) w.heap.size t A) := Lib.hid (HS7.out.grows (Nat.le_refl _))
            have HQ8 : Hid (QU (w7.drewN j8) w.heap.size t M l) := Lib.hid (qu_drewN HQ7.out j8)
            have HB8 : Hid (Below w.heap.size w (w7.drewN j8)) := Lib.hid (below_drewN HB7.out j8)
            clear HI7 HS7 HQ7 HB7 HL7 I7 HE hr7 hd0 hd1 hd2
            go_wp2_with fail
            go_roundw
            case rel => exact ⟨k + 1, t, A, c, l, by omega, by go_num, rfl, HI8, HS8, HQ8, HT, HB8⟩
            case measure => simp [intOf]; omega

        · have hd1 : (kd == 1) = false := by simpa using k1
          by_cases k2 : kd = 2
          · subst k2
            have hd2 : True := trivial
            clear k0 k1
            rcases list_cons l with rfl | ⟨x2, l2, rfl⟩
            · rw [List.length_nil]
              go_wp2_with fail
              refine (refTake_none A c wr).mono ?_
              rintro e w2 ⟨rfl, rfl⟩
              go_wp2_with fail
              refine (take_none HQ.out).mono ?_
              rintro e w3 ⟨rfl, rfl⟩
              clear c0 c1
              go_wp2_with fail
              refine (list_any HQ.out).mono ?_
              rintro e w7 ⟨A7, c7, rfl, i7, _, hb7⟩
              have I7 := Lib.hid i7
              have HI7 : Hid (InS w7 A c ([] : List Int)) := Lib.hid (HI.out.below hb7)
              have HS7 : Hid (Sep w7 w.heap.size t A) := Lib.hid (HS.out.grows hb7.size)
              have HQ7 : Hid (QU w7 w.heap.size t M ([] : List Int)) := Lib.hid (HQ.out.keep hb7)
              have HB7 : Hid (Below w.heap.size w w7) := Lib.hid (HB.out.trans (hb7.mono HB.out.size))
              have HE : Hid (eqB ([] : List Int) ([] : List Int) = true) := Lib.hid (decide_eq_true rfl)
              obtain ⟨L7, f7, g7, q7, _⟩ := HQ7.out
              have HL7 := Lib.hid q7
              have hr7 := HQ7.out.room.1
              clear i7 hb7 q7 HQ HI HS HB
              go_wp2_with fail
              refine (len_any HL7.out).mono ?_
              rintro e w8 ⟨rfl, rfl⟩
              go_wp2_with fail
              refine (equal_ints _ _ _ _ _ _ ([] : List Int) ([] : List Int) w7 rfl rfl I7.out HI7.out.ia (by unfold maxLen; omega) (by unfold maxLen; omega)).mono ?_
              rintro e w8 ⟨rfl, j8, rfl⟩
              rw [HE.out]
              have HI8 : Hid (InS (w7.drewN j8) A c ([] : List Int)) := Lib.hid (HI7.out.drewN j8)
              have HS8 : Hid (Sep (w7.drewN j8) w.heap.size t A) := Lib.hid (HS7.out.grows (Nat.le_refl _))
              have HQ8 : Hid (QU (w7.drewN j8) w.heap.size t M ([] : List Int)) := Lib.hid (qu_drewN HQ7.out j8)
              have HB8 : Hid (Below w.heap.size w (w7.drewN j8)) := Lib.hid (below_drewN HB7.out j8)
              clear HI7 HS7 HQ7 HB7 HL7 I7 HE hr7 hd0 hd1 hd2
              go_wp2_with fail
              go_roundw
              case rel => exact ⟨k + 1, t, A, c, ([] : List Int), by omega, by go_num, rfl, HI8, HS8, HQ8, HT, HB8⟩
              case measure => simp [intOf]; omega
            · obtain ⟨ab, ao, rfl⟩ := HI.out.block (by simp)
              have hlen2 : l2.length ≤ 1000000 := by have h1 := HQ.out.room; have h2 := h1.1; have h3 := h1.2; simp at h2; omega
              have hll : (x2 :: l2).length = l2.length + 1 := by simp
              rw [hll]
              clear hll
              have HP := Lib.hid (refTake_some ab ao c x2 l2 l2.length wr rfl hlen2 HI.out)
              go_wp2_with fail
              refine HP.out.mono ?_
              rintro e w2 ⟨A2, c2, rfl, i2, s2, j2, rfl⟩
              have HI2 : Hid (InS (wr.drewN j2) A2 c2 l2) := Lib.hid (i2.drewN j2)
              have HS2 : Hid (Sep (wr.drewN j2) w.heap.size t A2) := Lib.hid (fun a e => by have := HS.out _ rfl; rw [s2 a e]; exact this)
              have HQ2 : Hid (QU (wr.drewN j2) w.heap.size t M (x2 :: l2)) := Lib.hid (qu_drewN HQ.out j2)
              have HB2 : Hid (Below w.heap.size w (wr.drewN j2)) := Lib.hid (below_drewN HB.out j2)
              clear i2 s2 HP HI HS HQ HB c0 c1
              generalize wr.drewN j2 = w2 at *
              go_wp2_with fail
              refine (take_some HQ2.out).mono ?_
              rintro e w3 ⟨rfl, h3, hT3⟩
              have HI3 : Hid (InS w3 A2 c2 l2) := Lib.hid (ins_turns HI2.out hT3 HS2.out)
              have HS3 : Hid (Sep w3 w.heap.size t A2) := Lib.hid (HS2.out.next hT3 (.inl rfl))
              have HQ3 := Lib.hid h3
              have HB3 : Hid (Below w.heap.size w w3) := Lib.hid (HB2.out.trans (hT3.below (Nat.le_refl _) HT.out HB2.out.size))
              clear h3 hT3 HI2 HS2 HQ2 HB2
              go_wp2_with fail
              refine (list_any HQ3.out).mono ?_
              rintro e w7 ⟨A7, c7, rfl, i7, _, hb7⟩
              have I7 := Lib.hid i7
              have HI7 : Hid (InS w7 A2 c2 l2) := Lib.hid (HI3.out.below hb7)
              have HS7 : Hid (Sep w7 w.heap.size t A2) := Lib.hid (HS3.out.grows hb7.size)
              have HQ7 : Hid (QU w7 w.heap.size t M l2) := Lib.hid (HQ3.out.keep hb7)
              have HB7 : Hid (Below w.heap.size w w7) := Lib.hid (HB3.out.trans (hb7.mono HB3.out.size))
              have HE : Hid (eqB l2 l2 = true) := Lib.hid (decide_eq_true rfl)
              obtain ⟨L7, f7, g7, q7, _⟩ := HQ7.out
              have HL7 := Lib.hid q7
              have hr7 := HQ7.out.room.1
              clear i7 hb7 q7 HQ3 HI3 HS3 HB3
              go_wp2_with fail
              refine (len_any HL7.out).mono ?_
              rintro e w8 ⟨rfl, rfl⟩
              go_wp2_with fail
              refine (equal_ints _ _ _ _ _ _ l2 l2 w7 rfl rfl I7.out HI7.out.ia (by unfold maxLen; omega) (by unfold maxLen; omega)).mono ?_
              rintro e w8 ⟨rfl, j8, rfl⟩
              rw [HE.out]
              have HI8 : Hid (InS (w7.drewN j8) A2 c2 l2) := Lib.hid (HI7.out.drewN j8)
              have HS8 : Hid (Sep (w7.drewN j8) w.heap.size t A2) := Lib.hid (HS7.out.grows (Nat.le_refl _))
              have HQ8 : Hid (QU (w7.drewN j8) w.heap.size t M l2) := Lib.hid (qu_drewN HQ7.out j8)
              have HB8 : Hid (Below w.heap.size w (w7.drewN j8)) := Lib.hid (below_drewN HB7.out j8)
              clear HI7 HS7 HQ7 HB7 HL7 I7 HE hr7 hd0 hd1 hd2
              go_wp2_with fail
              go_roundw
              case rel => exact ⟨k + 1, t, A2, c2, l2, by omega, by go_num, rfl, HI8, HS8, HQ8, HT, HB8⟩
              case measure => simp [intOf]; omega

          · have hd2 : (kd == 2) = false := by simpa using k2
            clear k0 k1 k2
            rcases list_snoc l with rfl | ⟨x2, l2, rfl⟩
            · rw [List.length_nil]
              go_wp2_with fail
              refine (refLast_none A c wr).mono ?_
              rintro e w2 ⟨rfl, rfl⟩
              go_wp2_with fail
              refine (last_none HQ.out).mono ?_
              rintro e w3 ⟨rfl, rfl⟩
              clear c0 c1
              go_wp2_with fail
              refine (list_any HQ.out).mono ?_
              rintro e w7 ⟨A7, c7, rfl, i7, _, hb7⟩
              have I7 := Lib.hid i7
              have HI7 : Hid (InS w7 A c ([] : List Int)) := Lib.hid (HI.out.below hb7)
              have HS7 : Hid (Sep w7 w.heap.size t A) := Lib.hid (HS.out.grows hb7.size)
              have HQ7 : Hid (QU w7 w.heap.size t M ([] : List Int)) := Lib.hid (HQ.out.keep hb7)
              have HB7 : Hid (Below w.heap.size w w7) := Lib.hid (HB.out.trans (hb7.mono HB.out.size))
              have HE : Hid (eqB ([] : List Int) ([] : List Int) = true) := Lib.hid (decide_eq_true rfl)
              obtain ⟨L7, f7, g7, q7, _⟩ := HQ7.out
              have HL7 := Lib.hid q7
              have hr7 := HQ7.out.room.1
              clear i7 hb7 q7 HQ HI HS HB
              go_wp2_with fail
              refine (len_any HL7.out).mono ?_
              rintro e w8 ⟨rfl, rfl⟩
              go_wp2_with fail
              refine (equal_ints _ _ _ _ _ _ ([] : List Int) ([] : List Int) w7 rfl rfl I7.out HI7.out.ia (by unfold maxLen; omega) (by unfold maxLen; omega)).mono ?_
              rintro e w8 ⟨rfl, j8, rfl⟩
              rw [HE.out]
              have HI8 : Hid (InS (w7.drewN j8) A c ([] : List Int)) := Lib.hid (HI7.out.drewN j8)
              have HS8 : Hid (Sep (w7.drewN j8) w.heap.size t A) := Lib.hid (HS7.out.grows (Nat.le_refl _))
              have HQ8 : Hid (QU (w7.drewN j8) w.heap.size t M ([] : List Int)) := Lib.hid (qu_drewN HQ7.out j8)
              have HB8 : Hid (Below w.heap.size w (w7.drewN j8)) := Lib.hid (below_drewN HB7.out j8)
              clear HI7 HS7 HQ7 HB7 HL7 I7 HE hr7 hd0 hd1 hd2
              go_wp2_with fail
              go_roundw
              case rel => exact ⟨k + 1, t, A, c, ([] : List Int), by omega, by go_num, rfl, HI8, HS8, HQ8, HT, HB8⟩
              case measure => simp [intOf]; omega
            · obtain ⟨ab, ao, rfl⟩ := HI.out.block (by simp)
              have hlen2 : l2.length ≤ 1000000 := by have h1 := HQ.out.room; have h2 := h1.1; have h3 := h1.2; simp at h2; omega
              have hll : (l2 ++ [x2]).length = l2.length + 1 := by simp
              rw [hll]
              clear hll
              have HP := Lib.hid (refLast_some ab ao c x2 l2 l2.length wr rfl hlen2 HI.out)
              go_wp2_with fail
              refine HP.out.mono ?_
              rintro e w2 ⟨A2, c2, rfl, i2, s2, j2, rfl⟩
              have HI2 : Hid (InS (wr.drewN j2) A2 c2 l2) := Lib.hid (i2.drewN j2)
              have HS2 : Hid (Sep (wr.drewN j2) w.heap.size t A2) := Lib.hid (fun a e => by have := HS.out _ rfl; rw [s2 a e]; exact this)
              have HQ2 : Hid (QU (wr.drewN j2) w.heap.size t M (l2 ++ [x2])) := Lib.hid (qu_drewN HQ.out j2)
              have HB2 : Hid (Below w.heap.size w (wr.drewN j2)) := Lib.hid (below_drewN HB.out j2)
              clear i2 s2 HP HI HS HQ HB c0 c1
              generalize wr.drewN j2 = w2 at *
              go_wp2_with fail
              refine (last_some HQ2.out).mono ?_
              rintro e w3 ⟨rfl, h3, hT3⟩
              have HI3 : Hid (InS w3 A2 c2 l2) := Lib.hid (ins_turns HI2.out hT3 HS2.out)
              have HS3 : Hid (Sep w3 w.heap.size t A2) := Lib.hid (HS2.out.next hT3 (.inl rfl))
              have HQ3 := Lib.hid h3
              have HB3 : Hid (Below w.heap.size w w3) := Lib.hid (HB2.out.trans (hT3.below (Nat.le_refl _) HT.out HB2.out.size))
              clear h3 hT3 HI2 HS2 HQ2 HB2
              go_wp2_with fail
              refine (list_any HQ3.out).mono ?_
              rintro e w7 ⟨A7, c7, rfl, i7, _, hb7⟩
              have I7 := Lib.hid i7
              have HI7 : Hid (InS w7 A2 c2 l2) := Lib.hid (HI3.out.below hb7)
              have HS7 : Hid (Sep w7 w.heap.size t A2) := Lib.hid (HS3.out.grows hb7.size)
              have HQ7 : Hid (QU w7 w.heap.size t M l2) := Lib.hid (HQ3.out.keep hb7)
              have HB7 : Hid (Below w.heap.size w w7) := Lib.hid (HB3.out.trans (hb7.mono HB3.out.size))
              have HE : Hid (eqB l2 l2 = true) := Lib.hid (decide_eq_true rfl)
              obtain ⟨L7, f7, g7, q7, _⟩ := HQ7.out
              have HL7 := Lib.hid q7
              have hr7 := HQ7.out.room.1
              clear i7 hb7 q7 HQ3 HI3 HS3 HB3
              go_wp2_with fail
              refine (len_any HL7.out).mono ?_
              rintro e w8 ⟨rfl, rfl⟩
              go_wp2_with fail
              refine (equal_ints _ _ _ _ _ _ l2 l2 w7 rfl rfl I7.out HI7.out.ia (by unfold maxLen; omega) (by unfold maxLen; omega)).mono ?_
              rintro e w8 ⟨rfl, j8, rfl⟩
              rw [HE.out]
              have HI8 : Hid (InS (w7.drewN j8) A2 c2 l2) := Lib.hid (HI7.out.drewN j8)
              have HS8 : Hid (Sep (w7.drewN j8) w.heap.size t A2) := Lib.hid (HS7.out.grows (Nat.le_refl _))
              have HQ8 : Hid (QU (w7.drewN j8) w.heap.size t M l2) := Lib.hid (qu_drewN HQ7.out j8)
              have HB8 : Hid (Below w.heap.size w (w7.drewN j8)) := Lib.hid (below_drewN HB7.out j8)
              clear HI7 HS7 HQ7 HB7 HL7 I7 HE hr7 hd0 hd1 hd2
              go_wp2_with fail
              go_roundw
              case rel => exact ⟨k + 1, t, A2, c2, l2, by omega, by go_num, rfl, HI8, HS8, HQ8, HT, HB8⟩
              case measure => simp [intOf]; omega

    · obtain rfl : n = k := by omega
      clear hlt hk H1 HB1
      go_wp2_with fail
      refine (works_any _).mono ?_
      rintro e w7 ⟨rfl, hb7⟩
      have HB7 : Hid (Below w.heap.size w w7) := Lib.hid (HB.out.trans (hb7.mono HB.out.size))
      clear hb7
      go_wp2_with fail
      go_ret
      exact ⟨rfl, HB7.out⟩

theorem walk (A : Option Addr) (c : Nat) (most : Int) (zs : List (Int × Int)) (w : World) (hA : PA w A zs) (ha : 16 * zs.length ≤ 140737488355328) :
    Calls Try.prog 3 #[.int .i64 most, .slice A zs.length c] w (LawPost w) := by
  by_cases h : 80 < zs.length
  · exact large A c zs.length most w h (by omega)
  · exact small A c most zs w hA (by omega)

set_option maxRecDepth 100000 in
theorem lifted (os : Os) (started : os.Started) (H : Type) (enc : TypeId × Value → H) :
    ReturnsInHanded {} Try.checked os 3 .any (Rows.ringPlaysSpec.pre6 enc Try.prog Try.f3 Rows.ringPlaysRow.domain false) (Rows.ringPlaysSpec.post enc Try.prog Try.f3 false true false false) := by
  refine law_lifted started [3, 22] rfl (by kernel_rfl) Try.func3 rfl (by decide +kernel) rfl (fun ds hl => by
    match ds, hl with
    | [_, _], _ => rfl) (ChangeSpec.witness6 (enc := enc) (C := Try.checked) false ⟨#[], #[.int .i64 0, .slice none 0 0], []⟩ 8 (by kernel_rfl) (by kernel_rfl) (by kernel_rfl) (by kernel_rfl)) ?_
  intro W base args ds ps hval hA hlt hsz
  obtain ⟨v0, vs0, d0, ds0, p0, q0, hargs, rfl, rfl, h0, r0⟩ := trodAll_cons hA
  obtain ⟨v1, vs1, d1, ds1, p1, q1, rfl, rfl, rfl, h1, r1⟩ := trodAll_cons r0
  obtain ⟨rfl, rfl, rfl⟩ := trodAll_nil r1
  obtain rfl : args = #[v0, v1] := by cases args; simp_all
  obtain ⟨x0, rfl, rfl, rfl, w0⟩ := open_int Try.underlying3 (hval 0 3 v0 rfl rfl) h0
  obtain ⟨A1, c1, x1, rfl, b1, q1, m1, i1, z1⟩ := open_pairs_arg Try.underlying22 Try.underlying28 (by kernel_rfl) (by kernel_rfl) rfl rfl rfl rfl (hval 1 22 v1 rfl rfl) h1 hsz 1 rfl rfl
  exact walk A1 c1 x0 x1 W i1 b1

set_option maxRecDepth 100000 in
theorem over : Rows.ringPlaysRow.holds Try.pinned (OpenSpec.ofChange Rows.ringPlaysSpec) :=
  OpenClaim.holds_of_wide 3 Try.f3 rfl rfl rfl rfl rfl rfl rfl ⟨rfl, rfl, rfl, rfl, rfl⟩ rfl rfl rfl rfl rfl (by kernel_rfl) Try.func3 (by kernel_rfl)
    (of_decide_eq_true (by kernel_rfl)) (by unfold Func.isWrapper; first | (rw [if_pos (by decide +kernel)]; kernel_rfl) | (rw [if_neg (by decide +kernel)]; exact ⟨rfl, rfl⟩))
    (fun os started H enc _ => lifted os started H enc)

theorem proved : Rows.RingPlaysSaid := over
#print axioms proved
end Go.Proofs.Ytfhapodidjkmaaa.ringPlays
