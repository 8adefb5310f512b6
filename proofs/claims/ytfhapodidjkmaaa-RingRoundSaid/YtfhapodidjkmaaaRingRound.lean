/- The law RingRound: a queue that is always full goes round for ever. No condition. -/
import Derived.Test.YtfhapodidjkmaaaRingWorks
import Derived.Test.YtfhapodidjkmaaaOpens
import Derived.WalkSpells
namespace Go.Proofs.Ytfhapodidjkmaaa.ringRound
open Go.ChangeShapes Go.WideShapes Go.ChangeAt Go.RowKit

/-- What stands there when k have come. -/
def cur (l : List Int) (m k : Nat) : List Int := (l.take k).drop (k - m)
theorem cur_length {l : List Int} {m k : Nat} (h : k ≤ l.length) : (cur l m k).length = min k m := by
  unfold cur; rw [List.length_drop, List.length_take]; omega
theorem cur_snoc {l : List Int} {m k : Nat} (h : k < l.length) (hm : k < m) : cur l m (k + 1) = cur l m k ++ [l.getD k 0] := by
  unfold cur
  rw [show k + 1 - m = 0 by omega, show k - m = 0 by omega, List.drop_zero, List.drop_zero, List.take_succ_eq_append_getElem h]
  simp [List.getD, h]
theorem cur_head {l : List Int} {m k : Nat} (h : k < l.length) (hm : m ≤ k) (h0 : 0 < m) : cur l m k = l.getD (k - m) 0 :: (l.take k).drop (k - m + 1) := by
  unfold cur
  rw [List.drop_eq_getElem_cons (by rw [List.length_take]; omega)]
  congr 1
  rw [List.getElem_take]
  simp [List.getD, show k - m < l.length by omega]
theorem cur_next {l : List Int} {m k : Nat} (h : k < l.length) (hm : m ≤ k) (h0 : 0 < m) : cur l m (k + 1) = (l.take k).drop (k - m + 1) ++ [l.getD k 0] := by
  unfold cur
  rw [show k + 1 - m = k - m + 1 by omega, List.take_succ_eq_append_getElem h, List.drop_append_of_le_length (by rw [List.length_take]; omega)]
  simp [List.getD, h]
theorem cur_all {l : List Int} {m : Nat} : cur l m l.length = l.drop (l.length - m) := by unfold cur; rw [List.take_length]
theorem ia_drop {w : World} {a : Addr} {n : Nat} {l : List Int} (h : IA w (some a) l) : IA w (some (a.add n)) (l.drop n) := fun hn => by
  rw [List.length_drop] at hn
  obtain ⟨b, o, e, hb, hc⟩ := h (by omega)
  injection e with e
  subst e
  refine ⟨b, o + n, by rw [add_plain], hb, fun i hi => ?_⟩
  rw [List.length_drop] at hi
  rw [show o + n + i = o + (n + i) by omega, hc (n + i) (by omega)]
  simp [List.getD]
theorem ia_none {w : World} {A : Option Addr} {l : List Int} (h : l.length = 0) : IA w A l := fun hn => by omega

theorem large (A : Option Addr) (c : Nat) (m : Int) (l : List Int) (w : World) (h : 200 < l.length ∨ m = 0) (ha : l.length ≤ 17592186044416) :
    Calls Try.prog 5 #[.int .u8 m, .slice A l.length c] w (LawPost w) := by
  generalize l.length = x at h ha
  by_cases h1 : 200 < x
  · clear h
    go_enter Try.func5, Try.ntmps5
    go_wp2_with (go_at_call 15; refine (works_any _).mono ?_; rintro e w' ⟨rfl, hbw⟩)
    go_ret
    exact ⟨rfl, hbw⟩
  · obtain rfl : m = 0 := by omega
    clear h
    go_enter Try.func5, Try.ntmps5
    go_wp2_with (go_at_call 15; refine (works_any _).mono ?_; rintro e w' ⟨rfl, hbw⟩)
    go_ret
    exact ⟨rfl, hbw⟩

set_option maxRecDepth 20000 in
set_option maxHeartbeats 4000000 in
theorem small (A : Option Addr) (c m : Nat) (l : List Int) (w : World) (hA : IA w A l) (hl : l.length ≤ 200) (hc : l.length ≤ c) (hc2 : c ≤ maxLen) (hm1 : 0 < m) (hm2 : m ≤ 255) :
    Calls Try.prog 5 #[.int .u8 m, .slice A l.length c] w (LawPost w) := by
  have HA := Lib.hid hA
  unfold maxLen at hc2
  obtain ⟨n, HN⟩ : ∃ n, Hid (l.length = n) := ⟨_, Lib.hid rfl⟩
  rw [HN.out] at hl hc ⊢
  have HM : Hid (mostOf (m : Int) = m) := Lib.hid (by unfold mostOf; omega)
  have hm0 : ((m : Int) == 0) = false := by simp; omega
  have hn0 : decide ((200 : Int) < (n : Int)) = false := by simp; omega
  clear hA
  go_enter Try.func5, Try.ntmps5
  go_wp2_with fail
  refine (new_any (m : Int) w).mono ?_
  rintro e w1 ⟨s, rfl, rfl, h1, hb1, hz1⟩
  have H1 : Hid (QU w1 w.heap.size none m ([] : List Int)) := Lib.hid (by rw [HM.out] at h1; exact h1)
  have HB1 := Lib.hid hb1
  clear h1 hb1 hz1
  go_wp2_with fail
  go_loopw [6, 7] (fun f i wr => ∃ (k : Nat) (t : Option Nat), k ≤ n ∧ i = .int .i64 k ∧ f = .int .i64 ((k - m : Nat) : Int) ∧ Hid (QU wr w.heap.size t m (cur l m k)) ∧ Hid (∀ b, t = some b → w.heap.size ≤ b) ∧ Hid (Below w.heap.size w wr)) (fun _ i _ => n - (intOf i).toNat)
  case atStart => exact ⟨0, none, by omega, rfl, by simp, Lib.hid (by unfold cur; simpa using H1.out), Lib.hid (fun b e => by cases e), HB1⟩
  case round =>
    obtain ⟨k, t, hk, rfl, rfl, HQ, HT, HB⟩ := hrel
    by_cases hlt : k < n
    · obtain ⟨b, o, rfl, hb, hcc⟩ := HA.out (by rw [HN.out]; omega)
      have c1 : wr.cell? ⟨b, o + k, none⟩ = some (.int .i64 (l.getD k 0)) := by rw [HB.out.cell (p := ⟨b, o + k, none⟩) hb]; exact hcc k (by rw [HN.out]; exact hlt)
      have HLEN : Hid ((cur l m k).length = min k m) := Lib.hid (cur_length (by rw [HN.out]; exact hk))
      obtain ⟨L2, f2, g2, q2, _⟩ := HQ.out
      rw [HLEN.out] at q2
      have HL2 := Lib.hid q2
      clear q2
      by_cases hkm : k < m
      · have HS := Lib.hid (cur_snoc (l := l) (m := m) (by rw [HN.out]; exact hlt) hkm)
        generalize l.getD k 0 = y at c1 HS
        have hmin : min k m = k := by omega
        rw [hmin] at HL2
        have hf : ((k : Int) == (m : Int)) = false := by simp; omega
        clear hcc hmin
        go_wp2_with fail
        refine (len_any HL2.out).mono ?_
        rintro e w2 ⟨rfl, rfl⟩
        go_wp2_with fail
        refine (put_yes HQ.out y (by rw [HLEN.out]; omega)).mono ?_
        rintro e w3 ⟨rfl, t3, h3, hT3, hN3⟩
        have HQ3 : Hid (QU w3 w.heap.size t3 m (cur l m (k + 1))) := Lib.hid (by rw [HS.out]; exact h3)
        have HT3 : Hid (∀ b, t3 = some b → w.heap.size ≤ b) := Lib.hid (hN3.le HT.out HB.out.size)
        have HB3 : Hid (Below w.heap.size w w3) := Lib.hid (HB.out.trans (hT3.below (Nat.le_refl _) HT.out HB.out.size))
        have HF : Hid (((k - m : Nat) : Int) = ((k + 1 - m : Nat) : Int)) := Lib.hid (by omega)
        clear h3 hT3 hN3 c1
        go_wp2_with fail
        go_roundw
        case rel => exact ⟨k + 1, t3, by omega, by go_num, by rw [HF.out], HQ3, HT3, HB3⟩
        case measure => simp [intOf]; omega
      · have HH := Lib.hid (cur_head (l := l) (m := m) (by rw [HN.out]; exact hlt) (by omega) hm1)
        have HS := Lib.hid (cur_next (l := l) (m := m) (by rw [HN.out]; exact hlt) (by omega) hm1)
        have c2 : wr.cell? ⟨b, o + (k - m), none⟩ = some (.int .i64 (l.getD (k - m) 0)) := by rw [HB.out.cell (p := ⟨b, o + (k - m), none⟩) hb]; exact hcc (k - m) (by rw [HN.out]; omega)
        generalize l.getD k 0 = y at c1 HS
        generalize l.getD (k - m) 0 = z at c2 HH
        obtain ⟨R, HR⟩ : ∃ R, Hid ((l.take k).drop (k - m + 1) = R) := ⟨_, Lib.hid rfl⟩
        have HRL : Hid (R.length = m - 1) := Lib.hid (by rw [← HR.out, List.length_drop, List.length_take, HN.out]; omega)
        rw [HR.out] at HH HS
        have hmin : min k m = m := by omega
        rw [hmin] at HL2
        have HQ2 : Hid (QU wr w.heap.size t m (z :: R)) := Lib.hid (by rw [← HH.out]; exact HQ.out)
        have hlm : (m : Int) - 1 = ((m - 1 : Nat) : Int) := by omega
        obtain ⟨F, HF⟩ : ∃ F, Hid (k - m = F) := ⟨_, Lib.hid rfl⟩
        have hF : F < n := by rw [← HF.out]; omega
        rw [HF.out] at c2 ⊢
        clear hcc hmin HQ
        go_wp2_with fail
        refine (len_any HL2.out).mono ?_
        rintro e w2 ⟨rfl, rfl⟩
        go_wp2_with fail
        refine (take_some HQ2.out).mono ?_
        rintro e w3 ⟨rfl, h3, hT3⟩
        have HQ3 := Lib.hid h3
        have HB3 : Hid (Below w.heap.size w w3) := Lib.hid (HB.out.trans (hT3.below (Nat.le_refl _) HT.out HB.out.size))
        have d1 : w3.cell? ⟨b, o + k, none⟩ = some (.int .i64 y) := (hT3.below (Nat.le_refl _) HT.out HB.out.size).cell (p := ⟨b, o + k, none⟩) hb |>.trans c1
        have d2 : w3.cell? ⟨b, o + F, none⟩ = some (.int .i64 z) := (hT3.below (Nat.le_refl _) HT.out HB.out.size).cell (p := ⟨b, o + F, none⟩) hb |>.trans c2
        obtain ⟨L3, f3, g3, q3, _⟩ := h3
        rw [HRL.out] at q3
        have HL3 := Lib.hid q3
        clear hT3 q3 c1 c2 HQ2 HB HL2
        go_wp2_with fail
        refine (len_any HL3.out).mono ?_
        rintro e w4 ⟨rfl, rfl⟩
        go_wp2_with fail
        refine (put_yes HQ3.out y (by rw [HRL.out]; omega)).mono ?_
        rintro e w5 ⟨rfl, t5, h5, hT5, hN5⟩
        have HQ5 : Hid (QU w5 w.heap.size t5 m (cur l m (k + 1))) := Lib.hid (by rw [HS.out]; exact h5)
        have HT5 : Hid (∀ b, t5 = some b → w.heap.size ≤ b) := Lib.hid (hN5.le HT.out HB3.out.size)
        have HB5 : Hid (Below w.heap.size w w5) := Lib.hid (HB3.out.trans (hT5.below (Nat.le_refl _) HT.out HB3.out.size))
        have HF2 : Hid ((F : Int) + 1 = ((k + 1 - m : Nat) : Int)) := Lib.hid (by rw [← HF.out]; omega)
        clear h5 hT5 hN5 d1 d2 hlm
        go_wp2_with fail
        go_roundw
        case rel => exact ⟨k + 1, t5, by omega, by go_num, by rw [← HF2.out], HQ5, HT5, HB5⟩
        case measure => simp [intOf]; omega
    · obtain rfl : n = k := by omega
      have HC : Hid (cur l m n = l.drop (n - m)) := Lib.hid (by rw [← HN.out]; exact cur_all)
      clear hlt hk H1 HB1
      go_wp2_with fail
      refine (list_any HQ.out).mono ?_
      rintro e w6 ⟨A6, c6, rfl, i6, _, hb6⟩
      have I6 := Lib.hid i6
      have HA6 : Hid (IA w6 A l) := Lib.hid ((HA.out.below HB.out).below hb6)
      have HB6 : Hid (Below w.heap.size w w6) := Lib.hid (HB.out.trans (hb6.mono HB.out.size))
      have HLEN : Hid ((cur l m n).length = n - (n - m)) := Lib.hid (by rw [HC.out, List.length_drop, HN.out])
      rw [HLEN.out]
      clear i6 hb6 HQ HB HA
      obtain ⟨F, HF⟩ : ∃ F, Hid (n - m = F) := ⟨_, Lib.hid rfl⟩
      have hF : F ≤ n := by rw [← HF.out]; omega
      have hF2 : 0 < n → F < n := by rw [← HF.out]; omega
      rw [HF.out] at HC HLEN ⊢
      have HE : Hid (eqB (cur l m n) (l.drop F) = true) := Lib.hid (decide_eq_true HC.out)
      have HDL : Hid (n - F = (l.drop F).length) := Lib.hid (by rw [List.length_drop, HN.out])
      cases A with
      | none =>
        have h0 : n = 0 := by
          rcases Nat.eq_zero_or_pos n with h | h
          · exact h
          · obtain ⟨b, o, e, _⟩ := HA6.out (by rw [HN.out]; exact h)
            cases e
        subst h0
        obtain rfl : F = 0 := by omega
        have HD : ∀ X, Hid (IA w6 X (l.drop 0)) := fun X => Lib.hid (ia_none (by rw [List.drop_zero]; exact HN.out))
        go_wp2_with fail
        all_goals
          refine (equal_ints _ _ _ _ _ _ (cur l m 0) (l.drop 0) w6 HLEN.out.symm HDL.out I6.out (HD _).out (by rw [HLEN.out]; unfold maxLen; omega) (by rw [← HDL.out]; unfold maxLen; omega)).mono ?_
          rintro e w7 ⟨rfl, j7, rfl⟩
          rw [HE.out]
          go_wp2_with fail
          refine (works_any _).mono ?_
          rintro e w8 ⟨rfl, hb8⟩
          have HB8 : Hid (Below w.heap.size w w8) := Lib.hid ((below_drewN HB6.out j7).trans (hb8.mono HB6.out.size))
          clear hb8
          go_wp2_with fail
          go_ret
          exact ⟨rfl, HB8.out⟩
      | some a =>
        by_cases hcF : c = F
        · have h0 : n = 0 := by omega
          have h1 : F = 0 := by omega
          have h2 : c = 0 := by omega
          subst h0 h1 h2
          clear hF hF2 hc hcF
          have HD : ∀ X, Hid (IA w6 X (l.drop 0)) := fun X => Lib.hid (ia_none (by rw [List.drop_zero]; exact HN.out))
          go_wp2_with fail
          all_goals
            refine (equal_ints _ _ _ _ _ _ (cur l m 0) (l.drop 0) w6 HLEN.out.symm HDL.out I6.out (HD _).out (by rw [HLEN.out]; unfold maxLen; omega) (by rw [← HDL.out]; unfold maxLen; omega)).mono ?_
            rintro e w7 ⟨rfl, j7, rfl⟩
            rw [HE.out]
            go_wp2_with fail
            refine (works_any _).mono ?_
            rintro e w8 ⟨rfl, hb8⟩
            have HB8 : Hid (Below w.heap.size w w8) := Lib.hid ((below_drewN HB6.out j7).trans (hb8.mono HB6.out.size))
            clear hb8
            go_wp2_with fail
            go_ret
            exact ⟨rfl, HB8.out⟩
        · clear hF2
          have HD : Hid (IA w6 (some (a.add F)) (l.drop F)) := Lib.hid (ia_drop HA6.out)
          go_wp2_with fail
          refine (equal_ints _ _ _ _ _ _ (cur l m n) (l.drop F) w6 HLEN.out.symm HDL.out I6.out HD.out (by rw [HLEN.out]; unfold maxLen; omega) (by rw [← HDL.out]; unfold maxLen; omega)).mono ?_
          rintro e w7 ⟨rfl, j7, rfl⟩
          rw [HE.out]
          go_wp2_with fail
          refine (works_any _).mono ?_
          rintro e w8 ⟨rfl, hb8⟩
          have HB8 : Hid (Below w.heap.size w w8) := Lib.hid ((below_drewN HB6.out j7).trans (hb8.mono HB6.out.size))
          clear hb8
          go_wp2_with fail
          go_ret
          exact ⟨rfl, HB8.out⟩
theorem walk (A : Option Addr) (c : Nat) (m : Int) (l : List Int) (w : World) (hA : IA w A l) (ha : 8 * l.length ≤ 140737488355328) (hc : l.length ≤ c) (hc2 : c ≤ maxLen) (hm : 0 ≤ m ∧ m ≤ 255) :
    Calls Try.prog 5 #[.int .u8 m, .slice A l.length c] w (LawPost w) := by
  by_cases h : 200 < l.length ∨ m = 0
  · exact large A c m l w h (by omega)
  · obtain ⟨q, rfl⟩ := Int.eq_ofNat_of_zero_le hm.1
    exact small A c q l w hA (by omega) hc hc2 (by omega) (by omega)
theorem fitsU8' {z : Int} (h : (Lit.int .u8 z).wf = true) : 0 ≤ z ∧ z ≤ 255 := by
  have e1 : IntKind.u8.min = 0 := rfl
  have e2 : IntKind.u8.max = 255 := rfl
  simpa [Lit.wf, e1, e2] using h

set_option maxRecDepth 100000 in
theorem lifted (os : Os) (started : os.Started) (H : Type) (enc : TypeId × Value → H) :
    ReturnsInHanded {} Try.checked os 5 .any (Rows.ringRoundSpec.pre6 enc Try.prog Try.f5 Rows.ringRoundRow.domain false) (Rows.ringRoundSpec.post enc Try.prog Try.f5 false true false false) := by
  refine law_lifted started [5, 26] rfl (by kernel_rfl) Try.func5 rfl (by decide +kernel) rfl (fun ds hl => by
    match ds, hl with
    | [_, _], _ => rfl) (ChangeSpec.witness6 (enc := enc) (C := Try.checked) false ⟨#[], #[.int .u8 0, .slice none 0 0], []⟩ 8 (by kernel_rfl) (by kernel_rfl) (by kernel_rfl) (by kernel_rfl)) ?_
  intro W base args ds ps hval hA hlt hsz
  obtain ⟨v0, vs0, d0, ds0, p0, q0, hargs, rfl, rfl, h0, r0⟩ := trodAll_cons hA
  obtain ⟨v1, vs1, d1, ds1, p1, q1, rfl, rfl, rfl, h1, r1⟩ := trodAll_cons r0
  obtain ⟨rfl, rfl, rfl⟩ := trodAll_nil r1
  obtain rfl : args = #[v0, v1] := by cases args; simp_all
  obtain ⟨x0, rfl, rfl, rfl, w0⟩ := open_int Try.underlying5 (hval 0 5 v0 rfl rfl) h0
  obtain ⟨A1, c1, x1, rfl, b1, q1, m1, i1, z1⟩ := open_ints_cap (hval 1 26 v1 rfl rfl) h1 hsz 1 rfl rfl
  exact walk A1 c1 x0 x1 W i1 b1 q1 m1 (fitsU8' w0)

set_option maxRecDepth 100000 in
theorem over : Rows.ringRoundRow.holds Try.pinned (OpenSpec.ofChange Rows.ringRoundSpec) :=
  OpenClaim.holds_of_wide 5 Try.f5 rfl rfl rfl rfl rfl rfl rfl ⟨rfl, rfl, rfl, rfl, rfl⟩ rfl rfl rfl rfl rfl (by kernel_rfl) Try.func5 (by kernel_rfl)
    (of_decide_eq_true (by kernel_rfl)) (by unfold Func.isWrapper; first | (rw [if_pos (by decide +kernel)]; kernel_rfl) | (rw [if_neg (by decide +kernel)]; exact ⟨rfl, rfl⟩))
    (fun os started H enc _ => lifted os started H enc)

theorem proved : Rows.RingRoundSaid := over
#print axioms proved
end Go.Proofs.Ytfhapodidjkmaaa.ringRound
