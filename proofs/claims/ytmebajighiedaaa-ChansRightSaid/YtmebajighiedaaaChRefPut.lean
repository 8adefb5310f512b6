/- The document's Len, cells, Put, Take. -/
import Derived.Test.YtmebajighiedaaaChRef
namespace Go.Proofs.Ytmebajighiedaaa.ch
open Go.ChangeShapes Go.WideShapes Go.ChangeAt Go.RowKit

theorem refLen_any (A : Option Addr) (c m : Nat) (l : List Int) (w : World) (hm : m = l.length) (hA : IA w A l) (hl : 8 * m ≤ 140737488355328) :
    Calls Try.prog 9 #[.slice A m c] w fun e w' => e = .returned (.int .i64 ((itemsF l).length : Nat)) ∧ Below w.heap.size w w' := by
  have HH := Lib.hid (refItems_any A c m l w hm hA hl)
  clear hm hA hl
  go_enter Try.func9, Try.ntmps9
  go_wp2_with fail
  refine HH.out.mono ?_
  rintro e w2 ⟨v, rfl, ho, hb2⟩
  have HB2 := Lib.hid hb2
  obtain ⟨A2, c2, rfl, _, _⟩ := ho.ins
  clear ho hb2
  obtain ⟨n2, HLN⟩ : ∃ n2, Hid (n2 = (itemsF l).length) := ⟨_, Lib.hid rfl⟩
  rw [← HLN.out]
  go_wp2_with fail
  go_ret
  exact ⟨by rw [← HLN.out]; rfl, HB2.out⟩

theorem cells_take {n j : Nat} {xs : List Int} (hk : xs.length + 1 ≤ n) (hj : j + 1 < n) : (cellsF n xs).take (j + 1 + 1) = (cellsF n xs).take (j + 1) ++ [if j < xs.length then xs.getD j 0 else 0] := by
  rw [List.take_succ_eq_append_getElem (by rw [cells_length hk]; exact hj)]
  congr 2
  have h : (cellsF n xs)[j + 1]'(by rw [cells_length hk]; exact hj) = (cellsF n xs).getD (j + 1) 0 := by simp [List.getD, cells_length hk, hj]
  rw [h]
  by_cases hx : j < xs.length
  · rw [cells_value hx, if_pos hx]
  · rw [cells_rest (by omega), if_neg hx]
theorem one_own (w : World) (z : Int) : OI w.heap.size (w.alloc (.cells #[.int .i64 z] 3)) (.slice (some ⟨w.heap.size, 0, none⟩) 1 1) [z] := ⟨rfl, .inr ⟨w.heap.size, 1, #[.int .i64 z], rfl, Nat.le_refl _, World.alloc_heap_new w _, Nat.le_refl _, by decide, rfl, rfl⟩⟩
set_option maxRecDepth 20000 in
set_option maxHeartbeats 1000000 in
theorem refCells_any (A : Option Addr) (c k n : Nat) (xs : List Int) (w : World) (hk : k = xs.length) (hA : IA w A xs) (hkn : k + 1 ≤ n) (hl : 8 * n ≤ 140737488355328) :
    Calls Try.prog 25 #[.int .i64 n, .slice A k c] w (RowO w (cellsF n xs)) := by
  have HK := Lib.hid hk
  have HA := Lib.hid hA
  have HKN := Lib.hid hkn
  have HKX : Hid (xs.length + 1 ≤ n) := Lib.hid (by omega)
  have HO0 := Lib.hid (one_own w (k : Int))
  have HC0 : Hid ((cellsF n xs).take (0 + 1) = [(k : Int)]) := Lib.hid (by rw [hk]; rfl)
  have HB0 : Hid (Below w.heap.size w (w.alloc (.cells #[.int .i64 (k : Int)] 3))) := Lib.hid ((Below.refl _ _).alloc (Nat.le_refl _) _)
  clear hk hA
  go_enter Try.func25, Try.ntmps25
  go_wp2
  go_loopw [5, 6] (fun v i wr => ∃ j : Nat, j + 1 ≤ n ∧ i = .int .i64 j ∧ Hid (OI w.heap.size wr v ((cellsF n xs).take (j + 1))) ∧ Hid (Below w.heap.size w wr)) (fun _ i _ => n - (intOf i).toNat)
  case atStart => exact ⟨0, by omega, rfl, Lib.hid (by rw [HC0.out]; exact HO0.out), HB0⟩
  case round =>
    obtain ⟨j, hj, rfl, HO, HB⟩ := hrel
    by_cases hlt : (j : Int) < (n : Int) - 1
    · have HT := Lib.hid (cells_take HKX.out (j := j) (by omega))
      have HTL : Hid (((cellsF n xs).take (j + 1)).length = j + 1) := Lib.hid (by rw [List.length_take, cells_length HKX.out]; omega)
      by_cases hx : j < k
      · obtain ⟨b, o, rfl, hb, hcc⟩ := (HA.out.below HB.out) (by rw [← HK.out]; omega)
        have c2 := hcc j (by rw [← HK.out]; exact hx)
        rw [if_pos (by rw [← HK.out]; exact hx)] at HT
        generalize xs.getD j 0 = z at c2 HT
        clear hcc
        go_wp2_with (at_builtin; go_loud (refine append_one8 rfl (.tmp 20) (.tmp 25) rfl w.heap.size _ ((cellsF n xs).take (j + 1)) rfl HO.out z rfl (by rw [HTL.out]; omega) HB.out.size ?_); intro v3 w3 ho3 hb3; rw [← HT.out] at ho3; have HO3 := Lib.hid ho3; have HB3 : Hid (Below w.heap.size w w3) := Lib.hid (HB.out.trans hb3); clear ho3 hb3)
        go_roundw
        case rel => exact ⟨j + 1, by omega, by go_num, HO3, HB3⟩
        case measure => simp [intOf]; omega
      · rw [if_neg (by rw [← HK.out]; exact hx)] at HT
        go_wp2_with (at_builtin; go_loud (refine append_one8 rfl (.tmp 27) (.tmp 28) rfl w.heap.size _ ((cellsF n xs).take (j + 1)) rfl HO.out 0 rfl (by rw [HTL.out]; omega) HB.out.size ?_); intro v3 w3 ho3 hb3; rw [← HT.out] at ho3; have HO3 := Lib.hid ho3; have HB3 : Hid (Below w.heap.size w w3) := Lib.hid (HB.out.trans hb3); clear ho3 hb3)
        go_roundw
        case rel => exact ⟨j + 1, by omega, by go_num, HO3, HB3⟩
        case measure => simp [intOf]; omega
    · obtain rfl : n = j + 1 := by omega
      have HE : Hid ((cellsF (j + 1) xs).take (j + 1) = cellsF (j + 1) xs) := Lib.hid (List.take_of_length_le (by rw [cells_length HKX.out]; exact Nat.le_refl _))
      rw [HE.out] at HO
      go_wp2
      go_ret
      exact OI.rowO HO.out HB.out

set_option maxRecDepth 20000 in
set_option maxHeartbeats 1000000 in
theorem refPut_any (A : Option Addr) (c m : Nat) (l : List Int) (v : Int) (w : World) (hm : m = l.length) (hA : IA w A l) (hl : 8 * m ≤ 140737488355328) :
    Calls Try.prog 15 #[.slice A m c, .int .i64 v] w (PutP w l v) := by
  have HM := Lib.hid hm
  have HA := Lib.hid hA
  have HL := Lib.hid hl
  have HS := Lib.hid (is_any A c m l w hm hA (by unfold maxLen; omega))
  clear hm hA
  obtain ⟨i, HI⟩ : ∃ i, Hid (isC l = i) := ⟨_, Lib.hid rfl⟩
  go_enter Try.func15, Try.ntmps15
  go_wp2_with fail
  refine HS.out.mono ?_
  rintro e w' ⟨rfl, rfl⟩
  rw [HI.out]
  cases i with
  | false =>
    go_wp2
    go_ret2
    exact PutP.no (roomB_no HI.out) (Below.refl _ _)
  | true =>
    have hk := isC_k HI.out
    obtain ⟨k, HKN⟩ : ∃ k, Hid (kN l = k) := ⟨_, Lib.hid rfl⟩
    rw [HKN.out, ← HM.out] at hk
    obtain ⟨hk1, hk2⟩ := hk
    have HIL : Hid ((itemsF l).length = k) := Lib.hid (by rw [items_length HI.out, HKN.out])
    have hpos : 0 < m := by omega
    obtain ⟨b, o, rfl, hb, hcc⟩ := HA.out (by rw [← HM.out]; omega)
    have c0 : w.cell? ⟨b, o, none⟩ = some (.int .i64 (k : Int)) := by
      have h := hcc 0 (by rw [← HM.out]; omega)
      rwa [hk1] at h
    clear hcc hk1
    by_cases hf : (k : Int) = (m : Int) - 1
    · have HR : Hid (roomB l = false) := Lib.hid (decide_eq_false (fun h => by have := h.2; have := HKN.out; have := HM.out; omega))
      have hz : ((k : Int) == (m : Int) - 1) = true := by simpa using hf
      clear hf
      go_wp2
      go_ret2
      exact PutP.no HR.out (Below.refl _ _)
    · have HR : Hid (roomB l = true) := Lib.hid (decide_eq_true ⟨HI.out, by have := HKN.out; have := HM.out; omega⟩)
      have HKM : Hid (k + 2 ≤ m) := Lib.hid (by omega)
      have hz : ((k : Int) == (m : Int) - 1) = false := by simpa using hf
      clear hf
      go_wp2_with fail
      refine (refItems_any _ c m l w HM.out HA.out HL.out).mono ?_
      rintro e w2 ⟨v2, rfl, ho2, hb2⟩
      have HO2 := Lib.hid ho2
      have HB2 := Lib.hid hb2
      clear ho2 hb2 hz c0
      go_wp2_with (at_builtin; go_loud (refine append_one8 rfl (.tmp 21) (.tmp 23) rfl w.heap.size _ (itemsF l) rfl HO2.out v rfl (by rw [HIL.out]; have := HKM.out; omega) HB2.out.size ?_); intro v3 w3 ho3 hb3; have HO3 := Lib.hid ho3; have HB3 : Hid (Below w.heap.size w w3) := Lib.hid (HB2.out.trans hb3); clear ho3 hb3)
      obtain ⟨A3, c3, rfl, h3, _⟩ := HO3.out.ins
      have HA3 := Lib.hid h3.ia
      have HL3 : Hid (k + 1 = (itemsF l ++ [v]).length) := Lib.hid (by rw [List.length_append, HIL.out]; rfl)
      rw [← HL3.out]
      clear h3 HO3 HO2
      refine (refCells_any A3 c3 (k + 1) m (itemsF l ++ [v]) w3 HL3.out HA3.out HKM.out HL.out).mono ?_
      rintro e w4 ⟨A4, c4, rfl, h4, hb4, hn4⟩
      have H4 := Lib.hid h4
      have HB4 := Lib.hid (HB3.out.trans (hb4.mono HB3.out.size))
      have HN4 : Hid (New w w4 A4) := Lib.hid (fun a e => ⟨Nat.le_trans HB3.out.size (hn4 a e).1, (hn4 a e).2⟩)
      have HP : Hid (putL l v = cellsF m (itemsF l ++ [v])) := Lib.hid (by unfold putL; rw [if_pos HR.out, HM.out])
      clear h4 hb4 hn4
      rw [← HP.out]
      obtain ⟨n4, HLN4⟩ : ∃ n4, Hid (n4 = (putL l v).length) := ⟨_, Lib.hid rfl⟩
      rw [← HLN4.out]
      go_wp2_with fail
      go_ret2
      exact ⟨A4, c4, by rw [HLN4.out, HR.out]; rfl, by rw [HP.out]; exact H4.out, HB4.out, HN4.out⟩

set_option maxRecDepth 20000 in
set_option maxHeartbeats 1000000 in
theorem refTake_any (A : Option Addr) (c m : Nat) (l : List Int) (w : World) (hm : m = l.length) (hA : IA w A l) (hl : 8 * m ≤ 140737488355328) :
    Calls Try.prog 17 #[.slice A m c] w (TakeP w l) := by
  have HH := Lib.hid (refItems_any A c m l w hm hA hl)
  have HM := Lib.hid hm
  have HL := Lib.hid hl
  have hml : (m : Int) ≤ 9223372036854775807 := by omega
  clear hm hA
  go_enter Try.func17, Try.ntmps17
  go_wp2_with fail
  refine HH.out.mono ?_
  rintro e w1 ⟨v1, rfl, ho1, hb1⟩
  have HO1 := Lib.hid ho1
  obtain ⟨A1, c1, rfl, h1, _⟩ := ho1.ins
  have H1 := Lib.hid h1.ia
  have HLE1 := h1.le
  have HLM1 := h1.max
  have HB1 := Lib.hid hb1
  obtain ⟨k, hk⟩ : ∃ k, k = (itemsF l).length := ⟨_, rfl⟩
  have HK := Lib.hid hk
  rw [← HK.out] at HLE1 ⊢
  unfold maxLen at HLM1
  clear ho1 h1 hb1 hk
  by_cases hf : k = 0
  · subst hf
    have HR : Hid (someB l = false) := Lib.hid (decide_eq_false (fun h => by have := items_length h.1; have := h.2; have := HK.out; omega))
    go_wp2_with fail
    go_ret3
    exact TakeP.no HR.out HB1.out
  · have HI : Hid (isC l = true) := Lib.hid (by
      cases h : isC l with
      | true => rfl
      | false => have := HK.out; rw [items_no h] at this; exact absurd this hf)
    have HKN : Hid (k = kN l ∧ k + 1 ≤ m) := Lib.hid (by have := isC_k HI.out; have := items_length HI.out; have := HK.out; have := HM.out; omega)
    have HR : Hid (someB l = true) := Lib.hid (decide_eq_true ⟨HI.out, by have := HKN.out; omega⟩)
    obtain ⟨t, ht⟩ : ∃ t, k = 1 + t := ⟨k - 1, by omega⟩
    obtain ⟨b, o, rfl, hb, hcc⟩ := H1.out (by have := HK.out; omega)
    have d0 : w1.cell? ⟨b, o, none⟩ = some (.int .i64 ((itemsF l).getD 0 0)) := hcc 0 (by have := HK.out; omega)
    have HV : Hid (takeV l = (itemsF l).getD 0 0) := Lib.hid (by unfold takeV; rw [if_pos HR.out])
    rw [← HV.out] at d0
    obtain ⟨B2, hB2, q2⟩ := tail_run (some ⟨b, o, none⟩) 1 t c1
    rw [← ht] at q2
    have q3 : ∀ W : World, (Instr.sliceAt 22 (.slice (some ⟨b, o, none⟩) k c1) (some (.int .i64 1)) none none).run Try.prog W = .ok (.slice B2 t (c1 - 1)) W := q2
    have HIA : Hid (∀ W, Below w1.heap.size w1 W → IA W B2 ((itemsF l).drop 1)) := Lib.hid (fun W hW => by
      rw [hB2]; exact tail_ia (H1.out.below hW) (by rw [← HK.out]; exact HLE1))
    have HTL : Hid (t = ((itemsF l).drop 1).length) := Lib.hid (by rw [List.length_drop, ← HK.out]; omega)
    have HTM : Hid (t + 1 ≤ m) := Lib.hid (by have := HKN.out; omega)
    have hz : ((k : Int) == 0) = false := by simpa using hf
    have hk0 : 0 < k := by omega
    have hkm : (k : Int) ≤ 9223372036854775807 := by omega
    have HP : Hid (takeL l = cellsF m ((itemsF l).drop 1)) := Lib.hid (by unfold takeL; rw [if_pos HR.out, HM.out])
    obtain ⟨x, HX⟩ : ∃ x, Hid (takeV l = x) := ⟨_, Lib.hid rfl⟩
    rw [HX.out] at d0
    have HB0 : Hid (b < w1.heap.size) := Lib.hid hb
    obtain ⟨n4, HLN4⟩ : ∃ n4, Hid (n4 = (takeL l).length) := ⟨_, Lib.hid rfl⟩
    clear hcc hf ht hB2 q2
    go_wp2_with fail
    go_region_held3 (fun w' => w'.cell? ⟨b, o, none⟩ = some (.int .i64 x)) (first | exact d0 | exact d1 | go_keep)
      (first
        | (go_at_call 25; refine (refCells_any B2 (c1 - 1) t m ((itemsF l).drop 1) _ HTL.out (HIA.out _ (by first | exact Below.refl _ _ | exact (Below.refl _ _).drew | exact below_drewN (Below.refl _ _) _)) HTM.out HL.out).mono ?_; rintro e w4 ⟨A4, c4, rfl, h4, hb4, hn4⟩; have d1 : w4.cell? ⟨b, o, none⟩ = some (.int .i64 x) := (hb4.cell (p := ⟨b, o, none⟩) HB0.out).trans d0; have H4 := Lib.hid h4; have HB4 : Hid (Below w1.heap.size w1 w4) := Lib.hid ((by first | exact Below.refl _ _ | exact (Below.refl _ _).drew : Below w1.heap.size w1 _).trans hb4); have HN4 := Lib.hid hn4; clear h4 hb4 hn4; rw [← HP.out, ← HLN4.out])
        | fail)
    go_wp2
    go_ret3
    exact ⟨A4, c4, by rw [← HLN4.out, HR.out, HX.out]; rfl, by rw [HP.out]; exact H4.out, HB1.out.trans (HB4.out.mono HB1.out.size), fun a e => ⟨Nat.le_trans HB1.out.size (HN4.out a e).1, (HN4.out a e).2⟩⟩
end Go.Proofs.Ytmebajighiedaaa.ch
