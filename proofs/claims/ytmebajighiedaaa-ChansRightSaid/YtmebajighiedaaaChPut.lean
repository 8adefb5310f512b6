/- Contracts of package chans: Put, Take. -/
import Derived.Test.YtmebajighiedaaaChCells
namespace Go.Proofs.Ytmebajighiedaaa.ch
open Go.ChangeShapes Go.WideShapes Go.ChangeAt Go.RowKit

theorem roomB_no {l : List Int} (h : isC l = false) : roomB l = false := decide_eq_false (fun h2 => by rw [h] at h2; cases h2.1)
theorem someB_no {l : List Int} (h : isC l = false) : someB l = false := decide_eq_false (fun h2 => by rw [h] at h2; cases h2.1)
theorem putL_no {l : List Int} (v : Int) (h : roomB l = false) : putL l v = [] := by unfold putL; rw [if_neg (by simp [h])]
theorem takeL_no {l : List Int} (h : someB l = false) : takeL l = [] := by unfold takeL; rw [if_neg (by simp [h])]
theorem takeV_no {l : List Int} (h : someB l = false) : takeV l = 0 := by unfold takeV; rw [if_neg (by simp [h])]
/-- What Put leaves. -/
def PutP (w : World) (l : List Int) (v : Int) (e : Ending) (w' : World) : Prop :=
  ∃ A c, e = .returned (.tuple #[.slice A (putL l v).length c, .bool (roomB l)]) ∧ InS w' A c (putL l v) ∧ Below w.heap.size w w' ∧ New w w' A
theorem PutP.no {w w' : World} {l : List Int} {v : Int} (h : roomB l = false) (hb : Below w.heap.size w w') : PutP w l v (.returned (.tuple #[.slice none 0 0, .bool false])) w' :=
  ⟨none, 0, by rw [h, putL_no v h]; rfl, by rw [putL_no v h]; exact ⟨IA.nil _ _, Nat.le_refl _, Nat.zero_le _, fun _ => rfl⟩, hb, fun a e => by cases e⟩
/-- What Take leaves. -/
def TakeP (w : World) (l : List Int) (e : Ending) (w' : World) : Prop :=
  ∃ A c, e = .returned (.tuple #[.slice A (takeL l).length c, .int .i64 (takeV l), .bool (someB l)]) ∧ InS w' A c (takeL l) ∧ Below w.heap.size w w' ∧ New w w' A
theorem TakeP.no {w w' : World} {l : List Int} (h : someB l = false) (hb : Below w.heap.size w w') : TakeP w l (.returned (.tuple #[.slice none 0 0, .int .i64 0, .bool false])) w' :=
  ⟨none, 0, by rw [h, takeL_no h, takeV_no h]; rfl, by rw [takeL_no h]; exact ⟨IA.nil _ _, Nat.le_refl _, Nat.zero_le _, fun _ => rfl⟩, hb, fun a e => by cases e⟩
set_option maxRecDepth 20000 in
set_option maxHeartbeats 1000000 in
theorem put_any (A : Option Addr) (c m : Nat) (l : List Int) (v : Int) (w : World) (hm : m = l.length) (hA : IA w A l) (hmc : m ≤ c) (hcm : c ≤ maxLen) (hl : 8 * m ≤ 140737488355328) :
    Calls Try.prog 14 #[.slice A m c, .int .i64 v] w (PutP w l v) := by
  have HH := Lib.hid (held_any A c m l w hm hA hmc hcm)
  have HMM : Hid (m ≤ maxLen) := Lib.hid (Nat.le_trans hmc hcm)
  have HM := Lib.hid hm
  have HL := Lib.hid hl
  clear hm hA
  obtain ⟨i, HI⟩ : ∃ i, Hid (isC l = i) := ⟨_, Lib.hid rfl⟩
  go_enter Try.func14, Try.ntmps14
  go_wp2_with fail
  refine HH.out.mono ?_
  rintro e w1 ⟨A1, k, rfl, hk, h1, hb1, _⟩
  have HK := Lib.hid hk
  have H1 := Lib.hid h1
  have HB1 := Lib.hid hb1
  clear hk h1 hb1
  rw [HI.out]
  cases i with
  | false =>
    go_wp2_with fail
    go_ret2
    exact PutP.no (roomB_no HI.out) HB1.out
  | true =>
    have HKN : Hid (k = kN l ∧ k + 1 ≤ m) := Lib.hid (by have := isC_k HI.out; have := items_length HI.out; have := HK.out; have := HM.out; omega)
    by_cases hf : (k : Int) = (m : Int) - 1
    · have HR : Hid (roomB l = false) := Lib.hid (decide_eq_false (fun h => by have := h.2; have := HKN.out; have := HM.out; omega))
      go_wp2_with fail
      refine (room_any A m c _ HMM.out).mono ?_
      rintro e w2 ⟨rfl, rfl⟩
      rw [← hf]
      go_wp2_with fail
      go_ret2
      exact PutP.no HR.out HB1.out
    · have HR : Hid (roomB l = true) := Lib.hid (decide_eq_true ⟨HI.out, by have := HKN.out; have := HM.out; omega⟩)
      have HKM : Hid (k + 2 ≤ m) := Lib.hid (by have := HKN.out; omega)
      have hz : ((k : Int) == (m : Int) - 1) = false := by simpa using hf
      clear hf
      go_wp2_with fail
      refine (room_any A m c _ HMM.out).mono ?_
      rintro e w2 ⟨rfl, rfl⟩
      go_wp2_with fail
      refine (room_any A m c _ HMM.out).mono ?_
      rintro e w2 ⟨rfl, rfl⟩
      have HN1 : Hid (A1 = none → k = 0 ∧ k = 0) := Lib.hid (fun e => by have := IA.non H1.out e; have := HK.out; omega)
      have HL1 : Hid ((itemsF l).length + 0 = k) := Lib.hid (by have := HK.out; omega)
      obtain ⟨i0, hi, hz0, hz1, hz2⟩ := info_parts Try.info3
      have J1 := Lib.hid hi
      have J2 := Lib.hid hz0
      have J3 := Lib.hid hz1
      have J4 := Lib.hid hz2
      have HLN : Hid (((itemsF l).map (Value.int .i64)).length = k * 1) := Lib.hid (by rw [List.length_map, ← HK.out]; simp)
      have HOL : Hid (∀ b, A1 = some b → ∀ j u, ((itemsF l).map (Value.int .i64))[j]? = some u → (w1.alloc (.cells #[.int .i64 v] 3)).cell? (b.add j) = some u) := Lib.hid (fun b e j u hu => by subst e; exact news_map (H1.out.alloc _) j u hu)
      have HNW : Hid (∀ j u, ([Value.int .i64 v] : List Value)[j]? = some u → (w1.alloc (.cells #[.int .i64 v] 3)).cell? ((⟨w1.heap.size, 0, none⟩ : Addr).add j) = some u) := Lib.hid (cell_one_new _ _ _)
      have HB2 : Hid (Below w.heap.size w (w1.alloc (.cells #[.int .i64 v] 3))) := Lib.hid (HB1.out.alloc HB1.out.size _)
      clear hi hz0 hz1 hz2
      go_wp2_with (at_builtin; go_loud (refine wpList_append_grows _ rfl (.tmp 24) (.tmp 26) 22 rfl 3 i0 (.int .i64 0) 1 8 Try.underlying22 J1.out J2.out J3.out J4.out rfl (by decide) A1 k k ((itemsF l).map (Value.int .i64)) rfl HN1.out HLN.out HOL.out ⟨w1.heap.size, 0, none⟩ 1 1 [.int .i64 v] rfl rfl HNW.out (by simp [Value.oneCell']) (by omega) (by unfold maxLen; have := HKM.out; have := HL.out; omega) (by have := HKM.out; have := HL.out; omega) ?_); intro v3 w3 ho3 hg3; have HO3 := Lib.hid ho3; have HG3 := Lib.hid hg3; clear ho3 hg3)
      have HB3 : Hid (Below w.heap.size w w3) := Lib.hid (Below.grown HB2.out HG3.out (by have := HB2.out.size; omega) (fun q hq => by cases hq))
      have hO : OI (w1.alloc (.cells #[.int .i64 v] 3)).heap.size w3 v3 (itemsF l ++ [v]) := by
        unfold OI
        have h := HO3.out
        rw [List.length_append, List.map_append, ← HK.out]
        exact h
      obtain ⟨A3, c3, rfl, h3, _⟩ := hO.ins
      have HA3 := Lib.hid h3.ia
      have HL3 : Hid (k + 1 = (itemsF l ++ [v]).length) := Lib.hid (by rw [List.length_append, ← HK.out]; rfl)
      rw [← HL3.out]
      clear hO h3 HO3 HG3 hz
      refine (cells_any ((m : Int) - 1) A3 c3 (k + 1) m (itemsF l ++ [v]) w3 (by omega) HL3.out HA3.out HKM.out HL.out).mono ?_
      rintro e w4 ⟨A4, c4, rfl, h4, hb4, hn4⟩
      have H4 := Lib.hid h4
      have HB4 := Lib.hid (HB3.out.trans (hb4.mono HB3.out.size))
      have HN4 : Hid (New w w4 A4) := Lib.hid (fun a e => ⟨Nat.le_trans HB3.out.size (hn4 a e).1, (hn4 a e).2⟩)
      have HP : Hid (putL l v = cellsF m (itemsF l ++ [v])) := Lib.hid (by unfold putL; rw [if_pos HR.out, HM.out])
      clear h4 hb4 hn4
      rw [← HP.out]
      obtain ⟨n4, HLN4⟩ : ∃ n4, Hid (n4 = (putL l v).length) := ⟨_, Lib.hid rfl⟩
      rw [← HLN4.out]
      go_wp2_with fail
      go_ret2
      exact ⟨A4, c4, by rw [HLN4.out, HR.out]; rfl, by rw [HP.out]; exact H4.out, HB4.out, HN4.out⟩

theorem take_items {l : List Int} (h : isC l = true) (hk : 0 < kN l) : (itemsF l).length = 1 + (kN l - 1) := by rw [items_length h]; omega
set_option maxRecDepth 20000 in
set_option maxHeartbeats 1000000 in
theorem take_any (A : Option Addr) (c m : Nat) (l : List Int) (w : World) (hm : m = l.length) (hA : IA w A l) (hmc : m ≤ c) (hcm : c ≤ maxLen) (hl : 8 * m ≤ 140737488355328) :
    Calls Try.prog 16 #[.slice A m c] w (TakeP w l) := by
  have HH := Lib.hid (held_any A c m l w hm hA hmc hcm)
  have HMM : Hid (m ≤ maxLen) := Lib.hid (Nat.le_trans hmc hcm)
  have HM := Lib.hid hm
  have HL := Lib.hid hl
  clear hm hA
  obtain ⟨i, HI⟩ : ∃ i, Hid (isC l = i) := ⟨_, Lib.hid rfl⟩
  go_enter Try.func16, Try.ntmps16
  go_wp2_with fail
  refine HH.out.mono ?_
  rintro e w1 ⟨A1, k, rfl, hk, h1, hb1, _⟩
  have HK := Lib.hid hk
  have H1 := Lib.hid h1
  have HB1 := Lib.hid hb1
  clear hk h1 hb1
  rw [HI.out]
  cases i with
  | false =>
    go_wp2_with fail
    go_ret3
    exact TakeP.no (someB_no HI.out) HB1.out
  | true =>
    have HKN : Hid (k = kN l ∧ k + 1 ≤ m) := Lib.hid (by have := isC_k HI.out; have := items_length HI.out; have := HK.out; have := HM.out; omega)
    by_cases hf : k = 0
    · subst hf
      have HR : Hid (someB l = false) := Lib.hid (decide_eq_false (fun h => by have := h.2; have := HKN.out; omega))
      go_wp2_with fail
      go_ret3
      exact TakeP.no HR.out HB1.out
    · have HR : Hid (someB l = true) := Lib.hid (decide_eq_true ⟨HI.out, by have := HKN.out; omega⟩)
      obtain ⟨t, ht⟩ : ∃ t, k = 1 + t := ⟨k - 1, by omega⟩
      obtain ⟨b, o, rfl, hb, hcc⟩ := H1.out (by have := HK.out; omega)
      have c1 : w1.cell? ⟨b, o, none⟩ = some (.int .i64 ((itemsF l).getD 0 0)) := hcc 0 (by have := HK.out; omega)
      have HV : Hid (takeV l = (itemsF l).getD 0 0) := Lib.hid (by unfold takeV; rw [if_pos HR.out])
      rw [← HV.out] at c1
      obtain ⟨B2, hB2, q2⟩ := tail_run (some ⟨b, o, none⟩) 1 t k
      rw [← ht] at q2
      have q3 : ∀ W : World, (Instr.sliceAt 22 (.slice (some ⟨b, o, none⟩) k k) (some (.int .i64 1)) none none).run Try.prog W = .ok (.slice B2 t (k - 1)) W := q2
      have HIA : Hid (∀ W, Below w1.heap.size w1 W → IA W B2 ((itemsF l).drop 1)) := Lib.hid (fun W hW => by
        rw [hB2]; exact tail_ia (H1.out.below hW) (by rw [← HK.out]; exact Nat.le_refl _))
      have HTL : Hid (t = ((itemsF l).drop 1).length) := Lib.hid (by rw [List.length_drop, ← HK.out]; omega)
      have HTM : Hid (t + 1 ≤ m) := Lib.hid (by have := HKN.out; omega)
      have hz : ((k : Int) == 0) = false := by simpa using hf
      have hk0 : 0 < k := by omega
      have hkm : (k : Int) ≤ 9223372036854775807 := by have := HKN.out; have := HL.out; omega
      have HP : Hid (takeL l = cellsF m ((itemsF l).drop 1)) := Lib.hid (by unfold takeL; rw [if_pos HR.out, HM.out])
      have hr : (1 : Int) + ((m : Int) - 1) = (m : Int) := by omega
      have HRR := Lib.hid hr
      obtain ⟨x, HX⟩ : ∃ x, Hid (takeV l = x) := ⟨_, Lib.hid rfl⟩
      rw [HX.out] at c1
      clear hcc hf ht hB2 q2 hr
      have HB0 : Hid (b < w1.heap.size) := Lib.hid hb
      obtain ⟨n4, HLN4⟩ : ∃ n4, Hid (n4 = (takeL l).length) := ⟨_, Lib.hid rfl⟩
      go_wp2_with fail
      go_region_held3 (fun w' => w'.cell? ⟨b, o, none⟩ = some (.int .i64 x)) (first | exact c1 | exact d1 | go_keep)
        (first
          | (go_at_call 23; refine (room_any _ m c _ HMM.out).mono ?_; rintro e w' ⟨rfl, rfl⟩)
          | (go_at_call 24; refine (cells_any ((m : Int) - 1) B2 (k - 1) t m ((itemsF l).drop 1) _ HRR.out HTL.out (HIA.out _ (by first | exact Below.refl _ _ | exact (Below.refl _ _).drew | exact below_drewN (Below.refl _ _) _)) HTM.out HL.out).mono ?_; rintro e w4 ⟨A4, c4, rfl, h4, hb4, hn4⟩; have d1 : w4.cell? ⟨b, o, none⟩ = some (.int .i64 x) := (hb4.cell (p := ⟨b, o, none⟩) HB0.out).trans c1; have H4 := Lib.hid h4; have HB4 : Hid (Below w1.heap.size w1 w4) := Lib.hid ((by first | exact Below.refl _ _ | exact (Below.refl _ _).drew : Below w1.heap.size w1 _).trans hb4); have HN4 := Lib.hid hn4; clear h4 hb4 hn4; rw [← HP.out, ← HLN4.out])
          | fail)
      go_wp2
      go_ret3
      exact ⟨A4, c4, by rw [← HLN4.out, HR.out, HX.out]; rfl, by rw [HP.out]; exact H4.out, HB1.out.trans (HB4.out.mono HB1.out.size), fun a e => ⟨Nat.le_trans HB1.out.size (HN4.out a e).1, (HN4.out a e).2⟩⟩
end Go.Proofs.Ytmebajighiedaaa.ch
