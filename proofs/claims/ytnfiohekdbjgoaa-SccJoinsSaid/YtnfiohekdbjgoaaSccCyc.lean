/- Contracts of package scc: Cyclic; the document's. -/
import Derived.Test.YtnfiohekdbjgoaaSccRefOf
namespace Go.Proofs.Ytnfiohekdbjgoaa.sc
open Go.ChangeShapes Go.WideShapes Go.ChangeAt Go.RowKit

set_option maxHeartbeats 1000000 in
theorem index_e (gf : Nat) (lb : Array Value) (p : Int × Int → Bool) (A : Option Addr) (m d : Nat) (zs : List (Int × Int)) (w : World) (hm : zs.length = m) (hmx : m ≤ maxLen) (hA : PA w A zs) 
    (eg : ∀ args w, (callFunc gf args).run Try.prog w = .ok (.enter gf args) w)
    (hp : ∀ y x W, Below w.heap.size w W → Calls Try.prog gf (#[.agg #[.int .i64 y, .int .i64 x]] ++ lb) W fun e W' => e = .returned (.bool (p (y, x))) ∧ Below W.heap.size W W') :
    Calls Try.prog 77 #[.slice A m d, .func (.func gf) #[] lb] w (Found2 (zs.any p) w) := by
  have HM := Lib.hid hm
  have HA := Lib.hid hA
  have HP := Lib.hid hp
  unfold maxLen at hmx
  clear hm hA hp
  go_enter Try.func77, Try.ntmps77
  go_wp2_with fail
  go_loopw [8] (fun i wr => ∃ k : Nat, k ≤ m ∧ i = .int .i64 k ∧ Hid ((zs.take k).any p = false) ∧ Hid (Below w.heap.size w wr)) (fun i _ => m - (intOf i).toNat)
  case atStart => exact ⟨0, by omega, rfl, Lib.hid rfl, Lib.hid (Below.refl _ _)⟩
  case round =>
    obtain ⟨k, hk, rfl, HT, HW⟩ := hrel
    by_cases hlt : k < m
    · obtain ⟨b, o, rfl, hb, hcc⟩ := HA.out (by rw [HM.out]; omega)
      have hkl : k < zs.length := by rw [HM.out]; exact hlt
      have c1 := (HW.out.cell (p := ⟨b, o + k * 2, none⟩) hb).trans (hcc k hkl).1
      have c2 := (HW.out.cell (p := ⟨b, o + k * 2 + 1, none⟩) hb).trans (hcc k hkl).2
      have HG : Hid (zs.getD k (0, 0) = zs[k]) := Lib.hid (by simp [List.getD, hkl])
      have HS : Hid ((zs.take (k + 1)).any p = p (zs.getD k (0, 0))) := Lib.hid (by rw [any_take hkl, HT.out, HG.out]; rfl)
      have HF : Hid (p (zs.getD k (0, 0)) = true → zs.any p = true) := Lib.hid (fun h => any_at hkl (by rw [← HG.out, h]))
      obtain ⟨⟨y, x⟩, hyx⟩ : ∃ z, zs.getD k (0, 0) = z := ⟨_, rfl⟩
      rw [hyx] at c1 c2 HS HF
      simp only [] at c1 c2
      clear hcc HG hkl hyx
      go_wp2_with fail
      refine (HP.out y x wr HW.out).mono ?_
      rintro e w' ⟨rfl, hb2⟩
      have HW2 : Hid (Below w.heap.size w w') := Lib.hid (HW.out.trans (hb2.mono HW.out.size))
      clear hb2 c1 c2
      obtain ⟨q, HQ⟩ : ∃ q, Hid (p (y, x) = q) := ⟨_, Lib.hid rfl⟩
      rw [HQ.out]
      cases q with
      | false =>
        have HT2 : Hid ((zs.take (k + 1)).any p = false) := Lib.hid (by rw [HS.out, HQ.out])
        clear HS HF
        go_wp2_with fail
        go_roundw
        case rel => exact ⟨k + 1, by omega, by go_num, HT2, HW2⟩
        case measure => simp [intOf]; omega
      | true =>
        have HE := Lib.hid (HF.out HQ.out)
        clear HS HF
        go_wp2_with fail
        go_ret
        exact ⟨(k : Int), rfl, by rw [HE.out]; simp, by omega, by omega, HW2.out⟩
    · obtain rfl : m = k := by omega
      have HE : Hid ((zs.any p) = false) := Lib.hid (by have := HT.out; rwa [List.take_of_length_le (by rw [HM.out]; omega)] at this)
      clear hlt
      go_wp2_with fail
      go_ret
      exact ⟨-1, rfl, by rw [HE.out]; rfl, by omega, by omega, HW.out⟩
theorem contains_e (gf : Nat) (lb : Array Value) (p : Int × Int → Bool) (A : Option Addr) (m d : Nat) (zs : List (Int × Int)) (w : World) (hm : zs.length = m) (hmx : m ≤ maxLen) (hA : PA w A zs) 
    (eg : ∀ args w, (callFunc gf args).run Try.prog w = .ok (.enter gf args) w)
    (hp : ∀ y x W, Below w.heap.size w W → Calls Try.prog gf (#[.agg #[.int .i64 y, .int .i64 x]] ++ lb) W fun e W' => e = .returned (.bool (p (y, x))) ∧ Below W.heap.size W W') :
    Calls Try.prog 49 #[.slice A m d, .func (.func gf) #[] lb] w fun e w' => e = .returned (.bool (zs.any p)) ∧ Below w.heap.size w w' := by
  have H := Lib.hid (index_e gf lb p A m d zs w hm hmx hA eg hp)
  clear hm hmx hA hp
  go_enter Try.func49, Try.ntmps49
  go_wp2_with fail
  refine H.out.mono ?_
  rintro e w' ⟨z, rfl, hz, z1, z2, hb⟩
  have HZ := Lib.hid hz
  have HB := Lib.hid hb
  clear hz hb
  go_wp2_with fail
  go_ret
  exact ⟨ret_bool HZ.out, HB.out⟩


/-- Several nodes, or one that has an edge to itself. -/
def CyP (n : Nat) (rows : List (List (Int × Int))) (part : List Int) : Prop :=
  (∃ a b : Nat, a < n ∧ b < n ∧ a ≠ b ∧ (a : Int) ∈ part ∧ (b : Int) ∈ part) ∨ (∃ a : Nat, a < n ∧ (a : Int) ∈ part ∧ (∀ b : Nat, b < n → (b : Int) ∈ part → b = a) ∧ eR n rows a a)
/-- What has been met: no node, or one alone. -/
def CyI (n : Nat) (l : List Int) (only : Int) : Prop := (only = -1 ∧ ∀ b : Nat, b < n → (b : Int) ∉ l) ∨ (∃ a : Nat, a < n ∧ only = (a : Int) ∧ (a : Int) ∈ l ∧ ∀ b : Nat, b < n → (b : Int) ∈ l → b = a)
theorem CyI.no {n : Nat} {l : List Int} {only z : Int} (h : CyI n l only) (hz : nodeB n z = false) : CyI n (l ++ [z]) only := by
  have hzn : ∀ b : Nat, b < n → (b : Int) ≠ z := fun b hb e => by
    rw [← e] at hz
    have := of_decide_eq_false hz
    omega
  rcases h with ⟨h1, h2⟩ | ⟨a, h1, h2, h3, h4⟩
  · exact .inl ⟨h1, fun b hb hm => by
      rcases List.mem_append.1 hm with hm | hm
      · exact h2 b hb hm
      · exact hzn b hb (List.mem_singleton.1 hm)⟩
  · exact .inr ⟨a, h1, h2, List.mem_append_left _ h3, fun b hb hm => by
      rcases List.mem_append.1 hm with hm | hm
      · exact h4 b hb hm
      · exact absurd (List.mem_singleton.1 hm) (hzn b hb)⟩
theorem CyI.same {n : Nat} {l : List Int} {only z : Int} (h : CyI n l only) (hz : nodeB n z = true) (e : z = only) : CyI n (l ++ [z]) only := by
  have hz' := of_decide_eq_true hz
  rcases h with ⟨h1, h2⟩ | ⟨a, h1, h2, h3, h4⟩
  · omega
  · exact .inr ⟨a, h1, h2, List.mem_append_left _ h3, fun b hb hm => by
      rcases List.mem_append.1 hm with hm | hm
      · exact h4 b hb hm
      · have := List.mem_singleton.1 hm; omega⟩
theorem CyI.first {n : Nat} {l : List Int} {z : Int} (h : CyI n l (-1)) (hz : nodeB n z = true) : CyI n (l ++ [z]) z := by
  have hz' := of_decide_eq_true hz
  rcases h with ⟨_, h2⟩ | ⟨a, h1, h2, h3, h4⟩
  · refine .inr ⟨z.toNat, by omega, by omega, List.mem_append_right _ (by simp; omega), fun b hb hm => ?_⟩
    rcases List.mem_append.1 hm with hm | hm
    · exact absurd hm (h2 b hb)
    · have := List.mem_singleton.1 hm; omega
  · omega
theorem CyI.two {n : Nat} {rows : List (List (Int × Int))} {l part : List Int} {only z : Int} (h : CyI n l only) (hl : ∀ x ∈ l, x ∈ part) (hz : nodeB n z = true) (hzp : z ∈ part) (hne : z ≠ only) (ho : only ≠ -1) : CyP n rows part := by
  have hz' := of_decide_eq_true hz
  rcases h with ⟨h1, _⟩ | ⟨a, h1, h2, h3, _⟩
  · exact absurd h1 ho
  · exact .inl ⟨a, z.toNat, h1, by omega, by omega, hl _ h3, by rw [show ((z.toNat : Nat) : Int) = z by omega]; exact hzp⟩
theorem CyI.none_ {n : Nat} {rows : List (List (Int × Int))} {part : List Int} (h : CyI n part (-1)) : ¬ CyP n rows part := by
  rcases h with ⟨_, h2⟩ | ⟨a, h1, h2, _⟩
  · rintro (⟨a, b, ha, _, _, hm, _⟩ | ⟨a, ha, hm, _⟩)
    · exact h2 a ha hm
    · exact h2 a ha hm
  · omega
theorem CyI.one {n : Nat} {rows : List (List (Int × Int))} {part : List Int} {a : Nat} (h : CyI n part (a : Int)) : CyP n rows part ↔ eR n rows a a := by
  rcases h with ⟨h1, _⟩ | ⟨a', h1, h2, h3, h4⟩
  · omega
  · obtain rfl : a = a' := by omega
    constructor
    · rintro (⟨x, y, hx, hy, hne, hm, hm2⟩ | ⟨x, hx, hm, _, he⟩)
      · have := h4 x hx hm; have := h4 y hy hm2; omega
      · rw [h4 x hx hm] at he; exact he
    · exact fun he => .inr ⟨a, h1, h3, h4, he⟩
theorem any_self {n : Nat} {rows : List (List (Int × Int))} {a : Nat} (ha : a < n) : ((rows.getD a []).any fun e => decide (e.1 = (a : Int))) = true ↔ eR n rows a a := by
  rw [eR_mem, List.any_eq_true]
  simp only [decide_eq_true_iff]
  exact ⟨fun h => ⟨ha, h⟩, fun h => h.2⟩
theorem self_any (bo : Nat) (only y x : Int) (w : World) (hb : w.cell? ⟨bo, 0, none⟩ = some (.int .i64 only)) :
    Calls Try.prog 75 #[.agg #[.int .i64 y, .int .i64 x], .pointer (some ⟨bo, 0, none⟩)] w fun e w' => e = .returned (.bool (decide (y = only))) ∧ Below w.heap.size w w' := by
  have hB0 : Below w.heap.size w (w.alloc (.cells #[.int .i64 y, .int .i64 x] 46)) := (Below.refl _ w).alloc (Nat.le_refl _) _
  have HB := Lib.hid hB0
  have hc1 := (hB0.cell (p := ⟨bo, 0, none⟩) (lt_of_cell hb)).trans hb
  clear hB0 hb
  go_enter Try.func75, Try.ntmps75
  go_wp2
  go_ret
  exact ⟨ret_bool (by by_cases h : y = only <;> simp [h]), HB.out⟩
set_option maxRecDepth 20000 in
set_option maxHeartbeats 4000000 in
theorem cyclic_any' (v1 v3 : Value) (A2 : Option Addr) (c2 n : Nat) (rows : List (List (Int × Int))) (A : Option Addr) (m c : Nat) (part : List Int) (w : World) (hn : n = rows.length) (hnl : n ≤ 100) (hrow : ∀ i, (rows.getD i []).length ≤ 2000) (hA : RA w A2 rows) (hm : m = part.length) (hml : m ≤ 1000000) (hP : IA w A part) :
    Calls Try.prog 41 #[.agg #[v1, .slice A2 n c2, v3], .slice A m c] w fun e w' => (∃ b, e = .returned (.bool b) ∧ (b = true ↔ CyP n rows part)) ∧ Below w.heap.size w w' := by
  have HN := Lib.hid hn
  have HM := Lib.hid hm
  have HROW := Lib.hid hrow
  obtain ⟨w2, HW2⟩ : ∃ w2, Hid (w2 = (w.alloc (.cells #[v1, .slice A2 n c2, v3] 26)).alloc (.cells #[.int .i64 (-1)] 3)) := ⟨_, Lib.hid rfl⟩
  have HB2 : Hid (Below w.heap.size w w2) := Lib.hid (by rw [HW2.out]; exact ((Below.refl _ _).alloc (Nat.le_refl _) _).alloc (by simp) _)
  have HZ2 : Hid (w2.heap.size = w.heap.size + 2) := Lib.hid (by rw [HW2.out]; simp)
  have HO2 : Hid (w2.heap[w.heap.size + 1]? = some (.cells #[.int .i64 (-1)] 3 (0, 0))) := Lib.hid (by rw [HW2.out]; have h := World.alloc_heap_new (w.alloc (.cells #[v1, .slice A2 n c2, v3] 26)) (.cells #[.int .i64 (-1)] 3); simpa using h)
  have HV : Hid (∀ W : World, Below (w.heap.size + 1) w2 W → W.cell? ⟨w.heap.size, 1, none⟩ = some (.slice A2 n c2)) := Lib.hid (fun W hW => by
    obtain ⟨_, q1, _⟩ := box3 w v1 (.slice A2 n c2) v3 26
    have e : W.heap[w.heap.size]? = (w.alloc (.cells #[v1, .slice A2 n c2, v3] 26)).heap[w.heap.size]? := (hW.block _ (by omega)).trans (by rw [HW2.out]; exact Below.heap_alloc _ _ _ (by simp))
    exact (World.cell?_of_block (a := ⟨w.heap.size, 1, none⟩) e).trans q1)
  have HW : Hid (∀ W : World, Below (w.heap.size + 1) w2 W → Below w.heap.size w W) := Lib.hid (fun W hW => HB2.out.trans (hW.mono (by omega)))
  have HRA : Hid (∀ W : World, Below (w.heap.size + 1) w2 W → RA W A2 rows ∧ IA W A part) := Lib.hid (fun W hW => ⟨RA.below hA (HW.out W hW), hP.below (HW.out W hW)⟩)
  clear hn hm hrow hA hP
  go_enter Try.func41, Try.ntmps41
  go_upto_region 2 with (fail)
  rw [← HW2.out]
  go_wp2_with fail
  go_loopw [10] (fun i wr => ∃ (k : Nat) (only : Int), k ≤ m ∧ i = .int .i64 k ∧ Hid (wr.heap[w.heap.size + 1]? = some (.cells #[.int .i64 only] 3 (0, 0))) ∧ Hid (CyI n (part.take k) only) ∧ Hid (Below (w.heap.size + 1) w2 wr)) (fun i _ => m - (intOf i).toNat)
  case atStart => exact ⟨0, -1, by omega, rfl, HO2, Lib.hid (.inl ⟨rfl, fun b _ h => by simp at h⟩), Lib.hid (Below.refl _ _)⟩
  case round =>
    obtain ⟨k, only, hk, rfl, HO, HC, HB⟩ := hrel
    have d1 := HV.out _ HB.out
    have b1 := (cell_of_box_l HO.out).1
    have b2 := (cell_of_box_l HO.out).2
    by_cases hlt : k < m
    · obtain ⟨b, o, rfl, hb, hcc⟩ := (HRA.out _ HB.out).2 (by rw [← HM.out]; omega)
      have c1 := hcc k (by rw [← HM.out]; exact hlt)
      have HT : Hid (part.take (k + 1) = part.take k ++ [part.getD k 0]) := Lib.hid (by rw [List.take_succ_eq_append_getElem (by rw [← HM.out]; exact hlt)]; simp [List.getD, show k < part.length by rw [← HM.out]; exact hlt])
      have HIN : Hid (part.getD k 0 ∈ part) := Lib.hid (by
        have h : k < part.length := by rw [← HM.out]; exact hlt
        rw [show part.getD k 0 = part[k] by simp [List.getD, h]]
        exact List.getElem_mem h)
      have HTK : Hid (∀ x ∈ part.take k, x ∈ part) := Lib.hid (fun x hx => List.mem_of_mem_take hx)
      generalize part.getD k 0 = z at c1 HT HIN
      clear hcc
      obtain ⟨q, HQ⟩ : ∃ q, Hid (nodeB n z = q) := ⟨_, Lib.hid rfl⟩
      go_wp2_with fail
      refine (isNode_any A2 n c2 z wr).mono ?_
      rintro e w' ⟨rfl, rfl⟩
      rw [HQ.out]
      cases q with
      | false =>
        have HN2 : Hid (CyI n (part.take (k + 1)) only) := Lib.hid (by rw [HT.out]; exact HC.out.no HQ.out)
        go_wp2
        go_roundw
        case rel => exact ⟨k + 1, only, by omega, by go_num, HO, HN2, HB⟩
        case measure => simp [intOf]; omega
      | true =>
        by_cases h1 : z = only
        · have HN2 : Hid (CyI n (part.take (k + 1)) only) := Lib.hid (by rw [HT.out]; exact HC.out.same HQ.out h1)
          have hz1 : (z == only) = true := by simpa using h1
          clear h1
          go_wp2
          go_roundw
          case rel => exact ⟨k + 1, only, by omega, by go_num, HO, HN2, HB⟩
          case measure => simp [intOf]; omega
        · have hz1 : (z == only) = false := by simpa using h1
          by_cases h2 : only = -1
          · subst h2
            have HN2 : Hid (CyI n (part.take (k + 1)) z) := Lib.hid (by rw [HT.out]; exact HC.out.first HQ.out)
            have HOX : Hid ((wr.setCell ⟨w.heap.size + 1, 0, none⟩ (.int .i64 z)).heap[w.heap.size + 1]? = some (.cells #[.int .i64 z] 3 (0, 0))) := Lib.hid (box_set HO.out _)
            have HBX : Hid (Below (w.heap.size + 1) w2 (wr.setCell ⟨w.heap.size + 1, 0, none⟩ (.int .i64 z))) := Lib.hid (HB.out.setCell (Nat.le_refl _) _)
            clear h1
            go_wp2
            go_roundw
            case rel => exact ⟨k + 1, z, by omega, by go_num, HOX, HN2, HBX⟩
            case measure => simp [intOf]; omega
          · have HY : Hid (CyP n rows part) := Lib.hid (HC.out.two HTK.out HQ.out HIN.out h1 h2)
            have hz2 : (only != -1) = true := by simpa using h2
            clear h1 h2
            go_wp2
            go_ret
            exact ⟨⟨true, rfl, fun _ => HY.out, fun _ => rfl⟩, HW.out _ HB.out⟩
    · obtain rfl : m = k := by omega
      have HC2 : Hid (CyI n part only) := Lib.hid (by have h := HC.out; rwa [List.take_of_length_le (by rw [← HM.out]; exact Nat.le_refl _)] at h)
      by_cases h2 : only = -1
      · subst h2
        have HY : Hid (¬ CyP n rows part) := Lib.hid HC2.out.none_
        go_wp2
        go_ret
        exact ⟨⟨false, rfl, ⟨fun h => Bool.noConfusion h, fun h => absurd h HY.out⟩⟩, HW.out _ HB.out⟩
      · have hz2 : (only != -1) = true := by simpa using h2
        obtain ⟨a, ha, hoa, _⟩ := HC2.out.resolve_left (fun h => h2 h.1)
        subst hoa
        obtain ⟨b, o, rfl, hb, hcc⟩ := (HRA.out _ HB.out).1 (by rw [← HN.out]; omega)
        obtain ⟨A', c', hcell, hle, hmx, hpa⟩ := hcc a (by rw [← HN.out]; exact ha)
        have HPA := Lib.hid hpa
        have HRL := HROW.out a
        have HEQ : Hid (((rows.getD a []).any fun e => decide (e.1 = (a : Int))) = true ↔ CyP n rows part) := Lib.hid ((any_self ha).trans HC2.out.one.symm)
        generalize rows.getD a [] = row at hcell HPA HRL HEQ
        obtain ⟨len, HLEN⟩ : ∃ len, Hid (row.length = len) := ⟨_, Lib.hid rfl⟩
        rw [HLEN.out] at hcell HRL
        clear hcc hpa hle hmx h2
        go_wp2_with fail
        refine (contains_e 75 #[.pointer (some ⟨w.heap.size + 1, 0, none⟩)] (fun e => decide (e.1 = (a : Int))) A' len c' row wr HLEN.out (by unfold maxLen; omega) HPA.out (enters_of Try.func75 (by kernel_rfl) rfl) (fun y x W hW => self_any (w.heap.size + 1) (a : Int) y x W ((hW.cell (p := ⟨w.heap.size + 1, 0, none⟩) (lt_of_cell b1)).trans b1))).mono ?_
        rintro e w3 ⟨rfl, hb3⟩
        have HB3 : Hid (Below w.heap.size w w3) := Lib.hid ((HW.out _ HB.out).trans (hb3.mono (HW.out _ HB.out).size))
        obtain ⟨q, HQ⟩ : ∃ q, Hid ((row.any fun e => decide (e.1 = (a : Int))) = q) := ⟨_, Lib.hid rfl⟩
        rw [HQ.out]
        rw [HQ.out] at HEQ
        clear hb3
        go_wp2_with fail
        go_ret
        exact ⟨⟨q, rfl, HEQ.out⟩, HB3.out⟩
theorem cyclic_any {w : World} {v : Value} {G : Gr} (hv : GV w v G) (A : Option Addr) (m c : Nat) (part : List Int) (hnl : G.rows.length ≤ 100) (hrow : ∀ i, (G.rows.getD i []).length ≤ 2000) (hm : m = part.length) (hml : m ≤ 1000000) (hP : IA w A part) :
    Calls Try.prog 41 #[v, .slice A m c] w fun e w' => (∃ b, e = .returned (.bool b) ∧ (b = true ↔ CyP G.rows.length G.rows part)) ∧ Below w.heap.size w w' := by
  obtain ⟨A1, c1, A2, c2, A3, c3, rfl, _, ⟨a2, b2, d2⟩, _⟩ := hv
  exact cyclic_any' _ _ A2 c2 _ G.rows A m c part w rfl hnl hrow d2 hm hml hP
end Go.Proofs.Ytnfiohekdbjgoaa.sc
