/- Contracts of package perm: Rank. -/
import Derived.Test.YtkaddfbnlkmehaaPermOver
namespace Go.Proofs.Ytkaddfbnlkmehaa
open Go.ChangeShapes Go.WideShapes Go.ChangeAt Go.RowKit Go.Shelf

attribute [local go_sem] Oper.semAt_some

/-- What stands at the head of Rank's loop. -/
structure RankI (w : World) (s : Nat) (p : List Int) (k : Nat) (Ds : List Nat) (V : World) : Prop where
  row : V.rowIs s 65 8 (sn (p.take k))
  sb : w.heap.size ≤ s
  bl : Below w.heap.size w V
  marks : ∀ D ∈ Ds, w.heap.size ≤ D ∧ V.heap[D]? = some (.deferred (some []))
  nodup : Ds.Nodup
def RankHead (w : World) (s : Nat) (p : List Int) (A : Option Addr) (c m : Nat) (a : Act) (V : World) : Prop :=
  ∃ (k : Nat) (Ds : List Nat) (u1 u2 u5 u6 u7 u8 u9 u10 u14 u15 u16 u17 u18 u19 u20 u21 u22 u23 u24 u25 u26 u27 u28 u29 u30 u31 u32 u33 u34 : Value), k ≤ m ∧
    a = { tmps := #[.slice A m c, u1, u2, .int .i64 (rk p k : Nat), .pointer (some ⟨s, 0, none⟩), u5, u6, u7, u8, u9, u10, .slice A m c, .int .i64 m, .int .i64 k, u14, u15, u16, u17, u18, u19, u20, u21, u22, u23, u24, u25, u26, u27, u28, u29, u30, u31, u32, u33, u34], defers := Ds.map mark } ∧ RankI w s p k Ds V

set_option maxRecDepth 100000 in
set_option maxHeartbeats 4000000 in
theorem rank_yes (A : Option Addr) (c m : Nat) (p : List Int) (w : World) (hm : m = p.length) (hA : IA w A p) (hp : Prm p) :
    Calls Try.prog 39 #[.slice A m c] w fun e w' => e = .returned (.int .i64 (rk p m : Nat)) ∧ Below w.heap.size w w' := by
  have HM := Lib.hid hm
  have HA := Lib.hid hA
  have hm8 : m ≤ 8 := by have := hp.len; omega
  have HLA : Hid (p.length ≤ 1000000) := Lib.hid (by have := hp.len; omega)
  have HC := Lib.hid (chk_iff.2 hp)
  have HP := Lib.hid hp
  clear hm hA hp
  refine (callsIn_wide (n := 5)).1 ?_
  refine callsIn_of_wp_marks Try.func39 rfl trivial ?_ rfl
  simp only [Try.ntmps39, List.size_toArray, List.length_cons, List.length_nil, Nat.reduceAdd, Nat.reduceSub, Array.replicate_succ, Array.replicate_zero, List.push_toArray, List.append_toArray, List.nil_append, List.cons_append]
  gi_wp2_with fail
  refine ⟨trivial, ?_⟩
  refine (callsIn_wide.2 (check_any A c m p w HM.out HA.out HLA.out)).mono ?_
  rintro e w1 ⟨rfl, hb1⟩
  rw [HC.out]
  have HB1 := Lib.hid hb1
  clear hb1
  gi_wp2_with fail
  have hz1 := HB1.out.size
  refine wpIn_loop (RankHead w w1.heap.size p A c m) (fun a' _ => m - (intOf (a'.tmps.getD 13 undef)).toNat) ?start ?round
  case start => exact ⟨0, [], _, _, _, _, _, _, _, _, _, _, _, _, _, _, _, _, _, _, _, _, _, _, _, _, _, _, _, _, _, Nat.zero_le _, rfl, ⟨stood_new w1, hz1, HB1.out.alloc hz1 _, fun D hD => by simp at hD, List.nodup_nil⟩⟩
  case round =>
    rintro a' V ⟨k, Ds, u1, u2, u5, u6, u7, u8, u9, u10, u14, u15, u16, u17, u18, u19, u20, u21, u22, u23, u24, u25, u26, u27, u28, u29, u30, u31, u32, u33, u34, hk, rfl, hI⟩
    have HI := Lib.hid hI
    clear hI
    generalize w1.heap.size = s at *
    by_cases hlt : k < m
    · obtain ⟨b, o, rfl, hb, hc⟩ := HA.out.at_ (i := k) (by rw [← HM.out]; exact hlt)
      have c1 : V.cell? ⟨b, o + k, none⟩ = some (.int .i64 (p.getD k 0)) := (HI.out.bl.cell (p := ⟨b, o + k, none⟩) hb).trans hc
      have HT : Hid (p.take (k + 1) = p.take k ++ [p.getD k 0]) := Lib.hid (take_next (by rw [← HM.out]; exact hlt))
      have HAT : Hid (0 ≤ p.getD k 0 ∧ p.getD k 0 < m) := Lib.hid (by have := HP.out.at_ (i := k) (by rw [← HM.out]; exact hlt); rw [HM.out]; exact this)
      obtain ⟨x, HX⟩ : ∃ x : Nat, Hid (p.getD k 0 = (x : Int) ∧ x < m) := ⟨(p.getD k 0).toNat, Lib.hid (by have := HAT.out; omega)⟩
      have hxm := HX.out.2
      have HDG : Hid (dg p k = (lft (p.take k) x).length) := Lib.hid (by unfold dg; rw [HX.out.1, Int.toNat_natCast])
      rw [HX.out.1] at c1
      clear hc
      gi_wp2_with fail
      refine ⟨trivial, ?_⟩
      refine (callsIn_wide.2 (left_any _ (x : Int) _)).mono ?_
      rintro e w2 ⟨rfl, rfl⟩
      gi_wp2_with fail
      have bn := cell_new_l ((V.alloc (.cells #[.int .i64 0] 3)).alloc (.cells #[.pointer (some ⟨s, 0, none⟩)] 79)) (.int .i64 (x : Int)) 3
      have bp : (((V.alloc (.cells #[.int .i64 0] 3)).alloc (.cells #[.pointer (some ⟨s, 0, none⟩)] 79)).alloc (.cells #[.int .i64 (x : Int)] 3)).cell? ⟨V.heap.size + 1, 0, none⟩ = some (.pointer (some ⟨s, 0, none⟩)) := by
        have h := cell_new_l (V.alloc (.cells #[.int .i64 0] 3)) (.pointer (some ⟨s, 0, none⟩)) 79
        simp only [World.size_alloc] at h
        exact (((Below.refl _ (((V.alloc (.cells #[.int .i64 0] 3)).alloc (.cells #[.pointer (some ⟨s, 0, none⟩)] 79)))).alloc (Nat.le_refl _) _).cell (p := ⟨V.heap.size + 1, 0, none⟩) (by simp)).trans h.1
      have bd : (((V.alloc (.cells #[.int .i64 0] 3)).alloc (.cells #[.pointer (some ⟨s, 0, none⟩)] 79)).alloc (.cells #[.int .i64 (x : Int)] 3)).heap[V.heap.size]? = some (.cells #[.int .i64 ((0 : Nat) : Int)] 3 (0, 0)) := by
        rw [((((Below.refl _ (V.alloc (.cells #[.int .i64 0] 3))).alloc (Nat.le_refl _) _).alloc (by simp) _).block V.heap.size (by simp))]
        exact World.alloc_heap_new V _
      have bV : Below V.heap.size V (((V.alloc (.cells #[.int .i64 0] 3)).alloc (.cells #[.pointer (some ⟨s, 0, none⟩)] 79)).alloc (.cells #[.int .i64 (x : Int)] 3)) := (((Below.refl _ V).alloc (Nat.le_refl _) _).alloc (by simp) _).alloc (by simp; omega) _
      have hz : (((V.alloc (.cells #[.int .i64 0] 3)).alloc (.cells #[.pointer (some ⟨s, 0, none⟩)] 79)).alloc (.cells #[.int .i64 (x : Int)] 3)).heap.size = V.heap.size + 3 := by simp
      have hsV := HI.out.row.lt
      simp only [World.size_alloc] at bn
      generalize ((V.alloc (.cells #[.int .i64 0] 3)).alloc (.cells #[.pointer (some ⟨s, 0, none⟩)] 79)).alloc (.cells #[.int .i64 (x : Int)] 3) = W0 at *
      have hK : ∀ q, (q = s ∨ q = V.heap.size + 1 ∨ q = V.heap.size + 1 + 1) → q < W0.heap.size := fun q hq => by omega
      have hst := left_stops (fun q => q = s ∨ q = V.heap.size + 1 ∨ q = V.heap.size + 1 + 1) (V.heap.size + 1) (V.heap.size + 1 + 1) s x (p.take k) W0 (by omega) hK (.inl rfl) (.inr (.inl rfl)) (.inr (.inr rfl)) bp bn.1 (HI.out.row.of_block (bV.block s hsV))
      clear bn bp
      refine wpIn_rangeFunc_ownF (F := Fence.wide) (n := 5) rfl (by omega) (gf := 69) (lb := #[.pointer (some ⟨V.heap.size + 1, 0, none⟩), .pointer (some ⟨V.heap.size + 1 + 1, 0, none⟩)]) rfl trivial (enters_of Try.func69 (by kernel_rfl) rfl)
        hst KS.trans (KS.back hK) (Below.refl _ _) (fun _ => rfl)
        (fun pre W => Turn (fun q => q = V.heap.size) W0 W ∧ W.heap[V.heap.size]? = some (.cells #[.int .i64 ((pre.length : Nat) : Int)] 3 (0, 0)))
        (fun _ _ _ => False) ?hI ?hIx ?h0 (fun y => { tmps := #[.slice (some ⟨b, o, none⟩) m c, u1, u2, .int .i64 (rk p k : Nat), .pointer (some ⟨s, 0, none⟩), .int .i64 k, .int .i64 x, .pointer (some ⟨V.heap.size, 0, none⟩), u8, u9, u10, .slice (some ⟨b, o, none⟩) m c, .int .i64 m, .int .i64 k, .bool true, .int .i64 k, .pointer (some ⟨b, o + k, none⟩), .int .i64 x, .int .i64 x, .func (.func 69) #[] #[.pointer (some ⟨V.heap.size + 1, 0, none⟩), .pointer (some ⟨V.heap.size + 1 + 1, 0, none⟩)], .int .i64 y, u21, u22, u23, u24, u25, u26, u27, u28, u29, u30, u31, u32, u33, u34], defers := [] }) ?assign ?body ?done ?stop
      case hI => exact OwnFrom.and (Turn.own _ _) (fun s' X Y row hs hg hr => (hg.block V.heap.size (Array.getElem?_eq_some_iff.1 hs).1 (fun e => by have := (hr _ e.symm).1; omega)).trans hs)
      case hIx => exact fun _ _ _ _ _ hs _ _ => hs
      case h0 => exact ⟨Turn.refl _ _, bd⟩
      case assign =>
        intro l' y W K hK
        gi_wp2
        exact hK
      case body =>
        rintro l' pre y W ⟨hT, hd⟩ hlen
        have d1 := (cell_of_box_l hd).1
        have d2 := (cell_of_box_l hd).2
        have HTT := Lib.hid (hT.set ⟨V.heap.size, 0, none⟩ (.int .i64 ((pre.length : Int) + 1)) rfl)
        have HKS : Hid (KS (fun q => q = s ∨ q = V.heap.size + 1 ∨ q = V.heap.size + 1 + 1) W (W.setCell ⟨V.heap.size, 0, none⟩ (.int .i64 ((pre.length : Int) + 1)))) := Lib.hid (fun q hq => Below.heap_setCell W _ _ q (by show q ≠ V.heap.size; omega))
        have HN : Hid ((W.setCell ⟨V.heap.size, 0, none⟩ (.int .i64 ((pre.length : Int) + 1))).heap[V.heap.size]? = some (.cells #[.int .i64 (((pre ++ [y]).length : Nat) : Int)] 3 (0, 0))) := Lib.hid (by
          rw [List.length_append]
          exact box_set hd _)
        clear hT hd
        gi_wp2
        exact ⟨KeepsOthers.setCell _ _ _, HKS.out, HTT.out, HN.out⟩
      case done =>
        rintro D ys W hD rfl ⟨hT, hd⟩ hK
        rw [← HDG.out] at hd
        have d1 := (cell_of_box_l hd).1
        have HR : Hid (W.rowIs s 65 8 (sn (p.take k))) := Lib.hid ((HI.out.row.of_block (bV.block s hsV)).of_block (hT.block s (by omega) (by omega)))
        have HMK : Hid (∀ E ∈ D :: Ds, w.heap.size ≤ E ∧ E ≠ s ∧ W.heap[E]? = some (.deferred (some []))) := Lib.hid (fun E hE => by
          have hbs := HI.out.bl.size
          rcases List.mem_cons.1 hE with rfl | hE
          · exact ⟨by omega, by omega, hK⟩
          · obtain ⟨h1, h2⟩ := HI.out.marks E hE
            have h3 := (Array.getElem?_eq_some_iff.1 h2).1
            refine ⟨h1, fun e => ?_, ((hT.block E (by omega) (by omega)).trans (bV.block E h3)).trans h2⟩
            obtain ⟨cs, hcs, _⟩ := HI.out.row
            rw [← e, h2] at hcs
            cases hcs)
        have HND : Hid ((D :: Ds).Nodup) := Lib.hid (List.nodup_cons.2 ⟨fun hm => by have := (Array.getElem?_eq_some_iff.1 (HI.out.marks D hm).2).1; omega, HI.out.nodup⟩)
        have HBW : Hid (Below w.heap.size w W) := Lib.hid (HI.out.bl.trans ((bV.mono HI.out.bl.size).trans (hT.below (fun q hq => by have := HI.out.bl.size; omega) (by have := HI.out.bl.size; omega))))
        have hx8 : x < 8 := by omega
        obtain ⟨v0, e1⟩ : ∃ v0, W.cell? ⟨s, x, none⟩ = some v0 := ⟨_, HR.out.cell hx8⟩
        have e2 := HR.out.frozen x
        have hb1 : rk p k * (m - k) + dg p k < 40320 := by
          have h := rk_small HP.out (k := k + 1) (by rw [← HM.out]; exact hlt)
          rw [rk, ← HM.out] at h
          exact h
        have hmk : ((m - k : Nat) : Int) = (m : Int) - (k : Int) := by omega
        have HRK : Hid ((rk p k : Int) * ((m : Int) - (k : Int)) + (dg p k : Int) = ((rk p (k + 1) : Nat) : Int)) := Lib.hid (by rw [rk, ← HM.out, Int.natCast_add, Int.natCast_mul, hmk])
        have hb2 : (rk p k : Int) * ((m : Int) - (k : Int)) = ((rk p k * (m - k) : Nat) : Int) := by rw [Int.natCast_mul, hmk]
        have hb3 : 0 ≤ (rk p k : Int) * ((m : Int) - (k : Int)) ∧ (rk p k : Int) * ((m : Int) - (k : Int)) + (dg p k : Int) < 40320 := by rw [hb2]; omega
        obtain ⟨hb4, hb5⟩ := hb3
        have hb6 : 0 ≤ (dg p k : Int) := by omega
        clear hb2 hb1 hT hd hmk bV bd hK
        gi_wp2
        rw [HRK.out]
        have HR2 : Hid ((W.setCell ⟨s, x, none⟩ (.bool true)).rowIs s 65 8 (sn (p.take (k + 1)))) := Lib.hid ((HR.out.set x _).congr (fun i hi => by
          rw [HT.out, HX.out.1]
          by_cases hij : i = x
          · subst hij; simp [sn]
          · simp only [if_neg hij, sn]
            congr 1
            simp
            omega))
        refine ⟨⟨k + 1, D :: Ds, _, _, _, _, _, _, _, _, _, _, _, _, _, _, _, _, _, _, _, _, _, _, _, _, _, _, _, _, _, by omega, rfl, ⟨HR2.out, HI.out.sb, HBW.out.setCell HI.out.sb _, fun E hE => ?_, HND.out⟩⟩, ?_⟩
        · obtain ⟨h1, h2, h3⟩ := HMK.out E hE
          exact ⟨h1, (Below.heap_setCell W _ _ E h2).trans h3⟩
        · simp [intOf]; omega
      case stop => exact fun _ _ _ _ _ _ h => h.elim
    · gi_wp2_with fail
      obtain rfl : k = m := by omega
      exact leaves_marks (fun V => Below w.heap.size w V) (fun V _ => results_tmp rfl _ _ V) (fun V h => ⟨rfl, h⟩) Ds V HI.out.nodup (fun E hE => (HI.out.marks E hE).2) (fun E hE V h hj => belowK_b (w := w) (Nat.le_refl _) _ E _ (.deferred none) (HI.out.marks E hE).1 h rfl rfl |> hj.trans) HI.out.bl

set_option maxHeartbeats 1000000 in
theorem rank_no (A : Option Addr) (c m : Nat) (p : List Int) (w : World) (hm : m = p.length) (hA : IA w A p) (ha : p.length ≤ 1000000) (hc : chk p = false) :
    Calls Try.prog 39 #[.slice A m c] w fun e w' => e = .returned (.int .i64 (-1)) ∧ Below w.heap.size w w' := by
  have HM := Lib.hid hm
  have HA := Lib.hid hA
  have HLA := Lib.hid ha
  have HC := Lib.hid hc
  clear hm hA ha hc
  refine (callsIn_wide (n := 5)).1 ?_
  refine callsIn_of_wp_marks Try.func39 rfl trivial ?_ rfl
  simp only [Try.ntmps39, List.size_toArray, List.length_cons, List.length_nil, Nat.reduceAdd, Nat.reduceSub, Array.replicate_succ, Array.replicate_zero, List.push_toArray, List.append_toArray, List.nil_append, List.cons_append]
  gi_wp2_with fail
  refine ⟨trivial, ?_⟩
  refine (callsIn_wide.2 (check_any A c m p w HM.out HA.out HLA.out)).mono ?_
  rintro e w1 ⟨rfl, hb1⟩
  rw [HC.out]
  have HB1 := Lib.hid hb1
  clear hb1
  gi_wp2_with fail
  refine ⟨_, results_tmp rfl _ _ _, rfl, HB1.out⟩

/-- The rank of any list. -/
def rkF (p : List Int) : Int := if chk p = true then (rk p p.length : Nat) else -1
theorem rank_any (A : Option Addr) (c m : Nat) (p : List Int) (w : World) (hm : m = p.length) (hA : IA w A p) (ha : p.length ≤ 1000000) :
    Calls Try.prog 39 #[.slice A m c] w fun e w' => e = .returned (.int .i64 (rkF p)) ∧ Below w.heap.size w w' := by
  unfold rkF
  by_cases h : chk p = true
  · rw [if_pos h, ← hm]
    exact rank_yes A c m p w hm hA (chk_iff.1 h)
  · rw [if_neg h]
    exact rank_no A c m p w hm hA ha (by simpa using h)
end Go.Proofs.Ytkaddfbnlkmehaa
