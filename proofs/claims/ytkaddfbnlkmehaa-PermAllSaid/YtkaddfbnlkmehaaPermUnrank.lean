/- Contracts of package perm: Unrank. -/
import Derived.Test.YtkaddfbnlkmehaaPermRank
namespace Go.Proofs.Ytkaddfbnlkmehaa
open Go.ChangeShapes Go.WideShapes Go.ChangeAt Go.RowKit Go.Shelf

attribute [local go_sem] Oper.semAt_some

/-- The permutation of a rank, or none. -/
def unF (n k : Int) : List Int := if 0 ≤ n ∧ n ≤ 8 ∧ 0 ≤ k ∧ k < fct n.toNat then uns n.toNat k.toNat n.toNat else []

/-- The digits from behind, so far. -/
def dgsB (m K j q : Nat) : Value := .int .i64 (if m ≤ q + j then (dgs m K q : Nat) else 0)
/-- The numbers picked, so far. -/
def picked (m K i q : Nat) : Value := .int .i64 (if q < i then (uns m K m).getD q 0 else 0)

theorem prefix_getD {a b : List Int} (h : a <+: b) {i : Nat} (hi : i < a.length) : a.getD i 0 = b.getD i 0 := by
  obtain ⟨t, rfl⟩ := h
  simp [List.getD, List.getElem?_append_left hi]
theorem Turn.mono {T T' : Nat → Prop} {w w' : World} (h : Turn T w w') (hT : ∀ k, T k → T' k) : Turn T' w w' := ⟨h.os, h.tape, h.output, h.size, fun k hk hn => h.block k hk (fun ht => hn (hT k ht))⟩

/-- What stands at the head of Unrank's second loop. -/
structure UnI (w : World) (g pb qb s m K i : Nat) (Ds : List Nat) (V : World) : Prop where
  row : V.rowIs s 65 8 (sn (uns m K i))
  dig : V.rowIs g 3 m (fun q => .int .i64 (dgs m K q : Nat))
  out : V.rowIs pb 3 m (picked m K i)
  box : V.heap[qb]? = some (.cells #[.slice (some ⟨pb, 0, none⟩) m m] 22 (0, 0))
  sb : w.heap.size ≤ s
  gb : w.heap.size ≤ g
  pbb : w.heap.size ≤ pb
  qbb : w.heap.size ≤ qb
  nsg : s ≠ g
  nsp : s ≠ pb
  nsq : s ≠ qb
  ngp : g ≠ pb
  npq : pb ≠ qb
  bl : Below w.heap.size w V
  marks : ∀ D ∈ Ds, w.heap.size ≤ D ∧ V.heap[D]? = some (.deferred (some []))
  nodup : Ds.Nodup

def UnHead (w : World) (g pb qb s m K : Nat) (a : Act) (V : World) : Prop :=
  ∃ (i : Nat) (Ds : List Nat) (u1 u2 u3 u4 u6 u9 u10 u11 u12 u13 u14 u15 u16 u17 u18 u19 u20 u21 u22 u23 u24 u25 u26 u27 u28 u29 u30 u31 u32 u33 u34 u35 u36 u37 u38 u39 u40 u41 u42 u43 u47 u48 u49 u50 u51 u52 u53 u54 u55 u56 u57 u58 u59 u60 u61 u62 u63 u64 u65 u66 u67 u68 : Value), i ≤ m ∧
    a = { tmps := #[.int .i64 m, u1, u2, u3, u4, .slice (some ⟨g, 0, none⟩) m m, u6, .pointer (some ⟨qb, 0, none⟩), .pointer (some ⟨s, 0, none⟩), u9, u10, u11, u12, u13, u14, u15, u16, u17, u18, u19, u20, u21, u22, u23, u24, u25, u26, u27, u28, u29, u30, u31, u32, u33, u34, u35, u36, u37, u38, u39, u40, u41, u42, u43, .slice (some ⟨g, 0, none⟩) m m, .int .i64 m, .int .i64 i, u47, u48, u49, u50, u51, u52, u53, u54, u55, u56, u57, u58, u59, u60, u61, u62, u63, u64, u65, u66, u67, u68], defers := Ds.map mark } ∧ UnI w g pb qb s m K i Ds V

set_option maxRecDepth 100000 in
set_option maxHeartbeats 4000000 in
theorem unrank_yes (m K : Nat) (w : World) (hm8 : m ≤ 8) (hK : K ≤ 9223372036854775807) :
    Calls Try.prog 38 #[.int .i64 m, .int .i64 K] w (RowP w (unF m K)) := by
  have hmk := Lib.hid (fun W => run_make_row' (P := Try.prog) 22 3 (.int .i64 0) 8 Try.underlying22 Try.info3 rfl .i64 .i64 m (by omega) (by omega) W)
  refine (callsIn_wide (n := 5)).1 ?_
  refine callsIn_of_wp_marks Try.func38 rfl trivial ?_ rfl
  simp only [Try.ntmps38, List.size_toArray, List.length_cons, List.length_nil, Nat.reduceAdd, Nat.reduceSub, Array.replicate_succ, Array.replicate_zero, List.push_toArray, List.append_toArray, List.nil_append, List.cons_append]
  gi_wp2_with fail
  refine ⟨trivial, ?_⟩
  refine (callsIn_wide.2 (isCount_any m w)).mono ?_
  rintro e w' ⟨rfl, rfl⟩
  have hd : decide (0 ≤ (m : Int) ∧ (m : Int) ≤ 8) = true := by simp; omega
  rw [hd]
  clear hd
  have hmk1 := hmk.out
  gi_wp2_with fail
  clear hmk1
  gi_loopw [1, 6] (fun kv i wr => ∃ (j : Nat) (v : Int), j ≤ m ∧ v = (m : Int) - 1 - j ∧ i = .int .i64 v ∧ kv = .int .i64 ((K / fct j : Nat) : Int) ∧ Hid (wr.rowIs w.heap.size 3 m (dgsB m K j)) ∧ Hid (Below w.heap.size w wr)) (fun _ i _ => (intOf i + 1).toNat)
  case atStart => exact ⟨0, _, by omega, by omega, rfl, by simp [fct], Lib.hid ((World.rowIs_made w _ _ _).congr (fun q hq => by unfold dgsB; rw [if_neg (by omega)])), Lib.hid ((Below.refl _ _).alloc (Nat.le_refl _) _)⟩
  case round =>
    obtain ⟨j, v, hj, hv, rfl, rfl, HR, HB⟩ := hrel
    by_cases hlt : j < m
    · obtain ⟨q, HQ⟩ : ∃ q : Nat, Hid (v = (q : Int) ∧ q + j + 1 = m) := ⟨m - 1 - j, Lib.hid (by omega)⟩
      have hq : q < m := by have := HQ.out.2; omega
      have hq2 : ¬ ((m : Int) - (q : Int) < 1) := by omega
      have hv2 := HQ.out.1
      subst hv2
      have HDV : Hid ((((K / fct j : Nat) : Int) % ((m : Int) - (q : Int))) = ((dgs m K q : Nat) : Int) ∧ ((K / fct j : Nat) : Int) / ((m : Int) - (q : Int)) = ((K / fct (j + 1) : Nat) : Int)) := Lib.hid (by
        have h := HQ.out.2
        have e : (m : Int) - (q : Int) = ((m - q : Nat) : Int) := by omega
        rw [e, ← Int.natCast_emod, ← Int.natCast_ediv]
        unfold dgs
        rw [show m - 1 - q = j by omega, show m - q = j + 1 by omega, Nat.div_div_eq_div_mul, Nat.mul_comm, fct]
        exact ⟨rfl, rfl⟩)
      have HK1 : Hid (K / fct j ≤ 9223372036854775807) := Lib.hid (Nat.le_trans (Nat.div_le_self _ _) hK)
      generalize K / fct j = X at *
      have hp1 : 0 ≤ (X : Int) := by omega
      have hp2 : (X : Int) ≤ 9223372036854775807 := by have := HK1.out; omega
      obtain ⟨u, d1⟩ : ∃ u, wr.cell? ⟨w.heap.size, q, none⟩ = some u := ⟨_, HR.out.cell hq⟩
      have d2 := HR.out.frozen q
      generalize (X : Int) = x at *
      clear hv
      gi_wp2
      rw [HDV.out.1, HDV.out.2]
      refine ⟨⟨j + 1, _, by omega, ?_, rfl, rfl, Lib.hid ((HR.out.set q _).congr (fun i hi => ?_)), Lib.hid (HB.out.setCell (Nat.le_refl _) _)⟩, ?_⟩
      · have := HQ.out.2; omega
      · have h := HQ.out.2
        unfold dgsB
        by_cases hiq : i = q
        · subst hiq; rw [if_pos rfl, if_pos (by omega)]
        · rw [if_neg hiq]
          by_cases h2 : m ≤ i + j
          · rw [if_pos h2, if_pos (by omega)]
          · rw [if_neg h2, if_neg (by omega)]
      · simp [intOf]
    · obtain rfl : j = m := by omega
      obtain rfl : v = -1 := by omega
      by_cases hf : K < fct j
      · have hz : K / fct j = 0 := Nat.div_eq_of_lt hf
        have HE : Hid (unF j K = uns j K j) := Lib.hid (by unfold unF; rw [if_pos (by simp; try omega)]; simp)
        rw [hz]
        clear hz hv hlt
        have hmk1 := hmk.out
        gi_wp2_with fail
        clear hmk1
        have HI0 : Hid (UnI w w.heap.size wr.heap.size (wr.heap.size + 1) (wr.heap.size + 1 + 1) j K 0 [] (((wr.alloc (.cells (madeCells #[.int .i64 0] j) 3)).alloc (.cells #[.slice (some ⟨wr.heap.size, 0, none⟩) j j] 22)).alloc (.cells #[.bool false, .bool false, .bool false, .bool false, .bool false, .bool false, .bool false, .bool false] 65))) := Lib.hid (by
          have hz := HB.out.size
          have hg := HR.out.lt
          have hs := stood_new ((wr.alloc (.cells (madeCells #[.int .i64 0] j) 3)).alloc (.cells #[.slice (some ⟨wr.heap.size, 0, none⟩) j j] 22))
          simp only [World.size_alloc] at hs
          have hq : ((wr.alloc (.cells (madeCells #[.int .i64 0] j) 3)).alloc (.cells #[.slice (some ⟨wr.heap.size, 0, none⟩) j j] 22)).heap[wr.heap.size + 1]? = some (.cells #[.slice (some ⟨wr.heap.size, 0, none⟩) j j] 22 (0, 0)) := by
            have := World.alloc_heap_new (wr.alloc (.cells (madeCells #[.int .i64 0] j) 3)) (.cells #[.slice (some ⟨wr.heap.size, 0, none⟩) j j] 22)
            rwa [World.size_alloc] at this
          refine ⟨hs, ((((HR.out.congr (fun q hq => ?_)).alloc _).alloc _).alloc _), ((((World.rowIs_made wr _ _ _).congr (fun q hq => ?_)).alloc _).alloc _), (Below.heap_alloc _ _ _ (by simp)).trans hq, by omega, Nat.le_refl _, by omega, by omega, by omega, by omega, by omega, by omega, by omega, ((HB.out.alloc hz _).alloc (by simp; try omega) _).alloc (by simp; try omega) _, fun D hD => by simp at hD, List.nodup_nil⟩
          · unfold dgsB; rw [if_pos (by omega)]
          · unfold picked; rw [if_neg (by omega)])
        have HGN := HB.out.size
        generalize (((wr.alloc (.cells (madeCells #[.int .i64 0] j) 3)).alloc (.cells #[.slice (some ⟨wr.heap.size, 0, none⟩) j j] 22)).alloc (.cells #[.bool false, .bool false, .bool false, .bool false, .bool false, .bool false, .bool false, .bool false] 65)) = V0 at *
        generalize wr.heap.size + 1 + 1 = s at *
        generalize wr.heap.size + 1 = qb at *
        generalize wr.heap.size = pb at *
        refine wpIn_loop (UnHead w w.heap.size pb qb s j K) (fun a' _ => j - (intOf (a'.tmps.getD 46 undef)).toNat) ?start ?round
        case start => exact ⟨0, [], _, _, _, _, _, _, _, _, _, _, _, _, _, _, _, _, _, _, _, _, _, _, _, _, _, _, _, _, _, _, _, _, _, _, _, _, _, _, _, _, _, _, _, _, _, _, _, _, _, _, _, _, _, _, _, _, _, _, _, _, _, _, Nat.zero_le _, rfl, HI0.out⟩
        case round =>
          rintro a' V ⟨i, Ds, u1, u2, u3, u4, u6, u9, u10, u11, u12, u13, u14, u15, u16, u17, u18, u19, u20, u21, u22, u23, u24, u25, u26, u27, u28, u29, u30, u31, u32, u33, u34, u35, u36, u37, u38, u39, u40, u41, u42, u43, u47, u48, u49, u50, u51, u52, u53, u54, u55, u56, u57, u58, u59, u60, u61, u62, u63, u64, u65, u66, u67, u68, hi, rfl, hI⟩
          have HI := Lib.hid hI
          clear hI HR HB HI0
          generalize w.heap.size = g at *
          by_cases hlt : i < j
          · have c1 := HI.out.dig.cell hlt
            have hdl : dgs j K i < j - i := dgs_lt hlt
            gi_wp2_with fail
            refine ⟨trivial, ?_⟩
            refine (callsIn_wide.2 (left_any _ (j : Int) _)).mono ?_
            rintro e w2 ⟨rfl, rfl⟩
            gi_wp2_with fail
            have bi : ((((V.alloc (.cells #[.int .i64 i] 3)).alloc (.cells #[.int .i64 (dgs j K i : Nat)] 3)).alloc (.cells #[.pointer (some ⟨s, 0, none⟩)] 79)).alloc (.cells #[.int .i64 j] 3)).heap[V.heap.size]? = some (.cells #[.int .i64 i] 3 (0, 0)) := by
              rw [((((Below.refl _ (V.alloc (.cells #[.int .i64 i] 3))).alloc (Nat.le_refl _) _).alloc (by simp) _).alloc (by simp; try omega) _).block V.heap.size (by simp)]
              exact World.alloc_heap_new V _
            have bd : ((((V.alloc (.cells #[.int .i64 i] 3)).alloc (.cells #[.int .i64 (dgs j K i : Nat)] 3)).alloc (.cells #[.pointer (some ⟨s, 0, none⟩)] 79)).alloc (.cells #[.int .i64 j] 3)).heap[V.heap.size + 1]? = some (.cells #[.int .i64 ((dgs j K i - 0 : Nat) : Int)] 3 (0, 0)) := by
              rw [(((Below.refl _ ((V.alloc (.cells #[.int .i64 i] 3)).alloc (.cells #[.int .i64 (dgs j K i : Nat)] 3))).alloc (Nat.le_refl _) _).alloc (by simp) _).block (V.heap.size + 1) (by simp)]
              have := World.alloc_heap_new (V.alloc (.cells #[.int .i64 i] 3)) (.cells #[.int .i64 (dgs j K i : Nat)] 3)
              rwa [World.size_alloc] at this
            have bp : ((((V.alloc (.cells #[.int .i64 i] 3)).alloc (.cells #[.int .i64 (dgs j K i : Nat)] 3)).alloc (.cells #[.pointer (some ⟨s, 0, none⟩)] 79)).alloc (.cells #[.int .i64 j] 3)).cell? ⟨V.heap.size + 1 + 1, 0, none⟩ = some (.pointer (some ⟨s, 0, none⟩)) := by
              have h := cell_new_l ((V.alloc (.cells #[.int .i64 i] 3)).alloc (.cells #[.int .i64 (dgs j K i : Nat)] 3)) (.pointer (some ⟨s, 0, none⟩)) 79
              simp only [World.size_alloc] at h
              exact (((Below.refl _ (((V.alloc (.cells #[.int .i64 i] 3)).alloc (.cells #[.int .i64 (dgs j K i : Nat)] 3)).alloc (.cells #[.pointer (some ⟨s, 0, none⟩)] 79))).alloc (Nat.le_refl _) _).cell (p := ⟨V.heap.size + 1 + 1, 0, none⟩) (by simp)).trans h.1
            have bn := (cell_new_l (((V.alloc (.cells #[.int .i64 i] 3)).alloc (.cells #[.int .i64 (dgs j K i : Nat)] 3)).alloc (.cells #[.pointer (some ⟨s, 0, none⟩)] 79)) (.int .i64 (j : Int)) 3).1
            simp only [World.size_alloc] at bn
            have bV : Below V.heap.size V ((((V.alloc (.cells #[.int .i64 i] 3)).alloc (.cells #[.int .i64 (dgs j K i : Nat)] 3)).alloc (.cells #[.pointer (some ⟨s, 0, none⟩)] 79)).alloc (.cells #[.int .i64 j] 3)) := ((((Below.refl _ V).alloc (Nat.le_refl _) _).alloc (by simp) _).alloc (by simp; try omega) _).alloc (by simp; try omega) _
            have hz : ((((V.alloc (.cells #[.int .i64 i] 3)).alloc (.cells #[.int .i64 (dgs j K i : Nat)] 3)).alloc (.cells #[.pointer (some ⟨s, 0, none⟩)] 79)).alloc (.cells #[.int .i64 j] 3)).heap.size = V.heap.size + 4 := by simp
            have hsV := HI.out.row.lt
            have hpV := HI.out.out.lt
            have hqV := (Array.getElem?_eq_some_iff.1 HI.out.box).1
            have hwV := HI.out.bl.size
            generalize (((V.alloc (.cells #[.int .i64 i] 3)).alloc (.cells #[.int .i64 (dgs j K i : Nat)] 3)).alloc (.cells #[.pointer (some ⟨s, 0, none⟩)] 79)).alloc (.cells #[.int .i64 j] 3) = W0 at *
            have hK : ∀ q, (q = s ∨ q = V.heap.size + 1 + 1 ∨ q = V.heap.size + 1 + 1 + 1) → q < W0.heap.size := fun q hq => by omega
            have hst := left_stops (fun q => q = s ∨ q = V.heap.size + 1 + 1 ∨ q = V.heap.size + 1 + 1 + 1) (V.heap.size + 1 + 1) (V.heap.size + 1 + 1 + 1) s j (uns j K i) W0 (by omega) hK (.inl rfl) (.inr (.inl rfl)) (.inr (.inr rfl)) bp bn (HI.out.row.of_block (bV.block s hsV))
            have HLL : Hid ((lft (uns j K i) j).length = j - i) := Lib.hid (uns_ok K i (by omega)).2.2
            have HUA : Hid ((uns j K j).getD i 0 = (lft (uns j K i) j).getD (dgs j K i) 0) := Lib.hid (uns_at hlt)
            have HBOX : Hid (W0.heap[qb]? = some (.cells #[.slice (some ⟨pb, 0, none⟩) j j] 22 (0, 0))) := Lib.hid ((bV.block qb hqV).trans HI.out.box)
            have HOUT : Hid (W0.rowIs pb 3 j (picked j K i)) := Lib.hid (HI.out.out.of_block (bV.block pb hpV))
            have HBI := Lib.hid bi
            clear bn bp c1
            refine wpIn_rangeFunc_ownF (F := Fence.wide) (n := 5) rfl (by omega) (gf := 69) (lb := #[.pointer (some ⟨V.heap.size + 1 + 1, 0, none⟩), .pointer (some ⟨V.heap.size + 1 + 1 + 1, 0, none⟩)]) rfl trivial (enters_of Try.func69 (by kernel_rfl) rfl)
              hst KS.trans (KS.back hK) (Below.refl _ _) (fun _ => rfl)
              (fun pre W => Turn (fun q => q = V.heap.size + 1) W0 W ∧ pre.length ≤ dgs j K i ∧ W.heap[V.heap.size + 1]? = some (.cells #[.int .i64 ((dgs j K i - pre.length : Nat) : Int)] 3 (0, 0)))
              (fun c pre W => c = .exit 4 ∧ pre.length = dgs j K i + 1 ∧ Turn (fun q => q = V.heap.size + 1 ∨ q = pb) W0 W ∧ W.rowIs pb 3 j (fun q => if q = i then .int .i64 (pre.getD (dgs j K i) 0) else picked j K i q))
              ?hI ?hIx ?h0 (fun y => { tmps := #[.int .i64 j, u1, u2, u3, u4, .slice (some ⟨g, 0, none⟩) j j, u6, .pointer (some ⟨qb, 0, none⟩), .pointer (some ⟨s, 0, none⟩), .pointer (some ⟨V.heap.size, 0, none⟩), .pointer (some ⟨V.heap.size + 1, 0, none⟩), .int .i64 y, u12, u13, u14, u15, u16, u17, u18, u19, u20, u21, u22, u23, u24, u25, u26, u27, u28, u29, u30, u31, u32, u33, u34, u35, u36, u37, u38, u39, u40, u41, u42, u43, .slice (some ⟨g, 0, none⟩) j j, .int .i64 j, .int .i64 i, .bool true, .int .i64 i, .pointer (some ⟨g, i, none⟩), .int .i64 (dgs j K i : Nat), .int .i64 j, .func (.func 69) #[] #[.pointer (some ⟨V.heap.size + 1 + 1, 0, none⟩), .pointer (some ⟨V.heap.size + 1 + 1 + 1, 0, none⟩)], .int .i64 y, u54, u55, u56, u57, u58, u59, u60, u61, u62, u63, u64, u65, u66, u67, u68], defers := [] }) ?assign ?body ?done ?stop
            case hI =>
              rintro pre X Y row ⟨h1, h2, h3⟩ hg hr
              exact ⟨Turn.own _ _ pre X Y row h1 hg hr, h2, (hg.block (V.heap.size + 1) (Array.getElem?_eq_some_iff.1 h3).1 (fun e => by have := (hr _ e.symm).1; omega)).trans h3⟩
            case hIx =>
              rintro c pre X Y row ⟨h1, h2, h3, h4⟩ hg hr
              exact ⟨h1, h2, Turn.own _ _ pre X Y row h3 hg hr, h4.of_block (hg.block pb h4.lt (fun e => by have := (hr _ e.symm).1; omega))⟩
            case h0 => exact ⟨Turn.refl _ _, Nat.zero_le _, bd⟩
            case assign =>
              intro l' y W K' hK'
              gi_wp2
              exact hK'
            case body =>
              rintro l' pre y W ⟨hT, hle, hd⟩ hlen
              have d1 := (cell_of_box_l hd).1
              have d2 := (cell_of_box_l hd).2
              by_cases hlt2 : pre.length < dgs j K i
              · obtain ⟨r, HR⟩ : ∃ r : Nat, Hid (dgs j K i - pre.length = r + 1 ∧ dgs j K i - (pre.length + 1) = r) := ⟨dgs j K i - pre.length - 1, Lib.hid (by omega)⟩
                have HTT := Lib.hid (hT.set ⟨V.heap.size + 1, 0, none⟩ (.int .i64 (r : Int)) rfl)
                have HKS : Hid (KS (fun q => q = s ∨ q = V.heap.size + 1 + 1 ∨ q = V.heap.size + 1 + 1 + 1) W (W.setCell ⟨V.heap.size + 1, 0, none⟩ (.int .i64 (r : Int)))) := Lib.hid (fun q hq => Below.heap_setCell W _ _ q (by show q ≠ V.heap.size + 1; omega))
                have HN : Hid ((W.setCell ⟨V.heap.size + 1, 0, none⟩ (.int .i64 (r : Int))).heap[V.heap.size + 1]? = some (.cells #[.int .i64 ((dgs j K i - (pre ++ [y]).length : Nat) : Int)] 3 (0, 0))) := Lib.hid (by
                  rw [List.length_append, List.length_singleton, HR.out.2]
                  exact box_set hd _)
                have HLE : Hid ((pre ++ [y]).length ≤ dgs j K i) := Lib.hid (by rw [List.length_append, List.length_singleton]; omega)
                rw [HR.out.1] at d1
                have hr1 : r ≤ 1000000 := by have := HR.out.1; omega
                have d1' : W.cell? ⟨V.heap.size + 1, 0, none⟩ = some (.int .i64 ((r : Int) + 1)) := d1
                clear hT hd d1 hle hlt2
                gi_wp2
                exact ⟨KeepsOthers.setCell _ _ _, HKS.out, HTT.out, HLE.out, HN.out⟩
              · have he : pre.length = dgs j K i := by omega
                have HT := Lib.hid hT
                have HBX := Lib.hid ((hT.block qb (by omega) (by omega)).trans HBOX.out)
                have e1 := (cell_of_box_l HBX.out).1
                have e2 := (cell_of_box_l ((hT.block V.heap.size (by omega) (by omega)).trans HBI.out)).1
                have HO2 : Hid (W.rowIs pb 3 j (picked j K i)) := Lib.hid (HOUT.out.of_block (hT.block pb (by omega) (by omega)))
                obtain ⟨v0, e3⟩ : ∃ v0, W.cell? ⟨pb, i, none⟩ = some v0 := ⟨_, HO2.out.cell hlt⟩
                have e4 := HO2.out.frozen i
                have HGD : Hid ((pre ++ [y]).getD (dgs j K i) 0 = y) := Lib.hid (by rw [← he]; simp [List.getD])
                have HLE : Hid ((pre ++ [y]).length = dgs j K i + 1) := Lib.hid (by rw [List.length_append, List.length_singleton]; omega)
                have hz0 : dgs j K i - pre.length = 0 := by omega
                rw [hz0] at d1
                clear hz0 he hle hd hT hlt2
                gi_wp2
                refine ⟨KeepsOthers.setCell _ _ _, rfl, HLE.out, (HT.out.mono fun q hq => .inl hq).set ⟨pb, i, none⟩ _ (.inr rfl), (HO2.out.set i _).congr fun q hq => ?_⟩
                by_cases hqi : q = i
                · rw [if_pos hqi, if_pos hqi, HGD.out]
                · rw [if_neg hqi, if_neg hqi]
            case done =>
              rintro D ys W hD rfl ⟨_, hle, _⟩ _
              have := HLL.out
              omega
            case stop =>
              rintro D c pre W hD hpre ⟨rfl, hlen, hT, hrow⟩ hK'
              have HXE : Hid (pre.getD (dgs j K i) 0 = (uns j K j).getD i 0) := Lib.hid (by rw [HUA.out]; exact prefix_getD hpre (by omega))
              obtain ⟨x, HX⟩ : ∃ x : Nat, Hid ((uns j K j).getD i 0 = (x : Int) ∧ x < j) := ⟨((uns j K j).getD i 0).toNat, Lib.hid (by
                have := (uns_prm K hm8).at_ (i := i) (by rw [uns_length]; exact hlt)
                rw [uns_length] at this
                omega)⟩
              have hxj := HX.out.2
              have HU1 : Hid (uns j K (i + 1) = uns j K i ++ [(x : Int)]) := Lib.hid (by rw [uns, ← HUA.out, HX.out.1])
              have HBX := Lib.hid ((hT.block qb (by omega) (by have := HI.out.npq; omega)).trans HBOX.out)
              have e1 := (cell_of_box_l HBX.out).1
              have e2 := (cell_of_box_l ((hT.block V.heap.size (by omega) (by omega)).trans HBI.out)).1
              have e3 : W.cell? ⟨pb, i, none⟩ = some (.int .i64 (x : Int)) := by rw [hrow.cell hlt, if_pos rfl, HXE.out, HX.out.1]
              have HR : Hid (W.rowIs s 65 8 (sn (uns j K i))) := Lib.hid ((HI.out.row.of_block (bV.block s hsV)).of_block (hT.block s (by omega) (by have := HI.out.nsp; omega)))
              have HG : Hid (W.rowIs g 3 j (fun q => .int .i64 (dgs j K q : Nat))) := Lib.hid ((HI.out.dig.of_block (bV.block g HI.out.dig.lt)).of_block (hT.block g (by have := HI.out.dig.lt; omega) (by have := HI.out.ngp; have := HI.out.dig.lt; omega)))
              have HPR : Hid (W.rowIs pb 3 j (picked j K (i + 1))) := Lib.hid (hrow.congr fun q hq => by
                by_cases hqi : q = i
                · subst hqi
                  rw [if_pos rfl, HXE.out]
                  unfold picked
                  rw [if_pos (by omega)]
                · rw [if_neg hqi]
                  unfold picked
                  by_cases h2 : q < i
                  · rw [if_pos h2, if_pos (by omega)]
                  · rw [if_neg h2, if_neg (by omega)])
              obtain ⟨v0, e4⟩ : ∃ v0, W.cell? ⟨s, x, none⟩ = some v0 := ⟨_, HR.out.cell (by omega)⟩
              have e5 := HR.out.frozen x
              have HMK : Hid (∀ E ∈ D :: Ds, w.heap.size ≤ E ∧ E ≠ s ∧ W.heap[E]? = some (.deferred (some []))) := Lib.hid (fun E hE => by
                rcases List.mem_cons.1 hE with rfl | hE
                · exact ⟨by omega, by omega, hK'⟩
                · obtain ⟨h1, h2⟩ := HI.out.marks E hE
                  have h3 := (Array.getElem?_eq_some_iff.1 h2).1
                  refine ⟨h1, fun e => ?_, ((hT.block E (by omega) (fun h => ?_)).trans (bV.block E h3)).trans h2⟩
                  · obtain ⟨cs, hcs, _⟩ := HI.out.row
                    rw [← e, h2] at hcs
                    cases hcs
                  · rcases h with h | h
                    · omega
                    · obtain ⟨cs, hcs, _⟩ := HI.out.out
                      rw [← h, h2] at hcs
                      cases hcs)
              have HND : Hid ((D :: Ds).Nodup) := Lib.hid (List.nodup_cons.2 ⟨fun hm => by have := (Array.getElem?_eq_some_iff.1 (HI.out.marks D hm).2).1; omega, HI.out.nodup⟩)
              have HBW : Hid (Below w.heap.size w W) := Lib.hid (HI.out.bl.trans ((bV.mono HI.out.bl.size).trans (hT.below (fun q hq => by have := HI.out.pbb; omega) (by omega))))
              clear hT hrow hK' hst hK bV bd bi
              gi_wp2
              refine ⟨⟨i + 1, D :: Ds, _, _, _, _, _, _, _, _, _, _, _, _, _, _, _, _, _, _, _, _, _, _, _, _, _, _, _, _, _, _, _, _, _, _, _, _, _, _, _, _, _, _, _, _, _, _, _, _, _, _, _, _, _, _, _, _, _, _, _, _, _, _, by omega, rfl, ?_⟩, ?_⟩
              · refine ⟨(HR.out.set x _).congr (fun q hq => ?_), HG.out.setOther (a := ⟨s, x, none⟩) HI.out.nsg.symm _, HPR.out.setOther (a := ⟨s, x, none⟩) HI.out.nsp.symm _, (Below.heap_setCell W _ _ qb HI.out.nsq.symm).trans HBX.out, HI.out.sb, HI.out.gb, HI.out.pbb, HI.out.qbb, HI.out.nsg, HI.out.nsp, HI.out.nsq, HI.out.ngp, HI.out.npq, HBW.out.setCell HI.out.sb _, fun E hE => ?_, HND.out⟩
                · rw [HU1.out]
                  by_cases hqx : q = x
                  · subst hqx; simp [sn]
                  · simp only [if_neg hqx, sn]
                    congr 1
                    simp
                    omega
                · obtain ⟨h1, h2, h3⟩ := HMK.out E hE
                  exact ⟨h1, (Below.heap_setCell W _ _ E h2).trans h3⟩
              · simp [intOf]; omega
          · obtain rfl : i = j := by omega
            have e1 := (cell_of_box_l HI.out.box).1
            gi_wp2_with fail
            refine leaves_marks (fun V => V.rowIs pb 3 i (picked i K i) ∧ Below w.heap.size w V) (fun V _ => results_tmp rfl _ _ V) (fun V h => RowP.made (by rw [HE.out, uns_length]) (by omega) h.1 (fun q hq => by rw [HE.out, picked, if_pos hq]) h.2) Ds V HI.out.nodup (fun E hE => (HI.out.marks E hE).2) (fun E hE V h hj => ⟨hj.1.of_block (World.putObj_heap_other (fun e => ?_)), (hj.2.trans (belowK_b (w := w) (Nat.le_refl _) _ E _ (.deferred none) (HI.out.marks E hE).1 h rfl rfl))⟩) ⟨HI.out.out, HI.out.bl⟩
            obtain ⟨cs, hcs, _⟩ := hj.1
            rw [e, h] at hcs
            cases hcs
      · have hz : 1 ≤ K / fct j := (Nat.le_div_iff_mul_le (fct_pos j)).2 (by omega)
        have HE : Hid (unF j K = []) := Lib.hid (by unfold unF; rw [if_neg]; simp; omega)
        generalize K / fct j = X at *
        have hz2 : 0 < (X : Int) := by omega
        clear hv hlt hf
        gi_wp2
        refine ⟨_, results_tmp rfl _ _ _, ?_⟩
        exact RowP.nil HE.out HB.out

set_option maxHeartbeats 1000000 in
theorem unrank_no (n k : Int) (w : World) (h : ¬ (0 ≤ n ∧ n ≤ 8 ∧ 0 ≤ k)) :
    Calls Try.prog 38 #[.int .i64 n, .int .i64 k] w (RowP w (unF n k)) := by
  have HE : Hid (unF n k = []) := Lib.hid (by unfold unF; rw [if_neg (fun g => h ⟨g.1, g.2.1, g.2.2.1⟩)])
  by_cases h8 : 0 ≤ n ∧ n ≤ 8
  · have hk : k < 0 := by omega
    have hd : decide (0 ≤ n ∧ n ≤ 8) = true := decide_eq_true h8
    have HD := Lib.hid hd
    clear h h8 hd
    refine (callsIn_wide (n := 5)).1 ?_
    refine callsIn_of_wp_marks Try.func38 rfl trivial ?_ rfl
    simp only [Try.ntmps38, List.size_toArray, List.length_cons, List.length_nil, Nat.reduceAdd, Nat.reduceSub, Array.replicate_succ, Array.replicate_zero, List.push_toArray, List.append_toArray, List.nil_append, List.cons_append]
    gi_wp2_with fail
    refine ⟨trivial, ?_⟩
    refine (callsIn_wide.2 (isCount_any n w)).mono ?_
    rintro e w' ⟨rfl, rfl⟩
    rw [HD.out]
    gi_wp2_with fail
    refine ⟨_, results_tmp rfl _ _ _, ?_⟩
    exact RowP.nil HE.out (Below.refl _ _)
  · have hd : decide (0 ≤ n ∧ n ≤ 8) = false := decide_eq_false h8
    have HD := Lib.hid hd
    clear h h8 hd
    refine (callsIn_wide (n := 5)).1 ?_
    refine callsIn_of_wp_marks Try.func38 rfl trivial ?_ rfl
    simp only [Try.ntmps38, List.size_toArray, List.length_cons, List.length_nil, Nat.reduceAdd, Nat.reduceSub, Array.replicate_succ, Array.replicate_zero, List.push_toArray, List.append_toArray, List.nil_append, List.cons_append]
    gi_wp2_with fail
    refine ⟨trivial, ?_⟩
    refine (callsIn_wide.2 (isCount_any n w)).mono ?_
    rintro e w' ⟨rfl, rfl⟩
    rw [HD.out]
    gi_wp2_with fail
    refine ⟨_, results_tmp rfl _ _ _, ?_⟩
    exact RowP.nil HE.out (Below.refl _ _)
theorem unrank_any (n k : Int) (w : World) (hk : k ≤ 9223372036854775807) : Calls Try.prog 38 #[.int .i64 n, .int .i64 k] w (RowP w (unF n k)) := by
  by_cases h : 0 ≤ n ∧ n ≤ 8 ∧ 0 ≤ k
  · obtain ⟨m, rfl⟩ : ∃ m : Nat, n = (m : Int) := ⟨n.toNat, by omega⟩
    obtain ⟨K, rfl⟩ : ∃ K : Nat, k = (K : Int) := ⟨k.toNat, by omega⟩
    exact unrank_yes m K w (by omega) (by omega)
  · exact unrank_no n k w h
end Go.Proofs.Ytkaddfbnlkmehaa
