/- The law GraphTurns: any graph turned about, and made total. -/
import Derived.Test.YtjgifbcjokeigaaTurnsPure
import Derived.Test.YtjgifbcjokeigaaTurnF
import Derived.Test.YtjgifbcjokeigaaTotalF
import Derived.Test.YtjgifbcjokeigaaRefBack
namespace Go.Proofs.Ytjgifbcjokeigaa.graphTurns
open Go.ChangeShapes Go.WideShapes Go.ChangeAt Go.RowKit Go.Shelf

/-- What stands when both graphs are kept. -/
structure Kept (w2 : World) (G : Gr) (n1 n n3 Z3 Z4 : Nat) (T1 : Option Addr) (t1 : Nat) (T2 : Option Addr) (t2 : Nat) (T3 : Option Addr) (t3 : Nat) (U1 : Option Addr) (m1 : Nat) (U2 : Option Addr) (m2 : Nat) (U3 : Option Addr) (m3 : Nat) (w' : World) : Prop where
  z3 : w'.heap[Z3]? = some (.cells #[.slice T1 n1 t1, .slice T2 n t2, .slice T3 n3 t3] 26 (0, 0))
  z4 : w'.heap[Z4]? = some (.cells #[.slice U1 n1 m1, .slice U2 n m2, .slice U3 n3 m3] 26 (0, 0))
  t : GV w' (.agg #[.slice T1 n1 t1, .slice T2 n t2, .slice T3 n3 t3]) (turnG G)
  u : GV w' (.agg #[.slice U1 n1 m1, .slice U2 n m2, .slice U3 n3 m3]) (totG G)
  below : Below w2.heap.size w2 w'
/-- A graph of new blocks, its lengths as letters. -/
def NewP (w : World) (n1 n n3 : Nat) (G : Gr) (e : Ending) (w' : World) : Prop := ∃ T1 t1 T2 t2 T3 t3 E, e = .returned (.agg #[.slice T1 n1 t1, .slice T2 n t2, .slice T3 n3 t3]) ∧ E ≤ w'.heap.size ∧ GVF w.heap.size E w' (.agg #[.slice T1 n1 t1, .slice T2 n t2, .slice T3 n3 t3]) G ∧ Below w.heap.size w w'
theorem newP_of {w : World} {n1 n n3 : Nat} {G : Gr} (h1 : G.init.length = n1) (h2 : G.rows.length = n) (h3 : G.labels.length = n3) {e : Ending} {w' : World} (h : GPF w G e w') : NewP w n1 n n3 G e w' := by
  obtain ⟨v, rfl, ⟨E, hE, hf⟩, hb⟩ := h
  obtain ⟨A1, c1, A2, c2, A3, c3, rfl, _⟩ := id hf
  rw [h1, h2, h3] at hf ⊢
  exact ⟨A1, c1, A2, c2, A3, c3, E, rfl, hE, hf, hb⟩
theorem turn_n {w : World} {v : Value} {G : Gr} {n1 n n3 : Nat} (hv : GV w v G) (h1 : G.init.length = n1) (h2 : G.rows.length = n) (h3 : G.labels.length = n3) (hl : n ≤ 200 ∧ (leadTo G.rows n).length ≤ 1000000) (hi : G.init.length ≤ 1000000) (hl3 : G.labels.length ≤ 1000000) : Calls Try.prog 26 #[v] w (NewP w n1 n n3 (turnG G)) := by
  subst h1 h2 h3
  exact (turn_f hv hi (by omega) hl.2 hl3).mono (fun e w' h => newP_of rfl (turnR_len _) rfl h)
theorem total_n {w : World} {v : Value} {G : Gr} {n1 n n3 : Nat} (hv : GV w v G) (h1 : G.init.length = n1) (h2 : G.rows.length = n) (h3 : G.labels.length = n3) (hl : n ≤ 200 ∧ (leadTo G.rows n).length ≤ 1000000) (hi : G.init.length ≤ 1000000) (hl3 : G.labels.length ≤ 1000000) : Calls Try.prog 27 #[v] w (NewP w n1 n n3 (totG G)) := by
  subst h1 h2 h3
  exact (total_f hv hi (by omega) hl.2 hl3).mono (fun e w' h => newP_of rfl (totR_len _) rfl h)
theorem refTotal_of {w : World} {v : Value} {G : Gr} (hv : GV w v G) (hn : G.rows.length ≤ 1000) (hrow : ∀ i, (G.rows.getD i []).length ≤ 1000) (hl1 : G.init.length ≤ 1000000) (hl3 : G.labels.length ≤ 1000000) : Calls Try.prog 29 #[v] w (GP w (totG G)) := by
  obtain ⟨A1, c1, A2, c2, A3, c3, rfl, ⟨a1, b1, d1⟩, ⟨a2, b2, d2⟩, ⟨a3, b3, d3⟩⟩ := hv
  exact refTotal_any A1 A2 A3 _ _ _ c1 c2 c3 G.init G.labels G.rows w rfl rfl rfl d1 d2 d3 hl1 hn hrow hl3

set_option maxRecDepth 20000 in
set_option maxHeartbeats 8000000 in
theorem walk (v0 : Value) (w : World) (G : Gr) (g0 : GV w v0 G) : Calls Try.prog 6 #[v0] w (LawPost w) := by
  obtain ⟨A1, c1, A2, c2, A3, c3, rfl, hGA⟩ := id g0
  clear hGA
  obtain ⟨n1, HN1⟩ : ∃ n, Hid (G.init.length = n) := ⟨_, Lib.hid rfl⟩
  obtain ⟨n, HN⟩ : ∃ n, Hid (G.rows.length = n) := ⟨_, Lib.hid rfl⟩
  obtain ⟨n3, HN3⟩ : ∃ n, Hid (G.labels.length = n) := ⟨_, Lib.hid rfl⟩
  have HGV0 := Lib.hid g0
  rw [HN1.out, HN.out, HN3.out] at HGV0 ⊢
  obtain ⟨y0, HY0⟩ : ∃ y, Hid (heavyB G = y) := ⟨_, Lib.hid rfl⟩
  clear g0
  go_enter Try.func6, Try.ntmps6
  go_wp2_with fail
  have hbx := box3 w (.slice A1 n1 c1) (.slice A2 n c2) (.slice A3 n3 c3) 26
  have hB2 := below1 w (.cells #[.slice A1 n1 c1, .slice A2 n c2, .slice A3 n3 c3] 26)
  generalize (w.alloc (.cells #[.slice A1 n1 c1, .slice A2 n c2, .slice A3 n3 c3] 26)) = w2 at *
  have HB2 := Lib.hid hB2
  have HBX2 : Hid (B3 w2 w.heap.size (.slice A1 n1 c1) (.slice A2 n c2) (.slice A3 n3 c3)) := Lib.hid hbx
  clear hB2 hbx
  refine (heavy_any (HGV0.out.below HB2.out)).mono ?_
  rw [HY0.out]
  rintro e w3 ⟨rfl, hb3⟩
  have HB3 : Hid (Below w.heap.size w w3) := Lib.hid (HB2.out.trans (hb3.mono HB2.out.size))
  have HBX3 := Lib.hid (HBX2.out.below hb3)
  clear hb3 HBX2 HB2
  cases y0 with
  | true =>
    go_wp2_with fail
    refine (awake_any _).mono ?_
    rintro e w4 ⟨rfl, hb4⟩
    go_wp2
    go_ret
    exact ⟨rfl, HB3.out.trans (hb4.mono HB3.out.size)⟩
  | false =>
  obtain ⟨hn200, hi200, hl400, hr50⟩ := heavy_not HY0.out
  have HROW : Hid (∀ i, (G.rows.getD i []).length ≤ 50) := Lib.hid (fun i => by
    by_cases hi : i < G.rows.length
    · have e : G.rows.getD i [] = G.rows[i] := by simp [List.getD, hi]
      rw [e]; exact hr50 _ (List.getElem_mem hi)
    · have e : G.rows.getD i [] = [] := by simp [List.getD, List.getElem?_eq_none (show G.rows.length ≤ i by omega)]
      rw [e]; exact Nat.zero_le _)
  have HI : Hid (G.init.length ≤ 1000000) := Lib.hid (by omega)
  have HL : Hid (G.labels.length ≤ 1000000) := Lib.hid (by omega)
  rw [HN.out] at hn200
  have HLD : Hid (n ≤ 200 ∧ (leadTo G.rows n).length ≤ 1000000) := Lib.hid (by
    have h1 := leadTo_len HROW.out n
    have h2 : n * 50 ≤ 200 * 50 := Nat.mul_le_mul_right _ hn200
    exact ⟨hn200, by omega⟩)
  have HLT2 : Hid ((leadTo (totG G).rows (totG G).rows.length).length ≤ 1000000) := Lib.hid (by
    have h1 := leadTo_len (totL_len (rows := G.rows) (by omega : 1 ≤ 50) HROW.out) (totR G.rows).length
    rw [totR_len, HN.out] at h1
    have h2 : n * 50 ≤ 200 * 50 := Nat.mul_le_mul_right _ hn200
    show (leadTo (totR G.rows) (totR G.rows).length).length ≤ _
    rw [totR_len, HN.out]
    omega)
  clear hr50 hi200 hl400
  obtain ⟨q0, q1, q2⟩ := HBX3.out
  go_upto_region 3 with (fail)
  clear q0 q1 q2
  generalize hw9 : w3 = w2 at *
  clear hw9
  have HB2 := HB3
  have HGV : Hid (∀ W, Below w2.heap.size w2 W → GV W (.agg #[.slice A1 n1 c1, .slice A2 n c2, .slice A3 n3 c3]) G) := Lib.hid (fun W h => HGV0.out.below (HB2.out.trans (h.mono HB2.out.size)))
  have HV : Hid (∀ W, Below w2.heap.size w2 W → W.cell? ⟨w.heap.size, 0, none⟩ = some (.slice A1 n1 c1) ∧ W.cell? ⟨w.heap.size, 1, none⟩ = some (.slice A2 n c2) ∧ W.cell? ⟨w.heap.size, 2, none⟩ = some (.slice A3 n3 c3)) := Lib.hid (fun W h => HBX3.out.below h)
  go_cut [3, 4] from 9 (fun v3 v4 w' => ∃ (Z3 Z4 : Nat) (T1 : Option Addr) (t1 : Nat) (T2 : Option Addr) (t2 : Nat) (T3 : Option Addr) (t3 : Nat) (U1 : Option Addr) (m1 : Nat) (U2 : Option Addr) (m2 : Nat) (U3 : Option Addr) (m3 : Nat), v3 = .pointer (some ⟨Z3, 0, none⟩) ∧ v4 = .pointer (some ⟨Z4, 0, none⟩) ∧ Hid (Kept w2 G n1 n n3 Z3 Z4 T1 t1 T2 t2 T3 t3 U1 m1 U2 m2 U3 m3 w'))
  case first =>
    have HKEEP : Hid (Below w2.heap.size w2 w2.drew) := Lib.hid (Below.refl _ _).drew
    refine wp_region_held_drew (S := (fun W => W.cell? ⟨w.heap.size, 0, none⟩ = some (.slice A1 n1 c1) ∧ W.cell? ⟨w.heap.size, 1, none⟩ = some (.slice A2 n c2) ∧ W.cell? ⟨w.heap.size, 2, none⟩ = some (.slice A3 n3 c3))) (by kernel_rfl) (HV.out _ HKEEP.out) ?_
    intro hS0
    have HS0 := Lib.hid hS0
    clear hS0
    have hsz := HKEEP.out.size
    generalize w2.drew = u0 at *
    simp only [Array.replicate, List.replicate]
    refine wpAnyH_take (i := 0) (oi := ⟨some 9, _, _, _, _, _⟩) (v := .agg #[.slice A1 n1 c1, .slice A2 n c2, .slice A3 n3 c3]) rfl (by kernel_rfl) (by kernel_rfl) (by kernel_rfl) (fun _ _ _ h => h) (Or.inl ⟨by kernel_rfl, fun w9 hS => ?_⟩) HS0.out ?_
    · obtain ⟨s0, s1, s2⟩ := hS
      go_simp
    try simp only [Act.put, List.setIfInBounds_toArray, List.set_cons_zero, List.set_cons_succ]
    refine wpAnyH_take (i := 2) (oi := ⟨some 11, _, _, _, _, _⟩) (v := .agg #[.slice A1 n1 c1, .slice A2 n c2, .slice A3 n3 c3]) rfl (by kernel_rfl) (by kernel_rfl) (by kernel_rfl) (fun _ _ _ h => h) (Or.inl ⟨by kernel_rfl, fun w9 hS => ?_⟩) HS0.out ?_
    · obtain ⟨s0, s1, s2⟩ := hS
      go_simp
    try simp only [Act.put, List.setIfInBounds_toArray, List.set_cons_zero, List.set_cons_succ]
    refine wpAnyH_ready (rs := [1, 4, 5]) (by kernel_rfl) (by simp) ?_
    refine AllReadyH.cons (o := ⟨some 10, _, _, _, _, _⟩) rfl (fun K hK => ?_) (AllReadyH.cons (o := ⟨some 3, _, _, _, _, _⟩) rfl (fun K hK => ?_) (AllReadyH.cons (o := ⟨some 4, _, _, _, _, _⟩) rfl (fun K hK => ?_) AllReadyH.nil))
    · rw [if_pos (by kernel_rfl)]
      go_simp
      go_at_call 26
      refine (turn_n (HGV.out _ HKEEP.out) HN1.out HN.out HN3.out HLD.out HI.out HL.out).mono ?_
      rintro e u1 ⟨T1, t1, T2, t2, T3, t3, E1, rfl, hE1, hf, hb⟩
      have hsz := hb.size
      have HKEEP := Lib.hid (HKEEP.out.trans (hb.mono HKEEP.out.size))
      have G1 := Lib.hid hf
      have HS1 : Hid _ := Lib.hid (HV.out _ HKEEP.out)
      refine hK.out _ _ HS1.out (fun _ => ?_)
      clear hK K hb hf
      try simp only [Act.put, List.setIfInBounds_toArray, List.set_cons_zero, List.set_cons_succ]
      refine wpAnyH_ready (rs := [3, 4, 5]) (by kernel_rfl) (by simp) ?_
      refine AllReadyH.cons (o := ⟨some 12, _, _, _, _, _⟩) rfl (fun K hK => ?_) (AllReadyH.cons (o := ⟨some 3, _, _, _, _, _⟩) rfl (fun K hK => ?_) (AllReadyH.cons (o := ⟨some 4, _, _, _, _, _⟩) rfl (fun K hK => ?_) AllReadyH.nil))
      · rw [if_pos (by kernel_rfl)]
        go_simp
        go_at_call 27
        refine (total_n (HGV.out _ HKEEP.out) HN1.out HN.out HN3.out HLD.out HI.out HL.out).mono ?_
        rintro e u2 ⟨U1, m1, U2, m2, U3, m3, E3, rfl, hE3, hf, hb⟩
        have hsz := hb.size
        have HKEEP := Lib.hid (HKEEP.out.trans (hb.mono HKEEP.out.size))
        have G1 := Lib.hid (G1.out.below (by omega) hb)
        have G3 := Lib.hid hf
        have HS2 : Hid _ := Lib.hid (HV.out _ HKEEP.out)
        refine hK.out _ _ HS2.out (fun _ => ?_)
        clear hK K hb hf
        try simp only [Act.put, List.setIfInBounds_toArray, List.set_cons_zero, List.set_cons_succ]
        refine wpAnyH_ready (rs := [4, 5]) (by kernel_rfl) (by simp) ?_
        refine AllReadyH.cons (o := ⟨some 3, _, _, _, _, _⟩) rfl (fun K hK => ?_) (AllReadyH.cons (o := ⟨some 4, _, _, _, _, _⟩) rfl (fun K hK => ?_) AllReadyH.nil)
        · rw [if_pos (by kernel_rfl)]
          go_simp
          have hB : Below u2.heap.size u2 (u2.alloc (.cells #[.slice none 0 0, .slice none 0 0, .slice none 0 0] 26)) := below1 u2 _
          have hF : (u2.alloc (.cells #[.slice none 0 0, .slice none 0 0, .slice none 0 0] 26)).heap[u2.heap.size]? = some (.cells #[.slice none 0 0, .slice none 0 0, .slice none 0 0] 26 (0, 0)) := World.alloc_heap_new u2 _
          have hsz : u2.heap.size + 1 ≤ (u2.alloc (.cells #[.slice none 0 0, .slice none 0 0, .slice none 0 0] 26)).heap.size := by simp
          have HKEEP := Lib.hid (HKEEP.out.trans (hB.mono HKEEP.out.size))
          have G1 := Lib.hid (G1.out.below (by omega) hB)
          have G3 := Lib.hid (G3.out.below (by omega) hB)
          have F4 := Lib.hid hF
          have HS3 : Hid _ := Lib.hid (HV.out _ HKEEP.out)
          refine hK.out _ _ HS3.out (fun _ => ?_)
          clear hK K hB hF
          try dsimp only
          generalize (u2.alloc (.cells #[.slice none 0 0, .slice none 0 0, .slice none 0 0] 26)) = u3 at *
          refine wpAnyH_ready (rs := [5]) (by kernel_rfl) (by simp) ?_
          refine AllReadyH.cons (o := ⟨some 4, _, _, _, _, _⟩) rfl (fun K hK => ?_) AllReadyH.nil
          rw [if_pos (by kernel_rfl)]
          go_simp
          have hB : Below u3.heap.size u3 (u3.alloc (.cells #[.slice none 0 0, .slice none 0 0, .slice none 0 0] 26)) := below1 u3 _
          have hF : (u3.alloc (.cells #[.slice none 0 0, .slice none 0 0, .slice none 0 0] 26)).heap[u3.heap.size]? = some (.cells #[.slice none 0 0, .slice none 0 0, .slice none 0 0] 26 (0, 0)) := World.alloc_heap_new u3 _
          have hsz : u3.heap.size + 1 ≤ (u3.alloc (.cells #[.slice none 0 0, .slice none 0 0, .slice none 0 0] 26)).heap.size := by simp
          have N4_5 : Hid (u2.heap.size ≠ u3.heap.size) := Lib.hid (by have := (Array.getElem?_eq_some_iff.1 F4.out).1; omega)
          have HKEEP := Lib.hid (HKEEP.out.trans (hB.mono HKEEP.out.size))
          have F4 := Lib.hid ((hB.block _ (Array.getElem?_eq_some_iff.1 F4.out).1).trans F4.out)
          have G1 := Lib.hid (G1.out.below (by omega) hB)
          have G3 := Lib.hid (G3.out.below (by omega) hB)
          have F5 := Lib.hid hF
          have HS4 : Hid _ := Lib.hid (HV.out _ HKEEP.out)
          refine hK.out _ _ HS4.out (fun _ => ?_)
          clear hK K hB hF
          try dsimp only
          generalize (u3.alloc (.cells #[.slice none 0 0, .slice none 0 0, .slice none 0 0] 26)) = u4 at *
          obtain ⟨z0, z1, z2, f0⟩ := cells3 F4.out
          have f1 := f0 1
          have f2 := f0 2
          have f0 := f0 0
          refine wpAnyH_ready (rs := [6]) (by kernel_rfl) (by simp) ?_
          refine AllReadyH.cons (o := ⟨none, _, _, _, _, _⟩) rfl (fun K hK => ?_) AllReadyH.nil
          go_simp
          have hX := set3_all (v0 := .slice T1 n1 t1) (v1 := .slice T2 n t2) (v2 := .slice T3 n3 t3) F4.out
          have hblk : ∀ q, q ≠ u2.heap.size → (((u4.setCell ⟨u2.heap.size, 0, none⟩ (.slice T1 n1 t1)).setCell ⟨u2.heap.size, 1, none⟩ (.slice T2 n t2)).setCell ⟨u2.heap.size, 2, none⟩ (.slice T3 n3 t3)).heap[q]? = u4.heap[q]? := fun q hq => (Below.heap_setCell _ _ _ _ hq).trans ((Below.heap_setCell _ _ _ _ hq).trans (Below.heap_setCell _ _ _ _ hq))
          have hzw : w2.heap.size ≤ u2.heap.size := by omega
          have HKEEP : Hid (Below w2.heap.size w2 (((u4.setCell ⟨u2.heap.size, 0, none⟩ (.slice T1 n1 t1)).setCell ⟨u2.heap.size, 1, none⟩ (.slice T2 n t2)).setCell ⟨u2.heap.size, 2, none⟩ (.slice T3 n3 t3))) := Lib.hid (((HKEEP.out.setCell (show w2.heap.size ≤ (⟨u2.heap.size, 0, none⟩ : Addr).block from hzw) _).setCell (show w2.heap.size ≤ (⟨u2.heap.size, 1, none⟩ : Addr).block from hzw) _).setCell (show w2.heap.size ≤ (⟨u2.heap.size, 2, none⟩ : Addr).block from hzw) _)
          have F4 := Lib.hid hX
          have F5 := Lib.hid ((hblk _ (by first | exact N5_4.out | exact fun e => N4_5.out e.symm)).trans F5.out)
          have G1 := Lib.hid (G1.out.keep (w' := (((u4.setCell ⟨u2.heap.size, 0, none⟩ (.slice T1 n1 t1)).setCell ⟨u2.heap.size, 1, none⟩ (.slice T2 n t2)).setCell ⟨u2.heap.size, 2, none⟩ (.slice T3 n3 t3))) (by simp) (fun q h1 h2 => hblk q (by omega)))
          have G3 := Lib.hid (G3.out.keep (w' := (((u4.setCell ⟨u2.heap.size, 0, none⟩ (.slice T1 n1 t1)).setCell ⟨u2.heap.size, 1, none⟩ (.slice T2 n t2)).setCell ⟨u2.heap.size, 2, none⟩ (.slice T3 n3 t3))) (by simp) (fun q h1 h2 => hblk q (by omega)))
          refine hK.out _ _ (HV.out _ HKEEP.out) (fun _ => ?_)
          clear hK K z0 z1 z2 f0 f1 f2 hX hblk hzw
          try dsimp only
          generalize (((u4.setCell ⟨u2.heap.size, 0, none⟩ (.slice T1 n1 t1)).setCell ⟨u2.heap.size, 1, none⟩ (.slice T2 n t2)).setCell ⟨u2.heap.size, 2, none⟩ (.slice T3 n3 t3)) = u5 at *
          obtain ⟨z0, z1, z2, f0⟩ := cells3 F5.out
          have f1 := f0 1
          have f2 := f0 2
          have f0 := f0 0
          refine wpAnyH_ready (rs := [7]) (by kernel_rfl) (by simp) ?_
          refine AllReadyH.cons (o := ⟨none, _, _, _, _, _⟩) rfl (fun K hK => ?_) AllReadyH.nil
          go_simp
          have hX := set3_all (v0 := .slice U1 n1 m1) (v1 := .slice U2 n m2) (v2 := .slice U3 n3 m3) F5.out
          have hblk : ∀ q, q ≠ u3.heap.size → (((u5.setCell ⟨u3.heap.size, 0, none⟩ (.slice U1 n1 m1)).setCell ⟨u3.heap.size, 1, none⟩ (.slice U2 n m2)).setCell ⟨u3.heap.size, 2, none⟩ (.slice U3 n3 m3)).heap[q]? = u5.heap[q]? := fun q hq => (Below.heap_setCell _ _ _ _ hq).trans ((Below.heap_setCell _ _ _ _ hq).trans (Below.heap_setCell _ _ _ _ hq))
          have hzw : w2.heap.size ≤ u3.heap.size := by omega
          have HKEEP : Hid (Below w2.heap.size w2 (((u5.setCell ⟨u3.heap.size, 0, none⟩ (.slice U1 n1 m1)).setCell ⟨u3.heap.size, 1, none⟩ (.slice U2 n m2)).setCell ⟨u3.heap.size, 2, none⟩ (.slice U3 n3 m3))) := Lib.hid (((HKEEP.out.setCell (show w2.heap.size ≤ (⟨u3.heap.size, 0, none⟩ : Addr).block from hzw) _).setCell (show w2.heap.size ≤ (⟨u3.heap.size, 1, none⟩ : Addr).block from hzw) _).setCell (show w2.heap.size ≤ (⟨u3.heap.size, 2, none⟩ : Addr).block from hzw) _)
          have F5 := Lib.hid hX
          have F4 := Lib.hid ((hblk _ (by first | exact N4_5.out | exact fun e => N5_4.out e.symm)).trans F4.out)
          have G1 := Lib.hid (G1.out.keep (w' := (((u5.setCell ⟨u3.heap.size, 0, none⟩ (.slice U1 n1 m1)).setCell ⟨u3.heap.size, 1, none⟩ (.slice U2 n m2)).setCell ⟨u3.heap.size, 2, none⟩ (.slice U3 n3 m3))) (by simp) (fun q h1 h2 => hblk q (by omega)))
          have G3 := Lib.hid (G3.out.keep (w' := (((u5.setCell ⟨u3.heap.size, 0, none⟩ (.slice U1 n1 m1)).setCell ⟨u3.heap.size, 1, none⟩ (.slice U2 n m2)).setCell ⟨u3.heap.size, 2, none⟩ (.slice U3 n3 m3))) (by simp) (fun q h1 h2 => hblk q (by omega)))
          refine hK.out _ _ (HV.out _ HKEEP.out) (fun _ => ?_)
          clear hK K z0 z1 z2 f0 f1 f2 hX hblk hzw
          try dsimp only
          generalize (((u5.setCell ⟨u3.heap.size, 0, none⟩ (.slice U1 n1 m1)).setCell ⟨u3.heap.size, 1, none⟩ (.slice U2 n m2)).setCell ⟨u3.heap.size, 2, none⟩ (.slice U3 n3 m3)) = u6 at *
          have HFIN : Hid (Kept w2 G n1 n n3 u2.heap.size u3.heap.size T1 t1 T2 t2 T3 t3 U1 m1 U2 m2 U3 m3 u6) := Lib.hid ⟨F4.out, F5.out, G1.out.gv, G3.out.gv, HKEEP.out⟩
          refine wpAnyH_done (by kernel_rfl) ?_ _
          go_wp2
          go_meet
          case rel => exact ⟨u2.heap.size, u3.heap.size, T1, t1, T2, t2, T3, t3, U1, m1, U2, m2, U3, m3, rfl, rfl, HFIN⟩
        · rw [if_pos (by kernel_rfl)]
          go_simp
          have hB : Below u2.heap.size u2 (u2.alloc (.cells #[.slice none 0 0, .slice none 0 0, .slice none 0 0] 26)) := below1 u2 _
          have hF : (u2.alloc (.cells #[.slice none 0 0, .slice none 0 0, .slice none 0 0] 26)).heap[u2.heap.size]? = some (.cells #[.slice none 0 0, .slice none 0 0, .slice none 0 0] 26 (0, 0)) := World.alloc_heap_new u2 _
          have hsz : u2.heap.size + 1 ≤ (u2.alloc (.cells #[.slice none 0 0, .slice none 0 0, .slice none 0 0] 26)).heap.size := by simp
          have HKEEP := Lib.hid (HKEEP.out.trans (hB.mono HKEEP.out.size))
          have G1 := Lib.hid (G1.out.below (by omega) hB)
          have G3 := Lib.hid (G3.out.below (by omega) hB)
          have F5 := Lib.hid hF
          have HS7 : Hid _ := Lib.hid (HV.out _ HKEEP.out)
          refine hK.out _ _ HS7.out (fun _ => ?_)
          clear hK K hB hF
          try dsimp only
          generalize (u2.alloc (.cells #[.slice none 0 0, .slice none 0 0, .slice none 0 0] 26)) = u7 at *
          refine wpAnyH_ready (rs := [4]) (by kernel_rfl) (by simp) ?_
          refine AllReadyH.cons (o := ⟨some 3, _, _, _, _, _⟩) rfl (fun K hK => ?_) AllReadyH.nil
          rw [if_pos (by kernel_rfl)]
          go_simp
          have hB : Below u7.heap.size u7 (u7.alloc (.cells #[.slice none 0 0, .slice none 0 0, .slice none 0 0] 26)) := below1 u7 _
          have hF : (u7.alloc (.cells #[.slice none 0 0, .slice none 0 0, .slice none 0 0] 26)).heap[u7.heap.size]? = some (.cells #[.slice none 0 0, .slice none 0 0, .slice none 0 0] 26 (0, 0)) := World.alloc_heap_new u7 _
          have hsz : u7.heap.size + 1 ≤ (u7.alloc (.cells #[.slice none 0 0, .slice none 0 0, .slice none 0 0] 26)).heap.size := by simp
          have N5_4 : Hid (u2.heap.size ≠ u7.heap.size) := Lib.hid (by have := (Array.getElem?_eq_some_iff.1 F5.out).1; omega)
          have HKEEP := Lib.hid (HKEEP.out.trans (hB.mono HKEEP.out.size))
          have F5 := Lib.hid ((hB.block _ (Array.getElem?_eq_some_iff.1 F5.out).1).trans F5.out)
          have G1 := Lib.hid (G1.out.below (by omega) hB)
          have G3 := Lib.hid (G3.out.below (by omega) hB)
          have F4 := Lib.hid hF
          have HS8 : Hid _ := Lib.hid (HV.out _ HKEEP.out)
          refine hK.out _ _ HS8.out (fun _ => ?_)
          clear hK K hB hF
          try dsimp only
          generalize (u7.alloc (.cells #[.slice none 0 0, .slice none 0 0, .slice none 0 0] 26)) = u8 at *
          obtain ⟨z0, z1, z2, f0⟩ := cells3 F4.out
          have f1 := f0 1
          have f2 := f0 2
          have f0 := f0 0
          refine wpAnyH_ready (rs := [6]) (by kernel_rfl) (by simp) ?_
          refine AllReadyH.cons (o := ⟨none, _, _, _, _, _⟩) rfl (fun K hK => ?_) AllReadyH.nil
          go_simp
          have hX := set3_all (v0 := .slice T1 n1 t1) (v1 := .slice T2 n t2) (v2 := .slice T3 n3 t3) F4.out
          have hblk : ∀ q, q ≠ u7.heap.size → (((u8.setCell ⟨u7.heap.size, 0, none⟩ (.slice T1 n1 t1)).setCell ⟨u7.heap.size, 1, none⟩ (.slice T2 n t2)).setCell ⟨u7.heap.size, 2, none⟩ (.slice T3 n3 t3)).heap[q]? = u8.heap[q]? := fun q hq => (Below.heap_setCell _ _ _ _ hq).trans ((Below.heap_setCell _ _ _ _ hq).trans (Below.heap_setCell _ _ _ _ hq))
          have hzw : w2.heap.size ≤ u7.heap.size := by omega
          have HKEEP : Hid (Below w2.heap.size w2 (((u8.setCell ⟨u7.heap.size, 0, none⟩ (.slice T1 n1 t1)).setCell ⟨u7.heap.size, 1, none⟩ (.slice T2 n t2)).setCell ⟨u7.heap.size, 2, none⟩ (.slice T3 n3 t3))) := Lib.hid (((HKEEP.out.setCell (show w2.heap.size ≤ (⟨u7.heap.size, 0, none⟩ : Addr).block from hzw) _).setCell (show w2.heap.size ≤ (⟨u7.heap.size, 1, none⟩ : Addr).block from hzw) _).setCell (show w2.heap.size ≤ (⟨u7.heap.size, 2, none⟩ : Addr).block from hzw) _)
          have F4 := Lib.hid hX
          have F5 := Lib.hid ((hblk _ (by first | exact N5_4.out | exact fun e => N4_5.out e.symm)).trans F5.out)
          have G1 := Lib.hid (G1.out.keep (w' := (((u8.setCell ⟨u7.heap.size, 0, none⟩ (.slice T1 n1 t1)).setCell ⟨u7.heap.size, 1, none⟩ (.slice T2 n t2)).setCell ⟨u7.heap.size, 2, none⟩ (.slice T3 n3 t3))) (by simp) (fun q h1 h2 => hblk q (by omega)))
          have G3 := Lib.hid (G3.out.keep (w' := (((u8.setCell ⟨u7.heap.size, 0, none⟩ (.slice T1 n1 t1)).setCell ⟨u7.heap.size, 1, none⟩ (.slice T2 n t2)).setCell ⟨u7.heap.size, 2, none⟩ (.slice T3 n3 t3))) (by simp) (fun q h1 h2 => hblk q (by omega)))
          refine hK.out _ _ (HV.out _ HKEEP.out) (fun _ => ?_)
          clear hK K z0 z1 z2 f0 f1 f2 hX hblk hzw
          try dsimp only
          generalize (((u8.setCell ⟨u7.heap.size, 0, none⟩ (.slice T1 n1 t1)).setCell ⟨u7.heap.size, 1, none⟩ (.slice T2 n t2)).setCell ⟨u7.heap.size, 2, none⟩ (.slice T3 n3 t3)) = u9 at *
          obtain ⟨z0, z1, z2, f0⟩ := cells3 F5.out
          have f1 := f0 1
          have f2 := f0 2
          have f0 := f0 0
          refine wpAnyH_ready (rs := [7]) (by kernel_rfl) (by simp) ?_
          refine AllReadyH.cons (o := ⟨none, _, _, _, _, _⟩) rfl (fun K hK => ?_) AllReadyH.nil
          go_simp
          have hX := set3_all (v0 := .slice U1 n1 m1) (v1 := .slice U2 n m2) (v2 := .slice U3 n3 m3) F5.out
          have hblk : ∀ q, q ≠ u2.heap.size → (((u9.setCell ⟨u2.heap.size, 0, none⟩ (.slice U1 n1 m1)).setCell ⟨u2.heap.size, 1, none⟩ (.slice U2 n m2)).setCell ⟨u2.heap.size, 2, none⟩ (.slice U3 n3 m3)).heap[q]? = u9.heap[q]? := fun q hq => (Below.heap_setCell _ _ _ _ hq).trans ((Below.heap_setCell _ _ _ _ hq).trans (Below.heap_setCell _ _ _ _ hq))
          have hzw : w2.heap.size ≤ u2.heap.size := by omega
          have HKEEP : Hid (Below w2.heap.size w2 (((u9.setCell ⟨u2.heap.size, 0, none⟩ (.slice U1 n1 m1)).setCell ⟨u2.heap.size, 1, none⟩ (.slice U2 n m2)).setCell ⟨u2.heap.size, 2, none⟩ (.slice U3 n3 m3))) := Lib.hid (((HKEEP.out.setCell (show w2.heap.size ≤ (⟨u2.heap.size, 0, none⟩ : Addr).block from hzw) _).setCell (show w2.heap.size ≤ (⟨u2.heap.size, 1, none⟩ : Addr).block from hzw) _).setCell (show w2.heap.size ≤ (⟨u2.heap.size, 2, none⟩ : Addr).block from hzw) _)
          have F5 := Lib.hid hX
          have F4 := Lib.hid ((hblk _ (by first | exact N4_5.out | exact fun e => N5_4.out e.symm)).trans F4.out)
          have G1 := Lib.hid (G1.out.keep (w' := (((u9.setCell ⟨u2.heap.size, 0, none⟩ (.slice U1 n1 m1)).setCell ⟨u2.heap.size, 1, none⟩ (.slice U2 n m2)).setCell ⟨u2.heap.size, 2, none⟩ (.slice U3 n3 m3))) (by simp) (fun q h1 h2 => hblk q (by omega)))
          have G3 := Lib.hid (G3.out.keep (w' := (((u9.setCell ⟨u2.heap.size, 0, none⟩ (.slice U1 n1 m1)).setCell ⟨u2.heap.size, 1, none⟩ (.slice U2 n m2)).setCell ⟨u2.heap.size, 2, none⟩ (.slice U3 n3 m3))) (by simp) (fun q h1 h2 => hblk q (by omega)))
          refine hK.out _ _ (HV.out _ HKEEP.out) (fun _ => ?_)
          clear hK K z0 z1 z2 f0 f1 f2 hX hblk hzw
          try dsimp only
          generalize (((u9.setCell ⟨u2.heap.size, 0, none⟩ (.slice U1 n1 m1)).setCell ⟨u2.heap.size, 1, none⟩ (.slice U2 n m2)).setCell ⟨u2.heap.size, 2, none⟩ (.slice U3 n3 m3)) = u10 at *
          have HFIN : Hid (Kept w2 G n1 n n3 u7.heap.size u2.heap.size T1 t1 T2 t2 T3 t3 U1 m1 U2 m2 U3 m3 u10) := Lib.hid ⟨F4.out, F5.out, G1.out.gv, G3.out.gv, HKEEP.out⟩
          refine wpAnyH_done (by kernel_rfl) ?_ _
          go_wp2
          go_meet
          case rel => exact ⟨u7.heap.size, u2.heap.size, T1, t1, T2, t2, T3, t3, U1, m1, U2, m2, U3, m3, rfl, rfl, HFIN⟩
      · rw [if_pos (by kernel_rfl)]
        go_simp
        have hB : Below u1.heap.size u1 (u1.alloc (.cells #[.slice none 0 0, .slice none 0 0, .slice none 0 0] 26)) := below1 u1 _
        have hF : (u1.alloc (.cells #[.slice none 0 0, .slice none 0 0, .slice none 0 0] 26)).heap[u1.heap.size]? = some (.cells #[.slice none 0 0, .slice none 0 0, .slice none 0 0] 26 (0, 0)) := World.alloc_heap_new u1 _
        have hsz : u1.heap.size + 1 ≤ (u1.alloc (.cells #[.slice none 0 0, .slice none 0 0, .slice none 0 0] 26)).heap.size := by simp
        have HKEEP := Lib.hid (HKEEP.out.trans (hB.mono HKEEP.out.size))
        have G1 := Lib.hid (G1.out.below (by omega) hB)
        have F4 := Lib.hid hF
        have HS11 : Hid _ := Lib.hid (HV.out _ HKEEP.out)
        refine hK.out _ _ HS11.out (fun _ => ?_)
        clear hK K hB hF
        try dsimp only
        generalize (u1.alloc (.cells #[.slice none 0 0, .slice none 0 0, .slice none 0 0] 26)) = u11 at *
        refine wpAnyH_ready (rs := [3, 5]) (by kernel_rfl) (by simp) ?_
        refine AllReadyH.cons (o := ⟨some 12, _, _, _, _, _⟩) rfl (fun K hK => ?_) (AllReadyH.cons (o := ⟨some 4, _, _, _, _, _⟩) rfl (fun K hK => ?_) AllReadyH.nil)
        · rw [if_pos (by kernel_rfl)]
          go_simp
          go_at_call 27
          refine (total_n (HGV.out _ HKEEP.out) HN1.out HN.out HN3.out HLD.out HI.out HL.out).mono ?_
          rintro e u12 ⟨U1, m1, U2, m2, U3, m3, E3, rfl, hE3, hf, hb⟩
          have hsz := hb.size
          have HKEEP := Lib.hid (HKEEP.out.trans (hb.mono HKEEP.out.size))
          have F4 := Lib.hid ((hb.block _ (Array.getElem?_eq_some_iff.1 F4.out).1).trans F4.out)
          have G1 := Lib.hid (G1.out.below (by omega) hb)
          have G3 := Lib.hid hf
          have HS12 : Hid _ := Lib.hid (HV.out _ HKEEP.out)
          refine hK.out _ _ HS12.out (fun _ => ?_)
          clear hK K hb hf
          try simp only [Act.put, List.setIfInBounds_toArray, List.set_cons_zero, List.set_cons_succ]
          refine wpAnyH_ready (rs := [5]) (by kernel_rfl) (by simp) ?_
          refine AllReadyH.cons (o := ⟨some 4, _, _, _, _, _⟩) rfl (fun K hK => ?_) AllReadyH.nil
          rw [if_pos (by kernel_rfl)]
          go_simp
          have hB : Below u12.heap.size u12 (u12.alloc (.cells #[.slice none 0 0, .slice none 0 0, .slice none 0 0] 26)) := below1 u12 _
          have hF : (u12.alloc (.cells #[.slice none 0 0, .slice none 0 0, .slice none 0 0] 26)).heap[u12.heap.size]? = some (.cells #[.slice none 0 0, .slice none 0 0, .slice none 0 0] 26 (0, 0)) := World.alloc_heap_new u12 _
          have hsz : u12.heap.size + 1 ≤ (u12.alloc (.cells #[.slice none 0 0, .slice none 0 0, .slice none 0 0] 26)).heap.size := by simp
          have N4_5 : Hid (u1.heap.size ≠ u12.heap.size) := Lib.hid (by have := (Array.getElem?_eq_some_iff.1 F4.out).1; omega)
          have HKEEP := Lib.hid (HKEEP.out.trans (hB.mono HKEEP.out.size))
          have F4 := Lib.hid ((hB.block _ (Array.getElem?_eq_some_iff.1 F4.out).1).trans F4.out)
          have G1 := Lib.hid (G1.out.below (by omega) hB)
          have G3 := Lib.hid (G3.out.below (by omega) hB)
          have F5 := Lib.hid hF
          have HS13 : Hid _ := Lib.hid (HV.out _ HKEEP.out)
          refine hK.out _ _ HS13.out (fun _ => ?_)
          clear hK K hB hF
          try dsimp only
          generalize (u12.alloc (.cells #[.slice none 0 0, .slice none 0 0, .slice none 0 0] 26)) = u13 at *
          obtain ⟨z0, z1, z2, f0⟩ := cells3 F4.out
          have f1 := f0 1
          have f2 := f0 2
          have f0 := f0 0
          refine wpAnyH_ready (rs := [6]) (by kernel_rfl) (by simp) ?_
          refine AllReadyH.cons (o := ⟨none, _, _, _, _, _⟩) rfl (fun K hK => ?_) AllReadyH.nil
          go_simp
          have hX := set3_all (v0 := .slice T1 n1 t1) (v1 := .slice T2 n t2) (v2 := .slice T3 n3 t3) F4.out
          have hblk : ∀ q, q ≠ u1.heap.size → (((u13.setCell ⟨u1.heap.size, 0, none⟩ (.slice T1 n1 t1)).setCell ⟨u1.heap.size, 1, none⟩ (.slice T2 n t2)).setCell ⟨u1.heap.size, 2, none⟩ (.slice T3 n3 t3)).heap[q]? = u13.heap[q]? := fun q hq => (Below.heap_setCell _ _ _ _ hq).trans ((Below.heap_setCell _ _ _ _ hq).trans (Below.heap_setCell _ _ _ _ hq))
          have hzw : w2.heap.size ≤ u1.heap.size := by omega
          have HKEEP : Hid (Below w2.heap.size w2 (((u13.setCell ⟨u1.heap.size, 0, none⟩ (.slice T1 n1 t1)).setCell ⟨u1.heap.size, 1, none⟩ (.slice T2 n t2)).setCell ⟨u1.heap.size, 2, none⟩ (.slice T3 n3 t3))) := Lib.hid (((HKEEP.out.setCell (show w2.heap.size ≤ (⟨u1.heap.size, 0, none⟩ : Addr).block from hzw) _).setCell (show w2.heap.size ≤ (⟨u1.heap.size, 1, none⟩ : Addr).block from hzw) _).setCell (show w2.heap.size ≤ (⟨u1.heap.size, 2, none⟩ : Addr).block from hzw) _)
          have F4 := Lib.hid hX
          have F5 := Lib.hid ((hblk _ (by first | exact N5_4.out | exact fun e => N4_5.out e.symm)).trans F5.out)
          have G1 := Lib.hid (G1.out.keep (w' := (((u13.setCell ⟨u1.heap.size, 0, none⟩ (.slice T1 n1 t1)).setCell ⟨u1.heap.size, 1, none⟩ (.slice T2 n t2)).setCell ⟨u1.heap.size, 2, none⟩ (.slice T3 n3 t3))) (by simp) (fun q h1 h2 => hblk q (by omega)))
          have G3 := Lib.hid (G3.out.keep (w' := (((u13.setCell ⟨u1.heap.size, 0, none⟩ (.slice T1 n1 t1)).setCell ⟨u1.heap.size, 1, none⟩ (.slice T2 n t2)).setCell ⟨u1.heap.size, 2, none⟩ (.slice T3 n3 t3))) (by simp) (fun q h1 h2 => hblk q (by omega)))
          refine hK.out _ _ (HV.out _ HKEEP.out) (fun _ => ?_)
          clear hK K z0 z1 z2 f0 f1 f2 hX hblk hzw
          try dsimp only
          generalize (((u13.setCell ⟨u1.heap.size, 0, none⟩ (.slice T1 n1 t1)).setCell ⟨u1.heap.size, 1, none⟩ (.slice T2 n t2)).setCell ⟨u1.heap.size, 2, none⟩ (.slice T3 n3 t3)) = u14 at *
          obtain ⟨z0, z1, z2, f0⟩ := cells3 F5.out
          have f1 := f0 1
          have f2 := f0 2
          have f0 := f0 0
          refine wpAnyH_ready (rs := [7]) (by kernel_rfl) (by simp) ?_
          refine AllReadyH.cons (o := ⟨none, _, _, _, _, _⟩) rfl (fun K hK => ?_) AllReadyH.nil
          go_simp
          have hX := set3_all (v0 := .slice U1 n1 m1) (v1 := .slice U2 n m2) (v2 := .slice U3 n3 m3) F5.out
          have hblk : ∀ q, q ≠ u12.heap.size → (((u14.setCell ⟨u12.heap.size, 0, none⟩ (.slice U1 n1 m1)).setCell ⟨u12.heap.size, 1, none⟩ (.slice U2 n m2)).setCell ⟨u12.heap.size, 2, none⟩ (.slice U3 n3 m3)).heap[q]? = u14.heap[q]? := fun q hq => (Below.heap_setCell _ _ _ _ hq).trans ((Below.heap_setCell _ _ _ _ hq).trans (Below.heap_setCell _ _ _ _ hq))
          have hzw : w2.heap.size ≤ u12.heap.size := by omega
          have HKEEP : Hid (Below w2.heap.size w2 (((u14.setCell ⟨u12.heap.size, 0, none⟩ (.slice U1 n1 m1)).setCell ⟨u12.heap.size, 1, none⟩ (.slice U2 n m2)).setCell ⟨u12.heap.size, 2, none⟩ (.slice U3 n3 m3))) := Lib.hid (((HKEEP.out.setCell (show w2.heap.size ≤ (⟨u12.heap.size, 0, none⟩ : Addr).block from hzw) _).setCell (show w2.heap.size ≤ (⟨u12.heap.size, 1, none⟩ : Addr).block from hzw) _).setCell (show w2.heap.size ≤ (⟨u12.heap.size, 2, none⟩ : Addr).block from hzw) _)
          have F5 := Lib.hid hX
          have F4 := Lib.hid ((hblk _ (by first | exact N4_5.out | exact fun e => N5_4.out e.symm)).trans F4.out)
          have G1 := Lib.hid (G1.out.keep (w' := (((u14.setCell ⟨u12.heap.size, 0, none⟩ (.slice U1 n1 m1)).setCell ⟨u12.heap.size, 1, none⟩ (.slice U2 n m2)).setCell ⟨u12.heap.size, 2, none⟩ (.slice U3 n3 m3))) (by simp) (fun q h1 h2 => hblk q (by omega)))
          have G3 := Lib.hid (G3.out.keep (w' := (((u14.setCell ⟨u12.heap.size, 0, none⟩ (.slice U1 n1 m1)).setCell ⟨u12.heap.size, 1, none⟩ (.slice U2 n m2)).setCell ⟨u12.heap.size, 2, none⟩ (.slice U3 n3 m3))) (by simp) (fun q h1 h2 => hblk q (by omega)))
          refine hK.out _ _ (HV.out _ HKEEP.out) (fun _ => ?_)
          clear hK K z0 z1 z2 f0 f1 f2 hX hblk hzw
          try dsimp only
          generalize (((u14.setCell ⟨u12.heap.size, 0, none⟩ (.slice U1 n1 m1)).setCell ⟨u12.heap.size, 1, none⟩ (.slice U2 n m2)).setCell ⟨u12.heap.size, 2, none⟩ (.slice U3 n3 m3)) = u15 at *
          have HFIN : Hid (Kept w2 G n1 n n3 u1.heap.size u12.heap.size T1 t1 T2 t2 T3 t3 U1 m1 U2 m2 U3 m3 u15) := Lib.hid ⟨F4.out, F5.out, G1.out.gv, G3.out.gv, HKEEP.out⟩
          refine wpAnyH_done (by kernel_rfl) ?_ _
          go_wp2
          go_meet
          case rel => exact ⟨u1.heap.size, u12.heap.size, T1, t1, T2, t2, T3, t3, U1, m1, U2, m2, U3, m3, rfl, rfl, HFIN⟩
        · rw [if_pos (by kernel_rfl)]
          go_simp
          have hB : Below u11.heap.size u11 (u11.alloc (.cells #[.slice none 0 0, .slice none 0 0, .slice none 0 0] 26)) := below1 u11 _
          have hF : (u11.alloc (.cells #[.slice none 0 0, .slice none 0 0, .slice none 0 0] 26)).heap[u11.heap.size]? = some (.cells #[.slice none 0 0, .slice none 0 0, .slice none 0 0] 26 (0, 0)) := World.alloc_heap_new u11 _
          have hsz : u11.heap.size + 1 ≤ (u11.alloc (.cells #[.slice none 0 0, .slice none 0 0, .slice none 0 0] 26)).heap.size := by simp
          have N4_5 : Hid (u1.heap.size ≠ u11.heap.size) := Lib.hid (by have := (Array.getElem?_eq_some_iff.1 F4.out).1; omega)
          have HKEEP := Lib.hid (HKEEP.out.trans (hB.mono HKEEP.out.size))
          have F4 := Lib.hid ((hB.block _ (Array.getElem?_eq_some_iff.1 F4.out).1).trans F4.out)
          have G1 := Lib.hid (G1.out.below (by omega) hB)
          have F5 := Lib.hid hF
          have HS16 : Hid _ := Lib.hid (HV.out _ HKEEP.out)
          refine hK.out _ _ HS16.out (fun _ => ?_)
          clear hK K hB hF
          try dsimp only
          generalize (u11.alloc (.cells #[.slice none 0 0, .slice none 0 0, .slice none 0 0] 26)) = u16 at *
          refine wpAnyH_ready (rs := [3]) (by kernel_rfl) (by simp) ?_
          refine AllReadyH.cons (o := ⟨some 12, _, _, _, _, _⟩) rfl (fun K hK => ?_) AllReadyH.nil
          rw [if_pos (by kernel_rfl)]
          go_simp
          go_at_call 27
          refine (total_n (HGV.out _ HKEEP.out) HN1.out HN.out HN3.out HLD.out HI.out HL.out).mono ?_
          rintro e u17 ⟨U1, m1, U2, m2, U3, m3, E3, rfl, hE3, hf, hb⟩
          have hsz := hb.size
          have HKEEP := Lib.hid (HKEEP.out.trans (hb.mono HKEEP.out.size))
          have F4 := Lib.hid ((hb.block _ (Array.getElem?_eq_some_iff.1 F4.out).1).trans F4.out)
          have F5 := Lib.hid ((hb.block _ (Array.getElem?_eq_some_iff.1 F5.out).1).trans F5.out)
          have G1 := Lib.hid (G1.out.below (by omega) hb)
          have G3 := Lib.hid hf
          have HS17 : Hid _ := Lib.hid (HV.out _ HKEEP.out)
          refine hK.out _ _ HS17.out (fun _ => ?_)
          clear hK K hb hf
          try simp only [Act.put, List.setIfInBounds_toArray, List.set_cons_zero, List.set_cons_succ]
          obtain ⟨z0, z1, z2, f0⟩ := cells3 F4.out
          have f1 := f0 1
          have f2 := f0 2
          have f0 := f0 0
          refine wpAnyH_ready (rs := [6]) (by kernel_rfl) (by simp) ?_
          refine AllReadyH.cons (o := ⟨none, _, _, _, _, _⟩) rfl (fun K hK => ?_) AllReadyH.nil
          go_simp
          have hX := set3_all (v0 := .slice T1 n1 t1) (v1 := .slice T2 n t2) (v2 := .slice T3 n3 t3) F4.out
          have hblk : ∀ q, q ≠ u1.heap.size → (((u17.setCell ⟨u1.heap.size, 0, none⟩ (.slice T1 n1 t1)).setCell ⟨u1.heap.size, 1, none⟩ (.slice T2 n t2)).setCell ⟨u1.heap.size, 2, none⟩ (.slice T3 n3 t3)).heap[q]? = u17.heap[q]? := fun q hq => (Below.heap_setCell _ _ _ _ hq).trans ((Below.heap_setCell _ _ _ _ hq).trans (Below.heap_setCell _ _ _ _ hq))
          have hzw : w2.heap.size ≤ u1.heap.size := by omega
          have HKEEP : Hid (Below w2.heap.size w2 (((u17.setCell ⟨u1.heap.size, 0, none⟩ (.slice T1 n1 t1)).setCell ⟨u1.heap.size, 1, none⟩ (.slice T2 n t2)).setCell ⟨u1.heap.size, 2, none⟩ (.slice T3 n3 t3))) := Lib.hid (((HKEEP.out.setCell (show w2.heap.size ≤ (⟨u1.heap.size, 0, none⟩ : Addr).block from hzw) _).setCell (show w2.heap.size ≤ (⟨u1.heap.size, 1, none⟩ : Addr).block from hzw) _).setCell (show w2.heap.size ≤ (⟨u1.heap.size, 2, none⟩ : Addr).block from hzw) _)
          have F4 := Lib.hid hX
          have F5 := Lib.hid ((hblk _ (by first | exact N5_4.out | exact fun e => N4_5.out e.symm)).trans F5.out)
          have G1 := Lib.hid (G1.out.keep (w' := (((u17.setCell ⟨u1.heap.size, 0, none⟩ (.slice T1 n1 t1)).setCell ⟨u1.heap.size, 1, none⟩ (.slice T2 n t2)).setCell ⟨u1.heap.size, 2, none⟩ (.slice T3 n3 t3))) (by simp) (fun q h1 h2 => hblk q (by omega)))
          have G3 := Lib.hid (G3.out.keep (w' := (((u17.setCell ⟨u1.heap.size, 0, none⟩ (.slice T1 n1 t1)).setCell ⟨u1.heap.size, 1, none⟩ (.slice T2 n t2)).setCell ⟨u1.heap.size, 2, none⟩ (.slice T3 n3 t3))) (by simp) (fun q h1 h2 => hblk q (by omega)))
          refine hK.out _ _ (HV.out _ HKEEP.out) (fun _ => ?_)
          clear hK K z0 z1 z2 f0 f1 f2 hX hblk hzw
          try dsimp only
          generalize (((u17.setCell ⟨u1.heap.size, 0, none⟩ (.slice T1 n1 t1)).setCell ⟨u1.heap.size, 1, none⟩ (.slice T2 n t2)).setCell ⟨u1.heap.size, 2, none⟩ (.slice T3 n3 t3)) = u18 at *
          obtain ⟨z0, z1, z2, f0⟩ := cells3 F5.out
          have f1 := f0 1
          have f2 := f0 2
          have f0 := f0 0
          refine wpAnyH_ready (rs := [7]) (by kernel_rfl) (by simp) ?_
          refine AllReadyH.cons (o := ⟨none, _, _, _, _, _⟩) rfl (fun K hK => ?_) AllReadyH.nil
          go_simp
          have hX := set3_all (v0 := .slice U1 n1 m1) (v1 := .slice U2 n m2) (v2 := .slice U3 n3 m3) F5.out
          have hblk : ∀ q, q ≠ u11.heap.size → (((u18.setCell ⟨u11.heap.size, 0, none⟩ (.slice U1 n1 m1)).setCell ⟨u11.heap.size, 1, none⟩ (.slice U2 n m2)).setCell ⟨u11.heap.size, 2, none⟩ (.slice U3 n3 m3)).heap[q]? = u18.heap[q]? := fun q hq => (Below.heap_setCell _ _ _ _ hq).trans ((Below.heap_setCell _ _ _ _ hq).trans (Below.heap_setCell _ _ _ _ hq))
          have hzw : w2.heap.size ≤ u11.heap.size := by omega
          have HKEEP : Hid (Below w2.heap.size w2 (((u18.setCell ⟨u11.heap.size, 0, none⟩ (.slice U1 n1 m1)).setCell ⟨u11.heap.size, 1, none⟩ (.slice U2 n m2)).setCell ⟨u11.heap.size, 2, none⟩ (.slice U3 n3 m3))) := Lib.hid (((HKEEP.out.setCell (show w2.heap.size ≤ (⟨u11.heap.size, 0, none⟩ : Addr).block from hzw) _).setCell (show w2.heap.size ≤ (⟨u11.heap.size, 1, none⟩ : Addr).block from hzw) _).setCell (show w2.heap.size ≤ (⟨u11.heap.size, 2, none⟩ : Addr).block from hzw) _)
          have F5 := Lib.hid hX
          have F4 := Lib.hid ((hblk _ (by first | exact N4_5.out | exact fun e => N5_4.out e.symm)).trans F4.out)
          have G1 := Lib.hid (G1.out.keep (w' := (((u18.setCell ⟨u11.heap.size, 0, none⟩ (.slice U1 n1 m1)).setCell ⟨u11.heap.size, 1, none⟩ (.slice U2 n m2)).setCell ⟨u11.heap.size, 2, none⟩ (.slice U3 n3 m3))) (by simp) (fun q h1 h2 => hblk q (by omega)))
          have G3 := Lib.hid (G3.out.keep (w' := (((u18.setCell ⟨u11.heap.size, 0, none⟩ (.slice U1 n1 m1)).setCell ⟨u11.heap.size, 1, none⟩ (.slice U2 n m2)).setCell ⟨u11.heap.size, 2, none⟩ (.slice U3 n3 m3))) (by simp) (fun q h1 h2 => hblk q (by omega)))
          refine hK.out _ _ (HV.out _ HKEEP.out) (fun _ => ?_)
          clear hK K z0 z1 z2 f0 f1 f2 hX hblk hzw
          try dsimp only
          generalize (((u18.setCell ⟨u11.heap.size, 0, none⟩ (.slice U1 n1 m1)).setCell ⟨u11.heap.size, 1, none⟩ (.slice U2 n m2)).setCell ⟨u11.heap.size, 2, none⟩ (.slice U3 n3 m3)) = u19 at *
          have HFIN : Hid (Kept w2 G n1 n n3 u1.heap.size u11.heap.size T1 t1 T2 t2 T3 t3 U1 m1 U2 m2 U3 m3 u19) := Lib.hid ⟨F4.out, F5.out, G1.out.gv, G3.out.gv, HKEEP.out⟩
          refine wpAnyH_done (by kernel_rfl) ?_ _
          go_wp2
          go_meet
          case rel => exact ⟨u1.heap.size, u11.heap.size, T1, t1, T2, t2, T3, t3, U1, m1, U2, m2, U3, m3, rfl, rfl, HFIN⟩
      · rw [if_pos (by kernel_rfl)]
        go_simp
        have hB : Below u1.heap.size u1 (u1.alloc (.cells #[.slice none 0 0, .slice none 0 0, .slice none 0 0] 26)) := below1 u1 _
        have hF : (u1.alloc (.cells #[.slice none 0 0, .slice none 0 0, .slice none 0 0] 26)).heap[u1.heap.size]? = some (.cells #[.slice none 0 0, .slice none 0 0, .slice none 0 0] 26 (0, 0)) := World.alloc_heap_new u1 _
        have hsz : u1.heap.size + 1 ≤ (u1.alloc (.cells #[.slice none 0 0, .slice none 0 0, .slice none 0 0] 26)).heap.size := by simp
        have HKEEP := Lib.hid (HKEEP.out.trans (hB.mono HKEEP.out.size))
        have G1 := Lib.hid (G1.out.below (by omega) hB)
        have F5 := Lib.hid hF
        have HS20 : Hid _ := Lib.hid (HV.out _ HKEEP.out)
        refine hK.out _ _ HS20.out (fun _ => ?_)
        clear hK K hB hF
        try dsimp only
        generalize (u1.alloc (.cells #[.slice none 0 0, .slice none 0 0, .slice none 0 0] 26)) = u20 at *
        refine wpAnyH_ready (rs := [3, 4]) (by kernel_rfl) (by simp) ?_
        refine AllReadyH.cons (o := ⟨some 12, _, _, _, _, _⟩) rfl (fun K hK => ?_) (AllReadyH.cons (o := ⟨some 3, _, _, _, _, _⟩) rfl (fun K hK => ?_) AllReadyH.nil)
        · rw [if_pos (by kernel_rfl)]
          go_simp
          go_at_call 27
          refine (total_n (HGV.out _ HKEEP.out) HN1.out HN.out HN3.out HLD.out HI.out HL.out).mono ?_
          rintro e u21 ⟨U1, m1, U2, m2, U3, m3, E3, rfl, hE3, hf, hb⟩
          have hsz := hb.size
          have HKEEP := Lib.hid (HKEEP.out.trans (hb.mono HKEEP.out.size))
          have F5 := Lib.hid ((hb.block _ (Array.getElem?_eq_some_iff.1 F5.out).1).trans F5.out)
          have G1 := Lib.hid (G1.out.below (by omega) hb)
          have G3 := Lib.hid hf
          have HS21 : Hid _ := Lib.hid (HV.out _ HKEEP.out)
          refine hK.out _ _ HS21.out (fun _ => ?_)
          clear hK K hb hf
          try simp only [Act.put, List.setIfInBounds_toArray, List.set_cons_zero, List.set_cons_succ]
          refine wpAnyH_ready (rs := [4]) (by kernel_rfl) (by simp) ?_
          refine AllReadyH.cons (o := ⟨some 3, _, _, _, _, _⟩) rfl (fun K hK => ?_) AllReadyH.nil
          rw [if_pos (by kernel_rfl)]
          go_simp
          have hB : Below u21.heap.size u21 (u21.alloc (.cells #[.slice none 0 0, .slice none 0 0, .slice none 0 0] 26)) := below1 u21 _
          have hF : (u21.alloc (.cells #[.slice none 0 0, .slice none 0 0, .slice none 0 0] 26)).heap[u21.heap.size]? = some (.cells #[.slice none 0 0, .slice none 0 0, .slice none 0 0] 26 (0, 0)) := World.alloc_heap_new u21 _
          have hsz : u21.heap.size + 1 ≤ (u21.alloc (.cells #[.slice none 0 0, .slice none 0 0, .slice none 0 0] 26)).heap.size := by simp
          have N5_4 : Hid (u1.heap.size ≠ u21.heap.size) := Lib.hid (by have := (Array.getElem?_eq_some_iff.1 F5.out).1; omega)
          have HKEEP := Lib.hid (HKEEP.out.trans (hB.mono HKEEP.out.size))
          have F5 := Lib.hid ((hB.block _ (Array.getElem?_eq_some_iff.1 F5.out).1).trans F5.out)
          have G1 := Lib.hid (G1.out.below (by omega) hB)
          have G3 := Lib.hid (G3.out.below (by omega) hB)
          have F4 := Lib.hid hF
          have HS22 : Hid _ := Lib.hid (HV.out _ HKEEP.out)
          refine hK.out _ _ HS22.out (fun _ => ?_)
          clear hK K hB hF
          try dsimp only
          generalize (u21.alloc (.cells #[.slice none 0 0, .slice none 0 0, .slice none 0 0] 26)) = u22 at *
          obtain ⟨z0, z1, z2, f0⟩ := cells3 F4.out
          have f1 := f0 1
          have f2 := f0 2
          have f0 := f0 0
          refine wpAnyH_ready (rs := [6]) (by kernel_rfl) (by simp) ?_
          refine AllReadyH.cons (o := ⟨none, _, _, _, _, _⟩) rfl (fun K hK => ?_) AllReadyH.nil
          go_simp
          have hX := set3_all (v0 := .slice T1 n1 t1) (v1 := .slice T2 n t2) (v2 := .slice T3 n3 t3) F4.out
          have hblk : ∀ q, q ≠ u21.heap.size → (((u22.setCell ⟨u21.heap.size, 0, none⟩ (.slice T1 n1 t1)).setCell ⟨u21.heap.size, 1, none⟩ (.slice T2 n t2)).setCell ⟨u21.heap.size, 2, none⟩ (.slice T3 n3 t3)).heap[q]? = u22.heap[q]? := fun q hq => (Below.heap_setCell _ _ _ _ hq).trans ((Below.heap_setCell _ _ _ _ hq).trans (Below.heap_setCell _ _ _ _ hq))
          have hzw : w2.heap.size ≤ u21.heap.size := by omega
          have HKEEP : Hid (Below w2.heap.size w2 (((u22.setCell ⟨u21.heap.size, 0, none⟩ (.slice T1 n1 t1)).setCell ⟨u21.heap.size, 1, none⟩ (.slice T2 n t2)).setCell ⟨u21.heap.size, 2, none⟩ (.slice T3 n3 t3))) := Lib.hid (((HKEEP.out.setCell (show w2.heap.size ≤ (⟨u21.heap.size, 0, none⟩ : Addr).block from hzw) _).setCell (show w2.heap.size ≤ (⟨u21.heap.size, 1, none⟩ : Addr).block from hzw) _).setCell (show w2.heap.size ≤ (⟨u21.heap.size, 2, none⟩ : Addr).block from hzw) _)
          have F4 := Lib.hid hX
          have F5 := Lib.hid ((hblk _ (by first | exact N5_4.out | exact fun e => N4_5.out e.symm)).trans F5.out)
          have G1 := Lib.hid (G1.out.keep (w' := (((u22.setCell ⟨u21.heap.size, 0, none⟩ (.slice T1 n1 t1)).setCell ⟨u21.heap.size, 1, none⟩ (.slice T2 n t2)).setCell ⟨u21.heap.size, 2, none⟩ (.slice T3 n3 t3))) (by simp) (fun q h1 h2 => hblk q (by omega)))
          have G3 := Lib.hid (G3.out.keep (w' := (((u22.setCell ⟨u21.heap.size, 0, none⟩ (.slice T1 n1 t1)).setCell ⟨u21.heap.size, 1, none⟩ (.slice T2 n t2)).setCell ⟨u21.heap.size, 2, none⟩ (.slice T3 n3 t3))) (by simp) (fun q h1 h2 => hblk q (by omega)))
          refine hK.out _ _ (HV.out _ HKEEP.out) (fun _ => ?_)
          clear hK K z0 z1 z2 f0 f1 f2 hX hblk hzw
          try dsimp only
          generalize (((u22.setCell ⟨u21.heap.size, 0, none⟩ (.slice T1 n1 t1)).setCell ⟨u21.heap.size, 1, none⟩ (.slice T2 n t2)).setCell ⟨u21.heap.size, 2, none⟩ (.slice T3 n3 t3)) = u23 at *
          obtain ⟨z0, z1, z2, f0⟩ := cells3 F5.out
          have f1 := f0 1
          have f2 := f0 2
          have f0 := f0 0
          refine wpAnyH_ready (rs := [7]) (by kernel_rfl) (by simp) ?_
          refine AllReadyH.cons (o := ⟨none, _, _, _, _, _⟩) rfl (fun K hK => ?_) AllReadyH.nil
          go_simp
          have hX := set3_all (v0 := .slice U1 n1 m1) (v1 := .slice U2 n m2) (v2 := .slice U3 n3 m3) F5.out
          have hblk : ∀ q, q ≠ u1.heap.size → (((u23.setCell ⟨u1.heap.size, 0, none⟩ (.slice U1 n1 m1)).setCell ⟨u1.heap.size, 1, none⟩ (.slice U2 n m2)).setCell ⟨u1.heap.size, 2, none⟩ (.slice U3 n3 m3)).heap[q]? = u23.heap[q]? := fun q hq => (Below.heap_setCell _ _ _ _ hq).trans ((Below.heap_setCell _ _ _ _ hq).trans (Below.heap_setCell _ _ _ _ hq))
          have hzw : w2.heap.size ≤ u1.heap.size := by omega
          have HKEEP : Hid (Below w2.heap.size w2 (((u23.setCell ⟨u1.heap.size, 0, none⟩ (.slice U1 n1 m1)).setCell ⟨u1.heap.size, 1, none⟩ (.slice U2 n m2)).setCell ⟨u1.heap.size, 2, none⟩ (.slice U3 n3 m3))) := Lib.hid (((HKEEP.out.setCell (show w2.heap.size ≤ (⟨u1.heap.size, 0, none⟩ : Addr).block from hzw) _).setCell (show w2.heap.size ≤ (⟨u1.heap.size, 1, none⟩ : Addr).block from hzw) _).setCell (show w2.heap.size ≤ (⟨u1.heap.size, 2, none⟩ : Addr).block from hzw) _)
          have F5 := Lib.hid hX
          have F4 := Lib.hid ((hblk _ (by first | exact N4_5.out | exact fun e => N5_4.out e.symm)).trans F4.out)
          have G1 := Lib.hid (G1.out.keep (w' := (((u23.setCell ⟨u1.heap.size, 0, none⟩ (.slice U1 n1 m1)).setCell ⟨u1.heap.size, 1, none⟩ (.slice U2 n m2)).setCell ⟨u1.heap.size, 2, none⟩ (.slice U3 n3 m3))) (by simp) (fun q h1 h2 => hblk q (by omega)))
          have G3 := Lib.hid (G3.out.keep (w' := (((u23.setCell ⟨u1.heap.size, 0, none⟩ (.slice U1 n1 m1)).setCell ⟨u1.heap.size, 1, none⟩ (.slice U2 n m2)).setCell ⟨u1.heap.size, 2, none⟩ (.slice U3 n3 m3))) (by simp) (fun q h1 h2 => hblk q (by omega)))
          refine hK.out _ _ (HV.out _ HKEEP.out) (fun _ => ?_)
          clear hK K z0 z1 z2 f0 f1 f2 hX hblk hzw
          try dsimp only
          generalize (((u23.setCell ⟨u1.heap.size, 0, none⟩ (.slice U1 n1 m1)).setCell ⟨u1.heap.size, 1, none⟩ (.slice U2 n m2)).setCell ⟨u1.heap.size, 2, none⟩ (.slice U3 n3 m3)) = u24 at *
          have HFIN : Hid (Kept w2 G n1 n n3 u21.heap.size u1.heap.size T1 t1 T2 t2 T3 t3 U1 m1 U2 m2 U3 m3 u24) := Lib.hid ⟨F4.out, F5.out, G1.out.gv, G3.out.gv, HKEEP.out⟩
          refine wpAnyH_done (by kernel_rfl) ?_ _
          go_wp2
          go_meet
          case rel => exact ⟨u21.heap.size, u1.heap.size, T1, t1, T2, t2, T3, t3, U1, m1, U2, m2, U3, m3, rfl, rfl, HFIN⟩
        · rw [if_pos (by kernel_rfl)]
          go_simp
          have hB : Below u20.heap.size u20 (u20.alloc (.cells #[.slice none 0 0, .slice none 0 0, .slice none 0 0] 26)) := below1 u20 _
          have hF : (u20.alloc (.cells #[.slice none 0 0, .slice none 0 0, .slice none 0 0] 26)).heap[u20.heap.size]? = some (.cells #[.slice none 0 0, .slice none 0 0, .slice none 0 0] 26 (0, 0)) := World.alloc_heap_new u20 _
          have hsz : u20.heap.size + 1 ≤ (u20.alloc (.cells #[.slice none 0 0, .slice none 0 0, .slice none 0 0] 26)).heap.size := by simp
          have N5_4 : Hid (u1.heap.size ≠ u20.heap.size) := Lib.hid (by have := (Array.getElem?_eq_some_iff.1 F5.out).1; omega)
          have HKEEP := Lib.hid (HKEEP.out.trans (hB.mono HKEEP.out.size))
          have F5 := Lib.hid ((hB.block _ (Array.getElem?_eq_some_iff.1 F5.out).1).trans F5.out)
          have G1 := Lib.hid (G1.out.below (by omega) hB)
          have F4 := Lib.hid hF
          have HS25 : Hid _ := Lib.hid (HV.out _ HKEEP.out)
          refine hK.out _ _ HS25.out (fun _ => ?_)
          clear hK K hB hF
          try dsimp only
          generalize (u20.alloc (.cells #[.slice none 0 0, .slice none 0 0, .slice none 0 0] 26)) = u25 at *
          refine wpAnyH_ready (rs := [3]) (by kernel_rfl) (by simp) ?_
          refine AllReadyH.cons (o := ⟨some 12, _, _, _, _, _⟩) rfl (fun K hK => ?_) AllReadyH.nil
          rw [if_pos (by kernel_rfl)]
          go_simp
          go_at_call 27
          refine (total_n (HGV.out _ HKEEP.out) HN1.out HN.out HN3.out HLD.out HI.out HL.out).mono ?_
          rintro e u26 ⟨U1, m1, U2, m2, U3, m3, E3, rfl, hE3, hf, hb⟩
          have hsz := hb.size
          have HKEEP := Lib.hid (HKEEP.out.trans (hb.mono HKEEP.out.size))
          have F5 := Lib.hid ((hb.block _ (Array.getElem?_eq_some_iff.1 F5.out).1).trans F5.out)
          have F4 := Lib.hid ((hb.block _ (Array.getElem?_eq_some_iff.1 F4.out).1).trans F4.out)
          have G1 := Lib.hid (G1.out.below (by omega) hb)
          have G3 := Lib.hid hf
          have HS26 : Hid _ := Lib.hid (HV.out _ HKEEP.out)
          refine hK.out _ _ HS26.out (fun _ => ?_)
          clear hK K hb hf
          try simp only [Act.put, List.setIfInBounds_toArray, List.set_cons_zero, List.set_cons_succ]
          obtain ⟨z0, z1, z2, f0⟩ := cells3 F4.out
          have f1 := f0 1
          have f2 := f0 2
          have f0 := f0 0
          refine wpAnyH_ready (rs := [6]) (by kernel_rfl) (by simp) ?_
          refine AllReadyH.cons (o := ⟨none, _, _, _, _, _⟩) rfl (fun K hK => ?_) AllReadyH.nil
          go_simp
          have hX := set3_all (v0 := .slice T1 n1 t1) (v1 := .slice T2 n t2) (v2 := .slice T3 n3 t3) F4.out
          have hblk : ∀ q, q ≠ u20.heap.size → (((u26.setCell ⟨u20.heap.size, 0, none⟩ (.slice T1 n1 t1)).setCell ⟨u20.heap.size, 1, none⟩ (.slice T2 n t2)).setCell ⟨u20.heap.size, 2, none⟩ (.slice T3 n3 t3)).heap[q]? = u26.heap[q]? := fun q hq => (Below.heap_setCell _ _ _ _ hq).trans ((Below.heap_setCell _ _ _ _ hq).trans (Below.heap_setCell _ _ _ _ hq))
          have hzw : w2.heap.size ≤ u20.heap.size := by omega
          have HKEEP : Hid (Below w2.heap.size w2 (((u26.setCell ⟨u20.heap.size, 0, none⟩ (.slice T1 n1 t1)).setCell ⟨u20.heap.size, 1, none⟩ (.slice T2 n t2)).setCell ⟨u20.heap.size, 2, none⟩ (.slice T3 n3 t3))) := Lib.hid (((HKEEP.out.setCell (show w2.heap.size ≤ (⟨u20.heap.size, 0, none⟩ : Addr).block from hzw) _).setCell (show w2.heap.size ≤ (⟨u20.heap.size, 1, none⟩ : Addr).block from hzw) _).setCell (show w2.heap.size ≤ (⟨u20.heap.size, 2, none⟩ : Addr).block from hzw) _)
          have F4 := Lib.hid hX
          have F5 := Lib.hid ((hblk _ (by first | exact N5_4.out | exact fun e => N4_5.out e.symm)).trans F5.out)
          have G1 := Lib.hid (G1.out.keep (w' := (((u26.setCell ⟨u20.heap.size, 0, none⟩ (.slice T1 n1 t1)).setCell ⟨u20.heap.size, 1, none⟩ (.slice T2 n t2)).setCell ⟨u20.heap.size, 2, none⟩ (.slice T3 n3 t3))) (by simp) (fun q h1 h2 => hblk q (by omega)))
          have G3 := Lib.hid (G3.out.keep (w' := (((u26.setCell ⟨u20.heap.size, 0, none⟩ (.slice T1 n1 t1)).setCell ⟨u20.heap.size, 1, none⟩ (.slice T2 n t2)).setCell ⟨u20.heap.size, 2, none⟩ (.slice T3 n3 t3))) (by simp) (fun q h1 h2 => hblk q (by omega)))
          refine hK.out _ _ (HV.out _ HKEEP.out) (fun _ => ?_)
          clear hK K z0 z1 z2 f0 f1 f2 hX hblk hzw
          try dsimp only
          generalize (((u26.setCell ⟨u20.heap.size, 0, none⟩ (.slice T1 n1 t1)).setCell ⟨u20.heap.size, 1, none⟩ (.slice T2 n t2)).setCell ⟨u20.heap.size, 2, none⟩ (.slice T3 n3 t3)) = u27 at *
          obtain ⟨z0, z1, z2, f0⟩ := cells3 F5.out
          have f1 := f0 1
          have f2 := f0 2
          have f0 := f0 0
          refine wpAnyH_ready (rs := [7]) (by kernel_rfl) (by simp) ?_
          refine AllReadyH.cons (o := ⟨none, _, _, _, _, _⟩) rfl (fun K hK => ?_) AllReadyH.nil
          go_simp
          have hX := set3_all (v0 := .slice U1 n1 m1) (v1 := .slice U2 n m2) (v2 := .slice U3 n3 m3) F5.out
          have hblk : ∀ q, q ≠ u1.heap.size → (((u27.setCell ⟨u1.heap.size, 0, none⟩ (.slice U1 n1 m1)).setCell ⟨u1.heap.size, 1, none⟩ (.slice U2 n m2)).setCell ⟨u1.heap.size, 2, none⟩ (.slice U3 n3 m3)).heap[q]? = u27.heap[q]? := fun q hq => (Below.heap_setCell _ _ _ _ hq).trans ((Below.heap_setCell _ _ _ _ hq).trans (Below.heap_setCell _ _ _ _ hq))
          have hzw : w2.heap.size ≤ u1.heap.size := by omega
          have HKEEP : Hid (Below w2.heap.size w2 (((u27.setCell ⟨u1.heap.size, 0, none⟩ (.slice U1 n1 m1)).setCell ⟨u1.heap.size, 1, none⟩ (.slice U2 n m2)).setCell ⟨u1.heap.size, 2, none⟩ (.slice U3 n3 m3))) := Lib.hid (((HKEEP.out.setCell (show w2.heap.size ≤ (⟨u1.heap.size, 0, none⟩ : Addr).block from hzw) _).setCell (show w2.heap.size ≤ (⟨u1.heap.size, 1, none⟩ : Addr).block from hzw) _).setCell (show w2.heap.size ≤ (⟨u1.heap.size, 2, none⟩ : Addr).block from hzw) _)
          have F5 := Lib.hid hX
          have F4 := Lib.hid ((hblk _ (by first | exact N4_5.out | exact fun e => N5_4.out e.symm)).trans F4.out)
          have G1 := Lib.hid (G1.out.keep (w' := (((u27.setCell ⟨u1.heap.size, 0, none⟩ (.slice U1 n1 m1)).setCell ⟨u1.heap.size, 1, none⟩ (.slice U2 n m2)).setCell ⟨u1.heap.size, 2, none⟩ (.slice U3 n3 m3))) (by simp) (fun q h1 h2 => hblk q (by omega)))
          have G3 := Lib.hid (G3.out.keep (w' := (((u27.setCell ⟨u1.heap.size, 0, none⟩ (.slice U1 n1 m1)).setCell ⟨u1.heap.size, 1, none⟩ (.slice U2 n m2)).setCell ⟨u1.heap.size, 2, none⟩ (.slice U3 n3 m3))) (by simp) (fun q h1 h2 => hblk q (by omega)))
          refine hK.out _ _ (HV.out _ HKEEP.out) (fun _ => ?_)
          clear hK K z0 z1 z2 f0 f1 f2 hX hblk hzw
          try dsimp only
          generalize (((u27.setCell ⟨u1.heap.size, 0, none⟩ (.slice U1 n1 m1)).setCell ⟨u1.heap.size, 1, none⟩ (.slice U2 n m2)).setCell ⟨u1.heap.size, 2, none⟩ (.slice U3 n3 m3)) = u28 at *
          have HFIN : Hid (Kept w2 G n1 n n3 u20.heap.size u1.heap.size T1 t1 T2 t2 T3 t3 U1 m1 U2 m2 U3 m3 u28) := Lib.hid ⟨F4.out, F5.out, G1.out.gv, G3.out.gv, HKEEP.out⟩
          refine wpAnyH_done (by kernel_rfl) ?_ _
          go_wp2
          go_meet
          case rel => exact ⟨u20.heap.size, u1.heap.size, T1, t1, T2, t2, T3, t3, U1, m1, U2, m2, U3, m3, rfl, rfl, HFIN⟩
    · rw [if_pos (by kernel_rfl)]
      go_simp
      have hB : Below u0.heap.size u0 (u0.alloc (.cells #[.slice none 0 0, .slice none 0 0, .slice none 0 0] 26)) := below1 u0 _
      have hF : (u0.alloc (.cells #[.slice none 0 0, .slice none 0 0, .slice none 0 0] 26)).heap[u0.heap.size]? = some (.cells #[.slice none 0 0, .slice none 0 0, .slice none 0 0] 26 (0, 0)) := World.alloc_heap_new u0 _
      have hsz : u0.heap.size + 1 ≤ (u0.alloc (.cells #[.slice none 0 0, .slice none 0 0, .slice none 0 0] 26)).heap.size := by simp
      have HKEEP := Lib.hid (HKEEP.out.trans (hB.mono HKEEP.out.size))
      have F4 := Lib.hid hF
      have HS29 : Hid _ := Lib.hid (HV.out _ HKEEP.out)
      refine hK.out _ _ HS29.out (fun _ => ?_)
      clear hK K hB hF
      try dsimp only
      generalize (u0.alloc (.cells #[.slice none 0 0, .slice none 0 0, .slice none 0 0] 26)) = u29 at *
      refine wpAnyH_ready (rs := [1, 5]) (by kernel_rfl) (by simp) ?_
      refine AllReadyH.cons (o := ⟨some 10, _, _, _, _, _⟩) rfl (fun K hK => ?_) (AllReadyH.cons (o := ⟨some 4, _, _, _, _, _⟩) rfl (fun K hK => ?_) AllReadyH.nil)
      · rw [if_pos (by kernel_rfl)]
        go_simp
        go_at_call 26
        refine (turn_n (HGV.out _ HKEEP.out) HN1.out HN.out HN3.out HLD.out HI.out HL.out).mono ?_
        rintro e u30 ⟨T1, t1, T2, t2, T3, t3, E1, rfl, hE1, hf, hb⟩
        have hsz := hb.size
        have HKEEP := Lib.hid (HKEEP.out.trans (hb.mono HKEEP.out.size))
        have F4 := Lib.hid ((hb.block _ (Array.getElem?_eq_some_iff.1 F4.out).1).trans F4.out)
        have G1 := Lib.hid hf
        have HS30 : Hid _ := Lib.hid (HV.out _ HKEEP.out)
        refine hK.out _ _ HS30.out (fun _ => ?_)
        clear hK K hb hf
        try simp only [Act.put, List.setIfInBounds_toArray, List.set_cons_zero, List.set_cons_succ]
        refine wpAnyH_ready (rs := [3, 5]) (by kernel_rfl) (by simp) ?_
        refine AllReadyH.cons (o := ⟨some 12, _, _, _, _, _⟩) rfl (fun K hK => ?_) (AllReadyH.cons (o := ⟨some 4, _, _, _, _, _⟩) rfl (fun K hK => ?_) AllReadyH.nil)
        · rw [if_pos (by kernel_rfl)]
          go_simp
          go_at_call 27
          refine (total_n (HGV.out _ HKEEP.out) HN1.out HN.out HN3.out HLD.out HI.out HL.out).mono ?_
          rintro e u31 ⟨U1, m1, U2, m2, U3, m3, E3, rfl, hE3, hf, hb⟩
          have hsz := hb.size
          have HKEEP := Lib.hid (HKEEP.out.trans (hb.mono HKEEP.out.size))
          have F4 := Lib.hid ((hb.block _ (Array.getElem?_eq_some_iff.1 F4.out).1).trans F4.out)
          have G1 := Lib.hid (G1.out.below (by omega) hb)
          have G3 := Lib.hid hf
          have HS31 : Hid _ := Lib.hid (HV.out _ HKEEP.out)
          refine hK.out _ _ HS31.out (fun _ => ?_)
          clear hK K hb hf
          try simp only [Act.put, List.setIfInBounds_toArray, List.set_cons_zero, List.set_cons_succ]
          refine wpAnyH_ready (rs := [5]) (by kernel_rfl) (by simp) ?_
          refine AllReadyH.cons (o := ⟨some 4, _, _, _, _, _⟩) rfl (fun K hK => ?_) AllReadyH.nil
          rw [if_pos (by kernel_rfl)]
          go_simp
          have hB : Below u31.heap.size u31 (u31.alloc (.cells #[.slice none 0 0, .slice none 0 0, .slice none 0 0] 26)) := below1 u31 _
          have hF : (u31.alloc (.cells #[.slice none 0 0, .slice none 0 0, .slice none 0 0] 26)).heap[u31.heap.size]? = some (.cells #[.slice none 0 0, .slice none 0 0, .slice none 0 0] 26 (0, 0)) := World.alloc_heap_new u31 _
          have hsz : u31.heap.size + 1 ≤ (u31.alloc (.cells #[.slice none 0 0, .slice none 0 0, .slice none 0 0] 26)).heap.size := by simp
          have N4_5 : Hid (u0.heap.size ≠ u31.heap.size) := Lib.hid (by have := (Array.getElem?_eq_some_iff.1 F4.out).1; omega)
          have HKEEP := Lib.hid (HKEEP.out.trans (hB.mono HKEEP.out.size))
          have F4 := Lib.hid ((hB.block _ (Array.getElem?_eq_some_iff.1 F4.out).1).trans F4.out)
          have G1 := Lib.hid (G1.out.below (by omega) hB)
          have G3 := Lib.hid (G3.out.below (by omega) hB)
          have F5 := Lib.hid hF
          have HS32 : Hid _ := Lib.hid (HV.out _ HKEEP.out)
          refine hK.out _ _ HS32.out (fun _ => ?_)
          clear hK K hB hF
          try dsimp only
          generalize (u31.alloc (.cells #[.slice none 0 0, .slice none 0 0, .slice none 0 0] 26)) = u32 at *
          obtain ⟨z0, z1, z2, f0⟩ := cells3 F4.out
          have f1 := f0 1
          have f2 := f0 2
          have f0 := f0 0
          refine wpAnyH_ready (rs := [6]) (by kernel_rfl) (by simp) ?_
          refine AllReadyH.cons (o := ⟨none, _, _, _, _, _⟩) rfl (fun K hK => ?_) AllReadyH.nil
          go_simp
          have hX := set3_all (v0 := .slice T1 n1 t1) (v1 := .slice T2 n t2) (v2 := .slice T3 n3 t3) F4.out
          have hblk : ∀ q, q ≠ u0.heap.size → (((u32.setCell ⟨u0.heap.size, 0, none⟩ (.slice T1 n1 t1)).setCell ⟨u0.heap.size, 1, none⟩ (.slice T2 n t2)).setCell ⟨u0.heap.size, 2, none⟩ (.slice T3 n3 t3)).heap[q]? = u32.heap[q]? := fun q hq => (Below.heap_setCell _ _ _ _ hq).trans ((Below.heap_setCell _ _ _ _ hq).trans (Below.heap_setCell _ _ _ _ hq))
          have hzw : w2.heap.size ≤ u0.heap.size := by omega
          have HKEEP : Hid (Below w2.heap.size w2 (((u32.setCell ⟨u0.heap.size, 0, none⟩ (.slice T1 n1 t1)).setCell ⟨u0.heap.size, 1, none⟩ (.slice T2 n t2)).setCell ⟨u0.heap.size, 2, none⟩ (.slice T3 n3 t3))) := Lib.hid (((HKEEP.out.setCell (show w2.heap.size ≤ (⟨u0.heap.size, 0, none⟩ : Addr).block from hzw) _).setCell (show w2.heap.size ≤ (⟨u0.heap.size, 1, none⟩ : Addr).block from hzw) _).setCell (show w2.heap.size ≤ (⟨u0.heap.size, 2, none⟩ : Addr).block from hzw) _)
          have F4 := Lib.hid hX
          have F5 := Lib.hid ((hblk _ (by first | exact N5_4.out | exact fun e => N4_5.out e.symm)).trans F5.out)
          have G1 := Lib.hid (G1.out.keep (w' := (((u32.setCell ⟨u0.heap.size, 0, none⟩ (.slice T1 n1 t1)).setCell ⟨u0.heap.size, 1, none⟩ (.slice T2 n t2)).setCell ⟨u0.heap.size, 2, none⟩ (.slice T3 n3 t3))) (by simp) (fun q h1 h2 => hblk q (by omega)))
          have G3 := Lib.hid (G3.out.keep (w' := (((u32.setCell ⟨u0.heap.size, 0, none⟩ (.slice T1 n1 t1)).setCell ⟨u0.heap.size, 1, none⟩ (.slice T2 n t2)).setCell ⟨u0.heap.size, 2, none⟩ (.slice T3 n3 t3))) (by simp) (fun q h1 h2 => hblk q (by omega)))
          refine hK.out _ _ (HV.out _ HKEEP.out) (fun _ => ?_)
          clear hK K z0 z1 z2 f0 f1 f2 hX hblk hzw
          try dsimp only
          generalize (((u32.setCell ⟨u0.heap.size, 0, none⟩ (.slice T1 n1 t1)).setCell ⟨u0.heap.size, 1, none⟩ (.slice T2 n t2)).setCell ⟨u0.heap.size, 2, none⟩ (.slice T3 n3 t3)) = u33 at *
          obtain ⟨z0, z1, z2, f0⟩ := cells3 F5.out
          have f1 := f0 1
          have f2 := f0 2
          have f0 := f0 0
          refine wpAnyH_ready (rs := [7]) (by kernel_rfl) (by simp) ?_
          refine AllReadyH.cons (o := ⟨none, _, _, _, _, _⟩) rfl (fun K hK => ?_) AllReadyH.nil
          go_simp
          have hX := set3_all (v0 := .slice U1 n1 m1) (v1 := .slice U2 n m2) (v2 := .slice U3 n3 m3) F5.out
          have hblk : ∀ q, q ≠ u31.heap.size → (((u33.setCell ⟨u31.heap.size, 0, none⟩ (.slice U1 n1 m1)).setCell ⟨u31.heap.size, 1, none⟩ (.slice U2 n m2)).setCell ⟨u31.heap.size, 2, none⟩ (.slice U3 n3 m3)).heap[q]? = u33.heap[q]? := fun q hq => (Below.heap_setCell _ _ _ _ hq).trans ((Below.heap_setCell _ _ _ _ hq).trans (Below.heap_setCell _ _ _ _ hq))
          have hzw : w2.heap.size ≤ u31.heap.size := by omega
          have HKEEP : Hid (Below w2.heap.size w2 (((u33.setCell ⟨u31.heap.size, 0, none⟩ (.slice U1 n1 m1)).setCell ⟨u31.heap.size, 1, none⟩ (.slice U2 n m2)).setCell ⟨u31.heap.size, 2, none⟩ (.slice U3 n3 m3))) := Lib.hid (((HKEEP.out.setCell (show w2.heap.size ≤ (⟨u31.heap.size, 0, none⟩ : Addr).block from hzw) _).setCell (show w2.heap.size ≤ (⟨u31.heap.size, 1, none⟩ : Addr).block from hzw) _).setCell (show w2.heap.size ≤ (⟨u31.heap.size, 2, none⟩ : Addr).block from hzw) _)
          have F5 := Lib.hid hX
          have F4 := Lib.hid ((hblk _ (by first | exact N4_5.out | exact fun e => N5_4.out e.symm)).trans F4.out)
          have G1 := Lib.hid (G1.out.keep (w' := (((u33.setCell ⟨u31.heap.size, 0, none⟩ (.slice U1 n1 m1)).setCell ⟨u31.heap.size, 1, none⟩ (.slice U2 n m2)).setCell ⟨u31.heap.size, 2, none⟩ (.slice U3 n3 m3))) (by simp) (fun q h1 h2 => hblk q (by omega)))
          have G3 := Lib.hid (G3.out.keep (w' := (((u33.setCell ⟨u31.heap.size, 0, none⟩ (.slice U1 n1 m1)).setCell ⟨u31.heap.size, 1, none⟩ (.slice U2 n m2)).setCell ⟨u31.heap.size, 2, none⟩ (.slice U3 n3 m3))) (by simp) (fun q h1 h2 => hblk q (by omega)))
          refine hK.out _ _ (HV.out _ HKEEP.out) (fun _ => ?_)
          clear hK K z0 z1 z2 f0 f1 f2 hX hblk hzw
          try dsimp only
          generalize (((u33.setCell ⟨u31.heap.size, 0, none⟩ (.slice U1 n1 m1)).setCell ⟨u31.heap.size, 1, none⟩ (.slice U2 n m2)).setCell ⟨u31.heap.size, 2, none⟩ (.slice U3 n3 m3)) = u34 at *
          have HFIN : Hid (Kept w2 G n1 n n3 u0.heap.size u31.heap.size T1 t1 T2 t2 T3 t3 U1 m1 U2 m2 U3 m3 u34) := Lib.hid ⟨F4.out, F5.out, G1.out.gv, G3.out.gv, HKEEP.out⟩
          refine wpAnyH_done (by kernel_rfl) ?_ _
          go_wp2
          go_meet
          case rel => exact ⟨u0.heap.size, u31.heap.size, T1, t1, T2, t2, T3, t3, U1, m1, U2, m2, U3, m3, rfl, rfl, HFIN⟩
        · rw [if_pos (by kernel_rfl)]
          go_simp
          have hB : Below u30.heap.size u30 (u30.alloc (.cells #[.slice none 0 0, .slice none 0 0, .slice none 0 0] 26)) := below1 u30 _
          have hF : (u30.alloc (.cells #[.slice none 0 0, .slice none 0 0, .slice none 0 0] 26)).heap[u30.heap.size]? = some (.cells #[.slice none 0 0, .slice none 0 0, .slice none 0 0] 26 (0, 0)) := World.alloc_heap_new u30 _
          have hsz : u30.heap.size + 1 ≤ (u30.alloc (.cells #[.slice none 0 0, .slice none 0 0, .slice none 0 0] 26)).heap.size := by simp
          have N4_5 : Hid (u0.heap.size ≠ u30.heap.size) := Lib.hid (by have := (Array.getElem?_eq_some_iff.1 F4.out).1; omega)
          have HKEEP := Lib.hid (HKEEP.out.trans (hB.mono HKEEP.out.size))
          have F4 := Lib.hid ((hB.block _ (Array.getElem?_eq_some_iff.1 F4.out).1).trans F4.out)
          have G1 := Lib.hid (G1.out.below (by omega) hB)
          have F5 := Lib.hid hF
          have HS35 : Hid _ := Lib.hid (HV.out _ HKEEP.out)
          refine hK.out _ _ HS35.out (fun _ => ?_)
          clear hK K hB hF
          try dsimp only
          generalize (u30.alloc (.cells #[.slice none 0 0, .slice none 0 0, .slice none 0 0] 26)) = u35 at *
          refine wpAnyH_ready (rs := [3]) (by kernel_rfl) (by simp) ?_
          refine AllReadyH.cons (o := ⟨some 12, _, _, _, _, _⟩) rfl (fun K hK => ?_) AllReadyH.nil
          rw [if_pos (by kernel_rfl)]
          go_simp
          go_at_call 27
          refine (total_n (HGV.out _ HKEEP.out) HN1.out HN.out HN3.out HLD.out HI.out HL.out).mono ?_
          rintro e u36 ⟨U1, m1, U2, m2, U3, m3, E3, rfl, hE3, hf, hb⟩
          have hsz := hb.size
          have HKEEP := Lib.hid (HKEEP.out.trans (hb.mono HKEEP.out.size))
          have F4 := Lib.hid ((hb.block _ (Array.getElem?_eq_some_iff.1 F4.out).1).trans F4.out)
          have F5 := Lib.hid ((hb.block _ (Array.getElem?_eq_some_iff.1 F5.out).1).trans F5.out)
          have G1 := Lib.hid (G1.out.below (by omega) hb)
          have G3 := Lib.hid hf
          have HS36 : Hid _ := Lib.hid (HV.out _ HKEEP.out)
          refine hK.out _ _ HS36.out (fun _ => ?_)
          clear hK K hb hf
          try simp only [Act.put, List.setIfInBounds_toArray, List.set_cons_zero, List.set_cons_succ]
          obtain ⟨z0, z1, z2, f0⟩ := cells3 F4.out
          have f1 := f0 1
          have f2 := f0 2
          have f0 := f0 0
          refine wpAnyH_ready (rs := [6]) (by kernel_rfl) (by simp) ?_
          refine AllReadyH.cons (o := ⟨none, _, _, _, _, _⟩) rfl (fun K hK => ?_) AllReadyH.nil
          go_simp
          have hX := set3_all (v0 := .slice T1 n1 t1) (v1 := .slice T2 n t2) (v2 := .slice T3 n3 t3) F4.out
          have hblk : ∀ q, q ≠ u0.heap.size → (((u36.setCell ⟨u0.heap.size, 0, none⟩ (.slice T1 n1 t1)).setCell ⟨u0.heap.size, 1, none⟩ (.slice T2 n t2)).setCell ⟨u0.heap.size, 2, none⟩ (.slice T3 n3 t3)).heap[q]? = u36.heap[q]? := fun q hq => (Below.heap_setCell _ _ _ _ hq).trans ((Below.heap_setCell _ _ _ _ hq).trans (Below.heap_setCell _ _ _ _ hq))
          have hzw : w2.heap.size ≤ u0.heap.size := by omega
          have HKEEP : Hid (Below w2.heap.size w2 (((u36.setCell ⟨u0.heap.size, 0, none⟩ (.slice T1 n1 t1)).setCell ⟨u0.heap.size, 1, none⟩ (.slice T2 n t2)).setCell ⟨u0.heap.size, 2, none⟩ (.slice T3 n3 t3))) := Lib.hid (((HKEEP.out.setCell (show w2.heap.size ≤ (⟨u0.heap.size, 0, none⟩ : Addr).block from hzw) _).setCell (show w2.heap.size ≤ (⟨u0.heap.size, 1, none⟩ : Addr).block from hzw) _).setCell (show w2.heap.size ≤ (⟨u0.heap.size, 2, none⟩ : Addr).block from hzw) _)
          have F4 := Lib.hid hX
          have F5 := Lib.hid ((hblk _ (by first | exact N5_4.out | exact fun e => N4_5.out e.symm)).trans F5.out)
          have G1 := Lib.hid (G1.out.keep (w' := (((u36.setCell ⟨u0.heap.size, 0, none⟩ (.slice T1 n1 t1)).setCell ⟨u0.heap.size, 1, none⟩ (.slice T2 n t2)).setCell ⟨u0.heap.size, 2, none⟩ (.slice T3 n3 t3))) (by simp) (fun q h1 h2 => hblk q (by omega)))
          have G3 := Lib.hid (G3.out.keep (w' := (((u36.setCell ⟨u0.heap.size, 0, none⟩ (.slice T1 n1 t1)).setCell ⟨u0.heap.size, 1, none⟩ (.slice T2 n t2)).setCell ⟨u0.heap.size, 2, none⟩ (.slice T3 n3 t3))) (by simp) (fun q h1 h2 => hblk q (by omega)))
          refine hK.out _ _ (HV.out _ HKEEP.out) (fun _ => ?_)
          clear hK K z0 z1 z2 f0 f1 f2 hX hblk hzw
          try dsimp only
          generalize (((u36.setCell ⟨u0.heap.size, 0, none⟩ (.slice T1 n1 t1)).setCell ⟨u0.heap.size, 1, none⟩ (.slice T2 n t2)).setCell ⟨u0.heap.size, 2, none⟩ (.slice T3 n3 t3)) = u37 at *
          obtain ⟨z0, z1, z2, f0⟩ := cells3 F5.out
          have f1 := f0 1
          have f2 := f0 2
          have f0 := f0 0
          refine wpAnyH_ready (rs := [7]) (by kernel_rfl) (by simp) ?_
          refine AllReadyH.cons (o := ⟨none, _, _, _, _, _⟩) rfl (fun K hK => ?_) AllReadyH.nil
          go_simp
          have hX := set3_all (v0 := .slice U1 n1 m1) (v1 := .slice U2 n m2) (v2 := .slice U3 n3 m3) F5.out
          have hblk : ∀ q, q ≠ u30.heap.size → (((u37.setCell ⟨u30.heap.size, 0, none⟩ (.slice U1 n1 m1)).setCell ⟨u30.heap.size, 1, none⟩ (.slice U2 n m2)).setCell ⟨u30.heap.size, 2, none⟩ (.slice U3 n3 m3)).heap[q]? = u37.heap[q]? := fun q hq => (Below.heap_setCell _ _ _ _ hq).trans ((Below.heap_setCell _ _ _ _ hq).trans (Below.heap_setCell _ _ _ _ hq))
          have hzw : w2.heap.size ≤ u30.heap.size := by omega
          have HKEEP : Hid (Below w2.heap.size w2 (((u37.setCell ⟨u30.heap.size, 0, none⟩ (.slice U1 n1 m1)).setCell ⟨u30.heap.size, 1, none⟩ (.slice U2 n m2)).setCell ⟨u30.heap.size, 2, none⟩ (.slice U3 n3 m3))) := Lib.hid (((HKEEP.out.setCell (show w2.heap.size ≤ (⟨u30.heap.size, 0, none⟩ : Addr).block from hzw) _).setCell (show w2.heap.size ≤ (⟨u30.heap.size, 1, none⟩ : Addr).block from hzw) _).setCell (show w2.heap.size ≤ (⟨u30.heap.size, 2, none⟩ : Addr).block from hzw) _)
          have F5 := Lib.hid hX
          have F4 := Lib.hid ((hblk _ (by first | exact N4_5.out | exact fun e => N5_4.out e.symm)).trans F4.out)
          have G1 := Lib.hid (G1.out.keep (w' := (((u37.setCell ⟨u30.heap.size, 0, none⟩ (.slice U1 n1 m1)).setCell ⟨u30.heap.size, 1, none⟩ (.slice U2 n m2)).setCell ⟨u30.heap.size, 2, none⟩ (.slice U3 n3 m3))) (by simp) (fun q h1 h2 => hblk q (by omega)))
          have G3 := Lib.hid (G3.out.keep (w' := (((u37.setCell ⟨u30.heap.size, 0, none⟩ (.slice U1 n1 m1)).setCell ⟨u30.heap.size, 1, none⟩ (.slice U2 n m2)).setCell ⟨u30.heap.size, 2, none⟩ (.slice U3 n3 m3))) (by simp) (fun q h1 h2 => hblk q (by omega)))
          refine hK.out _ _ (HV.out _ HKEEP.out) (fun _ => ?_)
          clear hK K z0 z1 z2 f0 f1 f2 hX hblk hzw
          try dsimp only
          generalize (((u37.setCell ⟨u30.heap.size, 0, none⟩ (.slice U1 n1 m1)).setCell ⟨u30.heap.size, 1, none⟩ (.slice U2 n m2)).setCell ⟨u30.heap.size, 2, none⟩ (.slice U3 n3 m3)) = u38 at *
          have HFIN : Hid (Kept w2 G n1 n n3 u0.heap.size u30.heap.size T1 t1 T2 t2 T3 t3 U1 m1 U2 m2 U3 m3 u38) := Lib.hid ⟨F4.out, F5.out, G1.out.gv, G3.out.gv, HKEEP.out⟩
          refine wpAnyH_done (by kernel_rfl) ?_ _
          go_wp2
          go_meet
          case rel => exact ⟨u0.heap.size, u30.heap.size, T1, t1, T2, t2, T3, t3, U1, m1, U2, m2, U3, m3, rfl, rfl, HFIN⟩
      · rw [if_pos (by kernel_rfl)]
        go_simp
        have hB : Below u29.heap.size u29 (u29.alloc (.cells #[.slice none 0 0, .slice none 0 0, .slice none 0 0] 26)) := below1 u29 _
        have hF : (u29.alloc (.cells #[.slice none 0 0, .slice none 0 0, .slice none 0 0] 26)).heap[u29.heap.size]? = some (.cells #[.slice none 0 0, .slice none 0 0, .slice none 0 0] 26 (0, 0)) := World.alloc_heap_new u29 _
        have hsz : u29.heap.size + 1 ≤ (u29.alloc (.cells #[.slice none 0 0, .slice none 0 0, .slice none 0 0] 26)).heap.size := by simp
        have N4_5 : Hid (u0.heap.size ≠ u29.heap.size) := Lib.hid (by have := (Array.getElem?_eq_some_iff.1 F4.out).1; omega)
        have HKEEP := Lib.hid (HKEEP.out.trans (hB.mono HKEEP.out.size))
        have F4 := Lib.hid ((hB.block _ (Array.getElem?_eq_some_iff.1 F4.out).1).trans F4.out)
        have F5 := Lib.hid hF
        have HS39 : Hid _ := Lib.hid (HV.out _ HKEEP.out)
        refine hK.out _ _ HS39.out (fun _ => ?_)
        clear hK K hB hF
        try dsimp only
        generalize (u29.alloc (.cells #[.slice none 0 0, .slice none 0 0, .slice none 0 0] 26)) = u39 at *
        refine wpAnyH_ready (rs := [1]) (by kernel_rfl) (by simp) ?_
        refine AllReadyH.cons (o := ⟨some 10, _, _, _, _, _⟩) rfl (fun K hK => ?_) AllReadyH.nil
        rw [if_pos (by kernel_rfl)]
        go_simp
        go_at_call 26
        refine (turn_n (HGV.out _ HKEEP.out) HN1.out HN.out HN3.out HLD.out HI.out HL.out).mono ?_
        rintro e u40 ⟨T1, t1, T2, t2, T3, t3, E1, rfl, hE1, hf, hb⟩
        have hsz := hb.size
        have HKEEP := Lib.hid (HKEEP.out.trans (hb.mono HKEEP.out.size))
        have F4 := Lib.hid ((hb.block _ (Array.getElem?_eq_some_iff.1 F4.out).1).trans F4.out)
        have F5 := Lib.hid ((hb.block _ (Array.getElem?_eq_some_iff.1 F5.out).1).trans F5.out)
        have G1 := Lib.hid hf
        have HS40 : Hid _ := Lib.hid (HV.out _ HKEEP.out)
        refine hK.out _ _ HS40.out (fun _ => ?_)
        clear hK K hb hf
        try simp only [Act.put, List.setIfInBounds_toArray, List.set_cons_zero, List.set_cons_succ]
        refine wpAnyH_ready (rs := [3]) (by kernel_rfl) (by simp) ?_
        refine AllReadyH.cons (o := ⟨some 12, _, _, _, _, _⟩) rfl (fun K hK => ?_) AllReadyH.nil
        rw [if_pos (by kernel_rfl)]
        go_simp
        go_at_call 27
        refine (total_n (HGV.out _ HKEEP.out) HN1.out HN.out HN3.out HLD.out HI.out HL.out).mono ?_
        rintro e u41 ⟨U1, m1, U2, m2, U3, m3, E3, rfl, hE3, hf, hb⟩
        have hsz := hb.size
        have HKEEP := Lib.hid (HKEEP.out.trans (hb.mono HKEEP.out.size))
        have F4 := Lib.hid ((hb.block _ (Array.getElem?_eq_some_iff.1 F4.out).1).trans F4.out)
        have F5 := Lib.hid ((hb.block _ (Array.getElem?_eq_some_iff.1 F5.out).1).trans F5.out)
        have G1 := Lib.hid (G1.out.below (by omega) hb)
        have G3 := Lib.hid hf
        have HS41 : Hid _ := Lib.hid (HV.out _ HKEEP.out)
        refine hK.out _ _ HS41.out (fun _ => ?_)
        clear hK K hb hf
        try simp only [Act.put, List.setIfInBounds_toArray, List.set_cons_zero, List.set_cons_succ]
        obtain ⟨z0, z1, z2, f0⟩ := cells3 F4.out
        have f1 := f0 1
        have f2 := f0 2
        have f0 := f0 0
        refine wpAnyH_ready (rs := [6]) (by kernel_rfl) (by simp) ?_
        refine AllReadyH.cons (o := ⟨none, _, _, _, _, _⟩) rfl (fun K hK => ?_) AllReadyH.nil
        go_simp
        have hX := set3_all (v0 := .slice T1 n1 t1) (v1 := .slice T2 n t2) (v2 := .slice T3 n3 t3) F4.out
        have hblk : ∀ q, q ≠ u0.heap.size → (((u41.setCell ⟨u0.heap.size, 0, none⟩ (.slice T1 n1 t1)).setCell ⟨u0.heap.size, 1, none⟩ (.slice T2 n t2)).setCell ⟨u0.heap.size, 2, none⟩ (.slice T3 n3 t3)).heap[q]? = u41.heap[q]? := fun q hq => (Below.heap_setCell _ _ _ _ hq).trans ((Below.heap_setCell _ _ _ _ hq).trans (Below.heap_setCell _ _ _ _ hq))
        have hzw : w2.heap.size ≤ u0.heap.size := by omega
        have HKEEP : Hid (Below w2.heap.size w2 (((u41.setCell ⟨u0.heap.size, 0, none⟩ (.slice T1 n1 t1)).setCell ⟨u0.heap.size, 1, none⟩ (.slice T2 n t2)).setCell ⟨u0.heap.size, 2, none⟩ (.slice T3 n3 t3))) := Lib.hid (((HKEEP.out.setCell (show w2.heap.size ≤ (⟨u0.heap.size, 0, none⟩ : Addr).block from hzw) _).setCell (show w2.heap.size ≤ (⟨u0.heap.size, 1, none⟩ : Addr).block from hzw) _).setCell (show w2.heap.size ≤ (⟨u0.heap.size, 2, none⟩ : Addr).block from hzw) _)
        have F4 := Lib.hid hX
        have F5 := Lib.hid ((hblk _ (by first | exact N5_4.out | exact fun e => N4_5.out e.symm)).trans F5.out)
        have G1 := Lib.hid (G1.out.keep (w' := (((u41.setCell ⟨u0.heap.size, 0, none⟩ (.slice T1 n1 t1)).setCell ⟨u0.heap.size, 1, none⟩ (.slice T2 n t2)).setCell ⟨u0.heap.size, 2, none⟩ (.slice T3 n3 t3))) (by simp) (fun q h1 h2 => hblk q (by omega)))
        have G3 := Lib.hid (G3.out.keep (w' := (((u41.setCell ⟨u0.heap.size, 0, none⟩ (.slice T1 n1 t1)).setCell ⟨u0.heap.size, 1, none⟩ (.slice T2 n t2)).setCell ⟨u0.heap.size, 2, none⟩ (.slice T3 n3 t3))) (by simp) (fun q h1 h2 => hblk q (by omega)))
        refine hK.out _ _ (HV.out _ HKEEP.out) (fun _ => ?_)
        clear hK K z0 z1 z2 f0 f1 f2 hX hblk hzw
        try dsimp only
        generalize (((u41.setCell ⟨u0.heap.size, 0, none⟩ (.slice T1 n1 t1)).setCell ⟨u0.heap.size, 1, none⟩ (.slice T2 n t2)).setCell ⟨u0.heap.size, 2, none⟩ (.slice T3 n3 t3)) = u42 at *
        obtain ⟨z0, z1, z2, f0⟩ := cells3 F5.out
        have f1 := f0 1
        have f2 := f0 2
        have f0 := f0 0
        refine wpAnyH_ready (rs := [7]) (by kernel_rfl) (by simp) ?_
        refine AllReadyH.cons (o := ⟨none, _, _, _, _, _⟩) rfl (fun K hK => ?_) AllReadyH.nil
        go_simp
        have hX := set3_all (v0 := .slice U1 n1 m1) (v1 := .slice U2 n m2) (v2 := .slice U3 n3 m3) F5.out
        have hblk : ∀ q, q ≠ u29.heap.size → (((u42.setCell ⟨u29.heap.size, 0, none⟩ (.slice U1 n1 m1)).setCell ⟨u29.heap.size, 1, none⟩ (.slice U2 n m2)).setCell ⟨u29.heap.size, 2, none⟩ (.slice U3 n3 m3)).heap[q]? = u42.heap[q]? := fun q hq => (Below.heap_setCell _ _ _ _ hq).trans ((Below.heap_setCell _ _ _ _ hq).trans (Below.heap_setCell _ _ _ _ hq))
        have hzw : w2.heap.size ≤ u29.heap.size := by omega
        have HKEEP : Hid (Below w2.heap.size w2 (((u42.setCell ⟨u29.heap.size, 0, none⟩ (.slice U1 n1 m1)).setCell ⟨u29.heap.size, 1, none⟩ (.slice U2 n m2)).setCell ⟨u29.heap.size, 2, none⟩ (.slice U3 n3 m3))) := Lib.hid (((HKEEP.out.setCell (show w2.heap.size ≤ (⟨u29.heap.size, 0, none⟩ : Addr).block from hzw) _).setCell (show w2.heap.size ≤ (⟨u29.heap.size, 1, none⟩ : Addr).block from hzw) _).setCell (show w2.heap.size ≤ (⟨u29.heap.size, 2, none⟩ : Addr).block from hzw) _)
        have F5 := Lib.hid hX
        have F4 := Lib.hid ((hblk _ (by first | exact N4_5.out | exact fun e => N5_4.out e.symm)).trans F4.out)
        have G1 := Lib.hid (G1.out.keep (w' := (((u42.setCell ⟨u29.heap.size, 0, none⟩ (.slice U1 n1 m1)).setCell ⟨u29.heap.size, 1, none⟩ (.slice U2 n m2)).setCell ⟨u29.heap.size, 2, none⟩ (.slice U3 n3 m3))) (by simp) (fun q h1 h2 => hblk q (by omega)))
        have G3 := Lib.hid (G3.out.keep (w' := (((u42.setCell ⟨u29.heap.size, 0, none⟩ (.slice U1 n1 m1)).setCell ⟨u29.heap.size, 1, none⟩ (.slice U2 n m2)).setCell ⟨u29.heap.size, 2, none⟩ (.slice U3 n3 m3))) (by simp) (fun q h1 h2 => hblk q (by omega)))
        refine hK.out _ _ (HV.out _ HKEEP.out) (fun _ => ?_)
        clear hK K z0 z1 z2 f0 f1 f2 hX hblk hzw
        try dsimp only
        generalize (((u42.setCell ⟨u29.heap.size, 0, none⟩ (.slice U1 n1 m1)).setCell ⟨u29.heap.size, 1, none⟩ (.slice U2 n m2)).setCell ⟨u29.heap.size, 2, none⟩ (.slice U3 n3 m3)) = u43 at *
        have HFIN : Hid (Kept w2 G n1 n n3 u0.heap.size u29.heap.size T1 t1 T2 t2 T3 t3 U1 m1 U2 m2 U3 m3 u43) := Lib.hid ⟨F4.out, F5.out, G1.out.gv, G3.out.gv, HKEEP.out⟩
        refine wpAnyH_done (by kernel_rfl) ?_ _
        go_wp2
        go_meet
        case rel => exact ⟨u0.heap.size, u29.heap.size, T1, t1, T2, t2, T3, t3, U1, m1, U2, m2, U3, m3, rfl, rfl, HFIN⟩
    · rw [if_pos (by kernel_rfl)]
      go_simp
      have hB : Below u0.heap.size u0 (u0.alloc (.cells #[.slice none 0 0, .slice none 0 0, .slice none 0 0] 26)) := below1 u0 _
      have hF : (u0.alloc (.cells #[.slice none 0 0, .slice none 0 0, .slice none 0 0] 26)).heap[u0.heap.size]? = some (.cells #[.slice none 0 0, .slice none 0 0, .slice none 0 0] 26 (0, 0)) := World.alloc_heap_new u0 _
      have hsz : u0.heap.size + 1 ≤ (u0.alloc (.cells #[.slice none 0 0, .slice none 0 0, .slice none 0 0] 26)).heap.size := by simp
      have HKEEP := Lib.hid (HKEEP.out.trans (hB.mono HKEEP.out.size))
      have F5 := Lib.hid hF
      have HS44 : Hid _ := Lib.hid (HV.out _ HKEEP.out)
      refine hK.out _ _ HS44.out (fun _ => ?_)
      clear hK K hB hF
      try dsimp only
      generalize (u0.alloc (.cells #[.slice none 0 0, .slice none 0 0, .slice none 0 0] 26)) = u44 at *
      refine wpAnyH_ready (rs := [1, 4]) (by kernel_rfl) (by simp) ?_
      refine AllReadyH.cons (o := ⟨some 10, _, _, _, _, _⟩) rfl (fun K hK => ?_) (AllReadyH.cons (o := ⟨some 3, _, _, _, _, _⟩) rfl (fun K hK => ?_) AllReadyH.nil)
      · rw [if_pos (by kernel_rfl)]
        go_simp
        go_at_call 26
        refine (turn_n (HGV.out _ HKEEP.out) HN1.out HN.out HN3.out HLD.out HI.out HL.out).mono ?_
        rintro e u45 ⟨T1, t1, T2, t2, T3, t3, E1, rfl, hE1, hf, hb⟩
        have hsz := hb.size
        have HKEEP := Lib.hid (HKEEP.out.trans (hb.mono HKEEP.out.size))
        have F5 := Lib.hid ((hb.block _ (Array.getElem?_eq_some_iff.1 F5.out).1).trans F5.out)
        have G1 := Lib.hid hf
        have HS45 : Hid _ := Lib.hid (HV.out _ HKEEP.out)
        refine hK.out _ _ HS45.out (fun _ => ?_)
        clear hK K hb hf
        try simp only [Act.put, List.setIfInBounds_toArray, List.set_cons_zero, List.set_cons_succ]
        refine wpAnyH_ready (rs := [3, 4]) (by kernel_rfl) (by simp) ?_
        refine AllReadyH.cons (o := ⟨some 12, _, _, _, _, _⟩) rfl (fun K hK => ?_) (AllReadyH.cons (o := ⟨some 3, _, _, _, _, _⟩) rfl (fun K hK => ?_) AllReadyH.nil)
        · rw [if_pos (by kernel_rfl)]
          go_simp
          go_at_call 27
          refine (total_n (HGV.out _ HKEEP.out) HN1.out HN.out HN3.out HLD.out HI.out HL.out).mono ?_
          rintro e u46 ⟨U1, m1, U2, m2, U3, m3, E3, rfl, hE3, hf, hb⟩
          have hsz := hb.size
          have HKEEP := Lib.hid (HKEEP.out.trans (hb.mono HKEEP.out.size))
          have F5 := Lib.hid ((hb.block _ (Array.getElem?_eq_some_iff.1 F5.out).1).trans F5.out)
          have G1 := Lib.hid (G1.out.below (by omega) hb)
          have G3 := Lib.hid hf
          have HS46 : Hid _ := Lib.hid (HV.out _ HKEEP.out)
          refine hK.out _ _ HS46.out (fun _ => ?_)
          clear hK K hb hf
          try simp only [Act.put, List.setIfInBounds_toArray, List.set_cons_zero, List.set_cons_succ]
          refine wpAnyH_ready (rs := [4]) (by kernel_rfl) (by simp) ?_
          refine AllReadyH.cons (o := ⟨some 3, _, _, _, _, _⟩) rfl (fun K hK => ?_) AllReadyH.nil
          rw [if_pos (by kernel_rfl)]
          go_simp
          have hB : Below u46.heap.size u46 (u46.alloc (.cells #[.slice none 0 0, .slice none 0 0, .slice none 0 0] 26)) := below1 u46 _
          have hF : (u46.alloc (.cells #[.slice none 0 0, .slice none 0 0, .slice none 0 0] 26)).heap[u46.heap.size]? = some (.cells #[.slice none 0 0, .slice none 0 0, .slice none 0 0] 26 (0, 0)) := World.alloc_heap_new u46 _
          have hsz : u46.heap.size + 1 ≤ (u46.alloc (.cells #[.slice none 0 0, .slice none 0 0, .slice none 0 0] 26)).heap.size := by simp
          have N5_4 : Hid (u0.heap.size ≠ u46.heap.size) := Lib.hid (by have := (Array.getElem?_eq_some_iff.1 F5.out).1; omega)
          have HKEEP := Lib.hid (HKEEP.out.trans (hB.mono HKEEP.out.size))
          have F5 := Lib.hid ((hB.block _ (Array.getElem?_eq_some_iff.1 F5.out).1).trans F5.out)
          have G1 := Lib.hid (G1.out.below (by omega) hB)
          have G3 := Lib.hid (G3.out.below (by omega) hB)
          have F4 := Lib.hid hF
          have HS47 : Hid _ := Lib.hid (HV.out _ HKEEP.out)
          refine hK.out _ _ HS47.out (fun _ => ?_)
          clear hK K hB hF
          try dsimp only
          generalize (u46.alloc (.cells #[.slice none 0 0, .slice none 0 0, .slice none 0 0] 26)) = u47 at *
          obtain ⟨z0, z1, z2, f0⟩ := cells3 F4.out
          have f1 := f0 1
          have f2 := f0 2
          have f0 := f0 0
          refine wpAnyH_ready (rs := [6]) (by kernel_rfl) (by simp) ?_
          refine AllReadyH.cons (o := ⟨none, _, _, _, _, _⟩) rfl (fun K hK => ?_) AllReadyH.nil
          go_simp
          have hX := set3_all (v0 := .slice T1 n1 t1) (v1 := .slice T2 n t2) (v2 := .slice T3 n3 t3) F4.out
          have hblk : ∀ q, q ≠ u46.heap.size → (((u47.setCell ⟨u46.heap.size, 0, none⟩ (.slice T1 n1 t1)).setCell ⟨u46.heap.size, 1, none⟩ (.slice T2 n t2)).setCell ⟨u46.heap.size, 2, none⟩ (.slice T3 n3 t3)).heap[q]? = u47.heap[q]? := fun q hq => (Below.heap_setCell _ _ _ _ hq).trans ((Below.heap_setCell _ _ _ _ hq).trans (Below.heap_setCell _ _ _ _ hq))
          have hzw : w2.heap.size ≤ u46.heap.size := by omega
          have HKEEP : Hid (Below w2.heap.size w2 (((u47.setCell ⟨u46.heap.size, 0, none⟩ (.slice T1 n1 t1)).setCell ⟨u46.heap.size, 1, none⟩ (.slice T2 n t2)).setCell ⟨u46.heap.size, 2, none⟩ (.slice T3 n3 t3))) := Lib.hid (((HKEEP.out.setCell (show w2.heap.size ≤ (⟨u46.heap.size, 0, none⟩ : Addr).block from hzw) _).setCell (show w2.heap.size ≤ (⟨u46.heap.size, 1, none⟩ : Addr).block from hzw) _).setCell (show w2.heap.size ≤ (⟨u46.heap.size, 2, none⟩ : Addr).block from hzw) _)
          have F4 := Lib.hid hX
          have F5 := Lib.hid ((hblk _ (by first | exact N5_4.out | exact fun e => N4_5.out e.symm)).trans F5.out)
          have G1 := Lib.hid (G1.out.keep (w' := (((u47.setCell ⟨u46.heap.size, 0, none⟩ (.slice T1 n1 t1)).setCell ⟨u46.heap.size, 1, none⟩ (.slice T2 n t2)).setCell ⟨u46.heap.size, 2, none⟩ (.slice T3 n3 t3))) (by simp) (fun q h1 h2 => hblk q (by omega)))
          have G3 := Lib.hid (G3.out.keep (w' := (((u47.setCell ⟨u46.heap.size, 0, none⟩ (.slice T1 n1 t1)).setCell ⟨u46.heap.size, 1, none⟩ (.slice T2 n t2)).setCell ⟨u46.heap.size, 2, none⟩ (.slice T3 n3 t3))) (by simp) (fun q h1 h2 => hblk q (by omega)))
          refine hK.out _ _ (HV.out _ HKEEP.out) (fun _ => ?_)
          clear hK K z0 z1 z2 f0 f1 f2 hX hblk hzw
          try dsimp only
          generalize (((u47.setCell ⟨u46.heap.size, 0, none⟩ (.slice T1 n1 t1)).setCell ⟨u46.heap.size, 1, none⟩ (.slice T2 n t2)).setCell ⟨u46.heap.size, 2, none⟩ (.slice T3 n3 t3)) = u48 at *
          obtain ⟨z0, z1, z2, f0⟩ := cells3 F5.out
          have f1 := f0 1
          have f2 := f0 2
          have f0 := f0 0
          refine wpAnyH_ready (rs := [7]) (by kernel_rfl) (by simp) ?_
          refine AllReadyH.cons (o := ⟨none, _, _, _, _, _⟩) rfl (fun K hK => ?_) AllReadyH.nil
          go_simp
          have hX := set3_all (v0 := .slice U1 n1 m1) (v1 := .slice U2 n m2) (v2 := .slice U3 n3 m3) F5.out
          have hblk : ∀ q, q ≠ u0.heap.size → (((u48.setCell ⟨u0.heap.size, 0, none⟩ (.slice U1 n1 m1)).setCell ⟨u0.heap.size, 1, none⟩ (.slice U2 n m2)).setCell ⟨u0.heap.size, 2, none⟩ (.slice U3 n3 m3)).heap[q]? = u48.heap[q]? := fun q hq => (Below.heap_setCell _ _ _ _ hq).trans ((Below.heap_setCell _ _ _ _ hq).trans (Below.heap_setCell _ _ _ _ hq))
          have hzw : w2.heap.size ≤ u0.heap.size := by omega
          have HKEEP : Hid (Below w2.heap.size w2 (((u48.setCell ⟨u0.heap.size, 0, none⟩ (.slice U1 n1 m1)).setCell ⟨u0.heap.size, 1, none⟩ (.slice U2 n m2)).setCell ⟨u0.heap.size, 2, none⟩ (.slice U3 n3 m3))) := Lib.hid (((HKEEP.out.setCell (show w2.heap.size ≤ (⟨u0.heap.size, 0, none⟩ : Addr).block from hzw) _).setCell (show w2.heap.size ≤ (⟨u0.heap.size, 1, none⟩ : Addr).block from hzw) _).setCell (show w2.heap.size ≤ (⟨u0.heap.size, 2, none⟩ : Addr).block from hzw) _)
          have F5 := Lib.hid hX
          have F4 := Lib.hid ((hblk _ (by first | exact N4_5.out | exact fun e => N5_4.out e.symm)).trans F4.out)
          have G1 := Lib.hid (G1.out.keep (w' := (((u48.setCell ⟨u0.heap.size, 0, none⟩ (.slice U1 n1 m1)).setCell ⟨u0.heap.size, 1, none⟩ (.slice U2 n m2)).setCell ⟨u0.heap.size, 2, none⟩ (.slice U3 n3 m3))) (by simp) (fun q h1 h2 => hblk q (by omega)))
          have G3 := Lib.hid (G3.out.keep (w' := (((u48.setCell ⟨u0.heap.size, 0, none⟩ (.slice U1 n1 m1)).setCell ⟨u0.heap.size, 1, none⟩ (.slice U2 n m2)).setCell ⟨u0.heap.size, 2, none⟩ (.slice U3 n3 m3))) (by simp) (fun q h1 h2 => hblk q (by omega)))
          refine hK.out _ _ (HV.out _ HKEEP.out) (fun _ => ?_)
          clear hK K z0 z1 z2 f0 f1 f2 hX hblk hzw
          try dsimp only
          generalize (((u48.setCell ⟨u0.heap.size, 0, none⟩ (.slice U1 n1 m1)).setCell ⟨u0.heap.size, 1, none⟩ (.slice U2 n m2)).setCell ⟨u0.heap.size, 2, none⟩ (.slice U3 n3 m3)) = u49 at *
          have HFIN : Hid (Kept w2 G n1 n n3 u46.heap.size u0.heap.size T1 t1 T2 t2 T3 t3 U1 m1 U2 m2 U3 m3 u49) := Lib.hid ⟨F4.out, F5.out, G1.out.gv, G3.out.gv, HKEEP.out⟩
          refine wpAnyH_done (by kernel_rfl) ?_ _
          go_wp2
          go_meet
          case rel => exact ⟨u46.heap.size, u0.heap.size, T1, t1, T2, t2, T3, t3, U1, m1, U2, m2, U3, m3, rfl, rfl, HFIN⟩
        · rw [if_pos (by kernel_rfl)]
          go_simp
          have hB : Below u45.heap.size u45 (u45.alloc (.cells #[.slice none 0 0, .slice none 0 0, .slice none 0 0] 26)) := below1 u45 _
          have hF : (u45.alloc (.cells #[.slice none 0 0, .slice none 0 0, .slice none 0 0] 26)).heap[u45.heap.size]? = some (.cells #[.slice none 0 0, .slice none 0 0, .slice none 0 0] 26 (0, 0)) := World.alloc_heap_new u45 _
          have hsz : u45.heap.size + 1 ≤ (u45.alloc (.cells #[.slice none 0 0, .slice none 0 0, .slice none 0 0] 26)).heap.size := by simp
          have N5_4 : Hid (u0.heap.size ≠ u45.heap.size) := Lib.hid (by have := (Array.getElem?_eq_some_iff.1 F5.out).1; omega)
          have HKEEP := Lib.hid (HKEEP.out.trans (hB.mono HKEEP.out.size))
          have F5 := Lib.hid ((hB.block _ (Array.getElem?_eq_some_iff.1 F5.out).1).trans F5.out)
          have G1 := Lib.hid (G1.out.below (by omega) hB)
          have F4 := Lib.hid hF
          have HS50 : Hid _ := Lib.hid (HV.out _ HKEEP.out)
          refine hK.out _ _ HS50.out (fun _ => ?_)
          clear hK K hB hF
          try dsimp only
          generalize (u45.alloc (.cells #[.slice none 0 0, .slice none 0 0, .slice none 0 0] 26)) = u50 at *
          refine wpAnyH_ready (rs := [3]) (by kernel_rfl) (by simp) ?_
          refine AllReadyH.cons (o := ⟨some 12, _, _, _, _, _⟩) rfl (fun K hK => ?_) AllReadyH.nil
          rw [if_pos (by kernel_rfl)]
          go_simp
          go_at_call 27
          refine (total_n (HGV.out _ HKEEP.out) HN1.out HN.out HN3.out HLD.out HI.out HL.out).mono ?_
          rintro e u51 ⟨U1, m1, U2, m2, U3, m3, E3, rfl, hE3, hf, hb⟩
          have hsz := hb.size
          have HKEEP := Lib.hid (HKEEP.out.trans (hb.mono HKEEP.out.size))
          have F5 := Lib.hid ((hb.block _ (Array.getElem?_eq_some_iff.1 F5.out).1).trans F5.out)
          have F4 := Lib.hid ((hb.block _ (Array.getElem?_eq_some_iff.1 F4.out).1).trans F4.out)
          have G1 := Lib.hid (G1.out.below (by omega) hb)
          have G3 := Lib.hid hf
          have HS51 : Hid _ := Lib.hid (HV.out _ HKEEP.out)
          refine hK.out _ _ HS51.out (fun _ => ?_)
          clear hK K hb hf
          try simp only [Act.put, List.setIfInBounds_toArray, List.set_cons_zero, List.set_cons_succ]
          obtain ⟨z0, z1, z2, f0⟩ := cells3 F4.out
          have f1 := f0 1
          have f2 := f0 2
          have f0 := f0 0
          refine wpAnyH_ready (rs := [6]) (by kernel_rfl) (by simp) ?_
          refine AllReadyH.cons (o := ⟨none, _, _, _, _, _⟩) rfl (fun K hK => ?_) AllReadyH.nil
          go_simp
          have hX := set3_all (v0 := .slice T1 n1 t1) (v1 := .slice T2 n t2) (v2 := .slice T3 n3 t3) F4.out
          have hblk : ∀ q, q ≠ u45.heap.size → (((u51.setCell ⟨u45.heap.size, 0, none⟩ (.slice T1 n1 t1)).setCell ⟨u45.heap.size, 1, none⟩ (.slice T2 n t2)).setCell ⟨u45.heap.size, 2, none⟩ (.slice T3 n3 t3)).heap[q]? = u51.heap[q]? := fun q hq => (Below.heap_setCell _ _ _ _ hq).trans ((Below.heap_setCell _ _ _ _ hq).trans (Below.heap_setCell _ _ _ _ hq))
          have hzw : w2.heap.size ≤ u45.heap.size := by omega
          have HKEEP : Hid (Below w2.heap.size w2 (((u51.setCell ⟨u45.heap.size, 0, none⟩ (.slice T1 n1 t1)).setCell ⟨u45.heap.size, 1, none⟩ (.slice T2 n t2)).setCell ⟨u45.heap.size, 2, none⟩ (.slice T3 n3 t3))) := Lib.hid (((HKEEP.out.setCell (show w2.heap.size ≤ (⟨u45.heap.size, 0, none⟩ : Addr).block from hzw) _).setCell (show w2.heap.size ≤ (⟨u45.heap.size, 1, none⟩ : Addr).block from hzw) _).setCell (show w2.heap.size ≤ (⟨u45.heap.size, 2, none⟩ : Addr).block from hzw) _)
          have F4 := Lib.hid hX
          have F5 := Lib.hid ((hblk _ (by first | exact N5_4.out | exact fun e => N4_5.out e.symm)).trans F5.out)
          have G1 := Lib.hid (G1.out.keep (w' := (((u51.setCell ⟨u45.heap.size, 0, none⟩ (.slice T1 n1 t1)).setCell ⟨u45.heap.size, 1, none⟩ (.slice T2 n t2)).setCell ⟨u45.heap.size, 2, none⟩ (.slice T3 n3 t3))) (by simp) (fun q h1 h2 => hblk q (by omega)))
          have G3 := Lib.hid (G3.out.keep (w' := (((u51.setCell ⟨u45.heap.size, 0, none⟩ (.slice T1 n1 t1)).setCell ⟨u45.heap.size, 1, none⟩ (.slice T2 n t2)).setCell ⟨u45.heap.size, 2, none⟩ (.slice T3 n3 t3))) (by simp) (fun q h1 h2 => hblk q (by omega)))
          refine hK.out _ _ (HV.out _ HKEEP.out) (fun _ => ?_)
          clear hK K z0 z1 z2 f0 f1 f2 hX hblk hzw
          try dsimp only
          generalize (((u51.setCell ⟨u45.heap.size, 0, none⟩ (.slice T1 n1 t1)).setCell ⟨u45.heap.size, 1, none⟩ (.slice T2 n t2)).setCell ⟨u45.heap.size, 2, none⟩ (.slice T3 n3 t3)) = u52 at *
          obtain ⟨z0, z1, z2, f0⟩ := cells3 F5.out
          have f1 := f0 1
          have f2 := f0 2
          have f0 := f0 0
          refine wpAnyH_ready (rs := [7]) (by kernel_rfl) (by simp) ?_
          refine AllReadyH.cons (o := ⟨none, _, _, _, _, _⟩) rfl (fun K hK => ?_) AllReadyH.nil
          go_simp
          have hX := set3_all (v0 := .slice U1 n1 m1) (v1 := .slice U2 n m2) (v2 := .slice U3 n3 m3) F5.out
          have hblk : ∀ q, q ≠ u0.heap.size → (((u52.setCell ⟨u0.heap.size, 0, none⟩ (.slice U1 n1 m1)).setCell ⟨u0.heap.size, 1, none⟩ (.slice U2 n m2)).setCell ⟨u0.heap.size, 2, none⟩ (.slice U3 n3 m3)).heap[q]? = u52.heap[q]? := fun q hq => (Below.heap_setCell _ _ _ _ hq).trans ((Below.heap_setCell _ _ _ _ hq).trans (Below.heap_setCell _ _ _ _ hq))
          have hzw : w2.heap.size ≤ u0.heap.size := by omega
          have HKEEP : Hid (Below w2.heap.size w2 (((u52.setCell ⟨u0.heap.size, 0, none⟩ (.slice U1 n1 m1)).setCell ⟨u0.heap.size, 1, none⟩ (.slice U2 n m2)).setCell ⟨u0.heap.size, 2, none⟩ (.slice U3 n3 m3))) := Lib.hid (((HKEEP.out.setCell (show w2.heap.size ≤ (⟨u0.heap.size, 0, none⟩ : Addr).block from hzw) _).setCell (show w2.heap.size ≤ (⟨u0.heap.size, 1, none⟩ : Addr).block from hzw) _).setCell (show w2.heap.size ≤ (⟨u0.heap.size, 2, none⟩ : Addr).block from hzw) _)
          have F5 := Lib.hid hX
          have F4 := Lib.hid ((hblk _ (by first | exact N4_5.out | exact fun e => N5_4.out e.symm)).trans F4.out)
          have G1 := Lib.hid (G1.out.keep (w' := (((u52.setCell ⟨u0.heap.size, 0, none⟩ (.slice U1 n1 m1)).setCell ⟨u0.heap.size, 1, none⟩ (.slice U2 n m2)).setCell ⟨u0.heap.size, 2, none⟩ (.slice U3 n3 m3))) (by simp) (fun q h1 h2 => hblk q (by omega)))
          have G3 := Lib.hid (G3.out.keep (w' := (((u52.setCell ⟨u0.heap.size, 0, none⟩ (.slice U1 n1 m1)).setCell ⟨u0.heap.size, 1, none⟩ (.slice U2 n m2)).setCell ⟨u0.heap.size, 2, none⟩ (.slice U3 n3 m3))) (by simp) (fun q h1 h2 => hblk q (by omega)))
          refine hK.out _ _ (HV.out _ HKEEP.out) (fun _ => ?_)
          clear hK K z0 z1 z2 f0 f1 f2 hX hblk hzw
          try dsimp only
          generalize (((u52.setCell ⟨u0.heap.size, 0, none⟩ (.slice U1 n1 m1)).setCell ⟨u0.heap.size, 1, none⟩ (.slice U2 n m2)).setCell ⟨u0.heap.size, 2, none⟩ (.slice U3 n3 m3)) = u53 at *
          have HFIN : Hid (Kept w2 G n1 n n3 u45.heap.size u0.heap.size T1 t1 T2 t2 T3 t3 U1 m1 U2 m2 U3 m3 u53) := Lib.hid ⟨F4.out, F5.out, G1.out.gv, G3.out.gv, HKEEP.out⟩
          refine wpAnyH_done (by kernel_rfl) ?_ _
          go_wp2
          go_meet
          case rel => exact ⟨u45.heap.size, u0.heap.size, T1, t1, T2, t2, T3, t3, U1, m1, U2, m2, U3, m3, rfl, rfl, HFIN⟩
      · rw [if_pos (by kernel_rfl)]
        go_simp
        have hB : Below u44.heap.size u44 (u44.alloc (.cells #[.slice none 0 0, .slice none 0 0, .slice none 0 0] 26)) := below1 u44 _
        have hF : (u44.alloc (.cells #[.slice none 0 0, .slice none 0 0, .slice none 0 0] 26)).heap[u44.heap.size]? = some (.cells #[.slice none 0 0, .slice none 0 0, .slice none 0 0] 26 (0, 0)) := World.alloc_heap_new u44 _
        have hsz : u44.heap.size + 1 ≤ (u44.alloc (.cells #[.slice none 0 0, .slice none 0 0, .slice none 0 0] 26)).heap.size := by simp
        have N5_4 : Hid (u0.heap.size ≠ u44.heap.size) := Lib.hid (by have := (Array.getElem?_eq_some_iff.1 F5.out).1; omega)
        have HKEEP := Lib.hid (HKEEP.out.trans (hB.mono HKEEP.out.size))
        have F5 := Lib.hid ((hB.block _ (Array.getElem?_eq_some_iff.1 F5.out).1).trans F5.out)
        have F4 := Lib.hid hF
        have HS54 : Hid _ := Lib.hid (HV.out _ HKEEP.out)
        refine hK.out _ _ HS54.out (fun _ => ?_)
        clear hK K hB hF
        try dsimp only
        generalize (u44.alloc (.cells #[.slice none 0 0, .slice none 0 0, .slice none 0 0] 26)) = u54 at *
        refine wpAnyH_ready (rs := [1]) (by kernel_rfl) (by simp) ?_
        refine AllReadyH.cons (o := ⟨some 10, _, _, _, _, _⟩) rfl (fun K hK => ?_) AllReadyH.nil
        rw [if_pos (by kernel_rfl)]
        go_simp
        go_at_call 26
        refine (turn_n (HGV.out _ HKEEP.out) HN1.out HN.out HN3.out HLD.out HI.out HL.out).mono ?_
        rintro e u55 ⟨T1, t1, T2, t2, T3, t3, E1, rfl, hE1, hf, hb⟩
        have hsz := hb.size
        have HKEEP := Lib.hid (HKEEP.out.trans (hb.mono HKEEP.out.size))
        have F5 := Lib.hid ((hb.block _ (Array.getElem?_eq_some_iff.1 F5.out).1).trans F5.out)
        have F4 := Lib.hid ((hb.block _ (Array.getElem?_eq_some_iff.1 F4.out).1).trans F4.out)
        have G1 := Lib.hid hf
        have HS55 : Hid _ := Lib.hid (HV.out _ HKEEP.out)
        refine hK.out _ _ HS55.out (fun _ => ?_)
        clear hK K hb hf
        try simp only [Act.put, List.setIfInBounds_toArray, List.set_cons_zero, List.set_cons_succ]
        refine wpAnyH_ready (rs := [3]) (by kernel_rfl) (by simp) ?_
        refine AllReadyH.cons (o := ⟨some 12, _, _, _, _, _⟩) rfl (fun K hK => ?_) AllReadyH.nil
        rw [if_pos (by kernel_rfl)]
        go_simp
        go_at_call 27
        refine (total_n (HGV.out _ HKEEP.out) HN1.out HN.out HN3.out HLD.out HI.out HL.out).mono ?_
        rintro e u56 ⟨U1, m1, U2, m2, U3, m3, E3, rfl, hE3, hf, hb⟩
        have hsz := hb.size
        have HKEEP := Lib.hid (HKEEP.out.trans (hb.mono HKEEP.out.size))
        have F5 := Lib.hid ((hb.block _ (Array.getElem?_eq_some_iff.1 F5.out).1).trans F5.out)
        have F4 := Lib.hid ((hb.block _ (Array.getElem?_eq_some_iff.1 F4.out).1).trans F4.out)
        have G1 := Lib.hid (G1.out.below (by omega) hb)
        have G3 := Lib.hid hf
        have HS56 : Hid _ := Lib.hid (HV.out _ HKEEP.out)
        refine hK.out _ _ HS56.out (fun _ => ?_)
        clear hK K hb hf
        try simp only [Act.put, List.setIfInBounds_toArray, List.set_cons_zero, List.set_cons_succ]
        obtain ⟨z0, z1, z2, f0⟩ := cells3 F4.out
        have f1 := f0 1
        have f2 := f0 2
        have f0 := f0 0
        refine wpAnyH_ready (rs := [6]) (by kernel_rfl) (by simp) ?_
        refine AllReadyH.cons (o := ⟨none, _, _, _, _, _⟩) rfl (fun K hK => ?_) AllReadyH.nil
        go_simp
        have hX := set3_all (v0 := .slice T1 n1 t1) (v1 := .slice T2 n t2) (v2 := .slice T3 n3 t3) F4.out
        have hblk : ∀ q, q ≠ u44.heap.size → (((u56.setCell ⟨u44.heap.size, 0, none⟩ (.slice T1 n1 t1)).setCell ⟨u44.heap.size, 1, none⟩ (.slice T2 n t2)).setCell ⟨u44.heap.size, 2, none⟩ (.slice T3 n3 t3)).heap[q]? = u56.heap[q]? := fun q hq => (Below.heap_setCell _ _ _ _ hq).trans ((Below.heap_setCell _ _ _ _ hq).trans (Below.heap_setCell _ _ _ _ hq))
        have hzw : w2.heap.size ≤ u44.heap.size := by omega
        have HKEEP : Hid (Below w2.heap.size w2 (((u56.setCell ⟨u44.heap.size, 0, none⟩ (.slice T1 n1 t1)).setCell ⟨u44.heap.size, 1, none⟩ (.slice T2 n t2)).setCell ⟨u44.heap.size, 2, none⟩ (.slice T3 n3 t3))) := Lib.hid (((HKEEP.out.setCell (show w2.heap.size ≤ (⟨u44.heap.size, 0, none⟩ : Addr).block from hzw) _).setCell (show w2.heap.size ≤ (⟨u44.heap.size, 1, none⟩ : Addr).block from hzw) _).setCell (show w2.heap.size ≤ (⟨u44.heap.size, 2, none⟩ : Addr).block from hzw) _)
        have F4 := Lib.hid hX
        have F5 := Lib.hid ((hblk _ (by first | exact N5_4.out | exact fun e => N4_5.out e.symm)).trans F5.out)
        have G1 := Lib.hid (G1.out.keep (w' := (((u56.setCell ⟨u44.heap.size, 0, none⟩ (.slice T1 n1 t1)).setCell ⟨u44.heap.size, 1, none⟩ (.slice T2 n t2)).setCell ⟨u44.heap.size, 2, none⟩ (.slice T3 n3 t3))) (by simp) (fun q h1 h2 => hblk q (by omega)))
        have G3 := Lib.hid (G3.out.keep (w' := (((u56.setCell ⟨u44.heap.size, 0, none⟩ (.slice T1 n1 t1)).setCell ⟨u44.heap.size, 1, none⟩ (.slice T2 n t2)).setCell ⟨u44.heap.size, 2, none⟩ (.slice T3 n3 t3))) (by simp) (fun q h1 h2 => hblk q (by omega)))
        refine hK.out _ _ (HV.out _ HKEEP.out) (fun _ => ?_)
        clear hK K z0 z1 z2 f0 f1 f2 hX hblk hzw
        try dsimp only
        generalize (((u56.setCell ⟨u44.heap.size, 0, none⟩ (.slice T1 n1 t1)).setCell ⟨u44.heap.size, 1, none⟩ (.slice T2 n t2)).setCell ⟨u44.heap.size, 2, none⟩ (.slice T3 n3 t3)) = u57 at *
        obtain ⟨z0, z1, z2, f0⟩ := cells3 F5.out
        have f1 := f0 1
        have f2 := f0 2
        have f0 := f0 0
        refine wpAnyH_ready (rs := [7]) (by kernel_rfl) (by simp) ?_
        refine AllReadyH.cons (o := ⟨none, _, _, _, _, _⟩) rfl (fun K hK => ?_) AllReadyH.nil
        go_simp
        have hX := set3_all (v0 := .slice U1 n1 m1) (v1 := .slice U2 n m2) (v2 := .slice U3 n3 m3) F5.out
        have hblk : ∀ q, q ≠ u0.heap.size → (((u57.setCell ⟨u0.heap.size, 0, none⟩ (.slice U1 n1 m1)).setCell ⟨u0.heap.size, 1, none⟩ (.slice U2 n m2)).setCell ⟨u0.heap.size, 2, none⟩ (.slice U3 n3 m3)).heap[q]? = u57.heap[q]? := fun q hq => (Below.heap_setCell _ _ _ _ hq).trans ((Below.heap_setCell _ _ _ _ hq).trans (Below.heap_setCell _ _ _ _ hq))
        have hzw : w2.heap.size ≤ u0.heap.size := by omega
        have HKEEP : Hid (Below w2.heap.size w2 (((u57.setCell ⟨u0.heap.size, 0, none⟩ (.slice U1 n1 m1)).setCell ⟨u0.heap.size, 1, none⟩ (.slice U2 n m2)).setCell ⟨u0.heap.size, 2, none⟩ (.slice U3 n3 m3))) := Lib.hid (((HKEEP.out.setCell (show w2.heap.size ≤ (⟨u0.heap.size, 0, none⟩ : Addr).block from hzw) _).setCell (show w2.heap.size ≤ (⟨u0.heap.size, 1, none⟩ : Addr).block from hzw) _).setCell (show w2.heap.size ≤ (⟨u0.heap.size, 2, none⟩ : Addr).block from hzw) _)
        have F5 := Lib.hid hX
        have F4 := Lib.hid ((hblk _ (by first | exact N4_5.out | exact fun e => N5_4.out e.symm)).trans F4.out)
        have G1 := Lib.hid (G1.out.keep (w' := (((u57.setCell ⟨u0.heap.size, 0, none⟩ (.slice U1 n1 m1)).setCell ⟨u0.heap.size, 1, none⟩ (.slice U2 n m2)).setCell ⟨u0.heap.size, 2, none⟩ (.slice U3 n3 m3))) (by simp) (fun q h1 h2 => hblk q (by omega)))
        have G3 := Lib.hid (G3.out.keep (w' := (((u57.setCell ⟨u0.heap.size, 0, none⟩ (.slice U1 n1 m1)).setCell ⟨u0.heap.size, 1, none⟩ (.slice U2 n m2)).setCell ⟨u0.heap.size, 2, none⟩ (.slice U3 n3 m3))) (by simp) (fun q h1 h2 => hblk q (by omega)))
        refine hK.out _ _ (HV.out _ HKEEP.out) (fun _ => ?_)
        clear hK K z0 z1 z2 f0 f1 f2 hX hblk hzw
        try dsimp only
        generalize (((u57.setCell ⟨u0.heap.size, 0, none⟩ (.slice U1 n1 m1)).setCell ⟨u0.heap.size, 1, none⟩ (.slice U2 n m2)).setCell ⟨u0.heap.size, 2, none⟩ (.slice U3 n3 m3)) = u58 at *
        have HFIN : Hid (Kept w2 G n1 n n3 u44.heap.size u0.heap.size T1 t1 T2 t2 T3 t3 U1 m1 U2 m2 U3 m3 u58) := Lib.hid ⟨F4.out, F5.out, G1.out.gv, G3.out.gv, HKEEP.out⟩
        refine wpAnyH_done (by kernel_rfl) ?_ _
        go_wp2
        go_meet
        case rel => exact ⟨u44.heap.size, u0.heap.size, T1, t1, T2, t2, T3, t3, U1, m1, U2, m2, U3, m3, rfl, rfl, HFIN⟩
  case rest =>
    obtain ⟨Z3, Z4, T1, t1, T2, t2, T3, t3, U1, m1, U2, m2, U3, m3, rfl, rfl, HAF⟩ := hcut
    have hzz3 := (Array.getElem?_eq_some_iff.1 HAF.out.z3).1
    have hzz4 := (Array.getElem?_eq_some_iff.1 HAF.out.z4).1
    have HZ : Hid (∀ W, Below wc.heap.size wc W → (W.cell? ⟨w.heap.size, 0, none⟩ = some (.slice A1 n1 c1) ∧ W.cell? ⟨w.heap.size, 1, none⟩ = some (.slice A2 n c2) ∧ W.cell? ⟨w.heap.size, 2, none⟩ = some (.slice A3 n3 c3)) ∧ (W.cell? ⟨Z3, 0, none⟩ = some (.slice T1 n1 t1) ∧ W.cell? ⟨Z3, 1, none⟩ = some (.slice T2 n t2) ∧ W.cell? ⟨Z3, 2, none⟩ = some (.slice T3 n3 t3)) ∧ W.cell? ⟨Z4, 0, none⟩ = some (.slice U1 n1 m1) ∧ W.cell? ⟨Z4, 1, none⟩ = some (.slice U2 n m2) ∧ W.cell? ⟨Z4, 2, none⟩ = some (.slice U3 n3 m3)) := Lib.hid (fun W h => by
      obtain ⟨a0, a1, a2, _⟩ := cells3 HAF.out.z3
      obtain ⟨b0, b1, b2, _⟩ := cells3 HAF.out.z4
      exact ⟨HV.out W (HAF.out.below.trans (h.mono HAF.out.below.size)), ⟨(h.cell (p := ⟨Z3, 0, none⟩) hzz3).trans a0, (h.cell (p := ⟨Z3, 1, none⟩) hzz3).trans a1, (h.cell (p := ⟨Z3, 2, none⟩) hzz3).trans a2⟩, (h.cell (p := ⟨Z4, 0, none⟩) hzz4).trans b0, (h.cell (p := ⟨Z4, 1, none⟩) hzz4).trans b1, (h.cell (p := ⟨Z4, 2, none⟩) hzz4).trans b2⟩)
    have HGW : Hid (∀ W, Below wc.heap.size wc W → GV W (.agg #[.slice A1 n1 c1, .slice A2 n c2, .slice A3 n3 c3]) G ∧ GV W (.agg #[.slice T1 n1 t1, .slice T2 n t2, .slice T3 n3 t3]) (turnG G) ∧ GV W (.agg #[.slice U1 n1 m1, .slice U2 n m2, .slice U3 n3 m3]) (totG G)) := Lib.hid (fun W h => ⟨HGV.out W (HAF.out.below.trans (h.mono HAF.out.below.size)), HAF.out.t.below h, HAF.out.u.below h⟩)
    have HBC : Hid (Below w.heap.size w wc) := Lib.hid (HB2.out.trans (HAF.out.below.mono HB2.out.size))
    have HKEEP : Hid (Below wc.heap.size wc wc.drew) := Lib.hid (Below.refl _ _).drew
    clear HAF
    go_upto_region 4 with (fail)
    refine wp_region_held_drew (S := (fun W => (W.cell? ⟨w.heap.size, 0, none⟩ = some (.slice A1 n1 c1) ∧ W.cell? ⟨w.heap.size, 1, none⟩ = some (.slice A2 n c2) ∧ W.cell? ⟨w.heap.size, 2, none⟩ = some (.slice A3 n3 c3)) ∧ (W.cell? ⟨Z3, 0, none⟩ = some (.slice T1 n1 t1) ∧ W.cell? ⟨Z3, 1, none⟩ = some (.slice T2 n t2) ∧ W.cell? ⟨Z3, 2, none⟩ = some (.slice T3 n3 t3)) ∧ W.cell? ⟨Z4, 0, none⟩ = some (.slice U1 n1 m1) ∧ W.cell? ⟨Z4, 1, none⟩ = some (.slice U2 n m2) ∧ W.cell? ⟨Z4, 2, none⟩ = some (.slice U3 n3 m3))) (by kernel_rfl) (HZ.out _ HKEEP.out) ?_
    intro hS0
    have HS0 := Lib.hid hS0
    clear hS0
    simp only [Array.replicate, List.replicate]
    refine wpAnyH_take (i := 0) (oi := ⟨some 13, _, _, _, _, _⟩) (v := .agg #[.slice T1 n1 t1, .slice T2 n t2, .slice T3 n3 t3]) rfl (by kernel_rfl) (by kernel_rfl) (by kernel_rfl) (fun _ _ _ h => h) (Or.inl ⟨by kernel_rfl, fun w9 hS => ?_⟩) HS0.out ?_
    · obtain ⟨⟨s0, s1, s2⟩, ⟨s3, s4, s5⟩, s6, s7, s8⟩ := hS
      go_simp
    try simp only [Act.put, List.setIfInBounds_toArray, List.set_cons_zero, List.set_cons_succ]
    refine wpAnyH_take (i := 1) (oi := ⟨some 14, _, _, _, _, _⟩) (v := .agg #[.slice A1 n1 c1, .slice A2 n c2, .slice A3 n3 c3]) rfl (by kernel_rfl) (by kernel_rfl) (by kernel_rfl) (fun _ _ _ h => h) (Or.inl ⟨by kernel_rfl, fun w9 hS => ?_⟩) HS0.out ?_
    · obtain ⟨⟨s0, s1, s2⟩, ⟨s3, s4, s5⟩, s6, s7, s8⟩ := hS
      go_simp
    try simp only [Act.put, List.setIfInBounds_toArray, List.set_cons_zero, List.set_cons_succ]
    refine wpAnyH_ready (rs := [2]) (by kernel_rfl) (by simp) ?_
    refine AllReadyH.cons (o := ⟨some 15, _, _, _, _, _⟩) rfl (fun K hK => ?_) AllReadyH.nil
    rw [if_pos (by kernel_rfl)]
    go_simp
    go_at_call 28
    refine (refTurn_of (HGW.out _ HKEEP.out).1 (by rw [HN.out]; omega) (fun i => Nat.le_trans (HROW.out i) (by omega)) HI.out HL.out).mono ?_
    rintro e x1 ⟨vr, rfl, hgr, hb⟩
    have HGR := Lib.hid hgr
    clear hgr
    have HKEEP := Lib.hid (HKEEP.out.trans (hb.mono HKEEP.out.size))
    have HS1 : Hid _ := Lib.hid (HZ.out _ HKEEP.out)
    refine hK.out _ _ HS1.out (fun _ => ?_)
    clear hK K hb
    try simp only [Act.put, List.setIfInBounds_toArray, List.set_cons_zero, List.set_cons_succ]
    refine wpAnyH_ready (rs := [3]) (by kernel_rfl) (by simp) ?_
    refine AllReadyH.cons (o := ⟨some 16, _, _, _, _, _⟩) rfl (fun K hK => ?_) AllReadyH.nil
    rw [if_pos (by kernel_rfl)]
    go_simp
    go_at_call 20
    refine (refSame_any (HGW.out _ HKEEP.out).2.1 HGR.out).mono ?_
    rw [same_self]
    rintro e x2 ⟨rfl, hb⟩
    have HKEEP := Lib.hid (HKEEP.out.trans (hb.mono HKEEP.out.size))
    have HS2 : Hid _ := Lib.hid (HZ.out _ HKEEP.out)
    refine hK.out _ _ HS2.out (fun _ => ?_)
    clear hK K hb
    try simp only [Act.put, List.setIfInBounds_toArray, List.set_cons_zero, List.set_cons_succ]
    refine wpAnyH_take (i := 4) (oi := ⟨some 17, _, _, _, _, _⟩) (v := .bool false) rfl (by kernel_rfl) (by kernel_rfl) (by kernel_rfl) (fun _ _ _ h => h) (Or.inl ⟨by kernel_rfl, fun w9 hS => ?_⟩) HS2.out ?_
    · clear hS
      go_simp
    try simp only [Act.put, List.setIfInBounds_toArray, List.set_cons_zero, List.set_cons_succ]
    refine wpAnyH_take (i := 5) (oi := ⟨some 18, _, _, _, _, _⟩) (v := .bool false) rfl (by kernel_rfl) (by kernel_rfl) (by kernel_rfl) (fun _ _ _ h => h) (Or.inl ⟨by kernel_rfl, fun w9 hS => ?_⟩) HS2.out ?_
    · clear hS
      go_simp
    try simp only [Act.put, List.setIfInBounds_toArray, List.set_cons_zero, List.set_cons_succ]
    refine wpAnyH_take (i := 6) (oi := ⟨some 19, _, _, _, _, _⟩) (v := .agg #[.slice U1 n1 m1, .slice U2 n m2, .slice U3 n3 m3]) rfl (by kernel_rfl) (by kernel_rfl) (by kernel_rfl) (fun _ _ _ h => h) (Or.inl ⟨by kernel_rfl, fun w9 hS => ?_⟩) HS2.out ?_
    · obtain ⟨⟨s0, s1, s2⟩, ⟨s3, s4, s5⟩, s6, s7, s8⟩ := hS
      go_simp
    try simp only [Act.put, List.setIfInBounds_toArray, List.set_cons_zero, List.set_cons_succ]
    refine wpAnyH_take (i := 7) (oi := ⟨some 20, _, _, _, _, _⟩) (v := .agg #[.slice A1 n1 c1, .slice A2 n c2, .slice A3 n3 c3]) rfl (by kernel_rfl) (by kernel_rfl) (by kernel_rfl) (fun _ _ _ h => h) (Or.inl ⟨by kernel_rfl, fun w9 hS => ?_⟩) HS2.out ?_
    · obtain ⟨⟨s0, s1, s2⟩, ⟨s3, s4, s5⟩, s6, s7, s8⟩ := hS
      go_simp
    try simp only [Act.put, List.setIfInBounds_toArray, List.set_cons_zero, List.set_cons_succ]
    refine wpAnyH_ready (rs := [8]) (by kernel_rfl) (by simp) ?_
    refine AllReadyH.cons (o := ⟨some 21, _, _, _, _, _⟩) rfl (fun K hK => ?_) AllReadyH.nil
    rw [if_pos (by kernel_rfl)]
    go_simp
    go_at_call 29
    refine (refTotal_of (HGW.out _ HKEEP.out).1 (by rw [HN.out]; omega) (fun i => Nat.le_trans (HROW.out i) (by omega)) HI.out HL.out).mono ?_
    rintro e x3 ⟨vs, rfl, hgr, hb⟩
    have HGR := Lib.hid hgr
    clear hgr
    have HKEEP := Lib.hid (HKEEP.out.trans (hb.mono HKEEP.out.size))
    have HS3 : Hid _ := Lib.hid (HZ.out _ HKEEP.out)
    refine hK.out _ _ HS3.out (fun _ => ?_)
    clear hK K hb
    try simp only [Act.put, List.setIfInBounds_toArray, List.set_cons_zero, List.set_cons_succ]
    refine wpAnyH_ready (rs := [9]) (by kernel_rfl) (by simp) ?_
    refine AllReadyH.cons (o := ⟨some 22, _, _, _, _, _⟩) rfl (fun K hK => ?_) AllReadyH.nil
    rw [if_pos (by kernel_rfl)]
    go_simp
    go_at_call 20
    refine (refSame_any (HGW.out _ HKEEP.out).2.2 HGR.out).mono ?_
    rw [same_self]
    rintro e x4 ⟨rfl, hb⟩
    have HKEEP := Lib.hid (HKEEP.out.trans (hb.mono HKEEP.out.size))
    have HS4 : Hid _ := Lib.hid (HZ.out _ HKEEP.out)
    refine hK.out _ _ HS4.out (fun _ => ?_)
    clear hK K hb
    try simp only [Act.put, List.setIfInBounds_toArray, List.set_cons_zero, List.set_cons_succ]
    refine wpAnyH_take (i := 10) (oi := ⟨some 23, _, _, _, _, _⟩) (v := .bool false) rfl (by kernel_rfl) (by kernel_rfl) (by kernel_rfl) (fun _ _ _ h => h) (Or.inl ⟨by kernel_rfl, fun w9 hS => ?_⟩) HS4.out ?_
    · clear hS
      go_simp
    try simp only [Act.put, List.setIfInBounds_toArray, List.set_cons_zero, List.set_cons_succ]
    refine wpAnyH_take (i := 11) (oi := ⟨some 24, _, _, _, _, _⟩) (v := .bool false) rfl (by kernel_rfl) (by kernel_rfl) (by kernel_rfl) (fun _ _ _ h => h) (Or.inl ⟨by kernel_rfl, fun w9 hS => ?_⟩) HS4.out ?_
    · clear hS
      go_simp
    try simp only [Act.put, List.setIfInBounds_toArray, List.set_cons_zero, List.set_cons_succ]
    refine wpAnyH_done (by kernel_rfl) ?_ _
    clear HS0 HS1 HS2 HS3 HS4 HGR
    go_wp2_with fail
    go_loop [5] (fun i => ∃ k : Nat, k ≤ n ∧ i = .int .i64 k) (fun i => n - (intOf i).toNat)
    case atStart => exact ⟨0, Nat.zero_le _, rfl⟩
    case round =>
      obtain ⟨k, hk, rfl⟩ := hrel
      by_cases hlt : k < n
      · obtain ⟨U1', m1', U2', m2', U3', m3', he, _, ⟨_, hm2, hra⟩, _⟩ := (HGW.out _ HKEEP.out).2.2
        have he2 : U2 = U2' ∧ m2 = m2' := by
          injection he with he
          injection he with he
          injection he with _ he
          injection he with he _
          injection he with h1 h2 h3
          exact ⟨h1, h3⟩
        obtain ⟨rfl, rfl⟩ := he2
        have htl : (totG G).rows.length = n := (totR_len _).trans HN.out
        obtain ⟨b, o, rfl, hb, hcc⟩ := hra (by rw [htl]; omega)
        obtain ⟨A', c', r1, r2, r3, _⟩ := hcc k (by rw [htl]; exact hlt)
        have hpos : 0 < ((totG G).rows.getD k []).length := by
          refine List.length_pos_iff.2 ?_
          show (totR G.rows).getD k [] ≠ []
          rw [totR_row (by rw [HN.out]; exact hlt)]
          exact totL_ne (by rw [HN.out]; exact hlt)
        generalize ((totG G).rows.getD k []).length = rl at r1 r2 hpos
        have hrl : ((rl : Int) == 0) = false := by simp; omega
        obtain ⟨_, _, s6, s7, s8⟩ := HZ.out _ HKEEP.out
        clear hcc hra he hb htl
        go_wp2
        go_round
        case rel => exact ⟨k + 1, by omega, by go_num⟩
        case measure => simp [intOf]; omega
      · obtain rfl : n = k := by omega
        obtain ⟨_, _, s6, s7, s8⟩ := HZ.out _ HKEEP.out
        clear hlt
        go_upto_region 11 with (fail)
        clear s6 s7 s8
        have HKEEP := Lib.hid HKEEP.out.drew
        refine wp_region_held_drew (S := (fun W => (W.cell? ⟨w.heap.size, 0, none⟩ = some (.slice A1 n1 c1) ∧ W.cell? ⟨w.heap.size, 1, none⟩ = some (.slice A2 n c2) ∧ W.cell? ⟨w.heap.size, 2, none⟩ = some (.slice A3 n3 c3)) ∧ (W.cell? ⟨Z3, 0, none⟩ = some (.slice T1 n1 t1) ∧ W.cell? ⟨Z3, 1, none⟩ = some (.slice T2 n t2) ∧ W.cell? ⟨Z3, 2, none⟩ = some (.slice T3 n3 t3)) ∧ W.cell? ⟨Z4, 0, none⟩ = some (.slice U1 n1 m1) ∧ W.cell? ⟨Z4, 1, none⟩ = some (.slice U2 n m2) ∧ W.cell? ⟨Z4, 2, none⟩ = some (.slice U3 n3 m3))) (by kernel_rfl) (HZ.out _ HKEEP.out) ?_
        intro hS0
        have HS0 := Lib.hid hS0
        clear hS0
        simp only [Array.replicate, List.replicate]
        refine wpAnyH_take (i := 0) (oi := ⟨some 39, _, _, _, _, _⟩) (v := .agg #[.slice U1 n1 m1, .slice U2 n m2, .slice U3 n3 m3]) rfl (by kernel_rfl) (by kernel_rfl) (by kernel_rfl) (fun _ _ _ h => h) (Or.inl ⟨by kernel_rfl, fun w9 hS => ?_⟩) HS0.out ?_
        · obtain ⟨⟨s0, s1, s2⟩, ⟨s3, s4, s5⟩, s6, s7, s8⟩ := hS
          go_simp
        try simp only [Act.put, List.setIfInBounds_toArray, List.set_cons_zero, List.set_cons_succ]
        refine wpAnyH_take (i := 2) (oi := ⟨some 41, _, _, _, _, _⟩) (v := .agg #[.slice U1 n1 m1, .slice U2 n m2, .slice U3 n3 m3]) rfl (by kernel_rfl) (by kernel_rfl) (by kernel_rfl) (fun _ _ _ h => h) (Or.inl ⟨by kernel_rfl, fun w9 hS => ?_⟩) HS0.out ?_
        · obtain ⟨⟨s0, s1, s2⟩, ⟨s3, s4, s5⟩, s6, s7, s8⟩ := hS
          go_simp
        try simp only [Act.put, List.setIfInBounds_toArray, List.set_cons_zero, List.set_cons_succ]
        refine wpAnyH_ready (rs := [1]) (by kernel_rfl) (by simp) ?_
        refine AllReadyH.cons (o := ⟨some 40, _, _, _, _, _⟩) rfl (fun K hK => ?_) AllReadyH.nil
        rw [if_pos (by kernel_rfl)]
        go_simp
        go_at_call 27
        refine (total_any (HGW.out _ HKEEP.out).2.2 HI.out (by show (totR G.rows).length ≤ _; rw [totR_len, HN.out]; omega) HLT2.out HL.out).mono ?_
        rintro e x5 ⟨vs, rfl, hgr, hb⟩
        have hgr : GV x5 vs (totG G) := by
          have e : totG (totG G) = totG G := by unfold totG; simp only; rw [totR_totR]
          rw [e] at hgr; exact hgr
        have HGR := Lib.hid hgr
        clear hgr
        have HKEEP := Lib.hid (HKEEP.out.trans (hb.mono HKEEP.out.size))
        have HS1 : Hid _ := Lib.hid (HZ.out _ HKEEP.out)
        refine hK.out _ _ HS1.out (fun _ => ?_)
        clear hK K hb
        try simp only [Act.put, List.setIfInBounds_toArray, List.set_cons_zero, List.set_cons_succ]
        refine wpAnyH_ready (rs := [3]) (by kernel_rfl) (by simp) ?_
        refine AllReadyH.cons (o := ⟨some 42, _, _, _, _, _⟩) rfl (fun K hK => ?_) AllReadyH.nil
        rw [if_pos (by kernel_rfl)]
        go_simp
        go_at_call 20
        refine (refSame_any HGR.out (HGW.out _ HKEEP.out).2.2).mono ?_
        rw [same_self]
        rintro e x6 ⟨rfl, hb⟩
        have HKEEP := Lib.hid (HKEEP.out.trans (hb.mono HKEEP.out.size))
        have HS2 : Hid _ := Lib.hid (HZ.out _ HKEEP.out)
        refine hK.out _ _ HS2.out (fun _ => ?_)
        clear hK K hb
        try simp only [Act.put, List.setIfInBounds_toArray, List.set_cons_zero, List.set_cons_succ]
        refine wpAnyH_take (i := 4) (oi := ⟨some 43, _, _, _, _, _⟩) (v := .bool true) rfl (by kernel_rfl) (by kernel_rfl) (by kernel_rfl) (fun _ _ _ h => h) (Or.inl ⟨by kernel_rfl, fun w9 hS => ?_⟩) HS2.out ?_
        · clear hS
          go_simp
        try simp only [Act.put, List.setIfInBounds_toArray, List.set_cons_zero, List.set_cons_succ]
        refine wpAnyH_ready (rs := [5]) (by kernel_rfl) (by simp) ?_
        refine AllReadyH.cons (o := ⟨some 44, _, _, _, _, _⟩) rfl (fun K hK => ?_) AllReadyH.nil
        rw [if_pos (by kernel_rfl)]
        go_simp
        go_at_call 16
        refine (awake_any _).mono ?_
        rintro e x7 ⟨rfl, hb⟩
        have HKEEP := Lib.hid (HKEEP.out.trans (hb.mono HKEEP.out.size))
        have HS3 : Hid _ := Lib.hid (HZ.out _ HKEEP.out)
        refine hK.out _ _ HS3.out (fun _ => ?_)
        clear hK K hb
        try simp only [Act.put, List.setIfInBounds_toArray, List.set_cons_zero, List.set_cons_succ]
        refine wpAnyH_take (i := 6) (oi := ⟨some 45, _, _, _, _, _⟩) (v := .bool true) rfl (by kernel_rfl) (by kernel_rfl) (by kernel_rfl) (fun _ _ _ h => h) (Or.inl ⟨by kernel_rfl, fun w9 hS => ?_⟩) HS3.out ?_
        · clear hS
          go_simp
        try simp only [Act.put, List.setIfInBounds_toArray, List.set_cons_zero, List.set_cons_succ]
        refine wpAnyH_take (i := 7) (oi := ⟨some 2, _, _, _, _, _⟩) (v := .bool true) rfl (by kernel_rfl) (by kernel_rfl) (by kernel_rfl) (fun _ _ _ h => h) (Or.inl ⟨by kernel_rfl, fun w9 hS => ?_⟩) HS3.out ?_
        · clear hS
          go_simp
        try simp only [Act.put, List.setIfInBounds_toArray, List.set_cons_zero, List.set_cons_succ]
        refine wpAnyH_done (by kernel_rfl) ?_ _
        go_wp2
        go_ret
        exact ⟨rfl, HBC.out.trans (HKEEP.out.mono HBC.out.size)⟩

set_option maxRecDepth 100000 in
theorem lifted (os : Os) (started : os.Started) (H : Type) (enc : TypeId × Value → H) :
    ReturnsInHanded {} Try.checked os 6 .any (Rows.graphTurnsSpec.pre6 enc Try.prog Try.f6 Rows.graphTurnsRow.domain false) (Rows.graphTurnsSpec.post enc Try.prog Try.f6 false true false false) := by
  refine law_lifted started [26] rfl (by kernel_rfl) Try.func6 rfl (by decide +kernel) rfl (fun ds hl => by
    match ds, hl with
    | [_], _ => rfl) (ChangeSpec.witness6 (enc := enc) (C := Try.checked) false ⟨#[], #[.agg #[.slice none 0 0, .slice none 0 0, .slice none 0 0]], []⟩ 8 (by kernel_rfl) (by kernel_rfl) (by kernel_rfl) (by kernel_rfl)) ?_
  intro W base args ds ps hval hA hlt hsz
  obtain ⟨v0, vs0, d0, ds0, p0, q0, hargs, rfl, rfl, h0, r0⟩ := trodAll_cons hA
  obtain ⟨rfl, rfl, rfl⟩ := trodAll_nil r0
  obtain rfl : args = #[v0] := by cases args; simp_all
  obtain ⟨G0, g0, f0⟩ := open_graph_arg (hval 0 26 v0 rfl rfl) h0
  exact walk v0 W G0 g0

set_option maxRecDepth 100000 in
theorem over : Rows.graphTurnsRow.holds Try.pinned (OpenSpec.ofChange Rows.graphTurnsSpec) :=
  OpenClaim.holds_of_wide 6 Try.f6 rfl rfl rfl rfl rfl rfl rfl ⟨rfl, rfl, rfl, rfl, rfl⟩ rfl rfl rfl rfl rfl (by kernel_rfl) Try.func6 (by kernel_rfl)
    (of_decide_eq_true (by kernel_rfl)) (by unfold Func.isWrapper; first | (rw [if_pos (by decide +kernel)]; kernel_rfl) | (rw [if_neg (by decide +kernel)]; exact ⟨rfl, rfl⟩))
    (fun os started H enc _ => lifted os started H enc)

theorem proved : Rows.GraphTurnsSaid := over
#print axioms proved
end Go.Proofs.Ytjgifbcjokeigaa.graphTurns
