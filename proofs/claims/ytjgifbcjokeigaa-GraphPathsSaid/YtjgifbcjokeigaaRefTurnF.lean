/- The document's Turn hands back a graph of new blocks. -/
import Derived.Test.YtjgifbcjokeigaaRefTurn1
import Derived.Test.YtjgifbcjokeigaaGvf
namespace Go.Proofs.Ytjgifbcjokeigaa
open Go.ChangeShapes Go.WideShapes Go.ChangeAt Go.RowKit Go.Shelf

set_option maxRecDepth 20000 in
set_option maxHeartbeats 8000000 in
theorem refTurn_f' (A1 A2 A3 : Option Addr) (n1 n n3 c1 c2 c3 : Nat) (init labels : List Int) (rows : List (List (Int × Int))) (w : World) (h1 : n1 = init.length) (h2 : n = rows.length) (h3 : n3 = labels.length) (ha1 : LA .i64 w A1 init) (ha2 : RA w A2 rows) (ha3 : LA .u64 w A3 labels) (hl1 : init.length ≤ 1000000) (hl2 : n ≤ 1000) (hrow : ∀ i, (rows.getD i []).length ≤ 1000) (hl3 : labels.length ≤ 1000000) :
    Calls Try.prog 28 #[.agg #[.slice A1 n1 c1, .slice A2 n c2, .slice A3 n3 c3]] w (GPF w ⟨init, turnR rows, labels⟩) := by
  have HM1 := Lib.hid h1
  have HN := Lib.hid h2
  have HM3 := Lib.hid h3
  have HL1 := Lib.hid hl1
  have HL3 := Lib.hid hl3
  have HI1 := Lib.hid ha1
  have HI2 := Lib.hid ha2
  have HI3 := Lib.hid ha3
  have HROW := Lib.hid hrow
  clear h1 h2 h3 ha1 ha2 ha3 hl1 hl3 hrow
  go_enter Try.func28, Try.ntmps28
  go_upto_region 1 with (fail)
  have hbx := (box3 w (.slice A1 n1 c1) (.slice A2 n c2) (.slice A3 n3 c3) 26)
  have hb2 := below2 w (.cells #[.slice A1 n1 c1, .slice A2 n c2, .slice A3 n3 c3] 26) (.cells #[.slice none 0 0, .slice none 0 0, .slice none 0 0] 26)
  have hbx2 : B3 ((w.alloc (.cells #[.slice A1 n1 c1, .slice A2 n c2, .slice A3 n3 c3] 26)).alloc (.cells #[.slice none 0 0, .slice none 0 0, .slice none 0 0] 26)) w.heap.size (.slice A1 n1 c1) (.slice A2 n c2) (.slice A3 n3 c3) := B3.below hbx (below1 _ _)
  have hr2 := World.alloc_heap_new (w.alloc (.cells #[.slice A1 n1 c1, .slice A2 n c2, .slice A3 n3 c3] 26)) (.cells #[.slice none 0 0, .slice none 0 0, .slice none 0 0] 26)
  rw [World.size_alloc] at hr2
  have hz2 : w.heap.size + 2 ≤ ((w.alloc (.cells #[.slice A1 n1 c1, .slice A2 n c2, .slice A3 n3 c3] 26)).alloc (.cells #[.slice none 0 0, .slice none 0 0, .slice none 0 0] 26)).heap.size := by simp
  generalize ((w.alloc (.cells #[.slice A1 n1 c1, .slice A2 n c2, .slice A3 n3 c3] 26)).alloc (.cells #[.slice none 0 0, .slice none 0 0, .slice none 0 0] 26)) = w2 at *
  have HB2 := Lib.hid hb2
  have HBX := Lib.hid hbx2
  have HR2 := Lib.hid hr2
  clear hb2 hbx hbx2 hr2
  have HV : Hid (∀ W, Below w2.heap.size w2 W → W.cell? ⟨w.heap.size, 0, none⟩ = some (.slice A1 n1 c1) ∧ W.cell? ⟨w.heap.size, 1, none⟩ = some (.slice A2 n c2) ∧ W.cell? ⟨w.heap.size, 2, none⟩ = some (.slice A3 n3 c3)) := Lib.hid (fun W h => HBX.out.below h)
  have HA1 : Hid (∀ W, Below w2.heap.size w2 W → LA .i64 W A1 init) := Lib.hid (fun W h => HI1.out.below (HB2.out.trans (h.mono HB2.out.size)))
  have HA3 : Hid (∀ W, Below w2.heap.size w2 W → LA .u64 W A3 labels) := Lib.hid (fun W h => HI3.out.below (HB2.out.trans (h.mono HB2.out.size)))
  have HKEEP : Hid (Below w2.heap.size w2 w2.drew) := Lib.hid (Below.refl _ _).drew
  go_cut [3] from 8 (fun v3 w' => ∃ (Z : Nat) (D1 : Option Addr) (d1 : Nat) (D3 : Option Addr) (d3 : Nat), v3 = .pointer (some ⟨Z, 0, none⟩) ∧ Hid (AfterOne w2 init labels n1 n3 Z D1 d1 D3 d3 w'))
  case first =>
    refine wp_region_held_drew (S := (fun W => W.cell? ⟨w.heap.size, 0, none⟩ = some (.slice A1 n1 c1) ∧ W.cell? ⟨w.heap.size, 1, none⟩ = some (.slice A2 n c2) ∧ W.cell? ⟨w.heap.size, 2, none⟩ = some (.slice A3 n3 c3))) (by kernel_rfl) (HV.out _ HKEEP.out) ?_
    intro hS0
    have HS0 := Lib.hid hS0
    clear hS0
    refine wpAnyH_take (i := 1) (oi := ⟨some 9, _, _, _, _, _⟩) (v := .pointer (some ⟨w.heap.size, 0, none⟩)) rfl (by kernel_rfl) (by kernel_rfl) (by kernel_rfl) (fun _ _ _ h => h) (Or.inl ⟨by kernel_rfl, fun w9 hS => ?_⟩) HS0.out ?_
    · obtain ⟨s0, s1, s2⟩ := hS
      go_simp
    try simp only [Act.put, List.setIfInBounds_toArray, List.set_cons_zero, List.set_cons_succ]
    refine wpAnyH_take (i := 2) (oi := ⟨some 10, _, _, _, _, _⟩) (v := .slice A1 n1 c1) rfl (by kernel_rfl) (by kernel_rfl) (by kernel_rfl) (fun _ _ _ h => h) (Or.inl ⟨by kernel_rfl, fun w9 hS => ?_⟩) HS0.out ?_
    · obtain ⟨s0, s1, s2⟩ := hS
      go_simp
    try simp only [Act.put, List.setIfInBounds_toArray, List.set_cons_zero, List.set_cons_succ]
    refine wpAnyH_take (i := 5) (oi := ⟨some 13, _, _, _, _, _⟩) (v := .pointer (some ⟨w.heap.size, 2, none⟩)) rfl (by kernel_rfl) (by kernel_rfl) (by kernel_rfl) (fun _ _ _ h => h) (Or.inl ⟨by kernel_rfl, fun w9 hS => ?_⟩) HS0.out ?_
    · obtain ⟨s0, s1, s2⟩ := hS
      go_simp
    try simp only [Act.put, List.setIfInBounds_toArray, List.set_cons_zero, List.set_cons_succ]
    refine wpAnyH_take (i := 6) (oi := ⟨some 14, _, _, _, _, _⟩) (v := .slice A3 n3 c3) rfl (by kernel_rfl) (by kernel_rfl) (by kernel_rfl) (fun _ _ _ h => h) (Or.inl ⟨by kernel_rfl, fun w9 hS => ?_⟩) HS0.out ?_
    · obtain ⟨s0, s1, s2⟩ := hS
      go_simp
    try simp only [Act.put, List.setIfInBounds_toArray, List.set_cons_zero, List.set_cons_succ]
    refine wpAnyH_ready (rs := [0, 4, 9]) (by kernel_rfl) (by simp) ?_
    refine AllReadyH.cons (o := ⟨some 8, _, _, _, _, _⟩) rfl (fun K hK => ?_) (AllReadyH.cons (o := ⟨some 12, _, _, _, _, _⟩) rfl (fun K hK => ?_) (AllReadyH.cons (o := ⟨some 3, _, _, _, _, _⟩) rfl (fun K hK => ?_) AllReadyH.nil))
    · rw [if_pos (by kernel_rfl)]
      go_simp
      have hB : Below w2.heap.size w2 (w2.alloc (.cells #[] 3)).drew := (below1 w2 _).drew
      have hF : (w2.alloc (.cells #[] 3)).drew.heap[w2.heap.size]? = some (.cells #[] 3 (0, 0)) := World.alloc_heap_new w2 _
      have hsz : w2.heap.size + 1 ≤ (w2.alloc (.cells #[] 3)).drew.heap.size := by simp
      have HKEEP : Hid (Below w2.heap.size w2 (w2.alloc (.cells #[] 3)).drew) := Lib.hid hB
      have F0 := Lib.hid hF
      have HS1 : Hid _ := Lib.hid (HV.out _ HKEEP.out)
      refine hK.out _ _ HS1.out (fun _ => ?_)
      clear hK K hB hF
      try dsimp only
      generalize (w2.alloc (.cells #[] 3)).drew = u1 at *
      refine wpAnyH_ready (rs := [3, 4, 9]) (by kernel_rfl) (by simp) ?_
      refine AllReadyH.cons (o := ⟨some 11, _, _, _, _, _⟩) rfl (fun K hK => ?_) (AllReadyH.cons (o := ⟨some 12, _, _, _, _, _⟩) rfl (fun K hK => ?_) (AllReadyH.cons (o := ⟨some 3, _, _, _, _, _⟩) rfl (fun K hK => ?_) AllReadyH.nil))
      · refine step_append_la (k := .i64) (by kernel_rfl) (by kernel_rfl) rfl (.tmp 8) (.tmp 10) rfl rfl w2.heap.size rfl F0.out A1 n1 c1 rfl init HM1.out (HA1.out _ HKEEP.out) HL1.out ?_
        intro D3 d3 u2 hR
        have hsz : u1.heap.size ≤ u2.heap.size := hR.grown.size
        have HKEEP : Hid (Below w2.heap.size w2 u2) := Lib.hid (Below.grown HKEEP.out hR.grown HKEEP.out.size (fun k e => by cases e; omega))
        have L3 : Hid (LAb .i64 u2 D3 init) := Lib.hid ⟨hR.la, fun a e => (hR.at_ a e).2⟩
        have C3 : Hid (n1 ≤ d3 ∧ d3 ≤ maxLen) := Lib.hid ⟨by rw [HM1.out]; exact hR.le, hR.max⟩
        have B3 : Hid (∀ a, D3 = some a → w2.heap.size ≤ a.block) := Lib.hid (fun a e => by rcases (hR.at_ a e).1 with h2 | h2 <;> omega)
        have HS2 : Hid _ := Lib.hid (HV.out _ HKEEP.out)
        refine hK.out _ _ HS2.out (fun _ => ?_)
        clear hK K hR
        try simp only [Act.put, List.setIfInBounds_toArray, List.set_cons_zero, List.set_cons_succ]
        refine wpAnyH_ready (rs := [4, 9]) (by kernel_rfl) (by simp) ?_
        refine AllReadyH.cons (o := ⟨some 12, _, _, _, _, _⟩) rfl (fun K hK => ?_) (AllReadyH.cons (o := ⟨some 3, _, _, _, _, _⟩) rfl (fun K hK => ?_) AllReadyH.nil)
        · rw [if_pos (by kernel_rfl)]
          go_simp
          have hB : Below u2.heap.size u2 (u2.alloc (.cells #[] 63)) := (below1 u2 _)
          have hF : (u2.alloc (.cells #[] 63)).heap[u2.heap.size]? = some (.cells #[] 63 (0, 0)) := World.alloc_heap_new u2 _
          have hsz : u2.heap.size + 1 ≤ (u2.alloc (.cells #[] 63)).heap.size := by simp
          have HKEEP : Hid (Below w2.heap.size w2 (u2.alloc (.cells #[] 63))) := Lib.hid (HKEEP.out.trans (hB.mono HKEEP.out.size))
          have M3_4 : Hid (∀ a, D3 = some a → a.block ≠ u2.heap.size) := Lib.hid (fun a e => by have := L3.out.2 a e; omega)
          have L3 := Lib.hid (L3.out.keep hB.size (fun a e => hB.block _ (L3.out.2 a e)))
          have F4 := Lib.hid hF
          have HS3 : Hid _ := Lib.hid (HV.out _ HKEEP.out)
          refine hK.out _ _ HS3.out (fun _ => ?_)
          clear hK K hB hF
          try dsimp only
          generalize (u2.alloc (.cells #[] 63)) = u3 at *
          refine wpAnyH_ready (rs := [7, 9]) (by kernel_rfl) (by simp) ?_
          refine AllReadyH.cons (o := ⟨some 15, _, _, _, _, _⟩) rfl (fun K hK => ?_) (AllReadyH.cons (o := ⟨some 3, _, _, _, _, _⟩) rfl (fun K hK => ?_) AllReadyH.nil)
          · refine step_append_la (k := .u64) (by kernel_rfl) (by kernel_rfl) rfl (.tmp 12) (.tmp 14) rfl rfl u2.heap.size rfl F4.out A3 n3 c3 rfl labels HM3.out (HA3.out _ HKEEP.out) HL3.out ?_
            intro D7 d7 u4 hR
            have hsz : u3.heap.size ≤ u4.heap.size := hR.grown.size
            have HKEEP : Hid (Below w2.heap.size w2 u4) := Lib.hid (Below.grown HKEEP.out hR.grown HKEEP.out.size (fun k e => by cases e; omega))
            have L3 := Lib.hid (L3.out.keep hR.grown.size (fun a e => hR.grown.block _ (L3.out.2 a e) (fun e2 => M3_4.out a e (Option.some.inj e2))))
            have L7 : Hid (LAb .u64 u4 D7 labels) := Lib.hid ⟨hR.la, fun a e => (hR.at_ a e).2⟩
            have C7 : Hid (n3 ≤ d7 ∧ d7 ≤ maxLen) := Lib.hid ⟨by rw [HM3.out]; exact hR.le, hR.max⟩
            have B7 : Hid (∀ a, D7 = some a → w2.heap.size ≤ a.block) := Lib.hid (fun a e => by rcases (hR.at_ a e).1 with h2 | h2 <;> omega)
            have HS4 : Hid _ := Lib.hid (HV.out _ HKEEP.out)
            refine hK.out _ _ HS4.out (fun _ => ?_)
            clear hK K hR
            try simp only [Act.put, List.setIfInBounds_toArray, List.set_cons_zero, List.set_cons_succ]
            refine wpAnyH_take (i := 8) (oi := ⟨some 16, _, _, _, _, _⟩) (v := .agg #[.slice D3 n1 d3, .slice none 0 0, .slice D7 n3 d7]) rfl (by kernel_rfl) (by kernel_rfl) (by kernel_rfl) (fun _ _ _ h => h) (Or.inl ⟨by kernel_rfl, fun w9 hS => ?_⟩) HS4.out ?_
            · clear hS
              go_simp
            try simp only [Act.put, List.setIfInBounds_toArray, List.set_cons_zero, List.set_cons_succ]
            refine wpAnyH_ready (rs := [9]) (by kernel_rfl) (by simp) ?_
            refine AllReadyH.cons (o := ⟨some 3, _, _, _, _, _⟩) rfl (fun K hK => ?_) AllReadyH.nil
            rw [if_pos (by kernel_rfl)]
            go_simp
            have hB : Below u4.heap.size u4 (u4.alloc (.cells #[.slice none 0 0, .slice none 0 0, .slice none 0 0] 26)) := (below1 u4 _)
            have hF : (u4.alloc (.cells #[.slice none 0 0, .slice none 0 0, .slice none 0 0] 26)).heap[u4.heap.size]? = some (.cells #[.slice none 0 0, .slice none 0 0, .slice none 0 0] 26 (0, 0)) := World.alloc_heap_new u4 _
            have hsz : u4.heap.size + 1 ≤ (u4.alloc (.cells #[.slice none 0 0, .slice none 0 0, .slice none 0 0] 26)).heap.size := by simp
            have HKEEP : Hid (Below w2.heap.size w2 (u4.alloc (.cells #[.slice none 0 0, .slice none 0 0, .slice none 0 0] 26))) := Lib.hid (HKEEP.out.trans (hB.mono HKEEP.out.size))
            have M3_9 : Hid (∀ a, D3 = some a → a.block ≠ u4.heap.size) := Lib.hid (fun a e => by have := L3.out.2 a e; omega)
            have L3 := Lib.hid (L3.out.keep hB.size (fun a e => hB.block _ (L3.out.2 a e)))
            have M7_9 : Hid (∀ a, D7 = some a → a.block ≠ u4.heap.size) := Lib.hid (fun a e => by have := L7.out.2 a e; omega)
            have L7 := Lib.hid (L7.out.keep hB.size (fun a e => hB.block _ (L7.out.2 a e)))
            have F9 := Lib.hid hF
            have HS5 : Hid _ := Lib.hid (HV.out _ HKEEP.out)
            refine hK.out _ _ HS5.out (fun _ => ?_)
            clear hK K hB hF
            try dsimp only
            generalize (u4.alloc (.cells #[.slice none 0 0, .slice none 0 0, .slice none 0 0] 26)) = u5 at *
            obtain ⟨z0, z1, z2, f0⟩ := cells3 F9.out
            have f1 := f0 1
            have f2 := f0 2
            have f0 := f0 0
            refine wpAnyH_ready (rs := [10]) (by kernel_rfl) (by simp) ?_
            refine AllReadyH.cons (o := ⟨none, _, _, _, _, _⟩) rfl (fun K hK => ?_) AllReadyH.nil
            go_simp
            have hzw : w2.heap.size ≤ u4.heap.size := by omega
            have hX := set3_all (v0 := .slice D3 n1 d3) (v1 := .slice none 0 0) (v2 := .slice D7 n3 d7) F9.out
            have HKEEP : Hid (Below w2.heap.size w2 (((u5.setCell ⟨u4.heap.size, 0, none⟩ (.slice D3 n1 d3)).setCell ⟨u4.heap.size, 1, none⟩ (.slice none 0 0)).setCell ⟨u4.heap.size, 2, none⟩ (.slice D7 n3 d7))) := Lib.hid (((HKEEP.out.setCell (show w2.heap.size ≤ (⟨u4.heap.size, 0, none⟩ : Addr).block from hzw) _).setCell (show w2.heap.size ≤ (⟨u4.heap.size, 1, none⟩ : Addr).block from hzw) _).setCell (show w2.heap.size ≤ (⟨u4.heap.size, 2, none⟩ : Addr).block from hzw) _)
            refine hK.out _ _ (HV.out _ HKEEP.out) (fun _ => ?_)
            clear hK K z0 z1 z2 f0 f1 f2
            try dsimp only
            refine wpAnyH_done (by kernel_rfl) ?_ _
            have HFIN : Hid (AfterOne w2 init labels n1 n3 u4.heap.size D3 d3 D7 d7 _) := Lib.hid ⟨hX, L3.out.set3 (fun a e => (M3_9.out a e)) _ _ _, L7.out.set3 (fun a e => M7_9.out a e) _ _ _, C3.out, C7.out, B3.out, B7.out, M3_9.out, M7_9.out, hzw, HKEEP.out⟩
            go_wp2
            go_meet
            case rel => exact ⟨u4.heap.size, D3, d3, D7, d7, rfl, HFIN⟩
          · rw [if_pos (by kernel_rfl)]
            go_simp
            have hB : Below u3.heap.size u3 (u3.alloc (.cells #[.slice none 0 0, .slice none 0 0, .slice none 0 0] 26)) := (below1 u3 _)
            have hF : (u3.alloc (.cells #[.slice none 0 0, .slice none 0 0, .slice none 0 0] 26)).heap[u3.heap.size]? = some (.cells #[.slice none 0 0, .slice none 0 0, .slice none 0 0] 26 (0, 0)) := World.alloc_heap_new u3 _
            have hsz : u3.heap.size + 1 ≤ (u3.alloc (.cells #[.slice none 0 0, .slice none 0 0, .slice none 0 0] 26)).heap.size := by simp
            have HKEEP : Hid (Below w2.heap.size w2 (u3.alloc (.cells #[.slice none 0 0, .slice none 0 0, .slice none 0 0] 26))) := Lib.hid (HKEEP.out.trans (hB.mono HKEEP.out.size))
            have N4_9 : Hid (u2.heap.size ≠ u3.heap.size) := Lib.hid (by have := (Array.getElem?_eq_some_iff.1 F4.out).1; omega)
            have F4 := Lib.hid ((hB.block _ (Array.getElem?_eq_some_iff.1 F4.out).1).trans F4.out)
            have M3_9 : Hid (∀ a, D3 = some a → a.block ≠ u3.heap.size) := Lib.hid (fun a e => by have := L3.out.2 a e; omega)
            have L3 := Lib.hid (L3.out.keep hB.size (fun a e => hB.block _ (L3.out.2 a e)))
            have F9 := Lib.hid hF
            have HS6 : Hid _ := Lib.hid (HV.out _ HKEEP.out)
            refine hK.out _ _ HS6.out (fun _ => ?_)
            clear hK K hB hF
            try dsimp only
            generalize (u3.alloc (.cells #[.slice none 0 0, .slice none 0 0, .slice none 0 0] 26)) = u6 at *
            refine wpAnyH_ready (rs := [7]) (by kernel_rfl) (by simp) ?_
            refine AllReadyH.cons (o := ⟨some 15, _, _, _, _, _⟩) rfl (fun K hK => ?_) AllReadyH.nil
            refine step_append_la (k := .u64) (by kernel_rfl) (by kernel_rfl) rfl (.tmp 12) (.tmp 14) rfl rfl u2.heap.size rfl F4.out A3 n3 c3 rfl labels HM3.out (HA3.out _ HKEEP.out) HL3.out ?_
            intro D7 d7 u7 hR
            have hsz : u6.heap.size ≤ u7.heap.size := hR.grown.size
            have HKEEP : Hid (Below w2.heap.size w2 u7) := Lib.hid (Below.grown HKEEP.out hR.grown HKEEP.out.size (fun k e => by cases e; omega))
            have M7_9 : Hid (∀ a, D7 = some a → a.block ≠ u3.heap.size) := Lib.hid (fun a e => by
              have h1 := (Array.getElem?_eq_some_iff.1 F9.out).1
              rcases (hR.at_ a e).1 with h2 | h2
              · rw [h2]; first | exact fun e => N9_4.out e.symm | exact fun e => N4_9.out e
              · omega)
            have F9 := Lib.hid ((hR.grown.block _ (Array.getElem?_eq_some_iff.1 F9.out).1 (by first | exact fun e => N9_4.out (Option.some.inj e) | exact fun e => N4_9.out (Option.some.inj e).symm)).trans F9.out)
            have L3 := Lib.hid (L3.out.keep hR.grown.size (fun a e => hR.grown.block _ (L3.out.2 a e) (fun e2 => M3_4.out a e (Option.some.inj e2))))
            have L7 : Hid (LAb .u64 u7 D7 labels) := Lib.hid ⟨hR.la, fun a e => (hR.at_ a e).2⟩
            have C7 : Hid (n3 ≤ d7 ∧ d7 ≤ maxLen) := Lib.hid ⟨by rw [HM3.out]; exact hR.le, hR.max⟩
            have B7 : Hid (∀ a, D7 = some a → w2.heap.size ≤ a.block) := Lib.hid (fun a e => by rcases (hR.at_ a e).1 with h2 | h2 <;> omega)
            have HS7 : Hid _ := Lib.hid (HV.out _ HKEEP.out)
            refine hK.out _ _ HS7.out (fun _ => ?_)
            clear hK K hR
            try simp only [Act.put, List.setIfInBounds_toArray, List.set_cons_zero, List.set_cons_succ]
            refine wpAnyH_take (i := 8) (oi := ⟨some 16, _, _, _, _, _⟩) (v := .agg #[.slice D3 n1 d3, .slice none 0 0, .slice D7 n3 d7]) rfl (by kernel_rfl) (by kernel_rfl) (by kernel_rfl) (fun _ _ _ h => h) (Or.inl ⟨by kernel_rfl, fun w9 hS => ?_⟩) HS7.out ?_
            · clear hS
              go_simp
            try simp only [Act.put, List.setIfInBounds_toArray, List.set_cons_zero, List.set_cons_succ]
            obtain ⟨z0, z1, z2, f0⟩ := cells3 F9.out
            have f1 := f0 1
            have f2 := f0 2
            have f0 := f0 0
            refine wpAnyH_ready (rs := [10]) (by kernel_rfl) (by simp) ?_
            refine AllReadyH.cons (o := ⟨none, _, _, _, _, _⟩) rfl (fun K hK => ?_) AllReadyH.nil
            go_simp
            have hzw : w2.heap.size ≤ u3.heap.size := by omega
            have hX := set3_all (v0 := .slice D3 n1 d3) (v1 := .slice none 0 0) (v2 := .slice D7 n3 d7) F9.out
            have HKEEP : Hid (Below w2.heap.size w2 (((u7.setCell ⟨u3.heap.size, 0, none⟩ (.slice D3 n1 d3)).setCell ⟨u3.heap.size, 1, none⟩ (.slice none 0 0)).setCell ⟨u3.heap.size, 2, none⟩ (.slice D7 n3 d7))) := Lib.hid (((HKEEP.out.setCell (show w2.heap.size ≤ (⟨u3.heap.size, 0, none⟩ : Addr).block from hzw) _).setCell (show w2.heap.size ≤ (⟨u3.heap.size, 1, none⟩ : Addr).block from hzw) _).setCell (show w2.heap.size ≤ (⟨u3.heap.size, 2, none⟩ : Addr).block from hzw) _)
            refine hK.out _ _ (HV.out _ HKEEP.out) (fun _ => ?_)
            clear hK K z0 z1 z2 f0 f1 f2
            try dsimp only
            refine wpAnyH_done (by kernel_rfl) ?_ _
            have HFIN : Hid (AfterOne w2 init labels n1 n3 u3.heap.size D3 d3 D7 d7 _) := Lib.hid ⟨hX, L3.out.set3 (fun a e => (M3_9.out a e)) _ _ _, L7.out.set3 (fun a e => M7_9.out a e) _ _ _, C3.out, C7.out, B3.out, B7.out, M3_9.out, M7_9.out, hzw, HKEEP.out⟩
            go_wp2
            go_meet
            case rel => exact ⟨u3.heap.size, D3, d3, D7, d7, rfl, HFIN⟩
        · rw [if_pos (by kernel_rfl)]
          go_simp
          have hB : Below u2.heap.size u2 (u2.alloc (.cells #[.slice none 0 0, .slice none 0 0, .slice none 0 0] 26)) := (below1 u2 _)
          have hF : (u2.alloc (.cells #[.slice none 0 0, .slice none 0 0, .slice none 0 0] 26)).heap[u2.heap.size]? = some (.cells #[.slice none 0 0, .slice none 0 0, .slice none 0 0] 26 (0, 0)) := World.alloc_heap_new u2 _
          have hsz : u2.heap.size + 1 ≤ (u2.alloc (.cells #[.slice none 0 0, .slice none 0 0, .slice none 0 0] 26)).heap.size := by simp
          have HKEEP : Hid (Below w2.heap.size w2 (u2.alloc (.cells #[.slice none 0 0, .slice none 0 0, .slice none 0 0] 26))) := Lib.hid (HKEEP.out.trans (hB.mono HKEEP.out.size))
          have M3_9 : Hid (∀ a, D3 = some a → a.block ≠ u2.heap.size) := Lib.hid (fun a e => by have := L3.out.2 a e; omega)
          have L3 := Lib.hid (L3.out.keep hB.size (fun a e => hB.block _ (L3.out.2 a e)))
          have F9 := Lib.hid hF
          have HS8 : Hid _ := Lib.hid (HV.out _ HKEEP.out)
          refine hK.out _ _ HS8.out (fun _ => ?_)
          clear hK K hB hF
          try dsimp only
          generalize (u2.alloc (.cells #[.slice none 0 0, .slice none 0 0, .slice none 0 0] 26)) = u8 at *
          refine wpAnyH_ready (rs := [4]) (by kernel_rfl) (by simp) ?_
          refine AllReadyH.cons (o := ⟨some 12, _, _, _, _, _⟩) rfl (fun K hK => ?_) AllReadyH.nil
          rw [if_pos (by kernel_rfl)]
          go_simp
          have hB : Below u8.heap.size u8 (u8.alloc (.cells #[] 63)) := (below1 u8 _)
          have hF : (u8.alloc (.cells #[] 63)).heap[u8.heap.size]? = some (.cells #[] 63 (0, 0)) := World.alloc_heap_new u8 _
          have hsz : u8.heap.size + 1 ≤ (u8.alloc (.cells #[] 63)).heap.size := by simp
          have HKEEP : Hid (Below w2.heap.size w2 (u8.alloc (.cells #[] 63))) := Lib.hid (HKEEP.out.trans (hB.mono HKEEP.out.size))
          have N9_4 : Hid (u2.heap.size ≠ u8.heap.size) := Lib.hid (by have := (Array.getElem?_eq_some_iff.1 F9.out).1; omega)
          have F9 := Lib.hid ((hB.block _ (Array.getElem?_eq_some_iff.1 F9.out).1).trans F9.out)
          have M3_4 : Hid (∀ a, D3 = some a → a.block ≠ u8.heap.size) := Lib.hid (fun a e => by have := L3.out.2 a e; omega)
          have L3 := Lib.hid (L3.out.keep hB.size (fun a e => hB.block _ (L3.out.2 a e)))
          have F4 := Lib.hid hF
          have HS9 : Hid _ := Lib.hid (HV.out _ HKEEP.out)
          refine hK.out _ _ HS9.out (fun _ => ?_)
          clear hK K hB hF
          try dsimp only
          generalize (u8.alloc (.cells #[] 63)) = u9 at *
          refine wpAnyH_ready (rs := [7]) (by kernel_rfl) (by simp) ?_
          refine AllReadyH.cons (o := ⟨some 15, _, _, _, _, _⟩) rfl (fun K hK => ?_) AllReadyH.nil
          refine step_append_la (k := .u64) (by kernel_rfl) (by kernel_rfl) rfl (.tmp 12) (.tmp 14) rfl rfl u8.heap.size rfl F4.out A3 n3 c3 rfl labels HM3.out (HA3.out _ HKEEP.out) HL3.out ?_
          intro D7 d7 u10 hR
          have hsz : u9.heap.size ≤ u10.heap.size := hR.grown.size
          have HKEEP : Hid (Below w2.heap.size w2 u10) := Lib.hid (Below.grown HKEEP.out hR.grown HKEEP.out.size (fun k e => by cases e; omega))
          have M7_9 : Hid (∀ a, D7 = some a → a.block ≠ u2.heap.size) := Lib.hid (fun a e => by
            have h1 := (Array.getElem?_eq_some_iff.1 F9.out).1
            rcases (hR.at_ a e).1 with h2 | h2
            · rw [h2]; first | exact fun e => N9_4.out e.symm | exact fun e => N4_9.out e
            · omega)
          have F9 := Lib.hid ((hR.grown.block _ (Array.getElem?_eq_some_iff.1 F9.out).1 (by first | exact fun e => N9_4.out (Option.some.inj e) | exact fun e => N4_9.out (Option.some.inj e).symm)).trans F9.out)
          have L3 := Lib.hid (L3.out.keep hR.grown.size (fun a e => hR.grown.block _ (L3.out.2 a e) (fun e2 => M3_4.out a e (Option.some.inj e2))))
          have L7 : Hid (LAb .u64 u10 D7 labels) := Lib.hid ⟨hR.la, fun a e => (hR.at_ a e).2⟩
          have C7 : Hid (n3 ≤ d7 ∧ d7 ≤ maxLen) := Lib.hid ⟨by rw [HM3.out]; exact hR.le, hR.max⟩
          have B7 : Hid (∀ a, D7 = some a → w2.heap.size ≤ a.block) := Lib.hid (fun a e => by rcases (hR.at_ a e).1 with h2 | h2 <;> omega)
          have HS10 : Hid _ := Lib.hid (HV.out _ HKEEP.out)
          refine hK.out _ _ HS10.out (fun _ => ?_)
          clear hK K hR
          try simp only [Act.put, List.setIfInBounds_toArray, List.set_cons_zero, List.set_cons_succ]
          refine wpAnyH_take (i := 8) (oi := ⟨some 16, _, _, _, _, _⟩) (v := .agg #[.slice D3 n1 d3, .slice none 0 0, .slice D7 n3 d7]) rfl (by kernel_rfl) (by kernel_rfl) (by kernel_rfl) (fun _ _ _ h => h) (Or.inl ⟨by kernel_rfl, fun w9 hS => ?_⟩) HS10.out ?_
          · clear hS
            go_simp
          try simp only [Act.put, List.setIfInBounds_toArray, List.set_cons_zero, List.set_cons_succ]
          obtain ⟨z0, z1, z2, f0⟩ := cells3 F9.out
          have f1 := f0 1
          have f2 := f0 2
          have f0 := f0 0
          refine wpAnyH_ready (rs := [10]) (by kernel_rfl) (by simp) ?_
          refine AllReadyH.cons (o := ⟨none, _, _, _, _, _⟩) rfl (fun K hK => ?_) AllReadyH.nil
          go_simp
          have hzw : w2.heap.size ≤ u2.heap.size := by omega
          have hX := set3_all (v0 := .slice D3 n1 d3) (v1 := .slice none 0 0) (v2 := .slice D7 n3 d7) F9.out
          have HKEEP : Hid (Below w2.heap.size w2 (((u10.setCell ⟨u2.heap.size, 0, none⟩ (.slice D3 n1 d3)).setCell ⟨u2.heap.size, 1, none⟩ (.slice none 0 0)).setCell ⟨u2.heap.size, 2, none⟩ (.slice D7 n3 d7))) := Lib.hid (((HKEEP.out.setCell (show w2.heap.size ≤ (⟨u2.heap.size, 0, none⟩ : Addr).block from hzw) _).setCell (show w2.heap.size ≤ (⟨u2.heap.size, 1, none⟩ : Addr).block from hzw) _).setCell (show w2.heap.size ≤ (⟨u2.heap.size, 2, none⟩ : Addr).block from hzw) _)
          refine hK.out _ _ (HV.out _ HKEEP.out) (fun _ => ?_)
          clear hK K z0 z1 z2 f0 f1 f2
          try dsimp only
          refine wpAnyH_done (by kernel_rfl) ?_ _
          have HFIN : Hid (AfterOne w2 init labels n1 n3 u2.heap.size D3 d3 D7 d7 _) := Lib.hid ⟨hX, L3.out.set3 (fun a e => (M3_9.out a e)) _ _ _, L7.out.set3 (fun a e => M7_9.out a e) _ _ _, C3.out, C7.out, B3.out, B7.out, M3_9.out, M7_9.out, hzw, HKEEP.out⟩
          go_wp2
          go_meet
          case rel => exact ⟨u2.heap.size, D3, d3, D7, d7, rfl, HFIN⟩
      · rw [if_pos (by kernel_rfl)]
        go_simp
        have hB : Below u1.heap.size u1 (u1.alloc (.cells #[] 63)) := (below1 u1 _)
        have hF : (u1.alloc (.cells #[] 63)).heap[u1.heap.size]? = some (.cells #[] 63 (0, 0)) := World.alloc_heap_new u1 _
        have hsz : u1.heap.size + 1 ≤ (u1.alloc (.cells #[] 63)).heap.size := by simp
        have HKEEP : Hid (Below w2.heap.size w2 (u1.alloc (.cells #[] 63))) := Lib.hid (HKEEP.out.trans (hB.mono HKEEP.out.size))
        have N0_4 : Hid (w2.heap.size ≠ u1.heap.size) := Lib.hid (by have := (Array.getElem?_eq_some_iff.1 F0.out).1; omega)
        have F0 := Lib.hid ((hB.block _ (Array.getElem?_eq_some_iff.1 F0.out).1).trans F0.out)
        have F4 := Lib.hid hF
        have HS11 : Hid _ := Lib.hid (HV.out _ HKEEP.out)
        refine hK.out _ _ HS11.out (fun _ => ?_)
        clear hK K hB hF
        try dsimp only
        generalize (u1.alloc (.cells #[] 63)) = u11 at *
        refine wpAnyH_ready (rs := [3, 9]) (by kernel_rfl) (by simp) ?_
        refine AllReadyH.cons (o := ⟨some 11, _, _, _, _, _⟩) rfl (fun K hK => ?_) (AllReadyH.cons (o := ⟨some 3, _, _, _, _, _⟩) rfl (fun K hK => ?_) AllReadyH.nil)
        · refine step_append_la (k := .i64) (by kernel_rfl) (by kernel_rfl) rfl (.tmp 8) (.tmp 10) rfl rfl w2.heap.size rfl F0.out A1 n1 c1 rfl init HM1.out (HA1.out _ HKEEP.out) HL1.out ?_
          intro D3 d3 u12 hR
          have hsz : u11.heap.size ≤ u12.heap.size := hR.grown.size
          have HKEEP : Hid (Below w2.heap.size w2 u12) := Lib.hid (Below.grown HKEEP.out hR.grown HKEEP.out.size (fun k e => by cases e; omega))
          have M3_4 : Hid (∀ a, D3 = some a → a.block ≠ u1.heap.size) := Lib.hid (fun a e => by
            have h1 := (Array.getElem?_eq_some_iff.1 F4.out).1
            rcases (hR.at_ a e).1 with h2 | h2
            · rw [h2]; first | exact fun e => N4_0.out e.symm | exact fun e => N0_4.out e
            · omega)
          have F4 := Lib.hid ((hR.grown.block _ (Array.getElem?_eq_some_iff.1 F4.out).1 (by first | exact fun e => N4_0.out (Option.some.inj e) | exact fun e => N0_4.out (Option.some.inj e).symm)).trans F4.out)
          have L3 : Hid (LAb .i64 u12 D3 init) := Lib.hid ⟨hR.la, fun a e => (hR.at_ a e).2⟩
          have C3 : Hid (n1 ≤ d3 ∧ d3 ≤ maxLen) := Lib.hid ⟨by rw [HM1.out]; exact hR.le, hR.max⟩
          have B3 : Hid (∀ a, D3 = some a → w2.heap.size ≤ a.block) := Lib.hid (fun a e => by rcases (hR.at_ a e).1 with h2 | h2 <;> omega)
          have HS12 : Hid _ := Lib.hid (HV.out _ HKEEP.out)
          refine hK.out _ _ HS12.out (fun _ => ?_)
          clear hK K hR
          try simp only [Act.put, List.setIfInBounds_toArray, List.set_cons_zero, List.set_cons_succ]
          refine wpAnyH_ready (rs := [7, 9]) (by kernel_rfl) (by simp) ?_
          refine AllReadyH.cons (o := ⟨some 15, _, _, _, _, _⟩) rfl (fun K hK => ?_) (AllReadyH.cons (o := ⟨some 3, _, _, _, _, _⟩) rfl (fun K hK => ?_) AllReadyH.nil)
          · refine step_append_la (k := .u64) (by kernel_rfl) (by kernel_rfl) rfl (.tmp 12) (.tmp 14) rfl rfl u1.heap.size rfl F4.out A3 n3 c3 rfl labels HM3.out (HA3.out _ HKEEP.out) HL3.out ?_
            intro D7 d7 u13 hR
            have hsz : u12.heap.size ≤ u13.heap.size := hR.grown.size
            have HKEEP : Hid (Below w2.heap.size w2 u13) := Lib.hid (Below.grown HKEEP.out hR.grown HKEEP.out.size (fun k e => by cases e; omega))
            have L3 := Lib.hid (L3.out.keep hR.grown.size (fun a e => hR.grown.block _ (L3.out.2 a e) (fun e2 => M3_4.out a e (Option.some.inj e2))))
            have L7 : Hid (LAb .u64 u13 D7 labels) := Lib.hid ⟨hR.la, fun a e => (hR.at_ a e).2⟩
            have C7 : Hid (n3 ≤ d7 ∧ d7 ≤ maxLen) := Lib.hid ⟨by rw [HM3.out]; exact hR.le, hR.max⟩
            have B7 : Hid (∀ a, D7 = some a → w2.heap.size ≤ a.block) := Lib.hid (fun a e => by rcases (hR.at_ a e).1 with h2 | h2 <;> omega)
            have HS13 : Hid _ := Lib.hid (HV.out _ HKEEP.out)
            refine hK.out _ _ HS13.out (fun _ => ?_)
            clear hK K hR
            try simp only [Act.put, List.setIfInBounds_toArray, List.set_cons_zero, List.set_cons_succ]
            refine wpAnyH_take (i := 8) (oi := ⟨some 16, _, _, _, _, _⟩) (v := .agg #[.slice D3 n1 d3, .slice none 0 0, .slice D7 n3 d7]) rfl (by kernel_rfl) (by kernel_rfl) (by kernel_rfl) (fun _ _ _ h => h) (Or.inl ⟨by kernel_rfl, fun w9 hS => ?_⟩) HS13.out ?_
            · clear hS
              go_simp
            try simp only [Act.put, List.setIfInBounds_toArray, List.set_cons_zero, List.set_cons_succ]
            refine wpAnyH_ready (rs := [9]) (by kernel_rfl) (by simp) ?_
            refine AllReadyH.cons (o := ⟨some 3, _, _, _, _, _⟩) rfl (fun K hK => ?_) AllReadyH.nil
            rw [if_pos (by kernel_rfl)]
            go_simp
            have hB : Below u13.heap.size u13 (u13.alloc (.cells #[.slice none 0 0, .slice none 0 0, .slice none 0 0] 26)) := (below1 u13 _)
            have hF : (u13.alloc (.cells #[.slice none 0 0, .slice none 0 0, .slice none 0 0] 26)).heap[u13.heap.size]? = some (.cells #[.slice none 0 0, .slice none 0 0, .slice none 0 0] 26 (0, 0)) := World.alloc_heap_new u13 _
            have hsz : u13.heap.size + 1 ≤ (u13.alloc (.cells #[.slice none 0 0, .slice none 0 0, .slice none 0 0] 26)).heap.size := by simp
            have HKEEP : Hid (Below w2.heap.size w2 (u13.alloc (.cells #[.slice none 0 0, .slice none 0 0, .slice none 0 0] 26))) := Lib.hid (HKEEP.out.trans (hB.mono HKEEP.out.size))
            have M3_9 : Hid (∀ a, D3 = some a → a.block ≠ u13.heap.size) := Lib.hid (fun a e => by have := L3.out.2 a e; omega)
            have L3 := Lib.hid (L3.out.keep hB.size (fun a e => hB.block _ (L3.out.2 a e)))
            have M7_9 : Hid (∀ a, D7 = some a → a.block ≠ u13.heap.size) := Lib.hid (fun a e => by have := L7.out.2 a e; omega)
            have L7 := Lib.hid (L7.out.keep hB.size (fun a e => hB.block _ (L7.out.2 a e)))
            have F9 := Lib.hid hF
            have HS14 : Hid _ := Lib.hid (HV.out _ HKEEP.out)
            refine hK.out _ _ HS14.out (fun _ => ?_)
            clear hK K hB hF
            try dsimp only
            generalize (u13.alloc (.cells #[.slice none 0 0, .slice none 0 0, .slice none 0 0] 26)) = u14 at *
            obtain ⟨z0, z1, z2, f0⟩ := cells3 F9.out
            have f1 := f0 1
            have f2 := f0 2
            have f0 := f0 0
            refine wpAnyH_ready (rs := [10]) (by kernel_rfl) (by simp) ?_
            refine AllReadyH.cons (o := ⟨none, _, _, _, _, _⟩) rfl (fun K hK => ?_) AllReadyH.nil
            go_simp
            have hzw : w2.heap.size ≤ u13.heap.size := by omega
            have hX := set3_all (v0 := .slice D3 n1 d3) (v1 := .slice none 0 0) (v2 := .slice D7 n3 d7) F9.out
            have HKEEP : Hid (Below w2.heap.size w2 (((u14.setCell ⟨u13.heap.size, 0, none⟩ (.slice D3 n1 d3)).setCell ⟨u13.heap.size, 1, none⟩ (.slice none 0 0)).setCell ⟨u13.heap.size, 2, none⟩ (.slice D7 n3 d7))) := Lib.hid (((HKEEP.out.setCell (show w2.heap.size ≤ (⟨u13.heap.size, 0, none⟩ : Addr).block from hzw) _).setCell (show w2.heap.size ≤ (⟨u13.heap.size, 1, none⟩ : Addr).block from hzw) _).setCell (show w2.heap.size ≤ (⟨u13.heap.size, 2, none⟩ : Addr).block from hzw) _)
            refine hK.out _ _ (HV.out _ HKEEP.out) (fun _ => ?_)
            clear hK K z0 z1 z2 f0 f1 f2
            try dsimp only
            refine wpAnyH_done (by kernel_rfl) ?_ _
            have HFIN : Hid (AfterOne w2 init labels n1 n3 u13.heap.size D3 d3 D7 d7 _) := Lib.hid ⟨hX, L3.out.set3 (fun a e => (M3_9.out a e)) _ _ _, L7.out.set3 (fun a e => M7_9.out a e) _ _ _, C3.out, C7.out, B3.out, B7.out, M3_9.out, M7_9.out, hzw, HKEEP.out⟩
            go_wp2
            go_meet
            case rel => exact ⟨u13.heap.size, D3, d3, D7, d7, rfl, HFIN⟩
          · rw [if_pos (by kernel_rfl)]
            go_simp
            have hB : Below u12.heap.size u12 (u12.alloc (.cells #[.slice none 0 0, .slice none 0 0, .slice none 0 0] 26)) := (below1 u12 _)
            have hF : (u12.alloc (.cells #[.slice none 0 0, .slice none 0 0, .slice none 0 0] 26)).heap[u12.heap.size]? = some (.cells #[.slice none 0 0, .slice none 0 0, .slice none 0 0] 26 (0, 0)) := World.alloc_heap_new u12 _
            have hsz : u12.heap.size + 1 ≤ (u12.alloc (.cells #[.slice none 0 0, .slice none 0 0, .slice none 0 0] 26)).heap.size := by simp
            have HKEEP : Hid (Below w2.heap.size w2 (u12.alloc (.cells #[.slice none 0 0, .slice none 0 0, .slice none 0 0] 26))) := Lib.hid (HKEEP.out.trans (hB.mono HKEEP.out.size))
            have N4_9 : Hid (u1.heap.size ≠ u12.heap.size) := Lib.hid (by have := (Array.getElem?_eq_some_iff.1 F4.out).1; omega)
            have F4 := Lib.hid ((hB.block _ (Array.getElem?_eq_some_iff.1 F4.out).1).trans F4.out)
            have M3_9 : Hid (∀ a, D3 = some a → a.block ≠ u12.heap.size) := Lib.hid (fun a e => by have := L3.out.2 a e; omega)
            have L3 := Lib.hid (L3.out.keep hB.size (fun a e => hB.block _ (L3.out.2 a e)))
            have F9 := Lib.hid hF
            have HS15 : Hid _ := Lib.hid (HV.out _ HKEEP.out)
            refine hK.out _ _ HS15.out (fun _ => ?_)
            clear hK K hB hF
            try dsimp only
            generalize (u12.alloc (.cells #[.slice none 0 0, .slice none 0 0, .slice none 0 0] 26)) = u15 at *
            refine wpAnyH_ready (rs := [7]) (by kernel_rfl) (by simp) ?_
            refine AllReadyH.cons (o := ⟨some 15, _, _, _, _, _⟩) rfl (fun K hK => ?_) AllReadyH.nil
            refine step_append_la (k := .u64) (by kernel_rfl) (by kernel_rfl) rfl (.tmp 12) (.tmp 14) rfl rfl u1.heap.size rfl F4.out A3 n3 c3 rfl labels HM3.out (HA3.out _ HKEEP.out) HL3.out ?_
            intro D7 d7 u16 hR
            have hsz : u15.heap.size ≤ u16.heap.size := hR.grown.size
            have HKEEP : Hid (Below w2.heap.size w2 u16) := Lib.hid (Below.grown HKEEP.out hR.grown HKEEP.out.size (fun k e => by cases e; omega))
            have M7_9 : Hid (∀ a, D7 = some a → a.block ≠ u12.heap.size) := Lib.hid (fun a e => by
              have h1 := (Array.getElem?_eq_some_iff.1 F9.out).1
              rcases (hR.at_ a e).1 with h2 | h2
              · rw [h2]; first | exact fun e => N9_4.out e.symm | exact fun e => N4_9.out e
              · omega)
            have F9 := Lib.hid ((hR.grown.block _ (Array.getElem?_eq_some_iff.1 F9.out).1 (by first | exact fun e => N9_4.out (Option.some.inj e) | exact fun e => N4_9.out (Option.some.inj e).symm)).trans F9.out)
            have L3 := Lib.hid (L3.out.keep hR.grown.size (fun a e => hR.grown.block _ (L3.out.2 a e) (fun e2 => M3_4.out a e (Option.some.inj e2))))
            have L7 : Hid (LAb .u64 u16 D7 labels) := Lib.hid ⟨hR.la, fun a e => (hR.at_ a e).2⟩
            have C7 : Hid (n3 ≤ d7 ∧ d7 ≤ maxLen) := Lib.hid ⟨by rw [HM3.out]; exact hR.le, hR.max⟩
            have B7 : Hid (∀ a, D7 = some a → w2.heap.size ≤ a.block) := Lib.hid (fun a e => by rcases (hR.at_ a e).1 with h2 | h2 <;> omega)
            have HS16 : Hid _ := Lib.hid (HV.out _ HKEEP.out)
            refine hK.out _ _ HS16.out (fun _ => ?_)
            clear hK K hR
            try simp only [Act.put, List.setIfInBounds_toArray, List.set_cons_zero, List.set_cons_succ]
            refine wpAnyH_take (i := 8) (oi := ⟨some 16, _, _, _, _, _⟩) (v := .agg #[.slice D3 n1 d3, .slice none 0 0, .slice D7 n3 d7]) rfl (by kernel_rfl) (by kernel_rfl) (by kernel_rfl) (fun _ _ _ h => h) (Or.inl ⟨by kernel_rfl, fun w9 hS => ?_⟩) HS16.out ?_
            · clear hS
              go_simp
            try simp only [Act.put, List.setIfInBounds_toArray, List.set_cons_zero, List.set_cons_succ]
            obtain ⟨z0, z1, z2, f0⟩ := cells3 F9.out
            have f1 := f0 1
            have f2 := f0 2
            have f0 := f0 0
            refine wpAnyH_ready (rs := [10]) (by kernel_rfl) (by simp) ?_
            refine AllReadyH.cons (o := ⟨none, _, _, _, _, _⟩) rfl (fun K hK => ?_) AllReadyH.nil
            go_simp
            have hzw : w2.heap.size ≤ u12.heap.size := by omega
            have hX := set3_all (v0 := .slice D3 n1 d3) (v1 := .slice none 0 0) (v2 := .slice D7 n3 d7) F9.out
            have HKEEP : Hid (Below w2.heap.size w2 (((u16.setCell ⟨u12.heap.size, 0, none⟩ (.slice D3 n1 d3)).setCell ⟨u12.heap.size, 1, none⟩ (.slice none 0 0)).setCell ⟨u12.heap.size, 2, none⟩ (.slice D7 n3 d7))) := Lib.hid (((HKEEP.out.setCell (show w2.heap.size ≤ (⟨u12.heap.size, 0, none⟩ : Addr).block from hzw) _).setCell (show w2.heap.size ≤ (⟨u12.heap.size, 1, none⟩ : Addr).block from hzw) _).setCell (show w2.heap.size ≤ (⟨u12.heap.size, 2, none⟩ : Addr).block from hzw) _)
            refine hK.out _ _ (HV.out _ HKEEP.out) (fun _ => ?_)
            clear hK K z0 z1 z2 f0 f1 f2
            try dsimp only
            refine wpAnyH_done (by kernel_rfl) ?_ _
            have HFIN : Hid (AfterOne w2 init labels n1 n3 u12.heap.size D3 d3 D7 d7 _) := Lib.hid ⟨hX, L3.out.set3 (fun a e => (M3_9.out a e)) _ _ _, L7.out.set3 (fun a e => M7_9.out a e) _ _ _, C3.out, C7.out, B3.out, B7.out, M3_9.out, M7_9.out, hzw, HKEEP.out⟩
            go_wp2
            go_meet
            case rel => exact ⟨u12.heap.size, D3, d3, D7, d7, rfl, HFIN⟩
        · rw [if_pos (by kernel_rfl)]
          go_simp
          have hB : Below u11.heap.size u11 (u11.alloc (.cells #[.slice none 0 0, .slice none 0 0, .slice none 0 0] 26)) := (below1 u11 _)
          have hF : (u11.alloc (.cells #[.slice none 0 0, .slice none 0 0, .slice none 0 0] 26)).heap[u11.heap.size]? = some (.cells #[.slice none 0 0, .slice none 0 0, .slice none 0 0] 26 (0, 0)) := World.alloc_heap_new u11 _
          have hsz : u11.heap.size + 1 ≤ (u11.alloc (.cells #[.slice none 0 0, .slice none 0 0, .slice none 0 0] 26)).heap.size := by simp
          have HKEEP : Hid (Below w2.heap.size w2 (u11.alloc (.cells #[.slice none 0 0, .slice none 0 0, .slice none 0 0] 26))) := Lib.hid (HKEEP.out.trans (hB.mono HKEEP.out.size))
          have N0_9 : Hid (w2.heap.size ≠ u11.heap.size) := Lib.hid (by have := (Array.getElem?_eq_some_iff.1 F0.out).1; omega)
          have N4_9 : Hid (u1.heap.size ≠ u11.heap.size) := Lib.hid (by have := (Array.getElem?_eq_some_iff.1 F4.out).1; omega)
          have F0 := Lib.hid ((hB.block _ (Array.getElem?_eq_some_iff.1 F0.out).1).trans F0.out)
          have F4 := Lib.hid ((hB.block _ (Array.getElem?_eq_some_iff.1 F4.out).1).trans F4.out)
          have F9 := Lib.hid hF
          have HS17 : Hid _ := Lib.hid (HV.out _ HKEEP.out)
          refine hK.out _ _ HS17.out (fun _ => ?_)
          clear hK K hB hF
          try dsimp only
          generalize (u11.alloc (.cells #[.slice none 0 0, .slice none 0 0, .slice none 0 0] 26)) = u17 at *
          refine wpAnyH_ready (rs := [3]) (by kernel_rfl) (by simp) ?_
          refine AllReadyH.cons (o := ⟨some 11, _, _, _, _, _⟩) rfl (fun K hK => ?_) AllReadyH.nil
          refine step_append_la (k := .i64) (by kernel_rfl) (by kernel_rfl) rfl (.tmp 8) (.tmp 10) rfl rfl w2.heap.size rfl F0.out A1 n1 c1 rfl init HM1.out (HA1.out _ HKEEP.out) HL1.out ?_
          intro D3 d3 u18 hR
          have hsz : u17.heap.size ≤ u18.heap.size := hR.grown.size
          have HKEEP : Hid (Below w2.heap.size w2 u18) := Lib.hid (Below.grown HKEEP.out hR.grown HKEEP.out.size (fun k e => by cases e; omega))
          have M3_4 : Hid (∀ a, D3 = some a → a.block ≠ u1.heap.size) := Lib.hid (fun a e => by
            have h1 := (Array.getElem?_eq_some_iff.1 F4.out).1
            rcases (hR.at_ a e).1 with h2 | h2
            · rw [h2]; first | exact fun e => N4_0.out e.symm | exact fun e => N0_4.out e
            · omega)
          have M3_9 : Hid (∀ a, D3 = some a → a.block ≠ u11.heap.size) := Lib.hid (fun a e => by
            have h1 := (Array.getElem?_eq_some_iff.1 F9.out).1
            rcases (hR.at_ a e).1 with h2 | h2
            · rw [h2]; first | exact fun e => N9_0.out e.symm | exact fun e => N0_9.out e
            · omega)
          have F4 := Lib.hid ((hR.grown.block _ (Array.getElem?_eq_some_iff.1 F4.out).1 (by first | exact fun e => N4_0.out (Option.some.inj e) | exact fun e => N0_4.out (Option.some.inj e).symm)).trans F4.out)
          have F9 := Lib.hid ((hR.grown.block _ (Array.getElem?_eq_some_iff.1 F9.out).1 (by first | exact fun e => N9_0.out (Option.some.inj e) | exact fun e => N0_9.out (Option.some.inj e).symm)).trans F9.out)
          have L3 : Hid (LAb .i64 u18 D3 init) := Lib.hid ⟨hR.la, fun a e => (hR.at_ a e).2⟩
          have C3 : Hid (n1 ≤ d3 ∧ d3 ≤ maxLen) := Lib.hid ⟨by rw [HM1.out]; exact hR.le, hR.max⟩
          have B3 : Hid (∀ a, D3 = some a → w2.heap.size ≤ a.block) := Lib.hid (fun a e => by rcases (hR.at_ a e).1 with h2 | h2 <;> omega)
          have HS18 : Hid _ := Lib.hid (HV.out _ HKEEP.out)
          refine hK.out _ _ HS18.out (fun _ => ?_)
          clear hK K hR
          try simp only [Act.put, List.setIfInBounds_toArray, List.set_cons_zero, List.set_cons_succ]
          refine wpAnyH_ready (rs := [7]) (by kernel_rfl) (by simp) ?_
          refine AllReadyH.cons (o := ⟨some 15, _, _, _, _, _⟩) rfl (fun K hK => ?_) AllReadyH.nil
          refine step_append_la (k := .u64) (by kernel_rfl) (by kernel_rfl) rfl (.tmp 12) (.tmp 14) rfl rfl u1.heap.size rfl F4.out A3 n3 c3 rfl labels HM3.out (HA3.out _ HKEEP.out) HL3.out ?_
          intro D7 d7 u19 hR
          have hsz : u18.heap.size ≤ u19.heap.size := hR.grown.size
          have HKEEP : Hid (Below w2.heap.size w2 u19) := Lib.hid (Below.grown HKEEP.out hR.grown HKEEP.out.size (fun k e => by cases e; omega))
          have M7_9 : Hid (∀ a, D7 = some a → a.block ≠ u11.heap.size) := Lib.hid (fun a e => by
            have h1 := (Array.getElem?_eq_some_iff.1 F9.out).1
            rcases (hR.at_ a e).1 with h2 | h2
            · rw [h2]; first | exact fun e => N9_4.out e.symm | exact fun e => N4_9.out e
            · omega)
          have F9 := Lib.hid ((hR.grown.block _ (Array.getElem?_eq_some_iff.1 F9.out).1 (by first | exact fun e => N9_4.out (Option.some.inj e) | exact fun e => N4_9.out (Option.some.inj e).symm)).trans F9.out)
          have L3 := Lib.hid (L3.out.keep hR.grown.size (fun a e => hR.grown.block _ (L3.out.2 a e) (fun e2 => M3_4.out a e (Option.some.inj e2))))
          have L7 : Hid (LAb .u64 u19 D7 labels) := Lib.hid ⟨hR.la, fun a e => (hR.at_ a e).2⟩
          have C7 : Hid (n3 ≤ d7 ∧ d7 ≤ maxLen) := Lib.hid ⟨by rw [HM3.out]; exact hR.le, hR.max⟩
          have B7 : Hid (∀ a, D7 = some a → w2.heap.size ≤ a.block) := Lib.hid (fun a e => by rcases (hR.at_ a e).1 with h2 | h2 <;> omega)
          have HS19 : Hid _ := Lib.hid (HV.out _ HKEEP.out)
          refine hK.out _ _ HS19.out (fun _ => ?_)
          clear hK K hR
          try simp only [Act.put, List.setIfInBounds_toArray, List.set_cons_zero, List.set_cons_succ]
          refine wpAnyH_take (i := 8) (oi := ⟨some 16, _, _, _, _, _⟩) (v := .agg #[.slice D3 n1 d3, .slice none 0 0, .slice D7 n3 d7]) rfl (by kernel_rfl) (by kernel_rfl) (by kernel_rfl) (fun _ _ _ h => h) (Or.inl ⟨by kernel_rfl, fun w9 hS => ?_⟩) HS19.out ?_
          · clear hS
            go_simp
          try simp only [Act.put, List.setIfInBounds_toArray, List.set_cons_zero, List.set_cons_succ]
          obtain ⟨z0, z1, z2, f0⟩ := cells3 F9.out
          have f1 := f0 1
          have f2 := f0 2
          have f0 := f0 0
          refine wpAnyH_ready (rs := [10]) (by kernel_rfl) (by simp) ?_
          refine AllReadyH.cons (o := ⟨none, _, _, _, _, _⟩) rfl (fun K hK => ?_) AllReadyH.nil
          go_simp
          have hzw : w2.heap.size ≤ u11.heap.size := by omega
          have hX := set3_all (v0 := .slice D3 n1 d3) (v1 := .slice none 0 0) (v2 := .slice D7 n3 d7) F9.out
          have HKEEP : Hid (Below w2.heap.size w2 (((u19.setCell ⟨u11.heap.size, 0, none⟩ (.slice D3 n1 d3)).setCell ⟨u11.heap.size, 1, none⟩ (.slice none 0 0)).setCell ⟨u11.heap.size, 2, none⟩ (.slice D7 n3 d7))) := Lib.hid (((HKEEP.out.setCell (show w2.heap.size ≤ (⟨u11.heap.size, 0, none⟩ : Addr).block from hzw) _).setCell (show w2.heap.size ≤ (⟨u11.heap.size, 1, none⟩ : Addr).block from hzw) _).setCell (show w2.heap.size ≤ (⟨u11.heap.size, 2, none⟩ : Addr).block from hzw) _)
          refine hK.out _ _ (HV.out _ HKEEP.out) (fun _ => ?_)
          clear hK K z0 z1 z2 f0 f1 f2
          try dsimp only
          refine wpAnyH_done (by kernel_rfl) ?_ _
          have HFIN : Hid (AfterOne w2 init labels n1 n3 u11.heap.size D3 d3 D7 d7 _) := Lib.hid ⟨hX, L3.out.set3 (fun a e => (M3_9.out a e)) _ _ _, L7.out.set3 (fun a e => M7_9.out a e) _ _ _, C3.out, C7.out, B3.out, B7.out, M3_9.out, M7_9.out, hzw, HKEEP.out⟩
          go_wp2
          go_meet
          case rel => exact ⟨u11.heap.size, D3, d3, D7, d7, rfl, HFIN⟩
      · rw [if_pos (by kernel_rfl)]
        go_simp
        have hB : Below u1.heap.size u1 (u1.alloc (.cells #[.slice none 0 0, .slice none 0 0, .slice none 0 0] 26)) := (below1 u1 _)
        have hF : (u1.alloc (.cells #[.slice none 0 0, .slice none 0 0, .slice none 0 0] 26)).heap[u1.heap.size]? = some (.cells #[.slice none 0 0, .slice none 0 0, .slice none 0 0] 26 (0, 0)) := World.alloc_heap_new u1 _
        have hsz : u1.heap.size + 1 ≤ (u1.alloc (.cells #[.slice none 0 0, .slice none 0 0, .slice none 0 0] 26)).heap.size := by simp
        have HKEEP : Hid (Below w2.heap.size w2 (u1.alloc (.cells #[.slice none 0 0, .slice none 0 0, .slice none 0 0] 26))) := Lib.hid (HKEEP.out.trans (hB.mono HKEEP.out.size))
        have N0_9 : Hid (w2.heap.size ≠ u1.heap.size) := Lib.hid (by have := (Array.getElem?_eq_some_iff.1 F0.out).1; omega)
        have F0 := Lib.hid ((hB.block _ (Array.getElem?_eq_some_iff.1 F0.out).1).trans F0.out)
        have F9 := Lib.hid hF
        have HS20 : Hid _ := Lib.hid (HV.out _ HKEEP.out)
        refine hK.out _ _ HS20.out (fun _ => ?_)
        clear hK K hB hF
        try dsimp only
        generalize (u1.alloc (.cells #[.slice none 0 0, .slice none 0 0, .slice none 0 0] 26)) = u20 at *
        refine wpAnyH_ready (rs := [3, 4]) (by kernel_rfl) (by simp) ?_
        refine AllReadyH.cons (o := ⟨some 11, _, _, _, _, _⟩) rfl (fun K hK => ?_) (AllReadyH.cons (o := ⟨some 12, _, _, _, _, _⟩) rfl (fun K hK => ?_) AllReadyH.nil)
        · refine step_append_la (k := .i64) (by kernel_rfl) (by kernel_rfl) rfl (.tmp 8) (.tmp 10) rfl rfl w2.heap.size rfl F0.out A1 n1 c1 rfl init HM1.out (HA1.out _ HKEEP.out) HL1.out ?_
          intro D3 d3 u21 hR
          have hsz : u20.heap.size ≤ u21.heap.size := hR.grown.size
          have HKEEP : Hid (Below w2.heap.size w2 u21) := Lib.hid (Below.grown HKEEP.out hR.grown HKEEP.out.size (fun k e => by cases e; omega))
          have M3_9 : Hid (∀ a, D3 = some a → a.block ≠ u1.heap.size) := Lib.hid (fun a e => by
            have h1 := (Array.getElem?_eq_some_iff.1 F9.out).1
            rcases (hR.at_ a e).1 with h2 | h2
            · rw [h2]; first | exact fun e => N9_0.out e.symm | exact fun e => N0_9.out e
            · omega)
          have F9 := Lib.hid ((hR.grown.block _ (Array.getElem?_eq_some_iff.1 F9.out).1 (by first | exact fun e => N9_0.out (Option.some.inj e) | exact fun e => N0_9.out (Option.some.inj e).symm)).trans F9.out)
          have L3 : Hid (LAb .i64 u21 D3 init) := Lib.hid ⟨hR.la, fun a e => (hR.at_ a e).2⟩
          have C3 : Hid (n1 ≤ d3 ∧ d3 ≤ maxLen) := Lib.hid ⟨by rw [HM1.out]; exact hR.le, hR.max⟩
          have B3 : Hid (∀ a, D3 = some a → w2.heap.size ≤ a.block) := Lib.hid (fun a e => by rcases (hR.at_ a e).1 with h2 | h2 <;> omega)
          have HS21 : Hid _ := Lib.hid (HV.out _ HKEEP.out)
          refine hK.out _ _ HS21.out (fun _ => ?_)
          clear hK K hR
          try simp only [Act.put, List.setIfInBounds_toArray, List.set_cons_zero, List.set_cons_succ]
          refine wpAnyH_ready (rs := [4]) (by kernel_rfl) (by simp) ?_
          refine AllReadyH.cons (o := ⟨some 12, _, _, _, _, _⟩) rfl (fun K hK => ?_) AllReadyH.nil
          rw [if_pos (by kernel_rfl)]
          go_simp
          have hB : Below u21.heap.size u21 (u21.alloc (.cells #[] 63)) := (below1 u21 _)
          have hF : (u21.alloc (.cells #[] 63)).heap[u21.heap.size]? = some (.cells #[] 63 (0, 0)) := World.alloc_heap_new u21 _
          have hsz : u21.heap.size + 1 ≤ (u21.alloc (.cells #[] 63)).heap.size := by simp
          have HKEEP : Hid (Below w2.heap.size w2 (u21.alloc (.cells #[] 63))) := Lib.hid (HKEEP.out.trans (hB.mono HKEEP.out.size))
          have N9_4 : Hid (u1.heap.size ≠ u21.heap.size) := Lib.hid (by have := (Array.getElem?_eq_some_iff.1 F9.out).1; omega)
          have F9 := Lib.hid ((hB.block _ (Array.getElem?_eq_some_iff.1 F9.out).1).trans F9.out)
          have M3_4 : Hid (∀ a, D3 = some a → a.block ≠ u21.heap.size) := Lib.hid (fun a e => by have := L3.out.2 a e; omega)
          have L3 := Lib.hid (L3.out.keep hB.size (fun a e => hB.block _ (L3.out.2 a e)))
          have F4 := Lib.hid hF
          have HS22 : Hid _ := Lib.hid (HV.out _ HKEEP.out)
          refine hK.out _ _ HS22.out (fun _ => ?_)
          clear hK K hB hF
          try dsimp only
          generalize (u21.alloc (.cells #[] 63)) = u22 at *
          refine wpAnyH_ready (rs := [7]) (by kernel_rfl) (by simp) ?_
          refine AllReadyH.cons (o := ⟨some 15, _, _, _, _, _⟩) rfl (fun K hK => ?_) AllReadyH.nil
          refine step_append_la (k := .u64) (by kernel_rfl) (by kernel_rfl) rfl (.tmp 12) (.tmp 14) rfl rfl u21.heap.size rfl F4.out A3 n3 c3 rfl labels HM3.out (HA3.out _ HKEEP.out) HL3.out ?_
          intro D7 d7 u23 hR
          have hsz : u22.heap.size ≤ u23.heap.size := hR.grown.size
          have HKEEP : Hid (Below w2.heap.size w2 u23) := Lib.hid (Below.grown HKEEP.out hR.grown HKEEP.out.size (fun k e => by cases e; omega))
          have M7_9 : Hid (∀ a, D7 = some a → a.block ≠ u1.heap.size) := Lib.hid (fun a e => by
            have h1 := (Array.getElem?_eq_some_iff.1 F9.out).1
            rcases (hR.at_ a e).1 with h2 | h2
            · rw [h2]; first | exact fun e => N9_4.out e.symm | exact fun e => N4_9.out e
            · omega)
          have F9 := Lib.hid ((hR.grown.block _ (Array.getElem?_eq_some_iff.1 F9.out).1 (by first | exact fun e => N9_4.out (Option.some.inj e) | exact fun e => N4_9.out (Option.some.inj e).symm)).trans F9.out)
          have L3 := Lib.hid (L3.out.keep hR.grown.size (fun a e => hR.grown.block _ (L3.out.2 a e) (fun e2 => M3_4.out a e (Option.some.inj e2))))
          have L7 : Hid (LAb .u64 u23 D7 labels) := Lib.hid ⟨hR.la, fun a e => (hR.at_ a e).2⟩
          have C7 : Hid (n3 ≤ d7 ∧ d7 ≤ maxLen) := Lib.hid ⟨by rw [HM3.out]; exact hR.le, hR.max⟩
          have B7 : Hid (∀ a, D7 = some a → w2.heap.size ≤ a.block) := Lib.hid (fun a e => by rcases (hR.at_ a e).1 with h2 | h2 <;> omega)
          have HS23 : Hid _ := Lib.hid (HV.out _ HKEEP.out)
          refine hK.out _ _ HS23.out (fun _ => ?_)
          clear hK K hR
          try simp only [Act.put, List.setIfInBounds_toArray, List.set_cons_zero, List.set_cons_succ]
          refine wpAnyH_take (i := 8) (oi := ⟨some 16, _, _, _, _, _⟩) (v := .agg #[.slice D3 n1 d3, .slice none 0 0, .slice D7 n3 d7]) rfl (by kernel_rfl) (by kernel_rfl) (by kernel_rfl) (fun _ _ _ h => h) (Or.inl ⟨by kernel_rfl, fun w9 hS => ?_⟩) HS23.out ?_
          · clear hS
            go_simp
          try simp only [Act.put, List.setIfInBounds_toArray, List.set_cons_zero, List.set_cons_succ]
          obtain ⟨z0, z1, z2, f0⟩ := cells3 F9.out
          have f1 := f0 1
          have f2 := f0 2
          have f0 := f0 0
          refine wpAnyH_ready (rs := [10]) (by kernel_rfl) (by simp) ?_
          refine AllReadyH.cons (o := ⟨none, _, _, _, _, _⟩) rfl (fun K hK => ?_) AllReadyH.nil
          go_simp
          have hzw : w2.heap.size ≤ u1.heap.size := by omega
          have hX := set3_all (v0 := .slice D3 n1 d3) (v1 := .slice none 0 0) (v2 := .slice D7 n3 d7) F9.out
          have HKEEP : Hid (Below w2.heap.size w2 (((u23.setCell ⟨u1.heap.size, 0, none⟩ (.slice D3 n1 d3)).setCell ⟨u1.heap.size, 1, none⟩ (.slice none 0 0)).setCell ⟨u1.heap.size, 2, none⟩ (.slice D7 n3 d7))) := Lib.hid (((HKEEP.out.setCell (show w2.heap.size ≤ (⟨u1.heap.size, 0, none⟩ : Addr).block from hzw) _).setCell (show w2.heap.size ≤ (⟨u1.heap.size, 1, none⟩ : Addr).block from hzw) _).setCell (show w2.heap.size ≤ (⟨u1.heap.size, 2, none⟩ : Addr).block from hzw) _)
          refine hK.out _ _ (HV.out _ HKEEP.out) (fun _ => ?_)
          clear hK K z0 z1 z2 f0 f1 f2
          try dsimp only
          refine wpAnyH_done (by kernel_rfl) ?_ _
          have HFIN : Hid (AfterOne w2 init labels n1 n3 u1.heap.size D3 d3 D7 d7 _) := Lib.hid ⟨hX, L3.out.set3 (fun a e => (M3_9.out a e)) _ _ _, L7.out.set3 (fun a e => M7_9.out a e) _ _ _, C3.out, C7.out, B3.out, B7.out, M3_9.out, M7_9.out, hzw, HKEEP.out⟩
          go_wp2
          go_meet
          case rel => exact ⟨u1.heap.size, D3, d3, D7, d7, rfl, HFIN⟩
        · rw [if_pos (by kernel_rfl)]
          go_simp
          have hB : Below u20.heap.size u20 (u20.alloc (.cells #[] 63)) := (below1 u20 _)
          have hF : (u20.alloc (.cells #[] 63)).heap[u20.heap.size]? = some (.cells #[] 63 (0, 0)) := World.alloc_heap_new u20 _
          have hsz : u20.heap.size + 1 ≤ (u20.alloc (.cells #[] 63)).heap.size := by simp
          have HKEEP : Hid (Below w2.heap.size w2 (u20.alloc (.cells #[] 63))) := Lib.hid (HKEEP.out.trans (hB.mono HKEEP.out.size))
          have N0_4 : Hid (w2.heap.size ≠ u20.heap.size) := Lib.hid (by have := (Array.getElem?_eq_some_iff.1 F0.out).1; omega)
          have N9_4 : Hid (u1.heap.size ≠ u20.heap.size) := Lib.hid (by have := (Array.getElem?_eq_some_iff.1 F9.out).1; omega)
          have F0 := Lib.hid ((hB.block _ (Array.getElem?_eq_some_iff.1 F0.out).1).trans F0.out)
          have F9 := Lib.hid ((hB.block _ (Array.getElem?_eq_some_iff.1 F9.out).1).trans F9.out)
          have F4 := Lib.hid hF
          have HS24 : Hid _ := Lib.hid (HV.out _ HKEEP.out)
          refine hK.out _ _ HS24.out (fun _ => ?_)
          clear hK K hB hF
          try dsimp only
          generalize (u20.alloc (.cells #[] 63)) = u24 at *
          refine wpAnyH_ready (rs := [3]) (by kernel_rfl) (by simp) ?_
          refine AllReadyH.cons (o := ⟨some 11, _, _, _, _, _⟩) rfl (fun K hK => ?_) AllReadyH.nil
          refine step_append_la (k := .i64) (by kernel_rfl) (by kernel_rfl) rfl (.tmp 8) (.tmp 10) rfl rfl w2.heap.size rfl F0.out A1 n1 c1 rfl init HM1.out (HA1.out _ HKEEP.out) HL1.out ?_
          intro D3 d3 u25 hR
          have hsz : u24.heap.size ≤ u25.heap.size := hR.grown.size
          have HKEEP : Hid (Below w2.heap.size w2 u25) := Lib.hid (Below.grown HKEEP.out hR.grown HKEEP.out.size (fun k e => by cases e; omega))
          have M3_9 : Hid (∀ a, D3 = some a → a.block ≠ u1.heap.size) := Lib.hid (fun a e => by
            have h1 := (Array.getElem?_eq_some_iff.1 F9.out).1
            rcases (hR.at_ a e).1 with h2 | h2
            · rw [h2]; first | exact fun e => N9_0.out e.symm | exact fun e => N0_9.out e
            · omega)
          have M3_4 : Hid (∀ a, D3 = some a → a.block ≠ u20.heap.size) := Lib.hid (fun a e => by
            have h1 := (Array.getElem?_eq_some_iff.1 F4.out).1
            rcases (hR.at_ a e).1 with h2 | h2
            · rw [h2]; first | exact fun e => N4_0.out e.symm | exact fun e => N0_4.out e
            · omega)
          have F9 := Lib.hid ((hR.grown.block _ (Array.getElem?_eq_some_iff.1 F9.out).1 (by first | exact fun e => N9_0.out (Option.some.inj e) | exact fun e => N0_9.out (Option.some.inj e).symm)).trans F9.out)
          have F4 := Lib.hid ((hR.grown.block _ (Array.getElem?_eq_some_iff.1 F4.out).1 (by first | exact fun e => N4_0.out (Option.some.inj e) | exact fun e => N0_4.out (Option.some.inj e).symm)).trans F4.out)
          have L3 : Hid (LAb .i64 u25 D3 init) := Lib.hid ⟨hR.la, fun a e => (hR.at_ a e).2⟩
          have C3 : Hid (n1 ≤ d3 ∧ d3 ≤ maxLen) := Lib.hid ⟨by rw [HM1.out]; exact hR.le, hR.max⟩
          have B3 : Hid (∀ a, D3 = some a → w2.heap.size ≤ a.block) := Lib.hid (fun a e => by rcases (hR.at_ a e).1 with h2 | h2 <;> omega)
          have HS25 : Hid _ := Lib.hid (HV.out _ HKEEP.out)
          refine hK.out _ _ HS25.out (fun _ => ?_)
          clear hK K hR
          try simp only [Act.put, List.setIfInBounds_toArray, List.set_cons_zero, List.set_cons_succ]
          refine wpAnyH_ready (rs := [7]) (by kernel_rfl) (by simp) ?_
          refine AllReadyH.cons (o := ⟨some 15, _, _, _, _, _⟩) rfl (fun K hK => ?_) AllReadyH.nil
          refine step_append_la (k := .u64) (by kernel_rfl) (by kernel_rfl) rfl (.tmp 12) (.tmp 14) rfl rfl u20.heap.size rfl F4.out A3 n3 c3 rfl labels HM3.out (HA3.out _ HKEEP.out) HL3.out ?_
          intro D7 d7 u26 hR
          have hsz : u25.heap.size ≤ u26.heap.size := hR.grown.size
          have HKEEP : Hid (Below w2.heap.size w2 u26) := Lib.hid (Below.grown HKEEP.out hR.grown HKEEP.out.size (fun k e => by cases e; omega))
          have M7_9 : Hid (∀ a, D7 = some a → a.block ≠ u1.heap.size) := Lib.hid (fun a e => by
            have h1 := (Array.getElem?_eq_some_iff.1 F9.out).1
            rcases (hR.at_ a e).1 with h2 | h2
            · rw [h2]; first | exact fun e => N9_4.out e.symm | exact fun e => N4_9.out e
            · omega)
          have F9 := Lib.hid ((hR.grown.block _ (Array.getElem?_eq_some_iff.1 F9.out).1 (by first | exact fun e => N9_4.out (Option.some.inj e) | exact fun e => N4_9.out (Option.some.inj e).symm)).trans F9.out)
          have L3 := Lib.hid (L3.out.keep hR.grown.size (fun a e => hR.grown.block _ (L3.out.2 a e) (fun e2 => M3_4.out a e (Option.some.inj e2))))
          have L7 : Hid (LAb .u64 u26 D7 labels) := Lib.hid ⟨hR.la, fun a e => (hR.at_ a e).2⟩
          have C7 : Hid (n3 ≤ d7 ∧ d7 ≤ maxLen) := Lib.hid ⟨by rw [HM3.out]; exact hR.le, hR.max⟩
          have B7 : Hid (∀ a, D7 = some a → w2.heap.size ≤ a.block) := Lib.hid (fun a e => by rcases (hR.at_ a e).1 with h2 | h2 <;> omega)
          have HS26 : Hid _ := Lib.hid (HV.out _ HKEEP.out)
          refine hK.out _ _ HS26.out (fun _ => ?_)
          clear hK K hR
          try simp only [Act.put, List.setIfInBounds_toArray, List.set_cons_zero, List.set_cons_succ]
          refine wpAnyH_take (i := 8) (oi := ⟨some 16, _, _, _, _, _⟩) (v := .agg #[.slice D3 n1 d3, .slice none 0 0, .slice D7 n3 d7]) rfl (by kernel_rfl) (by kernel_rfl) (by kernel_rfl) (fun _ _ _ h => h) (Or.inl ⟨by kernel_rfl, fun w9 hS => ?_⟩) HS26.out ?_
          · clear hS
            go_simp
          try simp only [Act.put, List.setIfInBounds_toArray, List.set_cons_zero, List.set_cons_succ]
          obtain ⟨z0, z1, z2, f0⟩ := cells3 F9.out
          have f1 := f0 1
          have f2 := f0 2
          have f0 := f0 0
          refine wpAnyH_ready (rs := [10]) (by kernel_rfl) (by simp) ?_
          refine AllReadyH.cons (o := ⟨none, _, _, _, _, _⟩) rfl (fun K hK => ?_) AllReadyH.nil
          go_simp
          have hzw : w2.heap.size ≤ u1.heap.size := by omega
          have hX := set3_all (v0 := .slice D3 n1 d3) (v1 := .slice none 0 0) (v2 := .slice D7 n3 d7) F9.out
          have HKEEP : Hid (Below w2.heap.size w2 (((u26.setCell ⟨u1.heap.size, 0, none⟩ (.slice D3 n1 d3)).setCell ⟨u1.heap.size, 1, none⟩ (.slice none 0 0)).setCell ⟨u1.heap.size, 2, none⟩ (.slice D7 n3 d7))) := Lib.hid (((HKEEP.out.setCell (show w2.heap.size ≤ (⟨u1.heap.size, 0, none⟩ : Addr).block from hzw) _).setCell (show w2.heap.size ≤ (⟨u1.heap.size, 1, none⟩ : Addr).block from hzw) _).setCell (show w2.heap.size ≤ (⟨u1.heap.size, 2, none⟩ : Addr).block from hzw) _)
          refine hK.out _ _ (HV.out _ HKEEP.out) (fun _ => ?_)
          clear hK K z0 z1 z2 f0 f1 f2
          try dsimp only
          refine wpAnyH_done (by kernel_rfl) ?_ _
          have HFIN : Hid (AfterOne w2 init labels n1 n3 u1.heap.size D3 d3 D7 d7 _) := Lib.hid ⟨hX, L3.out.set3 (fun a e => (M3_9.out a e)) _ _ _, L7.out.set3 (fun a e => M7_9.out a e) _ _ _, C3.out, C7.out, B3.out, B7.out, M3_9.out, M7_9.out, hzw, HKEEP.out⟩
          go_wp2
          go_meet
          case rel => exact ⟨u1.heap.size, D3, d3, D7, d7, rfl, HFIN⟩
    · rw [if_pos (by kernel_rfl)]
      go_simp
      have hB : Below w2.heap.size w2 (w2.alloc (.cells #[] 63)).drew := (below1 w2 _).drew
      have hF : (w2.alloc (.cells #[] 63)).drew.heap[w2.heap.size]? = some (.cells #[] 63 (0, 0)) := World.alloc_heap_new w2 _
      have hsz : w2.heap.size + 1 ≤ (w2.alloc (.cells #[] 63)).drew.heap.size := by simp
      have HKEEP : Hid (Below w2.heap.size w2 (w2.alloc (.cells #[] 63)).drew) := Lib.hid hB
      have F4 := Lib.hid hF
      have HS27 : Hid _ := Lib.hid (HV.out _ HKEEP.out)
      refine hK.out _ _ HS27.out (fun _ => ?_)
      clear hK K hB hF
      try dsimp only
      generalize (w2.alloc (.cells #[] 63)).drew = u27 at *
      refine wpAnyH_ready (rs := [0, 9]) (by kernel_rfl) (by simp) ?_
      refine AllReadyH.cons (o := ⟨some 8, _, _, _, _, _⟩) rfl (fun K hK => ?_) (AllReadyH.cons (o := ⟨some 3, _, _, _, _, _⟩) rfl (fun K hK => ?_) AllReadyH.nil)
      · rw [if_pos (by kernel_rfl)]
        go_simp
        have hB : Below u27.heap.size u27 (u27.alloc (.cells #[] 3)) := (below1 u27 _)
        have hF : (u27.alloc (.cells #[] 3)).heap[u27.heap.size]? = some (.cells #[] 3 (0, 0)) := World.alloc_heap_new u27 _
        have hsz : u27.heap.size + 1 ≤ (u27.alloc (.cells #[] 3)).heap.size := by simp
        have HKEEP : Hid (Below w2.heap.size w2 (u27.alloc (.cells #[] 3))) := Lib.hid (HKEEP.out.trans (hB.mono HKEEP.out.size))
        have N4_0 : Hid (w2.heap.size ≠ u27.heap.size) := Lib.hid (by have := (Array.getElem?_eq_some_iff.1 F4.out).1; omega)
        have F4 := Lib.hid ((hB.block _ (Array.getElem?_eq_some_iff.1 F4.out).1).trans F4.out)
        have F0 := Lib.hid hF
        have HS28 : Hid _ := Lib.hid (HV.out _ HKEEP.out)
        refine hK.out _ _ HS28.out (fun _ => ?_)
        clear hK K hB hF
        try dsimp only
        generalize (u27.alloc (.cells #[] 3)) = u28 at *
        refine wpAnyH_ready (rs := [3, 9]) (by kernel_rfl) (by simp) ?_
        refine AllReadyH.cons (o := ⟨some 11, _, _, _, _, _⟩) rfl (fun K hK => ?_) (AllReadyH.cons (o := ⟨some 3, _, _, _, _, _⟩) rfl (fun K hK => ?_) AllReadyH.nil)
        · refine step_append_la (k := .i64) (by kernel_rfl) (by kernel_rfl) rfl (.tmp 8) (.tmp 10) rfl rfl u27.heap.size rfl F0.out A1 n1 c1 rfl init HM1.out (HA1.out _ HKEEP.out) HL1.out ?_
          intro D3 d3 u29 hR
          have hsz : u28.heap.size ≤ u29.heap.size := hR.grown.size
          have HKEEP : Hid (Below w2.heap.size w2 u29) := Lib.hid (Below.grown HKEEP.out hR.grown HKEEP.out.size (fun k e => by cases e; omega))
          have M3_4 : Hid (∀ a, D3 = some a → a.block ≠ w2.heap.size) := Lib.hid (fun a e => by
            have h1 := (Array.getElem?_eq_some_iff.1 F4.out).1
            rcases (hR.at_ a e).1 with h2 | h2
            · rw [h2]; first | exact fun e => N4_0.out e.symm | exact fun e => N0_4.out e
            · omega)
          have F4 := Lib.hid ((hR.grown.block _ (Array.getElem?_eq_some_iff.1 F4.out).1 (by first | exact fun e => N4_0.out (Option.some.inj e) | exact fun e => N0_4.out (Option.some.inj e).symm)).trans F4.out)
          have L3 : Hid (LAb .i64 u29 D3 init) := Lib.hid ⟨hR.la, fun a e => (hR.at_ a e).2⟩
          have C3 : Hid (n1 ≤ d3 ∧ d3 ≤ maxLen) := Lib.hid ⟨by rw [HM1.out]; exact hR.le, hR.max⟩
          have B3 : Hid (∀ a, D3 = some a → w2.heap.size ≤ a.block) := Lib.hid (fun a e => by rcases (hR.at_ a e).1 with h2 | h2 <;> omega)
          have HS29 : Hid _ := Lib.hid (HV.out _ HKEEP.out)
          refine hK.out _ _ HS29.out (fun _ => ?_)
          clear hK K hR
          try simp only [Act.put, List.setIfInBounds_toArray, List.set_cons_zero, List.set_cons_succ]
          refine wpAnyH_ready (rs := [7, 9]) (by kernel_rfl) (by simp) ?_
          refine AllReadyH.cons (o := ⟨some 15, _, _, _, _, _⟩) rfl (fun K hK => ?_) (AllReadyH.cons (o := ⟨some 3, _, _, _, _, _⟩) rfl (fun K hK => ?_) AllReadyH.nil)
          · refine step_append_la (k := .u64) (by kernel_rfl) (by kernel_rfl) rfl (.tmp 12) (.tmp 14) rfl rfl w2.heap.size rfl F4.out A3 n3 c3 rfl labels HM3.out (HA3.out _ HKEEP.out) HL3.out ?_
            intro D7 d7 u30 hR
            have hsz : u29.heap.size ≤ u30.heap.size := hR.grown.size
            have HKEEP : Hid (Below w2.heap.size w2 u30) := Lib.hid (Below.grown HKEEP.out hR.grown HKEEP.out.size (fun k e => by cases e; omega))
            have L3 := Lib.hid (L3.out.keep hR.grown.size (fun a e => hR.grown.block _ (L3.out.2 a e) (fun e2 => M3_4.out a e (Option.some.inj e2))))
            have L7 : Hid (LAb .u64 u30 D7 labels) := Lib.hid ⟨hR.la, fun a e => (hR.at_ a e).2⟩
            have C7 : Hid (n3 ≤ d7 ∧ d7 ≤ maxLen) := Lib.hid ⟨by rw [HM3.out]; exact hR.le, hR.max⟩
            have B7 : Hid (∀ a, D7 = some a → w2.heap.size ≤ a.block) := Lib.hid (fun a e => by rcases (hR.at_ a e).1 with h2 | h2 <;> omega)
            have HS30 : Hid _ := Lib.hid (HV.out _ HKEEP.out)
            refine hK.out _ _ HS30.out (fun _ => ?_)
            clear hK K hR
            try simp only [Act.put, List.setIfInBounds_toArray, List.set_cons_zero, List.set_cons_succ]
            refine wpAnyH_take (i := 8) (oi := ⟨some 16, _, _, _, _, _⟩) (v := .agg #[.slice D3 n1 d3, .slice none 0 0, .slice D7 n3 d7]) rfl (by kernel_rfl) (by kernel_rfl) (by kernel_rfl) (fun _ _ _ h => h) (Or.inl ⟨by kernel_rfl, fun w9 hS => ?_⟩) HS30.out ?_
            · clear hS
              go_simp
            try simp only [Act.put, List.setIfInBounds_toArray, List.set_cons_zero, List.set_cons_succ]
            refine wpAnyH_ready (rs := [9]) (by kernel_rfl) (by simp) ?_
            refine AllReadyH.cons (o := ⟨some 3, _, _, _, _, _⟩) rfl (fun K hK => ?_) AllReadyH.nil
            rw [if_pos (by kernel_rfl)]
            go_simp
            have hB : Below u30.heap.size u30 (u30.alloc (.cells #[.slice none 0 0, .slice none 0 0, .slice none 0 0] 26)) := (below1 u30 _)
            have hF : (u30.alloc (.cells #[.slice none 0 0, .slice none 0 0, .slice none 0 0] 26)).heap[u30.heap.size]? = some (.cells #[.slice none 0 0, .slice none 0 0, .slice none 0 0] 26 (0, 0)) := World.alloc_heap_new u30 _
            have hsz : u30.heap.size + 1 ≤ (u30.alloc (.cells #[.slice none 0 0, .slice none 0 0, .slice none 0 0] 26)).heap.size := by simp
            have HKEEP : Hid (Below w2.heap.size w2 (u30.alloc (.cells #[.slice none 0 0, .slice none 0 0, .slice none 0 0] 26))) := Lib.hid (HKEEP.out.trans (hB.mono HKEEP.out.size))
            have M3_9 : Hid (∀ a, D3 = some a → a.block ≠ u30.heap.size) := Lib.hid (fun a e => by have := L3.out.2 a e; omega)
            have L3 := Lib.hid (L3.out.keep hB.size (fun a e => hB.block _ (L3.out.2 a e)))
            have M7_9 : Hid (∀ a, D7 = some a → a.block ≠ u30.heap.size) := Lib.hid (fun a e => by have := L7.out.2 a e; omega)
            have L7 := Lib.hid (L7.out.keep hB.size (fun a e => hB.block _ (L7.out.2 a e)))
            have F9 := Lib.hid hF
            have HS31 : Hid _ := Lib.hid (HV.out _ HKEEP.out)
            refine hK.out _ _ HS31.out (fun _ => ?_)
            clear hK K hB hF
            try dsimp only
            generalize (u30.alloc (.cells #[.slice none 0 0, .slice none 0 0, .slice none 0 0] 26)) = u31 at *
            obtain ⟨z0, z1, z2, f0⟩ := cells3 F9.out
            have f1 := f0 1
            have f2 := f0 2
            have f0 := f0 0
            refine wpAnyH_ready (rs := [10]) (by kernel_rfl) (by simp) ?_
            refine AllReadyH.cons (o := ⟨none, _, _, _, _, _⟩) rfl (fun K hK => ?_) AllReadyH.nil
            go_simp
            have hzw : w2.heap.size ≤ u30.heap.size := by omega
            have hX := set3_all (v0 := .slice D3 n1 d3) (v1 := .slice none 0 0) (v2 := .slice D7 n3 d7) F9.out
            have HKEEP : Hid (Below w2.heap.size w2 (((u31.setCell ⟨u30.heap.size, 0, none⟩ (.slice D3 n1 d3)).setCell ⟨u30.heap.size, 1, none⟩ (.slice none 0 0)).setCell ⟨u30.heap.size, 2, none⟩ (.slice D7 n3 d7))) := Lib.hid (((HKEEP.out.setCell (show w2.heap.size ≤ (⟨u30.heap.size, 0, none⟩ : Addr).block from hzw) _).setCell (show w2.heap.size ≤ (⟨u30.heap.size, 1, none⟩ : Addr).block from hzw) _).setCell (show w2.heap.size ≤ (⟨u30.heap.size, 2, none⟩ : Addr).block from hzw) _)
            refine hK.out _ _ (HV.out _ HKEEP.out) (fun _ => ?_)
            clear hK K z0 z1 z2 f0 f1 f2
            try dsimp only
            refine wpAnyH_done (by kernel_rfl) ?_ _
            have HFIN : Hid (AfterOne w2 init labels n1 n3 u30.heap.size D3 d3 D7 d7 _) := Lib.hid ⟨hX, L3.out.set3 (fun a e => (M3_9.out a e)) _ _ _, L7.out.set3 (fun a e => M7_9.out a e) _ _ _, C3.out, C7.out, B3.out, B7.out, M3_9.out, M7_9.out, hzw, HKEEP.out⟩
            go_wp2
            go_meet
            case rel => exact ⟨u30.heap.size, D3, d3, D7, d7, rfl, HFIN⟩
          · rw [if_pos (by kernel_rfl)]
            go_simp
            have hB : Below u29.heap.size u29 (u29.alloc (.cells #[.slice none 0 0, .slice none 0 0, .slice none 0 0] 26)) := (below1 u29 _)
            have hF : (u29.alloc (.cells #[.slice none 0 0, .slice none 0 0, .slice none 0 0] 26)).heap[u29.heap.size]? = some (.cells #[.slice none 0 0, .slice none 0 0, .slice none 0 0] 26 (0, 0)) := World.alloc_heap_new u29 _
            have hsz : u29.heap.size + 1 ≤ (u29.alloc (.cells #[.slice none 0 0, .slice none 0 0, .slice none 0 0] 26)).heap.size := by simp
            have HKEEP : Hid (Below w2.heap.size w2 (u29.alloc (.cells #[.slice none 0 0, .slice none 0 0, .slice none 0 0] 26))) := Lib.hid (HKEEP.out.trans (hB.mono HKEEP.out.size))
            have N4_9 : Hid (w2.heap.size ≠ u29.heap.size) := Lib.hid (by have := (Array.getElem?_eq_some_iff.1 F4.out).1; omega)
            have F4 := Lib.hid ((hB.block _ (Array.getElem?_eq_some_iff.1 F4.out).1).trans F4.out)
            have M3_9 : Hid (∀ a, D3 = some a → a.block ≠ u29.heap.size) := Lib.hid (fun a e => by have := L3.out.2 a e; omega)
            have L3 := Lib.hid (L3.out.keep hB.size (fun a e => hB.block _ (L3.out.2 a e)))
            have F9 := Lib.hid hF
            have HS32 : Hid _ := Lib.hid (HV.out _ HKEEP.out)
            refine hK.out _ _ HS32.out (fun _ => ?_)
            clear hK K hB hF
            try dsimp only
            generalize (u29.alloc (.cells #[.slice none 0 0, .slice none 0 0, .slice none 0 0] 26)) = u32 at *
            refine wpAnyH_ready (rs := [7]) (by kernel_rfl) (by simp) ?_
            refine AllReadyH.cons (o := ⟨some 15, _, _, _, _, _⟩) rfl (fun K hK => ?_) AllReadyH.nil
            refine step_append_la (k := .u64) (by kernel_rfl) (by kernel_rfl) rfl (.tmp 12) (.tmp 14) rfl rfl w2.heap.size rfl F4.out A3 n3 c3 rfl labels HM3.out (HA3.out _ HKEEP.out) HL3.out ?_
            intro D7 d7 u33 hR
            have hsz : u32.heap.size ≤ u33.heap.size := hR.grown.size
            have HKEEP : Hid (Below w2.heap.size w2 u33) := Lib.hid (Below.grown HKEEP.out hR.grown HKEEP.out.size (fun k e => by cases e; omega))
            have M7_9 : Hid (∀ a, D7 = some a → a.block ≠ u29.heap.size) := Lib.hid (fun a e => by
              have h1 := (Array.getElem?_eq_some_iff.1 F9.out).1
              rcases (hR.at_ a e).1 with h2 | h2
              · rw [h2]; first | exact fun e => N9_4.out e.symm | exact fun e => N4_9.out e
              · omega)
            have F9 := Lib.hid ((hR.grown.block _ (Array.getElem?_eq_some_iff.1 F9.out).1 (by first | exact fun e => N9_4.out (Option.some.inj e) | exact fun e => N4_9.out (Option.some.inj e).symm)).trans F9.out)
            have L3 := Lib.hid (L3.out.keep hR.grown.size (fun a e => hR.grown.block _ (L3.out.2 a e) (fun e2 => M3_4.out a e (Option.some.inj e2))))
            have L7 : Hid (LAb .u64 u33 D7 labels) := Lib.hid ⟨hR.la, fun a e => (hR.at_ a e).2⟩
            have C7 : Hid (n3 ≤ d7 ∧ d7 ≤ maxLen) := Lib.hid ⟨by rw [HM3.out]; exact hR.le, hR.max⟩
            have B7 : Hid (∀ a, D7 = some a → w2.heap.size ≤ a.block) := Lib.hid (fun a e => by rcases (hR.at_ a e).1 with h2 | h2 <;> omega)
            have HS33 : Hid _ := Lib.hid (HV.out _ HKEEP.out)
            refine hK.out _ _ HS33.out (fun _ => ?_)
            clear hK K hR
            try simp only [Act.put, List.setIfInBounds_toArray, List.set_cons_zero, List.set_cons_succ]
            refine wpAnyH_take (i := 8) (oi := ⟨some 16, _, _, _, _, _⟩) (v := .agg #[.slice D3 n1 d3, .slice none 0 0, .slice D7 n3 d7]) rfl (by kernel_rfl) (by kernel_rfl) (by kernel_rfl) (fun _ _ _ h => h) (Or.inl ⟨by kernel_rfl, fun w9 hS => ?_⟩) HS33.out ?_
            · clear hS
              go_simp
            try simp only [Act.put, List.setIfInBounds_toArray, List.set_cons_zero, List.set_cons_succ]
            obtain ⟨z0, z1, z2, f0⟩ := cells3 F9.out
            have f1 := f0 1
            have f2 := f0 2
            have f0 := f0 0
            refine wpAnyH_ready (rs := [10]) (by kernel_rfl) (by simp) ?_
            refine AllReadyH.cons (o := ⟨none, _, _, _, _, _⟩) rfl (fun K hK => ?_) AllReadyH.nil
            go_simp
            have hzw : w2.heap.size ≤ u29.heap.size := by omega
            have hX := set3_all (v0 := .slice D3 n1 d3) (v1 := .slice none 0 0) (v2 := .slice D7 n3 d7) F9.out
            have HKEEP : Hid (Below w2.heap.size w2 (((u33.setCell ⟨u29.heap.size, 0, none⟩ (.slice D3 n1 d3)).setCell ⟨u29.heap.size, 1, none⟩ (.slice none 0 0)).setCell ⟨u29.heap.size, 2, none⟩ (.slice D7 n3 d7))) := Lib.hid (((HKEEP.out.setCell (show w2.heap.size ≤ (⟨u29.heap.size, 0, none⟩ : Addr).block from hzw) _).setCell (show w2.heap.size ≤ (⟨u29.heap.size, 1, none⟩ : Addr).block from hzw) _).setCell (show w2.heap.size ≤ (⟨u29.heap.size, 2, none⟩ : Addr).block from hzw) _)
            refine hK.out _ _ (HV.out _ HKEEP.out) (fun _ => ?_)
            clear hK K z0 z1 z2 f0 f1 f2
            try dsimp only
            refine wpAnyH_done (by kernel_rfl) ?_ _
            have HFIN : Hid (AfterOne w2 init labels n1 n3 u29.heap.size D3 d3 D7 d7 _) := Lib.hid ⟨hX, L3.out.set3 (fun a e => (M3_9.out a e)) _ _ _, L7.out.set3 (fun a e => M7_9.out a e) _ _ _, C3.out, C7.out, B3.out, B7.out, M3_9.out, M7_9.out, hzw, HKEEP.out⟩
            go_wp2
            go_meet
            case rel => exact ⟨u29.heap.size, D3, d3, D7, d7, rfl, HFIN⟩
        · rw [if_pos (by kernel_rfl)]
          go_simp
          have hB : Below u28.heap.size u28 (u28.alloc (.cells #[.slice none 0 0, .slice none 0 0, .slice none 0 0] 26)) := (below1 u28 _)
          have hF : (u28.alloc (.cells #[.slice none 0 0, .slice none 0 0, .slice none 0 0] 26)).heap[u28.heap.size]? = some (.cells #[.slice none 0 0, .slice none 0 0, .slice none 0 0] 26 (0, 0)) := World.alloc_heap_new u28 _
          have hsz : u28.heap.size + 1 ≤ (u28.alloc (.cells #[.slice none 0 0, .slice none 0 0, .slice none 0 0] 26)).heap.size := by simp
          have HKEEP : Hid (Below w2.heap.size w2 (u28.alloc (.cells #[.slice none 0 0, .slice none 0 0, .slice none 0 0] 26))) := Lib.hid (HKEEP.out.trans (hB.mono HKEEP.out.size))
          have N4_9 : Hid (w2.heap.size ≠ u28.heap.size) := Lib.hid (by have := (Array.getElem?_eq_some_iff.1 F4.out).1; omega)
          have N0_9 : Hid (u27.heap.size ≠ u28.heap.size) := Lib.hid (by have := (Array.getElem?_eq_some_iff.1 F0.out).1; omega)
          have F4 := Lib.hid ((hB.block _ (Array.getElem?_eq_some_iff.1 F4.out).1).trans F4.out)
          have F0 := Lib.hid ((hB.block _ (Array.getElem?_eq_some_iff.1 F0.out).1).trans F0.out)
          have F9 := Lib.hid hF
          have HS34 : Hid _ := Lib.hid (HV.out _ HKEEP.out)
          refine hK.out _ _ HS34.out (fun _ => ?_)
          clear hK K hB hF
          try dsimp only
          generalize (u28.alloc (.cells #[.slice none 0 0, .slice none 0 0, .slice none 0 0] 26)) = u34 at *
          refine wpAnyH_ready (rs := [3]) (by kernel_rfl) (by simp) ?_
          refine AllReadyH.cons (o := ⟨some 11, _, _, _, _, _⟩) rfl (fun K hK => ?_) AllReadyH.nil
          refine step_append_la (k := .i64) (by kernel_rfl) (by kernel_rfl) rfl (.tmp 8) (.tmp 10) rfl rfl u27.heap.size rfl F0.out A1 n1 c1 rfl init HM1.out (HA1.out _ HKEEP.out) HL1.out ?_
          intro D3 d3 u35 hR
          have hsz : u34.heap.size ≤ u35.heap.size := hR.grown.size
          have HKEEP : Hid (Below w2.heap.size w2 u35) := Lib.hid (Below.grown HKEEP.out hR.grown HKEEP.out.size (fun k e => by cases e; omega))
          have M3_4 : Hid (∀ a, D3 = some a → a.block ≠ w2.heap.size) := Lib.hid (fun a e => by
            have h1 := (Array.getElem?_eq_some_iff.1 F4.out).1
            rcases (hR.at_ a e).1 with h2 | h2
            · rw [h2]; first | exact fun e => N4_0.out e.symm | exact fun e => N0_4.out e
            · omega)
          have M3_9 : Hid (∀ a, D3 = some a → a.block ≠ u28.heap.size) := Lib.hid (fun a e => by
            have h1 := (Array.getElem?_eq_some_iff.1 F9.out).1
            rcases (hR.at_ a e).1 with h2 | h2
            · rw [h2]; first | exact fun e => N9_0.out e.symm | exact fun e => N0_9.out e
            · omega)
          have F4 := Lib.hid ((hR.grown.block _ (Array.getElem?_eq_some_iff.1 F4.out).1 (by first | exact fun e => N4_0.out (Option.some.inj e) | exact fun e => N0_4.out (Option.some.inj e).symm)).trans F4.out)
          have F9 := Lib.hid ((hR.grown.block _ (Array.getElem?_eq_some_iff.1 F9.out).1 (by first | exact fun e => N9_0.out (Option.some.inj e) | exact fun e => N0_9.out (Option.some.inj e).symm)).trans F9.out)
          have L3 : Hid (LAb .i64 u35 D3 init) := Lib.hid ⟨hR.la, fun a e => (hR.at_ a e).2⟩
          have C3 : Hid (n1 ≤ d3 ∧ d3 ≤ maxLen) := Lib.hid ⟨by rw [HM1.out]; exact hR.le, hR.max⟩
          have B3 : Hid (∀ a, D3 = some a → w2.heap.size ≤ a.block) := Lib.hid (fun a e => by rcases (hR.at_ a e).1 with h2 | h2 <;> omega)
          have HS35 : Hid _ := Lib.hid (HV.out _ HKEEP.out)
          refine hK.out _ _ HS35.out (fun _ => ?_)
          clear hK K hR
          try simp only [Act.put, List.setIfInBounds_toArray, List.set_cons_zero, List.set_cons_succ]
          refine wpAnyH_ready (rs := [7]) (by kernel_rfl) (by simp) ?_
          refine AllReadyH.cons (o := ⟨some 15, _, _, _, _, _⟩) rfl (fun K hK => ?_) AllReadyH.nil
          refine step_append_la (k := .u64) (by kernel_rfl) (by kernel_rfl) rfl (.tmp 12) (.tmp 14) rfl rfl w2.heap.size rfl F4.out A3 n3 c3 rfl labels HM3.out (HA3.out _ HKEEP.out) HL3.out ?_
          intro D7 d7 u36 hR
          have hsz : u35.heap.size ≤ u36.heap.size := hR.grown.size
          have HKEEP : Hid (Below w2.heap.size w2 u36) := Lib.hid (Below.grown HKEEP.out hR.grown HKEEP.out.size (fun k e => by cases e; omega))
          have M7_9 : Hid (∀ a, D7 = some a → a.block ≠ u28.heap.size) := Lib.hid (fun a e => by
            have h1 := (Array.getElem?_eq_some_iff.1 F9.out).1
            rcases (hR.at_ a e).1 with h2 | h2
            · rw [h2]; first | exact fun e => N9_4.out e.symm | exact fun e => N4_9.out e
            · omega)
          have F9 := Lib.hid ((hR.grown.block _ (Array.getElem?_eq_some_iff.1 F9.out).1 (by first | exact fun e => N9_4.out (Option.some.inj e) | exact fun e => N4_9.out (Option.some.inj e).symm)).trans F9.out)
          have L3 := Lib.hid (L3.out.keep hR.grown.size (fun a e => hR.grown.block _ (L3.out.2 a e) (fun e2 => M3_4.out a e (Option.some.inj e2))))
          have L7 : Hid (LAb .u64 u36 D7 labels) := Lib.hid ⟨hR.la, fun a e => (hR.at_ a e).2⟩
          have C7 : Hid (n3 ≤ d7 ∧ d7 ≤ maxLen) := Lib.hid ⟨by rw [HM3.out]; exact hR.le, hR.max⟩
          have B7 : Hid (∀ a, D7 = some a → w2.heap.size ≤ a.block) := Lib.hid (fun a e => by rcases (hR.at_ a e).1 with h2 | h2 <;> omega)
          have HS36 : Hid _ := Lib.hid (HV.out _ HKEEP.out)
          refine hK.out _ _ HS36.out (fun _ => ?_)
          clear hK K hR
          try simp only [Act.put, List.setIfInBounds_toArray, List.set_cons_zero, List.set_cons_succ]
          refine wpAnyH_take (i := 8) (oi := ⟨some 16, _, _, _, _, _⟩) (v := .agg #[.slice D3 n1 d3, .slice none 0 0, .slice D7 n3 d7]) rfl (by kernel_rfl) (by kernel_rfl) (by kernel_rfl) (fun _ _ _ h => h) (Or.inl ⟨by kernel_rfl, fun w9 hS => ?_⟩) HS36.out ?_
          · clear hS
            go_simp
          try simp only [Act.put, List.setIfInBounds_toArray, List.set_cons_zero, List.set_cons_succ]
          obtain ⟨z0, z1, z2, f0⟩ := cells3 F9.out
          have f1 := f0 1
          have f2 := f0 2
          have f0 := f0 0
          refine wpAnyH_ready (rs := [10]) (by kernel_rfl) (by simp) ?_
          refine AllReadyH.cons (o := ⟨none, _, _, _, _, _⟩) rfl (fun K hK => ?_) AllReadyH.nil
          go_simp
          have hzw : w2.heap.size ≤ u28.heap.size := by omega
          have hX := set3_all (v0 := .slice D3 n1 d3) (v1 := .slice none 0 0) (v2 := .slice D7 n3 d7) F9.out
          have HKEEP : Hid (Below w2.heap.size w2 (((u36.setCell ⟨u28.heap.size, 0, none⟩ (.slice D3 n1 d3)).setCell ⟨u28.heap.size, 1, none⟩ (.slice none 0 0)).setCell ⟨u28.heap.size, 2, none⟩ (.slice D7 n3 d7))) := Lib.hid (((HKEEP.out.setCell (show w2.heap.size ≤ (⟨u28.heap.size, 0, none⟩ : Addr).block from hzw) _).setCell (show w2.heap.size ≤ (⟨u28.heap.size, 1, none⟩ : Addr).block from hzw) _).setCell (show w2.heap.size ≤ (⟨u28.heap.size, 2, none⟩ : Addr).block from hzw) _)
          refine hK.out _ _ (HV.out _ HKEEP.out) (fun _ => ?_)
          clear hK K z0 z1 z2 f0 f1 f2
          try dsimp only
          refine wpAnyH_done (by kernel_rfl) ?_ _
          have HFIN : Hid (AfterOne w2 init labels n1 n3 u28.heap.size D3 d3 D7 d7 _) := Lib.hid ⟨hX, L3.out.set3 (fun a e => (M3_9.out a e)) _ _ _, L7.out.set3 (fun a e => M7_9.out a e) _ _ _, C3.out, C7.out, B3.out, B7.out, M3_9.out, M7_9.out, hzw, HKEEP.out⟩
          go_wp2
          go_meet
          case rel => exact ⟨u28.heap.size, D3, d3, D7, d7, rfl, HFIN⟩
      · rw [if_pos (by kernel_rfl)]
        go_simp
        have hB : Below u27.heap.size u27 (u27.alloc (.cells #[.slice none 0 0, .slice none 0 0, .slice none 0 0] 26)) := (below1 u27 _)
        have hF : (u27.alloc (.cells #[.slice none 0 0, .slice none 0 0, .slice none 0 0] 26)).heap[u27.heap.size]? = some (.cells #[.slice none 0 0, .slice none 0 0, .slice none 0 0] 26 (0, 0)) := World.alloc_heap_new u27 _
        have hsz : u27.heap.size + 1 ≤ (u27.alloc (.cells #[.slice none 0 0, .slice none 0 0, .slice none 0 0] 26)).heap.size := by simp
        have HKEEP : Hid (Below w2.heap.size w2 (u27.alloc (.cells #[.slice none 0 0, .slice none 0 0, .slice none 0 0] 26))) := Lib.hid (HKEEP.out.trans (hB.mono HKEEP.out.size))
        have N4_9 : Hid (w2.heap.size ≠ u27.heap.size) := Lib.hid (by have := (Array.getElem?_eq_some_iff.1 F4.out).1; omega)
        have F4 := Lib.hid ((hB.block _ (Array.getElem?_eq_some_iff.1 F4.out).1).trans F4.out)
        have F9 := Lib.hid hF
        have HS37 : Hid _ := Lib.hid (HV.out _ HKEEP.out)
        refine hK.out _ _ HS37.out (fun _ => ?_)
        clear hK K hB hF
        try dsimp only
        generalize (u27.alloc (.cells #[.slice none 0 0, .slice none 0 0, .slice none 0 0] 26)) = u37 at *
        refine wpAnyH_ready (rs := [0]) (by kernel_rfl) (by simp) ?_
        refine AllReadyH.cons (o := ⟨some 8, _, _, _, _, _⟩) rfl (fun K hK => ?_) AllReadyH.nil
        rw [if_pos (by kernel_rfl)]
        go_simp
        have hB : Below u37.heap.size u37 (u37.alloc (.cells #[] 3)) := (below1 u37 _)
        have hF : (u37.alloc (.cells #[] 3)).heap[u37.heap.size]? = some (.cells #[] 3 (0, 0)) := World.alloc_heap_new u37 _
        have hsz : u37.heap.size + 1 ≤ (u37.alloc (.cells #[] 3)).heap.size := by simp
        have HKEEP : Hid (Below w2.heap.size w2 (u37.alloc (.cells #[] 3))) := Lib.hid (HKEEP.out.trans (hB.mono HKEEP.out.size))
        have N4_0 : Hid (w2.heap.size ≠ u37.heap.size) := Lib.hid (by have := (Array.getElem?_eq_some_iff.1 F4.out).1; omega)
        have N9_0 : Hid (u27.heap.size ≠ u37.heap.size) := Lib.hid (by have := (Array.getElem?_eq_some_iff.1 F9.out).1; omega)
        have F4 := Lib.hid ((hB.block _ (Array.getElem?_eq_some_iff.1 F4.out).1).trans F4.out)
        have F9 := Lib.hid ((hB.block _ (Array.getElem?_eq_some_iff.1 F9.out).1).trans F9.out)
        have F0 := Lib.hid hF
        have HS38 : Hid _ := Lib.hid (HV.out _ HKEEP.out)
        refine hK.out _ _ HS38.out (fun _ => ?_)
        clear hK K hB hF
        try dsimp only
        generalize (u37.alloc (.cells #[] 3)) = u38 at *
        refine wpAnyH_ready (rs := [3]) (by kernel_rfl) (by simp) ?_
        refine AllReadyH.cons (o := ⟨some 11, _, _, _, _, _⟩) rfl (fun K hK => ?_) AllReadyH.nil
        refine step_append_la (k := .i64) (by kernel_rfl) (by kernel_rfl) rfl (.tmp 8) (.tmp 10) rfl rfl u37.heap.size rfl F0.out A1 n1 c1 rfl init HM1.out (HA1.out _ HKEEP.out) HL1.out ?_
        intro D3 d3 u39 hR
        have hsz : u38.heap.size ≤ u39.heap.size := hR.grown.size
        have HKEEP : Hid (Below w2.heap.size w2 u39) := Lib.hid (Below.grown HKEEP.out hR.grown HKEEP.out.size (fun k e => by cases e; omega))
        have M3_4 : Hid (∀ a, D3 = some a → a.block ≠ w2.heap.size) := Lib.hid (fun a e => by
          have h1 := (Array.getElem?_eq_some_iff.1 F4.out).1
          rcases (hR.at_ a e).1 with h2 | h2
          · rw [h2]; first | exact fun e => N4_0.out e.symm | exact fun e => N0_4.out e
          · omega)
        have M3_9 : Hid (∀ a, D3 = some a → a.block ≠ u27.heap.size) := Lib.hid (fun a e => by
          have h1 := (Array.getElem?_eq_some_iff.1 F9.out).1
          rcases (hR.at_ a e).1 with h2 | h2
          · rw [h2]; first | exact fun e => N9_0.out e.symm | exact fun e => N0_9.out e
          · omega)
        have F4 := Lib.hid ((hR.grown.block _ (Array.getElem?_eq_some_iff.1 F4.out).1 (by first | exact fun e => N4_0.out (Option.some.inj e) | exact fun e => N0_4.out (Option.some.inj e).symm)).trans F4.out)
        have F9 := Lib.hid ((hR.grown.block _ (Array.getElem?_eq_some_iff.1 F9.out).1 (by first | exact fun e => N9_0.out (Option.some.inj e) | exact fun e => N0_9.out (Option.some.inj e).symm)).trans F9.out)
        have L3 : Hid (LAb .i64 u39 D3 init) := Lib.hid ⟨hR.la, fun a e => (hR.at_ a e).2⟩
        have C3 : Hid (n1 ≤ d3 ∧ d3 ≤ maxLen) := Lib.hid ⟨by rw [HM1.out]; exact hR.le, hR.max⟩
        have B3 : Hid (∀ a, D3 = some a → w2.heap.size ≤ a.block) := Lib.hid (fun a e => by rcases (hR.at_ a e).1 with h2 | h2 <;> omega)
        have HS39 : Hid _ := Lib.hid (HV.out _ HKEEP.out)
        refine hK.out _ _ HS39.out (fun _ => ?_)
        clear hK K hR
        try simp only [Act.put, List.setIfInBounds_toArray, List.set_cons_zero, List.set_cons_succ]
        refine wpAnyH_ready (rs := [7]) (by kernel_rfl) (by simp) ?_
        refine AllReadyH.cons (o := ⟨some 15, _, _, _, _, _⟩) rfl (fun K hK => ?_) AllReadyH.nil
        refine step_append_la (k := .u64) (by kernel_rfl) (by kernel_rfl) rfl (.tmp 12) (.tmp 14) rfl rfl w2.heap.size rfl F4.out A3 n3 c3 rfl labels HM3.out (HA3.out _ HKEEP.out) HL3.out ?_
        intro D7 d7 u40 hR
        have hsz : u39.heap.size ≤ u40.heap.size := hR.grown.size
        have HKEEP : Hid (Below w2.heap.size w2 u40) := Lib.hid (Below.grown HKEEP.out hR.grown HKEEP.out.size (fun k e => by cases e; omega))
        have M7_9 : Hid (∀ a, D7 = some a → a.block ≠ u27.heap.size) := Lib.hid (fun a e => by
          have h1 := (Array.getElem?_eq_some_iff.1 F9.out).1
          rcases (hR.at_ a e).1 with h2 | h2
          · rw [h2]; first | exact fun e => N9_4.out e.symm | exact fun e => N4_9.out e
          · omega)
        have F9 := Lib.hid ((hR.grown.block _ (Array.getElem?_eq_some_iff.1 F9.out).1 (by first | exact fun e => N9_4.out (Option.some.inj e) | exact fun e => N4_9.out (Option.some.inj e).symm)).trans F9.out)
        have L3 := Lib.hid (L3.out.keep hR.grown.size (fun a e => hR.grown.block _ (L3.out.2 a e) (fun e2 => M3_4.out a e (Option.some.inj e2))))
        have L7 : Hid (LAb .u64 u40 D7 labels) := Lib.hid ⟨hR.la, fun a e => (hR.at_ a e).2⟩
        have C7 : Hid (n3 ≤ d7 ∧ d7 ≤ maxLen) := Lib.hid ⟨by rw [HM3.out]; exact hR.le, hR.max⟩
        have B7 : Hid (∀ a, D7 = some a → w2.heap.size ≤ a.block) := Lib.hid (fun a e => by rcases (hR.at_ a e).1 with h2 | h2 <;> omega)
        have HS40 : Hid _ := Lib.hid (HV.out _ HKEEP.out)
        refine hK.out _ _ HS40.out (fun _ => ?_)
        clear hK K hR
        try simp only [Act.put, List.setIfInBounds_toArray, List.set_cons_zero, List.set_cons_succ]
        refine wpAnyH_take (i := 8) (oi := ⟨some 16, _, _, _, _, _⟩) (v := .agg #[.slice D3 n1 d3, .slice none 0 0, .slice D7 n3 d7]) rfl (by kernel_rfl) (by kernel_rfl) (by kernel_rfl) (fun _ _ _ h => h) (Or.inl ⟨by kernel_rfl, fun w9 hS => ?_⟩) HS40.out ?_
        · clear hS
          go_simp
        try simp only [Act.put, List.setIfInBounds_toArray, List.set_cons_zero, List.set_cons_succ]
        obtain ⟨z0, z1, z2, f0⟩ := cells3 F9.out
        have f1 := f0 1
        have f2 := f0 2
        have f0 := f0 0
        refine wpAnyH_ready (rs := [10]) (by kernel_rfl) (by simp) ?_
        refine AllReadyH.cons (o := ⟨none, _, _, _, _, _⟩) rfl (fun K hK => ?_) AllReadyH.nil
        go_simp
        have hzw : w2.heap.size ≤ u27.heap.size := by omega
        have hX := set3_all (v0 := .slice D3 n1 d3) (v1 := .slice none 0 0) (v2 := .slice D7 n3 d7) F9.out
        have HKEEP : Hid (Below w2.heap.size w2 (((u40.setCell ⟨u27.heap.size, 0, none⟩ (.slice D3 n1 d3)).setCell ⟨u27.heap.size, 1, none⟩ (.slice none 0 0)).setCell ⟨u27.heap.size, 2, none⟩ (.slice D7 n3 d7))) := Lib.hid (((HKEEP.out.setCell (show w2.heap.size ≤ (⟨u27.heap.size, 0, none⟩ : Addr).block from hzw) _).setCell (show w2.heap.size ≤ (⟨u27.heap.size, 1, none⟩ : Addr).block from hzw) _).setCell (show w2.heap.size ≤ (⟨u27.heap.size, 2, none⟩ : Addr).block from hzw) _)
        refine hK.out _ _ (HV.out _ HKEEP.out) (fun _ => ?_)
        clear hK K z0 z1 z2 f0 f1 f2
        try dsimp only
        refine wpAnyH_done (by kernel_rfl) ?_ _
        have HFIN : Hid (AfterOne w2 init labels n1 n3 u27.heap.size D3 d3 D7 d7 _) := Lib.hid ⟨hX, L3.out.set3 (fun a e => (M3_9.out a e)) _ _ _, L7.out.set3 (fun a e => M7_9.out a e) _ _ _, C3.out, C7.out, B3.out, B7.out, M3_9.out, M7_9.out, hzw, HKEEP.out⟩
        go_wp2
        go_meet
        case rel => exact ⟨u27.heap.size, D3, d3, D7, d7, rfl, HFIN⟩
    · rw [if_pos (by kernel_rfl)]
      go_simp
      have hB : Below w2.heap.size w2 (w2.alloc (.cells #[.slice none 0 0, .slice none 0 0, .slice none 0 0] 26)).drew := (below1 w2 _).drew
      have hF : (w2.alloc (.cells #[.slice none 0 0, .slice none 0 0, .slice none 0 0] 26)).drew.heap[w2.heap.size]? = some (.cells #[.slice none 0 0, .slice none 0 0, .slice none 0 0] 26 (0, 0)) := World.alloc_heap_new w2 _
      have hsz : w2.heap.size + 1 ≤ (w2.alloc (.cells #[.slice none 0 0, .slice none 0 0, .slice none 0 0] 26)).drew.heap.size := by simp
      have HKEEP : Hid (Below w2.heap.size w2 (w2.alloc (.cells #[.slice none 0 0, .slice none 0 0, .slice none 0 0] 26)).drew) := Lib.hid hB
      have F9 := Lib.hid hF
      have HS41 : Hid _ := Lib.hid (HV.out _ HKEEP.out)
      refine hK.out _ _ HS41.out (fun _ => ?_)
      clear hK K hB hF
      try dsimp only
      generalize (w2.alloc (.cells #[.slice none 0 0, .slice none 0 0, .slice none 0 0] 26)).drew = u41 at *
      refine wpAnyH_ready (rs := [0, 4]) (by kernel_rfl) (by simp) ?_
      refine AllReadyH.cons (o := ⟨some 8, _, _, _, _, _⟩) rfl (fun K hK => ?_) (AllReadyH.cons (o := ⟨some 12, _, _, _, _, _⟩) rfl (fun K hK => ?_) AllReadyH.nil)
      · rw [if_pos (by kernel_rfl)]
        go_simp
        have hB : Below u41.heap.size u41 (u41.alloc (.cells #[] 3)) := (below1 u41 _)
        have hF : (u41.alloc (.cells #[] 3)).heap[u41.heap.size]? = some (.cells #[] 3 (0, 0)) := World.alloc_heap_new u41 _
        have hsz : u41.heap.size + 1 ≤ (u41.alloc (.cells #[] 3)).heap.size := by simp
        have HKEEP : Hid (Below w2.heap.size w2 (u41.alloc (.cells #[] 3))) := Lib.hid (HKEEP.out.trans (hB.mono HKEEP.out.size))
        have N9_0 : Hid (w2.heap.size ≠ u41.heap.size) := Lib.hid (by have := (Array.getElem?_eq_some_iff.1 F9.out).1; omega)
        have F9 := Lib.hid ((hB.block _ (Array.getElem?_eq_some_iff.1 F9.out).1).trans F9.out)
        have F0 := Lib.hid hF
        have HS42 : Hid _ := Lib.hid (HV.out _ HKEEP.out)
        refine hK.out _ _ HS42.out (fun _ => ?_)
        clear hK K hB hF
        try dsimp only
        generalize (u41.alloc (.cells #[] 3)) = u42 at *
        refine wpAnyH_ready (rs := [3, 4]) (by kernel_rfl) (by simp) ?_
        refine AllReadyH.cons (o := ⟨some 11, _, _, _, _, _⟩) rfl (fun K hK => ?_) (AllReadyH.cons (o := ⟨some 12, _, _, _, _, _⟩) rfl (fun K hK => ?_) AllReadyH.nil)
        · refine step_append_la (k := .i64) (by kernel_rfl) (by kernel_rfl) rfl (.tmp 8) (.tmp 10) rfl rfl u41.heap.size rfl F0.out A1 n1 c1 rfl init HM1.out (HA1.out _ HKEEP.out) HL1.out ?_
          intro D3 d3 u43 hR
          have hsz : u42.heap.size ≤ u43.heap.size := hR.grown.size
          have HKEEP : Hid (Below w2.heap.size w2 u43) := Lib.hid (Below.grown HKEEP.out hR.grown HKEEP.out.size (fun k e => by cases e; omega))
          have M3_9 : Hid (∀ a, D3 = some a → a.block ≠ w2.heap.size) := Lib.hid (fun a e => by
            have h1 := (Array.getElem?_eq_some_iff.1 F9.out).1
            rcases (hR.at_ a e).1 with h2 | h2
            · rw [h2]; first | exact fun e => N9_0.out e.symm | exact fun e => N0_9.out e
            · omega)
          have F9 := Lib.hid ((hR.grown.block _ (Array.getElem?_eq_some_iff.1 F9.out).1 (by first | exact fun e => N9_0.out (Option.some.inj e) | exact fun e => N0_9.out (Option.some.inj e).symm)).trans F9.out)
          have L3 : Hid (LAb .i64 u43 D3 init) := Lib.hid ⟨hR.la, fun a e => (hR.at_ a e).2⟩
          have C3 : Hid (n1 ≤ d3 ∧ d3 ≤ maxLen) := Lib.hid ⟨by rw [HM1.out]; exact hR.le, hR.max⟩
          have B3 : Hid (∀ a, D3 = some a → w2.heap.size ≤ a.block) := Lib.hid (fun a e => by rcases (hR.at_ a e).1 with h2 | h2 <;> omega)
          have HS43 : Hid _ := Lib.hid (HV.out _ HKEEP.out)
          refine hK.out _ _ HS43.out (fun _ => ?_)
          clear hK K hR
          try simp only [Act.put, List.setIfInBounds_toArray, List.set_cons_zero, List.set_cons_succ]
          refine wpAnyH_ready (rs := [4]) (by kernel_rfl) (by simp) ?_
          refine AllReadyH.cons (o := ⟨some 12, _, _, _, _, _⟩) rfl (fun K hK => ?_) AllReadyH.nil
          rw [if_pos (by kernel_rfl)]
          go_simp
          have hB : Below u43.heap.size u43 (u43.alloc (.cells #[] 63)) := (below1 u43 _)
          have hF : (u43.alloc (.cells #[] 63)).heap[u43.heap.size]? = some (.cells #[] 63 (0, 0)) := World.alloc_heap_new u43 _
          have hsz : u43.heap.size + 1 ≤ (u43.alloc (.cells #[] 63)).heap.size := by simp
          have HKEEP : Hid (Below w2.heap.size w2 (u43.alloc (.cells #[] 63))) := Lib.hid (HKEEP.out.trans (hB.mono HKEEP.out.size))
          have N9_4 : Hid (w2.heap.size ≠ u43.heap.size) := Lib.hid (by have := (Array.getElem?_eq_some_iff.1 F9.out).1; omega)
          have F9 := Lib.hid ((hB.block _ (Array.getElem?_eq_some_iff.1 F9.out).1).trans F9.out)
          have M3_4 : Hid (∀ a, D3 = some a → a.block ≠ u43.heap.size) := Lib.hid (fun a e => by have := L3.out.2 a e; omega)
          have L3 := Lib.hid (L3.out.keep hB.size (fun a e => hB.block _ (L3.out.2 a e)))
          have F4 := Lib.hid hF
          have HS44 : Hid _ := Lib.hid (HV.out _ HKEEP.out)
          refine hK.out _ _ HS44.out (fun _ => ?_)
          clear hK K hB hF
          try dsimp only
          generalize (u43.alloc (.cells #[] 63)) = u44 at *
          refine wpAnyH_ready (rs := [7]) (by kernel_rfl) (by simp) ?_
          refine AllReadyH.cons (o := ⟨some 15, _, _, _, _, _⟩) rfl (fun K hK => ?_) AllReadyH.nil
          refine step_append_la (k := .u64) (by kernel_rfl) (by kernel_rfl) rfl (.tmp 12) (.tmp 14) rfl rfl u43.heap.size rfl F4.out A3 n3 c3 rfl labels HM3.out (HA3.out _ HKEEP.out) HL3.out ?_
          intro D7 d7 u45 hR
          have hsz : u44.heap.size ≤ u45.heap.size := hR.grown.size
          have HKEEP : Hid (Below w2.heap.size w2 u45) := Lib.hid (Below.grown HKEEP.out hR.grown HKEEP.out.size (fun k e => by cases e; omega))
          have M7_9 : Hid (∀ a, D7 = some a → a.block ≠ w2.heap.size) := Lib.hid (fun a e => by
            have h1 := (Array.getElem?_eq_some_iff.1 F9.out).1
            rcases (hR.at_ a e).1 with h2 | h2
            · rw [h2]; first | exact fun e => N9_4.out e.symm | exact fun e => N4_9.out e
            · omega)
          have F9 := Lib.hid ((hR.grown.block _ (Array.getElem?_eq_some_iff.1 F9.out).1 (by first | exact fun e => N9_4.out (Option.some.inj e) | exact fun e => N4_9.out (Option.some.inj e).symm)).trans F9.out)
          have L3 := Lib.hid (L3.out.keep hR.grown.size (fun a e => hR.grown.block _ (L3.out.2 a e) (fun e2 => M3_4.out a e (Option.some.inj e2))))
          have L7 : Hid (LAb .u64 u45 D7 labels) := Lib.hid ⟨hR.la, fun a e => (hR.at_ a e).2⟩
          have C7 : Hid (n3 ≤ d7 ∧ d7 ≤ maxLen) := Lib.hid ⟨by rw [HM3.out]; exact hR.le, hR.max⟩
          have B7 : Hid (∀ a, D7 = some a → w2.heap.size ≤ a.block) := Lib.hid (fun a e => by rcases (hR.at_ a e).1 with h2 | h2 <;> omega)
          have HS45 : Hid _ := Lib.hid (HV.out _ HKEEP.out)
          refine hK.out _ _ HS45.out (fun _ => ?_)
          clear hK K hR
          try simp only [Act.put, List.setIfInBounds_toArray, List.set_cons_zero, List.set_cons_succ]
          refine wpAnyH_take (i := 8) (oi := ⟨some 16, _, _, _, _, _⟩) (v := .agg #[.slice D3 n1 d3, .slice none 0 0, .slice D7 n3 d7]) rfl (by kernel_rfl) (by kernel_rfl) (by kernel_rfl) (fun _ _ _ h => h) (Or.inl ⟨by kernel_rfl, fun w9 hS => ?_⟩) HS45.out ?_
          · clear hS
            go_simp
          try simp only [Act.put, List.setIfInBounds_toArray, List.set_cons_zero, List.set_cons_succ]
          obtain ⟨z0, z1, z2, f0⟩ := cells3 F9.out
          have f1 := f0 1
          have f2 := f0 2
          have f0 := f0 0
          refine wpAnyH_ready (rs := [10]) (by kernel_rfl) (by simp) ?_
          refine AllReadyH.cons (o := ⟨none, _, _, _, _, _⟩) rfl (fun K hK => ?_) AllReadyH.nil
          go_simp
          have hzw : w2.heap.size ≤ w2.heap.size := by omega
          have hX := set3_all (v0 := .slice D3 n1 d3) (v1 := .slice none 0 0) (v2 := .slice D7 n3 d7) F9.out
          have HKEEP : Hid (Below w2.heap.size w2 (((u45.setCell ⟨w2.heap.size, 0, none⟩ (.slice D3 n1 d3)).setCell ⟨w2.heap.size, 1, none⟩ (.slice none 0 0)).setCell ⟨w2.heap.size, 2, none⟩ (.slice D7 n3 d7))) := Lib.hid (((HKEEP.out.setCell (show w2.heap.size ≤ (⟨w2.heap.size, 0, none⟩ : Addr).block from hzw) _).setCell (show w2.heap.size ≤ (⟨w2.heap.size, 1, none⟩ : Addr).block from hzw) _).setCell (show w2.heap.size ≤ (⟨w2.heap.size, 2, none⟩ : Addr).block from hzw) _)
          refine hK.out _ _ (HV.out _ HKEEP.out) (fun _ => ?_)
          clear hK K z0 z1 z2 f0 f1 f2
          try dsimp only
          refine wpAnyH_done (by kernel_rfl) ?_ _
          have HFIN : Hid (AfterOne w2 init labels n1 n3 w2.heap.size D3 d3 D7 d7 _) := Lib.hid ⟨hX, L3.out.set3 (fun a e => (M3_9.out a e)) _ _ _, L7.out.set3 (fun a e => M7_9.out a e) _ _ _, C3.out, C7.out, B3.out, B7.out, M3_9.out, M7_9.out, hzw, HKEEP.out⟩
          go_wp2
          go_meet
          case rel => exact ⟨w2.heap.size, D3, d3, D7, d7, rfl, HFIN⟩
        · rw [if_pos (by kernel_rfl)]
          go_simp
          have hB : Below u42.heap.size u42 (u42.alloc (.cells #[] 63)) := (below1 u42 _)
          have hF : (u42.alloc (.cells #[] 63)).heap[u42.heap.size]? = some (.cells #[] 63 (0, 0)) := World.alloc_heap_new u42 _
          have hsz : u42.heap.size + 1 ≤ (u42.alloc (.cells #[] 63)).heap.size := by simp
          have HKEEP : Hid (Below w2.heap.size w2 (u42.alloc (.cells #[] 63))) := Lib.hid (HKEEP.out.trans (hB.mono HKEEP.out.size))
          have N9_4 : Hid (w2.heap.size ≠ u42.heap.size) := Lib.hid (by have := (Array.getElem?_eq_some_iff.1 F9.out).1; omega)
          have N0_4 : Hid (u41.heap.size ≠ u42.heap.size) := Lib.hid (by have := (Array.getElem?_eq_some_iff.1 F0.out).1; omega)
          have F9 := Lib.hid ((hB.block _ (Array.getElem?_eq_some_iff.1 F9.out).1).trans F9.out)
          have F0 := Lib.hid ((hB.block _ (Array.getElem?_eq_some_iff.1 F0.out).1).trans F0.out)
          have F4 := Lib.hid hF
          have HS46 : Hid _ := Lib.hid (HV.out _ HKEEP.out)
          refine hK.out _ _ HS46.out (fun _ => ?_)
          clear hK K hB hF
          try dsimp only
          generalize (u42.alloc (.cells #[] 63)) = u46 at *
          refine wpAnyH_ready (rs := [3]) (by kernel_rfl) (by simp) ?_
          refine AllReadyH.cons (o := ⟨some 11, _, _, _, _, _⟩) rfl (fun K hK => ?_) AllReadyH.nil
          refine step_append_la (k := .i64) (by kernel_rfl) (by kernel_rfl) rfl (.tmp 8) (.tmp 10) rfl rfl u41.heap.size rfl F0.out A1 n1 c1 rfl init HM1.out (HA1.out _ HKEEP.out) HL1.out ?_
          intro D3 d3 u47 hR
          have hsz : u46.heap.size ≤ u47.heap.size := hR.grown.size
          have HKEEP : Hid (Below w2.heap.size w2 u47) := Lib.hid (Below.grown HKEEP.out hR.grown HKEEP.out.size (fun k e => by cases e; omega))
          have M3_9 : Hid (∀ a, D3 = some a → a.block ≠ w2.heap.size) := Lib.hid (fun a e => by
            have h1 := (Array.getElem?_eq_some_iff.1 F9.out).1
            rcases (hR.at_ a e).1 with h2 | h2
            · rw [h2]; first | exact fun e => N9_0.out e.symm | exact fun e => N0_9.out e
            · omega)
          have M3_4 : Hid (∀ a, D3 = some a → a.block ≠ u42.heap.size) := Lib.hid (fun a e => by
            have h1 := (Array.getElem?_eq_some_iff.1 F4.out).1
            rcases (hR.at_ a e).1 with h2 | h2
            · rw [h2]; first | exact fun e => N4_0.out e.symm | exact fun e => N0_4.out e
            · omega)
          have F9 := Lib.hid ((hR.grown.block _ (Array.getElem?_eq_some_iff.1 F9.out).1 (by first | exact fun e => N9_0.out (Option.some.inj e) | exact fun e => N0_9.out (Option.some.inj e).symm)).trans F9.out)
          have F4 := Lib.hid ((hR.grown.block _ (Array.getElem?_eq_some_iff.1 F4.out).1 (by first | exact fun e => N4_0.out (Option.some.inj e) | exact fun e => N0_4.out (Option.some.inj e).symm)).trans F4.out)
          have L3 : Hid (LAb .i64 u47 D3 init) := Lib.hid ⟨hR.la, fun a e => (hR.at_ a e).2⟩
          have C3 : Hid (n1 ≤ d3 ∧ d3 ≤ maxLen) := Lib.hid ⟨by rw [HM1.out]; exact hR.le, hR.max⟩
          have B3 : Hid (∀ a, D3 = some a → w2.heap.size ≤ a.block) := Lib.hid (fun a e => by rcases (hR.at_ a e).1 with h2 | h2 <;> omega)
          have HS47 : Hid _ := Lib.hid (HV.out _ HKEEP.out)
          refine hK.out _ _ HS47.out (fun _ => ?_)
          clear hK K hR
          try simp only [Act.put, List.setIfInBounds_toArray, List.set_cons_zero, List.set_cons_succ]
          refine wpAnyH_ready (rs := [7]) (by kernel_rfl) (by simp) ?_
          refine AllReadyH.cons (o := ⟨some 15, _, _, _, _, _⟩) rfl (fun K hK => ?_) AllReadyH.nil
          refine step_append_la (k := .u64) (by kernel_rfl) (by kernel_rfl) rfl (.tmp 12) (.tmp 14) rfl rfl u42.heap.size rfl F4.out A3 n3 c3 rfl labels HM3.out (HA3.out _ HKEEP.out) HL3.out ?_
          intro D7 d7 u48 hR
          have hsz : u47.heap.size ≤ u48.heap.size := hR.grown.size
          have HKEEP : Hid (Below w2.heap.size w2 u48) := Lib.hid (Below.grown HKEEP.out hR.grown HKEEP.out.size (fun k e => by cases e; omega))
          have M7_9 : Hid (∀ a, D7 = some a → a.block ≠ w2.heap.size) := Lib.hid (fun a e => by
            have h1 := (Array.getElem?_eq_some_iff.1 F9.out).1
            rcases (hR.at_ a e).1 with h2 | h2
            · rw [h2]; first | exact fun e => N9_4.out e.symm | exact fun e => N4_9.out e
            · omega)
          have F9 := Lib.hid ((hR.grown.block _ (Array.getElem?_eq_some_iff.1 F9.out).1 (by first | exact fun e => N9_4.out (Option.some.inj e) | exact fun e => N4_9.out (Option.some.inj e).symm)).trans F9.out)
          have L3 := Lib.hid (L3.out.keep hR.grown.size (fun a e => hR.grown.block _ (L3.out.2 a e) (fun e2 => M3_4.out a e (Option.some.inj e2))))
          have L7 : Hid (LAb .u64 u48 D7 labels) := Lib.hid ⟨hR.la, fun a e => (hR.at_ a e).2⟩
          have C7 : Hid (n3 ≤ d7 ∧ d7 ≤ maxLen) := Lib.hid ⟨by rw [HM3.out]; exact hR.le, hR.max⟩
          have B7 : Hid (∀ a, D7 = some a → w2.heap.size ≤ a.block) := Lib.hid (fun a e => by rcases (hR.at_ a e).1 with h2 | h2 <;> omega)
          have HS48 : Hid _ := Lib.hid (HV.out _ HKEEP.out)
          refine hK.out _ _ HS48.out (fun _ => ?_)
          clear hK K hR
          try simp only [Act.put, List.setIfInBounds_toArray, List.set_cons_zero, List.set_cons_succ]
          refine wpAnyH_take (i := 8) (oi := ⟨some 16, _, _, _, _, _⟩) (v := .agg #[.slice D3 n1 d3, .slice none 0 0, .slice D7 n3 d7]) rfl (by kernel_rfl) (by kernel_rfl) (by kernel_rfl) (fun _ _ _ h => h) (Or.inl ⟨by kernel_rfl, fun w9 hS => ?_⟩) HS48.out ?_
          · clear hS
            go_simp
          try simp only [Act.put, List.setIfInBounds_toArray, List.set_cons_zero, List.set_cons_succ]
          obtain ⟨z0, z1, z2, f0⟩ := cells3 F9.out
          have f1 := f0 1
          have f2 := f0 2
          have f0 := f0 0
          refine wpAnyH_ready (rs := [10]) (by kernel_rfl) (by simp) ?_
          refine AllReadyH.cons (o := ⟨none, _, _, _, _, _⟩) rfl (fun K hK => ?_) AllReadyH.nil
          go_simp
          have hzw : w2.heap.size ≤ w2.heap.size := by omega
          have hX := set3_all (v0 := .slice D3 n1 d3) (v1 := .slice none 0 0) (v2 := .slice D7 n3 d7) F9.out
          have HKEEP : Hid (Below w2.heap.size w2 (((u48.setCell ⟨w2.heap.size, 0, none⟩ (.slice D3 n1 d3)).setCell ⟨w2.heap.size, 1, none⟩ (.slice none 0 0)).setCell ⟨w2.heap.size, 2, none⟩ (.slice D7 n3 d7))) := Lib.hid (((HKEEP.out.setCell (show w2.heap.size ≤ (⟨w2.heap.size, 0, none⟩ : Addr).block from hzw) _).setCell (show w2.heap.size ≤ (⟨w2.heap.size, 1, none⟩ : Addr).block from hzw) _).setCell (show w2.heap.size ≤ (⟨w2.heap.size, 2, none⟩ : Addr).block from hzw) _)
          refine hK.out _ _ (HV.out _ HKEEP.out) (fun _ => ?_)
          clear hK K z0 z1 z2 f0 f1 f2
          try dsimp only
          refine wpAnyH_done (by kernel_rfl) ?_ _
          have HFIN : Hid (AfterOne w2 init labels n1 n3 w2.heap.size D3 d3 D7 d7 _) := Lib.hid ⟨hX, L3.out.set3 (fun a e => (M3_9.out a e)) _ _ _, L7.out.set3 (fun a e => M7_9.out a e) _ _ _, C3.out, C7.out, B3.out, B7.out, M3_9.out, M7_9.out, hzw, HKEEP.out⟩
          go_wp2
          go_meet
          case rel => exact ⟨w2.heap.size, D3, d3, D7, d7, rfl, HFIN⟩
      · rw [if_pos (by kernel_rfl)]
        go_simp
        have hB : Below u41.heap.size u41 (u41.alloc (.cells #[] 63)) := (below1 u41 _)
        have hF : (u41.alloc (.cells #[] 63)).heap[u41.heap.size]? = some (.cells #[] 63 (0, 0)) := World.alloc_heap_new u41 _
        have hsz : u41.heap.size + 1 ≤ (u41.alloc (.cells #[] 63)).heap.size := by simp
        have HKEEP : Hid (Below w2.heap.size w2 (u41.alloc (.cells #[] 63))) := Lib.hid (HKEEP.out.trans (hB.mono HKEEP.out.size))
        have N9_4 : Hid (w2.heap.size ≠ u41.heap.size) := Lib.hid (by have := (Array.getElem?_eq_some_iff.1 F9.out).1; omega)
        have F9 := Lib.hid ((hB.block _ (Array.getElem?_eq_some_iff.1 F9.out).1).trans F9.out)
        have F4 := Lib.hid hF
        have HS49 : Hid _ := Lib.hid (HV.out _ HKEEP.out)
        refine hK.out _ _ HS49.out (fun _ => ?_)
        clear hK K hB hF
        try dsimp only
        generalize (u41.alloc (.cells #[] 63)) = u49 at *
        refine wpAnyH_ready (rs := [0]) (by kernel_rfl) (by simp) ?_
        refine AllReadyH.cons (o := ⟨some 8, _, _, _, _, _⟩) rfl (fun K hK => ?_) AllReadyH.nil
        rw [if_pos (by kernel_rfl)]
        go_simp
        have hB : Below u49.heap.size u49 (u49.alloc (.cells #[] 3)) := (below1 u49 _)
        have hF : (u49.alloc (.cells #[] 3)).heap[u49.heap.size]? = some (.cells #[] 3 (0, 0)) := World.alloc_heap_new u49 _
        have hsz : u49.heap.size + 1 ≤ (u49.alloc (.cells #[] 3)).heap.size := by simp
        have HKEEP : Hid (Below w2.heap.size w2 (u49.alloc (.cells #[] 3))) := Lib.hid (HKEEP.out.trans (hB.mono HKEEP.out.size))
        have N9_0 : Hid (w2.heap.size ≠ u49.heap.size) := Lib.hid (by have := (Array.getElem?_eq_some_iff.1 F9.out).1; omega)
        have N4_0 : Hid (u41.heap.size ≠ u49.heap.size) := Lib.hid (by have := (Array.getElem?_eq_some_iff.1 F4.out).1; omega)
        have F9 := Lib.hid ((hB.block _ (Array.getElem?_eq_some_iff.1 F9.out).1).trans F9.out)
        have F4 := Lib.hid ((hB.block _ (Array.getElem?_eq_some_iff.1 F4.out).1).trans F4.out)
        have F0 := Lib.hid hF
        have HS50 : Hid _ := Lib.hid (HV.out _ HKEEP.out)
        refine hK.out _ _ HS50.out (fun _ => ?_)
        clear hK K hB hF
        try dsimp only
        generalize (u49.alloc (.cells #[] 3)) = u50 at *
        refine wpAnyH_ready (rs := [3]) (by kernel_rfl) (by simp) ?_
        refine AllReadyH.cons (o := ⟨some 11, _, _, _, _, _⟩) rfl (fun K hK => ?_) AllReadyH.nil
        refine step_append_la (k := .i64) (by kernel_rfl) (by kernel_rfl) rfl (.tmp 8) (.tmp 10) rfl rfl u49.heap.size rfl F0.out A1 n1 c1 rfl init HM1.out (HA1.out _ HKEEP.out) HL1.out ?_
        intro D3 d3 u51 hR
        have hsz : u50.heap.size ≤ u51.heap.size := hR.grown.size
        have HKEEP : Hid (Below w2.heap.size w2 u51) := Lib.hid (Below.grown HKEEP.out hR.grown HKEEP.out.size (fun k e => by cases e; omega))
        have M3_9 : Hid (∀ a, D3 = some a → a.block ≠ w2.heap.size) := Lib.hid (fun a e => by
          have h1 := (Array.getElem?_eq_some_iff.1 F9.out).1
          rcases (hR.at_ a e).1 with h2 | h2
          · rw [h2]; first | exact fun e => N9_0.out e.symm | exact fun e => N0_9.out e
          · omega)
        have M3_4 : Hid (∀ a, D3 = some a → a.block ≠ u41.heap.size) := Lib.hid (fun a e => by
          have h1 := (Array.getElem?_eq_some_iff.1 F4.out).1
          rcases (hR.at_ a e).1 with h2 | h2
          · rw [h2]; first | exact fun e => N4_0.out e.symm | exact fun e => N0_4.out e
          · omega)
        have F9 := Lib.hid ((hR.grown.block _ (Array.getElem?_eq_some_iff.1 F9.out).1 (by first | exact fun e => N9_0.out (Option.some.inj e) | exact fun e => N0_9.out (Option.some.inj e).symm)).trans F9.out)
        have F4 := Lib.hid ((hR.grown.block _ (Array.getElem?_eq_some_iff.1 F4.out).1 (by first | exact fun e => N4_0.out (Option.some.inj e) | exact fun e => N0_4.out (Option.some.inj e).symm)).trans F4.out)
        have L3 : Hid (LAb .i64 u51 D3 init) := Lib.hid ⟨hR.la, fun a e => (hR.at_ a e).2⟩
        have C3 : Hid (n1 ≤ d3 ∧ d3 ≤ maxLen) := Lib.hid ⟨by rw [HM1.out]; exact hR.le, hR.max⟩
        have B3 : Hid (∀ a, D3 = some a → w2.heap.size ≤ a.block) := Lib.hid (fun a e => by rcases (hR.at_ a e).1 with h2 | h2 <;> omega)
        have HS51 : Hid _ := Lib.hid (HV.out _ HKEEP.out)
        refine hK.out _ _ HS51.out (fun _ => ?_)
        clear hK K hR
        try simp only [Act.put, List.setIfInBounds_toArray, List.set_cons_zero, List.set_cons_succ]
        refine wpAnyH_ready (rs := [7]) (by kernel_rfl) (by simp) ?_
        refine AllReadyH.cons (o := ⟨some 15, _, _, _, _, _⟩) rfl (fun K hK => ?_) AllReadyH.nil
        refine step_append_la (k := .u64) (by kernel_rfl) (by kernel_rfl) rfl (.tmp 12) (.tmp 14) rfl rfl u41.heap.size rfl F4.out A3 n3 c3 rfl labels HM3.out (HA3.out _ HKEEP.out) HL3.out ?_
        intro D7 d7 u52 hR
        have hsz : u51.heap.size ≤ u52.heap.size := hR.grown.size
        have HKEEP : Hid (Below w2.heap.size w2 u52) := Lib.hid (Below.grown HKEEP.out hR.grown HKEEP.out.size (fun k e => by cases e; omega))
        have M7_9 : Hid (∀ a, D7 = some a → a.block ≠ w2.heap.size) := Lib.hid (fun a e => by
          have h1 := (Array.getElem?_eq_some_iff.1 F9.out).1
          rcases (hR.at_ a e).1 with h2 | h2
          · rw [h2]; first | exact fun e => N9_4.out e.symm | exact fun e => N4_9.out e
          · omega)
        have F9 := Lib.hid ((hR.grown.block _ (Array.getElem?_eq_some_iff.1 F9.out).1 (by first | exact fun e => N9_4.out (Option.some.inj e) | exact fun e => N4_9.out (Option.some.inj e).symm)).trans F9.out)
        have L3 := Lib.hid (L3.out.keep hR.grown.size (fun a e => hR.grown.block _ (L3.out.2 a e) (fun e2 => M3_4.out a e (Option.some.inj e2))))
        have L7 : Hid (LAb .u64 u52 D7 labels) := Lib.hid ⟨hR.la, fun a e => (hR.at_ a e).2⟩
        have C7 : Hid (n3 ≤ d7 ∧ d7 ≤ maxLen) := Lib.hid ⟨by rw [HM3.out]; exact hR.le, hR.max⟩
        have B7 : Hid (∀ a, D7 = some a → w2.heap.size ≤ a.block) := Lib.hid (fun a e => by rcases (hR.at_ a e).1 with h2 | h2 <;> omega)
        have HS52 : Hid _ := Lib.hid (HV.out _ HKEEP.out)
        refine hK.out _ _ HS52.out (fun _ => ?_)
        clear hK K hR
        try simp only [Act.put, List.setIfInBounds_toArray, List.set_cons_zero, List.set_cons_succ]
        refine wpAnyH_take (i := 8) (oi := ⟨some 16, _, _, _, _, _⟩) (v := .agg #[.slice D3 n1 d3, .slice none 0 0, .slice D7 n3 d7]) rfl (by kernel_rfl) (by kernel_rfl) (by kernel_rfl) (fun _ _ _ h => h) (Or.inl ⟨by kernel_rfl, fun w9 hS => ?_⟩) HS52.out ?_
        · clear hS
          go_simp
        try simp only [Act.put, List.setIfInBounds_toArray, List.set_cons_zero, List.set_cons_succ]
        obtain ⟨z0, z1, z2, f0⟩ := cells3 F9.out
        have f1 := f0 1
        have f2 := f0 2
        have f0 := f0 0
        refine wpAnyH_ready (rs := [10]) (by kernel_rfl) (by simp) ?_
        refine AllReadyH.cons (o := ⟨none, _, _, _, _, _⟩) rfl (fun K hK => ?_) AllReadyH.nil
        go_simp
        have hzw : w2.heap.size ≤ w2.heap.size := by omega
        have hX := set3_all (v0 := .slice D3 n1 d3) (v1 := .slice none 0 0) (v2 := .slice D7 n3 d7) F9.out
        have HKEEP : Hid (Below w2.heap.size w2 (((u52.setCell ⟨w2.heap.size, 0, none⟩ (.slice D3 n1 d3)).setCell ⟨w2.heap.size, 1, none⟩ (.slice none 0 0)).setCell ⟨w2.heap.size, 2, none⟩ (.slice D7 n3 d7))) := Lib.hid (((HKEEP.out.setCell (show w2.heap.size ≤ (⟨w2.heap.size, 0, none⟩ : Addr).block from hzw) _).setCell (show w2.heap.size ≤ (⟨w2.heap.size, 1, none⟩ : Addr).block from hzw) _).setCell (show w2.heap.size ≤ (⟨w2.heap.size, 2, none⟩ : Addr).block from hzw) _)
        refine hK.out _ _ (HV.out _ HKEEP.out) (fun _ => ?_)
        clear hK K z0 z1 z2 f0 f1 f2
        try dsimp only
        refine wpAnyH_done (by kernel_rfl) ?_ _
        have HFIN : Hid (AfterOne w2 init labels n1 n3 w2.heap.size D3 d3 D7 d7 _) := Lib.hid ⟨hX, L3.out.set3 (fun a e => (M3_9.out a e)) _ _ _, L7.out.set3 (fun a e => M7_9.out a e) _ _ _, C3.out, C7.out, B3.out, B7.out, M3_9.out, M7_9.out, hzw, HKEEP.out⟩
        go_wp2
        go_meet
        case rel => exact ⟨w2.heap.size, D3, d3, D7, d7, rfl, HFIN⟩
  case rest =>
    obtain ⟨Z, D1, d1, D3, d3, rfl, HAF⟩ := hcut
    obtain ⟨i0, hi, hz0, hz1, hz2'⟩ := info_parts (show (Try.prog.info? 39).map (fun i => (i.zero, i.size, i.bytes)) = some (some (.slice none 0 0), 1, 24) by kernel_rfl)
    have hmk : ∀ W : World, (Instr.makeSlice 23 (.int .i64 (n : Int)) (.int .i64 (n : Int))).run Try.prog W = .ok (.slice (some ⟨W.heap.size, 0, none⟩) n n) (W.alloc (.cells (madeCells #[.slice none 0 0] n) 39)) := fun W => by
      have hr := run_make (P := Try.prog) W 23 39 i0 _ (by kernel_rfl) hi hz0 .i64 .i64 (n : Int) (n : Int) (by omega) (Int.le_refl _) (by rw [hz2']; omega) (by omega)
      rw [hr, hz1, Int.toNat_natCast, Nat.mul_one]
      rfl
    clear hi hz0 hz1 hz2'
    obtain ⟨q0, q1, q2⟩ := HV.out wc HAF.out.below
    have HBC : Hid (Below w.heap.size w wc) := Lib.hid (HB2.out.trans (HAF.out.below.mono HB2.out.size))
    go_wp2_with fail
    clear hmk q0 q1 q2
    have hbd := below1 wc (.cells (madeCells #[.slice none 0 0] n) 39)
    have hrow := World.rowIs_made wc (.slice none 0 0) n 39
    have hzd : wc.heap.size + 1 ≤ (wc.alloc (.cells (madeCells #[.slice none 0 0] n) 39)).heap.size := by simp
    generalize wc.alloc (.cells (madeCells #[.slice none 0 0] n) 39) = wd at *
    have HOR : Hid (∃ vs, OR wd wd.heap.size wc.heap.size n vs (turnL (leadTo rows 0))) := Lib.hid ⟨fun _ => .slice none 0 0, hrow, fun i _ => World.ownsRow_nil _ _ _ _, fun i _ j _ _ => .inl rfl, hzd⟩
    have HBD := Lib.hid hbd
    have hwc := HBC.out.size
    have hwc2 := HAF.out.below.size
    -- what stays while the table's rows grow
    have HKP : Hid (∀ W, Turn (fun q => q = wc.heap.size) wd W → (∀ q, q < wc.heap.size → W.heap[q]? = wc.heap[q]?) ∧ wc.heap.size + 1 ≤ W.heap.size) := Lib.hid (fun W h => ⟨fun q hq => (h.block q (by omega) (by omega)).trans (HBD.out.block q hq), by have := h.size; omega⟩)
    have HVB : Hid (∀ W, Turn (fun q => q = wc.heap.size) wd W → W.cell? ⟨w.heap.size, 0, none⟩ = some (.slice A1 n1 c1) ∧ W.cell? ⟨w.heap.size, 1, none⟩ = some (.slice A2 n c2) ∧ W.cell? ⟨w.heap.size, 2, none⟩ = some (.slice A3 n3 c3)) := Lib.hid (fun W h => by
      obtain ⟨q0, q1, q2⟩ := HV.out wc HAF.out.below
      have hk := (HKP.out W h).1 w.heap.size (by omega)
      exact ⟨(World.cell?_of_block (w := wc) (a := ⟨w.heap.size, 0, none⟩) hk).trans q0, (World.cell?_of_block (w := wc) (a := ⟨w.heap.size, 1, none⟩) hk).trans q1, (World.cell?_of_block (w := wc) (a := ⟨w.heap.size, 2, none⟩) hk).trans q2⟩)
    have HKW : Hid (∀ W, Turn (fun q => q = wc.heap.size) wd W → ∀ p : Addr, p.block < w.heap.size → W.cell? p = w.cell? p) := Lib.hid (fun W h p hp => (World.cell?_of_block (w := wc) (a := p) ((HKP.out W h).1 p.block (by omega))).trans (HBC.out.cell hp))
    have HLT : Hid (∀ k, k ≤ n → (leadTo rows k).length ≤ 1000000) := Lib.hid (fun k hk => by
      have h1 := leadTo_len HROW.out k
      have h2 : k * 1000 ≤ 1000 * 1000 := Nat.mul_le_mul_right _ (by omega)
      omega)
    clear hbd hrow
    go_loopw [5] (fun i wr => ∃ k : Nat, k ≤ n ∧ i = .int .i64 k ∧ Hid (Turn (fun q => q = wc.heap.size) wd wr) ∧ Hid (∃ vs, OR wr wd.heap.size wc.heap.size n vs (turnL (leadTo rows k)))) (fun i _ => n - (intOf i).toNat)
    case atStart => exact ⟨0, Nat.zero_le _, rfl, Lib.hid (Turn.refl _ _), HOR⟩
    case round =>
      clear HOR
      obtain ⟨k, hk, rfl, HT, HOR⟩ := hrel
      obtain ⟨q0, q1, q2⟩ := HVB.out wr HT.out
      by_cases hlt : k < n
      · obtain ⟨br, fr, hA2, hbr, hcr⟩ := HI2.out (by rw [← HN.out]; omega)
        obtain ⟨A5, c5, e7, hl5, hm5, hp5⟩ := hcr k (by rw [← HN.out]; exact hlt)
        have hrl := HROW.out k
        obtain ⟨row, HROWK⟩ : ∃ row, Hid (rows.getD k [] = row) := ⟨_, Lib.hid rfl⟩
        rw [HROWK.out] at e7 hp5 hrl
        obtain ⟨rl, HRL⟩ : ∃ rl, Hid (row.length = rl) := ⟨_, Lib.hid rfl⟩
        rw [HRL.out] at e7 hrl
        subst hA2
        have HBR := Lib.hid hbr
        have HE7 := Lib.hid e7
        have HP5 := Lib.hid hp5
        clear hcr hl5 hm5 e7 hp5 hbr
        go_wp2_with fail
        clear q0 q1 q2
        go_loopw [6] (fun j wr => ∃ z : Nat, z ≤ rl ∧ j = .int .i64 z ∧ Hid (Turn (fun q => q = wc.heap.size) wd wr) ∧ Hid (∃ vs, OR wr wd.heap.size wc.heap.size n vs (turnL (leadTo rows k ++ rowL n k (row.take z))))) (fun j _ => rl - (intOf j).toNat)
        case atStart => exact ⟨0, Nat.zero_le _, rfl, HT, by rw [List.take_zero, show rowL n k [] = [] from rfl, List.append_nil]; exact HOR⟩
        case round =>
          clear HT HOR
          obtain ⟨z, hz, rfl, HT, HOR⟩ := hrel
          obtain ⟨q0, q1, q2⟩ := HVB.out wr HT.out
          have d7 := (HKW.out wr HT.out ⟨br, fr + k, none⟩ HBR.out).trans HE7.out
          by_cases hlz : z < rl
          · have hzl : z < row.length := by rw [HRL.out]; exact hlz
            obtain ⟨bp, op, rfl, hbp, hcp⟩ := HP5.out (by omega)
            have d8 := (HKW.out wr HT.out ⟨bp, op + z * 2, none⟩ hbp).trans (hcp z hzl).1
            have d9 := (HKW.out wr HT.out ⟨bp, op + z * 2 + 1, none⟩ hbp).trans (hcp z hzl).2
            have HST := Lib.hid (rowL_snoc (n := n) (a := k) hzl)
            clear hcp
            generalize row.getD z (0, 0) = e at d8 d9 HST
            obtain ⟨to, ac⟩ := e
            simp only at d8 d9
            go_upto_region 10 with (fail)
            have hbe := below1 wr (.cells #[.int .i64 to, .int .i64 ac] 46)
            have hce := World.alloc_heap_new wr (.cells #[.int .i64 to, .int .i64 ac] 46)
            generalize wr.alloc (.cells #[.int .i64 to, .int .i64 ac] 46) = we at *
            have HTE : Hid (Turn (fun q => q = wc.heap.size) wd we) := Lib.hid (HT.out.then_below (hbe.mono HT.out.size))
            have HCE := Lib.hid hce
            have HBE := Lib.hid hbe
            have e0 : we.cell? ⟨wr.heap.size, 0, none⟩ = some (.int .i64 to) := cell_of_row _ _ 0 _ _ _ hce
            clear d7 d8 d9 q0 q1 q2 hbe hce
            obtain ⟨q0, q1, q2⟩ := HVB.out we HTE.out
            go_wp2_with fail
            clear q0 q1 q2 e0
            refine (node_any _ _ _ n c2 _ _).mono ?_
            obtain ⟨nb, HNB⟩ : ∃ y, Hid (nodeB n to = y) := ⟨_, Lib.hid rfl⟩
            rw [HNB.out] at HST ⊢
            rintro e w7 ⟨rfl, hb7⟩
            have HT7 : Hid (Turn (fun q => q = wc.heap.size) wd w7) := Lib.hid (HTE.out.then_below (hb7.mono HTE.out.size))
            have HE7 : Hid (w7.heap[wr.heap.size]? = _) := Lib.hid ((hb7.block _ (Array.getElem?_eq_some_iff.1 HCE.out).1).trans HCE.out)
            have HOR7 : Hid (∃ vs, OR w7 wd.heap.size wc.heap.size n vs (turnL (leadTo rows k ++ rowL n k (row.take z))) ∧ ∀ j, j < n → (vs j).ownBlock ≠ some wr.heap.size) := Lib.hid (by
              obtain ⟨vs, h⟩ := HOR.out
              exact ⟨vs, (h.below HBE.out).below hb7, fun j hj e => by have := ((h.own j hj).lt _ e).2; omega⟩)
            have hsz7 := HT7.out.size
            clear hb7
            cases nb with
            | false =>
              have HOR8 : Hid (∃ vs, OR w7 wd.heap.size wc.heap.size n vs (turnL (leadTo rows k ++ rowL n k (row.take (z + 1))))) := Lib.hid (by
                obtain ⟨vs, h, _⟩ := HOR7.out
                rw [HST.out, if_neg (by decide), List.append_nil]
                exact ⟨vs, h⟩)
              go_wp2_with fail
              go_roundw
              case rel => exact ⟨z + 1, hlz, by go_num, HT7, HOR8⟩
              case measure => simp [intOf]; omega
            | true =>
              obtain ⟨i, rfl, hi⟩ : ∃ i : Nat, to = (i : Int) ∧ i < n := by
                have := of_decide_eq_true HNB.out
                exact ⟨to.toNat, by omega, by omega⟩
              obtain ⟨vs, hor, hne⟩ := HOR7.out
              have hord : OR w7.drew wd.heap.size wc.heap.size n vs (turnL (leadTo rows k ++ rowL n k (row.take z))) := ⟨hor.tab, hor.own, hor.apart, hor.lt⟩
              have hpl : (turnL (leadTo rows k ++ rowL n k (row.take z)) i).length ≤ 1001000 := by
                refine Nat.le_trans (turnL_le _ _) ?_
                rw [List.length_append]
                have h1 := HLT.out k hk
                have h2 := rowL_len n k (row.take z)
                rw [List.length_take] at h2
                omega
              obtain ⟨g', cap', w', hr, g6, g7, hg, horS⟩ := table_append hord hi (by show wd.heap.size ≤ w7.heap.size; exact hsz7) ((k : Int), ac) (by omega)
              have hownb : ∀ q, (vs i).ownBlock = some q → wd.heap.size ≤ q := fun q e => ((hor.own i hi).lt q e).1
              obtain ⟨A', l2, c2', hv⟩ : ∃ A' l2 c2, vs i = .slice A' l2 c2 := by
                rcases (hor.own i hi).2 with ⟨h, _⟩ | ⟨g, cap, cur, h, _⟩
                · exact ⟨_, _, _, h⟩
                · exact ⟨_, _, _, h⟩
              have HG4 : Hid (w7.drew.cell? ⟨wc.heap.size, i, none⟩ = some (.slice A' l2 c2')) := Lib.hid (by rw [← hv]; exact hor.tab.cell hi)
              have HG5 : Hid (w7.cell? ⟨wc.heap.size, i, none⟩ = some (.slice A' l2 c2') ∧ (w7.alloc (.cells #[.int .i64 (k : Int), .int .i64 ac] 46)).cell? ⟨wc.heap.size, i, none⟩ = some (.slice A' l2 c2')) := Lib.hid ⟨by rw [← hv]; exact hor.tab.cell hi, by rw [← hv]; exact ((below1 w7 _).cell (p := ⟨wc.heap.size, i, none⟩) (hor.tab.lt)).trans (hor.tab.cell hi)⟩
              have hbw : Below wd.heap.size w7 w' := Below.grown ((Below.refl _ w7).drew.alloc hsz7 _) hg (by simp; omega) hownb
              have hee : w'.heap[wr.heap.size]? = w7.heap[wr.heap.size]? := (hg.block _ (by have := (Array.getElem?_eq_some_iff.1 HE7.out).1; simp; omega) (fun e => hne i hi e.symm)).trans (Below.heap_alloc _ _ _ (by exact (Array.getElem?_eq_some_iff.1 HE7.out).1))
              have HS0 : Hid (w7.drew.cell? ⟨wr.heap.size, 0, none⟩ = some (.int .i64 (i : Int)) ∧ w7.drew.cell? ⟨wr.heap.size, 1, none⟩ = some (.int .i64 ac)) := Lib.hid ⟨cell_of_row _ _ 0 _ _ _ HE7.out, cell_of_row _ _ 1 _ _ _ HE7.out⟩
              have hlt7 := (Array.getElem?_eq_some_iff.1 HE7.out).1
              have HS1 : Hid ((w7.drew.alloc (.cells #[.int .i64 (k : Int), .int .i64 ac] 46)).cell? ⟨wr.heap.size, 0, none⟩ = some (.int .i64 (i : Int)) ∧ (w7.drew.alloc (.cells #[.int .i64 (k : Int), .int .i64 ac] 46)).cell? ⟨wr.heap.size, 1, none⟩ = some (.int .i64 ac)) := Lib.hid ⟨((below1 w7.drew _).cell (p := ⟨wr.heap.size, 0, none⟩) hlt7).trans HS0.out.1, ((below1 w7.drew _).cell (p := ⟨wr.heap.size, 1, none⟩) hlt7).trans HS0.out.2⟩
              have HS2 : Hid (w'.cell? ⟨wr.heap.size, 0, none⟩ = some (.int .i64 (i : Int)) ∧ w'.cell? ⟨wr.heap.size, 1, none⟩ = some (.int .i64 ac)) := Lib.hid ⟨cell_of_row _ _ 0 _ _ _ (hee.trans HE7.out), cell_of_row _ _ 1 _ _ _ (hee.trans HE7.out)⟩
              have hnes : wr.heap.size ≠ wc.heap.size := by have := HT.out.size; omega
              have HS3 : Hid ((w'.setCell ⟨wc.heap.size, i, none⟩ (.slice (some ⟨g', 0, none⟩) ((turnL (leadTo rows k ++ rowL n k (row.take z)) i).length + 1) cap')).cell? ⟨wr.heap.size, 0, none⟩ = some (.int .i64 (i : Int)) ∧ (w'.setCell ⟨wc.heap.size, i, none⟩ (.slice (some ⟨g', 0, none⟩) ((turnL (leadTo rows k ++ rowL n k (row.take z)) i).length + 1) cap')).cell? ⟨wr.heap.size, 1, none⟩ = some (.int .i64 ac)) := Lib.hid
                ⟨(World.cell?_of_block (Below.heap_setCell w' _ _ _ hnes)).trans HS2.out.1, (World.cell?_of_block (Below.heap_setCell w' _ _ _ hnes)).trans HS2.out.2⟩
              have HT8 : Hid (Turn (fun q => q = wc.heap.size) wd (w'.setCell ⟨wc.heap.size, i, none⟩ (.slice (some ⟨g', 0, none⟩) ((turnL (leadTo rows k ++ rowL n k (row.take z)) i).length + 1) cap'))) := Lib.hid ((HT7.out.then_below hbw).set _ _ rfl)
              have HOR8 : Hid (∃ vs, OR (w'.setCell ⟨wc.heap.size, i, none⟩ (.slice (some ⟨g', 0, none⟩) ((turnL (leadTo rows k ++ rowL n k (row.take z)) i).length + 1) cap')) wd.heap.size wc.heap.size n vs (turnL (leadTo rows k ++ rowL n k (row.take (z + 1))))) := Lib.hid (by
                rw [HST.out, if_pos rfl, ← List.append_assoc, show turnL ((leadTo rows k ++ rowL n k (row.take z)) ++ [(k, ((i : Int), ac))]) = fun j => if j = i then turnL (leadTo rows k ++ rowL n k (row.take z)) i ++ [((k : Int), ac)] else turnL (leadTo rows k ++ rowL n k (row.take z)) j from funext fun j => turnL_snoc _ k i ac j]
                exact ⟨_, horS⟩)
              rw [hv] at hr g6
              have hr := Lib.hid hr
              have HG6 := Lib.hid g6
              have HG7 := Lib.hid g7
              generalize (turnL (leadTo rows k ++ rowL n k (row.take z)) i).length = tl at *
              clear hor hord hne hpl g6 g7 hg horS hownb hbw hee hv
              go_upto_region 11 with (fail)
              refine wp_region_held_drew (S := (fun W => W.cell? ⟨wr.heap.size, 0, none⟩ = some (.int .i64 (i : Int)) ∧ W.cell? ⟨wr.heap.size, 1, none⟩ = some (.int .i64 ac))) (by kernel_rfl) HS0.out ?_
              intro hS0
              clear hS0
              simp only [Array.replicate, List.replicate]
              refine wpAnyH_take (i := 0) (oi := ⟨some 50, _, _, _, _, _⟩) (v := .slice (some ⟨wc.heap.size, 0, none⟩) n n) rfl (by kernel_rfl) (by kernel_rfl) (by kernel_rfl) (fun _ _ _ h => h) (Or.inl ⟨by kernel_rfl, fun w9 hS => ?_⟩) HS0.out ?_
              · clear hS
                go_simp
              try simp only [Act.put, List.setIfInBounds_toArray, List.set_cons_zero, List.set_cons_succ]
              refine wpAnyH_take (i := 1) (oi := ⟨some 51, _, _, _, _, _⟩) (v := .pointer (some ⟨wr.heap.size, 0, none⟩)) rfl (by kernel_rfl) (by kernel_rfl) (by kernel_rfl) (fun _ _ _ h => h) (Or.inl ⟨by kernel_rfl, fun w9 hS => ?_⟩) HS0.out ?_
              · clear hS
                go_simp
              try simp only [Act.put, List.setIfInBounds_toArray, List.set_cons_zero, List.set_cons_succ]
              refine wpAnyH_take (i := 2) (oi := ⟨some 52, _, _, _, _, _⟩) (v := .int .i64 (i : Int)) rfl (by kernel_rfl) (by kernel_rfl) (by kernel_rfl) (fun _ _ _ h => h) (Or.inl ⟨by kernel_rfl, fun w9 hS => ?_⟩) HS0.out ?_
              · obtain ⟨s0, s1⟩ := hS
                go_simp
              try simp only [Act.put, List.setIfInBounds_toArray, List.set_cons_zero, List.set_cons_succ]
              refine wpAnyH_take (i := 3) (oi := ⟨some 53, _, _, _, _, _⟩) (v := .slice (some ⟨wc.heap.size, 0, none⟩) n n) rfl (by kernel_rfl) (by kernel_rfl) (by kernel_rfl) (fun _ _ _ h => h) (Or.inl ⟨by kernel_rfl, fun w9 hS => ?_⟩) HS0.out ?_
              · clear hS
                go_simp
              try simp only [Act.put, List.setIfInBounds_toArray, List.set_cons_zero, List.set_cons_succ]
              refine wpAnyH_take (i := 4) (oi := ⟨some 54, _, _, _, _, _⟩) (v := .pointer (some ⟨wr.heap.size, 0, none⟩)) rfl (by kernel_rfl) (by kernel_rfl) (by kernel_rfl) (fun _ _ _ h => h) (Or.inl ⟨by kernel_rfl, fun w9 hS => ?_⟩) HS0.out ?_
              · clear hS
                go_simp
              try simp only [Act.put, List.setIfInBounds_toArray, List.set_cons_zero, List.set_cons_succ]
              refine wpAnyH_take (i := 5) (oi := ⟨some 55, _, _, _, _, _⟩) (v := .int .i64 (i : Int)) rfl (by kernel_rfl) (by kernel_rfl) (by kernel_rfl) (fun _ _ _ h => h) (Or.inl ⟨by kernel_rfl, fun w9 hS => ?_⟩) HS0.out ?_
              · obtain ⟨s0, s1⟩ := hS
                go_simp
              try simp only [Act.put, List.setIfInBounds_toArray, List.set_cons_zero, List.set_cons_succ]
              refine wpAnyH_take (i := 6) (oi := ⟨some 56, _, _, _, _, _⟩) (v := .pointer (some ⟨wc.heap.size, i, none⟩)) rfl (by kernel_rfl) (by kernel_rfl) (by kernel_rfl) (fun _ _ _ h => h) (Or.inl ⟨by kernel_rfl, fun w9 hS => ?_⟩) HS0.out ?_
              · clear hS
                go_simp
              try simp only [Act.put, List.setIfInBounds_toArray, List.set_cons_zero, List.set_cons_succ]
              refine wpAnyH_take (i := 8) (oi := ⟨some 58, _, _, _, _, _⟩) (v := .int .i64 (k : Int)) rfl (by kernel_rfl) (by kernel_rfl) (by kernel_rfl) (fun _ _ _ h => h) (Or.inl ⟨by kernel_rfl, fun w9 hS => ?_⟩) HS0.out ?_
              · clear hS
                go_simp
              try simp only [Act.put, List.setIfInBounds_toArray, List.set_cons_zero, List.set_cons_succ]
              refine wpAnyH_take (i := 9) (oi := ⟨some 59, _, _, _, _, _⟩) (v := .pointer (some ⟨wr.heap.size, 1, none⟩)) rfl (by kernel_rfl) (by kernel_rfl) (by kernel_rfl) (fun _ _ _ h => h) (Or.inl ⟨by kernel_rfl, fun w9 hS => ?_⟩) HS0.out ?_
              · clear hS
                go_simp
              try simp only [Act.put, List.setIfInBounds_toArray, List.set_cons_zero, List.set_cons_succ]
              refine wpAnyH_take (i := 10) (oi := ⟨some 60, _, _, _, _, _⟩) (v := .int .i64 ac) rfl (by kernel_rfl) (by kernel_rfl) (by kernel_rfl) (fun _ _ _ h => h) (Or.inl ⟨by kernel_rfl, fun w9 hS => ?_⟩) HS0.out ?_
              · obtain ⟨s0, s1⟩ := hS
                go_simp
              try simp only [Act.put, List.setIfInBounds_toArray, List.set_cons_zero, List.set_cons_succ]
              refine wpAnyH_take (i := 11) (oi := ⟨some 61, _, _, _, _, _⟩) (v := .agg #[.int .i64 (k : Int), .int .i64 ac]) rfl (by kernel_rfl) (by kernel_rfl) (by kernel_rfl) (fun _ _ _ h => h) (Or.inl ⟨by kernel_rfl, fun w9 hS => ?_⟩) HS0.out ?_
              · clear hS
                go_simp
              try simp only [Act.put, List.setIfInBounds_toArray, List.set_cons_zero, List.set_cons_succ]
              refine wpAnyH_ready (rs := [7, 12]) (by kernel_rfl) (by simp) ?_
              refine AllReadyH.cons (o := ⟨some 57, _, _, _, _, _⟩) rfl (fun K hK => ?_) (AllReadyH.cons (o := ⟨some 62, _, _, _, _, _⟩) rfl (fun K hK => ?_) AllReadyH.nil)
              · have g4 := HG4.out
                go_simp
                refine hK.out _ _ HS0.out (fun _ => ?_)
                clear hK K g4
                try simp only [Act.put, List.setIfInBounds_toArray, List.set_cons_zero, List.set_cons_succ]
                refine wpAnyH_ready (rs := [12]) (by kernel_rfl) (by simp) ?_
                refine AllReadyH.cons (o := ⟨some 62, _, _, _, _, _⟩) rfl (fun K hK => ?_) AllReadyH.nil
                go_simp
                refine hK.out _ _ HS1.out (fun _ => ?_)
                clear hK K
                try simp only [Act.put, List.setIfInBounds_toArray, List.set_cons_zero, List.set_cons_succ]
                refine wpAnyH_ready (rs := [13]) (by kernel_rfl) (by simp) ?_
                refine AllReadyH.cons (o := ⟨some 63, _, _, _, _, _⟩) rfl (fun K hK => ?_) AllReadyH.nil
                refine step_append_row (by rfl) (.tmp 57) (.tmp 62) (by rfl) (by rfl) (by rfl) (by rfl) hr.out ?_
                refine hK.out _ _ HS2.out (fun _ => ?_)
                clear hK K
                try simp only [Act.put, List.setIfInBounds_toArray, List.set_cons_zero, List.set_cons_succ]
                refine wpAnyH_take (i := 14) (oi := ⟨some 64, _, _, _, _, _⟩) (v := .pointer (some ⟨wc.heap.size, i, none⟩)) rfl (by kernel_rfl) (by kernel_rfl) (by kernel_rfl) (fun _ _ _ h => h) (Or.inl ⟨by kernel_rfl, fun w9 hS => ?_⟩) HS2.out ?_
                · clear hS
                  go_simp
                try simp only [Act.put, List.setIfInBounds_toArray, List.set_cons_zero, List.set_cons_succ]
                refine wpAnyH_ready (rs := [15]) (by kernel_rfl) (by simp) ?_
                refine AllReadyH.cons (o := ⟨none, _, _, _, _, _⟩) rfl (fun K hK => ?_) AllReadyH.nil
                have g6 := HG6.out
                have g7 := HG7.out
                go_simp
                refine hK.out _ _ HS3.out (fun _ => ?_)
                clear hK K g6 g7
                try simp only [Act.put, List.setIfInBounds_toArray, List.set_cons_zero, List.set_cons_succ]
                refine wpAnyH_done (by kernel_rfl) ?_ _
                go_wp2
                go_roundw
                case rel => exact ⟨z + 1, hlz, by go_num, HT8, HOR8⟩
                case measure => simp [intOf]; omega
              · go_simp
                refine hK.out _ _ HS1.out (fun _ => ?_)
                clear hK K
                try simp only [Act.put, List.setIfInBounds_toArray, List.set_cons_zero, List.set_cons_succ]
                refine wpAnyH_ready (rs := [7]) (by kernel_rfl) (by simp) ?_
                refine AllReadyH.cons (o := ⟨some 57, _, _, _, _, _⟩) rfl (fun K hK => ?_) AllReadyH.nil
                have g5 := HG5.out
                go_simp
                refine hK.out _ _ HS1.out (fun _ => ?_)
                clear hK K g5
                try simp only [Act.put, List.setIfInBounds_toArray, List.set_cons_zero, List.set_cons_succ]
                refine wpAnyH_ready (rs := [13]) (by kernel_rfl) (by simp) ?_
                refine AllReadyH.cons (o := ⟨some 63, _, _, _, _, _⟩) rfl (fun K hK => ?_) AllReadyH.nil
                refine step_append_row (by rfl) (.tmp 57) (.tmp 62) (by rfl) (by rfl) (by rfl) (by rfl) hr.out ?_
                refine hK.out _ _ HS2.out (fun _ => ?_)
                clear hK K
                try simp only [Act.put, List.setIfInBounds_toArray, List.set_cons_zero, List.set_cons_succ]
                refine wpAnyH_take (i := 14) (oi := ⟨some 64, _, _, _, _, _⟩) (v := .pointer (some ⟨wc.heap.size, i, none⟩)) rfl (by kernel_rfl) (by kernel_rfl) (by kernel_rfl) (fun _ _ _ h => h) (Or.inl ⟨by kernel_rfl, fun w9 hS => ?_⟩) HS2.out ?_
                · clear hS
                  go_simp
                try simp only [Act.put, List.setIfInBounds_toArray, List.set_cons_zero, List.set_cons_succ]
                refine wpAnyH_ready (rs := [15]) (by kernel_rfl) (by simp) ?_
                refine AllReadyH.cons (o := ⟨none, _, _, _, _, _⟩) rfl (fun K hK => ?_) AllReadyH.nil
                have g6 := HG6.out
                have g7 := HG7.out
                go_simp
                refine hK.out _ _ HS3.out (fun _ => ?_)
                clear hK K g6 g7
                try simp only [Act.put, List.setIfInBounds_toArray, List.set_cons_zero, List.set_cons_succ]
                refine wpAnyH_done (by kernel_rfl) ?_ _
                go_wp2
                go_roundw
                case rel => exact ⟨z + 1, hlz, by go_num, HT8, HOR8⟩
                case measure => simp [intOf]; omega
          · obtain rfl : z = rl := by omega
            have HOR2 : Hid (∃ vs, OR wr wd.heap.size wc.heap.size n vs (turnL (leadTo rows (k + 1)))) := Lib.hid (by
              obtain ⟨vs, h⟩ := HOR.out
              rw [List.take_of_length_le (by rw [HRL.out]; exact Nat.le_refl _)] at h
              rw [leadTo, HROWK.out, ← HN.out]
              exact ⟨vs, h⟩)
            go_wp2_with fail
            go_roundw
            case rel => exact ⟨k + 1, by omega, by go_num, HT, HOR2⟩
            case measure => simp [intOf]; omega
      · obtain rfl : n = k := by omega
        have hT := HKP.out wr HT.out
        have HZ : Hid (wr.heap[Z]? = some (.cells #[.slice D1 n1 d1, .slice none 0 0, .slice D3 n3 d3] 26 (0, 0))) := Lib.hid ((hT.1 Z (Array.getElem?_eq_some_iff.1 HAF.out.z).1).trans HAF.out.z)
        have HRR : Hid (wr.heap[w.heap.size + 1]? = some (.cells #[.slice none 0 0, .slice none 0 0, .slice none 0 0] 26 (0, 0))) := Lib.hid ((hT.1 _ (by omega)).trans ((HAF.out.below.block _ (by omega)).trans HR2.out))
        have HL1 : Hid (LAb .i64 wr D1 init) := Lib.hid (HAF.out.l1.keep (by omega) (fun a e => hT.1 _ (HAF.out.l1.2 a e)))
        have HL3 : Hid (LAb .u64 wr D3 labels) := Lib.hid (HAF.out.l3.keep (by omega) (fun a e => hT.1 _ (HAF.out.l3.2 a e)))
        have hZlt := (Array.getElem?_eq_some_iff.1 HAF.out.z).1
        have hZle := HAF.out.le
        have HBW : Hid (Below w.heap.size w wr) := Lib.hid (HBC.out.trans ((HBD.out.mono hwc).trans (HT.out.below (B := w.heap.size) (fun q hq => by omega) (by omega))))
        obtain ⟨vs, hor⟩ := HOR.out
        have HOR3 := Lib.hid hor
        obtain ⟨z0, z1, z2, fz⟩ := cells3 HZ.out
        have f1 := fz 1
        clear fz hT hor q0 q1 q2
        obtain ⟨q0, q1, q2⟩ := HVB.out wr HT.out
        go_upto_region 13 with (fail)
        clear z0 z1 z2 f1 q0 q1 q2
        have hz3 : (wr.setCell ⟨Z, 1, none⟩ (.slice (some ⟨wc.heap.size, 0, none⟩) n n)).heap[Z]? = some (.cells #[.slice D1 n1 d1, .slice (some ⟨wc.heap.size, 0, none⟩) n n, .slice D3 n3 d3] 26 (0, 0)) := by
          simp [World.setCell, Array.getElem?_modify, HZ.out]
        have hr3 : (wr.setCell ⟨Z, 1, none⟩ (.slice (some ⟨wc.heap.size, 0, none⟩) n n)).heap[w.heap.size + 1]? = _ := (Below.heap_setCell _ _ _ _ (by show w.heap.size + 1 ≠ Z; omega)).trans HRR.out
        have hl1' := HL1.out.keep (w' := wr.setCell ⟨Z, 1, none⟩ (.slice (some ⟨wc.heap.size, 0, none⟩) n n)) (by simp) (fun a e => Below.heap_setCell _ _ _ _ (HAF.out.m1 a e))
        have hl3' := HL3.out.keep (w' := wr.setCell ⟨Z, 1, none⟩ (.slice (some ⟨wc.heap.size, 0, none⟩) n n)) (by simp) (fun a e => Below.heap_setCell _ _ _ _ (HAF.out.m3 a e))
        have hor3 := HOR3.out.set ⟨Z, 1, none⟩ (.slice (some ⟨wc.heap.size, 0, none⟩) n n) (by show Z < wd.heap.size; omega) (by show Z ≠ wc.heap.size; omega)
        have hb3 : Below w.heap.size w (wr.setCell ⟨Z, 1, none⟩ (.slice (some ⟨wc.heap.size, 0, none⟩) n n)) := HBW.out.setCell (show w.heap.size ≤ (⟨Z, 1, none⟩ : Addr).block by show w.heap.size ≤ Z; omega) _
        generalize wr.setCell ⟨Z, 1, none⟩ (.slice (some ⟨wc.heap.size, 0, none⟩) n n) = wf at *
        have HL1F := Lib.hid hl1'
        have HL3F := Lib.hid hl3'
        have HORF := Lib.hid hor3
        have HBF := Lib.hid hb3
        obtain ⟨z0, z1, z2, _⟩ := cells3 hz3
        obtain ⟨r0, r1, r2, fr⟩ := cells3 hr3
        have f0 := fr 0
        have f1 := fr 1
        have f2 := fr 2
        clear fr hl1' hl3' hor3 hb3 hz3 hr3
        go_wp2
        (try simp only [Exit.inBlock, Exit.then])
        refine bodyPost_ret (v := .agg #[.slice D1 n1 d1, .slice (some ⟨wc.heap.size, 0, none⟩) n n, .slice D3 n3 d3]) ?_ rfl ⟨_, rfl, ⟨_, Nat.le_refl _, D1, d1, some ⟨wc.heap.size, 0, none⟩, n, D3, d3, ?_, ⟨?_, HAF.out.c1.2, laf_of (HL1F.out.set3 (Z := w.heap.size + 1) (fun a e => by have := HAF.out.b1 a e; omega) _ _ _).1 (fun a e => by have := HAF.out.b1 a e; omega)⟩, ⟨?_, ?_, ?_⟩, ⟨?_, HAF.out.c3.2, laf_of (HL3F.out.set3 (Z := w.heap.size + 1) (fun a e => by have := HAF.out.b3 a e; omega) _ _ _).1 (fun a e => by have := HAF.out.b3 a e; omega)⟩⟩, ((HBF.out.setCell (show w.heap.size ≤ (⟨w.heap.size + 1, 0, none⟩ : Addr).block from Nat.le_succ _) _).setCell (show w.heap.size ≤ (⟨w.heap.size + 1, 1, none⟩ : Addr).block from Nat.le_succ _) _).setCell (show w.heap.size ≤ (⟨w.heap.size + 1, 2, none⟩ : Addr).block from Nat.le_succ _) _⟩
        · rw [results_cell rfl]; go_simp
        · simp only [turnR_len, ← HM1.out, ← HM3.out, ← HN.out]
        · show init.length ≤ d1; rw [← HM1.out]; exact HAF.out.c1.1
        · show (turnR rows).length ≤ n; rw [turnR_len, ← HN.out]; exact Nat.le_refl _
        · unfold maxLen; omega
        · have h := (((HORF.out.set ⟨w.heap.size + 1, 0, none⟩ (.slice D1 n1 d1) (by show w.heap.size + 1 < wd.heap.size; omega) (by show w.heap.size + 1 ≠ wc.heap.size; omega)).set ⟨w.heap.size + 1, 1, none⟩ (.slice (some ⟨wc.heap.size, 0, none⟩) n n) (by show w.heap.size + 1 < wd.heap.size; omega) (by show w.heap.size + 1 ≠ wc.heap.size; omega)).set ⟨w.heap.size + 1, 2, none⟩ (.slice D3 n3 d3) (by show w.heap.size + 1 < wd.heap.size; omega) (by show w.heap.size + 1 ≠ wc.heap.size; omega)).raf (B := w.heap.size) (by omega) (by omega)
          rw [show (List.range n).map (turnL (leadTo rows n)) = turnR rows by unfold turnR; rw [← HN.out]] at h
          exact h
        · show labels.length ≤ d3; rw [← HM3.out]; exact HAF.out.c3.1

theorem refTurn_f {w : World} {v : Value} {G : Gr} (hv : GV w v G) (hn : G.rows.length ≤ 1000) (hrow : ∀ i, (G.rows.getD i []).length ≤ 1000) (hl1 : G.init.length ≤ 1000000) (hl3 : G.labels.length ≤ 1000000) : Calls Try.prog 28 #[v] w (GPF w (turnG G)) := by
  obtain ⟨A1, c1, A2, c2, A3, c3, rfl, ⟨a1, b1, d1⟩, ⟨a2, b2, d2⟩, ⟨a3, b3, d3⟩⟩ := hv
  exact refTurn_f' A1 A2 A3 _ _ _ c1 c2 c3 G.init G.labels G.rows w rfl rfl rfl d1 d2 d3 hl1 hn hrow hl3
end Go.Proofs.Ytjgifbcjokeigaa
