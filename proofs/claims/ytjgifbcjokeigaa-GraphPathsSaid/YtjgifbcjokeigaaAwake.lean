/- The laws' own example of graphs. -/
import Derived.Test.YtjgifbcjokeigaaSquare
namespace Go.Proofs.Ytjgifbcjokeigaa
open Go.ChangeShapes Go.WideShapes Go.ChangeAt Go.RowKit Go.Shelf

/-- A box of three cells. -/
def B3 (w : World) (b : Nat) (v0 v1 v2 : Value) : Prop := w.cell? ⟨b, 0, none⟩ = some v0 ∧ w.cell? ⟨b, 1, none⟩ = some v1 ∧ w.cell? ⟨b, 2, none⟩ = some v2
theorem B3.below {w w' : World} {b : Nat} {v0 v1 v2 : Value} (h : B3 w b v0 v1 v2) (k : Below w.heap.size w w') : B3 w' b v0 v1 v2 :=
  ⟨(k.cell (p := ⟨b, 0, none⟩) (lt_of_cell h.1)).trans h.1, (k.cell (p := ⟨b, 1, none⟩) (lt_of_cell h.1)).trans h.2.1, (k.cell (p := ⟨b, 2, none⟩) (lt_of_cell h.1)).trans h.2.2⟩
theorem bl_lit {w : World} {b : Nat} {t : TypeId} {cs : Array Value} {l : List Bool} (h : w.heap[b]? = some (.cells cs t (0, 0))) (hc : cs = (l.map Value.bool).toArray) : BL w (some ⟨b, 0, none⟩) l := fun hn => by
  refine ⟨b, 0, rfl, (Array.getElem?_eq_some_iff.1 h).1, fun i hi => ?_⟩
  subst hc
  simp [World.cell?, h, List.getD, hi]
theorem below1 (w : World) (o : Obj) : Below w.heap.size w (w.alloc o) := (Below.refl _ _).alloc (Nat.le_refl _) _
theorem below2 (w : World) (o o2 : Obj) : Below w.heap.size w ((w.alloc o).alloc o2) := (below1 w o).alloc (by simp) _

theorem square_rows : ∀ i, (squareG.rows.getD i []).length ≤ 1000 := fun i => by
  match i with
  | 0 => decide
  | 1 => decide
  | 2 => decide
  | 3 => decide
  | i + 4 => simp [squareG, List.getD]
def BoolP (b : Bool) (w : World) (e : Ending) (w' : World) : Prop := e = .returned (.bool b) ∧ Below w.heap.size w w'
set_option maxRecDepth 20000 in
set_option maxHeartbeats 4000000 in
theorem awake_any (w : World) : Calls Try.prog 16 #[] w (BoolP true w) := by
  go_enter Try.func16, Try.ntmps16
  go_wp2_with fail
  refine (square_any w).mono ?_
  rintro e w1 ⟨A1, c1, A2, c2, A3, c3, rfl, hg1, hb1⟩
  have HV : Hid (∀ W, Below w1.heap.size w1 W → GV W (.agg #[.slice A1 1 c1, .slice A2 4 c2, .slice A3 4 c3]) squareG) := Lib.hid (fun W h => hg1.below h)
  have HB1 := Lib.hid hb1
  clear hg1 hb1
  go_wp2_with fail
  -- Path
  have hbx : B3 (w1.alloc (.cells #[.slice A1 1 c1, .slice A2 4 c2, .slice A3 4 c3] 26)) w1.heap.size (.slice A1 1 c1) (.slice A2 4 c2) (.slice A3 4 c3) := box3 w1 _ _ _ _
  have hi := ia_lit (w1.alloc (.cells #[.slice A1 1 c1, .slice A2 4 c2, .slice A3 4 c3] 26)) [0] #[.int .i64 0] 3 rfl
  have hl := bl_lit (l := [false, false, false, true]) (World.alloc_heap_new ((w1.alloc (.cells #[.slice A1 1 c1, .slice A2 4 c2, .slice A3 4 c3] 26)).alloc (.cells #[.int .i64 0] 3)) (.cells #[.bool false, .bool false, .bool false, .bool true] 4)) rfl
  simp only [World.size_alloc] at hi hl
  refine (path_any (HV.out _ (((below1 w1 _).alloc (by simp) _).alloc (by simp <;> omega) _)) _ 1 1 [0] _ 4 4 [false, false, false, true] (by decide) square_rows rfl (by omega) (hi.alloc _) rfl (by decide) hl).mono ?_
  rw [square_path]
  rintro e w3 ⟨A4, c4, he3, hi4, _, _, hb3⟩
  have he3' : e = .returned (.tuple #[.slice A4 3 c4, .bool true]) := he3
  clear he3
  subst he3'
  have hW3 : Below w1.heap.size w1 w3 := (((below1 w1 _).alloc (by simp) _).alloc (by simp <;> omega) _).trans (hb3.mono (by simp <;> omega))
  have HBX : Hid (∀ W, Below w3.heap.size w3 W → B3 W w1.heap.size (.slice A1 1 c1) (.slice A2 4 c2) (.slice A3 4 c3)) := Lib.hid (fun W h => (((hbx.below (below2 _ _ _)).below hb3).below h))
  have HV3 : Hid (∀ W, Below w3.heap.size w3 W → GV W (.agg #[.slice A1 1 c1, .slice A2 4 c2, .slice A3 4 c3]) squareG) := Lib.hid (fun W h => HV.out W (hW3.trans (h.mono hW3.size)))
  have HI4 : Hid (∀ W, Below w3.heap.size w3 W → IA W A4 [0, 1, 3]) := Lib.hid (fun W h => hi4.below h)
  have HB3 : Hid (Below w.heap.size w w3) := Lib.hid (HB1.out.trans (hW3.mono HB1.out.size))
  generalize w1.heap.size = b1 at *
  clear hi hl hbx hb3 hW3 hi4 HV HB1
  obtain ⟨q0, q1, q2⟩ := HBX.out w3 (Below.refl _ _)
  go_wp2_with fail
  refine (total_any (HV3.out w3 (Below.refl _ _)) (by decide) (by decide) square_lead (by decide)).mono ?_
  rw [square_total]
  rintro e w4 ⟨v4, rfl, hg4, hb4⟩
  obtain ⟨T1, d1, T2, d2, T3, d3, hv4, k1, k2, k3⟩ := id hg4
  obtain ⟨bt, ot, rfl, hbt, hct⟩ := k2.2.2 (by decide)
  obtain ⟨A9, c9, hr9, _, _, hp9⟩ := hct 3 (by decide)
  obtain ⟨be, oe, rfl, hbe, hce⟩ := hp9 (by decide)
  obtain ⟨he1, he2⟩ := hce 0 (by decide)
  have hr9 : w4.cell? ⟨bt, ot + 3, none⟩ = some (.slice (some ⟨be, oe, none⟩) 1 c9) := hr9
  have he1 : w4.cell? ⟨be, oe, none⟩ = some (.int .i64 3) := he1
  have he2 : w4.cell? ⟨be, oe + 1, none⟩ = some (.int .i64 (-1)) := he2
  have hv5 : v4 = .agg #[.slice T1 1 d1, .slice (some ⟨bt, ot, none⟩) 4 d2, .slice T3 4 d3] := hv4
  clear hv4
  subst hv5
  have hg4 : GV w4 (.agg #[.slice T1 1 d1, .slice (some ⟨bt, ot, none⟩) 4 d2, .slice T3 4 d3]) (totG squareG) := by rw [square_total]; exact hg4
  clear k1 k2 k3 hct hce hp9
  have hbx5 : B3 (w4.alloc (.cells #[.slice T1 1 d1, .slice (some ⟨bt, ot, none⟩) 4 d2, .slice T3 4 d3] 26)) w4.heap.size (.slice T1 1 d1) (.slice (some ⟨bt, ot, none⟩) 4 d2) (.slice T3 4 d3) := box3 w4 _ _ _ _
  have hk5 := below1 w4 (.cells #[.slice T1 1 d1, .slice (some ⟨bt, ot, none⟩) 4 d2, .slice T3 4 d3] 26)
  have hW5 : Below w3.heap.size w3 (w4.alloc (.cells #[.slice T1 1 d1, .slice (some ⟨bt, ot, none⟩) 4 d2, .slice T3 4 d3] 26)) := hb4.trans (hk5.mono hb4.size)
  obtain ⟨q0, q1, q2⟩ := HBX.out _ hW5
  have HG5 := Lib.hid (hg4.below hk5)
  have HR9 := Lib.hid ((hk5.cell (p := ⟨bt, ot + 3, none⟩) hbt).trans hr9)
  have HE1 := Lib.hid ((hk5.cell (p := ⟨be, oe, none⟩) hbe).trans he1)
  have HE2 := Lib.hid ((hk5.cell (p := ⟨be, oe + 1, none⟩) hbe).trans he2)
  have HBT := Lib.hid (Nat.lt_of_lt_of_le hbt hk5.size)
  have HBE := Lib.hid (Nat.lt_of_lt_of_le hbe hk5.size)
  have HW5 := Lib.hid hW5
  have HB5 := Lib.hid hbx5
  clear hg4 hr9 he1 he2 hb4 hk5 hW5 hbx5 hbt hbe
  go_wp2_with fail
  generalize (w4.alloc (.cells #[.slice T1 1 d1, .slice (some ⟨bt, ot, none⟩) 4 d2, .slice T3 4 d3] 26)) = w5 at *
  generalize w4.heap.size = b4 at *
  have HX : Hid (∀ W, Below w5.heap.size w5 W → (B3 W b1 (.slice A1 1 c1) (.slice A2 4 c2) (.slice A3 4 c3) ∧ B3 W b4 (.slice T1 1 d1) (.slice (some ⟨bt, ot, none⟩) 4 d2) (.slice T3 4 d3)) ∧ W.cell? ⟨bt, ot + 3, none⟩ = some (.slice (some ⟨be, oe, none⟩) 1 c9) ∧ W.cell? ⟨be, oe, none⟩ = some (.int .i64 3) ∧ W.cell? ⟨be, oe + 1, none⟩ = some (.int .i64 (-1))) := Lib.hid (fun W h =>
    ⟨⟨HBX.out W (HW5.out.trans (h.mono HW5.out.size)), HB5.out.below h⟩, (h.cell (p := ⟨bt, ot + 3, none⟩) HBT.out).trans HR9.out, (h.cell (p := ⟨be, oe, none⟩) HBE.out).trans HE1.out, (h.cell (p := ⟨be, oe + 1, none⟩) HBE.out).trans HE2.out⟩)
  have HGV : Hid (∀ W, Below w5.heap.size w5 W → GV W (.agg #[.slice A1 1 c1, .slice A2 4 c2, .slice A3 4 c3]) squareG ∧ GV W (.agg #[.slice T1 1 d1, .slice (some ⟨bt, ot, none⟩) 4 d2, .slice T3 4 d3]) (totG squareG)) := Lib.hid (fun W h => ⟨HV3.out W (HW5.out.trans (h.mono HW5.out.size)), HG5.out.below h⟩)
  have HI5 : Hid (∀ W, Below w5.heap.size w5 W → IA W A4 [0, 1, 3]) := Lib.hid (fun W h => HI4.out W (HW5.out.trans (h.mono HW5.out.size)))
  have HBF : Hid (∀ W, Below w5.heap.size w5 W → Below w.heap.size w W) := Lib.hid (fun W h => HB3.out.trans ((HW5.out.trans (h.mono HW5.out.size)).mono HB3.out.size))
  clear q0 q1 q2
  refine (check_any (HGV.out w5 (Below.refl _ _)).1).mono ?_
  rw [square_chk]
  rintro e w6 ⟨rfl, hb6⟩
  have HW6 : Hid (Below w5.heap.size w5 w6) := Lib.hid (hb6)
  obtain ⟨⟨⟨q0, q1, q2⟩, ⟨p0, p1, p2⟩⟩, t0, t1, t2⟩ := HX.out w6 HW6.out
  go_wp2_with fail
  clear q0 q1 q2 p0 p1 p2 t0 t1 t2
  refine (check_any (G := ⟨[0], [], []⟩) ⟨_, 1, none, 0, none, 0, rfl, ⟨Nat.le_refl _, by unfold maxLen; omega, ia_lit w6 [0] #[.int .i64 0] 3 rfl⟩, ⟨Nat.le_refl _, Nat.zero_le _, fun h => absurd h (by decide)⟩, ⟨Nat.le_refl _, Nat.zero_le _, fun h => absurd h (by decide)⟩⟩).mono ?_
  rw [none_chk]
  rintro e w7 ⟨rfl, hb7⟩
  have HW7 : Hid (Below w5.heap.size w5 w7) := Lib.hid (HW6.out.trans (((below1 w6 _).trans (hb7.mono (by simp))).mono HW6.out.size))
  obtain ⟨⟨⟨q0, q1, q2⟩, ⟨p0, p1, p2⟩⟩, t0, t1, t2⟩ := HX.out w7 HW7.out
  go_wp2_with fail
  clear q0 q1 q2 p0 p1 p2 t0 t1 t2
  refine (lawInts_any A4 _ c4 3 3 3 [0, 1, 3] [0, 1, 3] _ rfl rfl ((HI5.out w7 HW7.out).alloc _) (ia_lit w7 [0, 1, 3] #[.int .i64 0, .int .i64 1, .int .i64 3] 3 rfl) (by decide) (by decide)).mono ?_
  rw [show eqB [0, 1, 3] [0, 1, 3] = true by decide]
  rintro e w8 ⟨rfl, j8, hj8⟩
  have HW8 : Hid (Below w5.heap.size w5 w8) := Lib.hid (by rw [hj8]; exact HW7.out.trans ((below_drewN (below1 w7 _) j8).mono HW7.out.size))
  obtain ⟨⟨⟨q0, q1, q2⟩, ⟨p0, p1, p2⟩⟩, t0, t1, t2⟩ := HX.out w8 HW8.out
  clear hj8
  go_wp2_with fail
  clear q0 q1 q2 p0 p1 p2 t0 t1 t2
  refine (reach_any (HGV.out _ (HW8.out.trans ((below1 w8 _).mono HW8.out.size))).1 _ 1 1 [2] (by decide) rfl (by omega) (ia_lit w8 [2] #[.int .i64 2] 3 rfl)).mono ?_
  rintro e w9 hm9
  obtain ⟨A9r, he9, hl9, hb9⟩ := hm9.bl
  rw [show squareG.rows.length = 4 from rfl] at he9 hl9
  rw [square_reach] at hl9
  subst he9
  have HW9 : Hid (Below w5.heap.size w5 w9) := Lib.hid (HW8.out.trans (((below1 w8 _).trans (hb9.mono (by simp))).mono HW8.out.size))
  obtain ⟨⟨⟨q0, q1, q2⟩, ⟨p0, p1, p2⟩⟩, t0, t1, t2⟩ := HX.out w9 HW9.out
  have HL9 := Lib.hid hl9
  clear hl9 hb9 hm9
  go_wp2_with fail
  clear q0 q1 q2 p0 p1 p2 t0 t1 t2
  refine (lawBools_any A9r _ 4 4 4 4 [false, false, true, true] [false, false, true, true] _ rfl rfl (HL9.out.below (below1 w9 _)) (bl_lit (World.alloc_heap_new w9 (.cells #[.bool false, .bool false, .bool true, .bool true] 4)) rfl) (by decide) (by decide)).mono ?_
  rw [show eqM [false, false, true, true] [false, false, true, true] = true by decide]
  rintro e w10 ⟨rfl, j10, hj10⟩
  have HW10 : Hid (Below w5.heap.size w5 w10) := Lib.hid (by rw [hj10]; exact HW9.out.trans ((below_drewN (below1 w9 _) j10).mono HW9.out.size))
  obtain ⟨⟨⟨q0, q1, q2⟩, ⟨p0, p1, p2⟩⟩, t0, t1, t2⟩ := HX.out w10 HW10.out
  clear hj10
  go_wp2_with fail
  clear q0 q1 q2 p0 p1 p2 t0 t1 t2
  refine (same_any (HGV.out w10 HW10.out).1 (HGV.out w10 HW10.out).1).mono ?_
  rw [square_same]
  rintro e w11 ⟨rfl, hb11⟩
  have HW11 : Hid (Below w5.heap.size w5 w11) := Lib.hid (HW10.out.trans (hb11.mono HW10.out.size))
  obtain ⟨⟨⟨q0, q1, q2⟩, ⟨p0, p1, p2⟩⟩, t0, t1, t2⟩ := HX.out w11 HW11.out
  go_wp2_with fail
  clear q0 q1 q2 p0 p1 p2 t0 t1 t2
  refine (same_any (HGV.out w11 HW11.out).1 (HGV.out w11 HW11.out).2).mono ?_
  rw [square_other]
  rintro e w12 ⟨rfl, hb12⟩
  have HW12 : Hid (Below w5.heap.size w5 w12) := Lib.hid (HW11.out.trans (hb12.mono HW11.out.size))
  clear hb12
  go_wp2_with fail
  go_ret
  exact ⟨rfl, HBF.out w12 HW12.out⟩
end Go.Proofs.Ytjgifbcjokeigaa
