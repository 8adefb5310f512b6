/- Contracts of package graph: Total. -/
import Derived.Test.YtnfiohekdbjgoaaTotalR
import Derived.Test.YtnfiohekdbjgoaaTurnG
namespace Go.Proofs.Ytnfiohekdbjgoaa
open Go.ChangeShapes Go.WideShapes Go.ChangeAt Go.RowKit Go.Shelf

attribute [local go_sem] Oper.semAt_some

/-- The edges that lead out of node j, as they are made total. -/
def totL (rows : List (List (Int × Int))) (k j : Nat) : List (Int × Int) := if j < k ∧ keepL (leadTo rows rows.length) j = [] then [((j : Int), (-1 : Int))] else keepL (leadTo rows rows.length) j
def totR (rows : List (List (Int × Int))) : List (List (Int × Int)) := (List.range rows.length).map (totL rows rows.length)
theorem totR_len (rows : List (List (Int × Int))) : (totR rows).length = rows.length := by simp [totR]
def totG (G : Gr) : Gr := ⟨G.init, totR G.rows, G.labels⟩

theorem totL_zero (rows : List (List (Int × Int))) : totL rows 0 = keepL (leadTo rows rows.length) := by
  funext j
  unfold totL
  rw [if_neg (by omega)]
theorem totL_step_nil {rows : List (List (Int × Int))} {k : Nat} (h : keepL (leadTo rows rows.length) k = []) : (fun j => if j = k then totL rows k k ++ [((k : Int), (-1 : Int))] else totL rows k j) = totL rows (k + 1) := by
  funext j
  unfold totL
  by_cases e : j = k
  · subst e
    rw [if_pos rfl, if_neg (by omega), h, if_pos ⟨by omega, rfl⟩]
    rfl
  · rw [if_neg e]
    by_cases h2 : j < k ∧ keepL (leadTo rows rows.length) j = []
    · rw [if_pos h2, if_pos ⟨by omega, h2.2⟩]
    · rw [if_neg h2, if_neg (fun h3 => h2 ⟨by omega, h3.2⟩)]
theorem totL_step_some {rows : List (List (Int × Int))} {k : Nat} (h : keepL (leadTo rows rows.length) k ≠ []) : totL rows k = totL rows (k + 1) := by
  funext j
  unfold totL
  by_cases e : j = k
  · subst e
    rw [if_neg (fun h3 => h h3.2), if_neg (fun h3 => h h3.2)]
  · by_cases h2 : j < k ∧ keepL (leadTo rows rows.length) j = []
    · rw [if_pos h2, if_pos ⟨by omega, h2.2⟩]
    · rw [if_neg h2, if_neg (fun h3 => h2 ⟨by omega, h3.2⟩)]
theorem totL_at (rows : List (List (Int × Int))) (k : Nat) : totL rows k k = keepL (leadTo rows rows.length) k := by
  unfold totL
  rw [if_neg (by omega)]

/-- What reads as a graph does so wherever its cells stay. -/
theorem LA.cells {k : IntKind} {w w' : World} {A : Option Addr} {l : List Int} (h : LA k w A l) (hz : w.heap.size ≤ w'.heap.size) (hc : ∀ p u, w.cell? p = some u → w'.cell? p = some u) : LA k w' A l := fun hn => by
  obtain ⟨b, off, e, hb, h1⟩ := h hn
  exact ⟨b, off, e, by omega, fun i hi => hc _ _ (h1 i hi)⟩
theorem PA.cells {w w' : World} {A : Option Addr} {l : List (Int × Int)} (h : PA w A l) (hz : w.heap.size ≤ w'.heap.size) (hc : ∀ p u, w.cell? p = some u → w'.cell? p = some u) : PA w' A l := fun hn => by
  obtain ⟨b, off, e, hb, h1⟩ := h hn
  exact ⟨b, off, e, by omega, fun i hi => ⟨hc _ _ (h1 i hi).1, hc _ _ (h1 i hi).2⟩⟩
theorem RA.cells {w w' : World} {A : Option Addr} {rows : List (List (Int × Int))} (h : RA w A rows) (hz : w.heap.size ≤ w'.heap.size) (hc : ∀ p u, w.cell? p = some u → w'.cell? p = some u) : RA w' A rows := fun hn => by
  obtain ⟨b, off, e, hb, h1⟩ := h hn
  refine ⟨b, off, e, by omega, fun i hi => ?_⟩
  obtain ⟨A', c', h2, h3, h4, h5⟩ := h1 i hi
  exact ⟨A', c', hc _ _ h2, h3, h4, h5.cells hz hc⟩
theorem GV.cells {w w' : World} {v : Value} {G : Gr} (h : GV w v G) (hz : w.heap.size ≤ w'.heap.size) (hc : ∀ p u, w.cell? p = some u → w'.cell? p = some u) : GV w' v G := by
  obtain ⟨A1, c1, A2, c2, A3, c3, e, ⟨a1, b1, d1⟩, ⟨a2, b2, d2⟩, ⟨a3, b3, d3⟩⟩ := h
  exact ⟨A1, c1, A2, c2, A3, c3, e, ⟨a1, b1, d1.cells hz hc⟩, ⟨a2, b2, d2.cells hz hc⟩, ⟨a3, b3, d3.cells hz hc⟩⟩
theorem cell_putObj {V : World} {D : Nat} {o o' : Obj} (h : V.heap[D]? = some o) (ho : o.isCells = false) {p : Addr} {u : Value} (hc : V.cell? p = some u) : (V.putObj D o').cell? p = some u := by
  have hne : p.block ≠ D := fun e => by
    unfold World.cell? at hc
    rw [e, h] at hc
    cases o <;> simp [Obj.isCells] at ho hc
  rw [World.cell?_of_block (w := V) (a := p) (World.putObj_heap_other hne)]
  exact hc

/-- What stands when Total leaves. -/
def TotE (w : World) (z : Nat) (v0 v1 v2 : Value) (G : Gr) (V : World) : Prop := (V.cell? ⟨z, 0, none⟩ = some v0 ∧ V.cell? ⟨z, 1, none⟩ = some v1 ∧ V.cell? ⟨z, 2, none⟩ = some v2) ∧ GV V (.agg #[v0, v1, v2]) G ∧ Below w.heap.size w V

set_option maxRecDepth 100000 in
set_option maxHeartbeats 8000000 in
theorem total_any' (A1 A2 A3 : Option Addr) (n1 n n3 c1 c c3 : Nat) (init labels : List Int) (rows : List (List (Int × Int))) (w : World) (h1 : n1 = init.length) (h2 : n = rows.length) (h3 : n3 = labels.length) (ha1 : LA .i64 w A1 init) (ha2 : RA w A2 rows) (ha3 : LA .u64 w A3 labels) (hl1 : init.length ≤ 1000000) (hl2 : n * 24 ≤ 140737488355328) (hlt : (leadTo rows n).length * 16 ≤ 140737488355328) (hl3 : labels.length ≤ 1000000) :
    Calls Try.prog 27 #[.agg #[.slice A1 n1 c1, .slice A2 n c, .slice A3 n3 c3]] w (GP w ⟨init, totR rows, labels⟩) := by
  obtain ⟨i0, hi, hz0, hz1, hz2⟩ := info_parts (show (Try.prog.info? 39).map (fun i => (i.zero, i.size, i.bytes)) = some (some (.slice none 0 0), 1, 24) by kernel_rfl)
  have hmk : ∀ W : World, (Instr.makeSlice 55 (.int .i64 (n : Int)) (.int .i64 (n : Int))).run Try.prog W = .ok (.slice (some ⟨W.heap.size, 0, none⟩) n n) (W.alloc (.cells (madeCells #[.slice none 0 0] n) 39)) := fun W => by
    have hr := run_make (P := Try.prog) W 55 39 i0 _ (by kernel_rfl) hi hz0 .i64 .i64 (n : Int) (n : Int) (by omega) (Int.le_refl _) (by rw [hz2]; omega) (by omega)
    rw [hr, hz1]
    rw [Int.toNat_natCast, Nat.mul_one]
    rfl
  have HM1 := Lib.hid h1
  have HN := Lib.hid h2
  have HM3 := Lib.hid h3
  have HL1 := Lib.hid hl1
  have HL3 := Lib.hid hl3
  have HT := Lib.hid hlt
  have HI1 := Lib.hid ha1
  have HI2 := Lib.hid ha2
  have HI3 := Lib.hid ha3
  clear hi hz0 hz1 hz2 h1 h2 h3 ha1 ha2 ha3 hl1 hlt hl3
  refine (callsIn_wide (n := 5)).1 ?_
  refine callsIn_of_wp_marks Try.func27 rfl trivial ?_ rfl
  simp only [Try.ntmps27, List.size_toArray, List.length_cons, List.length_nil, Nat.reduceAdd, Nat.reduceSub, Array.replicate_succ, Array.replicate_zero, List.push_toArray, List.append_toArray, List.nil_append, List.cons_append]
  gi_wp2_with fail
  refine ⟨trivial, ?_⟩
  refine (callsIn_wide.2 (leading_any A2 n c _)).mono ?_
  rintro e w2 ⟨rfl, rfl⟩
  gi_wp2_with fail
  clear hmk
  obtain ⟨ws, HWS⟩ : ∃ ws, ws = (w.alloc (.cells #[.slice A1 n1 c1, .slice A2 n c, .slice A3 n3 c3] 26)).alloc (.cells #[.slice none 0 0, .slice none 0 0, .slice none 0 0] 26) := ⟨_, rfl⟩
  rw [← HWS]
  have hws : w.heap.size + 1 + 1 = ws.heap.size := by rw [HWS]; simp
  rw [hws]
  have HB2 : Hid (Below w.heap.size w ws) := Lib.hid (by rw [HWS]; exact ((Below.refl _ _).alloc (Nat.le_refl _) _).alloc (by simp) _)
  have HV : Hid (∀ W : World, W.heap[w.heap.size]? = ws.heap[w.heap.size]? → W.cell? ⟨w.heap.size, 0, none⟩ = some (.slice A1 n1 c1) ∧ W.cell? ⟨w.heap.size, 1, none⟩ = some (.slice A2 n c) ∧ W.cell? ⟨w.heap.size, 2, none⟩ = some (.slice A3 n3 c3)) := Lib.hid (fun W hW => by
    obtain ⟨q0, q1, q2⟩ := box3 w (.slice A1 n1 c1) (.slice A2 n c) (.slice A3 n3 c3) 26
    have e : W.heap[w.heap.size]? = (w.alloc (.cells #[.slice A1 n1 c1, .slice A2 n c, .slice A3 n3 c3] 26)).heap[w.heap.size]? := hW.trans (by rw [HWS]; exact Below.heap_alloc _ _ _ (by simp))
    exact ⟨(World.cell?_of_block (a := ⟨w.heap.size, 0, none⟩) e).trans q0, (World.cell?_of_block (a := ⟨w.heap.size, 1, none⟩) e).trans q1, (World.cell?_of_block (a := ⟨w.heap.size, 2, none⟩) e).trans q2⟩)
  have HRZ : Hid (RZ3 ws (w.heap.size + 1)) := Lib.hid (by rw [HWS]; exact ⟨World.cell?_alloc_at _ _ _ _ (by simp), World.cell?_alloc_at _ _ _ _ (by simp), World.cell?_alloc_at _ _ _ _ (by simp), by simp, fun i => World.frozen?_alloc_at _ _ _ _ (by simp)⟩)
  clear HWS
  have HR : Hid (RA ws A2 rows) := Lib.hid (RA.below HI2.out HB2.out)
  have b2 := World.alloc_heap_new ((ws.alloc (.cells (madeCells #[.slice none 0 0] n) 39)).alloc (.cells #[.slice (some ⟨ws.heap.size, 0, none⟩) n n] 55)) (.cells #[.slice A2 n c] 55)
  have b1 : (((ws.alloc (.cells (madeCells #[.slice none 0 0] n) 39)).alloc (.cells #[.slice (some ⟨ws.heap.size, 0, none⟩) n n] 55)).alloc (.cells #[.slice A2 n c] 55)).heap[ws.heap.size + 1]? = some (.cells #[.slice (some ⟨ws.heap.size, 0, none⟩) n n] 55 (0, 0)) := by
    rw [Below.heap_alloc _ _ _ (by simp)]
    have h := World.alloc_heap_new (ws.alloc (.cells (madeCells #[.slice none 0 0] n) 39)) (.cells #[.slice (some ⟨ws.heap.size, 0, none⟩) n n] 55)
    simp only [World.size_alloc] at h
    exact h
  have b0 : (((ws.alloc (.cells (madeCells #[.slice none 0 0] n) 39)).alloc (.cells #[.slice (some ⟨ws.heap.size, 0, none⟩) n n] 55)).alloc (.cells #[.slice A2 n c] 55)).rowIs ws.heap.size 39 n (fun _ => .slice none 0 0) :=
    (World.rowIs_made ws (.slice none 0 0) n 39).of_block ((Below.heap_alloc _ _ _ (by simp; omega)).trans (Below.heap_alloc _ _ _ (by simp)))
  have bz : (((ws.alloc (.cells (madeCells #[.slice none 0 0] n) 39)).alloc (.cells #[.slice (some ⟨ws.heap.size, 0, none⟩) n n] 55)).alloc (.cells #[.slice A2 n c] 55)).heap.size = ws.heap.size + 3 := by simp
  have bB : Below ws.heap.size ws (((ws.alloc (.cells (madeCells #[.slice none 0 0] n) 39)).alloc (.cells #[.slice (some ⟨ws.heap.size, 0, none⟩) n n] 55)).alloc (.cells #[.slice A2 n c] 55)) := (((Below.refl _ ws).alloc (Nat.le_refl _) _).alloc (by simp) _).alloc (by simp; omega) _
  simp only [World.size_alloc] at b2
  generalize (((ws.alloc (.cells (madeCells #[.slice none 0 0] n) 39)).alloc (.cells #[.slice (some ⟨ws.heap.size, 0, none⟩) n n] 55)).alloc (.cells #[.slice A2 n c] 55)) = W0 at *
  obtain rfl := HN.out
  have hK : ∀ q, (q < ws.heap.size ∨ q = ws.heap.size + 1 + 1) → q < W0.heap.size := fun q hq => by omega
  have hst := leading_stops ws W0 (ws.heap.size + 1 + 1) c A2 rows HR.out (by omega) bB.size (fun q hq => bB.block q hq) b2
  have HW0 := Lib.hid bB
  have hzz : ws.heap.size ≤ W0.heap.size := by omega
  refine wpIn_rangeFunc_ownH (F := Fence.wide) (n := 5) rfl (by omega) (gf := 81) (lb := #[.pointer (some ⟨ws.heap.size + 1 + 1, 0, none⟩)]) rfl trivial (enters_of Try.func81 (by kernel_rfl) rfl)
    hst KS.trans (KS.back hK) (Below.refl _ _) (fun _ => rfl) (KJ ws rows.length ws.heap.size) (fun _ _ _ => False) (KJ.own ws rows.length ws.heap.size _ hzz) (fun _ _ _ _ _ hs _ _ => hs) ?h0
    (KX rows.length ws.heap.size #[.agg #[.slice A1 n1 c1, .slice A2 rows.length c, .slice A3 n3 c3], .pointer (some ⟨w.heap.size, 0, none⟩), .pointer (some ⟨w.heap.size + 1, 0, none⟩), .slice A2 rows.length c, .pointer (some ⟨ws.heap.size + 1, 0, none⟩), undef, undef, undef, .pointer (some ⟨w.heap.size, 1, none⟩), .slice A2 rows.length c, .slice A2 rows.length c, .int .i64 rows.length, .slice (some ⟨ws.heap.size, 0, none⟩) rows.length rows.length, .slice A2 rows.length c, .func (.func 81) #[] #[.pointer (some ⟨ws.heap.size + 1 + 1, 0, none⟩)], undef, undef, undef, undef, undef, undef, undef, undef, undef, undef, undef, undef, undef, undef, undef, undef, undef, undef, undef, undef, undef, undef, undef, undef, undef, undef, undef, undef, undef, undef, undef, undef, undef]) (KX.own _ _ _ _) ?assign ?body ?done ?stop
  case h0 =>
    refine ⟨fun _ => .slice none 0 0, ⟨b0, fun i _ => World.ownsRow_nil _ _ _ _, fun i _ j _ _ => .inl rfl, by omega⟩, b1, bB, by omega⟩
  case assign =>
    rintro l' pre x W K hJ hK2
    have HJ := Lib.hid hJ
    have HK2 := Lib.hid hK2
    clear hJ hK2 hst b0 b1 b2 hK
    obtain ⟨⟨a, to, ac⟩, his, hal⟩ := x
    unfold encL encE
    gi_wp2
    obtain ⟨vs, h1, h2, h3, h4⟩ := HJ.out
    have h3z := h3.size
    refine HK2.out _ _ (KeepsFrom.of_grownBy (World.grownBy_alloc W _ none) (fun j e => by cases e)) (fun q hq => Below.heap_alloc _ _ _ (by omega)) ((KJ.own ws rows.length ws.heap.size _ hzz).alloc _ HJ.out)
      ⟨W.heap.size, h4, World.alloc_heap_new _ _, ⟨vs, h1.tab.of_block (Below.heap_alloc _ _ _ h1.tab.lt), fun j hj e => by have := ((h1.own j hj).lt _ e).2; omega⟩, rfl⟩
  case body =>
    rintro l' pre x a' W hl hrec ⟨vs, hor, hbx, hbel, hsz⟩ ⟨e, he, hc, ⟨f, hf, hj⟩, rfl⟩ hlen
    obtain ⟨⟨i, to, ac⟩, his, hin⟩ := x
    have his : nodeB rows.length to = true := his
    have hin : i < rows.length := hin
    have g1 := (cell_of_box_l hbx).1
    have g2 : W.cell? ⟨e, 0, none⟩ = some (.int .i64 to) := cell_of_row _ _ 0 _ _ _ hc
    have g3 : W.cell? ⟨e, 1, none⟩ = some (.int .i64 ac) := cell_of_row _ _ 1 _ _ _ hc
    simp only [List.setIfInBounds_toArray, List.set_cons_zero, List.set_cons_succ]
    refine wpIn_block ?_
    refine wpIn_region_held (fun w' => w'.cell? ⟨ws.heap.size + 1, 0, none⟩ = some (.slice (some ⟨ws.heap.size, 0, none⟩) rows.length rows.length) ∧ w'.cell? ⟨e, 0, none⟩ = some (.int .i64 to) ∧ w'.cell? ⟨e, 1, none⟩ = some (.int .i64 ac)) (by kernel_rfl) (by kernel_rfl) (fun _ _ h => h) ?_
    have hS0 : W.drew.cell? ⟨ws.heap.size + 1, 0, none⟩ = some (.slice (some ⟨ws.heap.size, 0, none⟩) rows.length rows.length) ∧ W.drew.cell? ⟨e, 0, none⟩ = some (.int .i64 to) ∧ W.drew.cell? ⟨e, 1, none⟩ = some (.int .i64 ac) := ⟨g1, g2, g3⟩
    refine wpAnyH_take (i := 0) (v := .slice (some ⟨ws.heap.size, 0, none⟩) rows.length rows.length) rfl (by kernel_rfl) (by kernel_rfl) (by kernel_rfl) (fun _ _ _ h => h) (Or.inl ⟨by rfl, fun w2 hS => ?_⟩) hS0 ?_
    · obtain ⟨s1, s2, s3⟩ := hS
      go_simp
    try simp only [Act.put, List.setIfInBounds_toArray, List.set_cons_zero, List.set_cons_succ]
    refine wpAnyH_take (i := 1) (v := .int .i64 (i : Int)) rfl (by kernel_rfl) (by kernel_rfl) (by kernel_rfl) (fun _ _ _ h => h) (Or.inl ⟨by rfl, fun w2 hS => ?_⟩) hS0 ?_
    · obtain ⟨s1, s2, s3⟩ := hS
      go_simp
    try simp only [Act.put, List.setIfInBounds_toArray, List.set_cons_zero, List.set_cons_succ]
    refine wpAnyH_take (i := 2) (v := .slice (some ⟨ws.heap.size, 0, none⟩) rows.length rows.length) rfl (by kernel_rfl) (by kernel_rfl) (by kernel_rfl) (fun _ _ _ h => h) (Or.inl ⟨by rfl, fun w2 hS => ?_⟩) hS0 ?_
    · obtain ⟨s1, s2, s3⟩ := hS
      go_simp
    try simp only [Act.put, List.setIfInBounds_toArray, List.set_cons_zero, List.set_cons_succ]
    refine wpAnyH_take (i := 3) (v := .int .i64 (i : Int)) rfl (by kernel_rfl) (by kernel_rfl) (by kernel_rfl) (fun _ _ _ h => h) (Or.inl ⟨by rfl, fun w2 hS => ?_⟩) hS0 ?_
    · obtain ⟨s1, s2, s3⟩ := hS
      go_simp
    try simp only [Act.put, List.setIfInBounds_toArray, List.set_cons_zero, List.set_cons_succ]
    refine wpAnyH_take (i := 4) (v := .pointer (some ⟨ws.heap.size, i, none⟩)) rfl (by kernel_rfl) (by kernel_rfl) (by kernel_rfl) (fun _ _ _ h => h) (Or.inl ⟨by rfl, fun w2 hS => ?_⟩) hS0 ?_
    · obtain ⟨s1, s2, s3⟩ := hS
      go_simp
    try simp only [Act.put, List.setIfInBounds_toArray, List.set_cons_zero, List.set_cons_succ]
    refine wpAnyH_take (i := 6) (v := .agg #[.int .i64 to, .int .i64 ac]) rfl (by kernel_rfl) (by kernel_rfl) (by kernel_rfl) (fun _ _ _ h => h) (Or.inl ⟨by rfl, fun w2 hS => ?_⟩) hS0 ?_
    · obtain ⟨s1, s2, s3⟩ := hS
      go_simp
    try simp only [Act.put, List.setIfInBounds_toArray, List.set_cons_zero, List.set_cons_succ]
    have g4 : W.drew.cell? ⟨ws.heap.size, i, none⟩ = some (vs i) := hor.tab.cell hin
    have hfv : f i = vs i := by
      have h := hf.cell hin
      rw [show W.cell? ⟨ws.heap.size, i, none⟩ = some (vs i) from hor.tab.cell hin] at h
      exact (Option.some.inj h).symm
    obtain ⟨A', l2, c2, hv⟩ : ∃ A' l2 c2, vs i = .slice A' l2 c2 := by
      rcases (hor.own i hin).2 with ⟨h, _⟩ | ⟨g, cap, cur, h, _⟩
      · exact ⟨_, _, _, h⟩
      · exact ⟨_, _, _, h⟩
    rw [hv] at g4
    have hWz : ∀ q v, W.cell? q = some v → (W.drew.alloc (.cells #[.int .i64 to, .int .i64 ac] 46)).cell? q = some v := fun q v h => ((Below.refl W.drew.heap.size W.drew).alloc (Nat.le_refl _) _).cell (p := q) (lt_of_cell' h) |>.trans h
    have hS1 : (W.drew.alloc (.cells #[.int .i64 to, .int .i64 ac] 46)).cell? ⟨ws.heap.size + 1, 0, none⟩ = some (.slice (some ⟨ws.heap.size, 0, none⟩) rows.length rows.length) ∧ (W.drew.alloc (.cells #[.int .i64 to, .int .i64 ac] 46)).cell? ⟨e, 0, none⟩ = some (.int .i64 to) ∧ (W.drew.alloc (.cells #[.int .i64 to, .int .i64 ac] 46)).cell? ⟨e, 1, none⟩ = some (.int .i64 ac) := ⟨hWz _ _ g1, hWz _ _ g2, hWz _ _ g3⟩
    have g5 := hWz _ _ g4
    have g5b : (W.alloc (.cells #[.int .i64 to, .int .i64 ac] 46)).cell? ⟨ws.heap.size, i, none⟩ = some (.slice A' l2 c2) := g5
    have hne2 : some e ≠ (vs i).ownBlock := fun e1 => hj i hin (by rw [hfv]; exact e1.symm)
    obtain ⟨g', cap', w', hr, hS2, g6, g7, hS3, k1, k2, k3⟩ := total_round ws W rows.length i e W0.heap.size to ac _ pre his hin vs hor hbx hbel hsz he hne2 hlen HT.out hS1
    rw [hv] at hr g6
    have hr := Lib.hid hr
    have HF := Lib.hid (And.intro k1 (And.intro k2 k3))
    clear k1 k2 k3 hor hbx hbel hne2 hfv hf hj
    refine wpAnyH_ready (rs := [5, 7]) (by kernel_rfl) (by simp) ?_
    refine AllReadyH.cons (o := _) rfl (fun K hK => ?_) (AllReadyH.cons (o := _) rfl (fun K hK => ?_) AllReadyH.nil)
    · go_simp
      refine hK.out _ _ hS0 (fun _ => ?_)
      clear hK K
      try simp only [Act.put, List.setIfInBounds_toArray, List.set_cons_zero, List.set_cons_succ]
      refine wpAnyH_ready (rs := [7]) (by kernel_rfl) (by simp) ?_
      refine AllReadyH.cons (o := _) rfl (fun K hK => ?_) AllReadyH.nil
      go_simp
      refine hK.out _ _ hS1 (fun _ => ?_)
      clear hK K
      refine wpAnyH_ready (rs := [8]) (by kernel_rfl) (by simp) ?_
      refine AllReadyH.cons (o := _) rfl (fun K hK => ?_) AllReadyH.nil
      refine step_append_row (by rfl) (.tmp 22) (.tmp 24) (by rfl) (by rfl) (by rfl) (by rfl) hr.out ?_
      refine hK.out _ _ hS2 (fun _ => ?_)
      clear hK K
      try simp only [Act.put, List.setIfInBounds_toArray, List.set_cons_zero, List.set_cons_succ]
      refine wpAnyH_take (i := 9) (v := .pointer (some ⟨ws.heap.size, i, none⟩)) rfl (by kernel_rfl) (by kernel_rfl) (by kernel_rfl) (fun _ _ _ h => h) (Or.inl ⟨by rfl, fun w2 hS => ?_⟩) hS2 ?_
      · obtain ⟨s1, s2, s3⟩ := hS
        go_simp
      try simp only [Act.put, List.setIfInBounds_toArray, List.set_cons_zero, List.set_cons_succ]
      refine wpAnyH_ready (rs := [10]) (by kernel_rfl) (by simp) ?_
      refine AllReadyH.cons (o := _) rfl (fun K hK => ?_) AllReadyH.nil
      go_simp
      refine hK.out _ _ hS3 (fun _ => ?_)
      clear hK K
      exact wpAnyH_done (by kernel_rfl) HF.out _
    · go_simp
      refine hK.out _ _ hS1 (fun _ => ?_)
      clear hK K
      try simp only [Act.put, List.setIfInBounds_toArray, List.set_cons_zero, List.set_cons_succ]
      refine wpAnyH_ready (rs := [5]) (by kernel_rfl) (by simp) ?_
      refine AllReadyH.cons (o := _) rfl (fun K hK => ?_) AllReadyH.nil
      go_simp
      refine hK.out _ _ hS1 (fun _ => ?_)
      clear hK K
      refine wpAnyH_ready (rs := [8]) (by kernel_rfl) (by simp) ?_
      refine AllReadyH.cons (o := _) rfl (fun K hK => ?_) AllReadyH.nil
      refine step_append_row (by rfl) (.tmp 22) (.tmp 24) (by rfl) (by rfl) (by rfl) (by rfl) hr.out ?_
      refine hK.out _ _ hS2 (fun _ => ?_)
      clear hK K
      try simp only [Act.put, List.setIfInBounds_toArray, List.set_cons_zero, List.set_cons_succ]
      refine wpAnyH_take (i := 9) (v := .pointer (some ⟨ws.heap.size, i, none⟩)) rfl (by kernel_rfl) (by kernel_rfl) (by kernel_rfl) (fun _ _ _ h => h) (Or.inl ⟨by rfl, fun w2 hS => ?_⟩) hS2 ?_
      · obtain ⟨s1, s2, s3⟩ := hS
        go_simp
      try simp only [Act.put, List.setIfInBounds_toArray, List.set_cons_zero, List.set_cons_succ]
      refine wpAnyH_ready (rs := [10]) (by kernel_rfl) (by simp) ?_
      refine AllReadyH.cons (o := _) rfl (fun K hK => ?_) AllReadyH.nil
      go_simp
      refine hK.out _ _ hS3 (fun _ => ?_)
      clear hK K
      exact wpAnyH_done (by kernel_rfl) HF.out _
  case done =>
    rintro D ys W hD hS hJ hDW
    obtain ⟨vs, h1, h2, h3, h4⟩ := hJ
    have HS := Lib.hid hS
    rw [HS.out] at h1
    have g1 := (cell_of_box_l h2).1
    have H1 := Lib.hid h1
    have H2 := Lib.hid h2
    have H3 := Lib.hid h3
    have HD := Lib.hid hDW
    clear h1 h2 h3 hS hDW hst b0 b1 b2 hK
    have H1 : Hid (OR W (ws.heap.size + 3) ws.heap.size rows.length vs (totL rows 0)) := Lib.hid (by rw [totL_zero]; exact H1.out)
    have hDlt : w.heap.size ≤ D := by have := HB2.out.size; omega
    gi_wp2_with fail
    gi_loopw [29] (fun i wr => ∃ (k : Nat) (vs' : Nat → Value), k ≤ rows.length ∧ i = .int .i64 k ∧ Hid (OR wr (ws.heap.size + 3) ws.heap.size rows.length vs' (totL rows k)) ∧ Hid (wr.heap[ws.heap.size + 1]? = some (.cells #[.slice (some ⟨ws.heap.size, 0, none⟩) rows.length rows.length] 55 (0, 0))) ∧ Hid (Below ws.heap.size ws wr) ∧ Hid (wr.heap[D]? = some (.deferred (some []))) ∧ ws.heap.size + 3 ≤ wr.heap.size) (fun i _ => rows.length - (intOf i).toNat)
    case atStart => exact ⟨0, vs, Nat.zero_le _, rfl, H1, H2, H3, HD, h4⟩
    case round =>
      clear H1 H2 H3 HD h4 g1
      obtain ⟨k, vs', hk, rfl, H1, H2, H3, HD, h4⟩ := hrel
      have g1 := (cell_of_box_l H2.out).1
      by_cases hlt : k < rows.length
      · obtain ⟨A', c', e1, q1, q2, _⟩ := pa_of_own (H1.out.own k hlt)
        have c1 : wr.cell? ⟨ws.heap.size, k, none⟩ = some (.slice A' (totL rows k k).length c') := by rw [H1.out.tab.cell hlt, e1]
        have f1 := H1.out.tab.frozen k
        have hkz : (k : Int) < (rows.length : Int) := by omega
        have HL : Hid (totL rows k k = keepL (leadTo rows rows.length) k) := Lib.hid (totL_at rows k)
        clear e1 q1 q2
        by_cases hnil : keepL (leadTo rows rows.length) k = []
        · have HE := Lib.hid (totL_step_nil hnil)
          rw [show (totL rows k k).length = 0 by rw [HL.out, hnil]; rfl] at c1
          have HE0 : Hid (totL rows k k = []) := Lib.hid (by rw [HL.out, hnil])
          have hq1 : ws.heap.size < wr.heap.size := by omega
          have hq2 : ¬ ws.heap.size = wr.heap.size := by omega
          have c1b : (wr.alloc (.cells #[.int .i64 (k : Int), .int .i64 (-1)] 46)).cell? ⟨ws.heap.size, k, none⟩ = some (.slice A' 0 c') := by rw [((Below.refl wr.heap.size wr).alloc (Nat.le_refl _) _).cell (p := ⟨ws.heap.size, k, none⟩) hq1]; exact c1
          have f1b : (wr.alloc (.cells #[.int .i64 (k : Int), .int .i64 (-1)] 46)).frozen? ⟨ws.heap.size, k, none⟩ = false := by rw [((Below.refl wr.heap.size wr).alloc (Nat.le_refl _) _).frozen (p := ⟨ws.heap.size, k, none⟩) hq1]; exact f1
          clear hnil
          gi_wp2
          have hw9 : ((wr.alloc (.cells #[.int .i64 (k : Int), .int .i64 (-1)] 46)).setCell ⟨ws.heap.size, k, none⟩ (.slice (some ⟨wr.heap.size, 0, none⟩) 1 1)).heap.size = wr.heap.size + 1 := by simp
          have hblk : ∀ q, q < wr.heap.size → q ≠ ws.heap.size → ((wr.alloc (.cells #[.int .i64 (k : Int), .int .i64 (-1)] 46)).setCell ⟨ws.heap.size, k, none⟩ (.slice (some ⟨wr.heap.size, 0, none⟩) 1 1)).heap[q]? = wr.heap[q]? := fun q hq hne => (Below.heap_setCell _ ⟨ws.heap.size, k, none⟩ _ _ hne).trans (Below.heap_alloc _ _ _ hq)
          have HO9 := H1.out.step hlt (w' := wr.alloc (.cells #[.int .i64 (k : Int), .int .i64 (-1)] 46)) (v' := .slice (some ⟨wr.heap.size, 0, none⟩) 1 1) (x := ((k : Int), (-1 : Int))) (by
            rw [HE0.out]
            exact ⟨rfl, .inr ⟨wr.heap.size, 1, #[.int .i64 (k : Int), .int .i64 (-1)], rfl, h4, World.alloc_heap_new wr _, Nat.le_refl _, by unfold maxLen; omega, rfl, rfl⟩⟩) (World.grownBy_alloc wr _ _) (.inr rfl)
          rw [HE.out] at HO9
          have HDne : D ≠ ws.heap.size := fun e => by
            obtain ⟨cs, h5, _⟩ := H1.out.tab
            have h6 := HD.out
            rw [e, h5] at h6
            cases h6
          have HDlt := (Array.getElem?_eq_some_iff.1 HD.out).1
          have HO9 := Lib.hid HO9
          have HB9 : Hid (((wr.alloc (.cells #[.int .i64 (k : Int), .int .i64 (-1)] 46)).setCell ⟨ws.heap.size, k, none⟩ (.slice (some ⟨wr.heap.size, 0, none⟩) 1 1)).heap[ws.heap.size + 1]? = some (.cells #[.slice (some ⟨ws.heap.size, 0, none⟩) rows.length rows.length] 55 (0, 0))) := Lib.hid ((hblk _ (by omega) (by omega)).trans H2.out)
          have HD9 : Hid (((wr.alloc (.cells #[.int .i64 (k : Int), .int .i64 (-1)] 46)).setCell ⟨ws.heap.size, k, none⟩ (.slice (some ⟨wr.heap.size, 0, none⟩) 1 1)).heap[D]? = some (.deferred (some []))) := Lib.hid ((hblk _ HDlt HDne).trans HD.out)
          have HW9 : Hid (Below ws.heap.size ws ((wr.alloc (.cells #[.int .i64 (k : Int), .int .i64 (-1)] 46)).setCell ⟨ws.heap.size, k, none⟩ (.slice (some ⟨wr.heap.size, 0, none⟩) 1 1))) := Lib.hid ((H3.out.alloc H3.out.size _).setCell (Nat.le_refl _) _)
          clear hblk
          have hcm : (wr.alloc (.cells #[.int .i64 (k : Int), .int .i64 (-1)] 46)).setCell ⟨ws.heap.size, k, none⟩ (.slice (some ⟨wr.heap.size, 0, none⟩) 1 1) = (wr.setCell ⟨ws.heap.size, k, none⟩ (.slice (some ⟨wr.heap.size, 0, none⟩) 1 1)).alloc (.cells #[.int .i64 (k : Int), .int .i64 (-1)] 46) := World.setCell_alloc_past _ _ _ _ hq1
          rw [hcm] at HO9 HB9 HW9 HD9 hw9
          go_roundw
          case rel => exact ⟨k + 1, _, by omega, by go_num, HO9, HB9, HW9, HD9, by omega⟩
          case measure => simp [intOf]; omega
        · have HE := Lib.hid (totL_step_some hnil)
          have hpos : 0 < (totL rows k k).length := by rw [HL.out]; exact List.length_pos_iff.2 hnil
          generalize (totL rows k k).length = m' at c1 hpos
          have t1 : ((m' : Int) == 0) = false := by simp; omega
          clear hnil hpos
          gi_wp2
          go_roundw
          case rel => exact ⟨k + 1, vs', by omega, by go_num, by rw [← HE.out]; exact H1, H2, H3, HD, h4⟩
          case measure => simp [intOf]; omega
      · obtain rfl : k = rows.length := by omega
        obtain ⟨s0, s1, s2⟩ := HV.out wr (H3.out.block _ (by omega))
        have HRZ9 := HRZ.out.below H3.out
        have z0 := HRZ9.1
        have z1 := HRZ9.2.1
        have z2 := HRZ9.2.2.1
        have f0 := HRZ9.2.2.2.2 0
        have f1 := HRZ9.2.2.2.2 1
        have f2 := HRZ9.2.2.2.2 2
        have HRZ9 := Lib.hid HRZ9
        have HB9 : Hid (Below w.heap.size w wr) := Lib.hid (HB2.out.trans (H3.out.mono HB2.out.size))
        gi_wp2_with fail
        refine ⟨trivial, ?_⟩
        refine (callsIn_wide.2 (with_any A1 A2 A3 c1 rows.length c c3 n1 n3 init labels _ rows.length rows.length wr HM1.out HM3.out (LA.below HI1.out HB9.out) (LA.below HI3.out HB9.out) HL1.out HL3.out)).mono ?_
        rintro e v4 ⟨D1, d1, D3, d3, rfl, h41, h43, hb4, hg1, hg3⟩
        rw [← HM1.out, ← HM3.out]
        rw [← HM1.out] at h41
        rw [← HM3.out] at h43
        have H41 := Lib.hid h41
        have H43 := Lib.hid h43
        have HG1 : Hid (∀ a, D1 = some a → a.block ≠ w.heap.size + 1) := Lib.hid (fun a e => by have := hg1 a e; omega)
        have HG3 : Hid (∀ a, D3 = some a → a.block ≠ w.heap.size + 1) := Lib.hid (fun a e => by have := hg3 a e; omega)
        have HOR4 := Lib.hid (H1.out.below hb4)
        have HZZ := Lib.hid (HRZ9.out.below hb4)
        have z0 := HZZ.out.1
        have z1 := HZZ.out.2.1
        have z2 := HZZ.out.2.2.1
        have f0 := HZZ.out.2.2.2.2 0
        have f1 := HZZ.out.2.2.2.2 1
        have f2 := HZZ.out.2.2.2.2 2
        have HFIN : Hid (Below w.heap.size w v4) := Lib.hid (HB9.out.trans (hb4.mono HB9.out.size))
        have HD4 : Hid (v4.heap[D]? = some (.deferred (some []))) := Lib.hid ((hb4.block D (Array.getElem?_eq_some_iff.1 HD.out).1).trans HD.out)
        clear hb4 hg1 hg3 h41 h43
        gi_wp2
        have hzt : w.heap.size + 1 < ws.heap.size + 3 := by omega
        have hzn : w.heap.size + 1 ≠ ws.heap.size := by omega
        have HOR5 := ((HOR4.out.set ⟨w.heap.size + 1, 0, none⟩ (.slice D1 n1 d1) hzt hzn).set ⟨w.heap.size + 1, 1, none⟩ (.slice (some ⟨ws.heap.size, 0, none⟩) rows.length rows.length) hzt hzn).set ⟨w.heap.size + 1, 2, none⟩ (.slice D3 n3 d3) hzt hzn
        have HA5 := LA.set3 (z := w.heap.size + 1) H41.out.2.2 (fun _ => HG1.out) (.slice D1 n1 d1) (.slice (some ⟨ws.heap.size, 0, none⟩) rows.length rows.length) (.slice D3 n3 d3)
        have HA6 := LA.set3 (z := w.heap.size + 1) H43.out.2.2 (fun _ => HG3.out) (.slice D1 n1 d1) (.slice (some ⟨ws.heap.size, 0, none⟩) rows.length rows.length) (.slice D3 n3 d3)
        have HB5 := ((HFIN.out.setCell (show w.heap.size ≤ (⟨w.heap.size + 1, 0, none⟩ : Addr).block from Nat.le_succ _) (.slice D1 n1 d1)).setCell (show w.heap.size ≤ (⟨w.heap.size + 1, 1, none⟩ : Addr).block from Nat.le_succ _) (.slice (some ⟨ws.heap.size, 0, none⟩) rows.length rows.length)).setCell (show w.heap.size ≤ (⟨w.heap.size + 1, 2, none⟩ : Addr).block from Nat.le_succ _) (.slice D3 n3 d3)
        have HDD : w.heap.size + 1 ≠ D := fun e => by
          have h5 := z0
          unfold World.cell? at h5
          simp only at h5
          rw [e, HD4.out] at h5
          cases h5
        have HD5 := (Below.heap_setCell ((v4.setCell ⟨w.heap.size + 1, 0, none⟩ (.slice D1 n1 d1)).setCell ⟨w.heap.size + 1, 1, none⟩ (.slice (some ⟨ws.heap.size, 0, none⟩) rows.length rows.length)) ⟨w.heap.size + 1, 2, none⟩ (.slice D3 n3 d3) D (fun e => HDD e.symm)).trans ((Below.heap_setCell (v4.setCell ⟨w.heap.size + 1, 0, none⟩ (.slice D1 n1 d1)) ⟨w.heap.size + 1, 1, none⟩ (.slice (some ⟨ws.heap.size, 0, none⟩) rows.length rows.length) D (fun e => HDD e.symm)).trans ((Below.heap_setCell v4 ⟨w.heap.size + 1, 0, none⟩ (.slice D1 n1 d1) D (fun e => HDD e.symm)).trans HD4.out))
        have q0 : (((v4.setCell ⟨w.heap.size + 1, 0, none⟩ (.slice D1 n1 d1)).setCell ⟨w.heap.size + 1, 1, none⟩ (.slice (some ⟨ws.heap.size, 0, none⟩) rows.length rows.length)).setCell ⟨w.heap.size + 1, 2, none⟩ (.slice D3 n3 d3)).cell? ⟨w.heap.size + 1, 0, none⟩ = some (.slice D1 n1 d1) := by go_simp
        have q1 : (((v4.setCell ⟨w.heap.size + 1, 0, none⟩ (.slice D1 n1 d1)).setCell ⟨w.heap.size + 1, 1, none⟩ (.slice (some ⟨ws.heap.size, 0, none⟩) rows.length rows.length)).setCell ⟨w.heap.size + 1, 2, none⟩ (.slice D3 n3 d3)).cell? ⟨w.heap.size + 1, 1, none⟩ = some (.slice (some ⟨ws.heap.size, 0, none⟩) rows.length rows.length) := by go_simp
        have q2 : (((v4.setCell ⟨w.heap.size + 1, 0, none⟩ (.slice D1 n1 d1)).setCell ⟨w.heap.size + 1, 1, none⟩ (.slice (some ⟨ws.heap.size, 0, none⟩) rows.length rows.length)).setCell ⟨w.heap.size + 1, 2, none⟩ (.slice D3 n3 d3)).cell? ⟨w.heap.size + 1, 2, none⟩ = some (.slice D3 n3 d3) := by go_simp
        generalize (((v4.setCell ⟨w.heap.size + 1, 0, none⟩ (.slice D1 n1 d1)).setCell ⟨w.heap.size + 1, 1, none⟩ (.slice (some ⟨ws.heap.size, 0, none⟩) rows.length rows.length)).setCell ⟨w.heap.size + 1, 2, none⟩ (.slice D3 n3 d3)) = V5 at *
        have HGV : GV V5 (.agg #[.slice D1 n1 d1, .slice (some ⟨ws.heap.size, 0, none⟩) rows.length rows.length, .slice D3 n3 d3]) ⟨init, totR rows, labels⟩ := by
          refine ⟨D1, d1, some ⟨ws.heap.size, 0, none⟩, rows.length, D3, d3, ?_, ⟨by rw [← HM1.out]; exact H41.out.1, H41.out.2.1, HA5⟩, ⟨by rw [totR_len]; exact Nat.le_refl _, by unfold maxLen; omega, HOR5.ra⟩, ⟨by rw [← HM3.out]; exact H43.out.1, H43.out.2.1, HA6⟩⟩
          show _ = Value.agg #[.slice D1 init.length d1, .slice _ (totR rows).length rows.length, .slice D3 labels.length d3]
          rw [← HM1.out, ← HM3.out, totR_len]
        refine leaves_marks (v := .agg #[.slice D1 n1 d1, .slice (some ⟨ws.heap.size, 0, none⟩) rows.length rows.length, .slice D3 n3 d3]) (TotE w (w.heap.size + 1) (.slice D1 n1 d1) (.slice (some ⟨ws.heap.size, 0, none⟩) rows.length rows.length) (.slice D3 n3 d3) ⟨init, totR rows, labels⟩) (fun V hV => ?_) (fun V hV => ⟨_, rfl, hV.2.1, hV.2.2⟩) [D] V5 (List.nodup_cons.2 ⟨by simp, List.nodup_nil⟩) (fun E hE => ?_) (fun E hE V h hj => ?_) ⟨⟨q0, q1, q2⟩, HGV, HB5⟩
        · obtain ⟨⟨k0, k1, k2⟩, _⟩ := hV
          rw [results_cell rfl]
          go_simp
        · obtain rfl : E = D := by simpa using hE
          exact HD5
        · obtain rfl : E = D := by simpa using hE
          obtain ⟨⟨k0, k1, k2⟩, k3, k4⟩ := hj
          exact ⟨⟨cell_putObj h rfl k0, cell_putObj h rfl k1, cell_putObj h rfl k2⟩, k3.cells (by simp) (fun p u hp => cell_putObj h rfl hp), k4.trans (belowK_b (w := w) (Nat.le_refl _) _ E _ (.deferred none) (by omega) h rfl rfl)⟩
  case stop => exact fun _ _ _ _ _ _ h => h.elim

theorem total_any {w : World} {v : Value} {G : Gr} (hv : GV w v G) (hl1 : G.init.length ≤ 1000000) (hl2 : G.rows.length ≤ 1000000) (hlt : (leadTo G.rows G.rows.length).length ≤ 1000000) (hl3 : G.labels.length ≤ 1000000) : Calls Try.prog 27 #[v] w (GP w (totG G)) := by
  obtain ⟨A1, c1, A2, c2, A3, c3, rfl, ⟨a1, b1, d1⟩, ⟨a2, b2, d2⟩, ⟨a3, b3, d3⟩⟩ := hv
  exact total_any' A1 A2 A3 _ _ _ c1 c2 c3 G.init G.labels G.rows w rfl rfl rfl d1 d2 d3 hl1 (by omega) (by omega) hl3
end Go.Proofs.Ytnfiohekdbjgoaa
