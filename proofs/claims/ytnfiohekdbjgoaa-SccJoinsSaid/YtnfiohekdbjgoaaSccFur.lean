/- Contracts of package scc: further (ends$1). -/
import Derived.Test.YtnfiohekdbjgoaaSccMeet
import Derived.Deep.LoopGhost
namespace Go.Proofs.Ytnfiohekdbjgoaa.sc
open Go.ChangeShapes Go.WideShapes Go.ChangeAt Go.RowKit Go.Shelf

/-- How far a node's edges are gone over, and the next node. -/
def nxt (n : Nat) : List (Int × Int) → Nat → Nat × Option Nat
  | [], j => (j, none)
  | z :: r, j => if nodeB n z.1 then (j + 1, some z.1.toNat) else nxt n r (j + 1)
def gnV (gone : Nat → Nat) (k : Nat) : Value := .int .i64 (gone k : Nat)
def setN (f : Nat → Nat) (k x : Nat) (i : Nat) : Nat := if i = k then x else f i
theorem gnV_step {gone : Nat → Nat} {n k : Nat} {w : World} {b : Nat} {t : TypeId} (x : Nat) (hr : w.rowIs b t n (gnV gone)) : (w.setCell ⟨b, k, none⟩ (.int .i64 (x : Nat))).rowIs b t n (gnV (setN gone k x)) :=
  (World.rowIs.set hr k (.int .i64 (x : Nat))).congr (fun j _ => by
    unfold gnV setN
    by_cases e : j = k
    · rw [if_pos e, if_pos e]
    · rw [if_neg e, if_neg e])
structure FurW (n gz gb eb : Nat) (AE : Option Addr) (c : Nat) (gone : Nat → Nat) (w : World) : Prop where
  gbox : w.heap[gz]? = some (.cells #[.slice (some ⟨gb, 0, none⟩) n n] 22 (0, 0))
  grow : w.rowIs gb 3 n (gnV gone)
  ebox : w.heap[eb]? = some (.cells #[.slice AE n c] 23 (0, 0))
  gg : gz ≠ gb
  eg : eb ≠ gb
def furV : Option Nat → Value
  | none => .tuple #[.int .i64 (-1), .bool false]
  | some k => .tuple #[.int .i64 (k : Nat), .bool true]
def FurP (n gz gb eb : Nat) (AE : Option Addr) (c : Nat) (gone : Nat → Nat) (row : List (Int × Int)) (k : Nat) (w : World) (e : Ending) (w' : World) : Prop :=
  e = .returned (furV (nxt n (row.drop (gone k)) (gone k)).2) ∧ FurW n gz gb eb AE c (setN gone k (nxt n (row.drop (gone k)) (gone k)).1) w' ∧ Turn (fun q => q = gb) w w'
theorem FurW.step {n gz gb eb : Nat} {AE : Option Addr} {c : Nat} {gone : Nat → Nat} {w : World} (h : FurW n gz gb eb AE c gone w) (k x : Nat) : FurW n gz gb eb AE c (setN gone k x) (w.setCell ⟨gb, k, none⟩ (.int .i64 (x : Nat))) where
  gbox := (Below.heap_setCell w ⟨gb, k, none⟩ _ gz h.gg).trans h.gbox
  grow := gnV_step x h.grow
  ebox := (Below.heap_setCell w ⟨gb, k, none⟩ _ eb h.eg).trans h.ebox
  gg := h.gg
  eg := h.eg
theorem FurW.drew {n gz gb eb : Nat} {AE : Option Addr} {c : Nat} {gone : Nat → Nat} {w : World} (h : FurW n gz gb eb AE c gone w) : FurW n gz gb eb AE c gone w.drew := ⟨h.gbox, h.grow.drew, h.ebox, h.gg, h.eg⟩
theorem setN_again (f : Nat → Nat) (k x y : Nat) : setN (setN f k x) k y = setN f k y := by
  funext i; unfold setN; by_cases e : i = k <;> simp [e]
theorem fur_cells {n gz gb eb : Nat} {AE : Option Addr} {c : Nat} {gone : Nat → Nat} {k j : Nat} {w : World} (h : FurW n gz gb eb AE c (setN gone k j) w) (hk : k < n) :
    w.cell? ⟨gz, 0, none⟩ = some (.slice (some ⟨gb, 0, none⟩) n n) ∧ w.cell? ⟨gb, k, none⟩ = some (.int .i64 (j : Nat)) ∧ w.cell? ⟨eb, 0, none⟩ = some (.slice AE n c) ∧ w.frozen? ⟨gb, k, none⟩ = false := by
  refine ⟨(cell_of_box_l h.gbox).1, ?_, (cell_of_box_l h.ebox).1, h.grow.frozen k⟩
  have := h.grow.cell hk
  unfold gnV setN at this
  rw [if_pos rfl] at this
  exact this
set_option maxRecDepth 20000 in
set_option maxHeartbeats 2000000 in
theorem further_any (n gz gb eb : Nat) (AE : Option Addr) (c : Nat) (gone : Nat → Nat) (rows : List (List (Int × Int))) (k : Nat) (w : World) (hn : n = rows.length) (hcut0 : ∀ W : World, Turn (fun q => q = gb) w W → RA W AE rows) (h : FurW n gz gb eb AE c gone w) (hk : k < n) (hg : gone k ≤ (rows.getD k []).length) (hl : (rows.getD k []).length ≤ 1000000) :
    Calls Try.prog 91 #[.int .i64 k, .pointer (some ⟨gz, 0, none⟩), .pointer (some ⟨eb, 0, none⟩)] w (FurP n gz gb eb AE c gone (rows.getD k []) k w) := by
  have HW := Lib.hid h
  have HNN := Lib.hid hn
  have HG := Lib.hid hg
  have HLL := Lib.hid hl
  have hcut := Lib.hid hcut0
  clear hcut0 h hn hg hl
  go_enter Try.func91, Try.ntmps91
  go_wp2_with fail
  have hkr : k < rows.length := by rw [← HNN.out]; exact hk
  generalize hrow : rows.getD k [] = row at HG HLL ⊢
  go_loopg [6] (row.length - gone k) (fun g t wr => ∃ j : Nat, Hid (g + j = row.length) ∧ Hid (FurW n gz gb eb AE c (setN gone k j) wr) ∧ Hid (Turn (fun q => q = gb) w wr) ∧ Hid (nxt n (row.drop j) j = nxt n (row.drop (gone k)) (gone k)))
  case atStart =>
    refine ⟨gone k, Lib.hid (by have := HG.out; omega), Lib.hid ?_, Lib.hid (Turn.refl _ _), Lib.hid rfl⟩
    have e : setN gone k (gone k) = gone := by funext i; unfold setN; by_cases e : i = k <;> simp [e]
    rw [e]; exact HW.out
  case round =>
    obtain ⟨j, HJ, HF, HT, HNX⟩ := hrel
    obtain ⟨b, o, hAE, _, hcr⟩ := hcut.out wr HT.out (by omega)
    obtain ⟨A', c', c4, c5, c6, hPA⟩ := hcr k hkr
    rw [hrow] at c4 c5 hPA
    subst hAE
    clear hcr c5 c6
    have hlen : row.length ≤ 1000000 := HLL.out
    obtain ⟨c1, c2, c3, _⟩ := fur_cells HF.out hk
    have hj0 : j ≤ row.length := by have := HJ.out; omega
    by_cases hj : j < row.length
    · obtain ⟨b2, o2, rfl, _, hc2⟩ := hPA (by omega)
      have c7 := (hc2 j hj).1
      have hj2 : (j : Int) < (row.length : Int) := by omega
      have HDR : Hid (row.drop j = row.getD j (0, 0) :: row.drop (j + 1)) := Lib.hid (by rw [List.drop_eq_getElem_cons hj]; simp [List.getD, hj])
      generalize row.getD j (0, 0) = z at c7 HDR
      obtain ⟨to, ac⟩ := z
      simp only at c7
      clear hPA hc2
      go_wp2_with fail
      go_region
      all_goals
        have HF1 : Hid (FurW n gz gb eb (some ⟨b, o, none⟩) c (setN gone k j) wr.drew) := Lib.hid HF.out.drew
        have HT1 : Hid (Turn (fun q => q = gb) w wr.drew) := Lib.hid (HT.out.drewN 1)
        have c4' : wr.drew.cell? ⟨b, o + k, none⟩ = some (.slice (some ⟨b2, o2, none⟩) row.length c') := c4
        have c7' : wr.drew.cell? ⟨b2, o2 + j * 2, none⟩ = some (.int .i64 to) := c7
        clear c1 c2 c3 c4 c7 HF HT
        generalize wr.drew = w1 at HF1 HT1 c4' c7' ⊢
        obtain ⟨c1, c2, c3, _⟩ := fur_cells HF1.out hk
        go_wp2_with fail
        go_region
        all_goals
          have HF2 : Hid (FurW n gz gb eb (some ⟨b, o, none⟩) c (setN gone k j) w1.drew) := Lib.hid HF1.out.drew
          have HT2 : Hid (Turn (fun q => q = gb) w w1.drew) := Lib.hid (HT1.out.drewN 1)
          clear c1 c2 c3 c4' c7' HF1 HT1
          generalize w1.drew = w2 at HF2 HT2 ⊢
          obtain ⟨c1, c2, c3, f2⟩ := fur_cells HF2.out hk
          have HF3 : Hid (FurW n gz gb eb (some ⟨b, o, none⟩) c (setN gone k (j + 1)) (w2.setCell ⟨gb, k, none⟩ (.int .i64 ((j : Int) + 1)))) := Lib.hid (by
            have := HF2.out.step k (j + 1)
            rw [setN_again] at this
            exact this)
          have HT3 : Hid (Turn (fun q => q = gb) w (w2.setCell ⟨gb, k, none⟩ (.int .i64 ((j : Int) + 1)))) := Lib.hid (HT2.out.set ⟨gb, k, none⟩ _ rfl)
          clear c3
          go_upto_region 4 with (fail)
          generalize w2.setCell ⟨gb, k, none⟩ (.int .i64 ((j : Int) + 1)) = w3 at HF3 HT3 ⊢
          obtain ⟨c1, c2, c3, _⟩ := fur_cells HF3.out hk
          go_wp2_with fail
          refine (isNode_any _ _ _ _ _).mono ?_
          rintro e4 w4 ⟨rfl, rfl⟩
          by_cases hnd : nodeB n to = true
          · obtain ⟨t, rfl, ht⟩ : ∃ t : Nat, to = (t : Int) ∧ t < n := by
              unfold nodeB at hnd
              have h2 := of_decide_eq_true hnd
              exact ⟨to.toNat, by omega, by omega⟩
            have HX : Hid (nxt n (row.drop (gone k)) (gone k) = (j + 1, some t)) := Lib.hid (by rw [← HNX.out, HDR.out]; unfold nxt; rw [if_pos hnd]; rfl)
            rw [hnd]
            clear hnd c1 c2 c3
            go_wp2_with fail
            go_ret2
            unfold FurP
            first | rw [HX.out] | rw [hrow, HX.out]
            exact ⟨rfl, HF3.out, HT3.out⟩
          · have hnd2 : nodeB n to = false := by simpa using hnd
            have HX : Hid (nxt n (row.drop (j + 1)) (j + 1) = nxt n (row.drop (gone k)) (gone k)) := Lib.hid (by rw [← HNX.out, HDR.out]; conv => rhs; unfold nxt; rw [if_neg hnd])
            rw [hnd2]
            clear hnd hnd2 c1 c2 c3
            go_wp2_with fail
            go_roundg (row.length - (j + 1))
            case measure => have := HJ.out; omega
            case rel => exact ⟨j + 1, Lib.hid (by omega), HF3, HT3, HX⟩
    · obtain rfl : j = row.length := by omega
      have HX : Hid (nxt n (row.drop (gone k)) (gone k) = (row.length, none)) := Lib.hid (by rw [← HNX.out, List.drop_length]; rfl)
      have HF1 : Hid (FurW n gz gb eb (some ⟨b, o, none⟩) c (setN gone k row.length) wr.drew) := Lib.hid HF.out.drew
      have HT1 : Hid (Turn (fun q => q = gb) w wr.drew) := Lib.hid (HT.out.drewN 1)
      clear hPA hj
      go_wp2_with fail
      go_region
      all_goals
        go_wp2_with fail
        go_ret2
        unfold FurP
        first | rw [HX.out] | rw [hrow, HX.out]
        exact ⟨rfl, HF1.out, HT1.out⟩
/-- What ends hands back: the function, its box and row new. -/
def EndsP (n : Nat) (AE : Option Addr) (c : Nat) (w : World) (e : Ending) (w' : World) : Prop :=
  ∃ gz gb eb, e = .returned (.func (.func 91) #[] #[.pointer (some ⟨gz, 0, none⟩), .pointer (some ⟨eb, 0, none⟩)]) ∧ FurW n gz gb eb AE c (fun _ => 0) w' ∧ Below w.heap.size w w' ∧ w.heap.size ≤ gz ∧ w.heap.size ≤ gb ∧ w.heap.size ≤ eb ∧ gz < w'.heap.size ∧ gb < w'.heap.size ∧ eb < w'.heap.size
set_option maxRecDepth 20000 in
theorem ends_any (n : Nat) (AE : Option Addr) (c : Nat) (w : World) (hn : n ≤ 1000000) : Calls Try.prog 87 #[.slice AE n c] w (EndsP n AE c w) := by
  obtain ⟨i0, hi, hz0, hz1, hz2⟩ := info_parts Try.info3
  have hmk : ∀ W : World, (Instr.makeSlice 22 (.int .i64 (n : Int)) (.int .i64 (n : Int))).run Try.prog W = .ok (.slice (some ⟨W.heap.size, 0, none⟩) n n) (W.alloc (.cells (madeCells #[.int .i64 0] n) 3)) := fun W => by
    have hr := run_make (P := Try.prog) W 22 3 i0 _ (by kernel_rfl) hi hz0 .i64 .i64 (n : Int) (n : Int) (by omega) (Int.le_refl _) (by rw [hz2]; omega) (by omega)
    rw [hr, hz1]
    rw [Int.toNat_natCast, Nat.mul_one]
    rfl
  clear hi hz0 hz1 hz2
  have hb0 : (w.alloc (.cells #[.slice AE n c] 23)).heap[w.heap.size]? = some (.cells #[.slice AE n c] 23 (0, 0)) := World.alloc_heap_new _ _
  have hB0 : Below w.heap.size w (w.alloc (.cells #[.slice AE n c] 23)) := (Below.refl _ _).alloc (Nat.le_refl _) _
  have hz0 : (w.alloc (.cells #[.slice AE n c] 23)).heap.size = w.heap.size + 1 := by simp
  have c0 := (cell_of_box_l hb0).1
  go_enter Try.func87, Try.ntmps87
  go_upto_region 1 with (fail)
  generalize w.alloc (.cells #[.slice AE n c] 23) = w1 at hb0 hB0 hz0 c0 ⊢
  have HZ0 := Lib.hid hz0
  clear hz0
  go_wp2_with fail
  clear hmk
  have r1 : ((w1.alloc (.cells (madeCells #[.int .i64 0] n) 3)).alloc (.cells #[.slice (some ⟨w1.heap.size, 0, none⟩) n n] 22)).rowIs w1.heap.size 3 n (gnV (fun _ => 0)) := (World.rowIs_made w1 (.int .i64 0) n 3).alloc _
  have b1 : ((w1.alloc (.cells (madeCells #[.int .i64 0] n) 3)).alloc (.cells #[.slice (some ⟨w1.heap.size, 0, none⟩) n n] 22)).heap[w1.heap.size + 1]? = some (.cells #[.slice (some ⟨w1.heap.size, 0, none⟩) n n] 22 (0, 0)) := by
    have h := World.alloc_heap_new (w1.alloc (.cells (madeCells #[.int .i64 0] n) 3)) (.cells #[.slice (some ⟨w1.heap.size, 0, none⟩) n n] 22)
    rw [World.size_alloc] at h
    exact h
  have hB : Below w1.heap.size w1 ((w1.alloc (.cells (madeCells #[.int .i64 0] n) 3)).alloc (.cells #[.slice (some ⟨w1.heap.size, 0, none⟩) n n] 22)) := ((Below.refl _ _).alloc (Nat.le_refl _) _).alloc (by simp) _
  have hz : ((w1.alloc (.cells (madeCells #[.int .i64 0] n) 3)).alloc (.cells #[.slice (some ⟨w1.heap.size, 0, none⟩) n n] 22)).heap.size = w1.heap.size + 2 := by simp
  generalize ((w1.alloc (.cells (madeCells #[.int .i64 0] n) 3)).alloc (.cells #[.slice (some ⟨w1.heap.size, 0, none⟩) n n] 22)) = w2 at *
  go_ret
  have hz0 := HZ0.out
  refine ⟨w1.heap.size + 1, w1.heap.size, w.heap.size, rfl, ⟨b1, r1, (hB.block _ (by omega)).trans hb0, by omega, by omega⟩, hB0.trans (hB.mono (by omega)), by omega, by omega, by omega, by omega, by omega, by omega⟩
end Go.Proofs.Ytnfiohekdbjgoaa.sc
