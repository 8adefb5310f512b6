/- Contracts of package graph: reached, Reach. -/
import Derived.Test.YtnfiohekdbjgoaaSearch
import Derived.Test.YtnfiohekdbjgoaaGraphMarks
namespace Go.Proofs.Ytnfiohekdbjgoaa
open Go.ChangeShapes Go.WideShapes Go.ChangeAt Go.RowKit Go.Shelf

/-- What a search meets. -/
def seen (n : Nat) (rows : List (List (Int × Int))) (starts : List Int) : List (Nat × Int) := seaF n rows (fun _ => true) (n + 1) (edgesF starts) (-1) [] 0
theorem seen_ok (n : Nat) (rows : List (List (Int × Int))) (starts : List Int) : TrOk n (seen n rows starts) := seaF_ok (TrOk.nil n)
def marksL (n : Nat) (tr : List (Nat × Int)) : List Bool := (List.range n).map (metB tr)
theorem marksL_at {n : Nat} {tr : List (Nat × Int)} {i : Nat} (h : i < n) : (marksL n tr).getD i false = metB tr i := by simp [marksL, List.getD, h]
theorem marksL_len (n : Nat) (tr : List (Nat × Int)) : (marksL n tr).length = n := by simp [marksL]

theorem reached1_any (o z n : Nat) (tr : List (Nat × Int)) (k : Nat) (a : Int) (W : World) (hz : W.heap[z]? = some (.cells #[.slice (some ⟨o, 0, none⟩) n n] 33 (0, 0))) (ho : W.rowIs o 4 n (mv tr)) (hk : k < n) :
    Calls Try.prog 78 #[.int .i64 k, .int .i64 a, .pointer (some ⟨z, 0, none⟩)] W fun e W' => e = .returned (.bool true) ∧ W' = W.setCell ⟨o, k, none⟩ (.bool true) := by
  have c1 := (cell_of_box_l hz).1
  have c2 := ho.cell hk
  have f2 := ho.frozen k
  generalize mv tr k = u at c2
  clear hz ho
  go_enter Try.func78, Try.ntmps78
  go_wp2
  go_ret
  exact ⟨rfl, rfl⟩

/-- A row of bools that the call made. -/
def Marks (w : World) (n : Nat) (tr : List (Nat × Int)) (e : Ending) (w' : World) : Prop := ∃ b, e = .returned (.slice (some ⟨b, 0, none⟩) n n) ∧ w.heap.size ≤ b ∧ w'.rowIs b 4 n (mv tr) ∧ Below w.heap.size w w'
theorem Marks.bl {w w' : World} {n : Nat} {tr : List (Nat × Int)} {e : Ending} (h : Marks w n tr e w') : ∃ A, e = .returned (.slice A n n) ∧ BL w' A (marksL n tr) ∧ Below w.heap.size w w' := by
  obtain ⟨b, he, hb, hr, hB⟩ := h
  refine ⟨_, he, fun _ => ⟨b, 0, rfl, hr.lt, fun i hi => ?_⟩, hB⟩
  rw [marksL_len] at hi
  rw [Nat.zero_add, hr.cell hi, marksL_at hi]
  rfl

set_option maxHeartbeats 1000000 in
theorem reached_any (n : Nat) (rows : List (List (Int × Int))) (A : Option Addr) (c : Nat) (As : Option Addr) (m cs : Nat) (starts : List Int) (w : World)
    (hn : rows.length = n) (hnl : n ≤ 1000000) (hR : RA w A rows) (hm : m = starts.length) (hml : m ≤ 1000000) (hS : IA w As starts) :
    Calls Try.prog 56 #[.slice A n c, .slice As m cs] w (Marks w n (seen n rows starts)) := by
  obtain ⟨i0, hi, hz0, hz1, hz2⟩ := info_parts (show (Try.prog.info? 4).map (fun i => (i.zero, i.size, i.bytes)) = some (some (.bool false), 1, 1) by kernel_rfl)
  have hmk : ∀ W : World, (Instr.makeSlice 33 (.int .i64 (n : Int)) (.int .i64 (n : Int))).run Try.prog W = .ok (.slice (some ⟨W.heap.size, 0, none⟩) n n) (W.alloc (.cells (madeCells #[.bool false] n) 4)) := fun W => by
    have hr := run_make (P := Try.prog) W 33 4 i0 _ (by kernel_rfl) hi hz0 .i64 .i64 (n : Int) (n : Int) (by omega) (Int.le_refl _) (by rw [hz2]; omega) (by omega)
    rw [hr, hz1]
    rw [Int.toNat_natCast, Nat.mul_one]
    rfl
  have HN := Lib.hid hn
  have HR := Lib.hid hR
  have HM := Lib.hid hm
  have HS := Lib.hid hS
  clear hi hz0 hz1 hz2 hn hR hm hS
  go_enter Try.func56, Try.ntmps56
  go_wp2_with fail
  clear hmk
  have r1 : ((w.alloc (.cells (madeCells #[.bool false] n) 4)).alloc (.cells #[.slice (some ⟨w.heap.size, 0, none⟩) n n] 33)).rowIs w.heap.size 4 n (mv []) := (World.rowIs_made w (.bool false) n 4).alloc _
  have b1 : ((w.alloc (.cells (madeCells #[.bool false] n) 4)).alloc (.cells #[.slice (some ⟨w.heap.size, 0, none⟩) n n] 33)).heap[w.heap.size + 1]? = some (.cells #[.slice (some ⟨w.heap.size, 0, none⟩) n n] 33 (0, 0)) := by
    have h := World.alloc_heap_new (w.alloc (.cells (madeCells #[.bool false] n) 4)) (.cells #[.slice (some ⟨w.heap.size, 0, none⟩) n n] 33)
    rw [World.size_alloc] at h
    exact h
  have hB : Below w.heap.size w ((w.alloc (.cells (madeCells #[.bool false] n) 4)).alloc (.cells #[.slice (some ⟨w.heap.size, 0, none⟩) n n] 33)) := ((Below.refl _ _).alloc (Nat.le_refl _) _).alloc (by simp) _
  have hz : ((w.alloc (.cells (madeCells #[.bool false] n) 4)).alloc (.cells #[.slice (some ⟨w.heap.size, 0, none⟩) n n] 33)).heap.size = w.heap.size + 2 := by simp
  generalize ((w.alloc (.cells (madeCells #[.bool false] n) 4)).alloc (.cells #[.slice (some ⟨w.heap.size, 0, none⟩) n n] 33)) = w1 at *
  have hB1 := Lib.hid hB
  refine (search_any 78 #[.pointer (some ⟨w.heap.size + 1, 0, none⟩)] (fun q => q = w.heap.size) n rows (fun _ => true) (fun tr W => W.rowIs w.heap.size 4 n (mv tr) ∧ W.heap[w.heap.size + 1]? = some (.cells #[.slice (some ⟨w.heap.size, 0, none⟩) n n] 33 (0, 0))) A c As m cs starts w w1
    HN.out hnl HR.out (by omega) (fun q hq => hB.block q hq) (fun q hq => by omega) HM.out hml (HS.out.below hB) (fun k hk => by omega) (enters_of Try.func78 (by kernel_rfl) rfl)
    (fun tr W W' h _ hb => ⟨h.1.of_block (hb.block _ (by omega)), (hb.block _ (by omega)).trans h.2⟩) ?_ ⟨r1, b1⟩).mono ?_
  · intro tr k a W hok hk hme hI hT
    refine (reached1_any w.heap.size (w.heap.size + 1) n tr k a W hI.2 hI.1 hk).mono ?_
    rintro x W' ⟨rfl, rfl⟩
    refine ⟨rfl, ⟨mv_step a hI.1, (Below.heap_setCell _ _ _ _ (by simp)).trans hI.2⟩, (Turn.refl _ _).set _ _ rfl⟩
  · rintro x w2 ⟨⟨v, rfl⟩, ⟨hr2, hb2⟩, ht2⟩
    have c2 := (cell_of_box_l hb2).1
    have HR2 := Lib.hid hr2
    have HT2 := Lib.hid (hB.trans ((ht2.below (B := w.heap.size) (fun k hk => by omega) (by omega))))
    clear hr2 hb2 ht2
    go_wp2
    go_ret
    exact ⟨_, rfl, Nat.le_refl _, HR2.out, HT2.out⟩
end Go.Proofs.Ytnfiohekdbjgoaa
