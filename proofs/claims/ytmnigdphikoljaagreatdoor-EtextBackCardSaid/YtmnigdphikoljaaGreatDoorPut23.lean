/- Contracts that the claim stands on, several texts in one: EtWorksP, EtWorks, EtLight, ExprRefSpans, ExprRefV0. -/
import Derived.Deep.QuietTactic
import Derived.Test.YtmnigdphikoljaaGreatDoorPut1
import Derived.Test.YtmnigdphikoljaaGreatDoorPut2
import Derived.Test.YtmnigdphikoljaaGreatDoorPut3
import Derived.Test.YtmnigdphikoljaaGreatDoorPut4
import Derived.Test.YtmnigdphikoljaaGreatDoorPut5
import Derived.Test.YtmnigdphikoljaaGreatDoorPut6
import Derived.Test.YtmnigdphikoljaaGreatDoorPut7
import Derived.Test.YtmnigdphikoljaaGreatDoorPut8
import Derived.Test.YtmnigdphikoljaaGreatDoorPut9
import Derived.Test.YtmnigdphikoljaaGreatDoorPut10
import Derived.Test.YtmnigdphikoljaaGreatDoorPut11
import Derived.Test.YtmnigdphikoljaaGreatDoorPut12
import Derived.Test.YtmnigdphikoljaaGreatDoorPut13
import Derived.Test.YtmnigdphikoljaaGreatDoorPut14
import Derived.Test.YtmnigdphikoljaaGreatDoorPut15
import Derived.Test.YtmnigdphikoljaaGreatDoorPut16
import Derived.Test.YtmnigdphikoljaaGreatDoorPut17
import Derived.Test.YtmnigdphikoljaaGreatDoorPut18
import Derived.Test.YtmnigdphikoljaaGreatDoorPut19
import Derived.Test.YtmnigdphikoljaaGreatDoorPut20
import Derived.Test.YtmnigdphikoljaaGreatDoorPut21
import Derived.Test.YtmnigdphikoljaaGreatDoorPut22
namespace Go.Proofs.YtmnigdphikoljaaGreatDoor.et
open Go.ChangeShapes Go.WideShapes Go.ChangeAt Go.RowKit Go.Deep

def S0 : Sc := ⟨[], [(0, 0), (0, 0)], [], [], [], 0⟩
def N0 : Nm := ⟨[⟨#[120]⟩, ⟨#[121]⟩], [], [], [], []⟩
def e1 : List (Int × Int) := [(2, 0), (1, 1), (11, 0), (1, 2), (13, 0)]
def e5 : List (Int × Int) := [(1, 1), (10, 0)]
def s2 : ByteArray := ⟨#[120, 32, 45, 32, 121, 32, 45, 32, 49]⟩
def s3 : ByteArray := ⟨#[120, 32, 32, 61, 61, 32, 49]⟩
def s4 : ByteArray := ⟨#[120, 32, 61, 61, 32]⟩
def T2 : List lx.Tok := [⟨1, 0, 0, ⟨#[120]⟩⟩, ⟨3, 0, 2, ⟨#[45]⟩⟩, ⟨1, 0, 4, ⟨#[121]⟩⟩, ⟨3, 0, 6, ⟨#[45]⟩⟩, ⟨2, 1, 8, ⟨#[49]⟩⟩]
def T3 : List lx.Tok := [⟨1, 0, 0, ⟨#[120]⟩⟩, ⟨3, 0, 3, ⟨#[61, 61]⟩⟩, ⟨2, 1, 6, ⟨#[49]⟩⟩]
def T4 : List lx.Tok := [⟨1, 0, 0, ⟨#[120]⟩⟩, ⟨3, 0, 2, ⟨#[61, 61]⟩⟩]
theorem k1 : kindF S0 e1 = (0, 0) := by decide +kernel
theorem k5 : kindF S0 e5 = (0, 0) := by decide +kernel
theorem a1 : e1.all (tellsB N0) = true := by decide +kernel
theorem itoa1 : Lib.itoa 1 = [49] := by
  unfold Lib.itoa
  rw [if_neg (by omega), show (1 : Int).toNat = 1 from rfl, Lib.decDigits_one (by omega)]
  rfl
theorem itoa2 : Lib.itoa 2 = [50] := by
  unfold Lib.itoa
  rw [if_neg (by omega), show (2 : Int).toNat = 2 from rfl, Lib.decDigits_one (by omega)]
  rfl
theorem d1 : dS 1 = ⟨#[49]⟩ := by unfold dS; rw [itoa1]
theorem d2 : dS 2 = ⟨#[50]⟩ := by unfold dS; rw [itoa2]
theorem f2 : allF N0 9 T2 = ([(2, 0), (2, 1), (12, 0), (1, 1), (12, 0)], 0, 0) := by decide +kernel
theorem f3 : allF N0 7 T3 = ([(2, 0), (1, 1), (14, 0)], 0, 0) := by decide +kernel
theorem f4 : (allF N0 5 T4).2 = (5, 3) := by decide +kernel
theorem t1 : textF S0 N0 e1 = (⟨#[40, 120, 32, 43, 32, 49, 41, 32, 42, 32, 50]⟩, 0) := by
  have ht : treeF e1 = .bi (13, 0) (.bi (11, 0) (.lf (2, 0)) (.lf (1, 1))) (.lf (1, 2)) := by rfl
  unfold textF
  rw [k1, if_pos rfl, a1, if_pos rfl, ht]
  have l1 : txt N0 (.lf (1, 1)) = ⟨#[49]⟩ := by rw [← d1]; rfl
  have l2 : txt N0 (.lf (1, 2)) = ⟨#[50]⟩ := by rw [← d2]; rfl
  have l3 : txt N0 (.lf (2, 0)) = ⟨#[120]⟩ := by decide +kernel
  have l4 : txt N0 (.bi (13, 0) (.bi (11, 0) (.lf (2, 0)) (.lf (1, 1))) (.lf (1, 2))) = biT (13, 0) (11, 0) (1, 2) (biT (11, 0) (2, 0) (1, 1) (txt N0 (.lf (2, 0))) (txt N0 (.lf (1, 1)))) (txt N0 (.lf (1, 2))) := rfl
  rw [l4, l1, l2, l3]
  decide +kernel
theorem t5 : textF S0 N0 e5 = (⟨#[45, 40, 49, 41]⟩, 0) := by
  have ht : treeF e5 = .un (10, 0) (.lf (1, 1)) := by rfl
  have a5 : e5.all (tellsB N0) = true := by decide +kernel
  unfold textF
  rw [k5, if_pos rfl, a5, if_pos rfl, ht]
  have l1 : txt N0 (.lf (1, 1)) = ⟨#[49]⟩ := by rw [← d1]; rfl
  have l4 : txt N0 (.un (10, 0) (.lf (1, 1))) = unT N0 (10, 0) (1, 1) (txt N0 (.lf (1, 1))) := rfl
  rw [l4, l1]
  decide +kernel
theorem t2 : textF S0 N0 [(2, 0), (2, 1), (12, 0), (1, 1), (12, 0)] = (s2, 0) := by
  have ht : treeF [(2, 0), (2, 1), (12, 0), (1, 1), (12, 0)] = .bi (12, 0) (.bi (12, 0) (.lf (2, 0)) (.lf (2, 1))) (.lf (1, 1)) := by rfl
  have k2 : kindF S0 [(2, 0), (2, 1), (12, 0), (1, 1), (12, 0)] = (0, 0) := by decide +kernel
  have a2 : ([(2, 0), (2, 1), (12, 0), (1, 1), (12, 0)] : List (Int × Int)).all (tellsB N0) = true := by decide +kernel
  unfold textF
  rw [k2, if_pos rfl, a2, if_pos rfl, ht]
  have l1 : txt N0 (.lf (1, 1)) = ⟨#[49]⟩ := by rw [← d1]; rfl
  have l2 : txt N0 (.lf (2, 0)) = ⟨#[120]⟩ := by decide +kernel
  have l3 : txt N0 (.lf (2, 1)) = ⟨#[121]⟩ := by decide +kernel
  have l4 : txt N0 (.bi (12, 0) (.bi (12, 0) (.lf (2, 0)) (.lf (2, 1))) (.lf (1, 1))) = biT (12, 0) (12, 0) (1, 1) (biT (12, 0) (2, 0) (2, 1) (txt N0 (.lf (2, 0))) (txt N0 (.lf (2, 1)))) (txt N0 (.lf (1, 1))) := rfl
  rw [l4, l1, l2, l3]
  decide +kernel
theorem t3 : textF S0 N0 [(2, 0), (1, 1), (14, 0)] = (⟨#[120, 32, 61, 61, 32, 49]⟩, 0) := by
  have ht : treeF [(2, 0), (1, 1), (14, 0)] = .bi (14, 0) (.lf (2, 0)) (.lf (1, 1)) := by rfl
  have k2 : kindF S0 [(2, 0), (1, 1), (14, 0)] = (1, 0) := by decide +kernel
  have a2 : ([(2, 0), (1, 1), (14, 0)] : List (Int × Int)).all (tellsB N0) = true := by decide +kernel
  unfold textF
  rw [k2, if_pos rfl, a2, if_pos rfl, ht]
  have l1 : txt N0 (.lf (1, 1)) = ⟨#[49]⟩ := by rw [← d1]; rfl
  have l2 : txt N0 (.lf (2, 0)) = ⟨#[120]⟩ := by decide +kernel
  have l4 : txt N0 (.bi (14, 0) (.lf (2, 0)) (.lf (1, 1))) = biT (14, 0) (2, 0) (1, 1) (txt N0 (.lf (2, 0))) (txt N0 (.lf (1, 1))) := rfl
  rw [l4, l1, l2]
  decide +kernel
theorem p2 : parseT S0 N0 s2 (T2, 0, 0) = ([(2, 0), (2, 1), (12, 0), (1, 1), (12, 0)], 0, 0) := by
  unfold parseT
  rw [show s2.size = 9 from rfl, f2]
  dsimp only
  rw [t2]
  simp
theorem p3 : parseT S0 N0 s3 (T3, 0, 0) = ([], 2, 13) := by
  unfold parseT
  rw [show s3.size = 7 from rfl, f3]
  dsimp only
  rw [t3]
  decide +kernel
theorem p4 : parseT S0 N0 s4 (T4, 0, 0) = ([], 5, 3) := by
  unfold parseT
  rw [show s4.size = 5 from rfl]
  dsimp only
  rw [f4]
  simp
theorem tok_step {nm : List UInt8 → Int × Bool} {s : ByteArray} {a : Nat} {L : List lx.Tok} (k : Nat) (n : Int) (m : Nat) (q : ByteArray) (h : a < s.size) (hb : lx.blankB (lx.bt s a) = false) (hr : lx.bt s a ≠ 35) (hf : lx.firstP nm (lx.tailS s a) = .ok (k, n, m)) (hq : s.extract a (a + m) = q) (hh : lx.Tks nm s (a + m) L) : lx.Tks nm s a (⟨k, n, a, q⟩ :: L) := by
  subst hq
  exact .token h hb hr hf hh
theorem first_word {nm : List UInt8 → Int × Bool} {s : ByteArray} (m : Nat) (h : lx.wordN s = m) (h0 : 0 < m) (h1 : m ≤ 16) : lx.firstP nm s = .ok (1, 0, m) := by
  unfold lx.firstP; rw [if_neg (by omega), if_pos (by omega), h]
theorem first_num {nm : List UInt8 → Int × Bool} {s : ByteArray} (m : Nat) (v : Int) (hw : lx.wordN s = 0) (h : lx.digN s = m) (h0 : 0 < m) (hn : nm (s.extract 0 m).data.toList = (v, true)) : lx.firstP nm s = .ok (2, v, m) := by
  unfold lx.firstP; rw [if_neg (by omega), if_neg (by omega), if_pos (by omega), h, hn, if_pos rfl]
theorem first_sgn {nm : List UInt8 → Int × Bool} {s : ByteArray} (m : Nat) (hw : lx.wordN s = 0) (hd : lx.digN s = 0) (h : lx.signN s = m) (h0 : 0 < m) : lx.firstP nm s = .ok (3, 0, m) := by
  unfold lx.firstP; rw [if_neg (by omega), if_neg (by omega), if_neg (by omega), if_pos (by omega), h]
theorem one_num {s : ByteArray} (hw : lx.wordN s = 0) (h : lx.digN s = 1) (hs : (s.extract 0 1).data.toList = [49]) : lx.firstP numD s = .ok (2, 1, 1) :=
  first_num 1 1 hw h (by decide) (by rw [hs]; exact numD_some (by decide) (by decide) itoa1)
theorem c2 : lx.Sc numD s2 0 [] (T2, 0, 0) := lx.Tks.sc
  (tok_step 1 0 1 _ (by decide) (by decide) (by decide) (first_word 1 (by decide +kernel) (by decide) (by decide)) (by decide +kernel)
  (.blank (by decide) (by decide) (tok_step 3 0 1 _ (by decide) (by decide) (by decide) (first_sgn 1 (by decide +kernel) (by decide +kernel) (by decide +kernel) (by decide)) (by decide +kernel)
  (.blank (by decide) (by decide) (tok_step 1 0 1 _ (by decide) (by decide) (by decide) (first_word 1 (by decide +kernel) (by decide) (by decide)) (by decide +kernel)
  (.blank (by decide) (by decide) (tok_step 3 0 1 _ (by decide) (by decide) (by decide) (first_sgn 1 (by decide +kernel) (by decide +kernel) (by decide +kernel) (by decide)) (by decide +kernel)
  (.blank (by decide) (by decide) (tok_step 2 1 1 _ (by decide) (by decide) (by decide) (one_num (by decide +kernel) (by decide +kernel) (by decide +kernel)) (by decide +kernel)
  (.done (by decide)))))))))))
  [] (by decide)
theorem c3 : lx.Sc numD s3 0 [] (T3, 0, 0) := lx.Tks.sc
  (tok_step 1 0 1 _ (by decide) (by decide) (by decide) (first_word 1 (by decide +kernel) (by decide) (by decide)) (by decide +kernel)
  (.blank (by decide) (by decide) (.blank (by decide) (by decide) (tok_step 3 0 2 _ (by decide) (by decide) (by decide) (first_sgn 2 (by decide +kernel) (by decide +kernel) (by decide +kernel) (by decide)) (by decide +kernel)
  (.blank (by decide) (by decide) (tok_step 2 1 1 _ (by decide) (by decide) (by decide) (one_num (by decide +kernel) (by decide +kernel) (by decide +kernel)) (by decide +kernel)
  (.done (by decide))))))))
  [] (by decide)
theorem c4 : lx.Sc numD s4 0 [] (T4, 0, 0) := lx.Tks.sc
  (tok_step 1 0 1 _ (by decide) (by decide) (by decide) (first_word 1 (by decide +kernel) (by decide) (by decide)) (by decide +kernel)
  (.blank (by decide) (by decide) (tok_step 3 0 2 _ (by decide) (by decide) (by decide) (first_sgn 2 (by decide +kernel) (by decide +kernel) (by decide +kernel) (by decide)) (by decide +kernel)
  (.blank (by decide) (by decide) (.done (by decide))))))
  [] (by decide)
theorem scan_one {nm : List UInt8 → Int × Bool} {s : ByteArray} {r r' : lx.Res} (h : lx.ScanR nm s r) (hz : s.size ≤ 20000) (h' : lx.Sc nm s 0 [] r') : r = r' := by
  rcases h with ⟨h1, _⟩ | ⟨_, h1⟩
  · omega
  · exact h1.one h'
end Go.Proofs.YtmnigdphikoljaaGreatDoor.et
namespace Go.Proofs.YtmnigdphikoljaaGreatDoor.et
open Go.ChangeShapes Go.WideShapes Go.ChangeAt Go.RowKit Go.Deep

/-- The scope of the examples, its variables in block b. -/
def X0 (b : Nat) : ScX := ⟨none, some ⟨b, 0, none⟩, none, none, none, 0, 0, 2, 2, 0, 0, 0, 0, 0, 0, 0⟩
def xyC : Array Value := #[.string ⟨#[120]⟩, .int .i64 0, .int .i64 0, .int .i64 0, .int .i64 9, .int .i64 0, .string ⟨#[121]⟩, .int .i64 0, .int .i64 0, .int .i64 0, .int .i64 9, .int .i64 0]
theorem sr0 {w : World} {b : Nat} {t : TypeId} (h : w.heap[b]? = some (.cells xyC t (0, 0))) : SR w (X0 b) S0 := by
  have hb := (Array.getElem?_eq_some_iff.1 h).1
  refine ⟨rfl, rfl, rfl, rfl, rfl, rfl, Nat.zero_le _, fun hn => absurd hn (by decide), fun _ => ⟨b, 0, rfl, hb, fun i hi => ?_⟩, fun hn => absurd hn (by decide), fun hn => absurd hn (by decide), fun hn => absurd hn (by decide)⟩
  have hi2 : i = 0 ∨ i = 1 := by have : S0.vars.length = 2 := rfl; omega
  rcases hi2 with rfl | rfl
  · exact ⟨⟨#[120]⟩, 0, 9, 0, cell_of_heap h rfl, cell_of_heap h rfl, cell_of_heap h rfl, cell_of_heap h rfl, cell_of_heap h rfl, cell_of_heap h rfl⟩
  · exact ⟨⟨#[121]⟩, 0, 9, 0, cell_of_heap h rfl, cell_of_heap h rfl, cell_of_heap h rfl, cell_of_heap h rfl, cell_of_heap h rfl, cell_of_heap h rfl⟩
theorem nm0 {w : World} {b : Nat} {t : TypeId} (h : w.heap[b]? = some (.cells xyC t (0, 0))) : NmR w (X0 b) N0 := by
  have hb := (Array.getElem?_eq_some_iff.1 h).1
  refine ⟨rfl, rfl, rfl, rfl, rfl, fun hn => absurd hn (by decide), fun _ => ⟨b, 0, rfl, hb, fun i hi => ?_⟩, fun hn => absurd hn (by decide), fun hn => absurd hn (by decide), fun hn => absurd hn (by decide)⟩
  have hi2 : i = 0 ∨ i = 1 := by have : N0.vars.length = 2 := rfl; omega
  rcases hi2 with rfl | rfl
  · exact cell_of_heap h rfl
  · exact cell_of_heap h rfl
theorem lim0 : Lim N0 := fun op l h => by
  unfold nmOf at h
  repeat' split at h
  all_goals first | (injection h with h; rw [← h]; decide) | cases h
/-- What plain leaves: the scope of the examples. -/
def PlainP (w : World) (e : Ending) (w' : World) : Prop := ∃ b, e = .returned (X0 b).v ∧ SR w' (X0 b) S0 ∧ NmR w' (X0 b) N0 ∧ Below w.heap.size w w'
set_option maxRecDepth 20000 in
theorem plain_any (w : World) : Calls Tryz.prog 17 #[] w (PlainP w) := by
  go_enter Tryz.func17, Tryz.ntmps17
  go_wp2
  have h0 := sr.heap_prev w (.cells #[.slice none 0 0, .slice (some ⟨w.heap.size + 1, 0, none⟩) 2 2, .slice none 0 0, .slice none 0 0, .slice none 0 0, .int .i64 0] 28) (.cells xyC 79)
  have h1 := sr.heap_next w (.cells #[.slice none 0 0, .slice (some ⟨w.heap.size + 1, 0, none⟩) 2 2, .slice none 0 0, .slice none 0 0, .slice none 0 0, .int .i64 0] 28) (.cells xyC 79)
  exact bodyPost_ret (v := (X0 (w.heap.size + 1)).v) (results_cell_row (P := Tryz.prog) Tryz.results17 _ _ w.heap.size 28 _ (0, 0) _ rfl h0 Tryz.underlying28 rfl (by kernel_rfl)) rfl ⟨_, rfl, sr0 h1, nm0 h1, bthen (below_alloc1 _ _) (below_alloc1 _ _)⟩
theorem pa1 {w : World} {b : Nat} {t : TypeId} (h : w.heap[b]? = some (.cells #[.int .i64 2, .int .i64 0, .int .i64 1, .int .i64 1, .int .i64 11, .int .i64 0, .int .i64 1, .int .i64 2, .int .i64 13, .int .i64 0] t (0, 0))) : PA w (some ⟨b, 0, none⟩) e1 := fun _ => by
  refine ⟨b, 0, rfl, (Array.getElem?_eq_some_iff.1 h).1, fun i hi => ?_⟩
  have hi2 : i = 0 ∨ i = 1 ∨ i = 2 ∨ i = 3 ∨ i = 4 := by have : e1.length = 5 := rfl; omega
  rcases hi2 with rfl | rfl | rfl | rfl | rfl <;> exact ⟨cell_of_heap h rfl, cell_of_heap h rfl⟩
theorem pa5 {w : World} {b : Nat} {t : TypeId} (h : w.heap[b]? = some (.cells #[.int .i64 1, .int .i64 1, .int .i64 10, .int .i64 0] t (0, 0))) : PA w (some ⟨b, 0, none⟩) e5 := fun _ => by
  refine ⟨b, 0, rfl, (Array.getElem?_eq_some_iff.1 h).1, fun i hi => ?_⟩
  have hi2 : i = 0 ∨ i = 1 := by have : e5.length = 2 := rfl; omega
  rcases hi2 with rfl | rfl <;> exact ⟨cell_of_heap h rfl, cell_of_heap h rfl⟩
theorem n1 : N64 e1 := by unfold N64; decide
theorem n5 : N64 e5 := by unfold N64; decide
/-- Parse of a text of which it is known what Scan tells. -/
theorem parse_known (X : ScX) (S : Sc) (N : Nm) (s : ByteArray) (w : World) (hs : SR w X S) (hnm : NmR w X N) (hlens : Lim N) (hx : LxW w) (hz : s.size ≤ 20000) (r0 : lx.Res) (hr : lx.Sc numD s 0 [] r0) (p : List (Int × Int) × Int × Int) (hp : parseT S N s r0 = p) :
    Calls Tryz.prog 12 #[.string s, X.v] w fun e w' => (∃ A c, e = .returned (.tuple #[.slice A p.1.length c, .int .i64 p.2.1, .int .i64 p.2.2])) ∧ Below w.heap.size w w' := by
  refine (parse_any X S N s w hs hnm hlens hx).mono ?_
  rintro e w' ⟨r, v, h1, rfl, h2, h3⟩
  obtain rfl := scan_one h1 hz hr
  rw [hp] at h2 ⊢
  obtain ⟨A, c, rfl⟩ := h2.form
  exact ⟨⟨A, c, rfl⟩, h3⟩
set_option maxRecDepth 20000 in
set_option maxHeartbeats 4000000 in
theorem works_any (w : World) (hx : LxW w) : Calls Tryz.prog 9 #[] w fun e w' => e = .returned (.bool true) ∧ Below w.heap.size w w' := by
  have HX := Lib.hid hx
  clear hx
  go_enter Tryz.func9, Tryz.ntmps9
  go_upto_region 2 with (fail)
  have hb1 := below_alloc1 w (.cells #[.int .i64 2, .int .i64 0, .int .i64 1, .int .i64 1, .int .i64 11, .int .i64 0, .int .i64 1, .int .i64 2, .int .i64 13, .int .i64 0] 39)
  have HPA : Hid (PA (w.alloc (.cells #[.int .i64 2, .int .i64 0, .int .i64 1, .int .i64 1, .int .i64 11, .int .i64 0, .int .i64 1, .int .i64 2, .int .i64 13, .int .i64 0] 39)) (some ⟨w.heap.size, 0, none⟩) e1) := Lib.hid (pa1 (World.alloc_heap_new w _))
  have HB1 := Lib.hid hb1
  generalize hgn : w.heap.size = g at *
  generalize w.alloc (.cells #[.int .i64 2, .int .i64 0, .int .i64 1, .int .i64 1, .int .i64 11, .int .i64 0, .int .i64 1, .int .i64 2, .int .i64 13, .int .i64 0] 39) = w1 at *
  clear hb1
  go_wp2_with fail
  refine (plain_any w1).mono ?_
  rintro e w2 ⟨b2, rfl, hs2, hn2, hb2⟩
  have HB2 := Lib.hid (HB1.out.trans (hb2.mono (by have := HB1.out.size; omega)))
  have hTC := text_any (X0 b2) S0 N0 e1 (some ⟨g, 0, none⟩) 5 5 w2 hs2 hn2 lim0 rfl (HPA.out.below hb2) n1 (HX.out.below (by rw [hgn]; exact HB2.out)).tabs
  rw [t1] at hTC
  have HTC := Lib.hid hTC
  clear hTC hs2 hn2 hb2
  unfold X0 ScX.v at HTC ⊢
  dsimp only at HTC ⊢
  go_wp2_with fail
  refine HTC.out.mono ?_
  rintro e w3 ⟨rfl, hb3⟩
  have HB3 := Lib.hid (HB2.out.trans (hb3.mono (by have := HB2.out.size; omega)))
  clear hb3 HTC
  dsimp only
  go_wp2_with fail
  refine (plain_any w3).mono ?_
  rintro e w4 ⟨b4, rfl, hs, hn, hb⟩
  have HB4 := Lib.hid (HB3.out.trans (hb.mono (by have := HB3.out.size; omega)))
  have hTC := parse_known (X0 b4) S0 N0 s2 w4 hs hn lim0 (HX.out.below (by rw [hgn]; exact HB4.out)) (by decide) (T2, 0, 0) c2 ([(2, 0), (2, 1), (12, 0), (1, 1), (12, 0)], 0, 0) p2
  have HTC := Lib.hid hTC
  clear hTC hs hn hb
  unfold X0 ScX.v at HTC ⊢
  dsimp only at HTC ⊢
  unfold s2 at HTC
  go_wp2_with fail
  refine HTC.out.mono ?_
  rintro e w5 ⟨⟨A5, c5, rfl⟩, hb⟩
  have HB5 := Lib.hid (HB4.out.trans (hb.mono (by have := HB4.out.size; omega)))
  clear hb HTC
  dsimp only [List.length]
  go_wp2_with fail
  refine (plain_any w5).mono ?_
  rintro e w6 ⟨b6, rfl, hs, hn, hb⟩
  have HB6 := Lib.hid (HB5.out.trans (hb.mono (by have := HB5.out.size; omega)))
  have hTC := parse_known (X0 b6) S0 N0 s3 w6 hs hn lim0 (HX.out.below (by rw [hgn]; exact HB6.out)) (by decide) (T3, 0, 0) c3 ([], 2, 13) p3
  have HTC := Lib.hid hTC
  clear hTC hs hn hb
  unfold X0 ScX.v at HTC ⊢
  dsimp only at HTC ⊢
  unfold s3 at HTC
  go_wp2_with fail
  refine HTC.out.mono ?_
  rintro e w7 ⟨⟨A7, c7, rfl⟩, hb⟩
  have HB7 := Lib.hid (HB6.out.trans (hb.mono (by have := HB6.out.size; omega)))
  clear hb HTC
  dsimp only [List.length]
  go_wp2_with fail
  refine (plain_any w7).mono ?_
  rintro e w8 ⟨b8, rfl, hs, hn, hb⟩
  have HB8 := Lib.hid (HB7.out.trans (hb.mono (by have := HB7.out.size; omega)))
  have hTC := parse_known (X0 b8) S0 N0 s4 w8 hs hn lim0 (HX.out.below (by rw [hgn]; exact HB8.out)) (by decide) (T4, 0, 0) c4 ([], 5, 3) p4
  have HTC := Lib.hid hTC
  clear hTC hs hn hb
  unfold X0 ScX.v at HTC ⊢
  dsimp only at HTC ⊢
  unfold s4 at HTC
  go_wp2_with fail
  refine HTC.out.mono ?_
  rintro e w9 ⟨⟨A9, c9, rfl⟩, hb⟩
  have HB9 := Lib.hid (HB8.out.trans (hb.mono (by have := HB8.out.size; omega)))
  clear hb HTC
  dsimp only [List.length]
  have hb := below_alloc1 w9 (.cells #[.int .i64 1, .int .i64 1, .int .i64 10, .int .i64 0] 39)
  have HPB : Hid (PA (w9.alloc (.cells #[.int .i64 1, .int .i64 1, .int .i64 10, .int .i64 0] 39)) (some ⟨w9.heap.size, 0, none⟩) e5) := Lib.hid (pa5 (World.alloc_heap_new w9 _))
  have HB10 := Lib.hid (HB9.out.trans (hb.mono (by have := HB9.out.size; omega)))
  clear hb
  go_wp2_with fail
  generalize w9.heap.size = g9 at *
  generalize w9.alloc (.cells #[.int .i64 1, .int .i64 1, .int .i64 10, .int .i64 0] 39) = w10 at *
  refine (plain_any w10).mono ?_
  rintro e w11 ⟨b11, rfl, hs, hn, hb⟩
  have HB11 := Lib.hid (HB10.out.trans (hb.mono (by have := HB10.out.size; omega)))
  have hTC := text_any (X0 b11) S0 N0 e5 (some ⟨g9, 0, none⟩) 2 2 w11 hs hn lim0 rfl (HPB.out.below hb) n5 (HX.out.below (by rw [hgn]; exact HB11.out)).tabs
  rw [t5] at hTC
  have HTC := Lib.hid hTC
  clear hTC hs hn hb
  unfold X0 ScX.v at HTC ⊢
  dsimp only at HTC ⊢
  go_wp2_with fail
  refine HTC.out.mono ?_
  rintro e w12 ⟨rfl, hb⟩
  have HB12 := Lib.hid (HB11.out.trans (hb.mono (by have := HB11.out.size; omega)))
  clear hb HTC
  dsimp only
  go_wp2
  go_ret
  rw [hgn]
  exact ⟨rfl, HB12.out⟩
end Go.Proofs.YtmnigdphikoljaaGreatDoor.et
namespace Go.Proofs.YtmnigdphikoljaaGreatDoor.et
open Go.ChangeShapes Go.WideShapes Go.ChangeAt Go.RowKit Go.Deep

/-- Is it not too large? -/
def lightF (n : Nat) (X : ScX) : Bool := decide (n ≤ 60 ∧ X.n1 ≤ 10 ∧ X.n2 ≤ 30 ∧ X.n3 ≤ 20 ∧ X.n4 ≤ 20 ∧ X.n5 ≤ 20)
theorem light_lim {n : Nat} {X : ScX} (h : lightF n X = true) {w : World} {N : Nm} (hn : NmR w X N) : n ≤ 60 ∧ Lim N := by
  have h := of_decide_eq_true h
  refine ⟨h.1, fun op l hl => ?_⟩
  have e1 := hn.l1
  have e2 := hn.l2
  have e3 := hn.l3
  have e4 := hn.l4
  have e5 := hn.l5
  unfold nmOf at hl
  repeat' split at hl
  all_goals first | (injection hl with hl; rw [← hl]; omega) | cases hl
set_option maxRecDepth 20000 in
set_option maxHeartbeats 4000000 in
theorem light_any (A : Option Addr) (n c : Nat) (X : ScX) (w : World) : Calls Tryz.prog 8 #[.slice A n c, X.v] w fun e w' => e = .returned (.int .i64 (if lightF n X then 1 else 0)) ∧ Below w.heap.size w w' := by
  by_cases h0 : n ≤ 60
  · skip
    by_cases h1 : X.n1 ≤ 10
    · skip
      by_cases h2 : X.n2 ≤ 30
      · skip
        by_cases h3 : X.n3 ≤ 20
        · skip
          by_cases h4 : X.n4 ≤ 20
          · skip
            by_cases h5 : X.n5 ≤ 20
            · have HE : Hid (lightF n X = true) := Lib.hid (decide_eq_true ⟨h0, h1, h2, h3, h4, h5⟩)
              have g0 : ¬ (60 : Int) < (n : Int) := by omega
              have g1 : ¬ (10 : Int) < (X.n1 : Int) := by omega
              have g2 : ¬ (30 : Int) < (X.n2 : Int) := by omega
              have g3 : ¬ (20 : Int) < (X.n3 : Int) := by omega
              have g4 : ¬ (20 : Int) < (X.n4 : Int) := by omega
              have g5 : ¬ (20 : Int) < (X.n5 : Int) := by omega
              clear h0 h1 h2 h3 h4 h5
              rw [HE.out]
              unfold ScX.v
              go_enter Tryz.func8, Tryz.ntmps8
              go_wp2
              go_ret
              exact ⟨rfl, below_alloc1 _ _⟩
            · have HE : Hid (lightF n X = false) := Lib.hid (decide_eq_false (fun h => by omega))
              have g0 : ¬ (60 : Int) < (n : Int) := by omega
              have g1 : ¬ (10 : Int) < (X.n1 : Int) := by omega
              have g2 : ¬ (30 : Int) < (X.n2 : Int) := by omega
              have g3 : ¬ (20 : Int) < (X.n3 : Int) := by omega
              have g4 : ¬ (20 : Int) < (X.n4 : Int) := by omega
              have g5 : (20 : Int) < (X.n5 : Int) := by omega
              clear h0 h1 h2 h3 h4 h5
              rw [HE.out]
              unfold ScX.v
              go_enter Tryz.func8, Tryz.ntmps8
              go_wp2
              go_ret
              exact ⟨rfl, below_alloc1 _ _⟩
          · have HE : Hid (lightF n X = false) := Lib.hid (decide_eq_false (fun h => by omega))
            have g0 : ¬ (60 : Int) < (n : Int) := by omega
            have g1 : ¬ (10 : Int) < (X.n1 : Int) := by omega
            have g2 : ¬ (30 : Int) < (X.n2 : Int) := by omega
            have g3 : ¬ (20 : Int) < (X.n3 : Int) := by omega
            have g4 : (20 : Int) < (X.n4 : Int) := by omega
            clear h0 h1 h2 h3 h4
            rw [HE.out]
            unfold ScX.v
            go_enter Tryz.func8, Tryz.ntmps8
            go_wp2
            go_ret
            exact ⟨rfl, below_alloc1 _ _⟩
        · have HE : Hid (lightF n X = false) := Lib.hid (decide_eq_false (fun h => by omega))
          have g0 : ¬ (60 : Int) < (n : Int) := by omega
          have g1 : ¬ (10 : Int) < (X.n1 : Int) := by omega
          have g2 : ¬ (30 : Int) < (X.n2 : Int) := by omega
          have g3 : (20 : Int) < (X.n3 : Int) := by omega
          clear h0 h1 h2 h3
          rw [HE.out]
          unfold ScX.v
          go_enter Tryz.func8, Tryz.ntmps8
          go_wp2
          go_ret
          exact ⟨rfl, below_alloc1 _ _⟩
      · have HE : Hid (lightF n X = false) := Lib.hid (decide_eq_false (fun h => by omega))
        have g0 : ¬ (60 : Int) < (n : Int) := by omega
        have g1 : ¬ (10 : Int) < (X.n1 : Int) := by omega
        have g2 : (30 : Int) < (X.n2 : Int) := by omega
        clear h0 h1 h2
        rw [HE.out]
        unfold ScX.v
        go_enter Tryz.func8, Tryz.ntmps8
        go_wp2
        go_ret
        exact ⟨rfl, below_alloc1 _ _⟩
    · have HE : Hid (lightF n X = false) := Lib.hid (decide_eq_false (fun h => by omega))
      have g0 : ¬ (60 : Int) < (n : Int) := by omega
      have g1 : (10 : Int) < (X.n1 : Int) := by omega
      clear h0 h1
      rw [HE.out]
      unfold ScX.v
      go_enter Tryz.func8, Tryz.ntmps8
      go_wp2
      go_ret
      exact ⟨rfl, below_alloc1 _ _⟩
  · have HE : Hid (lightF n X = false) := Lib.hid (decide_eq_false (fun h => by omega))
    have g0 : (60 : Int) < (n : Int) := by omega
    clear h0
    rw [HE.out]
    unfold ScX.v
    go_enter Tryz.func8, Tryz.ntmps8
    go_wp2
    go_ret
    exact ⟨rfl, below_alloc1 _ _⟩
end Go.Proofs.YtmnigdphikoljaaGreatDoor.et
namespace Go.Proofs.YtmnigdphikoljaaGreatDoor
open Go.ChangeShapes Go.WideShapes Go.ChangeAt Go.RowKit

set_option maxHeartbeats 4000000 in
theorem refTakes_any (op : Int) (w : World) : Calls Tryz.prog 33 #[.int .i64 op] w fun e w' => e = .returned (.int .i64 (takesZ op)) ∧ w = w' := by
  by_cases h : op < 1 ∨ 19 < op
  · have hc : op ≠ 1 ∧ op ≠ 2 ∧ op ≠ 3 ∧ op ≠ 4 ∧ op ≠ 5 ∧ op ≠ 6 ∧ op ≠ 7 ∧ op ≠ 8 ∧ op ≠ 9 ∧ op ≠ 10 ∧ op ≠ 11 ∧ op ≠ 12 ∧ op ≠ 13 ∧ op ≠ 14 ∧ op ≠ 15 ∧ op ≠ 16 ∧ op ≠ 17 ∧ op ≠ 18 ∧ op ≠ 19 := by omega
    obtain ⟨h1, h2, h3, h4, h5, h6, h7, h8, h9, h10, h11, h12, h13, h14, h15, h16, h17, h18, h19⟩ := hc
    have HT : Hid (takesZ op = -1) := Lib.hid (by unfold takesZ; rw [if_neg (by omega), if_neg (by omega), if_neg (by omega)])
    rw [HT.out]
    clear h
    go_enter Tryz.func33, Tryz.ntmps33
    go_wp2
    go_ret
    exact ⟨rfl, rfl⟩
  · have hc : op = 1 ∨ op = 2 ∨ op = 3 ∨ op = 4 ∨ op = 5 ∨ op = 6 ∨ op = 7 ∨ op = 8 ∨ op = 9 ∨ op = 10 ∨ op = 11 ∨ op = 12 ∨ op = 13 ∨ op = 14 ∨ op = 15 ∨ op = 16 ∨ op = 17 ∨ op = 18 ∨ op = 19 := by omega
    clear h
    rcases hc with rfl | rfl | rfl | rfl | rfl | rfl | rfl | rfl | rfl | rfl | rfl | rfl | rfl | rfl | rfl | rfl | rfl | rfl | rfl
    all_goals
      go_enter Tryz.func33, Tryz.ntmps33
      go_wp2
      go_ret
      exact ⟨rfl, rfl⟩

theorem spans_fail {e : List (Int × Int)} {k : Nat} {S : Sp} (hk : k < e.length) (h : spAt e k = some S) (hc : takesZ (e.getD k (0, 0)).1 < 0 ∨ (S.st.length : Int) < takesZ (e.getD k (0, 0)).1) : spansF e = none := by
  unfold spansF
  rw [spAt_none (spAt_stop h hc) _ hk]

set_option maxRecDepth 20000 in
set_option maxHeartbeats 4000000 in
theorem refSpans_any (e : List (Int × Int)) (A : Option Addr) (c m : Nat) (w : World) (hm : m = e.length) (hm2 : m ≤ 1000) (hA : PA w A e) :
    Calls Tryz.prog 56 #[.slice A m c] w (SpansP w (spansF e)) := by
  have HM := Lib.hid hm
  have HA := Lib.hid hA
  clear hm hA
  go_enter Tryz.func56, Tryz.ntmps56
  go_wp2
  go_loopw [4, 5] (fun v i wr => ∃ (k : Nat) (B : Option Addr) (d : Nat) (S : Sp), k ≤ m ∧ i = .int .i64 k ∧ v = .slice B k d ∧ Hid (OI w.heap.size wr (.slice B k d) S.out) ∧ Hid (spAt e k = some S) ∧ Hid (Below w.heap.size w wr)) (fun _ i _ => m - (intOf i).toNat)
  case atStart => exact ⟨0, none, 0, ⟨[], []⟩, Nat.zero_le _, rfl, rfl, Lib.hid (OI.nil _ _), Lib.hid rfl, Lib.hid (Below.refl _ _)⟩
  case round =>
    obtain ⟨k, B, d, S, hk, rfl, rfl, HO, HS, HB⟩ := hrel
    have HOK := Lib.hid (spAt_ok HS.out)
    by_cases hlt : k < m
    · have HK : Hid (k < e.length) := Lib.hid (by rw [← HM.out]; exact hlt)
      obtain ⟨b, o, rfl, hb, hc⟩ := (HA.out.below HB.out) (by rw [← HM.out]; omega)
      obtain ⟨c1, _⟩ := hc k HK.out
      obtain ⟨op, HOP⟩ : ∃ op, Hid ((e.getD k (0, 0)).1 = op) := ⟨_, Lib.hid rfl⟩
      rw [HOP.out] at c1
      clear hc
      go_wp2_with fail
      refine (refTakes_any op wr).mono ?_
      rintro x w' ⟨rfl, rfl⟩
      clear c1
      have hr := takesZ_range op
      by_cases hneg : takesZ op < 0
      · have HE : Hid (spansF e = none) := Lib.hid (spans_fail HK.out HS.out (.inl (by rw [HOP.out]; exact hneg)))
        obtain ⟨z, hz⟩ : ∃ z, takesZ op = z := ⟨_, rfl⟩
        rw [hz] at hneg ⊢
        clear hz hr
        go_wp2
        go_ret2
        refine ⟨HB.out, ?_⟩
        rw [HE.out]
        rfl
      · obtain ⟨t, HT⟩ : ∃ t : Nat, Hid (takesZ op = t) := ⟨(takesZ op).toNat, Lib.hid (by omega)⟩
        have ht2 : t ≤ 2 := by have := HT.out; omega
        rw [HT.out]
        clear hneg hr
        go_wp2
        go_loop [7, 8] (fun f j => ∃ (s q : Nat), q ≤ t ∧ s ≤ k ∧ j = .int .i64 q ∧ f = .int .i64 s ∧ Hid (q ≤ S.st.length ∧ Ch S.out s (S.st.take (S.st.length - q)) ∧ (0 < q → S.st.getD (S.st.length - q) 0 = (s : Int)) ∧ (q = 0 → s = k))) (fun _ j => t - (intOf j).toNat)
        case atStart => exact ⟨k, 0, Nat.zero_le _, Nat.le_refl _, rfl, rfl, Lib.hid ⟨Nat.zero_le _, by rw [Nat.sub_zero, List.take_length]; exact HOK.out.2.1, fun h => absurd h (by omega), fun _ => rfl⟩⟩
        case round =>
          obtain ⟨s, q, hq, hs, rfl, rfl, HQ⟩ := hrel
          by_cases hqt : q < t
          · by_cases hql : q < S.st.length
            · obtain ⟨hs0, q2, h1, h2, hg, h3⟩ := HOK.out.2.1.step hql HQ.out.2.1
              have HN : Hid (q + 1 ≤ S.st.length ∧ Ch S.out q2 (S.st.take (S.st.length - (q + 1))) ∧ (0 < q + 1 → S.st.getD (S.st.length - (q + 1)) 0 = (q2 : Int)) ∧ (q + 1 = 0 → q2 = k)) := Lib.hid ⟨hql, h3, fun _ => hg, fun h => absurd h (by omega)⟩
              have hok1 : S.out.length = k := HOK.out.1
              obtain ⟨B', d', hf, hi⟩ := HO.out.form
              injection hf with hf hfa hfb
              subst hf
              clear hfa hfb
              obtain ⟨b2, o2, rfl, hb2, hc2⟩ := hi (by omega)
              have c2 := hc2 (s - 1) (by omega)
              rw [h2] at c2
              obtain ⟨s', rfl⟩ : ∃ s', s = s' + 1 := ⟨s - 1, by omega⟩
              rw [Nat.add_sub_cancel] at c2
              clear h2 hg h3 hi hc2 hok1
              go_wp2
              go_round
              case rel => exact ⟨q2, q + 1, by omega, by omega, by go_num, rfl, HN⟩
              case measure => simp [intOf]; omega
            · have hs0 : s = 0 := by
                have h := HQ.out.2.1
                have e : q = S.st.length := by have := HQ.out.1; omega
                rw [e] at h
                exact h.stop
              subst hs0
              have HE : Hid (spansF e = none) := Lib.hid (spans_fail HK.out HS.out (.inr (by rw [HOP.out, HT.out]; omega)))
              go_wp2
              go_ret2
              refine ⟨HB.out, ?_⟩
              rw [HE.out]
              rfl
          · obtain rfl : q = t := by omega
            have HTK : Hid (takesZ (e.getD k (0, 0)).1 = (q : Int)) := Lib.hid (by rw [HOP.out, HT.out])
            have HV : Hid ((spF k (e.getD k (0, 0)) (S.st.drop (S.st.length - q))).1 = (s : Int)) := Lib.hid (by
              unfold spF
              by_cases h0 : q = 0
              · subst h0
                rw [if_neg (by simp), HQ.out.2.2.2 rfl]
              · rw [if_pos (by have := HQ.out.1; simp; omega), ← HQ.out.2.2.1 (by omega)]
                simp [List.getD])
            have HNX := Lib.hid (spAt_next HS.out HTK.out HQ.out.1)
            rw [HV.out] at HNX
            have hwz : w.heap.size ≤ wr.heap.size := HB.out.size
            have HL : Hid (S.out.length = k) := Lib.hid HOK.out.1
            have HLX : Hid ((S.out ++ [(s : Int)]).length = k + 1) := Lib.hid (by simp [HL.out])
            clear hqt
            go_wp2_with (at_builtin; refine append_one rfl (.tmp 36) (.tmp 38) rfl w.heap.size _ S.out rfl HO.out (s : Int) rfl (by have := HL.out; omega) hwz ?_; intro v4 w4 ho4 hb4; obtain ⟨A4, c4, rfl, _⟩ := ho4.form; rw [HLX.out] at ho4 ⊢; have HO4 := Lib.hid ho4; have HB4 := Lib.hid hb4; clear ho4 hb4)
            go_roundw
            case rel => exact ⟨k + 1, A4, c4, _, by omega, by go_num, rfl, HO4, HNX, Lib.hid (HB.out.trans (HB4.out.mono (Nat.le_refl _)))⟩
            case measure => simp [intOf]; omega
    · obtain rfl : k = m := by omega
      have HSP : Hid (spansF e = if S.st.length = 1 then some S.out else none) := Lib.hid (by
        have h := HS.out
        unfold spansF
        rw [← HM.out, h])
      clear hlt
      by_cases h0 : k = 0
      · subst h0
        have HE : Hid (spansF e = none) := Lib.hid (by rw [HSP.out, if_neg (by have := HOK.out.2.2; omega)])
        go_wp2
        go_ret2
        refine ⟨HB.out, ?_⟩
        rw [HE.out]
        rfl
      · have hok1 : S.out.length = k := HOK.out.1
        obtain ⟨B', d', hf, hi⟩ := HO.out.form
        injection hf with hf hfa hfb
        subst hf
        clear hfa hfb
        obtain ⟨b2, o2, rfl, hb2, hc2⟩ := hi (by omega)
        have c2 := hc2 (k - 1) (by omega)
        obtain ⟨s, st', e1, e2, e3, e4⟩ := HOK.out.2.1.pos (by omega)
        rw [e3] at c2
        obtain ⟨k', rfl⟩ : ∃ k', k = k' + 1 := ⟨k - 1, by omega⟩
        rw [Nat.add_sub_cancel] at c2
        by_cases hs : s = 0
        · subst hs
          have HE : Hid (spansF e = some S.out) := Lib.hid (by rw [HSP.out, if_pos]; rw [e1, e4.zero]; rfl)
          have HL : Hid (S.out.length = k' + 1) := Lib.hid hok1
          clear e1 e3 e4 hi hc2 hok1 h0
          go_wp2
          go_ret2
          refine ⟨HB.out, ?_⟩
          rw [HE.out]
          obtain ⟨A5, c5, f5, i5, _⟩ := HO.out.ins
          rw [HL.out] at f5
          injection f5 with f5 _ f6
          subst f5 f6
          exact ⟨_, _, by rw [HL.out]; rfl, i5⟩
        · have hs2 : ((s : Int) != 0) = true := by simpa using hs
          have HE : Hid (spansF e = none) := Lib.hid (by
            rw [HSP.out, if_neg]
            intro h1
            rw [e1] at h1
            have hz : st' = [] := List.eq_nil_of_length_eq_zero (by simpa using h1)
            rw [hz] at e4
            rcases Nat.eq_zero_or_pos s with g | g
            · exact hs g
            · obtain ⟨_, _, e, _⟩ := e4.pos g
              simp at e)
          clear e1 e3 e4 hi hc2 hok1 h0
          go_wp2
          go_ret2
          refine ⟨HB.out, ?_⟩
          rw [HE.out]
          rfl

end Go.Proofs.YtmnigdphikoljaaGreatDoor
namespace Go.Proofs.YtmnigdphikoljaaGreatDoor
open Go.ChangeShapes Go.WideShapes Go.ChangeAt Go.RowKit

theorem pair_of {a b : Int} {r : Int × Int} (h : r = (a, b)) : Ending.returned (.tuple #[.int .i64 r.1, .int .i64 r.2]) = .returned (.tuple #[.int .i64 a, .int .i64 b]) := by rw [h]
end Go.Proofs.YtmnigdphikoljaaGreatDoor
