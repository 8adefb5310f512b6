/- Contracts of package ring: New, Len, full, place, lift. -/
import Derived.Test.YtfhapodidjkmaaaLaw
import Derived.Laws.MakeOwn
import Derived.Deep.RegionWith
namespace Go.Proofs.Ytfhapodidjkmaaa
open Go.ChangeShapes Go.WideShapes Go.ChangeAt Go.RowKit

/-- What lies in a queue's struct. -/
def headQ (most : Nat) (P : Option Addr) (L f k : Nat) : Nat → Value
  | 0 => .int .i64 most
  | 1 => .slice P L L
  | 2 => .int .i64 f
  | _ => .int .i64 k
/-- The address of a row's start. -/
def at0 : Option Nat → Option Addr
  | none => none
  | some b => some ⟨b, 0, none⟩
/-- A queue: its struct in block s, its places in block t (none: nil). -/
structure QP (w : World) (s : Nat) (t : Option Nat) (most L f k : Nat) (g : Nat → Value) : Prop where
  head : w.rowIs s 44 4 (headQ most (at0 t) L f k)
  row : ∀ b, t = some b → w.rowIs b 3 L g
  non : t = none → L = 0
  som : t ≠ none → 0 < L
  room : k ≤ L
  lm : L ≤ most
  mm : most ≤ 65536
  fz : L = 0 → f = 0
  fl : 0 < L → f < L
theorem QP.drewN {w : World} {s : Nat} {t : Option Nat} {most L f k : Nat} {g : Nat → Value} (h : QP w s t most L f k g) (j : Nat) : QP (w.drewN j) s t most L f k g :=
  ⟨h.head, h.row, h.non, h.som, h.room, h.lm, h.mm, h.fz, h.fl⟩
theorem QP.of_blocks {w w' : World} {s : Nat} {t : Option Nat} {most L f k : Nat} {g : Nat → Value} (h : QP w s t most L f k g) (h1 : w'.heap[s]? = w.heap[s]?) (h2 : ∀ b, t = some b → w'.heap[b]? = w.heap[b]?) : QP w' s t most L f k g :=
  ⟨h.head.of_block h1, fun b e => (h.row b e).of_block (h2 b e), h.non, h.som, h.room, h.lm, h.mm, h.fz, h.fl⟩

theorem md {f i L : Nat} (hf : f < L) (hi : i < L) : (f + i) % L = if f + i < L then f + i else f + i - L := by
  by_cases h : f + i < L
  · rw [if_pos h, Nat.mod_eq_of_lt h]
  · rw [if_neg h, Nat.mod_eq_sub_mod (by omega), Nat.mod_eq_of_lt (by omega)]
theorem md_inj {f i j L : Nat} (hf : f < L) (hi : i < L) (hj : j < L) (h : (f + i) % L = (f + j) % L) : i = j := by
  rw [md hf hi, md hf hj] at h
  split at h <;> split at h <;> omega
theorem md_lt {f i L : Nat} (hL : 0 < L) : (f + i) % L < L := Nat.mod_lt _ hL

structure Turns (w w' : World) (s : Nat) (t : Option Nat) : Prop where
  os : w'.os = w.os
  tape : w'.tape = w.tape
  output : w'.output = w.output
  size : w.heap.size ≤ w'.heap.size
  block : ∀ k, k < w.heap.size → k ≠ s → t ≠ some k → w'.heap[k]? = w.heap[k]?
theorem Turns.below {w w' : World} {s B : Nat} {t : Option Nat} (h : Turns w w' s t) (hs : B ≤ s) (ht : ∀ b, t = some b → B ≤ b) (hB : B ≤ w.heap.size) : Below B w w' :=
  ⟨h.os, h.tape, h.output, h.size, fun k hk => h.block k (by omega) (by omega) (fun e => by have := ht k e; omega)⟩
theorem Turns.drewN (w : World) (j s : Nat) (t : Option Nat) : Turns w (w.drewN j) s t := ⟨rfl, rfl, rfl, Nat.le_refl _, fun _ _ _ _ => rfl⟩
theorem Turns.set (w : World) (j s : Nat) (t : Option Nat) (a : Addr) (v : Value) (ha : a.block = s ∨ t = some a.block) : Turns w ((w.drewN j).setCell a v) s t :=
  ⟨rfl, rfl, rfl, by simp, fun k _ h1 h2 => Below.heap_setCell (w.drewN j) a _ k (fun e => by subst e; exact ha.elim h1 h2)⟩
theorem Turns.trans {w w' w'' : World} {s : Nat} {t t' : Option Nat} (h : Turns w w' s t) (k : Turns w' w'' s t') (ht : t' = t ∨ ∃ b, t' = some b ∧ w.heap.size ≤ b) : Turns w w'' s t :=
  ⟨k.os.trans h.os, k.tape.trans h.tape, k.output.trans h.output, Nat.le_trans h.size k.size, fun q hq h1 h2 => (k.block q (Nat.lt_of_lt_of_le hq h.size) h1 (fun e => by
    rcases ht with rfl | ⟨b, rfl, hb⟩
    · exact h2 e
    · injection e with e; omega)).trans (h.block q hq h1 h2)⟩
/-- Thing a of g is x. -/
def setG (g : Nat → Value) (a : Nat) (x : Value) : Nat → Value := fun i => if i = a then x else g i
theorem QP.ne {w : World} {s b : Nat} {most L f k : Nat} {g : Nat → Value} (h : QP w s (some b) most L f k g) : s ≠ b := fun e => by
  obtain ⟨c, hc, _⟩ := h.head
  obtain ⟨c', hc', _⟩ := h.row b rfl
  rw [e, hc'] at hc
  injection hc with hc
  injection hc with _ hc
  exact absurd hc (by decide)
theorem QP.put {w : World} {s b : Nat} {most L f k : Nat} {g : Nat → Value} (h : QP w s (some b) most L f k g) (a : Nat) (x : Value) : QP (w.setCell ⟨b, a, none⟩ x) s (some b) most L f k (setG g a x) := by
  have hne : s ≠ b := fun e => by
    obtain ⟨c, hc, _⟩ := h.head
    obtain ⟨c', hc', _⟩ := h.row b rfl
    rw [e, hc'] at hc
    injection hc with hc
    injection hc with _ hc
    exact absurd hc (by decide)
  refine ⟨World.rowIs.setOther h.head (a := ⟨b, a, none⟩) hne _, fun b' e => ?_, h.non, h.som, h.room, h.lm, h.mm, h.fz, h.fl⟩
  obtain rfl : b = b' := by injection e
  refine (World.rowIs.set (h.row b rfl) a _).congr (fun i _ => ?_)
  unfold setG
  by_cases e : i = a
  · rw [if_pos e]
  · rw [if_neg e]
theorem QP.first {w : World} {s : Nat} {t : Option Nat} {most L f k : Nat} {g : Nat → Value} (h : QP w s t most L f k g) (f' : Nat) (hf : f' < L) : QP (w.setCell ⟨s, 2, none⟩ (.int .i64 f')) s t most L f' k g := by
  refine ⟨(World.rowIs.set h.head 2 _).congr (fun i hi => ?_), fun b e => World.rowIs.setOther (h.row b e) (a := ⟨s, 2, none⟩) (fun e' => ?_) _, h.non, h.som, h.room, h.lm, h.mm, fun e => by omega, fun _ => hf⟩
  · match i, hi with
    | 0, _ | 1, _ | 2, _ | 3, _ => rfl
  · obtain ⟨c, hc, _⟩ := h.head
    obtain ⟨c', hc', _⟩ := h.row b e
    have e2 : b = s := e'
    rw [← e2, hc'] at hc
    injection hc with hc
    injection hc with _ hc
    exact absurd hc (by decide)
theorem QP.count {w : World} {s : Nat} {t : Option Nat} {most L f k : Nat} {g : Nat → Value} (h : QP w s t most L f k g) (k' : Nat) (hk : k' ≤ L) : QP (w.setCell ⟨s, 3, none⟩ (.int .i64 k')) s t most L f k' g := by
  refine ⟨(World.rowIs.set h.head 3 _).congr (fun i hi => ?_), fun b e => World.rowIs.setOther (h.row b e) (a := ⟨s, 3, none⟩) (fun e' => ?_) _, h.non, h.som, hk, h.lm, h.mm, h.fz, h.fl⟩
  · match i, hi with
    | 0, _ | 1, _ | 2, _ | 3, _ => rfl
  · obtain ⟨c, hc, _⟩ := h.head
    obtain ⟨c', hc', _⟩ := h.row b e
    have e2 : b = s := e'
    rw [← e2, hc'] at hc
    injection hc with hc
    injection hc with _ hc
    exact absurd hc (by decide)

theorem place_any {w : World} {s : Nat} {t : Option Nat} {most L f k : Nat} {g : Nat → Value} (h : QP w s t most L f k g) (i : Nat) (hi : i ≤ 65536) (hL : 0 < L) :
    Calls Try.prog 57 #[.pointer (some ⟨s, 0, none⟩), .int .i64 i] w fun e w' => e = .returned (.int .i64 (((f + i) % L : Nat) : Int)) ∧ ∃ j, w' = w.drewN j := by
  have c1 := h.head.cell (i := 1) (by omega)
  have c2 := h.head.cell (i := 2) (by omega)
  simp only [headQ] at c1 c2
  have h1 := h.lm
  have h2 := h.mm
  have h3 := h.fl hL
  have hs : IntKind.i64.wrap ((f : Int) + (i : Int)) = ((f + i : Nat) : Int) := by rw [IntWalk.i64_in _ (by omega)]; rfl
  have hq : ((L : Int) == 0) = false := by simpa using (by omega : L ≠ 0)
  clear h
  go_enter Try.func57, Try.ntmps57
  go_wp2
  go_quiet (fail)
  go_wp2
  go_ret
  refine ⟨?_, nq, rfl⟩
  exact ret_int (by rw [Int.natCast_emod, Int.natCast_add])

theorem len_any {w : World} {s : Nat} {t : Option Nat} {most L f k : Nat} {g : Nat → Value} (h : QP w s t most L f k g) :
    Calls Try.prog 26 #[.pointer (some ⟨s, 0, none⟩)] w fun e w' => e = .returned (.int .i64 k) ∧ w = w' := by
  have c1 := h.head.cell (i := 3) (by omega)
  simp only [headQ] at c1
  clear h
  go_enter Try.func26, Try.ntmps26
  go_wp2
  go_ret
  exact ⟨rfl, rfl⟩
theorem len_nil (w : World) :
    Calls Try.prog 26 #[.pointer none] w fun e w' => e = .returned (.int .i64 (0 : Nat)) ∧ w = w' := by
  go_enter Try.func26, Try.ntmps26
  go_wp2
  go_ret
  exact ⟨rfl, rfl⟩

theorem full_any {w : World} {s : Nat} {t : Option Nat} {most L f k : Nat} {g : Nat → Value} (h : QP w s t most L f k g) :
    Calls Try.prog 55 #[.pointer (some ⟨s, 0, none⟩)] w fun e w' => e = .returned (.bool (decide (k = most))) ∧ ∃ j, w' = w.drewN j := by
  have c1 := h.head.cell (i := 0) (by omega)
  have c2 := h.head.cell (i := 3) (by omega)
  simp only [headQ] at c1 c2
  clear h
  go_enter Try.func55, Try.ntmps55
  go_wp2
  go_quiet (fail)
  go_wp2
  go_ret
  refine ⟨ret_bool ?_, nq, rfl⟩
  rw [Bool.eq_iff_iff]; simp; omega
theorem full_nil (w : World) :
    Calls Try.prog 55 #[.pointer none] w fun e w' => e = .returned (.bool true) ∧ ∃ j, w' = w.drewN j := by
  go_enter Try.func55, Try.ntmps55
  go_wp2
  go_quiet (fail)
  go_wp2
  go_ret
  exact ⟨rfl, nq, rfl⟩

/-- A queue of most in which l stands. -/
def QU (w : World) (s : Nat) (t : Option Nat) (most : Nat) (l : List Int) : Prop := ∃ L f g, QP w s t most L f l.length g ∧ ∀ i, i < l.length → g ((f + i) % L) = (.int .i64 (l.getD i (0 : Int)))
theorem QU.of_blocks {w w' : World} {s : Nat} {t : Option Nat} {most : Nat} {l : List Int} (h : QU w s t most l) (h1 : w'.heap[s]? = w.heap[s]?) (h2 : ∀ b, t = some b → w'.heap[b]? = w.heap[b]?) : QU w' s t most l := by
  obtain ⟨L, f, g, h, k⟩ := h
  exact ⟨L, f, g, h.of_blocks h1 h2, k⟩
theorem QU.lt {w : World} {s : Nat} {t : Option Nat} {most : Nat} {l : List Int} (h : QU w s t most l) : s < w.heap.size ∧ ∀ b, t = some b → b < w.heap.size := by
  obtain ⟨L, f, g, h, k⟩ := h
  exact ⟨h.head.lt, fun b e => (h.row b e).lt⟩
theorem QU.keep {w w' : World} {s : Nat} {t : Option Nat} {most : Nat} {l : List Int} (h : QU w s t most l) (hb : Below w.heap.size w w') : QU w' s t most l :=
  h.of_blocks (hb.block s h.lt.1) (fun b e => hb.block b (h.lt.2 b e))
theorem QU.room {w : World} {s : Nat} {t : Option Nat} {most : Nat} {l : List Int} (h : QU w s t most l) : l.length ≤ most ∧ most ≤ 65536 := by
  obtain ⟨L, f, g, h, k⟩ := h
  exact ⟨Nat.le_trans h.room h.lm, h.mm⟩
theorem QU.other {w w' : World} {s s' : Nat} {t t' : Option Nat} {most : Nat} {l : List Int} (h : QU w s t most l) (hT : Turns w w' s' t') (hs : s ≠ s') (ht : t = none ∨ t ≠ t') (hc : ∀ b, t' = some b → b ≠ s) (hd : t ≠ some s') : QU w' s t most l :=
  h.of_blocks (hT.block s h.lt.1 hs (fun e => hc s e rfl)) (fun b e => hT.block b (h.lt.2 b e) (fun e2 => hd (by rw [e, e2])) (fun e2 => by
    rcases ht with ht | ht
    · rw [ht] at e; cases e
    · exact ht (by rw [e, e2])))

theorem lift_any {w : World} {s b : Nat} {most L f k : Nat} {g : Nat → Value} (h : QP w s (some b) most L f k g) (i : Nat) (hi : i < L) (x : Int) (hx : g ((f + i) % L) = (.int .i64 x)) :
    Calls Try.prog 58 #[.pointer (some ⟨s, 0, none⟩), .int .i64 i] w fun e w' => e = .returned (.int .i64 x) ∧ QP w' s (some b) most L f k (setG g ((f + i) % L) (.int .i64 (0 : Int))) ∧ Turns w w' s (some b) ∧ w'.heap.size = w.heap.size := by
  have H := Lib.hid h
  have hL : 0 < L := by omega
  have h1 := h.lm
  have h2 := h.mm
  have ha := md_lt (f := f) (i := i) hL
  obtain ⟨a, HA⟩ : ∃ a, Hid ((f + i) % L = a) := ⟨_, Lib.hid rfl⟩
  rw [HA.out] at ha hx ⊢
  have HX := Lib.hid hx
  clear h hx
  go_enter Try.func58, Try.ntmps58
  go_wp2_with fail
  refine (place_any H.out i (by omega) hL).mono ?_
  rintro e w1 ⟨rfl, j, rfl⟩
  rw [HA.out]
  have c1 : (w.drewN j).cell? ⟨s, 1, none⟩ = some (.slice (some ⟨b, 0, none⟩) L L) := H.out.head.cell (i := 1) (by omega)
  have c2 : (w.drewN j).cell? ⟨b, a, none⟩ = some (.int .i64 x) := ((H.out.row b rfl).cell ha).trans (by rw [HX.out])
  have c3 : (w.drewN j).frozen? ⟨b, a, none⟩ = false := (H.out.row b rfl).frozen _
  have HQ : Hid (QP ((w.drewN j).setCell ⟨b, a, none⟩ (.int .i64 (0 : Int))) s (some b) most L f k (setG g a (.int .i64 (0 : Int)))) := Lib.hid ((H.out.drewN j).put a (.int .i64 (0 : Int)))
  have HT : Hid (Turns w ((w.drewN j).setCell ⟨b, a, none⟩ (.int .i64 (0 : Int))) s (some b)) := Lib.hid (Turns.set w j s (some b) ⟨b, a, none⟩ _ (.inr rfl))
  have HZ : Hid (((w.drewN j).setCell ⟨b, a, none⟩ (.int .i64 (0 : Int))).heap.size = w.heap.size) := Lib.hid (by simp)
  go_wp2
  go_ret
  exact ⟨rfl, HQ.out, HT.out, HZ.out⟩
end Go.Proofs.Ytfhapodidjkmaaa
