/- The table of rows. -/
import Derived.Test.YtophajljjnjcdaaWdOwn
namespace Go.Proofs.Ytophajljjnjcdaa.wd
open Go.ChangeShapes Go.WideShapes Go.ChangeAt Go.RowKit Go.Deep sr lt nf

/-- A row of bools, as it lies in the table. -/
def slv (x : Option Addr × Nat × Nat) : Value := .slice x.1 x.2.1 x.2.2
/-- A table of rows in block tb: those kept, of the first i, are what is told of their parts. -/
structure RwW (W : World) (tb m n : Nat) (X : Nat → Option Addr × Nat × Nat) (kp : Nat → Prop) (tr : Nat → List Bool) (i : Nat) : Prop where
  row : W.rowIs tb 36 m (fun j => slv (X j))
  tru : ∀ j, j < i → kp j → (X j).2.1 = n ∧ BL W (X j).1 (tr j) ∧ (tr j).length = n ∧ ∀ a, (X j).1 = some a → a.block ≠ tb
theorem BL.turn {T : Nat → Prop} {w w' : World} {A : Option Addr} {l : List Bool} (h : BL w A l) (k : Turn T w w') (hT : ∀ a, A = some a → ¬ T a.block) : BL w' A l := fun hn => by
  obtain ⟨b, off, e, hb, hc⟩ := h hn
  exact ⟨b, off, e, Nat.lt_of_lt_of_le hb k.size, fun i hi => (k.cell (p := ⟨b, off + i, none⟩) hb (hT ⟨b, off, none⟩ e)).trans (hc i hi)⟩
theorem RwW.below {W W' : World} {tb m n i : Nat} {X : Nat → Option Addr × Nat × Nat} {kp : Nat → Prop} {tr : Nat → List Bool} (h : RwW W tb m n X kp tr i) (hb : Below W.heap.size W W') : RwW W' tb m n X kp tr i :=
  ⟨h.row.of_block (hb.block _ h.row.lt), fun j hj hk => by
    obtain ⟨g1, g2, g3, g4⟩ := h.tru j hj hk
    exact ⟨g1, g2.below hb, g3, g4⟩⟩
/-- What rows leaves. -/
def RowsP (w : World) (m n : Nat) (kp : Nat → Prop) (tr : Nat → List Bool) (e : Ending) (w' : World) : Prop :=
  ∃ tb X, e = .returned (.slice (some ⟨tb, 0, none⟩) m m) ∧ Below w.heap.size w w' ∧ w.heap.size ≤ tb ∧ RwW w' tb m n X kp tr m
def putX (X : Nat → Option Addr × Nat × Nat) (k : Nat) (y : Option Addr × Nat × Nat) (j : Nat) : Option Addr × Nat × Nat := if j = k then y else X j
theorem rowX_set {w : World} {tb m k : Nat} {X : Nat → Option Addr × Nat × Nat} {y : Option Addr × Nat × Nat} {v : Value} (h : w.rowIs tb 36 m (fun j => slv (X j))) (hv : v = slv y) : (w.setCell ⟨tb, k, none⟩ v).rowIs tb 36 m (fun j => slv (putX X k y j)) := by
  subst hv
  exact (h.set k (slv y)).congr (fun j _ => by
    unfold putX
    by_cases hj : j = k
    · rw [if_pos hj, if_pos hj]
    · rw [if_neg hj, if_neg hj])
theorem infoV : (Try.prog.info? 36).map (fun i => (i.zero, i.size, i.bytes)) = some (some (.slice none 0 0), 1, 24) := by kernel_rfl
theorem wd_mk2 (n : Nat) (hn : n ≤ 100000) (W : World) : (Instr.makeSlice 34 (.int .i64 (n : Int)) (.int .i64 (n : Int))).run Try.prog W = .ok (.slice (some ⟨W.heap.size, 0, none⟩) n n) (W.alloc (.cells (madeCells #[.slice none 0 0] n) 36)) := by
  obtain ⟨i0, hi, hz0, hz1, hz2⟩ := info_parts infoV
  have hr := run_make (P := Try.prog) W 34 36 i0 _ (by kernel_rfl) hi hz0 .i64 .i64 (n : Int) (n : Int) (by omega) (Int.le_refl _) (by rw [hz2]; omega) (by omega)
  rw [hr, hz1, Int.toNat_natCast, Nat.mul_one]
  rfl
theorem turn_more {T T' : Nat → Prop} {a b c : World} (h : Turn T a b) (k : Turn T' b c) (hT : ∀ q, q < a.heap.size → T' q → T q) : Turn T a c :=
  ⟨k.os.trans h.os, k.tape.trans h.tape, k.output.trans h.output, Nat.le_trans h.size k.size, fun q hq hn => (k.block q (Nat.lt_of_lt_of_le hq h.size) (fun ht => hn (hT q hq ht))).trans (h.block q hq hn)⟩
/-- What own leaves, in its three cases. -/
theorem own_any {B : List Int} {i len : Nat} {L : List Int} (h : OwnC B i len L) (Bb : Option Addr) (bl bd : Nat) (w : World) (hB : IA w Bb B) (hb : bl = B.length) (hi : i < bl) (hbl : bl ≤ 1000) :
    Calls Try.prog 47 #[.slice Bb bl bd, .int .i64 i] w (ListP w len L) := by
  rcases h with ⟨rfl, rfl, h1⟩ | ⟨j, v, rfl, h2, rfl, rfl, h3, h4⟩ | ⟨j, q, v, rfl, h2, h3, rfl, rfl, h4, h5⟩
  · exact own_none B Bb bl bd i w hB hb hi h1
  · exact own_one B Bb bl bd j v w hB hb hi hbl h2 h3 h4
  · exact own_two B Bb bl bd j q v w hB hb hi hbl h2 h3 h4 h5
end Go.Proofs.Ytophajljjnjcdaa.wd
