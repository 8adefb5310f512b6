/- The document's places: its world. -/
import Derived.Test.YtmdfiamffipbcaaDoorNnfUntil
namespace Go.Proofs.YtmdfiamffipbcaaDoor.nf
open Go.ChangeShapes Go.WideShapes Go.ChangeAt Go.RowKit Go.Deep sr lt

/-- A slice of uint64s at address A (nil let in) reads as l. -/
def UA (w : World) (A : Option Addr) (l : List Int) : Prop :=
  0 < l.length → ∃ b off, A = some ⟨b, off, none⟩ ∧ b < w.heap.size ∧ ∀ i, i < l.length → w.cell? ⟨b, off + i, none⟩ = some (.int .u64 (l.getD i 0))
theorem UA.below {w w' : World} {A : Option Addr} {l : List Int} (h : UA w A l) (hb : Below w.heap.size w w') : UA w' A l := fun hn => by
  obtain ⟨b, off, e, hl, hc⟩ := h hn
  exact ⟨b, off, e, Nat.lt_of_lt_of_le hl hb.size, fun i hi => (hb.cell (p := ⟨b, off + i, none⟩) hl).trans (hc i hi)⟩
def bxF (op q : Int) (j : Nat) : Value := .int .i64 (if j = 0 then op else q)
/-- What places has made: the node's box, the two rows. -/
structure PlW (w W : World) (op q : Int) (n : Nat) (L : List Bool) (i k : Nat) : Prop where
  bx : W.rowIs w.heap.size 38 2 (bxF op q)
  out : W.rowIs (w.heap.size + 1) 4 n (fstB L i)
  yes : W.rowIs (w.heap.size + 2) 4 n (fstB (yesF n) k)
  bl : Below w.heap.size w W
theorem PlW.start (w : World) (op q : Int) (n : Nat) (L : List Bool) : PlW w (((w.alloc (.cells #[.int .i64 op, .int .i64 q] 38)).alloc (.cells (madeCells #[.bool false] n) 4)).alloc (.cells (madeCells #[.bool false] n) 4)) op q n L 0 0 :=
  have e1 : (w.alloc (.cells #[.int .i64 op, .int .i64 q] 38)).heap.size = w.heap.size + 1 := by simp
  have e2 : ((w.alloc (.cells #[.int .i64 op, .int .i64 q] 38)).alloc (.cells (madeCells #[.bool false] n) 4)).heap.size = w.heap.size + 2 := by simp
  have h1 := World.rowIs_made (w.alloc (.cells #[.int .i64 op, .int .i64 q] 38)) (.bool false) n 4
  have h2 := World.rowIs_made ((w.alloc (.cells #[.int .i64 op, .int .i64 q] 38)).alloc (.cells (madeCells #[.bool false] n) 4)) (.bool false) n 4
  { bx := ((World.rowIs_alloc w #[.int .i64 op, .int .i64 q] 38 (bxF op q) (fun i hi => by
      have : i = 0 ∨ i = 1 := by simp at hi; omega
      rcases this with rfl | rfl <;> rfl)).alloc _).alloc _
    out := by rw [e1] at h1; exact (h1.alloc _).congr (fun j _ => by simp [fstB])
    yes := by rw [e2] at h2; exact h2.congr (fun j _ => by simp [fstB])
    bl := (((Below.refl _ _).alloc (Nat.le_refl _) _).alloc (by simp) _).alloc (by simp; omega) _ }
theorem PlW.putYes {w W : World} {op q : Int} {n : Nat} {L : List Bool} {i k : Nat} (h : PlW w W op q n L i k) (hk : k < n) : PlW w (W.setCell ⟨w.heap.size + 2, k, none⟩ (.bool true)) op q n L i (k + 1) where
  bx := h.bx.setOther (by simp) _
  out := h.out.setOther (by simp) _
  yes := fstB_step h.yes (by simp [yesF, List.getD, hk])
  bl := h.bl.setCell (show w.heap.size ≤ w.heap.size + 2 by omega) _
theorem PlW.put {w W : World} {op q : Int} {n : Nat} {L : List Bool} {i k : Nat} {x : Bool} (h : PlW w W op q n L i k) (hx : x = L.getD i false) : PlW w (W.setCell ⟨w.heap.size + 1, i, none⟩ (.bool x)) op q n L (i + 1) k where
  bx := h.bx.setOther (by simp) _
  out := fstB_step h.out hx
  yes := h.yes.setOther (by simp) _
  bl := h.bl.setCell (show w.heap.size ≤ w.heap.size + 1 by omega) _
theorem PlW.skip {w W : World} {op q : Int} {n : Nat} {L : List Bool} {i k : Nat} (h : PlW w W op q n L i k) (hx : L.getD i false = false) : PlW w W op q n L (i + 1) k where
  bx := h.bx
  out := fstB_skip h.out hx
  yes := h.yes
  bl := h.bl
theorem PlW.drew {w W : World} {op q : Int} {n : Nat} {L : List Bool} {i k : Nat} (h : PlW w W op q n L i k) : PlW w W.drew op q n L i k where
  bx := h.bx.drew
  out := h.out.drew
  yes := h.yes.drew
  bl := h.bl.drew
theorem PlW.cells {w W : World} {op q : Int} {n : Nat} {L : List Bool} {i k : Nat} (h : PlW w W op q n L i k) : W.cell? ⟨w.heap.size, 0, none⟩ = some (.int .i64 op) ∧ W.cell? ⟨w.heap.size, 1, none⟩ = some (.int .i64 q) := ⟨h.bx.cell (by decide), h.bx.cell (by decide)⟩
/-- What a call leaves that hands back n bools. -/
def BlN (w : World) (n : Nat) (L : List Bool) (e : Ending) (w' : World) : Prop := ∃ A c, e = .returned (.slice A n c) ∧ BL w' A L ∧ Below w.heap.size w w' ∧ ∀ a, A = some a → w.heap.size ≤ a.block
theorem BlP.n {w : World} {n : Nat} {L : List Bool} {e : Ending} {w' : World} (hn : L.length = n) (h : BlP w L e w') : BlN w n L e w' := by
  subst hn; exact h
theorem PlW.full {w W : World} {op q : Int} {n : Nat} {L : List Bool} {k : Nat} (hn : L.length = n) (h : PlW w W op q n L n k) : BlN w n L (.returned (.slice (some ⟨w.heap.size + 1, 0, none⟩) n n)) W :=
  ⟨_, _, rfl, bl_row hn (fstB_full h.out), h.bl, fun a ha => by cases ha; exact Nat.le_succ _⟩
theorem PlW.yesBL {w W : World} {op q : Int} {n : Nat} {L : List Bool} {i : Nat} (h : PlW w W op q n L i n) : BL W (some ⟨w.heap.size + 2, 0, none⟩) (yesF n) := bl_row (by simp [yesF]) (fstB_full h.yes)
theorem pl_len {x : Int × Int} {sets : List Int} {loop : Nat} {a b : List Bool} (hA : 1 ≤ kT x.1 → a.length = sets.length) : (plF x sets loop a b).length = sets.length := by
  unfold plF
  by_cases h9 : x.1 = 9
  · rw [if_pos h9, unt_len]; exact hA (by rw [h9]; decide)
  rw [if_neg h9]
  by_cases h10 : x.1 = 10
  · rw [if_pos h10, flip_len, unt_len, flip_len]; exact hA (by rw [h10]; decide)
  rw [if_neg h10]
  by_cases h11 : x.1 = 11
  · rw [if_pos h11, unt_len]; simp [yesF]
  rw [if_neg h11]
  by_cases h12 : x.1 = 12
  · rw [if_pos h12, flip_len, unt_len]; simp [yesF]
  rw [if_neg h12]
  simp
theorem pl_get {x : Int × Int} {sets : List Int} {loop : Nat} {a b : List Bool} {i : Nat} (h : x.1 ≠ 9 ∧ x.1 ≠ 10 ∧ x.1 ≠ 11 ∧ x.1 ≠ 12) (hi : i < sets.length) : (plF x sets loop a b).getD i false = oneF x sets loop a b i := by
  rw [pl_one h]
  simp [List.getD, hi]
/-- The first two rows, and the loop that fills the second. -/
theorem bit_and (s : Int) (k : Nat) (h0 : 0 ≤ s) (h1 : s < 18446744073709551616) : Op.intBits .and .u64 (s / 2 ^ k) 1 = (pure (.int .u64 (if s.toNat / 2 ^ k % 2 = 1 then 1 else 0)) : Sem Value) := by
  obtain ⟨m, rfl⟩ : ∃ m : Nat, s = m := ⟨s.toNat, by omega⟩
  have e1 : ((m : Int) / 2 ^ k) = ((m / 2 ^ k : Nat) : Int) := by push_cast; rfl
  have hlt : m / 2 ^ k < 18446744073709551616 := Nat.lt_of_le_of_lt (Nat.div_le_self _ _) (by omega)
  rw [e1, Int.toNat_natCast]
  generalize m / 2 ^ k = d at *
  unfold Op.intBits
  have e3 : (BitVec.ofInt IntKind.u64.bits (d : Int) &&& BitVec.ofInt IntKind.u64.bits (1 : Int)).toNat = d % 2 := by
    rw [BitVec.toNat_and]
    have q1 : (BitVec.ofInt IntKind.u64.bits (d : Int)).toNat = d := by
      rw [BitVec.toNat_ofInt]
      show ((d : Int) % (18446744073709551616 : Nat)).toNat = d
      omega
    have q2 : (BitVec.ofInt IntKind.u64.bits (1 : Int)).toNat = 1 := by decide
    rw [q1, q2, Nat.and_one_is_mod]
  simp only [e3]
  have h2 : d % 2 = 0 ∨ d % 2 = 1 := by omega
  rcases h2 with h2 | h2
  · rw [h2]; rfl
  · rw [h2]; rfl
end Go.Proofs.YtmdfiamffipbcaaDoor.nf
