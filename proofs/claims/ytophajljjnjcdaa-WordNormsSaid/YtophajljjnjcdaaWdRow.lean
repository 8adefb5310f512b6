/- Rows of bools, rows of uint64s. -/
import Derived.Test.YtophajljjnjcdaaStructRows
import Derived.Test.YtophajljjnjcdaaWdPure
import Derived.Deep.Upon
namespace Go.Proofs.Ytophajljjnjcdaa.wd
open Go.ChangeShapes Go.WideShapes Go.ChangeAt Go.RowKit Go.Deep sr lt nf

def encBo (x : Bool) : List Value := [.bool x]
theorem encBo_len (x : Bool) : (encBo x).length = 1 := rfl
theorem encBo_one (x : Bool) : ∀ u ∈ encBo x, u.oneCell' = true := fun u hu => by
  simp [encBo] at hu
  subst hu
  rfl
theorem infoBo : (Try.prog.info? 4).map (fun i => (i.zero, i.size, i.bytes)) = some (some (.bool false), 1, 1) := by kernel_rfl
/-- A slice of bools at address A (nil let in) reads as l. -/
def BL (w : World) (A : Option Addr) (l : List Bool) : Prop :=
  0 < l.length → ∃ b off, A = some ⟨b, off, none⟩ ∧ b < w.heap.size ∧ ∀ i, i < l.length → w.cell? ⟨b, off + i, none⟩ = some (.bool (l.getD i false))
theorem BL.below {w w' : World} {A : Option Addr} {l : List Bool} (h : BL w A l) (hb : Below w.heap.size w w') : BL w' A l := fun hn => by
  obtain ⟨b, off, e, hl, hc⟩ := h hn
  exact ⟨b, off, e, Nat.lt_of_lt_of_le hl hb.size, fun i hi => (hb.cell (p := ⟨b, off + i, none⟩) hl).trans (hc i hi)⟩
theorem BL.nil (w : World) (A : Option Addr) : BL w A [] := fun h => absurd h (by simp)
theorem rs_bl {w : World} {A : Option Addr} {l : List Bool} (h : RS encBo 1 w A l) : BL w A l := fun hn => by
  obtain ⟨b, off, e, hb, hc⟩ := h hn
  refine ⟨b, off, e, hb, fun i hi => ?_⟩
  have := hc i hi 0 (by decide)
  rw [Nat.mul_one, Nat.add_zero] at this
  exact this
/-- What a call leaves that hands back a row of bools. -/
def BlP (w : World) (L : List Bool) (e : Ending) (w' : World) : Prop := ∃ A c, e = .returned (.slice A L.length c) ∧ BL w' A L ∧ Below w.heap.size w w' ∧ ∀ a, A = some a → w.heap.size ≤ a.block
theorem BlP.after {w w1 : World} {L : List Bool} {e : Ending} {w' : World} (hb : Below w.heap.size w w1) (h : BlP w1 L e w') : BlP w L e w' := by
  obtain ⟨A, c, h1, h2, h3, h4⟩ := h
  exact ⟨A, c, h1, h2, hb.trans (h3.mono hb.size), fun a ha => Nat.le_trans hb.size (h4 a ha)⟩
theorem ob_form {base : Nat} {w : World} {v : Value} {l : List Bool} (h : OR encBo 1 base 4 w v l) : ∃ A c, v = .slice A l.length c ∧ BL w A l ∧ ∀ a, A = some a → base ≤ a.block := by
  obtain ⟨A, c, e, hr⟩ := OR.rs encBo_len h
  refine ⟨A, c, e, rs_bl hr, fun a ha => ?_⟩
  have h' : w.ownsRow base 4 1 v l.length (flatR encBo l) := h
  subst ha
  subst e
  rcases Go.Joins.ownsRow_forms h' with ⟨e2, _⟩ | ⟨g, cap, e2⟩
  · cases e2
  · have e3 : a = ⟨g, 0, none⟩ := by injection e2 with e3; injection e3
    subst e3
    exact (h'.lt g rfl).1
theorem bl_row {w : World} {b n : Nat} {t : TypeId} {L : List Bool} (hn : L.length = n) (h : w.rowIs b t n (fun j => .bool (L.getD j false))) : BL w (some ⟨b, 0, none⟩) L := fun _ =>
  ⟨b, 0, rfl, h.lt, fun i hi => by rw [Nat.zero_add]; exact h.cell (by omega)⟩
/-- The first k of L, then false. -/
def fstB (L : List Bool) (k j : Nat) : Value := .bool (if j < k then L.getD j false else false)
theorem fstB_full {w : World} {b n : Nat} {t : TypeId} {L : List Bool} (hr : w.rowIs b t n (fstB L n)) : w.rowIs b t n (fun j => .bool (L.getD j false)) :=
  hr.congr (fun j hj => by unfold fstB; rw [if_pos hj])
theorem fstB_step {L : List Bool} {k m : Nat} {x : Bool} {w : World} {b : Nat} {t : TypeId} (hr : w.rowIs b t m (fstB L k)) (hx : x = L.getD k false) : (w.setCell ⟨b, k, none⟩ (.bool x)).rowIs b t m (fstB L (k + 1)) :=
  (hr.set k _).congr (fun j hj => by
    by_cases hjk : j = k
    · subst hjk; simp only [if_pos, fstB]; rw [if_pos (by omega), hx]
    · simp only [if_neg hjk, fstB]
      congr 1
      by_cases h2 : j < k
      · rw [if_pos h2, if_pos (by omega)]
      · rw [if_neg h2, if_neg (by omega)])
theorem fstB_skip {L : List Bool} {k m : Nat} {w : World} {b : Nat} {t : TypeId} (hr : w.rowIs b t m (fstB L k)) (hx : L.getD k false = false) : w.rowIs b t m (fstB L (k + 1)) :=
  hr.congr (fun j hj => by
    unfold fstB
    congr 1
    by_cases h2 : j < k
    · rw [if_pos h2, if_pos (by omega)]
    · by_cases hjk : j = k
      · subst hjk; rw [if_neg h2, if_pos (by omega), hx]
      · rw [if_neg h2, if_neg (by omega)])
/-- A row of bools that the call made. -/
def OwnB (w : World) (L : List Bool) (e : Ending) (w' : World) : Prop := ∃ b, e = .returned (.slice (some ⟨b, 0, none⟩) L.length L.length) ∧ w.heap.size ≤ b ∧ w'.rowIs b 4 L.length (fun j => .bool (L.getD j false)) ∧ Below w.heap.size w w'
theorem OwnB.bl {w w' : World} {L : List Bool} {e : Ending} (h : OwnB w L e w') : BlP w L e w' := by
  obtain ⟨b, h1, h2, h3, h4⟩ := h
  exact ⟨_, _, h1, bl_row rfl h3, h4, fun a ha => by cases ha; exact h2⟩
/-- A slice of uint64s at address A (nil let in) reads as l. -/
def UA (w : World) (A : Option Addr) (l : List Int) : Prop :=
  0 < l.length → ∃ b off, A = some ⟨b, off, none⟩ ∧ b < w.heap.size ∧ ∀ i, i < l.length → w.cell? ⟨b, off + i, none⟩ = some (.int .u64 (l.getD i 0))
theorem UA.below {w w' : World} {A : Option Addr} {l : List Int} (h : UA w A l) (hb : Below w.heap.size w w') : UA w' A l := fun hn => by
  obtain ⟨b, off, e, hl, hc⟩ := h hn
  exact ⟨b, off, e, Nat.lt_of_lt_of_le hl hb.size, fun i hi => (hb.cell (p := ⟨b, off + i, none⟩) hl).trans (hc i hi)⟩
/-- A bit asked for. -/
theorem bit_and (s : Int) (k : Nat) (h0 : 0 ≤ s) (h1 : s < 18446744073709551616) : Op.intBits .and .u64 (s / 2 ^ k) 1 = (pure (.int .u64 (if s.toNat / 2 ^ k % 2 = 1 then 1 else 0)) : Sem Value) := by
  obtain ⟨m, rfl⟩ : ∃ m : Nat, s = m := ⟨s.toNat, by omega⟩
  have e1 : ((m : Int) / 2 ^ k) = ((m / 2 ^ k : Nat) : Int) := by push_cast; rfl
  have hlt : m / 2 ^ k < 18446744073709551616 := Nat.lt_of_le_of_lt (Nat.div_le_self _ _) (by omega)
  rw [e1, Int.toNat_natCast]
  generalize m / 2 ^ k = d at *
  unfold Op.intBits
  have e3 : (BitVec.ofInt IntKind.u64.bits (d : Int) &&& BitVec.ofInt IntKind.u64.bits (1 : Int)).toNat = d % 2 := by
    rw [BitVec.toNat_and]
    have q1 : (BitVec.ofInt IntKind.u64.bits (d : Int)).toNat = d := by
      rw [BitVec.toNat_ofInt]
      show ((d : Int) % (18446744073709551616 : Nat)).toNat = d
      omega
    have q2 : (BitVec.ofInt IntKind.u64.bits (1 : Int)).toNat = 1 := by decide
    rw [q1, q2, Nat.and_one_is_mod]
  simp only [e3]
  have h2 : d % 2 = 0 ∨ d % 2 = 1 := by omega
  rcases h2 with h2 | h2
  · rw [h2]; rfl
  · rw [h2]; rfl
def encU (x : Int) : List Value := [.int .u64 x]
theorem encU_len (x : Int) : (encU x).length = 1 := rfl
theorem encU_one (x : Int) : ∀ u ∈ encU x, u.oneCell' = true := fun u hu => by
  simp [encU] at hu
  subst hu
  rfl
theorem infoU : (Try.prog.info? 30).map (fun i => (i.zero, i.size, i.bytes)) = some (some (.int .u64 0), 1, 8) := by kernel_rfl
theorem ua_rs {w : World} {A : Option Addr} {l : List Int} (h : UA w A l) : RS encU 1 w A l := fun hn => by
  obtain ⟨b, off, e, hb, hc⟩ := h hn
  refine ⟨b, off, e, hb, fun i hi j hj => ?_⟩
  obtain rfl : j = 0 := by omega
  rw [Nat.mul_one, Nat.add_zero, hc i hi]
  rfl
theorem rs_ua {w : World} {A : Option Addr} {l : List Int} (h : RS encU 1 w A l) : UA w A l := fun hn => by
  obtain ⟨b, off, e, hb, hc⟩ := h hn
  refine ⟨b, off, e, hb, fun i hi => ?_⟩
  have := hc i hi 0 (by decide)
  rw [Nat.mul_one, Nat.add_zero] at this
  exact this
end Go.Proofs.Ytophajljjnjcdaa.wd
