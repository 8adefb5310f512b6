/- Declarations: what a slice of scalars reads as; sizes, what names a scalar, ranges. -/
import Derived.Test.YtodloljpfbkkjaaRRRRLexName
import Derived.IntWalk
namespace Go.Proofs.YtodloljpfbkkjaaRRRR.dcl
open Go.ChangeShapes Go.WideShapes Go.ChangeAt Go.RowKit Go.Proofs.YtodloljpfbkkjaaRRRR.lx

theorem below_alloc1 (w : World) (o : Obj) : Below w.heap.size w (w.alloc o) := (Below.refl _ _).alloc (Nat.le_refl _) _
theorem bthen {a b c : World} (h : Below a.heap.size a b) (k : Below b.heap.size b c) : Below a.heap.size a c := h.trans (k.mono h.size)
theorem below2 (w : World) (a b : Obj) : Below w.heap.size w ((w.alloc a).alloc b) := bthen (below_alloc1 _ _) (below_alloc1 _ _)
/-- A scalar. -/
structure ScR where
  name : ByteArray
  size : Int
instance : Inhabited ScR := ⟨⟨⟨#[]⟩, 0⟩⟩
@[reducible] def ScR.v (x : ScR) : Value := .agg #[.string x.name, .int .i64 x.size]
/-- A slice of api.Scalar at address A (nil let in) reads as l. -/
def DS (w : World) (A : Option Addr) (l : List ScR) : Prop :=
  0 < l.length → ∃ b off, A = some ⟨b, off, none⟩ ∧ b < w.heap.size ∧ ∀ i, i < l.length → w.cell? ⟨b, off + i * 2, none⟩ = some (.string (l.getD i default).name) ∧ w.cell? ⟨b, off + i * 2 + 1, none⟩ = some (.int .i64 (l.getD i default).size)
theorem DS.below {w w' : World} {A : Option Addr} {l : List ScR} (h : DS w A l) (hk : Below w.heap.size w w') : DS w' A l := fun hn => by
  obtain ⟨b, off, e, hb, hc⟩ := h hn
  exact ⟨b, off, e, Nat.lt_of_lt_of_le hb hk.size, fun i hi => ⟨(hk.cell (p := ⟨b, off + i * 2, none⟩) hb).trans (hc i hi).1, (hk.cell (p := ⟨b, off + i * 2 + 1, none⟩) hb).trans (hc i hi).2⟩⟩
theorem DS.nil (w : World) (A : Option Addr) : DS w A [] := fun h => absurd h (by simp)

theorem isSize_any (n : Int) (w : World) : Calls Try.prog 41 #[.int .i64 n] w fun e w' => e = .returned (.bool (fitB n 1 4)) ∧ w = w' := by
  by_cases h1 : 1 ≤ n
  · by_cases h2 : n ≤ 4
    · have HE : Hid (fitB n 1 4 = true) := Lib.hid (decide_eq_true ⟨h1, h2⟩)
      go_enter Try.func41, Try.ntmps41
      go_wp2
      go_ret
      exact ⟨by rw [HE.out]; rfl, rfl⟩
    · have HE : Hid (fitB n 1 4 = false) := Lib.hid (decide_eq_false (by omega))
      go_enter Try.func41, Try.ntmps41
      go_wp2
      go_ret
      exact ⟨by rw [HE.out]; rfl, rfl⟩
  · have HE : Hid (fitB n 1 4 = false) := Lib.hid (decide_eq_false (by omega))
    go_enter Try.func41, Try.ntmps41
    go_wp2
    go_ret
    exact ⟨by rw [HE.out]; rfl, rfl⟩
/-- The size of the scalar k, counted from 1 on; 0: there is none. -/
def sizeF (l : List ScR) (k : Int) : Int := if 1 ≤ k ∧ k ≤ l.length ∧ fitB (l.getD (k - 1).toNat default).size 1 4 = true then (l.getD (k - 1).toNat default).size else 0
theorem sizeF_range (l : List ScR) (k : Int) : 0 ≤ sizeF l k ∧ sizeF l k ≤ 4 := by
  unfold sizeF
  split
  · next h =>
    have := of_decide_eq_true h.2.2
    omega
  · omega

set_option maxRecDepth 20000 in
set_option maxHeartbeats 1000000 in
theorem size_any (k : Int) (A : Option Addr) (m c : Nat) (l : List ScR) (w : World) (hm : m = l.length) (hmm : m ≤ 1000000000000000) (hA : DS w A l) :
    Calls Try.prog 59 #[.int .i64 k, .slice A m c] w fun e w' => e = .returned (.int .i64 (sizeF l k)) ∧ w = w' := by
  by_cases h1 : k < 1
  · have HE : Hid (sizeF l k = 0) := Lib.hid (if_neg (by omega))
    rw [HE.out]
    go_enter Try.func59, Try.ntmps59
    go_wp2
    go_ret
    exact ⟨rfl, rfl⟩
  · by_cases h2 : (m : Int) < k
    · have HE : Hid (sizeF l k = 0) := Lib.hid (if_neg (by omega))
      rw [HE.out]
      go_enter Try.func59, Try.ntmps59
      go_wp2
      go_ret
      exact ⟨rfl, rfl⟩
    · obtain ⟨j, rfl⟩ : ∃ j : Nat, k = (j : Int) + 1 := ⟨(k - 1).toNat, by omega⟩
      have hj : j < m := by omega
      obtain ⟨b, o, rfl, hb, hc⟩ := hA (by omega)
      have c1 := (hc j (by omega)).2
      obtain ⟨x, HX⟩ : ∃ x, Hid ((l.getD j default).size = x) := ⟨_, Lib.hid rfl⟩
      rw [HX.out] at c1
      have q1 : IntKind.i64.wrap ((j : Int) + 1 - 1) = (j : Int) := (IntWalk.i64_in _ (by omega)).trans (by omega)
      cases hf : fitB x 1 4 with
      | false =>
        have HF := Lib.hid hf
        have HE : Hid (sizeF l ((j : Int) + 1) = 0) := Lib.hid (if_neg (by rw [show ((j : Int) + 1 - 1).toNat = j by omega, HX.out, hf]; simp))
        rw [HE.out]
        clear hf hc hA hm
        go_enter Try.func59, Try.ntmps59
        go_wp2_with fail
        refine (isSize_any _ _).mono ?_
        rw [HF.out]
        rintro e w' ⟨rfl, rfl⟩
        go_wp2
        go_ret
        exact ⟨rfl, rfl⟩
      | true =>
        have HF := Lib.hid hf
        have HE : Hid (sizeF l ((j : Int) + 1) = x) := Lib.hid ((if_pos (by rw [show ((j : Int) + 1 - 1).toNat = j by omega, HX.out, hf]; exact ⟨by omega, by omega, rfl⟩)).trans (by rw [show ((j : Int) + 1 - 1).toNat = j by omega, HX.out]))
        rw [HE.out]
        clear hf hc hA hm
        go_enter Try.func59, Try.ntmps59
        go_wp2_with fail
        refine (isSize_any _ _).mono ?_
        rw [HF.out]
        rintro e w' ⟨rfl, rfl⟩
        go_wp2
        go_ret
        exact ⟨rfl, rfl⟩
/-- Does k name no scalar, or one that is there? -/
def namedB (l : List ScR) (k : Int) : Bool := decide (k = 0 ∨ 0 < sizeF l k)
theorem isNamed_any (k : Int) (A : Option Addr) (m c : Nat) (l : List ScR) (w : World) (hm : m = l.length) (hmm : m ≤ 1000000000000000) (hA : DS w A l) :
    Calls Try.prog 37 #[.int .i64 k, .slice A m c] w fun e w' => e = .returned (.bool (namedB l k)) ∧ w = w' := by
  by_cases h0 : k = 0
  · subst h0
    have HE : Hid (namedB l 0 = true) := Lib.hid (decide_eq_true (.inl rfl))
    rw [HE.out]
    go_enter Try.func37, Try.ntmps37
    go_wp2
    go_ret
    exact ⟨rfl, rfl⟩
  · have HM := Lib.hid hm
    have HA := Lib.hid hA
    obtain ⟨x, HX⟩ : ∃ x, Hid (sizeF l k = x) := ⟨_, Lib.hid rfl⟩
    have HE : Hid (namedB l k = (k == 0 || decide (0 < x))) := Lib.hid (by unfold namedB; rw [HX.out, Bool.eq_iff_iff]; simp)
    rw [HE.out]
    clear hm hA
    go_enter Try.func37, Try.ntmps37
    go_wp2_with fail
    refine (size_any k A m c l w HM.out hmm HA.out).mono ?_
    rw [HX.out]
    rintro e w' ⟨rfl, rfl⟩
    go_wp2
    go_ret
    exact ⟨rfl, rfl⟩
/-- May values be from lo to hi? -/
def rangeB (lo hi : Int) : Bool := decide (-1048576 ≤ lo ∧ lo ≤ hi ∧ hi ≤ 1048576 ∧ hi - lo < 256)
theorem isRange_any (lo hi : Int) (w : World) : Calls Try.prog 38 #[.int .i64 lo, .int .i64 hi] w fun e w' => e = .returned (.bool (rangeB lo hi)) ∧ w = w' := by
  by_cases h1 : -1048576 ≤ lo
  · by_cases h2 : lo ≤ hi
    · by_cases h3 : hi ≤ 1048576
      · have q1 : IntKind.i64.wrap (hi - lo) = hi - lo := IntWalk.i64_in _ (by omega)
        by_cases h4 : hi - lo < 256
        · have HE : Hid (rangeB lo hi = true) := Lib.hid (decide_eq_true ⟨h1, h2, h3, h4⟩)
          go_enter Try.func38, Try.ntmps38
          go_wp2
          go_ret
          exact ⟨by rw [HE.out]; rfl, rfl⟩
        · have HE : Hid (rangeB lo hi = false) := Lib.hid (decide_eq_false (by omega))
          go_enter Try.func38, Try.ntmps38
          go_wp2
          go_ret
          exact ⟨by rw [HE.out]; rfl, rfl⟩
      · have HE : Hid (rangeB lo hi = false) := Lib.hid (decide_eq_false (by omega))
        go_enter Try.func38, Try.ntmps38
        go_wp2
        go_ret
        exact ⟨by rw [HE.out]; rfl, rfl⟩
    · have HE : Hid (rangeB lo hi = false) := Lib.hid (decide_eq_false (by omega))
      go_enter Try.func38, Try.ntmps38
      go_wp2
      go_ret
      exact ⟨by rw [HE.out]; rfl, rfl⟩
  · have HE : Hid (rangeB lo hi = false) := Lib.hid (decide_eq_false (by omega))
    go_enter Try.func38, Try.ntmps38
    go_wp2
    go_ret
    exact ⟨by rw [HE.out]; rfl, rfl⟩
end Go.Proofs.YtodloljpfbkkjaaRRRR.dcl
