/- Formulas: the program's takes and left; the document's takes. -/
import Derived.Test.YtophajljjnjcdaaOpensP
import Derived.Test.YtophajljjnjcdaaIntRows
import Derived.Test.YtophajljjnjcdaaLtlPure
import Derived.Test.YtophajljjnjcdaaStructRows
import Derived.Deep.Cut
namespace Go.Proofs.Ytophajljjnjcdaa
open Go.ChangeShapes Go.WideShapes Go.ChangeAt Go.RowKit

theorem PA.turn {T : Nat → Prop} {w w' : World} {A : Option Addr} {zs : List (Int × Int)} (h : PA w A zs) (k : Turn T w w') (hT : ∀ a, A = some a → ¬ T a.block) : PA w' A zs := fun hn => by
  obtain ⟨b, off, e, hb, hc⟩ := h hn
  exact ⟨b, off, e, Nat.lt_of_lt_of_le hb k.size, fun i hi => ⟨(k.cell (p := ⟨b, off + i * 2, none⟩) hb (hT ⟨b, off, none⟩ e)).trans (hc i hi).1, (k.cell (p := ⟨b, off + i * 2 + 1, none⟩) hb (hT ⟨b, off, none⟩ e)).trans (hc i hi).2⟩⟩
theorem PA.below {w w' : World} {A : Option Addr} {zs : List (Int × Int)} (h : PA w A zs) (k : Below w.heap.size w w') : PA w' A zs := h.turn (T := fun _ => False) (Turn.of_below k) (fun _ _ h => h)
theorem below_one (w : World) (o : Obj) : Below w.heap.size w (w.alloc o) := (Below.refl _ _).alloc (Nat.le_refl _) _
namespace lt

set_option maxHeartbeats 4000000 in
theorem takes_no (op : Int) (w : World) (h : kT op = -1) : Calls Try.prog 73 #[.int .i64 op] w fun e w' => e = .returned (.tuple #[.int .i64 0, .bool false]) ∧ w = w' := by
  rcases kT_cases op with ⟨h1, _⟩ | ⟨h1, _⟩ | ⟨h1, _⟩ | ⟨_, h2⟩
  · omega
  · omega
  · omega
  · obtain ⟨h1, h2, h3, h4, h5, h6, h7, h8, h9, h10, h11, h12⟩ : op ≠ 1 ∧ op ≠ 2 ∧ op ≠ 3 ∧ op ≠ 4 ∧ op ≠ 5 ∧ op ≠ 6 ∧ op ≠ 7 ∧ op ≠ 8 ∧ op ≠ 9 ∧ op ≠ 10 ∧ op ≠ 11 ∧ op ≠ 12 := by omega
    clear h h2
    go_enter Try.func73, Try.ntmps73
    go_wp2
    go_ret2
    exact ⟨rfl, rfl⟩
set_option maxHeartbeats 4000000 in
theorem takes_yes (op : Int) (t : Nat) (w : World) (h : kT op = t) : Calls Try.prog 73 #[.int .i64 op] w fun e w' => e = .returned (.tuple #[.int .i64 t, .bool true]) ∧ w = w' := by
  rcases kT_cases op with ⟨h1, h2⟩ | ⟨h1, h2⟩ | ⟨h1, h2⟩ | ⟨_, h2⟩
  · obtain rfl : t = 0 := by omega
    clear h h1
    rcases h2 with rfl | rfl | rfl
    all_goals
      go_enter Try.func73, Try.ntmps73
      go_wp2
      go_ret2
      exact ⟨rfl, rfl⟩
  · obtain rfl : t = 1 := by omega
    clear h h1
    rcases h2 with rfl | rfl | rfl | rfl
    all_goals
      go_enter Try.func73, Try.ntmps73
      go_wp2
      go_ret2
      exact ⟨rfl, rfl⟩
  · obtain rfl : t = 2 := by omega
    clear h h1
    rcases h2 with rfl | rfl | rfl | rfl | rfl
    all_goals
      go_enter Try.func73, Try.ntmps73
      go_wp2
      go_ret2
      exact ⟨rfl, rfl⟩
  · omega
set_option maxHeartbeats 4000000 in
/-- The document's. -/
theorem refTakes_any (op : Int) (w : World) : Calls Try.prog 44 #[.int .i64 op] w fun e w' => e = .returned (.int .i64 (kT op)) ∧ w = w' := by
  rcases kT_cases op with ⟨h1, h2⟩ | ⟨h1, h2⟩ | ⟨h1, h2⟩ | ⟨h1, h2⟩
  · rw [h1]
    clear h1
    rcases h2 with rfl | rfl | rfl
    all_goals
      go_enter Try.func44, Try.ntmps44
      go_wp2
      go_ret
      exact ⟨rfl, rfl⟩
  · rw [h1]
    clear h1
    rcases h2 with rfl | rfl | rfl | rfl
    all_goals
      go_enter Try.func44, Try.ntmps44
      go_wp2
      go_ret
      exact ⟨rfl, rfl⟩
  · rw [h1]
    clear h1
    rcases h2 with rfl | rfl | rfl | rfl | rfl
    all_goals
      go_enter Try.func44, Try.ntmps44
      go_wp2
      go_ret
      exact ⟨rfl, rfl⟩
  · rw [h1]
    obtain ⟨h1, h2, h3, h4, h5, h6, h7, h8, h9, h10, h11, h12⟩ : op ≠ 1 ∧ op ≠ 2 ∧ op ≠ 3 ∧ op ≠ 4 ∧ op ≠ 5 ∧ op ≠ 6 ∧ op ≠ 7 ∧ op ≠ 8 ∧ op ≠ 9 ∧ op ≠ 10 ∧ op ≠ 11 ∧ op ≠ 12 := by omega
    clear h1 h2
    go_enter Try.func44, Try.ntmps44
    go_wp2
    go_ret
    exact ⟨rfl, rfl⟩

/-- How many parts are left. -/
def leftV (n : Nat) (x : Int × Int) : Int := if ndW n x = 0 then (n : Int) - kT x.1 else 0
set_option maxRecDepth 20000 in
set_option maxHeartbeats 4000000 in
theorem left_any (op q : Int) (n : Nat) (w : World) (hn : n ≤ 1000) : Calls Try.prog 72 #[.agg #[.int .i64 op, .int .i64 q], .int .i64 n] w fun e w' => e = .returned (.tuple #[.int .i64 (leftV n (op, q)), .int .i64 (ndW n (op, q))]) ∧ Below w.heap.size w w' := by
  obtain ⟨a, HA⟩ : ∃ a, Hid (leftV n (op, q) = a) := ⟨_, Lib.hid rfl⟩
  obtain ⟨b, HB⟩ : ∃ b, Hid (ndW n (op, q) = b) := ⟨_, Lib.hid rfl⟩
  rw [HA.out, HB.out]
  by_cases hneg : kT op < 0
  · have h1 : kT op = -1 := by have := kT_range op; omega
    have e1 : ndW n (op, q) = 3 := by unfold ndW; rw [if_pos hneg]
    have HE : Hid (a = 0 ∧ b = 3) := Lib.hid ⟨by rw [← HA.out]; unfold leftV; rw [e1]; rfl, by rw [← HB.out]; exact e1⟩
    have H1 := Lib.hid h1
    clear h1 hneg e1
    go_enter Try.func72, Try.ntmps72
    go_wp2_with fail
    refine (takes_no op _ H1.out).mono ?_
    rintro e w' ⟨rfl, rfl⟩
    go_wp2
    go_ret2
    exact ⟨by rw [HE.out.1, HE.out.2]; rfl, below_one _ _⟩
  · obtain ⟨t, HT⟩ : ∃ t : Nat, Hid (kT op = t) := ⟨(kT op).toNat, Lib.hid (by omega)⟩
    have ht2 : t ≤ 2 := by have := kT_range op; have := HT.out; omega
    by_cases hsh : n < t
    · have e1 : ndW n (op, q) = 4 := by unfold ndW; rw [if_neg hneg, if_pos (by rw [HT.out]; omega)]
      have HE : Hid (a = 0 ∧ b = 4) := Lib.hid ⟨by rw [← HA.out]; unfold leftV; rw [e1]; rfl, by rw [← HB.out]; exact e1⟩
      clear hneg e1
      go_enter Try.func72, Try.ntmps72
      go_wp2_with fail
      refine (takes_yes op t _ HT.out).mono ?_
      rintro e w' ⟨rfl, rfl⟩
      go_wp2
      go_ret2
      exact ⟨by rw [HE.out.1, HE.out.2]; rfl, below_one _ _⟩
    · have hsh2 : t ≤ n := by omega
      by_cases h3 : op = 3
      · subst h3
        have ht0 : t = 0 := by have := HT.out; unfold kT at this; simp at this; omega
        subst ht0
        by_cases hq : q < 0 ∨ 8 ≤ q
        · have e1 : ndW n (3, q) = 10 := by unfold ndW; rw [if_neg hneg, if_neg (by rw [HT.out]; omega), if_pos ⟨rfl, hq⟩]
          have HE : Hid (a = 0 ∧ b = 10) := Lib.hid ⟨by rw [← HA.out]; unfold leftV; rw [e1]; rfl, by rw [← HB.out]; exact e1⟩
          clear hneg e1
          by_cases hq0 : q < 0
          · clear hq
            go_enter Try.func72, Try.ntmps72
            go_wp2_with fail
            refine (takes_yes 3 0 _ HT.out).mono ?_
            rintro e w' ⟨rfl, rfl⟩
            go_wp2
            go_ret2
            exact ⟨by rw [HE.out.1, HE.out.2]; rfl, below_one _ _⟩
          · have hq8 : 8 ≤ q := by omega
            clear hq
            go_enter Try.func72, Try.ntmps72
            go_wp2_with fail
            refine (takes_yes 3 0 _ HT.out).mono ?_
            rintro e w' ⟨rfl, rfl⟩
            go_wp2
            go_ret2
            exact ⟨by rw [HE.out.1, HE.out.2]; rfl, below_one _ _⟩
        · have e1 : ndW n (3, q) = 0 := by unfold ndW; rw [if_neg hneg, if_neg (by rw [HT.out]; omega), if_neg (fun h => hq h.2)]
          have HE : Hid (a = n ∧ b = 0) := Lib.hid ⟨by rw [← HA.out]; unfold leftV; rw [e1, if_pos rfl]; have := HT.out; show (n : Int) - kT 3 = n; omega, by rw [← HB.out]; exact e1⟩
          have hq0 : ¬ q < 0 := by omega
          have hq8 : ¬ 8 ≤ q := by omega
          clear hneg e1 hq
          go_enter Try.func72, Try.ntmps72
          go_wp2_with fail
          refine (takes_yes 3 0 _ HT.out).mono ?_
          rintro e w' ⟨rfl, rfl⟩
          go_wp2
          go_ret2
          exact ⟨by rw [HE.out.1, HE.out.2]; rfl, below_one _ _⟩
      · have e1 : ndW n (op, q) = 0 := by unfold ndW; rw [if_neg hneg, if_neg (by rw [HT.out]; omega), if_neg (fun h => h3 h.1)]
        have HE : Hid (a = n - t ∧ b = 0) := Lib.hid ⟨by rw [← HA.out]; unfold leftV; rw [e1, if_pos rfl]; show (n : Int) - kT op = _; rw [HT.out], by rw [← HB.out]; exact e1⟩
        clear hneg e1
        go_enter Try.func72, Try.ntmps72
        go_wp2_with fail
        refine (takes_yes op t _ HT.out).mono ?_
        rintro e w' ⟨rfl, rfl⟩
        go_wp2
        go_ret2
        exact ⟨by rw [HE.out.1, HE.out.2]; rfl, below_one _ _⟩
end lt
end Go.Proofs.Ytophajljjnjcdaa
