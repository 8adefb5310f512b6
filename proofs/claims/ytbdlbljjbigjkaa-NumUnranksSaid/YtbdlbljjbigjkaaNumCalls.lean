/- Contracts of num's calls by cases, and of 'lives': what the laws of num call. -/
import Derived.Test.YtbdlbljjbigjkaaLaw
import Derived.Test.YtbdlbljjbigjkaaLives
import Derived.Test.YtbdlbljjbigjkaaRankPure
namespace Go.Proofs.Ytbdlbljjbigjkaa
open Go.ChangeShapes Go.WideShapes Go.ChangeAt Go.RowKit

theorem rank_some {A B : Option Addr} {c d : Nat} {ds bs : List Int} {w : World} {n : Int} (h : rankF ds bs = some n) (hA : IA w A ds) (hB : IA w B bs) (hd : W64 ds) (hb : W64 bs) (hdl : ds.length ≤ maxLen) (hbl : bs.length ≤ maxLen) :
    Calls Try.prog 27 #[.slice A ds.length c, .slice B bs.length d] w fun e w' => e = .returned (.tuple #[.int .i64 n, .bool true]) ∧ w = w' := by
  have := rank_any A B c d ds bs w hA hB hd hb hdl hbl
  rw [h] at this; exact this
theorem rank_none {A B : Option Addr} {c d : Nat} {ds bs : List Int} {w : World} (h : rankF ds bs = none) (hA : IA w A ds) (hB : IA w B bs) (hd : W64 ds) (hb : W64 bs) (hdl : ds.length ≤ maxLen) (hbl : bs.length ≤ maxLen) :
    Calls Try.prog 27 #[.slice A ds.length c, .slice B bs.length d] w fun e w' => e = .returned (.tuple #[.int .i64 0, .bool false]) ∧ w = w' := by
  have := rank_any A B c d ds bs w hA hB hd hb hdl hbl
  rw [h] at this; exact this
theorem refRank_some {A B : Option Addr} {c d : Nat} {ds bs : List Int} {w : World} {n : Int} (h : rankF ds bs = some n) (hA : IA w A ds) (hB : IA w B bs) (hd : W64 ds) (hb : W64 bs) (hdl : ds.length ≤ maxLen) (hbl : bs.length ≤ maxLen) :
    Calls Try.prog 28 #[.slice A ds.length c, .slice B bs.length d] w fun e w' => e = .returned (.tuple #[.int .i64 n, .bool true]) ∧ ∃ n, w' = w.drewN n := by
  have := refRank_any A B c d ds bs w hA hB hd hb hdl hbl
  rw [h] at this; exact this
theorem refRank_none {A B : Option Addr} {c d : Nat} {ds bs : List Int} {w : World} (h : rankF ds bs = none) (hA : IA w A ds) (hB : IA w B bs) (hd : W64 ds) (hb : W64 bs) (hdl : ds.length ≤ maxLen) (hbl : bs.length ≤ maxLen) :
    Calls Try.prog 28 #[.slice A ds.length c, .slice B bs.length d] w fun e w' => e = .returned (.tuple #[.int .i64 0, .bool false]) ∧ ∃ n, w' = w.drewN n := by
  have := refRank_any A B c d ds bs w hA hB hd hb hdl hbl
  rw [h] at this; exact this

/-- A row of ints of the call's own, behind a call. -/
def NewRow (W : World) (ds : List Int) (e : Ending) (w' : World) : Prop := ∃ g, e = .returned (.tuple #[.slice (some ⟨g, 0, none⟩) ds.length ds.length, .bool true]) ∧ Below W.heap.size W w' ∧ IA w' (some ⟨g, 0, none⟩) ds
theorem unrank_some {n : Int} {B : Option Addr} {d : Nat} {bs ds : List Int} {w : World} (h : unrankF n bs = some ds) (hB : IA w B bs) (hb : W64 bs) (hbl : 8 * bs.length ≤ 281474976710656) (hn1 : -9223372036854775808 ≤ n) (hn2 : n ≤ 9223372036854775807) :
    Calls Try.prog 29 #[.int .i64 n, .slice B bs.length d] w (NewRow w ds) := by
  refine (unrank_any n B d bs w hB hb hbl hn1 hn2).mono ?_
  rintro e w' ⟨hb, h2⟩
  rw [h] at h2
  obtain ⟨g, he, hi⟩ := h2
  exact ⟨g, he, hb, hi⟩
theorem unrank_none {n : Int} {B : Option Addr} {d : Nat} {bs : List Int} {w : World} (h : unrankF n bs = none) (hB : IA w B bs) (hb : W64 bs) (hbl : 8 * bs.length ≤ 281474976710656) (hn1 : -9223372036854775808 ≤ n) (hn2 : n ≤ 9223372036854775807) :
    Calls Try.prog 29 #[.int .i64 n, .slice B bs.length d] w fun e w' => e = .returned (.tuple #[.slice none 0 0, .bool false]) ∧ Below w.heap.size w w' := by
  refine (unrank_any n B d bs w hB hb hbl hn1 hn2).mono ?_
  rintro e w' ⟨hb, h2⟩
  rw [h] at h2
  exact ⟨h2, hb⟩
theorem refUnrank_some {n : Int} {B : Option Addr} {d : Nat} {bs ds : List Int} {w : World} (h : unrankF n bs = some ds) (hB : IA w B bs) (hb : W64 bs) (hbl : 8 * bs.length ≤ 281474976710656) (hn1 : -9223372036854775808 ≤ n) (hn2 : n ≤ 9223372036854775807) :
    Calls Try.prog 30 #[.int .i64 n, .slice B bs.length d] w (NewRow w ds) := by
  refine (refUnrank_any n B d bs w hB hb hbl hn1 hn2).mono ?_
  rintro e w' ⟨hb, h2⟩
  rw [h] at h2
  obtain ⟨g, he, hi⟩ := h2
  exact ⟨g, he, hb, hi⟩
theorem refUnrank_none {n : Int} {B : Option Addr} {d : Nat} {bs : List Int} {w : World} (h : unrankF n bs = none) (hB : IA w B bs) (hb : W64 bs) (hbl : 8 * bs.length ≤ 281474976710656) (hn1 : -9223372036854775808 ≤ n) (hn2 : n ≤ 9223372036854775807) :
    Calls Try.prog 30 #[.int .i64 n, .slice B bs.length d] w fun e w' => e = .returned (.tuple #[.slice none 0 0, .bool false]) ∧ Below w.heap.size w w' := by
  refine (refUnrank_any n B d bs w hB hb hbl hn1 hn2).mono ?_
  rintro e w' ⟨hb, h2⟩
  rw [h] at h2
  exact ⟨h2, hb⟩
theorem same_yes {A B : Option Addr} {c d : Nat} {xs : List Int} {w : World} (hA : IA w A xs) (hB : IA w B xs) (hxl : xs.length ≤ maxLen) :
    Calls Try.prog 31 #[.slice A xs.length c, .slice B xs.length d] w fun e w' => e = .returned (.bool true) ∧ ∃ n, w' = w.drewN n := by
  have h := same_any A B c d _ _ xs xs w rfl rfl hA hB hxl hxl
  have e : sameB xs xs = true := decide_eq_true rfl
  rw [e] at h; exact h
theorem same_nil {w : World} :
    Calls Try.prog 31 #[.slice none 0 0, .slice none 0 0] w fun e w' => e = .returned (.bool true) ∧ ∃ n, w' = w.drewN n :=
  same_yes (xs := []) (IA.nil _ _) (IA.nil _ _) (by simp)
theorem fits64 {x : Int} (w : (Lit.int .i64 x).wf = true) : -9223372036854775808 ≤ x ∧ x ≤ 9223372036854775807 := by
  have e : IntKind.i64.min = -9223372036854775808 := rfl
  simpa [Lit.wf, e] using w
end Go.Proofs.Ytbdlbljjbigjkaa
