/- The next permutation in the order: plain facts. -/
import Derived.Test.YtkaddfbnlkmehaaPermRkPure
namespace Go.Proofs.Ytkaddfbnlkmehaa

/-- One more than the last place but one, from place i on down, at which the number does not fall; 0: none. -/
def atN (p : List Int) : Nat → Nat
  | 0 => 0
  | i + 1 => if p.getD i 0 > p.getD (i + 1) 0 then atN p i else i + 1
/-- The last place, from place j on down, that has no less than x. -/
def wtN (p : List Int) (x : Int) : Nat → Nat
  | 0 => 0
  | j + 1 => if p.getD (j + 1) 0 < x then wtN p x j else j + 1
/-- Two places change, the rest turns about. -/
def swp (p : List Int) (a b q : Nat) : Int :=
  let f := fun q => if q = b then p.getD a 0 else if q = a then p.getD b 0 else p.getD q 0
  if a + 1 ≤ q then f (a + 1 + p.length - 1 - q) else f q
def adv (p : List Int) : Option (List Int) :=
  match atN p (p.length - 1) with
  | 0 => none
  | a + 1 => some ((List.range p.length).map (swp p a (wtN p (p.getD a 0) (p.length - 1))))

/-- What adv tells, up to 6 things. -/
def advOk (n : Nat) : Bool := (List.range (fct n)).all fun i => adv (uns n i n) == if i + 1 < fct n then some (uns n (i + 1) n) else none
set_option maxRecDepth 1000000 in
theorem advOk_all : ((List.range 7).all advOk) = true := by decide +kernel
theorem adv_uns {n i : Nat} (hn : n ≤ 6) (hi : i < fct n) : adv (uns n i n) = if i + 1 < fct n then some (uns n (i + 1) n) else none := by
  have h := List.all_eq_true.1 advOk_all n (List.mem_range.2 (by omega))
  have h2 := List.all_eq_true.1 h i (List.mem_range.2 hi)
  simpa using h2
theorem uns_zero : ∀ n, n ≤ 6 → uns n 0 n = ups n := by
  have h : ∀ n, n < 7 → uns n 0 n = ups n := by decide +kernel
  exact fun n hn => h n (by omega)
end Go.Proofs.Ytkaddfbnlkmehaa
