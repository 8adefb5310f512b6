/- What the program's operations make of two numbers. -/
import Derived.Test.YtgbnafakaaooiaaExprKindAll
import Derived.Test.YtgbnafakaaooiaaNumOps
namespace Go.Proofs.Ytgbnafakaaooiaa
open Go.ChangeShapes Go.WideShapes Go.ChangeAt Go.RowKit

/-- A truth as a number. -/
def truthZ (b : Bool) : Int := if b then 1 else 0
/-- Is it so? -/
def askB (op l r : Int) : Bool := if op = 9 then r == 0 else if op = 14 then l == r else if op = 15 then l != r else if op = 16 then decide (l < r) else if op = 17 then decide (l ≤ r) else if op = 18 then l != 0 && r != 0 else l != 0 || r != 0
/-- What comes of two numbers; none: it is out of its range. -/
def valV (op l r : Int) : Option Int := if op = 10 ∨ op = 12 then numSums.told l r (l - r) else if op = 11 then numSums.told l r (l + r) else if op = 13 then numSums.told l r (l * r) else some (truthZ (askB op l r))
/-- What a function leaves that hands back a number and whether. -/
def MayP (w : World) (r : Option Int) (e : Ending) (w' : World) : Prop := e = .returned (.tuple #[.int .i64 (r.getD 0), .bool r.isSome]) ∧ Below w.heap.size w w'

theorem ask1 (op l r : Int) (w : World) (h : op = 9 ∨ op = 14 ∨ op = 15 ∨ op = 16 ∨ op = 17 ∨ op = 18 ∨ op = 19) :
    Calls Try.prog (askFn op) #[.int .i64 l, .int .i64 r] w fun e w' => e = .returned (.bool (askB op l r)) ∧ w = w' := by
  rcases h with rfl | rfl | rfl | rfl | rfl | rfl | rfl
  · show Calls Try.prog 61 _ _ _
    go_enter Try.func61, Try.ntmps61
    go_wp2
    go_ret
    exact ⟨ret_bool rfl, rfl⟩
  · show Calls Try.prog 65 _ _ _
    go_enter Try.func65, Try.ntmps65
    go_wp2
    go_ret
    exact ⟨ret_bool rfl, rfl⟩
  · show Calls Try.prog 66 _ _ _
    go_enter Try.func66, Try.ntmps66
    go_wp2
    go_ret
    exact ⟨ret_bool rfl, rfl⟩
  · show Calls Try.prog 67 _ _ _
    go_enter Try.func67, Try.ntmps67
    go_wp2
    go_ret
    exact ⟨ret_bool rfl, rfl⟩
  · show Calls Try.prog 68 _ _ _
    go_enter Try.func68, Try.ntmps68
    go_wp2
    go_ret
    exact ⟨ret_bool rfl, rfl⟩
  · show Calls Try.prog 69 _ _ _
    by_cases hl : l = 0
    · subst hl
      go_enter Try.func69, Try.ntmps69
      go_wp2
      go_ret
      exact ⟨ret_bool rfl, rfl⟩
    · have h2 : (l != 0) = true := by simpa using hl
      have HE : Hid (askB 18 l r = (r != 0)) := Lib.hid (by show (l != 0 && r != 0) = _; rw [h2, Bool.true_and])
      go_enter Try.func69, Try.ntmps69
      go_wp2
      go_ret
      exact ⟨by rw [HE.out]; rfl, rfl⟩
  · show Calls Try.prog 70 _ _ _
    by_cases hl : l = 0
    · subst hl
      go_enter Try.func70, Try.ntmps70
      go_wp2
      go_ret
      exact ⟨ret_bool (by show _ = ((0 : Int) != 0 || r != 0); simp), rfl⟩
    · have h2 : (l != 0) = true := by simpa using hl
      have HE : Hid (askB 19 l r = true) := Lib.hid (by show (l != 0 || r != 0) = _; rw [h2, Bool.true_or])
      go_enter Try.func70, Try.ntmps70
      go_wp2
      go_ret
      exact ⟨by rw [HE.out]; rfl, rfl⟩

theorem asks1_any (op l r : Int) (b : Nat) (w : World) (h : op = 9 ∨ op = 14 ∨ op = 15 ∨ op = 16 ∨ op = 17 ∨ op = 18 ∨ op = 19) (hc : w.cell? ⟨b, 0, none⟩ = some (.func (.func (askFn op)) #[] #[])) :
    Calls Try.prog 73 #[.int .i64 l, .int .i64 r, .pointer (some ⟨b, 0, none⟩)] w (MayP w (some (truthZ (askB op l r)))) := by
  have HC := Lib.hid (ask1 op l r w h)
  have eg : ∀ args w, (callFunc (askFn op) args).run Try.prog w = .ok (.enter (askFn op) args) w := by
    rcases h with rfl | rfl | rfl | rfl | rfl | rfl | rfl
    · exact enters_of Try.func61 (by kernel_rfl) rfl
    · exact enters_of Try.func65 (by kernel_rfl) rfl
    · exact enters_of Try.func66 (by kernel_rfl) rfl
    · exact enters_of Try.func67 (by kernel_rfl) rfl
    · exact enters_of Try.func68 (by kernel_rfl) rfl
    · exact enters_of Try.func69 (by kernel_rfl) rfl
    · exact enters_of Try.func70 (by kernel_rfl) rfl
  obtain ⟨q, HQ⟩ : ∃ q, Hid (askB op l r = q) := ⟨_, Lib.hid rfl⟩
  rw [HQ.out]
  generalize askFn op = K at *
  clear h
  cases q
  all_goals
    go_enter Try.func73, Try.ntmps73
    go_wp2_with fail
    refine HC.out.mono ?_
    rintro e w' ⟨rfl, rfl⟩
    rw [HQ.out]
    go_wp2
    go_ret2
    exact ⟨rfl, Below.refl _ _⟩

/-- What a function value of an operation makes of two numbers. -/
theorem value_any (op l r : Int) (fv : Value) (B : Nat) (w : World) (h : 9 ≤ op ∧ op ≤ 19) (hf : OpF w B op fv) : ∃ g lb, fv = .func (.func g) #[] lb ∧ (∀ args w, (callFunc g args).run Try.prog w = .ok (.enter g args) w) ∧
    ∀ W, Below w.heap.size w W → Calls Try.prog g (#[.int .i64 l, .int .i64 r] ++ lb) W (MayP W (valV op l r)) := by
  rcases hf with ⟨hf, _⟩ | ⟨hf, rfl⟩ | ⟨rfl, rfl⟩ | ⟨rfl, rfl⟩ | ⟨hf, b, rfl, _, hb, hc⟩
  · omega
  · refine ⟨_, _, rfl, enters_of Try.func62 (by kernel_rfl) rfl, fun W _ => ?_⟩
    have e : valV op l r = numSums.told l r (l - r) := if_pos hf
    rw [e]
    exact (numSums.sub_any l r W).mono fun x w' h => ⟨h.2, h.1⟩
  · refine ⟨_, _, rfl, enters_of Try.func63 (by kernel_rfl) rfl, fun W _ => ?_⟩
    exact (numSums.add_any l r W).mono fun x w' h => ⟨h.2, h.1⟩
  · refine ⟨_, _, rfl, enters_of Try.func64 (by kernel_rfl) rfl, fun W _ => ?_⟩
    exact (numSums.mul_any l r W).mono fun x w' h => ⟨h.2, h.1⟩
  · refine ⟨_, _, rfl, enters_of Try.func73 (by kernel_rfl) rfl, fun W hW => ?_⟩
    have e : valV op l r = some (truthZ (askB op l r)) := by
      unfold valV
      rw [if_neg (by omega), if_neg (by omega), if_neg (by omega)]
    rw [e]
    exact asks1_any op l r b W (by omega) ((hW.cell (p := ⟨b, 0, none⟩) hb).trans hc)
end Go.Proofs.Ytgbnafakaaooiaa
