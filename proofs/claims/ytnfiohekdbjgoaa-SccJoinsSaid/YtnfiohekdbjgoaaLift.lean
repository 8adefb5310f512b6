/- A region that draws its order within the round of a range over a function, by the walk outside of one. -/
import Derived.OrdersHeld
import Derived.OrdersIn
import Derived.CallsIn
import Derived.Deep.RegionHeld
import Derived.RangeFuncCalls
namespace Go.Proofs.Ytnfiohekdbjgoaa
open Go
theorem opIn_lift {l n : Nat} {P : Program} {o : Oper} {a : Act} {w : World} {K K' : Act → World → Prop} {Q : Exit → Act → World → Prop} (hd : ∀ c, o.op ≠ .defer c) (hK : ∀ a w, K a w → K' a w) (h : o.wp P a w K Q) : o.wpIn (Fence.wide.inRound l) n P a w K' Q := by
  refine ⟨fun _ _ => trivial, ?_⟩
  rw [Oper.semAt_eq _ _ _ hd]
  unfold Oper.wp at h
  cases hr : (execOp a.eval o).run P w with
  | ok x w' =>
    rw [hr] at h
    cases x <;> simp only [Oper.upon, Oper.uponIn] at h ⊢
    · exact hK _ _ h
    · exact hK _ _ h
    · refine ⟨fun h => (by cases h), CallsIn.inRound l ((callsIn_wide.2 h).mono ?_)⟩
      rintro (v | c | _) w3 h3
      · exact hK _ _ h3
      · exact h3
      · exact h3
    · exact hK _ _ h
    · refine ⟨fun h => (by cases h), fun c cs hroom => ?_⟩
      obtain ⟨v, w3, r, s⟩ := h c cs
      exact ⟨v, w3, hK _ _ r, stepsIn_wide.2 s⟩
  | halt x w' =>
    rw [hr] at h
    cases x <;> simp only [Oper.upon, Oper.uponIn] at h ⊢
    all_goals exact h

theorem anyIn_lift {l n : Nat} {P : Program} {md : Region.Mode} {ops : Array Oper} {Q : Exit → Act → World → Prop} {S : World → Prop} (hd : ∀ (i : Nat) (o : Oper), ops[i]? = some o → ∀ c, o.op ≠ .defer c) (hQ : ¬ LetsOut Q) :
    ∀ (fuel : Nat) (listed : Array Bool) (a : Act) (w : World), wpAnyH P md ops Q S fuel listed a w → wpAnyIn (Fence.wide.inRound l) n P md ops Q fuel listed a w
  | 0, _, _, _, h => h
  | fuel + 1, _, _, _, h => ⟨h.1, fun i hi => by
      have hw := h.2 i hi
      unfold wpOp at hw
      unfold wpOpIn
      split at hw
      · rename_i ho
        rw [ho]
        exact anyIn_lift hd hQ fuel _ _ _ hw.2
      · rename_i o ho
        rw [ho]
        simp only
        split
        · rename_i hwant
          rw [if_pos hwant] at hw
          rcases hw with hw | hw
          · exact opIn_lift (hd i o ho) (fun a w h' => anyIn_lift hd hQ fuel _ a w h'.2) hw
          · exact absurd hw.2 hQ
        · rename_i hwant
          rw [if_neg hwant] at hw
          exact ⟨fun _ _ => trivial, anyIn_lift hd hQ fuel _ _ _ hw.2⟩⟩

/-- A region that draws its order, within a round: as it is walked outside of one. -/
theorem wpIn_region_lift {l n id : Nat} {P : Program} {ops : Array Oper} {Q : Exit → Act → World → Prop} {a : Act} {w : World} (S : World → Prop) (hm : P.follows .mixedOrders = true) (hd : ∀ (i : Nat) (o : Oper), ops[i]? = some o → ∀ c, o.op ≠ .defer c) (hQ : ¬ LetsOut Q)
    (h : wpAnyH P .any ops Q S ops.size (Array.replicate ops.size false) a { w with drawn := w.drawn + 1 }) : (Code.region id ops true).wpIn (Fence.wide.inRound l) n P Q a w :=
  wpIn_region_any hm (anyIn_lift hd hQ _ _ _ _ h)
theorem no_defer {ops : Array Oper} (h : (ops.all fun o => match o.op with | .defer _ => false | _ => true) = true) : ∀ (i : Nat) (o : Oper), ops[i]? = some o → ∀ c, o.op ≠ .defer c := by
  intro i o ho c e
  obtain ⟨hi, rfl⟩ := Array.getElem?_eq_some_iff.1 ho
  have h1 := (Array.all_eq_true.1 h) i hi
  rw [e] at h1
  cases h1
/-- The same, its premises as a walk lays them. -/
theorem wpIn_region_held {l n id : Nat} {P : Program} {ops : Array Oper} {Q : Exit → Act → World → Prop} {a : Act} {w : World} (S : World → Prop) (hm : P.follows .mixedOrders = true) (hd : (ops.all fun o => match o.op with | .defer _ => false | _ => true) = true) (hQ : ∀ a w, ¬ Q .outgrown a w)
    (h : wpAnyH P .any ops Q S ops.size (Array.replicate ops.size false) a w.drew) : (Code.region id ops true).wpIn (Fence.wide.inRound l) n P Q a w :=
  wpIn_region_lift S hm (no_defer hd) (fun ⟨a', w', h'⟩ => hQ a' w' h') h
end Go.Proofs.Ytnfiohekdbjgoaa
