/- Contracts of package bits: All, of a set without words; And, Or, Minus of what is no set. -/
import Derived.Test.YtcoocchfadbhdaaEach
import Derived.Test.YtcoocchfadbhdaaSame
namespace Go.Proofs.Ytcoocchfadbhdaa
open Go.ChangeShapes Go.WideShapes Go.ChangeAt Go.RowKit Go.Shelf

attribute [local go_sem] Oper.semAt_some

theorem HD.below {w w' : World} {p : Option Addr} {mk : Bool} {n : Nat} {A : Option Addr} {m c : Nat} (h : HD w p mk n A m c) (hb : Below w.heap.size w w') : HD w' p mk n A m c := by
  rcases h with h | ⟨s, rfl, h⟩
  · exact .inl h
  · exact .inr ⟨s, rfl, h.of_block (hb.block s h.lt)⟩
theorem all_any (p : Option Addr) (w : World) :
    Calls Try.prog 40 #[.pointer p] w fun e w' => e = .returned (.func (.func 59) #[] #[.pointer (some ⟨w.heap.size, 0, none⟩)]) ∧ w' = w.alloc (.cells #[.pointer p] 23) := by
  go_enter Try.func40, Try.ntmps40
  go_wp2
  go_ret
  exact ⟨rfl, rfl⟩

set_option maxHeartbeats 1000000 in
theorem all0_in (n l Bp : Nat) {p : Option Addr} {mk : Bool} {m : Nat} {A : Option Addr} {c : Nat} (J : World → Prop) (W : World)
    (hJ : ∀ W o, J W → J (W.alloc o)) (hBp : W.cell? ⟨Bp, 0, none⟩ = some (.pointer p)) (h : HD W p mk m A 0 c) (h0 : J W) :
    CallsIn Fence.wide n Try.prog 59 #[.func (.yield l) #[] #[], .pointer (some ⟨Bp, 0, none⟩)] W fun e W' => (∃ v, e = .returned v) ∧ J W' := by
  have hlt : Bp < W.heap.size := by
    rcases Nat.lt_or_ge Bp W.heap.size with hlt | hge
    · exact hlt
    · simp [World.cell?, Array.getElem?_eq_none hge] at hBp
  have H : Hid (HD (W.alloc (.cells #[.func (.yield l) #[] #[]] 30)) p mk m A 0 c) := Lib.hid (by
    rcases h with h | ⟨s, rfl, h⟩
    · exact .inl h
    · exact .inr ⟨s, rfl, h.alloc _⟩)
  have c1 := cell_alloc_l (.cells #[.func (.yield l) #[] #[]] 30) hBp
  have HJ := Lib.hid (hJ W (.cells #[.func (.yield l) #[] #[]] 30) h0)
  clear h h0 hJ hBp
  refine callsIn_of_wp Try.func59 rfl trivial ?_ rfl
  simp only [Try.ntmps59, List.size_toArray, List.length_cons, List.length_nil, Nat.reduceAdd, Nat.reduceSub, Array.replicate_succ, Array.replicate_zero, List.push_toArray, List.append_toArray, List.nil_append, List.cons_append]
  gi_wp2_with fail
  refine ⟨trivial, fun h => (by cases h), ?_⟩
  refine (callsIn_wide.2 (held_any H.out)).mono ?_
  rintro e w' ⟨rfl, rfl⟩
  gi_wp2_with fail
  gi_loopw [9] (fun i wr => i = .int .i64 0 ∧ Hid (J wr)) (fun _ _ => 0)
  case atStart => exact ⟨rfl, HJ⟩
  case round =>
    obtain ⟨rfl, HJ⟩ := hrel
    gi_wp2
    go_end0
    exact ⟨⟨_, rfl⟩, HJ.out⟩
theorem all_stops0 (n Bp : Nat) {p : Option Addr} {mk : Bool} {m : Nat} {A : Option Addr} {c : Nat} (w : World)
    (hBp : w.cell? ⟨Bp, 0, none⟩ = some (.pointer p)) (h : HD w p mk m A 0 c) :
    SeqStopsK Fence.wide n Try.prog 59 #[.pointer (some ⟨Bp, 0, none⟩)] (fun x : Nat => #[Value.int .i64 x]) (fun _ _ => True) (fun ys => ys = []) (fun _ => False) 0 w := fun l J Jx W hW hJ _ _ h0 => by
  have hlt : Bp < w.heap.size := by
    rcases Nat.lt_or_ge Bp w.heap.size with hlt | hge
    · exact hlt
    · simp [World.cell?, Array.getElem?_eq_none hge] at hBp
  refine (all0_in n l Bp (J []) W (fun W o h => hJ [] W _ none h (World.grownBy_alloc W o none) (fun r e => by cases e)) ((hW.cell (p := ⟨Bp, 0, none⟩) hlt).trans hBp) (h.below hW) h0).mono ?_
  rintro e W' ⟨hv, hj⟩
  exact ⟨hv, .inl ⟨_, rfl, hj⟩⟩

theorem and_no {w : World} {p q : Option Addr} {mk mk' : Bool} {n n' : Nat} {A A' : Option Addr} {m c m' c' : Nat} (h : HD w p mk n A m c) (h' : HD w q mk' n' A' m' c') (hno : mk = false ∨ mk' = false) :
    Calls Try.prog 26 #[.pointer p, .pointer q] w fun e w' => e = .returned (.pointer none) ∧ ∃ j, w' = w.drewN j := by
  have H := Lib.hid (merged_no h h' (.func (.func 53) #[] #[]) hno)
  clear h h' hno
  go_enter Try.func26, Try.ntmps26
  go_wp2_with fail
  refine H.out.mono ?_
  rintro e w' ⟨rfl, j, rfl⟩
  go_wp2
  go_ret
  exact ⟨rfl, _, rfl⟩
theorem or_no {w : World} {p q : Option Addr} {mk mk' : Bool} {n n' : Nat} {A A' : Option Addr} {m c m' c' : Nat} (h : HD w p mk n A m c) (h' : HD w q mk' n' A' m' c') (hno : mk = false ∨ mk' = false) :
    Calls Try.prog 27 #[.pointer p, .pointer q] w fun e w' => e = .returned (.pointer none) ∧ ∃ j, w' = w.drewN j := by
  have H := Lib.hid (merged_no h h' (.func (.func 54) #[] #[]) hno)
  clear h h' hno
  go_enter Try.func27, Try.ntmps27
  go_wp2_with fail
  refine H.out.mono ?_
  rintro e w' ⟨rfl, j, rfl⟩
  go_wp2
  go_ret
  exact ⟨rfl, _, rfl⟩
theorem minus_no {w : World} {p q : Option Addr} {mk mk' : Bool} {n n' : Nat} {A A' : Option Addr} {m c m' c' : Nat} (h : HD w p mk n A m c) (h' : HD w q mk' n' A' m' c') (hno : mk = false ∨ mk' = false) :
    Calls Try.prog 28 #[.pointer p, .pointer q] w fun e w' => e = .returned (.pointer none) ∧ ∃ j, w' = w.drewN j := by
  have H := Lib.hid (merged_no h h' (.func (.func 55) #[] #[]) hno)
  clear h h' hno
  go_enter Try.func28, Try.ntmps28
  go_wp2_with fail
  refine H.out.mono ?_
  rintro e w' ⟨rfl, j, rfl⟩
  go_wp2
  go_ret
  exact ⟨rfl, _, rfl⟩
theorem HD.nobody (w : World) : HD w none false 0 none 0 0 := .inl ⟨rfl, rfl, rfl, rfl, rfl, rfl⟩
theorem HD.zero (w : World) : HD (w.alloc (.cells #[.bool false, .int .i64 0, .slice none 0 0] 60)) (some ⟨w.heap.size, 0, none⟩) false 0 none 0 0 :=
  .inr ⟨w.heap.size, rfl, World.rowIs_alloc w #[.bool false, .int .i64 0, .slice none 0 0] 60 (headF false 0 none 0 0) (fun i hi => by
    obtain rfl | rfl | rfl : i = 0 ∨ i = 1 ∨ i = 2 := by simp at hi; omega
    · rfl
    · rfl
    · rfl)⟩

/-- A range over the numbers of a set without words: no round is gone. -/
theorem no_rounds {g : Operand} {ps : Array Tmp} {assign body : Code} {Q : Exit → Act → World → Prop} {a : Act} {w : World} {Bp : Nat} {p : Option Addr} {mk : Bool} {m : Nat} {A : Option Addr} {c : Nat}
    (hg : a.eval g = .func (.func 59) #[] #[.pointer (some ⟨Bp, 0, none⟩)]) (hc : w.cell? ⟨Bp, 0, none⟩ = some (.pointer p)) (h : HD w p mk m A 0 c) (hps : ps.size = 1)
    (hassign : ∀ (l : Nat) (x : Nat) (W : World) (K : Act → World → Prop), (∀ a', K a' W) → assign.wpIn (Fence.wide.inRound l) (5 - 1 - 1) Try.prog (Exit.then K (fun _ _ _ => False)) { tmps := (ps.zip #[Value.int .i64 x]).foldl (fun t (p, v) => t.setIfInBounds p v) a.tmps, defers := [] } W)
    (hdone : ∀ (D : Nat) (W : World), w.heap.size ≤ D → Below w.heap.size w W → W.heap[D]? = some (.deferred (some [])) → Q .normal { a with defers := { target := .collected D, args := #[] } :: a.defers } W) :
    (Code.rangeFunc g ps assign body).wpIn Fence.wide 5 Try.prog Q a w :=
  wpIn_rangeFunc_ownH (F := Fence.wide) (n := 5) rfl (by omega) hg trivial (enters_of Try.func59 (by kernel_rfl) rfl) (all_stops0 (5 - 1) Bp w hc h) (fun _ _ => trivial) (fun _ _ _ _ _ _ _ _ => trivial) (Below.refl _ _) (fun _ => hps.symm)
    (fun _ W => Below w.heap.size w W) (fun _ _ _ => False) (ownFrom_below (Nat.le_refl _) (Nat.le_refl _)) (fun _ _ _ _ _ hs _ _ => hs) (Below.refl _ _) (fun _ _ _ => True) (fun _ _ _ _ _ _ _ _ _ => trivial)
    (fun l pre x W K hI hK => hassign l x W K (fun a' => hK a' W ((KeepsOthers.refl _).from _) trivial hI trivial))
    (fun _ _ _ _ _ _ _ _ _ hlen => absurd hlen (Nat.not_lt_zero _))
    (fun D xs W hD _ hB hK => hdone D W hD hB hK)
    (fun _ _ _ _ _ _ hf _ => hf.elim)
end Go.Proofs.Ytcoocchfadbhdaa
