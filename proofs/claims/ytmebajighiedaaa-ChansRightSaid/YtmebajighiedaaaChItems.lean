/- Contracts of package chans: Items, Len; slices.Clone of ints. -/
import Derived.Test.YtmebajighiedaaaChHeld
import Derived.ArgAppend
import Derived.RangeFuncRecord
namespace Go.Proofs.Ytmebajighiedaaa.ch
open Go.ChangeShapes Go.WideShapes Go.ChangeAt Go.RowKit

theorem eqlNil (w : World) (a : Option Addr) (l c : Nat) : (binOp .eql 22 (.slice a l c) (.slice none 0 0)).run Try.prog w = .ok (.bool a.isNone) w := Lib.run_eql_slice_nil w _ _ a l c 0 0 Try.underlying22
/-- The slice's block was made since w, and may be stored. -/
def New (w w' : World) (A : Option Addr) : Prop := ∀ a, A = some a → w.heap.size ≤ a.block ∧ a.block < w'.heap.size ∧ ∀ i, w'.frozen? ⟨a.block, i, none⟩ = false
theorem OI.insN {base : Nat} {w : World} {v : Value} {l : List Int} (h : OI base w v l) : ∃ A c, v = .slice A l.length c ∧ InS w A c l ∧ ∀ a, A = some a → base ≤ a.block ∧ a.block < w.heap.size ∧ ∀ i, w.frozen? ⟨a.block, i, none⟩ = false := by
  obtain ⟨A, c, e, hi, hk⟩ := h.ins
  refine ⟨A, c, e, hi, fun a ea => ⟨(hk a ea).1, (hk a ea).2, fun i => ?_⟩⟩
  rcases h.2 with ⟨e2, _⟩ | ⟨g, cap, cur, e2, _, hg, _⟩
  · rw [e] at e2; injection e2 with e2; rw [e2] at ea; cases ea
  · rw [e] at e2; injection e2 with e2; rw [e2] at ea; injection ea with ea; subst ea; simp [World.frozen?, hg]
/-- What a call leaves that hands back a list of the call's own. -/
def RowO (w : World) (L : List Int) (e : Ending) (w' : World) : Prop := ∃ A c, e = .returned (.slice A L.length c) ∧ InS w' A c L ∧ Below w.heap.size w w' ∧ New w w' A
theorem OI.rowO {w w' : World} {v : Value} {l : List Int} (h : OI w.heap.size w' v l) (hb : Below w.heap.size w w') : RowO w l (.returned v) w' := by
  obtain ⟨A, c, rfl, hi, hk⟩ := OI.insN h
  exact ⟨A, c, rfl, hi, hb, hk⟩
theorem empty_own (w : World) : OI w.heap.size (w.alloc (.cells #[] 3)) (.slice (some ⟨w.heap.size, 0, none⟩) 0 0) [] := ⟨rfl, .inr ⟨w.heap.size, 0, #[], rfl, Nat.le_refl _, World.alloc_heap_new w _, Nat.le_refl _, Nat.zero_le _, rfl, rfl⟩⟩
set_option maxRecDepth 20000 in
theorem clone_any (A : Option Addr) (c m : Nat) (l : List Int) (w : World) (hm : m = l.length) (hI : IA w A l) (hN : A = none → c = 0) (hl : 8 * m ≤ 140737488355328) :
    Calls Try.prog 21 #[.slice A m c] w (RowO w l) := by
  have HM := Lib.hid hm
  have HI := Lib.hid hI
  have HL := Lib.hid hl
  have HN := Lib.hid hN
  have q := eqlNil
  cases A with
  | none =>
    obtain rfl : l = [] := ia_none hI
    obtain rfl : m = 0 := hm
    clear hI hl hN HM HI HL HN
    go_enter Try.func21, Try.ntmps21
    go_wp2
    go_ret
    exact ⟨none, 0, rfl, ⟨IA.nil _ _, Nat.le_refl _, Nat.zero_le _, fun _ => rfl⟩, Below.refl _ _, fun _ h => by cases h⟩
  | some ad =>
    clear hm hI hl hN
    go_enter Try.func21, Try.ntmps21
    go_wp2_with (at_builtin; refine append_list8 rfl (.tmp 5) (.tmp 6) rfl w.heap.size _ [] rfl (empty_own w) (some ad) m c l HM.out rfl (HI.out.alloc _) HN.out (by have := HL.out; have := HM.out; simp; omega) (by simp) ?_; intro v3 w3 ho3 hb3; rw [List.nil_append] at ho3; have HO3 := Lib.hid ho3; have HB3 : Hid (Below w.heap.size w w3) := Lib.hid (((Below.refl _ w).alloc (Nat.le_refl _) _).trans hb3); clear ho3 hb3)
    go_ret
    exact OI.rowO HO3.out HB3.out

theorem IA.non {w : World} {A : Option Addr} {l : List Int} (h : IA w A l) : A = none → l.length = 0 := fun e => by
  subst e; rw [ia_none h]; rfl
theorem items_any (A : Option Addr) (c m : Nat) (l : List Int) (w : World) (hm : m = l.length) (hA : IA w A l) (hmc : m ≤ c) (hcm : c ≤ maxLen) (hl : 8 * m ≤ 140737488355328) :
    Calls Try.prog 11 #[.slice A m c] w (RowO w (itemsF l)) := by
  have HH := Lib.hid (held_any A c m l w hm hA hmc hcm)
  have HL : Hid (8 * (itemsF l).length ≤ 140737488355328) := Lib.hid (by have := items_le l; omega)
  clear hm hA hl
  go_enter Try.func11, Try.ntmps11
  go_wp2_with fail
  refine HH.out.mono ?_
  rintro e w1 ⟨A1, k, rfl, hk, h1, hb1, _⟩
  have HK := Lib.hid hk
  have H1 := Lib.hid h1
  have HB1 := Lib.hid hb1
  clear hk h1 hb1
  go_wp2_with fail
  refine (clone_any A1 k k (itemsF l) w1 HK.out H1.out (fun e => by rw [HK.out]; exact IA.non H1.out e) (by rw [HK.out]; exact HL.out)).mono ?_
  rintro e w2 ⟨A2, c2, rfl, h2, hb2, hn2⟩
  have H2 := Lib.hid h2
  have HB2 := Lib.hid (HB1.out.trans (hb2.mono HB1.out.size))
  have HN2 : Hid (New w w2 A2) := Lib.hid (fun a e => ⟨Nat.le_trans HB1.out.size (hn2 a e).1, (hn2 a e).2⟩)
  clear h2 hb2 hn2
  obtain ⟨n2, HLN⟩ : ∃ n2, Hid (n2 = (itemsF l).length) := ⟨_, Lib.hid rfl⟩
  rw [← HLN.out]
  go_wp2_with fail
  go_ret
  exact ⟨A2, c2, by rw [HLN.out]; rfl, H2.out, HB2.out, HN2.out⟩
theorem len_any (A : Option Addr) (c m : Nat) (l : List Int) (w : World) (hm : m = l.length) (hA : IA w A l) (hmc : m ≤ c) (hcm : c ≤ maxLen) (hl : 8 * m ≤ 140737488355328) :
    Calls Try.prog 8 #[.slice A m c] w fun e w' => e = .returned (.int .i64 ((itemsF l).length : Nat)) ∧ Below w.heap.size w w' := by
  have HH := Lib.hid (items_any A c m l w hm hA hmc hcm hl)
  clear hm hA hl
  go_enter Try.func8, Try.ntmps8
  go_wp2_with fail
  refine HH.out.mono ?_
  rintro e w2 ⟨A2, c2, rfl, h2, hb2, hn2⟩
  have HB2 := Lib.hid hb2
  clear h2 hb2 hn2
  obtain ⟨n2, HLN⟩ : ∃ n2, Hid (n2 = (itemsF l).length) := ⟨_, Lib.hid rfl⟩
  rw [← HLN.out]
  go_wp2_with fail
  go_ret
  exact ⟨by rw [← HLN.out]; rfl, HB2.out⟩
end Go.Proofs.Ytmebajighiedaaa.ch
