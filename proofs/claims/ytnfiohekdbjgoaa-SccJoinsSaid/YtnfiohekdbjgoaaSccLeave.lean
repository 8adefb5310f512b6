/- What Of hands to walk: the two functions that are called at each leaving. -/
import Derived.Test.YtnfiohekdbjgoaaSccWalk
namespace Go.Proofs.Ytnfiohekdbjgoaa.sc
open Go.ChangeShapes Go.WideShapes Go.ChangeAt Go.RowKit Go.Shelf

/-- starts: box sb, row rb: what is left holds its start. -/
structure StI (n sb rb : Nat) (L : List (Nat × Nat)) (O : Nat → Prop) (w : World) : Prop where
  eq : O = fun q => q = sb ∨ q = rb
  ne : sb ≠ rb
  box : w.heap[sb]? = some (.cells #[.slice (some ⟨rb, 0, none⟩) n n] 22 (0, 0))
  row : ∃ f : Nat → Int, w.rowIs rb 3 n (fun k => .int .i64 (f k)) ∧ ∀ u s, (u, s) ∈ L → (ns L).Nodup → f u = (s : Int)
  slt : sb < w.heap.size
set_option maxRecDepth 20000 in
theorem leave2_any (n sb rb u s : Nat) (f : Nat → Int) (w : World) (h1 : w.heap[sb]? = some (.cells #[.slice (some ⟨rb, 0, none⟩) n n] 22 (0, 0))) (h2 : w.rowIs rb 3 n (fun k => .int .i64 (f k))) (hu : u < n) :
    Calls Try.prog 71 #[.int .i64 u, .int .i64 s, .pointer (some ⟨sb, 0, none⟩)] w fun e w' => (∃ r, e = .returned r) ∧ w' = w.setCell ⟨rb, u, none⟩ (.int .i64 s) := by
  have c1 := (cell_of_box_l h1).1
  have c2 := h2.cell hu
  have f2 := h2.frozen u
  generalize f u = z at c2
  clear h1 h2
  go_enter Try.func71, Try.ntmps71
  go_wp2_with fail
  go_end0
  exact ⟨⟨_, rfl⟩, rfl⟩
theorem leaveK2 (n sb rb : Nat) : LeaveK 71 #[.pointer (some ⟨sb, 0, none⟩)] n (StI n sb rb) where
  lt L O w h q hq := by
    rw [h.eq] at hq
    rcases hq with rfl | rfl
    · exact h.slt
    · obtain ⟨f, hf, _⟩ := h.row; exact hf.lt
  keep L O w w' h hk hs := by
    obtain ⟨f, hf, hL⟩ := h.row
    have k1 := hk sb (by rw [h.eq]; exact .inl rfl)
    have k2 := hk rb (by rw [h.eq]; exact .inr rfl)
    exact ⟨h.eq, h.ne, k1.trans h.box, ⟨f, hf.of_block k2, hL⟩, Nat.lt_of_lt_of_le h.slt hs⟩
  step L O w u s h hu hs hl := by
    obtain ⟨f, hf, hL⟩ := h.row
    refine (leave2_any n sb rb u s f w h.box hf hu).mono ?_
    rintro e w' ⟨he, rfl⟩
    refine ⟨he, O, ⟨h.eq, h.ne, (Below.heap_setCell w ⟨rb, u, none⟩ _ sb h.ne).trans h.box, ⟨fun k => if k = u then (s : Int) else f k, (World.rowIs.set hf u (.int .i64 (s : Nat))).congr (fun j _ => by by_cases e : j = u <;> simp [e]), fun a b hm hnd => ?_⟩, by simpa using h.slt⟩, (Turn.refl O w).set ⟨rb, u, none⟩ _ (by rw [h.eq]; exact .inr rfl), fun q hq => .inl hq⟩
    rw [ns_append] at hnd
    have h3 := List.nodup_append.1 hnd
    rcases List.mem_append.1 hm with hm | hm
    · have hne : a ≠ u := h3.2.2 a (mem_ns hm) u (by simp [ns])
      show (if a = u then (s : Int) else f a) = b
      rw [if_neg hne]
      exact hL a b hm h3.1
    · obtain ⟨rfl, rfl⟩ : a = u ∧ b = s := by simpa using hm
      show (if a = a then (b : Int) else f a) = b
      rw [if_pos rfl]
/-- order: box tb, a row of the call's own from base on. -/
structure OrI (tb base : Nat) (L : List (Nat × Nat)) (O : Nat → Prop) (w : World) : Prop where
  ex : ∃ v, O = (fun q => q = tb ∨ v.ownBlock = some q) ∧ w.heap[tb]? = some (.cells #[v] 22 (0, 0)) ∧ OI base w v ((ns L).map Int.ofNat)
  lt : tb < base
  big : base ≤ w.heap.size
def Leave1P (tb base : Nat) (v : Value) (l : List Int) (u : Nat) (w : World) (e : Ending) (w' : World) : Prop :=
  (∃ r, e = .returned r) ∧ ∃ v', w'.heap[tb]? = some (.cells #[v'] 22 (0, 0)) ∧ OI base w' v' (l ++ [(u : Int)]) ∧ Turn (fun q => q = tb ∨ v.ownBlock = some q) w w' ∧ (v'.ownBlock = v.ownBlock ∨ ∃ g, v'.ownBlock = some g ∧ w.heap.size ≤ g)
set_option maxRecDepth 20000 in
theorem leave1_any (tb base u s : Nat) (v : Value) (l : List Int) (w : World) (h1 : w.heap[tb]? = some (.cells #[v] 22 (0, 0))) (h2 : OI base w v l) (hlt : tb < base) (hbig : base ≤ w.heap.size) (hl : l.length + 1 ≤ 1000000) :
    Calls Try.prog 70 #[.int .i64 u, .int .i64 s, .pointer (some ⟨tb, 0, none⟩)] w (Leave1P tb base v l u w) := by
  have c3 := (cell_of_box_l h1).1
  have W2 := Lib.hid h1
  have O1 := Lib.hid h2
  have HG : Hid (∀ q, v.ownBlock = some q → base ≤ q) := Lib.hid (fun q e => (World.ownsRow.lt h2 q e).1)
  clear h1 h2
  go_enter Try.func70, Try.ntmps70
  go_wp2_with (at_builtin; refine append_tight rfl (.tmp 5) (.tmp 7) rfl base v l rfl O1.out (u : Int) rfl hl hbig ?_; intro v2 w2 ho2 hT2 hb2; obtain ⟨A2, d2, rfl, _⟩ := ho2.form; rw [show (l ++ [(u : Int)]).length = l.length + 1 by simp] at ho2 hb2 ⊢; have HO2 := Lib.hid ho2; have HT2 := Lib.hid hT2; have HB2 := Lib.hid hb2; have HN2 : Hid (w2.heap[tb]? = some (.cells #[v] 22 (0, 0))) := Lib.hid ((hT2.block tb (by omega) (fun e => by have := HG.out _ e; omega)).trans W2.out); have F4 := (cell_of_box_l HN2.out).2; have C4 := (cell_of_box_l HN2.out).1; clear ho2 hT2 hb2)
  have HS : Hid (Turn (fun q => q = tb) w2 (w2.setCell ⟨tb, 0, none⟩ (.slice A2 (l.length + 1) d2))) := Lib.hid ((Turn.refl _ w2).set ⟨tb, 0, none⟩ _ rfl)
  have HX : Hid ((w2.setCell ⟨tb, 0, none⟩ (.slice A2 (l.length + 1) d2)).heap[tb]? = some (.cells #[.slice A2 (l.length + 1) d2] 22 (0, 0))) := Lib.hid (box_set HN2.out _)
  generalize w2.setCell ⟨tb, 0, none⟩ (.slice A2 (l.length + 1) d2) = w3 at HS HX ⊢
  go_end0
  have hsz2 := HT2.out.size
  exact ⟨⟨_, rfl⟩, _, HX.out, HO2.out.turn HS.out (fun q e => by rw [e]; exact hlt), (HT2.out.mono (fun q e => .inr e)).trans (HS.out.mono (fun q e => .inl e)), HB2.out⟩
theorem leaveK1 (n tb base : Nat) (hn : n ≤ 1000) : LeaveK 70 #[.pointer (some ⟨tb, 0, none⟩)] n (OrI tb base) where
  lt L O w h q hq := by
    obtain ⟨v, e, _, h2⟩ := h.ex
    rw [e] at hq
    rcases hq with rfl | hq
    · exact Nat.lt_of_lt_of_le h.lt h.big
    · exact (World.ownsRow.lt h2 q hq).2
  keep L O w w' h hk hs := by
    obtain ⟨v, e, h1, h2⟩ := h.ex
    refine ⟨⟨v, e, (hk tb (by rw [e]; exact .inl rfl)).trans h1, h2.1, ?_⟩, h.lt, Nat.le_trans h.big hs⟩
    rcases h2.2 with h3 | ⟨g, cap, cur, e2, hb, hg, r⟩
    · exact .inl h3
    · exact .inr ⟨g, cap, cur, e2, hb, (hk g (by rw [e]; exact .inr (by rw [e2]; rfl))).trans hg, r⟩
  step L O w u s h hu hs hl := by
    obtain ⟨v, e, h1, h2⟩ := h.ex
    refine (leave1_any tb base u s v _ w h1 h2 h.lt h.big (by simp [ns]; omega)).mono ?_
    rintro x w' ⟨hx, v', q1, q2, q3, q4⟩
    refine ⟨hx, (fun q => q = tb ∨ v'.ownBlock = some q), ⟨⟨v', rfl, q1, by rw [ns_append]; simpa [ns] using q2⟩, h.lt, Nat.le_trans h.big q3.size⟩, by rw [e]; exact q3, fun q hq => ?_⟩
    rw [e]
    rcases hq with hq | hq
    · exact .inl (.inl hq)
    · rcases q4 with q4 | ⟨g, q4, q5⟩
      · exact .inl (.inr (q4 ▸ hq))
      · rw [q4] at hq; injection hq with hq; subst hq; exact .inr q5
end Go.Proofs.Ytnfiohekdbjgoaa.sc
