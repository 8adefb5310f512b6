/- The state of package scc's walk, and what each step makes of it. -/
import Derived.Test.YtnfiohekdbjgoaaSccFur
namespace Go.Proofs.Ytnfiohekdbjgoaa.sc
open Go.ChangeShapes Go.WideShapes Go.ChangeAt Go.RowKit Go.Shelf

/-- What is asked of leave: O are the blocks of its own. -/
structure LeaveK (gf : Nat) (lb : Array Value) (n : Nat) (IL : List (Nat × Nat) → (Nat → Prop) → World → Prop) : Prop where
  lt : ∀ L O w, IL L O w → ∀ q, O q → q < w.heap.size
  keep : ∀ L O w w', IL L O w → (∀ q, O q → w'.heap[q]? = w.heap[q]?) → w.heap.size ≤ w'.heap.size → IL L O w'
  step : ∀ L O w u s, IL L O w → u < n → s < n → L.length < n → Calls Try.prog gf (#[.int .i64 (u : Nat), .int .i64 (s : Nat)] ++ lb) w fun e w' => (∃ r, e = .returned r) ∧ ∃ O', IL (L ++ [(u, s)]) O' w' ∧ Turn O w w' ∧ ∀ q, O' q → O q ∨ w.heap.size ≤ q
/-- The blocks of a walk's own. -/
structure Bl where
  zb : Nat
  mb : Nat
  kb : Nat
  gz : Nat
  gb : Nat
  eb : Nat
def Bl.has (B : Bl) (q : Nat) : Prop := q = B.zb ∨ q = B.mb ∨ q = B.kb ∨ q = B.gz ∨ q = B.gb ∨ q = B.eb
/-- They differ. -/
structure Bl.ok (B : Bl) (base : Nat) : Prop where
  lt : ∀ q, B.has q → q < base
  zg : B.zb ≠ B.gb
  mg : B.mb ≠ B.gb
  kg : B.kb ≠ B.gb
  gm : B.gz ≠ B.mb
  gk : B.gz ≠ B.kb
  em : B.eb ≠ B.mb
  ek : B.eb ≠ B.kb
  bm : B.gb ≠ B.mb
  bk : B.gb ≠ B.kb
/-- The walk's state: marks M, way l (its end last), edges gone over, what is left. -/
structure WSt (n : Nat) (B : Bl) (AE : Option Addr) (c : Nat) (IL : List (Nat × Nat) → (Nat → Prop) → World → Prop) (W0 : World) (O0 : Nat → Prop) (M : Nat → Bool) (l : List Int) (L : List (Nat × Nat)) (gone : Nat → Nat) (v : Value) (O : Nat → Prop) (w : World) : Prop where
  ok : B.ok W0.heap.size
  mw : MeetW n B.zb B.mb B.kb W0.heap.size M v l w
  fw : FurW n B.gz B.gb B.eb AE c gone w
  il : IL L O w
  own : ∀ q, O q → ¬ B.has q ∧ v.ownBlock ≠ some q
  turn : Turn (fun q => B.has q ∨ O0 q) W0 w
  new : ∀ q, O q → O0 q ∨ W0.heap.size ≤ q
section
variable {n : Nat} {B : Bl} {AE : Option Addr} {c : Nat} {IL : List (Nat × Nat) → (Nat → Prop) → World → Prop} {W0 : World} {O0 : Nat → Prop} {M : Nat → Bool} {l : List Int} {L : List (Nat × Nat)} {gone : Nat → Nat} {v : Value} {O : Nat → Prop} {w w' : World} {gf : Nat} {lb : Array Value}
theorem FurW.turn {T : Nat → Prop} {gz gb eb : Nat} (h : FurW n gz gb eb AE c gone w) (k : Turn T w w') (h1 : ¬ T gz) (h2 : ¬ T gb) (h3 : ¬ T eb) (l1 : gz < w.heap.size) (l2 : gb < w.heap.size) (l3 : eb < w.heap.size) : FurW n gz gb eb AE c gone w' where
  gbox := (k.block _ l1 h1).trans h.gbox
  grow := h.grow.of_block (k.block _ l2 h2)
  ebox := (k.block _ l3 h3).trans h.ebox
  gg := h.gg
  eg := h.eg
theorem own_lt {base : Nat} (h : OI base w v l) {q : Nat} (e : v.ownBlock = some q) : base ≤ q ∧ q < w.heap.size := World.ownsRow.lt h q e
/-- A turn of W0's view: blocks that lie above W0 may turn at will. -/
theorem turn_over {T T2 : Nat → Prop} {A b d : World} (h : Turn T A b) (k : Turn T2 b d) (hT : ∀ q, T2 q → q < A.heap.size → T q) : Turn T A d :=
  ⟨k.os.trans h.os, k.tape.trans h.tape, k.output.trans h.output, Nat.le_trans h.size k.size, fun q hq hn => (k.block q (Nat.lt_of_lt_of_le hq h.size) (fun h2 => hn (hT q h2 hq))).trans (h.block q hq hn)⟩
theorem WSt.lt (h : WSt n B AE c IL W0 O0 M l L gone v O w) {q : Nat} (hq : B.has q) : q < w.heap.size := Nat.lt_of_lt_of_le (h.ok.lt q hq) h.turn.size
theorem WSt.meet (hk : LeaveK gf lb n IL) (h : WSt n B AE c IL W0 O0 M l L gone v O w) {k : Nat} {e : Ending} (hp : MeetP n B.zb B.mb B.kb W0.heap.size M v l k w e w') :
    ∃ v', WSt n B AE c IL W0 O0 (fun i => M i || i == k) (l ++ [(k : Int)]) L gone v' O w' := by
  obtain ⟨_, v', h1, h2, h3⟩ := hp
  have hO : ∀ q, O q → w'.heap[q]? = w.heap[q]? := fun q hq => h2.block q (hk.lt _ _ _ h.il q hq) (fun hc => by
    have := h.own q hq
    rcases hc with rfl | rfl | hc
    · exact this.1 (.inr (.inl rfl))
    · exact this.1 (.inr (.inr (.inl rfl)))
    · exact this.2 hc)
  have hv : ∀ q, v.ownBlock = some q → W0.heap.size ≤ q := fun q e => (own_lt h.mw.own e).1
  refine ⟨v', h.ok, h1, ?_, hk.keep _ _ _ _ h.il hO h2.size, fun q hq => ⟨(h.own q hq).1, fun e => ?_⟩, ?_, h.new⟩
  · have l1 := h.ok.lt B.gz (by unfold Bl.has; simp)
    have l2 := h.ok.lt B.gb (by unfold Bl.has; simp)
    have l3 := h.ok.lt B.eb (by unfold Bl.has; simp)
    refine h.fw.turn h2 ?_ ?_ ?_ (h.lt (by unfold Bl.has; simp)) (h.lt (by unfold Bl.has; simp)) (h.lt (by unfold Bl.has; simp))
    · rintro (e | e | e)
      · exact h.ok.gm e
      · exact h.ok.gk e
      · have := hv _ e; omega
    · rintro (e | e | e)
      · exact h.ok.bm e
      · exact h.ok.bk e
      · have := hv _ e; omega
    · rintro (e | e | e)
      · exact h.ok.em e
      · exact h.ok.ek e
      · have := hv _ e; omega
  · rcases h3 with h3 | ⟨g, h3, h4⟩
    · exact (h.own q hq).2 (h3.symm.trans e)
    · rw [h3] at e; injection e with e; subst e
      have := hk.lt _ _ _ h.il g hq; omega
  · refine turn_over h.turn h2 (fun q hq hlt => ?_)
    rcases hq with rfl | rfl | hq
    · exact .inl (.inr (.inl rfl))
    · exact .inl (.inr (.inr (.inl rfl)))
    · have := hv _ hq; omega
theorem WSt.fur (hk : LeaveK gf lb n IL) (h : WSt n B AE c IL W0 O0 M l L gone v O w) {row : List (Int × Int)} {k : Nat} {e : Ending} (hp : FurP n B.gz B.gb B.eb AE c gone row k w e w') :
    WSt n B AE c IL W0 O0 M l L (setN gone k (nxt n (row.drop (gone k)) (gone k)).1) v O w' := by
  obtain ⟨_, h1, h2⟩ := hp
  have hv : ∀ q, v.ownBlock = some q → W0.heap.size ≤ q := fun q e => (own_lt h.mw.own e).1
  have l2 := h.ok.lt B.gb (by unfold Bl.has; simp)
  refine ⟨h.ok, ?_, h1, ?_, h.own, ?_, h.new⟩
  · exact h.mw.turn h2 (fun e => h.ok.zg e) (fun e => h.ok.mg e) (fun e => h.ok.kg e) (fun q e e2 => by have := hv q e; omega)
  · exact hk.keep _ _ _ _ h.il (fun q hq => h2.block q (hk.lt _ _ _ h.il q hq) (fun e => (h.own q hq).1 (by unfold Bl.has; simp [e]))) h2.size
  · exact turn_over h.turn h2 (fun q e _ => .inl (by unfold Bl.has; simp [e]))
theorem WSt.leave (hk : LeaveK gf lb n IL) (h : WSt n B AE c IL W0 O0 M l L gone v O w) {u s : Nat} {O' : Nat → Prop} (h1 : IL (L ++ [(u, s)]) O' w') (h2 : Turn O w w') (h3 : ∀ q, O' q → O q ∨ w.heap.size ≤ q) :
    WSt n B AE c IL W0 O0 M l (L ++ [(u, s)]) gone v O' w' where
  ok := h.ok
  mw := h.mw.turn h2 (fun e => (h.own _ e).1 (by unfold Bl.has; simp)) (fun e => (h.own _ e).1 (by unfold Bl.has; simp)) (fun e => (h.own _ e).1 (by unfold Bl.has; simp)) (fun q e e2 => (h.own _ e2).2 e)
  fw := h.fw.turn h2 (fun e => (h.own _ e).1 (by unfold Bl.has; simp)) (fun e => (h.own _ e).1 (by unfold Bl.has; simp)) (fun e => (h.own _ e).1 (by unfold Bl.has; simp)) (h.lt (by unfold Bl.has; simp)) (h.lt (by unfold Bl.has; simp)) (h.lt (by unfold Bl.has; simp))
  il := h1
  own q hq := by
    rcases h3 q hq with h4 | h4
    · exact h.own q h4
    · exact ⟨fun hb => by have := h.lt hb; omega, fun e => by have := (own_lt h.mw.own e).2; omega⟩
  turn := turn_over h.turn h2 (fun q hq hlt => by
    rcases h.new q hq with h4 | h4
    · exact .inr h4
    · omega)
  new q hq := by
    rcases h3 q hq with h4 | h4
    · exact h.new q h4
    · exact .inr (Nat.le_trans h.turn.size h4)
theorem WSt.pop (hk : LeaveK gf lb n IL) {A : Option Addr} {m d : Nat} (h : WSt n B AE c IL W0 O0 M l L gone (.slice A m d) O w) {k : Nat} (hl : l.length = k + 1) :
    WSt n B AE c IL W0 O0 M (l.take k) L gone (.slice A k d) O (w.setCell ⟨B.kb, 0, none⟩ (.slice A k d)) := by
  have h2 : Turn (fun q => q = B.kb) w (w.setCell ⟨B.kb, 0, none⟩ (.slice A k d)) := (Turn.refl _ w).set ⟨B.kb, 0, none⟩ _ rfl
  have hob : (Value.slice A k d).ownBlock = (Value.slice A m d).ownBlock := by cases A <;> rfl
  have lk := h.mw.klt
  refine ⟨h.ok, ⟨?_, ?_, box_set h.mw.way _, ?_, h.mw.zm, h.mw.zk, h.mw.mkk, h.mw.zlt, h.mw.mlt, h.mw.klt, Nat.le_trans h.mw.big h2.size⟩, ?_, ?_, fun q hq => ⟨(h.own q hq).1, by rw [hob]; exact (h.own q hq).2⟩, ?_, h.new⟩
  · exact (h2.block _ (h.lt (by unfold Bl.has; simp)) h.mw.zk).trans h.mw.box
  · exact h.mw.row.of_block (h2.block _ (h.lt (by unfold Bl.has; simp)) h.mw.mkk)
  · exact (h.mw.own.head k (by omega)).turn h2 (fun q e => by rw [e]; exact lk)
  · exact h.fw.turn h2 (fun e => h.ok.gk e) (fun e => h.ok.bk e) (fun e => h.ok.ek e) (h.lt (by unfold Bl.has; simp)) (h.lt (by unfold Bl.has; simp)) (h.lt (by unfold Bl.has; simp))
  · exact hk.keep _ _ _ _ h.il (fun q hq => h2.block q (hk.lt _ _ _ h.il q hq) (fun e => (h.own q hq).1 (by unfold Bl.has; simp [e]))) h2.size
  · exact turn_over h.turn h2 (fun q e _ => .inl (by unfold Bl.has; simp [e]))
end
/-- What the edges of a node lead to. -/
def eR (n : Nat) (rows : List (List (Int × Int))) (u x : Nat) : Prop := x < n ∧ ∃ i, i < (rows.getD u []).length ∧ ((rows.getD u []).getD i (0, 0)).1 = (x : Int)
theorem nxt_some {n : Nat} {row : List (Int × Int)} : ∀ (f g : Nat), row.length - g = f → g ≤ row.length → ∀ j t, nxt n (row.drop g) g = (j, some t) → g < j ∧ j ≤ row.length ∧ t < n ∧ (row.getD (j - 1) (0, 0)).1 = (t : Int) ∧ ∀ i, g ≤ i → i < j - 1 → nodeB n (row.getD i (0, 0)).1 = false := by
  intro f
  induction f with
  | zero =>
    intro g hf hg j t h
    rw [List.drop_eq_nil_of_le (by omega)] at h
    cases h
  | succ f ih =>
    intro g hf hg j t h
    have hlt : g < row.length := by omega
    have hd : row.drop g = row.getD g (0, 0) :: row.drop (g + 1) := by rw [List.drop_eq_getElem_cons hlt]; simp [List.getD, hlt]
    rw [hd] at h
    unfold nxt at h
    by_cases hn : nodeB n (row.getD g (0, 0)).1 = true
    · rw [if_pos hn] at h
      injection h with h1 h2
      injection h2 with h2
      subst h1
      unfold nodeB at hn
      have h3 := of_decide_eq_true hn
      refine ⟨by omega, by omega, by omega, ?_, fun i h4 h5 => by omega⟩
      rw [show g + 1 - 1 = g by omega, ← h2]; omega
    · rw [if_neg hn] at h
      obtain ⟨a, b, c, d, e⟩ := ih (g + 1) (by omega) (by omega) j t h
      refine ⟨by omega, b, c, d, fun i h4 h5 => ?_⟩
      rcases Nat.lt_or_ge g i with h6 | h6
      · exact e i h6 h5
      · obtain rfl : i = g := by omega
        simpa using hn
theorem nxt_none {n : Nat} {row : List (Int × Int)} : ∀ (f g : Nat), row.length - g = f → g ≤ row.length → ∀ j, nxt n (row.drop g) g = (j, none) → j = row.length ∧ ∀ i, g ≤ i → i < row.length → nodeB n (row.getD i (0, 0)).1 = false := by
  intro f
  induction f with
  | zero =>
    intro g hf hg j h
    rw [List.drop_eq_nil_of_le (by omega)] at h
    injection h with h1 h2
    exact ⟨by omega, fun i h4 h5 => by omega⟩
  | succ f ih =>
    intro g hf hg j h
    have hlt : g < row.length := by omega
    have hd : row.drop g = row.getD g (0, 0) :: row.drop (g + 1) := by rw [List.drop_eq_getElem_cons hlt]; simp [List.getD, hlt]
    rw [hd] at h
    unfold nxt at h
    by_cases hn : nodeB n (row.getD g (0, 0)).1 = true
    · rw [if_pos hn] at h
      injection h with h1 h2
      cases h2
    · rw [if_neg hn] at h
      obtain ⟨a, e⟩ := ih (g + 1) (by omega) (by omega) j h
      refine ⟨a, fun i h4 h5 => ?_⟩
      rcases Nat.lt_or_ge g i with h6 | h6
      · exact e i h6 h5
      · obtain rfl : i = g := by omega
        simpa using hn
/-- The pure state: what is met, how far the edges are gone over; ot: what further told last of the way's end, if it has not been looked at. -/
structure PSt (n : Nat) (rows : List (List (Int × Int))) (D : List Nat) (s : Nat) (L : List (Nat × Nat)) (K : List Nat) (gone : Nat → Nat) (ot : Option Nat) : Prop where
  down : Down (eR n rows) D s L K
  lt : ∀ u, u ∈ ns L ∨ u ∈ K → u < n
  gl : ∀ u, u < n → gone u ≤ (rows.getD u []).length
  zero : ∀ u, ¬ (u ∈ ns L ∨ u ∈ K) → gone u = 0
  met : ∀ u ∈ K, ∀ i, i < gone u → ∀ x, x < n → ((rows.getD u []).getD i (0, 0)).1 = (x : Int) → (x ∈ ns L ∨ x ∈ K) ∨ (ot = some x ∧ K.head? = some u)
theorem nodeB_nat {n x : Nat} (h : x < n) : nodeB n (x : Int) = true := decide_eq_true ⟨by omega, by omega⟩
theorem PSt.further {n : Nat} {rows : List (List (Int × Int))} {D : List Nat} {s : Nat} {L : List (Nat × Nat)} {u : Nat} {K : List Nat} {gone : Nat → Nat} (h : PSt n rows D s L (u :: K) gone none) :
    PSt n rows D s L (u :: K) (setN gone u (nxt n ((rows.getD u []).drop (gone u)) (gone u)).1) (nxt n ((rows.getD u []).drop (gone u)) (gone u)).2 ∧
      (∀ t, (nxt n ((rows.getD u []).drop (gone u)) (gone u)).2 = some t → t < n ∧ eR n rows u t ∧ gone u < (nxt n ((rows.getD u []).drop (gone u)) (gone u)).1) ∧
      ((nxt n ((rows.getD u []).drop (gone u)) (gone u)).2 = none → (nxt n ((rows.getD u []).drop (gone u)) (gone u)).1 = (rows.getD u []).length) := by
  have hu : u < n := h.lt u (.inr (by simp))
  have hg := h.gl u hu
  obtain ⟨⟨j, ot⟩, hr⟩ : ∃ r, nxt n ((rows.getD u []).drop (gone u)) (gone u) = r := ⟨_, rfl⟩
  rw [hr]
  have hz : ∀ x, ¬ (x ∈ ns L ∨ x ∈ u :: K) → setN gone u j x = 0 := fun x hx => by
    unfold setN
    rw [if_neg (fun e => hx (.inr (by simp [e])))]
    exact h.zero x hx
  have hold : ∀ y ∈ u :: K, y ≠ u → ∀ i, i < setN gone u j y → ∀ x, x < n → ((rows.getD y []).getD i (0, 0)).1 = (x : Int) → (x ∈ ns L ∨ x ∈ u :: K) := fun y hy hne i hi x hx he => by
    unfold setN at hi
    rw [if_neg hne] at hi
    rcases h.met y hy i hi x hx he with h1 | ⟨h1, _⟩
    · exact h1
    · cases h1
  cases ot with
  | none =>
    obtain ⟨hj, hf⟩ := nxt_none _ _ rfl hg j hr
    refine ⟨⟨h.down, h.lt, fun y hy => ?_, hz, fun y hy i hi x hx he => ?_⟩, (fun t e => by cases e), fun _ => hj⟩
    · unfold setN; by_cases e : y = u
      · rw [if_pos e, e]; omega
      · rw [if_neg e]; exact h.gl y hy
    · by_cases e : y = u
      · subst e
        unfold setN at hi
        rw [if_pos rfl] at hi
        rcases Nat.lt_or_ge i (gone y) with h1 | h1
        · rcases h.met y hy i h1 x hx he with h2 | ⟨h2, _⟩
          · exact .inl h2
          · cases h2
        · have := hf i h1 (by omega)
          rw [he, nodeB_nat hx] at this; cases this
      · exact .inl (hold y hy e i hi x hx he)
  | some t =>
    obtain ⟨ha, hb, ht, hc, hf⟩ := nxt_some _ _ rfl hg j t hr
    refine ⟨⟨h.down, h.lt, fun y hy => ?_, hz, fun y hy i hi x hx he => ?_⟩, fun t' e => ?_, fun e => by cases e⟩
    · unfold setN; by_cases e : y = u
      · rw [if_pos e, e]; omega
      · rw [if_neg e]; exact h.gl y hy
    · by_cases e : y = u
      · subst e
        unfold setN at hi
        rw [if_pos rfl] at hi
        rcases Nat.lt_or_ge i (gone y) with h1 | h1
        · rcases h.met y hy i h1 x hx he with h2 | ⟨h2, _⟩
          · exact .inl h2
          · cases h2
        · rcases Nat.lt_or_ge i (j - 1) with h3 | h3
          · have := hf i h1 h3
            rw [he, nodeB_nat hx] at this; cases this
          · obtain rfl : i = j - 1 := by omega
            rw [hc] at he
            refine .inr ⟨?_, rfl⟩
            show some t = some x
            rw [show t = x by omega]
      · exact .inl (hold y hy e i hi x hx he)
    · injection e with e; subst e
      exact ⟨ht, ⟨ht, j - 1, by omega, hc⟩, ha⟩
theorem PSt.skip {n : Nat} {rows : List (List (Int × Int))} {D : List Nat} {s : Nat} {L : List (Nat × Nat)} {K : List Nat} {gone : Nat → Nat} {t : Nat} (h : PSt n rows D s L K gone (some t)) (ht : t ∈ ns L ∨ t ∈ K) : PSt n rows D s L K gone none :=
  ⟨h.down, h.lt, h.gl, h.zero, fun u hu i hi x hx he => .inl (by
    rcases h.met u hu i hi x hx he with h1 | ⟨h1, _⟩
    · exact h1
    · injection h1 with h1; rw [← h1]; exact ht)⟩
theorem PSt.meet {n : Nat} {rows : List (List (Int × Int))} {D : List Nat} {s : Nat} {L : List (Nat × Nat)} {u : Nat} {K : List Nat} {gone : Nat → Nat} {t : Nat} (h : PSt n rows D s L (u :: K) gone (some t)) (ht : ¬ (t ∈ ns L ∨ t ∈ u :: K)) (hn : t < n) (he : eR n rows u t) :
    PSt n rows D s L (t :: u :: K) gone none where
  down := h.down.meet he (fun h1 => ht (.inl h1)) (fun h1 => ht (.inr h1))
  lt x hx := by
    rcases hx with hx | hx
    · exact h.lt x (.inl hx)
    · rcases List.mem_cons.1 hx with rfl | hx
      · exact hn
      · exact h.lt x (.inr hx)
  gl := h.gl
  zero x hx := h.zero x (fun h1 => hx (h1.imp id (List.mem_cons_of_mem _)))
  met x hx i hi y hy hey := .inl (by
    rcases List.mem_cons.1 hx with rfl | hx
    · rw [h.zero x ht] at hi; omega
    · rcases h.met x hx i hi y hy hey with h1 | ⟨h1, _⟩
      · exact h1.imp id (List.mem_cons_of_mem _)
      · injection h1 with h1; rw [← h1]; exact .inr (by simp))
theorem PSt.leave {n : Nat} {rows : List (List (Int × Int))} {D : List Nat} {s : Nat} {L : List (Nat × Nat)} {u : Nat} {K : List Nat} {gone : Nat → Nat} (h : PSt n rows D s L (u :: K) gone none) (hg : gone u = (rows.getD u []).length) :
    PSt n rows D s (L ++ [(u, s)]) K gone none := by
  have hm : ∀ x, (x ∈ ns (L ++ [(u, s)]) ∨ x ∈ K) ↔ (x ∈ ns L ∨ x ∈ u :: K) := fun x => by
    rw [ns_append]; simp [ns]
    constructor
    · rintro ((h1 | h1) | h1)
      · exact .inl h1
      · exact .inr (.inl h1)
      · exact .inr (.inr h1)
    · rintro (h1 | h1 | h1)
      · exact .inl (.inl h1)
      · exact .inl (.inr h1)
      · exact .inr h1
  refine ⟨h.down.leave (fun x hx => ?_), fun x hx => h.lt x ((hm x).1 hx), h.gl, fun x hx => h.zero x (fun h1 => hx ((hm x).2 h1)), fun x hx i hi y hy he => ?_⟩
  · obtain ⟨hx, i, hi, he⟩ := hx
    rcases h.met u (by simp) i (by omega) x hx he with h1 | ⟨h1, _⟩
    · exact h1
    · cases h1
  · rcases h.met x (List.mem_cons_of_mem _ hx) i hi y hy he with h1 | ⟨h1, _⟩
    · exact .inl ((hm y).2 h1)
    · cases h1
/-- Between two starts. -/
structure RSt (n : Nat) (rows : List (List (Int × Int))) (D : List Nat) (L : List (Nat × Nat)) (gone : Nat → Nat) : Prop where
  rest : Rest (eR n rows) D L
  lt : ∀ u ∈ ns L, u < n
  gl : ∀ u, u < n → gone u ≤ (rows.getD u []).length
  zero : ∀ u, u ∉ ns L → gone u = 0
theorem RSt.nil (n : Nat) (rows : List (List (Int × Int))) : RSt n rows [] [] (fun _ => 0) := ⟨rest_nil _, by simp [ns], fun _ _ => Nat.zero_le _, fun _ _ => rfl⟩
theorem RSt.skip {n : Nat} {rows : List (List (Int × Int))} {D : List Nat} {s : Nat} {L : List (Nat × Nat)} {gone : Nat → Nat} (h : RSt n rows D L gone) (hs : s ∈ ns L) : RSt n rows (D ++ [s]) L gone := ⟨h.rest.skip hs, h.lt, h.gl, h.zero⟩
theorem RSt.begin {n : Nat} {rows : List (List (Int × Int))} {D : List Nat} {s : Nat} {L : List (Nat × Nat)} {gone : Nat → Nat} (h : RSt n rows D L gone) (hs : s ∉ ns L) (hn : s < n) : PSt n rows D s L [s] gone none where
  down := h.rest.begin hs
  lt u hu := by
    rcases hu with hu | hu
    · exact h.lt u hu
    · rw [List.mem_singleton.1 hu]; exact hn
  gl := h.gl
  zero u hu := h.zero u (fun h1 => hu (.inl h1))
  met u hu i hi x hx he := by
    rw [List.mem_singleton.1 hu, h.zero s hs] at hi; omega
theorem RSt.stand {n : Nat} {rows : List (List (Int × Int))} {D : List Nat} {s : Nat} {L : List (Nat × Nat)} {gone : Nat → Nat} (h : RSt n rows D L gone) (hs : s ∈ ns L) : PSt n rows D s L [] gone none where
  down := ⟨by rw [List.append_nil]; exact h.rest.nd, fun u hu x hx => .inl (h.rest.closed u hu x hx), List.Pairwise.nil, fun k hk => by (cases hk), h.rest.kos, fun v t hm => (h.rest.first v t hm).more _, fun k hk => by (cases hk), fun a ha v hw => h.rest.reach (h.rest.all a ha) hw, .inl hs⟩
  lt u hu := hu.elim (h.lt u) (fun h => by cases h)
  gl := h.gl
  zero u hu := h.zero u (fun h1 => hu (.inl h1))
  met u hu := by cases hu
theorem PSt.ends {n : Nat} {rows : List (List (Int × Int))} {D : List Nat} {s : Nat} {L : List (Nat × Nat)} {gone : Nat → Nat} (h : PSt n rows D s L [] gone none) : RSt n rows (D ++ [s]) L gone :=
  ⟨h.down.ends, fun u hu => h.lt u (.inl hu), h.gl, fun u hu => h.zero u (fun h1 => h1.elim hu (fun h => by cases h))⟩
/-- The marks. -/
def mF (L : List (Nat × Nat)) (K : List Nat) (i : Nat) : Bool := decide (i ∈ ns L ∨ i ∈ K)
theorem mF_meet (L : List (Nat × Nat)) (K : List Nat) (t : Nat) : (fun i => mF L K i || i == t) = mF L (t :: K) := by
  funext i
  unfold mF
  by_cases e : i = t
  · subst e; simp
  · have : (i == t) = false := by simpa using e
    rw [this, Bool.or_false]
    congr 1
    simp [e]
theorem mF_leave (L : List (Nat × Nat)) (K : List Nat) (u s : Nat) : mF L (u :: K) = mF (L ++ [(u, s)]) K := by
  funext i
  unfold mF
  congr 1
  rw [ns_append]
  simp [ns]
  constructor
  · rintro (h1 | h1 | h1)
    · exact .inl (.inl h1)
    · exact .inl (.inr h1)
    · exact .inr h1
  · rintro ((h1 | h1) | h1)
    · exact .inl h1
    · exact .inr (.inl h1)
    · exact .inr (.inr h1)
/-- So many there are at most. -/
theorem room (n : Nat) (l : List Nat) (hd : l.Nodup) (h : ∀ u ∈ l, u < n) : l.length ≤ n := by
  have := nd_len l (List.range n) hd (fun x hx => List.mem_range.2 (h x hx))
  simpa using this
theorem PSt.room {n : Nat} {rows : List (List (Int × Int))} {D : List Nat} {s : Nat} {L : List (Nat × Nat)} {K : List Nat} {gone : Nat → Nat} {ot : Option Nat} (h : PSt n rows D s L K gone ot) : L.length + K.length ≤ n := by
  have := sc.room n (ns L ++ K) h.down.nd (fun u hu => h.lt u (List.mem_append.1 hu))
  simpa [ns] using this
end Go.Proofs.Ytnfiohekdbjgoaa.sc
