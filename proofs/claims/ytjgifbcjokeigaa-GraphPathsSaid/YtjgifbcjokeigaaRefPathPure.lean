/- The document's way, step by step: plain facts. -/
import Derived.Test.YtjgifbcjokeigaaFarPure
namespace Go.Proofs.Ytjgifbcjokeigaa

/-- The nearest of the starts, the least of these; -1: none is near. -/
def Cho (n : Nat) (d : Nat → Int) (L : List Int) (a : Int) : Prop :=
  (a = -1 ∧ ∀ z ∈ L, nodeB n z = true → d z.toNat < 0) ∨ ∃ k : Nat, a = (k : Int) ∧ k < n ∧ 0 ≤ d k ∧ (k : Int) ∈ L ∧ ∀ z ∈ L, nodeB n z = true → 0 ≤ d z.toNat → d k < d z.toNat ∨ d k = d z.toNat ∧ (k : Int) ≤ z
theorem Cho.nil (n : Nat) (d : Nat → Int) : Cho n d [] (-1) := .inl ⟨rfl, fun z hz => by simp at hz⟩
theorem Cho.skip {n : Nat} {d : Nat → Int} {L : List Int} {a z : Int} (h : Cho n d L a) (hz : nodeB n z = true → 0 ≤ d z.toNat → ∃ k : Nat, a = (k : Int) ∧ (d k < d z.toNat ∨ d k = d z.toNat ∧ (k : Int) ≤ z)) : Cho n d (L ++ [z]) a := by
  rcases h with ⟨h1, h2⟩ | ⟨k, h1, h2, h3, h4, h5⟩
  · refine .inl ⟨h1, fun y hy hn => ?_⟩
    rcases List.mem_append.1 hy with hy | hy
    · exact h2 y hy hn
    · simp only [List.mem_cons, List.not_mem_nil, or_false] at hy
      subst hy
      by_cases h0 : 0 ≤ d y.toNat
      · obtain ⟨k, e, _⟩ := hz hn h0
        omega
      · omega
  · refine .inr ⟨k, h1, h2, h3, List.mem_append.2 (.inl h4), fun y hy hn h0 => ?_⟩
    rcases List.mem_append.1 hy with hy | hy
    · exact h5 y hy hn h0
    · simp only [List.mem_cons, List.not_mem_nil, or_false] at hy
      subst hy
      obtain ⟨k', e, h6⟩ := hz hn h0
      have : k' = k := by omega
      subst this
      exact h6
theorem Cho.take {n : Nat} {d : Nat → Int} {L : List Int} {a : Int} {k : Nat} (h : Cho n d L a) (hk : k < n) (h0 : 0 ≤ d k) (hb : a = -1 ∨ ∃ b : Nat, a = (b : Int) ∧ (d k < d b ∨ d k = d b ∧ k < b)) : Cho n d (L ++ [(k : Int)]) (k : Int) := by
  refine .inr ⟨k, rfl, hk, h0, by simp, fun y hy hn h1 => ?_⟩
  rcases List.mem_append.1 hy with hy | hy
  · rcases h with ⟨e, h2⟩ | ⟨b, e, h2, h3, h4, h5⟩
    · have := h2 y hy hn; omega
    · rcases hb with hb | ⟨b', e', h6⟩
      · omega
      · have : b' = b := by omega
        subst this
        have := h5 y hy hn h1
        omega
  · simp only [List.mem_cons, List.not_mem_nil, or_false] at hy
    subst hy
    exact .inr ⟨rfl, Int.le_refl _⟩
/-- The least that leads on to where q is left; -1: none. -/
def Nxt (n : Nat) (d : Nat → Int) (q : Int) (L : List (Int × Int)) (a : Int) : Prop :=
  (a = -1 ∧ ∀ e ∈ L, nodeB n e.1 = true → d e.1.toNat ≠ q) ∨ ∃ b : Nat, a = (b : Int) ∧ b < n ∧ d b = q ∧ (∃ e ∈ L, e.1 = (b : Int)) ∧ ∀ e ∈ L, nodeB n e.1 = true → d e.1.toNat = q → (b : Int) ≤ e.1
theorem Nxt.nil (n : Nat) (d : Nat → Int) (q : Int) : Nxt n d q [] (-1) := .inl ⟨rfl, fun e he => by simp at he⟩
theorem Nxt.skip {n : Nat} {d : Nat → Int} {q : Int} {L : List (Int × Int)} {a : Int} {x : Int × Int} (h : Nxt n d q L a) (hx : nodeB n x.1 = true → d x.1.toNat = q → ∃ b : Nat, a = (b : Int) ∧ (b : Int) ≤ x.1) : Nxt n d q (L ++ [x]) a := by
  rcases h with ⟨h1, h2⟩ | ⟨b, h1, h2, h3, ⟨e0, h4, h4'⟩, h5⟩
  · refine .inl ⟨h1, fun y hy hn hq => ?_⟩
    rcases List.mem_append.1 hy with hy | hy
    · exact h2 y hy hn hq
    · simp only [List.mem_cons, List.not_mem_nil, or_false] at hy
      subst hy
      obtain ⟨b, e, _⟩ := hx hn hq
      omega
  · refine .inr ⟨b, h1, h2, h3, ⟨e0, List.mem_append.2 (.inl h4), h4'⟩, fun y hy hn hq => ?_⟩
    rcases List.mem_append.1 hy with hy | hy
    · exact h5 y hy hn hq
    · simp only [List.mem_cons, List.not_mem_nil, or_false] at hy
      subst hy
      obtain ⟨b', e, h6⟩ := hx hn hq
      omega
theorem Nxt.take {n : Nat} {d : Nat → Int} {q : Int} {L : List (Int × Int)} {a : Int} {x : Int × Int} {k : Nat} (h : Nxt n d q L a) (hxk : x.1 = (k : Int)) (hk : k < n) (hq : d k = q) (hb : a = -1 ∨ (k : Int) < a) : Nxt n d q (L ++ [x]) (k : Int) := by
  refine .inr ⟨k, rfl, hk, hq, ⟨x, by simp, hxk⟩, fun y hy hn h1 => ?_⟩
  rcases List.mem_append.1 hy with hy | hy
  · rcases h with ⟨e, h2⟩ | ⟨b, e, h2, h3, h4, h5⟩
    · exact absurd h1 (h2 y hy hn)
    · have := h5 y hy hn h1
      omega
  · simp only [List.mem_cons, List.not_mem_nil, or_false] at hy
    subst hy
    omega
theorem dl_at {n : Nat} {d : Nat → Int} {k : Nat} (hk : k < n) : ((List.range n).map d).getD k 0 = d k := by simp [List.getD, hk]
/-- The way so far. -/
structure WayI (n : Nat) (rows : List (List (Int × Int))) (from_ : List Int) (d : Nat → Int) (us : List Nat) : Prop where
  pos : 0 < us.length
  start : StartOk n from_ ((List.range n).map d) (us.getD 0 0)
  next : ∀ i, i + 1 < us.length → NextOk n rows ((List.range n).map d) (us.getD i 0) (us.getD (i + 1) 0)
  near : ∀ i, i < us.length → 0 ≤ d (us.getD i 0)
theorem WayI.lt {n : Nat} {rows : List (List (Int × Int))} {from_ : List Int} {d : Nat → Int} {us : List Nat} (h : WayI n rows from_ d us) {i : Nat} (hi : i < us.length) : us.getD i 0 < n := by
  cases i with
  | zero => exact h.start.2.1
  | succ i => exact (h.next i hi).1
theorem WayI.far {n : Nat} {rows : List (List (Int × Int))} {from_ : List Int} {d : Nat → Int} {us : List Nat} (h : WayI n rows from_ d us) : ∀ i, i < us.length → d (us.getD i 0) = d (us.getD 0 0) - i
  | 0, _ => by simp
  | i + 1, hi => by
    have h1 := (h.next i hi).2.1
    rw [dl_at (h.lt hi), dl_at (h.lt (show i < us.length by omega)), h.far i (by omega)] at h1
    omega
theorem cho_none {rows : List (List (Int × Int))} {from_ : List Int} {goal : List Bool} {d : Nat → Int} (hd : FarOk rows.length rows goal ((List.range rows.length).map d)) (h : Cho rows.length d from_ (-1)) : pathL rows from_ goal = [] := by
  refine least_none hd (fun z hz hn => ?_)
  rcases h with ⟨_, h⟩ | ⟨k, e, _⟩
  · have := node_iff.1 hn
    rw [dl_at (by omega)]; exact h z hz hn
  · omega
theorem cho_some {n : Nat} {rows : List (List (Int × Int))} {from_ : List Int} {d : Nat → Int} {a : Int} (h : Cho n d from_ a) (ha : 0 ≤ a) : ∃ k : Nat, a = (k : Int) ∧ k < n ∧ WayI n rows from_ d [k] := by
  rcases h with ⟨e, _⟩ | ⟨k, e, h2, h3, h4, h5⟩
  · omega
  · refine ⟨k, e, h2, by simp, ⟨h4, h2, by rw [show [k].getD 0 0 = k from rfl, dl_at h2]; exact h3, fun z hz hn h0 => ?_⟩, fun i hi => by simp at hi, fun i hi => by
      have : i = 0 := by simpa using hi
      subst this
      exact h3⟩
    have hz2 := node_iff.1 hn
    rw [show [k].getD 0 0 = k from rfl, dl_at h2, dl_at (by omega)]
    rw [dl_at (by omega)] at h0
    exact h5 z hz hn h0
theorem WayI.snoc {n : Nat} {rows : List (List (Int × Int))} {from_ : List Int} {goal : List Bool} {d : Nat → Int} {us : List Nat} (h : WayI n rows from_ d us) (hd : FarOk n rows goal ((List.range n).map d)) {at_ : Nat} (hat : us.getD (us.length - 1) 0 = at_) (hp : 0 < d at_) {a : Int} (hn : Nxt n d (d at_ - 1) (rows.getD at_ []) a) : ∃ b : Nat, a = (b : Int) ∧ b < n ∧ WayI n rows from_ d (us ++ [b]) := by
  have hpos := h.pos
  have hal : at_ < n := by rw [← hat]; exact h.lt (by omega)
  obtain ⟨e, he, hen, hed⟩ := hd.down at_ hal (by rw [dl_at hal]; exact hp)
  have hen2 := node_iff.1 hen
  rw [dl_at (by omega), dl_at hal] at hed
  rcases hn with ⟨_, h2⟩ | ⟨b, e1, h2, h3, h4, h5⟩
  · exact absurd hed (h2 e he hen)
  · refine ⟨b, e1, h2, by simp, ?_, fun i hi => ?_, fun i hi => ?_⟩
    · rw [qat_app hpos]; exact h.start
    · simp only [List.length_append, List.length_singleton] at hi
      by_cases h6 : i + 1 < us.length
      · rw [qat_app h6, qat_app (show i < us.length by omega)]; exact h.next i h6
      · have hi2 : i = us.length - 1 := by omega
        have hi3 : i + 1 = us.length := by omega
        rw [hi3, qat_last, qat_app (show i < us.length by omega), hi2, hat]
        refine ⟨h2, by rw [dl_at h2, dl_at hal]; exact h3, h4, fun e' he' hn' hd' => ?_⟩
        have hn2 := node_iff.1 hn'
        rw [dl_at (by omega), dl_at hal] at hd'
        exact h5 e' he' hn' hd'
    · simp only [List.length_append, List.length_singleton] at hi
      by_cases h6 : i < us.length
      · rw [qat_app h6]; exact h.near i h6
      · obtain rfl : i = us.length := by omega
        rw [qat_last, h3]; omega
theorem WayI.done {rows : List (List (Int × Int))} {from_ : List Int} {goal : List Bool} {d : Nat → Int} {us : List Nat} (h : WayI rows.length rows from_ d us) (hd : FarOk rows.length rows goal ((List.range rows.length).map d)) (hz : d (us.getD (us.length - 1) 0) ≤ 0) : pathL rows from_ goal = qL us := by
  have hpos := h.pos
  have hf := h.far (us.length - 1) (by omega)
  have hge := h.near (us.length - 1) (by omega)
  have hl0 := h.lt hpos
  have hD : d (us.getD 0 0) = ((us.length - 1 : Nat) : Int) := by omega
  have := least_some hd (u := fun i => us.getD i 0) (D := us.length - 1) h.start (by rw [dl_at hl0]; exact hD) (fun i hi => h.next i (by omega))
  rw [this, show us.length - 1 + 1 = us.length by omega]
  apply List.ext_getElem
  · simp [qL]
  · intro i h1 h2
    have : i < us.length := by simpa using h1
    simp [qL, List.getD, this]
end Go.Proofs.Ytjgifbcjokeigaa
