/- The parts of a graph by two walks: what a walk's trace is, and that of two traces, the second over the turned edges from the node left last on, the starts tell the parts apart. No program. -/
import Derived.Test.YtnfiohekdbjgoaaBase
namespace Go.Proofs.Ytnfiohekdbjgoaa.sc

/-- A way of edges, none let in. -/
inductive Wy (e : Nat → Nat → Prop) : Nat → Nat → Prop
  | here (u : Nat) : Wy e u u
  | on {u x v : Nat} : e u x → Wy e x v → Wy e u v
theorem Wy.trans {e : Nat → Nat → Prop} {a b c : Nat} (h : Wy e a b) (k : Wy e b c) : Wy e a c := by
  induction h with
  | here u => exact k
  | on h1 _ ih => exact .on h1 (ih k)
theorem Wy.one {e : Nat → Nat → Prop} {a b : Nat} (h : e a b) : Wy e a b := .on h (.here b)
theorem Wy.snoc {e : Nat → Nat → Prop} {a b c : Nat} (h : Wy e a b) (k : e b c) : Wy e a c := h.trans (.one k)
/-- A way out of a set leaves it somewhere. -/
theorem Wy.leaves {e : Nat → Nat → Prop} {M : Nat → Prop} {u v : Nat} (h : Wy e u v) (hu : M u) (hv : ¬ M v) : ∃ y x, M y ∧ ¬ M x ∧ e y x ∧ Wy e u x ∧ Wy e x v := by
  induction h with
  | here u => exact absurd hu hv
  | @on u x v h1 h2 ih =>
    by_cases hx : M x
    · obtain ⟨y, z, h3, h4, h5, h6, h7⟩ := ih hx hv
      exact ⟨y, z, h3, h4, h5, .on h1 h6, h7⟩
    · exact ⟨u, x, hu, hx, h1, .one h1, h2⟩
theorem Wy.stays {e : Nat → Nat → Prop} {M : Nat → Prop} {u v : Nat} (h : Wy e u v) (hu : M u) (hM : ∀ y x, M y → e y x → M x) : M v := by
  induction h with
  | here u => exact hu
  | on h1 _ ih => exact ih (hM _ _ hu h1)
theorem Wy.flip {e : Nat → Nat → Prop} {u v : Nat} (h : Wy (fun a b => e b a) u v) : Wy e v u := by
  induction h with
  | here u => exact .here u
  | on h1 _ ih => exact ih.snoc h1
theorem Wy.flip' {e : Nat → Nat → Prop} {u v : Nat} (h : Wy e v u) : Wy (fun a b => e b a) u v := Wy.flip (e := fun a b => e b a) h

def ns (L : List (Nat × Nat)) : List Nat := L.map Prod.fst
theorem ns_append (a b : List (Nat × Nat)) : ns (a ++ b) = ns a ++ ns b := by simp [ns]
theorem mem_ns {v t : Nat} {L : List (Nat × Nat)} (h : (v, t) ∈ L) : v ∈ ns L := List.mem_map.2 ⟨_, h, rfl⟩
/-- t is the first of S that leads to v. -/
def First (e : Nat → Nat → Prop) (S : List Nat) (t v : Nat) : Prop := ∃ A B, S = A ++ t :: B ∧ Wy e t v ∧ ∀ a ∈ A, ¬ Wy e a v
theorem First.more {e : Nat → Nat → Prop} {S : List Nat} {t v : Nat} (h : First e S t v) (R : List Nat) : First e (S ++ R) t v := by
  obtain ⟨A, B, rfl, h1, h2⟩ := h
  exact ⟨A, B ++ R, by simp, h1, h2⟩
/-- What stands at each leaving: a way past all that is left leads back. -/
def Kos (e : Nat → Nat → Prop) (L : List (Nat × Nat)) (K : List Nat) : Prop :=
  ∀ P u t B, L = P ++ (u, t) :: B → ∀ v, Wy e u v → v ∉ ns P → v ≠ u → ∃ x, (x ∈ ns B ∨ x ∈ K) ∧ Wy e x u ∧ Wy e u x ∧ Wy e x v
/-- Between two starts: D are done, L is left. -/
structure Rest (e : Nat → Nat → Prop) (D : List Nat) (L : List (Nat × Nat)) : Prop where
  nd : (ns L).Nodup
  closed : ∀ u ∈ ns L, ∀ x, e u x → x ∈ ns L
  kos : Kos e L []
  first : ∀ v t, (v, t) ∈ L → First e D t v
  all : ∀ a ∈ D, a ∈ ns L
/-- Within the turn of s: K is the way, its end first. -/
structure Down (e : Nat → Nat → Prop) (D : List Nat) (s : Nat) (L : List (Nat × Nat)) (K : List Nat) : Prop where
  nd : (ns L ++ K).Nodup
  closed : ∀ u ∈ ns L, ∀ x, e u x → x ∈ ns L ∨ x ∈ K
  chain : K.Pairwise (fun a b => Wy e b a)
  foot : ∀ k ∈ K, Wy e s k
  kos : Kos e L K
  first : ∀ v t, (v, t) ∈ L → First e (D ++ [s]) t v
  fresh : ∀ k ∈ K, ∀ a ∈ D, ¬ Wy e a k
  done : ∀ a ∈ D, ∀ v, Wy e a v → v ∈ ns L
  here : s ∈ ns L ∨ s ∈ K
theorem Rest.reach {e : Nat → Nat → Prop} {D : List Nat} {L : List (Nat × Nat)} (h : Rest e D L) {a v : Nat} (ha : a ∈ ns L) (hw : Wy e a v) : v ∈ ns L := hw.stays (M := (· ∈ ns L)) ha (fun y x hy he => h.closed y hy x he)
theorem rest_nil (e : Nat → Nat → Prop) : Rest e [] [] := ⟨by simp [ns], by simp [ns], fun P u t B h => by simp at h, by simp, by simp⟩
theorem Rest.skip {e : Nat → Nat → Prop} {D : List Nat} {L : List (Nat × Nat)} (h : Rest e D L) {s : Nat} (hs : s ∈ ns L) : Rest e (D ++ [s]) L :=
  ⟨h.nd, h.closed, h.kos, fun v t hm => (h.first v t hm).more _, fun a ha => by
    rcases List.mem_append.1 ha with h1 | h1
    · exact h.all a h1
    · rw [List.mem_singleton.1 h1]; exact hs⟩
theorem Rest.begin {e : Nat → Nat → Prop} {D : List Nat} {L : List (Nat × Nat)} (h : Rest e D L) {s : Nat} (hs : s ∉ ns L) : Down e D s L [s] where
  nd := by
    rw [List.nodup_append]
    exact ⟨h.nd, by simp, fun a ha b hb => by rw [List.mem_singleton.1 hb]; intro e; exact hs (e ▸ ha)⟩
  closed u hu x hx := .inl (h.closed u hu x hx)
  chain := by simp
  foot k hk := by rw [List.mem_singleton.1 hk]; exact .here s
  kos P u t B e v h1 h2 h3 := by
    obtain ⟨x, hx, h4⟩ := h.kos P u t B e v h1 h2 h3
    exact ⟨x, hx.elim .inl (fun h => by cases h), h4⟩
  first v t hm := (h.first v t hm).more _
  fresh k hk a ha hw := by
    rw [List.mem_singleton.1 hk] at hw
    exact hs (h.reach (h.all a ha) hw)
  done a ha v hw := h.reach (h.all a ha) hw
  here := .inr (by simp)
theorem Down.meet {e : Nat → Nat → Prop} {D : List Nat} {s u x : Nat} {L : List (Nat × Nat)} {K : List Nat} (h : Down e D s L (u :: K)) (he : e u x) (hx : x ∉ ns L) (hk : x ∉ u :: K) : Down e D s L (x :: u :: K) where
  nd := by
    have h1 := h.nd
    rw [List.nodup_append] at h1 ⊢
    refine ⟨h1.1, List.nodup_cons.2 ⟨hk, h1.2.1⟩, fun a ha b hb => ?_⟩
    rcases List.mem_cons.1 hb with rfl | hb
    · intro e; exact hx (e ▸ ha)
    · exact h1.2.2 a ha b hb
  closed y hy z hz := (h.closed y hy z hz).imp id (List.mem_cons_of_mem _)
  chain := List.pairwise_cons.2 ⟨fun b hb => by
    rcases List.mem_cons.1 hb with rfl | hb
    · exact .one he
    · exact ((List.pairwise_cons.1 h.chain).1 b hb).snoc he, h.chain⟩
  foot k hk := by
    rcases List.mem_cons.1 hk with rfl | hk
    · exact (h.foot u (by simp)).snoc he
    · exact h.foot k hk
  kos P u t B e v h1 h2 h3 := by
    obtain ⟨x, hx, h4⟩ := h.kos P u t B e v h1 h2 h3
    exact ⟨x, hx.imp id (List.mem_cons_of_mem _), h4⟩
  first := h.first
  fresh k hk a ha hw := by
    rcases List.mem_cons.1 hk with rfl | hk
    · exact hx (h.done a ha _ hw)
    · exact h.fresh k hk a ha hw
  done := h.done
  here := h.here.imp id (List.mem_cons_of_mem _)
theorem Down.leave {e : Nat → Nat → Prop} {D : List Nat} {s u : Nat} {L : List (Nat × Nat)} {K : List Nat} (h : Down e D s L (u :: K)) (hs : ∀ x, e u x → x ∈ ns L ∨ x ∈ u :: K) : Down e D s (L ++ [(u, s)]) K where
  nd := by
    rw [ns_append]
    show ((ns L ++ [u]) ++ K).Nodup
    rw [List.append_assoc]; exact h.nd
  closed y hy x hx := by
    rw [ns_append] at hy ⊢
    have hc : x ∈ ns L ∨ x ∈ u :: K := by
      rcases List.mem_append.1 hy with hy | hy
      · exact h.closed y hy x hx
      · obtain rfl : y = u := by simpa [ns] using hy
        exact hs x hx
    rcases hc with hc | hc
    · exact .inl (List.mem_append_left _ hc)
    · rcases List.mem_cons.1 hc with rfl | hc
      · exact .inl (List.mem_append_right _ (by simp [ns]))
      · exact .inr hc
  chain := (List.pairwise_cons.1 h.chain).2
  foot k hk := h.foot k (List.mem_cons_of_mem _ hk)
  kos P y t B hL v h1 h2 h3 := by
    rcases List.eq_nil_or_concat B with rfl | ⟨B', b, rfl⟩
    · obtain ⟨rfl, e2⟩ := List.append_inj' hL rfl
      obtain ⟨rfl, rfl⟩ : u = y ∧ s = t := by simpa using e2
      obtain ⟨p, x, m1, m2, m3, m4, m5⟩ := h1.leaves (M := fun z => z ∈ ns L ∨ z = u) (.inr rfl) (fun hv => hv.elim h2 h3)
      have hxk : x ∈ K := by
        have hc : x ∈ ns L ∨ x ∈ u :: K := by
          rcases m1 with m1 | rfl
          · exact h.closed p m1 x m3
          · exact hs x m3
        rcases hc with hc | hc
        · exact absurd (.inl hc) m2
        · rcases List.mem_cons.1 hc with rfl | hc
          · exact absurd (.inr rfl) m2
          · exact hc
      exact ⟨x, .inr hxk, (List.pairwise_cons.1 h.chain).1 x hxk, m4, m5⟩
    · have hL2 : L ++ [(u, s)] = (P ++ (y, t) :: B') ++ [b] := by rw [hL]; simp
      obtain ⟨rfl, e2⟩ := List.append_inj' hL2 rfl
      obtain rfl : (u, s) = b := by simpa using e2
      obtain ⟨x, hx, h4⟩ := h.kos P y t B' rfl v h1 h2 h3
      refine ⟨x, ?_, h4⟩
      rw [List.concat_eq_append, ns_append]
      rcases hx with hx | hx
      · exact .inl (List.mem_append_left _ hx)
      · rcases List.mem_cons.1 hx with rfl | hx
        · exact .inl (List.mem_append_right _ (by simp [ns]))
        · exact .inr hx
  first v t hm := by
    rcases List.mem_append.1 hm with hm | hm
    · exact h.first v t hm
    · obtain ⟨rfl, rfl⟩ : v = u ∧ t = s := by simpa using hm
      exact ⟨D, [], rfl, h.foot _ (by simp), fun a ha => h.fresh _ (by simp) a ha⟩
  fresh k hk a ha := h.fresh k (List.mem_cons_of_mem _ hk) a ha
  done a ha v hw := by rw [ns_append]; exact List.mem_append_left _ (h.done a ha v hw)
  here := by
    rw [ns_append]
    rcases h.here with h1 | h1
    · exact .inl (List.mem_append_left _ h1)
    · rcases List.mem_cons.1 h1 with rfl | h1
      · exact .inl (List.mem_append_right _ (by simp [ns]))
      · exact .inr h1
theorem Down.ends {e : Nat → Nat → Prop} {D : List Nat} {s : Nat} {L : List (Nat × Nat)} (h : Down e D s L []) : Rest e (D ++ [s]) L where
  nd := by have := h.nd; rwa [List.append_nil] at this
  closed u hu x hx := (h.closed u hu x hx).elim id (fun h => by cases h)
  kos := h.kos
  first := h.first
  all a ha := by
    rcases List.mem_append.1 ha with h1 | h1
    · exact h.done a h1 a (.here a)
    · rw [List.mem_singleton.1 h1]; exact h.here.elim id (fun h => by cases h)
theorem first_one {e : Nat → Nat → Prop} {S : List Nat} {t t2 v v2 : Nat} (h : First e S t v) (h2 : First e S t2 v2) (hw : ∀ a, Wy e a v ↔ Wy e a v2) : t = t2 := by
  obtain ⟨A, B, rfl, h3, h4⟩ := h
  obtain ⟨A2, B2, hS, h5, h6⟩ := h2
  induction A generalizing A2 with
  | nil =>
    match A2, hS with
    | [], hS => simp at hS; exact hS.1
    | a :: A2, hS =>
      simp at hS
      exact absurd ((hw _).1 h3) (hS.1 ▸ h6 a (by simp))
  | cons c A ih =>
    match A2, hS with
    | [], hS =>
      simp at hS
      exact absurd ((hw _).2 h5) (hS.1 ▸ h4 c (by simp))
    | a :: A2, hS =>
      simp at hS
      exact ih (fun a ha => h4 a (by simp [ha])) A2 hS.2 (fun a ha => h6 a (by simp [ha]))
theorem ahead {l : List Nat} (hn : l.Nodup) {X Y A B : List Nat} {u t : Nat} (h1 : l = X ++ u :: Y) (h2 : l = A ++ t :: B) (ht : t ∈ Y) : u ∈ A := by
  induction X generalizing l A with
  | nil =>
    subst h1
    match A, h2 with
    | [], h2 =>
      simp at h2
      exact absurd (h2.1 ▸ ht) (List.nodup_cons.1 hn).1
    | a :: A, h2 => simp at h2; rw [h2.1]; simp
  | cons c X ih =>
    subst h1
    match A, h2 with
    | [], h2 =>
      simp at h2
      have := (List.nodup_cons.1 hn).1
      rw [h2.1] at this
      exact absurd (List.mem_append_right X (List.mem_cons_of_mem _ ht)) this
    | a :: A, h2 =>
      simp at h2
      exact List.mem_cons_of_mem _ (ih (List.nodup_cons.1 hn).2 rfl h2.2)
/-- THE TWO WALKS: the second over the turned edges, its starts what the first left, the last first: each node lies in one part with its start. -/
theorem two_walks {e : Nat → Nat → Prop} {D : List Nat} {L1 L2 : List (Nat × Nat)} (h1 : Rest e D L1) (h2 : Rest (fun a b => e b a) (ns L1).reverse L2) {v t : Nat} (hv : v ∈ ns L1) (hm : (v, t) ∈ L2) : Wy e v t ∧ Wy e t v := by
  obtain ⟨A, B, hS, h3, h4⟩ := h2.first v t hm
  have hvt : Wy e v t := h3.flip
  refine ⟨hvt, ?_⟩
  have hnd : (ns L1).reverse.Nodup := (List.reverse_perm _).nodup_iff.2 h1.nd
  have key : ∀ m P u τ Q, L1 = P ++ (u, τ) :: Q → Q.length ≤ m → Wy e v u → Wy e u t → Wy e t u := by
    intro m
    induction m with
    | zero =>
      intro P u τ Q hL hl hvu hut
      by_cases hu : t = u
      · rw [hu]; exact .here u
      · have htP : t ∉ ns P := fun hp => by
          have := ahead hnd (X := (ns Q).reverse) (u := u) (Y := (ns P).reverse) (by rw [hL]; simp [ns]) hS (List.mem_reverse.2 hp)
          exact h4 u this hvu.flip'
        obtain ⟨x, hx, _⟩ := h1.kos P u τ Q hL t hut htP hu
        obtain rfl : Q = [] := List.length_eq_zero_iff.1 (Nat.le_zero.1 hl)
        rcases hx with hx | hx <;> cases hx
    | succ m ih =>
      intro P u τ Q hL hl hvu hut
      by_cases hu : t = u
      · rw [hu]; exact .here u
      · have htP : t ∉ ns P := fun hp => by
          have := ahead hnd (X := (ns Q).reverse) (u := u) (Y := (ns P).reverse) (by rw [hL]; simp [ns]) hS (List.mem_reverse.2 hp)
          exact h4 u this hvu.flip'
        obtain ⟨x, hx, hxu, hux, hxt⟩ := h1.kos P u τ Q hL t hut htP hu
        rcases hx with hx | hx
        · obtain ⟨⟨x', τ'⟩, hmem, rfl⟩ := List.mem_map.1 hx
          obtain ⟨Q1, Q2, rfl⟩ := List.append_of_mem hmem
          refine (ih (P ++ (u, τ) :: Q1) x' τ' Q2 (by rw [hL]; simp) (by simp at hl; omega) (hvu.trans hux) hxt).trans hxu
        · cases hx
  obtain ⟨⟨v', τ⟩, hmem, rfl⟩ := List.mem_map.1 hv
  obtain ⟨P, Q, hPQ⟩ := List.append_of_mem hmem
  exact key Q.length P v' τ Q hPQ (Nat.le_refl _) (.here _) hvt
/-- So two nodes have one start where a way leads from each to the other, and there alone. -/
theorem starts_tell {e : Nat → Nat → Prop} {D : List Nat} {L1 L2 : List (Nat × Nat)} (h1 : Rest e D L1) (h2 : Rest (fun a b => e b a) (ns L1).reverse L2) {v t v2 t2 : Nat} (hv : v ∈ ns L1) (hv2 : v2 ∈ ns L1) (hm : (v, t) ∈ L2) (hm2 : (v2, t2) ∈ L2) :
    t = t2 ↔ Wy e v v2 ∧ Wy e v2 v := by
  obtain ⟨a, b⟩ := two_walks h1 h2 hv hm
  obtain ⟨c, d⟩ := two_walks h1 h2 hv2 hm2
  constructor
  · rintro rfl
    exact ⟨a.trans d, c.trans b⟩
  · rintro ⟨p, q⟩
    exact first_one (h2.first v t hm) (h2.first v2 t2 hm2) (fun x => ⟨fun h => (q.trans h.flip).flip', fun h => (p.trans h.flip).flip'⟩)
end Go.Proofs.Ytnfiohekdbjgoaa.sc
