/- What the two walks of Of leave, without any program. -/
import Derived.Test.YtnfiohekdbjgoaaSccTurned
namespace Go.Proofs.Ytnfiohekdbjgoaa.sc
open Go.ChangeShapes Go.WideShapes Go.ChangeAt Go.RowKit

theorem nodup_le {l m : List Nat} (h : l.Nodup) (hs : ∀ x ∈ l, x ∈ m) : l.length ≤ m.length := by
  induction l generalizing m with
  | nil => simp
  | cons a l ih =>
    obtain ⟨h1, h2⟩ := List.nodup_cons.1 h
    have ha := hs a (by simp)
    have := ih (m := m.erase a) h2 (fun x hx => (List.mem_erase_of_ne (fun (e : x = a) => h1 (by rw [← e]; exact hx))).2 (hs x (by simp [hx])))
    rw [List.length_erase_of_mem ha] at this
    have := List.length_pos_of_mem ha
    simp; omega
theorem full_length {n : Nat} {l : List Nat} (h : l.Nodup) (hlt : ∀ x ∈ l, x < n) (hall : ∀ i, i < n → i ∈ l) : l.length = n := by
  have h1 := nodup_le (m := List.range n) h (fun x hx => List.mem_range.2 (hlt x hx))
  have h2 := nodup_le (l := List.range n) (m := l) List.nodup_range (fun x hx => hall x (List.mem_range.1 hx))
  simp at h1 h2
  omega
theorem first_in {e : Nat → Nat → Prop} {S : List Nat} {t v : Nat} (h : First e S t v) : t ∈ S := by
  obtain ⟨A, B, rfl, _⟩ := h
  simp
theorem ns_has {L : List (Nat × Nat)} {u : Nat} (h : u ∈ ns L) : ∃ s, (u, s) ∈ L := by
  obtain ⟨x, hx, rfl⟩ := List.mem_map.1 h
  exact ⟨x.2, hx⟩
/-- Behind the first walk. -/
theorem walk1_all {n : Nat} {e : Nat → Nat → Prop} {L : List (Nat × Nat)} (h : Rest e (List.range n) L) (hlt : ∀ u ∈ ns L, u < n) : (∀ i, i < n → i ∈ ns L) ∧ (ns L).length = n := by
  have h1 : ∀ i, i < n → i ∈ ns L := fun i hi => h.all i (List.mem_range.2 hi)
  exact ⟨h1, full_length h.nd hlt h1⟩
theorem of_pure {n : Nat} {e : Nat → Nat → Prop} {L1 L2 : List (Nat × Nat)} {f : Nat → Int} (h1 : Rest e (List.range n) L1) (hlt1 : ∀ u ∈ ns L1, u < n) (h2 : Rest (fun a b => e b a) (ns L1).reverse L2) (hf : ∀ u s, (u, s) ∈ L2 → f u = (s : Int)) :
    (∀ i, i < n → (f i).toNat < n ∧ f i = ((f i).toNat : Int)) ∧ OfL n e (outL n fun u => (f u).toNat) := by
  obtain ⟨ha, _⟩ := walk1_all h1 hlt1
  have hs : ∀ i, i < n → ∃ s, (i, s) ∈ L2 ∧ s < n := fun i hi => by
    obtain ⟨s, hs⟩ := ns_has (h2.all i (List.mem_reverse.2 (ha i hi)))
    exact ⟨s, hs, hlt1 s (List.mem_reverse.1 (first_in (h2.first i s hs)))⟩
  have hst : ∀ i, i < n → (f i).toNat < n ∧ f i = ((f i).toNat : Int) := fun i hi => by
    obtain ⟨s, hs, hsn⟩ := hs i hi
    rw [hf i s hs]
    exact ⟨by simpa using hsn, by simp⟩
  refine ⟨hst, by simp [outL], fun i hi => ⟨lfd n (fun u => (f u).toNat) n ((f i).toNat), outL_getD hi, ?_⟩⟩
  refine lfd_least (fun a b hA hB => ?_) hi
  obtain ⟨s, hs1, _⟩ := hs a hA
  obtain ⟨t, ht1, _⟩ := hs b hB
  rw [hf a s hs1, hf b t ht1]
  have := starts_tell h1 h2 (ha a hA) (ha b hB) hs1 ht1
  simpa using this
end Go.Proofs.Ytnfiohekdbjgoaa.sc
