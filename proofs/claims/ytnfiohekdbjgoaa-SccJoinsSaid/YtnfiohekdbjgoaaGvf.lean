/- Graphs that lie between two blocks: what is written elsewhere does not touch them. -/
import Derived.Test.YtnfiohekdbjgoaaTotal
namespace Go.Proofs.Ytnfiohekdbjgoaa
open Go.ChangeShapes Go.WideShapes Go.ChangeAt Go.RowKit Go.Shelf

/-- Blocks from B on, below E. -/
def Bt (B E : Nat) (A : Option Addr) : Prop := ∀ a, A = some a → B ≤ a.block ∧ a.block < E
def LAf (B E : Nat) (k : IntKind) (w : World) (A : Option Addr) (zs : List Int) : Prop := LA k w A zs ∧ (0 < zs.length → Bt B E A)
def PAf (B E : Nat) (w : World) (A : Option Addr) (zs : List (Int × Int)) : Prop := PA w A zs ∧ (0 < zs.length → Bt B E A)
def RAf (B E : Nat) (w : World) (A : Option Addr) (rows : List (List (Int × Int))) : Prop :=
  0 < rows.length → ∃ b off, A = some ⟨b, off, none⟩ ∧ b < w.heap.size ∧ (B ≤ b ∧ b < E) ∧ ∀ i, i < rows.length → ∃ A' c', w.cell? ⟨b, off + i, none⟩ = some (.slice A' (rows.getD i []).length c') ∧ (rows.getD i []).length ≤ c' ∧ c' ≤ maxLen ∧ PAf B E w A' (rows.getD i [])
def GVF (B E : Nat) (w : World) (v : Value) (G : Gr) : Prop := ∃ A1 c1 A2 c2 A3 c3, v = .agg #[.slice A1 G.init.length c1, .slice A2 G.rows.length c2, .slice A3 G.labels.length c3] ∧
  (G.init.length ≤ c1 ∧ c1 ≤ maxLen ∧ LAf B E .i64 w A1 G.init) ∧ (G.rows.length ≤ c2 ∧ c2 ≤ maxLen ∧ RAf B E w A2 G.rows) ∧ (G.labels.length ≤ c3 ∧ c3 ≤ maxLen ∧ LAf B E .u64 w A3 G.labels)
theorem RAf.ra {B E : Nat} {w : World} {A : Option Addr} {rows : List (List (Int × Int))} (h : RAf B E w A rows) : RA w A rows := fun hn => by
  obtain ⟨b, off, e, hb, _, hc⟩ := h hn
  exact ⟨b, off, e, hb, fun i hi => by
    obtain ⟨A', c', h1, h2, h3, h4⟩ := hc i hi
    exact ⟨A', c', h1, h2, h3, h4.1⟩⟩
theorem GVF.gv {B E : Nat} {w : World} {v : Value} {G : Gr} (h : GVF B E w v G) : GV w v G := by
  obtain ⟨A1, c1, A2, c2, A3, c3, e, ⟨a1, b1, d1⟩, ⟨a2, b2, d2⟩, ⟨a3, b3, d3⟩⟩ := h
  exact ⟨A1, c1, A2, c2, A3, c3, e, ⟨a1, b1, d1.1⟩, ⟨a2, b2, d2.ra⟩, ⟨a3, b3, d3.1⟩⟩
theorem LAf.cells {B E : Nat} {k : IntKind} {w w' : World} {A : Option Addr} {l : List Int} (h : LAf B E k w A l) (hz : w.heap.size ≤ w'.heap.size) (hc : ∀ p u, (B ≤ p.block ∧ p.block < E) → w.cell? p = some u → w'.cell? p = some u) : LAf B E k w' A l :=
  ⟨fun hn => by
    obtain ⟨b, off, e, hb, h1⟩ := h.1 hn
    exact ⟨b, off, e, by omega, fun i hi => hc _ _ (h.2 hn ⟨b, off, none⟩ e) (h1 i hi)⟩, h.2⟩
theorem PAf.cells {B E : Nat} {w w' : World} {A : Option Addr} {l : List (Int × Int)} (h : PAf B E w A l) (hz : w.heap.size ≤ w'.heap.size) (hc : ∀ p u, (B ≤ p.block ∧ p.block < E) → w.cell? p = some u → w'.cell? p = some u) : PAf B E w' A l :=
  ⟨fun hn => by
    obtain ⟨b, off, e, hb, h1⟩ := h.1 hn
    exact ⟨b, off, e, by omega, fun i hi => ⟨hc _ _ (h.2 hn ⟨b, off, none⟩ e) (h1 i hi).1, hc _ _ (h.2 hn ⟨b, off, none⟩ e) (h1 i hi).2⟩⟩, h.2⟩
theorem RAf.cells {B E : Nat} {w w' : World} {A : Option Addr} {rows : List (List (Int × Int))} (h : RAf B E w A rows) (hz : w.heap.size ≤ w'.heap.size) (hc : ∀ p u, (B ≤ p.block ∧ p.block < E) → w.cell? p = some u → w'.cell? p = some u) : RAf B E w' A rows := fun hn => by
  obtain ⟨b, off, e, hb, hbe, h1⟩ := h hn
  refine ⟨b, off, e, by omega, hbe, fun i hi => ?_⟩
  obtain ⟨A', c', h2, h3, h4, h5⟩ := h1 i hi
  exact ⟨A', c', hc _ _ hbe h2, h3, h4, h5.cells hz hc⟩
/-- What lies between stays where its cells stay. -/
theorem GVF.cells {B E : Nat} {w w' : World} {v : Value} {G : Gr} (h : GVF B E w v G) (hz : w.heap.size ≤ w'.heap.size) (hc : ∀ p u, (B ≤ p.block ∧ p.block < E) → w.cell? p = some u → w'.cell? p = some u) : GVF B E w' v G := by
  obtain ⟨A1, c1, A2, c2, A3, c3, e, ⟨a1, b1, d1⟩, ⟨a2, b2, d2⟩, ⟨a3, b3, d3⟩⟩ := h
  exact ⟨A1, c1, A2, c2, A3, c3, e, ⟨a1, b1, d1.cells hz hc⟩, ⟨a2, b2, d2.cells hz hc⟩, ⟨a3, b3, d3.cells hz hc⟩⟩
theorem GVF.keep {B E : Nat} {w w' : World} {v : Value} {G : Gr} (h : GVF B E w v G) (hz : w.heap.size ≤ w'.heap.size) (hb : ∀ q, B ≤ q → q < E → w'.heap[q]? = w.heap[q]?) : GVF B E w' v G :=
  h.cells hz (fun p u hp hc => (World.cell?_of_block (hb p.block hp.1 hp.2)).trans hc)
theorem GVF.below {B E : Nat} {w w' : World} {v : Value} {G : Gr} (h : GVF B E w v G) (hE : E ≤ w.heap.size) (hb : Below w.heap.size w w') : GVF B E w' v G :=
  h.keep hb.size (fun q _ hq => hb.block q (by omega))
/-- A graph of new blocks is handed back. -/
def GPF (w : World) (G : Gr) (e : Ending) (w' : World) : Prop := ∃ v, e = .returned v ∧ (∃ E, E ≤ w'.heap.size ∧ GVF w.heap.size E w' v G) ∧ Below w.heap.size w w'
theorem laf_of {B : Nat} {k : IntKind} {w : World} {A : Option Addr} {l : List Int} (h : LA k w A l) (hB : ∀ a, A = some a → B ≤ a.block) : LAf B w.heap.size k w A l :=
  ⟨h, fun hn a e => by
    obtain ⟨b, off, e2, hb, _⟩ := h hn
    refine ⟨hB a e, ?_⟩
    rw [e] at e2
    cases e2
    exact hb⟩
theorem paf_of_own {B base : Nat} {w : World} {v : Value} {l : List (Int × Int)} (h : w.ownsRow base 46 2 v l.length (flat l)) (hB : B ≤ base) : ∃ A c, v = .slice A l.length c ∧ l.length ≤ c ∧ c ≤ maxLen ∧ PAf B w.heap.size w A l := by
  obtain ⟨A, c, e, h1, h2, h3⟩ := pa_of_own h
  refine ⟨A, c, e, h1, h2, h3, fun hn a ea => ?_⟩
  have hob : v.ownBlock = some a.block := by
    rcases h.2 with ⟨h4, h0⟩ | ⟨g, cap, cur, h4, hb, hg, hn2, hm, hs, ht⟩
    · rw [e, ea] at h4; cases h4
    · rw [h4] at e
      cases e
      cases ea
      rw [h4]
      rfl
  have := World.ownsRow.lt h a.block hob
  exact ⟨by omega, this.2⟩
theorem OR.raf {B : Nat} {w : World} {base t n : Nat} {vs : Nat → Value} {l : Nat → List (Int × Int)} (h : OR w base t n vs l) (hB : B ≤ base) (ht : B ≤ t) : RAf B w.heap.size w (some ⟨t, 0, none⟩) ((List.range n).map l) := fun hn => by
  refine ⟨t, 0, rfl, h.tab.lt, ⟨ht, h.tab.lt⟩, fun i hi => ?_⟩
  have hi2 : i < n := by simpa using hi
  have hd : ((List.range n).map l).getD i [] = l i := by simp [List.getD, hi2]
  obtain ⟨A, c, e, h1, h2, h3⟩ := paf_of_own (h.own i hi2) hB
  rw [hd, Nat.zero_add]
  exact ⟨A, c, by rw [h.tab.cell hi2, e], h1, h2, h3⟩
end Go.Proofs.Ytnfiohekdbjgoaa
