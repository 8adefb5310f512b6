/- The program's form: its head, in whatever order it is worked off. -/
import Derived.Test.YtmdfiamffipbcaaDoorNnfBack
import Derived.Test.YtmdfiamffipbcaaDoorLtlSpans
namespace Go.Proofs.YtmdfiamffipbcaaDoor.nf
open Go.ChangeShapes Go.WideShapes Go.ChangeAt Go.RowKit Go.Shelf Go.Deep sr lt

theorem infoB : (Tryd.prog.info? 4).map (fun i => (i.zero, i.size, i.bytes)) = some (some (.bool false), 1, 1) := by kernel_rfl
/-- What the head of form leaves. -/
def HeadP (w : World) (A : Option Addr) (m c : Nat) (L : List Int) (v : Value) (w' : World) : Prop :=
  ∃ (rb nb : Nat) (Bb : Option Addr) (d : Nat), v = .pointer (some ⟨rb, 0, none⟩) ∧ R5 w' rb (.slice A m c) (.slice Bb L.length d) (.slice (some ⟨nb, 0, none⟩) m m) (.slice none 0 0) (.slice none 0 0) ∧ w'.rowIs nb 4 m (fun _ => .bool false) ∧ InS w' Bb d L ∧
    (w.heap.size ≤ rb ∧ w.heap.size ≤ nb ∧ rb ≠ nb ∧ ∀ a, Bb = some a → w.heap.size ≤ a.block ∧ a.block ≠ rb ∧ a.block ≠ nb) ∧ Below w.heap.size w w'
abbrev nilS : Value := .slice none 0 0
abbrev Z5 : Obj := .cells #[nilS, nilS, nilS, nilS, nilS] 50
abbrev MB (m : Nat) : Obj := .cells (madeCells #[.bool false] m) 4
theorem ins_below {w w' : World} {A : Option Addr} {c : Nat} {l : List Int} (h : InS w A c l) (k : Below w.heap.size w w') : InS w' A c l := ⟨h.ia.turn (T := fun _ => False) (Turn.of_below k) (fun _ _ h => h), h.le, h.max, h.non⟩
theorem ins_set {w : World} {A : Option Addr} {c : Nat} {l : List Int} (h : InS w A c l) (b i : Nat) (v : Value) (hn : ∀ a, A = some a → a.block ≠ b) : InS (w.setCell ⟨b, i, none⟩ v) A c l := ⟨h.ia.turn (T := fun k => k = b) ((Turn.refl _ w).set ⟨b, i, none⟩ v rfl) (fun a ha => hn a ha), h.le, h.max, h.non⟩
theorem R5.set0 {w : World} {b : Nat} {v0 v1 v2 v3 v4 : Value} (h : R5 w b v0 v1 v2 v3 v4) (v : Value) : R5 (w.setCell ⟨b, 0, none⟩ v) b v v1 v2 v3 v4 :=
  ⟨World.cell?_setCell_same _ _ _ h.c0, (World.cell?_setCell_other _ _ _ _ (r5_ne b 0 1 (by decide))).trans h.c1, (World.cell?_setCell_other _ _ _ _ (r5_ne b 0 2 (by decide))).trans h.c2, (World.cell?_setCell_other _ _ _ _ (r5_ne b 0 3 (by decide))).trans h.c3, (World.cell?_setCell_other _ _ _ _ (r5_ne b 0 4 (by decide))).trans h.c4, fun j => (by simpa using h.f j), by simpa using h.lt⟩
theorem R5.set1 {w : World} {b : Nat} {v0 v1 v2 v3 v4 : Value} (h : R5 w b v0 v1 v2 v3 v4) (v : Value) : R5 (w.setCell ⟨b, 1, none⟩ v) b v0 v v2 v3 v4 :=
  ⟨(World.cell?_setCell_other _ _ _ _ (r5_ne b 1 0 (by decide))).trans h.c0, World.cell?_setCell_same _ _ _ h.c1, (World.cell?_setCell_other _ _ _ _ (r5_ne b 1 2 (by decide))).trans h.c2, (World.cell?_setCell_other _ _ _ _ (r5_ne b 1 3 (by decide))).trans h.c3, (World.cell?_setCell_other _ _ _ _ (r5_ne b 1 4 (by decide))).trans h.c4, fun j => (by simpa using h.f j), by simpa using h.lt⟩
theorem R5.set2 {w : World} {b : Nat} {v0 v1 v2 v3 v4 : Value} (h : R5 w b v0 v1 v2 v3 v4) (v : Value) : R5 (w.setCell ⟨b, 2, none⟩ v) b v0 v1 v v3 v4 :=
  ⟨(World.cell?_setCell_other _ _ _ _ (r5_ne b 2 0 (by decide))).trans h.c0, (World.cell?_setCell_other _ _ _ _ (r5_ne b 2 1 (by decide))).trans h.c1, World.cell?_setCell_same _ _ _ h.c2, (World.cell?_setCell_other _ _ _ _ (r5_ne b 2 3 (by decide))).trans h.c3, (World.cell?_setCell_other _ _ _ _ (r5_ne b 2 4 (by decide))).trans h.c4, fun j => (by simpa using h.f j), by simpa using h.lt⟩
theorem R5.new {w : World} {v0 v1 v2 v3 v4 : Value} {t : TypeId} : R5 (w.alloc (.cells #[v0, v1, v2, v3, v4] t)) w.heap.size v0 v1 v2 v3 v4 :=
  ⟨World.cell?_alloc_at _ _ _ _ rfl, World.cell?_alloc_at _ _ _ _ rfl, World.cell?_alloc_at _ _ _ _ rfl, World.cell?_alloc_at _ _ _ _ rfl, World.cell?_alloc_at _ _ _ _ rfl, fun j => World.frozen?_alloc_at _ _ _ _ rfl, by simp⟩
/-- The writer was made ahead of its fields. -/
theorem head_of {w X : World} {A : Option Addr} {m c : Nat} {L : List Int} {rb nb : Nat} {Bb : Option Addr} {d : Nat} {z0 z1 z2 z3 z4 : Value} (hz : R5 X rb z0 z1 z2 z3 z4) (hn : X.rowIs nb 4 m (fun _ => .bool false)) (hi : InS X Bb d L)
    (hs : w.heap.size ≤ rb ∧ w.heap.size ≤ nb ∧ rb ≠ nb ∧ ∀ a, Bb = some a → w.heap.size ≤ a.block ∧ a.block ≠ rb ∧ a.block ≠ nb) (hb : Below w.heap.size w X) :
    HeadP w A m c L (.pointer (some ⟨rb, 0, none⟩)) (((((X.setCell ⟨rb, 0, none⟩ (.slice A m c)).setCell ⟨rb, 1, none⟩ (.slice Bb L.length d)).setCell ⟨rb, 2, none⟩ (.slice (some ⟨nb, 0, none⟩) m m)).setCell ⟨rb, 3, none⟩ nilS).setCell ⟨rb, 4, none⟩ nilS) := by
  have hne : nb ≠ rb := fun e => hs.2.2.1 e.symm
  have hbn : ∀ a, Bb = some a → a.block ≠ rb := fun a ha => (hs.2.2.2 a ha).2.1
  refine ⟨rb, nb, Bb, d, rfl, ((((hz.set0 _).set1 _).set2 _).set3 _).set4 _, ?_, ins_set (ins_set (ins_set (ins_set (ins_set hi rb 0 _ hbn) rb 1 _ hbn) rb 2 _ hbn) rb 3 _ hbn) rb 4 _ hbn, hs, ((((hb.setCell (p := ⟨rb, 0, none⟩) hs.1 _).setCell (p := ⟨rb, 1, none⟩) hs.1 _).setCell (p := ⟨rb, 2, none⟩) hs.1 _).setCell (p := ⟨rb, 3, none⟩) hs.1 _).setCell (p := ⟨rb, 4, none⟩) hs.1 _⟩
  exact ((((hn.of_block (Below.heap_setCell _ ⟨rb, 0, none⟩ _ nb hne)).of_block (Below.heap_setCell _ ⟨rb, 1, none⟩ _ nb hne)).of_block (Below.heap_setCell _ ⟨rb, 2, none⟩ _ nb hne)).of_block (Below.heap_setCell _ ⟨rb, 3, none⟩ _ nb hne)).of_block (Below.heap_setCell _ ⟨rb, 4, none⟩ _ nb hne)
/-- The writer was made last. -/
theorem head_new {w X : World} {A : Option Addr} {m c : Nat} {L : List Int} {nb : Nat} {Bb : Option Addr} {d : Nat} (hn : X.rowIs nb 4 m (fun _ => .bool false)) (hi : InS X Bb d L)
    (hs : w.heap.size ≤ nb ∧ ∀ a, Bb = some a → w.heap.size ≤ a.block ∧ a.block < X.heap.size ∧ a.block ≠ nb) (hb : Below w.heap.size w X) :
    HeadP w A m c L (.pointer (some ⟨X.heap.size, 0, none⟩)) (X.alloc (.cells #[.slice A m c, .slice Bb L.length d, .slice (some ⟨nb, 0, none⟩) m m, nilS, nilS] 50)) := by
  have hl := hn.lt
  refine ⟨X.heap.size, nb, Bb, d, rfl, R5.new, hn.of_block (Below.heap_alloc _ _ _ hl), ins_below hi (below_one _ _), ⟨hb.size, hs.1, by omega, fun a ha => ⟨(hs.2 a ha).1, ?_, (hs.2 a ha).2.2⟩⟩, hb.alloc hb.size _⟩
  have := (hs.2 a ha).2.1
  omega
/-- The writer was made behind the parts' beginnings, the flags last. -/
theorem head_two {w w3 : World} (A : Option Addr) (m c : Nat) (L : List Int) (Bb : Option Addr) (d : Nat) (hb : Below w.heap.size w w3) (hi : InS w3 Bb d L) (hn : ∀ a, Bb = some a → w.heap.size ≤ a.block ∧ a.block < w3.heap.size) :
    HeadP w A m c L (.pointer (some ⟨w3.heap.size, 0, none⟩)) ((w3.alloc (.cells #[.slice A m c, .slice Bb L.length d, .slice (some ⟨w3.heap.size + 1, 0, none⟩) m m, nilS, nilS] 50)).alloc (MB m)) := by
  have hb1 : Below w.heap.size w (w3.alloc (.cells #[.slice A m c, .slice Bb L.length d, .slice (some ⟨w3.heap.size + 1, 0, none⟩) m m, nilS, nilS] 50)) := hb.alloc hb.size _
  have hm := World.rowIs_made (w3.alloc (.cells #[.slice A m c, .slice Bb L.length d, .slice (some ⟨w3.heap.size + 1, 0, none⟩) m m, nilS, nilS] 50)) (.bool false) m 4
  simp only [World.size_alloc] at hm
  have hs := hb.size
  refine ⟨w3.heap.size, w3.heap.size + 1, Bb, d, rfl, R5.new.block (Below.heap_alloc _ _ _ (by simp)) (by simp), hm, ins_below (ins_below hi (below_one _ _)) (below_one _ _), ⟨hs, by omega, by omega, fun a ha => ?_⟩, hb1.alloc hb1.size _⟩
  have h := hn a ha
  omega
theorem head_one {w w3 : World} (A : Option Addr) (m c : Nat) (L : List Int) (Bb : Option Addr) (d : Nat) (hb : Below w.heap.size w w3) (hi : InS w3 Bb d L) (hn : ∀ a, Bb = some a → w.heap.size ≤ a.block ∧ a.block < w3.heap.size) :
    HeadP w A m c L (.pointer (some ⟨w3.heap.size + 1, 0, none⟩)) ((w3.alloc (MB m)).alloc (.cells #[.slice A m c, .slice Bb L.length d, .slice (some ⟨w3.heap.size, 0, none⟩) m m, nilS, nilS] 50)) := by
  have hs := hb.size
  have h := head_new (X := w3.alloc (MB m)) (A := A) (c := c) (World.rowIs_made w3 (.bool false) m 4) (ins_below hi (below_one _ _)) ⟨hs, fun a ha => ⟨(hn a ha).1, by have := (hn a ha).2; simp; omega, by have := (hn a ha).2; omega⟩⟩ (hb.alloc hs _)
  simp only [World.size_alloc] at h
  exact h
end Go.Proofs.YtmdfiamffipbcaaDoor.nf
