/- Arguments opened: slices of structs of one-cell fields, at any program (OpensSc without the expressions' texts). -/
import Derived.Test.YtophajljjnjcdaaLaw
import Derived.Lib.SmallJoins
import Derived.Deep.Fields
import Derived.Deep.Slices
namespace Go.Proofs.Ytophajljjnjcdaa.dcl
open Go.Joins Go.ChangeShapes Go.WideShapes Go.ChangeAt Go.RowKit Go.Deep

variable {H : Type} {enc : TypeId × Value → H} {W : World}
theorem lt_of_cell {w : World} {b o : Nat} {v : Value} (h : w.cell? ⟨b, o, none⟩ = some v) : b < w.heap.size := by
  rcases Nat.lt_or_ge b w.heap.size with hlt | hge
  · exact hlt
  · simp [World.cell?, Array.getElem?_eq_none hge] at h
theorem getD_range {α : Type} [Inhabited α] (R : Nat → α) {len i : Nat} (d : α) (h : i < len) : ((List.range len).map R).getD i d = R i := by simp [List.getD, h]
/-- Nothing that is met in the datum is larger than may be. -/
def Wt (P : Program) (t : TypeId) (d : DataW H) : Prop := ∀ n ∈ d.weights P t, n ≤ reachBytes
theorem wt_arg {P : Program} {ts : List TypeId} {ds : List (DataW H)} (h : (DataW.weightsEach P ts ds).all (· ≤ reachBytes) = true) {j : Nat} {t : TypeId} {d : DataW H} (ht : ts[j]? = some t) (hd : ds[j]? = some d) : Wt P t d := fun n hn => by
  have := List.all_eq_true.1 h _ (DataW.weights_mem_each ht hd n hn)
  simpa using this
theorem wt_part {P : Program} {t : TypeId} {fs : Array Field} {xs : List (DataW H × List MemPlace)} (hs : P.underlying t = some (.struct fs)) (h : Wt P t (.agg (xs.map (·.1)))) {j : Nat} {f : Field} {y : DataW H × List MemPlace} (hf : fs[j]? = some f) (hy : xs[j]? = some y) : Wt P f.type y.1 := fun n hn => by
  refine h n ?_
  simp only [DataW.weights, hs]
  exact DataW.weights_mem_each (j := j) (t := f.type) (d := y.1) (by simp [hf]) (by simp [hy]) n hn
theorem wt_all {P : Program} {e : TypeId} : ∀ {l : List (DataW H)} {d : DataW H}, d ∈ l → ∀ n ∈ d.weights P e, n ∈ DataW.weightsAll P e l
  | x :: l, d, hd, n, hn => by
    simp only [DataW.weightsAll, List.mem_append]
    rcases List.mem_cons.1 hd with rfl | hd
    · exact .inl hn
    · exact .inr (wt_all hd n hn)
theorem wt_elem {P : Program} {t e : TypeId} {l r : List (DataW H)} (hs : P.underlying t = some (.slice e)) (h : Wt P t (.slice l r)) {d : DataW H} (hd : d ∈ l) : Wt P e d := fun n hn => by
  refine h n ?_
  simp only [DataW.weights, hs, List.mem_cons, List.mem_append]
  exact .inr (.inl (wt_all hd n hn))
theorem wt_len {P : Program} {t e : TypeId} {l r : List (DataW H)} (hs : P.underlying t = some (.slice e)) (h : Wt P t (.slice l r)) : l.length * P.bytesOf e ≤ reachBytes := by
  have := h ((l.length + r.length) * P.bytesOf e) (by simp [DataW.weights, hs])
  exact Nat.le_trans (Nat.mul_le_mul_right _ (Nat.le_add_right _ _)) this

/-- A struct by value whose fields are one cell each: each field's cell, what it is, and that nothing in it is too large. -/
theorem open_fields_w {P : Program} {r : Reach} {b0 : Nat} {t : TypeId} {fs : Array Field} {v : Value} {d : DataW H} {p : List MemPlace} (hs : P.underlying t = some (.struct fs)) (hone : oneCellFields P fs = true) (hC : P.cellsOf t = fs.size)
    (hv : Value.okWide P W r b0 t v) (h : DataW.Trod enc P W 0 (fun _ => true) true t v d p) (hw : Wt P t d) :
    ∃ (cs : Array Value) (n : Nat), v = .agg cs ∧ cs.size = fs.size ∧ ∀ (j : Nat) (f : Field), fs[j]? = some f → ∃ u y, cs[j]? = some u ∧ DataW.trod enc P W 0 (fun _ => true) true n f.type [u] = some y ∧ Wt P f.type y.1 := by
  obtain ⟨cs, rfl, hsz⟩ := okWide_struct hs hv
  obtain ⟨fuel, hf⟩ := h
  obtain ⟨xs, n, _, hx, _, hlen, hg⟩ := DataW.trod_struct hs hf
  refine ⟨cs, n, rfl, hsz.trans hC, fun j f hj => ?_⟩
  obtain ⟨ho, hk⟩ := hone_of hone j f hj
  have hjl : j < fs.size := (Array.getElem?_eq_some_iff.1 hj).1
  have hjc : j < cs.toList.length := by
    have := hsz.trans hC
    simp; omega
  have h1 := hg j f hj
  rw [ho, hk] at h1
  have h2 : ((Value.agg cs).cells.toList.drop j).take 1 = [cs.toList.getD j undef] := take1_drop cs.toList j undef hjc
  rw [h2] at h1
  have hxj : xs[j]? = some (xs[j]'(by omega)) := List.getElem?_eq_getElem (by omega)
  injection hx with hx1 hx2
  subst hx1
  exact ⟨_, _, by simp [List.getD, show j < cs.size by simpa using hjc], h1.trans hxj, wt_part hs hw hj hxj⟩

/-- A slice of structs whose fields are one cell each. -/
theorem open_structs {P : Program} {t e : TypeId} {fs : Array Field} {n : Nat} {v : Value} {x : DataW H × List MemPlace} (ht : P.underlying t = some (.slice e)) (he : P.underlying e = some (.struct fs)) (hone : oneCellFields P fs = true) (hC : P.cellsOf e = fs.size) (h0 : 0 < fs.size)
    (h : DataW.trod enc P W 0 (fun _ => true) true n t [v] = some x) (hw : Wt P t x.1) :
    ∃ (A : Option Addr) (len c : Nat), v = .slice A len c ∧ len * P.bytesOf e ≤ reachBytes ∧ len ≤ c ∧ c ≤ maxLen ∧ (A = none → c = 0) ∧ (0 < len → ∃ b off, A = some ⟨b, off, none⟩ ∧ b < W.heap.size ∧
      ∀ i, i < len → ∀ (j : Nat) (f : Field), fs[j]? = some f → ∃ u y m, W.cell? ⟨b, off + i * fs.size + j, none⟩ = some u ∧ DataW.trod enc P W 0 (fun _ => true) true m f.type [u] = some y ∧ Wt P f.type y.1) := by
  rcases open_slice ht h with ⟨hcs, hx⟩ | ⟨a, len, cap, m, n, D, Pl, hcs, _, hl, hm, hmm, hx, hcell⟩
  · injection hcs with hcs
    exact ⟨none, 0, 0, hcs, by simp, Nat.le_refl _, Nat.zero_le _, fun _ => rfl, fun h => absurd h (by simp)⟩
  · injection hcs with hcs
    simp only [if_true] at hmm
    subst hx
    have hlen := wt_len ht hw
    simp only [List.length_map, List.length_range] at hlen
    obtain ⟨b, off, spot⟩ := a
    have field : ∀ i, i < len → ∀ (j : Nat) (f : Field), fs[j]? = some f → ∃ u y m, W.cell? ((Addr.mk b off spot).add (i * fs.size + j)) = some u ∧ DataW.trod enc P W 0 (fun _ => true) true m f.type [u] = some y ∧ Wt P f.type y.1 := by
      intro i hi j f hj
      obtain ⟨cs, h1, h2⟩ := hcell i (by omega)
      obtain ⟨_, hcl, hcc⟩ := World.cells?_some h1
      obtain ⟨xs, n2, _, hx2, _, hxl, hg⟩ := DataW.trod_struct he h2
      obtain ⟨ho, hk⟩ := hone_of hone j f hj
      have hjl : j < fs.size := (Array.getElem?_eq_some_iff.1 hj).1
      have h3 := hg j f hj
      rw [ho, hk, take1_drop cs j undef (by omega)] at h3
      have hxj : xs[j]? = some (xs[j]'(by omega)) := List.getElem?_eq_getElem (by omega)
      injection hx2 with hx3 hx4
      have hwe : Wt P e (.agg (xs.map (·.1))) := by
        rw [← hx3]
        exact wt_elem ht hw (List.mem_map.2 ⟨i, List.mem_range.2 hi, rfl⟩)
      refine ⟨_, _, n2, ?_, h3.trans hxj, wt_part he hwe hj hxj⟩
      have h4 := hcc j (by omega)
      rw [add_add, hC] at h4
      rw [h4]
      simp [List.getD, List.getElem?_eq_getElem (show j < cs.length by omega)]
    refine ⟨some ⟨b, off, spot⟩, len, cap, hcs, hlen, hl, hm, (fun h => by cases h), fun hp => ?_⟩
    obtain ⟨f0, hf0⟩ : ∃ f, fs[0]? = some f := ⟨fs[0]'h0, Array.getElem?_eq_getElem h0⟩
    obtain ⟨u, _, _, g0, _, _⟩ := field 0 hp 0 f0 hf0
    have hspot : spot = none := by simpa [Addr.add] using World.cell?_spot g0
    subst hspot
    rw [add_plain] at g0
    refine ⟨b, off, rfl, lt_of_cell g0, fun i hi j f hj => ?_⟩
    obtain ⟨u, y, m2, g1, g2, g3⟩ := field i hi j f hj
    rw [add_plain] at g1
    exact ⟨u, y, m2, by rw [Nat.add_assoc]; exact g1, g2, g3⟩

theorem int_cell {t : TypeId} (ht : Try.prog.underlying t = some (.int .i64)) {m : Nat} {u : Value} {y : DataW H × List MemPlace} (h : DataW.trod enc Try.prog W 0 (fun _ => true) true m t [u] = some y) : ∃ z : Int, u = .int .i64 z ∧ (Lit.int .i64 z).wf = true := by
  obtain ⟨z, e, _, w⟩ := DataW.trod_int ht h
  injection e with e
  exact ⟨z, e, w⟩
theorem string_cell {t : TypeId} (ht : Try.prog.underlying t = some .string) {m : Nat} {u : Value} {y : DataW H × List MemPlace} (h : DataW.trod enc Try.prog W 0 (fun _ => true) true m t [u] = some y) (hw : Wt Try.prog t y.1) : ∃ s : ByteArray, u = .string s ∧ s.size ≤ reachBytes := by
  obtain ⟨s, e, hy, _⟩ := DataW.trod_string ht h
  injection e with e
  refine ⟨s, e, ?_⟩
  subst hy
  have := hw s.data.toList.length (by simp [DataW.weights])
  simpa using this
theorem slice_cell {t e : TypeId} (ht : Try.prog.underlying t = some (.slice e)) {m : Nat} {u : Value} {y : DataW H × List MemPlace} (h : DataW.trod enc Try.prog W 0 (fun _ => true) true m t [u] = some y) : ∃ A l c, u = .slice A l c := by
  rcases open_slice ht h with ⟨hcs, _⟩ | ⟨a, len, cap, m, n, D, Pl, hcs, _⟩
  · injection hcs with hcs
    exact ⟨_, _, _, hcs⟩
  · injection hcs with hcs
    exact ⟨_, _, _, hcs⟩
end Go.Proofs.Ytophajljjnjcdaa.dcl
