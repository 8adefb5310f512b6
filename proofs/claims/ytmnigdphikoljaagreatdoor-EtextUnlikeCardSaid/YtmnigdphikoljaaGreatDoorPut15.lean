/- Contracts that the claim stands on, several texts in one: EtTree, EtPairOf. -/
import Derived.Laws.ResultCell
import Derived.Test.YtmnigdphikoljaaGreatDoorPut1
import Derived.Test.YtmnigdphikoljaaGreatDoorPut2
import Derived.Test.YtmnigdphikoljaaGreatDoorPut3
import Derived.Test.YtmnigdphikoljaaGreatDoorPut4
import Derived.Test.YtmnigdphikoljaaGreatDoorPut5
import Derived.Test.YtmnigdphikoljaaGreatDoorPut6
import Derived.Test.YtmnigdphikoljaaGreatDoorPut7
import Derived.Test.YtmnigdphikoljaaGreatDoorPut8
import Derived.Test.YtmnigdphikoljaaGreatDoorPut9
import Derived.Test.YtmnigdphikoljaaGreatDoorPut10
import Derived.Test.YtmnigdphikoljaaGreatDoorPut11
import Derived.Test.YtmnigdphikoljaaGreatDoorPut12
import Derived.Test.YtmnigdphikoljaaGreatDoorPut13
import Derived.Test.YtmnigdphikoljaaGreatDoorPut14
namespace Go.Proofs.YtmnigdphikoljaaGreatDoor.et
open Go.ChangeShapes Go.WideShapes Go.ChangeAt Go.RowKit Go.Deep

/-- A node, and what it takes. -/
inductive Ex where
  | lf (nd : Int × Int)
  | un (nd : Int × Int) (a : Ex)
  | bi (nd : Int × Int) (a b : Ex)
def Ex.root : Ex → Int × Int
  | .lf nd => nd
  | .un nd _ => nd
  | .bi nd _ _ => nd
def Ex.flat : Ex → List (Int × Int)
  | .lf nd => [nd]
  | .un nd a => a.flat ++ [nd]
  | .bi nd a b => a.flat ++ b.flat ++ [nd]
/-- How many nodes. -/
def Ex.count : Ex → Nat
  | .lf _ => 1
  | .un _ a => a.count + 1
  | .bi _ a b => a.count + b.count + 1
/-- The nodes from s to k are a tree; B tells where parts begin. -/
inductive At (e : List (Int × Int)) (B : List Int) : Nat → Nat → Ex → Prop
  | lf {k : Nat} : k < e.length → takesZ (e.getD k (0, 0)).1 = 0 → B.getD k 0 = (k : Int) → At e B k k (.lf (e.getD k (0, 0)))
  | un {s k : Nat} {a : Ex} : k + 1 < e.length → takesZ (e.getD (k + 1) (0, 0)).1 = 1 → At e B s k a → B.getD (k + 1) 0 = (s : Int) → At e B s (k + 1) (.un (e.getD (k + 1) (0, 0)) a)
  | bi {s m k : Nat} {a b : Ex} : k + 1 < e.length → takesZ (e.getD (k + 1) (0, 0)).1 = 2 → At e B s m a → At e B (m + 1) k b → B.getD (k + 1) 0 = (s : Int) → At e B s (k + 1) (.bi (e.getD (k + 1) (0, 0)) a b)
theorem At.spec {e : List (Int × Int)} {B : List Int} {s k : Nat} {x : Ex} (h : At e B s k x) : B.getD k 0 = (s : Int) ∧ s ≤ k ∧ k < e.length ∧ e.getD k (0, 0) = x.root ∧ x.count = k + 1 - s := by
  induction h with
  | lf h1 _ h3 => exact ⟨h3, Nat.le_refl _, h1, rfl, by simp [Ex.count]⟩
  | un h1 _ _ h4 ih => obtain ⟨_, i2, _, _, i5⟩ := ih; exact ⟨h4, by omega, h1, rfl, by simp only [Ex.count]; omega⟩
  | bi h1 _ _ _ h4 ih1 ih2 => obtain ⟨_, i2, _, _, i5⟩ := ih1; obtain ⟨_, j2, _, _, j5⟩ := ih2; exact ⟨h4, by omega, h1, rfl, by simp only [Ex.count]; omega⟩
theorem At.more {e : List (Int × Int)} {B : List Int} {s k : Nat} {x : Ex} (h : At e B s k x) : ∀ (hk : k < B.length) (y : List Int), At e (B ++ y) s k x := by
  have get : ∀ (j : Nat) (y : List Int), j < B.length → (B ++ y).getD j 0 = B.getD j 0 := fun j y hj => by simp [List.getD, List.getElem?_append_left hj]
  induction h with
  | lf h1 h2 h3 => exact fun hk y => .lf h1 h2 (by rw [get _ _ hk]; exact h3)
  | un h1 h2 _ h4 ih => exact fun hk y => .un h1 h2 (ih (by omega) y) (by rw [get _ _ hk]; exact h4)
  | bi h1 h2 h5 h6 h4 ih1 ih2 =>
    intro hk y
    have := h6.spec
    exact .bi h1 h2 (ih1 (by omega) y) (ih2 (by omega) y) (by rw [get _ _ hk]; exact h4)
/-- Trees side by side: the first i nodes, where each begins. -/
inductive Chx (e : List (Int × Int)) (B : List Int) : Nat → List Int → List Ex → Prop
  | nil : Chx e B 0 [] []
  | snoc {i s : Nat} {st : List Int} {xs : List Ex} {x : Ex} : At e B s i x → Chx e B s st xs → Chx e B (i + 1) (st ++ [(s : Int)]) (xs ++ [x])
theorem Chx.more {e : List (Int × Int)} {B : List Int} {i : Nat} {st : List Int} {xs : List Ex} (h : Chx e B i st xs) : ∀ (_ : i ≤ B.length) (y : List Int), Chx e (B ++ y) i st xs := by
  induction h with
  | nil => exact fun _ _ => .nil
  | snoc h1 _ ih =>
    intro hi y
    have := h1.spec
    exact .snoc (h1.more (by omega) y) (ih (by omega) y)
theorem Chx.pop {e : List (Int × Int)} {B : List Int} {i : Nat} {st : List Int} {xs : List Ex} (h : Chx e B i st xs) (hl : 0 < st.length) : ∃ (j s : Nat) (st' : List Int) (xs' : List Ex) (x : Ex), i = j + 1 ∧ st = st' ++ [(s : Int)] ∧ xs = xs' ++ [x] ∧ At e B s j x ∧ Chx e B s st' xs' := by
  cases h with
  | nil => simp at hl
  | snoc h1 h2 => exact ⟨_, _, _, _, _, rfl, rfl, rfl, h1, h2⟩
theorem Chx.none {e : List (Int × Int)} {B : List Int} {i : Nat} {st : List Int} {xs : List Ex} (h : Chx e B i st xs) (hs : st = []) : i = 0 := by
  cases h with
  | nil => rfl
  | snoc _ _ => simp at hs
theorem takesZ_two (op : Int) : takesZ op < 0 ∨ takesZ op = 0 ∨ takesZ op = 1 ∨ takesZ op = 2 := by
  unfold takesZ
  split <;> (try split) <;> (try split) <;> (try split) <;> omega
theorem spAt_tree {e : List (Int × Int)} : ∀ {k : Nat} {S : Sp}, k ≤ e.length → spAt e k = some S → S.out.length = k ∧ ∃ xs, Chx e S.out k S.st xs
  | 0, S, _, h => by
    injection h with h
    subst h
    exact ⟨rfl, [], .nil⟩
  | k + 1, S, hk, h => by
    unfold spAt at h
    split at h
    · cases h
    · next S' hS' =>
      obtain ⟨h1, xs, h2⟩ := spAt_tree (by omega) hS'
      split at h
      · cases h
      · next hc =>
        simp only [Option.some.injEq] at h
        subst h
        refine ⟨by simp [h1], ?_⟩
        have get : ∀ (x : Int), (S'.out ++ [x]).getD k 0 = x := fun x => by simp [List.getD, h1]
        rcases takesZ_two (e.getD k (0, 0)).1 with ht | ht | ht | ht
        · omega
        · simp only [ht, Int.toNat_zero, if_true, Nat.sub_zero, List.take_length]
          exact ⟨_, .snoc (.lf (by omega) ht (get _)) (h2.more (by omega) _)⟩
        · obtain ⟨j, s, st', xs', x, rfl, e2, e3, p1, p2⟩ := h2.pop (by omega)
          have hj := p1.spec
          have e4 : S'.st.getD (S'.st.length - 1) 0 = (s : Int) := by rw [e2]; simp [List.getD]
          have e5 : S'.st.take (S'.st.length - 1) = st' := by rw [e2]; simp
          simp only [ht, show Int.toNat 1 = 1 from rfl, e4, e5]
          rw [if_neg (by decide)]
          exact ⟨_, .snoc (.un (by omega) ht (p1.more (by omega) _) (get _)) (p2.more (by omega) _)⟩
        · obtain ⟨j, s, st', xs', x, rfl, e2, e3, p1, p2⟩ := h2.pop (by omega)
          have hl2 : 0 < st'.length := by
            have := congrArg List.length e2
            rw [List.length_append, List.length_singleton] at this
            omega
          obtain ⟨i, q, st2, xs2, y, rfl, e6, e7, p3, p4⟩ := p2.pop hl2
          have hj := p1.spec
          have hi := p3.spec
          have e8 : S'.st = st2 ++ [(q : Int), ((i + 1 : Nat) : Int)] := by rw [e2, e6]; simp
          have e4 : S'.st.getD (S'.st.length - 2) 0 = (q : Int) := by rw [e8]; simp [List.getD]
          have e5 : S'.st.take (S'.st.length - 2) = st2 := by rw [e8]; simp
          simp only [ht, show Int.toNat 2 = 2 from rfl, e4, e5]
          rw [if_neg (by decide)]
          exact ⟨_, .snoc (.bi (by omega) ht (p3.more (by omega) _) (p1.more (by omega) _) (get _)) (p4.more (by omega) _)⟩
theorem spans_tree {e : List (Int × Int)} {B : List Int} (h : spansF e = some B) : 0 < e.length ∧ ∃ x, At e B 0 (e.length - 1) x := by
  unfold spansF at h
  split at h
  · cases h
  · next S hS =>
    split at h
    · next h1 =>
      injection h with h
      subst h
      obtain ⟨_, xs, hx⟩ := spAt_tree (Nat.le_refl _) hS
      obtain ⟨j, s, st', xs', x, e1, e2, e3, p1, p2⟩ := hx.pop (by omega)
      have hl : st' = [] := by
        have := congrArg List.length e2
        rw [List.length_append, List.length_singleton, h1] at this
        exact List.length_eq_zero_iff.1 (by omega)
      subst hl
      have hs : s = 0 := p2.none rfl
      subst hs
      rw [e1]
      exact ⟨by omega, x, p1⟩
    · cases h
theorem At.flat {e : List (Int × Int)} {B : List Int} {s k : Nat} {x : Ex} (h : At e B s k x) : (e.drop s).take (k + 1 - s) = x.flat := by
  have one : ∀ j, j < e.length → (e.drop j).take 1 = [e.getD j (0, 0)] := fun j hj => by rw [drop_at (0, 0) hj]; rfl
  have cut : ∀ s i k, s ≤ i → i ≤ k → (e.drop s).take (k - s) = (e.drop s).take (i - s) ++ (e.drop i).take (k - i) := fun s i k h1 h2 => by
    rw [show k - s = (i - s) + (k - i) by omega, List.take_add, List.drop_drop, show s + (i - s) = i by omega]
  induction h with
  | @lf k h1 _ _ => rw [show k + 1 - k = 1 by omega, one k h1]; rfl
  | @un s k a h1 _ h3 _ ih =>
    have := h3.spec
    rw [cut s (k + 1) (k + 1 + 1) (by omega) (by omega), ih, show k + 1 + 1 - (k + 1) = 1 by omega, one _ h1]
    rfl
  | @bi s m k a b h1 _ h3 h4 _ ih1 ih2 =>
    have := h3.spec
    have := h4.spec
    rw [cut s (k + 1) (k + 1 + 1) (by omega) (by omega), cut s (m + 1) (k + 1) (by omega) (by omega), ih1, ih2, show k + 1 + 1 - (k + 1) = 1 by omega, one _ h1]
    rfl

/-- The pair that an operation is. -/
def pOf (op : Int) : Option (Int × Nat × ByteArray × Nat) := pairT.find? (fun p => p.1 == op)
def brB (s : ByteArray) : ByteArray := ⟨#[40]⟩ ++ s ++ ⟨#[41]⟩
def nameB (N : Nm) (nd : Int × Int) : ByteArray := (nameOf N nd).getD ⟨#[]⟩
/-- The text t of a part whose root is nd, in brackets if it binds less. -/
def bndT (nd : Int × Int) (least : Nat) (t : ByteArray) : ByteArray := match pOf nd.1 with
  | none => t
  | some p => if p.2.1 < least then brB t else t
def lfT (N : Nm) (nd : Int × Int) : ByteArray :=
  if nd.1 = 1 then dS nd.2 else if nd.1 = 2 ∨ nd.1 = 4 then nameB N nd else if nd.1 = 5 then ⟨#[115, 101, 108, 102]⟩
  else if nd.1 = 6 then ⟨#[108, 101, 110]⟩ ++ brB (nameB N nd) else if nd.1 = 7 then ⟨#[97, 116]⟩ ++ brB (nameB N nd ++ ⟨#[44, 32]⟩ ++ dS (nd.2 % 16)) else ⟨#[110, 111, 110, 101]⟩ ++ brB (nameB N nd)
def unT (N : Nm) (nd r : Int × Int) (t : ByteArray) : ByteArray :=
  if nd.1 = 3 then nameB N nd ++ ⟨#[91]⟩ ++ t ++ ⟨#[93]⟩ else if nd.1 = 9 then ⟨#[33]⟩ ++ bndT r 6 t else ⟨#[45]⟩ ++ (if r.1 = 1 then brB t else bndT r 6 t)
def biT (nd ra rb : Int × Int) (ta tb : ByteArray) : ByteArray := match pOf nd.1 with
  | none => ⟨#[]⟩
  | some p => bndT ra (if p.2.1 = 3 then 4 else p.2.1) ta ++ ⟨#[32]⟩ ++ p.2.2.1 ++ ⟨#[32]⟩ ++ bndT rb (p.2.1 + 1) tb
def txt (N : Nm) : Ex → ByteArray
  | .lf nd => lfT N nd
  | .un nd a => unT N nd a.root (txt N a)
  | .bi nd a b => biT nd a.root b.root (txt N a) (txt N b)
theorem size_app (x y : ByteArray) : (x ++ y).size = x.size + y.size := ByteArray.size_append
theorem brB_size (s : ByteArray) : (brB s).size = s.size + 2 := by
  unfold brB
  rw [size_app, size_app]
  show 1 + s.size + 1 = _
  omega
theorem bndT_size (nd : Int × Int) (k : Nat) (t : ByteArray) : (bndT nd k t).size ≤ t.size + 2 := by
  unfold bndT
  split
  · omega
  · split
    · rw [brB_size]; exact Nat.le_refl _
    · omega
theorem pOf_size {op : Int} {p : Int × Nat × ByteArray × Nat} (h : pOf op = some p) : p.2.2.1.size ≤ 2 ∧ p.1 = op ∧ 1 ≤ p.2.1 ∧ p.2.1 ≤ 5 := by
  have hm := List.mem_of_find?_eq_some h
  have hp := List.find?_some h
  have hp : p.1 = op := by simpa using hp
  unfold pairT at hm
  simp only [List.mem_cons, List.not_mem_nil, or_false] at hm
  rcases hm with rfl | rfl | rfl | rfl | rfl | rfl | rfl | rfl | rfl <;> exact ⟨by decide, hp, by decide, by decide⟩
theorem digits_len {u : Nat} (h : u ≤ 9223372036854775808) : (Lib.decDigits u).length ≤ 20 := by
  have := decZ_len h
  unfold decZ at this
  split at this
  · rename_i h0
    subst h0
    rw [Lib.decDigits_one (by decide)]
    simp
  · exact this
theorem dS_size {n : Int} (h0 : -9223372036854775808 ≤ n) (h1 : n ≤ 9223372036854775807) : (dS n).size ≤ 21 := by
  unfold dS
  show (Lib.itoa n).toArray.size ≤ 21
  rw [List.size_toArray]
  unfold Lib.itoa
  split
  · have := digits_len (u := n.natAbs) (by omega)
    rw [List.length_cons]
    omega
  · have := digits_len (u := n.toNat) (by omega)
    omega
/-- The names that nodes tell are short, their numbers are ints. -/
def Short (N : Nm) (x : Ex) : Prop := ∀ nd ∈ x.flat, (nameB N nd).size ≤ 16 ∧ -9223372036854775808 ≤ nd.2 ∧ nd.2 ≤ 9223372036854775807
theorem txt_size {N : Nm} : ∀ {x : Ex}, Short N x → (txt N x).size ≤ 100 * x.count
  | .lf nd, h => by
    obtain ⟨h1, h2, h3⟩ := h nd (by simp [Ex.flat])
    have d1 := dS_size h2 h3
    have d2 := dS_size (n := nd.2 % 16) (by omega) (by omega)
    unfold txt lfT
    simp only [Ex.count]
    repeat' split
    · omega
    · omega
    · show 4 ≤ _; omega
    · rw [size_app, brB_size]; show 3 + _ ≤ _; omega
    · rw [size_app, brB_size, size_app, size_app]; show 2 + (_ + 2 + _ + 2) ≤ _; omega
    · rw [size_app, brB_size]; show 4 + _ ≤ _; omega
  | .un nd a, h => by
    have ih := txt_size (x := a) (fun nd hn => h nd (by simp only [Ex.flat, List.mem_append]; exact .inl hn))
    obtain ⟨h1, h2, h3⟩ := h nd (by simp [Ex.flat])
    have b1 := bndT_size a.root 6 (txt N a)
    unfold txt unT
    simp only [Ex.count]
    repeat' split
    · rw [size_app, size_app, size_app]; show _ + 1 + _ + 1 ≤ _; omega
    · rw [size_app]; show 1 + _ ≤ _; omega
    · rw [size_app, brB_size]; show 1 + _ ≤ _; omega
    · rw [size_app]; show 1 + _ ≤ _; omega
  | .bi nd a b, h => by
    have ih1 := txt_size (x := a) (fun nd hn => h nd (by simp only [Ex.flat, List.mem_append]; exact .inl (.inl hn)))
    have ih2 := txt_size (x := b) (fun nd hn => h nd (by simp only [Ex.flat, List.mem_append]; exact .inl (.inr hn)))
    unfold txt biT
    simp only [Ex.count]
    split
    · show 0 ≤ _; omega
    · rename_i p hp
      have := pOf_size hp
      have b1 := bndT_size a.root (if p.2.1 = 3 then 4 else p.2.1) (txt N a)
      have b2 := bndT_size b.root (p.2.1 + 1) (txt N b)
      rw [size_app, size_app, size_app, size_app]
      show _ + 1 + _ + 1 + _ ≤ _
      omega
end Go.Proofs.YtmnigdphikoljaaGreatDoor.et
namespace Go.Proofs.YtmnigdphikoljaaGreatDoor.et
open Go.ChangeShapes Go.WideShapes Go.ChangeAt Go.RowKit Go.Deep

def pvC (o : Option (Int × Nat × ByteArray × Nat)) : Array Value := match o with
  | none => #[.int .i64 0, .int .i64 0, .string ⟨#[]⟩, .nilFunc]
  | some p => #[.int .i64 p.1, .int .i64 (p.2.1 : Nat), .string p.2.2.1, .func (.func p.2.2.2) #[] #[]]
def PB (w : World) (g : Nat) (o : Option (Int × Nat × ByteArray × Nat)) : Prop := w.heap[g]? = some (.cells (pvC o) 139 (0, 0))
theorem PB.lt {w : World} {g : Nat} {o : Option (Int × Nat × ByteArray × Nat)} (h : PB w g o) : g < w.heap.size := (Array.getElem?_eq_some_iff.1 h).1
theorem PB.keep {w w' : World} {g : Nat} {o : Option (Int × Nat × ByteArray × Nat)} (h : PB w g o) (k : Below w.heap.size w w') : PB w' g o := (k.block _ h.lt).trans h
theorem PB.fz {w : World} {g : Nat} {o : Option (Int × Nat × ByteArray × Nat)} (h : PB w g o) (i : Nat) : w.frozen? ⟨g, i, none⟩ = false := by unfold PB at h; simp [World.frozen?, h]
theorem PB.put {w : World} {g : Nat} {o : Option (Int × Nat × ByteArray × Nat)} (h : PB w g o) (v0 v1 v2 v3 : Value) : ((((w.setCell ⟨g, 0, none⟩ v0).setCell ⟨g, 1, none⟩ v1).setCell ⟨g, 2, none⟩ v2).setCell ⟨g, 3, none⟩ v3).heap[g]? = some (.cells #[v0, v1, v2, v3] 139 (0, 0)) := by
  unfold PB at h
  cases o <;> simp [World.setCell, Array.getElem?_modify, h, pvC]
theorem below4 {B : Nat} {a w : World} (h : Below B a w) (z : Nat) (hz : B ≤ z) (v0 v1 v2 v3 : Value) : Below B a ((((w.setCell ⟨z, 0, none⟩ v0).setCell ⟨z, 1, none⟩ v1).setCell ⟨z, 2, none⟩ v2).setCell ⟨z, 3, none⟩ v3) := by
  have one : ∀ {w : World}, Below B a w → ∀ (i : Nat) (v : Value), Below B a (w.setCell ⟨z, i, none⟩ v) := fun h i v =>
    ⟨h.os, h.tape, h.output, by simpa [World.setCell] using h.size, fun k hk => (Below.heap_setCell _ ⟨z, i, none⟩ v k (by show k ≠ z; omega)).trans (h.block k hk)⟩
  exact one (one (one (one h 0 v0) 1 v1) 2 v2) 3 v3
def PairOfP (w : World) (o : Option (Int × Nat × ByteArray × Nat)) (e : Ending) (w' : World) : Prop := e = .returned (.tuple #[.agg (pvC o), .bool o.isSome]) ∧ Below w.heap.size w w'
theorem find_pair {op : Int} {o : Option (Int × Nat × ByteArray × Nat)} {j : Nat} (hj : j < 9) (h : (pairT.drop j).find? (fun p => p.1 == op) = o) : if (pairT.getD j default).1 = op then o = some (pairT.getD j default) else (pairT.drop (j + 1)).find? (fun p => p.1 == op) = o := by
  rw [drop_at default (show j < pairT.length from hj), List.find?_cons] at h
  by_cases e : (pairT.getD j default).1 = op
  · rw [if_pos e]
    rw [show ((pairT.getD j default).1 == op) = true by simpa using e] at h
    exact h.symm
  · rw [if_neg e]
    rw [show ((pairT.getD j default).1 == op) = false by simpa using e] at h
    exact h
set_option maxRecDepth 20000 in
set_option maxHeartbeats 4000000 in
theorem pairOf_any (op : Int) (w : World) : Calls Tryz.prog 89 #[.int .i64 op] w (PairOfP w (pOf op)) := by
  obtain ⟨o, HO⟩ : ∃ o, Hid (pairT.find? (fun p => p.1 == op) = o) := ⟨_, Lib.hid rfl⟩
  have HE : Hid (pOf op = o) := Lib.hid HO.out
  rw [HE.out]
  go_enter Tryz.func89, Tryz.ntmps89
  go_wp2_with fail
  have HP1 : Hid (PB (w.alloc (.cells #[.int .i64 0, .int .i64 0, .string ⟨#[]⟩, .nilFunc] 139)) w.heap.size none) := Lib.hid (World.alloc_heap_new w _)
  have hb1 := below_alloc1 w (.cells #[.int .i64 0, .int .i64 0, .string ⟨#[]⟩, .nilFunc] 139)
  have hz1 : (w.alloc (.cells #[.int .i64 0, .int .i64 0, .string ⟨#[]⟩, .nilFunc] 139)).heap.size = w.heap.size + 1 := by simp
  generalize w.alloc (.cells #[.int .i64 0, .int .i64 0, .string ⟨#[]⟩, .nilFunc] 139) = w1 at *
  refine (pairs_any _).mono ?_
  rintro e w2 ⟨rfl, rfl⟩
  have HQ : Hid ((w1.alloc (.cells pairsC 139)).heap[w.heap.size + 1]? = some (.cells pairsC 139 (0, 0))) := Lib.hid (by rw [← hz1]; exact World.alloc_heap_new w1 _)
  have HP2 := Lib.hid (HP1.out.keep (below_alloc1 w1 (.cells pairsC 139)))
  have HB2 := Lib.hid (bthen hb1 (below_alloc1 w1 (.cells pairsC 139)))
  rw [hz1]
  have hz2 : (w1.alloc (.cells pairsC 139)).heap.size = w.heap.size + 2 := by simp [hz1]
  generalize w1.alloc (.cells pairsC 139) = w2 at *
  clear hb1 hz1 HP1
  generalize hbn : w.heap.size = b at *
  go_wp2
  go_loopw [8] (fun i wr => ∃ j : Nat, j ≤ 9 ∧ i = .int .i64 (j : Nat) ∧ Hid (Below w2.heap.size w2 wr) ∧ Hid ((pairT.drop j).find? (fun p => p.1 == op) = o)) (fun i _ => 9 - (intOf i).toNat)
  case atStart => exact ⟨0, Nat.zero_le _, rfl, Lib.hid (Below.refl _ _), HO⟩
  case round =>
    obtain ⟨j, hj, rfl, HB, HF⟩ := hrel
    have HPr : Hid (wr.heap[b + 1]? = some (.cells pairsC 139 (0, 0))) := Lib.hid ((HB.out.block _ (by omega)).trans HQ.out)
    have HPb := Lib.hid (HP2.out.keep HB.out)
    have hsr := HB.out.size
    by_cases hlt : j < 9
    · have hi9 : (j : Int) < 9 := by omega
      have p0 : wr.cell? ⟨b + 1, j * 4, none⟩ = _ := pairs_cell HPr.out hlt (i := 0) (by decide)
      have p1 := pairs_cell HPr.out hlt (i := 1) (by decide)
      have p2 := pairs_cell HPr.out hlt (i := 2) (by decide)
      have p3 := pairs_cell HPr.out hlt (i := 3) (by decide)
      have hF := find_pair hlt HF.out
      obtain ⟨⟨p, sr, sg, fn⟩, hp⟩ : ∃ x, pairT.getD j default = x := ⟨_, rfl⟩
      rw [hp] at p0 p1 p2 p3 hF
      replace p0 : wr.cell? ⟨b + 1, j * 4, none⟩ = some (.int .i64 p) := p0
      replace p1 : wr.cell? ⟨b + 1, j * 4 + 1, none⟩ = some (.int .i64 (sr : Nat)) := p1
      replace p2 : wr.cell? ⟨b + 1, j * 4 + 2, none⟩ = some (.string sg) := p2
      replace p3 : wr.cell? ⟨b + 1, j * 4 + 3, none⟩ = some (.func (.func fn) #[] #[]) := p3
      clear hp
      go_upto_region 4 with (fail)
      have hnew := World.alloc_heap_new wr (.cells #[.int .i64 p, .int .i64 (sr : Nat), .string sg, .func (.func fn) #[] #[]] 139)
      have hb7 := below_alloc1 wr (.cells #[.int .i64 p, .int .i64 (sr : Nat), .string sg, .func (.func fn) #[] #[]] 139)
      have HB7 := Lib.hid (HB.out.trans (hb7.mono hsr))
      have HP7 := Lib.hid (HPb.out.keep hb7)
      generalize hpb : wr.heap.size = pb at *
      generalize wr.alloc (.cells #[.int .i64 p, .int .i64 (sr : Nat), .string sg, .func (.func fn) #[] #[]] 139) = w7 at *
      have x0 : w7.cell? ⟨pb, 0, none⟩ = some (.int .i64 p) := cell_of_heap hnew rfl
      have x1 : w7.cell? ⟨pb, 1, none⟩ = some (.int .i64 (sr : Nat)) := cell_of_heap hnew rfl
      have x2 : w7.cell? ⟨pb, 2, none⟩ = some (.string sg) := cell_of_heap hnew rfl
      have x3 : w7.cell? ⟨pb, 3, none⟩ = some (.func (.func fn) #[] #[]) := cell_of_heap hnew rfl
      clear p0 p1 p2 p3 hnew hb7
      by_cases hop : p = op
      · rw [if_pos hop] at hF
        have HF2 := Lib.hid hF
        subst hop
        clear hF
        have zf := HP7.out.fz
        have z0 : w7.cell? ⟨b, 0, none⟩ = some (.int .i64 0) := cell_of_heap HP7.out rfl
        have z1 : w7.cell? ⟨b, 1, none⟩ = some (.int .i64 0) := cell_of_heap HP7.out rfl
        have z2 : w7.cell? ⟨b, 2, none⟩ = some (.string ⟨#[]⟩) := cell_of_heap HP7.out rfl
        have z3 : w7.cell? ⟨b, 3, none⟩ = some .nilFunc := cell_of_heap HP7.out rfl
        go_wp2
        refine bodyPost_ret (v := .tuple #[.agg (pvC (some (p, sr, sg, fn))), .bool true]) ?_ rfl ⟨?_, ?_⟩
        · rw [results_cell_tmp Tryz.results89]
          simp [asAddr, run_loadVar_row (P := Tryz.prog) _ b 139 139 _ (0, 0) _ (HP7.out.put _ _ _ _) Tryz.underlying139 rfl (by kernel_rfl), Result.andThen, pvC]
        · rw [HF2.out]; rfl
        · rw [hbn]
          exact below4 (HB2.out.trans (HB7.out.mono (by omega))) b (Nat.le_refl _) _ _ _ _
      · rw [if_neg hop] at hF
        have HF2 := Lib.hid hF
        clear hF
        go_wp2
        go_roundw
        case rel => exact ⟨j + 1, by omega, by go_num, HB7, HF2⟩
        case measure => simp [intOf]; omega
    · obtain rfl : j = 9 := by omega
      have HN : Hid (o = none) := Lib.hid HF.out.symm
      have zf := HPb.out.fz
      have z0 : wr.cell? ⟨b, 0, none⟩ = some (.int .i64 0) := cell_of_heap HPb.out rfl
      have z1 : wr.cell? ⟨b, 1, none⟩ = some (.int .i64 0) := cell_of_heap HPb.out rfl
      have z2 : wr.cell? ⟨b, 2, none⟩ = some (.string ⟨#[]⟩) := cell_of_heap HPb.out rfl
      have z3 : wr.cell? ⟨b, 3, none⟩ = some .nilFunc := cell_of_heap HPb.out rfl
      go_wp2
      refine bodyPost_ret (v := .tuple #[.agg (pvC none), .bool false]) ?_ rfl ⟨?_, ?_⟩
      · rw [results_cell_tmp Tryz.results89]
        simp [asAddr, run_loadVar_row (P := Tryz.prog) _ b 139 139 _ (0, 0) _ (HPb.out.put _ _ _ _) Tryz.underlying139 rfl (by kernel_rfl), Result.andThen, pvC]
      · rw [HN.out]; rfl
      · rw [hbn]
        exact below4 (HB2.out.trans (HB.out.mono (by omega))) b (Nat.le_refl _) _ _ _ _
end Go.Proofs.YtmnigdphikoljaaGreatDoor.et
