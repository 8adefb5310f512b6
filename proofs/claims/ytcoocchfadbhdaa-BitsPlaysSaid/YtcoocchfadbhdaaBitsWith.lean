/- The document's Has and With; a slice of the law's calls that came in. -/
import Derived.Test.YtcoocchfadbhdaaBitsIs
import Derived.Deep.SlicePairs
namespace Go.Proofs.Ytcoocchfadbhdaa
open Go.ChangeShapes Go.WideShapes Go.ChangeAt Go.RowKit Go.Deep

/-- A slice of calls (a byte and an int) at address A (nil let in) reads as zs. -/
def QA (w : World) (A : Option Addr) (zs : List (Int × Int)) : Prop :=
  0 < zs.length → ∃ b off, A = some ⟨b, off, none⟩ ∧ b < w.heap.size ∧ ∀ i, i < zs.length → w.cell? ⟨b, off + i * 2, none⟩ = some (.int .u8 (zs.getD i (0, 0)).1) ∧ w.cell? ⟨b, off + i * 2 + 1, none⟩ = some (.int .i64 (zs.getD i (0, 0)).2)
/-- The number of a value. -/
def numV : Value → Int
  | .int _ z => z
  | _ => 0
set_option maxRecDepth 100000 in
theorem open_ops_arg {H : Type} {enc : TypeId × Value → H} {W : World} {base : Nat} {v : Value} {d : DataW H} {ps : List MemPlace} {t e : TypeId} {f0 f1 : Field} (ht : Try.prog.underlying t = some (.slice e)) (he : Try.prog.underlying e = some (.struct #[f0, f1]))
    (ce : Try.prog.cellsOf e = 2) (be : Try.prog.bytesOf e = 16) (o0 : f0.offset = 0) (o1 : f1.offset = 1) (t0 : f0.type = 5) (t1 : f1.type = 3) (hv : Value.okWide Try.prog W .any base t v)
    (h : DataW.Trod enc Try.prog W 0 (fun _ => true) true t v d ps) {ts : List TypeId} {ds : List (DataW H)} (hsz : (DataW.weightsEach Try.prog ts ds).all (· ≤ reachBytes) = true) (j : Nat) (htj : ts[j]? = some t) (hdj : ds[j]? = some d) :
    ∃ (A : Option Addr) (c : Nat) (zs : List (Int × Int)), v = .slice A zs.length c ∧ 16 * zs.length ≤ 140737488355328 ∧ QA W A zs ∧ ∀ z ∈ zs, (Lit.int .u8 z.1).wf = true ∧ (Lit.int .i64 z.2).wf = true := by
  obtain ⟨a0, len, cap, rfl⟩ := okWide_slice ht hv
  obtain ⟨fuel, hf⟩ := h
  rcases open_slice_pairs ht he ce o0 o1 (by rw [t0]; exact Try.cells5) (by rw [t1]; exact Try.cells3) hf with ⟨hcs, hx⟩ | ⟨a, len', cap', m, n, V0, V1, D0, D1, P0, P1, hcs, _, hl, hm, hmm, hx, hcell⟩
  · simp [Value.cells] at hcs
    obtain ⟨rfl, rfl, rfl⟩ := hcs
    exact ⟨none, 0, [], rfl, by simp, fun h => absurd h (by simp), fun z hz => by simp at hz⟩
  · simp [Value.cells] at hcs
    obtain ⟨rfl, rfl, rfl⟩ := hcs
    simp only [Prod.mk.injEq] at hx
    obtain ⟨rfl, rfl⟩ := hx
    simp only [if_true] at hmm
    subst hmm
    have hs := sized_slice hsz htj hdj ht
    rw [be] at hs
    have hrb := reachBytes_lt
    simp only [List.length_map, List.length_range] at hs
    have hval : ∀ i, i < len → V0 i = .int .u8 (numV (V0 i)) ∧ V1 i = .int .i64 (numV (V1 i)) ∧ (Lit.int .u8 (numV (V0 i))).wf = true ∧ (Lit.int .i64 (numV (V1 i))).wf = true := fun i hi => by
      obtain ⟨_, _, g0, g1⟩ := hcell i (by omega)
      rw [t0] at g0
      rw [t1] at g1
      obtain ⟨z0, e0, _, w0⟩ := DataW.trod_int Try.underlying5 g0
      obtain ⟨z1, e1, _, w1⟩ := DataW.trod_int Try.underlying3 g1
      injection e0 with e0
      injection e1 with e1
      rw [e0, e1]
      exact ⟨rfl, rfl, w0, w1⟩
    refine ⟨some a, m, (List.range len).map fun i => (numV (V0 i), numV (V1 i)), by simp, by simp; omega, ?_, ?_⟩
    · intro h0
      simp only [List.length_map, List.length_range] at h0
      obtain ⟨b, off, spot⟩ := a
      have g0 := (hcell 0 (by omega)).1
      have hspot : spot = none := by simpa [Addr.add] using World.cell?_spot g0
      subst hspot
      refine ⟨b, off, rfl, ?_, fun i hi => ?_⟩
      · rw [add_plain] at g0
        rcases Nat.lt_or_ge b W.heap.size with hlt | hge
        · exact hlt
        · simp [World.cell?, Array.getElem?_eq_none hge] at g0
      · simp only [List.length_map, List.length_range] at hi
        obtain ⟨g1, g2, _, _⟩ := hcell i (by omega)
        obtain ⟨e1, e2, _, _⟩ := hval i hi
        rw [add_plain] at g1 g2
        rw [show off + i * 2 + 1 = off + (i * 2 + 1) by omega, g1, g2, e1, e2]
        simp [List.getD, hi, numV]
    · intro z hz
      obtain ⟨i, hi, rfl⟩ := List.mem_map.1 hz
      have hi2 := List.mem_range.1 hi
      obtain ⟨_, _, w0, w1⟩ := hval i hi2
      exact ⟨w0, w1⟩

theorem memI_no {g : Nat → Bool} {n : Nat} (hoff : ∀ i, n ≤ i → g i = false) {z : Int} (h : z < 0 ∨ (n : Int) ≤ z) : memI g z = false := by
  unfold memI
  by_cases h2 : 0 ≤ z
  · rw [hoff z.toNat (by omega), Bool.and_false]
  · simp [h2]
set_option maxHeartbeats 1000000 in
theorem refHas_any {A : Option Addr} {n c : Nat} {g : Nat → Bool} {w : World} (hA : GA w A n g) (hoff : ∀ i, n ≤ i → g i = false) (hn : n ≤ 300) (z : Int) :
    Calls Try.prog 19 #[.slice A n c, .int .i64 z] w fun e w' => e = .returned (.bool (memI g z)) ∧ w' = w := by
  have HA := Lib.hid hA
  clear hA
  by_cases h1 : z < 0
  · have HE := Lib.hid (memI_no hoff (.inl h1))
    clear hoff
    go_enter Try.func19, Try.ntmps19
    go_wp2
    go_ret
    exact ⟨ret_bool (by first | exact HE.out.symm | (rw [HE.out]; simp; omega)), rfl⟩
  · by_cases h2 : (n : Int) ≤ z
    · have HE := Lib.hid (memI_no hoff (.inr h2))
      clear hoff
      go_enter Try.func19, Try.ntmps19
      go_wp2
      go_ret
      exact ⟨ret_bool (by first | exact HE.out.symm | (rw [HE.out]; simp; omega)), rfl⟩
    · obtain ⟨k, rfl⟩ := Int.eq_ofNat_of_zero_le (show 0 ≤ z by omega)
      have hk : k < n := by omega
      have HE := Lib.hid (memI_nat g k)
      obtain ⟨b, o, rfl, hb, hc⟩ := HA.out (by omega)
      have c1 := hc k hk
      clear hoff hc h1 h2
      go_enter Try.func19, Try.ntmps19
      go_wp2
      go_ret
      exact ⟨ret_bool HE.out.symm, rfl⟩

/-- What With makes of a set, and whether it changes. -/
def newOf (g : Nat → Bool) (n : Nat) (z : Int) (b : Bool) : Nat → Bool := if b = true then putG g n z else dropG g n z
def doneOf (g : Nat → Bool) (n : Nat) (z : Int) (b : Bool) : Bool := decide (0 ≤ z ∧ z < n) && (memI g z != b)
/-- What With leaves. -/
def WithOf (w : World) (A : Option Addr) (n : Nat) (g : Nat → Bool) (z : Int) (b : Bool) (e : Ending) (w' : World) : Prop :=
  ∃ A' c', e = .returned (.tuple #[.slice A' n c', .bool (doneOf g n z b)]) ∧ GA w' A' n (newOf g n z b) ∧ (∀ a, A' = some a → A = some a ∨ w.heap.size ≤ a.block) ∧ Below w.heap.size w w'
theorem newOf_out {g : Nat → Bool} {n : Nat} {z : Int} {b : Bool} (h : ¬ (0 ≤ z ∧ z < n)) : newOf g n z b = g ∧ doneOf g n z b = false := by
  unfold newOf doneOf putG dropG
  rw [if_neg h, if_neg h, decide_eq_false h]
  simp
theorem newOf_at {g : Nat → Bool} {n k : Nat} {b : Bool} (hk : k < n) : newOf g n (k : Int) b = upd g k b ∧ doneOf g n (k : Int) b = (g k != b) := by
  have hz : 0 ≤ (k : Int) ∧ (k : Int) < (n : Int) := by omega
  refine ⟨?_, ?_⟩
  · unfold newOf
    cases b
    · rw [if_neg (by simp)]; unfold dropG; rw [if_pos hz, Int.toNat_natCast]
    · rw [if_pos rfl]; unfold putG; rw [if_pos hz, Int.toNat_natCast]
  · unfold doneOf
    rw [memI_nat, decide_eq_true hz, Bool.true_and]
theorem newOf_same {g : Nat → Bool} {n k : Nat} {b : Bool} (hk : k < n) (h : g k = b) : newOf g n (k : Int) b = g ∧ doneOf g n (k : Int) b = false := by
  obtain ⟨h1, h2⟩ := newOf_at (g := g) (b := b) hk
  exact ⟨by rw [h1, upd_same h], by rw [h2, h]; simp⟩
theorem newOf_other {g : Nat → Bool} {n k : Nat} {b : Bool} (hk : k < n) (h : g k ≠ b) : newOf g n (k : Int) b = upd g k b ∧ doneOf g n (k : Int) b = true := by
  obtain ⟨h1, h2⟩ := newOf_at (g := g) (b := b) hk
  exact ⟨h1, by rw [h2]; simpa using h⟩

set_option maxHeartbeats 2000000 in
theorem refWith_any {A : Option Addr} {n c : Nat} {g : Nat → Bool} {w : World} (hA : GA w A n g) (hn : n ≤ 300) (z : Int) (b : Bool) :
    Calls Try.prog 20 #[.slice A n c, .int .i64 z, .bool b] w (WithOf w A n g z b) := by
  have HA := Lib.hid hA
  clear hA
  by_cases h1 : z < 0
  · have HE := Lib.hid (newOf_out (g := g) (n := n) (b := b) (show ¬ (0 ≤ z ∧ z < n) by omega))
    go_enter Try.func20, Try.ntmps20
    go_wp2
    go_ret2
    exact ⟨A, c, by rw [HE.out.2]; rfl, by rw [HE.out.1]; exact HA.out, fun a e => .inl e, Below.refl _ _⟩
  · by_cases h2 : (n : Int) ≤ z
    · have HE := Lib.hid (newOf_out (g := g) (n := n) (b := b) (show ¬ (0 ≤ z ∧ z < n) by omega))
      go_enter Try.func20, Try.ntmps20
      go_wp2
      go_ret2
      exact ⟨A, c, by rw [HE.out.2]; rfl, by rw [HE.out.1]; exact HA.out, fun a e => .inl e, Below.refl _ _⟩
    · obtain ⟨k, rfl⟩ := Int.eq_ofNat_of_zero_le (show 0 ≤ z by omega)
      have hk : k < n := by omega
      obtain ⟨bA, o, rfl, hb, hc⟩ := HA.out (by omega)
      have c1 := hc k hk
      clear h1 h2
      by_cases hg : g k = b
      · have HE := Lib.hid (newOf_same hk hg)
        rw [hg] at c1
        have hbb : (b == b) = true := by simp
        clear hg hc
        go_enter Try.func20, Try.ntmps20
        go_wp2
        go_ret2
        exact ⟨_, c, by rw [HE.out.2]; rfl, by rw [HE.out.1]; exact HA.out, fun a e => .inl e, Below.refl _ _⟩
      · have HE := Lib.hid (newOf_other hk hg)
        obtain ⟨i0, hi, hz0, hz1, hz2⟩ := info_parts Try.info4'
        have HC := Lib.hid hc
        have hbb : (g k == b) = false := by simpa using hg
        have HO : Hid ((w.alloc (.cells #[] 4)).ownsRow w.heap.size 4 1 (.slice (some ⟨w.heap.size, 0, none⟩) 0 0) 0 []) := Lib.hid ⟨rfl, .inr ⟨w.heap.size, 0, #[], rfl, Nat.le_refl _, World.alloc_heap_new w _, Nat.le_refl _, Nat.zero_le _, rfl, rfl⟩⟩
        have HNEW : Hid (∀ (j : Nat) (u : Value), ((List.range n).map fun i => Value.bool (g i))[j]? = some u → (w.alloc (.cells #[] 4)).cell? ((⟨bA, o, none⟩ : Addr).add j) = some u) := Lib.hid (fun j u hu => by
          rw [List.getElem?_map] at hu
          cases e : (List.range n)[j]? with
          | none => rw [e] at hu; cases hu
          | some q =>
            rw [e] at hu
            injection hu with hu
            obtain ⟨hj, e2⟩ := List.getElem?_eq_some_iff.1 e
            simp at hj e2
            subst e2 hu
            rw [add_plain, (((Below.refl _ w).alloc (Nat.le_refl _) _).cell (p := ⟨bA, o + j, none⟩) hb)]
            exact HC.out j hj)
        generalize g k = gk at c1 hbb hg
        clear hc
        go_enter Try.func20, Try.ntmps20
        go_wp2_with (at_builtin; refine wpList_append_own_at _ rfl (.tmp 26) (.tmp 27) 25 rfl w.heap.size 4 i0 (.bool false) 1 1 Try.underlying25 hi hz0 hz1 hz2 rfl (by decide) (.slice (some ⟨w.heap.size, 0, none⟩) 0 0) 0 [] rfl HO.out ⟨bA, o, none⟩ n c ((List.range n).map fun i => Value.bool (g i)) rfl (by simp) HNEW.out (fun u hu => by obtain ⟨y, _, rfl⟩ := List.mem_map.1 hu; simp [Value.oneCell']) (by unfold maxLen; omega) (by omega) (by simp) ?_; intro v3 w3 ho3 hg3 _ hb3; rw [Nat.zero_add, List.nil_append] at ho3; obtain ⟨q, cap, rfl, hq1, hq2⟩ := World.ownsRow.form ho3 (by omega); have e1 := World.ownsRow.cellAt ho3 k (by omega); have e2 := World.ownsRow.frozenAt ho3 k; have HO3 := Lib.hid ho3; have HB3 : Hid (Below w.heap.size w w3) := Lib.hid (Below.grown ((Below.refl _ w).alloc (Nat.le_refl _) _) hg3 (by simp) (fun j ej => by simp [Value.ownBlock] at ej; omega)); clear ho3 hg3 hb3)
        go_ret2
        refine ⟨some ⟨q, 0, none⟩, cap, by rw [HE.out.2]; rfl, ?_, fun a e => .inr (by injection e with e; subst e; exact hq1), HB3.out.setCell (p := ⟨q, k, none⟩) hq1 _⟩
        rw [HE.out.1]
        refine fun _ => ⟨q, 0, rfl, by simpa using hq2, fun i hi => ?_⟩
        rw [Nat.zero_add]
        unfold upd
        by_cases hik : i = k
        · subst hik
          rw [if_pos rfl]
          exact World.cell?_setCell_same' _ _ _ (by rw [World.ownsRow.cellAt HO3.out i (by omega)]; simp [hi])
        · rw [if_neg hik, World.cell?_setCell_other _ _ _ _ (by intro e; injection e with _ e; exact hik e.symm), World.ownsRow.cellAt HO3.out i (by omega)]
          simp [hi]
end Go.Proofs.Ytcoocchfadbhdaa
