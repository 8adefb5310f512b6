/- Contracts that the claim stands on, several texts in one: LtxRefuse, LexScan, LexFirst, LexTok. -/
import Derived.Deep.Cut
import Derived.RangeFuncRecord
import Derived.Test.YtgnflnfajkoibaaDoorPut1
import Derived.Test.YtgnflnfajkoibaaDoorPut2
import Derived.Test.YtgnflnfajkoibaaDoorPut3
import Derived.Test.YtgnflnfajkoibaaDoorPut4
import Derived.Test.YtgnflnfajkoibaaDoorPut5
import Derived.Test.YtgnflnfajkoibaaDoorPut6
import Derived.Test.YtgnflnfajkoibaaDoorPut7
import Derived.Test.YtgnflnfajkoibaaDoorPut8
import Derived.Test.YtgnflnfajkoibaaDoorPut9
import Derived.Test.YtgnflnfajkoibaaDoorPut10
import Derived.Test.YtgnflnfajkoibaaDoorPut11
import Derived.Test.YtgnflnfajkoibaaDoorPut12
namespace Go.Proofs.YtgnflnfajkoibaaDoor.tx
open Go.ChangeShapes Go.WideShapes Go.ChangeAt Go.RowKit Go.Deep sr lt

/-- Why a formula can't go on at a token. -/
def rfF (pr : Option Nat) (k : Int) (s : List UInt8) : Int := if k = 0 then 4 else if k = 1 ∧ wrO s = none ∧ pr = none then 8 else 3
set_option maxRecDepth 20000 in
set_option maxHeartbeats 4000000 in
theorem refusal_any (rb : Nat) (NA : Option Addr) (n d : Nat) (N : List ByteArray) (k num pos : Int) (s : ByteArray) (w : World) (h : w.cell? ⟨rb, 0, none⟩ = some (.slice NA n d)) (hrb : rb < w.heap.size) (hN : NmS w NA n d N) (hO : OpsW w) :
    Calls Tryd.prog 38 #[.pointer (some ⟨rb, 0, none⟩), tkV k num pos s] w fun e w' => e = .returned (.int .i64 (rfF (prO N s) k s.data.toList)) ∧ Below w.heap.size w w' := by
  obtain ⟨pr, HPR⟩ : ∃ pr, Hid (prO N s = pr) := ⟨_, Lib.hid rfl⟩
  rw [HPR.out]
  obtain ⟨z, HZ⟩ : ∃ z, Hid (rfF pr k s.data.toList = z) := ⟨_, Lib.hid rfl⟩
  rw [HZ.out]
  have H := Lib.hid h
  have HRB := Lib.hid hrb
  have HN := Lib.hid hN
  have HO := Lib.hid hO
  obtain ⟨r, HR⟩ : ∃ r, Hid (wrO s.data.toList = r) := ⟨_, Lib.hid rfl⟩
  clear h hrb hN hO
  unfold tkV
  go_enter Tryd.func38, Tryd.ntmps38
  go_wp2_with fail
  refine (written_any s _ (HO.out.keep (below_one _ _))).mono ?_
  rw [HR.out]
  rintro e w2 ⟨rfl, hb2⟩
  obtain ⟨o, HOO⟩ : ∃ o, Hid (r.getD brO = o) := ⟨_, Lib.hid rfl⟩
  obtain ⟨q, HQ⟩ : ∃ q, Hid (r.isSome = q) := ⟨_, Lib.hid rfl⟩
  rw [HOO.out, HQ.out]
  unfold oV
  have ht2 : w2.heap[w.heap.size]? = some (tkC k num pos s) := (hb2.block _ (by simp)).trans (World.alloc_heap_new _ _)
  have hb20 : Below w.heap.size w w2 := (below_one w _).trans (hb2.mono (by simp))
  obtain ⟨w3, HW3⟩ : ∃ w3, w3 = w2.alloc (.cells #[.int .i64 o.op, .string (sgA o), .int .i64 o.bd, .int .i64 o.lf, .int .i64 o.rt] 58) := ⟨_, rfl⟩
  have hb23 : Below w2.heap.size w2 w3 := by rw [HW3]; exact below_one _ _
  have hb3 : Below w.heap.size w w3 := hb20.trans (hb23.mono hb20.size)
  have htz : w.heap.size < w2.heap.size := Nat.lt_of_lt_of_le (by simp) hb2.size
  have ht3 : w3.heap[w.heap.size]? = some (tkC k num pos s) := (hb23.block _ htz).trans ht2
  have HT3 := Lib.hid ht3
  have HTZ : Hid (w.heap.size < w3.heap.size) := Lib.hid (Nat.lt_of_lt_of_le htz hb23.size)
  have HB3 := Lib.hid hb3
  have t0 : w3.cell? ⟨w.heap.size, 0, none⟩ = some (.int .i64 k) := cell_of ht3 0
  have t3 : w3.cell? ⟨w.heap.size, 3, none⟩ = some (.string s) := cell_of ht3 3
  have c0 : w3.cell? ⟨rb, 0, none⟩ = some (.slice NA n d) := (hb3.cell (p := ⟨rb, 0, none⟩) HRB.out).trans H.out
  have HPA : Hid (∀ W, Below w3.heap.size w3 W → Calls Tryd.prog 55 #[.slice NA n d, .string s] W (PrP pr W)) := Lib.hid (fun W hW => by rw [← HPR.out]; exact proposition_any NA n d N s W ((HN.out.below HB3.out).below hW) ((OpsW.keep HO.out HB3.out).keep hW))
  go_upto_region 2 with (fail)
  rw [← HW3]
  clear HW3 hb2 hb20 hb23 hb3 ht2 ht3 htz
  go_region_held3 (fun w' => w'.cell? ⟨w.heap.size, 3, none⟩ = some (.string s) ∧ w'.cell? ⟨rb, 0, none⟩ = some (.slice NA n d))
    (first | exact ⟨t3, c0⟩ | exact ⟨l3, l0⟩ | go_keep)
    ((go_at_call 55; refine (HPA.out _ (Below.refl _ w3).drew).mono ?_; rintro x w4 ⟨zz, rfl, hzi, hb4⟩; have HB4 : Hid (Below w3.heap.size w3 w4) := Lib.hid (RowKit.Below.trans (Below.refl _ w3).drew hb4); have l3 : w4.cell? ⟨w.heap.size, 3, none⟩ = some (.string s) := (HB4.out.cell (p := ⟨w.heap.size, 3, none⟩) HTZ.out).trans t3; have l0 : w4.cell? ⟨rb, 0, none⟩ = some (.slice NA n d) := (HB4.out.cell (p := ⟨rb, 0, none⟩) (Nat.lt_of_lt_of_le HRB.out HB3.out.size)).trans c0; clear hb4 hzi))
  have m0 : w4.cell? ⟨w.heap.size, 0, none⟩ = some (.int .i64 k) := (HB4.out.cell (p := ⟨w.heap.size, 0, none⟩) HTZ.out).trans t0
  have HEND : Hid (Below w.heap.size w w4) := Lib.hid (HB3.out.trans (HB4.out.mono HB3.out.size))
  clear t0 t3 c0
  obtain ⟨q2, HQ2⟩ : ∃ q, Hid (pr.isSome = q) := ⟨_, Lib.hid rfl⟩
  rw [HQ2.out]
  by_cases hk : k = 0
  · have HV : Hid (z = 4) := Lib.hid (by rw [← HZ.out]; exact if_pos hk)
    subst hk
    go_wp2
    go_ret
    exact ⟨by rw [HV.out]; rfl, HEND.out⟩
  · have hkb : (k == 0) = false := by rw [beq_eq_false_iff_ne]; exact hk
    by_cases hk1 : k = 1
    · have HV : Hid (z = if q = false ∧ q2 = false then 8 else 3) := Lib.hid (by
        rw [← HZ.out, ← HQ.out, ← HQ2.out]
        unfold rfF
        rw [if_neg hk, HR.out]
        cases r <;> cases pr <;> simp [hk1])
      subst hk1
      cases q <;> cases q2
      all_goals
        go_wp2
        go_ret
        exact ⟨by rw [HV.out]; rfl, HEND.out⟩
    · have HV : Hid (z = 3) := Lib.hid (by
        rw [← HZ.out]
        unfold rfF
        rw [if_neg hk, if_neg (fun e => hk1 e.1)])
      have hkb1 : (k == 1) = false := by rw [beq_eq_false_iff_ne]; exact hk1
      go_wp2
      go_ret
      exact ⟨by rw [HV.out]; rfl, HEND.out⟩
end Go.Proofs.YtgnflnfajkoibaaDoor.tx
namespace Go.Proofs.YtgnflnfajkoibaaDoor.lx
open Go.ChangeShapes Go.WideShapes Go.ChangeAt Go.RowKit Go.Deep

/-- A token. -/
structure Tok where
  kind : Nat
  num : Int
  pos : Nat
  text : ByteArray
/-- The token that a text begins with: its kind, number, bytes; or why there is none; nm: what the digits are worth, and whether they are worth anything. -/
def firstP (nm : List UInt8 → Int × Bool) (s : ByteArray) : Except Nat (Nat × Int × Nat) :=
  if 16 < wordN s then .error 6 else if 0 < wordN s then .ok (1, 0, wordN s)
  else if 0 < digN s then (if (nm (s.extract 0 (digN s)).data.toList).2 = true then .ok (2, (nm (s.extract 0 (digN s)).data.toList).1, digN s) else .error 10)
  else if 0 < signN s then .ok (3, 0, signN s) else .error 13
def blankB (b : Nat) : Bool := b == 32 || b == 10
def lineE (s : ByteArray) (a : Nat) : Nat := runE (fun b => !decide (b = 10)) s s.size a
/-- What is told of a text: the tokens, a place, an error's number. -/
abbrev Res := List Tok × Nat × Nat
/-- From a place on, with these tokens met, this is told. -/
inductive Sc (nm : List UInt8 → Int × Bool) (s : ByteArray) : Nat → List Tok → Res → Prop
  | done {a : Nat} {l : List Tok} (h : s.size ≤ a) : Sc nm s a l (l, 0, 0)
  | blank {a : Nat} {l : List Tok} {r : Res} (h : a < s.size) (hb : blankB (bt s a) = true) (hh : Sc nm s (a + 1) l r) : Sc nm s a l r
  | remark {a : Nat} {l : List Tok} {r : Res} (h : a < s.size) (hb : bt s a = 35) (hh : Sc nm s (lineE s a) l r) : Sc nm s a l r
  | many {a : Nat} {l : List Tok} (h : a < s.size) (hb : blankB (bt s a) = false) (hr : bt s a ≠ 35) (hl : l.length = 6000) : Sc nm s a l ([], a, 11)
  | wrong {a : Nat} {l : List Tok} {why : Nat} (h : a < s.size) (hb : blankB (bt s a) = false) (hr : bt s a ≠ 35) (hl : l.length ≠ 6000) (hf : firstP nm (tailS s a) = .error why) : Sc nm s a l ([], a, why)
  | token {a : Nat} {l : List Tok} {k : Nat} {n : Int} {m : Nat} {r : Res} (h : a < s.size) (hb : blankB (bt s a) = false) (hr : bt s a ≠ 35) (hl : l.length ≠ 6000) (hf : firstP nm (tailS s a) = .ok (k, n, m)) (hh : Sc nm s (a + m) (l ++ [⟨k, n, a, s.extract a (a + m)⟩]) r) : Sc nm s a l r
theorem not_blank35 {b : Nat} (h : blankB b = true) : b ≠ 35 := fun e => by subst e; revert h; decide
/-- One thing is told. -/
theorem Sc.one {nm : List UInt8 → Int × Bool} {s : ByteArray} {a : Nat} {l : List Tok} {r r' : Res} (h : Sc nm s a l r) : Sc nm s a l r' → r = r' := by
  induction h with
  | done h1 => intro k; cases k with
    | done => rfl
    | blank h => omega
    | remark h => omega
    | many h => omega
    | wrong h => omega
    | token h => omega
  | blank h1 hb _ ih => intro k; cases k with
    | done => omega
    | blank _ _ hh => exact ih hh
    | remark _ h => exact absurd h (not_blank35 hb)
    | many _ h => rw [hb] at h; cases h
    | wrong _ h => rw [hb] at h; cases h
    | token _ h => rw [hb] at h; cases h
  | remark h1 hb _ ih => intro k; cases k with
    | done => omega
    | blank _ h => exact absurd hb (not_blank35 h)
    | remark _ _ hh => exact ih hh
    | many _ _ h => exact absurd hb h
    | wrong _ _ h => exact absurd hb h
    | token _ _ h => exact absurd hb h
  | many h1 hb hr hl => intro k; cases k with
    | done => omega
    | blank _ h => rw [hb] at h; cases h
    | remark _ h => exact absurd h hr
    | many => rfl
    | wrong _ _ _ h => exact absurd hl h
    | token _ _ _ h => exact absurd hl h
  | wrong h1 hb hr hl hf => intro k; cases k with
    | done => omega
    | blank _ h => rw [hb] at h; cases h
    | remark _ h => exact absurd h hr
    | many _ _ _ h => exact absurd h hl
    | wrong _ _ _ _ h => rw [hf] at h; cases h; rfl
    | token _ _ _ _ h => rw [hf] at h; cases h
  | token h1 hb hr hl hf _ ih => intro k; cases k with
    | done => omega
    | blank _ h => rw [hb] at h; cases h
    | remark _ h => exact absurd h hr
    | many _ _ _ h => exact absurd h hl
    | wrong _ _ _ _ h => rw [hf] at h; cases h
    | token _ _ _ _ h hh => rw [hf] at h; cases h; exact ih hh
theorem wB_low {b : Nat} (h : wB b = true) : b < 128 := by
  rcases Nat.lt_or_ge b 128 with h1 | h1
  · exact h1
  · unfold wB at h
    rw [letB_high h1, digB_high h1, decide_eq_false (show ¬ b = 95 by omega)] at h
    cases h
theorem twoB_low {a b : Nat} (h : twoB a b = true) : a < 128 ∧ b < 128 := by
  unfold twoB at h
  simp only [Bool.or_eq_true, Bool.and_eq_true, beq_iff_eq] at h
  omega
theorem oneB_low {a : Nat} (h : oneB a = true) : a < 128 := by
  unfold oneB at h
  simp only [Bool.or_eq_true, beq_iff_eq] at h
  omega
/-- A token has a byte or more, lies in the text, and has bytes of Ascii alone. -/
theorem first_ok {nm : List UInt8 → Int × Bool} {s : ByteArray} {a k m : Nat} {n : Int} (h : a < s.size) (hf : firstP nm (tailS s a) = .ok (k, n, m)) : 0 < m ∧ a + m ≤ s.size ∧ ∀ i, a ≤ i → i < a + m → bt s i < 128 := by
  have hw := wordN_eq s a h
  have hd := digN_eq s a h
  have hz : (tailS s a).size = s.size - a := tail_size
  unfold firstP at hf
  split at hf
  · cases hf
  · split at hf
    · rename_i h1 h2
      injection hf with hf
      injection hf with _ hf
      injection hf with _ hf
      subst hf
      by_cases hl : letB (bt s a) = true
      · rw [if_pos hl] at hw
        obtain ⟨_, g2, g3, _⟩ := runE_spec wB s s.size a (by omega) (by omega)
        rw [← hw] at g2 g3
        exact ⟨h2, g2, fun i e1 e2 => wB_low (g3 i e1 e2)⟩
      · rw [if_neg hl] at hw
        omega
    · split at hf
      · rename_i h1 h2 h3
        split at hf
        · injection hf with hf
          injection hf with _ hf
          injection hf with _ hf
          subst hf
          obtain ⟨_, g2, g3, _⟩ := runE_spec (fun b => digB b) s s.size a (by omega) (by omega)
          rw [← hd] at g2 g3
          refine ⟨h3, g2, fun i e1 e2 => ?_⟩
          rcases Nat.lt_or_ge (bt s i) 128 with h5 | h5
          · exact h5
          · have := g3 i e1 e2
            rw [show digB (bt s i) = false from digB_high h5] at this
            cases this
        · cases hf
      · split at hf
        · rename_i h1 h2 h3 h4
          injection hf with hf
          injection hf with _ hf
          injection hf with _ hf
          subst hf
          have hb0 : bt (tailS s a) 0 = bt s a := by rw [tail_bt (by omega)]; rfl
          unfold signN at h4 ⊢
          by_cases c2 : 1 < (tailS s a).size ∧ twoB (bt (tailS s a) 0) (bt (tailS s a) 1) = true
          · rw [if_pos c2]
            obtain ⟨l0, l1⟩ := twoB_low c2.2
            have hb1 : bt (tailS s a) 1 = bt s (a + 1) := tail_bt (by omega)
            rw [hb0] at l0
            rw [hb1] at l1
            refine ⟨by omega, by omega, fun i e1 e2 => ?_⟩
            obtain rfl | rfl : i = a ∨ i = a + 1 := by omega
            · exact l0
            · exact l1
          · rw [if_neg c2] at h4 ⊢
            by_cases c1 : 0 < (tailS s a).size ∧ oneB (bt (tailS s a) 0) = true
            · rw [if_pos c1]
              have l0 := oneB_low c1.2
              rw [hb0] at l0
              refine ⟨by omega, by omega, fun i e1 e2 => ?_⟩
              obtain rfl : i = a := by omega
              exact l0
            · rw [if_neg c1] at h4
              omega
        · cases hf
/-- The runes come to the end of a token, of a remark. -/
theorem token_hits {nm : List UInt8 → Int × Bool} {s : ByteArray} {a k m : Nat} {n : Int} (h : a < s.size) (hf : firstP nm (tailS s a) = .ok (k, n, m)) : Hits s a (a + m) := by
  obtain ⟨_, h2, h3⟩ := first_ok h hf
  exact hits_all s m a (a + m) rfl h2 h3
theorem remark_hits {s : ByteArray} {a : Nat} (h : a < s.size) : Hits s a (lineE s a) ∧ lineE s a ≤ s.size := by
  obtain ⟨g1, g2, g3, g4⟩ := runE_spec (fun b => !decide (b = 10)) s s.size a (by omega) (by omega)
  unfold lineE
  refine ⟨hits_low s s.size a _ (by omega) g1 g2 (fun hlt => ?_), g2⟩
  have := g4 hlt
  simp at this
  omega
end Go.Proofs.YtgnflnfajkoibaaDoor.lx
namespace Go.Proofs.YtgnflnfajkoibaaDoor.lx
open Go.ChangeShapes Go.WideShapes Go.ChangeAt Go.RowKit Go.Deep

/-- What first tells. -/
def firstV (nm : List UInt8 → Int × Bool) (s : ByteArray) : Value :=
  match firstP nm s with
  | .error why => .tuple #[.agg #[.int .i64 0, .int .i64 0, .int .i64 0, .string ⟨#[]⟩], .int .i64 (why : Nat)]
  | .ok (k, n, m) => .tuple #[.agg #[.int .i64 (k : Nat), .int .i64 n, .int .i64 0, .string (s.extract 0 m)], .int .i64 0]
/-- What num.Number tells of texts. -/
def NumC (nm : List UInt8 → Int × Bool) (w : World) : Prop := ∀ (t : ByteArray) (W : World), t.size ≤ 20000 → Below w.heap.size w W → Calls Tryd.prog 53 #[.string t] W fun e w' => e = .returned (.tuple #[.int .i64 (nm t.data.toList).1, .bool (nm t.data.toList).2]) ∧ Below W.heap.size W w'
/-- A token's cells that the call itself made. -/
def TZ (W : World) (b : Nat) : Prop := W.cell? ⟨b, 0, none⟩ = some (.int .i64 0) ∧ W.cell? ⟨b, 1, none⟩ = some (.int .i64 0) ∧ W.cell? ⟨b, 2, none⟩ = some (.int .i64 0) ∧ W.cell? ⟨b, 3, none⟩ = some (.string ⟨#[]⟩) ∧ b < W.heap.size ∧ ∀ i, W.frozen? ⟨b, i, none⟩ = false
theorem TZ.below {W W' : World} {b : Nat} (h : TZ W b) (k : Below W.heap.size W W') : TZ W' b :=
  ⟨(k.cell (p := ⟨b, 0, none⟩) h.2.2.2.2.1).trans h.1, (k.cell (p := ⟨b, 1, none⟩) h.2.2.2.2.1).trans h.2.1, (k.cell (p := ⟨b, 2, none⟩) h.2.2.2.2.1).trans h.2.2.1, (k.cell (p := ⟨b, 3, none⟩) h.2.2.2.2.1).trans h.2.2.2.1, Nat.lt_of_lt_of_le h.2.2.2.2.1 k.size, fun i => (World.frozen?_of_block (k.block b h.2.2.2.2.1)).trans (h.2.2.2.2.2 i)⟩
theorem TZ.made (w : World) (t : TypeId) : TZ (w.alloc (.cells #[.int .i64 0, .int .i64 0, .int .i64 0, .string ⟨#[]⟩] t)) w.heap.size :=
  ⟨World.cell?_alloc_at _ _ _ _ (by simp), World.cell?_alloc_at _ _ _ _ (by simp), World.cell?_alloc_at _ _ _ _ (by simp), World.cell?_alloc_at _ _ _ _ (by simp), by simp, fun i => World.frozen?_alloc_at _ _ _ _ (by simp)⟩
theorem SgW.below {w W : World} (h : SgW w) (k : Below w.heap.size w W) : SgW W := fun i hi => (k.cell (p := ⟨1, i, none⟩) (World.block_lt_of_cell? _ _ (h i hi))).trans (h i hi)
theorem fv_word {nm : List UInt8 → Int × Bool} {s : ByteArray} (h : ¬ 16 < wordN s) (h0 : 0 < wordN s) : firstV nm s = .tuple #[.agg #[.int .i64 1, .int .i64 0, .int .i64 0, .string (s.extract 0 (wordN s))], .int .i64 0] := by
  unfold firstV firstP; rw [if_neg h, if_pos h0]; rfl
theorem fv_long {nm : List UInt8 → Int × Bool} {s : ByteArray} (h : 16 < wordN s) : firstV nm s = .tuple #[.agg #[.int .i64 0, .int .i64 0, .int .i64 0, .string ⟨#[]⟩], .int .i64 6] := by
  unfold firstV firstP; rw [if_pos h]; rfl
theorem fv_num {nm : List UInt8 → Int × Bool} {s : ByteArray} (h : wordN s = 0) (h0 : 0 < digN s) (hn : (nm (s.extract 0 (digN s)).data.toList).2 = true) : firstV nm s = .tuple #[.agg #[.int .i64 2, .int .i64 (nm (s.extract 0 (digN s)).data.toList).1, .int .i64 0, .string (s.extract 0 (digN s))], .int .i64 0] := by
  unfold firstV firstP; rw [if_neg (by omega), if_neg (by omega), if_pos h0, if_pos hn]; rfl
theorem fv_bad {nm : List UInt8 → Int × Bool} {s : ByteArray} (h : wordN s = 0) (h0 : 0 < digN s) (hn : (nm (s.extract 0 (digN s)).data.toList).2 = false) : firstV nm s = .tuple #[.agg #[.int .i64 0, .int .i64 0, .int .i64 0, .string ⟨#[]⟩], .int .i64 10] := by
  unfold firstV firstP; rw [if_neg (by omega), if_neg (by omega), if_pos h0, if_neg (by rw [hn]; decide)]; rfl
theorem fv_sign {nm : List UInt8 → Int × Bool} {s : ByteArray} (h : wordN s = 0) (h0 : digN s = 0) (h1 : 0 < signN s) : firstV nm s = .tuple #[.agg #[.int .i64 3, .int .i64 0, .int .i64 0, .string (s.extract 0 (signN s))], .int .i64 0] := by
  unfold firstV firstP; rw [if_neg (by omega), if_neg (by omega), if_neg (by omega), if_pos h1]; rfl
theorem fv_none {nm : List UInt8 → Int × Bool} {s : ByteArray} (h : wordN s = 0) (h0 : digN s = 0) (h1 : signN s = 0) : firstV nm s = .tuple #[.agg #[.int .i64 0, .int .i64 0, .int .i64 0, .string ⟨#[]⟩], .int .i64 13] := by
  unfold firstV firstP; rw [if_neg (by omega), if_neg (by omega), if_neg (by omega), if_neg (by omega)]; rfl
theorem signN_le (s : ByteArray) : signN s ≤ s.size := by
  unfold signN
  split
  · omega
  · split <;> omega
set_option maxRecDepth 100000 in
set_option maxHeartbeats 4000000 in
theorem first_any (nm : List UInt8 → Int × Bool) (s : ByteArray) (w : World) (hz : s.size ≤ 20000) (hs : SgW w) (hn : NumC nm w) : Calls Tryd.prog 36 #[.string s] w fun e w' => e = .returned (firstV nm s) ∧ Below w.heap.size w w' := by
  obtain ⟨b, HB⟩ : ∃ b, Hid (b = w.heap.size) := ⟨_, Lib.hid rfl⟩
  obtain ⟨w1, HW1⟩ : ∃ w1, Hid (w1 = w.alloc (.cells #[.int .i64 0, .int .i64 0, .int .i64 0, .string ⟨#[]⟩] 72)) := ⟨_, Lib.hid rfl⟩
  have HT1 : Hid (TZ w1 b) := Lib.hid (by rw [HW1.out, HB.out]; exact TZ.made _ _)
  have HB1 : Hid (Below b w w1) := Lib.hid (by rw [HW1.out, HB.out]; exact (Below.refl _ _).alloc (Nat.le_refl _) _)
  have HNC : Hid (∀ (t : ByteArray) (W : World), t.size ≤ 20000 → Below b w W → Calls Tryd.prog 53 #[.string t] W fun e w' => e = .returned (.tuple #[.int .i64 (nm t.data.toList).1, .bool (nm t.data.toList).2]) ∧ Below W.heap.size W w') := Lib.hid (fun t W h1 h2 => hn t W h1 (by rw [HB.out] at h2; exact h2))
  have HSG : Hid (∀ W, Below b w W → SgW W) := Lib.hid (fun W h2 => hs.below (by rw [HB.out] at h2; exact h2))
  have hwl : wordN s ≤ s.size := stopF_le _ _ _ _
  have hdl : digN s ≤ s.size := stopF_le _ _ _ _
  have hsl : signN s ≤ s.size := signN_le s
  have HW := Lib.hid (word_any s w1)
  have HEX : Hid (∀ n, n ≤ s.size → (s.extract 0 n).size ≤ 20000) := Lib.hid (fun n hn => by rw [ByteArray.size_extract]; omega)
  clear hs hn
  rw [← HB.out]
  go_enter Tryd.func36, Tryd.ntmps36
  go_upto_region 1 with (fail)
  rw [← HW1.out, ← HB.out]
  go_wp2_with fail
  refine HW.out.mono ?_
  rintro e w2 ⟨rfl, hb2⟩
  have HT2 := Lib.hid (HT1.out.below hb2)
  have HB2 : Hid (Below b w w2) := Lib.hid (HB1.out.trans (hb2.mono (Nat.le_of_lt HT1.out.2.2.2.2.1)))
  clear hb2
  obtain ⟨n1, HN1⟩ : ∃ n, Hid (wordN s = n) := ⟨_, Lib.hid rfl⟩
  rw [show stopF okB s s.size 0 = n1 from HN1.out]
  rw [HN1.out] at hwl
  have hwl2 : (n1 : Int) ≤ (s.size : Int) := by omega
  by_cases h16 : 16 < n1
  · have HV := Lib.hid (fv_long (nm := nm) (s := s) (by rw [HN1.out]; exact h16))
    have g16 : (16 : Int) < (n1 : Int) := by omega
    have z0 := HT2.out.1
    have z1 := HT2.out.2.1
    have z2 := HT2.out.2.2.1
    have z3 := HT2.out.2.2.2.1
    have f0 := HT2.out.2.2.2.2.2 0
    have f1 := HT2.out.2.2.2.2.2 1
    have f2 := HT2.out.2.2.2.2.2 2
    have f3 := HT2.out.2.2.2.2.2 3
    go_wp2
    (try simp only [Exit.inBlock, Exit.then])
    refine bodyPost_ret (v := .tuple #[.agg #[.int .i64 0, .int .i64 0, .int .i64 0, .string ⟨#[]⟩], .int .i64 6]) ?_ rfl ⟨by rw [HV.out], ?_⟩
    · rw [results_cell_tmp rfl]; go_simp
    · (repeat' (first | exact HB2.out | exact Below.refl _ _ | refine Below.drew ?_ | refine Below.setCell ?_ (by first | exact Nat.le_refl _ | (simp <;> omega)) _))
  · have g16 : ¬ (16 : Int) < (n1 : Int) := by omega
    by_cases h0 : 0 < n1
    · have HV := Lib.hid (fv_word (nm := nm) (s := s) (by rw [HN1.out]; exact h16) (by rw [HN1.out]; exact h0))
      have g0 : (0 : Int) < (n1 : Int) := by omega
      rw [HN1.out] at HV
      go_wp2_with fail
      refine (clone_any (s.extract 0 n1) _ (by have := HEX.out n1 hwl; omega)).mono ?_
      rintro e w3 ⟨rfl, hb3⟩
      have HT3 := Lib.hid (HT2.out.below hb3)
      have HB3 : Hid (Below b w w3) := Lib.hid (HB2.out.trans (hb3.mono (Nat.le_of_lt HT2.out.2.2.2.2.1)))
      clear hb3
      generalize s.extract 0 n1 = q at HV ⊢
      have z0 := HT3.out.1
      have z1 := HT3.out.2.1
      have z2 := HT3.out.2.2.1
      have z3 := HT3.out.2.2.2.1
      have f0 := HT3.out.2.2.2.2.2 0
      have f1 := HT3.out.2.2.2.2.2 1
      have f2 := HT3.out.2.2.2.2.2 2
      have f3 := HT3.out.2.2.2.2.2 3
      go_wp2
      (try simp only [Exit.inBlock, Exit.then])
      refine bodyPost_ret (v := .tuple #[.agg #[.int .i64 1, .int .i64 0, .int .i64 0, .string q], .int .i64 0]) ?_ rfl ⟨by rw [HV.out], ?_⟩
      · rw [results_cell_tmp rfl]; go_simp
      · (repeat' (first | exact HB3.out | exact Below.refl _ _ | refine Below.drew ?_ | refine Below.setCell ?_ (by first | exact Nat.le_refl _ | (simp <;> omega)) _))
    · obtain rfl : n1 = 0 := by omega
      have HD := Lib.hid (digits_any s w2)
      go_wp2_with fail
      refine HD.out.mono ?_
      rintro e w3 ⟨rfl, hb3⟩
      have HT3 := Lib.hid (HT2.out.below hb3)
      have HB3 : Hid (Below b w w3) := Lib.hid (HB2.out.trans (hb3.mono (Nat.le_of_lt HT2.out.2.2.2.2.1)))
      clear hb3
      obtain ⟨n2, HN2⟩ : ∃ n, Hid (digN s = n) := ⟨_, Lib.hid rfl⟩
      rw [show stopF dgB s s.size 0 = n2 from HN2.out]
      rw [HN2.out] at hdl
      have hdl2 : (n2 : Int) ≤ (s.size : Int) := by omega
      by_cases h0 : 0 < n2
      · have g0 : (0 : Int) < (n2 : Int) := by omega
        have HNU := Lib.hid (HNC.out (s.extract 0 n2) w3 (HEX.out n2 hdl) HB3.out)
        cases hnb : (nm (s.extract 0 n2).data.toList).2 with
        | false =>
          have HV := Lib.hid (fv_bad (nm := nm) (s := s) HN1.out (by rw [HN2.out]; exact h0) (by rw [HN2.out]; exact hnb))
          have HNB := Lib.hid hnb
          clear hnb
          go_wp2_with fail
          refine HNU.out.mono ?_
          rw [HNB.out]
          rintro e w4 ⟨rfl, hb4⟩
          have HT4 := Lib.hid (HT3.out.below hb4)
          have HB4 : Hid (Below b w w4) := Lib.hid (HB3.out.trans (hb4.mono (Nat.le_of_lt HT3.out.2.2.2.2.1)))
          clear hb4
          generalize (nm (s.extract 0 n2).data.toList).1 = v0
          have z0 := HT4.out.1
          have z1 := HT4.out.2.1
          have z2 := HT4.out.2.2.1
          have z3 := HT4.out.2.2.2.1
          have f0 := HT4.out.2.2.2.2.2 0
          have f1 := HT4.out.2.2.2.2.2 1
          have f2 := HT4.out.2.2.2.2.2 2
          have f3 := HT4.out.2.2.2.2.2 3
          go_wp2
          (try simp only [Exit.inBlock, Exit.then])
          refine bodyPost_ret (v := .tuple #[.agg #[.int .i64 0, .int .i64 0, .int .i64 0, .string ⟨#[]⟩], .int .i64 10]) ?_ rfl ⟨by rw [HV.out], ?_⟩
          · rw [results_cell_tmp rfl]; go_simp
          · (repeat' (first | exact HB4.out | exact Below.refl _ _ | refine Below.drew ?_ | refine Below.setCell ?_ (by first | exact Nat.le_refl _ | (simp <;> omega)) _))
        | true =>
          have HV := Lib.hid (fv_num (nm := nm) (s := s) HN1.out (by rw [HN2.out]; exact h0) (by rw [HN2.out]; exact hnb))
          have HNB := Lib.hid hnb
          rw [HN2.out] at HV
          clear hnb
          go_wp2_with fail
          refine HNU.out.mono ?_
          rw [HNB.out]
          rintro e w4 ⟨rfl, hb4⟩
          have HT4 := Lib.hid (HT3.out.below hb4)
          have HB4 : Hid (Below b w w4) := Lib.hid (HB3.out.trans (hb4.mono (Nat.le_of_lt HT3.out.2.2.2.2.1)))
          clear hb4
          generalize (nm (s.extract 0 n2).data.toList).1 = v0 at HV ⊢
          go_wp2_with fail
          refine (clone_any (s.extract 0 n2) _ (by have := HEX.out n2 hdl; omega)).mono ?_
          rintro e w5 ⟨rfl, hb5⟩
          have HT5 := Lib.hid (HT4.out.below hb5)
          have HB5 : Hid (Below b w w5) := Lib.hid (HB4.out.trans (hb5.mono (Nat.le_of_lt HT4.out.2.2.2.2.1)))
          clear hb5
          generalize s.extract 0 n2 = q at HV ⊢
          have z0 := HT5.out.1
          have z1 := HT5.out.2.1
          have z2 := HT5.out.2.2.1
          have z3 := HT5.out.2.2.2.1
          have f0 := HT5.out.2.2.2.2.2 0
          have f1 := HT5.out.2.2.2.2.2 1
          have f2 := HT5.out.2.2.2.2.2 2
          have f3 := HT5.out.2.2.2.2.2 3
          go_wp2
          (try simp only [Exit.inBlock, Exit.then])
          refine bodyPost_ret (v := .tuple #[.agg #[.int .i64 2, .int .i64 v0, .int .i64 0, .string q], .int .i64 0]) ?_ rfl ⟨by rw [HV.out], ?_⟩
          · rw [results_cell_tmp rfl]; go_simp
          · (repeat' (first | exact HB5.out | exact Below.refl _ _ | refine Below.drew ?_ | refine Below.setCell ?_ (by first | exact Nat.le_refl _ | (simp <;> omega)) _))
      · obtain rfl : n2 = 0 := by omega
        have HS := Lib.hid (sign_any s w3 (HSG.out w3 HB3.out))
        go_wp2_with fail
        refine HS.out.mono ?_
        rintro e w4 ⟨rfl, rfl⟩
        obtain ⟨n3, HN3⟩ : ∃ n, Hid (signN s = n) := ⟨_, Lib.hid rfl⟩
        rw [HN3.out] at hsl ⊢
        have hsl2 : (n3 : Int) ≤ (s.size : Int) := by omega
        by_cases h3 : 0 < n3
        · have g3 : (0 : Int) < (n3 : Int) := by omega
          have HV := Lib.hid (fv_sign (nm := nm) (s := s) HN1.out HN2.out (by rw [HN3.out]; exact h3))
          rw [HN3.out] at HV
          go_wp2_with fail
          refine (clone_any (s.extract 0 n3) _ (by have := HEX.out n3 hsl; omega)).mono ?_
          rintro e w5 ⟨rfl, hb5⟩
          have HT5 := Lib.hid (HT3.out.below hb5)
          have HB5 : Hid (Below b w w5) := Lib.hid (HB3.out.trans (hb5.mono (Nat.le_of_lt HT3.out.2.2.2.2.1)))
          clear hb5
          generalize s.extract 0 n3 = q at HV ⊢
          have z0 := HT5.out.1
          have z1 := HT5.out.2.1
          have z2 := HT5.out.2.2.1
          have z3 := HT5.out.2.2.2.1
          have f0 := HT5.out.2.2.2.2.2 0
          have f1 := HT5.out.2.2.2.2.2 1
          have f2 := HT5.out.2.2.2.2.2 2
          have f3 := HT5.out.2.2.2.2.2 3
          go_wp2
          (try simp only [Exit.inBlock, Exit.then])
          refine bodyPost_ret (v := .tuple #[.agg #[.int .i64 3, .int .i64 0, .int .i64 0, .string q], .int .i64 0]) ?_ rfl ⟨by rw [HV.out], ?_⟩
          · rw [results_cell_tmp rfl]; go_simp
          · (repeat' (first | exact HB5.out | exact Below.refl _ _ | refine Below.drew ?_ | refine Below.setCell ?_ (by first | exact Nat.le_refl _ | (simp <;> omega)) _))
        · obtain rfl : n3 = 0 := by omega
          have HV := Lib.hid (fv_none (nm := nm) (s := s) HN1.out HN2.out HN3.out)
          have z0 := HT3.out.1
          have z1 := HT3.out.2.1
          have z2 := HT3.out.2.2.1
          have z3 := HT3.out.2.2.2.1
          have f0 := HT3.out.2.2.2.2.2 0
          have f1 := HT3.out.2.2.2.2.2 1
          have f2 := HT3.out.2.2.2.2.2 2
          have f3 := HT3.out.2.2.2.2.2 3
          go_wp2
          (try simp only [Exit.inBlock, Exit.then])
          refine bodyPost_ret (v := .tuple #[.agg #[.int .i64 0, .int .i64 0, .int .i64 0, .string ⟨#[]⟩], .int .i64 13]) ?_ rfl ⟨by rw [HV.out], ?_⟩
          · rw [results_cell_tmp rfl]; go_simp
          · (repeat' (first | exact HB3.out | exact Below.refl _ _ | refine Below.drew ?_ | refine Below.setCell ?_ (by first | exact Nat.le_refl _ | (simp <;> omega)) _))
end Go.Proofs.YtgnflnfajkoibaaDoor.lx
namespace Go.Proofs.YtgnflnfajkoibaaDoor.lx
open Go.ChangeShapes Go.WideShapes Go.ChangeAt Go.RowKit Go.Deep

def cellT (t : Tok) : List Value := [.int .i64 (t.kind : Nat), .int .i64 t.num, .int .i64 (t.pos : Nat), .string t.text]
def flatT (l : List Tok) : List Value := l.flatMap cellT
theorem flatT_snoc (l : List Tok) (t : Tok) : flatT (l ++ [t]) = flatT l ++ cellT t := by unfold flatT; simp
/-- A row of tokens of the call's own. -/
def OT (base : Nat) (w : World) (v : Value) (l : List Tok) : Prop := w.ownsRow base 72 4 v l.length (flatT l)
theorem OT.nil (base : Nat) (w : World) : OT base w (.slice none 0 0) [] := World.ownsRow_nil _ _ _ _
set_option maxRecDepth 20000 in
/-- append of one token onto a row of the call's own. -/
theorem append_tok {w : World} {ops : Array Oper} {rest : List Oper} {o : Oper} {a : Act} {Q : Exit → Act → World → Prop} (hgd : o.guard = none) (s x : Operand)
    (ho : o.op = .call { callee := .builtin .append, args := #[s, x], argTypes := #[47, 47] })
    (base : Nat) (v : Value) (l : List Tok) (hs : a.eval s = v) (hown : OT base w v l) (k p : Nat) (n : Int) (t : ByteArray)
    (hx : a.eval x = .slice (some ⟨w.heap.size, 0, none⟩) 1 1) (hlen : l.length + 1 ≤ 1000000) (hbase : base ≤ w.heap.size)
    (h : ∀ v' w', OT base w' v' (l ++ [⟨k, n, p, t⟩]) → Below base w w' → (w.alloc (.cells #[.int .i64 (k : Nat), .int .i64 n, .int .i64 (p : Nat), .string t] 72)).grownBy w' v.ownBlock → wpList Tryd.prog ops Q rest (a.put o.dst v') w') :
    wpList Tryd.prog ops Q (o :: rest) a (w.alloc (.cells #[.int .i64 (k : Nat), .int .i64 n, .int .i64 (p : Nat), .string t] 72)) := by
  obtain ⟨i0, hi, hz0, hz1, hz2⟩ := info_parts (show (Tryd.prog.info? 72).map (fun i => (i.zero, i.size, i.bytes)) = some (some (.agg #[.int .i64 0, .int .i64 0, .int .i64 0, .string ⟨#[]⟩]), 4, 40) by kernel_rfl)
  refine wpList_append_own_at _ hgd s x 47 ho base 72 i0 (.agg #[.int .i64 0, .int .i64 0, .int .i64 0, .string ⟨#[]⟩]) 4 40 Tryd.underlying47 hi hz0 hz1 hz2 rfl (by decide) v l.length _ hs (World.ownsRow.alloc hown _) ⟨w.heap.size, 0, none⟩ 1 1 (cellT ⟨k, n, p, t⟩) hx rfl (fun j u hju => by
    rw [add_plain]
    rcases j with _ | _ | _ | _ | j
    · obtain rfl := Option.some.inj hju
      exact cell_of_row _ _ 0 _ _ _ (World.alloc_heap_new w _)
    · obtain rfl := Option.some.inj hju
      exact cell_of_row _ _ 1 _ _ _ (World.alloc_heap_new w _)
    · obtain rfl := Option.some.inj hju
      exact cell_of_row _ _ 2 _ _ _ (World.alloc_heap_new w _)
    · obtain rfl := Option.some.inj hju
      exact cell_of_row _ _ 3 _ _ _ (World.alloc_heap_new w _)
    · simp [cellT] at hju) (fun u hu => by
    simp only [cellT, List.mem_cons, List.not_mem_nil, or_false] at hu
    rcases hu with rfl | rfl | rfl | rfl <;> simp [Value.oneCell']) (by unfold maxLen; omega) (by omega) (by simp; omega) ?_
  intro v' w' hown' hgrow _ hb
  refine h v' w' ?_ (Below.grown ((Below.refl _ _).alloc hbase _) hgrow (by simp; omega) (fun q hq => (World.ownsRow.lt hown q hq).1)) hgrow
  show w'.ownsRow base 72 4 v' (l ++ [(⟨k, n, p, t⟩ : Tok)]).length (flatT (l ++ [⟨k, n, p, t⟩]))
  rw [List.length_append, flatT_snoc]
  exact hown'
end Go.Proofs.YtgnflnfajkoibaaDoor.lx
