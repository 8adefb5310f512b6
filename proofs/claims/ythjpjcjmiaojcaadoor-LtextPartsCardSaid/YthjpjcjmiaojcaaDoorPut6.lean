/- Contracts that the claim stands on, several texts in one: LtxRefuse, LexScan, LexSign, LexSgn, Shelf. -/
import Derived.Deep.MidRow
import Derived.Shelf.LaysM
import Derived.Shelf.Strconv.Itoa3
import Derived.Shelf.Strconv.Clone
import Derived.Shelf.LaysC
import Derived.Shelf.Strconv.AtoiAll
import Derived.Test.YthjpjcjmiaojcaaDoorProg
import Derived.Test.YthjpjcjmiaojcaaDoorPut1
import Derived.Test.YthjpjcjmiaojcaaDoorPut2
import Derived.Test.YthjpjcjmiaojcaaDoorPut3
import Derived.Test.YthjpjcjmiaojcaaDoorPut4
import Derived.Test.YthjpjcjmiaojcaaDoorPut5
namespace Go.Proofs.YthjpjcjmiaojcaaDoor.tx
open Go.ChangeShapes Go.WideShapes Go.ChangeAt Go.RowKit Go.Deep sr lt

/-- Why a formula can't go on at a token. -/
def rfF (pr : Option Nat) (k : Int) (s : List UInt8) : Int := if k = 0 then 4 else if k = 1 ∧ wrO s = none ∧ pr = none then 8 else 3
set_option maxRecDepth 20000 in
set_option maxHeartbeats 4000000 in
theorem refusal_any (rb : Nat) (NA : Option Addr) (n d : Nat) (N : List ByteArray) (k num pos : Int) (s : ByteArray) (w : World) (h : w.cell? ⟨rb, 0, none⟩ = some (.slice NA n d)) (hrb : rb < w.heap.size) (hN : NmS w NA n d N) (hO : OpsW w) :
    Calls Tryd.prog 38 #[.pointer (some ⟨rb, 0, none⟩), tkV k num pos s] w fun e w' => e = .returned (.int .i64 (rfF (prO N s) k s.data.toList)) ∧ Below w.heap.size w w' := by
  obtain ⟨pr, HPR⟩ : ∃ pr, Hid (prO N s = pr) := ⟨_, Lib.hid rfl⟩
  rw [HPR.out]
  obtain ⟨z, HZ⟩ : ∃ z, Hid (rfF pr k s.data.toList = z) := ⟨_, Lib.hid rfl⟩
  rw [HZ.out]
  have H := Lib.hid h
  have HRB := Lib.hid hrb
  have HN := Lib.hid hN
  have HO := Lib.hid hO
  obtain ⟨r, HR⟩ : ∃ r, Hid (wrO s.data.toList = r) := ⟨_, Lib.hid rfl⟩
  clear h hrb hN hO
  unfold tkV
  go_enter Tryd.func38, Tryd.ntmps38
  go_wp2_with fail
  refine (written_any s _ (HO.out.keep (below_one _ _))).mono ?_
  rw [HR.out]
  rintro e w2 ⟨rfl, hb2⟩
  obtain ⟨o, HOO⟩ : ∃ o, Hid (r.getD brO = o) := ⟨_, Lib.hid rfl⟩
  obtain ⟨q, HQ⟩ : ∃ q, Hid (r.isSome = q) := ⟨_, Lib.hid rfl⟩
  rw [HOO.out, HQ.out]
  unfold oV
  have ht2 : w2.heap[w.heap.size]? = some (tkC k num pos s) := (hb2.block _ (by simp)).trans (World.alloc_heap_new _ _)
  have hb20 : Below w.heap.size w w2 := (below_one w _).trans (hb2.mono (by simp))
  obtain ⟨w3, HW3⟩ : ∃ w3, w3 = w2.alloc (.cells #[.int .i64 o.op, .string (sgA o), .int .i64 o.bd, .int .i64 o.lf, .int .i64 o.rt] 58) := ⟨_, rfl⟩
  have hb23 : Below w2.heap.size w2 w3 := by rw [HW3]; exact below_one _ _
  have hb3 : Below w.heap.size w w3 := hb20.trans (hb23.mono hb20.size)
  have htz : w.heap.size < w2.heap.size := Nat.lt_of_lt_of_le (by simp) hb2.size
  have ht3 : w3.heap[w.heap.size]? = some (tkC k num pos s) := (hb23.block _ htz).trans ht2
  have HT3 := Lib.hid ht3
  have HTZ : Hid (w.heap.size < w3.heap.size) := Lib.hid (Nat.lt_of_lt_of_le htz hb23.size)
  have HB3 := Lib.hid hb3
  have t0 : w3.cell? ⟨w.heap.size, 0, none⟩ = some (.int .i64 k) := cell_of ht3 0
  have t3 : w3.cell? ⟨w.heap.size, 3, none⟩ = some (.string s) := cell_of ht3 3
  have c0 : w3.cell? ⟨rb, 0, none⟩ = some (.slice NA n d) := (hb3.cell (p := ⟨rb, 0, none⟩) HRB.out).trans H.out
  have HPA : Hid (∀ W, Below w3.heap.size w3 W → Calls Tryd.prog 55 #[.slice NA n d, .string s] W (PrP pr W)) := Lib.hid (fun W hW => by rw [← HPR.out]; exact proposition_any NA n d N s W ((HN.out.below HB3.out).below hW) ((OpsW.keep HO.out HB3.out).keep hW))
  go_upto_region 2 with (fail)
  rw [← HW3]
  clear HW3 hb2 hb20 hb23 hb3 ht2 ht3 htz
  go_region_held3 (fun w' => w'.cell? ⟨w.heap.size, 3, none⟩ = some (.string s) ∧ w'.cell? ⟨rb, 0, none⟩ = some (.slice NA n d))
    (first | exact ⟨t3, c0⟩ | exact ⟨l3, l0⟩ | go_keep)
    ((go_at_call 55; refine (HPA.out _ (Below.refl _ w3).drew).mono ?_; rintro x w4 ⟨zz, rfl, hzi, hb4⟩; have HB4 : Hid (Below w3.heap.size w3 w4) := Lib.hid (RowKit.Below.trans (Below.refl _ w3).drew hb4); have l3 : w4.cell? ⟨w.heap.size, 3, none⟩ = some (.string s) := (HB4.out.cell (p := ⟨w.heap.size, 3, none⟩) HTZ.out).trans t3; have l0 : w4.cell? ⟨rb, 0, none⟩ = some (.slice NA n d) := (HB4.out.cell (p := ⟨rb, 0, none⟩) (Nat.lt_of_lt_of_le HRB.out HB3.out.size)).trans c0; clear hb4 hzi))
  have m0 : w4.cell? ⟨w.heap.size, 0, none⟩ = some (.int .i64 k) := (HB4.out.cell (p := ⟨w.heap.size, 0, none⟩) HTZ.out).trans t0
  have HEND : Hid (Below w.heap.size w w4) := Lib.hid (HB3.out.trans (HB4.out.mono HB3.out.size))
  clear t0 t3 c0
  obtain ⟨q2, HQ2⟩ : ∃ q, Hid (pr.isSome = q) := ⟨_, Lib.hid rfl⟩
  rw [HQ2.out]
  by_cases hk : k = 0
  · have HV : Hid (z = 4) := Lib.hid (by rw [← HZ.out]; exact if_pos hk)
    subst hk
    go_wp2
    go_ret
    exact ⟨by rw [HV.out]; rfl, HEND.out⟩
  · have hkb : (k == 0) = false := by rw [beq_eq_false_iff_ne]; exact hk
    by_cases hk1 : k = 1
    · have HV : Hid (z = if q = false ∧ q2 = false then 8 else 3) := Lib.hid (by
        rw [← HZ.out, ← HQ.out, ← HQ2.out]
        unfold rfF
        rw [if_neg hk, HR.out]
        cases r <;> cases pr <;> simp [hk1])
      subst hk1
      cases q <;> cases q2
      all_goals
        go_wp2
        go_ret
        exact ⟨by rw [HV.out]; rfl, HEND.out⟩
    · have HV : Hid (z = 3) := Lib.hid (by
        rw [← HZ.out]
        unfold rfF
        rw [if_neg hk, if_neg (fun e => hk1 e.1)])
      have hkb1 : (k == 1) = false := by rw [beq_eq_false_iff_ne]; exact hk1
      go_wp2
      go_ret
      exact ⟨by rw [HV.out]; rfl, HEND.out⟩
end Go.Proofs.YthjpjcjmiaojcaaDoor.tx
namespace Go.Proofs.YthjpjcjmiaojcaaDoor.lx
open Go.ChangeShapes Go.WideShapes Go.ChangeAt Go.RowKit Go.Deep

/-- A token. -/
structure Tok where
  kind : Nat
  num : Int
  pos : Nat
  text : ByteArray
/-- The token that a text begins with: its kind, number, bytes; or why there is none; nm: what the digits are worth, and whether they are worth anything. -/
def firstP (nm : List UInt8 → Int × Bool) (s : ByteArray) : Except Nat (Nat × Int × Nat) :=
  if 16 < wordN s then .error 6 else if 0 < wordN s then .ok (1, 0, wordN s)
  else if 0 < digN s then (if (nm (s.extract 0 (digN s)).data.toList).2 = true then .ok (2, (nm (s.extract 0 (digN s)).data.toList).1, digN s) else .error 10)
  else if 0 < signN s then .ok (3, 0, signN s) else .error 13
def blankB (b : Nat) : Bool := b == 32 || b == 10
def lineE (s : ByteArray) (a : Nat) : Nat := runE (fun b => !decide (b = 10)) s s.size a
/-- What is told of a text: the tokens, a place, an error's number. -/
abbrev Res := List Tok × Nat × Nat
/-- From a place on, with these tokens met, this is told. -/
inductive Sc (nm : List UInt8 → Int × Bool) (s : ByteArray) : Nat → List Tok → Res → Prop
  | done {a : Nat} {l : List Tok} (h : s.size ≤ a) : Sc nm s a l (l, 0, 0)
  | blank {a : Nat} {l : List Tok} {r : Res} (h : a < s.size) (hb : blankB (bt s a) = true) (hh : Sc nm s (a + 1) l r) : Sc nm s a l r
  | remark {a : Nat} {l : List Tok} {r : Res} (h : a < s.size) (hb : bt s a = 35) (hh : Sc nm s (lineE s a) l r) : Sc nm s a l r
  | many {a : Nat} {l : List Tok} (h : a < s.size) (hb : blankB (bt s a) = false) (hr : bt s a ≠ 35) (hl : l.length = 6000) : Sc nm s a l ([], a, 11)
  | wrong {a : Nat} {l : List Tok} {why : Nat} (h : a < s.size) (hb : blankB (bt s a) = false) (hr : bt s a ≠ 35) (hl : l.length ≠ 6000) (hf : firstP nm (tailS s a) = .error why) : Sc nm s a l ([], a, why)
  | token {a : Nat} {l : List Tok} {k : Nat} {n : Int} {m : Nat} {r : Res} (h : a < s.size) (hb : blankB (bt s a) = false) (hr : bt s a ≠ 35) (hl : l.length ≠ 6000) (hf : firstP nm (tailS s a) = .ok (k, n, m)) (hh : Sc nm s (a + m) (l ++ [⟨k, n, a, s.extract a (a + m)⟩]) r) : Sc nm s a l r
theorem not_blank35 {b : Nat} (h : blankB b = true) : b ≠ 35 := fun e => by subst e; revert h; decide
/-- One thing is told. -/
theorem Sc.one {nm : List UInt8 → Int × Bool} {s : ByteArray} {a : Nat} {l : List Tok} {r r' : Res} (h : Sc nm s a l r) : Sc nm s a l r' → r = r' := by
  induction h with
  | done h1 => intro k; cases k with
    | done => rfl
    | blank h => omega
    | remark h => omega
    | many h => omega
    | wrong h => omega
    | token h => omega
  | blank h1 hb _ ih => intro k; cases k with
    | done => omega
    | blank _ _ hh => exact ih hh
    | remark _ h => exact absurd h (not_blank35 hb)
    | many _ h => rw [hb] at h; cases h
    | wrong _ h => rw [hb] at h; cases h
    | token _ h => rw [hb] at h; cases h
  | remark h1 hb _ ih => intro k; cases k with
    | done => omega
    | blank _ h => exact absurd hb (not_blank35 h)
    | remark _ _ hh => exact ih hh
    | many _ _ h => exact absurd hb h
    | wrong _ _ h => exact absurd hb h
    | token _ _ h => exact absurd hb h
  | many h1 hb hr hl => intro k; cases k with
    | done => omega
    | blank _ h => rw [hb] at h; cases h
    | remark _ h => exact absurd h hr
    | many => rfl
    | wrong _ _ _ h => exact absurd hl h
    | token _ _ _ h => exact absurd hl h
  | wrong h1 hb hr hl hf => intro k; cases k with
    | done => omega
    | blank _ h => rw [hb] at h; cases h
    | remark _ h => exact absurd h hr
    | many _ _ _ h => exact absurd h hl
    | wrong _ _ _ _ h => rw [hf] at h; cases h; rfl
    | token _ _ _ _ h => rw [hf] at h; cases h
  | token h1 hb hr hl hf _ ih => intro k; cases k with
    | done => omega
    | blank _ h => rw [hb] at h; cases h
    | remark _ h => exact absurd h hr
    | many _ _ _ h => exact absurd h hl
    | wrong _ _ _ _ h => rw [hf] at h; cases h
    | token _ _ _ _ h hh => rw [hf] at h; cases h; exact ih hh
theorem wB_low {b : Nat} (h : wB b = true) : b < 128 := by
  rcases Nat.lt_or_ge b 128 with h1 | h1
  · exact h1
  · unfold wB at h
    rw [letB_high h1, digB_high h1, decide_eq_false (show ¬ b = 95 by omega)] at h
    cases h
theorem twoB_low {a b : Nat} (h : twoB a b = true) : a < 128 ∧ b < 128 := by
  unfold twoB at h
  simp only [Bool.or_eq_true, Bool.and_eq_true, beq_iff_eq] at h
  omega
theorem oneB_low {a : Nat} (h : oneB a = true) : a < 128 := by
  unfold oneB at h
  simp only [Bool.or_eq_true, beq_iff_eq] at h
  omega
/-- A token has a byte or more, lies in the text, and has bytes of Ascii alone. -/
theorem first_ok {nm : List UInt8 → Int × Bool} {s : ByteArray} {a k m : Nat} {n : Int} (h : a < s.size) (hf : firstP nm (tailS s a) = .ok (k, n, m)) : 0 < m ∧ a + m ≤ s.size ∧ ∀ i, a ≤ i → i < a + m → bt s i < 128 := by
  have hw := wordN_eq s a h
  have hd := digN_eq s a h
  have hz : (tailS s a).size = s.size - a := tail_size
  unfold firstP at hf
  split at hf
  · cases hf
  · split at hf
    · rename_i h1 h2
      injection hf with hf
      injection hf with _ hf
      injection hf with _ hf
      subst hf
      by_cases hl : letB (bt s a) = true
      · rw [if_pos hl] at hw
        obtain ⟨_, g2, g3, _⟩ := runE_spec wB s s.size a (by omega) (by omega)
        rw [← hw] at g2 g3
        exact ⟨h2, g2, fun i e1 e2 => wB_low (g3 i e1 e2)⟩
      · rw [if_neg hl] at hw
        omega
    · split at hf
      · rename_i h1 h2 h3
        split at hf
        · injection hf with hf
          injection hf with _ hf
          injection hf with _ hf
          subst hf
          obtain ⟨_, g2, g3, _⟩ := runE_spec (fun b => digB b) s s.size a (by omega) (by omega)
          rw [← hd] at g2 g3
          refine ⟨h3, g2, fun i e1 e2 => ?_⟩
          rcases Nat.lt_or_ge (bt s i) 128 with h5 | h5
          · exact h5
          · have := g3 i e1 e2
            rw [show digB (bt s i) = false from digB_high h5] at this
            cases this
        · cases hf
      · split at hf
        · rename_i h1 h2 h3 h4
          injection hf with hf
          injection hf with _ hf
          injection hf with _ hf
          subst hf
          have hb0 : bt (tailS s a) 0 = bt s a := by rw [tail_bt (by omega)]; rfl
          unfold signN at h4 ⊢
          by_cases c2 : 1 < (tailS s a).size ∧ twoB (bt (tailS s a) 0) (bt (tailS s a) 1) = true
          · rw [if_pos c2]
            obtain ⟨l0, l1⟩ := twoB_low c2.2
            have hb1 : bt (tailS s a) 1 = bt s (a + 1) := tail_bt (by omega)
            rw [hb0] at l0
            rw [hb1] at l1
            refine ⟨by omega, by omega, fun i e1 e2 => ?_⟩
            obtain rfl | rfl : i = a ∨ i = a + 1 := by omega
            · exact l0
            · exact l1
          · rw [if_neg c2] at h4 ⊢
            by_cases c1 : 0 < (tailS s a).size ∧ oneB (bt (tailS s a) 0) = true
            · rw [if_pos c1]
              have l0 := oneB_low c1.2
              rw [hb0] at l0
              refine ⟨by omega, by omega, fun i e1 e2 => ?_⟩
              obtain rfl : i = a := by omega
              exact l0
            · rw [if_neg c1] at h4
              omega
        · cases hf
/-- The runes come to the end of a token, of a remark. -/
theorem token_hits {nm : List UInt8 → Int × Bool} {s : ByteArray} {a k m : Nat} {n : Int} (h : a < s.size) (hf : firstP nm (tailS s a) = .ok (k, n, m)) : Hits s a (a + m) := by
  obtain ⟨_, h2, h3⟩ := first_ok h hf
  exact hits_all s m a (a + m) rfl h2 h3
theorem remark_hits {s : ByteArray} {a : Nat} (h : a < s.size) : Hits s a (lineE s a) ∧ lineE s a ≤ s.size := by
  obtain ⟨g1, g2, g3, g4⟩ := runE_spec (fun b => !decide (b = 10)) s s.size a (by omega) (by omega)
  unfold lineE
  refine ⟨hits_low s s.size a _ (by omega) g1 g2 (fun hlt => ?_), g2⟩
  have := g4 hlt
  simp at this
  omega
end Go.Proofs.YthjpjcjmiaojcaaDoor.lx
namespace Go.Proofs.YthjpjcjmiaojcaaDoor.lx
open Go.ChangeShapes Go.WideShapes Go.ChangeAt Go.RowKit Go.Deep

/-- Does one text begin with the other one? -/
def prefB (s p : ByteArray) : Bool := decide (p.size ≤ s.size) && ((s.extract 0 p.size).toList == p.toList)
set_option maxRecDepth 100000 in
theorem hasPrefix_lite (s p : ByteArray) (w : World) : Calls Tryd.prog 76 #[.string s, .string p] w fun e w' => e = .returned (.bool (prefB s p)) ∧ w' = w := by
  by_cases h : p.size ≤ s.size
  · have HE : Hid (prefB s p = ((s.extract 0 p.size).toList == p.toList)) := Lib.hid (by unfold prefB; rw [decide_eq_true h, Bool.true_and])
    have h2 : (p.size : Int) ≤ (s.size : Int) := by omega
    go_enter Tryd.func76, Tryd.ntmps76
    go_wp2
    go_ret
    exact ⟨by rw [HE.out]; rfl, rfl⟩
  · have HE : Hid (prefB s p = false) := Lib.hid (by unfold prefB; rw [decide_eq_false h, Bool.false_and])
    have h2 : ¬ (p.size : Int) ≤ (s.size : Int) := by omega
    go_enter Tryd.func76, Tryd.ntmps76
    go_wp2
    go_ret
    exact ⟨by rw [HE.out]; rfl, rfl⟩
theorem hasPrefix_any (s p : ByteArray) (w : World) : Calls Tryd.prog 70 #[.string s, .string p] w fun e w' => e = .returned (.bool (prefB s p)) ∧ w' = w := by
  go_enter Tryd.func70, Tryd.ntmps70
  go_wp2_with fail
  refine (hasPrefix_lite s p _).mono ?_
  rintro e w' ⟨rfl, rfl⟩
  go_wp2
  go_ret
  exact ⟨rfl, rfl⟩

/-- The signs, in the program's order. -/
def sgL : List (List UInt8) := [[40], [41], [91], [93], [123], [125], [59], [44], [58], [46], [58, 61], [61, 61], [33, 61], [60], [60, 61], [45, 62], [43], [45], [42], [33], [63], [38, 38], [124, 124], [61, 62], [64]]
def sgS (k : Nat) : ByteArray := ⟨(sgL.getD k []).toArray⟩
def sgA : Array Value := (sgL.map fun l => Value.string ⟨l.toArray⟩).toArray
/-- The table of the signs lies where the program has it. -/
def SgW (w : World) : Prop := ∀ i, i < 25 → w.cell? ⟨1, i, none⟩ = some (.string (sgS i))
theorem sgS_le {k : Nat} (h : k < 25) : (sgS k).size ≤ 2 := by
  have : ∀ k : Fin 25, (sgS k.1).size ≤ 2 := by decide
  exact this ⟨k, h⟩
/-- The longest one of the first k texts that a text begins with. -/
def gM (g : Nat → ByteArray) (s : ByteArray) : Nat → Nat
  | 0 => 0
  | k + 1 => if prefB s (g k) = true then max (gM g s k) (g k).size else gM g s k
theorem gM_le {g : Nat → ByteArray} (hz : ∀ k, k < 25 → (g k).size ≤ 2) (s : ByteArray) : ∀ k, k ≤ 25 → gM g s k ≤ 2
  | 0, _ => by simp [gM]
  | k + 1, h => by
    have h1 := gM_le hz s k (by omega)
    have h2 := hz k (by omega)
    unfold gM
    split <;> omega
def gL (g : Nat → ByteArray) : List Value := (List.range 25).map fun i => .string (g i)
set_option maxRecDepth 100000 in
theorem sg_at (g : Nat → ByteArray) {k : Nat} (hk : k < 25) (W : World) : (Instr.index 108 (.agg (gL g).toArray) (.int .i64 (k : Int))).run Tryd.prog W = .ok (.string (g k)) W := by
  have h : k = 0 ∨ k = 1 ∨ k = 2 ∨ k = 3 ∨ k = 4 ∨ k = 5 ∨ k = 6 ∨ k = 7 ∨ k = 8 ∨ k = 9 ∨ k = 10 ∨ k = 11 ∨ k = 12 ∨ k = 13 ∨ k = 14 ∨ k = 15 ∨ k = 16 ∨ k = 17 ∨ k = 18 ∨ k = 19 ∨ k = 20 ∨ k = 21 ∨ k = 22 ∨ k = 23 ∨ k = 24 := by omega
  rcases h with h | h | h | h | h | h | h | h | h | h | h | h | h | h | h | h | h | h | h | h | h | h | h | h | h
  all_goals (subst h; show _ = _; first | rfl | kernel_rfl)
set_option maxRecDepth 100000 in
set_option maxHeartbeats 2000000 in
theorem sign_any' (g : Nat → ByteArray) (hz : ∀ k, k < 25 → (g k).size ≤ 2) (s : ByteArray) (w : World) (hs : ∀ i, i < 25 → w.cell? ⟨1, i, none⟩ = some (.string (g i))) : Calls Tryd.prog 54 #[.string s] w fun e w' => e = .returned (.int .i64 (gM g s 25)) ∧ w' = w := by
  have HZ := Lib.hid hz
  have HR : Hid (w.rangeAt 1 0 (gL g)) := Lib.hid (fun j v hv => by
    unfold gL at hv
    rw [List.getElem?_map] at hv
    by_cases hj : j < 25
    · rw [List.getElem?_range hj] at hv
      injection hv with hv
      rw [← hv, Nat.zero_add]
      exact hs j hj
    · rw [List.getElem?_eq_none (by simp; omega)] at hv
      cases hv)
  have HI : Hid (∀ k : Nat, k < 25 → ∀ W : World, (Instr.index 108 (.agg (gL g).toArray) (.int .i64 (k : Int))).run Tryd.prog W = .ok (.string (g k)) W) := Lib.hid (fun k hk W => sg_at g hk W)
  have hlen : (Tryd.prog.info? 108).map (·.size) = some (gL g).length := by kernel_rfl
  have HLEN := Lib.hid hlen
  clear hz hs hlen
  obtain ⟨gl, HGL⟩ : ∃ gl, Hid (gL g = gl) := ⟨_, Lib.hid rfl⟩
  rw [HGL.out] at HR HI HLEN
  go_enter Tryd.func54, Tryd.ntmps54
  go_wp2_with (refine wpList_load_mid rfl 108 (.global 1) rfl 1 0 rfl gl _ HR.out Tryd.underlying108 rfl HLEN.out ?_)
  go_loopw [3, 7] (fun m i wr => ∃ k : Nat, k ≤ 25 ∧ i = .int .i64 k ∧ m = .int .i64 (gM g s k) ∧ wr = w) (fun _ i _ => 25 - (intOf i).toNat)
  case atStart => exact ⟨0, by omega, rfl, rfl, by first | rfl | trivial⟩
  case round =>
    obtain ⟨k, hk, rfl, rfl, rfl⟩ := hrel
    by_cases hlt : k < 25
    · have h1 := HI.out k hlt
      have HM2 : Hid (gM g s k ≤ 2) := Lib.hid (gM_le HZ.out s k hk)
      have HS2 : Hid ((g k).size ≤ 2) := Lib.hid (HZ.out k hlt)
      obtain ⟨q, HQ⟩ : ∃ q, Hid (prefB s (g k) = q) := ⟨_, Lib.hid rfl⟩
      have HN : Hid (gM g s (k + 1) = if q = true then max (gM g s k) (g k).size else gM g s k) := Lib.hid (by rw [← HQ.out]; rfl)
      go_wp2_with fail
      clear h1
      refine (hasPrefix_any s (g k) _).mono ?_
      rw [HQ.out]
      rintro e w' ⟨rfl, rfl⟩
      cases q with
      | false =>
        go_wp2_with fail
        go_roundw
        case rel => exact ⟨k + 1, by omega, by go_num, by rw [HN.out]; rfl, by first | rfl | trivial⟩
        case measure => simp [intOf]; omega
      | true =>
        have h3 : gM g s k ≤ 2 := HM2.out
        generalize gM g s k = m at h3 HN
        go_wp2_with fail
        go_roundw
        case rel => exact ⟨k + 1, by omega, by go_num, by rw [HN.out]; simp; omega, by first | rfl | trivial⟩
        case measure => simp [intOf]; omega
    · obtain rfl : k = 25 := by omega
      go_wp2
      go_ret
      exact ⟨rfl, rfl⟩
end Go.Proofs.YthjpjcjmiaojcaaDoor.lx
namespace Go.Proofs.YthjpjcjmiaojcaaDoor.lx
open Go.ChangeShapes Go.WideShapes Go.ChangeAt Go.RowKit Go.Deep

theorem pref_list {s p : ByteArray} (h : prefB s p = true) : p.size ≤ s.size ∧ s.data.toList.take p.size = p.data.toList := by
  unfold prefB at h
  rw [Bool.and_eq_true, decide_eq_true_iff, beq_iff_eq, ByteArray.toList_eq, ByteArray.toList_eq] at h
  refine ⟨h.1, ?_⟩
  rw [← h.2]
  simp [ByteArray.data_extract]
theorem pref_of {s p : ByteArray} (h1 : p.size ≤ s.size) (h2 : s.data.toList.take p.size = p.data.toList) : prefB s p = true := by
  unfold prefB
  rw [Bool.and_eq_true, decide_eq_true_iff, beq_iff_eq, ByteArray.toList_eq, ByteArray.toList_eq]
  refine ⟨h1, ?_⟩
  rw [← h2]
  simp [ByteArray.data_extract]
theorem bt_list {s : ByteArray} {i : Nat} (h : i < s.size) : s.data.toList[i]? = some (s[i]'h) := by
  rw [Array.getElem?_toList, Array.getElem?_eq_getElem h]
  rfl
theorem pref1 {s : ByteArray} {c : UInt8} : prefB s ⟨[c].toArray⟩ = true ↔ 0 < s.size ∧ bt s 0 = c.toNat := by
  constructor
  · intro h
    obtain ⟨h1, h2⟩ := pref_list h
    have h0 : 0 < s.size := h1
    refine ⟨h0, ?_⟩
    have := congrArg (fun l => l[0]?) h2
    simp only [List.getElem?_take] at this
    rw [if_pos (by show 0 < 1; omega), bt_list h0] at this
    rw [bt_eq h0]
    have e : s[0] = c := by simpa using this
    rw [e]
  · rintro ⟨h0, h1⟩
    refine pref_of h0 ?_
    rw [bt_eq h0] at h1
    have e : s[0] = c := UInt8.toNat_inj.1 h1
    refine List.ext_getElem? fun i => ?_
    rcases i with _ | i
    · simp only [List.getElem?_take]
      rw [if_pos (by show 0 < 1; omega), bt_list h0, e]
      rfl
    · simp only [List.getElem?_take]
      rw [if_neg (by show ¬ i + 1 < 1; omega)]
      rfl
theorem pref2 {s : ByteArray} {c d : UInt8} : prefB s ⟨[c, d].toArray⟩ = true ↔ 1 < s.size ∧ bt s 0 = c.toNat ∧ bt s 1 = d.toNat := by
  constructor
  · intro h
    obtain ⟨h1, h2⟩ := pref_list h
    have h0 : 1 < s.size := h1
    have a := congrArg (fun l => l[0]?) h2
    have b := congrArg (fun l => l[1]?) h2
    simp only [List.getElem?_take] at a b
    rw [if_pos (by show 0 < 2; omega), bt_list (by omega)] at a
    rw [if_pos (by show 1 < 2; omega), bt_list h0] at b
    rw [bt_eq h0, bt_eq (pos := 0) (by omega)]
    have e : s[0] = c := by simpa using a
    have f : s[1] = d := by simpa using b
    rw [e, f]
    exact ⟨h0, rfl, rfl⟩
  · rintro ⟨h0, h1, h2⟩
    refine pref_of h0 ?_
    rw [bt_eq (pos := 0) (by omega)] at h1
    rw [bt_eq h0] at h2
    have e : s[0] = c := UInt8.toNat_inj.1 h1
    have f : s[1] = d := UInt8.toNat_inj.1 h2
    refine List.ext_getElem? fun i => ?_
    simp only [List.getElem?_take]
    rcases i with _ | _ | i
    · rw [if_pos (by show 0 < 2; omega), bt_list (by omega), e]
      rfl
    · rw [if_pos (by show 0 + 1 < 2; omega), bt_list h0, f]
      rfl
    · rw [if_neg (by show ¬ i + 2 < 2; omega)]
      rfl
theorem sg_two {s : ByteArray} {k : Nat} (hk : k < 25) (hp : prefB s (sgS k) = true) (h2 : (sgS k).size = 2) : 1 < s.size ∧ twoB (bt s 0) (bt s 1) = true := by
  have h : k = 0 ∨ k = 1 ∨ k = 2 ∨ k = 3 ∨ k = 4 ∨ k = 5 ∨ k = 6 ∨ k = 7 ∨ k = 8 ∨ k = 9 ∨ k = 10 ∨ k = 11 ∨ k = 12 ∨ k = 13 ∨ k = 14 ∨ k = 15 ∨ k = 16 ∨ k = 17 ∨ k = 18 ∨ k = 19 ∨ k = 20 ∨ k = 21 ∨ k = 22 ∨ k = 23 ∨ k = 24 := by omega
  rcases h with rfl | rfl | rfl | rfl | rfl | rfl | rfl | rfl | rfl | rfl | rfl | rfl | rfl | rfl | rfl | rfl | rfl | rfl | rfl | rfl | rfl | rfl | rfl | rfl | rfl
  all_goals first
    | exact absurd h2 (by decide)
    | (obtain ⟨h1, e1, e2⟩ := pref2.1 hp; exact ⟨h1, by rw [e1, e2]; decide⟩)
theorem sg_one {s : ByteArray} {k : Nat} (hk : k < 25) (hp : prefB s (sgS k) = true) (h2 : (sgS k).size = 1) : 0 < s.size ∧ oneB (bt s 0) = true := by
  have h : k = 0 ∨ k = 1 ∨ k = 2 ∨ k = 3 ∨ k = 4 ∨ k = 5 ∨ k = 6 ∨ k = 7 ∨ k = 8 ∨ k = 9 ∨ k = 10 ∨ k = 11 ∨ k = 12 ∨ k = 13 ∨ k = 14 ∨ k = 15 ∨ k = 16 ∨ k = 17 ∨ k = 18 ∨ k = 19 ∨ k = 20 ∨ k = 21 ∨ k = 22 ∨ k = 23 ∨ k = 24 := by omega
  rcases h with rfl | rfl | rfl | rfl | rfl | rfl | rfl | rfl | rfl | rfl | rfl | rfl | rfl | rfl | rfl | rfl | rfl | rfl | rfl | rfl | rfl | rfl | rfl | rfl | rfl
  all_goals first
    | exact absurd h2 (by decide)
    | (obtain ⟨h1, e1⟩ := pref1.1 hp; exact ⟨h1, by rw [e1]; decide⟩)
theorem sgS_ge {k : Nat} (h : k < 25) : (sgS k).size = 1 ∨ (sgS k).size = 2 := by
  have : ∀ k : Fin 25, (sgS k.1).size = 1 ∨ (sgS k.1).size = 2 := by decide
  exact this ⟨k, h⟩
theorem two_sg {s : ByteArray} (h1 : 1 < s.size) (h : twoB (bt s 0) (bt s 1) = true) : ∃ k, k < 25 ∧ prefB s (sgS k) = true ∧ (sgS k).size = 2 := by
  unfold twoB at h
  simp only [Bool.or_eq_true, Bool.and_eq_true, beq_iff_eq] at h
  have go : ∀ (c d : UInt8), bt s 0 = c.toNat ∧ bt s 1 = d.toNat → prefB s ⟨[c, d].toArray⟩ = true := fun c d e => pref2.2 ⟨h1, e.1, e.2⟩
  rcases h with ((((((h | h) | h) | h) | h) | h) | h) | h
  · exact ⟨10, by decide, go 58 61 h, by decide⟩
  · exact ⟨11, by decide, go 61 61 h, by decide⟩
  · exact ⟨12, by decide, go 33 61 h, by decide⟩
  · exact ⟨14, by decide, go 60 61 h, by decide⟩
  · exact ⟨15, by decide, go 45 62 h, by decide⟩
  · exact ⟨21, by decide, go 38 38 h, by decide⟩
  · exact ⟨22, by decide, go 124 124 h, by decide⟩
  · exact ⟨23, by decide, go 61 62 h, by decide⟩
theorem one_sg {s : ByteArray} (h1 : 0 < s.size) (h : oneB (bt s 0) = true) : ∃ k, k < 25 ∧ prefB s (sgS k) = true := by
  unfold oneB at h
  simp only [Bool.or_eq_true, beq_iff_eq] at h
  have go : ∀ (c : UInt8), bt s 0 = c.toNat → prefB s ⟨[c].toArray⟩ = true := fun c e => pref1.2 ⟨h1, e⟩
  rcases h with (((((((((((((((h | h) | h) | h) | h) | h) | h) | h) | h) | h) | h) | h) | h) | h) | h) | h) | h
  · exact ⟨0, by decide, go 40 h⟩
  · exact ⟨1, by decide, go 41 h⟩
  · exact ⟨2, by decide, go 91 h⟩
  · exact ⟨3, by decide, go 93 h⟩
  · exact ⟨4, by decide, go 123 h⟩
  · exact ⟨5, by decide, go 125 h⟩
  · exact ⟨6, by decide, go 59 h⟩
  · exact ⟨7, by decide, go 44 h⟩
  · exact ⟨8, by decide, go 58 h⟩
  · exact ⟨9, by decide, go 46 h⟩
  · exact ⟨13, by decide, go 60 h⟩
  · exact ⟨16, by decide, go 43 h⟩
  · exact ⟨17, by decide, go 45 h⟩
  · exact ⟨18, by decide, go 42 h⟩
  · exact ⟨19, by decide, go 33 h⟩
  · exact ⟨20, by decide, go 63 h⟩
  · exact ⟨24, by decide, go 64 h⟩
theorem gM_has {g : Nat → ByteArray} {s : ByteArray} : ∀ {n k : Nat}, k < n → prefB s (g k) = true → (g k).size ≤ gM g s n
  | 0, _, h, _ => absurd h (Nat.not_lt_zero _)
  | n + 1, k, h, hp => by
    unfold gM
    by_cases e : k = n
    · subst e
      rw [if_pos hp]; omega
    · have := gM_has (g := g) (s := s) (n := n) (k := k) (by omega) hp
      split <;> omega
theorem gM_from {g : Nat → ByteArray} {s : ByteArray} : ∀ n, gM g s n = 0 ∨ ∃ k, k < n ∧ prefB s (g k) = true ∧ (g k).size = gM g s n
  | 0 => .inl rfl
  | n + 1 => by
    unfold gM
    by_cases hp : prefB s (g n) = true
    · rw [if_pos hp]
      rcases Nat.le_total (gM g s n) (g n).size with h | h
      · exact .inr ⟨n, by omega, hp, by omega⟩
      · rcases gM_from (g := g) (s := s) n with h0 | ⟨k, h1, h2, h3⟩
        · exact .inl (by omega)
        · exact .inr ⟨k, by omega, h2, by omega⟩
    · rw [if_neg hp]
      rcases gM_from (g := g) (s := s) n with h0 | ⟨k, h1, h2, h3⟩
      · exact .inl h0
      · exact .inr ⟨k, by omega, h2, h3⟩
/-- The longest sign, by the first two bytes. -/
theorem sign_eq (s : ByteArray) : gM sgS s 25 = signN s := by
  unfold signN
  have hle := gM_le (g := sgS) (fun k hk => sgS_le hk) s 25 (Nat.le_refl _)
  by_cases h2 : 1 < s.size ∧ twoB (bt s 0) (bt s 1) = true
  · rw [if_pos h2]
    obtain ⟨k, hk, hp, hz⟩ := two_sg h2.1 h2.2
    have := gM_has (g := sgS) hk hp
    omega
  · rw [if_neg h2]
    by_cases h1 : 0 < s.size ∧ oneB (bt s 0) = true
    · rw [if_pos h1]
      obtain ⟨k, hk, hp⟩ := one_sg h1.1 h1.2
      have hge := gM_has (g := sgS) hk hp
      have hz := sgS_ge hk
      rcases gM_from (g := sgS) (s := s) 25 with h0 | ⟨j, g1, g2, g3⟩
      · omega
      · rcases sgS_ge g1 with e | e
        · omega
        · exact absurd (sg_two g1 g2 e) h2
    · rw [if_neg h1]
      rcases gM_from (g := sgS) (s := s) 25 with h0 | ⟨j, g1, g2, g3⟩
      · exact h0
      · rcases sgS_ge g1 with e | e
        · exact absurd (sg_one g1 g2 e) h1
        · exact absurd (sg_two g1 g2 e) h2
/-- The program's sign. -/
theorem sign_any (s : ByteArray) (w : World) (hs : SgW w) : Calls Tryd.prog 54 #[.string s] w fun e w' => e = .returned (.int .i64 (signN s)) ∧ w' = w := by
  have := sign_any' sgS (fun k hk => sgS_le hk) s w hs
  rw [sign_eq] at this
  exact this
end Go.Proofs.YthjpjcjmiaojcaaDoor.lx
namespace Go.Proofs
open Go.Shelf
def Tryd.laysM171_ren : Go.Shelf.Ren := ⟨fun | 171 => 75 | 243 => 84 | 246 => 87 | 283 => 90 | 284 => 91 | 285 => 92 | 286 => 93 | 129 => 95 | 317 => 94 | 318 => 96 | 319 => 97 | 320 => 98 | 337 => 99 | 338 => 100 | n => n, fun | 3 => 3 | 9 => 9 | 2 => 2 | 4 => 4 | 171 => 131 | 0 => 0 | 53 => 119 | 37 => 35 | 5 => 5 | 173 => 134 | 212 => 137 | 51 => 138 | 20 => 20 | 213 => 139 | 46 => 122 | 232 => 143 | 233 => 144 | n => n, fun | 17 => 4 | 18 => 5 | 19 => 6 | n => n⟩
theorem Tryd.laysM171 : Go.Proofs.LaysM.n171 Tryd.prog Tryd.laysM171_ren := {
  mixed := by kernel_rfl
  f129 := Tryd.func95.trans (congrArg some (by kernel_rfl))
  f171 := Tryd.func75.trans (congrArg some (by kernel_rfl))
  f243 := Tryd.func84.trans (congrArg some (by kernel_rfl))
  f246 := Tryd.func87.trans (congrArg some (by kernel_rfl))
  f283 := Tryd.func90.trans (congrArg some (by kernel_rfl))
  f284 := Tryd.func91.trans (congrArg some (by kernel_rfl))
  f285 := Tryd.func92.trans (congrArg some (by kernel_rfl))
  f286 := Tryd.func93.trans (congrArg some (by kernel_rfl))
  f317 := Tryd.func94.trans (congrArg some (by kernel_rfl))
  f318 := Tryd.func96.trans (congrArg some (by kernel_rfl))
  f319 := Tryd.func97.trans (congrArg some (by kernel_rfl))
  f320 := Tryd.func98.trans (congrArg some (by kernel_rfl))
  f337 := Tryd.func99.trans (congrArg some (by kernel_rfl))
  f338 := Tryd.func100.trans (congrArg some (by kernel_rfl))
  t0 := Tryd.underlying0
  a0 := Tryd.isAgg0
  z0 := Tryd.sizeOf0
  v0 := Tryd.zeroValue0
  t2 := Tryd.underlying2
  a2 := Tryd.isAgg2
  z2 := Tryd.sizeOf2
  v2 := Tryd.zeroValue2
  t3 := Tryd.underlying3
  a3 := Tryd.isAgg3
  z3 := Tryd.sizeOf3
  v3 := Tryd.zeroValue3
  t4 := Tryd.underlying4
  a4 := Tryd.isAgg4
  z4 := Tryd.sizeOf4
  v4 := Tryd.zeroValue4
  t5 := Tryd.underlying5
  a5 := Tryd.isAgg5
  z5 := Tryd.sizeOf5
  v5 := Tryd.zeroValue5
  t9 := Tryd.underlying9
  a9 := Tryd.isAgg9
  z9 := Tryd.sizeOf9
  v9 := Tryd.zeroValue9
  t20 := Tryd.underlying20
  a20 := Tryd.isAgg20
  z20 := Tryd.sizeOf20
  v20 := Tryd.zeroValue20
  t37 := Tryd.underlying35
  a37 := Tryd.isAgg35
  z37 := Tryd.sizeOf35
  v37 := Tryd.zeroValue35
  t46 := Tryd.underlying122
  a46 := Tryd.isAgg122
  z46 := Tryd.sizeOf122
  v46 := Tryd.zeroValue122
  t51 := Tryd.underlying138
  a51 := Tryd.isAgg138
  z51 := Tryd.sizeOf138
  v51 := Tryd.zeroValue138
  t53 := Tryd.underlying119
  a53 := Tryd.isAgg119
  z53 := Tryd.sizeOf119
  v53 := Tryd.zeroValue119
  t171 := Tryd.underlying131
  a171 := Tryd.isAgg131
  z171 := Tryd.sizeOf131
  v171 := Tryd.zeroValue131
  t173 := Tryd.underlying134
  a173 := Tryd.isAgg134
  z173 := Tryd.sizeOf134
  v173 := Tryd.zeroValue134
  t212 := Tryd.underlying137
  a212 := Tryd.isAgg137
  z212 := Tryd.sizeOf137
  v212 := Tryd.zeroValue137
  t213 := Tryd.underlying139
  a213 := Tryd.isAgg139
  z213 := Tryd.sizeOf139
  t232 := Tryd.underlying143
  a232 := Tryd.isAgg143
  z232 := Tryd.sizeOf143
  v232 := Tryd.zeroValue143
  t233 := Tryd.underlying144
  a233 := Tryd.isAgg144
  z233 := Tryd.sizeOf144
  v233 := Tryd.zeroValue144
  g17 := by kernel_rfl
  g18 := by kernel_rfl
  g19 := by kernel_rfl
  i0 := by kernel_rfl
  i2 := by kernel_rfl
  i3 := by kernel_rfl
  i4 := by kernel_rfl
  i5 := by kernel_rfl
  i9 := by kernel_rfl
  i20 := by kernel_rfl
  i37 := by kernel_rfl
  i46 := by kernel_rfl
  i51 := by kernel_rfl
  i53 := by kernel_rfl
  i171 := by kernel_rfl
  i173 := by kernel_rfl
  i212 := by kernel_rfl
  i232 := by kernel_rfl
  i233 := by kernel_rfl
  m17 := by kernel_rfl
  m18 := by kernel_rfl
  m19 := by kernel_rfl }
open Go.RowKit Go.Sort Go.Lib in
/-- strconv.Itoa: "Itoa is equivalent to FormatInt(int64(i), 10).": i's DECIMAL NUMERAL ('Lib.itoa': a '-' where i is negative, then the digits), FOR EVERY int. The world behind the call: the world before it, new blocks behind the heap (the library's 'var a [24]byte'), draws. (LAID: no walk: one application.) -/
theorem Tryd.strconv_Itoa (n : Int) (h0 : -9223372036854775808 ≤ n) (h1 : n ≤ 9223372036854775807) (w : World) (htab : Lib.TabIs Tryd.prog w "internal/strconv.uint64pow10" .u64 Lib.pow10Tab) :
    Calls Tryd.prog 75 #[.int .i64 n] w fun e w' => e = .returned (.string ⟨(Lib.itoa n).toArray⟩) ∧ ∃ k os, w' = grow (w.drewN k) os := Any.strconv_Itoa Tryd.laysM171 n h0 h1 w htab
def Tryd.laysM316_ren : Go.Shelf.Ren := ⟨fun | 316 => 44 | n => n, fun | 9 => 9 | 3 => 3 | 4 => 4 | 37 => 35 | 0 => 0 | 127 => 97 | 5 => 5 | n => n, fun | n => n⟩
theorem Tryd.laysM316 : Go.Proofs.LaysM.n316 Tryd.prog Tryd.laysM316_ren := {
  mixed := by kernel_rfl
  f316 := Tryd.func44.trans (congrArg some (by kernel_rfl))
  t0 := Tryd.underlying0
  a0 := Tryd.isAgg0
  z0 := Tryd.sizeOf0
  v0 := Tryd.zeroValue0
  t3 := Tryd.underlying3
  a3 := Tryd.isAgg3
  z3 := Tryd.sizeOf3
  v3 := Tryd.zeroValue3
  t4 := Tryd.underlying4
  a4 := Tryd.isAgg4
  z4 := Tryd.sizeOf4
  v4 := Tryd.zeroValue4
  t9 := Tryd.underlying9
  a9 := Tryd.isAgg9
  z9 := Tryd.sizeOf9
  v9 := Tryd.zeroValue9
  t37 := Tryd.underlying35
  a37 := Tryd.isAgg35
  z37 := Tryd.sizeOf35
  v37 := Tryd.zeroValue35
  t127 := Tryd.underlying97
  a127 := Tryd.isAgg97
  z127 := Tryd.sizeOf97
  v127 := Tryd.zeroValue97
  t5 := Tryd.underlying5
  a5 := Tryd.isAgg5
  z5 := Tryd.sizeOf5
  v5 := Tryd.zeroValue5
  i0 := by kernel_rfl
  i3 := by kernel_rfl
  i4 := by kernel_rfl
  i5 := by kernel_rfl
  i9 := by kernel_rfl
  i37 := by kernel_rfl
  i127 := by kernel_rfl }
open Go.RowKit in
/-- internal/stringslite.Clone (what strings.Clone calls): "Clone returns a fresh copy of s.": THE SAME BYTES. Of what was there nothing has turned (a new row is laid, and frozen, where s is not empty). (LAID: no walk: one application.) -/
theorem Tryd.stringslite_Clone (s : ByteArray) (w : World) (hlim : s.size ≤ 281474976710656) :
    Calls Tryd.prog 44 #[.string s] w fun e w' => e = .returned (.string s) ∧ Below w.heap.size w w' := Any.stringslite_Clone Tryd.laysM316 s w hlim
def Tryd.laysC172_ren : Go.Shelf.Ren := ⟨fun | 172 => 67 | 244 => 73 | 245 => 74 | 247 => 79 | 279 => 80 | 280 => 81 | 281 => 82 | 282 => 83 | 287 => 85 | 316 => 44 | 171 => 75 | 205 => 86 | 321 => 88 | 322 => 89 | 243 => 84 | 246 => 87 | 283 => 90 | 284 => 91 | 285 => 92 | 286 => 93 | 129 => 95 | 317 => 94 | 318 => 96 | 319 => 97 | 320 => 98 | 337 => 99 | 338 => 100 | n => n, fun | 9 => 9 | 3 => 3 | 75 => 104 | 76 => 105 | 4 => 4 | 5 => 5 | 167 => 113 | 37 => 35 | 0 => 0 | 85 => 114 | 2 => 2 | 168 => 116 | 53 => 119 | 175 => 120 | 46 => 122 | 210 => 124 | 127 => 97 | 145 => 130 | 143 => 128 | 21 => 21 | 171 => 131 | 173 => 134 | 212 => 137 | 51 => 138 | 20 => 20 | 213 => 139 | 232 => 143 | 233 => 144 | 80 => 145 | n => n, fun | 15 => 2 | 16 => 3 | 17 => 4 | 18 => 5 | 19 => 6 | n => n⟩
theorem Tryd.laysC172 : Go.Proofs.LaysC.n172 Tryd.prog Tryd.laysC172_ren := {
  mixed := by kernel_rfl
  f129 := Tryd.func95.trans (congrArg some (by kernel_rfl))
  f171 := Tryd.func75.trans (congrArg some (by kernel_rfl))
  f172 := Tryd.func67.trans (congrArg some (by kernel_rfl))
  f205 := Tryd.func86.trans (congrArg some (by kernel_rfl))
  f243 := Tryd.func84.trans (congrArg some (by kernel_rfl))
  f244 := Tryd.func73.trans (congrArg some (by kernel_rfl))
  f245 := Tryd.func74.trans (congrArg some (by kernel_rfl))
  f246 := Tryd.func87.trans (congrArg some (by kernel_rfl))
  f247 := Tryd.func79.trans (congrArg some (by kernel_rfl))
  f279 := Tryd.func80.trans (congrArg some (by kernel_rfl))
  f280 := Tryd.func81.trans (congrArg some (by kernel_rfl))
  f281 := Tryd.func82.trans (congrArg some (by kernel_rfl))
  f282 := Tryd.func83.trans (congrArg some (by kernel_rfl))
  f283 := Tryd.func90.trans (congrArg some (by kernel_rfl))
  f284 := Tryd.func91.trans (congrArg some (by kernel_rfl))
  f285 := Tryd.func92.trans (congrArg some (by kernel_rfl))
  f286 := Tryd.func93.trans (congrArg some (by kernel_rfl))
  f287 := Tryd.func85.trans (congrArg some (by kernel_rfl))
  f316 := Tryd.func44.trans (congrArg some (by kernel_rfl))
  f317 := Tryd.func94.trans (congrArg some (by kernel_rfl))
  f318 := Tryd.func96.trans (congrArg some (by kernel_rfl))
  f319 := Tryd.func97.trans (congrArg some (by kernel_rfl))
  f320 := Tryd.func98.trans (congrArg some (by kernel_rfl))
  f321 := Tryd.func88.trans (congrArg some (by kernel_rfl))
  f322 := Tryd.func89.trans (congrArg some (by kernel_rfl))
  f337 := Tryd.func99.trans (congrArg some (by kernel_rfl))
  f338 := Tryd.func100.trans (congrArg some (by kernel_rfl))
  t0 := Tryd.underlying0
  a0 := Tryd.isAgg0
  z0 := Tryd.sizeOf0
  v0 := Tryd.zeroValue0
  t2 := Tryd.underlying2
  a2 := Tryd.isAgg2
  z2 := Tryd.sizeOf2
  v2 := Tryd.zeroValue2
  t3 := Tryd.underlying3
  a3 := Tryd.isAgg3
  z3 := Tryd.sizeOf3
  v3 := Tryd.zeroValue3
  t4 := Tryd.underlying4
  a4 := Tryd.isAgg4
  z4 := Tryd.sizeOf4
  v4 := Tryd.zeroValue4
  t5 := Tryd.underlying5
  a5 := Tryd.isAgg5
  z5 := Tryd.sizeOf5
  v5 := Tryd.zeroValue5
  t9 := Tryd.underlying9
  a9 := Tryd.isAgg9
  z9 := Tryd.sizeOf9
  v9 := Tryd.zeroValue9
  t20 := Tryd.underlying20
  a20 := Tryd.isAgg20
  z20 := Tryd.sizeOf20
  v20 := Tryd.zeroValue20
  t21 := Tryd.underlying21
  a21 := Tryd.isAgg21
  z21 := Tryd.sizeOf21
  v21 := Tryd.zeroValue21
  t37 := Tryd.underlying35
  a37 := Tryd.isAgg35
  z37 := Tryd.sizeOf35
  v37 := Tryd.zeroValue35
  t46 := Tryd.underlying122
  a46 := Tryd.isAgg122
  z46 := Tryd.sizeOf122
  v46 := Tryd.zeroValue122
  t51 := Tryd.underlying138
  a51 := Tryd.isAgg138
  z51 := Tryd.sizeOf138
  v51 := Tryd.zeroValue138
  t53 := Tryd.underlying119
  a53 := Tryd.isAgg119
  z53 := Tryd.sizeOf119
  v53 := Tryd.zeroValue119
  t75 := Tryd.underlying104
  a75 := Tryd.isAgg104
  z75 := Tryd.sizeOf104
  v75 := Tryd.zeroValue104
  t76 := Tryd.underlying105
  a76 := Tryd.isAgg105
  z76 := Tryd.sizeOf105
  v76 := Tryd.zeroValue105
  t85 := Tryd.underlying114
  a85 := Tryd.isAgg114
  z85 := Tryd.sizeOf114
  v85 := Tryd.zeroValue114
  t127 := Tryd.underlying97
  a127 := Tryd.isAgg97
  z127 := Tryd.sizeOf97
  v127 := Tryd.zeroValue97
  t143 := Tryd.underlying128
  a143 := Tryd.isAgg128
  z143 := Tryd.sizeOf128
  v143 := Tryd.zeroValue128
  t145 := Tryd.underlying130
  a145 := Tryd.isAgg130
  z145 := Tryd.sizeOf130
  v145 := Tryd.zeroValue130
  t167 := Tryd.underlying113
  a167 := Tryd.isAgg113
  z167 := Tryd.sizeOf113
  v167 := Tryd.zeroValue113
  t168 := Tryd.underlying116
  a168 := Tryd.isAgg116
  z168 := Tryd.sizeOf116
  v168 := Tryd.zeroValue116
  t171 := Tryd.underlying131
  a171 := Tryd.isAgg131
  z171 := Tryd.sizeOf131
  v171 := Tryd.zeroValue131
  t173 := Tryd.underlying134
  a173 := Tryd.isAgg134
  z173 := Tryd.sizeOf134
  v173 := Tryd.zeroValue134
  t175 := Tryd.underlying120
  a175 := Tryd.isAgg120
  z175 := Tryd.sizeOf120
  v175 := Tryd.zeroValue120
  t210 := Tryd.underlying124
  a210 := Tryd.isAgg124
  z210 := Tryd.sizeOf124
  v210 := Tryd.zeroValue124
  t212 := Tryd.underlying137
  a212 := Tryd.isAgg137
  z212 := Tryd.sizeOf137
  v212 := Tryd.zeroValue137
  t213 := Tryd.underlying139
  a213 := Tryd.isAgg139
  z213 := Tryd.sizeOf139
  t232 := Tryd.underlying143
  a232 := Tryd.isAgg143
  z232 := Tryd.sizeOf143
  v232 := Tryd.zeroValue143
  t233 := Tryd.underlying144
  a233 := Tryd.isAgg144
  z233 := Tryd.sizeOf144
  v233 := Tryd.zeroValue144
  g15 := by kernel_rfl
  g16 := by kernel_rfl
  g17 := by kernel_rfl
  g18 := by kernel_rfl
  g19 := by kernel_rfl
  t80 := Tryd.underlying145
  a80 := Tryd.isAgg145
  z80 := Tryd.sizeOf145
  v80 := Tryd.zeroValue145
  i0 := by kernel_rfl
  i2 := by kernel_rfl
  i3 := by kernel_rfl
  i4 := by kernel_rfl
  i5 := by kernel_rfl
  i9 := by kernel_rfl
  i20 := by kernel_rfl
  i21 := by kernel_rfl
  i37 := by kernel_rfl
  i46 := by kernel_rfl
  i51 := by kernel_rfl
  i53 := by kernel_rfl
  i75 := by kernel_rfl
  i76 := by kernel_rfl
  i80 := by kernel_rfl
  i85 := by kernel_rfl
  i127 := by kernel_rfl
  i143 := by kernel_rfl
  i145 := by kernel_rfl
  i167 := by kernel_rfl
  i168 := by kernel_rfl
  i171 := by kernel_rfl
  i173 := by kernel_rfl
  i175 := by kernel_rfl
  i210 := by kernel_rfl
  i212 := by kernel_rfl
  i232 := by kernel_rfl
  i233 := by kernel_rfl
  m15 := by kernel_rfl
  m16 := by kernel_rfl
  m17 := by kernel_rfl
  m18 := by kernel_rfl
  m19 := by kernel_rfl
  c0 := by kernel_rfl
  c2 := by kernel_rfl
  c3 := by kernel_rfl
  c4 := by kernel_rfl
  c5 := by kernel_rfl
  c9 := by kernel_rfl
  c20 := by kernel_rfl
  c21 := by kernel_rfl
  c37 := by kernel_rfl
  c46 := by kernel_rfl
  c51 := by kernel_rfl
  c53 := by kernel_rfl
  c75 := by kernel_rfl
  c76 := by kernel_rfl
  c80 := by kernel_rfl
  c85 := by kernel_rfl
  c127 := by kernel_rfl
  c143 := by kernel_rfl
  c145 := by kernel_rfl
  c167 := by kernel_rfl
  c168 := by kernel_rfl
  c171 := by kernel_rfl
  c173 := by kernel_rfl
  c175 := by kernel_rfl
  c210 := by kernel_rfl
  c212 := by kernel_rfl
  c213 := by kernel_rfl
  c232 := by kernel_rfl
  c233 := by kernel_rfl }
open Go.RowKit in
/-- strconv.Atoi, AT EVERY STRING THAT SPELLS AN int ('Lib.atoiAll .. = .ok v'; of whatever length: leading zeros count): v, AND NO ERROR. The world: as it was, or with the one new row that '[]byte(..)' lays. (LAID: no walk: one application.) -/
theorem Tryd.strconv_Atoi_ok (s : ByteArray) (hmax : s.size ≤ 9223372036854775806) (v : Int) (h : Lib.atoiAll s.data.toList = .ok v) (w : World) :
    Calls Tryd.prog 67 #[.string s] w fun e w' => e = .returned (.tuple #[.int .i64 v, .nilIface]) ∧ (w' = w ∨ ∃ t, w' = Lib.bytesWorld w 5 t) := Any.strconv_Atoi_ok Tryd.laysC172 s hmax v h w
open Go.RowKit in
/-- strconv.Atoi, at every string that is no decimal numeral. -/
theorem Tryd.strconv_Atoi_fault (s : ByteArray) (hlim : s.size ≤ 281474976710656) (h1 : ∀ v, Lib.atoiAll s.data.toList ≠ .ok v) (h2 : Lib.atoiAll s.data.toList ≠ .range) (ev : Value) (w : World) (hv : w.cell? ⟨2, 0, none⟩ = some ev) (hev : ev = .nilIface ∨ ∃ te pe, ev = .iface te pe) :
    Calls Tryd.prog 67 #[.string s] w fun e w' => ∃ N, e = .returned (.tuple #[.int .i64 (0), .iface 116 (.pointer (some ⟨N, 0, none⟩))]) ∧ w.heap.size ≤ N ∧ w'.heap[N]? = some (.cells #[.string ⟨#[65, 116, 111, 105]⟩, .string s, ev] 124 (0, 0)) ∧ Below w.heap.size w w' := by
  rcases ha : Lib.atoiAll s.data.toList with v | _ | _
  · exact absurd ha (h1 v)
  · exact Any.strconv_Atoi_syntax Tryd.laysC172 s hlim ha ev w hv hev
  · exact absurd ha h2
open Go.RowKit in
/-- strconv.Atoi, AT EVERY NUMERAL THAT NO int HOLDS ('.range'): THE GREATEST OR THE LEAST int, BY THE SIGN ('Lib.atoiSat'), AND AN ERROR THAT IS NOT nil: a *NumError in a new block N: {Func: "Atoi", Num: s's bytes, Err: what the variable ErrRange holds}. Of what was there nothing has turned. (LAID: no walk: one application.) -/
theorem Tryd.strconv_Atoi_range (s : ByteArray) (hlim : s.size ≤ 281474976710656) (h : Lib.atoiAll s.data.toList = .range) (ev : Value) (w : World) (hv : w.cell? ⟨3, 0, none⟩ = some ev) (hev : ev = .nilIface ∨ ∃ te pe, ev = .iface te pe) :
    Calls Tryd.prog 67 #[.string s] w fun e w' => ∃ N, e = .returned (.tuple #[.int .i64 (Lib.atoiSat s.data.toList), .iface 116 (.pointer (some ⟨N, 0, none⟩))]) ∧ w.heap.size ≤ N ∧ w'.heap[N]? = some (.cells #[.string ⟨#[65, 116, 111, 105]⟩, .string s, ev] 124 (0, 0)) ∧ Below w.heap.size w w' := Any.strconv_Atoi_range Tryd.laysC172 s hlim h ev w hv hev
end Go.Proofs
