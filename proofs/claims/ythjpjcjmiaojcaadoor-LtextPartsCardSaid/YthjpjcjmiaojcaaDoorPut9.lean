/- Contracts that the claim stands on, several texts in one: LexTks, LtxPart2, LtlWorkI, LtlIa. -/
import Derived.Lib.Join
import Derived.Deep.RegionHeld3
import Derived.Shelf.Abstract
import Derived.Test.YthjpjcjmiaojcaaDoorPut1
import Derived.Test.YthjpjcjmiaojcaaDoorPut2
import Derived.Test.YthjpjcjmiaojcaaDoorPut3
import Derived.Test.YthjpjcjmiaojcaaDoorPut4
import Derived.Test.YthjpjcjmiaojcaaDoorPut5
import Derived.Test.YthjpjcjmiaojcaaDoorPut6
import Derived.Test.YthjpjcjmiaojcaaDoorPut7
import Derived.Test.YthjpjcjmiaojcaaDoorPut8
namespace Go.Proofs.YthjpjcjmiaojcaaDoor.lx
open Go.ChangeShapes Go.WideShapes Go.ChangeAt Go.RowKit Go.Deep

/-- From a place on these tokens come, and nothing is wrong. -/
inductive Tks (nm : List UInt8 → Int × Bool) (s : ByteArray) : Nat → List Tok → Prop
  | done {a : Nat} (h : s.size ≤ a) : Tks nm s a []
  | blank {a : Nat} {L : List Tok} (h : a < s.size) (hb : blankB (bt s a) = true) (hh : Tks nm s (a + 1) L) : Tks nm s a L
  | remark {a : Nat} {L : List Tok} (h : a < s.size) (hb : bt s a = 35) (hh : Tks nm s (lineE s a) L) : Tks nm s a L
  | token {a : Nat} {L : List Tok} {k : Nat} {n : Int} {m : Nat} (h : a < s.size) (hb : blankB (bt s a) = false) (hr : bt s a ≠ 35) (hf : firstP nm (tailS s a) = .ok (k, n, m)) (hh : Tks nm s (a + m) L) : Tks nm s a (⟨k, n, a, s.extract a (a + m)⟩ :: L)
theorem first_wrong {nm : List UInt8 → Int × Bool} {s : ByteArray} {why : Nat} (h : firstP nm s = .error why) : why ≠ 0 := by
  unfold firstP at h
  repeat' split at h
  all_goals first
    | (injection h with h; omega)
    | cases h
theorem Sc.tks {nm : List UInt8 → Int × Bool} {s : ByteArray} {a : Nat} {l : List Tok} {r : Res} (h : Sc nm s a l r) : r.2.2 = 0 → ∃ T, r = (l ++ T, 0, 0) ∧ Tks nm s a T ∧ (l.length ≤ 6000 → l.length + T.length ≤ 6000) := by
  induction h with
  | done h1 => intro _; exact ⟨[], by simp, .done h1, fun h => by simpa using h⟩
  | blank h1 hb _ ih => intro h0; obtain ⟨T, e, t, z⟩ := ih h0; exact ⟨T, e, .blank h1 hb t, z⟩
  | remark h1 hb _ ih => intro h0; obtain ⟨T, e, t, z⟩ := ih h0; exact ⟨T, e, .remark h1 hb t, z⟩
  | many => intro h0; cases h0
  | wrong _ _ _ _ hf => intro h0; exact absurd h0 (first_wrong hf)
  | @token a l k n m r h1 hb hr hl hf hh ih =>
    intro h0
    obtain ⟨T, e, t, z⟩ := ih h0
    refine ⟨⟨k, n, a, s.extract a (a + m)⟩ :: T, ?_, .token h1 hb hr hf t, fun h => ?_⟩
    · rw [e]; simp
    · have h5 : (l ++ [(⟨k, n, a, s.extract a (a + m)⟩ : Tok)]).length = l.length + 1 := by simp
      have h6 := z (by rw [h5]; omega)
      rw [h5] at h6
      rw [List.length_cons]
      omega
theorem Sc.err {nm : List UInt8 → Int × Bool} {s : ByteArray} {a : Nat} {l : List Tok} {r : Res} (h : Sc nm s a l r) : r.2.2 ≠ 0 → r.1 = [] := by
  induction h with
  | done => intro h; exact absurd rfl h
  | blank _ _ _ ih => exact ih
  | remark _ _ _ ih => exact ih
  | many => intro _; rfl
  | wrong => intro _; rfl
  | token _ _ _ _ _ _ ih => exact ih
theorem Tks.sc {nm : List UInt8 → Int × Bool} {s : ByteArray} {a : Nat} {T : List Tok} (h : Tks nm s a T) : ∀ l : List Tok, l.length + T.length ≤ 6000 → Sc nm s a l (l ++ T, 0, 0) := by
  induction h with
  | done h1 => intro l _; rw [List.append_nil]; exact .done h1
  | blank h1 hb _ ih => intro l h; exact .blank h1 hb (ih l h)
  | remark h1 hb _ ih => intro l h; exact .remark h1 hb (ih l h)
  | @token a L k n m h1 hb hr hf hh ih =>
    intro l h
    refine .token h1 hb hr (by simp at h; omega) hf ?_
    have := ih (l ++ [⟨k, n, a, s.extract a (a + m)⟩]) (by simp at h ⊢; omega)
    rw [List.append_assoc] at this
    exact this
theorem wordN_spec (s : ByteArray) : wordN s ≤ s.size ∧ (∀ i, i < wordN s → okB i (bt s i) = true) ∧ (wordN s < s.size → okB (wordN s) (bt s (wordN s)) = false) := by
  obtain ⟨_, h2, h3, h4⟩ := low_spec okB_high' s s.size 0 (by omega) (by omega)
  exact ⟨h2, fun i h => h3 i (Nat.zero_le _) h, h4⟩
theorem digN_spec (s : ByteArray) : digN s ≤ s.size ∧ (∀ i, i < digN s → digB (bt s i) = true) ∧ (digN s < s.size → digB (bt s (digN s)) = false) := by
  obtain ⟨_, h2, h3, h4⟩ := low_spec dgB_high s s.size 0 (by omega) (by omega)
  exact ⟨h2, fun i h => h3 i (Nat.zero_le _) h, h4⟩
theorem wordN_of {s : ByteArray} {e : Nat} (h1 : e ≤ s.size) (h2 : ∀ i, i < e → okB i (bt s i) = true) (h3 : e < s.size → okB e (bt s e) = false) : wordN s = e := by
  obtain ⟨a, b, c⟩ := wordN_spec s
  exact first_one (q := fun i => okB i (bt s i) = true) (n := s.size) (pos := 0) ⟨Nat.zero_le _, a, fun i _ => b i, fun h => by rw [c h]; decide⟩ ⟨Nat.zero_le _, h1, fun i _ => h2 i, fun h => by rw [h3 h]; decide⟩
theorem digN_of {s : ByteArray} {e : Nat} (h1 : e ≤ s.size) (h2 : ∀ i, i < e → digB (bt s i) = true) (h3 : e < s.size → digB (bt s e) = false) : digN s = e := by
  obtain ⟨a, b, c⟩ := digN_spec s
  exact first_one (q := fun i => digB (bt s i) = true) (n := s.size) (pos := 0) ⟨Nat.zero_le _, a, fun i _ => b i, fun h => by rw [c h]; decide⟩ ⟨Nat.zero_le _, h1, fun i _ => h2 i, fun h => by rw [h3 h]; decide⟩
theorem ext_bt {x y : ByteArray} (h : x.size = y.size) (hb : ∀ i, i < x.size → bt x i = bt y i) : x = y := by
  apply ByteArray.ext
  apply Array.ext
  · exact h
  · intro i h1 h2
    have h3 : i < x.size := h1
    have h4 : i < y.size := h2
    have e := hb i h3
    rw [bt_eq h3, bt_eq h4] at e
    exact UInt8.toNat_inj.1 e
theorem bt_extract {s : ByteArray} {a b i : Nat} (h : a + i < b) (hb : b ≤ s.size) : bt (s.extract a b) i = bt s (a + i) := by
  have h1 : i < (s.extract a b).size := by rw [ByteArray.size_extract]; omega
  rw [bt_eq h1, bt_eq (show a + i < s.size by omega)]
  simp [ByteArray.getElem_extract]
theorem okB_32 (i : Nat) : okB i 32 = false := by unfold okB; rw [show letB (32 : Nat) = false by decide, show digB (32 : Nat) = false by decide]; simp
theorem twoB_32 (a : Nat) : twoB a 32 = false := by unfold twoB; simp
/-- Whatever begins with the token's bytes, and has a blank behind them, or nothing, begins with that token. -/
def GoodT (nm : List UInt8 → Int × Bool) (t : Tok) : Prop :=
  0 < t.text.size ∧ ∀ u : ByteArray, t.text.size ≤ u.size → (∀ i, i < t.text.size → bt u i = bt t.text i) → (t.text.size < u.size → bt u t.text.size = 32) → firstP nm u = .ok (t.kind, t.num, t.text.size)
theorem first_le {nm : List UInt8 → Int × Bool} {s : ByteArray} {k m : Nat} {n : Int} (hf : firstP nm s = .ok (k, n, m)) : 0 < m ∧ m ≤ s.size := by
  have h0 : 0 < s.size := by
    rcases Nat.eq_zero_or_pos s.size with h | h
    · exfalso
      have a := (wordN_spec s).1
      have b := (digN_spec s).1
      unfold firstP at hf
      rw [if_neg (by omega), if_neg (by omega), if_neg (by omega), if_neg (by unfold signN; rw [if_neg (by omega), if_neg (by omega)]; omega)] at hf
      cases hf
    · exact h
  have := first_ok (s := s) (a := 0) h0 (by rw [show tailS s 0 = s by unfold tailS; exact ByteArray.extract_zero_size]; exact hf)
  omega
theorem good_first {nm : List UInt8 → Int × Bool} {s : ByteArray} {p k m : Nat} {n : Int} (hf : firstP nm s = .ok (k, n, m)) : GoodT nm ⟨k, n, p, s.extract 0 m⟩ := by
  obtain ⟨hm0, hm1⟩ := first_le hf
  have hz : (s.extract 0 m).size = m := by rw [ByteArray.size_extract]; omega
  refine ⟨by show 0 < (s.extract 0 m).size; omega, fun u hu hb he => ?_⟩
  have hu2 : m ≤ u.size := by rw [← hz]; exact hu
  have hb2 : ∀ i, i < m → bt u i = bt s i := fun i hi => by
    have := hb i (by show i < (s.extract 0 m).size; omega)
    rw [this]
    show bt (s.extract 0 m) i = bt s i
    rw [bt_extract (by omega) hm1, Nat.zero_add]
  have he2 : m < u.size → bt u m = 32 := fun h => by
    have := he (by show (s.extract 0 m).size < _; omega)
    rw [show (⟨k, n, p, s.extract 0 m⟩ : Tok).text.size = m from hz] at this
    exact this
  clear hu hb he
  show firstP nm u = .ok (k, n, (s.extract 0 m).size)
  rw [hz]
  have hxx : u.extract 0 m = s.extract 0 m := ext_bt (by rw [hz, ByteArray.size_extract]; omega) (fun i hi => by
    rw [ByteArray.size_extract] at hi
    rw [bt_extract (by omega) hu2, bt_extract (by omega) hm1, Nat.zero_add]
    exact hb2 i (by omega))
  obtain ⟨w1, w2, w3⟩ := wordN_spec s
  obtain ⟨d1, d2, d3⟩ := digN_spec s
  unfold firstP at hf
  by_cases h16 : 16 < wordN s
  · rw [if_pos h16] at hf; cases hf
  · rw [if_neg h16] at hf
    by_cases h0 : 0 < wordN s
    · rw [if_pos h0] at hf
      injection hf with hf
      injection hf with e1 hf
      injection hf with e2 e3
      subst e1 e2
      have hw : wordN u = m := wordN_of hu2 (fun i hi => by rw [hb2 i hi]; exact w2 i (by omega)) (fun h => by rw [he2 h]; exact okB_32 m)
      unfold firstP
      rw [if_neg (by omega), if_pos (by omega), hw]
    · rw [if_neg h0] at hf
      have hw : wordN u = 0 := wordN_of (Nat.zero_le _) (fun i hi => by omega) (fun h => by
        rw [hb2 0 hm0]
        have h00 : wordN s = 0 := by omega
        rw [h00] at w3
        exact w3 (by omega))
      by_cases hd : 0 < digN s
      · rw [if_pos hd] at hf
        by_cases hn : (nm (s.extract 0 (digN s)).data.toList).2 = true
        · rw [if_pos hn] at hf
          injection hf with hf
          injection hf with e1 hf
          injection hf with e2 e3
          rw [e3] at d2 hn e2
          have hdd : digN u = m := digN_of hu2 (fun i hi => by rw [hb2 i hi]; exact d2 i hi) (fun h => by rw [he2 h]; decide)
          unfold firstP
          rw [if_neg (by omega), if_neg (by omega), if_pos (by omega), hdd, hxx, if_pos hn, e2, e1]
        · rw [if_neg hn] at hf; cases hf
      · rw [if_neg hd] at hf
        have hdd : digN u = 0 := digN_of (Nat.zero_le _) (fun i hi => by omega) (fun h => by
          rw [hb2 0 hm0]
          have h00 : digN s = 0 := by omega
          rw [h00] at d3
          exact d3 (by omega))
        by_cases hs : 0 < signN s
        · rw [if_pos hs] at hf
          injection hf with hf
          injection hf with e1 hf
          injection hf with e2 e3
          have hss : signN u = m := by
            unfold signN at e3 hs ⊢
            by_cases c2 : 1 < s.size ∧ twoB (bt s 0) (bt s 1) = true
            · rw [if_pos c2] at e3
              rw [if_pos ⟨by omega, by rw [hb2 0 (by omega), hb2 1 (by omega)]; exact c2.2⟩, e3]
            · rw [if_neg c2] at e3 hs
              by_cases c1 : 0 < s.size ∧ oneB (bt s 0) = true
              · rw [if_pos c1] at e3
                rw [if_neg (fun c => by
                  have h1 := he2 (by omega)
                  rw [← e3] at h1
                  have h2 := c.2
                  rw [h1, twoB_32] at h2
                  cases h2), if_pos ⟨by omega, by rw [hb2 0 (by omega)]; exact c1.2⟩, e3]
              · rw [if_neg c1] at hs; omega
          unfold firstP
          rw [if_neg (by omega), if_neg (by omega), if_neg (by omega), if_pos (by omega), hss, e1, e2]
        · rw [if_neg hs] at hf; cases hf
theorem extract_tail {s : ByteArray} {a m : Nat} : (tailS s a).extract 0 m = s.extract a (min (a + m) s.size) := by
  unfold tailS
  rw [ByteArray.extract_extract]
  congr 1
theorem extract_tail_in {s : ByteArray} {a m : Nat} (h : a + m ≤ s.size) : (tailS s a).extract 0 m = s.extract a (a + m) := by
  rw [extract_tail, Nat.min_eq_left h]
theorem Tks.good {nm : List UInt8 → Int × Bool} {s : ByteArray} {a : Nat} {T : List Tok} (h : Tks nm s a T) : ∀ t ∈ T, GoodT nm t := by
  induction h with
  | done => intro t h; cases h
  | blank _ _ _ ih => exact ih
  | remark _ _ _ ih => exact ih
  | @token a L k n m h1 hb hr hf hh ih =>
    intro t ht
    rcases List.mem_cons.1 ht with rfl | ht
    · have h2 := (first_ok h1 hf).2.1
      have := good_first (p := a) hf
      rw [extract_tail_in h2] at this
      exact this
    · exact ih t ht
theorem first_not_blank {nm : List UInt8 → Int × Bool} {s : ByteArray} {k m : Nat} {n : Int} (hf : firstP nm s = .ok (k, n, m)) : blankB (bt s 0) = false ∧ bt s 0 ≠ 35 := by
  obtain ⟨hm0, hm1⟩ := first_le hf
  have key : ∀ b : Nat, letB b = false → digB b = false → oneB b = false → (∀ c, twoB b c = false) → bt s 0 ≠ b := by
    intro b q1 q2 q3 q4 e
    have hw : wordN s = 0 := wordN_of (Nat.zero_le _) (fun i hi => by omega) (fun _ => by rw [e, ok_first]; exact q1)
    have hd : digN s = 0 := digN_of (Nat.zero_le _) (fun i hi => by omega) (fun _ => by rw [e]; exact q2)
    have hs : signN s = 0 := by
      unfold signN
      rw [e, q3, if_neg (fun c => by have := c.2; rw [q4] at this; cases this), if_neg (fun c => by cases c.2)]
    unfold firstP at hf
    rw [if_neg (by omega), if_neg (by omega), if_neg (by omega), if_neg (by omega)] at hf
    cases hf
  have k1 := key 32 (by decide) (by decide) (by decide) (fun c => by unfold twoB; simp)
  have k2 := key 10 (by decide) (by decide) (by decide) (fun c => by unfold twoB; simp)
  have k3 := key 35 (by decide) (by decide) (by decide) (fun c => by unfold twoB; simp)
  refine ⟨?_, k3⟩
  unfold blankB
  simp [k1, k2]
/-- The same tokens, but for their places. -/
inductive SameT : List Tok → List Tok → Prop
  | nil : SameT [] []
  | cons {x y : Tok} {l r : List Tok} (h1 : x.kind = y.kind) (h2 : x.num = y.num) (h3 : x.text = y.text) (h : SameT l r) : SameT (x :: l) (y :: r)
theorem SameT.len {l r : List Tok} (h : SameT l r) : l.length = r.length := by
  induction h with
  | nil => rfl
  | cons _ _ _ _ ih => simp [ih]
/-- The tokens' texts, a blank between each two. -/
def textL (T : List Tok) : List UInt8 := Lib.join (T.map fun t => t.text.data.toList) [32]
theorem textL_nil : textL [] = [] := rfl
theorem textL_one (t : Tok) : textL [t] = t.text.data.toList := Lib.join_one _ _
theorem textL_cons (t x : Tok) (r : List Tok) : textL (t :: x :: r) = t.text.data.toList ++ 32 :: textL (x :: r) := by
  unfold textL
  rw [List.map_cons, List.map_cons, Lib.join_cons, Lib.join_cons]
  simp [Lib.joinTail]
theorem tail_tail {u : ByteArray} {a m : Nat} (h : a + m ≤ u.size) : tailS (tailS u a) m = tailS u (a + m) := by
  unfold tailS
  rw [ByteArray.extract_extract]
  congr 1
  rw [ByteArray.size_extract]; omega
theorem tail_app (x y : List UInt8) : tailS ⟨(x ++ y).toArray⟩ x.length = ⟨y.toArray⟩ := by
  unfold tailS
  apply ByteArray.ext
  rw [ByteArray.data_extract]
  show ((x ++ y).toArray).extract x.length (x ++ y).toArray.size = y.toArray
  simp
theorem size_list (x : List UInt8) : (⟨x.toArray⟩ : ByteArray).size = x.length := by show x.toArray.size = _; simp
theorem bt_app_left {x y : List UInt8} {i : Nat} (h : i < x.length) : bt ⟨(x ++ y).toArray⟩ i = bt ⟨x.toArray⟩ i := by
  rw [bt_eq (by rw [size_list, List.length_append]; omega), bt_eq (by rw [size_list]; exact h)]
  show ((x ++ y).toArray[i]'_).toNat = (x.toArray[i]'_).toNat
  simp [List.getElem_append_left h]
theorem bt_app_right {x y : List UInt8} (h : 0 < y.length) : bt ⟨(x ++ y).toArray⟩ x.length = bt ⟨y.toArray⟩ 0 := by
  rw [bt_eq (by rw [size_list, List.length_append]; omega), bt_eq (by rw [size_list]; exact h)]
  show ((x ++ y).toArray[x.length]'_).toNat = (y.toArray[0]'_).toNat
  simp
theorem mk_list (t : ByteArray) : (⟨t.data.toList.toArray⟩ : ByteArray) = t := by apply ByteArray.ext; simp
theorem size_toList (t : ByteArray) : t.data.toList.length = t.size := by rw [Array.length_toList]; rfl
theorem join_tks {nm : List UInt8 → Int × Bool} {u : ByteArray} : ∀ (T : List Tok), (∀ t ∈ T, GoodT nm t) → ∀ a, a ≤ u.size → tailS u a = ⟨(textL T).toArray⟩ → ∃ T', Tks nm u a T' ∧ SameT T T'
  | [], _, a, ha, h => by
    refine ⟨[], .done ?_, .nil⟩
    have := congrArg ByteArray.size h
    rw [tail_size, size_list (textL []), textL_nil] at this
    simp at this; omega
  | [t], hg, a, ha, h => by
    obtain ⟨g0, g1⟩ := hg t (by simp)
    rw [textL_one, mk_list] at h
    have hz := congrArg ByteArray.size h
    rw [tail_size] at hz
    have hf := g1 t.text (Nat.le_refl _) (fun i _ => rfl) (fun h => by omega)
    rw [← h] at hf
    obtain ⟨n1, n2⟩ := first_not_blank hf
    rw [tail_bt (by omega), Nat.add_zero] at n1 n2
    refine ⟨_, .token (by omega) n1 n2 hf (.done (by rw [h]; omega)), .cons rfl rfl ?_ .nil⟩
    show t.text = u.extract a (a + (tailS u a).size)
    rw [tail_size, show a + (u.size - a) = u.size by omega]
    exact h.symm
  | t :: x :: r, hg, a, ha, h => by
    obtain ⟨g0, g1⟩ := hg t (by simp)
    rw [textL_cons] at h
    have hz := congrArg ByteArray.size h
    rw [tail_size, size_list (t.text.data.toList ++ 32 :: textL (x :: r)), List.length_append, size_toList, List.length_cons] at hz
    have b1 : ∀ i, i < t.text.size → bt (tailS u a) i = bt t.text i := fun i hi => by
      rw [h, bt_app_left (by rw [size_toList]; exact hi), mk_list]
    have b2 : bt (tailS u a) t.text.size = 32 := by
      rw [h, ← size_toList, bt_app_right (by simp)]
      rfl
    have hf := g1 (tailS u a) (by rw [tail_size]; omega) b1 (fun _ => b2)
    obtain ⟨n1, n2⟩ := first_not_blank hf
    rw [tail_bt (by omega), Nat.add_zero] at n1 n2
    rw [tail_bt (by omega)] at b2
    have ht : tailS u (a + t.text.size) = ⟨(32 :: textL (x :: r)).toArray⟩ := by
      rw [← tail_tail (by omega), h, ← size_toList, tail_app]
    have ht2 : tailS u (a + t.text.size + 1) = ⟨(textL (x :: r)).toArray⟩ := by
      rw [← tail_tail (by omega), ht]
      exact tail_app [32] (textL (x :: r))
    obtain ⟨T', k1, k2⟩ := join_tks (x :: r) (fun y hy => hg y (by simp at hy ⊢; right; exact hy)) (a + t.text.size + 1) (by omega) ht2
    refine ⟨_, .token (by omega) n1 n2 hf (.blank (by omega) (by rw [b2]; decide) k1), .cons rfl rfl ?_ k2⟩
    show t.text = u.extract a (a + t.text.size)
    rw [← extract_tail_in (by omega)]
    refine ext_bt (by rw [ByteArray.size_extract, tail_size]; omega) (fun i hi => ?_)
    rw [bt_extract (by omega) (by rw [tail_size]; omega), Nat.zero_add, b1 i hi]
/-- Blanks, line's ends and remarks alone lead from one place to another one. -/
inductive Gap (s : ByteArray) : Nat → Nat → Prop
  | here (a : Nat) : Gap s a a
  | blank {a b : Nat} (h : a < s.size) (hb : blankB (bt s a) = true) (hh : Gap s (a + 1) b) : Gap s a b
  | remark {a b : Nat} (h : a < s.size) (hb : bt s a = 35) (hh : Gap s (lineE s a) b) : Gap s a b
theorem lineE_spec {s : ByteArray} {a : Nat} (h : a < s.size) : a ≤ lineE s a ∧ lineE s a ≤ s.size ∧ (∀ i, a ≤ i → i < lineE s a → bt s i ≠ 10) ∧ (lineE s a < s.size → bt s (lineE s a) = 10) := by
  obtain ⟨g1, g2, g3, g4⟩ := runE_spec (fun b => !decide (b = 10)) s s.size a (by omega) (by omega)
  unfold lineE
  refine ⟨g1, g2, fun i e1 e2 => ?_, fun e => ?_⟩
  · have := g3 i e1 e2; simpa using this
  · have := g4 e; simpa using this
theorem lineE_of {s : ByteArray} {a e : Nat} (h : a < s.size) (h1 : a ≤ e) (h2 : e ≤ s.size) (h3 : ∀ i, a ≤ i → i < e → bt s i ≠ 10) (h4 : e < s.size → bt s e = 10) : lineE s a = e := by
  obtain ⟨g1, g2, g3, g4⟩ := lineE_spec h
  exact first_one (q := fun i => bt s i ≠ 10) (n := s.size) (pos := a) ⟨g1, g2, g3, fun h => by simpa using g4 h⟩ ⟨h1, h2, h3, fun h => by simpa using h4 h⟩
theorem lineE_gt {s : ByteArray} {a : Nat} (h : a < s.size) (hb : bt s a = 35) : a < lineE s a := by
  obtain ⟨g1, g2, g3, g4⟩ := lineE_spec h
  rcases Nat.lt_or_ge a (lineE s a) with h5 | h5
  · exact h5
  · have e : lineE s a = a := by omega
    rw [e] at g4
    have := g4 h
    omega
theorem Gap.le {s : ByteArray} {a b : Nat} (h : Gap s a b) : a ≤ b := by
  induction h with
  | here => exact Nat.le_refl _
  | blank _ _ _ ih => omega
  | remark h hb _ ih => have := lineE_gt h hb; omega
theorem Gap.sc {nm : List UInt8 → Int × Bool} {s : ByteArray} {a b e : Nat} {l : List Tok} (h : Gap s a b) : b ≤ s.size → e ≤ a → Sc nm (s.extract e b) (a - e) l (l, 0, 0) := by
  induction h with
  | here a => intro hb he; exact .done (by rw [ByteArray.size_extract]; omega)
  | @blank a b h1 hbl hh ih =>
    intro hb he
    have hle := hh.le
    refine .blank (by rw [ByteArray.size_extract]; omega) (by rw [bt_extract (by omega) hb, show e + (a - e) = a by omega]; exact hbl) ?_
    rw [show a - e + 1 = a + 1 - e by omega]
    exact ih hb (by omega)
  | @remark a b h1 hbl hh ih =>
    intro hb he
    have hle := hh.le
    have hgt := lineE_gt h1 hbl
    obtain ⟨g1, g2, g3, g4⟩ := lineE_spec h1
    have hz : (s.extract e b).size = b - e := by rw [ByteArray.size_extract]; omega
    refine .remark (by omega) (by rw [bt_extract (by omega) hb, show e + (a - e) = a by omega]; exact hbl) ?_
    rw [lineE_of (e := lineE s a - e) (by omega) (by omega) (by omega) (fun i i1 i2 => by
      rw [bt_extract (by omega) hb]; exact g3 (e + i) (by omega) (by omega)) (fun h => by
      rw [bt_extract (by omega) hb, show e + (lineE s a - e) = lineE s a by omega]; exact g4 (by omega))]
    exact ih hb (by omega)
theorem Tks.head {nm : List UInt8 → Int × Bool} {s : ByteArray} {a : Nat} {T : List Tok} (h : Tks nm s a T) : ∀ t L, T = t :: L → ∃ m, Gap s a t.pos ∧ t.pos < s.size ∧ firstP nm (tailS s t.pos) = .ok (t.kind, t.num, m) ∧ t.text = s.extract t.pos (t.pos + m) ∧ Tks nm s (t.pos + m) L := by
  induction h with
  | done => intro t L e; cases e
  | blank h1 hb _ ih => intro t L e; obtain ⟨m, g, r⟩ := ih t L e; exact ⟨m, .blank h1 hb g, r⟩
  | remark h1 hb _ ih => intro t L e; obtain ⟨m, g, r⟩ := ih t L e; exact ⟨m, .remark h1 hb g, r⟩
  | @token a L0 k n m h1 hb hr hf hh ih =>
    intro t L e
    injection e with e1 e2
    subst e1 e2
    exact ⟨m, .here _, h1, hf, rfl, hh⟩
theorem Tks.nil_gap {nm : List UInt8 → Int × Bool} {s : ByteArray} {a : Nat} {T : List Tok} (h : Tks nm s a T) : T = [] → a ≤ s.size → Gap s a s.size := by
  induction h with
  | @done a h => intro _ h2; rw [show a = s.size by omega]; exact .here _
  | blank h1 hb _ ih => intro e _; exact .blank h1 hb (ih e (by omega))
  | remark h1 hb _ ih => intro e _; exact .remark h1 hb (ih e (lineE_spec h1).2.1)
  | token => intro e; cases e
end Go.Proofs.YthjpjcjmiaojcaaDoor.lx
namespace Go.Proofs.YthjpjcjmiaojcaaDoor.tx
open Go.ChangeShapes Go.WideShapes Go.ChangeAt Go.RowKit Go.Deep sr lt

/-- The first place, from i on, where two texts part: n is how many are left. -/
def apF (a b : ByteArray) : Nat → Nat → Nat
  | 0, i => i
  | n + 1, i => if lx.bt a i = lx.bt b i then apF a b n (i + 1) else i
def apartF (a b : ByteArray) : Nat := apF a b (min a.size b.size) 0
theorem byteAt (s : ByteArray) (k : Nat) (h : k < s.size) : ∀ W : World, (Instr.index 9 (.string s) (.int .i64 (k : Nat))).run Tryd.prog W = .ok (.int .u8 (lx.bt s k : Nat)) W := fun W => by
  rw [run_index_string W _ _ _ _ Tryd.underlying9, dif_pos ⟨by omega, by omega⟩, lx.bt_eq h]; rfl
set_option maxRecDepth 20000 in
set_option maxHeartbeats 2000000 in
theorem parting_any (a b : ByteArray) (w : World) (hz : b.size ≤ 1000000000) : Calls Tryd.prog 22 #[.string a, .string b] w fun e w' => e = .returned (.int .i64 (apartF a b : Nat)) ∧ Below w.heap.size w w' := by
  obtain ⟨R, HR⟩ : ∃ R, Hid (apartF a b = R) := ⟨_, Lib.hid rfl⟩
  have H0 : Hid (apF a b (min a.size b.size) 0 = R) := HR
  rw [HR.out]
  obtain ⟨m, hm⟩ : ∃ m, min a.size b.size = m := ⟨_, rfl⟩
  rw [hm] at H0
  have HA : Hid (m ≤ a.size ∧ m ≤ b.size) := Lib.hid (by omega)
  have hm9 : (m : Int) ≤ 1000000000 := by omega
  have HM := Lib.hid hm
  clear hz hm
  go_enter Tryd.func22, Tryd.ntmps22
  go_wp2
  go_loopw [5] (fun i wr => ∃ k : Nat, k ≤ m ∧ i = .int .i64 (k : Nat) ∧ Hid (Below w.heap.size w wr) ∧ Hid (apF a b (m - k) k = R)) (fun i _ => m - (intOf i).toNat)
  case atStart => exact ⟨0, Nat.zero_le _, rfl, Lib.hid (Below.refl _ _), H0⟩
  case round =>
    obtain ⟨k, hk, rfl, HB, HF⟩ := hrel
    go_upto_region 2 with (fail)
    have hmi : (min (a.size : Int) (b.size : Int)) = (m : Int) := by have := HM.out; omega
    by_cases hlt : k < m
    · have hi9 : (k : Int) < (m : Int) := by omega
      have ha := byteAt a k (by have := HA.out; omega)
      have hb := byteAt b k (by have := HA.out; omega)
      obtain ⟨x, HX⟩ : ∃ x, Hid (lx.bt a k = x) := ⟨_, Lib.hid rfl⟩
      obtain ⟨y, HY⟩ : ∃ y, Hid (lx.bt b k = y) := ⟨_, Lib.hid rfl⟩
      rw [HX.out] at ha
      rw [HY.out] at hb
      have hF := HF.out
      rw [show m - k = (m - (k + 1)) + 1 by omega, apF, HX.out, HY.out] at hF
      by_cases hxy : x = y
      · rw [if_pos hxy] at hF
        have HF2 := Lib.hid hF
        subst hxy
        clear hF
        go_region
        have HBd := Lib.hid HB.out.drew
        go_wp2
        go_roundw
        case rel => exact ⟨k + 1, by omega, by go_num, HBd, HF2⟩
        case measure => simp [intOf]; omega
      · rw [if_neg hxy] at hF
        have HF2 := Lib.hid hF
        have hxy2 : ((x : Int) == (y : Int)) = false := by simp; omega
        clear hF
        go_region
        have HBd := Lib.hid HB.out.drew
        go_wp2
        go_ret
        exact ⟨by rw [← HF2.out]; rfl, HBd.out⟩
    · obtain rfl : k = m := by omega
      have HF2 : Hid (R = k) := Lib.hid (by rw [← HF.out, Nat.sub_self]; rfl)
      go_region
      have HBd := Lib.hid HB.out.drew
      go_wp2
      go_ret
      exact ⟨by rw [HF2.out]; rfl, HBd.out⟩
end Go.Proofs.YthjpjcjmiaojcaaDoor.tx
namespace Go.Proofs.YthjpjcjmiaojcaaDoor.lt.wi
open Go.ChangeShapes Go.WideShapes Go.ChangeAt Go.RowKit sr

def enc (x : Int) : List Value := [.int .i64 x]
theorem enc_len (x : Int) : (enc x).length = 1 := rfl
theorem enc_one (x : Int) : ∀ u ∈ enc x, u.oneCell' = true := fun u hu => by
  simp [enc] at hu
  subst hu
  rfl
theorem info : (Tryd.prog.info? 3).map (fun i => (i.zero, i.size, i.bytes)) = some (some (.int .i64 0), 1, 8) := by kernel_rfl
theorem rs_at {w : World} {A : Option Addr} {l : List Int} (h : RS enc 1 w A l) {i : Nat} (hi : i < l.length) : ∃ b off, A = some ⟨b, off, none⟩ ∧ b < w.heap.size ∧ w.cell? ⟨b, off + i, none⟩ = some (.int .i64 (l.getD i default)) := by
  obtain ⟨b, off, e, hb, hc⟩ := h (by omega)
  refine ⟨b, off, e, hb, ?_⟩
  have := hc i hi 0 (by omega)
  rw [Nat.mul_one, Nat.add_zero] at this
  exact this
theorem tail_rs {w : World} {A : Option Addr} {l : List Int} {n c : Nat} (h : RS enc 1 w A l) (hn : l.length ≤ c) : RS enc 1 w (if c = n then A else A.map (·.add n)) (l.drop n) := fun h0 => by
  have h1 : n < l.length := by simp at h0; omega
  obtain ⟨b, off, rfl, hb, hc⟩ := h (by omega)
  rw [if_neg (by omega)]
  refine ⟨b, off + n, by simp [Addr.add], hb, fun i hi j hj => ?_⟩
  have h2 : n + i < l.length := by simp at hi; omega
  have h3 := hc _ h2 j hj
  rw [show off + n + i * 1 + j = off + (n + i) * 1 + j by omega, h3]
  simp [List.getD]

set_option maxRecDepth 20000 in
/-- The tail of a slice, in one way. -/
theorem tail_run (B : Option Addr) (left t d : Nat) : ∃ B2, B2 = (if d = left then B else B.map (·.add left)) ∧ ∀ W, (Instr.sliceAt 37 (.slice B (left + t) d) (some (.int .i64 (left : Int))) none none).run Tryd.prog W = .ok (.slice B2 t (d - left)) W := by
  refine ⟨_, rfl, fun W => ?_⟩
  have hsz : (sizeOf (Tryd.prog.elem 37)).run Tryd.prog W = .ok 1 W := by simp [go_sem]
  rw [run_sliceAt_slice (P := Tryd.prog) W 37 _ _ _ _ Tryd.underlying37, run_slice_l (P := Tryd.prog) W 37 B (left + t) d Tryd.underlying37 .i64 left (by omega) (by omega), hsz]
  simp [Result.andThen, sliced]
set_option maxRecDepth 20000 in
/-- The head of a slice. -/
theorem head_run (B : Option Addr) (left t d : Nat) (h : left + t ≤ d) (W : World) : (Instr.sliceAt 37 (.slice B (left + t) d) none (some (.int .i64 (left : Int))) none).run Tryd.prog W = .ok (.slice B left d) W := by
  have hsz : (sizeOf (Tryd.prog.elem 37)).run Tryd.prog W = .ok 1 W := by simp [go_sem]
  rw [run_sliceAt_slice (P := Tryd.prog) W 37 _ _ _ _ Tryd.underlying37, run_slice_h (P := Tryd.prog) W 37 B (left + t) d Tryd.underlying37 .i64 left (by omega) (by omega), hsz]
  cases B <;> simp [Result.andThen, sliced, Addr.add]
/-- The head of a row of the call's own. -/
theorem or_head {base : Nat} {w : World} {A : Option Addr} {c m : Nat} {l : List Int} (h : OR enc 1 base 3 w (.slice A m c) l) (n : Nat) (hn : n ≤ l.length) : OR enc 1 base 3 w (.slice A n c) (l.take n) := by
  obtain ⟨h1, h2⟩ := h
  rcases h2 with ⟨e, h0⟩ | ⟨g, cap, cur, e, hb, hg, h3, h4, h5, h6⟩
  · have hn0 : n = 0 := by omega
    injection e with e1 e2 e3
    subst e1 e3 hn0
    exact World.ownsRow_nil _ _ _ _
  · injection e with e1 e2 e3
    subst e1 e3
    have hl : (l.take n).length = n := by simp; omega
    have hfl : flatR enc (l.take n) = (flatR enc l).take n := by
      have e : ∀ q : List Int, flatR enc q = q.map (fun x => .int .i64 x) := fun q => by
        unfold flatR enc
        induction q with
        | nil => rfl
        | cons x q ih => simp [List.flatMap_cons, ih]
      rw [e, e, List.map_take]
    refine ⟨by rw [flatR_length enc_len], .inr ⟨g, c, cur, by rw [hl], hb, hg, by rw [hl]; omega, h4, h5, ?_⟩⟩
    rw [hl, hfl, ← h6, List.take_take]
    congr 1
    omega
/-- A row of the call's own stays where its block does. -/
theorem or_turn {T : Nat → Prop} {base : Nat} {w w' : World} {v : Value} {l : List Int} (h : OR enc 1 base 3 w v l) (k : Turn T w w') (hT : ∀ q, T q → q < base) : OR enc 1 base 3 w' v l := by
  obtain ⟨h1, h2⟩ := h
  refine ⟨h1, ?_⟩
  rcases h2 with h2 | ⟨g, cap, cur, e, hb, hg, r⟩
  · exact .inl h2
  · refine .inr ⟨g, cap, cur, e, hb, ?_, r⟩
    have hlt : g < w.heap.size := by
      rcases Nat.lt_or_ge g w.heap.size with hlt | hge
      · exact hlt
      · rw [Array.getElem?_eq_none hge] at hg; cases hg
    rw [k.block g hlt (fun hq => by have := hT g hq; omega)]
    exact hg
theorem or_cap {base : Nat} {w : World} {A : Option Addr} {c m : Nat} {l : List Int} (h : OR enc 1 base 3 w (.slice A m c) l) : m = l.length ∧ m ≤ c ∧ (∀ a, A = some a → base ≤ a.block) ∧ RS enc 1 w A l := by
  have hb := World.ownsRow.lt h
  obtain ⟨A', c', e, hr⟩ := OR.rs enc_len h
  injection e with e1 e2 e3
  subst e1 e2 e3
  refine ⟨rfl, ?_, fun a e => (hb a.block (by rw [e]; rfl)).1, hr⟩
  rcases h.2 with ⟨e, h0⟩ | ⟨g, cap, cur, e, _, _, h3, _⟩
  · injection e with e1 e2 e3
    omega
  · injection e with e1 e2 e3
    subst e3
    omega

/-- What the function value leaves: of node number k. -/
def MadeP (T : Nat → Prop) (I : Nat → List Int → World → Prop) (k : Nat) (st : List Int) (t : Nat) (W : World) (x : Ending) (W' : World) : Prop :=
  ∃ r : Int, x = .returned (.int .i64 r) ∧ I (k + 1) (st.take (st.length - t) ++ [r]) W' ∧ Turn T W W'
/-- What it is asked. -/
def MadeK (gf : Nat) (lb : Array Value) (T : Nat → Prop) (e : List (Int × Int)) (I : Nat → List Int → World → Prop) (w : World) : Prop :=
  ∀ (k : Nat) (st : List Int) (W : World) (B : Option Addr) (t c : Nat), k < e.length → I k st W → Turn T w W → ndW st.length (e.getD k (0, 0)) = 0 → kT (e.getD k (0, 0)).1 = t → t ≤ st.length → RS enc 1 W B (st.drop (st.length - t)) → (∀ a, B = some a → w.heap.size ≤ a.block) →
    Calls Tryd.prog gf (#[.int .i64 k, .slice B t c] ++ lb) W (MadeP T I k st t W)
/-- What work leaves. -/
def WorkP (T : Nat → Prop) (e : List (Int × Int)) (I : Nat → List Int → World → Prop) (w : World) (x : Ending) (W' : World) : Prop :=
  ∃ r : Int, x = .returned (.tuple #[.int .i64 r, .int .i64 (wrF 0 e)]) ∧ (wrF 0 e = 0 → I e.length [r] W') ∧ (wrF 0 e ≠ 0 → r = 0) ∧ Turn T w W'
/-- What the call of the function value leaves, for work. -/
def CallP (T : Nat → Prop) (I : Nat → List Int → World → Prop) (k : Nat) (st : List Int) (B : Option Addr) (left d : Nat) (w : World) (x : Ending) (W' : World) : Prop :=
  ∃ r : Int, x = .returned (.int .i64 r) ∧ I (k + 1) (st.take left ++ [r]) W' ∧ Turn T w W' ∧ OR enc 1 w.heap.size 3 W' (.slice B left d) (st.take left)

set_option maxRecDepth 20000 in
set_option maxHeartbeats 4000000 in
theorem work_any (gf : Nat) (lb : Array Value) (T : Nat → Prop) (e : List (Int × Int)) (I : Nat → List Int → World → Prop) (A : Option Addr) (c m : Nat) (w : World)
    (hm : m = e.length) (hA : PA w A e) (hlm : m ≤ 1000) (hT : ∀ k, T k → k < w.heap.size) (hTA : ∀ a, A = some a → ¬ T a.block)
    (eg : ∀ args w, (callFunc gf args).run Tryd.prog w = .ok (.enter gf args) w) (hI : ∀ k st W W', I k st W → Turn T w W → Below w.heap.size W W' → I k st W') (hP : MadeK gf lb T e I w) (h0 : I 0 [] w) :
    Calls Tryd.prog 61 #[.slice A m c, .func (.func gf) #[] lb] w (WorkP T e I w) := by
  have HM := Lib.hid hm
  have HA := Lib.hid hA
  have HTT := Lib.hid hT
  have HTA := Lib.hid hTA
  have HI := Lib.hid hI
  have HP := Lib.hid hP
  have H0 := Lib.hid h0
  clear hm hA hT hTA hI hP h0
  go_enter Tryd.func61, Tryd.ntmps61
  go_wp2
  go_loopw [7, 14] (fun s i wr => ∃ (k n : Nat) (B : Option Addr) (d : Nat) (st : List Int), k ≤ m ∧ i = .int .i64 k ∧ s = .slice B n d ∧ Hid (n = st.length) ∧ n ≤ k ∧ Hid (OR enc 1 w.heap.size 3 wr (.slice B n d) st) ∧ Hid (Turn T w wr) ∧ Hid (I k st wr) ∧
    Hid (wrF 0 e = wrF n (e.drop k))) (fun _ i _ => m - (intOf i).toNat)
  case atStart => exact ⟨0, 0, none, 0, [], Nat.zero_le _, rfl, rfl, Lib.hid rfl, Nat.le_refl _, Lib.hid (World.ownsRow_nil _ _ _ _), Lib.hid (Turn.refl _ _), H0, Lib.hid rfl⟩
  case round =>
    obtain ⟨k, n, B, d, st, hk, rfl, rfl, HN, hn, HS, HW, HIK, HR⟩ := hrel
    have HC := Lib.hid (or_cap HS.out)
    by_cases hlt : k < m
    · obtain ⟨b, o, rfl, hb, hc⟩ := (HA.out.turn HW.out HTA.out) (by rw [← HM.out]; omega)
      obtain ⟨c1, c2⟩ := hc k (by rw [← HM.out]; exact hlt)
      have HK : Hid (k < e.length) := Lib.hid (by rw [← HM.out]; exact hlt)
      obtain ⟨op, q, HND⟩ : ∃ op q, Hid (e.getD k (0, 0) = (op, q)) := ⟨_, _, Lib.hid rfl⟩
      rw [HND.out] at c1 c2
      clear hc
      go_wp2_with fail
      refine (left_any op q n _ (by omega)).mono ?_
      rintro x w1 ⟨rfl, hb1⟩
      have HB1W : Hid (Below wr.heap.size wr w1) := Lib.hid (((Below.refl _ _).alloc (Nat.le_refl _) _).trans (hb1.mono (by simp)))
      clear hb1 c1 c2
      by_cases hw : ndW n (op, q) = 0
      · obtain ⟨h1, h2, _⟩ := ndW_ok hw
        obtain ⟨t, HT⟩ : ∃ t : Nat, Hid (kT op = t) := ⟨(kT op).toNat, Lib.hid (by simp at h1; omega)⟩
        have htn : t ≤ n := by have := HT.out; simp at h2; omega
        have ht2 : t ≤ 2 := by have := kT_range op; have := HT.out; omega
        obtain ⟨left, rfl⟩ : ∃ left, n = left + t := ⟨n - t, by omega⟩
        have HLV : Hid (leftV (left + t) (op, q) = (left : Int)) := Lib.hid (by unfold leftV; rw [if_pos hw]; show ((left + t : Nat) : Int) - kT op = _; rw [HT.out]; omega)
        have HW0 := Lib.hid hw
        rw [HLV.out, HW0.out]
        have EH := head_run B left t d (by have := HC.out.2.1; omega)
        obtain ⟨B2, HB2, ET⟩ := tail_run B left t d
        have HBB := Lib.hid HB2
        have HN2 : Hid (st.length - t = left) := Lib.hid (by have := HN.out; omega)
        have HCALL : Hid (∀ W, Below wr.heap.size wr W → Calls Tryd.prog gf (#[.int .i64 k, .slice B2 t (d - left)] ++ lb) W (CallP T I k st B left d w)) := Lib.hid (fun W hW => by
          have hTW : Turn T w W := HW.out.then_below (hW.mono HW.out.size)
          have hOR : OR enc 1 w.heap.size 3 W (.slice B (left + t) d) st := HS.out.below hW
          refine (HP.out k st W B2 t (d - left) HK.out (HI.out k st wr W HIK.out HW.out (hW.mono HW.out.size)) hTW (by rw [← HN.out, HND.out]; exact HW0.out) (by rw [HND.out]; exact HT.out) (by have := HN.out; omega) ?_ ?_).mono ?_
          · rw [HN2.out, HBB.out]
            exact tail_rs (or_cap hOR).2.2.2 (by have := HC.out.2.1; have := HN.out; omega)
          · intro a ha
            rw [HBB.out] at ha
            split at ha
            · exact HC.out.2.2.1 a ha
            · obtain ⟨a', h', rfl⟩ := Option.map_eq_some_iff.1 ha
              rw [show (a'.add left).block = a'.block from by first | rfl | (simp [Addr.add]; done) | (unfold Addr.add; split <;> rfl)]
              exact HC.out.2.2.1 a' h'
          · rintro x W' ⟨r, rfl, hi, ht⟩
            rw [HN2.out] at hi
            exact ⟨r, rfl, hi, hTW.trans ht, or_head (or_turn hOR ht HTT.out) left (by have := HN.out; omega)⟩)
        have HLT : Hid ((st.take left).length = left) := Lib.hid (by have := HN.out; simp; omega)
        have HBW : Hid (∀ W, Below w1.heap.size w1 W → Below wr.heap.size wr W) := Lib.hid (fun W h => HB1W.out.trans (h.mono HB1W.out.size))
        clear HB2 h1 h2 hw
        go_wp2_with fail
        go_region_held3 (fun _ => True) (trivial)
          (first
            | (refine (HCALL.out _ (HBW.out _ (by first | exact (Below.refl _ _).drew | exact Below.refl _ _))).mono ?_; rintro x w3 ⟨r, rfl, hx1, hx2, hx3⟩; have HX1 := Lib.hid hx1; have HX2 := Lib.hid hx2; have HX3 := Lib.hid hx3; clear hx1 hx2 hx3)
            | (refine step_append_own enc_len enc_one Tryd.underlying37 info rfl (by decide) (by decide) w.heap.size _ (by rfl) (.tmp 32) (.tmp 39) (by rfl) (by rfl) _ (st.take left) (by rfl) (World.ownsRow.alloc HX3.out _) r _ (by rfl) (by rfl) (by have := HLT.out; omega) (by have := HX2.out.size; simp; omega) _ (by first | exact World.alloc_heap_new _ _) ?_; intro v4 w4 ho4 hb4 _; have HO4 := Lib.hid ho4; have HB4 : Hid (Below w.heap.size w3 w4) := Lib.hid (((Below.refl _ _).alloc HX2.out.size _).trans hb4); clear ho4 hb4)
            | fail)
        clear EH ET
        have HLX : Hid ((st.take left ++ [r]).length = left + 1) := Lib.hid (by rw [List.length_append, HLT.out]; rfl)
        obtain ⟨A4, c4, hv4, _⟩ := OR.rs enc_len HO4.out
        rw [HLX.out] at hv4
        subst hv4
        have HE : Hid (wrF 0 e = wrF (left + 1) (e.drop (k + 1))) := Lib.hid (by
          rw [HR.out, wr_next HK.out (by rw [HND.out]; exact HW0.out), HND.out]
          show wrF (left + t - (kT op).toNat + 1) _ = _
          rw [HT.out]
          congr 1
          simp)
        clear HCALL HBW
        go_wp2
        go_roundw
        case rel => exact ⟨k + 1, left + 1, A4, c4, st.take left ++ [r], by omega, by go_num, rfl, Lib.hid HLX.out.symm, by omega, HO4, Lib.hid (HX2.out.then_below HB4.out), Lib.hid (HI.out (k + 1) _ w3 w4 HX1.out HX2.out HB4.out), HE⟩
        case measure => simp [intOf]; omega
      · obtain ⟨z, HZ⟩ : ∃ z, Hid (ndW n (op, q) = z) := ⟨_, Lib.hid rfl⟩
        have HE : Hid (wrF 0 e = z) := Lib.hid (by rw [HR.out, wr_stop HK.out (by rw [HND.out]; exact hw), HND.out, HZ.out])
        have HLV : Hid (leftV n (op, q) = 0) := Lib.hid (by unfold leftV; rw [if_neg hw])
        rw [HLV.out, HZ.out]
        rw [HZ.out] at hw
        have hz : (z != 0) = true := by simpa using hw
        go_wp2
        go_ret2
        refine ⟨0, by rw [HE.out]; rfl, fun h => absurd h (by rw [HE.out]; exact hw), fun _ => rfl, ?_⟩
        exact HW.out.then_below (HB1W.out.mono HW.out.size)
    · obtain rfl : k = m := by omega
      have HE : Hid (wrF 0 e = if n = 0 then 4 else if 1 < n then 5 else 0) := Lib.hid (by rw [HR.out, wr_end (by rw [HM.out]; exact Nat.le_refl _)])
      by_cases n0 : n = 0
      · subst n0
        have HE2 : Hid (wrF 0 e = 4) := Lib.hid (HE.out.trans (if_pos rfl))
        clear HE
        go_wp2
        go_ret2
        exact ⟨0, by rw [HE2.out]; rfl, fun h => absurd h (by rw [HE2.out]; decide), fun _ => rfl, HW.out⟩
      · by_cases n1 : 1 < n
        · have HE2 : Hid (wrF 0 e = 5) := Lib.hid (HE.out.trans ((if_neg n0).trans (if_pos n1)))
          clear HE
          go_wp2
          go_ret2
          exact ⟨0, by rw [HE2.out]; rfl, fun h => absurd h (by rw [HE2.out]; decide), fun _ => rfl, HW.out⟩
        · obtain rfl : n = 1 := by omega
          have HE2 : Hid (wrF 0 e = 0) := Lib.hid (HE.out.trans ((if_neg n0).trans (if_neg n1)))
          obtain ⟨b, o, rfl, hb, c1⟩ := rs_at (i := 0) HC.out.2.2.2 (by have := HN.out; omega)
          have HL1 : Hid (st = [st.getD 0 default]) := Lib.hid (by
            have h := HN.out
            match st, h with
            | [a], _ => rfl)
          have HIK2 : Hid (I e.length [st.getD 0 default] wr) := Lib.hid (by rw [← HL1.out, ← HM.out]; exact HIK.out)
          rw [Nat.add_zero] at c1
          generalize st.getD 0 default = y at c1 HIK2
          clear HE n0 n1 HL1
          go_wp2
          go_ret2
          exact ⟨y, by rw [HE2.out]; rfl, fun _ => HIK2.out, fun h => absurd HE2.out h, HW.out⟩
end Go.Proofs.YthjpjcjmiaojcaaDoor.lt.wi
namespace Go.Proofs.YthjpjcjmiaojcaaDoor.lt
open Go.ChangeShapes Go.WideShapes Go.ChangeAt Go.RowKit sr wi

theorem ia_rs {w : World} {A : Option Addr} {l : List Int} (h : RS enc 1 w A l) : IA w A l := fun hn => by
  obtain ⟨b, off, e, hb, hc⟩ := h hn
  refine ⟨b, off, e, hb, fun i hi => ?_⟩
  have := hc i hi 0 (by omega)
  rw [Nat.mul_one, Nat.add_zero] at this
  exact this
end Go.Proofs.YthjpjcjmiaojcaaDoor.lt
