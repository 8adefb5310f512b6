/- Contracts that the claim stands on, several texts in one: EtToks, EtFirst, LtxScan, LtxScan2. -/
import Derived.Test.YtgnflnfajkoibaaDoorPut1
import Derived.Test.YtgnflnfajkoibaaDoorPut2
import Derived.Test.YtgnflnfajkoibaaDoorPut3
import Derived.Test.YtgnflnfajkoibaaDoorPut4
import Derived.Test.YtgnflnfajkoibaaDoorPut5
import Derived.Test.YtgnflnfajkoibaaDoorPut6
import Derived.Test.YtgnflnfajkoibaaDoorPut7
import Derived.Test.YtgnflnfajkoibaaDoorPut8
import Derived.Test.YtgnflnfajkoibaaDoorPut9
import Derived.Test.YtgnflnfajkoibaaDoorPut10
import Derived.Test.YtgnflnfajkoibaaDoorPut11
import Derived.Test.YtgnflnfajkoibaaDoorPut12
import Derived.Test.YtgnflnfajkoibaaDoorPut13
import Derived.Test.YtgnflnfajkoibaaDoorPut14
import Derived.Test.YtgnflnfajkoibaaDoorPut15
import Derived.Test.YtgnflnfajkoibaaDoorPut16
import Derived.Test.YtgnflnfajkoibaaDoorPut17
import Derived.Test.YtgnflnfajkoibaaDoorPut18
namespace Go.Proofs.YtgnflnfajkoibaaDoor.lx
open Go.ChangeShapes Go.WideShapes Go.ChangeAt Go.RowKit Go.Deep

/-- The bytes of tokens and blanks. -/
def lay : List (Option Tok) → List UInt8
  | [] => []
  | none :: r => 32 :: lay r
  | some t :: r => t.text.data.toList ++ lay r
/-- Each token is what its text and all that follows begins with. -/
def LayOk (nm : List UInt8 → Int × Bool) : List (Option Tok) → Prop
  | [] => True
  | none :: r => LayOk nm r
  | some t :: r => 0 < t.text.size ∧ firstP nm ⟨(t.text.data.toList ++ lay r).toArray⟩ = .ok (t.kind, t.num, t.text.size) ∧ LayOk nm r
/-- The tokens alone. -/
def laid : List (Option Tok) → List Tok
  | [] => []
  | none :: r => laid r
  | some t :: r => t :: laid r
theorem lay_app : ∀ (P Q : List (Option Tok)), lay (P ++ Q) = lay P ++ lay Q
  | [], _ => rfl
  | none :: r, Q => by rw [List.cons_append, lay, lay, lay_app r Q, List.cons_append]
  | some t :: r, Q => by rw [List.cons_append, lay, lay, lay_app r Q, List.append_assoc]
theorem laid_app : ∀ (P Q : List (Option Tok)), laid (P ++ Q) = laid P ++ laid Q
  | [], _ => rfl
  | none :: r, Q => by rw [List.cons_append, laid, laid, laid_app r Q]
  | some t :: r, Q => by rw [List.cons_append, laid, laid, laid_app r Q, List.cons_append]
theorem lay_tks {nm : List UInt8 → Int × Bool} {u : ByteArray} : ∀ (P : List (Option Tok)), LayOk nm P → ∀ a, a ≤ u.size → tailS u a = ⟨(lay P).toArray⟩ → ∃ T', Tks nm u a T' ∧ SameT (laid P) T'
  | [], _, a, ha, h => by
    refine ⟨[], .done ?_, .nil⟩
    have := congrArg ByteArray.size h
    rw [tail_size, size_list (lay [])] at this
    simp [lay] at this; omega
  | some t :: r, hg, a, ha, h => by
    obtain ⟨g0, g1, g2⟩ := hg
    have h : tailS u a = ⟨(t.text.data.toList ++ lay r).toArray⟩ := h
    have hz := congrArg ByteArray.size h
    rw [tail_size, size_list (t.text.data.toList ++ lay r), List.length_append, size_toList] at hz
    have hf := g1
    rw [← h] at hf
    obtain ⟨n1, n2⟩ := first_not_blank hf
    rw [tail_bt (by omega), Nat.add_zero] at n1 n2
    have ht : tailS u (a + t.text.size) = ⟨(lay r).toArray⟩ := by
      rw [← tail_tail (by omega), h, ← size_toList, tail_app]
    obtain ⟨T', k1, k2⟩ := lay_tks r g2 (a + t.text.size) (by omega) ht
    refine ⟨_, .token (by omega) n1 n2 hf k1, .cons rfl rfl ?_ k2⟩
    show t.text = u.extract a (a + t.text.size)
    rw [← extract_tail_in (by omega)]
    refine ext_bt (by rw [ByteArray.size_extract, tail_size]; omega) (fun i hi => ?_)
    rw [bt_extract (by omega) (by rw [tail_size]; omega), Nat.zero_add, h, bt_app_left (by rw [size_toList]; exact hi), mk_list]
  | none :: r, hg, a, ha, h => by
    have h : tailS u a = ⟨(32 :: lay r).toArray⟩ := h
    have hz := congrArg ByteArray.size h
    rw [tail_size, size_list (32 :: lay r), List.length_cons] at hz
    have h32 : bt u a = 32 := by
      have e : bt (tailS u a) 0 = 32 := by rw [h]; rfl
      rw [tail_bt (by omega), Nat.add_zero] at e
      exact e
    have ht : tailS u (a + 1) = ⟨(lay r).toArray⟩ := by
      rw [← tail_tail (by omega), h]
      exact tail_app [32] (lay r)
    obtain ⟨T', k1, k2⟩ := lay_tks r hg (a + 1) (by omega) ht
    exact ⟨T', .blank (by omega) (by rw [h32]; decide) k1, k2⟩
end Go.Proofs.YtgnflnfajkoibaaDoor.lx
namespace Go.Proofs.YtgnflnfajkoibaaDoor.lx
open Go.ChangeShapes Go.WideShapes Go.ChangeAt Go.RowKit Go.Deep

theorem bt_left {t : ByteArray} {r : List UInt8} {i : Nat} (h : i < t.size) : bt ⟨(t.data.toList ++ r).toArray⟩ i = bt t i := by
  rw [bt_app_left (by rw [size_toList]; exact h), mk_list]
theorem bt_mid {t : ByteArray} {r : List UInt8} (h : 0 < r.length) : ∃ b, r.head? = some b ∧ bt ⟨(t.data.toList ++ r).toArray⟩ t.size = b.toNat := by
  cases r with
  | nil => cases h
  | cons b r =>
    refine ⟨b, rfl, ?_⟩
    rw [← size_toList t, bt_app_right (by simp)]
    rfl
theorem size_lay (t : ByteArray) (r : List UInt8) : (⟨(t.data.toList ++ r).toArray⟩ : ByteArray).size = t.size + r.length := by
  rw [size_list (t.data.toList ++ r), List.length_append, size_toList]
theorem word_lay {t : ByteArray} {r : List UInt8} (h1 : 1 ≤ t.size) (h0 : letB (bt t 0) = false) : wordN ⟨(t.data.toList ++ r).toArray⟩ = 0 := by
  refine wordN_of (Nat.zero_le _) (fun i hi => absurd hi (by omega)) (fun _ => ?_)
  rw [bt_left (by omega)]
  unfold okB
  rw [h0]
  simp
theorem dig_lay {t : ByteArray} {r : List UInt8} (h1 : 1 ≤ t.size) (h0 : digB (bt t 0) = false) : digN ⟨(t.data.toList ++ r).toArray⟩ = 0 := by
  refine digN_of (Nat.zero_le _) (fun i hi => absurd hi (by omega)) (fun _ => ?_)
  rw [bt_left (by omega)]
  exact h0
theorem first_word {nm : List UInt8 → Int × Bool} {t : ByteArray} {r : List UInt8} (h1 : 1 ≤ t.size) (h2 : t.size ≤ 16) (h3 : ∀ i, i < t.size → okB i (bt t i) = true) (h4 : ∀ b, r.head? = some b → okB t.size b.toNat = false) : firstP nm ⟨(t.data.toList ++ r).toArray⟩ = .ok (1, 0, t.size) := by
  have hw : wordN ⟨(t.data.toList ++ r).toArray⟩ = t.size := by
    refine wordN_of (by rw [size_lay]; omega) (fun i hi => by rw [bt_left hi]; exact h3 i hi) (fun h => ?_)
    rw [size_lay] at h
    obtain ⟨b, hb, e⟩ := bt_mid (t := t) (r := r) (by omega)
    rw [e]
    exact h4 b hb
  unfold firstP
  rw [hw, if_neg (by omega), if_pos (by omega)]
theorem first_num {nm : List UInt8 → Int × Bool} {t : ByteArray} {r : List UInt8} {n : Int} (h1 : 1 ≤ t.size) (h3 : ∀ i, i < t.size → digB (bt t i) = true) (h4 : ∀ b, r.head? = some b → digB b.toNat = false) (hn : nm t.data.toList = (n, true)) : firstP nm ⟨(t.data.toList ++ r).toArray⟩ = .ok (2, n, t.size) := by
  have hl : letB (bt t 0) = false := by
    have h := h3 0 (by omega)
    unfold digB at h
    have h := of_decide_eq_true h
    exact decide_eq_false (by omega)
  have hw := word_lay (r := r) h1 hl
  have hd : digN ⟨(t.data.toList ++ r).toArray⟩ = t.size := by
    refine digN_of (by rw [size_lay]; omega) (fun i hi => by rw [bt_left hi]; exact h3 i hi) (fun h => ?_)
    rw [size_lay] at h
    obtain ⟨b, hb, e⟩ := bt_mid (t := t) (r := r) (by omega)
    rw [e]
    exact h4 b hb
  have he : (⟨(t.data.toList ++ r).toArray⟩ : ByteArray).extract 0 t.size = t := by
    refine ext_bt (by rw [ByteArray.size_extract, size_lay]; omega) (fun i hi => ?_)
    rw [ByteArray.size_extract, size_lay] at hi
    rw [bt_extract (by omega) (by rw [size_lay]; omega), Nat.zero_add, bt_left (by omega)]
  unfold firstP
  rw [hw, hd, if_neg (by decide), if_neg (by decide), if_pos (by omega), he, hn, if_pos rfl]
theorem first_sign {nm : List UInt8 → Int × Bool} {t : ByteArray} {r : List UInt8} (h1 : 1 ≤ t.size) (hl : letB (bt t 0) = false) (hd : digB (bt t 0) = false) (hs : signN ⟨(t.data.toList ++ r).toArray⟩ = t.size) : firstP nm ⟨(t.data.toList ++ r).toArray⟩ = .ok (3, 0, t.size) := by
  unfold firstP
  rw [word_lay h1 hl, dig_lay h1 hd, hs, if_neg (by decide), if_neg (by decide), if_neg (by decide), if_pos (by omega)]
theorem sign_one {b : UInt8} {r : List UInt8} (h1 : oneB b.toNat = true) (h2 : ∀ c, r.head? = some c → twoB b.toNat c.toNat = false) : signN ⟨((⟨#[b]⟩ : ByteArray).data.toList ++ r).toArray⟩ = 1 := by
  have hz : (⟨((⟨#[b]⟩ : ByteArray).data.toList ++ r).toArray⟩ : ByteArray).size = 1 + r.length := size_lay ⟨#[b]⟩ r
  have e0 : bt ⟨((⟨#[b]⟩ : ByteArray).data.toList ++ r).toArray⟩ 0 = b.toNat := (bt_left (t := ⟨#[b]⟩) (r := r) (show 0 < 1 by decide)).trans rfl
  unfold signN
  rw [hz, e0]
  rw [if_neg, if_pos ⟨by omega, h1⟩]
  rintro ⟨g1, g2⟩
  obtain ⟨c, hc, e⟩ := bt_mid (t := ⟨#[b]⟩) (r := r) (by omega)
  rw [show bt ⟨((⟨#[b]⟩ : ByteArray).data.toList ++ r).toArray⟩ 1 = c.toNat from e, h2 c hc] at g2
  cases g2
theorem sign_two {b c : UInt8} {r : List UInt8} (h1 : twoB b.toNat c.toNat = true) : signN ⟨((⟨#[b, c]⟩ : ByteArray).data.toList ++ r).toArray⟩ = 2 := by
  have hz : (⟨((⟨#[b, c]⟩ : ByteArray).data.toList ++ r).toArray⟩ : ByteArray).size = 2 + r.length := size_lay ⟨#[b, c]⟩ r
  have e0 : bt ⟨((⟨#[b, c]⟩ : ByteArray).data.toList ++ r).toArray⟩ 0 = b.toNat := (bt_left (t := ⟨#[b, c]⟩) (r := r) (show 0 < 2 by decide)).trans rfl
  have e1 : bt ⟨((⟨#[b, c]⟩ : ByteArray).data.toList ++ r).toArray⟩ 1 = c.toNat := (bt_left (t := ⟨#[b, c]⟩) (r := r) (show 1 < 2 by decide)).trans rfl
  unfold signN
  rw [hz, e0, e1, if_pos ⟨by omega, h1⟩]
end Go.Proofs.YtgnflnfajkoibaaDoor.lx
namespace Go.Proofs.YtgnflnfajkoibaaDoor.tx
open Go.ChangeShapes Go.WideShapes Go.ChangeAt Go.RowKit Go.Deep lt

def opT (o : Opr) : Option lx.Tok := some ⟨if o.op = 4 ∨ o.op = 5 ∨ o.op = 6 ∨ o.op = 7 then 3 else 1, 0, 0, sgA o⟩
def brT (b : UInt8) : Option lx.Tok := some ⟨3, 0, 0, ⟨#[b]⟩⟩
/-- The tokens and blanks of a part's text. -/
def lyF (e : List (Int × Int)) (N : List (List UInt8)) : Nat → Nat → Int → List (Option lx.Tok)
  | 0, _, _ => []
  | f + 1, at_, asked => match opO (e.getD at_ (0, 0)).1 with
    | none => [some ⟨1, 0, 0, ⟨(N.getD (e.getD at_ (0, 0)).2.toNat []).toArray⟩⟩]
    | some o =>
      let s := if o.rt = 0 then [opT o] else if o.op = 4 then opT o :: lyF e N f (kidsF e at_).1.toNat o.rt
        else if o.lf = 0 then opT o :: none :: lyF e N f (kidsF e at_).1.toNat o.rt
        else lyF e N f (kidsF e at_).1.toNat o.lf ++ (none :: opT o :: none :: lyF e N f (kidsF e at_).2.toNat o.rt)
      if o.bd < asked then brT 40 :: (s ++ [brT 41]) else s
def lyB (e : List (Int × Int)) (N : List (List UInt8)) (f at_ : Nat) (o : Opr) : List (Option lx.Tok) :=
  if o.rt = 0 then [opT o] else if o.op = 4 then opT o :: lyF e N f (kidsF e at_).1.toNat o.rt
        else if o.lf = 0 then opT o :: none :: lyF e N f (kidsF e at_).1.toNat o.rt
        else lyF e N f (kidsF e at_).1.toNat o.lf ++ (none :: opT o :: none :: lyF e N f (kidsF e at_).2.toNat o.rt)
theorem lyF_none {e : List (Int × Int)} {N : List (List UInt8)} {f at_ : Nat} {asked : Int} (h : opO (e.getD at_ (0, 0)).1 = none) : lyF e N (f + 1) at_ asked = [some ⟨1, 0, 0, ⟨(N.getD (e.getD at_ (0, 0)).2.toNat []).toArray⟩⟩] := by
  rw [lyF, h]
theorem lyF_some {e : List (Int × Int)} {N : List (List UInt8)} {f at_ : Nat} {asked : Int} {o : Opr} (h : opO (e.getD at_ (0, 0)).1 = some o) : lyF e N (f + 1) at_ asked = if o.bd < asked then brT 40 :: (lyB e N f at_ o ++ [brT 41]) else lyB e N f at_ o := by
  rw [lyF, h]
  rfl
theorem lay_op (o : Opr) (r : List (Option lx.Tok)) : lx.lay (opT o :: r) = o.sg ++ lx.lay r := by
  unfold opT
  rw [lx.lay]
  unfold sgA
  simp
theorem lay_br (b : UInt8) (r : List (Option lx.Tok)) : lx.lay (brT b :: r) = b :: lx.lay r := rfl
theorem lay_no (r : List (Option lx.Tok)) : lx.lay (none :: r) = 32 :: lx.lay r := rfl
/-- They are the text. -/
theorem lay_ly (e : List (Int × Int)) (N : List (List UInt8)) : ∀ (f i : Nat) (a : Int), lx.lay (lyF e N f i a) = txF e N f i a
  | 0, _, _ => rfl
  | f + 1, i, a => by
    have ih := lay_ly e N f
    cases ho : opO (e.getD i (0, 0)).1 with
    | none =>
      rw [lyF_none ho, txF_none ho, lx.lay, lx.lay]
      simp
    | some o =>
      rw [lyF_some ho, txF_some ho]
      have hb : lx.lay (lyB e N f i o) = bareF e N f i o := by
        unfold lyB bareF
        split
        · rw [lay_op]; simp [lx.lay]
        · split
          · rw [lay_op, ih]
          · split
            · rw [lay_op, lay_no, ih]; rfl
            · rw [lx.lay_app, lay_no, lay_op, lay_no, ih, ih]; rfl
      split
      · rw [lay_br, lx.lay_app, hb, lay_br]; rfl
      · exact hb
theorem laid_op (o : Opr) (r : List (Option lx.Tok)) : (lx.laid (opT o :: r)).map (fun t => t.text.data.toList) = o.sg :: (lx.laid r).map (fun t => t.text.data.toList) := by
  unfold opT
  rw [lx.laid, List.map_cons]
  unfold sgA
  simp
theorem laid_no (r : List (Option lx.Tok)) : lx.laid (none :: r) = lx.laid r := rfl
/-- .. and, without the blanks, its tokens. -/
theorem laid_ly (e : List (Int × Int)) (N : List (List UInt8)) : ∀ (f i : Nat) (a : Int), (lx.laid (lyF e N f i a)).map (fun t => t.text.data.toList) = tkF e N f i a
  | 0, _, _ => rfl
  | f + 1, i, a => by
    have ih := laid_ly e N f
    cases ho : opO (e.getD i (0, 0)).1 with
    | none =>
      rw [lyF_none ho, tkF_none ho, lx.laid, lx.laid]
      simp
    | some o =>
      rw [lyF_some ho, tkF_some ho]
      have hb : (lx.laid (lyB e N f i o)).map (fun t => t.text.data.toList) = tkB e N f i o := by
        unfold lyB tkB
        by_cases h1 : o.rt = 0
        · rw [if_pos h1, if_pos h1, laid_op]; rfl
        · rw [if_neg h1, if_neg h1]
          by_cases h4 : o.op = 4
          · have hl : o.lf = 0 := by
              have key : ∀ p ∈ opsQ, p.op = 4 → p.lf = 0 := by decide
              exact key o (opO_mem ho).1 h4
            rw [if_pos h4, if_pos hl, laid_op, ih]
          · rw [if_neg h4]
            by_cases h2 : o.lf = 0
            · rw [if_pos h2, if_pos h2, laid_op, laid_no, ih]
            · rw [if_neg h2, if_neg h2, lx.laid_app, List.map_append, laid_no, laid_op, laid_no, ih, ih]
      split
      · show (lx.laid (brT 40 :: (lyB e N f i o ++ [brT 41]))).map (fun t => t.text.data.toList) = [40] :: (tkB e N f i o ++ [[41]])
        have e1 : lx.laid (brT 40 :: (lyB e N f i o ++ [brT 41])) = (⟨3, 0, 0, ⟨#[40]⟩⟩ : lx.Tok) :: lx.laid (lyB e N f i o ++ [brT 41]) := rfl
        rw [e1, List.map_cons, lx.laid_app, List.map_append, hb]
        rfl
      · exact hb
/-- Only words and signs. -/
theorem laid_kind (e : List (Int × Int)) (N : List (List UInt8)) : ∀ (f i : Nat) (a : Int), ∀ t ∈ lx.laid (lyF e N f i a), t.kind ≠ 0
  | 0, _, _ => fun t ht => by cases ht
  | f + 1, i, a => by
    have ih := laid_kind e N f
    have hop : ∀ (o : Opr) (r : List (Option lx.Tok)), (∀ t ∈ lx.laid r, t.kind ≠ 0) → ∀ t ∈ lx.laid (opT o :: r), t.kind ≠ 0 := fun o r hr t ht => by
      unfold opT at ht
      rw [lx.laid] at ht
      rcases List.mem_cons.1 ht with rfl | ht
      · dsimp only; split <;> decide
      · exact hr t ht
    cases ho : opO (e.getD i (0, 0)).1 with
    | none =>
      rw [lyF_none ho]
      intro t ht
      rw [lx.laid, lx.laid, List.mem_singleton] at ht
      rw [ht]
      show (1 : Nat) ≠ 0; decide
    | some o =>
      rw [lyF_some ho]
      have hb : ∀ t ∈ lx.laid (lyB e N f i o), t.kind ≠ 0 := by
        unfold lyB
        split
        · exact hop o [] (fun t ht => by cases ht)
        · split
          · exact hop o _ (ih _ _)
          · split
            · exact hop o _ (by rw [laid_no]; exact ih _ _)
            · intro t ht
              rw [lx.laid_app] at ht
              rcases List.mem_append.1 ht with ht | ht
              · exact ih _ _ t ht
              · rw [laid_no] at ht
                exact hop o _ (by rw [laid_no]; exact ih _ _) t ht
      split
      · intro t ht
        have e1 : lx.laid (brT 40 :: (lyB e N f i o ++ [brT 41])) = (⟨3, 0, 0, ⟨#[40]⟩⟩ : lx.Tok) :: lx.laid (lyB e N f i o ++ [brT 41]) := rfl
        rw [e1] at ht
        rcases List.mem_cons.1 ht with rfl | ht
        · decide
        · rw [lx.laid_app] at ht
          rcases List.mem_append.1 ht with ht | ht
          · exact hb t ht
          · have e2 : lx.laid [brT 41] = [(⟨3, 0, 0, ⟨#[41]⟩⟩ : lx.Tok)] := rfl
            rw [e2, List.mem_singleton] at ht
            rw [ht]
            decide
      · exact hb

/-- What may follow a part: nothing, a blank, a closing bracket. -/
def Saf (R : List (Option lx.Tok)) : Prop := ∀ b, (lx.lay R).head? = some b → b = 32 ∨ b = 41
/-- What may follow the sign of a negation. -/
def Fst (R : List (Option lx.Tok)) : Prop := ∀ b, (lx.lay R).head? = some b → b ≠ 61
theorem okB_saf {i : Nat} {b : UInt8} (h : b = 32 ∨ b = 41) : lx.okB i b.toNat = false := by
  have e : ∀ k : Nat, k = 32 ∨ k = 41 → lx.okB i k = false := by
    intro k hk
    have h1 : lx.letB (k : Nat) = false := decide_eq_false (by omega)
    have h2 : lx.digB (k : Nat) = false := decide_eq_false (by omega)
    unfold lx.okB
    rw [h1, h2, decide_eq_false (show ¬ k = 95 by omega)]
    simp
  apply e
  rcases h with rfl | rfl <;> decide
theorem head_at {s : ByteArray} {r : List UInt8} (h : 0 < s.size) (b : UInt8) (hb : (s.data.toList ++ r).head? = some b) : b.toNat = lx.bt s 0 := by
  have e := lx.bt_left (t := s) (r := r) h
  cases hc : s.data.toList ++ r with
  | nil => rw [hc] at hb; cases hb
  | cons x l =>
    rw [hc] at hb e
    cases hb
    rw [← e]
    rfl
theorem word_tk {s : ByteArray} {R : List (Option lx.Tok)} (h1 : 1 ≤ s.size) (h2 : s.size ≤ 16) (h3 : ∀ i, i < s.size → lx.okB i (lx.bt s i) = true) (hR : Saf R) (hl : lx.LayOk numD R) : lx.LayOk numD (some ⟨1, 0, 0, s⟩ :: R) ∧ Fst (some ⟨1, 0, 0, s⟩ :: R) := by
  refine ⟨⟨h1, lx.first_word h1 h2 h3 (fun b hb => okB_saf (hR b hb)), hl⟩, fun b hb => ?_⟩
  have e := head_at (s := s) (r := lx.lay R) (by omega) b hb
  have h := h3 0 (by omega)
  rw [← e] at h
  rintro rfl
  revert h
  decide
theorem sign_tk {b : UInt8} {R : List (Option lx.Tok)} (h1 : lx.oneB b.toNat = true) (hl : lx.letB (b.toNat : Nat) = false) (hd : lx.digB (b.toNat : Nat) = false) (h2 : ∀ c, (lx.lay R).head? = some c → lx.twoB b.toNat c.toNat = false) (hR : lx.LayOk numD R) : lx.LayOk numD (brT b :: R) :=
  ⟨by show 0 < 1; decide, lx.first_sign (t := ⟨#[b]⟩) (by show 1 ≤ 1; decide) hl hd (lx.sign_one h1 h2), hR⟩
theorem sign2_tk {b c : UInt8} {R : List (Option lx.Tok)} (h1 : lx.twoB b.toNat c.toNat = true) (hl : lx.letB (b.toNat : Nat) = false) (hd : lx.digB (b.toNat : Nat) = false) (hR : lx.LayOk numD R) : lx.LayOk numD (some ⟨3, 0, 0, ⟨#[b, c]⟩⟩ :: R) :=
  ⟨by show 0 < 2; decide, lx.first_sign (t := ⟨#[b, c]⟩) (by show 1 ≤ 2; decide) hl hd (lx.sign_two h1), hR⟩
theorem two_no {b : Nat} (h : b = 40 ∨ b = 41) (c : Nat) : lx.twoB b c = false := by
  rcases h with rfl | rfl <;> simp [lx.twoB]
theorem saf_no (R : List (Option lx.Tok)) : Saf (none :: R) := fun b hb => by
  left
  exact (Option.some.inj hb).symm
theorem close_tk {R : List (Option lx.Tok)} (hR : lx.LayOk numD R) : lx.LayOk numD (brT 41 :: R) ∧ Saf (brT 41 :: R) :=
  ⟨sign_tk (by decide) (by decide) (by decide) (fun c _ => two_no (.inr rfl) _) hR, fun b hb => .inr (Option.some.inj hb).symm⟩
theorem open_tk {R : List (Option lx.Tok)} (hR : lx.LayOk numD R) : lx.LayOk numD (brT 40 :: R) ∧ Fst (brT 40 :: R) :=
  ⟨sign_tk (by decide) (by decide) (by decide) (fun c _ => two_no (.inl rfl) _) hR, fun b hb => by rw [← Option.some.inj hb]; decide⟩
/-- An operation's word, or its sign. -/
theorem op_tk {o : Opr} (ho : o ∈ opsQ) {R : List (Option lx.Tok)} (hR : lx.LayOk numD R) (hS : o.op ≠ 4 → Saf R) (hF : o.op = 4 → Fst R) : lx.LayOk numD (opT o :: R) ∧ (o.lf = 0 → Fst (opT o :: R)) := by
  rcases ops_cases ho with rfl | rfl | rfl | rfl | rfl | rfl | rfl | rfl | rfl | rfl | rfl
  · obtain ⟨h1, h2⟩ := word_tk (s := ⟨#[116, 114, 117, 101]⟩) (by decide) (by decide) (by decide) (hS (by decide)) hR
    exact ⟨h1, fun _ => h2⟩
  · obtain ⟨h1, h2⟩ := word_tk (s := ⟨#[102, 97, 108, 115, 101]⟩) (by decide) (by decide) (by decide) (hS (by decide)) hR
    exact ⟨h1, fun _ => h2⟩
  · refine ⟨sign_tk (b := 33) (by decide) (by decide) (by decide) (fun c hc => ?_) hR, fun _ b hb => by rw [← Option.some.inj hb]; decide⟩
    have h2 : c.toNat ≠ 61 := fun e => hF rfl c hc (UInt8.toNat_inj.1 e)
    simp [lx.twoB, h2]
  · obtain ⟨h1, h2⟩ := word_tk (s := ⟨#[88]⟩) (by decide) (by decide) (by decide) (hS (by decide)) hR
    exact ⟨h1, fun _ => h2⟩
  · obtain ⟨h1, h2⟩ := word_tk (s := ⟨#[70]⟩) (by decide) (by decide) (by decide) (hS (by decide)) hR
    exact ⟨h1, fun _ => h2⟩
  · obtain ⟨h1, h2⟩ := word_tk (s := ⟨#[71]⟩) (by decide) (by decide) (by decide) (hS (by decide)) hR
    exact ⟨h1, fun _ => h2⟩
  · obtain ⟨h1, h2⟩ := word_tk (s := ⟨#[85]⟩) (by decide) (by decide) (by decide) (hS (by decide)) hR
    exact ⟨h1, fun _ => h2⟩
  · obtain ⟨h1, h2⟩ := word_tk (s := ⟨#[82]⟩) (by decide) (by decide) (by decide) (hS (by decide)) hR
    exact ⟨h1, fun _ => h2⟩
  · exact ⟨sign2_tk (b := 38) (c := 38) (by decide) (by decide) (by decide) hR, fun h => absurd h (by decide)⟩
  · exact ⟨sign2_tk (b := 124) (c := 124) (by decide) (by decide) (by decide) hR, fun h => absurd h (by decide)⟩
  · exact ⟨sign2_tk (b := 61) (c := 62) (by decide) (by decide) (by decide) hR, fun h => absurd h (by decide)⟩
theorem name_tk {s : ByteArray} (h : lx.nameB s = true) : 1 ≤ s.size ∧ s.size ≤ 16 ∧ ∀ i, i < s.size → lx.okB i (lx.bt s i) = true := by
  unfold lx.nameB at h
  rw [Bool.and_eq_true, Bool.and_eq_true] at h
  obtain ⟨_, h1, h2⟩ := h
  have h1 := of_decide_eq_true h1
  have h2 : lx.wordN s = s.size := of_decide_eq_true h2
  have h3 := (lx.wordN_spec s).2.1
  rw [h2] at h3
  exact ⟨h1.1, h1.2, h3⟩
end Go.Proofs.YtgnflnfajkoibaaDoor.tx
namespace Go.Proofs.YtgnflnfajkoibaaDoor.tx
open Go.ChangeShapes Go.WideShapes Go.ChangeAt Go.RowKit Go.Deep lt

/-- The tokens stand so that Scan tells them. -/
theorem ly_ok {e : List (Int × Int)} {N : List (List UInt8)} (h : wrF 0 e = 0) (hN : ∀ i q, i < e.length → e.getD i (0, 0) = (3, q) → lx.nameB ⟨(N.getD q.toNat []).toArray⟩ = true) : ∀ (f i : Nat) (a : Int), i < f → i < e.length → ∀ R, lx.LayOk numD R → Saf R → lx.LayOk numD (lyF e N f i a ++ R) ∧ Fst (lyF e N f i a ++ R)
  | 0, i, a, hf, _, _, _, _ => by omega
  | f + 1, i, a, hf, hi, R, hR, hS => by
    rcases node_of h hi with ⟨q, h1, q0, q8, _⟩ | ⟨o, h1, ho, h3, h4⟩
    · rw [lyF_none (by rw [h1]; exact opO_3), h1]
      obtain ⟨n1, n2, n3⟩ := name_tk (hN i q hi h1)
      exact word_tk n1 n2 n3 hS hR
    · rw [lyF_some h1]
      have hb : ∀ R, lx.LayOk numD R → Saf R → lx.LayOk numD (lyB e N f i o ++ R) ∧ Fst (lyB e N f i o ++ R) := fun R hR hS => by
        unfold lyB
        rcases h4 with ⟨g1, _⟩ | ⟨g1, g2, j, v2, rfl, g4, g5, g6, g7⟩ | ⟨g1, g2, g3, j, q, v2, rfl, g4, g5, g6, g7, g8, g9⟩
        · rw [if_pos g1]
          have hl : o.lf = 0 := by
            have key : ∀ p ∈ opsQ, p.rt = 0 → p.lf = 0 := by decide
            exact key o ho g1
          have h44 : o.op ≠ 4 := by
            have key : ∀ p ∈ opsQ, p.rt = 0 → p.op ≠ 4 := by decide
            exact key o ho g1
          obtain ⟨k1, k2⟩ := op_tk ho hR (fun _ => hS) (fun hh => absurd hh h44)
          exact ⟨k1, k2 hl⟩
        · rw [if_neg g1, g5]
          simp only [Int.toNat_natCast]
          obtain ⟨r1, r2⟩ := ly_ok h hN f j o.rt (by omega) (by omega) R hR hS
          by_cases h44 : o.op = 4
          · rw [if_pos h44]
            obtain ⟨k1, k2⟩ := op_tk ho r1 (fun hh => absurd h44 hh) (fun _ => r2)
            exact ⟨k1, k2 g2⟩
          · rw [if_neg h44, if_pos g2]
            obtain ⟨k1, k2⟩ := op_tk (R := none :: (lyF e N f j o.rt ++ R)) ho r1 (fun _ => saf_no _) (fun hh => absurd hh h44)
            exact ⟨k1, k2 g2⟩
        · rw [if_neg g1, if_neg g3, if_neg g2, g6]
          simp only [Int.toNat_natCast]
          obtain ⟨r1, r2⟩ := ly_ok h hN f j o.rt (by omega) (by omega) R hR hS
          obtain ⟨k1, k2⟩ := op_tk (R := none :: (lyF e N f j o.rt ++ R)) ho r1 (fun _ => saf_no _) (fun hh => absurd hh g3)
          have := ly_ok h hN f q o.lf (by omega) (by omega) (none :: opT o :: none :: (lyF e N f j o.rt ++ R)) k1 (saf_no _)
          simpa using this
      split
      · obtain ⟨c1, c2⟩ := close_tk hR
        have hbb := hb (brT 41 :: R) c1 c2
        have := open_tk hbb.1
        simpa using this
      · exact hb R hR hS
theorem tks_few {s : ByteArray} {a : Nat} {T : List lx.Tok} (h : lx.Tks numD s a T) : T.length ≤ s.size - a := by
  induction h with
  | done => simp
  | blank h1 _ _ ih => omega
  | remark h1 hb _ ih => have := lx.lineE_gt h1 hb; omega
  | @token a L k n m h1 hb hr hf hh ih =>
    have := (lx.first_ok h1 hf).1
    rw [List.length_cons]
    omega
/-- Scan tells the tokens of a formula's text. -/
theorem scan_ly {e : List (Int × Int)} {N : List (List UInt8)} (h : wrF 0 e = 0) (hN : ∀ i q, i < e.length → e.getD i (0, 0) = (3, q) → lx.nameB ⟨(N.getD q.toNat []).toArray⟩ = true) {f i : Nat} {a : Int} (hf : i < f) (hi : i < e.length) (hz : (txF e N f i a).length ≤ 6000) {r : lx.Res} (hr : lx.ScanR numD ⟨(txF e N f i a).toArray⟩ r) :
    ∃ T, r = (T, 0, 0) ∧ T.length ≤ 6000 ∧ T.map (fun t => t.text.data.toList) = tkF e N f i a ∧ ∀ t ∈ T, t.kind ≠ 0 := by
  obtain ⟨h1, _⟩ := ly_ok h hN f i a hf hi [] trivial (fun b hb => by cases hb)
  rw [List.append_nil] at h1
  obtain ⟨T, k1, k2⟩ := lx.lay_tks (u := ⟨(txF e N f i a).toArray⟩) (lyF e N f i a) h1 0 (Nat.zero_le _) (by
    rw [lay_ly, show lx.tailS ⟨(txF e N f i a).toArray⟩ 0 = ⟨(txF e N f i a).toArray⟩ by unfold lx.tailS; exact ByteArray.extract_zero_size])
  have hsz : (⟨(txF e N f i a).toArray⟩ : ByteArray).size ≤ 6000 := by rw [size_mk]; exact hz
  have hl := tks_few k1
  have h3 := k1.sc [] (by simp; omega)
  rcases hr with ⟨hb, _⟩ | ⟨_, hs⟩
  · omega
  · refine ⟨T, (lx.Sc.one h3 hs).symm, by omega, ?_, ?_⟩
    · rw [← laid_ly]
      have key : ∀ {A B : List lx.Tok}, lx.SameT A B → B.map (fun t => t.text.data.toList) = A.map (fun t => t.text.data.toList) := fun hs => by
        induction hs with
        | nil => rfl
        | cons _ _ h3 _ ih => rw [List.map_cons, List.map_cons, ih, h3]
      exact key k2
    · have hk := laid_kind e N f i a
      have key : ∀ {A B : List lx.Tok}, lx.SameT A B → (∀ t ∈ A, t.kind ≠ 0) → ∀ t ∈ B, t.kind ≠ 0 := fun hs => by
        induction hs with
        | nil => exact fun _ t ht => by cases ht
        | cons h1 _ _ _ ih =>
          intro hA t ht
          rcases List.mem_cons.1 ht with rfl | ht
          · rw [← h1]; exact hA _ (by simp)
          · exact ih (fun t ht => hA t (by simp [ht])) t ht
      exact key k2 hk
/-- A token's kind matters at the end alone. -/
theorem step_kind (pr : List UInt8 → Option Nat) {k : Int} (hk : k ≠ 0) (s : List UInt8) (S : Rd) : stepF pr k s S = stepF pr 1 s S := by
  unfold stepF goF
  simp only [if_neg hk, if_neg (show ¬ (1 : Int) = 0 by decide)]
theorem run_ok {pr : List UInt8 → Option Nat} : ∀ {Q : List (Int × List UInt8)} {S S' : Rd} {Z : List (Int × List UInt8)}, (∀ x ∈ Q, x.1 ≠ 0) → okF pr (Q.map (·.2)) S = some S' → runF pr (Q ++ Z) S = (Q.length + (runF pr Z S').1, (runF pr Z S').2)
  | [], S, S', Z, _, h => by
    injection h with h
    subst h
    simp
  | (k, s) :: Q, S, S', Z, hk, h => by
    rw [List.map_cons] at h
    unfold okF at h
    dsimp only at h
    have hs := step_kind pr (hk (k, s) (by simp)) s S
    dsimp only at hs
    rw [List.cons_append, runF, hs]
    by_cases h1 : (stepF pr 1 s S).1 = true
    · rw [if_pos h1] at h ⊢
      rw [run_ok (fun x hx => hk x (by simp [hx])) h]
      simp only [List.length_cons]
      congr 1
      omega
    · rw [if_neg h1] at h
      cases h
theorem wrO_nil : wrO [] = none := by decide
/-- The end. -/
theorem run_end {pr : List UInt8 → Option Nat} {S : Rd} {L : List (Int × Int)} (hb : S.bg = false) (hs : setF 0 S = ⟨false, L, []⟩) : runF pr [(0, [])] S = (1, true, ⟨false, L, []⟩) := by
  have h1 : stepF pr 0 [] S = (true, ⟨false, L, []⟩) := by
    unfold stepF goF
    rw [if_neg (by rw [hb]; decide), wrO_nil]
    simp [hs]
  rw [runF, h1]
  simp [runF]
/-- The nodes from a place up to another one, bare. -/
def sgF (e : List (Int × Int)) (v k : Nat) : List (Int × Int) := ((e.map bnF).take k).drop v
theorem sg_snoc {e : List (Int × Int)} {v k : Nat} (hv : v ≤ k) (hk : k < e.length) : sgF e v (k + 1) = sgF e v k ++ [bnF (e.getD k (0, 0))] := by
  unfold sgF
  rw [← bn_more hk, List.drop_append_of_le_length (by rw [List.length_take, List.length_map]; omega)]
theorem sg_app {e : List (Int × Int)} {v r k : Nat} (h1 : v ≤ r) (h2 : r ≤ k) (hk : k ≤ e.length) : sgF e v k = sgF e v r ++ sgF e r k := by
  have e1 : (e.map bnF).take k = (e.map bnF).take r ++ ((e.map bnF).take k).drop r := by
    have := List.take_append_drop r ((e.map bnF).take k)
    rw [List.take_take, Nat.min_eq_left h2] at this
    exact this.symm
  unfold sgF
  conv => lhs; rw [e1]
  rw [List.drop_append_of_le_length (by rw [List.length_take, List.length_map]; omega)]
theorem sg_none (e : List (Int × Int)) (v : Nat) : sgF e v v = [] := by
  unfold sgF
  rw [List.drop_of_length_le]
  rw [List.length_take]
  omega
theorem bn_op {x : Int × Int} {o : Opr} (h : opO x.1 = some o) : bnF x = (o.op, 0) := by
  have h2 := (opO_mem h).2
  have h3 : x.1 ≠ 3 := fun e => by rw [e, opO_3] at h; cases h
  unfold bnF
  rw [if_neg h3, h2]
/-- A part's nodes. -/
theorem nd_sg {e : List (Int × Int)} (h : wrF 0 e = 0) : ∀ (f i v : Nat), i < f → i < e.length → (outF e e.length).getD i 0 = (v : Int) → v ≤ i → ndF e f i = sgF e v (i + 1)
  | 0, i, v, hf, _, _, _ => by omega
  | f + 1, i, v, hf, hi, hv, hvi => by
    rcases node_of h hi with ⟨q, h1, q0, q8, hk⟩ | ⟨o, h1, ho, h3, h4⟩
    · have hn : opO (e.getD i (0, 0)).1 = none := by rw [h1]; exact opO_3
      have e1 : ndF e (f + 1) i = [e.getD i (0, 0)] := by rw [ndF, hn]
      have hvi2 : v = i := by
        rcases whole_of h hi with ⟨_, g2⟩ | ⟨j, v2, g1, g2, g3, _⟩ | ⟨j, q2, v2, g1, g2, g3, g4, _⟩
        · rw [g2] at hv; omega
        · rw [hk] at g3; injection g3 with g5 _; omega
        · rw [hk] at g4; injection g4 with g5 _; omega
      subst hvi2
      rw [e1, sg_snoc (Nat.le_refl _) hi, sg_none, h1]
      rfl
    · have e1 : ndF e (f + 1) i = if o.rt = 0 then [(o.op, 0)] else if o.lf = 0 then ndF e f (kidsF e i).1.toNat ++ [(o.op, 0)] else ndF e f (kidsF e i).1.toNat ++ (ndF e f (kidsF e i).2.toNat ++ [(o.op, 0)]) := by rw [ndF, h1]
      rw [e1, sg_snoc hvi hi, bn_op h1]
      rcases h4 with ⟨g1, hk⟩ | ⟨g1, g2, j, v2, rfl, g4, g5, g6, g7⟩ | ⟨g1, g2, g3, j, q, v2, rfl, g4, g5, g6, g7, g8, g9⟩
      · have hvi2 : v = i := by
          rcases whole_of h hi with ⟨_, g2⟩ | ⟨j, v2, g1', g2, g3, _⟩ | ⟨j, q2, v2, g1', g2, g3, g4, _⟩
          · rw [g2] at hv; omega
          · rw [hk] at g3; injection g3 with g5 _; omega
          · rw [hk] at g4; injection g4 with g5 _; omega
        subst hvi2
        rw [if_pos g1, sg_none]
        rfl
      · obtain rfl : v2 = v := by rw [g6] at hv; omega
        rw [if_neg g1, if_pos g2, g5]
        simp only [Int.toNat_natCast]
        rw [nd_sg h f j v2 (by omega) (by omega) g7 g4]
      · obtain rfl : v2 = v := by rw [g7] at hv; omega
        rw [if_neg g1, if_neg g2, g6]
        simp only [Int.toNat_natCast]
        rw [nd_sg h f q v2 (by omega) (by omega) g8 g5, nd_sg h f j (q + 1) (by omega) (by omega) g9 (by omega), ← List.append_assoc, ← sg_app (by omega) (by omega) (by omega)]
/-- Where a text stands first. -/
theorem ixF_at : ∀ (l : List ByteArray) (s : ByteArray) (k : Nat), 0 ≤ ixF l s k → l.getD ((ixF l s k).toNat - k) default = s
  | [], s, k, h => by
    unfold ixF at h
    omega
  | x :: l, s, k, h => by
    unfold ixF at h ⊢
    by_cases hx : x = s
    · rw [if_pos hx, Int.toNat_natCast, Nat.sub_self]
      exact hx
    · rw [if_neg hx] at h ⊢
      have ih := ixF_at l s (k + 1) h
      have hr := ixF_range l s (k + 1)
      have e1 : (ixF l s (k + 1)).toNat - k = ((ixF l s (k + 1)).toNat - (k + 1)) + 1 := by omega
      rw [e1]
      simpa [List.getD] using ih
theorem ixF_first : ∀ (l : List ByteArray) (s : ByteArray) (k q : Nat), q < l.length → l.getD q default = s → (∀ j, j < q → l.getD j default ≠ s) → ixF l s k = ((k + q : Nat) : Int)
  | [], s, k, q, h, _, _ => by simp at h
  | x :: l, s, k, 0, _, h, _ => by
    unfold ixF
    rw [if_pos (show x = s from h)]
    rfl
  | x :: l, s, k, q + 1, hq, h, hn => by
    unfold ixF
    rw [if_neg (show ¬ x = s from fun e => hn 0 (by omega) e), ixF_first l s (k + 1) q (by simpa using hq) (by simpa [List.getD] using h) (fun j hj => by simpa [List.getD] using hn (j + 1) (by omega))]
    congr 1
    omega
theorem ixF_no {l : List ByteArray} {s : ByteArray} (h : conB l s = false) : ∀ j, j < l.length → l.getD j default ≠ s := by
  have h : ixF l s 0 < 0 := by
    unfold conB at h
    have := of_decide_eq_false h
    omega
  have key : ∀ (l : List ByteArray) (k : Nat), ixF l s k < 0 → ∀ j, j < l.length → l.getD j default ≠ s := by
    intro l
    induction l with
    | nil => intro k _ j hj; simp at hj
    | cons x l ih =>
      intro k hk j hj
      unfold ixF at hk
      by_cases hx : x = s
      · rw [if_pos hx] at hk; omega
      · rw [if_neg hx] at hk
        rcases j with _ | j
        · exact hx
        · have := ih (k + 1) hk j (by simpa using hj)
          simpa [List.getD] using this
  exact key l 0 h
theorem prO_some {N : List ByteArray} {s : ByteArray} {i : Nat} (h : prO N s = some i) : mayB N i = true ∧ N.getD i default = s := by
  unfold prO at h
  split at h
  · rename_i h1
    injection h with h
    have ha := ixF_at (N.take 8) s 0 h1.1
    have hr := ixF_range (N.take 8) s 0
    rw [Nat.sub_zero, h] at ha
    refine ⟨by rw [← h]; exact h1.2, ?_⟩
    have hi : i < (N.take 8).length := by omega
    rw [← ha]
    rw [List.length_take] at hi
    simp [List.getD, List.getElem?_take, show i < 8 by omega]
  · cases h
theorem pr_name {N : List ByteArray} {q : Nat} (h8 : q < 8) (hq : q < N.length) (hm : mayB N q = true) : prO N (N.getD q default) = some q := by
  have hm2 := hm
  unfold mayB at hm2
  simp only [Bool.and_eq_true, Bool.not_eq_true'] at hm2
  have hno := ixF_no hm2.2.2
  have hl : (N.take q).length = q := by rw [List.length_take]; omega
  have hx : ixF (N.take 8) (N.getD q default) 0 = ((0 + q : Nat) : Int) := by
    refine ixF_first (N.take 8) _ 0 q (by rw [List.length_take]; omega) (by simp [List.getD, List.getElem?_take, h8]) (fun j hj => ?_)
    have := hno j (by omega)
    simpa [List.getD, List.getElem?_take, hj, show j < 8 by omega] using this
  unfold prO
  rw [hx, Nat.zero_add, Int.toNat_natCast, if_pos ⟨by omega, hm⟩]
theorem pr_not {N : List ByteArray} {s : ByteArray} (h : lx.nameB s = false ∨ (wrO s.data.toList).isSome = true) : prO N s = none := by
  rcases hp : prO N s with _ | i
  · rfl
  · exfalso
    obtain ⟨h1, h2⟩ := prO_some hp
    unfold mayB at h1
    simp only [Bool.and_eq_true, Bool.not_eq_true', h2] at h1
    rcases h with h | h
    · rw [h] at h1; exact absurd h1.1 (by decide)
    · rw [h] at h1; exact absurd h1.2.1 (by decide)
/-- What textV tells of a formula that has a text. -/
theorem textV_ok {e : List (Int × Int)} {N : List ByteArray} (h : (textV e N).2 = 0) : e.length ≤ 24 ∧ wrF 0 e = 0 ∧ nmW N e = 0 ∧ (textV e N).1 = tB e N e.length (e.length - 1) 1 := by
  unfold textV at h ⊢
  split at h
  · cases h
  · rename_i h1
    split at h
    · rename_i h2; exact absurd h h2
    · rename_i h2
      split at h
      · rename_i h3; exact absurd h h3
      · rename_i h3
        exact ⟨by omega, Decidable.not_not.1 h2, Decidable.not_not.1 h3, by rw [if_neg h1, if_neg h2, if_neg h3]⟩
/-- A formula comes back of its text. -/
theorem parse_back {e : List (Int × Int)} {N : List ByteArray} (h : (textV e N).2 = 0) {r : lx.Res} (hr : lx.ScanR numD (textV e N).1 r) : parseT N (textV e N).1 r = (e.map bnF, 0, 0) := by
  obtain ⟨h24, hw, hn, ht⟩ := textV_ok h
  have hbn := textV_bn h
  obtain ⟨hpos, hlast⟩ := whole_last hw
  have hnm := nmW_ok hn
  have hgood : ∀ i q, i < e.length → e.getD i (0, 0) = (3, q) → q.toNat < 8 ∧ q.toNat < N.length ∧ mayB N q.toNat = true ∧ lx.nameB (N.getD q.toNat default) = true := fun i q hi hq => by
    obtain ⟨g1, g2⟩ := hnm i q hi hq
    obtain ⟨st, _, h3⟩ := Ok.of_is hw i (Nat.le_of_lt hi)
    have h4 := (ndW_ok (h3 hi)).2.2
    rw [hq] at h4
    obtain ⟨k1, k2⟩ := h4 rfl
    dsimp only at k1 k2
    refine ⟨by omega, by omega, g2, ?_⟩
    unfold mayB at g2
    simp only [Bool.and_eq_true] at g2
    exact g2.1
  have hNL : ∀ i q, i < e.length → e.getD i (0, 0) = (3, q) → lx.nameB ⟨((NL N).getD q.toNat []).toArray⟩ = true := fun i q hi hq => by
    rw [NL_at, mk_data]
    exact (hgood i q hi hq).2.2.2
  obtain ⟨n, hnn⟩ : ∃ n, e.length = n + 1 := ⟨e.length - 1, by omega⟩
  have hlen : (txF e (NL N) e.length (e.length - 1) 1).length ≤ 6000 := by
    have := txF_len (N := NL N) hw (fun i q hi hq => by
      have h1 := (name_tk (hNL i q hi hq)).2.1
      rw [size_mk] at h1
      exact h1) e.length (e.length - 1) 1 0 (by omega) (by rw [hlast]; rfl) (by omega)
    omega
  rw [ht] at hr ⊢
  obtain ⟨T, rfl, hT6, hT, hTk⟩ := scan_ly (N := NL N) hw hNL (show e.length - 1 < e.length by omega) (show e.length - 1 < e.length by omega) hlen hr
  have hread := read_part (pr := prN N) hw (fun i q hi hq => by
      obtain ⟨g1, g2, g3, _⟩ := hgood i q hi hq
      rw [NL_at, prN_eq]
      exact pr_name g1 g2 g3) (fun o ho => by
      show prO N ⟨o.sg.toArray⟩ = none
      exact pr_not (.inr (by
        have key : ∀ p ∈ opsQ, (wrO p.sg).isSome = true := by decide
        exact key o ho))) (by
      show prO N ⟨[40].toArray⟩ = none
      exact pr_not (.inl (by kernel_rfl))) e.length (e.length - 1) 1 (by omega) (by omega)
  obtain ⟨S, s1, s2, s3⟩ := read_all hread
  have hnd : ndF e e.length (e.length - 1) = e.map bnF := by
    rw [nd_sg hw e.length (e.length - 1) 0 (by omega) (by omega) (by rw [hlast]; rfl) (by omega), show e.length - 1 + 1 = e.length by omega]
    unfold sgF
    rw [List.drop_zero, List.take_of_length_le (by rw [List.length_map]; exact Nat.le_refl _)]
  rw [hnd] at s3
  have hred : redV N (tB e N e.length (e.length - 1) 1) T = (e.map bnF, 0, 0) := by
    unfold redV allT tkL
    rw [List.map_append]
    have hok : okF (prN N) ((T.map (fun t => ((t.kind : Int), t.text.data.toList))).map (·.2)) rd0 = some S := by
      rw [List.map_map]
      have : (fun x : Int × List UInt8 => x.2) ∘ (fun t : lx.Tok => ((t.kind : Int), t.text.data.toList)) = fun t => t.text.data.toList := rfl
      rw [this, hT]
      exact s1
    have hrun := run_ok (pr := prN N) (Z := [(⟨0, 0, (tB e N e.length (e.length - 1) 1).size, ⟨#[]⟩⟩ : lx.Tok)].map (fun t => ((t.kind : Int), t.text.data.toList))) (fun x hx => by
      obtain ⟨t, ht, rfl⟩ := List.mem_map.1 hx
      have := hTk t ht
      dsimp only
      omega) hok
    rw [hrun]
    have hend := run_end (pr := prN N) s2 s3
    have ez : [(⟨0, 0, (tB e N e.length (e.length - 1) 1).size, ⟨#[]⟩⟩ : lx.Tok)].map (fun t => ((t.kind : Int), t.text.data.toList)) = [(0, [])] := rfl
    rw [ez, hend]
    unfold allV
    rw [if_pos rfl]
  unfold parseT
  dsimp only
  rw [if_pos rfl, hred]
  dsimp only
  rw [if_pos rfl, if_neg (by rw [List.length_map]; omega), hbn, ht, if_pos rfl]
end Go.Proofs.YtgnflnfajkoibaaDoor.tx
