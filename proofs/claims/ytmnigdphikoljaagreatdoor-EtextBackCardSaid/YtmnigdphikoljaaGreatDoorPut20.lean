/- Contracts that the claim stands on, several texts in one: ExprSegs, ExprSpans, EtTextP. -/
import Derived.Shelf.Abstract
import Derived.Test.YtmnigdphikoljaaGreatDoorPut1
import Derived.Test.YtmnigdphikoljaaGreatDoorPut2
import Derived.Test.YtmnigdphikoljaaGreatDoorPut3
import Derived.Test.YtmnigdphikoljaaGreatDoorPut4
import Derived.Test.YtmnigdphikoljaaGreatDoorPut5
import Derived.Test.YtmnigdphikoljaaGreatDoorPut6
import Derived.Test.YtmnigdphikoljaaGreatDoorPut7
import Derived.Test.YtmnigdphikoljaaGreatDoorPut8
import Derived.Test.YtmnigdphikoljaaGreatDoorPut9
import Derived.Test.YtmnigdphikoljaaGreatDoorPut10
import Derived.Test.YtmnigdphikoljaaGreatDoorPut11
import Derived.Test.YtmnigdphikoljaaGreatDoorPut12
import Derived.Test.YtmnigdphikoljaaGreatDoorPut13
import Derived.Test.YtmnigdphikoljaaGreatDoorPut14
import Derived.Test.YtmnigdphikoljaaGreatDoorPut15
import Derived.Test.YtmnigdphikoljaaGreatDoorPut16
import Derived.Test.YtmnigdphikoljaaGreatDoorPut17
import Derived.Test.YtmnigdphikoljaaGreatDoorPut18
import Derived.Test.YtmnigdphikoljaaGreatDoorPut19
namespace Go.Proofs.YtmnigdphikoljaaGreatDoor

/-- The stack behind nodes, if none of them fails. -/
def runSt (f : Int × Int → List Int → Int × Int) (most : Int) : List (Int × Int) → List Int → Option (List Int)
  | [], st => some st
  | nd :: e, st =>
    if takesZ nd.1 < 0 then none else if (st.length : Int) < takesZ nd.1 then none else
    if (f nd (st.drop (st.length - (takesZ nd.1).toNat))).2 ≠ 0 then none else
    if most < (st.take (st.length - (takesZ nd.1).toNat) ++ [(f nd (st.drop (st.length - (takesZ nd.1).toNat))).1]).length then none else runSt f most e (st.take (st.length - (takesZ nd.1).toNat) ++ [(f nd (st.drop (st.length - (takesZ nd.1).toNat))).1])

theorem runSt_cons (f : Int × Int → List Int → Int × Int) (most : Int) (nd : Int × Int) (e : List (Int × Int)) (st : List Int) : runSt f most (nd :: e) st =
    if takesZ nd.1 < 0 then none else if (st.length : Int) < takesZ nd.1 then none else
    if (f nd (st.drop (st.length - (takesZ nd.1).toNat))).2 ≠ 0 then none else
    if most < (st.take (st.length - (takesZ nd.1).toNat) ++ [(f nd (st.drop (st.length - (takesZ nd.1).toNat))).1]).length then none else runSt f most e (st.take (st.length - (takesZ nd.1).toNat) ++ [(f nd (st.drop (st.length - (takesZ nd.1).toNat))).1]) := rfl
theorem runSt_append {f : Int × Int → List Int → Int × Int} {most : Int} : ∀ {a b : List (Int × Int)} {st st1 : List Int}, runSt f most a st = some st1 → runSt f most (a ++ b) st = runSt f most b st1
  | [], b, st, st1, h => by
    injection h with h
    subst h
    rfl
  | nd :: a, b, st, st1, h => by
    rw [List.cons_append, runSt_cons]
    rw [runSt_cons] at h
    split at h
    · cases h
    · next h1 =>
      split at h
      · cases h
      · next h2 =>
        split at h
        · cases h
        · next h3 =>
          split at h
          · cases h
          · next h4 =>
            rw [if_neg h1, if_neg h2, if_neg h3, if_neg h4]
            exact runSt_append h
/-- Working off, told by the stack. -/
theorem runF_of_runSt {f : Int × Int → List Int → Int × Int} {most : Int} {x : Int} : ∀ {e : List (Int × Int)} {k : Nat} {st : List Int}, runSt f most e st = some [x] → runF (fun _ => f) most k e st = (x, 0)
  | [], k, st, h => by
    injection h with h
    subst h
    rfl
  | nd :: e, k, st, h => by
    rw [runSt_cons] at h
    unfold runF
    split at h
    · cases h
    · next h1 =>
      split at h
      · cases h
      · next h2 =>
        split at h
        · cases h
        · next h3 =>
          split at h
          · cases h
          · next h4 =>
            rw [if_neg h1, if_neg h2]
            simp only [if_neg h3, if_neg h4]
            exact runF_of_runSt h
theorem runSt_of_runF {f : Int × Int → List Int → Int × Int} {most : Int} : ∀ {e : List (Int × Int)} {k : Nat} {st : List Int}, (runF (fun _ => f) most k e st).2 = 0 → ∃ x, runSt f most e st = some [x]
  | [], k, st, h => by
    rw [runF_end] at h
    split at h
    · cases h
    · next h0 =>
      split at h
      · cases h
      · next h1 =>
        match st, h0, h1 with
        | [], h0, _ => exact absurd rfl h0
        | [x], _, _ => exact ⟨x, rfl⟩
        | _ :: _ :: _, _, h1 => simp at h1
  | nd :: e, k, st, h => by
    unfold runF at h
    rw [runSt_cons]
    split at h
    · cases h
    · next h1 =>
      split at h
      · cases h
      · next h2 =>
        simp only at h
        split at h
        · next h3 => exact absurd h h3
        · next h3 =>
          split at h
          · cases h
          · next h4 =>
            rw [if_neg h1, if_neg h2, if_neg h3, if_neg h4]
            exact runSt_of_runF h

/-- The first k nodes are the parts side by side of which bs is the beginnings and ks what comes of them, each by itself. -/
inductive Seg (f : Int × Int → List Int → Int × Int) (most : Int) (e : List (Int × Int)) : Nat → List Int → List Int → Prop
  | nil : Seg f most e 0 [] []
  | snoc (i s : Nat) (bs ks : List Int) (x : Int) : s < i → i ≤ e.length → Seg f most e s bs ks → (∀ st, st.length ≤ ks.length → runSt f most ((e.drop s).take (i - s)) st = some (st ++ [x])) → Seg f most e i (bs ++ [(s : Int)]) (ks ++ [x])

theorem Seg.len {f : Int × Int → List Int → Int × Int} {most : Int} {e : List (Int × Int)} {i : Nat} {bs ks : List Int} (h : Seg f most e i bs ks) : bs.length = ks.length := by
  induction h with
  | nil => rfl
  | snoc i s bs ks x _ _ _ _ ih => simp [ih]
theorem Seg.le {f : Int × Int → List Int → Int × Int} {most : Int} {e : List (Int × Int)} {i : Nat} {bs ks : List Int} (h : Seg f most e i bs ks) : i ≤ e.length := by
  cases h with
  | nil => exact Nat.zero_le _
  | snoc _ s bs ks x _ h _ _ => exact h
theorem Seg.pop {f : Int × Int → List Int → Int × Int} {most : Int} {e : List (Int × Int)} {i : Nat} {bs ks : List Int} (h : Seg f most e i bs ks) (hl : 0 < ks.length) : ∃ (s : Nat) (bs' ks' : List Int) (x : Int), bs = bs' ++ [(s : Int)] ∧ ks = ks' ++ [x] ∧ s < i ∧ Seg f most e s bs' ks' ∧
    ∀ st, st.length ≤ ks'.length → runSt f most ((e.drop s).take (i - s)) st = some (st ++ [x]) := by
  cases h with
  | nil => simp at hl
  | snoc _ s bs ks x h1 _ h3 h4 => exact ⟨s, bs, ks, x, rfl, rfl, h1, h3, h4⟩

theorem take_drop_join {α : Type} (e : List α) {s i k : Nat} (h1 : s ≤ i) (h2 : i ≤ k) : (e.drop s).take (k - s) = (e.drop s).take (i - s) ++ (e.drop i).take (k - i) := by
  rw [show k - s = (i - s) + (k - i) by omega, List.take_add, List.drop_drop, show s + (i - s) = i by omega]
theorem take_one {e : List (Int × Int)} {k : Nat} (h : k < e.length) : (e.drop k).take (k + 1 - k) = [e.getD k (0, 0)] := by
  rw [drop_at (0, 0) h, show k + 1 - k = 1 by omega]
  rfl

theorem run_one {f : Int × Int → List Int → Int × Int} {most : Int} {nd : Int × Int} {st ps : List Int} {v : Int} {t : Nat} (ht : takesZ nd.1 = t) (hp : ps.length = t) (hf : f nd ps = (v, 0)) (hm : (st.length : Int) + 1 ≤ most) : runSt f most [nd] (st ++ ps) = some (st ++ [v]) := by
  rw [runSt_cons]
  have e1 : (st ++ ps).length - (takesZ nd.1).toNat = st.length := by rw [ht]; simp; omega
  rw [if_neg (by omega), if_neg (by rw [ht]; simp; omega)]
  rw [e1, List.drop_left, List.take_left, hf, if_neg (by simp), if_neg (by simp; omega)]
  rfl

/-- One node more. -/
theorem Seg.step {f : Int × Int → List Int → Int × Int} {most : Int} {e : List (Int × Int)} {k t : Nat} {bs ks : List Int} {v : Int} (h : Seg f most e k bs ks) (hk : k < e.length) (ht : takesZ (e.getD k (0, 0)).1 = t) (hl : t ≤ ks.length)
    (hf : f (e.getD k (0, 0)) (ks.drop (ks.length - t)) = (v, 0)) (hm : ((ks.length - t : Nat) : Int) + 1 ≤ most) :
    ∃ s : Nat, s ≤ k ∧ (if t = 0 then (k : Int) else bs.getD (bs.length - t) 0) = s ∧ Seg f most e (k + 1) (bs.take (bs.length - t) ++ [(s : Int)]) (ks.take (ks.length - t) ++ [v]) ∧ runSt f most ((e.drop s).take (k + 1 - s)) [] = some [v] := by
  have hr := takesZ_range (e.getD k (0, 0)).1
  have hlen := h.len
  have hc : t = 0 ∨ t = 1 ∨ t = 2 := by omega
  rcases hc with rfl | rfl | rfl
  · simp only [Nat.sub_zero, List.drop_length, List.take_length] at hf hm ⊢
    have hrun : ∀ st : List Int, st.length ≤ ks.length → runSt f most ((e.drop k).take (k + 1 - k)) st = some (st ++ [v]) := fun st hs => by
      rw [take_one hk]
      have := run_one (most := most) (st := st) (ps := []) (t := 0) ht rfl hf (by omega)
      rwa [List.append_nil] at this
    exact ⟨k, Nat.le_refl _, by simp, .snoc _ _ _ _ _ (by omega) hk h hrun, by simpa using hrun [] (by simp)⟩
  · obtain ⟨s, bs', ks', x, rfl, rfl, h1, h2, h3⟩ := h.pop (by omega)
    have e1 : (ks' ++ [x]).length - 1 = ks'.length := by simp
    have e2 : (bs' ++ [(s : Int)]).length - 1 = bs'.length := by simp
    rw [e1, List.drop_left] at hf
    rw [e1] at hm
    rw [e1, e2, List.take_left, List.take_left]
    have hrun : ∀ st : List Int, st.length ≤ ks'.length → runSt f most ((e.drop s).take (k + 1 - s)) st = some (st ++ [v]) := fun st hs => by
      rw [take_drop_join e (show s ≤ k by omega) (show k ≤ k + 1 by omega), runSt_append (h3 st hs), take_one hk]
      exact run_one ht rfl hf (by omega)
    exact ⟨s, by omega, by simp [List.getD], .snoc _ _ _ _ _ (by omega) hk h2 hrun, by simpa using hrun [] (by simp)⟩
  · obtain ⟨s1, bs1, ks1, y, rfl, rfl, h1, h2, h3⟩ := h.pop (by omega)
    obtain ⟨s, bs', ks', x, rfl, rfl, g1, g2, g3⟩ := h2.pop (by simp at hl; omega)
    have e1 : (ks' ++ [x] ++ [y]).length - 2 = ks'.length := by simp
    have e2 : (bs' ++ [(s : Int)] ++ [(s1 : Int)]).length - 2 = bs'.length := by simp
    rw [e1, List.append_assoc, List.drop_left] at hf
    rw [e1] at hm
    rw [e1, e2, List.append_assoc, List.append_assoc, List.take_left, List.take_left]
    have hrun : ∀ st : List Int, st.length ≤ ks'.length → runSt f most ((e.drop s).take (k + 1 - s)) st = some (st ++ [v]) := fun st hs => by
      rw [take_drop_join e (show s ≤ s1 by omega) (show s1 ≤ k + 1 by omega), runSt_append (g3 st hs), take_drop_join e (show s1 ≤ k by omega) (show k ≤ k + 1 by omega), runSt_append (h3 (st ++ [x]) (by simp; omega)), take_one hk, List.append_assoc]
      exact run_one ht rfl hf (by omega)
    exact ⟨s, by omega, by simp [List.getD], .snoc _ _ _ _ _ (by omega) hk g2 hrun, by simpa using hrun [] (by simp)⟩

/-- All of the run, node by node: the stack behind the first k nodes, the beginnings, and each part by itself. -/
structure Told (f : Int × Int → List Int → Int × Int) (most : Int) (e : List (Int × Int)) (k : Nat) (S : Sp) (ks : List Int) : Prop where
  sp : spAt e k = some S
  seg : Seg f most e k S.st ks
  part : ∀ i, i < k → ∃ (s : Nat) (x : Int), S.out.getD i 0 = s ∧ s ≤ i ∧ runSt f most ((e.drop s).take (i + 1 - s)) [] = some [x]
theorem told_run {f : Int × Int → List Int → Int × Int} {most : Int} {e : List (Int × Int)} : ∀ (n k : Nat) (S : Sp) (ks : List Int) (x : Int), n = e.length - k → k ≤ e.length → Told f most e k S ks → runSt f most (e.drop k) ks = some [x] → ∃ S', Told f most e e.length S' [x]
  | 0, k, S, ks, x, hn, hk, h, hr => by
    obtain rfl : k = e.length := by omega
    rw [List.drop_length] at hr
    injection hr with hr
    subst hr
    exact ⟨S, h⟩
  | n + 1, k, S, ks, x, hn, hk, h, hr => by
    have hlt : k < e.length := by omega
    rw [drop_at (0, 0) hlt] at hr
    rw [runSt_cons] at hr
    split at hr
    · cases hr
    · next h1 =>
      split at hr
      · cases hr
      · next h2 =>
        split at hr
        · cases hr
        · next h3 =>
          split at hr
          · cases hr
          · next h4 =>
            obtain ⟨t, ht⟩ : ∃ t : Nat, takesZ (e.getD k (0, 0)).1 = t := ⟨(takesZ (e.getD k (0, 0)).1).toNat, by omega⟩
            rw [ht, Int.toNat_natCast] at h3 h4 hr
            have htl : t ≤ ks.length := by omega
            obtain ⟨v, w, hv⟩ : ∃ v w, f (e.getD k (0, 0)) (ks.drop (ks.length - t)) = (v, w) := ⟨_, _, rfl⟩
            rw [hv] at h3 h4 hr
            have hw : w = 0 := by simpa using h3
            subst hw
            have hlen := h.seg.len
            obtain ⟨s, s1, s2, s3, s4⟩ := h.seg.step hlt ht htl hv (by simp at h4; omega)
            obtain ⟨o1, o2, o3⟩ := spAt_ok h.sp
            have hsp := spAt_next h.sp ht (by omega)
            have hs : (spF k (e.getD k (0, 0)) (S.st.drop (S.st.length - t))).1 = (s : Int) := by
              rw [← s2]
              unfold spF
              by_cases h0 : t = 0
              · subst h0; simp
              · rw [if_neg h0, if_pos (by simp; omega)]
                simp [List.getD]
            rw [hs] at hsp
            refine told_run n (k + 1) _ _ x (by omega) hlt ⟨hsp, s3, fun i hi => ?_⟩ hr
            by_cases hik : i = k
            · subst hik
              exact ⟨s, v, by simp [List.getD, o1], s1, s4⟩
            · obtain ⟨s', x', p1, p2, p3⟩ := h.part i (by omega)
              refine ⟨s', x', ?_, p2, p3⟩
              rw [← p1]
              simp [List.getD, List.getElem?_append_left (show i < S.out.length by omega)]
/-- What is worked off is one part: its beginnings, and each part by itself. -/
theorem spans_of_run {f : Int × Int → List Int → Int × Int} {most : Int} {e : List (Int × Int)} {x : Int} (h : runSt f most e [] = some [x]) : ∃ l, spansF e = some l ∧ l.length = e.length ∧ 0 < e.length ∧ l.getD (e.length - 1) 0 = 0 ∧ l.getD 0 0 = 0 ∧
    ∀ i, i < e.length → ∃ (s : Nat) (y : Int), l.getD i 0 = s ∧ s ≤ i ∧ runSt f most ((e.drop s).take (i + 1 - s)) [] = some [y] := by
  obtain ⟨S, hT⟩ := told_run (f := f) (most := most) (e := e) e.length 0 ⟨[], []⟩ [] x (by omega) (Nat.zero_le _) ⟨rfl, .nil, fun i hi => absurd hi (Nat.not_lt_zero _)⟩ (by simpa using h)
  obtain ⟨o1, o2, o3⟩ := spAt_ok hT.sp
  have hl := hT.seg.len
  simp at hl
  have he : 0 < e.length := by omega
  have hf : spansF e = some S.out := by unfold spansF; rw [hT.sp]; simp only [hl]; rfl
  obtain ⟨s, st', e1, g1, g2, g3⟩ := o2.pos he
  have h0 : st' = [] := by
    rw [e1] at hl
    simp at hl
    exact hl
  subst h0
  have hs0 : s = 0 := by
    rcases Nat.eq_zero_or_pos s with h | h
    · exact h
    · obtain ⟨_, _, e2, _⟩ := g3.pos h
      simp at e2
  subst hs0
  obtain ⟨s', y, p1, p2, p3⟩ := hT.part 0 he
  exact ⟨S.out, hf, o1, he, g2, by rw [p1]; omega, hT.part⟩
end Go.Proofs.YtmnigdphikoljaaGreatDoor
namespace Go.Proofs.YtmnigdphikoljaaGreatDoor
open Go.ChangeShapes Go.WideShapes Go.ChangeAt Go.RowKit

/-- What stands while Spans works: the beginnings told so far lie in block g. -/
def SpI (e : List (Int × Int)) (g bx n : Nat) (k : Nat) (st : List Int) (W : World) : Prop :=
  ∃ S, spAt e k = some S ∧ S.st = st ∧ W.rowIs g 3 n (fst S.out k) ∧ W.cell? ⟨bx, 0, none⟩ = some (.slice (some ⟨g, 0, none⟩) n n) ∧ bx < W.heap.size ∧ g < W.heap.size

theorem below_alloc1q (w : World) (o : Obj) : Below w.heap.size w (w.alloc o) := (Below.refl _ _).alloc (Nat.le_refl _) _
set_option maxRecDepth 20000 in
set_option maxHeartbeats 4000000 in
theorem spans1_any (g bx n k m c : Nat) (t p1 p2 : Int) (fv : Value) (B : Option Addr) (ps L : List Int) (nd : Int × Int) (W : World) (hf : fv = .nilFunc ∨ ∃ g lb, fv = .func (.func g) #[] lb) (hk : k < n) (hm : m = ps.length) (hm2 : m ≤ 1000) (hB : IA W B ps)
    (hBg : ∀ a, B = some a → a.block ≠ g) (hgx : g ≠ bx) (hG : W.rowIs g 3 n (fst L k)) (hX : W.cell? ⟨bx, 0, none⟩ = some (.slice (some ⟨g, 0, none⟩) n n)) (hbx : bx < W.heap.size) (hg : g < W.heap.size) :
    Calls Tryz.prog 44 #[.int .i64 k, .agg #[.int .i64 t, .int .i64 p1, .int .i64 p2, fv], .slice B m c, .pointer (some ⟨bx, 0, none⟩)] W fun x W' =>
      x = .returned (.tuple #[.int .i64 (spF k nd ps).1, .int .i64 0]) ∧ W'.rowIs g 3 n (fun j => if j = k then .int .i64 (spF k nd ps).1 else fst L k j) ∧ Turn (· = g) W W' := by
  have HM := Lib.hid hm
  have HG := Lib.hid hG
  obtain ⟨u, d1⟩ : ∃ u, W.cell? ⟨g, k, none⟩ = some u := ⟨_, hG.cell hk⟩
  have d2 := hG.frozen k
  clear hG
  by_cases h0 : m = 0
  · have HS : Hid ((spF k nd ps).1 = (k : Int)) := Lib.hid (by unfold spF; rw [if_neg (by omega)])
    rw [HS.out]
    subst h0
    clear hm hB hBg
    rcases hf with rfl | ⟨q, lb, rfl⟩
    all_goals
      go_enter Tryz.func44, Tryz.ntmps44
      go_wp2
      go_ret2
      refine ⟨rfl, (HG.out.set k _).alloc _, ?_⟩
      exact ((Turn.refl (· = g) W).set ⟨g, k, none⟩ _ rfl).then_below ((below_alloc1q _ _).mono (by simp))
  · have HS : Hid ((spF k nd ps).1 = ps.getD 0 0) := Lib.hid (by unfold spF; rw [if_pos (by omega)])
    rw [HS.out]
    obtain ⟨b, o, rfl, hb, hc⟩ := hB (by omega)
    have c0 := hc 0 (by omega)
    rw [Nat.add_zero] at c0
    have hbg : b ≠ g := hBg _ rfl
    generalize ps.getD 0 0 = y at *
    have hm1 : 0 < m := by omega
    clear hm hB hBg hc HM HS
    rcases hf with rfl | ⟨q, lb, rfl⟩
    · go_enter Tryz.func44, Tryz.ntmps44
      go_wp2
      obtain ⟨V, HV, x1, y1, z1, z2, HGV, HTV⟩ : ∃ V, V = (W.setCell ⟨g, k, none⟩ (.int .i64 (k : Int))).alloc (.cells #[.int .i64 t, .int .i64 p1, .int .i64 p2, .nilFunc] 90) ∧ V.cell? ⟨bx, 0, none⟩ = some (.slice (some ⟨g, 0, none⟩) n n) ∧ V.cell? ⟨b, o, none⟩ = some (.int .i64 y) ∧
          V.cell? ⟨g, k, none⟩ = some (.int .i64 (k : Int)) ∧ V.frozen? ⟨g, k, none⟩ = false ∧ Hid (V.rowIs g 3 n (fun j => if j = k then .int .i64 (k : Int) else fst L k j)) ∧ Hid (Turn (· = g) W V) :=
        ⟨_, rfl, ((below_alloc1q _ _).cell (p := ⟨bx, 0, none⟩) (by simpa using hbx)).trans ((World.cell?_of_block (Below.heap_setCell W ⟨g, k, none⟩ _ bx (fun e => hgx e.symm))).trans hX),
          ((below_alloc1q _ _).cell (p := ⟨b, o, none⟩) (by simpa using hb)).trans ((World.cell?_of_block (Below.heap_setCell W ⟨g, k, none⟩ _ b hbg)).trans c0),
          (((HG.out.set k (.int .i64 (k : Int))).alloc _).cell hk).trans (by rw [if_pos rfl]), ((HG.out.set k (.int .i64 (k : Int))).alloc _).frozen k, Lib.hid ((HG.out.set k _).alloc _),
          Lib.hid (((Turn.refl (· = g) W).set ⟨g, k, none⟩ _ rfl).then_below ((below_alloc1q _ _).mono (by simp)))⟩
      rw [← HV]
      clear HV d1 d2 hX c0
      refine still_tail_at 6 (by kernel_rfl) (by kernel_rfl) ?_
      intro V3 hV3
      have x3 : V3.cell? ⟨bx, 0, none⟩ = some (.slice (some ⟨g, 0, none⟩) n n) := by rw [hV3]; exact x1
      have y3 : V3.cell? ⟨b, o, none⟩ = some (.int .i64 y) := by rw [hV3]; exact y1
      have z3 : V3.cell? ⟨g, k, none⟩ = some (.int .i64 (k : Int)) := by rw [hV3]; exact z1
      have z4 : V3.frozen? ⟨g, k, none⟩ = false := by rw [hV3]; exact z2
      have HG3 : Hid (V3.rowIs g 3 n (fun j => if j = k then .int .i64 (k : Int) else fst L k j)) := Lib.hid (by rw [hV3]; exact HGV.out)
      have HT3 : Hid (Turn (· = g) W V3) := Lib.hid (by rw [hV3]; exact HTV.out.drewN 1)
      clear hV3 x1 y1 z1 z2 HGV HTV
      simp only [List.take_succ_cons, List.take_zero, List.drop_succ_cons, List.drop_zero]
      repeat still_step
      refine wpStill_nil ?_
      have x4 : (V3.setCell ⟨g, k, none⟩ (.int .i64 y)).cell? ⟨bx, 0, none⟩ = some (.slice (some ⟨g, 0, none⟩) n n) := (World.cell?_of_block (Below.heap_setCell V3 ⟨g, k, none⟩ _ bx (fun e => hgx e.symm))).trans x3
      have z5 : (V3.setCell ⟨g, k, none⟩ (.int .i64 y)).cell? ⟨g, k, none⟩ = some (.int .i64 y) := ((HG3.out.set k (.int .i64 y)).cell hk).trans (by rw [if_pos rfl])
      go_wp2
      go_ret2
      refine ⟨rfl, (HG3.out.set k (.int .i64 y)).congr (fun j _ => ?_), HT3.out.set ⟨g, k, none⟩ _ rfl⟩
      by_cases hj : j = k
      · rw [if_pos hj, if_pos hj]
      · rw [if_neg hj, if_neg hj, if_neg hj]
    · go_enter Tryz.func44, Tryz.ntmps44
      go_wp2
      obtain ⟨V, HV, x1, y1, z1, z2, HGV, HTV⟩ : ∃ V, V = (W.setCell ⟨g, k, none⟩ (.int .i64 (k : Int))).alloc (.cells #[.int .i64 t, .int .i64 p1, .int .i64 p2, .func (.func q) #[] lb] 90) ∧ V.cell? ⟨bx, 0, none⟩ = some (.slice (some ⟨g, 0, none⟩) n n) ∧ V.cell? ⟨b, o, none⟩ = some (.int .i64 y) ∧
          V.cell? ⟨g, k, none⟩ = some (.int .i64 (k : Int)) ∧ V.frozen? ⟨g, k, none⟩ = false ∧ Hid (V.rowIs g 3 n (fun j => if j = k then .int .i64 (k : Int) else fst L k j)) ∧ Hid (Turn (· = g) W V) :=
        ⟨_, rfl, ((below_alloc1q _ _).cell (p := ⟨bx, 0, none⟩) (by simpa using hbx)).trans ((World.cell?_of_block (Below.heap_setCell W ⟨g, k, none⟩ _ bx (fun e => hgx e.symm))).trans hX),
          ((below_alloc1q _ _).cell (p := ⟨b, o, none⟩) (by simpa using hb)).trans ((World.cell?_of_block (Below.heap_setCell W ⟨g, k, none⟩ _ b hbg)).trans c0),
          (((HG.out.set k (.int .i64 (k : Int))).alloc _).cell hk).trans (by rw [if_pos rfl]), ((HG.out.set k (.int .i64 (k : Int))).alloc _).frozen k, Lib.hid ((HG.out.set k _).alloc _),
          Lib.hid (((Turn.refl (· = g) W).set ⟨g, k, none⟩ _ rfl).then_below ((below_alloc1q _ _).mono (by simp)))⟩
      rw [← HV]
      clear HV d1 d2 hX c0
      refine still_tail_at 6 (by kernel_rfl) (by kernel_rfl) ?_
      intro V3 hV3
      have x3 : V3.cell? ⟨bx, 0, none⟩ = some (.slice (some ⟨g, 0, none⟩) n n) := by rw [hV3]; exact x1
      have y3 : V3.cell? ⟨b, o, none⟩ = some (.int .i64 y) := by rw [hV3]; exact y1
      have z3 : V3.cell? ⟨g, k, none⟩ = some (.int .i64 (k : Int)) := by rw [hV3]; exact z1
      have z4 : V3.frozen? ⟨g, k, none⟩ = false := by rw [hV3]; exact z2
      have HG3 : Hid (V3.rowIs g 3 n (fun j => if j = k then .int .i64 (k : Int) else fst L k j)) := Lib.hid (by rw [hV3]; exact HGV.out)
      have HT3 : Hid (Turn (· = g) W V3) := Lib.hid (by rw [hV3]; exact HTV.out.drewN 1)
      clear hV3 x1 y1 z1 z2 HGV HTV
      simp only [List.take_succ_cons, List.take_zero, List.drop_succ_cons, List.drop_zero]
      repeat still_step
      refine wpStill_nil ?_
      have x4 : (V3.setCell ⟨g, k, none⟩ (.int .i64 y)).cell? ⟨bx, 0, none⟩ = some (.slice (some ⟨g, 0, none⟩) n n) := (World.cell?_of_block (Below.heap_setCell V3 ⟨g, k, none⟩ _ bx (fun e => hgx e.symm))).trans x3
      have z5 : (V3.setCell ⟨g, k, none⟩ (.int .i64 y)).cell? ⟨g, k, none⟩ = some (.int .i64 y) := ((HG3.out.set k (.int .i64 y)).cell hk).trans (by rw [if_pos rfl])
      go_wp2
      go_ret2
      refine ⟨rfl, (HG3.out.set k (.int .i64 y)).congr (fun j _ => ?_), HT3.out.set ⟨g, k, none⟩ _ rfl⟩
      by_cases hj : j = k
      · rw [if_pos hj, if_pos hj]
      · rw [if_neg hj, if_neg hj, if_neg hj]

theorem fst_snoc {L : List Int} {k : Nat} {x : Int} (hL : L.length = k) (j : Nat) : fst (L ++ [x]) (k + 1) j = if j = k then .int .i64 x else fst L k j := by
  unfold fst
  by_cases hj : j = k
  · subst hj
    rw [if_pos rfl, if_pos (by omega)]
    simp [List.getD, ← hL]
  · rw [if_neg hj]
    by_cases h2 : j < k
    · rw [if_pos h2, if_pos (by omega)]
      simp [List.getD, List.getElem?_append_left (show j < L.length by omega)]
    · rw [if_neg h2, if_neg (by omega)]

/-- What Spans leaves. -/
def SpansP (w : World) (r : Option (List Int)) (e : Ending) (w' : World) : Prop := Below w.heap.size w w' ∧ match r with
  | none => e = .returned (.tuple #[.slice none 0 0, .bool false])
  | some l => ∃ A c, e = .returned (.tuple #[.slice A l.length c, .bool true]) ∧ InS w' A c l

theorem spAt_some {e : List (Int × Int)} (h : (spansF e).isSome = true) : ∃ S, spAt e e.length = some S ∧ spansF e = some S.out ∧ S.out.length = e.length := by
  unfold spansF at *
  cases hS : spAt e e.length with
  | none => rw [hS] at h; cases h
  | some S =>
    rw [hS] at h
    simp only at h
    by_cases h1 : S.st.length = 1
    · exact ⟨S, rfl, by simp only [if_pos h1], (spAt_ok hS).1⟩
    · rw [if_neg h1] at h; cases h

set_option maxRecDepth 20000 in
set_option maxHeartbeats 4000000 in
theorem spans_any (e : List (Int × Int)) (A : Option Addr) (c m : Nat) (w : World) (hm : m = e.length) (hm2 : m ≤ 1000) (hA : PA w A e) :
    Calls Tryz.prog 20 #[.slice A m c] w (SpansP w (spansF e)) := by
  have hmf : ∀ (fn : Fn) (first cap : Array Value) (w : World), (Instr.makeFunc fn first cap).run Tryz.prog w = .ok (.func fn first cap) w := fun _ _ _ _ => rfl
  have HM := Lib.hid hm
  have HA := Lib.hid hA
  have hmk := run_make_row' (P := Tryz.prog) 48 3 (.int .i64 0) 8 Tryz.underlying48 Tryz.info3 rfl .i64 .i64 m (by omega) (by omega) w
  clear hm hA
  go_enter Tryz.func20, Tryz.ntmps20
  go_wp2_with fail
  obtain ⟨w2, HW2, hG, hX, hB2, hz⟩ : ∃ w2, w2 = (w.alloc (.cells (madeCells #[.int .i64 0] m) 3)).alloc (.cells #[.slice (some ⟨w.heap.size, 0, none⟩) m m] 48) ∧ w2.rowIs w.heap.size 3 m (fun _ => .int .i64 0) ∧
      w2.cell? ⟨w.heap.size + 1, 0, none⟩ = some (.slice (some ⟨w.heap.size, 0, none⟩) m m) ∧ Below w.heap.size w w2 ∧ w2.heap.size = w.heap.size + 2 :=
    ⟨_, rfl, (World.rowIs_made w _ _ _).alloc _, World.cell?_alloc_at _ _ _ _ (by simp), ((below_alloc1q w _).alloc (by simp) _), by simp⟩
  rw [← HW2]
  have HG := Lib.hid hG
  have HX := Lib.hid hX
  have HB2 := Lib.hid hB2
  have HZ := Lib.hid hz
  clear HW2 hmk hG hX hB2 hz
  by_cases h0 : m = 0
  · have he : e = [] := List.eq_nil_of_length_eq_zero (by rw [← HM.out]; exact h0)
    subst he
    subst h0
    refine (work_any 44 #[.pointer (some ⟨w.heap.size + 1, 0, none⟩)] (fun _ => False) spF [] (fun _ _ _ => True) A c 0 0 w2 rfl (fun h => absurd h (by simp)) (by omega) (fun _ h => h.elim) (fun _ _ h => h)
      (enters_of Tryz.func44 (by kernel_rfl) rfl) (fun _ _ _ _ _ _ _ => trivial) (fun k st W ov B q d ps hk => absurd hk (by simp)) trivial).mono ?_
    rintro x w3 ⟨rfl, _, hT⟩
    have HB3 : Hid (Below w.heap.size w w3) := Lib.hid (HB2.out.trans (Below.mono ⟨hT.os, hT.tape, hT.output, hT.size, fun i hi => hT.block i hi (fun h => h)⟩ HB2.out.size))
    have hr : runF spF 0 0 [] [] = (0, 4) := rfl
    rw [hr]
    clear hT hr
    go_wp2
    go_ret2
    exact ⟨HB3.out, rfl⟩
  · have hT1 : ∀ a, A = some a → ¬ a.block = w.heap.size := fun a ha => by
      obtain ⟨b, o, hb, hlt, _⟩ := HA.out (by rw [← HM.out]; omega)
      rw [ha] at hb
      injection hb with hb
      subst hb
      show ¬ b = w.heap.size
      omega
    have hme : (m : Int) = (e.length : Int) := by rw [HM.out]
    obtain ⟨r1, r2, HR⟩ : ∃ r1 r2, Hid (runF spF m 0 e [] = (r1, r2)) := ⟨_, _, Lib.hid rfl⟩
    have HRS : Hid ((r2 = 0 ∧ (spansF e).isSome = true) ∨ (r2 ≠ 0 ∧ spansF e = none)) := Lib.hid (by
      have h := run_spans (e := e) e.length 0 ⟨[], []⟩ (by omega) (Nat.zero_le _) rfl
      rw [List.drop_zero, ← hme, HR.out] at h
      rcases h with ⟨x, hx, h⟩ | ⟨hx, h⟩
      · injection hx with h1 h2
        exact .inl ⟨h2, h⟩
      · exact .inr ⟨hx, h⟩)
    clear hme
    refine (work_any 44 #[.pointer (some ⟨w.heap.size + 1, 0, none⟩)] (· = w.heap.size) spF e (SpI e w.heap.size (w.heap.size + 1) m) A c m m w2 HM.out (HA.out.below (HB2.out)) hm2 (fun k hk => by have := HZ.out; omega) hT1
      (enters_of Tryz.func44 (by kernel_rfl) rfl) ?_ ?_ ?_).mono ?_
    · rintro k st W W' ⟨S, h1, h2, h3, h4, h5, h6⟩ hT hB
      have hz2 := HZ.out
      refine ⟨S, h1, h2, h3.of_block (hB.block _ (by omega)), (hB.cell (p := ⟨w.heap.size + 1, 0, none⟩) (by show w.heap.size + 1 < w2.heap.size; omega)).trans h4, Nat.lt_of_lt_of_le h5 hB.size, Nat.lt_of_lt_of_le h6 hB.size⟩
    · rintro k st W ov B q d ps hk ⟨S, h1, h2, h3, h4, h5, h6⟩ hT ⟨fv, rfl, hfv⟩ hq hps hqs hpst hIA hBl
      subst h2
      have hz2 := HZ.out
      have hr := takesZ_range (e.getD k (0, 0)).1
      refine (spans1_any w.heap.size (w.heap.size + 1) m k q d _ _ _ fv B ps S.out (e.getD k (0, 0)) W hfv.form (by rw [HM.out]; exact hk) hps (by omega) hIA (fun a ha => by have := hBl a ha; omega) (by omega) h3 h4 h5 h6).mono ?_
      rintro x W' ⟨rfl, hG', hT'⟩
      refine ⟨rfl, fun _ => ?_, hT'⟩
      have hnx := spAt_next h1 hq.symm hqs
      rw [← hpst] at hnx
      refine ⟨_, hnx, rfl, hG'.congr (fun j _ => (fst_snoc (spAt_ok h1).1 j).symm), (hT'.cell (p := ⟨w.heap.size + 1, 0, none⟩) h5 (by show ¬ w.heap.size + 1 = w.heap.size; omega)).trans h4, Nat.lt_of_lt_of_le h5 hT'.size, Nat.lt_of_lt_of_le h6 hT'.size⟩
    · exact ⟨⟨[], []⟩, rfl, rfl, HG.out.congr (fun j _ => by simp [fst]), HX.out, by rw [HZ.out]; omega, by rw [HZ.out]; omega⟩
    · rintro x w3 ⟨rfl, hI, hT⟩
      rw [HR.out] at hI ⊢
      have HB3 : Hid (Below w.heap.size w w3) := Lib.hid (HB2.out.trans (hT.below (fun k hk => Nat.le_of_eq hk.symm) HB2.out.size))
      have HII := Lib.hid hI
      clear hI hT
      rcases HRS.out with ⟨hr0, hs⟩ | ⟨hr0, hs⟩
      · subst hr0
        obtain ⟨S, g1, g2, g3, g4, g5, g6⟩ := HII.out rfl
        have HS := Lib.hid hs
        have HG1 := Lib.hid g1
        have HG3 := Lib.hid g3
        clear hs g1 g2 g3
        clear hT1
        go_wp2
        go_ret2
        obtain ⟨S2, s1, s2, s3⟩ := spAt_some HS.out
        have hSS : S2 = S := by
          have h := HG1.out
          rw [HM.out, s1] at h
          injection h
        subst hSS
        refine ⟨HB3.out, ?_⟩
        rw [s2]
        have hlm : S2.out.length = m := by rw [s3, HM.out]
        refine ⟨some ⟨w.heap.size, 0, none⟩, m, by rw [hlm]; rfl, ⟨fun _ => ⟨w.heap.size, 0, rfl, g6, fun i hi => ?_⟩, by rw [hlm]; exact Nat.le_refl _, by unfold maxLen; omega, fun h => by cases h⟩⟩
        have him : i < m := by rw [← hlm]; exact hi
        have hcc := World.rowIs.cell HG3.out him
        rw [Nat.zero_add, hcc]
        rw [fst_full i him]
      · have hr2 : (r2 != 0) = true := by simpa using hr0
        have HS := Lib.hid hs
        clear hs hr0 hT1
        go_wp2
        go_ret2
        refine ⟨HB3.out, ?_⟩
        rw [HS.out]
        rfl
end Go.Proofs.YtmnigdphikoljaaGreatDoor
namespace Go.Proofs.YtmnigdphikoljaaGreatDoor.et
open Go.ChangeShapes Go.WideShapes Go.ChangeAt Go.RowKit Go.Deep

/-- Trees whose nodes take what they have. -/
def Fits : Ex → Prop
  | .lf nd => takesZ nd.1 = 0
  | .un nd a => takesZ nd.1 = 1 ∧ Fits a
  | .bi nd a b => takesZ nd.1 = 2 ∧ Fits a ∧ Fits b
def stepX (st : List Ex) (nd : Int × Int) : List Ex := if takesZ nd.1 = 0 then .lf nd :: st else if takesZ nd.1 = 1 then (match st with
  | a :: r => .un nd a :: r
  | [] => []) else match st with
  | b :: a :: r => .bi nd a b :: r
  | _ => []
/-- The tree of a list of nodes that is one. -/
def treeF (e : List (Int × Int)) : Ex := (e.foldl stepX []).headD (.lf (0, 0))
theorem fold_flat : ∀ {x : Ex} (st : List Ex), Fits x → x.flat.foldl stepX st = x :: st
  | .lf nd, st, h => by
    show stepX st nd = _
    unfold stepX
    rw [if_pos (show takesZ nd.1 = 0 from h)]
  | .un nd a, st, h => by
    rw [Ex.flat, List.foldl_append, fold_flat st h.2, List.foldl_cons, List.foldl_nil]
    unfold stepX
    rw [if_neg (by rw [h.1]; decide), if_pos h.1]
  | .bi nd a b, st, h => by
    rw [Ex.flat, List.foldl_append, List.foldl_append, fold_flat st h.2.1, fold_flat _ h.2.2, List.foldl_cons, List.foldl_nil]
    unfold stepX
    rw [if_neg (by rw [h.1]; decide), if_neg (by rw [h.1]; decide)]
theorem treeF_flat {x : Ex} (h : Fits x) : treeF x.flat = x := by
  unfold treeF
  rw [fold_flat [] h]
  rfl
theorem At.fits {e : List (Int × Int)} {B : List Int} {s k : Nat} {x : Ex} (h : At e B s k x) : Fits x := by
  induction h with
  | lf _ h2 _ => exact h2
  | un _ h2 _ _ ih => exact ⟨h2, ih⟩
  | bi _ h2 _ _ _ ih1 ih2 => exact ⟨h2, ih1, ih2⟩
theorem pOf_some {op : Int} (h : takesZ op = 2) : ∃ p, pOf op = some p := by
  have ho : 11 ≤ op ∧ op ≤ 19 := by
    unfold takesZ at h
    split at h
    · omega
    · split at h
      · assumption
      · split at h <;> omega
  have h9 : op = 11 ∨ op = 12 ∨ op = 13 ∨ op = 14 ∨ op = 15 ∨ op = 16 ∨ op = 17 ∨ op = 18 ∨ op = 19 := by omega
  rcases h9 with rfl | rfl | rfl | rfl | rfl | rfl | rfl | rfl | rfl <;> exact ⟨_, rfl⟩
/-- What part asks of the nodes that it writes. -/
def GoodN (N : Nm) (nd : Int × Int) : Prop := There N nd ∧ (nameB N nd).size ≤ 16 ∧ -9223372036854775808 ≤ nd.2 ∧ nd.2 ≤ 9223372036854775807
theorem part_all (F : Wr) (hlen : F.e.length ≤ 100000) {s k : Nat} {x : Ex} (h : At F.e F.B s k x) : (∀ nd ∈ x.flat, GoodN F.N nd) → PartK F k (txt F.N x) := by
  have size : ∀ {s k : Nat} {y : Ex}, At F.e F.B s k y → (∀ nd ∈ y.flat, GoodN F.N nd) → (txt F.N y).size ≤ 1000000000 := fun {s k y} hy hg => by
    have h1 := txt_size (N := F.N) (x := y) (fun nd hn => (hg nd hn).2)
    have h2 := hy.spec
    omega
  induction h with
  | @lf k h1 h2 h3 =>
    intro hg
    obtain ⟨g1, g2, g3, g4⟩ := hg (F.e.getD k (0, 0)) (by simp [Ex.flat])
    clear hg
    generalize hnd : F.e.getD k (0, 0) = nd at *
    obtain ⟨op, n⟩ := nd
    dsimp only at h2 g3 g4
    obtain ⟨l1, l2, l3⟩ := takes_leaf h2
    unfold txt lfT
    have hc : op = 1 ∨ op = 2 ∨ op = 4 ∨ op = 5 ∨ op = 6 ∨ op = 7 ∨ op = 8 := by omega
    rcases hc with rfl | rfl | rfl | rfl | rfl | rfl | rfl
    · exact part1 F k n h1 hnd g1 (by omega) g3 g4
    · exact part2 F k n h1 hnd g1 (by omega) g3 g4
    · exact part4 F k n h1 hnd g1 (by omega) g3 g4
    · exact part5 F k n h1 hnd g1 (by omega) g3 g4
    · exact part6 F k n h1 hnd g1 (by omega) g3 g4
    · exact part7 F k n h1 hnd g1 (by omega) g3 g4 (g1 F.N.procs rfl).1
    · exact part8 F k n h1 hnd g1 (by omega) g3 g4
  | @un s k a h1 h2 h3 h4 ih =>
    intro hg
    obtain ⟨g1, g2, g3, g4⟩ := hg (F.e.getD (k + 1) (0, 0)) (by simp [Ex.flat])
    have hga : ∀ nd ∈ a.flat, GoodN F.N nd := fun nd hn => hg nd (by simp only [Ex.flat, List.mem_append]; exact .inl hn)
    have hP := ih hga
    have hS := size h3 hga
    have hsp := h3.spec
    clear hg
    generalize hnd : F.e.getD (k + 1) (0, 0) = nd at *
    obtain ⟨op, n⟩ := nd
    dsimp only at h2 g3 g4
    have hc : op = 3 ∨ op = 9 ∨ op = 10 := by
      unfold takesZ at h2
      split at h2
      · assumption
      · split at h2
        · omega
        · split at h2 <;> omega
    unfold txt unT
    rcases hc with rfl | rfl | rfl
    · exact part3 F k n h1 hnd g1 (by omega) g3 g4 _ hP hS
    · exact part9 F k n h1 hnd g1 (by omega) g3 g4 _ a.root hP hsp.2.2.2.1 hS
    · exact part10 F k n h1 hnd g1 (by omega) g3 g4 _ a.root hP hsp.2.2.2.1 hS
  | @bi s m k a b h1 h2 h3 h4 h5 ih1 ih2 =>
    intro hg
    obtain ⟨g1, g2, g3, g4⟩ := hg (F.e.getD (k + 1) (0, 0)) (by simp [Ex.flat])
    have hga : ∀ nd ∈ a.flat, GoodN F.N nd := fun nd hn => hg nd (by simp only [Ex.flat, List.mem_append]; exact .inl (.inl hn))
    have hgb : ∀ nd ∈ b.flat, GoodN F.N nd := fun nd hn => hg nd (by simp only [Ex.flat, List.mem_append]; exact .inl (.inr hn))
    have hPa := ih1 hga
    have hPb := ih2 hgb
    have hSa := size h3 hga
    have hSb := size h4 hgb
    have hs3 := h3.spec
    have hs4 := h4.spec
    clear hg
    generalize hnd : F.e.getD (k + 1) (0, 0) = nd at *
    obtain ⟨op, n⟩ := nd
    dsimp only at h2 g3 g4
    obtain ⟨p, hp⟩ := pOf_some h2
    have ho : 11 ≤ op := by
      unfold takesZ at h2
      split at h2
      · omega
      · split at h2
        · omega
        · split at h2 <;> omega
    unfold txt
    exact partB F k op n h1 hnd g1 (by omega) g3 g4 ho m _ _ a.root b.root hPa hPb (by omega) hs4.1 hs3.2.2.2.1 hs4.2.2.2.1 hSa hSb p hp
/-- Each node of what is worked off is let through. -/
theorem runSt_each {f : Int × Int → List Int → Int × Int} {most : Int} : ∀ {e : List (Int × Int)} {st r : List Int}, runSt f most e st = some r → ∀ nd ∈ e, ∃ ps, (f nd ps).2 = 0 ∧ 0 ≤ takesZ nd.1
  | [], _, _, _ => fun nd hn => absurd hn (by simp)
  | x :: e, st, r, h => by
    rw [runSt_cons] at h
    split at h
    · cases h
    · rename_i h1
      split at h
      · cases h
      · split at h
        · cases h
        · rename_i h3
          split at h
          · cases h
          · intro nd hn
            rcases List.mem_cons.1 hn with rfl | hn
            · exact ⟨_, Decidable.not_not.1 h3, by omega⟩
            · exact runSt_each h nd hn
theorem kind_each {S : Sc} {e : List (Int × Int)} (h : (kindF S e).2 = 0) : ∀ nd ∈ e, ∃ ps, (nodeK S nd ps).2 = 0 ∧ 0 ≤ takesZ nd.1 := by
  unfold kindF at h
  split at h
  · cases h
  · obtain ⟨x, hx⟩ := runSt_of_runF h
    exact runSt_each hx
/-- The scope's lengths are those of its names. -/
structure Lens (S : Sc) (N : Nm) : Prop where
  v : S.vars.length = N.vars.length
  c : S.chans.length = N.chans.length
  p : S.procs.length = N.procs.length
  s : S.sizes.length = N.scals.length
  l : S.locals.length = N.locals.length
  lim : ∀ op l, nmOf N op = some l → l.length ≤ 1000000
theorem lens_of {w : World} {X : ScX} {S : Sc} {N : Nm} (h : SR w X S) (hn : NmR w X N) (hl : ∀ op l, nmOf N op = some l → l.length ≤ 1000000) : Lens S N :=
  ⟨by rw [← h.l2, hn.l2], by rw [← h.l3, hn.l3], by rw [← h.l4, hn.l4], by rw [← h.l1, hn.l1], by rw [← h.l5, hn.l5], hl⟩
theorem there_of {S : Sc} {N : Nm} (hL : Lens S N) {nd : Int × Int} {ps : List Int} (h : (nodeK S nd ps).2 = 0) : There N nd := by
  obtain ⟨op, n⟩ := nd
  have var : ∀ {nsc : Nat} {l : List (Int × Int)} {q : Int × Int}, varK nsc l n = some q → 0 ≤ n ∧ n < l.length := fun hv => by
    unfold varK at hv
    split at hv
    · rename_i hc
      exact ⟨hc.1, hc.2.1⟩
    · cases hv
  have plain : ∀ {nsc : Nat} {l : List (Int × Int)}, (plainK nsc l n).2 = 0 → 0 ≤ n ∧ n < l.length := fun hp => by
    unfold plainK at hp
    split at hp
    · cases hp
    · rename_i hv
      exact var hv
  have item : ∀ {nsc : Nat} {l : List (Int × Int)} {ix : Int}, (itemK nsc l n ix).2 = 0 → 0 ≤ n ∧ n < l.length := fun hp => by
    unfold itemK at hp
    split at hp
    · cases hp
    · rename_i hv
      exact var hv
  have had : ∀ {b : Bool}, (hadF 0 b 8).2 = 0 → b = true := fun {b} hp => by
    cases b
    · cases hp
    · rfl
  have fin : ∀ (l : List ByteArray) (m : Nat), m = l.length → l.length ≤ 1000000 → op ≠ 7 → 0 ≤ n → n < m → 0 ≤ n ∧ n ≤ 9000000000000000000 ∧ (placeF (op, n)).toNat < l.length ∧ l.length ≤ 1000000 := fun l m h1 h2 h3 h4 h5 => by
    have e : placeF (op, n) = n := if_neg h3
    rw [e]
    omega
  intro l hl
  have hlim := hL.lim op l hl
  unfold nodeK at h
  unfold nmOf at hl
  dsimp only at h hl ⊢
  by_cases h2 : op = 2
  · subst h2
    simp at h hl
    subst hl
    obtain ⟨p1, p2⟩ := plain h
    exact fin _ _ hL.v hlim (by decide) p1 p2
  by_cases h3 : op = 3
  · subst h3
    simp at h hl
    subst hl
    obtain ⟨p1, p2⟩ := item h
    exact fin _ _ hL.v hlim (by decide) p1 p2
  by_cases h4 : op = 4
  · subst h4
    simp at h hl
    subst hl
    obtain ⟨p1, p2⟩ := plain h
    exact fin _ _ hL.l hlim (by decide) p1 p2
  by_cases h6 : op = 6
  · subst h6
    simp at h hl
    subst hl
    have hb := had h
    unfold chanB at hb
    have hb := of_decide_eq_true hb
    exact fin _ _ hL.c hlim (by decide) hb.1 hb.2.1
  by_cases h7 : op = 7
  · subst h7
    simp at h hl
    subst hl
    have hb := had h
    unfold locB at hb
    have hb := of_decide_eq_true hb
    have e : placeF (7, n) = n / 16 := rfl
    rw [e]
    have := hL.p
    omega
  by_cases h8 : op = 8
  · subst h8
    simp at h hl
    subst hl
    unfold noneK at h
    split at h
    · rename_i hc
      exact fin _ _ hL.s hlim (by decide) hc.1 hc.2
    · cases h
  simp [h2, h3, h4, h6, h7, h8] at hl
/-- The text of nodes in a scope, or why there is none. -/
def textF (S : Sc) (N : Nm) (e : List (Int × Int)) : ByteArray × Int :=
  if (kindF S e).2 = 0 then (if e.all (tellsB N) then (txt N (treeF e), 0) else (⟨#[]⟩, 6)) else (⟨#[]⟩, (kindF S e).2)
/-- An expression that has a kind is a tree. -/
theorem kind_tree {S : Sc} {e : List (Int × Int)} (h : (kindF S e).2 = 0) : ∃ B x, spansF e = some B ∧ B.length = e.length ∧ 0 < e.length ∧ e.length ≤ 24 ∧ At e B 0 (e.length - 1) x ∧ x.flat = e ∧ treeF e = x := by
  have h0 := h
  unfold kindF at h
  split at h
  · cases h
  · rename_i hl
    obtain ⟨x, hx⟩ := runSt_of_runF h
    obtain ⟨B, hB, hBl, hpos, _⟩ := spans_of_run hx
    obtain ⟨_, y, hy⟩ := spans_tree hB
    have hf := hy.flat
    have e1 : e.length - 1 + 1 - 0 = e.length := by omega
    rw [e1, List.drop_zero, List.take_length] at hf
    exact ⟨B, y, hB, hBl, hpos, by omega, hy, hf.symm, by rw [hf]; exact treeF_flat hy.fits⟩
theorem nameB_size {s : ByteArray} (h : lx.nameB s = true) : s.size ≤ 16 := by
  unfold lx.nameB at h
  simp at h
  omega
theorem good_of {S : Sc} {N : Nm} (hL : Lens S N) {e : List (Int × Int)} (hN : N64 e) (hk : (kindF S e).2 = 0) (ht : e.all (tellsB N) = true) : ∀ nd ∈ e, GoodN N nd := fun nd hn => by
  obtain ⟨ps, h1, _⟩ := kind_each hk nd hn
  have hT := there_of hL h1
  have hB := List.all_eq_true.1 ht nd hn
  refine ⟨hT, ?_, hN nd hn⟩
  unfold tellsB at hB
  unfold nameB nameOf
  split at hB
  · rename_i h0
    rw [h0]
    exact Nat.zero_le _
  · rename_i l h0
    rw [h0]
    show (l.getD (placeF nd).toNat default).size ≤ 16
    split at hB
    · cases hB
    · exact nameB_size (by simp at hB; exact hB.1)
end Go.Proofs.YtmnigdphikoljaaGreatDoor.et
