/- Contracts that the claim stands on, several texts in one: EtBound, LexTks, NumTextsPure. -/
import Derived.Lib.Join
import Derived.Lib.AtoiAllCases
import Derived.Lib.ItoaNum
import Derived.Lib.ItoaLen
import Derived.Test.YtmnigdphikoljaaGreatDoorPut1
import Derived.Test.YtmnigdphikoljaaGreatDoorPut2
import Derived.Test.YtmnigdphikoljaaGreatDoorPut3
import Derived.Test.YtmnigdphikoljaaGreatDoorPut4
import Derived.Test.YtmnigdphikoljaaGreatDoorPut5
import Derived.Test.YtmnigdphikoljaaGreatDoorPut6
import Derived.Test.YtmnigdphikoljaaGreatDoorPut7
import Derived.Test.YtmnigdphikoljaaGreatDoorPut8
import Derived.Test.YtmnigdphikoljaaGreatDoorPut9
import Derived.Test.YtmnigdphikoljaaGreatDoorPut10
namespace Go.Proofs.YtmnigdphikoljaaGreatDoor.et
open Go.ChangeShapes Go.WideShapes Go.ChangeAt Go.RowKit Go.Deep

def Okt (st : St) : Prop := ∀ t ∈ st.ts, -2000000 ≤ t.num ∧ t.num ≤ 2000000
def Bd (nd : Int × Int) : Prop := -100000000 ≤ nd.2 ∧ nd.2 ≤ 100000000
def Snd (rd : St → Rd) : Prop := ∀ st, Okt st → Okt (rd st).2 ∧ ∀ nd ∈ (rd st).1, Bd nd
theorem Okt.fail {st : St} (h : Okt st) (p y : Int) : Okt (st.fail p y) := fun t ht => h t (fail_sub ht)
theorem Okt.take {st : St} (h : Okt st) (en : Nat) : Okt (takeF en st).2 := fun t ht => h t (take_sub ht)
theorem Okt.fol {st : St} (h : Okt st) (s : ByteArray) : Okt (folF s st).2 := fun t ht => by
  unfold folF at ht
  split at ht
  · exact h t ht
  · rename_i u r e
    split at ht
    · exact h t (by rw [e]; exact List.mem_cons_of_mem _ ht)
    · exact h t ht
theorem Okt.sg {st : St} (h : Okt st) (en : Nat) (s : ByteArray) : Okt (sgF en s st) := fun t ht => h t (sg_sub ht)
theorem Okt.nm {st : St} (h : Okt st) (N : Nm) (en : Nat) (op : Int) : Okt (nmF N en op st).2 := fun t ht => h t (nm_sub ht)
theorem Okt.num {st : St} (h : Okt st) (en : Nat) : Okt (numF en st).2 := fun t ht => by
  unfold numF at ht
  dsimp only at ht
  split at ht
  · exact h t (take_sub ht)
  · exact h t (take_sub (fail_sub ht))
theorem head_ok {st : St} (h : Okt st) (en : Nat) : -2000000 ≤ (takeF en st).1.num ∧ (takeF en st).1.num ≤ 2000000 := num_in (en := en) h
theorem rowL_snd {k : Nat} {nx : St → Rd} (hnx : Snd nx) : ∀ g l st, Okt st → (∀ nd ∈ l, Bd nd) → Okt (rowL k nx g l st).2 ∧ ∀ nd ∈ (rowL k nx g l st).1, Bd nd
  | 0, l, st, h, hl => ⟨h, hl⟩
  | g + 1, l, st, h, hl => by
    unfold rowL
    split
    · exact ⟨h, hl⟩
    · rename_i t r e
      split
      · split
        · exact ⟨h, hl⟩
        · rename_i op _
          have h2 : Okt ⟨r, st.pl, st.why⟩ := fun u hu => h u (by rw [e]; exact List.mem_cons_of_mem _ hu)
          obtain ⟨a, b⟩ := hnx _ h2
          have hl2 : ∀ nd ∈ l ++ (nx ⟨r, st.pl, st.why⟩).1 ++ [(op, 0)], Bd nd := fun nd hn => by
            rcases List.mem_append.1 hn with hn | hn
            · rcases List.mem_append.1 hn with hn | hn
              · exact hl nd hn
              · exact b nd hn
            · obtain rfl : nd = (op, 0) := by simpa using hn
              exact ⟨by show (-100000000 : Int) ≤ 0; omega, by show (0 : Int) ≤ 100000000; omega⟩
          split
          · exact ⟨a, hl2⟩
          · exact rowL_snd hnx g _ _ a hl2
      · exact ⟨h, hl⟩
theorem rowF_snd {k : Nat} {nx : St → Rd} (hnx : Snd nx) : Snd (rowF k nx) := fun st h => by
  obtain ⟨a, b⟩ := hnx st h
  exact rowL_snd hnx _ _ _ a b
theorem levF_snd {ti : St → Rd} (h : Snd ti) : ∀ n, Snd (levF ti n)
  | 0 => h
  | n + 1 => rowF_snd (levF_snd h n)
theorem one_bd {op n : Int} (h1 : -100000000 ≤ n) (h2 : n ≤ 100000000) : ∀ nd ∈ [(op, n)], Bd nd := fun nd hn => by
  obtain rfl : nd = (op, n) := by simpa using hn
  exact ⟨h1, h2⟩
theorem snoc_bd {l : List (Int × Int)} {op n : Int} (hl : ∀ nd ∈ l, Bd nd) (h1 : -100000000 ≤ n) (h2 : n ≤ 100000000) : ∀ nd ∈ l ++ [(op, n)], Bd nd := fun nd hn => by
  rcases List.mem_append.1 hn with hn | hn
  · exact hl nd hn
  · exact one_bd h1 h2 nd hn
def Lim (N : Nm) : Prop := ∀ op l, nmOf N op = some l → l.length ≤ 1000000
theorem find_le {N : Nm} (hN : Lim N) {op : Int} {l : List ByteArray} (h : nmOf N op = some l) (s : ByteArray) : (findF s 0 l).getD 0 ≤ 1000000 := by
  have h1 := hN op l h
  have h2 := find_lt (s := s) l 0
  omega
theorem nm_bd {N : Nm} (hN : Lim N) (en : Nat) (op : Int) (st : St) : (nmF N en op st).1 ≤ 1000000 := by
  unfold nmF
  dsimp only
  cases h : nmOf N op with
  | none => simp [findF]
  | some l => exact find_le hN h _
theorem nam_snd {N : Nm} (hN : Lim N) (en : Nat) (op : Int) : Snd (namF N en op) := fun st h => by
  refine ⟨((h.sg en _).nm N en op).sg en _, ?_⟩
  have := nm_bd hN en op (sgF en ⟨#[40]⟩ st)
  exact one_bd (by omega) (by omega)
theorem loc_snd {N : Nm} (hN : Lim N) (en : Nat) : Snd (locF N en) := fun st h => by
  have h1 := ((h.sg en ⟨#[40]⟩).nm N en 7).sg en ⟨#[44]⟩
  have h2 := nm_bd hN en 7 (sgF en ⟨#[40]⟩ st)
  have h3 := head_ok h1 en
  unfold locF
  dsimp only
  refine ⟨?_, one_bd (by show _ ≤ _ + (takeF _ _).1.num; omega) (by show _ + (takeF _ _).1.num ≤ _; omega)⟩
  split
  · exact ((h1.num en).fail _ _).sg en _
  · exact (h1.num en).sg en _
theorem word_snd {N : Nm} (hN : Lim N) (en : Nat) {ex : St → Rd} (hx : Snd ex) (t : lx.Tok) : Snd (wordF N en ex t) := fun st h => by
  unfold wordF
  split
  · exact ⟨h, one_bd (by omega) (by omega)⟩
  · split
    · exact nam_snd hN en 6 st h
    · split
      · exact nam_snd hN en 8 st h
      · split
        · exact loc_snd hN en st h
        · split
          · rename_i k hk
            have := find_le hN (op := 4) rfl t.text
            rw [hk] at this
            dsimp only [Option.getD] at this
            exact ⟨h, one_bd (by omega) (by omega)⟩
          · split
            · exact ⟨h.fail _ _, fun nd hn => absurd hn (by simp)⟩
            · rename_i k hk
              have := find_le hN (op := 2) rfl t.text
              rw [hk] at this
              dsimp only [Option.getD] at this
              split
              · obtain ⟨a, b⟩ := hx _ (h.fol ⟨#[91]⟩)
                exact ⟨a.sg en _, snoc_bd b (by omega) (by omega)⟩
              · exact ⟨h.fol _, one_bd (by omega) (by omega)⟩
theorem sin_snd {N : Nm} (hN : Lim N) (en : Nat) {ex : St → Rd} (hx : Snd ex) : Snd (sinF N en ex) := fun st h => by
  have h1 := head_ok h en
  unfold sinF
  dsimp only
  split
  · exact ⟨h.take en, one_bd (by omega) (by omega)⟩
  · split
    · exact word_snd hN en hx _ _ (h.take en)
    · split
      · obtain ⟨a, b⟩ := hx _ (h.take en)
        exact ⟨a.sg en _, b⟩
      · exact ⟨(h.take en).fail _ _, fun nd hn => absurd hn (by simp)⟩
theorem tig_snd {N : Nm} (hN : Lim N) (en : Nat) : ∀ f, Snd (tigF N en f)
  | 0 => fun st h => ⟨h, fun nd hn => absurd hn (by unfold tigF; simp)⟩
  | f + 1 => fun st h => by
    have hs := tig_snd hN en f
    have hx := levF_snd hs 5
    unfold tigF tigB
    split
    · obtain ⟨a, b⟩ := hs _ (h.fol ⟨#[33]⟩)
      exact ⟨a, snoc_bd b (by omega) (by omega)⟩
    · dsimp only
      split
      · split
        · have h1 := head_ok ((h.fol ⟨#[33]⟩).fol ⟨#[45]⟩) en
          exact ⟨((h.fol _).fol _).num en, one_bd (by show _ ≤ -(takeF _ _).1.num; omega) (by show -(takeF _ _).1.num ≤ _; omega)⟩
        · obtain ⟨a, b⟩ := hs _ ((h.fol ⟨#[33]⟩).fol ⟨#[45]⟩)
          exact ⟨a, snoc_bd b (by omega) (by omega)⟩
      · exact sin_snd hN en hx _ ((h.fol _).fol _)
theorem all_bd {N : Nm} (hN : Lim N) (en : Nat) (ts : List lx.Tok) (h : ∀ t ∈ ts, -2000000 ≤ t.num ∧ t.num ≤ 2000000) : ∀ nd ∈ (allF N en ts).1, Bd nd := by
  have h1 := (levF_snd (tig_snd hN en (ts.length + 1)) 5 ⟨ts, 0, 0⟩ h).2
  unfold allF
  dsimp only
  split
  · exact h1
  · exact fun nd hn => absurd hn (by simp)
theorem all_few (N : Nm) (en : Nat) (ts : List lx.Tok) : (allF N en ts).1.length ≤ ts.length := by
  have h1 := levF_few (tig_few N en (ts.length + 1)) 5 ⟨ts, 0, 0⟩
  unfold Few at h1
  unfold allF
  dsimp only at h1 ⊢
  split
  · exact Nat.le_trans (Nat.le_add_right _ _) h1
  · exact Nat.zero_le _
end Go.Proofs.YtmnigdphikoljaaGreatDoor.et
namespace Go.Proofs.YtmnigdphikoljaaGreatDoor.lx
open Go.ChangeShapes Go.WideShapes Go.ChangeAt Go.RowKit Go.Deep

/-- From a place on these tokens come, and nothing is wrong. -/
inductive Tks (nm : List UInt8 → Int × Bool) (s : ByteArray) : Nat → List Tok → Prop
  | done {a : Nat} (h : s.size ≤ a) : Tks nm s a []
  | blank {a : Nat} {L : List Tok} (h : a < s.size) (hb : blankB (bt s a) = true) (hh : Tks nm s (a + 1) L) : Tks nm s a L
  | remark {a : Nat} {L : List Tok} (h : a < s.size) (hb : bt s a = 35) (hh : Tks nm s (lineE s a) L) : Tks nm s a L
  | token {a : Nat} {L : List Tok} {k : Nat} {n : Int} {m : Nat} (h : a < s.size) (hb : blankB (bt s a) = false) (hr : bt s a ≠ 35) (hf : firstP nm (tailS s a) = .ok (k, n, m)) (hh : Tks nm s (a + m) L) : Tks nm s a (⟨k, n, a, s.extract a (a + m)⟩ :: L)
theorem first_wrong {nm : List UInt8 → Int × Bool} {s : ByteArray} {why : Nat} (h : firstP nm s = .error why) : why ≠ 0 := by
  unfold firstP at h
  repeat' split at h
  all_goals first
    | (injection h with h; omega)
    | cases h
theorem Sc.tks {nm : List UInt8 → Int × Bool} {s : ByteArray} {a : Nat} {l : List Tok} {r : Res} (h : Sc nm s a l r) : r.2.2 = 0 → ∃ T, r = (l ++ T, 0, 0) ∧ Tks nm s a T ∧ (l.length ≤ 6000 → l.length + T.length ≤ 6000) := by
  induction h with
  | done h1 => intro _; exact ⟨[], by simp, .done h1, fun h => by simpa using h⟩
  | blank h1 hb _ ih => intro h0; obtain ⟨T, e, t, z⟩ := ih h0; exact ⟨T, e, .blank h1 hb t, z⟩
  | remark h1 hb _ ih => intro h0; obtain ⟨T, e, t, z⟩ := ih h0; exact ⟨T, e, .remark h1 hb t, z⟩
  | many => intro h0; cases h0
  | wrong _ _ _ _ hf => intro h0; exact absurd h0 (first_wrong hf)
  | @token a l k n m r h1 hb hr hl hf hh ih =>
    intro h0
    obtain ⟨T, e, t, z⟩ := ih h0
    refine ⟨⟨k, n, a, s.extract a (a + m)⟩ :: T, ?_, .token h1 hb hr hf t, fun h => ?_⟩
    · rw [e]; simp
    · have h5 : (l ++ [(⟨k, n, a, s.extract a (a + m)⟩ : Tok)]).length = l.length + 1 := by simp
      have h6 := z (by rw [h5]; omega)
      rw [h5] at h6
      rw [List.length_cons]
      omega
theorem Sc.err {nm : List UInt8 → Int × Bool} {s : ByteArray} {a : Nat} {l : List Tok} {r : Res} (h : Sc nm s a l r) : r.2.2 ≠ 0 → r.1 = [] := by
  induction h with
  | done => intro h; exact absurd rfl h
  | blank _ _ _ ih => exact ih
  | remark _ _ _ ih => exact ih
  | many => intro _; rfl
  | wrong => intro _; rfl
  | token _ _ _ _ _ _ ih => exact ih
theorem Tks.sc {nm : List UInt8 → Int × Bool} {s : ByteArray} {a : Nat} {T : List Tok} (h : Tks nm s a T) : ∀ l : List Tok, l.length + T.length ≤ 6000 → Sc nm s a l (l ++ T, 0, 0) := by
  induction h with
  | done h1 => intro l _; rw [List.append_nil]; exact .done h1
  | blank h1 hb _ ih => intro l h; exact .blank h1 hb (ih l h)
  | remark h1 hb _ ih => intro l h; exact .remark h1 hb (ih l h)
  | @token a L k n m h1 hb hr hf hh ih =>
    intro l h
    refine .token h1 hb hr (by simp at h; omega) hf ?_
    have := ih (l ++ [⟨k, n, a, s.extract a (a + m)⟩]) (by simp at h ⊢; omega)
    rw [List.append_assoc] at this
    exact this
theorem wordN_spec (s : ByteArray) : wordN s ≤ s.size ∧ (∀ i, i < wordN s → okB i (bt s i) = true) ∧ (wordN s < s.size → okB (wordN s) (bt s (wordN s)) = false) := by
  obtain ⟨_, h2, h3, h4⟩ := low_spec okB_high' s s.size 0 (by omega) (by omega)
  exact ⟨h2, fun i h => h3 i (Nat.zero_le _) h, h4⟩
theorem digN_spec (s : ByteArray) : digN s ≤ s.size ∧ (∀ i, i < digN s → digB (bt s i) = true) ∧ (digN s < s.size → digB (bt s (digN s)) = false) := by
  obtain ⟨_, h2, h3, h4⟩ := low_spec dgB_high s s.size 0 (by omega) (by omega)
  exact ⟨h2, fun i h => h3 i (Nat.zero_le _) h, h4⟩
theorem wordN_of {s : ByteArray} {e : Nat} (h1 : e ≤ s.size) (h2 : ∀ i, i < e → okB i (bt s i) = true) (h3 : e < s.size → okB e (bt s e) = false) : wordN s = e := by
  obtain ⟨a, b, c⟩ := wordN_spec s
  exact first_one (q := fun i => okB i (bt s i) = true) (n := s.size) (pos := 0) ⟨Nat.zero_le _, a, fun i _ => b i, fun h => by rw [c h]; decide⟩ ⟨Nat.zero_le _, h1, fun i _ => h2 i, fun h => by rw [h3 h]; decide⟩
theorem digN_of {s : ByteArray} {e : Nat} (h1 : e ≤ s.size) (h2 : ∀ i, i < e → digB (bt s i) = true) (h3 : e < s.size → digB (bt s e) = false) : digN s = e := by
  obtain ⟨a, b, c⟩ := digN_spec s
  exact first_one (q := fun i => digB (bt s i) = true) (n := s.size) (pos := 0) ⟨Nat.zero_le _, a, fun i _ => b i, fun h => by rw [c h]; decide⟩ ⟨Nat.zero_le _, h1, fun i _ => h2 i, fun h => by rw [h3 h]; decide⟩
theorem ext_bt {x y : ByteArray} (h : x.size = y.size) (hb : ∀ i, i < x.size → bt x i = bt y i) : x = y := by
  apply ByteArray.ext
  apply Array.ext
  · exact h
  · intro i h1 h2
    have h3 : i < x.size := h1
    have h4 : i < y.size := h2
    have e := hb i h3
    rw [bt_eq h3, bt_eq h4] at e
    exact UInt8.toNat_inj.1 e
theorem bt_extract {s : ByteArray} {a b i : Nat} (h : a + i < b) (hb : b ≤ s.size) : bt (s.extract a b) i = bt s (a + i) := by
  have h1 : i < (s.extract a b).size := by rw [ByteArray.size_extract]; omega
  rw [bt_eq h1, bt_eq (show a + i < s.size by omega)]
  simp [ByteArray.getElem_extract]
theorem okB_32 (i : Nat) : okB i 32 = false := by unfold okB; rw [show letB (32 : Nat) = false by decide, show digB (32 : Nat) = false by decide]; simp
theorem twoB_32 (a : Nat) : twoB a 32 = false := by unfold twoB; simp
/-- Whatever begins with the token's bytes, and has a blank behind them, or nothing, begins with that token. -/
def GoodT (nm : List UInt8 → Int × Bool) (t : Tok) : Prop :=
  0 < t.text.size ∧ ∀ u : ByteArray, t.text.size ≤ u.size → (∀ i, i < t.text.size → bt u i = bt t.text i) → (t.text.size < u.size → bt u t.text.size = 32) → firstP nm u = .ok (t.kind, t.num, t.text.size)
theorem first_le {nm : List UInt8 → Int × Bool} {s : ByteArray} {k m : Nat} {n : Int} (hf : firstP nm s = .ok (k, n, m)) : 0 < m ∧ m ≤ s.size := by
  have h0 : 0 < s.size := by
    rcases Nat.eq_zero_or_pos s.size with h | h
    · exfalso
      have a := (wordN_spec s).1
      have b := (digN_spec s).1
      unfold firstP at hf
      rw [if_neg (by omega), if_neg (by omega), if_neg (by omega), if_neg (by unfold signN; rw [if_neg (by omega), if_neg (by omega)]; omega)] at hf
      cases hf
    · exact h
  have := first_ok (s := s) (a := 0) h0 (by rw [show tailS s 0 = s by unfold tailS; exact ByteArray.extract_zero_size]; exact hf)
  omega
theorem good_first {nm : List UInt8 → Int × Bool} {s : ByteArray} {p k m : Nat} {n : Int} (hf : firstP nm s = .ok (k, n, m)) : GoodT nm ⟨k, n, p, s.extract 0 m⟩ := by
  obtain ⟨hm0, hm1⟩ := first_le hf
  have hz : (s.extract 0 m).size = m := by rw [ByteArray.size_extract]; omega
  refine ⟨by show 0 < (s.extract 0 m).size; omega, fun u hu hb he => ?_⟩
  have hu2 : m ≤ u.size := by rw [← hz]; exact hu
  have hb2 : ∀ i, i < m → bt u i = bt s i := fun i hi => by
    have := hb i (by show i < (s.extract 0 m).size; omega)
    rw [this]
    show bt (s.extract 0 m) i = bt s i
    rw [bt_extract (by omega) hm1, Nat.zero_add]
  have he2 : m < u.size → bt u m = 32 := fun h => by
    have := he (by show (s.extract 0 m).size < _; omega)
    rw [show (⟨k, n, p, s.extract 0 m⟩ : Tok).text.size = m from hz] at this
    exact this
  clear hu hb he
  show firstP nm u = .ok (k, n, (s.extract 0 m).size)
  rw [hz]
  have hxx : u.extract 0 m = s.extract 0 m := ext_bt (by rw [hz, ByteArray.size_extract]; omega) (fun i hi => by
    rw [ByteArray.size_extract] at hi
    rw [bt_extract (by omega) hu2, bt_extract (by omega) hm1, Nat.zero_add]
    exact hb2 i (by omega))
  obtain ⟨w1, w2, w3⟩ := wordN_spec s
  obtain ⟨d1, d2, d3⟩ := digN_spec s
  unfold firstP at hf
  by_cases h16 : 16 < wordN s
  · rw [if_pos h16] at hf; cases hf
  · rw [if_neg h16] at hf
    by_cases h0 : 0 < wordN s
    · rw [if_pos h0] at hf
      injection hf with hf
      injection hf with e1 hf
      injection hf with e2 e3
      subst e1 e2
      have hw : wordN u = m := wordN_of hu2 (fun i hi => by rw [hb2 i hi]; exact w2 i (by omega)) (fun h => by rw [he2 h]; exact okB_32 m)
      unfold firstP
      rw [if_neg (by omega), if_pos (by omega), hw]
    · rw [if_neg h0] at hf
      have hw : wordN u = 0 := wordN_of (Nat.zero_le _) (fun i hi => by omega) (fun h => by
        rw [hb2 0 hm0]
        have h00 : wordN s = 0 := by omega
        rw [h00] at w3
        exact w3 (by omega))
      by_cases hd : 0 < digN s
      · rw [if_pos hd] at hf
        by_cases hn : (nm (s.extract 0 (digN s)).data.toList).2 = true
        · rw [if_pos hn] at hf
          injection hf with hf
          injection hf with e1 hf
          injection hf with e2 e3
          rw [e3] at d2 hn e2
          have hdd : digN u = m := digN_of hu2 (fun i hi => by rw [hb2 i hi]; exact d2 i hi) (fun h => by rw [he2 h]; decide)
          unfold firstP
          rw [if_neg (by omega), if_neg (by omega), if_pos (by omega), hdd, hxx, if_pos hn, e2, e1]
        · rw [if_neg hn] at hf; cases hf
      · rw [if_neg hd] at hf
        have hdd : digN u = 0 := digN_of (Nat.zero_le _) (fun i hi => by omega) (fun h => by
          rw [hb2 0 hm0]
          have h00 : digN s = 0 := by omega
          rw [h00] at d3
          exact d3 (by omega))
        by_cases hs : 0 < signN s
        · rw [if_pos hs] at hf
          injection hf with hf
          injection hf with e1 hf
          injection hf with e2 e3
          have hss : signN u = m := by
            unfold signN at e3 hs ⊢
            by_cases c2 : 1 < s.size ∧ twoB (bt s 0) (bt s 1) = true
            · rw [if_pos c2] at e3
              rw [if_pos ⟨by omega, by rw [hb2 0 (by omega), hb2 1 (by omega)]; exact c2.2⟩, e3]
            · rw [if_neg c2] at e3 hs
              by_cases c1 : 0 < s.size ∧ oneB (bt s 0) = true
              · rw [if_pos c1] at e3
                rw [if_neg (fun c => by
                  have h1 := he2 (by omega)
                  rw [← e3] at h1
                  have h2 := c.2
                  rw [h1, twoB_32] at h2
                  cases h2), if_pos ⟨by omega, by rw [hb2 0 (by omega)]; exact c1.2⟩, e3]
              · rw [if_neg c1] at hs; omega
          unfold firstP
          rw [if_neg (by omega), if_neg (by omega), if_neg (by omega), if_pos (by omega), hss, e1, e2]
        · rw [if_neg hs] at hf; cases hf
theorem extract_tail {s : ByteArray} {a m : Nat} : (tailS s a).extract 0 m = s.extract a (min (a + m) s.size) := by
  unfold tailS
  rw [ByteArray.extract_extract]
  congr 1
theorem extract_tail_in {s : ByteArray} {a m : Nat} (h : a + m ≤ s.size) : (tailS s a).extract 0 m = s.extract a (a + m) := by
  rw [extract_tail, Nat.min_eq_left h]
theorem Tks.good {nm : List UInt8 → Int × Bool} {s : ByteArray} {a : Nat} {T : List Tok} (h : Tks nm s a T) : ∀ t ∈ T, GoodT nm t := by
  induction h with
  | done => intro t h; cases h
  | blank _ _ _ ih => exact ih
  | remark _ _ _ ih => exact ih
  | @token a L k n m h1 hb hr hf hh ih =>
    intro t ht
    rcases List.mem_cons.1 ht with rfl | ht
    · have h2 := (first_ok h1 hf).2.1
      have := good_first (p := a) hf
      rw [extract_tail_in h2] at this
      exact this
    · exact ih t ht
theorem first_not_blank {nm : List UInt8 → Int × Bool} {s : ByteArray} {k m : Nat} {n : Int} (hf : firstP nm s = .ok (k, n, m)) : blankB (bt s 0) = false ∧ bt s 0 ≠ 35 := by
  obtain ⟨hm0, hm1⟩ := first_le hf
  have key : ∀ b : Nat, letB b = false → digB b = false → oneB b = false → (∀ c, twoB b c = false) → bt s 0 ≠ b := by
    intro b q1 q2 q3 q4 e
    have hw : wordN s = 0 := wordN_of (Nat.zero_le _) (fun i hi => by omega) (fun _ => by rw [e, ok_first]; exact q1)
    have hd : digN s = 0 := digN_of (Nat.zero_le _) (fun i hi => by omega) (fun _ => by rw [e]; exact q2)
    have hs : signN s = 0 := by
      unfold signN
      rw [e, q3, if_neg (fun c => by have := c.2; rw [q4] at this; cases this), if_neg (fun c => by cases c.2)]
    unfold firstP at hf
    rw [if_neg (by omega), if_neg (by omega), if_neg (by omega), if_neg (by omega)] at hf
    cases hf
  have k1 := key 32 (by decide) (by decide) (by decide) (fun c => by unfold twoB; simp)
  have k2 := key 10 (by decide) (by decide) (by decide) (fun c => by unfold twoB; simp)
  have k3 := key 35 (by decide) (by decide) (by decide) (fun c => by unfold twoB; simp)
  refine ⟨?_, k3⟩
  unfold blankB
  simp [k1, k2]
/-- The same tokens, but for their places. -/
inductive SameT : List Tok → List Tok → Prop
  | nil : SameT [] []
  | cons {x y : Tok} {l r : List Tok} (h1 : x.kind = y.kind) (h2 : x.num = y.num) (h3 : x.text = y.text) (h : SameT l r) : SameT (x :: l) (y :: r)
theorem SameT.len {l r : List Tok} (h : SameT l r) : l.length = r.length := by
  induction h with
  | nil => rfl
  | cons _ _ _ _ ih => simp [ih]
/-- The tokens' texts, a blank between each two. -/
def textL (T : List Tok) : List UInt8 := Lib.join (T.map fun t => t.text.data.toList) [32]
theorem textL_nil : textL [] = [] := rfl
theorem textL_one (t : Tok) : textL [t] = t.text.data.toList := Lib.join_one _ _
theorem textL_cons (t x : Tok) (r : List Tok) : textL (t :: x :: r) = t.text.data.toList ++ 32 :: textL (x :: r) := by
  unfold textL
  rw [List.map_cons, List.map_cons, Lib.join_cons, Lib.join_cons]
  simp [Lib.joinTail]
theorem tail_tail {u : ByteArray} {a m : Nat} (h : a + m ≤ u.size) : tailS (tailS u a) m = tailS u (a + m) := by
  unfold tailS
  rw [ByteArray.extract_extract]
  congr 1
  rw [ByteArray.size_extract]; omega
theorem tail_app (x y : List UInt8) : tailS ⟨(x ++ y).toArray⟩ x.length = ⟨y.toArray⟩ := by
  unfold tailS
  apply ByteArray.ext
  rw [ByteArray.data_extract]
  show ((x ++ y).toArray).extract x.length (x ++ y).toArray.size = y.toArray
  simp
theorem size_list (x : List UInt8) : (⟨x.toArray⟩ : ByteArray).size = x.length := by show x.toArray.size = _; simp
theorem bt_app_left {x y : List UInt8} {i : Nat} (h : i < x.length) : bt ⟨(x ++ y).toArray⟩ i = bt ⟨x.toArray⟩ i := by
  rw [bt_eq (by rw [size_list, List.length_append]; omega), bt_eq (by rw [size_list]; exact h)]
  show ((x ++ y).toArray[i]'_).toNat = (x.toArray[i]'_).toNat
  simp [List.getElem_append_left h]
theorem bt_app_right {x y : List UInt8} (h : 0 < y.length) : bt ⟨(x ++ y).toArray⟩ x.length = bt ⟨y.toArray⟩ 0 := by
  rw [bt_eq (by rw [size_list, List.length_append]; omega), bt_eq (by rw [size_list]; exact h)]
  show ((x ++ y).toArray[x.length]'_).toNat = (y.toArray[0]'_).toNat
  simp
theorem mk_list (t : ByteArray) : (⟨t.data.toList.toArray⟩ : ByteArray) = t := by apply ByteArray.ext; simp
theorem size_toList (t : ByteArray) : t.data.toList.length = t.size := by rw [Array.length_toList]; rfl
theorem join_tks {nm : List UInt8 → Int × Bool} {u : ByteArray} : ∀ (T : List Tok), (∀ t ∈ T, GoodT nm t) → ∀ a, a ≤ u.size → tailS u a = ⟨(textL T).toArray⟩ → ∃ T', Tks nm u a T' ∧ SameT T T'
  | [], _, a, ha, h => by
    refine ⟨[], .done ?_, .nil⟩
    have := congrArg ByteArray.size h
    rw [tail_size, size_list (textL []), textL_nil] at this
    simp at this; omega
  | [t], hg, a, ha, h => by
    obtain ⟨g0, g1⟩ := hg t (by simp)
    rw [textL_one, mk_list] at h
    have hz := congrArg ByteArray.size h
    rw [tail_size] at hz
    have hf := g1 t.text (Nat.le_refl _) (fun i _ => rfl) (fun h => by omega)
    rw [← h] at hf
    obtain ⟨n1, n2⟩ := first_not_blank hf
    rw [tail_bt (by omega), Nat.add_zero] at n1 n2
    refine ⟨_, .token (by omega) n1 n2 hf (.done (by rw [h]; omega)), .cons rfl rfl ?_ .nil⟩
    show t.text = u.extract a (a + (tailS u a).size)
    rw [tail_size, show a + (u.size - a) = u.size by omega]
    exact h.symm
  | t :: x :: r, hg, a, ha, h => by
    obtain ⟨g0, g1⟩ := hg t (by simp)
    rw [textL_cons] at h
    have hz := congrArg ByteArray.size h
    rw [tail_size, size_list (t.text.data.toList ++ 32 :: textL (x :: r)), List.length_append, size_toList, List.length_cons] at hz
    have b1 : ∀ i, i < t.text.size → bt (tailS u a) i = bt t.text i := fun i hi => by
      rw [h, bt_app_left (by rw [size_toList]; exact hi), mk_list]
    have b2 : bt (tailS u a) t.text.size = 32 := by
      rw [h, ← size_toList, bt_app_right (by simp)]
      rfl
    have hf := g1 (tailS u a) (by rw [tail_size]; omega) b1 (fun _ => b2)
    obtain ⟨n1, n2⟩ := first_not_blank hf
    rw [tail_bt (by omega), Nat.add_zero] at n1 n2
    rw [tail_bt (by omega)] at b2
    have ht : tailS u (a + t.text.size) = ⟨(32 :: textL (x :: r)).toArray⟩ := by
      rw [← tail_tail (by omega), h, ← size_toList, tail_app]
    have ht2 : tailS u (a + t.text.size + 1) = ⟨(textL (x :: r)).toArray⟩ := by
      rw [← tail_tail (by omega), ht]
      exact tail_app [32] (textL (x :: r))
    obtain ⟨T', k1, k2⟩ := join_tks (x :: r) (fun y hy => hg y (by simp at hy ⊢; right; exact hy)) (a + t.text.size + 1) (by omega) ht2
    refine ⟨_, .token (by omega) n1 n2 hf (.blank (by omega) (by rw [b2]; decide) k1), .cons rfl rfl ?_ k2⟩
    show t.text = u.extract a (a + t.text.size)
    rw [← extract_tail_in (by omega)]
    refine ext_bt (by rw [ByteArray.size_extract, tail_size]; omega) (fun i hi => ?_)
    rw [bt_extract (by omega) (by rw [tail_size]; omega), Nat.zero_add, b1 i hi]
/-- Blanks, line's ends and remarks alone lead from one place to another one. -/
inductive Gap (s : ByteArray) : Nat → Nat → Prop
  | here (a : Nat) : Gap s a a
  | blank {a b : Nat} (h : a < s.size) (hb : blankB (bt s a) = true) (hh : Gap s (a + 1) b) : Gap s a b
  | remark {a b : Nat} (h : a < s.size) (hb : bt s a = 35) (hh : Gap s (lineE s a) b) : Gap s a b
theorem lineE_spec {s : ByteArray} {a : Nat} (h : a < s.size) : a ≤ lineE s a ∧ lineE s a ≤ s.size ∧ (∀ i, a ≤ i → i < lineE s a → bt s i ≠ 10) ∧ (lineE s a < s.size → bt s (lineE s a) = 10) := by
  obtain ⟨g1, g2, g3, g4⟩ := runE_spec (fun b => !decide (b = 10)) s s.size a (by omega) (by omega)
  unfold lineE
  refine ⟨g1, g2, fun i e1 e2 => ?_, fun e => ?_⟩
  · have := g3 i e1 e2; simpa using this
  · have := g4 e; simpa using this
theorem lineE_of {s : ByteArray} {a e : Nat} (h : a < s.size) (h1 : a ≤ e) (h2 : e ≤ s.size) (h3 : ∀ i, a ≤ i → i < e → bt s i ≠ 10) (h4 : e < s.size → bt s e = 10) : lineE s a = e := by
  obtain ⟨g1, g2, g3, g4⟩ := lineE_spec h
  exact first_one (q := fun i => bt s i ≠ 10) (n := s.size) (pos := a) ⟨g1, g2, g3, fun h => by simpa using g4 h⟩ ⟨h1, h2, h3, fun h => by simpa using h4 h⟩
theorem lineE_gt {s : ByteArray} {a : Nat} (h : a < s.size) (hb : bt s a = 35) : a < lineE s a := by
  obtain ⟨g1, g2, g3, g4⟩ := lineE_spec h
  rcases Nat.lt_or_ge a (lineE s a) with h5 | h5
  · exact h5
  · have e : lineE s a = a := by omega
    rw [e] at g4
    have := g4 h
    omega
theorem Gap.le {s : ByteArray} {a b : Nat} (h : Gap s a b) : a ≤ b := by
  induction h with
  | here => exact Nat.le_refl _
  | blank _ _ _ ih => omega
  | remark h hb _ ih => have := lineE_gt h hb; omega
theorem Gap.sc {nm : List UInt8 → Int × Bool} {s : ByteArray} {a b e : Nat} {l : List Tok} (h : Gap s a b) : b ≤ s.size → e ≤ a → Sc nm (s.extract e b) (a - e) l (l, 0, 0) := by
  induction h with
  | here a => intro hb he; exact .done (by rw [ByteArray.size_extract]; omega)
  | @blank a b h1 hbl hh ih =>
    intro hb he
    have hle := hh.le
    refine .blank (by rw [ByteArray.size_extract]; omega) (by rw [bt_extract (by omega) hb, show e + (a - e) = a by omega]; exact hbl) ?_
    rw [show a - e + 1 = a + 1 - e by omega]
    exact ih hb (by omega)
  | @remark a b h1 hbl hh ih =>
    intro hb he
    have hle := hh.le
    have hgt := lineE_gt h1 hbl
    obtain ⟨g1, g2, g3, g4⟩ := lineE_spec h1
    have hz : (s.extract e b).size = b - e := by rw [ByteArray.size_extract]; omega
    refine .remark (by omega) (by rw [bt_extract (by omega) hb, show e + (a - e) = a by omega]; exact hbl) ?_
    rw [lineE_of (e := lineE s a - e) (by omega) (by omega) (by omega) (fun i i1 i2 => by
      rw [bt_extract (by omega) hb]; exact g3 (e + i) (by omega) (by omega)) (fun h => by
      rw [bt_extract (by omega) hb, show e + (lineE s a - e) = lineE s a by omega]; exact g4 (by omega))]
    exact ih hb (by omega)
theorem Tks.head {nm : List UInt8 → Int × Bool} {s : ByteArray} {a : Nat} {T : List Tok} (h : Tks nm s a T) : ∀ t L, T = t :: L → ∃ m, Gap s a t.pos ∧ t.pos < s.size ∧ firstP nm (tailS s t.pos) = .ok (t.kind, t.num, m) ∧ t.text = s.extract t.pos (t.pos + m) ∧ Tks nm s (t.pos + m) L := by
  induction h with
  | done => intro t L e; cases e
  | blank h1 hb _ ih => intro t L e; obtain ⟨m, g, r⟩ := ih t L e; exact ⟨m, .blank h1 hb g, r⟩
  | remark h1 hb _ ih => intro t L e; obtain ⟨m, g, r⟩ := ih t L e; exact ⟨m, .remark h1 hb g, r⟩
  | @token a L0 k n m h1 hb hr hf hh ih =>
    intro t L e
    injection e with e1 e2
    subst e1 e2
    exact ⟨m, .here _, h1, hf, rfl, hh⟩
theorem Tks.nil_gap {nm : List UInt8 → Int × Bool} {s : ByteArray} {a : Nat} {T : List Tok} (h : Tks nm s a T) : T = [] → a ≤ s.size → Gap s a s.size := by
  induction h with
  | @done a h => intro _ h2; rw [show a = s.size by omega]; exact .here _
  | blank h1 hb _ ih => intro e _; exact .blank h1 hb (ih e (by omega))
  | remark h1 hb _ ih => intro e _; exact .remark h1 hb (ih e (lineE_spec h1).2.1)
  | token => intro e; cases e
end Go.Proofs.YtmnigdphikoljaaGreatDoor.lx
namespace Go.Proofs.YtmnigdphikoljaaGreatDoor
open Go.Lib

/-- What digits make, behind a number. -/
def dv (a : Nat) (l : List UInt8) : Nat := l.foldl (fun a c => a * 10 + (c.toNat - 48)) a
def DG (l : List UInt8) : Prop := ∀ c ∈ l, 48 ≤ c.toNat ∧ c.toNat ≤ 57
theorem dv_snoc (a : Nat) (l : List UInt8) (c : UInt8) : dv a (l ++ [c]) = dv a l * 10 + (c.toNat - 48) := by simp [dv]
theorem dig_nat {d : Nat} (h : d < 10) : (UInt8.ofNat (48 + d)).toNat = 48 + d := by
  rw [UInt8.toNat_ofNat']; omega
theorem decDigits_big {u : Nat} (h : ¬ u < 10) : decDigits u = decDigits (u / 10) ++ [UInt8.ofNat (48 + u % 10)] := by rw [decDigits, dif_neg h]
theorem decDigits_dg (u : Nat) : DG (decDigits u) := by
  induction u using Nat.strongRecOn with
  | ind u ih =>
    by_cases h : u < 10
    · rw [decDigits_one h]
      intro c hc
      simp only [List.mem_cons, List.not_mem_nil, or_false] at hc
      subst hc
      rw [dig_nat h]; omega
    · rw [decDigits_big h]
      intro c hc
      rcases List.mem_append.1 hc with hc | hc
      · exact ih (u / 10) (by omega) c hc
      · simp only [List.mem_cons, List.not_mem_nil, or_false] at hc
        subst hc
        rw [dig_nat (by omega)]; omega
theorem dv_dec (u : Nat) : dv 0 (decDigits u) = u := by
  induction u using Nat.strongRecOn with
  | ind u ih =>
    by_cases h : u < 10
    · rw [decDigits_one h]
      show 0 * 10 + ((UInt8.ofNat (48 + u)).toNat - 48) = u
      rw [dig_nat h]; omega
    · rw [decDigits_big h, dv_snoc, ih (u / 10) (by omega), dig_nat (by omega)]
      omega
theorem decDigits_ne (u : Nat) : decDigits u ≠ [] := by
  rw [decDigits]
  split <;> simp
theorem dv_mono (l : List UInt8) : ∀ a, a ≤ dv a l := by
  induction l with
  | nil => intro a; exact Nat.le_refl _
  | cons c r ih => intro a; exact Nat.le_trans (by omega) (ih (a * 10 + (c.toNat - 48)))
theorem parse_dv : ∀ (l : List UInt8) (a : Nat), DG l → dv a l < 18446744073709551616 → parseUint10 a l = .ok (dv a l)
  | [], _, _, _ => rfl
  | c :: r, a, hd, hlt => by
    have hc := hd c (by simp)
    have hlt2 : dv (a * 10 + (c.toNat - 48)) r < 18446744073709551616 := hlt
    have hm := dv_mono r (a * 10 + (c.toNat - 48))
    rw [parseUint10, if_pos hc, if_neg (by omega), if_neg (by omega)]
    exact parse_dv r _ (fun x hx => hd x (by simp [hx])) hlt2
theorem parseMag_dec {u : Nat} (h : u < 18446744073709551616) : parseMag (decDigits u) = .ok u := by
  unfold parseMag
  rw [if_neg (decDigits_ne u), parse_dv _ _ (decDigits_dg u) (by rw [dv_dec]; exact h), dv_dec]
theorem atoi_itoa {n : Int} (h0 : -9223372036854775808 ≤ n) (h1 : n ≤ 9223372036854775807) : atoiAll (itoa n) = .ok n := by
  by_cases hn : n < 0
  · unfold itoa
    rw [if_pos hn, atoiAll_minus, parseMag_dec (by omega)]
    show (if 9223372036854775808 < n.natAbs then _ else _) = _
    rw [if_neg (by omega)]
    congr 1; omega
  · unfold itoa
    rw [if_neg hn]
    have hp := parseMag_dec (u := n.toNat) (by omega)
    have hd := decDigits_dg n.toNat
    cases hc : decDigits n.toNat with
    | nil => exact absurd hc (decDigits_ne _)
    | cons c r =>
      rw [hc] at hp hd
      have := hd c (by simp)
      rw [atoiAll_plain c r (by omega) (by omega), hp]
      show (if 9223372036854775808 ≤ n.toNat then _ else _) = _
      rw [if_neg (by omega)]
      congr 1; omega
theorem itoa_inj {m n : Int} (hm0 : -9223372036854775808 ≤ m) (hm1 : m ≤ 9223372036854775807) (hn0 : -9223372036854775808 ≤ n) (hn1 : n ≤ 9223372036854775807) (h : itoa m = itoa n) : m = n := by
  have h1 := atoi_itoa hm0 hm1
  rw [h, atoi_itoa hn0 hn1] at h1
  injection h1 with h1
  exact h1.symm
/-- The document's count of digits, and the number of the first eight of them. -/
def docStep (p : Nat × Nat) (c : UInt8) : Nat × Nat := if 48 ≤ c.toNat ∧ c.toNat ≤ 57 ∧ p.2 < 8 then (p.1 * 10 + (c.toNat - 48), p.2 + 1) else p
def docFold (l : List UInt8) : Nat × Nat := l.foldl docStep (0, 0)
theorem docFold_snoc (l : List UInt8) (c : UInt8) : docFold (l ++ [c]) = docStep (docFold l) c := by simp [docFold]
theorem docFold_dv (l : List UInt8) : ∀ a d, DG l → d + l.length ≤ 8 → l.foldl docStep (a, d) = (dv a l, d + l.length) := by
  induction l with
  | nil => intro a d _ _; rfl
  | cons c r ih =>
    intro a d hd hl
    have hc := hd c (by simp)
    have e : docStep (a, d) c = (a * 10 + (c.toNat - 48), d + 1) := if_pos ⟨hc.1, hc.2, by simp at hl; show d < 8; omega⟩
    rw [List.foldl_cons, e, ih _ _ (fun x hx => hd x (by simp [hx])) (by simp at hl; omega)]
    simp [dv]; omega
def minusB (l : List UInt8) : Bool := l.head?.map (·.toNat) == some 45
/-- The number that the document reads. -/
def docNum (l : List UInt8) : Int := if minusB l = true then -((docFold l).1 : Int) else (docFold l).1
theorem docStep_le {p : Nat × Nat} (h : p.1 < 10 ^ p.2 ∧ p.2 ≤ 8) (c : UInt8) : (docStep p c).1 < 10 ^ (docStep p c).2 ∧ (docStep p c).2 ≤ 8 := by
  unfold docStep
  split
  · rename_i h2
    refine ⟨?_, by show _ + 1 ≤ 8; omega⟩
    show p.1 * 10 + (c.toNat - 48) < 10 ^ (p.2 + 1)
    rw [Nat.pow_succ]; omega
  · exact h
theorem foldl_le : ∀ (l : List UInt8) (p : Nat × Nat), p.1 < 10 ^ p.2 ∧ p.2 ≤ 8 → (l.foldl docStep p).1 < 10 ^ (l.foldl docStep p).2 ∧ (l.foldl docStep p).2 ≤ 8
  | [], _, h => h
  | c :: r, p, h => foldl_le r _ (docStep_le h c)
theorem docFold_le (l : List UInt8) : (docFold l).1 < 10 ^ (docFold l).2 ∧ (docFold l).2 ≤ 8 := foldl_le l (0, 0) ⟨by decide, by decide⟩
theorem nDigits_le {u k : Nat} (h : u < 10 ^ (k + 1)) : nDigits u ≤ k + 1 := by
  induction k generalizing u with
  | zero => rw [nDigits_small (by simpa using h)]; exact Nat.le_refl _
  | succ k ih =>
    by_cases h2 : u < 10
    · rw [nDigits_small h2]; omega
    · rw [nDigits_big h2]
      have : u / 10 < 10 ^ (k + 1) := by rw [Nat.pow_succ] at h; omega
      have := ih this
      omega
theorem doc_itoa {n : Int} (h0 : -1048576 ≤ n) (h1 : n ≤ 1048576) : docNum (itoa n) = n ∧ (docFold (itoa n)).2 ≤ 7 := by
  by_cases hn : n < 0
  · have hl : (decDigits n.natAbs).length ≤ 7 := by rw [decDigits_length]; exact nDigits_le (k := 6) (by omega)
    have hf : docFold (itoa n) = (n.natAbs, (decDigits n.natAbs).length) := by
      unfold itoa docFold
      rw [if_pos hn, List.foldl_cons, show docStep (0, 0) 45 = (0, 0) from rfl, docFold_dv _ _ _ (decDigits_dg _) (by omega), dv_dec]
      simp
    refine ⟨?_, by rw [hf]; exact hl⟩
    unfold docNum
    rw [hf, if_pos (by unfold minusB itoa; rw [if_pos hn]; rfl)]
    show -((n.natAbs : Nat) : Int) = n
    omega
  · have hl : (decDigits n.toNat).length ≤ 7 := by rw [decDigits_length]; exact nDigits_le (k := 6) (by omega)
    have hf : docFold (itoa n) = (n.toNat, (decDigits n.toNat).length) := by
      unfold itoa docFold
      rw [if_neg hn, docFold_dv _ _ _ (decDigits_dg _) (by omega), dv_dec]
      simp
    refine ⟨?_, by rw [hf]; exact hl⟩
    have hmf : minusB (itoa n) = false := by
      unfold minusB itoa
      rw [if_neg hn]
      cases hc : decDigits n.toNat with
      | nil => rfl
      | cons c r =>
        have := decDigits_dg n.toNat c (by rw [hc]; simp)
        simp; omega
    unfold docNum
    rw [hf, hmf, if_neg (by decide)]
    show ((n.toNat : Nat) : Int) = n
    omega
end Go.Proofs.YtmnigdphikoljaaGreatDoor
