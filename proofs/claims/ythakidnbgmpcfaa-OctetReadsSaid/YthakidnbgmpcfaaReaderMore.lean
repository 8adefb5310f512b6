/- octet's reader: how many, a list, a text. -/
import Derived.Test.YthakidnbgmpcfaaReaderNum
import Derived.Laws.BytesArg
namespace Go.Proofs.Ythakidnbgmpcfaa
open Go.ChangeShapes Go.WideShapes Go.ChangeAt Go.RowKit

theorem readN_le (l : List Int) : (readN l).k ≤ l.length := by
  have hc := contN_le 10 l
  unfold readN
  split
  · exact Nat.zero_le _
  · rename_i h1
    split
    · exact Nat.zero_le _
    · show contN 10 l + 1 ≤ l.length
      omega

/-- What octet's count leaves. -/
def CCnt (g : Nat) (A : Option Addr) (c : Nat) (l : List Int) (p : Nat) (e : Int) (G : Got Nat) (W : World) (en : Ending) (w' : World) : Prop :=
  ∃ q, en = .returned (.tuple #[.int .i64 (G.v : Int), .int .i64 G.f]) ∧ RD w' g A c l q e ∧ (G.f = 0 → q = p + G.k) ∧ Only g W w'

theorem count_any {g : Nat} {A : Option Addr} {c : Nat} {l : List Int} {p : Nat} {e : Int} (w : World) (h : RD w g A c l p e) :
    Calls Try.prog 33 #[.pointer (some ⟨g, 0, none⟩)] w (CCnt g A c l p e (readC (l.drop p)) w) := by
  have H := Lib.hid h
  have hf := readN_fault (l.drop p)
  have hk := readN_le (l.drop p)
  have hN := fun W (h : RD W g A c l p e) => cnumber_any W h
  unfold CNum at hN
  have hp := h.place
  have hl := h.len
  have hdl : (l.drop p).length = l.length - p := by simp
  unfold readC
  rw [hdl] at hk ⊢
  generalize readN (l.drop p) = G at hf hN hk
  obtain ⟨f, v, k⟩ := G
  have HN := Lib.hid hN
  clear h hN hdl
  by_cases h0 : f = 0
  · subst h0
    rw [if_neg (by simp)]
    by_cases h1 : v < 0
    · rw [if_pos h1]
      clear hf
      go_enter Try.func33, Try.ntmps33
      go_wp2_with fail
      refine (HN.out w H.out).mono ?_
      rintro en w1 ⟨rfl, hr1, ho1⟩
      go_wp2_with fail
      go_ret2
      exact ⟨_, rfl, hr1, fun h => absurd h (by decide), ho1⟩
    · rw [if_neg h1]
      by_cases h2 : ((l.length - p : Nat) : Int) - k < v
      · rw [if_pos h2]
        have h3 : (l.length : Int) - ((p + k : Nat) : Int) < v := by omega
        have h3' : decide ((l.length : Int) - ((p : Int) + (k : Int)) < v) = true := decide_eq_true (by omega)
        clear hf h2
        go_enter Try.func33, Try.ntmps33
        go_wp2_with fail
        refine (HN.out w H.out).mono ?_
        rintro en w1 ⟨rfl, hr1, ho1⟩
        have HR1 := Lib.hid hr1
        have HO1 := Lib.hid ho1
        clear hr1 ho1
        go_wp2_with fail
        refine (left_any w1 HR1.out).mono ?_
        rintro en w2 ⟨rfl, j, rfl⟩
        go_wp2_with fail
        go_ret2
        exact ⟨_, rfl, HR1.out.drewN j, fun h => absurd h (by decide), HO1.out.drewN j⟩
      · rw [if_neg h2]
        have h3 : ¬ ((l.length : Int) - ((p + k : Nat) : Int) < v) := by omega
        have h3' : decide ((l.length : Int) - ((p : Int) + (k : Int)) < v) = false := decide_eq_false (by omega)
        have hv : Hid (v = ((v.toNat : Nat) : Int)) := Lib.hid (by omega)
        clear hf h2
        go_enter Try.func33, Try.ntmps33
        go_wp2_with fail
        refine (HN.out w H.out).mono ?_
        rintro en w1 ⟨rfl, hr1, ho1⟩
        have HR1 := Lib.hid hr1
        have HO1 := Lib.hid ho1
        clear hr1 ho1
        go_wp2_with fail
        refine (left_any w1 HR1.out).mono ?_
        rintro en w2 ⟨rfl, j, rfl⟩
        go_wp2_with fail
        go_ret2
        refine ⟨_, ?_, HR1.out.drewN j, fun _ => rfl, HO1.out.drewN j⟩
        show Ending.returned (.tuple #[.int .i64 v, .int .i64 0]) = .returned (.tuple #[.int .i64 ((v.toNat : Nat) : Int), .int .i64 0])
        rw [← hv.out]
  · obtain ⟨e1, e2⟩ := hf h0
    have e1' : v = 0 := e1
    have e2' : k = 0 := e2
    subst e1' e2'
    rw [if_pos h0]
    have t : (f != 0) = true := by simpa using h0
    have H0 := Lib.hid h0
    clear e1 e2 h0 hf
    go_enter Try.func33, Try.ntmps33
    go_wp2_with fail
    refine (HN.out w H.out).mono ?_
    rintro en w1 ⟨rfl, hr1, ho1⟩
    go_wp2_with fail
    go_ret2
    exact ⟨_, rfl, hr1, fun h => absurd h H0.out, ho1⟩

theorem readMany_fault (n : Nat) (l : List Int) : (readMany n l).f ≠ 0 → (readMany n l).v = [] ∧ (readMany n l).k = 0 := by
  cases n with
  | zero => intro h; exact absurd rfl h
  | succ n =>
    rw [readMany]
    split
    · intro _; exact ⟨rfl, rfl⟩
    · split
      · intro _; exact ⟨rfl, rfl⟩
      · intro h; exact absurd rfl h
theorem readMany_le : ∀ (n : Nat) (l : List Int), (readMany n l).k ≤ l.length
  | 0, _ => Nat.zero_le _
  | n + 1, l => by
    rw [readMany]
    split
    · exact Nat.zero_le _
    · split
      · exact Nat.zero_le _
      · have h1 := readN_le l
        have h2 := readMany_le n (l.drop (readN l).k)
        simp only [List.length_drop] at h2
        show (readN l).k + (readMany n (l.drop (readN l).k)).k ≤ l.length
        omega

/-- What reading a list leaves. -/
def LPost (g : Nat) (A : Option Addr) (c : Nat) (l : List Int) (p : Nat) (e : Int) (M : Got (List Int)) (W : World) (en : Ending) (w' : World) : Prop :=
  ∃ A2 c2 q, en = .returned (.tuple #[.slice A2 M.v.length c2, .int .i64 M.f]) ∧ IA w' A2 M.v ∧ RD w' g A c l q e ∧ (M.f = 0 → q = p + M.k) ∧ Only g W w' ∧ (∀ ad, A2 = some ad → ad.block ≠ g)

/-- The slice v is a row of ints of the call's own, from block base on. -/
def OI (base : Nat) (w : World) (v : Value) (l : List Int) : Prop := w.ownsRow base 3 1 v l.length (l.map (Value.int .i64))
theorem OI.form {base : Nat} {w : World} {v : Value} {l : List Int} (h : OI base w v l) : ∃ A c, v = .slice A l.length c ∧ IA w A l := by
  rcases h.2 with ⟨rfl, h0⟩ | ⟨g, cap, cur, rfl, _⟩
  · exact ⟨none, 0, by rw [h0], fun hn => by omega⟩
  · refine ⟨_, cap, rfl, fun hn => ?_⟩
    obtain ⟨g', cap', e, _, hlt⟩ := World.ownsRow.form h hn
    injection e with e1 e2 e3
    injection e1 with e1
    injection e1 with e1
    subst e1
    refine ⟨g, 0, rfl, hlt, fun i hi => ?_⟩
    have := World.ownsRow.cellAt h i (by omega)
    rw [Nat.zero_add, this]
    simp [List.getD, hi]
theorem oi_snoc {base : Nat} {w : World} {v : Value} {l : List Int} {x : Int} (h : w.ownsRow base 3 1 v (l.length + 1) (l.map (Value.int .i64) ++ [.int .i64 x])) : OI base w v (l ++ [x]) := by
  unfold OI
  rw [List.length_append, List.map_append]
  exact h

/-- A reader whose blocks lie below B stays, where nothing below B has turned. -/
theorem RD.keepB {w w' : World} {g B : Nat} {A : Option Addr} {c : Nat} {l : List Int} {p : Nat} {e : Int} (h : RD w g A c l p e) (hg : g < B) (hA : 0 < l.length → ∀ ad, A = some ad → ad.block < B) (hb : Below B w w') : RD w' g A c l p e := by
  refine ⟨h.row.of_block (hb.block g hg), fun hn => ?_, h.place, h.u8, h.len, h.ne, h.cap⟩
  obtain ⟨b, off, e1, hlt, hc⟩ := h.bytes hn
  have hbB : b < B := hA hn _ e1
  exact ⟨b, off, e1, Nat.lt_of_lt_of_le hlt hb.size, fun i hi => (hb.cell (p := ⟨b, off + i, none⟩) hbB).trans (hc i hi)⟩
/-- A block of the call's own stays over what a reader's call leaves. -/
theorem OI.only {base g : Nat} {w w' : World} {v : Value} {l : List Int} (h : OI base w v l) (hg : g < base) (ho : Only g w w') : OI base w' v l :=
  World.ownsRow.kept h ho (by
    cases hv : v.ownBlock with
    | none => exact .inl rfl
    | some b => exact .inr (by intro e; injection e with e; have := (World.ownsRow.lt h b hv).1; omega))

theorem Try.info3' : (Try.prog.info? 3).map (fun i => (i.zero, i.size, i.bytes)) = some (some (.int .i64 0), 1, 8) := by kernel_rfl

/-- The rounds that are left. -/
def RestIs (n p k q : Nat) (xs : List Int) (l : List Int) : Prop :=
  q ≤ l.length ∧ p ≤ q ∧ ((readMany (n - k) (l.drop q)).f ≠ 0 → readMany n (l.drop p) = ⟨(readMany (n - k) (l.drop q)).f, [], 0⟩) ∧
  ((readMany (n - k) (l.drop q)).f = 0 → readMany n (l.drop p) = ⟨0, xs ++ (readMany (n - k) (l.drop q)).v, (q - p) + (readMany (n - k) (l.drop q)).k⟩)
theorem rest_step {n p k q : Nat} {xs l : List Int} (h : RestIs n p k q xs l) (hk : k < n) :
    ((readN (l.drop q)).f ≠ 0 → readMany n (l.drop p) = ⟨(readN (l.drop q)).f, [], 0⟩) ∧
    ((readN (l.drop q)).f = 0 → RestIs n p (k + 1) (q + (readN (l.drop q)).k) (xs ++ [(readN (l.drop q)).v]) l) := by
  obtain ⟨h1, h2, h3, h4⟩ := h
  obtain ⟨m, hm⟩ : ∃ m, n - k = m + 1 := ⟨n - k - 1, by omega⟩
  have hm2 : n - (k + 1) = m := by omega
  rw [hm] at h3 h4
  have hle := readN_le (l.drop q)
  simp only [List.length_drop] at hle
  rw [readMany] at h3 h4
  refine ⟨fun hf => ?_, fun hf => ⟨by omega, by omega, ?_, ?_⟩⟩
  · rw [if_pos hf] at h3
    exact h3 hf
  · rw [hm2, ← List.drop_drop]
    intro hg
    rw [if_neg (by simpa using hf), if_pos hg] at h3
    exact h3 hg
  · rw [hm2, ← List.drop_drop]
    intro hg
    rw [if_neg (by simpa using hf), if_neg (by simpa using hg)] at h4
    rw [h4 rfl]
    congr 1
    · simp
    · show q - p + ((readN (l.drop q)).k + _) = q + (readN (l.drop q)).k - p + _
      omega

set_option maxRecDepth 20000 in
set_option maxHeartbeats 2000000 in
theorem gather_any {g : Nat} {A : Option Addr} {c : Nat} {l : List Int} {p : Nat} {e : Int} (n : Nat) (hn : n ≤ l.length) (w : World) (h : RD w g A c l p e) :
    Calls Try.prog 34 #[.int .i64 (n : Int), .func (.func 24) #[.pointer (some ⟨g, 0, none⟩)] #[]] w (LPost g A c l p e (readMany n (l.drop p)) w) := by
  obtain ⟨i0, hi, hz0, hz1, hz2⟩ := info_parts Try.info3'
  have H := Lib.hid h
  have hlen := h.len
  have hg : g < w.heap.size := h.row.lt
  have HA : Hid (0 < l.length → ∀ ad, A = some ad → ad.block < w.heap.size) := Lib.hid (fun hn ad ha => by
    obtain ⟨b, off, e1, hlt, _⟩ := h.bytes hn
    rw [ha] at e1
    injection e1 with e1
    subst e1
    exact hlt)
  have hR0 : Hid (RestIs n p 0 p [] l) := Lib.hid ⟨h.place, Nat.le_refl _, fun hf => by
      have := readMany_fault n (l.drop p) hf
      show readMany n (l.drop p) = _
      cases hM : readMany n (l.drop p) with
      | mk f v k =>
        rw [hM] at this
        obtain ⟨t1, t2⟩ := this
        have t1' : v = [] := t1
        have t2' : k = 0 := t2
        subst t1' t2'
        rfl, fun hf => by
      rw [Nat.sub_zero] at hf ⊢
      cases hM : readMany n (l.drop p) with
      | mk f v k =>
        rw [hM] at hf
        have hf' : f = 0 := hf
        subst hf'
        simp⟩
  clear h
  go_enter Try.func34, Try.ntmps34
  go_wp2_with (refine wpList_make_own w rfl _ _ 33 rfl w.heap.size 3 i0 (.int .i64 0) 1 Try.underlying33 hi hz0 hz1 .i64 .i64 (n : Int) n rfl rfl rfl (by rw [hz2]; omega) (by unfold maxLen; omega) (Nat.le_refl _) ?_; intro w1 hown1 hgrow1)
  have hb1 : Below w.heap.size w w1 := Below.grown (Below.refl _ _) hgrow1 (Nat.le_refl _) (fun k hk => by cases hk)
  have HR1 := Lib.hid (H.out.keepB hg HA.out hb1)
  have HO1 : Hid (OI w.heap.size w1 (.slice (some ⟨w.heap.size, 0, none⟩) 0 n) []) := Lib.hid hown1
  have HW1 := Lib.hid hb1
  have HY1 : Hid (Only g w w1) := Lib.hid ⟨hb1.os, hb1.tape, hb1.output, hb1.size, fun k hk _ => hb1.block k hk⟩
  clear hown1 hgrow1 hb1
  go_loopw [6, 12] (fun a i wr => ∃ (v' : Value) (k q : Nat) (xs : List Int), a = v' ∧ i = .int .i64 (k : Int) ∧ k ≤ n ∧ xs.length = k ∧ Hid (OI w.heap.size wr v' xs) ∧ Hid (RD wr g A c l q e) ∧ Hid (RestIs n p k q xs l) ∧ Hid (Only g w wr) ∧ w.heap.size ≤ wr.heap.size) (fun _ i _ => n - (intOf i).toNat)
  case atStart => exact ⟨_, 0, p, [], rfl, rfl, Nat.zero_le _, rfl, HO1, HR1, hR0, HY1, HW1.out.size⟩
  case round =>
    obtain ⟨v', k, q, xs, rfl, rfl, hk, hxk, HO, HR, HS, HY, hsz⟩ := hrel
    subst hxk
    by_cases hlt : xs.length < n
    · have hst := rest_step HS.out hlt
      have hN := fun W (h : RD W g A c l q e) => cnumber_any W h
      unfold CNum at hN
      have hf := readN_fault (l.drop q)
      generalize readN (l.drop q) = G at hst hN hf
      obtain ⟨f, x, kk⟩ := G
      have HN := Lib.hid hN
      have HST := Lib.hid hst
      clear hN hst
      by_cases h0 : f = 0
      · subst h0
        have HS2 := Lib.hid (HST.out.2 rfl)
        clear hf
        go_wp2_with fail
        refine (HN.out _ HR.out).mono ?_
        rintro en w2 ⟨rfl, hr2, ho2⟩
        have HR2 := Lib.hid hr2
        have HO2 := Lib.hid (HO.out.only hg ho2)
        have HY2 := Lib.hid (HY.out.trans ho2)
        have hsz2 : w.heap.size ≤ w2.heap.size := Nat.le_trans hsz ho2.size
        clear hr2 ho2
        go_wp2_with (at_builtin; refine wpList_append_own_at _ rfl (.tmp 22) (.tmp 24) 33 rfl w.heap.size 3 i0 (.int .i64 0) 1 8 Try.underlying33 hi hz0 hz1 hz2 rfl (by decide) _ xs.length _ rfl (HO2.out.alloc _) ⟨w2.heap.size, 0, none⟩ 1 1 [.int .i64 x] rfl rfl (cell_one_new _ _ _) (by simp [Value.oneCell']) (by unfold maxLen; omega) (by omega) (by simp; omega) ?_; intro v3 w3 hown3 hgrow3 _ _)
        have hb3 : Below w.heap.size w2 w3 := Below.grown ((Below.refl _ _).alloc hsz2 _) hgrow3 (by simp; omega) (fun j hj => (HO2.out.lt _ hj).1)
        have HO3 : Hid (OI w.heap.size w3 v3 (xs ++ [x])) := Lib.hid (oi_snoc hown3)
        have HR3 := Lib.hid (HR2.out.keepB hg HA.out hb3)
        have HY3 : Hid (Only g w w3) := Lib.hid ⟨hb3.os.trans HY2.out.os, hb3.tape.trans HY2.out.tape, hb3.output.trans HY2.out.output, Nat.le_trans HY2.out.size hb3.size, fun j hj hne => (hb3.block j hj).trans (HY2.out.block j hj hne)⟩
        have hsz3 : w.heap.size ≤ w3.heap.size := Nat.le_trans hsz2 hb3.size
        clear hown3 hgrow3 hb3
        go_roundw
        case rel => exact ⟨_, xs.length + 1, _, xs ++ [x], rfl, by go_num, by omega, by simp, HO3, HR3, HS2, HY3, hsz3⟩
        case measure => simp [intOf]; omega
      · have HE := Lib.hid (HST.out.1 h0)
        obtain ⟨e1, e2⟩ := hf h0
        have e1' : x = 0 := e1
        have e2' : kk = 0 := e2
        subst e1' e2'
        have t : (f != 0) = true := by simpa using h0
        have H0 := Lib.hid h0
        clear e1 e2 h0 hf
        go_wp2_with fail
        refine (HN.out _ HR.out).mono ?_
        rintro en w2 ⟨rfl, hr2, ho2⟩
        have HR2 := Lib.hid hr2
        have HY2 := Lib.hid (HY.out.trans ho2)
        clear hr2 ho2
        go_wp2_with fail
        go_ret2
        refine ⟨none, 0, q, by rw [HE.out]; rfl, by rw [HE.out]; exact IA.nil _ _, HR2.out, fun h => ?_, HY2.out, (fun ad h => by cases h)⟩
        rw [HE.out] at h
        exact absurd h H0.out
    · have hkn : xs.length = n := by omega
      subst hkn
      have HE : Hid (readMany xs.length (l.drop p) = ⟨0, xs, q - p⟩) := Lib.hid (by
        have h4 := HS.out.2.2.2
        rw [Nat.sub_self] at h4
        have := h4 rfl
        rw [this]
        simp [readMany])
      have hpq := HS.out.2.1
      obtain ⟨A2, c2, rfl, hI⟩ := HO.out.form
      have HI := Lib.hid hI
      have HNE : Hid (∀ ad, A2 = some ad → ad.block ≠ g) := Lib.hid (fun ad h => by subst h; have := (World.ownsRow.lt HO.out ad.block rfl).1; omega)
      clear hI hlt
      go_wp2
      go_ret2
      refine ⟨A2, c2, q, by rw [HE.out]; rfl, by rw [HE.out]; exact HI.out, HR.out, fun _ => ?_, HY.out, HNE.out⟩
      rw [HE.out]
      show q = p + (q - p)
      omega

theorem readC_fault (l : List Int) : (readC l).f ≠ 0 → (readC l).v = 0 ∧ (readC l).k = 0 := by
  unfold readC
  split
  · intro _; exact ⟨rfl, rfl⟩
  · split
    · intro _; exact ⟨rfl, rfl⟩
    · split
      · intro _; exact ⟨rfl, rfl⟩
      · intro h; exact absurd rfl h
theorem readC_le (l : List Int) : (readC l).k + (readC l).v ≤ l.length := by
  have h := readN_le l
  unfold readC
  split
  · exact Nat.zero_le _
  · split
    · exact Nat.zero_le _
    · split
      · exact Nat.zero_le _
      · show (readN l).k + (readN l).v.toNat ≤ l.length
        omega
theorem readL_fault (l : List Int) : (readL l).f ≠ 0 → (readL l).v = [] ∧ (readL l).k = 0 := by
  unfold readL
  split
  · intro _; exact ⟨rfl, rfl⟩
  · split
    · intro _; exact ⟨rfl, rfl⟩
    · intro h; exact absurd rfl h
theorem readT_fault (l : List Int) : (readT l).f ≠ 0 → (readT l).v = [] ∧ (readT l).k = 0 := by
  unfold readT
  split
  · intro _; exact ⟨rfl, rfl⟩
  · intro h; exact absurd rfl h

set_option maxHeartbeats 1000000 in
theorem clist_any {g : Nat} {A : Option Addr} {c : Nat} {l : List Int} {p : Nat} {e : Int} (w : World) (h : RD w g A c l p e) :
    Calls Try.prog 27 #[.pointer (some ⟨g, 0, none⟩)] w (LPost g A c l p e (readL (l.drop p)) w) := by
  have H := Lib.hid h
  have hf := readC_fault (l.drop p)
  have hle := readC_le (l.drop p)
  have hC := fun W (h : RD W g A c l p e) => count_any W h
  have hp := h.place
  have hdl : (l.drop p).length = l.length - p := by simp
  unfold readL
  rw [hdl] at hle
  generalize readC (l.drop p) = G at hf hC hle
  obtain ⟨f, n, k⟩ := G
  have HC := Lib.hid hC
  clear h hC hdl
  by_cases h0 : f = 0
  · subst h0
    rw [if_neg (by simp)]
    have hnl : n ≤ l.length := by have : k + n ≤ l.length - p := hle; omega
    clear hf hle
    have hF := readMany_fault n (l.drop (p + k))
    have hG := fun W (h : RD W g A c l (p + k) e) => gather_any n hnl W h
    have hdd : (l.drop p).drop k = l.drop (p + k) := by rw [List.drop_drop]
    simp only [hdd]
    generalize readMany n (l.drop (p + k)) = M at hF hG
    obtain ⟨mf, mv, mk⟩ := M
    have HG := Lib.hid hG
    clear hG hdd
    by_cases hm : mf = 0
    · subst hm
      rw [if_neg (by simp)]
      clear hF
      go_enter Try.func27, Try.ntmps27
      go_wp2_with fail
      refine (HC.out w H.out).mono ?_
      rintro en w1 ⟨q, rfl, hr1, hq, ho1⟩
      have hq1 : q = p + k := hq rfl
      subst hq1
      have HR1 := Lib.hid hr1
      have HO1 := Lib.hid ho1
      clear hr1 ho1 hq
      go_wp2_with fail
      refine (HG.out w1 HR1.out).mono ?_
      rintro en w2 ⟨A2, c2, q, rfl, hI, hr2, hq2, ho2, hne2⟩
      have HNE := Lib.hid hne2
      have HI := Lib.hid hI
      have HQ := Lib.hid hq2
      have HR2 := Lib.hid hr2
      have HO2 := Lib.hid (HO1.out.trans ho2)
      clear hI hq2 hr2 ho2 hne2
      go_wp2_with fail
      go_ret2
      refine ⟨A2, c2, q, rfl, HI.out, HR2.out, fun _ => ?_, HO2.out, HNE.out⟩
      rw [HQ.out trivial]
      show p + k + mk = p + (k + mk)
      omega
    · obtain ⟨e1, e2⟩ := hF hm
      have e1' : mv = [] := e1
      have e2' : mk = 0 := e2
      subst e1' e2'
      rw [if_pos hm]
      have H0 := Lib.hid hm
      clear e1 e2 hm hF
      go_enter Try.func27, Try.ntmps27
      go_wp2_with fail
      refine (HC.out w H.out).mono ?_
      rintro en w1 ⟨q, rfl, hr1, hq, ho1⟩
      have hq1 : q = p + k := hq rfl
      subst hq1
      have HR1 := Lib.hid hr1
      have HO1 := Lib.hid ho1
      clear hr1 ho1 hq
      go_wp2_with fail
      refine (HG.out w1 HR1.out).mono ?_
      rintro en w2 ⟨A2, c2, q, rfl, hI, hr2, hq2, ho2, hne2⟩
      have HNE := Lib.hid hne2
      have HR2 := Lib.hid hr2
      have HO2 := Lib.hid (HO1.out.trans ho2)
      clear hI hq2 hr2 ho2 hne2
      go_wp2_with fail
      go_ret2
      exact ⟨A2, c2, q, rfl, IA.nil _ _, HR2.out, fun h => absurd h H0.out, HO2.out, HNE.out⟩
  · obtain ⟨e1, e2⟩ := hf h0
    have e1' : n = 0 := e1
    have e2' : k = 0 := e2
    subst e1' e2'
    rw [if_pos h0]
    have t : (f != 0) = true := by simpa using h0
    have H0 := Lib.hid h0
    clear e1 e2 h0 hf
    go_enter Try.func27, Try.ntmps27
    go_wp2_with fail
    refine (HC.out w H.out).mono ?_
    rintro en w1 ⟨q, rfl, hr1, hq, ho1⟩
    have HR1 := Lib.hid hr1
    have HO1 := Lib.hid ho1
    clear hr1 ho1 hq
    go_wp2_with fail
    go_ret2
    exact ⟨none, 0, q, rfl, IA.nil _ _, HR1.out, fun h => absurd h H0.out, HO1.out, (fun ad h => by cases h)⟩
end Go.Proofs.Ythakidnbgmpcfaa
