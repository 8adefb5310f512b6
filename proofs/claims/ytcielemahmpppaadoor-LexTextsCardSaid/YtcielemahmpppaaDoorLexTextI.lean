/- The law's own and the program's Text, of any tokens; the document's Text. -/
import Derived.Test.YtcielemahmpppaaDoorLexText
namespace Go.Proofs.YtcielemahmpppaaDoor.lx
open Go.ChangeShapes Go.WideShapes Go.ChangeAt Go.RowKit Go.Deep Go.Proofs.YtcielemahmpppaaDoor.sr

/-- A token of any numbers. -/
structure TokI where
  kind : Int
  num : Int
  pos : Int
  text : ByteArray
instance : Inhabited TokI := ⟨⟨0, 0, 0, ⟨#[]⟩⟩⟩
def cellI (t : TokI) : List Value := [.int .i64 t.kind, .int .i64 t.num, .int .i64 t.pos, .string t.text]
theorem cellI_len (t : TokI) : (cellI t).length = 4 := rfl
theorem cellI_one (t : TokI) : ∀ u ∈ cellI t, u.oneCell' = true := by
  intro u hu
  simp only [cellI, List.mem_cons, List.not_mem_nil, or_false] at hu
  rcases hu with rfl | rfl | rfl | rfl <;> simp [Value.oneCell']
abbrev TRI (w : World) (A : Option Addr) (L : List TokI) : Prop := RS cellI 4 w A L
abbrev OTi (base : Nat) (w : World) (v : Value) (L : List TokI) : Prop := OR cellI 4 base 39 w v L
theorem take_moreI {L : List TokI} {k : Nat} (h : k < L.length) : L.take k ++ [L.getD k default] = L.take (k + 1) := by
  rw [List.take_add_one]
  simp [List.getD, h]
/-- A token's cells in a block of their own. -/
def TCI (W : World) (b : Nat) (t : TokI) : Prop := W.cell? ⟨b, 0, none⟩ = some (.int .i64 t.kind) ∧ W.cell? ⟨b, 1, none⟩ = some (.int .i64 t.num) ∧ W.cell? ⟨b, 2, none⟩ = some (.int .i64 t.pos) ∧ W.cell? ⟨b, 3, none⟩ = some (.string t.text) ∧ b < W.heap.size ∧ ∀ i, W.frozen? ⟨b, i, none⟩ = false
theorem TCI.made (w : World) (t : TypeId) (k p n : Int) (q : ByteArray) : TCI (w.alloc (.cells #[.int .i64 k, .int .i64 n, .int .i64 p, .string q] t)) w.heap.size ⟨k, n, p, q⟩ :=
  ⟨World.cell?_alloc_at _ _ _ _ (by simp), World.cell?_alloc_at _ _ _ _ (by simp), World.cell?_alloc_at _ _ _ _ (by simp), World.cell?_alloc_at _ _ _ _ (by simp), by simp, fun i => World.frozen?_alloc_at _ _ _ _ (by simp)⟩
set_option maxRecDepth 100000 in
set_option maxHeartbeats 4000000 in
theorem ownI_any (L : List TokI) (A : Option Addr) (n c : Nat) (w : World) (hn : n = L.length) (hz : n ≤ 6000) (hr : TRI w A L) :
    Calls Tryd.prog 15 #[.slice A n c] w fun e w' => ∃ v, e = .returned v ∧ OTi w.heap.size w' v L ∧ Below w.heap.size w w' := by
  have HR := Lib.hid hr
  have HN := Lib.hid hn
  clear hr hn
  go_enter Tryd.func15, Tryd.ntmps15
  go_wp2
  go_loopw [3, 4] (fun ov iv wr => ∃ k : Nat, k ≤ n ∧ iv = .int .i64 k ∧ Hid (OTi w.heap.size wr ov (L.take k)) ∧ Hid (Below w.heap.size w wr)) (fun _ iv _ => n - (intOf iv).toNat)
  case atStart => exact ⟨0, Nat.zero_le _, rfl, Lib.hid (by rw [List.take_zero]; exact World.ownsRow_nil _ _ _ _), Lib.hid (Below.refl _ _)⟩
  case round =>
    obtain ⟨k, hk, rfl, HO, HB⟩ := hrel
    by_cases hlt : k < n
    · obtain ⟨b, o, rfl, hb, hc⟩ := HR.out (by rw [← HN.out]; omega)
      have q0 := hc k (by rw [← HN.out]; exact hlt) 0 (by decide)
      have q1 := hc k (by rw [← HN.out]; exact hlt) 1 (by decide)
      have q2 := hc k (by rw [← HN.out]; exact hlt) 2 (by decide)
      have q3 := hc k (by rw [← HN.out]; exact hlt) 3 (by decide)
      have HT := Lib.hid (take_moreI (L := L) (k := k) (by rw [← HN.out]; exact hlt))
      obtain ⟨t, HTT⟩ : ∃ t, Hid (L.getD k default = t) := ⟨_, Lib.hid rfl⟩
      rw [HTT.out] at q0 q1 q2 q3 HT
      obtain ⟨t0, t1, t2, t3⟩ := t
      simp only [cellI, List.getElem?_cons_zero, List.getElem?_cons_succ, Nat.add_zero] at q0 q1 q2 q3
      have HQ : Hid (∀ W, Below w.heap.size w W → W.cell? ⟨b, o + k * 4, none⟩ = some (.int .i64 t0) ∧ W.cell? ⟨b, o + k * 4 + 1, none⟩ = some (.int .i64 t1) ∧ W.cell? ⟨b, o + k * 4 + 2, none⟩ = some (.int .i64 t2) ∧ W.cell? ⟨b, o + k * 4 + 3, none⟩ = some (.string t3)) := Lib.hid (fun W hW => ⟨(hW.cell (p := ⟨b, o + k * 4, none⟩) hb).trans q0, (hW.cell (p := ⟨b, o + k * 4 + 1, none⟩) hb).trans q1, (hW.cell (p := ⟨b, o + k * 4 + 2, none⟩) hb).trans q2, (hW.cell (p := ⟨b, o + k * 4 + 3, none⟩) hb).trans q3⟩)
      obtain ⟨g0, g1, g2, g3⟩ := HQ.out _ HB.out
      clear hc q0 q1 q2 q3
      have HS : Hid (w.heap.size ≤ wr.heap.size) := Lib.hid HB.out.size
      go_upto_region 5 with (fail)
      go_region_held3 (fun w' => w'.cell? ⟨b, o + k * 4, none⟩ = some (.int .i64 t0) ∧ w'.cell? ⟨b, o + k * 4 + 1, none⟩ = some (.int .i64 t1) ∧ w'.cell? ⟨b, o + k * 4 + 2, none⟩ = some (.int .i64 t2) ∧ w'.cell? ⟨b, o + k * 4 + 3, none⟩ = some (.string t3))
        (first | exact ⟨g0, g1, g2, g3⟩ | exact ⟨k0, k1, k2, k3⟩ | go_keep)
        (first
          | (refine step_append_own cellI_len cellI_one Tryd.underlying23 infoP rfl (by decide) (by decide) w.heap.size _ (by rfl) (.tmp 11) (.tmp 33) (by rfl) (by rfl) _ (L.take k) (by rfl) (by first | exact World.ownsRow.alloc HO.out _ | exact HO.out.below (by first | exact (below_alloc1 _ _).drew | exact (Below.refl _ _).drew.trans (below_alloc1 _ _))) (⟨t0, t1, t2, t3⟩ : TokI) _ (by rfl) (by rfl) (by rw [List.length_take]; omega) (by have := HS.out; first | omega | (simp; omega)) _ (by first | exact World.alloc_heap_new _ _) ?_; intro v5 w5 ho5 hb5 _; have HO5 := Lib.hid ho5; have HB5 : Hid (Below w.heap.size w w5) := Lib.hid (by first | exact (HB.out.alloc HS.out _).trans hb5 | exact (HB.out.drew.alloc HS.out _).trans hb5); obtain ⟨k0, k1, k2, k3⟩ := HQ.out _ HB5.out; clear ho5 hb5)
          | fail)
      all_goals
        go_wp2
        go_roundw
        case rel => exact ⟨k + 1, by omega, by go_num, Lib.hid (by rw [← HT.out]; exact HO5.out), HB5⟩
        case measure => simp [intOf]; omega
    · obtain rfl : k = n := by omega
      have HF : Hid (OTi w.heap.size wr _ L) := Lib.hid (by have := HO.out; rwa [List.take_of_length_le (by rw [HN.out]; exact Nat.le_refl _)] at this)
      go_wp2
      go_ret
      exact ⟨_, rfl, HF.out, HB.out⟩
/-- A token's text, as Text has it. -/
def tokI (t : TokI) : List UInt8 := if t.kind = 2 then Lib.itoa t.num else t.text.data.toList
def textI (L : List TokI) : List UInt8 := Lib.join (L.map tokI) [32]
/-- What Text asks of the numbers. -/
def NumsI (L : List TokI) : Prop := ∀ t ∈ L, t.kind = 2 → -9223372036854775808 ≤ t.num ∧ t.num ≤ 9223372036854775807
set_option maxRecDepth 100000 in
set_option maxHeartbeats 4000000 in
theorem textI_any (L : List TokI) (A : Option Addr) (n c : Nat) (w : World) (hn : n = L.length) (hz : n ≤ 6000) (hr : TRI w A L) (ht : Tabs w) (hnum : NumsI L) (hlen : (textI L).length ≤ 1000000000) :
    Calls Tryd.prog 14 #[.slice A n c] w fun e w' => e = .returned (.string ⟨(textI L).toArray⟩) ∧ Below w.heap.size w w' := by
  have HR := Lib.hid hr
  have HN := Lib.hid hn
  have HT := Lib.hid ht
  have HNUM := Lib.hid hnum
  have HLEN := Lib.hid hlen
  have hmk := run_make_row' (P := Tryd.prog) 50 9 (.string ⟨#[]⟩) 16 Tryd.underlying50 (show (Tryd.prog.info? 9).map (fun i => (i.zero, i.size, i.bytes)) = some (some (.string ⟨#[]⟩), 1, 16) by kernel_rfl) rfl .i64 .i64 n (by omega) (by omega) w
  clear hr hn ht hnum hlen
  go_enter Tryd.func14, Tryd.ntmps14
  go_wp2
  clear hmk
  go_loopw [11] (fun i wr => ∃ (k : Nat) (f : Nat → ByteArray), k ≤ n ∧ i = .int .i64 k ∧ Hid (wr.rowIs w.heap.size 9 n (fun i => .string (f i))) ∧ Hid (Below w.heap.size w wr) ∧ Hid (∀ i, i < k → f i = ⟨(tokI (L.getD i default)).toArray⟩)) (fun i _ => n - (intOf i).toNat)
  case atStart => exact ⟨0, fun _ => ⟨#[]⟩, Nat.zero_le _, rfl, Lib.hid (World.rowIs_made w _ _ _), Lib.hid ((Below.refl _ _).alloc (Nat.le_refl _) _), Lib.hid (fun i hi => absurd hi (Nat.not_lt_zero _))⟩
  case round =>
    obtain ⟨k, f, hk, rfl, HG, HB, HO⟩ := hrel
    by_cases hlt : k < n
    · obtain ⟨b, o, rfl, hb, hc⟩ := HR.out (by rw [← HN.out]; omega)
      have hlL : k < L.length := by rw [← HN.out]; exact hlt
      have q0 := hc k hlL 0 (by decide)
      have q1 := hc k hlL 1 (by decide)
      have q2 := hc k hlL 2 (by decide)
      have q3 := hc k hlL 3 (by decide)
      have HMEM : Hid (L.getD k default ∈ L) := Lib.hid (by rw [show L.getD k default = L[k]'hlL by simp [List.getD, hlL]]; exact List.getElem_mem _)
      obtain ⟨t, HTT⟩ : ∃ t, Hid (L.getD k default = t) := ⟨_, Lib.hid rfl⟩
      rw [HTT.out] at q0 q1 q2 q3 HMEM
      have HNB := Lib.hid (HNUM.out t HMEM.out)
      obtain ⟨t0, t1, t2, t3⟩ := t
      simp only [cellI, List.getElem?_cons_zero, List.getElem?_cons_succ, Nat.add_zero] at q0 q1 q2 q3
      have g0 := (HB.out.cell (p := ⟨b, o + k * 4, none⟩) hb).trans q0
      have g1 := (HB.out.cell (p := ⟨b, o + k * 4 + 1, none⟩) hb).trans q1
      have g2 := (HB.out.cell (p := ⟨b, o + k * 4 + 2, none⟩) hb).trans q2
      have g3 := (HB.out.cell (p := ⟨b, o + k * 4 + 3, none⟩) hb).trans q3
      have hi0 : (0 : Int) ≤ (k : Int) := by omega
      have hi9 : (k : Int) < (n : Int) := by omega
      clear hc q0 q1 q2 q3 hlL HMEM
      go_upto_region 5 with (fail)
      clear g0 g1 g2 g3
      obtain ⟨tb, HTB⟩ : ∃ tb, Hid (tb = wr.heap.size) := ⟨_, Lib.hid rfl⟩
      have HTC : Hid (TCI (wr.alloc (.cells #[.int .i64 t0, .int .i64 t1, .int .i64 t2, .string t3] 39)) tb ⟨t0, t1, t2, t3⟩) := Lib.hid (by rw [HTB.out]; exact TCI.made _ _ _ _ _ _)
      have HG5 : Hid ((wr.alloc (.cells #[.int .i64 t0, .int .i64 t1, .int .i64 t2, .string t3] 39)).rowIs w.heap.size 9 n (fun i => .string (f i))) := Lib.hid (HG.out.alloc _)
      have HB5 : Hid (Below w.heap.size w (wr.alloc (.cells #[.int .i64 t0, .int .i64 t1, .int .i64 t2, .string t3] 39))) := Lib.hid (HB.out.alloc HB.out.size _)
      have hne : w.heap.size ≠ tb := by have := HG.out.lt; have := HTB.out; omega
      rw [← HTB.out]
      generalize wr.alloc (.cells #[.int .i64 t0, .int .i64 t1, .int .i64 t2, .string t3] 39) = w5 at HTC HG5 HB5 ⊢
      have cc3 := HTC.out.2.2.2.1
      obtain ⟨u, c3⟩ : ∃ u, w5.cell? ⟨w.heap.size, k, none⟩ = some u := ⟨_, World.rowIs.cell HG5.out hlt⟩
      have c4 : w5.frozen? ⟨w.heap.size, k, none⟩ = false := World.rowIs.frozen HG5.out k
      go_upto_region 6 with (fail)
      clear cc3 c3 c4
      have HG6 : Hid ((w5.setCell ⟨w.heap.size, k, none⟩ (.string t3)).rowIs w.heap.size 9 n (fun i => .string (if i = k then t3 else f i))) := Lib.hid ((HG5.out.set k _).congr (fun i hi => by by_cases h : i = k <;> simp [h]))
      have HB6 : Hid (Below w.heap.size w (w5.setCell ⟨w.heap.size, k, none⟩ (.string t3))) := Lib.hid (HB5.out.setCell (Nat.le_refl _) _)
      have HC6 : Hid (∀ i v, w5.cell? ⟨tb, i, none⟩ = some v → (w5.setCell ⟨w.heap.size, k, none⟩ (.string t3)).cell? ⟨tb, i, none⟩ = some v) := Lib.hid (fun i v h => (World.cell?_setCell_other _ _ _ _ (by intro e; injection e with e1; omega)).trans h)
      have c0 := HC6.out 0 _ HTC.out.1
      have c1 := HC6.out 1 _ HTC.out.2.1
      generalize w5.setCell ⟨w.heap.size, k, none⟩ (.string t3) = w6 at HG6 HB6 c0 c1 ⊢
      by_cases hk2 : t0 = 2
      · subst hk2
        obtain ⟨n0, n1⟩ := HNB.out rfl
        have HN0 := Lib.hid n0
        have HN1 := Lib.hid n1
        clear n0 n1
        go_wp2_with fail
        refine (decimal_any t1 _ HN0.out HN1.out (HT.out.below HB6.out)).mono ?_
        rintro e w7 ⟨rfl, hb7⟩
        have HB7 : Hid (Below w.heap.size w w7) := Lib.hid (HB6.out.trans (hb7.mono HB6.out.size))
        have HG7 : Hid (w7.rowIs w.heap.size 9 n (fun i => .string (if i = k then t3 else f i))) := Lib.hid (HG6.out.of_block (hb7.block _ HG6.out.lt))
        clear hb7 c0 c1
        obtain ⟨u, c3⟩ : ∃ u, w7.cell? ⟨w.heap.size, k, none⟩ = some u := ⟨_, World.rowIs.cell HG7.out hlt⟩
        have c4 : w7.frozen? ⟨w.heap.size, k, none⟩ = false := World.rowIs.frozen HG7.out k
        have HSET : Hid ((w7.setCell ⟨w.heap.size, k, none⟩ (.string (dS t1))).rowIs w.heap.size 9 n (fun i => .string (if i = k then dS t1 else f i))) := Lib.hid ((HG7.out.set k _).congr (fun i hi => by by_cases h : i = k <;> simp [h]))
        have HBS : Hid (Below w.heap.size w (w7.setCell ⟨w.heap.size, k, none⟩ (.string (dS t1)))) := Lib.hid (HB7.out.setCell (Nat.le_refl _) _)
        have HOK : Hid (∀ i, i < k + 1 → (if i = k then dS t1 else f i) = ⟨(tokI (L.getD i default)).toArray⟩) := Lib.hid (fun i hi => by
          by_cases h : i = k
          · subst h; rw [if_pos rfl, HTT.out]; rfl
          · rw [if_neg h]; exact HO.out i (by omega))
        generalize dS t1 = q at HSET HBS HOK ⊢
        go_wp2
        go_roundw
        case rel => exact ⟨k + 1, _, by omega, by go_num, HSET, HBS, HOK⟩
        case measure => simp [intOf]; omega
      · have gk : (t0 == 2) = false := by simpa using hk2
        have HOK : Hid (∀ i, i < k + 1 → (if i = k then t3 else f i) = ⟨(tokI (L.getD i default)).toArray⟩) := Lib.hid (fun i hi => by
          by_cases h : i = k
          · subst h; rw [if_pos rfl, HTT.out]; unfold tokI; rw [if_neg hk2]
          · rw [if_neg h]; exact HO.out i (by omega))
        go_wp2
        go_roundw
        case rel => exact ⟨k + 1, _, by omega, by go_num, HG6, HB6, HOK⟩
        case measure => simp [intOf]; omega
    · obtain rfl : k = n := by omega
      obtain ⟨xs, HXS⟩ : ∃ xs, Hid (L.map (fun t => (⟨(tokI t).toArray⟩ : ByteArray)) = xs) := ⟨_, Lib.hid rfl⟩
      have HXL : Hid (xs.length = k) := Lib.hid (by rw [← HXS.out, List.length_map]; exact HN.out.symm)
      have HJ : Hid (Lib.join (xs.map (·.data.toList)) (⟨#[32]⟩ : ByteArray).data.toList = textI L) := Lib.hid (by rw [← HXS.out, List.map_map]; first | done | rfl)
      have HC : Hid (∀ (j : Nat) x, xs[j]? = some x → wr.cell? ⟨w.heap.size, 0 + j, none⟩ = some (.string x)) := Lib.hid (fun j x h => by
        have hj : j < k := by rw [← HXL.out]; exact (List.getElem?_eq_some_iff.1 h).1
        rw [Nat.zero_add, HG.out.cell hj, HO.out j hj]
        rw [← HXS.out, List.getElem?_map] at h
        have hjl : j < L.length := by rw [← HN.out]; exact hj
        rw [List.getElem?_eq_getElem hjl] at h
        injection h with h
        rw [← h, show L.getD j default = L[j] by simp [List.getD, hjl]])
      have HCALL : Hid (Calls Tryd.prog 26 #[.slice (some ⟨w.heap.size, 0, none⟩) k k, .string ⟨#[32]⟩] wr fun e w' => e = .returned (.string ⟨(textI L).toArray⟩) ∧ Below wr.heap.size wr w') := Lib.hid (by
        have h := Tryd.strings_Join w.heap.size 0 k xs ⟨#[32]⟩ wr HC.out HG.out.lt (by rw [HXL.out]; omega) (by rw [HXL.out]; exact Nat.le_refl _) (by rw [HJ.out]; have := HLEN.out; omega)
        rw [HXL.out, HJ.out] at h
        exact h)
      go_wp2_with fail
      refine HCALL.out.mono ?_
      rintro e w9 ⟨rfl, hb9⟩
      have HB9 : Hid (Below w.heap.size w w9) := Lib.hid (HB.out.trans (hb9.mono HB.out.size))
      clear hb9
      go_wp2
      go_ret
      exact ⟨rfl, HB9.out⟩
/-- One token more. -/
theorem textI_snoc {L : List TokI} {k : Nat} (h : k < L.length) : textI (L.take (k + 1)) = if k = 0 then tokI (L.getD k default) else textI (L.take k) ++ [32] ++ tokI (L.getD k default) := by
  have hk : L.take (k + 1) = L.take k ++ [L.getD k default] := (take_moreI h).symm
  by_cases h0 : k = 0
  · rw [if_pos h0]
    subst h0
    rw [hk, List.take_zero, List.nil_append]
    unfold textI
    exact Lib.join_one _ _
  · rw [if_neg h0, hk]
    unfold textI
    rw [List.map_append, List.map_cons, List.map_nil]
    cases hc : (L.take k).map tokI with
    | nil =>
      have := congrArg List.length hc
      rw [List.length_map, List.length_take, List.length_nil] at this
      omega
    | cons x r =>
      rw [List.cons_append, Lib.join_cons, Lib.join_cons]
      simp [Lib.joinTail, List.append_assoc]
theorem tokI_len {t : TokI} (h : t.kind = 2 → -9223372036854775808 ≤ t.num ∧ t.num ≤ 9223372036854775807) (hs : t.text.size ≤ 100) : (tokI t).length ≤ 100 := by
  unfold tokI
  split
  · rename_i hk
    obtain ⟨h0, h1⟩ := h hk
    unfold Lib.itoa
    split
    · have := nDigits_le (k := 19) (u := t.num.natAbs) (by omega)
      rw [List.length_cons, Lib.decDigits_length]; omega
    · have := nDigits_le (k := 19) (u := t.num.toNat) (by omega)
      rw [Lib.decDigits_length]; omega
  · rw [size_toList]; exact hs
theorem textI_len {L : List TokI} (h : ∀ t ∈ L, (tokI t).length ≤ 100) : ∀ k, k ≤ L.length → (textI (L.take k)).length ≤ 101 * k
  | 0, _ => by rw [List.take_zero]; exact Nat.zero_le _
  | k + 1, hk => by
    have ih := textI_len h k (by omega)
    have hm := h (L.getD k default) (by rw [show L.getD k default = L[k]'(by omega) by simp [List.getD, show k < L.length by omega]]; exact List.getElem_mem _)
    rw [textI_snoc (by omega)]
    split
    · omega
    · rw [List.length_append, List.length_append, List.length_singleton]; omega
theorem app_list (x y : List UInt8) : (⟨x.toArray⟩ : ByteArray) ++ ⟨y.toArray⟩ = ⟨(x ++ y).toArray⟩ := by
  apply ByteArray.ext
  simp [ByteArray.data_append]
set_option maxRecDepth 100000 in
set_option maxHeartbeats 4000000 in
theorem refText_any (L : List TokI) (A : Option Addr) (n c : Nat) (w : World) (hn : n = L.length) (hz : n ≤ 100) (hr : TRI w A L) (hnum : NumsI L) (hs : ∀ t ∈ L, t.text.size ≤ 100) :
    Calls Tryd.prog 16 #[.slice A n c] w fun e w' => e = .returned (.string ⟨(textI L).toArray⟩) ∧ Below w.heap.size w w' := by
  have HR := Lib.hid hr
  have HN := Lib.hid hn
  have HTL : Hid (∀ k, k ≤ n → (textI (L.take k)).length ≤ 101 * k) := Lib.hid (fun k hk => textI_len (fun t ht => tokI_len (hnum t ht) (hs t ht)) k (by omega))
  have HSZ : Hid (∀ k, k < n → (tokI (L.getD k default)).length ≤ 100) := Lib.hid (fun k hk => by
    have hlL : k < L.length := by omega
    have hm : L.getD k default ∈ L := by rw [show L.getD k default = L[k]'hlL by simp [List.getD, hlL]]; exact List.getElem_mem _
    exact tokI_len (hnum _ hm) (hs _ hm))
  have HNUM : Hid (∀ k, k < n → (L.getD k default).kind = 2 → -9223372036854775808 ≤ (L.getD k default).num ∧ (L.getD k default).num ≤ 9223372036854775807) := Lib.hid (fun k hk => by
    have hlL : k < L.length := by omega
    have hm : L.getD k default ∈ L := by rw [show L.getD k default = L[k]'hlL by simp [List.getD, hlL]]; exact List.getElem_mem _
    exact hnum _ hm)
  clear hr hn hnum hs
  go_enter Tryd.func16, Tryd.ntmps16
  go_wp2
  go_loopw [3, 4] (fun ov iv wr => ∃ k : Nat, k ≤ n ∧ iv = .int .i64 k ∧ ov = .string ⟨(textI (L.take k)).toArray⟩ ∧ Hid (Below w.heap.size w wr)) (fun _ iv _ => n - (intOf iv).toNat)
  case atStart => exact ⟨0, Nat.zero_le _, rfl, rfl, Lib.hid (Below.refl _ _)⟩
  case round =>
    obtain ⟨k, hk, rfl, rfl, HB⟩ := hrel
    by_cases hlt : k < n
    · obtain ⟨b, o, rfl, hb, hc⟩ := HR.out (by rw [← HN.out]; omega)
      have hlL : k < L.length := by rw [← HN.out]; exact hlt
      have q0 := hc k hlL 0 (by decide)
      have q1 := hc k hlL 1 (by decide)
      have q3 := hc k hlL 3 (by decide)
      have HSN := Lib.hid (textI_snoc hlL)
      have HNB := Lib.hid (HNUM.out k hlt)
      have HLT := Lib.hid (HSZ.out k hlt)
      have HLO := Lib.hid (HTL.out k hk)
      obtain ⟨t, HTT⟩ : ∃ t, Hid (L.getD k default = t) := ⟨_, Lib.hid rfl⟩
      rw [HTT.out] at q0 q1 q3 HSN HNB HLT
      obtain ⟨t0, t1, t2, t3⟩ := t
      simp only [cellI, List.getElem?_cons_zero, List.getElem?_cons_succ, Nat.add_zero] at q0 q1 q3
      have g0 := (HB.out.cell (p := ⟨b, o + k * 4, none⟩) hb).trans q0
      have g1 := (HB.out.cell (p := ⟨b, o + k * 4 + 1, none⟩) hb).trans q1
      have g3 := (HB.out.cell (p := ⟨b, o + k * 4 + 3, none⟩) hb).trans q3
      have hi0 : (0 : Int) ≤ (k : Int) := by omega
      have hi9 : (k : Int) < (n : Int) := by omega
      clear hc q0 q1 q3 hlL
      obtain ⟨x, HX⟩ : ∃ x, Hid (textI (L.take k) = x) := ⟨_, Lib.hid rfl⟩
      rw [HX.out] at HSN HLO ⊢
      have hxl : x.length ≤ 10100 := by have := HLO.out; omega
      by_cases h0 : k = 0
      · have HX0 : Hid (x = []) := Lib.hid (by have h := HLO.out; rw [h0, Nat.mul_zero] at h; exact List.length_eq_zero_iff.1 (Nat.le_zero.1 h))
        subst h0
        simp only [Nat.zero_mul, Nat.add_zero] at g0 g1 g3
        have HS2 : Hid (textI (L.take (0 + 1)) = tokI ⟨t0, t1, t2, t3⟩) := Lib.hid (by rw [HSN.out, if_pos rfl])
        rw [HX0.out]
        by_cases hk2 : t0 = 2
        · subst hk2
          obtain ⟨n0, n1⟩ := HNB.out rfl
          have HN0 := Lib.hid n0
          have HN1 := Lib.hid n1
          clear n0 n1
          have HQ : Hid (dS t1 = ⟨(textI (L.take (0 + 1))).toArray⟩) := Lib.hid (by rw [HS2.out]; rfl)
          have HQL : Hid ((dS t1).size ≤ 100) := Lib.hid (by rw [HQ.out, HS2.out, size_list]; exact HLT.out)
          go_wp2_with fail
          refine (refDecimal_any t1 _ HN0.out HN1.out).mono ?_
          rintro e w2 ⟨rfl, hb2⟩
          have HB2 : Hid (Below w.heap.size w w2) := Lib.hid (HB.out.trans (hb2.mono HB.out.size))
          clear hb2 g0 g1 g3
          have HA : Hid ((⟨#[]⟩ : ByteArray) ++ dS t1 = ⟨(textI (L.take (0 + 1))).toArray⟩) := Lib.hid (by rw [← HQ.out]; exact app_list [] (Lib.itoa t1))
          have hql := HQL.out
          generalize dS t1 = q at HA hql ⊢
          have hgt : ¬ 9223372036854775807 < q.size := by omega
          go_wp2
          go_roundw
          case rel => exact ⟨1, by omega, rfl, by rw [← HA.out], HB2⟩
          case measure => simp [intOf]; omega
        · have gk : (t0 == 2) = false := by simpa using hk2
          have HA : Hid ((⟨#[]⟩ : ByteArray) ++ t3 = ⟨(textI (L.take (0 + 1))).toArray⟩) := Lib.hid (by rw [HS2.out]; unfold tokI; rw [if_neg hk2]; have := app_list [] t3.data.toList; rw [mk_list] at this; exact this)
          have hql : t3.size ≤ 100 := by have := HLT.out; unfold tokI at this; rw [if_neg hk2, size_toList] at this; exact this
          have hgt : ¬ 9223372036854775807 < t3.size := by omega
          go_wp2
          go_roundw
          case rel => exact ⟨1, by omega, rfl, by rw [← HA.out], HB⟩
          case measure => simp [intOf]; omega
      · have hk0 : (0 : Int) < (k : Int) := by omega
        have hk0n : 0 < k := by omega
        have HS2 : Hid (textI (L.take (k + 1)) = x ++ [32] ++ tokI ⟨t0, t1, t2, t3⟩) := Lib.hid (by rw [HSN.out, if_neg h0])
        have hg1 : ¬ 9223372036854775807 < x.length + 1 := by omega
        have HX1 : Hid ((⟨x.toArray⟩ : ByteArray) ++ ⟨#[32]⟩ = ⟨(x ++ [32]).toArray⟩) := Lib.hid (app_list x [32])
        by_cases hk2 : t0 = 2
        · subst hk2
          obtain ⟨n0, n1⟩ := HNB.out rfl
          have HN0 := Lib.hid n0
          have HN1 := Lib.hid n1
          clear n0 n1
          have HA : Hid ((⟨x.toArray⟩ : ByteArray) ++ ⟨#[32]⟩ ++ dS t1 = ⟨(textI (L.take (k + 1))).toArray⟩) := Lib.hid (by rw [HX1.out, HS2.out]; exact app_list _ _)
          have hql : (dS t1).size ≤ 100 := by have := HLT.out; rw [show (dS t1).size = (Lib.itoa t1).length from size_list _]; exact this
          have HQL := Lib.hid hql
          clear hql
          go_wp2_with fail
          refine (refDecimal_any t1 _ HN0.out HN1.out).mono ?_
          rintro e w2 ⟨rfl, hb2⟩
          have HB2 : Hid (Below w.heap.size w w2) := Lib.hid (HB.out.trans (hb2.mono HB.out.size))
          clear hb2 g0 g1 g3
          have hql := HQL.out
          generalize dS t1 = q at HA hql ⊢
          have hgt : ¬ 9223372036854775807 < x.length + 1 + q.size := by omega
          go_wp2
          go_roundw
          case rel => exact ⟨k + 1, by omega, by go_num, by rw [← HA.out], HB2⟩
          case measure => simp [intOf]; omega
        · have gk : (t0 == 2) = false := by simpa using hk2
          have HA : Hid ((⟨x.toArray⟩ : ByteArray) ++ ⟨#[32]⟩ ++ t3 = ⟨(textI (L.take (k + 1))).toArray⟩) := Lib.hid (by rw [HX1.out, HS2.out]; unfold tokI; rw [if_neg hk2]; have := app_list (x ++ [32]) t3.data.toList; rw [mk_list] at this; exact this)
          have hql : t3.size ≤ 100 := by have := HLT.out; unfold tokI at this; rw [if_neg hk2, size_toList] at this; exact this
          have hgt : ¬ 9223372036854775807 < x.length + 1 + t3.size := by omega
          go_wp2
          go_roundw
          case rel => exact ⟨k + 1, by omega, by go_num, by rw [← HA.out], HB⟩
          case measure => simp [intOf]; omega
    · obtain rfl : k = n := by omega
      have HF : Hid (textI (L.take k) = textI L) := Lib.hid (by rw [List.take_of_length_le (by rw [HN.out]; exact Nat.le_refl _)])
      go_wp2
      go_ret
      exact ⟨by rw [HF.out]; try rfl, HB.out⟩
end Go.Proofs.YtcielemahmpppaaDoor.lx
