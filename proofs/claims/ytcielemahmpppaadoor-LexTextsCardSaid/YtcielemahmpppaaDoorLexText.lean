/- The program's Text. -/
import Derived.Test.YtcielemahmpppaaDoorLexRefScan
import Derived.Laws.Rows
namespace Go.Proofs.YtcielemahmpppaaDoor.lx
open Go.ChangeShapes Go.WideShapes Go.ChangeAt Go.RowKit Go.Deep Go.Proofs.YtcielemahmpppaaDoor.sr

/-- A token's text, as Text has it. -/
def tokB (t : Tok) : List UInt8 := if t.kind = 2 then Lib.itoa t.num else t.text.data.toList
def textP (L : List Tok) : List UInt8 := Lib.join (L.map tokB) [32]
/-- What Text asks of the numbers. -/
def NumsOk (L : List Tok) : Prop := ∀ t ∈ L, t.kind = 2 → -9223372036854775808 ≤ t.num ∧ t.num ≤ 9223372036854775807
set_option maxRecDepth 100000 in
set_option maxHeartbeats 4000000 in
theorem text_any (L : List Tok) (A : Option Addr) (n c : Nat) (w : World) (hn : n = L.length) (hz : n ≤ 6000) (hr : TR w A L) (ht : Tabs w) (hnum : NumsOk L) (hlen : (textP L).length ≤ 1000000000) :
    Calls Tryd.prog 14 #[.slice A n c] w fun e w' => e = .returned (.string ⟨(textP L).toArray⟩) ∧ Below w.heap.size w w' := by
  have HR := Lib.hid hr
  have HN := Lib.hid hn
  have HT := Lib.hid ht
  have HNUM := Lib.hid hnum
  have HLEN := Lib.hid hlen
  have hmk := run_make_row' (P := Tryd.prog) 50 9 (.string ⟨#[]⟩) 16 Tryd.underlying50 (show (Tryd.prog.info? 9).map (fun i => (i.zero, i.size, i.bytes)) = some (some (.string ⟨#[]⟩), 1, 16) by kernel_rfl) rfl .i64 .i64 n (by omega) (by omega) w
  clear hr hn ht hnum hlen
  go_enter Tryd.func14, Tryd.ntmps14
  go_wp2
  clear hmk
  go_loopw [11] (fun i wr => ∃ (k : Nat) (f : Nat → ByteArray), k ≤ n ∧ i = .int .i64 k ∧ Hid (wr.rowIs w.heap.size 9 n (fun i => .string (f i))) ∧ Hid (Below w.heap.size w wr) ∧ Hid (∀ i, i < k → f i = ⟨(tokB (L.getD i default)).toArray⟩)) (fun i _ => n - (intOf i).toNat)
  case atStart => exact ⟨0, fun _ => ⟨#[]⟩, Nat.zero_le _, rfl, Lib.hid (World.rowIs_made w _ _ _), Lib.hid ((Below.refl _ _).alloc (Nat.le_refl _) _), Lib.hid (fun i hi => absurd hi (Nat.not_lt_zero _))⟩
  case round =>
    obtain ⟨k, f, hk, rfl, HG, HB, HO⟩ := hrel
    by_cases hlt : k < n
    · obtain ⟨b, o, rfl, hb, hc⟩ := HR.out (by rw [← HN.out]; omega)
      have hlL : k < L.length := by rw [← HN.out]; exact hlt
      have q0 := hc k hlL 0 (by decide)
      have q1 := hc k hlL 1 (by decide)
      have q2 := hc k hlL 2 (by decide)
      have q3 := hc k hlL 3 (by decide)
      have HMEM : Hid (L.getD k default ∈ L) := Lib.hid (by rw [show L.getD k default = L[k]'hlL by simp [List.getD, hlL]]; exact List.getElem_mem _)
      obtain ⟨t, HTT⟩ : ∃ t, Hid (L.getD k default = t) := ⟨_, Lib.hid rfl⟩
      rw [HTT.out] at q0 q1 q2 q3 HMEM
      have HNB := Lib.hid (HNUM.out t HMEM.out)
      obtain ⟨t0, t1, t2, t3⟩ := t
      simp only [cellT, List.getElem?_cons_zero, List.getElem?_cons_succ, Nat.add_zero] at q0 q1 q2 q3
      have g0 := (HB.out.cell (p := ⟨b, o + k * 4, none⟩) hb).trans q0
      have g1 := (HB.out.cell (p := ⟨b, o + k * 4 + 1, none⟩) hb).trans q1
      have g2 := (HB.out.cell (p := ⟨b, o + k * 4 + 2, none⟩) hb).trans q2
      have g3 := (HB.out.cell (p := ⟨b, o + k * 4 + 3, none⟩) hb).trans q3
      have hi0 : (0 : Int) ≤ (k : Int) := by omega
      have hi9 : (k : Int) < (n : Int) := by omega
      clear hc q0 q1 q2 q3 hlL HMEM
      go_upto_region 5 with (fail)
      clear g0 g1 g2 g3
      obtain ⟨tb, HTB⟩ : ∃ tb, Hid (tb = wr.heap.size) := ⟨_, Lib.hid rfl⟩
      have HTC : Hid (TC (wr.alloc (.cells #[.int .i64 (t0 : Nat), .int .i64 t1, .int .i64 (t2 : Nat), .string t3] 39)) tb ⟨t0, t1, t2, t3⟩) := Lib.hid (by rw [HTB.out]; exact TC.made _ _ _ _ _ _)
      have HG5 : Hid ((wr.alloc (.cells #[.int .i64 (t0 : Nat), .int .i64 t1, .int .i64 (t2 : Nat), .string t3] 39)).rowIs w.heap.size 9 n (fun i => .string (f i))) := Lib.hid (HG.out.alloc _)
      have HB5 : Hid (Below w.heap.size w (wr.alloc (.cells #[.int .i64 (t0 : Nat), .int .i64 t1, .int .i64 (t2 : Nat), .string t3] 39))) := Lib.hid (HB.out.alloc HB.out.size _)
      have hne : w.heap.size ≠ tb := by have := HG.out.lt; have := HTB.out; omega
      rw [← HTB.out]
      generalize wr.alloc (.cells #[.int .i64 (t0 : Nat), .int .i64 t1, .int .i64 (t2 : Nat), .string t3] 39) = w5 at HTC HG5 HB5 ⊢
      have cc3 := HTC.out.2.2.2.1
      obtain ⟨u, c3⟩ : ∃ u, w5.cell? ⟨w.heap.size, k, none⟩ = some u := ⟨_, World.rowIs.cell HG5.out hlt⟩
      have c4 : w5.frozen? ⟨w.heap.size, k, none⟩ = false := World.rowIs.frozen HG5.out k
      go_upto_region 6 with (fail)
      clear cc3 c3 c4
      have HG6 : Hid ((w5.setCell ⟨w.heap.size, k, none⟩ (.string t3)).rowIs w.heap.size 9 n (fun i => .string (if i = k then t3 else f i))) := Lib.hid ((HG5.out.set k _).congr (fun i hi => by by_cases h : i = k <;> simp [h]))
      have HB6 : Hid (Below w.heap.size w (w5.setCell ⟨w.heap.size, k, none⟩ (.string t3))) := Lib.hid (HB5.out.setCell (Nat.le_refl _) _)
      have HC6 : Hid (∀ i v, w5.cell? ⟨tb, i, none⟩ = some v → (w5.setCell ⟨w.heap.size, k, none⟩ (.string t3)).cell? ⟨tb, i, none⟩ = some v) := Lib.hid (fun i v h => (World.cell?_setCell_other _ _ _ _ (by intro e; injection e with e1; omega)).trans h)
      have c0 := HC6.out 0 _ HTC.out.1
      have c1 := HC6.out 1 _ HTC.out.2.1
      generalize w5.setCell ⟨w.heap.size, k, none⟩ (.string t3) = w6 at HG6 HB6 c0 c1 ⊢
      by_cases hk2 : t0 = 2
      · subst hk2
        obtain ⟨n0, n1⟩ := HNB.out rfl
        have HN0 := Lib.hid n0
        have HN1 := Lib.hid n1
        clear n0 n1
        go_wp2_with fail
        refine (decimal_any t1 _ HN0.out HN1.out (HT.out.below HB6.out)).mono ?_
        rintro e w7 ⟨rfl, hb7⟩
        have HB7 : Hid (Below w.heap.size w w7) := Lib.hid (HB6.out.trans (hb7.mono HB6.out.size))
        have HG7 : Hid (w7.rowIs w.heap.size 9 n (fun i => .string (if i = k then t3 else f i))) := Lib.hid (HG6.out.of_block (hb7.block _ HG6.out.lt))
        clear hb7 c0 c1
        obtain ⟨u, c3⟩ : ∃ u, w7.cell? ⟨w.heap.size, k, none⟩ = some u := ⟨_, World.rowIs.cell HG7.out hlt⟩
        have c4 : w7.frozen? ⟨w.heap.size, k, none⟩ = false := World.rowIs.frozen HG7.out k
        have HSET : Hid ((w7.setCell ⟨w.heap.size, k, none⟩ (.string (dS t1))).rowIs w.heap.size 9 n (fun i => .string (if i = k then dS t1 else f i))) := Lib.hid ((HG7.out.set k _).congr (fun i hi => by by_cases h : i = k <;> simp [h]))
        have HBS : Hid (Below w.heap.size w (w7.setCell ⟨w.heap.size, k, none⟩ (.string (dS t1)))) := Lib.hid (HB7.out.setCell (Nat.le_refl _) _)
        have HOK : Hid (∀ i, i < k + 1 → (if i = k then dS t1 else f i) = ⟨(tokB (L.getD i default)).toArray⟩) := Lib.hid (fun i hi => by
          by_cases h : i = k
          · subst h; rw [if_pos rfl, HTT.out]; rfl
          · rw [if_neg h]; exact HO.out i (by omega))
        generalize dS t1 = q at HSET HBS HOK ⊢
        go_wp2
        go_roundw
        case rel => exact ⟨k + 1, _, by omega, by go_num, HSET, HBS, HOK⟩
        case measure => simp [intOf]; omega
      · have gk : ((t0 : Int) == 2) = false := by simp; omega
        have HOK : Hid (∀ i, i < k + 1 → (if i = k then t3 else f i) = ⟨(tokB (L.getD i default)).toArray⟩) := Lib.hid (fun i hi => by
          by_cases h : i = k
          · subst h; rw [if_pos rfl, HTT.out]; unfold tokB; rw [if_neg hk2]
          · rw [if_neg h]; exact HO.out i (by omega))
        go_wp2
        go_roundw
        case rel => exact ⟨k + 1, _, by omega, by go_num, HG6, HB6, HOK⟩
        case measure => simp [intOf]; omega
    · obtain rfl : k = n := by omega
      obtain ⟨xs, HXS⟩ : ∃ xs, Hid (L.map (fun t => (⟨(tokB t).toArray⟩ : ByteArray)) = xs) := ⟨_, Lib.hid rfl⟩
      have HXL : Hid (xs.length = k) := Lib.hid (by rw [← HXS.out, List.length_map]; exact HN.out.symm)
      have HJ : Hid (Lib.join (xs.map (·.data.toList)) (⟨#[32]⟩ : ByteArray).data.toList = textP L) := Lib.hid (by rw [← HXS.out, List.map_map]; first | done | rfl)
      have HC : Hid (∀ (j : Nat) x, xs[j]? = some x → wr.cell? ⟨w.heap.size, 0 + j, none⟩ = some (.string x)) := Lib.hid (fun j x h => by
        have hj : j < k := by rw [← HXL.out]; exact (List.getElem?_eq_some_iff.1 h).1
        rw [Nat.zero_add, HG.out.cell hj, HO.out j hj]
        rw [← HXS.out, List.getElem?_map] at h
        have hjl : j < L.length := by rw [← HN.out]; exact hj
        rw [List.getElem?_eq_getElem hjl] at h
        injection h with h
        rw [← h, show L.getD j default = L[j] by simp [List.getD, hjl]])
      have HCALL : Hid (Calls Tryd.prog 26 #[.slice (some ⟨w.heap.size, 0, none⟩) k k, .string ⟨#[32]⟩] wr fun e w' => e = .returned (.string ⟨(textP L).toArray⟩) ∧ Below wr.heap.size wr w') := Lib.hid (by
        have h := Tryd.strings_Join w.heap.size 0 k xs ⟨#[32]⟩ wr HC.out HG.out.lt (by rw [HXL.out]; omega) (by rw [HXL.out]; exact Nat.le_refl _) (by rw [HJ.out]; have := HLEN.out; omega)
        rw [HXL.out, HJ.out] at h
        exact h)
      go_wp2_with fail
      refine HCALL.out.mono ?_
      rintro e w9 ⟨rfl, hb9⟩
      have HB9 : Hid (Below w.heap.size w w9) := Lib.hid (HB.out.trans (hb9.mono HB.out.size))
      clear hb9
      go_wp2
      go_ret
      exact ⟨rfl, HB9.out⟩
end Go.Proofs.YtcielemahmpppaaDoor.lx
