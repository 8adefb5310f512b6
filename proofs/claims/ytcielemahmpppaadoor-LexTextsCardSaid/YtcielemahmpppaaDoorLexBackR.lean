/- The law's back and own: tokens of one kind out of those of the other one. -/
import Derived.Test.YtcielemahmpppaaDoorLexTks
import Derived.Test.YtcielemahmpppaaDoorLexScanP
import Derived.Test.YtcielemahmpppaaDoorStructRows
namespace Go.Proofs.YtcielemahmpppaaDoor.lx
open Go.ChangeShapes Go.WideShapes Go.ChangeAt Go.RowKit Go.Deep Go.Proofs.YtcielemahmpppaaDoor.sr

instance : Inhabited Tok := ⟨⟨0, 0, 0, ⟨#[]⟩⟩⟩
theorem cellT_len (t : Tok) : (cellT t).length = 4 := rfl
theorem cellT_one (t : Tok) : ∀ u ∈ cellT t, u.oneCell' = true := by
  intro u hu
  simp only [cellT, List.mem_cons, List.not_mem_nil, or_false] at hu
  rcases hu with rfl | rfl | rfl | rfl <;> simp [Value.oneCell']
/-- A slice of tokens reads as these. -/
abbrev TR (w : World) (A : Option Addr) (L : List Tok) : Prop := RS cellT 4 w A L
/-- A row of the document's tokens, the call's own. -/
abbrev OTr (base : Nat) (w : World) (v : Value) (L : List Tok) : Prop := OR cellT 4 base 34 w v L
abbrev OTp (base : Nat) (w : World) (v : Value) (L : List Tok) : Prop := OR cellT 4 base 39 w v L
theorem OT.p {base : Nat} {w : World} {v : Value} {L : List Tok} (h : OT base w v L) : OTp base w v L := h
theorem infoR : (Tryd.prog.info? 34).map (fun i => (i.zero, i.size, i.bytes)) = some (some (.agg #[.int .i64 0, .int .i64 0, .int .i64 0, .string ⟨#[]⟩]), 4, 40) := by kernel_rfl
theorem infoP : (Tryd.prog.info? 39).map (fun i => (i.zero, i.size, i.bytes)) = some (some (.agg #[.int .i64 0, .int .i64 0, .int .i64 0, .string ⟨#[]⟩]), 4, 40) := by kernel_rfl
theorem take_more {L : List Tok} {k : Nat} (h : k < L.length) : L.take k ++ [L.getD k default] = L.take (k + 1) := by
  rw [List.take_add_one]
  simp [List.getD, h]
set_option maxRecDepth 100000 in
set_option maxHeartbeats 4000000 in
theorem back_any (L : List Tok) (A : Option Addr) (n c : Nat) (w : World) (hn : n = L.length) (hz : n ≤ 6000) (hr : TR w A L) :
    Calls Tryd.prog 13 #[.slice A n c] w fun e w' => ∃ v, e = .returned v ∧ OTr w.heap.size w' v L ∧ Below w.heap.size w w' := by
  have HR := Lib.hid hr
  have HN := Lib.hid hn
  clear hr hn
  go_enter Tryd.func13, Tryd.ntmps13
  go_wp2
  go_loopw [3, 4] (fun ov iv wr => ∃ k : Nat, k ≤ n ∧ iv = .int .i64 k ∧ Hid (OTr w.heap.size wr ov (L.take k)) ∧ Hid (Below w.heap.size w wr)) (fun _ iv _ => n - (intOf iv).toNat)
  case atStart => exact ⟨0, Nat.zero_le _, rfl, Lib.hid (by rw [List.take_zero]; exact World.ownsRow_nil _ _ _ _), Lib.hid (Below.refl _ _)⟩
  case round =>
    obtain ⟨k, hk, rfl, HO, HB⟩ := hrel
    by_cases hlt : k < n
    · obtain ⟨b, o, rfl, hb, hc⟩ := HR.out (by rw [← HN.out]; omega)
      have q0 := hc k (by rw [← HN.out]; exact hlt) 0 (by decide)
      have q1 := hc k (by rw [← HN.out]; exact hlt) 1 (by decide)
      have q2 := hc k (by rw [← HN.out]; exact hlt) 2 (by decide)
      have q3 := hc k (by rw [← HN.out]; exact hlt) 3 (by decide)
      have HT := Lib.hid (take_more (L := L) (k := k) (by rw [← HN.out]; exact hlt))
      obtain ⟨t, HTT⟩ : ∃ t, Hid (L.getD k default = t) := ⟨_, Lib.hid rfl⟩
      rw [HTT.out] at q0 q1 q2 q3 HT
      obtain ⟨t0, t1, t2, t3⟩ := t
      simp only [cellT, List.getElem?_cons_zero, List.getElem?_cons_succ, Nat.add_zero] at q0 q1 q2 q3
      have HQ : Hid (∀ W, Below w.heap.size w W → W.cell? ⟨b, o + k * 4, none⟩ = some (.int .i64 t0) ∧ W.cell? ⟨b, o + k * 4 + 1, none⟩ = some (.int .i64 t1) ∧ W.cell? ⟨b, o + k * 4 + 2, none⟩ = some (.int .i64 t2) ∧ W.cell? ⟨b, o + k * 4 + 3, none⟩ = some (.string t3)) := Lib.hid (fun W hW => ⟨(hW.cell (p := ⟨b, o + k * 4, none⟩) hb).trans q0, (hW.cell (p := ⟨b, o + k * 4 + 1, none⟩) hb).trans q1, (hW.cell (p := ⟨b, o + k * 4 + 2, none⟩) hb).trans q2, (hW.cell (p := ⟨b, o + k * 4 + 3, none⟩) hb).trans q3⟩)
      obtain ⟨g0, g1, g2, g3⟩ := HQ.out _ HB.out
      clear hc q0 q1 q2 q3
      have HS : Hid (w.heap.size ≤ wr.heap.size) := Lib.hid HB.out.size
      go_upto_region 5 with (fail)
      go_region_held3 (fun w' => w'.cell? ⟨b, o + k * 4, none⟩ = some (.int .i64 t0) ∧ w'.cell? ⟨b, o + k * 4 + 1, none⟩ = some (.int .i64 t1) ∧ w'.cell? ⟨b, o + k * 4 + 2, none⟩ = some (.int .i64 t2) ∧ w'.cell? ⟨b, o + k * 4 + 3, none⟩ = some (.string t3))
        (first | exact ⟨g0, g1, g2, g3⟩ | exact ⟨k0, k1, k2, k3⟩ | go_keep)
        (first
          | (refine step_append_own cellT_len cellT_one Tryd.underlying27 infoR rfl (by decide) (by decide) w.heap.size _ (by rfl) (.tmp 11) (.tmp 33) (by rfl) (by rfl) _ (L.take k) (by rfl) (by first | exact World.ownsRow.alloc HO.out _ | exact HO.out.below (by first | exact (below_alloc1 _ _).drew | exact (Below.refl _ _).drew.trans (below_alloc1 _ _))) (⟨t0, t1, t2, t3⟩ : Tok) _ (by rfl) (by rfl) (by rw [List.length_take]; omega) (by have := HS.out; first | omega | (simp; omega)) _ (by first | exact World.alloc_heap_new _ _) ?_; intro v5 w5 ho5 hb5 _; have HO5 := Lib.hid ho5; have HB5 : Hid (Below w.heap.size w w5) := Lib.hid (by first | exact (HB.out.alloc HS.out _).trans hb5 | exact (HB.out.drew.alloc HS.out _).trans hb5); obtain ⟨k0, k1, k2, k3⟩ := HQ.out _ HB5.out; clear ho5 hb5)
          | fail)
      all_goals
        go_wp2
        go_roundw
        case rel => exact ⟨k + 1, by omega, by go_num, Lib.hid (by rw [← HT.out]; exact HO5.out), HB5⟩
        case measure => simp [intOf]; omega
    · obtain rfl : k = n := by omega
      have HF : Hid (OTr w.heap.size wr _ L) := Lib.hid (by have := HO.out; rwa [List.take_of_length_le (by rw [HN.out]; exact Nat.le_refl _)] at this)
      go_wp2
      go_ret
      exact ⟨_, rfl, HF.out, HB.out⟩
set_option maxRecDepth 100000 in
set_option maxHeartbeats 4000000 in
theorem own_any (L : List Tok) (A : Option Addr) (n c : Nat) (w : World) (hn : n = L.length) (hz : n ≤ 6000) (hr : TR w A L) :
    Calls Tryd.prog 15 #[.slice A n c] w fun e w' => ∃ v, e = .returned v ∧ OTp w.heap.size w' v L ∧ Below w.heap.size w w' := by
  have HR := Lib.hid hr
  have HN := Lib.hid hn
  clear hr hn
  go_enter Tryd.func15, Tryd.ntmps15
  go_wp2
  go_loopw [3, 4] (fun ov iv wr => ∃ k : Nat, k ≤ n ∧ iv = .int .i64 k ∧ Hid (OTp w.heap.size wr ov (L.take k)) ∧ Hid (Below w.heap.size w wr)) (fun _ iv _ => n - (intOf iv).toNat)
  case atStart => exact ⟨0, Nat.zero_le _, rfl, Lib.hid (by rw [List.take_zero]; exact World.ownsRow_nil _ _ _ _), Lib.hid (Below.refl _ _)⟩
  case round =>
    obtain ⟨k, hk, rfl, HO, HB⟩ := hrel
    by_cases hlt : k < n
    · obtain ⟨b, o, rfl, hb, hc⟩ := HR.out (by rw [← HN.out]; omega)
      have q0 := hc k (by rw [← HN.out]; exact hlt) 0 (by decide)
      have q1 := hc k (by rw [← HN.out]; exact hlt) 1 (by decide)
      have q2 := hc k (by rw [← HN.out]; exact hlt) 2 (by decide)
      have q3 := hc k (by rw [← HN.out]; exact hlt) 3 (by decide)
      have HT := Lib.hid (take_more (L := L) (k := k) (by rw [← HN.out]; exact hlt))
      obtain ⟨t, HTT⟩ : ∃ t, Hid (L.getD k default = t) := ⟨_, Lib.hid rfl⟩
      rw [HTT.out] at q0 q1 q2 q3 HT
      obtain ⟨t0, t1, t2, t3⟩ := t
      simp only [cellT, List.getElem?_cons_zero, List.getElem?_cons_succ, Nat.add_zero] at q0 q1 q2 q3
      have HQ : Hid (∀ W, Below w.heap.size w W → W.cell? ⟨b, o + k * 4, none⟩ = some (.int .i64 t0) ∧ W.cell? ⟨b, o + k * 4 + 1, none⟩ = some (.int .i64 t1) ∧ W.cell? ⟨b, o + k * 4 + 2, none⟩ = some (.int .i64 t2) ∧ W.cell? ⟨b, o + k * 4 + 3, none⟩ = some (.string t3)) := Lib.hid (fun W hW => ⟨(hW.cell (p := ⟨b, o + k * 4, none⟩) hb).trans q0, (hW.cell (p := ⟨b, o + k * 4 + 1, none⟩) hb).trans q1, (hW.cell (p := ⟨b, o + k * 4 + 2, none⟩) hb).trans q2, (hW.cell (p := ⟨b, o + k * 4 + 3, none⟩) hb).trans q3⟩)
      obtain ⟨g0, g1, g2, g3⟩ := HQ.out _ HB.out
      clear hc q0 q1 q2 q3
      have HS : Hid (w.heap.size ≤ wr.heap.size) := Lib.hid HB.out.size
      go_upto_region 5 with (fail)
      go_region_held3 (fun w' => w'.cell? ⟨b, o + k * 4, none⟩ = some (.int .i64 t0) ∧ w'.cell? ⟨b, o + k * 4 + 1, none⟩ = some (.int .i64 t1) ∧ w'.cell? ⟨b, o + k * 4 + 2, none⟩ = some (.int .i64 t2) ∧ w'.cell? ⟨b, o + k * 4 + 3, none⟩ = some (.string t3))
        (first | exact ⟨g0, g1, g2, g3⟩ | exact ⟨k0, k1, k2, k3⟩ | go_keep)
        (first
          | (refine step_append_own cellT_len cellT_one Tryd.underlying23 infoP rfl (by decide) (by decide) w.heap.size _ (by rfl) (.tmp 11) (.tmp 33) (by rfl) (by rfl) _ (L.take k) (by rfl) (by first | exact World.ownsRow.alloc HO.out _ | exact HO.out.below (by first | exact (below_alloc1 _ _).drew | exact (Below.refl _ _).drew.trans (below_alloc1 _ _))) (⟨t0, t1, t2, t3⟩ : Tok) _ (by rfl) (by rfl) (by rw [List.length_take]; omega) (by have := HS.out; first | omega | (simp; omega)) _ (by first | exact World.alloc_heap_new _ _) ?_; intro v5 w5 ho5 hb5 _; have HO5 := Lib.hid ho5; have HB5 : Hid (Below w.heap.size w w5) := Lib.hid (by first | exact (HB.out.alloc HS.out _).trans hb5 | exact (HB.out.drew.alloc HS.out _).trans hb5); obtain ⟨k0, k1, k2, k3⟩ := HQ.out _ HB5.out; clear ho5 hb5)
          | fail)
      all_goals
        go_wp2
        go_roundw
        case rel => exact ⟨k + 1, by omega, by go_num, Lib.hid (by rw [← HT.out]; exact HO5.out), HB5⟩
        case measure => simp [intOf]; omega
    · obtain rfl : k = n := by omega
      have HF : Hid (OTp w.heap.size wr _ L) := Lib.hid (by have := HO.out; rwa [List.take_of_length_le (by rw [HN.out]; exact Nat.le_refl _)] at this)
      go_wp2
      go_ret
      exact ⟨_, rfl, HF.out, HB.out⟩
end Go.Proofs.YtcielemahmpppaaDoor.lx
