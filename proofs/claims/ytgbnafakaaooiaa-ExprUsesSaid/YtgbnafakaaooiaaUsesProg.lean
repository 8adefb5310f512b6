/- The program's Uses. -/
import Derived.Test.YtgbnafakaaooiaaUsesCompact
namespace Go.Proofs.Ytgbnafakaaooiaa.us
open Go.ChangeShapes Go.WideShapes Go.ChangeAt Go.RowKit Go.Sort Go.Lib Go.Proofs.Ytgbnafakaaooiaa.sr

theorem infoN : (Try.prog.info? 28).map (fun i => (i.zero, i.size, i.bytes)) = some (some (.agg #[.int .i64 0, .int .i64 0]), 2, 16) := by kernel_rfl
/-- A row of nodes of the call's own. -/
abbrev ON (base : Nat) (w : World) (v : Value) (L : List (Int × Int)) : Prop := OR encN 2 base 28 w v L
theorem sortWorld_turn (w : World) (g m : Nat) (d : Array (Int × Int)) (os : Array Obj) : Turn (fun b => b = g) w (sortWorldK encN 2 w g 0 m d os) := by
  refine ⟨rfl, rfl, rfl, size_sortWorldK_c encN 2 w g 0 m d os, fun k hk hT => ?_⟩
  have hne : ¬ g = k := fun e => hT e.symm
  show ((w.heap.modify g (onCells (putCells id 0 (flatK encN 2 d)))) ++ os)[k]? = w.heap[k]?
  rw [Array.getElem?_append_left (by simpa using hk), Array.getElem?_modify, if_neg hne]
theorem holds_of_own {base : Nat} {w : World} {g n cap : Nat} {L : List (Int × Int)} (h : ON base w (.slice (some ⟨g, 0, none⟩) n cap) L) (h0 : 0 < L.length) : HoldsK encN 2 w g 0 L.toArray ∧ g < w.heap.size ∧ base ≤ g ∧ n = L.length ∧ n ≤ cap := by
  obtain ⟨A, c, e, hr⟩ := OR.rs encN_len h
  obtain ⟨b, off, eA, hb, hc⟩ := hr h0
  injection e with e1 e2 e3
  subst e2
  rw [← e1] at eA
  injection eA with eA
  injection eA with eA1 eA2
  subst eA1 eA2
  have hh : ∃ cur, base ≤ g ∧ w.heap[g]? = some (.cells cur 28 (0, 0)) ∧ L.length ≤ cap := by
    rcases h.2 with ⟨e, _⟩ | ⟨g', cap', cur, e, hg, hh, hcap, _, _, _⟩
    · cases e
    · injection e with q1 q2 q3
      injection q1 with q1
      injection q1 with q1
      subst q1 q3
      exact ⟨cur, hg, hh, hcap⟩
  obtain ⟨cur, hg, hh, hcap⟩ := hh
  refine ⟨fun t ht => ?_, hb, hg, rfl, hcap⟩
  rw [size_flatK] at ht
  have ht2 : t < L.length * 2 := by simpa using ht
  rw [get_flatK encN 2 L.toArray t ht]
  refine ⟨?_, by simp [World.frozen?, hh]⟩
  have := hc (t / 2) (by omega) (t % 2) (by omega)
  rw [show 0 + t / 2 * 2 + t % 2 = 0 + t by omega] at this
  rw [this]
  have e5 : L.toArray[t / 2]! = L.getD (t / 2) default := by
    rw [getElem!_pos L.toArray (t / 2) (by simp; omega)]
    simp [List.getD, show t / 2 < L.length by omega]
  rw [e5]
  show (encN _)[t % 2]? = some (id ((encN _)[t % 2]!))
  have : t % 2 = 0 ∨ t % 2 = 1 := by omega
  rcases this with h | h <;> rw [h] <;> rfl
theorem perm_mem {d d' : Array (Int × Int)} (h : PermIn 0 d.size d d') (x : Int × Int) : x ∈ d'.toList ↔ x ∈ d.toList := by
  obtain ⟨h1, _, h3⟩ := h
  have h4 := h3.mem_iff (a := x)
  have e1 : (d'.extract 0 d.size).toList = d'.toList := by rw [← h1]; simp
  have e2 : (d.extract 0 d.size).toList = d.toList := by simp
  rw [e1, e2] at h4
  exact h4
theorem compact_nil (A : Option Addr) (c : Nat) (w : World) : Calls Try.prog 14 #[.slice A 0 c] w fun e w' => e = .returned (.slice A 0 c) ∧ w' = w := by
  go_enter Try.func14, Try.ntmps14
  go_wp2
  go_ret
  exact ⟨rfl, rfl⟩
def progF (E : List (Int × Int)) : List (Int × Int) := E.filter fun x => isU x.1
theorem progF_snoc {E : List (Int × Int)} {k : Nat} (h : k < E.length) : progF (E.take (k + 1)) = if isU (E.getD k default).1 = true then progF (E.take k) ++ [E.getD k default] else progF (E.take k) := by
  unfold progF
  rw [List.take_add_one, List.filter_append]
  have : E[k]?.toList = [E.getD k default] := by simp [List.getD, h]
  rw [this]
  generalize E.getD k default = x
  by_cases hu : isU x.1 = true
  · rw [if_pos hu]; simp [hu]
  · rw [if_neg hu]; simp [hu]
theorem progF_len (E : List (Int × Int)) : (progF E).length ≤ E.length := List.length_filter_le _ _
/-- What Uses hands back. -/
def UsesP (w : World) (E : List (Int × Int)) (e : Ending) (w' : World) : Prop := ∃ A c, e = .returned (.slice A (docU E).length c) ∧ RS encN 2 w' A (docU E) ∧ Below w.heap.size w w'
set_option maxRecDepth 100000 in
set_option maxHeartbeats 8000000 in
theorem uses_any (E : List (Int × Int)) (A : Option Addr) (n c : Nat) (w : World) (hn : n = E.length) (hz : n ≤ 100000) (hr : RS encN 2 w A E) : Calls Try.prog 6 #[.slice A n c] w (UsesP w E) := by
  have HR := Lib.hid hr
  have HN := Lib.hid hn
  clear hr hn
  go_enter Try.func6, Try.ntmps6
  go_wp2
  go_loopw [3, 8] (fun ov iv wr => ∃ k : Nat, k ≤ n ∧ iv = .int .i64 k ∧ Hid (ON w.heap.size wr ov (progF (E.take k))) ∧ Hid (Below w.heap.size w wr)) (fun _ iv _ => n - (intOf iv).toNat)
  case atStart => exact ⟨0, Nat.zero_le _, rfl, Lib.hid (by rw [List.take_zero]; exact World.ownsRow_nil _ _ _ _), Lib.hid (Below.refl _ _)⟩
  case round =>
    obtain ⟨k, hk, rfl, HO, HB⟩ := hrel
    by_cases hlt : k < n
    · obtain ⟨b, o, rfl, hb, hc⟩ := HR.out (by rw [← HN.out]; omega)
      have hlL : k < E.length := by rw [← HN.out]; exact hlt
      have q0 := hc k hlL 0 (by decide)
      have q1 := hc k hlL 1 (by decide)
      have HSN := Lib.hid (progF_snoc hlL)
      obtain ⟨t, HTT⟩ : ∃ t, Hid (E.getD k default = t) := ⟨_, Lib.hid rfl⟩
      rw [HTT.out] at q0 q1 HSN
      obtain ⟨op, m⟩ := t
      simp only [encN, List.getElem?_cons_zero, List.getElem?_cons_succ, Nat.add_zero] at q0 q1
      have g0 := (HB.out.cell (p := ⟨b, o + k * 2, none⟩) hb).trans q0
      have g1 := (HB.out.cell (p := ⟨b, o + k * 2 + 1, none⟩) hb).trans q1
      have hi9 : (k : Int) < (n : Int) := by omega
      have HL1 : Hid ((progF (E.take k)).length ≤ 100000) := Lib.hid (by have := progF_len (E.take k); rw [List.length_take] at this; omega)
      clear hc q0 q1 hlL
      go_upto_region 5 with (fail)
      clear g0 g1
      obtain ⟨tb, HTB⟩ : ∃ tb, Hid (tb = wr.heap.size) := ⟨_, Lib.hid rfl⟩
      have HT0 : Hid ((wr.alloc (.cells #[.int .i64 op, .int .i64 m] 28)).cell? ⟨tb, 0, none⟩ = some (.int .i64 op) ∧ (wr.alloc (.cells #[.int .i64 op, .int .i64 m] 28)).cell? ⟨tb, 1, none⟩ = some (.int .i64 m)) := Lib.hid (by rw [HTB.out]; exact ⟨World.cell?_alloc_at _ _ _ _ (by simp), World.cell?_alloc_at _ _ _ _ (by simp)⟩)
      have HO5 : Hid (ON w.heap.size (wr.alloc (.cells #[.int .i64 op, .int .i64 m] 28)) _ (progF (E.take k))) := Lib.hid (World.ownsRow.alloc HO.out _)
      have HB5 : Hid (Below w.heap.size w (wr.alloc (.cells #[.int .i64 op, .int .i64 m] 28))) := Lib.hid (HB.out.alloc HB.out.size _)
      rw [← HTB.out]
      generalize wr.alloc (.cells #[.int .i64 op, .int .i64 m] 28) = w5 at HT0 HO5 HB5 ⊢
      obtain ⟨t0, t1⟩ := HT0.out
      by_cases hu : isU op = true
      · have HN2 : Hid (progF (E.take (k + 1)) = progF (E.take k) ++ [(op, m)]) := Lib.hid (by rw [HSN.out, if_pos hu])
        have hz5 : w.heap.size ≤ w5.heap.size := HB5.out.size
        have hcase : op = 2 ∨ op = 3 ∨ op = 4 ∨ op = 6 ∨ op = 7 := by unfold isU at hu; exact of_decide_eq_true hu
        clear hu HSN
        rcases hcase with rfl | rfl | rfl | rfl | rfl
        all_goals
          go_wp2_with (at_builtin; go_loud (refine list_append_own encN_len encN_one Try.underlying22 infoN rfl (by decide) (by decide) w.heap.size _ rfl (.tmp 20) (.tmp 22) rfl rfl _ (progF (E.take k)) rfl (World.ownsRow.alloc HO5.out _) (_, m) _ rfl rfl HL1.out (by first | omega | (simp; omega)) _ (World.alloc_heap_new _ _) ?_); intro v7 w7 ho7 hb7 _; have HO7 := Lib.hid ho7; have HB7 : Hid (Below w.heap.size w w7) := Lib.hid ((HB5.out.alloc HB5.out.size _).trans hb7); clear ho7 hb7)
          go_roundw
          case rel => exact ⟨k + 1, by omega, by go_num, Lib.hid (by rw [HN2.out]; exact HO7.out), HB7⟩
          case measure => simp [intOf]; omega
      · have HN2 : Hid (progF (E.take (k + 1)) = progF (E.take k)) := Lib.hid (by rw [HSN.out, if_neg hu])
        have hno : ¬ (op = 2 ∨ op = 3 ∨ op = 4 ∨ op = 6 ∨ op = 7) := fun h => hu (by unfold isU; exact decide_eq_true h)
        have h2 : (op == 2) = false := by rw [beq_eq_false_iff_ne]; omega
        have h3 : (op == 3) = false := by rw [beq_eq_false_iff_ne]; omega
        have h4 : (op == 4) = false := by rw [beq_eq_false_iff_ne]; omega
        have h6 : (op == 6) = false := by rw [beq_eq_false_iff_ne]; omega
        have h7 : (op == 7) = false := by rw [beq_eq_false_iff_ne]; omega
        clear hu hno HSN
        go_wp2
        go_roundw
        case rel => exact ⟨k + 1, by omega, by go_num, Lib.hid (by rw [HN2.out]; exact HO5.out), HB5⟩
        case measure => simp [intOf]; omega
    · obtain rfl : k = n := by omega
      have HF : Hid (ON w.heap.size wr _ (progF E)) := Lib.hid (by have := HO.out; rwa [List.take_of_length_le (by rw [HN.out]; exact Nat.le_refl _)] at this)
      have HL : Hid ((progF E).length ≤ 100000) := Lib.hid (by have := progF_len E; rw [← HN.out] at this; omega)
      have HMEM : Hid (∀ x, x ∈ progF E ↔ isU x.1 = true ∧ x ∈ E) := Lib.hid (fun x => by unfold progF; rw [List.mem_filter]; exact And.comm)
      clear HO
      by_cases h0 : (progF E).length = 0
      · have HD : Hid (docU E = []) := Lib.hid (List.eq_nil_iff_forall_not_mem.2 (fun x hx => by
          have := (HMEM.out x).2 (docU_mem.1 hx)
          rw [List.length_eq_zero_iff.1 h0] at this
          cases this))
        obtain ⟨A0, c0, e, _⟩ := OR.rs encN_len HF.out
        subst e
        rw [h0]
        go_wp2_with fail
        refine (sort_none A0 c0 _ _).mono ?_
        rintro e w2 ⟨rfl, rfl⟩
        go_wp2_with fail
        refine (compact_nil A0 c0 _).mono ?_
        rintro e w3 ⟨rfl, rfl⟩
        go_wp2
        go_ret
        exact ⟨A0, c0, by rw [HD.out]; rfl, by rw [HD.out]; exact fun h => absurd h (by simp), HB.out⟩
      · obtain ⟨A0, c0, e, hr0⟩ := OR.rs encN_len HF.out
        subst e
        obtain ⟨g, off, eA, _, _⟩ := hr0 (by omega)
        have hg0 : off = 0 := by
          rcases HF.out.2 with ⟨e, _⟩ | ⟨g', cap', cur, e, _⟩
          · injection e with e1; rw [eA] at e1; cases e1
          · injection e with e1; rw [eA] at e1; injection e1 with e1; injection e1
        subst eA hg0
        obtain ⟨hH, hglt, hbg, _, hcap⟩ := holds_of_own HF.out (by omega)
        obtain ⟨D, HDD⟩ : ∃ D, Hid ((progF E).toArray = D) := ⟨_, Lib.hid rfl⟩
        have hDs : D.size = (progF E).length := by rw [← HDD.out]; simp
        have HHH := Lib.hid hH
        rw [HDD.out] at HHH
        rw [← hDs] at hcap ⊢
        have hDz : D.size < 4611686018427387904 := by have := HL.out; omega
        have hDm : D.size ≤ 1000000 := by have := HL.out; omega
        have HMEM2 : Hid (∀ x, x ∈ D.toList ↔ isU x.1 = true ∧ x ∈ E) := Lib.hid (fun x => by rw [← HDD.out, List.toList_toArray]; exact HMEM.out x)
        clear hH hr0 hDs h0
        go_wp2_with fail
        refine (sort_any g c0 D _ HHH.out hglt hDz).mono ?_
        rintro e w2 ⟨rfl, d', m, os, hp, hs, rfl⟩
        have hds : d'.size = D.size := hp.1
        have HT2 := Lib.hid (sortWorld_turn wr g m d' os)
        have HN2 : Hid (NR (sortWorldK encN 2 wr g 0 m d' os) g d') := Lib.hid (NR.of_holds (holdsK_sortWorldK_c encN 2 wr g 0 D d' m os HHH.out hglt hds) (Nat.lt_of_lt_of_le hglt (size_sortWorldK_c encN 2 wr g 0 m d' os)))
        have HSAME : Hid (compactUpTo d' d'.size = docU E) := Lib.hid (uses_same (by rw [hds]; exact hs) (fun x => (perm_mem hp x).trans (HMEM2.out x)))
        generalize sortWorldK encN 2 wr g 0 m d' os = w2 at HT2 HN2 ⊢
        rw [← hds] at hcap hDm ⊢
        clear hp hs hDz hds
        go_wp2_with fail
        refine (compact_any g c0 d' w2 HN2.out hDm hcap).mono ?_
        rintro e w3 ⟨rfl, hr3, ht3⟩
        rw [HSAME.out] at hr3 ⊢
        have HR3 := Lib.hid hr3
        have HB3 : Hid (Below w.heap.size w w3) := Lib.hid (HB.out.trans ((HT2.out.trans ht3).below (fun k hk => by rw [hk]; exact hbg) HB.out.size))
        clear hr3 ht3
        go_wp2
        go_ret
        exact ⟨_, _, rfl, HR3.out, HB3.out⟩
end Go.Proofs.Ytgbnafakaaooiaa.us
