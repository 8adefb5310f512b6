/- The library's Compact at nodes. -/
import Derived.Test.YtgbnafakaaooiaaUsesCmp
import Derived.Test.YtgbnafakaaooiaaStructRows
import Derived.Lib.SliceRun
namespace Go.Proofs.Ytgbnafakaaooiaa.us
open Go.ChangeShapes Go.WideShapes Go.ChangeAt Go.RowKit Go.Sort Go.Lib Go.Proofs.Ytgbnafakaaooiaa.sr

/-- Nodes lie in a block from its beginning on. -/
structure NR (w : World) (g : Nat) (d : Array (Int × Int)) : Prop where
  c0 : ∀ i, i < d.size → w.cell? ⟨g, i * 2, none⟩ = some (.int .i64 d[i]!.1)
  c1 : ∀ i, i < d.size → w.cell? ⟨g, i * 2 + 1, none⟩ = some (.int .i64 d[i]!.2)
  fz : ∀ o, o < d.size * 2 → w.frozen? ⟨g, o, none⟩ = false
  lt : g < w.heap.size
theorem NR.of_holds {w : World} {g : Nat} {d : Array (Int × Int)} (h : HoldsK encN 2 w g 0 d) (hg : g < w.heap.size) : NR w g d := by
  have hz : (flatK encN 2 d).size = d.size * 2 := size_flatK _ _ _
  have key : ∀ t, t < d.size * 2 → w.cell? ⟨g, t, none⟩ = some ((encN d[t / 2]!)[t % 2]!) ∧ w.frozen? ⟨g, t, none⟩ = false := fun t ht => by
    have := h t (by rw [hz]; exact ht)
    rw [Nat.zero_add, get_flatK encN 2 d t ht] at this
    exact this
  refine ⟨fun i hi => ?_, fun i hi => ?_, fun o ho => (key o ho).2, hg⟩
  · have := (key (i * 2) (by omega)).1
    rw [show i * 2 / 2 = i by omega, show i * 2 % 2 = 0 by omega] at this
    exact this
  · have := (key (i * 2 + 1) (by omega)).1
    rw [show (i * 2 + 1) / 2 = i by omega, show (i * 2 + 1) % 2 = 1 by omega] at this
    exact this
theorem NR.drewN {w : World} {g : Nat} {d : Array (Int × Int)} (h : NR w g d) (j : Nat) : NR (w.drewN j) g d := ⟨h.c0, h.c1, h.fz, h.lt⟩
theorem NR.set {w : World} {g : Nat} {dk : Array (Int × Int)} {kk : Nat} (h : NR w g dk) (hk : kk < dk.size) (u : Int × Int) :
    NR ((w.setCell ⟨g, kk * 2, none⟩ (.int .i64 u.1)).setCell ⟨g, kk * 2 + 1, none⟩ (.int .i64 u.2)) g (dk.setIfInBounds kk u) := by
  have hz : (dk.setIfInBounds kk u).size = dk.size := by simp
  refine ⟨fun i hi => ?_, fun i hi => ?_, fun o ho => ?_, ?_⟩
  · rw [hz] at hi
    rw [World.cell?_setCell_other _ _ _ _ (by intro e; injection e with _ e; omega)]
    by_cases e : i = kk
    · subst e
      rw [getElem!_set_same dk i u hi]
      exact World.cell?_setCell_same' _ _ _ (by rw [h.c0 i hi]; rfl)
    · rw [getElem!_set_other dk kk i u e, World.cell?_setCell_other _ _ _ _ (by intro e2; injection e2 with _ e2; omega)]
      exact h.c0 i hi
  · rw [hz] at hi
    by_cases e : i = kk
    · subst e
      rw [getElem!_set_same dk i u hi]
      exact World.cell?_setCell_same' _ _ _ (by rw [World.cell?_setCell_other _ _ _ _ (by intro e2; injection e2 with _ e2; omega), h.c1 i hi]; rfl)
    · rw [getElem!_set_other dk kk i u e, World.cell?_setCell_other _ _ _ _ (by intro e2; injection e2 with _ e2; omega), World.cell?_setCell_other _ _ _ _ (by intro e2; injection e2 with _ e2; omega)]
      exact h.c1 i hi
  · rw [hz] at ho
    rw [World.frozen?_setCell, World.frozen?_setCell]
    exact h.fz o ho
  · rw [World.size_setCell, World.size_setCell]; exact h.lt
theorem setCells_low (g : Nat) : ∀ (vs : List Value) (o p : Nat) (w : World), p < o → (w.setCells g o vs).cell? ⟨g, p, none⟩ = w.cell? ⟨g, p, none⟩
  | [], _, _, _, _ => rfl
  | v :: r, o, p, w, h => by
    show ((w.setCell ⟨g, o, none⟩ v).setCells g (o + 1) r).cell? ⟨g, p, none⟩ = _
    rw [setCells_low g r (o + 1) p _ (by omega)]
    exact World.cell?_setCell_other _ _ _ _ (by intro e; injection e with _ e; omega)
theorem setCells_turn (g : Nat) : ∀ (vs : List Value) (o : Nat) (w : World), Turn (fun b => b = g) w (w.setCells g o vs)
  | [], _, _ => Turn.refl _ _
  | v :: r, o, w => ((Turn.refl (fun b => b = g) w).set ⟨g, o, none⟩ v rfl).trans (setCells_turn g r (o + 1) _)
set_option maxRecDepth 100000 in
/-- clear at nodes. -/
theorem run_clear2 (w : World) (ty : TypeId) (b o n c : Nat) (hn : 0 < n) (hc : ∀ j, j < n * 2 → (w.cell? ⟨b, o + j, none⟩).isSome = true) (hf : ∀ j, j < n * 2 → w.frozen? ⟨b, o + j, none⟩ = false) :
    (Builtin.clear_ #[22] ty #[.slice (some ⟨b, o, none⟩) n c]).run Try.prog w = .ok (.tuple #[]) (w.setCells b o (List.replicate (n * 2) (.int .i64 0))) := by
  have hv : ∀ w : World, (zeroValue 28).run Try.prog w = .ok (.agg #[.int .i64 0, .int .i64 0]) w := Try.zeroValue28
  have hzc : (Builtin.zeroCells (Value.agg #[.int .i64 0, .int .i64 0]).cells n).toList = List.replicate (n * 2) (.int .i64 0) := by
    show (Builtin.zeroCells #[.int .i64 0, .int .i64 0] n).toList = _
    simp only [Builtin.zeroCells]
    apply List.ext_getElem
    · simp [Nat.mul_comm]
    · intro i h1 h2
      have : i % 2 = 0 ∨ i % 2 = 1 := by omega
      rcases this with h | h <;> simp [h]
  have hst := run_storeCells_cells (P := Try.prog) b o (List.replicate (n * 2) (.int .i64 0)) 0 w (by simpa using hc) (by simpa using hf) (by intro v hv'; rw [List.eq_of_mem_replicate hv']; rfl)
  simp only [Nat.add_zero] at hst
  obtain ⟨m, rfl⟩ : ∃ m, n = m + 1 := ⟨n - 1, by omega⟩
  simp [Builtin.clear_, run_underlying Try.underlying22, hv, hzc, hst]
/-- What Compact leaves. -/
def CompP (w : World) (g cap : Nat) (d : Array (Int × Int)) (e : Ending) (w' : World) : Prop :=
  e = .returned (.slice (some ⟨g, 0, none⟩) (compactUpTo d d.size).length cap) ∧ RS encN 2 w' (some ⟨g, 0, none⟩) (compactUpTo d d.size) ∧ Turn (fun b => b = g) w w'
theorem NR.rs {w : World} {g : Nat} {d : Array (Int × Int)} {L : List (Int × Int)} (h : NR w g d) (hl : L.length ≤ d.size) (he : ∀ j, j < L.length → L[j]? = some d[j]!) : RS encN 2 w (some ⟨g, 0, none⟩) L := fun _ => by
  refine ⟨g, 0, rfl, h.lt, fun i hi j hj => ?_⟩
  have e : L.getD i default = d[i]! := by simp [List.getD, he i hi]
  rw [e, Nat.zero_add]
  obtain rfl | rfl : j = 0 ∨ j = 1 := by omega
  · exact h.c0 i (by omega)
  · exact h.c1 i (by omega)
set_option maxRecDepth 100000 in
set_option maxHeartbeats 8000000 in
theorem compact_any (g cap : Nat) (d : Array (Int × Int)) (w : World) (hN : NR w g d) (hsz : d.size ≤ 1000000) (hcap : d.size ≤ cap) :
    Calls Try.prog 14 #[.slice (some ⟨g, 0, none⟩) d.size cap] w (CompP w g cap d) := by
  obtain ⟨n, HNN⟩ : ∃ n, Hid (d.size = n) := ⟨_, Lib.hid rfl⟩
  have HN := Lib.hid hN
  have HALL : Hid ((∀ j, j < n → keeps d j = true) → ∀ W, NR W g d → Turn (fun b => b = g) w W → CompP w g cap d (.returned (.slice (some ⟨g, 0, none⟩) n cap)) W) := Lib.hid (fun hall W hW hT => by
    have e : compactUpTo d d.size = d.toList := by rw [compactUpTo_all d _ (fun j hj => hall j (by rw [← HNN.out]; exact hj)), range_map_get]
    refine ⟨by rw [e, Array.length_toList, HNN.out], ?_, hT⟩
    rw [e]
    refine hW.rs (by simp) (fun j hj => ?_)
    have hj : j < d.size := by simpa using hj
    rw [Array.getElem?_toList, Array.getElem?_eq_getElem hj, getElem!_pos d j hj])
  rw [HNN.out] at hsz hcap ⊢
  clear hN
  by_cases h2 : n < 2
  · have h2' : (n : Int) < 2 := by omega
    have HK : Hid (∀ j, j < n → keeps d j = true) := Lib.hid (fun j hj => keeps_lt_one d j (by omega))
    go_enter Try.func14, Try.ntmps14
    go_wp2
    go_ret
    exact HALL.out HK.out _ HN.out (Turn.refl _ _)
  · have h2' : ¬ (n : Int) < 2 := by omega
    go_enter Try.func14, Try.ntmps14
    go_wp2
    go_loopw [3] (fun s3 wr => ∃ k q : Nat, 1 ≤ k ∧ k ≤ n ∧ s3 = .int .i64 k ∧ wr = w.drewN q ∧ Hid (∀ j, j < k → keeps d j = true)) (fun s3 _ => n - (intOf s3).toNat)
    case atStart => exact ⟨1, 0, Nat.le_refl _, by omega, rfl, rfl, Lib.hid (keeps_lt_one d)⟩
    case round =>
      obtain ⟨k, q, hk1, hk, rfl, rfl, HA⟩ := hrel
      by_cases hlt : k < n
      · have hlt' : (k : Int) < (n : Int) := by omega
        have hkd : k < d.size := by rw [HNN.out]; exact hlt
        obtain ⟨K, HK⟩ : ∃ K, Hid (k - 1 = K) := ⟨_, Lib.hid rfl⟩
        have hKd : K < d.size := by have := HK.out; omega
        have c0 := HN.out.c0 k hkd
        have c1 := HN.out.c1 k hkd
        have p0 := HN.out.c0 K hKd
        have p1 := HN.out.c1 K hKd
        have hKn : K < n := by have := HK.out; omega
        have hKn' : (K : Int) < (n : Int) := by omega
        have hsub : IntKind.i64.wrap ((k : Int) - 1) = (K : Int) := by rw [← HK.out]; exact (IntWalk.i64_in _ (by omega)).trans (by omega)
        have HX : Hid (d[k]! = d[K]! → keeps d k = false) := Lib.hid (fun h => keeps_neg (by omega) (by rw [HK.out]; exact h))
        have HY : Hid (d[k]! ≠ d[K]! → keeps d k = true) := Lib.hid (fun h => keeps_pos (by rw [HK.out]; exact h))
        generalize d[k]! = x at c0 c1 HX HY
        generalize d[K]! = y at p0 p1 HX HY
        obtain ⟨x1, x2⟩ := x
        obtain ⟨y1, y2⟩ := y
        simp only at c0 c1 p0 p1
        clear hkd hKd
        by_cases hdup : x1 = y1 ∧ x2 = y2
        · obtain ⟨rfl, rfl⟩ := hdup
          have HNK := Lib.hid (HX.out rfl)
          clear HX HY
          obtain ⟨M, HM⟩ : ∃ M, Hid (n - k = M) := ⟨_, Lib.hid rfl⟩
          have hMn : k + M = n := by have := HM.out; omega
          go_wp2
          go_quiet (fail)
          go_wp2
          clear c0 c1 p0 p1
          rw [HM.out]
          go_loopw [3, 5] (fun s3 s5 wr => ∃ (kk k2 : Nat) (dk : Array (Int × Int)), s3 = .int .i64 kk ∧ s5 = .int .i64 k2 ∧ 1 ≤ k2 ∧ k + k2 ≤ n ∧ Hid (NR wr g dk) ∧ Hid (Turn (fun b => b = g) w wr) ∧ Hid (CompInv d (k + k2) kk dk)) (fun _ s5 _ => n - (intOf s5).toNat)
          case atStart => exact ⟨k, 1, d, rfl, rfl, Nat.le_refl _, by omega, Lib.hid (HN.out.drewN _), Lib.hid ((Turn.refl _ w).drewN _), Lib.hid (CompInv.start HA.out HNK.out)⟩
          case round =>
            obtain ⟨kk, k2, dk, rfl, rfl, h21, hle, HR, HT, HI⟩ := hrel
            have hds : dk.size = n := by rw [HI.out.size]; exact HNN.out
            have hkk : kk < k + k2 := HI.out.lt
            have HDS := Lib.hid hds
            have hkkn : kk < n ∨ k + k2 = n := by omega
            by_cases hlt2 : k2 < M
            · have hlt2' : (k2 : Int) < (M : Int) := by omega
              have hkkn : kk < n := by omega
              have hkkn' : (kk : Int) < (n : Int) := by omega
              obtain ⟨K2, HK2⟩ : ∃ K2, Hid (k2 - 1 = K2) := ⟨_, Lib.hid rfl⟩
              have hK2M : K2 < M := by have := HK2.out; omega
              have hK2M' : (K2 : Int) < (M : Int) := by omega
              have hsub2 : IntKind.i64.wrap ((k2 : Int) - 1) = (K2 : Int) := by rw [← HK2.out]; exact (IntWalk.i64_in _ (by omega)).trans (by omega)
              have c0 := HR.out.c0 (k + k2) (by omega)
              have c1 := HR.out.c1 (k + k2) (by omega)
              have p0 := HR.out.c0 (k + K2) (by omega)
              have p1 := HR.out.c1 (k + K2) (by omega)
              have e1 := HI.out.high (k + k2) (by omega)
              have e2 := HI.out.high (k + K2) (by have := HK2.out; omega)
              rw [e1, show (k + k2) * 2 = k * 2 + k2 * 2 by omega] at c0 c1
              rw [e2, show (k + K2) * 2 = k * 2 + K2 * 2 by omega] at p0 p1
              have s0 : ∃ u, wr.cell? ⟨g, kk * 2, none⟩ = some u := ⟨_, HR.out.c0 kk (by omega)⟩
              have s1 : ∃ u, wr.cell? ⟨g, kk * 2 + 1, none⟩ = some u := ⟨_, HR.out.c1 kk (by omega)⟩
              have f0 := HR.out.fz (kk * 2) (by omega)
              have f1 := HR.out.fz (kk * 2 + 1) (by omega)
              have HX2 : Hid (d[k + k2]! = d[k + K2]! → keeps d (k + k2) = false) := Lib.hid (fun h => keeps_neg (by omega) (by rw [show k + k2 - 1 = k + K2 by have := HK2.out; omega]; exact h))
              have HY2 : Hid (d[k + k2]! ≠ d[k + K2]! → keeps d (k + k2) = true) := Lib.hid (fun h => keeps_pos (by rw [show k + k2 - 1 = k + K2 by have := HK2.out; omega]; exact h))
              have HKP : Hid (keeps d (k + k2) = true → CompInv d (k + k2 + 1) (kk + 1) (dk.setIfInBounds kk d[k + k2]!)) := Lib.hid (fun h => HI.out.keep (by rw [HNN.out]; omega) h)
              clear e1 e2
              generalize d[k + k2]! = x at c0 c1 HX2 HY2 HKP
              generalize d[k + K2]! = y at p0 p1 HX2 HY2
              obtain ⟨u1, u2⟩ := x
              obtain ⟨y1, y2⟩ := y
              simp only at c0 c1 p0 p1
              obtain ⟨v0, s0⟩ := s0
              obtain ⟨v1, s1⟩ := s1
              by_cases hd2 : u1 = y1 ∧ u2 = y2
              · obtain ⟨rfl, rfl⟩ := hd2
                have HIN : Hid (CompInv d (k + (k2 + 1)) kk dk) := Lib.hid (HI.out.skip (HX2.out rfl))
                have HRN : Hid (∀ j, NR (wr.drewN j) g dk) := Lib.hid (fun j => HR.out.drewN j)
                have HTN : Hid (∀ j, Turn (fun b => b = g) w (wr.drewN j)) := Lib.hid (fun j => HT.out.drewN j)
                clear HX2 HY2 HKP s0 s1 f0 f1
                go_wp2
                go_quiet (fail)
                go_wp2
                go_roundw
                case rel => exact ⟨kk, k2 + 1, dk, rfl, by go_num, by omega, by omega, Lib.hid (HRN.out _), Lib.hid (HTN.out _), HIN⟩
                case measure => simp [intOf]; omega
              · have HIN : Hid (CompInv d (k + (k2 + 1)) (kk + 1) (dk.setIfInBounds kk (u1, u2))) := Lib.hid (HKP.out (HY2.out (fun e => hd2 (by injection e with e1 e2; exact ⟨e1, e2⟩))))
                have HRN : Hid (∀ j, NR (((wr.drewN j).setCell ⟨g, kk * 2, none⟩ (.int .i64 u1)).setCell ⟨g, kk * 2 + 1, none⟩ (.int .i64 u2)) g (dk.setIfInBounds kk (u1, u2))) := Lib.hid (fun j => (HR.out.drewN j).set (by omega) (u1, u2))
                have HTN : Hid (∀ j, Turn (fun b => b = g) w (((wr.drewN j).setCell ⟨g, kk * 2, none⟩ (.int .i64 u1)).setCell ⟨g, kk * 2 + 1, none⟩ (.int .i64 u2))) := Lib.hid (fun j => ((HT.out.drewN j).set ⟨g, kk * 2, none⟩ _ rfl).set ⟨g, kk * 2 + 1, none⟩ _ rfl)
                clear HX2 HY2 HKP
                have hne : (u1 == y1 && u2 == y2) = false := by
                  cases hc : (u1 == y1 && u2 == y2) with
                  | false => rfl
                  | true => rw [Bool.and_eq_true, beq_iff_eq, beq_iff_eq] at hc; exact absurd hc hd2
                by_cases hu : u1 = y1
                · subst hu
                  have hu2 : (u2 == y2) = false := by rw [beq_eq_false_iff_ne]; exact fun e => hd2 ⟨rfl, e⟩
                  go_wp2
                  go_quiet (fail)
                  go_wp2
                  go_roundw
                  case rel => exact ⟨kk + 1, k2 + 1, _, by go_num, by go_num, by omega, by omega, Lib.hid (HRN.out _), Lib.hid (HTN.out _), HIN⟩
                  case measure => simp [intOf]; omega
                · have hu1 : (u1 == y1) = false := by rw [beq_eq_false_iff_ne]; exact hu
                  go_wp2
                  go_quiet (fail)
                  go_wp2
                  go_roundw
                  case rel => exact ⟨kk + 1, k2 + 1, _, by go_num, by go_num, by omega, by omega, Lib.hid (HRN.out _), Lib.hid (HTN.out _), HIN⟩
                  case measure => simp [intOf]; omega
            · obtain rfl : k2 = M := by omega
              have hkkn : kk < n := by omega
              have hkkn2 : kk ≤ n := by omega
              have hcl : ∀ ty, (Builtin.clear_ #[22] ty #[.slice (some ⟨g, kk * 2, none⟩) (n - kk) (cap - kk)]).run Try.prog wr = .ok (.tuple #[]) (wr.setCells g (kk * 2) (List.replicate ((n - kk) * 2) (.int .i64 0))) := fun ty =>
                run_clear2 wr ty g (kk * 2) (n - kk) (cap - kk) (by omega) (fun j hj => by
                  rcases Nat.mod_two_eq_zero_or_one (kk * 2 + j) with h | h
                  · rw [show kk * 2 + j = ((kk * 2 + j) / 2) * 2 by omega, HR.out.c0 _ (by omega)]; rfl
                  · rw [show kk * 2 + j = ((kk * 2 + j) / 2) * 2 + 1 by omega, HR.out.c1 _ (by omega)]; rfl) (fun j hj => HR.out.fz _ (by omega))
              have HFIN : Hid (CompP w g cap d (.returned (.slice (some ⟨g, 0, none⟩) kk cap)) (wr.setCells g (kk * 2) (List.replicate ((n - kk) * 2) (.int .i64 0)))) := Lib.hid (by
                have hI := HI.out
                rw [hMn, ← HNN.out] at hI
                refine ⟨by rw [hI.len], fun _ => ⟨g, 0, rfl, Nat.lt_of_lt_of_le HR.out.lt (setCells_turn g _ _ wr).size, fun i hi j hj => ?_⟩, HT.out.trans (setCells_turn g _ _ wr)⟩
                rw [hI.len] at hi
                rw [Nat.zero_add, setCells_low g _ _ _ _ (by omega), show (compactUpTo d d.size).getD i default = dk[i]! by simp [List.getD, hI.low i hi]]
                obtain rfl | rfl : j = 0 ∨ j = 1 := by omega
                · exact HR.out.c0 i (by omega)
                · exact HR.out.c1 i (by omega))
              generalize wr.setCells g (kk * 2) (List.replicate ((n - kk) * 2) (.int .i64 0)) = wz at hcl HFIN
              go_wp2
              go_ret
              exact HFIN.out
        · have HNK := Lib.hid (HY.out (fun e => hdup (by injection e with e1 e2; exact ⟨e1, e2⟩)))
          clear HX HY
          by_cases hu : x1 = y1
          · subst hu
            have hu2 : (x2 == y2) = false := by rw [beq_eq_false_iff_ne]; exact fun e => hdup ⟨rfl, e⟩
            go_wp2
            go_quiet (fail)
            go_wp2
            go_roundw
            case rel =>
              refine ⟨k + 1, _, by omega, by omega, by go_num, rfl, Lib.hid (fun j hj => ?_)⟩
              by_cases e : j = k
              · subst e; exact HNK.out
              · exact HA.out j (by omega)
            case measure => simp [intOf]; omega
          · have hu1 : (x1 == y1) = false := by rw [beq_eq_false_iff_ne]; exact hu
            go_wp2
            go_quiet (fail)
            go_wp2
            go_roundw
            case rel =>
              refine ⟨k + 1, _, by omega, by omega, by go_num, rfl, Lib.hid (fun j hj => ?_)⟩
              by_cases e : j = k
              · subst e; exact HNK.out
              · exact HA.out j (by omega)
            case measure => simp [intOf]; omega
      · obtain rfl : k = n := by omega
        have HD : Hid (NR (w.drewN q) g d) := Lib.hid (HN.out.drewN q)
        have HT : Hid (Turn (fun b => b = g) w (w.drewN q)) := Lib.hid ((Turn.refl _ _).drewN q)
        go_wp2
        go_ret
        exact HALL.out HA.out _ HD.out HT.out
end Go.Proofs.Ytgbnafakaaooiaa.us
