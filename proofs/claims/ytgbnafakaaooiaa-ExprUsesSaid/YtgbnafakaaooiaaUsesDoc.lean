/- The document's Uses, Same. -/
import Derived.Test.YtgbnafakaaooiaaUsesRef
import Derived.Lib.OwnKind
namespace Go.Proofs.Ytgbnafakaaooiaa.us
open Go.ChangeShapes Go.WideShapes Go.ChangeAt Go.RowKit Go.Sort Go.Lib Go.Proofs.Ytgbnafakaaooiaa.sr

def docPart (E : List (Int × Int)) (i : Nat) : List (Int × Int) := (opsL.take i).flatMap fun op => (numsF op E).map fun n => (op, n)
theorem docPart_all (E : List (Int × Int)) : docPart E 5 = docU E := rfl
theorem docPart_step {E : List (Int × Int)} {i : Nat} (h : i < 5) : docPart E (i + 1) = docPart E i ++ (numsF (opsL.getD i 0) E).map fun n => (opsL.getD i 0, n) := by
  unfold docPart
  rw [List.take_add_one, List.flatMap_append]
  congr 1
  have : opsL[i]?.toList = [opsL.getD i 0] := by
    have h5 : i < opsL.length := h
    simp [List.getD, h5]
  rw [this]
  simp
theorem putF_len (l : List Int) (n : Int) : (putF l n).length ≤ l.length + 1 := by
  unfold putF
  split
  · omega
  · have : ∀ l : List Int, (insF n l).length = l.length + 1 := by
      intro l
      induction l with
      | nil => rfl
      | cons a l ih =>
        unfold insF
        split
        · rfl
        · rw [List.length_cons, ih, List.length_cons]
    rw [this]; exact Nat.le_refl _
theorem numsF_len (op : Int) (E : List (Int × Int)) : ∀ k, k ≤ E.length → (numsF op (E.take k)).length ≤ k
  | 0, _ => by rw [List.take_zero]; exact Nat.le_refl _
  | k + 1, hk => by
    have ih := numsF_len op E k (by omega)
    have : E.take (k + 1) = E.take k ++ [E.getD k default] := by
      rw [List.take_add_one]
      simp [List.getD, show k < E.length by omega]
    rw [this, numsF_snoc]
    split
    · have := putF_len (numsF op (E.take k)) (E.getD k default).2; omega
    · omega
theorem docPart_len (E : List (Int × Int)) : ∀ i, i ≤ 5 → (docPart E i).length ≤ i * E.length
  | 0, _ => by unfold docPart; rw [List.take_zero]; exact Nat.zero_le _
  | i + 1, hi => by
    have ih := docPart_len E i (by omega)
    rw [docPart_step (by omega), List.length_append, List.length_map]
    have := numsF_len (opsL.getD i 0) E E.length (Nat.le_refl _)
    rw [List.take_length] at this
    rw [Nat.add_mul]; omega
theorem OI.cell_at {base : Nat} {w : World} {b o m c : Nat} {l : List Int} (h : OI base w (.slice (some ⟨b, o, none⟩) m c) l) {i : Nat} (hi : i < l.length) : w.cell? ⟨b, o + i, none⟩ = some (.int .i64 (l.getD i 0)) := by
  obtain ⟨A, c', e, hA⟩ := h.form
  injection e with e1 e2 e3
  obtain ⟨b', o', e4, _, hc⟩ := hA.at_ hi
  rw [← e1] at e4
  injection e4 with e4
  injection e4 with e5 e6
  rw [e5, e6]; exact hc
theorem own_apart {base base2 : Nat} {w w' : World} {v lv : Value} {L : List (Int × Int)} {l : List Int} (hO : ON base w v L) (hL : OI base2 w lv l) (hg : w.grownBy w' v.ownBlock) : OI base2 w' lv l := by
  refine World.ownsRow.kept hL hg ?_
  rcases hv : lv.ownBlock with _ | b
  · exact .inl rfl
  · refine .inr (fun e => ?_)
    obtain ⟨c1, f1, k1⟩ := ownsRow_kind hL b hv
    obtain ⟨c2, f2, k2⟩ := ownsRow_kind hO b e.symm
    rw [k1] at k2
    injection k2 with k2
    injection k2 with _ k2
    exact absurd k2 (by decide)
set_option maxRecDepth 100000 in
set_option maxHeartbeats 8000000 in
theorem refUses_any (E : List (Int × Int)) (A : Option Addr) (n c : Nat) (w : World) (hn : n = E.length) (hz : n ≤ 1000) (hr : RS encN 2 w A E) : Calls Try.prog 7 #[.slice A n c] w (UsesP w E) := by
  have HR := Lib.hid hr
  have HN := Lib.hid hn
  clear hr hn
  go_enter Try.func7, Try.ntmps7
  go_upto_region 3 with (fail)
  obtain ⟨ob, HOB⟩ : ∃ ob, Hid (ob = w.heap.size) := ⟨_, Lib.hid rfl⟩
  obtain ⟨w1, HW1⟩ : ∃ w1, Hid (w1 = w.alloc (.cells #[.int .i64 2, .int .i64 3, .int .i64 4, .int .i64 6, .int .i64 7] 3)) := ⟨_, Lib.hid rfl⟩
  have HB1 : Hid (RowKit.Below w.heap.size w w1) := Lib.hid (by rw [HW1.out]; exact (RowKit.Below.refl _ _).alloc (Nat.le_refl _) _)
  have HOZ : Hid (ob < w1.heap.size) := Lib.hid (by rw [HW1.out, HOB.out]; simp)
  have HOC : Hid (∀ i, i < 5 → w1.cell? ⟨ob, i, none⟩ = some (.int .i64 (opsL.getD i 0))) := Lib.hid (fun i hi => by
    rw [HW1.out, HOB.out]
    rcases i with _|_|_|_|_|i
    all_goals first
      | exact World.cell?_alloc_at _ _ _ _ rfl
      | omega)
  rw [← HW1.out, ← HOB.out]
  clear HOB HW1
  have HOW : Hid (∀ W, RowKit.Below w1.heap.size w1 W → ∀ i, i < 5 → W.cell? ⟨ob, i, none⟩ = some (.int .i64 (opsL.getD i 0))) := Lib.hid (fun W hW i hi => (hW.cell (p := ⟨ob, i, none⟩) HOZ.out).trans (HOC.out i hi))
  have HRW : Hid (∀ W, RowKit.Below w1.heap.size w1 W → RS encN 2 W A E) := Lib.hid (fun W hW => HR.out.below (HB1.out.trans (hW.mono HB1.out.size)))
  clear HR HOC
  go_wp2
  go_loopw [3, 5] (fun ov iv wr => ∃ i : Nat, i ≤ 5 ∧ iv = .int .i64 i ∧ Hid (ON w1.heap.size wr ov (docPart E i)) ∧ Hid (RowKit.Below w1.heap.size w1 wr)) (fun _ iv _ => 5 - (intOf iv).toNat)
  case atStart => exact ⟨0, by omega, rfl, Lib.hid (World.ownsRow_nil _ _ _ _), Lib.hid (RowKit.Below.refl _ _)⟩
  case round =>
    obtain ⟨i, hi, rfl, HO, HB⟩ := hrel
    by_cases hlt : i < 5
    · have hi5 : (i : Int) < 5 := by omega
      obtain ⟨op, HOP⟩ : ∃ op, Hid (opsL.getD i 0 = op) := ⟨_, Lib.hid rfl⟩
      have HST := Lib.hid (docPart_step (E := E) hlt)
      rw [HOP.out] at HST
      have HOPC : Hid (∀ W, RowKit.Below w1.heap.size w1 W → W.cell? ⟨ob, i, none⟩ = some (.int .i64 op)) := Lib.hid (fun W hW => by rw [← HOP.out]; exact HOW.out W hW i hlt)
      have HZ1 : Hid (w1.heap.size ≤ wr.heap.size) := Lib.hid HB.out.size
      go_wp2
      obtain ⟨wo, hwo⟩ : ∃ wo, wo = wr := ⟨_, rfl⟩
      subst hwo
      go_loopw [6, 7] (fun lv kv wr => ∃ k : Nat, k ≤ n ∧ kv = .int .i64 k ∧ Hid (OI w1.heap.size wr lv (numsF op (E.take k))) ∧ Hid (RowKit.Below w1.heap.size w1 wr) ∧ Hid (ON w1.heap.size wr _ (docPart E i))) (fun _ kv _ => n - (intOf kv).toNat)
      case atStart => exact ⟨0, by omega, rfl, Lib.hid (OI.nil _ _), HB, HO⟩
      case round =>
        obtain ⟨k, hk, rfl, HL, HBk, HOk⟩ := hrel
        have HZk : Hid (w1.heap.size ≤ wr.heap.size) := Lib.hid HBk.out.size
        by_cases hk2 : k < n
        · obtain ⟨b, o, rfl, hb, hc⟩ := (HRW.out _ (RowKit.Below.refl _ _)) (by rw [← HN.out]; omega)
          have hkl : k < E.length := by rw [← HN.out]; exact hk2
          have q0 := hc k hkl 0 (by decide)
          have q1 := hc k hkl 1 (by decide)
          have HSN : Hid (numsF op (E.take (k + 1)) = if (E.getD k default).1 = op then putF (numsF op (E.take k)) (E.getD k default).2 else numsF op (E.take k)) := Lib.hid (by
            rw [← numsF_snoc]
            congr 1
            rw [List.take_add_one]
            simp [List.getD, hkl])
          have HNL : Hid ((numsF op (E.take k)).length ≤ 1000) := Lib.hid (by have := numsF_len op E k (by omega); omega)
          obtain ⟨t, HTT⟩ : ∃ t, Hid (E.getD k default = t) := ⟨_, Lib.hid rfl⟩
          rw [HTT.out] at q0 q1 HSN
          obtain ⟨u, m⟩ := t
          simp only [encN, List.getElem?_cons_zero, List.getElem?_cons_succ, Nat.add_zero] at q0 q1
          have HG : Hid (∀ W, RowKit.Below w1.heap.size w1 W → W.cell? ⟨b, o + k * 2, none⟩ = some (.int .i64 u) ∧ W.cell? ⟨b, o + k * 2 + 1, none⟩ = some (.int .i64 m)) := Lib.hid (fun W hW => ⟨(hW.cell (p := ⟨b, o + k * 2, none⟩) hb).trans q0, (hW.cell (p := ⟨b, o + k * 2 + 1, none⟩) hb).trans q1⟩)
          have g0 := (HG.out _ HBk.out).1
          have g1 := (HG.out _ HBk.out).2
          have go := HOPC.out _ HBk.out
          have hi9 : (k : Int) < (n : Int) := by omega
          clear hc q0 q1 hkl
          by_cases hu : u = op
          · have HN2 : Hid (numsF op (E.take (k + 1)) = putF (numsF op (E.take k)) m) := Lib.hid (by rw [HSN.out, if_pos hu])
            subst hu
            have HRD : Hid (∀ j, RowKit.Below w1.heap.size w1 (wr.drewN j)) := Lib.hid (fun j => below_drewN HBk.out j)
            go_wp2
            go_quiet (fail)
            go_wp2_with fail
            clear g0 g1 go
            refine Calls.mono (put_any w1.heap.size (numsF u (E.take k)) _ m _ ?ho ?hl ?hz) ?_
            case ho => exact HL.out
            case hl => have := HNL.out; omega
            case hz => exact HZk.out
            rintro e w5 ⟨v5, rfl, ho5, hb5⟩
            have HO5 := Lib.hid ho5
            have HB5 : Hid (RowKit.Below w1.heap.size w1 w5) := Lib.hid ((HRD.out _).trans (RowKit.Below.mono hb5 HZk.out))
            have HOO5 : Hid (ON w1.heap.size w5 _ (docPart E i)) := Lib.hid (OR.below (w := wr.drewN _) HOk.out hb5)
            clear ho5 hb5
            go_wp2
            go_roundw
            case rel => exact ⟨k + 1, by omega, by go_num, Lib.hid (by rw [HN2.out]; exact HO5.out), HB5, HOO5⟩
            case measure => simp [intOf]; omega
          · have hub : (u == op) = false := by rw [beq_eq_false_iff_ne]; exact hu
            have HN2 : Hid (numsF op (E.take (k + 1)) = numsF op (E.take k)) := Lib.hid (by rw [HSN.out, if_neg hu])
            have HRD : Hid (∀ j, RowKit.Below w1.heap.size w1 (wr.drewN j)) := Lib.hid (fun j => below_drewN HBk.out j)
            go_wp2
            go_quiet (fail)
            go_wp2
            go_roundw
            case rel => exact ⟨k + 1, by omega, by go_num, Lib.hid (by rw [HN2.out]; exact HL.out), Lib.hid (HRD.out _), HOk⟩
            case measure => simp [intOf]; omega
        · obtain rfl : k = n := by omega
          have HTA : Hid (E.take k = E) := Lib.hid (List.take_of_length_le (by rw [HN.out]; exact Nat.le_refl _))
          rw [HTA.out] at HL
          have HLL : Hid ((numsF op E).length ≤ 1000) := Lib.hid (by have := numsF_len op E k (by rw [← HN.out]; exact Nat.le_refl _); rw [HTA.out] at this; omega)
          have HDL : Hid ((docPart E i).length ≤ 5000) := Lib.hid (by
            have := docPart_len E i (by omega)
            have h2 : i * E.length ≤ 5 * 1000 := Nat.mul_le_mul (by omega) (by rw [← HN.out]; exact hz)
            omega)
          obtain ⟨Al, cl, e, _⟩ := HL.out.form
          subst e
          obtain ⟨L, HLQ⟩ : ∃ L, Hid (numsF op E = L) := ⟨_, Lib.hid rfl⟩
          rw [HLQ.out] at HL HST HLL ⊢
          obtain ⟨len, HLEN⟩ : ∃ len, Hid (L.length = len) := ⟨_, Lib.hid rfl⟩
          rw [HLEN.out] at HLL
          rw [HLEN.out]
          have hlen : len ≤ 1000 := HLL.out
          go_wp2
          go_loopw [3, 8] (fun ov jv wr => ∃ j : Nat, j ≤ len ∧ jv = .int .i64 j ∧ Hid (ON w1.heap.size wr ov (docPart E i ++ (L.take j).map fun n => (op, n))) ∧ Hid (RowKit.Below w1.heap.size w1 wr) ∧ Hid (OI w1.heap.size wr (.slice Al len cl) L)) (fun _ jv _ => len - (intOf jv).toNat)
          case atStart => exact ⟨0, by omega, rfl, Lib.hid (by rw [List.take_zero, List.map_nil, List.append_nil]; exact HOk.out), HBk, Lib.hid (by have := HL.out; rwa [HLEN.out] at this)⟩
          case round =>
            obtain ⟨j, hj, rfl, HQ, HBj, HLj⟩ := hrel
            by_cases hj2 : j < len
            · have hjl : j < L.length := by rw [HLEN.out]; exact hj2
              obtain ⟨lb, lo, eA, _, _⟩ : ∃ lb lo, Al = some ⟨lb, lo, none⟩ ∧ True ∧ True := by
                obtain ⟨A', c', e, hA'⟩ := HLj.out.form
                injection e with e1 e2 e3
                obtain ⟨b', o', e4, _, _⟩ := hA'.at_ hjl
                exact ⟨b', o', e1.trans e4, trivial, trivial⟩
              subst eA
              obtain ⟨x, HX⟩ : ∃ x, Hid (L.getD j 0 = x) := ⟨_, Lib.hid rfl⟩
              have HLC : Hid (∀ W, OI w1.heap.size W (.slice (some ⟨lb, lo, none⟩) len cl) L → W.cell? ⟨lb, lo + j, none⟩ = some (.int .i64 x)) := Lib.hid (fun W hW => by rw [← HX.out]; exact OI.cell_at hW hjl)
              have HNX : Hid ((docPart E i ++ (L.take j).map fun n => (op, n)) ++ [(op, x)] = docPart E i ++ (L.take (j + 1)).map fun n => (op, n)) := Lib.hid (by rw [take_int hjl, List.map_append, List.append_assoc, HX.out]; rfl)
              have HQL : Hid ((docPart E i ++ (L.take j).map fun n => (op, n)).length ≤ 100000) := Lib.hid (by rw [List.length_append, List.length_map, List.length_take]; have := HDL.out; omega)
              have HZj : Hid (w1.heap.size ≤ wr.heap.size) := Lib.hid HBj.out.size
              have go := HOPC.out _ HBj.out
              have gl := HLC.out _ HLj.out
              have hi9 : (j : Int) < (len : Int) := by omega
              clear hjl
              generalize (docPart E i ++ (L.take j).map fun n => (op, n)) = Q at HQ HNX HQL
              go_upto_region 15 with (fail)
              go_region_held3 (fun w' => w'.cell? ⟨ob, i, none⟩ = some (.int .i64 op) ∧ w'.cell? ⟨lb, lo + j, none⟩ = some (.int .i64 x))
                (first | exact ⟨go, gl⟩ | exact ⟨k0, k1⟩ | go_keep)
                (first
                  | (refine step_append_own encN_len encN_one Try.underlying22 infoN rfl (by decide) (by decide) w1.heap.size _ (by rfl) (.tmp 45) (.tmp 55) (by rfl) (by rfl) _ Q (by rfl) (by first | exact World.ownsRow.alloc HQ.out _ | exact OR.below HQ.out (by first | exact (below_alloc1 _ _).drew | exact (RowKit.Below.refl _ _).drew.trans (below_alloc1 _ _))) (op, x) _ (by rfl) (by rfl) HQL.out (by have := HZj.out; first | omega | (simp; omega)) _ (by first | exact World.alloc_heap_new _ _) ?_; intro v5 w5 ho5 hb5 hg5; have HO5 := Lib.hid ho5; have HB5 : Hid (RowKit.Below w1.heap.size w1 w5) := Lib.hid (by first | exact (HBj.out.alloc HZj.out _).trans hb5 | exact (HBj.out.drew.alloc HZj.out _).trans hb5); have HL5 : Hid (OI w1.heap.size w5 (.slice (some ⟨lb, lo, none⟩) len cl) L) := Lib.hid (by first | exact own_apart (World.ownsRow.drew (World.ownsRow.alloc HQ.out _)) (World.ownsRow.drew (World.ownsRow.alloc HLj.out _)) hg5 | exact own_apart (World.ownsRow.alloc HQ.out _) (World.ownsRow.alloc HLj.out _) hg5 | exact own_apart (World.ownsRow.alloc (World.ownsRow.drew HQ.out) _) (World.ownsRow.alloc (World.ownsRow.drew HLj.out) _) hg5); have k0 := HOPC.out _ HB5.out; have k1 := HLC.out _ HL5.out; clear ho5 hb5 hg5)
                  | fail)
              all_goals
                go_wp2
                go_roundw
                case rel => exact ⟨j + 1, by omega, by go_num, Lib.hid (by rw [← HNX.out]; exact HO5.out), HB5, HL5⟩
                case measure => simp [intOf]; omega
            · obtain rfl : j = len := by omega
              have HF : Hid (ON w1.heap.size wr _ (docPart E (i + 1))) := Lib.hid (by
                have h := HQ.out
                rw [List.take_of_length_le (by rw [HLEN.out]; exact Nat.le_refl _)] at h
                rw [HST.out]
                exact h)
              go_wp2
              go_roundw
              case rel => exact ⟨i + 1, by omega, by go_num, HF, HBj⟩
              case measure => simp [intOf]; omega
    · obtain rfl : i = 5 := by omega
      obtain ⟨A2, c2, e, hr2⟩ := OR.rs encN_len HO.out
      subst e
      rw [docPart_all] at hr2 ⊢
      have HR2 := Lib.hid hr2
      have HBF : Hid (RowKit.Below w.heap.size w wr) := Lib.hid (HB1.out.trans (HB.out.mono HB1.out.size))
      clear hr2
      go_wp2
      go_ret
      exact ⟨_, _, rfl, HR2.out, HBF.out⟩
end Go.Proofs.Ytgbnafakaaooiaa.us
