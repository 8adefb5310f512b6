/- The law GraphSteps: a path is one: from a start, edge by edge, to a goal, none of the nodes ahead of the last one being a goal, or there twice. -/
import Derived.Test.YtmlkfdmccimdkaaAwake
import Derived.Test.YtmlkfdmccimdkaaStepsPure
namespace Go.Proofs.Ytmlkfdmccimdkaa.graphSteps
open Go.ChangeShapes Go.WideShapes Go.ChangeAt Go.RowKit Go.Shelf

/-- Which nodes of the way have been seen. -/
def sv (L : List Int) (j : Nat) : Value := .bool (L.any fun x => x == (j : Int))
theorem sv_step {L : List Int} {i n k : Nat} {w : World} {b : Nat} {t : TypeId} (hi : i < L.length) (hk : L.getD i 0 = (k : Int)) (hr : w.rowIs b t n (sv (L.take i))) : (w.setCell ⟨b, k, none⟩ (.bool true)).rowIs b t n (sv (L.take (i + 1))) :=
  (hr.set k (.bool true)).congr (fun j _ => by
    have e : L.take (i + 1) = L.take i ++ [(k : Int)] := by rw [List.take_succ_eq_append_getElem hi, ← hk]; simp [List.getD, hi]
    unfold sv
    rw [e, List.any_append]
    by_cases h : j = k
    · subst h; rw [if_pos rfl]; simp
    · rw [if_neg h]
      have : ((k : Int) == (j : Int)) = false := by simp; omega
      simp [this])
theorem sv_no {L : List Int} {i k : Nat} (hi : i < L.length) (hk : L.getD i 0 = (k : Int)) (h : ∀ a b, a < b → b < L.length → L.getD a 0 ≠ L.getD b 0) : sv (L.take i) k = .bool false := by
  unfold sv
  have : ((L.take i).any fun x => x == (k : Int)) = false := by
    rw [List.any_eq_false]
    intro x hx
    obtain ⟨a, ha, rfl⟩ := List.getElem_of_mem hx
    have ha2 : a < i := by simp at ha; omega
    have := h a i ha2 hi
    rw [hk] at this
    have e : L.getD a 0 = (L.take i)[a] := by simp [List.getD, show a < L.length by omega]
    rw [e] at this
    simpa using this
  rw [this]
theorem any_snoc {α : Type} {l : List α} {p : α → Bool} {d : α} {k : Nat} (h : k < l.length) : (l.take (k + 1)).any p = ((l.take k).any p || p (l.getD k d)) := by
  rw [List.take_succ_eq_append_getElem h, List.any_append]
  simp [List.getD, h]

set_option maxRecDepth 20000 in
set_option maxHeartbeats 8000000 in
theorem walk (v0 : Value) (Af Ag : Option Addr) (cf cg m gn : Nat) (from_ : List Int) (goal : List Bool) (w : World) (G : Gr) (g0 : GV w v0 G) (hm : m = from_.length) (hml : m ≤ 10000000000000000) (hS : IA w Af from_) (hg : gn = goal.length) (hgl : goal.length ≤ maxLen) (hG : BL w Ag goal) :
    Calls Try.prog 9 #[v0, .slice Af m cf, .slice Ag gn cg] w (LawPost w) := by
  obtain ⟨A1, c1, A2, c2, A3, c3, rfl, hGA⟩ := id g0
  have HRA := Lib.hid hGA.2.1.2.2
  clear hGA
  obtain ⟨n1, HN1⟩ : ∃ n, Hid (G.init.length = n) := ⟨_, Lib.hid rfl⟩
  obtain ⟨n, HN⟩ : ∃ n, Hid (G.rows.length = n) := ⟨_, Lib.hid rfl⟩
  obtain ⟨n3, HN3⟩ : ∃ n, Hid (G.labels.length = n) := ⟨_, Lib.hid rfl⟩
  have HGV0 := Lib.hid g0
  rw [HN1.out, HN.out, HN3.out] at HGV0 ⊢
  have HM := Lib.hid hm
  have HS := Lib.hid hS
  have HGN := Lib.hid hg
  have HGL := Lib.hid hgl
  have HG := Lib.hid hG
  have hgn : gn ≤ 9223372036854775807 := by rw [hg]; exact hgl
  obtain ⟨y0, HY0⟩ : ∃ y, Hid (heavyB G = y) := ⟨_, Lib.hid rfl⟩
  clear g0 hm hS hg hgl hG
  go_enter Try.func9, Try.ntmps9
  go_wp2_with fail
  have hbx := box3 w (.slice A1 n1 c1) (.slice A2 n c2) (.slice A3 n3 c3) 26
  have hB2 := below1 w (.cells #[.slice A1 n1 c1, .slice A2 n c2, .slice A3 n3 c3] 26)
  generalize (w.alloc (.cells #[.slice A1 n1 c1, .slice A2 n c2, .slice A3 n3 c3] 26)) = w2 at *
  have hbx : B3 w2 w.heap.size (.slice A1 n1 c1) (.slice A2 n c2) (.slice A3 n3 c3) := hbx
  have HB2 := Lib.hid hB2
  have HBX2 := Lib.hid hbx
  clear hB2 hbx
  refine (heavy_any (HGV0.out.below HB2.out)).mono ?_
  rw [HY0.out]
  rintro e w3 ⟨rfl, hb3⟩
  have HB3 : Hid (Below w.heap.size w w3) := Lib.hid (HB2.out.trans (hb3.mono HB2.out.size))
  have HBX3 := Lib.hid (HBX2.out.below hb3)
  clear hb3 HBX2 HB2
  by_cases hy : y0 = true ∨ 100 < m ∨ 400 < gn
  · have hgo : ∀ W, Below w3.heap.size w3 W → Calls Try.prog 16 #[] W (BoolP true W) := fun W _ => awake_any W
    have HGO := Lib.hid hgo
    clear hgo
    cases y0 with
    | true =>
      clear hy
      go_wp2_with fail
      refine (HGO.out _ (Below.refl _ _)).mono ?_
      rintro e w4 ⟨rfl, hb4⟩
      go_wp2
      go_ret
      exact ⟨rfl, HB3.out.trans (hb4.mono HB3.out.size)⟩
    | false =>
      by_cases h1 : 100 < m
      · have hd : decide ((100 : Int) < (m : Int)) = true := decide_eq_true (by omega)
        clear hy
        go_wp2_with fail
        refine (HGO.out _ (Below.refl _ _)).mono ?_
        rintro e w4 ⟨rfl, hb4⟩
        go_wp2
        go_ret
        exact ⟨rfl, HB3.out.trans (hb4.mono HB3.out.size)⟩
      · have hd : decide ((100 : Int) < (m : Int)) = false := decide_eq_false (by omega)
        have h2 : 400 < gn := by rcases hy with h | h | h; cases h; exact absurd h h1; exact h
        have hd2 : decide ((400 : Int) < (gn : Int)) = true := decide_eq_true (by omega)
        clear hy
        go_wp2_with fail
        refine (HGO.out _ (Below.refl _ _)).mono ?_
        rintro e w4 ⟨rfl, hb4⟩
        go_wp2
        go_ret
        exact ⟨rfl, HB3.out.trans (hb4.mono HB3.out.size)⟩
  · obtain rfl : y0 = false := by cases y0; rfl; exact absurd (.inl rfl) hy
    have hm100 : m ≤ 100 := by omega
    have h2 : gn ≤ 400 := by omega
    have hd : decide ((100 : Int) < (m : Int)) = false := decide_eq_false (by omega)
    have hd2 : decide ((400 : Int) < (gn : Int)) = false := decide_eq_false (by omega)
    obtain ⟨hn200, _, _, hr50⟩ := heavy_not HY0.out
    rw [HN.out] at hn200
    have HROW : Hid (∀ i, (G.rows.getD i []).length ≤ 50) := Lib.hid (fun i => by
      by_cases hi : i < G.rows.length
      · have e : G.rows.getD i [] = G.rows[i] := by simp [List.getD, hi]
        rw [e]; exact hr50 _ (List.getElem_mem hi)
      · have e : G.rows.getD i [] = [] := by simp [List.getD, List.getElem?_eq_none (show G.rows.length ≤ i by omega)]
        rw [e]; exact Nat.zero_le _)
    clear hy hr50
    obtain ⟨q0, q1, q2⟩ := HBX3.out
    go_wp2_with fail
    clear q0 q1 q2
    refine (path_any (HGV0.out.below HB3.out) Af m cf from_ Ag gn cg goal (by rw [HN.out]; omega) (fun i => Nat.le_trans (HROW.out i) (by omega)) HM.out (by omega) (HS.out.below HB3.out) HGN.out HGL.out (HG.out.below HB3.out)).mono ?_
    obtain ⟨L, HL⟩ : ∃ L, Hid (pathL G.rows from_ goal = L) := ⟨_, Lib.hid rfl⟩
    rw [HL.out]
    rintro e w4 ⟨AL, cL, he4, hi4, hl4, hc4, hb4⟩
    have HB4 : Hid (Below w.heap.size w w4) := Lib.hid (HB3.out.trans (hb4.mono HB3.out.size))
    have HBX4 := Lib.hid (HBX3.out.below hb4)
    have HI4 := Lib.hid hi4
    obtain ⟨l, HLN⟩ : ∃ l, Hid (L.length = l) := ⟨_, Lib.hid rfl⟩
    have he4' : e = .returned (.tuple #[.slice AL l cL, .bool (decide (0 < l))]) := by rw [he4, HLN.out]
    subst he4'
    have hlm : l ≤ 9223372036854775807 := by rw [← HLN.out]; unfold maxLen at hc4; omega
    clear he4 hi4 hl4 hc4 hb4 HBX3 HB3
    by_cases h0 : l = 0
    · subst h0
      rw [show decide (0 < 0) = false from rfl]
      go_wp2_with fail
      refine (awake_any _).mono ?_
      rintro e w5 ⟨rfl, hb5⟩
      go_wp2
      go_ret
      exact ⟨rfl, HB4.out.trans (hb5.mono HB4.out.size)⟩
    · have hpos : 0 < l := by omega
      have hw : WayOk G.rows from_ goal L := by
        rw [← HL.out]
        exact pathL_ok (by rw [HL.out]; exact fun e => by have := HLN.out; rw [e] at this; simp at this; omega)
      have hln : l ≤ n := by rw [← HLN.out, ← HN.out]; exact hw.len
      have HWAY := Lib.hid hw
      have hdl : decide ((n : Int) < (l : Int)) = false := decide_eq_false (by omega)
      have hdl2 : decide (n < l) = false := decide_eq_false (by omega)
      have hdl3 : ¬ n < l := by omega
      have hl0 : ((l : Int) == 0) = false := by simp; omega
      have hdp : decide (0 < l) = true := decide_eq_true hpos
      rw [hdp]
      clear hw h0 hdp
      obtain ⟨i0, hi, hz0, hz1, hz2⟩ := info_parts (show (Try.prog.info? 4).map (fun i => (i.zero, i.size, i.bytes)) = some (some (.bool false), 1, 1) by kernel_rfl)
      have hmk : ∀ W : World, (Instr.makeSlice 33 (.int .i64 (n : Int)) (.int .i64 (n : Int))).run Try.prog W = .ok (.slice (some ⟨W.heap.size, 0, none⟩) n n) (W.alloc (.cells (madeCells #[.bool false] n) 4)) := fun W => by
        have hr := run_make (P := Try.prog) W 33 4 i0 _ (by kernel_rfl) hi hz0 .i64 .i64 (n : Int) (n : Int) (by omega) (Int.le_refl _) (by rw [hz2]; omega) (by omega)
        rw [hr, hz1, Int.toNat_natCast, Nat.mul_one]
        rfl
      clear hi hz0 hz1 hz2
      obtain ⟨q0, q1, q2⟩ := HBX4.out
      go_wp2_with fail
      clear hmk q0 q1 q2 hdl hl0 hdl2 hdl3
      have hb5 := below1 w4 (.cells (madeCells #[.bool false] n) 4)
      have hrow : (w4.alloc (.cells (madeCells #[.bool false] n) 4)).rowIs w4.heap.size 4 n (sv (L.take 0)) := World.rowIs_made w4 (.bool false) n 4
      have hz5 : w4.heap.size + 1 ≤ (w4.alloc (.cells (madeCells #[.bool false] n) 4)).heap.size := by simp
      generalize (w4.alloc (.cells (madeCells #[.bool false] n) 4)) = w5 at *
      have HROW5 := Lib.hid hrow
      have HB5 : Hid (Below w.heap.size w w5) := Lib.hid (HB4.out.trans (hb5.mono HB4.out.size))
      have hlw := HB4.out.size
      have HKP : Hid (∀ W, Turn (fun q => q = w4.heap.size) w5 W → (∀ q, q < w4.heap.size → W.heap[q]? = w4.heap[q]?) ∧ w4.heap.size + 1 ≤ W.heap.size) := Lib.hid (fun W h => ⟨fun q hq => (h.block q (by omega) (by omega)).trans (hb5.block q hq), by have := h.size; omega⟩)
      clear hrow hb5
      obtain ⟨bl, ol, hAL, hbl, hcl⟩ := HI4.out (by rw [HLN.out]; exact hpos)
      subst hAL
      have HBL := Lib.hid hbl
      have HCL : Hid (∀ W, Turn (fun q => q = w4.heap.size) w5 W → ∀ i, i < l → W.cell? ⟨bl, ol + i, none⟩ = some (.int .i64 (L.getD i 0))) := Lib.hid (fun W h i hi => (World.cell?_of_block (w := w4) (a := ⟨bl, ol + i, none⟩) ((HKP.out W h).1 bl HBL.out)).trans (hcl i (by rw [HLN.out]; exact hi)))
      have HCF : Hid (∀ W, Turn (fun q => q = w4.heap.size) w5 W → 0 < m → ∃ b o, Af = some ⟨b, o, none⟩ ∧ ∀ i, i < m → W.cell? ⟨b, o + i, none⟩ = some (.int .i64 (from_.getD i 0))) := Lib.hid (fun W h hm => by
        obtain ⟨b, o, e, hb, hc⟩ := HS.out (by rw [← HM.out]; exact hm)
        exact ⟨b, o, e, fun i hi => (World.cell?_of_block (w := w4) (a := ⟨b, o + i, none⟩) ((HKP.out W h).1 b (by omega))).trans ((HB4.out.cell (p := ⟨b, o + i, none⟩) hb).trans (hc i (by rw [← HM.out]; exact hi)))⟩)
      clear hbl hcl
      have HMS := Lib.hid hm100
      have HLM := Lib.hid hlm
      have HTR : Hid (∀ j, Turn (fun q => q = w4.heap.size) w5 (w5.drewN j)) := Lib.hid (fun j => (Turn.refl _ _).drewN j)
      go_loopw [10, 11] (fun b i wr => ∃ k j : Nat, k ≤ m ∧ b = .bool ((from_.take k).any fun x => x == L.getD 0 0) ∧ i = .int .i64 k ∧ wr = w5.drewN j) (fun _ i _ => m - (intOf i).toNat)
      case atStart => exact ⟨0, 0, Nat.zero_le _, rfl, rfl, rfl⟩
      case round =>
        obtain ⟨k, j, hk, rfl, rfl, rfl⟩ := hrel
        by_cases hlt : k < m
        · have hkl : k < from_.length := by rw [← HM.out]; exact hlt
          obtain ⟨b, o, rfl, hc⟩ := HCF.out w5 (Turn.refl _ _) (by omega)
          have d1 := hc k hlt
          have d2 := HCL.out w5 (Turn.refl _ _) 0 hpos
          have d3 := d2
          rw [Nat.add_zero] at d3
          have HAS : Hid ((from_.take (k + 1)).any (fun x => x == L.getD 0 0) = ((from_.take k).any (fun x => x == L.getD 0 0) || (from_.getD k 0 == L.getD 0 0))) := Lib.hid (any_snoc hkl)
          clear hc
          generalize L.getD 0 0 = a at *
          generalize from_.getD k 0 = z at *
          obtain ⟨B, HB⟩ : ∃ B, Hid ((from_.take k).any (fun x => x == a) = B) := ⟨_, Lib.hid rfl⟩
          rw [HB.out] at HAS ⊢
          have hdk : decide ((k : Int) < (m : Int)) = true := decide_eq_true (by omega)
          cases B with
          | true =>
            go_wp2
            go_quiet (fail)
            go_wp2
            go_roundw
            case rel => exact ⟨k + 1, j + nq, hlt, by rw [HAS.out]; rfl, by go_num, by first | rfl | rw [World.drewN_drewN]⟩
            case measure => simp [intOf]; omega
          | false =>
            obtain ⟨C, HC⟩ : ∃ C, Hid ((z == a) = C) := ⟨_, Lib.hid rfl⟩
            have hC := HC.out
            go_wp2
            go_quiet (fail)
            go_wp2
            go_roundw
            case rel => exact ⟨k + 1, j + nq, hlt, by rw [HAS.out, HC.out]; rfl, by go_num, by first | rfl | rw [World.drewN_drewN]⟩
            case measure => simp [intOf]; omega
        · obtain rfl : k = m := by omega
          have HBG : Hid ((from_.take k).any (fun x => x == L.getD 0 0) = true) := Lib.hid (by
            rw [HM.out, List.take_length, List.any_eq_true]
            exact ⟨_, HWAY.out.start, by simp⟩)
          rw [HBG.out]
          go_wp2
          have HT6 : Hid (Turn (fun q => q = w4.heap.size) w5 (w5.drewN j)) := Lib.hid (HTR.out j)
          have HR6 : Hid ((w5.drewN j).rowIs w4.heap.size 4 n (sv (L.take 0))) := HROW5
          clear HROW5 HCF HTR HBG
          generalize w5.drewN j = w6 at *
          go_loopw [12] (fun i wr => ∃ k : Nat, k ≤ l ∧ i = .int .i64 k ∧ Hid (Turn (fun q => q = w4.heap.size) w5 wr) ∧ Hid (wr.rowIs w4.heap.size 4 n (sv (L.take k)))) (fun i _ => l - (intOf i).toNat)
          case atStart => exact ⟨0, Nat.zero_le _, rfl, HT6, HR6⟩
          case round =>
            clear HT6 HR6
            obtain ⟨i, hi, rfl, HT, HRW⟩ := hrel
            by_cases hlt : i < l
            · have hil : i < L.length := by rw [HLN.out]; exact hlt
              obtain ⟨k, hk, hkn⟩ := HWAY.out.node i hil
              have d1 := HCL.out wr HT.out i hlt
              rw [hk] at d1
              have HNO : Hid (sv (L.take i) k = .bool false) := Lib.hid (sv_no hil hk HWAY.out.once)
              have hkn2 : k < n := by rw [← HN.out]; exact hkn
              have d2 : wr.cell? ⟨w4.heap.size, k, none⟩ = some (.bool false) := (HRW.out.cell hkn2).trans (congrArg some HNO.out)
              have HGB : Hid (goal.getD k false = decide (i + 1 = l)) := Lib.hid (by have := HWAY.out.goal i hil; rwa [hk, Int.toNat_natCast, HLN.out] at this)
              have HND : Hid (nodeB n (k : Int) = true) := Lib.hid (decide_eq_true ⟨by omega, by omega⟩)
              have HBG : Hid (∀ W, Turn (fun q => q = w4.heap.size) w5 W → B3 W w.heap.size (.slice A1 n1 c1) (.slice A2 n c2) (.slice A3 n3 c3)) := Lib.hid (fun W h => by
                have hk := (HKP.out W h).1 w.heap.size (lt_of_cell HBX4.out.1)
                exact ⟨(World.cell?_of_block (w := w4) (a := ⟨w.heap.size, 0, none⟩) hk).trans HBX4.out.1, (World.cell?_of_block (w := w4) (a := ⟨w.heap.size, 1, none⟩) hk).trans HBX4.out.2.1, (World.cell?_of_block (w := w4) (a := ⟨w.heap.size, 2, none⟩) hk).trans HBX4.out.2.2⟩)
              obtain ⟨q0, q1, q2⟩ := HBG.out wr HT.out
              have hzz := (HKP.out wr HT.out).2
              have HK := Lib.hid hk
              have HHIL := Lib.hid hil
              have HKW : Hid (∀ W, Turn (fun q => q = w4.heap.size) w5 W → ∀ p : Addr, p.block < w.heap.size → W.cell? p = w.cell? p) := Lib.hid (fun W h p hp => (World.cell?_of_block (w := w4) (a := p) ((HKP.out W h).1 p.block (by omega))).trans (HB4.out.cell hp))
              obtain ⟨br, fr, rfl, hbr, hcr⟩ := HRA.out (by omega)
              obtain ⟨A5, c5, e7, hl5, hm5, hp5⟩ := hcr k hkn
              have hrl := HROW.out k
              have hed : i + 1 < l → ∃ e ∈ G.rows.getD k [], e.1 = L.getD (i + 1) 0 := fun h => by
                have := HWAY.out.edge i (by rw [HLN.out]; exact h)
                rwa [hk, Int.toNat_natCast] at this
              obtain ⟨row, HROWK⟩ : ∃ row, Hid (G.rows.getD k [] = row) := ⟨_, Lib.hid rfl⟩
              rw [HROWK.out] at e7 hp5 hrl hed
              obtain ⟨rl, HRL⟩ : ∃ rl, Hid (row.length = rl) := ⟨_, Lib.hid rfl⟩
              rw [HRL.out] at e7 hrl
              have HED := Lib.hid hed
              have HPA := Lib.hid hp5
              have HE7 := Lib.hid e7
              have HBR := Lib.hid hbr
              clear hk hkn hed hp5 e7 hbr hcr hl5 hm5
              go_wp2_with fail
              refine (node_any _ _ _ n c2 _ _).mono ?_
              rw [HND.out]
              rintro e w7 ⟨rfl, hb7⟩
              have HT7 : Hid (Turn (fun q => q = w4.heap.size) w5 w7) := Lib.hid (HT.out.then_below (hb7.mono HT.out.size))
              have HR7 : Hid (w7.rowIs w4.heap.size 4 n (sv (L.take i))) := Lib.hid (HRW.out.of_block (hb7.block _ (by omega)))
              have hz7 := (HKP.out w7 HT7.out).2
              have d2 : w7.cell? ⟨w4.heap.size, k, none⟩ = some (.bool false) := (HR7.out.cell hkn2).trans (congrArg some HNO.out)
              have HGC : Hid (k < gn → ∃ b o, Ag = some ⟨b, o, none⟩ ∧ w7.cell? ⟨b, o + k, none⟩ = some (.bool (decide (i + 1 = l)))) := Lib.hid (fun hk => by
                obtain ⟨b, o, e, hb, hc⟩ := HG.out (by rw [← HGN.out]; omega)
                refine ⟨b, o, e, (World.cell?_of_block (w := w4) (a := ⟨b, o + k, none⟩) ((HKP.out w7 HT7.out).1 b (by omega))).trans (((HB4.out.cell (p := ⟨b, o + k, none⟩) hb).trans (hc k (by rw [← HGN.out]; exact hk))).trans ?_)⟩
                rw [HGB.out])
              have HGD : Hid (¬ k < gn → decide (i + 1 = l) = false) := Lib.hid (fun hk => by
                rw [← HGB.out]
                simp [List.getD, List.getElem?_eq_none (show goal.length ≤ k by rw [← HGN.out]; omega)])
              obtain ⟨E, HE⟩ : ∃ E, Hid (decide (i + 1 = l) = E) := ⟨_, Lib.hid rfl⟩
              have HE1 : Hid (((i : Int) == (l : Int) - 1) = E) := Lib.hid (by
                rw [← HE.out]
                by_cases h : i + 1 = l
                · rw [decide_eq_true h]; simp; omega
                · rw [decide_eq_false h]; simp; omega)
              have HE2 : Hid (((i : Int) + 1 == (l : Int)) = E) := Lib.hid (by
                rw [← HE.out]
                by_cases h : i + 1 = l
                · rw [decide_eq_true h]; simp; omega
                · rw [decide_eq_false h]; simp; omega)
              have hE1 := HE1.out
              have hE2 := HE2.out
              have f7 := HR7.out.frozen k
              rw [HE.out] at HGC HGD
              have hdkn : (decide ((k : Int) < (gn : Int))) = decide (k < gn) := by simp
              clear q0 q1 q2 d1 hb7
              by_cases hkg : k < gn
              · obtain ⟨b, o, rfl, d4⟩ := HGC.out hkg
                rw [show decide (k < gn) = true from decide_eq_true hkg] at hdkn
                cases E with
                | true =>
                  go_wp2_with fail
                  clear d2 hE1 hE2 f7 hdkn
                  have HT8 : Hid (Turn (fun q => q = w4.heap.size) w5 (w7.setCell ⟨w4.heap.size, k, none⟩ (.bool true))) := Lib.hid (HT7.out.set _ _ rfl)
                  have HR8 : Hid ((w7.setCell ⟨w4.heap.size, k, none⟩ (.bool true)).rowIs w4.heap.size 4 n (sv (L.take (i + 1)))) := Lib.hid (sv_step HHIL.out HK.out HR7.out)
                  generalize w7.setCell ⟨w4.heap.size, k, none⟩ (.bool true) = w8 at *
                  obtain ⟨a, HA⟩ : ∃ a, Hid (L.getD (i + 1) 0 = a) := ⟨_, Lib.hid rfl⟩
                  go_loopw [14, 15] (fun b j wr => ∃ z y : Nat, z ≤ rl ∧ b = .bool (decide (i + 1 = l) || (row.take z).any fun e => e.1 == a) ∧ j = .int .i64 z ∧ wr = w8.drewN y) (fun _ j _ => rl - (intOf j).toNat)
                  case atStart => exact ⟨0, 0, Nat.zero_le _, by rw [HE.out]; rfl, rfl, rfl⟩
                  case round =>
                    obtain ⟨z, y, hz, rfl, rfl, rfl⟩ := hrel
                    obtain ⟨q0, q1, q2⟩ := HBG.out w8 HT8.out
                    have d7 := (HKW.out w8 HT8.out ⟨br, fr + k, none⟩ HBR.out).trans HE7.out
                    obtain ⟨B, HB⟩ : ∃ B, Hid ((decide (i + 1 = l) || (row.take z).any fun e => e.1 == a) = B) := ⟨_, Lib.hid rfl⟩
                    rw [HB.out]
                    cases B with
                    | true =>
                      by_cases hzl : z < rl
                      · have hdz : decide ((z : Int) < (rl : Int)) = true := decide_eq_true (by omega)
                        go_wp2_with fail
                        go_roundw
                        case rel => exact ⟨i + 1, by omega, by go_num, Lib.hid (HT8.out.drewN _), HR8⟩
                        case measure => simp [intOf]; omega
                      · have hdz : decide ((z : Int) < (rl : Int)) = false := decide_eq_false (by omega)
                        go_wp2_with fail
                        go_roundw
                        case rel => exact ⟨i + 1, by omega, by go_num, Lib.hid (HT8.out.drewN _), HR8⟩
                        case measure => simp [intOf]; omega
                    | false =>
                      obtain ⟨hb1, hb2⟩ := (Bool.or_eq_false_iff).1 HB.out
                      have hil2 : i + 1 < l := by have := of_decide_eq_false hb1; omega
                      have hzl : z < rl := by
                        apply Classical.byContradiction
                        intro hzl
                        rw [List.take_of_length_le (by rw [HRL.out]; omega), List.any_eq_false] at hb2
                        obtain ⟨e, he, he2⟩ := HED.out hil2
                        exact hb2 e he (by rw [he2, HA.out]; simp)
                      have hzr : z < row.length := by rw [HRL.out]; exact hzl
                      have hdz : decide ((z : Int) < (rl : Int)) = true := decide_eq_true (by omega)
                      obtain ⟨bp, op, rfl, hbp, hcp⟩ := HPA.out (by omega)
                      have d8 := (HKW.out w8 HT8.out ⟨bp, op + z * 2, none⟩ hbp).trans (hcp z hzr).1
                      have d9 := HCL.out w8 HT8.out (i + 1) hil2
                      rw [HA.out] at d9
                      have HAS : Hid ((row.take (z + 1)).any (fun e => e.1 == a) = ((row.take z).any (fun e => e.1 == a) || ((row.getD z (0, 0)).1 == a))) := Lib.hid (any_snoc hzr)
                      generalize (row.getD z (0, 0)).1 = x at d8 HAS
                      obtain ⟨C, HC⟩ : ∃ C, Hid ((x == a) = C) := ⟨_, Lib.hid rfl⟩
                      have hC := HC.out
                      clear hcp
                      go_wp2_with fail
                      go_quiet (fail)
                      go_wp2_with fail
                      go_roundw
                      case rel => exact ⟨z + 1, y + nq, hzl, by rw [hb1, HAS.out, hb2, HC.out]; rfl, by go_num, by first | rfl | rw [World.drewN_drewN]⟩
                      case measure => simp [intOf]; omega
                | false =>
                  go_wp2_with fail
                  clear d2 hE1 hE2 f7 hdkn
                  have HT8 : Hid (Turn (fun q => q = w4.heap.size) w5 (w7.setCell ⟨w4.heap.size, k, none⟩ (.bool true))) := Lib.hid (HT7.out.set _ _ rfl)
                  have HR8 : Hid ((w7.setCell ⟨w4.heap.size, k, none⟩ (.bool true)).rowIs w4.heap.size 4 n (sv (L.take (i + 1)))) := Lib.hid (sv_step HHIL.out HK.out HR7.out)
                  generalize w7.setCell ⟨w4.heap.size, k, none⟩ (.bool true) = w8 at *
                  obtain ⟨a, HA⟩ : ∃ a, Hid (L.getD (i + 1) 0 = a) := ⟨_, Lib.hid rfl⟩
                  go_loopw [14, 15] (fun b j wr => ∃ z y : Nat, z ≤ rl ∧ b = .bool (decide (i + 1 = l) || (row.take z).any fun e => e.1 == a) ∧ j = .int .i64 z ∧ wr = w8.drewN y) (fun _ j _ => rl - (intOf j).toNat)
                  case atStart => exact ⟨0, 0, Nat.zero_le _, by rw [HE.out]; rfl, rfl, rfl⟩
                  case round =>
                    obtain ⟨z, y, hz, rfl, rfl, rfl⟩ := hrel
                    obtain ⟨q0, q1, q2⟩ := HBG.out w8 HT8.out
                    have d7 := (HKW.out w8 HT8.out ⟨br, fr + k, none⟩ HBR.out).trans HE7.out
                    obtain ⟨B, HB⟩ : ∃ B, Hid ((decide (i + 1 = l) || (row.take z).any fun e => e.1 == a) = B) := ⟨_, Lib.hid rfl⟩
                    rw [HB.out]
                    cases B with
                    | true =>
                      by_cases hzl : z < rl
                      · have hdz : decide ((z : Int) < (rl : Int)) = true := decide_eq_true (by omega)
                        go_wp2_with fail
                        go_roundw
                        case rel => exact ⟨i + 1, by omega, by go_num, Lib.hid (HT8.out.drewN _), HR8⟩
                        case measure => simp [intOf]; omega
                      · have hdz : decide ((z : Int) < (rl : Int)) = false := decide_eq_false (by omega)
                        go_wp2_with fail
                        go_roundw
                        case rel => exact ⟨i + 1, by omega, by go_num, Lib.hid (HT8.out.drewN _), HR8⟩
                        case measure => simp [intOf]; omega
                    | false =>
                      obtain ⟨hb1, hb2⟩ := (Bool.or_eq_false_iff).1 HB.out
                      have hil2 : i + 1 < l := by have := of_decide_eq_false hb1; omega
                      have hzl : z < rl := by
                        apply Classical.byContradiction
                        intro hzl
                        rw [List.take_of_length_le (by rw [HRL.out]; omega), List.any_eq_false] at hb2
                        obtain ⟨e, he, he2⟩ := HED.out hil2
                        exact hb2 e he (by rw [he2, HA.out]; simp)
                      have hzr : z < row.length := by rw [HRL.out]; exact hzl
                      have hdz : decide ((z : Int) < (rl : Int)) = true := decide_eq_true (by omega)
                      obtain ⟨bp, op, rfl, hbp, hcp⟩ := HPA.out (by omega)
                      have d8 := (HKW.out w8 HT8.out ⟨bp, op + z * 2, none⟩ hbp).trans (hcp z hzr).1
                      have d9 := HCL.out w8 HT8.out (i + 1) hil2
                      rw [HA.out] at d9
                      have HAS : Hid ((row.take (z + 1)).any (fun e => e.1 == a) = ((row.take z).any (fun e => e.1 == a) || ((row.getD z (0, 0)).1 == a))) := Lib.hid (any_snoc hzr)
                      generalize (row.getD z (0, 0)).1 = x at d8 HAS
                      obtain ⟨C, HC⟩ : ∃ C, Hid ((x == a) = C) := ⟨_, Lib.hid rfl⟩
                      have hC := HC.out
                      clear hcp
                      go_wp2_with fail
                      go_quiet (fail)
                      go_wp2_with fail
                      go_roundw
                      case rel => exact ⟨z + 1, y + nq, hzl, by rw [hb1, HAS.out, hb2, HC.out]; rfl, by go_num, by first | rfl | rw [World.drewN_drewN]⟩
                      case measure => simp [intOf]; omega
              · have hEf := HGD.out hkg
                subst hEf
                rw [show decide (k < gn) = false from decide_eq_false hkg] at hdkn
                go_wp2_with fail
                clear d2 hE1 hE2 f7 hdkn
                have HT8 : Hid (Turn (fun q => q = w4.heap.size) w5 (w7.setCell ⟨w4.heap.size, k, none⟩ (.bool true))) := Lib.hid (HT7.out.set _ _ rfl)
                have HR8 : Hid ((w7.setCell ⟨w4.heap.size, k, none⟩ (.bool true)).rowIs w4.heap.size 4 n (sv (L.take (i + 1)))) := Lib.hid (sv_step HHIL.out HK.out HR7.out)
                generalize w7.setCell ⟨w4.heap.size, k, none⟩ (.bool true) = w8 at *
                obtain ⟨a, HA⟩ : ∃ a, Hid (L.getD (i + 1) 0 = a) := ⟨_, Lib.hid rfl⟩
                go_loopw [14, 15] (fun b j wr => ∃ z y : Nat, z ≤ rl ∧ b = .bool (decide (i + 1 = l) || (row.take z).any fun e => e.1 == a) ∧ j = .int .i64 z ∧ wr = w8.drewN y) (fun _ j _ => rl - (intOf j).toNat)
                case atStart => exact ⟨0, 0, Nat.zero_le _, by rw [HE.out]; rfl, rfl, rfl⟩
                case round =>
                  obtain ⟨z, y, hz, rfl, rfl, rfl⟩ := hrel
                  obtain ⟨q0, q1, q2⟩ := HBG.out w8 HT8.out
                  have d7 := (HKW.out w8 HT8.out ⟨br, fr + k, none⟩ HBR.out).trans HE7.out
                  obtain ⟨B, HB⟩ : ∃ B, Hid ((decide (i + 1 = l) || (row.take z).any fun e => e.1 == a) = B) := ⟨_, Lib.hid rfl⟩
                  rw [HB.out]
                  cases B with
                  | true =>
                    by_cases hzl : z < rl
                    · have hdz : decide ((z : Int) < (rl : Int)) = true := decide_eq_true (by omega)
                      go_wp2_with fail
                      go_roundw
                      case rel => exact ⟨i + 1, by omega, by go_num, Lib.hid (HT8.out.drewN _), HR8⟩
                      case measure => simp [intOf]; omega
                    · have hdz : decide ((z : Int) < (rl : Int)) = false := decide_eq_false (by omega)
                      go_wp2_with fail
                      go_roundw
                      case rel => exact ⟨i + 1, by omega, by go_num, Lib.hid (HT8.out.drewN _), HR8⟩
                      case measure => simp [intOf]; omega
                  | false =>
                    obtain ⟨hb1, hb2⟩ := (Bool.or_eq_false_iff).1 HB.out
                    have hil2 : i + 1 < l := by have := of_decide_eq_false hb1; omega
                    have hzl : z < rl := by
                      apply Classical.byContradiction
                      intro hzl
                      rw [List.take_of_length_le (by rw [HRL.out]; omega), List.any_eq_false] at hb2
                      obtain ⟨e, he, he2⟩ := HED.out hil2
                      exact hb2 e he (by rw [he2, HA.out]; simp)
                    have hzr : z < row.length := by rw [HRL.out]; exact hzl
                    have hdz : decide ((z : Int) < (rl : Int)) = true := decide_eq_true (by omega)
                    obtain ⟨bp, op, rfl, hbp, hcp⟩ := HPA.out (by omega)
                    have d8 := (HKW.out w8 HT8.out ⟨bp, op + z * 2, none⟩ hbp).trans (hcp z hzr).1
                    have d9 := HCL.out w8 HT8.out (i + 1) hil2
                    rw [HA.out] at d9
                    have HAS : Hid ((row.take (z + 1)).any (fun e => e.1 == a) = ((row.take z).any (fun e => e.1 == a) || ((row.getD z (0, 0)).1 == a))) := Lib.hid (any_snoc hzr)
                    generalize (row.getD z (0, 0)).1 = x at d8 HAS
                    obtain ⟨C, HC⟩ : ∃ C, Hid ((x == a) = C) := ⟨_, Lib.hid rfl⟩
                    have hC := HC.out
                    clear hcp
                    go_wp2_with fail
                    go_quiet (fail)
                    go_wp2_with fail
                    go_roundw
                    case rel => exact ⟨z + 1, y + nq, hzl, by rw [hb1, HAS.out, hb2, HC.out]; rfl, by go_num, by first | rfl | rw [World.drewN_drewN]⟩
                    case measure => simp [intOf]; omega
            · obtain rfl : i = l := by omega
              go_wp2_with fail
              refine (awake_any _).mono ?_
              rintro e w7 ⟨rfl, hb7⟩
              go_wp2
              go_ret
              exact ⟨rfl, HB5.out.trans (((HT.out.below (B := w.heap.size) (fun k hk => by omega) HB5.out.size)).trans (hb7.mono (by have := (HKP.out _ HT.out).2; omega)))⟩

set_option maxRecDepth 100000 in
theorem lifted (os : Os) (started : os.Started) (H : Type) (enc : TypeId × Value → H) :
    ReturnsInHanded {} Try.checked os 9 .any (Rows.graphStepsSpec.pre6 enc Try.prog Try.f9 Rows.graphStepsRow.domain false) (Rows.graphStepsSpec.post enc Try.prog Try.f9 false true false false) := by
  refine law_lifted started [26, 22, 33] rfl (by kernel_rfl) Try.func9 rfl (by decide +kernel) rfl (fun ds hl => by
    match ds, hl with
    | [_, _, _], _ => rfl) (ChangeSpec.witness6 (enc := enc) (C := Try.checked) false ⟨#[], #[.agg #[.slice none 0 0, .slice none 0 0, .slice none 0 0], .slice none 0 0, .slice none 0 0], []⟩ 8 (by kernel_rfl) (by kernel_rfl) (by kernel_rfl) (by kernel_rfl)) ?_
  intro W base args ds ps hval hA hlt hsz
  obtain ⟨v0, vs0, d0, ds0, p0, q0, hargs, rfl, rfl, h0, r0⟩ := trodAll_cons hA
  obtain ⟨v1, vs1, d1, ds1, p1, q1, rfl, rfl, rfl, h1, r1⟩ := trodAll_cons r0
  obtain ⟨v2, vs2, d2, ds2, p2, q2, rfl, rfl, rfl, h2, r2⟩ := trodAll_cons r1
  obtain ⟨rfl, rfl, rfl⟩ := trodAll_nil r2
  obtain rfl : args = #[v0, v1, v2] := by cases args; simp_all
  obtain ⟨G0, g0, f0⟩ := open_graph_arg (hval 0 26 v0 rfl rfl) h0
  obtain ⟨A1, c1, x1, rfl, b1, i1, z1⟩ := open_ints_arg (hval 1 22 v1 rfl rfl) h1 hsz 1 rfl rfl
  obtain ⟨A2, c2, l2, rfl, q2, m2, i2⟩ := open_bools_arg (hval 2 33 v2 rfl rfl) h2
  exact walk v0 A1 A2 c1 c2 _ _ x1 l2 W G0 g0 rfl (by omega) i1 rfl (by omega) i2

set_option maxRecDepth 100000 in
theorem over : Rows.graphStepsRow.holds Try.pinned (OpenSpec.ofChange Rows.graphStepsSpec) :=
  OpenClaim.holds_of_wide 9 Try.f9 rfl rfl rfl rfl rfl rfl rfl ⟨rfl, rfl, rfl, rfl, rfl⟩ rfl rfl rfl rfl rfl (by kernel_rfl) Try.func9 (by kernel_rfl)
    (of_decide_eq_true (by kernel_rfl)) (by unfold Func.isWrapper; first | (rw [if_pos (by decide +kernel)]; kernel_rfl) | (rw [if_neg (by decide +kernel)]; exact ⟨rfl, rfl⟩))
    (fun os started H enc _ => lifted os started H enc)

theorem proved : Rows.GraphStepsSaid := over
#print axioms proved
end Go.Proofs.Ytmlkfdmccimdkaa.graphSteps
