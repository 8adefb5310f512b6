/- The law SccJoins: each node is in one part; live are the nodes of cyclic parts; edges from part to part never lead round; nothing that was there is changed. No condition. -/
import Derived.Test.YtnfiohekdbjgoaaSccJoinsPure
import Derived.Test.YtnfiohekdbjgoaaRefTurnR
import Derived.Deep.RegionHeld3
import Derived.Deep.CutRange
namespace Go.Proofs.Ytnfiohekdbjgoaa.sccJoins
open Go.ChangeShapes Go.WideShapes Go.ChangeAt Go.RowKit Go.Maps Go.Proofs.Ytnfiohekdbjgoaa.sc

/-- A world in which a new map, or what was done to it, alone has turned. -/
theorem put {w : World} {b x v : Nat} {ks : List Nat} {f : Nat → Nat} (h : IM w b ks f) (hx : x ≤ 1000000) (hv : v ≤ 1000000) (hn : ks.length < maxLen) (hk : x ∉ ks) (hf : f x = v) : ∃ w', (Instr.mapUpdate 52 (.map (some b)) (.int .i64 (x : Int)) (.int .i64 (v : Int))).run Try.prog w = .ok () w' ∧ IM w' b (ks ++ [x]) f ∧ Below b w w' := by
  obtain ⟨w', h1, h2, h3⟩ := h.update hx hv hn hk
  have hlt := h.lt
  have e : (fun y => if y = x then v else f y) = f := funext fun y => by
    by_cases hy : y = x
    · subst hy; simp [hf]
    · simp [hy]
  rw [e] at h2
  exact ⟨w', h1, h2, h3.below (fun k hk => by rw [hk]; exact Nat.le_refl _) (by omega)⟩
theorem at_below {B : Nat} {w w' : World} (h : Below B w w') {q : Nat} (hq : q < B) : w'.heap[q]? = w.heap[q]? := h.block q hq

theorem gv_ra {W : World} {v1 v3 : Value} {A2 : Option Addr} {n c2 : Nat} {G : Gr} (h : GV W (.agg #[v1, .slice A2 n c2, v3]) G) : RA W A2 G.rows := by
  obtain ⟨B1, d1, B2, d2, B3, d3, e, _, ⟨_, _, d⟩, _⟩ := h
  simp at e
  obtain ⟨_, ⟨rfl, _⟩, _⟩ := e
  exact d
theorem sum_mono {rows : List (List (Int × Int))} {k : Nat} : ∀ {m : Nat}, k ≤ m → sumF rows k ≤ sumF rows m
  | 0, h => by rw [show k = 0 by omega]; exact Nat.le_refl _
  | m + 1, h => by
    by_cases e : k = m + 1
    · rw [e]; exact Nat.le_refl _
    · have := sum_mono (rows := rows) (k := k) (m := m) (by omega)
      show _ ≤ sumF rows m + _
      omega

set_option maxRecDepth 20000 in
set_option maxHeartbeats 8000000 in
theorem walk (v : Value) (G : Gr) (w : World) (hv : GV w v G) (hrow : ∀ i, (G.rows.getD i []).length * 16 ≤ reachBytes) : Calls Try.prog 14 #[v] w (LawPost w) := by
  have HG := Lib.hid hv
  obtain ⟨A1, c1, A2, c2, A3, c3, rfl, _, _, _⟩ := hv
  obtain ⟨n, HN⟩ : ∃ n, Hid (G.rows.length = n) := ⟨_, Lib.hid rfl⟩
  obtain ⟨n1, HN1⟩ : ∃ n, Hid (G.init.length = n) := ⟨_, Lib.hid rfl⟩
  obtain ⟨n3, HN3⟩ : ∃ n, Hid (G.labels.length = n) := ⟨_, Lib.hid rfl⟩
  rw [HN.out, HN1.out, HN3.out] at HG
  rw [HN.out, HN1.out, HN3.out]
  obtain ⟨w1, HW1⟩ : ∃ w1, Hid (w1 = w.alloc (.cells #[.slice A1 n1 c1, .slice A2 n c2, .slice A3 n3 c3] 26)) := ⟨_, Lib.hid rfl⟩
  have HB1 : Hid (Below w.heap.size w w1) := Lib.hid (by rw [HW1.out]; exact (Below.refl _ _).alloc (Nat.le_refl _) _)
  have HBX1 : Hid (B3 w1 w.heap.size (.slice A1 n1 c1) (.slice A2 n c2) (.slice A3 n3 c3)) := Lib.hid (by rw [HW1.out]; exact box3 w _ _ _ _)
  have HFAR := Lib.hid (far2_any (HG.out.below HB1.out) hrow)
  obtain ⟨q0, q1, q2⟩ := HBX1.out
  clear hrow
  go_enter Try.func14, Try.ntmps14
  go_upto_region 1 with (fail)
  rw [← HW1.out]
  go_wp2_with fail
  refine HFAR.out.mono ?_
  rintro e w2 ⟨b, rfl, hf, hb2⟩
  have HF := Lib.hid hf
  have HB2 : Hid (Below w.heap.size w w2) := Lib.hid (HB1.out.trans (hb2.mono HB1.out.size))
  have HBX2 := Lib.hid (HBX1.out.below hb2)
  have HX2 : Hid (∀ W, Below w2.heap.size w2 W → GV W (.agg #[.slice A1 n1 c1, .slice A2 n c2, .slice A3 n3 c3]) G ∧ B3 W w.heap.size (.slice A1 n1 c1) (.slice A2 n c2) (.slice A3 n3 c3) ∧ Below w.heap.size w W) := Lib.hid (fun W hW => ⟨HG.out.below (HB2.out.trans (hW.mono HB2.out.size)), HBX2.out.below hW, HB2.out.trans (hW.mono HB2.out.size)⟩)
  clear hf hb2 q0 q1 q2
  cases b with
  | true =>
    go_wp2_with fail
    refine (lives_any _).mono ?_
    rintro e w4 ⟨rfl, hb4⟩
    go_wp2
    go_ret
    exact ⟨rfl, HB2.out.trans (hb4.mono HB2.out.size)⟩
  | false =>
    obtain ⟨hn60, hsum, hr60⟩ := HF.out rfl
    rw [HN.out] at hn60 hsum
    have HR60 := Lib.hid hr60
    have HSUM := Lib.hid hsum
    have HN100 : Hid (G.rows.length ≤ 100) := Lib.hid (by rw [HN.out]; omega)
    clear hr60 hsum
    have d0 := (HX2.out w2 (Below.refl _ _)).2.1
    unfold B3 at d0
    go_wp2_with fail
    go_cut [3, 4, 5] from 21 (fun a b c W => ∃ (L : List Int) (A D : Option Addr) (ca cd : Nat) (lv : Nat → Bool) (v3 : Value) (vals : Nat → Value), a = .slice A n ca ∧ b = .slice D n cd ∧ c = v3 ∧ Hid (OfL n (eR n G.rows) L) ∧ Hid (IA W A L) ∧ Hid (∀ i, i < n → (lv i = true ↔ Wp (eR n G.rows) i i)) ∧ Hid (0 < n → ∃ b, D = some ⟨b, 0, none⟩ ∧ b < W.heap.size ∧ ∀ i, i < n → W.cell? ⟨b, i, none⟩ = some (.bool (lv i))) ∧ Hid (PT w2.heap.size W v3 (stF (lstF L) n).length vals (fun j => memF (lstF L) n ((stF (lstF L) n).getD j 0))) ∧ Hid (Below w2.heap.size w2 W))
    case first =>
      go_region_held3 (fun w' => w'.cell? ⟨w.heap.size, 0, none⟩ = some (.slice A1 n1 c1) ∧ w'.cell? ⟨w.heap.size, 1, none⟩ = some (.slice A2 n c2) ∧ w'.cell? ⟨w.heap.size, 2, none⟩ = some (.slice A3 n3 c3))
        (first | exact d0 | exact d3 | exact d4 | exact d5 | go_keep)
        (first
          | (go_at_call 37; refine (of_any (HX2.out _ (by first | exact Below.refl _ _ | exact (Below.refl _ _).drew)).1 HN100.out HR60.out).mono ?_; rw [HN.out]; rintro e w3 ⟨L, hL, A, ca, rfl, hA, hb3, _⟩; have HB3 : Hid (Below w2.heap.size w2 w3) := Lib.hid ((by first | exact Below.refl _ _ | exact (Below.refl _ _).drew : Below w2.heap.size w2 _).trans hb3); have d3 := (HX2.out w3 HB3.out).2.1; unfold B3 at d3)
          | (go_at_call 43; refine (live_any (HX2.out _ HB3.out).1 HN100.out HR60.out).mono ?_; rw [HN.out]; rintro e w4 ⟨D, cd, rfl, ⟨lv, hl1, hi1⟩, hb4⟩; have HB4 : Hid (Below w2.heap.size w2 w4) := Lib.hid (HB3.out.trans (hb4.mono HB3.out.size)); have d4 := (HX2.out w4 HB4.out).2.1; unfold B3 at d4)
          | (go_at_call 39; refine (parts_any (HX2.out _ HB4.out).1 HN100.out HR60.out).mono ?_; rw [HN.out]; rintro e w5 ⟨L2, hL2, v3, vals, rfl, hp, hb5⟩; have HB5 : Hid (Below w2.heap.size w2 w5) := Lib.hid (HB4.out.trans (hb5.mono HB4.out.size)); have d5 := (HX2.out w5 HB5.out).2.1; unfold B3 at d5)
          | fail)
      go_wp2
      go_meet
      case rel =>
        obtain rfl : L = L2 := OfL.one hL hL2
        exact ⟨L, A, D, ca, cd, lv, v3, vals, by rw [hL.1], rfl, rfl, Lib.hid hL, Lib.hid ((hA.ia.below hb4).below hb5), Lib.hid hi1, Lib.hid (fun h0 => by
          obtain ⟨b, e1, _, e2, e3⟩ := hl1 h0
          exact ⟨b, e1, Nat.lt_of_lt_of_le e2 hb5.size, fun i hi => (hb5.cell (p := ⟨b, i, none⟩) e2).trans (e3 i hi)⟩), Lib.hid (hp.mono HB4.out.size), HB5⟩
    case rest =>
      obtain ⟨L, A, D, ca, cd, lv, v3, vals, rfl, rfl, rfl, HL, HIA, HLV, HLC, HPT, HBW⟩ := hcut
      obtain ⟨cnt, HCNT⟩ : ∃ cnt, Hid ((stF (lstF L) n).length = cnt) := ⟨_, Lib.hid rfl⟩
      have hcn : cnt ≤ n := by have := stF_le (lstF L) n; have := HCNT.out; omega
      rw [HCNT.out] at HPT
      obtain ⟨X1, x1, h1⟩ := HPT.out.form
      subst h1
      have HX : Hid (∀ W, Below wc.heap.size wc W → GV W (.agg #[.slice A1 n1 c1, .slice A2 n c2, .slice A3 n3 c3]) G ∧ B3 W w.heap.size (.slice A1 n1 c1) (.slice A2 n c2) (.slice A3 n3 c3) ∧ Below w.heap.size w W) := Lib.hid (fun W hW => HX2.out W (HBW.out.trans (hW.mono HBW.out.size)))
      have hnn : ((n : Int) != (n : Int)) = false := by simp
      have hmm := @run_makeMap Try.prog
      clear d0
      have d1 := (HX.out wc (Below.refl _ _)).2.1
      unfold B3 at d1
      go_wp2_with fail
      clear hmm d1
      go_loopw [46] (fun i wr => ∃ (k : Nat) (ks : List Nat), k ≤ cnt ∧ i = .int .i64 k ∧ Hid (IM wr wc.heap.size ks (plF L)) ∧ Hid (MetK n L k 0 ks) ∧ Hid (Below wc.heap.size wc wr)) (fun i _ => cnt - (intOf i).toNat)
      case atStart => exact ⟨0, [], by omega, rfl, Lib.hid (IM.made _ _), Lib.hid (MetK.none_ _ _), Lib.hid ((Below.refl _ _).alloc (Nat.le_refl _) _)⟩
      case round =>
        obtain ⟨k, ks, hk, rfl, HM, HK, HB⟩ := hrel
        by_cases hlt : k < cnt
        · obtain ⟨g1, y1, hv1, _, hg1, _, hc1, _⟩ := HPT.out.cell (by omega)
          injection hv1 with hv11 _ hv12
          subst hv11 hv12
          have o1 := (HB.out.cell (p := ⟨g1, k, none⟩) hg1).trans (hc1 k hlt)
          obtain ⟨l, HLL⟩ : ∃ l, Hid (memF (lstF L) n ((stF (lstF L) n).getD k 0) = l) := ⟨_, Lib.hid rfl⟩
          have hr1 := HPT.out.row k hlt
          rw [HLL.out] at hr1
          obtain ⟨P1, z1, e1, i1⟩ := hr1.form
          obtain ⟨len, HLEN⟩ : ∃ len, Hid (len = l.length) := ⟨_, Lib.hid rfl⟩
          rw [e1, ← HLEN.out] at o1
          have hlen : len ≤ n := by have := memF_le (lstF L) n ((stF (lstF L) n).getD k 0); rw [HLL.out] at this; have := HLEN.out; omega
          have HI1 := Lib.hid i1
          have hk60 : k ≤ 60 := by omega
          clear hc1 hr1 e1 i1
          go_wp2_with fail
          go_loopw [53] (fun i wq => ∃ (j : Nat) (kt : List Nat), j ≤ len ∧ i = .int .i64 j ∧ Hid (IM wq wc.heap.size kt (plF L)) ∧ Hid (MetK n L k j kt) ∧ Hid (Below wc.heap.size wc wq)) (fun i _ => len - (intOf i).toNat)
          case atStart => exact ⟨0, ks, by omega, rfl, HM, HK, HB⟩
          case round =>
            obtain ⟨j, kt, hj, rfl, HMQ, HKQ, HBQ⟩ := hrel
            by_cases hltj : j < len
            · obtain ⟨x, hx1, hx2, hx3, hx4, hx5, hx6, hx7⟩ := node_at HL.out (by rw [HCNT.out]; exact hlt) HKQ.out (by rw [HLL.out, ← HLEN.out]; exact hltj)
              rw [HLL.out] at hx1 hx5 hx7
              obtain ⟨bp, op, rfl, hbp, hcp⟩ := HI1.out (by rw [← HLEN.out]; omega)
              have cp0 := (HBQ.out.cell (p := ⟨bp, op + 0, none⟩) hbp).trans (hcp 0 (by rw [← HLEN.out]; omega))
              have cpj := (HBQ.out.cell (p := ⟨bp, op + j, none⟩) hbp).trans (hcp j (by rw [← HLEN.out]; omega))
              obtain ⟨ba, oa, rfl, hba, hca⟩ := HIA.out (by rw [HL.out.1]; omega)
              have cax := (HBQ.out.cell (p := ⟨ba, oa + x, none⟩) hba).trans (hca x (by rw [HL.out.1]; omega))
              obtain ⟨bd, rfl, hbd, hcd⟩ := HLC.out (by omega)
              have cdx := (HBQ.out.cell (p := ⟨bd, x, none⟩) hbd).trans (hcd x hx2)
              rw [hx1] at cpj
              rw [hx5] at cax
              rw [Nat.add_zero] at cp0
              generalize l.getD 0 0 = s at cp0 cax
              have HBZ : Hid (∀ b : Bool, (b = true ↔ CyP G.rows.length G.rows l) → b = lv x) := Lib.hid (fun b hb => by rw [HN.out] at hb; exact bool_iff (hb.trans hx7) (HLV.out x hx2))
              generalize lv x = z at cdx HBZ
              have lk := HMQ.out.look_ok (x := x) (by omega)
              rw [if_neg hx3, decide_eq_false hx3] at lk
              have hmax : kt.length < maxLen := by
                have := nodup_le HKQ.out.1 (m := List.range n) (fun y hy => List.mem_range.2 ((HKQ.out.2 y).1 hy).1)
                rw [List.length_range] at this
                unfold maxLen; omega
              have HMAX := Lib.hid hmax
              have HX6 := Lib.hid hx6
              have HX3 := Lib.hid hx3
              have HX4 := Lib.hid hx4
              have hlt0 : decide ((x : Int) < 0) = false := by simp
              have hge0 : decide ((n : Int) ≤ (x : Int)) = false := by simp; omega
              have hge2 : ¬ ((n : Int) ≤ (x : Int)) := by omega
              have hlp0 : 0 < len := by omega
              have hlp1 : (0 : Int) < (len : Int) := by omega
              have hge3 : ¬ (n ≤ x) := by omega
              have hss : (s != s) = false := by simp
              have hzz : (z != z) = false := by simp
              obtain ⟨e0, e1, e2⟩ := (HX.out wr HBQ.out).2.1
              have d20 : wr.cell? ⟨ba, oa + x, none⟩ = some (.int .i64 s) ∧ wr.cell? ⟨bp, op, none⟩ = some (.int .i64 s) ∧ wr.cell? ⟨bd, x, none⟩ = some (.bool z) ∧ wr.cell? ⟨w.heap.size, 0, none⟩ = some (.slice A1 n1 c1) ∧ wr.cell? ⟨w.heap.size, 1, none⟩ = some (.slice A2 n c2) ∧ wr.cell? ⟨w.heap.size, 2, none⟩ = some (.slice A3 n3 c3) := ⟨cax, cp0, cdx, e0, e1, e2⟩
              have HD20 : Hid (∀ W, Below wc.heap.size wr W → W.cell? ⟨ba, oa + x, none⟩ = some (.int .i64 s) ∧ W.cell? ⟨bp, op, none⟩ = some (.int .i64 s) ∧ W.cell? ⟨bd, x, none⟩ = some (.bool z) ∧ W.cell? ⟨w.heap.size, 0, none⟩ = some (.slice A1 n1 c1) ∧ W.cell? ⟨w.heap.size, 1, none⟩ = some (.slice A2 n c2) ∧ W.cell? ⟨w.heap.size, 2, none⟩ = some (.slice A3 n3 c3)) := Lib.hid (fun W hW => by
                obtain ⟨f0, f1, f2⟩ := (HX.out W (HBQ.out.trans hW)).2.1
                exact ⟨(hW.cell (p := ⟨ba, oa + x, none⟩) hba).trans cax, (hW.cell (p := ⟨bp, op, none⟩) hbp).trans cp0, (hW.cell (p := ⟨bd, x, none⟩) hbd).trans cdx, f0, f1, f2⟩)
              have HXR : Hid (∀ W, Below wr.heap.size wr W → GV W (.agg #[.slice A1 n1 c1, .slice A2 n c2, .slice A3 n3 c3]) G ∧ IA W (some ⟨bp, op, none⟩) l) := Lib.hid (fun W hW => ⟨(HX.out W (HBQ.out.trans (hW.mono HBQ.out.size))).1, HI1.out.below (HBQ.out.trans (hW.mono HBQ.out.size))⟩)
              clear hx1 hx5 hx7 hx6 hcp hca hcd cp0 cax cdx e0 e1 e2 hx3 hx4 hmax
              go_wp2_with fail
              clear lk
              go_region_held3 (fun w' => w'.cell? ⟨ba, oa + x, none⟩ = some (.int .i64 s) ∧ w'.cell? ⟨bp, op, none⟩ = some (.int .i64 s) ∧ w'.cell? ⟨bd, x, none⟩ = some (.bool z) ∧ w'.cell? ⟨w.heap.size, 0, none⟩ = some (.slice A1 n1 c1) ∧ w'.cell? ⟨w.heap.size, 1, none⟩ = some (.slice A2 n c2) ∧ w'.cell? ⟨w.heap.size, 2, none⟩ = some (.slice A3 n3 c3))
                (first | exact d20 | exact d21 | go_keep)
                (first
                  | (go_at_call 41; refine (cyclic_any (HXR.out _ (by first | exact Below.refl _ _ | exact (Below.refl _ _).drew)).1 _ len z1 l HN100.out HR60.out HLEN.out (by omega) (HXR.out _ (by first | exact Below.refl _ _ | exact (Below.refl _ _).drew)).2).mono ?_; rintro e w7 ⟨⟨b, rfl, hbi⟩, hb7⟩; have hbz := HBZ.out b hbi; rw [hbz]; have HB7 : Hid (Below wr.heap.size wr w7) := Lib.hid ((by first | exact Below.refl _ _ | exact (Below.refl _ _).drew : Below wr.heap.size wr _).trans hb7); have d21 := HD20.out w7 (HB7.out.mono HBQ.out.size); obtain ⟨w8, hup, hm8, hb8⟩ := put (HMQ.out.of_block (HB7.out.block _ HMQ.out.lt)) (x := x) (v := k) (by omega) (by omega) HMAX.out HX3.out HX4.out; have HM8 := Lib.hid hm8; have HB8 : Hid (Below wc.heap.size wc w8) := Lib.hid ((HBQ.out.trans (HB7.out.mono HBQ.out.size)).trans hb8); clear hbi hb7 hbz hm8 hb8)
                  | fail)
              go_wp2
              go_roundw
              case rel => exact ⟨j + 1, kt ++ [x], by omega, by go_num, HM8, HX6, HB8⟩
              case measure => simp [intOf]; omega
            · obtain rfl : len = j := by omega
              have HKN := Lib.hid (MetK.next HL.out (by rw [HLL.out]; exact HLEN.out) HKQ.out)
              go_wp2_with fail
              go_roundw
              case rel => exact ⟨k + 1, kt, by omega, by go_num, HMQ, HKN, HBQ⟩
              case measure => simp [intOf]; omega
        · obtain rfl : cnt = k := by omega
          have hmk : ∀ W : World, (Instr.makeSlice 23 (.int .i64 (cnt : Int)) (.int .i64 (cnt : Int))).run Try.prog W = .ok (.slice (some ⟨W.heap.size, 0, none⟩) cnt cnt) (W.alloc (.cells (madeCells #[.slice none 0 0] cnt) 39)) := fun W => by
            obtain ⟨i0, hi, hz0, hz1, hz2⟩ := info_parts (show (Try.prog.info? 39).map (fun i => (i.zero, i.size, i.bytes)) = some (some (.slice none 0 0), 1, 24) by kernel_rfl)
            have hr := run_make (P := Try.prog) W 23 39 i0 _ (by kernel_rfl) hi hz0 .i64 .i64 (cnt : Int) (cnt : Int) (by omega) (Int.le_refl _) (by rw [hz2]; omega) (by omega)
            rw [hr, hz1]
            rw [Int.toNat_natCast, Nat.mul_one]
            rfl
          obtain ⟨hall, hlk⟩ := MetK.all HL.out (by rw [HCNT.out]; exact HK.out)
          have HALL : Hid (∀ x, x < n → x ∈ ks) := Lib.hid hall
          have hln := HM.out.len 3
          rw [hlk] at hln
          clear hall hlk
          obtain ⟨t, HT0⟩ : ∃ t, Hid (t = wr.heap.size) := ⟨_, Lib.hid rfl⟩
          go_upto_region 23 with (fail)
          obtain ⟨w9, HW9⟩ : ∃ w9, Hid (w9 = (wr.alloc (.cells (madeCells #[.slice none 0 0] cnt) 39)).alloc (.cells #[.slice none 0 0, .slice (some ⟨wr.heap.size, 0, none⟩) cnt cnt, .slice none 0 0] 26)) := ⟨_, Lib.hid rfl⟩
          rw [← HW9.out, ← HT0.out]
          clear hmk hln
          have HZ9 : Hid (w9.heap.size = t + 2) := Lib.hid (by rw [HW9.out, HT0.out]; simp)
          have HB9 : Hid (Below wr.heap.size wr w9) := Lib.hid (by rw [HW9.out]; exact ((Below.refl _ _).alloc (Nat.le_refl _) _).alloc (by simp) _)
          have hmt : wc.heap.size < t := by rw [HT0.out]; exact HM.out.lt
          have HBX9 : Hid (w9.heap[t + 1]? = some (.cells #[.slice none 0 0, .slice (some ⟨t, 0, none⟩) cnt cnt, .slice none 0 0] 26 (0, 0))) := Lib.hid (by rw [HW9.out, HT0.out]; exact ah_new _ _ _ (by simp))
          have HOR9 : Hid (OR w9 w9.heap.size t cnt (fun _ => .slice none 0 0) (fun _ => [])) := Lib.hid (by
            refine ⟨?_, fun i _ => World.ownsRow_nil _ _ _ _, fun i _ j _ _ => .inl rfl, by rw [HZ9.out]; omega⟩
            rw [HW9.out, HT0.out]
            exact (World.rowIs_made wr (.slice none 0 0) cnt 39).of_block (Below.heap_alloc _ _ _ (by simp)))
          have HKK : Hid (∀ W, Turn (fun q => q = t) w9 W → IM W wc.heap.size ks (plF L) ∧ W.heap[t + 1]? = some (.cells #[.slice none 0 0, .slice (some ⟨t, 0, none⟩) cnt cnt, .slice none 0 0] 26 (0, 0)) ∧ Below wc.heap.size wc W ∧ t + 2 ≤ W.heap.size) := Lib.hid (fun W hW => by
            refine ⟨HM.out.of_block ((hW.block _ (by rw [HZ9.out]; omega) (by omega)).trans (HB9.out.block _ HM.out.lt)), (hW.block _ (by rw [HZ9.out]; omega) (by omega)).trans HBX9.out, (HB.out.trans (HB9.out.mono HB.out.size)).trans (hW.below (fun q e => by rw [e]; omega) (by rw [HZ9.out]; omega)), by rw [← HZ9.out]; exact hW.size⟩)
          have HRAc : Hid (RA wc A2 G.rows) := Lib.hid (gv_ra (HX.out wc (Below.refl _ _)).1)
          obtain ⟨e0, e1, e2⟩ := (HX.out w9 (HKK.out w9 (Turn.refl _ _)).2.2.1).2.1
          go_wp2_with fail
          clear e0 e1 e2
          go_loopw [109] (fun i wq => ∃ (k : Nat) (vs : Nat → Value) (tb : Nat → List (Int × Int)), k ≤ n ∧ i = .int .i64 k ∧ Hid (OR wq w9.heap.size t cnt vs tb) ∧ Hid (ConO n G.rows L tb) ∧ Hid (∀ a, (tb a).length ≤ sumF G.rows k) ∧ Hid (Turn (fun q => q = t) w9 wq)) (fun i _ => n - (intOf i).toNat)
          case atStart => exact ⟨0, _, _, by omega, rfl, HOR9, Lib.hid (ConO.none_ _ _ _), Lib.hid (fun _ => Nat.zero_le _), Lib.hid (Turn.refl _ _)⟩
          case round =>
            obtain ⟨k, vs, tb, hk3, rfl, HOR, HCO, HLE, HT⟩ := hrel
            by_cases hlt3 : k < n
            · obtain ⟨b2, o2, rfl, hb2, hcc⟩ := HRAc.out (by rw [HN.out]; omega)
              obtain ⟨A', c', hcell, _, _, hpa⟩ := hcc k (by rw [HN.out]; exact hlt3)
              have HBQ := Lib.hid (HKK.out wr HT.out).2.2.1
              have cr := (HBQ.out.cell (p := ⟨b2, o2 + k, none⟩) hb2).trans hcell
              obtain ⟨row, HRW⟩ : ∃ row, Hid (G.rows.getD k [] = row) := ⟨_, Lib.hid rfl⟩
              rw [HRW.out] at cr hpa
              obtain ⟨len, HLN⟩ : ∃ len, Hid (row.length = len) := ⟨_, Lib.hid rfl⟩
              rw [HLN.out] at cr
              have HPA := Lib.hid hpa
              have HSK : Hid (sumF G.rows (k + 1) = sumF G.rows k + len) := Lib.hid (by show sumF G.rows k + _ = _; rw [HRW.out, HLN.out])
              have hsk : sumF G.rows k + len ≤ 2000 := by rw [← HSK.out]; exact Nat.le_trans (sum_mono (by omega)) HSUM.out
              have hlen2 : len ≤ 2000 := by omega
              clear hcc hcell hpa
              go_wp2_with fail
              clear cr
              go_loopw [116] (fun i wq => ∃ (j : Nat) (vs : Nat → Value) (tb : Nat → List (Int × Int)), j ≤ len ∧ i = .int .i64 j ∧ Hid (OR wq w9.heap.size t cnt vs tb) ∧ Hid (ConO n G.rows L tb) ∧ Hid (∀ a, (tb a).length ≤ sumF G.rows k + j) ∧ Hid (Turn (fun q => q = t) w9 wq)) (fun i _ => len - (intOf i).toNat)
              case atStart => exact ⟨0, vs, tb, by omega, rfl, HOR, HCO, HLE, HT⟩
              case round =>
                obtain ⟨j, vs, tb, hj, rfl, HOR, HCO, HLE, HT⟩ := hrel
                by_cases hltj : j < len
                · obtain ⟨b3, o3, rfl, hb3, hc3⟩ := HPA.out (by rw [HLN.out]; omega)
                  obtain ⟨c31, c32⟩ := hc3 j (by rw [HLN.out]; exact hltj)
                  have HBQ := Lib.hid (HKK.out wr HT.out).2.2.1
                  have y1 := (HBQ.out.cell (p := ⟨b3, o3 + j * 2, none⟩) hb3).trans c31
                  have y2 := (HBQ.out.cell (p := ⟨b3, o3 + j * 2 + 1, none⟩) hb3).trans c32
                  have hjl : j < row.length := by rw [HLN.out]; exact hltj
                  have HMEM : Hid (row.getD j (0, 0) ∈ G.rows.getD k []) := Lib.hid (by
                    rw [HRW.out, show row.getD j (0, 0) = row[j] by simp [List.getD, hjl]]
                    exact List.getElem_mem hjl)
                  generalize row.getD j (0, 0) = z at y1 y2 HMEM
                  obtain ⟨z1, z2⟩ := z
                  simp only [] at y1 y2
                  clear c31 c32 hc3 hjl
                  obtain ⟨eb, HEB⟩ : ∃ eb, Hid (eb = wr.heap.size) := ⟨_, Lib.hid rfl⟩
                  go_upto_region 29 with (fail)
                  obtain ⟨we, HWE⟩ : ∃ we, Hid (we = wr.alloc (.cells #[.int .i64 z1, .int .i64 z2] 46)) := ⟨_, Lib.hid rfl⟩
                  rw [← HWE.out, ← HEB.out]
                  clear y1 y2
                  have HBE : Hid (Below wr.heap.size wr we) := Lib.hid (by rw [HWE.out]; exact (Below.refl _ _).alloc (Nat.le_refl _) _)
                  have HCE : Hid (we.heap[eb]? = some (.cells #[.int .i64 z1, .int .i64 z2] 46 (0, 0))) := Lib.hid (by rw [HWE.out, HEB.out]; exact World.alloc_heap_new _ _)
                  have HTE : Hid (Turn (fun q => q = t) w9 we) := Lib.hid (HT.out.then_below (HBE.out.mono HT.out.size))
                  have HOE : Hid (OR we w9.heap.size t cnt vs tb) := Lib.hid (HOR.out.below HBE.out)
                  have HME := Lib.hid (HKK.out we HTE.out).1
                  have HLE2 : Hid (∀ a, (tb a).length ≤ sumF G.rows k + (j + 1)) := Lib.hid (fun a => by have := HLE.out a; omega)
                  have e0 : we.cell? ⟨eb, 0, none⟩ = some (.int .i64 z1) := cell_of_row _ _ 0 _ _ _ HCE.out
                  by_cases hz0 : (0 : Int) ≤ z1
                  · by_cases hzn : z1 < (n : Int)
                    · obtain ⟨y, rfl, hy⟩ : ∃ y : Nat, z1 = (y : Int) ∧ y < n := ⟨z1.toNat, by omega, by omega⟩
                      have lk1 := HME.out.look (x := y) (by omega)
                      have lk2 := HME.out.look (x := k) (by omega)
                      rw [if_pos (HALL.out y hy)] at lk1
                      rw [if_pos (HALL.out k hlt3)] at lk2
                      have HER : Hid (eR n G.rows k y) := Lib.hid (eR_mem.2 ⟨hy, _, HMEM.out, rfl⟩)
                      have hacn : plF L k < cnt := by rw [← HCNT.out]; exact (pl_at HL.out hlt3).1
                      obtain ⟨a, HA⟩ : ∃ a, Hid (plF L k = a) := ⟨_, Lib.hid rfl⟩
                      obtain ⟨c, HC⟩ : ∃ c, Hid (plF L y = c) := ⟨_, Lib.hid rfl⟩
                      rw [HC.out] at lk1
                      rw [HA.out] at lk2 hacn
                      by_cases hca : c = a
                      · have hq : ((c : Int) != (a : Int)) = false := by simp [hca]
                        go_wp2_with fail
                        go_roundw
                        case rel => exact ⟨j + 1, vs, tb, by omega, by go_num, HOE, HCO, HLE2, HTE⟩
                        case measure => simp [intOf]; omega
                      · have hq : ((c : Int) != (a : Int)) = true := by simp; omega
                        go_upto_region 30 with (fail)
                        have hord : OR we.drew w9.heap.size t cnt vs tb := ⟨HOE.out.tab, HOE.out.own, HOE.out.apart, HOE.out.lt⟩
                        have hszE := HTE.out.size
                        have hlta : (tb a).length ≤ 2000 := by have := HLE.out a; omega
                        obtain ⟨g', cap', w', hr, g6, g7, hg, horS⟩ := table_append hord hacn (by show w9.heap.size ≤ we.heap.size; exact hszE) ((c : Int), (0 : Int)) (by omega)
                        have hownb : ∀ q, (vs a).ownBlock = some q → w9.heap.size ≤ q ∧ q ≠ eb := fun q e => ⟨((HOE.out.own a hacn).lt q e).1, by have := ((HOR.out.own a hacn).lt q e).2; rw [HEB.out]; omega⟩
                        obtain ⟨A4, l4, c4, hv4⟩ : ∃ A' l2 c2, vs a = .slice A' l2 c2 := by
                          rcases (HOE.out.own a hacn).2 with ⟨h, _⟩ | ⟨g, cap, cur, h, _⟩
                          · exact ⟨_, _, _, h⟩
                          · exact ⟨_, _, _, h⟩
                        have HG4 : Hid (we.drew.cell? ⟨t, a, none⟩ = some (.slice A4 l4 c4)) := Lib.hid (by rw [← hv4]; exact HOE.out.tab.cell hacn)
                        have HG5 : Hid (we.cell? ⟨t, a, none⟩ = some (.slice A4 l4 c4) ∧ (we.alloc (.cells #[.int .i64 (c : Int), .int .i64 0] 46)).cell? ⟨t, a, none⟩ = some (.slice A4 l4 c4)) := Lib.hid ⟨by rw [← hv4]; exact HOE.out.tab.cell hacn, by rw [← hv4]; exact (((Below.refl _ we).alloc (Nat.le_refl _) _).cell (p := ⟨t, a, none⟩) HOE.out.tab.lt).trans (HOE.out.tab.cell hacn)⟩
                        have hbw : Below w9.heap.size we w' := Below.grown ((Below.refl _ we).drew.alloc hszE _) hg (by simp; omega) (fun q e => (hownb q e).1)
                        have hlte := (Array.getElem?_eq_some_iff.1 HCE.out).1
                        have hz9 := HZ9.out
                        have hke : ∀ q, q < we.heap.size → (q < w9.heap.size ∨ q = eb) → w'.heap[q]? = we.heap[q]? := fun q hq h => (hg.block _ (by simp; omega) (fun e => by have := hownb q e.symm; omega)).trans (Below.heap_alloc _ _ _ (by exact hq))
                        have HSA : Hid (∀ W : World, W.heap[t + 1]? = we.heap[t + 1]? → W.heap[eb]? = we.heap[eb]? → W.heap[wc.heap.size]? = we.heap[wc.heap.size]? → W.cell? ⟨t + 1, 1, none⟩ = some (.slice (some ⟨t, 0, none⟩) cnt cnt) ∧ W.cell? ⟨eb, 0, none⟩ = some (.int .i64 (y : Int)) ∧ (Instr.lookup 52 (.map (some wc.heap.size)) (.int .i64 (k : Int)) false).run Try.prog W = .ok (.int .i64 (a : Int)) W ∧ (Instr.lookup 52 (.map (some wc.heap.size)) (.int .i64 (y : Int)) false).run Try.prog W = .ok (.int .i64 (c : Int)) W) := Lib.hid (fun W h1 h2 h3 => ⟨cell_of_row _ _ 1 _ _ _ (h1.trans (HKK.out we HTE.out).2.1), cell_of_row _ _ 0 _ _ _ (h2.trans HCE.out), by have h := (HME.out.of_block h3).look (x := k) (by omega); rw [if_pos (HALL.out k hlt3), HA.out] at h; exact h, by have h := (HME.out.of_block h3).look (x := y) (by omega); rw [if_pos (HALL.out y hy), HC.out] at h; exact h⟩)
                        have HS0 := Lib.hid (HSA.out we.drew rfl rfl rfl)
                        have HS1 := Lib.hid (HSA.out (we.drew.alloc (.cells #[.int .i64 (c : Int), .int .i64 0] 46)) (Below.heap_alloc _ _ _ (by show _ < we.heap.size; omega)) (Below.heap_alloc _ _ _ (by show _ < we.heap.size; omega)) (Below.heap_alloc _ _ _ (by show _ < we.heap.size; omega)))
                        have HS2 := Lib.hid (HSA.out w' (hke _ (by omega) (by omega)) (hke _ (by omega) (by omega)) (hke _ (by omega) (by omega)))
                        have hne1 : eb ≠ t := by have := (HKK.out wr HT.out).2.2.2; have := HEB.out; omega
                        have HS3 := Lib.hid (HSA.out (w'.setCell ⟨t, a, none⟩ (.slice (some ⟨g', 0, none⟩) ((tb a).length + 1) cap')) ((Below.heap_setCell w' _ _ _ (by simp)).trans (hke _ (by omega) (by omega))) ((Below.heap_setCell w' _ _ _ hne1).trans (hke _ (by omega) (by omega))) ((Below.heap_setCell w' _ _ _ (by simp; omega)).trans (hke _ (by omega) (by omega))))
                        have HT8 : Hid (Turn (fun q => q = t) w9 (w'.setCell ⟨t, a, none⟩ (.slice (some ⟨g', 0, none⟩) ((tb a).length + 1) cap'))) := Lib.hid ((HTE.out.then_below hbw).set _ _ rfl)
                        have HOR8 := Lib.hid horS
                        have HCO8 : Hid (ConO n G.rows L (fun j => if j = a then tb a ++ [((c : Int), (0 : Int))] else tb j)) := Lib.hid (by have h := HCO.out.one hlt3 hy HER.out (by rw [HA.out, HC.out]; omega); rw [HA.out, HC.out] at h; exact h)
                        have HLE8 : Hid (∀ b, ((fun j => if j = a then tb a ++ [((c : Int), (0 : Int))] else tb j) b).length ≤ sumF G.rows k + (j + 1)) := Lib.hid (fun b => by
                          by_cases e : b = a
                          · simp only [if_pos e, List.length_append, List.length_cons, List.length_nil]
                            have := HLE.out a; omega
                          · simp only [if_neg e]
                            have := HLE.out b; omega)
                        rw [hv4] at hr g6
                        have hr := Lib.hid hr
                        have HG6 := Lib.hid g6
                        have HG7 := Lib.hid g7
                        clear hord hszE hlta g6 g7 hg horS hownb hbw hke hv4 e0 lk1 lk2 hlte hq
                        refine wp_region_held_drew (S := (fun W => W.cell? ⟨t + 1, 1, none⟩ = some (.slice (some ⟨t, 0, none⟩) cnt cnt) ∧ W.cell? ⟨eb, 0, none⟩ = some (.int .i64 (y : Int)) ∧ (Instr.lookup 52 (.map (some wc.heap.size)) (.int .i64 (k : Int)) false).run Try.prog W = .ok (.int .i64 (a : Int)) W ∧ (Instr.lookup 52 (.map (some wc.heap.size)) (.int .i64 (y : Int)) false).run Try.prog W = .ok (.int .i64 (c : Int)) W)) (by kernel_rfl) HS0.out ?_
                        intro hS0
                        clear hS0
                        simp only [Array.replicate, List.replicate]
                        refine wpAnyH_take (i := 0) (oi := ⟨some 139, _, _, _, _, _⟩) (v := .pointer (some ⟨t + 1, 1, none⟩)) rfl (by kernel_rfl) (by kernel_rfl) (by kernel_rfl) (fun _ _ _ h => h) (Or.inl ⟨by kernel_rfl, fun wS hS => ?_⟩) HS0.out ?_
                        · clear hS
                          go_simp
                        try simp only [Act.put, List.setIfInBounds_toArray, List.set_cons_zero, List.set_cons_succ]
                        refine wpAnyH_take (i := 1) (oi := ⟨some 140, _, _, _, _, _⟩) (v := .slice (some ⟨t, 0, none⟩) cnt cnt) rfl (by kernel_rfl) (by kernel_rfl) (by kernel_rfl) (fun _ _ _ h => h) (Or.inl ⟨by kernel_rfl, fun wS hS => ?_⟩) HS0.out ?_
                        · obtain ⟨s0, s1, s2, s3⟩ := hS
                          go_simp
                        try simp only [Act.put, List.setIfInBounds_toArray, List.set_cons_zero, List.set_cons_succ]
                        refine wpAnyH_take (i := 2) (oi := ⟨some 141, _, _, _, _, _⟩) (v := .map (some wc.heap.size)) rfl (by kernel_rfl) (by kernel_rfl) (by kernel_rfl) (fun _ _ _ h => h) (Or.inl ⟨by kernel_rfl, fun wS hS => ?_⟩) HS0.out ?_
                        · clear hS
                          go_simp
                        try simp only [Act.put, List.setIfInBounds_toArray, List.set_cons_zero, List.set_cons_succ]
                        refine wpAnyH_take (i := 3) (oi := ⟨some 142, _, _, _, _, _⟩) (v := .int .i64 (k : Int)) rfl (by kernel_rfl) (by kernel_rfl) (by kernel_rfl) (fun _ _ _ h => h) (Or.inl ⟨by kernel_rfl, fun wS hS => ?_⟩) HS0.out ?_
                        · clear hS
                          go_simp
                        try simp only [Act.put, List.setIfInBounds_toArray, List.set_cons_zero, List.set_cons_succ]
                        refine wpAnyH_take (i := 4) (oi := ⟨some 143, _, _, _, _, _⟩) (v := .int .i64 (a : Int)) rfl (by kernel_rfl) (by kernel_rfl) (by kernel_rfl) (fun _ _ _ h => h) (Or.inl ⟨by kernel_rfl, fun wS hS => ?_⟩) HS0.out ?_
                        · obtain ⟨s0, s1, s2, s3⟩ := hS
                          go_simp
                        try simp only [Act.put, List.setIfInBounds_toArray, List.set_cons_zero, List.set_cons_succ]
                        refine wpAnyH_take (i := 5) (oi := ⟨some 144, _, _, _, _, _⟩) (v := .pointer (some ⟨t + 1, 1, none⟩)) rfl (by kernel_rfl) (by kernel_rfl) (by kernel_rfl) (fun _ _ _ h => h) (Or.inl ⟨by kernel_rfl, fun wS hS => ?_⟩) HS0.out ?_
                        · clear hS
                          go_simp
                        try simp only [Act.put, List.setIfInBounds_toArray, List.set_cons_zero, List.set_cons_succ]
                        refine wpAnyH_take (i := 6) (oi := ⟨some 145, _, _, _, _, _⟩) (v := .slice (some ⟨t, 0, none⟩) cnt cnt) rfl (by kernel_rfl) (by kernel_rfl) (by kernel_rfl) (fun _ _ _ h => h) (Or.inl ⟨by kernel_rfl, fun wS hS => ?_⟩) HS0.out ?_
                        · obtain ⟨s0, s1, s2, s3⟩ := hS
                          go_simp
                        try simp only [Act.put, List.setIfInBounds_toArray, List.set_cons_zero, List.set_cons_succ]
                        refine wpAnyH_take (i := 7) (oi := ⟨some 146, _, _, _, _, _⟩) (v := .map (some wc.heap.size)) rfl (by kernel_rfl) (by kernel_rfl) (by kernel_rfl) (fun _ _ _ h => h) (Or.inl ⟨by kernel_rfl, fun wS hS => ?_⟩) HS0.out ?_
                        · clear hS
                          go_simp
                        try simp only [Act.put, List.setIfInBounds_toArray, List.set_cons_zero, List.set_cons_succ]
                        refine wpAnyH_take (i := 8) (oi := ⟨some 147, _, _, _, _, _⟩) (v := .int .i64 (k : Int)) rfl (by kernel_rfl) (by kernel_rfl) (by kernel_rfl) (fun _ _ _ h => h) (Or.inl ⟨by kernel_rfl, fun wS hS => ?_⟩) HS0.out ?_
                        · clear hS
                          go_simp
                        try simp only [Act.put, List.setIfInBounds_toArray, List.set_cons_zero, List.set_cons_succ]
                        refine wpAnyH_take (i := 9) (oi := ⟨some 148, _, _, _, _, _⟩) (v := .int .i64 (a : Int)) rfl (by kernel_rfl) (by kernel_rfl) (by kernel_rfl) (fun _ _ _ h => h) (Or.inl ⟨by kernel_rfl, fun wS hS => ?_⟩) HS0.out ?_
                        · obtain ⟨s0, s1, s2, s3⟩ := hS
                          go_simp
                        try simp only [Act.put, List.setIfInBounds_toArray, List.set_cons_zero, List.set_cons_succ]
                        refine wpAnyH_take (i := 10) (oi := ⟨some 149, _, _, _, _, _⟩) (v := .pointer (some ⟨t, a, none⟩)) rfl (by kernel_rfl) (by kernel_rfl) (by kernel_rfl) (fun _ _ _ h => h) (Or.inl ⟨by kernel_rfl, fun wS hS => ?_⟩) HS0.out ?_
                        · clear hS
                          go_simp
                        try simp only [Act.put, List.setIfInBounds_toArray, List.set_cons_zero, List.set_cons_succ]
                        refine wpAnyH_take (i := 12) (oi := ⟨some 151, _, _, _, _, _⟩) (v := .map (some wc.heap.size)) rfl (by kernel_rfl) (by kernel_rfl) (by kernel_rfl) (fun _ _ _ h => h) (Or.inl ⟨by kernel_rfl, fun wS hS => ?_⟩) HS0.out ?_
                        · clear hS
                          go_simp
                        try simp only [Act.put, List.setIfInBounds_toArray, List.set_cons_zero, List.set_cons_succ]
                        refine wpAnyH_take (i := 13) (oi := ⟨some 152, _, _, _, _, _⟩) (v := .pointer (some ⟨eb, 0, none⟩)) rfl (by kernel_rfl) (by kernel_rfl) (by kernel_rfl) (fun _ _ _ h => h) (Or.inl ⟨by kernel_rfl, fun wS hS => ?_⟩) HS0.out ?_
                        · clear hS
                          go_simp
                        try simp only [Act.put, List.setIfInBounds_toArray, List.set_cons_zero, List.set_cons_succ]
                        refine wpAnyH_take (i := 14) (oi := ⟨some 153, _, _, _, _, _⟩) (v := .int .i64 (y : Int)) rfl (by kernel_rfl) (by kernel_rfl) (by kernel_rfl) (fun _ _ _ h => h) (Or.inl ⟨by kernel_rfl, fun wS hS => ?_⟩) HS0.out ?_
                        · obtain ⟨s0, s1, s2, s3⟩ := hS
                          go_simp
                        try simp only [Act.put, List.setIfInBounds_toArray, List.set_cons_zero, List.set_cons_succ]
                        refine wpAnyH_take (i := 15) (oi := ⟨some 154, _, _, _, _, _⟩) (v := .int .i64 (c : Int)) rfl (by kernel_rfl) (by kernel_rfl) (by kernel_rfl) (fun _ _ _ h => h) (Or.inl ⟨by kernel_rfl, fun wS hS => ?_⟩) HS0.out ?_
                        · obtain ⟨s0, s1, s2, s3⟩ := hS
                          go_simp
                        try simp only [Act.put, List.setIfInBounds_toArray, List.set_cons_zero, List.set_cons_succ]
                        refine wpAnyH_take (i := 16) (oi := ⟨some 155, _, _, _, _, _⟩) (v := .agg #[.int .i64 (c : Int), .int .i64 0]) rfl (by kernel_rfl) (by kernel_rfl) (by kernel_rfl) (fun _ _ _ h => h) (Or.inl ⟨by kernel_rfl, fun wS hS => ?_⟩) HS0.out ?_
                        · clear hS
                          go_simp
                        try simp only [Act.put, List.setIfInBounds_toArray, List.set_cons_zero, List.set_cons_succ]
                        refine wpAnyH_ready (rs := [11, 17]) (by kernel_rfl) (by simp) ?_
                        refine AllReadyH.cons (o := ⟨some 150, _, _, _, _, _⟩) rfl (fun K hK => ?_) (AllReadyH.cons (o := ⟨some 156, _, _, _, _, _⟩) rfl (fun K hK => ?_) AllReadyH.nil)
                        · have g4 := HG4.out
                          go_simp
                          refine hK.out _ _ HS0.out (fun _ => ?_)
                          clear hK K g4
                          try simp only [Act.put, List.setIfInBounds_toArray, List.set_cons_zero, List.set_cons_succ]
                          refine wpAnyH_ready (rs := [17]) (by kernel_rfl) (by simp) ?_
                          refine AllReadyH.cons (o := ⟨some 156, _, _, _, _, _⟩) rfl (fun K hK => ?_) AllReadyH.nil
                          go_simp
                          refine hK.out _ _ HS1.out (fun _ => ?_)
                          clear hK K
                          try simp only [Act.put, List.setIfInBounds_toArray, List.set_cons_zero, List.set_cons_succ]
                          refine wpAnyH_ready (rs := [18]) (by kernel_rfl) (by simp) ?_
                          refine AllReadyH.cons (o := ⟨some 157, _, _, _, _, _⟩) rfl (fun K hK => ?_) AllReadyH.nil
                          refine step_append_row (by rfl) (.tmp 150) (.tmp 156) (by rfl) (by rfl) (by rfl) (by rfl) hr.out ?_
                          refine hK.out _ _ HS2.out (fun _ => ?_)
                          clear hK K
                          try simp only [Act.put, List.setIfInBounds_toArray, List.set_cons_zero, List.set_cons_succ]
                          refine wpAnyH_take (i := 19) (oi := ⟨some 158, _, _, _, _, _⟩) (v := .pointer (some ⟨t, a, none⟩)) rfl (by kernel_rfl) (by kernel_rfl) (by kernel_rfl) (fun _ _ _ h => h) (Or.inl ⟨by kernel_rfl, fun wS hS => ?_⟩) HS2.out ?_
                          · clear hS
                            go_simp
                          try simp only [Act.put, List.setIfInBounds_toArray, List.set_cons_zero, List.set_cons_succ]
                          refine wpAnyH_ready (rs := [20]) (by kernel_rfl) (by simp) ?_
                          refine AllReadyH.cons (o := ⟨none, _, _, _, _, _⟩) rfl (fun K hK => ?_) AllReadyH.nil
                          have g6 := HG6.out
                          have g7 := HG7.out
                          go_simp
                          refine hK.out _ _ HS3.out (fun _ => ?_)
                          clear hK K g6 g7
                          try simp only [Act.put, List.setIfInBounds_toArray, List.set_cons_zero, List.set_cons_succ]
                          refine wpAnyH_done (by kernel_rfl) ?_ _
                          go_wp2
                          go_roundw
                          case rel => exact ⟨j + 1, _, _, by omega, by go_num, HOR8, HCO8, HLE8, HT8⟩
                          case measure => simp [intOf]; omega
                        · go_simp
                          refine hK.out _ _ HS1.out (fun _ => ?_)
                          clear hK K
                          try simp only [Act.put, List.setIfInBounds_toArray, List.set_cons_zero, List.set_cons_succ]
                          refine wpAnyH_ready (rs := [11]) (by kernel_rfl) (by simp) ?_
                          refine AllReadyH.cons (o := ⟨some 150, _, _, _, _, _⟩) rfl (fun K hK => ?_) AllReadyH.nil
                          have g5 := HG5.out
                          go_simp
                          refine hK.out _ _ HS1.out (fun _ => ?_)
                          clear hK K g5
                          try simp only [Act.put, List.setIfInBounds_toArray, List.set_cons_zero, List.set_cons_succ]
                          refine wpAnyH_ready (rs := [18]) (by kernel_rfl) (by simp) ?_
                          refine AllReadyH.cons (o := ⟨some 157, _, _, _, _, _⟩) rfl (fun K hK => ?_) AllReadyH.nil
                          refine step_append_row (by rfl) (.tmp 150) (.tmp 156) (by rfl) (by rfl) (by rfl) (by rfl) hr.out ?_
                          refine hK.out _ _ HS2.out (fun _ => ?_)
                          clear hK K
                          try simp only [Act.put, List.setIfInBounds_toArray, List.set_cons_zero, List.set_cons_succ]
                          refine wpAnyH_take (i := 19) (oi := ⟨some 158, _, _, _, _, _⟩) (v := .pointer (some ⟨t, a, none⟩)) rfl (by kernel_rfl) (by kernel_rfl) (by kernel_rfl) (fun _ _ _ h => h) (Or.inl ⟨by kernel_rfl, fun wS hS => ?_⟩) HS2.out ?_
                          · clear hS
                            go_simp
                          try simp only [Act.put, List.setIfInBounds_toArray, List.set_cons_zero, List.set_cons_succ]
                          refine wpAnyH_ready (rs := [20]) (by kernel_rfl) (by simp) ?_
                          refine AllReadyH.cons (o := ⟨none, _, _, _, _, _⟩) rfl (fun K hK => ?_) AllReadyH.nil
                          have g6 := HG6.out
                          have g7 := HG7.out
                          go_simp
                          refine hK.out _ _ HS3.out (fun _ => ?_)
                          clear hK K g6 g7
                          try simp only [Act.put, List.setIfInBounds_toArray, List.set_cons_zero, List.set_cons_succ]
                          refine wpAnyH_done (by kernel_rfl) ?_ _
                          go_wp2
                          go_roundw
                          case rel => exact ⟨j + 1, _, _, by omega, by go_num, HOR8, HCO8, HLE8, HT8⟩
                          case measure => simp [intOf]; omega
                    · have hzn2 : ¬ (z1 < (n : Int)) := hzn
                      go_wp2_with fail
                      go_roundw
                      case rel => exact ⟨j + 1, vs, tb, by omega, by go_num, HOE, HCO, HLE2, HTE⟩
                      case measure => simp [intOf]; omega
                  · go_wp2_with fail
                    go_roundw
                    case rel => exact ⟨j + 1, vs, tb, by omega, by go_num, HOE, HCO, HLE2, HTE⟩
                    case measure => simp [intOf]; omega
                · obtain rfl : len = j := by omega
                  go_wp2_with fail
                  go_roundw
                  case rel => exact ⟨k + 1, vs, tb, by omega, by go_num, HOR, HCO, Lib.hid (fun a => by rw [HSK.out]; exact HLE.out a), HT⟩
                  case measure => simp [intOf]; omega
            · obtain rfl : n = k := by omega
              obtain ⟨p0, p1, p2⟩ : wr.cell? ⟨t + 1, 0, none⟩ = some (.slice none 0 0) ∧ wr.cell? ⟨t + 1, 1, none⟩ = some (.slice (some ⟨t, 0, none⟩) cnt cnt) ∧ wr.cell? ⟨t + 1, 2, none⟩ = some (.slice none 0 0) := by
                have h := (HKK.out wr HT.out).2.1
                exact ⟨cell_of_row _ _ 0 _ _ _ h, cell_of_row _ _ 1 _ _ _ h, cell_of_row _ _ 2 _ _ _ h⟩
              have HBQ := Lib.hid (HKK.out wr HT.out).2.2.1
              have HLIVE := Lib.hid (live_any' (.slice none 0 0) (.slice none 0 0) (some ⟨t, 0, none⟩) cnt cnt ((List.range cnt).map tb) wr (by simp) (by omega) (Nat.le_refl _) (by unfold maxLen; omega) (fun i => by
                by_cases hi : i < cnt
                · rw [show ((List.range cnt).map tb).getD i [] = tb i by simp [List.getD, hi]]
                  exact Nat.le_trans (HLE.out i) HSUM.out
                · rw [show ((List.range cnt).map tb).getD i [] = [] by simp [List.getD, hi]]
                  exact Nat.zero_le _) HOR.out.ra)
              go_wp2_with fail
              refine HLIVE.out.mono ?_
              rintro e w5 ⟨D5, d5, rfl, ⟨lv5, hl5, hi5⟩, hb5⟩
              have HB5 : Hid (Below wc.heap.size wc w5) := Lib.hid (HBQ.out.trans (hb5.mono HBQ.out.size))
              have HC5 : Hid (0 < cnt → ∃ b, D5 = some ⟨b, 0, none⟩ ∧ ∀ i, i < cnt → w5.cell? ⟨b, i, none⟩ = some (.bool false)) := Lib.hid (fun h0 => by
                obtain ⟨b, e1, _, _, e3⟩ := hl5 h0
                refine ⟨b, e1, fun i hi => ?_⟩
                rw [e3 i hi]
                have hf : lv5 i = false := by
                  rcases hb : lv5 i with _ | _
                  · rfl
                  · exact absurd ((hi5 i hi).1 hb) (con_none HL.out HCO.out i)
                rw [hf])
              clear hl5 hi5 hb5 p0 p1 p2
              go_wp2_with fail
              go_loopw [164] (fun i wq => ∃ k : Nat, k ≤ cnt ∧ i = .int .i64 k ∧ wq = w5) (fun i _ => cnt - (intOf i).toNat)
              case atStart => exact ⟨0, by omega, rfl, by first | rfl | trivial⟩
              case round =>
                obtain ⟨k5, hk5, rfl, rfl⟩ := hrel
                by_cases hlt5 : k5 < cnt
                · obtain ⟨b5, rfl, hc5⟩ := HC5.out (by omega)
                  have c5 := hc5 k5 hlt5
                  clear hc5
                  go_wp2
                  go_roundw
                  case rel => exact ⟨k5 + 1, by omega, by go_num, by first | rfl | trivial⟩
                  case measure => simp [intOf]; omega
                · obtain rfl : cnt = k5 := by omega
                  go_wp2_with fail
                  refine (lives_any _).mono ?_
                  rintro e w6 ⟨rfl, hb6⟩
                  go_wp2
                  go_ret
                  exact ⟨rfl, (HX.out w6 (HB5.out.trans (hb6.mono HB5.out.size))).2.2⟩

set_option maxRecDepth 100000 in
theorem lifted (os : Os) (started : os.Started) (H : Type) (enc : TypeId × Value → H) :
    ReturnsInHanded {} Try.checked os 14 .any (Rows.sccJoinsSpec.pre6 enc Try.prog Try.f14 Rows.sccJoinsRow.domain false) (Rows.sccJoinsSpec.post enc Try.prog Try.f14 false true false false) := by
  refine law_lifted started [26] rfl (by kernel_rfl) Try.func14 rfl (by decide +kernel) rfl (fun ds hl => by
    match ds, hl with
    | [_], _ => rfl) (ChangeSpec.witness6 (enc := enc) (C := Try.checked) false ⟨#[], #[.agg #[.slice none 0 0, .slice none 0 0, .slice none 0 0]], []⟩ 8 (by kernel_rfl) (by kernel_rfl) (by kernel_rfl) (by kernel_rfl)) ?_
  intro W base args ds ps hval hA hlt hsz
  obtain ⟨v0, vs0, d0, ds0, p0, q0, hargs, rfl, rfl, h0, r0⟩ := trodAll_cons hA
  obtain ⟨rfl, rfl, rfl⟩ := trodAll_nil r0
  obtain rfl : args = #[v0] := by cases args; simp_all
  obtain ⟨G0, g0, y0⟩ := open_graph_argw (hval 0 26 v0 rfl rfl) h0 hsz 0 rfl rfl
  exact walk v0 G0 W g0 y0

set_option maxRecDepth 100000 in
theorem over : Rows.sccJoinsRow.holds Try.pinned (OpenSpec.ofChange Rows.sccJoinsSpec) :=
  OpenClaim.holds_of_wide 14 Try.f14 rfl rfl rfl rfl rfl rfl rfl ⟨rfl, rfl, rfl, rfl, rfl⟩ rfl rfl rfl rfl rfl (by kernel_rfl) Try.func14 (by kernel_rfl)
    (of_decide_eq_true (by kernel_rfl)) (by unfold Func.isWrapper; first | (rw [if_pos (by decide +kernel)]; kernel_rfl) | (rw [if_neg (by decide +kernel)]; exact ⟨rfl, rfl⟩))
    (fun os started H enc _ => lifted os started H enc)

theorem proved : Rows.SccJoinsSaid := over
#print axioms proved
end Go.Proofs.Ytnfiohekdbjgoaa.sccJoins
