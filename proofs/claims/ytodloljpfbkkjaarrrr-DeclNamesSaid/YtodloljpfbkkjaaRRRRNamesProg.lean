/- The program's Names. -/
import Derived.Test.YtodloljpfbkkjaaRRRRNamesApp
import Derived.Lib.AppendZeros
namespace Go.Proofs.YtodloljpfbkkjaaRRRR.nms
open Go.ChangeShapes Go.WideShapes Go.ChangeAt Go.RowKit Go.Deep Go.Joins

theorem row_new {w : World} (nm : ByteArray) {lo : Nat} (h : lo ≤ w.heap.size) : RowT lo (w.alloc (.cells #[.string nm] 9)) w.heap.size 1 [nm] := by
  refine ⟨rfl, fun _ => ⟨w.heap.size, 0, rfl, by simp, fun i hi => ?_⟩, h, by simp⟩
  have hi : i < 1 := hi
  obtain rfl : i = 0 := by omega
  exact World.cell?_alloc_at _ _ _ _ rfl
theorem row_newB {w w' : World} (nm : ByteArray) {lo : Nat} (k : Below (w.alloc (.cells #[.string nm] 9)).heap.size (w.alloc (.cells #[.string nm] 9)) w') (h : lo ≤ w.heap.size) : RowT lo w' w.heap.size 1 [nm] := (row_new nm h).below k
theorem OT.threeH {base : Nat} {w : World} {H b1 n1 c1 b2 n2 c2 b3 n3 c3 : Nat} {l1 l2 l3 : List ByteArray} (hH : w.heap.size = H) (h1 : RowT base w b1 n1 l1) (h2 : RowT base w b2 n2 l2) (h3 : RowT base w b3 n3 l3) (hb : base ≤ w.heap.size) :
    OT base (w.alloc (.cells #[.slice (some ⟨b1, 0, none⟩) n1 c1, .slice (some ⟨b2, 0, none⟩) n2 c2, .slice (some ⟨b3, 0, none⟩) n3 c3] 47)) (.slice (some ⟨H, 0, none⟩) 3 3) [l1, l2, l3] := by
  subst hH
  exact OT.three h1 h2 h3 hb
theorem OT.oneH {base : Nat} {w : World} {H b1 n1 c1 : Nat} {l1 : List ByteArray} (hH : w.heap.size = H) (h1 : RowT base w b1 n1 l1) (hb : base ≤ w.heap.size) :
    OT base (w.alloc (.cells #[.slice (some ⟨b1, 0, none⟩) n1 c1] 47)) (.slice (some ⟨H, 0, none⟩) 1 1) [l1] := by
  subst hH
  have k := below_alloc1 w (.cells #[.slice (some ⟨b1, 0, none⟩) n1 c1] 47)
  refine ⟨_, World.ownsRow_lit w #[.slice (some ⟨b1, 0, none⟩) n1 c1] 1 hb (by decide) rfl, fun i hi => ?_⟩
  have hi : i < 1 := hi
  obtain rfl : i = 0 := by omega
  exact ⟨b1, n1, c1, rfl, h1.1, h1.2.1.below k, h1.2.2.1, (fun e => by
    injection e with e
    have e : w.heap.size = b1 := e
    have := h1.2.2.2
    omega), Nat.lt_of_lt_of_le h1.2.2.2 k.size⟩
theorem list_ot {w : World} {ops : Array Oper} {rest : List Oper} {o : Oper} {a : Act} {Q : Exit → Act → World → Prop} (hgd : o.guard = none) (s x : Operand)
    (ho : o.op = .call { callee := .builtin .append, args := #[s, x], argTypes := #[78, 78] }) (hty : o.type = 78) (base lo : Nat) (v : Value) (VL : List (List ByteArray)) (hs : a.eval s = v) (hown : OT base w v VL) (H n2 c2 : Nat) (VL2 : List (List ByteArray)) (hx : a.eval x = .slice (some ⟨H, 0, none⟩) n2 c2) (h2 : OT lo w (.slice (some ⟨H, 0, none⟩) n2 c2) VL2) (hlo : base ≤ lo) (hv : ∀ b, v.ownBlock = some b → b < lo) (hlen : VL.length + VL2.length ≤ 100000) (hbase : base ≤ w.heap.size) (n : Nat) (hn : VL.length + VL2.length = n)
    (h : ∀ A' c' w', OT base w' (.slice A' n c') (VL ++ VL2) → Below base w w' → wpList Try.prog ops Q rest (a.put o.dst (.slice A' n c')) w') :
    wpList Try.prog ops Q (o :: rest) a w := by
  obtain ⟨A', c', w', hr, h3, h4, _⟩ := run_append_ot base lo v VL hown H n2 c2 VL2 h2 hlo hv hlen hbase n hn
  exact Lib.wpList_append_run w hgd s x 78 78 ho v _ hs hx _ w' (by rw [hty]; exact hr) (h A' c' w' h3 h4)
def rows3 (p : PN) : List (List ByteArray) := [[p.name], p.vars, p.cmds]
theorem rows3_snoc {l : List PN} {k : Nat} (h : k < l.length) : (l.take (k + 1)).flatMap rows3 = (l.take k).flatMap rows3 ++ rows3 (l.getD k default) := by
  rw [List.take_add_one, List.flatMap_append]
  simp [List.getD, h]
theorem rows3_len : ∀ l : List PN, (l.flatMap rows3).length = 3 * l.length
  | [] => rfl
  | x :: l => by rw [List.flatMap_cons, List.length_append, rows3_len l]; simp [rows3]; omega
theorem cell_al {w : World} {o : Obj} {p : Addr} {v : Value} (h : w.cell? p = some v) (hp : p.block < w.heap.size) : (w.alloc o).cell? p = some v := ((below_alloc1 w o).cell (p := p) hp).trans h

theorem rows3_flat : ∀ l : List PN, (l.flatMap rows3).flatten = l.flatMap PN.all
  | [] => rfl
  | x :: l => by
    rw [List.flatMap_cons, List.flatten_append, rows3_flat l, List.flatMap_cons]
    simp [rows3, PN.all]
theorem all_flat (M : Md) : (([M.scs, M.vars, M.chans] ++ M.procs.flatMap rows3) ++ [M.props]).flatten = M.all := by
  rw [List.flatten_append, List.flatten_append, rows3_flat]
  simp [Md.all]
set_option maxRecDepth 100000 in
set_option maxHeartbeats 8000000 in
theorem names_any (X : MdX) (M : Md) (w : World) (h : MP w X M) (hall : M.all.length ≤ 100000) : Calls Try.prog 12 #[X.v] w (TextsP w M.all) := by
  have HS := Lib.hid h
  have HALL := Lib.hid hall
  have s1 := h.s1
  have s2 := h.s2
  have s3 := h.s3
  have s4 := h.s4
  have s5 := h.s5
  clear h hall
  go_enter Try.func12, Try.ntmps12
  go_upto_region 1 with (fail)
  obtain ⟨w1, HW1⟩ : ∃ w1, w1 = w.alloc (.cells #[.slice X.a1 X.n1 X.c1, .slice X.a2 X.n2 X.c2, .slice X.a3 X.n3 X.c3, .slice X.a4 X.n4 X.c4, .slice X.a5 X.n5 X.c5] 45) := ⟨_, rfl⟩
  have HM1 : Hid (BM w1 w.heap.size X) := Lib.hid (by rw [HW1]; exact BM.new _ _ _)
  have HBW : Hid (Below w.heap.size w w1) := Lib.hid (by rw [HW1]; exact below_alloc1 _ _)
  rw [← HW1]
  clear HW1
  have HS1 := Lib.hid (HS.out.below HBW.out)
  obtain ⟨⟨m0, m1, m2, m3, m4⟩, mz⟩ := HM1.out
  go_cut [3] from 300 (fun v w' => ∃ (P : Option Addr) (Z : Nat), v = .slice P 3 Z ∧ Hid (OT w1.heap.size w' (.slice P 3 Z) [M.scs, M.vars, M.chans]) ∧ Hid (Below w1.heap.size w1 w'))
  case first =>
    go_region_held3 (fun w' => w'.cell? ⟨w.heap.size, 0, none⟩ = some (.slice X.a1 X.n1 X.c1) ∧ w'.cell? ⟨w.heap.size, 1, none⟩ = some (.slice X.a2 X.n2 X.c2) ∧ w'.cell? ⟨w.heap.size, 2, none⟩ = some (.slice X.a3 X.n3 X.c3))
      (first | exact ⟨m0, m1, m2⟩ | exact ⟨pa0, pa1, pa2⟩ | exact ⟨pb0, pb1, pb2⟩ | exact ⟨pc0, pc1, pc2⟩ | exact ⟨cell_al pa0 pa9, cell_al pa1 pa9, cell_al pa2 pa9⟩ | exact ⟨cell_al pb0 pb9, cell_al pb1 pb9, cell_al pb2 pb9⟩ | exact ⟨cell_al pc0 pc9, cell_al pc1 pc9, cell_al pc2 pc9⟩ | go_keep)
      (first
        | (go_at_call 24; refine (namedA_any M.scs X.a1 X.c1 X.n1 _ HS.out.l1 s1 (HS1.out.r1.below (by first | exact (Below.refl _ _).drew | exact HB.out | exact HC.out))).mono ?_; intro e wa hp; obtain ⟨ba, he, hra, hsa⟩ := newT_row hp; subst he; have HAs := Lib.hid hsa; have HA : Hid (Below w1.heap.size w1 wa) := Lib.hid (by first | exact ((Below.refl _ w1).drew).trans hsa | exact bthen HB.out hsa | exact bthen HC.out hsa); have HRA : Hid (RowT w1.heap.size wa ba M.scs.length M.scs) := Lib.hid (hra.mono (by first | exact Nat.le_refl _ | exact HB.out.size | exact HC.out.size)); have pa0 := (HA.out.cell (p := ⟨w.heap.size, 0, none⟩) mz).trans m0; have pa1 := (HA.out.cell (p := ⟨w.heap.size, 1, none⟩) mz).trans m1; have pa2 := (HA.out.cell (p := ⟨w.heap.size, 2, none⟩) mz).trans m2; have pa9 : w.heap.size < wa.heap.size := Nat.lt_of_lt_of_le mz HA.out.size; clear hp hra hsa)
        | (go_at_call 26; refine (namedV_any M.vars X.a2 X.c2 X.n2 _ HS.out.l2 s2 (HS1.out.r2.below (by first | exact (Below.refl _ _).drew | exact HA.out | exact HC.out))).mono ?_; intro e wb hp; obtain ⟨bb, he, hra, hsa⟩ := newT_row hp; subst he; have HBs := Lib.hid hsa; have HB : Hid (Below w1.heap.size w1 wb) := Lib.hid (by first | exact ((Below.refl _ w1).drew).trans hsa | exact bthen HA.out hsa | exact bthen HC.out hsa); have HRB : Hid (RowT w1.heap.size wb bb M.vars.length M.vars) := Lib.hid (hra.mono (by first | exact Nat.le_refl _ | exact HA.out.size | exact HC.out.size)); have pb0 := (HB.out.cell (p := ⟨w.heap.size, 0, none⟩) mz).trans m0; have pb1 := (HB.out.cell (p := ⟨w.heap.size, 1, none⟩) mz).trans m1; have pb2 := (HB.out.cell (p := ⟨w.heap.size, 2, none⟩) mz).trans m2; have pb9 : w.heap.size < wb.heap.size := Nat.lt_of_lt_of_le mz HB.out.size; clear hp hra hsa)
        | (go_at_call 28; refine (namedC_any M.chans X.a3 X.c3 X.n3 _ HS.out.l3 s3 (HS1.out.r3.below (by first | exact (Below.refl _ _).drew | exact HA.out | exact HB.out))).mono ?_; intro e wc hp; obtain ⟨bc, he, hra, hsa⟩ := newT_row hp; subst he; have HCs := Lib.hid hsa; have HC : Hid (Below w1.heap.size w1 wc) := Lib.hid (by first | exact ((Below.refl _ w1).drew).trans hsa | exact bthen HA.out hsa | exact bthen HB.out hsa); have HRC : Hid (RowT w1.heap.size wc bc M.chans.length M.chans) := Lib.hid (hra.mono (by first | exact Nat.le_refl _ | exact HA.out.size | exact HB.out.size)); have pc0 := (HC.out.cell (p := ⟨w.heap.size, 0, none⟩) mz).trans m0; have pc1 := (HC.out.cell (p := ⟨w.heap.size, 1, none⟩) mz).trans m1; have pc2 := (HC.out.cell (p := ⟨w.heap.size, 2, none⟩) mz).trans m2; have pc9 : w.heap.size < wc.heap.size := Nat.lt_of_lt_of_le mz HC.out.size; clear hp hra hsa)
        | fail)
    all_goals
      go_wp2
      go_meet
      case rel =>
        refine ⟨_, _, rfl, Lib.hid (OT.three (by first | exact HRA.out | exact HRA.out.below HBs.out | exact HRA.out.below HCs.out | exact HRA.out.below (bthen HBs.out HCs.out) | exact HRA.out.below (bthen HCs.out HBs.out)) (by first | exact HRB.out | exact HRB.out.below HAs.out | exact HRB.out.below HCs.out | exact HRB.out.below (bthen HAs.out HCs.out) | exact HRB.out.below (bthen HCs.out HAs.out)) (by first | exact HRC.out | exact HRC.out.below HAs.out | exact HRC.out.below HBs.out | exact HRC.out.below (bthen HAs.out HBs.out) | exact HRC.out.below (bthen HBs.out HAs.out)) (by first | exact HA.out.size | exact HB.out.size | exact HC.out.size)), Lib.hid (by first | exact bthen HA.out (below_alloc1 _ _) | exact bthen HB.out (below_alloc1 _ _) | exact bthen HC.out (below_alloc1 _ _))⟩
  case rest =>
    obtain ⟨P0, Z0, rfl, HO0, HB0⟩ := hcut
    clear m0 m1 m2 m3 m4 mz
    obtain ⟨⟨m0, m1, m2, m3, m4⟩, mz⟩ := HM1.out.below HB0.out
    go_wp2
    go_loopw [3, 19] (fun ov iv wr => ∃ (k N : Nat) (P : Option Addr) (Z : Nat), k ≤ X.n4 ∧ iv = .int .i64 k ∧ ov = .slice P N Z ∧ Hid (OT w1.heap.size wr (.slice P N Z) ([M.scs, M.vars, M.chans] ++ (M.procs.take k).flatMap rows3)) ∧ Hid (Below w1.heap.size w1 wr)) (fun _ iv _ => X.n4 - (intOf iv).toNat)
    case atStart => exact ⟨0, 3, P0, Z0, Nat.zero_le _, rfl, rfl, Lib.hid (by rw [List.take_zero, List.flatMap_nil, List.append_nil]; exact HO0.out), HB0⟩
    case round =>
      obtain ⟨k, N, P, Z, hk, rfl, rfl, HO, HBk⟩ := hrel
      by_cases hlt : k < X.n4
      · obtain ⟨b, o, hAA, hb, hc⟩ := (HS1.out.r4.below HBk.out) (by rw [← HS.out.l4]; omega)
        obtain ⟨e0, ⟨px, py, e1, e2⟩, e3, e4, hpl⟩ := hc k (by rw [← HS.out.l4]; exact hlt)
        have HSN := Lib.hid (rows3_snoc (l := M.procs) (k := k) (by rw [← HS.out.l4]; exact hlt))
        obtain ⟨p, HPP⟩ : ∃ p, Hid (M.procs.getD k default = p) := ⟨_, Lib.hid rfl⟩
        rw [HPP.out] at e0 e3 e4 hpl HSN
        obtain ⟨nm, D1, n1, d1, D2, n2, d2, vs, cs⟩ := p
        simp only at e0 e3 e4
        have HPL := Lib.hid hpl
        have HAA := Lib.hid hAA
        have HLEN : Hid (N = 3 + 3 * k) := Lib.hid (by
          have := HO.out.len
          rw [List.length_append, rows3_len, List.length_take] at this
          have h9 := HS.out.l4
          simp only [List.length_cons, List.length_nil] at this
          omega)
        have HV : Hid (∀ b, (Value.slice P N Z).ownBlock = some b → b < wr.heap.size) := Lib.hid (fun b e => by
          obtain ⟨cs9, hw, _⟩ := HO.out.own
          exact (World.ownsRow.lt hw b e).2)
        have hi0 : (0 : Int) ≤ (k : Int) := by omega
        have hi9 : (k : Int) < (X.n4 : Int) := by omega
        rw [HAA.out]
        clear hAA hc hpl
        go_upto_region 5 with (fail)
        generalize hw2 : wr.alloc (.cells #[.string nm, .int .i64 px, .int .i64 py, .slice D1 n1 d1, .slice D2 n2 d2] 64) = w2
        have HW2 : Hid (Below wr.heap.size wr w2) := Lib.hid (by rw [← hw2]; exact below_alloc1 _ _)
        have f0 : w2.cell? ⟨wr.heap.size, 0, none⟩ = some (.string nm) := by rw [← hw2]; exact World.cell?_alloc_at _ _ _ _ rfl
        have f3 : w2.cell? ⟨wr.heap.size, 3, none⟩ = some (.slice D1 n1 d1) := by rw [← hw2]; exact World.cell?_alloc_at _ _ _ _ rfl
        have f4 : w2.cell? ⟨wr.heap.size, 4, none⟩ = some (.slice D2 n2 d2) := by rw [← hw2]; exact World.cell?_alloc_at _ _ _ _ rfl
        have f9 : wr.heap.size < w2.heap.size := by rw [← hw2]; simp
        have HPL2 := Lib.hid (HPL.out.below HW2.out)
        have hn1 : n1 = vs.length := HPL2.out.l1
        have hn2 : n2 = cs.length := HPL2.out.l2
        have HN1 := Lib.hid hn1
        have HN2 := Lib.hid hn2
        have hs8 : n1 ≤ 1000 := HPL2.out.s1
        have hs9 : n2 ≤ 1000 := HPL2.out.s2
        have hwz : w1.heap.size ≤ wr.heap.size := HBk.out.size
        clear hw2 e0 e1 e2 e3 e4 hn1 hn2 m0 m1 m2 m3 m4 mz
        obtain ⟨xb, hxb⟩ : ∃ xb, wr.heap.size = xb := ⟨_, rfl⟩
        have HXB := Lib.hid hxb
        rw [hxb] at f0 f3 f4 f9
        rw [hxb]
        clear hxb
        go_region_held3 (fun w' => w'.cell? ⟨xb, 0, none⟩ = some (.string nm) ∧ w'.cell? ⟨xb, 3, none⟩ = some (.slice D1 n1 d1) ∧ w'.cell? ⟨xb, 4, none⟩ = some (.slice D2 n2 d2))
          (first | exact ⟨f0, f3, f4⟩ | exact ⟨cell_al f0 f9, cell_al f3 f9, cell_al f4 f9⟩ | exact ⟨pa0, pa3, pa4⟩ | exact ⟨pb0, pb3, pb4⟩ | exact ⟨cell_al pa0 pa9, cell_al pa3 pa9, cell_al pa4 pa9⟩ | exact ⟨cell_al pb0 pb9, cell_al pb3 pb9, cell_al pb4 pb9⟩ | exact ⟨cell_al (cell_al pa0 pa9) (by simp; omega), cell_al (cell_al pa3 pa9) (by simp; omega), cell_al (cell_al pa4 pa9) (by simp; omega)⟩ | exact ⟨cell_al (cell_al pb0 pb9) (by simp; omega), cell_al (cell_al pb3 pb9) (by simp; omega), cell_al (cell_al pb4 pb9) (by simp; omega)⟩ | exact ⟨pe0, pe3, pe4⟩ | go_keep)
          (first
            | (go_at_call 26; refine (namedV_any vs D1 d1 n1 _ HN1.out hs8 (HPL2.out.r1.below (by first | exact (Below.refl _ _).drew | exact (below_alloc1 _ _).drew | exact below_alloc1 _ _ | exact HB.out | exact bthen HB.out (below_alloc1 _ _)))).mono ?_; intro e wa hp; obtain ⟨ba, he, hra, hsa⟩ := newT_row hp; subst he; have HAs := Lib.hid hsa; have HA : Hid (Below w2.heap.size w2 wa) := Lib.hid (by first | exact ((Below.refl _ w2).drew).trans hsa | exact bthen ((below_alloc1 w2 _).drew) hsa | exact bthen (below_alloc1 w2 _) hsa | exact bthen HB.out hsa | exact bthen (bthen HB.out (below_alloc1 _ _)) hsa); have HRA : Hid (RowT xb wa ba vs.length vs) := Lib.hid (hra.mono (by rw [← HXB.out]; first | exact HW2.out.size | (have h7 := HW2.out.size; have h8 := HB.out.size; simp; omega) | (have h7 := HW2.out.size; simp; omega) | (have h7 := HW2.out.size; have h8 := HB.out.size; omega))); have pa0 := (HA.out.cell (p := ⟨xb, 0, none⟩) f9).trans f0; have pa3 := (HA.out.cell (p := ⟨xb, 3, none⟩) f9).trans f3; have pa4 := (HA.out.cell (p := ⟨xb, 4, none⟩) f9).trans f4; have pa9 : xb < wa.heap.size := Nat.lt_of_lt_of_le f9 HA.out.size; clear hp hra hsa)
            | (go_at_call 30; refine (namedM_any cs D2 d2 n2 _ HN2.out hs9 (HPL2.out.r2.below (by first | exact (Below.refl _ _).drew | exact (below_alloc1 _ _).drew | exact below_alloc1 _ _ | exact HA.out | exact bthen HA.out (below_alloc1 _ _)))).mono ?_; intro e wb hp; obtain ⟨bb, he, hra, hsa⟩ := newT_row hp; subst he; have HBs := Lib.hid hsa; have HB : Hid (Below w2.heap.size w2 wb) := Lib.hid (by first | exact ((Below.refl _ w2).drew).trans hsa | exact bthen ((below_alloc1 w2 _).drew) hsa | exact bthen (below_alloc1 w2 _) hsa | exact bthen HA.out hsa | exact bthen (bthen HA.out (below_alloc1 _ _)) hsa); have HRB : Hid (RowT xb wb bb cs.length cs) := Lib.hid (hra.mono (by rw [← HXB.out]; first | exact HW2.out.size | (have h7 := HW2.out.size; have h8 := HA.out.size; simp; omega) | (have h7 := HW2.out.size; simp; omega) | (have h7 := HW2.out.size; have h8 := HA.out.size; omega))); have pb0 := (HB.out.cell (p := ⟨xb, 0, none⟩) f9).trans f0; have pb3 := (HB.out.cell (p := ⟨xb, 3, none⟩) f9).trans f3; have pb4 := (HB.out.cell (p := ⟨xb, 4, none⟩) f9).trans f4; have pb9 : xb < wb.heap.size := Nat.lt_of_lt_of_le f9 HB.out.size; clear hp hra hsa)
            | (refine step_ot w1.heap.size xb (by rfl) (.tmp 23) (.tmp 33) (by rfl) (by rfl) (.slice P N Z) ([M.scs, M.vars, M.chans] ++ (M.procs.take k).flatMap rows3) (by rfl) (HO.out.below (by first | exact bthen HW2.out (bthen HB.out (below_alloc1 _ _)) | exact bthen HW2.out (bthen HA.out (below_alloc1 _ _)) | exact bthen HW2.out (bthen (bthen HB.out (below_alloc1 _ _)) (below_alloc1 _ _)) | exact bthen HW2.out (bthen (bthen HA.out (below_alloc1 _ _)) (below_alloc1 _ _)))) _ 3 3 [[nm], vs, cs] (by rfl) (OT.threeH (by first | rfl | simp) (by first | exact row_newB nm (Below.refl _ _) (by rw [← HXB.out]; first | exact HW2.out.size | exact Nat.le_trans HW2.out.size HA.out.size | exact Nat.le_trans HW2.out.size HB.out.size) | exact row_newB nm ((Below.refl _ _).drew) (by rw [← HXB.out]; first | exact HW2.out.size | exact Nat.le_trans HW2.out.size HA.out.size | exact Nat.le_trans HW2.out.size HB.out.size) | exact row_newB nm HAs.out (by rw [← HXB.out]; first | exact HW2.out.size | exact Nat.le_trans HW2.out.size HA.out.size | exact Nat.le_trans HW2.out.size HB.out.size) | exact row_newB nm HBs.out (by rw [← HXB.out]; first | exact HW2.out.size | exact Nat.le_trans HW2.out.size HA.out.size | exact Nat.le_trans HW2.out.size HB.out.size) | exact row_newB nm (bthen HAs.out HBs.out) (by rw [← HXB.out]; first | exact HW2.out.size | exact Nat.le_trans HW2.out.size HA.out.size | exact Nat.le_trans HW2.out.size HB.out.size) | exact row_newB nm (bthen ((Below.refl _ _).drew) HAs.out) (by rw [← HXB.out]; first | exact HW2.out.size | exact Nat.le_trans HW2.out.size HA.out.size | exact Nat.le_trans HW2.out.size HB.out.size) | exact row_newB nm (bthen ((Below.refl _ _).drew) HBs.out) (by rw [← HXB.out]; first | exact HW2.out.size | exact Nat.le_trans HW2.out.size HA.out.size | exact Nat.le_trans HW2.out.size HB.out.size) | exact row_newB nm (bthen ((Below.refl _ _).drew) (bthen HAs.out HBs.out)) (by rw [← HXB.out]; first | exact HW2.out.size | exact Nat.le_trans HW2.out.size HA.out.size | exact Nat.le_trans HW2.out.size HB.out.size) | exact row_newB nm ((Below.refl _ _)).drew (by rw [← HXB.out]; first | exact HW2.out.size | exact Nat.le_trans HW2.out.size HA.out.size | exact Nat.le_trans HW2.out.size HB.out.size) | exact row_newB nm (((Below.refl _ _).drew)).drew (by rw [← HXB.out]; first | exact HW2.out.size | exact Nat.le_trans HW2.out.size HA.out.size | exact Nat.le_trans HW2.out.size HB.out.size) | exact row_newB nm (HAs.out).drew (by rw [← HXB.out]; first | exact HW2.out.size | exact Nat.le_trans HW2.out.size HA.out.size | exact Nat.le_trans HW2.out.size HB.out.size) | exact row_newB nm (HBs.out).drew (by rw [← HXB.out]; first | exact HW2.out.size | exact Nat.le_trans HW2.out.size HA.out.size | exact Nat.le_trans HW2.out.size HB.out.size) | exact row_newB nm ((bthen HAs.out HBs.out)).drew (by rw [← HXB.out]; first | exact HW2.out.size | exact Nat.le_trans HW2.out.size HA.out.size | exact Nat.le_trans HW2.out.size HB.out.size) | exact row_newB nm ((bthen ((Below.refl _ _).drew) HAs.out)).drew (by rw [← HXB.out]; first | exact HW2.out.size | exact Nat.le_trans HW2.out.size HA.out.size | exact Nat.le_trans HW2.out.size HB.out.size) | exact row_newB nm ((bthen ((Below.refl _ _).drew) HBs.out)).drew (by rw [← HXB.out]; first | exact HW2.out.size | exact Nat.le_trans HW2.out.size HA.out.size | exact Nat.le_trans HW2.out.size HB.out.size) | exact row_newB nm ((bthen ((Below.refl _ _).drew) (bthen HAs.out HBs.out))).drew (by rw [← HXB.out]; first | exact HW2.out.size | exact Nat.le_trans HW2.out.size HA.out.size | exact Nat.le_trans HW2.out.size HB.out.size)) (by first | exact HRA.out | exact HRA.out.below HBs.out | exact HRA.out.below (below_alloc1 _ _) | exact HRA.out.below (bthen (below_alloc1 _ _) HBs.out) | exact HRA.out.below (bthen HBs.out (below_alloc1 _ _))) (by first | exact HRB.out | exact HRB.out.below HAs.out | exact HRB.out.below (below_alloc1 _ _) | exact HRB.out.below (bthen (below_alloc1 _ _) HAs.out) | exact HRB.out.below (bthen HAs.out (below_alloc1 _ _))) (by rw [← HXB.out]; first | exact Nat.le_trans HW2.out.size HB.out.size | exact Nat.le_trans HW2.out.size HA.out.size | (have h7 := HW2.out.size; have h8 := HA.out.size; simp; omega) | (have h7 := HW2.out.size; have h8 := HB.out.size; simp; omega))) (by rw [← HXB.out]; exact hwz) (by rw [← HXB.out]; exact HV.out) (by have := HO.out.len; have := HLEN.out; simp only [List.length_cons, List.length_nil]; omega) (Nat.le_trans hwz ((by first | exact bthen HW2.out (bthen HB.out (below_alloc1 _ _)) | exact bthen HW2.out (bthen HA.out (below_alloc1 _ _)) | exact bthen HW2.out (bthen (bthen HB.out (below_alloc1 _ _)) (below_alloc1 _ _)) | exact bthen HW2.out (bthen (bthen HA.out (below_alloc1 _ _)) (below_alloc1 _ _))) : Below wr.heap.size wr _).size) (N + 3) (by have := HO.out.len; simp only [List.length_cons, List.length_nil]; omega) ?_; intro A6 c6 w6 ho6 hb6 hg6; have hnx : ∀ j : Nat, some (⟨xb, j, none⟩ : Addr).block ≠ (Value.slice P N Z).ownBlock := (fun j e => by have := HV.out xb e.symm; have := HXB.out; omega); have pe0 := (hg6.cell_far ⟨xb, 0, none⟩ (by first | (have h7 := HB.out.size; simp; omega) | (have h7 := HA.out.size; simp; omega)) (hnx 0)).trans (by first | exact cell_al pb0 pb9 | exact cell_al pa0 pa9 | exact cell_al (cell_al pb0 pb9) (by simp; omega) | exact cell_al (cell_al pa0 pa9) (by simp; omega)); have pe3 := (hg6.cell_far ⟨xb, 3, none⟩ (by first | (have h7 := HB.out.size; simp; omega) | (have h7 := HA.out.size; simp; omega)) (hnx 3)).trans (by first | exact cell_al pb3 pb9 | exact cell_al pa3 pa9 | exact cell_al (cell_al pb3 pb9) (by simp; omega) | exact cell_al (cell_al pa3 pa9) (by simp; omega)); have pe4 := (hg6.cell_far ⟨xb, 4, none⟩ (by first | (have h7 := HB.out.size; simp; omega) | (have h7 := HA.out.size; simp; omega)) (hnx 4)).trans (by first | exact cell_al pb4 pb9 | exact cell_al pa4 pa9 | exact cell_al (cell_al pb4 pb9) (by simp; omega) | exact cell_al (cell_al pa4 pa9) (by simp; omega)); have HREL : Hid (OT w1.heap.size w6 (.slice A6 (N + 3) c6) ([M.scs, M.vars, M.chans] ++ (M.procs.take (k + 1)).flatMap rows3) ∧ Below w1.heap.size w1 w6) := Lib.hid ⟨by rw [HSN.out, ← List.append_assoc]; exact ho6, (bthen HBk.out (by first | exact bthen HW2.out (bthen HB.out (below_alloc1 _ _)) | exact bthen HW2.out (bthen HA.out (below_alloc1 _ _)) | exact bthen HW2.out (bthen (bthen HB.out (below_alloc1 _ _)) (below_alloc1 _ _)) | exact bthen HW2.out (bthen (bthen HA.out (below_alloc1 _ _)) (below_alloc1 _ _)))).trans hb6⟩; clear ho6 hb6 hg6 hnx)
            | fail)
        all_goals
          go_wp2
          go_roundw
          case rel => exact ⟨k + 1, N + 3, _, _, by omega, by go_num, rfl, Lib.hid HREL.out.1, Lib.hid HREL.out.2⟩
          case measure => simp [intOf]; omega
      · obtain rfl : k = X.n4 := by omega
        have HOX : Hid (OT w1.heap.size wr (.slice P N Z) ([M.scs, M.vars, M.chans] ++ M.procs.flatMap rows3)) := Lib.hid (by
          have := HO.out
          rwa [HS.out.l4, List.take_length] at this)
        have HN : Hid (N = 3 + 3 * X.n4) := Lib.hid (by
          have := HOX.out.len
          rw [List.length_append, rows3_len, ← HS.out.l4] at this
          simp only [List.length_cons, List.length_nil] at this
          omega)
        have HLL : Hid (([M.scs, M.vars, M.chans] ++ M.procs.flatMap rows3).length = N) := Lib.hid HOX.out.len.symm
        have HV : Hid (∀ b, (Value.slice P N Z).ownBlock = some b → b < wr.heap.size) := Lib.hid (fun b e => by
          obtain ⟨cs9, hw, _⟩ := HOX.out.own
          exact (World.ownsRow.lt hw b e).2)
        clear m0 m1 m2 m3 m4 mz
        obtain ⟨⟨m0, m1, m2, m3, m4⟩, mz⟩ := HM1.out.below HBk.out
        clear m0 m1 m2 m3 hlt hk
        clear HO HO0 HB0
        go_wp2_with (first
          | (go_at_call 33; refine (namedR_any M.props X.a5 X.c5 X.n5 _ HS.out.l5 s5 (HS1.out.r5.below HBk.out)).mono ?_; intro e wa hp; obtain ⟨ba, he, hra, hsa⟩ := newT_row hp; subst he; have HA := Lib.hid hsa; have HRA := Lib.hid hra; clear hp hra hsa m4 mz)
          | (at_builtin; refine list_ot rfl (.tmp 36) (.tmp 40) rfl rfl w1.heap.size wr.heap.size (.slice P N Z) ([M.scs, M.vars, M.chans] ++ M.procs.flatMap rows3) rfl (HOX.out.below (bthen HA.out (below_alloc1 _ _))) _ 1 1 [M.props] rfl (OT.oneH (by first | rfl | simp) HRA.out HA.out.size) HBk.out.size HV.out (by have := HLL.out; have := HN.out; simp only [List.length_cons, List.length_nil]; omega) (Nat.le_trans HBk.out.size (bthen HA.out (below_alloc1 _ _)).size) (N + 1) (by have := HLL.out; simp only [List.length_cons, List.length_nil]; omega) ?_; intro A6 c6 w6 ho6 hb6; have HO6 := Lib.hid ho6; have HB6 : Hid (Below w1.heap.size w1 w6) := Lib.hid ((bthen HBk.out (bthen HA.out (below_alloc1 _ _))).trans hb6); clear ho6 hb6)
          | (go_at_call 32; refine (gathered_any (([M.scs, M.vars, M.chans] ++ M.procs.flatMap rows3) ++ [M.props]) A6 c6 (N + 1) _ (HO6.out.len) (by have := HN.out; omega) (by obtain ⟨A9, c9, e9, h9⟩ := HO6.out.tt; injection e9 with e91; subst e91; exact h9) (by rw [all_flat]; exact HALL.out)).mono ?_; intro e w7 hp; rw [all_flat] at hp; obtain ⟨A7, c7, he, ht7, hb7⟩ := hp; subst he; have HT7 := Lib.hid ht7; have HB7 := Lib.hid hb7; clear ht7 hb7))
        go_ret
        exact ⟨A7, c7, rfl, HT7.out, bthen HBW.out (bthen HB6.out HB7.out)⟩
end Go.Proofs.YtodloljpfbkkjaaRRRR.nms
