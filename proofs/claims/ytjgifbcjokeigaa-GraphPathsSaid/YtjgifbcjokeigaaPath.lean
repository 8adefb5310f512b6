/- Contracts of package graph: Path. -/
import Derived.Test.YtjgifbcjokeigaaPathPure
import Derived.Test.YtjgifbcjokeigaaSorted
namespace Go.Proofs.Ytjgifbcjokeigaa
open Go.ChangeShapes Go.WideShapes Go.ChangeAt Go.RowKit Go.Shelf

/-- In rising order. -/
def srt (l : List Int) : List Int := l.mergeSort fun x y => decide (x ≤ y)
/-- What Sorted is asked. -/
def SortK (As : Option Addr) (m cs : Nat) (from_ : List Int) (w : World) : Prop := ∀ (W : World) (bx : Nat), bx < W.heap.size → W.heap[bx]? = some (.cells #[.slice As m cs] 22 (0, 0)) → IA W As from_ → Below w.heap.size w W →
  Calls Try.prog 62 #[.func (.func 84) #[] #[.pointer (some ⟨bx, 0, none⟩)]] W fun e w' => ∃ A' c', e = .returned (.slice A' m c') ∧ IA w' A' (srt from_) ∧ Below W.heap.size W w'
/-- What Reverse is asked. -/
def RevK (base : Nat) : Prop := ∀ (W : World) (A : Option Addr) (m c : Nat) (l : List Int), m = l.length → m ≤ 1000000 → base ≤ W.heap.size → OI base W (.slice A m c) l →
  Calls Try.prog 66 #[.slice A m c] W fun e w' => (∃ u, e = .returned u) ∧ OI base w' (.slice A m c) l.reverse ∧ Below base W w'
/-- What Path hands back. -/
def PathP (w : World) (L : List Int) (e : Ending) (w' : World) : Prop := ∃ A c, e = .returned (.tuple #[.slice A L.length c, .bool (decide (0 < L.length))]) ∧ IA w' A L ∧ L.length ≤ c ∧ c ≤ maxLen ∧ Below w.heap.size w w'

theorem OI.kept' {base : Nat} {w w' : World} {v : Value} {l : List Int} (h : OI base w v l) (hz : w.heap.size ≤ w'.heap.size) (hk : ∀ q, base ≤ q → q < w.heap.size → w'.heap[q]? = w.heap[q]?) : OI base w' v l := by
  obtain ⟨h1, h2⟩ := h
  refine ⟨h1, ?_⟩
  rcases h2 with h2 | ⟨g, cap, cur, e, hb, hg, r⟩
  · exact .inl h2
  · exact .inr ⟨g, cap, cur, e, hb, by rw [hk g hb (Array.getElem?_eq_some_iff.1 hg).1]; exact hg, r⟩

set_option maxRecDepth 20000 in
set_option maxHeartbeats 4000000 in
theorem path_of (v1 v3 : Value) (A2 : Option Addr) (c2 n : Nat) (rows : List (List (Int × Int))) (As : Option Addr) (m cs : Nat) (from_ : List Int) (GA : Option Addr) (gn gc : Nat) (goal : List Bool) (w : World) (hn : n = rows.length) (hnl : n ≤ 1000) (hR : RA w A2 rows) (hrow : ∀ i, (rows.getD i []).length ≤ 1000)
    (hm : m = from_.length) (hml : m ≤ 1000000) (hS : IA w As from_) (hg : gn = goal.length) (hgl : goal.length ≤ maxLen) (hG : BL w GA goal) (hsl : (srt from_).length = m) (HSO : Hid (SortK As m cs from_ w)) (HRE : Hid (∀ base, RevK base)) :
    Calls Try.prog 30 #[.agg #[v1, .slice A2 n c2, v3], .slice As m cs, .slice GA gn gc] w (PathP w (pathL rows from_ goal)) := by
  obtain ⟨i0, hi, hz0, hz1, hz2⟩ := info_parts (show (Try.prog.info? 3).map (fun i => (i.zero, i.size, i.bytes)) = some (some (.int .i64 0), 1, 8) by kernel_rfl)
  have hmk : ∀ W : World, (Instr.makeSlice 22 (.int .i64 (n : Int)) (.int .i64 (n : Int))).run Try.prog W = .ok (.slice (some ⟨W.heap.size, 0, none⟩) n n) (W.alloc (.cells (madeCells #[.int .i64 0] n) 3)) := fun W => by
    have hr := run_make (P := Try.prog) W 22 3 i0 _ (by kernel_rfl) hi hz0 .i64 .i64 (n : Int) (n : Int) (by omega) (Int.le_refl _) (by rw [hz2]; omega) (by omega)
    rw [hr, hz1]
    rw [Int.toNat_natCast, Nat.mul_one]
    rfl
  have HMK := Lib.hid hmk
  have HN := Lib.hid hn
  have HR := Lib.hid hR
  have HM := Lib.hid hm
  have HS := Lib.hid hS
  have HGN := Lib.hid hg
  have HGL := Lib.hid hgl
  have HG := Lib.hid hG
  have HSL := Lib.hid hsl
  have hlen1 := leadTo_len hrow n
  have hlen2 := leadTo_len (rows := turnR rows) (M := (leadTo rows rows.length).length) (turnR_row rows) n
  have HL1 : Hid ((leadTo rows n).length * 16 ≤ 140737488355328) := Lib.hid (by have : n * 1000 ≤ 1000 * 1000 := Nat.mul_le_mul_right _ hnl; omega)
  have HL2 : Hid ((leadTo (turnR rows) n).length * 16 ≤ 140737488355328) := Lib.hid (by
    rw [← hn] at hlen2
    have h1 : n * 1000 ≤ 1000 * 1000 := Nat.mul_le_mul_right _ hnl
    have h2 : n * (leadTo rows n).length ≤ 1000 * 1000000 := Nat.mul_le_mul hnl (by omega)
    omega)
  have HTR : Hid (turnR (turnR rows) = (List.range n).map (turnL (leadTo (turnR rows) n))) := Lib.hid (by unfold turnR; simp [hn])
  have HTR1 : Hid (turnR rows = (List.range n).map (turnL (leadTo rows n))) := Lib.hid (by unfold turnR; rw [hn])
  have HTL : Hid (n = (turnR rows).length) := Lib.hid (by rw [turnR_len]; exact hn)
  have HTL2 : Hid ((turnR (turnR rows)).length = n) := Lib.hid (by rw [turnR_len, turnR_len]; exact hn.symm)
  have HPT : Hid (seaF n (turnR (turnR rows)) (goP goal) (n + 1) (edgesF (srt from_)) (-1) [] 0 = pathTr rows from_ goal) := Lib.hid (by unfold pathTr srt; rw [hn])
  have HPO : Hid (TrOk n (pathTr rows from_ goal)) := Lib.hid (by rw [hn]; exact pathTr_ok _ _ _)
  have HPA : Hid (AhOk (pathTr rows from_ goal)) := Lib.hid (pathTr_ah _ _ _)
  obtain ⟨L, HL⟩ : ∃ L, Hid (pathL rows from_ goal = L) := ⟨_, Lib.hid rfl⟩
  rw [HL.out]
  have HPL : Hid ((wayF (pathTr rows from_ goal) (pathTr rows from_ goal).length (endZ goal (pathTr rows from_ goal))).reverse = L) := HL
  generalize pathTr rows from_ goal = tr at HPT HPO HPA HPL
  clear hi hz0 hz1 hz2 hn hR hrow hm hS hg hgl hG hsl hlen1 hlen2 hmk HL
  go_enter Try.func30, Try.ntmps30
  go_wp2_with fail
  have hB1 : Below w.heap.size w ((w.alloc (.cells #[v1, .slice A2 n c2, v3] 26)).alloc (.cells #[.slice GA gn gc] 33)) := ((Below.refl _ _).alloc (Nat.le_refl _) _).alloc (by simp) _
  have hbg := World.alloc_heap_new (w.alloc (.cells #[v1, .slice A2 n c2, v3] 26)) (.cells #[.slice GA gn gc] 33)
  rw [World.size_alloc] at hbg
  have hz1 : ((w.alloc (.cells #[v1, .slice A2 n c2, v3] 26)).alloc (.cells #[.slice GA gn gc] 33)).heap.size ≥ w.heap.size + 2 := by simp
  generalize ((w.alloc (.cells #[v1, .slice A2 n c2, v3] 26)).alloc (.cells #[.slice GA gn gc] 33)) = wa at *
  have HB1 := Lib.hid hB1
  have HBG1 := Lib.hid hbg
  clear hB1 hbg
  refine (turned_any A2 n c2 rows wa HN.out (RA.below HR.out HB1.out) (by omega) HL1.out).mono ?_
  rintro e w2 ⟨rfl, ⟨vs2, hor2⟩, hb2⟩
  have HR2 : Hid (RA w2 (some ⟨wa.heap.size, 0, none⟩) (turnR rows)) := Lib.hid (by rw [HTR1.out]; exact hor2.ra)
  have HB2 : Hid (Below w.heap.size w w2) := Lib.hid (HB1.out.trans (hb2.mono HB1.out.size))
  have HBG2 : Hid (w2.heap[w.heap.size + 1]? = _) := Lib.hid ((hb2.block _ (by omega)).trans HBG1.out)
  have hz2 := hb2.size
  clear hor2 hb2
  go_wp2_with fail
  refine (turned_any (some ⟨wa.heap.size, 0, none⟩) n n (turnR rows) w2 HTL.out HR2.out (by omega) HL2.out).mono ?_
  rintro e w3 ⟨rfl, ⟨vs3, hor3⟩, hb3⟩
  have HR3 : Hid (RA w3 (some ⟨w2.heap.size, 0, none⟩) (turnR (turnR rows))) := Lib.hid (by rw [HTR.out]; exact hor3.ra)
  have HB3 : Hid (Below w.heap.size w w3) := Lib.hid (HB2.out.trans (hb3.mono HB2.out.size))
  have HBG3 : Hid (w3.heap[w.heap.size + 1]? = _) := Lib.hid ((hb3.block _ (by omega)).trans HBG2.out)
  have hz3 := hb3.size
  clear hor3 hb3
  go_wp2_with fail
  refine (values_any As m cs w3).mono ?_
  rintro e w4 ⟨rfl, rfl⟩
  have hb4 : Below w3.heap.size w3 (w3.alloc (.cells #[.slice As m cs] 22)) := (Below.refl _ _).alloc (Nat.le_refl _) _
  have hbx := World.alloc_heap_new w3 (.cells #[.slice As m cs] 22)
  have hlx : w3.heap.size < (w3.alloc (.cells #[.slice As m cs] 22)).heap.size := by simp
  generalize w3.alloc (.cells #[.slice As m cs] 22) = w4 at *
  have HBX := Lib.hid hbx
  have HB4' := Lib.hid hb4
  clear hbx hb4
  go_wp2_with fail
  have HB4 : Hid (Below w.heap.size w w4) := Lib.hid (HB3.out.trans (HB4'.out.mono HB3.out.size))
  refine (HSO.out w4 w3.heap.size hlx HBX.out (HS.out.below HB4.out) HB4.out).mono ?_
  rintro e w5 ⟨AS, cS, rfl, hs5, hb5⟩
  have hb45 : Below w3.heap.size w3 w5 := HB4'.out.trans (hb5.mono (by omega))
  have HB5 : Hid (Below w.heap.size w w5) := Lib.hid (HB4.out.trans (hb5.mono HB4.out.size))
  have HK5 : Hid (Below w3.heap.size w3 w5) := Lib.hid hb45
  have HS5 := Lib.hid hs5
  have HBG5 : Hid (w5.heap[w.heap.size + 1]? = _) := Lib.hid ((hb45.block _ (by omega)).trans HBG3.out)
  have hz5 := hb45.size
  clear hs5 hb5 hb45 hlx
  have hmk := HMK.out
  go_wp2_with fail
  clear hmk
  have hB6 : Below w5.heap.size w5 (((w5.alloc (.cells (madeCells #[.int .i64 0] n) 3)).alloc (.cells #[.slice (some ⟨w5.heap.size, 0, none⟩) n n] 22)).alloc (.cells #[.int .i64 (-1)] 3)) := (((Below.refl _ _).alloc (Nat.le_refl _) _).alloc (by simp) _).alloc (by simp; omega) _
  have hr6 : (((w5.alloc (.cells (madeCells #[.int .i64 0] n) 3)).alloc (.cells #[.slice (some ⟨w5.heap.size, 0, none⟩) n n] 22)).alloc (.cells #[.int .i64 (-1)] 3)).rowIs w5.heap.size 3 n (ahV []) := ((World.rowIs_made w5 (.int .i64 0) n 3).alloc _).alloc _
  have hz6b : (((w5.alloc (.cells (madeCells #[.int .i64 0] n) 3)).alloc (.cells #[.slice (some ⟨w5.heap.size, 0, none⟩) n n] 22)).alloc (.cells #[.int .i64 (-1)] 3)).heap[w5.heap.size + 1]? = some (.cells #[.slice (some ⟨w5.heap.size, 0, none⟩) n n] 22 (0, 0)) := by
    rw [Below.heap_alloc _ _ _ (by simp)]
    have h := World.alloc_heap_new (w5.alloc (.cells (madeCells #[.int .i64 0] n) 3)) (.cells #[.slice (some ⟨w5.heap.size, 0, none⟩) n n] 22)
    rw [World.size_alloc] at h
    exact h
  have he6 := World.alloc_heap_new ((w5.alloc (.cells (madeCells #[.int .i64 0] n) 3)).alloc (.cells #[.slice (some ⟨w5.heap.size, 0, none⟩) n n] 22)) (.cells #[.int .i64 (-1)] 3)
  rw [World.size_alloc, World.size_alloc] at he6
  have hz6 : (((w5.alloc (.cells (madeCells #[.int .i64 0] n) 3)).alloc (.cells #[.slice (some ⟨w5.heap.size, 0, none⟩) n n] 22)).alloc (.cells #[.int .i64 (-1)] 3)).heap.size ≥ w5.heap.size + 3 := by simp
  generalize (((w5.alloc (.cells (madeCells #[.int .i64 0] n) 3)).alloc (.cells #[.slice (some ⟨w5.heap.size, 0, none⟩) n n] 22)).alloc (.cells #[.int .i64 (-1)] 3)) = w6 at *
  have HB6 : Hid (Below w.heap.size w w6) := Lib.hid (HB5.out.trans (hB6.mono HB5.out.size))
  have HKEEP6 : Hid (∀ q, q < w3.heap.size → w6.heap[q]? = w3.heap[q]?) := Lib.hid (fun q hq => (hB6.block q (by omega)).trans (HK5.out.block q hq))
  have HBG6 : Hid (w6.heap[w.heap.size + 1]? = _) := Lib.hid ((hB6.block _ (by omega)).trans HBG5.out)
  have HS6 := Lib.hid (HS5.out.below hB6)
  have HP6 : Hid (PathI n goal w5.heap.size (w5.heap.size + 1) (w.heap.size + 1) (w5.heap.size + 1 + 1) GA gc [] w6) := Lib.hid ⟨hr6, hz6b, by rw [← HGN.out]; exact HBG6.out, he6, BL.below HG.out HB6.out⟩
  have HGB : Hid (0 < goal.length → ∀ ad, GA = some ad → ad.block < w.heap.size) := Lib.hid (fun h ad e => by
    obtain ⟨b, o, e2, hb, _⟩ := HG.out h
    rw [e] at e2
    injection e2 with e2
    rw [e2]; exact hb)
  clear hB6 hr6 hz6b he6
  have hzw := HB5.out.size
  refine (search_any 65 #[.pointer (some ⟨w5.heap.size + 1, 0, none⟩), .pointer (some ⟨w.heap.size + 1, 0, none⟩), .pointer (some ⟨w5.heap.size + 1 + 1, 0, none⟩)] (fun q => q = w5.heap.size ∨ q = w5.heap.size + 1 + 1) n (turnR (turnR rows)) (goP goal)
    (fun tr W => PathI n goal w5.heap.size (w5.heap.size + 1) (w.heap.size + 1) (w5.heap.size + 1 + 1) GA gc tr W) (some ⟨w2.heap.size, 0, none⟩) n AS m cS (srt from_) w3 w6
    HTL2.out (by omega) HR3.out (by omega) HKEEP6.out (fun q hq => by omega) HSL.out.symm (by omega) HS6.out (fun k hk => by omega) (enters_of Try.func65 (by kernel_rfl) rfl)
    (fun tr W W' h hT hb => ⟨h.row.of_block (hb.block _ (by omega)), (hb.block _ (by omega)).trans h.bz, (hb.block _ (by omega)).trans h.bg, (hb.block _ (by omega)).trans h.be, fun hn => by
      obtain ⟨b, o, e, hb2, hc⟩ := h.bl hn
      have h3 := HGB.out hn _ e
      exact ⟨b, o, e, Nat.lt_of_lt_of_le hb2 hb.size, fun i hi => (hb.cell (p := ⟨b, o + i, none⟩) (by show b < w6.heap.size; have : b < w.heap.size := h3; omega)).trans (hc i hi)⟩⟩)
    (fun tr k a W hok hk hme hI hT => path1_any n goal w5.heap.size (w5.heap.size + 1) (w.heap.size + 1) (w5.heap.size + 1 + 1) GA gc tr k a W (by omega) HGL.out hI hk (by omega) (by omega) (by omega) (by omega) (by omega) (fun hn ad e => by have := HGB.out hn ad e; omega)) HP6.out).mono ?_
  rw [HPT.out]
  rintro e w7 ⟨⟨u, rfl⟩, hp7, ht7⟩
  have HP7 := Lib.hid hp7
  have HB7 : Hid (Below w.heap.size w w7) := Lib.hid (HB6.out.trans ((ht7.below (B := w.heap.size) (fun k hk => by omega) (by omega))))
  have hz7 := ht7.size
  clear hp7 ht7
  have e7 := (cell_of_box_l HP7.out.be).1
  obtain ⟨z, HZ⟩ : ∃ z, Hid (endZ goal tr = z) := ⟨_, Lib.hid rfl⟩
  rw [HZ.out] at e7
  go_wp2_with fail
  clear e7
  have HTLN : Hid (tr.length ≤ 1000) := Lib.hid (Nat.le_trans HPO.out.len hnl)
  go_loopg [12, 13] tr.length (fun f wv zv wr => ∃ (out : List Int) (z : Int) (A : Option Addr) (lq cq : Nat), wv = .slice A lq cq ∧ zv = .int .i64 z ∧ Hid (lq = out.length) ∧ Hid (OI w7.heap.size wr (.slice A lq cq) out) ∧ Hid (Below w7.heap.size w7 wr) ∧ Hid (In tr f z) ∧
    Hid (wayF tr tr.length (endZ goal tr) = out ++ wayF tr f z) ∧ Hid (out.length + f = tr.length))
  case atStart => exact ⟨[], z, none, 0, 0, rfl, rfl, Lib.hid rfl, Lib.hid (OI.nil _ _), Lib.hid (Below.refl _ _), Lib.hid (by rw [← HZ.out]; exact endZ_in goal tr), Lib.hid (by rw [HZ.out]; rfl), Lib.hid (Nat.zero_add _)⟩
  case round =>
    obtain ⟨out, y, A, lq, cq, rfl, rfl, HLQ, HO, HW, HIN, HWF, HLF⟩ := hrel
    by_cases hy : y = -1
    · subst hy
      have HEND : Hid (out = L.reverse) := Lib.hid (by rw [← HPL.out, List.reverse_reverse, HWF.out, wayF_end, List.append_nil])
      have hl1 : out.length ≤ 1000 := by have := HLF.out; have := HTLN.out; omega
      have HLE : Hid (lq ≤ 1000000) := Lib.hid (by rw [HLQ.out]; omega)
      go_wp2_with fail
      refine (HRE.out w7.heap.size wr A lq cq out HLQ.out HLE.out HW.out.size HO.out).mono ?_
      rintro e w8 ⟨⟨u, rfl⟩, ho8, hb8⟩
      have HO8 := Lib.hid ho8
      have HB8 : Hid (Below w.heap.size w w8) := Lib.hid ((HB7.out.trans (HW.out.mono HB7.out.size)).trans (hb8.mono HB7.out.size))
      have HQ8 : Hid (lq = L.length) := Lib.hid (by rw [HLQ.out, HEND.out, List.length_reverse])
      clear ho8 hb8 hl1
      go_wp2_with fail
      go_ret2
      have h8 := HO8.out
      rw [HEND.out, List.reverse_reverse] at h8
      obtain ⟨A9, c9, e9, i9, _⟩ := h8.ins
      injection e9 with e1 e2 e3
      subst e1 e3
      exact ⟨A, cq, by rw [← HQ8.out]; congr 3, i9.ia, by have := i9.le; omega, i9.max, HB8.out⟩
    · obtain ⟨f', HF⟩ : ∃ f', Hid (gk = f' + 1) := by
        cases gk with
        | zero => exact absurd HIN.out.pos hy
        | succ f' => exact ⟨f', Lib.hid rfl⟩
      rw [HF.out] at HIN HWF HLF
      obtain ⟨hin2, k, rfl, hk⟩ := HIN.out.next HPO.out HPA.out hy
      have HIN2 := Lib.hid hin2
      have HWF2 : Hid (wayF tr tr.length (endZ goal tr) = (out ++ [(k : Int)]) ++ wayF tr f' (aheadZ tr k)) := Lib.hid (by
        rw [HWF.out, wayF_next hy, Int.toNat_natCast, List.append_assoc]; rfl)
      rw [Int.toNat_natCast] at hin2 HIN2
      have d1 : wr.cell? ⟨w5.heap.size + 1, 0, none⟩ = some (.slice (some ⟨w5.heap.size, 0, none⟩) n n) := (HW.out.cell (p := ⟨w5.heap.size + 1, 0, none⟩) (by show w5.heap.size + 1 < w7.heap.size; omega)).trans (cell_of_box_l HP7.out.bz).1
      have d2 : wr.cell? ⟨w5.heap.size, k, none⟩ = some (.int .i64 (aheadZ tr k)) := (HW.out.cell (p := ⟨w5.heap.size, k, none⟩) (by show w5.heap.size < w7.heap.size; omega)).trans (HP7.out.row.cell hk)
      have HD1 := Lib.hid d1
      have HD2 := Lib.hid d2
      have HKZ : Hid (((k : Int) != -1) = true) := Lib.hid (by simp)
      have hlt7 : w5.heap.size + 1 + 1 < w7.heap.size := by omega
      have hwz : w7.heap.size ≤ wr.heap.size := HW.out.size
      have HLN : Hid (out.length + 1 ≤ 1000000) := Lib.hid (by have := HLF.out; have := HTLN.out; omega)
      have HLA : Hid (lq + 1 = (out ++ [(k : Int)]).length) := Lib.hid (by rw [List.length_append, HLQ.out]; rfl)
      clear d1 d2 hin2 hy
      generalize aheadZ tr k = y2 at HD2 HIN2 HWF2
      have hne := HKZ.out
      go_upto_region 8 with (at_builtin; refine append_one rfl (.tmp 35) (.tmp 37) rfl w7.heap.size _ out rfl HO.out (k : Int) rfl HLN.out hwz ?_; intro v4 w4' ho4 hb4; obtain ⟨A4, c4, rfl, _⟩ := ho4.form; rw [← HLA.out] at ho4 ⊢; have HO4 := Lib.hid ho4; have HB4 := Lib.hid hb4; clear ho4 hb4)
      have d1 : w4'.cell? ⟨w5.heap.size + 1, 0, none⟩ = some (.slice (some ⟨w5.heap.size, 0, none⟩) n n) := (HB4.out.cell (p := ⟨w5.heap.size + 1, 0, none⟩) (by show w5.heap.size + 1 < w7.heap.size; omega)).trans HD1.out
      have d2 : w4'.cell? ⟨w5.heap.size, k, none⟩ = some (.int .i64 y2) := (HB4.out.cell (p := ⟨w5.heap.size, k, none⟩) (by show w5.heap.size < w7.heap.size; omega)).trans HD2.out
      have HW4 : Hid (Below w7.heap.size w7 w4') := Lib.hid (HW.out.trans HB4.out)
      go_wp2_with fail
      go_roundg f'
      case measure => have := HF.out; omega
      case rel => exact ⟨out ++ [(k : Int)], y2, A4, lq + 1, c4, rfl, rfl, HLA, HO4, HW4, HIN2, HWF2, Lib.hid (by have := HLF.out; simp; omega)⟩
end Go.Proofs.Ytjgifbcjokeigaa
