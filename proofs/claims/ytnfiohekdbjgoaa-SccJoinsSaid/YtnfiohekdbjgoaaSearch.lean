/- Contracts of package graph: search, for every function value that keeps what it is handed. -/
import Derived.Test.YtnfiohekdbjgoaaSeaTo
import Derived.Deep.LoopGhost
import Derived.Deep.Cut
import Derived.BigQuiet
import Derived.WalkMore
namespace Go.Proofs.Ytnfiohekdbjgoaa
open Go.ChangeShapes Go.WideShapes Go.ChangeAt Go.RowKit

theorem IA.cell0 {w : World} {A : Option Addr} {l : List Int} (h : IA w A l) (hl : 0 < l.length) : ∃ b off, A = some ⟨b, off, none⟩ ∧ w.cell? ⟨b, off, none⟩ = some (.int .i64 (l.getD 0 0)) := by
  obtain ⟨b, off, e, _, hc⟩ := h hl
  exact ⟨b, off, e, by have := hc 0 hl; rwa [Nat.add_zero] at this⟩
theorem PA.of_block {w w' : World} {b o : Nat} {l : List (Int × Int)} (h : PA w (some ⟨b, o, none⟩) l) (hb : b < w'.heap.size) (e : w'.heap[b]? = w.heap[b]?) : PA w' (some ⟨b, o, none⟩) l := fun hn => by
  obtain ⟨b', off, e1, _, hc⟩ := h hn
  injection e1 with e1
  injection e1 with e1 e2
  subst e1 e2
  exact ⟨b, o, rfl, hb, fun i hi => ⟨(World.cell?_of_block (w := w) (a := ⟨b, o + i * 2, none⟩) e).trans (hc i hi).1, (World.cell?_of_block (w := w) (a := ⟨b, o + i * 2 + 1, none⟩) e).trans (hc i hi).2⟩⟩

theorem noGoto_end {Q : Exit → Act → World → Prop} {a : Act} {w : World} (h : Q .normal a w) : Exit.noGoto Q .normal a w := h

theorem PA.keepB {w0 W : World} {A : Option Addr} {l : List (Int × Int)} (h : PA w0 A l) (hs : w0.heap.size ≤ W.heap.size) (hk : ∀ q, q < w0.heap.size → W.heap[q]? = w0.heap[q]?) : PA W A l := fun hn => by
  obtain ⟨b, off, e, hb, hc⟩ := h hn
  exact ⟨b, off, e, by omega, fun i hi => ⟨(World.cell?_of_block (w := w0) (a := ⟨b, off + i * 2, none⟩) (hk b hb)).trans (hc i hi).1, (World.cell?_of_block (w := w0) (a := ⟨b, off + i * 2 + 1, none⟩) (hk b hb)).trans (hc i hi).2⟩⟩

/-- What meet is asked. -/
def MeetK (gf : Nat) (lb : Array Value) (T : Nat → Prop) (n : Nat) (go : List (Nat × Int) → Bool) (I : List (Nat × Int) → World → Prop) (w : World) : Prop :=
  ∀ (tr : List (Nat × Int)) (k : Nat) (a : Int) (W : World), TrOk n tr → k < n → metB tr k = false → I tr W → Turn T w W →
    Calls Try.prog gf (#[.int .i64 k, .int .i64 a] ++ lb) W fun x W' => x = .returned (.bool (go (tr ++ [(k, a)]))) ∧ I (tr ++ [(k, a)]) W' ∧ Turn T W W'

/-- Which nodes have been met. -/
def mv (tr : List (Nat × Int)) (k : Nat) : Value := .bool (metB tr k)
theorem mv_step {tr : List (Nat × Int)} {n k : Nat} {w : World} {b : Nat} {t : TypeId} (a : Int) (hr : w.rowIs b t n (mv tr)) : (w.setCell ⟨b, k, none⟩ (.bool true)).rowIs b t n (mv (tr ++ [(k, a)])) :=
  (hr.set k (.bool true)).congr (fun j _ => by
    unfold mv
    rw [metB_snoc]
    by_cases e : j = k
    · subst e; rw [if_pos rfl]; simp
    · rw [if_neg e]
      have : (k == j) = false := by simpa using fun h => e h.symm
      rw [this, Bool.or_false])

/-- What the search's own memory is: which nodes have been met, what waits. -/
structure SeaW (w : World) (n : Nat) (tr : List (Nat × Int)) (h : Nat) (q : Value) (wr : World) : Prop where
  met : wr.rowIs w.heap.size 4 n (mv tr)
  wait : QW (w.heap.size + 2) wr q (waitL tr h)

set_option maxRecDepth 20000 in
set_option maxHeartbeats 4000000 in
theorem search_any (gf : Nat) (lb : Array Value) (T : Nat → Prop) (n : Nat) (rows : List (List (Int × Int))) (go : List (Nat × Int) → Bool) (I : List (Nat × Int) → World → Prop) (A : Option Addr) (c : Nat) (As : Option Addr) (m cs : Nat) (starts : List Int) (w0 w : World)
    (hn : rows.length = n) (hnl : n ≤ 1000000) (hR : RA w0 A rows) (hwz : w0.heap.size ≤ w.heap.size) (hwk : ∀ q, q < w0.heap.size → w.heap[q]? = w0.heap[q]?) (hwT : ∀ q, T q → w0.heap.size ≤ q) (hm : m = starts.length) (hml : m ≤ 1000000) (hS : IA w As starts) (hT : ∀ k, T k → k < w.heap.size)
    (eg : ∀ args w, (callFunc gf args).run Try.prog w = .ok (.enter gf args) w) (hI : ∀ tr W W', I tr W → Turn T w W → Below w.heap.size W W' → I tr W') (hP : MeetK gf lb T n go I w) (h0 : I [] w) :
    Calls Try.prog 64 #[.slice A n c, .slice As m cs, .func (.func gf) #[] lb] w fun x W' => (∃ v, x = .returned v) ∧ I (seaF n rows go (n + 1) (edgesF starts) (-1) [] 0) W' ∧ Turn T w W' := by
  obtain ⟨i0, hi, hz0, hz1, hz2⟩ := info_parts (show (Try.prog.info? 4).map (fun i => (i.zero, i.size, i.bytes)) = some (some (.bool false), 1, 1) by kernel_rfl)
  have hmk : ∀ W : World, (Instr.makeSlice 33 (.int .i64 (n : Int)) (.int .i64 (n : Int))).run Try.prog W = .ok (.slice (some ⟨W.heap.size, 0, none⟩) n n) (W.alloc (.cells (madeCells #[.bool false] n) 4)) := fun W => by
    have hr := run_make (P := Try.prog) W 33 4 i0 _ (by kernel_rfl) hi hz0 .i64 .i64 (n : Int) (n : Int) (by omega) (Int.le_refl _) (by rw [hz2]; omega) (by omega)
    rw [hr, hz1]
    rw [Int.toNat_natCast, Nat.mul_one]
    rfl
  have HN := Lib.hid hn
  have HR := Lib.hid hR
  have HWZ := Lib.hid hwz
  have HWK : Hid (∀ W, Turn T w W → ∀ q, q < w0.heap.size → W.heap[q]? = w0.heap[q]?) := Lib.hid (fun W h q hq => (h.block q (by omega) (fun ht => by have := hwT q ht; omega)).trans (hwk q hq))
  have HM := Lib.hid hm
  have HS := Lib.hid hS
  have HT := Lib.hid hT
  have HI := Lib.hid hI
  have HP := Lib.hid hP
  have H0 := Lib.hid h0
  have hb1 : Below w.heap.size w (w.alloc (.cells (madeCells #[.bool false] n) 4)) := (Below.refl _ _).alloc (Nat.le_refl _) _
  have hmet : (w.alloc (.cells (madeCells #[.bool false] n) 4)).rowIs w.heap.size 4 n (mv []) := World.rowIs_made w (.bool false) n 4
  have hsz1 : (w.alloc (.cells (madeCells #[.bool false] n) 4)).heap.size = w.heap.size + 1 := by simp
  clear hi hz0 hz1 hz2 hn hR hwz hwk hwT hm hS hT hI hP h0 hb1 hmet hsz1
  obtain ⟨FIN, HF⟩ : ∃ FIN, Hid (seaF n rows go (n + 1) (edgesF starts) (-1) [] 0 = FIN) := ⟨_, Lib.hid rfl⟩
  rw [HF.out]
  go_enter Try.func64, Try.ntmps64
  go_wp2_with fail
  go_step3
  go_wp2_with fail
  have hb1 : Below w.heap.size w (w.alloc (.cells (madeCells #[.bool false] n) 4)) := (Below.refl _ _).alloc (Nat.le_refl _) _
  have hmet : (w.alloc (.cells (madeCells #[.bool false] n) 4)).rowIs w.heap.size 4 n (mv []) := World.rowIs_made w (.bool false) n 4
  have hz1 : (w.alloc (.cells (madeCells #[.bool false] n) 4)).heap.size = w.heap.size + 1 := by simp
  refine (edgesTo_any As cs m starts _ HM.out (HS.out.below hb1) hml).mono ?_
  rintro e w1 ⟨rfl, hb2, hz2, hp2⟩
  clear hmk
  rw [hz1] at hb2 hz2 hp2
  have hmet1 := hmet.of_block (hb2.block w.heap.size (by omega))
  have HB1 : Hid (Turn T w w1) := Lib.hid (Turn.of_below (hb1.trans (hb2.mono (by omega))))
  have HE1 := Lib.hid hp2
  have H01 : Hid (I [] w1) := Lib.hid (HI.out [] w w1 H0.out (Turn.refl _ _) (hb1.trans (hb2.mono (by omega))))
  have HSW : Hid (SeaW w n [] 0 (.slice none 0 0) w1) := Lib.hid ⟨hmet1, QW.nil _ _⟩
  rw [hz1]
  generalize (w.alloc (.cells (madeCells #[.bool false] n) 4)) = wa at *
  clear hb1 hb2 hmet hmet1 hz1 hp2
  have HEL : Hid ((edgesF starts).length = m) := Lib.hid (by unfold edgesF; rw [List.length_map]; exact HM.out.symm)
  go_wp2_with fail
  go_step3
  go_wp2_with fail
  go_loopg [7, 8, 9] (n + 1) (fun f row ah q wr => ∃ (tr : List (Nat × Int)) (h : Nat) (l : List (Int × Int)) (B : Option Addr) (rc rl : Nat) (a : Int) (Aq : Option Addr) (lq cq : Nat), row = .slice B rl rc ∧ Hid (l.length = rl) ∧ rl ≤ 9223372036854775807 ∧ ah = .int .i64 a ∧ q = .slice Aq lq cq ∧ Hid (lq = tr.length - h) ∧
    Hid (∀ W, Turn T w W → W.heap.size ≥ w1.heap.size → W.heap[w.heap.size + 1]? = w1.heap[w.heap.size + 1]? → PA W B l) ∧ Hid (SeaW w n tr h (.slice Aq lq cq) wr) ∧ Hid (Turn T w wr) ∧ w1.heap.size ≤ wr.heap.size ∧ Hid (wr.heap[w.heap.size + 1]? = w1.heap[w.heap.size + 1]?) ∧ Hid (I tr wr) ∧ Hid (TrOk n tr) ∧
    Hid (h ≤ tr.length) ∧ Hid (f + h = n + 1) ∧ Hid (seaF n rows go f l a tr h = FIN))
  case atStart =>
    refine ⟨[], 0, edgesF starts, _, m, m, -1, none, 0, 0, rfl, HEL, by omega, rfl, rfl, Lib.hid rfl, Lib.hid (fun W _ hz e => PA.of_block HE1.out (by omega) e), HSW, HB1, Nat.le_refl _, Lib.hid rfl, H01, Lib.hid (TrOk.nil n), Lib.hid (Nat.zero_le _), Lib.hid (by omega), HF⟩
  case round =>
    obtain ⟨tr, h, l, B, rc, rl, a, Aq, lq, cq, rfl, HL, hrl, rfl, rfl, HQL, HPB, HSW1, HW, hzw, HBE, HIW, HOK, HH, HFN, HFF⟩ := hrel
    obtain ⟨fz, HFZ⟩ : ∃ fz, Hid (gk = fz + 1) := ⟨gk - 1, Lib.hid (by have := HFN.out; have := HH.out; have := HOK.out.len; omega)⟩
    rw [HFZ.out] at HFN HFF
    go_wp2_with fail
    go_loopg [9, 19] rl (fun g q i wr => ∃ (j : Nat) (tr' : List (Nat × Int)) (A' : Option Addr) (l' c' : Nat), q = .slice A' l' c' ∧ i = .int .i64 j ∧ Hid (l' = tr'.length - h) ∧ j ≤ rl ∧ Hid (SeaW w n tr' h (.slice A' l' c') wr) ∧ Hid (Turn T w wr) ∧ w1.heap.size ≤ wr.heap.size ∧ Hid (wr.heap[w.heap.size + 1]? = w1.heap[w.heap.size + 1]?) ∧
      Hid (I tr' wr) ∧ Hid (TrOk n tr') ∧ Hid (h ≤ tr'.length) ∧ Hid (g + j = rl) ∧ Hid (rowF n go a l tr = rowF n go a (l.drop j) tr'))
    case atStart => exact ⟨0, tr, Aq, lq, cq, rfl, rfl, HQL, Nat.zero_le _, HSW1, HW, hzw, HBE, HIW, HOK, HH, Lib.hid (Nat.add_zero _), Lib.hid rfl⟩
    case round =>
      clear HSW1 HW hzw HBE HIW HQL HOK HH
      obtain ⟨j, tr', A', l', c', rfl, rfl, HQL, hj, HSW1, HW, hzw, HBE, HIW, HOK, HH, HGK, HRW⟩ := hrel
      by_cases hlt : j < rl
      · have hjl : j < l.length := by rw [HL.out]; exact hlt
        obtain ⟨b, o, rfl, hb, hc⟩ := HPB.out _ HW.out hzw HBE.out (by omega)
        obtain ⟨c1, c2⟩ := hc j hjl
        have HDR : Hid (l.drop j = l.getD j (0, 0) :: l.drop (j + 1)) := Lib.hid (by rw [List.drop_eq_getElem_cons hjl]; simp [List.getD, hjl])
        clear hc
        generalize l.getD j (0, 0) = e at c1 c2 HDR
        obtain ⟨to, ac⟩ := e
        simp only at c1 c2
        go_wp2_with fail
        have n1 : (wr.alloc (.cells #[.int .i64 to, .int .i64 ac] 46)).cell? ⟨wr.heap.size, 0, none⟩ = some (.int .i64 to) := cell_of_row _ _ 0 _ _ _ (World.alloc_heap_new wr _)
        have hbb : Below wr.heap.size wr (wr.alloc (.cells #[.int .i64 to, .int .i64 ac] 46)) := (Below.refl _ _).alloc (Nat.le_refl _) _
        have hbz : wr.heap.size < (wr.alloc (.cells #[.int .i64 to, .int .i64 ac] 46)).heap.size := by simp
        have hwz := HW.out.size
        have HBB := Lib.hid hbb
        clear hbb c1 c2
        generalize (wr.alloc (.cells #[.int .i64 to, .int .i64 ac] 46)) = wb at *
        have HSWb : Hid (SeaW w n tr' h (.slice A' l' c') wb) := Lib.hid ⟨HSW1.out.met.of_block (HBB.out.block _ (HSW1.out.met.lt)), HSW1.out.wait.below HBB.out⟩
        have HWb : Hid (Turn T w wb) := Lib.hid (HW.out.then_below (HBB.out.mono hwz))
        have HBEb : Hid (wb.heap[w.heap.size + 1]? = w1.heap[w.heap.size + 1]?) := Lib.hid ((HBB.out.block _ (by omega)).trans HBE.out)
        have HIb : Hid (I tr' wb) := Lib.hid (HI.out tr' wr wb HIW.out HW.out (HBB.out.mono hwz))
        have hzb : w1.heap.size ≤ wb.heap.size := by omega
        refine (has_any A n c to _).mono ?_
        rintro _ _ ⟨rfl, rfl⟩
        by_cases hnd : nodeB n to = true
        · obtain ⟨k, rfl, hk⟩ : ∃ k : Nat, to = (k : Int) ∧ k < n := by
            unfold nodeB at hnd
            have h2 := of_decide_eq_true hnd
            exact ⟨to.toNat, by omega, by omega⟩
          have m1 : wb.cell? ⟨w.heap.size, k, none⟩ = some (.bool (metB tr' k)) := HSWb.out.met.cell hk
          have f1 := HSWb.out.met.frozen k
          have HND := Lib.hid hnd
          rw [hnd]
          clear hnd
          by_cases hme : metB tr' k = true
          · rw [hme] at m1
            have HE : Hid (rowF n go a l tr = rowF n go a (l.drop (j + 1)) tr') := Lib.hid (by rw [HRW.out, HDR.out]; exact rowF_skip (by simp only [Int.toNat_natCast]; rw [hme]; simp))
            clear hme f1
            go_wp2_with fail
            go_roundg (rl - (j + 1))
            case measure => have := HGK.out; omega
            case rel => exact ⟨j + 1, tr', A', l', c', rfl, by go_num, HQL, by omega, HSWb, HWb, hzb, HBEb, HIb, HOK, HH, Lib.hid (by omega), HE⟩
          · have hme2 : metB tr' k = false := by simpa using hme
            have HMF := Lib.hid hme2
            rw [hme2] at m1
            clear hme hme2
            have HC0 : Hid (nodeB n (k : Int) && !metB tr' (k : Int).toNat) := Lib.hid (by rw [HND.out, Int.toNat_natCast, HMF.out]; rfl)
            go_wp2_with fail
            have hTm : ¬ T w.heap.size := fun h => by have := HT.out _ h; omega
            have HB7 : Hid (Below w.heap.size wb (wb.setCell ⟨w.heap.size, k, none⟩ (.bool true))) := Lib.hid ((Below.refl w.heap.size wb).setCell (show w.heap.size ≤ (⟨w.heap.size, k, none⟩ : Addr).block from Nat.le_refl _) _)
            have n7 : (wb.setCell ⟨w.heap.size, k, none⟩ (.bool true)).cell? ⟨wr.heap.size, 0, none⟩ = some (.int .i64 (k : Int)) := by
              rw [World.cell?_setCell_other _ _ _ _ (by intro h1; injection h1 with h2 _; omega)]; exact n1
            have HMT7 : Hid ((wb.setCell ⟨w.heap.size, k, none⟩ (.bool true)).rowIs w.heap.size 4 n (mv (tr' ++ [(k, a)]))) := Lib.hid (mv_step a HSWb.out.met)
            have HQW7 : Hid (QW (w.heap.size + 2) (wb.setCell ⟨w.heap.size, k, none⟩ (.bool true)) (.slice A' l' c') (waitL tr' h)) := Lib.hid (HSWb.out.wait.kept (by simp) (fun q hq _ => Below.heap_setCell _ _ _ _ (by simp; omega)))
            have hz7 : (wb.setCell ⟨w.heap.size, k, none⟩ (.bool true)).heap.size = wb.heap.size := by simp
            have HBE7 : Hid ((wb.setCell ⟨w.heap.size, k, none⟩ (.bool true)).heap[w.heap.size + 1]? = w1.heap[w.heap.size + 1]?) := Lib.hid ((Below.heap_setCell _ _ _ _ (by simp)).trans HBEb.out)
            generalize wb.setCell ⟨w.heap.size, k, none⟩ (.bool true) = wc at *
            have HW7 : Hid (Turn T w wc) := Lib.hid (HWb.out.then_below HB7.out)
            have HOK7 : Hid (TrOk n (tr' ++ [(k, a)])) := Lib.hid (HOK.out.snoc a hk HMF.out)
            refine (HP.out tr' k a wc HOK.out hk HMF.out (HI.out _ _ _ HIb.out HWb.out HB7.out) HW7.out).mono ?_
            rintro x w8 ⟨rfl, hi8, ht8⟩
            have HI8 := Lib.hid hi8
            have hz8 := ht8.size
            have HW8 : Hid (Turn T w w8) := Lib.hid (HW7.out.trans ⟨ht8.os, ht8.tape, ht8.output, ht8.size, fun q hq hn => ht8.block q hq hn⟩)
            have hTw : ∀ q, T q → q < w.heap.size := HT.out
            have HMT8 : Hid (w8.rowIs w.heap.size 4 n (mv (tr' ++ [(k, a)]))) := Lib.hid (HMT7.out.of_block (ht8.block _ HMT7.out.lt hTm))
            have HQW8 : Hid (QW (w.heap.size + 2) w8 (.slice A' l' c') (waitL tr' h)) := Lib.hid (HQW7.out.turn ht8 (fun q hq => by have := hTw q hq; omega))
            have HBE8 : Hid (w8.heap[w.heap.size + 1]? = w1.heap[w.heap.size + 1]?) := Lib.hid ((ht8.block _ (by omega) (fun h => by have := hTw _ h; omega)).trans HBE7.out)
            have n8 : w8.cell? ⟨wr.heap.size, 0, none⟩ = some (.int .i64 (k : Int)) := (ht8.cell (p := ⟨wr.heap.size, 0, none⟩) (by show wr.heap.size < wc.heap.size; omega) (fun h => by have := hTw _ h; simp at this; omega)).trans n7
            clear hi8 ht8 hTw n1 n7 m1 f1 hTm
            obtain ⟨gb, HG⟩ : ∃ gb, Hid (go (tr' ++ [(k, a)]) = gb) := ⟨_, Lib.hid rfl⟩
            rw [HG.out]
            cases gb with
            | false =>
              have HFE : Hid (tr' ++ [(k, a)] = FIN) := Lib.hid (by
                rw [← HFF.out, seaF_stop (tr' := tr' ++ [(k, a)]) (by rw [HRW.out, HDR.out, rowF_stop HC0.out (by rw [Int.toNat_natCast]; exact HG.out), Int.toNat_natCast])])
              go_wp2_with fail
              refine noGoto_end ?_
              go_end0
              exact ⟨⟨_, rfl⟩, by rw [← HFE.out]; exact HI8.out, HW8.out⟩
            | true =>
              have HE : Hid (rowF n go a l tr = rowF n go a (l.drop (j + 1)) (tr' ++ [(k, a)])) := Lib.hid (by rw [HRW.out, HDR.out, rowF_go HC0.out (by rw [Int.toNat_natCast]; exact HG.out), Int.toNat_natCast])
              have hwz8 : w.heap.size + 2 ≤ w8.heap.size := by omega
              have HLQ : Hid ((waitL (tr' ++ [(k, a)]) h).length = (tr' ++ [(k, a)]).length - h) := Lib.hid (waitL_len _ _)
              go_upto_region 10 with (at_builtin; refine append_qw rfl (.tmp 45) (.tmp 48) rfl (w.heap.size + 2) _ (waitL tr' h) rfl HQW8.out (k : Int) rfl (by rw [waitL_len]; have := HOK.out.len; omega) hwz8 ?_; intro v4 w4 ho4 hb4; rw [← waitL_snoc HH.out k a] at ho4; obtain ⟨A4, c4, rfl, _⟩ := ho4.form; rw [HLQ.out] at ho4 ⊢; have HO4 := Lib.hid ho4; have HB4 := Lib.hid hb4; clear ho4 hb4)
              have HW4 : Hid (Turn T w w4) := Lib.hid (HW8.out.then_below (HB4.out.mono (by omega)))
              have HSW4 : Hid (SeaW w n (tr' ++ [(k, a)]) h (.slice A4 ((tr' ++ [(k, a)]).length - h) c4) w4) := Lib.hid ⟨HMT8.out.of_block (HB4.out.block _ (by omega)), HO4.out⟩
              have HBE4 : Hid (w4.heap[w.heap.size + 1]? = w1.heap[w.heap.size + 1]?) := Lib.hid ((HB4.out.block _ (by omega)).trans HBE8.out)
              have hz4 := HB4.out.size
              have HI4 : Hid (I (tr' ++ [(k, a)]) w4) := Lib.hid (HI.out _ _ _ HI8.out HW8.out (HB4.out.mono (by omega)))
              clear n8
              go_wp2_with fail
              go_roundg (rl - (j + 1))
              case measure => have := HGK.out; omega
              case rel => exact ⟨j + 1, tr' ++ [(k, a)], A4, (tr' ++ [(k, a)]).length - h, c4, by simp, by go_num, Lib.hid rfl, by omega, HSW4, HW4, by omega, HBE4, HI4, HOK7, Lib.hid (by have := HH.out; simp; omega), Lib.hid (by omega), HE⟩
        · have hnd2 : nodeB n to = false := by simpa using hnd
          have HE : Hid (rowF n go a l tr = rowF n go a (l.drop (j + 1)) tr') := Lib.hid (by rw [HRW.out, HDR.out]; exact rowF_skip (by simp only; rw [hnd2]; rfl))
          rw [hnd2]
          clear hnd hnd2
          go_wp2_with fail
          go_roundg (rl - (j + 1))
          case measure => have := HGK.out; omega
          case rel => exact ⟨j + 1, tr', A', l', c', rfl, by go_num, HQL, by omega, HSWb, HWb, hzb, HBEb, HIb, HOK, HH, Lib.hid (by omega), HE⟩
      · obtain rfl : j = rl := by omega
        have HRE : Hid (rowF n go a l tr = (tr', true)) := Lib.hid (by rw [HRW.out, List.drop_of_length_le (by rw [HL.out]; exact Nat.le_refl _)]; rfl)
        clear HRW
        by_cases hq : l' = 0
        · subst hq
          have HFE : Hid (tr' = FIN) := Lib.hid (by rw [← HFF.out, seaF_end HRE.out (by have := HQL.out; omega)])
          go_wp2_with fail
          refine noGoto_end ?_
          go_end0
          exact ⟨⟨_, rfl⟩, by rw [← HFE.out]; exact HIW.out, HW.out⟩
        · have hhl : h < tr'.length := by have := HQL.out; omega
          have HFE : Hid (seaF n rows go fz (rows.getD (tr'.getD h (0, 0)).1 []) ((tr'.getD h (0, 0)).1 : Int) tr' (h + 1) = FIN) := Lib.hid (by rw [← HFF.out, seaF_next HRE.out hhl])
          have hk := HOK.out.at_ hhl
          have hwl : (waitL tr' h).length = l' := by rw [waitL_len]; exact HQL.out.symm
          have HQT : Hid (QW (w.heap.size + 2) wr (.slice (if c' = 1 then A' else A'.map (·.add 1)) (l' - 1) (c' - 1)) (waitL tr' (h + 1))) := Lib.hid (by rw [← waitL_tail]; exact HSW1.out.wait.tail (by omega))
          have hcell : ∃ b off, A' = some ⟨b, off, none⟩ ∧ wr.cell? ⟨b, off, none⟩ = some (.int .i64 ((waitL tr' h).getD 0 0)) := by
            obtain ⟨A2, c2, e2, i2, _⟩ := HSW1.out.wait.form
            injection e2 with e2 _ _
            subst e2
            exact i2.cell0 (by omega)
          rw [waitL_head hhl] at hcell
          generalize (tr'.getD h (0, 0)).1 = k at hcell hk HFE
          obtain ⟨b, o, rfl, d1⟩ := hcell
          obtain ⟨br, fr, rfl, hbr, hcr⟩ := HR.out (by rw [HN.out]; omega)
          obtain ⟨A5, c5, d2, hl5, hm5, hp5⟩ := hcr k (by rw [HN.out]; exact hk)
          have hsl := fun W => tail1_run (some ⟨b, o, none⟩) l' c' (by omega) W
          have d3 : wr.cell? ⟨br, fr + k, none⟩ = some (.slice A5 (rows.getD k []).length c5) := (World.cell?_of_block (w := w0) (a := ⟨br, fr + k, none⟩) (HWK.out wr HW.out br hbr)).trans d2
          have HP5 : Hid (∀ W, Turn T w W → W.heap.size ≥ w1.heap.size → W.heap[w.heap.size + 1]? = w1.heap[w.heap.size + 1]? → PA W A5 (rows.getD k [])) := Lib.hid (fun W ht _ _ => hp5.keepB (by have := HWZ.out; have := ht.size; omega) (HWK.out W ht))
          have HLQ2 : Hid (l' - 1 = tr'.length - (h + 1)) := Lib.hid (by have := HQL.out; omega)
          have hm6 : (rows.getD k []).length ≤ 9223372036854775807 := by unfold maxLen at hm5; omega
          obtain ⟨row, HROW⟩ : ∃ row, Hid (rows.getD k [] = row) := ⟨_, Lib.hid rfl⟩
          rw [HROW.out] at d3 HP5 HFE hm6
          obtain ⟨r2, HR2⟩ : ∃ r2, Hid (row.length = r2) := ⟨_, Lib.hid rfl⟩
          rw [HR2.out] at d3 hm6
          have hl0 : 0 < l' := by omega
          have HHL := Lib.hid hhl
          clear d2 hl5 hm5 hp5 hcr hwl hhl hq
          generalize (if c' = 1 then some (⟨b, o, none⟩ : Addr) else Option.map (fun x => x.add 1) (some (⟨b, o, none⟩ : Addr))) = A6 at hsl HQT
          go_wp2_with fail
          go_quiet (fail)
          go_wp2_with fail
          go_roundg fz
          case measure => have := HFZ.out; omega
          case rel => exact ⟨tr', h + 1, row, A5, c5, r2, k, A6, l' - 1, c' - 1, rfl, HR2, hm6, rfl, rfl, HLQ2, HP5, Lib.hid ⟨HSW1.out.met, HQT.out⟩, Lib.hid (HW.out.drewN _), hzw, HBE, Lib.hid (HI.out tr' wr _ HIW.out HW.out (below_drewN (Below.refl _ _) _)), HOK, Lib.hid (by have := HHL.out; omega), Lib.hid (by have := HFN.out; omega), HFE⟩
end Go.Proofs.Ytnfiohekdbjgoaa
