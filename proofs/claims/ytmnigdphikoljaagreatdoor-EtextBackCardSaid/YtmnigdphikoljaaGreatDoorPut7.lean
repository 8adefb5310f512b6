/- Contracts that the claim stands on, several texts in one: EtSign, EtName, EtNamed, EtWord, EtWordL. -/
import Derived.RangeFuncCalls
import Derived.Test.YtmnigdphikoljaaGreatDoorPut1
import Derived.Test.YtmnigdphikoljaaGreatDoorPut2
import Derived.Test.YtmnigdphikoljaaGreatDoorPut3
import Derived.Test.YtmnigdphikoljaaGreatDoorPut4
import Derived.Test.YtmnigdphikoljaaGreatDoorPut5
import Derived.Test.YtmnigdphikoljaaGreatDoorPut6
namespace Go.Proofs.YtmnigdphikoljaaGreatDoor.et
open Go.ChangeShapes Go.WideShapes Go.ChangeAt Go.RowKit Go.Deep

def FolP (F : Fx) (w : World) (s : ByteArray) (st : St) (e : Ending) (w' : World) : Prop := e = .returned (.bool (folF s st).1) ∧ StP F w (folF s st).2 w'
set_option maxRecDepth 20000 in
set_option maxHeartbeats 1000000 in
theorem follows_any (F : Fx) (s : ByteArray) (st : St) (w : World) (h : Rdr F w st) : Calls Tryz.prog 99 #[.pointer (some ⟨F.b, 0, none⟩), .string s] w (FolP F w s st) := by
  have h0 := h
  obtain ⟨A, c, h⟩ := h
  cases ht : st.ts with
  | nil =>
    have HT : Hid (folF s st = (false, st)) := Lib.hid (by unfold folF; rw [ht])
    have c0 := h.s0
    rw [ht] at c0
    dsimp only [List.length_nil] at c0
    have HS : Hid (StP F w st w) := Lib.hid ⟨h0, Turn.refl _ _⟩
    clear h h0
    go_enter Tryz.func99, Tryz.ntmps99
    go_wp2
    go_ret
    unfold FolP
    rw [HT.out]
    exact ⟨rfl, HS.out⟩
  | cons t r =>
    have H0 := Lib.hid h0
    obtain ⟨tb, off, rfl, htb, htn, t0, t1, t2, t3⟩ := h.head ht
    have c0 := h.s0
    have HTS := Lib.hid ht
    rw [ht] at c0
    obtain ⟨n, hn⟩ : ∃ n, (t :: r).length = n := ⟨_, rfl⟩
    rw [hn] at c0
    have hp : (0 : Int) < (n : Int) := by rw [← hn]; simp
    obtain ⟨z, HZ⟩ : ∃ z, Hid (sgB t s = z) := ⟨_, Lib.hid rfl⟩
    clear h h0 htb htn hn ht
    go_enter Tryz.func99, Tryz.ntmps99
    go_wp2_with fail
    refine (isSign_any t s w).mono ?_
    rw [HZ.out]
    rintro e w1 ⟨rfl, hb1⟩
    have HB1 := Lib.hid hb1
    clear c0 t0 t1 t2 t3 hb1
    cases z with
    | false =>
      have HT : Hid (folF s st = (false, st)) := Lib.hid (by unfold folF; rw [HTS.out]; dsimp only; rw [HZ.out]; rfl)
      go_wp2
      go_ret
      unfold FolP
      rw [HT.out]
      exact ⟨rfl, H0.out.next HB1.out, Turn.of_below HB1.out⟩
    | true =>
      have HT : Hid (folF s st = (true, ⟨r, st.pl, st.why⟩)) := Lib.hid (by unfold folF; rw [HTS.out]; dsimp only; rw [HZ.out]; rfl)
      go_wp2_with fail
      refine (take_any F st w1 (H0.out.next HB1.out)).mono ?_
      unfold TakeP
      rw [show takeF F.en st = (t, ⟨r, st.pl, st.why⟩) by unfold takeF; rw [HTS.out]]
      rintro e w2 ⟨rfl, hs2⟩
      have HS2 := Lib.hid (StP.below HB1.out hs2)
      clear hs2
      go_wp2
      go_ret
      unfold FolP
      rw [HT.out]
      exact ⟨rfl, HS2.out⟩
def SgP (F : Fx) (w : World) (s : ByteArray) (st : St) (e : Ending) (w' : World) : Prop := (∃ r, e = .returned r) ∧ StP F w (sgF F.en s st) w'
set_option maxRecDepth 20000 in
set_option maxHeartbeats 1000000 in
theorem sign_any (F : Fx) (s : ByteArray) (st : St) (w : World) (h : Rdr F w st) : Calls Tryz.prog 143 #[.pointer (some ⟨F.b, 0, none⟩), .string s] w (SgP F w s st) := by
  have H0 := Lib.hid h
  have hlt : F.b < w.heap.size := by obtain ⟨A, c, h⟩ := h; exact h.lt
  obtain ⟨z, HZ⟩ : ∃ z, Hid (sgB (takeF F.en st).1 s = z) := ⟨_, Lib.hid rfl⟩
  have HG : Hid (sgF F.en s st = if z then (takeF F.en st).2 else (takeF F.en st).2.fail (takeF F.en st).1.pos 3) := Lib.hid (by unfold sgF; rw [HZ.out])
  clear h
  go_enter Tryz.func143, Tryz.ntmps143
  go_wp2_with fail
  refine (take_any F st w H0.out).mono ?_
  unfold TakeP
  generalize (takeF F.en st).1 = t at *
  generalize (takeF F.en st).2 = s2 at *
  rintro e w1 ⟨rfl, hs1⟩
  have HS1 := Lib.hid hs1
  have hlt1 : F.b < w1.heap.size := by obtain ⟨A, c, h⟩ := hs1.1; exact h.lt
  clear hs1
  unfold tokV
  have HT1 := Lib.hid (TB.new w1 t)
  have t0 := HT1.out.c0
  have t1 := HT1.out.c1
  have t2 := HT1.out.c2
  have t3 := HT1.out.c3
  go_wp2_with fail
  refine (isSign_any t s _).mono ?_
  rw [HZ.out]
  rintro e w2 ⟨rfl, hb2⟩
  have HT2 := Lib.hid (HT1.out.keep hb2)
  have HS2 := Lib.hid (HS1.out.next (bthen (below_alloc1 _ _) hb2))
  clear t0 t1 t2 t3 hb2
  have t0 := HT2.out.c0
  have t1 := HT2.out.c1
  have t2 := HT2.out.c2
  have t3 := HT2.out.c3
  cases z with
  | true =>
    go_wp2
    go_end0
    refine ⟨⟨_, rfl⟩, ?_⟩
    rw [HG.out]
    exact HS2.out
  | false =>
    go_wp2_with fail
    refine (fail_any F s2 t 3 w2 HS2.out.1).mono ?_
    rintro e w3 ⟨⟨r3, rfl⟩, hs3⟩
    have HS3 := Lib.hid (HS2.out.trans hs3)
    clear hs3 t0 t1 t2 t3
    go_wp2
    go_end0
    refine ⟨⟨_, rfl⟩, ?_⟩
    rw [HG.out]
    exact HS3.out
def NumP (F : Fx) (w : World) (st : St) (e : Ending) (w' : World) : Prop := e = .returned (tokV (numF F.en st).1) ∧ StP F w (numF F.en st).2 w'
set_option maxRecDepth 20000 in
set_option maxHeartbeats 1000000 in
theorem number_any (F : Fx) (st : St) (w : World) (h : Rdr F w st) : Calls Tryz.prog 101 #[.pointer (some ⟨F.b, 0, none⟩)] w (NumP F w st) := by
  have hlt : F.b < w.heap.size := by obtain ⟨A, c, h⟩ := h; exact h.lt
  have hb1 := below_alloc1 w (.cells #[.int .i64 0, .int .i64 0, .int .i64 0, .string ⟨#[]⟩] 107)
  have H0 := Lib.hid (h.next hb1)
  have HZ0 := Lib.hid (TB.new w ⟨0, 0, 0, ⟨#[]⟩⟩)
  have HB1 := Lib.hid hb1
  have HG : Hid (numF F.en st = ((takeF F.en st).1, if (takeF F.en st).1.kind = 2 then (takeF F.en st).2 else (takeF F.en st).2.fail (takeF F.en st).1.pos 3)) := Lib.hid rfl
  clear h hb1
  go_enter Tryz.func101, Tryz.ntmps101
  go_wp2_with fail
  have hz : F.b < (w.alloc (.cells #[.int .i64 0, .int .i64 0, .int .i64 0, .string ⟨#[]⟩] 107)).heap.size := by simp; omega
  refine (take_any F st _ H0.out).mono ?_
  unfold TakeP
  generalize (takeF F.en st).1 = t at *
  generalize (takeF F.en st).2 = s2 at *
  rintro e w1 ⟨rfl, hs1⟩
  have HS1 := Lib.hid (StP.below HB1.out hs1)
  have HZ1 := Lib.hid (HZ0.out.turn hs1.2 (by omega))
  have hlt1 : w.heap.size < w1.heap.size := HZ1.out.lt
  clear hs1
  unfold tokV
  have HT1 := Lib.hid (TB.new w1 t)
  have HZ2 := Lib.hid (HZ1.out.keep (below_alloc1 w1 (.cells #[.int .i64 (t.kind : Nat), .int .i64 t.num, .int .i64 (t.pos : Nat), .string t.text] 107)))
  have HS2 := Lib.hid (HS1.out.next (below_alloc1 w1 (.cells #[.int .i64 (t.kind : Nat), .int .i64 t.num, .int .i64 (t.pos : Nat), .string t.text] 107)))
  clear hz
  go_upto_region 2 with (fail)
  have hw1 : F.b ≠ w1.heap.size := by omega
  generalize hwn : w1.heap.size = tb at *
  generalize w1.alloc (.cells #[.int .i64 (t.kind : Nat), .int .i64 t.num, .int .i64 (t.pos : Nat), .string t.text] 107) = w2 at *
  have t0 := HT1.out.c0
  have t1 := HT1.out.c1
  have t2 := HT1.out.c2
  have t3 := HT1.out.c3
  have z0 := HZ2.out.c0
  have z1 := HZ2.out.c1
  have z2 := HZ2.out.c2
  have z3 := HZ2.out.c3
  have zf := HZ2.out.fz
  by_cases hk : t.kind = 2
  · obtain ⟨kd, nu, po, tx⟩ := t
    dsimp only at hk
    subst hk
    go_wp2
    refine bodyPost_ret (v := tokV ⟨2, nu, po, tx⟩) (results_cell_row (P := Tryz.prog) Tryz.results101 _ _ w.heap.size 107 _ (0, 0) _ rfl (HZ2.out.put ⟨2, nu, po, tx⟩) Tryz.underlying107 rfl (by kernel_rfl)) rfl ⟨?_, ?_⟩
    · rw [HG.out]
    · rw [HG.out]
      exact HS2.out.put hlt (Nat.le_refl _) ⟨2, nu, po, tx⟩
  · have hk2 : ¬ (t.kind : Int) = 2 := by omega
    go_wp2_with fail
    refine (fail_any F s2 t 3 w2 HS2.out.1).mono ?_
    rintro e w3 ⟨⟨r3, rfl⟩, hs3⟩
    have HS3 := Lib.hid (HS2.out.trans hs3)
    have HZ3 := Lib.hid (HZ2.out.turn hs3.2 (by omega))
    have HT3 := Lib.hid (HT1.out.turn hs3.2 (by omega))
    clear hs3 t0 t1 t2 t3 z0 z1 z2 z3 zf
    have t0 := HT3.out.c0
    have t1 := HT3.out.c1
    have t2 := HT3.out.c2
    have t3 := HT3.out.c3
    have z0 := HZ3.out.c0
    have z1 := HZ3.out.c1
    have z2 := HZ3.out.c2
    have z3 := HZ3.out.c3
    have zf := HZ3.out.fz
    go_wp2
    refine bodyPost_ret (v := tokV t) (results_cell_row (P := Tryz.prog) Tryz.results101 _ _ w.heap.size 107 _ (0, 0) _ rfl (HZ3.out.put t) Tryz.underlying107 rfl (by kernel_rfl)) rfl ⟨?_, ?_⟩
    · rw [HG.out]
    · rw [HG.out]
      dsimp only
      rw [if_neg hk]
      exact HS3.out.put hlt (Nat.le_refl _) t
end Go.Proofs.YtmnigdphikoljaaGreatDoor.et
namespace Go.Proofs.YtmnigdphikoljaaGreatDoor.et
open Go.ChangeShapes Go.WideShapes Go.ChangeAt Go.RowKit Go.Deep

def NmP (F : Fx) (w : World) (op : Int) (st : St) (e : Ending) (w' : World) : Prop := e = .returned (.int .i64 ((nmF F.N F.en op st).1 : Nat)) ∧ StP F w (nmF F.N F.en op st).2 w'
set_option maxRecDepth 20000 in
set_option maxHeartbeats 2000000 in
theorem rname_any (F : Fx) (op : Int) (l : List ByteArray) (st : St) (w : World) (h : Rdr F w st) (hl : nmOf F.N op = some l) (hlen : l.length ≤ 1000000) : Calls Tryz.prog 175 #[.pointer (some ⟨F.b, 0, none⟩), .int .i64 op] w (NmP F w op st) := by
  have hlt : F.b < w.heap.size := by obtain ⟨A, c, h⟩ := h; exact h.lt
  have H0 := Lib.hid h
  have HL := Lib.hid hl
  have HLEN := Lib.hid hlen
  have HG : Hid (nmF F.N F.en op st = ((findF (takeF F.en st).1.text 0 l).getD 0, if (findF (takeF F.en st).1.text 0 l).isSome then (if (takeF F.en st).1.kind = 1 then (takeF F.en st).2 else (takeF F.en st).2.fail (takeF F.en st).1.pos 3) else (if (takeF F.en st).1.kind = 1 then (takeF F.en st).2 else (takeF F.en st).2.fail (takeF F.en st).1.pos 3).fail (takeF F.en st).1.pos 8)) := Lib.hid (by unfold nmF; rw [hl]; rfl)
  clear h hl hlen
  go_enter Tryz.func175, Tryz.ntmps175
  go_wp2_with fail
  refine (take_any F st _ H0.out).mono ?_
  unfold TakeP
  generalize (takeF F.en st).1 = t at *
  generalize (takeF F.en st).2 = s2 at *
  rintro e w1 ⟨rfl, hs1⟩
  have HS1 := Lib.hid hs1
  have hlt1 : F.b < w1.heap.size := by obtain ⟨A, c, h⟩ := hs1.1; exact h.lt
  clear hs1
  unfold tokV
  have HT1 := Lib.hid (TB.new w1 t)
  have HS2 := Lib.hid (HS1.out.next (below_alloc1 w1 (.cells #[.int .i64 (t.kind : Nat), .int .i64 t.num, .int .i64 (t.pos : Nat), .string t.text] 107)))
  go_upto_region 2 with (fail)
  have hw1 : F.b ≠ w1.heap.size := by omega
  generalize hwn : w1.heap.size = tb at *
  generalize w1.alloc (.cells #[.int .i64 (t.kind : Nat), .int .i64 t.num, .int .i64 (t.pos : Nat), .string t.text] 107) = w2 at *
  clear hwn HS1
  obtain ⟨o, HF⟩ : ∃ o, Hid (findF t.text 0 l = o) := ⟨_, Lib.hid rfl⟩
  rw [HF.out] at HG
  have t0 := HT1.out.c0
  have t1 := HT1.out.c1
  have t2 := HT1.out.c2
  have t3 := HT1.out.c3
  by_cases hk : t.kind = 1
  · have HG9 := Lib.hid (HG.out.trans (by rw [if_pos hk]))
    clear HG
    obtain ⟨kd, nu, po, tx⟩ := t
    dsimp only at hk
    subst hk
    go_upto_region 4 with (fail)
    have HS9 := HS2
    have HT9 := HT1
    clear t0 t1 t2 t3 HS2 HT1
    generalize w2 = w9 at *
    generalize s2 = s9 at *
    have hnm := HS9.out.1
    obtain ⟨A9, c9, hR9⟩ := hnm
    have HNM : Hid (NmR w9.drew F.X F.N) := Lib.hid (hR9.nm.below hR9.below.drew)
    have x2 := hR9.s2
    have x3 := hR9.s3
    have x4 := hR9.s4
    have x5 := hR9.s5
    have x6 := hR9.s6
    have x7 := hR9.s7
    have y3 := HT9.out.c3
    have hz1 : F.b < w9.drew.heap.size := hR9.lt
    have hz2 : tb < w9.drew.heap.size := HT9.out.lt
    clear hR9
    have HCALL := Lib.hid (first_any F.X F.N op tx l w9.drew HNM.out HL.out HLEN.out)
    rw [HF.out] at HCALL
    go_region_held3 (fun w' => w'.cell? ⟨F.b, 2, none⟩ = some (.slice F.X.a1 F.X.n1 F.X.c1) ∧ w'.cell? ⟨F.b, 3, none⟩ = some (.slice F.X.a2 F.X.n2 F.X.c2) ∧ w'.cell? ⟨F.b, 4, none⟩ = some (.slice F.X.a3 F.X.n3 F.X.c3) ∧ w'.cell? ⟨F.b, 5, none⟩ = some (.slice F.X.a4 F.X.n4 F.X.c4) ∧ w'.cell? ⟨F.b, 6, none⟩ = some (.slice F.X.a5 F.X.n5 F.X.c5) ∧ w'.cell? ⟨F.b, 7, none⟩ = some (.int .i64 F.X.self) ∧ w'.cell? ⟨tb, 3, none⟩ = some (.string tx))
      (first | exact ⟨x2, x3, x4, x5, x6, x7, y3⟩ | exact ⟨g2, g3, g4, g5, g6, g7, g8⟩ | go_keep)
      ((go_at_call 40; refine HCALL.out.mono ?_; rintro e w10 ⟨ho10, hb10⟩; obtain rfl : e = .returned (.tuple #[.int .i64 ((o.getD 0 : Nat) : Int), .bool o.isSome]) := ho10; have g2 := (hb10.cell (p := ⟨F.b, 2, none⟩) hz1).trans x2; have g3 := (hb10.cell (p := ⟨F.b, 3, none⟩) hz1).trans x3; have g4 := (hb10.cell (p := ⟨F.b, 4, none⟩) hz1).trans x4; have g5 := (hb10.cell (p := ⟨F.b, 5, none⟩) hz1).trans x5; have g6 := (hb10.cell (p := ⟨F.b, 6, none⟩) hz1).trans x6; have g7 := (hb10.cell (p := ⟨F.b, 7, none⟩) hz1).trans x7; have g8 := (hb10.cell (p := ⟨tb, 3, none⟩) hz2).trans y3; have HB10 := Lib.hid hb10; clear hb10))
    have HB11 := Lib.hid (bthen (Below.refl _ w9).drew HB10.out)
    have HS10 := Lib.hid (HS9.out.next HB11.out)
    have HT10 := Lib.hid (HT9.out.keep HB11.out)
    clear x2 x3 x4 x5 x6 x7 y3 g2 g3 g4 g5 g6 g7 g8 HCALL HNM
    have t0 := HT10.out.c0
    have t1 := HT10.out.c1
    have t2 := HT10.out.c2
    have t3 := HT10.out.c3
    have HK := Lib.hid HG9.out
    clear HG9
    generalize o.getD 0 = k at *
    generalize o.isSome = u at *
    cases u with
    | true =>
      go_wp2
      go_ret
      refine ⟨?_, ?_⟩
      · rw [HK.out]; rfl
      · rw [HK.out]
        exact HS10.out
    | false =>
      go_wp2_with fail
      refine (fail_any F s9 ⟨1, nu, po, tx⟩ 8 w10 HS10.out.1).mono ?_
      rintro e w11 ⟨⟨r11, rfl⟩, hs11⟩
      have HS11 := Lib.hid (HS10.out.trans hs11)
      clear hs11 t0 t1 t2 t3
      go_wp2
      go_ret
      refine ⟨?_, ?_⟩
      · rw [HK.out]; rfl
      · rw [HK.out]
        exact HS11.out
  · have HG9 := Lib.hid (HG.out.trans (by rw [if_neg hk]))
    clear HG
    have hk2 : ¬ (t.kind : Int) = 1 := by omega
    go_wp2_with fail
    refine (fail_any F s2 t 3 w2 HS2.out.1).mono ?_
    rintro e w3 ⟨⟨r3, rfl⟩, hs3⟩
    have HS9 := Lib.hid (HS2.out.trans hs3)
    have HT9 := Lib.hid (HT1.out.turn hs3.2 (by omega))
    clear hs3 t0 t1 t2 t3 HS2 HT1
    generalize s2.fail (t.pos : Nat) 3 = s9 at *
    generalize w3 = w9 at *
    go_upto_region 4 with (fail)
    have hnm := HS9.out.1
    obtain ⟨A9, c9, hR9⟩ := hnm
    have HNM : Hid (NmR w9.drew F.X F.N) := Lib.hid (hR9.nm.below hR9.below.drew)
    have x2 := hR9.s2
    have x3 := hR9.s3
    have x4 := hR9.s4
    have x5 := hR9.s5
    have x6 := hR9.s6
    have x7 := hR9.s7
    have y3 := HT9.out.c3
    have hz1 : F.b < w9.drew.heap.size := hR9.lt
    have hz2 : tb < w9.drew.heap.size := HT9.out.lt
    clear hR9
    have HCALL := Lib.hid (first_any F.X F.N op t.text l w9.drew HNM.out HL.out HLEN.out)
    rw [HF.out] at HCALL
    go_region_held3 (fun w' => w'.cell? ⟨F.b, 2, none⟩ = some (.slice F.X.a1 F.X.n1 F.X.c1) ∧ w'.cell? ⟨F.b, 3, none⟩ = some (.slice F.X.a2 F.X.n2 F.X.c2) ∧ w'.cell? ⟨F.b, 4, none⟩ = some (.slice F.X.a3 F.X.n3 F.X.c3) ∧ w'.cell? ⟨F.b, 5, none⟩ = some (.slice F.X.a4 F.X.n4 F.X.c4) ∧ w'.cell? ⟨F.b, 6, none⟩ = some (.slice F.X.a5 F.X.n5 F.X.c5) ∧ w'.cell? ⟨F.b, 7, none⟩ = some (.int .i64 F.X.self) ∧ w'.cell? ⟨tb, 3, none⟩ = some (.string t.text))
      (first | exact ⟨x2, x3, x4, x5, x6, x7, y3⟩ | exact ⟨g2, g3, g4, g5, g6, g7, g8⟩ | go_keep)
      ((go_at_call 40; refine HCALL.out.mono ?_; rintro e w10 ⟨ho10, hb10⟩; obtain rfl : e = .returned (.tuple #[.int .i64 ((o.getD 0 : Nat) : Int), .bool o.isSome]) := ho10; have g2 := (hb10.cell (p := ⟨F.b, 2, none⟩) hz1).trans x2; have g3 := (hb10.cell (p := ⟨F.b, 3, none⟩) hz1).trans x3; have g4 := (hb10.cell (p := ⟨F.b, 4, none⟩) hz1).trans x4; have g5 := (hb10.cell (p := ⟨F.b, 5, none⟩) hz1).trans x5; have g6 := (hb10.cell (p := ⟨F.b, 6, none⟩) hz1).trans x6; have g7 := (hb10.cell (p := ⟨F.b, 7, none⟩) hz1).trans x7; have g8 := (hb10.cell (p := ⟨tb, 3, none⟩) hz2).trans y3; have HB10 := Lib.hid hb10; clear hb10))
    have HB11 := Lib.hid (bthen (Below.refl _ w9).drew HB10.out)
    have HS10 := Lib.hid (HS9.out.next HB11.out)
    have HT10 := Lib.hid (HT9.out.keep HB11.out)
    clear x2 x3 x4 x5 x6 x7 y3 g2 g3 g4 g5 g6 g7 g8 HCALL HNM
    have t0 := HT10.out.c0
    have t1 := HT10.out.c1
    have t2 := HT10.out.c2
    have t3 := HT10.out.c3
    have HK := Lib.hid HG9.out
    clear HG9
    generalize o.getD 0 = k at *
    generalize o.isSome = u at *
    cases u with
    | true =>
      go_wp2
      go_ret
      refine ⟨?_, ?_⟩
      · rw [HK.out]; rfl
      · rw [HK.out]
        exact HS10.out
    | false =>
      go_wp2_with fail
      refine (fail_any F s9 t 8 w10 HS10.out.1).mono ?_
      rintro e w11 ⟨⟨r11, rfl⟩, hs11⟩
      have HS11 := Lib.hid (HS10.out.trans hs11)
      clear hs11 t0 t1 t2 t3
      go_wp2
      go_ret
      refine ⟨?_, ?_⟩
      · rw [HK.out]; rfl
      · rw [HK.out]
        exact HS11.out
end Go.Proofs.YtmnigdphikoljaaGreatDoor.et
namespace Go.Proofs.YtmnigdphikoljaaGreatDoor.et
open Go.ChangeShapes Go.WideShapes Go.ChangeAt Go.RowKit Go.Deep

def nodC (x : Int × Int) : List Value := [.int .i64 x.1, .int .i64 x.2]
theorem nodC_len (x : Int × Int) : (nodC x).length = 2 := rfl
theorem nodC_one (x : Int × Int) : ∀ u ∈ nodC x, u.oneCell' = true := by
  intro u hu
  simp only [nodC, List.mem_cons, List.not_mem_nil, or_false] at hu
  rcases hu with rfl | rfl <;> simp [Value.oneCell']
/-- A row of nodes of the call's own. -/
abbrev ON (base : Nat) (w : World) (v : Value) (l : List (Int × Int)) : Prop := sr.OR nodC 2 base 39 w v l
theorem ON.nil (base : Nat) (w : World) : ON base w (.slice none 0 0) [] := World.ownsRow_nil _ _ _ _
theorem ON.one (base : Nat) (w : World) (op n : Int) (hb : base ≤ w.heap.size) : ON base (w.alloc (.cells #[.int .i64 op, .int .i64 n] 39)) (.slice (some ⟨w.heap.size, 0, none⟩) 1 1) [(op, n)] :=
  ⟨by simp [sr.flatR, nodC], .inr ⟨w.heap.size, 1, #[.int .i64 op, .int .i64 n], rfl, hb, World.alloc_heap_new w _, Nat.le_refl _, by unfold maxLen; omega, by simp, by simp [sr.flatR, nodC]⟩⟩
/-- What a call that reads a part leaves. -/
def PostR (F : Fx) (w : World) (r : Rd) (e : Ending) (w' : World) : Prop := ∃ v, e = .returned v ∧ ON w.heap.size w' v r.1 ∧ StP F w r.2 w'
theorem postR_one {F : Fx} {w w' : World} {st : St} (op n : Int) (h : StP F w st w') : PostR F w ([(op, n)], st) (.returned (.slice (some ⟨w'.heap.size, 0, none⟩) 1 1)) (w'.alloc (.cells #[.int .i64 op, .int .i64 n] 39)) :=
  ⟨_, rfl, ON.one _ _ op n h.2.size, h.next (below_alloc1 _ _)⟩
set_option maxRecDepth 20000 in
set_option maxHeartbeats 1000000 in
theorem named_any (F : Fx) (op : Int) (l : List ByteArray) (st : St) (w : World) (h : Rdr F w st) (hl : nmOf F.N op = some l) (hlen : l.length ≤ 1000000) : Calls Tryz.prog 163 #[.pointer (some ⟨F.b, 0, none⟩), .int .i64 op] w (PostR F w (namF F.N F.en op st)) := by
  have H0 := Lib.hid h
  have HL := Lib.hid hl
  have HLEN := Lib.hid hlen
  clear h hl hlen
  go_enter Tryz.func163, Tryz.ntmps163
  go_wp2_with fail
  refine (sign_any F ⟨#[40]⟩ st w H0.out).mono ?_
  rintro e w1 ⟨⟨r1, rfl⟩, hs1⟩
  have HS1 := Lib.hid hs1
  clear hs1
  go_wp2_with fail
  refine (rname_any F op l _ w1 HS1.out.1 HL.out HLEN.out).mono ?_
  rintro e w2 ⟨rfl, hs2⟩
  have HS2 := Lib.hid (HS1.out.trans hs2)
  clear hs2
  go_wp2_with fail
  refine (sign_any F ⟨#[41]⟩ _ w2 HS2.out.1).mono ?_
  rintro e w3 ⟨⟨r3, rfl⟩, hs3⟩
  have HS3 := Lib.hid (HS2.out.trans hs3)
  clear hs3
  have HG : Hid (namF F.N F.en op st = ([(op, (((nmF F.N F.en op (sgF F.en ⟨#[40]⟩ st)).1 : Nat) : Int))], sgF F.en ⟨#[41]⟩ (nmF F.N F.en op (sgF F.en ⟨#[40]⟩ st)).2)) := Lib.hid rfl
  generalize (nmF F.N F.en op (sgF F.en ⟨#[40]⟩ st)).1 = k at *
  generalize sgF F.en ⟨#[41]⟩ (nmF F.N F.en op (sgF F.en ⟨#[40]⟩ st)).2 = s3 at *
  go_wp2
  go_ret
  rw [HG.out]
  exact postR_one op k HS3.out
theorem find_lt {s : ByteArray} : ∀ (l : List ByteArray) (k : Nat), (findF s k l).getD 0 ≤ k + l.length
  | [], k => by simp [findF]
  | x :: l, k => by
    unfold findF
    split
    · simp
    · have := find_lt (s := s) l (k + 1)
      rw [List.length_cons]
      omega
theorem nm_le {N : Nm} {l : List ByteArray} (en : Nat) (op : Int) (st : St) (hl : nmOf N op = some l) : (nmF N en op st).1 ≤ l.length := by
  unfold nmF
  dsimp only
  rw [hl]
  have := find_lt (s := (takeF en st).1.text) l 0
  simpa using this
theorem fail_sub {st : St} {p y : Int} {t : lx.Tok} (h : t ∈ (st.fail p y).ts) : t ∈ st.ts := by
  unfold St.fail at h
  split at h
  · cases h
  · exact h
theorem take_sub {en : Nat} {st : St} {t : lx.Tok} (h : t ∈ (takeF en st).2.ts) : t ∈ st.ts := by
  unfold takeF at h
  split at h
  · exact fail_sub h
  · rename_i u r e
    rw [e]
    exact List.mem_cons_of_mem _ h
theorem sg_sub {en : Nat} {s : ByteArray} {st : St} {t : lx.Tok} (h : t ∈ (sgF en s st).ts) : t ∈ st.ts := by
  unfold sgF at h
  split at h
  · exact take_sub h
  · exact take_sub (fail_sub h)
theorem nm_sub {N : Nm} {en : Nat} {op : Int} {st : St} {t : lx.Tok} (h : t ∈ (nmF N en op st).2.ts) : t ∈ st.ts := by
  unfold nmF at h
  dsimp only at h
  have h2 : t ∈ (if (takeF en st).1.kind = 1 then (takeF en st).2 else (takeF en st).2.fail (takeF en st).1.pos 3).ts := by
    split at h
    · exact h
    · exact fail_sub h
  split at h2
  · exact take_sub h2
  · exact take_sub (fail_sub h2)
theorem num_in {en : Nat} {st : St} (h : ∀ t ∈ st.ts, -2000000 ≤ t.num ∧ t.num ≤ 2000000) : -2000000 ≤ (numF en st).1.num ∧ (numF en st).1.num ≤ 2000000 := by
  unfold numF takeF
  split
  · exact ⟨by show (-2000000 : Int) ≤ 0; omega, by show (0 : Int) ≤ 2000000; omega⟩
  · rename_i u r e
    exact h u (by rw [e]; simp)
set_option maxRecDepth 20000 in
set_option maxHeartbeats 1000000 in
theorem location_any (F : Fx) (l : List ByteArray) (st : St) (w : World) (h : Rdr F w st) (hl : nmOf F.N 7 = some l) (hlen : l.length ≤ 1000000) : Calls Tryz.prog 164 #[.pointer (some ⟨F.b, 0, none⟩)] w (PostR F w (locF F.N F.en st)) := by
  have H0 := Lib.hid h
  have HL := Lib.hid hl
  have HLEN := Lib.hid hlen
  have hlt : F.b < w.heap.size := by obtain ⟨A, c, h⟩ := h; exact h.lt
  have hnum : ∀ t ∈ st.ts, -2000000 ≤ t.num ∧ t.num ≤ 2000000 := by obtain ⟨A, c, h⟩ := h; exact h.num
  have hk1 : (nmF F.N F.en 7 (sgF F.en ⟨#[40]⟩ st)).1 ≤ 1000000 := Nat.le_trans (nm_le F.en 7 (sgF F.en ⟨#[40]⟩ st) hl) hlen
  have hq : -2000000 ≤ (numF F.en (sgF F.en ⟨#[44]⟩ (nmF F.N F.en 7 (sgF F.en ⟨#[40]⟩ st)).2)).1.num ∧ (numF F.en (sgF F.en ⟨#[44]⟩ (nmF F.N F.en 7 (sgF F.en ⟨#[40]⟩ st)).2)).1.num ≤ 2000000 := num_in (fun t ht => hnum t (sg_sub (nm_sub (sg_sub ht))))
  have HG : Hid (locF F.N F.en st = ([(7, ((nmF F.N F.en 7 (sgF F.en ⟨#[40]⟩ st)).1 : Int) * 16 + (numF F.en (sgF F.en ⟨#[44]⟩ (nmF F.N F.en 7 (sgF F.en ⟨#[40]⟩ st)).2)).1.num)], sgF F.en ⟨#[41]⟩ (if 16 ≤ (numF F.en (sgF F.en ⟨#[44]⟩ (nmF F.N F.en 7 (sgF F.en ⟨#[40]⟩ st)).2)).1.num then (numF F.en (sgF F.en ⟨#[44]⟩ (nmF F.N F.en 7 (sgF F.en ⟨#[40]⟩ st)).2)).2.fail (numF F.en (sgF F.en ⟨#[44]⟩ (nmF F.N F.en 7 (sgF F.en ⟨#[40]⟩ st)).2)).1.pos 10 else (numF F.en (sgF F.en ⟨#[44]⟩ (nmF F.N F.en 7 (sgF F.en ⟨#[40]⟩ st)).2)).2))) := Lib.hid rfl
  clear h hl hlen hnum
  go_enter Tryz.func164, Tryz.ntmps164
  go_wp2_with fail
  refine (sign_any F ⟨#[40]⟩ st w H0.out).mono ?_
  rintro e w1 ⟨⟨r1, rfl⟩, hs1⟩
  have HS1 := Lib.hid hs1
  clear hs1
  go_wp2_with fail
  refine (rname_any F 7 l _ w1 HS1.out.1 HL.out HLEN.out).mono ?_
  rintro e w2 ⟨rfl, hs2⟩
  have HS2 := Lib.hid (HS1.out.trans hs2)
  clear hs2
  go_wp2_with fail
  refine (sign_any F ⟨#[44]⟩ _ w2 HS2.out.1).mono ?_
  rintro e w3 ⟨⟨r3, rfl⟩, hs3⟩
  have HS3 := Lib.hid (HS2.out.trans hs3)
  clear hs3
  go_wp2_with fail
  refine (number_any F _ w3 HS3.out.1).mono ?_
  rintro e w4 ⟨rfl, hs4⟩
  have HS4 := Lib.hid (HS3.out.trans hs4)
  clear hs4
  generalize (nmF F.N F.en 7 (sgF F.en ⟨#[40]⟩ st)).1 = k at *
  generalize (numF F.en (sgF F.en ⟨#[44]⟩ (nmF F.N F.en 7 (sgF F.en ⟨#[40]⟩ st)).2)).1 = t at *
  generalize (numF F.en (sgF F.en ⟨#[44]⟩ (nmF F.N F.en 7 (sgF F.en ⟨#[40]⟩ st)).2)).2 = s4 at *
  unfold tokV
  have HT5 := Lib.hid (TB.new w4 t)
  have HS5 := Lib.hid (HS4.out.next (below_alloc1 w4 (.cells #[.int .i64 (t.kind : Nat), .int .i64 t.num, .int .i64 (t.pos : Nat), .string t.text] 107)))
  go_upto_region 5 with (fail)
  have hsz := HS4.out.2.size
  generalize hwn : w4.heap.size = tb at *
  have htb : tb ≠ F.b := by omega
  generalize w4.alloc (.cells #[.int .i64 (t.kind : Nat), .int .i64 t.num, .int .i64 (t.pos : Nat), .string t.text] 107) = w5 at *
  clear hwn
  have t0 := HT5.out.c0
  have t1 := HT5.out.c1
  have t2 := HT5.out.c2
  have t3 := HT5.out.c3
  have hw1 : wrap64 ((k : Int) * 16) = (k : Int) * 16 := by unfold wrap64; omega
  have hw2 : wrap64 ((k : Int) * 16 + t.num) = (k : Int) * 16 + t.num := by unfold wrap64; omega
  by_cases hg : 16 ≤ t.num
  · have HG9 := Lib.hid (HG.out.trans (by rw [if_pos hg]))
    clear HG
    go_wp2_with fail
    refine (fail_any F s4 t 10 w5 HS5.out.1).mono ?_
    rintro e w6 ⟨⟨r6, rfl⟩, hs6⟩
    have HS6 := Lib.hid (HS5.out.trans hs6)
    have HT6 := Lib.hid (HT5.out.turn hs6.2 htb)
    clear hs6 t0 t1 t2 t3
    have t0 := HT6.out.c0
    have t1 := HT6.out.c1
    have t2 := HT6.out.c2
    have t3 := HT6.out.c3
    go_wp2_with fail
    refine (sign_any F ⟨#[41]⟩ _ w6 HS6.out.1).mono ?_
    rintro e w7 ⟨⟨r7, rfl⟩, hs7⟩
    have HS7 := Lib.hid (HS6.out.trans hs7)
    have HT7 := Lib.hid (HT6.out.turn hs7.2 htb)
    clear hs7 t0 t1 t2 t3
    have t1 := HT7.out.c1
    go_wp2
    go_ret
    rw [HG9.out]
    exact postR_one 7 _ HS7.out
  · have HG9 := Lib.hid (HG.out.trans (by rw [if_neg hg]))
    clear HG
    have hg2 : t.num < 16 := by omega
    go_wp2_with fail
    refine (sign_any F ⟨#[41]⟩ _ w5 HS5.out.1).mono ?_
    rintro e w7 ⟨⟨r7, rfl⟩, hs7⟩
    have HS7 := Lib.hid (HS5.out.trans hs7)
    have HT7 := Lib.hid (HT5.out.turn hs7.2 htb)
    clear hs7 t0 t1 t2 t3
    have t1 := HT7.out.c1
    go_wp2
    go_ret
    rw [HG9.out]
    exact postR_one 7 _ HS7.out
end Go.Proofs.YtmnigdphikoljaaGreatDoor.et
namespace Go.Proofs.YtmnigdphikoljaaGreatDoor.et
open Go.ChangeShapes Go.WideShapes Go.ChangeAt Go.RowKit Go.Deep

/-- A function value that reads as rd says, of fewer than f tokens. -/
def ReadsK (F : Fx) (wE : World) (V : Value) (f : Nat) (rd : St → Rd) : Prop :=
  ∃ g first lb, V = .func (.func g) first lb ∧ (∀ args w, (callFunc g args).run Tryz.prog w = .ok (.enter g args) w) ∧
    ∀ w st, Tn F wE w → Rdr F w st → st.ts.length < f → Calls Tryz.prog g (first ++ lb) w (PostR F w (rd st))
theorem infoN : (Tryz.prog.info? 39).map (fun i => (i.zero, i.size, i.bytes)) = some (some (.agg #[.int .i64 0, .int .i64 0]), 2, 16) := by kernel_rfl
/-- One node more behind what was read. -/
theorem append_node {w : World} {ops : Array Oper} {rest : List Oper} {o : Oper} {a : Act} {Q : Exit → Act → World → Prop} (base : Nat) (hgd : o.guard = none) (s x : Operand)
    (ho : o.op = .call { callee := .builtin .append, args := #[s, x], argTypes := #[114, 114] }) (hty : o.type = 114) (v : Value) (l : List (Int × Int)) (hs : a.eval s = v) (hown : ON base w v l) (op n : Int) (hx : a.eval x = .slice (some ⟨w.heap.size, 0, none⟩) 1 1) (hlen : l.length ≤ 100000) (hbase : base ≤ w.heap.size)
    (h : ∀ v' w', ON base w' v' (l ++ [(op, n)]) → Below base w w' → wpList Tryz.prog ops Q rest (a.put o.dst v') w') :
    wpList Tryz.prog ops Q (o :: rest) a (w.alloc (.cells #[.int .i64 op, .int .i64 n] 39)) :=
  sr.list_append_own (t := 114) (e := 39) (z := .agg #[.int .i64 0, .int .i64 0]) (bytes := 16) nodC_len nodC_one Tryz.underlying114 infoN rfl (by decide) (by decide) base w.heap.size hgd s x ho hty v l hs (hown.below (below_alloc1 _ _)) (op, n) _ rfl hx hlen (by simp; omega) _ (World.alloc_heap_new w _) (fun v' w' h1 h2 _ => h v' w' h1 (((Below.refl base w).alloc hbase _).trans h2))
theorem StP.over {F : Fx} {w w1 w' : World} {st : St} (h : StP F w st w1) (hl : F.b < w.heap.size) (hb : Below w.heap.size w1 w') : StP F w st w' := by
  obtain ⟨⟨A, c, h1⟩, h2⟩ := h
  have hbb := h1.hb
  have hsz := h1.below.size
  refine ⟨⟨A, c, ⟨h1.row.of_block (hb.block _ hl), h1.toks, h1.cap, h1.hb, ?_, h1.nm, h1.num, h1.most, h1.lens, h1.txt⟩⟩, ?_⟩
  · exact ⟨hb.os.trans h1.below.os, hb.tape.trans h1.below.tape, hb.output.trans h1.below.output, Nat.le_trans h1.below.size hb.size, fun k hk => (hb.block k (by omega)).trans (h1.below.block k hk)⟩
  · exact ⟨hb.os.trans h2.os, hb.tape.trans h2.tape, hb.output.trans h2.output, Nat.le_trans h2.size hb.size, fun k hk hn => (hb.block k hk).trans (h2.block k hk hn)⟩
theorem ON.turn {F : Fx} {base : Nat} {w w' : World} {v : Value} {l : List (Int × Int)} (h : ON base w v l) (k : Tn F w w') (hb : F.b < base) : ON base w' v l := by
  obtain ⟨h1, h2⟩ := h
  refine ⟨h1, ?_⟩
  rcases h2 with h2 | ⟨g, cap, cur, e, hg, hc, r⟩
  · exact .inl h2
  · refine .inr ⟨g, cap, cur, e, hg, ?_, r⟩
    rw [k.block g (Array.getElem?_eq_some_iff.1 hc).1 (by show g ≠ F.b; omega)]
    exact hc
theorem ON.form {base : Nat} {w : World} {v : Value} {l : List (Int × Int)} (h : ON base w v l) : ∃ A c, v = .slice A l.length c := by
  rcases h.2 with ⟨e, e2⟩ | ⟨g, cap, cur, e, _⟩
  · exact ⟨none, 0, by rw [e, e2]⟩
  · exact ⟨_, cap, e⟩
theorem ON.down {base base' : Nat} {w : World} {v : Value} {l : List (Int × Int)} (h : ON base w v l) (hb : base' ≤ base) : ON base' w v l := sr.OR.mono h hb
theorem postR_nil {F : Fx} {w w' : World} {st : St} (h : StP F w st w') : PostR F w ([], st) (.returned (.slice none 0 0)) w' := ⟨_, rfl, ON.nil _ _, h⟩
theorem postR_from {F : Fx} {w w0 w' : World} {s0 : St} {r : Rd} {e : Ending} (h0 : StP F w s0 w0) (h : PostR F w0 r e w') : PostR F w r e w' := by
  obtain ⟨v, e, h1, h2⟩ := h
  exact ⟨v, e, h1.down h0.2.size, h0.trans h2⟩
end Go.Proofs.YtmnigdphikoljaaGreatDoor.et
namespace Go.Proofs.YtmnigdphikoljaaGreatDoor.et
open Go.ChangeShapes Go.WideShapes Go.ChangeAt Go.RowKit Go.Deep

/-- What word reads, by what the word is, and for what it stands. -/
def wordG (N : Nm) (en : Nat) (ex : St → Rd) (t : lx.Tok) (st : St) (q1 q2 q3 q4 : Bool) (o1 o2 : Option Nat) : Rd :=
  if q1 then ([(5, 0)], st) else if q2 then namF N en 6 st else if q3 then namF N en 8 st else if q4 then locF N en st else match o1 with
    | some k => ([(4, (k : Int))], st)
    | none => match o2 with
      | none => ([], st.fail t.pos 8)
      | some k => if (folF ⟨#[91]⟩ st).1 then ((ex (folF ⟨#[91]⟩ st).2).1 ++ [(3, (k : Int))], sgF en ⟨#[93]⟩ (ex (folF ⟨#[91]⟩ st).2).2) else ([(2, (k : Int))], (folF ⟨#[91]⟩ st).2)
theorem word_eq (N : Nm) (en : Nat) (ex : St → Rd) (t : lx.Tok) (st : St) : wordF N en ex t st = wordG N en ex t st (t.text.toList == [115, 101, 108, 102]) (t.text.toList == [108, 101, 110]) (t.text.toList == [110, 111, 110, 101]) (t.text.toList == [97, 116]) (findF t.text 0 N.locals) (findF t.text 0 N.vars) := by
  have e1 : (⟨#[115, 101, 108, 102]⟩ : ByteArray).toList = [115, 101, 108, 102] := by simp [go_sem]
  have e2 : (⟨#[108, 101, 110]⟩ : ByteArray).toList = [108, 101, 110] := by simp [go_sem]
  have e3 : (⟨#[110, 111, 110, 101]⟩ : ByteArray).toList = [110, 111, 110, 101] := by simp [go_sem]
  have e4 : (⟨#[97, 116]⟩ : ByteArray).toList = [97, 116] := by simp [go_sem]
  unfold wordF wordG
  rw [e1, e2, e3, e4]
  rfl
set_option maxRecDepth 20000 in
set_option maxHeartbeats 8000000 in
theorem word_any (F : Fx) (wE : World) (f : Nat) (ex : St → Rd) (hex : ReadsK F wE F.V f ex) (hfew : ∀ st, Few st (ex st)) (t : lx.Tok) (st : St) (w : World) (hE : Tn F wE w) (h : Rdr F w st) (hf : st.ts.length < f) : Calls Tryz.prog 142 #[.pointer (some ⟨F.b, 0, none⟩), tokV t] w (PostR F w (wordF F.N F.en ex t st)) := by
  have hlt : F.b < w.heap.size := by obtain ⟨A, c, h⟩ := h; exact h.lt
  have HEX := Lib.hid hex
  have HFEW := Lib.hid hfew
  have HE := Lib.hid hE
  have HF := Lib.hid hf
  have HS0 : Hid (StP F w st (w.alloc (.cells #[.int .i64 (t.kind : Nat), .int .i64 t.num, .int .i64 (t.pos : Nat), .string t.text] 107))) := Lib.hid (StP.next ⟨h, Turn.refl _ _⟩ (below_alloc1 _ _))
  have HT0 := Lib.hid (TB.new w t)
  have HLE : Hid (∀ op l, nmOf F.N op = some l → l.length ≤ 1000000) := Lib.hid (by obtain ⟨A, c, h⟩ := h; exact h.lens)
  clear h hex hfew hE hf
  unfold tokV
  go_enter Tryz.func142, Tryz.ntmps142
  go_upto_region 1 with (fail)
  have hsz : w.heap.size ≠ F.b := by omega
  generalize hwn : w.heap.size = tb at *
  generalize hw0 : w.alloc (.cells #[.int .i64 (t.kind : Nat), .int .i64 t.num, .int .i64 (t.pos : Nat), .string t.text] 107) = w0 at *
  clear hw0
  have t0 := HT0.out.c0
  have t1 := HT0.out.c1
  have t2 := HT0.out.c2
  have t3 := HT0.out.c3
  obtain ⟨q1, HQ1⟩ : ∃ q, (t.text.toList == [115, 101, 108, 102]) = q := ⟨_, rfl⟩
  obtain ⟨q2, HQ2⟩ : ∃ q, (t.text.toList == [108, 101, 110]) = q := ⟨_, rfl⟩
  obtain ⟨q3, HQ3⟩ : ∃ q, (t.text.toList == [110, 111, 110, 101]) = q := ⟨_, rfl⟩
  obtain ⟨q4, HQ4⟩ : ∃ q, (t.text.toList == [97, 116]) = q := ⟨_, rfl⟩
  obtain ⟨o1, HO1⟩ : ∃ o, Hid (findF t.text 0 F.N.locals = o) := ⟨_, Lib.hid rfl⟩
  obtain ⟨o2, HO2⟩ : ∃ o, Hid (findF t.text 0 F.N.vars = o) := ⟨_, Lib.hid rfl⟩
  have HG : Hid (wordF F.N F.en ex t st = wordG F.N F.en ex t st q1 q2 q3 q4 o1 o2) := Lib.hid (by rw [word_eq, HQ1, HQ2, HQ3, HQ4, HO1.out, HO2.out])
  cases q1 with
  | true =>
    go_wp2
    go_ret
    rw [HG.out]
    exact postR_one 5 0 HS0.out
  | false =>
    cases q2 with
    | true =>
      go_wp2_with fail
      refine (named_any F 6 _ st w0 HS0.out.1 rfl (HLE.out 6 _ rfl)).mono ?_
      rintro e w1 h1
      obtain ⟨v, rfl, hP⟩ : ∃ v, e = .returned v ∧ PostR F w (namF F.N F.en 6 st) e w1 := by
        obtain ⟨v, rfl, h2, h3⟩ := postR_from HS0.out h1
        exact ⟨v, rfl, v, rfl, h2, h3⟩
      have HP := Lib.hid hP
      clear hP h1
      go_wp2
      go_ret
      rw [HG.out]
      exact HP.out
    | false =>
      cases q3 with
      | true =>
        go_wp2_with fail
        refine (named_any F 8 _ st w0 HS0.out.1 rfl (HLE.out 8 _ rfl)).mono ?_
        rintro e w1 h1
        obtain ⟨v, rfl, hP⟩ : ∃ v, e = .returned v ∧ PostR F w (namF F.N F.en 8 st) e w1 := by
          obtain ⟨v, rfl, h2, h3⟩ := postR_from HS0.out h1
          exact ⟨v, rfl, v, rfl, h2, h3⟩
        have HP := Lib.hid hP
        clear hP h1
        go_wp2
        go_ret
        rw [HG.out]
        exact HP.out
      | false =>
        cases q4 with
        | true =>
          go_wp2_with fail
          refine (location_any F _ st w0 HS0.out.1 rfl (HLE.out 7 _ rfl)).mono ?_
          rintro e w1 h1
          obtain ⟨v, rfl, hP⟩ : ∃ v, e = .returned v ∧ PostR F w (locF F.N F.en st) e w1 := by
            obtain ⟨v, rfl, h2, h3⟩ := postR_from HS0.out h1
            exact ⟨v, rfl, v, rfl, h2, h3⟩
          have HP := Lib.hid hP
          clear hP h1
          go_wp2
          go_ret
          rw [HG.out]
          exact HP.out
        | false =>
          go_upto_region 10 with (fail)
          clear t0 t1 t2 t3
          obtain ⟨A9, c9, hR9⟩ := HS0.out.1
          have HNM : Hid (NmR w0.drew F.X F.N) := Lib.hid (hR9.nm.below hR9.below.drew)
          have x2 := hR9.s2
          have x3 := hR9.s3
          have x4 := hR9.s4
          have x5 := hR9.s5
          have x6 := hR9.s6
          have x7 := hR9.s7
          have y3 := HT0.out.c3
          have hz1 : F.b < w0.drew.heap.size := hR9.lt
          have hz2 : tb < w0.drew.heap.size := HT0.out.lt
          have HLN := Lib.hid (hR9.lens 4 _ rfl)
          clear hR9
          have HCALL := Lib.hid (first_any F.X F.N 4 t.text F.N.locals w0.drew HNM.out rfl HLN.out)
          rw [HO1.out] at HCALL
          go_region_held3 (fun w' => w'.cell? ⟨F.b, 2, none⟩ = some (.slice F.X.a1 F.X.n1 F.X.c1) ∧ w'.cell? ⟨F.b, 3, none⟩ = some (.slice F.X.a2 F.X.n2 F.X.c2) ∧ w'.cell? ⟨F.b, 4, none⟩ = some (.slice F.X.a3 F.X.n3 F.X.c3) ∧ w'.cell? ⟨F.b, 5, none⟩ = some (.slice F.X.a4 F.X.n4 F.X.c4) ∧ w'.cell? ⟨F.b, 6, none⟩ = some (.slice F.X.a5 F.X.n5 F.X.c5) ∧ w'.cell? ⟨F.b, 7, none⟩ = some (.int .i64 F.X.self) ∧ w'.cell? ⟨tb, 3, none⟩ = some (.string t.text))
            (first | exact ⟨x2, x3, x4, x5, x6, x7, y3⟩ | exact ⟨g2, g3, g4, g5, g6, g7, g8⟩ | go_keep)
            ((go_at_call 40; refine HCALL.out.mono ?_; rintro e w1 ⟨ho10, hb10⟩; obtain rfl : e = .returned (.tuple #[.int .i64 ((o1.getD 0 : Nat) : Int), .bool o1.isSome]) := ho10; have g2 := (hb10.cell (p := ⟨F.b, 2, none⟩) hz1).trans x2; have g3 := (hb10.cell (p := ⟨F.b, 3, none⟩) hz1).trans x3; have g4 := (hb10.cell (p := ⟨F.b, 4, none⟩) hz1).trans x4; have g5 := (hb10.cell (p := ⟨F.b, 5, none⟩) hz1).trans x5; have g6 := (hb10.cell (p := ⟨F.b, 6, none⟩) hz1).trans x6; have g7 := (hb10.cell (p := ⟨F.b, 7, none⟩) hz1).trans x7; have g8 := (hb10.cell (p := ⟨tb, 3, none⟩) hz2).trans y3; have HB10 := Lib.hid hb10; clear hb10))
          have HB11 := Lib.hid (bthen (Below.refl _ w0).drew HB10.out)
          have HS1 := Lib.hid (HS0.out.next HB11.out)
          have HT1 := Lib.hid (HT0.out.keep HB11.out)
          clear x2 x3 x4 x5 x6 x7 y3 g2 g3 g4 g5 g6 g7 g8 HCALL HNM hz1 hz2 HB11 HB10 HLN HS0 HT0
          have t0 := HT1.out.c0
          have t1 := HT1.out.c1
          have t2 := HT1.out.c2
          have t3 := HT1.out.c3
          cases o1 with
          | some k =>
            dsimp only [Option.getD, Option.isSome]
            go_wp2
            go_ret
            rw [HG.out]
            exact postR_one 4 _ HS1.out
          | none =>
            dsimp only [Option.getD, Option.isSome]
            go_upto_region 13 with (fail)
            clear t0 t1 t2 t3
            obtain ⟨A9, c9, hR9⟩ := HS1.out.1
            have HNM : Hid (NmR w1.drew F.X F.N) := Lib.hid (hR9.nm.below hR9.below.drew)
            have x2 := hR9.s2
            have x3 := hR9.s3
            have x4 := hR9.s4
            have x5 := hR9.s5
            have x6 := hR9.s6
            have x7 := hR9.s7
            have y3 := HT1.out.c3
            have hz1 : F.b < w1.drew.heap.size := hR9.lt
            have hz2 : tb < w1.drew.heap.size := HT1.out.lt
            have HLN := Lib.hid (hR9.lens 2 _ rfl)
            clear hR9
            have HCALL := Lib.hid (first_any F.X F.N 2 t.text F.N.vars w1.drew HNM.out rfl HLN.out)
            rw [HO2.out] at HCALL
            go_region_held3 (fun w' => w'.cell? ⟨F.b, 2, none⟩ = some (.slice F.X.a1 F.X.n1 F.X.c1) ∧ w'.cell? ⟨F.b, 3, none⟩ = some (.slice F.X.a2 F.X.n2 F.X.c2) ∧ w'.cell? ⟨F.b, 4, none⟩ = some (.slice F.X.a3 F.X.n3 F.X.c3) ∧ w'.cell? ⟨F.b, 5, none⟩ = some (.slice F.X.a4 F.X.n4 F.X.c4) ∧ w'.cell? ⟨F.b, 6, none⟩ = some (.slice F.X.a5 F.X.n5 F.X.c5) ∧ w'.cell? ⟨F.b, 7, none⟩ = some (.int .i64 F.X.self) ∧ w'.cell? ⟨tb, 3, none⟩ = some (.string t.text))
              (first | exact ⟨x2, x3, x4, x5, x6, x7, y3⟩ | exact ⟨g2, g3, g4, g5, g6, g7, g8⟩ | go_keep)
              ((go_at_call 40; refine HCALL.out.mono ?_; rintro e w2 ⟨ho10, hb10⟩; obtain rfl : e = .returned (.tuple #[.int .i64 ((o2.getD 0 : Nat) : Int), .bool o2.isSome]) := ho10; have g2 := (hb10.cell (p := ⟨F.b, 2, none⟩) hz1).trans x2; have g3 := (hb10.cell (p := ⟨F.b, 3, none⟩) hz1).trans x3; have g4 := (hb10.cell (p := ⟨F.b, 4, none⟩) hz1).trans x4; have g5 := (hb10.cell (p := ⟨F.b, 5, none⟩) hz1).trans x5; have g6 := (hb10.cell (p := ⟨F.b, 6, none⟩) hz1).trans x6; have g7 := (hb10.cell (p := ⟨F.b, 7, none⟩) hz1).trans x7; have g8 := (hb10.cell (p := ⟨tb, 3, none⟩) hz2).trans y3; have HB10 := Lib.hid hb10; clear hb10))
            have HB11 := Lib.hid (bthen (Below.refl _ w1).drew HB10.out)
            have HS2 := Lib.hid (HS1.out.next HB11.out)
            have HT2 := Lib.hid (HT1.out.keep HB11.out)
            clear x2 x3 x4 x5 x6 x7 y3 g2 g3 g4 g5 g6 g7 g8 HCALL HNM hz1 hz2 HB11 HB10 HLN HS1 HT1
            have t0 := HT2.out.c0
            have t1 := HT2.out.c1
            have t2 := HT2.out.c2
            have t3 := HT2.out.c3
            cases o2 with
            | none =>
              dsimp only [Option.getD, Option.isSome]
              go_wp2_with fail
              refine (fail_any F st t 8 w2 HS2.out.1).mono ?_
              rintro e w3 ⟨⟨r3, rfl⟩, hs3⟩
              have HS3 := Lib.hid (HS2.out.trans hs3)
              clear hs3 t0 t1 t2 t3
              go_wp2
              go_ret
              rw [HG.out]
              exact postR_nil HS3.out
            | some k2 =>
              dsimp only [Option.getD, Option.isSome]
              go_wp2_with fail
              refine (follows_any F ⟨#[91]⟩ st w2 HS2.out.1).mono ?_
              rintro e w3 ⟨rfl, hs3⟩
              have HS3 := Lib.hid (HS2.out.trans hs3)
              have hl91 := fol_len ⟨#[91]⟩ st
              clear hs3
              generalize hb91 : (folF ⟨#[91]⟩ st).1 = b91 at *
              generalize hs91 : (folF ⟨#[91]⟩ st).2 = s91 at *
              cases b91 with
              | false =>
                have HG2 : Hid (wordG F.N F.en ex t st false false false false none (some k2) = ([(2, (k2 : Int))], s91)) := Lib.hid (by unfold wordG; rw [hb91, hs91]; rfl)
                go_wp2
                go_ret
                rw [HG.out, HG2.out]
                exact postR_one 2 _ HS3.out
              | true =>
                have HG2 : Hid (wordG F.N F.en ex t st false false false false none (some k2) = ((ex s91).1 ++ [(3, (k2 : Int))], sgF F.en ⟨#[93]⟩ (ex s91).2)) := Lib.hid (by unfold wordG; rw [hb91, hs91]; rfl)
                have hlen3 : s91.ts.length < f := by have := hl91.1; have := HF.out; omega
                have HLEN3 := Lib.hid hlen3
                have HFW := HFEW.out s91
                have hm91 : s91.ts.length ≤ 6000 := by obtain ⟨A, c, h⟩ := HS3.out.1; exact h.most
                have hlen4 : (ex s91).1.length ≤ 100000 := by unfold Few at HFW; omega
                have HLEN4 := Lib.hid hlen4
                clear hlen3 hl91 hb91 hs91 HFW hm91 hlen4
                obtain ⟨g, first, lb, hV, hg, hC⟩ := HEX.out
                have c8 : w3.cell? ⟨F.b, 8, none⟩ = some F.V := by obtain ⟨A, c, h⟩ := HS3.out.1; exact h.s8
                rw [hV] at c8
                have HC := Lib.hid (hC w3 s91 (HE.out.trans HS3.out.2) HS3.out.1 HLEN3.out)
                clear hC hV
                go_wp2_with fail
                refine HC.out.mono ?_
                rintro e w4 ⟨v4, rfl, ho4, hs4⟩
                have HS4 := Lib.hid (HS3.out.trans hs4)
                have HO4 := Lib.hid (ho4.down HS3.out.2.size)
                clear hs4 ho4 c8 HC
                go_wp2_with fail
                refine (sign_any F ⟨#[93]⟩ _ w4 HS4.out.1).mono ?_
                rintro e w5 ⟨⟨r5, rfl⟩, hs5⟩
                have HS5 := Lib.hid (HS4.out.trans hs5)
                have HO5 := Lib.hid (HO4.out.turn hs5.2 (by omega))
                have hw5 : w.heap.size ≤ w5.heap.size := HS5.out.2.size
                clear hs5
                go_upto_region 21 with (fail)
                go_wp2_with (at_builtin; refine append_node w.heap.size rfl _ _ rfl rfl v4 _ rfl HO5.out 3 (k2 : Int) rfl HLEN4.out hw5 ?_; intro v6 w6 ho6 hb6; have HO6 := Lib.hid ho6; have HS6 := Lib.hid (HS5.out.over (by omega) hb6); clear ho6 hb6)
                go_ret
                rw [HG.out, HG2.out]
                exact ⟨_, rfl, HO6.out, HS6.out⟩
end Go.Proofs.YtmnigdphikoljaaGreatDoor.et
