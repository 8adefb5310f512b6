/- The law OctetReads: what is read of any bytes, one thing behind the other, the first fault, and how many bytes are left, are what the document says. -/
import Derived.Test.YthakidnbgmpcfaaDocText
import Derived.Test.YthakidnbgmpcfaaWorks
import Derived.RangeFuncNested
namespace Go.Proofs.Ythakidnbgmpcfaa.octetReads
open Go.ChangeShapes Go.WideShapes Go.ChangeAt Go.RowKit

theorem rd_other {w w' : World} {g g2 : Nat} {A : Option Addr} {c : Nat} {l : List Int} {p : Nat} {e : Int} (h : RD w g A c l p e) (ho : Only g2 w w') (hne : g ≠ g2) (hA : 0 < l.length → ∀ ad, A = some ad → ad.block ≠ g2) : RD w' g A c l p e := by
  refine ⟨h.row.of_block (ho.block g h.row.lt (by intro e; injection e with e; exact hne e)), fun hn => ?_, h.place, h.u8, h.len, h.ne, h.cap⟩
  obtain ⟨b, off, e1, hlt, hc⟩ := h.bytes hn
  refine ⟨b, off, e1, Nat.lt_of_lt_of_le hlt ho.size, fun i hi => ?_⟩
  rw [World.cell?_of_block (w := w) (a := ⟨b, off + i, none⟩) (ho.block b hlt (by intro e; injection e with e; exact hA hn _ e1 e))]
  exact hc i hi
theorem open_cap {H : Type} {enc : TypeId × Value → H} {W : World} {A : Option Addr} {m c : Nat} {d : DataW H} {ps : List MemPlace}
    (h : DataW.Trod enc Try.prog W 0 (fun _ => true) true 22 (.slice A m c) d ps) : m ≤ c := by
  obtain ⟨fuel, hf⟩ := h
  rcases open_ints Try.underlying22 Try.underlying5 Try.cells5 hf with ⟨hcs, hx⟩ | ⟨a, len', cap', zs, hcs, _, hl, hm, hz, hx, hcell, hwz⟩
  · simp [Value.cells] at hcs
    obtain ⟨rfl, rfl, rfl⟩ := hcs
    exact Nat.le_refl _
  · simp [Value.cells] at hcs
    obtain ⟨rfl, rfl, rfl⟩ := hcs
    exact hl
theorem num_all {g : Nat} {A : Option Addr} {c : Nat} {l : List Int} {p : Nat} {e : Int} (w : World) (h : RD w g A c l p e) :
    Calls Try.prog 8 #[.pointer (some ⟨g, 0, none⟩)] w (RPost g A c l p w (.int .i64 (gotN l p e).v) (gotN l p e).k (gotN l p e).f) := by
  unfold gotN
  by_cases h0 : e = 0
  · subst h0
    rw [if_pos rfl]
    exact rnum_any w h
  · rw [if_neg h0]
    exact rnum_fault w h h0
theorem list_all {g : Nat} {A : Option Addr} {c : Nat} {l : List Int} {p : Nat} {e : Int} (w : World) (h : RD w g A c l p e) :
    Calls Try.prog 11 #[.pointer (some ⟨g, 0, none⟩)] w (RList g A c l p (gotL l p e) w) := by
  unfold gotL
  by_cases h0 : e = 0
  · subst h0
    rw [if_pos rfl]
    exact rlist_any w h
  · rw [if_neg h0]
    exact rlist_fault w h h0
theorem readMany_len : ∀ (n : Nat) (l : List Int), (readMany n l).v.length ≤ n
  | 0, _ => Nat.le_refl _
  | n + 1, l => by
    rw [readMany]
    split
    · exact Nat.zero_le _
    · split
      · exact Nat.zero_le _
      · have := readMany_len n (l.drop (readN l).k)
        simp; omega
theorem gotL_len (l : List Int) (p : Nat) (e : Int) : (gotL l p e).v.length ≤ l.length := by
  unfold gotL
  split
  · have h1 := readC_le (l.drop p)
    rw [List.length_drop] at h1
    unfold readL
    split
    · exact Nat.zero_le _
    · split
      · exact Nat.zero_le _
      · have := readMany_len (readC (l.drop p)).v ((l.drop p).drop (readC (l.drop p)).k)
        show (readMany _ _).v.length ≤ _
        omega
  · exact Nat.zero_le _
theorem txt_len (l : List Int) (p : Nat) (e : Int) : (txt l p e).v.length ≤ l.length := by
  unfold txt
  split
  · unfold readT
    split
    · exact Nat.zero_le _
    · simp; omega
  · exact Nat.zero_le _

set_option maxRecDepth 20000 in
set_option maxHeartbeats 16000000 in
theorem walk (A K : Option Addr) (c ck : Nat) (b kds : List Int) (w : World) (hc : A = none → c = 0) (hA : BA w A b) (hu : U8 b) (hbl : b.length ≤ 140737488355328) (hcap : b.length ≤ c) (hK : BA w K kds) (hku : U8 kds) (hkl : kds.length ≤ 140737488355328) :
    Calls Try.prog 3 #[.slice A b.length c, .slice K kds.length ck] w (LawPost w) := by
  have HB := Lib.hid hA
  have HU := Lib.hid hu
  have Hc := Lib.hid hc
  have HCAP := Lib.hid hcap
  have HK := Lib.hid hK
  have HKU := Lib.hid hku
  have HWK : Hid (∀ W, Calls Try.prog 4 #[] W fun e w' => e = .returned (.bool true) ∧ Below W.heap.size W w') := Lib.hid (fun W => works_any W)
  clear hA hu hc hcap hK hku
  obtain ⟨m, HM⟩ : ∃ m, Hid (kds.length = m) := ⟨_, Lib.hid rfl⟩
  rw [HM.out] at hkl ⊢
  by_cases h1 : 300 < b.length
  · have t : decide ((300 : Int) < (b.length : Int)) = true := decide_eq_true (by omega)
    go_enter Try.func3, Try.ntmps3
    go_wp2_with fail
    refine (HWK.out _).mono ?_
    rintro e w' ⟨rfl, hb⟩
    go_wp2
    go_ret
    exact ⟨rfl, hb⟩
  have t1 : decide ((300 : Int) < (b.length : Int)) = false := decide_eq_false (by omega)
  by_cases h2 : 40 < m
  · have t : decide ((40 : Int) < (m : Int)) = true := decide_eq_true (by omega)
    go_enter Try.func3, Try.ntmps3
    go_wp2_with fail
    refine (HWK.out _).mono ?_
    rintro e w' ⟨rfl, hb⟩
    go_wp2
    go_ret
    exact ⟨rfl, hb⟩
  have t2 : decide ((40 : Int) < (m : Int)) = false := decide_eq_false (by omega)
  go_enter Try.func3, Try.ntmps3
  go_wp2_with fail
  refine (from_any A c b.length b w rfl Hc.out HB.out HU.out (by omega)).mono ?_
  rintro e w3 ⟨g, A1, c1, rfl, hg, hb3, hrd⟩
  go_wp2_with fail
  refine (dfrom_any A b.length c _).mono ?_
  rintro e w4 ⟨rfl, hb4⟩
  unfold rrV
  have hgl := hrd.row.lt
  have HRB3 : Hid (0 < b.length → ∀ ad, A1 = some ad → ad.block < w3.heap.size) := Lib.hid (fun hn ad e => by
    obtain ⟨b', off, e2, hl, _⟩ := hrd.bytes hn
    rw [e] at e2
    injection e2 with e2
    subst e2
    exact hl)
  have HRD4 : Hid (RD w4 g A1 c1 b 0 0) := Lib.hid (hrd.keepB hgl HRB3.out hb4)
  have HB4 : Hid (Below w.heap.size w w4) := Lib.hid (hb3.trans (hb4.mono hb3.size))
  have hz4 := hb4.size
  have hz3 := hb3.size
  clear hrd hb3 hb4
  go_wp2_with fail
  have hx := World.alloc_heap_new w4 (.cells #[.slice A b.length c, .int .i64 0, .int .i64 0] 28)
  have hb5 : Below w4.heap.size w4 (w4.alloc (.cells #[.slice A b.length c, .int .i64 0, .int .i64 0] 28)) := (Below.refl _ _).alloc (Nat.le_refl _) _
  generalize w4.alloc (.cells #[.slice A b.length c, .int .i64 0, .int .i64 0] 28) = w5 at *
  obtain ⟨Z, HZ⟩ : ∃ Z, Hid (w4.heap.size = Z) := ⟨_, Lib.hid rfl⟩
  have HX5 : Hid (w5.heap[Z]? = some (.cells #[.slice A b.length c, .int .i64 ((0 : Nat) : Int), .int .i64 0] 28 (0, 0))) := Lib.hid (by rw [← HZ.out]; exact hx)
  have HSEP : Hid (g ≠ Z ∧ (0 < b.length → ∀ ad, A1 = some ad → ad.block ≠ Z) ∧ w.heap.size ≤ Z ∧ w.heap.size ≤ g) := Lib.hid (by
    have h := HZ.out
    exact ⟨by omega, fun hn ad e => by have := HRB3.out hn ad e; omega, by omega, hg⟩)
  have HRD5 : Hid (RD w5 g A1 c1 b 0 0) := Lib.hid (HRD4.out.keepB HRD4.out.row.lt (fun hn ad e => Nat.lt_of_lt_of_le (HRB3.out hn ad e) hz4) hb5)
  have HB5 : Hid (Below w.heap.size w w5) := Lib.hid (HB4.out.trans (hb5.mono HB4.out.size))
  rw [HZ.out]
  clear hx hb5 HRD4 HB4 HRB3 hz4 hz3 hgl hg
  go_loopw [7] (fun s wr => ∃ (i p : Nat) (e : Int), i ≤ m ∧ s = .int .i64 i ∧ Hid (wr.heap[Z]? = some (.cells #[.slice A b.length c, .int .i64 (p : Int), .int .i64 e] 28 (0, 0))) ∧ Hid (RD wr g A1 c1 b p e) ∧ Hid (Below w.heap.size w wr)) (fun s _ => m - (intOf s).toNat)
  case atStart => exact ⟨0, 0, 0, Nat.zero_le _, rfl, HX5, HRD5, HB5⟩
  case round =>
    clear HX5 HRD5 HB5
    obtain ⟨i, p, e, hi, rfl, HX, HRD, HW⟩ := hrel
    by_cases hlt : i < m
    · obtain ⟨bk, ok, rfl, hbk, hck⟩ := HK.out (by rw [HM.out]; omega)
      have d1 := (HW.out.cell (p := ⟨bk, ok + i, none⟩) hbk).trans (hck i (by rw [HM.out]; exact hlt))
      have hk8 := HKU.out.at_ i
      generalize kds.getD i 0 = kd at d1 hk8
      have hp := HRD.out.place
      have HRB : Hid (0 < b.length → ∀ ad, A1 = some ad → ad.block < wr.heap.size) := Lib.hid (fun hn ad e => by
        obtain ⟨b', off, e2, hl, _⟩ := HRD.out.bytes hn
        rw [e] at e2
        injection e2 with e2
        subst e2
        exact hl)
      obtain ⟨z0, z1, z2, _⟩ := cells_of HX.out
      clear hck hbk
      by_cases hk0 : kd = 0
      · subst hk0
        have HKD : Hid (∀ W : World, BA W A b → Calls Try.prog 7 #[rrV A b.length c p e] W (DNum A c b p (gotN b p e) W)) := Lib.hid (fun W h => dnum_any (c := c) (e := e) W h hp HU.out (by omega))
        have HKR : Hid (∀ W : World, RD W g A1 c1 b p e → Calls Try.prog 8 #[.pointer (some ⟨g, 0, none⟩)] W (RPost g A1 c1 b p W (.int .i64 (gotN b p e).v) (gotN b p e).k (gotN b p e).f)) := Lib.hid (fun W h => num_all W h)
        generalize gotN b p e = N at HKD HKR
        obtain ⟨nf, nv, nk⟩ := N
        obtain ⟨q2, HQ2⟩ : ∃ q2, Hid (p + nk = q2) := ⟨_, Lib.hid rfl⟩
        go_wp2_with fail
        refine (HKD.out _ (HB.out.below HW.out)).mono ?_
        rintro en w6 ⟨rfl, hb6⟩
        try simp only
        unfold rrV
        rw [HQ2.out]
        have HZ6 := Lib.hid ((hb6.block Z (Array.getElem?_eq_some_iff.1 HX.out).1).trans HX.out)
        have HRD6 : Hid (RD w6 g A1 c1 b p e) := Lib.hid (HRD.out.keepB HRD.out.row.lt (HRB.out) hb6)
        have HB6 : Hid (Below w.heap.size w w6) := Lib.hid (HW.out.trans (hb6.mono HW.out.size))
        have hz6 := hb6.size
        clear z0 z1 z2 hb6
        go_wp2_with fail
        have hy := World.alloc_heap_new w6 (.cells #[.slice A b.length c, .int .i64 (q2 : Int), .int .i64 nf] 28)
        have hb7 : Below w6.heap.size w6 (w6.alloc (.cells #[.slice A b.length c, .int .i64 (q2 : Int), .int .i64 nf] 28)) := (Below.refl _ _).alloc (Nat.le_refl _) _
        have HRB6 : Hid (0 < b.length → ∀ ad, A1 = some ad → ad.block < w6.heap.size) := Lib.hid (fun hn ad e => Nat.lt_of_lt_of_le (HRB.out hn ad e) hz6)
        generalize w6.alloc (.cells #[.slice A b.length c, .int .i64 (q2 : Int), .int .i64 nf] 28) = w7 at *
        refine (HKR.out _ (HRD6.out.keepB HRD6.out.row.lt HRB6.out hb7)).mono ?_
        rintro en w8 ⟨rfl, hrd8, ho8⟩
        try simp only at hrd8
        rw [HQ2.out] at hrd8
        have HRD8 := Lib.hid hrd8
        have hgl := HRD6.out.row.lt
        have hz7 := hb7.size
        have HZ8 := Lib.hid ((ho8.block Z (by have := (Array.getElem?_eq_some_iff.1 HZ6.out).1; omega) (by intro e; injection e with e; exact HSEP.out.1 e.symm)).trans ((hb7.block Z (Array.getElem?_eq_some_iff.1 HZ6.out).1).trans HZ6.out))
        have HY8 := Lib.hid ((ho8.block w6.heap.size (Array.getElem?_eq_some_iff.1 hy).1 (by intro e; injection e with e; omega)).trans hy)
        have HB8 : Hid (Below w.heap.size w w8) := Lib.hid ((HB6.out.trans (hb7.mono HB6.out.size)).trans (ho8.below HSEP.out.2.2.2 (Nat.le_trans HB6.out.size hz7)))
        clear hy hb7 hrd8 ho8 HKD HKR HRD6 HZ6 HB6
        obtain ⟨y0, y1, y2, _⟩ := cells_of HY8.out
        have hnn : (nv != nv) = false := by simp
        have hX := cells_set (v0 := .slice A b.length c) (v1 := .int .i64 (q2 : Int)) (v2 := .int .i64 nf) HZ8.out
        have hblk : ∀ q, q ≠ Z → (((w8.setCell ⟨Z, 0, none⟩ (.slice A b.length c)).setCell ⟨Z, 1, none⟩ (.int .i64 (q2 : Int))).setCell ⟨Z, 2, none⟩ (.int .i64 nf)).heap[q]? = w8.heap[q]? := fun q hq => (Below.heap_setCell _ _ _ _ hq).trans ((Below.heap_setCell _ _ _ _ hq).trans (Below.heap_setCell _ _ _ _ hq))
        have HX9 := Lib.hid hX
        have HRD9 : Hid (RD (((w8.setCell ⟨Z, 0, none⟩ (.slice A b.length c)).setCell ⟨Z, 1, none⟩ (.int .i64 (q2 : Int))).setCell ⟨Z, 2, none⟩ (.int .i64 nf)) g A1 c1 b q2 nf) := Lib.hid (rd_other HRD8.out ((((Only.refl Z w8).setCell 0 _).setCell 1 _).setCell 2 _) HSEP.out.1 HSEP.out.2.1)
        have HB9 : Hid (Below w.heap.size w (((w8.setCell ⟨Z, 0, none⟩ (.slice A b.length c)).setCell ⟨Z, 1, none⟩ (.int .i64 (q2 : Int))).setCell ⟨Z, 2, none⟩ (.int .i64 nf))) := Lib.hid (((HB8.out.setCell (show w.heap.size ≤ (⟨Z, 0, none⟩ : Addr).block from HSEP.out.2.2.1) _).setCell (show w.heap.size ≤ (⟨Z, 1, none⟩ : Addr).block from HSEP.out.2.2.1) _).setCell (show w.heap.size ≤ (⟨Z, 2, none⟩ : Addr).block from HSEP.out.2.2.1) _)
        obtain ⟨z0, z1, z2, fz⟩ := cells_of HZ8.out
        have f0 := fz 0
        have f1 := fz 1
        have f2 := fz 2
        clear hX hblk fz
        go_upto_region 23 with (fail)
        clear z0 z1 z2 f0 f1 f2 y0 y1 y2
        generalize (((w8.setCell ⟨Z, 0, none⟩ (.slice A b.length c)).setCell ⟨Z, 1, none⟩ (.int .i64 (q2 : Int))).setCell ⟨Z, 2, none⟩ (.int .i64 nf)) = w9 at *
        have hzl := (Array.getElem?_eq_some_iff.1 HX9.out).1
        have HZS : Hid (∀ W, Below w9.heap.size w9 W → W.cell? ⟨Z, 0, none⟩ = some (.slice A b.length c) ∧ W.cell? ⟨Z, 1, none⟩ = some (.int .i64 (q2 : Int)) ∧ W.cell? ⟨Z, 2, none⟩ = some (.int .i64 nf)) := Lib.hid (fun W h => by
          obtain ⟨a0, a1, a2, _⟩ := cells_of HX9.out
          exact ⟨(h.cell (p := ⟨Z, 0, none⟩) hzl).trans a0, (h.cell (p := ⟨Z, 1, none⟩) hzl).trans a1, (h.cell (p := ⟨Z, 2, none⟩) hzl).trans a2⟩)
        have hrl := HRD9.out.row.lt
        have HRDW : Hid (∀ W, Below w9.heap.size w9 W → RD W g A1 c1 b q2 nf) := Lib.hid (fun W h => HRD9.out.keepB hrl (fun hn ad e => by
          obtain ⟨b', off, e2, hl, _⟩ := HRD9.out.bytes hn
          rw [e] at e2
          injection e2 with e2
          subst e2
          exact hl) h)
        have hq2 : q2 ≤ b.length := HRD9.out.place
        have HKEEP : Hid (Below w9.heap.size w9 w9.drew) := Lib.hid (Below.refl _ _).drew
        refine wp_region_held_drew (S := (fun W => W.cell? ⟨Z, 0, none⟩ = some (.slice A b.length c) ∧ W.cell? ⟨Z, 1, none⟩ = some (.int .i64 (q2 : Int)) ∧ W.cell? ⟨Z, 2, none⟩ = some (.int .i64 nf))) (by kernel_rfl) (HZS.out _ HKEEP.out) ?_
        intro hS0
        have HS0 := Lib.hid hS0
        clear hS0
        simp only [Array.replicate, List.replicate]
        refine wpAnyH_take (i := 0) (oi := ⟨some 72, _, _, _, _, _⟩) (v := .pointer (some ⟨g, 0, none⟩)) rfl (by kernel_rfl) (by kernel_rfl) (by kernel_rfl) (fun _ _ _ h => h) (Or.inl ⟨by kernel_rfl, fun w9 hS => ?_⟩) HS0.out ?_
        · clear hS
          go_simp
        try simp only [Act.put, List.setIfInBounds_toArray, List.set_cons_zero, List.set_cons_succ]
        refine wpAnyH_take (i := 2) (oi := ⟨some 74, _, _, _, _, _⟩) (v := .pointer (some ⟨Z, 2, none⟩)) rfl (by kernel_rfl) (by kernel_rfl) (by kernel_rfl) (fun _ _ _ h => h) (Or.inl ⟨by kernel_rfl, fun w9 hS => ?_⟩) HS0.out ?_
        · clear hS
          go_simp
        try simp only [Act.put, List.setIfInBounds_toArray, List.set_cons_zero, List.set_cons_succ]
        refine wpAnyH_take (i := 3) (oi := ⟨some 75, _, _, _, _, _⟩) (v := .int .i64 nf) rfl (by kernel_rfl) (by kernel_rfl) (by kernel_rfl) (fun _ _ _ h => h) (Or.inl ⟨by kernel_rfl, fun w9 hS => ?_⟩) HS0.out ?_
        · obtain ⟨z0, z1, z2⟩ := hS
          go_simp
        try simp only [Act.put, List.setIfInBounds_toArray, List.set_cons_zero, List.set_cons_succ]
        refine wpAnyH_ready (rs := [1]) (by kernel_rfl) (by simp) ?_
        refine AllReadyH.cons (o := ⟨some 73, _, _, _, _, _⟩) rfl (fun K hK => ?_) AllReadyH.nil
        rw [if_pos (by kernel_rfl)]
        go_simp
        go_at_call 14
        refine (err_any _ (HRDW.out _ HKEEP.out)).mono ?_
        rintro en v1 ⟨rfl, rfl⟩
        have HS1 : Hid _ := Lib.hid (HZS.out _ HKEEP.out)
        refine hK.out _ _ HS1.out (fun _ => ?_)
        clear hK K
        try simp only [Act.put, List.setIfInBounds_toArray, List.set_cons_zero, List.set_cons_succ]
        refine wpAnyH_take (i := 4) (oi := ⟨some 76, _, _, _, _, _⟩) (v := .bool false) rfl (by kernel_rfl) (by kernel_rfl) (by kernel_rfl) (fun _ _ _ h => h) (Or.inl ⟨by kernel_rfl, fun w9 hS => ?_⟩) HS1.out ?_
        · clear hS
          go_simp
        try simp only [Act.put, List.setIfInBounds_toArray, List.set_cons_zero, List.set_cons_succ]
        refine wpAnyH_take (i := 5) (oi := ⟨some 77, _, _, _, _, _⟩) (v := .bool false) rfl (by kernel_rfl) (by kernel_rfl) (by kernel_rfl) (fun _ _ _ h => h) (Or.inl ⟨by kernel_rfl, fun w9 hS => ?_⟩) HS1.out ?_
        · clear hS
          go_simp
        try simp only [Act.put, List.setIfInBounds_toArray, List.set_cons_zero, List.set_cons_succ]
        refine wpAnyH_take (i := 6) (oi := ⟨some 78, _, _, _, _, _⟩) (v := .pointer (some ⟨g, 0, none⟩)) rfl (by kernel_rfl) (by kernel_rfl) (by kernel_rfl) (fun _ _ _ h => h) (Or.inl ⟨by kernel_rfl, fun w9 hS => ?_⟩) HS1.out ?_
        · clear hS
          go_simp
        try simp only [Act.put, List.setIfInBounds_toArray, List.set_cons_zero, List.set_cons_succ]
        refine wpAnyH_take (i := 8) (oi := ⟨some 80, _, _, _, _, _⟩) (v := .agg #[.slice A b.length c, .int .i64 (q2 : Int), .int .i64 nf]) rfl (by kernel_rfl) (by kernel_rfl) (by kernel_rfl) (fun _ _ _ h => h) (Or.inl ⟨by kernel_rfl, fun w9 hS => ?_⟩) HS1.out ?_
        · obtain ⟨z0, z1, z2⟩ := hS
          go_simp
        try simp only [Act.put, List.setIfInBounds_toArray, List.set_cons_zero, List.set_cons_succ]
        refine wpAnyH_ready (rs := [7]) (by kernel_rfl) (by simp) ?_
        refine AllReadyH.cons (o := ⟨some 79, _, _, _, _, _⟩) rfl (fun K hK => ?_) AllReadyH.nil
        rw [if_pos (by kernel_rfl)]
        go_simp
        go_at_call 15
        refine (rleft_any _ (HRDW.out _ HKEEP.out)).mono ?_
        rintro en v2 ⟨rfl, nq, rfl⟩
        have HKEEP : Hid (Below w9.heap.size w9 (w9.drewN (1 + nq))) := Lib.hid (below_drewN (Below.refl _ _) _)
        have HS2 : Hid _ := Lib.hid (HZS.out _ HKEEP.out)
        refine hK.out _ _ HS2.out (fun _ => ?_)
        clear hK K
        try simp only [Act.put, List.setIfInBounds_toArray, List.set_cons_zero, List.set_cons_succ]
        refine wpAnyH_ready (rs := [9]) (by kernel_rfl) (by simp) ?_
        refine AllReadyH.cons (o := ⟨some 81, _, _, _, _, _⟩) rfl (fun K hK => ?_) AllReadyH.nil
        rw [if_pos (by kernel_rfl)]
        go_simp
        go_at_call 16
        refine (dleft_any A b.length c q2 nf _ hq2 (by omega)).mono ?_
        rintro en v3 ⟨rfl, hb⟩
        have HKEEP := Lib.hid (HKEEP.out.trans (hb.mono HKEEP.out.size))
        clear hb
        have HS3 : Hid _ := Lib.hid (HZS.out _ HKEEP.out)
        refine hK.out _ _ HS3.out (fun _ => ?_)
        clear hK K
        try simp only [Act.put, List.setIfInBounds_toArray, List.set_cons_zero, List.set_cons_succ]
        refine wpAnyH_take (i := 10) (oi := ⟨some 82, _, _, _, _, _⟩) (v := .bool false) rfl (by kernel_rfl) (by kernel_rfl) (by kernel_rfl) (fun _ _ _ h => h) (Or.inl ⟨by kernel_rfl, fun w9 hS => ?_⟩) HS3.out ?_
        · clear hS
          go_simp
        try simp only [Act.put, List.setIfInBounds_toArray, List.set_cons_zero, List.set_cons_succ]
        refine wpAnyH_take (i := 11) (oi := ⟨some 83, _, _, _, _, _⟩) (v := .bool false) rfl (by kernel_rfl) (by kernel_rfl) (by kernel_rfl) (fun _ _ _ h => h) (Or.inl ⟨by kernel_rfl, fun w9 hS => ?_⟩) HS3.out ?_
        · clear hS
          go_simp
        try simp only [Act.put, List.setIfInBounds_toArray, List.set_cons_zero, List.set_cons_succ]
        refine wpAnyH_done (by kernel_rfl) ?_ _
        have hv3 : v3.heap[Z]? = some (.cells #[.slice A b.length c, .int .i64 (q2 : Int), .int .i64 nf] 28 (0, 0)) := (HKEEP.out.block Z hzl).trans HX9.out
        have HX10 := Lib.hid hv3
        have HRD10 := Lib.hid (HRDW.out _ HKEEP.out)
        have HB10 : Hid (Below w.heap.size w v3) := Lib.hid (HB9.out.trans (HKEEP.out.mono HB9.out.size))
        clear hv3 HS0 HS1 HS2 HS3 HX9 HRD9 HB9 HKEEP HZS HRDW HZ8 HRD8 HB8
        go_wp2_with fail
        go_roundw
        case rel => exact ⟨i + 1, q2, nf, hlt, by go_num, HX10, HRD10, HB10⟩
        case measure => simp [intOf]; omega
      · have hk1 : (kd == 0) = false := by simpa using hk0
        by_cases hk2 : kd = 1
        · subst hk2
          have HKD : Hid (∀ W : World, BA W A b → Calls Try.prog 9 #[rrV A b.length c p e] W (DList A c b p (gotL b p e) W)) := Lib.hid (fun W h => dlist_any (c := c) (e := e) W h hp HU.out (by omega))
          have HKR : Hid (∀ W : World, RD W g A1 c1 b p e → Calls Try.prog 11 #[.pointer (some ⟨g, 0, none⟩)] W (RList g A1 c1 b p (gotL b p e) W)) := Lib.hid (fun W h => list_all W h)
          have HVL : Hid ((gotL b p e).v.length ≤ 1048576) := Lib.hid (Nat.le_trans (gotL_len b p e) (by omega))
          generalize gotL b p e = N at HKD HKR HVL
          obtain ⟨nf, nv, nk⟩ := N
          obtain ⟨q2, HQ2⟩ : ∃ q2, Hid (p + nk = q2) := ⟨_, Lib.hid rfl⟩
          go_wp2_with fail
          refine (HKD.out _ (HB.out.below HW.out)).mono ?_
          rintro en w6 ⟨A3, c3, rfl, hi3, hb6, hne3⟩
          try simp only
          unfold rrV
          rw [HQ2.out]
          have HZ6 := Lib.hid ((hb6.block Z (Array.getElem?_eq_some_iff.1 HX.out).1).trans HX.out)
          have HRD6 : Hid (RD w6 g A1 c1 b p e) := Lib.hid (HRD.out.keepB HRD.out.row.lt (HRB.out) hb6)
          have HB6 : Hid (Below w.heap.size w w6) := Lib.hid (HW.out.trans (hb6.mono HW.out.size))
          have hz6 := hb6.size
          obtain ⟨ln, HLN⟩ : ∃ ln, Hid (nv.length = ln) := ⟨_, Lib.hid rfl⟩
          rw [HLN.out]
          have HI3 : Hid (IA w6 A3 nv) := Lib.hid hi3
          have HNE3 : Hid (∀ ad, A3 = some ad → ad.block ≠ g) := Lib.hid (fun ad e => by have := hne3 ad e; have := HRD.out.row.lt; omega)
          clear z0 z1 z2 hb6 hi3 hne3
          go_wp2_with fail
          have hy := World.alloc_heap_new w6 (.cells #[.slice A b.length c, .int .i64 (q2 : Int), .int .i64 nf] 28)
          have hb7 : Below w6.heap.size w6 (w6.alloc (.cells #[.slice A b.length c, .int .i64 (q2 : Int), .int .i64 nf] 28)) := (Below.refl _ _).alloc (Nat.le_refl _) _
          have HRB6 : Hid (0 < b.length → ∀ ad, A1 = some ad → ad.block < w6.heap.size) := Lib.hid (fun hn ad e => Nat.lt_of_lt_of_le (HRB.out hn ad e) hz6)
          generalize w6.alloc (.cells #[.slice A b.length c, .int .i64 (q2 : Int), .int .i64 nf] 28) = w7 at *
          refine (HKR.out _ (HRD6.out.keepB HRD6.out.row.lt HRB6.out hb7)).mono ?_
          rintro en w8 ⟨A4, c4, rfl, hi4, hrd8, ho8, _⟩
          try simp only at hrd8
          rw [HQ2.out] at hrd8
          have HRD8 := Lib.hid hrd8
          have hgl := HRD6.out.row.lt
          have hz7 := hb7.size
          have HZ8 := Lib.hid ((ho8.block Z (by have := (Array.getElem?_eq_some_iff.1 HZ6.out).1; omega) (by intro e; injection e with e; exact HSEP.out.1 e.symm)).trans ((hb7.block Z (Array.getElem?_eq_some_iff.1 HZ6.out).1).trans HZ6.out))
          have HY8 := Lib.hid ((ho8.block w6.heap.size (Array.getElem?_eq_some_iff.1 hy).1 (by intro e; injection e with e; omega)).trans hy)
          have HB8 : Hid (Below w.heap.size w w8) := Lib.hid ((HB6.out.trans (hb7.mono HB6.out.size)).trans (ho8.below HSEP.out.2.2.2 (Nat.le_trans HB6.out.size hz7)))
          have HI8 : Hid (IA w8 A3 nv) := Lib.hid (fun hn => by
            obtain ⟨bb, off, e, hlt, hc⟩ := HI3.out hn
            exact ⟨bb, off, e, by have := ho8.size; omega, fun j hj => (World.cell?_of_block (w := w6) (a := ⟨bb, off + j, none⟩) ((ho8.block bb (by omega) (by intro h; injection h with h; exact HNE3.out _ e h)).trans (hb7.block bb hlt))).trans (hc j hj)⟩)
          have HI4 := Lib.hid hi4
          clear hy hb7 hrd8 ho8 HKD HKR HRD6 HZ6 HB6 hi4 HI3
          obtain ⟨y0, y1, y2, _⟩ := cells_of HY8.out
          try simp only
          rw [HLN.out]
          go_wp2_with fail
          refine (equalInts_any A4 A3 c4 c3 ln ln nv nv _ HLN.out.symm HLN.out.symm HI4.out HI8.out (by have : nv.length ≤ 1048576 := HVL.out; unfold maxLen; omega) (by have : nv.length ≤ 1048576 := HVL.out; unfold maxLen; omega)).mono ?_
          rw [show eqB nv nv = true from decide_eq_true rfl]
          rintro en w10 ⟨rfl, nq, rfl⟩
          have HRD8 : Hid (RD (w8.drewN nq) g A1 c1 b q2 nf) := Lib.hid (HRD8.out.drewN nq)
          have HZ8 : Hid ((w8.drewN nq).heap[Z]? = _) := HZ8
          have HB8 : Hid (Below w.heap.size w (w8.drewN nq)) := Lib.hid (below_drewN HB8.out nq)
          have HY8 : Hid ((w8.drewN nq).heap[w6.heap.size]? = _) := HY8
          clear y0 y1 y2 HI4 HI8
          generalize w8.drewN nq = w8 at *
          obtain ⟨y0, y1, y2, _⟩ := cells_of HY8.out
          have hX := cells_set (v0 := .slice A b.length c) (v1 := .int .i64 (q2 : Int)) (v2 := .int .i64 nf) HZ8.out
          have hblk : ∀ q, q ≠ Z → (((w8.setCell ⟨Z, 0, none⟩ (.slice A b.length c)).setCell ⟨Z, 1, none⟩ (.int .i64 (q2 : Int))).setCell ⟨Z, 2, none⟩ (.int .i64 nf)).heap[q]? = w8.heap[q]? := fun q hq => (Below.heap_setCell _ _ _ _ hq).trans ((Below.heap_setCell _ _ _ _ hq).trans (Below.heap_setCell _ _ _ _ hq))
          have HX9 := Lib.hid hX
          have HRD9 : Hid (RD (((w8.setCell ⟨Z, 0, none⟩ (.slice A b.length c)).setCell ⟨Z, 1, none⟩ (.int .i64 (q2 : Int))).setCell ⟨Z, 2, none⟩ (.int .i64 nf)) g A1 c1 b q2 nf) := Lib.hid (rd_other HRD8.out ((((Only.refl Z w8).setCell 0 _).setCell 1 _).setCell 2 _) HSEP.out.1 HSEP.out.2.1)
          have HB9 : Hid (Below w.heap.size w (((w8.setCell ⟨Z, 0, none⟩ (.slice A b.length c)).setCell ⟨Z, 1, none⟩ (.int .i64 (q2 : Int))).setCell ⟨Z, 2, none⟩ (.int .i64 nf))) := Lib.hid (((HB8.out.setCell (show w.heap.size ≤ (⟨Z, 0, none⟩ : Addr).block from HSEP.out.2.2.1) _).setCell (show w.heap.size ≤ (⟨Z, 1, none⟩ : Addr).block from HSEP.out.2.2.1) _).setCell (show w.heap.size ≤ (⟨Z, 2, none⟩ : Addr).block from HSEP.out.2.2.1) _)
          obtain ⟨z0, z1, z2, fz⟩ := cells_of HZ8.out
          have f0 := fz 0
          have f1 := fz 1
          have f2 := fz 2
          clear hX hblk fz
          go_upto_region 23 with (fail)
          clear z0 z1 z2 f0 f1 f2 y0 y1 y2
          generalize (((w8.setCell ⟨Z, 0, none⟩ (.slice A b.length c)).setCell ⟨Z, 1, none⟩ (.int .i64 (q2 : Int))).setCell ⟨Z, 2, none⟩ (.int .i64 nf)) = w9 at *
          have hzl := (Array.getElem?_eq_some_iff.1 HX9.out).1
          have HZS : Hid (∀ W, Below w9.heap.size w9 W → W.cell? ⟨Z, 0, none⟩ = some (.slice A b.length c) ∧ W.cell? ⟨Z, 1, none⟩ = some (.int .i64 (q2 : Int)) ∧ W.cell? ⟨Z, 2, none⟩ = some (.int .i64 nf)) := Lib.hid (fun W h => by
            obtain ⟨a0, a1, a2, _⟩ := cells_of HX9.out
            exact ⟨(h.cell (p := ⟨Z, 0, none⟩) hzl).trans a0, (h.cell (p := ⟨Z, 1, none⟩) hzl).trans a1, (h.cell (p := ⟨Z, 2, none⟩) hzl).trans a2⟩)
          have hrl := HRD9.out.row.lt
          have HRDW : Hid (∀ W, Below w9.heap.size w9 W → RD W g A1 c1 b q2 nf) := Lib.hid (fun W h => HRD9.out.keepB hrl (fun hn ad e => by
            obtain ⟨b', off, e2, hl, _⟩ := HRD9.out.bytes hn
            rw [e] at e2
            injection e2 with e2
            subst e2
            exact hl) h)
          have hq2 : q2 ≤ b.length := HRD9.out.place
          have HKEEP : Hid (Below w9.heap.size w9 w9.drew) := Lib.hid (Below.refl _ _).drew
          refine wp_region_held_drew (S := (fun W => W.cell? ⟨Z, 0, none⟩ = some (.slice A b.length c) ∧ W.cell? ⟨Z, 1, none⟩ = some (.int .i64 (q2 : Int)) ∧ W.cell? ⟨Z, 2, none⟩ = some (.int .i64 nf))) (by kernel_rfl) (HZS.out _ HKEEP.out) ?_
          intro hS0
          have HS0 := Lib.hid hS0
          clear hS0
          simp only [Array.replicate, List.replicate]
          refine wpAnyH_take (i := 0) (oi := ⟨some 72, _, _, _, _, _⟩) (v := .pointer (some ⟨g, 0, none⟩)) rfl (by kernel_rfl) (by kernel_rfl) (by kernel_rfl) (fun _ _ _ h => h) (Or.inl ⟨by kernel_rfl, fun w9 hS => ?_⟩) HS0.out ?_
          · clear hS
            go_simp
          try simp only [Act.put, List.setIfInBounds_toArray, List.set_cons_zero, List.set_cons_succ]
          refine wpAnyH_take (i := 2) (oi := ⟨some 74, _, _, _, _, _⟩) (v := .pointer (some ⟨Z, 2, none⟩)) rfl (by kernel_rfl) (by kernel_rfl) (by kernel_rfl) (fun _ _ _ h => h) (Or.inl ⟨by kernel_rfl, fun w9 hS => ?_⟩) HS0.out ?_
          · clear hS
            go_simp
          try simp only [Act.put, List.setIfInBounds_toArray, List.set_cons_zero, List.set_cons_succ]
          refine wpAnyH_take (i := 3) (oi := ⟨some 75, _, _, _, _, _⟩) (v := .int .i64 nf) rfl (by kernel_rfl) (by kernel_rfl) (by kernel_rfl) (fun _ _ _ h => h) (Or.inl ⟨by kernel_rfl, fun w9 hS => ?_⟩) HS0.out ?_
          · obtain ⟨z0, z1, z2⟩ := hS
            go_simp
          try simp only [Act.put, List.setIfInBounds_toArray, List.set_cons_zero, List.set_cons_succ]
          refine wpAnyH_ready (rs := [1]) (by kernel_rfl) (by simp) ?_
          refine AllReadyH.cons (o := ⟨some 73, _, _, _, _, _⟩) rfl (fun K hK => ?_) AllReadyH.nil
          rw [if_pos (by kernel_rfl)]
          go_simp
          go_at_call 14
          refine (err_any _ (HRDW.out _ HKEEP.out)).mono ?_
          rintro en v1 ⟨rfl, rfl⟩
          have HS1 : Hid _ := Lib.hid (HZS.out _ HKEEP.out)
          refine hK.out _ _ HS1.out (fun _ => ?_)
          clear hK K
          try simp only [Act.put, List.setIfInBounds_toArray, List.set_cons_zero, List.set_cons_succ]
          refine wpAnyH_take (i := 4) (oi := ⟨some 76, _, _, _, _, _⟩) (v := .bool false) rfl (by kernel_rfl) (by kernel_rfl) (by kernel_rfl) (fun _ _ _ h => h) (Or.inl ⟨by kernel_rfl, fun w9 hS => ?_⟩) HS1.out ?_
          · clear hS
            go_simp
          try simp only [Act.put, List.setIfInBounds_toArray, List.set_cons_zero, List.set_cons_succ]
          refine wpAnyH_take (i := 5) (oi := ⟨some 77, _, _, _, _, _⟩) (v := .bool false) rfl (by kernel_rfl) (by kernel_rfl) (by kernel_rfl) (fun _ _ _ h => h) (Or.inl ⟨by kernel_rfl, fun w9 hS => ?_⟩) HS1.out ?_
          · clear hS
            go_simp
          try simp only [Act.put, List.setIfInBounds_toArray, List.set_cons_zero, List.set_cons_succ]
          refine wpAnyH_take (i := 6) (oi := ⟨some 78, _, _, _, _, _⟩) (v := .pointer (some ⟨g, 0, none⟩)) rfl (by kernel_rfl) (by kernel_rfl) (by kernel_rfl) (fun _ _ _ h => h) (Or.inl ⟨by kernel_rfl, fun w9 hS => ?_⟩) HS1.out ?_
          · clear hS
            go_simp
          try simp only [Act.put, List.setIfInBounds_toArray, List.set_cons_zero, List.set_cons_succ]
          refine wpAnyH_take (i := 8) (oi := ⟨some 80, _, _, _, _, _⟩) (v := .agg #[.slice A b.length c, .int .i64 (q2 : Int), .int .i64 nf]) rfl (by kernel_rfl) (by kernel_rfl) (by kernel_rfl) (fun _ _ _ h => h) (Or.inl ⟨by kernel_rfl, fun w9 hS => ?_⟩) HS1.out ?_
          · obtain ⟨z0, z1, z2⟩ := hS
            go_simp
          try simp only [Act.put, List.setIfInBounds_toArray, List.set_cons_zero, List.set_cons_succ]
          refine wpAnyH_ready (rs := [7]) (by kernel_rfl) (by simp) ?_
          refine AllReadyH.cons (o := ⟨some 79, _, _, _, _, _⟩) rfl (fun K hK => ?_) AllReadyH.nil
          rw [if_pos (by kernel_rfl)]
          go_simp
          go_at_call 15
          refine (rleft_any _ (HRDW.out _ HKEEP.out)).mono ?_
          rintro en v2 ⟨rfl, nq, rfl⟩
          have HKEEP : Hid (Below w9.heap.size w9 (w9.drewN (1 + nq))) := Lib.hid (below_drewN (Below.refl _ _) _)
          have HS2 : Hid _ := Lib.hid (HZS.out _ HKEEP.out)
          refine hK.out _ _ HS2.out (fun _ => ?_)
          clear hK K
          try simp only [Act.put, List.setIfInBounds_toArray, List.set_cons_zero, List.set_cons_succ]
          refine wpAnyH_ready (rs := [9]) (by kernel_rfl) (by simp) ?_
          refine AllReadyH.cons (o := ⟨some 81, _, _, _, _, _⟩) rfl (fun K hK => ?_) AllReadyH.nil
          rw [if_pos (by kernel_rfl)]
          go_simp
          go_at_call 16
          refine (dleft_any A b.length c q2 nf _ hq2 (by omega)).mono ?_
          rintro en v3 ⟨rfl, hb⟩
          have HKEEP := Lib.hid (HKEEP.out.trans (hb.mono HKEEP.out.size))
          clear hb
          have HS3 : Hid _ := Lib.hid (HZS.out _ HKEEP.out)
          refine hK.out _ _ HS3.out (fun _ => ?_)
          clear hK K
          try simp only [Act.put, List.setIfInBounds_toArray, List.set_cons_zero, List.set_cons_succ]
          refine wpAnyH_take (i := 10) (oi := ⟨some 82, _, _, _, _, _⟩) (v := .bool false) rfl (by kernel_rfl) (by kernel_rfl) (by kernel_rfl) (fun _ _ _ h => h) (Or.inl ⟨by kernel_rfl, fun w9 hS => ?_⟩) HS3.out ?_
          · clear hS
            go_simp
          try simp only [Act.put, List.setIfInBounds_toArray, List.set_cons_zero, List.set_cons_succ]
          refine wpAnyH_take (i := 11) (oi := ⟨some 83, _, _, _, _, _⟩) (v := .bool false) rfl (by kernel_rfl) (by kernel_rfl) (by kernel_rfl) (fun _ _ _ h => h) (Or.inl ⟨by kernel_rfl, fun w9 hS => ?_⟩) HS3.out ?_
          · clear hS
            go_simp
          try simp only [Act.put, List.setIfInBounds_toArray, List.set_cons_zero, List.set_cons_succ]
          refine wpAnyH_done (by kernel_rfl) ?_ _
          have hv3 : v3.heap[Z]? = some (.cells #[.slice A b.length c, .int .i64 (q2 : Int), .int .i64 nf] 28 (0, 0)) := (HKEEP.out.block Z hzl).trans HX9.out
          have HX10 := Lib.hid hv3
          have HRD10 := Lib.hid (HRDW.out _ HKEEP.out)
          have HB10 : Hid (Below w.heap.size w v3) := Lib.hid (HB9.out.trans (HKEEP.out.mono HB9.out.size))
          clear hv3 HS0 HS1 HS2 HS3 HX9 HRD9 HB9 HKEEP HZS HRDW HZ8 HRD8 HB8
          go_wp2_with fail
          go_roundw
          case rel => exact ⟨i + 1, q2, nf, hlt, by go_num, HX10, HRD10, HB10⟩
          case measure => simp [intOf]; omega
        · have hk3 : (kd == 1) = false := by simpa using hk2
          have HKD : Hid (∀ W : World, BA W A b → Calls Try.prog 12 #[rrV A b.length c p e] W (DText A c b p (txt b p e) W)) := Lib.hid (fun W h => dtext_any (c := c) (e := e) W h hp HU.out (by omega) HCAP.out)
          have HKR : Hid (∀ W : World, RD W g A1 c1 b p e → Calls Try.prog 13 #[.pointer (some ⟨g, 0, none⟩)] W (RText g A1 c1 b p (txt b p e) W)) := Lib.hid (fun W h => rtext_all W h)
          have HVL : Hid ((txt b p e).v.length ≤ 1048576) := Lib.hid (Nat.le_trans (txt_len b p e) (by omega))
          generalize txt b p e = N at HKD HKR HVL
          obtain ⟨nf, nv, nk⟩ := N
          obtain ⟨q2, HQ2⟩ : ∃ q2, Hid (p + nk = q2) := ⟨_, Lib.hid rfl⟩
          go_wp2_with fail
          refine (HKD.out _ (HB.out.below HW.out)).mono ?_
          rintro en w6 ⟨rfl, hb6⟩
          try simp only
          unfold rrV
          rw [HQ2.out]
          have HZ6 := Lib.hid ((hb6.block Z (Array.getElem?_eq_some_iff.1 HX.out).1).trans HX.out)
          have HRD6 : Hid (RD w6 g A1 c1 b p e) := Lib.hid (HRD.out.keepB HRD.out.row.lt (HRB.out) hb6)
          have HB6 : Hid (Below w.heap.size w w6) := Lib.hid (HW.out.trans (hb6.mono HW.out.size))
          have hz6 := hb6.size
          obtain ⟨st, HST⟩ : ∃ st, Hid (strOfNums nv = st) := ⟨_, Lib.hid rfl⟩
          rw [HST.out]
          clear z0 z1 z2 hb6
          go_wp2_with fail
          have hy := World.alloc_heap_new w6 (.cells #[.slice A b.length c, .int .i64 (q2 : Int), .int .i64 nf] 28)
          have hb7 : Below w6.heap.size w6 (w6.alloc (.cells #[.slice A b.length c, .int .i64 (q2 : Int), .int .i64 nf] 28)) := (Below.refl _ _).alloc (Nat.le_refl _) _
          have HRB6 : Hid (0 < b.length → ∀ ad, A1 = some ad → ad.block < w6.heap.size) := Lib.hid (fun hn ad e => Nat.lt_of_lt_of_le (HRB.out hn ad e) hz6)
          generalize w6.alloc (.cells #[.slice A b.length c, .int .i64 (q2 : Int), .int .i64 nf] 28) = w7 at *
          refine (HKR.out _ (HRD6.out.keepB HRD6.out.row.lt HRB6.out hb7)).mono ?_
          rintro en w8 ⟨rfl, hrd8, ho8⟩
          try simp only at hrd8
          rw [HQ2.out] at hrd8
          have HRD8 := Lib.hid hrd8
          have hgl := HRD6.out.row.lt
          have hz7 := hb7.size
          have HZ8 := Lib.hid ((ho8.block Z (by have := (Array.getElem?_eq_some_iff.1 HZ6.out).1; omega) (by intro e; injection e with e; exact HSEP.out.1 e.symm)).trans ((hb7.block Z (Array.getElem?_eq_some_iff.1 HZ6.out).1).trans HZ6.out))
          have HY8 := Lib.hid ((ho8.block w6.heap.size (Array.getElem?_eq_some_iff.1 hy).1 (by intro e; injection e with e; omega)).trans hy)
          have HB8 : Hid (Below w.heap.size w w8) := Lib.hid ((HB6.out.trans (hb7.mono HB6.out.size)).trans (ho8.below HSEP.out.2.2.2 (Nat.le_trans HB6.out.size hz7)))
          clear hy hb7 hrd8 ho8 HKD HKR HRD6 HZ6 HB6
          obtain ⟨y0, y1, y2, _⟩ := cells_of HY8.out
          try simp only
          rw [HST.out]
          have hX := cells_set (v0 := .slice A b.length c) (v1 := .int .i64 (q2 : Int)) (v2 := .int .i64 nf) HZ8.out
          have hblk : ∀ q, q ≠ Z → (((w8.setCell ⟨Z, 0, none⟩ (.slice A b.length c)).setCell ⟨Z, 1, none⟩ (.int .i64 (q2 : Int))).setCell ⟨Z, 2, none⟩ (.int .i64 nf)).heap[q]? = w8.heap[q]? := fun q hq => (Below.heap_setCell _ _ _ _ hq).trans ((Below.heap_setCell _ _ _ _ hq).trans (Below.heap_setCell _ _ _ _ hq))
          have HX9 := Lib.hid hX
          have HRD9 : Hid (RD (((w8.setCell ⟨Z, 0, none⟩ (.slice A b.length c)).setCell ⟨Z, 1, none⟩ (.int .i64 (q2 : Int))).setCell ⟨Z, 2, none⟩ (.int .i64 nf)) g A1 c1 b q2 nf) := Lib.hid (rd_other HRD8.out ((((Only.refl Z w8).setCell 0 _).setCell 1 _).setCell 2 _) HSEP.out.1 HSEP.out.2.1)
          have HB9 : Hid (Below w.heap.size w (((w8.setCell ⟨Z, 0, none⟩ (.slice A b.length c)).setCell ⟨Z, 1, none⟩ (.int .i64 (q2 : Int))).setCell ⟨Z, 2, none⟩ (.int .i64 nf))) := Lib.hid (((HB8.out.setCell (show w.heap.size ≤ (⟨Z, 0, none⟩ : Addr).block from HSEP.out.2.2.1) _).setCell (show w.heap.size ≤ (⟨Z, 1, none⟩ : Addr).block from HSEP.out.2.2.1) _).setCell (show w.heap.size ≤ (⟨Z, 2, none⟩ : Addr).block from HSEP.out.2.2.1) _)
          obtain ⟨z0, z1, z2, fz⟩ := cells_of HZ8.out
          have f0 := fz 0
          have f1 := fz 1
          have f2 := fz 2
          clear hX hblk fz
          go_upto_region 23 with (fail)
          clear z0 z1 z2 f0 f1 f2 y0 y1 y2
          generalize (((w8.setCell ⟨Z, 0, none⟩ (.slice A b.length c)).setCell ⟨Z, 1, none⟩ (.int .i64 (q2 : Int))).setCell ⟨Z, 2, none⟩ (.int .i64 nf)) = w9 at *
          have hzl := (Array.getElem?_eq_some_iff.1 HX9.out).1
          have HZS : Hid (∀ W, Below w9.heap.size w9 W → W.cell? ⟨Z, 0, none⟩ = some (.slice A b.length c) ∧ W.cell? ⟨Z, 1, none⟩ = some (.int .i64 (q2 : Int)) ∧ W.cell? ⟨Z, 2, none⟩ = some (.int .i64 nf)) := Lib.hid (fun W h => by
            obtain ⟨a0, a1, a2, _⟩ := cells_of HX9.out
            exact ⟨(h.cell (p := ⟨Z, 0, none⟩) hzl).trans a0, (h.cell (p := ⟨Z, 1, none⟩) hzl).trans a1, (h.cell (p := ⟨Z, 2, none⟩) hzl).trans a2⟩)
          have hrl := HRD9.out.row.lt
          have HRDW : Hid (∀ W, Below w9.heap.size w9 W → RD W g A1 c1 b q2 nf) := Lib.hid (fun W h => HRD9.out.keepB hrl (fun hn ad e => by
            obtain ⟨b', off, e2, hl, _⟩ := HRD9.out.bytes hn
            rw [e] at e2
            injection e2 with e2
            subst e2
            exact hl) h)
          have hq2 : q2 ≤ b.length := HRD9.out.place
          have HKEEP : Hid (Below w9.heap.size w9 w9.drew) := Lib.hid (Below.refl _ _).drew
          refine wp_region_held_drew (S := (fun W => W.cell? ⟨Z, 0, none⟩ = some (.slice A b.length c) ∧ W.cell? ⟨Z, 1, none⟩ = some (.int .i64 (q2 : Int)) ∧ W.cell? ⟨Z, 2, none⟩ = some (.int .i64 nf))) (by kernel_rfl) (HZS.out _ HKEEP.out) ?_
          intro hS0
          have HS0 := Lib.hid hS0
          clear hS0
          simp only [Array.replicate, List.replicate]
          refine wpAnyH_take (i := 0) (oi := ⟨some 72, _, _, _, _, _⟩) (v := .pointer (some ⟨g, 0, none⟩)) rfl (by kernel_rfl) (by kernel_rfl) (by kernel_rfl) (fun _ _ _ h => h) (Or.inl ⟨by kernel_rfl, fun w9 hS => ?_⟩) HS0.out ?_
          · clear hS
            go_simp
          try simp only [Act.put, List.setIfInBounds_toArray, List.set_cons_zero, List.set_cons_succ]
          refine wpAnyH_take (i := 2) (oi := ⟨some 74, _, _, _, _, _⟩) (v := .pointer (some ⟨Z, 2, none⟩)) rfl (by kernel_rfl) (by kernel_rfl) (by kernel_rfl) (fun _ _ _ h => h) (Or.inl ⟨by kernel_rfl, fun w9 hS => ?_⟩) HS0.out ?_
          · clear hS
            go_simp
          try simp only [Act.put, List.setIfInBounds_toArray, List.set_cons_zero, List.set_cons_succ]
          refine wpAnyH_take (i := 3) (oi := ⟨some 75, _, _, _, _, _⟩) (v := .int .i64 nf) rfl (by kernel_rfl) (by kernel_rfl) (by kernel_rfl) (fun _ _ _ h => h) (Or.inl ⟨by kernel_rfl, fun w9 hS => ?_⟩) HS0.out ?_
          · obtain ⟨z0, z1, z2⟩ := hS
            go_simp
          try simp only [Act.put, List.setIfInBounds_toArray, List.set_cons_zero, List.set_cons_succ]
          refine wpAnyH_ready (rs := [1]) (by kernel_rfl) (by simp) ?_
          refine AllReadyH.cons (o := ⟨some 73, _, _, _, _, _⟩) rfl (fun K hK => ?_) AllReadyH.nil
          rw [if_pos (by kernel_rfl)]
          go_simp
          go_at_call 14
          refine (err_any _ (HRDW.out _ HKEEP.out)).mono ?_
          rintro en v1 ⟨rfl, rfl⟩
          have HS1 : Hid _ := Lib.hid (HZS.out _ HKEEP.out)
          refine hK.out _ _ HS1.out (fun _ => ?_)
          clear hK K
          try simp only [Act.put, List.setIfInBounds_toArray, List.set_cons_zero, List.set_cons_succ]
          refine wpAnyH_take (i := 4) (oi := ⟨some 76, _, _, _, _, _⟩) (v := .bool false) rfl (by kernel_rfl) (by kernel_rfl) (by kernel_rfl) (fun _ _ _ h => h) (Or.inl ⟨by kernel_rfl, fun w9 hS => ?_⟩) HS1.out ?_
          · clear hS
            go_simp
          try simp only [Act.put, List.setIfInBounds_toArray, List.set_cons_zero, List.set_cons_succ]
          refine wpAnyH_take (i := 5) (oi := ⟨some 77, _, _, _, _, _⟩) (v := .bool false) rfl (by kernel_rfl) (by kernel_rfl) (by kernel_rfl) (fun _ _ _ h => h) (Or.inl ⟨by kernel_rfl, fun w9 hS => ?_⟩) HS1.out ?_
          · clear hS
            go_simp
          try simp only [Act.put, List.setIfInBounds_toArray, List.set_cons_zero, List.set_cons_succ]
          refine wpAnyH_take (i := 6) (oi := ⟨some 78, _, _, _, _, _⟩) (v := .pointer (some ⟨g, 0, none⟩)) rfl (by kernel_rfl) (by kernel_rfl) (by kernel_rfl) (fun _ _ _ h => h) (Or.inl ⟨by kernel_rfl, fun w9 hS => ?_⟩) HS1.out ?_
          · clear hS
            go_simp
          try simp only [Act.put, List.setIfInBounds_toArray, List.set_cons_zero, List.set_cons_succ]
          refine wpAnyH_take (i := 8) (oi := ⟨some 80, _, _, _, _, _⟩) (v := .agg #[.slice A b.length c, .int .i64 (q2 : Int), .int .i64 nf]) rfl (by kernel_rfl) (by kernel_rfl) (by kernel_rfl) (fun _ _ _ h => h) (Or.inl ⟨by kernel_rfl, fun w9 hS => ?_⟩) HS1.out ?_
          · obtain ⟨z0, z1, z2⟩ := hS
            go_simp
          try simp only [Act.put, List.setIfInBounds_toArray, List.set_cons_zero, List.set_cons_succ]
          refine wpAnyH_ready (rs := [7]) (by kernel_rfl) (by simp) ?_
          refine AllReadyH.cons (o := ⟨some 79, _, _, _, _, _⟩) rfl (fun K hK => ?_) AllReadyH.nil
          rw [if_pos (by kernel_rfl)]
          go_simp
          go_at_call 15
          refine (rleft_any _ (HRDW.out _ HKEEP.out)).mono ?_
          rintro en v2 ⟨rfl, nq, rfl⟩
          have HKEEP : Hid (Below w9.heap.size w9 (w9.drewN (1 + nq))) := Lib.hid (below_drewN (Below.refl _ _) _)
          have HS2 : Hid _ := Lib.hid (HZS.out _ HKEEP.out)
          refine hK.out _ _ HS2.out (fun _ => ?_)
          clear hK K
          try simp only [Act.put, List.setIfInBounds_toArray, List.set_cons_zero, List.set_cons_succ]
          refine wpAnyH_ready (rs := [9]) (by kernel_rfl) (by simp) ?_
          refine AllReadyH.cons (o := ⟨some 81, _, _, _, _, _⟩) rfl (fun K hK => ?_) AllReadyH.nil
          rw [if_pos (by kernel_rfl)]
          go_simp
          go_at_call 16
          refine (dleft_any A b.length c q2 nf _ hq2 (by omega)).mono ?_
          rintro en v3 ⟨rfl, hb⟩
          have HKEEP := Lib.hid (HKEEP.out.trans (hb.mono HKEEP.out.size))
          clear hb
          have HS3 : Hid _ := Lib.hid (HZS.out _ HKEEP.out)
          refine hK.out _ _ HS3.out (fun _ => ?_)
          clear hK K
          try simp only [Act.put, List.setIfInBounds_toArray, List.set_cons_zero, List.set_cons_succ]
          refine wpAnyH_take (i := 10) (oi := ⟨some 82, _, _, _, _, _⟩) (v := .bool false) rfl (by kernel_rfl) (by kernel_rfl) (by kernel_rfl) (fun _ _ _ h => h) (Or.inl ⟨by kernel_rfl, fun w9 hS => ?_⟩) HS3.out ?_
          · clear hS
            go_simp
          try simp only [Act.put, List.setIfInBounds_toArray, List.set_cons_zero, List.set_cons_succ]
          refine wpAnyH_take (i := 11) (oi := ⟨some 83, _, _, _, _, _⟩) (v := .bool false) rfl (by kernel_rfl) (by kernel_rfl) (by kernel_rfl) (fun _ _ _ h => h) (Or.inl ⟨by kernel_rfl, fun w9 hS => ?_⟩) HS3.out ?_
          · clear hS
            go_simp
          try simp only [Act.put, List.setIfInBounds_toArray, List.set_cons_zero, List.set_cons_succ]
          refine wpAnyH_done (by kernel_rfl) ?_ _
          have hv3 : v3.heap[Z]? = some (.cells #[.slice A b.length c, .int .i64 (q2 : Int), .int .i64 nf] 28 (0, 0)) := (HKEEP.out.block Z hzl).trans HX9.out
          have HX10 := Lib.hid hv3
          have HRD10 := Lib.hid (HRDW.out _ HKEEP.out)
          have HB10 : Hid (Below w.heap.size w v3) := Lib.hid (HB9.out.trans (HKEEP.out.mono HB9.out.size))
          clear hv3 HS0 HS1 HS2 HS3 HX9 HRD9 HB9 HKEEP HZS HRDW HZ8 HRD8 HB8
          go_wp2_with fail
          go_roundw
          case rel => exact ⟨i + 1, q2, nf, hlt, by go_num, HX10, HRD10, HB10⟩
          case measure => simp [intOf]; omega
    · obtain rfl : i = m := by omega
      have hd : decide ((i : Int) < (i : Int)) = false := decide_eq_false (by omega)
      go_wp2_with fail
      refine (HWK.out _).mono ?_
      rintro e w' ⟨rfl, hb⟩
      go_wp2
      go_ret
      exact ⟨rfl, HW.out.trans (hb.mono HW.out.size)⟩

set_option maxRecDepth 100000 in
theorem lifted (os : Os) (started : os.Started) (H : Type) (enc : TypeId × Value → H) :
    ReturnsInHanded {} Try.checked os 3 .any (Rows.octetReadsSpec.pre6 enc Try.prog Try.f3 Rows.octetReadsRow.domain false) (Rows.octetReadsSpec.post enc Try.prog Try.f3 false true false false) := by
  refine law_lifted started [22, 22] rfl (by kernel_rfl) Try.func3 rfl (by decide +kernel) rfl (fun ds hl => by
    match ds, hl with
    | [_, _], _ => rfl) (ChangeSpec.witness6 (enc := enc) (C := Try.checked) false ⟨#[], #[.slice none 0 0, .slice none 0 0], []⟩ 8 (by kernel_rfl) (by kernel_rfl) (by kernel_rfl) (by kernel_rfl)) ?_
  intro W base args ds ps hval hA hlt hsz
  obtain ⟨v0, vs0, d0, ds0, p0, q0, hargs, rfl, rfl, h0, r0⟩ := trodAll_cons hA
  obtain ⟨v1, vs1, d1, ds1, p1, q1, rfl, rfl, rfl, h1, r1⟩ := trodAll_cons r0
  obtain ⟨rfl, rfl, rfl⟩ := trodAll_nil r1
  obtain rfl : args = #[v0, v1] := by cases args; simp_all
  obtain ⟨A0, c0, x0, rfl, n0, b0, i0, u0⟩ := open_bytes_arg (hval 0 22 v0 rfl rfl) h0 hsz 0 rfl rfl
  obtain ⟨A1, c1, x1, rfl, n1, b1, i1, u1⟩ := open_bytes_arg (hval 1 22 v1 rfl rfl) h1 hsz 1 rfl rfl
  exact walk A0 A1 c0 c1 x0 x1 W n0 i0 u0 b0 (open_cap h0) i1 u1 b1

set_option maxRecDepth 100000 in
theorem over : Rows.octetReadsRow.holds Try.pinned (OpenSpec.ofChange Rows.octetReadsSpec) :=
  OpenClaim.holds_of_wide 3 Try.f3 rfl rfl rfl rfl rfl rfl rfl ⟨rfl, rfl, rfl, rfl, rfl⟩ rfl rfl rfl rfl rfl (by kernel_rfl) Try.func3 (by kernel_rfl)
    (of_decide_eq_true (by kernel_rfl)) (by unfold Func.isWrapper; first | (rw [if_pos (by decide +kernel)]; kernel_rfl) | (rw [if_neg (by decide +kernel)]; exact ⟨rfl, rfl⟩))
    (fun os started H enc _ => lifted os started H enc)

theorem proved : Rows.OctetReadsSaid := over
#print axioms proved
end Go.Proofs.Ythakidnbgmpcfaa.octetReads
