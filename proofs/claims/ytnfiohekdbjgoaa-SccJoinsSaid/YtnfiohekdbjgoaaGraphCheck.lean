/- Graphs: Check and what it calls. -/
import Derived.Test.YtnfiohekdbjgoaaGraph
import Derived.Laws.EntriesVeiled
namespace Go.Proofs.Ytnfiohekdbjgoaa
open Go.ChangeShapes Go.WideShapes Go.ChangeAt Go.RowKit

/-- An index that tells whether there is one. -/
def Found (b : Bool) (w : World) (e : Ending) (w' : World) : Prop := ∃ z : Int, e = .returned (.int .i64 z) ∧ decide (0 ≤ z) = b ∧ -1 ≤ z ∧ z ≤ 9223372036854775807 ∧ w = w'
theorem strange_any (B n c : Nat) (A : Option Addr) (i : Int) (w : World) (hb : w.cell? ⟨B, 0, none⟩ = some (.slice A n c)) :
    Calls Try.prog 46 #[.int .i64 i, .pointer (some ⟨B, 0, none⟩)] w fun e w' => e = .returned (.bool (!nodeB n i)) ∧ w = w' := by
  obtain ⟨b, HN⟩ : ∃ b, Hid (nodeB n i = b) := ⟨_, Lib.hid rfl⟩
  rw [HN.out]
  go_enter Try.func46, Try.ntmps46
  go_wp2_with fail
  refine (has_any A n c i w).mono ?_
  rintro e w' ⟨rfl, rfl⟩
  rw [HN.out]
  go_wp2_with fail
  go_ret
  exact ⟨rfl, rfl⟩
theorem any_take {α : Type} {l : List α} {p : α → Bool} {k : Nat} (h : k < l.length) : (l.take (k + 1)).any p = ((l.take k).any p || p l[k]) := by
  rw [List.take_succ_eq_append_getElem h, List.any_append]; simp
theorem any_at {α : Type} {l : List α} {p : α → Bool} {k : Nat} (h : k < l.length) (hp : p l[k] = true) : l.any p = true := by
  rw [List.any_eq_true]; exact ⟨l[k], List.getElem_mem h, hp⟩
set_option maxHeartbeats 1000000 in
theorem index_ints (B n c : Nat) (A2 : Option Addr) (A : Option Addr) (m d : Nat) (zs : List Int) (w : World) (hm : zs.length = m) (hmx : m ≤ maxLen) (hA : LA .i64 w A zs) (hb : w.cell? ⟨B, 0, none⟩ = some (.slice A2 n c)) :
    Calls Try.prog 76 #[.slice A m d, .func (.func 46) #[] #[.pointer (some ⟨B, 0, none⟩)]] w (Found (zs.any fun z => !nodeB n z) w) := by
  have HM := Lib.hid hm
  have HA := Lib.hid hA
  have HB := Lib.hid hb
  unfold maxLen at hmx
  clear hm hA hb
  go_enter Try.func76, Try.ntmps76
  go_wp2_with fail
  go_loop [8] (fun i => ∃ k : Nat, k ≤ m ∧ i = .int .i64 k ∧ Hid ((zs.take k).any (fun z => !nodeB n z) = false)) (fun i => m - (intOf i).toNat)
  case atStart => exact ⟨0, by omega, rfl, Lib.hid rfl⟩
  case round =>
    obtain ⟨k, hk, rfl, HT⟩ := hrel
    by_cases hlt : k < m
    · obtain ⟨b, o, rfl, hb, hcc⟩ := HA.out (by rw [HM.out]; omega)
      have hkl : k < zs.length := by rw [HM.out]; exact hlt
      have c1 := hcc k hkl
      have HG : Hid (zs.getD k 0 = zs[k]) := Lib.hid (by simp [List.getD, hkl])
      have HS : Hid ((zs.take (k + 1)).any (fun z => !nodeB n z) = !nodeB n (zs.getD k 0)) := Lib.hid (by rw [any_take hkl, HT.out, HG.out]; rfl)
      have HF : Hid (nodeB n (zs.getD k 0) = false → (zs.any fun z => !nodeB n z) = true) := Lib.hid (fun h => any_at hkl (by rw [← HG.out, h]; rfl))
      generalize zs.getD k 0 = y at c1 HS HF
      clear hcc HG hkl
      go_wp2_with fail
      refine (strange_any B n c A2 y w HB.out).mono ?_
      rintro e w' ⟨rfl, rfl⟩
      by_cases hy : nodeB n y = true
      · rw [hy]
        have HT2 : Hid ((zs.take (k + 1)).any (fun z => !nodeB n z) = false) := Lib.hid (by rw [HS.out, hy]; rfl)
        clear HS HF hy
        go_wp2_with fail
        go_round
        case rel => exact ⟨k + 1, by omega, by go_num, HT2⟩
        case measure => simp [intOf]; omega
      · have hy2 : nodeB n y = false := by simpa using hy
        rw [hy2]
        have HE := Lib.hid (HF.out hy2)
        clear HS HF hy hy2
        go_wp2_with fail
        go_ret
        exact ⟨(k : Int), rfl, by rw [HE.out]; simp, by omega, by omega, rfl⟩
    · obtain rfl : m = k := by omega
      have HE : Hid ((zs.any fun z => !nodeB n z) = false) := Lib.hid (by have := HT.out; rwa [List.take_of_length_le (by rw [HM.out]; omega)] at this)
      clear hlt
      go_wp2_with fail
      go_ret
      exact ⟨-1, rfl, by rw [HE.out]; rfl, by omega, by omega, rfl⟩
theorem contains_ints (B n c : Nat) (A2 : Option Addr) (A : Option Addr) (m d : Nat) (zs : List Int) (w : World) (hm : zs.length = m) (hmx : m ≤ maxLen) (hA : LA .i64 w A zs) (hb : w.cell? ⟨B, 0, none⟩ = some (.slice A2 n c)) :
    Calls Try.prog 48 #[.slice A m d, .func (.func 46) #[] #[.pointer (some ⟨B, 0, none⟩)]] w fun e w' => e = .returned (.bool (zs.any fun z => !nodeB n z)) ∧ w = w' := by
  have H := Lib.hid (index_ints B n c A2 A m d zs w hm hmx hA hb)
  clear hm hmx hA hb
  go_enter Try.func48, Try.ntmps48
  go_wp2_with fail
  refine H.out.mono ?_
  rintro e w' ⟨z, rfl, hz, z1, z2, rfl⟩
  have HZ := Lib.hid hz
  clear hz
  go_wp2_with fail
  go_ret
  exact ⟨ret_bool HZ.out, rfl⟩

theorem strange_edge (B C n c : Nat) (A : Option Addr) (x y : Int) (w : World) (hb : w.cell? ⟨B, 0, none⟩ = some (.slice A n c)) (hc : w.cell? ⟨C, 0, none⟩ = some (.func (.func 46) #[] #[.pointer (some ⟨B, 0, none⟩)])) :
    Calls Try.prog 50 #[.agg #[.int .i64 x, .int .i64 y], .pointer (some ⟨C, 0, none⟩)] w fun e w' => e = .returned (.bool (!nodeB n x)) ∧ Below w.heap.size w w' := by
  have hB0 : Below w.heap.size w (w.alloc (.cells #[.int .i64 x, .int .i64 y] 46)) := (Below.refl _ w).alloc (Nat.le_refl _) _
  have HB := Lib.hid hB0
  have HC1 := Lib.hid ((hB0.cell (p := ⟨B, 0, none⟩) (lt_of_cell hb)).trans hb)
  have hcl := lt_of_cell hc
  obtain ⟨b, HN⟩ : ∃ b, Hid (nodeB n x = b) := ⟨_, Lib.hid rfl⟩
  rw [HN.out]
  clear hB0 hb
  go_enter Try.func50, Try.ntmps50
  go_wp2_with fail
  refine (strange_any B n c A x _ HC1.out).mono ?_
  rintro e w' ⟨rfl, rfl⟩
  rw [HN.out]
  go_wp2_with fail
  go_ret
  exact ⟨rfl, HB.out⟩

/-- The same, where the world has grown. -/
def Found2 (b : Bool) (w : World) (e : Ending) (w' : World) : Prop := ∃ z : Int, e = .returned (.int .i64 z) ∧ decide (0 ≤ z) = b ∧ -1 ≤ z ∧ z ≤ 9223372036854775807 ∧ Below w.heap.size w w'
set_option maxHeartbeats 1000000 in
theorem index_edges (B C n c : Nat) (A2 : Option Addr) (A : Option Addr) (m d : Nat) (zs : List (Int × Int)) (w : World) (hm : zs.length = m) (hmx : m ≤ maxLen) (hA : PA w A zs) (hb : w.cell? ⟨B, 0, none⟩ = some (.slice A2 n c)) (hc : w.cell? ⟨C, 0, none⟩ = some (.func (.func 46) #[] #[.pointer (some ⟨B, 0, none⟩)])) :
    Calls Try.prog 77 #[.slice A m d, .func (.func 50) #[] #[.pointer (some ⟨C, 0, none⟩)]] w (Found2 (zs.any fun z => !nodeB n z.1) w) := by
  have HM := Lib.hid hm
  have HA := Lib.hid hA
  have HB := Lib.hid hb
  have HC := Lib.hid hc
  have HBL := Lib.hid (lt_of_cell hb)
  have HCL := Lib.hid (lt_of_cell hc)
  unfold maxLen at hmx
  clear hm hA hb hc
  go_enter Try.func77, Try.ntmps77
  go_wp2_with fail
  go_loopw [8] (fun i wr => ∃ k : Nat, k ≤ m ∧ i = .int .i64 k ∧ Hid ((zs.take k).any (fun z => !nodeB n z.1) = false) ∧ Hid (Below w.heap.size w wr)) (fun i _ => m - (intOf i).toNat)
  case atStart => exact ⟨0, by omega, rfl, Lib.hid rfl, Lib.hid (Below.refl _ _)⟩
  case round =>
    obtain ⟨k, hk, rfl, HT, HW⟩ := hrel
    by_cases hlt : k < m
    · obtain ⟨b, o, rfl, hb, hcc⟩ := HA.out (by rw [HM.out]; omega)
      have hkl : k < zs.length := by rw [HM.out]; exact hlt
      have c1 := (HW.out.cell (p := ⟨b, o + k * 2, none⟩) hb).trans (hcc k hkl).1
      have c2 := (HW.out.cell (p := ⟨b, o + k * 2 + 1, none⟩) hb).trans (hcc k hkl).2
      have HG : Hid (zs.getD k (0, 0) = zs[k]) := Lib.hid (by simp [List.getD, hkl])
      have HS : Hid ((zs.take (k + 1)).any (fun z => !nodeB n z.1) = !nodeB n (zs.getD k (0, 0)).1) := Lib.hid (by rw [any_take hkl, HT.out, HG.out]; rfl)
      have HF : Hid (nodeB n (zs.getD k (0, 0)).1 = false → (zs.any fun z => !nodeB n z.1) = true) := Lib.hid (fun h => any_at hkl (by show (!nodeB n zs[k].1) = true; rw [← HG.out, h]; rfl))
      generalize (zs.getD k (0, 0)).1 = y at c1 HS HF
      generalize (zs.getD k (0, 0)).2 = x at c2
      clear hcc HG hkl
      go_wp2_with fail
      refine (strange_edge B C n c A2 y x wr ((HW.out.cell (p := ⟨B, 0, none⟩) HBL.out).trans HB.out) ((HW.out.cell (p := ⟨C, 0, none⟩) HCL.out).trans HC.out)).mono ?_
      rintro e w' ⟨rfl, hb2⟩
      have HW2 : Hid (Below w.heap.size w w') := Lib.hid (HW.out.trans (hb2.mono HW.out.size))
      clear hb2 c1 c2
      by_cases hy : nodeB n y = true
      · rw [hy]
        have HT2 : Hid ((zs.take (k + 1)).any (fun z => !nodeB n z.1) = false) := Lib.hid (by rw [HS.out, hy]; rfl)
        clear HS HF hy
        go_wp2_with fail
        go_roundw
        case rel => exact ⟨k + 1, by omega, by go_num, HT2, HW2⟩
        case measure => simp [intOf]; omega
      · have hy2 : nodeB n y = false := by simpa using hy
        rw [hy2]
        have HE := Lib.hid (HF.out hy2)
        clear HS HF hy hy2
        go_wp2_with fail
        go_ret
        exact ⟨(k : Int), rfl, by rw [HE.out]; simp, by omega, by omega, HW2.out⟩
    · obtain rfl : m = k := by omega
      have HE : Hid ((zs.any fun z => !nodeB n z.1) = false) := Lib.hid (by have := HT.out; rwa [List.take_of_length_le (by rw [HM.out]; omega)] at this)
      clear hlt
      go_wp2_with fail
      go_ret
      exact ⟨-1, rfl, by rw [HE.out]; rfl, by omega, by omega, HW.out⟩
theorem contains_edges (B C n c : Nat) (A2 : Option Addr) (A : Option Addr) (m d : Nat) (zs : List (Int × Int)) (w : World) (hm : zs.length = m) (hmx : m ≤ maxLen) (hA : PA w A zs) (hb : w.cell? ⟨B, 0, none⟩ = some (.slice A2 n c)) (hc : w.cell? ⟨C, 0, none⟩ = some (.func (.func 46) #[] #[.pointer (some ⟨B, 0, none⟩)])) :
    Calls Try.prog 49 #[.slice A m d, .func (.func 50) #[] #[.pointer (some ⟨C, 0, none⟩)]] w fun e w' => e = .returned (.bool (zs.any fun z => !nodeB n z.1)) ∧ Below w.heap.size w w' := by
  have H := Lib.hid (index_edges B C n c A2 A m d zs w hm hmx hA hb hc)
  clear hm hmx hA hb hc
  go_enter Try.func49, Try.ntmps49
  go_wp2_with fail
  refine H.out.mono ?_
  rintro e w' ⟨z, rfl, hz, z1, z2, hb⟩
  have HZ := Lib.hid hz
  have HB := Lib.hid hb
  clear hz hb
  go_wp2_with fail
  go_ret
  exact ⟨ret_bool HZ.out, HB.out⟩

/-- What is wrong with a graph. -/
def chk (G : Gr) : Int := if 65536 < G.rows.length then 11 else if G.labels.length ≠ G.rows.length then 3 else if G.init.any (fun z => !nodeB G.rows.length z) then 10 else if G.rows.any (fun r => r.any fun z => !nodeB G.rows.length z.1) then 10 else 0
theorem check_many (v1 v3 : Value) (A2 : Option Addr) (c2 n2 : Nat) (w : World) (h : 65536 < n2) (hn : n2 ≤ maxLen) : Calls Try.prog 17 #[.agg #[v1, .slice A2 n2 c2, v3]] w fun e w' => e = .returned (.int .i64 11) ∧ Below w.heap.size w w' := by
  unfold maxLen at hn
  go_enter Try.func17, Try.ntmps17
  go_wp2
  go_ret
  exact ⟨rfl, ((Below.refl _ w).alloc (Nat.le_refl _) _).alloc (by simp) _⟩
theorem check_form (v1 : Value) (A2 A3 : Option Addr) (c2 c3 n2 n3 : Nat) (w : World) (h : n2 ≤ 65536) (hne : n3 ≠ n2) : Calls Try.prog 17 #[.agg #[v1, .slice A2 n2 c2, .slice A3 n3 c3]] w fun e w' => e = .returned (.int .i64 3) ∧ Below w.heap.size w w' := by
  have hd : decide ((65536 : Int) < (n2 : Int)) = false := by simp; omega
  have hd2 : ((n3 : Int) != (n2 : Int)) = true := by simp; omega
  clear hne
  go_enter Try.func17, Try.ntmps17
  go_wp2
  go_ret
  exact ⟨rfl, ((Below.refl _ w).alloc (Nat.le_refl _) _).alloc (by simp) _⟩
def chkR (n : Nat) (init : List Int) (rows : List (List (Int × Int))) : Int := if init.any (fun z => !nodeB n z) then 10 else if rows.any (fun r => r.any fun z => !nodeB n z.1) then 10 else 0
set_option maxHeartbeats 2000000 in
theorem check_rest (A1 A2 A3 : Option Addr) (c1 c2 c3 n : Nat) (init : List Int) (rows : List (List (Int × Int))) (w : World) (h : n ≤ 65536) (hN : rows.length = n) (h1 : init.length ≤ maxLen) (hI : LA .i64 w A1 init) (hR : RA w A2 rows) :
    Calls Try.prog 17 #[.agg #[.slice A1 init.length c1, .slice A2 n c2, .slice A3 n c3]] w fun e w' => e = .returned (.int .i64 (chkR n init rows)) ∧ Below w.heap.size w w' := by
  have HN := Lib.hid hN
  have HI := Lib.hid hI
  have HR := Lib.hid hR
  obtain ⟨m, HM⟩ : ∃ m, Hid (init.length = m) := ⟨_, Lib.hid rfl⟩
  rw [HM.out] at h1 ⊢
  have H1 := Lib.hid h1
  unfold maxLen at h1
  have hd : decide ((65536 : Int) < (n : Int)) = false := by simp; omega
  clear hN hI hR
  go_enter Try.func17, Try.ntmps17
  go_wp2_with fail
  have q1 : (((w.alloc (.cells #[.slice A1 m c1, .slice A2 n c2, .slice A3 n c3] 26)).alloc (.cells #[.slice A2 n c2] 55)).alloc (.cells #[.func (.func 46) #[] #[.pointer (some ⟨w.heap.size + 1, 0, none⟩)]] 56)).cell? ⟨w.heap.size + 1, 0, none⟩ = some (.slice A2 n c2) := by
    have h := ((Boxed.new (w.alloc (.cells #[.slice A1 m c1, .slice A2 n c2, .slice A3 n c3] 26)) 55 (.slice A2 n c2)).alloc (.cells #[.func (.func 46) #[] #[.pointer (some ⟨w.heap.size + 1, 0, none⟩)]] 56)).cell
    rwa [World.size_alloc] at h
  have q2 : (((w.alloc (.cells #[.slice A1 m c1, .slice A2 n c2, .slice A3 n c3] 26)).alloc (.cells #[.slice A2 n c2] 55)).alloc (.cells #[.func (.func 46) #[] #[.pointer (some ⟨w.heap.size + 1, 0, none⟩)]] 56)).cell? ⟨w.heap.size + 1 + 1, 0, none⟩ = some (.func (.func 46) #[] #[.pointer (some ⟨w.heap.size + 1, 0, none⟩)]) := by
    have h := (Boxed.new ((w.alloc (.cells #[.slice A1 m c1, .slice A2 n c2, .slice A3 n c3] 26)).alloc (.cells #[.slice A2 n c2] 55)) 56 (.func (.func 46) #[] #[.pointer (some ⟨w.heap.size + 1, 0, none⟩)])).cell
    rwa [World.size_alloc, World.size_alloc] at h
  have hB0 : Below w.heap.size w (((w.alloc (.cells #[.slice A1 m c1, .slice A2 n c2, .slice A3 n c3] 26)).alloc (.cells #[.slice A2 n c2] 55)).alloc (.cells #[.func (.func 46) #[] #[.pointer (some ⟨w.heap.size + 1, 0, none⟩)]] 56)) := (((Below.refl _ w).alloc (Nat.le_refl _) _).alloc (by simp) _).alloc (by simp; omega) _
  have HB := Lib.hid hB0
  have HI2 := Lib.hid (HI.out.below hB0)
  have HR2 := Lib.hid (HR.out.below hB0)
  clear hB0 HI HR
  generalize (((w.alloc (.cells #[.slice A1 m c1, .slice A2 n c2, .slice A3 n c3] 26)).alloc (.cells #[.slice A2 n c2] 55)).alloc (.cells #[.func (.func 46) #[] #[.pointer (some ⟨w.heap.size + 1, 0, none⟩)]] 56)) = W at *
  have HQ1 := Lib.hid q1
  have HQ2 := Lib.hid q2
  clear q2
  refine (contains_ints (w.heap.size + 1) n c2 A2 A1 m c1 init W HM.out H1.out HI2.out HQ1.out).mono ?_
  rintro e w' ⟨rfl, rfl⟩
  by_cases hi : (init.any fun z => !nodeB n z) = true
  · rw [hi]
    have HE : Hid (chkR n init rows = (10 : Int)) := Lib.hid (by unfold chkR; rw [if_pos hi])
    clear hi
    go_wp2_with fail
    go_ret
    exact ⟨ret_int HE.out.symm, HB.out⟩
  · have hi2 : (init.any fun z => !nodeB n z) = false := by simpa using hi
    rw [hi2]
    have HE : Hid (chkR n init rows = (if rows.any (fun r => r.any fun z => !nodeB n z.1) then 10 else 0 : Int)) := Lib.hid (by unfold chkR; rw [if_neg hi])
    clear hi hi2
    go_wp2_with fail
    clear q1
    go_loopw [25] (fun i wr => ∃ k : Nat, k ≤ n ∧ i = .int .i64 k ∧ Hid ((rows.take k).any (fun r => r.any fun z => !nodeB n z.1) = false) ∧ Hid (Below W.heap.size W wr)) (fun i _ => n - (intOf i).toNat)
    case atStart => exact ⟨0, by omega, rfl, Lib.hid rfl, Lib.hid (Below.refl _ _)⟩
    case round =>
      obtain ⟨k, hk, rfl, HT, HW⟩ := hrel
      by_cases hlt : k < n
      · obtain ⟨b, o, rfl, hb, hcc⟩ := HR2.out (by rw [HN.out]; omega)
        have hkl : k < rows.length := by rw [HN.out]; exact hlt
        obtain ⟨A', c', r1, r2, r3, r4⟩ := hcc k hkl
        have r1' := (HW.out.cell (p := ⟨b, o + k, none⟩) hb).trans r1
        have HG : Hid (rows.getD k [] = rows[k]) := Lib.hid (by simp [List.getD, hkl])
        have HS : Hid ((rows.take (k + 1)).any (fun r => r.any fun z => !nodeB n z.1) = (rows.getD k []).any (fun z => !nodeB n z.1)) := Lib.hid (by rw [any_take hkl, HT.out, HG.out]; rfl)
        have HF : Hid ((rows.getD k []).any (fun z => !nodeB n z.1) = true → (rows.any fun r => r.any fun z => !nodeB n z.1) = true) := Lib.hid (fun h => any_at hkl (by show (rows[k].any fun z => !nodeB n z.1) = true; rw [← HG.out]; exact h))
        have HP := Lib.hid (r4.below HW.out)
        have HRL : Hid ((rows.getD k []).length ≤ maxLen) := Lib.hid (Nat.le_trans r2 r3)
        unfold maxLen at r3
        obtain ⟨row, HROW⟩ : ∃ row, Hid (rows.getD k [] = row) := ⟨_, Lib.hid rfl⟩
        rw [HROW.out] at r1' r2 HS HF HP HRL
        obtain ⟨l, HL⟩ : ∃ l, Hid (row.length = l) := ⟨_, Lib.hid rfl⟩
        rw [HL.out] at r1' r2 HRL
        clear hcc HG hkl r1 r4
        go_wp2_with fail
        refine (contains_edges (w.heap.size + 1) (w.heap.size + 1 + 1) n c2 _ A' l c' row wr HL.out HRL.out HP.out ((HW.out.cell (p := ⟨w.heap.size + 1, 0, none⟩) (lt_of_cell HQ1.out)).trans HQ1.out) ((HW.out.cell (p := ⟨w.heap.size + 1 + 1, 0, none⟩) (lt_of_cell HQ2.out)).trans HQ2.out)).mono ?_
        rintro e w' ⟨rfl, hb2⟩
        have HW2 : Hid (Below W.heap.size W w') := Lib.hid (HW.out.trans (hb2.mono HW.out.size))
        clear hb2 r1' r2 r3
        by_cases hy : (row.any fun z => !nodeB n z.1) = true
        · rw [hy]
          have HE2 : Hid (chkR n init rows = (10 : Int)) := Lib.hid (by rw [HE.out, if_pos (HF.out hy)])
          have HB3 : Hid (Below w.heap.size w w') := Lib.hid (HB.out.trans (HW2.out.mono HB.out.size))
          clear HS HF hy
          go_wp2_with fail
          go_ret
          exact ⟨ret_int HE2.out.symm, HB3.out⟩
        · have hy2 : (row.any fun z => !nodeB n z.1) = false := by simpa using hy
          rw [hy2]
          have HT2 : Hid ((rows.take (k + 1)).any (fun r => r.any fun z => !nodeB n z.1) = false) := Lib.hid (by rw [HS.out]; exact hy2)
          clear HS HF hy hy2
          go_wp2_with fail
          go_roundw
          case rel => exact ⟨k + 1, by omega, by go_num, HT2, HW2⟩
          case measure => simp [intOf]; omega
      · obtain rfl : n = k := by omega
        have HE2 : Hid (chkR n init rows = (0 : Int)) := Lib.hid (by rw [HE.out, if_neg (by have := HT.out; rw [List.take_of_length_le (by rw [HN.out]; omega)] at this; rw [this]; decide)])
        have HB3 : Hid (Below w.heap.size w wr) := Lib.hid (HB.out.trans (HW.out.mono HB.out.size))
        clear hlt
        go_wp2_with fail
        go_ret
        exact ⟨ret_int HE2.out.symm, HB3.out⟩
theorem check_any {w : World} {v : Value} {G : Gr} (hv : GV w v G) : Calls Try.prog 17 #[v] w fun e w' => e = .returned (.int .i64 (chk G)) ∧ Below w.heap.size w w' := by
  obtain ⟨A1, c1, A2, c2, A3, c3, rfl, ⟨a1, b1, d1⟩, ⟨a2, b2, d2⟩, ⟨a3, b3, d3⟩⟩ := hv
  unfold chk
  by_cases h2 : 65536 < G.rows.length
  · rw [if_pos h2]
    exact check_many _ _ A2 c2 _ w h2 (by omega)
  · rw [if_neg h2]
    by_cases h3 : G.labels.length = G.rows.length
    · rw [if_neg (fun h => h h3), h3]
      exact check_rest A1 A2 A3 c1 c2 c3 _ G.init G.rows w (by omega) rfl (by omega) d1 d2
    · rw [if_pos h3]
      exact check_form _ A2 A3 c2 c3 _ _ w (by omega) h3
end Go.Proofs.Ytnfiohekdbjgoaa
