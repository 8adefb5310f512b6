/- The laws' own example, and how far they go. -/
import Derived.Test.YtnfiohekdbjgoaaSccArg
namespace Go.Proofs.Ytnfiohekdbjgoaa.sc
open Go.ChangeShapes Go.WideShapes Go.ChangeAt Go.RowKit Go.Shelf

set_option maxHeartbeats 1000000 in
theorem same_any (A B : Option Addr) (c d m1 m2 : Nat) (xs ys : List Int) (w : World) (hm1 : m1 = xs.length) (hm2 : m2 = ys.length) (hA : IA w A xs) (hB : IA w B ys) (hxl : xs.length ≤ maxLen) (hyl : ys.length ≤ maxLen) :
    Calls Try.prog 36 #[.slice A m1 c, .slice B m2 d] w fun e w' => e = .returned (.bool (eqB xs ys)) ∧ ∃ n, w' = w.drewN n := by
  subst hm1 hm2
  unfold maxLen at hxl hyl
  by_cases hl : xs.length = ys.length
  · have H := Lib.hid hl
    clear hl
    go_enter Try.func36, Try.ntmps36
    have hl0 : (xs.length : Int) = (ys.length : Int) := by rw [H.out]
    go_wp2
    clear hl0
    go_loopw [5] (fun i wr => ∃ (k j : Nat), k ≤ ys.length ∧ i = .int .i64 k ∧ wr = w.drewN j ∧ Hid (∀ i, i < k → xs.getD i 0 = ys.getD i 0)) (fun i _ => ys.length - (intOf i).toNat)
    case atStart => exact ⟨0, 0, Nat.zero_le _, rfl, rfl, Lib.hid (fun i hi => absurd hi (by omega))⟩
    case round =>
      obtain ⟨k, j, hk, rfl, rfl, HV⟩ := hrel
      by_cases hlty : k < ys.length
      · have hlt : k < xs.length := by rw [H.out]; exact hlty
        obtain ⟨bA, oA, rfl, hbA, hcA⟩ := hA (by omega)
        obtain ⟨bB, oB, rfl, hbB, hcB⟩ := hB (by omega)
        have c1 := hcA k hlt
        have c2 := hcB k hlty
        by_cases t1 : xs.getD k 0 = ys.getD k 0
        · have HS : Hid (∀ i, i < k + 1 → xs.getD i 0 = ys.getD i 0) := Lib.hid (fun i hi => by
            by_cases hik : i = k
            · subst hik; exact t1
            · exact HV.out i (by omega))
          rw [← t1] at c2
          generalize xs.getD k 0 = x at c1 c2
          clear hcA hcB hA hB t1 HV
          go_wp2
          go_quiet (fail)
          go_wp2
          go_roundw
          case rel => exact ⟨k + 1, _, by omega, by go_num, rfl, HS⟩
          case measure => simp [intOf]; omega
        · have HE : Hid (eqB xs ys = false) := Lib.hid (decide_eq_false (fun h => t1 (by rw [h])))
          generalize xs.getD k 0 = x at c1 t1
          generalize ys.getD k 0 = y at c2 t1
          have t2 : (x != y) = true := by simpa using t1
          clear hcA hcB hA hB t1 HV
          go_wp2
          go_quiet (fail)
          go_wp2
          go_ret
          exact ⟨ret_bool HE.out.symm, _, World.drewN_drewN _ _ _⟩
      · have hk2 : k = xs.length := by rw [H.out]; omega
        subst hk2
        have HE : Hid (eqB xs ys = true) := Lib.hid (decide_eq_true (getD_ext' H.out HV.out))
        have hge : ys.length ≤ xs.length := by omega
        clear hlty hk
        go_wp2
        go_ret
        exact ⟨ret_bool HE.out.symm, _, rfl⟩
  · have e : eqB xs ys = false := decide_eq_false (fun h => hl (by rw [h]))
    rw [e]
    go_enter Try.func36, Try.ntmps36
    go_wp2
    go_ret
    exact ⟨rfl, 0, rfl⟩

theorem eqB_same (l : List Int) : eqB l l = true := decide_eq_true rfl
/-- A box of three cells. -/
def B3 (w : World) (b : Nat) (v0 v1 v2 : Value) : Prop := w.cell? ⟨b, 0, none⟩ = some v0 ∧ w.cell? ⟨b, 1, none⟩ = some v1 ∧ w.cell? ⟨b, 2, none⟩ = some v2
theorem B3.below {w w' : World} {b : Nat} {v0 v1 v2 : Value} (h : B3 w b v0 v1 v2) (k : Below w.heap.size w w') : B3 w' b v0 v1 v2 :=
  ⟨(k.cell (p := ⟨b, 0, none⟩) (lt_of_cell h.1)).trans h.1, (k.cell (p := ⟨b, 1, none⟩) (lt_of_cell h.1)).trans h.2.1, (k.cell (p := ⟨b, 2, none⟩) (lt_of_cell h.1)).trans h.2.2⟩
theorem pa_lit {w : World} {b : Nat} {t : TypeId} {cs : Array Value} {l : List (Int × Int)} (h : w.heap[b]? = some (.cells cs t (0, 0))) (hc : cs = (flat l).toArray) : PA w (some ⟨b, 0, none⟩) l := fun hn => by
  refine ⟨b, 0, rfl, (Array.getElem?_eq_some_iff.1 h).1, fun i hi => ?_⟩
  subst hc
  obtain ⟨e1, e2⟩ := flat_at l i hi
  simp [World.cell?, h, e1, e2]
theorem ah_new (w : World) (o : Obj) (n : Nat) (h : n = w.heap.size) : (w.alloc o).heap[n]? = some o := by subst h; exact World.alloc_heap_new w o
theorem ah_old {w : World} {o o' : Obj} {n : Nat} (h : n < w.heap.size) (h2 : w.heap[n]? = some o') : (w.alloc o).heap[n]? = some o' := (Below.heap_alloc _ _ _ h).trans h2
def exR : List (List (Int × Int)) := [[(1, 0)], [(0, 0), (2, 0)], []]
def exG : Gr := ⟨[], exR, []⟩
theorem ex_01 : eR 3 exR 0 1 := eR_mem.2 ⟨by decide, (1, 0), by decide, rfl⟩
theorem ex_10 : eR 3 exR 1 0 := eR_mem.2 ⟨by decide, (0, 0), by decide, rfl⟩
theorem ex_2 (x : Nat) : ¬ eR 3 exR 2 x := fun h => by
  obtain ⟨_, e, he, _⟩ := eR_mem.1 h
  have : exR.getD 2 [] = [] := rfl
  rw [this] at he; cases he
theorem ex_2w {x : Nat} (h : Wy (eR 3 exR) 2 x) : x = 2 := by
  cases h with
  | here => rfl
  | on h1 _ => exact absurd h1 (ex_2 _)
theorem ex_of : OfL 3 (eR 3 exR) [0, 0, 2] := ⟨rfl, fun i hi => by
  match i, hi with
  | 0, _ => exact ⟨0, rfl, Nat.le_refl _, .here _, .here _, fun k hk => by omega⟩
  | 1, _ => exact ⟨0, rfl, by omega, .one ex_10, .one ex_01, fun k hk => by omega⟩
  | 2, _ => exact ⟨2, rfl, Nat.le_refl _, .here _, .here _, fun k hk hw => by have := ex_2w hw.1; omega⟩⟩
theorem ex_live : Wp (eR 3 exR) 0 0 ∧ Wp (eR 3 exR) 1 1 ∧ ¬ Wp (eR 3 exR) 2 2 := ⟨⟨1, ex_01, .one ex_10⟩, ⟨0, ex_10, .one ex_01⟩, fun ⟨x, h, _⟩ => ex_2 x h⟩
theorem ex_rows : ∀ i, (exR.getD i []).length ≤ 2000 := fun i => by
  match i with
  | 0 => decide
  | 1 => decide
  | 2 => decide
  | i + 3 => simp [exR, List.getD]
def BoolP (b : Bool) (w : World) (e : Ending) (w' : World) : Prop := e = .returned (.bool b) ∧ Below w.heap.size w w'
set_option maxRecDepth 20000 in
set_option maxHeartbeats 4000000 in
theorem lives_any (w : World) : Calls Try.prog 35 #[] w (BoolP true w) := by
  obtain ⟨w1, HW1⟩ : ∃ w1, Hid (w1 = (((w.alloc (.cells #[.int .i64 1, .int .i64 0] 46)).alloc (.cells #[.int .i64 0, .int .i64 0, .int .i64 2, .int .i64 0] 46)).alloc (.cells #[.slice (some ⟨w.heap.size, 0, none⟩) 1 1, .slice (some ⟨w.heap.size + 1, 0, none⟩) 2 2, .slice none 0 0] 39)).alloc (.cells #[.slice none 0 0, .slice (some ⟨w.heap.size + 1 + 1, 0, none⟩) 3 3, .slice none 0 0] 26)) := ⟨_, Lib.hid rfl⟩
  go_enter Try.func35, Try.ntmps35
  go_upto_region 2 with (fail)
  rw [← HW1.out]
  have hZ : w1.heap.size = w.heap.size + 1 + 1 + 1 + 1 := by rw [HW1.out]; simp
  have g1 : w1.heap[w.heap.size]? = some (.cells #[.int .i64 1, .int .i64 0] 46 (0, 0)) := by
    rw [HW1.out]; exact ah_old (by simp <;> omega) (ah_old (by simp <;> omega) (ah_old (by simp) (ah_new _ _ _ rfl)))
  have g2 : w1.heap[w.heap.size + 1]? = some (.cells #[.int .i64 0, .int .i64 0, .int .i64 2, .int .i64 0] 46 (0, 0)) := by
    rw [HW1.out]; exact ah_old (by simp <;> omega) (ah_old (by simp) (ah_new _ _ _ (by simp)))
  have g3 : w1.heap[w.heap.size + 1 + 1]? = some (.cells #[.slice (some ⟨w.heap.size, 0, none⟩) 1 1, .slice (some ⟨w.heap.size + 1, 0, none⟩) 2 2, .slice none 0 0] 39 (0, 0)) := by
    rw [HW1.out]; exact ah_old (by simp) (ah_new _ _ _ (by simp))
  have g4 : w1.heap[w.heap.size + 1 + 1 + 1]? = some (.cells #[.slice none 0 0, .slice (some ⟨w.heap.size + 1 + 1, 0, none⟩) 3 3, .slice none 0 0] 26 (0, 0)) := by
    rw [HW1.out]; exact ah_new _ _ _ (by simp)
  have HB1 : Hid (Below w.heap.size w w1) := Lib.hid (by rw [HW1.out]; exact ((((Below.refl _ _).alloc (by simp) _).alloc (by simp) _).alloc (by simp; omega) _).alloc (by simp; omega) _)
  have HGV : Hid (∀ W, Below w1.heap.size w1 W → GV W (.agg #[.slice none 0 0, .slice (some ⟨w.heap.size + 1 + 1, 0, none⟩) 3 3, .slice none 0 0]) exG) := Lib.hid (fun W hW => GV.below (⟨none, 0, _, 3, none, 0, rfl, ⟨Nat.le_refl _, Nat.zero_le _, fun h => absurd h (by decide)⟩, ⟨Nat.le_refl _, by unfold maxLen; omega, fun _ => ⟨_, 0, rfl, (Array.getElem?_eq_some_iff.1 g3).1, fun i hi => by
      have hi : i < 3 := hi
      match i, hi with
      | 0, _ => exact ⟨some ⟨w.heap.size, 0, none⟩, 1, by simp only [World.cell?, g3]; rfl, Nat.le_refl _, by unfold maxLen; omega, pa_lit g1 rfl⟩
      | 1, _ => exact ⟨some ⟨w.heap.size + 1, 0, none⟩, 2, by simp only [World.cell?, g3]; rfl, Nat.le_refl _, by unfold maxLen; omega, pa_lit g2 rfl⟩
      | 2, _ => exact ⟨none, 0, by simp only [World.cell?, g3]; rfl, Nat.le_refl _, Nat.zero_le _, fun h => absurd h (by decide)⟩⟩⟩, ⟨Nat.le_refl _, Nat.zero_le _, fun h => absurd h (by decide)⟩⟩) hW)
  have hbx : B3 w1 (w.heap.size + 1 + 1 + 1) (.slice none 0 0) (.slice (some ⟨w.heap.size + 1 + 1, 0, none⟩) 3 3) (.slice none 0 0) := ⟨by simp [World.cell?, g4], by simp [World.cell?, g4], by simp [World.cell?, g4]⟩
  have HBX := Lib.hid hbx
  obtain ⟨q0, q1, q2⟩ := hbx
  clear g1 g2 g3 g4 hZ HW1
  go_wp2_with fail
  refine (live_any (HGV.out w1 (Below.refl _ _)) (by decide) ex_rows).mono ?_
  rintro e w2 ⟨A, c, he, ⟨lv, hlv, hiff⟩, hb2⟩
  have he : e = .returned (.slice A 3 c) := he
  subst he
  obtain ⟨bl, rfl, _, hbl, hcl⟩ := hlv (by decide)
  have l0 : lv 0 = true := (hiff 0 (by decide)).2 ex_live.1
  have l1 : lv 1 = true := (hiff 1 (by decide)).2 ex_live.2.1
  have l2 : lv 2 = false := by
    cases h : lv 2 with
    | false => rfl
    | true => exact absurd ((hiff 2 (by decide)).1 h) ex_live.2.2
  have HCL : Hid (∀ W, Below w2.heap.size w2 W → W.cell? ⟨bl, 0, none⟩ = some (.bool true) ∧ W.cell? ⟨bl, 1, none⟩ = some (.bool true) ∧ W.cell? ⟨bl, 2, none⟩ = some (.bool false)) := Lib.hid (fun W hW => by
    refine ⟨?_, ?_, ?_⟩
    · exact (hW.cell (p := ⟨bl, 0, none⟩) hbl).trans (by rw [hcl 0 (by decide), l0])
    · exact (hW.cell (p := ⟨bl, 1, none⟩) hbl).trans (by rw [hcl 1 (by decide), l1])
    · exact (hW.cell (p := ⟨bl, 2, none⟩) hbl).trans (by rw [hcl 2 (by decide), l2]))
  have HB2 : Hid (Below w.heap.size w w2) := Lib.hid (HB1.out.trans (hb2.mono HB1.out.size))
  have HGV2 := Lib.hid (HGV.out w2 hb2)
  obtain ⟨q0, q1, q2⟩ := HBX.out.below hb2
  clear hlv hiff hcl l0 l1 l2 hb2 hbl
  go_wp2_with fail
  refine (of_any HGV2.out (by decide) ex_rows).mono ?_
  rintro e w3 ⟨L, hL, D, d, rfl, hD, hb3, _⟩
  obtain rfl : L = [0, 0, 2] := OfL.one hL ex_of
  have HD := Lib.hid hD.ia
  have HB3 : Hid (Below w2.heap.size w2 w3) := Lib.hid hb3
  have HI : Hid (IA (w3.alloc (.cells #[.int .i64 0, .int .i64 0, .int .i64 2] 3)) (some ⟨w3.heap.size, 0, none⟩) [0, 0, 2]) := Lib.hid (ia_lit w3 _ _ _ rfl)
  simp only [List.length_cons, List.length_nil, Nat.zero_add, Nat.reduceAdd]
  clear hL hD hb3 q0 q1 q2
  go_wp2_with fail
  refine (same_any D _ d 3 3 3 [0, 0, 2] [0, 0, 2] _ rfl rfl (HD.out.alloc _) HI.out (by decide) (by decide)).mono ?_
  rintro e w4 ⟨rfl, j, rfl⟩
  rw [eqB_same]
  have HB4' : Below w2.heap.size w2 ((w3.alloc (.cells #[.int .i64 0, .int .i64 0, .int .i64 2] 3)).drewN j) := below_drewN (HB3.out.alloc HB3.out.size _) j
  obtain ⟨x0, x1, x2⟩ := HCL.out _ HB4'
  have HB4 := Lib.hid (HB2.out.trans (HB4'.mono HB2.out.size))
  clear HB4'
  generalize (w3.alloc (.cells #[.int .i64 0, .int .i64 0, .int .i64 2] 3)).drewN j = w4 at x0 x1 x2 HB4 ⊢
  go_wp2_with fail
  go_ret
  exact ⟨rfl, HB4.out⟩

/-- How many edges the first k rows have. -/
def sumF (rows : List (List (Int × Int))) : Nat → Nat
  | 0 => 0
  | k + 1 => sumF rows k + (rows.getD k []).length
theorem sum_row {rows : List (List (Int × Int))} : ∀ {k i : Nat}, i < k → (rows.getD i []).length ≤ sumF rows k
  | 0, _, h => absurd h (Nat.not_lt_zero _)
  | k + 1, i, h => by
    unfold sumF
    by_cases e : i = k
    · subst e; omega
    · have := sum_row (rows := rows) (k := k) (i := i) (by omega); omega
theorem sum_most {rows : List (List (Int × Int))} {M : Nat} (h : ∀ i, (rows.getD i []).length ≤ M) : ∀ k, sumF rows k ≤ k * M
  | 0 => by simp [sumF]
  | k + 1 => by
    have h1 := sum_most h k
    have h2 := h k
    unfold sumF
    rw [Nat.add_mul]; omega
/-- Whether a graph goes too far; if not, how far it goes. -/
def FarP (w : World) (n : Nat) (rows : List (List (Int × Int))) (e : Ending) (w' : World) : Prop := ∃ b, e = .returned (.bool b) ∧ (b = false → n ≤ 60 ∧ ∀ i, (rows.getD i []).length ≤ 2000) ∧ Below w.heap.size w w'
set_option maxRecDepth 20000 in
set_option maxHeartbeats 4000000 in
theorem far_any' (v1 v3 : Value) (A2 : Option Addr) (c2 n : Nat) (rows : List (List (Int × Int))) (w : World) (hn : n = rows.length) (hc2 : n ≤ c2) (hcm : c2 ≤ maxLen) (hrow : ∀ i, (rows.getD i []).length * 16 ≤ reachBytes) (hA : RA w A2 rows) :
    Calls Try.prog 34 #[.agg #[v1, .slice A2 n c2, v3]] w (FarP w n rows) := by
  obtain ⟨w1, HW1⟩ : ∃ w1, Hid (w1 = w.alloc (.cells #[v1, .slice A2 n c2, v3] 26)) := ⟨_, Lib.hid rfl⟩
  have HB1 : Hid (Below w.heap.size w w1) := Lib.hid (by rw [HW1.out]; exact (Below.refl _ _).alloc (Nat.le_refl _) _)
  obtain ⟨q0, q1, q2⟩ := box3 w v1 (.slice A2 n c2) v3 26
  rw [← HW1.out] at q0 q1 q2
  have HA := Lib.hid (RA.below hA HB1.out)
  have HN := Lib.hid hn
  have hrb := reachBytes_lt
  have HROW : Hid (∀ i, (rows.getD i []).length ≤ 8796093022208) := Lib.hid (fun i => by have := hrow i; omega)
  unfold maxLen at hcm
  clear hn hrow hA q0 q2 hrb
  by_cases h60 : 60 < n
  · go_enter Try.func34, Try.ntmps34
    go_upto_region 1 with (fail)
    rw [← HW1.out]
    go_wp2_with fail
    go_loop [3, 12] (fun s i => ∃ (k : Nat) (x : Int), k ≤ n ∧ i = .int .i64 k ∧ s = .int .i64 x) (fun _ i => n - (intOf i).toNat)
    case atStart => exact ⟨0, _, by omega, rfl, rfl⟩
    case round =>
      obtain ⟨k, x, hk, rfl, rfl⟩ := hrel
      by_cases hlt : k < n
      · obtain ⟨b, o, rfl, hb, hcc⟩ := HA.out (by rw [← HN.out]; omega)
        obtain ⟨A', c', hcell, _, _, _⟩ := hcc k (by rw [← HN.out]; exact hlt)
        generalize (rows.getD k []).length = len at hcell
        clear hcc
        go_wp2
        go_round
        case rel => exact ⟨k + 1, _, by omega, by go_num, rfl⟩
        case measure => simp [intOf]; omega
      · obtain rfl : n = k := by omega
        have h60' : (60 : Int) < (n : Int) := by omega
        go_wp2
        go_ret
        exact ⟨true, rfl, fun h => Bool.noConfusion h, HB1.out⟩
  · go_enter Try.func34, Try.ntmps34
    go_upto_region 1 with (fail)
    rw [← HW1.out]
    go_wp2_with fail
    go_loop [3, 12] (fun s i => ∃ k : Nat, k ≤ n ∧ i = .int .i64 k ∧ s = .int .i64 ((n + sumF rows k : Nat) : Int)) (fun _ i => n - (intOf i).toNat)
    case atStart => exact ⟨0, by omega, rfl, rfl⟩
    case round =>
      obtain ⟨k, hk, rfl, rfl⟩ := hrel
      have hsm := sum_most HROW.out k
      have hsm2 : k * 8796093022208 ≤ 60 * 8796093022208 := Nat.mul_le_mul_right _ (by omega)
      obtain ⟨x, HX⟩ : ∃ x, Hid (n + sumF rows k = x) := ⟨_, Lib.hid rfl⟩
      have hx : x ≤ 60 + 60 * 8796093022208 := by have := HX.out; omega
      rw [HX.out]
      clear hsm hsm2
      by_cases hlt : k < n
      · obtain ⟨b, o, rfl, hb, hcc⟩ := HA.out (by rw [← HN.out]; omega)
        obtain ⟨A', c', hcell, _, _, _⟩ := hcc k (by rw [← HN.out]; exact hlt)
        have hrl := HROW.out k
        have HS : Hid (n + sumF rows (k + 1) = x + (rows.getD k []).length) := Lib.hid (by rw [← HX.out]; show n + (sumF rows k + _) = _; omega)
        generalize (rows.getD k []).length = len at hcell hrl HS
        clear hcc
        go_wp2
        go_round
        case rel => exact ⟨k + 1, by omega, by go_num, by rw [HS.out]; go_num⟩
        case measure => simp [intOf]; omega
      · obtain rfl : n = k := by omega
        have HQ : Hid (x ≤ 2000 → n ≤ 60 ∧ ∀ i, (rows.getD i []).length ≤ 2000) := Lib.hid (fun h => ⟨by omega, fun i => by
          by_cases hi : i < n
          · have := sum_row (rows := rows) (k := n) hi
            have := HX.out
            omega
          · have : rows.getD i [] = [] := by simp [List.getD, List.getElem?_eq_none (show rows.length ≤ i by have := HN.out; omega)]
            rw [this]; simp⟩)
        by_cases hx2 : x ≤ 2000
        · have h1 : ¬ (2000 : Int) < (x : Int) := by omega
          have h2 : ¬ (60 : Int) < (n : Int) := by omega
          have HY := Lib.hid (HQ.out hx2)
          go_wp2
          go_ret
          exact ⟨false, rfl, fun _ => HY.out, HB1.out⟩
        · have h1 : (2000 : Int) < (x : Int) := by omega
          have h2 : ¬ (60 : Int) < (n : Int) := by omega
          clear HQ
          go_wp2
          go_ret
          exact ⟨true, rfl, fun h => Bool.noConfusion h, HB1.out⟩
theorem far_any {w : World} {v : Value} {G : Gr} (hv : GV w v G) (hrow : ∀ i, (G.rows.getD i []).length * 16 ≤ reachBytes) : Calls Try.prog 34 #[v] w (FarP w G.rows.length G.rows) := by
  obtain ⟨A1, c1, A2, c2, A3, c3, rfl, _, ⟨a2, b2, d2⟩, _⟩ := hv
  exact far_any' _ _ A2 c2 _ G.rows w rfl a2 b2 hrow d2
end Go.Proofs.Ytnfiohekdbjgoaa.sc
