/- Graphs: small contracts: heavy, has, Node, marked. -/
import Derived.Test.YtnfiohekdbjgoaaGraphArg
import Derived.Test.YtnfiohekdbjgoaaGMarks
namespace Go.Proofs.Ytnfiohekdbjgoaa
open Go.ChangeShapes Go.WideShapes Go.ChangeAt Go.RowKit

theorem LA.below {k : IntKind} {w w' : World} {A : Option Addr} {zs : List Int} (h : LA k w A zs) (hb : Below w.heap.size w w') : LA k w' A zs := fun hn => by
  obtain ⟨b, off, e, hl, hc⟩ := h hn
  exact ⟨b, off, e, Nat.lt_of_lt_of_le hl hb.size, fun i hi => (hb.cell (p := ⟨b, off + i, none⟩) hl).trans (hc i hi)⟩
theorem PA.below {w w' : World} {A : Option Addr} {zs : List (Int × Int)} (h : PA w A zs) (hb : Below w.heap.size w w') : PA w' A zs := fun hn => by
  obtain ⟨b, off, e, hl, hc⟩ := h hn
  exact ⟨b, off, e, Nat.lt_of_lt_of_le hl hb.size, fun i hi => ⟨(hb.cell (p := ⟨b, off + i * 2, none⟩) hl).trans (hc i hi).1, (hb.cell (p := ⟨b, off + i * 2 + 1, none⟩) hl).trans (hc i hi).2⟩⟩
theorem RA.below {w w' : World} {A : Option Addr} {rows : List (List (Int × Int))} (h : RA w A rows) (hb : Below w.heap.size w w') : RA w' A rows := fun hn => by
  obtain ⟨b, off, e, hl, hc⟩ := h hn
  refine ⟨b, off, e, Nat.lt_of_lt_of_le hl hb.size, fun i hi => ?_⟩
  obtain ⟨A', c', h1, h2, h3, h4⟩ := hc i hi
  exact ⟨A', c', (hb.cell (p := ⟨b, off + i, none⟩) hl).trans h1, h2, h3, h4.below hb⟩
theorem GV.below {w w' : World} {v : Value} {G : Gr} (h : GV w v G) (hb : Below w.heap.size w w') : GV w' v G := by
  obtain ⟨A1, c1, A2, c2, A3, c3, e, ⟨a1, b1, d1⟩, ⟨a2, b2, d2⟩, ⟨a3, b3, d3⟩⟩ := h
  exact ⟨A1, c1, A2, c2, A3, c3, e, ⟨a1, b1, d1.below hb⟩, ⟨a2, b2, d2.below hb⟩, ⟨a3, b3, d3.below hb⟩⟩

/-- Is i a node of n? -/
def nodeB (n : Nat) (i : Int) : Bool := decide (0 ≤ i ∧ i < n)
theorem has_any (A : Option Addr) (n c : Nat) (i : Int) (w : World) :
    Calls Try.prog 47 #[.slice A n c, .int .i64 i] w fun e w' => e = .returned (.bool (nodeB n i)) ∧ w = w' := by
  by_cases h0 : 0 ≤ i
  · by_cases h1 : i < (n : Int)
    · have HE : Hid (nodeB n i = true) := Lib.hid (decide_eq_true ⟨h0, h1⟩)
      rw [HE.out]
      go_enter Try.func47, Try.ntmps47
      go_wp2
      go_ret
      exact ⟨rfl, rfl⟩
    · have HE : Hid (nodeB n i = false) := Lib.hid (decide_eq_false (fun h => h1 h.2))
      have h2 : (n : Int) ≤ i := by omega
      rw [HE.out]
      clear h1
      go_enter Try.func47, Try.ntmps47
      go_wp2
      go_ret
      exact ⟨ret_bool (by simpa using h2), rfl⟩
  · have HE : Hid (nodeB n i = false) := Lib.hid (decide_eq_false (fun h => h0 h.1))
    have h2 : i < 0 := by omega
    rw [HE.out]
    clear h0
    go_enter Try.func47, Try.ntmps47
    go_wp2
    go_ret
    exact ⟨rfl, rfl⟩
theorem node_any (v1 v3 : Value) (A : Option Addr) (n c : Nat) (i : Int) (w : World) :
    Calls Try.prog 33 #[.agg #[v1, .slice A n c, v3], .int .i64 i] w fun e w' => e = .returned (.bool (nodeB n i)) ∧ Below w.heap.size w w' := by
  by_cases h0 : 0 ≤ i
  · by_cases h1 : i < (n : Int)
    · have HE : Hid (nodeB n i = true) := Lib.hid (decide_eq_true ⟨h0, h1⟩)
      rw [HE.out]
      go_enter Try.func33, Try.ntmps33
      go_wp2
      go_ret
      exact ⟨rfl, (Below.refl _ _).alloc (Nat.le_refl _) _⟩
    · have HE : Hid (nodeB n i = false) := Lib.hid (decide_eq_false (fun h => h1 h.2))
      have h2 : (n : Int) ≤ i := by omega
      rw [HE.out]
      clear h1
      go_enter Try.func33, Try.ntmps33
      go_wp2
      go_ret
      exact ⟨ret_bool (by simpa using h2), (Below.refl _ _).alloc (Nat.le_refl _) _⟩
  · have HE : Hid (nodeB n i = false) := Lib.hid (decide_eq_false (fun h => h0 h.1))
    have h2 : i < 0 := by omega
    rw [HE.out]
    clear h0
    go_enter Try.func33, Try.ntmps33
    go_wp2
    go_ret
    exact ⟨rfl, (Below.refl _ _).alloc (Nat.le_refl _) _⟩

/-- Has a graph more than a law takes? -/
def heavyB (G : Gr) : Bool := decide (200 < G.rows.length) || decide (200 < G.init.length) || decide (400 < G.labels.length) || G.rows.any (fun r => decide (50 < r.length))
theorem heavy_not {G : Gr} (h : heavyB G = false) : G.rows.length ≤ 200 ∧ G.init.length ≤ 200 ∧ G.labels.length ≤ 400 ∧ ∀ r ∈ G.rows, r.length ≤ 50 := by
  unfold heavyB at h
  simp only [Bool.or_eq_false_iff, decide_eq_false_iff_not, List.any_eq_false] at h
  obtain ⟨⟨⟨h1, h2⟩, h3⟩, h4⟩ := h
  exact ⟨by omega, by omega, by omega, fun r hr => by have := h4 r hr; simpa using this⟩
theorem box3 (w : World) (v0 v1 v2 : Value) (t : TypeId) : (w.alloc (.cells #[v0, v1, v2] t)).cell? ⟨w.heap.size, 0, none⟩ = some v0 ∧ (w.alloc (.cells #[v0, v1, v2] t)).cell? ⟨w.heap.size, 1, none⟩ = some v1 ∧ (w.alloc (.cells #[v0, v1, v2] t)).cell? ⟨w.heap.size, 2, none⟩ = some v2 := by
  have h := World.alloc_heap_new w (.cells #[v0, v1, v2] t)
  generalize w.alloc (.cells #[v0, v1, v2] t) = W at h ⊢
  refine ⟨?_, ?_, ?_⟩ <;> simp [World.cell?, h]
set_option maxHeartbeats 1000000 in
theorem heavy_loop (A1 A2 A3 : Option Addr) (c1 c2 c3 n1 n3 : Nat) (rows : List (List (Int × Int))) (w : World) (h1 : n1 ≤ 200) (h2 : rows.length ≤ 200) (h3 : n3 ≤ 400) (hR : RA w A2 rows) :
    Calls Try.prog 15 #[.agg #[.slice A1 n1 c1, .slice A2 rows.length c2, .slice A3 n3 c3]] w fun e w' => e = .returned (.bool (rows.any fun r => decide (50 < r.length))) ∧ Below w.heap.size w w' := by
  have HR := Lib.hid hR
  obtain ⟨n2, HN⟩ : ∃ n2, Hid (rows.length = n2) := ⟨_, Lib.hid rfl⟩
  rw [HN.out] at h2 ⊢
  have hd1 : decide ((200 : Int) < (n1 : Int)) = false := by simp; omega
  have hd2 : decide ((200 : Int) < (n2 : Int)) = false := by simp; omega
  have hd3 : decide ((400 : Int) < (n3 : Int)) = false := by simp; omega
  clear hR
  go_enter Try.func15, Try.ntmps15
  go_wp2_with fail
  obtain ⟨_, q1, _⟩ := box3 w (.slice A1 n1 c1) (.slice A2 n2 c2) (.slice A3 n3 c3) 26
  have hB0 : Below w.heap.size w (w.alloc (.cells #[.slice A1 n1 c1, .slice A2 n2 c2, .slice A3 n3 c3] 26)) := (Below.refl _ w).alloc (Nat.le_refl _) _
  have HB := Lib.hid hB0
  have HR2 : Hid (RA (w.alloc (.cells #[.slice A1 n1 c1, .slice A2 n2 c2, .slice A3 n3 c3] 26)) A2 rows) := Lib.hid (HR.out.below hB0)
  clear hB0 HR
  generalize w.alloc (.cells #[.slice A1 n1 c1, .slice A2 n2 c2, .slice A3 n3 c3] 26) = W at *
  go_loop [3] (fun i => ∃ k : Nat, k ≤ n2 ∧ i = .int .i64 k ∧ Hid ((rows.take k).any (fun r => decide (50 < r.length)) = false)) (fun i => n2 - (intOf i).toNat)
  case atStart => exact ⟨0, by omega, rfl, Lib.hid rfl⟩
  case round =>
    obtain ⟨k, hk, rfl, HT⟩ := hrel
    by_cases hlt : k < n2
    · obtain ⟨b, o, rfl, hb, hcc⟩ := HR2.out (by rw [HN.out]; omega)
      obtain ⟨A', c', r1, r2, r3, _⟩ := hcc k (by rw [HN.out]; exact hlt)
      have hkl : k < rows.length := by rw [HN.out]; exact hlt
      have HG : Hid (rows.getD k [] = rows[k]) := Lib.hid (by simp [List.getD, hkl])
      have HS : Hid ((rows.take (k + 1)).any (fun r => decide (50 < r.length)) = ((rows.take k).any (fun r => decide (50 < r.length)) || decide (50 < (rows.getD k []).length))) := Lib.hid (by
        rw [List.take_succ_eq_append_getElem hkl, List.any_append, HG.out]
        simp)
      have HM : Hid (decide (50 < (rows.getD k []).length) = true → rows.any (fun r => decide (50 < r.length)) = true) := Lib.hid (fun h => by
        rw [List.any_eq_true]
        exact ⟨rows[k], List.getElem_mem hkl, by rw [← HG.out]; exact h⟩)
      unfold maxLen at r3
      generalize (rows.getD k []).length = m at r1 r2 HS HM
      clear hcc HG hkl
      by_cases hm : 50 < m
      · have hm2 : (50 : Int) < (m : Int) := by omega
        have HE : Hid (rows.any (fun r => decide (50 < r.length)) = true) := Lib.hid (HM.out (by simpa using hm))
        clear HS HM hm
        go_wp2
        go_ret
        exact ⟨ret_bool HE.out.symm, HB.out⟩
      · have hm2 : (m : Int) ≤ 50 := by omega
        have HT2 : Hid ((rows.take (k + 1)).any (fun r => decide (50 < r.length)) = false) := Lib.hid (by rw [HS.out, HT.out]; simpa using hm)
        clear HS HM hm
        go_wp2
        go_round
        case rel => exact ⟨k + 1, by omega, by go_num, HT2⟩
        case measure => simp [intOf]; omega
    · obtain rfl : n2 = k := by omega
      have HE : Hid (rows.any (fun r => decide (50 < r.length)) = false) := Lib.hid (by have := HT.out; rwa [List.take_of_length_le (by rw [HN.out]; omega)] at this)
      clear hlt
      go_wp2
      go_ret
      exact ⟨ret_bool HE.out.symm, HB.out⟩
theorem heavy_any {w : World} {v : Value} {G : Gr} (hv : GV w v G) : Calls Try.prog 15 #[v] w fun e w' => e = .returned (.bool (heavyB G)) ∧ Below w.heap.size w w' := by
  obtain ⟨A1, c1, A2, c2, A3, c3, rfl, ⟨a1, b1, d1⟩, ⟨a2, b2, d2⟩, ⟨a3, b3, d3⟩⟩ := hv
  by_cases h2 : 200 < G.rows.length
  · have HE : Hid (heavyB G = true) := Lib.hid (by unfold heavyB; simp [h2])
    rw [HE.out]
    generalize G.rows.length = n2 at *
    generalize G.init.length = n1 at *
    generalize G.labels.length = n3 at *
    unfold maxLen at b2
    clear d1 d2 d3
    go_enter Try.func15, Try.ntmps15
    go_wp2
    go_ret
    exact ⟨rfl, (Below.refl _ w).alloc (Nat.le_refl _) _⟩
  by_cases h1 : 200 < G.init.length
  · have HE : Hid (heavyB G = true) := Lib.hid (by unfold heavyB; simp [h1])
    rw [HE.out]
    have h2' : G.rows.length ≤ 200 := by omega
    generalize G.rows.length = n2 at *
    generalize G.init.length = n1 at *
    generalize G.labels.length = n3 at *
    unfold maxLen at b1
    clear d1 d2 d3 h2
    go_enter Try.func15, Try.ntmps15
    go_wp2
    go_ret
    exact ⟨rfl, (Below.refl _ w).alloc (Nat.le_refl _) _⟩
  by_cases h3 : 400 < G.labels.length
  · have HE : Hid (heavyB G = true) := Lib.hid (by unfold heavyB; simp [h3])
    rw [HE.out]
    have h2' : G.rows.length ≤ 200 := by omega
    have h1' : G.init.length ≤ 200 := by omega
    generalize G.rows.length = n2 at *
    generalize G.init.length = n1 at *
    generalize G.labels.length = n3 at *
    unfold maxLen at b3
    clear d1 d2 d3 h2 h1
    go_enter Try.func15, Try.ntmps15
    go_wp2
    go_ret
    exact ⟨rfl, (Below.refl _ w).alloc (Nat.le_refl _) _⟩
  · have e : heavyB G = G.rows.any (fun r => decide (50 < r.length)) := by
      unfold heavyB
      rw [decide_eq_false h1, decide_eq_false h2, decide_eq_false h3]
      rfl
    rw [e]
    exact heavy_loop A1 A2 A3 c1 c2 c3 _ _ G.rows w (by omega) (by omega) (by omega) d2
end Go.Proofs.Ytnfiohekdbjgoaa
