/- The law SccJoins: what it comes to, without the program; how far a graph goes. -/
import Derived.Test.YtnfiohekdbjgoaaSccWorks
import Derived.Maps.OwnOps
import Derived.Maps.OwnSet
import Derived.Maps.Views
namespace Go.Proofs.Ytnfiohekdbjgoaa.sc
open Go.ChangeShapes Go.WideShapes Go.ChangeAt Go.RowKit

/-- The place of a node's part among the parts. -/
def plF (L : List Int) (x : Nat) : Nat := (stF (lstF L) (lstF L x)).length
theorem pl_at {n : Nat} {e : Nat → Nat → Prop} {L : List Int} (h : OfL n e L) {x : Nat} (hx : x < n) : plF L x < (stF (lstF L) n).length ∧ (stF (lstF L) n).getD (plF L x) 0 = lstF L x := by
  obtain ⟨_, h1, h2, _⟩ := h.lst hx
  exact stF_at h2 (by omega)
theorem pl_of {L : List Int} {n x j : Nat} (hj : j < (stF (lstF L) n).length) (h : lstF L x = (stF (lstF L) n).getD j 0) : plF L x = j := by
  unfold plF
  rw [h]
  exact stF_back hj
theorem pl_lst {n : Nat} {e : Nat → Nat → Prop} {L : List Int} (h : OfL n e L) {x y : Nat} (hx : x < n) (hy : y < n) (he : plF L x = plF L y) : lstF L x = lstF L y := by
  rw [← (pl_at h hx).2, ← (pl_at h hy).2, he]
theorem memF_low {lst : Nat → Nat} (h : ∀ i, lst i ≤ i) {k s : Nat} (hk : k ≤ s) : memF lst k s = [] := by
  unfold memF
  rw [List.map_eq_nil_iff, List.filter_eq_nil_iff]
  intro i hi
  have := List.mem_range.1 hi
  have := h i
  simp; omega
theorem memF_head {lst : Nat → Nat} (h : ∀ i, lst i ≤ i) {s : Nat} (hs : lst s = s) : ∀ {k : Nat}, s < k → ∃ t, memF lst k s = (s : Int) :: t
  | 0, hk => absurd hk (Nat.not_lt_zero _)
  | k + 1, hk => by
    rw [memF_succ]
    by_cases e : s = k
    · subst e
      rw [memF_low h (Nat.le_refl _), if_pos hs]
      exact ⟨[], rfl⟩
    · obtain ⟨t, ht⟩ := memF_head h hs (k := k) (by omega)
      rw [ht]
      exact ⟨_, rfl⟩
theorem memF_nodup (lst : Nat → Nat) (k s : Nat) : (memF lst k s).Nodup := by
  unfold memF
  exact List.Pairwise.map _ (fun a b hab e => hab (Int.ofNat.inj e)) (List.Pairwise.filter _ List.nodup_range)
theorem nodup_take {l : List Int} (h : l.Nodup) {j : Nat} (hj : j < l.length) : l[j] ∉ l.take j := by
  have h1 : (l.take (j + 1)).Nodup := h.sublist (List.take_sublist _ _)
  rw [List.take_succ_eq_append_getElem hj, List.nodup_append] at h1
  exact fun hm => h1.2.2 _ hm _ (List.mem_singleton.2 rfl) rfl

/-- The nodes met: those of the first k parts, and the first j of the next one. -/
def MetK (n : Nat) (L : List Int) (k j : Nat) (ks : List Nat) : Prop := ks.Nodup ∧ ∀ x, x ∈ ks ↔ x < n ∧ (plF L x < k ∨ plF L x = k ∧ (x : Int) ∈ (memF (lstF L) n ((stF (lstF L) n).getD k 0)).take j)
theorem MetK.none_ (n : Nat) (L : List Int) : MetK n L 0 0 [] := ⟨List.nodup_nil, fun x => by simp⟩
theorem MetK.next {n : Nat} {e : Nat → Nat → Prop} {L : List Int} (h : OfL n e L) {k : Nat} {ks : List Nat} {j : Nat} (hj : j = (memF (lstF L) n ((stF (lstF L) n).getD k 0)).length) (hm : MetK n L k j ks) : MetK n L (k + 1) 0 ks := by
  refine ⟨hm.1, fun x => ?_⟩
  rw [hm.2 x, List.take_of_length_le (by omega)]
  constructor
  · rintro ⟨hx, h1 | ⟨h1, _⟩⟩
    · exact ⟨hx, .inl (by omega)⟩
    · exact ⟨hx, .inl (by omega)⟩
  · rintro ⟨hx, h1 | ⟨_, h2⟩⟩
    · refine ⟨hx, ?_⟩
      by_cases e : plF L x < k
      · exact .inl e
      · have e2 : plF L x = k := by omega
        refine .inr ⟨e2, memF_mem.2 ⟨x, rfl, hx, ?_⟩⟩
        rw [← e2, (pl_at h hx).2]
    · simp at h2
/-- What is known of the j-th node of part k. -/
theorem node_at {n : Nat} {rows : List (List (Int × Int))} {L : List Int} (h : OfL n (eR n rows) L) {k j : Nat} {ks : List Nat} (hk : k < (stF (lstF L) n).length) (hm : MetK n L k j ks) (hj : j < (memF (lstF L) n ((stF (lstF L) n).getD k 0)).length) :
    ∃ x : Nat, (memF (lstF L) n ((stF (lstF L) n).getD k 0)).getD j 0 = (x : Int) ∧ x < n ∧ x ∉ ks ∧ plF L x = k ∧ L.getD x 0 = (memF (lstF L) n ((stF (lstF L) n).getD k 0)).getD 0 0 ∧ MetK n L k (j + 1) (ks ++ [x]) ∧ (CyP n rows (memF (lstF L) n ((stF (lstF L) n).getD k 0)) ↔ Wp (eR n rows) x x) := by
  obtain ⟨s, hs⟩ : ∃ s, (stF (lstF L) n).getD k 0 = s := ⟨_, rfl⟩
  have hsm : s ∈ stF (lstF L) n := by rw [← hs, show (stF (lstF L) n).getD k 0 = (stF (lstF L) n)[k] by simp [List.getD, hk]]; exact List.getElem_mem hk
  obtain ⟨hs1, hs2⟩ := stF_lt hsm
  have hg : (memF (lstF L) n s).getD j 0 = (memF (lstF L) n s)[j]'(by rw [← hs]; exact hj) := by simp [List.getD, show j < (memF (lstF L) n s).length by rw [← hs]; exact hj]
  have hmem : (memF (lstF L) n s).getD j 0 ∈ memF (lstF L) n s := by rw [hg]; exact List.getElem_mem _
  obtain ⟨x, hx1, hx2, hx3⟩ := memF_mem.1 hmem
  have hpl : plF L x = k := pl_of hk (by rw [hs]; exact hx3)
  have htk : (x : Int) ∉ (memF (lstF L) n s).take j := by rw [← hx1, hg]; exact nodup_take (memF_nodup _ _ _) _
  have hnk : x ∉ ks := fun hc => by
    rcases ((hm.2 x).1 hc).2 with h1 | ⟨_, h1⟩
    · omega
    · rw [hs] at h1; exact htk h1
  obtain ⟨t, ht⟩ := memF_head (lstF_le h) hs2 hs1
  obtain ⟨hl1, _, _, _⟩ := h.lst hx2
  rw [hs] at hj ⊢
  refine ⟨x, hx1, hx2, hnk, hpl, ?_, ⟨?_, fun y => ?_⟩, ?_⟩
  · rw [hl1, hx3, ht]; rfl
  · rw [List.nodup_append]
    exact ⟨hm.1, by simp, fun a ha b hb e => hnk (by rw [List.mem_singleton] at hb; rw [← hb, ← e]; exact ha)⟩
  · rw [List.mem_append, List.mem_singleton, hm.2 y, hs, List.take_succ_eq_append_getElem hj, List.mem_append, List.mem_singleton, ← hg, hx1]
    constructor
    · rintro (⟨h1, h2 | ⟨h2, h3⟩⟩ | rfl)
      · exact ⟨h1, .inl h2⟩
      · exact ⟨h1, .inr ⟨h2, .inl h3⟩⟩
      · exact ⟨hx2, .inr ⟨hpl, .inr rfl⟩⟩
    · rintro ⟨h1, h2 | ⟨h2, h3 | h3⟩⟩
      · exact .inl ⟨h1, .inl h2⟩
      · exact .inl ⟨h1, .inr ⟨h2, h3⟩⟩
      · exact .inr (by omega)
  · have := part_live h hx2
    rw [hx3] at this
    exact this
theorem MetK.all {n : Nat} {e : Nat → Nat → Prop} {L : List Int} (h : OfL n e L) {ks : List Nat} (hm : MetK n L (stF (lstF L) n).length 0 ks) : (∀ x, x < n → x ∈ ks) ∧ ks.length = n := by
  have ha : ∀ x, x < n → x ∈ ks := fun x hx => (hm.2 x).2 ⟨hx, .inl (pl_at h hx).1⟩
  exact ⟨ha, full_length hm.1 (fun x hx => ((hm.2 x).1 hx).1) ha⟩

/-- The rows of the graph of the parts, so far: each edge comes from an edge of the graph that leads to another part. -/
def ConO (n : Nat) (rows : List (List (Int × Int))) (L : List Int) (tb : Nat → List (Int × Int)) : Prop := ∀ a, ∀ z ∈ tb a, ∃ x y, x < n ∧ y < n ∧ eR n rows x y ∧ plF L x = a ∧ z.1 = (plF L y : Int) ∧ plF L x ≠ plF L y
theorem ConO.none_ (n : Nat) (rows : List (List (Int × Int))) (L : List Int) : ConO n rows L (fun _ => []) := fun a z hz => by simp at hz
theorem ConO.one {n : Nat} {rows : List (List (Int × Int))} {L : List Int} {tb : Nat → List (Int × Int)} (h : ConO n rows L tb) {x y : Nat} (hx : x < n) (hy : y < n) (he : eR n rows x y) (hne : plF L x ≠ plF L y) : ConO n rows L (fun j => if j = plF L x then tb (plF L x) ++ [((plF L y : Int), 0)] else tb j) := fun a z hz => by
  by_cases e : a = plF L x
  · subst e
    simp only [if_true, List.mem_append, List.mem_singleton] at hz
    rcases hz with hz | rfl
    · exact h _ z hz
    · exact ⟨x, y, hx, hy, he, rfl, rfl, hne⟩
  · simp only [if_neg e] at hz
    exact h _ z hz
theorem con_none {n : Nat} {rows : List (List (Int × Int))} {L : List Int} (h : OfL n (eR n rows) L) {tb : Nat → List (Int × Int)} (hc : ConO n rows L tb) {c : Nat} (p : Nat) : ¬ Wp (eR c ((List.range c).map tb)) p p := by
  have hedge : ∀ {a b : Nat}, eR c ((List.range c).map tb) a b → ∃ x y, x < n ∧ y < n ∧ eR n rows x y ∧ plF L x = a ∧ plF L y = b ∧ a ≠ b := fun {a b} he => by
    obtain ⟨hb, z, hz, e⟩ := eR_mem.1 he
    have ha : a < c := by
      refine Decidable.byContradiction fun hn => ?_
      rw [show ((List.range c).map tb).getD a [] = [] by simp [List.getD, hn]] at hz
      simp at hz
    rw [show ((List.range c).map tb).getD a [] = tb a by simp [List.getD, ha]] at hz
    obtain ⟨x, y, h1, h2, h3, h4, h5, h6⟩ := hc a z hz
    exact ⟨x, y, h1, h2, h3, h4, by omega, by omega⟩
  have hin : ∀ {x y : Nat}, x < n → y < n → plF L x = plF L y → Wy (eR n rows) x y := fun {x y} hx hy e => ((lst_same h hx hy).1 (pl_lst h hx hy e)).1
  have hway : ∀ {a b : Nat}, Wy (eR c ((List.range c).map tb)) a b → ∀ x y, x < n → y < n → plF L x = a → plF L y = b → Wy (eR n rows) x y := fun {a b} hw => by
    induction hw with
    | here => exact fun x y hx hy e1 e2 => hin hx hy (by omega)
    | on he _ ih =>
      intro x y hx hy e1 e2
      obtain ⟨x', y', h1, h2, h3, h4, h5, _⟩ := hedge he
      exact (hin hx h1 (by omega)).trans ((Wy.one h3).trans (ih y' y h2 hy h5 e2))
  rintro ⟨q, he, hw⟩
  obtain ⟨x, y, h1, h2, h3, h4, h5, h6⟩ := hedge he
  have hb : Wy (eR n rows) y x := hway hw y x h2 h1 h5 h4
  have hl : lstF L x = lstF L y := (lst_same h h1 h2).2 ⟨Wy.one h3, hb⟩
  exact h6 (by rw [← h4, ← h5]; unfold plF; rw [hl])

/-- Whether a graph goes too far; if not, how far it goes. -/
def Far2P (w : World) (n : Nat) (rows : List (List (Int × Int))) (e : Ending) (w' : World) : Prop := ∃ b, e = .returned (.bool b) ∧ (b = false → n ≤ 60 ∧ sumF rows n ≤ 2000 ∧ ∀ i, (rows.getD i []).length ≤ 2000) ∧ Below w.heap.size w w'
set_option maxRecDepth 20000 in
set_option maxHeartbeats 4000000 in
theorem far2_any' (v1 v3 : Value) (A2 : Option Addr) (c2 n : Nat) (rows : List (List (Int × Int))) (w : World) (hn : n = rows.length) (hc2 : n ≤ c2) (hcm : c2 ≤ maxLen) (hrow : ∀ i, (rows.getD i []).length * 16 ≤ reachBytes) (hA : RA w A2 rows) :
    Calls Try.prog 34 #[.agg #[v1, .slice A2 n c2, v3]] w (Far2P w n rows) := by
  obtain ⟨w1, HW1⟩ : ∃ w1, Hid (w1 = w.alloc (.cells #[v1, .slice A2 n c2, v3] 26)) := ⟨_, Lib.hid rfl⟩
  have HB1 : Hid (Below w.heap.size w w1) := Lib.hid (by rw [HW1.out]; exact (Below.refl _ _).alloc (Nat.le_refl _) _)
  obtain ⟨q0, q1, q2⟩ := box3 w v1 (.slice A2 n c2) v3 26
  rw [← HW1.out] at q0 q1 q2
  have HA := Lib.hid (RA.below hA HB1.out)
  have HN := Lib.hid hn
  have hrb := reachBytes_lt
  have HROW : Hid (∀ i, (rows.getD i []).length ≤ 8796093022208) := Lib.hid (fun i => by have := hrow i; omega)
  unfold maxLen at hcm
  clear hn hrow hA q0 q2 hrb
  by_cases h60 : 60 < n
  · go_enter Try.func34, Try.ntmps34
    go_upto_region 1 with (fail)
    rw [← HW1.out]
    go_wp2_with fail
    go_loop [3, 12] (fun s i => ∃ (k : Nat) (x : Int), k ≤ n ∧ i = .int .i64 k ∧ s = .int .i64 x) (fun _ i => n - (intOf i).toNat)
    case atStart => exact ⟨0, _, by omega, rfl, rfl⟩
    case round =>
      obtain ⟨k, x, hk, rfl, rfl⟩ := hrel
      by_cases hlt : k < n
      · obtain ⟨b, o, rfl, hb, hcc⟩ := HA.out (by rw [← HN.out]; omega)
        obtain ⟨A', c', hcell, _, _, _⟩ := hcc k (by rw [← HN.out]; exact hlt)
        generalize (rows.getD k []).length = len at hcell
        clear hcc
        go_wp2
        go_round
        case rel => exact ⟨k + 1, _, by omega, by go_num, rfl⟩
        case measure => simp [intOf]; omega
      · obtain rfl : n = k := by omega
        have h60' : (60 : Int) < (n : Int) := by omega
        go_wp2
        go_ret
        exact ⟨true, rfl, fun h => Bool.noConfusion h, HB1.out⟩
  · go_enter Try.func34, Try.ntmps34
    go_upto_region 1 with (fail)
    rw [← HW1.out]
    go_wp2_with fail
    go_loop [3, 12] (fun s i => ∃ k : Nat, k ≤ n ∧ i = .int .i64 k ∧ s = .int .i64 ((n + sumF rows k : Nat) : Int)) (fun _ i => n - (intOf i).toNat)
    case atStart => exact ⟨0, by omega, rfl, rfl⟩
    case round =>
      obtain ⟨k, hk, rfl, rfl⟩ := hrel
      have hsm := sum_most HROW.out k
      have hsm2 : k * 8796093022208 ≤ 60 * 8796093022208 := Nat.mul_le_mul_right _ (by omega)
      obtain ⟨x, HX⟩ : ∃ x, Hid (n + sumF rows k = x) := ⟨_, Lib.hid rfl⟩
      have hx : x ≤ 60 + 60 * 8796093022208 := by have := HX.out; omega
      rw [HX.out]
      clear hsm hsm2
      by_cases hlt : k < n
      · obtain ⟨b, o, rfl, hb, hcc⟩ := HA.out (by rw [← HN.out]; omega)
        obtain ⟨A', c', hcell, _, _, _⟩ := hcc k (by rw [← HN.out]; exact hlt)
        have hrl := HROW.out k
        have HS : Hid (n + sumF rows (k + 1) = x + (rows.getD k []).length) := Lib.hid (by rw [← HX.out]; show n + (sumF rows k + _) = _; omega)
        generalize (rows.getD k []).length = len at hcell hrl HS
        clear hcc
        go_wp2
        go_round
        case rel => exact ⟨k + 1, by omega, by go_num, by rw [HS.out]; go_num⟩
        case measure => simp [intOf]; omega
      · obtain rfl : n = k := by omega
        have HQ : Hid (x ≤ 2000 → n ≤ 60 ∧ sumF rows n ≤ 2000 ∧ ∀ i, (rows.getD i []).length ≤ 2000) := Lib.hid (fun h => ⟨by omega, by have := HX.out; omega, fun i => by
          by_cases hi : i < n
          · have := sum_row (rows := rows) (k := n) hi
            have := HX.out
            omega
          · have : rows.getD i [] = [] := by simp [List.getD, List.getElem?_eq_none (show rows.length ≤ i by have := HN.out; omega)]
            rw [this]; simp⟩)
        by_cases hx2 : x ≤ 2000
        · have h1 : ¬ (2000 : Int) < (x : Int) := by omega
          have h2 : ¬ (60 : Int) < (n : Int) := by omega
          have HY := Lib.hid (HQ.out hx2)
          go_wp2
          go_ret
          exact ⟨false, rfl, fun _ => HY.out, HB1.out⟩
        · have h1 : (2000 : Int) < (x : Int) := by omega
          have h2 : ¬ (60 : Int) < (n : Int) := by omega
          clear HQ
          go_wp2
          go_ret
          exact ⟨true, rfl, fun h => Bool.noConfusion h, HB1.out⟩
theorem far2_any {w : World} {v : Value} {G : Gr} (hv : GV w v G) (hrow : ∀ i, (G.rows.getD i []).length * 16 ≤ reachBytes) : Calls Try.prog 34 #[v] w (Far2P w G.rows.length G.rows) := by
  obtain ⟨A1, c1, A2, c2, A3, c3, rfl, _, ⟨a2, b2, d2⟩, _⟩ := hv
  exact far2_any' _ _ A2 c2 _ G.rows w rfl a2 b2 hrow d2

/-! A map from nodes to places that the call itself makes. -/
section
open Go.Maps
theorem int_law : Keyed Try.prog 3 := int_keyed Try.underlying3
theorem zeroI (w : World) : (zeroValue 3).run Try.prog w = .ok (.int .i64 0) w := by kernel_rfl
/-- Block b is a map that has the nodes ks, each at its place f. -/
def IM (w : World) (b : Nat) (ks : List Nat) (f : Nat → Nat) : Prop :=
  ∃ D : DataW Unit, w.ownsMap Try.prog 3 (plainElem Try.prog 3) b ks.length D ∧ (∀ x : Nat, D.atKey (.int .i64 (x : Int)) (.lit (.int .i64 0)) = .lit (.int .i64 (if x ∈ ks then (f x : Int) else 0))) ∧ (∀ x : Nat, has D (.int .i64 (x : Int)) = decide (x ∈ ks)) ∧ size D = ks.length
theorem IM.made (w : World) (f : Nat → Nat) : IM (w.alloc (.map #[] 0)) w.heap.size [] f := ⟨.map [], World.ownsMap_made _ _ _ _, fun _ => rfl, fun _ => rfl, rfl⟩
theorem wf_nat {x : Nat} (h : x ≤ 1000000) : (Lit.int .i64 (x : Int)).wf = true := by
  rw [Lit.wf]; simp [IntKind.min, IntKind.max, IntKind.signed, IntKind.bits]; omega
theorem key_nat {x : Nat} (h : x ≤ 1000000) : keyOf Try.prog 3 (.int .i64 (x : Int)) = some (.int .i64 (x : Int)) := by
  exact keyOf_int_mk Try.underlying3 (wf_nat h)
set_option maxRecDepth 100000 in
theorem IM.look {w : World} {b x : Nat} {ks : List Nat} {f : Nat → Nat} (h : IM w b ks f) (hx : x ≤ 1000000) : (Instr.lookup 52 (.map (some b)) (.int .i64 (x : Int)) false).run Try.prog w = .ok (.int .i64 (if x ∈ ks then (f x : Int) else 0)) w := by
  obtain ⟨D, ho, h1, _, _⟩ := h
  obtain ⟨c, hrun, hat, _⟩ := ho.lookup_int int_law Try.underlying52 Try.underlying3 (zeroI w) (key_nat hx)
  rw [h1 x] at hat
  rw [hrun]
  injection hat with hat
  injection hat with _ hat
  rw [hat]
set_option maxRecDepth 100000 in
theorem IM.look_ok {w : World} {b x : Nat} {ks : List Nat} {f : Nat → Nat} (h : IM w b ks f) (hx : x ≤ 1000000) : (Instr.lookup 52 (.map (some b)) (.int .i64 (x : Int)) true).run Try.prog w = .ok (.tuple #[.int .i64 (if x ∈ ks then (f x : Int) else 0), .bool (decide (x ∈ ks))]) w := by
  obtain ⟨D, ho, h1, h2, _⟩ := h
  obtain ⟨v, ps, hrun, hv⟩ := ho.look_ok int_law Try.underlying52 (zeroI w) (plainElem_int Try.underlying3 (by decide)) (key_nat hx)
  rw [h1 x] at hv
  obtain ⟨c, rfl, hc, _⟩ := plainElem_int_inv Try.underlying3 hv
  simp only [Prod.mk.injEq] at hc
  have hc1 := hc.1
  injection hc1 with hc1
  injection hc1 with _ hc1
  rw [hrun, h2 x, hc1]
theorem IM.update {w : World} {b x v : Nat} {ks : List Nat} {f : Nat → Nat} (h : IM w b ks f) (hx : x ≤ 1000000) (hv : v ≤ 1000000) (hn : ks.length < maxLen) (hk : x ∉ ks) : ∃ w', (Instr.mapUpdate 52 (.map (some b)) (.int .i64 (x : Int)) (.int .i64 (v : Int))).run Try.prog w = .ok () w' ∧ IM w' b (ks ++ [x]) (fun y => if y = x then v else f y) ∧ Turn (fun q => q = b) w w' := by
  obtain ⟨D, ho, h1, h2, h3⟩ := h
  obtain ⟨w', hrun, ho', hg⟩ := ho.update int_law Try.underlying52 hn (key_nat hx) (plainElem_int Try.underlying3 (a := (v : Int)) (wf_nat hv))
  refine ⟨w', hrun, ⟨_, by simpa using ho', fun y => ?_, fun y => ?_, ?_⟩, ⟨hg.os, hg.tape, hg.output, hg.size, fun q hq hne => hg.block q hq (fun e => by injection e with e; exact hne e)⟩⟩
  · by_cases e : y = x
    · subst e
      rw [atKey_put_same ho.isMap (by first | exact ⟨_, rfl⟩ | simp [WideAt.IsKeyLit] | trivial)]
      simp
    · rw [atKey_put_other (by simp; omega), h1 y]
      simp [e]
  · by_cases e : y = x
    · subst e
      rw [has_put_same ho.isMap (by first | exact ⟨_, rfl⟩ | simp [WideAt.IsKeyLit] | trivial)]
      simp
    · rw [has_put_other (by simp; omega), h2 y]
      simp [e]
  · rw [size_put (ho.tidy int_law), h2 x, h3]
    simp [hk]
theorem IM.len {w : World} {b : Nat} {ks : List Nat} {f : Nat → Nat} (h : IM w b ks f) (ty : TypeId) : (Builtin.len_ #[52] ty #[.map (some b)]).run Try.prog w = .ok (.int .i64 (ks.length : Nat)) w := by
  obtain ⟨D, ho, _, _, h3⟩ := h
  rw [ho.len Try.underlying52 ty, h3]
theorem IM.lt {w : World} {b : Nat} {ks : List Nat} {f : Nat → Nat} (h : IM w b ks f) : b < w.heap.size := by
  obtain ⟨D, ho, _⟩ := h
  exact ho.lt
theorem IM.of_block {w w' : World} {b : Nat} {ks : List Nat} {f : Nat → Nat} (h : IM w b ks f) (hb : w'.heap[b]? = w.heap[b]?) : IM w' b ks f := by
  obtain ⟨D, ⟨es, clock, h1, h2⟩, r⟩ := h
  exact ⟨D, ⟨es, clock, hb.trans h1, h2⟩, r⟩
end
end Go.Proofs.Ytnfiohekdbjgoaa.sc
