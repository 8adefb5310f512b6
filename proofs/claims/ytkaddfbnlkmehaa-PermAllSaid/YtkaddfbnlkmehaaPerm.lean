/- Contracts of package perm: isCount, Check, Id, Mul, Move, Inv. -/
import Derived.Test.YtkaddfbnlkmehaaLaw
import Derived.Test.YtkaddfbnlkmehaaPermPure
import Derived.Deep.RegionWith
namespace Go.Proofs.Ytkaddfbnlkmehaa
open Go.ChangeShapes Go.WideShapes Go.ChangeAt Go.RowKit

theorem Try.info3 : (Try.prog.info? 3).map (fun i => (i.zero, i.size, i.bytes)) = some (some (.int .i64 0), 1, 8) := by kernel_rfl
theorem IA.at_ {w : World} {A : Option Addr} {l : List Int} (h : IA w A l) {i : Nat} (hi : i < l.length) : ∃ b off, A = some ⟨b, off, none⟩ ∧ b < w.heap.size ∧ w.cell? ⟨b, off + i, none⟩ = some (.int .i64 (l.getD i 0)) := by
  obtain ⟨b, off, e, hb, hc⟩ := h (by omega)
  exact ⟨b, off, e, hb, hc i hi⟩

theorem isCount_any (n : Int) (w : World) : Calls Try.prog 55 #[.int .i64 n] w fun e w' => e = .returned (.bool (decide (0 ≤ n ∧ n ≤ 8))) ∧ w = w' := by
  by_cases h1 : 0 ≤ n
  · by_cases h2 : n ≤ 8
    all_goals
      go_enter Try.func55, Try.ntmps55
      go_wp2
      go_ret
      exact ⟨ret_bool (by simp; try omega), rfl⟩
  · go_enter Try.func55, Try.ntmps55
    go_wp2
    go_ret
    exact ⟨ret_bool (by simp; try omega), rfl⟩

/-- Which numbers stood already. -/
def sn (l : List Int) (j : Nat) : Value := .bool (decide ((j : Int) ∈ l))

theorem stood_new (w : World) : (w.alloc (.cells #[.bool false, .bool false, .bool false, .bool false, .bool false, .bool false, .bool false, .bool false] 65)).rowIs w.heap.size 65 8 (sn []) :=
  World.rowIs_alloc w _ _ _ (fun i hi => by
    have hi : i < 8 := hi
    rcases i with _|_|_|_|_|_|_|_|i <;> first | rfl | omega)

set_option maxRecDepth 20000 in
set_option maxHeartbeats 1000000 in
theorem check_any (A : Option Addr) (c m : Nat) (p : List Int) (w : World) (hm : m = p.length) (hA : IA w A p) (hlm : p.length ≤ 1000000) :
    Calls Try.prog 25 #[.slice A m c] w fun e w' => e = .returned (.bool (chk p)) ∧ Below w.heap.size w w' := by
  have HM := Lib.hid hm
  have HA := Lib.hid hA
  have HLM : Hid (m ≤ 1000000) := Lib.hid (by omega)
  clear hm hA hlm
  by_cases h8 : m ≤ 8
  · go_enter Try.func25, Try.ntmps25
    go_wp2_with fail
    refine (isCount_any m w).mono ?_
    rintro e w' ⟨rfl, rfl⟩
    have hd : decide (0 ≤ (m : Int) ∧ (m : Int) ≤ 8) = true := by simp; omega
    rw [hd]
    clear hd
    go_wp2
    go_loopw [12] (fun i wr => ∃ k : Nat, k ≤ m ∧ i = .int .i64 k ∧ Hid ((p.take k).Nodup ∧ ∀ x ∈ p.take k, 0 ≤ x ∧ x < m) ∧ Hid (wr.rowIs w.heap.size 65 8 (sn (p.take k))) ∧ Hid (Below w.heap.size w wr)) (fun i _ => m - (intOf i).toNat)
    case atStart => exact ⟨0, by omega, rfl, Lib.hid ⟨by simp, by simp⟩, Lib.hid (stood_new w), Lib.hid ((Below.refl _ _).alloc (Nat.le_refl _) _)⟩
    case round =>
      obtain ⟨k, hk, rfl, HP, HR, HB⟩ := hrel
      by_cases hlt : k < m
      · obtain ⟨b, o, rfl, hb, hc⟩ := HA.out.at_ (i := k) (by rw [← HM.out]; exact hlt)
        have c1 : wr.cell? ⟨b, o + k, none⟩ = some (.int .i64 (p.getD k 0)) := (HB.out.cell (p := ⟨b, o + k, none⟩) hb).trans hc
        have HT : Hid (p.take (k + 1) = p.take k ++ [p.getD k 0]) := Lib.hid (take_next (by rw [← HM.out]; exact hlt))
        have HX : Hid (p.getD k 0 ∈ p) := Lib.hid (by
          have h := HM.out
          have e : p.getD k 0 = p[k]'(by omega) := by simp [List.getD, show k < p.length by omega]
          rw [e]; exact List.getElem_mem _)
        have HN : Hid (chk p = true → p.getD k 0 ∉ p.take k) := Lib.hid (fun h => nodup_at (chk_iff.1 h).nd (by rw [← HM.out]; exact hlt))
        clear hc
        generalize p.getD k 0 = x at c1 HT HX HN
        have HF : Hid (x < 0 ∨ (m : Int) ≤ x → false = chk p) := Lib.hid (fun h => by
          have hM := HM.out
          by_cases hc : chk p = true
          · have := (chk_iff.1 hc).rg x HX.out
            omega
          · simpa using hc)
        by_cases x0 : x < 0
        · go_wp2
          go_ret
          exact ⟨ret_bool (HF.out (.inl x0)), HB.out⟩
        · by_cases xm : (m : Int) ≤ x
          · go_wp2
            go_ret
            exact ⟨ret_bool (HF.out (.inr xm)), HB.out⟩
          · obtain ⟨j, rfl⟩ : ∃ j : Nat, x = (j : Int) := ⟨x.toNat, by omega⟩
            have hj : j < 8 := by omega
            have c2 := HR.out.cell hj
            have c3 := HR.out.frozen j
            by_cases hs : (j : Int) ∈ p.take k
            · have c2' : wr.cell? ⟨w.heap.size, j, none⟩ = some (.bool true) := by rw [c2, sn, decide_eq_true hs]
              have HE : Hid (false = chk p) := Lib.hid (by
                by_cases hc : chk p = true
                · exact absurd hs (HN.out hc)
                · simpa using hc)
              clear c2 HF
              go_wp2
              go_ret
              exact ⟨ret_bool HE.out, HB.out⟩
            · have c2' : wr.cell? ⟨w.heap.size, j, none⟩ = some (.bool false) := by rw [c2, sn, decide_eq_false hs]
              clear c2 HF HN
              have HS := Lib.hid hs
              clear hs
              go_wp2
              go_roundw
              case rel => exact ⟨k + 1, by omega, by go_num, Lib.hid ⟨by
                rw [HT.out]
                exact List.nodup_append.2 ⟨HP.out.1, by simp, fun a ha b hb e => HS.out (by rw [List.mem_singleton] at hb; subst hb; subst e; exact ha)⟩, fun x hx => by
                rw [HT.out, List.mem_append, List.mem_singleton] at hx
                rcases hx with hx | rfl
                · exact HP.out.2 x hx
                · omega⟩, Lib.hid ((HR.out.set j _).congr (fun i hi => by
                  rw [HT.out]
                  by_cases hij : i = j
                  · subst hij; simp [sn]
                  · simp only [if_neg hij, sn]
                    congr 1
                    simp
                    omega)), Lib.hid (HB.out.setCell (Nat.le_refl _) _)⟩
              case measure => simp [intOf]; omega
      · obtain rfl : k = m := by omega
        have HE : Hid (true = chk p) := Lib.hid (by
          have h := HP.out
          rw [List.take_of_length_le (by rw [HM.out]; exact Nat.le_refl _)] at h
          exact (chk_iff.2 ⟨by rw [← HM.out]; exact h8, h.1, fun x hx => by rw [← HM.out]; exact h.2 x hx⟩).symm)
        go_wp2
        go_ret
        exact ⟨ret_bool HE.out, HB.out⟩
  · have HE : Hid (false = chk p) := Lib.hid (by
      by_cases hc : chk p = true
      · have := (chk_iff.1 hc).len
        have := HM.out
        omega
      · simpa using hc)
    go_enter Try.func25, Try.ntmps25
    go_wp2_with fail
    refine (isCount_any m w).mono ?_
    rintro e w' ⟨rfl, rfl⟩
    have hd : decide (0 ≤ (m : Int) ∧ (m : Int) ≤ 8) = false := by simp; omega
    rw [hd]
    clear hd
    go_wp2
    go_ret
    exact ⟨ret_bool HE.out, Below.refl _ _⟩

/-- A slice of ints with its capacity. -/
structure InS (w : World) (A : Option Addr) (c : Nat) (l : List Int) : Prop where
  ia : IA w A l
  le : l.length ≤ c
  max : c ≤ maxLen
  non : A = none → c = 0
/-- What a call leaves that hands back a list. -/
def RowP (w : World) (L : List Int) (e : Ending) (w' : World) : Prop := ∃ A c, e = .returned (.slice A L.length c) ∧ InS w' A c L ∧ Below w.heap.size w w'
theorem RowP.nil {w w' : World} {L : List Int} (h : L = []) (hb : Below w.heap.size w w') : RowP w L (.returned (.slice none 0 0)) w' := by
  subst h
  exact ⟨none, 0, rfl, ⟨IA.nil _ _, Nat.le_refl _, Nat.zero_le _, fun _ => rfl⟩, hb⟩
theorem RowP.made {w w' : World} {L : List Int} {b m : Nat} {t : TypeId} {f : Nat → Value} (hm : m = L.length) (hl : m ≤ 1000000) (hr : w'.rowIs b t m f) (hf : ∀ i, i < m → f i = .int .i64 (L.getD i 0)) (hb : Below w.heap.size w w') :
    RowP w L (.returned (.slice (some ⟨b, 0, none⟩) m m)) w' := by
  subst hm
  refine ⟨_, _, rfl, ⟨fun _ => ⟨b, 0, rfl, hr.lt, fun i hi => ?_⟩, Nat.le_refl _, by unfold maxLen; omega, fun h => by cases h⟩, hb⟩
  have := hr.cell (i := i) hi
  rw [Nat.zero_add, this, hf i hi]

/-- The first k of L, then nothing. -/
def fst (L : List Int) (k j : Nat) : Value := .int .i64 (if j < k then L.getD j 0 else 0)
theorem fst_full {L : List Int} {m : Nat} (i : Nat) (hi : i < m) : fst L m i = .int .i64 (L.getD i 0) := by unfold fst; rw [if_pos hi]

set_option maxHeartbeats 1000000 in
theorem id_any (n : Int) (w : World) : Calls Try.prog 32 #[.int .i64 n] w (RowP w (idF n)) := by
  by_cases h8 : 0 ≤ n ∧ n ≤ 8
  · obtain ⟨m, rfl⟩ : ∃ m : Nat, n = (m : Int) := ⟨n.toNat, by omega⟩
    have hm8 : m ≤ 8 := by omega
    have hmk := Lib.hid (fun W => run_make_row' (P := Try.prog) 22 3 (.int .i64 0) 8 Try.underlying22 Try.info3 rfl .i64 .i64 m (by omega) (by omega) W)
    have HE : Hid (idF m = ups m) := Lib.hid (by unfold idF; rw [if_pos h8]; simp)
    have hd : decide (0 ≤ (m : Int) ∧ (m : Int) ≤ 8) = true := by simp; omega
    have HD := Lib.hid hd
    clear hd h8
    go_enter Try.func32, Try.ntmps32
    go_wp2_with fail
    refine (isCount_any m w).mono ?_
    rintro e w' ⟨rfl, rfl⟩
    rw [HD.out]
    have hmk := hmk.out
    go_wp2
    clear hmk
    go_loopw [12] (fun i wr => ∃ k : Nat, k ≤ m ∧ i = .int .i64 k ∧ Hid (wr.rowIs w.heap.size 3 m (fst (ups m) k)) ∧ Hid (Below w.heap.size w wr)) (fun i _ => m - (intOf i).toNat)
    case atStart => exact ⟨0, by omega, rfl, Lib.hid ((World.rowIs_made w _ _ _).congr (fun i hi => by simp [fst])), Lib.hid ((Below.refl _ _).alloc (Nat.le_refl _) _)⟩
    case round =>
      obtain ⟨k, hk, rfl, HR, HB⟩ := hrel
      by_cases hlt : k < m
      · obtain ⟨u, d1⟩ : ∃ u, wr.cell? ⟨w.heap.size, k, none⟩ = some u := ⟨_, HR.out.cell hlt⟩
        have d2 := HR.out.frozen k
        go_wp2
        go_roundw
        case rel => exact ⟨k + 1, by omega, by go_num, Lib.hid ((HR.out.set k _).congr (fun j hj => by
          by_cases hjk : j = k
          · subst hjk; simp only [if_pos, fst]; rw [if_pos (by omega), ups_getD hj]
          · simp only [if_neg hjk, fst]
            congr 1
            by_cases h2 : j < k
            · rw [if_pos h2, if_pos (by omega)]
            · rw [if_neg h2, if_neg (by omega)])), Lib.hid (HB.out.setCell (Nat.le_refl _) _)⟩
        case measure => simp [intOf]; omega
      · obtain rfl : k = m := by omega
        go_wp2
        go_ret
        exact RowP.made (by rw [HE.out, ups_length]) (by omega) HR.out (fun i hi => by rw [HE.out]; exact fst_full i hi) HB.out
  · have HE : Hid (idF n = []) := Lib.hid (by unfold idF; rw [if_neg h8])
    have hd : decide (0 ≤ n ∧ n ≤ 8) = false := decide_eq_false h8
    have HD := Lib.hid hd
    clear hd h8
    go_enter Try.func32, Try.ntmps32
    go_wp2_with fail
    refine (isCount_any n w).mono ?_
    rintro e w' ⟨rfl, rfl⟩
    rw [HD.out]
    go_wp2
    go_ret
    exact RowP.nil HE.out (Below.refl _ _)

theorem fst_step {L : List Int} {k m : Nat} {x : Int} {w : World} {b : Nat} {t : TypeId} (hr : w.rowIs b t m (fst L k)) (hx : x = L.getD k 0) : (w.setCell ⟨b, k, none⟩ (.int .i64 x)).rowIs b t m (fst L (k + 1)) :=
  (hr.set k _).congr (fun j hj => by
    by_cases hjk : j = k
    · subst hjk; simp only [if_pos, fst]; rw [if_pos (by omega), hx]
    · simp only [if_neg hjk, fst]
      congr 1
      by_cases h2 : j < k
      · rw [if_pos h2, if_pos (by omega)]
      · rw [if_neg h2, if_neg (by omega)])

set_option maxHeartbeats 2000000 in
theorem mul_any (A B : Option Addr) (c d m n : Nat) (a b : List Int) (w : World) (hm : m = a.length) (hn : n = b.length) (hA : IA w A a) (hB : IA w B b) (ha : a.length ≤ 1000000) (hb : b.length ≤ 1000000) :
    Calls Try.prog 34 #[.slice A m c, .slice B n d] w (RowP w (mulF a b)) := by
  have HM := Lib.hid hm
  have HN := Lib.hid hn
  have HA := Lib.hid hA
  have HB := Lib.hid hB
  have hla : m ≤ 1000000 := by omega
  have hlb : n ≤ 1000000 := by omega
  have HLA := Lib.hid ha
  have HLB := Lib.hid hb
  clear hm hn hA hB ha hb
  by_cases hl : m = n
  · subst hl
    go_enter Try.func34, Try.ntmps34
    go_wp2_with fail
    refine (check_any A c m a w HM.out HA.out HLA.out).mono ?_
    rintro e w1 ⟨rfl, hb1⟩
    have HB1 := Lib.hid hb1
    clear hb1
    cases hca : chk a with
    | false =>
      have HE : Hid (mulF a b = []) := Lib.hid (by unfold mulF; rw [if_neg (by rw [hca]; simp)])
      clear hca
      go_wp2
      go_ret
      exact RowP.nil HE.out HB1.out
    | true =>
      have HCA := Lib.hid hca
      clear hca
      go_wp2_with fail
      refine (check_any B d m b w1 HN.out (HB.out.below HB1.out) HLB.out).mono ?_
      rintro e w2 ⟨rfl, hb2⟩
      have HB2 : Hid (Below w.heap.size w w2) := Lib.hid (HB1.out.trans (hb2.mono HB1.out.size))
      clear hb2
      cases hcb : chk b with
      | false =>
        have HE : Hid (mulF a b = []) := Lib.hid (by unfold mulF; rw [if_neg (by rw [hcb]; simp)])
        clear hcb
        go_wp2
        go_ret
        exact RowP.nil HE.out HB2.out
      | true =>
        have HE : Hid (mulF a b = mulL a b) := Lib.hid (by unfold mulF; rw [if_pos ⟨by rw [← HM.out, HN.out], HCA.out, hcb⟩])
        have HPA := Lib.hid (chk_iff.1 HCA.out)
        have hm8 : m ≤ 8 := by have := HPA.out.len; have := HM.out; omega
        have hmk := run_make_row' (P := Try.prog) 22 3 (.int .i64 0) 8 Try.underlying22 Try.info3 rfl .i64 .i64 m (by omega) (by omega) w2
        have hz2 := HB2.out.size
        clear hcb
        go_wp2
        clear hmk
        go_loopw [28] (fun i wr => ∃ k : Nat, k ≤ m ∧ i = .int .i64 k ∧ Hid (wr.rowIs w2.heap.size 3 m (fst (mulL a b) k)) ∧ Hid (Below w.heap.size w wr)) (fun i _ => m - (intOf i).toNat)
        case atStart => exact ⟨0, by omega, rfl, Lib.hid ((World.rowIs_made w2 _ _ _).congr (fun i hi => by simp [fst])), Lib.hid (HB2.out.alloc hz2 _)⟩
        case round =>
          obtain ⟨k, hk, rfl, HR, HBR⟩ := hrel
          by_cases hlt : k < m
          · obtain ⟨bA, oA, rfl, hbA, hcA⟩ := HA.out.at_ (i := k) (by rw [← HM.out]; exact hlt)
            have c1 : wr.cell? ⟨bA, oA + k, none⟩ = some (.int .i64 (a.getD k 0)) := (HBR.out.cell (p := ⟨bA, oA + k, none⟩) hbA).trans hcA
            obtain ⟨j, HJ⟩ : ∃ j : Nat, Hid (a.getD k 0 = (j : Int) ∧ j < m) := ⟨(a.getD k 0).toNat, Lib.hid (by
              have h := HPA.out.at_ (i := k) (by rw [← HM.out]; exact hlt)
              rw [← HM.out] at h
              omega)⟩
            have hj := HJ.out.2
            rw [HJ.out.1] at c1
            obtain ⟨bB, oB, rfl, hbB, hcB⟩ := HB.out.at_ (i := j) (by rw [← HN.out]; exact hj)
            have c2 : wr.cell? ⟨bB, oB + j, none⟩ = some (.int .i64 (b.getD j 0)) := (HBR.out.cell (p := ⟨bB, oB + j, none⟩) hbB).trans hcB
            have HX : Hid (b.getD j 0 = (mulL a b).getD k 0) := Lib.hid (by rw [mulL_at (by rw [← HM.out]; exact hlt), HJ.out.1]; simp)
            generalize b.getD j 0 = y at c2 HX
            obtain ⟨u, d1⟩ : ∃ u, wr.cell? ⟨w2.heap.size, k, none⟩ = some u := ⟨_, HR.out.cell hlt⟩
            have d2 := HR.out.frozen k
            clear hcA hcB
            go_wp2
            go_roundw
            case rel => exact ⟨k + 1, by omega, by go_num, Lib.hid (fst_step HR.out HX.out), Lib.hid (HBR.out.setCell hz2 _)⟩
            case measure => simp [intOf]; omega
          · obtain rfl : k = m := by omega
            go_wp2
            go_ret
            exact RowP.made (by rw [HE.out, mulL_length]; exact HM.out) (by omega) HR.out (fun i hi => by rw [HE.out]; exact fst_full i hi) HBR.out
  · have HE : Hid (mulF a b = []) := Lib.hid (by unfold mulF; rw [if_neg (by rw [← HM.out, ← HN.out]; exact fun h => hl h.1)])
    go_enter Try.func34, Try.ntmps34
    go_wp2
    go_ret
    exact RowP.nil HE.out (Below.refl _ _)

/-- What is moved by the first k places. -/
def mvd (p l : List Int) (k j : Nat) : Value := .int .i64 (if p.idxOf (j : Int) < k then (moveL p l).getD j 0 else 0)

set_option maxHeartbeats 2000000 in
theorem move_any (A B : Option Addr) (c d m n : Nat) (p l : List Int) (w : World) (hm : m = p.length) (hn : n = l.length) (hA : IA w A p) (hB : IA w B l) (ha : p.length ≤ 1000000) (hb : l.length ≤ 1000000) :
    Calls Try.prog 36 #[.slice A m c, .slice B n d] w (RowP w (moveF p l)) := by
  have HM := Lib.hid hm
  have HN := Lib.hid hn
  have HA := Lib.hid hA
  have HB := Lib.hid hB
  have hla : m ≤ 1000000 := by omega
  have hlb : n ≤ 1000000 := by omega
  have HLA := Lib.hid ha
  have HLB := Lib.hid hb
  clear hm hn hA hB ha hb
  by_cases hl : m = n
  · subst hl
    go_enter Try.func36, Try.ntmps36
    go_wp2_with fail
    refine (check_any A c m p w HM.out HA.out HLA.out).mono ?_
    rintro e w2 ⟨rfl, hb2⟩
    have HB2 := Lib.hid hb2
    clear hb2
    cases hca : chk p with
    | false =>
      have HE : Hid (moveF p l = []) := Lib.hid (by unfold moveF; rw [if_neg (by rw [hca]; simp)])
      clear hca
      go_wp2
      go_ret
      exact RowP.nil HE.out HB2.out
    | true =>
      have HE : Hid (moveF p l = moveL p l) := Lib.hid (by unfold moveF; rw [if_pos ⟨by rw [← HM.out, HN.out], hca⟩])
      have HPA := Lib.hid (chk_iff.1 hca)
      have hm8 : m ≤ 8 := by have := HPA.out.len; have := HM.out; omega
      have hmk := run_make_row' (P := Try.prog) 22 3 (.int .i64 0) 8 Try.underlying22 Try.info3 rfl .i64 .i64 m (by omega) (by omega) w2
      have hz2 := HB2.out.size
      clear hca
      go_wp2
      clear hmk
      go_loopw [23] (fun i wr => ∃ k : Nat, k ≤ m ∧ i = .int .i64 k ∧ Hid (wr.rowIs w2.heap.size 3 m (mvd p l k)) ∧ Hid (Below w.heap.size w wr)) (fun i _ => m - (intOf i).toNat)
      case atStart => exact ⟨0, by omega, rfl, Lib.hid ((World.rowIs_made w2 _ _ _).congr (fun i hi => by simp [mvd])), Lib.hid (HB2.out.alloc hz2 _)⟩
      case round =>
        obtain ⟨k, hk, rfl, HR, HBR⟩ := hrel
        by_cases hlt : k < m
        · obtain ⟨bA, oA, rfl, hbA, hcA⟩ := HA.out.at_ (i := k) (by rw [← HM.out]; exact hlt)
          have c1 : wr.cell? ⟨bA, oA + k, none⟩ = some (.int .i64 (p.getD k 0)) := (HBR.out.cell (p := ⟨bA, oA + k, none⟩) hbA).trans hcA
          obtain ⟨j, HJ⟩ : ∃ j : Nat, Hid (p.getD k 0 = (j : Int) ∧ j < m) := ⟨(p.getD k 0).toNat, Lib.hid (by
            have h := HPA.out.at_ (i := k) (by rw [← HM.out]; exact hlt)
            rw [← HM.out] at h
            omega)⟩
          have hj := HJ.out.2
          rw [HJ.out.1] at c1
          obtain ⟨bB, oB, rfl, hbB, hcB⟩ := HB.out.at_ (i := k) (by rw [← HN.out]; exact hlt)
          have c2 : wr.cell? ⟨bB, oB + k, none⟩ = some (.int .i64 (l.getD k 0)) := (HBR.out.cell (p := ⟨bB, oB + k, none⟩) hbB).trans hcB
          have HI : Hid (p.idxOf (j : Int) = k) := Lib.hid (by rw [← HJ.out.1]; exact HPA.out.idx_at (by rw [← HM.out]; exact hlt))
          have HX : Hid (l.getD k 0 = (moveL p l).getD j 0) := Lib.hid (by rw [moveL_at (by rw [← HN.out]; exact hj), HI.out])
          generalize l.getD k 0 = y at c2 HX
          obtain ⟨u, d1⟩ : ∃ u, wr.cell? ⟨w2.heap.size, j, none⟩ = some u := ⟨_, HR.out.cell hj⟩
          have d2 := HR.out.frozen j
          clear hcA hcB
          go_wp2
          go_roundw
          case rel => exact ⟨k + 1, by omega, by go_num, Lib.hid ((HR.out.set j _).congr (fun i hi => by
            by_cases hij : i = j
            · subst hij; simp only [if_pos, mvd]; rw [if_pos (by rw [HI.out]; omega), HX.out]
            · simp only [if_neg hij, mvd]
              congr 1
              have h3 : p.idxOf (i : Int) ≠ k := fun e => by
                have h4 := idx_getD (HPA.out.mem (i := i) (by rw [← HM.out]; exact hi))
                rw [e, HJ.out.1] at h4
                omega
              by_cases h2 : p.idxOf (i : Int) < k
              · rw [if_pos h2, if_pos (by omega)]
              · rw [if_neg h2, if_neg (by omega)])), Lib.hid (HBR.out.setCell hz2 _)⟩
          case measure => simp [intOf]; omega
        · obtain rfl : k = m := by omega
          go_wp2
          go_ret
          exact RowP.made (by rw [HE.out, moveL_length]; exact HN.out) (by omega) HR.out (fun i hi => by
            rw [HE.out, mvd, if_pos]
            have := HPA.out.idx_lt (i := i) (by rw [← HM.out]; exact hi)
            rw [HM.out]; exact this) HBR.out
  · have HE : Hid (moveF p l = []) := Lib.hid (by unfold moveF; rw [if_neg (by rw [← HM.out, ← HN.out]; exact fun h => hl h.1)])
    go_enter Try.func36, Try.ntmps36
    go_wp2
    go_ret
    exact RowP.nil HE.out (Below.refl _ _)

theorem idF_length (n : Int) : (idF n).length ≤ 8 := by
  unfold idF
  split
  · rw [ups_length]; omega
  · simp
theorem inv_any (A : Option Addr) (c m : Nat) (p : List Int) (w : World) (hm : m = p.length) (hA : IA w A p) (ha : p.length ≤ 1000000) :
    Calls Try.prog 28 #[.slice A m c] w (RowP w (invF p)) := by
  have HM := Lib.hid hm
  have HA := Lib.hid hA
  have HLA := Lib.hid ha
  clear hm hA ha
  go_enter Try.func28, Try.ntmps28
  go_wp2_with fail
  refine (id_any m w).mono ?_
  rintro e w1 ⟨B, d, rfl, hI, hb1⟩
  have HI := Lib.hid hI.ia
  have HB1 := Lib.hid hb1
  clear hI hb1
  go_wp2_with fail
  refine (move_any A B c d m _ p (idF m) w1 HM.out rfl (HA.out.below HB1.out) HI.out HLA.out (by have := idF_length m; omega)).mono ?_
  rintro e w2 ⟨C, e', rfl, hI2, hb2⟩
  have HE : Hid (moveF p (idF m) = invF p) := Lib.hid (by rw [HM.out]; exact move_id)
  have HI2 := Lib.hid hI2
  have HB2 := Lib.hid (HB1.out.trans (hb2.mono HB1.out.size))
  clear hI2 hb2
  rw [HE.out] at *
  go_wp2
  go_ret
  exact ⟨C, e', rfl, HI2.out, HB2.out⟩
end Go.Proofs.Ytkaddfbnlkmehaa
