/- The document's place, Check, Id, Mul, Inv, Move, moves. -/
import Derived.Test.YtkaddfbnlkmehaaPermOwn
namespace Go.Proofs.Ytkaddfbnlkmehaa
open Go.ChangeShapes Go.WideShapes Go.ChangeAt Go.RowKit

theorem idx_first {p : List Int} {x : Int} {k : Nat} (hk : k < p.length) (h1 : p.getD k 0 = x) (h2 : x ∉ p.take k) : p.idxOf x = k := by
  have hx : x ∈ p := by
    have e : p.getD k 0 = p[k] := by simp [List.getD, hk]
    rw [← h1, e]; exact List.getElem_mem hk
  have e : p = p.take k ++ p.drop k := (List.take_append_drop k p).symm
  have e2 : p.drop k = p.getD k 0 :: p.drop (k + 1) := by rw [List.drop_eq_getElem_cons hk]; simp [List.getD, hk]
  rw [e, List.idxOf_append, if_neg h2, e2, h1, List.idxOf_cons_self, List.length_take]
  omega
theorem OI.full {base : Nat} {w : World} {v : Value} {L : List Int} {k : Nat} (h : OI base w v (L.take k)) (hk : k = L.length) : OI base w v L := by
  rwa [List.take_of_length_le (Nat.le_of_eq hk.symm)] at h
/-- Where a number stands; -1: nowhere. -/
def plc (p : List Int) (x : Int) : Int := if x ∈ p then (p.idxOf x : Nat) else -1

set_option maxHeartbeats 1000000 in
theorem place_any (A : Option Addr) (c m : Nat) (p : List Int) (x : Int) (w : World) (hm : m = p.length) (hA : IA w A p) (hlm : p.length ≤ 1000000) :
    Calls Try.prog 56 #[.slice A m c, .int .i64 x] w fun e w' => e = .returned (.int .i64 (plc p x)) ∧ w = w' := by
  have HM := Lib.hid hm
  have HA := Lib.hid hA
  have HLM : m ≤ 1000000 := by omega
  clear hm hA hlm
  go_enter Try.func56, Try.ntmps56
  go_wp2
  go_loopw [5] (fun i wr => ∃ k : Nat, k ≤ m ∧ i = .int .i64 k ∧ Hid (x ∉ p.take k) ∧ w = wr) (fun i _ => m - (intOf i).toNat)
  case atStart => exact ⟨0, by omega, rfl, Lib.hid (by simp), rfl⟩
  case round =>
    obtain ⟨k, hk, rfl, HX, rfl⟩ := hrel
    by_cases hlt : k < m
    · obtain ⟨b, o, rfl, hb, hc⟩ := HA.out.at_ (i := k) (by rw [← HM.out]; exact hlt)
      have HT : Hid (p.take (k + 1) = p.take k ++ [p.getD k 0]) := Lib.hid (take_next (by rw [← HM.out]; exact hlt))
      by_cases hx : p.getD k 0 = x
      · have HI : Hid (((k : Nat) : Int) = plc p x) := Lib.hid (by
          have h1 : k < p.length := by rw [← HM.out]; exact hlt
          unfold plc
          rw [if_pos, idx_first h1 hx HX.out]
          rw [← hx]
          have e : p.getD k 0 = p[k] := by simp [List.getD, h1]
          rw [e]; exact List.getElem_mem h1)
        rw [hx] at hc
        clear hx HT
        go_wp2
        go_ret
        exact ⟨ret_int HI.out, rfl⟩
      · have HX2 : Hid (x ∉ p.take (k + 1)) := Lib.hid (by
          rw [HT.out, List.mem_append, List.mem_singleton]
          rintro (h | h)
          · exact HX.out h
          · exact hx h.symm)
        generalize p.getD k 0 = y at hc hx
        clear HT
        go_wp2
        go_roundw
        case rel => exact ⟨k + 1, by omega, by go_num, HX2, by trivial⟩
        case measure => simp [intOf]; omega
    · obtain rfl : k = m := by omega
      have HI : Hid ((-1 : Int) = plc p x) := Lib.hid (by
        have h := HX.out
        rw [List.take_of_length_le (by rw [HM.out]; exact Nat.le_refl _)] at h
        unfold plc
        rw [if_neg h])
      go_wp2
      go_ret
      exact ⟨ret_int HI.out, rfl⟩

set_option maxHeartbeats 1000000 in
theorem refCheck_any (A : Option Addr) (c m : Nat) (p : List Int) (w : World) (hm : m = p.length) (hA : IA w A p) (hlm : p.length ≤ 1000000) :
    Calls Try.prog 26 #[.slice A m c] w fun e w' => e = .returned (.bool (chk p)) ∧ w = w' := by
  have HM := Lib.hid hm
  have HA := Lib.hid hA
  have HLM := Lib.hid hlm
  have hlm2 : m ≤ 1000000 := by omega
  clear hm hA hlm
  by_cases h8 : m ≤ 8
  · go_enter Try.func26, Try.ntmps26
    go_wp2
    go_loopw [3] (fun i wr => ∃ k : Nat, k ≤ m ∧ i = .int .i64 k ∧ Hid (∀ i : Nat, i < k → (i : Int) ∈ p) ∧ w = wr) (fun i _ => m - (intOf i).toNat)
    case atStart => exact ⟨0, by omega, rfl, Lib.hid (fun i hi => by omega), rfl⟩
    case round =>
      obtain ⟨k, hk, rfl, HX, rfl⟩ := hrel
      by_cases hlt : k < m
      · by_cases hx : (k : Int) ∈ p
        · have HX2 : Hid (∀ i : Nat, i < k + 1 → (i : Int) ∈ p) := Lib.hid (fun i hi => by
            by_cases e : i = k
            · subst e; exact hx
            · exact HX.out i (by omega))
          have HP : Hid (plc p k = (p.idxOf (k : Int) : Nat)) := Lib.hid (if_pos hx)
          clear hx
          go_wp2_with fail
          refine (place_any A c m p k w HM.out HA.out HLM.out).mono ?_
          rintro e w' ⟨rfl, rfl⟩
          rw [HP.out]
          generalize p.idxOf (k : Int) = q at *
          go_wp2
          go_roundw
          case rel => exact ⟨k + 1, by omega, by go_num, HX2, by trivial⟩
          case measure => simp [intOf]; omega
        · have HE : Hid (false = chk p) := Lib.hid (by
            by_cases hc : chk p = true
            · exact absurd ((chk_iff.1 hc).mem (by rw [← HM.out]; exact hlt)) hx
            · simpa using hc)
          have HP : Hid (plc p k = -1) := Lib.hid (if_neg hx)
          clear hx
          go_wp2_with fail
          refine (place_any A c m p k w HM.out HA.out HLM.out).mono ?_
          rintro e w' ⟨rfl, rfl⟩
          rw [HP.out]
          go_wp2
          go_ret
          exact ⟨ret_bool HE.out, rfl⟩
      · obtain rfl : k = m := by omega
        have HE : Hid (true = chk p) := Lib.hid (by
          unfold chk
          rw [decide_eq_true ⟨by rw [← HM.out]; exact h8, fun i hi => HX.out i (by rw [HM.out]; exact hi)⟩])
        go_wp2
        go_ret
        exact ⟨ret_bool HE.out, rfl⟩
  · have HE : Hid (false = chk p) := Lib.hid (by
      by_cases hc : chk p = true
      · have := (chk_iff.1 hc).len
        have := HM.out
        omega
      · simpa using hc)
    go_enter Try.func26, Try.ntmps26
    go_wp2
    go_ret
    exact ⟨ret_bool HE.out, rfl⟩

set_option maxHeartbeats 1000000 in
theorem refId_any (n : Int) (w : World) : Calls Try.prog 33 #[.int .i64 n] w (RowP w (idF n)) := by
  by_cases h8 : 0 ≤ n ∧ n ≤ 8
  · obtain ⟨m, rfl⟩ : ∃ m : Nat, n = (m : Int) := ⟨n.toNat, by omega⟩
    have HE : Hid (idF m = ups m) := Lib.hid (by unfold idF; rw [if_pos h8]; simp)
    have hm8 : m ≤ 8 := by omega
    clear h8
    go_enter Try.func33, Try.ntmps33
    go_wp2
    go_loopw [3, 4] (fun a i wr => ∃ (v : Value) (k : Nat), k ≤ m ∧ a = v ∧ i = .int .i64 k ∧ Hid (OI w.heap.size wr v (ups k)) ∧ Hid (Below w.heap.size w wr)) (fun _ i _ => m - (intOf i).toNat)
    case atStart => exact ⟨_, 0, by omega, rfl, rfl, Lib.hid (OI.nil _ _), Lib.hid (Below.refl _ _)⟩
    case round =>
      obtain ⟨v, k, hk, rfl, rfl, HO, HB⟩ := hrel
      by_cases hlt : k < m
      · have hl : (ups k).length + 1 ≤ 1000000 := by rw [ups_length]; omega
        have hz := HB.out.size
        have HL := Lib.hid hl
        clear hl
        go_wp2_with (at_builtin; refine append_one rfl (.tmp 14) (.tmp 16) rfl w.heap.size _ (ups k) rfl HO.out (k : Int) rfl HL.out hz ?_; intro v3 w3 ho3 hb3; have HO3 := Lib.hid ho3; have HB3 := Lib.hid hb3; clear ho3 hb3)
        go_roundw
        case rel => exact ⟨_, k + 1, by omega, rfl, by go_num, Lib.hid (by rw [ups_succ]; exact HO3.out), Lib.hid (HB.out.trans HB3.out)⟩
        case measure => simp [intOf]; omega
      · obtain rfl : k = m := by omega
        go_wp2
        go_ret
        rw [HE.out]
        exact HO.out.row HB.out
  · have HE : Hid (idF n = []) := Lib.hid (by unfold idF; rw [if_neg h8])
    by_cases h0 : 0 < n
    · have h9 : 8 < n := by omega
      clear h8
      go_enter Try.func33, Try.ntmps33
      go_wp2
      go_loopw [3, 4] (fun a i wr => a = .slice none 0 0 ∧ i = .int .i64 0 ∧ w = wr) (fun _ i _ => 0)
      case atStart => exact ⟨rfl, rfl, rfl⟩
      case round =>
        obtain ⟨rfl, rfl, rfl⟩ := hrel
        go_wp2
        go_ret
        exact RowP.nil HE.out (Below.refl _ _)
    · have h9 : n ≤ 0 := by omega
      clear h8
      go_enter Try.func33, Try.ntmps33
      go_wp2
      go_loopw [3, 4] (fun a i wr => a = .slice none 0 0 ∧ i = .int .i64 0 ∧ w = wr) (fun _ i _ => 0)
      case atStart => exact ⟨rfl, rfl, rfl⟩
      case round =>
        obtain ⟨rfl, rfl, rfl⟩ := hrel
        go_wp2
        go_ret
        exact RowP.nil HE.out (Below.refl _ _)

set_option maxHeartbeats 2000000 in
theorem refMul_any (A B : Option Addr) (c d m n : Nat) (a b : List Int) (w : World) (hm : m = a.length) (hn : n = b.length) (hA : IA w A a) (hB : IA w B b) (ha : a.length ≤ 1000000) (hb : b.length ≤ 1000000) :
    Calls Try.prog 35 #[.slice A m c, .slice B n d] w (RowP w (mulF a b)) := by
  have HM := Lib.hid hm
  have HN := Lib.hid hn
  have HA := Lib.hid hA
  have HB := Lib.hid hB
  have hla : m ≤ 1000000 := by omega
  have hlb : n ≤ 1000000 := by omega
  have HLA := Lib.hid ha
  have HLB := Lib.hid hb
  clear hm hn hA hB ha hb
  go_enter Try.func35, Try.ntmps35
  go_wp2_with fail
  refine (refCheck_any A c m a w HM.out HA.out HLA.out).mono ?_
  rintro e w' ⟨rfl, rfl⟩
  cases hca : chk a with
  | false =>
    have HE : Hid (mulF a b = []) := Lib.hid (by unfold mulF; rw [if_neg (by rw [hca]; simp)])
    clear hca
    go_wp2
    go_ret
    exact RowP.nil HE.out (Below.refl _ _)
  | true =>
    have HPA := Lib.hid (chk_iff.1 hca)
    have HCA := Lib.hid hca
    clear hca
    go_wp2_with fail
    refine (refCheck_any B d n b w HN.out HB.out HLB.out).mono ?_
    rintro e w' ⟨rfl, rfl⟩
    cases hcb : chk b with
    | false =>
      have HE : Hid (mulF a b = []) := Lib.hid (by unfold mulF; rw [if_neg (by rw [hcb]; simp)])
      clear hcb
      go_wp2
      go_ret
      exact RowP.nil HE.out (Below.refl _ _)
    | true =>
      by_cases hl : m = n
      · subst hl
        have HE : Hid (mulF a b = mulL a b) := Lib.hid (by unfold mulF; rw [if_pos ⟨by rw [← HM.out, HN.out], HCA.out, hcb⟩])
        have HML : Hid (m = (mulL a b).length) := Lib.hid (by rw [mulL_length]; exact HM.out)
        clear hcb
        go_wp2
        go_loopw [5, 6] (fun q i wr => ∃ (v : Value) (k : Nat), k ≤ m ∧ q = v ∧ i = .int .i64 k ∧ Hid (OI w.heap.size wr v ((mulL a b).take k)) ∧ Hid (Below w.heap.size w wr)) (fun _ i _ => m - (intOf i).toNat)
        case atStart => exact ⟨_, 0, by omega, rfl, rfl, Lib.hid (OI.nil _ _), Lib.hid (Below.refl _ _)⟩
        case round =>
          obtain ⟨v, k, hk, rfl, rfl, HO, HBR⟩ := hrel
          by_cases hlt : k < m
          · have HL : Hid (((mulL a b).take k).length + 1 ≤ 1000000) := Lib.hid (by rw [List.length_take]; omega)
            have hz := HBR.out.size
            obtain ⟨bA, oA, rfl, hbA, hcA⟩ := HA.out.at_ (i := k) (by rw [← HM.out]; exact hlt)
            have c1 : wr.cell? ⟨bA, oA + k, none⟩ = some (.int .i64 (a.getD k 0)) := (HBR.out.cell (p := ⟨bA, oA + k, none⟩) hbA).trans hcA
            obtain ⟨j, HJ⟩ : ∃ j : Nat, Hid (a.getD k 0 = (j : Int) ∧ j < m) := ⟨(a.getD k 0).toNat, Lib.hid (by
              have h := HPA.out.at_ (i := k) (by rw [← HM.out]; exact hlt)
              rw [← HM.out] at h
              omega)⟩
            have hj := HJ.out.2
            rw [HJ.out.1] at c1
            obtain ⟨bB, oB, rfl, hbB, hcB⟩ := HB.out.at_ (i := j) (by rw [← HN.out]; exact hj)
            have c2 : wr.cell? ⟨bB, oB + j, none⟩ = some (.int .i64 (b.getD j 0)) := (HBR.out.cell (p := ⟨bB, oB + j, none⟩) hbB).trans hcB
            have HX : Hid (b.getD j 0 = (mulL a b).getD k 0) := Lib.hid (by rw [mulL_at (by rw [← HM.out]; exact hlt), HJ.out.1]; simp)
            generalize b.getD j 0 = y at c2 HX
            clear hcA hcB
            go_wp2_with (at_builtin; refine append_one rfl (.tmp 28) (.tmp 36) rfl w.heap.size _ ((mulL a b).take k) rfl HO.out y rfl HL.out hz ?_; intro v3 w3 ho3 hb3; have HO3 := Lib.hid ho3; have HB3 := Lib.hid hb3; clear ho3 hb3)
            go_roundw
            case rel => exact ⟨_, k + 1, by omega, rfl, by go_num, Lib.hid (by rw [take_next (by rw [← HML.out]; exact hlt), ← HX.out]; exact HO3.out), Lib.hid (HBR.out.trans HB3.out)⟩
            case measure => simp [intOf]; omega
          · obtain rfl : k = m := by omega
            go_wp2
            go_ret
            rw [HE.out]
            exact (HO.out.full HML.out).row HBR.out
      · have HE : Hid (mulF a b = []) := Lib.hid (by unfold mulF; rw [if_neg (by rw [← HM.out, ← HN.out]; exact fun h => hl h.1)])
        clear hcb
        go_wp2
        go_ret
        exact RowP.nil HE.out (Below.refl _ _)

set_option maxHeartbeats 2000000 in
theorem refMove_any (A B : Option Addr) (c d m n : Nat) (p l : List Int) (w : World) (hm : m = p.length) (hn : n = l.length) (hA : IA w A p) (hB : IA w B l) (ha : p.length ≤ 1000000) (hb : l.length ≤ 1000000) :
    Calls Try.prog 37 #[.slice A m c, .slice B n d] w (RowP w (moveF p l)) := by
  have HM := Lib.hid hm
  have HN := Lib.hid hn
  have HA := Lib.hid hA
  have HB := Lib.hid hB
  have hla : m ≤ 1000000 := by omega
  have hlb : n ≤ 1000000 := by omega
  have HLA := Lib.hid ha
  have HLB := Lib.hid hb
  clear hm hn hA hB ha hb
  go_enter Try.func37, Try.ntmps37
  go_wp2_with fail
  refine (refCheck_any A c m p w HM.out HA.out HLA.out).mono ?_
  rintro e w' ⟨rfl, rfl⟩
  cases hca : chk p with
  | false =>
    have HE : Hid (moveF p l = []) := Lib.hid (by unfold moveF; rw [if_neg (by rw [hca]; simp)])
    clear hca
    go_wp2
    go_ret
    exact RowP.nil HE.out (Below.refl _ _)
  | true =>
    by_cases hl : m = n
    · subst hl
      have HPA := Lib.hid (chk_iff.1 hca)
      have HE : Hid (moveF p l = moveL p l) := Lib.hid (by unfold moveF; rw [if_pos ⟨by rw [← HM.out, HN.out], hca⟩])
      have HML : Hid (m = (moveL p l).length) := Lib.hid (by rw [moveL_length]; exact HN.out)
      clear hca
      go_wp2
      go_loopw [5, 6] (fun q i wr => ∃ (v : Value) (k : Nat), k ≤ m ∧ q = v ∧ i = .int .i64 k ∧ Hid (OI w.heap.size wr v ((moveL p l).take k)) ∧ Hid (Below w.heap.size w wr)) (fun _ i _ => m - (intOf i).toNat)
      case atStart => exact ⟨_, 0, by omega, rfl, rfl, Lib.hid (OI.nil _ _), Lib.hid (Below.refl _ _)⟩
      case round =>
        obtain ⟨v, k, hk, rfl, rfl, HO, HBR⟩ := hrel
        by_cases hlt : k < m
        · have HL : Hid (((moveL p l).take k).length + 1 ≤ 1000000) := Lib.hid (by rw [List.length_take]; omega)
          have hz := HBR.out.size
          have HP : Hid (plc p k = (p.idxOf (k : Int) : Nat)) := Lib.hid (if_pos (HPA.out.mem (by rw [← HM.out]; exact hlt)))
          have hj : p.idxOf (k : Int) < m := by rw [HM.out]; exact HPA.out.idx_lt (by rw [← HM.out]; exact hlt)
          have HX : Hid (l.getD (p.idxOf (k : Int)) 0 = (moveL p l).getD k 0) := Lib.hid (by rw [moveL_at (by rw [← HN.out]; exact hlt)])
          go_wp2_with fail
          refine (place_any A c m p k wr HM.out (HA.out.below HBR.out) HLA.out).mono ?_
          rintro e w' ⟨rfl, rfl⟩
          rw [HP.out]
          generalize p.idxOf (k : Int) = j at *
          obtain ⟨bB, oB, rfl, hbB, hcB⟩ := HB.out.at_ (i := j) (by rw [← HN.out]; exact hj)
          have c2 : wr.cell? ⟨bB, oB + j, none⟩ = some (.int .i64 (l.getD j 0)) := (HBR.out.cell (p := ⟨bB, oB + j, none⟩) hbB).trans hcB
          generalize l.getD j 0 = y at c2 HX
          clear hcB
          go_wp2_with (at_builtin; refine append_one rfl (.tmp 23) (.tmp 30) rfl w.heap.size _ ((moveL p l).take k) rfl HO.out y rfl HL.out hz ?_; intro v3 w3 ho3 hb3; have HO3 := Lib.hid ho3; have HB3 := Lib.hid hb3; clear ho3 hb3)
          go_roundw
          case rel => exact ⟨_, k + 1, by omega, rfl, by go_num, Lib.hid (by rw [take_next (by rw [← HML.out]; exact hlt), ← HX.out]; exact HO3.out), Lib.hid (HBR.out.trans HB3.out)⟩
          case measure => simp [intOf]; omega
        · obtain rfl : k = m := by omega
          go_wp2
          go_ret
          rw [HE.out]
          exact (HO.out.full HML.out).row HBR.out
    · have HE : Hid (moveF p l = []) := Lib.hid (by unfold moveF; rw [if_neg (by rw [← HM.out, ← HN.out]; exact fun h => hl h.1)])
      have hl2 : ¬ n = m := fun h => hl h.symm
      clear hca
      go_wp2
      go_ret
      exact RowP.nil HE.out (Below.refl _ _)

set_option maxHeartbeats 2000000 in
theorem refInv_any (A : Option Addr) (c m : Nat) (p : List Int) (w : World) (hm : m = p.length) (hA : IA w A p) (ha : p.length ≤ 1000000) :
    Calls Try.prog 29 #[.slice A m c] w (RowP w (invF p)) := by
  have HM := Lib.hid hm
  have HA := Lib.hid hA
  have hla : m ≤ 1000000 := by omega
  have HLA := Lib.hid ha
  clear hm hA ha
  go_enter Try.func29, Try.ntmps29
  go_wp2_with fail
  refine (refCheck_any A c m p w HM.out HA.out HLA.out).mono ?_
  rintro e w' ⟨rfl, rfl⟩
  cases hca : chk p with
  | false =>
    have HE : Hid (invF p = []) := Lib.hid (by unfold invF; rw [if_neg (by rw [hca]; simp)])
    clear hca
    go_wp2
    go_ret
    exact RowP.nil HE.out (Below.refl _ _)
  | true =>
    have HPA := Lib.hid (chk_iff.1 hca)
    have HE : Hid (invF p = invL p) := Lib.hid (by unfold invF; rw [if_pos hca])
    have HML : Hid (m = (invL p).length) := Lib.hid (by rw [invL_length]; exact HM.out)
    clear hca
    go_wp2
    go_loopw [3, 4] (fun q i wr => ∃ (v : Value) (k : Nat), k ≤ m ∧ q = v ∧ i = .int .i64 k ∧ Hid (OI w.heap.size wr v ((invL p).take k)) ∧ Hid (Below w.heap.size w wr)) (fun _ i _ => m - (intOf i).toNat)
    case atStart => exact ⟨_, 0, by omega, rfl, rfl, Lib.hid (OI.nil _ _), Lib.hid (Below.refl _ _)⟩
    case round =>
      obtain ⟨v, k, hk, rfl, rfl, HO, HBR⟩ := hrel
      by_cases hlt : k < m
      · have HL : Hid (((invL p).take k).length + 1 ≤ 1000000) := Lib.hid (by rw [List.length_take]; omega)
        have hz := HBR.out.size
        have HP : Hid (plc p k = (p.idxOf (k : Int) : Nat)) := Lib.hid (if_pos (HPA.out.mem (by rw [← HM.out]; exact hlt)))
        have HX : Hid (((p.idxOf (k : Int) : Nat) : Int) = (invL p).getD k 0) := Lib.hid (by rw [invL_at (by rw [← HM.out]; exact hlt)])
        go_wp2_with fail
        refine (place_any A c m p k wr HM.out (HA.out.below HBR.out) HLA.out).mono ?_
        rintro e w' ⟨rfl, rfl⟩
        rw [HP.out]
        generalize p.idxOf (k : Int) = j at *
        go_wp2_with (at_builtin; refine append_one rfl (.tmp 14) (.tmp 18) rfl w.heap.size _ ((invL p).take k) rfl HO.out j rfl HL.out hz ?_; intro v3 w3 ho3 hb3; have HO3 := Lib.hid ho3; have HB3 := Lib.hid hb3; clear ho3 hb3)
        go_roundw
        case rel => exact ⟨_, k + 1, by omega, rfl, by go_num, Lib.hid (by rw [take_next (by rw [← HML.out]; exact hlt), ← HX.out]; exact HO3.out), Lib.hid (HBR.out.trans HB3.out)⟩
        case measure => simp [intOf]; omega
      · obtain rfl : k = m := by omega
        go_wp2
        go_ret
        rw [HE.out]
        exact (HO.out.full HML.out).row HBR.out

theorem eqB_yes {a b : List Int} (h : a = b) : eqB a b = true := decide_eq_true h
set_option maxHeartbeats 1000000 in
theorem moves_any (A : Option Addr) (c m : Nat) (p : List Int) (w : World) (hm : m = p.length) (hA : IA w A p) (hlm : p.length ≤ 1000000) :
    Calls Try.prog 57 #[.slice A m c] w fun e w' => e = .returned (.bool (!eqB p (ups p.length))) ∧ w = w' := by
  have HM := Lib.hid hm
  have HA := Lib.hid hA
  have hla : m ≤ 1000000 := by omega
  clear hm hA hlm
  go_enter Try.func57, Try.ntmps57
  go_wp2
  go_loopw [3] (fun i wr => ∃ k : Nat, k ≤ m ∧ i = .int .i64 k ∧ Hid (∀ i : Nat, i < k → p.getD i 0 = (i : Int)) ∧ w = wr) (fun i _ => m - (intOf i).toNat)
  case atStart => exact ⟨0, by omega, rfl, Lib.hid (fun i hi => by omega), rfl⟩
  case round =>
    obtain ⟨k, hk, rfl, HX, rfl⟩ := hrel
    by_cases hlt : k < m
    · obtain ⟨b, o, rfl, hb, hc⟩ := HA.out.at_ (i := k) (by rw [← HM.out]; exact hlt)
      by_cases hx : p.getD k 0 = (k : Int)
      · have HX2 : Hid (∀ i : Nat, i < k + 1 → p.getD i 0 = (i : Int)) := Lib.hid (fun i hi => by
          by_cases e : i = k
          · subst e; exact hx
          · exact HX.out i (by omega))
        rw [hx] at hc
        clear hx
        go_wp2
        go_roundw
        case rel => exact ⟨k + 1, by omega, by go_num, HX2, by trivial⟩
        case measure => simp [intOf]; omega
      · have HE : Hid (true = !eqB p (ups p.length)) := Lib.hid (by
          have h : eqB p (ups p.length) = false := decide_eq_false (fun e => hx (by rw [e, ups_getD (by rw [← HM.out]; exact hlt)]))
          rw [h]; rfl)
        generalize p.getD k 0 = y at hc hx
        go_wp2
        go_ret
        exact ⟨ret_bool HE.out, rfl⟩
    · obtain rfl : k = m := by omega
      have HE : Hid (false = !eqB p (ups p.length)) := Lib.hid (by
        rw [eqB_yes]; rfl
        refine ext_getD (ups_length _).symm fun i hi => ?_
        rw [HX.out i (by rw [HM.out]; exact hi), ups_getD hi])
      go_wp2
      go_ret
      exact ⟨ret_bool HE.out, rfl⟩
end Go.Proofs.Ytkaddfbnlkmehaa
