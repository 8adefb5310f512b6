/- The document's Parts; which nodes are live, without any program. -/
import Derived.Test.YtnfiohekdbjgoaaSccParts
namespace Go.Proofs.Ytnfiohekdbjgoaa.sc
open Go.ChangeShapes Go.WideShapes Go.ChangeAt Go.RowKit

set_option maxRecDepth 20000 in
set_option maxHeartbeats 8000000 in
theorem refParts_any' (v1 v3 : Value) (A2 : Option Addr) (c2 n : Nat) (rows : List (List (Int × Int))) (w : World) (hn : n = rows.length) (hnl : n ≤ 100) (hrow : ∀ i, (rows.getD i []).length ≤ 2000) (hA : RA w A2 rows) :
    Calls Try.prog 40 #[.agg #[v1, .slice A2 n c2, v3]] w (PartsP w n rows) := by
  obtain ⟨w1, HW1⟩ : ∃ w1, Hid (w1 = w.alloc (.cells #[v1, .slice A2 n c2, v3] 26)) := ⟨_, Lib.hid rfl⟩
  have HB1 : Hid (Below w.heap.size w w1) := Lib.hid (by rw [HW1.out]; exact (Below.refl _ _).alloc (Nat.le_refl _) _)
  obtain ⟨q0, q1, q2⟩ := box3 w v1 (.slice A2 n c2) v3 26
  rw [← HW1.out] at q0 q1 q2
  have HOF := Lib.hid (refOf_any' v1 v3 A2 c2 n rows w1 hn hnl hrow (RA.below hA HB1.out))
  clear hn hrow hA
  go_enter Try.func40, Try.ntmps40
  go_wp2_with fail
  rw [← HW1.out]
  go_wp2_with fail
  refine HOF.out.mono ?_
  rintro e w2 ⟨L, hL, A, c, rfl, hA2, hb2, hn2⟩
  have HL := Lib.hid hL
  have hLL : L.length = n := hL.1
  have HB2 : Hid (Below w.heap.size w w2) := Lib.hid (HB1.out.trans (hb2.mono HB1.out.size))
  have HLI : Hid (IA w2 A L) := Lib.hid hA2.ia
  rw [hLL]
  clear hL hb2 hA2 hn2 q0 q1 q2
  go_wp2_with fail
  go_loopw [4, 5] (fun v i wr => ∃ (k : Nat) (vals : Nat → Value), k ≤ n ∧ i = .int .i64 k ∧ Hid (PT w2.heap.size wr v (stF (lstF L) k).length vals (fun j => memF (lstF L) n ((stF (lstF L) k).getD j 0))) ∧ Hid (Below w2.heap.size w2 wr)) (fun _ i _ => n - (intOf i).toNat)
  case atStart => exact ⟨0, _, by omega, rfl, Lib.hid ((PT.nil _ _).congr (fun j hj => absurd hj (by omega))), Lib.hid (Below.refl _ _)⟩
  case round =>
    obtain ⟨k, vals, hk, rfl, HPT, HB⟩ := hrel
    by_cases hlt : k < n
    · obtain ⟨bA, oA, rfl, hbA, hcA⟩ := (HLI.out.below HB.out) (by rw [hLL]; omega)
      have HCA : Hid (∀ W, Below w2.heap.size w2 W → ∀ i, i < n → W.cell? ⟨bA, oA + i, none⟩ = some (.int .i64 (lstF L i : Nat))) := Lib.hid (fun W hW i hi => by
        obtain ⟨b, o, e, _, hcc⟩ := (HLI.out.below hW) (by rw [hLL]; omega)
        cases e
        rw [hcc i (by rw [hLL]; exact hi), (HL.out.lst hi).1])
      have cA := HCA.out _ HB.out k hlt
      obtain ⟨m, HM⟩ : ∃ m, Hid (lstF L k = m) := ⟨_, Lib.hid rfl⟩
      rw [HM.out] at cA
      clear hcA
      obtain ⟨Av, capv, hv⟩ := HPT.out.form
      subst hv
      by_cases hmk : m = k
      · subst hmk
        have hz : ((m : Int) != (m : Int)) = false := by simp
        obtain ⟨wo, hwo⟩ : ∃ wo, wo = wr := ⟨_, rfl⟩
        subst hwo
        have hzo : w2.heap.size ≤ wo.heap.size := HB.out.size
        go_wp2_with fail
        go_loopw [6, 7] (fun s i wr => ∃ j : Nat, j ≤ n ∧ i = .int .i64 j ∧ Hid (OI wo.heap.size wr s (memF (lstF L) j m)) ∧ Hid (Below wo.heap.size wo wr)) (fun _ i _ => n - (intOf i).toNat)
        case atStart => exact ⟨0, by omega, rfl, Lib.hid (OI.nil _ _), Lib.hid (Below.refl _ _)⟩
        case round =>
          obtain ⟨j, hj, rfl, HO, HBO⟩ := hrel
          have HBW : Hid (Below w2.heap.size w2 wr) := Lib.hid (HB.out.trans (HBO.out.mono hzo))
          by_cases hltj : j < n
          · have cj := HCA.out _ HBW.out j hltj
            have hml : (memF (lstF L) j m).length + 1 ≤ 1000000 := by have := memF_le (lstF L) j m; omega
            by_cases he : lstF L j = m
            · have HS : Hid (memF (lstF L) (j + 1) m = memF (lstF L) j m ++ [(j : Int)]) := Lib.hid (by rw [memF_succ, if_pos he])
              rw [he] at cj
              have hz2 : ((m : Int) == (m : Int)) = true := by simp
              clear he
              go_wp2_with (at_builtin; go_loud (refine append_one rfl (.tmp 34) (.tmp 36) rfl wo.heap.size _ (memF (lstF L) j m) rfl HO.out (j : Int) rfl hml HBO.out.size ?_); intro v4 w4 ho4 hb4; rw [← HS.out] at ho4; have HO4 := Lib.hid ho4; have HB4 : Hid (Below wo.heap.size wo w4) := Lib.hid (HBO.out.trans hb4); clear ho4 hb4)
              go_roundw
              case rel => exact ⟨j + 1, by omega, by go_num, HO4, HB4⟩
              case measure => simp [intOf]; omega
            · have HS : Hid (memF (lstF L) (j + 1) m = memF (lstF L) j m) := Lib.hid (by rw [memF_succ, if_neg he, List.append_nil])
              rw [← HS.out] at HO
              have hz2 : ((lstF L j : Int) == (m : Int)) = false := by simp; omega
              generalize lstF L j = lj at cj hz2 he
              clear he
              go_wp2
              go_roundw
              case rel => exact ⟨j + 1, by omega, by go_num, HO, HBO⟩
              case measure => simp [intOf]; omega
          · obtain rfl : n = j := by omega
            obtain ⟨A6, d6, h6, _⟩ := HO.out.form
            subst h6
            obtain ⟨l6, HL6⟩ : ∃ l6, Hid ((memF (lstF L) n m).length = l6) := ⟨_, Lib.hid rfl⟩
            rw [HL6.out] at HO ⊢
            have HP2 := Lib.hid (HPT.out.below HBO.out)
            have HAP : Hid (∀ j, j < (stF (lstF L) m).length → ∀ q, (vals j).ownBlock = some q → (Value.slice A6 l6 d6).ownBlock ≠ some q) := Lib.hid (fun j hj q e e2 => by
              have h1 := (World.ownsRow.lt (HPT.out.row j hj) q e).2
              have h2 := (World.ownsRow.lt HO.out q e2).1
              omega)
            have HO2 : Hid (OI w2.heap.size wr (.slice A6 l6 d6) (memF (lstF L) n m)) := Lib.hid ⟨HO.out.1, HO.out.2.imp id (fun ⟨g, cap, cur, e, h1, r⟩ => ⟨g, cap, cur, e, Nat.le_trans hzo h1, r⟩)⟩
            have hcl : (stF (lstF L) m).length + 1 ≤ 1000 := by have := stF_le (lstF L) m; omega
            go_wp2_with (at_builtin; go_loud (refine append_pt rfl (.tmp 38) (.tmp 40) rfl w2.heap.size _ (stF (lstF L) m).length vals _ rfl HP2.out (.slice A6 l6 d6) (memF (lstF L) n m) HO2.out HAP.out wr.heap.size rfl rfl hcl HBW.out.size ?_); intro v4 w4 hp4 hb4; have HP4 := Lib.hid hp4; have HB4 : Hid (Below w2.heap.size w2 w4) := Lib.hid (HBW.out.trans hb4); clear hp4 hb4)
            go_roundw
            case rel =>
              refine ⟨m + 1, (fun j => if j = (stF (lstF L) m).length then .slice A6 l6 d6 else vals j), by omega, by go_num, Lib.hid ?_, HB4⟩
              have hS : stF (lstF L) (m + 1) = stF (lstF L) m ++ [m] := by rw [stF_succ, if_pos HM.out]
              have hc1 : (stF (lstF L) (m + 1)).length = (stF (lstF L) m).length + 1 := by rw [hS, List.length_append]; rfl
              rw [hc1]
              refine HP4.out.congr (fun j hj => ?_)
              rw [hS]
              by_cases e : j = (stF (lstF L) m).length
              · rw [if_pos e, e, show (stF (lstF L) m ++ [m]).getD (stF (lstF L) m).length 0 = m by simp [List.getD]]
              · rw [if_neg e, show (stF (lstF L) m ++ [m]).getD j 0 = (stF (lstF L) m).getD j 0 by simp only [List.getD]; rw [List.getElem?_append_left (by omega)]]
            case measure => simp [intOf]; omega
      · have hz : ((m : Int) != (k : Int)) = true := by simp; omega
        have HS : Hid (stF (lstF L) (k + 1) = stF (lstF L) k) := Lib.hid (by rw [stF_succ, if_neg (by rw [HM.out]; exact hmk), List.append_nil])
        go_wp2
        go_roundw
        case rel => exact ⟨k + 1, vals, by omega, by go_num, Lib.hid (by rw [HS.out]; exact HPT.out), HB⟩
        case measure => simp [intOf]; omega
    · obtain rfl : n = k := by omega
      go_wp2_with fail
      go_ret
      exact ⟨L, HL.out, _, vals, rfl, HPT.out.mono HB2.out.size, HB2.out.trans (HB.out.mono HB2.out.size)⟩
theorem refParts_any {w : World} {v : Value} {G : Gr} (hv : GV w v G) (hnl : G.rows.length ≤ 100) (hrow : ∀ i, (G.rows.getD i []).length ≤ 2000) : Calls Try.prog 40 #[v] w (PartsP w G.rows.length G.rows) := by
  obtain ⟨A1, c1, A2, c2, A3, c3, rfl, _, ⟨a2, b2, d2⟩, _⟩ := hv
  exact refParts_any' _ _ A2 c2 _ G.rows w rfl hnl hrow d2

/-- Two nodes have one least node just if ways lead to and fro. -/
theorem lst_same {n : Nat} {e : Nat → Nat → Prop} {L : List Int} (h : OfL n e L) {a b : Nat} (ha : a < n) (hb : b < n) : lstF L a = lstF L b ↔ Wy e a b ∧ Wy e b a := by
  obtain ⟨_, _, _, la⟩ := h.lst ha
  obtain ⟨_, _, _, lb⟩ := h.lst hb
  constructor
  · intro e1
    rw [← e1] at lb
    exact ⟨la.2.1.trans lb.2.2.1, lb.2.1.trans la.2.2.1⟩
  · rintro ⟨p, q⟩
    have h1 : ¬ lstF L a < lstF L b := fun hlt => lb.2.2.2 _ hlt ⟨q.trans la.2.1, la.2.2.1.trans p⟩
    have h2 : ¬ lstF L b < lstF L a := fun hlt => la.2.2.2 _ hlt ⟨p.trans lb.2.1, lb.2.2.1.trans q⟩
    omega
theorem memF_mem {lst : Nat → Nat} {k s : Nat} {z : Int} : z ∈ memF lst k s ↔ ∃ i : Nat, z = (i : Int) ∧ i < k ∧ lst i = s := by
  unfold memF
  rw [List.mem_map]
  constructor
  · rintro ⟨i, hi, rfl⟩
    rw [List.mem_filter] at hi
    exact ⟨i, rfl, List.mem_range.1 hi.1, by simpa using hi.2⟩
  · rintro ⟨i, rfl, h1, h2⟩
    exact ⟨i, List.mem_filter.2 ⟨List.mem_range.2 h1, by simpa using h2⟩, rfl⟩
/-- A node's part is cyclic just if a way leads from the node back to it. -/
theorem part_live {n : Nat} {rows : List (List (Int × Int))} {L : List Int} (h : OfL n (eR n rows) L) {i : Nat} (hi : i < n) : CyP n rows (memF (lstF L) n (lstF L i)) ↔ Wp (eR n rows) i i := by
  have hin : ∀ b : Nat, (b : Int) ∈ memF (lstF L) n (lstF L i) ↔ b < n ∧ lstF L b = lstF L i := fun b => by
    rw [memF_mem]
    constructor
    · rintro ⟨c, e, h1, h2⟩
      obtain rfl : b = c := by omega
      exact ⟨h1, h2⟩
    · rintro ⟨h1, h2⟩
      exact ⟨b, rfl, h1, h2⟩
  have other : ∀ b : Nat, b < n → lstF L b = lstF L i → b ≠ i → Wp (eR n rows) i i := fun b hb hl hne => by
    obtain ⟨p, q⟩ := (lst_same h hb hi).1 hl
    exact (wp_of_wy q (fun e => hne e.symm)).trans (wp_of_wy p hne)
  constructor
  · rintro (⟨a, b, ha, hb, hne, hma, hmb⟩ | ⟨a, ha, hma, hall, he⟩)
    · by_cases e : a = i
      · subst e
        exact other b hb ((hin b).1 hmb).2 (fun e => hne e.symm)
      · exact other a ha ((hin a).1 hma).2 e
    · have := hall i hi ((hin i).2 ⟨hi, rfl⟩)
      subst this
      exact ⟨_, he, .here _⟩
  · rintro ⟨x, h1, h2⟩
    have hx : x < n := h1.1
    by_cases e : x = i
    · subst e
      by_cases hs : ∃ b : Nat, b < n ∧ (b : Int) ∈ memF (lstF L) n (lstF L x) ∧ b ≠ x
      · obtain ⟨b, hb, hm, hne⟩ := hs
        exact .inl ⟨b, x, hb, hi, hne, hm, (hin x).2 ⟨hi, rfl⟩⟩
      · refine .inr ⟨x, hi, (hin x).2 ⟨hi, rfl⟩, fun b hb hm => ?_, h1⟩
        by_cases hbx : b = x
        · exact hbx
        · exact absurd ⟨b, hb, hm, hbx⟩ hs
    · exact .inl ⟨x, i, hx, hi, e, (hin x).2 ⟨hx, (lst_same h hx hi).2 ⟨h2, .one h1⟩⟩, (hin i).2 ⟨hi, rfl⟩⟩
end Go.Proofs.Ytnfiohekdbjgoaa.sc
