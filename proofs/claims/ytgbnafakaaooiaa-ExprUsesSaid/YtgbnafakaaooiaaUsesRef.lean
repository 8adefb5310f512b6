/- The document's put, Uses, Same. -/
import Derived.Test.YtgbnafakaaooiaaUsesProg
namespace Go.Proofs.Ytgbnafakaaooiaa.us
open Go.ChangeShapes Go.WideShapes Go.ChangeAt Go.RowKit Go.Sort Go.Lib Go.Proofs.Ytgbnafakaaooiaa.sr

def gtS (n : Int) (l : List Int) : Bool := l.any fun x => decide (n < x)
/-- What put has written when it has gone over these. -/
def outF (n : Int) (l : List Int) : List Int := if gtS n l = true then insF n l else l
theorem gtS_snoc (n x : Int) (l : List Int) : gtS n (l ++ [x]) = (gtS n l || decide (n < x)) := by unfold gtS; simp
theorem insF_snoc {n x : Int} : ∀ {l : List Int}, gtS n l = true → insF n (l ++ [x]) = insF n l ++ [x]
  | [], h => by cases h
  | a :: l, h => by
    unfold insF
    rw [List.cons_append]
    show (if n < a then n :: a :: (l ++ [x]) else a :: insF n (l ++ [x])) = _
    by_cases ha : n < a
    · rw [if_pos ha, if_pos ha]; rfl
    · rw [if_neg ha, if_neg ha]
      have hl : gtS n l = true := by
        unfold gtS at h ⊢
        rw [List.any_cons, decide_eq_false ha, Bool.false_or] at h
        exact h
      rw [insF_snoc hl]
      rfl
theorem insF_end {n : Int} : ∀ {l : List Int}, gtS n l = false → insF n l = l ++ [n]
  | [], _ => rfl
  | a :: l, h => by
    unfold gtS at h
    rw [List.any_cons, Bool.or_eq_false_iff] at h
    unfold insF
    rw [if_neg (of_decide_eq_false h.1), insF_end (l := l) h.2]
    rfl
theorem insF_at {n x : Int} {l : List Int} (h : gtS n l = false) (hx : n < x) : insF n (l ++ [x]) = l ++ [n] ++ [x] := by
  induction l with
  | nil =>
    show (if n < x then n :: x :: [] else x :: insF n []) = _
    rw [if_pos hx]; rfl
  | cons a l ih =>
    unfold gtS at h
    rw [List.any_cons, Bool.or_eq_false_iff] at h
    rw [List.cons_append]
    show (if n < a then n :: a :: (l ++ [x]) else a :: insF n (l ++ [x])) = _
    rw [if_neg (of_decide_eq_false h.1), ih h.2]
    rfl
theorem take_int {l : List Int} {k : Nat} (h : k < l.length) : l.take (k + 1) = l.take k ++ [l.getD k 0] := by
  rw [List.take_add_one]
  simp [List.getD, h]
theorem outF_len (n : Int) (l : List Int) : (outF n l).length ≤ l.length + 1 := by
  unfold outF
  split
  · have : ∀ l : List Int, (insF n l).length = l.length + 1 := by
      intro l
      induction l with
      | nil => rfl
      | cons a l ih =>
        unfold insF
        split
        · rfl
        · rw [List.length_cons, ih, List.length_cons]
    rw [this]; exact Nat.le_refl _
  · omega
theorem mem_take {l : List Int} {k : Nat} {n : Int} (h : ∀ j, j < k → j < l.length → l.getD j 0 ≠ n) : n ∉ l.take k := fun hm => by
  obtain ⟨i, hi, e⟩ := List.getElem_of_mem hm
  rw [List.length_take] at hi
  rw [List.getElem_take] at e
  exact h i (by omega) (by omega) (by rw [← e]; simp [List.getD, show i < l.length by omega])
theorem OI.mono' {base base' : Nat} {w : World} {v : Value} {l : List Int} (h : OI base w v l) (hb : base' ≤ base) : OI base' w v l := Go.Joins.ownsRow_le h hb
set_option maxRecDepth 100000 in
set_option maxHeartbeats 8000000 in
theorem put_any (base : Nat) (l : List Int) (v : Value) (n : Int) (w : World) (hO : OI base w v l) (hl : l.length ≤ 10000) (hb : base ≤ w.heap.size) :
    Calls Try.prog 15 #[v, .int .i64 n] w fun e w' => ∃ v', e = .returned v' ∧ OI base w' v' (putF l n) ∧ RowKit.Below w.heap.size w w' := by
  obtain ⟨A, c, rfl, hA⟩ := hO.form
  have HO := Lib.hid hO
  have HA := Lib.hid hA
  obtain ⟨m, HM⟩ : ∃ m, Hid (l.length = m) := ⟨_, Lib.hid rfl⟩
  rw [HM.out] at hl ⊢
  clear hO hA
  go_enter Try.func15, Try.ntmps15
  go_wp2
  go_loopw [5, 6, 7] (fun ov dv iv wr => ∃ k : Nat, k ≤ m ∧ iv = .int .i64 k ∧ dv = .bool (gtS n (l.take k)) ∧ Hid (OI w.heap.size wr ov (outF n (l.take k))) ∧ Hid (RowKit.Below w.heap.size w wr) ∧ Hid (∀ j, j < k → l.getD j 0 ≠ n)) (fun _ _ iv _ => m - (intOf iv).toNat)
  case atStart => exact ⟨0, Nat.zero_le _, rfl, rfl, Lib.hid (OI.nil _ _), Lib.hid (Below.refl _ _), Lib.hid (fun j h => absurd h (Nat.not_lt_zero _))⟩
  case round =>
    obtain ⟨k, hk, rfl, rfl, HOO, HB, HNE⟩ := hrel
    by_cases hlt : k < m
    · have hkl : k < l.length := by rw [HM.out]; exact hlt
      obtain ⟨b, o, rfl, hbb, hc0⟩ := HA.out.at_ hkl
      have hc := (HB.out.cell (p := ⟨b, o + k, none⟩) hbb).trans hc0
      have hi9 : (k : Int) < (m : Int) := by omega
      have HTK := Lib.hid (take_int hkl)
      have HOK : Hid (w.heap.size ≤ wr.heap.size) := Lib.hid HB.out.size
      have HLE : Hid ((outF n (l.take k)).length ≤ 10001) := Lib.hid (by have := outF_len n (l.take k); rw [List.length_take] at this; omega)
      obtain ⟨x, HX⟩ : ∃ x, Hid (l.getD k 0 = x) := ⟨_, Lib.hid rfl⟩
      rw [HX.out] at hc HTK
      have HC := Lib.hid hc0
      rw [HX.out] at HC
      clear hc0 hkl
      by_cases he : x = n
      · subst he
        have HIN : Hid (putF l x = l) := Lib.hid (by
          unfold putF
          rw [if_pos]
          rw [← HX.out]
          have hkl : k < l.length := by rw [HM.out]; exact hlt
          rw [show l.getD k 0 = l[k] by simp [List.getD, hkl]]
          exact List.getElem_mem _)
        have HFO : Hid (OI base wr (.slice (some ⟨b, o, none⟩) m c) l) := Lib.hid (by have := HO.out.below (HB.out); rwa [HM.out] at this)
        go_wp2
        go_ret
        exact ⟨_, rfl, by rw [HIN.out]; exact HFO.out, HB.out⟩
      · have hxe : (x == n) = false := by rw [beq_eq_false_iff_ne]; exact he
        have HNE2 : Hid (∀ j, j < k + 1 → l.getD j 0 ≠ n) := Lib.hid (fun j hj => by
          by_cases hjk : j = k
          · rw [hjk, HX.out]; exact he
          · exact HNE.out j (by omega))
        cases hg : gtS n (l.take k) with
        | true =>
          have HGN : Hid (gtS n (l.take (k + 1)) = true) := Lib.hid (by rw [HTK.out, gtS_snoc, hg, Bool.true_or])
          have HON : Hid (outF n (l.take k) ++ [x] = outF n (l.take (k + 1))) := Lib.hid (by unfold outF; rw [hg, HGN.out, if_pos rfl, if_pos rfl, HTK.out, insF_snoc hg])
          clear hg
          go_wp2_with (at_builtin; go_loud (refine append_one rfl (.tmp 35) (.tmp 40) rfl w.heap.size _ (outF n (l.take k)) rfl HOO.out x rfl (by have := HLE.out; omega) HOK.out ?_); intro v7 w7 ho7 hb7; have HO7 := Lib.hid ho7; have HB7 : Hid (RowKit.Below w.heap.size w w7) := Lib.hid (HB.out.trans hb7); clear ho7 hb7)
          go_roundw
          case rel => exact ⟨k + 1, by omega, by go_num, by rw [HGN.out], Lib.hid (by rw [← HON.out]; exact HO7.out), HB7, HNE2⟩
          case measure => simp [intOf]; omega
        | false =>
          by_cases hx : n < x
          · have HGN : Hid (gtS n (l.take (k + 1)) = true) := Lib.hid (by rw [HTK.out, gtS_snoc, hg, decide_eq_true hx]; rfl)
            have HON : Hid (outF n (l.take k) ++ [n] ++ [x] = outF n (l.take (k + 1))) := Lib.hid (by unfold outF; rw [hg, HGN.out, if_neg (by decide), if_pos rfl, HTK.out, insF_at hg hx])
            clear hg
            go_upto_region 11 with (at_builtin; go_loud (refine append_one rfl (.tmp 31) (.tmp 33) rfl w.heap.size _ (outF n (l.take k)) rfl HOO.out n rfl (by have := HLE.out; omega) HOK.out ?_); intro v6 w6 ho6 hb6; have HO6 := Lib.hid ho6; have HB6 : Hid (RowKit.Below w.heap.size w w6) := Lib.hid (HB.out.trans hb6); clear ho6 hb6)
            clear hc
            have hc := (HB6.out.cell (p := ⟨b, o + k, none⟩) hbb).trans HC.out
            have HOK6 : Hid (w.heap.size ≤ w6.heap.size) := Lib.hid HB6.out.size
            have HLE6 : Hid ((outF n (l.take k) ++ [n]).length ≤ 10002) := Lib.hid (by rw [List.length_append, List.length_singleton]; have := HLE.out; omega)
            go_wp2_with (at_builtin; go_loud (refine append_one rfl (.tmp 35) (.tmp 40) rfl w.heap.size _ (outF n (l.take k) ++ [n]) rfl HO6.out x rfl (by have := HLE6.out; omega) HOK6.out ?_); intro v7 w7 ho7 hb7; have HO7 := Lib.hid ho7; have HB7 : Hid (RowKit.Below w.heap.size w w7) := Lib.hid (HB6.out.trans hb7); clear ho7 hb7)
            go_roundw
            case rel => exact ⟨k + 1, by omega, by go_num, by rw [HGN.out], Lib.hid (by rw [← HON.out]; exact HO7.out), HB7, HNE2⟩
            case measure => simp [intOf]; omega
          · have hxd : decide (n < x) = false := decide_eq_false hx
            have HGN : Hid (gtS n (l.take (k + 1)) = false) := Lib.hid (by rw [HTK.out, gtS_snoc, hg, hxd]; rfl)
            have HON : Hid (outF n (l.take k) ++ [x] = outF n (l.take (k + 1))) := Lib.hid (by unfold outF; rw [hg, HGN.out, if_neg (by decide), if_neg (by decide), HTK.out])
            clear hg
            go_wp2_with (at_builtin; go_loud (refine append_one rfl (.tmp 35) (.tmp 40) rfl w.heap.size _ (outF n (l.take k)) rfl HOO.out x rfl (by have := HLE.out; omega) HOK.out ?_); intro v7 w7 ho7 hb7; have HO7 := Lib.hid ho7; have HB7 : Hid (RowKit.Below w.heap.size w w7) := Lib.hid (HB.out.trans hb7); clear ho7 hb7)
            go_roundw
            case rel => exact ⟨k + 1, by omega, by go_num, by rw [HGN.out], Lib.hid (by rw [← HON.out]; exact HO7.out), HB7, HNE2⟩
            case measure => simp [intOf]; omega
    · obtain rfl : k = m := by omega
      have HTA : Hid (l.take k = l) := Lib.hid (List.take_of_length_le (by rw [HM.out]; exact Nat.le_refl _))
      have HNI : Hid (n ∉ l) := Lib.hid (by have := mem_take (fun j hj _ => HNE.out j hj); rwa [HTA.out] at this)
      have HOK : Hid (w.heap.size ≤ wr.heap.size) := Lib.hid HB.out.size
      have HLE : Hid ((outF n l).length ≤ 10001) := Lib.hid (by have := outF_len n l; rw [HM.out] at this; omega)
      rw [HTA.out] at HOO ⊢
      cases hg : gtS n l with
      | true =>
        have HE : Hid (outF n l = putF l n) := Lib.hid (by unfold outF putF; rw [hg, if_pos rfl, if_neg HNI.out])
        clear hg
        go_wp2
        go_ret
        exact ⟨_, rfl, by rw [← HE.out]; exact (OI.mono' HOO.out hb), HB.out⟩
      | false =>
        have HE : Hid (outF n l ++ [n] = putF l n) := Lib.hid (by unfold outF putF; rw [hg, if_neg (by decide), if_neg HNI.out, insF_end hg])
        clear hg
        go_wp2_with (at_builtin; go_loud (refine append_one rfl (.tmp 44) (.tmp 46) rfl w.heap.size _ (outF n l) rfl HOO.out n rfl (by have := HLE.out; omega) HOK.out ?_); intro v7 w7 ho7 hb7; have HO7 := Lib.hid ho7; have HB7 : Hid (RowKit.Below w.heap.size w w7) := Lib.hid (HB.out.trans hb7); clear ho7 hb7)
        go_ret
        exact ⟨_, rfl, by rw [← HE.out]; exact (OI.mono' HO7.out hb), HB7.out⟩
end Go.Proofs.Ytgbnafakaaooiaa.us
