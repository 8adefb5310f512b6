/- Contracts that the claim stands on, several texts in one: LtlRefKids, LtxRefA. -/
import Derived.Test.YtgnflnfajkoibaaDoorPut1
import Derived.Test.YtgnflnfajkoibaaDoorPut2
import Derived.Test.YtgnflnfajkoibaaDoorPut3
import Derived.Test.YtgnflnfajkoibaaDoorPut4
import Derived.Test.YtgnflnfajkoibaaDoorPut5
import Derived.Test.YtgnflnfajkoibaaDoorPut6
import Derived.Test.YtgnflnfajkoibaaDoorPut7
namespace Go.Proofs.YtgnflnfajkoibaaDoor.lt
open Go.ChangeShapes Go.WideShapes Go.ChangeAt Go.RowKit

set_option maxRecDepth 20000 in
set_option maxHeartbeats 8000000 in
theorem refKids_any (e : List (Int × Int)) (at_ : Int) (A : Option Addr) (c m : Nat) (w : World) (hm : m = e.length) (hm2 : m ≤ 1000) (hA : PA w A e) :
    Calls Tryd.prog 33 #[.slice A m c, .int .i64 at_] w fun x w' => x = .returned (.tuple #[.int .i64 (kidsF e at_).1, .int .i64 (kidsF e at_).2]) ∧ Below w.heap.size w w' := by
  have HM := Lib.hid hm
  have HA := Lib.hid hA
  have HK := Lib.hid (refIs_any e A c m w hm hm2 hA)
  have HSP := Lib.hid (refSpans_any e A c m w hm hm2 hA)
  clear hm hA
  obtain ⟨z, HZ⟩ : ∃ z, Hid (isF e = z) := ⟨_, Lib.hid rfl⟩
  obtain ⟨x1, y1, HXY⟩ : ∃ x1 y1, Hid (kidsF e at_ = (x1, y1)) := ⟨_, _, Lib.hid rfl⟩
  rw [HXY.out]
  have HNO : Hid ((¬ (isF e = true ∧ 0 ≤ at_ ∧ at_ < e.length ∧ kT (e.getD at_.toNat (0, 0)).1 ≠ 0)) → x1 = -1 ∧ y1 = -1) := Lib.hid (fun h => by
    have h2 := HXY.out
    unfold kidsF at h2
    rw [if_neg h] at h2
    injection h2 with h3 h4
    exact ⟨h3.symm, h4.symm⟩)
  cases z with
  | false =>
    have HE := Lib.hid (HNO.out (fun h => by rw [HZ.out] at h; exact absurd h.1 (by decide)))
    clear HNO
    go_enter Tryd.func33, Tryd.ntmps33
    go_wp2_with fail
    refine HK.out.mono ?_
    rw [HZ.out]
    rintro x w1 ⟨rfl, rfl⟩
    go_wp2
    go_ret2
    exact ⟨by rw [HE.out.1, HE.out.2]; rfl, Below.refl _ _⟩
  | true =>
    by_cases hlo : at_ < 0
    · have HE := Lib.hid (HNO.out (fun h => by omega))
      clear HNO
      go_enter Tryd.func33, Tryd.ntmps33
      go_wp2_with fail
      refine HK.out.mono ?_
      rw [HZ.out]
      rintro x w1 ⟨rfl, rfl⟩
      go_wp2
      go_ret2
      exact ⟨by rw [HE.out.1, HE.out.2]; rfl, Below.refl _ _⟩
    · obtain ⟨k, rfl⟩ : ∃ k : Nat, at_ = k := ⟨at_.toNat, by omega⟩
      clear hlo
      by_cases hhi : k < m
      · obtain ⟨b, o, rfl, hb, hc⟩ := HA.out (by rw [← HM.out]; omega)
        obtain ⟨c1, _⟩ := hc k (by rw [← HM.out]; exact hhi)
        obtain ⟨op, HOP⟩ : ∃ op, Hid ((e.getD k (0, 0)).1 = op) := ⟨_, Lib.hid rfl⟩
        rw [HOP.out] at c1
        clear hc
        have HI : Hid (wrF 0 e = 0) := Lib.hid (isF_iff.1 HZ.out)
        have HT0 : Hid (0 ≤ kT op) := Lib.hid (by
          obtain ⟨st, _, h2⟩ := Ok.of_is HI.out k (by rw [← HM.out]; omega)
          have := (ndW_ok (h2 (by rw [← HM.out]; exact hhi))).1
          rw [HOP.out] at this
          exact this)
        have HYES : Hid (kT op ≠ 0 → (x1, y1) = if kT op = 1 then ((k : Int) - 1, -1) else ((outF e e.length).getD (k - 1) 0 - 1, (k : Int) - 1)) := Lib.hid (fun h => by
          rw [← HXY.out]
          unfold kidsF
          have e1 : ((k : Int)).toNat = k := Int.toNat_natCast k
          rw [e1, HOP.out, if_pos ⟨HZ.out, by omega, by rw [← HM.out]; omega, h⟩, show ((k : Int) - 1).toNat = k - 1 by omega])
        have hk3 : kT op = 0 ∨ kT op = 1 ∨ kT op = 2 := by have := kT_range op; have := HT0.out; omega
        rcases hk3 with h | h | h
        · have HE := Lib.hid (HNO.out (fun hh => hh.2.2.2 (by rw [Int.toNat_natCast, HOP.out]; exact h)))
          have HT := Lib.hid h
          clear HNO h HYES
          go_enter Tryd.func33, Tryd.ntmps33
          go_wp2_with fail
          refine HK.out.mono ?_
          rw [HZ.out]
          rintro x w1 ⟨rfl, rfl⟩
          go_wp2_with fail
          refine (refTakes_any op w).mono ?_
          rw [HT.out]
          rintro x w' ⟨rfl, rfl⟩
          go_wp2
          go_ret2
          exact ⟨by rw [HE.out.1, HE.out.2]; rfl, Below.refl _ _⟩
        · have HE : Hid (x1 = (k : Int) - 1 ∧ y1 = -1) := Lib.hid (by
            have h2 := HYES.out (by omega)
            rw [if_pos h] at h2
            injection h2 with h3 h4
            exact ⟨h3, h4⟩)
          have HT := Lib.hid h
          clear HNO h HYES
          go_enter Tryd.func33, Tryd.ntmps33
          go_wp2_with fail
          refine HK.out.mono ?_
          rw [HZ.out]
          rintro x w1 ⟨rfl, rfl⟩
          go_wp2_with fail
          refine (refTakes_any op w).mono ?_
          rw [HT.out]
          rintro x w' ⟨rfl, rfl⟩
          go_wp2_with fail
          refine (refTakes_any op w).mono ?_
          rw [HT.out]
          rintro x w' ⟨rfl, rfl⟩
          go_wp2
          go_ret2
          exact ⟨by rw [HE.out.1, HE.out.2]; rfl, Below.refl _ _⟩
        · have HE : Hid (x1 = (outF e e.length).getD (k - 1) 0 - 1 ∧ y1 = (k : Int) - 1) := Lib.hid (by
            have h2 := HYES.out (by omega)
            rw [if_neg (by omega)] at h2
            injection h2 with h3 h4
            exact ⟨h3, h4⟩)
          have HT := Lib.hid h
          have hk2 : 2 ≤ k := by
            obtain ⟨st, h1, h2⟩ := Ok.of_is HI.out k (by rw [← HM.out]; omega)
            have h3 := (ndW_ok (h2 (by rw [← HM.out]; exact hhi))).2.1
            rw [HOP.out, h] at h3
            have := h1.1.len
            omega
          have HS : Hid (spansL e = outF e e.length) := Lib.hid (spansL_is HI.out)
          have HBD : Hid (0 ≤ (outF e e.length).getD (k - 1) 0 ∧ (outF e e.length).getD (k - 1) 0 ≤ 1000) := Lib.hid (by
            obtain ⟨st, h1, h2⟩ := Ok.of_is HI.out k (by rw [← HM.out]; omega)
            obtain ⟨j, rfl⟩ : ∃ j, k = j + 1 := ⟨k - 1, by omega⟩
            obtain ⟨s, st', _, g1, g2, g3, _⟩ := h1.1.pos
            rw [Nat.add_sub_cancel, outF_take e (show j < j + 1 by omega) (by rw [← HM.out]; omega), g3]
            omega)
          obtain ⟨v, HV⟩ : ∃ v, Hid ((outF e e.length).getD (k - 1) 0 = v) := ⟨_, Lib.hid rfl⟩
          rw [HV.out] at HE HBD
          obtain ⟨v0, v1⟩ := HBD.out
          clear HNO h HYES HBD
          go_enter Tryd.func33, Tryd.ntmps33
          go_wp2_with fail
          refine HK.out.mono ?_
          rw [HZ.out]
          rintro x w1 ⟨rfl, rfl⟩
          go_wp2_with fail
          refine (refTakes_any op w).mono ?_
          rw [HT.out]
          rintro x w' ⟨rfl, rfl⟩
          go_wp2_with fail
          refine (refTakes_any op w).mono ?_
          rw [HT.out]
          rintro x w' ⟨rfl, rfl⟩
          go_wp2_with fail
          refine HSP.out.mono ?_
          rintro x w3 ⟨A3, c3, rfl, h3, hb3⟩
          have HB3 := Lib.hid hb3
          rw [HS.out] at h3 ⊢
          have HL : Hid ((outF e e.length).length = m) := Lib.hid (by rw [outF_len, HM.out])
          obtain ⟨b3, o3, rfl, hb3', hc3⟩ := h3.ia (by rw [HL.out]; omega)
          have c3' := hc3 (k - 1) (by rw [HL.out]; omega)
          rw [HV.out] at c3'
          rw [HL.out]
          obtain ⟨j, rfl⟩ : ∃ j, k = j + 1 := ⟨k - 1, by omega⟩
          rw [Nat.add_sub_cancel] at c3'
          clear h3 hb3 hc3
          go_wp2
          go_ret2
          exact ⟨by rw [HE.out.1, HE.out.2]; first | rfl | (congr 2; simp), HB3.out⟩
      · have HE := Lib.hid (HNO.out (fun h => by have := HM.out; omega))
        have hge : m ≤ k := by omega
        clear HNO hhi
        go_enter Tryd.func33, Tryd.ntmps33
        go_wp2_with fail
        refine HK.out.mono ?_
        rw [HZ.out]
        rintro x w1 ⟨rfl, rfl⟩
        go_wp2
        go_ret2
        exact ⟨by rw [HE.out.1, HE.out.2]; rfl, Below.refl _ _⟩
end Go.Proofs.YtgnflnfajkoibaaDoor.lt
namespace Go.Proofs.YtgnflnfajkoibaaDoor.tx
open Go.ChangeShapes Go.WideShapes Go.ChangeAt Go.RowKit Go.Deep sr lt

theorem ops_cases {o : Opr} (h : o ∈ opsQ) : o = ⟨1, [116, 114, 117, 101], 5, 0, 0⟩ ∨ o = ⟨2, [102, 97, 108, 115, 101], 5, 0, 0⟩ ∨ o = ⟨4, [33], 5, 0, 5⟩ ∨ o = ⟨8, [88], 5, 0, 5⟩ ∨ o = ⟨11, [70], 5, 0, 5⟩ ∨ o = ⟨12, [71], 5, 0, 5⟩ ∨ o = ⟨9, [85], 4, 5, 4⟩ ∨ o = ⟨10, [82], 4, 5, 4⟩ ∨ o = ⟨5, [38, 38], 3, 3, 4⟩ ∨ o = ⟨6, [124, 124], 2, 2, 3⟩ ∨ o = ⟨7, [61, 62], 1, 2, 1⟩ := by
  unfold opsQ at h
  simpa only [List.mem_cons, List.not_mem_nil, or_false] using h
set_option maxRecDepth 20000 in
theorem refBinds_any {op : Int} {o : Opr} (h : opO op = some o) (w : World) : Calls Tryd.prog 32 #[.int .i64 op] w fun e w' => e = .returned (.int .i64 o.bd) ∧ w = w' := by
  obtain ⟨hm, ho⟩ := opO_mem h
  subst ho
  clear h
  rcases ops_cases hm with rfl | rfl | rfl | rfl | rfl | rfl | rfl | rfl | rfl | rfl | rfl
  all_goals
    clear hm
    dsimp only
    go_enter Tryd.func32, Tryd.ntmps32
    go_wp2
    go_ret
    exact ⟨rfl, rfl⟩
set_option maxRecDepth 20000 in
theorem refBinds_prop (w : World) : Calls Tryd.prog 32 #[.int .i64 3] w fun e w' => e = .returned (.int .i64 5) ∧ w = w' := by
  go_enter Tryd.func32, Tryd.ntmps32
  go_wp2
  go_ret
  exact ⟨rfl, rfl⟩
set_option maxRecDepth 20000 in
theorem refSign_any {op : Int} {o : Opr} (h : opO op = some o) (w : World) : Calls Tryd.prog 34 #[.int .i64 op] w fun e w' => e = .returned (.string (sgA o)) ∧ w = w' := by
  obtain ⟨hm, ho⟩ := opO_mem h
  subst ho
  clear h
  rcases ops_cases hm with rfl | rfl | rfl | rfl | rfl | rfl | rfl | rfl | rfl | rfl | rfl
  all_goals
    clear hm
    dsimp only
    go_enter Tryd.func34, Tryd.ntmps34
    go_wp2
    go_ret
    exact ⟨rfl, rfl⟩
theorem not_name (l : List UInt8) (h : l = [33] ∨ l = [38, 38] ∨ l = [124, 124] ∨ l = [61, 62]) : lx.nameB ⟨l.toArray⟩ = false := by
  rcases h with rfl | rfl | rfl | rfl <;> kernel_rfl
def kwL : List (List UInt8) := [[88], [70], [71], [85], [82], [116, 114, 117, 101], [102, 97, 108, 115, 101]]
theorem wr_kw {l : List UInt8} (h : l ∈ kwL) : (wrO l).isSome = true := by
  unfold kwL at h
  simp only [List.mem_cons, List.not_mem_nil, or_false] at h
  rcases h with rfl | rfl | rfl | rfl | rfl | rfl | rfl <;> rfl
theorem wr_not {s : ByteArray} (hn : lx.nameB s = true) (h : s.data.toList ∉ kwL) : (wrO s.data.toList).isSome = false := by
  rcases hw : wrO s.data.toList with _ | o
  · rfl
  · exfalso
    obtain ⟨h1, h2⟩ := wrO_mem hw
    have key : ∀ l : List UInt8, s.data.toList = l → lx.nameB ⟨l.toArray⟩ = true := fun l e => by
      subst e
      rw [mk_data]
      exact hn
    rcases ops_cases h1 with rfl | rfl | rfl | rfl | rfl | rfl | rfl | rfl | rfl | rfl | rfl
    all_goals
      dsimp only at h2
      first
        | (refine h ?_; rw [← h2]; unfold kwL; decide)
        | (have := key _ h2.symm; rw [not_name _ (by simp)] at this; cases this)
theorem bl_eq (s : ByteArray) (l : List UInt8) : (s.toList == l) = decide (s.data.toList = l) := by
  rw [ByteArray.toList_eq]
  by_cases h : s.data.toList = l
  · rw [h]; simp
  · rw [decide_eq_false h, beq_eq_false_iff_ne]; exact h
set_option maxRecDepth 20000 in
set_option maxHeartbeats 4000000 in
theorem refMay_any (A : Option Addr) (n c i : Nat) (N : List ByteArray) (w : World) (h : NmS w A n c N) (hi : i < n) : Calls Tryd.prog 18 #[.slice A n c, .int .i64 i] w (BoolP (mayB N i) w) := by
  obtain ⟨b, o, rfl, hb, c1⟩ := str_at h.rs (i := i) (by rw [← h.ln]; exact hi)
  have H := Lib.hid h
  obtain ⟨s, HS⟩ : ∃ s, Hid (N.getD i default = s) := ⟨_, Lib.hid rfl⟩
  rw [HS.out] at c1
  obtain ⟨q1, HQ1⟩ : ∃ q, Hid (lx.nameB s = q) := ⟨_, Lib.hid rfl⟩
  have HNA := Lib.hid (lx.refName_any s w)
  rw [HQ1.out] at HNA
  obtain ⟨v, HV⟩ : ∃ v, Hid (mayB N i = v) := ⟨_, Lib.hid rfl⟩
  rw [HV.out]
  have HM : Hid (v = (q1 && (!(wrO s.data.toList).isSome && !conB (N.take i) s))) := Lib.hid (by rw [← HV.out]; unfold mayB; rw [HS.out, HQ1.out])
  clear h HV
  cases q1 with
  | false =>
    have HE : Hid (v = false) := Lib.hid HM.out
    go_enter Tryd.func18, Tryd.ntmps18
    go_wp2_with fail
    refine HNA.out.mono ?_
    rintro e w1 ⟨rfl, hb1⟩
    have HB1 := Lib.hid hb1
    clear hb1 c1
    go_wp2
    go_ret
    exact ⟨by rw [HE.out]; rfl, HB1.out⟩
  | true =>
    by_cases hk : s.data.toList ∈ kwL
    · have HE : Hid (v = false) := Lib.hid (by rw [HM.out, wr_kw hk]; rfl)
      have hk2 := hk
      unfold kwL at hk2
      simp only [List.mem_cons, List.not_mem_nil, or_false] at hk2
      clear hk HM HQ1
      rcases hk2 with e | e | e | e | e | e | e
      · have b1 : (s.toList == [88]) = true := by rw [bl_eq, e]; rfl
        have b2 : (s.toList == [70]) = false := by rw [bl_eq, e]; rfl
        have b3 : (s.toList == [71]) = false := by rw [bl_eq, e]; rfl
        have b4 : (s.toList == [85]) = false := by rw [bl_eq, e]; rfl
        have b5 : (s.toList == [82]) = false := by rw [bl_eq, e]; rfl
        have b6 : (s.toList == [116, 114, 117, 101]) = false := by rw [bl_eq, e]; rfl
        have b7 : (s.toList == [102, 97, 108, 115, 101]) = false := by rw [bl_eq, e]; rfl
        clear e
        go_enter Tryd.func18, Tryd.ntmps18
        go_wp2_with fail
        refine HNA.out.mono ?_
        rintro e w1 ⟨rfl, hb1⟩
        have HB1 := Lib.hid hb1
        clear hb1 c1
        go_wp2
        go_ret
        exact ⟨by rw [HE.out]; rfl, HB1.out⟩
      · have b1 : (s.toList == [88]) = false := by rw [bl_eq, e]; rfl
        have b2 : (s.toList == [70]) = true := by rw [bl_eq, e]; rfl
        have b3 : (s.toList == [71]) = false := by rw [bl_eq, e]; rfl
        have b4 : (s.toList == [85]) = false := by rw [bl_eq, e]; rfl
        have b5 : (s.toList == [82]) = false := by rw [bl_eq, e]; rfl
        have b6 : (s.toList == [116, 114, 117, 101]) = false := by rw [bl_eq, e]; rfl
        have b7 : (s.toList == [102, 97, 108, 115, 101]) = false := by rw [bl_eq, e]; rfl
        clear e
        go_enter Tryd.func18, Tryd.ntmps18
        go_wp2_with fail
        refine HNA.out.mono ?_
        rintro e w1 ⟨rfl, hb1⟩
        have HB1 := Lib.hid hb1
        clear hb1 c1
        go_wp2
        go_ret
        exact ⟨by rw [HE.out]; rfl, HB1.out⟩
      · have b1 : (s.toList == [88]) = false := by rw [bl_eq, e]; rfl
        have b2 : (s.toList == [70]) = false := by rw [bl_eq, e]; rfl
        have b3 : (s.toList == [71]) = true := by rw [bl_eq, e]; rfl
        have b4 : (s.toList == [85]) = false := by rw [bl_eq, e]; rfl
        have b5 : (s.toList == [82]) = false := by rw [bl_eq, e]; rfl
        have b6 : (s.toList == [116, 114, 117, 101]) = false := by rw [bl_eq, e]; rfl
        have b7 : (s.toList == [102, 97, 108, 115, 101]) = false := by rw [bl_eq, e]; rfl
        clear e
        go_enter Tryd.func18, Tryd.ntmps18
        go_wp2_with fail
        refine HNA.out.mono ?_
        rintro e w1 ⟨rfl, hb1⟩
        have HB1 := Lib.hid hb1
        clear hb1 c1
        go_wp2
        go_ret
        exact ⟨by rw [HE.out]; rfl, HB1.out⟩
      · have b1 : (s.toList == [88]) = false := by rw [bl_eq, e]; rfl
        have b2 : (s.toList == [70]) = false := by rw [bl_eq, e]; rfl
        have b3 : (s.toList == [71]) = false := by rw [bl_eq, e]; rfl
        have b4 : (s.toList == [85]) = true := by rw [bl_eq, e]; rfl
        have b5 : (s.toList == [82]) = false := by rw [bl_eq, e]; rfl
        have b6 : (s.toList == [116, 114, 117, 101]) = false := by rw [bl_eq, e]; rfl
        have b7 : (s.toList == [102, 97, 108, 115, 101]) = false := by rw [bl_eq, e]; rfl
        clear e
        go_enter Tryd.func18, Tryd.ntmps18
        go_wp2_with fail
        refine HNA.out.mono ?_
        rintro e w1 ⟨rfl, hb1⟩
        have HB1 := Lib.hid hb1
        clear hb1 c1
        go_wp2
        go_ret
        exact ⟨by rw [HE.out]; rfl, HB1.out⟩
      · have b1 : (s.toList == [88]) = false := by rw [bl_eq, e]; rfl
        have b2 : (s.toList == [70]) = false := by rw [bl_eq, e]; rfl
        have b3 : (s.toList == [71]) = false := by rw [bl_eq, e]; rfl
        have b4 : (s.toList == [85]) = false := by rw [bl_eq, e]; rfl
        have b5 : (s.toList == [82]) = true := by rw [bl_eq, e]; rfl
        have b6 : (s.toList == [116, 114, 117, 101]) = false := by rw [bl_eq, e]; rfl
        have b7 : (s.toList == [102, 97, 108, 115, 101]) = false := by rw [bl_eq, e]; rfl
        clear e
        go_enter Tryd.func18, Tryd.ntmps18
        go_wp2_with fail
        refine HNA.out.mono ?_
        rintro e w1 ⟨rfl, hb1⟩
        have HB1 := Lib.hid hb1
        clear hb1 c1
        go_wp2
        go_ret
        exact ⟨by rw [HE.out]; rfl, HB1.out⟩
      · have b1 : (s.toList == [88]) = false := by rw [bl_eq, e]; rfl
        have b2 : (s.toList == [70]) = false := by rw [bl_eq, e]; rfl
        have b3 : (s.toList == [71]) = false := by rw [bl_eq, e]; rfl
        have b4 : (s.toList == [85]) = false := by rw [bl_eq, e]; rfl
        have b5 : (s.toList == [82]) = false := by rw [bl_eq, e]; rfl
        have b6 : (s.toList == [116, 114, 117, 101]) = true := by rw [bl_eq, e]; rfl
        have b7 : (s.toList == [102, 97, 108, 115, 101]) = false := by rw [bl_eq, e]; rfl
        clear e
        go_enter Tryd.func18, Tryd.ntmps18
        go_wp2_with fail
        refine HNA.out.mono ?_
        rintro e w1 ⟨rfl, hb1⟩
        have HB1 := Lib.hid hb1
        clear hb1 c1
        go_wp2
        go_ret
        exact ⟨by rw [HE.out]; rfl, HB1.out⟩
      · have b1 : (s.toList == [88]) = false := by rw [bl_eq, e]; rfl
        have b2 : (s.toList == [70]) = false := by rw [bl_eq, e]; rfl
        have b3 : (s.toList == [71]) = false := by rw [bl_eq, e]; rfl
        have b4 : (s.toList == [85]) = false := by rw [bl_eq, e]; rfl
        have b5 : (s.toList == [82]) = false := by rw [bl_eq, e]; rfl
        have b6 : (s.toList == [116, 114, 117, 101]) = false := by rw [bl_eq, e]; rfl
        have b7 : (s.toList == [102, 97, 108, 115, 101]) = true := by rw [bl_eq, e]; rfl
        clear e
        go_enter Tryd.func18, Tryd.ntmps18
        go_wp2_with fail
        refine HNA.out.mono ?_
        rintro e w1 ⟨rfl, hb1⟩
        have HB1 := Lib.hid hb1
        clear hb1 c1
        go_wp2
        go_ret
        exact ⟨by rw [HE.out]; rfl, HB1.out⟩
    · have HM2 : Hid (v = !conB (N.take i) s) := Lib.hid (by rw [HM.out, wr_not HQ1.out hk]; rfl)
      have key : ∀ l, l ∈ kwL → (s.toList == l) = false := fun l hl => by
        rw [bl_eq]
        exact decide_eq_false (fun e => hk (by rw [e]; exact hl))
      have b1 := key [88] (by decide)
      have b2 := key [70] (by decide)
      have b3 := key [71] (by decide)
      have b4 := key [85] (by decide)
      have b5 := key [82] (by decide)
      have b6 := key [116, 114, 117, 101] (by decide)
      have b7 := key [102, 97, 108, 115, 101] (by decide)
      clear hk key HM
      have HTL : Hid ((N.take i).length = i) := Lib.hid (by rw [List.length_take, ← H.out.ln]; omega)
      obtain ⟨z, HZ⟩ : ∃ z, Hid (ixF (N.take i) s 0 = z) := ⟨_, Lib.hid rfl⟩
      have HVZ : Hid (v = decide (z < 0)) := Lib.hid (by
        rw [HM2.out]
        unfold conB
        rw [HZ.out]
        by_cases h0 : 0 ≤ z
        · rw [decide_eq_true h0, decide_eq_false (by omega)]; rfl
        · rw [decide_eq_false h0, decide_eq_true (by omega)]; rfl)
      have hi9 : i ≤ 1000000 := by have := H.out.mx; omega
      go_enter Tryd.func18, Tryd.ntmps18
      go_wp2_with fail
      refine HNA.out.mono ?_
      rintro e w1 ⟨rfl, hb1⟩
      have HB1 := Lib.hid hb1
      clear hb1 c1
      go_wp2
      clear b1 b2 b3 b4 b5 b6 b7
      go_loopw [6] (fun iv wr => ∃ k : Nat, k ≤ i ∧ iv = .int .i64 k ∧ Hid (z = ixF ((N.take i).drop k) s k) ∧ w1 = wr) (fun iv _ => i - (intOf iv).toNat)
      case atStart => exact ⟨0, Nat.zero_le _, rfl, Lib.hid HZ.out.symm, rfl⟩
      case round =>
        obtain ⟨k, hk, rfl, HF, rfl⟩ := hrel
        by_cases hlt : k < i
        · have hki : (k : Int) < i := by omega
          have HD := Lib.hid (ixF_drop (l := N.take i) (s := s) (i := k) (by rw [HTL.out]; exact hlt))
          have hkn : k < n := by omega
          have hkni : (k : Int) < n := by omega
          obtain ⟨b2, o2, e2, hb2, c2⟩ := str_at (H.out.rs.below HB1.out) (i := k) (by rw [← H.out.ln]; exact hkn)
          injection e2 with e2
          injection e2 with e3 e4
          subst e3
          subst e4
          have hx : (N.take i).getD k default = N.getD k default := by simp [List.getD, List.getElem?_take, hlt]
          rw [hx] at HD
          obtain ⟨x, HX⟩ : ∃ x, Hid (N.getD k default = x) := ⟨_, Lib.hid rfl⟩
          rw [HX.out] at c2 HD
          obtain ⟨q, HQ⟩ : ∃ q, Hid (decide (x = s) = q) := ⟨_, Lib.hid rfl⟩
          have hq : (x.toList == s.toList) = q := by rw [str_eq]; exact HQ.out
          clear hx
          cases q with
          | true =>
            have HE : Hid (v = false) := Lib.hid (by
              rw [HVZ.out, HF.out, HD.out, if_pos (of_decide_eq_true HQ.out)]
              exact decide_eq_false (by omega))
            go_wp2
            go_ret
            exact ⟨by rw [HE.out]; rfl, HB1.out⟩
          | false =>
            have HF2 : Hid (z = ixF ((N.take i).drop (k + 1)) s (k + 1)) := Lib.hid (by rw [HF.out, HD.out, if_neg (of_decide_eq_false HQ.out)])
            go_wp2
            go_roundw
            case rel => exact ⟨k + 1, by omega, by go_num, HF2, by first | rfl | trivial⟩
            case measure => simp [intOf]; omega
        · obtain rfl : k = i := by omega
          have hki : ¬ (k : Int) < k := by omega
          have HE : Hid (v = true) := Lib.hid (by
            rw [HVZ.out, HF.out, List.drop_of_length_le (by rw [HTL.out]; exact Nat.le_refl _)]
            rfl)
          go_wp2
          go_ret
          exact ⟨by rw [HE.out]; rfl, HB1.out⟩
end Go.Proofs.YtgnflnfajkoibaaDoor.tx
