/- The law LexTexts: its argument, its walk. -/
import Derived.Test.YtcielemahmpppaaDoorLexTextI
import Derived.Test.YtcielemahmpppaaDoorLexScansLaw
import Derived.Test.YtcielemahmpppaaDoorLexRefName
import Derived.Test.YtcielemahmpppaaDoorOpensSt
namespace Go.Proofs.YtcielemahmpppaaDoor.lx
open Go.ChangeShapes Go.WideShapes Go.ChangeAt Go.RowKit Go.Deep Go.Proofs.YtcielemahmpppaaDoor.sr
open Go.Proofs.YtcielemahmpppaaDoor.dcl (Wt open_structs wt_arg string_cell int_cell getD_range)

def NumsAll (L : List TokI) : Prop := ∀ t ∈ L, -9223372036854775808 ≤ t.num ∧ t.num ≤ 9223372036854775807
set_option maxRecDepth 100000 in
theorem open_toks {H : Type} {enc : TypeId × Value → H} {W : World} {base : Nat} {v : Value} {d : DataW H} {ps : List MemPlace} (hv : Value.okWide Tryd.prog W .any base 27 v) (h : DataW.Trod enc Tryd.prog W 0 (fun _ => true) true 27 v d ps)
    {ts : List TypeId} {ds : List (DataW H)} (hsz : (DataW.weightsEach Tryd.prog ts ds).all (· ≤ reachBytes) = true) (j : Nat) (htj : ts[j]? = some 27) (hdj : ds[j]? = some d) :
    ∃ A c L, v = .slice A L.length c ∧ TRI W A L ∧ NumsAll L := by
  obtain ⟨a0, len0, cap, rfl⟩ := okWide_slice Tryd.underlying27 hv
  obtain ⟨fuel, hf0⟩ := h
  have hf' : DataW.trod enc Tryd.prog W 0 (fun _ => true) true fuel 27 [.slice a0 len0 cap] = some (d, ps) := by simpa [Value.cells] using hf0
  obtain ⟨A, len, c, e, _, _, _, _, hg⟩ := open_structs Tryd.underlying27 Tryd.underlying34 (by kernel_rfl) (by kernel_rfl) (by decide) hf' (wt_arg hsz htj hdj)
  rw [e]
  by_cases h0 : 0 < len
  · obtain ⟨b, off, rfl, hlt, hf⟩ := hg h0
    obtain ⟨R, hR⟩ := choose_lt (α := TokI) (n := len) (p := fun i r => (∀ j, j < 4 → W.cell? ⟨b, off + i * 4 + j, none⟩ = (cellI r)[j]?) ∧ (-9223372036854775808 ≤ r.num ∧ r.num ≤ 9223372036854775807)) (fun i hi => by
      obtain ⟨u0, y0, m0, g0, t0, w0⟩ := hf i hi 0 _ rfl
      obtain ⟨u1, y1, m1, g1, t1, w1⟩ := hf i hi 1 _ rfl
      obtain ⟨u2, y2, m2, g2, t2, w2⟩ := hf i hi 2 _ rfl
      obtain ⟨u3, y3, m3, g3, t3, w3⟩ := hf i hi 3 _ rfl
      obtain ⟨z0, rfl, _⟩ := int_cell Tryd.underlying3 t0
      obtain ⟨z1, rfl, b1⟩ := int_cell Tryd.underlying3 t1
      obtain ⟨z2, rfl, _⟩ := int_cell Tryd.underlying3 t2
      obtain ⟨z3, rfl, _⟩ := string_cell Tryd.underlying9 t3 w3
      refine ⟨⟨z0, z1, z2, z3⟩, fun j hj => ?_, ?_⟩
      · obtain rfl | rfl | rfl | rfl : j = 0 ∨ j = 1 ∨ j = 2 ∨ j = 3 := by omega
        · exact g0
        · exact g1
        · exact g2
        · exact g3
      · simp only [Lit.wf, Bool.and_eq_true, decide_eq_true_eq] at b1
        have e1 : IntKind.i64.min = -9223372036854775808 := rfl
        have e2 : IntKind.i64.max = 9223372036854775807 := rfl
        show -9223372036854775808 ≤ z1 ∧ z1 ≤ 9223372036854775807
        omega)
    refine ⟨_, c, (List.range len).map R, by simp, fun _ => ⟨b, off, rfl, hlt, fun i hi j hj => ?_⟩, fun z hz => ?_⟩
    · simp only [List.length_map, List.length_range] at hi
      rw [getD_range R default hi]
      exact (hR i hi).1 j hj
    · obtain ⟨i, hi, rfl⟩ := List.mem_map.1 hz
      exact (hR i (List.mem_range.1 hi)).2
  · obtain rfl : len = 0 := by omega
    exact ⟨A, c, [], rfl, fun h => absurd h (by simp), fun z hz => by simp at hz⟩
set_option maxRecDepth 100000 in
set_option maxHeartbeats 4000000 in
theorem lexTexts_any (L : List TokI) (A : Option Addr) (n c : Nat) (s : ByteArray) (w : World) (hn : n = L.length) (hr : TRI w A L) (hnum : NumsAll L) (h : LexW w) :
    Calls Tryd.prog 4 #[.slice A n c, .string s] w fun e w' => e = .returned (.bool true) ∧ Below w.heap.size w w' := by
  have HW := Lib.hid h
  have HR := Lib.hid hr
  have HN := Lib.hid hn
  have HNUM := Lib.hid hnum
  clear h hr hn hnum
  by_cases hz : 100 < n
  · have g : (100 : Int) < (n : Int) := by omega
    go_enter Tryd.func4, Tryd.ntmps4
    go_wp2_with fail
    refine (awake_any _ HW.out).mono ?_
    rintro e w1 ⟨rfl, hb1⟩
    go_wp2
    go_ret
    exact ⟨rfl, hb1⟩
  · have g : ¬ (100 : Int) < (n : Int) := by omega
    go_enter Tryd.func4, Tryd.ntmps4
    go_wp2
    go_loop [5] (fun i => ∃ k : Nat, k ≤ n ∧ i = .int .i64 k ∧ Hid (∀ j, j < k → (L.getD j default).text.size ≤ 100)) (fun i => n - (intOf i).toNat)
    case atStart => exact ⟨0, Nat.zero_le _, rfl, Lib.hid (fun j hj => absurd hj (Nat.not_lt_zero _))⟩
    case round =>
      obtain ⟨k, hk, rfl, HK⟩ := hrel
      by_cases hlt : k < n
      · obtain ⟨b, o, rfl, hb, hc⟩ := HR.out (by rw [← HN.out]; omega)
        have q3 := hc k (by rw [← HN.out]; exact hlt) 3 (by decide)
        obtain ⟨t, HT⟩ : ∃ t, Hid (L.getD k default = t) := ⟨_, Lib.hid rfl⟩
        rw [HT.out] at q3
        obtain ⟨t0, t1, t2, t3⟩ := t
        simp only [cellI, List.getElem?_cons_zero, List.getElem?_cons_succ] at q3
        clear hc
        by_cases h3 : 100 < t3.size
        · have g3 : (100 : Int) < (t3.size : Int) := by omega
          go_wp2_with fail
          clear q3
          refine (awake_any _ HW.out).mono ?_
          rintro e w1 ⟨rfl, hb1⟩
          go_wp2
          go_ret
          exact ⟨rfl, hb1⟩
        · have g3 : ¬ (100 : Int) < (t3.size : Int) := by omega
          have HK2 : Hid (∀ j, j < k + 1 → (L.getD j default).text.size ≤ 100) := Lib.hid (fun j hj => by
            by_cases hjk : j = k
            · rw [hjk, HT.out]; show t3.size ≤ 100; omega
            · exact HK.out j (by omega))
          go_wp2
          go_round
          case rel => exact ⟨k + 1, by omega, by go_num, HK2⟩
          case measure => simp [intOf]; omega
      · obtain rfl : k = n := by omega
        have HTX : Hid (∀ t ∈ L, t.text.size ≤ 100) := Lib.hid (fun t ht => by
          obtain ⟨i, hi, rfl⟩ := List.getElem_of_mem ht
          have := HK.out i (by rw [HN.out]; exact hi)
          rwa [show L.getD i default = L[i] by simp [List.getD, hi]] at this)
        have HNI : Hid (NumsI L) := Lib.hid (fun t ht _ => HNUM.out t ht)
        have HLEN : Hid ((textI L).length ≤ 10100) := Lib.hid (by
          have := textI_len (L := L) (fun t ht => tokI_len (HNI.out t ht) (HTX.out t ht)) k (by rw [← HN.out]; exact Nat.le_refl _)
          rw [List.take_of_length_le (by rw [HN.out]; exact Nat.le_refl _)] at this
          omega)
        clear HK
        go_wp2_with fail
        refine (ownI_any L A k c _ HN.out (by omega) HR.out).mono ?_
        rintro e w1 ⟨v1, rfl, ho1, hb1⟩
        obtain ⟨A1, c1, rfl, hr1⟩ := OR.rs cellI_len ho1
        have HR1 := Lib.hid hr1
        have HB1 := Lib.hid hb1
        clear ho1 hr1 hb1
        rw [← HN.out]
        go_wp2_with fail
        refine (textI_any L A1 k c1 _ HN.out (by omega) HR1.out (HW.out.below HB1.out).tabs HNI.out (by have := HLEN.out; omega)).mono ?_
        rintro e w2 ⟨rfl, hb2⟩
        have HB2 : Hid (Below w.heap.size w w2) := Lib.hid (HB1.out.trans (hb2.mono HB1.out.size))
        clear hb2
        go_wp2_with fail
        refine (refText_any L A k c _ HN.out (by omega) (HR.out.below HB2.out) HNI.out HTX.out).mono ?_
        rintro e w3 ⟨rfl, hb3⟩
        have HB3 : Hid (Below w.heap.size w w3) := Lib.hid (HB2.out.trans (hb3.mono HB2.out.size))
        clear hb3
        generalize (⟨(textI L).toArray⟩ : ByteArray) = q
        go_wp2_with fail
        refine (name_any s _).mono ?_
        rintro e w4 ⟨rfl, hb4⟩
        have HB4 : Hid (Below w.heap.size w w4) := Lib.hid (HB3.out.trans (hb4.mono HB3.out.size))
        clear hb4
        go_wp2_with fail
        refine (refName_any s _).mono ?_
        rintro e w5 ⟨rfl, hb5⟩
        have HB5 : Hid (Below w.heap.size w w5) := Lib.hid (HB4.out.trans (hb5.mono HB4.out.size))
        clear hb5
        generalize nameB s = nb
        go_wp2_with fail
        refine (awake_any _ (HW.out.below HB5.out)).mono ?_
        rintro e w6 ⟨rfl, hb6⟩
        have HB6 : Hid (Below w.heap.size w w6) := Lib.hid (HB5.out.trans (hb6.mono HB5.out.size))
        clear hb6
        go_wp2
        go_ret
        exact ⟨rfl, HB6.out⟩
end Go.Proofs.YtcielemahmpppaaDoor.lx
