/- The law BitsLeaves: what a set's iterator tells, as far as one goes, is the start of the document's numbers, and the same when one goes again. No condition. -/
import Derived.Test.YtkpfglecgegjbaaRefBits
namespace Go.Proofs.Ytkpfglecgegjbaa.bitsLeaves
open Go.ChangeShapes Go.WideShapes Go.ChangeAt Go.RowKit

theorem ia_take {w : World} {A : Option Addr} {l : List Int} (h : IA w A l) (q : Nat) : IA w A (l.take q) := fun hn => by
  obtain ⟨b, off, e, hb, hc⟩ := h (by simp at hn; omega)
  exact ⟨b, off, e, hb, fun i hi => by
    have hi2 : i < q ∧ i < l.length := by simp at hi; omega
    rw [hc i hi2.2]
    simp [List.getD, hi2.1]⟩
theorem told_start (M : List Nat) (m q : Nat) (hq : q = min m M.length) : pli (M.take m) = (pli M).take q := by
  subst hq
  unfold pli
  rw [List.map_take]
  by_cases h : m ≤ M.length
  · rw [Nat.min_eq_left h]
  · rw [Nat.min_eq_right (by omega), List.take_of_length_le (by simp; omega), List.take_of_length_le (by simp)]
theorem oi_shape {base : Nat} {w : World} {v : Value} {l : List Int} (h : OI base w v l) : ∃ A c, v = .slice A l.length c ∧ IA w A l ∧ l.length ≤ c ∧ c ≤ maxLen ∧ (A = none ∧ c = 0 ∨ ∃ b, A = some ⟨b, 0, none⟩) := by
  obtain ⟨A, c, e, i⟩ := h.form
  refine ⟨A, c, e, i, ?_⟩
  rcases h.2 with ⟨e2, h0⟩ | ⟨g2, cap, cur, e2, _, _, h1, h2, _⟩
  · rw [e] at e2
    injection e2 with e3 e4 e5
    subst e5
    exact ⟨by omega, by unfold maxLen; omega, .inl ⟨e3, rfl⟩⟩
  · rw [e] at e2
    injection e2 with e3 e4 e5
    subst e5
    exact ⟨h1, h2, .inr ⟨_, e3⟩⟩

theorem large (A : Option Addr) (c : Nat) (n most : Int) (a : List Int) (w : World) (h : 300 < n ∨ 100 < a.length) (ha : a.length ≤ 17592186044416) :
    Calls Try.prog 6 #[.int .i64 n, .slice A a.length c, .int .u8 most] w (LawPost w) := by
  generalize a.length = x at h ha
  by_cases h1 : 300 < n
  · clear h
    go_enter Try.func6, Try.ntmps6
    go_wp2_with (go_at_call 16; refine (awake_any _).mono ?_; rintro e w' ⟨rfl, hbw⟩)
    go_ret
    exact ⟨rfl, hbw⟩
  · have h2 : 100 < x := by omega
    clear h
    go_enter Try.func6, Try.ntmps6
    go_wp2_with (go_at_call 16; refine (awake_any _).mono ?_; rintro e w' ⟨rfl, hbw⟩)
    go_ret
    exact ⟨rfl, hbw⟩
theorem below0 (A : Option Addr) (c : Nat) (n most : Int) (a : List Int) (w : World) (hA : IA w A a) (h : n < 0) (ha : a.length ≤ 100) :
    Calls Try.prog 6 #[.int .i64 n, .slice A a.length c, .int .u8 most] w (LawPost w) := by
  have HA := Lib.hid hA
  obtain ⟨x, HX⟩ : ∃ x, Hid (a.length = x) := ⟨_, Lib.hid rfl⟩
  rw [HX.out] at ha ⊢
  clear hA
  go_enter Try.func6, Try.ntmps6
  go_wp2_with fail
  refine (of_none n A c x a w HX.out.symm (by omega) HA.out (by have := HX.out; omega)).mono ?_
  rintro e w' ⟨rfl, rfl⟩
  go_wp2_with fail
  refine (refOf_none n A c x a w HX.out.symm (by omega) HA.out (by have := HX.out; omega)).mono ?_
  rintro e w' ⟨rfl, rfl⟩
  go_wp2_with fail
  refine (awake_any _).mono ?_
  rintro e w' ⟨rfl, hbw⟩
  go_wp2_with fail
  go_ret
  exact ⟨rfl, hbw⟩

set_option maxHeartbeats 1000000 in
theorem small (A : Option Addr) (c n q : Nat) (a : List Int) (w : World) (hA : IA w A a) (h : n ≤ 300) (ha : a.length ≤ 100) (hq : q ≤ 255) :
    Calls Try.prog 6 #[.int .i64 n, .slice A a.length c, .int .u8 q] w (LawPost w) := by
  have HA := Lib.hid hA
  obtain ⟨x, HX⟩ : ∃ x, Hid (a.length = x) := ⟨_, Lib.hid rfl⟩
  rw [HX.out] at ha ⊢
  clear hA
  go_enter Try.func6, Try.ntmps6
  go_wp2_with fail
  refine (of_some n A c x a w HX.out.symm (by omega) HA.out (by have := HX.out; omega)).mono ?_
  rintro e w1 ⟨s, t, rfl, h1, hs, ht, hb1⟩
  have H1 := Lib.hid h1
  have HW1 := Lib.hid hb1
  have HA1 : Hid (IA w1 A a) := Lib.hid (HA.out.below hb1)
  clear h1 hb1
  go_wp2_with fail
  refine (refOf_some n A c x a w1 HX.out.symm (by omega) HA1.out (by have := HX.out; omega)).mono ?_
  rintro e w2 ⟨b, rfl, h2, hb, hb2⟩
  generalize ofG n a = g at *
  have H2 := Lib.hid h2
  have K2 : Hid (ST w2 s t n g) := Lib.hid (H1.out.keep hb2)
  have HW2 : Hid (Below w.heap.size w w2) := Lib.hid (HW1.out.trans (hb2.mono HW1.out.size))
  clear h2 hb2 hb
  go_wp2_with fail
  refine (refAll_any _ n n g w2 (by omega) H2.out.ga).mono ?_
  rintro e w3 ⟨v, rfl, h3, hb3⟩
  have HM : Hid (memW g (SW n) = memN g n) := Lib.hid (mem_set K2.out.off)
  obtain ⟨M, HMM⟩ : ∃ M, Hid (memN g n = M) := ⟨_, Lib.hid rfl⟩
  have hML : M.length ≤ 300 := by have := memN_length g n; rw [HMM.out] at this; omega
  rw [HMM.out] at h3 HM
  have K3 : Hid (ST w3 s t n g) := Lib.hid (K2.out.keep hb3)
  have HW3 : Hid (Below w.heap.size w w3) := Lib.hid (HW2.out.trans (hb3.mono HW2.out.size))
  obtain ⟨A3, c3, rfl, i3, q3, r3, d3⟩ := oi_shape h3
  rw [pli_length] at *
  have I3 := Lib.hid i3
  clear h3 hb3 i3
  obtain ⟨y, HY⟩ : ∃ y, Hid (M.length = y) := ⟨_, Lib.hid rfl⟩
  rw [HY.out] at hML q3
  rw [HY.out]
  go_wp2_with fail
  have hk : 1 + (q : Int) = ((q + 1 : Nat) : Int) := by omega
  rw [hk]
  refine (numbers_any s t n (q + 1) g w3 K3.out (by omega) (by omega)).mono ?_
  rintro e w4 ⟨v4, rfl, h4, hb4⟩
  rw [HM.out] at h4
  obtain ⟨L, HL⟩ : ∃ L, Hid (M.take (q + 1) = L) := ⟨_, Lib.hid rfl⟩
  rw [HL.out] at h4
  obtain ⟨A4, c4, rfl, i4⟩ := h4.form
  rw [pli_length] at *
  have I4 := Lib.hid i4
  have J4 : Hid (IA w4 A3 (pli M)) := Lib.hid (I3.out.below hb4)
  have K4 : Hid (ST w4 s t n g) := Lib.hid (K3.out.keep hb4)
  have HW4 : Hid (Below w.heap.size w w4) := Lib.hid (HW3.out.trans (hb4.mono HW3.out.size))
  have HLL : Hid (L.length = min (q + 1) y) := Lib.hid (by rw [← HL.out, List.length_take, HY.out])
  clear h4 hb4 i4
  obtain ⟨z, HZ⟩ : ∃ z, Hid (L.length = z) := ⟨_, Lib.hid rfl⟩
  rw [HZ.out]
  clear hk
  go_wp2_with fail
  have hk2 : (q : Int) + 1 = ((q + 1 : Nat) : Int) := by omega
  rw [hk2]
  refine (numbers_any s t n (q + 1) g w4 K4.out (by omega) (by omega)).mono ?_
  rintro e w5 ⟨v5, rfl, h5, hb5⟩
  rw [HM.out, HL.out] at h5
  obtain ⟨A5, c5, rfl, i5⟩ := h5.form
  rw [pli_length] at *
  rw [HZ.out]
  have I5 := Lib.hid i5
  have J5 : Hid (IA w5 A3 (pli M)) := Lib.hid (J4.out.below hb5)
  have L5 : Hid (IA w5 A4 (pli L)) := Lib.hid (I4.out.below hb5)
  have HW5 : Hid (Below w.heap.size w w5) := Lib.hid (HW4.out.trans (hb5.mono HW4.out.size))
  clear h5 hb5 i5 hk2
  have hz1 : z ≤ y := by have := HLL.out; rw [HZ.out] at this; omega
  have HE : Hid (eqB (pli L) ((pli M).take z) = true) := Lib.hid (decide_eq_true (by rw [← HL.out]; exact told_start M (q + 1) z (by rw [← HZ.out, HLL.out, HY.out])))
  have HR : Hid (eqB (pli L) (pli L) = true) := Lib.hid (decide_eq_true rfl)
  have HL1 : Hid ((pli L).length ≤ maxLen) := Lib.hid (by rw [pli_length, HZ.out]; unfold maxLen; omega)
  have HL2 : Hid (((pli M).take z).length ≤ maxLen) := Lib.hid (by rw [List.length_take, pli_length, HY.out]; unfold maxLen; omega)
  have HM1 : Hid (z = (pli L).length) := Lib.hid (by rw [pli_length, HZ.out])
  have HM2 : Hid (z = ((pli M).take z).length) := Lib.hid (by rw [List.length_take, pli_length, HY.out]; omega)
  have hcase : z = q + 1 ∧ q + 1 ≤ y ∨ z = y ∧ y < q + 1 := by have := HLL.out; rw [HZ.out] at this; omega
  rcases d3 with ⟨rfl, rfl⟩ | ⟨b3, rfl⟩
  · obtain rfl : y = 0 := by omega
    obtain rfl : z = 0 := by omega
    clear hcase
    go_wp2_with fail
    refine (same_any A4 _ c4 _ _ _ (pli L) ((pli M).take 0) w5 HM1.out HM2.out L5.out (ia_take J5.out 0) HL1.out HL2.out).mono ?_
    rintro e w6 ⟨rfl, j6, rfl⟩
    rw [HE.out]
    go_wp2_with fail
    refine (same_any A5 A4 c5 c4 _ _ (pli L) (pli L) _ HM1.out HM1.out (I5.out.drewN _) (L5.out.drewN _) HL1.out HL1.out).mono ?_
    rintro e w7 ⟨rfl, j7, rfl⟩
    rw [HR.out]
    go_wp2_with fail
    refine (awake_any _).mono ?_
    rintro e w8 ⟨rfl, hb8⟩
    have HW8 : Hid (Below w.heap.size w w8) := Lib.hid ((below_drewN HW5.out _).trans (hb8.mono HW5.out.size))
    clear hb8
    go_wp2_with fail
    go_ret
    exact ⟨rfl, HW8.out⟩
  · rcases hcase with ⟨rfl, hc⟩ | ⟨rfl, hc⟩
    · clear hz1
      go_wp2_with fail
      refine (same_any A4 _ c4 _ _ _ (pli L) ((pli M).take (q + 1)) w5 HM1.out HM2.out L5.out (ia_take J5.out (q + 1)) HL1.out HL2.out).mono ?_
      rintro e w6 ⟨rfl, j6, rfl⟩
      rw [HE.out]
      go_wp2_with fail
      refine (same_any A5 A4 c5 c4 _ _ (pli L) (pli L) _ HM1.out HM1.out (I5.out.drewN _) (L5.out.drewN _) HL1.out HL1.out).mono ?_
      rintro e w7 ⟨rfl, j7, rfl⟩
      rw [HR.out]
      go_wp2_with fail
      refine (awake_any _).mono ?_
      rintro e w8 ⟨rfl, hb8⟩
      have HW8 : Hid (Below w.heap.size w w8) := Lib.hid ((below_drewN HW5.out _).trans (hb8.mono HW5.out.size))
      clear hb8
      go_wp2_with fail
      go_ret
      exact ⟨rfl, HW8.out⟩
    · clear hz1
      go_wp2_with fail
      refine (same_any A4 _ c4 _ _ _ (pli L) ((pli M).take z) w5 HM1.out HM2.out L5.out (ia_take J5.out z) HL1.out HL2.out).mono ?_
      rintro e w6 ⟨rfl, j6, rfl⟩
      rw [HE.out]
      go_wp2_with fail
      refine (same_any A5 A4 c5 c4 _ _ (pli L) (pli L) _ HM1.out HM1.out (I5.out.drewN _) (L5.out.drewN _) HL1.out HL1.out).mono ?_
      rintro e w7 ⟨rfl, j7, rfl⟩
      rw [HR.out]
      go_wp2_with fail
      refine (awake_any _).mono ?_
      rintro e w8 ⟨rfl, hb8⟩
      have HW8 : Hid (Below w.heap.size w w8) := Lib.hid ((below_drewN HW5.out _).trans (hb8.mono HW5.out.size))
      clear hb8
      go_wp2_with fail
      go_ret
      exact ⟨rfl, HW8.out⟩

theorem walk (A : Option Addr) (c : Nat) (n most : Int) (a : List Int) (w : World) (hA : IA w A a) (ha : 8 * a.length ≤ 140737488355328) (hm : 0 ≤ most ∧ most ≤ 255) :
    Calls Try.prog 6 #[.int .i64 n, .slice A a.length c, .int .u8 most] w (LawPost w) := by
  by_cases h : 300 < n ∨ 100 < a.length
  · exact large A c n most a w h (by omega)
  · by_cases h0 : n < 0
    · exact below0 A c n most a w hA h0 (by omega)
    · obtain ⟨k, rfl⟩ := Int.eq_ofNat_of_zero_le (show 0 ≤ n by omega)
      obtain ⟨q, rfl⟩ := Int.eq_ofNat_of_zero_le hm.1
      exact small A c k q a w hA (by omega) (by omega) (by omega)

theorem lifted (os : Os) (started : os.Started) (H : Type) (enc : TypeId × Value → H) :
    ReturnsInHanded {} Try.checked os 6 .any (Rows.bitsLeavesSpec.pre6 enc Try.prog Try.f6 Rows.bitsLeavesRow.domain false) (Rows.bitsLeavesSpec.post enc Try.prog Try.f6 false true false false) := by
  refine law_lifted started [3, 37, 5] rfl (by kernel_rfl) Try.func6 rfl (by decide +kernel) rfl (fun ds hl => by
    match ds, hl with
    | [_, _, _], _ => rfl) (ChangeSpec.witness6 (enc := enc) (C := Try.checked) false ⟨#[], #[.int .i64 0, .slice none 0 0, .int .u8 0], []⟩ 8 (by kernel_rfl) (by kernel_rfl) (by kernel_rfl) (by kernel_rfl)) ?_
  intro W base args ds ps hval hA hlt hsz
  obtain ⟨v0, vs0, d0, ds0, p0, q0, hargs, rfl, rfl, h0, r0⟩ := trodAll_cons hA
  obtain ⟨v1, vs1, d1, ds1, p1, q1, rfl, rfl, rfl, h1, r1⟩ := trodAll_cons r0
  obtain ⟨v2, vs2, d2, ds2, p2, q2, rfl, rfl, rfl, h2, r2⟩ := trodAll_cons r1
  obtain ⟨rfl, rfl, rfl⟩ := trodAll_nil r2
  obtain rfl : args = #[v0, v1, v2] := by cases args; simp_all
  obtain ⟨x0, rfl, rfl, rfl, w0⟩ := open_int Try.underlying3 (hval 0 3 v0 rfl rfl) h0
  obtain ⟨A1, c1, x1, rfl, b1, i1, z1⟩ := open_ints_arg (hval 1 37 v1 rfl rfl) h1 hsz 1 rfl rfl
  obtain ⟨x2, rfl, rfl, rfl, w2⟩ := open_int Try.underlying5 (hval 2 5 v2 rfl rfl) h2
  exact walk A1 c1 x0 x2 x1 W i1 b1 (fitsU8 w2)

theorem over : Rows.bitsLeavesRow.holds Try.pinned (OpenSpec.ofChange Rows.bitsLeavesSpec) :=
  OpenClaim.holds_of_wide 6 Try.f6 rfl rfl rfl rfl rfl rfl rfl ⟨rfl, rfl, rfl, rfl, rfl⟩ rfl rfl rfl rfl rfl (by kernel_rfl) Try.func6 (by kernel_rfl)
    (of_decide_eq_true (by kernel_rfl)) (by unfold Func.isWrapper; first | (rw [if_pos (by decide +kernel)]; kernel_rfl) | (rw [if_neg (by decide +kernel)]; exact ⟨rfl, rfl⟩))
    (fun os started H enc _ => lifted os started H enc)

theorem proved : Rows.BitsLeavesSaid := over
#print axioms proved
end Go.Proofs.Ytkpfglecgegjbaa.bitsLeaves
