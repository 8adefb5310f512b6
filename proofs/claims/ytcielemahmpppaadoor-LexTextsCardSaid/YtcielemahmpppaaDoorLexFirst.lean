/- The program's first: the token that a text begins with. -/
import Derived.Test.YtcielemahmpppaaDoorLexScan
import Derived.Test.YtcielemahmpppaaDoorLexClone
import Derived.Deep.Cut
namespace Go.Proofs.YtcielemahmpppaaDoor.lx
open Go.ChangeShapes Go.WideShapes Go.ChangeAt Go.RowKit Go.Deep

/-- What first tells. -/
def firstV (nm : List UInt8 → Int × Bool) (s : ByteArray) : Value :=
  match firstP nm s with
  | .error why => .tuple #[.agg #[.int .i64 0, .int .i64 0, .int .i64 0, .string ⟨#[]⟩], .int .i64 (why : Nat)]
  | .ok (k, n, m) => .tuple #[.agg #[.int .i64 (k : Nat), .int .i64 n, .int .i64 0, .string (s.extract 0 m)], .int .i64 0]
/-- What num.Number tells of texts. -/
def NumC (nm : List UInt8 → Int × Bool) (w : World) : Prop := ∀ (t : ByteArray) (W : World), t.size ≤ 20000 → Below w.heap.size w W → Calls Tryd.prog 40 #[.string t] W fun e w' => e = .returned (.tuple #[.int .i64 (nm t.data.toList).1, .bool (nm t.data.toList).2]) ∧ Below W.heap.size W w'
/-- A token's cells that the call itself made. -/
def TZ (W : World) (b : Nat) : Prop := W.cell? ⟨b, 0, none⟩ = some (.int .i64 0) ∧ W.cell? ⟨b, 1, none⟩ = some (.int .i64 0) ∧ W.cell? ⟨b, 2, none⟩ = some (.int .i64 0) ∧ W.cell? ⟨b, 3, none⟩ = some (.string ⟨#[]⟩) ∧ b < W.heap.size ∧ ∀ i, W.frozen? ⟨b, i, none⟩ = false
theorem TZ.below {W W' : World} {b : Nat} (h : TZ W b) (k : Below W.heap.size W W') : TZ W' b :=
  ⟨(k.cell (p := ⟨b, 0, none⟩) h.2.2.2.2.1).trans h.1, (k.cell (p := ⟨b, 1, none⟩) h.2.2.2.2.1).trans h.2.1, (k.cell (p := ⟨b, 2, none⟩) h.2.2.2.2.1).trans h.2.2.1, (k.cell (p := ⟨b, 3, none⟩) h.2.2.2.2.1).trans h.2.2.2.1, Nat.lt_of_lt_of_le h.2.2.2.2.1 k.size, fun i => (World.frozen?_of_block (k.block b h.2.2.2.2.1)).trans (h.2.2.2.2.2 i)⟩
theorem TZ.made (w : World) (t : TypeId) : TZ (w.alloc (.cells #[.int .i64 0, .int .i64 0, .int .i64 0, .string ⟨#[]⟩] t)) w.heap.size :=
  ⟨World.cell?_alloc_at _ _ _ _ (by simp), World.cell?_alloc_at _ _ _ _ (by simp), World.cell?_alloc_at _ _ _ _ (by simp), World.cell?_alloc_at _ _ _ _ (by simp), by simp, fun i => World.frozen?_alloc_at _ _ _ _ (by simp)⟩
theorem SgW.below {w W : World} (h : SgW w) (k : Below w.heap.size w W) : SgW W := fun i hi => (k.cell (p := ⟨0, i, none⟩) (World.block_lt_of_cell? _ _ (h i hi))).trans (h i hi)
theorem fv_word {nm : List UInt8 → Int × Bool} {s : ByteArray} (h : ¬ 16 < wordN s) (h0 : 0 < wordN s) : firstV nm s = .tuple #[.agg #[.int .i64 1, .int .i64 0, .int .i64 0, .string (s.extract 0 (wordN s))], .int .i64 0] := by
  unfold firstV firstP; rw [if_neg h, if_pos h0]; rfl
theorem fv_long {nm : List UInt8 → Int × Bool} {s : ByteArray} (h : 16 < wordN s) : firstV nm s = .tuple #[.agg #[.int .i64 0, .int .i64 0, .int .i64 0, .string ⟨#[]⟩], .int .i64 6] := by
  unfold firstV firstP; rw [if_pos h]; rfl
theorem fv_num {nm : List UInt8 → Int × Bool} {s : ByteArray} (h : wordN s = 0) (h0 : 0 < digN s) (hn : (nm (s.extract 0 (digN s)).data.toList).2 = true) : firstV nm s = .tuple #[.agg #[.int .i64 2, .int .i64 (nm (s.extract 0 (digN s)).data.toList).1, .int .i64 0, .string (s.extract 0 (digN s))], .int .i64 0] := by
  unfold firstV firstP; rw [if_neg (by omega), if_neg (by omega), if_pos h0, if_pos hn]; rfl
theorem fv_bad {nm : List UInt8 → Int × Bool} {s : ByteArray} (h : wordN s = 0) (h0 : 0 < digN s) (hn : (nm (s.extract 0 (digN s)).data.toList).2 = false) : firstV nm s = .tuple #[.agg #[.int .i64 0, .int .i64 0, .int .i64 0, .string ⟨#[]⟩], .int .i64 10] := by
  unfold firstV firstP; rw [if_neg (by omega), if_neg (by omega), if_pos h0, if_neg (by rw [hn]; decide)]; rfl
theorem fv_sign {nm : List UInt8 → Int × Bool} {s : ByteArray} (h : wordN s = 0) (h0 : digN s = 0) (h1 : 0 < signN s) : firstV nm s = .tuple #[.agg #[.int .i64 3, .int .i64 0, .int .i64 0, .string (s.extract 0 (signN s))], .int .i64 0] := by
  unfold firstV firstP; rw [if_neg (by omega), if_neg (by omega), if_neg (by omega), if_pos h1]; rfl
theorem fv_none {nm : List UInt8 → Int × Bool} {s : ByteArray} (h : wordN s = 0) (h0 : digN s = 0) (h1 : signN s = 0) : firstV nm s = .tuple #[.agg #[.int .i64 0, .int .i64 0, .int .i64 0, .string ⟨#[]⟩], .int .i64 13] := by
  unfold firstV firstP; rw [if_neg (by omega), if_neg (by omega), if_neg (by omega), if_neg (by omega)]; rfl
theorem signN_le (s : ByteArray) : signN s ≤ s.size := by
  unfold signN
  split
  · omega
  · split <;> omega
set_option maxRecDepth 100000 in
set_option maxHeartbeats 4000000 in
theorem first_any (nm : List UInt8 → Int × Bool) (s : ByteArray) (w : World) (hz : s.size ≤ 20000) (hs : SgW w) (hn : NumC nm w) : Calls Tryd.prog 21 #[.string s] w fun e w' => e = .returned (firstV nm s) ∧ Below w.heap.size w w' := by
  obtain ⟨b, HB⟩ : ∃ b, Hid (b = w.heap.size) := ⟨_, Lib.hid rfl⟩
  obtain ⟨w1, HW1⟩ : ∃ w1, Hid (w1 = w.alloc (.cells #[.int .i64 0, .int .i64 0, .int .i64 0, .string ⟨#[]⟩] 39)) := ⟨_, Lib.hid rfl⟩
  have HT1 : Hid (TZ w1 b) := Lib.hid (by rw [HW1.out, HB.out]; exact TZ.made _ _)
  have HB1 : Hid (Below b w w1) := Lib.hid (by rw [HW1.out, HB.out]; exact (Below.refl _ _).alloc (Nat.le_refl _) _)
  have HNC : Hid (∀ (t : ByteArray) (W : World), t.size ≤ 20000 → Below b w W → Calls Tryd.prog 40 #[.string t] W fun e w' => e = .returned (.tuple #[.int .i64 (nm t.data.toList).1, .bool (nm t.data.toList).2]) ∧ Below W.heap.size W w') := Lib.hid (fun t W h1 h2 => hn t W h1 (by rw [HB.out] at h2; exact h2))
  have HSG : Hid (∀ W, Below b w W → SgW W) := Lib.hid (fun W h2 => hs.below (by rw [HB.out] at h2; exact h2))
  have hwl : wordN s ≤ s.size := stopF_le _ _ _ _
  have hdl : digN s ≤ s.size := stopF_le _ _ _ _
  have hsl : signN s ≤ s.size := signN_le s
  have HW := Lib.hid (word_any s w1)
  have HEX : Hid (∀ n, n ≤ s.size → (s.extract 0 n).size ≤ 20000) := Lib.hid (fun n hn => by rw [ByteArray.size_extract]; omega)
  clear hs hn
  rw [← HB.out]
  go_enter Tryd.func21, Tryd.ntmps21
  go_upto_region 1 with (fail)
  rw [← HW1.out, ← HB.out]
  go_wp2_with fail
  refine HW.out.mono ?_
  rintro e w2 ⟨rfl, hb2⟩
  have HT2 := Lib.hid (HT1.out.below hb2)
  have HB2 : Hid (Below b w w2) := Lib.hid (HB1.out.trans (hb2.mono (Nat.le_of_lt HT1.out.2.2.2.2.1)))
  clear hb2
  obtain ⟨n1, HN1⟩ : ∃ n, Hid (wordN s = n) := ⟨_, Lib.hid rfl⟩
  rw [show stopF okB s s.size 0 = n1 from HN1.out]
  rw [HN1.out] at hwl
  have hwl2 : (n1 : Int) ≤ (s.size : Int) := by omega
  by_cases h16 : 16 < n1
  · have HV := Lib.hid (fv_long (nm := nm) (s := s) (by rw [HN1.out]; exact h16))
    have g16 : (16 : Int) < (n1 : Int) := by omega
    have z0 := HT2.out.1
    have z1 := HT2.out.2.1
    have z2 := HT2.out.2.2.1
    have z3 := HT2.out.2.2.2.1
    have f0 := HT2.out.2.2.2.2.2 0
    have f1 := HT2.out.2.2.2.2.2 1
    have f2 := HT2.out.2.2.2.2.2 2
    have f3 := HT2.out.2.2.2.2.2 3
    go_wp2
    (try simp only [Exit.inBlock, Exit.then])
    refine bodyPost_ret (v := .tuple #[.agg #[.int .i64 0, .int .i64 0, .int .i64 0, .string ⟨#[]⟩], .int .i64 6]) ?_ rfl ⟨by rw [HV.out], ?_⟩
    · rw [results_cell_tmp rfl]; go_simp
    · (repeat' (first | exact HB2.out | exact Below.refl _ _ | refine Below.drew ?_ | refine Below.setCell ?_ (by first | exact Nat.le_refl _ | (simp <;> omega)) _))
  · have g16 : ¬ (16 : Int) < (n1 : Int) := by omega
    by_cases h0 : 0 < n1
    · have HV := Lib.hid (fv_word (nm := nm) (s := s) (by rw [HN1.out]; exact h16) (by rw [HN1.out]; exact h0))
      have g0 : (0 : Int) < (n1 : Int) := by omega
      rw [HN1.out] at HV
      go_wp2_with fail
      refine (clone_any (s.extract 0 n1) _ (by have := HEX.out n1 hwl; omega)).mono ?_
      rintro e w3 ⟨rfl, hb3⟩
      have HT3 := Lib.hid (HT2.out.below hb3)
      have HB3 : Hid (Below b w w3) := Lib.hid (HB2.out.trans (hb3.mono (Nat.le_of_lt HT2.out.2.2.2.2.1)))
      clear hb3
      generalize s.extract 0 n1 = q at HV ⊢
      have z0 := HT3.out.1
      have z1 := HT3.out.2.1
      have z2 := HT3.out.2.2.1
      have z3 := HT3.out.2.2.2.1
      have f0 := HT3.out.2.2.2.2.2 0
      have f1 := HT3.out.2.2.2.2.2 1
      have f2 := HT3.out.2.2.2.2.2 2
      have f3 := HT3.out.2.2.2.2.2 3
      go_wp2
      (try simp only [Exit.inBlock, Exit.then])
      refine bodyPost_ret (v := .tuple #[.agg #[.int .i64 1, .int .i64 0, .int .i64 0, .string q], .int .i64 0]) ?_ rfl ⟨by rw [HV.out], ?_⟩
      · rw [results_cell_tmp rfl]; go_simp
      · (repeat' (first | exact HB3.out | exact Below.refl _ _ | refine Below.drew ?_ | refine Below.setCell ?_ (by first | exact Nat.le_refl _ | (simp <;> omega)) _))
    · obtain rfl : n1 = 0 := by omega
      have HD := Lib.hid (digits_any s w2)
      go_wp2_with fail
      refine HD.out.mono ?_
      rintro e w3 ⟨rfl, hb3⟩
      have HT3 := Lib.hid (HT2.out.below hb3)
      have HB3 : Hid (Below b w w3) := Lib.hid (HB2.out.trans (hb3.mono (Nat.le_of_lt HT2.out.2.2.2.2.1)))
      clear hb3
      obtain ⟨n2, HN2⟩ : ∃ n, Hid (digN s = n) := ⟨_, Lib.hid rfl⟩
      rw [show stopF dgB s s.size 0 = n2 from HN2.out]
      rw [HN2.out] at hdl
      have hdl2 : (n2 : Int) ≤ (s.size : Int) := by omega
      by_cases h0 : 0 < n2
      · have g0 : (0 : Int) < (n2 : Int) := by omega
        have HNU := Lib.hid (HNC.out (s.extract 0 n2) w3 (HEX.out n2 hdl) HB3.out)
        cases hnb : (nm (s.extract 0 n2).data.toList).2 with
        | false =>
          have HV := Lib.hid (fv_bad (nm := nm) (s := s) HN1.out (by rw [HN2.out]; exact h0) (by rw [HN2.out]; exact hnb))
          have HNB := Lib.hid hnb
          clear hnb
          go_wp2_with fail
          refine HNU.out.mono ?_
          rw [HNB.out]
          rintro e w4 ⟨rfl, hb4⟩
          have HT4 := Lib.hid (HT3.out.below hb4)
          have HB4 : Hid (Below b w w4) := Lib.hid (HB3.out.trans (hb4.mono (Nat.le_of_lt HT3.out.2.2.2.2.1)))
          clear hb4
          generalize (nm (s.extract 0 n2).data.toList).1 = v0
          have z0 := HT4.out.1
          have z1 := HT4.out.2.1
          have z2 := HT4.out.2.2.1
          have z3 := HT4.out.2.2.2.1
          have f0 := HT4.out.2.2.2.2.2 0
          have f1 := HT4.out.2.2.2.2.2 1
          have f2 := HT4.out.2.2.2.2.2 2
          have f3 := HT4.out.2.2.2.2.2 3
          go_wp2
          (try simp only [Exit.inBlock, Exit.then])
          refine bodyPost_ret (v := .tuple #[.agg #[.int .i64 0, .int .i64 0, .int .i64 0, .string ⟨#[]⟩], .int .i64 10]) ?_ rfl ⟨by rw [HV.out], ?_⟩
          · rw [results_cell_tmp rfl]; go_simp
          · (repeat' (first | exact HB4.out | exact Below.refl _ _ | refine Below.drew ?_ | refine Below.setCell ?_ (by first | exact Nat.le_refl _ | (simp <;> omega)) _))
        | true =>
          have HV := Lib.hid (fv_num (nm := nm) (s := s) HN1.out (by rw [HN2.out]; exact h0) (by rw [HN2.out]; exact hnb))
          have HNB := Lib.hid hnb
          rw [HN2.out] at HV
          clear hnb
          go_wp2_with fail
          refine HNU.out.mono ?_
          rw [HNB.out]
          rintro e w4 ⟨rfl, hb4⟩
          have HT4 := Lib.hid (HT3.out.below hb4)
          have HB4 : Hid (Below b w w4) := Lib.hid (HB3.out.trans (hb4.mono (Nat.le_of_lt HT3.out.2.2.2.2.1)))
          clear hb4
          generalize (nm (s.extract 0 n2).data.toList).1 = v0 at HV ⊢
          go_wp2_with fail
          refine (clone_any (s.extract 0 n2) _ (by have := HEX.out n2 hdl; omega)).mono ?_
          rintro e w5 ⟨rfl, hb5⟩
          have HT5 := Lib.hid (HT4.out.below hb5)
          have HB5 : Hid (Below b w w5) := Lib.hid (HB4.out.trans (hb5.mono (Nat.le_of_lt HT4.out.2.2.2.2.1)))
          clear hb5
          generalize s.extract 0 n2 = q at HV ⊢
          have z0 := HT5.out.1
          have z1 := HT5.out.2.1
          have z2 := HT5.out.2.2.1
          have z3 := HT5.out.2.2.2.1
          have f0 := HT5.out.2.2.2.2.2 0
          have f1 := HT5.out.2.2.2.2.2 1
          have f2 := HT5.out.2.2.2.2.2 2
          have f3 := HT5.out.2.2.2.2.2 3
          go_wp2
          (try simp only [Exit.inBlock, Exit.then])
          refine bodyPost_ret (v := .tuple #[.agg #[.int .i64 2, .int .i64 v0, .int .i64 0, .string q], .int .i64 0]) ?_ rfl ⟨by rw [HV.out], ?_⟩
          · rw [results_cell_tmp rfl]; go_simp
          · (repeat' (first | exact HB5.out | exact Below.refl _ _ | refine Below.drew ?_ | refine Below.setCell ?_ (by first | exact Nat.le_refl _ | (simp <;> omega)) _))
      · obtain rfl : n2 = 0 := by omega
        have HS := Lib.hid (sign_any s w3 (HSG.out w3 HB3.out))
        go_wp2_with fail
        refine HS.out.mono ?_
        rintro e w4 ⟨rfl, rfl⟩
        obtain ⟨n3, HN3⟩ : ∃ n, Hid (signN s = n) := ⟨_, Lib.hid rfl⟩
        rw [HN3.out] at hsl ⊢
        have hsl2 : (n3 : Int) ≤ (s.size : Int) := by omega
        by_cases h3 : 0 < n3
        · have g3 : (0 : Int) < (n3 : Int) := by omega
          have HV := Lib.hid (fv_sign (nm := nm) (s := s) HN1.out HN2.out (by rw [HN3.out]; exact h3))
          rw [HN3.out] at HV
          go_wp2_with fail
          refine (clone_any (s.extract 0 n3) _ (by have := HEX.out n3 hsl; omega)).mono ?_
          rintro e w5 ⟨rfl, hb5⟩
          have HT5 := Lib.hid (HT3.out.below hb5)
          have HB5 : Hid (Below b w w5) := Lib.hid (HB3.out.trans (hb5.mono (Nat.le_of_lt HT3.out.2.2.2.2.1)))
          clear hb5
          generalize s.extract 0 n3 = q at HV ⊢
          have z0 := HT5.out.1
          have z1 := HT5.out.2.1
          have z2 := HT5.out.2.2.1
          have z3 := HT5.out.2.2.2.1
          have f0 := HT5.out.2.2.2.2.2 0
          have f1 := HT5.out.2.2.2.2.2 1
          have f2 := HT5.out.2.2.2.2.2 2
          have f3 := HT5.out.2.2.2.2.2 3
          go_wp2
          (try simp only [Exit.inBlock, Exit.then])
          refine bodyPost_ret (v := .tuple #[.agg #[.int .i64 3, .int .i64 0, .int .i64 0, .string q], .int .i64 0]) ?_ rfl ⟨by rw [HV.out], ?_⟩
          · rw [results_cell_tmp rfl]; go_simp
          · (repeat' (first | exact HB5.out | exact Below.refl _ _ | refine Below.drew ?_ | refine Below.setCell ?_ (by first | exact Nat.le_refl _ | (simp <;> omega)) _))
        · obtain rfl : n3 = 0 := by omega
          have HV := Lib.hid (fv_none (nm := nm) (s := s) HN1.out HN2.out HN3.out)
          have z0 := HT3.out.1
          have z1 := HT3.out.2.1
          have z2 := HT3.out.2.2.1
          have z3 := HT3.out.2.2.2.1
          have f0 := HT3.out.2.2.2.2.2 0
          have f1 := HT3.out.2.2.2.2.2 1
          have f2 := HT3.out.2.2.2.2.2 2
          have f3 := HT3.out.2.2.2.2.2 3
          go_wp2
          (try simp only [Exit.inBlock, Exit.then])
          refine bodyPost_ret (v := .tuple #[.agg #[.int .i64 0, .int .i64 0, .int .i64 0, .string ⟨#[]⟩], .int .i64 13]) ?_ rfl ⟨by rw [HV.out], ?_⟩
          · rw [results_cell_tmp rfl]; go_simp
          · (repeat' (first | exact HB3.out | exact Below.refl _ _ | refine Below.drew ?_ | refine Below.setCell ?_ (by first | exact Nat.le_refl _ | (simp <;> omega)) _))
end Go.Proofs.YtcielemahmpppaaDoor.lx
