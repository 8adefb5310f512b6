/- Contracts that the claim stands on, several texts in one: LexClone, LexFirst, LexTok, LexScanP. -/
import Derived.Deep.Cut
import Derived.RangeFuncRecord
import Derived.WalkSmall
import Derived.Test.YthjpjcjmiaojcaaDoorPut1
import Derived.Test.YthjpjcjmiaojcaaDoorPut2
import Derived.Test.YthjpjcjmiaojcaaDoorPut3
import Derived.Test.YthjpjcjmiaojcaaDoorPut4
import Derived.Test.YthjpjcjmiaojcaaDoorPut5
import Derived.Test.YthjpjcjmiaojcaaDoorPut6
namespace Go.Proofs.YthjpjcjmiaojcaaDoor.lx
open Go.ChangeShapes Go.WideShapes Go.ChangeAt Go.RowKit Go.Deep

theorem clone_any (s : ByteArray) (w : World) (hs : s.size ≤ 281474976710656) : Calls Tryd.prog 28 #[.string s] w fun e w' => e = .returned (.string s) ∧ Below w.heap.size w w' := by
  go_enter Tryd.func28, Tryd.ntmps28
  go_wp2_with fail
  refine (Tryd.stringslite_Clone s _ hs).mono ?_
  rintro e w' ⟨rfl, hb⟩
  go_wp2
  go_ret
  exact ⟨rfl, hb⟩
end Go.Proofs.YthjpjcjmiaojcaaDoor.lx
namespace Go.Proofs.YthjpjcjmiaojcaaDoor.lx
open Go.ChangeShapes Go.WideShapes Go.ChangeAt Go.RowKit Go.Deep

/-- What first tells. -/
def firstV (nm : List UInt8 → Int × Bool) (s : ByteArray) : Value :=
  match firstP nm s with
  | .error why => .tuple #[.agg #[.int .i64 0, .int .i64 0, .int .i64 0, .string ⟨#[]⟩], .int .i64 (why : Nat)]
  | .ok (k, n, m) => .tuple #[.agg #[.int .i64 (k : Nat), .int .i64 n, .int .i64 0, .string (s.extract 0 m)], .int .i64 0]
/-- What num.Number tells of texts. -/
def NumC (nm : List UInt8 → Int × Bool) (w : World) : Prop := ∀ (t : ByteArray) (W : World), t.size ≤ 20000 → Below w.heap.size w W → Calls Tryd.prog 53 #[.string t] W fun e w' => e = .returned (.tuple #[.int .i64 (nm t.data.toList).1, .bool (nm t.data.toList).2]) ∧ Below W.heap.size W w'
/-- A token's cells that the call itself made. -/
def TZ (W : World) (b : Nat) : Prop := W.cell? ⟨b, 0, none⟩ = some (.int .i64 0) ∧ W.cell? ⟨b, 1, none⟩ = some (.int .i64 0) ∧ W.cell? ⟨b, 2, none⟩ = some (.int .i64 0) ∧ W.cell? ⟨b, 3, none⟩ = some (.string ⟨#[]⟩) ∧ b < W.heap.size ∧ ∀ i, W.frozen? ⟨b, i, none⟩ = false
theorem TZ.below {W W' : World} {b : Nat} (h : TZ W b) (k : Below W.heap.size W W') : TZ W' b :=
  ⟨(k.cell (p := ⟨b, 0, none⟩) h.2.2.2.2.1).trans h.1, (k.cell (p := ⟨b, 1, none⟩) h.2.2.2.2.1).trans h.2.1, (k.cell (p := ⟨b, 2, none⟩) h.2.2.2.2.1).trans h.2.2.1, (k.cell (p := ⟨b, 3, none⟩) h.2.2.2.2.1).trans h.2.2.2.1, Nat.lt_of_lt_of_le h.2.2.2.2.1 k.size, fun i => (World.frozen?_of_block (k.block b h.2.2.2.2.1)).trans (h.2.2.2.2.2 i)⟩
theorem TZ.made (w : World) (t : TypeId) : TZ (w.alloc (.cells #[.int .i64 0, .int .i64 0, .int .i64 0, .string ⟨#[]⟩] t)) w.heap.size :=
  ⟨World.cell?_alloc_at _ _ _ _ (by simp), World.cell?_alloc_at _ _ _ _ (by simp), World.cell?_alloc_at _ _ _ _ (by simp), World.cell?_alloc_at _ _ _ _ (by simp), by simp, fun i => World.frozen?_alloc_at _ _ _ _ (by simp)⟩
theorem SgW.below {w W : World} (h : SgW w) (k : Below w.heap.size w W) : SgW W := fun i hi => (k.cell (p := ⟨1, i, none⟩) (World.block_lt_of_cell? _ _ (h i hi))).trans (h i hi)
theorem fv_word {nm : List UInt8 → Int × Bool} {s : ByteArray} (h : ¬ 16 < wordN s) (h0 : 0 < wordN s) : firstV nm s = .tuple #[.agg #[.int .i64 1, .int .i64 0, .int .i64 0, .string (s.extract 0 (wordN s))], .int .i64 0] := by
  unfold firstV firstP; rw [if_neg h, if_pos h0]; rfl
theorem fv_long {nm : List UInt8 → Int × Bool} {s : ByteArray} (h : 16 < wordN s) : firstV nm s = .tuple #[.agg #[.int .i64 0, .int .i64 0, .int .i64 0, .string ⟨#[]⟩], .int .i64 6] := by
  unfold firstV firstP; rw [if_pos h]; rfl
theorem fv_num {nm : List UInt8 → Int × Bool} {s : ByteArray} (h : wordN s = 0) (h0 : 0 < digN s) (hn : (nm (s.extract 0 (digN s)).data.toList).2 = true) : firstV nm s = .tuple #[.agg #[.int .i64 2, .int .i64 (nm (s.extract 0 (digN s)).data.toList).1, .int .i64 0, .string (s.extract 0 (digN s))], .int .i64 0] := by
  unfold firstV firstP; rw [if_neg (by omega), if_neg (by omega), if_pos h0, if_pos hn]; rfl
theorem fv_bad {nm : List UInt8 → Int × Bool} {s : ByteArray} (h : wordN s = 0) (h0 : 0 < digN s) (hn : (nm (s.extract 0 (digN s)).data.toList).2 = false) : firstV nm s = .tuple #[.agg #[.int .i64 0, .int .i64 0, .int .i64 0, .string ⟨#[]⟩], .int .i64 10] := by
  unfold firstV firstP; rw [if_neg (by omega), if_neg (by omega), if_pos h0, if_neg (by rw [hn]; decide)]; rfl
theorem fv_sign {nm : List UInt8 → Int × Bool} {s : ByteArray} (h : wordN s = 0) (h0 : digN s = 0) (h1 : 0 < signN s) : firstV nm s = .tuple #[.agg #[.int .i64 3, .int .i64 0, .int .i64 0, .string (s.extract 0 (signN s))], .int .i64 0] := by
  unfold firstV firstP; rw [if_neg (by omega), if_neg (by omega), if_neg (by omega), if_pos h1]; rfl
theorem fv_none {nm : List UInt8 → Int × Bool} {s : ByteArray} (h : wordN s = 0) (h0 : digN s = 0) (h1 : signN s = 0) : firstV nm s = .tuple #[.agg #[.int .i64 0, .int .i64 0, .int .i64 0, .string ⟨#[]⟩], .int .i64 13] := by
  unfold firstV firstP; rw [if_neg (by omega), if_neg (by omega), if_neg (by omega), if_neg (by omega)]; rfl
theorem signN_le (s : ByteArray) : signN s ≤ s.size := by
  unfold signN
  split
  · omega
  · split <;> omega
set_option maxRecDepth 100000 in
set_option maxHeartbeats 4000000 in
theorem first_any (nm : List UInt8 → Int × Bool) (s : ByteArray) (w : World) (hz : s.size ≤ 20000) (hs : SgW w) (hn : NumC nm w) : Calls Tryd.prog 36 #[.string s] w fun e w' => e = .returned (firstV nm s) ∧ Below w.heap.size w w' := by
  obtain ⟨b, HB⟩ : ∃ b, Hid (b = w.heap.size) := ⟨_, Lib.hid rfl⟩
  obtain ⟨w1, HW1⟩ : ∃ w1, Hid (w1 = w.alloc (.cells #[.int .i64 0, .int .i64 0, .int .i64 0, .string ⟨#[]⟩] 72)) := ⟨_, Lib.hid rfl⟩
  have HT1 : Hid (TZ w1 b) := Lib.hid (by rw [HW1.out, HB.out]; exact TZ.made _ _)
  have HB1 : Hid (Below b w w1) := Lib.hid (by rw [HW1.out, HB.out]; exact (Below.refl _ _).alloc (Nat.le_refl _) _)
  have HNC : Hid (∀ (t : ByteArray) (W : World), t.size ≤ 20000 → Below b w W → Calls Tryd.prog 53 #[.string t] W fun e w' => e = .returned (.tuple #[.int .i64 (nm t.data.toList).1, .bool (nm t.data.toList).2]) ∧ Below W.heap.size W w') := Lib.hid (fun t W h1 h2 => hn t W h1 (by rw [HB.out] at h2; exact h2))
  have HSG : Hid (∀ W, Below b w W → SgW W) := Lib.hid (fun W h2 => hs.below (by rw [HB.out] at h2; exact h2))
  have hwl : wordN s ≤ s.size := stopF_le _ _ _ _
  have hdl : digN s ≤ s.size := stopF_le _ _ _ _
  have hsl : signN s ≤ s.size := signN_le s
  have HW := Lib.hid (word_any s w1)
  have HEX : Hid (∀ n, n ≤ s.size → (s.extract 0 n).size ≤ 20000) := Lib.hid (fun n hn => by rw [ByteArray.size_extract]; omega)
  clear hs hn
  rw [← HB.out]
  go_enter Tryd.func36, Tryd.ntmps36
  go_upto_region 1 with (fail)
  rw [← HW1.out, ← HB.out]
  go_wp2_with fail
  refine HW.out.mono ?_
  rintro e w2 ⟨rfl, hb2⟩
  have HT2 := Lib.hid (HT1.out.below hb2)
  have HB2 : Hid (Below b w w2) := Lib.hid (HB1.out.trans (hb2.mono (Nat.le_of_lt HT1.out.2.2.2.2.1)))
  clear hb2
  obtain ⟨n1, HN1⟩ : ∃ n, Hid (wordN s = n) := ⟨_, Lib.hid rfl⟩
  rw [show stopF okB s s.size 0 = n1 from HN1.out]
  rw [HN1.out] at hwl
  have hwl2 : (n1 : Int) ≤ (s.size : Int) := by omega
  by_cases h16 : 16 < n1
  · have HV := Lib.hid (fv_long (nm := nm) (s := s) (by rw [HN1.out]; exact h16))
    have g16 : (16 : Int) < (n1 : Int) := by omega
    have z0 := HT2.out.1
    have z1 := HT2.out.2.1
    have z2 := HT2.out.2.2.1
    have z3 := HT2.out.2.2.2.1
    have f0 := HT2.out.2.2.2.2.2 0
    have f1 := HT2.out.2.2.2.2.2 1
    have f2 := HT2.out.2.2.2.2.2 2
    have f3 := HT2.out.2.2.2.2.2 3
    go_wp2
    (try simp only [Exit.inBlock, Exit.then])
    refine bodyPost_ret (v := .tuple #[.agg #[.int .i64 0, .int .i64 0, .int .i64 0, .string ⟨#[]⟩], .int .i64 6]) ?_ rfl ⟨by rw [HV.out], ?_⟩
    · rw [results_cell_tmp rfl]; go_simp
    · (repeat' (first | exact HB2.out | exact Below.refl _ _ | refine Below.drew ?_ | refine Below.setCell ?_ (by first | exact Nat.le_refl _ | (simp <;> omega)) _))
  · have g16 : ¬ (16 : Int) < (n1 : Int) := by omega
    by_cases h0 : 0 < n1
    · have HV := Lib.hid (fv_word (nm := nm) (s := s) (by rw [HN1.out]; exact h16) (by rw [HN1.out]; exact h0))
      have g0 : (0 : Int) < (n1 : Int) := by omega
      rw [HN1.out] at HV
      go_wp2_with fail
      refine (clone_any (s.extract 0 n1) _ (by have := HEX.out n1 hwl; omega)).mono ?_
      rintro e w3 ⟨rfl, hb3⟩
      have HT3 := Lib.hid (HT2.out.below hb3)
      have HB3 : Hid (Below b w w3) := Lib.hid (HB2.out.trans (hb3.mono (Nat.le_of_lt HT2.out.2.2.2.2.1)))
      clear hb3
      generalize s.extract 0 n1 = q at HV ⊢
      have z0 := HT3.out.1
      have z1 := HT3.out.2.1
      have z2 := HT3.out.2.2.1
      have z3 := HT3.out.2.2.2.1
      have f0 := HT3.out.2.2.2.2.2 0
      have f1 := HT3.out.2.2.2.2.2 1
      have f2 := HT3.out.2.2.2.2.2 2
      have f3 := HT3.out.2.2.2.2.2 3
      go_wp2
      (try simp only [Exit.inBlock, Exit.then])
      refine bodyPost_ret (v := .tuple #[.agg #[.int .i64 1, .int .i64 0, .int .i64 0, .string q], .int .i64 0]) ?_ rfl ⟨by rw [HV.out], ?_⟩
      · rw [results_cell_tmp rfl]; go_simp
      · (repeat' (first | exact HB3.out | exact Below.refl _ _ | refine Below.drew ?_ | refine Below.setCell ?_ (by first | exact Nat.le_refl _ | (simp <;> omega)) _))
    · obtain rfl : n1 = 0 := by omega
      have HD := Lib.hid (digits_any s w2)
      go_wp2_with fail
      refine HD.out.mono ?_
      rintro e w3 ⟨rfl, hb3⟩
      have HT3 := Lib.hid (HT2.out.below hb3)
      have HB3 : Hid (Below b w w3) := Lib.hid (HB2.out.trans (hb3.mono (Nat.le_of_lt HT2.out.2.2.2.2.1)))
      clear hb3
      obtain ⟨n2, HN2⟩ : ∃ n, Hid (digN s = n) := ⟨_, Lib.hid rfl⟩
      rw [show stopF dgB s s.size 0 = n2 from HN2.out]
      rw [HN2.out] at hdl
      have hdl2 : (n2 : Int) ≤ (s.size : Int) := by omega
      by_cases h0 : 0 < n2
      · have g0 : (0 : Int) < (n2 : Int) := by omega
        have HNU := Lib.hid (HNC.out (s.extract 0 n2) w3 (HEX.out n2 hdl) HB3.out)
        cases hnb : (nm (s.extract 0 n2).data.toList).2 with
        | false =>
          have HV := Lib.hid (fv_bad (nm := nm) (s := s) HN1.out (by rw [HN2.out]; exact h0) (by rw [HN2.out]; exact hnb))
          have HNB := Lib.hid hnb
          clear hnb
          go_wp2_with fail
          refine HNU.out.mono ?_
          rw [HNB.out]
          rintro e w4 ⟨rfl, hb4⟩
          have HT4 := Lib.hid (HT3.out.below hb4)
          have HB4 : Hid (Below b w w4) := Lib.hid (HB3.out.trans (hb4.mono (Nat.le_of_lt HT3.out.2.2.2.2.1)))
          clear hb4
          generalize (nm (s.extract 0 n2).data.toList).1 = v0
          have z0 := HT4.out.1
          have z1 := HT4.out.2.1
          have z2 := HT4.out.2.2.1
          have z3 := HT4.out.2.2.2.1
          have f0 := HT4.out.2.2.2.2.2 0
          have f1 := HT4.out.2.2.2.2.2 1
          have f2 := HT4.out.2.2.2.2.2 2
          have f3 := HT4.out.2.2.2.2.2 3
          go_wp2
          (try simp only [Exit.inBlock, Exit.then])
          refine bodyPost_ret (v := .tuple #[.agg #[.int .i64 0, .int .i64 0, .int .i64 0, .string ⟨#[]⟩], .int .i64 10]) ?_ rfl ⟨by rw [HV.out], ?_⟩
          · rw [results_cell_tmp rfl]; go_simp
          · (repeat' (first | exact HB4.out | exact Below.refl _ _ | refine Below.drew ?_ | refine Below.setCell ?_ (by first | exact Nat.le_refl _ | (simp <;> omega)) _))
        | true =>
          have HV := Lib.hid (fv_num (nm := nm) (s := s) HN1.out (by rw [HN2.out]; exact h0) (by rw [HN2.out]; exact hnb))
          have HNB := Lib.hid hnb
          rw [HN2.out] at HV
          clear hnb
          go_wp2_with fail
          refine HNU.out.mono ?_
          rw [HNB.out]
          rintro e w4 ⟨rfl, hb4⟩
          have HT4 := Lib.hid (HT3.out.below hb4)
          have HB4 : Hid (Below b w w4) := Lib.hid (HB3.out.trans (hb4.mono (Nat.le_of_lt HT3.out.2.2.2.2.1)))
          clear hb4
          generalize (nm (s.extract 0 n2).data.toList).1 = v0 at HV ⊢
          go_wp2_with fail
          refine (clone_any (s.extract 0 n2) _ (by have := HEX.out n2 hdl; omega)).mono ?_
          rintro e w5 ⟨rfl, hb5⟩
          have HT5 := Lib.hid (HT4.out.below hb5)
          have HB5 : Hid (Below b w w5) := Lib.hid (HB4.out.trans (hb5.mono (Nat.le_of_lt HT4.out.2.2.2.2.1)))
          clear hb5
          generalize s.extract 0 n2 = q at HV ⊢
          have z0 := HT5.out.1
          have z1 := HT5.out.2.1
          have z2 := HT5.out.2.2.1
          have z3 := HT5.out.2.2.2.1
          have f0 := HT5.out.2.2.2.2.2 0
          have f1 := HT5.out.2.2.2.2.2 1
          have f2 := HT5.out.2.2.2.2.2 2
          have f3 := HT5.out.2.2.2.2.2 3
          go_wp2
          (try simp only [Exit.inBlock, Exit.then])
          refine bodyPost_ret (v := .tuple #[.agg #[.int .i64 2, .int .i64 v0, .int .i64 0, .string q], .int .i64 0]) ?_ rfl ⟨by rw [HV.out], ?_⟩
          · rw [results_cell_tmp rfl]; go_simp
          · (repeat' (first | exact HB5.out | exact Below.refl _ _ | refine Below.drew ?_ | refine Below.setCell ?_ (by first | exact Nat.le_refl _ | (simp <;> omega)) _))
      · obtain rfl : n2 = 0 := by omega
        have HS := Lib.hid (sign_any s w3 (HSG.out w3 HB3.out))
        go_wp2_with fail
        refine HS.out.mono ?_
        rintro e w4 ⟨rfl, rfl⟩
        obtain ⟨n3, HN3⟩ : ∃ n, Hid (signN s = n) := ⟨_, Lib.hid rfl⟩
        rw [HN3.out] at hsl ⊢
        have hsl2 : (n3 : Int) ≤ (s.size : Int) := by omega
        by_cases h3 : 0 < n3
        · have g3 : (0 : Int) < (n3 : Int) := by omega
          have HV := Lib.hid (fv_sign (nm := nm) (s := s) HN1.out HN2.out (by rw [HN3.out]; exact h3))
          rw [HN3.out] at HV
          go_wp2_with fail
          refine (clone_any (s.extract 0 n3) _ (by have := HEX.out n3 hsl; omega)).mono ?_
          rintro e w5 ⟨rfl, hb5⟩
          have HT5 := Lib.hid (HT3.out.below hb5)
          have HB5 : Hid (Below b w w5) := Lib.hid (HB3.out.trans (hb5.mono (Nat.le_of_lt HT3.out.2.2.2.2.1)))
          clear hb5
          generalize s.extract 0 n3 = q at HV ⊢
          have z0 := HT5.out.1
          have z1 := HT5.out.2.1
          have z2 := HT5.out.2.2.1
          have z3 := HT5.out.2.2.2.1
          have f0 := HT5.out.2.2.2.2.2 0
          have f1 := HT5.out.2.2.2.2.2 1
          have f2 := HT5.out.2.2.2.2.2 2
          have f3 := HT5.out.2.2.2.2.2 3
          go_wp2
          (try simp only [Exit.inBlock, Exit.then])
          refine bodyPost_ret (v := .tuple #[.agg #[.int .i64 3, .int .i64 0, .int .i64 0, .string q], .int .i64 0]) ?_ rfl ⟨by rw [HV.out], ?_⟩
          · rw [results_cell_tmp rfl]; go_simp
          · (repeat' (first | exact HB5.out | exact Below.refl _ _ | refine Below.drew ?_ | refine Below.setCell ?_ (by first | exact Nat.le_refl _ | (simp <;> omega)) _))
        · obtain rfl : n3 = 0 := by omega
          have HV := Lib.hid (fv_none (nm := nm) (s := s) HN1.out HN2.out HN3.out)
          have z0 := HT3.out.1
          have z1 := HT3.out.2.1
          have z2 := HT3.out.2.2.1
          have z3 := HT3.out.2.2.2.1
          have f0 := HT3.out.2.2.2.2.2 0
          have f1 := HT3.out.2.2.2.2.2 1
          have f2 := HT3.out.2.2.2.2.2 2
          have f3 := HT3.out.2.2.2.2.2 3
          go_wp2
          (try simp only [Exit.inBlock, Exit.then])
          refine bodyPost_ret (v := .tuple #[.agg #[.int .i64 0, .int .i64 0, .int .i64 0, .string ⟨#[]⟩], .int .i64 13]) ?_ rfl ⟨by rw [HV.out], ?_⟩
          · rw [results_cell_tmp rfl]; go_simp
          · (repeat' (first | exact HB3.out | exact Below.refl _ _ | refine Below.drew ?_ | refine Below.setCell ?_ (by first | exact Nat.le_refl _ | (simp <;> omega)) _))
end Go.Proofs.YthjpjcjmiaojcaaDoor.lx
namespace Go.Proofs.YthjpjcjmiaojcaaDoor.lx
open Go.ChangeShapes Go.WideShapes Go.ChangeAt Go.RowKit Go.Deep

def cellT (t : Tok) : List Value := [.int .i64 (t.kind : Nat), .int .i64 t.num, .int .i64 (t.pos : Nat), .string t.text]
def flatT (l : List Tok) : List Value := l.flatMap cellT
theorem flatT_snoc (l : List Tok) (t : Tok) : flatT (l ++ [t]) = flatT l ++ cellT t := by unfold flatT; simp
/-- A row of tokens of the call's own. -/
def OT (base : Nat) (w : World) (v : Value) (l : List Tok) : Prop := w.ownsRow base 72 4 v l.length (flatT l)
theorem OT.nil (base : Nat) (w : World) : OT base w (.slice none 0 0) [] := World.ownsRow_nil _ _ _ _
set_option maxRecDepth 20000 in
/-- append of one token onto a row of the call's own. -/
theorem append_tok {w : World} {ops : Array Oper} {rest : List Oper} {o : Oper} {a : Act} {Q : Exit → Act → World → Prop} (hgd : o.guard = none) (s x : Operand)
    (ho : o.op = .call { callee := .builtin .append, args := #[s, x], argTypes := #[47, 47] })
    (base : Nat) (v : Value) (l : List Tok) (hs : a.eval s = v) (hown : OT base w v l) (k p : Nat) (n : Int) (t : ByteArray)
    (hx : a.eval x = .slice (some ⟨w.heap.size, 0, none⟩) 1 1) (hlen : l.length + 1 ≤ 1000000) (hbase : base ≤ w.heap.size)
    (h : ∀ v' w', OT base w' v' (l ++ [⟨k, n, p, t⟩]) → Below base w w' → (w.alloc (.cells #[.int .i64 (k : Nat), .int .i64 n, .int .i64 (p : Nat), .string t] 72)).grownBy w' v.ownBlock → wpList Tryd.prog ops Q rest (a.put o.dst v') w') :
    wpList Tryd.prog ops Q (o :: rest) a (w.alloc (.cells #[.int .i64 (k : Nat), .int .i64 n, .int .i64 (p : Nat), .string t] 72)) := by
  obtain ⟨i0, hi, hz0, hz1, hz2⟩ := info_parts (show (Tryd.prog.info? 72).map (fun i => (i.zero, i.size, i.bytes)) = some (some (.agg #[.int .i64 0, .int .i64 0, .int .i64 0, .string ⟨#[]⟩]), 4, 40) by kernel_rfl)
  refine wpList_append_own_at _ hgd s x 47 ho base 72 i0 (.agg #[.int .i64 0, .int .i64 0, .int .i64 0, .string ⟨#[]⟩]) 4 40 Tryd.underlying47 hi hz0 hz1 hz2 rfl (by decide) v l.length _ hs (World.ownsRow.alloc hown _) ⟨w.heap.size, 0, none⟩ 1 1 (cellT ⟨k, n, p, t⟩) hx rfl (fun j u hju => by
    rw [add_plain]
    rcases j with _ | _ | _ | _ | j
    · obtain rfl := Option.some.inj hju
      exact cell_of_row _ _ 0 _ _ _ (World.alloc_heap_new w _)
    · obtain rfl := Option.some.inj hju
      exact cell_of_row _ _ 1 _ _ _ (World.alloc_heap_new w _)
    · obtain rfl := Option.some.inj hju
      exact cell_of_row _ _ 2 _ _ _ (World.alloc_heap_new w _)
    · obtain rfl := Option.some.inj hju
      exact cell_of_row _ _ 3 _ _ _ (World.alloc_heap_new w _)
    · simp [cellT] at hju) (fun u hu => by
    simp only [cellT, List.mem_cons, List.not_mem_nil, or_false] at hu
    rcases hu with rfl | rfl | rfl | rfl <;> simp [Value.oneCell']) (by unfold maxLen; omega) (by omega) (by simp; omega) ?_
  intro v' w' hown' hgrow _ hb
  refine h v' w' ?_ (Below.grown ((Below.refl _ _).alloc hbase _) hgrow (by simp; omega) (fun q hq => (World.ownsRow.lt hown q hq).1)) hgrow
  show w'.ownsRow base 72 4 v' (l ++ [(⟨k, n, p, t⟩ : Tok)]).length (flatT (l ++ [⟨k, n, p, t⟩]))
  rw [List.length_append, flatT_snoc]
  exact hown'
end Go.Proofs.YthjpjcjmiaojcaaDoor.lx
namespace Go.Proofs.YthjpjcjmiaojcaaDoor.lx
open Go.ChangeShapes Go.WideShapes Go.ChangeAt Go.RowKit Go.Deep

def ScanR (nm : List UInt8 → Int × Bool) (s : ByteArray) (r : Res) : Prop := (20000 < s.size ∧ r = ([], 0, 5)) ∨ (s.size ≤ 20000 ∧ Sc nm s 0 [] r)
def ScanP (nm : List UInt8 → Int × Bool) (s : ByteArray) (w : World) (e : Ending) (w' : World) : Prop :=
  ∃ r v, ScanR nm s r ∧ e = .returned (.tuple #[v, .int .i64 (r.2.1 : Nat), .int .i64 (r.2.2 : Nat)]) ∧ OT w.heap.size w' v r.1 ∧ Below w.heap.size w w'
theorem OT.form {base : Nat} {w : World} {v : Value} {l : List Tok} (h : OT base w v l) : ∃ A c, v = .slice A l.length c := by
  rcases h.2 with ⟨e, e2⟩ | ⟨g, cap, cur, e, _⟩
  · exact ⟨none, 0, by rw [e, e2]⟩
  · exact ⟨_, cap, e⟩
theorem OT.below {base : Nat} {w w' : World} {v : Value} {l : List Tok} (h : OT base w v l) (hb : Below w.heap.size w w') : OT base w' v l := by
  refine World.ownsRow.kept (row := none) h ⟨hb.os, hb.tape, hb.output, hb.size, fun k hk _ => hb.block k hk⟩ ?_
  rcases hv : v.ownBlock with _ | g
  · exact .inl rfl
  · exact .inr (fun e => by cases e)
theorem OT.mono {base base' : Nat} {w : World} {v : Value} {l : List Tok} (h : OT base w v l) (hb : base' ≤ base) : OT base' w v l := by
  refine ⟨h.1, ?_⟩
  rcases h.2 with h1 | ⟨g, cap, cur, e, hg, r⟩
  · exact .inl h1
  · exact .inr ⟨g, cap, cur, e, Nat.le_trans hb hg, r⟩
/-- The state between two runes: the iterator's place, the end of what was met last, the tokens. -/
structure ScI (nm : List UInt8 → Int × Bool) (s : ByteArray) (b : Nat) (w wr : World) (v : Value) (pos en : Nat) (l : List Tok) : Prop where
  it : wr.heap[b]? = some (.stringIter s pos)
  own : OT (b + 1) wr v l
  below : Below b w wr
  big : b + 1 ≤ wr.heap.size
  most : l.length ≤ 6000
  hits : pos ≤ en → Hits s pos en
  inn : en ≤ s.size
  sc : ∀ r, Sc nm s (max pos en) l r → Sc nm s 0 [] r
theorem first_err {nm : List UInt8 → Int × Bool} {s : ByteArray} {why : Nat} (h : firstP nm s = .error why) : why = 6 ∨ why = 10 ∨ why = 13 := by
  unfold firstP at h
  repeat' split at h
  all_goals first
    | (injection h with h; omega)
    | cases h
theorem fv_err {nm : List UInt8 → Int × Bool} {s : ByteArray} {why : Nat} (h : firstP nm s = .error why) : firstV nm s = .tuple #[.agg #[.int .i64 0, .int .i64 0, .int .i64 0, .string ⟨#[]⟩], .int .i64 (why : Nat)] := by
  unfold firstV; rw [h]
theorem fv_ok {nm : List UInt8 → Int × Bool} {s : ByteArray} {k m : Nat} {n : Int} (h : firstP nm s = .ok (k, n, m)) : firstV nm s = .tuple #[.agg #[.int .i64 (k : Nat), .int .i64 n, .int .i64 0, .string (s.extract 0 m)], .int .i64 0] := by
  unfold firstV; rw [h]
theorem not_blank {s : ByteArray} {pos R : Nat} (hp : pos < s.size) (hR : (Utf8.decode s pos).1 = R) (h1 : R ≠ 32) (h2 : R ≠ 10) (h3 : R ≠ 35) : blankB (bt s pos) = false ∧ bt s pos ≠ 35 := by
  rcases Nat.lt_or_ge (bt s pos) 128 with h | h
  · rw [decode_low hp h] at hR
    have hR' : bt s pos = R := hR
    rw [hR']
    refine ⟨?_, h3⟩
    unfold blankB
    simp [h1, h2]
  · refine ⟨?_, by omega⟩
    unfold blankB
    simp; omega
set_option maxRecDepth 100000 in
set_option maxHeartbeats 4000000 in
theorem scan_any (nm : List UInt8 → Int × Bool) (s : ByteArray) (w : World) (hs : SgW w) (hn : NumC nm w) : Calls Tryd.prog 20 #[.string s] w (ScanP nm s w) := by
  obtain ⟨b, HB⟩ : ∃ b, Hid (b = w.heap.size) := ⟨_, Lib.hid rfl⟩
  by_cases hz : 20000 < s.size
  · have g : (20000 : Int) < (s.size : Int) := by omega
    go_enter Tryd.func20, Tryd.ntmps20
    go_wp2
    go_ret3
    exact ⟨([], 0, 5), _, .inl ⟨hz, rfl⟩, rfl, OT.nil _ _, Below.refl _ _⟩
  · have g : ¬ (20000 : Int) < (s.size : Int) := by omega
    have HF : Hid (∀ a W, a < s.size → Below b w W → Calls Tryd.prog 36 #[.string (s.extract a s.size)] W fun e w' => e = .returned (firstV nm (tailS s a)) ∧ Below W.heap.size W w') := Lib.hid (fun a W ha hW => first_any nm (tailS s a) W (by rw [tail_size]; omega) (hs.below (by rw [HB.out] at hW; exact hW)) (fun t W2 h1 h2 => hn t W2 h1 (by rw [HB.out] at hW; exact hW.trans (h2.mono hW.size))))
    have hz2 : s.size ≤ 20000 := by omega
    clear hs hn hz
    go_enter Tryd.func20, Tryd.ntmps20
    go_wp2
    rw [← HB.out]
    go_loopg [5, 6] s.size (fun gf v5 v6 wx => ∃ (pos en : Nat) (l : List Tok), v6 = .int .i64 (en : Nat) ∧ Hid (ScI nm s b w wx v5 pos en l) ∧ s.size ≤ pos + gf)
    case atStart => exact ⟨0, 0, [], rfl, Lib.hid ⟨by rw [HB.out]; exact World.iter_heap w s 0, OT.nil _ _, by rw [HB.out]; exact (Below.refl _ w).alloc (Nat.le_refl _) _, by rw [HB.out]; exact (Array.getElem?_eq_some_iff.1 (World.iter_heap w s 0)).1, Nat.zero_le _, fun _ => .here 0, Nat.zero_le _, fun r h => h⟩, by omega⟩
    case round =>
      obtain ⟨pos, en, l, rfl, HI, hfu⟩ := hrel
      by_cases hps : pos < s.size
      · obtain ⟨g', rfl⟩ : ∃ g', gk = g' + 1 := ⟨gk - 1, by omega⟩
        have hnx : ∀ ty, (Instr.next (.pointer (some ⟨b, 0, none⟩)) true ty).run Tryd.prog wr = _ := fun ty => Lib.run_next_any_at wr b s pos ty HI.out.it hps
        obtain ⟨w1, w2⟩ := width_in hps
        obtain ⟨R, HR⟩ : ∃ R, Hid ((Utf8.decode s pos).1 = R) := ⟨_, Lib.hid rfl⟩
        obtain ⟨K, HK⟩ : ∃ K, Hid ((Utf8.decode s pos).2 = K) := ⟨_, Lib.hid rfl⟩
        rw [HR.out, HK.out] at hnx
        rw [HK.out] at w1 w2
        have HIT := Lib.hid (Lib.iterAt_heap wr b s pos (pos + K) HI.out.it)
        have HBW := Lib.hid (Lib.below_iterAt HI.out.below (k := b) (Nat.le_refl _) s (pos + K))
        have HOW : Hid (OT (b + 1) (wr.iterAt b s (pos + K)) _ l) := Lib.hid (ownsRow_iterAt HI.out.own (by omega) s (pos + K))
        have HBG : Hid (b + 1 ≤ (wr.iterAt b s (pos + K)).heap.size) := Lib.hid (by rw [Lib.iterAt_size]; exact HI.out.big)
        obtain ⟨W, HWd⟩ : ∃ W, Hid (wr.iterAt b s (pos + K) = W) := ⟨_, Lib.hid rfl⟩
        rw [HWd.out] at hnx HIT HBW HOW HBG
        by_cases hen : pos < en
        · have g1 : (pos : Int) < (en : Int) := by omega
          have HH : Hid (Hits s (pos + K) en) := Lib.hid (by have := (HI.out.hits (by omega)).next hen; rw [HK.out] at this; exact this)
          have HSN : Hid (ScI nm s b w W _ (pos + K) en l) := Lib.hid ⟨HIT.out, HOW.out, HBW.out, HBG.out, HI.out.most, fun _ => HH.out, HI.out.inn, fun r h => HI.out.sc r (by have := HH.out.le; rw [show max pos en = max (pos + K) en by omega]; exact h)⟩
          go_wp2
          go_roundg g'
          case measure => omega
          case rel => exact ⟨pos + K, en, l, rfl, HSN, by omega⟩
        · have g1 : ¬ (pos : Int) < (en : Int) := by omega
          have HS0 : Hid (∀ r, Sc nm s pos l r → Sc nm s 0 [] r) := Lib.hid (fun r h => HI.out.sc r (by rw [show max pos en = pos by omega]; exact h))
          by_cases h32 : R = 32 ∨ R = 10
          · have hlow := rune_low hps (by rw [HR.out]; omega)
            have hK1 : K = 1 := by have := decode_low hps hlow.2; rw [this] at HK; exact HK.out.symm
            have hbt : bt s pos = R := by rw [← hlow.1]; exact HR.out
            have HSN : Hid (ScI nm s b w W _ (pos + K) en l) := Lib.hid ⟨HIT.out, HOW.out, HBW.out, HBG.out, HI.out.most, fun h => by omega, HI.out.inn, fun r h => HS0.out r (by
              rw [show max (pos + K) en = pos + 1 by omega] at h
              exact .blank hps (by rw [hbt]; unfold blankB; rcases h32 with e | e <;> rw [e] <;> decide) h)⟩
            clear hlow hK1 hbt
            rcases h32 with rfl | rfl
            · go_wp2
              go_roundg g'
              case measure => omega
              case rel => exact ⟨pos + K, en, l, rfl, HSN, by omega⟩
            · go_wp2
              go_roundg g'
              case measure => omega
              case rel => exact ⟨pos + K, en, l, rfl, HSN, by omega⟩
          · have g32 : ((R : Int) == 32) = false := by simp; omega
            have g10 : ((R : Int) == 10) = false := by simp; omega
            by_cases h35 : R = 35
            · have hlow := rune_low hps (by rw [HR.out]; omega)
              have hbt : bt s pos = 35 := by rw [← hlow.1, HR.out, h35]
              have HE : Hid (pos + stopF linB (tailS s pos) (tailS s pos).size 0 = lineE s pos) := Lib.hid (lineN_eq s pos hps)
              obtain ⟨hh, hle⟩ := remark_hits (s := s) (a := pos) hps
              have hgt : pos < lineE s pos := by
                obtain ⟨q1, q2, q3, q4⟩ := runE_spec (fun b => !decide (b = 10)) s s.size pos (by omega) (by omega)
                refine Decidable.byContradiction fun hc => ?_
                have e : lineE s pos = pos := by unfold lineE at hc ⊢; omega
                unfold lineE at e
                rw [e] at q4
                have := q4 hps
                rw [hbt] at this
                exact this (by decide)
              have HLN := Lib.hid (line_any (tailS s pos) W)
              have HHN : Hid (Hits s (pos + K) (lineE s pos)) := Lib.hid (by have := hh.next hgt; rw [HK.out] at this; exact this)
              have HSN2 : Hid (∀ r, Sc nm s (lineE s pos) l r → Sc nm s 0 [] r) := Lib.hid (fun r h => HS0.out r (.remark hps hbt h))
              obtain ⟨E, HEE⟩ : ∃ E, Hid (lineE s pos = E) := ⟨_, Lib.hid rfl⟩
              rw [HEE.out] at HE HHN HSN2 hle hgt
              obtain ⟨d, HD⟩ : ∃ d, Hid (stopF linB (tailS s pos) (tailS s pos).size 0 = d) := ⟨_, Lib.hid rfl⟩
              rw [HD.out] at HE HLN
              have hpd : pos + d = E := HE.out
              clear hlow hbt hh
              subst h35
              have g3 : (pos : Int) ≤ (s.size : Int) := by omega
              go_wp2_with fail
              refine HLN.out.mono ?_
              rintro e w3 ⟨rfl, hb3⟩
              have HSN : Hid (ScI nm s b w w3 _ (pos + K) E l) := Lib.hid ⟨(hb3.block _ (by have := HBG.out; omega)).trans HIT.out, HOW.out.below hb3, HBW.out.trans (hb3.mono (by have := HBG.out; omega)), Nat.le_trans HBG.out hb3.size, HI.out.most, fun _ => HHN.out, hle, fun r h => HSN2.out r (by have := HHN.out.le; rw [show max (pos + K) E = E by omega] at h; exact h)⟩
              clear hb3
              go_wp2
              go_roundg g'
              case measure => omega
              case rel => exact ⟨pos + K, E, l, by rw [← hpd]; go_num, HSN, by omega⟩
            · have g35 : ((R : Int) == 35) = false := by simp; omega
              obtain ⟨nb1, nb2⟩ := not_blank hps HR.out (by omega) (by omega) h35
              obtain ⟨Av, cv, hv⟩ := HI.out.own.form
              subst hv
              obtain ⟨len, HLN⟩ : ∃ len, Hid (l.length = len) := ⟨_, Lib.hid rfl⟩
              rw [HLN.out]
              have hlen : len ≤ 6000 := by rw [← HLN.out]; exact HI.out.most
              have g3 : (pos : Int) ≤ (s.size : Int) := by omega
              by_cases hm : len = 6000
              · have HS : Hid (Sc nm s 0 [] ([], pos, 11)) := Lib.hid (HS0.out _ (.many hps nb1 nb2 (by rw [HLN.out]; exact hm)))
                have gm : ((len : Int) == 6000) = true := by simp [hm]; try omega
                clear nb1 nb2
                go_wp2
                go_ret3
                exact ⟨([], pos, 11), _, .inr ⟨hz2, HS.out⟩, rfl, OT.nil _ _, by rw [← HB.out]; exact HBW.out⟩
              · have gm : ((len : Int) == 6000) = false := by simp; omega
                have HFI := Lib.hid (HF.out pos W hps HBW.out)
                cases hf : firstP nm (tailS s pos) with
                | error why =>
                  have HS : Hid (Sc nm s 0 [] ([], pos, why)) := Lib.hid (HS0.out _ (.wrong hps nb1 nb2 (by rw [HLN.out]; exact hm) hf))
                  have hwy := first_err hf
                  have gw : ((why : Int) != 0) = true := by simp; omega
                  rw [fv_err hf] at HFI
                  clear nb1 nb2 hf hwy
                  go_wp2_with fail
                  refine HFI.out.mono ?_
                  rintro e w3 ⟨rfl, hb3⟩
                  have HB3 : Hid (Below b w w3) := Lib.hid (HBW.out.trans (hb3.mono (by have := HBG.out; omega)))
                  clear hb3
                  go_wp2
                  go_ret3
                  exact ⟨([], pos, why), _, .inr ⟨hz2, HS.out⟩, rfl, OT.nil _ _, by rw [← HB.out]; exact HB3.out.alloc (by have := HB3.out.size; have := HBG.out; have := HB.out; omega) _⟩
                | ok q =>
                  obtain ⟨k, n, m⟩ := q
                  obtain ⟨hm0, hm1, _⟩ := first_ok hps hf
                  have HTH := Lib.hid (token_hits hps hf)
                  have HQ : Hid ((tailS s pos).extract 0 m = s.extract pos (pos + m)) := Lib.hid (by unfold tailS; rw [ByteArray.extract_extract]; congr 1; omega)
                  have HS : Hid (∀ r, Sc nm s (pos + m) (l ++ [⟨k, n, pos, s.extract pos (pos + m)⟩]) r → Sc nm s 0 [] r) := Lib.hid (fun r h => HS0.out r (.token hps nb1 nb2 (by rw [HLN.out]; exact hm) hf h))
                  rw [fv_ok hf, HQ.out] at HFI
                  have HQS : Hid ((s.extract pos (pos + m)).size = m) := Lib.hid (by rw [ByteArray.size_extract]; omega)
                  generalize s.extract pos (pos + m) = q at HFI HS HQS
                  have HHN : Hid (Hits s (pos + K) (pos + m)) := Lib.hid (by have := HTH.out.next (by omega); rw [HK.out] at this; exact this)
                  clear nb1 nb2 hf HTH HQ
                  go_wp2_with fail
                  refine HFI.out.mono ?_
                  rintro e w3 ⟨rfl, hb3⟩
                  have HB3 : Hid (Below b w w3) := Lib.hid (HBW.out.trans (hb3.mono (by have := HBG.out; omega)))
                  have HIT3 : Hid (w3.heap[b]? = some (.stringIter s (pos + K))) := Lib.hid ((hb3.block _ (by have := HBG.out; omega)).trans HIT.out)
                  have HO3 := Lib.hid (HOW.out.below hb3)
                  have HG3 : Hid (b + 1 ≤ w3.heap.size) := Lib.hid (Nat.le_trans HBG.out hb3.size)
                  clear hb3
                  go_upto_region 17 with (fail)
                  obtain ⟨tb, HTB⟩ : ∃ tb, Hid (tb = w3.heap.size) := ⟨_, Lib.hid rfl⟩
                  obtain ⟨w6, HW6⟩ : ∃ w6, Hid (w6 = w3.alloc (.cells #[.int .i64 (k : Nat), .int .i64 n, .int .i64 (pos : Nat), .string q] 72)) := ⟨_, Lib.hid rfl⟩
                  rw [← HW6.out, ← HTB.out]
                  have HAL : Hid (Below w3.heap.size w3 w6) := Lib.hid (by rw [HW6.out]; exact (Below.refl _ _).alloc (Nat.le_refl _) _)
                  have HC6 : Hid (w6.heap[tb]? = some (.cells #[.int .i64 (k : Nat), .int .i64 n, .int .i64 (pos : Nat), .string q] 72 (0, 0))) := Lib.hid (by rw [HW6.out, HTB.out]; exact World.alloc_heap_new _ _)
                  have HO6 := Lib.hid (HO3.out.below HAL.out)
                  rw [HLN.out] at HO6
                  have HB6 : Hid (Below b w w6) := Lib.hid (HB3.out.trans (HAL.out.mono (by have := HG3.out; omega)))
                  have HIT6 : Hid (w6.heap[b]? = some (.stringIter s (pos + K))) := Lib.hid ((HAL.out.block _ (by have := HG3.out; omega)).trans HIT3.out)
                  have HG6 : Hid (b + 1 ≤ w6.heap.size) := Lib.hid (Nat.le_trans HG3.out HAL.out.size)
                  have c0 := cell_of_row _ _ 0 _ _ _ HC6.out
                  have c1 := cell_of_row _ _ 1 _ _ _ HC6.out
                  have c2 := cell_of_row _ _ 2 _ _ _ HC6.out
                  have c3 := cell_of_row _ _ 3 _ _ _ HC6.out
                  have hll : l.length + 1 ≤ 1000000 := by rw [HLN.out]; omega
                  have HNE : Hid (∀ g, (Value.slice Av len cv).ownBlock = some g → g ≠ tb) := Lib.hid (fun g e => by
                    have h9 := HO3.out
                    rw [HLN.out] at h9
                    have := (World.ownsRow.lt h9 g e).2
                    have := HTB.out; omega)
                  go_wp2_with (at_builtin; go_loud (refine append_tok rfl (.tmp 56) (.tmp 58) rfl (b + 1) _ l rfl HO6.out k pos n q rfl hll HG6.out ?_); intro v4 w4 ho4 hb4 hg4; have HO4 := Lib.hid ho4; have HB4 := Lib.hid hb4; have c4 : w4.cell? ⟨tb, 3, none⟩ = some (.string q) := (World.cell?_of_block (a := ⟨tb, 3, none⟩) ((hg4.block tb (by have := (Array.getElem?_eq_some_iff.1 HC6.out).1; simp; omega) (fun e => HNE.out tb e.symm rfl)).trans (Below.heap_alloc _ _ _ (Array.getElem?_eq_some_iff.1 HC6.out).1))).trans c3; have hqs := HQS.out; clear ho4 hb4 hg4 c0 c1 c2 c3)
                  go_roundg g'
                  case measure => omega
                  case rel =>
                    refine ⟨pos + K, pos + m, l ++ [⟨k, n, pos, q⟩], by go_num, Lib.hid ⟨(HB4.out.block _ (by omega)).trans HIT6.out, HO4.out, HB6.out.trans (HB4.out.mono (by omega)), Nat.le_trans HG6.out HB4.out.size, by rw [List.length_append, HLN.out]; simp; omega, fun _ => HHN.out, hm1, fun r h => HS.out r (by have := HHN.out.le; rw [show max (pos + K) (pos + m) = pos + m by omega] at h; exact h)⟩, by omega⟩
      · have hnx : ∀ ty, (Instr.next (.pointer (some ⟨b, 0, none⟩)) true ty).run Tryd.prog wr = _ := fun ty => Lib.run_next_end_at wr b s pos ty HI.out.it hps
        have HS : Hid (Sc nm s 0 [] (l, 0, 0)) := Lib.hid (HI.out.sc _ (.done (by omega)))
        go_wp2
        go_ret3
        exact ⟨(l, 0, 0), _, .inr ⟨hz2, HS.out⟩, rfl, HI.out.own.mono (by have := HB.out; omega), by rw [← HB.out]; exact HI.out.below⟩
end Go.Proofs.YthjpjcjmiaojcaaDoor.lx
