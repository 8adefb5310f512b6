/- The program's period and from. -/
import Derived.Test.YtophajljjnjcdaaWdNormA
namespace Go.Proofs.Ytophajljjnjcdaa.wd
open Go.ChangeShapes Go.WideShapes Go.ChangeAt Go.RowKit Go.Deep sr lt nf

theorem perG_yes {l : List Int} {f k : Nat} (h : perOk l k = true) : perG l (f + 1) k = k := by unfold perG; rw [if_pos h]
theorem perG_no {l : List Int} {f k : Nat} (h : perOk l k = false) : perG l (f + 1) k = perG l f (k + 1) := by
  conv => lhs; unfold perG
  rw [if_neg (by rw [h]; decide)]
set_option maxRecDepth 20000 in
set_option maxHeartbeats 2000000 in
theorem period_any (A : Option Addr) (m c : Nat) (l : List Int) (w : World) (hm : m = l.length) (h0 : 0 < m) (hm2 : m ≤ 1000) (hc : m ≤ c) (hA : UA w A l) :
    Calls Try.prog 36 #[.slice A m c] w (ValP w (.int .i64 (perF l : Nat))) := by
  have HM := Lib.hid hm
  have HA := Lib.hid hA
  obtain ⟨P, HP⟩ : ∃ P : Nat, Hid (perF l = P) := ⟨_, Lib.hid rfl⟩
  have HP1 : Hid (P = perG l (m - 1) 1) := Lib.hid (by rw [← HP.out, HM.out]; rfl)
  rw [HP.out]
  clear hm hA HP
  go_enter Try.func36, Try.ntmps36
  go_wp2
  go_loopw [4] (fun iv wr => ∃ k : Nat, 1 ≤ k ∧ k ≤ m ∧ iv = .int .i64 k ∧ Hid (∃ j, wr = w.drewN j) ∧ Hid (P = perG l (m - k) k)) (fun iv _ => m - (intOf iv).toNat)
  case atStart => exact ⟨1, Nat.le_refl _, h0, rfl, Lib.hid ⟨0, rfl⟩, HP1⟩
  case round =>
    obtain ⟨k, hk1, hkm, rfl, HJ, HK⟩ := hrel
    by_cases hlt : k < m
    · have hlti : (k : Int) < m := by omega
      obtain ⟨t, HT, hti⟩ : ∃ t : Nat, Hid (m = k + t) ∧ (m : Int) - (k : Int) = (t : Int) := ⟨m - k, Lib.hid (by omega), by omega⟩
      obtain ⟨r, HR⟩ : ∃ r : Nat, Hid (m % k = r) := ⟨_, Lib.hid rfl⟩
      have hrt : (m : Int).tmod (k : Int) = (r : Int) := by
        rw [Int.tmod_eq_emod_of_nonneg (by omega), ← HR.out]
        rfl
      have hk0 : ¬ (k : Int) = 0 := by omega
      have hrk : r < k := by rw [← HR.out]; exact Nat.mod_lt _ (by omega)
      obtain ⟨f, HF⟩ : ∃ f, Hid (m - k = f + 1 ∧ m - (k + 1) = f) := ⟨m - k - 1, Lib.hid ⟨by omega, by omega⟩⟩
      by_cases hr0 : r = 0
      · have HR0 := Lib.hid hr0
        have hrb : ((r : Int) == 0) = true := by rw [hr0]; rfl
        clear hr0
        obtain ⟨A2, HA2, ET⟩ := tail_ru A k t c (by omega)
        have EH := head_ru A t k c (by have := HT.out; omega)
        have ekt : k + t = m := HT.out.symm
        have etk : t + k = m := by have := HT.out; omega
        rw [ekt] at ET
        rw [etk] at EH
        have HE : Hid (∀ q, Calls Try.prog 42 #[.slice A2 t (c - k), .slice A t c] (wr.drewN q) fun e w' => e = .returned (.bool (perOk l k)) ∧ ∃ n, w' = (wr.drewN q).drewN n) := Lib.hid (fun q => by
          have HAQ : UA (wr.drewN q) A l := by
            obtain ⟨j, hj⟩ := HJ.out
            rw [hj]
            exact HA.out
          have e1 : perOk l k = eqB (l.drop k) (l.take t) := by
            unfold perOk eqB
            rw [← HM.out, HR.out, show m - k = t by omega, decide_eq_true HR0.out, Bool.true_and]
          rw [e1]
          exact equal_words A2 A (c - k) c t t (l.drop k) (l.take t) (wr.drewN q) (by rw [List.length_drop, ← HM.out]; omega) (by rw [List.length_take, ← HM.out]; omega) (by rw [HA2]; exact ua_tail HAQ (by rw [← HM.out]; exact hc)) (ua_head HAQ t) (by rw [List.length_drop, ← HM.out]; unfold maxLen; omega) (by rw [List.length_take, ← HM.out]; unfold maxLen; omega))
        obtain ⟨y, HY⟩ : ∃ y, Hid (perOk l k = y) := ⟨_, Lib.hid rfl⟩
        rw [HY.out] at HE
        clear HA2 ekt etk
        go_wp2
        go_quiet ((go_at_call 42; exact Calls.quiet_of (HE.out _)))
        cases y
        · have HK2 : Hid (P = perG l (m - (k + 1)) (k + 1)) := Lib.hid (by rw [HK.out, HF.out.1, HF.out.2]; exact perG_no HY.out)
          clear ET EH HE
          go_wp2
          go_roundw
          case rel => exact ⟨k + 1, by omega, by omega, by go_num, Lib.hid (by obtain ⟨j, hj⟩ := HJ.out; rw [hj]; exact ⟨_, World.drewN_drewN _ _ _⟩), HK2⟩
          case measure => simp [intOf]; omega
        · have HPK : Hid (P = k) := Lib.hid (by rw [HK.out, HF.out.1]; exact perG_yes HY.out)
          clear ET EH HE
          go_wp2
          go_ret
          exact ⟨by rw [HPK.out]; rfl, by obtain ⟨j, hj⟩ := HJ.out; rw [hj]; exact below_drewN (below_drewN (Below.refl _ _) _) _⟩
      · have hrb : ((r : Int) == 0) = false := by simpa using (by omega : ¬ r = 0)
        have hrb2 : ¬ (r : Int) = 0 := by omega
        have HK2 : Hid (P = perG l (m - (k + 1)) (k + 1)) := Lib.hid (by
          rw [HK.out, HF.out.1, HF.out.2]
          refine perG_no ?_
          unfold perOk
          rw [← HM.out, HR.out, decide_eq_false hr0]
          rfl)
        go_wp2
        go_quiet (fail)
        go_wp2
        go_roundw
        case rel => exact ⟨k + 1, by omega, by omega, by go_num, Lib.hid (by obtain ⟨j, hj⟩ := HJ.out; rw [hj]; exact ⟨_, World.drewN_drewN _ _ _⟩), HK2⟩
        case measure => simp [intOf]; omega
    · have hlti : ¬ (k : Int) < m := by omega
      have HPM : Hid (P = m) := Lib.hid (by
        rw [HK.out, show m - k = 0 by omega, HM.out]
        rfl)
      go_wp2
      go_ret
      exact ⟨by rw [HPM.out]; rfl, by obtain ⟨j, hj⟩ := HJ.out; rw [hj]; exact below_drewN (Below.refl _ _) _⟩
set_option maxRecDepth 20000 in
set_option maxHeartbeats 2000000 in
theorem from_any (A : Option Addr) (m c : Nat) (l : List Int) (z : Int) (w : World) (hm : m = l.length) (h0 : 0 < m) (hm2 : m ≤ 1000) (hc : m ≤ c) (hA : UA w A l) (hz1 : -9223372036854775808 ≤ z) (hz2 : z ≤ 9223372036854775807) :
    Calls Try.prog 38 #[.slice A m c, .int .i64 z] w (NewU w m (fromF l z)) := by
  obtain ⟨f, hf⟩ : ∃ f : Nat, z % (m : Int) = f := ⟨(z % (m : Int)).toNat, by have := Int.emod_nonneg z (show (m : Int) ≠ 0 by omega); omega⟩
  have hfm : f < m := by have := Int.emod_lt_of_pos z (show (0 : Int) < m by omega); omega
  have HMD : Hid (∀ w, Calls Try.prog 29 #[.int .i64 z, .int .i64 m] w fun e w' => e = .returned (.int .i64 f) ∧ w' = w) := Lib.hid (fun w => by
    refine (mod_any z m w hz1 hz2 (by omega) (by omega)).mono ?_
    rintro e w' ⟨rfl, rfl⟩
    unfold modF
    rw [if_neg (by omega), hf]
    exact ⟨rfl, rfl⟩)
  have HL : Hid (fromF l z = l.drop f ++ l.take f) := Lib.hid (by unfold fromF; rw [← hm, hf, Int.toNat_natCast])
  obtain ⟨t, HT⟩ : ∃ t : Nat, Hid (m = f + t) := ⟨m - f, Lib.hid (by omega)⟩
  obtain ⟨A2, HA2, ET⟩ := tail_ru A f t c (by omega)
  have EH := head_ru A f t c (by have := HT.out; omega)
  rw [← HT.out] at ET EH
  have HCC : Hid (∀ W, Below w.heap.size w W → W.cell? ⟨w.heap.size, 0, none⟩ = some (.slice A2 t (c - f)) → W.cell? ⟨w.heap.size, 1, none⟩ = some (.slice A f c) → w.heap.size < W.heap.size → Calls Try.prog 53 #[.slice (some ⟨w.heap.size, 0, none⟩) 2 2] W (NewU W m (fromF l z))) := Lib.hid (fun W hW c1 c2 hs => by
    rw [HL.out]
    have e : m = t + f := by have := HT.out; omega
    rw [e]
    exact concat_any w.heap.size t (c - f) f c A2 A (l.drop f) (l.take f) W (by rw [List.length_drop, ← hm]; omega) (by rw [List.length_take, ← hm]; omega) (by omega) (by omega) (by omega) hs c1 c2 (by rw [HA2]; exact ua_tail (hA.below hW) (by omega)) (ua_head (hA.below hW) f))
  clear hm hA hf HL HA2
  go_enter Try.func38, Try.ntmps38
  go_wp2_with fail
  refine (HMD.out _).mono ?_
  rintro e2 w2 ⟨rfl, rfl⟩
  go_wp2_with fail
  go_region_held3 (fun _ => True) (trivial)
    (first
      | (go_at_call 53; refine (HCC.out _ (by first | exact ((Below.refl _ _).drew).alloc (Nat.le_refl _) _ | exact ((Below.refl _ _).alloc (Nat.le_refl _) _).drew | exact (Below.refl _ _).alloc (Nat.le_refl _) _) (by exact World.cell?_alloc_at _ _ _ _ (by simp)) (by exact World.cell?_alloc_at _ _ _ _ (by simp)) (by simp)).mono ?_; rintro e3 w3 ⟨hl3, A3, c3, rfl, hu3, hc3, hm3, hb3, hn3⟩; have HL3 := Lib.hid hl3; have HU3 := Lib.hid hu3; have HC3 := Lib.hid hc3; have HM3 := Lib.hid hm3; have HB3 := Lib.hid hb3; have HBA : Hid (Below w2.heap.size w2 w3) := Lib.hid (by first | exact (((Below.refl w2.heap.size w2).alloc (Nat.le_refl _) _).drew).trans (hb3.mono (by simp)) | exact (((Below.refl w2.heap.size w2).drew).alloc (Nat.le_refl _) _).trans (hb3.mono (by simp))); have HNA : Hid (∀ a, A3 = some a → w2.heap.size ≤ a.block) := Lib.hid (fun a ha => Nat.le_trans (by simp) (hn3 a ha)); clear hl3 hu3 hc3 hm3 hb3 hn3)
      | fail)
  all_goals
    go_wp2
    go_ret
    exact ⟨HL3.out, A3, c3, rfl, HU3.out, HC3.out, HM3.out, HBA.out, HNA.out⟩
end Go.Proofs.Ytophajljjnjcdaa.wd
