/- The document's Truths. -/
import Derived.Test.YtmdfiamffipbcaaDoorNnfPlaces
import Derived.Test.YtmdfiamffipbcaaDoorNnfApp
import Derived.Test.YtmdfiamffipbcaaDoorNnfRForm
import Derived.Deep.RegionHeld3
namespace Go.Proofs.YtmdfiamffipbcaaDoor.nf
open Go.ChangeShapes Go.WideShapes Go.ChangeAt Go.RowKit Go.Deep sr lt

/-- A row of rows of n bools. -/
def RL (w : World) (A : Option Addr) (n : Nat) (l : List (List Bool)) : Prop :=
  0 < l.length → ∃ b off, A = some ⟨b, off, none⟩ ∧ b < w.heap.size ∧ ∀ i, i < l.length → ∃ A' c', w.cell? ⟨b, off + i, none⟩ = some (.slice A' n c') ∧ BL w A' (l.getD i [])
def TrP (w : World) (e : List (Int × Int)) (sets : List Int) (loop n : Nat) (r : Ending) (w' : World) : Prop := ∃ A c, r = .returned (.slice A e.length c) ∧ RL w' A n (trF e (outF e e.length) sets loop e.length) ∧ Below w.heap.size w w'
theorem trF_all_len (e : List (Int × Int)) (sets : List Int) (loop n : Nat) (hn : sets.length = n) (hF : isF e = true) : ∀ k, k ≤ e.length → ∀ j, j < k → ((trF e (outF e e.length) sets loop k).getD j []).length = n
  | 0, _, j, hj => by omega
  | k + 1, hk, j, hj => by
    have ih := trF_all_len e sets loop n hn hF k (by omega)
    by_cases hjk : j < k
    · rw [trF_keep _ _ _ _ hj, ← trF_keep _ _ _ _ hjk]
      exact ih j hjk
    · obtain rfl : j = k := by omega
      rw [trF_last]
      rw [pl_len, hn]
      intro h1
      obtain ⟨st, hok, hnd⟩ := Ok.of_is (isF_iff.1 hF) j (by omega)
      have h3 := tk_iff.1 (hnd (by omega))
      have h4 := tk_kT h3.1
      have h5 := kT_range (e.getD j (0, 0)).1
      have hj0 : 0 < j := by
        rcases Nat.eq_zero_or_pos j with rfl | h
        · have := hok.uniq (Ok.zero e)
          subst this
          have h9 : tkF (e.getD 0 (0, 0)) ≤ ((0 : Nat) : Int) := h3.2
          omega
        · exact h
      rw [if_neg (by omega)]
      by_cases h6 : kT (e.getD j (0, 0)).1 = 1
      · rw [if_pos h6, hn]
        exact ih (j - 1) (by omega)
      · rw [if_neg h6, hn]
        obtain ⟨s, s1, s2, s3⟩ := bgn_at hok (k := 1) (by omega) (by omega)
        have hb : (outF e e.length).getD (j - 1) 0 = (s : Int) := by
          rw [outF_take e (show j - 1 < j by omega) (by omega)]
          exact s1
        rw [hb]
        exact ih _ (by rw [Int.toNat_natCast]; omega)
theorem tr_fresh {base : Nat} {wr w5 w6 : World} {v : Value} {n i : Nat} {X : List (Option Addr × Nat × Nat)} {l : List (List Bool)} {A6 : Option Addr} {L : List Bool} (h : TrW base wr v n i X l) (hb : Below wr.heap.size wr w5) (hf : ∀ a, A6 = some a → w5.drew.heap.size ≤ a.block) (h6 : BL w6 A6 L) (hL : 0 < L.length) (o : Obj) :
    ∀ a, A6 = some a → v.ownBlock ≠ some a.block ∧ a.block < (w6.alloc o).heap.size := fun a ha => by
  refine ⟨fun e1 => ?_, ?_⟩
  · have q1 := (World.ownsRow.lt h.own _ e1).2
    have q2 : w5.heap.size ≤ a.block := hf a ha
    have q3 := hb.size
    omega
  · obtain ⟨b6, o6, e6, hl6, _⟩ := h6 hL
    rw [ha] at e6
    injection e6 with e6
    subst e6
    simp
    omega
set_option maxRecDepth 20000 in
set_option maxHeartbeats 40000000 in
theorem truths_any (e : List (Int × Int)) (A As Al : Option Addr) (stem lp sets : List Int) (c m ns cs nl cl n : Nat) (w : World) (hm : m = e.length) (hm9 : m ≤ 1000) (hA : PA w A e) (hF : isF e = true) (hns : ns = stem.length) (hnl : nl = lp.length) (hnl0 : 0 < nl) (hlen : n ≤ 1000) (hSt : UA w As stem) (hLp : UA w Al lp)
    (hsets : stem ++ lp = sets) (hn : ns + nl = n) (hsb : ∀ i, i < n → 0 ≤ sets.getD i 0 ∧ sets.getD i 0 < 18446744073709551616) :
    Calls Tryd.prog 20 #[.slice A m c, .agg #[.slice As ns cs, .slice Al nl cl]] w (TrP w e sets ns n) := by
  have HM := Lib.hid hm
  have HA := Lib.hid hA
  have HF := Lib.hid hF
  have HNS := Lib.hid hns
  have HNL := Lib.hid hnl
  have HST := Lib.hid hSt
  have HLP := Lib.hid hLp
  have HSB := Lib.hid hsb
  have HSE := Lib.hid hsets
  have HSL : Hid (sets.length = n) := Lib.hid (by rw [← hsets, List.length_append]; omega)
  obtain ⟨B, HBB⟩ : ∃ B, Hid (outF e e.length = B) := ⟨_, Lib.hid rfl⟩
  have HTL : Hid (∀ k, k ≤ e.length → ∀ j, j < k → ((trF e B sets ns k).getD j []).length = n) := Lib.hid (by rw [← HBB.out]; exact trF_all_len e sets ns n HSL.out hF)
  clear hm hA hF hns hnl hSt hLp hsb hsets
  go_enter Tryd.func20, Tryd.ntmps20
  have hz1 : (w.alloc (.cells #[.slice As ns cs, .slice Al nl cl] 32)).heap.size = w.heap.size + 1 := by simp
  have HBX : Hid (∀ W, Below (w.heap.size + 1) (w.alloc (.cells #[.slice As ns cs, .slice Al nl cl] 32)) W → W.cell? ⟨w.heap.size, 0, none⟩ = some (.slice As ns cs) ∧ W.cell? ⟨w.heap.size, 1, none⟩ = some (.slice Al nl cl)) := Lib.hid (fun W h => by
    have hb := h.block w.heap.size (by omega)
    exact ⟨(World.cell?_of_block (a := ⟨w.heap.size, 0, none⟩) hb).trans (World.cell?_alloc_at _ _ _ _ rfl), (World.cell?_of_block (a := ⟨w.heap.size, 1, none⟩) hb).trans (World.cell?_alloc_at _ _ _ _ rfl)⟩)
  have HB1 : Hid (Below w.heap.size w (w.alloc (.cells #[.slice As ns cs, .slice Al nl cl] 32))) := Lib.hid (below_one _ _)
  go_wp2_with fail
  generalize w.alloc (.cells #[.slice As ns cs, .slice Al nl cl] 32) = w1 at *
  refine (begins_any e A c m w1 HM.out (by omega) (HA.out.below HB1.out)).mono ?_
  rintro q w2 ⟨bv, rfl, hO, _, hb2⟩
  rw [hz1] at hO hb2
  obtain ⟨Bb, bd, hbv, hIA⟩ := (hO HF.out).form
  rw [outF_len, ← HM.out] at hbv
  subst hbv
  rw [HBB.out] at hIA
  have HI := Lib.hid hIA
  have HB2 := Lib.hid hb2
  have HBX2 := HBX.out w2 hb2
  have HFF := HF.out
  rw [HFF]
  clear hO hb2 hIA
  obtain ⟨bx0, bx1⟩ := HBX2
  have hnl9 : (nl : Int) ≠ 0 := by omega
  have hz2 := HB2.out.size
  rw [hz1] at hz2
  have hz12 : w.heap.size + 1 ≤ w2.heap.size := hz2
  go_wp2_with (first
    | (at_builtin; refine list_append_all encU_len encU_one Tryd.underlying30 infoU rfl (by decide) (by decide) w2.heap.size rfl (.tmp 27) (.tmp 29) rfl rfl _ [] rfl (World.ownsRow_nil _ _ _ _) As ns cs stem rfl HNS.out (ua_rs (HST.out.below (HB1.out.trans (HB2.out.mono (by omega))))) (by simp; omega) (by omega) ?_; intro v3 w3 ho3 hb3; rw [List.nil_append] at ho3; have HO3 := Lib.hid ho3; have HB3 := Lib.hid hb3; have bx3 := (HBX.out w3 (HB2.out.trans (hb3.mono hz12))).2; clear ho3 hb3)
    | (at_builtin; refine list_append_all encU_len encU_one Tryd.underlying30 infoU rfl (by decide) (by decide) w2.heap.size rfl (.tmp 31) (.tmp 33) rfl rfl _ stem rfl HO3.out Al nl cl lp rfl HNL.out (ua_rs (HLP.out.below (HB1.out.trans ((HB2.out.mono (by omega)).trans (HB3.out.mono (by omega)))))) (by rw [← HNS.out]; omega) (by have := HB3.out.size; omega) ?_; intro v4 w4 ho4 hb4; have HO4 := Lib.hid ho4; have HB4 := Lib.hid (HB3.out.trans hb4); clear ho4 hb4)
    | fail)
  clear bx0 bx1 bx3
  obtain ⟨SA, sc, hv4, hu4⟩ := OR.rs encU_len HO4.out
  rw [HSE.out, HSL.out] at hv4
  rw [HSE.out] at hu4
  subst hv4
  have HSU := Lib.hid (rs_ua hu4)
  have HBW4 : Hid (Below w.heap.size w w4) := Lib.hid (HB1.out.trans ((HB2.out.mono (by omega)).trans (HB4.out.mono (by omega))))
  have HBXX : Hid (∀ W, Below w4.heap.size w4 W → W.cell? ⟨w.heap.size, 0, none⟩ = some (.slice As ns cs)) := Lib.hid (fun W h => (HBX.out W (HB2.out.trans ((HB4.out.trans (h.mono HB4.out.size)).mono hz12))).1)
  have HBXL : Hid (∀ W, Below w4.heap.size w4 W → w.heap.size < W.heap.size) := Lib.hid (fun W h => by have := h.size; have := HB4.out.size; omega)
  have HI4 := Lib.hid (HI.out.below HB4.out)
  have HBL : Hid (m = B.length) := Lib.hid (by rw [← HBB.out, outF_len]; exact HM.out)
  clear HI HO3 HO4 HB1 HB2 HB3 HB4 HBX hz2 hz12 hu4 hz1
  go_loopw [8, 9] (fun ov iv wr => ∃ (i : Nat) (v : Value) (X : List (Option Addr × Nat × Nat)), i ≤ m ∧ iv = .int .i64 i ∧ v = ov ∧ Hid (TrW w4.heap.size wr v n i X (trF e B sets ns i)) ∧ Hid (Below w4.heap.size w4 wr)) (fun _ iv _ => m - (intOf iv).toNat)
  case atStart => exact ⟨0, _, [], Nat.zero_le _, rfl, rfl, Lib.hid (TrW.nil _ _ _), Lib.hid (Below.refl _ _)⟩
  case round =>
    obtain ⟨i, v, X, hi, rfl, rfl, HT, HB⟩ := hrel
    obtain ⟨OA, oc, rfl, hrow⟩ := HT.out.cell
    have HROW := Lib.hid hrow
    clear hrow
    by_cases hlt : i < m
    · have HIL : Hid (i < e.length) := Lib.hid (by rw [← HM.out]; exact hlt)
      obtain ⟨x, y, HXY⟩ : ∃ x y, Hid (e.getD i (0, 0) = (x, y)) := ⟨_, _, Lib.hid rfl⟩
      have HBWR : Hid (Below w.heap.size w wr) := Lib.hid (HBW4.out.trans (HB.out.mono HBW4.out.size))
      obtain ⟨ab, ao, rfl, hab, hac⟩ := HA.out (by rw [← HM.out]; omega)
      have HAC : Hid (∀ W, Below w.heap.size w W → W.cell? ⟨ab, ao + i * 2, none⟩ = some (.int .i64 x) ∧ W.cell? ⟨ab, ao + i * 2 + 1, none⟩ = some (.int .i64 y)) := Lib.hid (fun W h => by
        have g := hac i HIL.out
        rw [HXY.out] at g
        exact ⟨(h.cell (p := ⟨ab, ao + i * 2, none⟩) hab).trans g.1, (h.cell (p := ⟨ab, ao + i * 2 + 1, none⟩) hab).trans g.2⟩)
      obtain ⟨st, hok, hnd⟩ := Ok.of_is (isF_iff.1 HF.out) i (Nat.le_of_lt HIL.out)
      have h3 := tk_iff.1 (hnd HIL.out)
      rw [HXY.out] at h3
      have h4 : kT x = tkF (x, y) := tk_kT h3.1
      have HQ : Hid (x = 3 → 0 ≤ y ∧ y < 8) := Lib.hid (fun hx => by
        have h5 := h3.1
        unfold tkF at h5
        by_cases h6 : x = 3 ∧ (y < 0 ∨ 8 ≤ y)
        · rw [if_pos h6] at h5; omega
        · omega)
      have hi0 : 0 < st.length → 0 < i := fun h => by
        rcases Nat.eq_zero_or_pos i with h0 | h0
        · subst h0
          have := hok.uniq (Ok.zero e)
          subst this
          simp at h
        · exact h0
      have HTR : Hid (trF e B sets ns (i + 1) = trF e B sets ns i ++ [plF (x, y) sets ns (if kT x = 0 then [] else if kT x = 1 then (trF e B sets ns i).getD (i - 1) [] else (trF e B sets ns i).getD ((B.getD (i - 1) 0).toNat - 1) []) (if kT x = 2 then (trF e B sets ns i).getD (i - 1) [] else [])]) := Lib.hid (by rw [trF, HXY.out])
      have HTN := Lib.hid (HTL.out i (Nat.le_of_lt HIL.out))
      rcases tk_range (x, y) with h5 | h5 | h5 | h5
      · omega
      · have hk : kT x = 0 := by omega
        rw [if_pos hk, if_neg (by omega)] at HTR
        have HPR := Lib.hid (parts_any e (some ⟨ab, ao, none⟩) Bb c bd m B (x, y) 0 (-1) (-1) i wr HM.out hm9 (HA.out.below HBWR.out) (HI4.out.below HB.out) HBL.out hlt HXY.out h5 (.inl ⟨rfl, rfl, rfl⟩))
        clear hok hnd hac
        go_wp2_with fail
        refine HPR.out.mono ?_
        rintro q w5 ⟨rfl, hb5⟩
        have HB5K := Lib.hid hb5
        have HB5 : Hid (Below w4.heap.size w4 w5) := Lib.hid (HB.out.trans (hb5.mono HB.out.size))
        have HB5W : Hid (Below w.heap.size w w5) := Lib.hid (HBW4.out.trans (HB5.out.mono HBW4.out.size))
        obtain ⟨c1, c2⟩ := HAC.out w5 HB5W.out
        have bx5 := HBXX.out w5 HB5.out
        clear hb5 HPR
        go_wp2_with fail
        have HSK : Hid (∀ W, Below w4.heap.size w4 W → W.cell? ⟨ab, ao + i * 2, none⟩ = some (.int .i64 x) ∧ W.cell? ⟨ab, ao + i * 2 + 1, none⟩ = some (.int .i64 y) ∧ W.cell? ⟨w.heap.size, 0, none⟩ = some (.slice As ns cs)) := Lib.hid (fun W h => ⟨(HAC.out W (HBW4.out.trans (h.mono HBW4.out.size))).1, (HAC.out W (HBW4.out.trans (h.mono HBW4.out.size))).2, HBXX.out W h⟩)
        go_region_held3 (fun W => W.cell? ⟨ab, ao + i * 2, none⟩ = some (.int .i64 x) ∧ W.cell? ⟨ab, ao + i * 2 + 1, none⟩ = some (.int .i64 y) ∧ W.cell? ⟨w.heap.size, 0, none⟩ = some (.slice As ns cs))
          (first | exact ⟨c1, c2, bx5⟩ | exact HSK.out _ HB5.out.drew | exact HSK.out _ HB6.out | exact HSK.out _ (HB6.out.alloc HB6.out.size _) | exact HSK.out _ HB7.out | go_keep)
          (first
            | (refine step_append_row w4.heap.size w6.heap.size (by rfl) (.tmp 60) (.tmp 72) (by rfl) (by rfl) _ X (by rfl) HT6.out.own A6 n c6 (by rfl) (by rw [HT.out.len]; omega) (by have := HB6.out.size; simp; omega) _ (World.alloc_heap_new _ _) ?_; intro v7 w7 ho7 hb7 hg7 h57; have HT7 := Lib.hid (HT6.out.snoc (trF_len _ _ _ _ _) ho7 hg7 h57 (HG6.out.below ((Below.refl _ _).alloc (Nat.le_refl _) _)) HF6.out); have HB7 : Hid (Below w4.heap.size w4 w7) := Lib.hid ((HB6.out.alloc HB6.out.size _).trans hb7); clear ho7 hb7 hg7 h57)
            | (go_at_call 27; refine (places_any x y sets [] [] SA none none sc 0 0 0 0 n ns _ HSL.out (by omega) (by omega) (by omega) HQ.out HSB.out (HSU.out.below (w' := w5.drew) HB5.out.drew) (fun h => by omega) (fun h => by omega)).mono ?_; rintro q w6 ⟨A6, c6, rfl, h6, hb6, hf6⟩; have HG6 := Lib.hid h6; have HD6 : Hid (Below w5.heap.size w5 w6) := Lib.hid ((Below.refl w5.heap.size w5).drew.trans hb6); have HB6 : Hid (Below w4.heap.size w4 w6) := Lib.hid (HB5.out.trans (HD6.out.mono HB5.out.size)); have HK6 : Hid (Below wr.heap.size wr w6) := Lib.hid (HB5K.out.trans (HD6.out.mono HB5K.out.size)); have HT6 : Hid (TrW w4.heap.size (w6.alloc (.cells #[.slice A6 n c6] 36)) (.slice OA i oc) n i X (trF e B sets ns i)) := Lib.hid (HT.out.below (HK6.out.alloc HK6.out.size _)); have HF6 : Hid (∀ a, A6 = some a → (Value.slice OA i oc).ownBlock ≠ some a.block ∧ a.block < (w6.alloc (.cells #[.slice A6 n c6] 36)).heap.size) := Lib.hid (tr_fresh HT.out HB5K.out hf6 h6 (by rw [pl_len (by rw [HSL.out]; exact (fun h => by dsimp only at h; omega))]; rw [HSL.out]; omega) _); clear h6 hb6 hf6)
            | fail)
        all_goals
          rw [← HTR.out] at HT7
          go_wp2
          exact ⟨⟨i + 1, _, _, by omega, rfl, rfl, HT7, HB7⟩, by simp [intOf]; omega⟩
      · have hk : kT x = 1 := by omega
        obtain ⟨p, hp⟩ : ∃ p : Nat, i = p + 1 := ⟨i - 1, by have := hi0 (by omega); omega⟩
        rw [if_neg (by omega), if_pos hk, if_neg (by omega)] at HTR
        have hip : i - 1 = p := by omega
        rw [hip] at HTR
        have HPL := HTN.out p (by omega)
        obtain ⟨ob, oo, rfl, hob, hoc⟩ := HROW.out (by omega)
        obtain ⟨A1, k1, g1, g2⟩ := hoc p (by omega)
        obtain ⟨a, HAA⟩ : ∃ a, Hid ((trF e B sets ns i).getD p [] = a) := ⟨_, Lib.hid rfl⟩
        rw [HAA.out] at HTR g2 HPL
        have HG2 := Lib.hid g2
        have HPR := Lib.hid (parts_any e (some ⟨ab, ao, none⟩) Bb c bd m B (x, y) 1 (p : Int) (-1) i wr HM.out hm9 (HA.out.below HBWR.out) (HI4.out.below HB.out) HBL.out hlt HXY.out h5 (.inr (.inl ⟨rfl, by omega, rfl⟩)))
        have hpi : (p : Int) < (i : Int) := by omega
        have hp0 : (0 : Int) ≤ (p : Int) := by omega
        clear hok hnd hac g2 hoc hp hip
        go_wp2_with fail
        refine HPR.out.mono ?_
        rintro q w5 ⟨rfl, hb5⟩
        have HB5K := Lib.hid hb5
        have HB5 : Hid (Below w4.heap.size w4 w5) := Lib.hid (HB.out.trans (hb5.mono HB.out.size))
        have HB5W : Hid (Below w.heap.size w w5) := Lib.hid (HBW4.out.trans (HB5.out.mono HBW4.out.size))
        obtain ⟨c1, c2⟩ := HAC.out w5 HB5W.out
        have bx5 := HBXX.out w5 HB5.out
        clear hb5 HPR
        have r1 := (HB5K.out.cell (p := ⟨ob, oo + p, none⟩) hob).trans g1
        clear g1
        go_wp2_with fail
        clear r1
        have HSK : Hid (∀ W, Below w4.heap.size w4 W → W.cell? ⟨ab, ao + i * 2, none⟩ = some (.int .i64 x) ∧ W.cell? ⟨ab, ao + i * 2 + 1, none⟩ = some (.int .i64 y) ∧ W.cell? ⟨w.heap.size, 0, none⟩ = some (.slice As ns cs)) := Lib.hid (fun W h => ⟨(HAC.out W (HBW4.out.trans (h.mono HBW4.out.size))).1, (HAC.out W (HBW4.out.trans (h.mono HBW4.out.size))).2, HBXX.out W h⟩)
        go_region_held3 (fun W => W.cell? ⟨ab, ao + i * 2, none⟩ = some (.int .i64 x) ∧ W.cell? ⟨ab, ao + i * 2 + 1, none⟩ = some (.int .i64 y) ∧ W.cell? ⟨w.heap.size, 0, none⟩ = some (.slice As ns cs))
          (first | exact ⟨c1, c2, bx5⟩ | exact HSK.out _ HB5.out.drew | exact HSK.out _ HB6.out | exact HSK.out _ (HB6.out.alloc HB6.out.size _) | exact HSK.out _ HB7.out | go_keep)
          (first
            | (refine step_append_row w4.heap.size w6.heap.size (by rfl) (.tmp 60) (.tmp 72) (by rfl) (by rfl) _ X (by rfl) HT6.out.own A6 n c6 (by rfl) (by rw [HT.out.len]; omega) (by have := HB6.out.size; simp; omega) _ (World.alloc_heap_new _ _) ?_; intro v7 w7 ho7 hb7 hg7 h57; have HT7 := Lib.hid (HT6.out.snoc (trF_len _ _ _ _ _) ho7 hg7 h57 (HG6.out.below ((Below.refl _ _).alloc (Nat.le_refl _) _)) HF6.out); have HB7 : Hid (Below w4.heap.size w4 w7) := Lib.hid ((HB6.out.alloc HB6.out.size _).trans hb7); clear ho7 hb7 hg7 h57)
            | (go_at_call 27; refine (places_any x y sets a [] SA A1 none sc k1 0 n 0 n ns _ HSL.out (by omega) (by omega) (by omega) HQ.out HSB.out (HSU.out.below (w' := w5.drew) HB5.out.drew) (fun _ => ⟨rfl, HPL, HG2.out.below HB5K.out.drew⟩) (fun h => by omega)).mono ?_; rintro q w6 ⟨A6, c6, rfl, h6, hb6, hf6⟩; have HG6 := Lib.hid h6; have HD6 : Hid (Below w5.heap.size w5 w6) := Lib.hid ((Below.refl w5.heap.size w5).drew.trans hb6); have HB6 : Hid (Below w4.heap.size w4 w6) := Lib.hid (HB5.out.trans (HD6.out.mono HB5.out.size)); have HK6 : Hid (Below wr.heap.size wr w6) := Lib.hid (HB5K.out.trans (HD6.out.mono HB5K.out.size)); have HT6 : Hid (TrW w4.heap.size (w6.alloc (.cells #[.slice A6 n c6] 36)) (.slice (some ⟨ob, oo, none⟩) i oc) n i X (trF e B sets ns i)) := Lib.hid (HT.out.below (HK6.out.alloc HK6.out.size _)); have HF6 : Hid (∀ a, A6 = some a → (Value.slice (some ⟨ob, oo, none⟩) i oc).ownBlock ≠ some a.block ∧ a.block < (w6.alloc (.cells #[.slice A6 n c6] 36)).heap.size) := Lib.hid (tr_fresh HT.out HB5K.out hf6 h6 (by rw [pl_len (by rw [HSL.out]; exact (fun _ => HPL))]; rw [HSL.out]; omega) _); clear h6 hb6 hf6)
            | fail)
        all_goals
          rw [← HTR.out] at HT7
          go_wp2
          exact ⟨⟨i + 1, _, _, by omega, rfl, rfl, HT7, HB7⟩, by simp [intOf]; omega⟩
      · have hk : kT x = 2 := by omega
        obtain ⟨p, hp⟩ : ∃ p : Nat, i = p + 1 := ⟨i - 1, by have := hi0 (by omega); omega⟩
        obtain ⟨sb, s1, s2, s3⟩ := bgn_at hok (k := 1) (by omega) (by omega)
        have hbb : B.getD (i - 1) 0 = (sb : Int) := by
          rw [← HBB.out, outF_take e (show i - 1 < i by omega) (Nat.le_of_lt HIL.out)]
          exact s1
        obtain ⟨r, hr⟩ : ∃ r : Nat, sb = r + 1 := ⟨sb - 1, by omega⟩
        rw [if_neg (by omega), if_neg (by omega), if_pos hk, hbb] at HTR
        have hip : i - 1 = p := by omega
        have hsr : ((sb : Int)).toNat - 1 = r := by omega
        rw [hip, hsr] at HTR
        have HPL := HTN.out r (by omega)
        have HPR2 := HTN.out p (by omega)
        obtain ⟨ob, oo, rfl, hob, hoc⟩ := HROW.out (by omega)
        obtain ⟨A1, k1, g1, g2⟩ := hoc r (by omega)
        obtain ⟨A2, k2, g3, g4⟩ := hoc p (by omega)
        obtain ⟨a, HAA⟩ : ∃ a, Hid ((trF e B sets ns i).getD r [] = a) := ⟨_, Lib.hid rfl⟩
        rw [HAA.out] at HTR g2 HPL
        obtain ⟨b, HAB⟩ : ∃ b, Hid ((trF e B sets ns i).getD p [] = b) := ⟨_, Lib.hid rfl⟩
        rw [HAB.out] at HTR g4 HPR2
        have HG2 := Lib.hid g2
        have HG4 := Lib.hid g4
        have HPR := Lib.hid (parts_any e (some ⟨ab, ao, none⟩) Bb c bd m B (x, y) 2 (r : Int) (p : Int) i wr HM.out hm9 (HA.out.below HBWR.out) (HI4.out.below HB.out) HBL.out hlt HXY.out h5 (.inr (.inr ⟨rfl, by omega, by omega, sb, hbb, by omega, by omega⟩)))
        have hpi : (p : Int) < (i : Int) := by omega
        have hp0 : (0 : Int) ≤ (p : Int) := by omega
        have hri : (r : Int) < (i : Int) := by omega
        have hr0 : (0 : Int) ≤ (r : Int) := by omega
        clear hok hnd hac g2 g4 hoc hbb s1 s2 s3 hp hip hr hsr
        go_wp2_with fail
        refine HPR.out.mono ?_
        rintro q w5 ⟨rfl, hb5⟩
        have HB5K := Lib.hid hb5
        have HB5 : Hid (Below w4.heap.size w4 w5) := Lib.hid (HB.out.trans (hb5.mono HB.out.size))
        have HB5W : Hid (Below w.heap.size w w5) := Lib.hid (HBW4.out.trans (HB5.out.mono HBW4.out.size))
        obtain ⟨c1, c2⟩ := HAC.out w5 HB5W.out
        have bx5 := HBXX.out w5 HB5.out
        clear hb5 HPR
        have r1 := (HB5K.out.cell (p := ⟨ob, oo + r, none⟩) hob).trans g1
        have r2 := (HB5K.out.cell (p := ⟨ob, oo + p, none⟩) hob).trans g3
        clear g1 g3
        go_wp2_with fail
        clear r1 r2
        have HSK : Hid (∀ W, Below w4.heap.size w4 W → W.cell? ⟨ab, ao + i * 2, none⟩ = some (.int .i64 x) ∧ W.cell? ⟨ab, ao + i * 2 + 1, none⟩ = some (.int .i64 y) ∧ W.cell? ⟨w.heap.size, 0, none⟩ = some (.slice As ns cs)) := Lib.hid (fun W h => ⟨(HAC.out W (HBW4.out.trans (h.mono HBW4.out.size))).1, (HAC.out W (HBW4.out.trans (h.mono HBW4.out.size))).2, HBXX.out W h⟩)
        go_region_held3 (fun W => W.cell? ⟨ab, ao + i * 2, none⟩ = some (.int .i64 x) ∧ W.cell? ⟨ab, ao + i * 2 + 1, none⟩ = some (.int .i64 y) ∧ W.cell? ⟨w.heap.size, 0, none⟩ = some (.slice As ns cs))
          (first | exact ⟨c1, c2, bx5⟩ | exact HSK.out _ HB5.out.drew | exact HSK.out _ HB6.out | exact HSK.out _ (HB6.out.alloc HB6.out.size _) | exact HSK.out _ HB7.out | go_keep)
          (first
            | (refine step_append_row w4.heap.size w6.heap.size (by rfl) (.tmp 60) (.tmp 72) (by rfl) (by rfl) _ X (by rfl) HT6.out.own A6 n c6 (by rfl) (by rw [HT.out.len]; omega) (by have := HB6.out.size; simp; omega) _ (World.alloc_heap_new _ _) ?_; intro v7 w7 ho7 hb7 hg7 h57; have HT7 := Lib.hid (HT6.out.snoc (trF_len _ _ _ _ _) ho7 hg7 h57 (HG6.out.below ((Below.refl _ _).alloc (Nat.le_refl _) _)) HF6.out); have HB7 : Hid (Below w4.heap.size w4 w7) := Lib.hid ((HB6.out.alloc HB6.out.size _).trans hb7); clear ho7 hb7 hg7 h57)
            | (go_at_call 27; refine (places_any x y sets a b SA A1 A2 sc k1 k2 n n n ns _ HSL.out (by omega) (by omega) (by omega) HQ.out HSB.out (HSU.out.below (w' := w5.drew) HB5.out.drew) (fun _ => ⟨rfl, HPL, HG2.out.below HB5K.out.drew⟩) (fun _ => ⟨rfl, HPR2, HG4.out.below HB5K.out.drew⟩)).mono ?_; rintro q w6 ⟨A6, c6, rfl, h6, hb6, hf6⟩; have HG6 := Lib.hid h6; have HD6 : Hid (Below w5.heap.size w5 w6) := Lib.hid ((Below.refl w5.heap.size w5).drew.trans hb6); have HB6 : Hid (Below w4.heap.size w4 w6) := Lib.hid (HB5.out.trans (HD6.out.mono HB5.out.size)); have HK6 : Hid (Below wr.heap.size wr w6) := Lib.hid (HB5K.out.trans (HD6.out.mono HB5K.out.size)); have HT6 : Hid (TrW w4.heap.size (w6.alloc (.cells #[.slice A6 n c6] 36)) (.slice (some ⟨ob, oo, none⟩) i oc) n i X (trF e B sets ns i)) := Lib.hid (HT.out.below (HK6.out.alloc HK6.out.size _)); have HF6 : Hid (∀ a, A6 = some a → (Value.slice (some ⟨ob, oo, none⟩) i oc).ownBlock ≠ some a.block ∧ a.block < (w6.alloc (.cells #[.slice A6 n c6] 36)).heap.size) := Lib.hid (tr_fresh HT.out HB5K.out hf6 h6 (by rw [pl_len (by rw [HSL.out]; exact (fun _ => HPL))]; rw [HSL.out]; omega) _); clear h6 hb6 hf6)
            | fail)
        all_goals
          rw [← HTR.out] at HT7
          go_wp2
          exact ⟨⟨i + 1, _, _, by omega, rfl, rfl, HT7, HB7⟩, by simp [intOf]; omega⟩
    · obtain rfl : m = i := by omega
      go_wp2
      go_ret
      refine ⟨OA, oc, by rw [HM.out]; rfl, fun h0 => ?_, HBW4.out.trans (HB.out.mono HBW4.out.size)⟩
      rw [HBB.out, ← HM.out] at h0 ⊢
      rw [trF_len] at h0
      obtain ⟨b9, o9, e9, k9, g9⟩ := HROW.out h0
      exact ⟨b9, o9, e9, k9, fun j hj => g9 j (by rw [trF_len] at hj; exact hj)⟩
end Go.Proofs.YtmdfiamffipbcaaDoor.nf
