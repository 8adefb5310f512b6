/- The law NnfPlaces: its walk. -/
import Derived.Test.YtmdfiamffipbcaaDoorNnfHolds
import Derived.Test.YtmdfiamffipbcaaDoorNnfLives
import Derived.Deep.RegionHeld3
import Derived.Deep.QuietTactic
import Derived.BigQuiet
namespace Go.Proofs.YtmdfiamffipbcaaDoor.nf
open Go.ChangeShapes Go.WideShapes Go.ChangeAt Go.RowKit Go.Deep sr lt

/-- The last row of a list of truths, as it lies. -/
structure LastW (w w' : World) (m : Nat) (R : List Bool) (n : Nat) (A : Option Addr) (b o : Nat) (B : Option Addr) (d p : Nat) : Prop where
  mp : m = p + 1
  ad : A = some ⟨b, o, none⟩
  lt : b < w'.heap.size
  cell : w'.cell? ⟨b, o + p, none⟩ = some (.slice B n d)
  row : BL w' B R
  bl : Below w.heap.size w w'
def LastP (w : World) (m : Nat) (R : List Bool) (n : Nat) (r : Ending) (w' : World) : Prop := ∃ A c b o B d p, r = .returned (.slice A m c) ∧ LastW w w' m R n A b o B d p
theorem last_of {w w' : World} {e : List (Int × Int)} {sets : List Int} {loop n m : Nat} {r : Ending} {R R' : List Bool} (h : TrP w e sets loop n r w') (hm : m = e.length) (hl : (trF e (outF e e.length) sets loop e.length).getD (e.length - 1) [] = R') (hR : R' = R) (h0 : 0 < e.length) (hn : R.length = n) (hn0 : 0 < n) : LastP w m R n r w' := by
  obtain ⟨A, c, rfl, h1, h2⟩ := h
  subst hm
  subst hR
  obtain ⟨b, o, e1, k1, k2⟩ := h1 (by rw [trF_len]; exact h0)
  obtain ⟨B, d, g1, g2⟩ := k2 (e.length - 1) (by rw [trF_len]; omega)
  rw [hl] at g2
  exact ⟨A, c, b, o, B, d, e.length - 1, rfl, by omega, e1, k1, g1, g2, h2⟩
set_option maxRecDepth 20000 in
set_option maxHeartbeats 16000000 in
theorem nnfPlaces_any (e : List (Int × Int)) (A As Al : Option Addr) (stem lp : List Int) (c m ns cs nl cl : Nat) (w : World) (hm : m = e.length) (hm9 : 16 * m ≤ 140737488355328) (hA : PA w A e) (hns : ns = stem.length) (hnl : nl = lp.length) (hns9 : ns ≤ 1000000000000000) (hnl9 : nl ≤ 1000000000000000) (hSt : UA w As stem) (hLp : UA w Al lp)
    (hsb : ∀ i, i < ns + nl → 0 ≤ (stem ++ lp).getD i 0 ∧ (stem ++ lp).getD i 0 < 18446744073709551616) (hF : FmW w) :
    Calls Tryd.prog 7 #[.slice A m c, .agg #[.slice As ns cs, .slice Al nl cl]] w fun r w' => r = .returned (.bool true) ∧ Below w.heap.size w w' := by
  obtain ⟨sets, HSE⟩ : ∃ sets, Hid (stem ++ lp = sets) := ⟨_, Lib.hid rfl⟩
  rw [HSE.out] at hsb
  have HM := Lib.hid hm
  have HNS := Lib.hid hns
  have HNL := Lib.hid hnl
  have HSB := Lib.hid hsb
  have HM9 := Lib.hid hm9
  have hB1 : Below w.heap.size w (w.alloc (.cells #[.slice As ns cs, .slice Al nl cl] 32)) := below_one _ _
  have hz1 : (w.alloc (.cells #[.slice As ns cs, .slice Al nl cl] 32)).heap.size = w.heap.size + 1 := by simp
  have HBX : Hid (∀ W, Below (w.heap.size + 1) (w.alloc (.cells #[.slice As ns cs, .slice Al nl cl] 32)) W → W.cell? ⟨w.heap.size, 0, none⟩ = some (.slice As ns cs) ∧ W.cell? ⟨w.heap.size, 1, none⟩ = some (.slice Al nl cl)) := Lib.hid (fun W h => by
    have hb := h.block w.heap.size (by omega)
    exact ⟨(World.cell?_of_block (a := ⟨w.heap.size, 0, none⟩) hb).trans (World.cell?_alloc_at _ _ _ _ rfl), (World.cell?_of_block (a := ⟨w.heap.size, 1, none⟩) hb).trans (World.cell?_alloc_at _ _ _ _ rfl)⟩)
  have HALL : Hid (∀ W, Below (w.heap.size + 1) (w.alloc (.cells #[.slice As ns cs, .slice Al nl cl] 32)) W → PA W A e ∧ UA W As stem ∧ UA W Al lp ∧ FmW W ∧ Below w.heap.size w W ∧ w.heap.size + 1 ≤ W.heap.size) := Lib.hid (fun W h => by
    have hb : Below w.heap.size w W := hB1.trans (h.mono (by omega))
    exact ⟨hA.below hb, hSt.below hb, hLp.below hb, hF.below hb, hb, by have := h.size; omega⟩)
  have HB1 : Hid (Below (w.heap.size + 1) (w.alloc (.cells #[.slice As ns cs, .slice Al nl cl] 32)) (w.alloc (.cells #[.slice As ns cs, .slice Al nl cl] 32))) := Lib.hid (Below.refl _ _)
  clear hm hA hns hnl hSt hLp hsb hF hB1 hm9
  go_enter Tryd.func7, Tryd.ntmps7
  go_wp2_with fail
  generalize w.alloc (.cells #[.slice As ns cs, .slice Al nl cl] 32) = w1 at *
  refine (begins_any e A c m w1 HM.out HM9.out (HALL.out w1 HB1.out).1).mono ?_
  rintro q w2 ⟨bv, rfl, _, _, hb2⟩
  rw [hz1] at hb2
  have HB2 := Lib.hid hb2
  clear hb2 HB1
  obtain ⟨z, HZ⟩ : ∃ z, Hid (isF e = z) := ⟨_, Lib.hid rfl⟩
  rw [HZ.out]
  cases z with
  | false =>
    go_wp2_with fail
    refine (lives_any w2 (HALL.out w2 HB2.out).2.2.2.1).mono ?_
    rintro q w7 ⟨rfl, hb7⟩
    have HB7 := Lib.hid ((HALL.out w2 HB2.out).2.2.2.2.1.trans (hb7.mono (by have := (HALL.out w2 HB2.out).2.2.2.2.2; omega)))
    clear hb7
    go_wp2
    go_ret
    exact ⟨rfl, HB7.out⟩
  | true =>
    obtain ⟨bx0, bx1⟩ := HBX.out w2 HB2.out
    go_wp2_with fail
    refine (far_any A As Al c m ns cs nl cl w2 hns9 hnl9).mono ?_
    rintro q w3 ⟨rfl, hb3⟩
    have HB3 : Hid (Below (w.heap.size + 1) w1 w3) := Lib.hid (HB2.out.trans (hb3.mono (HALL.out w2 HB2.out).2.2.2.2.2))
    clear hb3 bx0 bx1
    obtain ⟨bx0, bx1⟩ := HBX.out w3 HB3.out
    by_cases hfar : 100 < m ∨ 60 < ns + nl
    · rw [decide_eq_true hfar]
      go_wp2_with fail
      refine (lives_any w3 (HALL.out w3 HB3.out).2.2.2.1).mono ?_
      rintro q w7 ⟨rfl, hb7⟩
      have HB7 := Lib.hid ((HALL.out w3 HB3.out).2.2.2.2.1.trans (hb7.mono (by have := (HALL.out w3 HB3.out).2.2.2.2.2; omega)))
      clear hb7
      go_wp2
      go_ret
      exact ⟨rfl, HB7.out⟩
    rw [decide_eq_false hfar]
    by_cases hnl0 : nl = 0
    · have hnl1 : (nl : Int) = 0 := by omega
      go_wp2_with fail
      refine (lives_any w3 (HALL.out w3 HB3.out).2.2.2.1).mono ?_
      rintro q w7 ⟨rfl, hb7⟩
      have HB7 := Lib.hid ((HALL.out w3 HB3.out).2.2.2.2.1.trans (hb7.mono (by have := (HALL.out w3 HB3.out).2.2.2.2.2; omega)))
      clear hb7
      go_wp2
      go_ret
      exact ⟨rfl, HB7.out⟩
    have hnl1 : (nl : Int) ≠ 0 := by omega
    obtain ⟨t, hw, hp, hat, hsz, _⟩ := nfL_is HZ.out
    have HSL : Hid (sets.length = ns + nl) := Lib.hid (by rw [← HSE.out, List.length_append, ← HNS.out, ← HNL.out])
    have HT1 := Lib.hid (form_tree hw hp false)
    obtain ⟨n, HN⟩ : ∃ n, Hid (ns + nl = n) := ⟨_, Lib.hid rfl⟩
    have hn6 : n ≤ 60 := by rw [← HN.out]; omega
    have hn0 : 0 < n := by rw [← HN.out]; omega
    obtain ⟨R, HR⟩ : ∃ R, Hid (semF sets ns t = R) := ⟨_, Lib.hid rfl⟩
    have HRN : Hid (R.length = n) := Lib.hid (by rw [← HR.out, sem_len _ _ _ hw, HSL.out]; exact HN.out)
    have HLN : Hid ((nfL e false).length ≤ 200) := Lib.hid (by have := nfL_len e false; rw [← HM.out] at this; omega)
    have HH : Hid (∀ W, Below (w.heap.size + 1) w1 W → Calls Tryd.prog 20 #[.slice A m c, .agg #[.slice As ns cs, .slice Al nl cl]] W fun r w' => LastP W m R n r w') := Lib.hid (fun W h => by
      have g := HALL.out W h
      refine (truths_any e A As Al stem lp sets c m ns cs nl cl n W HM.out (by omega) g.1 HZ.out HNS.out HNL.out (by omega) (by omega) g.2.1 g.2.2.1 HSE.out HN.out (by rw [← HN.out]; exact HSB.out)).mono ?_
      rintro r w' hq
      exact last_of hq HM.out (tr_last_sem hat hsz hw sets ns) HR.out (by have := sz_pos t; omega) HRN.out hn0)
    have HH1 : Hid (∀ W A1 c1, Below (w.heap.size + 1) w1 W → PA W A1 (nfL e false) → Calls Tryd.prog 20 #[.slice A1 (nfL e false).length c1, .agg #[.slice As ns cs, .slice Al nl cl]] W fun r w' => LastP W (nfL e false).length R n r w') := Lib.hid (fun W A1 c1 h h1 => by
      have g := HALL.out W h
      refine (truths_any (nfL e false) A1 As Al stem lp sets c1 _ ns cs nl cl n W rfl (by have := HLN.out; omega) h1 HT1.out.1 HNS.out HNL.out (by omega) (by omega) g.2.1 g.2.2.1 HSE.out HN.out (by rw [← HN.out]; exact HSB.out)).mono ?_
      rintro r w' hq
      exact last_of hq rfl (tr_last_sem HT1.out.2.1 HT1.out.2.2.1 HT1.out.2.2.2 sets ns) (by rw [sem_nf sets ns (by rw [HSL.out]; omega) t false hw, if_neg (by decide)]; exact HR.out) (by have := sz_pos (nfT t false); have := HT1.out.2.2.1; omega) HRN.out hn0)
    have HL0 : Hid (0 < (nfL e false).length) := Lib.hid (by have := sz_pos (nfT t false); have := HT1.out.2.2.1; omega)
    have hm5 : m ≤ 1000 := by omega
    obtain ⟨L1, HL1⟩ : ∃ L1, Hid (nfL e false = L1) := ⟨_, Lib.hid rfl⟩
    rw [HL1.out] at HH1 HL0
    obtain ⟨n1, HN1⟩ : ∃ n1, Hid (L1.length = n1) := ⟨_, Lib.hid rfl⟩
    rw [HN1.out] at HH1 HL0
    clear hw hp hat hsz HT1 HSE HSB HR
    go_wp2_with fail
    go_region_held3 (fun W => W.cell? ⟨w.heap.size, 0, none⟩ = some (.slice As ns cs) ∧ W.cell? ⟨w.heap.size, 1, none⟩ = some (.slice Al nl cl))
      (first | exact ⟨bx0, bx1⟩ | exact HBX.out _ HB3.out.drew | exact HBX.out _ HB4.out | exact HBX.out _ HB5.out | exact HBX.out _ HB6.out | go_keep)
      (first
        | (go_at_call 20; refine (HH1.out w5 A5 c5 HB5.out H5.out).mono ?_; rintro q w6 ⟨A6, c6, b6, o6, B6, d6, p6, rfl, h6⟩; have H6 := Lib.hid h6; have HB6 : Hid (Below (w.heap.size + 1) w1 w6) := Lib.hid (HB5.out.trans (h6.bl.mono (HALL.out w5 HB5.out).2.2.2.2.2)); clear h6)
        | (go_at_call 11; refine (of_any e A c m _ HM.out hm5 (HALL.out w4 HB4.out).1 (HALL.out w4 HB4.out).2.2.2.1).mono ?_; rw [HL1.out]; rintro q w5 ⟨A5, c5, rfl, h5, _, hb5⟩; rw [HN1.out]; have H5 := Lib.hid h5; have HK5 := Lib.hid hb5; have HB5 : Hid (Below (w.heap.size + 1) w1 w5) := Lib.hid (HB4.out.trans (hb5.mono (HALL.out w4 HB4.out).2.2.2.2.2)); clear h5 hb5)
        | (go_at_call 20; refine (HH.out w3.drew HB3.out.drew).mono ?_; rintro q w4 ⟨A4, c4, b4, o4, B4, d4, p4, rfl, h4⟩; have H4 := Lib.hid h4; have HB4 : Hid (Below (w.heap.size + 1) w1 w4) := Lib.hid (HB3.out.drew.trans (h4.bl.mono (HALL.out w3.drew HB3.out.drew).2.2.2.2.2)); clear h4)
        | fail)
    obtain ⟨mp, rfl, lt4, cell4, row4, bl4⟩ := H4.out
    obtain ⟨mp6, rfl, lt6, cell6, row6, bl6⟩ := H6.out
    have hK4 : Below w4.heap.size w4 w6 := (HK5.out.trans (bl6.mono HK5.out.size))
    obtain ⟨rb, ro, rfl, lr4, cr4⟩ := row4 (by rw [HRN.out]; exact hn0)
    obtain ⟨rb6, ro6, rfl, lr6, cr6⟩ := row6 (by rw [HRN.out]; exact hn0)
    have k4 := (hK4.cell (p := ⟨b4, o4 + p4, none⟩) lt4).trans cell4
    have HC4 : Hid (∀ i, i < n → w6.cell? ⟨rb, ro + i, none⟩ = some (.bool (R.getD i false))) := Lib.hid (fun i hi => (hK4.cell (p := ⟨rb, ro + i, none⟩) lr4).trans (cr4 i (by rw [HRN.out]; exact hi)))
    have HC6 : Hid (∀ i, i < n → w6.cell? ⟨rb6, ro6 + i, none⟩ = some (.bool (R.getD i false))) := Lib.hid (fun i hi => cr6 i (by rw [HRN.out]; exact hi))
    have hnn : (n1 : Int) ≠ 0 := by have := HL0.out; omega
    obtain ⟨bx0, bx1⟩ := HBX.out w6 HB6.out
    have hn1b : n1 ≤ 200 := by rw [← HN1.out, ← HL1.out]; exact HLN.out
    clear cell4 row4 row6 bl4 bl6 cr4 cr6 hK4
    subst mp
    subst mp6
    have hni : (ns : Int) + (nl : Int) = (n : Int) := by have := HN.out; omega
    have hb4 : b4 < w6.heap.size := Nat.lt_of_lt_of_le lt4 (by have := HK5.out.size; have := H6.out.bl.size; omega)
    have hrb : rb < w6.heap.size := Nat.lt_of_lt_of_le lr4 (by have := HK5.out.size; have := H6.out.bl.size; omega)
    have HKC : Hid (∀ W, Below w6.heap.size w6 W → W.cell? ⟨b4, o4 + p4, none⟩ = some (.slice (some ⟨rb, ro, none⟩) n d4) ∧ W.cell? ⟨b6, o6 + p6, none⟩ = some (.slice (some ⟨rb6, ro6, none⟩) n d6) ∧ ∀ i, i < n → W.cell? ⟨rb, ro + i, none⟩ = some (.bool (R.getD i false)) ∧ W.cell? ⟨rb6, ro6 + i, none⟩ = some (.bool (R.getD i false))) := Lib.hid (fun W h =>
      ⟨(h.cell (p := ⟨b4, o4 + p4, none⟩) hb4).trans k4, (h.cell (p := ⟨b6, o6 + p6, none⟩) lt6).trans cell6, fun i hi => ⟨(h.cell (p := ⟨rb, ro + i, none⟩) hrb).trans (HC4.out i hi), (h.cell (p := ⟨rb6, ro6 + i, none⟩) lr6).trans (HC6.out i hi)⟩⟩)
    clear k4 cell6 hb4 hrb lt4 lt6 lr4 lr6
    go_wp2
    clear bx0 bx1
    go_loopw [46] (fun kv wr => ∃ i : Nat, i ≤ n ∧ kv = .int .i64 i ∧ Hid (Below w6.heap.size w6 wr)) (fun kv _ => n - (intOf kv).toNat)
    case atStart => exact ⟨0, Nat.zero_le _, rfl, Lib.hid (Below.refl _ _)⟩
    case round =>
      obtain ⟨i, hi, rfl, HB⟩ := hrel
      by_cases hlt : i < n
      · obtain ⟨k1, k2, k3⟩ := HKC.out _ HB.out
        obtain ⟨r1, r2⟩ := k3 i hlt
        obtain ⟨x, HX⟩ : ∃ x, Hid (R.getD i false = x) := ⟨_, Lib.hid rfl⟩
        rw [HX.out] at r1 r2
        have hxx : (x != x) = false := by simp
        have hin : (i : Int) < (n : Int) := by omega
        have hq0 : (0 : Int) ≤ (p4 : Int) := by omega
        have hq1 : (0 : Int) ≤ (p6 : Int) := by omega
        clear k3
        go_wp2
        go_region
        all_goals
          go_wp2
          exact ⟨⟨i + 1, by omega, rfl, Lib.hid (by first | exact HB.out.drew | exact below_drewN HB.out _)⟩, by simp [intOf]; omega⟩
      · obtain rfl : n = i := by omega
        have HBr : Hid (Below (w.heap.size + 1) w1 wr) := Lib.hid (HB6.out.trans (HB.out.mono (HALL.out w6 HB6.out).2.2.2.2.2))
        go_wp2_with fail
        refine (lives_any wr (HALL.out wr HBr.out).2.2.2.1).mono ?_
        rintro q w7 ⟨rfl, hb7⟩
        have HB7 := Lib.hid ((HALL.out wr HBr.out).2.2.2.2.1.trans (hb7.mono (by have := (HALL.out wr HBr.out).2.2.2.2.2; omega)))
        clear hb7
        go_wp2
        go_ret
        exact ⟨rfl, HB7.out⟩
end Go.Proofs.YtmdfiamffipbcaaDoor.nf
