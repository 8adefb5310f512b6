/- The law NnfWords: its walk. -/
import Derived.Test.YtmdfiamffipbcaaDoorNnfHolds
import Derived.Test.YtmdfiamffipbcaaDoorNnfLives
import Derived.Deep.RegionHeld3
namespace Go.Proofs.YtmdfiamffipbcaaDoor.nf
open Go.ChangeShapes Go.WideShapes Go.ChangeAt Go.RowKit Go.Deep sr lt

set_option maxRecDepth 20000 in
set_option maxHeartbeats 16000000 in
theorem nnfWords_any (e : List (Int × Int)) (A As Al : Option Addr) (stem lp : List Int) (c m ns cs nl cl : Nat) (w : World) (hm : m = e.length) (hm9 : 16 * m ≤ 140737488355328) (hA : PA w A e) (hns : ns = stem.length) (hnl : nl = lp.length) (hns9 : ns ≤ 1000000000000000) (hnl9 : nl ≤ 1000000000000000) (hSt : UA w As stem) (hLp : UA w Al lp)
    (hsb : ∀ i, i < ns + nl → 0 ≤ (stem ++ lp).getD i 0 ∧ (stem ++ lp).getD i 0 < 18446744073709551616) (hF : FmW w) :
    Calls Tryd.prog 6 #[.slice A m c, .agg #[.slice As ns cs, .slice Al nl cl]] w fun r w' => r = .returned (.bool true) ∧ Below w.heap.size w w' := by
  obtain ⟨sets, HSE⟩ : ∃ sets, Hid (stem ++ lp = sets) := ⟨_, Lib.hid rfl⟩
  rw [HSE.out] at hsb
  have HM := Lib.hid hm
  have HNS := Lib.hid hns
  have HNL := Lib.hid hnl
  have HSB := Lib.hid hsb
  have HM9 := Lib.hid hm9
  have hB1 : Below w.heap.size w (w.alloc (.cells #[.slice As ns cs, .slice Al nl cl] 32)) := below_one _ _
  have hz1 : (w.alloc (.cells #[.slice As ns cs, .slice Al nl cl] 32)).heap.size = w.heap.size + 1 := by simp
  have HBX : Hid (∀ W, Below (w.heap.size + 1) (w.alloc (.cells #[.slice As ns cs, .slice Al nl cl] 32)) W → W.cell? ⟨w.heap.size, 0, none⟩ = some (.slice As ns cs) ∧ W.cell? ⟨w.heap.size, 1, none⟩ = some (.slice Al nl cl)) := Lib.hid (fun W h => by
    have hb := h.block w.heap.size (by omega)
    exact ⟨(World.cell?_of_block (a := ⟨w.heap.size, 0, none⟩) hb).trans (World.cell?_alloc_at _ _ _ _ rfl), (World.cell?_of_block (a := ⟨w.heap.size, 1, none⟩) hb).trans (World.cell?_alloc_at _ _ _ _ rfl)⟩)
  have HALL : Hid (∀ W, Below (w.heap.size + 1) (w.alloc (.cells #[.slice As ns cs, .slice Al nl cl] 32)) W → PA W A e ∧ UA W As stem ∧ UA W Al lp ∧ FmW W ∧ Below w.heap.size w W ∧ w.heap.size + 1 ≤ W.heap.size) := Lib.hid (fun W h => by
    have hb : Below w.heap.size w W := hB1.trans (h.mono (by omega))
    exact ⟨hA.below hb, hSt.below hb, hLp.below hb, hF.below hb, hb, by have := h.size; omega⟩)
  have HB1 : Hid (Below (w.heap.size + 1) (w.alloc (.cells #[.slice As ns cs, .slice Al nl cl] 32)) (w.alloc (.cells #[.slice As ns cs, .slice Al nl cl] 32))) := Lib.hid (Below.refl _ _)
  clear hm hA hns hnl hSt hLp hsb hF hB1 hm9
  go_enter Tryd.func6, Tryd.ntmps6
  go_wp2_with fail
  generalize w.alloc (.cells #[.slice As ns cs, .slice Al nl cl] 32) = w1 at *
  refine (begins_any e A c m w1 HM.out HM9.out (HALL.out w1 HB1.out).1).mono ?_
  rintro q w2 ⟨bv, rfl, _, _, hb2⟩
  rw [hz1] at hb2
  have HB2 := Lib.hid hb2
  clear hb2 HB1
  obtain ⟨z, HZ⟩ : ∃ z, Hid (isF e = z) := ⟨_, Lib.hid rfl⟩
  rw [HZ.out]
  cases z with
  | false =>
    go_wp2_with fail
    refine (lives_any w2 (HALL.out w2 HB2.out).2.2.2.1).mono ?_
    rintro q w7 ⟨rfl, hb7⟩
    have HB7 := Lib.hid ((HALL.out w2 HB2.out).2.2.2.2.1.trans (hb7.mono (by have := (HALL.out w2 HB2.out).2.2.2.2.2; omega)))
    clear hb7
    go_wp2
    go_ret
    exact ⟨rfl, HB7.out⟩
  | true =>
    obtain ⟨bx0, bx1⟩ := HBX.out w2 HB2.out
    go_wp2_with fail
    refine (far_any A As Al c m ns cs nl cl w2 hns9 hnl9).mono ?_
    rintro q w3 ⟨rfl, hb3⟩
    have HB3 : Hid (Below (w.heap.size + 1) w1 w3) := Lib.hid (HB2.out.trans (hb3.mono (HALL.out w2 HB2.out).2.2.2.2.2))
    clear hb3 bx0 bx1
    obtain ⟨bx0, bx1⟩ := HBX.out w3 HB3.out
    by_cases hfar : 100 < m ∨ 60 < ns + nl
    · rw [decide_eq_true hfar]
      go_wp2_with fail
      refine (lives_any w3 (HALL.out w3 HB3.out).2.2.2.1).mono ?_
      rintro q w7 ⟨rfl, hb7⟩
      have HB7 := Lib.hid ((HALL.out w3 HB3.out).2.2.2.2.1.trans (hb7.mono (by have := (HALL.out w3 HB3.out).2.2.2.2.2; omega)))
      clear hb7
      go_wp2
      go_ret
      exact ⟨rfl, HB7.out⟩
    rw [decide_eq_false hfar]
    by_cases hnl0 : nl = 0
    · have hnl1 : (nl : Int) = 0 := by omega
      go_wp2_with fail
      refine (lives_any w3 (HALL.out w3 HB3.out).2.2.2.1).mono ?_
      rintro q w7 ⟨rfl, hb7⟩
      have HB7 := Lib.hid ((HALL.out w3 HB3.out).2.2.2.2.1.trans (hb7.mono (by have := (HALL.out w3 HB3.out).2.2.2.2.2; omega)))
      clear hb7
      go_wp2
      go_ret
      exact ⟨rfl, HB7.out⟩
    have hnl1 : (nl : Int) ≠ 0 := by omega
    obtain ⟨t, hw, hp, hat, hsz, _⟩ := nfL_is HZ.out
    have HSL : Hid (sets.length = ns + nl) := Lib.hid (by rw [← HSE.out, List.length_append, ← HNS.out, ← HNL.out])
    obtain ⟨x, HX⟩ : ∃ x, Hid ((semF sets ns t).getD 0 false = x) := ⟨_, Lib.hid rfl⟩
    have HX1 : Hid ((semF sets ns (nfT t false)).getD 0 false = x) := Lib.hid (by rw [sem_nf sets ns (by rw [HSL.out]; omega) t false hw, if_neg (by decide)]; exact HX.out)
    have HX2 : Hid ((semF sets ns (nfT t true)).getD 0 false = !x) := Lib.hid (by rw [sem_nf sets ns (by rw [HSL.out]; omega) t true hw, if_pos rfl, flip_get (by rw [sem_len _ _ _ hw, HSL.out]; omega), HX.out])
    have HT1 := Lib.hid (form_tree hw hp false)
    have HT2 := Lib.hid (form_tree hw hp true)
    have HLN : Hid (∀ ng, (nfL e ng).length ≤ 200) := Lib.hid (fun ng => by have := nfL_len e ng; rw [← HM.out] at this; omega)
    obtain ⟨n, HN⟩ : ∃ n, Hid (ns + nl = n) := ⟨_, Lib.hid rfl⟩
    have hn6 : n ≤ 60 := by rw [← HN.out]; omega
    have HH : Hid (∀ W, Below (w.heap.size + 1) w1 W → Calls Tryd.prog 19 #[.slice A m c, .agg #[.slice As ns cs, .slice Al nl cl]] W fun r w' => r = .returned (.bool x) ∧ Below W.heap.size W w') := Lib.hid (fun W h => by
      have g := HALL.out W h
      rw [← HX.out]
      exact holds_any e t A As Al stem lp sets c m ns cs nl cl n W HM.out (by omega) g.1 HZ.out HNS.out HNL.out (by omega) (by omega) g.2.1 g.2.2.1 HSE.out HN.out (by rw [← HN.out]; exact HSB.out) hat hsz hw)
    have HH1 : Hid (∀ W A1 c1, Below (w.heap.size + 1) w1 W → PA W A1 (nfL e false) → Calls Tryd.prog 19 #[.slice A1 (nfL e false).length c1, .agg #[.slice As ns cs, .slice Al nl cl]] W fun r w' => r = .returned (.bool x) ∧ Below W.heap.size W w') := Lib.hid (fun W A1 c1 h h1 => by
      have g := HALL.out W h
      rw [← HX1.out]
      exact holds_any (nfL e false) (nfT t false) A1 As Al stem lp sets c1 _ ns cs nl cl n W rfl (by have := HLN.out false; omega) h1 HT1.out.1 HNS.out HNL.out (by omega) (by omega) g.2.1 g.2.2.1 HSE.out HN.out (by rw [← HN.out]; exact HSB.out) HT1.out.2.1 HT1.out.2.2.1 HT1.out.2.2.2)
    have HH2 : Hid (∀ W A1 c1, Below (w.heap.size + 1) w1 W → PA W A1 (nfL e true) → Calls Tryd.prog 19 #[.slice A1 (nfL e true).length c1, .agg #[.slice As ns cs, .slice Al nl cl]] W fun r w' => r = .returned (.bool (!x)) ∧ Below W.heap.size W w') := Lib.hid (fun W A1 c1 h h1 => by
      have g := HALL.out W h
      rw [← HX2.out]
      exact holds_any (nfL e true) (nfT t true) A1 As Al stem lp sets c1 _ ns cs nl cl n W rfl (by have := HLN.out true; omega) h1 HT2.out.1 HNS.out HNL.out (by omega) (by omega) g.2.1 g.2.2.1 HSE.out HN.out (by rw [← HN.out]; exact HSB.out) HT2.out.2.1 HT2.out.2.2.1 HT2.out.2.2.2)
    have hm5 : m ≤ 1000 := by omega
    obtain ⟨L1, HL1⟩ : ∃ L1, Hid (nfL e false = L1) := ⟨_, Lib.hid rfl⟩
    obtain ⟨L2, HL2⟩ : ∃ L2, Hid (nfL e true = L2) := ⟨_, Lib.hid rfl⟩
    rw [HL1.out] at HH1
    rw [HL2.out] at HH2
    obtain ⟨n1, HN1⟩ : ∃ n1, Hid (L1.length = n1) := ⟨_, Lib.hid rfl⟩
    obtain ⟨n2, HN2⟩ : ∃ n2, Hid (L2.length = n2) := ⟨_, Lib.hid rfl⟩
    rw [HN1.out] at HH1
    rw [HN2.out] at HH2
    clear hw hp hat hsz HX HX1 HX2 HT1 HT2 HSE HSB
    go_wp2_with fail
    refine (HH.out w3 HB3.out).mono ?_
    rintro q w4 ⟨rfl, hb4⟩
    have HB4 : Hid (Below (w.heap.size + 1) w1 w4) := Lib.hid (HB3.out.trans (hb4.mono (HALL.out w3 HB3.out).2.2.2.2.2))
    clear hb4 bx0 bx1
    obtain ⟨bx0, bx1⟩ := HBX.out w4 HB4.out
    have hxx : (x == x) = true := by simp
    have hxn : (!x == !x) = true := by simp
    go_wp2_with fail
    go_region_held3 (fun W => W.cell? ⟨w.heap.size, 0, none⟩ = some (.slice As ns cs) ∧ W.cell? ⟨w.heap.size, 1, none⟩ = some (.slice Al nl cl))
      (first | exact ⟨bx0, bx1⟩ | exact HBX.out _ HB4.out.drew | exact HBX.out _ HB5.out | exact HBX.out _ HB6.out | exact HBX.out _ HB7.out | exact HBX.out _ HB8.out | exact HBX.out _ HB9.out | go_keep)
      (first
        | (go_at_call 11; refine (of_any e A c m _ HM.out hm5 (HALL.out w4.drew HB4.out.drew).1 (HALL.out w4.drew HB4.out.drew).2.2.2.1).mono ?_; rw [HL1.out]; rintro q w5 ⟨A5, c5, rfl, h5, _, hb5⟩; rw [HN1.out]; have H5 := Lib.hid h5; have HB5 : Hid (Below (w.heap.size + 1) w1 w5) := Lib.hid (HB4.out.drew.trans (hb5.mono (HALL.out w4.drew HB4.out.drew).2.2.2.2.2)); clear h5 hb5)
        | (go_at_call 19; refine (HH2.out w7 A7 c7 HB7.out H7.out).mono ?_; rintro q w8 ⟨rfl, hb8⟩; have HB8 : Hid (Below (w.heap.size + 1) w1 w8) := Lib.hid (HB7.out.trans (hb8.mono (HALL.out w7 HB7.out).2.2.2.2.2)); clear hb8)
        | (go_at_call 13; refine (dual_any e A c m _ HM.out hm5 (HALL.out w6 HB6.out).1 (HALL.out w6 HB6.out).2.2.2.1).mono ?_; rw [HL2.out]; rintro q w7 ⟨A7, c7, rfl, h7, _, hb7⟩; rw [HN2.out]; have H7 := Lib.hid h7; have HB7 : Hid (Below (w.heap.size + 1) w1 w7) := Lib.hid (HB6.out.trans (hb7.mono (HALL.out w6 HB6.out).2.2.2.2.2)); clear h7 hb7)
        | (go_at_call 19; refine (HH1.out w5 A5 c5 HB5.out H5.out).mono ?_; rintro q w6 ⟨rfl, hb6⟩; have HB6 : Hid (Below (w.heap.size + 1) w1 w6) := Lib.hid (HB5.out.trans (hb6.mono (HALL.out w5 HB5.out).2.2.2.2.2)); clear hb6)
        | (go_at_call 9; refine (lives_any w8 (HALL.out w8 HB8.out).2.2.2.1).mono ?_; rintro q w9 ⟨rfl, hb9⟩; have HB9 : Hid (Below (w.heap.size + 1) w1 w9) := Lib.hid (HB8.out.trans (hb9.mono (HALL.out w8 HB8.out).2.2.2.2.2)); clear hb9)
        | fail)
    all_goals
      go_wp2
      go_ret
      exact ⟨rfl, (HALL.out w9 HB9.out).2.2.2.2.1⟩
end Go.Proofs.YtmdfiamffipbcaaDoor.nf
