/- Contracts of package chans: bounds, Right. -/
import Derived.Test.YtmebajighiedaaaChOpens
namespace Go.Proofs.Ytmebajighiedaaa.ch
open Go.ChangeShapes Go.WideShapes Go.ChangeAt Go.RowKit Go.Deep

/-- The bounds of a channel's values, and whether it has any. -/
def boF (x : ChR) (s : List ScR) : Int × Int × Bool := if x.sc = 0 then (x.lo, x.hi, true) else if 1 ≤ x.sc ∧ x.sc ≤ s.length then (0, (s.getD (x.sc - 1).toNat default).size, true) else (0, 0, false)
def rightF (l : List Int) (x : ChR) (s : List ScR) : Bool := isC l && (decide ((l.length : Int) - 1 = x.cap) && ((boF x s).2.2 && !((itemsF l).any fun v => !fitB v (boF x s).1 (boF x s).2.1)))
set_option maxRecDepth 20000 in
set_option maxHeartbeats 1000000 in
theorem bounds_any (x : ChR) (A : Option Addr) (c m : Nat) (s : List ScR) (w : World) (hm : m = s.length) (hS : DS w A s) (hl : m ≤ 1000000000000000) :
    Calls Try.prog 26 #[x.v, .slice A m c] w fun e w' => e = .returned (.tuple #[.int .i64 (boF x s).1, .int .i64 (boF x s).2.1, .bool (boF x s).2.2]) ∧ Below w.heap.size w w' := by
  obtain ⟨x0, x1, x2, x3, x4, x5⟩ := x
  have HM := Lib.hid hm
  have B1 : Hid (Below w.heap.size w (w.alloc (.cells #[.string x0, .int .i64 x1, .int .i64 x2, .int .i64 x3, .int .i64 x4, .bool x5] 34))) := Lib.hid ((Below.refl _ _).alloc (Nat.le_refl _) _)
  have HS := Lib.hid (hS.below B1.out)
  clear hm hS
  unfold ChR.v
  by_cases h0 : x1 = 0
  · subst h0
    have HE : Hid (boF ⟨x0, 0, x2, x3, x4, x5⟩ s = (x3, x4, true)) := Lib.hid (by unfold boF; rw [if_pos rfl])
    rw [HE.out]
    go_enter Try.func26, Try.ntmps26
    go_wp2
    go_quiet (fail)
    go_wp2
    go_ret3
    exact ⟨rfl, below_drewN B1.out _⟩
  · have hz : (x1 == 0) = false := by simpa using h0
    by_cases h1 : 1 ≤ x1 ∧ x1 ≤ s.length
    · have HE : Hid (boF ⟨x0, x1, x2, x3, x4, x5⟩ s = (0, (s.getD (x1 - 1).toNat default).size, true)) := Lib.hid (by unfold boF; rw [if_neg h0, if_pos h1])
      have HF : Hid (fitB x1 1 (m : Int) = true) := Lib.hid (decide_eq_true (by rw [HM.out]; exact h1))
      obtain ⟨k, hk⟩ : ∃ k : Nat, x1 - 1 = (k : Int) := ⟨(x1 - 1).toNat, by omega⟩
      have hkm : k < m := by have := HM.out; omega
      have hkt : (x1 - 1).toNat = k := by omega
      rw [hkt] at HE
      obtain ⟨b, o, rfl, hb, hcc⟩ := HS.out (by omega)
      have c1 := (hcc k (by rw [← HM.out]; exact hkm)).2
      rw [HE.out]
      generalize (s.getD k default).size = z at c1 ⊢
      clear hcc h1 hkt h0
      have hx63 : x1 ≤ 9223372036854775807 := by omega
      have hx0 : 1 ≤ x1 := by omega
      go_enter Try.func26, Try.ntmps26
      go_wp2_with fail
      refine (fits_any _ _ _ _).mono ?_
      rw [HF.out]
      rintro e w' ⟨rfl, rfl⟩
      go_wp2
      go_quiet (fail)
      go_wp2
      go_ret3
      exact ⟨rfl, below_drewN B1.out _⟩
    · have HE : Hid (boF ⟨x0, x1, x2, x3, x4, x5⟩ s = (0, 0, false)) := Lib.hid (by unfold boF; rw [if_neg h0, if_neg h1])
      have HF : Hid (fitB x1 1 (m : Int) = false) := Lib.hid (decide_eq_false (by rw [HM.out]; exact h1))
      rw [HE.out]
      clear h0 h1
      go_enter Try.func26, Try.ntmps26
      go_wp2_with fail
      refine (fits_any _ _ _ _).mono ?_
      rw [HF.out]
      rintro e w' ⟨rfl, rfl⟩
      go_wp2
      go_ret3
      exact ⟨rfl, B1.out⟩
theorem out_any (bl bh : Nat) (lo hi z : Int) (w : World) (c1 : w.cell? ⟨bl, 0, none⟩ = some (.int .i64 lo)) (c2 : w.cell? ⟨bh, 0, none⟩ = some (.int .i64 hi)) :
    Calls Try.prog 28 #[.int .i64 z, .pointer (some ⟨bl, 0, none⟩), .pointer (some ⟨bh, 0, none⟩)] w fun e w' => e = .returned (.bool (!fitB z lo hi)) ∧ w = w' := by
  obtain ⟨q, HQ⟩ : ∃ q, Hid (fitB z lo hi = q) := ⟨_, Lib.hid rfl⟩
  rw [HQ.out]
  go_enter Try.func28, Try.ntmps28
  go_wp2_with fail
  refine (fits_any _ _ _ _).mono ?_
  rw [HQ.out]
  rintro e w' ⟨rfl, rfl⟩
  go_wp2
  go_ret
  exact ⟨rfl, rfl⟩
set_option maxRecDepth 20000 in
set_option maxHeartbeats 2000000 in
theorem right_any (A : Option Addr) (c m : Nat) (l : List Int) (x : ChR) (B : Option Addr) (d n : Nat) (s : List ScR) (w : World) (hm : m = l.length) (hA : IA w A l) (hmc : m ≤ c) (hcm : c ≤ maxLen) (hn : n = s.length) (hS : DS w B s) (hl : n ≤ 1000000000000000) :
    Calls Try.prog 18 #[.slice A m c, x.v, .slice B n d] w fun e w' => e = .returned (.bool (rightF l x s)) ∧ Below w.heap.size w w' := by
  obtain ⟨bo, HBO⟩ : ∃ bo, Hid (boF x s = bo) := ⟨_, Lib.hid rfl⟩
  have HR : Hid (rightF l x s = (isC l && (decide ((m : Int) - 1 = x.cap) && (bo.2.2 && !((itemsF l).any fun v => !fitB v bo.1 bo.2.1))))) := Lib.hid (by unfold rightF; rw [HBO.out, hm])
  obtain ⟨b1, b2, b3⟩ := bo
  simp only [] at HR
  obtain ⟨x0, x1, x2, x3, x4, x5⟩ := x
  simp only [] at HR
  have HM := Lib.hid hm
  have HN := Lib.hid hn
  have HCM : Hid (m ≤ maxLen) := Lib.hid (Nat.le_trans hmc hcm)
  have hcm' := hcm
  unfold maxLen at hcm'
  have B1 : Hid (Below w.heap.size w (w.alloc (.cells #[.string x0, .int .i64 x1, .int .i64 x2, .int .i64 x3, .int .i64 x4, .bool x5] 34))) := Lib.hid ((Below.refl _ _).alloc (Nat.le_refl _) _)
  have HH := Lib.hid (held_any A c m l _ hm (hA.below B1.out) hmc hcm)
  have HS := Lib.hid (hS.below B1.out)
  have hsz : w.heap.size < (w.alloc (.cells #[.string x0, .int .i64 x1, .int .i64 x2, .int .i64 x3, .int .i64 x4, .bool x5] 34)).heap.size := by simp
  have e0 : ∀ i u, i < 6 → (#[Value.string x0, .int .i64 x1, .int .i64 x2, .int .i64 x3, .int .i64 x4, .bool x5] : Array Value)[i]? = some u → (w.alloc (.cells #[.string x0, .int .i64 x1, .int .i64 x2, .int .i64 x3, .int .i64 x4, .bool x5] 34)).cell? ⟨w.heap.size, i, none⟩ = some u := fun i u _ h => (World.cell?_alloc_at _ _ _ _ rfl).trans h
  have E0 := Lib.hid e0
  clear hm hA hn hS e0
  unfold ChR.v
  rw [HR.out]
  go_enter Try.func18, Try.ntmps18
  go_wp2_with fail
  generalize w.alloc (.cells #[.string x0, .int .i64 x1, .int .i64 x2, .int .i64 x3, .int .i64 x4, .bool x5] 34) = w0 at B1 HH HS hsz E0 ⊢
  refine HH.out.mono ?_
  rintro e w1 ⟨A1, k, rfl, hk, h1, hb1, _⟩
  have HK := Lib.hid hk
  have H1 := Lib.hid h1
  have HB1 := Lib.hid hb1
  have HBW : Hid (Below w.heap.size w w1) := Lib.hid (B1.out.trans (hb1.mono B1.out.size))
  have HS1 := Lib.hid (HS.out.below hb1)
  have d0 : w1.cell? ⟨w.heap.size, 0, none⟩ = some (.string x0) := (hb1.cell (p := ⟨w.heap.size, 0, none⟩) hsz).trans (E0.out 0 _ (by decide) rfl)
  have d1 : w1.cell? ⟨w.heap.size, 1, none⟩ = some (.int .i64 x1) := (hb1.cell (p := ⟨w.heap.size, 1, none⟩) hsz).trans (E0.out 1 _ (by decide) rfl)
  have d2 : w1.cell? ⟨w.heap.size, 2, none⟩ = some (.int .i64 x2) := (hb1.cell (p := ⟨w.heap.size, 2, none⟩) hsz).trans (E0.out 2 _ (by decide) rfl)
  have d3 : w1.cell? ⟨w.heap.size, 3, none⟩ = some (.int .i64 x3) := (hb1.cell (p := ⟨w.heap.size, 3, none⟩) hsz).trans (E0.out 3 _ (by decide) rfl)
  have d4 : w1.cell? ⟨w.heap.size, 4, none⟩ = some (.int .i64 x4) := (hb1.cell (p := ⟨w.heap.size, 4, none⟩) hsz).trans (E0.out 4 _ (by decide) rfl)
  have d5 : w1.cell? ⟨w.heap.size, 5, none⟩ = some (.bool x5) := (hb1.cell (p := ⟨w.heap.size, 5, none⟩) hsz).trans (E0.out 5 _ (by decide) rfl)
  clear hk h1 hb1
  obtain ⟨i, HI⟩ : ∃ i, Hid (isC l = i) := ⟨_, Lib.hid rfl⟩
  rw [HI.out]
  cases i with
  | false =>
    go_wp2
    go_quiet (fail)
    go_wp2
    go_ret
    exact ⟨by rw [HI.out]; rfl, below_drewN HBW.out _⟩
  | true =>
    go_wp2
    go_region_held3 (fun w' => w'.cell? ⟨w.heap.size, 2, none⟩ = some (.int .i64 x2)) (first | exact d2 | go_keep)
      (first | (go_at_call 23; refine (room_any _ m c _ HCM.out).mono ?_; rintro e w' ⟨rfl, rfl⟩) | fail)
    by_cases hcap : (m : Int) - 1 = x2
    · have hz : ((m : Int) - 1 != x2) = false := by simpa using hcap
      have HCAP : Hid (decide ((m : Int) - 1 = x2) = true) := Lib.hid (decide_eq_true hcap)
      clear hcap
      go_wp2_with fail
      refine (bounds_any ⟨x0, x1, x2, x3, x4, x5⟩ B d n s w1.drew HN.out (HS1.out.below (Below.refl _ _).drew) hl).mono ?_
      rw [HBO.out]
      rintro e w2 ⟨rfl, hb2⟩
      have HBW2 : Hid (Below w.heap.size w w2) := Lib.hid (HBW.out.drew.trans (hb2.mono HBW.out.size))
      have H2 : Hid (IA w2 A1 (itemsF l)) := Lib.hid (H1.out.below ((Below.refl _ w1).drew.trans hb2))
      clear hb2 d0 d1 d2 d3 d4 d5 hz
      cases b3 with
      | false =>
        go_wp2
        go_ret
        exact ⟨by rw [HI.out, HCAP.out]; rfl, (HBW2.out.alloc HBW2.out.size _).alloc (by have := HBW2.out.size; simp; omega) _⟩
      | true =>
        have HP1 : Hid (Below w2.heap.size w2 ((w2.alloc (.cells #[.int .i64 b1] 3)).alloc (.cells #[.int .i64 b2] 3))) := Lib.hid (((Below.refl _ _).alloc (Nat.le_refl _) _).alloc (by simp) _)
        have L1 : Hid (((w2.alloc (.cells #[.int .i64 b1] 3)).alloc (.cells #[.int .i64 b2] 3)).cell? ⟨w2.heap.size, 0, none⟩ = some (.int .i64 b1)) := Lib.hid (by
          rw [World.cell?_alloc_old _ _ _ (by simp)]; exact (World.cell?_alloc_at _ _ _ _ rfl).trans rfl)
        have L2 : Hid (((w2.alloc (.cells #[.int .i64 b1] 3)).alloc (.cells #[.int .i64 b2] 3)).cell? ⟨w2.heap.size + 1, 0, none⟩ = some (.int .i64 b2)) := Lib.hid ((World.cell?_alloc_at _ _ _ _ (by simp)).trans rfl)
        have HZ : Hid (((w2.alloc (.cells #[.int .i64 b1] 3)).alloc (.cells #[.int .i64 b2] 3)).heap.size = w2.heap.size + 2) := Lib.hid (by simp)
        have HKM : Hid (k ≤ maxLen) := Lib.hid (by have := items_le l; have := HK.out; have := HM.out; have := HCM.out; omega)
        go_wp2_with fail
        generalize (w2.alloc (.cells #[.int .i64 b1] 3)).alloc (.cells #[.int .i64 b2] 3) = w3 at HP1 L1 L2 HZ ⊢
        refine (contains_any 28 #[.pointer (some ⟨w2.heap.size, 0, none⟩), .pointer (some ⟨w2.heap.size + 1, 0, none⟩)] (fun v => !fitB v b1 b2) A1 k k (itemsF l) w3 HK.out HKM.out (H2.out.below HP1.out) (enters_of Try.func28 (by kernel_rfl) rfl) (fun z W hW => (out_any w2.heap.size (w2.heap.size + 1) b1 b2 z W ((hW.cell (p := ⟨w2.heap.size, 0, none⟩) (by have := HZ.out; simp; omega)).trans L1.out) ((hW.cell (p := ⟨w2.heap.size + 1, 0, none⟩) (by have := HZ.out; simp; omega)).trans L2.out)).mono (by rintro e w' ⟨rfl, rfl⟩; exact ⟨rfl, Below.refl _ _⟩))).mono ?_
        rintro e w4 ⟨rfl, hb4⟩
        have HB4 : Hid (Below w.heap.size w w4) := Lib.hid ((HBW2.out.trans (HP1.out.mono HBW2.out.size)).trans (hb4.mono (by have := HBW2.out.size; have := HZ.out; omega)))
        clear hb4
        obtain ⟨q, HQ⟩ : ∃ q, Hid (((itemsF l).any fun v => !fitB v b1 b2) = q) := ⟨_, Lib.hid rfl⟩
        rw [HQ.out]
        go_wp2_with fail
        go_ret
        exact ⟨by rw [HI.out, HCAP.out, HQ.out]; rfl, HB4.out⟩
    · have hz : ((m : Int) - 1 != x2) = true := by simpa using hcap
      have HCAP : Hid (decide ((m : Int) - 1 = x2) = false) := Lib.hid (decide_eq_false hcap)
      clear hcap
      go_wp2
      go_ret
      exact ⟨by rw [HI.out, HCAP.out]; rfl, HBW.out.drew⟩

set_option maxRecDepth 20000 in
set_option maxHeartbeats 2000000 in
/-- The document's loop over the values. -/
theorem refRight_any (A : Option Addr) (c m : Nat) (l : List Int) (x : ChR) (B : Option Addr) (d n : Nat) (s : List ScR) (w : World) (hm : m = l.length) (hA : IA w A l) (hl8 : 8 * m ≤ 140737488355328) (hn : n = s.length) (hS : DS w B s) (hl : n ≤ 1000000000000000) :
    Calls Try.prog 19 #[.slice A m c, x.v, .slice B n d] w fun e w' => e = .returned (.bool (rightF l x s)) ∧ Below w.heap.size w w' := by
  obtain ⟨x0, x1, x2, x3, x4, x5⟩ := x
  have HM := Lib.hid hm
  have HN := Lib.hid hn
  have HL := Lib.hid hl8
  obtain ⟨w0, HW0⟩ : ∃ w0, Hid (w0 = w.alloc (.cells #[.string x0, .int .i64 x1, .int .i64 x2, .int .i64 x3, .int .i64 x4, .bool x5] 34)) := ⟨_, Lib.hid rfl⟩
  have B1 : Hid (Below w.heap.size w w0) := Lib.hid (by rw [HW0.out]; exact (Below.refl _ _).alloc (Nat.le_refl _) _)
  have HA := Lib.hid (hA.below B1.out)
  have HS := Lib.hid (hS.below B1.out)
  have e0 : ∀ i u, (#[Value.string x0, .int .i64 x1, .int .i64 x2, .int .i64 x3, .int .i64 x4, .bool x5] : Array Value)[i]? = some u → w0.cell? ⟨w.heap.size, i, none⟩ = some u := fun i u h => by rw [HW0.out]; exact (World.cell?_alloc_at _ _ _ _ rfl).trans h
  have d1 : w0.cell? ⟨w.heap.size, 1, none⟩ = some (.int .i64 x1) := e0 1 _ rfl
  have d2 : w0.cell? ⟨w.heap.size, 2, none⟩ = some (.int .i64 x2) := e0 2 _ rfl
  have d3 : w0.cell? ⟨w.heap.size, 3, none⟩ = some (.int .i64 x3) := e0 3 _ rfl
  have d4 : w0.cell? ⟨w.heap.size, 4, none⟩ = some (.int .i64 x4) := e0 4 _ rfl
  have HIS := Lib.hid (is_any A c m l w0 hm HA.out (by unfold maxLen; omega))
  have HIT := Lib.hid (refItems_any A c m l w0 hm HA.out hl8)
  clear hm hA hn hS e0
  obtain ⟨i, HI⟩ : ∃ i, Hid (isC l = i) := ⟨_, Lib.hid rfl⟩
  unfold ChR.v
  go_enter Try.func19, Try.ntmps19
  go_wp2_with fail
  rw [← HW0.out]
  refine HIS.out.mono ?_
  rintro e w' ⟨rfl, rfl⟩
  rw [HI.out]
  cases i with
  | false =>
    have HE : Hid (rightF l ⟨x0, x1, x2, x3, x4, x5⟩ s = false) := Lib.hid (by unfold rightF; rw [HI.out]; rfl)
    go_wp2
    go_ret
    exact ⟨by rw [HE.out]; rfl, B1.out⟩
  | true =>
    by_cases hcap : (m : Int) - 1 = x2
    · have hz : (x2 != (m : Int) - 1) = false := by simpa using hcap.symm
      have HCAP : Hid (decide ((l.length : Int) - 1 = x2) = true) := Lib.hid (decide_eq_true (by rw [← HM.out]; exact hcap))
      clear hcap
      by_cases h1 : x1 < 0
      · have HE : Hid (rightF l ⟨x0, x1, x2, x3, x4, x5⟩ s = false) := Lib.hid (by
          unfold rightF
          rw [show boF ⟨x0, x1, x2, x3, x4, x5⟩ s = (0, 0, false) by unfold boF; rw [if_neg (show ¬ x1 = 0 by omega), if_neg (show ¬ (1 ≤ x1 ∧ x1 ≤ s.length) by omega)]]
          simp)
        go_wp2
        go_ret
        exact ⟨by rw [HE.out]; rfl, B1.out⟩
      · by_cases h2 : x1 > (n : Int)
        · have HE : Hid (rightF l ⟨x0, x1, x2, x3, x4, x5⟩ s = false) := Lib.hid (by
            unfold rightF
            rw [show boF ⟨x0, x1, x2, x3, x4, x5⟩ s = (0, 0, false) by unfold boF; rw [if_neg (show ¬ x1 = 0 by omega), if_neg (show ¬ (1 ≤ x1 ∧ x1 ≤ s.length) by have := HN.out; omega)]]
            simp)
          go_wp2
          go_ret
          exact ⟨by rw [HE.out]; rfl, B1.out⟩
        · by_cases h3 : x1 = 0
          · subst h3
            have HR : Hid (rightF l ⟨x0, 0, x2, x3, x4, x5⟩ s = !((itemsF l).any fun v => !fitB v x3 x4)) := Lib.hid (by
              unfold rightF
              rw [show boF ⟨x0, 0, x2, x3, x4, x5⟩ s = (x3, x4, true) by unfold boF; rw [if_pos rfl], HI.out, HCAP.out]
              rfl)
            go_wp2_with fail
            refine HIT.out.mono ?_
            rintro e w2 ⟨v2, rfl, ho2, hb2⟩
            obtain ⟨A2, c2, rfl, h2, _⟩ := ho2.ins
            have H2 := Lib.hid h2.ia
            have HB2 : Hid (Below w.heap.size w w2) := Lib.hid (B1.out.trans (hb2.mono B1.out.size))
            obtain ⟨k2, HK2⟩ : ∃ k2, Hid (k2 = (itemsF l).length) := ⟨_, Lib.hid rfl⟩
            have hk2 : k2 ≤ m := by have := items_le l; have := HK2.out; have := HM.out; omega
            rw [← HK2.out]
            have hm63 : (m : Int) ≤ 9223372036854775807 := by omega
            clear h2 ho2 hb2
            go_wp2_with fail
            go_loop [10] (fun i => ∃ j : Nat, j ≤ k2 ∧ i = .int .i64 j ∧ Hid (((itemsF l).take j).any (fun v => !fitB v x3 x4) = false)) (fun i => k2 - (intOf i).toNat)
            case atStart => exact ⟨0, by omega, rfl, Lib.hid rfl⟩
            case round =>
              obtain ⟨j, hj, rfl, HT⟩ := hrel
              by_cases hlt : j < k2
              · obtain ⟨b, o, rfl, hb, hcc⟩ := H2.out (by rw [← HK2.out]; omega)
                have hjl : j < (itemsF l).length := by rw [← HK2.out]; exact hlt
                have c1 := hcc j hjl
                have HG : Hid ((itemsF l).getD j 0 = (itemsF l)[j]) := Lib.hid (by simp [List.getD, hjl])
                have HTS : Hid (((itemsF l).take (j + 1)).any (fun v => !fitB v x3 x4) = !fitB ((itemsF l).getD j 0) x3 x4) := Lib.hid (by rw [any_take hjl, HT.out, HG.out]; rfl)
                have HF : Hid (fitB ((itemsF l).getD j 0) x3 x4 = false → rightF l ⟨x0, 0, x2, x3, x4, x5⟩ s = false) := Lib.hid (fun h => by rw [HR.out, any_at hjl (p := fun v => !fitB v x3 x4) (by rw [← HG.out, h]; rfl)]; rfl)
                generalize (itemsF l).getD j 0 = z at c1 HTS HF
                clear hcc hjl HG
                by_cases z1 : z < x3
                · have HE := Lib.hid (HF.out (decide_eq_false (by omega)))
                  go_wp2
                  go_ret
                  exact ⟨by rw [HE.out]; rfl, HB2.out⟩
                · by_cases z2 : z > x4
                  · have HE := Lib.hid (HF.out (decide_eq_false (by omega)))
                    go_wp2
                    go_ret
                    exact ⟨by rw [HE.out]; rfl, HB2.out⟩
                  · have HT2 : Hid (((itemsF l).take (j + 1)).any (fun v => !fitB v x3 x4) = false) := Lib.hid (by rw [HTS.out, show fitB z x3 x4 = true from decide_eq_true ⟨by omega, by omega⟩]; rfl)
                    go_wp2
                    go_round
                    case rel => exact ⟨j + 1, by omega, by go_num, HT2⟩
                    case measure => simp [intOf]; omega
              · obtain rfl : k2 = j := by omega
                have HE : Hid (rightF l ⟨x0, 0, x2, x3, x4, x5⟩ s = true) := Lib.hid (by
                  have h := HT.out
                  rw [List.take_of_length_le (by rw [HK2.out]; exact Nat.le_refl _)] at h
                  rw [HR.out, h]; rfl)
                go_wp2
                go_ret
                exact ⟨by rw [HE.out]; rfl, HB2.out⟩
          · have hpos : x1 > 0 := by omega
            obtain ⟨k, hk⟩ : ∃ k : Nat, x1 - 1 = (k : Int) := ⟨(x1 - 1).toNat, by omega⟩
            have hkn : k < n := by omega
            obtain ⟨bs, os, rfl, hbs, hcs⟩ := HS.out (by rw [← HN.out]; omega)
            have cs := (hcs k (by rw [← HN.out]; exact hkn)).2
            have HR : Hid (rightF l ⟨x0, x1, x2, x3, x4, x5⟩ s = !((itemsF l).any fun v => !fitB v 0 (s.getD k default).size)) := Lib.hid (by
              unfold rightF
              rw [show boF ⟨x0, x1, x2, x3, x4, x5⟩ s = (0, (s.getD k default).size, true) by unfold boF; rw [if_neg h3, if_pos (show 1 ≤ x1 ∧ x1 ≤ s.length by have := HN.out; omega), show (x1 - 1).toNat = k by omega], HI.out, HCAP.out]
              rfl)
            generalize (s.getD k default).size = sz at cs HR
            have hx63 : x1 ≤ 9223372036854775807 := by omega
            clear hcs h3
            go_wp2_with fail
            refine HIT.out.mono ?_
            rintro e w2 ⟨v2, rfl, ho2, hb2⟩
            obtain ⟨A2, c2, rfl, h2, _⟩ := ho2.ins
            have H2 := Lib.hid h2.ia
            have HB2 : Hid (Below w.heap.size w w2) := Lib.hid (B1.out.trans (hb2.mono B1.out.size))
            obtain ⟨k2, HK2⟩ : ∃ k2, Hid (k2 = (itemsF l).length) := ⟨_, Lib.hid rfl⟩
            have hk2 : k2 ≤ m := by have := items_le l; have := HK2.out; have := HM.out; omega
            rw [← HK2.out]
            have hm63 : (m : Int) ≤ 9223372036854775807 := by omega
            clear h2 ho2 hb2
            go_wp2_with fail
            go_loop [10] (fun i => ∃ j : Nat, j ≤ k2 ∧ i = .int .i64 j ∧ Hid (((itemsF l).take j).any (fun v => !fitB v 0 sz) = false)) (fun i => k2 - (intOf i).toNat)
            case atStart => exact ⟨0, by omega, rfl, Lib.hid rfl⟩
            case round =>
              obtain ⟨j, hj, rfl, HT⟩ := hrel
              by_cases hlt : j < k2
              · obtain ⟨b, o, rfl, hb, hcc⟩ := H2.out (by rw [← HK2.out]; omega)
                have hjl : j < (itemsF l).length := by rw [← HK2.out]; exact hlt
                have c1 := hcc j hjl
                have HG : Hid ((itemsF l).getD j 0 = (itemsF l)[j]) := Lib.hid (by simp [List.getD, hjl])
                have HTS : Hid (((itemsF l).take (j + 1)).any (fun v => !fitB v 0 sz) = !fitB ((itemsF l).getD j 0) 0 sz) := Lib.hid (by rw [any_take hjl, HT.out, HG.out]; rfl)
                have HF : Hid (fitB ((itemsF l).getD j 0) 0 sz = false → rightF l ⟨x0, x1, x2, x3, x4, x5⟩ s = false) := Lib.hid (fun h => by rw [HR.out, any_at hjl (p := fun v => !fitB v 0 sz) (by rw [← HG.out, h]; rfl)]; rfl)
                generalize (itemsF l).getD j 0 = z at c1 HTS HF
                clear hcc hjl HG
                by_cases z1 : z < 0
                · have HE := Lib.hid (HF.out (decide_eq_false (by omega)))
                  go_wp2
                  go_ret
                  exact ⟨by rw [HE.out]; rfl, HB2.out⟩
                · by_cases z2 : z > sz
                  · have HE := Lib.hid (HF.out (decide_eq_false (by omega)))
                    go_wp2
                    go_ret
                    exact ⟨by rw [HE.out]; rfl, HB2.out⟩
                  · have HT2 : Hid (((itemsF l).take (j + 1)).any (fun v => !fitB v 0 sz) = false) := Lib.hid (by rw [HTS.out, show fitB z 0 sz = true from decide_eq_true ⟨by omega, by omega⟩]; rfl)
                    go_wp2
                    go_round
                    case rel => exact ⟨j + 1, by omega, by go_num, HT2⟩
                    case measure => simp [intOf]; omega
              · obtain rfl : k2 = j := by omega
                have HE : Hid (rightF l ⟨x0, x1, x2, x3, x4, x5⟩ s = true) := Lib.hid (by
                  have h := HT.out
                  rw [List.take_of_length_le (by rw [HK2.out]; exact Nat.le_refl _)] at h
                  rw [HR.out, h]; rfl)
                go_wp2
                go_ret
                exact ⟨by rw [HE.out]; rfl, HB2.out⟩
    · have hz : (x2 != (m : Int) - 1) = true := by simpa using fun h => hcap h.symm
      have HE : Hid (rightF l ⟨x0, x1, x2, x3, x4, x5⟩ s = false) := Lib.hid (by unfold rightF; rw [show decide ((l.length : Int) - 1 = x2) = false from decide_eq_false (by rw [← HM.out]; exact hcap)]; simp)
      clear hcap
      go_wp2
      go_ret
      exact ⟨by rw [HE.out]; rfl, B1.out⟩
end Go.Proofs.Ytmebajighiedaaa.ch
