/- The document's Parts and form. -/
import Derived.Test.YtmdfiamffipbcaaDoorNnfDoc
namespace Go.Proofs.YtmdfiamffipbcaaDoor.nf
open Go.ChangeShapes Go.WideShapes Go.ChangeAt Go.RowKit Go.Deep sr lt

set_option maxRecDepth 20000 in
set_option maxHeartbeats 4000000 in
theorem parts_any (e : List (Int × Int)) (A Bb : Option Addr) (c d m : Nat) (B : List Int) (x : Int × Int) (k l r : Int) (j : Nat) (w : World) (hm : m = e.length) (hm9 : m ≤ 1000) (hA : PA w A e) (hB : IA w Bb B) (hl : m = B.length) (hj : j < m) (hx : e.getD j (0, 0) = x) (hk : tkF x = k)
    (hp : k = 0 ∧ l = -1 ∧ r = -1 ∨ k = 1 ∧ l = (j : Int) - 1 ∧ r = -1 ∨ k = 2 ∧ 0 < j ∧ r = (j : Int) - 1 ∧ ∃ b : Nat, B.getD (j - 1) 0 = (b : Int) ∧ b ≤ 1000 ∧ l = (b : Int) - 1) :
    Calls Tryd.prog 26 #[.slice A m c, .slice Bb m d, .int .i64 (j : Int)] w fun q w' => q = .returned (.tuple #[.int .i64 l, .int .i64 r]) ∧ Below w.heap.size w w' := by
  obtain ⟨x1, x2⟩ := x
  obtain ⟨ab, ao, hAe, hab, hca⟩ := hA (by omega)
  have a0 := (hca j (by omega)).1
  have a1 := (hca j (by omega)).2
  rw [hx] at a0 a1
  dsimp only at a0 a1
  subst hAe
  have HT := Lib.hid (takes_any x1 x2 w)
  rw [hk] at HT
  have hji : (j : Int) < (m : Int) := by omega
  rcases hp with ⟨rfl, rfl, rfl⟩ | ⟨rfl, rfl, rfl⟩ | ⟨rfl, hj0, rfl, b, hb, hb9, rfl⟩
  · clear hA hca hx hk hB
    go_enter Tryd.func26, Tryd.ntmps26
    go_wp2_with fail
    refine HT.out.mono ?_
    rintro q w1 ⟨rfl, hb1⟩
    have HB1 := Lib.hid hb1
    clear hb1
    go_wp2
    go_ret2
    exact ⟨rfl, HB1.out⟩
  · clear hA hca hx hk hB
    go_enter Tryd.func26, Tryd.ntmps26
    go_wp2_with fail
    refine HT.out.mono ?_
    rintro q w1 ⟨rfl, hb1⟩
    have HB1 := Lib.hid hb1
    clear hb1
    go_wp2
    go_ret2
    exact ⟨rfl, HB1.out⟩
  · obtain ⟨i, rfl⟩ : ∃ i, j = i + 1 := ⟨j - 1, by omega⟩
    rw [Nat.add_sub_cancel] at hb
    obtain ⟨bb, bo, rfl, hbb, hcb⟩ := hB.at_ (i := i) (by omega)
    rw [hb] at hcb
    have hi1 : ((i + 1 : Nat) : Int) - 1 = (i : Int) := by omega
    have him : (i : Int) < (m : Int) := by omega
    rw [hi1]
    clear hA hca hx hk hB hb
    go_enter Tryd.func26, Tryd.ntmps26
    go_wp2_with fail
    refine HT.out.mono ?_
    rintro q w1 ⟨rfl, hb1⟩
    have HB1 := Lib.hid hb1
    have hcb1 := (hb1.cell (p := ⟨bb, bo + i, none⟩) hbb).trans hcb
    clear hb1 hcb a0 a1
    go_wp2
    go_ret2
    exact ⟨rfl, HB1.out⟩
/-- What a call of form is handed. -/
structure Fm (w : World) (e : List (Int × Int)) (A Bb : Option Addr) (m : Nat) (B : List Int) : Prop where
  a : PA w A e
  b : IA w Bb B
  em : m = e.length
  lb : m = B.length
  sm : m ≤ 1000
theorem Fm.below {w w' : World} {e : List (Int × Int)} {A Bb : Option Addr} {m : Nat} {B : List Int} (h : Fm w e A Bb m B) (k : Below w.heap.size w w') : Fm w' e A Bb m B := ⟨h.a.below k, h.b.turn (T := fun _ => False) (Turn.of_below k) (fun _ _ h => h), h.em, h.lb, h.sm⟩
theorem tk_ok {x : Int × Int} (h : x.1 = 3 → 0 ≤ x.2 ∧ x.2 < 8) : tkF x = kT x.1 := by
  unfold tkF
  rw [if_neg (fun q => by have := h q.1; omega)]
theorem pa_two (w : World) (x y z u : Int) : PA (w.alloc (.cells #[.int .i64 x, .int .i64 y, .int .i64 z, .int .i64 u] 38)) (some ⟨w.heap.size, 0, none⟩) [(x, y), (z, u)] := fun _ => ⟨w.heap.size, 0, rfl, by simp, fun i hi => by
  have hi : i < 2 := hi
  have h2 : i = 0 ∨ i = 1 := by omega
  rcases h2 with rfl | rfl <;> exact ⟨World.cell?_alloc_at _ _ _ _ rfl, World.cell?_alloc_at _ _ _ _ rfl⟩⟩
def FmC (e : List (Int × Int)) (A Bb : Option Addr) (c d m : Nat) (B : List Int) (t : Tr) : Prop := ∀ (b j : Nat) (ng : Bool) (w : World), At e B t b → Wf t → Fm w e A Bb m B → j + 1 = b + sz t → Calls Tryd.prog 22 #[.slice A m c, .slice Bb m d, .int .i64 (j : Int), .bool (!ng)] w (NdP w (post (nfT t ng)))

set_option maxRecDepth 20000 in
set_option maxHeartbeats 8000000 in
theorem rform_lf (e : List (Int × Int)) (A Bb : Option Addr) (c d m : Nat) (B : List Int) (x : Int × Int) : FmC e A Bb c d m B (.lf x) := by
  intro b j ng w hat hwf hF hj
  have hm9 := hF.sm
  have hlast := hat.last
  have hjm : j < m := by have := hF.em; omega
  have hjmi : (j : Int) < (m : Int) := by omega
  have HFM := Lib.hid hF
  obtain rfl : j = b := by have h : j + 1 = b + 1 := hj; omega
  have hx : e.getD j (0, 0) = x := hat.2.1
  obtain ⟨ab, ao, rfl, hab, hca⟩ := hF.a (by have := hF.em; omega)
  have a0 := (hca j (by have := hF.em; omega)).1
  have a1 := (hca j (by have := hF.em; omega)).2
  rw [hx] at a0 a1
  have HP := Lib.hid (parts_any e (some ⟨ab, ao, none⟩) Bb c d m B x 0 (-1) (-1) j w hF.em hF.sm hF.a hF.b hF.lb hjm hx (by rw [tk_ok hwf.2]; exact hwf.1) (.inl ⟨rfl, rfl, rfl⟩))
  obtain ⟨x1, x2⟩ := x
  dsimp only at a0 a1
  have hk := hwf.1
  dsimp only at hk
  rcases kT_cases x1 with ⟨_, h2⟩ | ⟨h1, _⟩ | ⟨h1, _⟩ | ⟨h1, _⟩
  · clear hk hwf hlast hat hx hF hca hj
    rcases h2 with rfl | rfl | rfl
    · cases ng
      · go_enter Tryd.func22, Tryd.ntmps22
        go_wp2_with fail
        refine HP.out.mono ?_
        rintro q w1 ⟨rfl, hb1⟩
        have HB1 := Lib.hid hb1
        have d0 := (hb1.cell (p := ⟨ab, ao + j * 2, none⟩) hab).trans a0
        clear hb1 a0 a1
        go_wp2_with fail
        refine (leaf_any 1 w1).mono ?_
        rintro q w2 ⟨C, k, rfl, hc, hk, hb2⟩
        have HC := Lib.hid (NdP.after HB1.out ⟨C, k, rfl, hc, hk, hb2⟩)
        clear hc hk hb2
        go_wp2
        go_ret
        exact HC.out
      · go_enter Tryd.func22, Tryd.ntmps22
        go_wp2_with fail
        refine HP.out.mono ?_
        rintro q w1 ⟨rfl, hb1⟩
        have HB1 := Lib.hid hb1
        have d0 := (hb1.cell (p := ⟨ab, ao + j * 2, none⟩) hab).trans a0
        clear hb1 a0 a1
        go_wp2_with fail
        refine (leaf_any 2 w1).mono ?_
        rintro q w2 ⟨C, k, rfl, hc, hk, hb2⟩
        have HC := Lib.hid (NdP.after HB1.out ⟨C, k, rfl, hc, hk, hb2⟩)
        clear hc hk hb2
        go_wp2
        go_ret
        exact HC.out
    · cases ng
      · go_enter Tryd.func22, Tryd.ntmps22
        go_wp2_with fail
        refine HP.out.mono ?_
        rintro q w1 ⟨rfl, hb1⟩
        have HB1 := Lib.hid hb1
        have d0 := (hb1.cell (p := ⟨ab, ao + j * 2, none⟩) hab).trans a0
        clear hb1 a0 a1
        go_wp2_with fail
        refine (leaf_any 2 w1).mono ?_
        rintro q w2 ⟨C, k, rfl, hc, hk, hb2⟩
        have HC := Lib.hid (NdP.after HB1.out ⟨C, k, rfl, hc, hk, hb2⟩)
        clear hc hk hb2
        go_wp2
        go_ret
        exact HC.out
      · go_enter Tryd.func22, Tryd.ntmps22
        go_wp2_with fail
        refine HP.out.mono ?_
        rintro q w1 ⟨rfl, hb1⟩
        have HB1 := Lib.hid hb1
        have d0 := (hb1.cell (p := ⟨ab, ao + j * 2, none⟩) hab).trans a0
        clear hb1 a0 a1
        go_wp2_with fail
        refine (leaf_any 1 w1).mono ?_
        rintro q w2 ⟨C, k, rfl, hc, hk, hb2⟩
        have HC := Lib.hid (NdP.after HB1.out ⟨C, k, rfl, hc, hk, hb2⟩)
        clear hc hk hb2
        go_wp2
        go_ret
        exact HC.out
    · cases ng
      · go_enter Tryd.func22, Tryd.ntmps22
        go_wp2_with fail
        refine HP.out.mono ?_
        rintro q w1 ⟨rfl, hb1⟩
        have HB1 := Lib.hid hb1
        have d0 := (hb1.cell (p := ⟨ab, ao + j * 2, none⟩) hab).trans a0
        have d1 := (hb1.cell (p := ⟨ab, ao + j * 2 + 1, none⟩) hab).trans a1
        clear hb1 a0 a1
        go_wp2
        go_ret
        exact ⟨_, _, rfl, pa_one w1 3 x2, Nat.le_refl _, HB1.out.alloc HB1.out.size _⟩
      · go_enter Tryd.func22, Tryd.ntmps22
        go_wp2_with fail
        refine HP.out.mono ?_
        rintro q w1 ⟨rfl, hb1⟩
        have HB1 := Lib.hid hb1
        have d0 := (hb1.cell (p := ⟨ab, ao + j * 2, none⟩) hab).trans a0
        have d1 := (hb1.cell (p := ⟨ab, ao + j * 2 + 1, none⟩) hab).trans a1
        clear hb1 a0 a1
        go_wp2
        go_ret
        exact ⟨_, _, rfl, pa_two w1 3 x2 4 0, Nat.le_refl _, HB1.out.alloc HB1.out.size _⟩
  · omega
  · omega
  · omega
set_option maxRecDepth 20000 in
set_option maxHeartbeats 8000000 in
theorem rform_un (e : List (Int × Int)) (A Bb : Option Addr) (c d m : Nat) (B : List Int) (x : Int × Int) (t : Tr) (ih : FmC e A Bb c d m B t) : FmC e A Bb c d m B (.un x t) := by
  intro b j ng w hat hwf hF hj
  have hm9 := hF.sm
  have hlast := hat.last
  have hjm : j < m := by have := hF.em; omega
  have hjmi : (j : Int) < (m : Int) := by omega
  have HFM := Lib.hid hF
  have hs : sz (.un x t) = sz t + 1 := rfl
  have hp := sz_pos t
  obtain ⟨i, rfl⟩ : ∃ i, j = i + 1 := ⟨j - 1, by omega⟩
  have hi1 : ((i + 1 : Nat) : Int) - 1 = (i : Int) := by omega
  have hx : e.getD (i + 1) (0, 0) = x := by rw [show i + 1 = b + sz t by omega]; exact hat.2.2.1
  have HIH : Hid (∀ (w' : World) (ng' : Bool), Below w.heap.size w w' → Calls Tryd.prog 22 #[.slice A m c, .slice Bb m d, .int .i64 (i : Int), .bool (!ng')] w' (NdP w' (post (nfT t ng')))) := Lib.hid (fun w' ng' k => ih b i ng' w' hat.1 hwf.2 (hF.below k) (by omega))
  have HLN : Hid (∀ ng', 0 < (post (nfT t ng')).length ∧ (post (nfT t ng')).length ≤ 10000) := Lib.hid (fun ng' => by rw [post_len]; have := nf_size t ng'; exact ⟨sz_pos _, by have := hF.em; omega⟩)
  have HTF := Lib.hid (HIH.out · true)
  obtain ⟨ab, ao, rfl, hab, hca⟩ := hF.a (by have := hF.em; omega)
  have a0 := (hca (i + 1) (by have := hF.em; omega)).1
  rw [hx] at a0
  have HP := Lib.hid (parts_any e (some ⟨ab, ao, none⟩) Bb c d m B x 1 (i : Int) (-1) (i + 1) w hF.em hF.sm hF.a hF.b hF.lb hjm hx (by rw [tk_ok (fun h => by have := hwf.1; rw [h] at this; exact absurd this (by decide))]; exact hwf.1) (.inr (.inl ⟨rfl, hi1.symm, rfl⟩)))
  obtain ⟨x1, x2⟩ := x
  dsimp only at a0
  obtain ⟨_, _, _, h2⟩ := kT1 hwf.1
  clear hwf hlast hat hx hF hca hj ih hi1 HTF
  dsimp only at h2
  rcases h2 with rfl | rfl | rfl | rfl
  · cases ng
    · go_enter Tryd.func22, Tryd.ntmps22
      go_wp2_with fail
      refine HP.out.mono ?_
      rintro q w1 ⟨rfl, hb1⟩
      have HB1 := Lib.hid hb1
      have d0 := (hb1.cell (p := ⟨ab, ao + (i + 1) * 2, none⟩) hab).trans a0
      clear hb1 a0
      go_wp2_with fail
      refine (HIH.out w1 true HB1.out).mono ?_
      rintro q w2 ⟨C2, k2, rfl, hc2, hk2, hb2⟩
      have HC2 := Lib.hid hc2
      have HK2 := Lib.hid hk2
      have HBn2 := Lib.hid hb2
      have HB2 : Hid (Below w.heap.size w w2) := Lib.hid (HB1.out.trans (hb2.mono HB1.out.size))
      have HL2 := Lib.hid (HLN.out true)
      clear hc2 hk2 hb2
      go_wp2
      go_ret
      exact ⟨C2, k2, rfl, HC2.out, HK2.out, HB2.out⟩
    · go_enter Tryd.func22, Tryd.ntmps22
      go_wp2_with fail
      refine HP.out.mono ?_
      rintro q w1 ⟨rfl, hb1⟩
      have HB1 := Lib.hid hb1
      have d0 := (hb1.cell (p := ⟨ab, ao + (i + 1) * 2, none⟩) hab).trans a0
      clear hb1 a0
      go_wp2_with fail
      refine (HIH.out w1 false HB1.out).mono ?_
      rintro q w2 ⟨C2, k2, rfl, hc2, hk2, hb2⟩
      have HC2 := Lib.hid hc2
      have HK2 := Lib.hid hk2
      have HBn2 := Lib.hid hb2
      have HB2 : Hid (Below w.heap.size w w2) := Lib.hid (HB1.out.trans (hb2.mono HB1.out.size))
      have HL2 := Lib.hid (HLN.out false)
      clear hc2 hk2 hb2
      go_wp2
      go_ret
      exact ⟨C2, k2, rfl, HC2.out, HK2.out, HB2.out⟩
  · cases ng
    · go_enter Tryd.func22, Tryd.ntmps22
      go_wp2_with fail
      refine HP.out.mono ?_
      rintro q w1 ⟨rfl, hb1⟩
      have HB1 := Lib.hid hb1
      have d0 := (hb1.cell (p := ⟨ab, ao + (i + 1) * 2, none⟩) hab).trans a0
      clear hb1 a0
      go_wp2_with fail
      refine (HIH.out w1 false HB1.out).mono ?_
      rintro q w2 ⟨C2, k2, rfl, hc2, hk2, hb2⟩
      have HC2 := Lib.hid hc2
      have HK2 := Lib.hid hk2
      have HBn2 := Lib.hid hb2
      have HB2 : Hid (Below w.heap.size w w2) := Lib.hid (HB1.out.trans (hb2.mono HB1.out.size))
      have HL2 := Lib.hid (HLN.out false)
      clear hc2 hk2 hb2
      obtain ⟨a2, HA2⟩ : ∃ a2, Hid (post (nfT t false) = a2) := ⟨_, Lib.hid rfl⟩
      rw [HA2.out] at HC2 HL2
      obtain ⟨n2, HN2⟩ : ∃ n2, Hid (n2 = a2.length) := ⟨_, Lib.hid rfl⟩
      rw [HA2.out, ← HN2.out]
      go_wp2_with fail
      refine (join_one a2 C2 k2 n2 8 w2 HN2.out (by rw [HN2.out]; exact HL2.out.1) (by rw [HN2.out]; exact HL2.out.2) HC2.out).mono ?_
      intro q w3 hq
      have HE : Hid (post (nfT (.un (8, x2) t) false) = a2 ++ [(8, 0)]) := Lib.hid (by rw [← HA2.out]; rfl)
      obtain ⟨L9, HL9⟩ : ∃ L9, Hid (a2 ++ [(8, 0)] = L9) := ⟨_, Lib.hid rfl⟩
      rw [HL9.out] at hq
      obtain ⟨C3, k3, rfl, hc, hk, hb⟩ := NdP.after HB2.out hq
      have HQ := Lib.hid (And.intro hc (And.intro hk hb))
      clear hc hk hb hq
      obtain ⟨n9, HN9⟩ : ∃ n9, Hid (n9 = L9.length) := ⟨_, Lib.hid rfl⟩
      rw [← HN9.out]
      go_wp2
      go_ret
      rw [HE.out.trans HL9.out]
      exact ⟨C3, k3, by rw [← HN9.out]; rfl, HQ.out⟩
    · go_enter Tryd.func22, Tryd.ntmps22
      go_wp2_with fail
      refine HP.out.mono ?_
      rintro q w1 ⟨rfl, hb1⟩
      have HB1 := Lib.hid hb1
      have d0 := (hb1.cell (p := ⟨ab, ao + (i + 1) * 2, none⟩) hab).trans a0
      clear hb1 a0
      go_wp2_with fail
      refine (HIH.out w1 true HB1.out).mono ?_
      rintro q w2 ⟨C2, k2, rfl, hc2, hk2, hb2⟩
      have HC2 := Lib.hid hc2
      have HK2 := Lib.hid hk2
      have HBn2 := Lib.hid hb2
      have HB2 : Hid (Below w.heap.size w w2) := Lib.hid (HB1.out.trans (hb2.mono HB1.out.size))
      have HL2 := Lib.hid (HLN.out true)
      clear hc2 hk2 hb2
      obtain ⟨a2, HA2⟩ : ∃ a2, Hid (post (nfT t true) = a2) := ⟨_, Lib.hid rfl⟩
      rw [HA2.out] at HC2 HL2
      obtain ⟨n2, HN2⟩ : ∃ n2, Hid (n2 = a2.length) := ⟨_, Lib.hid rfl⟩
      rw [HA2.out, ← HN2.out]
      go_wp2_with fail
      refine (join_one a2 C2 k2 n2 8 w2 HN2.out (by rw [HN2.out]; exact HL2.out.1) (by rw [HN2.out]; exact HL2.out.2) HC2.out).mono ?_
      intro q w3 hq
      have HE : Hid (post (nfT (.un (8, x2) t) true) = a2 ++ [(8, 0)]) := Lib.hid (by rw [← HA2.out]; rfl)
      obtain ⟨L9, HL9⟩ : ∃ L9, Hid (a2 ++ [(8, 0)] = L9) := ⟨_, Lib.hid rfl⟩
      rw [HL9.out] at hq
      obtain ⟨C3, k3, rfl, hc, hk, hb⟩ := NdP.after HB2.out hq
      have HQ := Lib.hid (And.intro hc (And.intro hk hb))
      clear hc hk hb hq
      obtain ⟨n9, HN9⟩ : ∃ n9, Hid (n9 = L9.length) := ⟨_, Lib.hid rfl⟩
      rw [← HN9.out]
      go_wp2
      go_ret
      rw [HE.out.trans HL9.out]
      exact ⟨C3, k3, by rw [← HN9.out]; rfl, HQ.out⟩
  · cases ng
    · go_enter Tryd.func22, Tryd.ntmps22
      go_wp2_with fail
      refine HP.out.mono ?_
      rintro q w1 ⟨rfl, hb1⟩
      have HB1 := Lib.hid hb1
      have d0 := (hb1.cell (p := ⟨ab, ao + (i + 1) * 2, none⟩) hab).trans a0
      clear hb1 a0
      go_wp2_with fail
      refine (leaf_any 1 w1).mono ?_
      rintro q w9 ⟨C9, k9, rfl, hc9, hk9, hb9⟩
      have HC9 := Lib.hid hc9
      have HB9 : Hid (Below w.heap.size w w9) := Lib.hid (HB1.out.trans (hb9.mono HB1.out.size))
      clear hc9 hk9 hb9
      dsimp only [List.length]
      go_wp2_with fail
      refine (HIH.out w9 false HB9.out).mono ?_
      rintro q w2 ⟨C2, k2, rfl, hc2, hk2, hb2⟩
      have HC2 := Lib.hid hc2
      have HK2 := Lib.hid hk2
      have HBn2 := Lib.hid hb2
      have HB2 : Hid (Below w.heap.size w w2) := Lib.hid (HB9.out.trans (hb2.mono HB9.out.size))
      have HL2 := Lib.hid (HLN.out false)
      clear hc2 hk2 hb2
      obtain ⟨a2, HA2⟩ : ∃ a2, Hid (post (nfT t false) = a2) := ⟨_, Lib.hid rfl⟩
      rw [HA2.out] at HC2 HL2
      obtain ⟨n2, HN2⟩ : ∃ n2, Hid (n2 = a2.length) := ⟨_, Lib.hid rfl⟩
      rw [HA2.out, ← HN2.out]
      go_wp2_with fail
      refine (join_two [(1, 0)] a2 C9 C2 k9 k2 1 n2 9 w2 rfl HN2.out (by decide) (by rw [HN2.out]; exact HL2.out.1) (by decide) (by rw [HN2.out]; exact HL2.out.2) (HC9.out.below HBn2.out) HC2.out).mono ?_
      intro q w3 hq
      have HE : Hid (post (nfT (.un (11, x2) t) false) = [(1, 0)] ++ (a2 ++ [(9, 0)])) := Lib.hid (by rw [← HA2.out]; rfl)
      obtain ⟨L9, HL9⟩ : ∃ L9, Hid ([(1, 0)] ++ (a2 ++ [(9, 0)]) = L9) := ⟨_, Lib.hid rfl⟩
      rw [HL9.out] at hq
      obtain ⟨C3, k3, rfl, hc, hk, hb⟩ := NdP.after HB2.out hq
      have HQ := Lib.hid (And.intro hc (And.intro hk hb))
      clear hc hk hb hq
      obtain ⟨n9, HN9⟩ : ∃ n9, Hid (n9 = L9.length) := ⟨_, Lib.hid rfl⟩
      rw [← HN9.out]
      go_wp2
      go_ret
      rw [HE.out.trans HL9.out]
      exact ⟨C3, k3, by rw [← HN9.out]; rfl, HQ.out⟩
    · go_enter Tryd.func22, Tryd.ntmps22
      go_wp2_with fail
      refine HP.out.mono ?_
      rintro q w1 ⟨rfl, hb1⟩
      have HB1 := Lib.hid hb1
      have d0 := (hb1.cell (p := ⟨ab, ao + (i + 1) * 2, none⟩) hab).trans a0
      clear hb1 a0
      go_wp2_with fail
      refine (leaf_any 2 w1).mono ?_
      rintro q w9 ⟨C9, k9, rfl, hc9, hk9, hb9⟩
      have HC9 := Lib.hid hc9
      have HB9 : Hid (Below w.heap.size w w9) := Lib.hid (HB1.out.trans (hb9.mono HB1.out.size))
      clear hc9 hk9 hb9
      dsimp only [List.length]
      go_wp2_with fail
      refine (HIH.out w9 true HB9.out).mono ?_
      rintro q w2 ⟨C2, k2, rfl, hc2, hk2, hb2⟩
      have HC2 := Lib.hid hc2
      have HK2 := Lib.hid hk2
      have HBn2 := Lib.hid hb2
      have HB2 : Hid (Below w.heap.size w w2) := Lib.hid (HB9.out.trans (hb2.mono HB9.out.size))
      have HL2 := Lib.hid (HLN.out true)
      clear hc2 hk2 hb2
      obtain ⟨a2, HA2⟩ : ∃ a2, Hid (post (nfT t true) = a2) := ⟨_, Lib.hid rfl⟩
      rw [HA2.out] at HC2 HL2
      obtain ⟨n2, HN2⟩ : ∃ n2, Hid (n2 = a2.length) := ⟨_, Lib.hid rfl⟩
      rw [HA2.out, ← HN2.out]
      go_wp2_with fail
      refine (join_two [(2, 0)] a2 C9 C2 k9 k2 1 n2 10 w2 rfl HN2.out (by decide) (by rw [HN2.out]; exact HL2.out.1) (by decide) (by rw [HN2.out]; exact HL2.out.2) (HC9.out.below HBn2.out) HC2.out).mono ?_
      intro q w3 hq
      have HE : Hid (post (nfT (.un (11, x2) t) true) = [(2, 0)] ++ (a2 ++ [(10, 0)])) := Lib.hid (by rw [← HA2.out]; rfl)
      obtain ⟨L9, HL9⟩ : ∃ L9, Hid ([(2, 0)] ++ (a2 ++ [(10, 0)]) = L9) := ⟨_, Lib.hid rfl⟩
      rw [HL9.out] at hq
      obtain ⟨C3, k3, rfl, hc, hk, hb⟩ := NdP.after HB2.out hq
      have HQ := Lib.hid (And.intro hc (And.intro hk hb))
      clear hc hk hb hq
      obtain ⟨n9, HN9⟩ : ∃ n9, Hid (n9 = L9.length) := ⟨_, Lib.hid rfl⟩
      rw [← HN9.out]
      go_wp2
      go_ret
      rw [HE.out.trans HL9.out]
      exact ⟨C3, k3, by rw [← HN9.out]; rfl, HQ.out⟩
  · cases ng
    · go_enter Tryd.func22, Tryd.ntmps22
      go_wp2_with fail
      refine HP.out.mono ?_
      rintro q w1 ⟨rfl, hb1⟩
      have HB1 := Lib.hid hb1
      have d0 := (hb1.cell (p := ⟨ab, ao + (i + 1) * 2, none⟩) hab).trans a0
      clear hb1 a0
      go_wp2_with fail
      refine (leaf_any 2 w1).mono ?_
      rintro q w9 ⟨C9, k9, rfl, hc9, hk9, hb9⟩
      have HC9 := Lib.hid hc9
      have HB9 : Hid (Below w.heap.size w w9) := Lib.hid (HB1.out.trans (hb9.mono HB1.out.size))
      clear hc9 hk9 hb9
      dsimp only [List.length]
      go_wp2_with fail
      refine (HIH.out w9 false HB9.out).mono ?_
      rintro q w2 ⟨C2, k2, rfl, hc2, hk2, hb2⟩
      have HC2 := Lib.hid hc2
      have HK2 := Lib.hid hk2
      have HBn2 := Lib.hid hb2
      have HB2 : Hid (Below w.heap.size w w2) := Lib.hid (HB9.out.trans (hb2.mono HB9.out.size))
      have HL2 := Lib.hid (HLN.out false)
      clear hc2 hk2 hb2
      obtain ⟨a2, HA2⟩ : ∃ a2, Hid (post (nfT t false) = a2) := ⟨_, Lib.hid rfl⟩
      rw [HA2.out] at HC2 HL2
      obtain ⟨n2, HN2⟩ : ∃ n2, Hid (n2 = a2.length) := ⟨_, Lib.hid rfl⟩
      rw [HA2.out, ← HN2.out]
      go_wp2_with fail
      refine (join_two [(2, 0)] a2 C9 C2 k9 k2 1 n2 10 w2 rfl HN2.out (by decide) (by rw [HN2.out]; exact HL2.out.1) (by decide) (by rw [HN2.out]; exact HL2.out.2) (HC9.out.below HBn2.out) HC2.out).mono ?_
      intro q w3 hq
      have HE : Hid (post (nfT (.un (12, x2) t) false) = [(2, 0)] ++ (a2 ++ [(10, 0)])) := Lib.hid (by rw [← HA2.out]; rfl)
      obtain ⟨L9, HL9⟩ : ∃ L9, Hid ([(2, 0)] ++ (a2 ++ [(10, 0)]) = L9) := ⟨_, Lib.hid rfl⟩
      rw [HL9.out] at hq
      obtain ⟨C3, k3, rfl, hc, hk, hb⟩ := NdP.after HB2.out hq
      have HQ := Lib.hid (And.intro hc (And.intro hk hb))
      clear hc hk hb hq
      obtain ⟨n9, HN9⟩ : ∃ n9, Hid (n9 = L9.length) := ⟨_, Lib.hid rfl⟩
      rw [← HN9.out]
      go_wp2
      go_ret
      rw [HE.out.trans HL9.out]
      exact ⟨C3, k3, by rw [← HN9.out]; rfl, HQ.out⟩
    · go_enter Tryd.func22, Tryd.ntmps22
      go_wp2_with fail
      refine HP.out.mono ?_
      rintro q w1 ⟨rfl, hb1⟩
      have HB1 := Lib.hid hb1
      have d0 := (hb1.cell (p := ⟨ab, ao + (i + 1) * 2, none⟩) hab).trans a0
      clear hb1 a0
      go_wp2_with fail
      refine (leaf_any 1 w1).mono ?_
      rintro q w9 ⟨C9, k9, rfl, hc9, hk9, hb9⟩
      have HC9 := Lib.hid hc9
      have HB9 : Hid (Below w.heap.size w w9) := Lib.hid (HB1.out.trans (hb9.mono HB1.out.size))
      clear hc9 hk9 hb9
      dsimp only [List.length]
      go_wp2_with fail
      refine (HIH.out w9 true HB9.out).mono ?_
      rintro q w2 ⟨C2, k2, rfl, hc2, hk2, hb2⟩
      have HC2 := Lib.hid hc2
      have HK2 := Lib.hid hk2
      have HBn2 := Lib.hid hb2
      have HB2 : Hid (Below w.heap.size w w2) := Lib.hid (HB9.out.trans (hb2.mono HB9.out.size))
      have HL2 := Lib.hid (HLN.out true)
      clear hc2 hk2 hb2
      obtain ⟨a2, HA2⟩ : ∃ a2, Hid (post (nfT t true) = a2) := ⟨_, Lib.hid rfl⟩
      rw [HA2.out] at HC2 HL2
      obtain ⟨n2, HN2⟩ : ∃ n2, Hid (n2 = a2.length) := ⟨_, Lib.hid rfl⟩
      rw [HA2.out, ← HN2.out]
      go_wp2_with fail
      refine (join_two [(1, 0)] a2 C9 C2 k9 k2 1 n2 9 w2 rfl HN2.out (by decide) (by rw [HN2.out]; exact HL2.out.1) (by decide) (by rw [HN2.out]; exact HL2.out.2) (HC9.out.below HBn2.out) HC2.out).mono ?_
      intro q w3 hq
      have HE : Hid (post (nfT (.un (12, x2) t) true) = [(1, 0)] ++ (a2 ++ [(9, 0)])) := Lib.hid (by rw [← HA2.out]; rfl)
      obtain ⟨L9, HL9⟩ : ∃ L9, Hid ([(1, 0)] ++ (a2 ++ [(9, 0)]) = L9) := ⟨_, Lib.hid rfl⟩
      rw [HL9.out] at hq
      obtain ⟨C3, k3, rfl, hc, hk, hb⟩ := NdP.after HB2.out hq
      have HQ := Lib.hid (And.intro hc (And.intro hk hb))
      clear hc hk hb hq
      obtain ⟨n9, HN9⟩ : ∃ n9, Hid (n9 = L9.length) := ⟨_, Lib.hid rfl⟩
      rw [← HN9.out]
      go_wp2
      go_ret
      rw [HE.out.trans HL9.out]
      exact ⟨C3, k3, by rw [← HN9.out]; rfl, HQ.out⟩
set_option maxRecDepth 20000 in
set_option maxHeartbeats 8000000 in
theorem rform_bi (e : List (Int × Int)) (A Bb : Option Addr) (c d m : Nat) (B : List Int) (x : Int × Int) (l r : Tr) (ihl : FmC e A Bb c d m B l) (ihr : FmC e A Bb c d m B r) : FmC e A Bb c d m B (.bi x l r) := by
  intro b j ng w hat hwf hF hj
  have hm9 := hF.sm
  have hlast := hat.last
  have hjm : j < m := by have := hF.em; omega
  have hjmi : (j : Int) < (m : Int) := by omega
  have HFM := Lib.hid hF
  have hs : sz (.bi x l r) = sz l + sz r + 1 := rfl
  have hpl := sz_pos l
  have hpr := sz_pos r
  obtain ⟨hL, hR, hlt, hxe, hBe⟩ := hat
  obtain ⟨i, rfl⟩ : ∃ i, j = i + 1 := ⟨j - 1, by omega⟩
  have hi1 : ((i + 1 : Nat) : Int) - 1 = (i : Int) := by omega
  have hx : e.getD (i + 1) (0, 0) = x := by rw [show i + 1 = b + sz l + sz r by omega]; exact hxe
  have hrl := hR.last
  obtain ⟨k, hk⟩ : ∃ k, b + sz l = k + 1 := ⟨b + sz l - 1, by omega⟩
  have HIL : Hid (∀ (w' : World) (ng' : Bool), Below w.heap.size w w' → Calls Tryd.prog 22 #[.slice A m c, .slice Bb m d, .int .i64 (k : Int), .bool (!ng')] w' (NdP w' (post (nfT l ng')))) := Lib.hid (fun w' ng' q => ihl b k ng' w' hL hwf.2.1 (hF.below q) (by omega))
  have HIR : Hid (∀ (w' : World) (ng' : Bool), Below w.heap.size w w' → Calls Tryd.prog 22 #[.slice A m c, .slice Bb m d, .int .i64 (i : Int), .bool (!ng')] w' (NdP w' (post (nfT r ng')))) := Lib.hid (fun w' ng' q => ihr (b + sz l) i ng' w' hR hwf.2.2 (hF.below q) (by omega))
  have HLL : Hid (∀ ng', 0 < (post (nfT l ng')).length ∧ (post (nfT l ng')).length ≤ 10000) := Lib.hid (fun ng' => by rw [post_len]; have := nf_size l ng'; exact ⟨sz_pos _, by have := hF.em; omega⟩)
  have HLR : Hid (∀ ng', 0 < (post (nfT r ng')).length ∧ (post (nfT r ng')).length ≤ 10000) := Lib.hid (fun ng' => by rw [post_len]; have := nf_size r ng'; exact ⟨sz_pos _, by have := hF.em; omega⟩)
  obtain ⟨ab, ao, rfl, hab, hca⟩ := hF.a (by have := hF.em; omega)
  have a0 := (hca (i + 1) (by have := hF.em; omega)).1
  rw [hx] at a0
  have HP := Lib.hid (parts_any e (some ⟨ab, ao, none⟩) Bb c d m B x 2 (k : Int) (i : Int) (i + 1) w hF.em hF.sm hF.a hF.b hF.lb hjm hx (by rw [tk_ok (fun h => by have := hwf.1; rw [h] at this; exact absurd this (by decide))]; exact hwf.1) (.inr (.inr ⟨rfl, Nat.succ_pos _, hi1.symm, k + 1, by rw [Nat.add_sub_cancel, show i = b + sz l + sz r - 1 by omega, hrl.1, hk], by have := hF.em; omega, by omega⟩)))
  obtain ⟨x1, x2⟩ := x
  dsimp only at a0
  have h2 : x1 = 5 ∨ x1 = 6 ∨ x1 = 7 ∨ x1 = 9 ∨ x1 = 10 := by
    have hk2 := hwf.1
    rcases kT_cases x1 with ⟨h1, _⟩ | ⟨h1, _⟩ | ⟨_, h2⟩ | ⟨h1, _⟩
    · dsimp only at hk2; omega
    · dsimp only at hk2; omega
    · exact h2
    · dsimp only at hk2; omega
  clear hwf hlast hL hR hlt hxe hBe hx hF hca hj ihl ihr hi1 hrl hk
  rcases h2 with rfl | rfl | rfl | rfl | rfl
  · cases ng
    · go_enter Tryd.func22, Tryd.ntmps22
      go_wp2_with fail
      refine HP.out.mono ?_
      rintro q w1 ⟨rfl, hb1⟩
      have HB1 := Lib.hid hb1
      have d0 := (hb1.cell (p := ⟨ab, ao + (i + 1) * 2, none⟩) hab).trans a0
      clear hb1 a0
      go_wp2_with fail
      refine (HIL.out w1 false HB1.out).mono ?_
      rintro q w2 ⟨C2, k2, rfl, hc2, hk2, hb2⟩
      have HC2 := Lib.hid hc2
      have HBn2 := Lib.hid hb2
      have HB2 : Hid (Below w.heap.size w w2) := Lib.hid (HB1.out.trans (hb2.mono HB1.out.size))
      have HL2 := Lib.hid (HLL.out false)
      clear hc2 hk2 hb2
      obtain ⟨a2, HA2⟩ : ∃ a2, Hid (post (nfT l false) = a2) := ⟨_, Lib.hid rfl⟩
      rw [HA2.out] at HC2 HL2
      obtain ⟨n2, HN2⟩ : ∃ n2, Hid (n2 = a2.length) := ⟨_, Lib.hid rfl⟩
      rw [HA2.out, ← HN2.out]
      go_wp2_with fail
      refine (HIR.out w2 false HB2.out).mono ?_
      rintro q w3 ⟨C3, k3, rfl, hc3, hk3, hb3⟩
      have HC3 := Lib.hid hc3
      have HBn3 := Lib.hid hb3
      have HB3 : Hid (Below w.heap.size w w3) := Lib.hid (HB2.out.trans (hb3.mono HB2.out.size))
      have HL3 := Lib.hid (HLR.out false)
      clear hc3 hk3 hb3
      obtain ⟨a3, HA3⟩ : ∃ a3, Hid (post (nfT r false) = a3) := ⟨_, Lib.hid rfl⟩
      rw [HA3.out] at HC3 HL3
      obtain ⟨n3, HN3⟩ : ∃ n3, Hid (n3 = a3.length) := ⟨_, Lib.hid rfl⟩
      rw [HA3.out, ← HN3.out]
      go_wp2_with fail
      refine (join_two a2 a3 C2 C3 k2 k3 n2 n3 5 w3 HN2.out HN3.out (by rw [HN2.out]; exact HL2.out.1) (by rw [HN3.out]; exact HL3.out.1) (by rw [HN2.out]; exact HL2.out.2) (by rw [HN3.out]; exact HL3.out.2) (HC2.out.below HBn3.out) HC3.out).mono ?_
      intro q w4 hq
      have HE : Hid (post (nfT (.bi (5, x2) l r) false) = a2 ++ (a3 ++ [(5, 0)])) := Lib.hid (by rw [← HA2.out, ← HA3.out]; rfl)
      obtain ⟨L9, HL9⟩ : ∃ L9, Hid (a2 ++ (a3 ++ [(5, 0)]) = L9) := ⟨_, Lib.hid rfl⟩
      rw [HL9.out] at hq
      obtain ⟨C4, k4, rfl, hc, hk, hb⟩ := NdP.after HB3.out hq
      have HQ := Lib.hid (And.intro hc (And.intro hk hb))
      clear hc hk hb hq
      obtain ⟨n9, HN9⟩ : ∃ n9, Hid (n9 = L9.length) := ⟨_, Lib.hid rfl⟩
      rw [← HN9.out]
      go_wp2
      go_ret
      rw [HE.out.trans HL9.out]
      exact ⟨C4, k4, by rw [← HN9.out]; rfl, HQ.out⟩
    · go_enter Tryd.func22, Tryd.ntmps22
      go_wp2_with fail
      refine HP.out.mono ?_
      rintro q w1 ⟨rfl, hb1⟩
      have HB1 := Lib.hid hb1
      have d0 := (hb1.cell (p := ⟨ab, ao + (i + 1) * 2, none⟩) hab).trans a0
      clear hb1 a0
      go_wp2_with fail
      refine (HIL.out w1 true HB1.out).mono ?_
      rintro q w2 ⟨C2, k2, rfl, hc2, hk2, hb2⟩
      have HC2 := Lib.hid hc2
      have HBn2 := Lib.hid hb2
      have HB2 : Hid (Below w.heap.size w w2) := Lib.hid (HB1.out.trans (hb2.mono HB1.out.size))
      have HL2 := Lib.hid (HLL.out true)
      clear hc2 hk2 hb2
      obtain ⟨a2, HA2⟩ : ∃ a2, Hid (post (nfT l true) = a2) := ⟨_, Lib.hid rfl⟩
      rw [HA2.out] at HC2 HL2
      obtain ⟨n2, HN2⟩ : ∃ n2, Hid (n2 = a2.length) := ⟨_, Lib.hid rfl⟩
      rw [HA2.out, ← HN2.out]
      go_wp2_with fail
      refine (HIR.out w2 true HB2.out).mono ?_
      rintro q w3 ⟨C3, k3, rfl, hc3, hk3, hb3⟩
      have HC3 := Lib.hid hc3
      have HBn3 := Lib.hid hb3
      have HB3 : Hid (Below w.heap.size w w3) := Lib.hid (HB2.out.trans (hb3.mono HB2.out.size))
      have HL3 := Lib.hid (HLR.out true)
      clear hc3 hk3 hb3
      obtain ⟨a3, HA3⟩ : ∃ a3, Hid (post (nfT r true) = a3) := ⟨_, Lib.hid rfl⟩
      rw [HA3.out] at HC3 HL3
      obtain ⟨n3, HN3⟩ : ∃ n3, Hid (n3 = a3.length) := ⟨_, Lib.hid rfl⟩
      rw [HA3.out, ← HN3.out]
      go_wp2_with fail
      refine (join_two a2 a3 C2 C3 k2 k3 n2 n3 6 w3 HN2.out HN3.out (by rw [HN2.out]; exact HL2.out.1) (by rw [HN3.out]; exact HL3.out.1) (by rw [HN2.out]; exact HL2.out.2) (by rw [HN3.out]; exact HL3.out.2) (HC2.out.below HBn3.out) HC3.out).mono ?_
      intro q w4 hq
      have HE : Hid (post (nfT (.bi (5, x2) l r) true) = a2 ++ (a3 ++ [(6, 0)])) := Lib.hid (by rw [← HA2.out, ← HA3.out]; rfl)
      obtain ⟨L9, HL9⟩ : ∃ L9, Hid (a2 ++ (a3 ++ [(6, 0)]) = L9) := ⟨_, Lib.hid rfl⟩
      rw [HL9.out] at hq
      obtain ⟨C4, k4, rfl, hc, hk, hb⟩ := NdP.after HB3.out hq
      have HQ := Lib.hid (And.intro hc (And.intro hk hb))
      clear hc hk hb hq
      obtain ⟨n9, HN9⟩ : ∃ n9, Hid (n9 = L9.length) := ⟨_, Lib.hid rfl⟩
      rw [← HN9.out]
      go_wp2
      go_ret
      rw [HE.out.trans HL9.out]
      exact ⟨C4, k4, by rw [← HN9.out]; rfl, HQ.out⟩
  · cases ng
    · go_enter Tryd.func22, Tryd.ntmps22
      go_wp2_with fail
      refine HP.out.mono ?_
      rintro q w1 ⟨rfl, hb1⟩
      have HB1 := Lib.hid hb1
      have d0 := (hb1.cell (p := ⟨ab, ao + (i + 1) * 2, none⟩) hab).trans a0
      clear hb1 a0
      go_wp2_with fail
      refine (HIL.out w1 false HB1.out).mono ?_
      rintro q w2 ⟨C2, k2, rfl, hc2, hk2, hb2⟩
      have HC2 := Lib.hid hc2
      have HBn2 := Lib.hid hb2
      have HB2 : Hid (Below w.heap.size w w2) := Lib.hid (HB1.out.trans (hb2.mono HB1.out.size))
      have HL2 := Lib.hid (HLL.out false)
      clear hc2 hk2 hb2
      obtain ⟨a2, HA2⟩ : ∃ a2, Hid (post (nfT l false) = a2) := ⟨_, Lib.hid rfl⟩
      rw [HA2.out] at HC2 HL2
      obtain ⟨n2, HN2⟩ : ∃ n2, Hid (n2 = a2.length) := ⟨_, Lib.hid rfl⟩
      rw [HA2.out, ← HN2.out]
      go_wp2_with fail
      refine (HIR.out w2 false HB2.out).mono ?_
      rintro q w3 ⟨C3, k3, rfl, hc3, hk3, hb3⟩
      have HC3 := Lib.hid hc3
      have HBn3 := Lib.hid hb3
      have HB3 : Hid (Below w.heap.size w w3) := Lib.hid (HB2.out.trans (hb3.mono HB2.out.size))
      have HL3 := Lib.hid (HLR.out false)
      clear hc3 hk3 hb3
      obtain ⟨a3, HA3⟩ : ∃ a3, Hid (post (nfT r false) = a3) := ⟨_, Lib.hid rfl⟩
      rw [HA3.out] at HC3 HL3
      obtain ⟨n3, HN3⟩ : ∃ n3, Hid (n3 = a3.length) := ⟨_, Lib.hid rfl⟩
      rw [HA3.out, ← HN3.out]
      go_wp2_with fail
      refine (join_two a2 a3 C2 C3 k2 k3 n2 n3 6 w3 HN2.out HN3.out (by rw [HN2.out]; exact HL2.out.1) (by rw [HN3.out]; exact HL3.out.1) (by rw [HN2.out]; exact HL2.out.2) (by rw [HN3.out]; exact HL3.out.2) (HC2.out.below HBn3.out) HC3.out).mono ?_
      intro q w4 hq
      have HE : Hid (post (nfT (.bi (6, x2) l r) false) = a2 ++ (a3 ++ [(6, 0)])) := Lib.hid (by rw [← HA2.out, ← HA3.out]; rfl)
      obtain ⟨L9, HL9⟩ : ∃ L9, Hid (a2 ++ (a3 ++ [(6, 0)]) = L9) := ⟨_, Lib.hid rfl⟩
      rw [HL9.out] at hq
      obtain ⟨C4, k4, rfl, hc, hk, hb⟩ := NdP.after HB3.out hq
      have HQ := Lib.hid (And.intro hc (And.intro hk hb))
      clear hc hk hb hq
      obtain ⟨n9, HN9⟩ : ∃ n9, Hid (n9 = L9.length) := ⟨_, Lib.hid rfl⟩
      rw [← HN9.out]
      go_wp2
      go_ret
      rw [HE.out.trans HL9.out]
      exact ⟨C4, k4, by rw [← HN9.out]; rfl, HQ.out⟩
    · go_enter Tryd.func22, Tryd.ntmps22
      go_wp2_with fail
      refine HP.out.mono ?_
      rintro q w1 ⟨rfl, hb1⟩
      have HB1 := Lib.hid hb1
      have d0 := (hb1.cell (p := ⟨ab, ao + (i + 1) * 2, none⟩) hab).trans a0
      clear hb1 a0
      go_wp2_with fail
      refine (HIL.out w1 true HB1.out).mono ?_
      rintro q w2 ⟨C2, k2, rfl, hc2, hk2, hb2⟩
      have HC2 := Lib.hid hc2
      have HBn2 := Lib.hid hb2
      have HB2 : Hid (Below w.heap.size w w2) := Lib.hid (HB1.out.trans (hb2.mono HB1.out.size))
      have HL2 := Lib.hid (HLL.out true)
      clear hc2 hk2 hb2
      obtain ⟨a2, HA2⟩ : ∃ a2, Hid (post (nfT l true) = a2) := ⟨_, Lib.hid rfl⟩
      rw [HA2.out] at HC2 HL2
      obtain ⟨n2, HN2⟩ : ∃ n2, Hid (n2 = a2.length) := ⟨_, Lib.hid rfl⟩
      rw [HA2.out, ← HN2.out]
      go_wp2_with fail
      refine (HIR.out w2 true HB2.out).mono ?_
      rintro q w3 ⟨C3, k3, rfl, hc3, hk3, hb3⟩
      have HC3 := Lib.hid hc3
      have HBn3 := Lib.hid hb3
      have HB3 : Hid (Below w.heap.size w w3) := Lib.hid (HB2.out.trans (hb3.mono HB2.out.size))
      have HL3 := Lib.hid (HLR.out true)
      clear hc3 hk3 hb3
      obtain ⟨a3, HA3⟩ : ∃ a3, Hid (post (nfT r true) = a3) := ⟨_, Lib.hid rfl⟩
      rw [HA3.out] at HC3 HL3
      obtain ⟨n3, HN3⟩ : ∃ n3, Hid (n3 = a3.length) := ⟨_, Lib.hid rfl⟩
      rw [HA3.out, ← HN3.out]
      go_wp2_with fail
      refine (join_two a2 a3 C2 C3 k2 k3 n2 n3 5 w3 HN2.out HN3.out (by rw [HN2.out]; exact HL2.out.1) (by rw [HN3.out]; exact HL3.out.1) (by rw [HN2.out]; exact HL2.out.2) (by rw [HN3.out]; exact HL3.out.2) (HC2.out.below HBn3.out) HC3.out).mono ?_
      intro q w4 hq
      have HE : Hid (post (nfT (.bi (6, x2) l r) true) = a2 ++ (a3 ++ [(5, 0)])) := Lib.hid (by rw [← HA2.out, ← HA3.out]; rfl)
      obtain ⟨L9, HL9⟩ : ∃ L9, Hid (a2 ++ (a3 ++ [(5, 0)]) = L9) := ⟨_, Lib.hid rfl⟩
      rw [HL9.out] at hq
      obtain ⟨C4, k4, rfl, hc, hk, hb⟩ := NdP.after HB3.out hq
      have HQ := Lib.hid (And.intro hc (And.intro hk hb))
      clear hc hk hb hq
      obtain ⟨n9, HN9⟩ : ∃ n9, Hid (n9 = L9.length) := ⟨_, Lib.hid rfl⟩
      rw [← HN9.out]
      go_wp2
      go_ret
      rw [HE.out.trans HL9.out]
      exact ⟨C4, k4, by rw [← HN9.out]; rfl, HQ.out⟩
  · cases ng
    · go_enter Tryd.func22, Tryd.ntmps22
      go_wp2_with fail
      refine HP.out.mono ?_
      rintro q w1 ⟨rfl, hb1⟩
      have HB1 := Lib.hid hb1
      have d0 := (hb1.cell (p := ⟨ab, ao + (i + 1) * 2, none⟩) hab).trans a0
      clear hb1 a0
      go_wp2_with fail
      refine (HIL.out w1 true HB1.out).mono ?_
      rintro q w2 ⟨C2, k2, rfl, hc2, hk2, hb2⟩
      have HC2 := Lib.hid hc2
      have HBn2 := Lib.hid hb2
      have HB2 : Hid (Below w.heap.size w w2) := Lib.hid (HB1.out.trans (hb2.mono HB1.out.size))
      have HL2 := Lib.hid (HLL.out true)
      clear hc2 hk2 hb2
      obtain ⟨a2, HA2⟩ : ∃ a2, Hid (post (nfT l true) = a2) := ⟨_, Lib.hid rfl⟩
      rw [HA2.out] at HC2 HL2
      obtain ⟨n2, HN2⟩ : ∃ n2, Hid (n2 = a2.length) := ⟨_, Lib.hid rfl⟩
      rw [HA2.out, ← HN2.out]
      go_wp2_with fail
      refine (HIR.out w2 false HB2.out).mono ?_
      rintro q w3 ⟨C3, k3, rfl, hc3, hk3, hb3⟩
      have HC3 := Lib.hid hc3
      have HBn3 := Lib.hid hb3
      have HB3 : Hid (Below w.heap.size w w3) := Lib.hid (HB2.out.trans (hb3.mono HB2.out.size))
      have HL3 := Lib.hid (HLR.out false)
      clear hc3 hk3 hb3
      obtain ⟨a3, HA3⟩ : ∃ a3, Hid (post (nfT r false) = a3) := ⟨_, Lib.hid rfl⟩
      rw [HA3.out] at HC3 HL3
      obtain ⟨n3, HN3⟩ : ∃ n3, Hid (n3 = a3.length) := ⟨_, Lib.hid rfl⟩
      rw [HA3.out, ← HN3.out]
      go_wp2_with fail
      refine (join_two a2 a3 C2 C3 k2 k3 n2 n3 6 w3 HN2.out HN3.out (by rw [HN2.out]; exact HL2.out.1) (by rw [HN3.out]; exact HL3.out.1) (by rw [HN2.out]; exact HL2.out.2) (by rw [HN3.out]; exact HL3.out.2) (HC2.out.below HBn3.out) HC3.out).mono ?_
      intro q w4 hq
      have HE : Hid (post (nfT (.bi (7, x2) l r) false) = a2 ++ (a3 ++ [(6, 0)])) := Lib.hid (by rw [← HA2.out, ← HA3.out]; rfl)
      obtain ⟨L9, HL9⟩ : ∃ L9, Hid (a2 ++ (a3 ++ [(6, 0)]) = L9) := ⟨_, Lib.hid rfl⟩
      rw [HL9.out] at hq
      obtain ⟨C4, k4, rfl, hc, hk, hb⟩ := NdP.after HB3.out hq
      have HQ := Lib.hid (And.intro hc (And.intro hk hb))
      clear hc hk hb hq
      obtain ⟨n9, HN9⟩ : ∃ n9, Hid (n9 = L9.length) := ⟨_, Lib.hid rfl⟩
      rw [← HN9.out]
      go_wp2
      go_ret
      rw [HE.out.trans HL9.out]
      exact ⟨C4, k4, by rw [← HN9.out]; rfl, HQ.out⟩
    · go_enter Tryd.func22, Tryd.ntmps22
      go_wp2_with fail
      refine HP.out.mono ?_
      rintro q w1 ⟨rfl, hb1⟩
      have HB1 := Lib.hid hb1
      have d0 := (hb1.cell (p := ⟨ab, ao + (i + 1) * 2, none⟩) hab).trans a0
      clear hb1 a0
      go_wp2_with fail
      refine (HIL.out w1 false HB1.out).mono ?_
      rintro q w2 ⟨C2, k2, rfl, hc2, hk2, hb2⟩
      have HC2 := Lib.hid hc2
      have HBn2 := Lib.hid hb2
      have HB2 : Hid (Below w.heap.size w w2) := Lib.hid (HB1.out.trans (hb2.mono HB1.out.size))
      have HL2 := Lib.hid (HLL.out false)
      clear hc2 hk2 hb2
      obtain ⟨a2, HA2⟩ : ∃ a2, Hid (post (nfT l false) = a2) := ⟨_, Lib.hid rfl⟩
      rw [HA2.out] at HC2 HL2
      obtain ⟨n2, HN2⟩ : ∃ n2, Hid (n2 = a2.length) := ⟨_, Lib.hid rfl⟩
      rw [HA2.out, ← HN2.out]
      go_wp2_with fail
      refine (HIR.out w2 true HB2.out).mono ?_
      rintro q w3 ⟨C3, k3, rfl, hc3, hk3, hb3⟩
      have HC3 := Lib.hid hc3
      have HBn3 := Lib.hid hb3
      have HB3 : Hid (Below w.heap.size w w3) := Lib.hid (HB2.out.trans (hb3.mono HB2.out.size))
      have HL3 := Lib.hid (HLR.out true)
      clear hc3 hk3 hb3
      obtain ⟨a3, HA3⟩ : ∃ a3, Hid (post (nfT r true) = a3) := ⟨_, Lib.hid rfl⟩
      rw [HA3.out] at HC3 HL3
      obtain ⟨n3, HN3⟩ : ∃ n3, Hid (n3 = a3.length) := ⟨_, Lib.hid rfl⟩
      rw [HA3.out, ← HN3.out]
      go_wp2_with fail
      refine (join_two a2 a3 C2 C3 k2 k3 n2 n3 5 w3 HN2.out HN3.out (by rw [HN2.out]; exact HL2.out.1) (by rw [HN3.out]; exact HL3.out.1) (by rw [HN2.out]; exact HL2.out.2) (by rw [HN3.out]; exact HL3.out.2) (HC2.out.below HBn3.out) HC3.out).mono ?_
      intro q w4 hq
      have HE : Hid (post (nfT (.bi (7, x2) l r) true) = a2 ++ (a3 ++ [(5, 0)])) := Lib.hid (by rw [← HA2.out, ← HA3.out]; rfl)
      obtain ⟨L9, HL9⟩ : ∃ L9, Hid (a2 ++ (a3 ++ [(5, 0)]) = L9) := ⟨_, Lib.hid rfl⟩
      rw [HL9.out] at hq
      obtain ⟨C4, k4, rfl, hc, hk, hb⟩ := NdP.after HB3.out hq
      have HQ := Lib.hid (And.intro hc (And.intro hk hb))
      clear hc hk hb hq
      obtain ⟨n9, HN9⟩ : ∃ n9, Hid (n9 = L9.length) := ⟨_, Lib.hid rfl⟩
      rw [← HN9.out]
      go_wp2
      go_ret
      rw [HE.out.trans HL9.out]
      exact ⟨C4, k4, by rw [← HN9.out]; rfl, HQ.out⟩
  · cases ng
    · go_enter Tryd.func22, Tryd.ntmps22
      go_wp2_with fail
      refine HP.out.mono ?_
      rintro q w1 ⟨rfl, hb1⟩
      have HB1 := Lib.hid hb1
      have d0 := (hb1.cell (p := ⟨ab, ao + (i + 1) * 2, none⟩) hab).trans a0
      clear hb1 a0
      go_wp2_with fail
      refine (HIL.out w1 false HB1.out).mono ?_
      rintro q w2 ⟨C2, k2, rfl, hc2, hk2, hb2⟩
      have HC2 := Lib.hid hc2
      have HBn2 := Lib.hid hb2
      have HB2 : Hid (Below w.heap.size w w2) := Lib.hid (HB1.out.trans (hb2.mono HB1.out.size))
      have HL2 := Lib.hid (HLL.out false)
      clear hc2 hk2 hb2
      obtain ⟨a2, HA2⟩ : ∃ a2, Hid (post (nfT l false) = a2) := ⟨_, Lib.hid rfl⟩
      rw [HA2.out] at HC2 HL2
      obtain ⟨n2, HN2⟩ : ∃ n2, Hid (n2 = a2.length) := ⟨_, Lib.hid rfl⟩
      rw [HA2.out, ← HN2.out]
      go_wp2_with fail
      refine (HIR.out w2 false HB2.out).mono ?_
      rintro q w3 ⟨C3, k3, rfl, hc3, hk3, hb3⟩
      have HC3 := Lib.hid hc3
      have HBn3 := Lib.hid hb3
      have HB3 : Hid (Below w.heap.size w w3) := Lib.hid (HB2.out.trans (hb3.mono HB2.out.size))
      have HL3 := Lib.hid (HLR.out false)
      clear hc3 hk3 hb3
      obtain ⟨a3, HA3⟩ : ∃ a3, Hid (post (nfT r false) = a3) := ⟨_, Lib.hid rfl⟩
      rw [HA3.out] at HC3 HL3
      obtain ⟨n3, HN3⟩ : ∃ n3, Hid (n3 = a3.length) := ⟨_, Lib.hid rfl⟩
      rw [HA3.out, ← HN3.out]
      go_wp2_with fail
      refine (join_two a2 a3 C2 C3 k2 k3 n2 n3 9 w3 HN2.out HN3.out (by rw [HN2.out]; exact HL2.out.1) (by rw [HN3.out]; exact HL3.out.1) (by rw [HN2.out]; exact HL2.out.2) (by rw [HN3.out]; exact HL3.out.2) (HC2.out.below HBn3.out) HC3.out).mono ?_
      intro q w4 hq
      have HE : Hid (post (nfT (.bi (9, x2) l r) false) = a2 ++ (a3 ++ [(9, 0)])) := Lib.hid (by rw [← HA2.out, ← HA3.out]; rfl)
      obtain ⟨L9, HL9⟩ : ∃ L9, Hid (a2 ++ (a3 ++ [(9, 0)]) = L9) := ⟨_, Lib.hid rfl⟩
      rw [HL9.out] at hq
      obtain ⟨C4, k4, rfl, hc, hk, hb⟩ := NdP.after HB3.out hq
      have HQ := Lib.hid (And.intro hc (And.intro hk hb))
      clear hc hk hb hq
      obtain ⟨n9, HN9⟩ : ∃ n9, Hid (n9 = L9.length) := ⟨_, Lib.hid rfl⟩
      rw [← HN9.out]
      go_wp2
      go_ret
      rw [HE.out.trans HL9.out]
      exact ⟨C4, k4, by rw [← HN9.out]; rfl, HQ.out⟩
    · go_enter Tryd.func22, Tryd.ntmps22
      go_wp2_with fail
      refine HP.out.mono ?_
      rintro q w1 ⟨rfl, hb1⟩
      have HB1 := Lib.hid hb1
      have d0 := (hb1.cell (p := ⟨ab, ao + (i + 1) * 2, none⟩) hab).trans a0
      clear hb1 a0
      go_wp2_with fail
      refine (HIL.out w1 true HB1.out).mono ?_
      rintro q w2 ⟨C2, k2, rfl, hc2, hk2, hb2⟩
      have HC2 := Lib.hid hc2
      have HBn2 := Lib.hid hb2
      have HB2 : Hid (Below w.heap.size w w2) := Lib.hid (HB1.out.trans (hb2.mono HB1.out.size))
      have HL2 := Lib.hid (HLL.out true)
      clear hc2 hk2 hb2
      obtain ⟨a2, HA2⟩ : ∃ a2, Hid (post (nfT l true) = a2) := ⟨_, Lib.hid rfl⟩
      rw [HA2.out] at HC2 HL2
      obtain ⟨n2, HN2⟩ : ∃ n2, Hid (n2 = a2.length) := ⟨_, Lib.hid rfl⟩
      rw [HA2.out, ← HN2.out]
      go_wp2_with fail
      refine (HIR.out w2 true HB2.out).mono ?_
      rintro q w3 ⟨C3, k3, rfl, hc3, hk3, hb3⟩
      have HC3 := Lib.hid hc3
      have HBn3 := Lib.hid hb3
      have HB3 : Hid (Below w.heap.size w w3) := Lib.hid (HB2.out.trans (hb3.mono HB2.out.size))
      have HL3 := Lib.hid (HLR.out true)
      clear hc3 hk3 hb3
      obtain ⟨a3, HA3⟩ : ∃ a3, Hid (post (nfT r true) = a3) := ⟨_, Lib.hid rfl⟩
      rw [HA3.out] at HC3 HL3
      obtain ⟨n3, HN3⟩ : ∃ n3, Hid (n3 = a3.length) := ⟨_, Lib.hid rfl⟩
      rw [HA3.out, ← HN3.out]
      go_wp2_with fail
      refine (join_two a2 a3 C2 C3 k2 k3 n2 n3 10 w3 HN2.out HN3.out (by rw [HN2.out]; exact HL2.out.1) (by rw [HN3.out]; exact HL3.out.1) (by rw [HN2.out]; exact HL2.out.2) (by rw [HN3.out]; exact HL3.out.2) (HC2.out.below HBn3.out) HC3.out).mono ?_
      intro q w4 hq
      have HE : Hid (post (nfT (.bi (9, x2) l r) true) = a2 ++ (a3 ++ [(10, 0)])) := Lib.hid (by rw [← HA2.out, ← HA3.out]; rfl)
      obtain ⟨L9, HL9⟩ : ∃ L9, Hid (a2 ++ (a3 ++ [(10, 0)]) = L9) := ⟨_, Lib.hid rfl⟩
      rw [HL9.out] at hq
      obtain ⟨C4, k4, rfl, hc, hk, hb⟩ := NdP.after HB3.out hq
      have HQ := Lib.hid (And.intro hc (And.intro hk hb))
      clear hc hk hb hq
      obtain ⟨n9, HN9⟩ : ∃ n9, Hid (n9 = L9.length) := ⟨_, Lib.hid rfl⟩
      rw [← HN9.out]
      go_wp2
      go_ret
      rw [HE.out.trans HL9.out]
      exact ⟨C4, k4, by rw [← HN9.out]; rfl, HQ.out⟩
  · cases ng
    · go_enter Tryd.func22, Tryd.ntmps22
      go_wp2_with fail
      refine HP.out.mono ?_
      rintro q w1 ⟨rfl, hb1⟩
      have HB1 := Lib.hid hb1
      have d0 := (hb1.cell (p := ⟨ab, ao + (i + 1) * 2, none⟩) hab).trans a0
      clear hb1 a0
      go_wp2_with fail
      refine (HIL.out w1 false HB1.out).mono ?_
      rintro q w2 ⟨C2, k2, rfl, hc2, hk2, hb2⟩
      have HC2 := Lib.hid hc2
      have HBn2 := Lib.hid hb2
      have HB2 : Hid (Below w.heap.size w w2) := Lib.hid (HB1.out.trans (hb2.mono HB1.out.size))
      have HL2 := Lib.hid (HLL.out false)
      clear hc2 hk2 hb2
      obtain ⟨a2, HA2⟩ : ∃ a2, Hid (post (nfT l false) = a2) := ⟨_, Lib.hid rfl⟩
      rw [HA2.out] at HC2 HL2
      obtain ⟨n2, HN2⟩ : ∃ n2, Hid (n2 = a2.length) := ⟨_, Lib.hid rfl⟩
      rw [HA2.out, ← HN2.out]
      go_wp2_with fail
      refine (HIR.out w2 false HB2.out).mono ?_
      rintro q w3 ⟨C3, k3, rfl, hc3, hk3, hb3⟩
      have HC3 := Lib.hid hc3
      have HBn3 := Lib.hid hb3
      have HB3 : Hid (Below w.heap.size w w3) := Lib.hid (HB2.out.trans (hb3.mono HB2.out.size))
      have HL3 := Lib.hid (HLR.out false)
      clear hc3 hk3 hb3
      obtain ⟨a3, HA3⟩ : ∃ a3, Hid (post (nfT r false) = a3) := ⟨_, Lib.hid rfl⟩
      rw [HA3.out] at HC3 HL3
      obtain ⟨n3, HN3⟩ : ∃ n3, Hid (n3 = a3.length) := ⟨_, Lib.hid rfl⟩
      rw [HA3.out, ← HN3.out]
      go_wp2_with fail
      refine (join_two a2 a3 C2 C3 k2 k3 n2 n3 10 w3 HN2.out HN3.out (by rw [HN2.out]; exact HL2.out.1) (by rw [HN3.out]; exact HL3.out.1) (by rw [HN2.out]; exact HL2.out.2) (by rw [HN3.out]; exact HL3.out.2) (HC2.out.below HBn3.out) HC3.out).mono ?_
      intro q w4 hq
      have HE : Hid (post (nfT (.bi (10, x2) l r) false) = a2 ++ (a3 ++ [(10, 0)])) := Lib.hid (by rw [← HA2.out, ← HA3.out]; rfl)
      obtain ⟨L9, HL9⟩ : ∃ L9, Hid (a2 ++ (a3 ++ [(10, 0)]) = L9) := ⟨_, Lib.hid rfl⟩
      rw [HL9.out] at hq
      obtain ⟨C4, k4, rfl, hc, hk, hb⟩ := NdP.after HB3.out hq
      have HQ := Lib.hid (And.intro hc (And.intro hk hb))
      clear hc hk hb hq
      obtain ⟨n9, HN9⟩ : ∃ n9, Hid (n9 = L9.length) := ⟨_, Lib.hid rfl⟩
      rw [← HN9.out]
      go_wp2
      go_ret
      rw [HE.out.trans HL9.out]
      exact ⟨C4, k4, by rw [← HN9.out]; rfl, HQ.out⟩
    · go_enter Tryd.func22, Tryd.ntmps22
      go_wp2_with fail
      refine HP.out.mono ?_
      rintro q w1 ⟨rfl, hb1⟩
      have HB1 := Lib.hid hb1
      have d0 := (hb1.cell (p := ⟨ab, ao + (i + 1) * 2, none⟩) hab).trans a0
      clear hb1 a0
      go_wp2_with fail
      refine (HIL.out w1 true HB1.out).mono ?_
      rintro q w2 ⟨C2, k2, rfl, hc2, hk2, hb2⟩
      have HC2 := Lib.hid hc2
      have HBn2 := Lib.hid hb2
      have HB2 : Hid (Below w.heap.size w w2) := Lib.hid (HB1.out.trans (hb2.mono HB1.out.size))
      have HL2 := Lib.hid (HLL.out true)
      clear hc2 hk2 hb2
      obtain ⟨a2, HA2⟩ : ∃ a2, Hid (post (nfT l true) = a2) := ⟨_, Lib.hid rfl⟩
      rw [HA2.out] at HC2 HL2
      obtain ⟨n2, HN2⟩ : ∃ n2, Hid (n2 = a2.length) := ⟨_, Lib.hid rfl⟩
      rw [HA2.out, ← HN2.out]
      go_wp2_with fail
      refine (HIR.out w2 true HB2.out).mono ?_
      rintro q w3 ⟨C3, k3, rfl, hc3, hk3, hb3⟩
      have HC3 := Lib.hid hc3
      have HBn3 := Lib.hid hb3
      have HB3 : Hid (Below w.heap.size w w3) := Lib.hid (HB2.out.trans (hb3.mono HB2.out.size))
      have HL3 := Lib.hid (HLR.out true)
      clear hc3 hk3 hb3
      obtain ⟨a3, HA3⟩ : ∃ a3, Hid (post (nfT r true) = a3) := ⟨_, Lib.hid rfl⟩
      rw [HA3.out] at HC3 HL3
      obtain ⟨n3, HN3⟩ : ∃ n3, Hid (n3 = a3.length) := ⟨_, Lib.hid rfl⟩
      rw [HA3.out, ← HN3.out]
      go_wp2_with fail
      refine (join_two a2 a3 C2 C3 k2 k3 n2 n3 9 w3 HN2.out HN3.out (by rw [HN2.out]; exact HL2.out.1) (by rw [HN3.out]; exact HL3.out.1) (by rw [HN2.out]; exact HL2.out.2) (by rw [HN3.out]; exact HL3.out.2) (HC2.out.below HBn3.out) HC3.out).mono ?_
      intro q w4 hq
      have HE : Hid (post (nfT (.bi (10, x2) l r) true) = a2 ++ (a3 ++ [(9, 0)])) := Lib.hid (by rw [← HA2.out, ← HA3.out]; rfl)
      obtain ⟨L9, HL9⟩ : ∃ L9, Hid (a2 ++ (a3 ++ [(9, 0)]) = L9) := ⟨_, Lib.hid rfl⟩
      rw [HL9.out] at hq
      obtain ⟨C4, k4, rfl, hc, hk, hb⟩ := NdP.after HB3.out hq
      have HQ := Lib.hid (And.intro hc (And.intro hk hb))
      clear hc hk hb hq
      obtain ⟨n9, HN9⟩ : ∃ n9, Hid (n9 = L9.length) := ⟨_, Lib.hid rfl⟩
      rw [← HN9.out]
      go_wp2
      go_ret
      rw [HE.out.trans HL9.out]
      exact ⟨C4, k4, by rw [← HN9.out]; rfl, HQ.out⟩
theorem rform_any (e : List (Int × Int)) (A Bb : Option Addr) (c d m : Nat) (B : List Int) : ∀ t : Tr, FmC e A Bb c d m B t
  | .lf x => rform_lf e A Bb c d m B x
  | .un x t => rform_un e A Bb c d m B x t (rform_any e A Bb c d m B t)
  | .bi x l r => rform_bi e A Bb c d m B x l r (rform_any e A Bb c d m B l) (rform_any e A Bb c d m B r)
end Go.Proofs.YtmdfiamffipbcaaDoor.nf
