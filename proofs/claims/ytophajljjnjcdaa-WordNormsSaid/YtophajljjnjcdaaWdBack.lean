/- The program's back: a row told from its last place back, the loop gone through twice. -/
import Derived.Test.YtophajljjnjcdaaWdEach
namespace Go.Proofs.Ytophajljjnjcdaa.wd
open Go.ChangeShapes Go.WideShapes Go.ChangeAt Go.RowKit Go.Deep sr lt nf

/-- What is told of the loop's first place after so many turns. -/
def xsF (g : Nat → Bool → Bool) (e : Bool) (q s : Nat) : Nat → Bool
  | 0 => e
  | t + 1 => chn g (xsF g e q s t) q s
def rowB (R : Nat → Bool) (j : Nat) : Value := .bool (R j)
def putB (R : Nat → Bool) (k : Nat) (y : Bool) (j : Nat) : Bool := if j = k then y else R j
theorem rowB_set {w : World} {b n k : Nat} {R : Nat → Bool} {y : Bool} (h : w.rowIs b 4 n (rowB R)) : (w.setCell ⟨b, k, none⟩ (.bool y)).rowIs b 4 n (rowB (putB R k y)) :=
  (h.set k (.bool y)).congr (fun j _ => by
    unfold rowB putB
    by_cases hj : j = k
    · rw [if_pos hj, if_pos hj]
    · rw [if_neg hj, if_neg hj])
theorem bk_get {g : Nat → Bool → Bool} {e : Bool} {s n k : Nat} (h : k < n) : (bkF g e s n).getD k false = chn g (xsF g e (n - s) s 1) (n - k) k := by
  unfold bkF
  rw [range_get h]
  rfl
set_option maxRecDepth 20000 in
set_option maxHeartbeats 4000000 in
theorem back_any (gf : Nat) (lb : Array Value) (x : WX) (n : Nat) (e0 : Bool) (g : Nat → Bool → Bool) (w : World) (h1 : x.n ≤ 1000) (h2 : x.m ≤ 1000) (hn : x.n + x.m = n)
    (eg : ∀ args w, (callFunc gf args).run Try.prog w = .ok (.enter gf args) w) (hP : ∀ k e W, k < n → Below w.heap.size w W → Calls Try.prog gf (#[.int .i64 k, .bool e] ++ lb) W (ValP W (.bool (g k e)))) :
    Calls Try.prog 66 #[x.v, .bool e0, .func (.func gf) #[] lb] w (OwnB w (bkF g e0 x.n n)) := by
  have HP := Lib.hid hP
  have HLA := Lib.hid (fun w => len_any x w h1 h2)
  rw [hn] at HLA
  have hmk := wd_mk n (by omega)
  obtain ⟨A, s, c, B, q, d⟩ := x
  unfold WX.v at HLA ⊢
  dsimp only at h1 h2 hn HLA ⊢
  have hn2 : n ≤ 2000 := by omega
  obtain ⟨L, HL⟩ : ∃ L, Hid (bkF g e0 s n = L) := ⟨_, Lib.hid rfl⟩
  have HLN : Hid (L.length = n) := Lib.hid (by rw [← HL.out, bk_len])
  have HQ : Hid (n - s = q) := Lib.hid (by omega)
  have HSN : Hid (s ≤ n) := Lib.hid (by omega)
  have HG : Hid (∀ k, k < n → L.getD k false = chn g (xsF g e0 q s 1) (n - k) k) := Lib.hid (fun k hk => by rw [← HL.out, bk_get hk, HQ.out])
  rw [HL.out]
  obtain ⟨w1, HW1, HB1, HS1, HBX⟩ : ∃ w1, w.alloc (.cells #[.slice A s c, .slice B q d] 24) = w1 ∧ Hid (Below w.heap.size w w1) ∧ Hid (w1.heap.size = w.heap.size + 1) ∧ Hid (∀ W, Below w1.heap.size w1 W → W.cell? ⟨w.heap.size, 0, none⟩ = some (.slice A s c) ∧ W.cell? ⟨w.heap.size, 1, none⟩ = some (.slice B q d)) := by
    have e : (w.alloc (.cells #[.slice A s c, .slice B q d] 24)).heap.size = w.heap.size + 1 := by simp
    exact ⟨_, rfl, Lib.hid (below_one _ _), Lib.hid e, Lib.hid (fun W h => ⟨(h.cell (p := ⟨w.heap.size, 0, none⟩) (by show w.heap.size < _; omega)).trans (World.cell?_alloc_at _ _ _ _ (by simp)), (h.cell (p := ⟨w.heap.size, 1, none⟩) (by show w.heap.size < _; omega)).trans (World.cell?_alloc_at _ _ _ _ (by simp))⟩)⟩
  obtain ⟨y1, y2⟩ := HBX.out w1 (Below.refl _ _)
  clear hP HL hn
  go_enter Try.func66, Try.ntmps66
  go_upto_region 1 with (fail)
  clear HW1
  go_wp2_with fail
  refine (HLA.out _).mono ?_
  rintro e2 w2 ⟨rfl, hb2⟩
  have HC2 := Lib.hid hb2
  clear hb2 y1 y2
  obtain ⟨w3, HW3, HC3, HR3, HS3⟩ : ∃ w3, w2.alloc (.cells (madeCells #[.bool false] n) 4) = w3 ∧ Hid (Below w1.heap.size w1 w3) ∧ Hid (w3.rowIs w2.heap.size 4 n (rowB (fun _ => false))) ∧ Hid (w1.heap.size ≤ w2.heap.size) :=
    ⟨_, rfl, Lib.hid (HC2.out.alloc HC2.out.size _), Lib.hid ((World.rowIs_made w2 (.bool false) n 4).congr (fun j _ => rfl)), Lib.hid HC2.out.size⟩
  have hmk2 := hmk w2
  rw [HW3] at hmk2
  clear hmk HW3 HC2 HLA
  generalize w2.heap.size = b at *
  go_wp2
  clear hmk2
  go_loopw [1, 15] (fun ev tv wr => ∃ (t : Nat) (x : Bool) (R : Nat → Bool), t ≤ 2 ∧ tv = .int .i64 t ∧ ev = .bool x ∧ Hid (x = xsF g e0 q s t) ∧ Hid (wr.rowIs b 4 n (rowB R)) ∧ Hid (∀ t', t = t' + 1 → ∀ j, s ≤ j → j < n → R j = chn g (xsF g e0 q s t') (n - j) j) ∧ Hid (Below w1.heap.size w1 wr)) (fun _ tv _ => 2 - (intOf tv).toNat)
  case atStart => exact ⟨0, e0, _, by omega, rfl, rfl, Lib.hid rfl, HR3, Lib.hid (fun t' h => by omega), HC3⟩
  case round =>
    obtain ⟨t, x, R, ht, rfl, rfl, HX, HR, HRR, HC⟩ := hrel
    by_cases hlt : t < 2
    · obtain ⟨z1, z2⟩ := HBX.out wr HC.out
      have hti : (t : Int) < 2 := by omega
      have htd : decide ((t : Int) < 2) = true := decide_eq_true hti
      go_wp2
      clear z1 z2 HRR
      go_loopw [1, 20] (fun ev iv wq => ∃ (i k : Nat) (y : Bool) (R : Nat → Bool), i ≤ q ∧ i + k = n ∧ iv = .int .i64 i ∧ ev = .bool y ∧ Hid (y = chn g (xsF g e0 q s t) i k) ∧ Hid (wq.rowIs b 4 n (rowB R)) ∧ Hid (∀ j, k ≤ j → j < n → R j = chn g (xsF g e0 q s t) (n - j) j) ∧ Hid (Below w1.heap.size w1 wq)) (fun _ iv _ => q - (intOf iv).toNat)
      case atStart => exact ⟨0, n, x, R, by omega, by omega, rfl, rfl, Lib.hid HX.out, HR, Lib.hid (fun j h1 h2 => by omega), HC⟩
      case round =>
        clear HR HC HX
        obtain ⟨i, k, y, R, hi, hik, rfl, rfl, HY, HR, HRR, HC⟩ := hrel
        by_cases hli : i < q
        · obtain ⟨p, rfl⟩ : ∃ p, k = p + 1 := ⟨k - 1, by have := HQ.out; omega⟩
          have hpn : p < n := by omega
          have hpi : (n : Int) - 1 - (i : Int) = (p : Int) := by omega
          have HQP : Hid (n - p = i + 1) := Lib.hid (by omega)
          have HCC := Lib.hid (HP.out p y wr hpn (HB1.out.trans (HC.out.mono HB1.out.size)))
          obtain ⟨z, HZ⟩ : ∃ z, Hid (g p y = z) := ⟨_, Lib.hid rfl⟩
          rw [HZ.out] at HCC
          have HZ2 : Hid (z = chn g (xsF g e0 q s t) (i + 1) p) := Lib.hid (by rw [← HZ.out, HY.out]; rfl)
          clear hik
          go_wp2_with fail
          refine HCC.out.mono ?_
          rintro e5 w5 ⟨rfl, hb5⟩
          have HR5 : Hid (w5.rowIs b 4 n (rowB R)) := Lib.hid (HR.out.of_block (hb5.block _ HR.out.lt))
          have HC5 : Hid (Below w1.heap.size w1 w5) := Lib.hid (HC.out.trans (hb5.mono HC.out.size))
          have d1 := HR5.out.cell hpn
          have f1 := HR5.out.frozen p
          generalize rowB R p = u at d1
          have HR6 := Lib.hid (rowB_set (k := p) (y := z) HR5.out)
          have HC6 : Hid (Below w1.heap.size w1 (w5.setCell ⟨b, p, none⟩ (.bool z))) := Lib.hid (HC5.out.setCell (show w1.heap.size ≤ (⟨b, p, none⟩ : Addr).block from HS3.out) _)
          have HR7 : Hid (∀ j, p ≤ j → j < n → putB R p z j = chn g (xsF g e0 q s t) (n - j) j) := Lib.hid (fun j h1 h2 => by
            unfold putB
            by_cases hj : j = p
            · rw [if_pos hj, hj, HQP.out]; exact HZ2.out
            · rw [if_neg hj]; exact HRR.out j (by omega) h2)
          clear hb5
          go_wp2
          go_roundw
          case rel => exact ⟨i + 1, p, z, _, by omega, by have := HQP.out; omega, by go_num, rfl, HZ2, HR6, HR7, HC6⟩
          case measure => simp [intOf]; omega
        · obtain rfl : i = q := by omega
          have HK : Hid (k = s) := Lib.hid (by have := HQ.out; have := HSN.out; omega)
          go_wp2
          go_roundw
          case rel => exact ⟨t + 1, y, R, by omega, by go_num, rfl, Lib.hid (by rw [HY.out, HK.out]; rfl), HR, Lib.hid (fun t' h j h1 h2 => by obtain rfl : t = t' := (by omega); exact HRR.out j (by rw [HK.out]; exact h1) h2), HC⟩
          case measure => simp [intOf]; omega
    · have HT2 : Hid (t = 2) := Lib.hid (by omega)
      have hti : ¬ (t : Int) < 2 := by omega
      have htd : decide ((t : Int) < 2) = false := decide_eq_false hti
      obtain ⟨z1, z2⟩ := HBX.out wr HC.out
      have HRS : Hid (∀ j, s ≤ j → j < n → R j = L.getD j false) := Lib.hid (fun j h1 h2 => by rw [HRR.out 1 HT2.out j h1 h2, HG.out j h2])
      have HX2 : Hid (x = chn g (xsF g e0 q s 1) (n - s) s) := Lib.hid (by rw [HX.out, HQ.out, HT2.out]; rfl)
      clear HRR HX
      go_wp2
      clear z1 z2
      go_loopw [1, 41] (fun ev iv wq => ∃ (i k : Nat) (y : Bool) (R : Nat → Bool), i ≤ s ∧ i + k = s ∧ iv = .int .i64 i ∧ ev = .bool y ∧ Hid (y = chn g (xsF g e0 q s 1) (n - k) k) ∧ Hid (wq.rowIs b 4 n (rowB R)) ∧ Hid (∀ j, k ≤ j → j < n → R j = L.getD j false) ∧ Hid (Below w1.heap.size w1 wq)) (fun _ iv _ => s - (intOf iv).toNat)
      case atStart => exact ⟨0, s, x, R, by omega, by omega, rfl, rfl, HX2, HR, HRS, HC⟩
      case round =>
        clear HR HC HRS HX2
        obtain ⟨i, k, y, R, hi, hik, rfl, rfl, HY, HR, HRR, HC⟩ := hrel
        by_cases hli : i < s
        · obtain ⟨p, rfl⟩ : ∃ p, k = p + 1 := ⟨k - 1, by omega⟩
          have hpn : p < n := by have := HSN.out; omega
          have hpi : (s : Int) - 1 - (i : Int) = (p : Int) := by omega
          have HQP : Hid (i + (p + 1) = s ∧ n - p = (n - (p + 1)) + 1) := Lib.hid ⟨hik, by omega⟩
          have HCC := Lib.hid (HP.out p y wr hpn (HB1.out.trans (HC.out.mono HB1.out.size)))
          obtain ⟨z, HZ⟩ : ∃ z, Hid (g p y = z) := ⟨_, Lib.hid rfl⟩
          rw [HZ.out] at HCC
          have HZ2 : Hid (z = chn g (xsF g e0 q s 1) (n - p) p) := Lib.hid (by rw [← HZ.out, HY.out, HQP.out.2]; rfl)
          obtain ⟨z1, z2⟩ := HBX.out wr HC.out
          clear hik
          go_wp2_with fail
          clear z1 z2
          refine HCC.out.mono ?_
          rintro e5 w5 ⟨rfl, hb5⟩
          have HR5 : Hid (w5.rowIs b 4 n (rowB R)) := Lib.hid (HR.out.of_block (hb5.block _ HR.out.lt))
          have HC5 : Hid (Below w1.heap.size w1 w5) := Lib.hid (HC.out.trans (hb5.mono HC.out.size))
          have d1 := HR5.out.cell hpn
          have f1 := HR5.out.frozen p
          generalize rowB R p = u at d1
          have HR6 := Lib.hid (rowB_set (k := p) (y := z) HR5.out)
          have HC6 : Hid (Below w1.heap.size w1 (w5.setCell ⟨b, p, none⟩ (.bool z))) := Lib.hid (HC5.out.setCell (show w1.heap.size ≤ (⟨b, p, none⟩ : Addr).block from HS3.out) _)
          have HR7 : Hid (∀ j, p ≤ j → j < n → putB R p z j = L.getD j false) := Lib.hid (fun j h1 h2 => by
            unfold putB
            by_cases hj : j = p
            · rw [if_pos hj, hj, HG.out p hpn]; exact HZ2.out
            · rw [if_neg hj]; exact HRR.out j (by omega) h2)
          clear hb5
          go_wp2
          go_roundw
          case rel => exact ⟨i + 1, p, z, _, by omega, by have := HQP.out.1; omega, by go_num, rfl, HZ2, HR6, HR7, HC6⟩
          case measure => simp [intOf]; omega
        · obtain rfl : i = s := by omega
          go_wp2
          go_ret
          have hr := HR.out.congr (f := rowB R) (g := fstB L n) (fun j hj => by unfold rowB fstB; rw [if_pos hj, HRR.out j (by omega) hj])
          exact OwnB.row (w' := w) HLN.out (by have := HS3.out; have := HS1.out; omega) hr (HB1.out.trans (HC.out.mono HB1.out.size))
end Go.Proofs.Ytophajljjnjcdaa.wd
