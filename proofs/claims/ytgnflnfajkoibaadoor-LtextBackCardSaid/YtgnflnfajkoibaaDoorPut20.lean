/- Contracts that the claim stands on, several texts in one: LtxBackLaw. -/
import Derived.Test.YtgnflnfajkoibaaDoorPut1
import Derived.Test.YtgnflnfajkoibaaDoorPut2
import Derived.Test.YtgnflnfajkoibaaDoorPut3
import Derived.Test.YtgnflnfajkoibaaDoorPut4
import Derived.Test.YtgnflnfajkoibaaDoorPut5
import Derived.Test.YtgnflnfajkoibaaDoorPut6
import Derived.Test.YtgnflnfajkoibaaDoorPut7
import Derived.Test.YtgnflnfajkoibaaDoorPut8
import Derived.Test.YtgnflnfajkoibaaDoorPut9
import Derived.Test.YtgnflnfajkoibaaDoorPut10
import Derived.Test.YtgnflnfajkoibaaDoorPut11
import Derived.Test.YtgnflnfajkoibaaDoorPut12
import Derived.Test.YtgnflnfajkoibaaDoorPut13
import Derived.Test.YtgnflnfajkoibaaDoorPut14
import Derived.Test.YtgnflnfajkoibaaDoorPut15
import Derived.Test.YtgnflnfajkoibaaDoorPut16
import Derived.Test.YtgnflnfajkoibaaDoorPut17
import Derived.Test.YtgnflnfajkoibaaDoorPut18
import Derived.Test.YtgnflnfajkoibaaDoorPut19
namespace Go.Proofs.YtgnflnfajkoibaaDoor.tx
open Go.ChangeShapes Go.WideShapes Go.ChangeAt Go.RowKit Go.Deep sr lt

theorem empty_bad {N : List ByteArray} {r : lx.Res} (hr : lx.ScanR numD ⟨#[]⟩ r) : (parseT N ⟨#[]⟩ r).2.2 ≠ 0 := by
  have hk : lx.Tks numD (⟨#[]⟩ : ByteArray) 0 [] := .done (Nat.le_refl _)
  have h3 := hk.sc [] (by decide)
  have e : r = ([], 0, 0) := by
    rcases hr with ⟨h, _⟩ | ⟨_, h⟩
    · exact absurd h (by decide)
    · exact (lx.Sc.one h3 h).symm
  subst e
  have hp : prN N [] = none := by
    show prO N ⟨[].toArray⟩ = none
    exact pr_not (.inl (by kernel_rfl))
  have hs : stepF (prN N) 0 [] rd0 = (false, rd0) := by
    unfold stepF bgF
    rw [if_pos (show rd0.bg = true from rfl), hp]
    simp [wrO_nil]
  have hrun : runF (prN N) (tkL (allT [] (⟨#[]⟩ : ByteArray).size)) rd0 = (0, false, rd0) := by
    show runF (prN N) [(0, [])] rd0 = _
    rw [runF, hs]
    simp
  have hred : (redV N ⟨#[]⟩ []).2.2 = 4 := by
    unfold redV
    rw [hrun]
    rfl
  unfold parseT
  rw [if_pos rfl, if_neg (by dsimp only; rw [hred]; decide)]
  dsimp only
  rw [hred]
  decide
theorem parse_ok {N : List ByteArray} {s : ByteArray} {r : lx.Res} (hr : lx.ScanR numD s r) (h : (parseT N s r).2.2 = 0) : (textV (parseT N s r).1 N).1 = s ∧ (textV (parseT N s r).1 N).2 = 0 ∧ (parseT N s r).1.length ≤ 24 := by
  obtain ⟨h1, h2⟩ := parseT_good h
  refine ⟨h1, ?_, h2⟩
  by_cases h3 : (textV (parseT N s r).1 N).2 = 0
  · exact h3
  · exfalso
    have h4 := textV_bad h3
    rw [h1] at h4
    subst h4
    exact empty_bad hr h
set_option maxRecDepth 100000 in
set_option maxHeartbeats 8000000 in
theorem ltextBack_any (A : Option Addr) (m c : Nat) (e : List (Int × Int)) (t : ByteArray) (NA : Option Addr) (n d : Nat) (N : List ByteArray) (w : World) (hm : m = e.length) (hA : PA w A e) (hm9 : m ≤ 4611686018427387904) (ht9 : t.size ≤ maxLen) (hn : n = N.length) (hnd : n ≤ d) (hn9 : n ≤ 4611686018427387904) (hN : RS encS 1 w NA N)
    (hx : LxW w) : Calls Tryd.prog 4 #[.slice A m c, .string t, .slice NA n d] w fun x w' => x = .returned (.bool true) ∧ Below w.heap.size w w' := by
  have HM := Lib.hid hm
  have HA := Lib.hid hA
  have HN := Lib.hid hn
  have HND := Lib.hid hnd
  have HRS := Lib.hid hN
  have HX := Lib.hid hx
  have HHV := Lib.hid (heavy_any A NA c m n d N w hm9 hn hn9 hN)
  obtain ⟨hv, HV⟩ : ∃ b, Hid (hvF N m = b) := ⟨_, Lib.hid rfl⟩
  rw [HV.out] at HHV
  clear hm hA hm9 hn hnd hn9 hN hx ht9
  by_cases hts : 600 < t.size
  · have htsi : (t.size : Int) > 600 := by omega
    go_enter Tryd.func4, Tryd.ntmps4
    go_wp2_with fail
    refine HHV.out.mono ?_
    rintro x w1 ⟨rfl, hb1⟩
    have HB1 := Lib.hid hb1
    clear hb1 HHV
    cases hv with
    | true =>
      go_wp2_with fail
      refine (awake_any w1 (HX.out.below HB1.out)).mono ?_
      rintro x w2 ⟨rfl, hb2⟩
      have HB2 : Hid (Below w.heap.size w w2) := Lib.hid (HB1.out.trans (hb2.mono HB1.out.size))
      clear hb2
      go_wp2
      go_ret
      exact ⟨rfl, HB2.out⟩
    | false =>
      go_wp2_with fail
      refine (awake_any w1 (HX.out.below HB1.out)).mono ?_
      rintro x w2 ⟨rfl, hb2⟩
      have HB2 : Hid (Below w.heap.size w w2) := Lib.hid (HB1.out.trans (hb2.mono HB1.out.size))
      clear hb2
      go_wp2
      go_ret
      exact ⟨rfl, HB2.out⟩
  · have htsi : ¬ (t.size : Int) > 600 := by omega
    go_enter Tryd.func4, Tryd.ntmps4
    go_wp2_with fail
    refine HHV.out.mono ?_
    rintro x w1 ⟨rfl, hb1⟩
    have HB1 := Lib.hid hb1
    clear hb1 HHV
    cases hv with
    | true =>
      go_wp2_with fail
      refine (awake_any w1 (HX.out.below HB1.out)).mono ?_
      rintro x w2 ⟨rfl, hb2⟩
      have HB2 : Hid (Below w.heap.size w w2) := Lib.hid (HB1.out.trans (hb2.mono HB1.out.size))
      clear hb2
      go_wp2
      go_ret
      exact ⟨rfl, HB2.out⟩
    | false =>
      have HS := Lib.hid (hv_no HV.out)
      have HNM : Hid (NmS w NA n d N) := Lib.hid ⟨HRS.out, HN.out, HND.out, by rw [HN.out]; have := HS.out; omega⟩
      have HTC := Lib.hid (text_any A m c NA n d e N w1 HM.out (by have := HS.out; omega) (HA.out.below HB1.out) (HNM.out.below HB1.out) (HX.out.below HB1.out).ops)
      obtain ⟨u, uy, HT⟩ : ∃ u uy, Hid (textV e N = (u, uy)) := ⟨_, _, Lib.hid rfl⟩
      rw [HT.out] at HTC
      go_wp2_with fail
      refine HTC.out.mono ?_
      rintro x w2 ⟨rfl, hb2⟩
      have HB2 : Hid (Below w.heap.size w w2) := Lib.hid (HB1.out.trans (hb2.mono HB1.out.size))
      clear hb2 HTC
      dsimp only
      by_cases hu : uy = 0
      · subst hu
        have HPU := Lib.hid (parse_any NA n d N u w2 (HNM.out.below HB2.out) (HX.out.below HB2.out))
        go_wp2_with fail
        refine HPU.out.mono ?_
        rintro z w3 ⟨r, v, hr, rfl, ho3, hb3⟩
        have HB3 : Hid (Below w.heap.size w w3) := Lib.hid (HB2.out.trans (hb3.mono HB2.out.size))
        have hpb : parseT N u r = (e.map bnF, 0, 0) := by
          have h1 := parse_back (e := e) (N := N) (r := r) (by rw [HT.out]) (by rw [HT.out]; exact hr)
          rw [HT.out] at h1
          exact h1
        rw [hpb] at ho3 ⊢
        obtain ⟨A3, c3, hv3, hr3⟩ := OR.rs encN_len ho3
        subst hv3
        have HP3 := Lib.hid (pa_of hr3)
        clear hb3 ho3 hr hr3 HPU hpb
        dsimp only at HP3 ⊢
        obtain ⟨m3, hm3⟩ : ∃ m3, (e.map bnF).length = m3 := ⟨_, rfl⟩
        have HM3 := Lib.hid hm3
        rw [hm3]
        clear hm3
        have HB := Lib.hid (bare_of e A m c w3 HM.out (by have := HS.out; omega) (HA.out.below HB3.out))
        go_wp2_with fail
        refine HB.out.mono ?_
        rintro z w4 ⟨v4, rfl, ho4, hb4⟩
        have HB4 : Hid (Below w.heap.size w w4) := Lib.hid (HB3.out.trans (hb4.mono HB3.out.size))
        obtain ⟨A4, c4, hv4, hr4⟩ := OR.rs encN_len ho4
        subst hv4
        rw [HM3.out]
        have HND4 := Lib.hid (nodes_any A3 A4 c3 c4 m3 m3 (e.map bnF) (e.map bnF) w4 HM3.out.symm HM3.out.symm (HP3.out.below hb4) (pa_of hr4) (by rw [List.length_map, ← HM.out]; have := HS.out; omega) (by rw [List.length_map, ← HM.out]; have := HS.out; omega))
        have HEQ : Hid (eqP (e.map bnF) (e.map bnF) = true) := Lib.hid (decide_eq_true rfl)
        clear ho4 hr4 hb4 HB
        go_wp2_with fail
        refine HND4.out.mono ?_
        rw [HEQ.out]
        rintro z w5 ⟨rfl, j, rfl⟩
        have HB5 : Hid (Below w.heap.size w (w4.drewN j)) := Lib.hid (below_drewN HB4.out j)
        clear HND4
        generalize w4.drewN j = w5 at *
        have HPC := Lib.hid (parse_any NA n d N t w5 (HNM.out.below HB5.out) (HX.out.below HB5.out))
        go_wp2_with fail
        refine HPC.out.mono ?_
        rintro z v6 ⟨r, v, hr, rfl, ho6, hb6⟩
        have HC6 : Hid (Below w.heap.size w v6) := Lib.hid (HB5.out.trans (hb6.mono HB5.out.size))
        have HGD := Lib.hid (fun h => parse_ok (N := N) (s := t) hr h)
        have HBD := Lib.hid (fun h => parseT_bad (N := N) (s := t) (r := r) h)
        obtain ⟨A6, c6, hv6, hr6⟩ := OR.rs encN_len ho6
        subst hv6
        have HP6 := Lib.hid (pa_of hr6)
        clear hb6 ho6 hr hr6 HPC
        generalize parseT N t r = p at *
        obtain ⟨E, qa, qy⟩ := p
        dsimp only at HGD HBD HP6 ⊢
        obtain ⟨m6, hm6⟩ : ∃ m6, E.length = m6 := ⟨_, rfl⟩
        have HM6 := Lib.hid hm6
        rw [hm6]
        clear hm6
        by_cases hy : qy = 0
        · subst hy
          have HTC6 := Lib.hid (text_any A6 m6 c6 NA n d E N v6 HM6.out.symm (by have := (HGD.out rfl).2.2; have := HM6.out; omega) HP6.out (HNM.out.below HC6.out) (HX.out.below HC6.out).ops)
          obtain ⟨u6, y6, HT6⟩ : ∃ u y, Hid (textV E N = (u, y)) := ⟨_, _, Lib.hid rfl⟩
          have HG6 : Hid (u6 = t ∧ y6 = 0) := Lib.hid (by
            have h1 := HGD.out rfl
            rw [HT6.out] at h1
            exact ⟨h1.1, h1.2.1⟩)
          rw [HT6.out, HG6.out.1, HG6.out.2] at HTC6
          go_wp2_with fail
          refine HTC6.out.mono ?_
          rintro z v7 ⟨rfl, hb7⟩
          have HC7 : Hid (Below w.heap.size w v7) := Lib.hid (HC6.out.trans (hb7.mono HC6.out.size))
          clear hb7 HTC6
          dsimp only
          go_wp2_with fail
          refine (awake_any v7 (HX.out.below HC7.out)).mono ?_
          rintro z v8 ⟨rfl, hb8⟩
          have HC8 : Hid (Below w.heap.size w v8) := Lib.hid (HC7.out.trans (hb8.mono HC7.out.size))
          clear hb8
          go_wp2
          go_ret
          exact ⟨rfl, HC8.out⟩
        · have HE0 : Hid (m6 = 0) := Lib.hid (by rw [← HM6.out, HBD.out hy]; rfl)
          rw [HE0.out]
          have hyb : (qy != 0) = true := by simpa using hy
          go_wp2_with fail
          refine (awake_any v6 (HX.out.below HC6.out)).mono ?_
          rintro z v8 ⟨rfl, hb8⟩
          have HC8 : Hid (Below w.heap.size w v8) := Lib.hid (HC6.out.trans (hb8.mono HC6.out.size))
          clear hb8
          go_wp2
          go_ret
          exact ⟨rfl, HC8.out⟩
      · have hub : (uy == 0) = false := by simpa using hu
        have HPC := Lib.hid (parse_any NA n d N t w2 (HNM.out.below HB2.out) (HX.out.below HB2.out))
        go_wp2_with fail
        refine HPC.out.mono ?_
        rintro z v6 ⟨r, v, hr, rfl, ho6, hb6⟩
        have HC6 : Hid (Below w.heap.size w v6) := Lib.hid (HB2.out.trans (hb6.mono HB2.out.size))
        have HGD := Lib.hid (fun h => parse_ok (N := N) (s := t) hr h)
        have HBD := Lib.hid (fun h => parseT_bad (N := N) (s := t) (r := r) h)
        obtain ⟨A6, c6, hv6, hr6⟩ := OR.rs encN_len ho6
        subst hv6
        have HP6 := Lib.hid (pa_of hr6)
        clear hb6 ho6 hr hr6 HPC
        generalize parseT N t r = p at *
        obtain ⟨E, qa, qy⟩ := p
        dsimp only at HGD HBD HP6 ⊢
        obtain ⟨m6, hm6⟩ : ∃ m6, E.length = m6 := ⟨_, rfl⟩
        have HM6 := Lib.hid hm6
        rw [hm6]
        clear hm6
        by_cases hy : qy = 0
        · subst hy
          have HTC6 := Lib.hid (text_any A6 m6 c6 NA n d E N v6 HM6.out.symm (by have := (HGD.out rfl).2.2; have := HM6.out; omega) HP6.out (HNM.out.below HC6.out) (HX.out.below HC6.out).ops)
          obtain ⟨u6, y6, HT6⟩ : ∃ u y, Hid (textV E N = (u, y)) := ⟨_, _, Lib.hid rfl⟩
          have HG6 : Hid (u6 = t ∧ y6 = 0) := Lib.hid (by
            have h1 := HGD.out rfl
            rw [HT6.out] at h1
            exact ⟨h1.1, h1.2.1⟩)
          rw [HT6.out, HG6.out.1, HG6.out.2] at HTC6
          go_wp2_with fail
          refine HTC6.out.mono ?_
          rintro z v7 ⟨rfl, hb7⟩
          have HC7 : Hid (Below w.heap.size w v7) := Lib.hid (HC6.out.trans (hb7.mono HC6.out.size))
          clear hb7 HTC6
          dsimp only
          go_wp2_with fail
          refine (awake_any v7 (HX.out.below HC7.out)).mono ?_
          rintro z v8 ⟨rfl, hb8⟩
          have HC8 : Hid (Below w.heap.size w v8) := Lib.hid (HC7.out.trans (hb8.mono HC7.out.size))
          clear hb8
          go_wp2
          go_ret
          exact ⟨rfl, HC8.out⟩
        · have HE0 : Hid (m6 = 0) := Lib.hid (by rw [← HM6.out, HBD.out hy]; rfl)
          rw [HE0.out]
          have hyb : (qy != 0) = true := by simpa using hy
          go_wp2_with fail
          refine (awake_any v6 (HX.out.below HC6.out)).mono ?_
          rintro z v8 ⟨rfl, hb8⟩
          have HC8 : Hid (Below w.heap.size w v8) := Lib.hid (HC6.out.trans (hb8.mono HC6.out.size))
          clear hb8
          go_wp2
          go_ret
          exact ⟨rfl, HC8.out⟩
end Go.Proofs.YtgnflnfajkoibaaDoor.tx
