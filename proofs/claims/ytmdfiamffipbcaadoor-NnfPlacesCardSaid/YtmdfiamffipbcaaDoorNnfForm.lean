/- The program's form. -/
import Derived.Test.YtmdfiamffipbcaaDoorNnfHead
import Derived.Test.YtmdfiamffipbcaaDoorNnfRev
namespace Go.Proofs.YtmdfiamffipbcaaDoor.nf
open Go.ChangeShapes Go.WideShapes Go.ChangeAt Go.RowKit Go.Shelf Go.Deep sr lt

attribute [local go_sem] Oper.semAt_some

set_option maxRecDepth 20000 in
set_option maxHeartbeats 8000000 in
/-- What a call leaves that hands back nodes. -/
def NfP (w : World) (L : List (Int × Int)) (e : Ending) (w' : World) : Prop := ∃ A c, e = .returned (.slice A L.length c) ∧ PA w' A L ∧ L.length ≤ c ∧ Below w.heap.size w w'
/-- The form of nodes: nothing, if they are no formula. -/
def nfL (e : List (Int × Int)) (ng : Bool) : List (Int × Int) := if isF e = true then (runS e (outF e e.length) ⟨(List.replicate e.length false).set (e.length - 1) ng, [], []⟩ (dn 0 e.length)).w.reverse else []
theorem dn_len (b : Nat) : ∀ s, (dn b s).length = s
  | 0 => rfl
  | s + 1 => by rw [dn, List.length_cons, dn_len b s]
theorem runS_len (e : List (Int × Int)) (B : List Int) : ∀ (l : List Nat) (S : St), (runS e B S l).w.length + (runS e B S l).wt.length ≤ S.w.length + S.wt.length + 3 * l.length
  | [], S => by simp [runS]
  | j :: l, S => by
    have h1 := stepF_len e B S j
    have h2 := runS_len e B l (stepF e B S j)
    show (runS e B (stepF e B S j) l).w.length + (runS e B (stepF e B S j) l).wt.length ≤ _
    rw [List.length_cons]
    omega
theorem form_any (e : List (Int × Int)) (A : Option Addr) (c m : Nat) (w : World) (hm : m = e.length) (hm2 : m ≤ 1000) (hA : PA w A e) (hF : FmW w) (ng : Bool) (L : List (Int × Int)) (hL : L = nfL e ng) :
    Calls Tryd.prog 21 #[.slice A m c, .bool ng] w (NfP w L) := by
  have HM := Lib.hid hm
  have HA := Lib.hid hA
  have HSP : Hid (∀ W, Below w.heap.size w W → Calls Tryd.prog 28 #[.slice A m c] W (RowN W (spansL e))) := Lib.hid (fun W hW => spans_new e A c m W hm hm2 (hA.below hW))
  have hmk := fun W => run_make_row' (P := Tryd.prog) 36 4 (.bool false) 1 Tryd.underlying36 infoB rfl .i64 .i64 m (by omega) (by omega) W
  have HF := Lib.hid hF
  have HLL := Lib.hid hL
  clear hm hA hF hL
  refine (callsIn_wide (n := 5)).1 ?_
  refine callsIn_of_wp_marks Tryd.func21 rfl trivial ?_ rfl
  simp only [Tryd.ntmps21, List.size_toArray, List.length_cons, List.length_nil, Nat.reduceAdd, Nat.reduceSub, Array.replicate_succ, Array.replicate_zero, List.push_toArray, List.append_toArray, List.nil_append, List.cons_append]
  refine wpIn_wide.2 ?_
  go_wp2
  go_cut [5] from 7 (fun v w' => HeadP w A m c (spansL e) v w')
  case first =>
    go_region_held3 (fun _ => True)
      (trivial)
      (first
        | (go_at_call 28; refine (HSP.out _ (by repeat first | exact Below.refl _ _ | refine Below.drew ?_ | refine Below.alloc ?_ (by simp) _)).mono ?_; rintro x w3 ⟨B3, d3, rfl, hi3, hb3, hn3⟩; have HI3 := Lib.hid hi3; have HN3 := Lib.hid hn3; have HB3 := Lib.hid hb3
           have HBW : Hid (Below w.heap.size w w3) := Lib.hid (Below.trans (by repeat first | exact Below.refl _ _ | refine Below.drew ?_ | refine Below.alloc ?_ (by simp) _) (hb3.mono (by first | (simp; done) | (simp; omega))))
           have HW : Hid (w.heap.size ≤ w3.heap.size) := Lib.hid HBW.out.size
           have HN : Hid (∀ a, B3 = some a → w.heap.size ≤ a.block ∧ a.block < w3.heap.size) := Lib.hid (fun a ha => by have h := hn3 a ha; simp at h; omega)
           (try have HA1 : Hid (∀ a, B3 = some a → a.block ≠ w.heap.size) := Lib.hid (fun a ha => by have h := hn3 a ha; simp at h; omega))
           (try have HA2 : Hid (∀ a, B3 = some a → a.block ≠ w.heap.size + 1) := Lib.hid (fun a ha => by have h := hn3 a ha; simp at h; omega))
           (try have HM0 : Hid (w3.rowIs w.heap.size 4 m (fun _ => .bool false)) := Lib.hid ((World.rowIs_made w (.bool false) m 4).of_block (by first | exact hb3.block _ (by first | (simp; done) | (simp; omega)) | exact (hb3.block _ (by first | (simp; done) | (simp; omega))).trans (Below.heap_alloc _ _ _ (by simp)))))
           (try have HM1 : Hid (w3.rowIs (w.heap.size + 1) 4 m (fun _ => .bool false)) := Lib.hid (by have h := World.rowIs_made (w.alloc Z5) (.bool false) m 4; simp only [World.size_alloc] at h; exact h.of_block (hb3.block _ (by first | (simp; done) | (simp; omega)))))
           have HZX := Lib.hid ((R5.new (w := w3) (v0 := nilS) (v1 := nilS) (v2 := nilS) (v3 := nilS) (v4 := nilS) (t := 50)).block (Below.heap_alloc _ (MB m) _ (by simp)) (by simp)); have x0 := HZX.out.c0; have x1 := HZX.out.c1; have x2 := HZX.out.c2; have x3 := HZX.out.c3; have x4 := HZX.out.c4; have g0 := HZX.out.f 0; have g1 := HZX.out.f 1; have g2 := HZX.out.f 2; have g3 := HZX.out.f 3; have g4 := HZX.out.f 4
           first
             | (have HZ : Hid (R5 w3 w.heap.size nilS nilS nilS nilS nilS) := Lib.hid ((R5.new (w := w) (t := 50)).block (by first | exact hb3.block _ (by first | (simp; done) | (simp; omega)) | exact (hb3.block _ (by first | (simp; done) | (simp; omega))).trans (Below.heap_alloc _ _ _ (by simp))) (by have := hb3.size; simp at this ⊢; omega)); have z0 := HZ.out.c0; have z1 := HZ.out.c1; have z2 := HZ.out.c2; have z3 := HZ.out.c3; have z4 := HZ.out.c4; have f0 := HZ.out.f 0; have f1 := HZ.out.f 1; have f2 := HZ.out.f 2; have f3 := HZ.out.f 3; have f4 := HZ.out.f 4
                have HZM := Lib.hid (HZ.out.block (Below.heap_alloc w3 (MB m) _ HZ.out.lt) (by simp)); have y0 := HZM.out.c0; have y1 := HZM.out.c1; have y2 := HZM.out.c2; have y3 := HZM.out.c3; have y4 := HZM.out.c4; have e0 := HZM.out.f 0; have e1 := HZM.out.f 1; have e2 := HZM.out.f 2; have e3 := HZM.out.f 3; have e4 := HZM.out.f 4)
             | (have HZB : Hid (R5 w3 (w.heap.size + 1) nilS nilS nilS nilS nilS) := Lib.hid (by have h := (R5.new (w := w.alloc (MB m)) (v0 := nilS) (v1 := nilS) (v2 := nilS) (v3 := nilS) (v4 := nilS) (t := 50)); simp only [World.size_alloc] at h; exact h.block (hb3.block _ (by first | (simp; done) | (simp; omega))) (by have := hb3.size; simp at this ⊢; omega)); have z0 := HZB.out.c0; have z1 := HZB.out.c1; have z2 := HZB.out.c2; have z3 := HZB.out.c3; have z4 := HZB.out.c4; have f0 := HZB.out.f 0; have f1 := HZB.out.f 1; have f2 := HZB.out.f 2; have f3 := HZB.out.f 3; have f4 := HZB.out.f 4)
             | skip
           clear hb3 hi3 hn3)
        | fail)
    all_goals
      go_wp2
      go_meet
      case rel =>
        first
          | (have _ := HZ; have _ := HM1; exact head_of HZ.out HM1.out HI3.out ⟨Nat.le_refl _, Nat.le_succ _, by omega, fun a ha => ⟨(HN.out a ha).1, HA1.out a ha, HA2.out a ha⟩⟩ HBW.out)
          | (have _ := HZ; exact head_of HZM.out (World.rowIs_made w3 _ _ _) (ins_below HI3.out (below_one _ _)) ⟨Nat.le_refl _, HW.out, by have := HZ.out.lt; omega, fun a ha => ⟨(HN.out a ha).1, HA1.out a ha, by have := (HN.out a ha).2; omega⟩⟩ (HBW.out.alloc HW.out _))
          | (have _ := HZB; exact head_of HZB.out HM0.out HI3.out ⟨by omega, Nat.le_refl _, by omega, fun a ha => ⟨(HN.out a ha).1, HA2.out a ha, HA1.out a ha⟩⟩ HBW.out)
          | (have _ := HM0; exact head_new HM0.out HI3.out ⟨Nat.le_refl _, fun a ha => ⟨(HN.out a ha).1, (HN.out a ha).2, HA1.out a ha⟩⟩ HBW.out)
          | exact head_one A m c (spansL e) B3 d3 HBW.out HI3.out HN.out
          | exact head_two A m c (spansL e) B3 d3 HBW.out HI3.out HN.out
  case rest =>
    obtain ⟨rb, nb, Bb, d, rfl, hr5, hnr, hins, hsz, hb1⟩ := hcut
    have HR5 := Lib.hid hr5
    have HNR := Lib.hid hnr
    have HINS := Lib.hid hins
    have HSZ := Lib.hid hsz
    have HB1 := Lib.hid hb1
    have c1 := hr5.c1
    have c2 := hr5.c2
    obtain ⟨z, HZ⟩ : ∃ z, Hid (isF e = z) := ⟨_, Lib.hid rfl⟩
    clear hr5 hnr hins hsz hb1 hmk
    cases z with
    | false =>
      have hl : (spansL e).length = 0 := by unfold spansL; rw [HZ.out]; rfl
      rw [hl] at c1
      clear hl
      have HE : Hid (L = []) := Lib.hid (by rw [HLL.out]; unfold nfL; rw [HZ.out]; rfl)
      go_wp2
      refine leaves_marks (fun V => V = wc) (fun V _ => results_tmp rfl _ _ V) (fun V hV => ?_) [] wc List.nodup_nil (fun E hE => by simp at hE) (fun E hE => by simp at hE) rfl
      subst hV
      exact ⟨none, 0, by rw [HE.out]; rfl, by rw [HE.out]; exact fun h => absurd h (by simp), by rw [HE.out]; exact Nat.le_refl _, HB1.out⟩
    | true =>
      have hl : (spansL e).length = m := by unfold spansL; rw [HZ.out, HM.out]; exact outF_len _ _
      rw [hl] at c1
      clear hl
      have HPOS : Hid (0 < m) := Lib.hid (by rw [HM.out]; exact (whole_last (isF_iff.1 HZ.out)).1)
      obtain ⟨m1, rfl⟩ : ∃ m1, m = m1 + 1 := ⟨m - 1, by have := HPOS.out; omega⟩
      have hm0 : (((m1 + 1 : Nat) : Int) == 0) = false := by rw [beq_eq_false_iff_ne]; omega
      have hm1 : ((m1 + 1 : Nat) : Int) - 1 = (m1 : Int) := by omega
      have g0 := HNR.out.cell (i := m1) (by omega)
      have f0 := HNR.out.frozen m1
      go_upto_region 5 with (fail)
      obtain ⟨wA, HWA⟩ : ∃ wA, wA = wc.setCell ⟨nb, m1, none⟩ (.bool ng) := ⟨_, rfl⟩
      rw [← HWA]
      have HZA : Hid (wA.heap.size = wc.heap.size) := Lib.hid (by rw [HWA]; simp)
      have HBA : Hid (Below w.heap.size w wA) := Lib.hid (by rw [HWA]; exact HB1.out.setCell (p := ⟨nb, m1, none⟩) HSZ.out.2.1 _)
      have HRA : Hid (R5 wA rb (.slice A (m1 + 1) c) (.slice Bb (m1 + 1) d) (.slice (some ⟨nb, 0, none⟩) (m1 + 1) (m1 + 1)) (.slice none 0 0) (.slice none 0 0)) := Lib.hid (by
        have h := HR5.out.block (w' := wA) (by rw [HWA]; exact Below.heap_setCell wc ⟨nb, m1, none⟩ _ rb (fun e => HSZ.out.2.2.1 e)) (by rw [HZA.out]; exact Nat.le_refl _)
        have hl : (spansL e).length = m1 + 1 := by unfold spansL; rw [HZ.out, HM.out]; exact outF_len _ _
        rw [hl] at h
        exact h)
      have HNA : Hid (wA.rowIs nb 4 (m1 + 1) (fun k => .bool (((List.replicate e.length false).set (e.length - 1) ng).getD k false))) := Lib.hid (by
        rw [HWA]
        refine (HNR.out.set m1 (.bool ng)).congr (fun k hk => ?_)
        rw [← HM.out, Nat.add_sub_cancel]
        by_cases hkm : k = m1
        · subst hkm
          rw [if_pos rfl, set_same (by simp)]
        · rw [if_neg hkm, set_other hkm]
          simp only [List.getD, List.getElem?_replicate]
          split <;> rfl)
      have HSL : Hid (spansL e = outF e e.length) := Lib.hid (spansL_is (isF_iff.1 HZ.out))
      have HIN : Hid (InS wA Bb d (outF e e.length)) := Lib.hid (by
        have h := ins_set HINS.out nb m1 (.bool ng) (fun a ha => (HSZ.out.2.2.2 a ha).2.2)
        rw [HSL.out, ← HWA] at h
        exact h)
      clear HWA c1 c2 g0 f0
      go_wp2_with fail
      refine (backward_any A (m1 + 1) c wA).mono ?_
      rintro x wB ⟨rfl, hwB⟩
      have HWB := Lib.hid hwB
      have HBB : Hid (Below wA.heap.size wA wB) := Lib.hid (by rw [hwB]; exact below_one _ _)
      have HZB : Hid (wB.heap.size = wA.heap.size + 1) := Lib.hid (by rw [hwB]; simp)
      obtain ⟨F, HF0⟩ : ∃ F : Fx, F = ⟨rb, nb, wA.heap.size + 1, m1 + 1, A, c, Bb, d, e, outF e e.length⟩ := ⟨_, rfl⟩
      have HBX : Hid (wB.heap[wA.heap.size]? = some (.cells #[.slice A (m1 + 1) c] 22 (0, 0))) := Lib.hid (by rw [hwB]; exact World.alloc_heap_new _ _)
      have HAB : Hid (∀ a, A = some a → a.block < w.heap.size) := Lib.hid (fun a ha => by
        obtain ⟨b, o, e1, hb, _⟩ := HA.out (by rw [← HM.out]; omega)
        rw [ha] at e1
        injection e1 with e1
        subst e1
        exact hb)
      have HBI : Hid (∀ a, Bb = some a → a.block < wA.heap.size) := Lib.hid (fun a ha => by
        obtain ⟨b, o, e1, hb, _⟩ := HIN.out.ia (by rw [outF_len, ← HM.out]; omega)
        rw [ha] at e1
        injection e1 with e1
        subst e1
        exact hb)
      have HW0 : Hid (WrW F wB ⟨(List.replicate e.length false).set (e.length - 1) ng, [], []⟩ (.slice none 0 0) (.slice none 0 0)) := Lib.hid (by
        subst HF0
        have hw9 := HBA.out.size
        have hrl := HRA.out.lt
        have hnl := HNA.out.lt
        have hsz := HSZ.out
        have hg := HF.out.lt
        exact { c := HRA.out.block (HBB.out.block _ hrl) HBB.out.size, n := HNA.out.of_block (HBB.out.block _ hnl), nl := by simp [HM.out], wt := World.ownsRow_nil _ _ _ _, wo := World.ownsRow_nil _ _ _ _, a := (HA.out.below HBA.out).below HBB.out, b := HIN.out.ia.turn (T := fun _ => False) (Turn.of_below HBB.out) (fun _ _ h => h), fm := (HF.out.below HBA.out).below HBB.out, ml := HM.out, bl := by rw [outF_len]; exact HM.out,
                na := fun a ha => by have := HAB.out a ha; unfold TT; dsimp only; omega, nbb := fun a ha => by have h1 := HBI.out a ha; have h2 := hsz.2.2.2 a ha; unfold TT; dsimp only; omega, ng := by unfold TT; dsimp only; omega, rn := hsz.2.2.1, rl := by dsimp only; omega, nlt := by dsimp only; omega, sz := by rw [HZB.out]; exact Nat.le_refl _, mx := hm2 })
      have HFB : Hid (F.rb = rb ∧ F.nb = nb ∧ F.B0 = wA.heap.size + 1 ∧ F.e = e ∧ F.B = outF e e.length ∧ F.m = m1 + 1) := Lib.hid (by rw [HF0]; exact ⟨rfl, rfl, rfl, rfl, rfl, rfl⟩)
      clear HF0 hwB
      go_wp2_with fail
      have HK : Hid (∀ q, KB A wA.heap.size q → q < wB.heap.size ∧ ¬ TT rb nb (wA.heap.size + 1) q) := Lib.hid (fun q hq => by
        have hw9 := HBA.out.size
        have hsz := HSZ.out
        have hrl := HRA.out.lt
        have hnl := HNA.out.lt
        rcases hq with ⟨a, ha, rfl⟩ | rfl
        · have := HAB.out a ha
          rw [HZB.out]
          unfold TT
          omega
        · rw [HZB.out]
          unfold TT
          have h1 : rb ≠ wA.heap.size := by omega
          have h2 : nb ≠ wA.heap.size := by omega
          omega)
      have HST := Lib.hid (back_stops wB wA.heap.size c (m1 + 1) A e HM.out hm2 ((HA.out.below HBA.out).below HBB.out) HBX.out)
      obtain ⟨S0, HS0⟩ : ∃ S0, Hid ((⟨(List.replicate e.length false).set (e.length - 1) ng, [], []⟩ : St) = S0) := ⟨_, Lib.hid rfl⟩
      rw [HS0.out] at HW0
      refine range_plain 6 (fun (x : Dn (m1 + 1)) => .int .i64 (x.i : Int)) (fun x => .agg #[.int .i64 (e.getD x.i (0, 0)).1, .int .i64 (e.getD x.i (0, 0)).2]) (gf := 41) (lb := #[.pointer (some ⟨wA.heap.size, 0, none⟩)]) rfl (enters_of Tryd.func41 (by kernel_rfl) rfl)
        HST.out KS.trans (KS.back (fun q hq => (HK.out q hq).1))
        (fun (pre : List (Dn (m1 + 1))) W => (∃ vw vo, WrW F W (runS e (outF e e.length) S0 (pre.map Dn.i)) vw vo) ∧ Turn (TT rb nb (wA.heap.size + 1)) wB W)
        (fun s W W' row h hg hr => ?own) ⟨⟨_, _, HW0.out⟩, Turn.refl _ _⟩ ?assign ?body ?done
      case own =>
        obtain ⟨⟨vw, vo, h1⟩, h2⟩ := h
        exact ⟨⟨vw, vo, h1.kept hg (fun r e => (hr r e).2)⟩, Turn.own _ wB () W W' row h2 hg hr⟩
      case assign =>
        intro l x W K hK
        obtain ⟨y, hy⟩ : ∃ y : Value, y = .agg #[.int .i64 (e.getD x.i (0, 0)).1, .int .i64 (e.getD x.i (0, 0)).2] := ⟨_, rfl⟩
        rw [← hy] at hK ⊢
        simp only [List.setIfInBounds_toArray, List.set_cons_zero, List.set_cons_succ] at hK ⊢
        clear hy
        gi_wp2
        exact hK
      case body =>
        rintro l pre x W ⟨⟨vw, vo, hW⟩, hT⟩ hlen
        have HW := Lib.hid hW
        have HT := Lib.hid hT
        have HLN : Hid ((runS e (outF e e.length) S0 (pre.map Dn.i)).w.length + (runS e (outF e e.length) S0 (pre.map Dn.i)).wt.length ≤ 3 * 1000) := Lib.hid (by
          have h := runS_len e (outF e e.length) (pre.map Dn.i) S0
          rw [List.length_map] at h
          have h2 : S0.w.length + S0.wt.length = 0 := by rw [← HS0.out]; rfl
          omega)
        have HXI : Hid (x.i < F.m) := Lib.hid (by rw [HFB.out.2.2.2.2.2]; exact x.lt)
        have HWE : Hid (wrF 0 F.e = 0) := Lib.hid (by rw [HFB.out.2.2.2.1]; exact isF_iff.1 HZ.out)
        have HBE : Hid (F.B = outF F.e F.e.length) := Lib.hid (by rw [HFB.out.2.2.2.2.1, HFB.out.2.2.2.1])
        have HNX : Hid (runS e (outF e e.length) S0 ((pre ++ [x]).map Dn.i) = leadF x.i (keepF F.e F.B (writeF F.e F.B (runS e (outF e e.length) S0 (pre.map Dn.i)) x.i) x.i)) := Lib.hid (by
          rw [List.map_append, runS_app, HFB.out.2.2.2.1, HFB.out.2.2.2.2.1]
          rfl)
        generalize runS e (outF e e.length) S0 (pre.map Dn.i) = S at *
        have H1 := Lib.hid (write_any F S vw vo x.i W HW.out HXI.out HWE.out HBE.out (by have := HLN.out; omega))
        rw [HFB.out.1] at H1
        generalize Value.agg #[.int .i64 (e.getD x.i (0, 0)).1, .int .i64 (e.getD x.i (0, 0)).2] = y
        simp only [List.setIfInBounds_toArray, List.set_cons_zero, List.set_cons_succ]
        clear hW hT
        gi_wp2_with fail
        refine ⟨trivial, ?_⟩
        refine (CallsIn.inRound l (callsIn_wide.2 H1.out)).mono ?_
        rintro r W1 ⟨rfl, ⟨vw1, vo1, hw1⟩, ht1⟩
        have HW1 := Lib.hid hw1
        have HT1 := Lib.hid ht1
        have HL1 : Hid ((writeF F.e F.B S x.i).w.length + (writeF F.e F.B S x.i).wt.length ≤ 3 * 1000 + 2) := Lib.hid (by have h1 := writeF_len F.e F.B S x.i; have := HLN.out; omega)
        generalize writeF F.e F.B S x.i = S1 at *
        have H2 := Lib.hid (keep_any F S1 vw1 vo1 x.i W1 HW1.out HXI.out (op_range HWE.out (by rw [← HW1.out.ml]; exact HXI.out)) (by have := HL1.out; omega))
        rw [HFB.out.1] at H2
        clear hw1 ht1 H1
        gi_wp2_with fail
        refine ⟨trivial, ?_⟩
        refine (CallsIn.inRound l (callsIn_wide.2 H2.out)).mono ?_
        rintro r W2 ⟨rfl, ⟨vw2, vo2, hw2⟩, ht2⟩
        have HW2 := Lib.hid hw2
        have HT2 := Lib.hid ht2
        have HL2 : Hid ((keepF F.e F.B S1 x.i).w.length + (keepF F.e F.B S1 x.i).wt.length ≤ 3 * 1000 + 3) := Lib.hid (by have h1 := keepF_len F.e F.B S1 x.i; have := HL1.out; omega)
        generalize keepF F.e F.B S1 x.i = S2 at *
        have H3 := Lib.hid (lead_any F S2 vw2 vo2 x.i W2 HW2.out (by have := HL2.out; omega))
        rw [HFB.out.1] at H3
        clear hw2 ht2 H2
        gi_wp2_with fail
        refine ⟨trivial, ?_⟩
        refine (CallsIn.inRound l (callsIn_wide.2 H3.out)).mono ?_
        rintro r W3 ⟨rfl, ⟨vw3, vo3, hw3⟩, ht3⟩
        have HW3 := Lib.hid hw3
        have HT3 : Hid (Wt F.rb F.nb F.B0 W W3) := Lib.hid ((HT1.out.trans HT2.out).trans ht3)
        clear hw3 ht3 H3
        have HTT : Hid (Turn (TT rb nb (wA.heap.size + 1)) W W3) := Lib.hid (by have h := HT3.out.t; rw [HFB.out.1, HFB.out.2.1, HFB.out.2.2.1] at h; exact h)
        gi_wp2
        refine ⟨⟨HT3.out.k.size, fun k o _ hk ho => HT3.out.k.same k o (Nat.zero_le _) hk ho⟩, fun q hq => ?_, ⟨vw3, vo3, by rw [HNX.out]; exact HW3.out⟩, HT.out.trans HTT.out⟩
        have h1 := HK.out q hq
        exact HTT.out.block q (Nat.lt_of_lt_of_le h1.1 HT.out.size) h1.2
      case done =>
        rintro D xs W hD hS ⟨⟨vw, vo, hW⟩, hT⟩ hDW
        have HW := Lib.hid hW
        have HT := Lib.hid hT
        have HDW := Lib.hid hDW
        rw [hS] at HW
        obtain ⟨S, HSS⟩ : ∃ S, Hid (runS e (outF e e.length) S0 (dn 0 (m1 + 1)) = S) := ⟨_, Lib.hid rfl⟩
        have HSS2 : Hid (runS e (outF e e.length) S0 (dn 0 e.length) = S) := Lib.hid (by have h := HSS.out; rw [HM.out] at h; exact h)
        rw [HSS.out] at HW
        have HE : Hid (L = S.w.reverse) := Lib.hid (by
          rw [HLL.out]
          unfold nfL
          rw [if_pos HZ.out, HS0.out, HSS2.out])
        have HLW : Hid (0 < S.w.length ∧ S.w.length ≤ 100000) := Lib.hid (by
          obtain ⟨t, _, _, _, _, h5⟩ := run_all (isF_iff.1 HZ.out) ng
          rw [HS0.out, HSS2.out] at h5
          have h6 := runS_len e (outF e e.length) (dn 0 (m1 + 1)) S0
          rw [HSS.out, dn_len] at h6
          have h2 : S0.w.length + S0.wt.length = 0 := by rw [← HS0.out]; rfl
          refine ⟨?_, by omega⟩
          rw [h5, List.length_reverse, post_len]
          exact sz_pos _)
        clear hW hT hDW hS
        obtain ⟨n, HN⟩ : ∃ n, Hid (n = S.w.length) := ⟨_, Lib.hid rfl⟩
        obtain ⟨g, cap, hvo⟩ : ∃ g cap, vo = .slice (some ⟨g, 0, none⟩) n cap := by
          have h' : W.ownsRow F.B0 38 2 vo S.w.length (flatR encN S.w) := HW.out.wo
          rcases Go.Joins.ownsRow_forms h' with ⟨_, h0⟩ | ⟨g, cap, h1⟩
          · have := HLW.out.1; omega
          · exact ⟨g, cap, by rw [h1, HN.out]⟩
        subst hvo
        have HGB : Hid (F.B0 ≤ g ∧ g < W.heap.size) := Lib.hid (World.ownsRow.lt HW.out.wo g rfl)
        have HFZ : Hid (∀ j, W.frozen? ⟨g, j, none⟩ = false) := Lib.hid (fun j => by
          have h' : W.ownsRow F.B0 38 2 (.slice (some ⟨g, 0, none⟩) n cap) S.w.length (flatR encN S.w) := HW.out.wo
          rw [← HN.out] at h'
          exact World.ownsRow.frozenAt h' j)
        have HCE : Hid (∀ i, i < n → W.cell? ⟨g, 0 + i * 2, none⟩ = some (.int .i64 (S.w.getD i (0, 0)).1) ∧ W.cell? ⟨g, 0 + i * 2 + 1, none⟩ = some (.int .i64 (S.w.getD i (0, 0)).2)) := Lib.hid (fun i hi => by
          obtain ⟨A9, c9, e9, hr9⟩ := OR.rs encN_len HW.out.wo
          injection e9 with e9
          subst e9
          obtain ⟨b8, o8, e8, _, hc8⟩ := rs_pa hr9 (by omega)
          injection e8 with e8
          injection e8 with e81 e82
          subst e81 e82
          exact hc8 i (by rw [← HN.out]; exact hi))
        have HREV := Lib.hid (reverse_any S.w g cap n W HN.out (by rw [HN.out]; exact HLW.out.2) HCE.out HFZ.out)
        have c4 := HW.out.c.c4
        rw [HFB.out.1] at c4
        go_wp2_with fail
        refine HREV.out.mono ?_
        rintro r W2 ⟨rfl, hrv, htv, hsv⟩
        have HRV := Lib.hid hrv
        have HTV := Lib.hid htv
        have HNG : Hid (rb ≠ g) := Lib.hid (by have h1 := HGB.out.1; rw [HFB.out.2.2.1] at h1; have h2 := HRA.out.lt; omega)
        have c4b := (HTV.out.cell (p := ⟨rb, 4, none⟩) (by have h := HW.out.c.lt; rw [HFB.out.1] at h; exact h) HNG.out).trans c4
        have HB2 : Hid (Below w.heap.size w W2) := Lib.hid (by
          have h0 : Below w.heap.size w wB := HBA.out.trans (HBB.out.mono HBA.out.size)
          have h1 : Below w.heap.size wB W := HT.out.below (fun k hk => by
            have h2 := HSZ.out
            have h3 := HBA.out.size
            unfold TT at hk
            omega) h0.size
          have h4 : Below w.heap.size W W2 := HTV.out.below (fun k hk => by
            have h5 := HGB.out.1
            rw [HFB.out.2.2.1] at h5
            have h3 := HBA.out.size
            have h6 : k = g := hk
            omega) (Nat.le_trans h0.size h1.size)
          exact (h0.trans h1).trans h4)
        have HD2 : Hid (W2.heap[D]? = some (.deferred (some []))) := Lib.hid ((HTV.out.block D (Array.getElem?_eq_some_iff.1 HDW.out).1 (fun e => by
          have h1 := (HCE.out 0 (by have := HLW.out.1; rw [HN.out]; exact this)).1
          obtain ⟨o, ho, hc⟩ := cells_of_cell h1
          have h9 : D = g := e
          rw [h9] at HDW
          have h2 := HDW.out
          dsimp only at ho
          rw [ho] at h2
          cases h2
          cases hc)).trans HDW.out)
        have HPA : Hid (PA W2 (some ⟨g, 0, none⟩) L) := Lib.hid (fun _ => ⟨g, 0, rfl, Nat.lt_of_lt_of_le HGB.out.2 HTV.out.size, fun i hi => by
          rw [Nat.zero_add, HE.out]
          exact HRV.out i (by rw [HE.out, List.length_reverse, ← HN.out] at hi; exact hi)⟩)
        have HCAP : Hid (n ≤ cap) := Lib.hid (by
          have h' := HW.out.wo
          rcases h'.2 with ⟨e2, h0⟩ | ⟨g2, cap2, cur, e2, _, _, h3, _⟩
          · have := HLW.out.1; omega
          · injection e2 with _ _ e3
            rw [← e3, ← HN.out] at h3
            exact h3)
        clear c4 hrv htv hsv
        go_wp2
        refine leaves_marks (fun V => PA V (some ⟨g, 0, none⟩) L ∧ Below w.heap.size w V) (fun V _ => results_tmp rfl _ _ V) (fun V hV => ?_) [D] W2 (List.nodup_cons.2 ⟨by simp, List.nodup_nil⟩) (fun E hE => ?_) (fun E hE V h hj => ?_) ⟨HPA.out, HB2.out⟩
        · refine ⟨some ⟨g, 0, none⟩, cap, ?_, hV.1, ?_, hV.2⟩
          · have h9 : L.length = n := by rw [HE.out, List.length_reverse, HN.out]
            rw [h9]
            rfl
          · rw [HE.out, List.length_reverse, ← HN.out]
            exact HCAP.out
        · obtain rfl : E = D := by simpa using hE
          exact HD2.out
        · obtain rfl : E = D := by simpa using hE
          obtain ⟨k1, k2⟩ := hj
          refine ⟨fun hn => ?_, k2.trans (belowK_b (w := w) (Nat.le_refl _) _ E _ (.deferred none) (by have h3 := HBA.out.size; have h4 := HBB.out.size; omega) h rfl rfl)⟩
          obtain ⟨b, off, e1, hlt, hc⟩ := k1 hn
          exact ⟨b, off, e1, by simpa using hlt, fun i hi => ⟨cell_kept (hc i hi).1 (grownBy_putObj' V E (.deferred none)) (fun r e => by cases e; exact ⟨_, h, rfl⟩), cell_kept (hc i hi).2 (grownBy_putObj' V E (.deferred none)) (fun r e => by cases e; exact ⟨_, h, rfl⟩)⟩⟩
end Go.Proofs.YtmdfiamffipbcaaDoor.nf
