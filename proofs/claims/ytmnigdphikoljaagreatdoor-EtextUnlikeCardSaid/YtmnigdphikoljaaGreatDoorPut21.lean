/- Contracts that the claim stands on, several texts in one: EtText. -/
import Derived.Test.YtmnigdphikoljaaGreatDoorPut1
import Derived.Test.YtmnigdphikoljaaGreatDoorPut2
import Derived.Test.YtmnigdphikoljaaGreatDoorPut3
import Derived.Test.YtmnigdphikoljaaGreatDoorPut4
import Derived.Test.YtmnigdphikoljaaGreatDoorPut5
import Derived.Test.YtmnigdphikoljaaGreatDoorPut6
import Derived.Test.YtmnigdphikoljaaGreatDoorPut7
import Derived.Test.YtmnigdphikoljaaGreatDoorPut8
import Derived.Test.YtmnigdphikoljaaGreatDoorPut9
import Derived.Test.YtmnigdphikoljaaGreatDoorPut10
import Derived.Test.YtmnigdphikoljaaGreatDoorPut11
import Derived.Test.YtmnigdphikoljaaGreatDoorPut12
import Derived.Test.YtmnigdphikoljaaGreatDoorPut13
import Derived.Test.YtmnigdphikoljaaGreatDoorPut14
import Derived.Test.YtmnigdphikoljaaGreatDoorPut15
import Derived.Test.YtmnigdphikoljaaGreatDoorPut16
import Derived.Test.YtmnigdphikoljaaGreatDoorPut17
import Derived.Test.YtmnigdphikoljaaGreatDoorPut18
import Derived.Test.YtmnigdphikoljaaGreatDoorPut19
import Derived.Test.YtmnigdphikoljaaGreatDoorPut20
namespace Go.Proofs.YtmnigdphikoljaaGreatDoor.et
open Go.ChangeShapes Go.WideShapes Go.ChangeAt Go.RowKit Go.Deep

set_option maxRecDepth 20000 in
theorem tells0_any (X : ScX) (N : Nm) (nd : Int × Int) (w : World) (h : NmR w X N) (hn : nmOf N nd.1 = none) :
    Calls Tryz.prog 19 #[X.v, .agg #[.int .i64 nd.1, .int .i64 nd.2]] w fun e w' => e = .returned (.bool (tellsB N nd)) ∧ Below w.heap.size w w' := by
  have HE : Hid (tellsB N nd = true) := Lib.hid (by unfold tellsB; rw [hn])
  have HO : Hid (nameOf N nd = none) := Lib.hid (by unfold nameOf; rw [hn]; rfl)
  have hb := bthen (below_alloc1 w (.cells #[.slice X.a1 X.n1 X.c1, .slice X.a2 X.n2 X.c2, .slice X.a3 X.n3 X.c3, .slice X.a4 X.n4 X.c4, .slice X.a5 X.n5 X.c5, .int .i64 X.self] 46)) (below_alloc1 _ (.cells #[.int .i64 nd.1, .int .i64 nd.2] 39))
  have HC := name_any X N nd _ (h.below hb) (fun l hl => by rw [hn] at hl; cases hl)
  have HB := Lib.hid hb
  rw [HO.out] at HC
  unfold ScX.v at HC ⊢
  have HC := Lib.hid HC
  clear h hn hb
  go_enter Tryz.func19, Tryz.ntmps19
  go_wp2_with fail
  refine HC.out.mono ?_
  rintro e w1 ⟨rfl, hb1⟩
  have HB1 := Lib.hid (bthen HB.out hb1)
  clear hb1
  go_wp2
  go_ret
  exact ⟨by rw [HE.out]; rfl, HB1.out⟩
theorem tells_any (X : ScX) (N : Nm) (nd : Int × Int) (w : World) (h : NmR w X N) (ht : There N nd) (hlens : ∀ op l, nmOf N op = some l → l.length ≤ 1000000) :
    Calls Tryz.prog 19 #[X.v, .agg #[.int .i64 nd.1, .int .i64 nd.2]] w fun e w' => e = .returned (.bool (tellsB N nd)) ∧ Below w.heap.size w w' := by
  cases hl : nmOf N nd.1 with
  | none => exact tells0_any X N nd w h hl
  | some l =>
    obtain ⟨h0, h9, hlt, hlen⟩ := ht l hl
    have hloc : N.locals.length ≤ 1000000 := hlens 4 _ rfl
    obtain ⟨op, n⟩ := nd
    dsimp only at h0 h9 hl
    have hk : placeF (op, n) = (((placeF (op, n)).toNat : Nat) : Int) := placeF_nat h0
    by_cases h2 : op = 2
    · subst h2; exact tells2_any X N n l _ w h hl h0 h9 hk hlt hlen hloc
    by_cases h3 : op = 3
    · subst h3; exact tells3_any X N n l _ w h hl h0 h9 hk hlt hlen hloc
    by_cases h4 : op = 4
    · subst h4; exact tells4_any X N n l _ w h hl h0 h9 hk hlt hlen hloc
    by_cases h6 : op = 6
    · subst h6; exact tells6_any X N n l _ w h hl h0 h9 hk hlt hlen hloc
    by_cases h7 : op = 7
    · subst h7; exact tells7_any X N n l _ w h hl h0 h9 hk hlt hlen hloc
    by_cases h8 : op = 8
    · subst h8; exact tells8_any X N n l _ w h hl h0 h9 hk hlt hlen hloc
    exfalso
    unfold nmOf at hl
    simp [h2, h3, h4, h6, h7, h8] at hl
theorem all_from {f : (Int × Int) → Bool} {l : List (Int × Int)} {k : Nat} (h : k < l.length) {b : Bool} (hb : (l.drop k).all f = b) : if f (l.getD k (0, 0)) = true then (l.drop (k + 1)).all f = b else b = false := by
  rw [drop_at (0, 0) h, List.all_cons] at hb
  split
  · rename_i e
    rw [e, Bool.true_and] at hb
    exact hb
  · rename_i e
    rw [Bool.not_eq_true] at e
    rw [e, Bool.false_and] at hb
    exact hb.symm
/-- What Text leaves. -/
def TextP (w : World) (r : ByteArray × Int) (e : Ending) (w' : World) : Prop := e = .returned (.tuple #[.string r.1, .int .i64 r.2]) ∧ Below w.heap.size w w'
set_option maxRecDepth 20000 in
set_option maxHeartbeats 4000000 in
theorem text_any (X : ScX) (S : Sc) (N : Nm) (e : List (Int × Int)) (A : Option Addr) (n c : Nat) (w : World) (hs : SR w X S) (hnm : NmR w X N) (hlens : ∀ op l, nmOf N op = some l → l.length ≤ 1000000) (hn : n = e.length) (hA : PA w A e) (hN : N64 e) (ht : Tabs w) :
    Calls Tryz.prog 10 #[.slice A n c, X.v] w (TextP w (textF S N e)) := by
  have hL := lens_of hs hnm hlens
  have hb1 := below_alloc1 w (.cells #[.slice X.a1 X.n1 X.c1, .slice X.a2 X.n2 X.c2, .slice X.a3 X.n3 X.c3, .slice X.a4 X.n4 X.c4, .slice X.a5 X.n5 X.c5, .int .i64 X.self] 28)
  have HB1 := Lib.hid hb1
  have HBX : Hid (Bx (w.alloc (.cells #[.slice X.a1 X.n1 X.c1, .slice X.a2 X.n2 X.c2, .slice X.a3 X.n3 X.c3, .slice X.a4 X.n4 X.c4, .slice X.a5 X.n5 X.c5, .int .i64 X.self] 28)) w.heap.size X) := Lib.hid (Bx.new w X 28)
  have HLX := Lib.hid hL
  have HLE := Lib.hid hlens
  have HN := Lib.hid hn
  have HN6 := Lib.hid hN
  have HA1 := Lib.hid (hA.below hb1)
  have HS1 := Lib.hid (hs.below hb1)
  have HM1 := Lib.hid (hnm.below hb1)
  have HT1 := Lib.hid (ht.below hb1)
  obtain ⟨kd, why, HK⟩ : ∃ a b, Hid (kindF S e = (a, b)) := ⟨_, _, Lib.hid rfl⟩
  clear hL hs hnm hlens hn hA hN ht hb1
  unfold ScX.v
  go_enter Tryz.func10, Tryz.ntmps10
  go_upto_region 1 with (fail)
  generalize hgn : w.heap.size = g at *
  generalize w.alloc (.cells #[.slice X.a1 X.n1 X.c1, .slice X.a2 X.n2 X.c2, .slice X.a3 X.n3 X.c3, .slice X.a4 X.n4 X.c4, .slice X.a5 X.n5 X.c5, .int .i64 X.self] 28) = w1 at *
  obtain ⟨⟨s0, s1, s2, s3, s4, s5⟩, _⟩ := HBX.out
  have HC := kind_any X S e A c n w1 HS1.out HN.out HA1.out HN6.out
  rw [HK.out] at HC
  unfold ScX.v at HC
  have HC := Lib.hid HC
  go_wp2_with fail
  refine HC.out.mono ?_
  rintro x w2 ⟨rfl, hb2⟩
  have HB2 := Lib.hid (HB1.out.trans (hb2.mono (by have := HB1.out.size; omega)))
  have HBX2 := Lib.hid (HBX.out.below hb2)
  have HA2 := Lib.hid (HA1.out.below hb2)
  have HM2 := Lib.hid (HM1.out.below hb2)
  have HT2 := Lib.hid (HT1.out.below hb2)
  clear s0 s1 s2 s3 s4 s5 hb2 HC
  dsimp only
  by_cases hw : why = 0
  · subst hw
    have hk : (kindF S e).2 = 0 := by rw [HK.out]
    obtain ⟨B, tr, hB, hBl, hpos, h24, hAt, hfl, htr⟩ := kind_tree hk
    have HTH : Hid (∀ nd ∈ e, There N nd) := Lib.hid (fun nd hn => by obtain ⟨ps, h1, _⟩ := kind_each hk nd hn; exact there_of HLX.out h1)
    obtain ⟨b, HAL⟩ : ∃ b, Hid (e.all (tellsB N) = b) := ⟨_, Lib.hid rfl⟩
    have HE : Hid (textF S N e = if b then (txt N tr, 0) else (⟨#[]⟩, 6)) := Lib.hid (by unfold textF; rw [if_pos hk, HAL.out, htr])
    have HGD : Hid (b = true → ∀ nd ∈ e, GoodN N nd) := Lib.hid (fun h => good_of HLX.out HN6.out hk (HAL.out.trans h))
    have HSP := Lib.hid hB
    have HBL := Lib.hid hBl
    have HAT := Lib.hid hAt
    have HFL := Lib.hid hfl
    have H24 := Lib.hid h24
    have HPOS := Lib.hid hpos
    clear hk hB hBl hAt hfl htr h24 hpos
    have hn24 : n ≤ 24 := by rw [HN.out]; exact H24.out
    have hn0 : 0 < n := by rw [HN.out]; exact HPOS.out
    go_wp2
    go_loopw [23] (fun i wr => ∃ k : Nat, k ≤ n ∧ i = .int .i64 (k : Nat) ∧ Hid (Below w2.heap.size w2 wr) ∧ Hid ((e.drop k).all (tellsB N) = b)) (fun i _ => n - (intOf i).toNat)
    case atStart => exact ⟨0, Nat.zero_le _, rfl, Lib.hid (Below.refl _ _), Lib.hid (by rw [List.drop_zero]; exact HAL.out)⟩
    case round =>
      obtain ⟨k, hk, rfl, HB, HF⟩ := hrel
      have hsr := HB.out.size
      have HBXr := Lib.hid (HBX2.out.below HB.out)
      have HAr := Lib.hid (HA2.out.below HB.out)
      have HMr := Lib.hid (HM2.out.below HB.out)
      have HTr := Lib.hid (HT2.out.below HB.out)
      have HBr := Lib.hid (HB2.out.trans (HB.out.mono (by have := HB2.out.size; omega)))
      by_cases hlt : k < n
      · have hi9 : (k : Int) < (n : Int) := by omega
        have hke : k < e.length := by rw [← HN.out]; exact hlt
        obtain ⟨ba, oa, hAA, hba, hc⟩ := HAr.out (by omega)
        obtain ⟨d0, d1⟩ := hc k hke
        have hF := all_from hke HF.out
        have HTHk := Lib.hid (HTH.out (e.getD k (0, 0)) (by
          have : e.getD k (0, 0) = e[k] := by simp [List.getD, hke]
          rw [this]
          exact List.getElem_mem hke))
        obtain ⟨nd, hnd⟩ : ∃ nd, e.getD k (0, 0) = nd := ⟨_, rfl⟩
        rw [hnd] at d0 d1 hF HTHk
        obtain ⟨op, q⟩ := nd
        dsimp only at d0 d1
        clear hc hba hnd hke
        subst hAA
        have hb7 := below_alloc1 wr (.cells #[.int .i64 op, .int .i64 q] 39)
        have HBX7 := Lib.hid (HBXr.out.below hb7)
        have HM7 := Lib.hid (HMr.out.below hb7)
        have HB7 := Lib.hid (HB.out.trans (hb7.mono hsr))
        have HNB : Hid ((wr.alloc (.cells #[.int .i64 op, .int .i64 q] 39)).heap[wr.heap.size]? = some (.cells #[.int .i64 op, .int .i64 q] 39 (0, 0))) := Lib.hid (World.alloc_heap_new wr _)
        clear hb7
        go_upto_region 7 with (fail)
        generalize hpb : wr.heap.size = pb at *
        generalize wr.alloc (.cells #[.int .i64 op, .int .i64 q] 39) = w7 at *
        obtain ⟨⟨s0, s1, s2, s3, s4, s5⟩, _⟩ := HBX7.out
        have y0 : w7.cell? ⟨pb, 0, none⟩ = some (.int .i64 op) := cell_of_heap HNB.out rfl
        have y1 : w7.cell? ⟨pb, 1, none⟩ = some (.int .i64 q) := cell_of_heap HNB.out rfl
        have HTC := tells_any X N (op, q) w7 HM7.out HTHk.out HLE.out
        obtain ⟨z, HZ⟩ : ∃ z, Hid (tellsB N (op, q) = z) := ⟨_, Lib.hid rfl⟩
        rw [HZ.out] at HTC hF
        unfold ScX.v at HTC
        have HTC := Lib.hid HTC
        clear d0 d1
        go_wp2_with fail
        refine HTC.out.mono ?_
        rintro x w8 ⟨rfl, hb8⟩
        have HB8 := Lib.hid (HB7.out.trans (hb8.mono (by have := HB7.out.size; omega)))
        clear s0 s1 s2 s3 s4 s5 y0 y1 hb8 HTC
        cases z with
        | false =>
          have HF2 : Hid (b = false) := Lib.hid (by simpa using hF)
          clear hF
          go_wp2
          refine bodyPost_ret (v := .tuple #[.string ⟨#[]⟩, .int .i64 6]) (by simp [results, Tryz.results10, go_sem]) rfl ⟨?_, ?_⟩
          · rw [HE.out, HF2.out]; rfl
          · rw [hgn]; exact HB2.out.trans (HB8.out.mono (by have := HB2.out.size; omega))
        | true =>
          have HF2 : Hid ((e.drop (k + 1)).all (tellsB N) = b) := Lib.hid (by simpa using hF)
          clear hF
          go_wp2
          go_roundw
          case rel => exact ⟨k + 1, by omega, by go_num, HB8, HF2⟩
          case measure => simp [intOf]; omega
      · obtain rfl : k = n := by omega
        have HT1 : Hid (b = true) := Lib.hid (by rw [← HF.out, HN.out, List.drop_length]; rfl)
        have hdb : ¬ (k : Int) < (k : Int) := by omega
        have HSC := spans_any e A c k wr HN.out (by omega) HAr.out
        rw [HSP.out] at HSC
        have HSC := Lib.hid HSC
        go_wp2_with fail
        refine HSC.out.mono ?_
        rintro x w3 ⟨hb3, A3, c3, rfl, hI3⟩
        have HBX3 := Lib.hid (HBXr.out.below hb3)
        have HA3 := Lib.hid (HAr.out.below hb3)
        have HM3 := Lib.hid (HMr.out.below hb3)
        have HT3 := Lib.hid (HTr.out.below hb3)
        have HB3 := Lib.hid (HBr.out.trans (hb3.mono (by have := HBr.out.size; omega)))
        have HI3 := Lib.hid hI3
        clear hb3 hI3 HSC
        obtain ⟨⟨s0, s1, s2, s3, s4, s5⟩, _⟩ := HBX3.out
        obtain ⟨k', rfl⟩ : ∃ k', k = k' + 1 := ⟨k - 1, by omega⟩
        obtain ⟨F, HFE⟩ : ∃ F : Wr, F = ⟨A, A3, k' + 1, c, B.length, c3, X, N, e, B⟩ := ⟨_, rfl⟩
        have hW : WrW F w3 := by
          rw [HFE]
          exact ⟨HN.out, rfl, HA3.out, HI3.out.ia, HM3.out, HT3.out, HBL.out, by have := H24.out; show e.length ≤ _; omega⟩
        have hP : PartK F k' (txt N tr) := by
          rw [HFE]
          refine part_all ⟨A, A3, k' + 1, c, B.length, c3, X, N, e, B⟩ (by have := H24.out; show e.length ≤ _; omega) (s := 0) (x := tr) ?_ (by rw [HFL.out]; exact HGD.out HT1.out)
          have := HAT.out
          rw [← HN.out, Nat.add_sub_cancel] at this
          exact this
        have HPC := hP w3 hW
        unfold Wr.v at HPC
        rw [HFE] at HPC
        dsimp only at HPC
        have HPC := Lib.hid HPC
        have HE2 : Hid (textF S N e = (txt N tr, 0)) := Lib.hid (by rw [HE.out, HT1.out]; rfl)
        have hk9 : (k' : Int) ≤ 100 := by omega
        clear hP hW HFE F
        go_wp2_with fail
        refine HPC.out.mono ?_
        rintro x w4 ⟨rfl, hb4⟩
        have HB4 := Lib.hid (HB3.out.trans (hb4.mono (by have := HB3.out.size; omega)))
        clear hb4 HPC s0 s1 s2 s3 s4 s5
        go_wp2
        refine bodyPost_ret (v := .tuple #[.string (txt N tr), .int .i64 0]) (by simp [results, Tryz.results10, go_sem]) rfl ⟨?_, ?_⟩
        · rw [HE2.out]
        · rw [hgn]; exact HB4.out
  · have HE : Hid (textF S N e = (⟨#[]⟩, why)) := Lib.hid (by unfold textF; rw [HK.out, if_neg hw])
    go_wp2
    refine bodyPost_ret (v := .tuple #[.string ⟨#[]⟩, .int .i64 why]) (by simp [results, Tryz.results10, go_sem]) rfl ⟨?_, ?_⟩
    · rw [HE.out]
    · rw [hgn]; exact HB2.out
end Go.Proofs.YtmnigdphikoljaaGreatDoor.et
