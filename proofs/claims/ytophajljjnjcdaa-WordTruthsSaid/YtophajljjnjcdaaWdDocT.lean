/- The document's Truth. -/
import Derived.Test.YtophajljjnjcdaaWdDocD
import Derived.Test.YtophajljjnjcdaaWdTab
import Derived.Test.YtophajljjnjcdaaWdLong
import Derived.Test.YtophajljjnjcdaaWdTruth
import Derived.Deep.Cut
import Derived.Deep.CutRange
import Derived.Deep.RegionLaw
namespace Go.Proofs.Ytophajljjnjcdaa.wd
open Go.ChangeShapes Go.WideShapes Go.ChangeAt Go.RowKit Go.Deep sr lt nf

/-- A node's parts, as they stand on the stack; what is told of it. -/
theorem node_tr {e : List (Int × Int)} (h : wrF 0 e = 0) (sets : List Int) (s : Nat) {i : Nat} (hi : i < e.length) {st : List Int} (hok : Ok e i st) :
    (kT (e.getD i (0, 0)).1).toNat ≤ st.length ∧ Ok e (i + 1) (st.take (st.length - (kT (e.getD i (0, 0)).1).toNat) ++ [(i : Int)]) ∧ ((e.getD i (0, 0)).1 = 3 → 0 ≤ (e.getD i (0, 0)).2 ∧ (e.getD i (0, 0)).2 < 8) ∧
    ((kT (e.getD i (0, 0)).1 = 0 ∧ trJ e (outF e e.length) sets s i = plF (e.getD i (0, 0)) sets s [] []) ∨
     (kT (e.getD i (0, 0)).1 = 1 ∧ ∃ j : Nat, j < i ∧ st.drop (st.length - 1) = [(j : Int)] ∧ trJ e (outF e e.length) sets s i = plF (e.getD i (0, 0)) sets s (trJ e (outF e e.length) sets s j) []) ∨
     (kT (e.getD i (0, 0)).1 = 2 ∧ ∃ q j : Nat, q < i ∧ j < i ∧ st.drop (st.length - 2) = [(q : Int), (j : Int)] ∧ trJ e (outF e e.length) sets s i = plF (e.getD i (0, 0)) sets s (trJ e (outF e e.length) sets s q) (trJ e (outF e e.length) sets s j))) := by
  obtain ⟨st2, hok2, hnd2⟩ := Ok.of_is h i (by omega)
  obtain rfl := hok.uniq hok2
  have hnd := hnd2 hi
  obtain ⟨k1, k2, k3⟩ := ndW_ok hnd
  have hr := kT_range (e.getD i (0, 0)).1
  refine ⟨by omega, hok.next hi hnd, k3, ?_⟩
  have hB : ∀ x, x < i → (outF e e.length).getD x 0 = (outF e i).getD x 0 := fun x hx => outF_take e hx (by omega)
  obtain ⟨s0, s1, _, s3, s4, s5, s6⟩ := hok.1.takes (t := (kT (e.getD i (0, 0)).1).toNat) (by omega) (by omega)
  have hlast : trJ e (outF e e.length) sets s i = plF (e.getD i (0, 0)) sets s (if kT (e.getD i (0, 0)).1 = 0 then [] else if kT (e.getD i (0, 0)).1 = 1 then (trF e (outF e e.length) sets s i).getD (i - 1) [] else (trF e (outF e e.length) sets s i).getD (((outF e e.length).getD (i - 1) 0).toNat - 1) []) (if kT (e.getD i (0, 0)).1 = 2 then (trF e (outF e e.length) sets s i).getD (i - 1) [] else []) := trF_last e _ sets s i
  rcases node_cases h hi with ⟨g1, g2⟩ | ⟨j, v, rfl, g2, g3, g4, g5⟩ | ⟨j, q, v, rfl, g2, g3, g4, g5, g6⟩
  · exact .inl ⟨g1, by rw [hlast, if_pos g1, if_neg (by omega)]⟩
  · have ht : (kT (e.getD (j + 1) (0, 0)).1).toNat = 1 := by omega
    rw [ht] at s5
    obtain ⟨_, q2, q3, q4⟩ := s5 rfl
    exact .inr (.inl ⟨g3, j, by omega, by rw [q3]; rfl, by rw [hlast, if_neg (by omega), if_pos g3, if_neg (by omega), Nat.add_sub_cancel, trJ_keep _ _ _ _ (by omega)]⟩)
  · have ht : (kT (e.getD (j + 1) (0, 0)).1).toNat = 2 := by omega
    rw [ht] at s6
    obtain ⟨r, q1, q2, q3, q4, q5, _⟩ := s6 rfl
    have e1 : r = q + 1 := by
      have := hB j (by omega)
      rw [g6] at this
      simp only [Nat.add_sub_cancel] at q5
      omega
    subst e1
    exact .inr (.inr ⟨g4, q, j, by omega, by omega, by rw [q4]; rfl, by rw [hlast, if_neg (by omega), if_neg (by omega), if_pos g4, Nat.add_sub_cancel, g6, Int.toNat_natCast, Nat.add_sub_cancel, trJ_keep _ _ _ _ (by omega), trJ_keep _ _ _ _ (by omega)]⟩)
theorem trF_snoc (e : List (Int × Int)) (B sets : List Int) (s i : Nat) : trF e B sets s (i + 1) = trF e B sets s i ++ [trJ e B sets s i] := by
  unfold trJ
  rw [trF_last, trF]
set_option maxRecDepth 20000 in
/-- The head of a slice. -/
theorem head_rows (B : Option Addr) (left t d : Nat) (h : left + t ≤ d) (h2 : d ≤ maxLen) (W : World) : (Instr.sliceAt 34 (.slice B (left + t) d) none (some (.int .i64 (left : Int))) none).run Try.prog W = .ok (.slice B left d) W := by
  have hsz : (sizeOf (Try.prog.elem 34)).run Try.prog W = .ok 1 W := by simp [go_sem]
  have h3 : d ≤ 9223372036854775807 := by unfold maxLen at h2; omega
  rw [run_sliceAt_slice (P := Try.prog) W 34 _ _ _ _ Try.underlying34, run_slice_h (P := Try.prog) W 34 B (left + t) d Try.underlying34 .i64 left (by omega) (by omega), hsz]
  cases B <;> simp [Result.andThen, sliced, Addr.add]
/-- What the document's Truth leaves. -/
def RefTrY (w : World) (e : List (Int × Int)) (sets : List Int) (s n m : Nat) (r : Ending) (w' : World) : Prop :=
  ∃ b off oc, r = .returned (.slice (some ⟨b, off, none⟩) m oc) ∧ b < w'.heap.size ∧ Below w.heap.size w w' ∧ ∀ j, j < m → ∃ A' c', w'.cell? ⟨b, off + j, none⟩ = some (.slice A' n c') ∧ BL w' A' (trJ e (outF e e.length) sets s j)
def RefTr (w : World) (e : List (Int × Int)) (sets : List Int) (s q n m : Nat) (r : Ending) (w' : World) : Prop :=
  if okF e q = true then RefTrY w e sets s n m r w'
  else ValP w (.slice none 0 0) r w'
/-- The stack's rows. -/
def stL (e : List (Int × Int)) (sets : List Int) (s : Nat) (st : List Int) : List (List Bool) := st.map fun x => trJ e (outF e e.length) sets s x.toNat
theorem stL_len (e : List (Int × Int)) (sets : List Int) (s : Nat) (st : List Int) : (stL e sets s st).length = st.length := by simp [stL]
theorem stL_next (e : List (Int × Int)) (sets : List Int) (s : Nat) (st : List Int) (k i : Nat) : stL e sets s (st.take k ++ [(i : Int)]) = (stL e sets s st).take k ++ [trJ e (outF e e.length) sets s i] := by
  simp [stL, List.map_take]
theorem getD_drop {l d : List Int} {n k : Nat} (h : l.drop n = d) : l.getD (n + k) 0 = d.getD k 0 := by
  subst h
  simp [List.getD]
theorem stL_at {e : List (Int × Int)} {sets : List Int} {s : Nat} {st d : List Int} {n k j : Nat} (h : st.drop n = d) (hk : n + k < st.length) (hd : d.getD k 0 = (j : Int)) : (stL e sets s st).getD (n + k) [] = trJ e (outF e e.length) sets s j := by
  have h1 := getD_drop (k := k) h
  rw [hd] at h1
  unfold stL
  simp only [List.getD] at h1 ⊢
  rw [List.getElem?_map]
  rw [List.getElem?_eq_getElem hk] at h1 ⊢
  simp only [Option.getD_some, Option.map_some] at h1 ⊢
  rw [h1, Int.toNat_natCast]
theorem fresh_row {base : Nat} {w w5 : World} {sv ov : Value} {n p : Nat} {XS XO : List (Option Addr × Nat × Nat)} {LS LO : List (List Bool)} (h : TT base w sv ov n XS XO LS LO) (hp : w.heap.size ≤ p) (hp5 : p < w5.heap.size) :
    ∀ a, some (⟨p, 0, none⟩ : Addr) = some a → sv.ownBlock ≠ some a.block ∧ ov.ownBlock ≠ some a.block ∧ a.block < w5.heap.size := fun a ha => by
  injection ha with ha
  subst ha
  refine ⟨fun e => ?_, fun e => ?_, hp5⟩
  · have := (World.ownsRow.lt h.s.own _ e).2
    simp only at this
    omega
  · have := (World.ownsRow.lt h.o.own _ e).2
    simp only at this
    omega
set_option maxRecDepth 20000 in
set_option maxHeartbeats 1000000 in
theorem refTruth_any (e : List (Int × Int)) (x : WX) (st0 lp sets : List Int) (A : Option Addr) (c m n : Nat) (w : World) (hm : m = e.length) (hm2 : m ≤ 1000) (hA : PA w A e) (hX : WdR w x st0 lp) (hn : x.n + x.m = n) (hsets : st0 ++ lp = sets) :
    Calls Try.prog 17 #[.slice A m c, x.v] w (RefTr w e sets x.n x.m n m) := by
  have HCK := Lib.hid (fun W => refCheck_any x W hX.b1 hX.b2)
  have HLG := Lib.hid (fun W (hW : Below w.heap.size w W) => refLong_any e A c m W hm hm2 (hA.below hW))
  have HX := Lib.hid hX
  have HA := Lib.hid hA
  have HM := Lib.hid hm
  have HN := Lib.hid hn
  have HSE := Lib.hid hsets
  have HSL : Hid (sets.length = n) := Lib.hid (by rw [← hsets, List.length_append]; have := hX.n1; have := hX.n2; omega)
  have b1 := hX.b1
  have b2 := hX.b2
  clear hX hA hm hsets
  by_cases hq0 : x.m = 0
  · have hno : okF e x.m = false := by unfold okF; rw [decide_eq_false (by omega), Bool.and_false]
    unfold RefTr
    rw [hno]
    rw [show chkF x.m = 8 from if_pos hq0] at HCK
    clear HLG HX HN hn hno
    obtain ⟨P, s, pc, Q, q, qc⟩ := x
    unfold WX.v at HCK ⊢
    dsimp only at HCK hq0 ⊢
    subst hq0
    obtain ⟨w1, HW1, HB1, y1, y2⟩ : ∃ w1, w.alloc (.cells #[.slice P s pc, .slice Q 0 qc] 24) = w1 ∧ Hid (Below w.heap.size w w1) ∧ w1.cell? ⟨w.heap.size, 0, none⟩ = some (.slice P s pc) ∧ w1.cell? ⟨w.heap.size, 1, none⟩ = some (.slice Q 0 qc) :=
      ⟨_, rfl, Lib.hid (below_one _ _), World.cell?_alloc_at _ _ _ _ (by simp), World.cell?_alloc_at _ _ _ _ (by simp)⟩
    go_enter Try.func17, Try.ntmps17
    go_upto_region 1 with (fail)
    clear HW1
    go_wp2_with fail
    refine (HCK.out _).mono ?_
    rintro e2 w2 ⟨rfl, hb2⟩
    have HB2 := Lib.hid (HB1.out.trans (hb2.mono HB1.out.size))
    clear hb2 y1 y2
    go_wp2
    go_ret
    exact ⟨rfl, HB2.out⟩
  rw [show chkF x.m = 0 from if_neg hq0] at HCK
  by_cases hF : isF e = true
  · have hyes : okF e x.m = true := okF_iff.2 ⟨hF, by omega⟩
    suffices hsuf : Calls Try.prog 17 #[.slice A m c, x.v] w (RefTrY w e sets x.n n m) from hsuf.mono (fun r w' h => by unfold RefTr; rw [if_pos hyes]; exact h)
    have HWR := Lib.hid (isF_iff.1 hF)
    rw [hF] at HLG
    have hn0 : 0 < n := by omega
    have hm0 : 0 < m := by have := (whole_last (isF_iff.1 hF)).1; have := HM.out; omega
    have HLF := Lib.hid (fun op N W (hW : Below w.heap.size w W) hop hN => refLeaf_any x st0 lp sets op N n W (HX.out.below hW) hn (by omega) HSE.out hop hN)
    have HON := Lib.hid (fun op N a A c W hop ha hA => refOne_any x sets op N a A c n W b1 b2 hn (by omega) HSL.out hop ha hA)
    have HTW := Lib.hid (fun op N a b A B c d W hop ha hA hb hB => refTwo_any x sets op N a b A B c d n W b1 b2 hn (by omega) HSL.out hop ha hA hb hB)
    clear hyes hF HN HX HSE
    obtain ⟨P, s, pc, Q, q, qc⟩ := x
    unfold WX.v at HCK HLF HON HTW ⊢
    dsimp only at b1 b2 hn hq0 HCK HLF HON HTW ⊢
    obtain ⟨w1, HW1, HB1, HBX⟩ : ∃ w1, w.alloc (.cells #[.slice P s pc, .slice Q q qc] 24) = w1 ∧ Hid (Below w.heap.size w w1) ∧ Hid (∀ W, Below w1.heap.size w1 W → W.cell? ⟨w.heap.size, 0, none⟩ = some (.slice P s pc) ∧ W.cell? ⟨w.heap.size, 1, none⟩ = some (.slice Q q qc)) := by
      have e : (w.alloc (.cells #[.slice P s pc, .slice Q q qc] 24)).heap.size = w.heap.size + 1 := by simp
      exact ⟨_, rfl, Lib.hid (below_one _ _), Lib.hid (fun W h => ⟨(h.cell (p := ⟨w.heap.size, 0, none⟩) (by show w.heap.size < _; omega)).trans (World.cell?_alloc_at _ _ _ _ (by simp)), (h.cell (p := ⟨w.heap.size, 1, none⟩) (by show w.heap.size < _; omega)).trans (World.cell?_alloc_at _ _ _ _ (by simp))⟩)⟩
    have CV : Hid (∀ W, Below w1.heap.size w1 W → Below w.heap.size w W) := Lib.hid (fun W h => HB1.out.trans (h.mono HB1.out.size))
    obtain ⟨y1, y2⟩ := HBX.out w1 (Below.refl _ _)
    clear hn
    go_enter Try.func17, Try.ntmps17
    go_upto_region 1 with (fail)
    clear HW1
    go_wp2_with fail
    refine (HCK.out _).mono ?_
    rintro e2 w2 ⟨rfl, hb2⟩
    have HB2 : Hid (Below w1.heap.size w1 w2) := Lib.hid hb2
    clear hb2 y1 y2
    go_wp2_with fail
    refine (HLG.out w2 (CV.out w2 HB2.out)).mono ?_
    rintro e3 w3 ⟨rfl, rfl⟩
    go_wp2
    go_loopw [5, 6, 7] (fun ov sv iv wr => ∃ (i : Nat) (st : List Int) (XS XO : List (Option Addr × Nat × Nat)), i ≤ m ∧ iv = .int .i64 i ∧ Hid (Ok e i st) ∧ Hid (TT w1.heap.size wr sv ov n XS XO (stL e sets s st) (trF e (outF e e.length) sets s i)) ∧ Hid (Below w1.heap.size w1 wr)) (fun _ _ iv _ => m - (intOf iv).toNat)
    case atStart => exact ⟨0, [], [], [], Nat.zero_le _, rfl, Lib.hid (Ok.zero e), Lib.hid ⟨TR.nil _ _ _ _, TR.nil _ _ _ _⟩, HB2⟩
    case round =>
      clear HB2
      obtain ⟨i, st, XS, XO, hi, rfl, HOK, HT, HB⟩ := hrel
      obtain ⟨wo, rfl⟩ : ∃ wo, wo = wr := ⟨wr, rfl⟩
      obtain ⟨SA, sc, rfl, hs1, hs2, hS⟩ := HT.out.s.form
      obtain ⟨OA, oc, rfl, ho1, ho2, hO⟩ := HT.out.o.form
      obtain ⟨k, HK⟩ : ∃ k, Hid ((stL e sets s st).length = k) := ⟨_, Lib.hid rfl⟩
      have hol : (trF e (outF e e.length) sets s i).length = i := trF_len _ _ _ _ _
      rw [HK.out] at HT hs1 hS ⊢
      rw [hol] at HT ho1 hO ⊢
      have HSS := Lib.hid hS
      have HOO := Lib.hid hO
      clear hS hO hol
      by_cases hlt : i < m
      · have hlti : (i : Int) < m := by omega
        have HIE : Hid (i < e.length) := Lib.hid (by rw [← HM.out]; exact hlt)
        obtain ⟨u1, u2, u3, u4⟩ := node_tr HWR.out sets s HIE.out HOK.out
        obtain ⟨op, N, HXY⟩ : ∃ op N, Hid (e.getD i (0, 0) = (op, N)) := ⟨_, _, Lib.hid rfl⟩
        obtain ⟨ab, ao, rfl, hab, hac⟩ := (HA.out.below (CV.out wo HB.out)) (by have := HIE.out; omega)
        obtain ⟨c1, c2⟩ := hac i HIE.out
        have HNC : Hid (∀ W, Below wo.heap.size wo W → W.cell? ⟨ab, ao + i * 2, none⟩ = some (.int .i64 op) ∧ W.cell? ⟨ab, ao + i * 2 + 1, none⟩ = some (.int .i64 N)) := Lib.hid (fun W hW => by
          rw [HXY.out] at c1 c2
          exact ⟨(hW.cell (p := ⟨ab, ao + i * 2, none⟩) hab).trans c1, (hW.cell (p := ⟨ab, ao + i * 2 + 1, none⟩) hab).trans c2⟩)
        rw [HXY.out] at u1 u2 u3 u4 c1 c2
        dsimp only at u1 u2 u3 u4 c1 c2
        have HTL := Lib.hid (fun (j : Nat) (hj : j < e.length) => (tr_len HWR.out sets s hj).trans HSL.out)
        obtain ⟨L, HLE⟩ : ∃ L, Hid (trJ e (outF e e.length) sets s i = L) := ⟨_, Lib.hid rfl⟩
        have HOK2 := Lib.hid u2
        have HN3 := Lib.hid u3
        have hsl : st.length = k := by rw [← HK.out, stL_len]
        rw [HLE.out] at u4
        have HWZ : Hid (Below wo.heap.size wo wo) := Lib.hid (Below.refl _ _)
        have HTS := Lib.hid (trF_snoc e (outF e e.length) sets s i)
        rw [HLE.out] at HTS
        have HST := Lib.hid (fun k => stL_next e sets s st k i)
        rw [HLE.out] at HST
        rw [hsl] at u1 HOK2
        have HSTL := Lib.hid hsl
        have hk1000 : k ≤ 1000 := by
          have := HOK.out.1.len
          omega
        clear hac u2 u3 hsl
        rcases u4 with ⟨hk0, htr⟩ | ⟨hk1, j, hj, hdr, htr⟩ | ⟨hk2, q2, j, hq2, hj, hdr, htr⟩
        · have ho3 : op = 1 ∨ op = 2 ∨ op = 3 := by rcases kT_cases op with ⟨_, h⟩ | ⟨h, _⟩ | ⟨h, _⟩ | ⟨h, _⟩ <;> omega
          have hle3 : op ≤ 3 := by omega
          have HCALL := Lib.hid (fun W (hW : Below wo.heap.size wo W) => HLF.out op N W (CV.out W (HB.out.trans (hW.mono HB.out.size))) ho3 HN3.out)
          rw [← htr] at HCALL
          clear ho3
          rw [hk0] at HOK2
          have HSC : Hid (∀ W, Below wo.heap.size wo W → W.cell? ⟨ab, ao + i * 2, none⟩ = some (.int .i64 op) ∧ W.cell? ⟨ab, ao + i * 2 + 1, none⟩ = some (.int .i64 N) ∧ W.cell? ⟨w.heap.size, 0, none⟩ = some (.slice P s pc) ∧ W.cell? ⟨w.heap.size, 1, none⟩ = some (.slice Q q qc)) := Lib.hid (fun W hW => ⟨(HNC.out W hW).1, (HNC.out W hW).2, HBX.out W (HB.out.trans (hW.mono HB.out.size))⟩)
          clear u1 htr
          go_wp2_with fail
          clear c1 c2
          obtain ⟨c1, c2, c3, c4⟩ := HSC.out wo HWZ.out
          go_cut [10] from 19 to 90 (fun v W => ∃ p5, v = .slice (some ⟨p5, 0, none⟩) n n ∧ Hid (wo.heap.size ≤ p5) ∧ Hid (W.rowIs p5 4 n (fun j => .bool (L.getD j false))) ∧ Hid (Below wo.heap.size wo W))
          case first =>
            refine wp_region_noPanic ?_
            go_region_law
              (first
                | (rw [if_pos (by kernel_rfl)]; go_simp; go_at_call 32; refine (HCALL.out _ (by first | exact HWZ.out.drew | exact HWZ.out)).mono ?_; rintro e5 w5 ⟨_, p5, rfl, hp5, hr5, hb5⟩; have HP5 : Hid (wo.heap.size ≤ p5) := Lib.hid (by first | exact hp5 | exact Nat.le_trans HWZ.out.drew.size hp5); have HR5 := Lib.hid hr5; have HD5 : Hid (Below wo.heap.size wo w5) := Lib.hid (by first | exact HWZ.out.drew.trans hb5 | exact hb5); clear hp5 hr5 hb5)
                | fail)
            all_goals
              refine NoPanic.normal ?_
              go_wp2
              go_meet
              case rel => exact ⟨p5, rfl, HP5, HR5, HD5⟩
          case rest =>
            obtain ⟨p5, rfl, HP5, HO5, HD5⟩ := hcut
            clear c1 c2 c3 c4
            have HL5 : Hid (L.length = n) := Lib.hid (by rw [← HLE.out]; exact HTL.out i HIE.out)
            have HR5 := Lib.hid (bl_row HL5.out HO5.out)
            have HF5 := Lib.hid (fresh_row (w5 := wc) HT.out HP5.out HO5.out.lt)
            have HT5 : Hid (TT w1.heap.size wc (.slice SA k sc) (.slice OA i oc) n (XS.take k) XO ((stL e sets s st).take k) (trF e (outF e e.length) sets s i)) := Lib.hid (TT.below (TT.take HT.out k (by rw [HK.out]; exact Nat.le_refl _)) HD5.out)
            have HB5 : Hid (Below w1.heap.size w1 wc) := Lib.hid (HB.out.trans (HD5.out.mono HB.out.size))
            clear HCALL HSC HP5 HO5
            go_wp2_with (first
              | (at_builtin; refine list_append_row w1.heap.size _ rfl (.tmp 83) (.tmp 85) rfl rfl _ (XS.take k) rfl (TT.below HT5.out ((Below.refl _ _).alloc (Nat.le_refl _) _)).s.own (some ⟨p5, 0, none⟩) n n rfl (by have := HT.out.s.len; rw [List.length_take]; rw [HK.out] at this; omega) (by have := HB5.out.size; simp; omega) _ (World.alloc_heap_new _ _) ?_; intro v7 w7 ho7 hb7 hg7 h57; obtain ⟨ht7, hl7, hf7⟩ := TT.push (TT.below HT5.out ((Below.refl _ _).alloc (Nat.le_refl _) _)) ho7 hg7 h57 (HR5.out.below ((Below.refl _ _).alloc (Nat.le_refl _) _)) (fun a ha => ⟨(HF5.out a ha).1, (HF5.out a ha).2.1, by have := (HF5.out a ha).2.2; simp; omega⟩); have HT7 := Lib.hid ht7; have HL7 := Lib.hid hl7; have HF7 := Lib.hid hf7; have HB7 : Hid (Below w1.heap.size w1 w7) := Lib.hid ((HB5.out.alloc HB5.out.size _).trans hb7); clear ho7 hb7 hg7 h57 ht7 hl7 hf7)
              | (at_builtin; refine list_append_row w1.heap.size _ rfl (.tmp 87) (.tmp 89) rfl rfl _ XO rfl (TT.below HT7.out ((Below.refl _ _).alloc (Nat.le_refl _) _)).o.own (some ⟨p5, 0, none⟩) n n rfl (by have := HT.out.o.len; rw [trF_len] at this; omega) (by have := HB7.out.size; simp; omega) _ (World.alloc_heap_new _ _) ?_; intro v8 w8 ho8 hb8 hg8 h58; have HT8 := Lib.hid (TT.lay (TT.below HT7.out ((Below.refl _ _).alloc (Nat.le_refl _) _)) ho8 hg8 h58 (HL7.out.below ((Below.refl _ _).alloc (Nat.le_refl _) _)) (fun a ha => ⟨(HF7.out a ha).1, (HF7.out a ha).2.1, by have := (HF7.out a ha).2.2; simp; omega⟩)); have HB8 : Hid (Below w1.heap.size w1 w8) := Lib.hid ((HB7.out.alloc HB7.out.size _).trans hb8); clear ho8 hb8 hg8 h58)
              | fail)
            rw [← HTS.out, ← HST.out] at HT8
            go_roundw
            case rel => exact ⟨i + 1, _, _, _, by omega, by go_num, HOK2, HT8, HB8⟩
            case measure => simp [intOf]; omega
        · have hk1b := hk1
          have ho3 : op = 4 ∨ op = 8 ∨ op = 11 ∨ op = 12 := by rcases kT_cases op with ⟨h, _⟩ | ⟨_, h⟩ | ⟨h, _⟩ | ⟨h, _⟩ <;> omega
          have hle3 : ¬ op ≤ 3 := by omega
          obtain ⟨k1, HKK⟩ : ∃ k1, Hid (k = k1 + 1) := ⟨k - 1, Lib.hid (by rw [hk1] at u1; have : (1 : Int).toNat = 1 := rfl; omega)⟩
          have hkk := HKK.out
          rw [hk1, show k - (1 : Int).toNat = k1 by have := HKK.out; have : (1 : Int).toNat = 1 := rfl; omega] at HOK2
          rw [HSTL.out, hkk, Nat.add_sub_cancel] at hdr
          obtain ⟨b, off, rfl, hsb, hsc⟩ := HSS.out (by omega)
          obtain ⟨A1, d1, g1, g2⟩ := hsc k1 (by omega)
          have hat : (stL e sets s st).getD (k1 + 0) [] = trJ e (outF e e.length) sets s j := stL_at hdr (by rw [HSTL.out]; have := HKK.out; omega) rfl
          rw [Nat.add_zero] at hat
          rw [hat] at g2
          have HG2 := Lib.hid g2
          have HCALL := Lib.hid (fun W (hW : Below wo.heap.size wo W) => HON.out op N (trJ e (outF e e.length) sets s j) A1 d1 W ho3 (HTL.out j (by have := HIE.out; omega)) (HG2.out.below hW))
          rw [← htr] at HCALL
          have hhd := fun W => head_rows (some ⟨b, off, none⟩) k1 1 sc (by omega) hs2 W
          rw [← hkk] at hhd
          have hk1i : (k : Int) - 1 = (k1 : Int) := by omega
          have hk1b : (k1 : Int) < (k : Int) := by omega
          have hk1c : (0 : Int) ≤ (k1 : Int) := by omega
          have hk1d : k1 < k := by omega
          have hk1e : k1 ≤ 1000 := by omega
          have hwr6 : IntKind.i64.wrap (k1 : Int) = (k1 : Int) := by rw [IntWalk.i64_left]; unfold wrap64; omega
          clear hkk
          have HSC : Hid (∀ W, Below wo.heap.size wo W → W.cell? ⟨b, off + k1, none⟩ = some (.slice A1 n d1) ∧ W.cell? ⟨w.heap.size, 0, none⟩ = some (.slice P s pc) ∧ W.cell? ⟨w.heap.size, 1, none⟩ = some (.slice Q q qc)) := Lib.hid (fun W hW => ⟨(hW.cell (p := ⟨b, off + k1, none⟩) hsb).trans g1, HBX.out W (HB.out.trans (hW.mono HB.out.size))⟩)
          clear u1 htr hdr hat g1 g2 hsc
          go_upto_region 12 with (fail)
          go_cut [53] from 40 to 53 (fun v W => v = .bool true ∧ wo = W)
          case first =>
            rcases ho3 with rfl | rfl | rfl | rfl
            all_goals
              go_wp2
              go_meet
              case rel => exact ⟨rfl, rfl⟩
          case rest =>
            obtain ⟨rfl, rfl⟩ := hcut
            go_wp2_with fail
            clear c1 c2
            obtain ⟨c1, c3, c4⟩ := HSC.out wo HWZ.out
            go_cut [10] from 19 to 90 (fun v W => ∃ p5, v = .slice (some ⟨p5, 0, none⟩) n n ∧ Hid (wo.heap.size ≤ p5) ∧ Hid (W.rowIs p5 4 n (fun j => .bool (L.getD j false))) ∧ Hid (Below wo.heap.size wo W))
            case first =>
              refine wp_region_noPanic ?_
              go_region_law
                (first
                  | (rw [if_pos (by kernel_rfl)]; go_simp; go_at_call 33; refine (HCALL.out _ (by first | exact HWZ.out.drew | exact HWZ.out)).mono ?_; rintro e5 w5 ⟨_, p5, rfl, hp5, hr5, hb5⟩; have HP5 : Hid (wo.heap.size ≤ p5) := Lib.hid (by first | exact hp5 | exact Nat.le_trans HWZ.out.drew.size hp5); have HR5 := Lib.hid hr5; have HD5 : Hid (Below wo.heap.size wo w5) := Lib.hid (by first | exact HWZ.out.drew.trans hb5 | exact hb5); clear hp5 hr5 hb5)
                  | fail)
              all_goals
                refine NoPanic.normal ?_
                go_wp2
                go_meet
                case rel => exact ⟨p5, rfl, HP5, HR5, HD5⟩
            case rest =>
              obtain ⟨p5, rfl, HP5, HO5, HD5⟩ := hcut
              clear c1 c3 c4
              have HL5 : Hid (L.length = n) := Lib.hid (by rw [← HLE.out]; exact HTL.out i HIE.out)
              have HR5 := Lib.hid (bl_row HL5.out HO5.out)
              have HF5 := Lib.hid (fresh_row (w5 := wc) HT.out HP5.out HO5.out.lt)
              have HT5 : Hid (TT w1.heap.size wc (.slice (some ⟨b, off, none⟩) k1 sc) (.slice OA i oc) n (XS.take k1) XO ((stL e sets s st).take k1) (trF e (outF e e.length) sets s i)) := Lib.hid (TT.below (TT.take HT.out k1 (by rw [HK.out]; omega)) HD5.out)
              have HB5 : Hid (Below w1.heap.size w1 wc) := Lib.hid (HB.out.trans (HD5.out.mono HB.out.size))
              clear HCALL HSC HP5 HO5
              go_wp2_with (first
                | (at_builtin; refine list_append_row w1.heap.size _ rfl (.tmp 83) (.tmp 85) rfl rfl _ (XS.take k1) rfl (TT.below HT5.out ((Below.refl _ _).alloc (Nat.le_refl _) _)).s.own (some ⟨p5, 0, none⟩) n n rfl (by have := HT.out.s.len; rw [List.length_take]; rw [HK.out] at this; omega) (by have := HB5.out.size; simp; omega) _ (World.alloc_heap_new _ _) ?_; intro v7 w7 ho7 hb7 hg7 h57; obtain ⟨ht7, hl7, hf7⟩ := TT.push (TT.below HT5.out ((Below.refl _ _).alloc (Nat.le_refl _) _)) ho7 hg7 h57 (HR5.out.below ((Below.refl _ _).alloc (Nat.le_refl _) _)) (fun a ha => ⟨(fun e1 => (HF5.out a ha).1 (by first | exact e1 | (rw [own_slice _ _ _ k1 sc]; exact e1))), (HF5.out a ha).2.1, by have := (HF5.out a ha).2.2; simp; omega⟩); have HT7 := Lib.hid ht7; have HL7 := Lib.hid hl7; have HF7 := Lib.hid hf7; have HB7 : Hid (Below w1.heap.size w1 w7) := Lib.hid ((HB5.out.alloc HB5.out.size _).trans hb7); clear ho7 hb7 hg7 h57 ht7 hl7 hf7)
                | (at_builtin; refine list_append_row w1.heap.size _ rfl (.tmp 87) (.tmp 89) rfl rfl _ XO rfl (TT.below HT7.out ((Below.refl _ _).alloc (Nat.le_refl _) _)).o.own (some ⟨p5, 0, none⟩) n n rfl (by have := HT.out.o.len; rw [trF_len] at this; omega) (by have := HB7.out.size; simp; omega) _ (World.alloc_heap_new _ _) ?_; intro v8 w8 ho8 hb8 hg8 h58; have HT8 := Lib.hid (TT.lay (TT.below HT7.out ((Below.refl _ _).alloc (Nat.le_refl _) _)) ho8 hg8 h58 (HL7.out.below ((Below.refl _ _).alloc (Nat.le_refl _) _)) (fun a ha => ⟨(HF7.out a ha).1, (HF7.out a ha).2.1, by have := (HF7.out a ha).2.2; simp; omega⟩)); have HB8 : Hid (Below w1.heap.size w1 w8) := Lib.hid ((HB7.out.alloc HB7.out.size _).trans hb8); clear ho8 hb8 hg8 h58)
                | fail)
              rw [← HTS.out, ← HST.out] at HT8
              go_roundw
              case rel => exact ⟨i + 1, _, _, _, by omega, by go_num, HOK2, HT8, HB8⟩
              case measure => simp [intOf]; omega
        · have hk2b := hk2
          have ho3 : op = 5 ∨ op = 6 ∨ op = 7 ∨ op = 9 ∨ op = 10 := by rcases kT_cases op with ⟨h, _⟩ | ⟨h, _⟩ | ⟨_, h⟩ | ⟨h, _⟩ <;> omega
          have hle3 : ¬ op ≤ 3 := by omega
          have hn4 : ¬ op = 4 := by omega
          have hn8 : ¬ op = 8 := by omega
          have hn11 : ¬ op = 11 := by omega
          have hn12 : ¬ op = 12 := by omega
          obtain ⟨k2, HKK⟩ : ∃ k2, Hid (k = k2 + 2) := ⟨k - 2, Lib.hid (by rw [hk2] at u1; have : (2 : Int).toNat = 2 := rfl; omega)⟩
          have hkk := HKK.out
          rw [hk2, show k - (2 : Int).toNat = k2 by have := HKK.out; have : (2 : Int).toNat = 2 := rfl; omega] at HOK2
          rw [HSTL.out, hkk, Nat.add_sub_cancel] at hdr
          obtain ⟨b, off, rfl, hsb, hsc⟩ := HSS.out (by omega)
          obtain ⟨A1, d1, g1, g2⟩ := hsc k2 (by omega)
          obtain ⟨A2, d2, g3, g4⟩ := hsc (k2 + 1) (by omega)
          have hat : (stL e sets s st).getD (k2 + 0) [] = trJ e (outF e e.length) sets s q2 := stL_at hdr (by rw [HSTL.out]; have := HKK.out; omega) rfl
          rw [Nat.add_zero] at hat
          rw [hat] at g2
          have hat2 : (stL e sets s st).getD (k2 + 1) [] = trJ e (outF e e.length) sets s j := stL_at hdr (by rw [HSTL.out]; have := HKK.out; omega) rfl
          rw [hat2] at g4
          have HG2 := Lib.hid g2
          have HG4 := Lib.hid g4
          have HCALL := Lib.hid (fun W (hW : Below wo.heap.size wo W) => HTW.out op N (trJ e (outF e e.length) sets s q2) (trJ e (outF e e.length) sets s j) A1 A2 d1 d2 W ho3 (HTL.out q2 (by have := HIE.out; omega)) (HG2.out.below hW) (HTL.out j (by have := HIE.out; omega)) (HG4.out.below hW))
          rw [← htr] at HCALL
          have hhd := fun W => head_rows (some ⟨b, off, none⟩) k2 2 sc (by omega) hs2 W
          rw [← hkk] at hhd
          obtain ⟨k3, HK3, hk3⟩ : ∃ k3 : Nat, Hid (k3 = k2 + 1) ∧ k2 + 1 = k3 := ⟨_, Lib.hid rfl, rfl⟩
          rw [hk3] at g3
          have hk2i : (k : Int) - 2 = (k2 : Int) := by omega
          have hk2j : (k : Int) - 1 = (k3 : Int) := by omega
          have hk2b : (k2 : Int) < (k : Int) := by omega
          have hk2c : (0 : Int) ≤ (k2 : Int) := by omega
          have hk3b : (k3 : Int) < (k : Int) := by omega
          have hk3c : (0 : Int) ≤ (k3 : Int) := by omega
          have hk3d : k3 < k := by omega
          have hk2d : k2 < k := by omega
          have hk2e : k2 ≤ 1000 := by omega
          have hk3e : k3 ≤ 1000 := by omega
          have hwr6 : IntKind.i64.wrap (k2 : Int) = (k2 : Int) := by rw [IntWalk.i64_left]; unfold wrap64; omega
          have hwr8 : IntKind.i64.wrap (k3 : Int) = (k3 : Int) := by rw [IntWalk.i64_left]; unfold wrap64; omega
          clear hkk hk3
          have HSC : Hid (∀ W, Below wo.heap.size wo W → W.cell? ⟨b, off + k2, none⟩ = some (.slice A1 n d1) ∧ W.cell? ⟨b, off + k3, none⟩ = some (.slice A2 n d2) ∧ W.cell? ⟨w.heap.size, 0, none⟩ = some (.slice P s pc) ∧ W.cell? ⟨w.heap.size, 1, none⟩ = some (.slice Q q qc)) := Lib.hid (fun W hW => ⟨(hW.cell (p := ⟨b, off + k2, none⟩) hsb).trans g1, (hW.cell (p := ⟨b, off + k3, none⟩) hsb).trans g3, HBX.out W (HB.out.trans (hW.mono HB.out.size))⟩)
          clear u1 htr hdr hat hat2 g1 g2 g3 g4 hsc hn4 hn8 hn11 hn12
          go_upto_region 12 with (fail)
          go_cut [53] from 40 to 53 (fun v W => v = .bool false ∧ wo = W)
          case first =>
            rcases ho3 with rfl | rfl | rfl | rfl | rfl
            all_goals
              go_wp2
              go_meet
              case rel => exact ⟨rfl, rfl⟩
          case rest =>
            obtain ⟨rfl, rfl⟩ := hcut
            go_wp2_with fail
            clear c1 c2
            obtain ⟨c1, c2, c3, c4⟩ := HSC.out wo HWZ.out
            go_cut [10] from 19 to 90 (fun v W => ∃ p5, v = .slice (some ⟨p5, 0, none⟩) n n ∧ Hid (wo.heap.size ≤ p5) ∧ Hid (W.rowIs p5 4 n (fun j => .bool (L.getD j false))) ∧ Hid (Below wo.heap.size wo W))
            case first =>
              refine wp_region_noPanic ?_
              go_region_law
                (first
                  | (rw [if_pos (by kernel_rfl)]; go_simp; go_at_call 34; refine (HCALL.out _ (by first | exact HWZ.out.drew | exact HWZ.out)).mono ?_; rintro e5 w5 ⟨_, p5, rfl, hp5, hr5, hb5⟩; have HP5 : Hid (wo.heap.size ≤ p5) := Lib.hid (by first | exact hp5 | exact Nat.le_trans HWZ.out.drew.size hp5); have HR5 := Lib.hid hr5; have HD5 : Hid (Below wo.heap.size wo w5) := Lib.hid (by first | exact HWZ.out.drew.trans hb5 | exact hb5); clear hp5 hr5 hb5)
                  | fail)
              all_goals
                refine NoPanic.normal ?_
                go_wp2
                go_meet
                case rel => exact ⟨p5, rfl, HP5, HR5, HD5⟩
            case rest =>
              obtain ⟨p5, rfl, HP5, HO5, HD5⟩ := hcut
              clear c1 c2 c3 c4
              have HL5 : Hid (L.length = n) := Lib.hid (by rw [← HLE.out]; exact HTL.out i HIE.out)
              have HR5 := Lib.hid (bl_row HL5.out HO5.out)
              have HF5 := Lib.hid (fresh_row (w5 := wc) HT.out HP5.out HO5.out.lt)
              have HT5 : Hid (TT w1.heap.size wc (.slice (some ⟨b, off, none⟩) k2 sc) (.slice OA i oc) n (XS.take k2) XO ((stL e sets s st).take k2) (trF e (outF e e.length) sets s i)) := Lib.hid (TT.below (TT.take HT.out k2 (by rw [HK.out]; omega)) HD5.out)
              have HB5 : Hid (Below w1.heap.size w1 wc) := Lib.hid (HB.out.trans (HD5.out.mono HB.out.size))
              clear HCALL HSC HP5 HO5
              go_wp2_with (first
                | (at_builtin; refine list_append_row w1.heap.size _ rfl (.tmp 83) (.tmp 85) rfl rfl _ (XS.take k2) rfl (TT.below HT5.out ((Below.refl _ _).alloc (Nat.le_refl _) _)).s.own (some ⟨p5, 0, none⟩) n n rfl (by have := HT.out.s.len; rw [List.length_take]; rw [HK.out] at this; omega) (by have := HB5.out.size; simp; omega) _ (World.alloc_heap_new _ _) ?_; intro v7 w7 ho7 hb7 hg7 h57; obtain ⟨ht7, hl7, hf7⟩ := TT.push (TT.below HT5.out ((Below.refl _ _).alloc (Nat.le_refl _) _)) ho7 hg7 h57 (HR5.out.below ((Below.refl _ _).alloc (Nat.le_refl _) _)) (fun a ha => ⟨(fun e1 => (HF5.out a ha).1 (by first | exact e1 | (rw [own_slice _ _ _ k2 sc]; exact e1))), (HF5.out a ha).2.1, by have := (HF5.out a ha).2.2; simp; omega⟩); have HT7 := Lib.hid ht7; have HL7 := Lib.hid hl7; have HF7 := Lib.hid hf7; have HB7 : Hid (Below w1.heap.size w1 w7) := Lib.hid ((HB5.out.alloc HB5.out.size _).trans hb7); clear ho7 hb7 hg7 h57 ht7 hl7 hf7)
                | (at_builtin; refine list_append_row w1.heap.size _ rfl (.tmp 87) (.tmp 89) rfl rfl _ XO rfl (TT.below HT7.out ((Below.refl _ _).alloc (Nat.le_refl _) _)).o.own (some ⟨p5, 0, none⟩) n n rfl (by have := HT.out.o.len; rw [trF_len] at this; omega) (by have := HB7.out.size; simp; omega) _ (World.alloc_heap_new _ _) ?_; intro v8 w8 ho8 hb8 hg8 h58; have HT8 := Lib.hid (TT.lay (TT.below HT7.out ((Below.refl _ _).alloc (Nat.le_refl _) _)) ho8 hg8 h58 (HL7.out.below ((Below.refl _ _).alloc (Nat.le_refl _) _)) (fun a ha => ⟨(HF7.out a ha).1, (HF7.out a ha).2.1, by have := (HF7.out a ha).2.2; simp; omega⟩)); have HB8 : Hid (Below w1.heap.size w1 w8) := Lib.hid ((HB7.out.alloc HB7.out.size _).trans hb8); clear ho8 hb8 hg8 h58)
                | fail)
              rw [← HTS.out, ← HST.out] at HT8
              go_roundw
              case rel => exact ⟨i + 1, _, _, _, by omega, by go_num, HOK2, HT8, HB8⟩
              case measure => simp [intOf]; omega
      · obtain rfl : i = m := by omega
        have hlti : ¬ (i : Int) < i := by omega
        obtain ⟨b, off, rfl, hb, hc⟩ := HOO.out hm0
        have HCC := Lib.hid hc
        clear hc
        go_wp2
        go_ret
        exact ⟨b, off, oc, rfl, hb, CV.out _ HB.out, fun j hj => by
          obtain ⟨A', c', g1, g2⟩ := HCC.out j hj
          rw [trJ_keep _ _ _ _ hj] at g2
          exact ⟨A', c', g1, g2⟩⟩
  · have hF2 : isF e = false := by simpa using hF
    have hno : okF e x.m = false := by unfold okF; rw [hF2, Bool.false_and]
    unfold RefTr
    rw [hno]
    rw [hF2] at HLG
    clear HX HN hn hno hF hF2
    obtain ⟨P, s, pc, Q, q, qc⟩ := x
    unfold WX.v at HCK ⊢
    dsimp only at HCK ⊢
    obtain ⟨w1, HW1, HB1, y1, y2⟩ : ∃ w1, w.alloc (.cells #[.slice P s pc, .slice Q q qc] 24) = w1 ∧ Hid (Below w.heap.size w w1) ∧ w1.cell? ⟨w.heap.size, 0, none⟩ = some (.slice P s pc) ∧ w1.cell? ⟨w.heap.size, 1, none⟩ = some (.slice Q q qc) :=
      ⟨_, rfl, Lib.hid (below_one _ _), World.cell?_alloc_at _ _ _ _ (by simp), World.cell?_alloc_at _ _ _ _ (by simp)⟩
    go_enter Try.func17, Try.ntmps17
    go_upto_region 1 with (fail)
    clear HW1
    go_wp2_with fail
    refine (HCK.out _).mono ?_
    rintro e2 w2 ⟨rfl, hb2⟩
    have HB2 := Lib.hid (HB1.out.trans (hb2.mono HB1.out.size))
    clear hb2 y1 y2
    go_wp2_with fail
    refine (HLG.out w2 HB2.out).mono ?_
    rintro e3 w3 ⟨rfl, rfl⟩
    go_wp2
    go_ret
    exact ⟨rfl, HB2.out⟩
end Go.Proofs.Ytophajljjnjcdaa.wd
