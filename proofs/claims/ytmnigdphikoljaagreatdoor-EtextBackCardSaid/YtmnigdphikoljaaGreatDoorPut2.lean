/- Contracts that the claim stands on, several texts in one: ExprWork, ExprScope. -/
import Derived.Deep.RegionHeld3
import Derived.Deep.Cut
import Derived.Test.YtmnigdphikoljaaGreatDoorPut1
namespace Go.Proofs.YtmnigdphikoljaaGreatDoor
open Go.ChangeShapes Go.WideShapes Go.ChangeAt Go.RowKit

/-- A slice of pairs of ints at address A (nil let in) reads as zs. -/
def PA (w : World) (A : Option Addr) (zs : List (Int × Int)) : Prop :=
  0 < zs.length → ∃ b off, A = some ⟨b, off, none⟩ ∧ b < w.heap.size ∧ ∀ i, i < zs.length → w.cell? ⟨b, off + i * 2, none⟩ = some (.int .i64 (zs.getD i (0, 0)).1) ∧ w.cell? ⟨b, off + i * 2 + 1, none⟩ = some (.int .i64 (zs.getD i (0, 0)).2)
theorem PA.turn {T : Nat → Prop} {w w' : World} {A : Option Addr} {zs : List (Int × Int)} (h : PA w A zs) (k : Turn T w w') (hT : ∀ a, A = some a → ¬ T a.block) : PA w' A zs := fun hn => by
  obtain ⟨b, off, e, hb, hc⟩ := h hn
  exact ⟨b, off, e, Nat.lt_of_lt_of_le hb k.size, fun i hi => ⟨(k.cell (p := ⟨b, off + i * 2, none⟩) hb (hT ⟨b, off, none⟩ e)).trans (hc i hi).1, (k.cell (p := ⟨b, off + i * 2 + 1, none⟩) hb (hT ⟨b, off, none⟩ e)).trans (hc i hi).2⟩⟩
theorem PA.below {w w' : World} {A : Option Addr} {zs : List (Int × Int)} (h : PA w A zs) (k : Below w.heap.size w w') : PA w' A zs := h.turn (T := fun _ => False) (Turn.of_below k) (fun _ _ h => h)

/-- What put is asked: of node number k. -/
def PutK (gf : Nat) (lb : Array Value) (T : Nat → Prop) (f : Nat → Int × Int → List Int → Int × Int) (e : List (Int × Int)) (I : Nat → List Int → World → Prop) (w : World) : Prop :=
  ∀ (k : Nat) (st : List Int) (W : World) (ov : Value) (B : Option Addr) (m c : Nat) (ps : List Int), k < e.length → I k st W → Turn T w W → OpV W w.heap.size (e.getD k (0, 0)).1 ov → (m : Int) = takesZ (e.getD k (0, 0)).1 → m = ps.length → m ≤ st.length → ps = st.drop (st.length - m) → IA W B ps → (∀ a, B = some a → w.heap.size ≤ a.block) →
    Calls Tryz.prog gf (#[.int .i64 k, ov, .slice B m c] ++ lb) W fun x W' => x = .returned (.tuple #[.int .i64 (f k (e.getD k (0, 0)) ps).1, .int .i64 (f k (e.getD k (0, 0)) ps).2]) ∧ ((f k (e.getD k (0, 0)) ps).2 = 0 → I (k + 1) (st.take (st.length - m) ++ [(f k (e.getD k (0, 0)) ps).1]) W') ∧ Turn T W W'
/-- What work leaves. -/
def WorkPost (T : Nat → Prop) (r : Int × Int) (n : Nat) (I : Nat → List Int → World → Prop) (w : World) (x : Ending) (W' : World) : Prop :=
  x = .returned (.tuple #[.int .i64 r.1, .int .i64 r.2]) ∧ (r.2 = 0 → I n [r.1] W') ∧ Turn T w W'

theorem tail_ia {w : World} {A : Option Addr} {l : List Int} {n c : Nat} (h : IA w A l) (hn : l.length ≤ c) : IA w (if c = n then A else A.map (·.add n)) (l.drop n) := fun h0 => by
  have h1 : n < l.length := by simp at h0; omega
  obtain ⟨b, off, rfl, hb, hc⟩ := h (by omega)
  rw [if_neg (by omega)]
  refine ⟨b, off + n, by simp [Addr.add], hb, fun i hi => ?_⟩
  have h2 : n + i < l.length := by simp at hi; omega
  rw [show off + n + i = off + (n + i) by omega, hc _ h2]
  simp [List.getD]

set_option maxRecDepth 20000 in
/-- The tail of a slice of ints, in one way. -/
theorem tail_run (B : Option Addr) (left t d : Nat) : ∃ B2, B2 = (if d = left then B else B.map (·.add left)) ∧ ∀ W, (Instr.sliceAt 48 (.slice B (left + t) d) (some (.int .i64 (left : Int))) none none).run Tryz.prog W = .ok (.slice B2 t (d - left)) W := by
  refine ⟨_, rfl, fun W => ?_⟩
  have hsz : (sizeOf (Tryz.prog.elem 48)).run Tryz.prog W = .ok 1 W := by simp [go_sem]
  rw [run_sliceAt_slice (P := Tryz.prog) W 48 _ _ _ _ Tryz.underlying48, run_slice_l (P := Tryz.prog) W 48 B (left + t) d Tryz.underlying48 .i64 left (by omega) (by omega), hsz]
  simp [Result.andThen, sliced]

set_option maxRecDepth 20000 in
/-- The head of a slice of ints. -/
theorem head_run (B : Option Addr) (left t d : Nat) (h : left + t ≤ d) (W : World) : (Instr.sliceAt 48 (.slice B (left + t) d) none (some (.int .i64 (left : Int))) none).run Tryz.prog W = .ok (.slice B left d) W := by
  have hsz : (sizeOf (Tryz.prog.elem 48)).run Tryz.prog W = .ok 1 W := by simp [go_sem]
  rw [run_sliceAt_slice (P := Tryz.prog) W 48 _ _ _ _ Tryz.underlying48, run_slice_h (P := Tryz.prog) W 48 B (left + t) d Tryz.underlying48 .i64 left (by omega) (by omega), hsz]
  cases B <;> simp [Result.andThen, sliced, Addr.add]

set_option maxRecDepth 20000 in
set_option maxHeartbeats 4000000 in
theorem work_any (gf : Nat) (lb : Array Value) (T : Nat → Prop) (f : Nat → Int × Int → List Int → Int × Int) (e : List (Int × Int)) (I : Nat → List Int → World → Prop) (A : Option Addr) (c m : Nat) (most : Int) (w : World)
    (hm : m = e.length) (hA : PA w A e) (hlm : m ≤ 1000) (hT : ∀ k, T k → k < w.heap.size) (hTA : ∀ a, A = some a → ¬ T a.block)
    (eg : ∀ args w, (callFunc gf args).run Tryz.prog w = .ok (.enter gf args) w) (hI : ∀ k st W W', I k st W → Turn T w W → Below w.heap.size W W' → I k st W') (hP : PutK gf lb T f e I w) (h0 : I 0 [] w) :
    Calls Tryz.prog 43 #[.slice A m c, .int .i64 most, .func (.func gf) #[] lb] w (WorkPost T (runF f most 0 e []) m I w) := by
  have HM := Lib.hid hm
  have HA := Lib.hid hA
  have HTT := Lib.hid hT
  have HTA := Lib.hid hTA
  have HI := Lib.hid hI
  have HP := Lib.hid hP
  have H0 := Lib.hid h0
  clear hm hA hT hTA hI hP h0
  go_enter Tryz.func43, Tryz.ntmps43
  go_wp2
  go_loopw [8, 18] (fun s i wr => ∃ (k n : Nat) (B : Option Addr) (d : Nat) (st : List Int), k ≤ m ∧ i = .int .i64 k ∧ s = .slice B n d ∧ Hid (n = st.length) ∧ n ≤ k ∧ Hid (OI w.heap.size wr (.slice B n d) st) ∧ Hid (Turn T w wr) ∧ Hid (I k st wr) ∧
    Hid (runF f most 0 e [] = runF f most k (e.drop k) st)) (fun _ i _ => m - (intOf i).toNat)
  case atStart => exact ⟨0, 0, none, 0, [], Nat.zero_le _, rfl, rfl, Lib.hid rfl, Nat.le_refl _, Lib.hid (OI.nil _ _), Lib.hid (Turn.refl _ _), H0, Lib.hid rfl⟩
  case round =>
    obtain ⟨k, n, B, d, st, hk, rfl, rfl, HN, hn, HS, HW, HIK, HR⟩ := hrel
    by_cases hlt : k < m
    · obtain ⟨b, o, rfl, hb, hc⟩ := (HA.out.turn HW.out HTA.out) (by rw [← HM.out]; omega)
      obtain ⟨c1, c2⟩ := hc k (by rw [← HM.out]; exact hlt)
      have HK : Hid (k < e.length) := Lib.hid (by rw [← HM.out]; exact hlt)
      obtain ⟨op, HOP⟩ : ∃ op, Hid ((e.getD k (0, 0)).1 = op) := ⟨_, Lib.hid rfl⟩
      rw [HOP.out] at c1
      generalize (e.getD k (0, 0)).2 = q at c2
      clear hc
      go_wp2_with fail
      refine (operationOf_any op _).mono ?_
      rintro x w1 ⟨hb1, h1⟩
      have HB1 := Lib.hid hb1
      have HB1W : Hid (Below wr.heap.size wr w1) := Lib.hid (((Below.refl _ _).alloc (Nat.le_refl _) _).trans (hb1.mono (by simp)))
      clear hb1 c1 c2
      rcases h1 with ⟨hneg, rfl⟩ | ⟨hpos, v, rfl, fv, rfl, hf⟩
      · have HE : Hid (runF f most 0 e [] = (0, 3)) := Lib.hid (by rw [HR.out, run_form HK.out (by rw [HOP.out]; exact hneg)])
        clear hneg
        go_wp2
        go_ret2
        refine ⟨by rw [HE.out]; rfl, by rw [HE.out]; exact fun h => absurd h (by decide), ?_⟩
        exact (HW.out.then_below (HB1W.out.mono HW.out.size)).then_below ((Below.refl _ _).alloc (by have := HW.out.size; have := HB1W.out.size; omega) _)
      · have HF := Lib.hid hf
        have hform := hf.form
        obtain ⟨t, HT⟩ : ∃ t : Nat, Hid (takesZ op = t) := ⟨(takesZ op).toNat, Lib.hid (by omega)⟩
        rw [HT.out]
        have ht2 : t ≤ 2 := by have := takesZ_range op; have := HT.out; omega
        obtain ⟨p1, HP1⟩ : ∃ p1, Hid (opOf op = p1) := ⟨_, Lib.hid rfl⟩
        obtain ⟨p2, HP2⟩ : ∃ p2, Hid (opTo op = p2) := ⟨_, Lib.hid rfl⟩
        rw [HP1.out, HP2.out]
        clear hpos hf
        by_cases hsh : n < t
        · have HE : Hid (runF f most 0 e [] = (0, 4)) := Lib.hid (by rw [HR.out, run_short HK.out (by rw [HOP.out, HT.out]; omega) (by rw [HOP.out, HT.out, ← HN.out]; omega)])
          have hsh2 : (n : Int) - t < 0 := by omega
          rcases hform with rfl | ⟨g, lb', rfl⟩
          all_goals
            go_wp2
            go_ret2
            refine ⟨by rw [HE.out]; rfl, by rw [HE.out]; exact fun h => absurd h (by decide), ?_⟩
            exact (HW.out.then_below (HB1W.out.mono HW.out.size)).then_below ((Below.refl _ _).alloc (by have := HW.out.size; have := HB1W.out.size; omega) _)
        · obtain ⟨left, rfl⟩ : ∃ left, n = left + t := ⟨n - t, by omega⟩
          clear hsh
          have hl1 : (left : Int) ≤ (left : Int) + (t : Int) := by omega
          have HDS : Hid (st.length ≤ d) := Lib.hid (by
            rcases HS.out.2 with ⟨e1, e2⟩ | ⟨g, cap, cur, e1, _, _, e3, _⟩
            · injection e1 with e1 e3 e4
              omega
            · injection e1 with e1 e3 e4
              omega)
          have HN2 : Hid (t = (st.drop left).length) := Lib.hid (by have := HN.out; simp; omega)
          obtain ⟨B2, hB2, EQ⟩ := tail_run B left t d
          have HIA : Hid (∀ W, Below wr.heap.size wr W → IA W B2 (st.drop left)) := Lib.hid (fun W hW => by
            rw [hB2]
            exact tail_ia ((OI.below HS.out hW).form.elim fun A' h => h.elim fun c' h => by
              obtain ⟨h1, h2⟩ := h
              injection h1 with h1
              rw [h1]; exact h2) HDS.out)
          have HBL : Hid (∀ a, B2 = some a → w.heap.size ≤ a.block) := Lib.hid (fun a ha => by
            rw [hB2] at ha
            rcases HS.out.2 with ⟨e1, _⟩ | ⟨g, cap, cur, e1, hg, _⟩
            · injection e1 with e1 _ _
              rw [e1] at ha
              split at ha <;> cases ha
            · injection e1 with e1 _ _
              rw [e1] at ha
              split at ha
              · injection ha with ha
                rw [← ha]; exact hg
              · injection ha with ha
                rw [← ha]; show w.heap.size ≤ (Addr.add ⟨g, 0, none⟩ left).block; rw [add_plain]; exact hg)
          clear hB2
          rcases hform with rfl | ⟨g, lb', rfl⟩
          · go_wp2_with fail
            have HB2 : Hid (Below wr.heap.size wr (w1.alloc (.cells #[.int .i64 t, .int .i64 p1, .int .i64 p2, .nilFunc] 90))) := Lib.hid (HB1W.out.alloc HB1W.out.size _)
            have hc0 : (w1.alloc (.cells #[.int .i64 t, .int .i64 p1, .int .i64 p2, .nilFunc] 90)).cell? ⟨w1.heap.size, 0, none⟩ = some (.int .i64 t) := World.cell?_alloc_at _ _ _ _ rfl
            have hc1 : (w1.alloc (.cells #[.int .i64 t, .int .i64 p1, .int .i64 p2, .nilFunc] 90)).cell? ⟨w1.heap.size, 1, none⟩ = some (.int .i64 p1) := World.cell?_alloc_at _ _ _ _ rfl
            have hc2 : (w1.alloc (.cells #[.int .i64 t, .int .i64 p1, .int .i64 p2, .nilFunc] 90)).cell? ⟨w1.heap.size, 2, none⟩ = some (.int .i64 p2) := World.cell?_alloc_at _ _ _ _ rfl
            have hc3 : (w1.alloc (.cells #[.int .i64 t, .int .i64 p1, .int .i64 p2, .nilFunc] 90)).cell? ⟨w1.heap.size, 3, none⟩ = some .nilFunc := World.cell?_alloc_at _ _ _ _ rfl
            have HF2 : Hid (OpF (w1.alloc (.cells #[.int .i64 t, .int .i64 p1, .int .i64 p2, .nilFunc] 90)) w.heap.size op .nilFunc) := Lib.hid ((HF.out.keep (by simp) (fun p _ h2 => ((Below.refl w1.heap.size w1).alloc (Nat.le_refl _) _).cell h2)).lower (by have := HW.out.size; simp; omega))
            have hbx : w1.heap.size < (w1.alloc (.cells #[.int .i64 t, .int .i64 p1, .int .i64 p2, .nilFunc] 90)).heap.size := by simp
            have hbw : wr.heap.size ≤ w1.heap.size := HB1W.out.size
            generalize w1.alloc (.cells #[.int .i64 t, .int .i64 p1, .int .i64 p2, .nilFunc] 90) = w2 at *
            generalize w1.heap.size = bx at *
            obtain ⟨r1, r2, HFR⟩ : ∃ r1 r2, Hid (f k (e.getD k (0, 0)) (st.drop left) = (r1, r2)) := ⟨_, _, Lib.hid rfl⟩
            have HCALL : Hid (Calls Tryz.prog gf (#[.int .i64 k, .agg #[.int .i64 t, .int .i64 p1, .int .i64 p2, .nilFunc], .slice B2 t (d - left)] ++ lb) w2.drew fun x W' =>
                x = .returned (.tuple #[.int .i64 r1, .int .i64 r2]) ∧ (r2 = 0 → I (k + 1) (st.take left ++ [r1]) W') ∧ Turn T w2.drew W') := Lib.hid (by
              have hBd : Below w.heap.size wr w2.drew := (HB2.out.mono HW.out.size).drew
              have h1 := HP.out k st w2.drew (.agg #[.int .i64 t, .int .i64 p1, .int .i64 p2, .nilFunc]) B2 t (d - left) (st.drop left) HK.out
                (HI.out k st wr _ HIK.out HW.out hBd) (HW.out.then_below hBd)
                ⟨.nilFunc, by rw [HOP.out, HT.out, HP1.out, HP2.out], by rw [HOP.out]; exact HF2.out⟩ (by rw [HOP.out, HT.out]) HN2.out (by have := HN.out; omega) (by rw [← HN.out, Nat.add_sub_cancel])
                (HIA.out _ HB2.out.drew) HBL.out
              rw [HFR.out, ← HN.out, Nat.add_sub_cancel] at h1
              exact h1)
            go_region_held3 (fun w' => w'.cell? ⟨bx, 0, none⟩ = some (.int .i64 t) ∧ w'.cell? ⟨bx, 1, none⟩ = some (.int .i64 p1) ∧ w'.cell? ⟨bx, 2, none⟩ = some (.int .i64 p2) ∧ w'.cell? ⟨bx, 3, none⟩ = some .nilFunc)
              (first | exact ⟨hc0, hc1, hc2, hc3⟩ | exact ⟨g0, g1, g2, g3⟩ | go_keep)
              ((refine HCALL.out.mono ?_; rintro x w3 ⟨rfl, hx1, hx2⟩; have HX1 := Lib.hid hx1; have HX2 := Lib.hid hx2; have hnT : ¬ T bx := (fun h => by have := HTT.out bx h; have := HW.out.size; omega); have g0 := (hx2.cell (p := ⟨bx, 0, none⟩) hbx hnT).trans hc0; have g1 := (hx2.cell (p := ⟨bx, 1, none⟩) hbx hnT).trans hc1; have g2 := (hx2.cell (p := ⟨bx, 2, none⟩) hbx hnT).trans hc2; have g3 := (hx2.cell (p := ⟨bx, 3, none⟩) hbx hnT).trans hc3; clear hx1 hx2))
            have HW3 : Hid (Turn T w w3) := Lib.hid (by
              have h2 := HX2.out
              exact (HW.out.then_below (HB2.out.mono HW.out.size).drew).trans ⟨h2.os, h2.tape, h2.output, h2.size, h2.block⟩)
            have HS3 : Hid (OI w.heap.size w3 (.slice B (left + t) d) st) := Lib.hid (OI.turn (OI.below HS.out HB2.out.drew) HX2.out HTT.out)
            have HDR : Hid ((f k (e.getD k (0, 0)) (st.drop (st.length - t))) = (r1, r2)) := Lib.hid (by rw [← HN.out, Nat.add_sub_cancel]; exact HFR.out)
            have HTK : Hid (takesZ (e.getD k (0, 0)).1 = t) := Lib.hid (by rw [HOP.out, HT.out])
            have HTL : Hid (t ≤ st.length) := Lib.hid (by have := HN.out; omega)
            have HLL : Hid (st.length - t = left) := Lib.hid (by have := HN.out; omega)
            clear hc0 hc1 hc2 hc3 g0 g1 g2 g3 hnT EQ hl1
            rename_i hHeld
            clear hHeld
            clear HCALL HF HF2 HIA
            by_cases hr : r2 = 0
            · subst hr
              have HI3 : Hid (I (k + 1) (st.take left ++ [r1]) w3) := Lib.hid (HX1.out rfl)
              have EH := head_run B left t d (by have := HDS.out; have := HN.out; omega)
              have hwz : w.heap.size ≤ w3.heap.size := HW3.out.size
              have HLX : Hid ((st.take left ++ [r1]).length = left + 1) := Lib.hid (by have := HN.out; simp; omega)
              have HO3 : Hid (OI w.heap.size w3 (.slice B left d) (st.take left)) := Lib.hid (HS3.out.head left (by have := HN.out; omega))
              go_upto_region 15 with (at_builtin; refine append_one rfl (.tmp 53) (.tmp 55) rfl w.heap.size _ (st.take left) rfl HO3.out r1 rfl (by have := HN.out; simp; omega) hwz ?_; intro v4 w4 ho4 hb4; obtain ⟨A4, c4, rfl, _⟩ := ho4.form; rw [HLX.out] at ho4 ⊢; have HO4 := Lib.hid ho4; have HB4 := Lib.hid hb4; clear ho4 hb4)
              clear EH
              by_cases hdp : most < (left : Int) + 1
              · have HE : Hid (runF f most 0 e [] = (0, 12)) := Lib.hid (by rw [HR.out]; exact run_deep HK.out HTK.out HTL.out (by rw [HDR.out]) (by rw [HLL.out]; exact hdp))
                go_wp2
                go_ret2
                refine ⟨by rw [HE.out]; rfl, by rw [HE.out]; exact fun h => absurd h (by decide), ?_⟩
                exact HW3.out.then_below HB4.out
              · have HE : Hid (runF f most 0 e [] = runF f most (k + 1) (e.drop (k + 1)) (st.take left ++ [r1])) := Lib.hid (by
                  rw [HR.out, run_next HK.out HTK.out HTL.out (by rw [HDR.out]) (by rw [HLL.out]; exact hdp), HDR.out, HLL.out])
                go_wp2
                go_roundw
                case rel => exact ⟨k + 1, left + 1, A4, c4, st.take left ++ [r1], by omega, by go_num, rfl, Lib.hid HLX.out.symm, by omega, HO4, Lib.hid (HW3.out.then_below HB4.out), Lib.hid (HI.out (k + 1) _ w3 w4 HI3.out HW3.out HB4.out), HE⟩
                case measure => simp [intOf]; omega
            · have hr2 : (r2 != 0) = true := by simpa using hr
              have HE : Hid (runF f most 0 e [] = (0, r2)) := Lib.hid (by rw [HR.out, run_why HK.out HTK.out HTL.out (by rw [HDR.out]; exact hr), HDR.out])
              go_wp2
              go_ret2
              refine ⟨by rw [HE.out]; rfl, by rw [HE.out]; exact fun h => absurd h hr, HW3.out⟩
          · go_wp2_with fail
            have HB2 : Hid (Below wr.heap.size wr (w1.alloc (.cells #[.int .i64 t, .int .i64 p1, .int .i64 p2, .func (.func g) #[] lb'] 90))) := Lib.hid (HB1W.out.alloc HB1W.out.size _)
            have hc0 : (w1.alloc (.cells #[.int .i64 t, .int .i64 p1, .int .i64 p2, .func (.func g) #[] lb'] 90)).cell? ⟨w1.heap.size, 0, none⟩ = some (.int .i64 t) := World.cell?_alloc_at _ _ _ _ rfl
            have hc1 : (w1.alloc (.cells #[.int .i64 t, .int .i64 p1, .int .i64 p2, .func (.func g) #[] lb'] 90)).cell? ⟨w1.heap.size, 1, none⟩ = some (.int .i64 p1) := World.cell?_alloc_at _ _ _ _ rfl
            have hc2 : (w1.alloc (.cells #[.int .i64 t, .int .i64 p1, .int .i64 p2, .func (.func g) #[] lb'] 90)).cell? ⟨w1.heap.size, 2, none⟩ = some (.int .i64 p2) := World.cell?_alloc_at _ _ _ _ rfl
            have hc3 : (w1.alloc (.cells #[.int .i64 t, .int .i64 p1, .int .i64 p2, .func (.func g) #[] lb'] 90)).cell? ⟨w1.heap.size, 3, none⟩ = some (.func (.func g) #[] lb') := World.cell?_alloc_at _ _ _ _ rfl
            have HF2 : Hid (OpF (w1.alloc (.cells #[.int .i64 t, .int .i64 p1, .int .i64 p2, .func (.func g) #[] lb'] 90)) w.heap.size op (.func (.func g) #[] lb')) := Lib.hid ((HF.out.keep (by simp) (fun p _ h2 => ((Below.refl w1.heap.size w1).alloc (Nat.le_refl _) _).cell h2)).lower (by have := HW.out.size; simp; omega))
            have hbx : w1.heap.size < (w1.alloc (.cells #[.int .i64 t, .int .i64 p1, .int .i64 p2, .func (.func g) #[] lb'] 90)).heap.size := by simp
            have hbw : wr.heap.size ≤ w1.heap.size := HB1W.out.size
            generalize w1.alloc (.cells #[.int .i64 t, .int .i64 p1, .int .i64 p2, .func (.func g) #[] lb'] 90) = w2 at *
            generalize w1.heap.size = bx at *
            obtain ⟨r1, r2, HFR⟩ : ∃ r1 r2, Hid (f k (e.getD k (0, 0)) (st.drop left) = (r1, r2)) := ⟨_, _, Lib.hid rfl⟩
            have HCALL : Hid (Calls Tryz.prog gf (#[.int .i64 k, .agg #[.int .i64 t, .int .i64 p1, .int .i64 p2, .func (.func g) #[] lb'], .slice B2 t (d - left)] ++ lb) w2.drew fun x W' =>
                x = .returned (.tuple #[.int .i64 r1, .int .i64 r2]) ∧ (r2 = 0 → I (k + 1) (st.take left ++ [r1]) W') ∧ Turn T w2.drew W') := Lib.hid (by
              have hBd : Below w.heap.size wr w2.drew := (HB2.out.mono HW.out.size).drew
              have h1 := HP.out k st w2.drew (.agg #[.int .i64 t, .int .i64 p1, .int .i64 p2, .func (.func g) #[] lb']) B2 t (d - left) (st.drop left) HK.out
                (HI.out k st wr _ HIK.out HW.out hBd) (HW.out.then_below hBd)
                ⟨_, by rw [HOP.out, HT.out, HP1.out, HP2.out], by rw [HOP.out]; exact HF2.out⟩ (by rw [HOP.out, HT.out]) HN2.out (by have := HN.out; omega) (by rw [← HN.out, Nat.add_sub_cancel])
                (HIA.out _ HB2.out.drew) HBL.out
              rw [HFR.out, ← HN.out, Nat.add_sub_cancel] at h1
              exact h1)
            go_region_held3 (fun w' => w'.cell? ⟨bx, 0, none⟩ = some (.int .i64 t) ∧ w'.cell? ⟨bx, 1, none⟩ = some (.int .i64 p1) ∧ w'.cell? ⟨bx, 2, none⟩ = some (.int .i64 p2) ∧ w'.cell? ⟨bx, 3, none⟩ = some (.func (.func g) #[] lb'))
              (first | exact ⟨hc0, hc1, hc2, hc3⟩ | exact ⟨g0, g1, g2, g3⟩ | go_keep)
              ((refine HCALL.out.mono ?_; rintro x w3 ⟨rfl, hx1, hx2⟩; have HX1 := Lib.hid hx1; have HX2 := Lib.hid hx2; have hnT : ¬ T bx := (fun h => by have := HTT.out bx h; have := HW.out.size; omega); have g0 := (hx2.cell (p := ⟨bx, 0, none⟩) hbx hnT).trans hc0; have g1 := (hx2.cell (p := ⟨bx, 1, none⟩) hbx hnT).trans hc1; have g2 := (hx2.cell (p := ⟨bx, 2, none⟩) hbx hnT).trans hc2; have g3 := (hx2.cell (p := ⟨bx, 3, none⟩) hbx hnT).trans hc3; clear hx1 hx2))
            have HW3 : Hid (Turn T w w3) := Lib.hid (by
              have h2 := HX2.out
              exact (HW.out.then_below (HB2.out.mono HW.out.size).drew).trans ⟨h2.os, h2.tape, h2.output, h2.size, h2.block⟩)
            have HS3 : Hid (OI w.heap.size w3 (.slice B (left + t) d) st) := Lib.hid (OI.turn (OI.below HS.out HB2.out.drew) HX2.out HTT.out)
            have HDR : Hid ((f k (e.getD k (0, 0)) (st.drop (st.length - t))) = (r1, r2)) := Lib.hid (by rw [← HN.out, Nat.add_sub_cancel]; exact HFR.out)
            have HTK : Hid (takesZ (e.getD k (0, 0)).1 = t) := Lib.hid (by rw [HOP.out, HT.out])
            have HTL : Hid (t ≤ st.length) := Lib.hid (by have := HN.out; omega)
            have HLL : Hid (st.length - t = left) := Lib.hid (by have := HN.out; omega)
            clear hc0 hc1 hc2 hc3 g0 g1 g2 g3 hnT EQ hl1
            rename_i hHeld
            clear hHeld
            clear HCALL HF HF2 HIA
            by_cases hr : r2 = 0
            · subst hr
              have HI3 : Hid (I (k + 1) (st.take left ++ [r1]) w3) := Lib.hid (HX1.out rfl)
              have EH := head_run B left t d (by have := HDS.out; have := HN.out; omega)
              have hwz : w.heap.size ≤ w3.heap.size := HW3.out.size
              have HLX : Hid ((st.take left ++ [r1]).length = left + 1) := Lib.hid (by have := HN.out; simp; omega)
              have HO3 : Hid (OI w.heap.size w3 (.slice B left d) (st.take left)) := Lib.hid (HS3.out.head left (by have := HN.out; omega))
              go_upto_region 15 with (at_builtin; refine append_one rfl (.tmp 53) (.tmp 55) rfl w.heap.size _ (st.take left) rfl HO3.out r1 rfl (by have := HN.out; simp; omega) hwz ?_; intro v4 w4 ho4 hb4; obtain ⟨A4, c4, rfl, _⟩ := ho4.form; rw [HLX.out] at ho4 ⊢; have HO4 := Lib.hid ho4; have HB4 := Lib.hid hb4; clear ho4 hb4)
              clear EH
              by_cases hdp : most < (left : Int) + 1
              · have HE : Hid (runF f most 0 e [] = (0, 12)) := Lib.hid (by rw [HR.out]; exact run_deep HK.out HTK.out HTL.out (by rw [HDR.out]) (by rw [HLL.out]; exact hdp))
                go_wp2
                go_ret2
                refine ⟨by rw [HE.out]; rfl, by rw [HE.out]; exact fun h => absurd h (by decide), ?_⟩
                exact HW3.out.then_below HB4.out
              · have HE : Hid (runF f most 0 e [] = runF f most (k + 1) (e.drop (k + 1)) (st.take left ++ [r1])) := Lib.hid (by
                  rw [HR.out, run_next HK.out HTK.out HTL.out (by rw [HDR.out]) (by rw [HLL.out]; exact hdp), HDR.out, HLL.out])
                go_wp2
                go_roundw
                case rel => exact ⟨k + 1, left + 1, A4, c4, st.take left ++ [r1], by omega, by go_num, rfl, Lib.hid HLX.out.symm, by omega, HO4, Lib.hid (HW3.out.then_below HB4.out), Lib.hid (HI.out (k + 1) _ w3 w4 HI3.out HW3.out HB4.out), HE⟩
                case measure => simp [intOf]; omega
            · have hr2 : (r2 != 0) = true := by simpa using hr
              have HE : Hid (runF f most 0 e [] = (0, r2)) := Lib.hid (by rw [HR.out, run_why HK.out HTK.out HTL.out (by rw [HDR.out]; exact hr), HDR.out])
              go_wp2
              go_ret2
              refine ⟨by rw [HE.out]; rfl, by rw [HE.out]; exact fun h => absurd h hr, HW3.out⟩
    · obtain rfl : k = m := by omega
      have HE : Hid (runF f most 0 e [] = if n = 0 then (0, 4) else if 1 < n then (0, 5) else (st.getD 0 0, 0)) := Lib.hid (by
        rw [HR.out, List.drop_of_length_le (by rw [HM.out]; exact Nat.le_refl _), runF_end, HN.out])
      by_cases n0 : n = 0
      · subst n0
        have HE2 := Lib.hid (HE.out.trans (if_pos rfl))
        clear HE
        go_wp2
        go_ret2
        refine ⟨by rw [HE2.out]; rfl, by rw [HE2.out]; exact fun h => absurd h (by decide), HW.out⟩
      · by_cases n1 : 1 < n
        · have HE2 := Lib.hid (HE.out.trans ((if_neg n0).trans (if_pos n1)))
          clear HE
          go_wp2
          go_ret2
          refine ⟨by rw [HE2.out]; rfl, by rw [HE2.out]; exact fun h => absurd h (by decide), HW.out⟩
        · obtain rfl : n = 1 := by omega
          have HE2 := Lib.hid (HE.out.trans ((if_neg n0).trans (if_neg n1)))
          obtain ⟨A', c', hf, hi⟩ := HS.out.form
          injection hf with hf
          subst hf
          obtain ⟨b, o, rfl, hb, hc⟩ := hi (by have := HN.out; omega)
          have c1 := hc 0 (by have := HN.out; omega)
          have HL1 : Hid (st = [st.getD 0 0]) := Lib.hid (by
            have h := HN.out
            match st, h with
            | [a], _ => rfl)
          have HIK2 : Hid (I k [st.getD 0 0] wr) := Lib.hid (by rw [← HL1.out]; exact HIK.out)
          rw [Nat.add_zero] at c1
          generalize st.getD 0 0 = y at c1 HE2 HIK2
          clear HE hc hi n0 n1
          go_wp2
          go_ret2
          refine ⟨by rw [HE2.out]; rfl, fun _ => by rw [HE2.out]; exact HIK2.out, HW.out⟩
end Go.Proofs.YtmnigdphikoljaaGreatDoor
namespace Go.Proofs.YtmnigdphikoljaaGreatDoor
open Go.ChangeShapes Go.WideShapes Go.ChangeAt Go.RowKit

/-- What a scope speaks of. -/
structure Sc where
  sizes : List Int
  vars : List (Int × Int)
  chans : List Int
  procs : List Int
  locals : List (Int × Int)
  self : Int
/-- A scope as it lies. -/
structure ScX where
  (a1 a2 a3 a4 a5 : Option Addr)
  (n1 c1 n2 c2 n3 c3 n4 c4 n5 c5 : Nat)
  self : Int
@[reducible] def ScX.v (X : ScX) : Value := .agg #[.slice X.a1 X.n1 X.c1, .slice X.a2 X.n2 X.c2, .slice X.a3 X.n3 X.c3, .slice X.a4 X.n4 X.c4, .slice X.a5 X.n5 X.c5, .int .i64 X.self]

/-- A slice of api.Var at address A (nil let in) reads as l. -/
def VA (w : World) (A : Option Addr) (l : List (Int × Int)) : Prop :=
  0 < l.length → ∃ b off, A = some ⟨b, off, none⟩ ∧ b < w.heap.size ∧ ∀ i, i < l.length → ∃ (s : ByteArray) (p q r : Int), w.cell? ⟨b, off + i * 6, none⟩ = some (.string s) ∧ w.cell? ⟨b, off + i * 6 + 1, none⟩ = some (.int .i64 (l.getD i (0, 0)).1) ∧ w.cell? ⟨b, off + i * 6 + 2, none⟩ = some (.int .i64 (l.getD i (0, 0)).2) ∧ w.cell? ⟨b, off + i * 6 + 3, none⟩ = some (.int .i64 p) ∧ w.cell? ⟨b, off + i * 6 + 4, none⟩ = some (.int .i64 q) ∧ w.cell? ⟨b, off + i * 6 + 5, none⟩ = some (.int .i64 r)
theorem VA.below {w w' : World} {A : Option Addr} {l : List (Int × Int)} (h : VA w A l) (hk : Below w.heap.size w w') : VA w' A l := fun hn => by
  obtain ⟨b, off, e, hb, hc⟩ := h hn
  refine ⟨b, off, e, Nat.lt_of_lt_of_le hb hk.size, fun i hi => ?_⟩
  obtain ⟨s, p, q, r, h0, h1, h2, h3, h4, h5⟩ := hc i hi
  exact ⟨s, p, q, r, (hk.cell (p := ⟨b, off + i * 6, none⟩) hb).trans h0, (hk.cell (p := ⟨b, off + i * 6 + 1, none⟩) hb).trans h1, (hk.cell (p := ⟨b, off + i * 6 + 2, none⟩) hb).trans h2, (hk.cell (p := ⟨b, off + i * 6 + 3, none⟩) hb).trans h3, (hk.cell (p := ⟨b, off + i * 6 + 4, none⟩) hb).trans h4, (hk.cell (p := ⟨b, off + i * 6 + 5, none⟩) hb).trans h5⟩
theorem entryV_yes (A : Option Addr) (c n k : Nat) (l : List (Int × Int)) (w : World) (hn : n = l.length) (hA : VA w A l) (hk : k < n) :
    Calls Tryz.prog 153 #[.slice A n c, .int .i64 k] w fun e w' => (∃ (s : ByteArray) (p q r : Int), e = .returned (.tuple #[.agg #[.string s, .int .i64 (l.getD k (0, 0)).1, .int .i64 (l.getD k (0, 0)).2, .int .i64 p, .int .i64 q, .int .i64 r], .bool true])) ∧ Below w.heap.size w w' := by
  obtain ⟨b, o, rfl, hb, hc⟩ := hA (by omega)
  obtain ⟨s, p, q, r, h0, h1, h2, h3, h4, h5⟩ := hc k (by omega)
  generalize (l.getD k (0, 0)).1 = x at *
  generalize (l.getD k (0, 0)).2 = y at *
  clear hc hA hn
  go_enter Tryz.func153, Tryz.ntmps153
  go_wp2
  exact bodyPost_ret (v := .tuple #[.agg #[.string s, .int .i64 x, .int .i64 y, .int .i64 p, .int .i64 q, .int .i64 r], .bool true]) (by simp [results, Tryz.results153, go_sem]) rfl ⟨⟨s, p, q, r, rfl⟩, (Below.refl _ _).alloc (Nat.le_refl _) _⟩
theorem entryV_no (A : Option Addr) (c n : Nat) (k : Int) (w : World) (hk : k < 0 ∨ (n : Int) ≤ k) :
    Calls Tryz.prog 153 #[.slice A n c, .int .i64 k] w fun e w' => e = .returned (.tuple #[.agg #[.string ⟨#[]⟩, .int .i64 0, .int .i64 0, .int .i64 0, .int .i64 0, .int .i64 0], .bool false]) ∧ Below w.heap.size w w' := by
  rcases hk with hk | hk
  · go_enter Tryz.func153, Tryz.ntmps153
    go_wp2
    exact bodyPost_ret (v := .tuple #[.agg #[.string ⟨#[]⟩, .int .i64 0, .int .i64 0, .int .i64 0, .int .i64 0, .int .i64 0], .bool false]) (by simp [results, Tryz.results153, go_sem]) rfl ⟨rfl, ((Below.refl _ _).alloc (Nat.le_refl _) _).alloc (by simp) _⟩
  · have hk2 : ¬ k < 0 := by omega
    go_enter Tryz.func153, Tryz.ntmps153
    go_wp2
    exact bodyPost_ret (v := .tuple #[.agg #[.string ⟨#[]⟩, .int .i64 0, .int .i64 0, .int .i64 0, .int .i64 0, .int .i64 0], .bool false]) (by simp [results, Tryz.results153, go_sem]) rfl ⟨rfl, ((Below.refl _ _).alloc (Nat.le_refl _) _).alloc (by simp) _⟩
/-- A slice of api.Chan at address A (nil let in) reads as l. -/
def CA (w : World) (A : Option Addr) (l : List Int) : Prop :=
  0 < l.length → ∃ b off, A = some ⟨b, off, none⟩ ∧ b < w.heap.size ∧ ∀ i, i < l.length → ∃ (s : ByteArray) (p q r : Int) (t : Bool), w.cell? ⟨b, off + i * 6, none⟩ = some (.string s) ∧ w.cell? ⟨b, off + i * 6 + 1, none⟩ = some (.int .i64 (l.getD i 0)) ∧ w.cell? ⟨b, off + i * 6 + 2, none⟩ = some (.int .i64 p) ∧ w.cell? ⟨b, off + i * 6 + 3, none⟩ = some (.int .i64 q) ∧ w.cell? ⟨b, off + i * 6 + 4, none⟩ = some (.int .i64 r) ∧ w.cell? ⟨b, off + i * 6 + 5, none⟩ = some (.bool t)
theorem CA.below {w w' : World} {A : Option Addr} {l : List Int} (h : CA w A l) (hk : Below w.heap.size w w') : CA w' A l := fun hn => by
  obtain ⟨b, off, e, hb, hc⟩ := h hn
  refine ⟨b, off, e, Nat.lt_of_lt_of_le hb hk.size, fun i hi => ?_⟩
  obtain ⟨s, p, q, r, t, h0, h1, h2, h3, h4, h5⟩ := hc i hi
  exact ⟨s, p, q, r, t, (hk.cell (p := ⟨b, off + i * 6, none⟩) hb).trans h0, (hk.cell (p := ⟨b, off + i * 6 + 1, none⟩) hb).trans h1, (hk.cell (p := ⟨b, off + i * 6 + 2, none⟩) hb).trans h2, (hk.cell (p := ⟨b, off + i * 6 + 3, none⟩) hb).trans h3, (hk.cell (p := ⟨b, off + i * 6 + 4, none⟩) hb).trans h4, (hk.cell (p := ⟨b, off + i * 6 + 5, none⟩) hb).trans h5⟩
theorem entryC_yes (A : Option Addr) (c n k : Nat) (l : List Int) (w : World) (hn : n = l.length) (hA : CA w A l) (hk : k < n) :
    Calls Tryz.prog 112 #[.slice A n c, .int .i64 k] w fun e w' => (∃ (s : ByteArray) (p q r : Int) (t : Bool), e = .returned (.tuple #[.agg #[.string s, .int .i64 (l.getD k 0), .int .i64 p, .int .i64 q, .int .i64 r, .bool t], .bool true])) ∧ Below w.heap.size w w' := by
  obtain ⟨b, o, rfl, hb, hc⟩ := hA (by omega)
  obtain ⟨s, p, q, r, t, h0, h1, h2, h3, h4, h5⟩ := hc k (by omega)
  generalize l.getD k 0 = x at *
  clear hc hA hn
  go_enter Tryz.func112, Tryz.ntmps112
  go_wp2
  exact bodyPost_ret (v := .tuple #[.agg #[.string s, .int .i64 x, .int .i64 p, .int .i64 q, .int .i64 r, .bool t], .bool true]) (by simp [results, Tryz.results112, go_sem]) rfl ⟨⟨s, p, q, r, t, rfl⟩, (Below.refl _ _).alloc (Nat.le_refl _) _⟩
theorem entryC_no (A : Option Addr) (c n : Nat) (k : Int) (w : World) (hk : k < 0 ∨ (n : Int) ≤ k) :
    Calls Tryz.prog 112 #[.slice A n c, .int .i64 k] w fun e w' => e = .returned (.tuple #[.agg #[.string ⟨#[]⟩, .int .i64 0, .int .i64 0, .int .i64 0, .int .i64 0, .bool false], .bool false]) ∧ Below w.heap.size w w' := by
  rcases hk with hk | hk
  · go_enter Tryz.func112, Tryz.ntmps112
    go_wp2
    exact bodyPost_ret (v := .tuple #[.agg #[.string ⟨#[]⟩, .int .i64 0, .int .i64 0, .int .i64 0, .int .i64 0, .bool false], .bool false]) (by simp [results, Tryz.results112, go_sem]) rfl ⟨rfl, ((Below.refl _ _).alloc (Nat.le_refl _) _).alloc (by simp) _⟩
  · have hk2 : ¬ k < 0 := by omega
    go_enter Tryz.func112, Tryz.ntmps112
    go_wp2
    exact bodyPost_ret (v := .tuple #[.agg #[.string ⟨#[]⟩, .int .i64 0, .int .i64 0, .int .i64 0, .int .i64 0, .bool false], .bool false]) (by simp [results, Tryz.results112, go_sem]) rfl ⟨rfl, ((Below.refl _ _).alloc (Nat.le_refl _) _).alloc (by simp) _⟩
/-- A slice of api.Proc at address A (nil let in) reads as l. -/
def QA (w : World) (A : Option Addr) (l : List Int) : Prop :=
  0 < l.length → ∃ b off, A = some ⟨b, off, none⟩ ∧ b < w.heap.size ∧ ∀ i, i < l.length → ∃ (s : ByteArray) (p : Int) (A1 A2 : Option Addr) (m1 d1 m2 d2 : Nat), w.cell? ⟨b, off + i * 5, none⟩ = some (.string s) ∧ w.cell? ⟨b, off + i * 5 + 1, none⟩ = some (.int .i64 p) ∧ w.cell? ⟨b, off + i * 5 + 2, none⟩ = some (.int .i64 (l.getD i 0)) ∧ w.cell? ⟨b, off + i * 5 + 3, none⟩ = some (.slice A1 m1 d1) ∧ w.cell? ⟨b, off + i * 5 + 4, none⟩ = some (.slice A2 m2 d2)
theorem QA.below {w w' : World} {A : Option Addr} {l : List Int} (h : QA w A l) (hk : Below w.heap.size w w') : QA w' A l := fun hn => by
  obtain ⟨b, off, e, hb, hc⟩ := h hn
  refine ⟨b, off, e, Nat.lt_of_lt_of_le hb hk.size, fun i hi => ?_⟩
  obtain ⟨s, p, A1, A2, m1, d1, m2, d2, h0, h1, h2, h3, h4⟩ := hc i hi
  exact ⟨s, p, A1, A2, m1, d1, m2, d2, (hk.cell (p := ⟨b, off + i * 5, none⟩) hb).trans h0, (hk.cell (p := ⟨b, off + i * 5 + 1, none⟩) hb).trans h1, (hk.cell (p := ⟨b, off + i * 5 + 2, none⟩) hb).trans h2, (hk.cell (p := ⟨b, off + i * 5 + 3, none⟩) hb).trans h3, (hk.cell (p := ⟨b, off + i * 5 + 4, none⟩) hb).trans h4⟩
theorem entryQ_yes (A : Option Addr) (c n k : Nat) (l : List Int) (w : World) (hn : n = l.length) (hA : QA w A l) (hk : k < n) :
    Calls Tryz.prog 114 #[.slice A n c, .int .i64 k] w fun e w' => (∃ (s : ByteArray) (p : Int) (A1 A2 : Option Addr) (m1 d1 m2 d2 : Nat), e = .returned (.tuple #[.agg #[.string s, .int .i64 p, .int .i64 (l.getD k 0), .slice A1 m1 d1, .slice A2 m2 d2], .bool true])) ∧ Below w.heap.size w w' := by
  obtain ⟨b, o, rfl, hb, hc⟩ := hA (by omega)
  obtain ⟨s, p, A1, A2, m1, d1, m2, d2, h0, h1, h2, h3, h4⟩ := hc k (by omega)
  generalize l.getD k 0 = x at *
  clear hc hA hn
  go_enter Tryz.func114, Tryz.ntmps114
  go_wp2
  exact bodyPost_ret (v := .tuple #[.agg #[.string s, .int .i64 p, .int .i64 x, .slice A1 m1 d1, .slice A2 m2 d2], .bool true]) (by simp [results, Tryz.results114, go_sem]) rfl ⟨⟨s, p, A1, A2, m1, d1, m2, d2, rfl⟩, (Below.refl _ _).alloc (Nat.le_refl _) _⟩
theorem entryQ_no (A : Option Addr) (c n : Nat) (k : Int) (w : World) (hk : k < 0 ∨ (n : Int) ≤ k) :
    Calls Tryz.prog 114 #[.slice A n c, .int .i64 k] w fun e w' => e = .returned (.tuple #[.agg #[.string ⟨#[]⟩, .int .i64 0, .int .i64 0, .slice none 0 0, .slice none 0 0], .bool false]) ∧ Below w.heap.size w w' := by
  rcases hk with hk | hk
  · go_enter Tryz.func114, Tryz.ntmps114
    go_wp2
    exact bodyPost_ret (v := .tuple #[.agg #[.string ⟨#[]⟩, .int .i64 0, .int .i64 0, .slice none 0 0, .slice none 0 0], .bool false]) (by simp [results, Tryz.results114, go_sem]) rfl ⟨rfl, ((Below.refl _ _).alloc (Nat.le_refl _) _).alloc (by simp) _⟩
  · have hk2 : ¬ k < 0 := by omega
    go_enter Tryz.func114, Tryz.ntmps114
    go_wp2
    exact bodyPost_ret (v := .tuple #[.agg #[.string ⟨#[]⟩, .int .i64 0, .int .i64 0, .slice none 0 0, .slice none 0 0], .bool false]) (by simp [results, Tryz.results114, go_sem]) rfl ⟨rfl, ((Below.refl _ _).alloc (Nat.le_refl _) _).alloc (by simp) _⟩
/-- A slice of api.Scalar at address A (nil let in) reads as l. -/
def SA (w : World) (A : Option Addr) (l : List Int) : Prop :=
  0 < l.length → ∃ b off, A = some ⟨b, off, none⟩ ∧ b < w.heap.size ∧ ∀ i, i < l.length → ∃ (s : ByteArray), w.cell? ⟨b, off + i * 2, none⟩ = some (.string s) ∧ w.cell? ⟨b, off + i * 2 + 1, none⟩ = some (.int .i64 (l.getD i 0))
theorem SA.below {w w' : World} {A : Option Addr} {l : List Int} (h : SA w A l) (hk : Below w.heap.size w w') : SA w' A l := fun hn => by
  obtain ⟨b, off, e, hb, hc⟩ := h hn
  refine ⟨b, off, e, Nat.lt_of_lt_of_le hb hk.size, fun i hi => ?_⟩
  obtain ⟨s, h0, h1⟩ := hc i hi
  exact ⟨s, (hk.cell (p := ⟨b, off + i * 2, none⟩) hb).trans h0, (hk.cell (p := ⟨b, off + i * 2 + 1, none⟩) hb).trans h1⟩
theorem entryS_yes (A : Option Addr) (c n k : Nat) (l : List Int) (w : World) (hn : n = l.length) (hA : SA w A l) (hk : k < n) :
    Calls Tryz.prog 115 #[.slice A n c, .int .i64 k] w fun e w' => (∃ (s : ByteArray), e = .returned (.tuple #[.agg #[.string s, .int .i64 (l.getD k 0)], .bool true])) ∧ Below w.heap.size w w' := by
  obtain ⟨b, o, rfl, hb, hc⟩ := hA (by omega)
  obtain ⟨s, h0, h1⟩ := hc k (by omega)
  generalize l.getD k 0 = x at *
  clear hc hA hn
  go_enter Tryz.func115, Tryz.ntmps115
  go_wp2
  exact bodyPost_ret (v := .tuple #[.agg #[.string s, .int .i64 x], .bool true]) (by simp [results, Tryz.results115, go_sem]) rfl ⟨⟨s, rfl⟩, (Below.refl _ _).alloc (Nat.le_refl _) _⟩
theorem entryS_no (A : Option Addr) (c n : Nat) (k : Int) (w : World) (hk : k < 0 ∨ (n : Int) ≤ k) :
    Calls Tryz.prog 115 #[.slice A n c, .int .i64 k] w fun e w' => e = .returned (.tuple #[.agg #[.string ⟨#[]⟩, .int .i64 0], .bool false]) ∧ Below w.heap.size w w' := by
  rcases hk with hk | hk
  · go_enter Tryz.func115, Tryz.ntmps115
    go_wp2
    exact bodyPost_ret (v := .tuple #[.agg #[.string ⟨#[]⟩, .int .i64 0], .bool false]) (by simp [results, Tryz.results115, go_sem]) rfl ⟨rfl, ((Below.refl _ _).alloc (Nat.le_refl _) _).alloc (by simp) _⟩
  · have hk2 : ¬ k < 0 := by omega
    go_enter Tryz.func115, Tryz.ntmps115
    go_wp2
    exact bodyPost_ret (v := .tuple #[.agg #[.string ⟨#[]⟩, .int .i64 0], .bool false]) (by simp [results, Tryz.results115, go_sem]) rfl ⟨rfl, ((Below.refl _ _).alloc (Nat.le_refl _) _).alloc (by simp) _⟩

def fitB (n lo hi : Int) : Bool := decide (lo ≤ n ∧ n ≤ hi)
theorem fits_any (n lo hi : Int) (w : World) : Calls Tryz.prog 85 #[.int .i64 n, .int .i64 lo, .int .i64 hi] w fun e w' => e = .returned (.bool (fitB n lo hi)) ∧ w = w' := by
  by_cases h1 : lo ≤ n
  · by_cases h2 : n ≤ hi
    · have HE : Hid (fitB n lo hi = true) := Lib.hid (decide_eq_true ⟨h1, h2⟩)
      go_enter Tryz.func85, Tryz.ntmps85
      go_wp2
      go_ret
      exact ⟨by rw [HE.out]; rfl, rfl⟩
    · have HE : Hid (fitB n lo hi = false) := Lib.hid (decide_eq_false (by omega))
      go_enter Tryz.func85, Tryz.ntmps85
      go_wp2
      go_ret
      exact ⟨by rw [HE.out]; rfl, rfl⟩
  · have HE : Hid (fitB n lo hi = false) := Lib.hid (decide_eq_false (by omega))
    go_enter Tryz.func85, Tryz.ntmps85
    go_wp2
    go_ret
    exact ⟨by rw [HE.out]; rfl, rfl⟩
/-- What is there, or why it is not. -/
def hadF (x : Int) (is : Bool) (why : Int) : Int × Int := if is then (x, 0) else (0, why)
theorem had_any (x why : Int) (is : Bool) (w : World) : Calls Tryz.prog 79 #[.int .i64 x, .bool is, .int .i64 why] w fun e w' => e = .returned (.tuple #[.int .i64 (hadF x is why).1, .int .i64 (hadF x is why).2]) ∧ w = w' := by
  cases is
  all_goals
    go_enter Tryz.func79, Tryz.ntmps79
    go_wp2
    go_ret2
    exact ⟨rfl, rfl⟩
theorem literal_any (n : Int) (w : World) : Calls Tryz.prog 75 #[.int .i64 n] w fun e w' => e = .returned (.tuple #[.int .i64 (hadF n (fitB n (-1048576) 1048576) 10).1, .int .i64 (hadF n (fitB n (-1048576) 1048576) 10).2]) ∧ w = w' := by
  obtain ⟨b, HB⟩ : ∃ b, Hid (fitB n (-1048576) 1048576 = b) := ⟨_, Lib.hid rfl⟩
  go_enter Tryz.func75, Tryz.ntmps75
  go_wp2_with fail
  refine (fits_any n (-1048576) 1048576 _).mono ?_
  rintro e w' ⟨rfl, rfl⟩
  rw [HB.out]
  go_wp2_with fail
  refine (had_any n 10 b _).mono ?_
  rintro e w' ⟨rfl, rfl⟩
  go_wp2
  go_ret2
  exact ⟨by rw [HB.out]; rfl, rfl⟩

/-- The kind that a Scalar, or an Over, says. -/
def kindOf (s : Int) : Int := if s = 0 then 0 else 1 + s
theorem element_yes (X : ScX) (s : Int) (w : World) (h1 : 1 ≤ s) (h2 : s ≤ X.n1) (hn : X.n1 ≤ 1000000000000000) : Calls Tryz.prog 78 #[X.v, .int .i64 s] w fun e w' => e = .returned (.tuple #[.int .i64 (1 + s), .bool true]) ∧ Below w.heap.size w w' := by
  have HE : Hid (fitB s 1 X.n1 = true) := Lib.hid (decide_eq_true ⟨h1, h2⟩)
  unfold ScX.v
  go_enter Tryz.func78, Tryz.ntmps78
  go_wp2_with fail
  refine (fits_any s 1 X.n1 _).mono ?_
  rintro e w' ⟨rfl, rfl⟩
  rw [HE.out]
  go_wp2
  go_ret2
  exact ⟨rfl, (Below.refl _ _).alloc (Nat.le_refl _) _⟩
theorem element_no (X : ScX) (s : Int) (w : World) (h : s < 1 ∨ (X.n1 : Int) < s) : Calls Tryz.prog 78 #[X.v, .int .i64 s] w fun e w' => e = .returned (.tuple #[.int .i64 0, .bool false]) ∧ Below w.heap.size w w' := by
  have HE : Hid (fitB s 1 X.n1 = false) := Lib.hid (decide_eq_false (by omega))
  clear h
  unfold ScX.v
  go_enter Tryz.func78, Tryz.ntmps78
  go_wp2_with fail
  refine (fits_any s 1 X.n1 _).mono ?_
  rintro e w' ⟨rfl, rfl⟩
  rw [HE.out]
  go_wp2
  go_ret2
  exact ⟨rfl, (Below.refl _ _).alloc (Nat.le_refl _) _⟩
theorem named_yes (X : ScX) (s : Int) (w : World) (h1 : 0 ≤ s) (h2 : s ≤ X.n1) (hn : X.n1 ≤ 1000000000000000) : Calls Tryz.prog 113 #[X.v, .int .i64 s] w fun e w' => e = .returned (.tuple #[.int .i64 (kindOf s), .bool true]) ∧ Below w.heap.size w w' := by
  by_cases h0 : s = 0
  · subst h0
    unfold ScX.v
    go_enter Tryz.func113, Tryz.ntmps113
    go_wp2
    go_ret2
    exact ⟨rfl, (Below.refl _ _).alloc (Nat.le_refl _) _⟩
  · have HK : Hid (kindOf s = 1 + s) := Lib.hid (if_neg h0)
    unfold ScX.v
    go_enter Tryz.func113, Tryz.ntmps113
    go_wp2_with fail
    refine (element_yes X s _ (by omega) h2 hn).mono ?_
    rintro e w' ⟨rfl, hb⟩
    have HB := Lib.hid hb
    clear hb
    go_wp2
    go_ret2
    exact ⟨by rw [HK.out]; rfl, ((Below.refl _ _).alloc (Nat.le_refl _) _).trans (HB.out.mono (by simp))⟩
theorem named_no (X : ScX) (s : Int) (w : World) (h : s < 0 ∨ (X.n1 : Int) < s) : Calls Tryz.prog 113 #[X.v, .int .i64 s] w fun e w' => e = .returned (.tuple #[.int .i64 0, .bool false]) ∧ Below w.heap.size w w' := by
  have h0 : ¬ s = 0 := by omega
  have HX := Lib.hid h
  clear h
  unfold ScX.v
  go_enter Tryz.func113, Tryz.ntmps113
  go_wp2_with fail
  refine (element_no X s _ (by have := HX.out; omega)).mono ?_
  rintro e w' ⟨rfl, hb⟩
  have HB := Lib.hid hb
  clear hb
  go_wp2
  go_ret2
  exact ⟨rfl, ((Below.refl _ _).alloc (Nat.le_refl _) _).trans (HB.out.mono (by simp))⟩
end Go.Proofs.YtmnigdphikoljaaGreatDoor
