/- The program's work: a stack of numbers worked off by any function value that keeps what it is handed. -/
import Derived.Test.YtgbnafakaaooiaaIntRows
import Derived.Test.YtgbnafakaaooiaaExprOps
import Derived.Deep.RegionHeld3
import Derived.Deep.Cut
namespace Go.Proofs.Ytgbnafakaaooiaa
open Go.ChangeShapes Go.WideShapes Go.ChangeAt Go.RowKit

/-- A slice of pairs of ints at address A (nil let in) reads as zs. -/
def PA (w : World) (A : Option Addr) (zs : List (Int × Int)) : Prop :=
  0 < zs.length → ∃ b off, A = some ⟨b, off, none⟩ ∧ b < w.heap.size ∧ ∀ i, i < zs.length → w.cell? ⟨b, off + i * 2, none⟩ = some (.int .i64 (zs.getD i (0, 0)).1) ∧ w.cell? ⟨b, off + i * 2 + 1, none⟩ = some (.int .i64 (zs.getD i (0, 0)).2)
theorem PA.turn {T : Nat → Prop} {w w' : World} {A : Option Addr} {zs : List (Int × Int)} (h : PA w A zs) (k : Turn T w w') (hT : ∀ a, A = some a → ¬ T a.block) : PA w' A zs := fun hn => by
  obtain ⟨b, off, e, hb, hc⟩ := h hn
  exact ⟨b, off, e, Nat.lt_of_lt_of_le hb k.size, fun i hi => ⟨(k.cell (p := ⟨b, off + i * 2, none⟩) hb (hT ⟨b, off, none⟩ e)).trans (hc i hi).1, (k.cell (p := ⟨b, off + i * 2 + 1, none⟩) hb (hT ⟨b, off, none⟩ e)).trans (hc i hi).2⟩⟩
theorem PA.below {w w' : World} {A : Option Addr} {zs : List (Int × Int)} (h : PA w A zs) (k : Below w.heap.size w w') : PA w' A zs := h.turn (T := fun _ => False) (Turn.of_below k) (fun _ _ h => h)

/-- What put is asked: of node number k. -/
def PutK (gf : Nat) (lb : Array Value) (T : Nat → Prop) (f : Nat → Int × Int → List Int → Int × Int) (e : List (Int × Int)) (I : Nat → List Int → World → Prop) (w : World) : Prop :=
  ∀ (k : Nat) (st : List Int) (W : World) (ov : Value) (B : Option Addr) (m c : Nat) (ps : List Int), k < e.length → I k st W → Turn T w W → OpV W w.heap.size (e.getD k (0, 0)).1 ov → (m : Int) = takesZ (e.getD k (0, 0)).1 → m = ps.length → m ≤ st.length → ps = st.drop (st.length - m) → IA W B ps → (∀ a, B = some a → w.heap.size ≤ a.block) →
    Calls Try.prog gf (#[.int .i64 k, ov, .slice B m c] ++ lb) W fun x W' => x = .returned (.tuple #[.int .i64 (f k (e.getD k (0, 0)) ps).1, .int .i64 (f k (e.getD k (0, 0)) ps).2]) ∧ ((f k (e.getD k (0, 0)) ps).2 = 0 → I (k + 1) (st.take (st.length - m) ++ [(f k (e.getD k (0, 0)) ps).1]) W') ∧ Turn T W W'
/-- What work leaves. -/
def WorkPost (T : Nat → Prop) (r : Int × Int) (n : Nat) (I : Nat → List Int → World → Prop) (w : World) (x : Ending) (W' : World) : Prop :=
  x = .returned (.tuple #[.int .i64 r.1, .int .i64 r.2]) ∧ (r.2 = 0 → I n [r.1] W') ∧ Turn T w W'

theorem tail_ia {w : World} {A : Option Addr} {l : List Int} {n c : Nat} (h : IA w A l) (hn : l.length ≤ c) : IA w (if c = n then A else A.map (·.add n)) (l.drop n) := fun h0 => by
  have h1 : n < l.length := by simp at h0; omega
  obtain ⟨b, off, rfl, hb, hc⟩ := h (by omega)
  rw [if_neg (by omega)]
  refine ⟨b, off + n, by simp [Addr.add], hb, fun i hi => ?_⟩
  have h2 : n + i < l.length := by simp at hi; omega
  rw [show off + n + i = off + (n + i) by omega, hc _ h2]
  simp [List.getD]

set_option maxRecDepth 20000 in
/-- The tail of a slice of ints, in one way. -/
theorem tail_run (B : Option Addr) (left t d : Nat) : ∃ B2, B2 = (if d = left then B else B.map (·.add left)) ∧ ∀ W, (Instr.sliceAt 40 (.slice B (left + t) d) (some (.int .i64 (left : Int))) none none).run Try.prog W = .ok (.slice B2 t (d - left)) W := by
  refine ⟨_, rfl, fun W => ?_⟩
  have hsz : (sizeOf (Try.prog.elem 40)).run Try.prog W = .ok 1 W := by simp [go_sem]
  rw [run_sliceAt_slice (P := Try.prog) W 40 _ _ _ _ Try.underlying40, run_slice_l (P := Try.prog) W 40 B (left + t) d Try.underlying40 .i64 left (by omega) (by omega), hsz]
  simp [Result.andThen, sliced]

set_option maxRecDepth 20000 in
/-- The head of a slice of ints. -/
theorem head_run (B : Option Addr) (left t d : Nat) (h : left + t ≤ d) (W : World) : (Instr.sliceAt 40 (.slice B (left + t) d) none (some (.int .i64 (left : Int))) none).run Try.prog W = .ok (.slice B left d) W := by
  have hsz : (sizeOf (Try.prog.elem 40)).run Try.prog W = .ok 1 W := by simp [go_sem]
  rw [run_sliceAt_slice (P := Try.prog) W 40 _ _ _ _ Try.underlying40, run_slice_h (P := Try.prog) W 40 B (left + t) d Try.underlying40 .i64 left (by omega) (by omega), hsz]
  cases B <;> simp [Result.andThen, sliced, Addr.add]

set_option maxRecDepth 20000 in
set_option maxHeartbeats 4000000 in
theorem work_any (gf : Nat) (lb : Array Value) (T : Nat → Prop) (f : Nat → Int × Int → List Int → Int × Int) (e : List (Int × Int)) (I : Nat → List Int → World → Prop) (A : Option Addr) (c m : Nat) (most : Int) (w : World)
    (hm : m = e.length) (hA : PA w A e) (hlm : m ≤ 1000) (hT : ∀ k, T k → k < w.heap.size) (hTA : ∀ a, A = some a → ¬ T a.block)
    (eg : ∀ args w, (callFunc gf args).run Try.prog w = .ok (.enter gf args) w) (hI : ∀ k st W W', I k st W → Turn T w W → Below w.heap.size W W' → I k st W') (hP : PutK gf lb T f e I w) (h0 : I 0 [] w) :
    Calls Try.prog 22 #[.slice A m c, .int .i64 most, .func (.func gf) #[] lb] w (WorkPost T (runF f most 0 e []) m I w) := by
  have HM := Lib.hid hm
  have HA := Lib.hid hA
  have HTT := Lib.hid hT
  have HTA := Lib.hid hTA
  have HI := Lib.hid hI
  have HP := Lib.hid hP
  have H0 := Lib.hid h0
  clear hm hA hT hTA hI hP h0
  go_enter Try.func22, Try.ntmps22
  go_wp2
  go_loopw [8, 18] (fun s i wr => ∃ (k n : Nat) (B : Option Addr) (d : Nat) (st : List Int), k ≤ m ∧ i = .int .i64 k ∧ s = .slice B n d ∧ Hid (n = st.length) ∧ n ≤ k ∧ Hid (OI w.heap.size wr (.slice B n d) st) ∧ Hid (Turn T w wr) ∧ Hid (I k st wr) ∧
    Hid (runF f most 0 e [] = runF f most k (e.drop k) st)) (fun _ i _ => m - (intOf i).toNat)
  case atStart => exact ⟨0, 0, none, 0, [], Nat.zero_le _, rfl, rfl, Lib.hid rfl, Nat.le_refl _, Lib.hid (OI.nil _ _), Lib.hid (Turn.refl _ _), H0, Lib.hid rfl⟩
  case round =>
    obtain ⟨k, n, B, d, st, hk, rfl, rfl, HN, hn, HS, HW, HIK, HR⟩ := hrel
    by_cases hlt : k < m
    · obtain ⟨b, o, rfl, hb, hc⟩ := (HA.out.turn HW.out HTA.out) (by rw [← HM.out]; omega)
      obtain ⟨c1, c2⟩ := hc k (by rw [← HM.out]; exact hlt)
      have HK : Hid (k < e.length) := Lib.hid (by rw [← HM.out]; exact hlt)
      obtain ⟨op, HOP⟩ : ∃ op, Hid ((e.getD k (0, 0)).1 = op) := ⟨_, Lib.hid rfl⟩
      rw [HOP.out] at c1
      generalize (e.getD k (0, 0)).2 = q at c2
      clear hc
      go_wp2_with fail
      refine (operationOf_any op _).mono ?_
      rintro x w1 ⟨hb1, h1⟩
      have HB1 := Lib.hid hb1
      have HB1W : Hid (Below wr.heap.size wr w1) := Lib.hid (((Below.refl _ _).alloc (Nat.le_refl _) _).trans (hb1.mono (by simp)))
      clear hb1 c1 c2
      rcases h1 with ⟨hneg, rfl⟩ | ⟨hpos, v, rfl, fv, rfl, hf⟩
      · have HE : Hid (runF f most 0 e [] = (0, 3)) := Lib.hid (by rw [HR.out, run_form HK.out (by rw [HOP.out]; exact hneg)])
        clear hneg
        go_wp2
        go_ret2
        refine ⟨by rw [HE.out]; rfl, by rw [HE.out]; exact fun h => absurd h (by decide), ?_⟩
        exact (HW.out.then_below (HB1W.out.mono HW.out.size)).then_below ((Below.refl _ _).alloc (by have := HW.out.size; have := HB1W.out.size; omega) _)
      · have HF := Lib.hid hf
        have hform := hf.form
        obtain ⟨t, HT⟩ : ∃ t : Nat, Hid (takesZ op = t) := ⟨(takesZ op).toNat, Lib.hid (by omega)⟩
        rw [HT.out]
        have ht2 : t ≤ 2 := by have := takesZ_range op; have := HT.out; omega
        obtain ⟨p1, HP1⟩ : ∃ p1, Hid (opOf op = p1) := ⟨_, Lib.hid rfl⟩
        obtain ⟨p2, HP2⟩ : ∃ p2, Hid (opTo op = p2) := ⟨_, Lib.hid rfl⟩
        rw [HP1.out, HP2.out]
        clear hpos hf
        by_cases hsh : n < t
        · have HE : Hid (runF f most 0 e [] = (0, 4)) := Lib.hid (by rw [HR.out, run_short HK.out (by rw [HOP.out, HT.out]; omega) (by rw [HOP.out, HT.out, ← HN.out]; omega)])
          have hsh2 : (n : Int) - t < 0 := by omega
          rcases hform with rfl | ⟨g, lb', rfl⟩
          all_goals
            go_wp2
            go_ret2
            refine ⟨by rw [HE.out]; rfl, by rw [HE.out]; exact fun h => absurd h (by decide), ?_⟩
            exact (HW.out.then_below (HB1W.out.mono HW.out.size)).then_below ((Below.refl _ _).alloc (by have := HW.out.size; have := HB1W.out.size; omega) _)
        · obtain ⟨left, rfl⟩ : ∃ left, n = left + t := ⟨n - t, by omega⟩
          clear hsh
          have hl1 : (left : Int) ≤ (left : Int) + (t : Int) := by omega
          have HDS : Hid (st.length ≤ d) := Lib.hid (by
            rcases HS.out.2 with ⟨e1, e2⟩ | ⟨g, cap, cur, e1, _, _, e3, _⟩
            · injection e1 with e1 e3 e4
              omega
            · injection e1 with e1 e3 e4
              omega)
          have HN2 : Hid (t = (st.drop left).length) := Lib.hid (by have := HN.out; simp; omega)
          obtain ⟨B2, hB2, EQ⟩ := tail_run B left t d
          have HIA : Hid (∀ W, Below wr.heap.size wr W → IA W B2 (st.drop left)) := Lib.hid (fun W hW => by
            rw [hB2]
            exact tail_ia ((OI.below HS.out hW).form.elim fun A' h => h.elim fun c' h => by
              obtain ⟨h1, h2⟩ := h
              injection h1 with h1
              rw [h1]; exact h2) HDS.out)
          have HBL : Hid (∀ a, B2 = some a → w.heap.size ≤ a.block) := Lib.hid (fun a ha => by
            rw [hB2] at ha
            rcases HS.out.2 with ⟨e1, _⟩ | ⟨g, cap, cur, e1, hg, _⟩
            · injection e1 with e1 _ _
              rw [e1] at ha
              split at ha <;> cases ha
            · injection e1 with e1 _ _
              rw [e1] at ha
              split at ha
              · injection ha with ha
                rw [← ha]; exact hg
              · injection ha with ha
                rw [← ha]; show w.heap.size ≤ (Addr.add ⟨g, 0, none⟩ left).block; rw [add_plain]; exact hg)
          clear hB2
          rcases hform with rfl | ⟨g, lb', rfl⟩
          · go_wp2_with fail
            have HB2 : Hid (Below wr.heap.size wr (w1.alloc (.cells #[.int .i64 t, .int .i64 p1, .int .i64 p2, .nilFunc] 59))) := Lib.hid (HB1W.out.alloc HB1W.out.size _)
            have hc0 : (w1.alloc (.cells #[.int .i64 t, .int .i64 p1, .int .i64 p2, .nilFunc] 59)).cell? ⟨w1.heap.size, 0, none⟩ = some (.int .i64 t) := World.cell?_alloc_at _ _ _ _ rfl
            have hc1 : (w1.alloc (.cells #[.int .i64 t, .int .i64 p1, .int .i64 p2, .nilFunc] 59)).cell? ⟨w1.heap.size, 1, none⟩ = some (.int .i64 p1) := World.cell?_alloc_at _ _ _ _ rfl
            have hc2 : (w1.alloc (.cells #[.int .i64 t, .int .i64 p1, .int .i64 p2, .nilFunc] 59)).cell? ⟨w1.heap.size, 2, none⟩ = some (.int .i64 p2) := World.cell?_alloc_at _ _ _ _ rfl
            have hc3 : (w1.alloc (.cells #[.int .i64 t, .int .i64 p1, .int .i64 p2, .nilFunc] 59)).cell? ⟨w1.heap.size, 3, none⟩ = some .nilFunc := World.cell?_alloc_at _ _ _ _ rfl
            have HF2 : Hid (OpF (w1.alloc (.cells #[.int .i64 t, .int .i64 p1, .int .i64 p2, .nilFunc] 59)) w.heap.size op .nilFunc) := Lib.hid ((HF.out.keep (by simp) (fun p _ h2 => ((Below.refl w1.heap.size w1).alloc (Nat.le_refl _) _).cell h2)).lower (by have := HW.out.size; simp; omega))
            have hbx : w1.heap.size < (w1.alloc (.cells #[.int .i64 t, .int .i64 p1, .int .i64 p2, .nilFunc] 59)).heap.size := by simp
            have hbw : wr.heap.size ≤ w1.heap.size := HB1W.out.size
            generalize w1.alloc (.cells #[.int .i64 t, .int .i64 p1, .int .i64 p2, .nilFunc] 59) = w2 at *
            generalize w1.heap.size = bx at *
            obtain ⟨r1, r2, HFR⟩ : ∃ r1 r2, Hid (f k (e.getD k (0, 0)) (st.drop left) = (r1, r2)) := ⟨_, _, Lib.hid rfl⟩
            have HCALL : Hid (Calls Try.prog gf (#[.int .i64 k, .agg #[.int .i64 t, .int .i64 p1, .int .i64 p2, .nilFunc], .slice B2 t (d - left)] ++ lb) w2.drew fun x W' =>
                x = .returned (.tuple #[.int .i64 r1, .int .i64 r2]) ∧ (r2 = 0 → I (k + 1) (st.take left ++ [r1]) W') ∧ Turn T w2.drew W') := Lib.hid (by
              have hBd : Below w.heap.size wr w2.drew := (HB2.out.mono HW.out.size).drew
              have h1 := HP.out k st w2.drew (.agg #[.int .i64 t, .int .i64 p1, .int .i64 p2, .nilFunc]) B2 t (d - left) (st.drop left) HK.out
                (HI.out k st wr _ HIK.out HW.out hBd) (HW.out.then_below hBd)
                ⟨.nilFunc, by rw [HOP.out, HT.out, HP1.out, HP2.out], by rw [HOP.out]; exact HF2.out⟩ (by rw [HOP.out, HT.out]) HN2.out (by have := HN.out; omega) (by rw [← HN.out, Nat.add_sub_cancel])
                (HIA.out _ HB2.out.drew) HBL.out
              rw [HFR.out, ← HN.out, Nat.add_sub_cancel] at h1
              exact h1)
            go_region_held3 (fun w' => w'.cell? ⟨bx, 0, none⟩ = some (.int .i64 t) ∧ w'.cell? ⟨bx, 1, none⟩ = some (.int .i64 p1) ∧ w'.cell? ⟨bx, 2, none⟩ = some (.int .i64 p2) ∧ w'.cell? ⟨bx, 3, none⟩ = some .nilFunc)
              (first | exact ⟨hc0, hc1, hc2, hc3⟩ | exact ⟨g0, g1, g2, g3⟩ | go_keep)
              ((refine HCALL.out.mono ?_; rintro x w3 ⟨rfl, hx1, hx2⟩; have HX1 := Lib.hid hx1; have HX2 := Lib.hid hx2; have hnT : ¬ T bx := (fun h => by have := HTT.out bx h; have := HW.out.size; omega); have g0 := (hx2.cell (p := ⟨bx, 0, none⟩) hbx hnT).trans hc0; have g1 := (hx2.cell (p := ⟨bx, 1, none⟩) hbx hnT).trans hc1; have g2 := (hx2.cell (p := ⟨bx, 2, none⟩) hbx hnT).trans hc2; have g3 := (hx2.cell (p := ⟨bx, 3, none⟩) hbx hnT).trans hc3; clear hx1 hx2))
            have HW3 : Hid (Turn T w w3) := Lib.hid (by
              have h2 := HX2.out
              exact (HW.out.then_below (HB2.out.mono HW.out.size).drew).trans ⟨h2.os, h2.tape, h2.output, h2.size, h2.block⟩)
            have HS3 : Hid (OI w.heap.size w3 (.slice B (left + t) d) st) := Lib.hid (OI.turn (OI.below HS.out HB2.out.drew) HX2.out HTT.out)
            have HDR : Hid ((f k (e.getD k (0, 0)) (st.drop (st.length - t))) = (r1, r2)) := Lib.hid (by rw [← HN.out, Nat.add_sub_cancel]; exact HFR.out)
            have HTK : Hid (takesZ (e.getD k (0, 0)).1 = t) := Lib.hid (by rw [HOP.out, HT.out])
            have HTL : Hid (t ≤ st.length) := Lib.hid (by have := HN.out; omega)
            have HLL : Hid (st.length - t = left) := Lib.hid (by have := HN.out; omega)
            clear hc0 hc1 hc2 hc3 g0 g1 g2 g3 hnT EQ hl1
            rename_i hHeld
            clear hHeld
            clear HCALL HF HF2 HIA
            by_cases hr : r2 = 0
            · subst hr
              have HI3 : Hid (I (k + 1) (st.take left ++ [r1]) w3) := Lib.hid (HX1.out rfl)
              have EH := head_run B left t d (by have := HDS.out; have := HN.out; omega)
              have hwz : w.heap.size ≤ w3.heap.size := HW3.out.size
              have HLX : Hid ((st.take left ++ [r1]).length = left + 1) := Lib.hid (by have := HN.out; simp; omega)
              have HO3 : Hid (OI w.heap.size w3 (.slice B left d) (st.take left)) := Lib.hid (HS3.out.head left (by have := HN.out; omega))
              go_upto_region 15 with (at_builtin; refine append_one rfl (.tmp 53) (.tmp 55) rfl w.heap.size _ (st.take left) rfl HO3.out r1 rfl (by have := HN.out; simp; omega) hwz ?_; intro v4 w4 ho4 hb4; obtain ⟨A4, c4, rfl, _⟩ := ho4.form; rw [HLX.out] at ho4 ⊢; have HO4 := Lib.hid ho4; have HB4 := Lib.hid hb4; clear ho4 hb4)
              clear EH
              by_cases hdp : most < (left : Int) + 1
              · have HE : Hid (runF f most 0 e [] = (0, 12)) := Lib.hid (by rw [HR.out]; exact run_deep HK.out HTK.out HTL.out (by rw [HDR.out]) (by rw [HLL.out]; exact hdp))
                go_wp2
                go_ret2
                refine ⟨by rw [HE.out]; rfl, by rw [HE.out]; exact fun h => absurd h (by decide), ?_⟩
                exact HW3.out.then_below HB4.out
              · have HE : Hid (runF f most 0 e [] = runF f most (k + 1) (e.drop (k + 1)) (st.take left ++ [r1])) := Lib.hid (by
                  rw [HR.out, run_next HK.out HTK.out HTL.out (by rw [HDR.out]) (by rw [HLL.out]; exact hdp), HDR.out, HLL.out])
                go_wp2
                go_roundw
                case rel => exact ⟨k + 1, left + 1, A4, c4, st.take left ++ [r1], by omega, by go_num, rfl, Lib.hid HLX.out.symm, by omega, HO4, Lib.hid (HW3.out.then_below HB4.out), Lib.hid (HI.out (k + 1) _ w3 w4 HI3.out HW3.out HB4.out), HE⟩
                case measure => simp [intOf]; omega
            · have hr2 : (r2 != 0) = true := by simpa using hr
              have HE : Hid (runF f most 0 e [] = (0, r2)) := Lib.hid (by rw [HR.out, run_why HK.out HTK.out HTL.out (by rw [HDR.out]; exact hr), HDR.out])
              go_wp2
              go_ret2
              refine ⟨by rw [HE.out]; rfl, by rw [HE.out]; exact fun h => absurd h hr, HW3.out⟩
          · go_wp2_with fail
            have HB2 : Hid (Below wr.heap.size wr (w1.alloc (.cells #[.int .i64 t, .int .i64 p1, .int .i64 p2, .func (.func g) #[] lb'] 59))) := Lib.hid (HB1W.out.alloc HB1W.out.size _)
            have hc0 : (w1.alloc (.cells #[.int .i64 t, .int .i64 p1, .int .i64 p2, .func (.func g) #[] lb'] 59)).cell? ⟨w1.heap.size, 0, none⟩ = some (.int .i64 t) := World.cell?_alloc_at _ _ _ _ rfl
            have hc1 : (w1.alloc (.cells #[.int .i64 t, .int .i64 p1, .int .i64 p2, .func (.func g) #[] lb'] 59)).cell? ⟨w1.heap.size, 1, none⟩ = some (.int .i64 p1) := World.cell?_alloc_at _ _ _ _ rfl
            have hc2 : (w1.alloc (.cells #[.int .i64 t, .int .i64 p1, .int .i64 p2, .func (.func g) #[] lb'] 59)).cell? ⟨w1.heap.size, 2, none⟩ = some (.int .i64 p2) := World.cell?_alloc_at _ _ _ _ rfl
            have hc3 : (w1.alloc (.cells #[.int .i64 t, .int .i64 p1, .int .i64 p2, .func (.func g) #[] lb'] 59)).cell? ⟨w1.heap.size, 3, none⟩ = some (.func (.func g) #[] lb') := World.cell?_alloc_at _ _ _ _ rfl
            have HF2 : Hid (OpF (w1.alloc (.cells #[.int .i64 t, .int .i64 p1, .int .i64 p2, .func (.func g) #[] lb'] 59)) w.heap.size op (.func (.func g) #[] lb')) := Lib.hid ((HF.out.keep (by simp) (fun p _ h2 => ((Below.refl w1.heap.size w1).alloc (Nat.le_refl _) _).cell h2)).lower (by have := HW.out.size; simp; omega))
            have hbx : w1.heap.size < (w1.alloc (.cells #[.int .i64 t, .int .i64 p1, .int .i64 p2, .func (.func g) #[] lb'] 59)).heap.size := by simp
            have hbw : wr.heap.size ≤ w1.heap.size := HB1W.out.size
            generalize w1.alloc (.cells #[.int .i64 t, .int .i64 p1, .int .i64 p2, .func (.func g) #[] lb'] 59) = w2 at *
            generalize w1.heap.size = bx at *
            obtain ⟨r1, r2, HFR⟩ : ∃ r1 r2, Hid (f k (e.getD k (0, 0)) (st.drop left) = (r1, r2)) := ⟨_, _, Lib.hid rfl⟩
            have HCALL : Hid (Calls Try.prog gf (#[.int .i64 k, .agg #[.int .i64 t, .int .i64 p1, .int .i64 p2, .func (.func g) #[] lb'], .slice B2 t (d - left)] ++ lb) w2.drew fun x W' =>
                x = .returned (.tuple #[.int .i64 r1, .int .i64 r2]) ∧ (r2 = 0 → I (k + 1) (st.take left ++ [r1]) W') ∧ Turn T w2.drew W') := Lib.hid (by
              have hBd : Below w.heap.size wr w2.drew := (HB2.out.mono HW.out.size).drew
              have h1 := HP.out k st w2.drew (.agg #[.int .i64 t, .int .i64 p1, .int .i64 p2, .func (.func g) #[] lb']) B2 t (d - left) (st.drop left) HK.out
                (HI.out k st wr _ HIK.out HW.out hBd) (HW.out.then_below hBd)
                ⟨_, by rw [HOP.out, HT.out, HP1.out, HP2.out], by rw [HOP.out]; exact HF2.out⟩ (by rw [HOP.out, HT.out]) HN2.out (by have := HN.out; omega) (by rw [← HN.out, Nat.add_sub_cancel])
                (HIA.out _ HB2.out.drew) HBL.out
              rw [HFR.out, ← HN.out, Nat.add_sub_cancel] at h1
              exact h1)
            go_region_held3 (fun w' => w'.cell? ⟨bx, 0, none⟩ = some (.int .i64 t) ∧ w'.cell? ⟨bx, 1, none⟩ = some (.int .i64 p1) ∧ w'.cell? ⟨bx, 2, none⟩ = some (.int .i64 p2) ∧ w'.cell? ⟨bx, 3, none⟩ = some (.func (.func g) #[] lb'))
              (first | exact ⟨hc0, hc1, hc2, hc3⟩ | exact ⟨g0, g1, g2, g3⟩ | go_keep)
              ((refine HCALL.out.mono ?_; rintro x w3 ⟨rfl, hx1, hx2⟩; have HX1 := Lib.hid hx1; have HX2 := Lib.hid hx2; have hnT : ¬ T bx := (fun h => by have := HTT.out bx h; have := HW.out.size; omega); have g0 := (hx2.cell (p := ⟨bx, 0, none⟩) hbx hnT).trans hc0; have g1 := (hx2.cell (p := ⟨bx, 1, none⟩) hbx hnT).trans hc1; have g2 := (hx2.cell (p := ⟨bx, 2, none⟩) hbx hnT).trans hc2; have g3 := (hx2.cell (p := ⟨bx, 3, none⟩) hbx hnT).trans hc3; clear hx1 hx2))
            have HW3 : Hid (Turn T w w3) := Lib.hid (by
              have h2 := HX2.out
              exact (HW.out.then_below (HB2.out.mono HW.out.size).drew).trans ⟨h2.os, h2.tape, h2.output, h2.size, h2.block⟩)
            have HS3 : Hid (OI w.heap.size w3 (.slice B (left + t) d) st) := Lib.hid (OI.turn (OI.below HS.out HB2.out.drew) HX2.out HTT.out)
            have HDR : Hid ((f k (e.getD k (0, 0)) (st.drop (st.length - t))) = (r1, r2)) := Lib.hid (by rw [← HN.out, Nat.add_sub_cancel]; exact HFR.out)
            have HTK : Hid (takesZ (e.getD k (0, 0)).1 = t) := Lib.hid (by rw [HOP.out, HT.out])
            have HTL : Hid (t ≤ st.length) := Lib.hid (by have := HN.out; omega)
            have HLL : Hid (st.length - t = left) := Lib.hid (by have := HN.out; omega)
            clear hc0 hc1 hc2 hc3 g0 g1 g2 g3 hnT EQ hl1
            rename_i hHeld
            clear hHeld
            clear HCALL HF HF2 HIA
            by_cases hr : r2 = 0
            · subst hr
              have HI3 : Hid (I (k + 1) (st.take left ++ [r1]) w3) := Lib.hid (HX1.out rfl)
              have EH := head_run B left t d (by have := HDS.out; have := HN.out; omega)
              have hwz : w.heap.size ≤ w3.heap.size := HW3.out.size
              have HLX : Hid ((st.take left ++ [r1]).length = left + 1) := Lib.hid (by have := HN.out; simp; omega)
              have HO3 : Hid (OI w.heap.size w3 (.slice B left d) (st.take left)) := Lib.hid (HS3.out.head left (by have := HN.out; omega))
              go_upto_region 15 with (at_builtin; refine append_one rfl (.tmp 53) (.tmp 55) rfl w.heap.size _ (st.take left) rfl HO3.out r1 rfl (by have := HN.out; simp; omega) hwz ?_; intro v4 w4 ho4 hb4; obtain ⟨A4, c4, rfl, _⟩ := ho4.form; rw [HLX.out] at ho4 ⊢; have HO4 := Lib.hid ho4; have HB4 := Lib.hid hb4; clear ho4 hb4)
              clear EH
              by_cases hdp : most < (left : Int) + 1
              · have HE : Hid (runF f most 0 e [] = (0, 12)) := Lib.hid (by rw [HR.out]; exact run_deep HK.out HTK.out HTL.out (by rw [HDR.out]) (by rw [HLL.out]; exact hdp))
                go_wp2
                go_ret2
                refine ⟨by rw [HE.out]; rfl, by rw [HE.out]; exact fun h => absurd h (by decide), ?_⟩
                exact HW3.out.then_below HB4.out
              · have HE : Hid (runF f most 0 e [] = runF f most (k + 1) (e.drop (k + 1)) (st.take left ++ [r1])) := Lib.hid (by
                  rw [HR.out, run_next HK.out HTK.out HTL.out (by rw [HDR.out]) (by rw [HLL.out]; exact hdp), HDR.out, HLL.out])
                go_wp2
                go_roundw
                case rel => exact ⟨k + 1, left + 1, A4, c4, st.take left ++ [r1], by omega, by go_num, rfl, Lib.hid HLX.out.symm, by omega, HO4, Lib.hid (HW3.out.then_below HB4.out), Lib.hid (HI.out (k + 1) _ w3 w4 HI3.out HW3.out HB4.out), HE⟩
                case measure => simp [intOf]; omega
            · have hr2 : (r2 != 0) = true := by simpa using hr
              have HE : Hid (runF f most 0 e [] = (0, r2)) := Lib.hid (by rw [HR.out, run_why HK.out HTK.out HTL.out (by rw [HDR.out]; exact hr), HDR.out])
              go_wp2
              go_ret2
              refine ⟨by rw [HE.out]; rfl, by rw [HE.out]; exact fun h => absurd h hr, HW3.out⟩
    · obtain rfl : k = m := by omega
      have HE : Hid (runF f most 0 e [] = if n = 0 then (0, 4) else if 1 < n then (0, 5) else (st.getD 0 0, 0)) := Lib.hid (by
        rw [HR.out, List.drop_of_length_le (by rw [HM.out]; exact Nat.le_refl _), runF_end, HN.out])
      by_cases n0 : n = 0
      · subst n0
        have HE2 := Lib.hid (HE.out.trans (if_pos rfl))
        clear HE
        go_wp2
        go_ret2
        refine ⟨by rw [HE2.out]; rfl, by rw [HE2.out]; exact fun h => absurd h (by decide), HW.out⟩
      · by_cases n1 : 1 < n
        · have HE2 := Lib.hid (HE.out.trans ((if_neg n0).trans (if_pos n1)))
          clear HE
          go_wp2
          go_ret2
          refine ⟨by rw [HE2.out]; rfl, by rw [HE2.out]; exact fun h => absurd h (by decide), HW.out⟩
        · obtain rfl : n = 1 := by omega
          have HE2 := Lib.hid (HE.out.trans ((if_neg n0).trans (if_neg n1)))
          obtain ⟨A', c', hf, hi⟩ := HS.out.form
          injection hf with hf
          subst hf
          obtain ⟨b, o, rfl, hb, hc⟩ := hi (by have := HN.out; omega)
          have c1 := hc 0 (by have := HN.out; omega)
          have HL1 : Hid (st = [st.getD 0 0]) := Lib.hid (by
            have h := HN.out
            match st, h with
            | [a], _ => rfl)
          have HIK2 : Hid (I k [st.getD 0 0] wr) := Lib.hid (by rw [← HL1.out]; exact HIK.out)
          rw [Nat.add_zero] at c1
          generalize st.getD 0 0 = y at c1 HE2 HIK2
          clear HE hc hi n0 n1
          go_wp2
          go_ret2
          refine ⟨by rw [HE2.out]; rfl, fun _ => by rw [HE2.out]; exact HIK2.out, HW.out⟩
end Go.Proofs.Ytgbnafakaaooiaa
