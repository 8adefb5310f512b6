/- The program's work over int: nodes are worked off with a stack by any function value that keeps what it is handed. -/
import Derived.Test.YtophajljjnjcdaaLtlLeft
import Derived.Deep.RegionHeld3
namespace Go.Proofs.Ytophajljjnjcdaa.lt.wi
open Go.ChangeShapes Go.WideShapes Go.ChangeAt Go.RowKit sr

def enc (x : Int) : List Value := [.int .i64 x]
theorem enc_len (x : Int) : (enc x).length = 1 := rfl
theorem enc_one (x : Int) : ∀ u ∈ enc x, u.oneCell' = true := fun u hu => by
  simp [enc] at hu
  subst hu
  rfl
theorem info : (Try.prog.info? 3).map (fun i => (i.zero, i.size, i.bytes)) = some (some (.int .i64 0), 1, 8) := by kernel_rfl
theorem rs_at {w : World} {A : Option Addr} {l : List Int} (h : RS enc 1 w A l) {i : Nat} (hi : i < l.length) : ∃ b off, A = some ⟨b, off, none⟩ ∧ b < w.heap.size ∧ w.cell? ⟨b, off + i, none⟩ = some (.int .i64 (l.getD i default)) := by
  obtain ⟨b, off, e, hb, hc⟩ := h (by omega)
  refine ⟨b, off, e, hb, ?_⟩
  have := hc i hi 0 (by omega)
  rw [Nat.mul_one, Nat.add_zero] at this
  exact this
theorem tail_rs {w : World} {A : Option Addr} {l : List Int} {n c : Nat} (h : RS enc 1 w A l) (hn : l.length ≤ c) : RS enc 1 w (if c = n then A else A.map (·.add n)) (l.drop n) := fun h0 => by
  have h1 : n < l.length := by simp at h0; omega
  obtain ⟨b, off, rfl, hb, hc⟩ := h (by omega)
  rw [if_neg (by omega)]
  refine ⟨b, off + n, by simp [Addr.add], hb, fun i hi j hj => ?_⟩
  have h2 : n + i < l.length := by simp at hi; omega
  have h3 := hc _ h2 j hj
  rw [show off + n + i * 1 + j = off + (n + i) * 1 + j by omega, h3]
  simp [List.getD]

set_option maxRecDepth 20000 in
/-- The tail of a slice, in one way. -/
theorem tail_run (B : Option Addr) (left t d : Nat) : ∃ B2, B2 = (if d = left then B else B.map (·.add left)) ∧ ∀ W, (Instr.sliceAt 59 (.slice B (left + t) d) (some (.int .i64 (left : Int))) none none).run Try.prog W = .ok (.slice B2 t (d - left)) W := by
  refine ⟨_, rfl, fun W => ?_⟩
  have hsz : (sizeOf (Try.prog.elem 59)).run Try.prog W = .ok 1 W := by simp [go_sem]
  rw [run_sliceAt_slice (P := Try.prog) W 59 _ _ _ _ Try.underlying59, run_slice_l (P := Try.prog) W 59 B (left + t) d Try.underlying59 .i64 left (by omega) (by omega), hsz]
  simp [Result.andThen, sliced]
set_option maxRecDepth 20000 in
/-- The head of a slice. -/
theorem head_run (B : Option Addr) (left t d : Nat) (h : left + t ≤ d) (W : World) : (Instr.sliceAt 59 (.slice B (left + t) d) none (some (.int .i64 (left : Int))) none).run Try.prog W = .ok (.slice B left d) W := by
  have hsz : (sizeOf (Try.prog.elem 59)).run Try.prog W = .ok 1 W := by simp [go_sem]
  rw [run_sliceAt_slice (P := Try.prog) W 59 _ _ _ _ Try.underlying59, run_slice_h (P := Try.prog) W 59 B (left + t) d Try.underlying59 .i64 left (by omega) (by omega), hsz]
  cases B <;> simp [Result.andThen, sliced, Addr.add]
/-- The head of a row of the call's own. -/
theorem or_head {base : Nat} {w : World} {A : Option Addr} {c m : Nat} {l : List Int} (h : OR enc 1 base 3 w (.slice A m c) l) (n : Nat) (hn : n ≤ l.length) : OR enc 1 base 3 w (.slice A n c) (l.take n) := by
  obtain ⟨h1, h2⟩ := h
  rcases h2 with ⟨e, h0⟩ | ⟨g, cap, cur, e, hb, hg, h3, h4, h5, h6⟩
  · have hn0 : n = 0 := by omega
    injection e with e1 e2 e3
    subst e1 e3 hn0
    exact World.ownsRow_nil _ _ _ _
  · injection e with e1 e2 e3
    subst e1 e3
    have hl : (l.take n).length = n := by simp; omega
    have hfl : flatR enc (l.take n) = (flatR enc l).take n := by
      have e : ∀ q : List Int, flatR enc q = q.map (fun x => .int .i64 x) := fun q => by
        unfold flatR enc
        induction q with
        | nil => rfl
        | cons x q ih => simp [List.flatMap_cons, ih]
      rw [e, e, List.map_take]
    refine ⟨by rw [flatR_length enc_len], .inr ⟨g, c, cur, by rw [hl], hb, hg, by rw [hl]; omega, h4, h5, ?_⟩⟩
    rw [hl, hfl, ← h6, List.take_take]
    congr 1
    omega
/-- A row of the call's own stays where its block does. -/
theorem or_turn {T : Nat → Prop} {base : Nat} {w w' : World} {v : Value} {l : List Int} (h : OR enc 1 base 3 w v l) (k : Turn T w w') (hT : ∀ q, T q → q < base) : OR enc 1 base 3 w' v l := by
  obtain ⟨h1, h2⟩ := h
  refine ⟨h1, ?_⟩
  rcases h2 with h2 | ⟨g, cap, cur, e, hb, hg, r⟩
  · exact .inl h2
  · refine .inr ⟨g, cap, cur, e, hb, ?_, r⟩
    have hlt : g < w.heap.size := by
      rcases Nat.lt_or_ge g w.heap.size with hlt | hge
      · exact hlt
      · rw [Array.getElem?_eq_none hge] at hg; cases hg
    rw [k.block g hlt (fun hq => by have := hT g hq; omega)]
    exact hg
theorem or_cap {base : Nat} {w : World} {A : Option Addr} {c m : Nat} {l : List Int} (h : OR enc 1 base 3 w (.slice A m c) l) : m = l.length ∧ m ≤ c ∧ (∀ a, A = some a → base ≤ a.block) ∧ RS enc 1 w A l := by
  have hb := World.ownsRow.lt h
  obtain ⟨A', c', e, hr⟩ := OR.rs enc_len h
  injection e with e1 e2 e3
  subst e1 e2 e3
  refine ⟨rfl, ?_, fun a e => (hb a.block (by rw [e]; rfl)).1, hr⟩
  rcases h.2 with ⟨e, h0⟩ | ⟨g, cap, cur, e, _, _, h3, _⟩
  · injection e with e1 e2 e3
    omega
  · injection e with e1 e2 e3
    subst e3
    omega

/-- What the function value leaves: of node number k. -/
def MadeP (T : Nat → Prop) (I : Nat → List Int → World → Prop) (k : Nat) (st : List Int) (t : Nat) (W : World) (x : Ending) (W' : World) : Prop :=
  ∃ r : Int, x = .returned (.int .i64 r) ∧ I (k + 1) (st.take (st.length - t) ++ [r]) W' ∧ Turn T W W'
/-- What it is asked. -/
def MadeK (gf : Nat) (lb : Array Value) (T : Nat → Prop) (e : List (Int × Int)) (I : Nat → List Int → World → Prop) (w : World) : Prop :=
  ∀ (k : Nat) (st : List Int) (W : World) (B : Option Addr) (t c : Nat), k < e.length → I k st W → Turn T w W → ndW st.length (e.getD k (0, 0)) = 0 → kT (e.getD k (0, 0)).1 = t → t ≤ st.length → RS enc 1 W B (st.drop (st.length - t)) → (∀ a, B = some a → w.heap.size ≤ a.block) →
    Calls Try.prog gf (#[.int .i64 k, .slice B t c] ++ lb) W (MadeP T I k st t W)
/-- What work leaves. -/
def WorkP (T : Nat → Prop) (e : List (Int × Int)) (I : Nat → List Int → World → Prop) (w : World) (x : Ending) (W' : World) : Prop :=
  ∃ r : Int, x = .returned (.tuple #[.int .i64 r, .int .i64 (wrF 0 e)]) ∧ (wrF 0 e = 0 → I e.length [r] W') ∧ (wrF 0 e ≠ 0 → r = 0) ∧ Turn T w W'
/-- What the call of the function value leaves, for work. -/
def CallP (T : Nat → Prop) (I : Nat → List Int → World → Prop) (k : Nat) (st : List Int) (B : Option Addr) (left d : Nat) (w : World) (x : Ending) (W' : World) : Prop :=
  ∃ r : Int, x = .returned (.int .i64 r) ∧ I (k + 1) (st.take left ++ [r]) W' ∧ Turn T w W' ∧ OR enc 1 w.heap.size 3 W' (.slice B left d) (st.take left)

set_option maxRecDepth 20000 in
set_option maxHeartbeats 4000000 in
theorem work_any (gf : Nat) (lb : Array Value) (T : Nat → Prop) (e : List (Int × Int)) (I : Nat → List Int → World → Prop) (A : Option Addr) (c m : Nat) (w : World)
    (hm : m = e.length) (hA : PA w A e) (hlm : m ≤ 1000) (hT : ∀ k, T k → k < w.heap.size) (hTA : ∀ a, A = some a → ¬ T a.block)
    (eg : ∀ args w, (callFunc gf args).run Try.prog w = .ok (.enter gf args) w) (hI : ∀ k st W W', I k st W → Turn T w W → Below w.heap.size W W' → I k st W') (hP : MadeK gf lb T e I w) (h0 : I 0 [] w) :
    Calls Try.prog 55 #[.slice A m c, .func (.func gf) #[] lb] w (WorkP T e I w) := by
  have HM := Lib.hid hm
  have HA := Lib.hid hA
  have HTT := Lib.hid hT
  have HTA := Lib.hid hTA
  have HI := Lib.hid hI
  have HP := Lib.hid hP
  have H0 := Lib.hid h0
  clear hm hA hT hTA hI hP h0
  go_enter Try.func55, Try.ntmps55
  go_wp2
  go_loopw [7, 14] (fun s i wr => ∃ (k n : Nat) (B : Option Addr) (d : Nat) (st : List Int), k ≤ m ∧ i = .int .i64 k ∧ s = .slice B n d ∧ Hid (n = st.length) ∧ n ≤ k ∧ Hid (OR enc 1 w.heap.size 3 wr (.slice B n d) st) ∧ Hid (Turn T w wr) ∧ Hid (I k st wr) ∧
    Hid (wrF 0 e = wrF n (e.drop k))) (fun _ i _ => m - (intOf i).toNat)
  case atStart => exact ⟨0, 0, none, 0, [], Nat.zero_le _, rfl, rfl, Lib.hid rfl, Nat.le_refl _, Lib.hid (World.ownsRow_nil _ _ _ _), Lib.hid (Turn.refl _ _), H0, Lib.hid rfl⟩
  case round =>
    obtain ⟨k, n, B, d, st, hk, rfl, rfl, HN, hn, HS, HW, HIK, HR⟩ := hrel
    have HC := Lib.hid (or_cap HS.out)
    by_cases hlt : k < m
    · obtain ⟨b, o, rfl, hb, hc⟩ := (HA.out.turn HW.out HTA.out) (by rw [← HM.out]; omega)
      obtain ⟨c1, c2⟩ := hc k (by rw [← HM.out]; exact hlt)
      have HK : Hid (k < e.length) := Lib.hid (by rw [← HM.out]; exact hlt)
      obtain ⟨op, q, HND⟩ : ∃ op q, Hid (e.getD k (0, 0) = (op, q)) := ⟨_, _, Lib.hid rfl⟩
      rw [HND.out] at c1 c2
      clear hc
      go_wp2_with fail
      refine (left_any op q n _ (by omega)).mono ?_
      rintro x w1 ⟨rfl, hb1⟩
      have HB1W : Hid (Below wr.heap.size wr w1) := Lib.hid (((Below.refl _ _).alloc (Nat.le_refl _) _).trans (hb1.mono (by simp)))
      clear hb1 c1 c2
      by_cases hw : ndW n (op, q) = 0
      · obtain ⟨h1, h2, _⟩ := ndW_ok hw
        obtain ⟨t, HT⟩ : ∃ t : Nat, Hid (kT op = t) := ⟨(kT op).toNat, Lib.hid (by simp at h1; omega)⟩
        have htn : t ≤ n := by have := HT.out; simp at h2; omega
        have ht2 : t ≤ 2 := by have := kT_range op; have := HT.out; omega
        obtain ⟨left, rfl⟩ : ∃ left, n = left + t := ⟨n - t, by omega⟩
        have HLV : Hid (leftV (left + t) (op, q) = (left : Int)) := Lib.hid (by unfold leftV; rw [if_pos hw]; show ((left + t : Nat) : Int) - kT op = _; rw [HT.out]; omega)
        have HW0 := Lib.hid hw
        rw [HLV.out, HW0.out]
        have EH := head_run B left t d (by have := HC.out.2.1; omega)
        obtain ⟨B2, HB2, ET⟩ := tail_run B left t d
        have HBB := Lib.hid HB2
        have HN2 : Hid (st.length - t = left) := Lib.hid (by have := HN.out; omega)
        have HCALL : Hid (∀ W, Below wr.heap.size wr W → Calls Try.prog gf (#[.int .i64 k, .slice B2 t (d - left)] ++ lb) W (CallP T I k st B left d w)) := Lib.hid (fun W hW => by
          have hTW : Turn T w W := HW.out.then_below (hW.mono HW.out.size)
          have hOR : OR enc 1 w.heap.size 3 W (.slice B (left + t) d) st := HS.out.below hW
          refine (HP.out k st W B2 t (d - left) HK.out (HI.out k st wr W HIK.out HW.out (hW.mono HW.out.size)) hTW (by rw [← HN.out, HND.out]; exact HW0.out) (by rw [HND.out]; exact HT.out) (by have := HN.out; omega) ?_ ?_).mono ?_
          · rw [HN2.out, HBB.out]
            exact tail_rs (or_cap hOR).2.2.2 (by have := HC.out.2.1; have := HN.out; omega)
          · intro a ha
            rw [HBB.out] at ha
            split at ha
            · exact HC.out.2.2.1 a ha
            · obtain ⟨a', h', rfl⟩ := Option.map_eq_some_iff.1 ha
              rw [show (a'.add left).block = a'.block from by first | rfl | (simp [Addr.add]; done) | (unfold Addr.add; split <;> rfl)]
              exact HC.out.2.2.1 a' h'
          · rintro x W' ⟨r, rfl, hi, ht⟩
            rw [HN2.out] at hi
            exact ⟨r, rfl, hi, hTW.trans ht, or_head (or_turn hOR ht HTT.out) left (by have := HN.out; omega)⟩)
        have HLT : Hid ((st.take left).length = left) := Lib.hid (by have := HN.out; simp; omega)
        have HBW : Hid (∀ W, Below w1.heap.size w1 W → Below wr.heap.size wr W) := Lib.hid (fun W h => HB1W.out.trans (h.mono HB1W.out.size))
        clear HB2 h1 h2 hw
        go_wp2_with fail
        go_region_held3 (fun _ => True) (trivial)
          (first
            | (refine (HCALL.out _ (HBW.out _ (by first | exact (Below.refl _ _).drew | exact Below.refl _ _))).mono ?_; rintro x w3 ⟨r, rfl, hx1, hx2, hx3⟩; have HX1 := Lib.hid hx1; have HX2 := Lib.hid hx2; have HX3 := Lib.hid hx3; clear hx1 hx2 hx3)
            | (refine step_append_own enc_len enc_one Try.underlying59 info rfl (by decide) (by decide) w.heap.size _ (by rfl) (.tmp 32) (.tmp 39) (by rfl) (by rfl) _ (st.take left) (by rfl) (World.ownsRow.alloc HX3.out _) r _ (by rfl) (by rfl) (by have := HLT.out; omega) (by have := HX2.out.size; simp; omega) _ (by first | exact World.alloc_heap_new _ _) ?_; intro v4 w4 ho4 hb4 _; have HO4 := Lib.hid ho4; have HB4 : Hid (Below w.heap.size w3 w4) := Lib.hid (((Below.refl _ _).alloc HX2.out.size _).trans hb4); clear ho4 hb4)
            | fail)
        clear EH ET
        have HLX : Hid ((st.take left ++ [r]).length = left + 1) := Lib.hid (by rw [List.length_append, HLT.out]; rfl)
        obtain ⟨A4, c4, hv4, _⟩ := OR.rs enc_len HO4.out
        rw [HLX.out] at hv4
        subst hv4
        have HE : Hid (wrF 0 e = wrF (left + 1) (e.drop (k + 1))) := Lib.hid (by
          rw [HR.out, wr_next HK.out (by rw [HND.out]; exact HW0.out), HND.out]
          show wrF (left + t - (kT op).toNat + 1) _ = _
          rw [HT.out]
          congr 1
          simp)
        clear HCALL HBW
        go_wp2
        go_roundw
        case rel => exact ⟨k + 1, left + 1, A4, c4, st.take left ++ [r], by omega, by go_num, rfl, Lib.hid HLX.out.symm, by omega, HO4, Lib.hid (HX2.out.then_below HB4.out), Lib.hid (HI.out (k + 1) _ w3 w4 HX1.out HX2.out HB4.out), HE⟩
        case measure => simp [intOf]; omega
      · obtain ⟨z, HZ⟩ : ∃ z, Hid (ndW n (op, q) = z) := ⟨_, Lib.hid rfl⟩
        have HE : Hid (wrF 0 e = z) := Lib.hid (by rw [HR.out, wr_stop HK.out (by rw [HND.out]; exact hw), HND.out, HZ.out])
        have HLV : Hid (leftV n (op, q) = 0) := Lib.hid (by unfold leftV; rw [if_neg hw])
        rw [HLV.out, HZ.out]
        rw [HZ.out] at hw
        have hz : (z != 0) = true := by simpa using hw
        go_wp2
        go_ret2
        refine ⟨0, by rw [HE.out]; rfl, fun h => absurd h (by rw [HE.out]; exact hw), fun _ => rfl, ?_⟩
        exact HW.out.then_below (HB1W.out.mono HW.out.size)
    · obtain rfl : k = m := by omega
      have HE : Hid (wrF 0 e = if n = 0 then 4 else if 1 < n then 5 else 0) := Lib.hid (by rw [HR.out, wr_end (by rw [HM.out]; exact Nat.le_refl _)])
      by_cases n0 : n = 0
      · subst n0
        have HE2 : Hid (wrF 0 e = 4) := Lib.hid (HE.out.trans (if_pos rfl))
        clear HE
        go_wp2
        go_ret2
        exact ⟨0, by rw [HE2.out]; rfl, fun h => absurd h (by rw [HE2.out]; decide), fun _ => rfl, HW.out⟩
      · by_cases n1 : 1 < n
        · have HE2 : Hid (wrF 0 e = 5) := Lib.hid (HE.out.trans ((if_neg n0).trans (if_pos n1)))
          clear HE
          go_wp2
          go_ret2
          exact ⟨0, by rw [HE2.out]; rfl, fun h => absurd h (by rw [HE2.out]; decide), fun _ => rfl, HW.out⟩
        · obtain rfl : n = 1 := by omega
          have HE2 : Hid (wrF 0 e = 0) := Lib.hid (HE.out.trans ((if_neg n0).trans (if_neg n1)))
          obtain ⟨b, o, rfl, hb, c1⟩ := rs_at (i := 0) HC.out.2.2.2 (by have := HN.out; omega)
          have HL1 : Hid (st = [st.getD 0 default]) := Lib.hid (by
            have h := HN.out
            match st, h with
            | [a], _ => rfl)
          have HIK2 : Hid (I e.length [st.getD 0 default] wr) := Lib.hid (by rw [← HL1.out, ← HM.out]; exact HIK.out)
          rw [Nat.add_zero] at c1
          generalize st.getD 0 default = y at c1 HIK2
          clear HE n0 n1 HL1
          go_wp2
          go_ret2
          exact ⟨y, by rw [HE2.out]; rfl, fun _ => HIK2.out, fun h => absurd HE2.out h, HW.out⟩
end Go.Proofs.Ytophajljjnjcdaa.lt.wi
