/- Contracts that the claim stands on, several texts in one: LtxPart, LexRefName, LtlRefSpans. -/
import Derived.IntWalk
import Derived.Deep.Cut
import Derived.Lib.SmallJoins
import Derived.Test.YtgnflnfajkoibaaDoorPut1
import Derived.Test.YtgnflnfajkoibaaDoorPut2
import Derived.Test.YtgnflnfajkoibaaDoorPut3
import Derived.Test.YtgnflnfajkoibaaDoorPut4
import Derived.Test.YtgnflnfajkoibaaDoorPut5
import Derived.Test.YtgnflnfajkoibaaDoorPut6
namespace Go.Proofs.YtgnflnfajkoibaaDoor.tx
open Go.ChangeShapes Go.WideShapes Go.ChangeAt Go.RowKit Go.Deep sr lt

theorem brack (s : List UInt8) : (⟨#[40]⟩ : ByteArray) ++ ⟨s.toArray⟩ ++ ⟨#[41]⟩ = ⟨([40] ++ (s ++ [41])).toArray⟩ := by
  rw [show (⟨#[40]⟩ : ByteArray) = ⟨[(40 : UInt8)].toArray⟩ from rfl, show (⟨#[41]⟩ : ByteArray) = ⟨[(41 : UInt8)].toArray⟩ from rfl, mk_app, mk_app, List.append_assoc]
theorem bare_size {A : Option Addr} {m c : Nat} {NA : Option Addr} {n d : Nat} {e : List (Int × Int)} {N : List ByteArray} {w : World} {f i : Nat} {o : Opr} (h : WrOk w A m c NA n d e N) (hi : i < e.length) (ho : opO (e.getD i (0, 0)).1 = some o) : (bB e N f i o).size ≤ 3000 := by
  have h1 := tB_size h (f + 1) i 0 hi
  have h2 : tB e N (f + 1) i 0 = bB e N f i o := by
    unfold tB bB
    rw [txF_some ho]
    have : 0 < o.bd := by
      have : ∀ x ∈ opsQ, 0 < x.bd := by decide
      exact this o (opO_mem ho).1
    rw [if_neg (by omega)]
  rw [h2] at h1
  exact h1
set_option maxRecDepth 20000 in
set_option maxHeartbeats 8000000 in
theorem part_step (A : Option Addr) (m c : Nat) (NA : Option Addr) (n d : Nat) (e : List (Int × Int)) (N : List ByteArray) (f : Nat) (hP : PartC A m c NA n d e N f) : PartC A m c NA n d e N (f + 1) := by
  intro i a w hif hi h
  have H := Lib.hid h
  have hie : i < e.length := by rw [← h.lm]; exact hi
  obtain ⟨b, o, rfl, hb, hc⟩ := h.pa (by omega)
  obtain ⟨d1, d2⟩ := hc i hie
  obtain ⟨op, q, HND⟩ : ∃ op q, Hid (e.getD i (0, 0) = (op, q)) := ⟨_, _, Lib.hid rfl⟩
  rw [HND.out] at d1 d2
  simp only at d1 d2
  have HD : Hid (∀ W, Below w.heap.size w W → W.cell? ⟨b, o + i * 2, none⟩ = some (.int .i64 op) ∧ W.cell? ⟨b, o + i * 2 + 1, none⟩ = some (.int .i64 q)) := Lib.hid (fun W hW => ⟨(hW.cell (p := ⟨b, o + i * 2, none⟩) hb).trans d1, (hW.cell (p := ⟨b, o + i * 2 + 1, none⟩) hb).trans d2⟩)
  have HIE := Lib.hid hie
  clear hc d1 d2 h hie
  obtain ⟨z, HZ⟩ : ∃ z, Hid (tB e N (f + 1) i a = z) := ⟨_, Lib.hid rfl⟩
  rw [HZ.out]
  have HN1 := World.alloc_heap_new w (.cells #[.slice (some ⟨b, o, none⟩) m c, .slice NA n d] 44)
  have HB1 : Hid (Below w.heap.size w (w.alloc (.cells #[.slice (some ⟨b, o, none⟩) m c, .slice NA n d] 44))) := Lib.hid (below_one _ _)
  obtain ⟨w1, HW1⟩ : ∃ w1, w1 = w.alloc (.cells #[.slice (some ⟨b, o, none⟩) m c, .slice NA n d] 44) := ⟨_, rfl⟩
  rw [← HW1] at HN1 HB1
  have HG1 := Lib.hid HN1
  clear HN1
  go_enter Tryd.func16, Tryd.ntmps16
  go_upto_region 1 with (fail)
  rw [← HW1]
  clear HW1
  obtain ⟨g, HGG⟩ : ∃ g, Hid (w.heap.size = g) := ⟨_, Lib.hid rfl⟩
  rw [HGG.out] at HG1 ⊢
  have cell : ∀ {b i : Nat} {cs : Array Value} {t : TypeId} {v : Value}, w1.heap[b]? = some (.cells cs t (0, 0)) → cs[i]? = some v → b < w1.heap.size ∧ w1.cell? ⟨b, i, none⟩ = some v := fun h hv => ⟨(Array.getElem?_eq_some_iff.1 h).1, by simp [World.cell?, h, hv]⟩
  have HV : Hid (∀ W, Below w1.heap.size w1 W → W.cell? ⟨g, 0, none⟩ = some (.slice (some ⟨b, o, none⟩) m c) ∧ W.cell? ⟨g, 1, none⟩ = some (.slice NA n d)) := Lib.hid (fun W hW =>
    ⟨(hW.cell (p := ⟨g, 0, none⟩) (cell HG1.out (i := 0) rfl).1).trans (cell HG1.out rfl).2, (hW.cell (p := ⟨g, 1, none⟩) (cell HG1.out (i := 0) rfl).1).trans (cell HG1.out rfl).2⟩)
  clear cell
  have HW1 := Lib.hid (H.out.below HB1.out)
  obtain ⟨c0, c1⟩ := HV.out w1 (Below.refl _ _)
  obtain ⟨e0, e1⟩ := HD.out w1 HB1.out
  go_wp2_with fail
  clear c0 c1 e0 e1
  refine (operationOf_any op w1 HW1.out.ow).mono ?_
  obtain ⟨r, HR⟩ : ∃ r, Hid (opO op = r) := ⟨_, Lib.hid rfl⟩
  rw [HR.out]
  rintro x w2 ⟨rfl, hb2⟩
  have HB2 : Hid (Below w1.heap.size w1 w2) := Lib.hid hb2
  clear hb2
  cases r with
  | none =>
    have h3 : Hid (op = 3 ∧ 0 ≤ q) := Lib.hid (by
      rcases node_of H.out.is_ HIE.out with ⟨q', h1, h2, _⟩ | ⟨o', h1, _⟩
      · rw [HND.out] at h1; injection h1 with h4 h5; rw [h5]; exact ⟨h4, h2⟩
      · rw [HND.out, HR.out] at h1; cases h1)
    obtain ⟨k, rfl⟩ : ∃ k : Nat, q = k := ⟨q.toNat, by have := h3.out.2; omega⟩
    have hok := H.out.ok i k HIE.out (by rw [HND.out, h3.out.1])
    rw [Int.toNat_natCast] at hok
    have hkn : k < n := hok.1
    obtain ⟨nb, no, rfl, hnb, hnc⟩ := str_at H.out.nm.rs (i := k) (by rw [← H.out.nm.ln]; exact hkn)
    obtain ⟨s, HS⟩ : ∃ s, Hid (N.getD k default = s) := ⟨_, Lib.hid rfl⟩
    rw [HS.out] at hnc hok
    have HSZ := Lib.hid hok.2
    have HE : Hid (z = s) := Lib.hid (by
      rw [← HZ.out]
      unfold tB
      rw [txF_none (by rw [HND.out]; exact HR.out), HND.out]
      show (⟨((NL N).getD (k : Int).toNat []).toArray⟩ : ByteArray) = s
      rw [Int.toNat_natCast, NL_at, HS.out])
    have HBA : Hid (Below w1.heap.size w1 (w2.alloc (.cells #[.int .i64 0, .string ⟨#[]⟩, .int .i64 0, .int .i64 0, .int .i64 0] 58))) := Lib.hid (HB2.out.alloc HB2.out.size _)
    have HNC : Hid (∀ W, Below w.heap.size w W → W.cell? ⟨nb, no + k, none⟩ = some (.string s)) := Lib.hid (fun W hW => (hW.cell (p := ⟨nb, no + k, none⟩) hnb).trans hnc)
    clear hok hnc
    obtain ⟨w5, HW5⟩ : ∃ w5, w5 = w2.alloc (.cells #[.int .i64 0, .string ⟨#[]⟩, .int .i64 0, .int .i64 0, .int .i64 0] 58) := ⟨_, rfl⟩
    rw [← HW5] at HBA
    simp only [oV, brO, sgA, Option.getD_none, Option.isSome_none]
    go_upto_region 3 with (fail)
    have HW5' : w2.alloc (.cells #[.int .i64 0, .string ⟨[].toArray⟩, .int .i64 0, .int .i64 0, .int .i64 0] 58) = w5 := HW5.symm
    simp only [← HW5]
    clear HW5 HW5'
    have HVS : Hid (∀ W, Below w5.heap.size w5 W → W.cell? ⟨g, 0, none⟩ = some (.slice (some ⟨b, o, none⟩) m c) ∧ W.cell? ⟨g, 1, none⟩ = some (.slice (some ⟨nb, no, none⟩) n d) ∧ W.cell? ⟨b, o + i * 2 + 1, none⟩ = some (.int .i64 (k : Int)) ∧ W.cell? ⟨nb, no + k, none⟩ = some (.string s)) := Lib.hid (fun W hW => by
      have h1 := HBA.out.trans (hW.mono HBA.out.size)
      have h2 := HB1.out.trans (h1.mono HB1.out.size)
      exact ⟨(HV.out W h1).1, (HV.out W h1).2, (HD.out W h2).2, HNC.out W h2⟩)
    obtain ⟨k0, k1, k2, k3⟩ := HVS.out w5 (Below.refl _ _)
    have hki : (k : Int) < (n : Int) := by omega
    go_region_held3 (fun w' => w'.cell? ⟨g, 0, none⟩ = some (.slice (some ⟨b, o, none⟩) m c) ∧ w'.cell? ⟨g, 1, none⟩ = some (.slice (some ⟨nb, no, none⟩) n d) ∧ w'.cell? ⟨b, o + i * 2 + 1, none⟩ = some (.int .i64 (k : Int)) ∧ w'.cell? ⟨nb, no + k, none⟩ = some (.string s))
      (first | exact ⟨k0, k1, k2, k3⟩ | exact ⟨l0, l1, l2, l3⟩ | go_keep)
      ((go_at_call 28; refine ((lx.clone_any s _ (by have := HSZ.out; omega)).mono (fun x w' h => (⟨h.1, h.2⟩ : StrP s _ x w'))).mono ?_; rintro x w6 ⟨rfl, hb6⟩; have HB6 : Hid (Below w5.heap.size w5 w6) := Lib.hid (RowKit.Below.trans (Below.refl _ w5).drew hb6); obtain ⟨l0, l1, l2, l3⟩ := HVS.out w6 HB6.out; clear hb6))
    go_wp2
    go_ret
    refine ⟨by rw [HE.out]; rfl, ?_⟩
    have h1 := HBA.out.trans (HB6.out.mono HBA.out.size)
    exact HB1.out.trans (h1.mono HB1.out.size)
  | some oo =>
    have HBARE : Hid (∀ W, Below w1.heap.size w1 W → Calls Tryd.prog 29 #[.agg #[.slice (some ⟨b, o, none⟩) m c, .slice NA n d], .int .i64 i, oV oo] W (StrP (bB e N f i oo) W)) := Lib.hid (fun W hW => bare_any _ m c NA n d e N f i oo W hP (by omega) hi (HW1.out.below hW) (by rw [HND.out]; exact HR.out))
    have HBS : Hid ((bB e N f i oo).size ≤ 3000) := Lib.hid (bare_size H.out HIE.out (by rw [HND.out]; exact HR.out))
    have HE : Hid (z = if oo.bd < a then (⟨#[40]⟩ : ByteArray) ++ bB e N f i oo ++ ⟨#[41]⟩ else bB e N f i oo) := Lib.hid (by
      rw [← HZ.out]
      unfold tB
      rw [txF_some (by rw [HND.out]; exact HR.out)]
      unfold bB
      split
      · exact (brack _).symm
      · rfl)
    obtain ⟨T, HT⟩ : ∃ T, Hid (bB e N f i oo = T) := ⟨_, Lib.hid rfl⟩
    rw [HT.out] at HBARE HBS HE
    simp only [Option.getD_some, Option.isSome_some]
    unfold oV at HBARE ⊢
    obtain ⟨op', sg, bd, lf, rt⟩ := oo
    obtain ⟨sb, HSB⟩ : ∃ sb, Hid (sgA ⟨op', sg, bd, lf, rt⟩ = sb) := ⟨_, Lib.hid rfl⟩
    rw [HSB.out] at HBARE ⊢
    dsimp only at HBARE HE ⊢
    have HN5 := World.alloc_heap_new w2 (.cells #[.int .i64 op', .string sb, .int .i64 bd, .int .i64 lf, .int .i64 rt] 58)
    have HBA : Hid (Below w1.heap.size w1 (w2.alloc (.cells #[.int .i64 op', .string sb, .int .i64 bd, .int .i64 lf, .int .i64 rt] 58))) := Lib.hid (HB2.out.alloc HB2.out.size _)
    obtain ⟨w5, HW5⟩ : ∃ w5, w5 = w2.alloc (.cells #[.int .i64 op', .string sb, .int .i64 bd, .int .i64 lf, .int .i64 rt] 58) := ⟨_, rfl⟩
    rw [← HW5] at HBA HN5
    have HG5 := Lib.hid HN5
    clear HN5
    go_upto_region 4 with (fail)
    rw [← HW5]
    clear HW5
    have cell : ∀ {b i : Nat} {cs : Array Value} {t : TypeId} {v : Value}, w5.heap[b]? = some (.cells cs t (0, 0)) → cs[i]? = some v → w5.cell? ⟨b, i, none⟩ = some v := fun h hv => by simp [World.cell?, h, hv]
    have q0 : w5.cell? ⟨w2.heap.size, 0, none⟩ = some (.int .i64 op') := cell HG5.out rfl
    have q1 : w5.cell? ⟨w2.heap.size, 1, none⟩ = some (.string sb) := cell HG5.out rfl
    have q2 : w5.cell? ⟨w2.heap.size, 2, none⟩ = some (.int .i64 bd) := cell HG5.out rfl
    have q3 : w5.cell? ⟨w2.heap.size, 3, none⟩ = some (.int .i64 lf) := cell HG5.out rfl
    have q4 : w5.cell? ⟨w2.heap.size, 4, none⟩ = some (.int .i64 rt) := cell HG5.out rfl
    clear cell
    obtain ⟨k0, k1⟩ := HV.out w5 HBA.out
    have HFIN : Hid (∀ W, Below w5.heap.size w5 W → Below w.heap.size w W) := Lib.hid (fun W hW => by
      have h1 := HBA.out.trans (hW.mono HBA.out.size)
      exact HB1.out.trans (h1.mono HB1.out.size))
    by_cases hbd : bd < a
    · obtain ⟨z1, h1⟩ : ∃ z, (⟨#[40]⟩ : ByteArray) ++ T = z := ⟨_, rfl⟩
      obtain ⟨z2, h2⟩ : ∃ z, z1 ++ (⟨#[41]⟩ : ByteArray) = z := ⟨_, rfl⟩
      have s1 : z1.size = 1 + T.size := by rw [← h1, size_app]; rfl
      have HE2 : Hid (z = z2) := Lib.hid (by rw [HE.out, if_pos hbd, h1, h2])
      have hts := HBS.out
      have e1 := fun W => str_add (P := Tryd.prog) h1 (by show 1 + T.size ≤ _; omega) W
      have e2 := fun W => str_add (P := Tryd.prog) h2 (by show z1.size + 1 ≤ _; omega) W
      clear h1 h2 s1 hts
      go_wp2_with fail
      refine (HBARE.out w5 HBA.out).mono ?_
      rintro x w6 ⟨rfl, hb6⟩
      have HB6 := Lib.hid hb6
      clear hb6 q0 q1 q2 q3 q4 k0 k1
      go_wp2
      go_ret
      exact ⟨by rw [HE2.out]; rfl, HFIN.out w6 HB6.out⟩
    · have HE2 : Hid (z = T) := Lib.hid (by rw [HE.out, if_neg hbd])
      go_wp2_with fail
      refine (HBARE.out w5 HBA.out).mono ?_
      rintro x w6 ⟨rfl, hb6⟩
      have HB6 := Lib.hid hb6
      clear hb6 q0 q1 q2 q3 q4 k0 k1
      go_wp2
      go_ret
      exact ⟨by rw [HE2.out]; rfl, HFIN.out w6 HB6.out⟩
theorem part_any (A : Option Addr) (m c : Nat) (NA : Option Addr) (n d : Nat) (e : List (Int × Int)) (N : List ByteArray) : ∀ f, PartC A m c NA n d e N f
  | 0 => fun i a w hi => absurd hi (by omega)
  | f + 1 => part_step A m c NA n d e N f (part_any A m c NA n d e N f)
end Go.Proofs.YtgnflnfajkoibaaDoor.tx
namespace Go.Proofs.YtgnflnfajkoibaaDoor.lx
open Go.ChangeShapes Go.WideShapes Go.ChangeAt Go.RowKit Go.Deep

theorem letter_any (r : Int) (w : World) : Calls Tryd.prog 63 #[.int .u8 r] w fun e w' => e = .returned (.bool (letB r)) ∧ w = w' := by
  by_cases h1 : 97 ≤ r
  · by_cases h2 : r ≤ 122
    · have HE : Hid (letB r = true) := Lib.hid (decide_eq_true (by omega))
      go_enter Tryd.func63, Tryd.ntmps63
      go_wp2
      go_ret
      exact ⟨by rw [HE.out]; rfl, rfl⟩
    · have HE : Hid (letB r = false) := Lib.hid (decide_eq_false (by omega))
      have h3 : 65 ≤ r := by omega
      have h4 : ¬ r ≤ 90 := by omega
      go_enter Tryd.func63, Tryd.ntmps63
      go_wp2
      go_ret
      exact ⟨by rw [HE.out]; rfl, rfl⟩
  · by_cases h2 : 65 ≤ r
    · by_cases h3 : r ≤ 90
      · have HE : Hid (letB r = true) := Lib.hid (decide_eq_true (by omega))
        go_enter Tryd.func63, Tryd.ntmps63
        go_wp2
        go_ret
        exact ⟨by rw [HE.out]; rfl, rfl⟩
      · have HE : Hid (letB r = false) := Lib.hid (decide_eq_false (by omega))
        go_enter Tryd.func63, Tryd.ntmps63
        go_wp2
        go_ret
        exact ⟨by rw [HE.out]; rfl, rfl⟩
    · have HE : Hid (letB r = false) := Lib.hid (decide_eq_false (by omega))
      go_enter Tryd.func63, Tryd.ntmps63
      go_wp2
      go_ret
      exact ⟨by rw [HE.out]; rfl, rfl⟩
theorem digit_any (r : Int) (w : World) : Calls Tryd.prog 64 #[.int .u8 r] w fun e w' => e = .returned (.bool (digB r)) ∧ w = w' := by
  by_cases h1 : 48 ≤ r
  · by_cases h2 : r ≤ 57
    · have HE : Hid (digB r = true) := Lib.hid (decide_eq_true (by omega))
      go_enter Tryd.func64, Tryd.ntmps64
      go_wp2
      go_ret
      exact ⟨by rw [HE.out]; rfl, rfl⟩
    · have HE : Hid (digB r = false) := Lib.hid (decide_eq_false (by omega))
      go_enter Tryd.func64, Tryd.ntmps64
      go_wp2
      go_ret
      exact ⟨by rw [HE.out]; rfl, rfl⟩
  · have HE : Hid (digB r = false) := Lib.hid (decide_eq_false (by omega))
    go_enter Tryd.func64, Tryd.ntmps64
    go_wp2
    go_ret
    exact ⟨by rw [HE.out]; rfl, rfl⟩

/-- Strings at places. -/
def TS (w : World) (A : Option Addr) (n : Nat) : Prop := ∃ b, A = some ⟨b, 0, none⟩ ∧ b < w.heap.size ∧ ∀ i, i < n → ∃ t : ByteArray, t.size ≤ 2 ∧ w.cell? ⟨b, i, none⟩ = some (.string t)
theorem signs_any (w : World) : Calls Tryd.prog 65 #[] w fun e w' => (∃ A, e = .returned (.slice A 25 25) ∧ TS w' A 25) ∧ Below w.heap.size w w' := by
  go_enter Tryd.func65, Tryd.ntmps65
  go_wp2
  go_ret
  refine ⟨⟨_, rfl, _, rfl, by simp, fun i hi => ?_⟩, (Below.refl _ _).alloc (Nat.le_refl _) _⟩
  rcases i with _|_|_|_|_|_|_|_|_|_|_|_|_|_|_|_|_|_|_|_|_|_|_|_|_|i
  all_goals first
    | exact ⟨_, by decide, World.cell?_alloc_at _ _ _ _ rfl⟩
    | omega

set_option maxRecDepth 100000 in
set_option maxHeartbeats 4000000 in
theorem begins_let (s : ByteArray) (w : World) (h0 : 0 < s.size) (h16 : s.size ≤ 16) (hl : letB (bt s 0) = true) :
    Calls Tryd.prog 47 #[.string s, .int .i64 0] w fun e w' => (∃ q : Nat, e = .returned (.tuple #[.int .i64 q, .int .i64 1]) ∧ q ≤ s.size ∧ (q = s.size ↔ ∀ i, i < s.size → wB (bt s i) = true)) ∧ Below w.heap.size w w' := by
  have HL : Hid (letB ((s[0]'h0).toNat : Int) = true) := Lib.hid (by rw [← bt_eq h0]; exact hl)
  clear hl
  go_enter Tryd.func47, Tryd.ntmps47
  go_wp2_with fail
  refine (letter_any _ _).mono ?_
  rw [HL.out]
  rintro e w' ⟨rfl, rfl⟩
  go_wp2
  go_loop [6] (fun i => ∃ k : Nat, k ≤ s.size ∧ i = .int .i64 k ∧ Hid (∀ j, j < k → wB (bt s j) = true)) (fun i => s.size - (intOf i).toNat)
  case atStart => exact ⟨0, Nat.zero_le _, rfl, Lib.hid (fun j hj => absurd hj (Nat.not_lt_zero _))⟩
  case round =>
    obtain ⟨k, hk, rfl, HV⟩ := hrel
    by_cases hlt : k < s.size
    · obtain ⟨b, hb⟩ : ∃ b : Nat, (s[k]'hlt).toNat = b := ⟨_, rfl⟩
      have HBT : Hid (bt s k = b) := Lib.hid ((bt_eq hlt).trans hb)
      have HGO : Hid (wB b = true → ∀ j, j < k + 1 → wB (bt s j) = true) := Lib.hid (fun h j hj => by
        by_cases hjk : j = k
        · rw [hjk, HBT.out]; exact h
        · exact HV.out j (by omega))
      cases h1 : letB b with
      | true =>
        have HW := Lib.hid (HGO.out (wB_let h1))
        have H1 := Lib.hid h1
        clear h1
        go_wp2_with fail
        refine (letter_any _ _).mono ?_
        rw [H1.out]
        rintro e w' ⟨rfl, rfl⟩
        go_wp2
        go_round
        case rel => exact ⟨k + 1, by omega, by go_num, HW⟩
        case measure => simp [intOf]; omega
      | false =>
        cases h2 : digB b with
        | true =>
          have HW := Lib.hid (HGO.out (by unfold wB; rw [h1, h2]; rfl))
          have H1 := Lib.hid h1
          have H2 := Lib.hid h2
          clear h1 h2
          go_wp2_with fail
          refine (letter_any _ _).mono ?_
          rw [H1.out]
          rintro e w' ⟨rfl, rfl⟩
          go_wp2_with fail
          refine (digit_any _ _).mono ?_
          rw [H2.out]
          rintro e w' ⟨rfl, rfl⟩
          go_wp2
          go_round
          case rel => exact ⟨k + 1, by omega, by go_num, HW⟩
          case measure => simp [intOf]; omega
        | false =>
          by_cases h3 : b = 95
          · have HW := Lib.hid (HGO.out (by unfold wB; rw [h3]; decide))
            have h3' : (b : Int) = 95 := by omega
            clear h1 h2
            go_wp2_with fail
            refine (letter_any _ _).mono ?_
            rw [show letB 95 = false by decide]
            rintro e w' ⟨rfl, rfl⟩
            go_wp2_with fail
            refine (digit_any _ _).mono ?_
            rw [show digB 95 = false by decide]
            rintro e w' ⟨rfl, rfl⟩
            go_wp2
            go_round
            case rel => exact ⟨k + 1, by omega, by go_num, HW⟩
            case measure => simp [intOf]; omega
          · have HNO : Hid (¬ ∀ i, i < s.size → wB (bt s i) = true) := Lib.hid (fun h => by
              have := h k hlt
              rw [HBT.out] at this
              unfold wB at this
              rw [h1, h2, decide_eq_false h3] at this
              cases this)
            have H1 := Lib.hid h1
            have H2 := Lib.hid h2
            have h3' : ¬ (b : Int) = 95 := by omega
            clear h1 h2
            go_wp2_with fail
            refine (letter_any _ _).mono ?_
            rw [H1.out]
            rintro e w' ⟨rfl, rfl⟩
            go_wp2_with fail
            refine (digit_any _ _).mono ?_
            rw [H2.out]
            rintro e w' ⟨rfl, rfl⟩
            go_wp2
            go_ret2
            exact ⟨⟨k, rfl, hk, fun h => by omega, fun h => absurd h HNO.out⟩, Below.refl _ _⟩
    · obtain rfl : k = s.size := by omega
      go_wp2
      go_ret2
      exact ⟨⟨_, rfl, Nat.le_refl _, fun _ => HV.out, fun _ => rfl⟩, Below.refl _ _⟩

set_option maxRecDepth 100000 in
set_option maxHeartbeats 4000000 in
theorem begins_dig (s : ByteArray) (w : World) (h0 : 0 < s.size) (h16 : s.size ≤ 16) (hl : letB (bt s 0) = false) (hd : digB (bt s 0) = true) :
    Calls Tryd.prog 47 #[.string s, .int .i64 0] w fun e w' => (∃ n k : Int, e = .returned (.tuple #[.int .i64 n, .int .i64 k]) ∧ k ≠ 1) ∧ Below w.heap.size w w' := by
  have HL : Hid (letB ((s[0]'h0).toNat : Int) = false) := Lib.hid (by rw [← bt_eq h0]; exact hl)
  have HD : Hid (digB ((s[0]'h0).toNat : Int) = true) := Lib.hid (by rw [← bt_eq h0]; exact hd)
  clear hl hd
  go_enter Tryd.func47, Tryd.ntmps47
  go_wp2_with fail
  refine (letter_any _ _).mono ?_
  rw [HL.out]
  rintro e w' ⟨rfl, rfl⟩
  go_wp2_with fail
  refine (digit_any _ _).mono ?_
  rw [HD.out]
  rintro e w' ⟨rfl, rfl⟩
  go_wp2
  go_loop [6] (fun i => ∃ k : Nat, k ≤ s.size ∧ i = .int .i64 k) (fun i => s.size - (intOf i).toNat)
  case atStart => exact ⟨0, Nat.zero_le _, rfl⟩
  case round =>
    obtain ⟨k, hk, rfl⟩ := hrel
    by_cases hlt : k < s.size
    · obtain ⟨b, hb⟩ : ∃ b : Nat, (s[k]'hlt).toNat = b := ⟨_, rfl⟩
      cases h2 : digB b with
      | true =>
        have H2 := Lib.hid h2
        clear h2
        go_wp2_with fail
        refine (digit_any _ _).mono ?_
        rw [H2.out]
        rintro e w' ⟨rfl, rfl⟩
        go_wp2
        go_round
        case rel => exact ⟨k + 1, by omega, by go_num⟩
        case measure => simp [intOf]; omega
      | false =>
        have H2 := Lib.hid h2
        clear h2
        go_wp2_with fail
        refine (digit_any _ _).mono ?_
        rw [H2.out]
        rintro e w' ⟨rfl, rfl⟩
        go_wp2
        go_ret2
        exact ⟨⟨_, _, rfl, by decide⟩, Below.refl _ _⟩
    · obtain rfl : k = s.size := by omega
      go_wp2
      go_ret2
      exact ⟨⟨_, _, rfl, by decide⟩, Below.refl _ _⟩

set_option maxRecDepth 100000 in
set_option maxHeartbeats 4000000 in
theorem begins_sign (s : ByteArray) (w : World) (h0 : 0 < s.size) (h16 : s.size ≤ 16) (hl : letB (bt s 0) = false) (hd : digB (bt s 0) = false) :
    Calls Tryd.prog 47 #[.string s, .int .i64 0] w fun e w' => (∃ n k : Int, e = .returned (.tuple #[.int .i64 n, .int .i64 k]) ∧ k ≠ 1) ∧ Below w.heap.size w w' := by
  have HL : Hid (letB ((s[0]'h0).toNat : Int) = false) := Lib.hid (by rw [← bt_eq h0]; exact hl)
  have HD : Hid (digB ((s[0]'h0).toNat : Int) = false) := Lib.hid (by rw [← bt_eq h0]; exact hd)
  clear hl hd
  go_enter Tryd.func47, Tryd.ntmps47
  go_wp2_with fail
  refine (letter_any _ _).mono ?_
  rw [HL.out]
  rintro e w' ⟨rfl, rfl⟩
  go_wp2_with fail
  refine (digit_any _ _).mono ?_
  rw [HD.out]
  rintro e w' ⟨rfl, rfl⟩
  go_wp2_with fail
  refine (signs_any w).mono ?_
  rintro e w1 ⟨⟨A, rfl, bs, rfl, hbs, hcs⟩, hb1⟩
  have HCS := Lib.hid hcs
  have HB1 := Lib.hid hb1
  clear hcs hb1
  go_wp2
  go_loopw [8] (fun i wr => ∃ (k j : Nat), k ≤ 25 ∧ i = .int .i64 k ∧ wr = w1.drewN j) (fun i _ => 25 - (intOf i).toNat)
  case atStart => exact ⟨0, 0, Nat.zero_le _, rfl, rfl⟩
  case round =>
    obtain ⟨k, j, hk, rfl, rfl⟩ := hrel
    have HBJ : Hid (∀ n, Below w.heap.size w (w1.drewN n)) := Lib.hid (fun n => below_drewN HB1.out n)
    by_cases hlt : k < 25
    · obtain ⟨t, ht, ct⟩ := HCS.out k hlt
      by_cases hsz : t.size ≤ s.size
      · have hsl : ∀ W, (Instr.slice 9 (.string s) (some (.int .i64 0)) (some (.int .i64 (t.size : Int))) none).run Tryd.prog W = .ok (.string (s.extract 0 t.size)) W := fun W => by
          rw [run_slice_string W 9 s .i64 .i64 0 t.size Tryd.underlying9 (by omega) (by omega) (by omega)]
          rfl
        have q1 : IntKind.i64.wrap (0 + (t.size : Int)) = (t.size : Int) := (IntWalk.i64_in _ (by omega)).trans (by omega)
        have q2 : IntKind.i64.wrap ((s.size : Int) - 0) = (s.size : Int) := (IntWalk.i64_in _ (by omega)).trans (by omega)
        obtain ⟨bb, hbb⟩ : ∃ bb, ((s.extract 0 t.size).toList == t.toList) = bb := ⟨_, rfl⟩
        cases bb with
        | true =>
          go_wp2
          go_quiet (fail)
          go_wp2
          go_ret2
          exact ⟨⟨_, _, rfl, by decide⟩, HBJ.out _⟩
        | false =>
          go_wp2
          go_quiet (fail)
          go_wp2
          go_roundw
          case rel => exact ⟨k + 1, _, by omega, by go_num, rfl⟩
          case measure => simp [intOf]; omega
      · have q2 : IntKind.i64.wrap ((s.size : Int) - 0) = (s.size : Int) := (IntWalk.i64_in _ (by omega)).trans (by omega)
        have hsz2 : decide ((t.size : Int) ≤ (s.size : Int)) = false := decide_eq_false (by omega)
        go_wp2
        go_quiet (fail)
        go_wp2
        go_roundw
        case rel => exact ⟨k + 1, _, by omega, by go_num, rfl⟩
        case measure => simp [intOf]; omega
    · obtain rfl : k = 25 := by omega
      have HBX := HBJ.out j
      go_wp2
      go_ret2
      exact ⟨⟨_, _, rfl, by decide⟩, HBX⟩

theorem name_whole (s : ByteArray) (hk : kwB s = false) (h0 : 0 < s.size) (h16 : s.size ≤ 16) : nameB s = decide (letB (bt s 0) = true ∧ ∀ i, i < s.size → wB (bt s i) = true) := by
  unfold nameB
  rw [hk, decide_eq_true (show 1 ≤ s.size ∧ s.size ≤ 16 from ⟨h0, h16⟩)]
  simp only [Bool.not_false, Bool.true_and]
  rw [Bool.eq_iff_iff, decide_eq_true_iff, decide_eq_true_iff]
  exact stop_whole s h0
/-- What begins tells of a text that is to be a name. -/
theorem begins_any (s : ByteArray) (w : World) (hk : kwB s = false) (h0 : 0 < s.size) (h16 : s.size ≤ 16) :
    Calls Tryd.prog 47 #[.string s, .int .i64 0] w fun e w' => (∃ n k : Int, e = .returned (.tuple #[.int .i64 n, .int .i64 k]) ∧ (k == 1 && n == (s.size : Int)) = nameB s) ∧ Below w.heap.size w w' := by
  rw [name_whole s hk h0 h16]
  cases hl : letB (bt s 0) with
  | true =>
    refine (begins_let s w h0 h16 hl).mono ?_
    rintro e w' ⟨⟨q, rfl, hq, hi⟩, hb⟩
    refine ⟨⟨q, 1, rfl, ?_⟩, hb⟩
    rw [Bool.eq_iff_iff]
    simp only [BEq.rfl, Bool.true_and, beq_iff_eq, decide_eq_true_iff, true_and]
    rw [← hi]
    omega
  | false =>
    have hf : decide ((false : Bool) = true ∧ ∀ i, i < s.size → wB (bt s i) = true) = false := decide_eq_false (fun h => by cases h.1)
    rw [hf]
    have fin : ∀ (e : Ending) (w' : World), (∃ n k : Int, e = .returned (.tuple #[.int .i64 n, .int .i64 k]) ∧ k ≠ 1) ∧ Below w.heap.size w w' → (∃ n k : Int, e = .returned (.tuple #[.int .i64 n, .int .i64 k]) ∧ (k == 1 && n == (s.size : Int)) = false) ∧ Below w.heap.size w w' := by
      rintro e w' ⟨⟨n, k, rfl, h⟩, hb⟩
      exact ⟨⟨n, k, rfl, by simp [h]⟩, hb⟩
    cases hd : digB (bt s 0) with
    | true => exact (begins_dig s w h0 h16 hl hd).mono fin
    | false => exact (begins_sign s w h0 h16 hl hd).mono fin

set_option maxRecDepth 100000 in
set_option maxHeartbeats 2000000 in
theorem refName_any (s : ByteArray) (w : World) : Calls Tryd.prog 31 #[.string s] w fun e w' => e = .returned (.bool (nameB s)) ∧ Below w.heap.size w w' := by
  by_cases h0 : s.size = 0
  · have hs : s = ⟨#[]⟩ := by
      obtain ⟨d⟩ := s
      have : d.size = 0 := h0
      rw [Array.eq_empty_of_size_eq_zero this]
    subst hs
    have HE : Hid (nameB ⟨#[]⟩ = false) := Lib.hid (by unfold nameB; rw [decide_eq_false (show ¬ (1 ≤ (ByteArray.mk #[]).size ∧ (ByteArray.mk #[]).size ≤ 16) by decide)]; simp)
    rw [HE.out]
    go_enter Tryd.func31, Tryd.ntmps31
    go_wp2
    go_ret
    exact ⟨rfl, Below.refl _ _⟩
  · have hne : s.toList.isEmpty = false := by
      rw [ByteArray.toList_eq]
      cases hl : s.data.toList with
      | nil =>
        have := congrArg List.length hl
        exact absurd (by simpa using this) h0
      | cons _ _ => rfl
    have hne2 : (s.toList == []) = false := by
      cases hl : s.toList with
      | nil => rw [hl] at hne; cases hne
      | cons _ _ => rfl
    by_cases h16 : 16 < s.size
    · have HE : Hid (nameB s = false) := Lib.hid (by unfold nameB; rw [decide_eq_false (show ¬ (1 ≤ s.size ∧ s.size ≤ 16) by omega)]; simp)
      rw [HE.out]
      go_enter Tryd.func31, Tryd.ntmps31
      go_wp2
      go_ret
      exact ⟨rfl, Below.refl _ _⟩
    · obtain ⟨b1, h1⟩ : ∃ b1, (s.toList == [115, 101, 108, 102]) = b1 := ⟨_, rfl⟩
      obtain ⟨b2, h2⟩ : ∃ b2, (s.toList == [110, 111, 110, 101]) = b2 := ⟨_, rfl⟩
      obtain ⟨b3, h3⟩ : ∃ b3, (s.toList == [108, 101, 110]) = b3 := ⟨_, rfl⟩
      obtain ⟨b4, h4⟩ : ∃ b4, (s.toList == [97, 116]) = b4 := ⟨_, rfl⟩
      have HK : Hid (kwB s = (b1 || b2 || b3 || b4)) := Lib.hid (by unfold kwB kw1 kw2 kw3 kw4; rw [h1, h2, h3, h4])
      have HKE : Hid (kwB s = true → nameB s = false) := Lib.hid (fun h => by unfold nameB; rw [h]; simp)
      have hz16 : ¬ (16 : Int) < (s.size : Int) := by omega
      cases b1 with
      | true =>
        rw [HKE.out (by rw [HK.out]; rfl)]
        go_enter Tryd.func31, Tryd.ntmps31
        go_wp2
        go_ret
        exact ⟨rfl, Below.refl _ _⟩
      | false =>
      cases b2 with
      | true =>
        rw [HKE.out (by rw [HK.out]; rfl)]
        go_enter Tryd.func31, Tryd.ntmps31
        go_wp2
        go_ret
        exact ⟨rfl, Below.refl _ _⟩
      | false =>
      cases b3 with
      | true =>
        rw [HKE.out (by rw [HK.out]; rfl)]
        go_enter Tryd.func31, Tryd.ntmps31
        go_wp2
        go_ret
        exact ⟨rfl, Below.refl _ _⟩
      | false =>
      cases b4 with
      | true =>
        rw [HKE.out (by rw [HK.out]; rfl)]
        go_enter Tryd.func31, Tryd.ntmps31
        go_wp2
        go_ret
        exact ⟨rfl, Below.refl _ _⟩
      | false =>
        have HKF : Hid (kwB s = false) := Lib.hid HK.out
        go_enter Tryd.func31, Tryd.ntmps31
        go_wp2_with fail
        refine (begins_any s w HKF.out (by omega) (by omega)).mono ?_
        rintro e w' ⟨⟨n, k, rfl, hnk⟩, hb⟩
        by_cases hk1 : k = 1
        · subst hk1
          have HE : Hid ((n == (s.size : Int)) = nameB s) := Lib.hid (by rw [← hnk]; simp)
          clear hnk
          go_wp2
          go_ret
          exact ⟨by rw [← HE.out]; rfl, hb⟩
        · have HE : Hid (false = nameB s) := Lib.hid (by rw [← hnk]; simp [hk1])
          have hk2 : (k == 1) = false := by simpa using hk1
          clear hnk
          go_wp2
          go_ret
          exact ⟨by rw [← HE.out]; rfl, hb⟩
end Go.Proofs.YtgnflnfajkoibaaDoor.lx
namespace Go.Proofs.YtgnflnfajkoibaaDoor.lt
open Go.ChangeShapes Go.WideShapes Go.ChangeAt Go.RowKit

theorem oi_mono {base base' : Nat} {w : World} {v : Value} {l : List Int} (h : OI base w v l) (hb : base' ≤ base) : OI base' w v l := Go.Joins.ownsRow_le h hb
theorem oi_empty (w : World) (base : Nat) (hb : base ≤ w.heap.size) : OI base (w.alloc (.cells #[] 3)) (.slice (some ⟨w.heap.size, 0, none⟩) 0 0) [] :=
  ⟨rfl, .inr ⟨w.heap.size, 0, #[], rfl, hb, World.alloc_heap_new _ _, Nat.le_refl _, Nat.zero_le _, by simp, by simp⟩⟩
/-- append of one int onto a row of the call's own, and which block turns. -/
theorem append_one_g {w : World} {ops : Array Oper} {rest : List Oper} {o : Oper} {a : Act} {Q : Exit → Act → World → Prop} (hgd : o.guard = none) (s x : Operand)
    (ho : o.op = .call { callee := .builtin .append, args := #[s, x], argTypes := #[37, 37] })
    (base : Nat) (v : Value) (l : List Int) (hs : a.eval s = v) (hown : OI base w v l) (z : Int)
    (hx : a.eval x = .slice (some ⟨w.heap.size, 0, none⟩) 1 1)
    (hlen : l.length + 1 ≤ 1000000) (hbase : base ≤ w.heap.size)
    (h : ∀ v' w', OI base w' v' (l ++ [z]) → Below base w w' → (w.alloc (.cells #[.int .i64 z] 3)).grownBy w' v.ownBlock → wpList Tryd.prog ops Q rest (a.put o.dst v') w') :
    wpList Tryd.prog ops Q (o :: rest) a (w.alloc (.cells #[.int .i64 z] 3)) := by
  obtain ⟨i0, hi, hz0, hz1, hz2⟩ := info_parts Tryd.info3
  refine wpList_append_own_at _ hgd s x 37 ho base 3 i0 (.int .i64 0) 1 8 Tryd.underlying37 hi hz0 hz1 hz2 rfl (by decide) v l.length _ hs (hown.alloc _) ⟨w.heap.size, 0, none⟩ 1 1 [.int .i64 z] hx rfl (cell_one_new _ _ _) (by simp [Value.oneCell']) (by unfold maxLen; omega) (by omega) (by simp; omega) ?_
  intro v' w' hown' hgrow _ hb
  exact h v' w' (oi_snoc hown') (Below.grown ((Below.refl _ _).alloc hbase _) hgrow (by simp; omega) (fun k hk => (hown.lt k hk).1)) hgrow
/-- A row of a later base stays when an elder one grows. -/
theorem oi_apart {base base2 : Nat} {wr w w' : World} {v lv : Value} {l L : List Int} (hO : OI base wr v l) (hb2 : wr.heap.size ≤ base2) (hL : OI base2 w lv L) (hg : w.grownBy w' v.ownBlock) : OI base2 w' lv L := by
  refine World.ownsRow.kept hL hg ?_
  rcases hv : lv.ownBlock with _ | b
  · exact .inl rfl
  · refine .inr (fun e => ?_)
    have h1 := (World.ownsRow.lt hL b hv).1
    have h2 := (World.ownsRow.lt hO b (by rw [← e])).2
    omega
set_option maxRecDepth 20000 in
set_option maxHeartbeats 8000000 in
theorem refSpans_any (e : List (Int × Int)) (A : Option Addr) (c m : Nat) (w : World) (hm : m = e.length) (hm2 : m ≤ 1000) (hA : PA w A e) :
    Calls Tryd.prog 49 #[.slice A m c] w (RowP w (spansL e)) := by
  have HM := Lib.hid hm
  have HA := Lib.hid hA
  have HK := Lib.hid (refIs_any e A c m w hm hm2 hA)
  clear hm hA
  obtain ⟨z, HZ⟩ : ∃ z, Hid (isF e = z) := ⟨_, Lib.hid rfl⟩
  go_enter Tryd.func49, Tryd.ntmps49
  go_wp2_with fail
  refine HK.out.mono ?_
  rintro x w1 ⟨rfl, rfl⟩
  rw [HZ.out]
  clear HK
  cases z with
  | true =>
    have HI : Hid (wrF 0 e = 0) := Lib.hid (isF_iff.1 HZ.out)
    have HU : Hid (spansL e = outF e m) := Lib.hid (by rw [spansL_is HI.out, HM.out])
    go_wp2
    go_loopw [3, 4, 5] (fun ov sv iv wr => ∃ (i n : Nat) (C B : Option Addr) (d2 d : Nat) (pt : List Int), i ≤ m ∧ iv = .int .i64 i ∧ ov = .slice C i d2 ∧ sv = .slice B n d ∧ Hid (n = pt.length) ∧ Hid (Ok e i pt) ∧ Hid (OI w.heap.size wr (.slice C i d2) (outF e i)) ∧ Hid (InS wr B d (bst e i pt)) ∧ Hid (Below w.heap.size w wr)) (fun _ _ iv _ => m - (intOf iv).toNat)
    case atStart => exact ⟨0, 0, none, none, 0, 0, [], Nat.zero_le _, rfl, rfl, rfl, Lib.hid rfl, Lib.hid (Ok.zero _), Lib.hid (OI.nil _ _), Lib.hid ⟨IA.nil _ _, Nat.le_refl _, Nat.zero_le _, fun _ => rfl⟩, Lib.hid (Below.refl _ _)⟩
    case round =>
      obtain ⟨i, n, C, B, d2, d, pt, hi, rfl, rfl, rfl, HN, HOK, HO, HS, HB⟩ := hrel
      by_cases hlt : i < m
      · have HIL : Hid (i < e.length) := Lib.hid (by rw [← HM.out]; exact hlt)
        obtain ⟨b, o, rfl, hb, hc⟩ := (HA.out.below HB.out) (by rw [← HM.out]; omega)
        obtain ⟨c1, _⟩ := hc i HIL.out
        have HND : Hid (ndW pt.length (e.getD i (0, 0)) = 0) := Lib.hid (by
          obtain ⟨st, h1, h2⟩ := Ok.of_is HI.out i (by rw [← HM.out]; omega)
          rw [h1.uniq HOK.out] at h2
          exact h2 HIL.out)
        have HNK := Lib.hid (ndW_ok HND.out)
        obtain ⟨op, HOP⟩ : ∃ op, Hid ((e.getD i (0, 0)).1 = op) := ⟨_, Lib.hid rfl⟩
        rw [HOP.out] at c1
        obtain ⟨t, HT⟩ : ∃ t : Nat, Hid (kT op = t) := ⟨(kT op).toNat, Lib.hid (by have := HNK.out.1; rw [HOP.out] at this; omega)⟩
        have HKT : Hid (kT (e.getD i (0, 0)).1 = t) := Lib.hid (by rw [HOP.out, HT.out])
        have htn : t ≤ n := by have h := HNK.out.2.1; rw [HKT.out, ← HN.out] at h; omega
        have ht2 : t ≤ 2 := by have := kT_range op; have := HT.out; omega
        have HPL : Hid (n ≤ i) := Lib.hid (by rw [HN.out]; exact HOK.out.1.len)
        clear hc
        obtain ⟨left, rfl⟩ : ∃ left, n = left + t := ⟨n - t, by omega⟩
        have HNT : Hid (pt.length - t = left) := Lib.hid (by have := HN.out; omega)
        have HBL : Hid ((bst e i pt).length = left + t) := Lib.hid (by rw [bst_len, HN.out])
        have EH := wi.head_run B left t d (by have := HS.out.le; rw [HBL.out] at this; exact this)
        obtain ⟨bv, HBV⟩ : ∃ bv, Hid (bgn (outF e i) i t = bv) := ⟨_, Lib.hid rfl⟩
        have HBN := Lib.hid (bst_next HOK.out.1 HKT.out)
        have HON : Hid (outF e (i + 1) = outF e i ++ [bv]) := Lib.hid (by rw [outF_succ, HKT.out, Int.toNat_natCast, HBV.out])
        have HNX := Lib.hid (HOK.out.next HIL.out HND.out)
        have HTL : Hid (((bst e i pt).take left).length = left) := Lib.hid (by rw [List.length_take, HBL.out]; omega)
        have HIA : Hid (IA wr B ((bst e i pt).take left)) := Lib.hid (fun h0 => by
          obtain ⟨b', o', e', hb', hc'⟩ := HS.out.ia (by rw [List.length_take] at h0; omega)
          refine ⟨b', o', e', hb', fun j hj => ?_⟩
          rw [HTL.out] at hj
          rw [hc' j (by rw [HBL.out]; omega)]
          simp [List.getD, hj])
        have HNON : Hid (B = none → d = 0) := Lib.hid HS.out.non
        have HFIRST : Hid (0 < t → (bst e i pt).getD left 0 = bv) := Lib.hid (fun h0 => by
          rw [← HBV.out, ← bst_first HOK.out.1 h0 (by have := HN.out; omega) ht2, HNT.out]
          simp [List.getD])
        have HSB : Hid (InS wr B d (bst e i pt)) := HS
        rw [HNT.out, HBV.out] at HBN
        rw [HKT.out, Int.toNat_natCast, HNT.out] at HNX
        have hwz : w.heap.size ≤ wr.heap.size := HB.out.size
        have HOL : Hid ((outF e i).length = i) := Lib.hid (outF_len e i)
        have hr : ((left + t : Nat) : Int) - t = (left : Int) := by omega
        have HRR := Lib.hid hr
        have HE0 : Hid (t = 0 → bv = i) := Lib.hid (fun h => by rw [← HBV.out, h]; rfl)
        clear hr
        go_wp2_with fail
        refine (refTakes_any op wr).mono ?_
        rintro x w' ⟨rfl, rfl⟩
        rw [HT.out]
        have HL5 : Hid ((bst e (i + 1) (pt.take left ++ [(i : Int)])).length = left + 1) := Lib.hid (by rw [bst_len, List.length_append, List.length_take, ← HN.out, List.length_singleton]; omega)
        have HL7 : Hid ((pt.take left ++ [(i : Int)]).length = left + 1) := Lib.hid (by rw [List.length_append, List.length_take, ← HN.out, List.length_singleton]; omega)
        have HL6 : Hid ((outF e (i + 1)).length = i + 1) := Lib.hid (outF_len _ _)
        have HBW : Hid ((bst e i pt).take left ++ [bv] = bst e (i + 1) (pt.take left ++ [(i : Int)])) := Lib.hid HBN.out.symm
        have HOW : Hid (outF e i ++ [bv] = outF e (i + 1)) := Lib.hid HON.out.symm
        clear HBN HON
        have hlb : left ≤ 1000 := by have := HPL.out; omega
        have ht3 : t = 0 ∨ t = 1 ∨ t = 2 := by omega
        rcases ht3 with rfl | rfl | rfl
        · obtain rfl : bv = (i : Int) := HE0.out rfl
          simp only [Nat.add_zero] at EH
          clear HFIRST HE0 c1
          go_upto_region 11 with (fail)

          go_wp2_with (first
            | (at_builtin; refine append_list rfl (.tmp 34) (.tmp 40) rfl wr.heap.size _ [] rfl (oi_empty wr wr.heap.size (Nat.le_refl _)) B left d ((bst e i pt).take left) HTL.out.symm rfl (HIA.out.below (below_one _ _)) HNON.out (by rw [HTL.out]; have := HPL.out; simp; omega) (by simp) ?_; intro v4 w4 ho4 hb4; rw [List.nil_append] at ho4; obtain ⟨A4, c4, hv4, _⟩ := ho4.form; rw [HTL.out] at hv4; subst hv4; have HO4 := Lib.hid ho4; have HB4 : Hid (Below wr.heap.size wr w4) := Lib.hid ((below_one _ _).trans hb4); clear ho4 hb4)
            | (at_builtin; refine append_one rfl (.tmp 41) (.tmp 43) rfl wr.heap.size _ ((bst e i pt).take left) rfl HO4.out (i : Int) rfl (by rw [HTL.out]; have := HPL.out; omega) HB4.out.size ?_; intro v5 w5 ho5 hb5; rw [HBW.out] at ho5; obtain ⟨A5, c5, hv5, _⟩ := ho5.form; rw [HL5.out] at hv5; subst hv5; have HO5 := Lib.hid ho5; have HB5 : Hid (Below wr.heap.size wr w5) := Lib.hid (HB4.out.trans hb5); clear ho5 hb5)
            | (at_builtin; refine append_one_g rfl (.tmp 45) (.tmp 47) rfl w.heap.size _ (outF e i) rfl (HO.out.below HB5.out) (i : Int) rfl (by rw [HOL.out]; have := HPL.out; omega) (Nat.le_trans hwz HB5.out.size) ?_; intro v6 w6 ho6 hb6 hg6; rw [HOW.out] at ho6; obtain ⟨A6, c6, hv6, _⟩ := ho6.form; rw [HL6.out] at hv6; subst hv6; have HO6 := Lib.hid ho6; have HB6 : Hid (Below w.heap.size w w6) := Lib.hid ((HB.out.trans (HB5.out.mono hwz)).trans hb6); have HO56 : Hid (OI wr.heap.size w6 (.slice A5 (left + 1) c5) (bst e (i + 1) (pt.take left ++ [(i : Int)]))) := Lib.hid (oi_apart HO.out (Nat.le_refl _) (World.ownsRow.alloc HO5.out _) hg6); clear ho6 hb6 hg6)
            | fail)
          go_roundw
          case rel =>
            obtain ⟨A7, c7, f7, i7, _⟩ := HO56.out.ins
            rw [HL5.out] at f7
            injection f7 with f7 _ f8
            subst f7 f8
            exact ⟨i + 1, left + 1, A6, A5, c6, c5, pt.take left ++ [(i : Int)], by omega, by go_num, rfl, rfl, Lib.hid HL7.out.symm, HNX, HO6, Lib.hid i7, HB6⟩
          case measure => simp [intOf]; omega
        · have HF := Lib.hid (HFIRST.out (by decide))
          obtain ⟨b2, o2, rfl, hb2, hc2⟩ := HS.out.ia (by rw [HBL.out]; omega)
          have c2 := hc2 left (by rw [HBL.out]; omega)
          rw [HF.out] at c2
          clear HFIRST HE0 c1 hc2
          go_upto_region 11 with (fail)
          generalize hBB : some (⟨b2, o2, none⟩ : Addr) = B at *

          go_wp2_with (first
            | (at_builtin; refine append_list rfl (.tmp 34) (.tmp 40) rfl wr.heap.size _ [] rfl (oi_empty wr wr.heap.size (Nat.le_refl _)) B left d ((bst e i pt).take left) HTL.out.symm rfl (HIA.out.below (below_one _ _)) HNON.out (by rw [HTL.out]; have := HPL.out; simp; omega) (by simp) ?_; intro v4 w4 ho4 hb4; rw [List.nil_append] at ho4; obtain ⟨A4, c4, hv4, _⟩ := ho4.form; rw [HTL.out] at hv4; subst hv4; have HO4 := Lib.hid ho4; have HB4 : Hid (Below wr.heap.size wr w4) := Lib.hid ((below_one _ _).trans hb4); clear ho4 hb4)
            | (at_builtin; refine append_one rfl (.tmp 41) (.tmp 43) rfl wr.heap.size _ ((bst e i pt).take left) rfl HO4.out bv rfl (by rw [HTL.out]; have := HPL.out; omega) HB4.out.size ?_; intro v5 w5 ho5 hb5; rw [HBW.out] at ho5; obtain ⟨A5, c5, hv5, _⟩ := ho5.form; rw [HL5.out] at hv5; subst hv5; have HO5 := Lib.hid ho5; have HB5 : Hid (Below wr.heap.size wr w5) := Lib.hid (HB4.out.trans hb5); clear ho5 hb5)
            | (at_builtin; refine append_one_g rfl (.tmp 45) (.tmp 47) rfl w.heap.size _ (outF e i) rfl (HO.out.below HB5.out) bv rfl (by rw [HOL.out]; have := HPL.out; omega) (Nat.le_trans hwz HB5.out.size) ?_; intro v6 w6 ho6 hb6 hg6; rw [HOW.out] at ho6; obtain ⟨A6, c6, hv6, _⟩ := ho6.form; rw [HL6.out] at hv6; subst hv6; have HO6 := Lib.hid ho6; have HB6 : Hid (Below w.heap.size w w6) := Lib.hid ((HB.out.trans (HB5.out.mono hwz)).trans hb6); have HO56 : Hid (OI wr.heap.size w6 (.slice A5 (left + 1) c5) (bst e (i + 1) (pt.take left ++ [(i : Int)]))) := Lib.hid (oi_apart HO.out (Nat.le_refl _) (World.ownsRow.alloc HO5.out _) hg6); clear ho6 hb6 hg6)
            | fail)
          go_roundw
          case rel =>
            obtain ⟨A7, c7, f7, i7, _⟩ := HO56.out.ins
            rw [HL5.out] at f7
            injection f7 with f7 _ f8
            subst f7 f8
            exact ⟨i + 1, left + 1, A6, A5, c6, c5, pt.take left ++ [(i : Int)], by omega, by go_num, rfl, rfl, Lib.hid HL7.out.symm, HNX, HO6, Lib.hid i7, HB6⟩
          case measure => simp [intOf]; omega
        · have HF := Lib.hid (HFIRST.out (by decide))
          obtain ⟨b2, o2, rfl, hb2, hc2⟩ := HS.out.ia (by rw [HBL.out]; omega)
          have c2 := hc2 left (by rw [HBL.out]; omega)
          rw [HF.out] at c2
          clear HFIRST HE0 c1 hc2
          go_upto_region 11 with (fail)
          generalize hBB : some (⟨b2, o2, none⟩ : Addr) = B at *

          go_wp2_with (first
            | (at_builtin; refine append_list rfl (.tmp 34) (.tmp 40) rfl wr.heap.size _ [] rfl (oi_empty wr wr.heap.size (Nat.le_refl _)) B left d ((bst e i pt).take left) HTL.out.symm rfl (HIA.out.below (below_one _ _)) HNON.out (by rw [HTL.out]; have := HPL.out; simp; omega) (by simp) ?_; intro v4 w4 ho4 hb4; rw [List.nil_append] at ho4; obtain ⟨A4, c4, hv4, _⟩ := ho4.form; rw [HTL.out] at hv4; subst hv4; have HO4 := Lib.hid ho4; have HB4 : Hid (Below wr.heap.size wr w4) := Lib.hid ((below_one _ _).trans hb4); clear ho4 hb4)
            | (at_builtin; refine append_one rfl (.tmp 41) (.tmp 43) rfl wr.heap.size _ ((bst e i pt).take left) rfl HO4.out bv rfl (by rw [HTL.out]; have := HPL.out; omega) HB4.out.size ?_; intro v5 w5 ho5 hb5; rw [HBW.out] at ho5; obtain ⟨A5, c5, hv5, _⟩ := ho5.form; rw [HL5.out] at hv5; subst hv5; have HO5 := Lib.hid ho5; have HB5 : Hid (Below wr.heap.size wr w5) := Lib.hid (HB4.out.trans hb5); clear ho5 hb5)
            | (at_builtin; refine append_one_g rfl (.tmp 45) (.tmp 47) rfl w.heap.size _ (outF e i) rfl (HO.out.below HB5.out) bv rfl (by rw [HOL.out]; have := HPL.out; omega) (Nat.le_trans hwz HB5.out.size) ?_; intro v6 w6 ho6 hb6 hg6; rw [HOW.out] at ho6; obtain ⟨A6, c6, hv6, _⟩ := ho6.form; rw [HL6.out] at hv6; subst hv6; have HO6 := Lib.hid ho6; have HB6 : Hid (Below w.heap.size w w6) := Lib.hid ((HB.out.trans (HB5.out.mono hwz)).trans hb6); have HO56 : Hid (OI wr.heap.size w6 (.slice A5 (left + 1) c5) (bst e (i + 1) (pt.take left ++ [(i : Int)]))) := Lib.hid (oi_apart HO.out (Nat.le_refl _) (World.ownsRow.alloc HO5.out _) hg6); clear ho6 hb6 hg6)
            | fail)
          go_roundw
          case rel =>
            obtain ⟨A7, c7, f7, i7, _⟩ := HO56.out.ins
            rw [HL5.out] at f7
            injection f7 with f7 _ f8
            subst f7 f8
            exact ⟨i + 1, left + 1, A6, A5, c6, c5, pt.take left ++ [(i : Int)], by omega, by go_num, rfl, rfl, Lib.hid HL7.out.symm, HNX, HO6, Lib.hid i7, HB6⟩
          case measure => simp [intOf]; omega
      · obtain rfl : i = m := by omega
        go_wp2
        go_ret
        obtain ⟨A5, c5, f5, i5, _⟩ := HO.out.ins
        rw [outF_len] at f5
        injection f5 with f5 _ f6
        subst f5 f6
        exact ⟨_, _, by rw [HU.out, outF_len]; rfl, by rw [HU.out]; exact i5, HB.out⟩
  | false =>
    have HU : Hid (spansL e = []) := Lib.hid (by unfold spansL; rw [HZ.out]; rfl)
    go_wp2
    go_ret
    exact RowP.nil HU.out (Below.refl _ _)
end Go.Proofs.YtgnflnfajkoibaaDoor.lt
