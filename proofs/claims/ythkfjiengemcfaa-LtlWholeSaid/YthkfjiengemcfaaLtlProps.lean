/- The program's Props: the propositions of a formula. -/
import Derived.Test.YthkfjiengemcfaaLtlWorkU
import Derived.Test.YthkfjiengemcfaaLtlParts
import Derived.Shelf.Abstract
import Derived.Laws.BitsLemmas
namespace Go.Proofs.Ythkfjiengemcfaa.lt
open Go.ChangeShapes Go.WideShapes Go.ChangeAt Go.RowKit sr wu

def natsI (xs : List Nat) : List Int := xs.map Int.ofNat
theorem natsI_len (xs : List Nat) : (natsI xs).length = xs.length := by simp [natsI]
theorem natsI_at {xs : List Nat} {i : Nat} : (natsI xs).getD i default = ((xs.getD i 0 : Nat) : Int) := by
  unfold natsI
  by_cases h : i < xs.length
  · simp [List.getD, h]
  · simp [List.getD, h]
theorem or_u64 (a b : Nat) (ha : a < 256) (hb : b < 256) : bits .or .u64 a b = ((a ||| b : Nat) : Int) :=
  (bits_nat .u64 8 (by decide) (fun n h0 h1 => by simp [IntKind.wrap, IntKind.bits, IntKind.signed]; omega) a b ha hb).2
theorem orL_snoc {xs : List Nat} {i : Nat} (h : i < xs.length) (own : Nat) : (own ||| orL (xs.take i)) ||| xs.getD i 0 = own ||| orL (xs.take (i + 1)) := by
  rw [List.take_succ_eq_append_getElem h, orL_append, Nat.or_assoc]
  congr 2
  simp [orL, List.getD, h]
def PropsP (r : Nat) (W : World) (x : Ending) (W' : World) : Prop := x = .returned (.int .u64 (r : Int)) ∧ Below W.heap.size W W'
set_option maxRecDepth 20000 in
set_option maxHeartbeats 4000000 in
theorem props1_any (e : List (Int × Int)) (A B : Option Addr) (ab c m d t k : Nat) (xs : List Nat) (W : World) (hm : m = e.length) (hlm : m ≤ 1000) (hA : PA W A e) (hk : k < m) (hX : W.cell? ⟨ab, 0, none⟩ = some (.slice A m c))
    (hN : (e.getD k (0, 0)).1 = 3 → 0 ≤ (e.getD k (0, 0)).2 ∧ (e.getD k (0, 0)).2 < 8) (ht : t = xs.length) (ht2 : t ≤ 2) (hB : RS enc 1 W B (natsI xs)) (hxs : ∀ x ∈ xs, x < 256) :
    Calls Try.prog 29 #[.int .i64 k, .slice B t d, .pointer (some ⟨ab, 0, none⟩)] W (PropsP (pn (e.getD k (0, 0)) ||| orL xs) W) := by
  obtain ⟨b, o, rfl, hb, hc⟩ := hA (by omega)
  obtain ⟨c1, c2⟩ := hc k (by omega)
  obtain ⟨op, q, HND⟩ : ∃ op q, Hid (e.getD k (0, 0) = (op, q)) := ⟨_, _, Lib.hid rfl⟩
  rw [HND.out] at c1 c2 hN ⊢
  clear hc
  obtain ⟨own, HOW⟩ : ∃ own, Hid (pn (op, q) = own) := ⟨_, Lib.hid rfl⟩
  have HO8 : Hid (own < 256) := Lib.hid (by rw [← HOW.out]; exact pn_lt hN)
  rw [HOW.out]
  have HB := Lib.hid hB
  have HT := Lib.hid ht
  clear hB ht
  have HXS := Lib.hid hxs
  clear hxs
  by_cases h3 : op = 3
  · subst h3
    obtain ⟨q0, q8⟩ := hN rfl
    simp only at q0 q8 c1 c2
    have HPW : Hid (IntKind.u64.wrap (2 ^ q.toNat) = (own : Int)) := Lib.hid (by
      rw [← HOW.out]
      unfold pn
      rw [if_pos rfl]
      have : q = 0 ∨ q = 1 ∨ q = 2 ∨ q = 3 ∨ q = 4 ∨ q = 5 ∨ q = 6 ∨ q = 7 := by omega
      rcases this with rfl | rfl | rfl | rfl | rfl | rfl | rfl | rfl <;> decide)
    clear hN
    go_enter Try.func29, Try.ntmps29
    go_upto_region 5 with (fail)
    rw [HPW.out]
    go_wp2
    go_loop [6, 22] (fun av iv => ∃ i : Nat, i ≤ t ∧ iv = .int .i64 i ∧ av = .int .u64 ((own ||| orL (xs.take i) : Nat) : Int)) (fun _ iv => t - (intOf iv).toNat)
    case atStart => exact ⟨0, Nat.zero_le _, rfl, by simp [orL]⟩
    case round =>
      obtain ⟨i, hi, rfl, rfl⟩ := hrel
      by_cases hlt : i < t
      · obtain ⟨b2, o2, rfl, hb2, c3⟩ := rs_at (HB.out.below (below_one W (.cells #[.int .i64 3, .int .i64 q] 34))) (i := i) (by rw [natsI_len, ← HT.out]; exact hlt)
        rw [natsI_at] at c3
        have HSN := Lib.hid (orL_snoc (xs := xs) (i := i) (by rw [← HT.out]; exact hlt) own)
        have HX8 : Hid (xs.getD i 0 < 256) := Lib.hid (HXS.out _ (by
          have h : i < xs.length := by rw [← HT.out]; exact hlt
          have e : xs.getD i 0 = xs[i] := by simp [List.getD, h]
          rw [e]
          exact List.getElem_mem h))
        have HA8 : Hid (own ||| orL (xs.take i) < 256) := Lib.hid (or_lt256 HO8.out (orL_lt _ fun y hy => HXS.out y (List.mem_of_mem_take hy)))
        obtain ⟨x, HX⟩ : ∃ x, Hid (xs.getD i 0 = x) := ⟨_, Lib.hid rfl⟩
        obtain ⟨a, HA2⟩ : ∃ a, Hid (own ||| orL (xs.take i) = a) := ⟨_, Lib.hid rfl⟩
        rw [HX.out] at c3 HX8 HSN
        rw [HA2.out] at HA8 HSN
        rw [HA2.out]
        go_wp2
        go_round
        case rel => exact ⟨i + 1, by omega, by go_num, by rw [or_u64 a x HA8.out HX8.out, HSN.out]⟩
        case measure => simp [intOf]; omega
      · obtain rfl : i = t := by omega
        have HTK : Hid (xs.take i = xs) := Lib.hid (by rw [HT.out, List.take_length])
        rw [HTK.out]
        obtain ⟨r, HR⟩ : ∃ r, Hid (own ||| orL xs = r) := ⟨_, Lib.hid rfl⟩
        rw [HR.out]
        go_wp2
        go_ret
        exact ⟨by rw [HR.out]; rfl, (Below.refl _ _).alloc (Nat.le_refl _) _⟩
  · have HO0 : Hid (own = 0) := Lib.hid (by rw [← HOW.out]; unfold pn; rw [if_neg h3])
    simp only at c1 c2
    clear hN
    go_enter Try.func29, Try.ntmps29
    go_upto_region 5 with (fail)
    go_wp2
    go_loop [6, 22] (fun av iv => ∃ i : Nat, i ≤ t ∧ iv = .int .i64 i ∧ av = .int .u64 ((own ||| orL (xs.take i) : Nat) : Int)) (fun _ iv => t - (intOf iv).toNat)
    case atStart => exact ⟨0, Nat.zero_le _, rfl, by rw [HO0.out]; simp [orL]⟩
    case round =>
      obtain ⟨i, hi, rfl, rfl⟩ := hrel
      by_cases hlt : i < t
      · obtain ⟨b2, o2, rfl, hb2, c3⟩ := rs_at (HB.out.below (below_one W (.cells #[.int .i64 op, .int .i64 q] 34))) (i := i) (by rw [natsI_len, ← HT.out]; exact hlt)
        rw [natsI_at] at c3
        have HSN := Lib.hid (orL_snoc (xs := xs) (i := i) (by rw [← HT.out]; exact hlt) own)
        have HX8 : Hid (xs.getD i 0 < 256) := Lib.hid (HXS.out _ (by
          have h : i < xs.length := by rw [← HT.out]; exact hlt
          have e : xs.getD i 0 = xs[i] := by simp [List.getD, h]
          rw [e]
          exact List.getElem_mem h))
        have HA8 : Hid (own ||| orL (xs.take i) < 256) := Lib.hid (or_lt256 HO8.out (orL_lt _ fun y hy => HXS.out y (List.mem_of_mem_take hy)))
        obtain ⟨x, HX⟩ : ∃ x, Hid (xs.getD i 0 = x) := ⟨_, Lib.hid rfl⟩
        obtain ⟨a, HA2⟩ : ∃ a, Hid (own ||| orL (xs.take i) = a) := ⟨_, Lib.hid rfl⟩
        rw [HX.out] at c3 HX8 HSN
        rw [HA2.out] at HA8 HSN
        rw [HA2.out]
        go_wp2
        go_round
        case rel => exact ⟨i + 1, by omega, by go_num, by rw [or_u64 a x HA8.out HX8.out, HSN.out]⟩
        case measure => simp [intOf]; omega
      · obtain rfl : i = t := by omega
        have HTK : Hid (xs.take i = xs) := Lib.hid (by rw [HT.out, List.take_length])
        rw [HTK.out]
        obtain ⟨r, HR⟩ : ∃ r, Hid (own ||| orL xs = r) := ⟨_, Lib.hid rfl⟩
        rw [HR.out]
        go_wp2
        go_ret
        exact ⟨by rw [HR.out]; rfl, (Below.refl _ _).alloc (Nat.le_refl _) _⟩

/-- What stands while Props works. -/
def PrI (e : List (Int × Int)) (ab : Nat) (A : Option Addr) (m c : Nat) (k : Nat) (st : List Int) (W : World) : Prop :=
  ∃ pt xs, Ok e k pt ∧ st = natsI xs ∧ xs.length = pt.length ∧ (∀ x ∈ xs, x < 256) ∧ orL xs = prK e k ∧ W.cell? ⟨ab, 0, none⟩ = some (.slice A m c) ∧ ab < W.heap.size
theorem natsI_drop (xs : List Nat) (n : Nat) : (natsI xs).drop n = natsI (xs.drop n) := by simp [natsI, List.map_drop]
theorem natsI_take (xs : List Nat) (n : Nat) : (natsI xs).take n = natsI (xs.take n) := by simp [natsI, List.map_take]
set_option maxRecDepth 20000 in
set_option maxHeartbeats 4000000 in
theorem props_any (e : List (Int × Int)) (A : Option Addr) (c m : Nat) (w : World) (hm : m = e.length) (hm2 : m ≤ 1000) (hA : PA w A e) :
    Calls Try.prog 11 #[.slice A m c] w (PropsP (propsF e) w) := by
  have hmf : ∀ (fn : Fn) (first cap : Array Value) (w : World), (Instr.makeFunc fn first cap).run Try.prog w = .ok (.func fn first cap) w := fun _ _ _ _ => rfl
  have HM := Lib.hid hm
  have HA := Lib.hid hA
  clear hm hA
  have HX : Hid ((w.alloc (.cells #[.slice A m c] 22)).cell? ⟨w.heap.size, 0, none⟩ = some (.slice A m c)) := Lib.hid (World.cell?_alloc_at _ _ _ _ rfl)
  have HB2 : Hid (Below w.heap.size w (w.alloc (.cells #[.slice A m c] 22))) := Lib.hid (below_one _ _)
  have HZ : Hid ((w.alloc (.cells #[.slice A m c] 22)).heap.size = w.heap.size + 1) := Lib.hid (by simp)
  have HWK : Hid (Calls Try.prog 28 #[.slice A m c, .func (.func 29) #[] #[.pointer (some ⟨w.heap.size, 0, none⟩)]] (w.alloc (.cells #[.slice A m c] 22)) (WorkP (fun _ => False) e (PrI e w.heap.size A m c) (w.alloc (.cells #[.slice A m c] 22)))) := Lib.hid (by
    refine work_any 29 _ (fun _ => False) e (PrI e w.heap.size A m c) A c m _ HM.out (HA.out.below HB2.out) hm2 (fun _ h => h.elim) (fun _ _ h => h)
      (enters_of Try.func29 (by kernel_rfl) rfl) ?_ ?_ ?_
    · rintro k st W W' ⟨pt, xs, h1, h2, h3, h4, h5, h6, h7⟩ hT hB
      exact ⟨pt, xs, h1, h2, h3, h4, h5, (hB.cell (p := ⟨w.heap.size, 0, none⟩) (by show w.heap.size < _; rw [HZ.out]; omega)).trans h6, Nat.lt_of_lt_of_le h7 hB.size⟩
    · rintro k st W B t d hk ⟨pt, xs, h1, h2, h3, h4, h5, h6, h7⟩ hT hnd hkt htl hRS hBl
      subst h2
      rw [natsI_len] at hnd htl hRS
      have hr := kT_range (e.getD k (0, 0)).1
      have hnx := h1.next hk (by rw [← h3]; exact hnd)
      rw [hkt, Int.toNat_natCast] at hnx
      rw [natsI_drop] at hRS
      have hBW : Below w.heap.size w W := HB2.out.trans (Turn.below hT (fun _ h => h.elim) (by rw [HZ.out]; omega))
      refine (props1_any e A B w.heap.size c m d t k (xs.drop (xs.length - t)) W HM.out hm2 (HA.out.below hBW) (by rw [HM.out]; exact hk) h6 (ndW_ok hnd).2.2 (by simp; omega) (by omega) hRS (fun x hx => h4 x (List.mem_of_mem_drop hx))).mono ?_
      rintro x W' ⟨rfl, hb'⟩
      have hr8 : pn (e.getD k (0, 0)) ||| orL (xs.drop (xs.length - t)) < 256 := or_lt256 (pn_lt (ndW_ok hnd).2.2) (orL_lt _ fun y hy => h4 y (List.mem_of_mem_drop hy))
      refine ⟨_, rfl, ⟨_, xs.take (xs.length - t) ++ [pn (e.getD k (0, 0)) ||| orL (xs.drop (xs.length - t))], hnx, ?_, by simp; omega, ?_, orL_next h5 rfl, (hb'.cell (p := ⟨w.heap.size, 0, none⟩) h7).trans h6, Nat.lt_of_lt_of_le h7 hb'.size⟩, Turn.of_below hb'⟩
      · rw [natsI_len, natsI_take]
        simp [natsI]
      · intro x hx
        rw [List.mem_append] at hx
        rcases hx with hx | hx
        · exact h4 x (List.mem_of_mem_take hx)
        · simp at hx; rw [hx]; exact hr8
    · exact ⟨[], [], Ok.zero _, rfl, rfl, by simp, rfl, HX.out, by rw [HZ.out]; omega⟩)
  have HFIN : Hid (∀ r w3, (wrF 0 e = 0 → PrI e w.heap.size A m c e.length [r] w3) → (wrF 0 e ≠ 0 → r = 0) → r = ((propsF e : Nat) : Int)) := Lib.hid (fun r w3 h1 h2 => by
    unfold propsF
    by_cases hz : wrF 0 e = 0
    · obtain ⟨pt, xs, g1, g2, g3, g4, g5, _⟩ := h1 hz
      rw [if_pos (isF_iff.2 hz), ← g5]
      rcases xs with _ | ⟨x, _ | ⟨y, ys⟩⟩
      · simp [natsI] at g2
      · simp [natsI] at g2
        rw [g2]
        simp [orL]
      · simp [natsI] at g2
    · rw [if_neg (fun h => hz (isF_iff.1 h)), h2 hz]
      rfl)
  obtain ⟨z, HZW⟩ : ∃ z, Hid (wrF 0 e = z) := ⟨_, Lib.hid rfl⟩
  go_enter Try.func11, Try.ntmps11
  go_wp2_with fail
  refine HWK.out.mono ?_
  rintro x w3 ⟨r, rfl, h1, h2, hT⟩
  have HB3 : Hid (Below w.heap.size w w3) := Lib.hid (HB2.out.trans (hT.below (fun _ h => h.elim) (by rw [HZ.out]; omega)))
  have HR : Hid (r = ((propsF e : Nat) : Int)) := Lib.hid (HFIN.out r w3 h1 h2)
  rw [HZW.out]
  clear h1 h2 hT HWK HFIN
  go_wp2
  go_ret
  exact ⟨by rw [HR.out]; rfl, HB3.out⟩
end Go.Proofs.Ythkfjiengemcfaa.lt
