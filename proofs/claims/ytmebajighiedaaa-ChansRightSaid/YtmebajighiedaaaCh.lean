/- Contracts of package chans: room, held, Items, Len. -/
import Derived.Test.YtmebajighiedaaaChPure
import Derived.Deep.RegionHeld3
import Derived.Shelf.Abstract
namespace Go.Proofs.Ytmebajighiedaaa.ch
open Go.ChangeShapes Go.WideShapes Go.ChangeAt Go.RowKit

def fitB (n lo hi : Int) : Bool := decide (lo ≤ n ∧ n ≤ hi)
theorem fits_any (n lo hi : Int) (w : World) : Calls Try.prog 29 #[.int .i64 n, .int .i64 lo, .int .i64 hi] w fun e w' => e = .returned (.bool (fitB n lo hi)) ∧ w = w' := by
  by_cases h1 : lo ≤ n
  · by_cases h2 : n ≤ hi
    · have HE : Hid (fitB n lo hi = true) := Lib.hid (decide_eq_true ⟨h1, h2⟩)
      go_enter Try.func29, Try.ntmps29
      go_wp2
      go_ret
      exact ⟨by rw [HE.out]; rfl, rfl⟩
    · have HE : Hid (fitB n lo hi = false) := Lib.hid (decide_eq_false (by omega))
      go_enter Try.func29, Try.ntmps29
      go_wp2
      go_ret
      exact ⟨by rw [HE.out]; rfl, rfl⟩
  · have HE : Hid (fitB n lo hi = false) := Lib.hid (decide_eq_false (by omega))
    go_enter Try.func29, Try.ntmps29
    go_wp2
    go_ret
    exact ⟨by rw [HE.out]; rfl, rfl⟩
theorem room_any (A : Option Addr) (m c : Nat) (w : World) (hm : m ≤ maxLen) : Calls Try.prog 23 #[.slice A m c] w fun e w' => e = .returned (.int .i64 ((m : Int) - 1)) ∧ w = w' := by
  unfold maxLen at hm
  go_enter Try.func23, Try.ntmps23
  go_wp2
  go_ret
  exact ⟨rfl, rfl⟩
theorem notZero_any (z : Int) (w : World) : Calls Try.prog 30 #[.int .i64 z] w fun e w' => e = .returned (.bool (decide (z ≠ 0))) ∧ w = w' := by
  go_enter Try.func30, Try.ntmps30
  go_wp2
  go_ret
  exact ⟨ret_bool (by by_cases h : z = 0 <;> simp [h]), rfl⟩

theorem any_take {α : Type} {l : List α} {p : α → Bool} {k : Nat} (h : k < l.length) : (l.take (k + 1)).any p = ((l.take k).any p || p l[k]) := by
  rw [List.take_succ_eq_append_getElem h, List.any_append]; simp
theorem any_at {α : Type} {l : List α} {p : α → Bool} {k : Nat} (h : k < l.length) (hp : p l[k] = true) : l.any p = true := by
  rw [List.any_eq_true]; exact ⟨l[k], List.getElem_mem h, hp⟩
/-- An index that tells whether there is one. -/
def Found (b : Bool) (w : World) (e : Ending) (w' : World) : Prop := ∃ z : Int, e = .returned (.int .i64 z) ∧ decide (0 ≤ z) = b ∧ -1 ≤ z ∧ z ≤ 9223372036854775807 ∧ Below w.heap.size w w'
set_option maxHeartbeats 1000000 in
theorem index_any (gf : Nat) (lb : Array Value) (p : Int → Bool) (A : Option Addr) (m d : Nat) (zs : List Int) (w : World) (hm : m = zs.length) (hmx : m ≤ maxLen) (hA : IA w A zs)
    (eg : ∀ args w, (callFunc gf args).run Try.prog w = .ok (.enter gf args) w)
    (hp : ∀ z W, Below w.heap.size w W → Calls Try.prog gf (#[.int .i64 z] ++ lb) W fun e W' => e = .returned (.bool (p z)) ∧ Below w.heap.size W W') :
    Calls Try.prog 31 #[.slice A m d, .func (.func gf) #[] lb] w (Found (zs.any p) w) := by
  have HM := Lib.hid hm
  have HA := Lib.hid hA
  have HP := Lib.hid hp
  unfold maxLen at hmx
  clear hm hA hp
  go_enter Try.func31, Try.ntmps31
  go_wp2_with fail
  go_loopw [8] (fun i wr => ∃ k : Nat, k ≤ m ∧ i = .int .i64 k ∧ Hid ((zs.take k).any p = false) ∧ Hid (Below w.heap.size w wr)) (fun i _ => m - (intOf i).toNat)
  case atStart => exact ⟨0, by omega, rfl, Lib.hid rfl, Lib.hid (Below.refl _ _)⟩
  case round =>
    obtain ⟨k, hk, rfl, HT, HB⟩ := hrel
    by_cases hlt : k < m
    · obtain ⟨b, o, rfl, hb, hcc⟩ := (HA.out.below HB.out) (by rw [← HM.out]; omega)
      have hkl : k < zs.length := by rw [← HM.out]; exact hlt
      have c1 := hcc k hkl
      have HG : Hid (zs.getD k 0 = zs[k]) := Lib.hid (by simp [List.getD, hkl])
      have HS : Hid ((zs.take (k + 1)).any p = p (zs.getD k 0)) := Lib.hid (by rw [any_take hkl, HT.out, HG.out]; rfl)
      have HF : Hid (p (zs.getD k 0) = true → zs.any p = true) := Lib.hid (fun h => any_at hkl (by rw [← HG.out, h]))
      generalize zs.getD k 0 = y at c1 HS HF
      clear hcc HG hkl
      go_wp2_with fail
      refine (HP.out y _ HB.out).mono ?_
      rintro e w' ⟨rfl, hb'⟩
      have HB' := Lib.hid (HB.out.trans hb')
      clear hb' c1
      obtain ⟨q, HQ⟩ : ∃ q, Hid (p y = q) := ⟨_, Lib.hid rfl⟩
      rw [HQ.out]
      cases q with
      | false =>
        have HT2 : Hid ((zs.take (k + 1)).any p = false) := Lib.hid (by rw [HS.out, HQ.out])
        clear HS HF
        go_wp2_with fail
        go_roundw
        case rel => exact ⟨k + 1, by omega, by go_num, HT2, HB'⟩
        case measure => simp [intOf]; omega
      | true =>
        have HE := Lib.hid (HF.out HQ.out)
        clear HS HF
        go_wp2_with fail
        go_ret
        exact ⟨(k : Int), rfl, by rw [HE.out]; simp, by omega, by omega, HB'.out⟩
    · obtain rfl : m = k := by omega
      have HE : Hid (zs.any p = false) := Lib.hid (by have := HT.out; rwa [List.take_of_length_le (by rw [← HM.out]; omega)] at this)
      clear hlt
      go_wp2_with fail
      go_ret
      exact ⟨-1, rfl, by rw [HE.out]; rfl, by omega, by omega, HB.out⟩
theorem contains_any (gf : Nat) (lb : Array Value) (p : Int → Bool) (A : Option Addr) (m d : Nat) (zs : List Int) (w : World) (hm : m = zs.length) (hmx : m ≤ maxLen) (hA : IA w A zs)
    (eg : ∀ args w, (callFunc gf args).run Try.prog w = .ok (.enter gf args) w)
    (hp : ∀ z W, Below w.heap.size w W → Calls Try.prog gf (#[.int .i64 z] ++ lb) W fun e W' => e = .returned (.bool (p z)) ∧ Below w.heap.size W W') :
    Calls Try.prog 27 #[.slice A m d, .func (.func gf) #[] lb] w fun e w' => e = .returned (.bool (zs.any p)) ∧ Below w.heap.size w w' := by
  have H := Lib.hid (index_any gf lb p A m d zs w hm hmx hA eg hp)
  clear hm hmx hA hp
  go_enter Try.func27, Try.ntmps27
  go_wp2_with fail
  refine H.out.mono ?_
  rintro e w' ⟨z, rfl, hz, z1, z2, hb⟩
  have HZ := Lib.hid hz
  have HB := Lib.hid hb
  clear hz hb
  go_wp2_with fail
  go_ret
  exact ⟨ret_bool HZ.out, HB.out⟩

set_option maxRecDepth 20000 in
/-- The tail of a slice of ints, in one way. -/
theorem tail_run (B : Option Addr) (left t d : Nat) : ∃ B2, B2 = (if d = left then B else B.map (·.add left)) ∧ ∀ W, (Instr.sliceAt 22 (.slice B (left + t) d) (some (.int .i64 (left : Int))) none none).run Try.prog W = .ok (.slice B2 t (d - left)) W := by
  refine ⟨_, rfl, fun W => ?_⟩
  have hsz : (sizeOf (Try.prog.elem 22)).run Try.prog W = .ok 1 W := by simp [go_sem]
  rw [run_sliceAt_slice (P := Try.prog) W 22 _ _ _ _ Try.underlying22, run_slice_l (P := Try.prog) W 22 B (left + t) d Try.underlying22 .i64 left (by omega) (by omega), hsz]
  simp [Result.andThen, sliced]
theorem tail_ia {w : World} {A : Option Addr} {l : List Int} {n c : Nat} (h : IA w A l) (hn : l.length ≤ c) : IA w (if c = n then A else A.map (·.add n)) (l.drop n) := fun h0 => by
  have h1 : n < l.length := by simp at h0; omega
  obtain ⟨b, off, rfl, hb, hc⟩ := h (by omega)
  rw [if_neg (by omega)]
  refine ⟨b, off + n, by simp [Addr.add], hb, fun i hi => ?_⟩
  have h2 : n + i < l.length := by simp at hi; omega
  rw [show off + n + i = off + (n + i) by omega, hc _ h2]
  simp [List.getD]
end Go.Proofs.Ytmebajighiedaaa.ch
