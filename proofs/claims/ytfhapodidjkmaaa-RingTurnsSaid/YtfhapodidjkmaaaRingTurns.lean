/- The law RingTurns: what is put comes in that order from the front, in the other one from behind; what is pushed comes the other way round. No condition. -/
import Derived.Test.YtfhapodidjkmaaaRingWorks
import Derived.WalkSpells
namespace Go.Proofs.Ytfhapodidjkmaaa.ringTurns
open Go.ChangeShapes Go.WideShapes Go.ChangeAt Go.RowKit

/-- Two rows lie apart. -/
def Dis (t u : Option Nat) : Prop := t = none ∨ t ≠ u
theorem Dis.comm {t u : Option Nat} (h : Dis t u) : Dis u t := by
  rcases h with h | h
  · by_cases k : u = none
    · exact .inl k
    · exact .inr (by rw [h]; exact k)
  · exact .inr (Ne.symm h)
theorem Dis.next {w : World} {t t' u : Option Nat} (h : Dis t u) (hN : Newer w t t') (hu : ∀ b, u = some b → b < w.heap.size) : Dis t' u := by
  rcases hN with rfl | ⟨b, rfl, hb⟩
  · exact h
  · exact .inr (fun e => by have := hu b e.symm; omega)
/-- f turned at i. -/
def at_ {α : Type} (f : Nat → α) (i : Nat) (x : α) : Nat → α := fun j => if j = i then x else f j
/-- Several queues, one behind the other. -/
structure Many (w0 w : World) (B n m : Nat) (l : Nat → List Int) (t : Nat → Option Nat) : Prop where
  q : ∀ i, i < m → QU w (B + i) (t i) n (l i)
  ap : ∀ i j, i < m → j < m → i ≠ j → Dis (t i) (t j)
  lo : ∀ i, i < m → ∀ x, t i = some x → B ≤ x
  below : Below B w0 w
  size : B ≤ w0.heap.size
theorem QU.apart {w : World} {s s' : Nat} {t t' : Option Nat} {n n' : Nat} {l l' : List Int} (h : QU w s t n l) (h' : QU w s' t' n' l') : ∀ b, t' = some b → b ≠ s := fun b e e2 => by
  obtain ⟨L, f, g, h, _⟩ := h
  obtain ⟨L', f', g', h', _⟩ := h'
  obtain ⟨c, hc, _⟩ := h.head
  obtain ⟨c', hc', _⟩ := h'.row b e
  rw [← e2, hc'] at hc
  injection hc with hc
  injection hc with _ hc
  exact absurd hc (by decide)
theorem Many.step {w0 w w' : World} {B n m : Nat} {l : Nat → List Int} {t : Nat → Option Nat} (h : Many w0 w B n m l t) (i : Nat) (hi : i < m) {t' : Option Nat} {l' : List Int} (hq : QU w' (B + i) t' n l') (hT : Turns w w' (B + i) (t i)) (hN : Newer w (t i) t') :
    Many w0 w' B n m (at_ l i l') (at_ t i t') := by
  have hbz : B ≤ w.heap.size := Nat.le_trans h.size h.below.size
  refine ⟨fun j hj => ?_, fun j k hj hk hne => ?_, fun j hj => ?_, h.below.trans (hT.below (by omega) (h.lo i hi) hbz), h.size⟩
  · unfold at_
    by_cases e : j = i
    · subst e
      rw [if_pos rfl, if_pos rfl]
      exact hq
    · rw [if_neg e, if_neg e]
      exact (h.q j hj).other hT (by omega) (h.ap j i hj hi e) (QU.apart (h.q j hj) (h.q i hi)) (fun e2 => QU.apart (h.q i hi) (h.q j hj) _ e2 rfl)
  · unfold at_
    by_cases e : j = i
    · subst e
      rw [if_pos rfl, if_neg (fun e => hne e.symm)]
      exact (h.ap j k hj hk hne).next hN (h.q k hk).lt.2
    · rw [if_neg e]
      by_cases e2 : k = i
      · subst e2
        rw [if_pos rfl]
        exact ((h.ap k j hk hj (fun e3 => hne e3.symm)).next hN (h.q j hj).lt.2).comm
      · rw [if_neg e2]
        exact h.ap j k hj hk hne
  · unfold at_
    by_cases e : j = i
    · subst e
      rw [if_pos rfl]
      exact hN.le (h.lo j hj) hbz
    · rw [if_neg e]
      exact h.lo j hj
theorem Many.more {w0 w w' : World} {B n m : Nat} {l : Nat → List Int} {t : Nat → Option Nat} (h : Many w0 w B n m l t) (hz : w.heap.size = B + m) (hq : QU w' w.heap.size none n []) (hb : Below w.heap.size w w') : Many w0 w' B n (m + 1) (at_ l m []) (at_ t m none) := by
  refine ⟨fun j hj => ?_, fun j k hj hk hne => ?_, fun j hj x => ?_, h.below.trans (hb.mono (by omega)), h.size⟩
  · unfold at_
    by_cases e : j = m
    · subst e
      rw [if_pos rfl, if_pos rfl, ← hz]
      exact hq
    · rw [if_neg e, if_neg e]
      exact (h.q j (by omega)).keep hb
  · unfold at_
    by_cases e : j = m
    · rw [if_pos e]; exact .inl rfl
    · rw [if_neg e]
      by_cases e2 : k = m
      · rw [if_pos e2]
        exact Dis.comm (.inl rfl)
      · rw [if_neg e2]
        exact h.ap j k (by omega) (by omega) hne
  · unfold at_
    by_cases e : j = m
    · rw [if_pos e]; intro h; cases h
    · rw [if_neg e]; exact h.lo j (by omega) x
theorem Many.none (w : World) (n : Nat) : Many w w w.heap.size n 0 (fun _ => []) (fun _ => Option.none) :=
  ⟨fun i hi => absurd hi (by omega), fun i j hi => absurd hi (by omega), fun i hi => absurd hi (by omega), Below.refl _ _, Nat.le_refl _⟩

theorem take_snoc' (l : List Int) {k : Nat} (h : k < l.length) : l.take (k + 1) = l.take k ++ [l.getD k 0] := by
  rw [List.take_succ_eq_append_getElem h]; simp [List.getD, h]
theorem drop_cons' (l : List Int) {k : Nat} (h : k < l.length) : l.drop k = l.getD k 0 :: l.drop (k + 1) := by
  rw [List.drop_eq_getElem_cons h]; simp [List.getD, h]

set_option maxRecDepth 20000 in
theorem large (A : Option Addr) (c : Nat) (l : List Int) (w : World) (h : 100 < l.length) (ha : l.length ≤ 17592186044416) :
    Calls Try.prog 4 #[.slice A l.length c] w (LawPost w) := by
  generalize l.length = x at h ha
  go_enter Try.func4, Try.ntmps4
  go_wp2_with (go_at_call 15; refine (works_any _).mono ?_; rintro e w' ⟨rfl, hbw⟩)
  go_ret
  exact ⟨rfl, hbw⟩

/-- What the four hold while they are filled, and while they are emptied. -/
def Fills (l : List Int) (k : Nat) (q : Nat → List Int) : Prop := q 0 = l.take k ∧ q 1 = l.take k ∧ q 2 = (l.take k).reverse ∧ q 3 = (l.take k).reverse
def Ebbs (l : List Int) (k : Nat) (q : Nat → List Int) : Prop := q 0 = l.drop k ∧ q 1 = l.take (l.length - k) ∧ q 2 = (l.drop k).reverse ∧ q 3 = (l.take (l.length - k)).reverse

set_option maxRecDepth 20000 in
set_option maxHeartbeats 8000000 in
theorem small (A : Option Addr) (c : Nat) (l : List Int) (w : World) (hA : IA w A l) (hl : l.length ≤ 100) :
    Calls Try.prog 4 #[.slice A l.length c] w (LawPost w) := by
  have HA := Lib.hid hA
  obtain ⟨n, HN⟩ : ∃ n, Hid (l.length = n) := ⟨_, Lib.hid rfl⟩
  rw [HN.out] at hl ⊢
  have HM : Hid (mostOf (n : Int) = n) := Lib.hid (by unfold mostOf; omega)
  have hn0 : decide ((100 : Int) < (n : Int)) = false := by simp; omega
  clear hA
  go_enter Try.func4, Try.ntmps4
  go_wp2_with fail
  refine (new_any (n : Int) w).mono ?_
  rintro e w1 ⟨s1, rfl, rfl, h1, hb1, hz1⟩
  rw [HM.out] at h1
  have M1 := Lib.hid ((Many.none w n).more rfl h1 hb1)
  have HZ1 := Lib.hid hz1
  clear h1 hb1 hz1
  go_wp2_with fail
  refine (new_any (n : Int) w1).mono ?_
  rintro e w2 ⟨s2, rfl, rfl, h2, hb2, hz2⟩
  rw [HM.out] at h2
  have M2 := Lib.hid (M1.out.more HZ1.out h2 hb2)
  have HZ2 : Hid (w2.heap.size = w.heap.size + 2) := Lib.hid (by rw [hz2, HZ1.out])
  rw [HZ1.out]
  clear h2 hb2 hz2 M1
  go_wp2_with fail
  refine (new_any (n : Int) w2).mono ?_
  rintro e w3 ⟨s3, rfl, rfl, h3, hb3, hz3⟩
  rw [HM.out] at h3
  have M3 := Lib.hid (M2.out.more HZ2.out h3 hb3)
  have HZ3 : Hid (w3.heap.size = w.heap.size + 3) := Lib.hid (by rw [hz3, HZ2.out])
  rw [HZ2.out]
  clear h3 hb3 hz3 M2
  go_wp2_with fail
  refine (new_any (n : Int) w3).mono ?_
  rintro e w4 ⟨s4, rfl, rfl, h4, hb4, hz4⟩
  rw [HM.out] at h4
  have M4 := Lib.hid (M3.out.more HZ3.out h4 hb4)
  rw [HZ3.out]
  clear h4 hb4 hz4 M3
  go_wp2_with fail
  go_loopw [7] (fun i wr => ∃ (k : Nat) (q : Nat → List Int) (t : Nat → Option Nat), k ≤ n ∧ i = .int .i64 k ∧ Hid (Many w wr w.heap.size n 4 q t) ∧ Hid (Fills l k q)) (fun i _ => n - (intOf i).toNat)
  case atStart => exact ⟨0, _, _, by omega, rfl, M4, Lib.hid ⟨rfl, rfl, rfl, rfl⟩⟩
  case round =>
    obtain ⟨k, q, t, hk, rfl, HQ, HF⟩ := hrel
    by_cases hlt : k < n
    · obtain ⟨b, o, rfl, hb, hcc⟩ := HA.out (by rw [HN.out]; omega)
      have HC : Hid (∀ W, Below w.heap.size w W → W.cell? ⟨b, o + k, none⟩ = some (.int .i64 (l.getD k 0))) := Lib.hid (fun W hW => (hW.cell (p := ⟨b, o + k, none⟩) hb).trans (hcc k (by rw [HN.out]; exact hlt)))
      have HS := Lib.hid (take_snoc' l (show k < l.length by rw [HN.out]; exact hlt))
      have HLT : Hid ((l.take k).length = k) := Lib.hid (by rw [List.length_take, HN.out]; omega)
      generalize l.getD k 0 = y at HC HS
      obtain ⟨f0, f1, f2, f3⟩ := HF.out
      have F0 := Lib.hid f0
      have F1 := Lib.hid f1
      have F2 := Lib.hid f2
      have F3 := Lib.hid f3
      have c1 := HC.out _ HQ.out.below
      clear f0 f1 f2 f3 HF hcc M4
      go_wp2_with fail
      refine (put_yes (HQ.out.q 0 (by omega)) y (by rw [F0.out, HLT.out]; exact hlt)).mono ?_
      rintro e w5 ⟨rfl, t5, h5, hT5, hN5⟩
      have HQ5 := Lib.hid (HQ.out.step 0 (by omega) h5 hT5 hN5)
      clear c1 h5 hT5 hN5 HQ
      have c1 := HC.out _ HQ5.out.below
      go_wp2_with fail
      refine (put_yes (HQ5.out.q 1 (by omega)) y (by show (q 1).length < n; rw [F1.out, HLT.out]; exact hlt)).mono ?_
      rintro e w6 ⟨rfl, t6, h6, hT6, hN6⟩
      have HQ6 := Lib.hid (HQ5.out.step 1 (by omega) h6 hT6 hN6)
      clear c1 h6 hT6 hN6 HQ5
      have c1 := HC.out _ HQ6.out.below
      go_wp2_with fail
      refine (push_yes (HQ6.out.q 2 (by omega)) y (by show (q 2).length < n; rw [F2.out, List.length_reverse, HLT.out]; exact hlt)).mono ?_
      rintro e w7 ⟨rfl, t7, h7, hT7, hN7⟩
      have HQ7 := Lib.hid (HQ6.out.step 2 (by omega) h7 hT7 hN7)
      clear c1 h7 hT7 hN7 HQ6
      have c1 := HC.out _ HQ7.out.below
      go_wp2_with fail
      refine (push_yes (HQ7.out.q 3 (by omega)) y (by show (q 3).length < n; rw [F3.out, List.length_reverse, HLT.out]; exact hlt)).mono ?_
      rintro e w8 ⟨rfl, t8, h8, hT8, hN8⟩
      have HQ8 := Lib.hid (HQ7.out.step 3 (by omega) h8 hT8 hN8)
      clear c1 h8 hT8 hN8 HQ7
      obtain ⟨q8, u8, HQ9, HF9⟩ : ∃ q8 u8, Hid (Many w w8 w.heap.size n 4 q8 u8) ∧ Hid (Fills l (k + 1) q8) := ⟨_, _, HQ8, Lib.hid ⟨(show q 0 ++ [y] = _ by rw [F0.out, HS.out]), (show q 1 ++ [y] = _ by rw [F1.out, HS.out]), (show y :: q 2 = _ by rw [F2.out, HS.out, List.reverse_append]; rfl), (show y :: q 3 = _ by rw [F3.out, HS.out, List.reverse_append]; rfl)⟩⟩
      clear HQ8
      go_wp2_with fail
      go_roundw
      case rel => exact ⟨k + 1, _, _, by omega, by go_num, HQ9, HF9⟩
      case measure => simp [intOf]; omega
    · obtain rfl : n = k := by omega
      have HE0 : Hid (Ebbs l 0 q) := Lib.hid (by
        obtain ⟨f0, f1, f2, f3⟩ := HF.out
        rw [List.take_of_length_le (by rw [HN.out]; omega)] at f0 f1 f2 f3
        exact ⟨by rw [f0, List.drop_zero], by rw [f1, Nat.sub_zero, List.take_length], by rw [f2, List.drop_zero], by rw [f3, Nat.sub_zero, List.take_length]⟩)
      clear hlt hk HF M4
      go_wp2_with fail
      go_loopw [8] (fun i wr => ∃ (k : Nat) (q : Nat → List Int) (t : Nat → Option Nat), k ≤ n ∧ i = .int .i64 k ∧ Hid (Many w wr w.heap.size n 4 q t) ∧ Hid (Ebbs l k q)) (fun i _ => n - (intOf i).toNat)
      case atStart => exact ⟨0, _, _, by omega, rfl, HQ, HE0⟩
      case round =>
        obtain ⟨k, q, t, hk, rfl, HQwr, HF⟩ := hrel
        by_cases hlt : k < n
        · clear HQ HE0
          obtain ⟨b, o, rfl, hb, hcc⟩ := HA.out (by rw [HN.out]; omega)
          obtain ⟨P, HP⟩ : ∃ P, Hid (n - 1 - k = P) := ⟨_, Lib.hid rfl⟩
          have hP : P < n := by rw [← HP.out]; omega
          have hix : (n : Int) - 1 - (k : Int) = (P : Int) := by rw [← HP.out]; omega
          have HC : Hid (∀ W, Below w.heap.size w W → W.cell? ⟨b, o + k, none⟩ = some (.int .i64 (l.getD k 0))) := Lib.hid (fun W hW => (hW.cell (p := ⟨b, o + k, none⟩) hb).trans (hcc k (by rw [HN.out]; exact hlt)))
          have HD : Hid (∀ W, Below w.heap.size w W → W.cell? ⟨b, o + P, none⟩ = some (.int .i64 (l.getD P 0))) := Lib.hid (fun W hW => (hW.cell (p := ⟨b, o + P, none⟩) hb).trans (hcc P (by rw [HN.out]; exact hP)))
          have HS := Lib.hid (drop_cons' l (show k < l.length by rw [HN.out]; exact hlt))
          have HS2 := Lib.hid (take_snoc' l (show P < l.length by rw [HN.out]; exact hP))
          generalize l.getD k 0 = y at HC HS
          generalize l.getD P 0 = z at HD HS2
          obtain ⟨f0, f1, f2, f3⟩ := HF.out
          rw [HN.out, show n - k = P + 1 by rw [← HP.out]; omega] at f1 f3
          have F0 : Hid (q 0 = y :: l.drop (k + 1)) := Lib.hid (by rw [f0, HS.out])
          have F1 : Hid (q 1 = l.take P ++ [z]) := Lib.hid (by rw [f1, HS2.out])
          have F2 : Hid (q 2 = (l.drop (k + 1)).reverse ++ [y]) := Lib.hid (by rw [f2, HS.out, List.reverse_cons])
          have F3 : Hid (q 3 = z :: (l.take P).reverse) := Lib.hid (by rw [f3, HS2.out, List.reverse_append]; rfl)
          clear f0 f1 f2 f3 HF hcc
          go_wp2_with fail
          refine (take_some (show QU wr (w.heap.size + 0) _ n (y :: l.drop (k + 1)) by rw [← F0.out]; exact HQwr.out.q 0 (by omega))).mono ?_
          rintro e w5 ⟨rfl, h5, hT5⟩
          have HQw5 := Lib.hid (HQwr.out.step 0 (by omega) h5 hT5 (.inl rfl))
          clear h5 hT5 HQwr
          go_wp2_with fail
          refine (last_some (show QU w5 (w.heap.size + 1) _ n (l.take P ++ [z]) by rw [← F1.out]; exact HQw5.out.q 1 (by omega))).mono ?_
          rintro e w6 ⟨rfl, h5, hT5⟩
          have HQw6 := Lib.hid (HQw5.out.step 1 (by omega) h5 hT5 (.inl rfl))
          clear h5 hT5 HQw5
          go_wp2_with fail
          refine (last_some (show QU w6 (w.heap.size + 2) _ n ((l.drop (k + 1)).reverse ++ [y]) by rw [← F2.out]; exact HQw6.out.q 2 (by omega))).mono ?_
          rintro e w7 ⟨rfl, h5, hT5⟩
          have HQw7 := Lib.hid (HQw6.out.step 2 (by omega) h5 hT5 (.inl rfl))
          clear h5 hT5 HQw6
          go_wp2_with fail
          refine (take_some (show QU w7 (w.heap.size + 3) _ n (z :: (l.take P).reverse) by rw [← F3.out]; exact HQw7.out.q 3 (by omega))).mono ?_
          rintro e w8 ⟨rfl, h5, hT5⟩
          have HQw8 := Lib.hid (HQw7.out.step 3 (by omega) h5 hT5 (.inl rfl))
          clear h5 hT5 HQw7
          have c1 := HC.out _ HQw8.out.below
          have c2 := HD.out _ HQw8.out.below
          obtain ⟨q8, u8, HQ9, HF9⟩ : ∃ q8 u8, Hid (Many w w8 w.heap.size n 4 q8 u8) ∧ Hid (Ebbs l (k + 1) q8) := ⟨_, _, HQw8, Lib.hid ⟨(show l.drop (k + 1) = _ by rfl), (show l.take P = _ by rw [HN.out, ← HP.out]; congr 1; omega), (show (l.drop (k + 1)).reverse = _ by rfl), (show (l.take P).reverse = _ by rw [HN.out, ← HP.out]; congr 2; omega)⟩⟩
          clear HQw8
          go_wp2_with fail
          go_roundw
          case rel => exact ⟨k + 1, _, _, by omega, by go_num, HQ9, HF9⟩
          case measure => simp [intOf]; omega
        · obtain rfl : n = k := by omega
          clear HQ HE0 hlt hk
          obtain ⟨f0, f1, f2, f3⟩ := HF.out
          rw [HN.out, Nat.sub_self, List.take_zero] at f1 f3
          rw [List.drop_of_length_le (by rw [HN.out]; omega)] at f0 f2
          have G : ∀ i, i < 4 → Hid (QU wr (w.heap.size + i) (t i) n ([] : List Int)) := fun i hi => Lib.hid (by
            have hq := HQwr.out.q i hi
            match i, hi with
            | 0, _ => rw [f0] at hq; exact hq
            | 1, _ => rw [f1] at hq; exact hq
            | 2, _ => rw [f2] at hq; exact hq
            | 3, _ => rw [f3] at hq; exact hq)
          obtain ⟨L0, g0, p0, r0, _⟩ := (G 0 (by omega)).out
          obtain ⟨L1, g1, p1, r1, _⟩ := (G 1 (by omega)).out
          obtain ⟨L2, g2, p2, r2, _⟩ := (G 2 (by omega)).out
          obtain ⟨L3, g3, p3, r3, _⟩ := (G 3 (by omega)).out
          have R0 := Lib.hid r0
          have R1 := Lib.hid r1
          have R2 := Lib.hid r2
          have R3 := Lib.hid r3
          clear f0 f1 f2 f3 G r0 r1 r2 r3
          go_wp2_with fail
          refine (len_any R0.out).mono ?_
          rintro e w5 ⟨rfl, rfl⟩
          go_wp2_with fail
          refine (len_any R1.out).mono ?_
          rintro e w5 ⟨rfl, rfl⟩
          go_wp2_with fail
          refine (len_any R2.out).mono ?_
          rintro e w5 ⟨rfl, rfl⟩
          go_wp2_with fail
          refine (len_any R3.out).mono ?_
          rintro e w5 ⟨rfl, rfl⟩
          rw [List.length_nil]
          go_wp2_with fail
          refine (works_any _).mono ?_
          rintro e w6 ⟨rfl, hb6⟩
          have HB6 := Lib.hid (HQwr.out.below.trans (hb6.mono HQwr.out.below.size))
          clear hb6
          go_wp2_with fail
          go_ret
          exact ⟨rfl, HB6.out⟩

theorem walk (A : Option Addr) (c : Nat) (l : List Int) (w : World) (hA : IA w A l) (ha : 8 * l.length ≤ 140737488355328) :
    Calls Try.prog 4 #[.slice A l.length c] w (LawPost w) := by
  by_cases h : 100 < l.length
  · exact large A c l w h (by omega)
  · exact small A c l w hA (by omega)

set_option maxRecDepth 100000 in
theorem lifted (os : Os) (started : os.Started) (H : Type) (enc : TypeId × Value → H) :
    ReturnsInHanded {} Try.checked os 4 .any (Rows.ringTurnsSpec.pre6 enc Try.prog Try.f4 Rows.ringTurnsRow.domain false) (Rows.ringTurnsSpec.post enc Try.prog Try.f4 false true false false) := by
  refine law_lifted started [26] rfl (by kernel_rfl) Try.func4 rfl (by decide +kernel) rfl (fun ds hl => by
    match ds, hl with
    | [_], _ => rfl) (ChangeSpec.witness6 (enc := enc) (C := Try.checked) false ⟨#[], #[.slice none 0 0], []⟩ 8 (by kernel_rfl) (by kernel_rfl) (by kernel_rfl) (by kernel_rfl)) ?_
  intro W base args ds ps hval hA hlt hsz
  obtain ⟨v0, vs0, d0, ds0, p0, q0, hargs, rfl, rfl, h0, r0⟩ := trodAll_cons hA
  obtain ⟨rfl, rfl, rfl⟩ := trodAll_nil r0
  obtain rfl : args = #[v0] := by cases args; simp_all
  obtain ⟨A0, c0, x0, rfl, b0, i0, z0⟩ := open_ints_arg (hval 0 26 v0 rfl rfl) h0 hsz 0 rfl rfl
  exact walk A0 c0 x0 W i0 b0

set_option maxRecDepth 100000 in
theorem over : Rows.ringTurnsRow.holds Try.pinned (OpenSpec.ofChange Rows.ringTurnsSpec) :=
  OpenClaim.holds_of_wide 4 Try.f4 rfl rfl rfl rfl rfl rfl rfl ⟨rfl, rfl, rfl, rfl, rfl⟩ rfl rfl rfl rfl rfl (by kernel_rfl) Try.func4 (by kernel_rfl)
    (of_decide_eq_true (by kernel_rfl)) (by unfold Func.isWrapper; first | (rw [if_pos (by decide +kernel)]; kernel_rfl) | (rw [if_neg (by decide +kernel)]; exact ⟨rfl, rfl⟩))
    (fun os started H enc _ => lifted os started H enc)

theorem proved : Rows.RingTurnsSaid := over
#print axioms proved
end Go.Proofs.Ytfhapodidjkmaaa.ringTurns
