/- 'works': it returns true. -/
import Derived.Test.YthakidnbgmpcfaaReaderNum
import Derived.Deep.OwnRows
namespace Go.Proofs.Ythakidnbgmpcfaa
open Go.ChangeShapes Go.WideShapes Go.ChangeAt Go.RowKit

theorem ia_pair (w : World) (a b : Int) (t : TypeId) (n : Nat) (hn : n = w.heap.size) : IA (w.alloc (.cells #[.int .i64 a, .int .i64 b] t)) (some ⟨n, 0, none⟩) [a, b] := fun _ => by
  subst hn
  have h := World.rowIs_alloc w #[.int .i64 a, .int .i64 b] t (fun i => .int .i64 ([a, b].getD i 0)) (fun i hi => by
    match i, hi with
    | 0, _ => rfl
    | 1, _ => rfl
    | i + 2, hi => exact absurd hi (by simp))
  refine ⟨_, 0, rfl, h.lt, fun i hi => ?_⟩
  have := h.cell (i := i) hi
  rw [Nat.zero_add]; exact this
theorem w64_pair (a b : Int) (h : (-100 ≤ a ∧ a ≤ 100) ∧ -100 ≤ b ∧ b ≤ 100) : W64 [a, b] := fun z hz => by
  simp at hz
  rcases hz with rfl | rfl <;> omega
theorem RD.below {w w' : World} {g : Nat} {A : Option Addr} {c : Nat} {l : List Int} {p : Nat} {e : Int} (h : RD w g A c l p e) (hb : Below w.heap.size w w') : RD w' g A c l p e :=
  ⟨h.row.of_block (hb.block g h.row.lt), h.bytes.below hb, h.place, h.u8, h.len, h.ne, h.cap⟩

theorem enc_2 : enc 2 = [4] := encU_small (by decide)
theorem enc_3 : enc 3 = [6] := encU_small (by decide)
theorem enc_m1 : enc (-1) = [1] := encU_small (by decide)
theorem enc_64 : enc 64 = [128, 1] := by
  show encU 128 = _
  rw [encU_big (by decide), encU_small (by decide)]; rfl
theorem encL_ex : encL [3, -1] = [4, 6, 1] := by
  show enc 2 ++ (enc 3 ++ (enc (-1) ++ [])) = _
  rw [enc_2, enc_3, enc_m1]; rfl
theorem readN_ex : readN [128, 0] = ⟨3, 0, 0⟩ := rfl

theorem eq_yes {A B : Option Addr} {c d m1 m2 : Nat} {xs ys : List Int} (w : World) (hm1 : m1 = xs.length) (hm2 : m2 = ys.length) (he : xs = ys) (hA : BA w A xs) (hB : BA w B ys) (hl : xs.length ≤ maxLen) :
    Calls Try.prog 18 #[.slice A m1 c, .slice B m2 d] w fun e w' => e = .returned (.bool true) ∧ ∃ n, w' = w.drewN n := by
  subst he
  have h := equalBytes_any A B c d m1 m2 xs xs w hm1 hm2 hA hB hl hl
  have e : eqB xs xs = true := decide_eq_true rfl
  rw [e] at h; exact h

theorem list_works (w : World) (B : Option Addr) (hB : IA w B [3, -1]) : Calls Try.prog 17 #[.slice none 0 0, .slice B 2 2] w (NewBytes w [4, 6, 1]) := by
  have h := list_any none B 0 2 0 2 [] [3, -1] w rfl rfl (fun _ => rfl) (BA.nil _ _) hB (w64_pair _ _ (by omega)) (by simp)
  rw [List.nil_append, encL_ex] at h; exact h
theorem from_works (w : World) (B : Option Addr) (hB : BA w B [128, 0]) (hn : B ≠ none) : Calls Try.prog 5 #[.slice B 2 2] w (FromPost w [128, 0]) :=
  from_any B 2 2 [128, 0] w rfl (fun h => absurd h hn) hB (fun z hz => by simp at hz; omega) (by simp)
theorem rnum_works {g : Nat} {A : Option Addr} {c : Nat} (w : World) (h : RD w g A c [128, 0] 0 0) : Calls Try.prog 8 #[.pointer (some ⟨g, 0, none⟩)] w (RPost g A c [128, 0] 0 w (.int .i64 0) 0 3) := by
  have := rnum_any w h
  rw [List.drop_zero, readN_ex] at this; exact this
theorem num64_works (w : World) : Calls Try.prog 19 #[.slice none 0 0, .int .i64 64] w (NewBytes w [128, 1]) := by
  have h := num_any none 0 0 [] 64 w rfl (fun _ => rfl) (BA.nil _ _) (by simp) (by omega) (by omega)
  rw [List.nil_append, enc_64] at h; exact h
theorem numm1_works (w : World) : Calls Try.prog 19 #[.slice none 0 0, .int .i64 (-1)] w (NewBytes w [1]) := by
  have h := num_any none 0 0 [] (-1) w rfl (fun _ => rfl) (BA.nil _ _) (by simp) (by omega) (by omega)
  rw [List.nil_append, enc_m1] at h; exact h

set_option maxHeartbeats 1000000 in
theorem works_any (w : World) : Calls Try.prog 4 #[] w fun e w' => e = .returned (.bool true) ∧ Below w.heap.size w w' := by
  go_enter Try.func4, Try.ntmps4
  go_wp2_with fail
  refine (list_works _ _ (ia_pair _ _ _ _ _ rfl)).mono ?_
  rintro e w1 ⟨A1, c1, rfl, _, hb1, hB1⟩
  have hw1 : Below w.heap.size w w1 := ((Below.refl _ _).alloc (Nat.le_refl _) _).trans (hb1.mono (by simp))
  have HB1 := Lib.hid hB1
  clear hb1 hB1
  have hz1 := hw1.size
  go_wp2_with fail
  refine (from_works _ _ (ba_lit _ _ _ _ _ rfl rfl) (by simp)).mono ?_
  rintro e w2 ⟨g, A2, c2, rfl, hg, hb2, hr2⟩
  have hz2 : w1.heap.size ≤ w2.heap.size := by have := hb2.size; simp at this; omega
  have hg1 : w1.heap.size ≤ g := by simp at hg; omega
  have hw2 : Below w1.heap.size w1 w2 := ((Below.refl _ _).alloc (Nat.le_refl _) _).trans (hb2.mono (by simp))
  have HR2 := Lib.hid hr2
  clear hb2 hr2 hg
  go_wp2_with fail
  refine (rnum_works _ HR2.out).mono ?_
  rintro e w3 ⟨rfl, hr3, ho3⟩
  have hw3 : Below w1.heap.size w1 w3 := hw2.trans (ho3.below hg1 hz2)
  have hz3 := hw3.size
  have HR3 := Lib.hid hr3
  have HB3 := Lib.hid (HB1.out.below hw3)
  clear hr3 ho3 hw2
  go_wp2_with fail
  refine (eq_yes _ rfl rfl rfl (HB3.out.alloc _) (ba_lit _ [4, 6, 1] _ _ _ rfl rfl) (by unfold maxLen; simp)).mono ?_
  rintro e w' ⟨rfl, n1, rfl⟩
  have HR4 : Hid (RD ((w3.alloc (.cells #[.int .u8 4, .int .u8 6, .int .u8 1] 5)).drewN n1) g A2 c2 [128, 0] 0 3) := Lib.hid ((HR3.out.below ((Below.refl _ _).alloc (Nat.le_refl _) _)).drewN n1)
  have hw4 : Below w1.heap.size w1 ((w3.alloc (.cells #[.int .u8 4, .int .u8 6, .int .u8 1] 5)).drewN n1) := below_drewN (hw3.alloc hz3 _) n1
  have hz4 := hw4.size
  go_wp2_with fail
  refine (err_any _ HR4.out).mono ?_
  rintro e w' ⟨rfl, rfl⟩
  go_wp2_with fail
  refine (num64_works _).mono ?_
  rintro e w5 ⟨A5, c5, rfl, _, hb5, hB5⟩
  have hw5 : Below w1.heap.size w1 w5 := hw4.trans (hb5.mono hz4)
  have hz5 := hw5.size
  have HB5 := Lib.hid hB5
  clear hb5 hB5 hw4 hz4 hw3 hz3
  go_wp2_with fail
  refine (eq_yes _ rfl rfl rfl (HB5.out.alloc _) (ba_lit _ [128, 1] _ _ _ rfl rfl) (by unfold maxLen; simp)).mono ?_
  rintro e w' ⟨rfl, n2, rfl⟩
  have hw6 : Below w1.heap.size w1 ((w5.alloc (.cells #[.int .u8 128, .int .u8 1] 5)).drewN n2) := below_drewN (hw5.alloc hz5 _) n2
  have hz6 := hw6.size
  go_wp2_with fail
  refine (numm1_works _).mono ?_
  rintro e w7 ⟨A7, c7, rfl, _, hb7, hB7⟩
  have hw7 : Below w1.heap.size w1 w7 := hw6.trans (hb7.mono hz6)
  have hz7 := hw7.size
  have HB7 := Lib.hid hB7
  clear hb7 hB7 hw6 hz6 hw5 hz5
  go_wp2_with fail
  refine (eq_yes _ rfl rfl rfl (HB7.out.alloc _) (ba_lit _ [1] _ _ _ rfl rfl) (by unfold maxLen; simp)).mono ?_
  rintro e w' ⟨rfl, n3, rfl⟩
  go_wp2
  go_ret
  exact ⟨rfl, hw1.trans ((below_drewN (hw7.alloc hz7 _) n3).mono hz1)⟩
end Go.Proofs.Ythakidnbgmpcfaa
