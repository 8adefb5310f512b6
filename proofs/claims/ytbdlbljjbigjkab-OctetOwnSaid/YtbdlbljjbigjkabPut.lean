/- octet.Num, List, Text, and the document's: what they lay. -/
import Derived.Test.YtbdlbljjbigjkabEnc
import Derived.Lib.AppendStr
namespace Go.Proofs.Ytbdlbljjbigjkab
open Go.ChangeShapes Go.WideShapes Go.ChangeAt Go.RowKit

/-- New bytes l. -/
def NewBytes (W : World) (l : List Int) (e : Ending) (w' : World) : Prop := ∃ A c, e = .returned (.slice A l.length c) ∧ (A = none → c = 0) ∧ Below W.heap.size W w' ∧ BA w' A l

theorem NewBytes.of {W w' : World} {v : Value} {l : List Int} (h : OB W.heap.size w' v l) (hb : Below W.heap.size W w') : NewBytes W l (.returned v) w' := by
  obtain ⟨A, c, rfl, hA⟩ := h.form
  refine ⟨A, c, rfl, fun h0 => ?_, hb, hA⟩
  subst h0
  rcases h.2 with ⟨h1, _⟩ | ⟨g, cap, cur, h1, _⟩
  · injection h1
  · injection h1 with h2; cases h2

set_option maxRecDepth 20000 in
set_option maxHeartbeats 1000000 in
theorem refOne_any (n : Int) (w : World) (hn1 : -9223372036854775808 ≤ n) (hn2 : n ≤ 9223372036854775807) :
    Calls Try.prog 19 #[.int .i64 n] w (NewBytes w (enc n)) := by
  obtain ⟨i0, hi, hz0, hz1, hz2⟩ := info_parts Try.info5
  have hlen : (enc n).length ≤ 10 := enc_len hn1 hn2
  have hu := Lib.hid (unsN_lt hn1 hn2)
  go_enter Try.func19, Try.ntmps19
  go_wp2_with (go_at_call 28; refine (refUnsigned_any _ _ hn1 hn2).mono ?_; rintro e w' ⟨rfl, rfl⟩)
  go_loopw [3, 4] (fun u a wr => ∃ (v' : Value) (l' : List Int) (k : Nat), a = v' ∧ u = .int .u64 (k : Int) ∧ k < 18446744073709551616 ∧ Hid (l' ++ encU k = enc n) ∧ Hid (OB w.heap.size wr v' l') ∧ Hid (Below w.heap.size w wr)) (fun u _ _ => (intOf u).toNat)
  case atStart => exact ⟨_, [], _, rfl, rfl, hu.out, Lib.hid rfl, Lib.hid (OB.nil _ _), Lib.hid (Below.refl _ _)⟩
  case round =>
    obtain ⟨v', l', k, rfl, rfl, hk, HE, HO', HW⟩ := hrel
    have hlen' : l'.length + (encU k).length ≤ 10 := by
      have := congrArg List.length HE.out
      simp only [List.length_append] at this
      omega
    have hpos := encU_pos k
    have hk3 : k / 128 ≤ 144115188075855871 := by omega
    have HK := Lib.hid hk
    clear hk
    have hbw : w.heap.size ≤ wr.heap.size := HW.out.size
    by_cases hk2 : k < 128
    · have e1 : Hid (l' ++ [(k : Int)] = enc n) := Lib.hid (by rw [← encU_small hk2]; exact HE.out)
      clear hlen hu
      go_wp2_with (at_builtin; refine wpList_append_own_at _ rfl (.tmp 18) (.tmp 21) 25 rfl w.heap.size 5 i0 (.int .u8 0) 1 1 Try.underlying25 hi hz0 hz1 hz2 rfl (by decide) _ l'.length _ rfl (HO'.out.alloc _) ⟨wr.heap.size, 0, none⟩ 1 1 [.int .u8 (k : Int)] rfl rfl (cell_one_new _ _ _) (by simp [Value.oneCell']) (by unfold maxLen; omega) (by omega) (by simp; omega) ?_; intro v2 w1 hown1 hgrow1 _ _)
      go_ret
      exact NewBytes.of (by rw [← e1.out]; exact ob_snoc hown1) (Below.grown (HW.out.alloc hbw _) hgrow1 (by simp; omega) (fun j hj => (HO'.out.lt _ hj).1))
    · have e0 : ((k % 128 + 128 : Nat) : Int) = (k : Int) % 128 + 128 := by omega
      have e1 : Hid ((l' ++ [(k : Int) % 128 + 128]) ++ encU (k / 128) = enc n) := Lib.hid (by rw [List.append_assoc, List.singleton_append, ← e0, ← encU_big (by omega)]; exact HE.out)
      have HK2 : Hid (k / 128 < 18446744073709551616) := Lib.hid (by have := HK.out; omega)
      clear e0 hlen hu
      go_wp2_with (at_builtin; refine wpList_append_own_at _ rfl (.tmp 9) (.tmp 14) 25 rfl w.heap.size 5 i0 (.int .u8 0) 1 1 Try.underlying25 hi hz0 hz1 hz2 rfl (by decide) _ l'.length _ rfl (HO'.out.alloc _) ⟨wr.heap.size, 0, none⟩ 1 1 [.int .u8 (k % 128 + 128 : Int)] rfl rfl (cell_one_new _ _ _) (by simp [Value.oneCell']) (by unfold maxLen; omega) (by omega) (by simp; omega) ?_; intro v2 w1 hown1 hgrow1 _ _)
      have HW1 : Hid (Below w.heap.size w w1) := Lib.hid (Below.grown (HW.out.alloc hbw _) hgrow1 (by simp; omega) (fun j hj => (HO'.out.lt _ hj).1))
      have HO1 : Hid (OB w.heap.size w1 v2 (l' ++ [(k : Int) % 128 + 128])) := Lib.hid (ob_snoc hown1)
      clear hown1 hgrow1
      go_roundw
      case rel => exact ⟨_, _, k / 128, rfl, by go_num, HK2.out, e1, HO1, HW1⟩
      case measure => simp [intOf]; omega

theorem num_any (A : Option Addr) (c m : Nat) (l : List Int) (n : Int) (w : World) (hm : m = l.length) (hc : A = none → c = 0) (hA : BA w A l) (hl : l.length ≤ 70368744177664) (hn1 : -9223372036854775808 ≤ n) (hn2 : n ≤ 9223372036854775807) :
    Calls Try.prog 10 #[.slice A m c, .int .i64 n] w (NewBytes w (l ++ enc n)) := by
  subst hm
  have HA := Lib.hid hA
  clear hA
  go_enter Try.func10, Try.ntmps10
  go_wp2_with fail
  refine (clone_any A c _ l w rfl hc HA.out (by omega)).mono ?_
  rintro e w1 ⟨v1, rfl, ho1, hb1⟩
  have HO := Lib.hid ho1
  clear ho1
  go_wp2_with fail
  refine (number_any w.heap.size v1 l n w1 HO.out hb1.size hl hn1 hn2).mono ?_
  rintro e w2 ⟨v2, rfl, ho2, hb2⟩
  go_wp2_with fail
  go_ret
  exact NewBytes.of ho2 (hb1.trans hb2)

theorem refNum_any (A : Option Addr) (c m : Nat) (l : List Int) (n : Int) (w : World) (hm : m = l.length) (hc : A = none → c = 0) (hA : BA w A l) (hl : l.length ≤ 70368744177664) (hn1 : -9223372036854775808 ≤ n) (hn2 : n ≤ 9223372036854775807) :
    Calls Try.prog 11 #[.slice A m c, .int .i64 n] w (NewBytes w (l ++ enc n)) := by
  subst hm
  have HA := Lib.hid hA
  have hle := enc_len hn1 hn2
  clear hA
  go_enter Try.func11, Try.ntmps11
  go_wp2_with (at_builtin; refine append_bytes _ rfl (.tmp 5) (.tmp 6) rfl w.heap.size _ [] rfl (ob_empty w _ _ (Nat.le_refl _) rfl) A c _ l rfl rfl hc (HA.out.alloc _) (by simp; omega) (by simp) ?_; intro v1 w1 ho1 hb1)
  have HO := Lib.hid ho1
  have hz := hb1.size
  have hz2 : w.heap.size ≤ w1.heap.size := by simp at hz; omega
  have hbw : Below w.heap.size w w1 := ((Below.refl _ _).alloc (Nat.le_refl _) _).trans hb1
  clear ho1 hb1 hz
  refine (refOne_any n w1 hn1 hn2).mono ?_
  rintro e w2 ⟨A2, c2, rfl, hc2, hb2, hB2⟩
  have HB2 := Lib.hid hB2
  have HO2 : Hid (OB w.heap.size w2 v1 l) := Lib.hid (by
    have h := HO.out
    rw [List.nil_append] at h
    exact h.kept (row := none) ⟨hb2.os, hb2.tape, hb2.output, hb2.size, fun i hi _ => hb2.block i hi⟩ (by
      cases hv : v1.ownBlock with
      | none => exact .inl rfl
      | some g => exact .inr (by simp)))
  have hbw2 : Below w.heap.size w w2 := hbw.trans (hb2.mono hz2)
  clear hB2 hb2 hbw
  go_wp2_with (at_builtin; refine append_bytes _ rfl (.tmp 7) (.tmp 9) rfl w.heap.size _ l rfl HO2.out A2 c2 _ (enc n) rfl rfl hc2 HB2.out (by omega) hbw2.size ?_; intro v3 w3 ho3 hb3)
  go_ret
  exact NewBytes.of ho3 (hbw2.trans hb3)

/-- A list's bytes. -/
def encL (zs : List Int) : List Int := enc zs.length ++ zs.flatMap enc
/-- A text's bytes. -/
def strL (s : ByteArray) : List Int := s.data.toList.map fun b => (b.toNat : Int)
theorem strL_length (s : ByteArray) : (strL s).length = s.size := by unfold strL; simp
theorem strCells_eq (s : ByteArray) : Lib.strCells s = (strL s).map (Value.int .u8) := by unfold Lib.strCells strL; rw [List.map_map]; rfl
def encT (s : ByteArray) : List Int := enc s.size ++ strL s

theorem flatMap_len (zs : List Int) (h : W64 zs) : (zs.flatMap enc).length ≤ 10 * zs.length := by
  induction zs with
  | nil => simp
  | cons z zs ih =>
    have h1 := enc_len (h z (by simp)).1 (h z (by simp)).2
    have h2 := ih (fun x hx => h x (by simp [hx]))
    simp only [List.flatMap_cons, List.length_append, List.length_cons]
    omega
theorem flatMap_snoc (zs : List Int) (k : Nat) (h : k < zs.length) : (zs.take (k + 1)).flatMap enc = (zs.take k).flatMap enc ++ enc (zs.getD k 0) := by
  rw [List.take_succ_eq_append_getElem h, List.flatMap_append]
  simp [List.getD, h]

theorem number_at {base : Nat} {v : Value} {l r : List Int} {n : Int} (w : World) (hr : r = l ++ enc n) (hown : OB base w v l) (hb : base ≤ w.heap.size) (hl : l.length ≤ 70368744177664) (hn : -9223372036854775808 ≤ n ∧ n ≤ 9223372036854775807) :
    Calls Try.prog 17 #[v, .int .i64 n] w (Numbered base r w) := by
  subst hr; exact number_any base v l n w hown hb hl hn.1 hn.2

set_option maxRecDepth 20000 in
set_option maxHeartbeats 1000000 in
theorem list_any (A B : Option Addr) (c d m k : Nat) (l zs : List Int) (w : World) (hm : m = l.length) (hk : k = zs.length) (hc : A = none → c = 0) (hA : BA w A l) (hB : IA w B zs) (hz : W64 zs) (hl : l.length + 10 * zs.length ≤ 35184372088832) :
    Calls Try.prog 7 #[.slice A m c, .slice B k d] w (NewBytes w (l ++ encL zs)) := by
  subst hm hk
  have HA := Lib.hid hA
  have HB := Lib.hid hB
  have HZ := Lib.hid hz
  have hfl := flatMap_len zs hz
  have hel : (enc zs.length).length ≤ 10 := enc_len (by omega) (by omega)
  clear hA hB hz
  go_enter Try.func7, Try.ntmps7
  go_wp2_with fail
  refine (clone_any A c _ l w rfl hc HA.out (by omega)).mono ?_
  rintro e w1 ⟨v1, rfl, ho1, hb1⟩
  have HO := Lib.hid ho1
  clear ho1
  go_wp2_with fail
  refine (number_any w.heap.size v1 l _ w1 HO.out hb1.size (by omega) (by omega) (by omega)).mono ?_
  rintro e w2 ⟨v2, rfl, ho2, hb2⟩
  have HO2 := Lib.hid ho2
  have HW2 := Lib.hid (hb1.trans hb2)
  clear ho2 hb1 hb2
  go_wp2_with fail
  go_loopw [5, 15] (fun a i wr => ∃ (v' : Value) (k : Nat), a = v' ∧ i = .int .i64 (k : Int) ∧ k ≤ zs.length ∧ Hid (OB w.heap.size wr v' (l ++ enc zs.length ++ (zs.take k).flatMap enc)) ∧ Hid (Below w.heap.size w wr)) (fun _ i _ => zs.length - (intOf i).toNat)
  case atStart => exact ⟨_, 0, rfl, rfl, Nat.zero_le _, Lib.hid (by rw [List.take_zero, List.flatMap_nil, List.append_nil]; exact HO2.out), HW2⟩
  case round =>
    obtain ⟨v', k, rfl, rfl, hk, HO', HW⟩ := hrel
    by_cases hlt : k < zs.length
    · obtain ⟨bB, oB, rfl, hbB, hcB⟩ := HB.out (by omega)
      have c1 : wr.cell? ⟨bB, oB + k, none⟩ = some (.int .i64 (zs.getD k 0)) := by rw [HW.out.cell (p := ⟨bB, oB + k, none⟩) hbB]; exact hcB k hlt
      have hw := Lib.hid (HZ.out.at_ k)
      have hlen : Hid ((l ++ enc zs.length ++ (zs.take k).flatMap enc).length ≤ 70368744177664) := Lib.hid (by
        have h1 := flatMap_len (zs.take k) (fun x hx => HZ.out x (List.mem_of_mem_take hx))
        have h2 : (zs.take k).length ≤ zs.length := List.length_take_le' _ _
        simp only [List.length_append]
        omega)
      have hr : Hid (l ++ enc zs.length ++ (zs.take (k + 1)).flatMap enc = (l ++ enc zs.length ++ (zs.take k).flatMap enc) ++ enc (zs.getD k 0)) := Lib.hid (by rw [flatMap_snoc zs k hlt]; simp only [List.append_assoc])
      have hsz := Lib.hid HW.out.size
      generalize zs.getD k 0 = x at c1 hw hr
      clear hcB hfl hel
      go_wp2_with fail
      refine (number_at wr hr.out HO'.out hsz.out hlen.out hw.out).mono ?_
      rintro e w3 ⟨v3, rfl, ho3, hb3⟩
      have HO3 := Lib.hid ho3
      have HW3 := Lib.hid (HW.out.trans hb3)
      clear ho3 hb3
      go_wp2_with fail
      go_roundw
      case rel => exact ⟨_, k + 1, rfl, by go_num, by omega, HO3, HW3⟩
      case measure => simp [intOf]; omega
    · have hk2 : k = zs.length := by omega
      subst hk2
      go_wp2
      go_ret
      have h := HO'.out
      rw [List.take_length, List.append_assoc] at h
      exact NewBytes.of h HW.out

end Go.Proofs.Ytbdlbljjbigjkab
