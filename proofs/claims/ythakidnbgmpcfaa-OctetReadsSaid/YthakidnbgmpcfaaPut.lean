/- octet.Num, List, Text, and the document's: what they lay. -/
import Derived.Test.YthakidnbgmpcfaaEnc
import Derived.Lib.AppendStr
namespace Go.Proofs.Ythakidnbgmpcfaa
open Go.ChangeShapes Go.WideShapes Go.ChangeAt Go.RowKit

/-- New bytes l. -/
def NewBytes (W : World) (l : List Int) (e : Ending) (w' : World) : Prop := ∃ A c, e = .returned (.slice A l.length c) ∧ (A = none → c = 0) ∧ Below W.heap.size W w' ∧ BA w' A l

theorem NewBytes.of {W w' : World} {v : Value} {l : List Int} (h : OB W.heap.size w' v l) (hb : Below W.heap.size W w') : NewBytes W l (.returned v) w' := by
  obtain ⟨A, c, rfl, hA⟩ := h.form
  refine ⟨A, c, rfl, fun h0 => ?_, hb, hA⟩
  subst h0
  rcases h.2 with ⟨h1, _⟩ | ⟨g, cap, cur, h1, _⟩
  · injection h1
  · injection h1 with h2; cases h2

theorem num_any (A : Option Addr) (c m : Nat) (l : List Int) (n : Int) (w : World) (hm : m = l.length) (hc : A = none → c = 0) (hA : BA w A l) (hl : l.length ≤ 70368744177664) (hn1 : -9223372036854775808 ≤ n) (hn2 : n ≤ 9223372036854775807) :
    Calls Try.prog 19 #[.slice A m c, .int .i64 n] w (NewBytes w (l ++ enc n)) := by
  subst hm
  have HA := Lib.hid hA
  clear hA
  go_enter Try.func19, Try.ntmps19
  go_wp2_with fail
  refine (clone_any A c _ l w rfl hc HA.out (by omega)).mono ?_
  rintro e w1 ⟨v1, rfl, ho1, hb1⟩
  have HO := Lib.hid ho1
  clear ho1
  go_wp2_with fail
  refine (number_any w.heap.size v1 l n w1 HO.out hb1.size hl hn1 hn2).mono ?_
  rintro e w2 ⟨v2, rfl, ho2, hb2⟩
  go_wp2_with fail
  go_ret
  exact NewBytes.of ho2 (hb1.trans hb2)

/-- A list's bytes. -/
def encL (zs : List Int) : List Int := enc zs.length ++ zs.flatMap enc
/-- A text's bytes. -/
def strL (s : ByteArray) : List Int := s.data.toList.map fun b => (b.toNat : Int)
theorem strL_length (s : ByteArray) : (strL s).length = s.size := by unfold strL; simp
theorem strCells_eq (s : ByteArray) : Lib.strCells s = (strL s).map (Value.int .u8) := by unfold Lib.strCells strL; rw [List.map_map]; rfl
def encT (s : ByteArray) : List Int := enc s.size ++ strL s

theorem flatMap_len (zs : List Int) (h : W64 zs) : (zs.flatMap enc).length ≤ 10 * zs.length := by
  induction zs with
  | nil => simp
  | cons z zs ih =>
    have h1 := enc_len (h z (by simp)).1 (h z (by simp)).2
    have h2 := ih (fun x hx => h x (by simp [hx]))
    simp only [List.flatMap_cons, List.length_append, List.length_cons]
    omega
theorem flatMap_snoc (zs : List Int) (k : Nat) (h : k < zs.length) : (zs.take (k + 1)).flatMap enc = (zs.take k).flatMap enc ++ enc (zs.getD k 0) := by
  rw [List.take_succ_eq_append_getElem h, List.flatMap_append]
  simp [List.getD, h]

theorem number_at {base : Nat} {v : Value} {l r : List Int} {n : Int} (w : World) (hr : r = l ++ enc n) (hown : OB base w v l) (hb : base ≤ w.heap.size) (hl : l.length ≤ 70368744177664) (hn : -9223372036854775808 ≤ n ∧ n ≤ 9223372036854775807) :
    Calls Try.prog 31 #[v, .int .i64 n] w (Numbered base r w) := by
  subst hr; exact number_any base v l n w hown hb hl hn.1 hn.2

set_option maxRecDepth 20000 in
set_option maxHeartbeats 1000000 in
theorem list_any (A B : Option Addr) (c d m k : Nat) (l zs : List Int) (w : World) (hm : m = l.length) (hk : k = zs.length) (hc : A = none → c = 0) (hA : BA w A l) (hB : IA w B zs) (hz : W64 zs) (hl : l.length + 10 * zs.length ≤ 35184372088832) :
    Calls Try.prog 17 #[.slice A m c, .slice B k d] w (NewBytes w (l ++ encL zs)) := by
  subst hm hk
  have HA := Lib.hid hA
  have HB := Lib.hid hB
  have HZ := Lib.hid hz
  have hfl := flatMap_len zs hz
  have hel : (enc zs.length).length ≤ 10 := enc_len (by omega) (by omega)
  clear hA hB hz
  go_enter Try.func17, Try.ntmps17
  go_wp2_with fail
  refine (clone_any A c _ l w rfl hc HA.out (by omega)).mono ?_
  rintro e w1 ⟨v1, rfl, ho1, hb1⟩
  have HO := Lib.hid ho1
  clear ho1
  go_wp2_with fail
  refine (number_any w.heap.size v1 l _ w1 HO.out hb1.size (by omega) (by omega) (by omega)).mono ?_
  rintro e w2 ⟨v2, rfl, ho2, hb2⟩
  have HO2 := Lib.hid ho2
  have HW2 := Lib.hid (hb1.trans hb2)
  clear ho2 hb1 hb2
  go_wp2_with fail
  go_loopw [5, 15] (fun a i wr => ∃ (v' : Value) (k : Nat), a = v' ∧ i = .int .i64 (k : Int) ∧ k ≤ zs.length ∧ Hid (OB w.heap.size wr v' (l ++ enc zs.length ++ (zs.take k).flatMap enc)) ∧ Hid (Below w.heap.size w wr)) (fun _ i _ => zs.length - (intOf i).toNat)
  case atStart => exact ⟨_, 0, rfl, rfl, Nat.zero_le _, Lib.hid (by rw [List.take_zero, List.flatMap_nil, List.append_nil]; exact HO2.out), HW2⟩
  case round =>
    obtain ⟨v', k, rfl, rfl, hk, HO', HW⟩ := hrel
    by_cases hlt : k < zs.length
    · obtain ⟨bB, oB, rfl, hbB, hcB⟩ := HB.out (by omega)
      have c1 : wr.cell? ⟨bB, oB + k, none⟩ = some (.int .i64 (zs.getD k 0)) := by rw [HW.out.cell (p := ⟨bB, oB + k, none⟩) hbB]; exact hcB k hlt
      have hw := Lib.hid (HZ.out.at_ k)
      have hlen : Hid ((l ++ enc zs.length ++ (zs.take k).flatMap enc).length ≤ 70368744177664) := Lib.hid (by
        have h1 := flatMap_len (zs.take k) (fun x hx => HZ.out x (List.mem_of_mem_take hx))
        have h2 : (zs.take k).length ≤ zs.length := List.length_take_le' _ _
        simp only [List.length_append]
        omega)
      have hr : Hid (l ++ enc zs.length ++ (zs.take (k + 1)).flatMap enc = (l ++ enc zs.length ++ (zs.take k).flatMap enc) ++ enc (zs.getD k 0)) := Lib.hid (by rw [flatMap_snoc zs k hlt]; simp only [List.append_assoc])
      have hsz := Lib.hid HW.out.size
      generalize zs.getD k 0 = x at c1 hw hr
      clear hcB hfl hel
      go_wp2_with fail
      refine (number_at wr hr.out HO'.out hsz.out hlen.out hw.out).mono ?_
      rintro e w3 ⟨v3, rfl, ho3, hb3⟩
      have HO3 := Lib.hid ho3
      have HW3 := Lib.hid (HW.out.trans hb3)
      clear ho3 hb3
      go_wp2_with fail
      go_roundw
      case rel => exact ⟨_, k + 1, rfl, by go_num, by omega, HO3, HW3⟩
      case measure => simp [intOf]; omega
    · have hk2 : k = zs.length := by omega
      subst hk2
      go_wp2
      go_ret
      have h := HO'.out
      rw [List.take_length, List.append_assoc] at h
      exact NewBytes.of h HW.out

end Go.Proofs.Ythakidnbgmpcfaa
