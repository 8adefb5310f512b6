/- The law OctetApart: the bytes of a list are no beginning of those of another one; nothing that was there is changed. No condition. -/
import Derived.Test.YtbdlbljjbigjkabWorks
import Derived.Test.YtbdlbljjbigjkabReadPure
import Derived.Deep.RegionWith
namespace Go.Proofs.Ytbdlbljjbigjkab.octetApart
open Go.ChangeShapes Go.WideShapes Go.ChangeAt Go.RowKit

/-- New bytes l, told with their capacity. -/
def NewBytesC (W : World) (l : List Int) (e : Ending) (w' : World) : Prop := ∃ A c, e = .returned (.slice A l.length c) ∧ l.length ≤ c ∧ Below W.heap.size W w' ∧ BA w' A l
theorem NewBytesC.of {W w' : World} {v : Value} {l : List Int} (h : OB W.heap.size w' v l) (hb : Below W.heap.size W w') : NewBytesC W l (.returned v) w' := by
  obtain ⟨A, c, rfl, hA⟩ := h.form
  exact ⟨A, c, rfl, ob_cap h, hb, hA⟩

set_option maxRecDepth 20000 in
set_option maxHeartbeats 1000000 in
theorem listC_any (A B : Option Addr) (c d m k : Nat) (l zs : List Int) (w : World) (hm : m = l.length) (hk : k = zs.length) (hc : A = none → c = 0) (hA : BA w A l) (hB : IA w B zs) (hz : W64 zs) (hl : l.length + 10 * zs.length ≤ 35184372088832) :
    Calls Try.prog 7 #[.slice A m c, .slice B k d] w (NewBytesC w (l ++ encL zs)) := by
  subst hm hk
  have HA := Lib.hid hA
  have HB := Lib.hid hB
  have HZ := Lib.hid hz
  have hfl := flatMap_len zs hz
  have hel : (enc zs.length).length ≤ 10 := enc_len (by omega) (by omega)
  clear hA hB hz
  go_enter Try.func7, Try.ntmps7
  go_wp2_with fail
  refine (clone_any A c _ l w rfl hc HA.out (by omega)).mono ?_
  rintro e w1 ⟨v1, rfl, ho1, hb1⟩
  have HO := Lib.hid ho1
  clear ho1
  go_wp2_with fail
  refine (number_any w.heap.size v1 l _ w1 HO.out hb1.size (by omega) (by omega) (by omega)).mono ?_
  rintro e w2 ⟨v2, rfl, ho2, hb2⟩
  have HO2 := Lib.hid ho2
  have HW2 := Lib.hid (hb1.trans hb2)
  clear ho2 hb1 hb2
  go_wp2_with fail
  go_loopw [5, 15] (fun a i wr => ∃ (v' : Value) (k : Nat), a = v' ∧ i = .int .i64 (k : Int) ∧ k ≤ zs.length ∧ Hid (OB w.heap.size wr v' (l ++ enc zs.length ++ (zs.take k).flatMap enc)) ∧ Hid (Below w.heap.size w wr)) (fun _ i _ => zs.length - (intOf i).toNat)
  case atStart => exact ⟨_, 0, rfl, rfl, Nat.zero_le _, Lib.hid (by rw [List.take_zero, List.flatMap_nil, List.append_nil]; exact HO2.out), HW2⟩
  case round =>
    obtain ⟨v', k, rfl, rfl, hk, HO', HW⟩ := hrel
    by_cases hlt : k < zs.length
    · obtain ⟨bB, oB, rfl, hbB, hcB⟩ := HB.out (by omega)
      have c1 : wr.cell? ⟨bB, oB + k, none⟩ = some (.int .i64 (zs.getD k 0)) := by rw [HW.out.cell (p := ⟨bB, oB + k, none⟩) hbB]; exact hcB k hlt
      have hw := Lib.hid (HZ.out.at_ k)
      have hlen : Hid ((l ++ enc zs.length ++ (zs.take k).flatMap enc).length ≤ 70368744177664) := Lib.hid (by
        have h1 := flatMap_len (zs.take k) (fun x hx => HZ.out x (List.mem_of_mem_take hx))
        have h2 : (zs.take k).length ≤ zs.length := List.length_take_le' _ _
        simp only [List.length_append]
        omega)
      have hr : Hid (l ++ enc zs.length ++ (zs.take (k + 1)).flatMap enc = (l ++ enc zs.length ++ (zs.take k).flatMap enc) ++ enc (zs.getD k 0)) := Lib.hid (by rw [flatMap_snoc zs k hlt]; simp only [List.append_assoc])
      have hsz := Lib.hid HW.out.size
      generalize zs.getD k 0 = x at c1 hw hr
      clear hcB hfl hel
      go_wp2_with fail
      refine (number_at wr hr.out HO'.out hsz.out hlen.out hw.out).mono ?_
      rintro e w3 ⟨v3, rfl, ho3, hb3⟩
      have HO3 := Lib.hid ho3
      have HW3 := Lib.hid (HW.out.trans hb3)
      clear ho3 hb3
      go_wp2_with fail
      go_roundw
      case rel => exact ⟨_, k + 1, rfl, by go_num, by omega, HO3, HW3⟩
      case measure => simp [intOf]; omega
    · have hk2 : k = zs.length := by omega
      subst hk2
      go_wp2
      go_ret
      have h := HO'.out
      rw [List.take_length, List.append_assoc] at h
      exact NewBytesC.of h HW.out


theorem slice_head (W : World) (A : Option Addr) (m c n : Nat) (h : n ≤ c) : (Instr.slice 25 (.slice A m c) none (some (.int .i64 (n : Int))) none).run Try.prog W = .ok (.slice A n c) W := by
  have ht : Try.prog.underlying 25 = some (.slice (Try.prog.elem 25)) := by kernel_rfl
  rw [run_slice_h W 25 A m c ht .i64 (n : Int) (by omega) (by omega)]
  have hs : (sizeOf (Try.prog.elem 25)).run Try.prog W = .ok 1 W := by kernel_rfl
  rw [hs]
  show Result.ok (sliced A 0 (n : Int).toNat c 1) W = _
  have e1 : (n : Int).toNat = n := by omega
  unfold sliced
  rw [e1, Nat.sub_zero, Nat.sub_zero]
  have e2 : A.map (fun x : Addr => x.add (0 * 1)) = A := by
    cases A with
    | none => rfl
    | some ad => simp [Addr.add]
  rw [e2, ite_self]
theorem BA.take {w : World} {A : Option Addr} {l : List Int} (h : BA w A l) (n : Nat) : BA w A (l.take n) := fun hn => by
  have hl : 0 < l.length := by simp at hn; omega
  obtain ⟨b, off, e, hlt, hc⟩ := h hl
  refine ⟨b, off, e, hlt, fun i hi => ?_⟩
  have hi2 : i < n ∧ i < l.length := by simp at hi; omega
  rw [hc i hi2.2]
  simp [List.getD, hi2.1]
theorem encL_len {zs : List Int} (h : W64 zs) (hl : zs.length ≤ 60) : (encL zs).length ≤ 610 := by
  have h1 := flatMap_len zs h
  have h2 : (enc (zs.length : Int)).length ≤ 10 := enc_len (by omega) (by omega)
  unfold encL
  simp only [List.length_append]
  omega
theorem eq_no {A B : Option Addr} {c d m1 m2 : Nat} {xs ys : List Int} (w : World) (hm1 : m1 = xs.length) (hm2 : m2 = ys.length) (he : xs ≠ ys) (hA : BA w A xs) (hB : BA w B ys) (hl : xs.length ≤ maxLen) (hl2 : ys.length ≤ maxLen) :
    Calls Try.prog 8 #[.slice A m1 c, .slice B m2 d] w fun e w' => e = .returned (.bool false) ∧ ∃ n, w' = w.drewN n := by
  have h := equalBytes_any A B c d m1 m2 xs ys w hm1 hm2 hA hB hl hl2
  have e : eqB xs ys = false := decide_eq_false he
  rw [e] at h; exact h
theorem eqInts_at {A B : Option Addr} {c d : Nat} {xs ys : List Int} (w : World) (r : Bool) (hr : r = eqB xs ys) (hA : IA w A xs) (hB : IA w B ys) (hl : xs.length ≤ maxLen) (hl2 : ys.length ≤ maxLen) :
    Calls Try.prog 5 #[.slice A xs.length c, .slice B ys.length d] w fun e w' => e = .returned (.bool r) ∧ ∃ n, w' = w.drewN n := by
  subst hr
  exact equalInts_any A B c d _ _ xs ys w rfl rfl hA hB hl hl2

set_option maxHeartbeats 4000000 in
theorem walk (A B : Option Addr) (c d : Nat) (a b : List Int) (w : World) (hA : IA w A a) (hB : IA w B b) (ha : W64 a) (hb : W64 b) (hal : 8 * a.length ≤ 140737488355328) (hbl : 8 * b.length ≤ 140737488355328) :
    Calls Try.prog 3 #[.slice A a.length c, .slice B b.length d] w (LawPost w) := by
  by_cases h1 : 60 < a.length
  · clear hA hB ha hb
    have t : decide ((60 : Int) < (a.length : Int)) = true := decide_eq_true (by omega)
    go_enter Try.func3, Try.ntmps3
    go_wp2_with fail
    refine (works_any _).mono ?_
    rintro e w' ⟨rfl, hb⟩
    go_wp2
    go_ret
    exact ⟨rfl, hb⟩
  by_cases h2 : 60 < b.length
  · clear hA hB ha hb
    go_enter Try.func3, Try.ntmps3
    go_wp2_with fail
    refine (works_any _).mono ?_
    rintro e w' ⟨rfl, hb⟩
    go_wp2
    go_ret
    exact ⟨rfl, hb⟩
  have HA := Lib.hid hA
  have HB := Lib.hid hB
  have WA := Lib.hid ha
  have WB := Lib.hid hb
  have hla := Lib.hid (encL_len ha (by omega))
  have hlb := Lib.hid (encL_len hb (by omega))
  have m1 : a.length ≤ maxLen := by unfold maxLen; omega
  have m2 : b.length ≤ maxLen := by unfold maxLen; omega
  clear hA hB ha hb
  by_cases hab : a = b
  · have hE : Hid (true = eqB a b) := Lib.hid (decide_eq_true hab).symm
    clear hab
    go_enter Try.func3, Try.ntmps3
    go_wp2_with fail
    refine (eqInts_at _ true hE.out HA.out HB.out m1 m2).mono ?_
    rintro e w' ⟨rfl, j, rfl⟩
    go_wp2_with fail
    refine (works_any _).mono ?_
    rintro e w3 ⟨rfl, hb3⟩
    go_wp2
    go_ret
    exact ⟨rfl, (below_drewN (Below.refl _ _) j).trans hb3⟩
  · have hE : Hid (false = eqB a b) := Lib.hid (decide_eq_false hab).symm
    have hAP : Hid (∀ n, n = min (encL a).length (encL b).length → (encL a).take n ≠ (encL b).take n) := Lib.hid (fun n hn h => hab (encL_prefix WA.out WB.out (by omega) (by omega) n hn h))
    clear hab
    by_cases hle : (encL b).length < (encL a).length
    · go_enter Try.func3, Try.ntmps3
      go_wp2_with fail
      refine (eqInts_at _ false hE.out HA.out HB.out m1 m2).mono ?_
      rintro e w' ⟨rfl, j, rfl⟩
      have hw0 : Below w.heap.size w (w.drewN j) := below_drewN (Below.refl _ _) j
      go_wp2_with fail
      refine (listC_any none A 0 c _ _ [] a _ rfl rfl (fun _ => rfl) (BA.nil _ _) (HA.out.drewN j) WA.out (by simp only [List.length_nil]; omega)).mono ?_
      rintro e w1 ⟨A1, c1, rfl, hc1, hb1, hB1⟩
      have hw1 := hw0.trans (hb1.mono hw0.size)
      have HB1 := Lib.hid hB1
      clear hb1 hB1
      go_wp2_with fail
      refine (listC_any none B 0 d _ _ [] b _ rfl rfl (fun _ => rfl) (BA.nil _ _) (HB.out.below hw1) WB.out (by simp only [List.length_nil]; omega)).mono ?_
      rintro e w2 ⟨A2, c2, rfl, hc2, hb2, hB2⟩
      have hw2 := hw1.trans (hb2.mono hw1.size)
      have HB2 := Lib.hid hB2
      have HB1b := Lib.hid (HB1.out.below hb2)
      have n1 : (encL b).length ≤ c1 := by have : ([] ++ encL a).length ≤ c1 := hc1; simp only [List.nil_append] at this; omega
      have n2 : (encL b).length ≤ c2 := by have : ([] ++ encL b).length ≤ c2 := hc2; simp only [List.nil_append] at this; omega
      have hs1 := fun V => slice_head V A1 (encL a).length c1 (encL b).length n1
      have hs2 := fun V => slice_head V A2 (encL b).length c2 (encL b).length n2
      have hn := Lib.hid (hAP.out (encL b).length (by omega))
      have l1 : Hid ((encL b).length = ((encL a).take (encL b).length).length) := Lib.hid (by rw [List.length_take]; omega)
      have l2 : Hid ((encL b).length = ((encL b).take (encL b).length).length) := Lib.hid (by rw [List.length_take]; omega)
      have HT1 : Hid (BA w2 A1 ((encL a).take (encL b).length)) := Lib.hid (BA.take HB1b.out _)
      have HT2 : Hid (BA w2 A2 ((encL b).take (encL b).length)) := Lib.hid (BA.take HB2.out _)
      have k1 : Hid ((encL b).length ≤ maxLen) := Lib.hid (by have := hla.out; have := hlb.out; unfold maxLen; omega)
      clear hb2 hB2 hc1 hc2 n1 n2
      have hw3 : Below w.heap.size w w2.drew := hw2.drew
      go_wp2_with fail
      go_region_with (first | (go_at_call 8; refine (eq_no _ l1.out l2.out hn.out (HT1.out.below (Below.refl _ _).drew) (HT2.out.below (Below.refl _ _).drew) (by rw [← l1.out]; exact k1.out) (by rw [← l2.out]; exact k1.out)).mono ?_; rintro e w' ⟨rfl, j4, rfl⟩; have hw4 := below_drewN hw2 (1 + j4)) | (go_at_call 6; refine (works_any _).mono ?_; rintro e w5 ⟨rfl, hb5⟩; have hw5 := hw4.trans (hb5.mono hw4.size); clear hb5))
      all_goals
        go_wp2
        go_ret
        exact ⟨rfl, hw5⟩
    · go_enter Try.func3, Try.ntmps3
      go_wp2_with fail
      refine (eqInts_at _ false hE.out HA.out HB.out m1 m2).mono ?_
      rintro e w' ⟨rfl, j, rfl⟩
      have hw0 : Below w.heap.size w (w.drewN j) := below_drewN (Below.refl _ _) j
      go_wp2_with fail
      refine (listC_any none A 0 c _ _ [] a _ rfl rfl (fun _ => rfl) (BA.nil _ _) (HA.out.drewN j) WA.out (by simp only [List.length_nil]; omega)).mono ?_
      rintro e w1 ⟨A1, c1, rfl, hc1, hb1, hB1⟩
      have hw1 := hw0.trans (hb1.mono hw0.size)
      have HB1 := Lib.hid hB1
      clear hb1 hB1
      go_wp2_with fail
      refine (listC_any none B 0 d _ _ [] b _ rfl rfl (fun _ => rfl) (BA.nil _ _) (HB.out.below hw1) WB.out (by simp only [List.length_nil]; omega)).mono ?_
      rintro e w2 ⟨A2, c2, rfl, hc2, hb2, hB2⟩
      have hw2 := hw1.trans (hb2.mono hw1.size)
      have HB2 := Lib.hid hB2
      have HB1b := Lib.hid (HB1.out.below hb2)
      have n1 : (encL a).length ≤ c1 := by have : ([] ++ encL a).length ≤ c1 := hc1; simp only [List.nil_append] at this; omega
      have n2 : (encL a).length ≤ c2 := by have : ([] ++ encL b).length ≤ c2 := hc2; simp only [List.nil_append] at this; omega
      have hs1 := fun V => slice_head V A1 (encL a).length c1 (encL a).length n1
      have hs2 := fun V => slice_head V A2 (encL b).length c2 (encL a).length n2
      have hn := Lib.hid (hAP.out (encL a).length (by omega))
      have l1 : Hid ((encL a).length = ((encL a).take (encL a).length).length) := Lib.hid (by rw [List.length_take]; omega)
      have l2 : Hid ((encL a).length = ((encL b).take (encL a).length).length) := Lib.hid (by rw [List.length_take]; omega)
      have HT1 : Hid (BA w2 A1 ((encL a).take (encL a).length)) := Lib.hid (BA.take HB1b.out _)
      have HT2 : Hid (BA w2 A2 ((encL b).take (encL a).length)) := Lib.hid (BA.take HB2.out _)
      have k1 : Hid ((encL a).length ≤ maxLen) := Lib.hid (by have := hla.out; have := hlb.out; unfold maxLen; omega)
      clear hb2 hB2 hc1 hc2 n1 n2
      have hw3 : Below w.heap.size w w2.drew := hw2.drew
      go_wp2_with fail
      go_region_with (first | (go_at_call 8; refine (eq_no _ l1.out l2.out hn.out (HT1.out.below (Below.refl _ _).drew) (HT2.out.below (Below.refl _ _).drew) (by rw [← l1.out]; exact k1.out) (by rw [← l2.out]; exact k1.out)).mono ?_; rintro e w' ⟨rfl, j4, rfl⟩; have hw4 := below_drewN hw2 (1 + j4)) | (go_at_call 6; refine (works_any _).mono ?_; rintro e w5 ⟨rfl, hb5⟩; have hw5 := hw4.trans (hb5.mono hw4.size); clear hb5))
      all_goals
        go_wp2
        go_ret
        exact ⟨rfl, hw5⟩

theorem lifted (os : Os) (started : os.Started) (H : Type) (enc : TypeId × Value → H) :
    ReturnsInHanded {} Try.checked os 3 .any (Rows.octetApartSpec.pre6 enc Try.prog Try.f3 Rows.octetApartRow.domain false) (Rows.octetApartSpec.post enc Try.prog Try.f3 false true false false) := by
  refine law_lifted started [22, 22] rfl (by kernel_rfl) Try.func3 rfl (by decide +kernel) rfl (fun ds hl => by
    match ds, hl with
    | [_, _], _ => rfl) (ChangeSpec.witness6 (enc := enc) (C := Try.checked) false ⟨#[], #[.slice none 0 0, .slice none 0 0], []⟩ 8 (by kernel_rfl) (by kernel_rfl) (by kernel_rfl) (by kernel_rfl)) ?_
  intro W base args ds ps hval hA hlt hsz
  obtain ⟨v0, vs0, d0, ds0, p0, q0, hargs, rfl, rfl, h0, r0⟩ := trodAll_cons hA
  obtain ⟨v1, vs1, d1, ds1, p1, q1, rfl, rfl, rfl, h1, r1⟩ := trodAll_cons r0
  obtain ⟨rfl, rfl, rfl⟩ := trodAll_nil r1
  obtain rfl : args = #[v0, v1] := by cases args; simp_all
  obtain ⟨A0, c0, x0, rfl, b0, i0, z0⟩ := open_ints_arg (hval 0 22 v0 rfl rfl) h0 hsz 0 rfl rfl
  obtain ⟨A1, c1, x1, rfl, b1, i1, z1⟩ := open_ints_arg (hval 1 22 v1 rfl rfl) h1 hsz 1 rfl rfl
  exact walk A0 A1 c0 c1 x0 x1 W i0 i1 z0 z1 b0 b1

theorem over : Rows.octetApartRow.holds Try.pinned (OpenSpec.ofChange Rows.octetApartSpec) :=
  OpenClaim.holds_of_wide 3 Try.f3 rfl rfl rfl rfl rfl rfl rfl ⟨rfl, rfl, rfl, rfl, rfl⟩ rfl rfl rfl rfl rfl (by kernel_rfl) Try.func3 (by kernel_rfl)
    (of_decide_eq_true (by kernel_rfl)) (by unfold Func.isWrapper; first | (rw [if_pos (by decide +kernel)]; kernel_rfl) | (rw [if_neg (by decide +kernel)]; exact ⟨rfl, rfl⟩))
    (fun os started H enc _ => lifted os started H enc)

theorem proved : Rows.OctetApartSaid := over
#print axioms proved
end Go.Proofs.Ytbdlbljjbigjkab.octetApart
