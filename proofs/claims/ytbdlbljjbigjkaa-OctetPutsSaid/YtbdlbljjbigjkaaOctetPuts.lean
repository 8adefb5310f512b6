/- The law OctetPuts: the bytes of any number, list and text, behind any bytes, are what the document says; nothing that was there is changed. No condition. -/
import Derived.Test.YtbdlbljjbigjkaaWorks
import Derived.Test.YtbdlbljjbigjkaaRefPut
import Derived.Laws.BytesArg
import Derived.Deep.RegionWith
namespace Go.Proofs.Ytbdlbljjbigjkaa.octetPuts
open Go.ChangeShapes Go.WideShapes Go.ChangeAt Go.RowKit

theorem conv_zero (W : World) (ad : Addr) (c : Nat) : (convert 37 9 (.slice (some ad) 0 c)).run Try.prog W = .ok (.string (strOfNums [])) W := by
  rw [run_convert_bytes_string W 37 9 5 _ 0 c Try.underlying37 Try.underlying5 Try.underlying9]
  have hl : (loadCells ad 0).run Try.prog W = .ok #[] W := by
    have := run_loadCells_list (P := Try.prog) W ad [] (fun j v hj => by simp at hj)
    simpa using this
  rw [run_bytesToString W _ 0 c [] (by simpa using hl)]
  simp [strOfNums, ByteArray.empty, ByteArray.emptyWithCapacity]
  rfl

theorem conv_bytes {A : Option Addr} {c : Nat} {b : List Int} (hc : A = none → c = 0) (W : World) (hA : BA W A b) : (convert 37 9 (.slice A b.length c)).run Try.prog W = .ok (.string (strOfNums b)) W := by
  cases A with
  | none =>
    have h0 : b = [] := by
      cases b with
      | nil => rfl
      | cons z b =>
        obtain ⟨b', off, e, _⟩ := hA (by simp)
        cases e
    subst h0
    exact run_convert_bytes_nil W 37 5 Try.underlying37 Try.underlying5 _ _ 9 Try.underlying9
  | some ad =>
    by_cases h0 : 0 < b.length
    · obtain ⟨b', off, e, _, hcell⟩ := hA h0
      injection e with e
      subst e
      exact run_convert_bytes_arg W 37 5 Try.underlying37 Try.underlying5 b' off b.length c b rfl hcell 9 Try.underlying9
    · have h1 : b = [] := List.eq_nil_of_length_eq_zero (by omega)
      subst h1
      exact conv_zero W ad c
theorem str_size (b : List Int) : (strOfNums b).size = b.length := by unfold strOfNums; simp [ByteArray.size]

theorem works_at (w0 w : World) (h : Below w0.heap.size w0 w) : Calls Try.prog 32 #[] w (LawPost w0) :=
  (works_any w).mono fun _ _ ⟨he, hb⟩ => ⟨he, h.trans (hb.mono h.size)⟩

set_option maxHeartbeats 2000000 in
theorem walk (A C : Option Addr) (c d : Nat) (b zs : List Int) (n : Int) (w : World) (hc : A = none → c = 0) (hn1 : -9223372036854775808 ≤ n) (hn2 : n ≤ 9223372036854775807) (hA : BA w A b) (hC : IA w C zs) (hu : U8 b) (hz : W64 zs) (hbl : b.length ≤ 140737488355328) (hzl : 8 * zs.length ≤ 140737488355328) :
    Calls Try.prog 10 #[.slice A b.length c, .int .i64 n, .slice C zs.length d] w (LawPost w) := by
  by_cases h1 : 300 < b.length
  · clear hA hC hu hz hc
    have t : decide ((300 : Int) < (b.length : Int)) = true := decide_eq_true (by omega)
    go_enter Try.func10, Try.ntmps10
    go_wp2_with fail
    refine (works_any _).mono ?_
    rintro e w' ⟨rfl, hb⟩
    go_wp2
    go_ret
    exact ⟨rfl, hb⟩
  by_cases h2 : 60 < zs.length
  · clear hA hC hu hz hc
    go_enter Try.func10, Try.ntmps10
    go_wp2_with fail
    refine (works_any _).mono ?_
    rintro e w' ⟨rfl, hb⟩
    go_wp2
    go_ret
    exact ⟨rfl, hb⟩
  have HA := Lib.hid hA
  have HC := Lib.hid hC
  have HU := Lib.hid hu
  have HZ := Lib.hid hz
  have Hc := Lib.hid hc
  clear hA hC hu hz hc
  go_enter Try.func10, Try.ntmps10
  go_wp2_with fail
  have hw0 : Below w.heap.size w w.drew := (Below.refl _ _).drew
  have hL1 : Hid ((b ++ enc n).length ≤ maxLen) := Lib.hid (by have := enc_len hn1 hn2; unfold maxLen; simp only [List.length_append]; omega)
  have hL2 : Hid ((b ++ encL zs).length ≤ maxLen) := Lib.hid (by
    have h3 := flatMap_len zs HZ.out
    have h4 : (enc zs.length).length ≤ 10 := enc_len (by omega) (by omega)
    unfold maxLen encL; simp only [List.length_append]; omega)
  have hL3 : Hid ((b ++ encT (strOfNums b)).length ≤ maxLen) := Lib.hid (by
    have h4 : (enc (strOfNums b).size).length ≤ 10 := enc_len (by omega) (by rw [str_size]; omega)
    unfold maxLen encT; simp only [List.length_append, strL_length, str_size] at *; omega)
  go_region_with (first | (go_at_call 34; refine (num_any A c _ b n _ rfl Hc.out (HA.out.below hw0) (by omega) hn1 hn2).mono ?_; rintro e w1 ⟨A1, c1, rfl, hc1, hb1, hB1⟩; have HB1 := Lib.hid hB1; have hw1 := hw0.trans (hb1.mono hw0.size); clear hb1 hB1 hc1) | (go_at_call 35; refine (refNum_any A c _ b n _ rfl Hc.out (HA.out.below hw1) (by omega) hn1 hn2).mono ?_; rintro e w2 ⟨A2, c2, rfl, hc2, hb2, hB2⟩; have HB2 := Lib.hid hB2; have hw2 := hw1.trans (hb2.mono hw1.size); have HB1b := Lib.hid (HB1.out.below hb2); clear hb2 hB2 hc2) | (go_at_call_of 33 A1; refine (eq_yes _ (by simp only [List.length_append]) (by simp only [List.length_append]) rfl HB1b.out HB2.out hL1.out).mono ?_; rintro e w' ⟨rfl, j1, rfl⟩; have hw3 := below_drewN hw2 j1) | (go_at_call 36; refine (list_any A C c d _ _ b zs _ rfl rfl Hc.out (HA.out.below hw3) (HC.out.below hw3) HZ.out (by omega)).mono ?_; rintro e w4 ⟨A4, c4, rfl, hc4, hb4, hB4⟩; have HB4 := Lib.hid hB4; have hw4 := hw3.trans (hb4.mono hw3.size); clear hb4 hB4 hc4) | (go_at_call 37; refine (refList_any A C c d _ _ b zs _ rfl rfl Hc.out (HA.out.below hw4) (HC.out.below hw4) HZ.out (by omega)).mono ?_; rintro e w5 ⟨A5, c5, rfl, hc5, hb5, hB5⟩; have HB5 := Lib.hid hB5; have hw5 := hw4.trans (hb5.mono hw4.size); have HB4b := Lib.hid (HB4.out.below hb5); clear hb5 hB5 hc5) | (go_at_call_of 33 A4; refine (eq_yes _ (by simp only [List.length_append]) (by simp only [List.length_append]) rfl HB4b.out HB5.out hL2.out).mono ?_; rintro e w' ⟨rfl, j2, rfl⟩; have hw6 := below_drewN hw5 j2; have kc6 := conv_bytes Hc.out _ (HA.out.below hw6)) | (go_at_call 38; refine (text_any A c _ b (strOfNums b) _ rfl Hc.out (HA.out.below hw6) (by rw [str_size]; omega)).mono ?_; rintro e w7 ⟨A7, c7, rfl, hc7, hb7, hB7⟩; have HB7 := Lib.hid hB7; have hw7 := hw6.trans (hb7.mono hw6.size); clear hb7 hB7 hc7; have kc7 := conv_bytes Hc.out _ (HA.out.below hw7)) | (go_at_call 39; refine (refText_any A c _ b (strOfNums b) _ rfl Hc.out (HA.out.below hw7) (by rw [str_size]; omega)).mono ?_; rintro e w8 ⟨A8, c8, rfl, hc8, hb8, hB8⟩; have HB8 := Lib.hid hB8; have hw8 := hw7.trans (hb8.mono hw7.size); have HB7b := Lib.hid (HB7.out.below hb8); clear hb8 hB8 hc8) | (go_at_call_of 33 A7; refine (eq_yes _ (by simp only [List.length_append]) (by simp only [List.length_append]) rfl HB7b.out HB8.out hL3.out).mono ?_; rintro e w' ⟨rfl, j3, rfl⟩; have hw9 := below_drewN hw8 j3) | (go_at_call 32; refine (works_any _).mono ?_; rintro e w10 ⟨rfl, hb10⟩; have hw10 := hw9.trans (hb10.mono hw9.size); clear hb10))
  all_goals
    go_wp2
    go_ret
    exact ⟨rfl, hw10⟩

theorem lifted (os : Os) (started : os.Started) (H : Type) (enc : TypeId × Value → H) :
    ReturnsInHanded {} Try.checked os 10 .any (Rows.octetPutsSpec.pre6 enc Try.prog Try.f10 Rows.octetPutsRow.domain false) (Rows.octetPutsSpec.post enc Try.prog Try.f10 false true false false) := by
  refine law_lifted started [37, 3, 29] rfl (by kernel_rfl) Try.func10 rfl (by decide +kernel) rfl (fun ds hl => by
    match ds, hl with
    | [_, _, _], _ => rfl) (ChangeSpec.witness6 (enc := enc) (C := Try.checked) false ⟨#[], #[.slice none 0 0, .int .i64 0, .slice none 0 0], []⟩ 8 (by kernel_rfl) (by kernel_rfl) (by kernel_rfl) (by kernel_rfl)) ?_
  intro W base args ds ps hval hA hlt hsz
  obtain ⟨v0, vs0, d0, ds0, p0, q0, hargs, rfl, rfl, h0, r0⟩ := trodAll_cons hA
  obtain ⟨v1, vs1, d1, ds1, p1, q1, rfl, rfl, rfl, h1, r1⟩ := trodAll_cons r0
  obtain ⟨v2, vs2, d2, ds2, p2, q2, rfl, rfl, rfl, h2, r2⟩ := trodAll_cons r1
  obtain ⟨rfl, rfl, rfl⟩ := trodAll_nil r2
  obtain rfl : args = #[v0, v1, v2] := by cases args; simp_all
  obtain ⟨A0, c0, x0, rfl, n0, b0, i0, u0⟩ := open_bytes_arg (hval 0 37 v0 rfl rfl) h0 hsz 0 rfl rfl
  obtain ⟨x1, rfl, rfl, rfl, w1⟩ := open_int Try.underlying3 (hval 1 3 v1 rfl rfl) h1
  obtain ⟨A2, c2, x2, rfl, b2, i2, z2⟩ := open_ints_arg (hval 2 29 v2 rfl rfl) h2 hsz 2 rfl rfl
  exact walk A0 A2 c0 c2 x0 x2 x1 W n0 (fits64 w1).1 (fits64 w1).2 i0 i2 u0 z2 b0 b2

theorem over : Rows.octetPutsRow.holds Try.pinned (OpenSpec.ofChange Rows.octetPutsSpec) :=
  OpenClaim.holds_of_wide 10 Try.f10 rfl rfl rfl rfl rfl rfl rfl ⟨rfl, rfl, rfl, rfl, rfl⟩ rfl rfl rfl rfl rfl (by kernel_rfl) Try.func10 (by kernel_rfl)
    (of_decide_eq_true (by kernel_rfl)) (by unfold Func.isWrapper; first | (rw [if_pos (by decide +kernel)]; kernel_rfl) | (rw [if_neg (by decide +kernel)]; exact ⟨rfl, rfl⟩))
    (fun os started H enc _ => lifted os started H enc)

theorem proved : Rows.OctetPutsSaid := over
#print axioms proved
end Go.Proofs.Ytbdlbljjbigjkaa.octetPuts
