/- The law OctetBack: what was put is read, whatever stands behind it, and just that is read; nothing that was there is changed. No condition. -/
import Derived.Test.YtbdlbljjbigjkaaWorks
import Derived.Test.YtbdlbljjbigjkaaReaderList
import Derived.Test.YtbdlbljjbigjkaaReadPure
import Derived.Deep.RegionWith
namespace Go.Proofs.Ytbdlbljjbigjkaa.octetBack
open Go.ChangeShapes Go.WideShapes Go.ChangeAt Go.RowKit

theorem conv_bytes {A : Option Addr} {c : Nat} {b : List Int} (hc : A = none → c = 0) (W : World) (hA : BA W A b) : (convert 37 9 (.slice A b.length c)).run Try.prog W = .ok (.string (strOfNums b)) W := by
  by_cases h0 : 0 < b.length
  · obtain ⟨b', off, e, _, hcell⟩ := hA h0
    subst e
    exact run_convert_bytes_arg W 37 5 Try.underlying37 Try.underlying5 b' off b.length c b rfl hcell 9 Try.underlying9
  · have h1 : b = [] := List.eq_nil_of_length_eq_zero (by omega)
    subst h1
    exact conv_none W A c

theorem encL_len {zs : List Int} (h : W64 zs) (hl : zs.length ≤ 60) : (encL zs).length ≤ 610 := by
  have h1 := flatMap_len zs h
  have h2 : (enc (zs.length : Int)).length ≤ 10 := enc_len (by omega) (by omega)
  unfold encL
  simp only [List.length_append]
  omega
theorem encT_len (s : ByteArray) (hl : s.size ≤ 300) : (encT s).length ≤ 310 := by
  have h2 : (enc (s.size : Int)).length ≤ 10 := enc_len (by omega) (by omega)
  unfold encT
  simp only [List.length_append, strL_length]
  omega
theorem u8_append {a b : List Int} (ha : U8 a) (hb : U8 b) : U8 (a ++ b) := fun z hz => by
  rcases List.mem_append.1 hz with h | h
  · exact ha z h
  · exact hb z h
theorem u8_flatMap (zs : List Int) : U8 (zs.flatMap enc) := fun z hz => by
  obtain ⟨x, _, hx⟩ := List.mem_flatMap.1 hz
  exact encU_u8 _ z hx

theorem ob_nil {base n c : Nat} {w : World} {A : Option Addr} {l : List Int} (h : OB base w (.slice A n c) l) : A = none → c = 0 := fun h0 => by
  subst h0
  rcases h.2 with ⟨h1, _⟩ | ⟨g, cap, cur, h1, _⟩
  · injection h1
  · injection h1 with h2; cases h2

theorem rleft_at {g : Nat} {A : Option Addr} {c : Nat} {l : List Int} {p t : Nat} {e : Int} (w : World) (h : RD w g A c l p e) (ht : l.length = p + t) :
    Calls Try.prog 50 #[.pointer (some ⟨g, 0, none⟩)] w fun en w' => en = .returned (.int .i64 (t : Int)) ∧ ∃ n, w' = w.drewN n := by
  refine (rleft_any w h).mono ?_
  rintro en w' ⟨rfl, hn⟩
  exact ⟨ret_int (by omega), hn⟩

/-- What the three calls read of the bytes that were put. -/
theorem back_calls (g : Nat) (A : Option Addr) (c : Nat) {n : Int} (hn1 : -9223372036854775808 ≤ n) (hn2 : n ≤ 9223372036854775807) {zs tl : List Int} (hz : W64 zs) (hu : U8 tl) (hzl : zs.length ≤ 60) (htl : tl.length ≤ 100) {M : List Int}
    (hM : M = enc n ++ (encL zs ++ (encT (strOfNums tl) ++ tl))) :
    ∃ k1 k2 k3 : Nat, (∀ W, RD W g A c M 0 0 → Calls Try.prog 43 #[.pointer (some ⟨g, 0, none⟩)] W (RPost g A c M 0 W (.int .i64 n) k1 0)) ∧
      (∀ W, RD W g A c M (0 + k1) 0 → Calls Try.prog 46 #[.pointer (some ⟨g, 0, none⟩)] W (RList g A c M (0 + k1) ⟨0, zs, k2⟩ W)) ∧
      (∀ W, RD W g A c M (0 + k1 + k2) 0 → Calls Try.prog 48 #[.pointer (some ⟨g, 0, none⟩)] W (RText g A c M (0 + k1 + k2) ⟨0, tl, k3⟩ W)) ∧
      M.length = 0 + k1 + k2 + k3 + tl.length := by
  subst hM
  refine ⟨(enc n).length, (encL zs).length, (encT (strOfNums tl)).length, fun W h => ?_, fun W h => ?_, fun W h => ?_, ?_⟩
  · have k := rnum_any W h
    rw [List.drop_zero, readN_enc n hn1 hn2] at k
    exact k
  · have k := rlist_any W h
    rw [show (enc n ++ (encL zs ++ (encT (strOfNums tl) ++ tl))).drop (0 + (enc n).length) = encL zs ++ (encT (strOfNums tl) ++ tl) by rw [Nat.zero_add, List.drop_left], readL_enc zs _ hz (by omega)] at k
    exact k
  · have k := rtext_any W h
    rw [show (enc n ++ (encL zs ++ (encT (strOfNums tl) ++ tl))).drop (0 + (enc n).length + (encL zs).length) = encT (strOfNums tl) ++ tl by rw [Nat.zero_add, ← List.drop_drop, List.drop_left, List.drop_left], readT_enc _ _ (by rw [strOf_size]; omega), strL_of hu] at k
    exact k
  · simp only [List.length_append]; omega

theorem eqInts_yes {A B : Option Addr} {c d m1 m2 : Nat} {xs : List Int} (w : World) (hm1 : m1 = xs.length) (hm2 : m2 = xs.length) (hA : IA w A xs) (hB : IA w B xs) (hl : xs.length ≤ maxLen) :
    Calls Try.prog 45 #[.slice A m1 c, .slice B m2 d] w fun e w' => e = .returned (.bool true) ∧ ∃ n, w' = w.drewN n := by
  have h := equalInts_any A B c d m1 m2 xs xs w hm1 hm2 hA hB hl hl
  have e : eqB xs xs = true := decide_eq_true rfl
  rw [e] at h; exact h

set_option maxHeartbeats 4000000 in
theorem walk (n : Int) (C T : Option Addr) (d c : Nat) (zs tl : List Int) (w : World) (hc : T = none → c = 0) (hn1 : -9223372036854775808 ≤ n) (hn2 : n ≤ 9223372036854775807) (hC : IA w C zs) (hT : BA w T tl) (hz : W64 zs) (hu : U8 tl) (hzl : 8 * zs.length ≤ 140737488355328) (htl : tl.length ≤ 140737488355328) :
    Calls Try.prog 12 #[.int .i64 n, .slice C zs.length d, .slice T tl.length c] w (LawPost w) := by
  by_cases h1 : 60 < zs.length
  · clear hT hC hu hz hc
    have t : decide ((60 : Int) < (zs.length : Int)) = true := decide_eq_true (by omega)
    go_enter Try.func12, Try.ntmps12
    go_wp2_with fail
    refine (works_any _).mono ?_
    rintro e w' ⟨rfl, hb⟩
    go_wp2
    go_ret
    exact ⟨rfl, hb⟩
  by_cases h2 : 100 < tl.length
  · clear hT hC hu hz hc
    go_enter Try.func12, Try.ntmps12
    go_wp2_with fail
    refine (works_any _).mono ?_
    rintro e w' ⟨rfl, hb⟩
    go_wp2
    go_ret
    exact ⟨rfl, hb⟩
  have HT := Lib.hid hT
  have HC := Lib.hid hC
  have HU := Lib.hid hu
  have HZ := Lib.hid hz
  have Hc := Lib.hid hc
  have hle := Lib.hid (enc_len hn1 hn2)
  have hlL := Lib.hid (encL_len hz (by omega))
  have hlT := Lib.hid (encT_len (strOfNums tl) (by rw [strOf_size]; omega))
  have hle2 : Hid ((enc n ++ encL zs).length ≤ 620) := Lib.hid (by simp only [List.length_append]; have := hle.out; have := hlL.out; omega)
  clear hT hC hu hz hc
  go_enter Try.func12, Try.ntmps12
  go_wp2_with fail
  have hw0 : Below w.heap.size w w.drew := (Below.refl _ _).drew
  have kc0 := conv_bytes Hc.out _ (HT.out.below hw0)
  go_region_with (first | (go_at_call 34; refine (num_any none 0 0 [] n _ rfl (fun _ => rfl) (BA.nil _ _) (by simp) hn1 hn2).mono ?_; rintro e w1 ⟨A1, c1, rfl, hc1, hb1, hB1⟩; have HB1 := Lib.hid hB1; have HC1 := Lib.hid hc1; have hw1 := hw0.trans (hb1.mono hw0.size); clear hb1 hB1 hc1; have kc1 := conv_bytes Hc.out _ (HT.out.below hw1)) | (go_at_call 36; refine (list_any A1 C c1 d _ _ (enc n) zs _ (by simp) rfl HC1.out HB1.out (HC.out.below hw1) HZ.out (by have := hle.out; omega)).mono ?_; rintro e w2 ⟨A2, c2, rfl, hc2, hb2, hB2⟩; have HB2 := Lib.hid hB2; have HC2 := Lib.hid hc2; have hw2 := hw1.trans (hb2.mono hw1.size); clear hb2 hB2 hc2; have kc2 := conv_bytes Hc.out _ (HT.out.below hw2)) | (go_at_call 38; refine (text_any A2 c2 _ (enc n ++ encL zs) (strOfNums tl) _ (by simp only [List.length_append]) HC2.out HB2.out (by rw [strOf_size]; have := hle2.out; omega)).mono ?_; rintro e w3 ⟨A3, c3, rfl, hc3, hb3, hB3⟩; have HB3 := Lib.hid hB3; have HC3 := Lib.hid hc3; have hw3 := hw2.trans (hb3.mono hw2.size); clear hb3 hB3 hc3))
  all_goals
    have hz3 := hw3.size
    have hlM : Hid ((enc n ++ encL zs ++ encT (strOfNums tl)).length ≤ 930) := Lib.hid (by have h5 := hle2.out; have h6 := hlT.out; rw [List.length_append]; omega)
    go_wp2_with (first
      | (at_builtin; refine append_bytes _ rfl (.tmp 28) (.tmp 29) rfl w3.heap.size _ [] rfl (ob_empty w3 _ _ (Nat.le_refl _) rfl) A3 c3 _ (enc n ++ encL zs ++ encT (strOfNums tl)) (by simp only [List.length_append]; omega) rfl HC3.out (HB3.out.alloc _) (by have := hlM.out; simp only [List.length_nil]; omega) (by simp) ?_; intro v4 w4 ho4 hb4; have HO4 := Lib.hid ho4; have hy4 := hb4.size; have hw4 := hw3.trans ((((Below.refl _ _).alloc (Nat.le_refl _) _).trans hb4).mono hz3); clear ho4)
      | (at_builtin; refine append_bytes _ rfl (.tmp 30) (.tmp 31) rfl w3.heap.size _ ([] ++ (enc n ++ encL zs ++ encT (strOfNums tl))) rfl HO4.out T c _ tl rfl rfl Hc.out (HT.out.below hw4) (by have := hlM.out; rw [List.nil_append]; omega) (by simp at hy4; omega) ?_; intro v5 w5 ho5 hb5; have hw5 := hw4.trans (hb5.mono (by simp at hy4; omega)); obtain ⟨A5, c5, rfl, hB5⟩ := ho5.form; have HB5 := Lib.hid hB5; have HO5 := Lib.hid ho5; clear ho5 hB5 hb5))
    have HC5 := Lib.hid (ob_nil HO5.out)
    have HM : Hid ([] ++ (enc n ++ encL zs ++ encT (strOfNums tl)) ++ tl = enc n ++ (encL zs ++ (encT (strOfNums tl) ++ tl))) := Lib.hid (by simp only [List.nil_append, List.append_assoc])
    have HUM : Hid (U8 ([] ++ (enc n ++ encL zs ++ encT (strOfNums tl)) ++ tl)) := Lib.hid (by
      rw [HM.out]
      refine u8_append (encU_u8 _) (u8_append (u8_append (encU_u8 _) (u8_flatMap zs)) (u8_append (u8_append (encU_u8 _) ?_) HU.out))
      rw [strL_of HU.out]; exact HU.out)
    have HLM : Hid (([] ++ (enc n ++ encL zs ++ encT (strOfNums tl)) ++ tl).length ≤ 1048576) := Lib.hid (by have := hlM.out; rw [List.nil_append, List.length_append]; omega)
    refine (from_any A5 c5 _ _ w5 (by simp only [List.length_append, List.nil_append]; omega) HC5.out HB5.out HUM.out HLM.out).mono ?_
    rintro e w6 ⟨g, A6, c6, rfl, hg6, hb6, hr6⟩
    have hw6 := hw5.trans (hb6.mono hw5.size)
    have HR6 := Lib.hid hr6
    obtain ⟨k1, k2, k3, K1, K2, K3, K4⟩ := back_calls g A6 c6 hn1 hn2 HZ.out HU.out (by omega) (by omega) HM.out
    have HK1 := Lib.hid K1
    have HK2 := Lib.hid K2
    have HK3 := Lib.hid K3
    have HK4 := Lib.hid K4
    have hg : w.heap.size ≤ g := Nat.le_trans hw5.size hg6
    have hz6 := hw6.size
    clear hr6 hb6 K1 K2 K3 K4 hg6
    generalize [] ++ (enc n ++ encL zs ++ encT (strOfNums tl)) ++ tl = M at HR6 HK1 HK2 HK3 HK4
    go_wp2_with fail
    refine (HK1.out _ HR6.out).mono ?_
    rintro e w7 ⟨rfl, hr7, ho7⟩
    have HR7 := Lib.hid hr7
    have hw7 := hw6.trans (ho7.below hg hz6)
    have hz7 := hw7.size
    clear hr7 ho7
    go_wp2_with fail
    refine (HK2.out _ HR7.out).mono ?_
    rintro e w8 ⟨A8, c8, rfl, hI8, hr8, ho8, hn8⟩
    have HR8 := Lib.hid hr8
    have HI8 := Lib.hid hI8
    have hw8 := hw7.trans (ho8.below hg hz7)
    have hz8 := hw8.size
    clear hr8 ho8 hI8
    go_wp2_with fail
    refine (HK3.out _ HR8.out).mono ?_
    rintro e w9 ⟨rfl, hr9, ho9⟩
    have HR9 := Lib.hid hr9
    have hw9 := hw8.trans (ho9.below hg hz8)
    have hz9 := hw9.size
    have HI9 : Hid (IA w9 A8 zs) := Lib.hid (fun hn => by
      obtain ⟨b, off, e1, hlt, hcell⟩ := HI8.out hn
      exact ⟨b, off, e1, Nat.lt_of_lt_of_le hlt ho9.size, fun i hi => by
        have h9 := ho9.block b hlt (by intro h; injection h with h; exact hn8 _ e1 h)
        rw [World.cell?_of_block (w := w8) (a := ⟨b, off + i, none⟩) h9]
        exact hcell i hi⟩)
    have HC9 := Lib.hid (HC.out.below hw9)
    have kc9 := fun j => conv_bytes Hc.out _ ((HT.out.below hw9).drewN j)
    have hzm : Hid (zs.length ≤ maxLen) := Lib.hid (by unfold maxLen; omega)
    clear hr9 ho9 hn8
    go_wp2_with fail
    refine (eqInts_yes w9 rfl rfl HI9.out HC9.out hzm.out).mono ?_
    rintro e w' ⟨rfl, j9, rfl⟩
    go_wp2_with fail
    refine (err_any _ (HR9.out.drewN j9)).mono ?_
    rintro e w' ⟨rfl, rfl⟩
    go_wp2_with fail
    refine (rleft_at _ (HR9.out.drewN j9) HK4.out).mono ?_
    rintro e w' ⟨rfl, j10, rfl⟩
    go_wp2_with fail
    refine (works_any _).mono ?_
    rintro e w11 ⟨rfl, hb11⟩
    go_wp2
    go_ret
    exact ⟨rfl, (below_drewN hw9 (j9 + j10)).trans (hb11.mono hz9)⟩

theorem lifted (os : Os) (started : os.Started) (H : Type) (enc : TypeId × Value → H) :
    ReturnsInHanded {} Try.checked os 12 .any (Rows.octetBackSpec.pre6 enc Try.prog Try.f12 Rows.octetBackRow.domain false) (Rows.octetBackSpec.post enc Try.prog Try.f12 false true false false) := by
  refine law_lifted started [3, 29, 37] rfl (by kernel_rfl) Try.func12 rfl (by decide +kernel) rfl (fun ds hl => by
    match ds, hl with
    | [_, _, _], _ => rfl) (ChangeSpec.witness6 (enc := enc) (C := Try.checked) false ⟨#[], #[.int .i64 0, .slice none 0 0, .slice none 0 0], []⟩ 8 (by kernel_rfl) (by kernel_rfl) (by kernel_rfl) (by kernel_rfl)) ?_
  intro W base args ds ps hval hA hlt hsz
  obtain ⟨v0, vs0, d0, ds0, p0, q0, hargs, rfl, rfl, h0, r0⟩ := trodAll_cons hA
  obtain ⟨v1, vs1, d1, ds1, p1, q1, rfl, rfl, rfl, h1, r1⟩ := trodAll_cons r0
  obtain ⟨v2, vs2, d2, ds2, p2, q2, rfl, rfl, rfl, h2, r2⟩ := trodAll_cons r1
  obtain ⟨rfl, rfl, rfl⟩ := trodAll_nil r2
  obtain rfl : args = #[v0, v1, v2] := by cases args; simp_all
  obtain ⟨x0, rfl, rfl, rfl, w0⟩ := open_int Try.underlying3 (hval 0 3 v0 rfl rfl) h0
  obtain ⟨A1, c1, x1, rfl, b1, i1, z1⟩ := open_ints_arg (hval 1 29 v1 rfl rfl) h1 hsz 1 rfl rfl
  obtain ⟨A2, c2, x2, rfl, n2, b2, i2, u2⟩ := open_bytes_arg (hval 2 37 v2 rfl rfl) h2 hsz 2 rfl rfl
  exact walk x0 A1 A2 c1 c2 x1 x2 W n2 (fits64 w0).1 (fits64 w0).2 i1 i2 z1 u2 b1 b2

theorem over : Rows.octetBackRow.holds Try.pinned (OpenSpec.ofChange Rows.octetBackSpec) :=
  OpenClaim.holds_of_wide 12 Try.f12 rfl rfl rfl rfl rfl rfl rfl ⟨rfl, rfl, rfl, rfl, rfl⟩ rfl rfl rfl rfl rfl (by kernel_rfl) Try.func12 (by kernel_rfl)
    (of_decide_eq_true (by kernel_rfl)) (by unfold Func.isWrapper; first | (rw [if_pos (by decide +kernel)]; kernel_rfl) | (rw [if_neg (by decide +kernel)]; exact ⟨rfl, rfl⟩))
    (fun os started H enc _ => lifted os started H enc)

theorem proved : Rows.OctetBackSaid := over
#print axioms proved
end Go.Proofs.Ytbdlbljjbigjkaa.octetBack
