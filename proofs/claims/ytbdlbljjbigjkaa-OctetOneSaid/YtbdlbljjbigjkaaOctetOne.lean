/- The law OctetOne: bytes that are read without a fault are those of what was read; nothing that was there is changed. No condition. -/
import Derived.Test.YtbdlbljjbigjkaaWorks
import Derived.Test.YtbdlbljjbigjkaaReaderList
import Derived.Test.YtbdlbljjbigjkaaReadPure
namespace Go.Proofs.Ytbdlbljjbigjkaa.octetOne
open Go.ChangeShapes Go.WideShapes Go.ChangeAt Go.RowKit

theorem rleft_at {g : Nat} {A : Option Addr} {c : Nat} {l : List Int} {p t : Nat} {e : Int} (w : World) (h : RD w g A c l p e) (ht : l.length = p + t) :
    Calls Try.prog 50 #[.pointer (some ⟨g, 0, none⟩)] w fun en w' => en = .returned (.int .i64 (t : Int)) ∧ ∃ n, w' = w.drewN n := by
  refine (rleft_any w h).mono ?_
  rintro en w' ⟨rfl, hn⟩
  exact ⟨ret_int (by omega), hn⟩

theorem slice_head (W : World) (A : Option Addr) (m c n : Nat) (h : n ≤ c) : (Instr.slice 37 (.slice A m c) none (some (.int .i64 (n : Int))) none).run Try.prog W = .ok (.slice A n c) W := by
  have ht : Try.prog.underlying 37 = some (.slice (Try.prog.elem 37)) := by kernel_rfl
  rw [run_slice_h W 37 A m c ht .i64 (n : Int) (by omega) (by omega)]
  have hs : (sizeOf (Try.prog.elem 37)).run Try.prog W = .ok 1 W := by kernel_rfl
  rw [hs]
  show Result.ok (sliced A 0 (n : Int).toNat c 1) W = _
  have e1 : (n : Int).toNat = n := by omega
  unfold sliced
  rw [e1, Nat.sub_zero, Nat.sub_zero]
  have e2 : A.map (fun x : Addr => x.add (0 * 1)) = A := by
    cases A with
    | none => rfl
    | some ad => simp [Addr.add]
  rw [e2, ite_self]

theorem open_cap {H : Type} {enc : TypeId × Value → H} {W : World} {A : Option Addr} {m c : Nat} {d : DataW H} {ps : List MemPlace}
    (h : DataW.Trod enc Try.prog W 0 (fun _ => true) true 37 (.slice A m c) d ps) : m ≤ c := by
  obtain ⟨fuel, hf⟩ := h
  rcases open_ints Try.underlying37 Try.underlying5 Try.cells5 hf with ⟨hcs, hx⟩ | ⟨a, len', cap', zs, hcs, _, hl, hm, hz, hx, hcell, hwz⟩
  · simp [Value.cells] at hcs
    obtain ⟨rfl, rfl, rfl⟩ := hcs
    exact Nat.le_refl _
  · simp [Value.cells] at hcs
    obtain ⟨rfl, rfl, rfl⟩ := hcs
    exact hl

theorem BA.take {w : World} {A : Option Addr} {l : List Int} (h : BA w A l) (n : Nat) : BA w A (l.take n) := fun hn => by
  have hl : 0 < l.length := by simp at hn; omega
  obtain ⟨b, off, e, hlt, hc⟩ := h hl
  refine ⟨b, off, e, hlt, fun i hi => ?_⟩
  have hi2 : i < n ∧ i < l.length := by simp at hi; omega
  rw [hc i hi2.2]
  simp [List.getD, hi2.1]

/-- What the law asks of what is read. -/
structure Fine {α : Type} (b : List Int) (G : Got α) (bytes : α → List Int) : Prop where
  le : G.k ≤ b.length
  put : G.f = 0 → [] ++ bytes G.v = b.take G.k
  pos : G.f = 0 → 0 < G.k
theorem take_pos {b l : List Int} {k : Nat} (h : l = b.take k) (hl : 0 < l.length) : 0 < k := by
  rw [h] at hl
  simp at hl
  omega
theorem encL_pos (zs : List Int) : 0 < (encL zs).length := by have := enc_pos zs.length; unfold encL; rw [List.length_append]; omega
theorem encT_pos (s : ByteArray) : 0 < (encT s).length := by have := enc_pos s.size; unfold encT; rw [List.length_append]; omega

theorem max_nat (k : Nat) : max (0 : Int) (k : Int) = (k : Int) := by omega

theorem fineN {b : List Int} (hu : U8 b) : Fine b (readN b) enc ∧ ((readN b).f = 0 → -9223372036854775808 ≤ (readN b).v ∧ (readN b).v ≤ 9223372036854775807) := by
  refine ⟨⟨readN_le b, fun h => ?_, fun h => ?_⟩, fun h => ?_⟩
  · have := got_eta (readN b); rw [h] at this
    exact (readN_ok hu this).1
  · have := got_eta (readN b); rw [h] at this
    exact (readN_ok hu this).2.1
  · have := got_eta (readN b); rw [h] at this
    exact (readN_ok hu this).2.2.2.2
theorem readL_le (b : List Int) : (readL b).k ≤ b.length := by
  have h1 := readC_le b
  unfold readL
  split
  · exact Nat.zero_le _
  · split
    · exact Nat.zero_le _
    · have h2 := readMany_le (readC b).v (b.drop (readC b).k)
      simp only [List.length_drop] at h2
      show (readC b).k + _ ≤ b.length
      omega
theorem readT_le (b : List Int) : (readT b).k ≤ b.length := by
  have h1 := readC_le b
  unfold readT
  split
  · exact Nat.zero_le _
  · exact h1
theorem fineL {b : List Int} (hu : U8 b) : Fine b (readL b) encL ∧ ((readL b).f = 0 → W64 (readL b).v ∧ (readL b).v.length ≤ b.length) :=
  ⟨⟨readL_le b, fun h => (readL_ok hu h).1, fun h => take_pos (readL_ok hu h).1 (encL_pos _)⟩, fun h => (readL_ok hu h).2⟩
theorem fineT {b : List Int} (hu : U8 b) : Fine b (readT b) (fun v => encT (strOfNums v)) ∧ ((readT b).f = 0 → (readT b).v.length ≤ b.length) :=
  ⟨⟨readT_le b, fun h => (readT_ok hu h).1, fun h => take_pos (readT_ok hu h).1 (encT_pos _)⟩, fun h => (readT_ok hu h).2⟩

set_option maxHeartbeats 8000000 in
theorem walk (A : Option Addr) (c : Nat) (b : List Int) (w : World) (hc : A = none → c = 0) (hA : BA w A b) (hu : U8 b) (hbl : b.length ≤ 140737488355328) (hcap : b.length ≤ c) :
    Calls Try.prog 13 #[.slice A b.length c] w (LawPost w) := by
  by_cases h1 : 300 < b.length
  · clear hA hu hc
    have t : decide ((300 : Int) < (b.length : Int)) = true := decide_eq_true (by omega)
    go_enter Try.func13, Try.ntmps13
    go_wp2_with fail
    refine (works_any _).mono ?_
    rintro e w' ⟨rfl, hb⟩
    go_wp2
    go_ret
    exact ⟨rfl, hb⟩
  have HA := Lib.hid hA
  have HU := Lib.hid hu
  have Hc := Lib.hid hc
  obtain ⟨n1, n2⟩ := fineN hu
  obtain ⟨l1, l2⟩ := fineL hu
  obtain ⟨t1, t2⟩ := fineT hu
  have KN := Lib.hid (fun (g : Nat) (A' : Option Addr) (c' : Nat) (W : World) (h : RD W g A' c' b 0 0) => (by have := rnum_any W h; rw [List.drop_zero] at this; exact this : Calls Try.prog 43 #[.pointer (some ⟨g, 0, none⟩)] W (RPost g A' c' b 0 W (.int .i64 (readN b).v) (readN b).k (readN b).f)))
  have KL := Lib.hid (fun (g : Nat) (A' : Option Addr) (c' : Nat) (W : World) (h : RD W g A' c' b 0 0) => (by have := rlist_any W h; rw [List.drop_zero] at this; exact this : Calls Try.prog 46 #[.pointer (some ⟨g, 0, none⟩)] W (RList g A' c' b 0 (readL b) W)))
  have KT := Lib.hid (fun (g : Nat) (A' : Option Addr) (c' : Nat) (W : World) (h : RD W g A' c' b 0 0) => (by have := rtext_any W h; rw [List.drop_zero] at this; exact this : Calls Try.prog 48 #[.pointer (some ⟨g, 0, none⟩)] W (RText g A' c' b 0 (readT b) W)))
  generalize readN b = GN at n1 n2 KN
  generalize readL b = GL at l1 l2 KL
  generalize readT b = GT at t1 t2 KT
  obtain ⟨fN, vN, kN⟩ := GN
  obtain ⟨fL, vL, kL⟩ := GL
  obtain ⟨fT, vT, kT⟩ := GT
  have FN := Lib.hid n1
  have FN2 := Lib.hid n2
  have FL := Lib.hid l1
  have FL2 := Lib.hid l2
  have FT := Lib.hid t1
  have FT2 := Lib.hid t2
  have hsl := fun (W : World) (n : Nat) (h : n ≤ c) => slice_head W A b.length c n h
  have HSL := Lib.hid hsl
  have hV : Below w.heap.size w w := Below.refl _ _
  clear hA hu hc n1 n2 l1 l2 t1 t2 hsl
  go_enter Try.func13, Try.ntmps13
  go_wp2_with fail
  refine (from_any A c _ b _ rfl Hc.out (HA.out.below hV) HU.out (by omega)).mono ?_
  rintro e w1 ⟨g, A1, c1, rfl, hg, hb1, hr1⟩
  have hV1 := hV.trans (hb1.mono hV.size)
  have hgV : w.heap.size ≤ g := Nat.le_trans hV.size hg
  have hz1 := hV1.size
  have HR1 := Lib.hid hr1
  clear hb1 hr1 hg
  go_wp2_with fail
  refine (KN.out g A1 c1 _ HR1.out).mono ?_
  rintro e w2 ⟨rfl, hr2, ho2⟩
  have HR2 := Lib.hid hr2
  have hV2 := hV1.trans (ho2.below hgV hz1)
  have hz2 := hV2.size
  clear hr2
  go_wp2_with fail
  refine (err_any _ HR2.out).mono ?_
  rintro e w' ⟨rfl, rfl⟩
  by_cases h0 : fN = 0
  case' pos =>
    subst h0
    have hkb : kN ≤ b.length := FN.out.le
    have hk0 : 0 < kN := FN.out.pos rfl
    obtain ⟨t, ht⟩ : ∃ t, b.length = 0 + kN + t := ⟨b.length - kN, by omega⟩
    have hPut := Lib.hid (FN.out.put rfl)
    have hKb : Hid (b.length = 0 + kN + t) := Lib.hid ht
    have hkc : kN ≤ c := Nat.le_trans hkb hcap
    have hsub : (b.length : Int) - (t : Int) = (kN : Int) := by omega
    have hlen : Hid ((b.take kN).length = kN) := Lib.hid (by simp; omega)
    clear ht
    go_wp2_with fail
    have hV3 := hV2
    have hz3 := hz2
    have HR3 := HR2
    refine (num_any none 0 0 [] vN _ rfl (fun _ => rfl) (BA.nil _ _) (by simp) (FN2.out trivial).1 (FN2.out trivial).2).mono ?_
    rintro e w4 ⟨A4, c4, rfl, hc4, hb4, hB4⟩
    have hV4 := hV3.trans (hb4.mono hz3)
    have HB4 : Hid (BA w4 A4 (b.take kN)) := Lib.hid (by rw [← hPut.out]; exact hB4)
    have HL4 := Lib.hid (congrArg List.length hPut.out)
    have HR4 := Lib.hid (HR3.out.below hb4)
    clear hB4 hb4 hc4
    go_wp2_with fail
    refine (rleft_at _ HR4.out hKb.out).mono ?_
    rintro e w' ⟨rfl, j5, rfl⟩
    have hs5 := HSL.out (w4.drewN j5) kN hkc
    have HB5 := Lib.hid (BA.take ((HA.out.below hV4).drewN j5) kN)
    have hV5 := below_drewN hV4 j5
    go_wp2_with fail
    refine (eq_yes _ (by have := HL4.out; simpa using this) hlen.out.symm rfl (HB4.out.drewN j5) HB5.out (by rw [hlen.out]; unfold maxLen; omega)).mono ?_
    rintro e w' ⟨rfl, j6, rfl⟩
    have hV6 := below_drewN hV4 (j5 + j6)
    clear hkb hk0 hkc hsub hs5 hV1 hV2 hV3 hV4 hV5 hz1 hz2 hz3 hV
    have hV := hV6
    clear hV6
    go_wp2_with fail
  case' neg =>
    have t : (fN == 0) = false := by simpa using h0
    have t' : (fN != 0) = true := by simpa using h0
    have hV6 := hV2
    clear hV1 hV2 hz1 hz2 hV h0
    have hV := hV6
    clear hV6
    go_wp2_with fail
  all_goals
    refine (from_any A c _ b _ rfl Hc.out (HA.out.below hV) HU.out (by omega)).mono ?_
    rintro e w1 ⟨g, A1, c1, rfl, hg, hb1, hr1⟩
    have hV1 := hV.trans (hb1.mono hV.size)
    have hgV : w.heap.size ≤ g := Nat.le_trans hV.size hg
    have hz1 := hV1.size
    have HR1 := Lib.hid hr1
    clear hb1 hr1 hg
    go_wp2_with fail
    refine (KL.out g A1 c1 _ HR1.out).mono ?_
    rintro e w2 ⟨A2, c2, rfl, hI2, hr2, ho2, hn2⟩
    have HI2 := Lib.hid hI2
    clear hI2 hn2
    have HR2 := Lib.hid hr2
    have hV2 := hV1.trans (ho2.below hgV hz1)
    have hz2 := hV2.size
    clear hr2
    go_wp2_with fail
    refine (err_any _ HR2.out).mono ?_
    rintro e w' ⟨rfl, rfl⟩
    by_cases h0 : fL = 0
    case' pos =>
      subst h0
      have hkb : kL ≤ b.length := FL.out.le
      have hk0 : 0 < kL := FL.out.pos rfl
      obtain ⟨t, ht⟩ : ∃ t, b.length = 0 + kL + t := ⟨b.length - kL, by omega⟩
      have hPut := Lib.hid (FL.out.put rfl)
      have hKb : Hid (b.length = 0 + kL + t) := Lib.hid ht
      have hkc : kL ≤ c := Nat.le_trans hkb hcap
      have hsub : (b.length : Int) - (t : Int) = (kL : Int) := by omega
      have hlen : Hid ((b.take kL).length = kL) := Lib.hid (by simp; omega)
      clear ht
      go_wp2_with fail
      have hV3 := hV2
      have hz3 := hz2
      have HR3 := HR2
      refine (list_any none A2 0 c2 _ _ [] vL _ rfl rfl (fun _ => rfl) (BA.nil _ _) HI2.out (FL2.out trivial).1 (by have h9 := (FL2.out trivial).2; simp only [List.length_nil]; omega)).mono ?_
      rintro e w4 ⟨A4, c4, rfl, hc4, hb4, hB4⟩
      have hV4 := hV3.trans (hb4.mono hz3)
      have HB4 : Hid (BA w4 A4 (b.take kL)) := Lib.hid (by rw [← hPut.out]; exact hB4)
      have HL4 := Lib.hid (congrArg List.length hPut.out)
      have HR4 := Lib.hid (HR3.out.below hb4)
      clear hB4 hb4 hc4
      go_wp2_with fail
      refine (rleft_at _ HR4.out hKb.out).mono ?_
      rintro e w' ⟨rfl, j5, rfl⟩
      have hs5 := HSL.out (w4.drewN j5) kL hkc
      have HB5 := Lib.hid (BA.take ((HA.out.below hV4).drewN j5) kL)
      have hV5 := below_drewN hV4 j5
      go_wp2_with fail
      refine (eq_yes _ (by have := HL4.out; simpa using this) hlen.out.symm rfl (HB4.out.drewN j5) HB5.out (by rw [hlen.out]; unfold maxLen; omega)).mono ?_
      rintro e w' ⟨rfl, j6, rfl⟩
      have hV6 := below_drewN hV4 (j5 + j6)
      clear hkb hk0 hkc hsub hs5 hV1 hV2 hV3 hV4 hV5 hz1 hz2 hz3 hV
      have hV := hV6
      clear hV6
      go_wp2_with fail
    case' neg =>
      have t : (fL == 0) = false := by simpa using h0
      have t' : (fL != 0) = true := by simpa using h0
      have hV6 := hV2
      clear hV1 hV2 hz1 hz2 hV h0
      have hV := hV6
      clear hV6
      go_wp2_with fail
  all_goals
    refine (from_any A c _ b _ rfl Hc.out (HA.out.below hV) HU.out (by omega)).mono ?_
    rintro e w1 ⟨g, A1, c1, rfl, hg, hb1, hr1⟩
    have hV1 := hV.trans (hb1.mono hV.size)
    have hgV : w.heap.size ≤ g := Nat.le_trans hV.size hg
    have hz1 := hV1.size
    have HR1 := Lib.hid hr1
    clear hb1 hr1 hg
    go_wp2_with fail
    refine (KT.out g A1 c1 _ HR1.out).mono ?_
    rintro e w2 ⟨rfl, hr2, ho2⟩
    have HR2 := Lib.hid hr2
    have hV2 := hV1.trans (ho2.below hgV hz1)
    have hz2 := hV2.size
    clear hr2
    go_wp2_with fail
    refine (err_any _ HR2.out).mono ?_
    rintro e w' ⟨rfl, rfl⟩
    by_cases h0 : fT = 0
    case' pos =>
      subst h0
      have hkb : kT ≤ b.length := FT.out.le
      have hk0 : 0 < kT := FT.out.pos rfl
      obtain ⟨t, ht⟩ : ∃ t, b.length = 0 + kT + t := ⟨b.length - kT, by omega⟩
      have hPut := Lib.hid (FT.out.put rfl)
      have hKb : Hid (b.length = 0 + kT + t) := Lib.hid ht
      have hkc : kT ≤ c := Nat.le_trans hkb hcap
      have hsub : (b.length : Int) - (t : Int) = (kT : Int) := by omega
      have hlen : Hid ((b.take kT).length = kT) := Lib.hid (by simp; omega)
      clear ht
      go_wp2_with fail
      have hV3 := hV2
      have hz3 := hz2
      have HR3 := HR2
      refine (text_any none 0 _ [] (strOfNums vT) _ rfl (fun _ => rfl) (BA.nil _ _) (by have h9 := FT2.out trivial; rw [strOf_size]; simp only [List.length_nil]; omega)).mono ?_
      rintro e w4 ⟨A4, c4, rfl, hc4, hb4, hB4⟩
      have hV4 := hV3.trans (hb4.mono hz3)
      have HB4 : Hid (BA w4 A4 (b.take kT)) := Lib.hid (by rw [← hPut.out]; exact hB4)
      have HL4 := Lib.hid (congrArg List.length hPut.out)
      have HR4 := Lib.hid (HR3.out.below hb4)
      clear hB4 hb4 hc4
      go_wp2_with fail
      refine (rleft_at _ HR4.out hKb.out).mono ?_
      rintro e w' ⟨rfl, j5, rfl⟩
      have hs5 := HSL.out (w4.drewN j5) kT hkc
      have HB5 := Lib.hid (BA.take ((HA.out.below hV4).drewN j5) kT)
      have hV5 := below_drewN hV4 j5
      go_wp2_with fail
      refine (eq_yes _ (by have := HL4.out; simpa using this) hlen.out.symm rfl (HB4.out.drewN j5) HB5.out (by rw [hlen.out]; unfold maxLen; omega)).mono ?_
      rintro e w' ⟨rfl, j6, rfl⟩
      have hV6 := below_drewN hV4 (j5 + j6)
      clear hkb hk0 hkc hsub hs5 hV1 hV2 hV3 hV4 hV5 hz1 hz2 hz3 hV
      have hV := hV6
      clear hV6
      go_wp2_with fail
    case' neg =>
      have t : (fT == 0) = false := by simpa using h0
      have t' : (fT != 0) = true := by simpa using h0
      have hV6 := hV2
      clear hV1 hV2 hz1 hz2 hV h0
      have hV := hV6
      clear hV6
      go_wp2_with fail
  all_goals
    refine (works_any _).mono ?_
    rintro e w9 ⟨rfl, hb9⟩
    go_wp2
    go_ret
    exact ⟨rfl, hV.trans (hb9.mono hV.size)⟩

theorem lifted (os : Os) (started : os.Started) (H : Type) (enc : TypeId × Value → H) :
    ReturnsInHanded {} Try.checked os 13 .any (Rows.octetOneSpec.pre6 enc Try.prog Try.f13 Rows.octetOneRow.domain false) (Rows.octetOneSpec.post enc Try.prog Try.f13 false true false false) := by
  refine law_lifted started [37] rfl (by kernel_rfl) Try.func13 rfl (by decide +kernel) rfl (fun ds hl => by
    match ds, hl with
    | [_], _ => rfl) (ChangeSpec.witness6 (enc := enc) (C := Try.checked) false ⟨#[], #[.slice none 0 0], []⟩ 8 (by kernel_rfl) (by kernel_rfl) (by kernel_rfl) (by kernel_rfl)) ?_
  intro W base args ds ps hval hA hlt hsz
  obtain ⟨v0, vs0, d0, ds0, p0, q0, hargs, rfl, rfl, h0, r0⟩ := trodAll_cons hA
  obtain ⟨rfl, rfl, rfl⟩ := trodAll_nil r0
  obtain rfl : args = #[v0] := by cases args; simp_all
  obtain ⟨A0, c0, x0, rfl, n0, b0, i0, u0⟩ := open_bytes_arg (hval 0 37 v0 rfl rfl) h0 hsz 0 rfl rfl
  exact walk A0 c0 x0 W n0 i0 u0 b0 (open_cap h0)

theorem over : Rows.octetOneRow.holds Try.pinned (OpenSpec.ofChange Rows.octetOneSpec) :=
  OpenClaim.holds_of_wide 13 Try.f13 rfl rfl rfl rfl rfl rfl rfl ⟨rfl, rfl, rfl, rfl, rfl⟩ rfl rfl rfl rfl rfl (by kernel_rfl) Try.func13 (by kernel_rfl)
    (of_decide_eq_true (by kernel_rfl)) (by unfold Func.isWrapper; first | (rw [if_pos (by decide +kernel)]; kernel_rfl) | (rw [if_neg (by decide +kernel)]; exact ⟨rfl, rfl⟩))
    (fun os started H enc _ => lifted os started H enc)

theorem proved : Rows.OctetOneSaid := over
#print axioms proved
end Go.Proofs.Ytbdlbljjbigjkaa.octetOne
