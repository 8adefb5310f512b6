/- The law HashOne: bytes that differ in one byte alone have unlike sums; numbers of which one alone has another lowest byte, too. No condition. -/
import Derived.Test.YtkpfglecgegjbaaHashOnePure
import Derived.Test.YtkpfglecgegjbaaOwn
import Derived.Deep.Cut
namespace Go.Proofs.Ytkpfglecgegjbaa.hashOne
open Go.ChangeShapes Go.WideShapes Go.ChangeAt Go.RowKit

theorem short (A : Option Addr) (c : Nat) (l : List Int) (at_ bit : Int) (w : World) (h : l.length = 0 ∨ 1000 < l.length) (hl : l.length ≤ 140737488355328) :
    Calls Try.prog 12 #[.slice A l.length c, .int .i64 at_, .int .u8 bit] w (LawPost w) := by
  rcases h with h | h
  · generalize l.length = n at h hl
    subst h
    go_enter Try.func12, Try.ntmps12
    go_wp2_with (go_at_call 43; refine (hlives_any _).mono ?_; rintro e w' ⟨rfl, hbw⟩)
    go_ret
    exact ⟨rfl, hbw⟩
  · generalize l.length = n at h hl
    go_enter Try.func12, Try.ntmps12
    go_wp2_with (go_at_call 43; refine (hlives_any _).mono ?_; rintro e w' ⟨rfl, hbw⟩)
    go_ret
    exact ⟨rfl, hbw⟩

theorem flip_fits {x bit : Int} (_hb : 0 ≤ bit) (hx : 0 ≤ x ∧ x ≤ 255) :
    0 ≤ bits BinOp.xor IntKind.u8 x (2 ^ (bit % 8).toNat % 256) ∧ bits BinOp.xor IntKind.u8 x (2 ^ (bit % 8).toNat % 256) ≤ 255 ∧ x ≠ bits BinOp.xor IntKind.u8 x (2 ^ (bit % 8).toNat % 256) := by
  have h1 : 0 ≤ bit % 8 := Int.emod_nonneg _ (by omega)
  have h2 : bit % 8 < 8 := Int.emod_lt_of_pos _ (by omega)
  obtain ⟨r, hr, e⟩ : ∃ r : Nat, r < 8 ∧ (bit % 8).toNat = r := ⟨_, by omega, rfl⟩
  rw [e]
  obtain ⟨q, hq1, hq2, hq⟩ : ∃ q : Nat, 1 ≤ q ∧ q ≤ 128 ∧ ((2 : Int) ^ r % 256) = (q : Int) := by
    obtain rfl | rfl | rfl | rfl | rfl | rfl | rfl | rfl : r = 0 ∨ r = 1 ∨ r = 2 ∨ r = 3 ∨ r = 4 ∨ r = 5 ∨ r = 6 ∨ r = 7 := by omega
    · exact ⟨1, by omega, by omega, rfl⟩
    · exact ⟨2, by omega, by omega, rfl⟩
    · exact ⟨4, by omega, by omega, rfl⟩
    · exact ⟨8, by omega, by omega, rfl⟩
    · exact ⟨16, by omega, by omega, rfl⟩
    · exact ⟨32, by omega, by omega, rfl⟩
    · exact ⟨64, by omega, by omega, rfl⟩
    · exact ⟨128, by omega, by omega, rfl⟩
  rw [hq]
  obtain ⟨X, rfl⟩ := Int.eq_ofNat_of_zero_le hx.1
  rw [u8_xor_nat X q (by omega) (by omega)]
  have h3 : X ^^^ q < 2 ^ 8 := Nat.xor_lt_two_pow (by omega) (by omega)
  refine ⟨by omega, by omega, fun h => ?_⟩
  have h4 : X ^^^ 0 = X ^^^ q := by rw [Nat.xor_zero]; omega
  have := xor_cancel' h4
  omega

set_option maxRecDepth 100000 in
set_option maxHeartbeats 2000000 in
theorem long (A : Option Addr) (c : Nat) (l : List Int) (at_ bit : Int) (w : World) (h1 : 1 ≤ l.length) (h2 : l.length ≤ 1000) (hA : BA w A l) (hc : A = none → c = 0) (hu : U8 l) (hb : 0 ≤ bit ∧ bit ≤ 255) :
    Calls Try.prog 12 #[.slice A l.length c, .int .i64 at_, .int .u8 bit] w (LawPost w) := by
  have HA := Lib.hid hA
  have HU := Lib.hid hu
  have HC := Lib.hid hc
  obtain ⟨hb1, hb2⟩ := hb
  obtain ⟨u, eW, hu1, hu2⟩ : ∃ u : Int, IntKind.u64.wrap at_ = u ∧ 0 ≤ u ∧ u < 18446744073709551616 := ⟨_, rfl, (wrap_u64_fits at_).1, (wrap_u64_fits at_).2⟩
  obtain ⟨i, hi, eT⟩ : ∃ i : Nat, i < l.length ∧ u.tmod (l.length : Int) = (i : Int) := by
    have h3 : 0 ≤ u % (l.length : Int) := Int.emod_nonneg _ (by omega)
    have h4 : u % (l.length : Int) < l.length := Int.emod_lt_of_pos _ (by omega)
    exact ⟨(u % (l.length : Int)).toNat, by omega, by rw [Int.tmod_eq_emod_of_nonneg hu1]; omega⟩
  clear hA hu hc
  have hne : A ≠ none := fun h => by
    subst h
    obtain ⟨b, o, h, _⟩ := HA.out (by omega)
    cases h
  obtain ⟨n, HL⟩ : ∃ n, Hid (l.length = n) := ⟨_, Lib.hid rfl⟩
  rw [HL.out] at h1 h2 hi eT ⊢
  have hn0 : ((n : Int) == 0) = false := by simp; omega
  have hi2 : (i : Int) < (n : Int) := by omega
  have hi3 : (0 : Int) ≤ (i : Int) := by omega
  go_enter Try.func12, Try.ntmps12
  go_upto_region 5 with (at_builtin; refine append_bytes _ rfl (.tmp 28) (.tmp 29) rfl w.heap.size _ [] rfl (ob_empty w _ _ (Nat.le_refl _) rfl) A c _ l HL.out.symm rfl (fun h => absurd h hne) (HA.out.alloc _) (by simp; have := HL.out; omega) (by simp) ?_; intro v1 w1 ho1 hb1)
  have ho2 : OB w.heap.size w1 v1 l := ho1
  obtain ⟨g, c1, e1, hg, hlt, hcell, hfr⟩ := ho2.block (by have := HL.out; omega)
  rw [HL.out] at e1
  obtain ⟨o, HZ⟩ : ∃ o, Hid (o = 0) := ⟨0, Lib.hid rfl⟩
  have e2 : v1 = .slice (some ⟨g, o, none⟩) n c1 := by rw [HZ.out]; exact e1
  clear e1
  subst e2
  have k1 : w1.cell? ⟨g, o + i, none⟩ = _ := (by rw [HZ.out, Nat.zero_add] : w1.cell? ⟨g, o + i, none⟩ = w1.cell? ⟨g, i, none⟩).trans (hcell i (by have := HL.out; omega))
  have f1 : w1.frozen? ⟨g, o + i, none⟩ = false := by rw [HZ.out, Nat.zero_add]; exact hfr i
  have HX := Lib.hid (HU.out.at_ i)
  have HB1 := Lib.hid (((Below.refl _ _).alloc (Nat.le_refl _) _).trans hb1)
  have HO1 := Lib.hid ho2
  obtain ⟨x, HXE⟩ : ∃ x, Hid (l.getD i 0 = x) := ⟨_, Lib.hid rfl⟩
  rw [HXE.out] at k1
  clear ho1 ho2 hcell hfr hb1 eW eT hu1 hu2 hne
  go_wp2
  obtain ⟨y, hy⟩ : ∃ y, Hid (bits BinOp.xor IntKind.u8 x (2 ^ (bit % 8).toNat % 256) = y) := ⟨_, Lib.hid rfl⟩
  rw [hy.out]
  have HY : Hid (0 ≤ y ∧ y ≤ 255 ∧ x ≠ y) := Lib.hid (by rw [← hy.out]; exact flip_fits hb1 (by have := HX.out; rw [HXE.out] at this; exact this))
  obtain ⟨w2, HW2⟩ : ∃ w2, Hid (w1.setCell ⟨g, o + i, none⟩ (.int .u8 y) = w2) := ⟨_, Lib.hid rfl⟩
  rw [HW2.out]
  have HO2 : Hid (OB w.heap.size w2 (.slice (some ⟨g, 0, none⟩) n c1) (l.set i y)) := Lib.hid (by
    have h := HO1.out
    rw [HZ.out, ← HL.out] at h
    rw [← HL.out, ← HW2.out, HZ.out, Nat.zero_add]
    exact h.stored i y)
  have HB2 : Hid (Below w.heap.size w w2) := Lib.hid (by rw [← HW2.out]; exact HB1.out.setCell hg _)
  have hlt2 : g < w2.heap.size := by rw [← HW2.out]; simpa using hlt
  have hsz2 : w.heap.size ≤ w2.heap.size := HB2.out.size
  have HA2 : Hid (BA w2 A l) := Lib.hid (HA.out.below HB2.out)
  have HLS : Hid ((l.set i y).length = n) := Lib.hid (by rw [List.length_set]; exact HL.out)
  have HU2 : Hid (U8 (l.set i y)) := Lib.hid (fun z hz => by
    rcases List.mem_or_eq_of_mem_set hz with h | h
    · exact HU.out z h
    · rw [h]; have := HY.out; omega)
  obtain ⟨m, HM⟩ : ∃ m, Hid (l.set i y = m) := ⟨_, Lib.hid rfl⟩
  rw [HM.out] at HO2 HLS HU2
  clear k1 f1 HO1 hy HW2 HB1 hlt
  obtain ⟨i0, hi', hz0, hz1, hz2⟩ := info_parts Try.info3'
  go_loopw [9, 10, 42] (fun p q j wr => ∃ (v v' : Value) (k : Nat), p = v ∧ q = v' ∧ j = .int .i64 k ∧ k ≤ n ∧ Hid (OI w2.heap.size wr v (l.take k)) ∧ Hid (OI w2.heap.size wr v' (m.take k)) ∧ Hid (Apart v v') ∧ Hid (Below w2.heap.size w2 wr)) (fun _ _ j _ => n - (intOf j).toNat)
  case atStart => exact ⟨_, _, 0, rfl, rfl, rfl, Nat.zero_le _, Lib.hid (OI.nil _ _), Lib.hid (OI.nil _ _), Lib.hid (Apart.nil _), Lib.hid (Below.refl _ _)⟩
  case round =>
    obtain ⟨v, v', k, rfl, rfl, rfl, hk, HP, HQ, HN, HW⟩ := hrel
    by_cases hkn : k < n
    · obtain ⟨bA, oA, rfl, hbA, hcA⟩ := HA2.out (by have := HL.out; omega)
      have c1 : wr.cell? ⟨bA, oA + k, none⟩ = some (.int .u8 (l.getD k 0)) := by rw [HW.out.cell (p := ⟨bA, oA + k, none⟩) hbA]; exact hcA k (by have := HL.out; omega)
      have HC2 : Hid (∀ wx, Below w2.heap.size w2 wx → wx.cell? ⟨g, o + k, none⟩ = some (.int .u8 (m.getD k 0))) := Lib.hid (fun wx hwx => by
        rw [HZ.out, Nat.zero_add]
        obtain ⟨g', c', e, _, _, h, _⟩ := HO2.out.block (by have := HLS.out; omega)
        injection e with e _ _
        injection e with e
        injection e with e
        subst e
        rw [hwx.cell (p := ⟨g, k, none⟩) hlt2]
        exact h k (by have := HLS.out; omega))
      have HS1 : Hid (l.take (k + 1) = l.take k ++ [l.getD k 0]) := Lib.hid (take_snocI l k (by have := HL.out; omega))
      have HS2 : Hid (m.take (k + 1) = m.take k ++ [m.getD k 0]) := Lib.hid (take_snocI m k (by have := HLS.out; omega))
      have hl1 : (l.take k).length = k := by rw [List.length_take]; have := HL.out; omega
      have hl2 : (m.take k).length = k := by rw [List.length_take]; have := HLS.out; omega
      have HF1 := Lib.hid (HU.out.at_ k)
      have HF2 := Lib.hid (HU2.out.at_ k)
      generalize l.getD k 0 = a at c1 HS1 HF1
      generalize m.getD k 0 = d at HC2 HS2 HF2
      obtain ⟨la, HLA⟩ : ∃ la, Hid (l.take k = la) := ⟨_, Lib.hid rfl⟩
      obtain ⟨ma, HMA⟩ : ∃ ma, Hid (m.take k = ma) := ⟨_, Lib.hid rfl⟩
      rw [HLA.out] at HS1 hl1 HP
      rw [HMA.out] at HS2 hl2 HQ
      have hwr : w2.heap.size ≤ wr.heap.size := HW.out.size
      obtain ⟨a1, a2⟩ := HF1.out
      obtain ⟨d1, d2⟩ := HF2.out
      clear hcA
      go_upto_region 11 with (at_builtin; refine append_one rfl (.tmp 45) (.tmp 51) rfl w2.heap.size _ la rfl HP.out a rfl (by omega) hwr ?_; intro v3 w3 ho3 hg3 hb3 hn3)
      have HO3 := Lib.hid ho3
      have HW3 := Lib.hid (HW.out.trans hb3)
      have HQ3 : Hid (OI w2.heap.size w3 _ ma) := Lib.hid (World.ownsRow.kept (HQ.out.alloc _) hg3 HN.out.comm)
      have HN3 : Hid (Apart v3 _) := Lib.hid (HN.out.next (n := wr.heap.size + 1) (fun k hk => by have := (HQ.out.lt k hk).2; omega) hn3)
      have hw3 : w2.heap.size ≤ w3.heap.size := HW3.out.size
      have c2 := HC2.out w3 HW3.out
      clear ho3 hg3 hb3 hn3
      go_wp2_with (at_builtin; refine append_one rfl (.tmp 53) (.tmp 59) rfl w2.heap.size _ ma rfl HQ3.out d rfl (by omega) hw3 ?_; intro v4 w4 ho4 hg4 hb4 hn4)
      have HO4 := Lib.hid ho4
      have HW4 := Lib.hid (HW3.out.trans hb4)
      have HQ4 : Hid (OI w2.heap.size w4 v3 (la ++ [a])) := Lib.hid (World.ownsRow.kept (HO3.out.alloc _) hg4 HN3.out)
      have HN4 : Hid (Apart v3 v4) := Lib.hid (HN3.out.comm.next (n := w3.heap.size + 1) (fun k hk => by have := (HO3.out.lt k hk).2; omega) hn4).comm
      clear ho4 hg4 hb4 hn4
      go_wp2
      go_roundw
      case rel => exact ⟨_, _, k + 1, rfl, rfl, by go_num, by omega, by rw [HS1.out]; exact HQ4, by rw [HS2.out]; exact HO4, HN4, HW4⟩
      case measure => simp [intOf]; omega
    · obtain rfl : k = n := by omega
      have HP1 : Hid (OI w2.heap.size wr _ l) := Lib.hid (by have := HP.out; rwa [List.take_of_length_le (by have := HL.out; omega)] at this)
      have HQ1 : Hid (OI w2.heap.size wr _ m) := Lib.hid (by have := HQ.out; rwa [List.take_of_length_le (by have := HLS.out; omega)] at this)
      obtain ⟨P1, p1, rfl, hP1⟩ := HP1.out.form
      obtain ⟨Q1, q1, rfl, hQ1⟩ := HQ1.out.form
      have HPI := Lib.hid hP1
      have HQI := Lib.hid hQ1
      have HA3 : Hid (BA wr A l) := Lib.hid (HA2.out.below HW.out)
      have HC3 : Hid (BA wr (some ⟨g, o, none⟩) m) := Lib.hid (fun _ => by
        rw [HZ.out]
        obtain ⟨g', c', e, _, _, h, _⟩ := HO2.out.block (by have := HLS.out; omega)
        injection e with e _ _
        injection e with e
        injection e with e
        subst e
        refine ⟨g, 0, rfl, by have := HW.out.size; omega, fun j hj => ?_⟩
        rw [HW.out.cell (p := ⟨g, 0 + j, none⟩) hlt2, Nat.zero_add]
        exact h j hj)
      have hne2 := sums_ne HU.out (i := i) (by have := HL.out; omega) (y := y) (by have := HY.out; omega) (by have := HY.out; have := HXE.out; omega)
      rw [HM.out] at hne2
      obtain ⟨hs1, hs2⟩ := hne2
      have n1 : (bsum none64 l != bsum none64 m) = true := by simpa using hs1
      have n2 : (bsum none64 (bAll l) != bsum none64 (bAll m)) = true := by simpa using hs2
      clear hs1 hs2 hP1 hQ1
      rw [HL.out, HLS.out]
      go_wp2_with fail
      refine (bytes_any A c _ l wr HL.out.symm HA3.out HU.out (by have := HL.out; omega)).mono ?_
      rintro e w' ⟨rfl, rfl⟩
      go_wp2_with fail
      refine (bytes_any (some ⟨g, o, none⟩) c1 _ m wr HLS.out.symm HC3.out HU2.out (by have := HLS.out; omega)).mono ?_
      rintro e w' ⟨rfl, rfl⟩
      go_wp2_with fail
      refine (ints_any P1 p1 _ l wr HL.out.symm HPI.out (by have := HL.out; omega)).mono ?_
      rintro e w' ⟨rfl, rfl⟩
      go_wp2_with fail
      refine (ints_any Q1 q1 _ m wr HLS.out.symm HQI.out (by have := HLS.out; omega)).mono ?_
      rintro e w' ⟨rfl, rfl⟩
      go_wp2_with fail
      refine (hlives_any _).mono ?_
      rintro e w' ⟨rfl, hbw⟩
      go_wp2_with fail
      go_ret
      exact ⟨rfl, (HB2.out.trans (HW.out.mono hsz2)).trans (hbw.mono (by have := HW.out.size; omega))⟩

theorem walk (A : Option Addr) (c : Nat) (l : List Int) (at_ bit : Int) (w : World) (hA : BA w A l) (hc : A = none → c = 0) (hu : U8 l) (hb : 0 ≤ bit ∧ bit ≤ 255) (hl : l.length ≤ 140737488355328) :
    Calls Try.prog 12 #[.slice A l.length c, .int .i64 at_, .int .u8 bit] w (LawPost w) := by
  by_cases h : l.length = 0 ∨ 1000 < l.length
  · exact short A c l at_ bit w h hl
  · exact long A c l at_ bit w (by omega) (by omega) hA hc hu hb

theorem lifted (os : Os) (started : os.Started) (H : Type) (enc : TypeId × Value → H) :
    ReturnsInHanded {} Try.checked os 12 .any (Rows.hashOneSpec.pre6 enc Try.prog Try.f12 Rows.hashOneRow.domain false) (Rows.hashOneSpec.post enc Try.prog Try.f12 false true false false) := by
  refine law_lifted started [63, 3, 5] rfl (by kernel_rfl) Try.func12 rfl (by decide +kernel) rfl (fun ds hl => by
    match ds, hl with
    | [_, _, _], _ => rfl) (ChangeSpec.witness6 (enc := enc) (C := Try.checked) false ⟨#[], #[.slice none 0 0, .int .i64 0, .int .u8 0], []⟩ 8 (by kernel_rfl) (by kernel_rfl) (by kernel_rfl) (by kernel_rfl)) ?_
  intro W base args ds ps hval hA hlt hsz
  obtain ⟨v0, vs0, d0, ds0, p0, q0, hargs, rfl, rfl, h0, r0⟩ := trodAll_cons hA
  obtain ⟨v1, vs1, d1, ds1, p1, q1, rfl, rfl, rfl, h1, r1⟩ := trodAll_cons r0
  obtain ⟨v2, vs2, d2, ds2, p2, q2, rfl, rfl, rfl, h2, r2⟩ := trodAll_cons r1
  obtain ⟨rfl, rfl, rfl⟩ := trodAll_nil r2
  obtain rfl : args = #[v0, v1, v2] := by cases args; simp_all
  obtain ⟨A0, c0, x0, rfl, n0, b0, i0, u0⟩ := open_bytes_arg (hval 0 63 v0 rfl rfl) h0 hsz 0 rfl rfl
  obtain ⟨x1, rfl, rfl, rfl, w1⟩ := open_int Try.underlying3 (hval 1 3 v1 rfl rfl) h1
  obtain ⟨x2, rfl, rfl, rfl, w2⟩ := open_int Try.underlying5 (hval 2 5 v2 rfl rfl) h2
  exact walk A0 c0 x0 x1 x2 W i0 n0 u0 (fitsU8 w2) b0

theorem over : Rows.hashOneRow.holds Try.pinned (OpenSpec.ofChange Rows.hashOneSpec) :=
  OpenClaim.holds_of_wide 12 Try.f12 rfl rfl rfl rfl rfl rfl rfl ⟨rfl, rfl, rfl, rfl, rfl⟩ rfl rfl rfl rfl rfl (by kernel_rfl) Try.func12 (by kernel_rfl)
    (of_decide_eq_true (by kernel_rfl)) (by unfold Func.isWrapper; first | (rw [if_pos (by decide +kernel)]; kernel_rfl) | (rw [if_neg (by decide +kernel)]; exact ⟨rfl, rfl⟩))
    (fun os started H enc _ => lifted os started H enc)

theorem proved : Rows.HashOneSaid := over
#print axioms proved
end Go.Proofs.Ytkpfglecgegjbaa.hashOne
