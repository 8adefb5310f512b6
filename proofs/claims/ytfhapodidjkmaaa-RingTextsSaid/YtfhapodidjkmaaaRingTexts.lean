/- The law RingTexts: texts are kept as numbers are. No condition. -/
import Derived.Test.YtfhapodidjkmaaaRingWorks
import Derived.Test.YtfhapodidjkmaaaRingLawS
import Derived.Test.YtfhapodidjkmaaaOpensS
import Derived.WalkSpells
namespace Go.Proofs.Ytfhapodidjkmaaa.str.ringTexts
open Go.ChangeShapes Go.WideShapes Go.ChangeAt Go.RowKit

theorem take_snoc' (l : List ByteArray) {k : Nat} (h : k < l.length) : l.take (k + 1) = l.take k ++ [l.getD k ⟨#[]⟩] := by
  rw [List.take_succ_eq_append_getElem h]; simp [List.getD, h]
theorem drop_cons' (l : List ByteArray) {k : Nat} (h : k < l.length) : l.drop k = l.getD k ⟨#[]⟩ :: l.drop (k + 1) := by
  rw [List.drop_eq_getElem_cons h]; simp [List.getD, h]
theorem ia_below {w w' : World} {A : Option Addr} {l : List ByteArray} (h : IA w A l) (hb : Below w.heap.size w w') : IA w' A l := fun hn => by
  obtain ⟨b, off, e, hl, hc⟩ := h hn
  exact ⟨b, off, e, Nat.lt_of_lt_of_le hl hb.size, fun i hi => (hb.cell (p := ⟨b, off + i, none⟩) hl).trans (hc i hi)⟩

set_option maxRecDepth 20000 in
theorem large (A : Option Addr) (c : Nat) (l : List ByteArray) (w : World) (h : 100 < l.length) (ha : l.length ≤ 17592186044416) :
    Calls Try.prog 7 #[.slice A l.length c] w (LawPost w) := by
  generalize l.length = x at h ha
  go_enter Try.func7, Try.ntmps7
  go_wp2_with (go_at_call 15; refine (works_any _).mono ?_; rintro e w' ⟨rfl, hbw⟩)
  go_ret
  exact ⟨rfl, hbw⟩

set_option maxRecDepth 20000 in
set_option maxHeartbeats 8000000 in
theorem small (A : Option Addr) (c : Nat) (l : List ByteArray) (w : World) (hA : IA w A l) (hl : l.length ≤ 100) (hz : ∀ z ∈ l, z.size ≤ maxLen) :
    Calls Try.prog 7 #[.slice A l.length c] w (LawPost w) := by
  have HA := Lib.hid hA
  have HSZ := Lib.hid hz
  obtain ⟨n, HN⟩ : ∃ n, Hid (l.length = n) := ⟨_, Lib.hid rfl⟩
  rw [HN.out] at hl ⊢
  have HM : Hid (mostOf (n : Int) = n) := Lib.hid (by unfold mostOf; omega)
  have hn0 : decide ((100 : Int) < (n : Int)) = false := by simp; omega
  clear hA hz
  go_enter Try.func7, Try.ntmps7
  go_wp2_with fail
  refine (new_any (n : Int) w).mono ?_
  rintro e w1 ⟨s, rfl, rfl, h1, hb1, hz1⟩
  have H1 : Hid (QU w1 w.heap.size none n ([] : List ByteArray)) := Lib.hid (by rw [HM.out] at h1; exact h1)
  have HB1 := Lib.hid hb1
  clear h1 hb1 hz1
  go_wp2_with fail
  go_loopw [4] (fun i wr => ∃ (k : Nat) (t : Option Nat), k ≤ n ∧ i = .int .i64 k ∧ Hid (QU wr w.heap.size t n (l.take k)) ∧ Hid (∀ b, t = some b → w.heap.size ≤ b) ∧ Hid (Below w.heap.size w wr)) (fun i _ => n - (intOf i).toNat)
  case atStart => exact ⟨0, none, by omega, rfl, by simpa using H1, Lib.hid (fun b e => by cases e), HB1⟩
  case round =>
    obtain ⟨k, t, hk, rfl, HQ, HT, HB⟩ := hrel
    by_cases hlt : k < n
    · obtain ⟨b, o, rfl, hb, hcc⟩ := HA.out (by rw [HN.out]; omega)
      have c1 : wr.cell? ⟨b, o + k, none⟩ = some (.string (l.getD k ⟨#[]⟩)) := by rw [HB.out.cell (p := ⟨b, o + k, none⟩) hb]; exact hcc k (by rw [HN.out]; exact hlt)
      have HS := Lib.hid (take_snoc' l (show k < l.length by rw [HN.out]; exact hlt))
      have HLT : Hid ((l.take k).length = k) := Lib.hid (by rw [List.length_take, HN.out]; omega)
      have hsz : (l.getD k ⟨#[]⟩).size ≤ maxLen := HSZ.out _ (by
        have hkl : k < l.length := by rw [HN.out]; exact hlt
        have e : l.getD k ⟨#[]⟩ = l[k] := by simp [List.getD, hkl]
        rw [e]; exact List.getElem_mem hkl)
      unfold maxLen at hsz
      generalize l.getD k ⟨#[]⟩ = y at c1 HS hsz
      clear hcc
      by_cases hy : 100 < y.size
      · have hy2 : (100 : Int) < (y.size : Int) := by omega
        clear hy
        go_wp2_with fail
        refine (works_any _).mono ?_
        rintro e w3 ⟨rfl, hb3⟩
        have HB3 : Hid (Below w.heap.size w w3) := Lib.hid (HB.out.trans (hb3.mono HB.out.size))
        clear hb3 c1
        go_wp2_with fail
        go_ret
        exact ⟨rfl, HB3.out⟩
      · have hy2 : (y.size : Int) ≤ 100 := by omega
        clear hy
        go_wp2_with fail
        refine (put_yes HQ.out y (by rw [HLT.out]; exact hlt)).mono ?_
        rintro e w3 ⟨rfl, t3, h3, hT3, hN3⟩
        have HQ3 : Hid (QU w3 w.heap.size t3 n (l.take (k + 1))) := Lib.hid (by rw [HS.out]; exact h3)
        have HT3 : Hid (∀ b, t3 = some b → w.heap.size ≤ b) := Lib.hid (hN3.le HT.out HB.out.size)
        have HB3 : Hid (Below w.heap.size w w3) := Lib.hid (HB.out.trans (hT3.below (Nat.le_refl _) HT.out HB.out.size))
        clear h3 hT3 hN3 c1
        go_wp2_with fail
        go_roundw
        case rel => exact ⟨k + 1, t3, by omega, by go_num, HQ3, HT3, HB3⟩
        case measure => simp [intOf]; omega
    · obtain rfl : n = k := by omega
      have HQL : Hid (QU wr w.heap.size t n l) := Lib.hid (by have := HQ.out; rwa [List.take_of_length_le (by rw [HN.out]; omega)] at this)
      have HC := Lib.hid (collected HQL.out)
      clear hlt hk H1 HB1 HQ
      go_wp2_with fail
      refine (all_any _ wr).mono ?_
      rintro e w2 ⟨rfl, rfl⟩
      have hs := Try.seqNotNil
      go_wp2_with fail
      refine HC.out.mono ?_
      rintro e w3 ⟨A3, c3, rfl, h3, _, hb3⟩
      have H3 := Lib.hid h3
      have HA3 : Hid (IA w3 A l) := Lib.hid (ia_below (ia_below HA.out HB.out) hb3)
      have HQ3 : Hid (QU w3 w.heap.size t n l) := Lib.hid (HQL.out.keep hb3)
      have HB3 : Hid (Below w.heap.size w w3) := Lib.hid (HB.out.trans (hb3.mono HB.out.size))
      clear h3 hb3 hs HC HQL HB
      rw [HN.out]
      go_wp2_with fail
      refine (equal_same _ _ _ _ _ _ l w3 HN.out.symm HN.out.symm H3.out HA3.out (by rw [HN.out]; unfold maxLen; omega)).mono ?_
      rintro e w4 ⟨rfl, j4, rfl⟩
      have HQ4 : Hid (QU (w3.drewN j4) w.heap.size t n l) := Lib.hid (HQ3.out.of_blocks rfl (fun _ _ => rfl))
      have HB4 : Hid (Below w.heap.size w (w3.drewN j4)) := Lib.hid (below_drewN HB3.out j4)
      clear H3 HA3 HQ3 HB3
      generalize w3.drewN j4 = w4 at *
      obtain ⟨L4, f4, g4, q4, _⟩ := HQ4.out
      rw [HN.out] at q4
      have HL4 := Lib.hid q4
      clear q4
      go_wp2_with fail
      refine (len_any HL4.out).mono ?_
      rintro e w5 ⟨rfl, rfl⟩
      clear HL4
      go_wp2_with fail
      go_loopw [6] (fun i wr => ∃ (k : Nat), k ≤ n ∧ i = .int .i64 k ∧ Hid (QU wr w.heap.size t n (l.drop k)) ∧ Hid (Below w.heap.size w wr)) (fun i _ => n - (intOf i).toNat)
      case atStart => exact ⟨0, by omega, rfl, by simpa using HQ4, HB4⟩
      case round =>
        obtain ⟨k, hk, rfl, HQ, HB⟩ := hrel
        by_cases hlt : k < n
        · obtain ⟨b, o, rfl, hb, hcc⟩ := HA.out (by rw [HN.out]; omega)
          have HS := Lib.hid (drop_cons' l (show k < l.length by rw [HN.out]; exact hlt))
          have HC : Hid (∀ W, Below w.heap.size w W → W.cell? ⟨b, o + k, none⟩ = some (.string (l.getD k ⟨#[]⟩))) := Lib.hid (fun W hW => (hW.cell (p := ⟨b, o + k, none⟩) hb).trans (hcc k (by rw [HN.out]; exact hlt)))
          generalize l.getD k ⟨#[]⟩ = y at HC HS
          have HQ2 : Hid (QU wr w.heap.size t n (y :: l.drop (k + 1))) := Lib.hid (by rw [← HS.out]; exact HQ.out)
          clear hcc HQ
          go_wp2_with fail
          refine (take_some HQ2.out).mono ?_
          rintro e w3 ⟨rfl, h3, hT3⟩
          have HQ3 := Lib.hid h3
          have HB3 : Hid (Below w.heap.size w w3) := Lib.hid (HB.out.trans (hT3.below (Nat.le_refl _) HT.out HB.out.size))
          have c1 := HC.out _ HB3.out
          clear h3 hT3 HQ2 HB
          go_wp2_with fail
          go_roundw
          case rel => exact ⟨k + 1, by omega, by go_num, HQ3, HB3⟩
          case measure => simp [intOf]; omega
        · obtain rfl : n = k := by omega
          have HQ5 : Hid (QU wr w.heap.size t n ([] : List ByteArray)) := Lib.hid (by have := HQ.out; rwa [List.drop_of_length_le (by rw [HN.out]; omega)] at this)
          clear hlt hk HQ HQ4 HB4
          go_wp2_with fail
          refine (take_none HQ5.out).mono ?_
          rintro e w6 ⟨rfl, rfl⟩
          go_wp2_with fail
          refine (works_any _).mono ?_
          rintro e w7 ⟨rfl, hb7⟩
          have HB7 : Hid (Below w.heap.size w w7) := Lib.hid (HB.out.trans (hb7.mono HB.out.size))
          clear hb7
          go_wp2_with fail
          go_ret
          exact ⟨rfl, HB7.out⟩

theorem walk (A : Option Addr) (c : Nat) (l : List ByteArray) (w : World) (hA : IA w A l) (ha : 16 * l.length ≤ 140737488355328) (hz : ∀ z ∈ l, z.size ≤ maxLen) :
    Calls Try.prog 7 #[.slice A l.length c] w (LawPost w) := by
  by_cases h : 100 < l.length
  · exact large A c l w h (by omega)
  · exact small A c l w hA (by omega) hz

set_option maxRecDepth 100000 in
theorem lifted (os : Os) (started : os.Started) (H : Type) (enc : TypeId × Value → H) :
    ReturnsInHanded {} Try.checked os 7 .any (Rows.ringTextsSpec.pre6 enc Try.prog Try.f7 Rows.ringTextsRow.domain false) (Rows.ringTextsSpec.post enc Try.prog Try.f7 false true false false) := by
  refine law_lifted started [45] rfl (by kernel_rfl) Try.func7 rfl (by decide +kernel) rfl (fun ds hl => by
    match ds, hl with
    | [_], _ => rfl) (ChangeSpec.witness6 (enc := enc) (C := Try.checked) false ⟨#[], #[.slice none 0 0], []⟩ 8 (by kernel_rfl) (by kernel_rfl) (by kernel_rfl) (by kernel_rfl)) ?_
  intro W base args ds ps hval hA hlt hsz
  obtain ⟨v0, vs0, d0, ds0, p0, q0, hargs, rfl, rfl, h0, r0⟩ := trodAll_cons hA
  obtain ⟨rfl, rfl, rfl⟩ := trodAll_nil r0
  obtain rfl : args = #[v0] := by cases args; simp_all
  obtain ⟨A0, c0, x0, rfl, b0, i0, z0⟩ := open_strs_arg (hval 0 45 v0 rfl rfl) h0 hsz 0 rfl rfl
  exact walk A0 c0 x0 W i0 b0 z0

set_option maxRecDepth 100000 in
theorem over : Rows.ringTextsRow.holds Try.pinned (OpenSpec.ofChange Rows.ringTextsSpec) :=
  OpenClaim.holds_of_wide 7 Try.f7 rfl rfl rfl rfl rfl rfl rfl ⟨rfl, rfl, rfl, rfl, rfl⟩ rfl rfl rfl rfl rfl (by kernel_rfl) Try.func7 (by kernel_rfl)
    (of_decide_eq_true (by kernel_rfl)) (by unfold Func.isWrapper; first | (rw [if_pos (by decide +kernel)]; kernel_rfl) | (rw [if_neg (by decide +kernel)]; exact ⟨rfl, rfl⟩))
    (fun os started H enc _ => lifted os started H enc)

theorem proved : Rows.RingTextsSaid := over
#print axioms proved
end Go.Proofs.Ytfhapodidjkmaaa.str.ringTexts
