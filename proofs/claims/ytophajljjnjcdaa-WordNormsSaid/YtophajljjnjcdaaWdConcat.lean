/- slices.Concat of two rows; the program's from, copied, period. -/
import Derived.Test.YtophajljjnjcdaaWdClone
namespace Go.Proofs.Ytophajljjnjcdaa.wd
open Go.ChangeShapes Go.WideShapes Go.ChangeAt Go.RowKit Go.Deep sr lt nf

/-- Two rows, one behind the other: what is there of them after i. -/
def ccF (l1 l2 : List Int) (i : Nat) : List Int := if i = 0 then [] else if i = 1 then l1 else l1 ++ l2
def pnF (n1 n2 i : Nat) : Nat := if i = 0 then 0 else if i = 1 then n1 else n1 + n2
theorem cc_len (l1 l2 : List Int) (i : Nat) : (ccF l1 l2 i).length = pnF l1.length l2.length i := by
  unfold ccF pnF
  split
  · rfl
  · split
    · rfl
    · simp
set_option maxRecDepth 20000 in
set_option maxHeartbeats 2000000 in
theorem concat_any (g n1 c1 n2 c2 : Nat) (A1 A2 : Option Addr) (l1 l2 : List Int) (w : World) (h1 : n1 = l1.length) (h2 : n2 = l2.length) (h0 : 0 < n1 + n2) (hn1 : n1 ≤ 2000) (hn2 : n2 ≤ 2000) (hg : g < w.heap.size)
    (hc1 : w.cell? ⟨g, 0, none⟩ = some (.slice A1 n1 c1)) (hc2 : w.cell? ⟨g, 1, none⟩ = some (.slice A2 n2 c2)) (r1 : UA w A1 l1) (r2 : UA w A2 l2) :
    Calls Try.prog 53 #[.slice (some ⟨g, 0, none⟩) 2 2] w (NewU w (n1 + n2) (l1 ++ l2)) := by
  have H1 := Lib.hid h1
  have H2 := Lib.hid h2
  have R1 := Lib.hid r1
  have R2 := Lib.hid r2
  have HC1 : Hid (∀ W, Below w.heap.size w W → W.cell? ⟨g, 0, none⟩ = some (.slice A1 n1 c1) ∧ W.cell? ⟨g, 1, none⟩ = some (.slice A2 n2 c2)) := Lib.hid (fun W h => ⟨(h.cell (p := ⟨g, 0, none⟩) hg).trans hc1, (h.cell (p := ⟨g, 1, none⟩) hg).trans hc2⟩)
  clear h1 h2 r1 r2 hg
  go_enter Try.func53, Try.ntmps53
  go_wp2
  go_loopw [3, 11] (fun sv iv wr => ∃ i s : Nat, i ≤ 2 ∧ iv = .int .i64 i ∧ sv = .int .i64 s ∧ Hid (s = pnF n1 n2 i) ∧ w = wr) (fun _ iv _ => 2 - (intOf iv).toNat)
  case atStart => exact ⟨0, 0, by omega, rfl, rfl, Lib.hid rfl, rfl⟩
  case round =>
    obtain ⟨i, s, hi, rfl, rfl, HS, rfl⟩ := hrel
    by_cases hlt : i < 2
    · have hti : (i : Int) < 2 := by omega
      obtain ⟨A, n, c, HX, hxc, hn⟩ : ∃ A n c, Hid (n = if i = 0 then n1 else n2) ∧ w.cell? ⟨g, i, none⟩ = some (.slice A n c) ∧ n ≤ 2000 := by
        have : i = 0 ∨ i = 1 := by omega
        rcases this with rfl | rfl
        · exact ⟨A1, n1, c1, Lib.hid rfl, hc1, hn1⟩
        · exact ⟨A2, n2, c2, Lib.hid rfl, hc2, hn2⟩
      have hs : s ≤ 4000 := by
        have := HS.out
        unfold pnF at this
        split at this
        · omega
        · split at this <;> omega
      have HS2 : Hid (s + n = pnF n1 n2 (i + 1)) := Lib.hid (by
        have h1 := HS.out
        have h2 := HX.out
        have : i = 0 ∨ i = 1 := by omega
        unfold pnF at h1 ⊢
        rcases this with rfl | rfl
        · simp at h1 h2 ⊢; omega
        · simp at h1 h2 ⊢; omega)
      clear hc1 hc2
      go_wp2
      go_roundw
      case rel => exact ⟨i + 1, s + n, by omega, by go_num, by go_num, HS2, by first | rfl | trivial⟩
      case measure => simp [intOf]; omega
    · have HI : Hid (i = 2) := Lib.hid (by omega)
      have hti : ¬ (i : Int) < 2 := by omega
      have hsn : s = n1 + n2 := by rw [HS.out, HI.out]; rfl
      subst hsn
      clear hc1 hc2
      have HGR := Lib.hid (grow_any (n1 + n2) w h0 (by omega))
      go_wp2_with fail
      refine HGR.out.mono ?_
      rintro e2 w2 ⟨v2, rfl, ho, hb⟩
      have HO2 := Lib.hid ho
      have HB2 := Lib.hid hb
      clear ho hb HGR HS
      go_wp2
      go_loopw [6, 27] (fun sv iv wq => ∃ (i : Nat) (v : Value), i ≤ 2 ∧ iv = .int .i64 i ∧ v = sv ∧ Hid (OR encU 1 w.heap.size 30 wq v (ccF l1 l2 i)) ∧ Hid (Below w.heap.size w wq)) (fun _ iv _ => 2 - (intOf iv).toNat)
      case atStart => exact ⟨0, _, by omega, rfl, rfl, HO2, HB2⟩
      case round =>
        clear HO2 HB2
        obtain ⟨k, v, hk, rfl, rfl, HO, HB⟩ := hrel
        obtain ⟨q1, q2⟩ := HC1.out wr HB.out
        by_cases hlk : k < 2
        · have htk : (k : Int) < 2 := by omega
          obtain ⟨A, n, c, L, HX, HU, HNL, hxc, HCC⟩ : ∃ A n c L, Hid (n ≤ 2000) ∧ Hid (UA wr A L) ∧ Hid (n = L.length) ∧ wr.cell? ⟨g, k, none⟩ = some (.slice A n c) ∧ Hid (ccF l1 l2 k ++ L = ccF l1 l2 (k + 1)) := by
            have : k = 0 ∨ k = 1 := by omega
            rcases this with rfl | rfl
            · exact ⟨A1, n1, c1, l1, Lib.hid hn1, Lib.hid (R1.out.below HB.out), Lib.hid H1.out, q1, Lib.hid rfl⟩
            · exact ⟨A2, n2, c2, l2, Lib.hid hn2, Lib.hid (R2.out.below HB.out), Lib.hid H2.out, q2, Lib.hid rfl⟩
          have HLE : Hid ((ccF l1 l2 k).length + n ≤ 100000) := Lib.hid (by
            rw [cc_len, ← H1.out, ← H2.out]
            have := HX.out
            unfold pnF
            split
            · omega
            · split <;> omega)
          clear q1 q2
          go_wp2_with (first
            | (at_builtin; refine list_append_all encU_len encU_one Try.underlying22 infoU rfl (by decide) (by decide) w.heap.size rfl (.tmp 31) (.tmp 32) rfl rfl _ (ccF l1 l2 k) rfl HO.out A n c L rfl HNL.out (ua_rs HU.out) HLE.out HB.out.size ?_; intro v3 w3 ho3 hb3; have HO3 := Lib.hid ho3; have HB3 := Lib.hid (HB.out.trans hb3); clear ho3 hb3)
            | fail)
          go_roundw
          case rel => exact ⟨k + 1, _, by omega, by go_num, rfl, Lib.hid (by rw [← HCC.out]; exact HO3.out), HB3⟩
          case measure => simp [intOf]; omega
        · have HK : Hid (k = 2) := Lib.hid (by omega)
          have htk : ¬ (k : Int) < 2 := by omega
          have HOO : Hid (OR encU 1 w.heap.size 30 wr v (l1 ++ l2)) := Lib.hid (by have := HO.out; rw [HK.out] at this; exact this)
          clear q1 q2
          go_wp2
          go_ret
          obtain ⟨A3, c3, rfl, h1, h2, h3, h4⟩ := or_ua HOO.out
          have e : n1 + n2 = (l1 ++ l2).length := by rw [List.length_append, ← H1.out, ← H2.out]
          exact ⟨e, A3, c3, by rw [e]; rfl, h3, by rw [e]; exact h1, h2, HB.out, h4⟩
end Go.Proofs.Ytophajljjnjcdaa.wd
