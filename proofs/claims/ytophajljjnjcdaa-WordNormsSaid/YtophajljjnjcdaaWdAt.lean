/- Words: their lengths, what may be, the set at a place: the program's and the document's. -/
import Derived.Test.YtophajljjnjcdaaWdRow
import Derived.Test.YtophajljjnjcdaaWdMod
import Derived.Test.YtophajljjnjcdaaWdNrm
import Derived.Test.YtophajljjnjcdaaLtlSpans
namespace Go.Proofs.Ytophajljjnjcdaa.wd
open Go.ChangeShapes Go.WideShapes Go.ChangeAt Go.RowKit Go.Deep sr lt nf

/-- A word, as it lies. -/
structure WX where
  A : Option Addr
  n : Nat
  c : Nat
  B : Option Addr
  m : Nat
  d : Nat
@[reducible] def WX.v (x : WX) : Value := .agg #[.slice x.A x.n x.c, .slice x.B x.m x.d]
/-- It lies there, and is not long. -/
structure WdR (w : World) (x : WX) (st lp : List Int) : Prop where
  n1 : x.n = st.length
  n2 : x.m = lp.length
  r1 : UA w x.A st
  r2 : UA w x.B lp
  c1 : x.n ≤ x.c
  c2 : x.m ≤ x.d
  k1 : x.c ≤ 9223372036854775807
  k2 : x.d ≤ 9223372036854775807
  b1 : x.n ≤ 1000
  b2 : x.m ≤ 1000
  u1 : ∀ i, i < st.length → 0 ≤ st.getD i 0 ∧ st.getD i 0 < 18446744073709551616
  u2 : ∀ i, i < lp.length → 0 ≤ lp.getD i 0 ∧ lp.getD i 0 < 18446744073709551616
theorem WdR.below {w w' : World} {x : WX} {st lp : List Int} (h : WdR w x st lp) (hb : Below w.heap.size w w') : WdR w' x st lp :=
  { h with r1 := h.r1.below hb, r2 := h.r2.below hb }
def chkF (m : Nat) : Int := if m = 0 then 8 else 0
/-- What a call leaves that hands back v and makes memory alone. -/
def ValP (w : World) (v : Value) (e : Ending) (w' : World) : Prop := e = .returned v ∧ Below w.heap.size w w'
theorem ua_at {w : World} {A : Option Addr} {l : List Int} (h : UA w A l) {i : Nat} (hi : i < l.length) : ∃ b o, A = some ⟨b, o, none⟩ ∧ b < w.heap.size ∧ ∀ W, Below w.heap.size w W → W.cell? ⟨b, o + i, none⟩ = some (.int .u64 (l.getD i 0)) := by
  obtain ⟨b, o, e, hb, hc⟩ := h (by omega)
  exact ⟨b, o, e, hb, fun W hW => (hW.cell (p := ⟨b, o + i, none⟩) hb).trans (hc i hi)⟩
set_option maxRecDepth 20000 in
theorem len_any (x : WX) (w : World) (h1 : x.n ≤ 1000) (h2 : x.m ≤ 1000) : Calls Try.prog 12 #[x.v] w (ValP w (.int .i64 ((x.n + x.m : Nat) : Int))) := by
  obtain ⟨A, n, c, B, m, d⟩ := x
  unfold WX.v
  dsimp only at h1 h2 ⊢
  have HB1 : Hid (Below w.heap.size w (w.alloc (.cells #[.slice A n c, .slice B m d] 24))) := Lib.hid (below_one _ _)
  go_enter Try.func12, Try.ntmps12
  go_wp2
  go_ret
  exact ⟨by congr 2, HB1.out⟩
set_option maxRecDepth 20000 in
theorem check_any (x : WX) (w : World) (h1 : x.n ≤ 1000) (h2 : x.m ≤ 1000) : Calls Try.prog 10 #[x.v] w (ValP w (.int .i64 (chkF x.m))) := by
  obtain ⟨A, n, c, B, m, d⟩ := x
  have hl := fun w => len_any ⟨A, n, c, B, m, d⟩ w h1 h2
  unfold WX.v at hl ⊢
  dsimp only at h1 h2 hl ⊢
  have HL := Lib.hid hl
  clear hl
  have HB1 : Hid (Below w.heap.size w (w.alloc (.cells #[.slice A n c, .slice B m d] 24))) := Lib.hid (below_one _ _)
  by_cases h0 : m = 0
  · subst h0
    go_enter Try.func10, Try.ntmps10
    go_wp2
    go_ret
    exact ⟨rfl, HB1.out⟩
  · have hc : chkF m = 0 := if_neg h0
    rw [hc]
    clear hc
    have hmi : ¬ (m : Int) = 0 := by omega
    go_enter Try.func10, Try.ntmps10
    go_wp2_with fail
    refine (HL.out _).mono ?_
    rintro e w2 ⟨rfl, hb⟩
    have HB2 := Lib.hid (HB1.out.trans (hb.mono HB1.out.size))
    clear hb
    go_wp2
    go_ret
    exact ⟨rfl, HB2.out⟩
set_option maxRecDepth 20000 in
set_option maxHeartbeats 1000000 in
theorem at_any (x : WX) (st lp : List Int) (i : Int) (w : World) (hX : WdR w x st lp) (hi1 : -9223372036854775808 ≤ i) (hi2 : i ≤ 9223372036854775807) : Calls Try.prog 14 #[x.v, .int .i64 i] w (ValP w (.int .u64 (atF st lp i))) := by
  obtain ⟨A, n, c, B, m, d⟩ := x
  obtain ⟨n1, n2, r1, r2, _, _, _, _, b1, b2, _, _⟩ := hX
  unfold WX.v
  dsimp only at n1 n2 r1 r2 b1 b2 ⊢
  have HB1 : Hid (Below w.heap.size w (w.alloc (.cells #[.slice A n c, .slice B m d] 24))) := Lib.hid (below_one _ _)
  obtain ⟨z, HZ⟩ : ∃ z, Hid (atF st lp i = z) := ⟨_, Lib.hid rfl⟩
  rw [HZ.out]
  by_cases h0 : i < 0
  · have hz : z = 0 := by have := HZ.out; unfold atF at this; rw [if_pos h0] at this; exact this.symm
    subst hz
    clear HZ n1 n2 r1 r2
    go_enter Try.func14, Try.ntmps14
    go_wp2
    go_ret
    exact ⟨rfl, HB1.out⟩
  obtain ⟨k, rfl⟩ : ∃ k : Nat, i = (k : Int) := ⟨i.toNat, by omega⟩
  by_cases h1 : k < n
  · have hz : st.getD k 0 = z := by have := HZ.out; unfold atF at this; rw [if_neg h0, Int.toNat_natCast, if_pos (by omega)] at this; exact this
    obtain ⟨b, o, rfl, hb, hc⟩ := ua_at r1 (i := k) (by omega)
    have c1 := hc _ HB1.out
    rw [hz] at c1
    clear HZ n1 n2 r1 r2 hc hz
    go_enter Try.func14, Try.ntmps14
    go_wp2
    go_ret
    exact ⟨rfl, HB1.out⟩
  by_cases h2 : m = 0
  · have hz : z = 0 := by have := HZ.out; unfold atF at this; rw [if_neg h0, Int.toNat_natCast, if_neg (by omega), if_pos (by omega)] at this; exact this.symm
    subst hz
    subst h2
    clear HZ n1 n2 r1 r2
    go_enter Try.func14, Try.ntmps14
    go_wp2
    go_ret
    exact ⟨rfl, HB1.out⟩
  · obtain ⟨q, HQ⟩ : ∃ q, Hid ((k - n) % m = q) := ⟨_, Lib.hid rfl⟩
    have hq : q < m := by rw [← HQ.out]; exact Nat.mod_lt _ (by omega)
    have hz : lp.getD q 0 = z := by have := HZ.out; unfold atF at this; rw [if_neg h0, Int.toNat_natCast, if_neg (by omega), if_neg (by omega), ← n1, ← n2, HQ.out] at this; exact this
    obtain ⟨b, o, rfl, hb, hc⟩ := ua_at r2 (i := q) (by omega)
    have c1 := hc _ HB1.out
    rw [hz] at c1
    have hmod : modF ((k : Int) - n) m = (q : Int) := by
      unfold modF
      rw [if_neg (by omega), ← HQ.out]
      have : ((k : Int) - n) = ((k - n : Nat) : Int) := by omega
      rw [this]
      rfl
    have HM : Hid (∀ w, Calls Try.prog 29 #[.int .i64 ((k : Int) - n), .int .i64 m] w fun e w' => e = .returned (.int .i64 q) ∧ w' = w) := Lib.hid (fun w => by
      refine (mod_any _ _ w (by omega) (by omega) (by omega) (by omega)).mono ?_
      rintro e w' ⟨rfl, rfl⟩
      exact ⟨by rw [hmod], rfl⟩)
    clear HZ n1 n2 r1 r2 hc hz hmod HQ
    have hmi : ¬ (m : Int) = 0 := by omega
    go_enter Try.func14, Try.ntmps14
    go_wp2
    go_quiet ((go_at_call 29; exact Calls.quiet_of_same (HM.out _)))
    go_wp2
    go_ret
    exact ⟨rfl, below_drewN HB1.out _⟩
end Go.Proofs.Ytophajljjnjcdaa.wd
