/- Words: the document's lengths, what may be, the set at a place; the law's heavy. -/
import Derived.Test.YtophajljjnjcdaaWdAt
namespace Go.Proofs.Ytophajljjnjcdaa.wd
open Go.ChangeShapes Go.WideShapes Go.ChangeAt Go.RowKit Go.Deep sr lt nf

set_option maxRecDepth 20000 in
theorem refLen_any (x : WX) (w : World) (h1 : x.n ≤ 1000) (h2 : x.m ≤ 1000) : Calls Try.prog 13 #[x.v] w (ValP w (.int .i64 ((x.n + x.m : Nat) : Int))) := by
  obtain ⟨A, n, c, B, m, d⟩ := x
  unfold WX.v
  dsimp only at h1 h2 ⊢
  have HB1 : Hid (Below w.heap.size w (w.alloc (.cells #[.slice A n c, .slice B m d] 24))) := Lib.hid (below_one _ _)
  go_enter Try.func13, Try.ntmps13
  go_wp2
  go_ret
  exact ⟨by congr 2, HB1.out⟩
set_option maxRecDepth 20000 in
theorem refCheck_any (x : WX) (w : World) (h1 : x.n ≤ 1000) (h2 : x.m ≤ 1000) : Calls Try.prog 11 #[x.v] w (ValP w (.int .i64 (chkF x.m))) := by
  obtain ⟨A, n, c, B, m, d⟩ := x
  unfold WX.v
  dsimp only at h1 h2 ⊢
  have HB1 : Hid (Below w.heap.size w (w.alloc (.cells #[.slice A n c, .slice B m d] 24))) := Lib.hid (below_one _ _)
  by_cases h0 : m = 0
  · subst h0
    go_enter Try.func11, Try.ntmps11
    go_wp2
    go_ret
    exact ⟨rfl, HB1.out⟩
  · have hc : chkF m = 0 := if_neg h0
    rw [hc]
    clear hc
    have hmi : ¬ (m : Int) = 0 := by omega
    go_enter Try.func11, Try.ntmps11
    go_wp2
    go_ret
    exact ⟨rfl, HB1.out⟩
set_option maxRecDepth 20000 in
set_option maxHeartbeats 1000000 in
theorem refAt_any (x : WX) (st lp : List Int) (i : Int) (w : World) (hX : WdR w x st lp) (hi1 : -9223372036854775808 ≤ i) (hi2 : i ≤ 9223372036854775807) : Calls Try.prog 15 #[x.v, .int .i64 i] w (ValP w (.int .u64 (atF st lp i))) := by
  obtain ⟨A, n, c, B, m, d⟩ := x
  obtain ⟨n1, n2, r1, r2, _, _, _, _, b1, b2, _, _⟩ := hX
  unfold WX.v
  dsimp only at n1 n2 r1 r2 b1 b2 ⊢
  have HB1 : Hid (Below w.heap.size w (w.alloc (.cells #[.slice A n c, .slice B m d] 24))) := Lib.hid (below_one _ _)
  obtain ⟨z, HZ⟩ : ∃ z, Hid (atF st lp i = z) := ⟨_, Lib.hid rfl⟩
  rw [HZ.out]
  by_cases h0 : i < 0
  · have hz : z = 0 := by have := HZ.out; unfold atF at this; rw [if_pos h0] at this; exact this.symm
    subst hz
    clear HZ n1 n2 r1 r2
    go_enter Try.func15, Try.ntmps15
    go_wp2
    go_ret
    exact ⟨rfl, HB1.out⟩
  obtain ⟨k, rfl⟩ : ∃ k : Nat, i = (k : Int) := ⟨i.toNat, by omega⟩
  by_cases h1 : k < n
  · have hz : st.getD k 0 = z := by have := HZ.out; unfold atF at this; rw [if_neg h0, Int.toNat_natCast, if_pos (by omega)] at this; exact this
    obtain ⟨b, o, rfl, hb, hc⟩ := ua_at r1 (i := k) (by omega)
    have c1 := hc _ HB1.out
    rw [hz] at c1
    clear HZ n1 n2 r1 r2 hc hz
    go_enter Try.func15, Try.ntmps15
    go_wp2
    go_ret
    exact ⟨rfl, HB1.out⟩
  by_cases h2 : m = 0
  · have hz : z = 0 := by have := HZ.out; unfold atF at this; rw [if_neg h0, Int.toNat_natCast, if_neg (by omega), if_pos (by omega)] at this; exact this.symm
    subst hz
    subst h2
    clear HZ n1 n2 r1 r2
    go_enter Try.func15, Try.ntmps15
    go_wp2
    go_ret
    exact ⟨rfl, HB1.out⟩
  · obtain ⟨q, HQ⟩ : ∃ q, Hid ((k - n) % m = q) := ⟨_, Lib.hid rfl⟩
    have hq : q < m := by rw [← HQ.out]; exact Nat.mod_lt _ (by omega)
    have hz : lp.getD q 0 = z := by have := HZ.out; unfold atF at this; rw [if_neg h0, Int.toNat_natCast, if_neg (by omega), if_neg (by omega), ← n1, ← n2, HQ.out] at this; exact this
    obtain ⟨b, o, rfl, hb, hc⟩ := ua_at r2 (i := q) (by omega)
    have c1 := hc _ HB1.out
    rw [hz] at c1
    have hmod : modF ((k : Int) - n) m = (q : Int) := by
      unfold modF
      rw [if_neg (by omega), ← HQ.out]
      have : ((k : Int) - n) = ((k - n : Nat) : Int) := by omega
      rw [this]
      rfl
    have hmod2 : ((k : Int) - n).tmod m = (q : Int) := by
      rw [Int.tmod_eq_emod_of_nonneg (by omega)]
      unfold modF at hmod
      rw [if_neg (by omega)] at hmod
      exact hmod
    clear HZ n1 n2 r1 r2 hc hz hmod HQ
    have hmi : ¬ (m : Int) = 0 := by omega
    go_enter Try.func15, Try.ntmps15
    go_wp2
    go_quiet (fail)
    go_wp2
    go_ret
    exact ⟨rfl, below_drewN HB1.out _⟩

theorem heavy_any (A : Option Addr) (f c : Nat) (x : WX) (w : World) : Calls Try.prog 8 #[.slice A f c, x.v] w (ValP w (.bool (decide (60 < f ∨ 30 < x.n ∨ 30 < x.m)))) := by
  obtain ⟨A2, n, c2, B, m, d⟩ := x
  unfold WX.v
  dsimp only
  have HB1 : Hid (Below w.heap.size w (w.alloc (.cells #[.slice A2 n c2, .slice B m d] 24))) := Lib.hid (below_one _ _)
  obtain ⟨z, HZ⟩ : ∃ z, Hid (decide (60 < f ∨ 30 < n ∨ 30 < m) = z) := ⟨_, Lib.hid rfl⟩
  rw [HZ.out]
  by_cases h0 : 60 < f
  · have hz : z = true := by rw [← HZ.out]; exact decide_eq_true (.inl h0)
    subst hz
    have hi : (f : Int) > 60 := by omega
    go_enter Try.func8, Try.ntmps8
    go_wp2
    go_ret
    exact ⟨rfl, HB1.out⟩
  · have hi : ¬ (f : Int) > 60 := by omega
    by_cases h1 : 30 < n
    · have hz : z = true := by rw [← HZ.out]; exact decide_eq_true (.inr (.inl h1))
      subst hz
      have hi2 : (n : Int) > 30 := by omega
      go_enter Try.func8, Try.ntmps8
      go_wp2
      go_ret
      exact ⟨rfl, HB1.out⟩
    · have hi2 : ¬ (n : Int) > 30 := by omega
      obtain ⟨y, HY⟩ : ∃ y, Hid (decide (30 < m) = y) := ⟨_, Lib.hid rfl⟩
      have hz : z = y := by rw [← HZ.out, ← HY.out]; exact decide_eq_decide.2 (by omega)
      subst hz
      have hy := HY.out
      cases z
      · have hi3 : ¬ (m : Int) > 30 := by have := of_decide_eq_false hy; omega
        clear hy
        go_enter Try.func8, Try.ntmps8
        go_wp2
        go_ret
        exact ⟨rfl, HB1.out⟩
      · have hi3 : (m : Int) > 30 := by have := of_decide_eq_true hy; omega
        clear hy
        go_enter Try.func8, Try.ntmps8
        go_wp2
        go_ret
        exact ⟨rfl, HB1.out⟩
end Go.Proofs.Ytophajljjnjcdaa.wd
