/- The program's next, and the function values that row hands on. -/
import Derived.Test.YtophajljjnjcdaaWdBack
import Derived.Deep.RegionHeld3
namespace Go.Proofs.Ytophajljjnjcdaa.wd
open Go.ChangeShapes Go.WideShapes Go.ChangeAt Go.RowKit Go.Deep sr lt nf

set_option maxRecDepth 20000 in
theorem next_any (x : WX) (k n : Nat) (w : World) (h1 : x.n ≤ 1000) (h2 : x.m ≤ 1000) (hn : x.n + x.m = n) (h0 : 0 < x.m) (hk : k < n) : Calls Try.prog 65 #[x.v, .int .i64 k] w (ValP w (.int .i64 (nxt x.n n k : Nat))) := by
  have HLA := Lib.hid (fun w => len_any x w h1 h2)
  rw [hn] at HLA
  obtain ⟨A, s, c, B, q, d⟩ := x
  unfold WX.v at HLA ⊢
  dsimp only at h1 h2 hn h0 HLA ⊢
  obtain ⟨w1, HW1, HB1, HS1, HBX⟩ : ∃ w1, w.alloc (.cells #[.slice A s c, .slice B q d] 24) = w1 ∧ Hid (Below w.heap.size w w1) ∧ Hid (w1.heap.size = w.heap.size + 1) ∧ Hid (∀ W, Below w1.heap.size w1 W → W.cell? ⟨w.heap.size, 0, none⟩ = some (.slice A s c)) := by
    have e : (w.alloc (.cells #[.slice A s c, .slice B q d] 24)).heap.size = w.heap.size + 1 := by simp
    exact ⟨_, rfl, Lib.hid (below_one _ _), Lib.hid e, Lib.hid (fun W h => (h.cell (p := ⟨w.heap.size, 0, none⟩) (by show w.heap.size < _; omega)).trans (World.cell?_alloc_at _ _ _ _ (by simp)))⟩
  obtain ⟨y1, y2⟩ : w1.cell? ⟨w.heap.size, 0, none⟩ = some (.slice A s c) ∧ w1.cell? ⟨w.heap.size, 1, none⟩ = some (.slice B q d) := by
    rw [← HW1]
    exact ⟨World.cell?_alloc_at _ _ _ _ (by simp), World.cell?_alloc_at _ _ _ _ (by simp)⟩
  obtain ⟨r, HR⟩ : ∃ r : Nat, Hid (nxt s n k = r) := ⟨_, Lib.hid rfl⟩
  rw [HR.out]
  have HN := Lib.hid hn
  have hn2 : n ≤ 2000 := by omega
  by_cases hl : k + 1 < n
  · have hr : r = k + 1 := by have := HR.out; unfold nxt at this; rw [if_pos hl] at this; exact this.symm
    subst hr
    have hne : ¬ (k : Int) = (n : Int) - 1 := by omega
    clear hn HR
    go_enter Try.func65, Try.ntmps65
    go_upto_region 1 with (fail)
    clear HW1
    go_wp2_with fail
    refine (HLA.out _).mono ?_
    rintro e2 w2 ⟨rfl, hb2⟩
    have HB2 := Lib.hid (HB1.out.trans (hb2.mono HB1.out.size))
    clear hb2 y1 y2
    go_wp2
    go_ret
    exact ⟨by congr 2, HB2.out⟩
  · have hr : s = r := by have := HR.out; unfold nxt at this; rw [if_neg hl] at this; exact this
    subst hr
    obtain ⟨p, hp⟩ : ∃ p : Nat, n = p + 1 := ⟨n - 1, by omega⟩
    obtain rfl : k = p := by omega
    subst hp
    have hne : ((k + 1 : Nat) : Int) - 1 = (k : Int) := by omega
    clear hn HR
    go_enter Try.func65, Try.ntmps65
    go_upto_region 1 with (fail)
    clear HW1
    go_wp2_with fail
    refine (HLA.out _).mono ?_
    rintro e2 w2 ⟨rfl, hb2⟩
    have HB2 := Lib.hid (HB1.out.trans (hb2.mono HB1.out.size))
    have y3 := HBX.out w2 hb2
    clear hb2 y1 y2
    go_wp2
    go_ret
    exact ⟨rfl, HB2.out⟩
theorem row1_any  (n k : Nat) (w : World) (hk : k < n)  :
    Calls Try.prog 58 (#[.int .i64 k] ++ #[]) w (ValP w (.bool (true))) := by
  (go_enter Try.func58, Try.ntmps58; go_wp2; go_ret; exact ⟨rfl, Below.refl _ _⟩)
theorem row3_any (a : List Bool) (A1 : Option Addr) (ca ga : Nat) (n k : Nat) (w : World) (hk : k < n) (ha : w.cell? ⟨ga, 0, none⟩ = some (.slice A1 n ca)) (na : a.length = n) (ra : BL w A1 a) :
    Calls Try.prog 60 (#[.int .i64 k] ++ #[.pointer (some ⟨ga, 0, none⟩)]) w (ValP w (.bool (!(a.getD k false)))) := by
  obtain ⟨qa, oa, rfl, za, da⟩ := ra (by omega)
  have ea := da k (by omega)
  obtain ⟨xa, Ya⟩ : ∃ x, Hid (a.getD k false = x) := ⟨_, Lib.hid rfl⟩
  rw [Ya.out] at ea ⊢
  clear da ra na
  cases xa <;> (go_enter Try.func60, Try.ntmps60; go_wp2; go_ret; exact ⟨rfl, Below.refl _ _⟩)
theorem row4_any (a : List Bool) (A1 : Option Addr) (ca ga : Nat) (b : List Bool) (B1 : Option Addr) (cb gb : Nat) (n k : Nat) (w : World) (hk : k < n) (ha : w.cell? ⟨ga, 0, none⟩ = some (.slice A1 n ca)) (na : a.length = n) (ra : BL w A1 a) (hb : w.cell? ⟨gb, 0, none⟩ = some (.slice B1 n cb)) (nb : b.length = n) (rb : BL w B1 b) :
    Calls Try.prog 61 (#[.int .i64 k] ++ #[.pointer (some ⟨ga, 0, none⟩), .pointer (some ⟨gb, 0, none⟩)]) w (ValP w (.bool (a.getD k false && b.getD k false))) := by
  obtain ⟨qa, oa, rfl, za, da⟩ := ra (by omega)
  have ea := da k (by omega)
  obtain ⟨xa, Ya⟩ : ∃ x, Hid (a.getD k false = x) := ⟨_, Lib.hid rfl⟩
  rw [Ya.out] at ea ⊢
  clear da ra na
  obtain ⟨qb, ob, rfl, zb, db⟩ := rb (by omega)
  have eb := db k (by omega)
  obtain ⟨xb, Yb⟩ : ∃ x, Hid (b.getD k false = x) := ⟨_, Lib.hid rfl⟩
  rw [Yb.out] at eb ⊢
  clear db rb nb
  cases xa <;> cases xb <;> (go_enter Try.func61, Try.ntmps61; go_wp2; go_ret; exact ⟨rfl, Below.refl _ _⟩)
theorem row5_any (a : List Bool) (A1 : Option Addr) (ca ga : Nat) (b : List Bool) (B1 : Option Addr) (cb gb : Nat) (n k : Nat) (w : World) (hk : k < n) (ha : w.cell? ⟨ga, 0, none⟩ = some (.slice A1 n ca)) (na : a.length = n) (ra : BL w A1 a) (hb : w.cell? ⟨gb, 0, none⟩ = some (.slice B1 n cb)) (nb : b.length = n) (rb : BL w B1 b) :
    Calls Try.prog 62 (#[.int .i64 k] ++ #[.pointer (some ⟨ga, 0, none⟩), .pointer (some ⟨gb, 0, none⟩)]) w (ValP w (.bool (a.getD k false || b.getD k false))) := by
  obtain ⟨qa, oa, rfl, za, da⟩ := ra (by omega)
  have ea := da k (by omega)
  obtain ⟨xa, Ya⟩ : ∃ x, Hid (a.getD k false = x) := ⟨_, Lib.hid rfl⟩
  rw [Ya.out] at ea ⊢
  clear da ra na
  obtain ⟨qb, ob, rfl, zb, db⟩ := rb (by omega)
  have eb := db k (by omega)
  obtain ⟨xb, Yb⟩ : ∃ x, Hid (b.getD k false = x) := ⟨_, Lib.hid rfl⟩
  rw [Yb.out] at eb ⊢
  clear db rb nb
  cases xa <;> cases xb <;> (go_enter Try.func62, Try.ntmps62; go_wp2; go_ret; exact ⟨rfl, Below.refl _ _⟩)
theorem row6_any (a : List Bool) (A1 : Option Addr) (ca ga : Nat) (b : List Bool) (B1 : Option Addr) (cb gb : Nat) (n k : Nat) (w : World) (hk : k < n) (ha : w.cell? ⟨ga, 0, none⟩ = some (.slice A1 n ca)) (na : a.length = n) (ra : BL w A1 a) (hb : w.cell? ⟨gb, 0, none⟩ = some (.slice B1 n cb)) (nb : b.length = n) (rb : BL w B1 b) :
    Calls Try.prog 63 (#[.int .i64 k] ++ #[.pointer (some ⟨ga, 0, none⟩), .pointer (some ⟨gb, 0, none⟩)]) w (ValP w (.bool (!(a.getD k false) || b.getD k false))) := by
  obtain ⟨qa, oa, rfl, za, da⟩ := ra (by omega)
  have ea := da k (by omega)
  obtain ⟨xa, Ya⟩ : ∃ x, Hid (a.getD k false = x) := ⟨_, Lib.hid rfl⟩
  rw [Ya.out] at ea ⊢
  clear da ra na
  obtain ⟨qb, ob, rfl, zb, db⟩ := rb (by omega)
  have eb := db k (by omega)
  obtain ⟨xb, Yb⟩ : ∃ x, Hid (b.getD k false = x) := ⟨_, Lib.hid rfl⟩
  rw [Yb.out] at eb ⊢
  clear db rb nb
  cases xa <;> cases xb <;> (go_enter Try.func63, Try.ntmps63; go_wp2; go_ret; exact ⟨rfl, Below.refl _ _⟩)
theorem row8_any (b : List Bool) (B1 : Option Addr) (cb gb : Nat) (a : List Bool) (A1 : Option Addr) (ca ga : Nat) (n k : Nat) (e : Bool) (w : World) (hk : k < n) (hb : w.cell? ⟨gb, 0, none⟩ = some (.slice B1 n cb)) (nb : b.length = n) (rb : BL w B1 b) (ha : w.cell? ⟨ga, 0, none⟩ = some (.slice A1 n ca)) (na : a.length = n) (ra : BL w A1 a) :
    Calls Try.prog 67 (#[.int .i64 k, .bool e] ++ #[.pointer (some ⟨gb, 0, none⟩), .pointer (some ⟨ga, 0, none⟩)]) w (ValP w (.bool (b.getD k false || a.getD k false && e))) := by
  obtain ⟨qb, ob, rfl, zb, db⟩ := rb (by omega)
  have eb := db k (by omega)
  obtain ⟨xb, Yb⟩ : ∃ x, Hid (b.getD k false = x) := ⟨_, Lib.hid rfl⟩
  rw [Yb.out] at eb ⊢
  clear db rb nb
  obtain ⟨qa, oa, rfl, za, da⟩ := ra (by omega)
  have ea := da k (by omega)
  obtain ⟨xa, Ya⟩ : ∃ x, Hid (a.getD k false = x) := ⟨_, Lib.hid rfl⟩
  rw [Ya.out] at ea ⊢
  clear da ra na
  cases xb <;> cases xa <;> (go_enter Try.func67, Try.ntmps67; go_wp2; go_ret; exact ⟨rfl, Below.refl _ _⟩)
theorem row9_any (b : List Bool) (B1 : Option Addr) (cb gb : Nat) (a : List Bool) (A1 : Option Addr) (ca ga : Nat) (n k : Nat) (e : Bool) (w : World) (hk : k < n) (hb : w.cell? ⟨gb, 0, none⟩ = some (.slice B1 n cb)) (nb : b.length = n) (rb : BL w B1 b) (ha : w.cell? ⟨ga, 0, none⟩ = some (.slice A1 n ca)) (na : a.length = n) (ra : BL w A1 a) :
    Calls Try.prog 68 (#[.int .i64 k, .bool e] ++ #[.pointer (some ⟨gb, 0, none⟩), .pointer (some ⟨ga, 0, none⟩)]) w (ValP w (.bool (b.getD k false && (a.getD k false || e)))) := by
  obtain ⟨qb, ob, rfl, zb, db⟩ := rb (by omega)
  have eb := db k (by omega)
  obtain ⟨xb, Yb⟩ : ∃ x, Hid (b.getD k false = x) := ⟨_, Lib.hid rfl⟩
  rw [Yb.out] at eb ⊢
  clear db rb nb
  obtain ⟨qa, oa, rfl, za, da⟩ := ra (by omega)
  have ea := da k (by omega)
  obtain ⟨xa, Ya⟩ : ∃ x, Hid (a.getD k false = x) := ⟨_, Lib.hid rfl⟩
  rw [Ya.out] at ea ⊢
  clear da ra na
  cases xb <;> cases xa <;> (go_enter Try.func68, Try.ntmps68; go_wp2; go_ret; exact ⟨rfl, Below.refl _ _⟩)
theorem row10_any (a : List Bool) (A1 : Option Addr) (ca ga : Nat) (n k : Nat) (e : Bool) (w : World) (hk : k < n) (ha : w.cell? ⟨ga, 0, none⟩ = some (.slice A1 n ca)) (na : a.length = n) (ra : BL w A1 a) :
    Calls Try.prog 69 (#[.int .i64 k, .bool e] ++ #[.pointer (some ⟨ga, 0, none⟩)]) w (ValP w (.bool (a.getD k false || e))) := by
  obtain ⟨qa, oa, rfl, za, da⟩ := ra (by omega)
  have ea := da k (by omega)
  obtain ⟨xa, Ya⟩ : ∃ x, Hid (a.getD k false = x) := ⟨_, Lib.hid rfl⟩
  rw [Ya.out] at ea ⊢
  clear da ra na
  cases xa <;> (go_enter Try.func69, Try.ntmps69; go_wp2; go_ret; exact ⟨rfl, Below.refl _ _⟩)
theorem row11_any (a : List Bool) (A1 : Option Addr) (ca ga : Nat) (n k : Nat) (e : Bool) (w : World) (hk : k < n) (ha : w.cell? ⟨ga, 0, none⟩ = some (.slice A1 n ca)) (na : a.length = n) (ra : BL w A1 a) :
    Calls Try.prog 70 (#[.int .i64 k, .bool e] ++ #[.pointer (some ⟨ga, 0, none⟩)]) w (ValP w (.bool (a.getD k false && e))) := by
  obtain ⟨qa, oa, rfl, za, da⟩ := ra (by omega)
  have ea := da k (by omega)
  obtain ⟨xa, Ya⟩ : ∃ x, Hid (a.getD k false = x) := ⟨_, Lib.hid rfl⟩
  rw [Ya.out] at ea ⊢
  clear da ra na
  cases xa <;> (go_enter Try.func70, Try.ntmps70; go_wp2; go_ret; exact ⟨rfl, Below.refl _ _⟩)
set_option maxRecDepth 20000 in
set_option maxHeartbeats 1000000 in
theorem row7_any (a : List Bool) (A1 : Option Addr) (ca ga gw : Nat) (n k : Nat) (x : WX) (w : World) (hk : k < n) (ha : w.cell? ⟨ga, 0, none⟩ = some (.slice A1 n ca)) (na : a.length = n) (ra : BL w A1 a)
    (hw0 : w.cell? ⟨gw, 0, none⟩ = some (.slice x.A x.n x.c)) (hw1 : w.cell? ⟨gw, 1, none⟩ = some (.slice x.B x.m x.d)) (h1 : x.n ≤ 1000) (h2 : x.m ≤ 1000) (hn : x.n + x.m = n) (h0 : 0 < x.m) (hga : ga < w.heap.size) (hgw : gw < w.heap.size) :
    Calls Try.prog 64 (#[.int .i64 k] ++ #[.pointer (some ⟨ga, 0, none⟩), .pointer (some ⟨gw, 0, none⟩)]) w (ValP w (.bool (a.getD (nxt x.n n k) false))) := by
  have HNX := Lib.hid (fun W => next_any x k n W h1 h2 hn h0 hk)
  obtain ⟨r, HR⟩ : ∃ r : Nat, Hid (nxt x.n n k = r) := ⟨_, Lib.hid rfl⟩
  have hrn : r < n := by rw [← HR.out]; exact nxt_lt (by omega)
  rw [HR.out] at HNX ⊢
  obtain ⟨qa, oa, rfl, za, da⟩ := ra (by omega)
  have ea := da r (by omega)
  obtain ⟨y, HY⟩ : ∃ y, Hid (a.getD r false = y) := ⟨_, Lib.hid rfl⟩
  rw [HY.out] at ea ⊢
  have HE : Hid (∀ W, Below w.heap.size w W → W.cell? ⟨qa, oa + r, none⟩ = some (.bool y) ∧ W.cell? ⟨ga, 0, none⟩ = some (.slice (some ⟨qa, oa, none⟩) n ca) ∧ W.cell? ⟨gw, 0, none⟩ = some (.slice x.A x.n x.c) ∧ W.cell? ⟨gw, 1, none⟩ = some (.slice x.B x.m x.d)) :=
    Lib.hid (fun W h => ⟨(h.cell (p := ⟨qa, oa + r, none⟩) za).trans ea, (h.cell (p := ⟨ga, 0, none⟩) hga).trans ha, (h.cell (p := ⟨gw, 0, none⟩) hgw).trans hw0, (h.cell (p := ⟨gw, 1, none⟩) hgw).trans hw1⟩)
  clear da ra na HY
  obtain ⟨A, s, c, B, q, d⟩ := x
  unfold WX.v at HNX
  dsimp only at hw0 hw1 h1 h2 hn h0 HNX HE
  go_enter Try.func64, Try.ntmps64
  go_wp2_with fail
  go_region_held3 (fun W => W.cell? ⟨qa, oa + r, none⟩ = some (.bool y) ∧ W.cell? ⟨ga, 0, none⟩ = some (.slice (some ⟨qa, oa, none⟩) n ca) ∧ W.cell? ⟨gw, 0, none⟩ = some (.slice A s c) ∧ W.cell? ⟨gw, 1, none⟩ = some (.slice B q d))
    (first | exact HE.out _ (Below.refl _ _) | exact HE.out _ (Below.refl _ _).drew | exact HE.out _ HB2.out | go_keep)
    (first
      | (go_at_call 65; refine (HNX.out _).mono ?_; rintro e2 w2 ⟨rfl, hb2⟩; have HB2 : Hid (Below w.heap.size w w2) := Lib.hid ((Below.refl w.heap.size w).drew.trans hb2); clear hb2)
      | fail)
  all_goals
    go_wp2
    go_ret
    exact ⟨rfl, HB2.out⟩
set_option maxRecDepth 20000 in
set_option maxHeartbeats 1000000 in
theorem row2_any (st lp : List Int) (N : Int) (gw gn : Nat) (n k : Nat) (x : WX) (w : World) (hX : WdR w x st lp) (hn : x.n + x.m = n) (h0 : 0 < x.m) (hk : k < n) (hN : 0 ≤ N ∧ N < 8)
    (hw0 : w.cell? ⟨gw, 0, none⟩ = some (.slice x.A x.n x.c)) (hw1 : w.cell? ⟨gw, 1, none⟩ = some (.slice x.B x.m x.d)) (hn1 : w.cell? ⟨gn, 1, none⟩ = some (.int .i64 N)) (hgn : gn < w.heap.size) (hgw : gw < w.heap.size) :
    Calls Try.prog 59 (#[.int .i64 k] ++ #[.pointer (some ⟨gw, 0, none⟩), .pointer (some ⟨gn, 0, none⟩)]) w (ValP w (.bool (bitF (atF st lp k) N))) := by
  have HAT := Lib.hid (fun W (hW : Below w.heap.size w W) => at_any x st lp k W (hX.below hW) (by omega) (by have := hX.b1; have := hX.b2; omega))
  obtain ⟨z, HZ⟩ : ∃ z, Hid (atF st lp k = z) := ⟨_, Lib.hid rfl⟩
  have hz : 0 ≤ z ∧ z < 18446744073709551616 := by
    rw [← HZ.out]
    unfold atF
    rw [if_neg (by omega)]
    by_cases h3 : (k : Int).toNat < st.length
    · rw [if_pos h3]; exact hX.u1 _ h3
    · rw [if_neg h3]
      have h5 := hX.n2
      rw [if_neg (by omega)]
      exact hX.u2 _ (Nat.mod_lt _ (by omega))
  rw [HZ.out] at HAT ⊢
  obtain ⟨m, rfl⟩ : ∃ m : Nat, N = m := ⟨N.toNat, by omega⟩
  obtain ⟨y, HY⟩ : ∃ y : Bool, Hid (bitF z m = y) := ⟨_, Lib.hid rfl⟩
  rw [HY.out]
  have hand : Op.intBits .and .u64 (z / 2 ^ m) 1 = (pure (.int .u64 (if y = true then 1 else 0)) : Sem Value) := by
    rw [bit_and z m hz.1 hz.2, ← HY.out]
    unfold bitF
    rw [Int.toNat_natCast]
    by_cases h3 : z.toNat / 2 ^ m % 2 = 1
    · rw [if_pos h3, if_pos (decide_eq_true h3)]
    · rw [if_neg h3, if_neg (by simpa using h3)]
  have HE : Hid (∀ W, Below w.heap.size w W → W.cell? ⟨gn, 1, none⟩ = some (.int .i64 m) ∧ W.cell? ⟨gw, 0, none⟩ = some (.slice x.A x.n x.c) ∧ W.cell? ⟨gw, 1, none⟩ = some (.slice x.B x.m x.d)) :=
    Lib.hid (fun W h => ⟨(h.cell (p := ⟨gn, 1, none⟩) hgn).trans hn1, (h.cell (p := ⟨gw, 0, none⟩) hgw).trans hw0, (h.cell (p := ⟨gw, 1, none⟩) hgw).trans hw1⟩)
  clear HZ hX
  obtain ⟨A, s, c, B, q, d⟩ := x
  unfold WX.v at HAT
  dsimp only at hw0 hw1 hn h0 HAT HE
  have hm8 : m < 8 := by omega
  have hm64 : m < 64 := by omega
  cases y <;>
  (simp only [Bool.false_eq_true, if_false, if_true] at hand
   go_enter Try.func59, Try.ntmps59
   go_wp2_with fail
   go_region_held3 (fun W => W.cell? ⟨gn, 1, none⟩ = some (.int .i64 m) ∧ W.cell? ⟨gw, 0, none⟩ = some (.slice A s c) ∧ W.cell? ⟨gw, 1, none⟩ = some (.slice B q d))
     (first | exact HE.out _ (Below.refl _ _) | exact HE.out _ (Below.refl _ _).drew | exact HE.out _ HB2.out | go_keep)
     (first
       | (go_at_call 14; refine (HAT.out _ (by first | exact (Below.refl _ _).drew | exact Below.refl _ _)).mono ?_; rintro e2 w2 ⟨rfl, hb2⟩; have HB2 : Hid (Below w.heap.size w w2) := Lib.hid ((Below.refl w.heap.size w).drew.trans hb2); clear hb2)
       | fail)
   all_goals
     go_wp2
     go_ret
     exact ⟨rfl, HB2.out⟩)
end Go.Proofs.Ytophajljjnjcdaa.wd
