/- The law's same; words written out. -/
import Derived.Test.YtophajljjnjcdaaWdSame
import Derived.Test.YtophajljjnjcdaaWdRefAt
import Derived.Test.YtophajljjnjcdaaWdTruth
namespace Go.Proofs.Ytophajljjnjcdaa.wd
open Go.ChangeShapes Go.WideShapes Go.ChangeAt Go.RowKit Go.Deep sr lt nf

theorem ua_lit (w : World) (l : List Int) (c : Array Value) (t : TypeId) (hc : c = (l.map (Value.int .u64)).toArray) : UA (w.alloc (.cells c t)) (some ⟨w.heap.size, 0, none⟩) l := fun _ => by
  have h := World.rowIs_alloc w c t (fun i => .int .u64 (l.getD i 0)) (fun i hi => by subst hc; simp at hi; simp [List.getD, hi])
  refine ⟨_, 0, rfl, h.lt, fun i hi => ?_⟩
  have := h.cell (i := i) (by subst hc; simpa using hi)
  rw [Nat.zero_add]; exact this
theorem u64_lit {l : List Int} (h : ∀ x ∈ l, 0 ≤ x ∧ x < 18446744073709551616) : U64 l := fun i hi => by
  have e : l.getD i 0 = l[i] := by simp [List.getD, hi]
  rw [e]
  exact h _ (List.getElem_mem hi)
/-- A word of no stem, written out. -/
theorem wd_one (w : World) (lp : List Int) (m : Nat) (c : Array Value) (hc : c = (lp.map (Value.int .u64)).toArray) (hm : m = lp.length) (hb : m ≤ 1000) (hu : ∀ x ∈ lp, 0 ≤ x ∧ x < 18446744073709551616) :
    WdR (w.alloc (.cells c 30)) ⟨none, 0, 0, some ⟨w.heap.size, 0, none⟩, m, m⟩ [] lp :=
  ⟨rfl, hm, fun h => absurd h (by simp), ua_lit w lp c _ hc, Nat.le_refl _, Nat.le_refl _, by dsimp only; omega, by dsimp only; omega, by dsimp only; omega, hb, fun i hi => absurd hi (by simp), u64_lit hu⟩
/-- A word written out. -/
theorem wd_two (w : World) (st lp : List Int) (n m : Nat) (c d : Array Value) (hc : c = (st.map (Value.int .u64)).toArray) (hd : d = (lp.map (Value.int .u64)).toArray) (hn : n = st.length) (hm : m = lp.length) (hb : n ≤ 1000) (hb2 : m ≤ 1000) (hu : ∀ x ∈ st, 0 ≤ x ∧ x < 18446744073709551616) (hu2 : ∀ x ∈ lp, 0 ≤ x ∧ x < 18446744073709551616) :
    WdR ((w.alloc (.cells c 30)).alloc (.cells d 30)) ⟨some ⟨w.heap.size, 0, none⟩, n, n, some ⟨w.heap.size + 1, 0, none⟩, m, m⟩ st lp := by
  have h2 := ua_lit (w.alloc (.cells c 30)) lp d 30 hd
  have e : (w.alloc (.cells c 30)).heap.size = w.heap.size + 1 := by simp
  rw [e] at h2
  exact ⟨hn, hm, (ua_lit w st c _ hc).below (below_one _ _), h2, Nat.le_refl _, Nat.le_refl _, by dsimp only; omega, by dsimp only; omega, hb, hb2, u64_lit hu, u64_lit hu2⟩
def weqB (st lp st2 lp2 : List Int) : Bool := eqB st st2 && eqB lp lp2
set_option maxRecDepth 20000 in
set_option maxHeartbeats 1000000 in
theorem lsame_any (x y : WX) (st lp st2 lp2 : List Int) (w : World) (hX : WdR w x st lp) (hY : WdR w y st2 lp2) : Calls Try.prog 21 #[x.v, y.v] w (ValP w (.bool (weqB st lp st2 lp2))) := by
  have HX := Lib.hid hX
  have HY := Lib.hid hY
  clear hX hY
  obtain ⟨A, n, c, B, m, d⟩ := x
  obtain ⟨C, n2, c2, D, m2, d2⟩ := y
  unfold WX.v
  dsimp only
  obtain ⟨w2, HW2, HB2, HS2, HRR⟩ := two_boxes w (.slice A n c) (.slice B m d) (.slice C n2 c2) (.slice D m2 d2)
  obtain ⟨r1, r2⟩ := HRR.out w2 (Below.refl _ _)
  have p1 : w2.cell? ⟨w.heap.size, 0, none⟩ = some (.slice A n c) := r1.cell (i := 0) (by decide)
  have p2 : w2.cell? ⟨w.heap.size, 1, none⟩ = some (.slice B m d) := r1.cell (i := 1) (by decide)
  have p3 : w2.cell? ⟨w.heap.size + 1, 0, none⟩ = some (.slice C n2 c2) := r2.cell (i := 0) (by decide)
  have p4 : w2.cell? ⟨w.heap.size + 1, 1, none⟩ = some (.slice D m2 d2) := r2.cell (i := 1) (by decide)
  have HE1 : Hid (Calls Try.prog 39 #[.slice A n c, .slice C n2 c2] w2 fun e w' => e = .returned (.bool (eqB st st2)) ∧ ∃ n, w' = w2.drewN n) := Lib.hid (by
    have k1 := HX.out.n1; have k2 := HY.out.n1; have k3 := HX.out.b1; have k4 := HY.out.b1
    dsimp only at k1 k2 k3 k4
    exact sets_any A C c c2 n n2 st st2 w2 k1 k2 (HX.out.r1.below HB2.out) (HY.out.r1.below HB2.out) (by unfold maxLen; omega) (by unfold maxLen; omega))
  have HE2 : Hid (∀ j, Calls Try.prog 39 #[.slice B m d, .slice D m2 d2] (w2.drewN j) fun e w' => e = .returned (.bool (eqB lp lp2)) ∧ ∃ n, w' = (w2.drewN j).drewN n) := Lib.hid (fun j => by
    have k1 := HX.out.n2; have k2 := HY.out.n2; have k3 := HX.out.b2; have k4 := HY.out.b2
    dsimp only at k1 k2 k3 k4
    exact sets_any B D d d2 m m2 lp lp2 (w2.drewN j) k1 k2 (HX.out.r2.below (w' := w2.drewN j) (below_drewN HB2.out j)) (HY.out.r2.below (w' := w2.drewN j) (below_drewN HB2.out j)) (by unfold maxLen; omega) (by unfold maxLen; omega))
  unfold weqB
  obtain ⟨b1, HBB1⟩ : ∃ b, Hid (eqB st st2 = b) := ⟨_, Lib.hid rfl⟩
  obtain ⟨b2, HBB2⟩ : ∃ b, Hid (eqB lp lp2 = b) := ⟨_, Lib.hid rfl⟩
  rw [HBB1.out, HBB2.out]
  rw [HBB1.out] at HE1
  rw [HBB2.out] at HE2
  clear r1 r2
  go_enter Try.func21, Try.ntmps21
  go_upto_region 1 with (fail)
  clear HW2
  cases b1
  · go_wp2_with fail
    refine HE1.out.mono ?_
    rintro e8 w8 ⟨rfl, j, rfl⟩
    go_wp2
    go_ret
    exact ⟨rfl, below_drewN HB2.out _⟩
  · go_wp2_with fail
    refine HE1.out.mono ?_
    rintro e8 w8 ⟨rfl, j, rfl⟩
    go_wp2_with fail
    refine (HE2.out _).mono ?_
    rintro e8 w8 ⟨rfl, j, rfl⟩
    go_wp2
    go_ret
    exact ⟨rfl, by first | exact below_drewN HB2.out _ | exact below_drewN (below_drewN HB2.out _) _⟩
def exF : List (Int × Int) := [(3, 0), (11, 0), (12, 0)]
theorem pa_ex (w : World) : PA (w.alloc (.cells #[.int .i64 3, .int .i64 0, .int .i64 11, .int .i64 0, .int .i64 12, .int .i64 0] 44)) (some ⟨w.heap.size, 0, none⟩) exF := fun _ => by
  refine ⟨_, 0, rfl, by simp, fun i hi => ?_⟩
  have hi : i < 3 := hi
  rcases i with _|_|_|i
  all_goals first
    | exact ⟨World.cell?_alloc_at _ _ _ _ rfl, World.cell?_alloc_at _ _ _ _ rfl⟩
    | omega
theorem ex_ok : okF exF 2 = true := by decide +kernel
theorem ex_t0 : trJ exF (outF exF exF.length) [1, 0] 0 0 = [true, false] := by decide +kernel
theorem ex_t2 : trJ exF (outF exF exF.length) [1, 0] 0 2 = [true, true] := by decide +kernel
theorem ex_at : atF [1] [0, 2] 4 = 2 := by decide +kernel
theorem ex_norm : nrmF [0, 2, 0] [2, 0, 2, 0] = ([], [0, 2]) := by decide +kernel
theorem ex_weq : weqB [] [0, 2] [] [0, 2] = true := by decide +kernel
theorem ex_holds : hdF exF [0, 2, 0, 2, 0, 2, 0] 3 4 = false := by decide +kernel
theorem ex_same : sameF [0, 2, 0] [2, 0, 2, 0] [] [0, 2] = true := by decide +kernel
theorem ex_shift : shfF [0, 2, 0] [2, 0, 2, 0] 4 = ([], [0, 2, 0, 2]) := by decide +kernel
theorem ex_weq2 : weqB [] [0, 2, 0, 2] [] [0, 2, 0, 2] = true := by decide +kernel
end Go.Proofs.Ytophajljjnjcdaa.wd
