/- The program's copied, from, period. -/
import Derived.Test.YtophajljjnjcdaaWdConcat
import Derived.Deep.RegionHeld3
namespace Go.Proofs.Ytophajljjnjcdaa.wd
open Go.ChangeShapes Go.WideShapes Go.ChangeAt Go.RowKit Go.Deep sr lt nf

theorem results_cell {fn : Func} {p : Tmp} {ty : TypeId} (h : fn.results = #[.cell p ty]) (tmps : Array Value) (P : Program) (w : World) :
    (results fn tmps).run P w = ((asAddr (tmps.getD p undef)).run P w).andThen fun a w₁ => (loadVar ty a).run P w₁ := by
  simp only [results, h]
  simp [Sem.run_bind, Result.andThen]
/-- What a call leaves that hands back a word. -/
def WordP (w : World) (st lp : List Int) (e : Ending) (w' : World) : Prop := ∃ X : WX, e = .returned X.v ∧ WdR w' X st lp ∧ Below w.heap.size w w' ∧ (∀ a, X.A = some a → w.heap.size ≤ a.block) ∧ ∀ a, X.B = some a → w.heap.size ≤ a.block
/-- The numbers of a row are of 64 bits. -/
def U64 (l : List Int) : Prop := ∀ i, i < l.length → 0 ≤ l.getD i 0 ∧ l.getD i 0 < 18446744073709551616
theorem u64_take {l : List Int} (h : U64 l) (n : Nat) : U64 (l.take n) := fun i hi => by
  have h2 : i < n ∧ i < l.length := by simp at hi; omega
  have := h i h2.2
  simpa [List.getD, List.getElem?_take, h2.1] using this
theorem u64_drop {l : List Int} (h : U64 l) (n : Nat) : U64 (l.drop n) := fun i hi => by
  have h2 : n + i < l.length := by simp at hi; omega
  have := h (n + i) h2
  simpa [List.getD] using this
theorem u64_app {a b : List Int} (h : U64 a) (k : U64 b) : U64 (a ++ b) := fun i hi => by
  by_cases h1 : i < a.length
  · have := h i h1
    simpa [List.getD, List.getElem?_append_left h1] using this
  · have := k (i - a.length) (by simp at hi; omega)
    simpa [List.getD, List.getElem?_append_right (Nat.le_of_not_lt h1)] using this
theorem u64_from {lo : List Int} (h : U64 lo) (z : Int) : U64 (fromF lo z) := u64_app (u64_drop h _) (u64_take h _)
/-- Two rows that were made are a word. -/
theorem NewU.word {w0 w1 W : World} {n m : Nat} {st lp : List Int} {A B : Option Addr} {c d : Nat} (h1 : n = st.length) (h2 : m = lp.length) (r1 : UA W A st) (r2 : UA W B lp) (c1 : n ≤ c) (c2 : m ≤ d) (k1 : c ≤ 9223372036854775807) (k2 : d ≤ 9223372036854775807) (b1 : n ≤ 1000) (b2 : m ≤ 1000) (u1 : U64 st) (u2 : U64 lp) : WdR W ⟨A, n, c, B, m, d⟩ st lp :=
  ⟨h1, h2, r1, r2, c1, c2, k1, k2, b1, b2, u1, u2⟩
/-- A word stored into the result's cell. -/
theorem put_word {W : World} {rb : Nat} {f : Nat → Value} (h : W.rowIs rb 24 2 f) (v0 v1 : Value) : ∃ W2, (W.setCell ⟨rb, 0, none⟩ v0).setCell ⟨rb, 1, none⟩ v1 = W2 ∧ W2.cell? ⟨rb, 0, none⟩ = some v0 ∧ W2.cell? ⟨rb, 1, none⟩ = some v1 ∧ Turn (· = rb) W W2 ∧
    W.cell? ⟨rb, 0, none⟩ = some (f 0) ∧ (W.setCell ⟨rb, 0, none⟩ v0).cell? ⟨rb, 1, none⟩ = some (f 1) ∧ W.frozen? ⟨rb, 0, none⟩ = false ∧ (W.setCell ⟨rb, 0, none⟩ v0).frozen? ⟨rb, 1, none⟩ = false ∧ W.cell? ⟨rb, 1, none⟩ = some (f 1) ∧ W.frozen? ⟨rb, 1, none⟩ = false := by
  have h1 := h.set 0 v0
  have h2 := h1.set 1 v1
  have e1 := h1.cell (i := 1) (by decide)
  have e2 := h2.cell (i := 0) (by decide)
  have e3 := h2.cell (i := 1) (by decide)
  exact ⟨_, rfl, by simpa using e2, by simpa using e3, ((Turn.refl (· = rb) W).set ⟨rb, 0, none⟩ _ rfl).set ⟨rb, 1, none⟩ _ rfl, h.cell (by decide), by simpa using e1, h.frozen 0, h1.frozen 1, h.cell (by decide), h.frozen 1⟩
theorem UA.turn {T : Nat → Prop} {w w' : World} {A : Option Addr} {l : List Int} (h : UA w A l) (k : Turn T w w') (hT : ∀ a, A = some a → ¬ T a.block) : UA w' A l := fun hn => by
  obtain ⟨b, off, e, hb, hc⟩ := h hn
  exact ⟨b, off, e, Nat.lt_of_lt_of_le hb k.size, fun i hi => (k.cell (p := ⟨b, off + i, none⟩) hb (hT ⟨b, off, none⟩ e)).trans (hc i hi)⟩
/-- The two blocks that a call makes first: the word's box, the result's cell. -/
theorem two_blocks (w : World) (v0 v1 : Value) : ∃ w2, (w.alloc (.cells #[v0, v1] 24)).alloc (.cells #[.slice none 0 0, .slice none 0 0] 24) = w2 ∧ Hid (Below w.heap.size w w2) ∧ Hid (w2.heap.size = w.heap.size + 2) ∧
    Hid (∀ W, Below w2.heap.size w2 W → W.cell? ⟨w.heap.size, 0, none⟩ = some v0 ∧ W.cell? ⟨w.heap.size, 1, none⟩ = some v1 ∧ W.rowIs (w.heap.size + 1) 24 2 (fun _ => .slice none 0 0)) := by
  obtain ⟨u1, hu1⟩ : ∃ u1, w.alloc (.cells #[v0, v1] 24) = u1 := ⟨_, rfl⟩
  obtain ⟨u2, hu2⟩ : ∃ u2, u1.alloc (.cells #[.slice none 0 0, .slice none 0 0] 24) = u2 := ⟨_, rfl⟩
  have z1 : u1.heap.size = w.heap.size + 1 := by rw [← hu1]; simp
  have z2 : u2.heap.size = w.heap.size + 2 := by rw [← hu2]; simp [z1]
  have b1 : Below w.heap.size w u1 := by rw [← hu1]; exact below_one _ _
  have b2 : Below u1.heap.size u1 u2 := by rw [← hu2]; exact below_one _ _
  refine ⟨u2, by rw [hu1, hu2], Lib.hid (b1.trans (b2.mono (by omega))), Lib.hid z2, Lib.hid (fun W hW => ?_)⟩
  have k1 : Below u1.heap.size u1 W := b2.trans (hW.mono (by omega))
  refine ⟨(k1.cell (p := ⟨w.heap.size, 0, none⟩) (by show w.heap.size < _; omega)).trans (by rw [← hu1]; exact World.cell?_alloc_at _ _ _ _ (by simp)), (k1.cell (p := ⟨w.heap.size, 1, none⟩) (by show w.heap.size < _; omega)).trans (by rw [← hu1]; exact World.cell?_alloc_at _ _ _ _ (by simp)), ?_⟩
  have hr : u2.rowIs (w.heap.size + 1) 24 2 (fun _ => .slice none 0 0) := by
    rw [← z1, ← hu2]
    exact World.rowIs_alloc u1 #[.slice none 0 0, .slice none 0 0] _ (fun _ => .slice none 0 0) (fun i hi => by
      have : i = 0 ∨ i = 1 := by simp at hi; omega
      rcases this with rfl | rfl <;> rfl)
  exact hr.of_block (hW.block _ hr.lt)
/-- What is left, where a word was stored into the result's cell. -/
theorem word_end {w w2 W W5 : World} {st lp : List Int} {A B : Option Addr} {n c m d : Nat} (hB2 : Below w.heap.size w w2) (hS2 : w2.heap.size = w.heap.size + 2) (hW : Below w2.heap.size w2 W) (ht : Turn (· = w.heap.size + 1) W W5) (hX : WdR W ⟨A, n, c, B, m, d⟩ st lp)
    (nA : ∀ a, A = some a → w2.heap.size ≤ a.block) (nB : ∀ a, B = some a → w2.heap.size ≤ a.block) : WordP w st lp (.returned (.agg #[.slice A n c, .slice B m d])) W5 :=
  ⟨⟨A, n, c, B, m, d⟩, rfl, { hX with r1 := hX.r1.turn ht (fun a ha => by have := nA a ha; omega), r2 := hX.r2.turn ht (fun a ha => by have := nB a ha; omega) },
    hB2.trans ((hW.mono hB2.size).trans ((ht.below (B := w.heap.size) (fun q hq => by omega) (by have := hW.size; omega)).mono (by have := hW.size; omega))), fun a ha => by have := nA a ha; omega, fun a ha => by have := nB a ha; omega⟩
set_option maxRecDepth 20000 in
set_option maxHeartbeats 2000000 in
theorem copied_any (x : WX) (st lp : List Int) (w : World) (hX : WdR w x st lp) : Calls Try.prog 35 #[x.v] w (WordP w st lp) := by
  have HX := Lib.hid hX
  have b1 := hX.b1
  have b2 := hX.b2
  clear hX
  obtain ⟨A, n, c, B, m, d⟩ := x
  unfold WX.v
  dsimp only at b1 b2 ⊢
  obtain ⟨w2, HW2, HB2, HS2, HC2⟩ := two_blocks w (.slice A n c) (.slice B m d)
  have HK1 : Hid (∀ W, Below w2.heap.size w2 W → Calls Try.prog 37 #[.slice A n c] W (NewU W n st)) := Lib.hid (fun W hW => clone_any A c n st W HX.out.n1 (HX.out.r1.below (HB2.out.trans (hW.mono HB2.out.size))) (by omega))
  have HK2 : Hid (∀ W, Below w2.heap.size w2 W → Calls Try.prog 37 #[.slice B m d] W (NewU W m lp)) := Lib.hid (fun W hW => clone_any B d m lp W HX.out.n2 (HX.out.r2.below (HB2.out.trans (hW.mono HB2.out.size))) (by omega))
  have HS : Hid (∀ W, Below w2.heap.size w2 W → W.cell? ⟨w.heap.size, 0, none⟩ = some (.slice A n c) ∧ W.cell? ⟨w.heap.size, 1, none⟩ = some (.slice B m d)) := Lib.hid (fun W hW => ⟨(HC2.out W hW).1, (HC2.out W hW).2.1⟩)
  go_enter Try.func35, Try.ntmps35
  go_upto_region 1 with (fail)
  clear HW2
  go_region_held3 (fun W => W.cell? ⟨w.heap.size, 0, none⟩ = some (.slice A n c) ∧ W.cell? ⟨w.heap.size, 1, none⟩ = some (.slice B m d))
    (first | exact HS.out _ (Below.refl _ _) | exact HS.out _ (Below.refl _ _).drew | exact HS.out _ HB4.out | exact HS.out _ HB3.out | exact HS5.out | go_keep)
    (first
      | (have hk3 := HB3.out; go_at_call 37; refine (HK2.out _ (by exact HB3.out)).mono ?_; rintro e4 w4 ⟨hl4, A4, c4, rfl, hu4, hc4, hm4, hb4, hn4⟩; have HU4 := Lib.hid hu4; have HC4 := Lib.hid hc4; have HM4 := Lib.hid hm4; have HB4 : Hid (Below w2.heap.size w2 w4) := Lib.hid (HB3.out.trans (hb4.mono HB3.out.size)); have HN4 := Lib.hid hn4; have HU34 := Lib.hid (HU3.out.below hb4); have HSZ := Lib.hid HB3.out.size; clear hl4 hu4 hc4 hm4 hb4 hn4 hk3; obtain ⟨w5, HW5, e0, e1, ht5, d0, d1, f0, f1, d2, f2⟩ := put_word ((HC2.out _ HB4.out).2.2) (.slice A3 n c3) (.slice A4 m c4); have HT5 := Lib.hid ht5; clear ht5; have HS5 : Hid (w5.cell? ⟨w.heap.size, 0, none⟩ = some (.slice A n c) ∧ w5.cell? ⟨w.heap.size, 1, none⟩ = some (.slice B m d)) := Lib.hid ⟨(HT5.out.cell (p := ⟨w.heap.size, 0, none⟩) (by have := HB4.out.size; have := HS2.out; show w.heap.size < _; omega) (by show ¬ w.heap.size = w.heap.size + 1; omega)).trans (HS.out _ HB4.out).1, (HT5.out.cell (p := ⟨w.heap.size, 1, none⟩) (by have := HB4.out.size; have := HS2.out; show w.heap.size < _; omega) (by show ¬ w.heap.size = w.heap.size + 1; omega)).trans (HS.out _ HB4.out).2⟩)
      | (go_at_call 37; refine (HK1.out _ (by first | exact (Below.refl _ _).drew | exact Below.refl _ _)).mono ?_; rintro e3 w3 ⟨hl3, A3, c3, rfl, hu3, hc3, hm3, hb3, hn3⟩; have HU3 := Lib.hid hu3; have HC3 := Lib.hid hc3; have HM3 := Lib.hid hm3; have HB3 : Hid (Below w2.heap.size w2 w3) := Lib.hid (by first | exact (Below.refl w2.heap.size w2).drew.trans hb3 | exact hb3); have HN3 : Hid (∀ a, A3 = some a → w2.heap.size ≤ a.block) := Lib.hid hn3; clear hl3 hu3 hc3 hm3 hb3 hn3)
      | fail)
  all_goals
    try rw [HW5]
    clear HW5 d0 d1 d2 f0 f1 f2
    go_wp2
    (try simp only [Exit.inBlock, Exit.then])
    refine bodyPost_ret (v := .agg #[.slice A3 n c3, .slice A4 m c4]) ?_ rfl ?_
    · rw [results_cell rfl]; go_simp
    · exact word_end HB2.out HS2.out HB4.out HT5.out (NewU.word (w0 := w) (w1 := w) HX.out.n1 HX.out.n2 HU34.out HU4.out HC3.out HC4.out HM3.out HM4.out b1 b2 HX.out.u1 HX.out.u2) HN3.out (fun a ha => by have := HN4.out a ha; have := HSZ.out; omega)
end Go.Proofs.Ytophajljjnjcdaa.wd
