/- The program's row: at which places a node is satisfied, by what is told of its parts. -/
import Derived.Test.YtophajljjnjcdaaWdClos
namespace Go.Proofs.Ytophajljjnjcdaa.wd
open Go.ChangeShapes Go.WideShapes Go.ChangeAt Go.RowKit Go.Deep sr lt nf

/-- A row of n bools that the call made. -/
def OwnN (w : World) (n : Nat) (L : List Bool) (e : Ending) (w' : World) : Prop := L.length = n ∧ ∃ b, e = .returned (.slice (some ⟨b, 0, none⟩) n n) ∧ w.heap.size ≤ b ∧ w'.rowIs b 4 n (fun j => .bool (L.getD j false)) ∧ Below w.heap.size w w'
theorem OwnB.own {w w' : World} {n : Nat} {L : List Bool} {e : Ending} (hn : L.length = n) (h : OwnB w L e w') : OwnN w n L e w' := by
  subst hn
  exact ⟨rfl, h⟩
theorem one_len (x : Int × Int) (sets : List Int) (s : Nat) (a b : List Bool) {n : Nat} (h : sets.length = n) : ((List.range n).map (oneF x sets s a b)).length = n := by simp
set_option maxRecDepth 20000 in
set_option maxHeartbeats 4000000 in
theorem row_any (x : WX) (st lp sets : List Int) (op N : Int) (a b : List Bool) (n nr cr nl cl : Nat) (Ar Al : Option Addr) (w : World) (hX : WdR w x st lp) (hn : x.n + x.m = n) (h0 : 0 < x.m) (hsets : st ++ lp = sets) (hk : 0 ≤ kT op) (hN : op = 3 → 0 ≤ N ∧ N < 8)
    (g1 : 1 ≤ kT op → nr = n ∧ BL w Ar (if kT op = 1 then a else b)) (ga : 1 ≤ kT op → a.length = n) (gb : kT op = 2 → b.length = n ∧ nl = n ∧ BL w Al a) :
    Calls Try.prog 48 #[x.v, .agg #[.int .i64 op, .int .i64 N], .slice Ar nr cr, .slice Al nl cl] w (OwnN w n (plF (op, N) sets x.n a b)) := by
  have hsl : sets.length = n := by rw [← hsets, List.length_append]; have := hX.n1; have := hX.n2; omega
  have HAS : Hid (∀ k : Nat, k < n → atF st lp k = sets.getD k 0) := Lib.hid (fun k hk => by rw [← hsets]; exact at_sets (by have := hX.n1; have := hX.n2; omega))
  have HX := Lib.hid hX
  have h1 := hX.b1
  have h2 := hX.b2
  have hLA := fun w => len_any x w h1 h2
  clear hX hsets
  obtain ⟨A, s, c, B, q, d⟩ := x
  unfold WX.v at hLA ⊢
  dsimp only at h1 h2 hn h0 hLA ⊢
  have hsn : s < n := by omega
  rw [hn] at hLA
  have HLA := Lib.hid hLA
  clear hLA
  obtain ⟨w4, HW4, HB4, HS4, HC4⟩ : ∃ w4, (((w.alloc (.cells #[.slice A s c, .slice B q d] 24)).alloc (.cells #[.int .i64 op, .int .i64 N] 44)).alloc (.cells #[.slice Ar nr cr] 36)).alloc (.cells #[.slice Al nl cl] 36) = w4 ∧ Hid (Below w.heap.size w w4) ∧ Hid (w4.heap.size = w.heap.size + 4) ∧
      Hid (∀ W, Below w4.heap.size w4 W → W.cell? ⟨w.heap.size, 0, none⟩ = some (.slice A s c) ∧ W.cell? ⟨w.heap.size, 1, none⟩ = some (.slice B q d) ∧ W.cell? ⟨w.heap.size + 1, 0, none⟩ = some (.int .i64 op) ∧ W.cell? ⟨w.heap.size + 1, 1, none⟩ = some (.int .i64 N) ∧ W.cell? ⟨w.heap.size + 2, 0, none⟩ = some (.slice Ar nr cr) ∧ W.cell? ⟨w.heap.size + 3, 0, none⟩ = some (.slice Al nl cl)) := by
    obtain ⟨u1, hu1⟩ : ∃ u1, w.alloc (.cells #[.slice A s c, .slice B q d] 24) = u1 := ⟨_, rfl⟩
    obtain ⟨u2, hu2⟩ : ∃ u2, u1.alloc (.cells #[.int .i64 op, .int .i64 N] 44) = u2 := ⟨_, rfl⟩
    obtain ⟨u3, hu3⟩ : ∃ u3, u2.alloc (.cells #[.slice Ar nr cr] 36) = u3 := ⟨_, rfl⟩
    obtain ⟨u4, hu4⟩ : ∃ u4, u3.alloc (.cells #[.slice Al nl cl] 36) = u4 := ⟨_, rfl⟩
    have z1 : u1.heap.size = w.heap.size + 1 := by rw [← hu1]; simp
    have z2 : u2.heap.size = w.heap.size + 2 := by rw [← hu2]; simp [z1]
    have z3 : u3.heap.size = w.heap.size + 3 := by rw [← hu3]; simp [z2]
    have z4 : u4.heap.size = w.heap.size + 4 := by rw [← hu4]; simp [z3]
    have b1 : Below w.heap.size w u1 := by rw [← hu1]; exact below_one _ _
    have b2 : Below u1.heap.size u1 u2 := by rw [← hu2]; exact below_one _ _
    have b3 : Below u2.heap.size u2 u3 := by rw [← hu3]; exact below_one _ _
    have b4 : Below u3.heap.size u3 u4 := by rw [← hu4]; exact below_one _ _
    have c34 := b4
    have c24 : Below u2.heap.size u2 u4 := b3.trans (b4.mono (by omega))
    have c14 : Below u1.heap.size u1 u4 := b2.trans (c24.mono (by omega))
    refine ⟨u4, by rw [hu1, hu2, hu3, hu4], Lib.hid (b1.trans (c14.mono (by omega))), Lib.hid z4, Lib.hid (fun W hW => ?_)⟩
    have k1 := c14.trans (hW.mono (by omega))
    have k2 := c24.trans (hW.mono (by omega))
    have k3 := c34.trans (hW.mono (by omega))
    refine ⟨(k1.cell (p := ⟨w.heap.size, 0, none⟩) (by show w.heap.size < _; omega)).trans (by rw [← hu1]; exact World.cell?_alloc_at _ _ _ _ (by simp)), (k1.cell (p := ⟨w.heap.size, 1, none⟩) (by show w.heap.size < _; omega)).trans (by rw [← hu1]; exact World.cell?_alloc_at _ _ _ _ (by simp)),
      (k2.cell (p := ⟨w.heap.size + 1, 0, none⟩) (by show w.heap.size + 1 < _; omega)).trans (by rw [← z1, ← hu2]; exact World.cell?_alloc_at _ _ _ _ (by simp)), (k2.cell (p := ⟨w.heap.size + 1, 1, none⟩) (by show w.heap.size + 1 < _; omega)).trans (by rw [← z1, ← hu2]; exact World.cell?_alloc_at _ _ _ _ (by simp)),
      (k3.cell (p := ⟨w.heap.size + 2, 0, none⟩) (by show w.heap.size + 2 < _; omega)).trans (by rw [← z2, ← hu3]; exact World.cell?_alloc_at _ _ _ _ (by simp)),
      (hW.cell (p := ⟨w.heap.size + 3, 0, none⟩) (by show w.heap.size + 3 < _; omega)).trans (by rw [← z3, ← hu4]; exact World.cell?_alloc_at _ _ _ _ (by simp))⟩
  obtain ⟨y1, y2, y3, y4, y5, y6⟩ := HC4.out w4 (Below.refl _ _)
  have hop : op = 1 ∨ op = 2 ∨ op = 3 ∨ op = 4 ∨ op = 5 ∨ op = 6 ∨ op = 7 ∨ op = 8 ∨ op = 9 ∨ op = 10 ∨ op = 11 ∨ op = 12 := by
    rcases kT_cases op with ⟨_, h⟩ | ⟨_, h⟩ | ⟨_, h⟩ | ⟨h, _⟩ <;> omega
  have HSS := Lib.hid hsl
  have HKN := Lib.hid hn
  clear hsl hn hk
  rcases hop with rfl | rfl | rfl | rfl | rfl | rfl | rfl | rfl | rfl | rfl | rfl | rfl
  · clear g1 ga gb
    clear hN
    obtain ⟨L, HL⟩ : ∃ L, Hid (plF (1, N) sets s a b = L) := ⟨_, Lib.hid rfl⟩
    rw [HL.out]
    have HLL : Hid (L = (List.range n).map (oneF (1, N) sets s a b)) := Lib.hid (by rw [← HL.out, pl_one (by decide : (1 : Int) ≠ 9 ∧ (1 : Int) ≠ 10 ∧ (1 : Int) ≠ 11 ∧ (1 : Int) ≠ 12), HSS.out])
    have HLN : Hid (L.length = n) := Lib.hid (by rw [HLL.out]; simp)
    have HCALL : Hid (Calls Try.prog 57 #[.agg #[.slice A s c, .slice B q d], .func (.func 58) #[] #[]] w4 (OwnN w4 n L)) := Lib.hid (by
      refine (Calls.mono (each_any 58 #[] ⟨A, s, c, B, q, d⟩ n (oneF (1, N) sets s a b) w4 h1 h2 HKN.out (enters_of Try.func58 (by kernel_rfl) rfl) (fun k W hk hW => ?_)) ?_)
      rotate_left
      · rintro e w' h
        rw [HLL.out]
        exact h.own (by rw [← HLL.out]; exact HLN.out)
      obtain ⟨p1, p2, p3, p4, p5, p6⟩ := HC4.out W hW
      exact row1_any n k W hk)
    clear HL HLL HAS HX HLA
    go_enter Try.func48, Try.ntmps48
    go_upto_region 1 with (fail)
    clear HW4
    go_wp2_with fail
    refine HCALL.out.mono ?_
    rintro e5 w5 ⟨_, p, rfl, hp, hr, hb⟩
    have HR := Lib.hid hr
    have HP := Lib.hid hp
    have HB := Lib.hid hb
    clear hr hp hb y1 y2 y3 y4 y5 y6 HCALL
    go_wp2
    go_ret
    exact ⟨HLN.out, p, rfl, by have := HP.out; have := HS4.out; omega, HR.out, HB4.out.trans (HB.out.mono HB4.out.size)⟩
  · clear g1 ga gb
    clear hN
    obtain ⟨L, HL⟩ : ∃ L, Hid (plF (2, N) sets s a b = L) := ⟨_, Lib.hid rfl⟩
    rw [HL.out]
    have HLL : Hid (L = (List.range n).map (fun _ => false)) := Lib.hid (by rw [← HL.out, pl_one (by decide : (2 : Int) ≠ 9 ∧ (2 : Int) ≠ 10 ∧ (2 : Int) ≠ 11 ∧ (2 : Int) ≠ 12), HSS.out]; rfl)
    have hn2 : n ≤ 2000 := by have := HKN.out; omega
    have hmk := wd_mk n (by omega)
    clear HL
    go_enter Try.func48, Try.ntmps48
    go_upto_region 1 with (fail)
    clear HW4
    go_wp2_with fail
    refine (HLA.out _).mono ?_
    rintro e5 w5 ⟨rfl, hb5⟩
    have HB5 := Lib.hid hb5
    clear hb5 y1 y2 y3 y4 y5 y6
    obtain ⟨w6, HW6, HB6, HR6, HS6⟩ : ∃ w6, w5.alloc (.cells (madeCells #[.bool false] n) 4) = w6 ∧ Hid (Below w.heap.size w w6) ∧ Hid (w6.rowIs w5.heap.size 4 n (fun _ => .bool false)) ∧ Hid (w.heap.size ≤ w5.heap.size) :=
      ⟨_, rfl, Lib.hid ((HB4.out.trans (HB5.out.mono HB4.out.size)).alloc (by have := HB4.out.size; have := HB5.out.size; omega) _), Lib.hid (World.rowIs_made w5 (.bool false) n 4), Lib.hid (by have := HB4.out.size; have := HB5.out.size; omega)⟩
    have hmk2 := hmk w5
    rw [HW6] at hmk2
    clear hmk HW6
    generalize w5.heap.size = p at *
    go_wp2
    go_ret
    refine ⟨by rw [HLL.out]; simp, p, rfl, HS6.out, HR6.out.congr (fun j hj => by rw [HLL.out, range_get hj]), HB6.out⟩
  · clear g1 ga gb
    have hN := hN rfl
    obtain ⟨L, HL⟩ : ∃ L, Hid (plF (3, N) sets s a b = L) := ⟨_, Lib.hid rfl⟩
    rw [HL.out]
    have HLL : Hid (L = (List.range n).map (oneF (3, N) sets s a b)) := Lib.hid (by rw [← HL.out, pl_one (by decide : (3 : Int) ≠ 9 ∧ (3 : Int) ≠ 10 ∧ (3 : Int) ≠ 11 ∧ (3 : Int) ≠ 12), HSS.out])
    have HLN : Hid (L.length = n) := Lib.hid (by rw [HLL.out]; simp)
    have HCALL : Hid (Calls Try.prog 57 #[.agg #[.slice A s c, .slice B q d], .func (.func 59) #[] #[.pointer (some ⟨w.heap.size, 0, none⟩), .pointer (some ⟨w.heap.size + 1, 0, none⟩)]] w4 (OwnN w4 n L)) := Lib.hid (by
      refine (Calls.mono (each_any 59 #[.pointer (some ⟨w.heap.size, 0, none⟩), .pointer (some ⟨w.heap.size + 1, 0, none⟩)] ⟨A, s, c, B, q, d⟩ n (oneF (3, N) sets s a b) w4 h1 h2 HKN.out (enters_of Try.func59 (by kernel_rfl) rfl) (fun k W hk hW => ?_)) ?_)
      rotate_left
      · rintro e w' h
        rw [HLL.out]
        exact h.own (by rw [← HLL.out]; exact HLN.out)
      obtain ⟨p1, p2, p3, p4, p5, p6⟩ := HC4.out W hW
      have hg : oneF (3, N) sets s a b k = bitF (atF st lp k) N := by rw [HAS.out k hk]; rfl
      rw [hg]
      exact row2_any st lp N w.heap.size (w.heap.size + 1) n k ⟨A, s, c, B, q, d⟩ W (HX.out.below (HB4.out.trans (hW.mono HB4.out.size))) HKN.out h0 hk hN p1 p2 p4 (by have := hW.size; have := HS4.out; omega) (by have := hW.size; have := HS4.out; omega))
    clear HL HLL HAS HX HLA
    go_enter Try.func48, Try.ntmps48
    go_upto_region 1 with (fail)
    clear HW4
    go_wp2_with fail
    refine HCALL.out.mono ?_
    rintro e5 w5 ⟨_, p, rfl, hp, hr, hb⟩
    have HR := Lib.hid hr
    have HP := Lib.hid hp
    have HB := Lib.hid hb
    clear hr hp hb y1 y2 y3 y4 y5 y6 HCALL
    go_wp2
    go_ret
    exact ⟨HLN.out, p, rfl, by have := HP.out; have := HS4.out; omega, HR.out, HB4.out.trans (HB.out.mono HB4.out.size)⟩
  · obtain ⟨e1, k1⟩ := g1 (by decide)
    rw [if_pos (by decide)] at k1
    subst e1
    have ga := ga (by decide)
    have KR := Lib.hid k1
    have GA := Lib.hid ga
    clear k1 ga
    clear g1 gb
    clear hN
    obtain ⟨L, HL⟩ : ∃ L, Hid (plF (4, N) sets s a b = L) := ⟨_, Lib.hid rfl⟩
    rw [HL.out]
    have HLL : Hid (L = (List.range nr).map (oneF (4, N) sets s a b)) := Lib.hid (by rw [← HL.out, pl_one (by decide : (4 : Int) ≠ 9 ∧ (4 : Int) ≠ 10 ∧ (4 : Int) ≠ 11 ∧ (4 : Int) ≠ 12), HSS.out])
    have HLN : Hid (L.length = nr) := Lib.hid (by rw [HLL.out]; simp)
    have HCALL : Hid (Calls Try.prog 57 #[.agg #[.slice A s c, .slice B q d], .func (.func 60) #[] #[.pointer (some ⟨w.heap.size + 2, 0, none⟩)]] w4 (OwnN w4 nr L)) := Lib.hid (by
      refine (Calls.mono (each_any 60 #[.pointer (some ⟨w.heap.size + 2, 0, none⟩)] ⟨A, s, c, B, q, d⟩ nr (oneF (4, N) sets s a b) w4 h1 h2 HKN.out (enters_of Try.func60 (by kernel_rfl) rfl) (fun k W hk hW => ?_)) ?_)
      rotate_left
      · rintro e w' h
        rw [HLL.out]
        exact h.own (by rw [← HLL.out]; exact HLN.out)
      obtain ⟨p1, p2, p3, p4, p5, p6⟩ := HC4.out W hW
      have kr := KR.out.below (HB4.out.trans (hW.mono HB4.out.size))
      exact row3_any a Ar cr (w.heap.size + 2) nr k W hk p5 GA.out kr)
    clear HL HLL HAS HX HLA
    go_enter Try.func48, Try.ntmps48
    go_upto_region 1 with (fail)
    clear HW4
    go_wp2_with fail
    refine HCALL.out.mono ?_
    rintro e5 w5 ⟨_, p, rfl, hp, hr, hb⟩
    have HR := Lib.hid hr
    have HP := Lib.hid hp
    have HB := Lib.hid hb
    clear hr hp hb y1 y2 y3 y4 y5 y6 HCALL
    go_wp2
    go_ret
    exact ⟨HLN.out, p, rfl, by have := HP.out; have := HS4.out; omega, HR.out, HB4.out.trans (HB.out.mono HB4.out.size)⟩
  · obtain ⟨e1, k1⟩ := g1 (by decide)
    rw [if_neg (by decide)] at k1
    subst e1
    have ga := ga (by decide)
    have KR := Lib.hid k1
    have GA := Lib.hid ga
    clear k1 ga
    obtain ⟨e2, e3, k2⟩ := gb (by decide)
    subst e3
    have GB := Lib.hid e2
    have KL := Lib.hid k2
    clear e2 k2
    clear g1 gb
    clear hN
    obtain ⟨L, HL⟩ : ∃ L, Hid (plF (5, N) sets s a b = L) := ⟨_, Lib.hid rfl⟩
    rw [HL.out]
    have HLL : Hid (L = (List.range nl).map (oneF (5, N) sets s a b)) := Lib.hid (by rw [← HL.out, pl_one (by decide : (5 : Int) ≠ 9 ∧ (5 : Int) ≠ 10 ∧ (5 : Int) ≠ 11 ∧ (5 : Int) ≠ 12), HSS.out])
    have HLN : Hid (L.length = nl) := Lib.hid (by rw [HLL.out]; simp)
    have HCALL : Hid (Calls Try.prog 57 #[.agg #[.slice A s c, .slice B q d], .func (.func 61) #[] #[.pointer (some ⟨w.heap.size + 3, 0, none⟩), .pointer (some ⟨w.heap.size + 2, 0, none⟩)]] w4 (OwnN w4 nl L)) := Lib.hid (by
      refine (Calls.mono (each_any 61 #[.pointer (some ⟨w.heap.size + 3, 0, none⟩), .pointer (some ⟨w.heap.size + 2, 0, none⟩)] ⟨A, s, c, B, q, d⟩ nl (oneF (5, N) sets s a b) w4 h1 h2 HKN.out (enters_of Try.func61 (by kernel_rfl) rfl) (fun k W hk hW => ?_)) ?_)
      rotate_left
      · rintro e w' h
        rw [HLL.out]
        exact h.own (by rw [← HLL.out]; exact HLN.out)
      obtain ⟨p1, p2, p3, p4, p5, p6⟩ := HC4.out W hW
      have kr := KR.out.below (HB4.out.trans (hW.mono HB4.out.size))
      have kl := KL.out.below (HB4.out.trans (hW.mono HB4.out.size))
      exact row4_any a Al cl (w.heap.size + 3) b Ar cr (w.heap.size + 2) nl k W hk p6 GA.out kl p5 GB.out kr)
    clear HL HLL HAS HX HLA
    go_enter Try.func48, Try.ntmps48
    go_upto_region 1 with (fail)
    clear HW4
    go_wp2_with fail
    refine HCALL.out.mono ?_
    rintro e5 w5 ⟨_, p, rfl, hp, hr, hb⟩
    have HR := Lib.hid hr
    have HP := Lib.hid hp
    have HB := Lib.hid hb
    clear hr hp hb y1 y2 y3 y4 y5 y6 HCALL
    go_wp2
    go_ret
    exact ⟨HLN.out, p, rfl, by have := HP.out; have := HS4.out; omega, HR.out, HB4.out.trans (HB.out.mono HB4.out.size)⟩
  · obtain ⟨e1, k1⟩ := g1 (by decide)
    rw [if_neg (by decide)] at k1
    subst e1
    have ga := ga (by decide)
    have KR := Lib.hid k1
    have GA := Lib.hid ga
    clear k1 ga
    obtain ⟨e2, e3, k2⟩ := gb (by decide)
    subst e3
    have GB := Lib.hid e2
    have KL := Lib.hid k2
    clear e2 k2
    clear g1 gb
    clear hN
    obtain ⟨L, HL⟩ : ∃ L, Hid (plF (6, N) sets s a b = L) := ⟨_, Lib.hid rfl⟩
    rw [HL.out]
    have HLL : Hid (L = (List.range nl).map (oneF (6, N) sets s a b)) := Lib.hid (by rw [← HL.out, pl_one (by decide : (6 : Int) ≠ 9 ∧ (6 : Int) ≠ 10 ∧ (6 : Int) ≠ 11 ∧ (6 : Int) ≠ 12), HSS.out])
    have HLN : Hid (L.length = nl) := Lib.hid (by rw [HLL.out]; simp)
    have HCALL : Hid (Calls Try.prog 57 #[.agg #[.slice A s c, .slice B q d], .func (.func 62) #[] #[.pointer (some ⟨w.heap.size + 3, 0, none⟩), .pointer (some ⟨w.heap.size + 2, 0, none⟩)]] w4 (OwnN w4 nl L)) := Lib.hid (by
      refine (Calls.mono (each_any 62 #[.pointer (some ⟨w.heap.size + 3, 0, none⟩), .pointer (some ⟨w.heap.size + 2, 0, none⟩)] ⟨A, s, c, B, q, d⟩ nl (oneF (6, N) sets s a b) w4 h1 h2 HKN.out (enters_of Try.func62 (by kernel_rfl) rfl) (fun k W hk hW => ?_)) ?_)
      rotate_left
      · rintro e w' h
        rw [HLL.out]
        exact h.own (by rw [← HLL.out]; exact HLN.out)
      obtain ⟨p1, p2, p3, p4, p5, p6⟩ := HC4.out W hW
      have kr := KR.out.below (HB4.out.trans (hW.mono HB4.out.size))
      have kl := KL.out.below (HB4.out.trans (hW.mono HB4.out.size))
      exact row5_any a Al cl (w.heap.size + 3) b Ar cr (w.heap.size + 2) nl k W hk p6 GA.out kl p5 GB.out kr)
    clear HL HLL HAS HX HLA
    go_enter Try.func48, Try.ntmps48
    go_upto_region 1 with (fail)
    clear HW4
    go_wp2_with fail
    refine HCALL.out.mono ?_
    rintro e5 w5 ⟨_, p, rfl, hp, hr, hb⟩
    have HR := Lib.hid hr
    have HP := Lib.hid hp
    have HB := Lib.hid hb
    clear hr hp hb y1 y2 y3 y4 y5 y6 HCALL
    go_wp2
    go_ret
    exact ⟨HLN.out, p, rfl, by have := HP.out; have := HS4.out; omega, HR.out, HB4.out.trans (HB.out.mono HB4.out.size)⟩
  · obtain ⟨e1, k1⟩ := g1 (by decide)
    rw [if_neg (by decide)] at k1
    subst e1
    have ga := ga (by decide)
    have KR := Lib.hid k1
    have GA := Lib.hid ga
    clear k1 ga
    obtain ⟨e2, e3, k2⟩ := gb (by decide)
    subst e3
    have GB := Lib.hid e2
    have KL := Lib.hid k2
    clear e2 k2
    clear g1 gb
    clear hN
    obtain ⟨L, HL⟩ : ∃ L, Hid (plF (7, N) sets s a b = L) := ⟨_, Lib.hid rfl⟩
    rw [HL.out]
    have HLL : Hid (L = (List.range nl).map (oneF (7, N) sets s a b)) := Lib.hid (by rw [← HL.out, pl_one (by decide : (7 : Int) ≠ 9 ∧ (7 : Int) ≠ 10 ∧ (7 : Int) ≠ 11 ∧ (7 : Int) ≠ 12), HSS.out])
    have HLN : Hid (L.length = nl) := Lib.hid (by rw [HLL.out]; simp)
    have HCALL : Hid (Calls Try.prog 57 #[.agg #[.slice A s c, .slice B q d], .func (.func 63) #[] #[.pointer (some ⟨w.heap.size + 3, 0, none⟩), .pointer (some ⟨w.heap.size + 2, 0, none⟩)]] w4 (OwnN w4 nl L)) := Lib.hid (by
      refine (Calls.mono (each_any 63 #[.pointer (some ⟨w.heap.size + 3, 0, none⟩), .pointer (some ⟨w.heap.size + 2, 0, none⟩)] ⟨A, s, c, B, q, d⟩ nl (oneF (7, N) sets s a b) w4 h1 h2 HKN.out (enters_of Try.func63 (by kernel_rfl) rfl) (fun k W hk hW => ?_)) ?_)
      rotate_left
      · rintro e w' h
        rw [HLL.out]
        exact h.own (by rw [← HLL.out]; exact HLN.out)
      obtain ⟨p1, p2, p3, p4, p5, p6⟩ := HC4.out W hW
      have kr := KR.out.below (HB4.out.trans (hW.mono HB4.out.size))
      have kl := KL.out.below (HB4.out.trans (hW.mono HB4.out.size))
      exact row6_any a Al cl (w.heap.size + 3) b Ar cr (w.heap.size + 2) nl k W hk p6 GA.out kl p5 GB.out kr)
    clear HL HLL HAS HX HLA
    go_enter Try.func48, Try.ntmps48
    go_upto_region 1 with (fail)
    clear HW4
    go_wp2_with fail
    refine HCALL.out.mono ?_
    rintro e5 w5 ⟨_, p, rfl, hp, hr, hb⟩
    have HR := Lib.hid hr
    have HP := Lib.hid hp
    have HB := Lib.hid hb
    clear hr hp hb y1 y2 y3 y4 y5 y6 HCALL
    go_wp2
    go_ret
    exact ⟨HLN.out, p, rfl, by have := HP.out; have := HS4.out; omega, HR.out, HB4.out.trans (HB.out.mono HB4.out.size)⟩
  · obtain ⟨e1, k1⟩ := g1 (by decide)
    rw [if_pos (by decide)] at k1
    subst e1
    have ga := ga (by decide)
    have KR := Lib.hid k1
    have GA := Lib.hid ga
    clear k1 ga
    clear g1 gb
    clear hN
    obtain ⟨L, HL⟩ : ∃ L, Hid (plF (8, N) sets s a b = L) := ⟨_, Lib.hid rfl⟩
    rw [HL.out]
    have HLL : Hid (L = (List.range nr).map (oneF (8, N) sets s a b)) := Lib.hid (by rw [← HL.out, pl_one (by decide : (8 : Int) ≠ 9 ∧ (8 : Int) ≠ 10 ∧ (8 : Int) ≠ 11 ∧ (8 : Int) ≠ 12), HSS.out])
    have HLN : Hid (L.length = nr) := Lib.hid (by rw [HLL.out]; simp)
    have HCALL : Hid (Calls Try.prog 57 #[.agg #[.slice A s c, .slice B q d], .func (.func 64) #[] #[.pointer (some ⟨w.heap.size + 2, 0, none⟩), .pointer (some ⟨w.heap.size, 0, none⟩)]] w4 (OwnN w4 nr L)) := Lib.hid (by
      refine (Calls.mono (each_any 64 #[.pointer (some ⟨w.heap.size + 2, 0, none⟩), .pointer (some ⟨w.heap.size, 0, none⟩)] ⟨A, s, c, B, q, d⟩ nr (oneF (8, N) sets s a b) w4 h1 h2 HKN.out (enters_of Try.func64 (by kernel_rfl) rfl) (fun k W hk hW => ?_)) ?_)
      rotate_left
      · rintro e w' h
        rw [HLL.out]
        exact h.own (by rw [← HLL.out]; exact HLN.out)
      obtain ⟨p1, p2, p3, p4, p5, p6⟩ := HC4.out W hW
      have kr := KR.out.below (HB4.out.trans (hW.mono HB4.out.size))
      have hg : oneF (8, N) sets s a b k = a.getD (nxt s nr k) false := by rw [← HSS.out]; rfl
      rw [hg]
      exact row7_any a Ar cr (w.heap.size + 2) w.heap.size nr k ⟨A, s, c, B, q, d⟩ W hk p5 GA.out kr p1 p2 h1 h2 HKN.out h0 (by have := hW.size; have := HS4.out; omega) (by have := hW.size; have := HS4.out; omega))
    clear HL HLL HAS HX HLA
    go_enter Try.func48, Try.ntmps48
    go_upto_region 1 with (fail)
    clear HW4
    go_wp2_with fail
    refine HCALL.out.mono ?_
    rintro e5 w5 ⟨_, p, rfl, hp, hr, hb⟩
    have HR := Lib.hid hr
    have HP := Lib.hid hp
    have HB := Lib.hid hb
    clear hr hp hb y1 y2 y3 y4 y5 y6 HCALL
    go_wp2
    go_ret
    exact ⟨HLN.out, p, rfl, by have := HP.out; have := HS4.out; omega, HR.out, HB4.out.trans (HB.out.mono HB4.out.size)⟩
  · obtain ⟨e1, k1⟩ := g1 (by decide)
    rw [if_neg (by decide)] at k1
    subst e1
    have ga := ga (by decide)
    have KR := Lib.hid k1
    have GA := Lib.hid ga
    clear k1 ga
    obtain ⟨e2, e3, k2⟩ := gb (by decide)
    subst e3
    have GB := Lib.hid e2
    have KL := Lib.hid k2
    clear e2 k2
    clear g1 gb
    clear hN
    obtain ⟨L, HL⟩ : ∃ L, Hid (plF (9, N) sets s a b = L) := ⟨_, Lib.hid rfl⟩
    rw [HL.out]
    have HLL : Hid (L = bkF (stpF 9 a b) false s nl) := Lib.hid (by rw [← HL.out, ← bk_pl (q := N) (sets := sets) (by decide) (by rw [HSS.out]; exact hsn) (by rw [HSS.out]; exact GA.out) (fun _ => by rw [HSS.out]; exact GB.out), HSS.out]; rfl)
    have HLN : Hid (L.length = nl) := Lib.hid (by rw [HLL.out, bk_len])
    have HCALL : Hid (Calls Try.prog 66 #[.agg #[.slice A s c, .slice B q d], .bool false, .func (.func 67) #[] #[.pointer (some ⟨w.heap.size + 2, 0, none⟩), .pointer (some ⟨w.heap.size + 3, 0, none⟩)]] w4 (OwnN w4 nl L)) := Lib.hid (by
      refine (Calls.mono (back_any 67 #[.pointer (some ⟨w.heap.size + 2, 0, none⟩), .pointer (some ⟨w.heap.size + 3, 0, none⟩)] ⟨A, s, c, B, q, d⟩ nl false (stpF 9 a b) w4 h1 h2 HKN.out (enters_of Try.func67 (by kernel_rfl) rfl) (fun k e W hk hW => ?_)) ?_)
      rotate_left
      · rintro e w' h
        rw [HLL.out]
        exact h.own (by rw [← HLL.out]; exact HLN.out)
      obtain ⟨p1, p2, p3, p4, p5, p6⟩ := HC4.out W hW
      have kr := KR.out.below (HB4.out.trans (hW.mono HB4.out.size))
      have kl := KL.out.below (HB4.out.trans (hW.mono HB4.out.size))
      exact row8_any b Ar cr (w.heap.size + 2) a Al cl (w.heap.size + 3) nl k e W hk p5 GB.out kr p6 GA.out kl)
    clear HL HLL HAS HX HLA
    go_enter Try.func48, Try.ntmps48
    go_upto_region 1 with (fail)
    clear HW4
    go_wp2_with fail
    refine HCALL.out.mono ?_
    rintro e5 w5 ⟨_, p, rfl, hp, hr, hb⟩
    have HR := Lib.hid hr
    have HP := Lib.hid hp
    have HB := Lib.hid hb
    clear hr hp hb y1 y2 y3 y4 y5 y6 HCALL
    go_wp2
    go_ret
    exact ⟨HLN.out, p, rfl, by have := HP.out; have := HS4.out; omega, HR.out, HB4.out.trans (HB.out.mono HB4.out.size)⟩
  · obtain ⟨e1, k1⟩ := g1 (by decide)
    rw [if_neg (by decide)] at k1
    subst e1
    have ga := ga (by decide)
    have KR := Lib.hid k1
    have GA := Lib.hid ga
    clear k1 ga
    obtain ⟨e2, e3, k2⟩ := gb (by decide)
    subst e3
    have GB := Lib.hid e2
    have KL := Lib.hid k2
    clear e2 k2
    clear g1 gb
    clear hN
    obtain ⟨L, HL⟩ : ∃ L, Hid (plF (10, N) sets s a b = L) := ⟨_, Lib.hid rfl⟩
    rw [HL.out]
    have HLL : Hid (L = bkF (stpF 10 a b) true s nl) := Lib.hid (by rw [← HL.out, ← bk_pl (q := N) (sets := sets) (by decide) (by rw [HSS.out]; exact hsn) (by rw [HSS.out]; exact GA.out) (fun _ => by rw [HSS.out]; exact GB.out), HSS.out]; rfl)
    have HLN : Hid (L.length = nl) := Lib.hid (by rw [HLL.out, bk_len])
    have HCALL : Hid (Calls Try.prog 66 #[.agg #[.slice A s c, .slice B q d], .bool true, .func (.func 68) #[] #[.pointer (some ⟨w.heap.size + 2, 0, none⟩), .pointer (some ⟨w.heap.size + 3, 0, none⟩)]] w4 (OwnN w4 nl L)) := Lib.hid (by
      refine (Calls.mono (back_any 68 #[.pointer (some ⟨w.heap.size + 2, 0, none⟩), .pointer (some ⟨w.heap.size + 3, 0, none⟩)] ⟨A, s, c, B, q, d⟩ nl true (stpF 10 a b) w4 h1 h2 HKN.out (enters_of Try.func68 (by kernel_rfl) rfl) (fun k e W hk hW => ?_)) ?_)
      rotate_left
      · rintro e w' h
        rw [HLL.out]
        exact h.own (by rw [← HLL.out]; exact HLN.out)
      obtain ⟨p1, p2, p3, p4, p5, p6⟩ := HC4.out W hW
      have kr := KR.out.below (HB4.out.trans (hW.mono HB4.out.size))
      have kl := KL.out.below (HB4.out.trans (hW.mono HB4.out.size))
      exact row9_any b Ar cr (w.heap.size + 2) a Al cl (w.heap.size + 3) nl k e W hk p5 GB.out kr p6 GA.out kl)
    clear HL HLL HAS HX HLA
    go_enter Try.func48, Try.ntmps48
    go_upto_region 1 with (fail)
    clear HW4
    go_wp2_with fail
    refine HCALL.out.mono ?_
    rintro e5 w5 ⟨_, p, rfl, hp, hr, hb⟩
    have HR := Lib.hid hr
    have HP := Lib.hid hp
    have HB := Lib.hid hb
    clear hr hp hb y1 y2 y3 y4 y5 y6 HCALL
    go_wp2
    go_ret
    exact ⟨HLN.out, p, rfl, by have := HP.out; have := HS4.out; omega, HR.out, HB4.out.trans (HB.out.mono HB4.out.size)⟩
  · obtain ⟨e1, k1⟩ := g1 (by decide)
    rw [if_pos (by decide)] at k1
    subst e1
    have ga := ga (by decide)
    have KR := Lib.hid k1
    have GA := Lib.hid ga
    clear k1 ga
    clear g1 gb
    clear hN
    obtain ⟨L, HL⟩ : ∃ L, Hid (plF (11, N) sets s a b = L) := ⟨_, Lib.hid rfl⟩
    rw [HL.out]
    have HLL : Hid (L = bkF (stpF 11 a b) false s nr) := Lib.hid (by rw [← HL.out, ← bk_pl (q := N) (sets := sets) (by decide) (by rw [HSS.out]; exact hsn) (by rw [HSS.out]; exact GA.out) (fun h => absurd h (by decide)), HSS.out]; rfl)
    have HLN : Hid (L.length = nr) := Lib.hid (by rw [HLL.out, bk_len])
    have HCALL : Hid (Calls Try.prog 66 #[.agg #[.slice A s c, .slice B q d], .bool false, .func (.func 69) #[] #[.pointer (some ⟨w.heap.size + 2, 0, none⟩)]] w4 (OwnN w4 nr L)) := Lib.hid (by
      refine (Calls.mono (back_any 69 #[.pointer (some ⟨w.heap.size + 2, 0, none⟩)] ⟨A, s, c, B, q, d⟩ nr false (stpF 11 a b) w4 h1 h2 HKN.out (enters_of Try.func69 (by kernel_rfl) rfl) (fun k e W hk hW => ?_)) ?_)
      rotate_left
      · rintro e w' h
        rw [HLL.out]
        exact h.own (by rw [← HLL.out]; exact HLN.out)
      obtain ⟨p1, p2, p3, p4, p5, p6⟩ := HC4.out W hW
      have kr := KR.out.below (HB4.out.trans (hW.mono HB4.out.size))
      exact row10_any a Ar cr (w.heap.size + 2) nr k e W hk p5 GA.out kr)
    clear HL HLL HAS HX HLA
    go_enter Try.func48, Try.ntmps48
    go_upto_region 1 with (fail)
    clear HW4
    go_wp2_with fail
    refine HCALL.out.mono ?_
    rintro e5 w5 ⟨_, p, rfl, hp, hr, hb⟩
    have HR := Lib.hid hr
    have HP := Lib.hid hp
    have HB := Lib.hid hb
    clear hr hp hb y1 y2 y3 y4 y5 y6 HCALL
    go_wp2
    go_ret
    exact ⟨HLN.out, p, rfl, by have := HP.out; have := HS4.out; omega, HR.out, HB4.out.trans (HB.out.mono HB4.out.size)⟩
  · obtain ⟨e1, k1⟩ := g1 (by decide)
    rw [if_pos (by decide)] at k1
    subst e1
    have ga := ga (by decide)
    have KR := Lib.hid k1
    have GA := Lib.hid ga
    clear k1 ga
    clear g1 gb
    clear hN
    obtain ⟨L, HL⟩ : ∃ L, Hid (plF (12, N) sets s a b = L) := ⟨_, Lib.hid rfl⟩
    rw [HL.out]
    have HLL : Hid (L = bkF (stpF 12 a b) true s nr) := Lib.hid (by rw [← HL.out, ← bk_pl (q := N) (sets := sets) (by decide) (by rw [HSS.out]; exact hsn) (by rw [HSS.out]; exact GA.out) (fun h => absurd h (by decide)), HSS.out]; rfl)
    have HLN : Hid (L.length = nr) := Lib.hid (by rw [HLL.out, bk_len])
    have HCALL : Hid (Calls Try.prog 66 #[.agg #[.slice A s c, .slice B q d], .bool true, .func (.func 70) #[] #[.pointer (some ⟨w.heap.size + 2, 0, none⟩)]] w4 (OwnN w4 nr L)) := Lib.hid (by
      refine (Calls.mono (back_any 70 #[.pointer (some ⟨w.heap.size + 2, 0, none⟩)] ⟨A, s, c, B, q, d⟩ nr true (stpF 12 a b) w4 h1 h2 HKN.out (enters_of Try.func70 (by kernel_rfl) rfl) (fun k e W hk hW => ?_)) ?_)
      rotate_left
      · rintro e w' h
        rw [HLL.out]
        exact h.own (by rw [← HLL.out]; exact HLN.out)
      obtain ⟨p1, p2, p3, p4, p5, p6⟩ := HC4.out W hW
      have kr := KR.out.below (HB4.out.trans (hW.mono HB4.out.size))
      exact row11_any a Ar cr (w.heap.size + 2) nr k e W hk p5 GA.out kr)
    clear HL HLL HAS HX HLA
    go_enter Try.func48, Try.ntmps48
    go_upto_region 1 with (fail)
    clear HW4
    go_wp2_with fail
    refine HCALL.out.mono ?_
    rintro e5 w5 ⟨_, p, rfl, hp, hr, hb⟩
    have HR := Lib.hid hr
    have HP := Lib.hid hp
    have HB := Lib.hid hb
    clear hr hp hb y1 y2 y3 y4 y5 y6 HCALL
    go_wp2
    go_ret
    exact ⟨HLN.out, p, rfl, by have := HP.out; have := HS4.out; omega, HR.out, HB4.out.trans (HB.out.mono HB4.out.size)⟩
end Go.Proofs.Ytophajljjnjcdaa.wd
