/- The law DeclCells: of any variable over any scalars: how many cells it has, and from where to where its values are, is the document's, and nothing that was there is changed. No condition. -/
import Derived.Test.YtjciamefkacchaaDeclAwake
import Derived.Test.YtjciamefkacchaaDeclRef
import Derived.Test.YtjciamefkacchaaOpensD
import Derived.Deep.RegionHeld3
namespace Go.Proofs.Ytjciamefkacchaa.declCells
open Go.ChangeShapes Go.WideShapes Go.ChangeAt Go.RowKit Go.Proofs.Ytjciamefkacchaa.dcl

set_option maxHeartbeats 4000000 in
theorem walk (x : VarR) (X : SX) (s : List ScR) (w : World) (h : SL w X s) : Calls Try.prog 12 #[x.v, X.v] w (LawPost w) := by
  have HS := Lib.hid h
  have hsm := h.small
  clear h
  obtain ⟨x0, x1, x2, x3, x4, x5⟩ := x
  unfold VarR.v SX.v
  by_cases hl : 30 < X.m
  · go_enter Try.func12, Try.ntmps12
    go_wp2_with fail
    refine (awake_any _).mono ?_
    rintro e w1 ⟨rfl, hb⟩
    have HB : Hid (Below w.heap.size w w1) := Lib.hid (bthen (below_alloc1 _ _) hb)
    clear hb
    go_wp2
    go_ret
    exact ⟨rfl, HB.out⟩
  · obtain ⟨l, u, HBF⟩ : ∃ l u, Hid (boundsF s ⟨x0, x1, x2, x3, x4, x5⟩ = (l, u)) := ⟨_, _, Lib.hid rfl⟩
    obtain ⟨n, HCF⟩ : ∃ n, Hid (cellsF s ⟨x0, x1, x2, x3, x4, x5⟩ = n) := ⟨_, Lib.hid rfl⟩
    go_enter Try.func12, Try.ntmps12
    go_wp2_with fail
    refine (bounds_any X s ⟨x0, x1, x2, x3, x4, x5⟩ _ (HS.out.below (below_alloc1 _ _))).mono ?_
    rw [HBF.out]
    rintro e w1 ⟨rfl, hb1⟩
    have d0 : w1.cell? ⟨w.heap.size, 0, none⟩ = some (.string x0) := (hb1.cell (p := ⟨w.heap.size, 0, none⟩) (by simp)).trans (World.cell?_alloc_at _ _ _ _ rfl)
    have d1 : w1.cell? ⟨w.heap.size, 1, none⟩ = some (.int .i64 x1) := (hb1.cell (p := ⟨w.heap.size, 1, none⟩) (by simp)).trans (World.cell?_alloc_at _ _ _ _ rfl)
    have d2 : w1.cell? ⟨w.heap.size, 2, none⟩ = some (.int .i64 x2) := (hb1.cell (p := ⟨w.heap.size, 2, none⟩) (by simp)).trans (World.cell?_alloc_at _ _ _ _ rfl)
    have d3 : w1.cell? ⟨w.heap.size, 3, none⟩ = some (.int .i64 x3) := (hb1.cell (p := ⟨w.heap.size, 3, none⟩) (by simp)).trans (World.cell?_alloc_at _ _ _ _ rfl)
    have d4 : w1.cell? ⟨w.heap.size, 4, none⟩ = some (.int .i64 x4) := (hb1.cell (p := ⟨w.heap.size, 4, none⟩) (by simp)).trans (World.cell?_alloc_at _ _ _ _ rfl)
    have d5 : w1.cell? ⟨w.heap.size, 5, none⟩ = some (.int .i64 x5) := (hb1.cell (p := ⟨w.heap.size, 5, none⟩) (by simp)).trans (World.cell?_alloc_at _ _ _ _ rfl)
    have HZ : Hid (w.heap.size < w1.heap.size) := Lib.hid (Nat.lt_of_lt_of_le (by simp) hb1.size)
    have HB1 : Hid (Below w.heap.size w w1) := Lib.hid (bthen (below_alloc1 _ _) hb1)
    clear hb1
    go_wp2_with fail
    refine (refBounds_any X s ⟨x0, x1, x2, x3, x4, x5⟩ w1 (HS.out.below HB1.out)).mono ?_
    rw [HBF.out]
    rintro e w2 ⟨rfl, hb2⟩
    have e0 := (hb2.cell (p := ⟨w.heap.size, 0, none⟩) HZ.out).trans d0
    have e1 := (hb2.cell (p := ⟨w.heap.size, 1, none⟩) HZ.out).trans d1
    have e2 := (hb2.cell (p := ⟨w.heap.size, 2, none⟩) HZ.out).trans d2
    have e3 := (hb2.cell (p := ⟨w.heap.size, 3, none⟩) HZ.out).trans d3
    have e4 := (hb2.cell (p := ⟨w.heap.size, 4, none⟩) HZ.out).trans d4
    have e5 := (hb2.cell (p := ⟨w.heap.size, 5, none⟩) HZ.out).trans d5
    have HZ2 : Hid (w.heap.size < w2.heap.size) := Lib.hid (Nat.lt_of_lt_of_le HZ.out hb2.size)
    have HB2 : Hid (Below w.heap.size w w2) := Lib.hid (bthen HB1.out hb2)
    have HCC : Hid (w2.cell? ⟨w.heap.size, 0, none⟩ = some (.string x0) ∧ w2.cell? ⟨w.heap.size, 1, none⟩ = some (.int .i64 x1) ∧ w2.cell? ⟨w.heap.size, 2, none⟩ = some (.int .i64 x2) ∧ w2.cell? ⟨w.heap.size, 3, none⟩ = some (.int .i64 x3) ∧ w2.cell? ⟨w.heap.size, 4, none⟩ = some (.int .i64 x4) ∧ w2.cell? ⟨w.heap.size, 5, none⟩ = some (.int .i64 x5)) := Lib.hid ⟨e0, e1, e2, e3, e4, e5⟩
    have HKEEP : Hid (Below w2.heap.size w2 w2) := Lib.hid (Below.refl _ _)
    have hll : (l == l) = true := by simp
    have huu : (u == u) = true := by simp
    have hnn : (n == n) = true := by simp
    clear hb2 d0 d1 d2 d3 d4 d5 e0 e1 e2 e3 e4 e5
    go_upto_region 5 with (fail)
    go_region_held3 (fun w' => w'.cell? ⟨w.heap.size, 0, none⟩ = some (.string x0) ∧ w'.cell? ⟨w.heap.size, 1, none⟩ = some (.int .i64 x1) ∧ w'.cell? ⟨w.heap.size, 2, none⟩ = some (.int .i64 x2) ∧ w'.cell? ⟨w.heap.size, 3, none⟩ = some (.int .i64 x3) ∧ w'.cell? ⟨w.heap.size, 4, none⟩ = some (.int .i64 x4) ∧ w'.cell? ⟨w.heap.size, 5, none⟩ = some (.int .i64 x5))
      (first | exact ⟨(HKEEP.out.cell (p := ⟨w.heap.size, 0, none⟩) HZ2.out).trans HCC.out.1, (HKEEP.out.cell (p := ⟨w.heap.size, 1, none⟩) HZ2.out).trans HCC.out.2.1, (HKEEP.out.cell (p := ⟨w.heap.size, 2, none⟩) HZ2.out).trans HCC.out.2.2.1, (HKEEP.out.cell (p := ⟨w.heap.size, 3, none⟩) HZ2.out).trans HCC.out.2.2.2.1, (HKEEP.out.cell (p := ⟨w.heap.size, 4, none⟩) HZ2.out).trans HCC.out.2.2.2.2.1, (HKEEP.out.cell (p := ⟨w.heap.size, 5, none⟩) HZ2.out).trans HCC.out.2.2.2.2.2⟩ | go_keep)
      (first
        | (go_at_call 36; refine (cells_any X s ⟨x0, x1, x2, x3, x4, x5⟩ _ (HS.out.below (bthen HB2.out HKEEP.out.drew))).mono ?_; rw [HCF.out]; rintro e w3 ⟨rfl, hb3⟩; have HKEEP : Hid (Below w2.heap.size w2 w3) := Lib.hid (HKEEP.out.drew.trans (hb3.mono HKEEP.out.size)); clear hb3)
        | (go_at_call 36; refine (cells_any X s ⟨x0, x1, x2, x3, x4, x5⟩ _ (HS.out.below (bthen HB2.out HKEEP.out))).mono ?_; rw [HCF.out]; rintro e w3 ⟨rfl, hb3⟩; have HKEEP : Hid (Below w2.heap.size w2 w3) := Lib.hid (HKEEP.out.trans (hb3.mono HKEEP.out.size)); clear hb3)
        | (go_at_call 37; refine (refCells_any X s ⟨x0, x1, x2, x3, x4, x5⟩ _ (HS.out.below (bthen HB2.out HKEEP.out.drew))).mono ?_; rw [HCF.out]; rintro e w3 ⟨rfl, hb3⟩; have HKEEP : Hid (Below w2.heap.size w2 w3) := Lib.hid (HKEEP.out.drew.trans (hb3.mono HKEEP.out.size)); clear hb3)
        | (go_at_call 37; refine (refCells_any X s ⟨x0, x1, x2, x3, x4, x5⟩ _ (HS.out.below (bthen HB2.out HKEEP.out))).mono ?_; rw [HCF.out]; rintro e w3 ⟨rfl, hb3⟩; have HKEEP : Hid (Below w2.heap.size w2 w3) := Lib.hid (HKEEP.out.trans (hb3.mono HKEEP.out.size)); clear hb3)
        | (go_at_call 27; refine (awake_any _).mono ?_; rintro e w3 ⟨rfl, hb3⟩; have HKEEP : Hid (Below w2.heap.size w2 w3) := Lib.hid (HKEEP.out.trans (hb3.mono HKEEP.out.size)); clear hb3))
    go_wp2
    go_ret
    exact ⟨rfl, bthen HB2.out HKEEP.out⟩
set_option maxRecDepth 100000 in
theorem lifted (os : Os) (started : os.Started) (H : Type) (enc : TypeId × Value → H) :
    ReturnsInHanded {} Try.checked os 12 .any (Rows.declCellsSpec.pre6 enc Try.prog Try.f12 Rows.declCellsRow.domain false) (Rows.declCellsSpec.post enc Try.prog Try.f12 false true false false) := by
  refine law_lifted started [58, 23] rfl (by kernel_rfl) Try.func12 rfl (by decide +kernel) rfl (fun ds hl => by
    match ds, hl with
    | [_, _], _ => rfl) (ChangeSpec.witness6 (enc := enc) (C := Try.checked) false ⟨#[], #[.agg #[.string ⟨#[]⟩, .int .i64 0, .int .i64 0, .int .i64 0, .int .i64 0, .int .i64 0], .slice none 0 0], []⟩ 8 (by kernel_rfl) (by kernel_rfl) (by kernel_rfl) (by kernel_rfl)) ?_
  intro W base args ds ps hval hA hlt hsz
  obtain ⟨v0, vs0, d0, ds0, p0, q0, hargs, rfl, rfl, h0, r0⟩ := trodAll_cons hA
  obtain ⟨v1, vs1, d1, ds1, p1, q1, rfl, rfl, rfl, h1, r1⟩ := trodAll_cons r0
  obtain ⟨rfl, rfl, rfl⟩ := trodAll_nil r1
  obtain rfl : args = #[v0, v1] := by cases args; simp_all
  obtain ⟨x0, rfl⟩ := open_var_arg (hval 0 58 v0 rfl rfl) h0 hsz 0 rfl rfl
  obtain ⟨A1, c1, x1, rfl, b1, i1, z1, q1, m1, o1⟩ := open_s_arg (hval 1 23 v1 rfl rfl) h1 hsz 1 rfl rfl
  exact walk x0 ⟨A1, x1.length, c1⟩ x1 W ⟨rfl, b1, i1⟩

set_option maxRecDepth 100000 in
theorem over : Rows.declCellsRow.holds Try.pinned (OpenSpec.ofChange Rows.declCellsSpec) :=
  OpenClaim.holds_of_wide 12 Try.f12 rfl rfl rfl rfl rfl rfl rfl ⟨rfl, rfl, rfl, rfl, rfl⟩ rfl rfl rfl rfl rfl (by kernel_rfl) Try.func12 (by kernel_rfl)
    (of_decide_eq_true (by kernel_rfl)) (by unfold Func.isWrapper; first | (rw [if_pos (by decide +kernel)]; kernel_rfl) | (rw [if_neg (by decide +kernel)]; exact ⟨rfl, rfl⟩))
    (fun os started H enc _ => lifted os started H enc)

theorem proved : Rows.DeclCellsSaid := over
#print axioms proved
end Go.Proofs.Ytjciamefkacchaa.declCells
