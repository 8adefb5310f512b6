/- Declarations: variables and channels as they lie; bounds, cells; what is wrong with one by itself. -/
import Derived.Test.YtodloljpfbkkjaaRRRRDeclSize
import Derived.Deep.Cut
namespace Go.Proofs.YtodloljpfbkkjaaRRRR.dcl
open Go.ChangeShapes Go.WideShapes Go.ChangeAt Go.RowKit Go.Proofs.YtodloljpfbkkjaaRRRR.lx

/-- A variable. -/
structure VarR where
  name : ByteArray
  (sc over lo hi init : Int)
instance : Inhabited VarR := ⟨⟨⟨#[]⟩, 0, 0, 0, 0, 0⟩⟩
@[reducible] def VarR.v (x : VarR) : Value := .agg #[.string x.name, .int .i64 x.sc, .int .i64 x.over, .int .i64 x.lo, .int .i64 x.hi, .int .i64 x.init]
/-- A channel. -/
structure ChR where
  name : ByteArray
  (sc cap lo hi : Int)
  lossy : Bool
instance : Inhabited ChR := ⟨⟨⟨#[]⟩, 0, 0, 0, 0, false⟩⟩
@[reducible] def ChR.v (x : ChR) : Value := .agg #[.string x.name, .int .i64 x.sc, .int .i64 x.cap, .int .i64 x.lo, .int .i64 x.hi, .bool x.lossy]
/-- A scalar list as it lies behind a pointer. -/
structure SX where
  A : Option Addr
  (m c : Nat)
@[reducible] def SX.v (X : SX) : Value := .slice X.A X.m X.c
structure SL (w : World) (X : SX) (s : List ScR) : Prop where
  m : X.m = s.length
  small : X.m ≤ 1000000000000000
  ds : DS w X.A s
theorem SL.below {w w' : World} {X : SX} {s : List ScR} (h : SL w X s) (k : Below w.heap.size w w') : SL w' X s := ⟨h.m, h.small, h.ds.below k⟩

def boundsF (s : List ScR) (x : VarR) : Int × Int := if x.sc = 0 then (x.lo, x.hi) else (0, sizeF s x.sc)
set_option maxHeartbeats 1000000 in
theorem bounds_any (X : SX) (s : List ScR) (x : VarR) (w : World) (h : SL w X s) : Calls Try.prog 22 #[x.v, X.v] w fun e w' => e = .returned (.tuple #[.int .i64 (boundsF s x).1, .int .i64 (boundsF s x).2]) ∧ Below w.heap.size w w' := by
  obtain ⟨nm, sc, over, lo, hi, init⟩ := x
  have HS := Lib.hid h
  clear h
  unfold VarR.v SX.v
  by_cases h0 : sc = 0
  · subst h0
    have HE : Hid (boundsF s ⟨nm, 0, over, lo, hi, init⟩ = (lo, hi)) := Lib.hid rfl
    rw [HE.out]
    go_enter Try.func22, Try.ntmps22
    go_upto_region 2 with (fail)
    go_quiet (fail)
    go_wp2
    go_ret2
    exact ⟨rfl, below_drewN (below_alloc1 _ _) _⟩
  · have h00 : (sc == 0) = false := by simpa using h0
    obtain ⟨q, HQ⟩ : ∃ q, Hid (sizeF s sc = q) := ⟨_, Lib.hid rfl⟩
    have HE : Hid (boundsF s ⟨nm, sc, over, lo, hi, init⟩ = (0, q)) := Lib.hid (by unfold boundsF; rw [← HQ.out]; exact if_neg h0)
    rw [HE.out]
    go_enter Try.func22, Try.ntmps22
    go_wp2_with fail
    refine (size_any sc X.A X.m X.c s _ HS.out.m HS.out.small (HS.out.ds.below (below_alloc1 _ _))).mono ?_
    rw [HQ.out]
    rintro e w' ⟨rfl, rfl⟩
    go_wp2
    go_ret2
    exact ⟨rfl, below_alloc1 _ _⟩
def cellsF (s : List ScR) (x : VarR) : Int := if x.over = 0 then 1 else sizeF s x.over
theorem cells_any (X : SX) (s : List ScR) (x : VarR) (w : World) (h : SL w X s) : Calls Try.prog 23 #[x.v, X.v] w fun e w' => e = .returned (.int .i64 (cellsF s x)) ∧ Below w.heap.size w w' := by
  obtain ⟨nm, sc, over, lo, hi, init⟩ := x
  have HS := Lib.hid h
  clear h
  unfold VarR.v SX.v
  by_cases h0 : over = 0
  · subst h0
    have HE : Hid (cellsF s ⟨nm, sc, 0, lo, hi, init⟩ = 1) := Lib.hid rfl
    rw [HE.out]
    go_enter Try.func23, Try.ntmps23
    go_wp2
    go_ret
    exact ⟨rfl, below_alloc1 _ _⟩
  · have h00 : (over == 0) = false := by simpa using h0
    obtain ⟨q, HQ⟩ : ∃ q, Hid (sizeF s over = q) := ⟨_, Lib.hid rfl⟩
    have HE : Hid (cellsF s ⟨nm, sc, over, lo, hi, init⟩ = q) := Lib.hid (by unfold cellsF; rw [← HQ.out]; exact if_neg h0)
    rw [HE.out]
    go_enter Try.func23, Try.ntmps23
    go_wp2_with fail
    refine (size_any over X.A X.m X.c s _ HS.out.m HS.out.small (HS.out.ds.below (below_alloc1 _ _))).mono ?_
    rw [HQ.out]
    rintro e w' ⟨rfl, rfl⟩
    go_wp2
    go_ret
    exact ⟨rfl, below_alloc1 _ _⟩

/-- What is wrong with a scalar. -/
def whyS (x : ScR) : Int := if fitB x.size 1 4 then 0 else 10
theorem whyS_any (x : ScR) (w : World) : Calls Try.prog 40 #[x.v] w fun e w' => e = .returned (.int .i64 (whyS x)) ∧ Below w.heap.size w w' := by
  obtain ⟨nm, z⟩ := x
  unfold ScR.v
  cases hf : fitB z 1 4
  all_goals
    have HF := Lib.hid hf
    have HE := Lib.hid (show whyS ⟨nm, z⟩ = _ by unfold whyS; rw [hf])
    rw [HE.out]
    clear hf
    go_enter Try.func40, Try.ntmps40
    go_wp2_with fail
    refine (isSize_any _ _).mono ?_
    rw [HF.out]
    rintro e w' ⟨rfl, rfl⟩
    go_wp2
    go_ret
    exact ⟨rfl, below_alloc1 _ _⟩
/-- What is wrong with a variable. -/
def whyV (s : List ScR) (x : VarR) : Int := if namedB s x.sc = false ∨ namedB s x.over = false then 8 else if rangeB (boundsF s x).1 (boundsF s x).2 = false ∨ x.init < (boundsF s x).1 ∨ (boundsF s x).2 < x.init then 10 else 0
set_option maxHeartbeats 1000000 in
theorem whyV_any (X : SX) (s : List ScR) (bx : Nat) (x : VarR) (w : World) (h : SL w X s) (hc : w.cell? ⟨bx, 0, none⟩ = some X.v) (hbx : bx < w.heap.size) :
    Calls Try.prog 36 #[x.v, .pointer (some ⟨bx, 0, none⟩)] w fun e w' => e = .returned (.int .i64 (whyV s x)) ∧ Below w.heap.size w w' := by
  obtain ⟨nm, sc, over, lo, hi, init⟩ := x
  have HS := Lib.hid h
  obtain ⟨b1, H1⟩ : ∃ b, Hid (namedB s sc = b) := ⟨_, Lib.hid rfl⟩
  obtain ⟨b2, H2⟩ : ∃ b, Hid (namedB s over = b) := ⟨_, Lib.hid rfl⟩
  obtain ⟨l, u, HB⟩ : ∃ l u, Hid (boundsF s ⟨nm, sc, over, lo, hi, init⟩ = (l, u)) := ⟨_, _, Lib.hid rfl⟩
  obtain ⟨b3, H3⟩ : ∃ b, Hid (rangeB l u = b) := ⟨_, Lib.hid rfl⟩
  have HW : Hid (whyV s ⟨nm, sc, over, lo, hi, init⟩ = if b1 = false ∨ b2 = false then 8 else if b3 = false ∨ init < l ∨ u < init then 10 else 0) := Lib.hid (by unfold whyV; simp only [H1.out, H2.out, HB.out, H3.out])
  rw [HW.out]
  clear h
  unfold VarR.v
  cases b1 with
  | false =>
    rw [if_pos (.inl rfl)]
    go_enter Try.func36, Try.ntmps36
    go_wp2_with fail
    refine (isNamed_any sc X.A X.m X.c s _ HS.out.m HS.out.small (HS.out.ds.below (below_alloc1 _ _))).mono ?_
    rw [H1.out]
    rintro e w' ⟨rfl, rfl⟩
    go_wp2
    go_ret
    exact ⟨rfl, below_alloc1 _ _⟩
  | true =>
  cases b2 with
  | false =>
    rw [if_pos (.inr rfl)]
    go_enter Try.func36, Try.ntmps36
    go_wp2_with fail
    refine (isNamed_any sc X.A X.m X.c s _ HS.out.m HS.out.small (HS.out.ds.below (below_alloc1 _ _))).mono ?_
    rw [H1.out]
    rintro e w' ⟨rfl, rfl⟩
    go_wp2_with fail
    refine (isNamed_any over X.A X.m X.c s _ HS.out.m HS.out.small (HS.out.ds.below (below_alloc1 _ _))).mono ?_
    rw [H2.out]
    rintro e w' ⟨rfl, rfl⟩
    go_wp2
    go_ret
    exact ⟨rfl, below_alloc1 _ _⟩
  | true =>
    rw [if_neg (by simp)]
    have hkw : w.cell? ⟨bx, 0, none⟩ = some (.slice X.A X.m X.c) := hc
    clear hc
    cases b3 with
    | false =>
      rw [if_pos (.inl rfl)]
      go_enter Try.func36, Try.ntmps36
      go_wp2_with fail
      refine (isNamed_any sc X.A X.m X.c s _ HS.out.m HS.out.small (HS.out.ds.below (below_alloc1 _ _))).mono ?_
      rw [H1.out]
      rintro e w' ⟨rfl, rfl⟩
      go_wp2_with fail
      refine (isNamed_any over X.A X.m X.c s _ HS.out.m HS.out.small (HS.out.ds.below (below_alloc1 _ _))).mono ?_
      rw [H2.out]
      rintro e w' ⟨rfl, rfl⟩
      go_wp2_with fail
      refine (bounds_any X s ⟨nm, sc, over, lo, hi, init⟩ _ (HS.out.below (below_alloc1 _ _))).mono ?_
      rw [HB.out]
      rintro e w1 ⟨rfl, hb1⟩
      have HB1 : Hid (Below w.heap.size w w1) := Lib.hid (bthen (below_alloc1 _ _) hb1)
      have ci : w1.cell? ⟨w.heap.size, 5, none⟩ = some (.int .i64 init) := (hb1.cell (p := ⟨w.heap.size, 5, none⟩) (by simp)).trans (World.cell?_alloc_at _ _ _ _ rfl)
      clear hb1
      go_wp2_with fail
      refine (isRange_any _ _ _).mono ?_
      rw [H3.out]
      rintro e w' ⟨rfl, rfl⟩
      go_wp2
      go_ret
      exact ⟨rfl, HB1.out⟩
    | true =>
      have HV : Hid ((if true = false ∨ init < l ∨ u < init then (10 : Int) else 0) = if init < l ∨ u < init then 10 else 0) := Lib.hid (by simp)
      rw [HV.out]
      have HT : Hid (∀ z : Int, (if init < l ∨ u < init then (10 : Int) else 0) = z → Calls Try.prog 36 #[.agg #[.string nm, .int .i64 sc, .int .i64 over, .int .i64 lo, .int .i64 hi, .int .i64 init], .pointer (some ⟨bx, 0, none⟩)] w fun e w' => e = .returned (.int .i64 z) ∧ Below w.heap.size w w') := Lib.hid (by
        intro z hz
        by_cases h1 : init < l
        · rw [if_pos (.inl h1)] at hz
          subst hz
          go_enter Try.func36, Try.ntmps36
          go_wp2_with fail
          refine (isNamed_any sc X.A X.m X.c s _ HS.out.m HS.out.small (HS.out.ds.below (below_alloc1 _ _))).mono ?_
          rw [H1.out]
          rintro e w' ⟨rfl, rfl⟩
          go_wp2_with fail
          refine (isNamed_any over X.A X.m X.c s _ HS.out.m HS.out.small (HS.out.ds.below (below_alloc1 _ _))).mono ?_
          rw [H2.out]
          rintro e w' ⟨rfl, rfl⟩
          go_wp2_with fail
          refine (bounds_any X s ⟨nm, sc, over, lo, hi, init⟩ _ (HS.out.below (below_alloc1 _ _))).mono ?_
          rw [HB.out]
          rintro e w1 ⟨rfl, hb1⟩
          have HB1 : Hid (Below w.heap.size w w1) := Lib.hid (bthen (below_alloc1 _ _) hb1)
          have ci : w1.cell? ⟨w.heap.size, 5, none⟩ = some (.int .i64 init) := (hb1.cell (p := ⟨w.heap.size, 5, none⟩) (by simp)).trans (World.cell?_alloc_at _ _ _ _ rfl)
          clear hb1
          go_wp2_with fail
          refine (isRange_any _ _ _).mono ?_
          rw [H3.out]
          rintro e w' ⟨rfl, rfl⟩
          go_wp2
          go_ret
          exact ⟨rfl, HB1.out⟩
        · by_cases h2 : u < init
          · rw [if_pos (.inr h2)] at hz
            subst hz
            go_enter Try.func36, Try.ntmps36
            go_wp2_with fail
            refine (isNamed_any sc X.A X.m X.c s _ HS.out.m HS.out.small (HS.out.ds.below (below_alloc1 _ _))).mono ?_
            rw [H1.out]
            rintro e w' ⟨rfl, rfl⟩
            go_wp2_with fail
            refine (isNamed_any over X.A X.m X.c s _ HS.out.m HS.out.small (HS.out.ds.below (below_alloc1 _ _))).mono ?_
            rw [H2.out]
            rintro e w' ⟨rfl, rfl⟩
            go_wp2_with fail
            refine (bounds_any X s ⟨nm, sc, over, lo, hi, init⟩ _ (HS.out.below (below_alloc1 _ _))).mono ?_
            rw [HB.out]
            rintro e w1 ⟨rfl, hb1⟩
            have HB1 : Hid (Below w.heap.size w w1) := Lib.hid (bthen (below_alloc1 _ _) hb1)
            have ci : w1.cell? ⟨w.heap.size, 5, none⟩ = some (.int .i64 init) := (hb1.cell (p := ⟨w.heap.size, 5, none⟩) (by simp)).trans (World.cell?_alloc_at _ _ _ _ rfl)
            clear hb1
            go_wp2_with fail
            refine (isRange_any _ _ _).mono ?_
            rw [H3.out]
            rintro e w' ⟨rfl, rfl⟩
            go_wp2
            go_ret
            exact ⟨rfl, HB1.out⟩
          · rw [if_neg (by omega)] at hz
            subst hz
            go_enter Try.func36, Try.ntmps36
            go_wp2_with fail
            refine (isNamed_any sc X.A X.m X.c s _ HS.out.m HS.out.small (HS.out.ds.below (below_alloc1 _ _))).mono ?_
            rw [H1.out]
            rintro e w' ⟨rfl, rfl⟩
            go_wp2_with fail
            refine (isNamed_any over X.A X.m X.c s _ HS.out.m HS.out.small (HS.out.ds.below (below_alloc1 _ _))).mono ?_
            rw [H2.out]
            rintro e w' ⟨rfl, rfl⟩
            go_wp2_with fail
            refine (bounds_any X s ⟨nm, sc, over, lo, hi, init⟩ _ (HS.out.below (below_alloc1 _ _))).mono ?_
            rw [HB.out]
            rintro e w1 ⟨rfl, hb1⟩
            have HB1 : Hid (Below w.heap.size w w1) := Lib.hid (bthen (below_alloc1 _ _) hb1)
            have ci : w1.cell? ⟨w.heap.size, 5, none⟩ = some (.int .i64 init) := (hb1.cell (p := ⟨w.heap.size, 5, none⟩) (by simp)).trans (World.cell?_alloc_at _ _ _ _ rfl)
            clear hb1
            go_wp2_with fail
            refine (isRange_any _ _ _).mono ?_
            rw [H3.out]
            rintro e w' ⟨rfl, rfl⟩
            go_wp2
            go_ret
            exact ⟨rfl, HB1.out⟩)
      exact HT.out _ rfl
/-- What is wrong with a channel. -/
def whyC (s : List ScR) (x : ChR) : Int := if namedB s x.sc = false then 8 else if x.cap < 1 ∨ 4 < x.cap ∨ (x.sc = 0 ∧ rangeB x.lo x.hi = false) then 10 else 0
set_option maxHeartbeats 1000000 in
theorem whyC_any (X : SX) (s : List ScR) (bx : Nat) (x : ChR) (w : World) (h : SL w X s) (hc : w.cell? ⟨bx, 0, none⟩ = some X.v) (hbx : bx < w.heap.size) :
    Calls Try.prog 43 #[x.v, .pointer (some ⟨bx, 0, none⟩)] w fun e w' => e = .returned (.int .i64 (whyC s x)) ∧ Below w.heap.size w w' := by
  obtain ⟨nm, sc, cap, lo, hi, lossy⟩ := x
  have HS := Lib.hid h
  obtain ⟨b1, H1⟩ : ∃ b, Hid (namedB s sc = b) := ⟨_, Lib.hid rfl⟩
  obtain ⟨b3, H3⟩ : ∃ b, Hid (rangeB lo hi = b) := ⟨_, Lib.hid rfl⟩
  have HW : Hid (whyC s ⟨nm, sc, cap, lo, hi, lossy⟩ = if b1 = false then 8 else if cap < 1 ∨ 4 < cap ∨ (sc = 0 ∧ b3 = false) then 10 else 0) := Lib.hid (by unfold whyC; simp only [H1.out, H3.out])
  obtain ⟨z, HZ⟩ : ∃ z, Hid ((if b1 = false then (8 : Int) else if cap < 1 ∨ 4 < cap ∨ (sc = 0 ∧ b3 = false) then 10 else 0) = z) := ⟨_, Lib.hid rfl⟩
  rw [HW.out, HZ.out]
  clear h
  unfold ChR.v
  cases b1 with
  | false =>
    have HZ8 : Hid ((8 : Int) = z) := Lib.hid (by rw [← HZ.out]; rfl)
    rw [← HZ8.out]
    go_enter Try.func43, Try.ntmps43
    go_wp2_with fail
    refine (isNamed_any sc X.A X.m X.c s _ HS.out.m HS.out.small (HS.out.ds.below (below_alloc1 _ _))).mono ?_
    rw [H1.out]
    rintro e w' ⟨rfl, rfl⟩
    go_wp2
    go_ret
    exact ⟨rfl, below_alloc1 _ _⟩
  | true =>
    by_cases h1 : cap < 1
    · have HZ8 : Hid ((10 : Int) = z) := Lib.hid (by rw [← HZ.out]; simp [h1])
      rw [← HZ8.out]
      go_enter Try.func43, Try.ntmps43
      go_wp2_with fail
      refine (isNamed_any sc X.A X.m X.c s _ HS.out.m HS.out.small (HS.out.ds.below (below_alloc1 _ _))).mono ?_
      rw [H1.out]
      rintro e w' ⟨rfl, rfl⟩
      go_wp2
      go_ret
      exact ⟨rfl, below_alloc1 _ _⟩
    · by_cases h2 : 4 < cap
      · have HZ8 : Hid ((10 : Int) = z) := Lib.hid (by rw [← HZ.out]; simp [h2])
        rw [← HZ8.out]
        go_enter Try.func43, Try.ntmps43
        go_wp2_with fail
        refine (isNamed_any sc X.A X.m X.c s _ HS.out.m HS.out.small (HS.out.ds.below (below_alloc1 _ _))).mono ?_
        rw [H1.out]
        rintro e w' ⟨rfl, rfl⟩
        go_wp2
        go_ret
        exact ⟨rfl, below_alloc1 _ _⟩
      · by_cases h3 : sc = 0
        · subst h3
          cases b3 with
          | false =>
            have HZ8 : Hid ((10 : Int) = z) := Lib.hid (by rw [← HZ.out]; simp)
            rw [← HZ8.out]
            go_enter Try.func43, Try.ntmps43
            go_wp2_with fail
            refine (isNamed_any 0 X.A X.m X.c s _ HS.out.m HS.out.small (HS.out.ds.below (below_alloc1 _ _))).mono ?_
            rw [H1.out]
            rintro e w' ⟨rfl, rfl⟩
            go_wp2_with fail
            refine (isRange_any _ _ _).mono ?_
            rw [H3.out]
            rintro e w' ⟨rfl, rfl⟩
            go_wp2
            go_ret
            exact ⟨rfl, below_alloc1 _ _⟩
          | true =>
            have HZ8 : Hid ((0 : Int) = z) := Lib.hid (by rw [← HZ.out]; simp [h1, h2])
            rw [← HZ8.out]
            go_enter Try.func43, Try.ntmps43
            go_wp2_with fail
            refine (isNamed_any 0 X.A X.m X.c s _ HS.out.m HS.out.small (HS.out.ds.below (below_alloc1 _ _))).mono ?_
            rw [H1.out]
            rintro e w' ⟨rfl, rfl⟩
            go_wp2_with fail
            refine (isRange_any _ _ _).mono ?_
            rw [H3.out]
            rintro e w' ⟨rfl, rfl⟩
            go_wp2
            go_ret
            exact ⟨rfl, below_alloc1 _ _⟩
        · have h30 : (sc == 0) = false := by simpa using h3
          have HZ8 : Hid ((0 : Int) = z) := Lib.hid (by rw [← HZ.out]; simp [h1, h2, h3])
          rw [← HZ8.out]
          go_enter Try.func43, Try.ntmps43
          go_wp2_with fail
          refine (isNamed_any sc X.A X.m X.c s _ HS.out.m HS.out.small (HS.out.ds.below (below_alloc1 _ _))).mono ?_
          rw [H1.out]
          rintro e w' ⟨rfl, rfl⟩
          go_wp2
          go_ret
          exact ⟨rfl, below_alloc1 _ _⟩
end Go.Proofs.YtodloljpfbkkjaaRRRR.dcl
