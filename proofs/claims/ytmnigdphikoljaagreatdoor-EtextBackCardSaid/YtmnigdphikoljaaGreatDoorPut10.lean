/- Contracts that the claim stands on, several texts in one: EtAll. -/
import Derived.Test.YtmnigdphikoljaaGreatDoorPut1
import Derived.Test.YtmnigdphikoljaaGreatDoorPut2
import Derived.Test.YtmnigdphikoljaaGreatDoorPut3
import Derived.Test.YtmnigdphikoljaaGreatDoorPut4
import Derived.Test.YtmnigdphikoljaaGreatDoorPut5
import Derived.Test.YtmnigdphikoljaaGreatDoorPut6
import Derived.Test.YtmnigdphikoljaaGreatDoorPut7
import Derived.Test.YtmnigdphikoljaaGreatDoorPut8
import Derived.Test.YtmnigdphikoljaaGreatDoorPut9
namespace Go.Proofs.YtmnigdphikoljaaGreatDoor.et
open Go.ChangeShapes Go.WideShapes Go.ChangeAt Go.RowKit Go.Deep Go.Maps

/-- What is read of an expression's tokens; what stands behind is a fault. -/
def endF (r : Rd) : St := match r.2.ts with
  | [] => r.2
  | t :: _ => r.2.fail t.pos 3
/-- The whole expression: its nodes; or the place, and why there is none. -/
def allF (N : Nm) (en : Nat) (ts : List lx.Tok) : List (Int × Int) × Int × Int :=
  let r := levF (tigF N en (ts.length + 1)) 5 ⟨ts, 0, 0⟩
  if (endF r).why = 0 then (r.1, 0, 0) else ([], (endF r).pl, (endF r).why)
def AllP (F : Fx) (w : World) (r : List (Int × Int) × Int × Int) (e : Ending) (w' : World) : Prop := ∃ v, e = .returned (.tuple #[v, .int .i64 r.2.1, .int .i64 r.2.2]) ∧ ON w.heap.size w' v r.1 ∧ Tn F w w'
set_option maxRecDepth 20000 in
set_option maxHeartbeats 4000000 in
theorem all_any (F : Fx) (ts : List lx.Tok) (w : World) (h : Rdr F w ⟨ts, 0, 0⟩) (hclo : Clo F w 5 F.V) : Calls Tryz.prog 27 #[.pointer (some ⟨F.b, 0, none⟩)] w (AllP F w (allF F.N F.en ts)) := by
  have hlt : F.b < w.heap.size := by obtain ⟨A, c, h⟩ := h; exact h.lt
  obtain ⟨g, first, lb, hV, hg, hC⟩ := expr_reads F w hclo (ts.length + 1)
  have HC := Lib.hid (hC w ⟨ts, 0, 0⟩ (Turn.refl _ _) h (Nat.lt_succ_self _))
  have c8 : w.cell? ⟨F.b, 8, none⟩ = some F.V := by obtain ⟨A, c, h⟩ := h; exact h.s8
  rw [hV] at c8
  obtain ⟨R, HR⟩ : ∃ R, Hid (levF (tigF F.N F.en (ts.length + 1)) 5 ⟨ts, 0, 0⟩ = R) := ⟨_, Lib.hid rfl⟩
  have HG : Hid (allF F.N F.en ts = if (endF R).why = 0 then (R.1, 0, 0) else ([], (endF R).pl, (endF R).why)) := Lib.hid (by unfold allF; rw [HR.out])
  rw [HR.out] at HC
  clear h hclo hC hV
  go_enter Tryz.func27, Tryz.ntmps27
  go_wp2_with fail
  refine HC.out.mono ?_
  rintro e w1 ⟨v1, rfl, ho1, hs1⟩
  have HO1 := Lib.hid ho1
  have HS1 := Lib.hid hs1
  clear ho1 hs1 c8 HC
  obtain ⟨l, st⟩ := R
  dsimp only at HO1 HS1
  obtain ⟨A, c, hR⟩ := HS1.out.1
  have c0 := hR.s0
  cases hts : st.ts with
  | nil =>
    have HE : Hid (endF (l, st) = st) := Lib.hid (by unfold endF; rw [hts])
    rw [HE.out] at HG
    have c9 := hR.s9
    have c10 := hR.s10
    rw [hts] at c0
    dsimp only [List.length_nil] at c0
    clear hR hts
    by_cases hy : st.why = 0
    · rw [if_pos hy] at HG
      rw [hy] at c10
      go_wp2
      go_ret3
      rw [HG.out]
      exact ⟨_, rfl, HO1.out, HS1.out.2⟩
    · rw [if_neg hy] at HG
      go_upto_region 5 with (fail)
      go_region
      go_wp2
      go_ret3
      rw [HG.out]
      exact ⟨_, rfl, ON.nil _ _, HS1.out.2.then_below (Below.refl _ w1).drew⟩
  | cons t r =>
    have HE : Hid (endF (l, st) = st.fail t.pos 3) := Lib.hid (by unfold endF; rw [hts])
    rw [HE.out] at HG
    obtain ⟨tb, off, rfl, htb, htn, t0, t1, t2, t3⟩ := hR.head hts
    rw [hts] at c0
    obtain ⟨n, hn⟩ : ∃ n, (t :: r).length = n := ⟨_, rfl⟩
    rw [hn] at c0
    have hp : (0 : Int) < (n : Int) := by rw [← hn]; simp
    clear hR htb htn hn hts
    go_wp2_with fail
    refine (fail_any F st t 3 w1 HS1.out.1).mono ?_
    rintro e w2 ⟨⟨r2, rfl⟩, hs2⟩
    have HS2 := Lib.hid (HS1.out.trans hs2)
    have HO2 := Lib.hid (HO1.out.turn hs2.2 hlt)
    clear hs2 c0 t0 t1 t2 t3
    generalize st.fail (t.pos : Nat) 3 = s2 at *
    obtain ⟨A2, c2, hR2⟩ := HS2.out.1
    have c9 := hR2.s9
    have c10 := hR2.s10
    clear hR2
    by_cases hy : s2.why = 0
    · rw [if_pos hy] at HG
      rw [hy] at c10
      go_wp2
      go_ret3
      rw [HG.out]
      exact ⟨_, rfl, HO2.out, HS2.out.2⟩
    · rw [if_neg hy] at HG
      go_upto_region 5 with (fail)
      go_region
      go_wp2
      go_ret3
      rw [HG.out]
      exact ⟨_, rfl, ON.nil _ _, HS2.out.2.then_below (Below.refl _ w2).drew⟩
end Go.Proofs.YtmnigdphikoljaaGreatDoor.et
