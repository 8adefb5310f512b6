/- Contract of package scc: leasts. -/
import Derived.Test.YtnfiohekdbjgoaaSccNodes
namespace Go.Proofs.Ytnfiohekdbjgoaa.sc
open Go.ChangeShapes Go.WideShapes Go.ChangeAt Go.RowKit Go.Shelf

/-- The least node with start s among those from n - d on. -/
def lfd (n : Nat) (st : Nat → Nat) : Nat → Nat → Nat
  | 0, _ => 0
  | d + 1, s => if st (n - (d + 1)) = s then n - (d + 1) else lfd n st d s
def lsV (n : Nat) (st : Nat → Nat) (d : Nat) (s : Nat) : Value := .int .i64 (lfd n st d s : Nat)
def stL (n : Nat) (st : Nat → Nat) : List Int := (List.range n).map fun i => (st i : Int)
def outL (n : Nat) (st : Nat → Nat) : List Int := (List.range n).map fun i => (lfd n st n (st i) : Int)
theorem stL_getD {n i : Nat} {st : Nat → Nat} (h : i < n) : (stL n st).getD i 0 = (st i : Int) := by simp [stL, List.getD, h]
theorem outL_getD {n i : Nat} {st : Nat → Nat} (h : i < n) : (outL n st).getD i 0 = (lfd n st n (st i) : Int) := by simp [outL, List.getD, h]
theorem lsV_step {n d : Nat} {st : Nat → Nat} {w : World} {b : Nat} {t : TypeId} (hd : d < n) (hr : w.rowIs b t n (lsV n st d)) : (w.setCell ⟨b, st (n - (d + 1)), none⟩ (.int .i64 ((n - (d + 1) : Nat) : Int))).rowIs b t n (lsV n st (d + 1)) :=
  (World.rowIs.set hr (st (n - (d + 1))) (.int .i64 ((n - (d + 1) : Nat) : Int))).congr (fun j _ => by
    unfold lsV
    conv => rhs; unfold lfd
    by_cases e : j = st (n - (d + 1))
    · subst e; rw [if_pos rfl, if_pos rfl]
    · rw [if_neg e, if_neg (fun h => e h.symm)])
/-- What a call leaves that hands back a list in a block of its own. -/
def RowN (w : World) (L : List Int) (e : Ending) (w' : World) : Prop := ∃ A c, e = .returned (.slice A L.length c) ∧ InS w' A c L ∧ Below w.heap.size w w' ∧ ∀ a, A = some a → w.heap.size ≤ a.block
theorem RowN.made {w w' : World} {L : List Int} {b m : Nat} {t : TypeId} {f : Nat → Value} (hm : m = L.length) (hl : m ≤ 1000000) (hr : w'.rowIs b t m f) (hf : ∀ i, i < m → f i = .int .i64 (L.getD i 0)) (hb : Below w.heap.size w w') (hbb : w.heap.size ≤ b) :
    RowN w L (.returned (.slice (some ⟨b, 0, none⟩) m m)) w' := by
  subst hm
  refine ⟨_, _, rfl, ⟨fun _ => ⟨b, 0, rfl, hr.lt, fun i hi => ?_⟩, Nat.le_refl _, by unfold maxLen; omega, fun h => by cases h⟩, hb, fun a e => by injection e with e; subst e; exact hbb⟩
  have := hr.cell (i := i) hi
  rw [Nat.zero_add, this, hf i hi]
set_option maxRecDepth 20000 in
theorem leasts_any (A : Option Addr) (n c : Nat) (st : Nat → Nat) (w : World) (hn : n ≤ 1000) (hst : ∀ i, i < n → st i < n) (hA : IA w A (stL n st)) : Calls Try.prog 72 #[.slice A n c] w (RowN w (outL n st)) := by
  obtain ⟨i0, hi, hz0, hz1, hz2⟩ := info_parts Try.info3
  have hmk : ∀ W : World, (Instr.makeSlice 22 (.int .i64 (n : Int)) (.int .i64 (n : Int))).run Try.prog W = .ok (.slice (some ⟨W.heap.size, 0, none⟩) n n) (W.alloc (.cells (madeCells #[.int .i64 0] n) 3)) := fun W => by
    have hr := run_make (P := Try.prog) W 22 3 i0 _ (by kernel_rfl) hi hz0 .i64 .i64 (n : Int) (n : Int) (by omega) (Int.le_refl _) (by rw [hz2]; omega) (by omega)
    rw [hr, hz1]
    rw [Int.toNat_natCast, Nat.mul_one]
    rfl
  clear hi hz0 hz1 hz2
  have HA := Lib.hid hA
  have HST := Lib.hid hst
  have HMK := Lib.hid hmk
  clear hA hst
  go_enter Try.func72, Try.ntmps72
  go_wp2_with fail
  clear hmk
  have R1 : Hid ((w.alloc (.cells (madeCells #[.int .i64 0] n) 3)).rowIs w.heap.size 3 n (lsV n st 0)) := Lib.hid ((World.rowIs_made w (.int .i64 0) n 3).congr (fun j _ => rfl))
  have B1 : Hid (Below w.heap.size w (w.alloc (.cells (madeCells #[.int .i64 0] n) 3))) := Lib.hid ((Below.refl _ _).alloc (Nat.le_refl _) _)
  have hz1 : w.heap.size + 1 ≤ (w.alloc (.cells (madeCells #[.int .i64 0] n) 3)).heap.size := by simp
  generalize w.alloc (.cells (madeCells #[.int .i64 0] n) 3) = w1 at R1 B1 hz1 ⊢
  go_loopw [4] (fun i wr => ∃ d : Nat, d ≤ n ∧ i = .int .i64 ((n : Int) - 1 - (d : Int)) ∧ Hid (wr.rowIs w.heap.size 3 n (lsV n st d)) ∧ Hid (Below w.heap.size w wr) ∧ w.heap.size + 1 ≤ wr.heap.size) (fun i _ => (intOf i + 1).toNat)
  case atStart => exact ⟨0, by omega, by simp, R1, B1, hz1⟩
  case round =>
    obtain ⟨d, hd, rfl, HR, HB, hz⟩ := hrel
    by_cases hlt : d < n
    · obtain ⟨k, hk⟩ : ∃ k : Nat, n - (d + 1) = k := ⟨_, rfl⟩
      have hkn : k < n := by omega
      have hki : (n : Int) - 1 - (d : Int) = (k : Int) := by omega
      obtain ⟨b, o, hAe, _, hc⟩ := (HA.out.below HB.out) (by simp [stL]; omega)
      subst hAe
      have c1 := hc k (by simpa [stL] using hkn)
      rw [stL_getD hkn] at c1
      have hs := HST.out k hkn
      have c2 := HR.out.cell hs
      have f2 := HR.out.frozen (st k)
      have HNX := Lib.hid (lsV_step hlt HR.out)
      rw [hk] at HNX
      unfold lsV at c2
      have HKI := Lib.hid hki
      rw [hki]
      clear hc hki
      have hk0 : (0 : Int) ≤ (k : Int) := by omega
      go_wp2
      go_roundw
      case rel => exact ⟨d + 1, by omega, (by have := HKI.out; congr 1; omega), HNX, Lib.hid (HB.out.setCell (Nat.le_refl _) _), by simpa using hz⟩
      case measure => have := HKI.out; simp only [intOf]; omega
    · obtain rfl : d = n := by omega
      have hneg : ¬ (0 : Int) ≤ (d : Int) - 1 - (d : Int) := by omega
      have hmk := HMK.out
      go_wp2_with fail
      clear hmk
      have R2 : Hid ((wr.alloc (.cells (madeCells #[.int .i64 0] d) 3)).rowIs wr.heap.size 3 d (fst (outL d st) 0)) := Lib.hid ((World.rowIs_made wr (.int .i64 0) d 3).congr (fun j _ => by simp [fst]))
      have B2 : Hid (Below wr.heap.size wr (wr.alloc (.cells (madeCells #[.int .i64 0] d) 3))) := Lib.hid ((Below.refl _ _).alloc (Nat.le_refl _) _)
      generalize wr.alloc (.cells (madeCells #[.int .i64 0] d) 3) = w2 at R2 B2 ⊢
      have hzr := HB.out.size
      go_loopw [30] (fun i wq => ∃ k : Nat, k ≤ d ∧ i = .int .i64 k ∧ Hid (wq.rowIs wr.heap.size 3 d (fst (outL d st) k)) ∧ Hid (Below wr.heap.size wr wq)) (fun i _ => d - (intOf i).toNat)
      case atStart => exact ⟨0, by omega, rfl, R2, B2⟩
      case round =>
        obtain ⟨k, hk, rfl, HQ, HBQ⟩ := hrel
        by_cases hlt2 : k < d
        · obtain ⟨b, o, hAe, _, hc⟩ := (HA.out.below (HB.out.trans (HBQ.out.mono hzr))) (by simp [stL]; omega)
          subst hAe
          have c1 := hc k (by simpa [stL] using hlt2)
          rw [stL_getD hlt2] at c1
          have hs := HST.out k hlt2
          have c2 := (HR.out.of_block (HBQ.out.block _ (by omega))).cell hs
          unfold lsV at c2
          obtain ⟨u, c3⟩ : ∃ u, World.cell? _ _ = some u := ⟨_, HQ.out.cell hlt2⟩
          have f3 := HQ.out.frozen k
          have HNX := Lib.hid (fst_step HQ.out (outL_getD hlt2).symm)
          clear hc
          go_wp2
          go_roundw
          case rel => exact ⟨k + 1, by omega, by go_num, HNX, Lib.hid (HBQ.out.setCell (Nat.le_refl _) _)⟩
          case measure => simp [intOf]; omega
        · obtain rfl : k = d := by omega
          go_wp2
          go_ret
          exact RowN.made (by simp [outL]) (by omega) HQ.out (fun i hi => fst_full i hi) (HB.out.trans (HBQ.out.mono hzr)) hzr
end Go.Proofs.Ytnfiohekdbjgoaa.sc
