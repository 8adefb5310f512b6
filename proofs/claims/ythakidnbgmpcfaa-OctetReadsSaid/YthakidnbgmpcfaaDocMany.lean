/- The document's reading of how many things there are. -/
import Derived.Test.YthakidnbgmpcfaaDocNum
import Derived.Deep.RegionWith
namespace Go.Proofs.Ythakidnbgmpcfaa
open Go.ChangeShapes Go.WideShapes Go.ChangeAt Go.RowKit

theorem dnum_any {A : Option Addr} {c : Nat} {l : List Int} {p : Nat} {e : Int} (w : World) (hB : BA w A l) (hp : p ≤ l.length) (hu : U8 l) (hl : l.length ≤ 1048576) :
    Calls Try.prog 7 #[rrV A l.length c p e] w (DNum A c l p (gotN l p e) w) := by
  unfold gotN
  by_cases h : e = 0
  · subst h
    rw [if_pos rfl]
    exact dnum_ok w hB hp hu hl
  · rw [if_neg h]
    exact dnum_fault w h

theorem gotN_k (l : List Int) (p : Nat) (e : Int) (hp : p ≤ l.length) : p + (gotN l p e).k ≤ l.length := by
  unfold gotN
  split
  · unfold readN
    have hc := contN_le 10 (l.drop p)
    have hd : (l.drop p).length = l.length - p := by simp
    split
    · exact hp
    · rename_i h1
      split
      · exact hp
      · rename_i h2
        show p + (contN 10 (l.drop p) + 1) ≤ l.length
        omega
  · exact hp

theorem gotN_k0 (l : List Int) (p : Nat) (e : Int) (h : (gotN l p e).f ≠ 0) : (gotN l p e).k = 0 := by
  unfold gotN at h ⊢
  split
  · rename_i h0
    rw [if_pos h0] at h
    unfold readN at h ⊢
    split
    · rfl
    · rename_i h1
      rw [if_neg h1] at h
      split
      · rfl
      · rename_i h2
        rw [if_neg h2] at h
        exact absurd rfl h
  · rfl

/-- What the document's reading of a count answers. -/
def gotC (l : List Int) (p : Nat) (e : Int) : Got Nat := if e = 0 then readC (l.drop p) else ⟨e, 0, 0⟩
def DMany (A : Option Addr) (c : Nat) (l : List Int) (p : Nat) (G : Got Nat) (W : World) (en : Ending) (w' : World) : Prop :=
  en = .returned (.tuple #[rrV A l.length c (p + G.k) G.f, .int .i64 (G.v : Int)]) ∧ Below W.heap.size W w'

/-- A count, of the reading of a number. -/
def cntOf (n : Nat) (G : Got Int) : Got Nat :=
  if G.f ≠ 0 then ⟨G.f, 0, 0⟩ else if G.v < 0 then ⟨3, 0, 0⟩ else if (n : Int) - G.k < G.v then ⟨4, 0, 0⟩ else ⟨0, G.v.toNat, G.k⟩
theorem gotC_eq (l : List Int) (p : Nat) (e : Int) : gotC l p e = cntOf (l.length - p) (gotN l p e) := by
  unfold gotC gotN cntOf
  by_cases h : e = 0
  · rw [if_pos h, if_pos h]; unfold readC; simp only [List.length_drop]
  · rw [if_neg h, if_neg h]; simp [h]

set_option maxRecDepth 20000 in
set_option maxHeartbeats 4000000 in
theorem dmany_any {A : Option Addr} {c : Nat} {l : List Int} {p : Nat} {e : Int} (w : World) (hB : BA w A l) (hp : p ≤ l.length) (hu : U8 l) (hl : l.length ≤ 1048576) :
    Calls Try.prog 25 #[rrV A l.length c p e] w (DMany A c l p (gotC l p e) w) := by
  have HB := Lib.hid hB
  have HU := Lib.hid hu
  have HK := Lib.hid (gotN_k l p e hp)
  have HG := Lib.hid (gotC_eq l p e)
  have HK0 := Lib.hid (gotN_k0 l p e)
  clear hB hu
  unfold rrV
  go_enter Try.func25, Try.ntmps25
  go_wp2_with fail
  refine (dnum_any (c := c) (e := e) _ ((HB.out.alloc _).alloc _) hp HU.out hl).mono ?_
  rintro en w' ⟨rfl, hb⟩
  have hz : w.heap.size + 2 ≤ w'.heap.size := by have := hb.size; simp at this; omega
  have b0 : w'.cell? ⟨w.heap.size, 0, none⟩ = some (.slice A l.length c) := by rw [hb.cell (by simp; omega)]; simp
  have b1 : w'.cell? ⟨w.heap.size, 1, none⟩ = some (.int .i64 p) := by rw [hb.cell (by simp; omega)]; simp
  have b2 : w'.cell? ⟨w.heap.size, 2, none⟩ = some (.int .i64 e) := by rw [hb.cell (by simp; omega)]; simp
  have r0 : w'.cell? ⟨w.heap.size + 1, 0, none⟩ = some (.slice none 0 0) := by rw [hb.cell (by simp)]; simp
  have r1 : w'.cell? ⟨w.heap.size + 1, 1, none⟩ = some (.int .i64 0) := by rw [hb.cell (by simp)]; simp
  have r2 : w'.cell? ⟨w.heap.size + 1, 2, none⟩ = some (.int .i64 0) := by rw [hb.cell (by simp)]; simp
  have f0 : w'.frozen? ⟨w.heap.size + 1, 0, none⟩ = false := by rw [hb.frozen (by simp)]; simp
  have f1 : w'.frozen? ⟨w.heap.size + 1, 1, none⟩ = false := by rw [hb.frozen (by simp)]; simp
  have f2 : w'.frozen? ⟨w.heap.size + 1, 2, none⟩ = false := by rw [hb.frozen (by simp)]; simp
  have hz0 : w.heap.size < w'.heap.size := by omega
  have hz1 : w.heap.size + 1 < w'.heap.size := by omega
  have hn0 : ¬ w.heap.size = w'.heap.size := by omega
  have hq1 : w.heap.size < w'.heap.size + 1 := by omega
  have hq2 : w.heap.size < w'.heap.size + 1 + 1 := by omega
  have hq3 : w.heap.size < w'.heap.size + 1 + 1 + 1 := by omega
  have hm1 : ¬ w.heap.size = w'.heap.size + 1 := by omega
  have hm2 : ¬ w.heap.size = w'.heap.size + 1 + 1 := by omega
  have hq4 : w.heap.size + 1 < w'.heap.size + 1 + 1 + 1 := by omega
  have hm3 : ¬ w.heap.size + 1 = w'.heap.size + 1 + 1 + 1 := by omega
  have hn1 : ¬ w.heap.size + 1 = w'.heap.size := by omega
  have HW : Hid (Below w.heap.size w w') := Lib.hid ((((Below.refl _ _).alloc (Nat.le_refl _) _).alloc (by simp) _).trans (hb.mono (by simp; omega)))
  clear hb
  generalize gotN l p e = G at HK HG HK0
  obtain ⟨f, v, k⟩ := G
  simp only
  have HK' : Hid (p + k ≤ l.length) := HK
  have HG' : Hid (gotC l p e = cntOf (l.length - p) ⟨f, v, k⟩) := HG
  have HK0' : Hid (f ≠ 0 → k = 0) := HK0
  clear HK HG HK0
  have hkp : p + k ≤ l.length := HK'.out
  have hpk : Hid (((p + k : Nat) : Int) = (p : Int) + (k : Int)) := Lib.hid (by omega)
  by_cases hf : f = 0
  · subst hf
    by_cases hv : v < 0
    · have HE : Hid (gotC l p e = ⟨3, 0, 0⟩) := Lib.hid (by rw [HG'.out]; unfold cntOf; rw [if_neg (by simp), if_pos hv])
      have t1 : decide (v < 0) = true := decide_eq_true hv
      go_wp2
      (try simp only [Exit.inBlock, Exit.then])
      refine bodyPost_ret (v := .tuple #[.agg #[.slice A l.length c, .int .i64 p, .int .i64 3], .int .i64 0]) ?_ rfl ⟨by rw [HE.out]; rfl, ?_⟩
      · rw [results_cell_tmp rfl]; go_simp
      · (repeat' (first | exact HW.out | exact Below.refl _ _ | refine Below.drew ?_ | refine Below.setCell ?_ (by simp <;> omega) _ | refine Below.alloc ?_ (by simp <;> omega) _))
    · have t1 : decide (v < 0) = false := decide_eq_false hv
      by_cases hw : (l.length : Int) - ((p : Int) + (k : Int)) < v
      · have HE : Hid (gotC l p e = ⟨4, 0, 0⟩) := Lib.hid (by rw [HG'.out]; unfold cntOf; rw [if_neg (by simp), if_neg hv, if_pos (by simp only; omega)])
        have t2 : decide ((l.length : Int) - ((p : Int) + (k : Int)) < v) = true := decide_eq_true hw
        go_wp2
        (try simp only [Exit.inBlock, Exit.then])
        refine bodyPost_ret (v := .tuple #[.agg #[.slice A l.length c, .int .i64 p, .int .i64 4], .int .i64 0]) ?_ rfl ⟨by rw [HE.out]; rfl, ?_⟩
        · rw [results_cell_tmp rfl]; go_simp
        · (repeat' (first | exact HW.out | exact Below.refl _ _ | refine Below.drew ?_ | refine Below.setCell ?_ (by simp <;> omega) _ | refine Below.alloc ?_ (by simp <;> omega) _))
      · have HE : Hid (gotC l p e = ⟨0, v.toNat, k⟩) := Lib.hid (by rw [HG'.out]; unfold cntOf; rw [if_neg (by simp), if_neg hv, if_neg (by simp only; omega)])
        have t2 : decide ((l.length : Int) - ((p : Int) + (k : Int)) < v) = false := decide_eq_false hw
        have hvn : Hid ((v.toNat : Int) = v) := Lib.hid (by omega)
        go_wp2
        (try simp only [Exit.inBlock, Exit.then])
        refine bodyPost_ret (v := .tuple #[.agg #[.slice A l.length c, .int .i64 ((p : Int) + (k : Int)), .int .i64 0], .int .i64 v]) ?_ rfl ⟨by rw [HE.out]; simp only [rrV]; rw [hpk.out, hvn.out], ?_⟩
        · rw [results_cell_tmp rfl]; go_simp
        · (repeat' (first | exact HW.out | exact Below.refl _ _ | refine Below.drew ?_ | refine Below.setCell ?_ (by simp <;> omega) _ | refine Below.alloc ?_ (by simp <;> omega) _))
  · have t1 : (f == 0) = false := by simp; omega
    have HE : Hid (gotC l p e = ⟨f, 0, 0⟩) := Lib.hid (by rw [HG'.out]; unfold cntOf; rw [if_pos hf])
    obtain rfl : k = 0 := HK0'.out hf
    have hpk0 : Hid (((p + 0 : Nat) : Int) = (p : Int)) := Lib.hid (by omega)
    go_wp2
    (try simp only [Exit.inBlock, Exit.then])
    refine bodyPost_ret (v := .tuple #[.agg #[.slice A l.length c, .int .i64 p, .int .i64 f], .int .i64 0]) ?_ rfl ⟨by rw [HE.out]; rfl, ?_⟩
    · rw [results_cell_tmp rfl]; go_simp
    · (repeat' (first | exact HW.out | exact Below.refl _ _ | refine Below.drew ?_ | refine Below.setCell ?_ (by simp <;> omega) _ | refine Below.alloc ?_ (by simp <;> omega) _))
end Go.Proofs.Ythakidnbgmpcfaa
