/- Contracts that the claim stands on, several texts in one: EtRow, EtReads, EtNew. -/
import Derived.Test.YtmnigdphikoljaaGreatDoorPut1
import Derived.Test.YtmnigdphikoljaaGreatDoorPut2
import Derived.Test.YtmnigdphikoljaaGreatDoorPut3
import Derived.Test.YtmnigdphikoljaaGreatDoorPut4
import Derived.Test.YtmnigdphikoljaaGreatDoorPut5
import Derived.Test.YtmnigdphikoljaaGreatDoorPut6
import Derived.Test.YtmnigdphikoljaaGreatDoorPut7
import Derived.Test.YtmnigdphikoljaaGreatDoorPut8
namespace Go.Proofs.YtmnigdphikoljaaGreatDoor.et
open Go.ChangeShapes Go.WideShapes Go.ChangeAt Go.RowKit Go.Deep Go.Maps

def pairC (p : Int × Nat × ByteArray × Nat) : List Value := [.int .i64 p.1, .int .i64 (p.2.1 : Nat), .string p.2.2.1, .func (.func p.2.2.2) #[] #[]]
def pairsC : Array Value := (pairT.flatMap pairC).toArray
set_option maxRecDepth 20000 in
theorem pairs_any (w : World) : Calls Tryz.prog 102 #[] w fun e w' => e = .returned (.slice (some ⟨w.heap.size, 0, none⟩) 9 9) ∧ w' = w.alloc (.cells pairsC 139) := by
  go_enter Tryz.func102, Tryz.ntmps102
  go_wp2
  go_ret
  exact ⟨rfl, rfl⟩
theorem pairs_cell {w : World} {b j i : Nat} (h : w.heap[b]? = some (.cells pairsC 139 (0, 0))) (hj : j < 9) (hi : i < 4) : w.cell? ⟨b, j * 4 + i, none⟩ = (pairC (pairT.getD j default))[i]? := by
  have e : ∀ j, j < 9 → ∀ i, i < 4 → pairsC[j * 4 + i]? = (pairC (pairT.getD j default))[i]? := by
    intro j hj i hi
    have hj2 : j = 0 ∨ j = 1 ∨ j = 2 ∨ j = 3 ∨ j = 4 ∨ j = 5 ∨ j = 6 ∨ j = 7 ∨ j = 8 := by omega
    have hi2 : i = 0 ∨ i = 1 ∨ i = 2 ∨ i = 3 := by omega
    rcases hj2 with rfl | rfl | rfl | rfl | rfl | rfl | rfl | rfl | rfl <;> rcases hi2 with rfl | rfl | rfl | rfl <;> rfl
  rw [← e j hj i hi]
  simp [World.cell?, h]
theorem pair_size {j : Nat} (hj : j < 9) : (pairT.getD j default).2.2.1.size ≤ 2 := by
  have hj2 : j = 0 ∨ j = 1 ∨ j = 2 ∨ j = 3 ∨ j = 4 ∨ j = 5 ∨ j = 6 ∨ j = 7 ∨ j = 8 := by omega
  rcases hj2 with rfl | rfl | rfl | rfl | rfl | rfl | rfl | rfl | rfl <;> decide
theorem cell_of_heap {w : World} {b i : Nat} {cs : Array Value} {t : TypeId} {v : Value} (h : w.heap[b]? = some (.cells cs t (0, 0))) (hv : cs[i]? = some v) : w.cell? ⟨b, i, none⟩ = some v := by
  simp [World.cell?, h, hv]
theorem six (w : World) (o1 o2 o3 o4 o5 o6 : Obj) (k : Nat) (h4 : o4 = .map #[] 0) : 
    ((((((w.alloc o1).alloc o2).alloc o3).alloc o4).alloc o5).alloc o6).heap[w.heap.size]? = some o1 ∧
    ((((((w.alloc o1).alloc o2).alloc o3).alloc o4).alloc o5).alloc o6).heap[w.heap.size + 1]? = some o2 ∧
    ((((((w.alloc o1).alloc o2).alloc o3).alloc o4).alloc o5).alloc o6).heap[w.heap.size + 2]? = some o3 ∧
    ((((((w.alloc o1).alloc o2).alloc o3).alloc o4).alloc o5).alloc o6).heap[w.heap.size + 3]? = some o4 ∧
    ((((((w.alloc o1).alloc o2).alloc o3).alloc o4).alloc o5).alloc o6).heap[w.heap.size + 4]? = some o5 ∧
    ((((((w.alloc o1).alloc o2).alloc o3).alloc o4).alloc o5).alloc o6).heap[w.heap.size + 5]? = some o6 ∧
    ((((((w.alloc o1).alloc o2).alloc o3).alloc o4).alloc o5).alloc o6).heap.size = w.heap.size + 6 ∧
    Below w.heap.size w ((((((w.alloc o1).alloc o2).alloc o3).alloc o4).alloc o5).alloc o6) ∧
    MFn ((((((w.alloc o1).alloc o2).alloc o3).alloc o4).alloc o5).alloc o6) (w.heap.size + 3) k 0 := by
  have e1 : (w.alloc o1).heap.size = w.heap.size + 1 := by simp
  have e2 : ((w.alloc o1).alloc o2).heap.size = w.heap.size + 2 := by simp
  have e3 : (((w.alloc o1).alloc o2).alloc o3).heap.size = w.heap.size + 3 := by simp
  have e4 : ((((w.alloc o1).alloc o2).alloc o3).alloc o4).heap.size = w.heap.size + 4 := by simp
  have e5 : (((((w.alloc o1).alloc o2).alloc o3).alloc o4).alloc o5).heap.size = w.heap.size + 5 := by simp
  have g1 := World.alloc_heap_new w o1
  have g2 := World.alloc_heap_new (w.alloc o1) o2
  have g3 := World.alloc_heap_new ((w.alloc o1).alloc o2) o3
  have g4 := World.alloc_heap_new (((w.alloc o1).alloc o2).alloc o3) o4
  have g5 := World.alloc_heap_new ((((w.alloc o1).alloc o2).alloc o3).alloc o4) o5
  have g6 := World.alloc_heap_new (((((w.alloc o1).alloc o2).alloc o3).alloc o4).alloc o5) o6
  rw [e1] at g2
  rw [e2] at g3
  rw [e3] at g4
  rw [e4] at g5
  rw [e5] at g6
  have up : ∀ (W : World) (o : Obj) (q : Nat) (x : Obj), W.heap[q]? = some x → (W.alloc o).heap[q]? = some x := fun W o q x h => (Below.heap_alloc _ _ _ (Array.getElem?_eq_some_iff.1 h).1).trans h
  have u4 := up _ o6 _ _ (up _ o5 _ _ g4)
  have hm := MFn.made (((w.alloc o1).alloc o2).alloc o3) k
  rw [e3, ← h4] at hm
  refine ⟨up _ _ _ _ (up _ _ _ _ (up _ _ _ _ (up _ _ _ _ (up _ _ _ _ g1)))), up _ _ _ _ (up _ _ _ _ (up _ _ _ _ (up _ _ _ _ g2))), up _ _ _ _ (up _ _ _ _ (up _ _ _ _ g3)), u4, up _ _ _ _ g5, g6, by simp, ?_, hm.keep (u4.trans g4.symm)⟩
  exact bthen (bthen (bthen (bthen (bthen (below_alloc1 _ _) (below_alloc1 _ _)) (below_alloc1 _ _)) (below_alloc1 _ _)) (below_alloc1 _ _)) (below_alloc1 _ _)
/-- What row leaves: a function value, and boxes of its own. -/
def RowK (F : Fx) (w : World) (k : Nat) (V : Value) (e : Ending) (w' : World) : Prop :=
  ∃ nb rx mb sb mp, e = .returned (.func (.func 103) #[] #[.pointer (some ⟨nb, 0, none⟩), .pointer (some ⟨rx, 0, none⟩), .pointer (some ⟨mb, 0, none⟩), .pointer (some ⟨sb, 0, none⟩)]) ∧ CloS F w' k V nb rx mb sb mp ∧ Below w.heap.size w w'
set_option maxRecDepth 20000 in
set_option maxHeartbeats 4000000 in
theorem row_any (F : Fx) (k : Nat) (V : Value) (w : World) (hb : F.b < w.heap.size) (hV : ∃ g first lb, V = .func (.func g) first lb) :
    Calls Tryz.prog 64 #[.pointer (some ⟨F.b, 0, none⟩), .int .i64 (k : Nat), V] w (RowK F w k V) := by
  obtain ⟨g, first, lb, rfl⟩ := hV
  have hmk := @run_makeMap Tryz.prog
  have hmf : ∀ (fn : Fn) (first cap : Array Value) (w : World), (Instr.makeFunc fn first cap).run Tryz.prog w = .ok (.func fn first cap) w := fun _ _ _ _ => rfl
  go_enter Tryz.func64, Tryz.ntmps64
  go_wp2_with fail
  refine (pairs_any _).mono ?_
  rintro e w6 ⟨rfl, hw6⟩
  obtain ⟨q0, q1, q2, q3, q4, q5, qs, qb, qm⟩ := six w (.cells #[.pointer (some ⟨F.b, 0, none⟩)] 61) (.cells #[.int .i64 (k : Nat)] 3) (.cells #[.func (.func g) first lb] 110) (.map #[] 0) (.cells #[.map (some (w.heap.size + 1 + 1 + 1))] 149) (.cells pairsC 139) k rfl
  rw [← hw6] at q0 q1 q2 q3 q4 q5 qs qb qm
  have hsz : (((((w.alloc (.cells #[.pointer (some ⟨F.b, 0, none⟩)] 61)).alloc (.cells #[.int .i64 (k : Nat)] 3)).alloc (.cells #[.func (.func g) first lb] 110)).alloc (.map #[] 0)).alloc (.cells #[.map (some (w.heap.size + 1 + 1 + 1))] 149)).heap.size = w.heap.size + 5 := by simp
  rw [hsz]
  clear hsz hw6
  generalize hbn : w.heap.size = b at *
  have R0 : Hid (w6.cell? ⟨b, 0, none⟩ = some (.pointer (some ⟨F.b, 0, none⟩))) := Lib.hid (cell_of_heap q0 (i := 0) rfl)
  have S0 : Hid (w6.cell? ⟨b + 1, 0, none⟩ = some (.int .i64 (k : Nat))) := Lib.hid (cell_of_heap q1 (i := 0) rfl)
  have N0 : Hid (w6.cell? ⟨b + 1 + 1, 0, none⟩ = some (.func (.func g) first lb)) := Lib.hid (cell_of_heap q2 (i := 0) rfl)
  have M0 : Hid (w6.cell? ⟨b + 1 + 1 + 1 + 1, 0, none⟩ = some (.map (some (b + 1 + 1 + 1)))) := Lib.hid (cell_of_heap q4 (i := 0) rfl)
  have HP := Lib.hid q5
  have HQB := Lib.hid qb
  have HQM := Lib.hid qm
  clear q0 q1 q2 q3 q4 q5 qb qm hmk
  go_wp2
  go_loopw [13] (fun i wr => ∃ j : Nat, j ≤ 9 ∧ i = .int .i64 (j : Nat) ∧ Hid (Turn (fun q => q = b + 3) w6 wr) ∧ Hid (MFn wr (b + 3) k j)) (fun i _ => 9 - (intOf i).toNat)
  case atStart => exact ⟨0, Nat.zero_le _, rfl, Lib.hid (Turn.refl _ _), HQM⟩
  case round =>
    obtain ⟨j, hj, rfl, HT, HM⟩ := hrel
    have hbig := HT.out.size
    have HPr : Hid (wr.heap[b + 5]? = some (.cells pairsC 139 (0, 0))) := Lib.hid ((HT.out.block _ (by omega) (by omega)).trans HP.out)
    by_cases hlt : j < 9
    · have hi9 : (j : Int) < 9 := by omega
      have p0 : wr.cell? ⟨b + 5, j * 4, none⟩ = _ := pairs_cell HPr.out hlt (i := 0) (by decide)
      have p1 := pairs_cell HPr.out hlt (i := 1) (by decide)
      have p2 := pairs_cell HPr.out hlt (i := 2) (by decide)
      have p3 := pairs_cell HPr.out hlt (i := 3) (by decide)
      have HSZ := Lib.hid (pair_size hlt)
      have HSK : Hid ((pairT.getD j default).2.1 ≠ k → MFn wr (b + 3) k (j + 1)) := Lib.hid (fun h => HM.out.skip h)
      obtain ⟨op, HOP⟩ : ∃ x, Hid ((pairT.getD j default).1 = x) := ⟨_, Lib.hid rfl⟩
      obtain ⟨sr, HSR⟩ : ∃ x, Hid ((pairT.getD j default).2.1 = x) := ⟨_, Lib.hid rfl⟩
      obtain ⟨sg, HSG⟩ : ∃ x, Hid ((pairT.getD j default).2.2.1 = x) := ⟨_, Lib.hid rfl⟩
      obtain ⟨fn, HFN⟩ : ∃ x, Hid ((pairT.getD j default).2.2.2 = x) := ⟨_, Lib.hid rfl⟩
      have e0 : (pairC (pairT.getD j default))[0]? = some (.int .i64 op) := by rw [← HOP.out]; rfl
      have e1 : (pairC (pairT.getD j default))[1]? = some (.int .i64 (sr : Nat)) := by rw [← HSR.out]; rfl
      have e2 : (pairC (pairT.getD j default))[2]? = some (.string sg) := by rw [← HSG.out]; rfl
      have e3 : (pairC (pairT.getD j default))[3]? = some (.func (.func fn) #[] #[]) := by rw [← HFN.out]; rfl
      rw [e0] at p0
      rw [e1] at p1
      rw [e2] at p2
      rw [e3] at p3
      clear e0 e1 e2 e3
      rw [HSR.out] at HSK
      go_upto_region 5 with (fail)
      have hnew := World.alloc_heap_new wr (.cells #[.int .i64 op, .int .i64 (sr : Nat), .string sg, .func (.func fn) #[] #[]] 139)
      have hb7 := below_alloc1 wr (.cells #[.int .i64 op, .int .i64 (sr : Nat), .string sg, .func (.func fn) #[] #[]] 139)
      have HT7 := Lib.hid (HT.out.then_below (hb7.mono hbig))
      have HM7 := Lib.hid (HM.out.keep (hb7.block _ (by omega)))
      have HS7 : Hid ((pairT.getD j default).2.1 ≠ k → MFn (wr.alloc (.cells #[.int .i64 op, .int .i64 (sr : Nat), .string sg, .func (.func fn) #[] #[]] 139)) (b + 3) k (j + 1)) := Lib.hid (fun h => HM7.out.skip h)
      generalize hpb : wr.heap.size = pb at *
      generalize wr.alloc (.cells #[.int .i64 op, .int .i64 (sr : Nat), .string sg, .func (.func fn) #[] #[]] 139) = w7 at *
      have x0 : w7.cell? ⟨pb, 0, none⟩ = some (.int .i64 op) := cell_of_heap hnew rfl
      have x1 : w7.cell? ⟨pb, 1, none⟩ = some (.int .i64 (sr : Nat)) := cell_of_heap hnew rfl
      have x2 : w7.cell? ⟨pb, 2, none⟩ = some (.string sg) := cell_of_heap hnew rfl
      have x3 : w7.cell? ⟨pb, 3, none⟩ = some (.func (.func fn) #[] #[]) := cell_of_heap hnew rfl
      have s7 := (HT7.out.cell (p := ⟨b + 1, 0, none⟩) (by show b + 1 < _; omega) (by show ¬ b + 1 = b + 3; omega)).trans S0.out
      have m7 := (HT7.out.cell (p := ⟨b + 1 + 1 + 1 + 1, 0, none⟩) (by show b + 1 + 1 + 1 + 1 < _; omega) (by show ¬ b + 1 + 1 + 1 + 1 = b + 3; omega)).trans M0.out
      clear p0 p1 p2 p3 hnew hb7
      by_cases hsk : sr = k
      · obtain ⟨w8, hrun, hm8, hg8⟩ := HM7.out.update (HSR.out.trans hsk) hlt (by have := HSZ.out; unfold maxLen; omega)
        rw [HSG.out, HFN.out] at hrun
        have hrun : (Instr.mapUpdate 149 (.map (some (b + 1 + 1 + 1))) (.string sg) (.func (.func fn) #[] #[])).run Tryz.prog w7 = .ok () w8 := hrun
        have HM8 := Lib.hid hm8
        have HT8 : Hid (Turn (fun q => q = b + 3) w6 w8) := Lib.hid (HT7.out.trans ⟨hg8.os, hg8.tape, hg8.output, hg8.size, fun q hq hn => hg8.block q hq (fun e => hn (Option.some.inj e))⟩)
        subst hsk
        clear hm8 hg8
        go_wp2
        go_roundw
        case rel => exact ⟨j + 1, by omega, by go_num, HT8, HM8⟩
        case measure => simp [intOf]; omega
      · have hsk2 : ¬ (sr : Int) = (k : Int) := by omega
        have HM8 : Hid (MFn w7 (b + 3) k (j + 1)) := Lib.hid (HS7.out (by rw [HSR.out]; exact hsk))
        go_wp2
        go_roundw
        case rel => exact ⟨j + 1, by omega, by go_num, HT7, HM8⟩
        case measure => simp [intOf]; omega
    · obtain rfl : j = 9 := by omega
      have hclo : CloS F wr k (.func (.func g) first lb) (b + 1 + 1) b (b + 1 + 1 + 1 + 1) (b + 1) (b + 3) :=
        ⟨(HT.out.cell (p := ⟨b + 1 + 1, 0, none⟩) (by show b + 1 + 1 < _; omega) (by show ¬ b + 1 + 1 = b + 3; omega)).trans N0.out,
         (HT.out.cell (p := ⟨b, 0, none⟩) (by show b < _; omega) (by show ¬ b = b + 3; omega)).trans R0.out,
         (HT.out.cell (p := ⟨b + 1 + 1 + 1 + 1, 0, none⟩) (by show b + 1 + 1 + 1 + 1 < _; omega) (by show ¬ b + 1 + 1 + 1 + 1 = b + 3; omega)).trans M0.out,
         (HT.out.cell (p := ⟨b + 1, 0, none⟩) (by show b + 1 < _; omega) (by show ¬ b + 1 = b + 3; omega)).trans S0.out,
         by omega, by omega, by omega, by omega, by omega, by omega, by omega, by omega, by omega, HM.out⟩
      have HCLO := Lib.hid hclo
      have HBW : Hid (Below b w wr) := Lib.hid (HQB.out.trans (HT.out.below (B := b) (fun q e => by omega) (by omega)))
      clear hclo
      go_wp2
      go_ret
      unfold RowK
      rw [hbn]
      exact ⟨_, _, _, _, _, rfl, HCLO.out, HBW.out⟩
end Go.Proofs.YtmnigdphikoljaaGreatDoor.et
namespace Go.Proofs.YtmnigdphikoljaaGreatDoor.et
open Go.ChangeShapes Go.WideShapes Go.ChangeAt Go.RowKit Go.Deep Go.Maps

/-- The function value of a level: tight, and rows upon it. -/
def Clo (F : Fx) (w : World) : Nat → Value → Prop
  | 0, V => V = .func (.func 63) #[.pointer (some ⟨F.b, 0, none⟩)] #[]
  | n + 1, V => ∃ nb rx mb sb mp V', V = .func (.func 103) #[] #[.pointer (some ⟨nb, 0, none⟩), .pointer (some ⟨rx, 0, none⟩), .pointer (some ⟨mb, 0, none⟩), .pointer (some ⟨sb, 0, none⟩)] ∧ CloS F w (5 - n) V' nb rx mb sb mp ∧ Clo F w n V'
theorem Clo.turn {F : Fx} {w w' : World} (t : Tn F w w') : ∀ {n : Nat} {V : Value}, Clo F w n V → Clo F w' n V
  | 0, _, h => h
  | n + 1, _, h => by
    obtain ⟨nb, rx, mb, sb, mp, V', e, h1, h2⟩ := h
    exact ⟨nb, rx, mb, sb, mp, V', e, h1.turn t, Clo.turn t h2⟩
theorem CloS.other {F F' : Fx} (hb : F.b = F'.b) {w : World} {k : Nat} {V : Value} {nb rx mb sb mp : Nat} (h : CloS F w k V nb rx mb sb mp) : CloS F' w k V nb rx mb sb mp :=
  ⟨h.n0, by rw [← hb]; exact h.r0, h.m0, h.s0, h.ln, h.lr, h.lm, h.ls, by rw [← hb]; exact h.en, by rw [← hb]; exact h.er, by rw [← hb]; exact h.em, by rw [← hb]; exact h.es, by rw [← hb]; exact h.ep, h.map⟩
theorem Clo.other {F F' : Fx} (hb : F.b = F'.b) {w : World} : ∀ {n : Nat} {V : Value}, Clo F w n V → Clo F' w n V
  | 0, V, h => by
    unfold Clo at *
    rw [← hb]
    exact h
  | n + 1, _, h => by
    obtain ⟨nb, rx, mb, sb, mp, V', e, h1, h2⟩ := h
    exact ⟨nb, rx, mb, sb, mp, V', e, h1.other hb, Clo.other hb h2⟩
theorem Clo.func {F : Fx} {w : World} : ∀ {n : Nat} {V : Value}, Clo F w n V → ∃ g first lb, V = .func (.func g) first lb
  | 0, _, h => ⟨_, _, _, h⟩
  | n + 1, _, h => by
    obtain ⟨nb, rx, mb, sb, mp, V', e, h1, h2⟩ := h
    exact ⟨_, _, _, e⟩
set_option maxRecDepth 100000 in
theorem lev_reads (F : Fx) (wE : World) (f : Nat) (ti : St → Rd) (hti : TightK F wE f ti) (htf : ∀ st, Few st (ti st)) : ∀ n V, n ≤ 5 → Clo F wE n V → ReadsK F wE V f (levF ti n)
  | 0, V, _, h => ⟨_, _, _, h, fun _ _ => rfl, fun w st hE hR hf => hti w st hE hR hf⟩
  | n + 1, V, hn, h => by
    obtain ⟨nb, rx, mb, sb, mp, V', e, h1, h2⟩ := h
    have ih := lev_reads F wE f ti hti htf n V' (by omega) h2
    exact ⟨_, _, _, e, fun _ _ => rfl, fun w st hE hR hf => rowfn_any F wE f (5 - n) (levF ti n) V' nb rx mb sb mp h1 ih (levF_few htf n) (by omega) (by omega) st w hE hR hf⟩
theorem tight_all (F : Fx) (wE : World) (hclo : Clo F wE 5 F.V) : ∀ f, TightK F wE f (tigF F.N F.en f)
  | 0 => fun w st hE hR hf => absurd hf (Nat.not_lt_zero _)
  | f + 1 => fun w st hE hR hf => by
    have ih := tight_all F wE hclo f
    have htf := tig_few F.N F.en f
    exact tight_any F wE f (tigF F.N F.en f) (levF (tigF F.N F.en f) 5) ih htf (lev_reads F wE f _ ih htf 5 F.V (Nat.le_refl _) hclo) (levF_few htf 5) st w hE hR (by omega)
/-- An expression, whatever tokens there are: f is more than they. -/
theorem expr_reads (F : Fx) (wE : World) (hclo : Clo F wE 5 F.V) (f : Nat) : ReadsK F wE F.V f (levF (tigF F.N F.en f) 5) :=
  lev_reads F wE f _ (tight_all F wE hclo f) (tig_few F.N F.en f) 5 F.V (Nat.le_refl _) hclo
end Go.Proofs.YtmnigdphikoljaaGreatDoor.et
namespace Go.Proofs.YtmnigdphikoljaaGreatDoor.et
open Go.ChangeShapes Go.WideShapes Go.ChangeAt Go.RowKit Go.Deep Go.Maps

theorem rc_set {w : World} {b n c en : Nat} {A : Option Addr} {X : ScX} {V : Value} {pl why : Int} (h : w.rowIs b 112 11 (rcF A n c en X V pl why)) (V' : Value) : (w.setCell ⟨b, 8, none⟩ V').rowIs b 112 11 (rcF A n c en X V' pl why) := (h.set 8 V').congr (fun j hj => by
  match j with
  | 0 => rfl
  | 1 => rfl
  | 2 => rfl
  | 3 => rfl
  | 4 => rfl
  | 5 => rfl
  | 6 => rfl
  | 7 => rfl
  | 8 => rfl
  | 9 => rfl
  | 10 => rfl
  | j + 11 => omega)
theorem below_put {w w2 : World} (h : Below w.heap.size w w2) (b : Nat) (hb : w.heap.size ≤ b) (i : Nat) (v : Value) : Below w.heap.size w (w2.setCell ⟨b, i, none⟩ v) :=
  ⟨h.os, h.tape, h.output, by simpa [World.setCell] using h.size, fun k hk => (Below.heap_setCell w2 ⟨b, i, none⟩ v k (by show k ≠ b; omega)).trans (h.block k hk)⟩
/-- What newReader leaves. -/
def NewP (w : World) (X : ScX) (N : Nm) (en : Nat) (ts : List lx.Tok) (e : Ending) (w' : World) : Prop :=
  ∃ b V, e = .returned (.pointer (some ⟨b, 0, none⟩)) ∧ Rdr ⟨w, b, X, N, en, V⟩ w' ⟨ts, 0, 0⟩ ∧ Clo ⟨w, b, X, N, en, V⟩ w' 5 V ∧ Below w.heap.size w w'
set_option maxRecDepth 20000 in
set_option maxHeartbeats 4000000 in
theorem newReader_any (X : ScX) (N : Nm) (en : Nat) (ts : List lx.Tok) (A : Option Addr) (n c : Nat) (w : World) (hn : n = ts.length) (hA : sr.RS tokC 4 w A ts) (hcap : ts.length ≤ c) (hnm : NmR w X N)
    (hnum : ∀ t ∈ ts, -2000000 ≤ t.num ∧ t.num ≤ 2000000) (hmost : ts.length ≤ 6000) (hlens : ∀ op l, nmOf N op = some l → l.length ≤ 1000000) (htxt : ∀ t ∈ ts, t.text.size ≤ 20000) :
    Calls Tryz.prog 26 #[.slice A n c, .int .i64 (en : Nat), X.v] w (NewP w X N en ts) := by
  have hmf : ∀ (fn : Fn) (first cap : Array Value) (w : World), (Instr.makeFunc fn first cap).run Tryz.prog w = .ok (.func fn first cap) w := fun _ _ _ _ => rfl
  subst hn
  obtain ⟨n, HN⟩ : ∃ n, ts.length = n := ⟨_, rfl⟩
  rw [HN]
  unfold ScX.v
  go_enter Tryz.func26, Tryz.ntmps26
  go_upto_region 2 with (fail)
  have hb2 : Below w.heap.size w _ := bthen (below_alloc1 w (.cells #[.slice X.a1 X.n1 X.c1, .slice X.a2 X.n2 X.c2, .slice X.a3 X.n3 X.c3, .slice X.a4 X.n4 X.c4, .slice X.a5 X.n5 X.c5, .int .i64 X.self] 28)) (below_alloc1 _ (.cells #[.slice A n c, .int .i64 (en : Nat), .slice X.a1 X.n1 X.c1, .slice X.a2 X.n2 X.c2, .slice X.a3 X.n3 X.c3, .slice X.a4 X.n4 X.c4, .slice X.a5 X.n5 X.c5, .int .i64 X.self, .nilFunc, .int .i64 0, .int .i64 0] 112))
  have hr2 := World.rowIs_alloc (w.alloc (.cells #[.slice X.a1 X.n1 X.c1, .slice X.a2 X.n2 X.c2, .slice X.a3 X.n3 X.c3, .slice X.a4 X.n4 X.c4, .slice X.a5 X.n5 X.c5, .int .i64 X.self] 28)) #[.slice A n c, .int .i64 (en : Nat), .slice X.a1 X.n1 X.c1, .slice X.a2 X.n2 X.c2, .slice X.a3 X.n3 X.c3, .slice X.a4 X.n4 X.c4, .slice X.a5 X.n5 X.c5, .int .i64 X.self, .nilFunc, .int .i64 0, .int .i64 0] 112 (rcF A n c en X .nilFunc 0 0) (fun i hi => by
    match i with
    | 0 => rfl
    | 1 => rfl
    | 2 => rfl
    | 3 => rfl
    | 4 => rfl
    | 5 => rfl
    | 6 => rfl
    | 7 => rfl
    | 8 => rfl
    | 9 => rfl
    | 10 => rfl
    | i + 11 => simp at hi; omega)
  have hsz : (w.alloc (.cells #[.slice X.a1 X.n1 X.c1, .slice X.a2 X.n2 X.c2, .slice X.a3 X.n3 X.c3, .slice X.a4 X.n4 X.c4, .slice X.a5 X.n5 X.c5, .int .i64 X.self] 28)).heap.size = w.heap.size + 1 := by simp
  rw [hsz] at hr2
  clear hsz
  have hr2 : World.rowIs _ (w.heap.size + 1) 112 11 (rcF A n c en X .nilFunc 0 0) := hr2
  generalize (w.alloc (.cells #[.slice X.a1 X.n1 X.c1, .slice X.a2 X.n2 X.c2, .slice X.a3 X.n3 X.c3, .slice X.a4 X.n4 X.c4, .slice X.a5 X.n5 X.c5, .int .i64 X.self] 28)).alloc (.cells #[.slice A n c, .int .i64 (en : Nat), .slice X.a1 X.n1 X.c1, .slice X.a2 X.n2 X.c2, .slice X.a3 X.n3 X.c3, .slice X.a4 X.n4 X.c4, .slice X.a5 X.n5 X.c5, .int .i64 X.self, .nilFunc, .int .i64 0, .int .i64 0] 112) = w2 at *
  obtain ⟨b, HBE⟩ : ∃ b, w.heap.size + 1 = b := ⟨_, rfl⟩
  rw [HBE] at hr2
  have hwb : w.heap.size ≤ b := by omega
  obtain ⟨F0, HF0⟩ : ∃ F0 : Fx, F0 = ⟨w, b, X, N, en, .nilFunc⟩ := ⟨_, rfl⟩
  have hF0b : F0.b = b := by rw [HF0]
  have HR3 := Lib.hid (rc_set hr2 (.func (.func 63) #[.pointer (some ⟨b, 0, none⟩)] #[]))
  have c8 : w2.cell? ⟨b, 8, none⟩ = some .nilFunc := hr2.cell (i := 8) (by decide)
  have f8 := hr2.frozen 8
  have HB3 : Hid (Below w.heap.size w (w2.setCell ⟨b, 8, none⟩ (.func (.func 63) #[.pointer (some ⟨b, 0, none⟩)] #[]))) := Lib.hid (below_put hb2 b hwb 8 _)
  have HC3 : Hid (Clo F0 (w2.setCell ⟨b, 8, none⟩ (.func (.func 63) #[.pointer (some ⟨b, 0, none⟩)] #[])) 0 (.func (.func 63) #[.pointer (some ⟨b, 0, none⟩)] #[])) := Lib.hid (by unfold Clo; rw [hF0b])
  rw [HBE]
  clear hr2 hb2
  go_upto_region 3 with (fail)
  generalize w2.setCell ⟨b, 8, none⟩ (.func (.func 63) #[.pointer (some ⟨b, 0, none⟩)] #[]) = w3 at *
  clear c8 f8
  go_wp2
  go_loopw [8] (fun v8 wr => ∃ (m q : Nat) (V : Value), m + q = 5 ∧ v8 = .int .i64 (m : Nat) ∧ Hid (wr.rowIs b 112 11 (rcF A n c en X V 0 0)) ∧ Hid (Clo F0 wr q V) ∧ Hid (Below w.heap.size w wr)) (fun v8 _ => (intOf v8).toNat)
  case atStart => exact ⟨5, 0, _, rfl, rfl, HR3, HC3, HB3⟩
  case round =>
    obtain ⟨m, q, V, hmq, rfl, HR, HC, HB⟩ := hrel
    by_cases h0 : 0 < m
    · have hm0 : (0 : Int) < (m : Int) := by omega
      have hm9 : (m : Int) ≤ 5 := by omega
      have c8 : wr.cell? ⟨b, 8, none⟩ = some V := HR.out.cell (i := 8) (by decide)
      have hbl : b < wr.heap.size := HR.out.lt
      have hrw := row_any F0 m V wr (by rw [hF0b]; exact hbl) HC.out.func
      rw [hF0b] at hrw
      have HRW := Lib.hid hrw
      clear hrw
      go_wp2_with fail
      refine HRW.out.mono ?_
      rintro e w5 ⟨nb, rx, mb, sb, mp, rfl, hcl5, hb5⟩
      have HR5 : Hid (w5.rowIs b 112 11 (rcF A n c en X V 0 0)) := Lib.hid (HR.out.of_block (hb5.block _ hbl))
      have HC5 : Hid (Clo F0 w5 q V) := Lib.hid (HC.out.turn (Turn.of_below hb5))
      have HB5 := Lib.hid (bthen HB.out hb5)
      have HCL5 := Lib.hid hcl5
      clear hcl5 hb5 c8
      obtain ⟨l5, HV0⟩ : ∃ l5 : Array Value, l5 = #[.pointer (some ⟨nb, 0, none⟩), .pointer (some ⟨rx, 0, none⟩), .pointer (some ⟨mb, 0, none⟩), .pointer (some ⟨sb, 0, none⟩)] := ⟨_, rfl⟩
      rw [← HV0]
      have HV5 : Hid (.func (.func 103) #[] l5 = Value.func (.func 103) #[] #[.pointer (some ⟨nb, 0, none⟩), .pointer (some ⟨rx, 0, none⟩), .pointer (some ⟨mb, 0, none⟩), .pointer (some ⟨sb, 0, none⟩)]) := Lib.hid (by rw [HV0])
      clear HV0
      have c8 : w5.cell? ⟨b, 8, none⟩ = some V := HR5.out.cell (i := 8) (by decide)
      have f8 := HR5.out.frozen 8
      have HR6 := Lib.hid (rc_set HR5.out (.func (.func 103) #[] l5))
      have T6 : Tn F0 w5 (w5.setCell ⟨b, 8, none⟩ (.func (.func 103) #[] l5)) := by
        have := tn_set (F := F0) (Turn.refl _ w5) 8 (.func (.func 103) #[] l5)
        rw [hF0b] at this
        exact this
      have HC6 : Hid (Clo F0 (w5.setCell ⟨b, 8, none⟩ (.func (.func 103) #[] l5)) (q + 1) (.func (.func 103) #[] l5)) := Lib.hid ⟨nb, rx, mb, sb, mp, V, HV5.out, by rw [show 5 - q = m by omega]; exact HCL5.out.turn T6, HC5.out.turn T6⟩
      have HB6 : Hid (Below w.heap.size w (w5.setCell ⟨b, 8, none⟩ (.func (.func 103) #[] l5))) := Lib.hid (below_put HB5.out b hwb 8 (.func (.func 103) #[] l5))
      clear T6
      go_upto_region 5 with (fail)
      generalize w5.setCell ⟨b, 8, none⟩ (.func (.func 103) #[] l5) = w6 at *
      clear c8 f8
      have hw6 : wrap64 ((m : Int) - 1) = ((m - 1 : Nat) : Int) := by unfold wrap64; omega
      go_wp2
      go_roundw
      case rel => exact ⟨m - 1, q + 1, (.func (.func 103) #[] l5), by omega, by go_num, HR6, HC6, HB6⟩
      case measure => simp [intOf]; omega
    · obtain rfl : m = 0 := by omega
      obtain rfl : q = 5 := by omega
      go_wp2
      go_ret
      refine ⟨b, V, rfl, ⟨A, c, ?_⟩, HC.out.other hF0b, HB.out⟩
      rw [← HN] at HR
      exact ⟨HR.out, hA, hcap, hwb, HB.out, hnm, hnum, hmost, hlens, htxt⟩
end Go.Proofs.YtmnigdphikoljaaGreatDoor.et
