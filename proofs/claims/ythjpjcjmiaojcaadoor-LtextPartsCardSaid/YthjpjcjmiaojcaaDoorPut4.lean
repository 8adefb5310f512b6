/- Contracts that the claim stands on, several texts in one: LtxOps, LtxNames, LtlNd, LtxRdr. -/
import Derived.Deep.MidRow
import Derived.Deep.RegionHeld3
import Derived.Deep.Cut
import Derived.Lib.OwnKind
import Derived.Deep.RegionLaw
import Derived.Lib.BufferWrite
import Derived.Test.YthjpjcjmiaojcaaDoorPut1
import Derived.Test.YthjpjcjmiaojcaaDoorPut2
import Derived.Test.YthjpjcjmiaojcaaDoorPut3
namespace Go.Proofs.YthjpjcjmiaojcaaDoor.tx
open Go.ChangeShapes Go.WideShapes Go.ChangeAt Go.RowKit Go.Deep

def sgA (o : Opr) : ByteArray := ⟨o.sg.toArray⟩
/-- An operation as a value, as cells. -/
def oC (o : Opr) : List Value := [.int .i64 o.op, .string (sgA o), .int .i64 o.bd, .int .i64 o.lf, .int .i64 o.rt]
def oV (o : Opr) : Value := .agg #[.int .i64 o.op, .string (sgA o), .int .i64 o.bd, .int .i64 o.lf, .int .i64 o.rt]
/-- The table lies where the program has it. -/
def OpsW (w : World) : Prop := w.rangeAt 0 0 (opsQ.flatMap oC)
theorem OpsW.below {w w' : World} (h : OpsW w) (hg : 0 < w.heap.size) (hb : Below w.heap.size w w') : OpsW w' := fun j v hv => by
  have := h j v hv
  exact (hb.cell (p := ⟨0, 0 + j, none⟩) hg).trans this
theorem OpsW.lt {w : World} (h : OpsW w) : 0 < w.heap.size := by
  have h0 := h 0 (.int .i64 1) rfl
  rcases Nat.lt_or_ge 0 w.heap.size with hlt | hge
  · exact hlt
  · simp [World.cell?, Array.getElem?_eq_none hge] at h0
theorem OpsW.keep {w w' : World} (h : OpsW w) (hb : Below w.heap.size w w') : OpsW w' := h.below h.lt hb
def WrP (r : Option Opr) (w : World) (e : Ending) (w' : World) : Prop := e = .returned (.tuple #[oV (r.getD brO), .bool r.isSome]) ∧ Below w.heap.size w w'
set_option maxRecDepth 100000 in
theorem ops_at {k : Nat} (hk : k < 11) (W : World) : (Instr.index 82 (.agg (opsQ.flatMap oC).toArray) (.int .i64 (k : Int))).run Tryd.prog W = .ok (oV (opsQ.getD k default)) W := by
  have h : k = 0 ∨ k = 1 ∨ k = 2 ∨ k = 3 ∨ k = 4 ∨ k = 5 ∨ k = 6 ∨ k = 7 ∨ k = 8 ∨ k = 9 ∨ k = 10 := by omega
  rcases h with h | h | h | h | h | h | h | h | h | h | h
  all_goals (subst h; show _ = _; first | rfl | kernel_rfl)
theorem find_take {p : Opr → Bool} {k : Nat} (h : (opsQ.take k).find? p = none) (hk : k < 11) : (p (opsQ.getD k default) = false → (opsQ.take (k + 1)).find? p = none) ∧ (p (opsQ.getD k default) = true → opsQ.find? p = some (opsQ.getD k default)) := by
  have hl : k < opsQ.length := hk
  have e : opsQ.getD k default = opsQ[k] := by simp [List.getD, hl]
  rw [e]
  constructor
  · intro hp
    rw [List.take_succ_eq_append_getElem hl, List.find?_append, h]
    simp [hp]
  · intro hp
    have h2 : (opsQ.take k ++ (opsQ[k] :: opsQ.drop (k + 1))).find? p = some opsQ[k] := by
      rw [List.find?_append, h, Option.none_or, List.find?_cons_of_pos hp]
    rw [← List.drop_eq_getElem_cons hl, List.take_append_drop] at h2
    exact h2
/-- An operation's cells that the call itself made. -/
def ZO (W : World) (b : Nat) : Prop := W.cell? ⟨b, 0, none⟩ = some (.int .i64 0) ∧ W.cell? ⟨b, 1, none⟩ = some (.string ⟨#[]⟩) ∧ W.cell? ⟨b, 2, none⟩ = some (.int .i64 0) ∧ W.cell? ⟨b, 3, none⟩ = some (.int .i64 0) ∧ W.cell? ⟨b, 4, none⟩ = some (.int .i64 0) ∧ b < W.heap.size ∧ ∀ i, W.frozen? ⟨b, i, none⟩ = false
theorem frozen_below {W W' : World} (k : Below W.heap.size W W') {b i : Nat} (h : b < W.heap.size) : W'.frozen? ⟨b, i, none⟩ = W.frozen? ⟨b, i, none⟩ := World.frozen?_of_block (w := W) (k.block b h)
theorem ZO.below {W W' : World} {b : Nat} (h : ZO W b) (k : Below W.heap.size W W') : ZO W' b := by
  obtain ⟨h0, h1, h2, h3, h4, h5, h6⟩ := h
  exact ⟨(k.cell (p := ⟨b, 0, none⟩) h5).trans h0, (k.cell (p := ⟨b, 1, none⟩) h5).trans h1, (k.cell (p := ⟨b, 2, none⟩) h5).trans h2, (k.cell (p := ⟨b, 3, none⟩) h5).trans h3, (k.cell (p := ⟨b, 4, none⟩) h5).trans h4, Nat.lt_of_lt_of_le h5 k.size, fun i => (frozen_below k h5).trans (h6 i)⟩
theorem ZO.made (w : World) (t : TypeId) : ZO (w.alloc (.cells #[.int .i64 0, .string ⟨#[]⟩, .int .i64 0, .int .i64 0, .int .i64 0] t)) w.heap.size :=
  ⟨World.cell?_alloc_at _ _ _ _ (by simp), World.cell?_alloc_at _ _ _ _ (by simp), World.cell?_alloc_at _ _ _ _ (by simp), World.cell?_alloc_at _ _ _ _ (by simp), World.cell?_alloc_at _ _ _ _ (by simp), by simp, fun i => World.frozen?_alloc_at _ _ _ _ (by simp)⟩
theorem below5 {b : Nat} {w w' : World} (h : Below b w w') (v0 v1 v2 v3 v4 : Value) : Below b w (((((w'.setCell ⟨b, 0, none⟩ v0).setCell ⟨b, 1, none⟩ v1).setCell ⟨b, 2, none⟩ v2).setCell ⟨b, 3, none⟩ v3).setCell ⟨b, 4, none⟩ v4) :=
  ((((h.setCell (Nat.le_refl _) _).setCell (Nat.le_refl _) _).setCell (Nat.le_refl _) _).setCell (Nat.le_refl _) _).setCell (Nat.le_refl _) _
set_option maxRecDepth 100000 in
set_option maxHeartbeats 4000000 in
theorem written_any (s : ByteArray) (w : World) (hO : OpsW w) : Calls Tryd.prog 24 #[.string s] w (WrP (wrO s.data.toList) w) := by
  have HI : Hid (∀ k : Nat, k < 11 → ∀ W : World, (Instr.index 82 (.agg (opsQ.flatMap oC).toArray) (.int .i64 (k : Int))).run Tryd.prog W = .ok (oV (opsQ.getD k default)) W) := Lib.hid (fun k hk W => ops_at hk W)
  have hlen : (Tryd.prog.info? 82).map (·.size) = some (opsQ.flatMap oC).length := by kernel_rfl
  have HLEN := Lib.hid hlen
  have HB1 : Hid (Below w.heap.size w (w.alloc (.cells #[.int .i64 0, .string ⟨#[]⟩, .int .i64 0, .int .i64 0, .int .i64 0] 58))) := Lib.hid (below_one _ _)
  have HR1 := Lib.hid (OpsW.keep hO HB1.out)
  have HZ1 : Hid (ZO (w.alloc (.cells #[.int .i64 0, .string ⟨#[]⟩, .int .i64 0, .int .i64 0, .int .i64 0] 58)) w.heap.size) := Lib.hid (ZO.made _ _)
  clear hO hlen
  obtain ⟨b, HBN⟩ : ∃ b, Hid (b = w.heap.size) := ⟨_, Lib.hid rfl⟩
  obtain ⟨gl, HGL⟩ : ∃ gl, Hid (opsQ.flatMap oC = gl) := ⟨_, Lib.hid rfl⟩
  unfold OpsW at HR1
  rw [HGL.out] at HI HLEN HR1
  obtain ⟨R, HRS⟩ : ∃ R, Hid (wrO s.data.toList = R) := ⟨_, Lib.hid rfl⟩
  rw [HRS.out]
  go_enter Tryd.func24, Tryd.ntmps24
  go_upto_region 1 with (fail)
  rw [← HBN.out] at HB1 HZ1 ⊢
  generalize w.alloc (.cells #[.int .i64 0, .string ⟨#[]⟩, .int .i64 0, .int .i64 0, .int .i64 0] 58) = w1 at *
  have HS1 : Hid (b ≤ w1.heap.size) := Lib.hid (Nat.le_of_lt HZ1.out.2.2.2.2.2.1)
  go_wp2_with (refine wpList_load_mid rfl 82 (.global 0) rfl 0 0 rfl gl _ HR1.out Tryd.underlying82 rfl HLEN.out ?_)
  go_loopw [7] (fun i wr => ∃ k : Nat, k ≤ 11 ∧ i = .int .i64 k ∧ Hid ((opsQ.take k).find? (fun o : Opr => o.sg == s.data.toList) = none) ∧ Hid (Below w1.heap.size w1 wr)) (fun i _ => 11 - (intOf i).toNat)
  case atStart => exact ⟨0, by omega, rfl, Lib.hid rfl, Lib.hid (Below.refl _ _)⟩
  case round =>
    obtain ⟨k, hk, rfl, HF, HB⟩ := hrel
    by_cases hlt : k < 11
    · have h1 := HI.out k hlt
      have HFT := Lib.hid (find_take HF.out hlt)
      obtain ⟨o, HOO⟩ : ∃ o, Hid (opsQ.getD k default = o) := ⟨_, Lib.hid rfl⟩
      rw [HOO.out] at h1 HFT
      unfold oV at h1
      obtain ⟨op, sg, bd, lf, rt⟩ := o
      simp only [sgA] at h1
      obtain ⟨sb, HSB⟩ : ∃ sb : ByteArray, Hid (sb = ⟨sg.toArray⟩) := ⟨_, Lib.hid rfl⟩
      rw [← HSB.out] at h1
      obtain ⟨q, HP⟩ : ∃ q, Hid ((fun o : Opr => o.sg == s.data.toList) ⟨op, sg, bd, lf, rt⟩ = q) := ⟨_, Lib.hid rfl⟩
      have hq : (sb.toList == s.toList) = q := by
        rw [← HP.out, ByteArray.toList_eq, ByteArray.toList_eq, HSB.out]
      have hk11 : (k : Int) < 11 := by omega
      cases q with
      | true =>
        have HE : Hid (R = some ⟨op, sg, bd, lf, rt⟩) := Lib.hid (by rw [← HRS.out]; exact HFT.out.2 HP.out)
        have HZW := Lib.hid ((HZ1.out.below HB.out).below (below_one wr (.cells #[.int .i64 op, .string sb, .int .i64 bd, .int .i64 lf, .int .i64 rt] 58)))
        have HBW : Hid (Below b w (wr.alloc (.cells #[.int .i64 op, .string sb, .int .i64 bd, .int .i64 lf, .int .i64 rt] 58))) := Lib.hid ((HB1.out.trans (HB.out.mono HS1.out)).alloc (Nat.le_trans HS1.out HB.out.size) _)
        have z0 := HZW.out.1
        have z1 := HZW.out.2.1
        have z2 := HZW.out.2.2.1
        have z3 := HZW.out.2.2.2.1
        have z4 := HZW.out.2.2.2.2.1
        have f0 := HZW.out.2.2.2.2.2.2 0
        have f1 := HZW.out.2.2.2.2.2.2 1
        have f2 := HZW.out.2.2.2.2.2.2 2
        have f3 := HZW.out.2.2.2.2.2.2 3
        have f4 := HZW.out.2.2.2.2.2.2 4
        go_wp2
        (try simp only [Exit.inBlock, Exit.then])
        refine bodyPost_ret (v := .tuple #[.agg #[.int .i64 op, .string sb, .int .i64 bd, .int .i64 lf, .int .i64 rt], .bool true]) ?_ rfl ⟨by rw [HE.out, HSB.out]; rfl, ?_⟩
        · rw [results_cell_tmp rfl]; go_simp
        · rw [← HBN.out]
          exact below5 HBW.out _ _ _ _ _
      | false =>
        have HE : Hid ((opsQ.take (k + 1)).find? (fun o : Opr => o.sg == s.data.toList) = none) := Lib.hid (HFT.out.1 HP.out)
        have hwz : w1.heap.size ≤ wr.heap.size := HB.out.size
        go_wp2
        go_roundw
        case rel => exact ⟨k + 1, by omega, by go_num, HE, Lib.hid (HB.out.alloc hwz _)⟩
        case measure => simp [intOf]; omega
    · obtain rfl : k = 11 := by omega
      have HE : Hid (R = none) := Lib.hid (by rw [← HRS.out]; exact HF.out)
      have HZW := Lib.hid (HZ1.out.below HB.out)
      have HBW : Hid (Below b w wr) := Lib.hid (HB1.out.trans (HB.out.mono HS1.out))
      have z0 := HZW.out.1
      have z1 := HZW.out.2.1
      have z2 := HZW.out.2.2.1
      have z3 := HZW.out.2.2.2.1
      have z4 := HZW.out.2.2.2.2.1
      have f0 := HZW.out.2.2.2.2.2.2 0
      have f1 := HZW.out.2.2.2.2.2.2 1
      have f2 := HZW.out.2.2.2.2.2.2 2
      have f3 := HZW.out.2.2.2.2.2.2 3
      have f4 := HZW.out.2.2.2.2.2.2 4
      go_wp2
      (try simp only [Exit.inBlock, Exit.then])
      refine bodyPost_ret (v := .tuple #[.agg #[.int .i64 0, .string ⟨#[]⟩, .int .i64 0, .int .i64 0, .int .i64 0], .bool false]) ?_ rfl ⟨by rw [HE.out]; rfl, ?_⟩
      · rw [results_cell_tmp rfl]; go_simp
      · rw [← HBN.out]
        exact below5 HBW.out _ _ _ _ _
set_option maxRecDepth 100000 in
set_option maxHeartbeats 4000000 in
theorem operationOf_any (x : Int) (w : World) (hO : OpsW w) : Calls Tryd.prog 27 #[.int .i64 x] w (WrP (opO x) w) := by
  have HI : Hid (∀ k : Nat, k < 11 → ∀ W : World, (Instr.index 82 (.agg (opsQ.flatMap oC).toArray) (.int .i64 (k : Int))).run Tryd.prog W = .ok (oV (opsQ.getD k default)) W) := Lib.hid (fun k hk W => ops_at hk W)
  have hlen : (Tryd.prog.info? 82).map (·.size) = some (opsQ.flatMap oC).length := by kernel_rfl
  have HLEN := Lib.hid hlen
  have HB1 : Hid (Below w.heap.size w (w.alloc (.cells #[.int .i64 0, .string ⟨#[]⟩, .int .i64 0, .int .i64 0, .int .i64 0] 58))) := Lib.hid (below_one _ _)
  have HR1 := Lib.hid (OpsW.keep hO HB1.out)
  have HZ1 : Hid (ZO (w.alloc (.cells #[.int .i64 0, .string ⟨#[]⟩, .int .i64 0, .int .i64 0, .int .i64 0] 58)) w.heap.size) := Lib.hid (ZO.made _ _)
  clear hO hlen
  obtain ⟨b, HBN⟩ : ∃ b, Hid (b = w.heap.size) := ⟨_, Lib.hid rfl⟩
  obtain ⟨gl, HGL⟩ : ∃ gl, Hid (opsQ.flatMap oC = gl) := ⟨_, Lib.hid rfl⟩
  unfold OpsW at HR1
  rw [HGL.out] at HI HLEN HR1
  obtain ⟨R, HRS⟩ : ∃ R, Hid (opO x = R) := ⟨_, Lib.hid rfl⟩
  rw [HRS.out]
  go_enter Tryd.func27, Tryd.ntmps27
  go_upto_region 1 with (fail)
  rw [← HBN.out] at HB1 HZ1 ⊢
  generalize w.alloc (.cells #[.int .i64 0, .string ⟨#[]⟩, .int .i64 0, .int .i64 0, .int .i64 0] 58) = w1 at *
  have HS1 : Hid (b ≤ w1.heap.size) := Lib.hid (Nat.le_of_lt HZ1.out.2.2.2.2.2.1)
  go_wp2_with (refine wpList_load_mid rfl 82 (.global 0) rfl 0 0 rfl gl _ HR1.out Tryd.underlying82 rfl HLEN.out ?_)
  go_loopw [7] (fun i wr => ∃ k : Nat, k ≤ 11 ∧ i = .int .i64 k ∧ Hid ((opsQ.take k).find? (fun o : Opr => o.op == x) = none) ∧ Hid (Below w1.heap.size w1 wr)) (fun i _ => 11 - (intOf i).toNat)
  case atStart => exact ⟨0, by omega, rfl, Lib.hid rfl, Lib.hid (Below.refl _ _)⟩
  case round =>
    obtain ⟨k, hk, rfl, HF, HB⟩ := hrel
    by_cases hlt : k < 11
    · have h1 := HI.out k hlt
      have HFT := Lib.hid (find_take HF.out hlt)
      obtain ⟨o, HOO⟩ : ∃ o, Hid (opsQ.getD k default = o) := ⟨_, Lib.hid rfl⟩
      rw [HOO.out] at h1 HFT
      unfold oV at h1
      obtain ⟨op, sg, bd, lf, rt⟩ := o
      simp only [sgA] at h1
      obtain ⟨sb, HSB⟩ : ∃ sb : ByteArray, Hid (sb = ⟨sg.toArray⟩) := ⟨_, Lib.hid rfl⟩
      rw [← HSB.out] at h1
      obtain ⟨q, HP⟩ : ∃ q, Hid ((fun o : Opr => o.op == x) ⟨op, sg, bd, lf, rt⟩ = q) := ⟨_, Lib.hid rfl⟩
      have hq : (op == x) = q := by rw [← HP.out]
      have hk11 : (k : Int) < 11 := by omega
      cases q with
      | true =>
        have HE : Hid (R = some ⟨op, sg, bd, lf, rt⟩) := Lib.hid (by rw [← HRS.out]; exact HFT.out.2 HP.out)
        have HZW := Lib.hid ((HZ1.out.below HB.out).below (below_one wr (.cells #[.int .i64 op, .string sb, .int .i64 bd, .int .i64 lf, .int .i64 rt] 58)))
        have HBW : Hid (Below b w (wr.alloc (.cells #[.int .i64 op, .string sb, .int .i64 bd, .int .i64 lf, .int .i64 rt] 58))) := Lib.hid ((HB1.out.trans (HB.out.mono HS1.out)).alloc (Nat.le_trans HS1.out HB.out.size) _)
        have z0 := HZW.out.1
        have z1 := HZW.out.2.1
        have z2 := HZW.out.2.2.1
        have z3 := HZW.out.2.2.2.1
        have z4 := HZW.out.2.2.2.2.1
        have f0 := HZW.out.2.2.2.2.2.2 0
        have f1 := HZW.out.2.2.2.2.2.2 1
        have f2 := HZW.out.2.2.2.2.2.2 2
        have f3 := HZW.out.2.2.2.2.2.2 3
        have f4 := HZW.out.2.2.2.2.2.2 4
        go_wp2
        (try simp only [Exit.inBlock, Exit.then])
        refine bodyPost_ret (v := .tuple #[.agg #[.int .i64 op, .string sb, .int .i64 bd, .int .i64 lf, .int .i64 rt], .bool true]) ?_ rfl ⟨by rw [HE.out, HSB.out]; rfl, ?_⟩
        · rw [results_cell_tmp rfl]; go_simp
        · rw [← HBN.out]
          exact below5 HBW.out _ _ _ _ _
      | false =>
        have HE : Hid ((opsQ.take (k + 1)).find? (fun o : Opr => o.op == x) = none) := Lib.hid (HFT.out.1 HP.out)
        have hwz : w1.heap.size ≤ wr.heap.size := HB.out.size
        go_wp2
        go_roundw
        case rel => exact ⟨k + 1, by omega, by go_num, HE, Lib.hid (HB.out.alloc hwz _)⟩
        case measure => simp [intOf]; omega
    · obtain rfl : k = 11 := by omega
      have HE : Hid (R = none) := Lib.hid (by rw [← HRS.out]; exact HF.out)
      have HZW := Lib.hid (HZ1.out.below HB.out)
      have HBW : Hid (Below b w wr) := Lib.hid (HB1.out.trans (HB.out.mono HS1.out))
      have z0 := HZW.out.1
      have z1 := HZW.out.2.1
      have z2 := HZW.out.2.2.1
      have z3 := HZW.out.2.2.2.1
      have z4 := HZW.out.2.2.2.2.1
      have f0 := HZW.out.2.2.2.2.2.2 0
      have f1 := HZW.out.2.2.2.2.2.2 1
      have f2 := HZW.out.2.2.2.2.2.2 2
      have f3 := HZW.out.2.2.2.2.2.2 3
      have f4 := HZW.out.2.2.2.2.2.2 4
      go_wp2
      (try simp only [Exit.inBlock, Exit.then])
      refine bodyPost_ret (v := .tuple #[.agg #[.int .i64 0, .string ⟨#[]⟩, .int .i64 0, .int .i64 0, .int .i64 0], .bool false]) ?_ rfl ⟨by rw [HE.out]; rfl, ?_⟩
      · rw [results_cell_tmp rfl]; go_simp
      · rw [← HBN.out]
        exact below5 HBW.out _ _ _ _ _
end Go.Proofs.YthjpjcjmiaojcaaDoor.tx
namespace Go.Proofs.YthjpjcjmiaojcaaDoor.tx
open Go.ChangeShapes Go.WideShapes Go.ChangeAt Go.RowKit Go.Deep sr

def encS (x : ByteArray) : List Value := [.string x]
theorem encS_len (x : ByteArray) : (encS x).length = 1 := rfl
theorem str_at {w : World} {A : Option Addr} {l : List ByteArray} (h : RS encS 1 w A l) {i : Nat} (hi : i < l.length) : ∃ b off, A = some ⟨b, off, none⟩ ∧ b < w.heap.size ∧ w.cell? ⟨b, off + i, none⟩ = some (.string (l.getD i default)) := by
  obtain ⟨b, off, e, hb, hc⟩ := h (by omega)
  refine ⟨b, off, e, hb, ?_⟩
  have := hc i hi 0 (by omega)
  rw [Nat.mul_one, Nat.add_zero] at this
  exact this
/-- Where a text stands first, counted from k; -1: nowhere. -/
def ixF : List ByteArray → ByteArray → Nat → Int
  | [], _, _ => -1
  | x :: l, s, k => if x = s then (k : Int) else ixF l s (k + 1)
theorem ixF_range : ∀ (l : List ByteArray) (s : ByteArray) (k : Nat), ixF l s k = -1 ∨ ((k : Int) ≤ ixF l s k ∧ ixF l s k < k + l.length)
  | [], _, _ => .inl rfl
  | x :: l, s, k => by
    unfold ixF
    split
    · right; simp only [List.length_cons]; omega
    · have := ixF_range l s (k + 1)
      simp only [List.length_cons]
      omega
theorem ixF_drop {l : List ByteArray} {s : ByteArray} {i : Nat} (hi : i < l.length) : ixF (l.drop i) s i = if l.getD i default = s then (i : Int) else ixF (l.drop (i + 1)) s (i + 1) := by
  have e : l.getD i default = l[i] := by simp [List.getD, hi]
  rw [e, List.drop_eq_getElem_cons hi, ixF]
theorem str_eq (a b : ByteArray) : (a.toList == b.toList) = decide (a = b) := by
  rw [ByteArray.toList_eq, ByteArray.toList_eq]
  by_cases h : a = b
  · rw [h]; simp
  · rw [decide_eq_false h, beq_eq_false_iff_ne]
    intro h2
    exact h (bytes_inj h2)
set_option maxHeartbeats 1000000 in
theorem index_str (A : Option Addr) (n c : Nat) (l : List ByteArray) (s : ByteArray) (w : World) (hn : n = l.length) (hz : n ≤ 1000000) (hA : RS encS 1 w A l) :
    Calls Tryd.prog 43 #[.slice A n c, .string s] w fun e w' => e = .returned (.int .i64 (ixF l s 0)) ∧ w = w' := by
  have HN := Lib.hid hn
  have HA := Lib.hid hA
  obtain ⟨z, HZ⟩ : ∃ z, Hid (ixF l s 0 = z) := ⟨_, Lib.hid rfl⟩
  rw [HZ.out]
  clear hn hA
  go_enter Tryd.func43, Tryd.ntmps43
  go_wp2
  go_loop [8] (fun iv => ∃ i : Nat, i ≤ n ∧ iv = .int .i64 i ∧ Hid (z = ixF (l.drop i) s i)) (fun iv => n - (intOf iv).toNat)
  case atStart => exact ⟨0, Nat.zero_le _, rfl, Lib.hid HZ.out.symm⟩
  case round =>
    obtain ⟨i, hi, rfl, HF⟩ := hrel
    by_cases hlt : i < n
    · have hil : i < l.length := by rw [← HN.out]; exact hlt
      obtain ⟨b, o, rfl, hb, c1⟩ := str_at HA.out hil
      have HD := Lib.hid (ixF_drop (s := s) hil)
      obtain ⟨x, HX⟩ : ∃ x, Hid (l.getD i default = x) := ⟨_, Lib.hid rfl⟩
      rw [HX.out] at c1 HD
      obtain ⟨q, HQ⟩ : ∃ q, Hid (decide (s = x) = q) := ⟨_, Lib.hid rfl⟩
      have hq : (s.toList == x.toList) = q := by rw [str_eq]; exact HQ.out
      clear hil
      cases q with
      | true =>
        have HE : Hid (z = i) := Lib.hid (by rw [HF.out, HD.out, if_pos (of_decide_eq_true HQ.out).symm])
        go_wp2
        go_ret
        exact ⟨by rw [HE.out]; rfl, rfl⟩
      | false =>
        have HE : Hid (z = ixF (l.drop (i + 1)) s (i + 1)) := Lib.hid (by rw [HF.out, HD.out, if_neg (fun h => (of_decide_eq_false HQ.out) h.symm)])
        go_wp2
        go_round
        case rel => exact ⟨i + 1, by omega, by go_num, HE⟩
        case measure => simp [intOf]; omega
    · obtain rfl : i = n := by omega
      have HE : Hid (z = -1) := Lib.hid (by rw [HF.out, HN.out, List.drop_length]; rfl)
      go_wp2
      go_ret
      exact ⟨by rw [HE.out]; rfl, rfl⟩
/-- Is a text among these? -/
def conB (l : List ByteArray) (s : ByteArray) : Bool := decide (0 ≤ ixF l s 0)
theorem contains_str (A : Option Addr) (n c : Nat) (l : List ByteArray) (s : ByteArray) (w : World) (hn : n = l.length) (hz : n ≤ 1000000) (hA : RS encS 1 w A l) :
    Calls Tryd.prog 26 #[.slice A n c, .string s] w fun e w' => e = .returned (.bool (conB l s)) ∧ w = w' := by
  have HK := Lib.hid (index_str A n c l s w hn hz hA)
  clear hn hA
  obtain ⟨z, HZ⟩ : ∃ z, Hid (ixF l s 0 = z) := ⟨_, Lib.hid rfl⟩
  have HC : Hid (conB l s = decide (0 ≤ z)) := Lib.hid (by unfold conB; rw [HZ.out])
  rw [HC.out]
  go_enter Tryd.func26, Tryd.ntmps26
  go_wp2_with fail
  refine HK.out.mono ?_
  rw [HZ.out]
  rintro e w' ⟨rfl, rfl⟩
  go_wp2
  go_ret
  exact ⟨rfl, rfl⟩
set_option maxRecDepth 20000 in
/-- The head of a slice of texts. -/
theorem heads_run (B : Option Addr) (k n d : Nat) (h : k ≤ n) (h2 : n ≤ d) (W : World) : (Instr.sliceAt 23 (.slice B n d) none (some (.int .i64 (k : Int))) none).run Tryd.prog W = .ok (.slice B k d) W := by
  have hsz : (sizeOf (Tryd.prog.elem 23)).run Tryd.prog W = .ok 1 W := by simp [go_sem]
  rw [run_sliceAt_slice (P := Tryd.prog) W 23 _ _ _ _ Tryd.underlying23, run_slice_h (P := Tryd.prog) W 23 B n d Tryd.underlying23 .i64 k (by omega) (by omega), hsz]
  cases B <;> simp [Result.andThen, sliced, Addr.add]

/-- A slice of names as it lies. -/
structure NmS (w : World) (A : Option Addr) (n c : Nat) (N : List ByteArray) : Prop where
  rs : RS encS 1 w A N
  ln : n = N.length
  le : n ≤ c
  mx : n ≤ 1000000
theorem NmS.below {w w' : World} {A : Option Addr} {n c : Nat} {N : List ByteArray} (h : NmS w A n c N) (hb : Below w.heap.size w w') : NmS w' A n c N := ⟨h.rs.below hb, h.ln, h.le, h.mx⟩
/-- May a proposition have the name there? -/
def mayB (N : List ByteArray) (i : Nat) : Bool := lx.nameB (N.getD i default) && (!(wrO (N.getD i default).data.toList).isSome && !conB (N.take i) (N.getD i default))
def BoolP (b : Bool) (w : World) (e : Ending) (w' : World) : Prop := e = .returned (.bool b) ∧ Below w.heap.size w w'
set_option maxRecDepth 20000 in
set_option maxHeartbeats 2000000 in
theorem mayBe_any (A : Option Addr) (n c i : Nat) (N : List ByteArray) (w : World) (h : NmS w A n c N) (hi : i < n) (hO : OpsW w) : Calls Tryd.prog 15 #[.slice A n c, .int .i64 i] w (BoolP (mayB N i) w) := by
  obtain ⟨b, o, rfl, hb, c1⟩ := str_at h.rs (i := i) (by rw [← h.ln]; exact hi)
  have H := Lib.hid h
  have HO := Lib.hid hO
  obtain ⟨s, HS⟩ : ∃ s, Hid (N.getD i default = s) := ⟨_, Lib.hid rfl⟩
  rw [HS.out] at c1
  obtain ⟨q1, HQ1⟩ : ∃ q, Hid (lx.nameB s = q) := ⟨_, Lib.hid rfl⟩
  obtain ⟨q3, HQ3⟩ : ∃ q, Hid (conB (N.take i) s = q) := ⟨_, Lib.hid rfl⟩
  obtain ⟨r, HR⟩ : ∃ r, Hid (wrO s.data.toList = r) := ⟨_, Lib.hid rfl⟩
  obtain ⟨r2, HR2⟩ : ∃ q, Hid (r.isSome = q) := ⟨_, Lib.hid rfl⟩
  have HM : Hid (mayB N i = (q1 && (!r2 && !q3))) := Lib.hid (by unfold mayB; rw [HS.out, HQ1.out, HQ3.out, HR.out, HR2.out])
  rw [HM.out]
  have EH := heads_run (some ⟨b, o, none⟩) i n c (Nat.le_of_lt hi) h.le
  clear h hO
  go_enter Tryd.func15, Tryd.ntmps15
  go_wp2_with fail
  refine (written_any s w HO.out).mono ?_
  rw [HR.out]
  rintro e w1 ⟨rfl, hb1⟩
  have HB1 : Hid (Below w.heap.size w (w1.alloc (.cells #[.int .i64 (r.getD brO).op, .string (sgA (r.getD brO)), .int .i64 (r.getD brO).bd, .int .i64 (r.getD brO).lf, .int .i64 (r.getD brO).rt] 58))) := Lib.hid (hb1.alloc hb1.size _)
  clear hb1 c1
  unfold oV
  rw [HR2.out]
  go_upto_region 3 with (fail)
  generalize w1.alloc (.cells #[.int .i64 (r.getD brO).op, .string (sgA (r.getD brO)), .int .i64 (r.getD brO).bd, .int .i64 (r.getD brO).lf, .int .i64 (r.getD brO).rt] 58) = w2 at *
  go_wp2_with fail
  refine (lx.name_any s w2).mono ?_
  rw [HQ1.out]
  rintro e w3 ⟨rfl, hb3⟩
  have HB3 : Hid (Below w.heap.size w w3) := Lib.hid (HB1.out.trans (hb3.mono HB1.out.size))
  have HN3 : Hid (RS encS 1 w3 (some ⟨b, o, none⟩) (N.take i)) := Lib.hid (RS.take (H.out.rs.below HB3.out) i)
  have HL3 : Hid (i = (N.take i).length) := Lib.hid (by rw [List.length_take, ← H.out.ln]; omega)
  have HI3 : Hid (i ≤ 1000000) := Lib.hid (by have := H.out.mx; omega)
  clear hb3
  cases q1 with
  | false =>
    go_wp2
    go_ret
    exact ⟨rfl, HB3.out⟩
  | true =>
    cases r2 with
    | true =>
      go_wp2
      go_ret
      exact ⟨rfl, HB3.out⟩
    | false =>
      go_wp2_with fail
      refine (contains_str _ i c (N.take i) s w3 HL3.out HI3.out HN3.out).mono ?_
      rw [HQ3.out]
      rintro e w4 ⟨rfl, rfl⟩
      go_wp2
      go_ret
      exact ⟨by cases q3 <;> rfl, HB3.out⟩
/-- The proposition that has a name. -/
def prO (N : List ByteArray) (s : ByteArray) : Option Nat := if 0 ≤ ixF (N.take 8) s 0 ∧ mayB N (ixF (N.take 8) s 0).toNat = true then some (ixF (N.take 8) s 0).toNat else none
def PrP (r : Option Nat) (w : World) (e : Ending) (w' : World) : Prop := ∃ z : Int, e = .returned (.tuple #[.int .i64 z, .bool r.isSome]) ∧ (∀ i, r = some i → z = (i : Int)) ∧ Below w.heap.size w w'
set_option maxRecDepth 20000 in
set_option maxHeartbeats 2000000 in
theorem proposition_any (A : Option Addr) (n c : Nat) (N : List ByteArray) (s : ByteArray) (w : World) (h : NmS w A n c N) (hO : OpsW w) : Calls Tryd.prog 55 #[.slice A n c, .string s] w (PrP (prO N s) w) := by
  have H := Lib.hid h
  have HO := Lib.hid hO
  obtain ⟨m, hm⟩ : ∃ m, m = min n 8 := ⟨_, rfl⟩
  have hmn : m ≤ n := by omega
  have hmcap : m ≤ c := by have := h.le; omega
  have HTK : Hid (N.take 8 = N.take m) := Lib.hid (by
    by_cases h8 : n ≤ 8
    · rw [List.take_of_length_le (by rw [← h.ln]; exact h8), List.take_of_length_le (by rw [← h.ln]; omega)]
    · rw [show m = 8 by omega])
  have HX := Lib.hid (index_str A m c (N.take m) s w (by rw [List.length_take, ← h.ln]; omega) (by have := h.mx; omega) (RS.take h.rs m))
  have EH := heads_run A m n c hmn h.le
  have HRG := Lib.hid (ixF_range (N.take m) s 0)
  obtain ⟨z, HZ⟩ : ∃ z, Hid (ixF (N.take m) s 0 = z) := ⟨_, Lib.hid rfl⟩
  rw [HZ.out] at HRG
  have HP : Hid (prO N s = if 0 ≤ z ∧ mayB N z.toNat = true then some z.toNat else none) := Lib.hid (by unfold prO; rw [HTK.out, HZ.out])
  obtain ⟨R, HRE⟩ : ∃ R, Hid (prO N s = R) := ⟨_, Lib.hid rfl⟩
  rw [HRE.out] at HP ⊢
  have hmc : (n = m ∧ n ≤ 8) ∨ (m = 8 ∧ 8 < n) := by omega
  have hz := HRG.out
  have hlen : (N.take m).length = m := by rw [List.length_take, ← h.ln]; omega
  rw [hlen] at hz
  clear h hO hm hlen
  rcases hmc with ⟨e, h8⟩ | ⟨e, h8⟩ <;> subst e
  all_goals
    (try change ∀ W, (Instr.sliceAt 23 (.slice A n c) none (some (.int .i64 (8 : Int))) none).run Tryd.prog W = .ok (.slice A 8 c) W at EH)
    by_cases h0 : 0 ≤ z
    · obtain ⟨i, rfl⟩ : ∃ i : Nat, z = i := ⟨z.toNat, by omega⟩
      have hin : i < n := by omega
      have HMB := Lib.hid (mayBe_any A n c i N w H.out hin HO.out)
      obtain ⟨q, HQ⟩ : ∃ q, Hid (mayB N i = q) := ⟨_, Lib.hid rfl⟩
      have HPV : Hid ((if 0 ≤ (i : Int) ∧ mayB N (i : Int).toNat = true then some (i : Int).toNat else none) = if q = true then some i else none) := Lib.hid (by
        rw [Int.toNat_natCast, HQ.out]
        cases q <;> simp)
      have HPW : Hid (R = if q = true then some i else none) := Lib.hid (by rw [HP.out, HPV.out])
      clear hz HPV HP
      go_enter Tryd.func55, Tryd.ntmps55
      go_wp2_with fail
      with_reducible refine HX.out.mono ?_
      rw [HZ.out]
      rintro e w1 ⟨rfl, rfl⟩
      go_wp2_with fail
      refine HMB.out.mono ?_
      rw [HQ.out]
      rintro e w1 ⟨rfl, hb⟩
      have HB := Lib.hid hb
      clear hb
      cases q with
      | true =>
        have HR3 : Hid (R = some i) := Lib.hid HPW.out
        go_wp2
        go_ret2
        exact ⟨_, by rw [HR3.out]; rfl, (fun j hj => by rw [HR3.out] at hj; injection hj with hj; rw [hj]), HB.out⟩
      | false =>
        have HR3 : Hid (R = none) := Lib.hid HPW.out
        go_wp2
        go_ret2
        exact ⟨_, by rw [HR3.out]; rfl, (fun j hj => by rw [HR3.out] at hj; cases hj), HB.out⟩
    · have hneg : z < 0 := by omega
      have HPV : Hid ((if 0 ≤ z ∧ mayB N z.toNat = true then some z.toNat else none) = none) := Lib.hid (if_neg (fun h => h0 h.1))
      have HR3 : Hid (R = none) := Lib.hid (by rw [HP.out, HPV.out])
      clear hz HPV HP
      go_enter Tryd.func55, Tryd.ntmps55
      go_wp2_with fail
      with_reducible refine HX.out.mono ?_
      rw [HZ.out]
      rintro e w1 ⟨rfl, rfl⟩
      go_wp2
      go_ret2
      exact ⟨_, by rw [HR3.out]; rfl, (fun j hj => by rw [HR3.out] at hj; cases hj), Below.refl _ _⟩
end Go.Proofs.YthjpjcjmiaojcaaDoor.tx
namespace Go.Proofs.YthjpjcjmiaojcaaDoor.lt
open Go.ChangeShapes Go.WideShapes Go.ChangeAt Go.RowKit sr

def encN (x : Int × Int) : List Value := [.int .i64 x.1, .int .i64 x.2]
theorem encN_len (x : Int × Int) : (encN x).length = 2 := rfl
theorem encN_one (x : Int × Int) : ∀ u ∈ encN x, u.oneCell' = true := fun u hu => by
  simp [encN] at hu
  rcases hu with rfl | rfl <;> rfl
theorem infoN : (Tryd.prog.info? 39).map (fun i => (i.zero, i.size, i.bytes)) = some (some (.agg #[.int .i64 0, .int .i64 0]), 2, 16) := by kernel_rfl
theorem rs_pa {w : World} {A : Option Addr} {l : List (Int × Int)} (h : RS encN 2 w A l) : PA w A l := fun hn => by
  obtain ⟨b, off, e, hb, hc⟩ := h hn
  exact ⟨b, off, e, hb, fun i hi => ⟨hc i hi 0 (by decide), hc i hi 1 (by decide)⟩⟩
theorem pa_rs {w : World} {A : Option Addr} {l : List (Int × Int)} (h : PA w A l) : RS encN 2 w A l := fun hn => by
  obtain ⟨b, off, e, hb, hc⟩ := h hn
  refine ⟨b, off, e, hb, fun i hi j hj => ?_⟩
  obtain ⟨g1, g2⟩ := hc i hi
  rcases j with _ | _ | j
  · rw [Nat.add_zero, g1]; rfl
  · rw [g2]; rfl
  · omega
abbrev ON (base : Nat) (w : World) (v : Value) (l : List (Int × Int)) : Prop := OR encN 2 base 39 w v l
theorem on_empty (w : World) (base : Nat) (hb : base ≤ w.heap.size) : ON base (w.alloc (.cells #[] 39)) (.slice (some ⟨w.heap.size, 0, none⟩) 0 0) [] :=
  ⟨by simp [flatR], .inr ⟨w.heap.size, 0, #[], rfl, hb, World.alloc_heap_new _ _, Nat.le_refl _, Nat.zero_le _, by simp, by simp [flatR]⟩⟩
/-- append of all of a slice onto a row of the call's own, in a region that keeps its order. -/
theorem list_append_nodes {w : World} {ops : Array Oper} {rest : List Oper} {o : Oper} {a : Act} {Q : Exit → Act → World → Prop} (base : Nat) (hgd : o.guard = none) (s x : Operand)
    (ho : o.op = .call { callee := .builtin .append, args := #[s, x], argTypes := #[22, 22] }) (hty : o.type = 22) (v : Value) (l : List (Int × Int)) (hs : a.eval s = v) (hown : ON base w v l) (A : Option Addr) (m c : Nat) (l2 : List (Int × Int)) (hx : a.eval x = .slice A m c) (hm : m = l2.length) (hpos : 0 < m) (hA : PA w A l2) (hlen : l.length + m ≤ 100000) (hbase : base ≤ w.heap.size)
    (h : ∀ v' w', ON base w' v' (l ++ l2) → Below base w w' → wpList Tryd.prog ops Q rest (a.put o.dst v') w') :
    wpList Tryd.prog ops Q (o :: rest) a w := by
  obtain ⟨v', w', hr, h2, h3⟩ := run_append_rs encN_len encN_one Tryd.underlying22 infoN rfl (by decide) (by decide) (w := w) base v l hown A m c l2 hm hpos (pa_rs hA) (by omega) hbase
  exact Lib.wpList_append_run w hgd s x 22 22 ho v _ hs hx _ w' (by rw [hty]; exact hr) (h v' w' h2 (Below.grown (Below.refl _ _) h3 hbase (fun k hk => (World.ownsRow.lt hown k hk).1)))
theorem on_form {base : Nat} {w : World} {v : Value} {l : List (Int × Int)} (h : ON base w v l) : ∃ A c, v = .slice A l.length c ∧ PA w A l ∧ l.length ≤ c := by
  obtain ⟨A, c, e, hr⟩ := OR.rs encN_len h
  refine ⟨A, c, e, rs_pa hr, ?_⟩
  rcases h.2 with ⟨e2, h0⟩ | ⟨g, cap, cur, e2, _, _, h3, _⟩
  · omega
  · rw [e] at e2
    injection e2 with _ _ e3
    omega
end Go.Proofs.YthjpjcjmiaojcaaDoor.lt
namespace Go.Proofs.YthjpjcjmiaojcaaDoor.tx
open Go.ChangeShapes Go.WideShapes Go.ChangeAt Go.RowKit Go.Deep sr lt

/-- Four cells of a block that may be written. -/
structure Rc (w : World) (b : Nat) (v0 v1 v2 v3 : Value) : Prop where
  c0 : w.cell? ⟨b, 0, none⟩ = some v0
  c1 : w.cell? ⟨b, 1, none⟩ = some v1
  c2 : w.cell? ⟨b, 2, none⟩ = some v2
  c3 : w.cell? ⟨b, 3, none⟩ = some v3
  f : ∀ j, w.frozen? ⟨b, j, none⟩ = false
  lt : b < w.heap.size
theorem frozen_blk {w w' : World} {b j : Nat} (h : w'.heap[b]? = w.heap[b]?) : w'.frozen? ⟨b, j, none⟩ = w.frozen? ⟨b, j, none⟩ := by
  simp only [World.frozen?, h]
theorem Rc.lower {B : Nat} {w w' : World} {b : Nat} {v0 v1 v2 v3 : Value} (h : Rc w b v0 v1 v2 v3) (k : Below B w w') (hb : b < B) : Rc w' b v0 v1 v2 v3 :=
  ⟨(k.cell (p := ⟨b, 0, none⟩) hb).trans h.c0, (k.cell (p := ⟨b, 1, none⟩) hb).trans h.c1, (k.cell (p := ⟨b, 2, none⟩) hb).trans h.c2, (k.cell (p := ⟨b, 3, none⟩) hb).trans h.c3, fun j => (frozen_blk (k.block b hb)).trans (h.f j), Nat.lt_of_lt_of_le h.lt k.size⟩
theorem Rc.below {w w' : World} {b : Nat} {v0 v1 v2 v3 : Value} (h : Rc w b v0 v1 v2 v3) (k : Below w.heap.size w w') : Rc w' b v0 v1 v2 v3 := h.lower k h.lt
theorem Rc.new {w : World} {v0 v1 v2 v3 : Value} {t : TypeId} : Rc (w.alloc (.cells #[v0, v1, v2, v3] t)) w.heap.size v0 v1 v2 v3 :=
  ⟨World.cell?_alloc_at _ _ _ _ rfl, World.cell?_alloc_at _ _ _ _ rfl, World.cell?_alloc_at _ _ _ _ rfl, World.cell?_alloc_at _ _ _ _ rfl, fun j => World.frozen?_alloc_at _ _ _ _ rfl, by simp⟩
theorem rc_ne (b i j : Nat) (h : i ≠ j) : (⟨b, i, none⟩ : Addr) ≠ ⟨b, j, none⟩ := fun e => by
  injection e with _ e _
  exact h e
theorem frozen_set (w : World) (a : Addr) (v : Value) (p : Addr) : (w.setCell a v).frozen? p = w.frozen? p := by simp
theorem Rc.set1 {w : World} {b : Nat} {v0 v1 v2 v3 : Value} (h : Rc w b v0 v1 v2 v3) (v : Value) : Rc (w.setCell ⟨b, 1, none⟩ v) b v0 v v2 v3 :=
  ⟨(World.cell?_setCell_other _ _ _ _ (rc_ne b 1 0 (by decide))).trans h.c0, World.cell?_setCell_same _ _ _ h.c1, (World.cell?_setCell_other _ _ _ _ (rc_ne b 1 2 (by decide))).trans h.c2, (World.cell?_setCell_other _ _ _ _ (rc_ne b 1 3 (by decide))).trans h.c3, fun j => (frozen_set _ _ _ _).trans (h.f j), by simpa using h.lt⟩
theorem Rc.set2 {w : World} {b : Nat} {v0 v1 v2 v3 : Value} (h : Rc w b v0 v1 v2 v3) (v : Value) : Rc (w.setCell ⟨b, 2, none⟩ v) b v0 v1 v v3 :=
  ⟨(World.cell?_setCell_other _ _ _ _ (rc_ne b 2 0 (by decide))).trans h.c0, (World.cell?_setCell_other _ _ _ _ (rc_ne b 2 1 (by decide))).trans h.c1, World.cell?_setCell_same _ _ _ h.c2, (World.cell?_setCell_other _ _ _ _ (rc_ne b 2 3 (by decide))).trans h.c3, fun j => (frozen_set _ _ _ _).trans (h.f j), by simpa using h.lt⟩
theorem Rc.set3 {w : World} {b : Nat} {v0 v1 v2 v3 : Value} (h : Rc w b v0 v1 v2 v3) (v : Value) : Rc (w.setCell ⟨b, 3, none⟩ v) b v0 v1 v2 v :=
  ⟨(World.cell?_setCell_other _ _ _ _ (rc_ne b 3 0 (by decide))).trans h.c0, (World.cell?_setCell_other _ _ _ _ (rc_ne b 3 1 (by decide))).trans h.c1, (World.cell?_setCell_other _ _ _ _ (rc_ne b 3 2 (by decide))).trans h.c2, World.cell?_setCell_same _ _ _ h.c3, fun j => (frozen_set _ _ _ _).trans (h.f j), by simpa using h.lt⟩

theorem oC_len (x : Opr) : (oC x).length = 5 := rfl
theorem oC_one (x : Opr) : ∀ u ∈ oC x, u.oneCell' = true := fun u hu => by
  simp [oC] at hu
  rcases hu with rfl | rfl | rfl | rfl | rfl <;> rfl
theorem infoO : (Tryd.prog.info? 58).map (fun i => (i.zero, i.size, i.bytes)) = some (some (.agg #[.int .i64 0, .string ⟨#[]⟩, .int .i64 0, .int .i64 0, .int .i64 0]), 5, 48) := by kernel_rfl
/-- Rows of operations of the call's own. -/
abbrev OO (base : Nat) (w : World) (v : Value) (l : List Opr) : Prop := OR oC 5 base 58 w v l
theorem on_apart {b1 b2 : Nat} {w w' : World} {v lv : Value} {L : List (Int × Int)} {l : List Opr} (hO : ON b1 w v L) (hL : OO b2 w lv l) (hg : w.grownBy w' v.ownBlock) : OO b2 w' lv l := by
  refine World.ownsRow.kept hL hg ?_
  rcases hv : lv.ownBlock with _ | b
  · exact .inl rfl
  · refine .inr (fun e => ?_)
    obtain ⟨c1, f1, k1⟩ := Lib.ownsRow_kind hL b hv
    obtain ⟨c2, f2, k2⟩ := Lib.ownsRow_kind hO b e.symm
    rw [k1] at k2
    injection k2 with k2
    injection k2 with _ k2
    exact absurd k2 (by decide)
theorem oo_apart {b1 b2 : Nat} {w w' : World} {v lv : Value} {L : List (Int × Int)} {l : List Opr} (hO : OO b1 w v l) (hL : ON b2 w lv L) (hg : w.grownBy w' v.ownBlock) : ON b2 w' lv L := by
  refine World.ownsRow.kept hL hg ?_
  rcases hv : lv.ownBlock with _ | b
  · exact .inl rfl
  · refine .inr (fun e => ?_)
    obtain ⟨c1, f1, k1⟩ := Lib.ownsRow_kind hL b hv
    obtain ⟨c2, f2, k2⟩ := Lib.ownsRow_kind hO b e.symm
    rw [k1] at k2
    injection k2 with k2
    injection k2 with _ k2
    exact absurd k2 (by decide)
/-- The next step as a value. -/
def fv (bg : Bool) (rb : Nat) : Value := if bg = true then .func (.func 37) #[.pointer (some ⟨rb, 0, none⟩)] #[] else .func (.func 71) #[.pointer (some ⟨rb, 0, none⟩)] #[]
/-- The reader as it lies: in block rb, its rows behind it. -/
structure RdW (w : World) (rb : Nat) (NV : Value) (S : Rd) (vn vp : Value) : Prop where
  c : Rc w rb NV (fv S.bg rb) vn vp
  n : ON (rb + 1) w vn S.nd
  p : OO (rb + 1) w vp S.pd
theorem RdW.below {w w' : World} {rb : Nat} {NV : Value} {S : Rd} {vn vp : Value} (h : RdW w rb NV S vn vp) (k : Below w.heap.size w w') : RdW w' rb NV S vn vp := ⟨h.c.below k, OR.below h.n k, OR.below h.p k⟩
/-- Blocks of other kinds than these stay, the reader's own aside. -/
def Kp (ts : List TypeId) (rb : Nat) (w w' : World) : Prop := ∀ k, k < w.heap.size → k ≠ rb → (∀ c t f, w.heap[k]? = some (.cells c t f) → t ∉ ts) → w'.heap[k]? = w.heap[k]?
theorem Kp.trans {ts : List TypeId} {rb : Nat} {w w1 w2 : World} (h : Kp ts rb w w1) (h2 : Kp ts rb w1 w2) (hs : w.heap.size ≤ w1.heap.size) : Kp ts rb w w2 := fun k hk hr ht =>
  (h2 k (Nat.lt_of_lt_of_le hk hs) hr (fun c t f e => ht c t f ((h k hk hr ht).symm.trans e))).trans (h k hk hr ht)
theorem Kp.below {ts : List TypeId} {rb : Nat} {w w' : World} (h : Below w.heap.size w w') : Kp ts rb w w' := fun k hk _ _ => h.block k hk
theorem Kp.refl (ts : List TypeId) (rb : Nat) (w : World) : Kp ts rb w w := fun _ _ _ _ => rfl
theorem Kp.set {ts : List TypeId} {rb : Nat} {w w' : World} (h : Kp ts rb w w') (hs : w.heap.size ≤ w'.heap.size) (i : Nat) (v : Value) : Kp ts rb w (w'.setCell ⟨rb, i, none⟩ v) :=
  h.trans (fun k hk hr _ => (Lib.grownBy_setCell w' rb i v).block k hk (fun e => hr (by injection e))) hs
theorem Kp.grow {ts : List TypeId} {rb : Nat} {w X w' : World} {B : Nat} {e : TypeId} {size : Nat} {v : Value} {n : Nat} {xs : List Value} (hb : Below w.heap.size w X) (hg : X.grownBy w' v.ownBlock) (ho : w.ownsRow B e size v n xs) (he : e ∈ ts) : Kp ts rb w w' := fun k hk _ ht =>
  (hg.block k (Nat.lt_of_lt_of_le hk hb.size) (fun e2 => by
    obtain ⟨c, f, k1⟩ := Lib.ownsRow_kind ho k e2.symm
    exact ht _ _ _ k1 he)).trans (hb.block k hk)
theorem Kp.mono {ts ts' : List TypeId} {rb : Nat} {w w' : World} (h : Kp ts rb w w') (hs : ∀ t ∈ ts, t ∈ ts') : Kp ts' rb w w' := fun k hk hr ht => h k hk hr (fun c t f e hm => ht c t f e (hs t hm))
abbrev tsN : List TypeId := [39]
abbrev tsO : List TypeId := [39, 58]
/-- What a step leaves. -/
def StP (ts : List TypeId) (w : World) (rb : Nat) (NV : Value) (S : Rd) (w' : World) : Prop := (∃ vn vp, RdW w' rb NV S vn vp) ∧ Below rb w w' ∧ Kp ts rb w w'
def UnitP (ts : List TypeId) (w : World) (rb : Nat) (NV : Value) (S : Rd) (e : Ending) (w' : World) : Prop := e = .returned (.tuple #[]) ∧ StP ts w rb NV S w'
theorem StP.trans {ts ts' : List TypeId} {w w1 w2 : World} {rb : Nat} {NV : Value} {S : Rd} (hb : Below rb w w1) (hk : Kp ts rb w w1) (h : StP ts' w1 rb NV S w2) (hs : ∀ t ∈ ts', t ∈ ts) : StP ts w rb NV S w2 := ⟨h.1, hb.trans h.2.1, hk.trans (h.2.2.mono hs) hb.size⟩
/-- A function value is stored as anything else. -/
theorem store_func (W : World) (a : Addr) (f : Fn) (fs cs : Array Value) : (store a (.func f fs cs)).run Tryd.prog W = stored Tryd.prog W a (.func f fs cs) .plain := run_store Tryd.prog W a _ .plain rfl
theorem or_form {α : Type} [Inhabited α] {enc : α → List Value} {size base : Nat} {e : TypeId} {w : World} {v : Value} {l : List α} (hsz : ∀ x, (enc x).length = size) (h : OR enc size base e w v l) : ∃ A c q, v = .slice A q c := by
  obtain ⟨A, c, e, _⟩ := OR.rs hsz h
  exact ⟨A, c, _, e⟩
set_option maxRecDepth 20000 in
set_option maxHeartbeats 4000000 in
theorem leaf_any (rb : Nat) (NV : Value) (S : Rd) (vn vp : Value) (x y : Int) (w : World) (h : RdW w rb NV S vn vp) (hl : S.nd.length ≤ 100000) :
    Calls Tryd.prog 56 #[.pointer (some ⟨rb, 0, none⟩), .agg #[.int .i64 x, .int .i64 y]] w (UnitP tsN w rb NV (leafF (x, y) S)) := by
  have HL := Lib.hid hl
  obtain ⟨w1, HW1⟩ : ∃ w1, w1 = w.alloc (.cells #[.int .i64 x, .int .i64 y] 39) := ⟨_, rfl⟩
  have hb1 : Below w.heap.size w w1 := by rw [HW1]; exact below_one _ _
  have H1 := Lib.hid (h.below hb1)
  have HB1 : Hid (Below rb w w1) := Lib.hid (hb1.mono (Nat.le_of_lt h.c.lt))
  have HK1 : Hid (Kp tsN rb w w1) := Lib.hid (Kp.below hb1)
  have n0 : w1.cell? ⟨w.heap.size, 0, none⟩ = some (.int .i64 x) := by rw [HW1]; exact World.cell?_alloc_at _ _ _ _ rfl
  have n1 : w1.cell? ⟨w.heap.size, 1, none⟩ = some (.int .i64 y) := by rw [HW1]; exact World.cell?_alloc_at _ _ _ _ rfl
  obtain ⟨A, c, e, _⟩ := OR.rs encN_len h.n
  subst e
  obtain ⟨l, HLE⟩ : ∃ l, Hid (l = S.nd.length) := ⟨_, Lib.hid rfl⟩
  rw [← HLE.out] at H1
  clear h hl hb1
  go_enter Tryd.func56, Tryd.ntmps56
  go_upto_region 1 with (fail)
  rw [← HW1]
  clear HW1
  have HRS : Hid (rb + 1 ≤ w1.heap.size) := Lib.hid H1.out.c.lt
  have c2 := H1.out.c.c2
  have f2 := H1.out.c.f 2
  have c2a := ((below_one w1 (.cells #[.int .i64 x, .int .i64 y] 39)).cell (p := ⟨rb, 2, none⟩) H1.out.c.lt).trans c2
  refine wp_region_noPanic ?_
  go_region_law
    (first
      | (refine step_append_own encN_len encN_one Tryd.underlying22 infoN rfl (by decide) (by decide) (rb + 1) _ (by rfl) (.tmp 8) (.tmp 10) (by rfl) (by rfl) _ S.nd (by rfl) (OR.below H1.out.n (by first | exact (below_one _ _).drew | exact (below_one _ _) | exact (Below.refl _ _).drew.trans (below_one _ _))) (x, y) _ (by rfl) (by rfl) HL.out (by have := HRS.out; first | omega | (simp; omega)) _ (by first | exact World.alloc_heap_new _ _) ?_; intro v5 w5 ho5 hb5 hg5; obtain ⟨A5, c5, q5, rfl⟩ := or_form encN_len ho5; have HO5 := Lib.hid ho5; have HB5 : Hid (Below (rb + 1) w1 w5) := Lib.hid (by first | exact ((Below.refl _ _).alloc HRS.out _).drew.trans hb5 | exact ((Below.refl _ _).alloc HRS.out _).trans hb5 | exact ((Below.refl _ _).drew.alloc HRS.out _).trans hb5); have HC5 := Lib.hid (H1.out.c.lower HB5.out (Nat.lt_succ_self _)); have HP5 : Hid (OO (rb + 1) w5 vp S.pd) := Lib.hid (by first | exact on_apart (World.ownsRow.drew (World.ownsRow.alloc H1.out.n _)) (World.ownsRow.drew (World.ownsRow.alloc H1.out.p _)) hg5 | exact on_apart (World.ownsRow.alloc H1.out.n _) (World.ownsRow.alloc H1.out.p _) hg5 | exact on_apart (World.ownsRow.alloc (World.ownsRow.drew H1.out.n) _) (World.ownsRow.alloc (World.ownsRow.drew H1.out.p) _) hg5); have HK5 : Hid (Kp tsN rb w1 w5) := Lib.hid (Kp.grow (by first | exact (below_one _ _).drew | exact (below_one _ _) | exact (Below.refl _ _).drew.trans (below_one _ _)) hg5 H1.out.n (by decide)); have k2 := HC5.out.c2; have k3 := HC5.out.f 2; clear ho5 hb5 hg5)
      | fail)
  all_goals
    refine NoPanic.normal ?_
    obtain ⟨fw, HFW⟩ : ∃ f, Hid (fv S.bg rb = f) := ⟨_, Lib.hid rfl⟩
    have j1 := HC5.out.c1
    rw [HFW.out] at j1
    have g1 := HC5.out.f 1
    have hst := store_func
    go_wp2
    go_end0
    exact ⟨rfl, ⟨_, _, (HC5.out.set2 _).set1 _, ownsRow_setCell_below (ownsRow_setCell_below HO5.out (Nat.lt_succ_self _) _) (Nat.lt_succ_self _) _, ownsRow_setCell_below (ownsRow_setCell_below HP5.out (Nat.lt_succ_self _) _) (Nat.lt_succ_self _) _⟩, ((HB1.out.trans (HB5.out.mono (Nat.le_succ _))).setCell (Nat.le_refl _) _).setCell (Nat.le_refl _) _, ((HK1.out.trans HK5.out HB1.out.size).set (Nat.le_trans HB1.out.size HB5.out.size) _ _).set (by simp; exact Nat.le_trans HB1.out.size HB5.out.size) _ _⟩
end Go.Proofs.YthjpjcjmiaojcaaDoor.tx
