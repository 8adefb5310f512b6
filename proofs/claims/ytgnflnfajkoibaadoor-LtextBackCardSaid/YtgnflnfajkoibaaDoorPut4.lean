/- Contracts that the claim stands on, several texts in one: LtxOps, LtxNames, LexSign, LexSgn. -/
import Derived.Deep.MidRow
import Derived.Test.YtgnflnfajkoibaaDoorPut1
import Derived.Test.YtgnflnfajkoibaaDoorPut2
import Derived.Test.YtgnflnfajkoibaaDoorPut3
namespace Go.Proofs.YtgnflnfajkoibaaDoor.tx
open Go.ChangeShapes Go.WideShapes Go.ChangeAt Go.RowKit Go.Deep

def sgA (o : Opr) : ByteArray := ⟨o.sg.toArray⟩
/-- An operation as a value, as cells. -/
def oC (o : Opr) : List Value := [.int .i64 o.op, .string (sgA o), .int .i64 o.bd, .int .i64 o.lf, .int .i64 o.rt]
def oV (o : Opr) : Value := .agg #[.int .i64 o.op, .string (sgA o), .int .i64 o.bd, .int .i64 o.lf, .int .i64 o.rt]
/-- The table lies where the program has it. -/
def OpsW (w : World) : Prop := w.rangeAt 0 0 (opsQ.flatMap oC)
theorem OpsW.below {w w' : World} (h : OpsW w) (hg : 0 < w.heap.size) (hb : Below w.heap.size w w') : OpsW w' := fun j v hv => by
  have := h j v hv
  exact (hb.cell (p := ⟨0, 0 + j, none⟩) hg).trans this
theorem OpsW.lt {w : World} (h : OpsW w) : 0 < w.heap.size := by
  have h0 := h 0 (.int .i64 1) rfl
  rcases Nat.lt_or_ge 0 w.heap.size with hlt | hge
  · exact hlt
  · simp [World.cell?, Array.getElem?_eq_none hge] at h0
theorem OpsW.keep {w w' : World} (h : OpsW w) (hb : Below w.heap.size w w') : OpsW w' := h.below h.lt hb
def WrP (r : Option Opr) (w : World) (e : Ending) (w' : World) : Prop := e = .returned (.tuple #[oV (r.getD brO), .bool r.isSome]) ∧ Below w.heap.size w w'
set_option maxRecDepth 100000 in
theorem ops_at {k : Nat} (hk : k < 11) (W : World) : (Instr.index 82 (.agg (opsQ.flatMap oC).toArray) (.int .i64 (k : Int))).run Tryd.prog W = .ok (oV (opsQ.getD k default)) W := by
  have h : k = 0 ∨ k = 1 ∨ k = 2 ∨ k = 3 ∨ k = 4 ∨ k = 5 ∨ k = 6 ∨ k = 7 ∨ k = 8 ∨ k = 9 ∨ k = 10 := by omega
  rcases h with h | h | h | h | h | h | h | h | h | h | h
  all_goals (subst h; show _ = _; first | rfl | kernel_rfl)
theorem find_take {p : Opr → Bool} {k : Nat} (h : (opsQ.take k).find? p = none) (hk : k < 11) : (p (opsQ.getD k default) = false → (opsQ.take (k + 1)).find? p = none) ∧ (p (opsQ.getD k default) = true → opsQ.find? p = some (opsQ.getD k default)) := by
  have hl : k < opsQ.length := hk
  have e : opsQ.getD k default = opsQ[k] := by simp [List.getD, hl]
  rw [e]
  constructor
  · intro hp
    rw [List.take_succ_eq_append_getElem hl, List.find?_append, h]
    simp [hp]
  · intro hp
    have h2 : (opsQ.take k ++ (opsQ[k] :: opsQ.drop (k + 1))).find? p = some opsQ[k] := by
      rw [List.find?_append, h, Option.none_or, List.find?_cons_of_pos hp]
    rw [← List.drop_eq_getElem_cons hl, List.take_append_drop] at h2
    exact h2
/-- An operation's cells that the call itself made. -/
def ZO (W : World) (b : Nat) : Prop := W.cell? ⟨b, 0, none⟩ = some (.int .i64 0) ∧ W.cell? ⟨b, 1, none⟩ = some (.string ⟨#[]⟩) ∧ W.cell? ⟨b, 2, none⟩ = some (.int .i64 0) ∧ W.cell? ⟨b, 3, none⟩ = some (.int .i64 0) ∧ W.cell? ⟨b, 4, none⟩ = some (.int .i64 0) ∧ b < W.heap.size ∧ ∀ i, W.frozen? ⟨b, i, none⟩ = false
theorem frozen_below {W W' : World} (k : Below W.heap.size W W') {b i : Nat} (h : b < W.heap.size) : W'.frozen? ⟨b, i, none⟩ = W.frozen? ⟨b, i, none⟩ := World.frozen?_of_block (w := W) (k.block b h)
theorem ZO.below {W W' : World} {b : Nat} (h : ZO W b) (k : Below W.heap.size W W') : ZO W' b := by
  obtain ⟨h0, h1, h2, h3, h4, h5, h6⟩ := h
  exact ⟨(k.cell (p := ⟨b, 0, none⟩) h5).trans h0, (k.cell (p := ⟨b, 1, none⟩) h5).trans h1, (k.cell (p := ⟨b, 2, none⟩) h5).trans h2, (k.cell (p := ⟨b, 3, none⟩) h5).trans h3, (k.cell (p := ⟨b, 4, none⟩) h5).trans h4, Nat.lt_of_lt_of_le h5 k.size, fun i => (frozen_below k h5).trans (h6 i)⟩
theorem ZO.made (w : World) (t : TypeId) : ZO (w.alloc (.cells #[.int .i64 0, .string ⟨#[]⟩, .int .i64 0, .int .i64 0, .int .i64 0] t)) w.heap.size :=
  ⟨World.cell?_alloc_at _ _ _ _ (by simp), World.cell?_alloc_at _ _ _ _ (by simp), World.cell?_alloc_at _ _ _ _ (by simp), World.cell?_alloc_at _ _ _ _ (by simp), World.cell?_alloc_at _ _ _ _ (by simp), by simp, fun i => World.frozen?_alloc_at _ _ _ _ (by simp)⟩
theorem below5 {b : Nat} {w w' : World} (h : Below b w w') (v0 v1 v2 v3 v4 : Value) : Below b w (((((w'.setCell ⟨b, 0, none⟩ v0).setCell ⟨b, 1, none⟩ v1).setCell ⟨b, 2, none⟩ v2).setCell ⟨b, 3, none⟩ v3).setCell ⟨b, 4, none⟩ v4) :=
  ((((h.setCell (Nat.le_refl _) _).setCell (Nat.le_refl _) _).setCell (Nat.le_refl _) _).setCell (Nat.le_refl _) _).setCell (Nat.le_refl _) _
set_option maxRecDepth 100000 in
set_option maxHeartbeats 4000000 in
theorem written_any (s : ByteArray) (w : World) (hO : OpsW w) : Calls Tryd.prog 24 #[.string s] w (WrP (wrO s.data.toList) w) := by
  have HI : Hid (∀ k : Nat, k < 11 → ∀ W : World, (Instr.index 82 (.agg (opsQ.flatMap oC).toArray) (.int .i64 (k : Int))).run Tryd.prog W = .ok (oV (opsQ.getD k default)) W) := Lib.hid (fun k hk W => ops_at hk W)
  have hlen : (Tryd.prog.info? 82).map (·.size) = some (opsQ.flatMap oC).length := by kernel_rfl
  have HLEN := Lib.hid hlen
  have HB1 : Hid (Below w.heap.size w (w.alloc (.cells #[.int .i64 0, .string ⟨#[]⟩, .int .i64 0, .int .i64 0, .int .i64 0] 58))) := Lib.hid (below_one _ _)
  have HR1 := Lib.hid (OpsW.keep hO HB1.out)
  have HZ1 : Hid (ZO (w.alloc (.cells #[.int .i64 0, .string ⟨#[]⟩, .int .i64 0, .int .i64 0, .int .i64 0] 58)) w.heap.size) := Lib.hid (ZO.made _ _)
  clear hO hlen
  obtain ⟨b, HBN⟩ : ∃ b, Hid (b = w.heap.size) := ⟨_, Lib.hid rfl⟩
  obtain ⟨gl, HGL⟩ : ∃ gl, Hid (opsQ.flatMap oC = gl) := ⟨_, Lib.hid rfl⟩
  unfold OpsW at HR1
  rw [HGL.out] at HI HLEN HR1
  obtain ⟨R, HRS⟩ : ∃ R, Hid (wrO s.data.toList = R) := ⟨_, Lib.hid rfl⟩
  rw [HRS.out]
  go_enter Tryd.func24, Tryd.ntmps24
  go_upto_region 1 with (fail)
  rw [← HBN.out] at HB1 HZ1 ⊢
  generalize w.alloc (.cells #[.int .i64 0, .string ⟨#[]⟩, .int .i64 0, .int .i64 0, .int .i64 0] 58) = w1 at *
  have HS1 : Hid (b ≤ w1.heap.size) := Lib.hid (Nat.le_of_lt HZ1.out.2.2.2.2.2.1)
  go_wp2_with (refine wpList_load_mid rfl 82 (.global 0) rfl 0 0 rfl gl _ HR1.out Tryd.underlying82 rfl HLEN.out ?_)
  go_loopw [7] (fun i wr => ∃ k : Nat, k ≤ 11 ∧ i = .int .i64 k ∧ Hid ((opsQ.take k).find? (fun o : Opr => o.sg == s.data.toList) = none) ∧ Hid (Below w1.heap.size w1 wr)) (fun i _ => 11 - (intOf i).toNat)
  case atStart => exact ⟨0, by omega, rfl, Lib.hid rfl, Lib.hid (Below.refl _ _)⟩
  case round =>
    obtain ⟨k, hk, rfl, HF, HB⟩ := hrel
    by_cases hlt : k < 11
    · have h1 := HI.out k hlt
      have HFT := Lib.hid (find_take HF.out hlt)
      obtain ⟨o, HOO⟩ : ∃ o, Hid (opsQ.getD k default = o) := ⟨_, Lib.hid rfl⟩
      rw [HOO.out] at h1 HFT
      unfold oV at h1
      obtain ⟨op, sg, bd, lf, rt⟩ := o
      simp only [sgA] at h1
      obtain ⟨sb, HSB⟩ : ∃ sb : ByteArray, Hid (sb = ⟨sg.toArray⟩) := ⟨_, Lib.hid rfl⟩
      rw [← HSB.out] at h1
      obtain ⟨q, HP⟩ : ∃ q, Hid ((fun o : Opr => o.sg == s.data.toList) ⟨op, sg, bd, lf, rt⟩ = q) := ⟨_, Lib.hid rfl⟩
      have hq : (sb.toList == s.toList) = q := by
        rw [← HP.out, ByteArray.toList_eq, ByteArray.toList_eq, HSB.out]
      have hk11 : (k : Int) < 11 := by omega
      cases q with
      | true =>
        have HE : Hid (R = some ⟨op, sg, bd, lf, rt⟩) := Lib.hid (by rw [← HRS.out]; exact HFT.out.2 HP.out)
        have HZW := Lib.hid ((HZ1.out.below HB.out).below (below_one wr (.cells #[.int .i64 op, .string sb, .int .i64 bd, .int .i64 lf, .int .i64 rt] 58)))
        have HBW : Hid (Below b w (wr.alloc (.cells #[.int .i64 op, .string sb, .int .i64 bd, .int .i64 lf, .int .i64 rt] 58))) := Lib.hid ((HB1.out.trans (HB.out.mono HS1.out)).alloc (Nat.le_trans HS1.out HB.out.size) _)
        have z0 := HZW.out.1
        have z1 := HZW.out.2.1
        have z2 := HZW.out.2.2.1
        have z3 := HZW.out.2.2.2.1
        have z4 := HZW.out.2.2.2.2.1
        have f0 := HZW.out.2.2.2.2.2.2 0
        have f1 := HZW.out.2.2.2.2.2.2 1
        have f2 := HZW.out.2.2.2.2.2.2 2
        have f3 := HZW.out.2.2.2.2.2.2 3
        have f4 := HZW.out.2.2.2.2.2.2 4
        go_wp2
        (try simp only [Exit.inBlock, Exit.then])
        refine bodyPost_ret (v := .tuple #[.agg #[.int .i64 op, .string sb, .int .i64 bd, .int .i64 lf, .int .i64 rt], .bool true]) ?_ rfl ⟨by rw [HE.out, HSB.out]; rfl, ?_⟩
        · rw [results_cell_tmp rfl]; go_simp
        · rw [← HBN.out]
          exact below5 HBW.out _ _ _ _ _
      | false =>
        have HE : Hid ((opsQ.take (k + 1)).find? (fun o : Opr => o.sg == s.data.toList) = none) := Lib.hid (HFT.out.1 HP.out)
        have hwz : w1.heap.size ≤ wr.heap.size := HB.out.size
        go_wp2
        go_roundw
        case rel => exact ⟨k + 1, by omega, by go_num, HE, Lib.hid (HB.out.alloc hwz _)⟩
        case measure => simp [intOf]; omega
    · obtain rfl : k = 11 := by omega
      have HE : Hid (R = none) := Lib.hid (by rw [← HRS.out]; exact HF.out)
      have HZW := Lib.hid (HZ1.out.below HB.out)
      have HBW : Hid (Below b w wr) := Lib.hid (HB1.out.trans (HB.out.mono HS1.out))
      have z0 := HZW.out.1
      have z1 := HZW.out.2.1
      have z2 := HZW.out.2.2.1
      have z3 := HZW.out.2.2.2.1
      have z4 := HZW.out.2.2.2.2.1
      have f0 := HZW.out.2.2.2.2.2.2 0
      have f1 := HZW.out.2.2.2.2.2.2 1
      have f2 := HZW.out.2.2.2.2.2.2 2
      have f3 := HZW.out.2.2.2.2.2.2 3
      have f4 := HZW.out.2.2.2.2.2.2 4
      go_wp2
      (try simp only [Exit.inBlock, Exit.then])
      refine bodyPost_ret (v := .tuple #[.agg #[.int .i64 0, .string ⟨#[]⟩, .int .i64 0, .int .i64 0, .int .i64 0], .bool false]) ?_ rfl ⟨by rw [HE.out]; rfl, ?_⟩
      · rw [results_cell_tmp rfl]; go_simp
      · rw [← HBN.out]
        exact below5 HBW.out _ _ _ _ _
set_option maxRecDepth 100000 in
set_option maxHeartbeats 4000000 in
theorem operationOf_any (x : Int) (w : World) (hO : OpsW w) : Calls Tryd.prog 27 #[.int .i64 x] w (WrP (opO x) w) := by
  have HI : Hid (∀ k : Nat, k < 11 → ∀ W : World, (Instr.index 82 (.agg (opsQ.flatMap oC).toArray) (.int .i64 (k : Int))).run Tryd.prog W = .ok (oV (opsQ.getD k default)) W) := Lib.hid (fun k hk W => ops_at hk W)
  have hlen : (Tryd.prog.info? 82).map (·.size) = some (opsQ.flatMap oC).length := by kernel_rfl
  have HLEN := Lib.hid hlen
  have HB1 : Hid (Below w.heap.size w (w.alloc (.cells #[.int .i64 0, .string ⟨#[]⟩, .int .i64 0, .int .i64 0, .int .i64 0] 58))) := Lib.hid (below_one _ _)
  have HR1 := Lib.hid (OpsW.keep hO HB1.out)
  have HZ1 : Hid (ZO (w.alloc (.cells #[.int .i64 0, .string ⟨#[]⟩, .int .i64 0, .int .i64 0, .int .i64 0] 58)) w.heap.size) := Lib.hid (ZO.made _ _)
  clear hO hlen
  obtain ⟨b, HBN⟩ : ∃ b, Hid (b = w.heap.size) := ⟨_, Lib.hid rfl⟩
  obtain ⟨gl, HGL⟩ : ∃ gl, Hid (opsQ.flatMap oC = gl) := ⟨_, Lib.hid rfl⟩
  unfold OpsW at HR1
  rw [HGL.out] at HI HLEN HR1
  obtain ⟨R, HRS⟩ : ∃ R, Hid (opO x = R) := ⟨_, Lib.hid rfl⟩
  rw [HRS.out]
  go_enter Tryd.func27, Tryd.ntmps27
  go_upto_region 1 with (fail)
  rw [← HBN.out] at HB1 HZ1 ⊢
  generalize w.alloc (.cells #[.int .i64 0, .string ⟨#[]⟩, .int .i64 0, .int .i64 0, .int .i64 0] 58) = w1 at *
  have HS1 : Hid (b ≤ w1.heap.size) := Lib.hid (Nat.le_of_lt HZ1.out.2.2.2.2.2.1)
  go_wp2_with (refine wpList_load_mid rfl 82 (.global 0) rfl 0 0 rfl gl _ HR1.out Tryd.underlying82 rfl HLEN.out ?_)
  go_loopw [7] (fun i wr => ∃ k : Nat, k ≤ 11 ∧ i = .int .i64 k ∧ Hid ((opsQ.take k).find? (fun o : Opr => o.op == x) = none) ∧ Hid (Below w1.heap.size w1 wr)) (fun i _ => 11 - (intOf i).toNat)
  case atStart => exact ⟨0, by omega, rfl, Lib.hid rfl, Lib.hid (Below.refl _ _)⟩
  case round =>
    obtain ⟨k, hk, rfl, HF, HB⟩ := hrel
    by_cases hlt : k < 11
    · have h1 := HI.out k hlt
      have HFT := Lib.hid (find_take HF.out hlt)
      obtain ⟨o, HOO⟩ : ∃ o, Hid (opsQ.getD k default = o) := ⟨_, Lib.hid rfl⟩
      rw [HOO.out] at h1 HFT
      unfold oV at h1
      obtain ⟨op, sg, bd, lf, rt⟩ := o
      simp only [sgA] at h1
      obtain ⟨sb, HSB⟩ : ∃ sb : ByteArray, Hid (sb = ⟨sg.toArray⟩) := ⟨_, Lib.hid rfl⟩
      rw [← HSB.out] at h1
      obtain ⟨q, HP⟩ : ∃ q, Hid ((fun o : Opr => o.op == x) ⟨op, sg, bd, lf, rt⟩ = q) := ⟨_, Lib.hid rfl⟩
      have hq : (op == x) = q := by rw [← HP.out]
      have hk11 : (k : Int) < 11 := by omega
      cases q with
      | true =>
        have HE : Hid (R = some ⟨op, sg, bd, lf, rt⟩) := Lib.hid (by rw [← HRS.out]; exact HFT.out.2 HP.out)
        have HZW := Lib.hid ((HZ1.out.below HB.out).below (below_one wr (.cells #[.int .i64 op, .string sb, .int .i64 bd, .int .i64 lf, .int .i64 rt] 58)))
        have HBW : Hid (Below b w (wr.alloc (.cells #[.int .i64 op, .string sb, .int .i64 bd, .int .i64 lf, .int .i64 rt] 58))) := Lib.hid ((HB1.out.trans (HB.out.mono HS1.out)).alloc (Nat.le_trans HS1.out HB.out.size) _)
        have z0 := HZW.out.1
        have z1 := HZW.out.2.1
        have z2 := HZW.out.2.2.1
        have z3 := HZW.out.2.2.2.1
        have z4 := HZW.out.2.2.2.2.1
        have f0 := HZW.out.2.2.2.2.2.2 0
        have f1 := HZW.out.2.2.2.2.2.2 1
        have f2 := HZW.out.2.2.2.2.2.2 2
        have f3 := HZW.out.2.2.2.2.2.2 3
        have f4 := HZW.out.2.2.2.2.2.2 4
        go_wp2
        (try simp only [Exit.inBlock, Exit.then])
        refine bodyPost_ret (v := .tuple #[.agg #[.int .i64 op, .string sb, .int .i64 bd, .int .i64 lf, .int .i64 rt], .bool true]) ?_ rfl ⟨by rw [HE.out, HSB.out]; rfl, ?_⟩
        · rw [results_cell_tmp rfl]; go_simp
        · rw [← HBN.out]
          exact below5 HBW.out _ _ _ _ _
      | false =>
        have HE : Hid ((opsQ.take (k + 1)).find? (fun o : Opr => o.op == x) = none) := Lib.hid (HFT.out.1 HP.out)
        have hwz : w1.heap.size ≤ wr.heap.size := HB.out.size
        go_wp2
        go_roundw
        case rel => exact ⟨k + 1, by omega, by go_num, HE, Lib.hid (HB.out.alloc hwz _)⟩
        case measure => simp [intOf]; omega
    · obtain rfl : k = 11 := by omega
      have HE : Hid (R = none) := Lib.hid (by rw [← HRS.out]; exact HF.out)
      have HZW := Lib.hid (HZ1.out.below HB.out)
      have HBW : Hid (Below b w wr) := Lib.hid (HB1.out.trans (HB.out.mono HS1.out))
      have z0 := HZW.out.1
      have z1 := HZW.out.2.1
      have z2 := HZW.out.2.2.1
      have z3 := HZW.out.2.2.2.1
      have z4 := HZW.out.2.2.2.2.1
      have f0 := HZW.out.2.2.2.2.2.2 0
      have f1 := HZW.out.2.2.2.2.2.2 1
      have f2 := HZW.out.2.2.2.2.2.2 2
      have f3 := HZW.out.2.2.2.2.2.2 3
      have f4 := HZW.out.2.2.2.2.2.2 4
      go_wp2
      (try simp only [Exit.inBlock, Exit.then])
      refine bodyPost_ret (v := .tuple #[.agg #[.int .i64 0, .string ⟨#[]⟩, .int .i64 0, .int .i64 0, .int .i64 0], .bool false]) ?_ rfl ⟨by rw [HE.out]; rfl, ?_⟩
      · rw [results_cell_tmp rfl]; go_simp
      · rw [← HBN.out]
        exact below5 HBW.out _ _ _ _ _
end Go.Proofs.YtgnflnfajkoibaaDoor.tx
namespace Go.Proofs.YtgnflnfajkoibaaDoor.tx
open Go.ChangeShapes Go.WideShapes Go.ChangeAt Go.RowKit Go.Deep sr

def encS (x : ByteArray) : List Value := [.string x]
theorem encS_len (x : ByteArray) : (encS x).length = 1 := rfl
theorem str_at {w : World} {A : Option Addr} {l : List ByteArray} (h : RS encS 1 w A l) {i : Nat} (hi : i < l.length) : ∃ b off, A = some ⟨b, off, none⟩ ∧ b < w.heap.size ∧ w.cell? ⟨b, off + i, none⟩ = some (.string (l.getD i default)) := by
  obtain ⟨b, off, e, hb, hc⟩ := h (by omega)
  refine ⟨b, off, e, hb, ?_⟩
  have := hc i hi 0 (by omega)
  rw [Nat.mul_one, Nat.add_zero] at this
  exact this
/-- Where a text stands first, counted from k; -1: nowhere. -/
def ixF : List ByteArray → ByteArray → Nat → Int
  | [], _, _ => -1
  | x :: l, s, k => if x = s then (k : Int) else ixF l s (k + 1)
theorem ixF_range : ∀ (l : List ByteArray) (s : ByteArray) (k : Nat), ixF l s k = -1 ∨ ((k : Int) ≤ ixF l s k ∧ ixF l s k < k + l.length)
  | [], _, _ => .inl rfl
  | x :: l, s, k => by
    unfold ixF
    split
    · right; simp only [List.length_cons]; omega
    · have := ixF_range l s (k + 1)
      simp only [List.length_cons]
      omega
theorem ixF_drop {l : List ByteArray} {s : ByteArray} {i : Nat} (hi : i < l.length) : ixF (l.drop i) s i = if l.getD i default = s then (i : Int) else ixF (l.drop (i + 1)) s (i + 1) := by
  have e : l.getD i default = l[i] := by simp [List.getD, hi]
  rw [e, List.drop_eq_getElem_cons hi, ixF]
theorem str_eq (a b : ByteArray) : (a.toList == b.toList) = decide (a = b) := by
  rw [ByteArray.toList_eq, ByteArray.toList_eq]
  by_cases h : a = b
  · rw [h]; simp
  · rw [decide_eq_false h, beq_eq_false_iff_ne]
    intro h2
    exact h (bytes_inj h2)
set_option maxHeartbeats 1000000 in
theorem index_str (A : Option Addr) (n c : Nat) (l : List ByteArray) (s : ByteArray) (w : World) (hn : n = l.length) (hz : n ≤ 1000000) (hA : RS encS 1 w A l) :
    Calls Tryd.prog 43 #[.slice A n c, .string s] w fun e w' => e = .returned (.int .i64 (ixF l s 0)) ∧ w = w' := by
  have HN := Lib.hid hn
  have HA := Lib.hid hA
  obtain ⟨z, HZ⟩ : ∃ z, Hid (ixF l s 0 = z) := ⟨_, Lib.hid rfl⟩
  rw [HZ.out]
  clear hn hA
  go_enter Tryd.func43, Tryd.ntmps43
  go_wp2
  go_loop [8] (fun iv => ∃ i : Nat, i ≤ n ∧ iv = .int .i64 i ∧ Hid (z = ixF (l.drop i) s i)) (fun iv => n - (intOf iv).toNat)
  case atStart => exact ⟨0, Nat.zero_le _, rfl, Lib.hid HZ.out.symm⟩
  case round =>
    obtain ⟨i, hi, rfl, HF⟩ := hrel
    by_cases hlt : i < n
    · have hil : i < l.length := by rw [← HN.out]; exact hlt
      obtain ⟨b, o, rfl, hb, c1⟩ := str_at HA.out hil
      have HD := Lib.hid (ixF_drop (s := s) hil)
      obtain ⟨x, HX⟩ : ∃ x, Hid (l.getD i default = x) := ⟨_, Lib.hid rfl⟩
      rw [HX.out] at c1 HD
      obtain ⟨q, HQ⟩ : ∃ q, Hid (decide (s = x) = q) := ⟨_, Lib.hid rfl⟩
      have hq : (s.toList == x.toList) = q := by rw [str_eq]; exact HQ.out
      clear hil
      cases q with
      | true =>
        have HE : Hid (z = i) := Lib.hid (by rw [HF.out, HD.out, if_pos (of_decide_eq_true HQ.out).symm])
        go_wp2
        go_ret
        exact ⟨by rw [HE.out]; rfl, rfl⟩
      | false =>
        have HE : Hid (z = ixF (l.drop (i + 1)) s (i + 1)) := Lib.hid (by rw [HF.out, HD.out, if_neg (fun h => (of_decide_eq_false HQ.out) h.symm)])
        go_wp2
        go_round
        case rel => exact ⟨i + 1, by omega, by go_num, HE⟩
        case measure => simp [intOf]; omega
    · obtain rfl : i = n := by omega
      have HE : Hid (z = -1) := Lib.hid (by rw [HF.out, HN.out, List.drop_length]; rfl)
      go_wp2
      go_ret
      exact ⟨by rw [HE.out]; rfl, rfl⟩
/-- Is a text among these? -/
def conB (l : List ByteArray) (s : ByteArray) : Bool := decide (0 ≤ ixF l s 0)
theorem contains_str (A : Option Addr) (n c : Nat) (l : List ByteArray) (s : ByteArray) (w : World) (hn : n = l.length) (hz : n ≤ 1000000) (hA : RS encS 1 w A l) :
    Calls Tryd.prog 26 #[.slice A n c, .string s] w fun e w' => e = .returned (.bool (conB l s)) ∧ w = w' := by
  have HK := Lib.hid (index_str A n c l s w hn hz hA)
  clear hn hA
  obtain ⟨z, HZ⟩ : ∃ z, Hid (ixF l s 0 = z) := ⟨_, Lib.hid rfl⟩
  have HC : Hid (conB l s = decide (0 ≤ z)) := Lib.hid (by unfold conB; rw [HZ.out])
  rw [HC.out]
  go_enter Tryd.func26, Tryd.ntmps26
  go_wp2_with fail
  refine HK.out.mono ?_
  rw [HZ.out]
  rintro e w' ⟨rfl, rfl⟩
  go_wp2
  go_ret
  exact ⟨rfl, rfl⟩
set_option maxRecDepth 20000 in
/-- The head of a slice of texts. -/
theorem heads_run (B : Option Addr) (k n d : Nat) (h : k ≤ n) (h2 : n ≤ d) (W : World) : (Instr.sliceAt 23 (.slice B n d) none (some (.int .i64 (k : Int))) none).run Tryd.prog W = .ok (.slice B k d) W := by
  have hsz : (sizeOf (Tryd.prog.elem 23)).run Tryd.prog W = .ok 1 W := by simp [go_sem]
  rw [run_sliceAt_slice (P := Tryd.prog) W 23 _ _ _ _ Tryd.underlying23, run_slice_h (P := Tryd.prog) W 23 B n d Tryd.underlying23 .i64 k (by omega) (by omega), hsz]
  cases B <;> simp [Result.andThen, sliced, Addr.add]

/-- A slice of names as it lies. -/
structure NmS (w : World) (A : Option Addr) (n c : Nat) (N : List ByteArray) : Prop where
  rs : RS encS 1 w A N
  ln : n = N.length
  le : n ≤ c
  mx : n ≤ 1000000
theorem NmS.below {w w' : World} {A : Option Addr} {n c : Nat} {N : List ByteArray} (h : NmS w A n c N) (hb : Below w.heap.size w w') : NmS w' A n c N := ⟨h.rs.below hb, h.ln, h.le, h.mx⟩
/-- May a proposition have the name there? -/
def mayB (N : List ByteArray) (i : Nat) : Bool := lx.nameB (N.getD i default) && (!(wrO (N.getD i default).data.toList).isSome && !conB (N.take i) (N.getD i default))
def BoolP (b : Bool) (w : World) (e : Ending) (w' : World) : Prop := e = .returned (.bool b) ∧ Below w.heap.size w w'
set_option maxRecDepth 20000 in
set_option maxHeartbeats 2000000 in
theorem mayBe_any (A : Option Addr) (n c i : Nat) (N : List ByteArray) (w : World) (h : NmS w A n c N) (hi : i < n) (hO : OpsW w) : Calls Tryd.prog 15 #[.slice A n c, .int .i64 i] w (BoolP (mayB N i) w) := by
  obtain ⟨b, o, rfl, hb, c1⟩ := str_at h.rs (i := i) (by rw [← h.ln]; exact hi)
  have H := Lib.hid h
  have HO := Lib.hid hO
  obtain ⟨s, HS⟩ : ∃ s, Hid (N.getD i default = s) := ⟨_, Lib.hid rfl⟩
  rw [HS.out] at c1
  obtain ⟨q1, HQ1⟩ : ∃ q, Hid (lx.nameB s = q) := ⟨_, Lib.hid rfl⟩
  obtain ⟨q3, HQ3⟩ : ∃ q, Hid (conB (N.take i) s = q) := ⟨_, Lib.hid rfl⟩
  obtain ⟨r, HR⟩ : ∃ r, Hid (wrO s.data.toList = r) := ⟨_, Lib.hid rfl⟩
  obtain ⟨r2, HR2⟩ : ∃ q, Hid (r.isSome = q) := ⟨_, Lib.hid rfl⟩
  have HM : Hid (mayB N i = (q1 && (!r2 && !q3))) := Lib.hid (by unfold mayB; rw [HS.out, HQ1.out, HQ3.out, HR.out, HR2.out])
  rw [HM.out]
  have EH := heads_run (some ⟨b, o, none⟩) i n c (Nat.le_of_lt hi) h.le
  clear h hO
  go_enter Tryd.func15, Tryd.ntmps15
  go_wp2_with fail
  refine (written_any s w HO.out).mono ?_
  rw [HR.out]
  rintro e w1 ⟨rfl, hb1⟩
  have HB1 : Hid (Below w.heap.size w (w1.alloc (.cells #[.int .i64 (r.getD brO).op, .string (sgA (r.getD brO)), .int .i64 (r.getD brO).bd, .int .i64 (r.getD brO).lf, .int .i64 (r.getD brO).rt] 58))) := Lib.hid (hb1.alloc hb1.size _)
  clear hb1 c1
  unfold oV
  rw [HR2.out]
  go_upto_region 3 with (fail)
  generalize w1.alloc (.cells #[.int .i64 (r.getD brO).op, .string (sgA (r.getD brO)), .int .i64 (r.getD brO).bd, .int .i64 (r.getD brO).lf, .int .i64 (r.getD brO).rt] 58) = w2 at *
  go_wp2_with fail
  refine (lx.name_any s w2).mono ?_
  rw [HQ1.out]
  rintro e w3 ⟨rfl, hb3⟩
  have HB3 : Hid (Below w.heap.size w w3) := Lib.hid (HB1.out.trans (hb3.mono HB1.out.size))
  have HN3 : Hid (RS encS 1 w3 (some ⟨b, o, none⟩) (N.take i)) := Lib.hid (RS.take (H.out.rs.below HB3.out) i)
  have HL3 : Hid (i = (N.take i).length) := Lib.hid (by rw [List.length_take, ← H.out.ln]; omega)
  have HI3 : Hid (i ≤ 1000000) := Lib.hid (by have := H.out.mx; omega)
  clear hb3
  cases q1 with
  | false =>
    go_wp2
    go_ret
    exact ⟨rfl, HB3.out⟩
  | true =>
    cases r2 with
    | true =>
      go_wp2
      go_ret
      exact ⟨rfl, HB3.out⟩
    | false =>
      go_wp2_with fail
      refine (contains_str _ i c (N.take i) s w3 HL3.out HI3.out HN3.out).mono ?_
      rw [HQ3.out]
      rintro e w4 ⟨rfl, rfl⟩
      go_wp2
      go_ret
      exact ⟨by cases q3 <;> rfl, HB3.out⟩
/-- The proposition that has a name. -/
def prO (N : List ByteArray) (s : ByteArray) : Option Nat := if 0 ≤ ixF (N.take 8) s 0 ∧ mayB N (ixF (N.take 8) s 0).toNat = true then some (ixF (N.take 8) s 0).toNat else none
def PrP (r : Option Nat) (w : World) (e : Ending) (w' : World) : Prop := ∃ z : Int, e = .returned (.tuple #[.int .i64 z, .bool r.isSome]) ∧ (∀ i, r = some i → z = (i : Int)) ∧ Below w.heap.size w w'
set_option maxRecDepth 20000 in
set_option maxHeartbeats 2000000 in
theorem proposition_any (A : Option Addr) (n c : Nat) (N : List ByteArray) (s : ByteArray) (w : World) (h : NmS w A n c N) (hO : OpsW w) : Calls Tryd.prog 55 #[.slice A n c, .string s] w (PrP (prO N s) w) := by
  have H := Lib.hid h
  have HO := Lib.hid hO
  obtain ⟨m, hm⟩ : ∃ m, m = min n 8 := ⟨_, rfl⟩
  have hmn : m ≤ n := by omega
  have hmcap : m ≤ c := by have := h.le; omega
  have HTK : Hid (N.take 8 = N.take m) := Lib.hid (by
    by_cases h8 : n ≤ 8
    · rw [List.take_of_length_le (by rw [← h.ln]; exact h8), List.take_of_length_le (by rw [← h.ln]; omega)]
    · rw [show m = 8 by omega])
  have HX := Lib.hid (index_str A m c (N.take m) s w (by rw [List.length_take, ← h.ln]; omega) (by have := h.mx; omega) (RS.take h.rs m))
  have EH := heads_run A m n c hmn h.le
  have HRG := Lib.hid (ixF_range (N.take m) s 0)
  obtain ⟨z, HZ⟩ : ∃ z, Hid (ixF (N.take m) s 0 = z) := ⟨_, Lib.hid rfl⟩
  rw [HZ.out] at HRG
  have HP : Hid (prO N s = if 0 ≤ z ∧ mayB N z.toNat = true then some z.toNat else none) := Lib.hid (by unfold prO; rw [HTK.out, HZ.out])
  obtain ⟨R, HRE⟩ : ∃ R, Hid (prO N s = R) := ⟨_, Lib.hid rfl⟩
  rw [HRE.out] at HP ⊢
  have hmc : (n = m ∧ n ≤ 8) ∨ (m = 8 ∧ 8 < n) := by omega
  have hz := HRG.out
  have hlen : (N.take m).length = m := by rw [List.length_take, ← h.ln]; omega
  rw [hlen] at hz
  clear h hO hm hlen
  rcases hmc with ⟨e, h8⟩ | ⟨e, h8⟩ <;> subst e
  all_goals
    (try change ∀ W, (Instr.sliceAt 23 (.slice A n c) none (some (.int .i64 (8 : Int))) none).run Tryd.prog W = .ok (.slice A 8 c) W at EH)
    by_cases h0 : 0 ≤ z
    · obtain ⟨i, rfl⟩ : ∃ i : Nat, z = i := ⟨z.toNat, by omega⟩
      have hin : i < n := by omega
      have HMB := Lib.hid (mayBe_any A n c i N w H.out hin HO.out)
      obtain ⟨q, HQ⟩ : ∃ q, Hid (mayB N i = q) := ⟨_, Lib.hid rfl⟩
      have HPV : Hid ((if 0 ≤ (i : Int) ∧ mayB N (i : Int).toNat = true then some (i : Int).toNat else none) = if q = true then some i else none) := Lib.hid (by
        rw [Int.toNat_natCast, HQ.out]
        cases q <;> simp)
      have HPW : Hid (R = if q = true then some i else none) := Lib.hid (by rw [HP.out, HPV.out])
      clear hz HPV HP
      go_enter Tryd.func55, Tryd.ntmps55
      go_wp2_with fail
      with_reducible refine HX.out.mono ?_
      rw [HZ.out]
      rintro e w1 ⟨rfl, rfl⟩
      go_wp2_with fail
      refine HMB.out.mono ?_
      rw [HQ.out]
      rintro e w1 ⟨rfl, hb⟩
      have HB := Lib.hid hb
      clear hb
      cases q with
      | true =>
        have HR3 : Hid (R = some i) := Lib.hid HPW.out
        go_wp2
        go_ret2
        exact ⟨_, by rw [HR3.out]; rfl, (fun j hj => by rw [HR3.out] at hj; injection hj with hj; rw [hj]), HB.out⟩
      | false =>
        have HR3 : Hid (R = none) := Lib.hid HPW.out
        go_wp2
        go_ret2
        exact ⟨_, by rw [HR3.out]; rfl, (fun j hj => by rw [HR3.out] at hj; cases hj), HB.out⟩
    · have hneg : z < 0 := by omega
      have HPV : Hid ((if 0 ≤ z ∧ mayB N z.toNat = true then some z.toNat else none) = none) := Lib.hid (if_neg (fun h => h0 h.1))
      have HR3 : Hid (R = none) := Lib.hid (by rw [HP.out, HPV.out])
      clear hz HPV HP
      go_enter Tryd.func55, Tryd.ntmps55
      go_wp2_with fail
      with_reducible refine HX.out.mono ?_
      rw [HZ.out]
      rintro e w1 ⟨rfl, rfl⟩
      go_wp2
      go_ret2
      exact ⟨_, by rw [HR3.out]; rfl, (fun j hj => by rw [HR3.out] at hj; cases hj), Below.refl _ _⟩
end Go.Proofs.YtgnflnfajkoibaaDoor.tx
namespace Go.Proofs.YtgnflnfajkoibaaDoor.lx
open Go.ChangeShapes Go.WideShapes Go.ChangeAt Go.RowKit Go.Deep

/-- Does one text begin with the other one? -/
def prefB (s p : ByteArray) : Bool := decide (p.size ≤ s.size) && ((s.extract 0 p.size).toList == p.toList)
set_option maxRecDepth 100000 in
theorem hasPrefix_lite (s p : ByteArray) (w : World) : Calls Tryd.prog 76 #[.string s, .string p] w fun e w' => e = .returned (.bool (prefB s p)) ∧ w' = w := by
  by_cases h : p.size ≤ s.size
  · have HE : Hid (prefB s p = ((s.extract 0 p.size).toList == p.toList)) := Lib.hid (by unfold prefB; rw [decide_eq_true h, Bool.true_and])
    have h2 : (p.size : Int) ≤ (s.size : Int) := by omega
    go_enter Tryd.func76, Tryd.ntmps76
    go_wp2
    go_ret
    exact ⟨by rw [HE.out]; rfl, rfl⟩
  · have HE : Hid (prefB s p = false) := Lib.hid (by unfold prefB; rw [decide_eq_false h, Bool.false_and])
    have h2 : ¬ (p.size : Int) ≤ (s.size : Int) := by omega
    go_enter Tryd.func76, Tryd.ntmps76
    go_wp2
    go_ret
    exact ⟨by rw [HE.out]; rfl, rfl⟩
theorem hasPrefix_any (s p : ByteArray) (w : World) : Calls Tryd.prog 70 #[.string s, .string p] w fun e w' => e = .returned (.bool (prefB s p)) ∧ w' = w := by
  go_enter Tryd.func70, Tryd.ntmps70
  go_wp2_with fail
  refine (hasPrefix_lite s p _).mono ?_
  rintro e w' ⟨rfl, rfl⟩
  go_wp2
  go_ret
  exact ⟨rfl, rfl⟩

/-- The signs, in the program's order. -/
def sgL : List (List UInt8) := [[40], [41], [91], [93], [123], [125], [59], [44], [58], [46], [58, 61], [61, 61], [33, 61], [60], [60, 61], [45, 62], [43], [45], [42], [33], [63], [38, 38], [124, 124], [61, 62], [64]]
def sgS (k : Nat) : ByteArray := ⟨(sgL.getD k []).toArray⟩
def sgA : Array Value := (sgL.map fun l => Value.string ⟨l.toArray⟩).toArray
/-- The table of the signs lies where the program has it. -/
def SgW (w : World) : Prop := ∀ i, i < 25 → w.cell? ⟨1, i, none⟩ = some (.string (sgS i))
theorem sgS_le {k : Nat} (h : k < 25) : (sgS k).size ≤ 2 := by
  have : ∀ k : Fin 25, (sgS k.1).size ≤ 2 := by decide
  exact this ⟨k, h⟩
/-- The longest one of the first k texts that a text begins with. -/
def gM (g : Nat → ByteArray) (s : ByteArray) : Nat → Nat
  | 0 => 0
  | k + 1 => if prefB s (g k) = true then max (gM g s k) (g k).size else gM g s k
theorem gM_le {g : Nat → ByteArray} (hz : ∀ k, k < 25 → (g k).size ≤ 2) (s : ByteArray) : ∀ k, k ≤ 25 → gM g s k ≤ 2
  | 0, _ => by simp [gM]
  | k + 1, h => by
    have h1 := gM_le hz s k (by omega)
    have h2 := hz k (by omega)
    unfold gM
    split <;> omega
def gL (g : Nat → ByteArray) : List Value := (List.range 25).map fun i => .string (g i)
set_option maxRecDepth 100000 in
theorem sg_at (g : Nat → ByteArray) {k : Nat} (hk : k < 25) (W : World) : (Instr.index 108 (.agg (gL g).toArray) (.int .i64 (k : Int))).run Tryd.prog W = .ok (.string (g k)) W := by
  have h : k = 0 ∨ k = 1 ∨ k = 2 ∨ k = 3 ∨ k = 4 ∨ k = 5 ∨ k = 6 ∨ k = 7 ∨ k = 8 ∨ k = 9 ∨ k = 10 ∨ k = 11 ∨ k = 12 ∨ k = 13 ∨ k = 14 ∨ k = 15 ∨ k = 16 ∨ k = 17 ∨ k = 18 ∨ k = 19 ∨ k = 20 ∨ k = 21 ∨ k = 22 ∨ k = 23 ∨ k = 24 := by omega
  rcases h with h | h | h | h | h | h | h | h | h | h | h | h | h | h | h | h | h | h | h | h | h | h | h | h | h
  all_goals (subst h; show _ = _; first | rfl | kernel_rfl)
set_option maxRecDepth 100000 in
set_option maxHeartbeats 2000000 in
theorem sign_any' (g : Nat → ByteArray) (hz : ∀ k, k < 25 → (g k).size ≤ 2) (s : ByteArray) (w : World) (hs : ∀ i, i < 25 → w.cell? ⟨1, i, none⟩ = some (.string (g i))) : Calls Tryd.prog 54 #[.string s] w fun e w' => e = .returned (.int .i64 (gM g s 25)) ∧ w' = w := by
  have HZ := Lib.hid hz
  have HR : Hid (w.rangeAt 1 0 (gL g)) := Lib.hid (fun j v hv => by
    unfold gL at hv
    rw [List.getElem?_map] at hv
    by_cases hj : j < 25
    · rw [List.getElem?_range hj] at hv
      injection hv with hv
      rw [← hv, Nat.zero_add]
      exact hs j hj
    · rw [List.getElem?_eq_none (by simp; omega)] at hv
      cases hv)
  have HI : Hid (∀ k : Nat, k < 25 → ∀ W : World, (Instr.index 108 (.agg (gL g).toArray) (.int .i64 (k : Int))).run Tryd.prog W = .ok (.string (g k)) W) := Lib.hid (fun k hk W => sg_at g hk W)
  have hlen : (Tryd.prog.info? 108).map (·.size) = some (gL g).length := by kernel_rfl
  have HLEN := Lib.hid hlen
  clear hz hs hlen
  obtain ⟨gl, HGL⟩ : ∃ gl, Hid (gL g = gl) := ⟨_, Lib.hid rfl⟩
  rw [HGL.out] at HR HI HLEN
  go_enter Tryd.func54, Tryd.ntmps54
  go_wp2_with (refine wpList_load_mid rfl 108 (.global 1) rfl 1 0 rfl gl _ HR.out Tryd.underlying108 rfl HLEN.out ?_)
  go_loopw [3, 7] (fun m i wr => ∃ k : Nat, k ≤ 25 ∧ i = .int .i64 k ∧ m = .int .i64 (gM g s k) ∧ wr = w) (fun _ i _ => 25 - (intOf i).toNat)
  case atStart => exact ⟨0, by omega, rfl, rfl, by first | rfl | trivial⟩
  case round =>
    obtain ⟨k, hk, rfl, rfl, rfl⟩ := hrel
    by_cases hlt : k < 25
    · have h1 := HI.out k hlt
      have HM2 : Hid (gM g s k ≤ 2) := Lib.hid (gM_le HZ.out s k hk)
      have HS2 : Hid ((g k).size ≤ 2) := Lib.hid (HZ.out k hlt)
      obtain ⟨q, HQ⟩ : ∃ q, Hid (prefB s (g k) = q) := ⟨_, Lib.hid rfl⟩
      have HN : Hid (gM g s (k + 1) = if q = true then max (gM g s k) (g k).size else gM g s k) := Lib.hid (by rw [← HQ.out]; rfl)
      go_wp2_with fail
      clear h1
      refine (hasPrefix_any s (g k) _).mono ?_
      rw [HQ.out]
      rintro e w' ⟨rfl, rfl⟩
      cases q with
      | false =>
        go_wp2_with fail
        go_roundw
        case rel => exact ⟨k + 1, by omega, by go_num, by rw [HN.out]; rfl, by first | rfl | trivial⟩
        case measure => simp [intOf]; omega
      | true =>
        have h3 : gM g s k ≤ 2 := HM2.out
        generalize gM g s k = m at h3 HN
        go_wp2_with fail
        go_roundw
        case rel => exact ⟨k + 1, by omega, by go_num, by rw [HN.out]; simp; omega, by first | rfl | trivial⟩
        case measure => simp [intOf]; omega
    · obtain rfl : k = 25 := by omega
      go_wp2
      go_ret
      exact ⟨rfl, rfl⟩
end Go.Proofs.YtgnflnfajkoibaaDoor.lx
namespace Go.Proofs.YtgnflnfajkoibaaDoor.lx
open Go.ChangeShapes Go.WideShapes Go.ChangeAt Go.RowKit Go.Deep

theorem pref_list {s p : ByteArray} (h : prefB s p = true) : p.size ≤ s.size ∧ s.data.toList.take p.size = p.data.toList := by
  unfold prefB at h
  rw [Bool.and_eq_true, decide_eq_true_iff, beq_iff_eq, ByteArray.toList_eq, ByteArray.toList_eq] at h
  refine ⟨h.1, ?_⟩
  rw [← h.2]
  simp [ByteArray.data_extract]
theorem pref_of {s p : ByteArray} (h1 : p.size ≤ s.size) (h2 : s.data.toList.take p.size = p.data.toList) : prefB s p = true := by
  unfold prefB
  rw [Bool.and_eq_true, decide_eq_true_iff, beq_iff_eq, ByteArray.toList_eq, ByteArray.toList_eq]
  refine ⟨h1, ?_⟩
  rw [← h2]
  simp [ByteArray.data_extract]
theorem bt_list {s : ByteArray} {i : Nat} (h : i < s.size) : s.data.toList[i]? = some (s[i]'h) := by
  rw [Array.getElem?_toList, Array.getElem?_eq_getElem h]
  rfl
theorem pref1 {s : ByteArray} {c : UInt8} : prefB s ⟨[c].toArray⟩ = true ↔ 0 < s.size ∧ bt s 0 = c.toNat := by
  constructor
  · intro h
    obtain ⟨h1, h2⟩ := pref_list h
    have h0 : 0 < s.size := h1
    refine ⟨h0, ?_⟩
    have := congrArg (fun l => l[0]?) h2
    simp only [List.getElem?_take] at this
    rw [if_pos (by show 0 < 1; omega), bt_list h0] at this
    rw [bt_eq h0]
    have e : s[0] = c := by simpa using this
    rw [e]
  · rintro ⟨h0, h1⟩
    refine pref_of h0 ?_
    rw [bt_eq h0] at h1
    have e : s[0] = c := UInt8.toNat_inj.1 h1
    refine List.ext_getElem? fun i => ?_
    rcases i with _ | i
    · simp only [List.getElem?_take]
      rw [if_pos (by show 0 < 1; omega), bt_list h0, e]
      rfl
    · simp only [List.getElem?_take]
      rw [if_neg (by show ¬ i + 1 < 1; omega)]
      rfl
theorem pref2 {s : ByteArray} {c d : UInt8} : prefB s ⟨[c, d].toArray⟩ = true ↔ 1 < s.size ∧ bt s 0 = c.toNat ∧ bt s 1 = d.toNat := by
  constructor
  · intro h
    obtain ⟨h1, h2⟩ := pref_list h
    have h0 : 1 < s.size := h1
    have a := congrArg (fun l => l[0]?) h2
    have b := congrArg (fun l => l[1]?) h2
    simp only [List.getElem?_take] at a b
    rw [if_pos (by show 0 < 2; omega), bt_list (by omega)] at a
    rw [if_pos (by show 1 < 2; omega), bt_list h0] at b
    rw [bt_eq h0, bt_eq (pos := 0) (by omega)]
    have e : s[0] = c := by simpa using a
    have f : s[1] = d := by simpa using b
    rw [e, f]
    exact ⟨h0, rfl, rfl⟩
  · rintro ⟨h0, h1, h2⟩
    refine pref_of h0 ?_
    rw [bt_eq (pos := 0) (by omega)] at h1
    rw [bt_eq h0] at h2
    have e : s[0] = c := UInt8.toNat_inj.1 h1
    have f : s[1] = d := UInt8.toNat_inj.1 h2
    refine List.ext_getElem? fun i => ?_
    simp only [List.getElem?_take]
    rcases i with _ | _ | i
    · rw [if_pos (by show 0 < 2; omega), bt_list (by omega), e]
      rfl
    · rw [if_pos (by show 0 + 1 < 2; omega), bt_list h0, f]
      rfl
    · rw [if_neg (by show ¬ i + 2 < 2; omega)]
      rfl
theorem sg_two {s : ByteArray} {k : Nat} (hk : k < 25) (hp : prefB s (sgS k) = true) (h2 : (sgS k).size = 2) : 1 < s.size ∧ twoB (bt s 0) (bt s 1) = true := by
  have h : k = 0 ∨ k = 1 ∨ k = 2 ∨ k = 3 ∨ k = 4 ∨ k = 5 ∨ k = 6 ∨ k = 7 ∨ k = 8 ∨ k = 9 ∨ k = 10 ∨ k = 11 ∨ k = 12 ∨ k = 13 ∨ k = 14 ∨ k = 15 ∨ k = 16 ∨ k = 17 ∨ k = 18 ∨ k = 19 ∨ k = 20 ∨ k = 21 ∨ k = 22 ∨ k = 23 ∨ k = 24 := by omega
  rcases h with rfl | rfl | rfl | rfl | rfl | rfl | rfl | rfl | rfl | rfl | rfl | rfl | rfl | rfl | rfl | rfl | rfl | rfl | rfl | rfl | rfl | rfl | rfl | rfl | rfl
  all_goals first
    | exact absurd h2 (by decide)
    | (obtain ⟨h1, e1, e2⟩ := pref2.1 hp; exact ⟨h1, by rw [e1, e2]; decide⟩)
theorem sg_one {s : ByteArray} {k : Nat} (hk : k < 25) (hp : prefB s (sgS k) = true) (h2 : (sgS k).size = 1) : 0 < s.size ∧ oneB (bt s 0) = true := by
  have h : k = 0 ∨ k = 1 ∨ k = 2 ∨ k = 3 ∨ k = 4 ∨ k = 5 ∨ k = 6 ∨ k = 7 ∨ k = 8 ∨ k = 9 ∨ k = 10 ∨ k = 11 ∨ k = 12 ∨ k = 13 ∨ k = 14 ∨ k = 15 ∨ k = 16 ∨ k = 17 ∨ k = 18 ∨ k = 19 ∨ k = 20 ∨ k = 21 ∨ k = 22 ∨ k = 23 ∨ k = 24 := by omega
  rcases h with rfl | rfl | rfl | rfl | rfl | rfl | rfl | rfl | rfl | rfl | rfl | rfl | rfl | rfl | rfl | rfl | rfl | rfl | rfl | rfl | rfl | rfl | rfl | rfl | rfl
  all_goals first
    | exact absurd h2 (by decide)
    | (obtain ⟨h1, e1⟩ := pref1.1 hp; exact ⟨h1, by rw [e1]; decide⟩)
theorem sgS_ge {k : Nat} (h : k < 25) : (sgS k).size = 1 ∨ (sgS k).size = 2 := by
  have : ∀ k : Fin 25, (sgS k.1).size = 1 ∨ (sgS k.1).size = 2 := by decide
  exact this ⟨k, h⟩
theorem two_sg {s : ByteArray} (h1 : 1 < s.size) (h : twoB (bt s 0) (bt s 1) = true) : ∃ k, k < 25 ∧ prefB s (sgS k) = true ∧ (sgS k).size = 2 := by
  unfold twoB at h
  simp only [Bool.or_eq_true, Bool.and_eq_true, beq_iff_eq] at h
  have go : ∀ (c d : UInt8), bt s 0 = c.toNat ∧ bt s 1 = d.toNat → prefB s ⟨[c, d].toArray⟩ = true := fun c d e => pref2.2 ⟨h1, e.1, e.2⟩
  rcases h with ((((((h | h) | h) | h) | h) | h) | h) | h
  · exact ⟨10, by decide, go 58 61 h, by decide⟩
  · exact ⟨11, by decide, go 61 61 h, by decide⟩
  · exact ⟨12, by decide, go 33 61 h, by decide⟩
  · exact ⟨14, by decide, go 60 61 h, by decide⟩
  · exact ⟨15, by decide, go 45 62 h, by decide⟩
  · exact ⟨21, by decide, go 38 38 h, by decide⟩
  · exact ⟨22, by decide, go 124 124 h, by decide⟩
  · exact ⟨23, by decide, go 61 62 h, by decide⟩
theorem one_sg {s : ByteArray} (h1 : 0 < s.size) (h : oneB (bt s 0) = true) : ∃ k, k < 25 ∧ prefB s (sgS k) = true := by
  unfold oneB at h
  simp only [Bool.or_eq_true, beq_iff_eq] at h
  have go : ∀ (c : UInt8), bt s 0 = c.toNat → prefB s ⟨[c].toArray⟩ = true := fun c e => pref1.2 ⟨h1, e⟩
  rcases h with (((((((((((((((h | h) | h) | h) | h) | h) | h) | h) | h) | h) | h) | h) | h) | h) | h) | h) | h
  · exact ⟨0, by decide, go 40 h⟩
  · exact ⟨1, by decide, go 41 h⟩
  · exact ⟨2, by decide, go 91 h⟩
  · exact ⟨3, by decide, go 93 h⟩
  · exact ⟨4, by decide, go 123 h⟩
  · exact ⟨5, by decide, go 125 h⟩
  · exact ⟨6, by decide, go 59 h⟩
  · exact ⟨7, by decide, go 44 h⟩
  · exact ⟨8, by decide, go 58 h⟩
  · exact ⟨9, by decide, go 46 h⟩
  · exact ⟨13, by decide, go 60 h⟩
  · exact ⟨16, by decide, go 43 h⟩
  · exact ⟨17, by decide, go 45 h⟩
  · exact ⟨18, by decide, go 42 h⟩
  · exact ⟨19, by decide, go 33 h⟩
  · exact ⟨20, by decide, go 63 h⟩
  · exact ⟨24, by decide, go 64 h⟩
theorem gM_has {g : Nat → ByteArray} {s : ByteArray} : ∀ {n k : Nat}, k < n → prefB s (g k) = true → (g k).size ≤ gM g s n
  | 0, _, h, _ => absurd h (Nat.not_lt_zero _)
  | n + 1, k, h, hp => by
    unfold gM
    by_cases e : k = n
    · subst e
      rw [if_pos hp]; omega
    · have := gM_has (g := g) (s := s) (n := n) (k := k) (by omega) hp
      split <;> omega
theorem gM_from {g : Nat → ByteArray} {s : ByteArray} : ∀ n, gM g s n = 0 ∨ ∃ k, k < n ∧ prefB s (g k) = true ∧ (g k).size = gM g s n
  | 0 => .inl rfl
  | n + 1 => by
    unfold gM
    by_cases hp : prefB s (g n) = true
    · rw [if_pos hp]
      rcases Nat.le_total (gM g s n) (g n).size with h | h
      · exact .inr ⟨n, by omega, hp, by omega⟩
      · rcases gM_from (g := g) (s := s) n with h0 | ⟨k, h1, h2, h3⟩
        · exact .inl (by omega)
        · exact .inr ⟨k, by omega, h2, by omega⟩
    · rw [if_neg hp]
      rcases gM_from (g := g) (s := s) n with h0 | ⟨k, h1, h2, h3⟩
      · exact .inl h0
      · exact .inr ⟨k, by omega, h2, h3⟩
/-- The longest sign, by the first two bytes. -/
theorem sign_eq (s : ByteArray) : gM sgS s 25 = signN s := by
  unfold signN
  have hle := gM_le (g := sgS) (fun k hk => sgS_le hk) s 25 (Nat.le_refl _)
  by_cases h2 : 1 < s.size ∧ twoB (bt s 0) (bt s 1) = true
  · rw [if_pos h2]
    obtain ⟨k, hk, hp, hz⟩ := two_sg h2.1 h2.2
    have := gM_has (g := sgS) hk hp
    omega
  · rw [if_neg h2]
    by_cases h1 : 0 < s.size ∧ oneB (bt s 0) = true
    · rw [if_pos h1]
      obtain ⟨k, hk, hp⟩ := one_sg h1.1 h1.2
      have hge := gM_has (g := sgS) hk hp
      have hz := sgS_ge hk
      rcases gM_from (g := sgS) (s := s) 25 with h0 | ⟨j, g1, g2, g3⟩
      · omega
      · rcases sgS_ge g1 with e | e
        · omega
        · exact absurd (sg_two g1 g2 e) h2
    · rw [if_neg h1]
      rcases gM_from (g := sgS) (s := s) 25 with h0 | ⟨j, g1, g2, g3⟩
      · exact h0
      · rcases sgS_ge g1 with e | e
        · exact absurd (sg_one g1 g2 e) h1
        · exact absurd (sg_two g1 g2 e) h2
/-- The program's sign. -/
theorem sign_any (s : ByteArray) (w : World) (hs : SgW w) : Calls Tryd.prog 54 #[.string s] w fun e w' => e = .returned (.int .i64 (signN s)) ∧ w' = w := by
  have := sign_any' sgS (fun k hk => sgS_le hk) s w hs
  rw [sign_eq] at this
  exact this
end Go.Proofs.YtgnflnfajkoibaaDoor.lx
