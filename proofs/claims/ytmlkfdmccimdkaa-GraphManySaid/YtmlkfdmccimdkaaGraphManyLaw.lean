/- The law GraphMany: as many nodes as there may be are taken, and one more is not. -/
import Derived.Test.YtmlkfdmccimdkaaAwake
namespace Go.Proofs.Ytmlkfdmccimdkaa.graphMany
open Go.ChangeShapes Go.WideShapes Go.ChangeAt Go.RowKit Go.Shelf

theorem ra_nil {W : World} {b : Nat} {t : TypeId} (n : Nat) (h : W.rowIs b t n (fun _ => .slice none 0 0)) : RA W (some ⟨b, 0, none⟩) (List.replicate n []) := fun _ => by
  refine ⟨b, 0, rfl, h.lt, fun i hi => ?_⟩
  have hi2 : i < n := by simpa using hi
  have hd : (List.replicate n ([] : List (Int × Int))).getD i [] = [] := by simp [List.getD, hi2]
  rw [hd, Nat.zero_add]
  exact ⟨none, 0, h.cell hi2, Nat.le_refl _, Nat.zero_le _, fun h => absurd h (by simp)⟩
theorem chk_nil (n : Nat) : chkR n [] (List.replicate n []) = 0 := by
  unfold chkR
  rw [if_neg (by simp), if_neg (by simp)]
theorem row_new (w : World) (v : Value) (n : Nat) (t : TypeId) (b : Nat) (hb : b = w.heap.size) : (w.alloc (.cells (madeCells #[v] n) t)).rowIs b t n (fun _ => v) := by subst hb; exact World.rowIs_made w v n t
theorem row_old {w : World} {b : Nat} {t : TypeId} {n : Nat} {f : Nat → Value} (o : Obj) (h : w.rowIs b t n f) : (w.alloc o).rowIs b t n f := h.alloc o
theorem fitsU8 {x : Int} (w : (Lit.int .u8 x).wf = true) : 0 ≤ x ∧ x ≤ 255 := by
  have e1 : IntKind.u8.min = 0 := rfl
  have e2 : IntKind.u8.max = 255 := rfl
  simpa [Lit.wf, e1, e2] using w
set_option maxRecDepth 20000 in
set_option maxHeartbeats 4000000 in
theorem walk (x : Int) (w : World) (h0 : 0 ≤ x) (h1 : x ≤ 255) : Calls Try.prog 4 #[.int .u8 x] w (LawPost w) := by
  obtain ⟨n, HN, hn1, hn2⟩ : ∃ n : Nat, Hid (65533 + x % 8 = (n : Int)) ∧ 65533 ≤ n ∧ n ≤ 65540 := ⟨(65533 + x % 8).toNat, Lib.hid (by omega), by omega, by omega⟩
  obtain ⟨i0, hi, hz0, hz1, hz2⟩ := info_parts (show (Try.prog.info? 39).map (fun i => (i.zero, i.size, i.bytes)) = some (some (.slice none 0 0), 1, 24) by kernel_rfl)
  obtain ⟨i1, hi', hy0, hy1, hy2⟩ := info_parts (show (Try.prog.info? 63).map (fun i => (i.zero, i.size, i.bytes)) = some (some (.int .u64 0), 1, 8) by kernel_rfl)
  have hmk : ∀ W : World, (Instr.makeSlice 23 (.int .i64 (n : Int)) (.int .i64 (n : Int))).run Try.prog W = .ok (.slice (some ⟨W.heap.size, 0, none⟩) n n) (W.alloc (.cells (madeCells #[.slice none 0 0] n) 39)) := fun W => by
    have hr := run_make (P := Try.prog) W 23 39 i0 _ (by kernel_rfl) hi hz0 .i64 .i64 (n : Int) (n : Int) (by omega) (Int.le_refl _) (by rw [hz2]; omega) (by omega)
    rw [hr, hz1, Int.toNat_natCast, Nat.mul_one]
    rfl
  have hml : ∀ W : World, (Instr.makeSlice 24 (.int .i64 (n : Int)) (.int .i64 (n : Int))).run Try.prog W = .ok (.slice (some ⟨W.heap.size, 0, none⟩) n n) (W.alloc (.cells (madeCells #[.int .u64 0] n) 63)) := fun W => by
    have hr := run_make (P := Try.prog) W 24 63 i1 _ (by kernel_rfl) hi' hy0 .i64 .i64 (n : Int) (n : Int) (by omega) (Int.le_refl _) (by rw [hy2]; omega) (by omega)
    rw [hr, hy1, Int.toNat_natCast, Nat.mul_one]
    rfl
  clear hi hz0 hz1 hz2 hi' hy0 hy1 hy2
  have HW : Hid (∀ o1 o2 o3 : Obj, Below w.heap.size w ((((w.alloc o1).alloc o2).alloc o3).drew)) := Lib.hid (fun o1 o2 o3 => (((below1 w o1).alloc (by simp) o2).alloc (by simp <;> omega) o3).drew)
  by_cases hle : n ≤ 65536
  · have HLE := Lib.hid hle
    have hd : decide ((65536 : Int) < (n : Int)) = false := decide_eq_false (by omega)
    have HLEN : Hid ((List.replicate n ([] : List (Int × Int))).length = n) := Lib.hid (by simp)
    clear hle
    go_enter Try.func4, Try.ntmps4
    go_upto_region 2 with (fail)
    rw [HN.out]
    go_region
    all_goals
      clear hmk hml
      go_wp2_with fail
      refine (check_rest none _ _ 0 n n n [] (List.replicate n []) _ HLE.out HLEN.out (by decide) (fun h => absurd h (by decide)) (ra_nil n (by first | exact (row_new _ _ _ _ _ (by simp)).drew | exact ((row_new _ _ _ _ _ (by simp)).alloc _).drew | exact (((row_new _ _ _ _ _ (by simp)).alloc _).alloc _).drew))).mono ?_
      rw [chk_nil]
      rintro e w5 ⟨rfl, hb5⟩
      have HB5 : Hid (Below w.heap.size w w5) := Lib.hid ((HW.out _ _ _).trans (hb5.mono (HW.out _ _ _).size))
      clear hb5
      go_wp2_with fail
      refine (awake_any _).mono ?_
      rintro e w6 ⟨rfl, hb6⟩
      go_wp2
      go_ret
      exact ⟨rfl, HB5.out.trans (hb6.mono HB5.out.size)⟩
  · have HLE : Hid (65536 < n) := Lib.hid (by omega)
    have HMX : Hid (n ≤ maxLen) := Lib.hid (by unfold maxLen; omega)
    have hd : decide ((65536 : Int) < (n : Int)) = true := decide_eq_true (by omega)
    clear hle
    go_enter Try.func4, Try.ntmps4
    go_upto_region 2 with (fail)
    rw [HN.out]
    go_region
    all_goals
      clear hmk hml
      go_wp2_with fail
      refine (check_many _ _ _ n n _ HLE.out HMX.out).mono ?_
      rintro e w5 ⟨rfl, hb5⟩
      have HB5 : Hid (Below w.heap.size w w5) := Lib.hid ((HW.out _ _ _).trans (hb5.mono (HW.out _ _ _).size))
      clear hb5
      go_wp2_with fail
      refine (awake_any _).mono ?_
      rintro e w6 ⟨rfl, hb6⟩
      go_wp2
      go_ret
      exact ⟨rfl, HB5.out.trans (hb6.mono HB5.out.size)⟩

set_option maxRecDepth 100000 in
theorem lifted (os : Os) (started : os.Started) (H : Type) (enc : TypeId × Value → H) :
    ReturnsInHanded {} Try.checked os 4 .any (Rows.graphManySpec.pre6 enc Try.prog Try.f4 Rows.graphManyRow.domain false) (Rows.graphManySpec.post enc Try.prog Try.f4 false true false false) := by
  refine law_lifted started [5] rfl (by kernel_rfl) Try.func4 rfl (by decide +kernel) rfl (fun ds hl => by
    match ds, hl with
    | [_], _ => rfl) (ChangeSpec.witness6 (enc := enc) (C := Try.checked) false ⟨#[], #[.int .u8 0], []⟩ 8 (by kernel_rfl) (by kernel_rfl) (by kernel_rfl) (by kernel_rfl)) ?_
  intro W base args ds ps hval hA hlt hsz
  obtain ⟨v0, vs0, d0, ds0, p0, q0, hargs, rfl, rfl, h0, r0⟩ := trodAll_cons hA
  obtain ⟨rfl, rfl, rfl⟩ := trodAll_nil r0
  obtain rfl : args = #[v0] := by cases args; simp_all
  obtain ⟨x0, rfl, rfl, rfl, w0⟩ := open_int Try.underlying5 (hval 0 5 v0 rfl rfl) h0
  exact walk x0 W (fitsU8 w0).1 (fitsU8 w0).2

set_option maxRecDepth 100000 in
theorem over : Rows.graphManyRow.holds Try.pinned (OpenSpec.ofChange Rows.graphManySpec) :=
  OpenClaim.holds_of_wide 4 Try.f4 rfl rfl rfl rfl rfl rfl rfl ⟨rfl, rfl, rfl, rfl, rfl⟩ rfl rfl rfl rfl rfl (by kernel_rfl) Try.func4 (by kernel_rfl)
    (of_decide_eq_true (by kernel_rfl)) (by unfold Func.isWrapper; first | (rw [if_pos (by decide +kernel)]; kernel_rfl) | (rw [if_neg (by decide +kernel)]; exact ⟨rfl, rfl⟩))
    (fun os started H enc _ => lifted os started H enc)

theorem proved : Rows.GraphManySaid := over
#print axioms proved
end Go.Proofs.Ytmlkfdmccimdkaa.graphMany
