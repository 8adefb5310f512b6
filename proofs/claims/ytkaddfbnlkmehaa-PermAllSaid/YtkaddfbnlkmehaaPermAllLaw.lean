/- The law PermAll: of any number of things: all permutations are told, each once, in the order of their ranks, each in memory of its own; and nothing that was there is changed. No condition. -/
import Derived.Test.YtkaddfbnlkmehaaPermWorks
import Derived.Test.YtkaddfbnlkmehaaRefPermUnrank
import Derived.Test.YtkaddfbnlkmehaaPermAll
import Derived.Deep.RegionHeld3
namespace Go.Proofs.Ytkaddfbnlkmehaa.permAll
open Go.ChangeShapes Go.WideShapes Go.ChangeAt Go.RowKit Go.Shelf

theorem run_equalIn_func_nil {P : Program} (w : World) (d : Nat) (t : TypeId) {ps rs : Array TypeId} {va : Bool} (h : P.underlying t = some (.func ps rs va)) (f : Fn) (x y : Array Value) :
    (Op.equalIn (d + 1) t (.func f x y) .nilFunc).run P w = .ok false w := by
  simp [Op.equalIn, run_underlying h]
theorem run_eql_func_nil {P : Program} (w : World) (t : TypeId) {ps rs : Array TypeId} {va : Bool} (h : P.underlying t = some (.func ps rs va)) (f : Fn) (x y : Array Value) : (binOp .eql t (.func f x y) .nilFunc).run P w = .ok (.bool false) w := by
  simp only [binOp]
  simp [Op.equal, Op.maxDepth, run_equalIn_func_nil w 9999 t h f x y]
theorem seqNotNil (w : World) (f : Fn) (x y : Array Value) : (binOp .eql 51 (.func f x y) .nilFunc).run Try.prog w = .ok (.bool false) w := run_eql_func_nil w _ Try.underlying51 f x y

theorem mid (n : Int) (w : World) (h1 : 6 < n) (h2 : n ≤ 8) : Calls Try.prog 12 #[.int .i64 n] w (LawPost w) := by
  go_enter Try.func12, Try.ntmps12
  go_wp2_with fail
  refine (works_any w).mono ?_
  rintro e w7 ⟨rfl, hb7⟩
  go_wp2
  go_ret
  exact ⟨rfl, hb7⟩

theorem out (n : Int) (w : World) (h : n < 0 ∨ 8 < n) : Calls Try.prog 12 #[.int .i64 n] w (LawPost w) := by
  have HC := Lib.hid (collect_all n [] (w.alloc (.cells #[.int .i64 n] 3)) w.heap.size (fun w' h' => all_none w.heap.size n w' (by omega) h') (cell_new_l w _ _).1)
  have hs := seqNotNil
  rcases h with h | h
  all_goals
    go_enter Try.func12, Try.ntmps12
    go_wp2_with fail
    refine (all_any n w).mono ?_
    rintro e w1 ⟨rfl, rfl⟩
    go_wp2_with fail
    refine HC.out.mono ?_
    rintro e w2 ⟨xs, v, rfl, hx, hr, _, hb⟩
    have hx0 : xs = [] := by simpa using hx
    subst hx0
    have HB : Hid (Below w.heap.size w w2) := Lib.hid (((Below.refl _ w).alloc (Nat.le_refl _) _).trans (hb.mono (by simp)))
    obtain ⟨A, c, rfl⟩ : ∃ A c, v = .slice A 0 c := by
      rcases hr.2 with ⟨e, _⟩ | ⟨g, cap, cur, e, _⟩
      · exact ⟨_, _, e⟩
      · exact ⟨_, _, e⟩
    clear hx hr hb hs
    go_wp2
    go_loopw [5] (fun i wr => i = .int .i64 0 ∧ w2 = wr) (fun _ _ => 0)
    case atStart => exact ⟨rfl, rfl⟩
    case round =>
      obtain ⟨rfl, rfl⟩ := hrel
      go_wp2_with fail
      refine (works_any w2).mono ?_
      rintro e w7 ⟨rfl, hb7⟩
      have HB7 := Lib.hid (HB.out.trans (hb7.mono HB.out.size))
      clear hb7
      go_wp2
      go_ret
      exact ⟨rfl, HB7.out⟩

set_option maxRecDepth 100000 in
set_option maxHeartbeats 8000000 in
theorem few (n : Nat) (w : World) (hn : n ≤ 6) : Calls Try.prog 12 #[.int .i64 n] w (LawPost w) := by
  have HC := Lib.hid (collect_all n (prms n (fct n)) (w.alloc (.cells #[.int .i64 n] 3)) w.heap.size (fun w' h' => all_mem w.heap.size n w' hn h') (cell_new_l w _ _).1)
  have hs := seqNotNil
  have hmx : Try.prog.follows .mixedOrders = true := by kernel_rfl
  have hfl : fct n ≤ 720 := by
    have : ∀ n, n < 7 → fct n ≤ 720 := by decide
    exact this n (by omega)
  have hfp : 0 < fct n := fct_pos n
  have hq := Try.eqlNil22
  go_enter Try.func12, Try.ntmps12
  go_wp2_with fail
  refine (all_any n w).mono ?_
  rintro e w1 ⟨rfl, rfl⟩
  go_wp2_with fail
  refine HC.out.mono ?_
  rintro e w2 ⟨xs, v, rfl, hx, hr, hxs, hb⟩
  have HB : Hid (Below w.heap.size w w2) := Lib.hid (((Below.refl _ w).alloc (Nat.le_refl _) _).trans (hb.mono (by simp)))
  have hlen : xs.length = fct n := by
    have h := congrArg List.length hx
    simpa [prms] using h
  obtain ⟨g, cap, rfl, _, hg⟩ := World.ownsRow.form hr (by omega)
  have HX := Lib.hid hx
  have HXS := Lib.hid hxs
  have HRW := Lib.hid hr
  have HLEN := Lib.hid hlen
  have HG := Lib.hid hg
  rw [hlen]
  clear hx hr hxs hb hs hlen hg HC
  obtain ⟨F, HF⟩ : ∃ F, Hid (fct n = F) := ⟨_, Lib.hid rfl⟩
  rw [HF.out] at hfl hfp ⊢
  go_wp2
  go_loopw [5] (fun i wr => ∃ k : Nat, k ≤ F ∧ i = .int .i64 k ∧ Hid (Below w2.heap.size w2 wr)) (fun i _ => F - (intOf i).toNat)
  case atStart => exact ⟨0, by omega, rfl, Lib.hid (Below.refl _ _)⟩
  case round =>
    obtain ⟨k, hk, rfl, HW⟩ := hrel
    by_cases hlt : k < F
    · have hkx : k < xs.length := by rw [HLEN.out, HF.out]; exact hlt
      obtain ⟨A, c, hx2, hi2⟩ := HXS.out _ (List.getElem_mem hkx)
      have hx1 : xs[k].1 = uns n k n := by
        have h := congrArg (fun l => l[k]?) HX.out
        simp [prms, hkx, show k < fct n by rw [HF.out]; exact hlt] at h
        exact h
      rw [hx1] at hx2 hi2
      rw [uns_length] at hx2
      have c0 : w2.cell? ⟨g, k, none⟩ = some (.slice A n c) := by
        rw [World.ownsRow.cellAt HRW.out k (by omega)]
        simp [hkx, hx2]
      have C0 := Lib.hid c0
      have HI := Lib.hid hi2
      have HUN : Hid (unF n k = uns n k n) := Lib.hid (by unfold unF; rw [if_pos (by have := HF.out; simp; omega)]; simp)
      have HRK : Hid (rkF (uns n k n) = (k : Int)) := Lib.hid (by
        have hp := uns_prm (n := n) k (by omega)
        unfold rkF
        rw [if_pos (chk_iff.2 hp), uns_length, rk_uns_full (by rw [HF.out]; exact hlt)])
      have HUL : Hid (n = (uns n k n).length) := Lib.hid (uns_length n k n).symm
      have HUM : Hid ((uns n k n).length ≤ maxLen) := Lib.hid (by rw [uns_length]; unfold maxLen; omega)
      have HU6 : Hid ((uns n k n).length ≤ 1000000) := Lib.hid (by rw [uns_length]; omega)
      have HEQ : Hid (eqB (uns n k n) (uns n k n) = true) := Lib.hid (eqB_yes rfl)
      have i1 : (0 : Int) ≤ (k : Int) := by omega
      have i2 : (k : Int) < (F : Int) := by omega
      have i3 : (k : Int) ≤ 720 := by omega
      have hcw : wr.cell? ⟨g, k, none⟩ = some (.slice A n c) := (HW.out.cell (p := ⟨g, k, none⟩) HG.out).trans c0
      have HKEEP : Hid (Below w2.heap.size w2 wr) := HW
      clear hx1 hx2 hi2 c0
      go_wp2
      go_region_held3 (fun w' => w'.cell? ⟨g, k, none⟩ = some (.slice A n c)) (first | exact (HKEEP.out.cell (p := ⟨g, k, none⟩) HG.out).trans C0.out | go_keep)
        (first
          | (go_at_call 41; refine (refUnrank_any n k _).mono ?_; rw [HUN.out]; rintro e w3 ⟨D3, c3, rfl, h3, hb3⟩; rw [← HUL.out]; have HKEEP : Hid (Below w2.heap.size w2 w3) := Lib.hid (HKEEP.out.drew.trans (hb3.mono HKEEP.out.size)); have H3 := Lib.hid h3.ia; clear h3 hb3)
          | (go_at_call 27; refine (equal_ints _ _ _ _ _ _ (uns n k n) (uns n k n) _ HUL.out HUL.out (HI.out.below HKEEP.out) H3.out HUM.out HUM.out).mono ?_; rintro e w4 ⟨rfl, j4, rfl⟩; rw [HEQ.out]; have HKEEP := Lib.hid (below_drewN HKEEP.out j4))
          | (go_at_call 39; refine (rank_any A c n (uns n k n) _ HUL.out (HI.out.below HKEEP.out) HU6.out).mono ?_; rintro e w5 ⟨rfl, hb5⟩; rw [HRK.out]; have HKEEP := Lib.hid (HKEEP.out.trans (hb5.mono HKEEP.out.size)); clear hb5))
      go_wp2
      go_roundw
      case rel => exact ⟨k + 1, by omega, by go_num, HKEEP⟩
      case measure => simp [intOf]; omega
    · obtain rfl : k = F := by omega
      have HW2 : Hid (Below w.heap.size w wr) := Lib.hid (HB.out.trans (HW.out.mono HB.out.size))
      have HNO : Hid (¬ (0 ≤ (n : Int) ∧ (n : Int) ≤ 8 ∧ 0 ≤ (k : Int) ∧ (k : Int) < fct (n : Int).toNat)) := Lib.hid (by have := HF.out; simp; omega)
      clear hlt
      go_wp2_with fail
      refine (refUnrank_no n k wr HNO.out).mono ?_
      rintro e w' ⟨rfl, rfl⟩
      go_wp2_with fail
      refine (works_any wr).mono ?_
      rintro e w7 ⟨rfl, hb7⟩
      have HB7 := Lib.hid (HW2.out.trans (hb7.mono HW2.out.size))
      clear hb7
      go_wp2
      go_ret
      exact ⟨rfl, HB7.out⟩

theorem walk (n : Int) (w : World) : Calls Try.prog 12 #[.int .i64 n] w (LawPost w) := by
  by_cases h : n < 0 ∨ 8 < n
  · exact out n w h
  · by_cases h6 : 6 < n
    · exact mid n w h6 (by omega)
    · obtain ⟨m, rfl⟩ : ∃ m : Nat, n = (m : Int) := ⟨n.toNat, by omega⟩
      exact few m w (by omega)

set_option maxRecDepth 100000 in
theorem lifted (os : Os) (started : os.Started) (H : Type) (enc : TypeId × Value → H) :
    ReturnsInHanded {} Try.checked os 12 .any (Rows.permAllSpec.pre6 enc Try.prog Try.f12 Rows.permAllRow.domain false) (Rows.permAllSpec.post enc Try.prog Try.f12 false true false false) := by
  refine law_lifted started [3] rfl (by kernel_rfl) Try.func12 rfl (by decide +kernel) rfl (fun ds hl => by
    match ds, hl with
    | [_], _ => rfl) (ChangeSpec.witness6 (enc := enc) (C := Try.checked) false ⟨#[], #[.int .i64 0], []⟩ 8 (by kernel_rfl) (by kernel_rfl) (by kernel_rfl) (by kernel_rfl)) ?_
  intro W base args ds ps hval hA hlt hsz
  obtain ⟨v0, vs0, d0, ds0, p0, q0, hargs, rfl, rfl, h0, r0⟩ := trodAll_cons hA
  obtain ⟨rfl, rfl, rfl⟩ := trodAll_nil r0
  obtain rfl : args = #[v0] := by cases args; simp_all
  obtain ⟨x0, rfl, rfl, rfl, w0⟩ := open_int Try.underlying3 (hval 0 3 v0 rfl rfl) h0
  exact walk x0 W

set_option maxRecDepth 100000 in
theorem over : Rows.permAllRow.holds Try.pinned (OpenSpec.ofChange Rows.permAllSpec) :=
  OpenClaim.holds_of_wide 12 Try.f12 rfl rfl rfl rfl rfl rfl rfl ⟨rfl, rfl, rfl, rfl, rfl⟩ rfl rfl rfl rfl rfl (by kernel_rfl) Try.func12 (by kernel_rfl)
    (of_decide_eq_true (by kernel_rfl)) (by unfold Func.isWrapper; first | (rw [if_pos (by decide +kernel)]; kernel_rfl) | (rw [if_neg (by decide +kernel)]; exact ⟨rfl, rfl⟩))
    (fun os started H enc _ => lifted os started H enc)

theorem proved : Rows.PermAllSaid := over
#print axioms proved
end Go.Proofs.Ytkaddfbnlkmehaa.permAll
