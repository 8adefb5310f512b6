/- slices.Values, slices.Collect, slices.Sorted of ints. -/
import Derived.Test.YtjgifbcjokeigaaGMarks
import Derived.Maps.AppendAt
import Derived.RangeFuncBox
namespace Go.Proofs.Ytjgifbcjokeigaa
open Go.ChangeShapes Go.WideShapes Go.ChangeAt Go.RowKit Go.Shelf

attribute [local go_sem] Oper.semAt_some

theorem take_snoc' (xs : List Int) {m : Nat} (h : m < xs.length) : xs.take (m + 1) = xs.take m ++ [xs.getD m (0 : Int)] := by
  rw [List.take_succ_eq_append_getElem h]; simp [List.getD, h]
theorem values_any (A : Option Addr) (n c : Nat) (w : World) :
    Calls Try.prog 63 #[.slice A n c] w fun e w' => e = .returned (.func (.func 84) #[] #[.pointer (some ⟨w.heap.size, 0, none⟩)]) ∧ w' = w.alloc (.cells #[.slice A n c] 22) := by
  go_enter Try.func63, Try.ntmps63
  go_wp2
  go_ret
  exact ⟨rfl, rfl⟩

set_option maxRecDepth 100000 in
set_option maxHeartbeats 1000000 in
/-- Values' iterator, for every loop body that keeps the elder blocks. -/
theorem values1_in (w0 : World) (l Bn n c : Nat) (A : Option Addr) (xs : List Int) (hn : n = xs.length) (hnl : n ≤ 1000000) (hA : IA w0 A xs) (J Jx : List Int → World → Prop)
    (hY : ∀ pre x W, J pre W → pre.length < xs.length → YieldAt Fence.wide 3 Try.prog l #[(.int .i64 x)] W fun e W' =>
      (e = .returned (.bool true) ∧ J (pre ++ [x]) W' ∧ KS (fun q => q < w0.heap.size) W W') ∨ (e = .returned (.bool false) ∧ Jx (pre ++ [x]) W'))
    (W : World) (hk : ∀ q, q < w0.heap.size → W.heap[q]? = w0.heap[q]?) (hz : w0.heap.size ≤ W.heap.size) (hBn : W.cell? ⟨Bn, 0, none⟩ = some (.slice A n c)) (h0 : J [] W) :
    CallsIn Fence.wide 4 Try.prog 84 #[.func (.yield l) #[] #[], .pointer (some ⟨Bn, 0, none⟩)] W fun e W' => (∃ v, e = .returned v) ∧
      ((∃ ys, ys = xs ∧ J ys W') ∨ (∃ pre, pre <+: xs ∧ Jx pre W')) := by
  have HN := Lib.hid hn
  have HA := Lib.hid hA
  have HK0 := Lib.hid hk
  clear hn hA hk
  refine callsIn_of_wp Try.func84 rfl trivial ?_ rfl
  simp only [Try.ntmps84, List.size_toArray, List.length_cons, List.length_nil, Nat.reduceAdd, Nat.reduceSub, Array.replicate_succ, Array.replicate_zero, List.push_toArray, List.append_toArray, List.nil_append, List.cons_append]
  gi_wp2
  clear hBn
  gi_loopw [7] (fun i wr => ∃ m : Nat, m ≤ n ∧ i = .int .i64 m ∧ J (xs.take m) wr ∧ Hid (∀ q, q < w0.heap.size → wr.heap[q]? = w0.heap[q]?)) (fun i _ => n - (intOf i).toNat)
  case atStart => exact ⟨0, by omega, rfl, by simpa using h0, HK0⟩
  case round =>
    obtain ⟨m, hm, rfl, hJ, HW⟩ := hrel
    by_cases hlt : m < n
    · have hml : m < xs.length := by rw [← HN.out]; exact hlt
      obtain ⟨b, o, rfl, hb, hc⟩ := HA.out (by omega)
      have c1 : wr.cell? ⟨b, o + m, none⟩ = some (.int .i64 (xs.getD m 0)) := (World.cell?_of_block (w := w0) (a := ⟨b, o + m, none⟩) (HW.out b hb)).trans (hc m hml)
      have HS := Lib.hid (take_snoc' xs hml)
      generalize xs.getD m (0 : Int) = x at c1 HS
      have HPX : Hid (xs.take m ++ [x] <+: xs) := Lib.hid (by rw [← HS.out]; exact List.take_prefix _ _)
      have HLEN : Hid ((xs.take m).length < xs.length) := Lib.hid (by rw [List.length_take]; omega)
      obtain ⟨fn, tmps, assign, body, hy, hR⟩ := hY _ x wr hJ HLEN.out
      clear hc hml hJ
      gi_wp2
      refine hR.mono ?_
      rintro e W3 (⟨rfl, hJ3, hk3⟩ | ⟨rfl, hJx3⟩)
      · have HW3 : Hid (∀ q, q < w0.heap.size → W3.heap[q]? = w0.heap[q]?) := Lib.hid (fun q hq => (hk3 q hq).trans (HW.out q hq))
        clear hk3
        gi_wp2
        go_roundw
        case rel => exact ⟨m + 1, by omega, by go_num, by rw [HS.out]; exact hJ3, HW3⟩
        case measure => simp [intOf]; omega
      · gi_wp2
        refine bodyPost_ret (results_none rfl _ _ _) rfl ?_
        exact ⟨⟨_, rfl⟩, .inr ⟨_, HPX.out, hJx3⟩⟩
    · obtain rfl : m = n := by omega
      gi_wp2
      go_end0
      exact ⟨⟨_, rfl⟩, .inl ⟨_, rfl, by rwa [List.take_of_length_le (by rw [HN.out]; exact Nat.le_refl _)] at hJ⟩⟩
theorem values_stops (w0 w : World) (Bn n c : Nat) (A : Option Addr) (xs : List Int) (hn : n = xs.length) (hnl : n ≤ 1000000) (hA : IA w0 A xs) (hz : w0.heap.size ≤ w.heap.size) (hk : ∀ q, q < w0.heap.size → w.heap[q]? = w0.heap[q]?) (hB : Bn < w.heap.size) (hBn : w.cell? ⟨Bn, 0, none⟩ = some (.slice A n c)) :
    SeqStopsK Fence.wide 4 Try.prog 84 #[.pointer (some ⟨Bn, 0, none⟩)] (fun x : Int => #[(.int .i64 x)]) (KS fun q => q < w0.heap.size) (fun ys => ys = xs) (fun pre => pre <+: xs) xs.length w := fun l J Jx W hW _ _ hY h0 =>
  values1_in w0 l Bn n c A xs hn hnl hA J Jx hY W (fun q hq => (hW.block q (by omega)).trans (hk q hq)) (by have := hW.size; omega) ((hW.cell (p := ⟨Bn, 0, none⟩) hB).trans hBn) h0

set_option maxRecDepth 100000 in
set_option maxHeartbeats 2000000 in
theorem appendSeq_any (gf : Nat) (lb : Array Value) (l : List Int) (K : Nat → Prop) (w : World) (hK : ∀ q, K q → q < w.heap.size) (hN : l.length ≤ 1000000) (eg : ∀ args w, (callFunc gf args).run Try.prog w = .ok (.enter gf args) w)
    (hseq : SeqStopsK Fence.wide 4 Try.prog gf lb (fun x : Int => #[(.int .i64 x)]) (KS K) (fun ys => ys = l) (fun pre => pre <+: l) l.length w) :
    Calls Try.prog 88 #[.slice none 0 0, .func (.func gf) #[] lb] w fun e w' => ∃ v, e = .returned v ∧ OI w.heap.size w' v l ∧ Below w.heap.size w w' := by
  obtain ⟨i0, hi, hz0, hz1, hz2⟩ := info_parts (show (Try.prog.info? 3).map (fun i => (i.zero, i.size, i.bytes)) = some (some (.int .i64 0), 1, 8) by kernel_rfl)
  refine (callsIn_wide (n := 5)).1 ?_
  refine callsIn_of_wp_marks Try.func88 rfl trivial ?_ rfl
  simp only [Try.ntmps88, List.size_toArray, List.length_cons, List.length_nil, Nat.reduceAdd, Nat.reduceSub, Array.replicate_succ, Array.replicate_zero, List.push_toArray, List.append_toArray, List.nil_append, List.cons_append]
  gi_wp2_with fail
  have hB0 : Below w.heap.size w (w.alloc (.cells #[.slice none 0 0] 22)) := (Below.refl _ w).alloc (Nat.le_refl _) _
  refine wpIn_rangeFunc_ownF (F := Fence.wide) (n := 5) rfl (by omega) (gf := gf) (lb := lb) rfl trivial eg hseq KS.trans (KS.back (fun q hq => by have := hK q hq; simp; omega)) hB0 (fun _ => rfl)
    (fun pre W => (∃ v, Boxed W w.heap.size 22 v ∧ W.ownsRow w.heap.size 3 1 v pre.length (pre.map fun x => (.int .i64 x)) ∧ True) ∧ Below w.heap.size w W)
    (fun _ _ _ => False) ?hI ?hIx ?h0 (fun x => { tmps := #[.slice none 0 0, .func (.func gf) #[] lb, .pointer (some ⟨w.heap.size, 0, none⟩), undef, .slice none 0 0, (.int .i64 x), .func (.func gf) #[] lb, (.int .i64 x), undef, undef, undef, undef, undef], defers := [] }) ?assign ?body ?done ?stop
  case hI => exact OwnFrom.and (Own.from (holdsRow_own w.heap.size w.heap.size 22 3 1 (fun pre : List Int => pre.length) (fun pre => pre.map fun x => (.int .i64 x)) (fun _ _ => True)) _) (ownFrom_below (Nat.le_refl _) (by simp))
  case hIx => exact fun _ _ _ _ _ hs _ _ => hs
  case h0 => exact ⟨⟨_, Boxed.new w _ _, World.ownsRow_nil _ _ _ _, trivial⟩, hB0⟩
  case assign =>
    intro l' x W K hK
    gi_wp2
    exact hK
  case body =>
    rintro l' pre x W ⟨⟨v, hv, hrow, _⟩, hB⟩ hlen
    have hc := hv.cell
    have hle : w.heap.size ≤ W.heap.size := hB.size
    gi_wp2_with (gi_at_builtin; refine wpListIn_append_own _ rfl _ _ 22 rfl w.heap.size 3 i0 (.int .i64 (0 : Int)) 1 8 Try.underlying22 hi hz0 hz1 hz2 rfl (by decide) _ _ _ rfl (hrow.alloc _) ⟨W.heap.size, 0, none⟩ 1 1 [(.int .i64 x)] rfl rfl (cell_one_new _ _ _) (by simp [Value.oneCell']) (by unfold maxLen; omega) (by omega) (by have := hB.size; simp; omega) ?_; intro v' w1 hown' hgrow _; obtain ⟨g', cap', rfl⟩ := ownsRow_succ hown'; obtain ⟨hv1, hv2, hr2, hk2, hb2⟩ := hv.appended (by decide) hrow hB.size (Nat.le_refl _) hown' hgrow; have hc1 := hv1.cell; have hf1 := hv1.frozen)
    exact ⟨hk2, KS.below hb2 hK, ⟨_, hv2, by simpa using hr2, trivial⟩, hB.trans hb2⟩
  case done =>
    rintro D ys W hD rfl ⟨⟨v, hv, hrow, _⟩, hB⟩ hK
    have hc := hv.cell
    gi_wp2
    refine ⟨by simp, .inl ⟨_, _, rfl, run_takeDeferred hK, ?_⟩⟩
    exact ⟨_, results_tmp rfl _ _ _, v, rfl, ownsRow_putObj hrow _ hK rfl, hB.trans (belowK_b (w := w) (Nat.le_refl _) W D _ _ (by simp at hD; omega) hK rfl rfl)⟩
  case stop => exact fun _ _ _ _ _ _ h => h.elim

theorem collect_any (gf : Nat) (lb : Array Value) (l : List Int) (K : Nat → Prop) (w : World) (hK : ∀ q, K q → q < w.heap.size) (hN : l.length ≤ 1000000) (eg : ∀ args w, (callFunc gf args).run Try.prog w = .ok (.enter gf args) w)
    (hseq : SeqStopsK Fence.wide 4 Try.prog gf lb (fun x : Int => #[(.int .i64 x)]) (KS K) (fun ys => ys = l) (fun pre => pre <+: l) l.length w) :
    Calls Try.prog 82 #[.func (.func gf) #[] lb] w fun e w' => ∃ v, e = .returned v ∧ OI w.heap.size w' v l ∧ Below w.heap.size w w' := by
  have HC := Lib.hid (appendSeq_any gf lb l K w hK hN eg hseq)
  clear hseq eg
  go_enter Try.func82, Try.ntmps82
  go_wp2_with fail
  refine HC.out.mono ?_
  rintro e w' ⟨v, rfl, h1, h2⟩
  obtain ⟨A, c, rfl, hA⟩ := h1.form
  have H1 := Lib.hid h1
  have H2 := Lib.hid h2
  clear h1 h2 hA
  go_wp2_with fail
  go_ret
  exact ⟨_, rfl, H1.out, H2.out⟩
end Go.Proofs.Ytjgifbcjokeigaa
