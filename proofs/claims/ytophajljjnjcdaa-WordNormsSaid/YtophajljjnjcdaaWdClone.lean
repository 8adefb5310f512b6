/- Rows of uint64s: clones, what is joined, heads and tails. -/
import Derived.Test.YtophajljjnjcdaaWdEach
import Derived.Lib.AppendZeros
import Derived.Lib.SliceRun
namespace Go.Proofs.Ytophajljjnjcdaa.wd
open Go.ChangeShapes Go.WideShapes Go.ChangeAt Go.RowKit Go.Deep sr lt nf

theorem or_le {α : Type} {enc : α → List Value} {size base : Nat} {e : TypeId} {w : World} {A : Option Addr} {m c : Nat} {l : List α} (h : OR enc size base e w (.slice A m c) l) : m = l.length ∧ l.length ≤ c := by
  rcases h.2 with ⟨e2, h0⟩ | ⟨g, cap, cur, e2, _, _, h3, _⟩
  · injection e2 with e1 e3 e4
    omega
  · injection e2 with e1 e3 e4
    omega
section
variable {α : Type} {enc : α → List Value} {size : Nat} [Inhabited α]
/-- append of all of a slice that may hold nothing. -/
theorem list_append_all {t e : TypeId} {z : Value} {bytes : Nat} (hsz : ∀ x, (enc x).length = size) (hone : ∀ x, ∀ u ∈ enc x, u.oneCell' = true) (ht : Try.prog.underlying t = some (.slice e)) (hi : (Try.prog.info? e).map (fun i => (i.zero, i.size, i.bytes)) = some (some z, size, bytes)) (hzs : z.cells.size = size) (h0 : 0 < size) (hby : bytes ≤ 100)
    {w : World} {ops : Array Oper} {rest : List Oper} {o : Oper} {a : Act} {Q : Exit → Act → World → Prop} (base : Nat) (hgd : o.guard = none) (s x : Operand)
    (ho : o.op = .call { callee := .builtin .append, args := #[s, x], argTypes := #[t, t] }) (hty : o.type = t) (v : Value) (l : List α) (hs : a.eval s = v) (hown : OR enc size base e w v l) (A : Option Addr) (m c : Nat) (l2 : List α) (hx : a.eval x = .slice A m c) (hm : m = l2.length) (hA : RS enc size w A l2) (hlen : l.length + m ≤ 100000) (hbase : base ≤ w.heap.size)
    (h : ∀ v' w', OR enc size base e w' v' (l ++ l2) → Below base w w' → wpList Try.prog ops Q rest (a.put o.dst v') w') :
    wpList Try.prog ops Q (o :: rest) a w := by
  by_cases hpos : 0 < m
  · obtain ⟨v', w', hr, h2, h3⟩ := run_append_rs hsz hone ht hi hzs h0 hby (w := w) base v l hown A m c l2 hm hpos hA (by omega) hbase
    exact Lib.wpList_append_run w hgd s x t t ho v _ hs hx _ w' (by rw [hty]; exact hr) (h v' w' h2 (Below.grown (Below.refl _ _) h3 hbase (fun k hk => (World.ownsRow.lt hown k hk).1)))
  · obtain rfl : m = 0 := by omega
    have e2 : l2 = [] := List.length_eq_zero_iff.1 hm.symm
    subst e2
    obtain ⟨i0, hi0, hz0, hz1, hz2⟩ := info_parts hi
    obtain ⟨A1, c1, hv, _⟩ := OR.rs hsz hown
    have hle := or_le (hv ▸ hown)
    refine Lib.wpList_append_run w hgd s x t t ho v _ hs hx v w (by
      rw [hty, hv]
      exact run_append_nothing w t t t e i0 ht hi0 A1 l.length c1 hle.2 _ (match A with
        | some ad => Src.ofSlice w ht ad 0 c [] (by simp) (fun j u hu => by simp at hu) (fun u hu => by simp at hu)
        | none => Src.ofNil w ht c)) (h v w (by rw [List.append_nil]; exact hown) (Below.refl _ _))
end
/-- A row of uint64s that the call made: n of them. -/
def NewU (w : World) (n : Nat) (L : List Int) (e : Ending) (w' : World) : Prop :=
  n = L.length ∧ ∃ A c, e = .returned (.slice A n c) ∧ UA w' A L ∧ n ≤ c ∧ c ≤ 9223372036854775807 ∧ Below w.heap.size w w' ∧ ∀ a, A = some a → w.heap.size ≤ a.block
theorem or_ua {base : Nat} {w : World} {v : Value} {l : List Int} (h : OR encU 1 base 30 w v l) : ∃ A c, v = .slice A l.length c ∧ l.length ≤ c ∧ c ≤ 9223372036854775807 ∧ UA w A l ∧ ∀ a, A = some a → base ≤ a.block := by
  have hlt := World.ownsRow.lt h
  obtain ⟨A, c, e, hr⟩ := OR.rs encU_len h
  refine ⟨A, c, e, (or_le (e ▸ h)).2, ?_, rs_ua hr, fun a ha => (hlt a.block (by rw [e, ha]; rfl)).1⟩
  rcases h.2 with ⟨e2, h0⟩ | ⟨g, cap, cur, e2, _, _, _, h4, _⟩
  · rw [e] at e2
    injection e2 with e3 e4 e5
    omega
  · rw [e] at e2
    injection e2 with e3 e4 e5
    unfold maxLen at h4
    omega
theorem ua_head {w : World} {A : Option Addr} {l : List Int} (h : UA w A l) (n : Nat) : UA w A (l.take n) := fun h0 => by
  have h1 : 0 < l.length := by simp at h0; omega
  obtain ⟨b, o, e, hb, hc⟩ := h h1
  refine ⟨b, o, e, hb, fun i hi => ?_⟩
  have h2 : i < n ∧ i < l.length := by simp at hi; omega
  rw [hc i h2.2]
  simp [List.getD, List.getElem?_take, h2.1]
theorem ua_tail {w : World} {A : Option Addr} {l : List Int} {n c : Nat} (h : UA w A l) (hn : l.length ≤ c) : UA w (if c = n then A else A.map (·.add n)) (l.drop n) := fun h0 => by
  have h1 : n < l.length := by simp at h0; omega
  obtain ⟨b, o, rfl, hb, hc⟩ := h (by omega)
  rw [if_neg (by omega)]
  refine ⟨b, o + n, by simp [Addr.add], hb, fun i hi => ?_⟩
  have h2 : n + i < l.length := by simp at hi; omega
  rw [show o + n + i = o + (n + i) by omega, hc _ h2]
  simp [List.getD]
set_option maxRecDepth 20000 in
/-- The tail of a slice, in one way. -/
theorem tail_ru (B : Option Addr) (left t d : Nat) (hl : left ≤ 1000000) : ∃ B2, B2 = (if d = left then B else B.map (·.add left)) ∧ ∀ W, (Instr.sliceAt 22 (.slice B (left + t) d) (some (.int .i64 (left : Int))) none none).run Try.prog W = .ok (.slice B2 t (d - left)) W := by
  refine ⟨_, rfl, fun W => ?_⟩
  have hsz : (sizeOf (Try.prog.elem 22)).run Try.prog W = .ok 1 W := by simp [go_sem]
  rw [run_sliceAt_slice (P := Try.prog) W 22 _ _ _ _ Try.underlying22, run_slice_l (P := Try.prog) W 22 B (left + t) d Try.underlying22 .i64 left (by omega) (by omega), hsz]
  simp [Result.andThen, sliced]
set_option maxRecDepth 20000 in
/-- The head of a slice. -/
theorem head_ru (B : Option Addr) (left t d : Nat) (h : left + t ≤ d) (W : World) : (Instr.sliceAt 22 (.slice B (left + t) d) none (some (.int .i64 (left : Int))) none).run Try.prog W = .ok (.slice B left d) W := by
  have hsz : (sizeOf (Try.prog.elem 22)).run Try.prog W = .ok 1 W := by simp [go_sem]
  rw [run_sliceAt_slice (P := Try.prog) W 22 _ _ _ _ Try.underlying22, run_slice_h (P := Try.prog) W 22 B (left + t) d Try.underlying22 .i64 left (by omega) (by omega), hsz]
  cases B <;> simp [Result.andThen, sliced, Addr.add]
set_option maxHeartbeats 1000000 in
theorem equal_words (A B : Option Addr) (c d m1 m2 : Nat) (xs ys : List Int) (w : World) (hm1 : m1 = xs.length) (hm2 : m2 = ys.length) (hA : UA w A xs) (hB : UA w B ys) (hxl : xs.length ≤ maxLen) (hyl : ys.length ≤ maxLen) :
    Calls Try.prog 42 #[.slice A m1 c, .slice B m2 d] w fun e w' => e = .returned (.bool (eqB xs ys)) ∧ ∃ n, w' = w.drewN n := by
  subst hm1 hm2
  unfold maxLen at hxl hyl
  by_cases hl : xs.length = ys.length
  · have H := Lib.hid hl
    clear hl
    go_enter Try.func42, Try.ntmps42
    have hl0 : (xs.length : Int) = (ys.length : Int) := by rw [H.out]
    go_wp2
    clear hl0
    go_loopw [13] (fun i wr => ∃ (k j : Nat), k ≤ ys.length ∧ i = .int .i64 k ∧ wr = w.drewN j ∧ Hid (∀ i, i < k → xs.getD i 0 = ys.getD i 0)) (fun i _ => ys.length - (intOf i).toNat)
    case atStart => exact ⟨0, 0, Nat.zero_le _, rfl, rfl, Lib.hid (fun i hi => absurd hi (by omega))⟩
    case round =>
      obtain ⟨k, j, hk, rfl, rfl, HV⟩ := hrel
      by_cases hlty : k < ys.length
      · have hlt : k < xs.length := by rw [H.out]; exact hlty
        obtain ⟨bA, oA, rfl, hbA, hcA⟩ := hA (by omega)
        obtain ⟨bB, oB, rfl, hbB, hcB⟩ := hB (by omega)
        have c1 := hcA k hlt
        have c2 := hcB k hlty
        by_cases t1 : xs.getD k 0 = ys.getD k 0
        · have HS : Hid (∀ i, i < k + 1 → xs.getD i 0 = ys.getD i 0) := Lib.hid (fun i hi => by
            by_cases hik : i = k
            · subst hik; exact t1
            · exact HV.out i (by omega))
          rw [← t1] at c2
          generalize xs.getD k 0 = x at c1 c2
          clear hcA hcB hA hB t1 HV
          go_wp2
          go_quiet (fail)
          go_wp2
          go_roundw
          case rel => exact ⟨k + 1, _, by omega, by go_num, rfl, HS⟩
          case measure => simp [intOf]; omega
        · have HE : Hid (eqB xs ys = false) := Lib.hid (decide_eq_false (fun h => t1 (by rw [h])))
          generalize xs.getD k 0 = x at c1 t1
          generalize ys.getD k 0 = y at c2 t1
          have t2 : (x != y) = true := by simpa using t1
          clear hcA hcB hA hB t1 HV
          go_wp2
          go_quiet (fail)
          go_wp2
          go_ret
          exact ⟨ret_bool HE.out.symm, _, World.drewN_drewN _ _ _⟩
      · have hk2 : k = xs.length := by rw [H.out]; omega
        subst hk2
        have HE : Hid (eqB xs ys = true) := Lib.hid (decide_eq_true (getD_ext' H.out HV.out))
        have hge : ys.length ≤ xs.length := by omega
        clear hlty hk
        go_wp2
        go_ret
        exact ⟨ret_bool HE.out.symm, _, rfl⟩
  · have e : eqB xs ys = false := decide_eq_false (fun h => hl (by rw [h]))
    rw [e]
    go_enter Try.func42, Try.ntmps42
    go_wp2
    go_ret
    exact ⟨rfl, 0, rfl⟩

set_option maxHeartbeats 1000000 in
theorem sets_any (A B : Option Addr) (c d m1 m2 : Nat) (xs ys : List Int) (w : World) (hm1 : m1 = xs.length) (hm2 : m2 = ys.length) (hA : UA w A xs) (hB : UA w B ys) (hxl : xs.length ≤ maxLen) (hyl : ys.length ≤ maxLen) :
    Calls Try.prog 39 #[.slice A m1 c, .slice B m2 d] w fun e w' => e = .returned (.bool (eqB xs ys)) ∧ ∃ n, w' = w.drewN n := by
  subst hm1 hm2
  unfold maxLen at hxl hyl
  by_cases hl : xs.length = ys.length
  · have H := Lib.hid hl
    clear hl
    go_enter Try.func39, Try.ntmps39
    have hl0 : (xs.length : Int) = (ys.length : Int) := by rw [H.out]
    go_wp2
    clear hl0
    go_loopw [5] (fun i wr => ∃ (k j : Nat), k ≤ ys.length ∧ i = .int .i64 k ∧ wr = w.drewN j ∧ Hid (∀ i, i < k → xs.getD i 0 = ys.getD i 0)) (fun i _ => ys.length - (intOf i).toNat)
    case atStart => exact ⟨0, 0, Nat.zero_le _, rfl, rfl, Lib.hid (fun i hi => absurd hi (by omega))⟩
    case round =>
      obtain ⟨k, j, hk, rfl, rfl, HV⟩ := hrel
      by_cases hlty : k < ys.length
      · have hlt : k < xs.length := by rw [H.out]; exact hlty
        obtain ⟨bA, oA, rfl, hbA, hcA⟩ := hA (by omega)
        obtain ⟨bB, oB, rfl, hbB, hcB⟩ := hB (by omega)
        have c1 := hcA k hlt
        have c2 := hcB k hlty
        by_cases t1 : xs.getD k 0 = ys.getD k 0
        · have HS : Hid (∀ i, i < k + 1 → xs.getD i 0 = ys.getD i 0) := Lib.hid (fun i hi => by
            by_cases hik : i = k
            · subst hik; exact t1
            · exact HV.out i (by omega))
          rw [← t1] at c2
          generalize xs.getD k 0 = x at c1 c2
          clear hcA hcB hA hB t1 HV
          go_wp2
          go_quiet (fail)
          go_wp2
          go_roundw
          case rel => exact ⟨k + 1, _, by omega, by go_num, rfl, HS⟩
          case measure => simp [intOf]; omega
        · have HE : Hid (eqB xs ys = false) := Lib.hid (decide_eq_false (fun h => t1 (by rw [h])))
          generalize xs.getD k 0 = x at c1 t1
          generalize ys.getD k 0 = y at c2 t1
          have t2 : (x != y) = true := by simpa using t1
          clear hcA hcB hA hB t1 HV
          go_wp2
          go_quiet (fail)
          go_wp2
          go_ret
          exact ⟨ret_bool HE.out.symm, _, World.drewN_drewN _ _ _⟩
      · have hk2 : k = xs.length := by rw [H.out]; omega
        subst hk2
        have HE : Hid (eqB xs ys = true) := Lib.hid (decide_eq_true (getD_ext' H.out HV.out))
        have hge : ys.length ≤ xs.length := by omega
        clear hlty hk
        go_wp2
        go_ret
        exact ⟨ret_bool HE.out.symm, _, rfl⟩
  · have e : eqB xs ys = false := decide_eq_false (fun h => hl (by rw [h]))
    rw [e]
    go_enter Try.func39, Try.ntmps39
    go_wp2
    go_ret
    exact ⟨rfl, 0, rfl⟩

theorem or_empty (w : World) (c : Nat) (cur : Array Value) (base : Nat) (hb : base ≤ w.heap.size) (hs : cur.size = c) (hc : c ≤ maxLen) : OR encU 1 base 30 (w.alloc (.cells cur 30)) (.slice (some ⟨w.heap.size, 0, none⟩) 0 c) [] :=
  ⟨rfl, .inr ⟨w.heap.size, c, cur, rfl, hb, World.alloc_heap_new w _, Nat.zero_le _, hc, by rw [hs, Nat.mul_one], rfl⟩⟩
theorem Try.eqlNil22 (w : World) (a : Option Addr) (l c : Nat) : (binOp .eql 22 (.slice a l c) (.slice none 0 0)).run Try.prog w = .ok (.bool a.isNone) w := Lib.run_eql_slice_nil w _ _ a l c 0 0 Try.underlying22
theorem ua_none {w : World} {l : List Int} (h : UA w none l) : l = [] := by
  rcases Nat.eq_zero_or_pos l.length with h0 | h0
  · exact List.eq_nil_of_length_eq_zero h0
  · obtain ⟨b, o, e, _⟩ := h h0
    cases e
set_option maxRecDepth 20000 in
theorem clone_any (A : Option Addr) (c m : Nat) (l : List Int) (w : World) (hm : m = l.length) (hI : UA w A l) (hl : m ≤ 10000) :
    Calls Try.prog 37 #[.slice A m c] w (NewU w m l) := by
  have q := @Try.eqlNil22
  cases A with
  | none =>
    obtain rfl := ua_none hI
    subst hm
    go_enter Try.func37, Try.ntmps37
    go_wp2
    go_ret
    exact ⟨rfl, none, 0, rfl, fun h => absurd h (by simp), Nat.le_refl _, by omega, Below.refl _ _, fun _ h => by cases h⟩
  | some ad =>
    have HI := Lib.hid hI
    have HM := Lib.hid hm
    have HO := Lib.hid (or_empty w 0 #[] w.heap.size (Nat.le_refl _) rfl (by decide))
    have HB := Lib.hid (below_one w (.cells #[] 30))
    clear hI hm
    go_enter Try.func37, Try.ntmps37
    go_wp2_with (first
      | (at_builtin; refine list_append_all encU_len encU_one Try.underlying22 infoU rfl (by decide) (by decide) w.heap.size rfl (.tmp 5) (.tmp 6) rfl rfl _ [] rfl HO.out (some ad) m c l rfl HM.out (ua_rs (HI.out.below HB.out)) (by show 0 + m ≤ 100000; omega) (by simp) ?_; intro v3 w3 ho3 hb3; have HO3 := Lib.hid ho3; have HB3 := Lib.hid hb3; clear ho3 hb3)
      | fail)
    go_ret
    obtain ⟨A3, c3, rfl, h1, h2, h3, h4⟩ := or_ua HO3.out
    rw [List.nil_append] at h1 h3 ⊢
    exact ⟨HM.out, A3, c3, by rw [HM.out]; rfl, h3, by rw [HM.out]; exact h1, h2, HB.out.trans (HB3.out.mono (Nat.le_refl _)), h4⟩
set_option maxRecDepth 20000 in
set_option maxHeartbeats 1000000 in
/-- slices.Grow of nothing by some. -/
theorem grow_any (n : Nat) (w : World) (h0 : 0 < n) (hn : n ≤ 10000) :
    Calls Try.prog 71 #[.slice none 0 0, .int .i64 n] w fun e w' => ∃ v, e = .returned v ∧ OR encU 1 w.heap.size 30 w' v [] ∧ Below w.heap.size w w' := by
  obtain ⟨i0, hi, hz0, hz1, hz2⟩ := info_parts infoU
  have hrz := fun ty => Lib.run_append_nil_zeros (P := Try.prog) w 22 3 ty 30 i0 (.int .u64 0) .i64 .i64 Try.underlying22 Try.underlying3 hi hz0 n h0 (by omega) (by omega) (by rw [hz2]; omega)
  obtain ⟨G, HG⟩ : ∃ G, Hid (grownCap w n 0 30 = G) := ⟨_, Lib.hid rfl⟩
  rw [HG.out] at hrz
  have hGn : n ≤ G := by rw [← HG.out]; exact grownCap_ge w _ _ _
  have hG63 : G ≤ 9223372036854775807 := by
    have := grownCap_le_maxLen w n 0 30 (by unfold maxLen; omega)
    rw [HG.out] at this
    unfold maxLen at this
    omega
  have HSZ : Hid ((Builtin.zeroCells (Value.cells (.int .u64 0)) n ++ Builtin.zeroCells (Value.cells (.int .u64 0)) (G - n)).size = G) := Lib.hid (by
    have e : ∀ k, (Builtin.zeroCells (Value.cells (.int .u64 0)) k).size = k := fun k => by
      simp [Builtin.zeroCells, Value.cells]
    rw [Array.size_append, e, e]
    omega)
  generalize Builtin.zeroCells (Value.cells (.int .u64 0)) n ++ Builtin.zeroCells (Value.cells (.int .u64 0)) (G - n) = Z at hrz HSZ
  have HO : Hid (OR encU 1 w.heap.size 30 (w.drew.alloc (.cells Z 30)) (.slice (some ⟨w.heap.size, 0, none⟩) 0 G) []) := Lib.hid (or_empty w.drew G Z w.heap.size (Nat.le_refl _) HSZ.out (by unfold maxLen; omega))
  have HB : Hid (Below w.heap.size w (w.drew.alloc (.cells Z 30))) := Lib.hid ((Below.refl _ _).drew.alloc (Nat.le_refl _) _)
  clear hi hz0 hz1 hz2
  go_enter Try.func71, Try.ntmps71
  go_wp2_with (first
    | (at_builtin; refine Lib.wpList_append_run _ rfl _ _ _ _ rfl _ _ rfl rfl _ _ (hrz _) ?_)
    | fail)
  go_ret
  exact ⟨_, rfl, HO.out, HB.out⟩
end Go.Proofs.Ytophajljjnjcdaa.wd
