/- Contracts that the claim stands on, several texts in one: LexDec, LexNum, LexTks, LtxPart2. -/
import Derived.RangeFuncRecord
import Derived.Lib.AtoiErrMem
import Derived.Lib.Join
import Derived.Test.YtgnflnfajkoibaaDoorPut1
import Derived.Test.YtgnflnfajkoibaaDoorPut2
import Derived.Test.YtgnflnfajkoibaaDoorPut3
import Derived.Test.YtgnflnfajkoibaaDoorPut4
import Derived.Test.YtgnflnfajkoibaaDoorPut5
import Derived.Test.YtgnflnfajkoibaaDoorPut6
import Derived.Test.YtgnflnfajkoibaaDoorPut7
import Derived.Test.YtgnflnfajkoibaaDoorPut8
import Derived.Test.YtgnflnfajkoibaaDoorPut9
import Derived.Test.YtgnflnfajkoibaaDoorPut10
import Derived.Test.YtgnflnfajkoibaaDoorPut11
import Derived.Test.YtgnflnfajkoibaaDoorPut12
import Derived.Test.YtgnflnfajkoibaaDoorPut13
import Derived.Test.YtgnflnfajkoibaaDoorPut14
namespace Go.Proofs.YtgnflnfajkoibaaDoor
open Go.ChangeShapes Go.WideShapes Go.ChangeAt Go.RowKit Go.Lib Go.Sort

/-- A decimal, as a text. -/
def dS (n : Int) : ByteArray := ⟨(itoa n).toArray⟩
def decZ (u : Nat) : List UInt8 := if u = 0 then [] else decDigits u
theorem decZ_step {u : Nat} (h : u ≠ 0) : decZ u = decZ (u / 10) ++ [UInt8.ofNat (48 + u % 10)] := by
  unfold decZ
  rw [if_neg h]
  by_cases h1 : u < 10
  · rw [if_pos (by omega), decDigits_one h1, show u % 10 = u by omega]; rfl
  · rw [if_neg (by omega), decDigits_big h1]
theorem wrap_id {x : Int} (h1 : -9223372036854775808 ≤ x) (h2 : x ≤ 9223372036854775807) : wrap64 x = x := by unfold wrap64; omega
theorem mod_dg {dg : Nat} (h : dg < 10) : (48 + (dg : Int)) % 256 = 48 + (dg : Int) := by omega
theorem abs_neg {a b : Nat} (h : a < b) : (-(a : Int)).natAbs < (-(b : Int)).natAbs := by omega
theorem abs_pos {a b : Nat} (h : a < b) : (a : Int).natAbs < (b : Int).natAbs := by omega
theorem tmod_pos {u dg : Nat} (h : u % 10 = dg) : (u : Int).tmod 10 = (dg : Int) := by rw [Int.tmod_eq_emod_of_nonneg (by omega)]; omega
theorem tdiv_pos {u d : Nat} (h : u / 10 = d) : (u : Int).tdiv 10 = (d : Int) := by rw [Int.tdiv_eq_ediv_of_nonneg (by omega)]; omega
theorem str_cons (c : UInt8) (l : List UInt8) : (⟨#[c]⟩ : ByteArray) ++ ⟨l.toArray⟩ = ⟨(c :: l).toArray⟩ := by
  apply ByteArray.ext
  simp [ByteArray.data_append]
theorem decZ_len {u : Nat} (h : u ≤ 9223372036854775808) : (decZ u).length ≤ 20 := by
  unfold decZ
  split
  · simp
  · rw [decDigits_length]; exact nDigits_le (k := 19) (Nat.lt_of_le_of_lt h (by decide))
/-- The table and the two variables that the library's calls read. -/
structure Tabs (w : World) : Prop where
  tab : TabIs Tryd.prog w "internal/strconv.uint64pow10" .u64 pow10Tab
  syn : ∃ te pe, w.cell? ⟨2, 0, none⟩ = some (.iface te pe)
  rng : ∃ te pe, w.cell? ⟨3, 0, none⟩ = some (.iface te pe)
theorem tabIs_below {w w' : World} {name : String} {k : IntKind} {zs : List Int} (h : TabIs Tryd.prog w name k zs) (hb : Below w.heap.size w w') : TabIs Tryd.prog w' name k zs := by
  unfold TabIs World.var? at *
  cases hg : Tryd.prog.globalNamed name with
  | none => rw [hg] at h; cases h
  | some g =>
    rw [hg] at h
    simp only [Option.bind_some] at h ⊢
    have hlt : g < w.heap.size := by
      rcases Nat.lt_or_ge g w.heap.size with h1 | h1
      · exact h1
      · rw [Array.getElem?_eq_none h1] at h; cases h
    rw [hb.block g hlt]
    exact h
theorem Tabs.below {w w' : World} (h : Tabs w) (hb : Below w.heap.size w w') : Tabs w' := by
  obtain ⟨t1, p1, h1⟩ := h.syn
  obtain ⟨t2, p2, h2⟩ := h.rng
  exact ⟨tabIs_below h.tab hb, ⟨t1, p1, (hb.cell (p := ⟨2, 0, none⟩) (World.block_lt_of_cell? _ _ h1)).trans h1⟩, ⟨t2, p2, (hb.cell (p := ⟨3, 0, none⟩) (World.block_lt_of_cell? _ _ h2)).trans h2⟩⟩
theorem below_grow (w : World) (k : Nat) (os : Array Obj) : Below w.heap.size w (grow (w.drewN k) os) :=
  ⟨rfl, rfl, rfl, by show w.heap.size ≤ (w.heap ++ os).size; simp, fun q hq => by show (w.heap ++ os)[q]? = w.heap[q]?; rw [Array.getElem?_append_left hq]⟩
theorem decimal_any (n : Int) (w : World) (h0 : -9223372036854775808 ≤ n) (h1 : n ≤ 9223372036854775807) (ht : Tabs w) :
    Calls Tryd.prog 69 #[.int .i64 n] w fun e w' => e = .returned (.string (dS n)) ∧ Below w.heap.size w w' := by
  have HT := Lib.hid ht
  clear ht
  go_enter Tryd.func69, Tryd.ntmps69
  go_wp2_with fail
  refine (Tryd.strconv_Itoa n h0 h1 _ HT.out.tab).mono ?_
  rintro e w' ⟨rfl, k, os, rfl⟩
  go_wp2
  go_ret
  exact ⟨rfl, below_grow _ _ _⟩
theorem fits_yes (n lo hi : Int) (w : World) (h1 : lo ≤ n) (h2 : n ≤ hi) : Calls Tryd.prog 41 #[.int .i64 n, .int .i64 lo, .int .i64 hi] w fun e w' => e = .returned (.bool true) ∧ w = w' := by
  have h := lx.fits_any n lo hi w
  rw [show lx.fitB n lo hi = true from decide_eq_true ⟨h1, h2⟩] at h
  exact h
theorem fits_no (n lo hi : Int) (w : World) (h1 : n < lo ∨ hi < n) : Calls Tryd.prog 41 #[.int .i64 n, .int .i64 lo, .int .i64 hi] w fun e w' => e = .returned (.bool false) ∧ w = w' := by
  have h := lx.fits_any n lo hi w
  rw [show lx.fitB n lo hi = false from decide_eq_false (by omega)] at h
  exact h
theorem within_one (n : Int) (w : World) (b : Nat) (hc : w.cell? ⟨b, 0, none⟩ = some (.int .i64 n)) :
    Calls Tryd.prog 68 #[.slice (some ⟨b, 0, none⟩) 1 1] w fun e w' => e = .returned (.bool (decide (-1048576 ≤ n ∧ n ≤ 1048576))) ∧ w = w' := by
  by_cases hn : -1048576 ≤ n ∧ n ≤ 1048576
  · rw [decide_eq_true hn]
    go_enter Tryd.func68, Tryd.ntmps68
    go_wp2_with fail
    go_loop [7] (fun i => ∃ k : Nat, k ≤ 1 ∧ i = .int .i64 k) (fun i => 1 - (RowKit.intOf i).toNat)
    case atStart => exact ⟨0, by omega, rfl⟩
    case round =>
      obtain ⟨k, hk, rfl⟩ := hrel
      by_cases h0 : k = 0
      · subst h0
        go_wp2_with fail
        refine (fits_yes n (-1048576) 1048576 _ hn.1 hn.2).mono ?_
        rintro e w' ⟨rfl, rfl⟩
        go_wp2
        go_round
        case rel => exact ⟨1, by omega, rfl⟩
        case measure => simp [RowKit.intOf]
      · obtain rfl : k = 1 := by omega
        go_wp2
        go_ret
        exact ⟨rfl, rfl⟩
  · rw [decide_eq_false hn]
    go_enter Tryd.func68, Tryd.ntmps68
    go_wp2_with fail
    go_loop [7] (fun i => i = .int .i64 0) (fun i => 1)
    case atStart => rfl
    case round =>
      subst hrel
      go_wp2_with fail
      refine (fits_no n (-1048576) 1048576 _ (by omega)).mono ?_
      rintro e w' ⟨rfl, rfl⟩
      go_wp2
      go_ret
      exact ⟨rfl, rfl⟩
/-- The number that a text is. -/
def numD (l : List UInt8) : Int × Bool := if (docFold l).2 ≤ 7 ∧ (-1048576 ≤ docNum l ∧ docNum l ≤ 1048576) ∧ itoa (docNum l) = l then (docNum l, true) else (0, false)
theorem numD_some {l : List UInt8} {v : Int} (h0 : -1048576 ≤ v) (h1 : v ≤ 1048576) (h : itoa v = l) : numD l = (v, true) := by
  obtain ⟨a, b⟩ := doc_itoa h0 h1
  rw [h] at a b
  unfold numD
  rw [a, if_pos ⟨b, ⟨h0, h1⟩, h⟩]
theorem numD_none {l : List UInt8} (h : ∀ v, -1048576 ≤ v → v ≤ 1048576 → itoa v ≠ l) : numD l = (0, false) := by
  unfold numD
  rw [if_neg (fun h2 => h _ h2.2.1.1 h2.2.1.2 h2.2.2)]
theorem itoa_len8 {v : Int} (h0 : -1048576 ≤ v) (h1 : v ≤ 1048576) : (itoa v).length ≤ 8 := by
  unfold itoa
  split
  · have := nDigits_le (k := 6) (u := v.natAbs) (by omega)
    rw [List.length_cons, decDigits_length]; omega
  · have := nDigits_le (k := 6) (u := v.toNat) (by omega)
    rw [decDigits_length]; omega
theorem dS_iff {v : Int} {s : ByteArray} : s = dS v ↔ itoa v = s.data.toList := by
  unfold dS
  constructor
  · rintro rfl; simp
  · intro h
    apply ByteArray.ext
    show s.data = (itoa v).toArray
    rw [h]
end Go.Proofs.YtgnflnfajkoibaaDoor
namespace Go.Proofs.YtgnflnfajkoibaaDoor
open Go.ChangeShapes Go.WideShapes Go.ChangeAt Go.RowKit Go.Lib Go.Sort

theorem dS_ne {v : Int} {s : ByteArray} (h : dS v ≠ s) (h0 : -1048576 ≤ v) (h1 : v ≤ 1048576) (ha : Lib.atoiAll s.data.toList = .ok v) : numD s.data.toList = (0, false) :=
  numD_none (fun v2 g0 g1 e => by
    have := atoi_itoa (n := v2) (by omega) (by omega)
    rw [e, ha] at this
    obtain rfl : v = v2 := by injection this
    exact h (dS_iff.2 e).symm)
theorem numD_out {v : Int} {l : List UInt8} (ha : Lib.atoiAll l = .ok v) (hn : ¬ (-1048576 ≤ v ∧ v ≤ 1048576)) : numD l = (0, false) :=
  numD_none (fun v2 g0 g1 e => by
    have := atoi_itoa (n := v2) (by omega) (by omega)
    rw [e, ha] at this
    obtain rfl : v = v2 := by injection this
    exact hn ⟨g0, g1⟩)
theorem numD_bad {l : List UInt8} (ha : ∀ v, Lib.atoiAll l ≠ .ok v) : numD l = (0, false) :=
  numD_none (fun v2 g0 g1 e => by
    have := atoi_itoa (n := v2) (by omega) (by omega)
    rw [e] at this
    exact ha _ this)
theorem numD_long {l : List UInt8} (h : 8 < l.length) : numD l = (0, false) :=
  numD_none (fun v2 g0 g1 e => by
    have := itoa_len8 g0 g1
    rw [e] at this; omega)
theorem str_ne {a b : ByteArray} (h : a ≠ b) : (a.toList == b.toList) = false := by
  cases e : (a.toList == b.toList)
  · rfl
  · exfalso; apply h
    have h2 := beq_iff_eq.1 e
    rw [ByteArray.toList_eq, ByteArray.toList_eq] at h2
    exact bytes_inj h2
theorem below_conv {w w' : World} (h : w' = w ∨ ∃ t, w' = Lib.bytesWorld w 5 t) : Below w.heap.size w w' := by
  rcases h with rfl | ⟨t, rfl⟩
  · exact Below.refl _ _
  · exact Lib.bytesWorld_below _ _ _
set_option maxRecDepth 20000 in
set_option maxHeartbeats 2000000 in
theorem number_any (s : ByteArray) (w : World) (hs : s.size ≤ 20000) (ht : Tabs w) :
    Calls Tryd.prog 53 #[.string s] w fun e w' => e = .returned (.tuple #[.int .i64 (numD s.data.toList).1, .bool (numD s.data.toList).2]) ∧ Below w.heap.size w w' := by
  have HS := Lib.hid hs
  have HT := Lib.hid ht
  clear hs ht
  go_enter Tryd.func53, Tryd.ntmps53
  by_cases hb : 8 < s.size
  · have hR := Lib.hid (numD_long (l := s.data.toList) (by rw [Array.length_toList]; exact hb))
    have e : ¬ (s.size : Int) ≤ 8 := by omega
    clear hb
    go_wp2
    go_ret2
    rw [hR.out]
    exact ⟨rfl, Below.refl _ _⟩
  · have e : ¬ (8 : Int) < (s.size : Int) := by omega
    go_wp2_with fail
    rcases hA : Lib.atoiAll s.data.toList with v | _ | _
    · refine (Tryd.strconv_Atoi_ok s (by have := HS.out; omega) v hA _).mono ?_
      rintro e1 w1 ⟨rfl, hw1⟩
      have HA := Lib.hid hA
      have H1 : Hid (Below w.heap.size w w1) := Lib.hid (below_conv hw1)
      have HT1 : Hid (Tabs w1) := Lib.hid (HT.out.below H1.out)
      clear hA hw1
      by_cases hn : -1048576 ≤ v ∧ v ≤ 1048576
      · have HN := Lib.hid hn
        by_cases hd : dS v = s
        · have hR : Hid (numD s.data.toList = (v, true)) := Lib.hid (numD_some hn.1 hn.2 (dS_iff.1 hd.symm))
          have HD := Lib.hid hd
          clear hn hd
          go_wp2_with fail
          refine (within_one v _ w1.heap.size (by show (match (w1.alloc (Obj.cells #[Value.int IntKind.i64 v] 3)).heap[w1.heap.size]? with | some (Obj.cells c elem frozen) => c[0]? | x => none) = _; rw [World.alloc_heap_new]; rfl)).mono ?_
          rw [decide_eq_true HN.out]
          rintro e2 w2 ⟨rfl, rfl⟩
          have H2 : Hid (Below w.heap.size w (w1.alloc (Obj.cells #[Value.int IntKind.i64 v] 3))) := Lib.hid (H1.out.alloc H1.out.size _)
          have HT2 : Hid (Tabs (w1.alloc (Obj.cells #[Value.int IntKind.i64 v] 3))) := Lib.hid (HT.out.below H2.out)
          generalize (w1.alloc (Obj.cells #[Value.int IntKind.i64 v] 3)) = w2 at H2 HT2 ⊢
          go_wp2_with fail
          refine (decimal_any v _ (by have := HN.out; omega) (by have := HN.out; omega) HT2.out).mono ?_
          rintro e3 w3 ⟨rfl, hw3⟩
          have H3 : Hid (Below w.heap.size w w3) := Lib.hid (H2.out.trans (hw3.mono H2.out.size))
          rw [HD.out]
          clear hw3
          go_wp2
          go_ret2
          rw [hR.out]
          exact ⟨rfl, H3.out⟩
        · have hR : Hid (numD s.data.toList = (0, false)) := Lib.hid (dS_ne hd hn.1 hn.2 HA.out)
          clear hn
          go_wp2_with fail
          refine (within_one v _ w1.heap.size (by show (match (w1.alloc (Obj.cells #[Value.int IntKind.i64 v] 3)).heap[w1.heap.size]? with | some (Obj.cells c elem frozen) => c[0]? | x => none) = _; rw [World.alloc_heap_new]; rfl)).mono ?_
          rw [decide_eq_true HN.out]
          rintro e2 w2 ⟨rfl, rfl⟩
          have H2 : Hid (Below w.heap.size w (w1.alloc (Obj.cells #[Value.int IntKind.i64 v] 3))) := Lib.hid (H1.out.alloc H1.out.size _)
          have HT2 : Hid (Tabs (w1.alloc (Obj.cells #[Value.int IntKind.i64 v] 3))) := Lib.hid (HT.out.below H2.out)
          generalize (w1.alloc (Obj.cells #[Value.int IntKind.i64 v] 3)) = w2 at H2 HT2 ⊢
          go_wp2_with fail
          refine (decimal_any v _ (by have := HN.out; omega) (by have := HN.out; omega) HT2.out).mono ?_
          rintro e3 w3 ⟨rfl, hw3⟩
          have H3 : Hid (Below w.heap.size w w3) := Lib.hid (H2.out.trans (hw3.mono H2.out.size))
          have hq := str_ne hd
          clear hw3 hd
          generalize dS v = q at hq ⊢
          go_wp2
          go_ret2
          rw [hR.out]
          exact ⟨rfl, H3.out⟩
      · have hR : Hid (numD s.data.toList = (0, false)) := Lib.hid (numD_out HA.out hn)
        have HN := Lib.hid hn
        clear hn
        go_wp2_with fail
        refine (within_one v _ w1.heap.size (by show (match (w1.alloc (Obj.cells #[Value.int IntKind.i64 v] 3)).heap[w1.heap.size]? with | some (Obj.cells c elem frozen) => c[0]? | x => none) = _; rw [World.alloc_heap_new]; rfl)).mono ?_
        rw [decide_eq_false HN.out]
        rintro e2 w2 ⟨rfl, rfl⟩
        have H2 : Hid (Below w.heap.size w (w1.alloc (Obj.cells #[Value.int IntKind.i64 v] 3))) := Lib.hid (H1.out.alloc H1.out.size _)
        generalize (w1.alloc (Obj.cells #[Value.int IntKind.i64 v] 3)) = w2 at H2 ⊢
        go_wp2
        go_ret2
        rw [hR.out]
        exact ⟨rfl, H2.out⟩
    · obtain ⟨te, pe, hc⟩ := HT.out.syn
      refine (Tryd.strconv_Atoi_fault s (by have := HS.out; omega) (fun v h => by rw [hA] at h; cases h) (by rw [hA]; exact fun h => by cases h) _ _ hc (.inr ⟨te, pe, rfl⟩)).mono ?_
      rintro e1 w1 ⟨N, rfl, _, _, hw1⟩
      have hR := Lib.hid (numD_bad (l := s.data.toList) (fun v => by rw [hA]; exact fun h => by cases h))
      have HA := Lib.hid hA
      have H1 : Hid (Below w.heap.size w w1) := Lib.hid hw1
      clear hA hw1
      go_wp2
      go_ret2
      rw [hR.out]
      exact ⟨rfl, H1.out⟩
    · obtain ⟨te, pe, hc⟩ := HT.out.rng
      refine (Tryd.strconv_Atoi_range s (by have := HS.out; omega) hA _ _ hc (.inr ⟨te, pe, rfl⟩)).mono ?_
      rintro e1 w1 ⟨N, rfl, _, _, hw1⟩
      have hR := Lib.hid (numD_bad (l := s.data.toList) (fun v => by rw [hA]; exact fun h => by cases h))
      have HA := Lib.hid hA
      have H1 : Hid (Below w.heap.size w w1) := Lib.hid hw1
      clear hA hw1
      go_wp2
      go_ret2
      rw [hR.out]
      exact ⟨rfl, H1.out⟩
end Go.Proofs.YtgnflnfajkoibaaDoor
namespace Go.Proofs.YtgnflnfajkoibaaDoor.lx
open Go.ChangeShapes Go.WideShapes Go.ChangeAt Go.RowKit Go.Deep

/-- From a place on these tokens come, and nothing is wrong. -/
inductive Tks (nm : List UInt8 → Int × Bool) (s : ByteArray) : Nat → List Tok → Prop
  | done {a : Nat} (h : s.size ≤ a) : Tks nm s a []
  | blank {a : Nat} {L : List Tok} (h : a < s.size) (hb : blankB (bt s a) = true) (hh : Tks nm s (a + 1) L) : Tks nm s a L
  | remark {a : Nat} {L : List Tok} (h : a < s.size) (hb : bt s a = 35) (hh : Tks nm s (lineE s a) L) : Tks nm s a L
  | token {a : Nat} {L : List Tok} {k : Nat} {n : Int} {m : Nat} (h : a < s.size) (hb : blankB (bt s a) = false) (hr : bt s a ≠ 35) (hf : firstP nm (tailS s a) = .ok (k, n, m)) (hh : Tks nm s (a + m) L) : Tks nm s a (⟨k, n, a, s.extract a (a + m)⟩ :: L)
theorem first_wrong {nm : List UInt8 → Int × Bool} {s : ByteArray} {why : Nat} (h : firstP nm s = .error why) : why ≠ 0 := by
  unfold firstP at h
  repeat' split at h
  all_goals first
    | (injection h with h; omega)
    | cases h
theorem Sc.tks {nm : List UInt8 → Int × Bool} {s : ByteArray} {a : Nat} {l : List Tok} {r : Res} (h : Sc nm s a l r) : r.2.2 = 0 → ∃ T, r = (l ++ T, 0, 0) ∧ Tks nm s a T ∧ (l.length ≤ 6000 → l.length + T.length ≤ 6000) := by
  induction h with
  | done h1 => intro _; exact ⟨[], by simp, .done h1, fun h => by simpa using h⟩
  | blank h1 hb _ ih => intro h0; obtain ⟨T, e, t, z⟩ := ih h0; exact ⟨T, e, .blank h1 hb t, z⟩
  | remark h1 hb _ ih => intro h0; obtain ⟨T, e, t, z⟩ := ih h0; exact ⟨T, e, .remark h1 hb t, z⟩
  | many => intro h0; cases h0
  | wrong _ _ _ _ hf => intro h0; exact absurd h0 (first_wrong hf)
  | @token a l k n m r h1 hb hr hl hf hh ih =>
    intro h0
    obtain ⟨T, e, t, z⟩ := ih h0
    refine ⟨⟨k, n, a, s.extract a (a + m)⟩ :: T, ?_, .token h1 hb hr hf t, fun h => ?_⟩
    · rw [e]; simp
    · have h5 : (l ++ [(⟨k, n, a, s.extract a (a + m)⟩ : Tok)]).length = l.length + 1 := by simp
      have h6 := z (by rw [h5]; omega)
      rw [h5] at h6
      rw [List.length_cons]
      omega
theorem Sc.err {nm : List UInt8 → Int × Bool} {s : ByteArray} {a : Nat} {l : List Tok} {r : Res} (h : Sc nm s a l r) : r.2.2 ≠ 0 → r.1 = [] := by
  induction h with
  | done => intro h; exact absurd rfl h
  | blank _ _ _ ih => exact ih
  | remark _ _ _ ih => exact ih
  | many => intro _; rfl
  | wrong => intro _; rfl
  | token _ _ _ _ _ _ ih => exact ih
theorem Tks.sc {nm : List UInt8 → Int × Bool} {s : ByteArray} {a : Nat} {T : List Tok} (h : Tks nm s a T) : ∀ l : List Tok, l.length + T.length ≤ 6000 → Sc nm s a l (l ++ T, 0, 0) := by
  induction h with
  | done h1 => intro l _; rw [List.append_nil]; exact .done h1
  | blank h1 hb _ ih => intro l h; exact .blank h1 hb (ih l h)
  | remark h1 hb _ ih => intro l h; exact .remark h1 hb (ih l h)
  | @token a L k n m h1 hb hr hf hh ih =>
    intro l h
    refine .token h1 hb hr (by simp at h; omega) hf ?_
    have := ih (l ++ [⟨k, n, a, s.extract a (a + m)⟩]) (by simp at h ⊢; omega)
    rw [List.append_assoc] at this
    exact this
theorem wordN_spec (s : ByteArray) : wordN s ≤ s.size ∧ (∀ i, i < wordN s → okB i (bt s i) = true) ∧ (wordN s < s.size → okB (wordN s) (bt s (wordN s)) = false) := by
  obtain ⟨_, h2, h3, h4⟩ := low_spec okB_high' s s.size 0 (by omega) (by omega)
  exact ⟨h2, fun i h => h3 i (Nat.zero_le _) h, h4⟩
theorem digN_spec (s : ByteArray) : digN s ≤ s.size ∧ (∀ i, i < digN s → digB (bt s i) = true) ∧ (digN s < s.size → digB (bt s (digN s)) = false) := by
  obtain ⟨_, h2, h3, h4⟩ := low_spec dgB_high s s.size 0 (by omega) (by omega)
  exact ⟨h2, fun i h => h3 i (Nat.zero_le _) h, h4⟩
theorem wordN_of {s : ByteArray} {e : Nat} (h1 : e ≤ s.size) (h2 : ∀ i, i < e → okB i (bt s i) = true) (h3 : e < s.size → okB e (bt s e) = false) : wordN s = e := by
  obtain ⟨a, b, c⟩ := wordN_spec s
  exact first_one (q := fun i => okB i (bt s i) = true) (n := s.size) (pos := 0) ⟨Nat.zero_le _, a, fun i _ => b i, fun h => by rw [c h]; decide⟩ ⟨Nat.zero_le _, h1, fun i _ => h2 i, fun h => by rw [h3 h]; decide⟩
theorem digN_of {s : ByteArray} {e : Nat} (h1 : e ≤ s.size) (h2 : ∀ i, i < e → digB (bt s i) = true) (h3 : e < s.size → digB (bt s e) = false) : digN s = e := by
  obtain ⟨a, b, c⟩ := digN_spec s
  exact first_one (q := fun i => digB (bt s i) = true) (n := s.size) (pos := 0) ⟨Nat.zero_le _, a, fun i _ => b i, fun h => by rw [c h]; decide⟩ ⟨Nat.zero_le _, h1, fun i _ => h2 i, fun h => by rw [h3 h]; decide⟩
theorem ext_bt {x y : ByteArray} (h : x.size = y.size) (hb : ∀ i, i < x.size → bt x i = bt y i) : x = y := by
  apply ByteArray.ext
  apply Array.ext
  · exact h
  · intro i h1 h2
    have h3 : i < x.size := h1
    have h4 : i < y.size := h2
    have e := hb i h3
    rw [bt_eq h3, bt_eq h4] at e
    exact UInt8.toNat_inj.1 e
theorem bt_extract {s : ByteArray} {a b i : Nat} (h : a + i < b) (hb : b ≤ s.size) : bt (s.extract a b) i = bt s (a + i) := by
  have h1 : i < (s.extract a b).size := by rw [ByteArray.size_extract]; omega
  rw [bt_eq h1, bt_eq (show a + i < s.size by omega)]
  simp [ByteArray.getElem_extract]
theorem okB_32 (i : Nat) : okB i 32 = false := by unfold okB; rw [show letB (32 : Nat) = false by decide, show digB (32 : Nat) = false by decide]; simp
theorem twoB_32 (a : Nat) : twoB a 32 = false := by unfold twoB; simp
/-- Whatever begins with the token's bytes, and has a blank behind them, or nothing, begins with that token. -/
def GoodT (nm : List UInt8 → Int × Bool) (t : Tok) : Prop :=
  0 < t.text.size ∧ ∀ u : ByteArray, t.text.size ≤ u.size → (∀ i, i < t.text.size → bt u i = bt t.text i) → (t.text.size < u.size → bt u t.text.size = 32) → firstP nm u = .ok (t.kind, t.num, t.text.size)
theorem first_le {nm : List UInt8 → Int × Bool} {s : ByteArray} {k m : Nat} {n : Int} (hf : firstP nm s = .ok (k, n, m)) : 0 < m ∧ m ≤ s.size := by
  have h0 : 0 < s.size := by
    rcases Nat.eq_zero_or_pos s.size with h | h
    · exfalso
      have a := (wordN_spec s).1
      have b := (digN_spec s).1
      unfold firstP at hf
      rw [if_neg (by omega), if_neg (by omega), if_neg (by omega), if_neg (by unfold signN; rw [if_neg (by omega), if_neg (by omega)]; omega)] at hf
      cases hf
    · exact h
  have := first_ok (s := s) (a := 0) h0 (by rw [show tailS s 0 = s by unfold tailS; exact ByteArray.extract_zero_size]; exact hf)
  omega
theorem good_first {nm : List UInt8 → Int × Bool} {s : ByteArray} {p k m : Nat} {n : Int} (hf : firstP nm s = .ok (k, n, m)) : GoodT nm ⟨k, n, p, s.extract 0 m⟩ := by
  obtain ⟨hm0, hm1⟩ := first_le hf
  have hz : (s.extract 0 m).size = m := by rw [ByteArray.size_extract]; omega
  refine ⟨by show 0 < (s.extract 0 m).size; omega, fun u hu hb he => ?_⟩
  have hu2 : m ≤ u.size := by rw [← hz]; exact hu
  have hb2 : ∀ i, i < m → bt u i = bt s i := fun i hi => by
    have := hb i (by show i < (s.extract 0 m).size; omega)
    rw [this]
    show bt (s.extract 0 m) i = bt s i
    rw [bt_extract (by omega) hm1, Nat.zero_add]
  have he2 : m < u.size → bt u m = 32 := fun h => by
    have := he (by show (s.extract 0 m).size < _; omega)
    rw [show (⟨k, n, p, s.extract 0 m⟩ : Tok).text.size = m from hz] at this
    exact this
  clear hu hb he
  show firstP nm u = .ok (k, n, (s.extract 0 m).size)
  rw [hz]
  have hxx : u.extract 0 m = s.extract 0 m := ext_bt (by rw [hz, ByteArray.size_extract]; omega) (fun i hi => by
    rw [ByteArray.size_extract] at hi
    rw [bt_extract (by omega) hu2, bt_extract (by omega) hm1, Nat.zero_add]
    exact hb2 i (by omega))
  obtain ⟨w1, w2, w3⟩ := wordN_spec s
  obtain ⟨d1, d2, d3⟩ := digN_spec s
  unfold firstP at hf
  by_cases h16 : 16 < wordN s
  · rw [if_pos h16] at hf; cases hf
  · rw [if_neg h16] at hf
    by_cases h0 : 0 < wordN s
    · rw [if_pos h0] at hf
      injection hf with hf
      injection hf with e1 hf
      injection hf with e2 e3
      subst e1 e2
      have hw : wordN u = m := wordN_of hu2 (fun i hi => by rw [hb2 i hi]; exact w2 i (by omega)) (fun h => by rw [he2 h]; exact okB_32 m)
      unfold firstP
      rw [if_neg (by omega), if_pos (by omega), hw]
    · rw [if_neg h0] at hf
      have hw : wordN u = 0 := wordN_of (Nat.zero_le _) (fun i hi => by omega) (fun h => by
        rw [hb2 0 hm0]
        have h00 : wordN s = 0 := by omega
        rw [h00] at w3
        exact w3 (by omega))
      by_cases hd : 0 < digN s
      · rw [if_pos hd] at hf
        by_cases hn : (nm (s.extract 0 (digN s)).data.toList).2 = true
        · rw [if_pos hn] at hf
          injection hf with hf
          injection hf with e1 hf
          injection hf with e2 e3
          rw [e3] at d2 hn e2
          have hdd : digN u = m := digN_of hu2 (fun i hi => by rw [hb2 i hi]; exact d2 i hi) (fun h => by rw [he2 h]; decide)
          unfold firstP
          rw [if_neg (by omega), if_neg (by omega), if_pos (by omega), hdd, hxx, if_pos hn, e2, e1]
        · rw [if_neg hn] at hf; cases hf
      · rw [if_neg hd] at hf
        have hdd : digN u = 0 := digN_of (Nat.zero_le _) (fun i hi => by omega) (fun h => by
          rw [hb2 0 hm0]
          have h00 : digN s = 0 := by omega
          rw [h00] at d3
          exact d3 (by omega))
        by_cases hs : 0 < signN s
        · rw [if_pos hs] at hf
          injection hf with hf
          injection hf with e1 hf
          injection hf with e2 e3
          have hss : signN u = m := by
            unfold signN at e3 hs ⊢
            by_cases c2 : 1 < s.size ∧ twoB (bt s 0) (bt s 1) = true
            · rw [if_pos c2] at e3
              rw [if_pos ⟨by omega, by rw [hb2 0 (by omega), hb2 1 (by omega)]; exact c2.2⟩, e3]
            · rw [if_neg c2] at e3 hs
              by_cases c1 : 0 < s.size ∧ oneB (bt s 0) = true
              · rw [if_pos c1] at e3
                rw [if_neg (fun c => by
                  have h1 := he2 (by omega)
                  rw [← e3] at h1
                  have h2 := c.2
                  rw [h1, twoB_32] at h2
                  cases h2), if_pos ⟨by omega, by rw [hb2 0 (by omega)]; exact c1.2⟩, e3]
              · rw [if_neg c1] at hs; omega
          unfold firstP
          rw [if_neg (by omega), if_neg (by omega), if_neg (by omega), if_pos (by omega), hss, e1, e2]
        · rw [if_neg hs] at hf; cases hf
theorem extract_tail {s : ByteArray} {a m : Nat} : (tailS s a).extract 0 m = s.extract a (min (a + m) s.size) := by
  unfold tailS
  rw [ByteArray.extract_extract]
  congr 1
theorem extract_tail_in {s : ByteArray} {a m : Nat} (h : a + m ≤ s.size) : (tailS s a).extract 0 m = s.extract a (a + m) := by
  rw [extract_tail, Nat.min_eq_left h]
theorem Tks.good {nm : List UInt8 → Int × Bool} {s : ByteArray} {a : Nat} {T : List Tok} (h : Tks nm s a T) : ∀ t ∈ T, GoodT nm t := by
  induction h with
  | done => intro t h; cases h
  | blank _ _ _ ih => exact ih
  | remark _ _ _ ih => exact ih
  | @token a L k n m h1 hb hr hf hh ih =>
    intro t ht
    rcases List.mem_cons.1 ht with rfl | ht
    · have h2 := (first_ok h1 hf).2.1
      have := good_first (p := a) hf
      rw [extract_tail_in h2] at this
      exact this
    · exact ih t ht
theorem first_not_blank {nm : List UInt8 → Int × Bool} {s : ByteArray} {k m : Nat} {n : Int} (hf : firstP nm s = .ok (k, n, m)) : blankB (bt s 0) = false ∧ bt s 0 ≠ 35 := by
  obtain ⟨hm0, hm1⟩ := first_le hf
  have key : ∀ b : Nat, letB b = false → digB b = false → oneB b = false → (∀ c, twoB b c = false) → bt s 0 ≠ b := by
    intro b q1 q2 q3 q4 e
    have hw : wordN s = 0 := wordN_of (Nat.zero_le _) (fun i hi => by omega) (fun _ => by rw [e, ok_first]; exact q1)
    have hd : digN s = 0 := digN_of (Nat.zero_le _) (fun i hi => by omega) (fun _ => by rw [e]; exact q2)
    have hs : signN s = 0 := by
      unfold signN
      rw [e, q3, if_neg (fun c => by have := c.2; rw [q4] at this; cases this), if_neg (fun c => by cases c.2)]
    unfold firstP at hf
    rw [if_neg (by omega), if_neg (by omega), if_neg (by omega), if_neg (by omega)] at hf
    cases hf
  have k1 := key 32 (by decide) (by decide) (by decide) (fun c => by unfold twoB; simp)
  have k2 := key 10 (by decide) (by decide) (by decide) (fun c => by unfold twoB; simp)
  have k3 := key 35 (by decide) (by decide) (by decide) (fun c => by unfold twoB; simp)
  refine ⟨?_, k3⟩
  unfold blankB
  simp [k1, k2]
/-- The same tokens, but for their places. -/
inductive SameT : List Tok → List Tok → Prop
  | nil : SameT [] []
  | cons {x y : Tok} {l r : List Tok} (h1 : x.kind = y.kind) (h2 : x.num = y.num) (h3 : x.text = y.text) (h : SameT l r) : SameT (x :: l) (y :: r)
theorem SameT.len {l r : List Tok} (h : SameT l r) : l.length = r.length := by
  induction h with
  | nil => rfl
  | cons _ _ _ _ ih => simp [ih]
/-- The tokens' texts, a blank between each two. -/
def textL (T : List Tok) : List UInt8 := Lib.join (T.map fun t => t.text.data.toList) [32]
theorem textL_nil : textL [] = [] := rfl
theorem textL_one (t : Tok) : textL [t] = t.text.data.toList := Lib.join_one _ _
theorem textL_cons (t x : Tok) (r : List Tok) : textL (t :: x :: r) = t.text.data.toList ++ 32 :: textL (x :: r) := by
  unfold textL
  rw [List.map_cons, List.map_cons, Lib.join_cons, Lib.join_cons]
  simp [Lib.joinTail]
theorem tail_tail {u : ByteArray} {a m : Nat} (h : a + m ≤ u.size) : tailS (tailS u a) m = tailS u (a + m) := by
  unfold tailS
  rw [ByteArray.extract_extract]
  congr 1
  rw [ByteArray.size_extract]; omega
theorem tail_app (x y : List UInt8) : tailS ⟨(x ++ y).toArray⟩ x.length = ⟨y.toArray⟩ := by
  unfold tailS
  apply ByteArray.ext
  rw [ByteArray.data_extract]
  show ((x ++ y).toArray).extract x.length (x ++ y).toArray.size = y.toArray
  simp
theorem size_list (x : List UInt8) : (⟨x.toArray⟩ : ByteArray).size = x.length := by show x.toArray.size = _; simp
theorem bt_app_left {x y : List UInt8} {i : Nat} (h : i < x.length) : bt ⟨(x ++ y).toArray⟩ i = bt ⟨x.toArray⟩ i := by
  rw [bt_eq (by rw [size_list, List.length_append]; omega), bt_eq (by rw [size_list]; exact h)]
  show ((x ++ y).toArray[i]'_).toNat = (x.toArray[i]'_).toNat
  simp [List.getElem_append_left h]
theorem bt_app_right {x y : List UInt8} (h : 0 < y.length) : bt ⟨(x ++ y).toArray⟩ x.length = bt ⟨y.toArray⟩ 0 := by
  rw [bt_eq (by rw [size_list, List.length_append]; omega), bt_eq (by rw [size_list]; exact h)]
  show ((x ++ y).toArray[x.length]'_).toNat = (y.toArray[0]'_).toNat
  simp
theorem mk_list (t : ByteArray) : (⟨t.data.toList.toArray⟩ : ByteArray) = t := by apply ByteArray.ext; simp
theorem size_toList (t : ByteArray) : t.data.toList.length = t.size := by rw [Array.length_toList]; rfl
theorem join_tks {nm : List UInt8 → Int × Bool} {u : ByteArray} : ∀ (T : List Tok), (∀ t ∈ T, GoodT nm t) → ∀ a, a ≤ u.size → tailS u a = ⟨(textL T).toArray⟩ → ∃ T', Tks nm u a T' ∧ SameT T T'
  | [], _, a, ha, h => by
    refine ⟨[], .done ?_, .nil⟩
    have := congrArg ByteArray.size h
    rw [tail_size, size_list (textL []), textL_nil] at this
    simp at this; omega
  | [t], hg, a, ha, h => by
    obtain ⟨g0, g1⟩ := hg t (by simp)
    rw [textL_one, mk_list] at h
    have hz := congrArg ByteArray.size h
    rw [tail_size] at hz
    have hf := g1 t.text (Nat.le_refl _) (fun i _ => rfl) (fun h => by omega)
    rw [← h] at hf
    obtain ⟨n1, n2⟩ := first_not_blank hf
    rw [tail_bt (by omega), Nat.add_zero] at n1 n2
    refine ⟨_, .token (by omega) n1 n2 hf (.done (by rw [h]; omega)), .cons rfl rfl ?_ .nil⟩
    show t.text = u.extract a (a + (tailS u a).size)
    rw [tail_size, show a + (u.size - a) = u.size by omega]
    exact h.symm
  | t :: x :: r, hg, a, ha, h => by
    obtain ⟨g0, g1⟩ := hg t (by simp)
    rw [textL_cons] at h
    have hz := congrArg ByteArray.size h
    rw [tail_size, size_list (t.text.data.toList ++ 32 :: textL (x :: r)), List.length_append, size_toList, List.length_cons] at hz
    have b1 : ∀ i, i < t.text.size → bt (tailS u a) i = bt t.text i := fun i hi => by
      rw [h, bt_app_left (by rw [size_toList]; exact hi), mk_list]
    have b2 : bt (tailS u a) t.text.size = 32 := by
      rw [h, ← size_toList, bt_app_right (by simp)]
      rfl
    have hf := g1 (tailS u a) (by rw [tail_size]; omega) b1 (fun _ => b2)
    obtain ⟨n1, n2⟩ := first_not_blank hf
    rw [tail_bt (by omega), Nat.add_zero] at n1 n2
    rw [tail_bt (by omega)] at b2
    have ht : tailS u (a + t.text.size) = ⟨(32 :: textL (x :: r)).toArray⟩ := by
      rw [← tail_tail (by omega), h, ← size_toList, tail_app]
    have ht2 : tailS u (a + t.text.size + 1) = ⟨(textL (x :: r)).toArray⟩ := by
      rw [← tail_tail (by omega), ht]
      exact tail_app [32] (textL (x :: r))
    obtain ⟨T', k1, k2⟩ := join_tks (x :: r) (fun y hy => hg y (by simp at hy ⊢; right; exact hy)) (a + t.text.size + 1) (by omega) ht2
    refine ⟨_, .token (by omega) n1 n2 hf (.blank (by omega) (by rw [b2]; decide) k1), .cons rfl rfl ?_ k2⟩
    show t.text = u.extract a (a + t.text.size)
    rw [← extract_tail_in (by omega)]
    refine ext_bt (by rw [ByteArray.size_extract, tail_size]; omega) (fun i hi => ?_)
    rw [bt_extract (by omega) (by rw [tail_size]; omega), Nat.zero_add, b1 i hi]
/-- Blanks, line's ends and remarks alone lead from one place to another one. -/
inductive Gap (s : ByteArray) : Nat → Nat → Prop
  | here (a : Nat) : Gap s a a
  | blank {a b : Nat} (h : a < s.size) (hb : blankB (bt s a) = true) (hh : Gap s (a + 1) b) : Gap s a b
  | remark {a b : Nat} (h : a < s.size) (hb : bt s a = 35) (hh : Gap s (lineE s a) b) : Gap s a b
theorem lineE_spec {s : ByteArray} {a : Nat} (h : a < s.size) : a ≤ lineE s a ∧ lineE s a ≤ s.size ∧ (∀ i, a ≤ i → i < lineE s a → bt s i ≠ 10) ∧ (lineE s a < s.size → bt s (lineE s a) = 10) := by
  obtain ⟨g1, g2, g3, g4⟩ := runE_spec (fun b => !decide (b = 10)) s s.size a (by omega) (by omega)
  unfold lineE
  refine ⟨g1, g2, fun i e1 e2 => ?_, fun e => ?_⟩
  · have := g3 i e1 e2; simpa using this
  · have := g4 e; simpa using this
theorem lineE_of {s : ByteArray} {a e : Nat} (h : a < s.size) (h1 : a ≤ e) (h2 : e ≤ s.size) (h3 : ∀ i, a ≤ i → i < e → bt s i ≠ 10) (h4 : e < s.size → bt s e = 10) : lineE s a = e := by
  obtain ⟨g1, g2, g3, g4⟩ := lineE_spec h
  exact first_one (q := fun i => bt s i ≠ 10) (n := s.size) (pos := a) ⟨g1, g2, g3, fun h => by simpa using g4 h⟩ ⟨h1, h2, h3, fun h => by simpa using h4 h⟩
theorem lineE_gt {s : ByteArray} {a : Nat} (h : a < s.size) (hb : bt s a = 35) : a < lineE s a := by
  obtain ⟨g1, g2, g3, g4⟩ := lineE_spec h
  rcases Nat.lt_or_ge a (lineE s a) with h5 | h5
  · exact h5
  · have e : lineE s a = a := by omega
    rw [e] at g4
    have := g4 h
    omega
theorem Gap.le {s : ByteArray} {a b : Nat} (h : Gap s a b) : a ≤ b := by
  induction h with
  | here => exact Nat.le_refl _
  | blank _ _ _ ih => omega
  | remark h hb _ ih => have := lineE_gt h hb; omega
theorem Gap.sc {nm : List UInt8 → Int × Bool} {s : ByteArray} {a b e : Nat} {l : List Tok} (h : Gap s a b) : b ≤ s.size → e ≤ a → Sc nm (s.extract e b) (a - e) l (l, 0, 0) := by
  induction h with
  | here a => intro hb he; exact .done (by rw [ByteArray.size_extract]; omega)
  | @blank a b h1 hbl hh ih =>
    intro hb he
    have hle := hh.le
    refine .blank (by rw [ByteArray.size_extract]; omega) (by rw [bt_extract (by omega) hb, show e + (a - e) = a by omega]; exact hbl) ?_
    rw [show a - e + 1 = a + 1 - e by omega]
    exact ih hb (by omega)
  | @remark a b h1 hbl hh ih =>
    intro hb he
    have hle := hh.le
    have hgt := lineE_gt h1 hbl
    obtain ⟨g1, g2, g3, g4⟩ := lineE_spec h1
    have hz : (s.extract e b).size = b - e := by rw [ByteArray.size_extract]; omega
    refine .remark (by omega) (by rw [bt_extract (by omega) hb, show e + (a - e) = a by omega]; exact hbl) ?_
    rw [lineE_of (e := lineE s a - e) (by omega) (by omega) (by omega) (fun i i1 i2 => by
      rw [bt_extract (by omega) hb]; exact g3 (e + i) (by omega) (by omega)) (fun h => by
      rw [bt_extract (by omega) hb, show e + (lineE s a - e) = lineE s a by omega]; exact g4 (by omega))]
    exact ih hb (by omega)
theorem Tks.head {nm : List UInt8 → Int × Bool} {s : ByteArray} {a : Nat} {T : List Tok} (h : Tks nm s a T) : ∀ t L, T = t :: L → ∃ m, Gap s a t.pos ∧ t.pos < s.size ∧ firstP nm (tailS s t.pos) = .ok (t.kind, t.num, m) ∧ t.text = s.extract t.pos (t.pos + m) ∧ Tks nm s (t.pos + m) L := by
  induction h with
  | done => intro t L e; cases e
  | blank h1 hb _ ih => intro t L e; obtain ⟨m, g, r⟩ := ih t L e; exact ⟨m, .blank h1 hb g, r⟩
  | remark h1 hb _ ih => intro t L e; obtain ⟨m, g, r⟩ := ih t L e; exact ⟨m, .remark h1 hb g, r⟩
  | @token a L0 k n m h1 hb hr hf hh ih =>
    intro t L e
    injection e with e1 e2
    subst e1 e2
    exact ⟨m, .here _, h1, hf, rfl, hh⟩
theorem Tks.nil_gap {nm : List UInt8 → Int × Bool} {s : ByteArray} {a : Nat} {T : List Tok} (h : Tks nm s a T) : T = [] → a ≤ s.size → Gap s a s.size := by
  induction h with
  | @done a h => intro _ h2; rw [show a = s.size by omega]; exact .here _
  | blank h1 hb _ ih => intro e _; exact .blank h1 hb (ih e (by omega))
  | remark h1 hb _ ih => intro e _; exact .remark h1 hb (ih e (lineE_spec h1).2.1)
  | token => intro e; cases e
end Go.Proofs.YtgnflnfajkoibaaDoor.lx
namespace Go.Proofs.YtgnflnfajkoibaaDoor.tx
open Go.ChangeShapes Go.WideShapes Go.ChangeAt Go.RowKit Go.Deep sr lt

/-- The first place, from i on, where two texts part: n is how many are left. -/
def apF (a b : ByteArray) : Nat → Nat → Nat
  | 0, i => i
  | n + 1, i => if lx.bt a i = lx.bt b i then apF a b n (i + 1) else i
def apartF (a b : ByteArray) : Nat := apF a b (min a.size b.size) 0
theorem byteAt (s : ByteArray) (k : Nat) (h : k < s.size) : ∀ W : World, (Instr.index 9 (.string s) (.int .i64 (k : Nat))).run Tryd.prog W = .ok (.int .u8 (lx.bt s k : Nat)) W := fun W => by
  rw [run_index_string W _ _ _ _ Tryd.underlying9, dif_pos ⟨by omega, by omega⟩, lx.bt_eq h]; rfl
set_option maxRecDepth 20000 in
set_option maxHeartbeats 2000000 in
theorem parting_any (a b : ByteArray) (w : World) (hz : b.size ≤ 1000000000) : Calls Tryd.prog 22 #[.string a, .string b] w fun e w' => e = .returned (.int .i64 (apartF a b : Nat)) ∧ Below w.heap.size w w' := by
  obtain ⟨R, HR⟩ : ∃ R, Hid (apartF a b = R) := ⟨_, Lib.hid rfl⟩
  have H0 : Hid (apF a b (min a.size b.size) 0 = R) := HR
  rw [HR.out]
  obtain ⟨m, hm⟩ : ∃ m, min a.size b.size = m := ⟨_, rfl⟩
  rw [hm] at H0
  have HA : Hid (m ≤ a.size ∧ m ≤ b.size) := Lib.hid (by omega)
  have hm9 : (m : Int) ≤ 1000000000 := by omega
  have HM := Lib.hid hm
  clear hz hm
  go_enter Tryd.func22, Tryd.ntmps22
  go_wp2
  go_loopw [5] (fun i wr => ∃ k : Nat, k ≤ m ∧ i = .int .i64 (k : Nat) ∧ Hid (Below w.heap.size w wr) ∧ Hid (apF a b (m - k) k = R)) (fun i _ => m - (intOf i).toNat)
  case atStart => exact ⟨0, Nat.zero_le _, rfl, Lib.hid (Below.refl _ _), H0⟩
  case round =>
    obtain ⟨k, hk, rfl, HB, HF⟩ := hrel
    go_upto_region 2 with (fail)
    have hmi : (min (a.size : Int) (b.size : Int)) = (m : Int) := by have := HM.out; omega
    by_cases hlt : k < m
    · have hi9 : (k : Int) < (m : Int) := by omega
      have ha := byteAt a k (by have := HA.out; omega)
      have hb := byteAt b k (by have := HA.out; omega)
      obtain ⟨x, HX⟩ : ∃ x, Hid (lx.bt a k = x) := ⟨_, Lib.hid rfl⟩
      obtain ⟨y, HY⟩ : ∃ y, Hid (lx.bt b k = y) := ⟨_, Lib.hid rfl⟩
      rw [HX.out] at ha
      rw [HY.out] at hb
      have hF := HF.out
      rw [show m - k = (m - (k + 1)) + 1 by omega, apF, HX.out, HY.out] at hF
      by_cases hxy : x = y
      · rw [if_pos hxy] at hF
        have HF2 := Lib.hid hF
        subst hxy
        clear hF
        go_region
        have HBd := Lib.hid HB.out.drew
        go_wp2
        go_roundw
        case rel => exact ⟨k + 1, by omega, by go_num, HBd, HF2⟩
        case measure => simp [intOf]; omega
      · rw [if_neg hxy] at hF
        have HF2 := Lib.hid hF
        have hxy2 : ((x : Int) == (y : Int)) = false := by simp; omega
        clear hF
        go_region
        have HBd := Lib.hid HB.out.drew
        go_wp2
        go_ret
        exact ⟨by rw [← HF2.out]; rfl, HBd.out⟩
    · obtain rfl : k = m := by omega
      have HF2 : Hid (R = k) := Lib.hid (by rw [← HF.out, Nat.sub_self]; rfl)
      go_region
      have HBd := Lib.hid HB.out.drew
      go_wp2
      go_ret
      exact ⟨by rw [HF2.out]; rfl, HBd.out⟩
end Go.Proofs.YtgnflnfajkoibaaDoor.tx
