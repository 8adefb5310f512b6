/- The program's num.Number. -/
import Derived.Test.YtcielemahmpppaaDoorLexDec
import Derived.Lib.AtoiErrMem
namespace Go.Proofs.YtcielemahmpppaaDoor
open Go.ChangeShapes Go.WideShapes Go.ChangeAt Go.RowKit Go.Lib Go.Sort

theorem dS_ne {v : Int} {s : ByteArray} (h : dS v ≠ s) (h0 : -1048576 ≤ v) (h1 : v ≤ 1048576) (ha : Lib.atoiAll s.data.toList = .ok v) : numD s.data.toList = (0, false) :=
  numD_none (fun v2 g0 g1 e => by
    have := atoi_itoa (n := v2) (by omega) (by omega)
    rw [e, ha] at this
    obtain rfl : v = v2 := by injection this
    exact h (dS_iff.2 e).symm)
theorem numD_out {v : Int} {l : List UInt8} (ha : Lib.atoiAll l = .ok v) (hn : ¬ (-1048576 ≤ v ∧ v ≤ 1048576)) : numD l = (0, false) :=
  numD_none (fun v2 g0 g1 e => by
    have := atoi_itoa (n := v2) (by omega) (by omega)
    rw [e, ha] at this
    obtain rfl : v = v2 := by injection this
    exact hn ⟨g0, g1⟩)
theorem numD_bad {l : List UInt8} (ha : ∀ v, Lib.atoiAll l ≠ .ok v) : numD l = (0, false) :=
  numD_none (fun v2 g0 g1 e => by
    have := atoi_itoa (n := v2) (by omega) (by omega)
    rw [e] at this
    exact ha _ this)
theorem numD_long {l : List UInt8} (h : 8 < l.length) : numD l = (0, false) :=
  numD_none (fun v2 g0 g1 e => by
    have := itoa_len8 g0 g1
    rw [e] at this; omega)
theorem str_ne {a b : ByteArray} (h : a ≠ b) : (a.toList == b.toList) = false := by
  cases e : (a.toList == b.toList)
  · rfl
  · exfalso; apply h
    have h2 := beq_iff_eq.1 e
    rw [ByteArray.toList_eq, ByteArray.toList_eq] at h2
    exact bytes_inj h2
theorem below_conv {w w' : World} (h : w' = w ∨ ∃ t, w' = Lib.bytesWorld w 5 t) : Below w.heap.size w w' := by
  rcases h with rfl | ⟨t, rfl⟩
  · exact Below.refl _ _
  · exact Lib.bytesWorld_below _ _ _
set_option maxRecDepth 20000 in
set_option maxHeartbeats 2000000 in
theorem number_any (s : ByteArray) (w : World) (hs : s.size ≤ 20000) (ht : Tabs w) :
    Calls Tryd.prog 40 #[.string s] w fun e w' => e = .returned (.tuple #[.int .i64 (numD s.data.toList).1, .bool (numD s.data.toList).2]) ∧ Below w.heap.size w w' := by
  have HS := Lib.hid hs
  have HT := Lib.hid ht
  clear hs ht
  go_enter Tryd.func40, Tryd.ntmps40
  by_cases hb : 8 < s.size
  · have hR := Lib.hid (numD_long (l := s.data.toList) (by rw [Array.length_toList]; exact hb))
    have e : ¬ (s.size : Int) ≤ 8 := by omega
    clear hb
    go_wp2
    go_ret2
    rw [hR.out]
    exact ⟨rfl, Below.refl _ _⟩
  · have e : ¬ (8 : Int) < (s.size : Int) := by omega
    go_wp2_with fail
    rcases hA : Lib.atoiAll s.data.toList with v | _ | _
    · refine (Tryd.strconv_Atoi_ok s (by have := HS.out; omega) v hA _).mono ?_
      rintro e1 w1 ⟨rfl, hw1⟩
      have HA := Lib.hid hA
      have H1 : Hid (Below w.heap.size w w1) := Lib.hid (below_conv hw1)
      have HT1 : Hid (Tabs w1) := Lib.hid (HT.out.below H1.out)
      clear hA hw1
      by_cases hn : -1048576 ≤ v ∧ v ≤ 1048576
      · have HN := Lib.hid hn
        by_cases hd : dS v = s
        · have hR : Hid (numD s.data.toList = (v, true)) := Lib.hid (numD_some hn.1 hn.2 (dS_iff.1 hd.symm))
          have HD := Lib.hid hd
          clear hn hd
          go_wp2_with fail
          refine (within_one v _ w1.heap.size (by show (match (w1.alloc (Obj.cells #[Value.int IntKind.i64 v] 3)).heap[w1.heap.size]? with | some (Obj.cells c elem frozen) => c[0]? | x => none) = _; rw [World.alloc_heap_new]; rfl)).mono ?_
          rw [decide_eq_true HN.out]
          rintro e2 w2 ⟨rfl, rfl⟩
          have H2 : Hid (Below w.heap.size w (w1.alloc (Obj.cells #[Value.int IntKind.i64 v] 3))) := Lib.hid (H1.out.alloc H1.out.size _)
          have HT2 : Hid (Tabs (w1.alloc (Obj.cells #[Value.int IntKind.i64 v] 3))) := Lib.hid (HT.out.below H2.out)
          generalize (w1.alloc (Obj.cells #[Value.int IntKind.i64 v] 3)) = w2 at H2 HT2 ⊢
          go_wp2_with fail
          refine (decimal_any v _ (by have := HN.out; omega) (by have := HN.out; omega) HT2.out).mono ?_
          rintro e3 w3 ⟨rfl, hw3⟩
          have H3 : Hid (Below w.heap.size w w3) := Lib.hid (H2.out.trans (hw3.mono H2.out.size))
          rw [HD.out]
          clear hw3
          go_wp2
          go_ret2
          rw [hR.out]
          exact ⟨rfl, H3.out⟩
        · have hR : Hid (numD s.data.toList = (0, false)) := Lib.hid (dS_ne hd hn.1 hn.2 HA.out)
          clear hn
          go_wp2_with fail
          refine (within_one v _ w1.heap.size (by show (match (w1.alloc (Obj.cells #[Value.int IntKind.i64 v] 3)).heap[w1.heap.size]? with | some (Obj.cells c elem frozen) => c[0]? | x => none) = _; rw [World.alloc_heap_new]; rfl)).mono ?_
          rw [decide_eq_true HN.out]
          rintro e2 w2 ⟨rfl, rfl⟩
          have H2 : Hid (Below w.heap.size w (w1.alloc (Obj.cells #[Value.int IntKind.i64 v] 3))) := Lib.hid (H1.out.alloc H1.out.size _)
          have HT2 : Hid (Tabs (w1.alloc (Obj.cells #[Value.int IntKind.i64 v] 3))) := Lib.hid (HT.out.below H2.out)
          generalize (w1.alloc (Obj.cells #[Value.int IntKind.i64 v] 3)) = w2 at H2 HT2 ⊢
          go_wp2_with fail
          refine (decimal_any v _ (by have := HN.out; omega) (by have := HN.out; omega) HT2.out).mono ?_
          rintro e3 w3 ⟨rfl, hw3⟩
          have H3 : Hid (Below w.heap.size w w3) := Lib.hid (H2.out.trans (hw3.mono H2.out.size))
          have hq := str_ne hd
          clear hw3 hd
          generalize dS v = q at hq ⊢
          go_wp2
          go_ret2
          rw [hR.out]
          exact ⟨rfl, H3.out⟩
      · have hR : Hid (numD s.data.toList = (0, false)) := Lib.hid (numD_out HA.out hn)
        have HN := Lib.hid hn
        clear hn
        go_wp2_with fail
        refine (within_one v _ w1.heap.size (by show (match (w1.alloc (Obj.cells #[Value.int IntKind.i64 v] 3)).heap[w1.heap.size]? with | some (Obj.cells c elem frozen) => c[0]? | x => none) = _; rw [World.alloc_heap_new]; rfl)).mono ?_
        rw [decide_eq_false HN.out]
        rintro e2 w2 ⟨rfl, rfl⟩
        have H2 : Hid (Below w.heap.size w (w1.alloc (Obj.cells #[Value.int IntKind.i64 v] 3))) := Lib.hid (H1.out.alloc H1.out.size _)
        generalize (w1.alloc (Obj.cells #[Value.int IntKind.i64 v] 3)) = w2 at H2 ⊢
        go_wp2
        go_ret2
        rw [hR.out]
        exact ⟨rfl, H2.out⟩
    · obtain ⟨te, pe, hc⟩ := HT.out.syn
      refine (Tryd.strconv_Atoi_fault s (by have := HS.out; omega) (fun v h => by rw [hA] at h; cases h) (by rw [hA]; exact fun h => by cases h) _ _ hc (.inr ⟨te, pe, rfl⟩)).mono ?_
      rintro e1 w1 ⟨N, rfl, _, _, hw1⟩
      have hR := Lib.hid (numD_bad (l := s.data.toList) (fun v => by rw [hA]; exact fun h => by cases h))
      have HA := Lib.hid hA
      have H1 : Hid (Below w.heap.size w w1) := Lib.hid hw1
      clear hA hw1
      go_wp2
      go_ret2
      rw [hR.out]
      exact ⟨rfl, H1.out⟩
    · obtain ⟨te, pe, hc⟩ := HT.out.rng
      refine (Tryd.strconv_Atoi_range s (by have := HS.out; omega) hA _ _ hc (.inr ⟨te, pe, rfl⟩)).mono ?_
      rintro e1 w1 ⟨N, rfl, _, _, hw1⟩
      have hR := Lib.hid (numD_bad (l := s.data.toList) (fun v => by rw [hA]; exact fun h => by cases h))
      have HA := Lib.hid hA
      have H1 : Hid (Below w.heap.size w w1) := Lib.hid hw1
      clear hA hw1
      go_wp2
      go_ret2
      rw [hR.out]
      exact ⟨rfl, H1.out⟩
end Go.Proofs.YtcielemahmpppaaDoor
