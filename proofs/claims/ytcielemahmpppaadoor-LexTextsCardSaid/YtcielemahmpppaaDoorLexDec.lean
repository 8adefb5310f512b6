/- Decimals: the program's, the document's (beside lex). -/
import Derived.Test.YtcielemahmpppaaDoorLexAll
import Derived.Test.YtcielemahmpppaaDoorNumTextsPure
import Derived.Test.YtcielemahmpppaaDoorShelf
import Derived.RangeFuncRecord
namespace Go.Proofs.YtcielemahmpppaaDoor
open Go.ChangeShapes Go.WideShapes Go.ChangeAt Go.RowKit Go.Lib Go.Sort

/-- A decimal, as a text. -/
def dS (n : Int) : ByteArray := ⟨(itoa n).toArray⟩
def decZ (u : Nat) : List UInt8 := if u = 0 then [] else decDigits u
theorem decZ_step {u : Nat} (h : u ≠ 0) : decZ u = decZ (u / 10) ++ [UInt8.ofNat (48 + u % 10)] := by
  unfold decZ
  rw [if_neg h]
  by_cases h1 : u < 10
  · rw [if_pos (by omega), decDigits_one h1, show u % 10 = u by omega]; rfl
  · rw [if_neg (by omega), decDigits_big h1]
theorem wrap_id {x : Int} (h1 : -9223372036854775808 ≤ x) (h2 : x ≤ 9223372036854775807) : wrap64 x = x := by unfold wrap64; omega
theorem mod_dg {dg : Nat} (h : dg < 10) : (48 + (dg : Int)) % 256 = 48 + (dg : Int) := by omega
theorem abs_neg {a b : Nat} (h : a < b) : (-(a : Int)).natAbs < (-(b : Int)).natAbs := by omega
theorem abs_pos {a b : Nat} (h : a < b) : (a : Int).natAbs < (b : Int).natAbs := by omega
theorem tmod_pos {u dg : Nat} (h : u % 10 = dg) : (u : Int).tmod 10 = (dg : Int) := by rw [Int.tmod_eq_emod_of_nonneg (by omega)]; omega
theorem tdiv_pos {u d : Nat} (h : u / 10 = d) : (u : Int).tdiv 10 = (d : Int) := by rw [Int.tdiv_eq_ediv_of_nonneg (by omega)]; omega
theorem str_cons (c : UInt8) (l : List UInt8) : (⟨#[c]⟩ : ByteArray) ++ ⟨l.toArray⟩ = ⟨(c :: l).toArray⟩ := by
  apply ByteArray.ext
  simp [ByteArray.data_append]
theorem conv_one (w : World) (dg : Nat) (h : dg < 10) : (convert 59 9 (.slice (some ⟨w.heap.size, 0, none⟩) 1 1)).run Tryd.prog (w.alloc (.cells #[.int .u8 (48 + (dg : Int))] 5)) = .ok (.string ⟨#[UInt8.ofNat (48 + dg)]⟩) (w.alloc (.cells #[.int .u8 (48 + (dg : Int))] 5)) := by
  have h := World.alloc_heap_new w (.cells #[.int .u8 (48 + (dg : Int))] 5)
  generalize w.alloc (.cells #[.int .u8 (48 + (dg : Int))] 5) = W at h ⊢
  have hr := run_convert_bytes_arg W 59 5 Tryd.underlying59 Tryd.underlying5 w.heap.size 0 1 1 [48 + (dg : Int)] (by simp) (fun i hi => by
    obtain rfl : i = 0 := by omega
    simp [World.cell?, h]) 9 Tryd.underlying9
  rw [hr]
  have e : strOfNums [48 + (dg : Int)] = ⟨#[UInt8.ofNat (48 + dg)]⟩ := by
    show (⟨([UInt8.ofNat ((48 + (dg : Int)).toNat)] : List UInt8).toArray⟩ : ByteArray) = _
    rw [show (48 + (dg : Int)).toNat = 48 + dg by omega]
  rw [e]
theorem decZ_len {u : Nat} (h : u ≤ 9223372036854775808) : (decZ u).length ≤ 20 := by
  unfold decZ
  split
  · simp
  · rw [decDigits_length]; exact nDigits_le (k := 19) (Nat.lt_of_le_of_lt h (by decide))
set_option maxRecDepth 20000 in
set_option maxHeartbeats 2000000 in
theorem refDecimal_any (n : Int) (w : World) (h0 : -9223372036854775808 ≤ n) (h1 : n ≤ 9223372036854775807) :
    Calls Tryd.prog 27 #[.int .i64 n] w fun e w' => e = .returned (.string (dS n)) ∧ Below w.heap.size w w' := by
  go_enter Tryd.func27, Tryd.ntmps27
  go_wp2
  go_loopw [3, 4] (fun s k wr => ∃ (u : Nat) (l : List UInt8) (z : Int), s = .string ⟨l.toArray⟩ ∧ k = .int .i64 z ∧ Hid (z = (if n < 0 then -(u : Int) else (u : Int)) ∧ decZ u ++ l = decZ n.natAbs ∧ u ≤ n.natAbs) ∧ Hid (Below w.heap.size w wr)) (fun _ k _ => (RowKit.intOf k).natAbs)
  case atStart => exact ⟨n.natAbs, [], n, rfl, rfl, Lib.hid ⟨by split <;> omega, by simp, Nat.le_refl _⟩, Lib.hid (Below.refl _ _)⟩
  case round =>
    obtain ⟨u, l, z, rfl, rfl, HU, HW⟩ := hrel
    by_cases hz : z = 0
    · subst hz
      obtain ⟨hzu, hdd, hun⟩ := HU.out
      have hu0 : u = 0 := by
        by_cases hn : n < 0
        · rw [if_pos hn] at hzu; clear hdd hun; omega
        · rw [if_neg hn] at hzu; clear hdd hun; omega
      subst hu0
      have hl : l = decZ n.natAbs := hdd
      have hll : ¬ 9223372036854775807 < 1 + l.length := by
        rw [hl]
        have h4 := decZ_len (u := n.natAbs) (by omega)
        omega
      by_cases hn0 : n = 0
      · subst hn0
        have HE : Hid (dS 0 = ⟨#[48]⟩) := Lib.hid (by unfold dS itoa; rw [if_neg (by omega), decDigits_one (by decide)]; rfl)
        clear hzu hdd hun HU hl hll
        go_wp2
        go_ret
        exact ⟨by rw [← HE.out]; rfl, HW.out⟩
      · have hnb : (n == 0) = false := by simpa using hn0
        by_cases hn : n < 0
        · have HE : Hid ((⟨#[45]⟩ : ByteArray) ++ ⟨l.toArray⟩ = dS n) := Lib.hid (by
            rw [str_cons, hl]
            unfold dS itoa decZ
            rw [if_pos hn, if_neg (by omega)])
          have hnd : decide (n < 0) = true := decide_eq_true hn
          clear hzu hdd hun HU hl
          go_wp2
          go_ret
          exact ⟨by rw [← HE.out]; rfl, HW.out⟩
        · have HE : Hid ((⟨l.toArray⟩ : ByteArray) = dS n) := Lib.hid (by
            rw [hl]
            unfold dS itoa decZ
            rw [if_neg hn, if_neg (by omega), show n.natAbs = n.toNat by omega])
          have hnd : decide (n < 0) = false := decide_eq_false hn
          clear hzu hdd hun HU hl
          go_wp2
          go_ret
          exact ⟨by rw [← HE.out]; rfl, HW.out⟩
    · have hzb : (z != 0) = true := by simpa using hz
      obtain ⟨hzu, hdd, hun⟩ := HU.out
      have hu0 : u ≠ 0 := fun e => hz (by rw [hzu, e]; split <;> rfl)
      have hub : u ≤ 9223372036854775808 := by clear hzu hdd; omega
      have hsg : n < 0 ∨ u ≤ 9223372036854775807 := by clear hzu hdd; omega
      have HZU := Lib.hid hzu
      have HDD := Lib.hid hdd
      have HUN := Lib.hid hun
      have hnz : n.natAbs ≤ 9223372036854775808 := by clear hzu hdd hun; omega
      have HNZ := Lib.hid hnz
      have HSG := Lib.hid hsg
      clear hzu hdd hun HU hnz hsg
      have hll : ¬ 9223372036854775807 < 1 + l.length := by
        have h3 := congrArg List.length HDD.out
        rw [List.length_append] at h3
        have h4 := decZ_len (u := n.natAbs) HNZ.out
        omega
      obtain ⟨dg, HDG⟩ : ∃ dg, Hid (u % 10 = dg) := ⟨_, Lib.hid rfl⟩
      have hdg : dg < 10 := by have := HDG.out; omega
      obtain ⟨u2, HU2⟩ : ∃ u2, Hid (u / 10 = u2) := ⟨_, Lib.hid rfl⟩
      have hlt : u2 < u := by have := HU2.out; omega
      obtain ⟨c, HCC⟩ : ∃ c, Hid (UInt8.ofNat (48 + dg) = c) := ⟨_, Lib.hid rfl⟩
      have HST : Hid (decZ u2 ++ (c :: l) = decZ n.natAbs ∧ u2 ≤ n.natAbs) := Lib.hid (by
        rw [← HDD.out, decZ_step hu0, ← HCC.out, ← HDG.out, ← HU2.out, List.append_assoc]
        exact ⟨rfl, by have := HUN.out; omega⟩)
      have hcv : (convert 59 9 (.slice (some ⟨wr.heap.size, 0, none⟩) 1 1)).run Tryd.prog (wr.alloc (.cells #[.int .u8 (48 + (dg : Int))] 5)) = .ok (.string ⟨#[c]⟩) (wr.alloc (.cells #[.int .u8 (48 + (dg : Int))] 5)) := by rw [← HCC.out]; exact conv_one wr dg hdg
      have HSA : Hid ((⟨#[c]⟩ : ByteArray) ++ ⟨l.toArray⟩ = ⟨(c :: l).toArray⟩) := Lib.hid (str_cons _ _)
      have hwz : w.heap.size ≤ wr.heap.size := HW.out.size
      have HW2 : Hid (Below w.heap.size w (wr.alloc (.cells #[.int .u8 (48 + (dg : Int))] 5))) := Lib.hid (HW.out.alloc hwz _)
      have hw1 : wrap64 (48 + (dg : Int)) = 48 + (dg : Int) := wrap_id (by omega) (by omega)
      have hw2 : wrap64 (dg : Int) = (dg : Int) := wrap_id (by omega) (by omega)
      have hw3 : (48 + (dg : Int)) % 256 = 48 + (dg : Int) := mod_dg hdg
      by_cases hn : n < 0
      · have hzn : z = -(u : Int) := by rw [HZU.out, if_pos hn]
        subst hzn
        have hq : (-(u : Int)).tdiv 10 = -(u2 : Int) := by rw [Int.neg_tdiv, tdiv_pos HU2.out]
        have hw5 : wrap64 (-(u2 : Int)) = -(u2 : Int) := wrap_id (by omega) (by omega)
        have HSZ : Hid (-(u2 : Int) = (if n < 0 then -(u2 : Int) else (u2 : Int)) ∧ decZ u2 ++ (c :: l) = decZ n.natAbs ∧ u2 ≤ n.natAbs) := Lib.hid ⟨(if_pos hn).symm, HST.out⟩
        have hm0 : (-(u : Int)).tmod 10 = -(dg : Int) := by rw [Int.neg_tmod, tmod_pos HDG.out]
        clear HCC
        by_cases hd0 : dg = 0
        · subst hd0
          have hm : (-(u : Int)).tmod 10 = 0 := hm0
          have hcv : (convert 59 9 (.slice (some ⟨wr.heap.size, 0, none⟩) 1 1)).run Tryd.prog (wr.alloc (.cells #[.int .u8 48] 5)) = .ok (.string ⟨#[c]⟩) (wr.alloc (.cells #[.int .u8 48] 5)) := hcv
          have HWX : Hid (Below w.heap.size w (wr.alloc (.cells #[.int .u8 48] 5))) := HW2
          clear hm0 hw1 hw2 hw3 HW2
          go_wp2
          refine ⟨⟨u2, c :: l, -(u2 : Int), ?_, ?_, HSZ, HWX⟩, ?_⟩
          · show Value.string _ = Value.string _
            rw [HSA.out]
          · show Value.int _ _ = Value.int _ _
            first | rfl | rw [hw5]
          · try rw [hw5]
            exact abs_neg hlt
        · have hd1 : decide (-(dg : Int) < 0) = true := decide_eq_true (by omega)
          have hd2 : decide (0 < dg) = true := decide_eq_true (by omega)
          have hd3 : 0 < dg := by omega
          have HWX := HW2
          go_wp2
          refine ⟨⟨u2, c :: l, -(u2 : Int), ?_, ?_, HSZ, HWX⟩, ?_⟩
          · show Value.string _ = Value.string _
            rw [HSA.out]
          · show Value.int _ _ = Value.int _ _
            first | rfl | rw [hw5]
          · try rw [hw5]
            exact abs_neg hlt
      · have hzn : z = (u : Int) := by rw [HZU.out, if_neg hn]
        have hq : z.tdiv 10 = (u2 : Int) := by rw [hzn]; exact tdiv_pos HU2.out
        have hw5 : wrap64 (u2 : Int) = (u2 : Int) := wrap_id (by omega) (by have := HSG.out; omega)
        have HSZ : Hid ((u2 : Int) = (if n < 0 then -(u2 : Int) else (u2 : Int)) ∧ decZ u2 ++ (c :: l) = decZ n.natAbs ∧ u2 ≤ n.natAbs) := Lib.hid ⟨(if_neg hn).symm, HST.out⟩
        have hm : z.tmod 10 = (dg : Int) := by rw [hzn]; exact tmod_pos HDG.out
        have hd1 : decide (z.tmod 10 < 0) = false := decide_eq_false (by rw [hm]; exact Int.not_lt.2 (Int.natCast_nonneg _))
        have hw6 : wrap64 (48 + z.tmod 10) = 48 + (dg : Int) := by rw [hm]; exact hw1
        have hw7 : wrap64 (z.tdiv 10) = (u2 : Int) := by rw [hq]; exact hw5
        have HWX := HW2
        have HZN := Lib.hid hzn
        have HLT := Lib.hid hlt
        clear HCC hzn hm hq hw1 hw2 hw5 hu0 hlt hub hdg
        go_wp2
        refine ⟨⟨u2, c :: l, (u2 : Int), ?_, ?_, HSZ, HWX⟩, ?_⟩
        · show Value.string _ = Value.string _
          rw [HSA.out]
        · show Value.int _ _ = Value.int _ _
          first | rfl | rw [hw7]
        · try rw [hw7]
          rw [HZN.out]; exact abs_pos HLT.out

/-- The table and the two variables that the library's calls read. -/
structure Tabs (w : World) : Prop where
  tab : TabIs Tryd.prog w "internal/strconv.uint64pow10" .u64 pow10Tab
  syn : ∃ te pe, w.cell? ⟨2, 0, none⟩ = some (.iface te pe)
  rng : ∃ te pe, w.cell? ⟨3, 0, none⟩ = some (.iface te pe)
theorem tabIs_below {w w' : World} {name : String} {k : IntKind} {zs : List Int} (h : TabIs Tryd.prog w name k zs) (hb : Below w.heap.size w w') : TabIs Tryd.prog w' name k zs := by
  unfold TabIs World.var? at *
  cases hg : Tryd.prog.globalNamed name with
  | none => rw [hg] at h; cases h
  | some g =>
    rw [hg] at h
    simp only [Option.bind_some] at h ⊢
    have hlt : g < w.heap.size := by
      rcases Nat.lt_or_ge g w.heap.size with h1 | h1
      · exact h1
      · rw [Array.getElem?_eq_none h1] at h; cases h
    rw [hb.block g hlt]
    exact h
theorem Tabs.below {w w' : World} (h : Tabs w) (hb : Below w.heap.size w w') : Tabs w' := by
  obtain ⟨t1, p1, h1⟩ := h.syn
  obtain ⟨t2, p2, h2⟩ := h.rng
  exact ⟨tabIs_below h.tab hb, ⟨t1, p1, (hb.cell (p := ⟨2, 0, none⟩) (World.block_lt_of_cell? _ _ h1)).trans h1⟩, ⟨t2, p2, (hb.cell (p := ⟨3, 0, none⟩) (World.block_lt_of_cell? _ _ h2)).trans h2⟩⟩
theorem below_grow (w : World) (k : Nat) (os : Array Obj) : Below w.heap.size w (grow (w.drewN k) os) :=
  ⟨rfl, rfl, rfl, by show w.heap.size ≤ (w.heap ++ os).size; simp, fun q hq => by show (w.heap ++ os)[q]? = w.heap[q]?; rw [Array.getElem?_append_left hq]⟩
theorem decimal_any (n : Int) (w : World) (h0 : -9223372036854775808 ≤ n) (h1 : n ≤ 9223372036854775807) (ht : Tabs w) :
    Calls Tryd.prog 25 #[.int .i64 n] w fun e w' => e = .returned (.string (dS n)) ∧ Below w.heap.size w w' := by
  have HT := Lib.hid ht
  clear ht
  go_enter Tryd.func25, Tryd.ntmps25
  go_wp2_with fail
  refine (Tryd.strconv_Itoa n h0 h1 _ HT.out.tab).mono ?_
  rintro e w' ⟨rfl, k, os, rfl⟩
  go_wp2
  go_ret
  exact ⟨rfl, below_grow _ _ _⟩
theorem fits_yes (n lo hi : Int) (w : World) (h1 : lo ≤ n) (h2 : n ≤ hi) : Calls Tryd.prog 28 #[.int .i64 n, .int .i64 lo, .int .i64 hi] w fun e w' => e = .returned (.bool true) ∧ w = w' := by
  have h := lx.fits_any n lo hi w
  rw [show lx.fitB n lo hi = true from decide_eq_true ⟨h1, h2⟩] at h
  exact h
theorem fits_no (n lo hi : Int) (w : World) (h1 : n < lo ∨ hi < n) : Calls Tryd.prog 28 #[.int .i64 n, .int .i64 lo, .int .i64 hi] w fun e w' => e = .returned (.bool false) ∧ w = w' := by
  have h := lx.fits_any n lo hi w
  rw [show lx.fitB n lo hi = false from decide_eq_false (by omega)] at h
  exact h
theorem within_one (n : Int) (w : World) (b : Nat) (hc : w.cell? ⟨b, 0, none⟩ = some (.int .i64 n)) :
    Calls Tryd.prog 58 #[.slice (some ⟨b, 0, none⟩) 1 1] w fun e w' => e = .returned (.bool (decide (-1048576 ≤ n ∧ n ≤ 1048576))) ∧ w = w' := by
  by_cases hn : -1048576 ≤ n ∧ n ≤ 1048576
  · rw [decide_eq_true hn]
    go_enter Tryd.func58, Tryd.ntmps58
    go_wp2_with fail
    go_loop [7] (fun i => ∃ k : Nat, k ≤ 1 ∧ i = .int .i64 k) (fun i => 1 - (RowKit.intOf i).toNat)
    case atStart => exact ⟨0, by omega, rfl⟩
    case round =>
      obtain ⟨k, hk, rfl⟩ := hrel
      by_cases h0 : k = 0
      · subst h0
        go_wp2_with fail
        refine (fits_yes n (-1048576) 1048576 _ hn.1 hn.2).mono ?_
        rintro e w' ⟨rfl, rfl⟩
        go_wp2
        go_round
        case rel => exact ⟨1, by omega, rfl⟩
        case measure => simp [RowKit.intOf]
      · obtain rfl : k = 1 := by omega
        go_wp2
        go_ret
        exact ⟨rfl, rfl⟩
  · rw [decide_eq_false hn]
    go_enter Tryd.func58, Tryd.ntmps58
    go_wp2_with fail
    go_loop [7] (fun i => i = .int .i64 0) (fun i => 1)
    case atStart => rfl
    case round =>
      subst hrel
      go_wp2_with fail
      refine (fits_no n (-1048576) 1048576 _ (by omega)).mono ?_
      rintro e w' ⟨rfl, rfl⟩
      go_wp2
      go_ret
      exact ⟨rfl, rfl⟩
/-- The number that a text is. -/
def numD (l : List UInt8) : Int × Bool := if (docFold l).2 ≤ 7 ∧ (-1048576 ≤ docNum l ∧ docNum l ≤ 1048576) ∧ itoa (docNum l) = l then (docNum l, true) else (0, false)
theorem numD_some {l : List UInt8} {v : Int} (h0 : -1048576 ≤ v) (h1 : v ≤ 1048576) (h : itoa v = l) : numD l = (v, true) := by
  obtain ⟨a, b⟩ := doc_itoa h0 h1
  rw [h] at a b
  unfold numD
  rw [a, if_pos ⟨b, ⟨h0, h1⟩, h⟩]
theorem numD_none {l : List UInt8} (h : ∀ v, -1048576 ≤ v → v ≤ 1048576 → itoa v ≠ l) : numD l = (0, false) := by
  unfold numD
  rw [if_neg (fun h2 => h _ h2.2.1.1 h2.2.1.2 h2.2.2)]
theorem itoa_len8 {v : Int} (h0 : -1048576 ≤ v) (h1 : v ≤ 1048576) : (itoa v).length ≤ 8 := by
  unfold itoa
  split
  · have := nDigits_le (k := 6) (u := v.natAbs) (by omega)
    rw [List.length_cons, decDigits_length]; omega
  · have := nDigits_le (k := 6) (u := v.toNat) (by omega)
    rw [decDigits_length]; omega
theorem dS_iff {v : Int} {s : ByteArray} : s = dS v ↔ itoa v = s.data.toList := by
  unfold dS
  constructor
  · rintro rfl; simp
  · intro h
    apply ByteArray.ext
    show s.data = (itoa v).toArray
    rw [h]
end Go.Proofs.YtcielemahmpppaaDoor
