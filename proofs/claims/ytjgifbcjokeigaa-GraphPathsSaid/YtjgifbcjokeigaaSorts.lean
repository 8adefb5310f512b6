/- slices.Sorted over slices.Values, slices.Reverse, at ints: what Path asks of them. -/
import Derived.Test.YtjgifbcjokeigaaPath
import Derived.Test.YtjgifbcjokeigaaShelf
import Derived.Sort.OwnSortedInts
namespace Go.Proofs.Ytjgifbcjokeigaa
open Go.ChangeShapes Go.WideShapes Go.ChangeAt Go.RowKit Go.Shelf Go.Sort

theorem grow_none (w : World) : Go.Sort.grow w #[] = w := by simp [Go.Sort.grow]
theorem OI.block' {base : Nat} {w : World} {A : Option Addr} {m c : Nat} {l : List Int} (h : OI base w (.slice A m c) l) (hm : 0 < m) (hl : m = l.length) : ∃ g cur, A = some ⟨g, 0, none⟩ ∧ base ≤ g ∧ w.heap[g]? = some (.cells cur 3 (0, 0)) ∧ m ≤ c ∧ c ≤ maxLen ∧ cur.size = c * 1 ∧ cur.toList.take l.length = l.map (Value.int .i64) := by
  obtain ⟨h1, h2⟩ := h
  rcases h2 with ⟨e, h0⟩ | ⟨g, cap, cur, e, hb, hg, hn, hx, hs, ht⟩
  · omega
  · injection e with e1 e2 e3
    subst e1 e3
    exact ⟨g, cur, rfl, hb, hg, by omega, hx, hs, by rw [← ht]; simp⟩
theorem rev_any : Hid (∀ base, RevK base) := Lib.hid (fun base W A m c l hm hml hz h => by
  by_cases h0 : m = 0
  · subst h0
    obtain rfl : l = [] := List.eq_nil_of_length_eq_zero hm.symm
    refine (Try.slices_Reverse_int_empty A c W).mono ?_
    rintro e w' ⟨rfl, rfl⟩
    exact ⟨⟨_, rfl⟩, h, Below.refl _ _⟩
  · obtain ⟨g, cur, rfl, hb, hg, h1, h2, h3, h4⟩ := h.block' (by omega) hm
    have hc := Try.slices_Reverse_int g 0 c l W (holds_of_blockI hg h4) (by omega)
    rw [← hm] at hc
    refine hc.mono ?_
    rintro e w' ⟨rfl, n, rfl⟩
    rw [← grow_none (putRow _ _ _ _ _)]
    have ho := ownsRow_sortedI (n := n) (os := #[]) (ss := l) (ts := l.reverse) (by simp) hb hg (by omega) h2 (by simpa using h3)
    have hgw := grownBy_sortedI (w := W) (g := g) (n := n) (os := #[]) l.reverse.toArray
    refine ⟨⟨_, rfl⟩, ?_, Below.grown (Below.refl _ _) hgw hz (fun k hk => by cases hk; exact hb)⟩
    unfold OI
    rw [List.length_reverse, hm]
    exact ho)
theorem sort_any (As : Option Addr) (m cs : Nat) (from_ : List Int) (w : World) (hm : m = from_.length) (hml : m ≤ 1000000) : Hid (SortK As m cs from_ w) := Lib.hid (fun W bx hbx hB hA hbw => by
  have HB := Lib.hid hB
  have HA := Lib.hid hA
  have HC := Lib.hid (collect_any 84 #[.pointer (some ⟨bx, 0, none⟩)] from_ (fun q => q < W.heap.size) W (fun q hq => hq) (by omega) (enters_of Try.func84 (by kernel_rfl) rfl)
    (values_stops W W bx m cs As from_ hm hml hA (Nat.le_refl _) (fun q _ => rfl) hbx (cell_of_box_l hB).1))
  have hsl : (srt from_).length = from_.length := by unfold srt; exact List.length_mergeSort _
  have HSL := Lib.hid hsl
  have HM := Lib.hid hm
  clear hB hA hm hbw hsl
  go_enter Try.func62, Try.ntmps62
  go_wp2_with fail
  refine HC.out.mono ?_
  rintro e w1 ⟨v, rfl, ho1, hb1⟩
  obtain ⟨A1, c1, rfl, hi1, hlt1⟩ := ho1.ins
  have HO1 := Lib.hid ho1
  have HB1 := Lib.hid hb1
  rw [← HM.out] at ho1 ⊢
  have HO1 := Lib.hid ho1
  clear ho1 hb1 hi1 hlt1
  go_wp2_with fail
  by_cases h0 : m = 0
  · subst h0
    have HE : Hid (from_ = []) := Lib.hid (List.eq_nil_of_length_eq_zero HM.out.symm)
    refine (Try.slices_Sort_int_none A1 c1 w1).mono ?_
    rintro e w' ⟨rfl, rfl⟩
    go_wp2_with fail
    go_ret
    exact ⟨A1, c1, rfl, by rw [HE.out, show srt [] = [] from List.mergeSort_nil]; exact IA.nil _ _, HB1.out⟩
  · obtain ⟨g, cur, rfl, hb, hg, h1, h2, h3, h4⟩ := HO1.out.block' (by omega) HM.out
    have hc := Try.slices_Sort_int g 0 c1 from_ w1 (holds_of_blockI hg h4) (Array.getElem?_eq_some_iff.1 hg).1 (by have := HM.out; omega)
    rw [← HM.out] at hc
    have ho := fun n os => ownsRow_sortedI (n := n) (os := os) (ss := from_) (ts := srt from_) HSL.out hb hg (by have := HM.out; omega) h2 (by simpa using h3)
    have HOO := Lib.hid ho
    have HBZ := Lib.hid hb
    refine hc.mono ?_
    rintro e w' ⟨rfl, n, os, hw⟩
    have ho2 := HOO.out n os
    have hgw := grownBy_sortedI (w := w1) (g := g) (n := n) (os := os) (srt from_).toArray
    have hw2 : w' = Go.Sort.grow (putRow (Value.int .i64) (Go.Sort.ahead w1 n) g 0 (srt from_).toArray) os := hw
    rw [← hw2] at ho2 hgw
    have HO2 := Lib.hid ho2
    have HB2 := Lib.hid (Below.grown HB1.out hgw HB1.out.size (fun k hk => by cases hk; exact HBZ.out))
    clear ho2 hgw hw2 hw ho hc hg h4 h3 h2 h1 hb h0
    go_wp2_with fail
    go_ret
    have hfin : OI W.heap.size w' (.slice (some ⟨g, 0, none⟩) (srt from_).length c1) (srt from_) := by
      unfold OI
      rw [HSL.out]; exact HO2.out
    obtain ⟨A3, c3, e3, i3⟩ := hfin.form
    injection e3 with e4 e5 e6
    subst e4 e6
    exact ⟨_, _, rfl, i3, HB2.out⟩)
theorem srt_len (l : List Int) : (srt l).length = l.length := by unfold srt; exact List.length_mergeSort _
theorem path_any {w : World} {v : Value} {G : Gr} (hv : GV w v G) (As : Option Addr) (m cs : Nat) (from_ : List Int) (GA : Option Addr) (gn gc : Nat) (goal : List Bool) (hnl : G.rows.length ≤ 1000) (hrow : ∀ i, (G.rows.getD i []).length ≤ 1000)
    (hm : m = from_.length) (hml : m ≤ 1000000) (hS : IA w As from_) (hg : gn = goal.length) (hgl : goal.length ≤ maxLen) (hG : BL w GA goal) :
    Calls Try.prog 30 #[v, .slice As m cs, .slice GA gn gc] w (PathP w (pathL G.rows from_ goal)) := by
  obtain ⟨A1, c1, A2, c2, A3, c3, rfl, _, ⟨a2, b2, d2⟩, _⟩ := hv
  exact path_of _ _ A2 c2 _ G.rows As m cs from_ GA gn gc goal w rfl hnl d2 hrow hm hml hS hg hgl hG (by rw [srt_len, hm]) (sort_any As m cs from_ w hm hml) rev_any
theorem reach_any {w : World} {v : Value} {G : Gr} (hv : GV w v G) (As : Option Addr) (m cs : Nat) (from_ : List Int) (hnl : G.rows.length ≤ 1000000) (hm : m = from_.length) (hml : m ≤ 1000000) (hS : IA w As from_) :
    Calls Try.prog 22 #[v, .slice As m cs] w (Marks w G.rows.length (seen G.rows.length G.rows from_)) := by
  obtain ⟨A1, c1, A2, c2, A3, c3, rfl, _, ⟨a2, b2, d2⟩, _⟩ := hv
  obtain ⟨n, HN⟩ : ∃ n, Hid (G.rows.length = n) := ⟨_, Lib.hid rfl⟩
  obtain ⟨n1, HN1⟩ : ∃ n, Hid (G.init.length = n) := ⟨_, Lib.hid rfl⟩
  obtain ⟨n3, HN3⟩ : ∃ n, Hid (G.labels.length = n) := ⟨_, Lib.hid rfl⟩
  rw [HN.out, HN1.out, HN3.out]
  rw [HN.out] at hnl
  have HD2 := Lib.hid d2
  have HM := Lib.hid hm
  have HS := Lib.hid hS
  clear hm hS d2 a2 b2
  go_enter Try.func22, Try.ntmps22
  go_wp2_with fail
  have hB : Below w.heap.size w (w.alloc (.cells #[.slice A1 n1 c1, .slice A2 n c2, .slice A3 n3 c3] 26)) := (Below.refl _ _).alloc (Nat.le_refl _) _
  generalize (w.alloc (.cells #[.slice A1 n1 c1, .slice A2 n c2, .slice A3 n3 c3] 26)) = w1 at *
  have HB := Lib.hid hB
  clear hB
  refine (reached_any n G.rows A2 c2 As m cs from_ w1 HN.out hnl (RA.below HD2.out HB.out) HM.out hml (HS.out.below HB.out)).mono ?_
  rintro e w2 ⟨b, rfl, hb, hr, hB2⟩
  have HR := Lib.hid hr
  have HB2 := Lib.hid hB2
  have hzz := HB.out.size
  clear hr hB2
  go_wp2_with fail
  go_ret
  exact ⟨b, rfl, by omega, HR.out, HB.out.trans (HB2.out.mono HB.out.size)⟩
end Go.Proofs.Ytjgifbcjokeigaa
