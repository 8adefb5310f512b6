/- The document's leaf, join and Parts. -/
import Derived.Test.YtmdfiamffipbcaaDoorNnfBegins
import Derived.Test.YtmdfiamffipbcaaDoorNnfTree
import Derived.Laws.AppendOwnNone
namespace Go.Proofs.YtmdfiamffipbcaaDoor.nf
open Go.ChangeShapes Go.WideShapes Go.ChangeAt Go.RowKit Go.Deep sr lt

/-- What a call leaves that hands back nodes. -/
def NdP (w : World) (L : List (Int × Int)) (e : Ending) (w' : World) : Prop := ∃ A c, e = .returned (.slice A L.length c) ∧ PA w' A L ∧ L.length ≤ c ∧ Below w.heap.size w w'
theorem NdP.after {w w1 : World} {L : List (Int × Int)} {e : Ending} {w' : World} (hb : Below w.heap.size w w1) (h : NdP w1 L e w') : NdP w L e w' := by
  obtain ⟨A, c, h1, h2, h3, h4⟩ := h
  exact ⟨A, c, h1, h2, h3, hb.trans (h4.mono hb.size)⟩
theorem nd_on {w w' : World} {v : Value} {L : List (Int × Int)} (h : ON w.heap.size w' v L) (hb : Below w.heap.size w w') : NdP w L (.returned v) w' := by
  obtain ⟨A, c, e, h1, h2⟩ := on_form h
  exact ⟨A, c, by rw [e], h1, h2, hb⟩
theorem pa_one (w : World) (x y : Int) : PA (w.alloc (.cells #[.int .i64 x, .int .i64 y] 38)) (some ⟨w.heap.size, 0, none⟩) [(x, y)] := fun _ => ⟨w.heap.size, 0, rfl, by simp, fun i hi => by
  have hi : i < 1 := hi
  obtain rfl : i = 0 := by omega
  exact ⟨World.cell?_alloc_at _ _ _ _ rfl, World.cell?_alloc_at _ _ _ _ rfl⟩⟩
theorem leaf_any (op : Int) (w : World) : Calls Tryd.prog 34 #[.int .i64 op] w (NdP w [(op, 0)]) := by
  go_enter Tryd.func34, Tryd.ntmps34
  go_wp2
  go_ret
  exact ⟨_, _, rfl, pa_one w op 0, Nat.le_refl _, below_one _ _⟩
set_option maxRecDepth 20000 in
set_option maxHeartbeats 4000000 in
theorem join_two (a b : List (Int × Int)) (A B : Option Addr) (c d m n : Nat) (op : Int) (w : World) (hm : m = a.length) (hn : n = b.length) (hm0 : 0 < m) (hn0 : 0 < n) (hm9 : m ≤ 10000) (hn9 : n ≤ 10000) (hA : PA w A a) (hB : PA w B b) :
    Calls Tryd.prog 35 #[.slice A m c, .slice B n d, .int .i64 op] w (NdP w (a ++ (b ++ [(op, 0)]))) := by
  have HM := Lib.hid hm
  have HN := Lib.hid hn
  have HA := Lib.hid hA
  have HB := Lib.hid hB
  clear hm hn hA hB
  go_enter Tryd.func35, Tryd.ntmps35
  go_wp2_with (first
    | (at_builtin; refine list_append_nodes w.heap.size rfl (.tmp 8) (.tmp 9) rfl rfl _ [] rfl (World.ownsRow_nil _ _ _ _) A m c a rfl HM.out hm0 HA.out (by simp; omega) (Nat.le_refl _) ?_; intro v3 w3 ho3 hb3; rw [List.nil_append] at ho3; have HO3 := Lib.hid ho3; have HB3 := Lib.hid hb3; clear ho3 hb3)
    | (at_builtin; refine list_append_nodes w.heap.size rfl (.tmp 11) (.tmp 12) rfl rfl _ a rfl HO3.out B n d b rfl HN.out hn0 (HB.out.below HB3.out) (by rw [← HM.out]; omega) HB3.out.size ?_; intro v4 w4 ho4 hb4; have HO4 := Lib.hid ho4; have HB4 : Hid (Below w.heap.size w w4) := Lib.hid (HB3.out.trans hb4); clear ho4 hb4)
    | (at_builtin; refine list_append_own encN_len encN_one Tryd.underlying22 infoN rfl (by decide) (by decide) w.heap.size _ rfl (.tmp 14) (.tmp 17) rfl rfl _ (a ++ b) rfl (World.ownsRow.alloc HO4.out _) (op, 0) _ rfl rfl (by rw [List.length_append, ← HM.out, ← HN.out]; omega) (by have := HB4.out.size; simp; omega) _ (World.alloc_heap_new _ _) ?_; intro v5 w5 ho5 hb5 _; have HO5 := Lib.hid ho5; have HB5 : Hid (Below w.heap.size w w5) := Lib.hid ((HB4.out.alloc HB4.out.size _).trans hb5); clear ho5 hb5)
    | fail)
  go_ret
  have h := nd_on HO5.out HB5.out
  rw [List.append_assoc] at h
  exact h
set_option maxRecDepth 20000 in
set_option maxHeartbeats 4000000 in
theorem join_one (a : List (Int × Int)) (A : Option Addr) (c m : Nat) (op : Int) (w : World) (hm : m = a.length) (hm0 : 0 < m) (hm9 : m ≤ 10000) (hA : PA w A a) :
    Calls Tryd.prog 35 #[.slice A m c, .slice none 0 0, .int .i64 op] w (NdP w (a ++ [(op, 0)])) := by
  have HM := Lib.hid hm
  have HA := Lib.hid hA
  clear hm hA
  obtain ⟨i0, hi0, hz0, hz1, hz2⟩ := info_parts infoN
  go_enter Tryd.func35, Tryd.ntmps35
  go_wp2_with (first
    | (at_builtin; refine list_append_nodes w.heap.size rfl (.tmp 8) (.tmp 9) rfl rfl _ [] rfl (World.ownsRow_nil _ _ _ _) A m c a rfl HM.out hm0 HA.out (by simp; omega) (Nat.le_refl _) ?_; intro v3 w3 ho3 hb3; rw [List.nil_append] at ho3; have HO3 := Lib.hid ho3; have HB3 := Lib.hid hb3; clear ho3 hb3)
    | (at_builtin; refine wpList_append_own_none rfl (.tmp 11) (.tmp 12) 22 rfl w.heap.size 38 i0 2 Tryd.underlying22 hi0 _ a.length (flatR encN a) rfl HO3.out rfl ?_)
    | (at_builtin; refine list_append_own encN_len encN_one Tryd.underlying22 infoN rfl (by decide) (by decide) w.heap.size _ rfl (.tmp 14) (.tmp 17) rfl rfl _ a rfl (World.ownsRow.alloc HO3.out _) (op, 0) _ rfl rfl (by rw [← HM.out]; omega) (by have := HB3.out.size; simp; omega) _ (World.alloc_heap_new _ _) ?_; intro v5 w5 ho5 hb5 _; have HO5 := Lib.hid ho5; have HB5 : Hid (Below w.heap.size w w5) := Lib.hid ((HB3.out.alloc HB3.out.size _).trans hb5); clear ho5 hb5)
    | fail)
  go_ret
  exact nd_on HO5.out HB5.out
end Go.Proofs.YtmdfiamffipbcaaDoor.nf
