/- Contracts that the claim stands on, several texts in one: EtBare, EtBareP, EtRead3, EtRead4, EtRead5. -/
import Derived.Test.YtmnigdphikoljaaGreatDoorPut1
import Derived.Test.YtmnigdphikoljaaGreatDoorPut2
import Derived.Test.YtmnigdphikoljaaGreatDoorPut3
import Derived.Test.YtmnigdphikoljaaGreatDoorPut4
import Derived.Test.YtmnigdphikoljaaGreatDoorPut5
import Derived.Test.YtmnigdphikoljaaGreatDoorPut6
import Derived.Test.YtmnigdphikoljaaGreatDoorPut7
import Derived.Test.YtmnigdphikoljaaGreatDoorPut8
import Derived.Test.YtmnigdphikoljaaGreatDoorPut9
import Derived.Test.YtmnigdphikoljaaGreatDoorPut10
import Derived.Test.YtmnigdphikoljaaGreatDoorPut11
import Derived.Test.YtmnigdphikoljaaGreatDoorPut12
import Derived.Test.YtmnigdphikoljaaGreatDoorPut13
import Derived.Test.YtmnigdphikoljaaGreatDoorPut14
import Derived.Test.YtmnigdphikoljaaGreatDoorPut15
import Derived.Test.YtmnigdphikoljaaGreatDoorPut16
import Derived.Test.YtmnigdphikoljaaGreatDoorPut17
import Derived.Test.YtmnigdphikoljaaGreatDoorPut18
import Derived.Test.YtmnigdphikoljaaGreatDoorPut19
import Derived.Test.YtmnigdphikoljaaGreatDoorPut20
import Derived.Test.YtmnigdphikoljaaGreatDoorPut21
import Derived.Test.YtmnigdphikoljaaGreatDoorPut22
import Derived.Test.YtmnigdphikoljaaGreatDoorPut23
import Derived.Test.YtmnigdphikoljaaGreatDoorPut24
import Derived.Test.YtmnigdphikoljaaGreatDoorPut25
import Derived.Test.YtmnigdphikoljaaGreatDoorPut26
import Derived.Test.YtmnigdphikoljaaGreatDoorPut27
import Derived.Test.YtmnigdphikoljaaGreatDoorPut28
import Derived.Test.YtmnigdphikoljaaGreatDoorPut29
import Derived.Test.YtmnigdphikoljaaGreatDoorPut30
import Derived.Test.YtmnigdphikoljaaGreatDoorPut31
import Derived.Test.YtmnigdphikoljaaGreatDoorPut32
import Derived.Test.YtmnigdphikoljaaGreatDoorPut33
import Derived.Test.YtmnigdphikoljaaGreatDoorPut34
namespace Go.Proofs.YtmnigdphikoljaaGreatDoor.et
open Go.ChangeShapes Go.WideShapes Go.ChangeAt Go.RowKit Go.Deep

/-- A node, its number 0 where it has none. -/
def bareF (nd : Int × Int) : Int × Int := if nd.1 ≤ 4 ∨ (6 ≤ nd.1 ∧ nd.1 ≤ 8) then nd else (nd.1, 0)
theorem bare_more {e : List (Int × Int)} {k : Nat} (h : k < e.length) : (e.map bareF).take k ++ [bareF (e.getD k (0, 0))] = (e.map bareF).take (k + 1) := by
  rw [List.take_add_one]
  simp [List.getD, h]
set_option maxRecDepth 100000 in
set_option maxHeartbeats 4000000 in
theorem bare_any (e : List (Int × Int)) (A : Option Addr) (n c : Nat) (w : World) (hn : n = e.length) (hz : n ≤ 6000) (hA : PA w A e) :
    Calls Tryz.prog 15 #[.slice A n c] w fun x w' => ∃ v, x = .returned v ∧ ON w.heap.size w' v (e.map bareF) ∧ Below w.heap.size w w' := by
  have HA := Lib.hid hA
  have HN := Lib.hid hn
  clear hA hn
  go_enter Tryz.func15, Tryz.ntmps15
  go_wp2
  go_loopw [3, 4] (fun ov iv wr => ∃ k : Nat, k ≤ n ∧ iv = .int .i64 k ∧ Hid (ON w.heap.size wr ov ((e.map bareF).take k)) ∧ Hid (Below w.heap.size w wr)) (fun _ iv _ => n - (intOf iv).toNat)
  case atStart => exact ⟨0, Nat.zero_le _, rfl, Lib.hid (by rw [List.take_zero]; exact World.ownsRow_nil _ _ _ _), Lib.hid (Below.refl _ _)⟩
  case round =>
    obtain ⟨k, hk, rfl, HO, HB⟩ := hrel
    by_cases hlt : k < n
    · obtain ⟨b, o, hAA, hb, hc⟩ := HA.out (by rw [← HN.out]; omega)
      obtain ⟨d0, d1⟩ := hc k (by rw [← HN.out]; exact hlt)
      have HT := Lib.hid (bare_more (e := e) (k := k) (by rw [← HN.out]; exact hlt))
      obtain ⟨nd, hnd⟩ : ∃ nd, e.getD k (0, 0) = nd := ⟨_, rfl⟩
      rw [hnd] at d0 d1 HT
      obtain ⟨op, q⟩ := nd
      dsimp only at d0 d1
      replace d0 : wr.cell? ⟨b, o + k * 2, none⟩ = some (.int .i64 op) := (HB.out.cell (p := ⟨b, o + k * 2, none⟩) hb).trans d0
      replace d1 : wr.cell? ⟨b, o + k * 2 + 1, none⟩ = some (.int .i64 q) := (HB.out.cell (p := ⟨b, o + k * 2 + 1, none⟩) hb).trans d1
      have hi9 : (k : Int) < (n : Int) := by omega
      have hi0 : (0 : Int) ≤ (k : Int) := by omega
      subst hAA
      have hsr := HB.out.size
      have HSZ : Hid (w.heap.size ≤ wr.heap.size) := Lib.hid hsr
      have hb7 := below_alloc1 wr (.cells #[.int .i64 op, .int .i64 0] 39)
      have HB7 : Hid (Below w.heap.size w (wr.alloc (.cells #[.int .i64 op, .int .i64 0] 39))) := Lib.hid (HB.out.trans (hb7.mono hsr))
      have HO7 : Hid (ON w.heap.size (wr.alloc (.cells #[.int .i64 op, .int .i64 0] 39)) u3 ((e.map bareF).take k)) := Lib.hid (HO.out.below hb7)
      have HOS0 : Hid (∀ q, ON w.heap.size ((wr.alloc (.cells #[.int .i64 op, .int .i64 0] 39)).setCell ⟨wr.heap.size, 1, none⟩ (.int .i64 q)) u3 ((e.map bareF).take k)) := Lib.hid (fun q => HO.out.below (((Below.refl _ _).alloc (Nat.le_refl _) _).setCell (Nat.le_refl _) _))
      have HNB7 : Hid ((wr.alloc (.cells #[.int .i64 op, .int .i64 0] 39)).heap[wr.heap.size]? = some (.cells #[.int .i64 op, .int .i64 0] 39 (0, 0))) := Lib.hid (World.alloc_heap_new wr _)
      replace d0 := d0
      have hd1 : (wr.alloc (.cells #[.int .i64 op, .int .i64 0] 39)).cell? ⟨b, o + k * 2 + 1, none⟩ = some (.int .i64 q) := (hb7.cell (p := ⟨b, o + k * 2 + 1, none⟩) (Nat.lt_of_lt_of_le hb HB.out.size)).trans d1
      clear hc hnd hb7
      go_upto_region 6 with (fail)
      generalize hpb : wr.heap.size = pb at *
      generalize wr.alloc (.cells #[.int .i64 op, .int .i64 0] 39) = w7 at *
      clear d0 d1
      have d1 := hd1
      have d0 := hd1
      have y0 : w7.cell? ⟨pb, 0, none⟩ = some (.int .i64 op) := cell_of_heap HNB7.out rfl
      have y1 : w7.cell? ⟨pb, 1, none⟩ = some (.int .i64 0) := cell_of_heap HNB7.out rfl
      have y2 : w7.frozen? ⟨pb, 1, none⟩ = false := by have h := HNB7.out; simp [World.frozen?, h]
      clear hd1
      by_cases h4 : op ≤ 4
      · have HF : Hid (bareF (op, q) = (op, q)) := Lib.hid (if_pos (.inl h4))
        have HSV : Hid ((w7.setCell ⟨pb, 1, none⟩ (.int .i64 q)).heap[pb]? = some (.cells #[.int .i64 op, .int .i64 q] 39 (0, 0))) := Lib.hid (by simp [World.setCell, Array.getElem?_modify, HNB7.out])
        have HBS : Hid (Below w.heap.size w (w7.setCell ⟨pb, 1, none⟩ (.int .i64 q))) := Lib.hid (HB7.out.setCell (by have := HSZ.out; omega) _)
        have HOS : Hid (ON w.heap.size (w7.setCell ⟨pb, 1, none⟩ (.int .i64 q)) u3 ((e.map bareF).take k)) := Lib.hid (HOS0.out q)
        go_upto_region 8 with (fail)
        generalize hw8 : w7.setCell ⟨pb, 1, none⟩ (.int .i64 q) = w8 at *
        clear hw8 d0 d1 y0 y1 y2
        have z0 : w8.cell? ⟨pb, 0, none⟩ = some (.int .i64 op) := cell_of_heap HSV.out rfl
        have z1 : w8.cell? ⟨pb, 1, none⟩ = some (.int .i64 q) := cell_of_heap HSV.out rfl
        go_wp2_with (at_builtin; go_loud (refine sr.list_append_own (t := 22) (e := 39) (z := .agg #[.int .i64 0, .int .i64 0]) (bytes := 16) nodC_len nodC_one Tryz.underlying22 infoN rfl (by decide) (by decide) w.heap.size _ rfl (.tmp 37) (.tmp 39) rfl rfl _ ((e.map bareF).take k) rfl (HOS.out.below (below_alloc1 _ _)) ((op, q) : Int × Int) _ rfl rfl (by rw [List.length_take]; omega) (by have := HBS.out.size; simp; omega) _ (World.alloc_heap_new _ _) ?_); intro v9 w9 ho9 hb9 _; have HO9 := Lib.hid ho9; have HB9 : Hid (Below w.heap.size w w9) := Lib.hid ((HBS.out.alloc HBS.out.size _).trans hb9); clear ho9 hb9)
        go_wp2
        go_roundw
        case rel => exact ⟨k + 1, by omega, by go_num, Lib.hid (by rw [← HT.out, HF.out]; exact HO9.out), HB9⟩
        case measure => simp [intOf]; omega
      · by_cases h6 : 6 ≤ op
        · by_cases h8 : op ≤ 8
          · have HF : Hid (bareF (op, q) = (op, q)) := Lib.hid (if_pos (.inr ⟨h6, h8⟩))
            have HSV : Hid ((w7.setCell ⟨pb, 1, none⟩ (.int .i64 q)).heap[pb]? = some (.cells #[.int .i64 op, .int .i64 q] 39 (0, 0))) := Lib.hid (by simp [World.setCell, Array.getElem?_modify, HNB7.out])
            have HBS : Hid (Below w.heap.size w (w7.setCell ⟨pb, 1, none⟩ (.int .i64 q))) := Lib.hid (HB7.out.setCell (by have := HSZ.out; omega) _)
            have HOS : Hid (ON w.heap.size (w7.setCell ⟨pb, 1, none⟩ (.int .i64 q)) u3 ((e.map bareF).take k)) := Lib.hid (HOS0.out q)
            go_upto_region 8 with (fail)
            generalize hw8 : w7.setCell ⟨pb, 1, none⟩ (.int .i64 q) = w8 at *
            clear hw8 d0 d1 y0 y1 y2
            have z0 : w8.cell? ⟨pb, 0, none⟩ = some (.int .i64 op) := cell_of_heap HSV.out rfl
            have z1 : w8.cell? ⟨pb, 1, none⟩ = some (.int .i64 q) := cell_of_heap HSV.out rfl
            go_wp2_with (at_builtin; go_loud (refine sr.list_append_own (t := 22) (e := 39) (z := .agg #[.int .i64 0, .int .i64 0]) (bytes := 16) nodC_len nodC_one Tryz.underlying22 infoN rfl (by decide) (by decide) w.heap.size _ rfl (.tmp 37) (.tmp 39) rfl rfl _ ((e.map bareF).take k) rfl (HOS.out.below (below_alloc1 _ _)) ((op, q) : Int × Int) _ rfl rfl (by rw [List.length_take]; omega) (by have := HBS.out.size; simp; omega) _ (World.alloc_heap_new _ _) ?_); intro v9 w9 ho9 hb9 _; have HO9 := Lib.hid ho9; have HB9 : Hid (Below w.heap.size w w9) := Lib.hid ((HBS.out.alloc HBS.out.size _).trans hb9); clear ho9 hb9)
            go_wp2
            go_roundw
            case rel => exact ⟨k + 1, by omega, by go_num, Lib.hid (by rw [← HT.out, HF.out]; exact HO9.out), HB9⟩
            case measure => simp [intOf]; omega
          · have HF : Hid (bareF (op, q) = (op, 0)) := Lib.hid (if_neg (by dsimp only; omega))
            go_upto_region 8 with (fail)
            generalize hw8 : w7 = w8 at *
            clear hw8 d0 d1 y0 y1 y2
            have z0 : w8.cell? ⟨pb, 0, none⟩ = some (.int .i64 op) := cell_of_heap HNB7.out rfl
            have z1 : w8.cell? ⟨pb, 1, none⟩ = some (.int .i64 0) := cell_of_heap HNB7.out rfl
            go_wp2_with (at_builtin; go_loud (refine sr.list_append_own (t := 22) (e := 39) (z := .agg #[.int .i64 0, .int .i64 0]) (bytes := 16) nodC_len nodC_one Tryz.underlying22 infoN rfl (by decide) (by decide) w.heap.size _ rfl (.tmp 37) (.tmp 39) rfl rfl _ ((e.map bareF).take k) rfl (HO7.out.below (below_alloc1 _ _)) ((op, 0) : Int × Int) _ rfl rfl (by rw [List.length_take]; omega) (by have := HB7.out.size; simp; omega) _ (World.alloc_heap_new _ _) ?_); intro v9 w9 ho9 hb9 _; have HO9 := Lib.hid ho9; have HB9 : Hid (Below w.heap.size w w9) := Lib.hid ((HB7.out.alloc HB7.out.size _).trans hb9); clear ho9 hb9)
            go_wp2
            go_roundw
            case rel => exact ⟨k + 1, by omega, by go_num, Lib.hid (by rw [← HT.out, HF.out]; exact HO9.out), HB9⟩
            case measure => simp [intOf]; omega
        · have HF : Hid (bareF (op, q) = (op, 0)) := Lib.hid (if_neg (by dsimp only; omega))
          go_upto_region 8 with (fail)
          generalize hw8 : w7 = w8 at *
          clear hw8 d0 d1 y0 y1 y2
          have z0 : w8.cell? ⟨pb, 0, none⟩ = some (.int .i64 op) := cell_of_heap HNB7.out rfl
          have z1 : w8.cell? ⟨pb, 1, none⟩ = some (.int .i64 0) := cell_of_heap HNB7.out rfl
          go_wp2_with (at_builtin; go_loud (refine sr.list_append_own (t := 22) (e := 39) (z := .agg #[.int .i64 0, .int .i64 0]) (bytes := 16) nodC_len nodC_one Tryz.underlying22 infoN rfl (by decide) (by decide) w.heap.size _ rfl (.tmp 37) (.tmp 39) rfl rfl _ ((e.map bareF).take k) rfl (HO7.out.below (below_alloc1 _ _)) ((op, 0) : Int × Int) _ rfl rfl (by rw [List.length_take]; omega) (by have := HB7.out.size; simp; omega) _ (World.alloc_heap_new _ _) ?_); intro v9 w9 ho9 hb9 _; have HO9 := Lib.hid ho9; have HB9 : Hid (Below w.heap.size w w9) := Lib.hid ((HB7.out.alloc HB7.out.size _).trans hb9); clear ho9 hb9)
          go_wp2
          go_roundw
          case rel => exact ⟨k + 1, by omega, by go_num, Lib.hid (by rw [← HT.out, HF.out]; exact HO9.out), HB9⟩
          case measure => simp [intOf]; omega
    · obtain rfl : k = n := by omega
      have HF : Hid (ON w.heap.size wr u3 (e.map bareF)) := Lib.hid (by have := HO.out; rwa [List.take_of_length_le (by rw [List.length_map, HN.out]; exact Nat.le_refl _)] at this)
      have hdb : ¬ (k : Int) < (k : Int) := by omega
      go_wp2
      go_ret
      exact ⟨_, rfl, HF.out, HB.out⟩
end Go.Proofs.YtmnigdphikoljaaGreatDoor.et
namespace Go.Proofs.YtmnigdphikoljaaGreatDoor.et
open Go.ChangeShapes Go.WideShapes Go.ChangeAt Go.RowKit Go.Deep

theorem bare_op (nd : Int × Int) : (bareF nd).1 = nd.1 := by
  unfold bareF
  split <;> rfl
theorem bare_cases (nd : Int × Int) : bareF nd = nd ∨ (bareF nd = (nd.1, 0) ∧ (nd.1 = 5 ∨ 9 ≤ nd.1)) := by
  unfold bareF
  split
  · exact .inl rfl
  · rename_i h
    exact .inr ⟨rfl, by omega⟩
theorem nodeK_bare (S : Sc) (nd : Int × Int) (ps : List Int) : nodeK S (bareF nd) ps = nodeK S nd ps := by
  rcases bare_cases nd with h | ⟨h, hop⟩
  · rw [h]
  · rw [h]
    obtain ⟨op, n⟩ := nd
    unfold nodeK
    dsimp only at hop ⊢
    rw [if_neg (by omega), if_neg (by omega), if_neg (by omega), if_neg (by omega), if_neg (by omega : ¬ op = 1), if_neg (by omega : ¬ op = 2), if_neg (by omega : ¬ op = 3), if_neg (by omega : ¬ op = 4)]
    by_cases h5 : op = 5
    · rw [if_pos h5, if_pos h5]
    · rw [if_neg h5, if_neg h5, if_neg (by omega), if_neg (by omega), if_neg (by omega), if_neg (by omega), if_neg (by omega), if_neg (by omega)]
theorem runF_bare (S : Sc) (most : Int) : ∀ (e : List (Int × Int)) (k : Nat) (st : List Int), runF (fun _ => nodeK S) most k (e.map bareF) st = runF (fun _ => nodeK S) most k e st
  | [], _, _ => rfl
  | nd :: e, k, st => by
    rw [List.map_cons]
    unfold runF
    rw [bare_op]
    simp only [nodeK_bare, runF_bare S most e]
theorem kind_bare (S : Sc) (e : List (Int × Int)) : kindF S (e.map bareF) = kindF S e := by
  unfold kindF
  rw [List.length_map, runF_bare]
def bareX : Ex → Ex
  | .lf nd => .lf (bareF nd)
  | .un nd a => .un (bareF nd) (bareX a)
  | .bi nd a b => .bi (bareF nd) (bareX a) (bareX b)
theorem bareX_root : ∀ x : Ex, (bareX x).root = bareF x.root
  | .lf _ => rfl
  | .un _ _ => rfl
  | .bi _ _ _ => rfl
theorem bareX_flat : ∀ x : Ex, (bareX x).flat = x.flat.map bareF
  | .lf _ => rfl
  | .un nd a => by simp [bareX, Ex.flat, bareX_flat a]
  | .bi nd a b => by simp [bareX, Ex.flat, bareX_flat a, bareX_flat b]
theorem stepX_bare (st : List Ex) (nd : Int × Int) : stepX (st.map bareX) (bareF nd) = (stepX st nd).map bareX := by
  unfold stepX
  rw [bare_op]
  split
  · rfl
  · split
    · cases st <;> rfl
    · rcases st with _ | ⟨b, _ | ⟨a, r⟩⟩ <;> rfl
theorem fold_bare : ∀ (e : List (Int × Int)) (st : List Ex), (e.map bareF).foldl stepX (st.map bareX) = (e.foldl stepX st).map bareX
  | [], _ => rfl
  | nd :: e, st => by
    rw [List.map_cons, List.foldl_cons, List.foldl_cons, stepX_bare, fold_bare e]
theorem tree_bare (e : List (Int × Int)) : treeF (e.map bareF) = bareX (treeF e) := by
  unfold treeF
  have h := fold_bare e []
  rw [List.map_nil] at h
  rw [h]
  cases e.foldl stepX [] with
  | nil => rfl
  | cons x l => rfl
theorem nm_none {N : Nm} {op : Int} (h : op = 5 ∨ 9 ≤ op) : nmOf N op = none := by
  unfold nmOf
  rw [if_neg (by omega), if_neg (by omega), if_neg (by omega), if_neg (by omega), if_neg (by omega)]
theorem nameB_bare (N : Nm) (nd : Int × Int) : nameB N (bareF nd) = nameB N nd := by
  rcases bare_cases nd with h | ⟨h, hop⟩
  · rw [h]
  · rw [h]
    unfold nameB nameOf
    rw [nm_none hop]
    rfl
theorem tells_bare (N : Nm) (nd : Int × Int) : tellsB N (bareF nd) = tellsB N nd := by
  rcases bare_cases nd with h | ⟨h, hop⟩
  · rw [h]
  · rw [h]
    unfold tellsB
    rw [nm_none hop]
theorem lfT_bare (N : Nm) (nd : Int × Int) : lfT N (bareF nd) = lfT N nd := by
  rcases bare_cases nd with h | ⟨h, hop⟩
  · rw [h]
  · have hn := nameB_bare N nd
    rw [h] at hn ⊢
    unfold lfT
    dsimp only
    rw [if_neg (by omega), if_neg (by omega), if_neg (by omega : ¬ nd.1 = 1), if_neg (by omega : ¬ (nd.1 = 2 ∨ nd.1 = 4)), hn]
    by_cases h5 : nd.1 = 5
    · rw [if_pos h5, if_pos h5]
    · rw [if_neg h5, if_neg h5, if_neg (by omega), if_neg (by omega), if_neg (by omega), if_neg (by omega)]
theorem bndT_bare (nd : Int × Int) (least : Nat) (t : ByteArray) : bndT (bareF nd) least t = bndT nd least t := by
  unfold bndT
  rw [bare_op]
theorem unT_bare (N : Nm) (nd r : Int × Int) (t : ByteArray) : unT N (bareF nd) (bareF r) t = unT N nd r t := by
  unfold unT
  rw [bare_op, bare_op, nameB_bare, bndT_bare]
theorem biT_bare (nd ra rb : Int × Int) (ta tb : ByteArray) : biT (bareF nd) (bareF ra) (bareF rb) ta tb = biT nd ra rb ta tb := by
  unfold biT
  simp only [bare_op, bndT_bare]
theorem txt_bare (N : Nm) : ∀ x : Ex, txt N (bareX x) = txt N x
  | .lf nd => lfT_bare N nd
  | .un nd a => by
    unfold bareX txt
    rw [bareX_root, txt_bare N a, unT_bare]
  | .bi nd a b => by
    unfold bareX txt
    rw [bareX_root, bareX_root, txt_bare N a, txt_bare N b, biT_bare]
theorem text_bare (S : Sc) (N : Nm) (e : List (Int × Int)) : textF S N (e.map bareF) = textF S N e := by
  have ha : (e.map bareF).all (tellsB N) = e.all (tellsB N) := by
    rw [List.all_map]
    congr 1
    funext nd
    exact tells_bare N nd
  unfold textF
  rw [kind_bare, ha, tree_bare, txt_bare]
/-- Nodes that are the same when they are bare have the same text. -/
theorem text_same {S : Sc} {N : Nm} {a b : List (Int × Int)} (h : a.map bareF = b.map bareF) : textF S N a = textF S N b := by
  rw [← text_bare S N a, ← text_bare S N b, h]
end Go.Proofs.YtmnigdphikoljaaGreatDoor.et
namespace Go.Proofs.YtmnigdphikoljaaGreatDoor.et
open Go.ChangeShapes Go.WideShapes Go.ChangeAt Go.RowKit Go.Deep

theorem tell_find {N : Nm} {nd : Int × Int} {l : List ByteArray} (ht : There N nd) (hl : nmOf N nd.1 = some l) (h : tellsB N nd = true) : lx.nameB (nameB N nd) = true ∧ (∃ k : Nat, findF (nameB N nd) 0 l = some k ∧ (k : Int) = placeF nd) ∧ (nd.1 = 2 ∨ nd.1 = 3 → findF (nameB N nd) 0 N.locals = none) := by
  obtain ⟨h0, h9, hlt, hlen⟩ := ht l hl
  have hp := placeF_nat h0
  have hnm : nameB N nd = l.getD (placeF nd).toNat default := by
    unfold nameB nameOf
    rw [hl]
    rfl
  unfold tellsB at h
  rw [hl] at h
  dsimp only at h
  rw [← hnm] at h
  by_cases hv : (nd.1 = 2 ∨ nd.1 = 3) ∧ (findF (nameB N nd) 0 N.locals).isSome = true
  · rw [if_pos hv] at h
    cases h
  · rw [if_neg hv, Bool.and_eq_true] at h
    obtain ⟨g1, g2⟩ := h
    refine ⟨g1, ?_, fun hop => ?_⟩
    · have hin : nameB N nd ∈ l := by
        have e : l.getD (placeF nd).toNat default = l[(placeF nd).toNat] := by simp [List.getD, hlt]
        rw [hnm, e]
        exact List.getElem_mem hlt
      cases hf : findF (nameB N nd) 0 l with
      | none => have := find_none hf _ hin; simp at this
      | some k =>
        rw [hf] at g2
        exact ⟨k, rfl, by simpa using g2⟩
    · cases hf : findF (nameB N nd) 0 N.locals with
      | none => rfl
      | some k => exact absurd ⟨hop, by rw [hf]; rfl⟩ hv
theorem kind_no {t : lx.Tok} {s : ByteArray} (h : t.kind ≠ 3) : sgB t s = false := by
  unfold sgB
  rw [decide_eq_false h]
  rfl
theorem fol_none {s : ByteArray} {R : List lx.Tok} {pl y : Int} (h : ∀ t r, R = t :: r → sgB t s = false) : folF s ⟨R, pl, y⟩ = (false, ⟨R, pl, y⟩) := by
  cases R with
  | nil => rfl
  | cons t r => exact fol_no (h t r rfl)
theorem fol_yes {s : ByteArray} {t : lx.Tok} {R : List lx.Tok} {pl y : Int} (hk : t.kind = 3) (ht : t.text = s) : folF s ⟨t :: R, pl, y⟩ = (true, ⟨R, pl, y⟩) := by
  show (if sgB t s then (true, (⟨R, pl, y⟩ : St)) else (false, ⟨t :: R, pl, y⟩)) = _
  rw [sgB_yes hk ht]
  rfl
theorem tig_word {N : Nm} {en f : Nat} {t : lx.Tok} {R : List lx.Tok} {pl y : Int} (hk : t.kind = 1) : tigF N en (f + 1) ⟨t :: R, pl, y⟩ = wordF N en (levF (tigF N en f) 5) t ⟨R, pl, y⟩ := by
  rw [tig_sin (kind_no (by rw [hk]; decide)) (kind_no (by rw [hk]; decide))]
  unfold sinF
  rw [show takeF en ⟨t :: R, pl, y⟩ = (t, ⟨R, pl, y⟩) from rfl]
  dsimp only
  rw [if_neg (by rw [hk]; decide), if_pos hk]
theorem Rds.numP {N : Nm} {en : Nat} {t : lx.Tok} (hk : t.kind = 2) : Rds N en 0 [(1, t.num)] [t] := fun f R pl hf _ => by
  obtain ⟨f, rfl⟩ : ∃ g, f = g + 1 := ⟨f - 1, by simp at hf; omega⟩
  show tigF N en (f + 1) ⟨t :: R, pl, 0⟩ = _
  rw [tig_sin (kind_no (by rw [hk]; decide)) (kind_no (by rw [hk]; decide))]
  unfold sinF
  rw [show takeF en ⟨t :: R, pl, 0⟩ = (t, ⟨R, pl, 0⟩) from rfl]
  dsimp only
  rw [if_pos hk]
theorem Rds.numM {N : Nm} {en : Nat} {s t : lx.Tok} (hs : s.kind = 3) (hs2 : s.text = ⟨#[45]⟩) (hk : t.kind = 2) : Rds N en 0 [(1, -t.num)] [s, t] := fun f R pl hf _ => by
  obtain ⟨f, rfl⟩ : ∃ g, f = g + 1 := ⟨f - 1, by simp at hf; omega⟩
  show tigB N en _ _ ⟨s :: t :: R, pl, 0⟩ = _
  unfold tigB
  rw [fol_no (sgB_no hs2 (by decide +kernel))]
  dsimp only
  rw [if_neg (by decide), fol_yes hs hs2]
  dsimp only
  rw [if_pos rfl, if_pos (by simp [hk])]
  unfold numF
  rw [show takeF en ⟨t :: R, pl, 0⟩ = (t, ⟨R, pl, 0⟩) from rfl]
  dsimp only
  rw [if_pos hk]
theorem kw_lists : (⟨#[115, 101, 108, 102]⟩ : ByteArray).toList = [115, 101, 108, 102] ∧ (⟨#[108, 101, 110]⟩ : ByteArray).toList = [108, 101, 110] ∧ (⟨#[110, 111, 110, 101]⟩ : ByteArray).toList = [110, 111, 110, 101] ∧ (⟨#[97, 116]⟩ : ByteArray).toList = [97, 116] := by decide +kernel
theorem word_name {N : Nm} {en : Nat} {ex : St → Rd} {t : lx.Tok} {st : St} (h : lx.nameB t.text = true) : wordF N en ex t st = match findF t.text 0 N.locals with
    | some k => ([(4, (k : Int))], st)
    | none => match findF t.text 0 N.vars with
      | none => ([], st.fail t.pos 8)
      | some k => if (folF ⟨#[91]⟩ st).1 then ((ex (folF ⟨#[91]⟩ st).2).1 ++ [(3, (k : Int))], sgF en ⟨#[93]⟩ (ex (folF ⟨#[91]⟩ st).2).2) else ([(2, (k : Int))], (folF ⟨#[91]⟩ st).2) := by
  obtain ⟨k1, k2, k3, k4⟩ := name_kw h
  obtain ⟨e1, e2, e3, e4⟩ := kw_lists
  unfold wordF
  rw [e1, e2, e3, e4, k1, k2, k3, k4]
  rfl
theorem Rds.loc {N : Nm} {en : Nat} {t : lx.Tok} {k : Nat} (hk : t.kind = 1) (h : lx.nameB t.text = true) (hf : findF t.text 0 N.locals = some k) : Rds N en 0 [(4, (k : Int))] [t] := fun f R pl hf2 _ => by
  obtain ⟨f, rfl⟩ : ∃ g, f = g + 1 := ⟨f - 1, by simp at hf2; omega⟩
  show tigF N en (f + 1) ⟨t :: R, pl, 0⟩ = _
  rw [tig_word hk, word_name h, hf]
theorem Rds.var {N : Nm} {en : Nat} {t : lx.Tok} {k : Nat} (hk : t.kind = 1) (h : lx.nameB t.text = true) (hl : findF t.text 0 N.locals = none) (hf : findF t.text 0 N.vars = some k) : Rds N en 0 [(2, (k : Int))] [t] := fun f R pl hf2 hR => by
  obtain ⟨f, rfl⟩ : ∃ g, f = g + 1 := ⟨f - 1, by simp at hf2; omega⟩
  show tigF N en (f + 1) ⟨t :: R, pl, 0⟩ = _
  rw [tig_word hk, word_name h, hl, hf]
  dsimp only
  rw [fol_none (fun u r e => (hR u r e).2)]
  rfl
theorem Rds.item {N : Nm} {en : Nat} {t a b : lx.Tok} {k : Nat} {E : List (Int × Int)} {T : List lx.Tok} (hk : t.kind = 1) (h : lx.nameB t.text = true) (hl : findF t.text 0 N.locals = none) (hf : findF t.text 0 N.vars = some k) (ha : a.kind = 3) (ha2 : a.text = ⟨#[91]⟩) (hb : b.kind = 3) (hb2 : b.text = ⟨#[93]⟩) (hT : Rds N en 5 E T) : Rds N en 0 (E ++ [(3, (k : Int))]) (t :: a :: (T ++ [b])) := fun f R pl hf2 hR => by
  obtain ⟨f, rfl⟩ : ∃ g, f = g + 1 := ⟨f - 1, by simp at hf2; omega⟩
  have e : (t :: a :: (T ++ [b])) ++ R = t :: a :: (T ++ (b :: R)) := by simp
  rw [e]
  show tigF N en (f + 1) ⟨t :: a :: (T ++ (b :: R)), pl, 0⟩ = _
  rw [tig_word hk, word_name h, hl, hf]
  dsimp only
  rw [fol_yes ha ha2]
  dsimp only
  rw [if_pos rfl, hT f (b :: R) pl (by simp at hf2 ⊢; omega) (Hd.close (.inr hb2))]
  dsimp only
  rw [sg_yes hb hb2]
theorem Rds.slf {N : Nm} {en : Nat} {t : lx.Tok} (hk : t.kind = 1) (ht : t.text = ⟨#[115, 101, 108, 102]⟩) : Rds N en 0 [(5, 0)] [t] := fun f R pl hf2 _ => by
  obtain ⟨f, rfl⟩ : ∃ g, f = g + 1 := ⟨f - 1, by simp at hf2; omega⟩
  show tigF N en (f + 1) ⟨t :: R, pl, 0⟩ = _
  rw [tig_word hk]
  unfold wordF
  rw [ht, if_pos (by decide +kernel)]
theorem nm_yes {N : Nm} {en : Nat} {op : Int} {w : lx.Tok} {R : List lx.Tok} {pl : Int} {l : List ByteArray} {k : Nat} (hw : w.kind = 1) (hl : nmOf N op = some l) (hf : findF w.text 0 l = some k) : nmF N en op ⟨w :: R, pl, 0⟩ = (k, ⟨R, pl, 0⟩) := by
  unfold nmF
  rw [show takeF en ⟨w :: R, pl, 0⟩ = (w, ⟨R, pl, 0⟩) from rfl]
  dsimp only
  rw [hl, if_pos hw]
  simp [hf]
theorem nam_yes {N : Nm} {en : Nat} {op : Int} {a w b : lx.Tok} {R : List lx.Tok} {pl : Int} {l : List ByteArray} {k : Nat} (ha : a.kind = 3) (ha2 : a.text = ⟨#[40]⟩) (hw : w.kind = 1) (hl : nmOf N op = some l) (hf : findF w.text 0 l = some k) (hb : b.kind = 3) (hb2 : b.text = ⟨#[41]⟩) : namF N en op ⟨a :: w :: b :: R, pl, 0⟩ = ([(op, (k : Int))], ⟨R, pl, 0⟩) := by
  unfold namF
  rw [sg_yes ha ha2, nm_yes hw hl hf]
  dsimp only
  rw [sg_yes hb hb2]
theorem Rds.ln {N : Nm} {en : Nat} {t a w b : lx.Tok} {k : Nat} (hk : t.kind = 1) (ht : t.text = ⟨#[108, 101, 110]⟩) (ha : a.kind = 3) (ha2 : a.text = ⟨#[40]⟩) (hw : w.kind = 1) (hf : findF w.text 0 N.chans = some k) (hb : b.kind = 3) (hb2 : b.text = ⟨#[41]⟩) : Rds N en 0 [(6, (k : Int))] [t, a, w, b] := fun f R pl hf2 _ => by
  obtain ⟨f, rfl⟩ : ∃ g, f = g + 1 := ⟨f - 1, by simp at hf2; omega⟩
  show tigF N en (f + 1) ⟨t :: a :: w :: b :: R, pl, 0⟩ = _
  rw [tig_word hk]
  unfold wordF
  rw [ht, if_neg (by decide +kernel), if_pos (by decide +kernel)]
  exact nam_yes ha ha2 hw rfl hf hb hb2
theorem Rds.non {N : Nm} {en : Nat} {t a w b : lx.Tok} {k : Nat} (hk : t.kind = 1) (ht : t.text = ⟨#[110, 111, 110, 101]⟩) (ha : a.kind = 3) (ha2 : a.text = ⟨#[40]⟩) (hw : w.kind = 1) (hf : findF w.text 0 N.scals = some k) (hb : b.kind = 3) (hb2 : b.text = ⟨#[41]⟩) : Rds N en 0 [(8, (k : Int))] [t, a, w, b] := fun f R pl hf2 _ => by
  obtain ⟨f, rfl⟩ : ∃ g, f = g + 1 := ⟨f - 1, by simp at hf2; omega⟩
  show tigF N en (f + 1) ⟨t :: a :: w :: b :: R, pl, 0⟩ = _
  rw [tig_word hk]
  unfold wordF
  rw [ht, if_neg (by decide +kernel), if_neg (by decide +kernel), if_pos (by decide +kernel)]
  exact nam_yes ha ha2 hw rfl hf hb hb2
theorem Rds.at {N : Nm} {en : Nat} {t a w c q b : lx.Tok} {k : Nat} (hk : t.kind = 1) (ht : t.text = ⟨#[97, 116]⟩) (ha : a.kind = 3) (ha2 : a.text = ⟨#[40]⟩) (hw : w.kind = 1) (hf : findF w.text 0 N.procs = some k) (hc : c.kind = 3) (hc2 : c.text = ⟨#[44]⟩) (hq : q.kind = 2) (hq2 : q.num < 16) (hb : b.kind = 3) (hb2 : b.text = ⟨#[41]⟩) : Rds N en 0 [(7, (k : Int) * 16 + q.num)] [t, a, w, c, q, b] := fun f R pl hf2 _ => by
  obtain ⟨f, rfl⟩ : ∃ g, f = g + 1 := ⟨f - 1, by simp at hf2; omega⟩
  show tigF N en (f + 1) ⟨t :: a :: w :: c :: q :: b :: R, pl, 0⟩ = _
  rw [tig_word hk]
  unfold wordF
  rw [ht, if_neg (by decide +kernel), if_neg (by decide +kernel), if_neg (by decide +kernel), if_pos (by decide +kernel)]
  unfold locF
  rw [sg_yes ha ha2, nm_yes (op := 7) hw rfl hf]
  dsimp only
  rw [sg_yes hc hc2]
  have e : numF en ⟨q :: b :: R, pl, 0⟩ = (q, ⟨b :: R, pl, 0⟩) := by
    unfold numF
    rw [show takeF en ⟨q :: b :: R, pl, 0⟩ = (q, ⟨b :: R, pl, 0⟩) from rfl]
    dsimp only
    rw [if_pos hq]
  rw [e]
  dsimp only
  rw [if_neg (by omega), sg_yes hb hb2]
end Go.Proofs.YtmnigdphikoljaaGreatDoor.et
namespace Go.Proofs.YtmnigdphikoljaaGreatDoor.et
open Go.ChangeShapes Go.WideShapes Go.ChangeAt Go.RowKit Go.Deep

theorem Rds.nt {N : Nm} {en : Nat} {E : List (Int × Int)} {s : lx.Tok} {T : List lx.Tok} (hs : s.kind = 3) (hs2 : s.text = ⟨#[33]⟩) (h : Rds N en 0 E T) : Rds N en 0 (E ++ [(9, 0)]) (s :: T) := fun f R pl hf hR => by
  obtain ⟨f, rfl⟩ : ∃ g, f = g + 1 := ⟨f - 1, by simp at hf; omega⟩
  have e : tigF N en f ⟨T ++ R, pl, 0⟩ = (E, ⟨R, pl, 0⟩) := h f R pl (by simp at hf; omega) hR
  show tigB N en _ _ ⟨s :: (T ++ R), pl, 0⟩ = _
  unfold tigB
  rw [fol_yes hs hs2]
  dsimp only
  rw [if_pos rfl, e]
theorem Rds.ng {N : Nm} {en : Nat} {E : List (Int × Int)} {s t : lx.Tok} {T : List lx.Tok} (hs : s.kind = 3) (hs2 : s.text = ⟨#[45]⟩) (ht : t.kind ≠ 2) (h : Rds N en 0 E (t :: T)) : Rds N en 0 (E ++ [(10, 0)]) (s :: t :: T) := fun f R pl hf hR => by
  obtain ⟨f, rfl⟩ : ∃ g, f = g + 1 := ⟨f - 1, by simp at hf; omega⟩
  have e : tigF N en f ⟨t :: (T ++ R), pl, 0⟩ = (E, ⟨R, pl, 0⟩) := h f R pl (by simp at hf ⊢; omega) hR
  show tigB N en _ _ ⟨s :: t :: (T ++ R), pl, 0⟩ = _
  unfold tigB
  rw [fol_no (sgB_no hs2 (by decide +kernel))]
  dsimp only
  rw [if_neg (by decide), fol_yes hs hs2]
  dsimp only
  rw [if_pos rfl, if_neg (by simp [ht]), e]
theorem same_cons {x : lx.Tok} {l T : List lx.Tok} (h : lx.SameT (x :: l) T) : ∃ y r, T = y :: r ∧ y.kind = x.kind ∧ y.num = x.num ∧ y.text = x.text ∧ lx.SameT l r := by
  cases h with
  | cons h1 h2 h3 h => exact ⟨_, _, rfl, h1.symm, h2.symm, h3.symm, h⟩
theorem same_nil {T : List lx.Tok} (h : lx.SameT [] T) : T = [] := by
  cases h
  rfl
theorem same_app : ∀ {l1 l2 T : List lx.Tok}, lx.SameT (l1 ++ l2) T → ∃ T1 T2, T = T1 ++ T2 ∧ lx.SameT l1 T1 ∧ lx.SameT l2 T2
  | [], l2, T, h => ⟨[], T, rfl, .nil, h⟩
  | x :: l1, l2, T, h => by
    cases h with
    | cons h1 h2 h3 h =>
      obtain ⟨T1, T2, rfl, g1, g2⟩ := same_app h
      exact ⟨_ :: T1, T2, rfl, .cons h1 h2 h3 g1, g2⟩
/-- Tokens like those of l, wherever they stand, are read as E. -/
def RdL (N : Nm) (en lv : Nat) (E : List (Int × Int)) (l : List (Option lx.Tok)) : Prop := ∀ T, lx.SameT (lx.laid l) T → Rds N en lv E T
theorem RdL.ups {N : Nm} {en lv lw : Nat} {E : List (Int × Int)} {l : List (Option lx.Tok)} (h : RdL N en lv E l) (h1 : lv ≤ lw) (h2 : lw ≤ 5) : RdL N en lw E l := fun T hT => (h T hT).ups h1 h2
theorem RdL.br {N : Nm} {en : Nat} {E : List (Int × Int)} {l : List (Option lx.Tok)} (h : RdL N en 5 E l) : RdL N en 0 E (brL l) := fun T hT => by
  have e : lx.laid (brL l) = ⟨3, 0, 0, ⟨#[40]⟩⟩ :: (lx.laid l ++ [⟨3, 0, 0, ⟨#[41]⟩⟩]) := by
    unfold brL sT
    rw [lx.laid, lx.laid_app]
    rfl
  rw [e] at hT
  obtain ⟨a, T2, rfl, a1, _, a3, h2⟩ := same_cons hT
  obtain ⟨T1, T3, rfl, g1, g2⟩ := same_app h2
  obtain ⟨b, T4, rfl, b1, _, b3, h4⟩ := same_cons g2
  obtain rfl := same_nil h4
  exact (h T1 g1).br a1 a3 b1 b3
/-- What is said of a tree: the level that reads it; the row that goes on behind it. -/
def RdX (N : Nm) (en : Nat) (x : Ex) : Prop := match pOf x.root.1 with
  | none => RdL N en 0 (x.flat.map bareF) (toks N x)
  | some p => RdL N en (6 - p.2.1) (x.flat.map bareF) (toks N x) ∧ (p.2.1 ≠ 3 → ∀ T, lx.SameT (lx.laid (toks N x)) T → RowC N en p.2.1 (x.flat.map bareF) T)
theorem RdX.all {N : Nm} {en : Nat} {x : Ex} (h : RdX N en x) : RdL N en 5 (x.flat.map bareF) (toks N x) := by
  unfold RdX at h
  cases hp : pOf x.root.1 with
  | none =>
    rw [hp] at h
    exact RdL.ups h (by omega) (by omega)
  | some p =>
    rw [hp] at h
    have := (st_pair (n := 0) hp).2.2.2.1
    exact RdL.ups h.1 (by omega) (by omega)
theorem RdX.bnd {N : Nm} {en : Nat} {x : Ex} (h : RdX N en x) {least : Nat} (h1 : 1 ≤ least) (h6 : least ≤ 6) : RdL N en (6 - least) (x.flat.map bareF) (bndL x.root least (toks N x)) := by
  have ha := h.all
  unfold RdX at h
  unfold bndL
  cases hp : pOf x.root.1 with
  | none =>
    rw [hp] at h
    exact RdL.ups h (by omega) (by omega)
  | some p =>
    rw [hp] at h
    dsimp only
    split
    · exact ha.br.ups (by omega) (by omega)
    · exact h.1.ups (by omega) (by omega)
theorem RdX.row {N : Nm} {en : Nat} {x : Ex} (h : RdX N en x) {k : Nat} (h1 : 1 ≤ k) (h5 : k ≤ 5) (h3 : k ≠ 3) : ∀ T, lx.SameT (lx.laid (bndL x.root k (toks N x))) T → RowC N en k (x.flat.map bareF) T := fun T hT => by
  have ha := h.all
  unfold RdX at h
  unfold bndL at hT
  cases hp : pOf x.root.1 with
  | none =>
    rw [hp] at h hT
    exact ((RdL.ups h (by omega) (by omega) : RdL N en (5 - k) _ _) T hT).row h5
  | some p =>
    rw [hp] at h hT
    dsimp only at hT
    split at hT
    · exact ((ha.br.ups (by omega) (by omega) : RdL N en (5 - k) _ _) T hT).row h5
    · by_cases e : p.2.1 = k
      · subst e
        exact h.2 h3 T hT
      · exact ((h.1.ups (by omega) (by omega) : RdL N en (5 - k) _ _) T hT).row h5
end Go.Proofs.YtmnigdphikoljaaGreatDoor.et
namespace Go.Proofs.YtmnigdphikoljaaGreatDoor.et
open Go.ChangeShapes Go.WideShapes Go.ChangeAt Go.RowKit Go.Deep

theorem same_one {x : lx.Tok} {T : List lx.Tok} (h : lx.SameT [x] T) : ∃ y, T = [y] ∧ y.kind = x.kind ∧ y.num = x.num ∧ y.text = x.text := by
  obtain ⟨y, r, rfl, h1, h2, h3, h4⟩ := same_cons h
  obtain rfl := same_nil h4
  exact ⟨y, rfl, h1, h2, h3⟩
theorem numL_rd {N : Nm} {en : Nat} (n : Int) : RdL N en 0 [(1, n)] (numL n) := fun T hT => by
  unfold numL at hT
  split at hT
  · obtain ⟨s, r, rfl, s1, _, s3, h2⟩ := same_cons hT
    obtain ⟨t, rfl, t1, t2, _⟩ := same_one h2
    have e := Rds.numM (N := N) (en := en) s1 s3 t1
    rw [t2] at e
    rwa [show (-(-n) : Int) = n by omega] at e
  · obtain ⟨t, rfl, t1, t2, _⟩ := same_one hT
    have e := Rds.numP (N := N) (en := en) t1
    rw [t2] at e
    exact e
theorem call_same {s : ByteArray} {l : List (Option lx.Tok)} {T : List lx.Tok} (h : lx.SameT (lx.laid (wT s :: brL l)) T) : ∃ t a T1 b, T = t :: a :: (T1 ++ [b]) ∧ t.kind = 1 ∧ t.text = s ∧ a.kind = 3 ∧ a.text = ⟨#[40]⟩ ∧ lx.SameT (lx.laid l) T1 ∧ b.kind = 3 ∧ b.text = ⟨#[41]⟩ := by
  have e : lx.laid (wT s :: brL l) = ⟨1, 0, 0, s⟩ :: ⟨3, 0, 0, ⟨#[40]⟩⟩ :: (lx.laid l ++ [⟨3, 0, 0, ⟨#[41]⟩⟩]) := by
    unfold brL sT wT
    rw [lx.laid, lx.laid, lx.laid_app]
    rfl
  rw [e] at h
  obtain ⟨t, r, rfl, t1, _, t3, h2⟩ := same_cons h
  obtain ⟨a, r, rfl, a1, _, a3, h3⟩ := same_cons h2
  obtain ⟨T1, T2, rfl, g1, g2⟩ := same_app h3
  obtain ⟨b, rfl, b1, _, b3⟩ := same_one g2
  exact ⟨t, a, T1, b, rfl, t1, t3, a1, a3, g1, b1, b3⟩
theorem lf_rd {N : Nm} {en : Nat} {nd : Int × Int} (hf : takesZ nd.1 = 0) (ht : There N nd) (hb : tellsB N nd = true) : RdL N en 0 [bareF nd] (lfL N nd) := by
  obtain ⟨op, n⟩ := nd
  have htf := fun l (hl : nmOf N op = some l) => tell_find ht hl hb
  have hth := fun l (hl : nmOf N op = some l) => ht l hl
  rcases leafs hf with h | h | h | h | h | h | h <;> dsimp only at h <;> subst h
  · exact numL_rd n
  · obtain ⟨g1, ⟨k, g2, g3⟩, g4⟩ := htf _ rfl
    intro T hT
    obtain ⟨t, rfl, t1, _, t3⟩ := same_one hT
    have e := Rds.var (N := N) (en := en) (k := k) t1 (by rw [t3]; exact g1) (by rw [t3]; exact g4 (.inl rfl)) (by rw [t3]; exact g2)
    rw [g3] at e
    exact e
  · obtain ⟨g1, ⟨k, g2, g3⟩, _⟩ := htf _ rfl
    intro T hT
    obtain ⟨t, rfl, t1, _, t3⟩ := same_one hT
    have e := Rds.loc (N := N) (en := en) (k := k) t1 (by rw [t3]; exact g1) (by rw [t3]; exact g2)
    rw [g3] at e
    exact e
  · intro T hT
    obtain ⟨t, rfl, t1, _, t3⟩ := same_one hT
    exact Rds.slf t1 t3
  · obtain ⟨g1, ⟨k, g2, g3⟩, _⟩ := htf _ rfl
    intro T hT
    obtain ⟨t, a, T1, b, rfl, t1, t2, a1, a2, h1, b1, b2⟩ := call_same hT
    obtain ⟨w, rfl, w1, _, w3⟩ := same_one h1
    have e := Rds.ln (N := N) (en := en) (k := k) t1 t2 a1 a2 w1 (by rw [w3]; exact g2) b1 b2
    rw [g3] at e
    exact e
  · obtain ⟨g1, ⟨k, g2, g3⟩, _⟩ := htf _ rfl
    obtain ⟨h0, _⟩ := hth _ rfl
    dsimp only at h0
    intro T hT
    obtain ⟨t, a, T1, b, rfl, t1, t2, a1, a2, h1, b1, b2⟩ := call_same hT
    obtain ⟨w, r, rfl, w1, _, w3, h2⟩ := same_cons h1
    obtain ⟨c, r, rfl, c1, _, c3, h3⟩ := same_cons h2
    obtain ⟨q, rfl, q1, q2, _⟩ := same_one h3
    have e := Rds.at (N := N) (en := en) (k := k) t1 t2 a1 a2 w1 (by rw [w3]; exact g2) c1 c3 q1 (by rw [q2]; exact Int.emod_lt_of_pos _ (by decide)) b1 b2
    rw [q2, g3] at e
    have e2 : placeF (7, n) * 16 + n % 16 = n := by
      show n / 16 * 16 + n % 16 = n
      omega
    rw [e2] at e
    exact e
  · obtain ⟨g1, ⟨k, g2, g3⟩, _⟩ := htf _ rfl
    intro T hT
    obtain ⟨t, a, T1, b, rfl, t1, t2, a1, a2, h1, b1, b2⟩ := call_same hT
    obtain ⟨w, rfl, w1, _, w3⟩ := same_one h1
    have e := Rds.non (N := N) (en := en) (k := k) t1 t2 a1 a2 w1 (by rw [w3]; exact g2) b1 b2
    rw [g3] at e
    exact e
/-- What is no number does not begin with one. -/
theorem head_ne {N : Nm} : ∀ {x : Ex}, Fits x → x.root.1 ≠ 1 → ∃ t r, lx.laid (bndL x.root 6 (toks N x)) = t :: r ∧ t.kind ≠ 2
  | .lf (op, n), hf, h1 => by
    have hp : pOf op = none := pOf_none (by rcases leafs hf with h | h | h | h | h | h | h <;> dsimp only at h <;> omega)
    unfold bndL toks
    dsimp only [Ex.root]
    rw [hp]
    dsimp only
    rcases leafs hf with h | h | h | h | h | h | h <;> dsimp only at h <;> subst h
    · exact absurd rfl h1
    all_goals exact ⟨_, _, rfl, by first | decide | (show (1 : Nat) ≠ 2; decide) | (show (3 : Nat) ≠ 2; decide)⟩
  | .un (op, n) a, hf, _ => by
    have hp : pOf op = none := pOf_none (by rcases uns hf.1 with h | h | h <;> dsimp only at h <;> omega)
    unfold bndL toks
    dsimp only [Ex.root]
    rw [hp]
    dsimp only
    rcases uns hf.1 with h | h | h <;> dsimp only at h <;> subst h
    all_goals exact ⟨_, _, rfl, by first | decide | (show (1 : Nat) ≠ 2; decide) | (show (3 : Nat) ≠ 2; decide)⟩
  | .bi nd a b, hf, _ => by
    obtain ⟨p, hp⟩ := pOf_some hf.1
    have := (st_pair (n := 0) hp).2.2.1
    unfold bndL
    dsimp only [Ex.root]
    rw [hp]
    dsimp only
    rw [if_pos (by omega)]
    exact ⟨_, _, rfl, by decide⟩
theorem rdx {N : Nm} {en : Nat} : ∀ {x : Ex}, Fits x → (∀ nd ∈ x.flat, There N nd ∧ tellsB N nd = true) → RdX N en x
  | .lf (op, n), hf, hg => by
    have hp : pOf op = none := pOf_none (by rcases leafs hf with h | h | h | h | h | h | h <;> dsimp only at h <;> omega)
    obtain ⟨g1, g2⟩ := hg (op, n) (by simp [Ex.flat])
    unfold RdX
    dsimp only [Ex.root]
    rw [hp]
    exact lf_rd hf g1 g2
  | .un (op, n) a, hf, hg => by
    have hp : pOf op = none := pOf_none (by rcases uns hf.1 with h | h | h <;> dsimp only at h <;> omega)
    obtain ⟨g1, g2⟩ := hg (op, n) (by simp [Ex.flat])
    have ha := rdx (en := en) hf.2 (fun y hy => hg y (by simp only [Ex.flat, List.mem_append]; exact .inl hy))
    unfold RdX
    dsimp only [Ex.root]
    rw [hp]
    dsimp only
    rw [show (Ex.un (op, n) a).flat.map bareF = a.flat.map bareF ++ [bareF (op, n)] by simp [Ex.flat]]
    rcases uns hf.1 with h | h | h <;> dsimp only at h <;> subst h
    · obtain ⟨k1, ⟨k, k2, k3⟩, k4⟩ := tell_find g1 (l := N.vars) rfl g2
      intro T hT
      have e : lx.laid (toks N (.un (3, n) a)) = ⟨1, 0, 0, nameB N (3, n)⟩ :: ⟨3, 0, 0, ⟨#[91]⟩⟩ :: (lx.laid (toks N a) ++ [⟨3, 0, 0, ⟨#[93]⟩⟩]) := by
        show lx.laid (wT (nameB N (3, n)) :: sT ⟨#[91]⟩ :: (toks N a ++ [sT ⟨#[93]⟩])) = _
        unfold wT sT
        rw [lx.laid, lx.laid, lx.laid_app]
        rfl
      rw [e] at hT
      obtain ⟨t, r, rfl, t1, _, t3, h2⟩ := same_cons hT
      obtain ⟨b, r, rfl, b1, _, b3, h3⟩ := same_cons h2
      obtain ⟨T1, T2, rfl, h4, h5⟩ := same_app h3
      obtain ⟨c, rfl, c1, _, c3⟩ := same_one h5
      have e := Rds.item (N := N) (en := en) (k := k) t1 (by rw [t3]; exact k1) (by rw [t3]; exact k4 (.inr rfl)) (by rw [t3]; exact k2) b1 b3 c1 c3 (ha.all T1 h4)
      rw [k3] at e
      exact e
    · intro T hT
      have e : lx.laid (toks N (.un (9, n) a)) = ⟨3, 0, 0, ⟨#[33]⟩⟩ :: lx.laid (bndL a.root 6 (toks N a)) := rfl
      rw [e] at hT
      obtain ⟨s, T1, rfl, s1, _, s3, h2⟩ := same_cons hT
      exact Rds.nt s1 s3 (ha.bnd (by decide) (Nat.le_refl 6) T1 h2)
    · intro T hT
      have e : lx.laid (toks N (.un (10, n) a)) = ⟨3, 0, 0, ⟨#[45]⟩⟩ :: lx.laid (if a.root.1 = 1 then brL (toks N a) else bndL a.root 6 (toks N a)) := rfl
      rw [e] at hT
      obtain ⟨s, T1, rfl, s1, _, s3, h2⟩ := same_cons hT
      by_cases h1 : a.root.1 = 1
      · rw [if_pos h1] at h2
        have hr := ha.all.br T1 h2
        obtain ⟨t, r, rfl, t1, _⟩ := same_cons (x := ⟨3, 0, 0, ⟨#[40]⟩⟩) (l := lx.laid (toks N a ++ [sT ⟨#[41]⟩])) h2
        exact Rds.ng s1 s3 (by rw [t1]; decide) hr
      · rw [if_neg h1] at h2
        have hr := ha.bnd (by decide) (Nat.le_refl 6) T1 h2
        obtain ⟨u, v, hu, hk⟩ := head_ne (N := N) hf.2 h1
        rw [hu] at h2
        obtain ⟨t, r, rfl, t1, _⟩ := same_cons h2
        exact Rds.ng s1 s3 (by rw [t1]; exact hk) hr
  | .bi (op, n) a b, hf, hg => by
    obtain ⟨p, hp⟩ := pOf_some hf.1
    have hp : pOf op = some p := hp
    obtain ⟨_, _, h5, h1, _⟩ := st_pair (n := 0) hp
    have ha := rdx (en := en) hf.2.1 (fun y hy => hg y (by simp only [Ex.flat, List.mem_append]; exact .inl (.inl hy)))
    have hb := rdx (en := en) hf.2.2 (fun y hy => hg y (by simp only [Ex.flat, List.mem_append]; exact .inl (.inr hy)))
    have hop : 11 ≤ op := by
      by_cases ho : 11 ≤ op ∧ op ≤ 19
      · exact ho.1
      · rw [pOf_none ho] at hp
        cases hp
    have hE : (Ex.bi (op, n) a b).flat.map bareF = a.flat.map bareF ++ b.flat.map bareF ++ [(op, 0)] := by
      have hbf : bareF (op, n) = (op, 0) := if_neg (by dsimp only; omega)
      simp [Ex.flat, hbf]
    have e : toks N (.bi (op, n) a b) = bndL a.root (if p.2.1 = 3 then 4 else p.2.1) (toks N a) ++ (none :: sT p.2.2.1 :: none :: bndL b.root (p.2.1 + 1) (toks N b)) := by
      show biL (op, n) a.root b.root (toks N a) (toks N b) = _
      unfold biL
      dsimp only
      rw [hp]
    have hsplit : ∀ T, lx.SameT (lx.laid (toks N (.bi (op, n) a b))) T → ∃ Ta s Tb, T = Ta ++ s :: Tb ∧ lx.SameT (lx.laid (bndL a.root (if p.2.1 = 3 then 4 else p.2.1) (toks N a))) Ta ∧ SgT s p.2.1 op ∧ lx.SameT (lx.laid (bndL b.root (p.2.1 + 1) (toks N b))) Tb := fun T hT => by
      rw [e, lx.laid_app] at hT
      obtain ⟨Ta, T2, rfl, g1, g2⟩ := same_app hT
      obtain ⟨s, Tb, rfl, s1, _, s3, g3⟩ := same_cons (x := ⟨3, 0, 0, p.2.2.1⟩) (l := lx.laid (bndL b.root (p.2.1 + 1) (toks N b))) g2
      exact ⟨Ta, s, Tb, rfl, g1, sg_of hp s1 s3, g3⟩
    unfold RdX
    dsimp only [Ex.root]
    rw [hp]
    dsimp only
    rw [hE]
    by_cases h3 : p.2.1 = 3
    · refine ⟨fun T hT => ?_, fun h => absurd h3 h⟩
      obtain ⟨Ta, s, Tb, rfl, g1, g2, g3⟩ := hsplit T hT
      rw [if_pos h3] at g1
      rw [h3] at g2 g3 ⊢
      exact Rds.bin3 (ha.bnd (by decide) (by decide) Ta g1) (hb.bnd (by decide) (by decide) Tb g3) g2
    · have hrow : ∀ T, lx.SameT (lx.laid (toks N (.bi (op, n) a b))) T → RowC N en p.2.1 (a.flat.map bareF ++ b.flat.map bareF ++ [(op, 0)]) T := fun T hT => by
        obtain ⟨Ta, s, Tb, rfl, g1, g2, g3⟩ := hsplit T hT
        rw [if_neg h3] at g1
        have hbb := hb.bnd (least := p.2.1 + 1) (by omega) (by omega) Tb g3
        rw [show 6 - (p.2.1 + 1) = 5 - p.2.1 by omega] at hbb
        exact RowC.bin (ha.row h1 h5 h3 Ta g1) hbb g2 h3 h5
      exact ⟨fun T hT => (hrow T hT).rds h1 h5, fun _ => hrow⟩
end Go.Proofs.YtmnigdphikoljaaGreatDoor.et
