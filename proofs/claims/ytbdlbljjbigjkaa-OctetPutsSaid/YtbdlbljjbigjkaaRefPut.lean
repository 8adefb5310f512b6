/- The document's Num, List, Text: what they lay. -/
import Derived.Test.YtbdlbljjbigjkaaPut
import Derived.Laws.IdiomStrings
namespace Go.Proofs.Ytbdlbljjbigjkaa
open Go.ChangeShapes Go.WideShapes Go.ChangeAt Go.RowKit

theorem OB.kept {base : Nat} {w w' : World} {v : Value} {l : List Int} (h : OB base w v l) (hb : Below w.heap.size w w') : OB base w' v l :=
  World.ownsRow.kept (row := none) h ⟨hb.os, hb.tape, hb.output, hb.size, fun i hi _ => hb.block i hi⟩ (by
    cases hv : v.ownBlock with
    | none => exact .inl rfl
    | some g => exact .inr (by simp))

/-- A row of the call's own, out of new bytes of a callee's: a later base, the same row. -/
theorem OB.base {b b' : Nat} {w : World} {v : Value} {l : List Int} (h : OB b w v l) (hb : b' ≤ b) : OB b' w v l := by
  obtain ⟨h1, h2⟩ := h
  refine ⟨h1, ?_⟩
  rcases h2 with h2 | ⟨g, cap, cur, a, hg, r⟩
  · exact .inl h2
  · exact .inr ⟨g, cap, cur, a, Nat.le_trans hb hg, r⟩

/-- .. told with its row. -/
def OwnBytes (W : World) (l : List Int) (e : Ending) (w' : World) : Prop := ∃ v, e = .returned v ∧ OB W.heap.size w' v l ∧ Below W.heap.size W w'
theorem OwnBytes.new {W w' : World} {l : List Int} {e : Ending} (h : OwnBytes W l e w') : NewBytes W l e w' := by
  obtain ⟨v, rfl, h1, h2⟩ := h
  exact NewBytes.of h1 h2

theorem refNum_own (A : Option Addr) (c m : Nat) (l : List Int) (n : Int) (w : World) (hm : m = l.length) (hc : A = none → c = 0) (hA : BA w A l) (hl : l.length ≤ 70368744177664) (hn1 : -9223372036854775808 ≤ n) (hn2 : n ≤ 9223372036854775807) :
    Calls Try.prog 35 #[.slice A m c, .int .i64 n] w (OwnBytes w (l ++ enc n)) := by
  subst hm
  have HA := Lib.hid hA
  have hle := enc_len hn1 hn2
  clear hA
  go_enter Try.func35, Try.ntmps35
  go_wp2_with (at_builtin; refine append_bytes _ rfl (.tmp 5) (.tmp 6) rfl w.heap.size _ [] rfl (ob_empty w _ _ (Nat.le_refl _) rfl) A c _ l rfl rfl hc (HA.out.alloc _) (by simp; omega) (by simp) ?_; intro v1 w1 ho1 hb1)
  have HO := Lib.hid ho1
  have hz := hb1.size
  have hz2 : w.heap.size ≤ w1.heap.size := by simp at hz; omega
  have hbw : Below w.heap.size w w1 := ((Below.refl _ _).alloc (Nat.le_refl _) _).trans hb1
  clear ho1 hb1 hz
  refine (refOne_any n w1 hn1 hn2).mono ?_
  rintro e w2 ⟨A2, c2, rfl, hc2, hb2, hB2⟩
  have HB2 := Lib.hid hB2
  have HO2 : Hid (OB w.heap.size w2 v1 l) := Lib.hid (by
    have h := HO.out
    rw [List.nil_append] at h
    exact h.kept hb2)
  have hbw2 : Below w.heap.size w w2 := hbw.trans (hb2.mono hz2)
  clear hB2 hb2 hbw
  go_wp2_with (at_builtin; refine append_bytes _ rfl (.tmp 7) (.tmp 9) rfl w.heap.size _ l rfl HO2.out A2 c2 _ (enc n) rfl rfl hc2 HB2.out (by omega) hbw2.size ?_; intro v3 w3 ho3 hb3)
  go_ret
  exact ⟨_, rfl, ho3, hbw2.trans hb3⟩

set_option maxRecDepth 20000 in
set_option maxHeartbeats 1000000 in
theorem refList_any (A B : Option Addr) (c d m k : Nat) (l zs : List Int) (w : World) (hm : m = l.length) (hk : k = zs.length) (hc : A = none → c = 0) (hA : BA w A l) (hB : IA w B zs) (hz : W64 zs) (hl : l.length + 10 * zs.length ≤ 35184372088832) :
    Calls Try.prog 37 #[.slice A m c, .slice B k d] w (NewBytes w (l ++ encL zs)) := by
  subst hm hk
  have HA := Lib.hid hA
  have HB := Lib.hid hB
  have HZ := Lib.hid hz
  have hfl := flatMap_len zs hz
  have hel : (enc zs.length).length ≤ 10 := enc_len (by omega) (by omega)
  clear hA hB hz
  go_enter Try.func37, Try.ntmps37
  go_wp2_with fail
  refine (refNum_own A c _ l _ w rfl hc HA.out (by omega) (by omega) (by omega)).mono ?_
  rintro e w2 ⟨v2, rfl, ho2, hb2⟩
  have HO2 := Lib.hid ho2
  have HW2 := Lib.hid hb2
  clear ho2 hb2
  go_wp2_with fail
  go_loopw [5, 6] (fun a i wr => ∃ (v' : Value) (k : Nat), a = v' ∧ i = .int .i64 (k : Int) ∧ k ≤ zs.length ∧ Hid (OB w.heap.size wr v' (l ++ enc zs.length ++ (zs.take k).flatMap enc)) ∧ Hid (Below w.heap.size w wr)) (fun _ i _ => zs.length - (intOf i).toNat)
  case atStart => exact ⟨_, 0, rfl, rfl, Nat.zero_le _, Lib.hid (by rw [List.take_zero, List.flatMap_nil, List.append_nil]; exact HO2.out), HW2⟩
  case round =>
    obtain ⟨v', k, rfl, rfl, hk, HO', HW⟩ := hrel
    by_cases hlt : k < zs.length
    · obtain ⟨bB, oB, rfl, hbB, hcB⟩ := HB.out (by omega)
      have c1 : wr.cell? ⟨bB, oB + k, none⟩ = some (.int .i64 (zs.getD k 0)) := by rw [HW.out.cell (p := ⟨bB, oB + k, none⟩) hbB]; exact hcB k hlt
      have hw := Lib.hid (HZ.out.at_ k)
      have hlen : Hid ((l ++ enc zs.length ++ (zs.take k).flatMap enc).length ≤ 70368744177664) := Lib.hid (by
        have h1 := flatMap_len (zs.take k) (fun x hx => HZ.out x (List.mem_of_mem_take hx))
        have h2 : (zs.take k).length ≤ zs.length := List.length_take_le' _ _
        simp only [List.length_append]
        omega)
      have hr : Hid (l ++ enc zs.length ++ (zs.take (k + 1)).flatMap enc = (l ++ enc zs.length ++ (zs.take k).flatMap enc) ++ enc (zs.getD k 0)) := Lib.hid (by rw [flatMap_snoc zs k hlt]; simp only [List.append_assoc])
      have hsz := Lib.hid HW.out.size
      generalize zs.getD k 0 = x at c1 hw hr
      generalize l ++ enc zs.length ++ (zs.take k).flatMap enc = p at HO' hlen hr
      have hx10 := Lib.hid (enc_len hw.out.1 hw.out.2)
      clear hcB hfl hel
      go_wp2_with fail
      refine (refOne_any x wr hw.out.1 hw.out.2).mono ?_
      rintro e w3 ⟨A3, c3, rfl, hc3, hb3, hB3⟩
      have HB3 := Lib.hid hB3
      have HO3 := Lib.hid (HO'.out.kept hb3)
      have HW3 := Lib.hid (HW.out.trans (hb3.mono hsz.out))
      clear hB3 hb3
      go_wp2_with (at_builtin; refine append_bytes _ rfl (.tmp 17) (.tmp 22) rfl w.heap.size _ p rfl HO3.out A3 c3 _ (enc x) rfl rfl hc3 HB3.out (by have := hlen.out; have := hx10.out; omega) HW3.out.size ?_; intro v4 w4 ho4 hb4)
      have HO4 : Hid (OB w.heap.size w4 v4 (l ++ enc zs.length ++ (zs.take (k + 1)).flatMap enc)) := Lib.hid (by rw [hr.out]; exact ho4)
      have HW4 := Lib.hid (HW3.out.trans hb4)
      clear ho4 hb4
      go_roundw
      case rel => exact ⟨_, k + 1, rfl, by go_num, by omega, HO4, HW4⟩
      case measure => simp [intOf]; omega
    · have hk2 : k = zs.length := by omega
      subst hk2
      go_wp2
      go_ret
      have h := HO'.out
      rw [List.take_length, List.append_assoc] at h
      exact NewBytes.of h HW.out

theorem ba_bytesRow (w : World) (s : ByteArray) (cap n : Nat) (t : TypeId) (fr : Nat × Nat) (hn : n = w.heap.size) : BA (w.alloc (.cells (bytesRow s cap) t fr)) (some ⟨n, 0, none⟩) (strL s) := fun _ => by
  subst hn
  refine ⟨_, 0, rfl, by simp, fun i hi => ?_⟩
  rw [strL_length] at hi
  have hi2 : i < s.data.size := hi
  rw [Nat.zero_add, cell_of_row (w.alloc (.cells (bytesRow s cap) t fr)) w.heap.size i (bytesRow s cap) t fr (heap_alloc_new w _), bytesRow_at s cap i hi2]
  simp [strL, List.getD, Array.getElem?_eq_getElem hi2]

theorem refText_any (A : Option Addr) (c m : Nat) (l : List Int) (s : ByteArray) (w : World) (hm : m = l.length) (hc : A = none → c = 0) (hA : BA w A l) (hl : l.length + s.size ≤ 35184372088832) :
    Calls Try.prog 39 #[.slice A m c, .string s] w (NewBytes w (l ++ encT s)) := by
  subst hm
  have HA := Lib.hid hA
  have hle : (enc s.size).length ≤ 10 := enc_len (by omega) (by omega)
  clear hA
  go_enter Try.func39, Try.ntmps39
  go_wp2_with fail
  refine (refNum_own A c _ l _ w rfl hc HA.out (by omega) (by omega) (by omega)).mono ?_
  rintro e w2 ⟨v2, rfl, ho2, hb2⟩
  have HO2 := Lib.hid ho2
  have HW2 := Lib.hid hb2
  clear ho2 hb2
  have hsz := HW2.out.size
  have hlen : (l ++ enc s.size).length + (strL s).length ≤ 140737488355328 := by rw [strL_length]; simp only [List.length_append]; omega
  have kc := fun (W : World) => run_bytes_of_string W 9 37 5 s Try.underlying9 Try.underlying37 Try.underlying5
  go_wp2_with (at_builtin; refine append_bytes _ rfl (.tmp 8) (.tmp 10) rfl w.heap.size _ (l ++ enc s.size) rfl (by have h := HO2.out; exact World.ownsRow.alloc h.drew _) _ _ _ (strL s) (strL_length s).symm rfl (fun h => by cases h) (ba_bytesRow _ _ _ _ _ _ rfl) hlen (by simp; omega) ?_; intro v4 w4 ho4 hb4)
  go_ret
  refine NewBytes.of (l := l ++ encT s) ?_ ((HW2.out.drew.alloc (by simpa using hsz) _).trans hb4)
  have e1 : l ++ encT s = (l ++ enc s.size) ++ strL s := by unfold encT; rw [List.append_assoc]
  rw [e1]
  exact ho4
end Go.Proofs.Ytbdlbljjbigjkaa
