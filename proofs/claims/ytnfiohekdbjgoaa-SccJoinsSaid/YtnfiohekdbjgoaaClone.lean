/- Contracts of slices.Clone of ints and of words. -/
import Derived.Test.YtnfiohekdbjgoaaReach
import Derived.Lib.SliceRun
import Derived.Maps.AppendAt
namespace Go.Proofs.Ytnfiohekdbjgoaa
open Go.ChangeShapes Go.WideShapes Go.ChangeAt Go.RowKit

/-- A row of the call's own reads as what it holds. -/
theorem la_of_own {k : IntKind} {te : TypeId} {base : Nat} {w : World} {v : Value} {l : List Int} (h : w.ownsRow base te 1 v l.length (l.map (Value.int k))) : ∃ A c, v = .slice A l.length c ∧ l.length ≤ c ∧ c ≤ maxLen ∧ LA k w A l := by
  obtain ⟨h1, h2⟩ := id h
  rcases h2 with ⟨rfl, h0⟩ | ⟨g, cap, cur, rfl, hb, hg, hn, hm, hs, ht⟩
  · exact ⟨none, 0, by rw [h0], by omega, Nat.zero_le _, fun hn => by omega⟩
  · refine ⟨_, cap, rfl, hn, hm, fun h0 => ⟨g, 0, rfl, (Array.getElem?_eq_some_iff.1 hg).1, fun i hi => ?_⟩⟩
    have := World.ownsRow.cellAt h i (by simpa using hi)
    rw [Nat.zero_add, this]
    simp [List.getD, hi]

set_option maxRecDepth 20000 in
/-- append of what a slice reads as onto an empty row just made. -/
theorem append_clone {w : World} {ops : Array Oper} {rest : List Oper} {o : Oper} {a : Act} {Q : Exit → Act → World → Prop} {k : IntKind} {ts te : TypeId} {i0 : TypeInfo} (ht : Try.prog.underlying ts = some (.slice te)) (hi : Try.prog.info? te = some i0) (hz0 : i0.zero = some (.int k 0)) (hz1 : i0.size = 1) (hz2 : i0.bytes = 8)
    (hgd : o.guard = none) (s x : Operand) (ho : o.op = .call { callee := .builtin .append, args := #[s, x], argTypes := #[ts, ts] })
    (ad : Addr) (c : Nat) (l : List Int) (hs : a.eval s = .slice (some ⟨w.heap.size, 0, none⟩) 0 0) (hx : a.eval x = .slice (some ad) l.length c) (hA : LA k w (some ad) l) (hlen : l.length ≤ 1000000)
    (h : ∀ A' c' w', LA k w' A' l → l.length ≤ c' → c' ≤ maxLen → Below w.heap.size w w' → (∀ a, A' = some a → w.heap.size ≤ a.block) → wpList Try.prog ops Q rest (a.put o.dst (.slice A' l.length c')) w') :
    wpList Try.prog ops Q (o :: rest) a (w.alloc (.cells #[] te)) := by
  have hown : (w.alloc (.cells #[] te)).ownsRow w.heap.size te 1 (.slice (some ⟨w.heap.size, 0, none⟩) 0 0) 0 [] := ⟨rfl, .inr ⟨w.heap.size, 0, #[], rfl, Nat.le_refl _, World.alloc_heap_new w _, Nat.le_refl _, Nat.zero_le _, rfl, rfl⟩⟩
  have hB : Below w.heap.size w (w.alloc (.cells #[] te)) := (Below.refl _ _).alloc (Nat.le_refl _) _
  refine wpList_append_own_at _ hgd s x ts ho w.heap.size te i0 (.int k 0) 1 8 ht hi hz0 hz1 hz2 rfl (by decide) _ 0 [] hs hown ad l.length c (l.map (Value.int k)) hx (by simp) (fun j u hu => ?_) (fun u hu => ?_) (by unfold maxLen; omega) (by omega) (by simp) ?_
  · rw [List.getElem?_map] at hu
    cases e : l[j]? with
    | none => rw [e] at hu; cases hu
    | some y =>
      rw [e] at hu
      injection hu with hu
      subst hu
      have hj : j < l.length := (List.getElem?_eq_some_iff.1 e).1
      obtain ⟨b, o2, e2, hb2, hc⟩ := hA (by omega)
      injection e2 with e2
      subst e2
      rw [add_plain, hB.cell (p := ⟨b, o2 + j, none⟩) hb2, hc j hj]
      simp [List.getD, e]
  · obtain ⟨y, _, rfl⟩ := List.mem_map.1 hu
    simp [Value.oneCell']
  · intro v' w' hown' hgrow _ _
    rw [Nat.zero_add, List.nil_append] at hown'
    have hlt := hown'.lt
    obtain ⟨A', c', rfl, h1, h2, h3⟩ := la_of_own hown'
    exact h A' c' w' h3 h1 h2 (Below.grown hB hgrow (by simp) (fun q hq => (hown.lt q hq).1)) (fun a e => (hlt a.block (by rw [e]; rfl)).1)

/-- What a clone is. -/
def CloneP (k : IntKind) (w : World) (l : List Int) (e : Ending) (w' : World) : Prop := ∃ A c, e = .returned (.slice A l.length c) ∧ l.length ≤ c ∧ c ≤ maxLen ∧ LA k w' A l ∧ Below w.heap.size w w' ∧ ∀ a, A = some a → w.heap.size ≤ a.block
theorem la_none {k : IntKind} {w : World} {l : List Int} (h : LA k w none l) : l = [] := by
  rcases Nat.eq_zero_or_pos l.length with h0 | h0
  · exact List.eq_nil_of_length_eq_zero h0
  · obtain ⟨b, o, e, _⟩ := h h0
    cases e
theorem Try.eqlNil22 (w : World) (a : Option Addr) (l c : Nat) : (binOp .eql 22 (.slice a l c) (.slice none 0 0)).run Try.prog w = .ok (.bool a.isNone) w := Lib.run_eql_slice_nil w _ _ a l c 0 0 Try.underlying22
theorem Try.eqlNil24 (w : World) (a : Option Addr) (l c : Nat) : (binOp .eql 24 (.slice a l c) (.slice none 0 0)).run Try.prog w = .ok (.bool a.isNone) w := Lib.run_eql_slice_nil w _ _ a l c 0 0 Try.underlying24
theorem cloneInts_any (A : Option Addr) (c m : Nat) (l : List Int) (w : World) (hm : m = l.length) (hI : LA .i64 w A l) (hl : l.length ≤ 1000000) :
    Calls Try.prog 79 #[.slice A m c] w (CloneP .i64 w l) := by
  obtain ⟨i0, hi, hz0, hz1, hz2⟩ := info_parts (show (Try.prog.info? 3).map (fun i => (i.zero, i.size, i.bytes)) = some (some (.int .i64 0), 1, 8) by kernel_rfl)
  subst hm
  have q := @Try.eqlNil22
  cases A with
  | none =>
    obtain rfl := la_none hI
    clear hI hl hi hz0 hz1 hz2
    go_enter Try.func79, Try.ntmps79
    go_wp2
    go_ret
    exact ⟨none, 0, rfl, Nat.le_refl _, Nat.zero_le _, fun h => absurd h (by simp), Below.refl _ _, fun _ h => by cases h⟩
  | some ad =>
    have HI := Lib.hid hI
    have H1 := Lib.hid hi
    have H2 := Lib.hid hz0
    have H3 := Lib.hid hz1
    have H4 := Lib.hid hz2
    have HL := Lib.hid hl
    clear hI hl hi hz0 hz1 hz2
    go_enter Try.func79, Try.ntmps79
    go_wp2_with (at_builtin; refine append_clone Try.underlying22 H1.out H2.out H3.out H4.out rfl (.tmp 5) (.tmp 6) rfl ad c l rfl rfl HI.out HL.out ?_; intro A3 c3 w3 ha3 h31 h32 hb3 hn3; have HN3 := Lib.hid hn3; have HA3 := Lib.hid ha3; have H31 := Lib.hid h31; have H32 := Lib.hid h32; have HB3 := Lib.hid hb3; clear ha3 h31 h32 hb3 hn3)
    go_ret
    exact ⟨A3, c3, rfl, H31.out, H32.out, HA3.out, HB3.out, HN3.out⟩
theorem cloneWords_any (A : Option Addr) (c m : Nat) (l : List Int) (w : World) (hm : m = l.length) (hI : LA .u64 w A l) (hl : l.length ≤ 1000000) :
    Calls Try.prog 80 #[.slice A m c] w (CloneP .u64 w l) := by
  obtain ⟨i0, hi, hz0, hz1, hz2⟩ := info_parts (show (Try.prog.info? 63).map (fun i => (i.zero, i.size, i.bytes)) = some (some (.int .u64 0), 1, 8) by kernel_rfl)
  subst hm
  have q := @Try.eqlNil24
  cases A with
  | none =>
    obtain rfl := la_none hI
    clear hI hl hi hz0 hz1 hz2
    go_enter Try.func80, Try.ntmps80
    go_wp2
    go_ret
    exact ⟨none, 0, rfl, Nat.le_refl _, Nat.zero_le _, fun h => absurd h (by simp), Below.refl _ _, fun _ h => by cases h⟩
  | some ad =>
    have HI := Lib.hid hI
    have H1 := Lib.hid hi
    have H2 := Lib.hid hz0
    have H3 := Lib.hid hz1
    have H4 := Lib.hid hz2
    have HL := Lib.hid hl
    clear hI hl hi hz0 hz1 hz2
    go_enter Try.func80, Try.ntmps80
    go_wp2_with (at_builtin; refine append_clone Try.underlying24 H1.out H2.out H3.out H4.out rfl (.tmp 5) (.tmp 6) rfl ad c l rfl rfl HI.out HL.out ?_; intro A3 c3 w3 ha3 h31 h32 hb3 hn3; have HN3 := Lib.hid hn3; have HA3 := Lib.hid ha3; have H31 := Lib.hid h31; have H32 := Lib.hid h32; have HB3 := Lib.hid hb3; clear ha3 h31 h32 hb3 hn3)
    go_ret
    exact ⟨A3, c3, rfl, H31.out, H32.out, HA3.out, HB3.out, HN3.out⟩
end Go.Proofs.Ytnfiohekdbjgoaa
