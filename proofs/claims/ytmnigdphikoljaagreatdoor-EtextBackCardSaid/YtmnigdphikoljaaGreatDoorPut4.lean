/- Contracts that the claim stands on, several texts in one: LexAll, EtScope, EtNames, EtTells. -/
import Derived.Test.YtmnigdphikoljaaGreatDoorPut1
import Derived.Test.YtmnigdphikoljaaGreatDoorPut2
import Derived.Test.YtmnigdphikoljaaGreatDoorPut3
namespace Go.Proofs.YtmnigdphikoljaaGreatDoor.lx
open Go.ChangeShapes Go.WideShapes Go.ChangeAt Go.RowKit Go.Deep

def bt (s : ByteArray) (i : Nat) : Nat := (s.get! i).toNat
theorem letB_high {r : Nat} (h : 128 ≤ r) : letB r = false := decide_eq_false (by omega)
theorem digB_high {r : Nat} (h : 128 ≤ r) : digB r = false := decide_eq_false (by omega)
theorem okB_high {pos r : Nat} (h : 128 ≤ r) : okB pos r = false := by
  unfold okB
  rw [letB_high h, digB_high h, decide_eq_false (show ¬ r = 95 by omega)]
  simp
theorem okB_low {pos r : Nat} (h : okB pos r = true) : r < 128 := by
  rcases Nat.lt_or_ge r 128 with h1 | h1
  · exact h1
  · rw [okB_high h1] at h; cases h
theorem bt_eq {s : ByteArray} {pos : Nat} (h : pos < s.size) : bt s pos = (s[pos]'h).toNat := by
  unfold bt
  have := get_at s pos h
  rw [Nat.add_zero] at this
  rw [this]
theorem decode_low {s : ByteArray} {pos : Nat} (h : pos < s.size) (hb : bt s pos < 128) : Utf8.decode s pos = (bt s pos, 1) := by
  rw [bt_eq h] at hb ⊢
  exact decode_ascii s pos h hb
theorem ok_decode {s : ByteArray} {pos : Nat} (h : pos < s.size) : okB pos (Utf8.decode s pos).1 = okB pos (bt s pos) := by
  rcases Nat.lt_or_ge (bt s pos) 128 with h1 | h1
  · rw [decode_low h h1]
  · rw [okB_high h1, okB_high (decode_high s pos h (by rw [← bt_eq h]; exact h1)).1]
theorem stop_iff (s : ByteArray) : ∀ f pos, s.size ≤ pos + f → (stopF okB s f pos = s.size ↔ ∀ i, pos ≤ i → i < s.size → okB i (bt s i) = true)
  | 0, pos, h => ⟨fun _ i h1 h2 => by omega, fun _ => rfl⟩
  | f + 1, pos, h => by
    by_cases hp : pos < s.size
    · unfold stopF
      rw [if_pos hp, ok_decode hp]
      cases hk : okB pos (bt s pos) with
      | false =>
        simp only [Bool.false_eq_true, if_false]
        refine ⟨fun h2 => by omega, fun h2 => ?_⟩
        have := h2 pos (Nat.le_refl _) hp
        rw [hk] at this
        cases this
      | true =>
        simp only [if_true]
        have hd := decode_low hp (okB_low hk)
        rw [hd]
        rw [stop_iff s f (pos + 1) (by omega)]
        refine ⟨fun h2 i h3 h4 => ?_, fun h2 i h3 h4 => h2 i (by omega) h4⟩
        rcases Nat.eq_or_lt_of_le h3 with rfl | h5
        · exact hk
        · exact h2 i (by omega) h4
    · rw [stopF_end okB s (f + 1) pos hp]
      exact ⟨fun _ i h1 h2 => by omega, fun _ => rfl⟩
/-- A byte of a word that is not the first. -/
def wB (b : Nat) : Bool := letB b || digB b || decide (b = 95)
theorem ok_first (b : Nat) : okB 0 b = letB b := by unfold okB; simp
theorem ok_later {i b : Nat} (h : 0 < i) : okB i b = wB b := by unfold okB wB; rw [decide_eq_true h, Bool.true_and, Bool.or_assoc]
theorem wB_let {b : Nat} (h : letB b = true) : wB b = true := by unfold wB; rw [h]; rfl
/-- .. by the first byte and the others. -/
theorem stop_whole (s : ByteArray) (h0 : 0 < s.size) : stopF okB s s.size 0 = s.size ↔ letB (bt s 0) = true ∧ ∀ i, i < s.size → wB (bt s i) = true := by
  rw [stop_iff s s.size 0 (by omega)]
  refine ⟨fun h => ⟨by rw [← ok_first]; exact h 0 (Nat.le_refl _) h0, fun i hi => ?_⟩, fun h i _ hi => ?_⟩
  · rcases Nat.eq_zero_or_pos i with rfl | h1
    · exact wB_let (by rw [← ok_first]; exact h 0 (Nat.le_refl _) h0)
    · rw [← ok_later h1]; exact h i (Nat.zero_le _) hi
  · rcases Nat.eq_zero_or_pos i with rfl | h1
    · rw [ok_first]; exact h.1
    · rw [ok_later h1]; exact h.2 i hi
end Go.Proofs.YtmnigdphikoljaaGreatDoor.lx
namespace Go.Proofs.YtmnigdphikoljaaGreatDoor.et
open Go.ChangeShapes Go.WideShapes Go.ChangeAt Go.RowKit Go.Deep

/-- A slice of structs of k cells at address A (nil let in), whose first cells are the texts l. -/
def NS (k : Nat) (w : World) (A : Option Addr) (l : List ByteArray) : Prop :=
  0 < l.length → ∃ b off, A = some ⟨b, off, none⟩ ∧ b < w.heap.size ∧ ∀ i, i < l.length → w.cell? ⟨b, off + i * k, none⟩ = some (.string (l.getD i default))
theorem NS.below {k : Nat} {w w' : World} {A : Option Addr} {l : List ByteArray} (h : NS k w A l) (hk : Below w.heap.size w w') : NS k w' A l := fun hn => by
  obtain ⟨b, off, e, hb, hc⟩ := h hn
  exact ⟨b, off, e, Nat.lt_of_lt_of_le hb hk.size, fun i hi => (hk.cell (p := ⟨b, off + i * k, none⟩) hb).trans (hc i hi)⟩
/-- The names of a scope. -/
structure Nm where
  (vars chans procs scals locals : List ByteArray)
/-- A scope's names as they lie. -/
structure NmR (w : World) (X : ScX) (N : Nm) : Prop where
  l1 : X.n1 = N.scals.length
  l2 : X.n2 = N.vars.length
  l3 : X.n3 = N.chans.length
  l4 : X.n4 = N.procs.length
  l5 : X.n5 = N.locals.length
  r1 : NS 2 w X.a1 N.scals
  r2 : NS 6 w X.a2 N.vars
  r3 : NS 6 w X.a3 N.chans
  r4 : NS 5 w X.a4 N.procs
  r5 : NS 6 w X.a5 N.locals
theorem NmR.below {w w' : World} {X : ScX} {N : Nm} (h : NmR w X N) (k : Below w.heap.size w w') : NmR w' X N :=
  ⟨h.l1, h.l2, h.l3, h.l4, h.l5, h.r1.below k, h.r2.below k, h.r3.below k, h.r4.below k, h.r5.below k⟩
theorem choose_str (n : Nat) (p : Nat → ByteArray → Prop) (h : ∀ i, i < n → ∃ s, p i s) : ∃ l : List ByteArray, l.length = n ∧ ∀ i, i < n → p i (l.getD i default) := by
  induction n with
  | zero => exact ⟨[], rfl, fun i hi => absurd hi (Nat.not_lt_zero _)⟩
  | succ n ih =>
    obtain ⟨l, e, hl⟩ := ih (fun i hi => h i (by omega))
    obtain ⟨s, hs⟩ := h n (by omega)
    refine ⟨l ++ [s], by simp [e], fun i hi => ?_⟩
    by_cases h2 : i < n
    · have := hl i h2
      have e2 : (l ++ [s]).getD i default = l.getD i default := by simp [List.getD, List.getElem?_append, show i < l.length by omega]
      rw [e2]
      exact this
    · obtain rfl : i = n := by omega
      have e2 : (l ++ [s]).getD i default = s := by simp [List.getD, List.getElem?_append, e]
      rw [e2]
      exact hs
theorem ns_of (k n : Nat) (w : World) (A : Option Addr) (h : 0 < n → ∃ b off, A = some ⟨b, off, none⟩ ∧ b < w.heap.size ∧ ∀ i, i < n → ∃ s : ByteArray, w.cell? ⟨b, off + i * k, none⟩ = some (.string s)) : ∃ l : List ByteArray, n = l.length ∧ NS k w A l := by
  by_cases h0 : 0 < n
  · obtain ⟨b, off, e, hb, hc⟩ := h h0
    obtain ⟨l, hl, hp⟩ := choose_str n (fun i s => w.cell? ⟨b, off + i * k, none⟩ = some (.string s)) hc
    exact ⟨l, hl.symm, fun _ => ⟨b, off, e, hb, fun i hi => hp i (by omega)⟩⟩
  · exact ⟨[], by simp; omega, fun h => absurd h (by simp)⟩
/-- Whatever scope lies there has names. -/
theorem names_of {w : World} {X : ScX} {S : Sc} (h : SR w X S) : ∃ N, NmR w X N := by
  obtain ⟨l1, e1, h1⟩ := ns_of 2 X.n1 w X.a1 (fun hn => by
    obtain ⟨b, off, e, hb, hc⟩ := h.r1 (by rw [← h.l1]; exact hn)
    exact ⟨b, off, e, hb, fun i hi => by obtain ⟨s, g, _⟩ := hc i (by rw [← h.l1]; exact hi); exact ⟨s, g⟩⟩)
  obtain ⟨l2, e2, h2⟩ := ns_of 6 X.n2 w X.a2 (fun hn => by
    obtain ⟨b, off, e, hb, hc⟩ := h.r2 (by rw [← h.l2]; exact hn)
    exact ⟨b, off, e, hb, fun i hi => by obtain ⟨s, _, _, _, g, _⟩ := hc i (by rw [← h.l2]; exact hi); exact ⟨s, g⟩⟩)
  obtain ⟨l3, e3, h3⟩ := ns_of 6 X.n3 w X.a3 (fun hn => by
    obtain ⟨b, off, e, hb, hc⟩ := h.r3 (by rw [← h.l3]; exact hn)
    exact ⟨b, off, e, hb, fun i hi => by obtain ⟨s, _, _, _, _, g, _⟩ := hc i (by rw [← h.l3]; exact hi); exact ⟨s, g⟩⟩)
  obtain ⟨l4, e4, h4⟩ := ns_of 5 X.n4 w X.a4 (fun hn => by
    obtain ⟨b, off, e, hb, hc⟩ := h.r4 (by rw [← h.l4]; exact hn)
    exact ⟨b, off, e, hb, fun i hi => by obtain ⟨s, _, _, _, _, _, _, _, g, _⟩ := hc i (by rw [← h.l4]; exact hi); exact ⟨s, g⟩⟩)
  obtain ⟨l5, e5, h5⟩ := ns_of 6 X.n5 w X.a5 (fun hn => by
    obtain ⟨b, off, e, hb, hc⟩ := h.r5 (by rw [← h.l5]; exact hn)
    exact ⟨b, off, e, hb, fun i hi => by obtain ⟨s, _, _, _, g, _⟩ := hc i (by rw [← h.l5]; exact hi); exact ⟨s, g⟩⟩)
  exact ⟨⟨l2, l3, l4, l1, l5⟩, ⟨e1, e2, e3, e4, e5, h1, h2, h3, h4, h5⟩⟩

/-- The names of the things that nodes of this operation speak of. -/
def nmOf (N : Nm) (op : Int) : Option (List ByteArray) :=
  if op = 2 ∨ op = 3 then some N.vars else if op = 4 then some N.locals else if op = 6 then some N.chans else if op = 7 then some N.procs else if op = 8 then some N.scals else none
/-- A function value that tells the names l. -/
def TellsK (w : World) (V : Value) (l : List ByteArray) : Prop :=
  ∃ g lb, V = .func (.func g) #[] lb ∧ (∀ args w, (callFunc g args).run Tryz.prog w = .ok (.enter g args) w) ∧
    ∀ (w2 : World) (k : Nat), Below w.heap.size w w2 → k < l.length → Calls Tryz.prog g (#[.int .i64 k] ++ lb) w2 fun e w3 => e = .returned (.string (l.getD k default)) ∧ Below w2.heap.size w2 w3
/-- What names hands back. -/
def NamesP (w : World) (o : Option (List ByteArray)) (e : Ending) (w' : World) : Prop :=
  Below w.heap.size w w' ∧ match o with
  | none => e = .returned (.tuple #[.int .i64 0, .nilFunc])
  | some l => ∃ V, e = .returned (.tuple #[.int .i64 l.length, V]) ∧ TellsK w' V l

set_option maxRecDepth 20000 in
theorem nmV_any (b : Nat) (X : ScX) (l : List ByteArray) (k : Nat) (w : World) (hb : Bx w b X) (hn : X.n2 = l.length) (hA : NS 6 w X.a2 l) (hk : k < l.length) :
    Calls Tryz.prog 116 #[.int .i64 k, .pointer (some ⟨b, 0, none⟩)] w fun e w' => e = .returned (.string (l.getD k default)) ∧ Below w.heap.size w w' := by
  have c2 := hb.1.2.1
  obtain ⟨g, off, ha, hg, hc⟩ := hA (by omega)
  have h0 := hc k hk
  obtain ⟨x, HX⟩ : ∃ x, Hid (l.getD k default = x) := ⟨_, Lib.hid rfl⟩
  rw [HX.out] at h0 ⊢
  obtain ⟨n, HN⟩ : ∃ n, X.n2 = n := ⟨_, rfl⟩
  rw [ha, HN] at c2
  have hk0 : (0 : Int) ≤ (k : Int) := by omega
  have hk9 : (k : Int) < (n : Int) := by omega
  clear hb hc hA ha HN hn
  go_enter Tryz.func116, Tryz.ntmps116
  go_wp2
  go_ret
  exact ⟨rfl, Below.refl _ _⟩

set_option maxRecDepth 20000 in
theorem nmL_any (b : Nat) (X : ScX) (l : List ByteArray) (k : Nat) (w : World) (hb : Bx w b X) (hn : X.n5 = l.length) (hA : NS 6 w X.a5 l) (hk : k < l.length) :
    Calls Tryz.prog 117 #[.int .i64 k, .pointer (some ⟨b, 0, none⟩)] w fun e w' => e = .returned (.string (l.getD k default)) ∧ Below w.heap.size w w' := by
  have c5 := hb.1.2.2.2.2.1
  obtain ⟨g, off, ha, hg, hc⟩ := hA (by omega)
  have h0 := hc k hk
  obtain ⟨x, HX⟩ : ∃ x, Hid (l.getD k default = x) := ⟨_, Lib.hid rfl⟩
  rw [HX.out] at h0 ⊢
  obtain ⟨n, HN⟩ : ∃ n, X.n5 = n := ⟨_, rfl⟩
  rw [ha, HN] at c5
  have hk0 : (0 : Int) ≤ (k : Int) := by omega
  have hk9 : (k : Int) < (n : Int) := by omega
  clear hb hc hA ha HN hn
  go_enter Tryz.func117, Tryz.ntmps117
  go_wp2
  go_ret
  exact ⟨rfl, Below.refl _ _⟩

set_option maxRecDepth 20000 in
theorem nmC_any (b : Nat) (X : ScX) (l : List ByteArray) (k : Nat) (w : World) (hb : Bx w b X) (hn : X.n3 = l.length) (hA : NS 6 w X.a3 l) (hk : k < l.length) :
    Calls Tryz.prog 118 #[.int .i64 k, .pointer (some ⟨b, 0, none⟩)] w fun e w' => e = .returned (.string (l.getD k default)) ∧ Below w.heap.size w w' := by
  have c3 := hb.1.2.2.1
  obtain ⟨g, off, ha, hg, hc⟩ := hA (by omega)
  have h0 := hc k hk
  obtain ⟨x, HX⟩ : ∃ x, Hid (l.getD k default = x) := ⟨_, Lib.hid rfl⟩
  rw [HX.out] at h0 ⊢
  obtain ⟨n, HN⟩ : ∃ n, X.n3 = n := ⟨_, rfl⟩
  rw [ha, HN] at c3
  have hk0 : (0 : Int) ≤ (k : Int) := by omega
  have hk9 : (k : Int) < (n : Int) := by omega
  clear hb hc hA ha HN hn
  go_enter Tryz.func118, Tryz.ntmps118
  go_wp2
  go_ret
  exact ⟨rfl, Below.refl _ _⟩

set_option maxRecDepth 20000 in
theorem nmP_any (b : Nat) (X : ScX) (l : List ByteArray) (k : Nat) (w : World) (hb : Bx w b X) (hn : X.n4 = l.length) (hA : NS 5 w X.a4 l) (hk : k < l.length) :
    Calls Tryz.prog 119 #[.int .i64 k, .pointer (some ⟨b, 0, none⟩)] w fun e w' => e = .returned (.string (l.getD k default)) ∧ Below w.heap.size w w' := by
  have c4 := hb.1.2.2.2.1
  obtain ⟨g, off, ha, hg, hc⟩ := hA (by omega)
  have h0 := hc k hk
  obtain ⟨x, HX⟩ : ∃ x, Hid (l.getD k default = x) := ⟨_, Lib.hid rfl⟩
  rw [HX.out] at h0 ⊢
  obtain ⟨n, HN⟩ : ∃ n, X.n4 = n := ⟨_, rfl⟩
  rw [ha, HN] at c4
  have hk0 : (0 : Int) ≤ (k : Int) := by omega
  have hk9 : (k : Int) < (n : Int) := by omega
  clear hb hc hA ha HN hn
  go_enter Tryz.func119, Tryz.ntmps119
  go_wp2
  go_ret
  exact ⟨rfl, Below.refl _ _⟩

set_option maxRecDepth 20000 in
theorem nmS_any (b : Nat) (X : ScX) (l : List ByteArray) (k : Nat) (w : World) (hb : Bx w b X) (hn : X.n1 = l.length) (hA : NS 2 w X.a1 l) (hk : k < l.length) :
    Calls Tryz.prog 120 #[.int .i64 k, .pointer (some ⟨b, 0, none⟩)] w fun e w' => e = .returned (.string (l.getD k default)) ∧ Below w.heap.size w w' := by
  have c1 := hb.1.1
  obtain ⟨g, off, ha, hg, hc⟩ := hA (by omega)
  have h0 := hc k hk
  obtain ⟨x, HX⟩ : ∃ x, Hid (l.getD k default = x) := ⟨_, Lib.hid rfl⟩
  rw [HX.out] at h0 ⊢
  obtain ⟨n, HN⟩ : ∃ n, X.n1 = n := ⟨_, rfl⟩
  rw [ha, HN] at c1
  have hk0 : (0 : Int) ≤ (k : Int) := by omega
  have hk9 : (k : Int) < (n : Int) := by omega
  clear hb hc hA ha HN hn
  go_enter Tryz.func120, Tryz.ntmps120
  go_wp2
  go_ret
  exact ⟨rfl, Below.refl _ _⟩
end Go.Proofs.YtmnigdphikoljaaGreatDoor.et
namespace Go.Proofs.YtmnigdphikoljaaGreatDoor.et
open Go.ChangeShapes Go.WideShapes Go.ChangeAt Go.RowKit Go.Deep

theorem namesP_some {w w' : World} {V : Value} {l : List ByteArray} {n : Nat} (hb : Below w.heap.size w w') (hn : n = l.length) (hT : TellsK w' V l) : NamesP w (some l) (.returned (.tuple #[.int .i64 (n : Nat), V])) w' := by
  subst hn
  exact ⟨hb, V, rfl, hT⟩
set_option maxRecDepth 100000 in
theorem tellsV {w : World} {b : Nat} {X : ScX} {l : List ByteArray} (hb : Bx w b X) (hn : X.n2 = l.length) (hA : NS 6 w X.a2 l) : TellsK w (.func (.func 116) #[] #[.pointer (some ⟨b, 0, none⟩)]) l :=
  ⟨_, _, rfl, fun _ _ => rfl, fun w2 k hb2 hk => nmV_any b X l k w2 (hb.below hb2) hn (hA.below hb2) hk⟩
set_option maxRecDepth 100000 in
theorem tellsL {w : World} {b : Nat} {X : ScX} {l : List ByteArray} (hb : Bx w b X) (hn : X.n5 = l.length) (hA : NS 6 w X.a5 l) : TellsK w (.func (.func 117) #[] #[.pointer (some ⟨b, 0, none⟩)]) l :=
  ⟨_, _, rfl, fun _ _ => rfl, fun w2 k hb2 hk => nmL_any b X l k w2 (hb.below hb2) hn (hA.below hb2) hk⟩
set_option maxRecDepth 100000 in
theorem tellsC {w : World} {b : Nat} {X : ScX} {l : List ByteArray} (hb : Bx w b X) (hn : X.n3 = l.length) (hA : NS 6 w X.a3 l) : TellsK w (.func (.func 118) #[] #[.pointer (some ⟨b, 0, none⟩)]) l :=
  ⟨_, _, rfl, fun _ _ => rfl, fun w2 k hb2 hk => nmC_any b X l k w2 (hb.below hb2) hn (hA.below hb2) hk⟩
set_option maxRecDepth 100000 in
theorem tellsP {w : World} {b : Nat} {X : ScX} {l : List ByteArray} (hb : Bx w b X) (hn : X.n4 = l.length) (hA : NS 5 w X.a4 l) : TellsK w (.func (.func 119) #[] #[.pointer (some ⟨b, 0, none⟩)]) l :=
  ⟨_, _, rfl, fun _ _ => rfl, fun w2 k hb2 hk => nmP_any b X l k w2 (hb.below hb2) hn (hA.below hb2) hk⟩
set_option maxRecDepth 100000 in
theorem tellsS {w : World} {b : Nat} {X : ScX} {l : List ByteArray} (hb : Bx w b X) (hn : X.n1 = l.length) (hA : NS 2 w X.a1 l) : TellsK w (.func (.func 120) #[] #[.pointer (some ⟨b, 0, none⟩)]) l :=
  ⟨_, _, rfl, fun _ _ => rfl, fun w2 k hb2 hk => nmS_any b X l k w2 (hb.below hb2) hn (hA.below hb2) hk⟩
set_option maxRecDepth 20000 in
theorem names2_any (X : ScX) (N : Nm) (w : World) (h : NmR w X N) : Calls Tryz.prog 84 #[X.v, .int .i64 2] w (NamesP w (some N.vars)) := by
  have H := Lib.hid h
  have hmf : ∀ (fn : Fn) (first cap : Array Value) (w : World), (Instr.makeFunc fn first cap).run Tryz.prog w = .ok (.func fn first cap) w := fun _ _ _ _ => rfl
  have HX := Lib.hid (Bx.new w X 46)
  clear h
  unfold ScX.v
  go_enter Tryz.func84, Tryz.ntmps84
  go_wp2
  exact bodyPost_ret (v := .tuple #[.int .i64 (X.n2 : Nat), .func (.func 116) #[] #[.pointer (some ⟨w.heap.size, 0, none⟩)]]) (by simp [results, Tryz.results84, go_sem]) rfl (namesP_some (below_alloc1 _ _) H.out.l2 (tellsV HX.out H.out.l2 (H.out.r2.below (below_alloc1 _ _))))
set_option maxRecDepth 20000 in
theorem names3_any (X : ScX) (N : Nm) (w : World) (h : NmR w X N) : Calls Tryz.prog 84 #[X.v, .int .i64 3] w (NamesP w (some N.vars)) := by
  have H := Lib.hid h
  have hmf : ∀ (fn : Fn) (first cap : Array Value) (w : World), (Instr.makeFunc fn first cap).run Tryz.prog w = .ok (.func fn first cap) w := fun _ _ _ _ => rfl
  have HX := Lib.hid (Bx.new w X 46)
  clear h
  unfold ScX.v
  go_enter Tryz.func84, Tryz.ntmps84
  go_wp2
  exact bodyPost_ret (v := .tuple #[.int .i64 (X.n2 : Nat), .func (.func 116) #[] #[.pointer (some ⟨w.heap.size, 0, none⟩)]]) (by simp [results, Tryz.results84, go_sem]) rfl (namesP_some (below_alloc1 _ _) H.out.l2 (tellsV HX.out H.out.l2 (H.out.r2.below (below_alloc1 _ _))))
set_option maxRecDepth 20000 in
theorem names4_any (X : ScX) (N : Nm) (w : World) (h : NmR w X N) : Calls Tryz.prog 84 #[X.v, .int .i64 4] w (NamesP w (some N.locals)) := by
  have H := Lib.hid h
  have hmf : ∀ (fn : Fn) (first cap : Array Value) (w : World), (Instr.makeFunc fn first cap).run Tryz.prog w = .ok (.func fn first cap) w := fun _ _ _ _ => rfl
  have HX := Lib.hid (Bx.new w X 46)
  clear h
  unfold ScX.v
  go_enter Tryz.func84, Tryz.ntmps84
  go_wp2
  exact bodyPost_ret (v := .tuple #[.int .i64 (X.n5 : Nat), .func (.func 117) #[] #[.pointer (some ⟨w.heap.size, 0, none⟩)]]) (by simp [results, Tryz.results84, go_sem]) rfl (namesP_some (below_alloc1 _ _) H.out.l5 (tellsL HX.out H.out.l5 (H.out.r5.below (below_alloc1 _ _))))
set_option maxRecDepth 20000 in
theorem names6_any (X : ScX) (N : Nm) (w : World) (h : NmR w X N) : Calls Tryz.prog 84 #[X.v, .int .i64 6] w (NamesP w (some N.chans)) := by
  have H := Lib.hid h
  have hmf : ∀ (fn : Fn) (first cap : Array Value) (w : World), (Instr.makeFunc fn first cap).run Tryz.prog w = .ok (.func fn first cap) w := fun _ _ _ _ => rfl
  have HX := Lib.hid (Bx.new w X 46)
  clear h
  unfold ScX.v
  go_enter Tryz.func84, Tryz.ntmps84
  go_wp2
  exact bodyPost_ret (v := .tuple #[.int .i64 (X.n3 : Nat), .func (.func 118) #[] #[.pointer (some ⟨w.heap.size, 0, none⟩)]]) (by simp [results, Tryz.results84, go_sem]) rfl (namesP_some (below_alloc1 _ _) H.out.l3 (tellsC HX.out H.out.l3 (H.out.r3.below (below_alloc1 _ _))))
set_option maxRecDepth 20000 in
theorem names7_any (X : ScX) (N : Nm) (w : World) (h : NmR w X N) : Calls Tryz.prog 84 #[X.v, .int .i64 7] w (NamesP w (some N.procs)) := by
  have H := Lib.hid h
  have hmf : ∀ (fn : Fn) (first cap : Array Value) (w : World), (Instr.makeFunc fn first cap).run Tryz.prog w = .ok (.func fn first cap) w := fun _ _ _ _ => rfl
  have HX := Lib.hid (Bx.new w X 46)
  clear h
  unfold ScX.v
  go_enter Tryz.func84, Tryz.ntmps84
  go_wp2
  exact bodyPost_ret (v := .tuple #[.int .i64 (X.n4 : Nat), .func (.func 119) #[] #[.pointer (some ⟨w.heap.size, 0, none⟩)]]) (by simp [results, Tryz.results84, go_sem]) rfl (namesP_some (below_alloc1 _ _) H.out.l4 (tellsP HX.out H.out.l4 (H.out.r4.below (below_alloc1 _ _))))
set_option maxRecDepth 20000 in
theorem names8_any (X : ScX) (N : Nm) (w : World) (h : NmR w X N) : Calls Tryz.prog 84 #[X.v, .int .i64 8] w (NamesP w (some N.scals)) := by
  have H := Lib.hid h
  have hmf : ∀ (fn : Fn) (first cap : Array Value) (w : World), (Instr.makeFunc fn first cap).run Tryz.prog w = .ok (.func fn first cap) w := fun _ _ _ _ => rfl
  have HX := Lib.hid (Bx.new w X 46)
  clear h
  unfold ScX.v
  go_enter Tryz.func84, Tryz.ntmps84
  go_wp2
  exact bodyPost_ret (v := .tuple #[.int .i64 (X.n1 : Nat), .func (.func 120) #[] #[.pointer (some ⟨w.heap.size, 0, none⟩)]]) (by simp [results, Tryz.results84, go_sem]) rfl (namesP_some (below_alloc1 _ _) H.out.l1 (tellsS HX.out H.out.l1 (H.out.r1.below (below_alloc1 _ _))))
set_option maxRecDepth 20000 in
/-- Other operations tell no name. -/
theorem names0_any (X : ScX) (op : Int) (w : World) (h2 : op ≠ 2) (h3 : op ≠ 3) (h4 : op ≠ 4) (h6 : op ≠ 6) (h7 : op ≠ 7) (h8 : op ≠ 8) : Calls Tryz.prog 84 #[X.v, .int .i64 op] w (NamesP w none) := by
  unfold ScX.v
  go_enter Tryz.func84, Tryz.ntmps84
  go_wp2
  exact bodyPost_ret (v := .tuple #[.int .i64 0, .nilFunc]) (by simp [results, Tryz.results84, go_sem]) rfl ⟨below_alloc1 _ _, rfl⟩
theorem names_any (X : ScX) (N : Nm) (op : Int) (w : World) (h : NmR w X N) : Calls Tryz.prog 84 #[X.v, .int .i64 op] w (NamesP w (nmOf N op)) := by
  by_cases h2 : op = 2
  · subst h2; exact names2_any X N w h
  by_cases h3 : op = 3
  · subst h3; exact names3_any X N w h
  by_cases h4 : op = 4
  · subst h4; exact names4_any X N w h
  by_cases h6 : op = 6
  · subst h6; exact names6_any X N w h
  by_cases h7 : op = 7
  · subst h7; exact names7_any X N w h
  by_cases h8 : op = 8
  · subst h8; exact names8_any X N w h
  have e : nmOf N op = none := by unfold nmOf; simp [h2, h3, h4, h6, h7, h8]
  rw [e]
  exact names0_any X op w h2 h3 h4 h6 h7 h8
end Go.Proofs.YtmnigdphikoljaaGreatDoor.et
namespace Go.Proofs.YtmnigdphikoljaaGreatDoor.et
open Go.ChangeShapes Go.WideShapes Go.ChangeAt Go.RowKit Go.Deep

/-- The first place, from k on, at which a name stands. -/
def findF (s : ByteArray) : Nat → List ByteArray → Option Nat
  | _, [] => none
  | k, x :: l => if x.toList == s.toList then some k else findF s (k + 1) l
theorem find_at {s : ByteArray} {l : List ByteArray} {k : Nat} (h : k < l.length) (o : Option Nat) (hf : findF s k (l.drop k) = o) : if (l.getD k default).toList == s.toList then o = some k else findF s (k + 1) (l.drop (k + 1)) = o := by
  rw [drop_at default h, findF] at hf
  split <;> rename_i h2
  · rw [if_pos h2] at hf; exact hf.symm
  · rw [if_neg h2] at hf; exact hf
/-- A place that may be none. -/
def optP (o : Option Nat) (e : Ending) : Prop := e = .returned (.tuple #[.int .i64 ((o.getD 0 : Nat) : Int), .bool o.isSome])

set_option maxRecDepth 20000 in
set_option maxHeartbeats 1000000 in
theorem first_any (X : ScX) (N : Nm) (op : Int) (s : ByteArray) (l : List ByteArray) (w : World) (h : NmR w X N) (hl : nmOf N op = some l) (hlen : l.length ≤ 1000000) :
    Calls Tryz.prog 40 #[X.v, .int .i64 op, .string s] w fun e w' => optP (findF s 0 l) e ∧ Below w.heap.size w w' := by
  have H := Lib.hid h
  have HL := Lib.hid hl
  obtain ⟨o, HO⟩ : ∃ o, Hid (findF s 0 l = o) := ⟨_, Lib.hid rfl⟩
  rw [HO.out]
  clear h hl
  go_enter Tryz.func40, Tryz.ntmps40
  go_wp2_with fail
  refine (names_any X N op _ (H.out.below (below_alloc1 _ _))).mono ?_
  rw [HL.out]
  rintro e w1 ⟨hb1, V, rfl, hT⟩
  have HB : Hid (Below w.heap.size w w1) := Lib.hid (bthen (below_alloc1 _ _) hb1)
  obtain ⟨g, lb, rfl, hgE, hT⟩ := hT
  have HT := Lib.hid hT
  obtain ⟨n, HN⟩ : ∃ n, Hid (l.length = n) := ⟨_, Lib.hid rfl⟩
  rw [HN.out]
  have hnn : n ≤ 1000000 := by rw [← HN.out]; exact hlen
  clear hb1 hT hlen
  go_wp2
  go_loopw [18] (fun i wr => ∃ k : Nat, k ≤ n ∧ i = .int .i64 k ∧ Hid (Below w1.heap.size w1 wr) ∧ Hid (findF s k (l.drop k) = o)) (fun i _ => n - (intOf i).toNat)
  case atStart => exact ⟨0, Nat.zero_le _, rfl, Lib.hid (Below.refl _ _), Lib.hid (by rw [List.drop_zero]; exact HO.out)⟩
  case round =>
    obtain ⟨k, hk, rfl, HB2, HF⟩ := hrel
    by_cases hlt : k < n
    · have hi9 : (k : Int) < (n : Int) := by omega
      have cS := HT.out wr k HB2.out (by rw [HN.out]; exact hlt)
      have hF := find_at (by rw [HN.out]; exact hlt) o HF.out
      obtain ⟨x, HX⟩ : ∃ x, Hid (l.getD k default = x) := ⟨_, Lib.hid rfl⟩
      rw [HX.out] at hF cS
      go_wp2_with fail
      refine cS.mono ?_
      rintro e w2 ⟨rfl, hb2⟩
      have HB3 : Hid (Below w1.heap.size w1 w2) := Lib.hid (HB2.out.trans (hb2.mono HB2.out.size))
      clear hb2 cS
      cases hxs : x.toList == s.toList <;> rw [hxs] at hF <;> simp only [if_true, Bool.false_eq_true, if_false] at hF
      · have HF2 := Lib.hid hF
        clear hF
        go_wp2
        go_roundw
        case rel => exact ⟨k + 1, by omega, by go_num, HB3, HF2⟩
        case measure => simp [intOf]; omega
      · have HF2 := Lib.hid hF
        clear hF
        go_wp2
        refine bodyPost_ret (v := .tuple #[.int .i64 k, .bool true]) (by simp [results, Tryz.results40, go_sem]) rfl ⟨?_, ?_⟩
        · rw [HF2.out]; rfl
        · exact bthen HB.out HB3.out
    · obtain rfl : k = n := by omega
      have HF2 : Hid (o = none) := Lib.hid (by rw [← HF.out, ← HN.out, List.drop_length]; rfl)
      go_wp2
      refine bodyPost_ret (v := .tuple #[.int .i64 0, .bool false]) (by simp [results, Tryz.results40, go_sem]) rfl ⟨?_, ?_⟩
      · rw [HF2.out]; rfl
      · exact bthen HB.out HB2.out

/-- Where the thing stands of which a node speaks, among those of its sort. -/
def placeF (nd : Int × Int) : Int := if nd.1 = 7 then nd.2 / 16 else nd.2
theorem place_any (nd : Int × Int) (w : World) (h1 : nd.1 = 7 → 0 ≤ nd.2) (h2 : nd.2 ≤ 9000000000000000000) : Calls Tryz.prog 42 #[.agg #[.int .i64 nd.1, .int .i64 nd.2]] w fun e w' => e = .returned (.int .i64 (placeF nd)) ∧ Below w.heap.size w w' := by
  obtain ⟨op, n⟩ := nd
  dsimp only at h1 h2 ⊢
  by_cases h7 : op = 7
  · subst h7
    have HE : Hid (placeF (7, n) = n / 16) := Lib.hid rfl
    have hn0 : 0 ≤ n := h1 rfl
    have hw : n.tdiv 16 = n / 16 := Int.tdiv_eq_ediv_of_nonneg hn0
    have hw2 : wrap64 (n / 16) = n / 16 := by unfold wrap64; omega
    clear h1
    go_enter Tryz.func42, Tryz.ntmps42
    go_wp2
    go_ret
    exact ⟨by rw [HE.out]; rfl, below_alloc1 _ _⟩
  · have HE : Hid (placeF (op, n) = n) := Lib.hid (if_neg h7)
    go_enter Tryz.func42, Tryz.ntmps42
    go_wp2
    go_ret
    exact ⟨by rw [HE.out]; rfl, below_alloc1 _ _⟩

/-- The name that a node tells. -/
def nameOf (N : Nm) (nd : Int × Int) : Option ByteArray := (nmOf N nd.1).map (fun l => l.getD (placeF nd).toNat default)
/-- What a node speaks of is there. -/
def There (N : Nm) (nd : Int × Int) : Prop := ∀ l, nmOf N nd.1 = some l → 0 ≤ nd.2 ∧ nd.2 ≤ 9000000000000000000 ∧ (placeF nd).toNat < l.length ∧ l.length ≤ 1000000
theorem placeF_nat {nd : Int × Int} (h : 0 ≤ nd.2) : placeF nd = ((placeF nd).toNat : Int) := by
  unfold placeF
  split <;> omega

theorem equalIn_func_nil {P : Program} (w : World) (d : Nat) (t : TypeId) {ps rs : Array TypeId} {va : Bool} (h : P.underlying t = some (.func ps rs va)) (f : Fn) (x y : Array Value) :
    (Op.equalIn (d + 1) t (.func f x y) .nilFunc).run P w = .ok false w := by
  simp [Op.equalIn, run_underlying h]
theorem eql_func_nil {P : Program} (w : World) (t : TypeId) {ps rs : Array TypeId} {va : Bool} (h : P.underlying t = some (.func ps rs va)) (f : Fn) (x y : Array Value) : (binOp .eql t (.func f x y) .nilFunc).run P w = .ok (.bool false) w := by
  simp only [binOp]
  simp [Op.equal, Op.maxDepth, equalIn_func_nil w 9999 t h f x y]
theorem equalIn_nil_nil {P : Program} (w : World) (d : Nat) (t : TypeId) {ps rs : Array TypeId} {va : Bool} (h : P.underlying t = some (.func ps rs va)) :
    (Op.equalIn (d + 1) t .nilFunc .nilFunc).run P w = .ok true w := by
  simp [Op.equalIn, run_underlying h]
theorem eql_nil_nil {P : Program} (w : World) (t : TypeId) {ps rs : Array TypeId} {va : Bool} (h : P.underlying t = some (.func ps rs va)) : (binOp .eql t .nilFunc .nilFunc).run P w = .ok (.bool true) w := by
  simp only [binOp]
  simp [Op.equal, Op.maxDepth, equalIn_nil_nil w 9999 t h]
set_option maxRecDepth 20000 in
set_option maxHeartbeats 1000000 in
theorem name_any (X : ScX) (N : Nm) (nd : Int × Int) (w : World) (h : NmR w X N) (ht : There N nd) :
    Calls Tryz.prog 39 #[X.v, .agg #[.int .i64 nd.1, .int .i64 nd.2]] w fun e w' => e = .returned (.tuple #[.string ((nameOf N nd).getD ⟨#[]⟩), .bool (nameOf N nd).isSome]) ∧ Below w.heap.size w w' := by
  have H := Lib.hid h
  have hpl : 0 ≤ nd.2 → placeF nd = ((placeF nd).toNat : Int) := placeF_nat
  cases hl : nmOf N nd.1 with
  | none =>
    have HO : Hid (nameOf N nd = none) := Lib.hid (by unfold nameOf; rw [hl]; rfl)
    have HL := Lib.hid hl
    rw [HO.out]
    obtain ⟨op, n⟩ := nd
    have hnn : ∀ w, (binOp .eql 53 .nilFunc .nilFunc).run Tryz.prog w = .ok (.bool true) w := fun w => eql_nil_nil w _ Tryz.underlying53
    clear h ht hl hpl
    unfold ScX.v
    go_enter Tryz.func39, Tryz.ntmps39
    go_wp2_with fail
    refine (names_any X N op _ (H.out.below (bthen (below_alloc1 _ _) (below_alloc1 _ _)))).mono ?_
    rw [HL.out]
    rintro e w1 ⟨hb1, rfl⟩
    have HB : Hid (Below w.heap.size w w1) := Lib.hid (bthen (bthen (below_alloc1 _ _) (below_alloc1 _ _)) hb1)
    clear hb1
    go_wp2
    exact bodyPost_ret (v := .tuple #[.string ⟨#[]⟩, .bool false]) (by simp [results, Tryz.results39, go_sem]) rfl ⟨rfl, HB.out⟩
  | some l =>
    obtain ⟨h0, h9, hlt, hlen⟩ := ht l hl
    obtain ⟨x, HX⟩ : ∃ x, Hid (l.getD (placeF nd).toNat default = x) := ⟨_, Lib.hid rfl⟩
    have HO : Hid (nameOf N nd = some x) := Lib.hid (by unfold nameOf; rw [hl]; exact congrArg some HX.out)
    have HL := Lib.hid hl
    obtain ⟨k, hk⟩ : ∃ k, (placeF nd).toNat = k := ⟨_, rfl⟩
    have HP : Hid (placeF nd = (k : Int)) := Lib.hid (by rw [← hk]; exact hpl h0)
    rw [hk] at hlt HX
    have HLT := Lib.hid hlt
    rw [HO.out]
    obtain ⟨op, n⟩ := nd
    dsimp only at h0 h9
    have hnn : ∀ (f : Fn) (x y : Array Value) (w : World), (binOp .eql 53 (.func f x y) .nilFunc).run Tryz.prog w = .ok (.bool false) w := fun f x y w => eql_func_nil w _ Tryz.underlying53 f x y
    clear h ht hl hpl hk hlt
    unfold ScX.v
    go_enter Tryz.func39, Tryz.ntmps39
    go_wp2_with fail
    have ha : (w.alloc (.cells #[.slice X.a1 X.n1 X.c1, .slice X.a2 X.n2 X.c2, .slice X.a3 X.n3 X.c3, .slice X.a4 X.n4 X.c4, .slice X.a5 X.n5 X.c5, .int .i64 X.self] 46)).heap.size = w.heap.size + 1 := by simp
    refine (names_any X N op _ (H.out.below (bthen (below_alloc1 _ _) (below_alloc1 _ _)))).mono ?_
    rw [HL.out]
    rintro e w1 ⟨hb1, V, rfl, g, lb, rfl, eg, hT⟩
    have HB : Hid (Below w.heap.size w w1) := Lib.hid (bthen (bthen (below_alloc1 _ _) (below_alloc1 _ _)) hb1)
    have c0 : w1.cell? ⟨w.heap.size + 1, 0, none⟩ = some (.int .i64 op) := (hb1.cell (p := ⟨w.heap.size + 1, 0, none⟩) (by simp)).trans (World.cell?_alloc_at _ _ _ _ (by simp))
    have c1 : w1.cell? ⟨w.heap.size + 1, 1, none⟩ = some (.int .i64 n) := (hb1.cell (p := ⟨w.heap.size + 1, 1, none⟩) (by simp)).trans (World.cell?_alloc_at _ _ _ _ (by simp))
    have HT := Lib.hid hT
    clear hb1 hT ha
    go_wp2_with fail
    refine (place_any (op, n) w1 (fun _ => h0) h9).mono ?_
    rintro e w2 ⟨rfl, hb2⟩
    rw [HP.out]
    have HB2 : Hid (Below w1.heap.size w1 w2) := Lib.hid hb2
    clear hb2 c0 c1
    go_wp2_with fail
    refine (HT.out w2 k HB2.out HLT.out).mono ?_
    rw [HX.out]
    rintro e w3 ⟨rfl, hb3⟩
    have HB3 : Hid (Below w.heap.size w w3) := Lib.hid (bthen HB.out (bthen HB2.out hb3))
    clear hb3
    go_wp2
    exact bodyPost_ret (v := .tuple #[.string x, .bool true]) (by simp [results, Tryz.results39, go_sem]) rfl ⟨rfl, HB3.out⟩
end Go.Proofs.YtmnigdphikoljaaGreatDoor.et
