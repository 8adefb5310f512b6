/- The document's next, flip, until: rows of bools. -/
import Derived.Test.YtmdfiamffipbcaaDoorNnfDoc
import Derived.Test.YtmdfiamffipbcaaDoorNnfSem
namespace Go.Proofs.YtmdfiamffipbcaaDoor.nf
open Go.ChangeShapes Go.WideShapes Go.ChangeAt Go.RowKit Go.Deep sr lt

def encBo (x : Bool) : List Value := [.bool x]
theorem encBo_len (x : Bool) : (encBo x).length = 1 := rfl
theorem encBo_one (x : Bool) : ∀ u ∈ encBo x, u.oneCell' = true := fun u hu => by
  simp [encBo] at hu
  subst hu
  rfl
theorem infoBo : (Tryd.prog.info? 4).map (fun i => (i.zero, i.size, i.bytes)) = some (some (.bool false), 1, 1) := by kernel_rfl
/-- A slice of bools at address A (nil let in) reads as l. -/
def BL (w : World) (A : Option Addr) (l : List Bool) : Prop :=
  0 < l.length → ∃ b off, A = some ⟨b, off, none⟩ ∧ b < w.heap.size ∧ ∀ i, i < l.length → w.cell? ⟨b, off + i, none⟩ = some (.bool (l.getD i false))
theorem BL.below {w w' : World} {A : Option Addr} {l : List Bool} (h : BL w A l) (hb : Below w.heap.size w w') : BL w' A l := fun hn => by
  obtain ⟨b, off, e, hl, hc⟩ := h hn
  exact ⟨b, off, e, Nat.lt_of_lt_of_le hl hb.size, fun i hi => (hb.cell (p := ⟨b, off + i, none⟩) hl).trans (hc i hi)⟩
theorem BL.nil (w : World) (A : Option Addr) : BL w A [] := fun h => absurd h (by simp)
theorem rs_bl {w : World} {A : Option Addr} {l : List Bool} (h : RS encBo 1 w A l) : BL w A l := fun hn => by
  obtain ⟨b, off, e, hb, hc⟩ := h hn
  refine ⟨b, off, e, hb, fun i hi => ?_⟩
  have := hc i hi 0 (by decide)
  rw [Nat.mul_one, Nat.add_zero] at this
  exact this
/-- What a call leaves that hands back a row of bools. -/
def BlP (w : World) (L : List Bool) (e : Ending) (w' : World) : Prop := ∃ A c, e = .returned (.slice A L.length c) ∧ BL w' A L ∧ Below w.heap.size w w' ∧ ∀ a, A = some a → w.heap.size ≤ a.block
theorem BlP.after {w w1 : World} {L : List Bool} {e : Ending} {w' : World} (hb : Below w.heap.size w w1) (h : BlP w1 L e w') : BlP w L e w' := by
  obtain ⟨A, c, h1, h2, h3, h4⟩ := h
  exact ⟨A, c, h1, h2, hb.trans (h3.mono hb.size), fun a ha => Nat.le_trans hb.size (h4 a ha)⟩
theorem ob_form {base : Nat} {w : World} {v : Value} {l : List Bool} (h : OR encBo 1 base 4 w v l) : ∃ A c, v = .slice A l.length c ∧ BL w A l ∧ ∀ a, A = some a → base ≤ a.block := by
  obtain ⟨A, c, e, hr⟩ := OR.rs encBo_len h
  refine ⟨A, c, e, rs_bl hr, fun a ha => ?_⟩
  have h' : w.ownsRow base 4 1 v l.length (flatR encBo l) := h
  subst ha
  subst e
  rcases Go.Joins.ownsRow_forms h' with ⟨e2, _⟩ | ⟨g, cap, e2⟩
  · cases e2
  · have e3 : a = ⟨g, 0, none⟩ := by injection e2 with e3; injection e3
    subst e3
    exact (h'.lt g rfl).1
theorem bl_row {w : World} {b n : Nat} {t : TypeId} {L : List Bool} (hn : L.length = n) (h : w.rowIs b t n (fun j => .bool (L.getD j false))) : BL w (some ⟨b, 0, none⟩) L := fun _ =>
  ⟨b, 0, rfl, h.lt, fun i hi => by rw [Nat.zero_add]; exact h.cell (by omega)⟩
set_option maxRecDepth 20000 in
set_option maxHeartbeats 4000000 in
theorem next_any (i loop n : Nat) (w : World) (hi : i < 1000000) : Calls Tryd.prog 38 #[.int .i64 i, .int .i64 loop, .int .i64 n] w fun e w' => e = .returned (.int .i64 (nxt loop n i : Nat)) ∧ w' = w := by
  obtain ⟨r, HR⟩ : ∃ r, Hid (nxt loop n i = r) := ⟨_, Lib.hid rfl⟩
  rw [HR.out]
  by_cases h : i + 1 < n
  · have hr : r = i + 1 := by have := HR.out; unfold nxt at this; rw [if_pos h] at this; exact this.symm
    subst hr
    clear HR
    go_enter Tryd.func38, Tryd.ntmps38
    go_wp2
    go_ret
    exact ⟨rfl, rfl⟩
  · have hr : r = loop := by have := HR.out; unfold nxt at this; rw [if_neg h] at this; exact this.symm
    subst hr
    clear HR
    go_enter Tryd.func38, Tryd.ntmps38
    go_wp2
    go_ret
    exact ⟨rfl, rfl⟩
theorem flip_snoc {a : List Bool} {i : Nat} (h : i < a.length) : (flipF (a.take i)) ++ [!(a.getD i false)] = flipF (a.take (i + 1)) := by
  unfold flipF
  rw [List.take_add_one, List.map_append, List.getElem?_eq_getElem h]
  simp [List.getD, h]
set_option maxRecDepth 20000 in
set_option maxHeartbeats 8000000 in
theorem flip_any (a : List Bool) (A : Option Addr) (c m : Nat) (w : World) (hm : m = a.length) (hm2 : m ≤ 100000) (hA : BL w A a) :
    Calls Tryd.prog 37 #[.slice A m c] w (BlP w (flipF a)) := by
  have HM := Lib.hid hm
  have HA := Lib.hid hA
  clear hm hA
  go_enter Tryd.func37, Tryd.ntmps37
  go_wp2
  go_loopw [3, 4] (fun ov iv wr => ∃ (i : Nat) (v : Value), i ≤ m ∧ iv = .int .i64 i ∧ v = ov ∧ Hid (OR encBo 1 w.heap.size 4 wr v (flipF (a.take i))) ∧ Hid (Below w.heap.size w wr)) (fun _ iv _ => m - (intOf iv).toNat)
  case atStart => exact ⟨0, _, Nat.zero_le _, rfl, rfl, Lib.hid (World.ownsRow_nil _ _ _ _), Lib.hid (Below.refl _ _)⟩
  case round =>
    obtain ⟨i, v, hi, rfl, rfl, HO, HB⟩ := hrel
    by_cases hlt : i < m
    · have HIL : Hid (i < a.length) := Lib.hid (by rw [← HM.out]; exact hlt)
      obtain ⟨b, o, rfl, hb, hc⟩ := (HA.out.below HB.out) (by rw [← HM.out]; omega)
      have c1 := hc i HIL.out
      obtain ⟨x, HX⟩ : ∃ x, Hid (a.getD i false = x) := ⟨_, Lib.hid rfl⟩
      rw [HX.out] at c1
      clear hc
      have HL : Hid ((flipF (a.take i)).length ≤ 100000) := Lib.hid (by rw [flip_len, List.length_take]; omega)
      go_wp2_with (first
        | (at_builtin; refine list_append_own encBo_len encBo_one Tryd.underlying36 infoBo rfl (by decide) (by decide) w.heap.size _ rfl (.tmp 11) (.tmp 17) rfl rfl _ (flipF (a.take i)) rfl (World.ownsRow.alloc HO.out _) (!x) _ rfl rfl HL.out (by have := HB.out.size; simp; omega) _ (World.alloc_heap_new _ _) ?_; intro v5 w5 ho5 hb5 _; have HO5 := Lib.hid ho5; have HB5 : Hid (Below w.heap.size w w5) := Lib.hid ((HB.out.alloc HB.out.size _).trans hb5); clear ho5 hb5)
        | fail)
      have h5 := HO5.out
      rw [← HX.out, flip_snoc HIL.out] at h5
      exact ⟨⟨i + 1, _, by omega, rfl, rfl, Lib.hid h5, HB5⟩, by simp [intOf]; omega⟩
    · obtain rfl : i = m := by omega
      go_wp2
      go_ret
      have h5 := HO.out
      rw [HM.out, List.take_length] at h5
      obtain ⟨A5, c5, e5, h6, h7⟩ := ob_form h5
      exact ⟨A5, c5, by rw [e5]; rfl, h6, HB.out, h7⟩
end Go.Proofs.YtmdfiamffipbcaaDoor.nf
