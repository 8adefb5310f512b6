/- Contracts that the claim stands on, several texts in one: ExprKind, ExprPut, LexRun, LexName. -/
import Derived.Lib.OthersKept
import Derived.Laws.RangeAny
import Derived.Lib.TrimU
import Derived.Deep.LoopGhost
import Derived.Shelf.Abstract
import Derived.Test.YtmnigdphikoljaaGreatDoorPut1
import Derived.Test.YtmnigdphikoljaaGreatDoorPut2
namespace Go.Proofs.YtmnigdphikoljaaGreatDoor
open Go.ChangeShapes Go.WideShapes Go.ChangeAt Go.RowKit

/-- The variable of a list, what it is of and over what; none: there is none. -/
def varK (nsc : Nat) (l : List (Int × Int)) (n : Int) : Option (Int × Int) :=
  if 0 ≤ n ∧ n < l.length ∧ (0 ≤ (l.getD n.toNat (0, 0)).1 ∧ (l.getD n.toNat (0, 0)).1 ≤ nsc) ∧ (0 ≤ (l.getD n.toNat (0, 0)).2 ∧ (l.getD n.toNat (0, 0)).2 ≤ nsc) then some (l.getD n.toNat (0, 0)) else none
theorem varK_some {nsc : Nat} {l : List (Int × Int)} {n x y : Int} (h : varK nsc l n = some (x, y)) : ∃ k : Nat, n = k ∧ k < l.length ∧ l.getD k (0, 0) = (x, y) ∧ 0 ≤ x ∧ x ≤ nsc ∧ 0 ≤ y ∧ y ≤ nsc := by
  unfold varK at h
  split at h
  next hc =>
    injection h with h
    refine ⟨n.toNat, by omega, by omega, h, ?_⟩
    rw [h] at hc
    omega
  next => cases h
theorem varK_none {nsc : Nat} {l : List (Int × Int)} {n : Int} (h : varK nsc l n = none) : (n < 0 ∨ (l.length : Int) ≤ n) ∨ ∃ k : Nat, n = k ∧ k < l.length ∧
    (((l.getD k (0, 0)).1 < 0 ∨ (nsc : Int) < (l.getD k (0, 0)).1) ∨ (0 ≤ (l.getD k (0, 0)).1 ∧ (l.getD k (0, 0)).1 ≤ nsc ∧ ((l.getD k (0, 0)).2 < 0 ∨ (nsc : Int) < (l.getD k (0, 0)).2))) := by
  unfold varK at h
  split at h
  next => cases h
  next hc =>
    by_cases h1 : n < 0 ∨ (l.length : Int) ≤ n
    · exact .inl h1
    · right
      obtain ⟨k, rfl⟩ : ∃ k : Nat, n = k := ⟨n.toNat, by omega⟩
      refine ⟨k, rfl, by omega, ?_⟩
      rw [Int.toNat_natCast] at hc
      omega

/-- A scope in a box. -/
def Bx (w : World) (b : Nat) (X : ScX) : Prop := (w.cell? ⟨b, 0, none⟩ = some (.slice X.a1 X.n1 X.c1) ∧ w.cell? ⟨b, 1, none⟩ = some (.slice X.a2 X.n2 X.c2) ∧ w.cell? ⟨b, 2, none⟩ = some (.slice X.a3 X.n3 X.c3) ∧
  w.cell? ⟨b, 3, none⟩ = some (.slice X.a4 X.n4 X.c4) ∧ w.cell? ⟨b, 4, none⟩ = some (.slice X.a5 X.n5 X.c5) ∧ w.cell? ⟨b, 5, none⟩ = some (.int .i64 X.self)) ∧ b < w.heap.size
theorem Bx.new (w : World) (X : ScX) (t : TypeId) : Bx (w.alloc (.cells #[.slice X.a1 X.n1 X.c1, .slice X.a2 X.n2 X.c2, .slice X.a3 X.n3 X.c3, .slice X.a4 X.n4 X.c4, .slice X.a5 X.n5 X.c5, .int .i64 X.self] t)) w.heap.size X :=
  ⟨⟨World.cell?_alloc_at _ _ _ _ rfl, World.cell?_alloc_at _ _ _ _ rfl, World.cell?_alloc_at _ _ _ _ rfl, World.cell?_alloc_at _ _ _ _ rfl, World.cell?_alloc_at _ _ _ _ rfl, World.cell?_alloc_at _ _ _ _ rfl⟩, by simp⟩
theorem Bx.below {w w' : World} {b : Nat} {X : ScX} (h : Bx w b X) (k : Below w.heap.size w w') : Bx w' b X := by
  obtain ⟨⟨c0, c1, c2, c3, c4, c5⟩, hb⟩ := h
  exact ⟨⟨(k.cell (p := ⟨b, 0, none⟩) hb).trans c0, (k.cell (p := ⟨b, 1, none⟩) hb).trans c1, (k.cell (p := ⟨b, 2, none⟩) hb).trans c2, (k.cell (p := ⟨b, 3, none⟩) hb).trans c3, (k.cell (p := ⟨b, 4, none⟩) hb).trans c4, (k.cell (p := ⟨b, 5, none⟩) hb).trans c5⟩, Nat.lt_of_lt_of_le hb k.size⟩
theorem below_alloc1 (w : World) (o : Obj) : Below w.heap.size w (w.alloc o) := (Below.refl _ _).alloc (Nat.le_refl _) _
theorem bthen {a b c : World} (h : Below a.heap.size a b) (k : Below b.heap.size b c) : Below a.heap.size a c := h.trans (k.mono h.size)

set_option maxHeartbeats 1000000 in
theorem variable_yes (X : ScX) (A : Option Addr) (m c : Nat) (l : List (Int × Int)) (n x y : Int) (w : World) (hn1 : X.n1 ≤ 1000000000000000) (hm : m = l.length) (hA : VA w A l) (h : varK X.n1 l n = some (x, y)) :
    Calls Tryz.prog 111 #[X.v, .slice A m c, .int .i64 n] w fun e w' => e = .returned (.tuple #[.int .i64 (kindOf x), .int .i64 (kindOf y), .bool true]) ∧ Below w.heap.size w w' := by
  obtain ⟨k, rfl, hk, hl, x1, x2, y1, y2⟩ := varK_some h
  have HL := Lib.hid hl
  have HM := Lib.hid hm
  have HA := Lib.hid hA
  clear h hl hm hA
  unfold ScX.v
  go_enter Tryz.func111, Tryz.ntmps111
  go_wp2_with fail
  refine (entryV_yes A c m k l _ HM.out (HA.out.below (below_alloc1 _ _)) (by rw [HM.out]; exact hk)).mono ?_
  rintro e w1 ⟨⟨s, p, q, r, rfl⟩, hb1⟩
  rw [HL.out]
  have HB1 : Hid (Below w.heap.size w w1) := Lib.hid (bthen (below_alloc1 _ _) hb1)
  have HX1 := Lib.hid ((Bx.new w X 82).below hb1)
  clear hb1
  obtain ⟨c1, hz⟩ := HX1.out
  go_wp2_with fail
  refine (named_yes X x _ x1 x2 hn1).mono ?_
  rintro e w2 ⟨rfl, hb2⟩
  clear c1 hz
  obtain ⟨c2, hz2⟩ := ((HX1.out.below (below_alloc1 _ _)).below hb2)
  have d2 : w2.cell? ⟨w1.heap.size, 2, none⟩ = some (.int .i64 y) := (hb2.cell (p := ⟨w1.heap.size, 2, none⟩) (by simp)).trans (World.cell?_alloc_at _ _ _ _ rfl)
  have HB2 : Hid (Below w.heap.size w w2) := Lib.hid (bthen HB1.out (bthen (below_alloc1 _ _) hb2))
  clear hb2
  go_wp2_with fail
  refine (named_yes X y _ y1 y2 hn1).mono ?_
  rintro e w3 ⟨rfl, hb3⟩
  have HB3 : Hid (Below w.heap.size w w3) := Lib.hid (bthen HB2.out hb3)
  clear hb3 c2 d2
  go_wp2
  exact bodyPost_ret (results_tmp3 rfl _ _ _) rfl ⟨rfl, HB3.out⟩

set_option maxHeartbeats 1000000 in
theorem variable_no (X : ScX) (A : Option Addr) (m c : Nat) (l : List (Int × Int)) (n : Int) (w : World) (hn1 : X.n1 ≤ 1000000000000000) (hm : m = l.length) (hA : VA w A l) (h : varK X.n1 l n = none) :
    Calls Tryz.prog 111 #[X.v, .slice A m c, .int .i64 n] w fun e w' => e = .returned (.tuple #[.int .i64 0, .int .i64 0, .bool false]) ∧ Below w.heap.size w w' := by
  have HM := Lib.hid hm
  have HA := Lib.hid hA
  rcases varK_none h with hc | ⟨k, rfl, hk, hc⟩
  · have HC := Lib.hid hc
    clear hm hA h hc
    unfold ScX.v
    go_enter Tryz.func111, Tryz.ntmps111
    go_wp2_with fail
    refine (entryV_no A c m n _ (by have := HC.out; have := HM.out; omega)).mono ?_
    rintro e w1 ⟨rfl, hb1⟩
    have HB1 : Hid (Below w.heap.size w w1) := Lib.hid (bthen (below_alloc1 _ _) hb1)
    clear hb1
    go_wp2
    refine bodyPost_ret (results_tmp3 rfl _ _ _) rfl ⟨rfl, bthen HB1.out (below_alloc1 _ _)⟩
  · clear hm hA h
    obtain ⟨x, y, HL⟩ : ∃ x y, Hid (l.getD k (0, 0) = (x, y)) := ⟨_, _, Lib.hid rfl⟩
    rw [HL.out] at hc
    simp only at hc
    rcases hc with hc | ⟨x1, x2, hc⟩
    · have HC := Lib.hid hc
      clear hc
      unfold ScX.v
      go_enter Tryz.func111, Tryz.ntmps111
      go_wp2_with fail
      refine (entryV_yes A c m k l _ HM.out (HA.out.below (below_alloc1 _ _)) (by rw [HM.out]; exact hk)).mono ?_
      rintro e w1 ⟨⟨s, p, q, r, rfl⟩, hb1⟩
      rw [HL.out]
      have HB1 : Hid (Below w.heap.size w w1) := Lib.hid (bthen (below_alloc1 _ _) hb1)
      have HX1 := Lib.hid ((Bx.new w X 82).below hb1)
      clear hb1
      obtain ⟨c1, hz⟩ := HX1.out
      go_wp2_with fail
      refine (named_no X x _ HC.out).mono ?_
      rintro e w2 ⟨rfl, hb2⟩
      clear c1 hz
      have HB2 : Hid (Below w.heap.size w w2) := Lib.hid (bthen HB1.out (bthen (below_alloc1 _ _) hb2))
      clear hb2
      go_wp2
      refine bodyPost_ret (results_tmp3 rfl _ _ _) rfl ⟨rfl, HB2.out⟩
    · have HC := Lib.hid hc
      clear hc
      unfold ScX.v
      go_enter Tryz.func111, Tryz.ntmps111
      go_wp2_with fail
      refine (entryV_yes A c m k l _ HM.out (HA.out.below (below_alloc1 _ _)) (by rw [HM.out]; exact hk)).mono ?_
      rintro e w1 ⟨⟨s, p, q, r, rfl⟩, hb1⟩
      rw [HL.out]
      have HB1 : Hid (Below w.heap.size w w1) := Lib.hid (bthen (below_alloc1 _ _) hb1)
      have HX1 := Lib.hid ((Bx.new w X 82).below hb1)
      clear hb1
      obtain ⟨c1, hz⟩ := HX1.out
      go_wp2_with fail
      refine (named_yes X x _ x1 x2 hn1).mono ?_
      rintro e w2 ⟨rfl, hb2⟩
      clear c1 hz
      obtain ⟨c2, hz2⟩ := ((HX1.out.below (below_alloc1 _ _)).below hb2)
      have d2 : w2.cell? ⟨w1.heap.size, 2, none⟩ = some (.int .i64 y) := (hb2.cell (p := ⟨w1.heap.size, 2, none⟩) (by simp)).trans (World.cell?_alloc_at _ _ _ _ rfl)
      have HB2 : Hid (Below w.heap.size w w2) := Lib.hid (bthen HB1.out (bthen (below_alloc1 _ _) hb2))
      clear hb2
      go_wp2_with fail
      refine (named_no X y _ HC.out).mono ?_
      rintro e w3 ⟨rfl, hb3⟩
      have HB3 : Hid (Below w.heap.size w w3) := Lib.hid (bthen HB2.out hb3)
      clear hb3 c2 d2
      go_wp2
      refine bodyPost_ret (results_tmp3 rfl _ _ _) rfl ⟨rfl, HB3.out⟩

/-- The kind of a variable of a list, if it is over nothing. -/
def plainK (nsc : Nat) (l : List (Int × Int)) (n : Int) : Int × Int := match varK nsc l n with
  | none => (0, 8)
  | some (x, y) => hadF (kindOf x) (kindOf y == 0) 9
/-- The kind of a variable, if it is over elements of which index is the kind. -/
def itemK (nsc : Nat) (l : List (Int × Int)) (n ix : Int) : Int × Int := match varK nsc l n with
  | none => (0, 8)
  | some (x, y) => hadF (kindOf x) (kindOf y != 0 && kindOf y == ix) 9
/-- What a call leaves that hands back a number and why. -/
def PairP (w : World) (r : Int × Int) (e : Ending) (w' : World) : Prop := e = .returned (.tuple #[.int .i64 r.1, .int .i64 r.2]) ∧ Below w.heap.size w w'

set_option maxHeartbeats 1000000 in
theorem plain_any (X : ScX) (A : Option Addr) (m c : Nat) (l : List (Int × Int)) (n : Int) (w : World) (hn1 : X.n1 ≤ 1000000000000000) (hm : m = l.length) (hA : VA w A l) :
    Calls Tryz.prog 76 #[X.v, .slice A m c, .int .i64 n] w (PairP w (plainK X.n1 l n)) := by
  have HM := Lib.hid hm
  have HA := Lib.hid hA
  clear hm hA
  cases hv : varK X.n1 l n with
  | none =>
    have HV := Lib.hid hv
    have HE : Hid (plainK X.n1 l n = (0, 8)) := Lib.hid (by unfold plainK; rw [hv])
    clear hv
    unfold ScX.v
    go_enter Tryz.func76, Tryz.ntmps76
    go_wp2_with fail
    refine (variable_no X A m c l n _ hn1 HM.out (HA.out.below (below_alloc1 _ _)) HV.out).mono ?_
    rintro e w1 ⟨rfl, hb1⟩
    have HB1 : Hid (Below w.heap.size w w1) := Lib.hid (bthen (below_alloc1 _ _) hb1)
    clear hb1
    go_wp2
    go_ret2
    exact ⟨by rw [HE.out]; rfl, HB1.out⟩
  | some xy =>
    obtain ⟨x, y⟩ := xy
    have HV := Lib.hid hv
    obtain ⟨a, b, HE⟩ : ∃ a b, Hid (hadF (kindOf x) (kindOf y == 0) 9 = (a, b)) := ⟨_, _, Lib.hid rfl⟩
    have HP : Hid (plainK X.n1 l n = (a, b)) := Lib.hid (by unfold plainK; rw [hv]; exact HE.out)
    clear hv
    unfold ScX.v
    go_enter Tryz.func76, Tryz.ntmps76
    go_wp2_with fail
    refine (variable_yes X A m c l n x y _ hn1 HM.out (HA.out.below (below_alloc1 _ _)) HV.out).mono ?_
    rintro e w1 ⟨rfl, hb1⟩
    have HB1 : Hid (Below w.heap.size w w1) := Lib.hid (bthen (below_alloc1 _ _) hb1)
    clear hb1
    go_wp2_with fail
    refine (had_any _ _ _ _).mono ?_
    rintro e w' ⟨rfl, rfl⟩
    rw [HE.out]
    go_wp2
    go_ret2
    exact ⟨by rw [HP.out]; rfl, HB1.out⟩

set_option maxHeartbeats 1000000 in
theorem item_any (X : ScX) (l : List (Int × Int)) (n ix : Int) (w : World) (hn1 : X.n1 ≤ 1000000000000000) (hm : X.n2 = l.length) (hA : VA w X.a2 l) :
    Calls Tryz.prog 77 #[X.v, .int .i64 n, .int .i64 ix] w (PairP w (itemK X.n1 l n ix)) := by
  have HM := Lib.hid hm
  have HA := Lib.hid hA
  clear hm hA
  cases hv : varK X.n1 l n with
  | none =>
    have HV := Lib.hid hv
    have HE : Hid (itemK X.n1 l n ix = (0, 8)) := Lib.hid (by unfold itemK; rw [hv])
    clear hv
    unfold ScX.v
    go_enter Tryz.func77, Tryz.ntmps77
    go_wp2_with fail
    refine (variable_no X _ _ _ l n _ hn1 HM.out (HA.out.below (below_alloc1 _ _)) HV.out).mono ?_
    rintro e w1 ⟨rfl, hb1⟩
    have HB1 : Hid (Below w.heap.size w w1) := Lib.hid (bthen (below_alloc1 _ _) hb1)
    clear hb1
    go_wp2
    go_ret2
    exact ⟨by rw [HE.out]; rfl, HB1.out⟩
  | some xy =>
    obtain ⟨x, y⟩ := xy
    have HV := Lib.hid hv
    obtain ⟨ky, HKY⟩ : ∃ ky, Hid (kindOf y = ky) := ⟨_, Lib.hid rfl⟩
    by_cases h0 : ky = 0
    · subst h0
      have HP : Hid (itemK X.n1 l n ix = (0, 9)) := Lib.hid (by unfold itemK; rw [hv]; simp only [HKY.out]; rfl)
      clear hv
      unfold ScX.v
      go_enter Tryz.func77, Tryz.ntmps77
      go_wp2_with fail
      refine (variable_yes X _ _ _ l n x y _ hn1 HM.out (HA.out.below (below_alloc1 _ _)) HV.out).mono ?_
      rw [HKY.out]
      rintro e w1 ⟨rfl, hb1⟩
      have HB1 : Hid (Below w.heap.size w w1) := Lib.hid (bthen (below_alloc1 _ _) hb1)
      clear hb1
      go_wp2_with fail
      refine (had_any _ _ _ _).mono ?_
      rintro e w' ⟨rfl, rfl⟩
      go_wp2
      go_ret2
      exact ⟨by rw [HP.out]; rfl, HB1.out⟩
    · have h1 : (ky != 0) = true := by simpa using h0
      obtain ⟨a, b, HE⟩ : ∃ a b, Hid (hadF (kindOf x) (ky == ix) 9 = (a, b)) := ⟨_, _, Lib.hid rfl⟩
      have HP : Hid (itemK X.n1 l n ix = (a, b)) := Lib.hid (by unfold itemK; rw [hv]; simp only [HKY.out, h1, Bool.true_and]; exact HE.out)
      clear hv
      unfold ScX.v
      go_enter Tryz.func77, Tryz.ntmps77
      go_wp2_with fail
      refine (variable_yes X _ _ _ l n x y _ hn1 HM.out (HA.out.below (below_alloc1 _ _)) HV.out).mono ?_
      rw [HKY.out]
      rintro e w1 ⟨rfl, hb1⟩
      have HB1 : Hid (Below w.heap.size w w1) := Lib.hid (bthen (below_alloc1 _ _) hb1)
      clear hb1
      go_wp2_with fail
      refine (had_any _ _ _ _).mono ?_
      rintro e w' ⟨rfl, rfl⟩
      rw [HE.out]
      go_wp2
      go_ret2
      exact ⟨by rw [HP.out]; rfl, HB1.out⟩

/-- The kind of the none of a scalar. -/
def noneK (nsc : Nat) (n : Int) : Int × Int := if 0 ≤ n ∧ n < nsc then (2 + n, 0) else (0, 8)
theorem none_any (X : ScX) (l : List Int) (n : Int) (w : World) (hn1 : X.n1 ≤ 1000000000000000) (hm : X.n1 = l.length) (hA : SA w X.a1 l) :
    Calls Tryz.prog 82 #[X.v, .int .i64 n] w (PairP w (noneK X.n1 n)) := by
  have HM := Lib.hid hm
  have HA := Lib.hid hA
  clear hm hA
  by_cases h : 0 ≤ n ∧ n < X.n1
  · have HE : Hid (noneK X.n1 n = (2 + n, 0)) := Lib.hid (if_pos h)
    obtain ⟨k, rfl⟩ : ∃ k : Nat, n = k := ⟨n.toNat, by omega⟩
    have hk : k < X.n1 := by omega
    clear h
    unfold ScX.v
    go_enter Tryz.func82, Tryz.ntmps82
    go_wp2_with fail
    refine (entryS_yes _ _ _ k l _ HM.out (HA.out.below (below_alloc1 _ _)) hk).mono ?_
    rintro e w1 ⟨⟨s, rfl⟩, hb1⟩
    have HB1 : Hid (Below w.heap.size w w1) := Lib.hid (bthen (below_alloc1 _ _) hb1)
    clear hb1
    generalize l.getD k 0 = x
    go_wp2
    go_ret2
    exact ⟨by rw [HE.out]; rfl, bthen HB1.out (below_alloc1 _ _)⟩
  · have HE : Hid (noneK X.n1 n = (0, 8)) := Lib.hid (if_neg h)
    have HH := Lib.hid h
    clear h
    unfold ScX.v
    go_enter Tryz.func82, Tryz.ntmps82
    go_wp2_with fail
    refine (entryS_no _ _ _ n _ (by have := HH.out; omega)).mono ?_
    rintro e w1 ⟨rfl, hb1⟩
    have HB1 : Hid (Below w.heap.size w w1) := Lib.hid (bthen (below_alloc1 _ _) hb1)
    clear hb1
    go_wp2
    go_ret2
    exact ⟨by rw [HE.out]; rfl, bthen HB1.out (below_alloc1 _ _)⟩
end Go.Proofs.YtmnigdphikoljaaGreatDoor
namespace Go.Proofs.YtmnigdphikoljaaGreatDoor
open Go.ChangeShapes Go.WideShapes Go.ChangeAt Go.RowKit

/-- Is there a channel? -/
def chanB (nsc : Nat) (l : List Int) (n : Int) : Bool := decide (0 ≤ n ∧ n < l.length ∧ 0 ≤ l.getD n.toNat 0 ∧ l.getD n.toNat 0 ≤ nsc)
/-- Is there a location? -/
def locB (l : List Int) (n : Int) : Bool := decide (0 ≤ n ∧ n / 16 < l.length ∧ n % 16 < l.getD (n / 16).toNat 0)

set_option maxHeartbeats 1000000 in
theorem hasChan_any (X : ScX) (l : List Int) (n : Int) (w : World) (hn1 : X.n1 ≤ 1000000000000000) (hm : X.n3 = l.length) (hA : CA w X.a3 l) :
    Calls Tryz.prog 80 #[X.v, .int .i64 n] w fun e w' => e = .returned (.bool (chanB X.n1 l n)) ∧ Below w.heap.size w w' := by
  have HM := Lib.hid hm
  have HA := Lib.hid hA
  clear hm hA
  by_cases h : 0 ≤ n ∧ n < X.n3
  · obtain ⟨k, rfl⟩ : ∃ k : Nat, n = k := ⟨n.toNat, by omega⟩
    have hk : k < X.n3 := by omega
    obtain ⟨x, HL⟩ : ∃ x, Hid (l.getD k 0 = x) := ⟨_, Lib.hid rfl⟩
    clear h
    by_cases hx : 0 ≤ x ∧ x ≤ X.n1
    · have HE : Hid (chanB X.n1 l k = true) := Lib.hid (decide_eq_true ⟨by omega, by rw [← HM.out]; omega, by rw [Int.toNat_natCast, HL.out]; exact hx⟩)
      unfold ScX.v
      go_enter Tryz.func80, Tryz.ntmps80
      go_wp2_with fail
      refine (entryC_yes _ _ _ k l _ HM.out (HA.out.below (below_alloc1 _ _)) hk).mono ?_
      rintro e w1 ⟨⟨s, p, q, r, t, rfl⟩, hb1⟩
      rw [HL.out]
      have HB1 : Hid (Below w.heap.size w w1) := Lib.hid (bthen (below_alloc1 _ _) hb1)
      have HX1 := Lib.hid ((Bx.new w X 82).below hb1)
      clear hb1
      obtain ⟨c1, hz⟩ := HX1.out
      go_wp2_with fail
      refine (named_yes X x _ hx.1 hx.2 hn1).mono ?_
      rintro e w2 ⟨rfl, hb2⟩
      have HB2 : Hid (Below w.heap.size w w2) := Lib.hid (bthen HB1.out (bthen (below_alloc1 _ _) hb2))
      clear hb2 c1 hz
      go_wp2
      go_ret
      exact ⟨by rw [HE.out]; rfl, HB2.out⟩
    · have HE : Hid (chanB X.n1 l k = false) := Lib.hid (decide_eq_false (by rw [Int.toNat_natCast, HL.out]; omega))
      have HX := Lib.hid hx
      clear hx
      unfold ScX.v
      go_enter Tryz.func80, Tryz.ntmps80
      go_wp2_with fail
      refine (entryC_yes _ _ _ k l _ HM.out (HA.out.below (below_alloc1 _ _)) hk).mono ?_
      rintro e w1 ⟨⟨s, p, q, r, t, rfl⟩, hb1⟩
      rw [HL.out]
      have HB1 : Hid (Below w.heap.size w w1) := Lib.hid (bthen (below_alloc1 _ _) hb1)
      have HX1 := Lib.hid ((Bx.new w X 82).below hb1)
      clear hb1
      obtain ⟨c1, hz⟩ := HX1.out
      go_wp2_with fail
      refine (named_no X x _ (by have := HX.out; omega)).mono ?_
      rintro e w2 ⟨rfl, hb2⟩
      have HB2 : Hid (Below w.heap.size w w2) := Lib.hid (bthen HB1.out (bthen (below_alloc1 _ _) hb2))
      clear hb2 c1 hz
      go_wp2
      go_ret
      exact ⟨by rw [HE.out]; rfl, HB2.out⟩
  · have HE : Hid (chanB X.n1 l n = false) := Lib.hid (decide_eq_false (by rw [← HM.out]; omega))
    have HH := Lib.hid h
    clear h
    unfold ScX.v
    go_enter Tryz.func80, Tryz.ntmps80
    go_wp2_with fail
    refine (entryC_no _ _ _ n _ (by have := HH.out; omega)).mono ?_
    rintro e w1 ⟨rfl, hb1⟩
    have HB1 : Hid (Below w.heap.size w w1) := Lib.hid (bthen (below_alloc1 _ _) hb1)
    clear hb1
    go_wp2
    go_ret
    exact ⟨by rw [HE.out]; rfl, bthen HB1.out (below_alloc1 _ _)⟩

set_option maxHeartbeats 1000000 in
theorem hasLoc_any (X : ScX) (l : List Int) (n : Int) (w : World) (hm : X.n4 = l.length) (hA : QA w X.a4 l) (hn : -9223372036854775808 ≤ n ∧ n ≤ 9223372036854775807) :
    Calls Tryz.prog 81 #[X.v, .int .i64 n] w fun e w' => e = .returned (.bool (locB l n)) ∧ Below w.heap.size w w' := by
  have HM := Lib.hid hm
  have HA := Lib.hid hA
  clear hm hA
  obtain ⟨hn1, hn2⟩ := hn
  by_cases h0 : 0 ≤ n
  · obtain ⟨d, HD⟩ : ∃ d : Nat, Hid (n / 16 = d) := ⟨(n / 16).toNat, Lib.hid (by omega)⟩
    by_cases hd : d < X.n4
    · obtain ⟨x, HL⟩ : ∃ x, Hid (l.getD d 0 = x) := ⟨_, Lib.hid rfl⟩
      have HE : Hid (locB l n = decide (n % 16 < x)) := Lib.hid (by
        unfold locB
        rw [HD.out, Int.toNat_natCast, HL.out, ← HM.out]
        simp only [h0, true_and, show (d : Int) < (X.n4 : Int) by omega])
      unfold ScX.v
      go_enter Tryz.func81, Tryz.ntmps81
      go_wp2_with fail
      rw [HD.out]
      refine (entryQ_yes _ _ _ d l _ HM.out (HA.out.below (below_alloc1 _ _)) hd).mono ?_
      rintro e w1 ⟨⟨s, p, A1, A2, m1, d1, m2, d2, rfl⟩, hb1⟩
      rw [HL.out]
      have HB1 : Hid (Below w.heap.size w w1) := Lib.hid (bthen (below_alloc1 _ _) hb1)
      clear hb1
      have h16 : 0 ≤ n % 16 := by omega
      go_wp2
      go_ret
      exact ⟨by rw [HE.out]; rfl, bthen HB1.out (below_alloc1 _ _)⟩
    · have HE : Hid (locB l n = false) := Lib.hid (decide_eq_false (by rw [HD.out, ← HM.out]; omega))
      unfold ScX.v
      go_enter Tryz.func81, Tryz.ntmps81
      go_wp2_with fail
      rw [HD.out]
      refine (entryQ_no _ _ _ d _ (by omega)).mono ?_
      rintro e w1 ⟨rfl, hb1⟩
      have HB1 : Hid (Below w.heap.size w w1) := Lib.hid (bthen (below_alloc1 _ _) hb1)
      clear hb1
      go_wp2
      go_ret
      exact ⟨by rw [HE.out]; rfl, bthen HB1.out (below_alloc1 _ _)⟩
  · have HE : Hid (locB l n = false) := Lib.hid (decide_eq_false (by omega))
    have ht := Int.tmod_eq_emod (a := n) (b := 16)
    have hq := Int.mul_tdiv_add_tmod n 16
    by_cases h16 : n.tdiv 16 = 0 ∧ 0 < X.n4
    · obtain ⟨hq0, hx⟩ := h16
      have hr : n.tmod 16 < 0 := by rw [hq0] at hq; omega
      obtain ⟨x, HL⟩ : ∃ x, Hid (l.getD 0 0 = x) := ⟨_, Lib.hid rfl⟩
      have HQ := Lib.hid hq0
      clear ht hq hq0
      unfold ScX.v
      go_enter Tryz.func81, Tryz.ntmps81
      go_wp2_with fail
      rw [HQ.out]
      refine (entryQ_yes _ _ _ 0 l _ HM.out (HA.out.below (below_alloc1 _ _)) hx).mono ?_
      rintro e w1 ⟨⟨s, p, A1, A2, m1, d1, m2, d2, rfl⟩, hb1⟩
      rw [HL.out]
      have HB1 : Hid (Below w.heap.size w w1) := Lib.hid (bthen (below_alloc1 _ _) hb1)
      clear hb1
      go_wp2
      go_ret
      exact ⟨by rw [HE.out]; rfl, bthen HB1.out (below_alloc1 _ _)⟩
    · have HQ : Hid (n.tdiv 16 < 0 ∨ (X.n4 : Int) ≤ n.tdiv 16) := Lib.hid (by
        by_cases hz : n.tdiv 16 = 0
        · omega
        · left
          have h3 : n.tmod 16 ≤ 0 := by
            have h4 := Int.neg_tmod n 16
            have h5 : 0 ≤ (-n).tmod 16 := Int.tmod_nonneg _ (by omega)
            omega
          have h6 : n.tdiv 16 ≤ 0 := by
            have h7 := Int.neg_tdiv n 16
            have h8 : 0 ≤ (-n).tdiv 16 := Int.tdiv_nonneg (by omega) (by omega)
            omega
          omega)
      clear ht hq
      unfold ScX.v
      go_enter Tryz.func81, Tryz.ntmps81
      go_wp2_with fail
      refine (entryQ_no _ _ _ _ _ HQ.out).mono ?_
      rintro e w1 ⟨rfl, hb1⟩
      have HB1 : Hid (Below w.heap.size w w1) := Lib.hid (bthen (below_alloc1 _ _) hb1)
      clear hb1
      go_wp2
      go_ret
      exact ⟨by rw [HE.out]; rfl, bthen HB1.out (below_alloc1 _ _)⟩

/-- The kind of what comes of parts. -/
def opK (op : Int) (ps : List Int) : Int × Int := if ps.all (fun p => p == (if opOf op = -1 then ps.getD 0 0 else opOf op)) then (opTo op, 0) else (0, 9)
theorem opOf_range (op : Int) : opOf op = -1 ∨ opOf op = 0 ∨ opOf op = 1 := by unfold opOf; split <;> (try split) <;> simp

set_option maxHeartbeats 1000000 in
theorem opKind_any (t op : Int) (fv : Value) (A : Option Addr) (c m : Nat) (ps : List Int) (w : World) (hm : m = ps.length) (hA : IA w A ps) (h1 : 0 < m) (h2 : m ≤ 1000) (hf : fv = .nilFunc ∨ ∃ g lb, fv = .func (.func g) #[] lb) :
    Calls Tryz.prog 83 #[.agg #[.int .i64 t, .int .i64 (opOf op), .int .i64 (opTo op), fv], .slice A m c] w (PairP w (opK op ps)) := by
  obtain ⟨b, o, rfl, hb, hc⟩ := hA (by omega)
  have c0 := hc 0 (by omega)
  rw [Nat.add_zero] at c0
  have HM := Lib.hid hm
  have HC := Lib.hid hc
  obtain ⟨p1, HP1⟩ : ∃ p1, Hid (opOf op = p1) := ⟨_, Lib.hid rfl⟩
  obtain ⟨p2, HP2⟩ : ∃ p2, Hid (opTo op = p2) := ⟨_, Lib.hid rfl⟩
  obtain ⟨of, HOF⟩ : ∃ of, Hid ((if opOf op = -1 then ps.getD 0 0 else opOf op) = of) := ⟨_, Lib.hid rfl⟩
  obtain ⟨z, HZ⟩ : ∃ z, Hid (ps.getD 0 0 = z) := ⟨_, Lib.hid rfl⟩
  rw [HZ.out] at c0
  have HOK : Hid (opK op ps = if ps.all (fun p => p == of) then (p2, 0) else (0, 9)) := Lib.hid (by unfold opK; rw [HOF.out, HP2.out])
  have hp : (p1 = -1 ∧ of = z) ∨ (p1 ≠ -1 ∧ of = p1) := by
    have h := HOF.out
    rw [HP1.out, HZ.out] at h
    by_cases e : p1 = -1
    · rw [if_pos e] at h; exact .inl ⟨e, h.symm⟩
    · rw [if_neg e] at h; exact .inr ⟨e, h.symm⟩
  rw [HP1.out, HP2.out]
  clear hm hc hA HZ HOF
  rcases hf with rfl | ⟨g, lb, rfl⟩
  all_goals
    rcases hp with ⟨rfl, rfl⟩ | ⟨hne, rfl⟩
    all_goals
      go_enter Tryz.func83, Tryz.ntmps83
      go_wp2
      go_loop [18] (fun i => ∃ k : Nat, k ≤ m ∧ i = .int .i64 k ∧ Hid (∀ j, j < k → ps.getD j 0 = of)) (fun i => m - (intOf i).toNat)
      case atStart => exact ⟨0, Nat.zero_le _, rfl, Lib.hid (fun j hj => absurd hj (by omega))⟩
      case round =>
        obtain ⟨k, hk, rfl, HV⟩ := hrel
        by_cases hlt : k < m
        · have ck := (HC.out k (by rw [← HM.out]; exact hlt))
          have HPK : Hid (ps.getD k 0 ∈ ps) := Lib.hid (by
            have hkl : k < ps.length := by rw [← HM.out]; exact hlt
            have e : ps.getD k 0 = ps[k] := by simp [List.getD, hkl]
            rw [e]; exact List.getElem_mem _)
          by_cases hx : ps.getD k 0 = of
          · have HX := Lib.hid hx
            rw [hx] at ck
            clear hx
            go_wp2
            go_round
            case rel => exact ⟨k + 1, by omega, by go_num, Lib.hid (fun j hj => by
              by_cases hjk : j = k
              · subst hjk; exact HX.out
              · exact HV.out j (by omega))⟩
            case measure => simp [intOf]; omega
          · have HE : Hid (opK op ps = (0, 9)) := Lib.hid (by
              rw [HOK.out, if_neg]
              intro h
              have := List.all_eq_true.1 h _ HPK.out
              exact hx (by simpa using this))
            generalize ps.getD k 0 = y at ck hx
            have hx2 : (y != of) = true := by simpa using hx
            clear HPK
            go_wp2
            go_ret2
            exact ⟨by rw [HE.out]; rfl, below_alloc1 _ _⟩
        · have HE : Hid (opK op ps = (p2, 0)) := Lib.hid (by
            rw [HOK.out, if_pos]
            rw [List.all_eq_true]
            intro x hx
            obtain ⟨j, hj, e⟩ := List.mem_iff_getElem.1 hx
            have := HV.out j (by have := HM.out; omega)
            simp [List.getD, hj] at this
            simp [← e, this])
          have hge : m ≤ k := by omega
          clear hlt
          go_wp2
          go_ret2
          exact ⟨by rw [HE.out]; rfl, below_alloc1 _ _⟩

/-- The kind of a node. -/
def nodeK (S : Sc) (nd : Int × Int) (ps : List Int) : Int × Int :=
  if nd.1 = 1 then (0, (hadF nd.2 (fitB nd.2 (-1048576) 1048576) 10).2)
  else if nd.1 = 2 then plainK S.sizes.length S.vars nd.2
  else if nd.1 = 3 then itemK S.sizes.length S.vars nd.2 (ps.getD 0 0)
  else if nd.1 = 4 then plainK S.sizes.length S.locals nd.2
  else if nd.1 = 5 then (if 1 ≤ S.self ∧ S.self ≤ S.sizes.length then (1 + S.self, 0) else (0, 8))
  else if nd.1 = 6 then hadF 0 (chanB S.sizes.length S.chans nd.2) 8
  else if nd.1 = 7 then hadF 0 (locB S.procs nd.2) 8
  else if nd.1 = 8 then noneK S.sizes.length nd.2
  else opK nd.1 ps
/-- A scope lies there. -/
structure SR (w : World) (X : ScX) (S : Sc) : Prop where
  l1 : X.n1 = S.sizes.length
  l2 : X.n2 = S.vars.length
  l3 : X.n3 = S.chans.length
  l4 : X.n4 = S.procs.length
  l5 : X.n5 = S.locals.length
  self : X.self = S.self
  small : X.n1 ≤ 1000000000000000
  r1 : SA w X.a1 S.sizes
  r2 : VA w X.a2 S.vars
  r3 : CA w X.a3 S.chans
  r4 : QA w X.a4 S.procs
  r5 : VA w X.a5 S.locals
theorem SR.below {w w' : World} {X : ScX} {S : Sc} (h : SR w X S) (k : Below w.heap.size w w') : SR w' X S :=
  ⟨h.l1, h.l2, h.l3, h.l4, h.l5, h.self, h.small, h.r1.below k, h.r2.below k, h.r3.below k, h.r4.below k, h.r5.below k⟩
end Go.Proofs.YtmnigdphikoljaaGreatDoor
namespace Go.Proofs.YtmnigdphikoljaaGreatDoor.lx
open Go.ChangeShapes Go.WideShapes Go.ChangeAt Go.RowKit Go.Deep

/-- The first place at which p fails, rune by rune. -/
def stopF (p : Nat → Nat → Bool) (s : ByteArray) : Nat → Nat → Nat
  | 0, _ => s.size
  | f + 1, pos => if pos < s.size then (if p pos (Utf8.decode s pos).1 then stopF p s f (pos + (Utf8.decode s pos).2) else pos) else s.size
theorem stopF_end (p : Nat → Nat → Bool) (s : ByteArray) (f pos : Nat) (h : ¬ pos < s.size) : stopF p s f pos = s.size := by
  cases f with
  | zero => rfl
  | succ f => unfold stopF; rw [if_neg h]
theorem stopF_le (p : Nat → Nat → Bool) (s : ByteArray) : ∀ f pos, stopF p s f pos ≤ s.size
  | 0, _ => Nat.le_refl _
  | f + 1, pos => by
    unfold stopF
    split
    · split
      · exact stopF_le p s f _
      · omega
    · exact Nat.le_refl _
/-- A function value that asks of a place and a rune. -/
def AskGrows (g : Nat) (lb : Array Value) (p : Nat → Nat → Bool) (w : World) : Prop :=
  ∀ (W : World) (pos x : Nat), x ≤ 1114111 → Below w.heap.size w W → Calls Tryz.prog g (#[.int .i64 pos, .int .i32 x] ++ lb) W fun e w' => e = .returned (.bool (p pos x)) ∧ Below W.heap.size W w'

set_option maxHeartbeats 2000000 in
set_option maxRecDepth 100000 in
theorem run_any (g : Nat) (lb : Array Value) (eg : ∀ args w, (callFunc g args).run Tryz.prog w = .ok (.enter g args) w) (p : Nat → Nat → Bool) (s : ByteArray) (w : World) (hp : AskGrows g lb p w) :
    Calls Tryz.prog 93 #[.string s, .func (.func g) #[] lb] w fun e w' => e = .returned (.int .i64 (stopF p s s.size 0)) ∧ Below w.heap.size w w' := by
  obtain ⟨RR, HRR⟩ : ∃ RR, Hid (stopF p s s.size 0 = RR) := ⟨_, Lib.hid rfl⟩
  rw [HRR.out]
  go_enter Tryz.func93, Tryz.ntmps93
  go_wp2
  go_loopg [] s.size (fun gf wx => ∃ pos : Nat, wx.heap[w.heap.size]? = some (.stringIter s pos) ∧ Below w.heap.size w wx ∧ Hid (stopF p s gf pos = RR) ∧ s.size ≤ pos + gf)
  case atStart => exact ⟨0, World.iter_heap w s 0, (Below.refl _ w).alloc (Nat.le_refl _) _, HRR, by omega⟩
  case round =>
    obtain ⟨pos, hit, hbw, HL, hfu⟩ := hrel
    by_cases hps : pos < s.size
    · obtain ⟨g', rfl⟩ : ∃ g', gk = g' + 1 := ⟨gk - 1, by omega⟩
      have hnx : ∀ ty, (Instr.next (.pointer (some ⟨w.heap.size, 0, none⟩)) true ty).run Tryz.prog wr = _ := fun ty => Lib.run_next_any_at wr w.heap.size s pos ty hit hps
      have hwd := Lib.width_pos s pos
      obtain ⟨R, hR⟩ : ∃ R, (Utf8.decode s pos).1 = R := ⟨_, rfl⟩
      obtain ⟨K, hK⟩ : ∃ K, (Utf8.decode s pos).2 = K := ⟨_, rfl⟩
      have hleft := HL.out
      simp only [stopF, hps, if_true, hR, hK] at hleft
      rw [hR, hK] at hnx
      rw [hK] at hwd
      have hit2 := Lib.iterAt_heap wr w.heap.size s pos (pos + K) hit
      have hbw2 := Lib.below_iterAt hbw (k := w.heap.size) (Nat.le_refl _) s (pos + K)
      obtain ⟨W, hWd⟩ : ∃ W, wr.iterAt w.heap.size s (pos + K) = W := ⟨_, rfl⟩
      rw [hWd] at hnx hit2 hbw2
      have hltW : w.heap.size < W.heap.size := (Array.getElem?_eq_some_iff.1 hit2).1
      have cS : Calls Tryz.prog g (#[.int .i64 pos, .int .i32 (R : Int)] ++ lb) W _ := hp W pos R (by rw [← hR]; exact Lib.rune_le s pos) hbw2
      clear hp HL
      cases hsp : p pos R <;> rw [hsp] at cS <;> simp only [hsp, if_true, Bool.false_eq_true, if_false] at hleft
      · have HLE := Lib.hid hleft
        clear hleft
        go_wp2_with fail
        refine cS.mono ?_
        rintro e W' ⟨rfl, hbc⟩
        go_wp2
        go_ret
        exact ⟨by rw [← HLE.out]; rfl, (hbw2.trans (hbc.mono hbw2.size))⟩
      · have HLE := Lib.hid hleft
        clear hleft
        go_wp2_with fail
        refine cS.mono ?_
        rintro e W' ⟨rfl, hbc⟩
        go_wp2
        go_roundg g'
        case measure => omega
        case rel => exact ⟨pos + K, (hbc.block _ hltW).trans hit2, (hbw2.trans (hbc.mono hbw2.size)), HLE, by omega⟩
    · have hnx : ∀ ty, (Instr.next (.pointer (some ⟨w.heap.size, 0, none⟩)) true ty).run Tryz.prog wr = _ := fun ty => Lib.run_next_end_at wr w.heap.size s pos ty hit hps
      have HLE : Hid (s.size = RR) := Lib.hid ((stopF_end p s gk pos hps).symm.trans HL.out)
      clear HL
      go_wp2
      go_ret
      exact ⟨by rw [← HLE.out]; rfl, hbw⟩

def letB (r : Int) : Bool := decide (97 ≤ r ∧ r ≤ 122 ∨ 65 ≤ r ∧ r ≤ 90)
def digB (r : Int) : Bool := decide (48 ≤ r ∧ r ≤ 57)
theorem isLetter_any (r : Int) (w : World) : Calls Tryz.prog 122 #[.int .i32 r] w fun e w' => e = .returned (.bool (letB r)) ∧ w = w' := by
  by_cases h1 : 97 ≤ r
  · by_cases h2 : r ≤ 122
    · have HE : Hid (letB r = true) := Lib.hid (decide_eq_true (by omega))
      go_enter Tryz.func122, Tryz.ntmps122
      go_wp2
      go_ret
      exact ⟨by rw [HE.out]; rfl, rfl⟩
    · have HE : Hid (letB r = false) := Lib.hid (decide_eq_false (by omega))
      have h3 : 65 ≤ r := by omega
      have h4 : ¬ r ≤ 90 := by omega
      go_enter Tryz.func122, Tryz.ntmps122
      go_wp2
      go_ret
      exact ⟨by rw [HE.out]; rfl, rfl⟩
  · by_cases h2 : 65 ≤ r
    · by_cases h3 : r ≤ 90
      · have HE : Hid (letB r = true) := Lib.hid (decide_eq_true (by omega))
        go_enter Tryz.func122, Tryz.ntmps122
        go_wp2
        go_ret
        exact ⟨by rw [HE.out]; rfl, rfl⟩
      · have HE : Hid (letB r = false) := Lib.hid (decide_eq_false (by omega))
        go_enter Tryz.func122, Tryz.ntmps122
        go_wp2
        go_ret
        exact ⟨by rw [HE.out]; rfl, rfl⟩
    · have HE : Hid (letB r = false) := Lib.hid (decide_eq_false (by omega))
      go_enter Tryz.func122, Tryz.ntmps122
      go_wp2
      go_ret
      exact ⟨by rw [HE.out]; rfl, rfl⟩
theorem isDigit_any (r : Int) (w : World) : Calls Tryz.prog 123 #[.int .i32 r] w fun e w' => e = .returned (.bool (digB r)) ∧ w = w' := by
  by_cases h1 : 48 ≤ r
  · by_cases h2 : r ≤ 57
    · have HE : Hid (digB r = true) := Lib.hid (decide_eq_true (by omega))
      go_enter Tryz.func123, Tryz.ntmps123
      go_wp2
      go_ret
      exact ⟨by rw [HE.out]; rfl, rfl⟩
    · have HE : Hid (digB r = false) := Lib.hid (decide_eq_false (by omega))
      go_enter Tryz.func123, Tryz.ntmps123
      go_wp2
      go_ret
      exact ⟨by rw [HE.out]; rfl, rfl⟩
  · have HE : Hid (digB r = false) := Lib.hid (decide_eq_false (by omega))
    go_enter Tryz.func123, Tryz.ntmps123
    go_wp2
    go_ret
    exact ⟨by rw [HE.out]; rfl, rfl⟩
/-- May a rune stand at a place of a word? -/
def okB (pos r : Nat) : Bool := letB r || (decide (0 < pos) && (digB r || decide (r = 95)))
set_option maxRecDepth 100000 in
theorem word1_any (pos r : Nat) (w : World) (hr : r ≤ 1114111) : Calls Tryz.prog 121 #[.int .i64 pos, .int .i32 r] w fun e w' => e = .returned (.bool (okB pos r)) ∧ Below w.heap.size w w' := by
  cases hl : letB r with
  | true =>
    have HL := Lib.hid hl
    have HE : Hid (okB pos r = true) := Lib.hid (by unfold okB; rw [hl, Bool.true_or])
    clear hl
    go_enter Tryz.func121, Tryz.ntmps121
    go_wp2_with fail
    refine (isLetter_any _ _).mono ?_
    rw [HL.out]
    rintro e w' ⟨rfl, rfl⟩
    go_wp2
    go_ret
    exact ⟨by rw [HE.out]; rfl, Below.refl _ _⟩
  | false =>
    have HL := Lib.hid hl
    have HE : Hid (okB pos r = (decide (0 < pos) && (digB r || decide (r = 95)))) := Lib.hid (by unfold okB; rw [hl, Bool.false_or])
    clear hl
    by_cases h0 : pos = 0
    · subst h0
      have HE2 : Hid (okB 0 r = false) := Lib.hid (by rw [HE.out]; simp)
      go_enter Tryz.func121, Tryz.ntmps121
      go_wp2_with fail
      refine (isLetter_any _ _).mono ?_
      rw [HL.out]
      rintro e w' ⟨rfl, rfl⟩
      go_wp2
      go_ret
      exact ⟨by rw [HE2.out]; rfl, Below.refl _ _⟩
    · have hp0 : (0 : Int) < (pos : Int) := by omega
      have HE2 : Hid (okB pos r = (digB r || decide (r = 95))) := Lib.hid (by rw [HE.out, decide_eq_true (show 0 < pos by omega), Bool.true_and])
      cases hd : digB r with
      | true =>
        have HD := Lib.hid hd
        have HE3 : Hid (okB pos r = true) := Lib.hid (by rw [HE2.out, hd, Bool.true_or])
        clear hd
        go_enter Tryz.func121, Tryz.ntmps121
        go_wp2_with fail
        refine (isLetter_any _ _).mono ?_
        rw [HL.out]
        rintro e w' ⟨rfl, rfl⟩
        go_wp2_with fail
        refine (isDigit_any _ _).mono ?_
        rw [HD.out]
        rintro e w' ⟨rfl, rfl⟩
        go_wp2
        go_ret
        exact ⟨by rw [HE3.out]; rfl, Below.refl _ _⟩
      | false =>
        have HD := Lib.hid hd
        have HE3 : Hid (okB pos r = ((r : Int) == 95)) := Lib.hid (by rw [HE2.out, hd, Bool.false_or]; rw [Bool.eq_iff_iff]; simp; omega)
        clear hd
        go_enter Tryz.func121, Tryz.ntmps121
        go_wp2_with fail
        refine (isLetter_any _ _).mono ?_
        rw [HL.out]
        rintro e w' ⟨rfl, rfl⟩
        go_wp2_with fail
        refine (isDigit_any _ _).mono ?_
        rw [HD.out]
        rintro e w' ⟨rfl, rfl⟩
        go_wp2
        go_ret
        exact ⟨by rw [HE3.out]; rfl, Below.refl _ _⟩
set_option maxRecDepth 100000 in
theorem word_any (s : ByteArray) (w : World) : Calls Tryz.prog 86 #[.string s] w fun e w' => e = .returned (.int .i64 (stopF okB s s.size 0)) ∧ Below w.heap.size w w' := by
  have hg : AskGrows 121 #[] okB w := fun W pos x hx _ => by
    have := word1_any pos x W hx
    simpa using this
  go_enter Tryz.func86, Tryz.ntmps86
  go_wp2_with fail
  refine (run_any 121 #[] (enters_of Tryz.func121 (by kernel_rfl) rfl) okB s w hg).mono ?_
  rintro e w' ⟨rfl, hb⟩
  go_wp2
  go_ret
  exact ⟨rfl, hb⟩
end Go.Proofs.YtmnigdphikoljaaGreatDoor.lx
namespace Go.Proofs.YtmnigdphikoljaaGreatDoor.lx
open Go.ChangeShapes Go.WideShapes Go.ChangeAt Go.RowKit Go.Deep

def fitB (n lo hi : Int) : Bool := decide (lo ≤ n ∧ n ≤ hi)
theorem fits_any (n lo hi : Int) (w : World) : Calls Tryz.prog 85 #[.int .i64 n, .int .i64 lo, .int .i64 hi] w fun e w' => e = .returned (.bool (fitB n lo hi)) ∧ w = w' := by
  by_cases h1 : lo ≤ n
  · by_cases h2 : n ≤ hi
    · have HE : Hid (fitB n lo hi = true) := Lib.hid (decide_eq_true ⟨h1, h2⟩)
      go_enter Tryz.func85, Tryz.ntmps85
      go_wp2
      go_ret
      exact ⟨by rw [HE.out]; rfl, rfl⟩
    · have HE : Hid (fitB n lo hi = false) := Lib.hid (decide_eq_false (by omega))
      go_enter Tryz.func85, Tryz.ntmps85
      go_wp2
      go_ret
      exact ⟨by rw [HE.out]; rfl, rfl⟩
  · have HE : Hid (fitB n lo hi = false) := Lib.hid (decide_eq_false (by omega))
    go_enter Tryz.func85, Tryz.ntmps85
    go_wp2
    go_ret
    exact ⟨by rw [HE.out]; rfl, rfl⟩

/-- The four words that are no names. -/
def kw1 : List UInt8 := [115, 101, 108, 102]
def kw2 : List UInt8 := [110, 111, 110, 101]
def kw3 : List UInt8 := [108, 101, 110]
def kw4 : List UInt8 := [97, 116]
def kwB (s : ByteArray) : Bool := s.toList == kw1 || s.toList == kw2 || s.toList == kw3 || s.toList == kw4
/-- Is it a name? -/
def nameB (s : ByteArray) : Bool := !kwB s && (decide (1 ≤ s.size ∧ s.size ≤ 16) && decide (stopF okB s s.size 0 = s.size))

set_option maxRecDepth 100000 in
theorem name_any (s : ByteArray) (w : World) : Calls Tryz.prog 41 #[.string s] w fun e w' => e = .returned (.bool (nameB s)) ∧ Below w.heap.size w w' := by
  obtain ⟨b1, h1⟩ : ∃ b1, (s.toList == [115, 101, 108, 102]) = b1 := ⟨_, rfl⟩
  obtain ⟨b2, h2⟩ : ∃ b2, (s.toList == [110, 111, 110, 101]) = b2 := ⟨_, rfl⟩
  obtain ⟨b3, h3⟩ : ∃ b3, (s.toList == [108, 101, 110]) = b3 := ⟨_, rfl⟩
  obtain ⟨b4, h4⟩ : ∃ b4, (s.toList == [97, 116]) = b4 := ⟨_, rfl⟩
  have HK : Hid (kwB s = (b1 || b2 || b3 || b4)) := Lib.hid (by unfold kwB kw1 kw2 kw3 kw4; rw [h1, h2, h3, h4])
  cases b1 with
  | true =>
    have HE : Hid (nameB s = false) := Lib.hid (by unfold nameB; rw [HK.out]; simp)
    rw [HE.out]
    go_enter Tryz.func41, Tryz.ntmps41
    go_wp2
    go_ret
    exact ⟨rfl, Below.refl _ _⟩
  | false =>
  cases b2 with
  | true =>
    have HE : Hid (nameB s = false) := Lib.hid (by unfold nameB; rw [HK.out]; simp)
    rw [HE.out]
    go_enter Tryz.func41, Tryz.ntmps41
    go_wp2
    go_ret
    exact ⟨rfl, Below.refl _ _⟩
  | false =>
  cases b3 with
  | true =>
    have HE : Hid (nameB s = false) := Lib.hid (by unfold nameB; rw [HK.out]; simp)
    rw [HE.out]
    go_enter Tryz.func41, Tryz.ntmps41
    go_wp2
    go_ret
    exact ⟨rfl, Below.refl _ _⟩
  | false =>
  cases b4 with
  | true =>
    have HE : Hid (nameB s = false) := Lib.hid (by unfold nameB; rw [HK.out]; simp)
    rw [HE.out]
    go_enter Tryz.func41, Tryz.ntmps41
    go_wp2
    go_ret
    exact ⟨rfl, Below.refl _ _⟩
  | false =>
    have HE : Hid (nameB s = (decide (1 ≤ s.size ∧ s.size ≤ 16) && decide (stopF okB s s.size 0 = s.size))) := Lib.hid (by unfold nameB; rw [HK.out]; simp)
    cases hf : fitB s.size 1 16 with
    | false =>
      have HF := Lib.hid hf
      have HE2 : Hid (nameB s = false) := Lib.hid (by rw [HE.out, decide_eq_false (by intro h; unfold fitB at hf; have := of_decide_eq_false hf; omega), Bool.false_and])
      clear hf
      go_enter Tryz.func41, Tryz.ntmps41
      go_wp2_with fail
      refine (fits_any _ _ _ _).mono ?_
      rw [HF.out]
      rintro e w' ⟨rfl, rfl⟩
      go_wp2
      go_ret
      exact ⟨by rw [HE2.out]; rfl, Below.refl _ _⟩
    | true =>
      have HF := Lib.hid hf
      have HE2 : Hid (nameB s = decide (stopF okB s s.size 0 = s.size)) := Lib.hid (by rw [HE.out, decide_eq_true (by unfold fitB at hf; have := of_decide_eq_true hf; omega), Bool.true_and])
      clear hf
      obtain ⟨q, HQ⟩ : ∃ q, Hid (stopF okB s s.size 0 = q) := ⟨_, Lib.hid rfl⟩
      have HB : Hid (decide (q = s.size) = ((q : Int) == (s.size : Int))) := Lib.hid (by rw [Bool.eq_iff_iff]; simp; omega)
      go_enter Tryz.func41, Tryz.ntmps41
      go_wp2_with fail
      refine (fits_any _ _ _ _).mono ?_
      rw [HF.out]
      rintro e w' ⟨rfl, rfl⟩
      go_wp2_with fail
      refine (word_any s w).mono ?_
      rw [HQ.out]
      rintro e w' ⟨rfl, hb⟩
      go_wp2
      go_ret
      exact ⟨by rw [HE2.out, HQ.out, HB.out]; rfl, hb⟩
end Go.Proofs.YtmnigdphikoljaaGreatDoor.lx
