/- The program's kinds of nodes: variable, plain, item, none, hasChan, hasLoc, an operation's kind. -/
import Derived.Test.YtgbnafakaaooiaaExprScope
namespace Go.Proofs.Ytgbnafakaaooiaa
open Go.ChangeShapes Go.WideShapes Go.ChangeAt Go.RowKit

/-- The variable of a list, what it is of and over what; none: there is none. -/
def varK (nsc : Nat) (l : List (Int × Int)) (n : Int) : Option (Int × Int) :=
  if 0 ≤ n ∧ n < l.length ∧ (0 ≤ (l.getD n.toNat (0, 0)).1 ∧ (l.getD n.toNat (0, 0)).1 ≤ nsc) ∧ (0 ≤ (l.getD n.toNat (0, 0)).2 ∧ (l.getD n.toNat (0, 0)).2 ≤ nsc) then some (l.getD n.toNat (0, 0)) else none
theorem varK_some {nsc : Nat} {l : List (Int × Int)} {n x y : Int} (h : varK nsc l n = some (x, y)) : ∃ k : Nat, n = k ∧ k < l.length ∧ l.getD k (0, 0) = (x, y) ∧ 0 ≤ x ∧ x ≤ nsc ∧ 0 ≤ y ∧ y ≤ nsc := by
  unfold varK at h
  split at h
  next hc =>
    injection h with h
    refine ⟨n.toNat, by omega, by omega, h, ?_⟩
    rw [h] at hc
    omega
  next => cases h
theorem varK_none {nsc : Nat} {l : List (Int × Int)} {n : Int} (h : varK nsc l n = none) : (n < 0 ∨ (l.length : Int) ≤ n) ∨ ∃ k : Nat, n = k ∧ k < l.length ∧
    (((l.getD k (0, 0)).1 < 0 ∨ (nsc : Int) < (l.getD k (0, 0)).1) ∨ (0 ≤ (l.getD k (0, 0)).1 ∧ (l.getD k (0, 0)).1 ≤ nsc ∧ ((l.getD k (0, 0)).2 < 0 ∨ (nsc : Int) < (l.getD k (0, 0)).2))) := by
  unfold varK at h
  split at h
  next => cases h
  next hc =>
    by_cases h1 : n < 0 ∨ (l.length : Int) ≤ n
    · exact .inl h1
    · right
      obtain ⟨k, rfl⟩ : ∃ k : Nat, n = k := ⟨n.toNat, by omega⟩
      refine ⟨k, rfl, by omega, ?_⟩
      rw [Int.toNat_natCast] at hc
      omega

/-- A scope in a box. -/
def Bx (w : World) (b : Nat) (X : ScX) : Prop := (w.cell? ⟨b, 0, none⟩ = some (.slice X.a1 X.n1 X.c1) ∧ w.cell? ⟨b, 1, none⟩ = some (.slice X.a2 X.n2 X.c2) ∧ w.cell? ⟨b, 2, none⟩ = some (.slice X.a3 X.n3 X.c3) ∧
  w.cell? ⟨b, 3, none⟩ = some (.slice X.a4 X.n4 X.c4) ∧ w.cell? ⟨b, 4, none⟩ = some (.slice X.a5 X.n5 X.c5) ∧ w.cell? ⟨b, 5, none⟩ = some (.int .i64 X.self)) ∧ b < w.heap.size
theorem Bx.new (w : World) (X : ScX) (t : TypeId) : Bx (w.alloc (.cells #[.slice X.a1 X.n1 X.c1, .slice X.a2 X.n2 X.c2, .slice X.a3 X.n3 X.c3, .slice X.a4 X.n4 X.c4, .slice X.a5 X.n5 X.c5, .int .i64 X.self] t)) w.heap.size X :=
  ⟨⟨World.cell?_alloc_at _ _ _ _ rfl, World.cell?_alloc_at _ _ _ _ rfl, World.cell?_alloc_at _ _ _ _ rfl, World.cell?_alloc_at _ _ _ _ rfl, World.cell?_alloc_at _ _ _ _ rfl, World.cell?_alloc_at _ _ _ _ rfl⟩, by simp⟩
theorem Bx.below {w w' : World} {b : Nat} {X : ScX} (h : Bx w b X) (k : Below w.heap.size w w') : Bx w' b X := by
  obtain ⟨⟨c0, c1, c2, c3, c4, c5⟩, hb⟩ := h
  exact ⟨⟨(k.cell (p := ⟨b, 0, none⟩) hb).trans c0, (k.cell (p := ⟨b, 1, none⟩) hb).trans c1, (k.cell (p := ⟨b, 2, none⟩) hb).trans c2, (k.cell (p := ⟨b, 3, none⟩) hb).trans c3, (k.cell (p := ⟨b, 4, none⟩) hb).trans c4, (k.cell (p := ⟨b, 5, none⟩) hb).trans c5⟩, Nat.lt_of_lt_of_le hb k.size⟩
theorem below_alloc1 (w : World) (o : Obj) : Below w.heap.size w (w.alloc o) := (Below.refl _ _).alloc (Nat.le_refl _) _
theorem bthen {a b c : World} (h : Below a.heap.size a b) (k : Below b.heap.size b c) : Below a.heap.size a c := h.trans (k.mono h.size)

set_option maxHeartbeats 1000000 in
theorem variable_yes (X : ScX) (A : Option Addr) (m c : Nat) (l : List (Int × Int)) (n x y : Int) (w : World) (hn1 : X.n1 ≤ 1000000000000000) (hm : m = l.length) (hA : VA w A l) (h : varK X.n1 l n = some (x, y)) :
    Calls Try.prog 49 #[X.v, .slice A m c, .int .i64 n] w fun e w' => e = .returned (.tuple #[.int .i64 (kindOf x), .int .i64 (kindOf y), .bool true]) ∧ Below w.heap.size w w' := by
  obtain ⟨k, rfl, hk, hl, x1, x2, y1, y2⟩ := varK_some h
  have HL := Lib.hid hl
  have HM := Lib.hid hm
  have HA := Lib.hid hA
  clear h hl hm hA
  unfold ScX.v
  go_enter Try.func49, Try.ntmps49
  go_wp2_with fail
  refine (entryV_yes A c m k l _ HM.out (HA.out.below (below_alloc1 _ _)) (by rw [HM.out]; exact hk)).mono ?_
  rintro e w1 ⟨⟨s, p, q, r, rfl⟩, hb1⟩
  rw [HL.out]
  have HB1 : Hid (Below w.heap.size w w1) := Lib.hid (bthen (below_alloc1 _ _) hb1)
  have HX1 := Lib.hid ((Bx.new w X 50).below hb1)
  clear hb1
  obtain ⟨c1, hz⟩ := HX1.out
  go_wp2_with fail
  refine (named_yes X x _ x1 x2 hn1).mono ?_
  rintro e w2 ⟨rfl, hb2⟩
  clear c1 hz
  obtain ⟨c2, hz2⟩ := ((HX1.out.below (below_alloc1 _ _)).below hb2)
  have d2 : w2.cell? ⟨w1.heap.size, 2, none⟩ = some (.int .i64 y) := (hb2.cell (p := ⟨w1.heap.size, 2, none⟩) (by simp)).trans (World.cell?_alloc_at _ _ _ _ rfl)
  have HB2 : Hid (Below w.heap.size w w2) := Lib.hid (bthen HB1.out (bthen (below_alloc1 _ _) hb2))
  clear hb2
  go_wp2_with fail
  refine (named_yes X y _ y1 y2 hn1).mono ?_
  rintro e w3 ⟨rfl, hb3⟩
  have HB3 : Hid (Below w.heap.size w w3) := Lib.hid (bthen HB2.out hb3)
  clear hb3 c2 d2
  go_wp2
  exact bodyPost_ret (results_tmp3 rfl _ _ _) rfl ⟨rfl, HB3.out⟩

set_option maxHeartbeats 1000000 in
theorem variable_no (X : ScX) (A : Option Addr) (m c : Nat) (l : List (Int × Int)) (n : Int) (w : World) (hn1 : X.n1 ≤ 1000000000000000) (hm : m = l.length) (hA : VA w A l) (h : varK X.n1 l n = none) :
    Calls Try.prog 49 #[X.v, .slice A m c, .int .i64 n] w fun e w' => e = .returned (.tuple #[.int .i64 0, .int .i64 0, .bool false]) ∧ Below w.heap.size w w' := by
  have HM := Lib.hid hm
  have HA := Lib.hid hA
  rcases varK_none h with hc | ⟨k, rfl, hk, hc⟩
  · have HC := Lib.hid hc
    clear hm hA h hc
    unfold ScX.v
    go_enter Try.func49, Try.ntmps49
    go_wp2_with fail
    refine (entryV_no A c m n _ (by have := HC.out; have := HM.out; omega)).mono ?_
    rintro e w1 ⟨rfl, hb1⟩
    have HB1 : Hid (Below w.heap.size w w1) := Lib.hid (bthen (below_alloc1 _ _) hb1)
    clear hb1
    go_wp2
    refine bodyPost_ret (results_tmp3 rfl _ _ _) rfl ⟨rfl, bthen HB1.out (below_alloc1 _ _)⟩
  · clear hm hA h
    obtain ⟨x, y, HL⟩ : ∃ x y, Hid (l.getD k (0, 0) = (x, y)) := ⟨_, _, Lib.hid rfl⟩
    rw [HL.out] at hc
    simp only at hc
    rcases hc with hc | ⟨x1, x2, hc⟩
    · have HC := Lib.hid hc
      clear hc
      unfold ScX.v
      go_enter Try.func49, Try.ntmps49
      go_wp2_with fail
      refine (entryV_yes A c m k l _ HM.out (HA.out.below (below_alloc1 _ _)) (by rw [HM.out]; exact hk)).mono ?_
      rintro e w1 ⟨⟨s, p, q, r, rfl⟩, hb1⟩
      rw [HL.out]
      have HB1 : Hid (Below w.heap.size w w1) := Lib.hid (bthen (below_alloc1 _ _) hb1)
      have HX1 := Lib.hid ((Bx.new w X 50).below hb1)
      clear hb1
      obtain ⟨c1, hz⟩ := HX1.out
      go_wp2_with fail
      refine (named_no X x _ HC.out).mono ?_
      rintro e w2 ⟨rfl, hb2⟩
      clear c1 hz
      have HB2 : Hid (Below w.heap.size w w2) := Lib.hid (bthen HB1.out (bthen (below_alloc1 _ _) hb2))
      clear hb2
      go_wp2
      refine bodyPost_ret (results_tmp3 rfl _ _ _) rfl ⟨rfl, HB2.out⟩
    · have HC := Lib.hid hc
      clear hc
      unfold ScX.v
      go_enter Try.func49, Try.ntmps49
      go_wp2_with fail
      refine (entryV_yes A c m k l _ HM.out (HA.out.below (below_alloc1 _ _)) (by rw [HM.out]; exact hk)).mono ?_
      rintro e w1 ⟨⟨s, p, q, r, rfl⟩, hb1⟩
      rw [HL.out]
      have HB1 : Hid (Below w.heap.size w w1) := Lib.hid (bthen (below_alloc1 _ _) hb1)
      have HX1 := Lib.hid ((Bx.new w X 50).below hb1)
      clear hb1
      obtain ⟨c1, hz⟩ := HX1.out
      go_wp2_with fail
      refine (named_yes X x _ x1 x2 hn1).mono ?_
      rintro e w2 ⟨rfl, hb2⟩
      clear c1 hz
      obtain ⟨c2, hz2⟩ := ((HX1.out.below (below_alloc1 _ _)).below hb2)
      have d2 : w2.cell? ⟨w1.heap.size, 2, none⟩ = some (.int .i64 y) := (hb2.cell (p := ⟨w1.heap.size, 2, none⟩) (by simp)).trans (World.cell?_alloc_at _ _ _ _ rfl)
      have HB2 : Hid (Below w.heap.size w w2) := Lib.hid (bthen HB1.out (bthen (below_alloc1 _ _) hb2))
      clear hb2
      go_wp2_with fail
      refine (named_no X y _ HC.out).mono ?_
      rintro e w3 ⟨rfl, hb3⟩
      have HB3 : Hid (Below w.heap.size w w3) := Lib.hid (bthen HB2.out hb3)
      clear hb3 c2 d2
      go_wp2
      refine bodyPost_ret (results_tmp3 rfl _ _ _) rfl ⟨rfl, HB3.out⟩

/-- The kind of a variable of a list, if it is over nothing. -/
def plainK (nsc : Nat) (l : List (Int × Int)) (n : Int) : Int × Int := match varK nsc l n with
  | none => (0, 8)
  | some (x, y) => hadF (kindOf x) (kindOf y == 0) 9
/-- The kind of a variable, if it is over elements of which index is the kind. -/
def itemK (nsc : Nat) (l : List (Int × Int)) (n ix : Int) : Int × Int := match varK nsc l n with
  | none => (0, 8)
  | some (x, y) => hadF (kindOf x) (kindOf y != 0 && kindOf y == ix) 9
/-- What a call leaves that hands back a number and why. -/
def PairP (w : World) (r : Int × Int) (e : Ending) (w' : World) : Prop := e = .returned (.tuple #[.int .i64 r.1, .int .i64 r.2]) ∧ Below w.heap.size w w'

set_option maxHeartbeats 1000000 in
theorem plain_any (X : ScX) (A : Option Addr) (m c : Nat) (l : List (Int × Int)) (n : Int) (w : World) (hn1 : X.n1 ≤ 1000000000000000) (hm : m = l.length) (hA : VA w A l) :
    Calls Try.prog 25 #[X.v, .slice A m c, .int .i64 n] w (PairP w (plainK X.n1 l n)) := by
  have HM := Lib.hid hm
  have HA := Lib.hid hA
  clear hm hA
  cases hv : varK X.n1 l n with
  | none =>
    have HV := Lib.hid hv
    have HE : Hid (plainK X.n1 l n = (0, 8)) := Lib.hid (by unfold plainK; rw [hv])
    clear hv
    unfold ScX.v
    go_enter Try.func25, Try.ntmps25
    go_wp2_with fail
    refine (variable_no X A m c l n _ hn1 HM.out (HA.out.below (below_alloc1 _ _)) HV.out).mono ?_
    rintro e w1 ⟨rfl, hb1⟩
    have HB1 : Hid (Below w.heap.size w w1) := Lib.hid (bthen (below_alloc1 _ _) hb1)
    clear hb1
    go_wp2
    go_ret2
    exact ⟨by rw [HE.out]; rfl, HB1.out⟩
  | some xy =>
    obtain ⟨x, y⟩ := xy
    have HV := Lib.hid hv
    obtain ⟨a, b, HE⟩ : ∃ a b, Hid (hadF (kindOf x) (kindOf y == 0) 9 = (a, b)) := ⟨_, _, Lib.hid rfl⟩
    have HP : Hid (plainK X.n1 l n = (a, b)) := Lib.hid (by unfold plainK; rw [hv]; exact HE.out)
    clear hv
    unfold ScX.v
    go_enter Try.func25, Try.ntmps25
    go_wp2_with fail
    refine (variable_yes X A m c l n x y _ hn1 HM.out (HA.out.below (below_alloc1 _ _)) HV.out).mono ?_
    rintro e w1 ⟨rfl, hb1⟩
    have HB1 : Hid (Below w.heap.size w w1) := Lib.hid (bthen (below_alloc1 _ _) hb1)
    clear hb1
    go_wp2_with fail
    refine (had_any _ _ _ _).mono ?_
    rintro e w' ⟨rfl, rfl⟩
    rw [HE.out]
    go_wp2
    go_ret2
    exact ⟨by rw [HP.out]; rfl, HB1.out⟩

set_option maxHeartbeats 1000000 in
theorem item_any (X : ScX) (l : List (Int × Int)) (n ix : Int) (w : World) (hn1 : X.n1 ≤ 1000000000000000) (hm : X.n2 = l.length) (hA : VA w X.a2 l) :
    Calls Try.prog 26 #[X.v, .int .i64 n, .int .i64 ix] w (PairP w (itemK X.n1 l n ix)) := by
  have HM := Lib.hid hm
  have HA := Lib.hid hA
  clear hm hA
  cases hv : varK X.n1 l n with
  | none =>
    have HV := Lib.hid hv
    have HE : Hid (itemK X.n1 l n ix = (0, 8)) := Lib.hid (by unfold itemK; rw [hv])
    clear hv
    unfold ScX.v
    go_enter Try.func26, Try.ntmps26
    go_wp2_with fail
    refine (variable_no X _ _ _ l n _ hn1 HM.out (HA.out.below (below_alloc1 _ _)) HV.out).mono ?_
    rintro e w1 ⟨rfl, hb1⟩
    have HB1 : Hid (Below w.heap.size w w1) := Lib.hid (bthen (below_alloc1 _ _) hb1)
    clear hb1
    go_wp2
    go_ret2
    exact ⟨by rw [HE.out]; rfl, HB1.out⟩
  | some xy =>
    obtain ⟨x, y⟩ := xy
    have HV := Lib.hid hv
    obtain ⟨ky, HKY⟩ : ∃ ky, Hid (kindOf y = ky) := ⟨_, Lib.hid rfl⟩
    by_cases h0 : ky = 0
    · subst h0
      have HP : Hid (itemK X.n1 l n ix = (0, 9)) := Lib.hid (by unfold itemK; rw [hv]; simp only [HKY.out]; rfl)
      clear hv
      unfold ScX.v
      go_enter Try.func26, Try.ntmps26
      go_wp2_with fail
      refine (variable_yes X _ _ _ l n x y _ hn1 HM.out (HA.out.below (below_alloc1 _ _)) HV.out).mono ?_
      rw [HKY.out]
      rintro e w1 ⟨rfl, hb1⟩
      have HB1 : Hid (Below w.heap.size w w1) := Lib.hid (bthen (below_alloc1 _ _) hb1)
      clear hb1
      go_wp2_with fail
      refine (had_any _ _ _ _).mono ?_
      rintro e w' ⟨rfl, rfl⟩
      go_wp2
      go_ret2
      exact ⟨by rw [HP.out]; rfl, HB1.out⟩
    · have h1 : (ky != 0) = true := by simpa using h0
      obtain ⟨a, b, HE⟩ : ∃ a b, Hid (hadF (kindOf x) (ky == ix) 9 = (a, b)) := ⟨_, _, Lib.hid rfl⟩
      have HP : Hid (itemK X.n1 l n ix = (a, b)) := Lib.hid (by unfold itemK; rw [hv]; simp only [HKY.out, h1, Bool.true_and]; exact HE.out)
      clear hv
      unfold ScX.v
      go_enter Try.func26, Try.ntmps26
      go_wp2_with fail
      refine (variable_yes X _ _ _ l n x y _ hn1 HM.out (HA.out.below (below_alloc1 _ _)) HV.out).mono ?_
      rw [HKY.out]
      rintro e w1 ⟨rfl, hb1⟩
      have HB1 : Hid (Below w.heap.size w w1) := Lib.hid (bthen (below_alloc1 _ _) hb1)
      clear hb1
      go_wp2_with fail
      refine (had_any _ _ _ _).mono ?_
      rintro e w' ⟨rfl, rfl⟩
      rw [HE.out]
      go_wp2
      go_ret2
      exact ⟨by rw [HP.out]; rfl, HB1.out⟩

/-- The kind of the none of a scalar. -/
def noneK (nsc : Nat) (n : Int) : Int × Int := if 0 ≤ n ∧ n < nsc then (2 + n, 0) else (0, 8)
theorem none_any (X : ScX) (l : List Int) (n : Int) (w : World) (hn1 : X.n1 ≤ 1000000000000000) (hm : X.n1 = l.length) (hA : SA w X.a1 l) :
    Calls Try.prog 31 #[X.v, .int .i64 n] w (PairP w (noneK X.n1 n)) := by
  have HM := Lib.hid hm
  have HA := Lib.hid hA
  clear hm hA
  by_cases h : 0 ≤ n ∧ n < X.n1
  · have HE : Hid (noneK X.n1 n = (2 + n, 0)) := Lib.hid (if_pos h)
    obtain ⟨k, rfl⟩ : ∃ k : Nat, n = k := ⟨n.toNat, by omega⟩
    have hk : k < X.n1 := by omega
    clear h
    unfold ScX.v
    go_enter Try.func31, Try.ntmps31
    go_wp2_with fail
    refine (entryS_yes _ _ _ k l _ HM.out (HA.out.below (below_alloc1 _ _)) hk).mono ?_
    rintro e w1 ⟨⟨s, rfl⟩, hb1⟩
    have HB1 : Hid (Below w.heap.size w w1) := Lib.hid (bthen (below_alloc1 _ _) hb1)
    clear hb1
    generalize l.getD k 0 = x
    go_wp2
    go_ret2
    exact ⟨by rw [HE.out]; rfl, bthen HB1.out (below_alloc1 _ _)⟩
  · have HE : Hid (noneK X.n1 n = (0, 8)) := Lib.hid (if_neg h)
    have HH := Lib.hid h
    clear h
    unfold ScX.v
    go_enter Try.func31, Try.ntmps31
    go_wp2_with fail
    refine (entryS_no _ _ _ n _ (by have := HH.out; omega)).mono ?_
    rintro e w1 ⟨rfl, hb1⟩
    have HB1 : Hid (Below w.heap.size w w1) := Lib.hid (bthen (below_alloc1 _ _) hb1)
    clear hb1
    go_wp2
    go_ret2
    exact ⟨by rw [HE.out]; rfl, bthen HB1.out (below_alloc1 _ _)⟩
end Go.Proofs.Ytgbnafakaaooiaa
