/- Contracts that the claim stands on, several texts in one: EtTold, ExprNode, ExprItem. -/
import Derived.Test.YtmnigdphikoljaaGreatDoorPut1
import Derived.Test.YtmnigdphikoljaaGreatDoorPut2
import Derived.Test.YtmnigdphikoljaaGreatDoorPut3
import Derived.Test.YtmnigdphikoljaaGreatDoorPut4
import Derived.Test.YtmnigdphikoljaaGreatDoorPut5
import Derived.Test.YtmnigdphikoljaaGreatDoorPut6
import Derived.Test.YtmnigdphikoljaaGreatDoorPut7
import Derived.Test.YtmnigdphikoljaaGreatDoorPut8
import Derived.Test.YtmnigdphikoljaaGreatDoorPut9
import Derived.Test.YtmnigdphikoljaaGreatDoorPut10
import Derived.Test.YtmnigdphikoljaaGreatDoorPut11
import Derived.Test.YtmnigdphikoljaaGreatDoorPut12
import Derived.Test.YtmnigdphikoljaaGreatDoorPut13
import Derived.Test.YtmnigdphikoljaaGreatDoorPut14
import Derived.Test.YtmnigdphikoljaaGreatDoorPut15
namespace Go.Proofs.YtmnigdphikoljaaGreatDoor.et
open Go.ChangeShapes Go.WideShapes Go.ChangeAt Go.RowKit Go.Deep

/-- A node in a box. -/
def NB (w : World) (b : Nat) (op n : Int) : Prop := (w.cell? ⟨b, 0, none⟩ = some (.int .i64 op) ∧ w.cell? ⟨b, 1, none⟩ = some (.int .i64 n)) ∧ b < w.heap.size
theorem NB.below {w w' : World} {b : Nat} {op n : Int} (h : NB w b op n) (k : Below w.heap.size w w') : NB w' b op n := by
  obtain ⟨⟨c0, c1⟩, hb⟩ := h
  exact ⟨⟨(k.cell (p := ⟨b, 0, none⟩) hb).trans c0, (k.cell (p := ⟨b, 1, none⟩) hb).trans c1⟩, Nat.lt_of_lt_of_le hb k.size⟩
/-- Has a node's name, if it tells one, the form of a name, and does it stand for what the node speaks of? -/
def tellsB (N : Nm) (nd : Int × Int) : Bool := match nmOf N nd.1 with
  | none => true
  | some l => if (nd.1 = 2 ∨ nd.1 = 3) ∧ (findF (l.getD (placeF nd).toNat default) 0 N.locals).isSome then false else lx.nameB (l.getD (placeF nd).toNat default) && (((findF (l.getD (placeF nd).toNat default) 0 l).getD 0 : Nat) : Int) == placeF nd

/-- What tells finds behind name: the boxes of the scope and of the node. -/
structure TlW (w0 w : World) (b : Nat) (X : ScX) (N : Nm) (op n : Int) : Prop where
  below : Below w0.heap.size w0 w
  bx : Bx w b X
  nb : NB w (b + 1) op n
  nm : NmR w X N
theorem TlW.next {w0 w w' : World} {b : Nat} {X : ScX} {N : Nm} {op n : Int} (h : TlW w0 w b X N op n) (k : Below w.heap.size w w') : TlW w0 w' b X N op n :=
  ⟨bthen h.below k, h.bx.below k, h.nb.below k, h.nm.below k⟩

set_option maxRecDepth 20000 in
set_option maxHeartbeats 4000000 in
theorem tells2_any (X : ScX) (N : Nm) (n : Int) (l : List ByteArray) (k : Nat) (w : World) (h : NmR w X N) (hl : nmOf N 2 = some l) (h0 : 0 ≤ n) (h9 : n ≤ 9000000000000000000) (hk : placeF (2, n) = (k : Int)) (hlt : k < l.length) (hlen : l.length ≤ 1000000) (hloc : N.locals.length ≤ 1000000) :
    Calls Tryz.prog 19 #[X.v, .agg #[.int .i64 2, .int .i64 n]] w fun e w' => e = .returned (.bool (tellsB N (2, n))) ∧ Below w.heap.size w w' := by
  have H := Lib.hid h
  have HL := Lib.hid hl
  have HLEN := Lib.hid hlen
  have HLOC := Lib.hid hloc
  have HP := Lib.hid hk
  obtain ⟨x, HX⟩ : ∃ x, Hid (l.getD k default = x) := ⟨_, Lib.hid rfl⟩
  obtain ⟨o1, HF1⟩ : ∃ o, Hid (findF x 0 N.locals = o) := ⟨_, Lib.hid rfl⟩
  obtain ⟨o2, HF2⟩ : ∃ o, Hid (findF x 0 l = o) := ⟨_, Lib.hid rfl⟩
  obtain ⟨z, HNB⟩ : ∃ z, Hid (lx.nameB x = z) := ⟨_, Lib.hid rfl⟩
  have HNM : Hid (nameOf N (2, n) = some x) := Lib.hid (by unfold nameOf; rw [hl, hk]; exact congrArg some HX.out)
  have HTH : Hid (There N (2, n)) := Lib.hid (fun l' e => by
    obtain rfl : l = l' := by injection (hl.symm.trans e)
    exact ⟨h0, h9, by rw [hk]; exact hlt, hlen⟩)
  have HT : Hid (tellsB N (2, n) = (if o1.isSome then false else (z && (((o2.getD 0 : Nat) : Int) == (k : Int))))) := Lib.hid (by
    unfold tellsB
    simp only [hl, hk, Int.toNat_natCast, HX.out, HF1.out, HF2.out, HNB.out]
    simp)
  obtain ⟨R, HR⟩ : ∃ R, Hid ((if o1.isSome then false else (z && (((o2.getD 0 : Nat) : Int) == (k : Int)))) = R) := ⟨_, Lib.hid rfl⟩
  rw [HT.out, HR.out]
  clear h hl hk hlt hlen hloc
  unfold ScX.v
  go_enter Tryz.func19, Tryz.ntmps19
  go_wp2_with fail
  have HW0 : Hid (TlW w ((w.alloc (.cells #[.slice X.a1 X.n1 X.c1, .slice X.a2 X.n2 X.c2, .slice X.a3 X.n3 X.c3, .slice X.a4 X.n4 X.c4, .slice X.a5 X.n5 X.c5, .int .i64 X.self] 46)).alloc (.cells #[.int .i64 2, .int .i64 n] 39)) w.heap.size X N 2 n) := Lib.hid
    ⟨bthen (below_alloc1 _ _) (below_alloc1 _ _), (Bx.new w X 46).below (below_alloc1 _ _), ⟨⟨World.cell?_alloc_at _ _ _ _ (by simp), World.cell?_alloc_at _ _ _ _ (by simp)⟩, by simp⟩, H.out.below (bthen (below_alloc1 _ _) (below_alloc1 _ _))⟩
  refine (name_any X N (2, n) _ HW0.out.nm HTH.out).mono ?_
  rw [HNM.out]
  rintro e w1 ⟨rfl, hb1⟩
  have HW1 : Hid (TlW w w1 w.heap.size X N 2 n) := Lib.hid (HW0.out.next hb1)
  clear hb1 HW0
  obtain ⟨⟨d0, d1⟩, _⟩ := HW1.out.nb
  obtain ⟨⟨s0, s1, s2, s3, s4, s5⟩, _⟩ := HW1.out.bx
  go_wp2_with fail
  refine (first_any X N 4 x N.locals _ HW1.out.nm rfl HLOC.out).mono ?_
  rintro e w2 ⟨hfe, hb2⟩
  rw [HF1.out] at hfe
  have HW2 : Hid (TlW w w2 w.heap.size X N 2 n) := Lib.hid (HW1.out.next hb2)
  clear hb2 s0 s1 s2 s3 s4 s5 d0 d1
  obtain rfl : e = .returned (.tuple #[.int .i64 ((o1.getD 0 : Nat) : Int), .bool o1.isSome]) := hfe
  generalize o1.getD 0 = a1 at *
  generalize o1.isSome = u1 at *
  cases u1 with
  | true =>
    have HR2 : Hid (R = false) := Lib.hid (by rw [← HR.out]; rfl)
    go_wp2
    go_ret
    exact ⟨by rw [HR2.out]; rfl, HW2.out.below⟩
  | false =>
    have HR1 : Hid ((z && (((o2.getD 0 : Nat) : Int) == (k : Int))) = R) := Lib.hid (by rw [← HR.out]; rfl)
    clear HR
    have HR := HR1
    clear HR1
    obtain ⟨⟨d0, d1⟩, _⟩ := HW2.out.nb
    obtain ⟨⟨s0, s1, s2, s3, s4, s5⟩, _⟩ := HW2.out.bx
    obtain ⟨⟨d0, d1⟩, _⟩ := HW2.out.nb
    go_wp2_with fail
    refine (first_any X N 2 x l _ HW2.out.nm HL.out HLEN.out).mono ?_
    rintro e w8 ⟨hfe, hb8⟩
    rw [HF2.out] at hfe
    have HW8 : Hid (TlW w w8 w.heap.size X N 2 n) := Lib.hid (HW2.out.next hb8)
    clear hb8 s0 s1 s2 s3 s4 s5 d0 d1
    obtain rfl : e = .returned (.tuple #[.int .i64 ((o2.getD 0 : Nat) : Int), .bool o2.isSome]) := hfe
    generalize o2.isSome = u2
    generalize o2.getD 0 = a2 at *
    go_wp2_with fail
    refine (lx.name_any x w8).mono ?_
    rintro e w9 ⟨rfl, hb9⟩
    rw [HNB.out]
    have HW9 : Hid (TlW w w9 w.heap.size X N 2 n) := Lib.hid (HW8.out.next hb9)
    clear hb9
    cases z with
    | false =>
      have HR2 : Hid (R = false) := Lib.hid (by rw [← HR.out]; rfl)
      go_wp2
      go_ret
      exact ⟨by rw [HR2.out]; rfl, HW9.out.below⟩
    | true =>
      have HR2 : Hid (R = ((a2 : Int) == (k : Int))) := Lib.hid (by rw [← HR.out]; rfl)
      obtain ⟨⟨d0, d1⟩, _⟩ := HW9.out.nb
      go_wp2_with fail
      refine (place_any (2, n) w9 (fun _ => h0) h9).mono ?_
      rintro e w10 ⟨rfl, hb10⟩
      rw [HP.out]
      have HW10 : Hid (TlW w w10 w.heap.size X N 2 n) := Lib.hid (HW9.out.next hb10)
      clear hb10 d0 d1
      go_wp2
      go_ret
      exact ⟨by rw [HR2.out]; rfl, HW10.out.below⟩

set_option maxRecDepth 20000 in
set_option maxHeartbeats 4000000 in
theorem tells3_any (X : ScX) (N : Nm) (n : Int) (l : List ByteArray) (k : Nat) (w : World) (h : NmR w X N) (hl : nmOf N 3 = some l) (h0 : 0 ≤ n) (h9 : n ≤ 9000000000000000000) (hk : placeF (3, n) = (k : Int)) (hlt : k < l.length) (hlen : l.length ≤ 1000000) (hloc : N.locals.length ≤ 1000000) :
    Calls Tryz.prog 19 #[X.v, .agg #[.int .i64 3, .int .i64 n]] w fun e w' => e = .returned (.bool (tellsB N (3, n))) ∧ Below w.heap.size w w' := by
  have H := Lib.hid h
  have HL := Lib.hid hl
  have HLEN := Lib.hid hlen
  have HLOC := Lib.hid hloc
  have HP := Lib.hid hk
  obtain ⟨x, HX⟩ : ∃ x, Hid (l.getD k default = x) := ⟨_, Lib.hid rfl⟩
  obtain ⟨o1, HF1⟩ : ∃ o, Hid (findF x 0 N.locals = o) := ⟨_, Lib.hid rfl⟩
  obtain ⟨o2, HF2⟩ : ∃ o, Hid (findF x 0 l = o) := ⟨_, Lib.hid rfl⟩
  obtain ⟨z, HNB⟩ : ∃ z, Hid (lx.nameB x = z) := ⟨_, Lib.hid rfl⟩
  have HNM : Hid (nameOf N (3, n) = some x) := Lib.hid (by unfold nameOf; rw [hl, hk]; exact congrArg some HX.out)
  have HTH : Hid (There N (3, n)) := Lib.hid (fun l' e => by
    obtain rfl : l = l' := by injection (hl.symm.trans e)
    exact ⟨h0, h9, by rw [hk]; exact hlt, hlen⟩)
  have HT : Hid (tellsB N (3, n) = (if o1.isSome then false else (z && (((o2.getD 0 : Nat) : Int) == (k : Int))))) := Lib.hid (by
    unfold tellsB
    simp only [hl, hk, Int.toNat_natCast, HX.out, HF1.out, HF2.out, HNB.out]
    simp)
  obtain ⟨R, HR⟩ : ∃ R, Hid ((if o1.isSome then false else (z && (((o2.getD 0 : Nat) : Int) == (k : Int)))) = R) := ⟨_, Lib.hid rfl⟩
  rw [HT.out, HR.out]
  clear h hl hk hlt hlen hloc
  unfold ScX.v
  go_enter Tryz.func19, Tryz.ntmps19
  go_wp2_with fail
  have HW0 : Hid (TlW w ((w.alloc (.cells #[.slice X.a1 X.n1 X.c1, .slice X.a2 X.n2 X.c2, .slice X.a3 X.n3 X.c3, .slice X.a4 X.n4 X.c4, .slice X.a5 X.n5 X.c5, .int .i64 X.self] 46)).alloc (.cells #[.int .i64 3, .int .i64 n] 39)) w.heap.size X N 3 n) := Lib.hid
    ⟨bthen (below_alloc1 _ _) (below_alloc1 _ _), (Bx.new w X 46).below (below_alloc1 _ _), ⟨⟨World.cell?_alloc_at _ _ _ _ (by simp), World.cell?_alloc_at _ _ _ _ (by simp)⟩, by simp⟩, H.out.below (bthen (below_alloc1 _ _) (below_alloc1 _ _))⟩
  refine (name_any X N (3, n) _ HW0.out.nm HTH.out).mono ?_
  rw [HNM.out]
  rintro e w1 ⟨rfl, hb1⟩
  have HW1 : Hid (TlW w w1 w.heap.size X N 3 n) := Lib.hid (HW0.out.next hb1)
  clear hb1 HW0
  obtain ⟨⟨d0, d1⟩, _⟩ := HW1.out.nb
  obtain ⟨⟨s0, s1, s2, s3, s4, s5⟩, _⟩ := HW1.out.bx
  go_wp2_with fail
  refine (first_any X N 4 x N.locals _ HW1.out.nm rfl HLOC.out).mono ?_
  rintro e w2 ⟨hfe, hb2⟩
  rw [HF1.out] at hfe
  have HW2 : Hid (TlW w w2 w.heap.size X N 3 n) := Lib.hid (HW1.out.next hb2)
  clear hb2 s0 s1 s2 s3 s4 s5 d0 d1
  obtain rfl : e = .returned (.tuple #[.int .i64 ((o1.getD 0 : Nat) : Int), .bool o1.isSome]) := hfe
  generalize o1.getD 0 = a1 at *
  generalize o1.isSome = u1 at *
  cases u1 with
  | true =>
    have HR2 : Hid (R = false) := Lib.hid (by rw [← HR.out]; rfl)
    go_wp2
    go_ret
    exact ⟨by rw [HR2.out]; rfl, HW2.out.below⟩
  | false =>
    have HR1 : Hid ((z && (((o2.getD 0 : Nat) : Int) == (k : Int))) = R) := Lib.hid (by rw [← HR.out]; rfl)
    clear HR
    have HR := HR1
    clear HR1
    obtain ⟨⟨d0, d1⟩, _⟩ := HW2.out.nb
    obtain ⟨⟨s0, s1, s2, s3, s4, s5⟩, _⟩ := HW2.out.bx
    obtain ⟨⟨d0, d1⟩, _⟩ := HW2.out.nb
    go_wp2_with fail
    refine (first_any X N 3 x l _ HW2.out.nm HL.out HLEN.out).mono ?_
    rintro e w8 ⟨hfe, hb8⟩
    rw [HF2.out] at hfe
    have HW8 : Hid (TlW w w8 w.heap.size X N 3 n) := Lib.hid (HW2.out.next hb8)
    clear hb8 s0 s1 s2 s3 s4 s5 d0 d1
    obtain rfl : e = .returned (.tuple #[.int .i64 ((o2.getD 0 : Nat) : Int), .bool o2.isSome]) := hfe
    generalize o2.isSome = u2
    generalize o2.getD 0 = a2 at *
    go_wp2_with fail
    refine (lx.name_any x w8).mono ?_
    rintro e w9 ⟨rfl, hb9⟩
    rw [HNB.out]
    have HW9 : Hid (TlW w w9 w.heap.size X N 3 n) := Lib.hid (HW8.out.next hb9)
    clear hb9
    cases z with
    | false =>
      have HR2 : Hid (R = false) := Lib.hid (by rw [← HR.out]; rfl)
      go_wp2
      go_ret
      exact ⟨by rw [HR2.out]; rfl, HW9.out.below⟩
    | true =>
      have HR2 : Hid (R = ((a2 : Int) == (k : Int))) := Lib.hid (by rw [← HR.out]; rfl)
      obtain ⟨⟨d0, d1⟩, _⟩ := HW9.out.nb
      go_wp2_with fail
      refine (place_any (3, n) w9 (fun _ => h0) h9).mono ?_
      rintro e w10 ⟨rfl, hb10⟩
      rw [HP.out]
      have HW10 : Hid (TlW w w10 w.heap.size X N 3 n) := Lib.hid (HW9.out.next hb10)
      clear hb10 d0 d1
      go_wp2
      go_ret
      exact ⟨by rw [HR2.out]; rfl, HW10.out.below⟩

set_option maxRecDepth 20000 in
set_option maxHeartbeats 4000000 in
theorem tells4_any (X : ScX) (N : Nm) (n : Int) (l : List ByteArray) (k : Nat) (w : World) (h : NmR w X N) (hl : nmOf N 4 = some l) (h0 : 0 ≤ n) (h9 : n ≤ 9000000000000000000) (hk : placeF (4, n) = (k : Int)) (hlt : k < l.length) (hlen : l.length ≤ 1000000) (hloc : N.locals.length ≤ 1000000) :
    Calls Tryz.prog 19 #[X.v, .agg #[.int .i64 4, .int .i64 n]] w fun e w' => e = .returned (.bool (tellsB N (4, n))) ∧ Below w.heap.size w w' := by
  have H := Lib.hid h
  have HL := Lib.hid hl
  have HLEN := Lib.hid hlen
  have HLOC := Lib.hid hloc
  have HP := Lib.hid hk
  obtain ⟨x, HX⟩ : ∃ x, Hid (l.getD k default = x) := ⟨_, Lib.hid rfl⟩
  obtain ⟨o1, HF1⟩ : ∃ o, Hid (findF x 0 N.locals = o) := ⟨_, Lib.hid rfl⟩
  obtain ⟨o2, HF2⟩ : ∃ o, Hid (findF x 0 l = o) := ⟨_, Lib.hid rfl⟩
  obtain ⟨z, HNB⟩ : ∃ z, Hid (lx.nameB x = z) := ⟨_, Lib.hid rfl⟩
  have HNM : Hid (nameOf N (4, n) = some x) := Lib.hid (by unfold nameOf; rw [hl, hk]; exact congrArg some HX.out)
  have HTH : Hid (There N (4, n)) := Lib.hid (fun l' e => by
    obtain rfl : l = l' := by injection (hl.symm.trans e)
    exact ⟨h0, h9, by rw [hk]; exact hlt, hlen⟩)
  have HT : Hid (tellsB N (4, n) = (z && (((o2.getD 0 : Nat) : Int) == (k : Int)))) := Lib.hid (by
    unfold tellsB
    simp only [hl, hk, Int.toNat_natCast, HX.out, HF1.out, HF2.out, HNB.out]
    simp)
  obtain ⟨R, HR⟩ : ∃ R, Hid ((z && (((o2.getD 0 : Nat) : Int) == (k : Int))) = R) := ⟨_, Lib.hid rfl⟩
  rw [HT.out, HR.out]
  clear h hl hk hlt hlen hloc
  unfold ScX.v
  go_enter Tryz.func19, Tryz.ntmps19
  go_wp2_with fail
  have HW0 : Hid (TlW w ((w.alloc (.cells #[.slice X.a1 X.n1 X.c1, .slice X.a2 X.n2 X.c2, .slice X.a3 X.n3 X.c3, .slice X.a4 X.n4 X.c4, .slice X.a5 X.n5 X.c5, .int .i64 X.self] 46)).alloc (.cells #[.int .i64 4, .int .i64 n] 39)) w.heap.size X N 4 n) := Lib.hid
    ⟨bthen (below_alloc1 _ _) (below_alloc1 _ _), (Bx.new w X 46).below (below_alloc1 _ _), ⟨⟨World.cell?_alloc_at _ _ _ _ (by simp), World.cell?_alloc_at _ _ _ _ (by simp)⟩, by simp⟩, H.out.below (bthen (below_alloc1 _ _) (below_alloc1 _ _))⟩
  refine (name_any X N (4, n) _ HW0.out.nm HTH.out).mono ?_
  rw [HNM.out]
  rintro e w1 ⟨rfl, hb1⟩
  have HW1 : Hid (TlW w w1 w.heap.size X N 4 n) := Lib.hid (HW0.out.next hb1)
  clear hb1 HW0
  obtain ⟨⟨d0, d1⟩, _⟩ := HW1.out.nb
  obtain ⟨⟨s0, s1, s2, s3, s4, s5⟩, _⟩ := HW1.out.bx
  obtain ⟨⟨d0, d1⟩, _⟩ := HW1.out.nb
  go_wp2_with fail
  refine (first_any X N 4 x l _ HW1.out.nm HL.out HLEN.out).mono ?_
  rintro e w8 ⟨hfe, hb8⟩
  rw [HF2.out] at hfe
  have HW8 : Hid (TlW w w8 w.heap.size X N 4 n) := Lib.hid (HW1.out.next hb8)
  clear hb8 s0 s1 s2 s3 s4 s5 d0 d1
  obtain rfl : e = .returned (.tuple #[.int .i64 ((o2.getD 0 : Nat) : Int), .bool o2.isSome]) := hfe
  generalize o2.isSome = u2
  generalize o2.getD 0 = a2 at *
  go_wp2_with fail
  refine (lx.name_any x w8).mono ?_
  rintro e w9 ⟨rfl, hb9⟩
  rw [HNB.out]
  have HW9 : Hid (TlW w w9 w.heap.size X N 4 n) := Lib.hid (HW8.out.next hb9)
  clear hb9
  cases z with
  | false =>
    have HR2 : Hid (R = false) := Lib.hid (by rw [← HR.out]; rfl)
    go_wp2
    go_ret
    exact ⟨by rw [HR2.out]; rfl, HW9.out.below⟩
  | true =>
    have HR2 : Hid (R = ((a2 : Int) == (k : Int))) := Lib.hid (by rw [← HR.out]; rfl)
    obtain ⟨⟨d0, d1⟩, _⟩ := HW9.out.nb
    go_wp2_with fail
    refine (place_any (4, n) w9 (fun _ => h0) h9).mono ?_
    rintro e w10 ⟨rfl, hb10⟩
    rw [HP.out]
    have HW10 : Hid (TlW w w10 w.heap.size X N 4 n) := Lib.hid (HW9.out.next hb10)
    clear hb10 d0 d1
    go_wp2
    go_ret
    exact ⟨by rw [HR2.out]; rfl, HW10.out.below⟩

set_option maxRecDepth 20000 in
set_option maxHeartbeats 4000000 in
theorem tells6_any (X : ScX) (N : Nm) (n : Int) (l : List ByteArray) (k : Nat) (w : World) (h : NmR w X N) (hl : nmOf N 6 = some l) (h0 : 0 ≤ n) (h9 : n ≤ 9000000000000000000) (hk : placeF (6, n) = (k : Int)) (hlt : k < l.length) (hlen : l.length ≤ 1000000) (hloc : N.locals.length ≤ 1000000) :
    Calls Tryz.prog 19 #[X.v, .agg #[.int .i64 6, .int .i64 n]] w fun e w' => e = .returned (.bool (tellsB N (6, n))) ∧ Below w.heap.size w w' := by
  have H := Lib.hid h
  have HL := Lib.hid hl
  have HLEN := Lib.hid hlen
  have HLOC := Lib.hid hloc
  have HP := Lib.hid hk
  obtain ⟨x, HX⟩ : ∃ x, Hid (l.getD k default = x) := ⟨_, Lib.hid rfl⟩
  obtain ⟨o1, HF1⟩ : ∃ o, Hid (findF x 0 N.locals = o) := ⟨_, Lib.hid rfl⟩
  obtain ⟨o2, HF2⟩ : ∃ o, Hid (findF x 0 l = o) := ⟨_, Lib.hid rfl⟩
  obtain ⟨z, HNB⟩ : ∃ z, Hid (lx.nameB x = z) := ⟨_, Lib.hid rfl⟩
  have HNM : Hid (nameOf N (6, n) = some x) := Lib.hid (by unfold nameOf; rw [hl, hk]; exact congrArg some HX.out)
  have HTH : Hid (There N (6, n)) := Lib.hid (fun l' e => by
    obtain rfl : l = l' := by injection (hl.symm.trans e)
    exact ⟨h0, h9, by rw [hk]; exact hlt, hlen⟩)
  have HT : Hid (tellsB N (6, n) = (z && (((o2.getD 0 : Nat) : Int) == (k : Int)))) := Lib.hid (by
    unfold tellsB
    simp only [hl, hk, Int.toNat_natCast, HX.out, HF1.out, HF2.out, HNB.out]
    simp)
  obtain ⟨R, HR⟩ : ∃ R, Hid ((z && (((o2.getD 0 : Nat) : Int) == (k : Int))) = R) := ⟨_, Lib.hid rfl⟩
  rw [HT.out, HR.out]
  clear h hl hk hlt hlen hloc
  unfold ScX.v
  go_enter Tryz.func19, Tryz.ntmps19
  go_wp2_with fail
  have HW0 : Hid (TlW w ((w.alloc (.cells #[.slice X.a1 X.n1 X.c1, .slice X.a2 X.n2 X.c2, .slice X.a3 X.n3 X.c3, .slice X.a4 X.n4 X.c4, .slice X.a5 X.n5 X.c5, .int .i64 X.self] 46)).alloc (.cells #[.int .i64 6, .int .i64 n] 39)) w.heap.size X N 6 n) := Lib.hid
    ⟨bthen (below_alloc1 _ _) (below_alloc1 _ _), (Bx.new w X 46).below (below_alloc1 _ _), ⟨⟨World.cell?_alloc_at _ _ _ _ (by simp), World.cell?_alloc_at _ _ _ _ (by simp)⟩, by simp⟩, H.out.below (bthen (below_alloc1 _ _) (below_alloc1 _ _))⟩
  refine (name_any X N (6, n) _ HW0.out.nm HTH.out).mono ?_
  rw [HNM.out]
  rintro e w1 ⟨rfl, hb1⟩
  have HW1 : Hid (TlW w w1 w.heap.size X N 6 n) := Lib.hid (HW0.out.next hb1)
  clear hb1 HW0
  obtain ⟨⟨d0, d1⟩, _⟩ := HW1.out.nb
  obtain ⟨⟨s0, s1, s2, s3, s4, s5⟩, _⟩ := HW1.out.bx
  obtain ⟨⟨d0, d1⟩, _⟩ := HW1.out.nb
  go_wp2_with fail
  refine (first_any X N 6 x l _ HW1.out.nm HL.out HLEN.out).mono ?_
  rintro e w8 ⟨hfe, hb8⟩
  rw [HF2.out] at hfe
  have HW8 : Hid (TlW w w8 w.heap.size X N 6 n) := Lib.hid (HW1.out.next hb8)
  clear hb8 s0 s1 s2 s3 s4 s5 d0 d1
  obtain rfl : e = .returned (.tuple #[.int .i64 ((o2.getD 0 : Nat) : Int), .bool o2.isSome]) := hfe
  generalize o2.isSome = u2
  generalize o2.getD 0 = a2 at *
  go_wp2_with fail
  refine (lx.name_any x w8).mono ?_
  rintro e w9 ⟨rfl, hb9⟩
  rw [HNB.out]
  have HW9 : Hid (TlW w w9 w.heap.size X N 6 n) := Lib.hid (HW8.out.next hb9)
  clear hb9
  cases z with
  | false =>
    have HR2 : Hid (R = false) := Lib.hid (by rw [← HR.out]; rfl)
    go_wp2
    go_ret
    exact ⟨by rw [HR2.out]; rfl, HW9.out.below⟩
  | true =>
    have HR2 : Hid (R = ((a2 : Int) == (k : Int))) := Lib.hid (by rw [← HR.out]; rfl)
    obtain ⟨⟨d0, d1⟩, _⟩ := HW9.out.nb
    go_wp2_with fail
    refine (place_any (6, n) w9 (fun _ => h0) h9).mono ?_
    rintro e w10 ⟨rfl, hb10⟩
    rw [HP.out]
    have HW10 : Hid (TlW w w10 w.heap.size X N 6 n) := Lib.hid (HW9.out.next hb10)
    clear hb10 d0 d1
    go_wp2
    go_ret
    exact ⟨by rw [HR2.out]; rfl, HW10.out.below⟩

set_option maxRecDepth 20000 in
set_option maxHeartbeats 4000000 in
theorem tells7_any (X : ScX) (N : Nm) (n : Int) (l : List ByteArray) (k : Nat) (w : World) (h : NmR w X N) (hl : nmOf N 7 = some l) (h0 : 0 ≤ n) (h9 : n ≤ 9000000000000000000) (hk : placeF (7, n) = (k : Int)) (hlt : k < l.length) (hlen : l.length ≤ 1000000) (hloc : N.locals.length ≤ 1000000) :
    Calls Tryz.prog 19 #[X.v, .agg #[.int .i64 7, .int .i64 n]] w fun e w' => e = .returned (.bool (tellsB N (7, n))) ∧ Below w.heap.size w w' := by
  have H := Lib.hid h
  have HL := Lib.hid hl
  have HLEN := Lib.hid hlen
  have HLOC := Lib.hid hloc
  have HP := Lib.hid hk
  obtain ⟨x, HX⟩ : ∃ x, Hid (l.getD k default = x) := ⟨_, Lib.hid rfl⟩
  obtain ⟨o1, HF1⟩ : ∃ o, Hid (findF x 0 N.locals = o) := ⟨_, Lib.hid rfl⟩
  obtain ⟨o2, HF2⟩ : ∃ o, Hid (findF x 0 l = o) := ⟨_, Lib.hid rfl⟩
  obtain ⟨z, HNB⟩ : ∃ z, Hid (lx.nameB x = z) := ⟨_, Lib.hid rfl⟩
  have HNM : Hid (nameOf N (7, n) = some x) := Lib.hid (by unfold nameOf; rw [hl, hk]; exact congrArg some HX.out)
  have HTH : Hid (There N (7, n)) := Lib.hid (fun l' e => by
    obtain rfl : l = l' := by injection (hl.symm.trans e)
    exact ⟨h0, h9, by rw [hk]; exact hlt, hlen⟩)
  have HT : Hid (tellsB N (7, n) = (z && (((o2.getD 0 : Nat) : Int) == (k : Int)))) := Lib.hid (by
    unfold tellsB
    simp only [hl, hk, Int.toNat_natCast, HX.out, HF1.out, HF2.out, HNB.out]
    simp)
  obtain ⟨R, HR⟩ : ∃ R, Hid ((z && (((o2.getD 0 : Nat) : Int) == (k : Int))) = R) := ⟨_, Lib.hid rfl⟩
  rw [HT.out, HR.out]
  clear h hl hk hlt hlen hloc
  unfold ScX.v
  go_enter Tryz.func19, Tryz.ntmps19
  go_wp2_with fail
  have HW0 : Hid (TlW w ((w.alloc (.cells #[.slice X.a1 X.n1 X.c1, .slice X.a2 X.n2 X.c2, .slice X.a3 X.n3 X.c3, .slice X.a4 X.n4 X.c4, .slice X.a5 X.n5 X.c5, .int .i64 X.self] 46)).alloc (.cells #[.int .i64 7, .int .i64 n] 39)) w.heap.size X N 7 n) := Lib.hid
    ⟨bthen (below_alloc1 _ _) (below_alloc1 _ _), (Bx.new w X 46).below (below_alloc1 _ _), ⟨⟨World.cell?_alloc_at _ _ _ _ (by simp), World.cell?_alloc_at _ _ _ _ (by simp)⟩, by simp⟩, H.out.below (bthen (below_alloc1 _ _) (below_alloc1 _ _))⟩
  refine (name_any X N (7, n) _ HW0.out.nm HTH.out).mono ?_
  rw [HNM.out]
  rintro e w1 ⟨rfl, hb1⟩
  have HW1 : Hid (TlW w w1 w.heap.size X N 7 n) := Lib.hid (HW0.out.next hb1)
  clear hb1 HW0
  obtain ⟨⟨d0, d1⟩, _⟩ := HW1.out.nb
  obtain ⟨⟨s0, s1, s2, s3, s4, s5⟩, _⟩ := HW1.out.bx
  obtain ⟨⟨d0, d1⟩, _⟩ := HW1.out.nb
  go_wp2_with fail
  refine (first_any X N 7 x l _ HW1.out.nm HL.out HLEN.out).mono ?_
  rintro e w8 ⟨hfe, hb8⟩
  rw [HF2.out] at hfe
  have HW8 : Hid (TlW w w8 w.heap.size X N 7 n) := Lib.hid (HW1.out.next hb8)
  clear hb8 s0 s1 s2 s3 s4 s5 d0 d1
  obtain rfl : e = .returned (.tuple #[.int .i64 ((o2.getD 0 : Nat) : Int), .bool o2.isSome]) := hfe
  generalize o2.isSome = u2
  generalize o2.getD 0 = a2 at *
  go_wp2_with fail
  refine (lx.name_any x w8).mono ?_
  rintro e w9 ⟨rfl, hb9⟩
  rw [HNB.out]
  have HW9 : Hid (TlW w w9 w.heap.size X N 7 n) := Lib.hid (HW8.out.next hb9)
  clear hb9
  cases z with
  | false =>
    have HR2 : Hid (R = false) := Lib.hid (by rw [← HR.out]; rfl)
    go_wp2
    go_ret
    exact ⟨by rw [HR2.out]; rfl, HW9.out.below⟩
  | true =>
    have HR2 : Hid (R = ((a2 : Int) == (k : Int))) := Lib.hid (by rw [← HR.out]; rfl)
    obtain ⟨⟨d0, d1⟩, _⟩ := HW9.out.nb
    go_wp2_with fail
    refine (place_any (7, n) w9 (fun _ => h0) h9).mono ?_
    rintro e w10 ⟨rfl, hb10⟩
    rw [HP.out]
    have HW10 : Hid (TlW w w10 w.heap.size X N 7 n) := Lib.hid (HW9.out.next hb10)
    clear hb10 d0 d1
    go_wp2
    go_ret
    exact ⟨by rw [HR2.out]; rfl, HW10.out.below⟩

set_option maxRecDepth 20000 in
set_option maxHeartbeats 4000000 in
theorem tells8_any (X : ScX) (N : Nm) (n : Int) (l : List ByteArray) (k : Nat) (w : World) (h : NmR w X N) (hl : nmOf N 8 = some l) (h0 : 0 ≤ n) (h9 : n ≤ 9000000000000000000) (hk : placeF (8, n) = (k : Int)) (hlt : k < l.length) (hlen : l.length ≤ 1000000) (hloc : N.locals.length ≤ 1000000) :
    Calls Tryz.prog 19 #[X.v, .agg #[.int .i64 8, .int .i64 n]] w fun e w' => e = .returned (.bool (tellsB N (8, n))) ∧ Below w.heap.size w w' := by
  have H := Lib.hid h
  have HL := Lib.hid hl
  have HLEN := Lib.hid hlen
  have HLOC := Lib.hid hloc
  have HP := Lib.hid hk
  obtain ⟨x, HX⟩ : ∃ x, Hid (l.getD k default = x) := ⟨_, Lib.hid rfl⟩
  obtain ⟨o1, HF1⟩ : ∃ o, Hid (findF x 0 N.locals = o) := ⟨_, Lib.hid rfl⟩
  obtain ⟨o2, HF2⟩ : ∃ o, Hid (findF x 0 l = o) := ⟨_, Lib.hid rfl⟩
  obtain ⟨z, HNB⟩ : ∃ z, Hid (lx.nameB x = z) := ⟨_, Lib.hid rfl⟩
  have HNM : Hid (nameOf N (8, n) = some x) := Lib.hid (by unfold nameOf; rw [hl, hk]; exact congrArg some HX.out)
  have HTH : Hid (There N (8, n)) := Lib.hid (fun l' e => by
    obtain rfl : l = l' := by injection (hl.symm.trans e)
    exact ⟨h0, h9, by rw [hk]; exact hlt, hlen⟩)
  have HT : Hid (tellsB N (8, n) = (z && (((o2.getD 0 : Nat) : Int) == (k : Int)))) := Lib.hid (by
    unfold tellsB
    simp only [hl, hk, Int.toNat_natCast, HX.out, HF1.out, HF2.out, HNB.out]
    simp)
  obtain ⟨R, HR⟩ : ∃ R, Hid ((z && (((o2.getD 0 : Nat) : Int) == (k : Int))) = R) := ⟨_, Lib.hid rfl⟩
  rw [HT.out, HR.out]
  clear h hl hk hlt hlen hloc
  unfold ScX.v
  go_enter Tryz.func19, Tryz.ntmps19
  go_wp2_with fail
  have HW0 : Hid (TlW w ((w.alloc (.cells #[.slice X.a1 X.n1 X.c1, .slice X.a2 X.n2 X.c2, .slice X.a3 X.n3 X.c3, .slice X.a4 X.n4 X.c4, .slice X.a5 X.n5 X.c5, .int .i64 X.self] 46)).alloc (.cells #[.int .i64 8, .int .i64 n] 39)) w.heap.size X N 8 n) := Lib.hid
    ⟨bthen (below_alloc1 _ _) (below_alloc1 _ _), (Bx.new w X 46).below (below_alloc1 _ _), ⟨⟨World.cell?_alloc_at _ _ _ _ (by simp), World.cell?_alloc_at _ _ _ _ (by simp)⟩, by simp⟩, H.out.below (bthen (below_alloc1 _ _) (below_alloc1 _ _))⟩
  refine (name_any X N (8, n) _ HW0.out.nm HTH.out).mono ?_
  rw [HNM.out]
  rintro e w1 ⟨rfl, hb1⟩
  have HW1 : Hid (TlW w w1 w.heap.size X N 8 n) := Lib.hid (HW0.out.next hb1)
  clear hb1 HW0
  obtain ⟨⟨d0, d1⟩, _⟩ := HW1.out.nb
  obtain ⟨⟨s0, s1, s2, s3, s4, s5⟩, _⟩ := HW1.out.bx
  obtain ⟨⟨d0, d1⟩, _⟩ := HW1.out.nb
  go_wp2_with fail
  refine (first_any X N 8 x l _ HW1.out.nm HL.out HLEN.out).mono ?_
  rintro e w8 ⟨hfe, hb8⟩
  rw [HF2.out] at hfe
  have HW8 : Hid (TlW w w8 w.heap.size X N 8 n) := Lib.hid (HW1.out.next hb8)
  clear hb8 s0 s1 s2 s3 s4 s5 d0 d1
  obtain rfl : e = .returned (.tuple #[.int .i64 ((o2.getD 0 : Nat) : Int), .bool o2.isSome]) := hfe
  generalize o2.isSome = u2
  generalize o2.getD 0 = a2 at *
  go_wp2_with fail
  refine (lx.name_any x w8).mono ?_
  rintro e w9 ⟨rfl, hb9⟩
  rw [HNB.out]
  have HW9 : Hid (TlW w w9 w.heap.size X N 8 n) := Lib.hid (HW8.out.next hb9)
  clear hb9
  cases z with
  | false =>
    have HR2 : Hid (R = false) := Lib.hid (by rw [← HR.out]; rfl)
    go_wp2
    go_ret
    exact ⟨by rw [HR2.out]; rfl, HW9.out.below⟩
  | true =>
    have HR2 : Hid (R = ((a2 : Int) == (k : Int))) := Lib.hid (by rw [← HR.out]; rfl)
    obtain ⟨⟨d0, d1⟩, _⟩ := HW9.out.nb
    go_wp2_with fail
    refine (place_any (8, n) w9 (fun _ => h0) h9).mono ?_
    rintro e w10 ⟨rfl, hb10⟩
    rw [HP.out]
    have HW10 : Hid (TlW w w10 w.heap.size X N 8 n) := Lib.hid (HW9.out.next hb10)
    clear hb10 d0 d1
    go_wp2
    go_ret
    exact ⟨by rw [HR2.out]; rfl, HW10.out.below⟩

end Go.Proofs.YtmnigdphikoljaaGreatDoor.et
namespace Go.Proofs.YtmnigdphikoljaaGreatDoor
open Go.ChangeShapes Go.WideShapes Go.ChangeAt Go.RowKit

set_option maxRecDepth 20000 in
set_option maxHeartbeats 4000000 in
theorem kind_leaf (X : ScX) (S : Sc) (op n t p1 p2 : Int) (fv : Value) (A : Option Addr) (c m : Nat) (ps : List Int) (w : World) (h : SR w X S) (hop : 1 ≤ op ∧ op ≤ 8 ∧ op ≠ 3) (hn : -9223372036854775808 ≤ n ∧ n ≤ 9223372036854775807) (hf : fv = .nilFunc) :
    Calls Tryz.prog 38 #[X.v, .agg #[.int .i64 op, .int .i64 n], .agg #[.int .i64 t, .int .i64 p1, .int .i64 p2, fv], .slice A m c] w (PairP w (nodeK S (op, n) ps)) := by
  subst hf
  have HS := Lib.hid h
  have HN := Lib.hid hn
  have hc : op = 1 ∨ op = 2 ∨ op = 4 ∨ op = 5 ∨ op = 6 ∨ op = 7 ∨ op = 8 := by omega
  clear h hop hn
  rcases hc with rfl | rfl | rfl | rfl | rfl | rfl | rfl
  · obtain ⟨a, b, HE⟩ : ∃ a b, Hid (hadF n (fitB n (-1048576) 1048576) 10 = (a, b)) := ⟨_, _, Lib.hid rfl⟩
    have HP : Hid (nodeK S (1, n) ps = (0, b)) := Lib.hid (by unfold nodeK; simp only [HE.out]; rfl)
    unfold ScX.v
    go_enter Tryz.func38, Tryz.ntmps38
    go_wp2_with fail
    refine (literal_any n _).mono ?_
    rintro e w' ⟨rfl, rfl⟩
    rw [HE.out]
    go_wp2
    go_ret2
    exact ⟨by rw [HP.out]; rfl, bthen (bthen (below_alloc1 _ _) (below_alloc1 _ _)) (below_alloc1 _ _)⟩
  · obtain ⟨a, b, HE⟩ : ∃ a b, Hid (plainK X.n1 S.vars n = (a, b)) := ⟨_, _, Lib.hid rfl⟩
    have HP : Hid (nodeK S (2, n) ps = (a, b)) := Lib.hid (by unfold nodeK; rw [← HS.out.l1]; exact HE.out)
    unfold ScX.v
    go_enter Tryz.func38, Tryz.ntmps38
    go_wp2_with fail
    refine (plain_any X _ _ _ S.vars n _ HS.out.small HS.out.l2 (HS.out.r2.below (bthen (bthen (below_alloc1 _ _) (below_alloc1 _ _)) (below_alloc1 _ _)))).mono ?_
    rintro e w1 ⟨rfl, hb1⟩
    rw [HE.out]
    have HB1 : Hid (Below w.heap.size w w1) := Lib.hid (bthen (bthen (bthen (below_alloc1 _ _) (below_alloc1 _ _)) (below_alloc1 _ _)) hb1)
    clear hb1
    go_wp2
    go_ret2
    exact ⟨by rw [HP.out]; rfl, HB1.out⟩
  · obtain ⟨a, b, HE⟩ : ∃ a b, Hid (plainK X.n1 S.locals n = (a, b)) := ⟨_, _, Lib.hid rfl⟩
    have HP : Hid (nodeK S (4, n) ps = (a, b)) := Lib.hid (by unfold nodeK; rw [← HS.out.l1]; exact HE.out)
    unfold ScX.v
    go_enter Tryz.func38, Tryz.ntmps38
    go_wp2_with fail
    refine (plain_any X _ _ _ S.locals n _ HS.out.small HS.out.l5 (HS.out.r5.below (bthen (bthen (below_alloc1 _ _) (below_alloc1 _ _)) (below_alloc1 _ _)))).mono ?_
    rintro e w1 ⟨rfl, hb1⟩
    rw [HE.out]
    have HB1 : Hid (Below w.heap.size w w1) := Lib.hid (bthen (bthen (bthen (below_alloc1 _ _) (below_alloc1 _ _)) (below_alloc1 _ _)) hb1)
    clear hb1
    go_wp2
    go_ret2
    exact ⟨by rw [HP.out]; rfl, HB1.out⟩
  · by_cases hs : 1 ≤ X.self ∧ X.self ≤ X.n1
    · have HP : Hid (nodeK S (5, n) ps = (1 + X.self, 0)) := Lib.hid (by unfold nodeK; rw [← HS.out.l1, ← HS.out.self]; exact if_pos hs)
      unfold ScX.v
      go_enter Tryz.func38, Tryz.ntmps38
      go_wp2_with fail
      refine (element_yes X X.self _ hs.1 hs.2 HS.out.small).mono ?_
      rintro e w1 ⟨rfl, hb1⟩
      have HB1 : Hid (Below w.heap.size w w1) := Lib.hid (bthen (bthen (bthen (below_alloc1 _ _) (below_alloc1 _ _)) (below_alloc1 _ _)) hb1)
      clear hb1
      go_wp2_with fail
      refine (had_any _ _ _ _).mono ?_
      rintro e w' ⟨rfl, rfl⟩
      go_wp2
      go_ret2
      exact ⟨by rw [HP.out]; rfl, HB1.out⟩
    · have HP : Hid (nodeK S (5, n) ps = (0, 8)) := Lib.hid (by unfold nodeK; rw [← HS.out.l1, ← HS.out.self]; exact if_neg hs)
      have HH := Lib.hid hs
      clear hs
      unfold ScX.v
      go_enter Tryz.func38, Tryz.ntmps38
      go_wp2_with fail
      refine (element_no X X.self _ (by have := HH.out; omega)).mono ?_
      rintro e w1 ⟨rfl, hb1⟩
      have HB1 : Hid (Below w.heap.size w w1) := Lib.hid (bthen (bthen (bthen (below_alloc1 _ _) (below_alloc1 _ _)) (below_alloc1 _ _)) hb1)
      clear hb1
      go_wp2_with fail
      refine (had_any _ _ _ _).mono ?_
      rintro e w' ⟨rfl, rfl⟩
      go_wp2
      go_ret2
      exact ⟨by rw [HP.out]; rfl, HB1.out⟩
  · obtain ⟨x, HX⟩ : ∃ x, Hid (chanB X.n1 S.chans n = x) := ⟨_, Lib.hid rfl⟩
    obtain ⟨a, b, HE⟩ : ∃ a b, Hid (hadF 0 x 8 = (a, b)) := ⟨_, _, Lib.hid rfl⟩
    have HP : Hid (nodeK S (6, n) ps = (a, b)) := Lib.hid (by unfold nodeK; rw [← HS.out.l1, ← HE.out, ← HX.out]; rfl)
    unfold ScX.v
    go_enter Tryz.func38, Tryz.ntmps38
    go_wp2_with fail
    refine (hasChan_any X S.chans n _ HS.out.small HS.out.l3 (HS.out.r3.below (bthen (bthen (below_alloc1 _ _) (below_alloc1 _ _)) (below_alloc1 _ _)))).mono ?_
    rintro e w1 ⟨rfl, hb1⟩
    rw [HX.out]
    have HB1 : Hid (Below w.heap.size w w1) := Lib.hid (bthen (bthen (bthen (below_alloc1 _ _) (below_alloc1 _ _)) (below_alloc1 _ _)) hb1)
    clear hb1
    go_wp2_with fail
    refine (had_any _ _ _ _).mono ?_
    rintro e w' ⟨rfl, rfl⟩
    rw [HE.out]
    go_wp2
    go_ret2
    exact ⟨by rw [HP.out]; rfl, HB1.out⟩
  · obtain ⟨x, HX⟩ : ∃ x, Hid (locB S.procs n = x) := ⟨_, Lib.hid rfl⟩
    obtain ⟨a, b, HE⟩ : ∃ a b, Hid (hadF 0 x 8 = (a, b)) := ⟨_, _, Lib.hid rfl⟩
    have HP : Hid (nodeK S (7, n) ps = (a, b)) := Lib.hid (by unfold nodeK; rw [← HE.out, ← HX.out]; rfl)
    unfold ScX.v
    go_enter Tryz.func38, Tryz.ntmps38
    go_wp2_with fail
    refine (hasLoc_any X S.procs n _ HS.out.l4 (HS.out.r4.below (bthen (bthen (below_alloc1 _ _) (below_alloc1 _ _)) (below_alloc1 _ _))) HN.out).mono ?_
    rintro e w1 ⟨rfl, hb1⟩
    rw [HX.out]
    have HB1 : Hid (Below w.heap.size w w1) := Lib.hid (bthen (bthen (bthen (below_alloc1 _ _) (below_alloc1 _ _)) (below_alloc1 _ _)) hb1)
    clear hb1
    go_wp2_with fail
    refine (had_any _ _ _ _).mono ?_
    rintro e w' ⟨rfl, rfl⟩
    rw [HE.out]
    go_wp2
    go_ret2
    exact ⟨by rw [HP.out]; rfl, HB1.out⟩
  · obtain ⟨a, b, HE⟩ : ∃ a b, Hid (noneK X.n1 n = (a, b)) := ⟨_, _, Lib.hid rfl⟩
    have HP : Hid (nodeK S (8, n) ps = (a, b)) := Lib.hid (by unfold nodeK; rw [← HS.out.l1]; exact HE.out)
    unfold ScX.v
    go_enter Tryz.func38, Tryz.ntmps38
    go_wp2_with fail
    refine (none_any X S.sizes n _ HS.out.small HS.out.l1 (HS.out.r1.below (bthen (bthen (below_alloc1 _ _) (below_alloc1 _ _)) (below_alloc1 _ _)))).mono ?_
    rintro e w1 ⟨rfl, hb1⟩
    rw [HE.out]
    have HB1 : Hid (Below w.heap.size w w1) := Lib.hid (bthen (bthen (bthen (below_alloc1 _ _) (below_alloc1 _ _)) (below_alloc1 _ _)) hb1)
    clear hb1
    go_wp2
    go_ret2
    exact ⟨by rw [HP.out]; rfl, HB1.out⟩

set_option maxRecDepth 20000 in
set_option maxHeartbeats 4000000 in
theorem kind_op (X : ScX) (S : Sc) (op n t : Int) (fv : Value) (A : Option Addr) (c m : Nat) (ps : List Int) (w : World) (hop : 9 ≤ op) (hm : m = ps.length) (hA : IA w A ps) (h1 : 0 < m) (h2 : m ≤ 1000) (hf : ∃ g lb, fv = .func (.func g) #[] lb) :
    Calls Tryz.prog 38 #[X.v, .agg #[.int .i64 op, .int .i64 n], .agg #[.int .i64 t, .int .i64 (opOf op), .int .i64 (opTo op), fv], .slice A m c] w (PairP w (nodeK S (op, n) ps)) := by
  have HM := Lib.hid hm
  have HA := Lib.hid hA
  obtain ⟨a, b, HE⟩ : ∃ a b, Hid (opK op ps = (a, b)) := ⟨_, _, Lib.hid rfl⟩
  have HP : Hid (nodeK S (op, n) ps = (a, b)) := Lib.hid (by
    unfold nodeK
    rw [if_neg (by show ¬ op = 1; omega), if_neg (by show ¬ op = 2; omega), if_neg (by show ¬ op = 3; omega), if_neg (by show ¬ op = 4; omega), if_neg (by show ¬ op = 5; omega), if_neg (by show ¬ op = 6; omega), if_neg (by show ¬ op = 7; omega), if_neg (by show ¬ op = 8; omega)]
    exact HE.out)
  have k1 : ¬ op = 1 := by omega
  have k2 : ¬ op = 2 := by omega
  have k3 : ¬ op = 3 := by omega
  have k4 : ¬ op = 4 := by omega
  have k5 : ¬ op = 5 := by omega
  have k6 : ¬ op = 6 := by omega
  have k7 : ¬ op = 7 := by omega
  have k8 : ¬ op = 8 := by omega
  obtain ⟨g, lb, rfl⟩ := hf
  have HC := Lib.hid (fun (W : World) (hW : Below w.heap.size w W) => opKind_any t op (.func (.func g) #[] lb) A c m ps W HM.out (HA.out.below hW) h1 h2 (.inr ⟨g, lb, rfl⟩))
  generalize opOf op = p1 at *
  generalize opTo op = p2 at *
  clear hm hA
  unfold ScX.v
  go_enter Tryz.func38, Tryz.ntmps38
  go_wp2_with fail
  refine (HC.out _ (bthen (bthen (below_alloc1 _ _) (below_alloc1 _ _)) (below_alloc1 _ _))).mono ?_
  rintro e w1 ⟨rfl, hb1⟩
  rw [HE.out]
  have HB1 : Hid (Below w.heap.size w w1) := Lib.hid (bthen (bthen (bthen (below_alloc1 _ _) (below_alloc1 _ _)) (below_alloc1 _ _)) hb1)
  clear hb1
  go_wp2
  go_ret2
  exact ⟨by rw [HP.out]; rfl, HB1.out⟩
end Go.Proofs.YtmnigdphikoljaaGreatDoor
namespace Go.Proofs.YtmnigdphikoljaaGreatDoor
open Go.ChangeShapes Go.WideShapes Go.ChangeAt Go.RowKit

set_option maxRecDepth 20000 in
set_option maxHeartbeats 4000000 in
theorem kind_item (X : ScX) (S : Sc) (n t p1 p2 : Int) (fv : Value) (A : Option Addr) (c m : Nat) (ps : List Int) (w : World) (h : SR w X S) (hm : m = ps.length) (hA : IA w A ps) (h1 : 0 < m) (hf : fv = .nilFunc) :
    Calls Tryz.prog 38 #[X.v, .agg #[.int .i64 3, .int .i64 n], .agg #[.int .i64 t, .int .i64 p1, .int .i64 p2, fv], .slice A m c] w (PairP w (nodeK S (3, n) ps)) := by
  subst hf
  have HS := Lib.hid h
  obtain ⟨ba, oa, rfl, hba, hca⟩ := hA (by omega)
  have hc0 := hca 0 (by omega)
  rw [Nat.add_zero] at hc0
  obtain ⟨ix, HIX⟩ : ∃ ix, Hid (ps.getD 0 0 = ix) := ⟨_, Lib.hid rfl⟩
  rw [HIX.out] at hc0
  obtain ⟨a, b, HE⟩ : ∃ a b, Hid (itemK X.n1 S.vars n ix = (a, b)) := ⟨_, _, Lib.hid rfl⟩
  have HP : Hid (nodeK S (3, n) ps = (a, b)) := Lib.hid (by unfold nodeK; rw [← HS.out.l1, HIX.out]; exact HE.out)
  rw [HP.out]
  have HC0 := Lib.hid hc0
  clear h hca hc0 hA
  clear hm
  unfold ScX.v
  go_enter Tryz.func38, Tryz.ntmps38
  go_wp2_with fail
  obtain ⟨w3, HW3, HX3, HN3, HB3, hz1, hz2⟩ : ∃ w3, w3 = ((w.alloc (.cells #[.slice X.a1 X.n1 X.c1, .slice X.a2 X.n2 X.c2, .slice X.a3 X.n3 X.c3, .slice X.a4 X.n4 X.c4, .slice X.a5 X.n5 X.c5, .int .i64 X.self] 82)).alloc (.cells #[.int .i64 3, .int .i64 n] 39)).alloc (.cells #[.int .i64 t, .int .i64 p1, .int .i64 p2, .nilFunc] 90) ∧
      Bx w3 w.heap.size X ∧ w3.cell? ⟨w.heap.size + 1, 1, none⟩ = some (.int .i64 n) ∧ Below w.heap.size w w3 ∧ w.heap.size < w3.heap.size ∧ w.heap.size + 1 < w3.heap.size :=
    ⟨_, rfl, ((Bx.new w X _).below (below_alloc1 _ _)).below (below_alloc1 _ _), (World.cell?_alloc_past _ _ _ (by simp)).trans (World.cell?_alloc_at _ _ _ _ (by simp)), bthen (bthen (below_alloc1 _ _) (below_alloc1 _ _)) (below_alloc1 _ _), by simp; omega, by simp⟩
  rw [← HW3]
  clear HW3
  have HB3' := Lib.hid HB3
  have hc0 : w3.cell? ⟨ba, oa, none⟩ = some (.int .i64 ix) := (HB3.cell (p := ⟨ba, oa, none⟩) hba).trans HC0.out
  have hbz : ba < w3.heap.size := Nat.lt_of_lt_of_le hba HB3.size
  obtain ⟨⟨x0, x1, x2, x3, x4, x5⟩, _⟩ := HX3
  clear HB3
  have HCALL := Lib.hid (item_any X S.vars n ix w3.drew HS.out.small HS.out.l2 (HS.out.r2.below HB3'.out.drew))
  generalize hbx : w.heap.size = bx at *
  have HBX := Lib.hid hbx
  clear hbx
  go_region_held3 (fun w' => w'.cell? ⟨bx, 0, none⟩ = some (.slice X.a1 X.n1 X.c1) ∧ w'.cell? ⟨bx, 1, none⟩ = some (.slice X.a2 X.n2 X.c2) ∧ w'.cell? ⟨bx, 2, none⟩ = some (.slice X.a3 X.n3 X.c3) ∧ w'.cell? ⟨bx, 3, none⟩ = some (.slice X.a4 X.n4 X.c4) ∧
      w'.cell? ⟨bx, 4, none⟩ = some (.slice X.a5 X.n5 X.c5) ∧ w'.cell? ⟨bx, 5, none⟩ = some (.int .i64 X.self) ∧ w'.cell? ⟨bx + 1, 1, none⟩ = some (.int .i64 n) ∧ w'.cell? ⟨ba, oa, none⟩ = some (.int .i64 ix))
    (first | exact ⟨x0, x1, x2, x3, x4, x5, HN3, hc0⟩ | exact ⟨g0, g1, g2, g3, g4, g5, g6, g7⟩ | go_keep)
    ((go_at_call 77; refine HCALL.out.mono ?_; rintro e w4 ⟨rfl, hb4⟩; rw [HE.out]; have g0 := (hb4.cell (p := ⟨bx, 0, none⟩) hz1).trans x0; have g1 := (hb4.cell (p := ⟨bx, 1, none⟩) hz1).trans x1; have g2 := (hb4.cell (p := ⟨bx, 2, none⟩) hz1).trans x2; have g3 := (hb4.cell (p := ⟨bx, 3, none⟩) hz1).trans x3; have g4 := (hb4.cell (p := ⟨bx, 4, none⟩) hz1).trans x4; have g5 := (hb4.cell (p := ⟨bx, 5, none⟩) hz1).trans x5; have g6 := (hb4.cell (p := ⟨bx + 1, 1, none⟩) hz2).trans HN3; have g7 := (hb4.cell (p := ⟨ba, oa, none⟩) hbz).trans hc0; have HB4 := Lib.hid hb4; clear hb4))
  go_wp2
  go_ret2
  refine ⟨rfl, ?_⟩
  rw [HBX.out]
  exact HB3'.out.drew.trans (HB4.out.mono (by have := HB3'.out.size; have := HBX.out; show bx ≤ w3.heap.size; omega))
end Go.Proofs.YtmnigdphikoljaaGreatDoor
