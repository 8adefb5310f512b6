/- The law ChansRight: whether any numbers are right as cells of any channel is the document's, and nothing that was there is changed. No condition. -/
import Derived.Test.YtmebajighiedaaaChRight
namespace Go.Proofs.Ytmebajighiedaaa.chansRight
open Go.ChangeShapes Go.WideShapes Go.ChangeAt Go.RowKit Go.Proofs.Ytmebajighiedaaa.ch

/-- The channel's cells in the box b. -/
def Bx (b : Nat) (x0 : ByteArray) (x1 x2 x3 x4 : Int) (x5 : Bool) (w : World) : Prop :=
  w.cell? ⟨b, 0, none⟩ = some (.string x0) ∧ w.cell? ⟨b, 1, none⟩ = some (.int .i64 x1) ∧ w.cell? ⟨b, 2, none⟩ = some (.int .i64 x2) ∧ w.cell? ⟨b, 3, none⟩ = some (.int .i64 x3) ∧ w.cell? ⟨b, 4, none⟩ = some (.int .i64 x4) ∧ w.cell? ⟨b, 5, none⟩ = some (.bool x5)
theorem Bx.below {b : Nat} {x0 : ByteArray} {x1 x2 x3 x4 : Int} {x5 : Bool} {w w' : World} (h : Bx b x0 x1 x2 x3 x4 x5 w) (hb : b < w.heap.size) (k : Below w.heap.size w w') : Bx b x0 x1 x2 x3 x4 x5 w' :=
  ⟨(k.cell (p := ⟨b, 0, none⟩) hb).trans h.1, (k.cell (p := ⟨b, 1, none⟩) hb).trans h.2.1, (k.cell (p := ⟨b, 2, none⟩) hb).trans h.2.2.1, (k.cell (p := ⟨b, 3, none⟩) hb).trans h.2.2.2.1, (k.cell (p := ⟨b, 4, none⟩) hb).trans h.2.2.2.2.1, (k.cell (p := ⟨b, 5, none⟩) hb).trans h.2.2.2.2.2⟩
set_option maxRecDepth 20000 in
set_option maxHeartbeats 4000000 in
theorem walk (A : Option Addr) (c m : Nat) (l : List Int) (x : ChR) (B : Option Addr) (d n : Nat) (s : List ScR) (w : World) (hm : m = l.length) (hI : InS w A c l) (hl : 8 * m ≤ 140737488355328) (hn : n = s.length) (hS : DS w B s) (hn2 : n ≤ 1000000000000000) :
    Calls Try.prog 5 #[.slice A m c, x.v, .slice B n d] w (LawPost w) := by
  obtain ⟨x0, x1, x2, x3, x4, x5⟩ := x
  have HM := Lib.hid hm
  have HI := Lib.hid hI
  have HL := Lib.hid hl
  have HN := Lib.hid hn
  have HLE : Hid (m ≤ c) := Lib.hid (by rw [hm]; exact hI.le)
  obtain ⟨w0, HW0⟩ : ∃ w0, Hid (w0 = w.alloc (.cells #[.string x0, .int .i64 x1, .int .i64 x2, .int .i64 x3, .int .i64 x4, .bool x5] 34)) := ⟨_, Lib.hid rfl⟩
  have B1 : Hid (Below w.heap.size w w0) := Lib.hid (by rw [HW0.out]; exact (Below.refl _ _).alloc (Nat.le_refl _) _)
  have HIA : Hid (∀ W, Below w0.heap.size w0 W → IA W A l) := Lib.hid (fun W hW => (hI.ia.below B1.out).below hW)
  have HDS : Hid (∀ W, Below w0.heap.size w0 W → DS W B s) := Lib.hid (fun W hW => (hS.below B1.out).below hW)
  have e0 : ∀ i u, (#[Value.string x0, .int .i64 x1, .int .i64 x2, .int .i64 x3, .int .i64 x4, .bool x5] : Array Value)[i]? = some u → w0.cell? ⟨w.heap.size, i, none⟩ = some u := fun i u h => by rw [HW0.out]; exact (World.cell?_alloc_at _ _ _ _ rfl).trans h
  have hsz : Hid (w.heap.size < w0.heap.size) := Lib.hid (by rw [HW0.out]; simp)
  have HBX : Hid (∀ W, Below w0.heap.size w0 W → Bx w.heap.size x0 x1 x2 x3 x4 x5 W) := Lib.hid (fun W hW => Bx.below ⟨e0 0 _ rfl, e0 1 _ rfl, e0 2 _ rfl, e0 3 _ rfl, e0 4 _ rfl, e0 5 _ rfl⟩ hsz.out hW)
  have d0 := HBX.out w0 (Below.refl _ _)
  clear hm hI hn hS e0
  obtain ⟨q, HQ⟩ : ∃ q, Hid (rightF l ⟨x0, x1, x2, x3, x4, x5⟩ s = q) := ⟨_, Lib.hid rfl⟩
  unfold ChR.v
  go_enter Try.func5, Try.ntmps5
  cases q
  all_goals
    go_wp2_with fail
    rw [← HW0.out]
    unfold Bx at d0
    go_region_held3 (fun w' => w'.cell? ⟨w.heap.size, 0, none⟩ = some (.string x0) ∧ w'.cell? ⟨w.heap.size, 1, none⟩ = some (.int .i64 x1) ∧ w'.cell? ⟨w.heap.size, 2, none⟩ = some (.int .i64 x2) ∧ w'.cell? ⟨w.heap.size, 3, none⟩ = some (.int .i64 x3) ∧ w'.cell? ⟨w.heap.size, 4, none⟩ = some (.int .i64 x4) ∧ w'.cell? ⟨w.heap.size, 5, none⟩ = some (.bool x5))
      (first | exact d0 | exact d3 | exact d4 | exact d6 | go_keep)
      (first
        | (go_at_call 18; refine (right_any A c m l ⟨x0, x1, x2, x3, x4, x5⟩ B d n s _ HM.out (HIA.out _ (by first | exact Below.refl _ _ | exact (Below.refl _ _).drew)) HLE.out HI.out.max HN.out (HDS.out _ (by first | exact Below.refl _ _ | exact (Below.refl _ _).drew)) hn2).mono ?_; rw [HQ.out]; rintro e w3 ⟨rfl, hb3⟩; have HB3 : Hid (Below w0.heap.size w0 w3) := Lib.hid ((by first | exact Below.refl _ _ | exact (Below.refl _ _).drew : Below w0.heap.size w0 _).trans hb3); have d3 := HBX.out w3 HB3.out; unfold Bx at d3; clear hb3)
        | (go_at_call 19; refine (refRight_any A c m l ⟨x0, x1, x2, x3, x4, x5⟩ B d n s _ HM.out (HIA.out _ HB3.out) HL.out HN.out (HDS.out _ HB3.out) hn2).mono ?_; rw [HQ.out]; rintro e w4 ⟨rfl, hb4⟩; have HB4 : Hid (Below w0.heap.size w0 w4) := Lib.hid (HB3.out.trans (hb4.mono HB3.out.size)); have d4 := HBX.out w4 HB4.out; unfold Bx at d4; clear hb4)
        | (go_at_call 13; refine (lives_any _).mono ?_; rintro e w6 ⟨rfl, hb6⟩; have HB6 : Hid (Below w0.heap.size w0 w6) := Lib.hid (HB4.out.trans (hb6.mono HB4.out.size)); have d6 := HBX.out w6 HB6.out; unfold Bx at d6; clear hb6)
        | fail)
    go_wp2
    go_ret
    exact ⟨rfl, B1.out.trans (HB6.out.mono B1.out.size)⟩

set_option maxRecDepth 100000 in
theorem lifted (os : Os) (started : os.Started) (H : Type) (enc : TypeId × Value → H) :
    ReturnsInHanded {} Try.checked os 5 .any (Rows.chansRightSpec.pre6 enc Try.prog Try.f5 Rows.chansRightRow.domain false) (Rows.chansRightSpec.post enc Try.prog Try.f5 false true false false) := by
  refine law_lifted started [22, 34, 35] rfl (by kernel_rfl) Try.func5 rfl (by decide +kernel) rfl (fun ds hl => by
    match ds, hl with
    | [_, _, _], _ => rfl) (ChangeSpec.witness6 (enc := enc) (C := Try.checked) false ⟨#[], #[.slice none 0 0, .agg #[.string ⟨#[]⟩, .int .i64 0, .int .i64 0, .int .i64 0, .int .i64 0, .bool false], .slice none 0 0], []⟩ 8 (by kernel_rfl) (by kernel_rfl) (by kernel_rfl) (by kernel_rfl)) ?_
  intro W base args ds ps hval hA hlt hsz
  obtain ⟨v0, vs0, d0, ds0, p0, q0, hargs, rfl, rfl, h0, r0⟩ := trodAll_cons hA
  obtain ⟨v1, vs1, d1, ds1, p1, q1, rfl, rfl, rfl, h1, r1⟩ := trodAll_cons r0
  obtain ⟨v2, vs2, d2, ds2, p2, q2, rfl, rfl, rfl, h2, r2⟩ := trodAll_cons r1
  obtain ⟨rfl, rfl, rfl⟩ := trodAll_nil r2
  obtain rfl : args = #[v0, v1, v2] := by cases args; simp_all
  obtain ⟨A0, c0, x0, rfl, b0, i0, z0⟩ := open_ins_arg (hval 0 22 v0 rfl rfl) h0 hsz 0 rfl rfl
  obtain ⟨x1, rfl⟩ := open_chan_arg (hval 1 34 v1 rfl rfl) h1 hsz 1 rfl rfl
  obtain ⟨A2, c2, x2, rfl, b2, i2, z2, q2, m2, o2⟩ := open_s_arg (hval 2 35 v2 rfl rfl) h2 hsz 2 rfl rfl
  exact walk A0 c0 _ x0 x1 A2 c2 _ x2 W rfl i0 b0 rfl i2 b2

set_option maxRecDepth 100000 in
theorem over : Rows.chansRightRow.holds Try.pinned (OpenSpec.ofChange Rows.chansRightSpec) :=
  OpenClaim.holds_of_wide 5 Try.f5 rfl rfl rfl rfl rfl rfl rfl ⟨rfl, rfl, rfl, rfl, rfl⟩ rfl rfl rfl rfl rfl (by kernel_rfl) Try.func5 (by kernel_rfl)
    (of_decide_eq_true (by kernel_rfl)) (by unfold Func.isWrapper; first | (rw [if_pos (by decide +kernel)]; kernel_rfl) | (rw [if_neg (by decide +kernel)]; exact ⟨rfl, rfl⟩))
    (fun os started H enc _ => lifted os started H enc)

theorem proved : Rows.ChansRightSaid := over
#print axioms proved
end Go.Proofs.Ytmebajighiedaaa.chansRight
