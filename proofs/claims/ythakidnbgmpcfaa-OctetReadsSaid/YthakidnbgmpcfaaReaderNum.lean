/- octet's reader: From, Err, Left, Num. -/
import Derived.Test.YthakidnbgmpcfaaReader
namespace Go.Proofs.Ythakidnbgmpcfaa
open Go.ChangeShapes Go.WideShapes Go.ChangeAt Go.RowKit

def FromPost (W : World) (l : List Int) (en : Ending) (w' : World) : Prop := ∃ g A c, en = .returned (.pointer (some ⟨g, 0, none⟩)) ∧ W.heap.size ≤ g ∧ Below W.heap.size W w' ∧ RD w' g A c l 0 0

theorem ob_lt {base n c : Nat} {w : World} {A : Option Addr} {l : List Int} (h : OB base w (.slice A n c) l) : ∀ ad, A = some ad → ad.block < w.heap.size := fun ad e => by
  subst e
  exact (World.ownsRow.lt h ad.block rfl).2

theorem ob_cap {base n c : Nat} {w : World} {A : Option Addr} {l : List Int} (h : OB base w (.slice A n c) l) : l.length ≤ c := by
  rcases h.2 with ⟨h1, h0⟩ | ⟨g, cap, cur, h1, _, _, hn, _⟩
  · injection h1 with _ _ h3; omega
  · injection h1 with _ _ h3; omega

theorem from_any (A : Option Addr) (c m : Nat) (l : List Int) (w : World) (hm : m = l.length) (hc : A = none → c = 0) (hA : BA w A l) (hu : U8 l) (hl : l.length ≤ 1048576) :
    Calls Try.prog 5 #[.slice A m c] w (FromPost w l) := by
  subst hm
  have HA := Lib.hid hA
  have HU := Lib.hid hu
  clear hA hu
  go_enter Try.func5, Try.ntmps5
  go_wp2_with fail
  refine (clone_any A c _ l w rfl hc HA.out (by omega)).mono ?_
  rintro e w1 ⟨v1, rfl, ho1, hb1⟩
  obtain ⟨A1, c1, rfl, hB1⟩ := ho1.form
  have HL := Lib.hid (ob_lt ho1)
  have HP := Lib.hid (ob_cap ho1)
  have HB := Lib.hid hB1
  have HW := Lib.hid hb1
  clear ho1 hb1 hB1
  go_wp2_with fail
  go_ret
  refine ⟨_, A1, c1, rfl, HW.out.size, HW.out.alloc HW.out.size _, ?_, HB.out.alloc _, Nat.zero_le _, HU.out, hl, ?_, HP.out⟩
  · refine World.rowIs_alloc w1 _ _ _ (fun i hi => ?_)
    match i, hi with
    | 0, _ => rfl
    | 1, _ => rfl
    | 2, _ => rfl
    | 3, _ => rfl
    | i + 4, hi => exact absurd hi (by simp)
  · intro ad had
    have := HL.out ad had
    omega

theorem err_any {g : Nat} {A : Option Addr} {c : Nat} {l : List Int} {p : Nat} {e : Int} (w : World) (h : RD w g A c l p e) :
    Calls Try.prog 14 #[.pointer (some ⟨g, 0, none⟩)] w fun en w' => en = .returned (.int .i64 e) ∧ w = w' := by
  have c2 := h.c2
  have c3 := h.c3
  clear h
  go_enter Try.func14, Try.ntmps14
  go_wp2
  go_ret
  exact ⟨rfl, rfl⟩

theorem rleft_any {g : Nat} {A : Option Addr} {c : Nat} {l : List Int} {p : Nat} {e : Int} (w : World) (h : RD w g A c l p e) :
    Calls Try.prog 15 #[.pointer (some ⟨g, 0, none⟩)] w fun en w' => en = .returned (.int .i64 ((l.length : Int) - p)) ∧ ∃ n, w' = w.drewN n := by
  have c2 := h.c2
  have H := Lib.hid h
  clear h
  go_enter Try.func15, Try.ntmps15
  go_wp2_with fail
  refine (left_any w H.out).mono ?_
  rintro en w' ⟨rfl, n, rfl⟩
  go_wp2
  go_ret
  exact ⟨rfl, n, rfl⟩

/-- What a reading call of the reader's leaves: the thing v, k bytes further, the fault f. -/
def RPost (g : Nat) (A : Option Addr) (c : Nat) (l : List Int) (p : Nat) (W : World) (v : Value) (k : Nat) (f : Int) (en : Ending) (w' : World) : Prop :=
  en = .returned v ∧ RD w' g A c l (p + k) f ∧ Only g W w'

theorem readN_fault (l : List Int) : (readN l).f ≠ 0 → (readN l).v = 0 ∧ (readN l).k = 0 := by
  unfold readN
  split
  · intro _; exact ⟨rfl, rfl⟩
  · split
    · intro _; exact ⟨rfl, rfl⟩
    · intro h; exact absurd rfl h

theorem attemptNum_any {g : Nat} {A : Option Addr} {c : Nat} {l : List Int} {p : Nat} (w : World) (h : RD w g A c l p 0) :
    Calls Try.prog 23 #[.pointer (some ⟨g, 0, none⟩), .func (.func 24) #[.pointer (some ⟨g, 0, none⟩)] #[]] w
      (RPost g A c l p w (.int .i64 (readN (l.drop p)).v) (readN (l.drop p)).k (readN (l.drop p)).f) := by
  have c1 := h.c1
  have H := Lib.hid h
  have hf := Lib.hid (readN_fault (l.drop p))
  have hN := fun W (h : RD W g A c l p 0) => cnumber_any W h
  unfold CNum at hN
  have hp := h.place
  generalize readN (l.drop p) = G at hf hN
  obtain ⟨f, v, k⟩ := G
  have HN := Lib.hid hN
  clear h hN
  by_cases h0 : f = 0
  · subst h0
    go_enter Try.func23, Try.ntmps23
    go_wp2_with fail
    refine (HN.out w H.out).mono ?_
    rintro en w1 ⟨rfl, hr1, ho1⟩
    go_wp2_with fail
    go_ret
    exact ⟨rfl, hr1, ho1⟩
  · obtain ⟨e1, e2⟩ := hf.out h0
    have e1' : v = 0 := e1
    have e2' : k = 0 := e2
    subst e1' e2'
    have t : (f != 0) = true := by simpa using h0
    clear e1 e2 h0
    go_enter Try.func23, Try.ntmps23
    go_wp2_with fail
    refine (HN.out w H.out).mono ?_
    rintro en w1 ⟨rfl, hr1, ho1⟩
    have d1 := hr1.c1
    have d3 := hr1.c3
    have f1 := hr1.row.frozen 1
    have f3 := hr1.row.frozen 3
    have HR := Lib.hid hr1
    have HO := Lib.hid ho1
    clear hr1 ho1
    go_wp2_with fail
    go_ret
    exact ⟨rfl, (HR.out.setPlace p hp).setFault f, (HO.out.setCell 1 _).setCell 3 _⟩

theorem rnum_any {g : Nat} {A : Option Addr} {c : Nat} {l : List Int} {p : Nat} (w : World) (h : RD w g A c l p 0) :
    Calls Try.prog 8 #[.pointer (some ⟨g, 0, none⟩)] w (RPost g A c l p w (.int .i64 (readN (l.drop p)).v) (readN (l.drop p)).k (readN (l.drop p)).f) := by
  have H := Lib.hid h
  clear h
  go_enter Try.func8, Try.ntmps8
  go_wp2_with fail
  refine (err_any w H.out).mono ?_
  rintro en w' ⟨rfl, rfl⟩
  go_wp2_with fail
  refine (attemptNum_any w H.out).mono ?_
  rintro en w1 ⟨rfl, hr, ho⟩
  go_wp2_with fail
  go_ret
  exact ⟨rfl, hr, ho⟩
theorem rnum_fault {g : Nat} {A : Option Addr} {c : Nat} {l : List Int} {p : Nat} {e : Int} (w : World) (h : RD w g A c l p e) (he : e ≠ 0) :
    Calls Try.prog 8 #[.pointer (some ⟨g, 0, none⟩)] w (RPost g A c l p w (.int .i64 0) 0 e) := by
  have H := Lib.hid h
  have t : (e != 0) = true := by simpa using he
  clear h he
  go_enter Try.func8, Try.ntmps8
  go_wp2_with fail
  refine (err_any w H.out).mono ?_
  rintro en w' ⟨rfl, rfl⟩
  go_wp2_with fail
  go_ret
  exact ⟨rfl, H.out, Only.refl _ _⟩
end Go.Proofs.Ythakidnbgmpcfaa
