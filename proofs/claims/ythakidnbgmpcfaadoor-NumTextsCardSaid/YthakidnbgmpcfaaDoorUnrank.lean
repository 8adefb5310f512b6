/- Unrank: a contract. -/
import Derived.Test.YthakidnbgmpcfaaDoorNum
import Derived.Deep.OwnRows
namespace Go.Proofs.YthakidnbgmpcfaaDoor
open Go.ChangeShapes Go.WideShapes Go.ChangeAt Go.RowKit

/-- What is left of n, and the digits, where the bases are worked off from behind. -/
def unr (n : Int) : List Int → Option (Int × List Int)
  | [] => some (n, [])
  | b :: bs => (unr n bs).bind fun p => if b < 1 then none else some (p.1 / b, (p.1 % b) :: p.2)

def unrankF (n : Int) (bs : List Int) : Option (List Int) :=
  if 0 ≤ n ∧ n ≤ 1048576 then (unr n bs).bind fun p => if p.1 = 0 then some p.2 else none else none

theorem unr_drop_none (n : Int) : ∀ (bs : List Int) (k : Nat), unr n (bs.drop k) = none → unr n bs = none
  | bs, 0, h => by simpa using h
  | [], k + 1, h => by simpa using h
  | b :: bs, k + 1, h => by
    have := unr_drop_none n bs k (by simpa using h)
    rw [unr, this]; rfl

theorem unr_length (n : Int) : ∀ (bs : List Int) (p : Int × List Int), unr n bs = some p → p.2.length = bs.length
  | [], p, h => by rw [unr] at h; injection h with h; subst h; rfl
  | b :: bs, p, h => by
    rw [unr] at h
    cases hu : unr n bs with
    | none => rw [hu] at h; cases h
    | some q =>
      rw [hu] at h
      simp only [Option.bind_some] at h
      split at h
      · cases h
      · injection h with h; subst h
        simpa using unr_length n bs q hu

/-- What Unrank leaves. -/
def UnrPost (n : Int) (bs : List Int) (w : World) (e : Ending) (w' : World) : Prop :=
  Below w.heap.size w w' ∧
  match unrankF n bs with
  | none => e = .returned (.tuple #[.slice none 0 0, .bool false])
  | some ds => ∃ g, e = .returned (.tuple #[.slice (some ⟨g, 0, none⟩) ds.length ds.length, .bool true]) ∧ IA w' (some ⟨g, 0, none⟩) ds

theorem UnrPost.none_ {n : Int} {bs : List Int} {w w' : World} (hb : Below w.heap.size w w') (h : unrankF n bs = none) : UnrPost n bs w (.returned (.tuple #[.slice none 0 0, .bool false])) w' := by
  refine ⟨hb, ?_⟩
  rw [h]
theorem UnrPost.some_ {n : Int} {bs ds : List Int} {w w' : World} {g m : Nat} (hb : Below w.heap.size w w') (h : unrankF n bs = some ds) (hm : m = ds.length) (hi : IA w' (some ⟨g, 0, none⟩) ds) : UnrPost n bs w (.returned (.tuple #[.slice (some ⟨g, 0, none⟩) m m, .bool true])) w' := by
  subst hm
  refine ⟨hb, ?_⟩
  rw [h]
  exact ⟨g, rfl, hi⟩

theorem Tryd.info3 : (Tryd.prog.info? 3).map (fun i => (i.zero, i.size, i.bytes)) = some (some (.int .i64 0), 1, 8) := by kernel_rfl

def rowF (k : Nat) (ds : List Int) (j : Nat) : Value := if k ≤ j then .int .i64 (ds.getD (j - k) 0) else .int .i64 0

set_option maxHeartbeats 1000000 in
theorem unrank_any (n : Int) (B : Option Addr) (d : Nat) (bs : List Int) (w : World) (hB : IA w B bs) (hb : W64 bs) (hbl : 8 * bs.length ≤ 281474976710656) (hn1 : -9223372036854775808 ≤ n) (hn2 : n ≤ 9223372036854775807) :
    Calls Tryd.prog 10 #[.int .i64 n, .slice B bs.length d] w (UnrPost n bs w) := by
  have hmk := fun W => run_make_row' (P := Tryd.prog) 28 3 (.int .i64 0) 8 Tryd.underlying28 Tryd.info3 rfl .i64 .i64 bs.length hbl (by omega) W
  by_cases h0 : 0 ≤ n ∧ n ≤ 1048576
  · have hin : Hid (unrankF n bs = (unr n bs).bind fun p => if p.1 = 0 then some p.2 else none) := if_pos h0
    obtain ⟨h01, h02⟩ := h0
    go_enter Tryd.func10, Tryd.ntmps10
    go_wp2_with (go_at_call 18; refine (fits_yes _ _ _ _ (by omega) (by omega)).mono ?_; rintro e w' ⟨rfl, rfl⟩)
    go_loopw [0, 7] (fun q i wr => ∃ (k : Nat) (v p : Int) (ds : List Int), k ≤ bs.length ∧ v = (k : Int) - 1 ∧ i = .int .i64 v ∧ q = .int .i64 p ∧ 0 ≤ p ∧ p ≤ 1048576 ∧ Hid (unr n (bs.drop k) = some (p, ds)) ∧
      wr.rowIs w.heap.size 3 bs.length (rowF k ds) ∧ Below w.heap.size w wr) (fun _ i _ => (intOf i + 1).toNat)
    case atStart => exact ⟨bs.length, _, n, [], Nat.le_refl _, rfl, rfl, rfl, h01, h02, Lib.hid (by rw [List.drop_length]; rfl), (World.rowIs_made w _ _ _).congr (fun i hi => by unfold rowF; split <;> simp), (Below.refl _ _).alloc (Nat.le_refl _) _⟩
    case round =>
      obtain ⟨k, v, p, ds, hk, hv, rfl, rfl, hp1, hp2, HU, hrow, hbel⟩ := hrel
      cases k with
      | zero =>
        obtain rfl : v = -1 := by omega
        clear hv
        have hu0 : unr n bs = some (p, ds) := by have := HU.out; simpa using this
        have hlen : Hid (bs.length = ds.length) := Lib.hid (unr_length n bs _ hu0).symm
        by_cases t1 : p = 0
        · have HE : Hid (unrankF n bs = some ds) := Lib.hid (by rw [hin.out, hu0]; simp [t1])
          have HI : Hid (IA wr (some ⟨w.heap.size, 0, none⟩) ds) := Lib.hid (fun _ => ⟨_, 0, rfl, hrow.lt, fun i hi => by
            have := hrow.cell (i := i) (by rw [hlen.out]; exact hi)
            rw [Nat.zero_add, this]; simp [rowF]⟩)
          subst t1
          clear hu0 hrow HU hB hb
          go_wp2
          go_ret2
          exact UnrPost.some_ hbel HE.out hlen.out HI.out
        · have HE : Hid (unrankF n bs = none) := Lib.hid (by rw [hin.out, hu0]; simp [t1])
          have t2 : (p == 0) = false := by simpa using t1
          clear hu0 hrow HU hB hb
          go_wp2
          go_ret2
          exact UnrPost.none_ hbel HE.out
      | succ k =>
        obtain rfl : v = (k : Int) := by omega
        clear hv
        have hlt : k < bs.length := by omega
        obtain ⟨bB, oB, rfl, hbB, hcB⟩ := hB (by omega)
        have c1 : wr.cell? ⟨bB, oB + k, none⟩ = some (.int .i64 (bs.getD k 0)) := by rw [hbel.cell (p := ⟨bB, oB + k, none⟩) hbB]; exact hcB k hlt
        have w1 := hb.at_ k
        have e1 : bs.drop k = bs.getD k 0 :: bs.drop (k + 1) := by rw [List.drop_eq_getElem_cons hlt]; simp [List.getD, hlt]
        have hu : Hid (unr n (bs.drop k) = if bs.getD k 0 < 1 then none else some (p / bs.getD k 0, (p % bs.getD k 0) :: ds)) := Lib.hid (by rw [e1, unr, HU.out]; rfl)
        have hno : Hid (unr n (bs.drop k) = none → unr n bs = none) := Lib.hid (unr_drop_none n bs k)
        have d1 := hrow.cell hlt
        have d2 := hrow.frozen k
        have hne : bB ≠ w.heap.size := by omega
        have hv0 : ∃ u, wr.cell? ⟨w.heap.size, k, none⟩ = some u := ⟨_, d1⟩
        generalize bs.getD k 0 = y at c1 w1 hu
        clear e1 hcB hB hb d1 HU
        obtain ⟨u, d1⟩ := hv0
        by_cases t1 : y < 1
        · have HE : Hid (unrankF n bs = none) := Lib.hid (by rw [hin.out, hno.out (by rw [hu.out, if_pos t1])]; rfl)
          clear hrow
          go_wp2
          go_ret2
          exact UnrPost.none_ hbel HE.out
        · have c3 : (wr.setCell ⟨w.heap.size, k, none⟩ (.int .i64 (p % y))).cell? ⟨bB, oB + k, none⟩ = some (.int .i64 y) := by rw [World.cell?_setCell_other _ _ _ _ (by intro h; injection h with h1; exact hne h1.symm)]; exact c1
          have q1 := Int.ediv_nonneg hp1 (show 0 ≤ y by omega)
          have q2 := Int.ediv_le_self y hp1
          have hrow2 : Hid ((wr.setCell ⟨w.heap.size, k, none⟩ (.int .i64 (p % y))).rowIs w.heap.size 3 bs.length (rowF k ((p % y) :: ds))) := Lib.hid ((hrow.set k _).congr (fun j hj => by
            unfold rowF
            by_cases hjk : j = k
            · subst hjk; simp
            · rw [if_neg hjk]
              by_cases hj2 : k + 1 ≤ j
              · rw [if_pos hj2, if_pos (by omega), show j - k = (j - (k + 1)) + 1 by omega]; rfl
              · rw [if_neg hj2, if_neg (by omega)]))
          have HU2 : Hid (unr n (bs.drop k) = some (p / y, (p % y) :: ds)) := Lib.hid (by rw [hu.out, if_neg t1])
          clear hrow hu
          go_wp2
          go_roundw
          case rel => exact ⟨k, _, _, _, by omega, rfl, rfl, rfl, by omega, by omega, HU2, hrow2.out, hbel.setCell (Nat.le_refl _) _⟩
          case measure => simp [intOf]
  · have hin : unrankF n bs = none := if_neg h0
    have h1 : Hid (n < 0 ∨ 1048576 < n) := Lib.hid (by omega)
    have hin' := Lib.hid hin
    clear hmk h0 hin
    go_enter Tryd.func10, Tryd.ntmps10
    go_wp2_with (go_at_call 18; refine (fits_no _ _ _ _ h1.out).mono ?_; rintro e w' ⟨rfl, rfl⟩)
    go_ret2
    exact UnrPost.none_ (Below.refl _ _) hin'.out
end Go.Proofs.YthakidnbgmpcfaaDoor
