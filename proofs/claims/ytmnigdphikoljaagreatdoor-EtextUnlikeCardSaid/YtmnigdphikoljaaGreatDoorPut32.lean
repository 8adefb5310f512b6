/- Contracts that the claim stands on, several texts in one: EtRAll, LexRefName, EtRText, EtTellsLaw. -/
import Derived.IntWalk
import Derived.Deep.Cut
import Derived.Test.YtmnigdphikoljaaGreatDoorPut1
import Derived.Test.YtmnigdphikoljaaGreatDoorPut2
import Derived.Test.YtmnigdphikoljaaGreatDoorPut3
import Derived.Test.YtmnigdphikoljaaGreatDoorPut4
import Derived.Test.YtmnigdphikoljaaGreatDoorPut5
import Derived.Test.YtmnigdphikoljaaGreatDoorPut6
import Derived.Test.YtmnigdphikoljaaGreatDoorPut7
import Derived.Test.YtmnigdphikoljaaGreatDoorPut8
import Derived.Test.YtmnigdphikoljaaGreatDoorPut9
import Derived.Test.YtmnigdphikoljaaGreatDoorPut10
import Derived.Test.YtmnigdphikoljaaGreatDoorPut11
import Derived.Test.YtmnigdphikoljaaGreatDoorPut12
import Derived.Test.YtmnigdphikoljaaGreatDoorPut13
import Derived.Test.YtmnigdphikoljaaGreatDoorPut14
import Derived.Test.YtmnigdphikoljaaGreatDoorPut15
import Derived.Test.YtmnigdphikoljaaGreatDoorPut16
import Derived.Test.YtmnigdphikoljaaGreatDoorPut17
import Derived.Test.YtmnigdphikoljaaGreatDoorPut18
import Derived.Test.YtmnigdphikoljaaGreatDoorPut19
import Derived.Test.YtmnigdphikoljaaGreatDoorPut20
import Derived.Test.YtmnigdphikoljaaGreatDoorPut21
import Derived.Test.YtmnigdphikoljaaGreatDoorPut22
import Derived.Test.YtmnigdphikoljaaGreatDoorPut23
import Derived.Test.YtmnigdphikoljaaGreatDoorPut24
import Derived.Test.YtmnigdphikoljaaGreatDoorPut25
import Derived.Test.YtmnigdphikoljaaGreatDoorPut26
import Derived.Test.YtmnigdphikoljaaGreatDoorPut27
import Derived.Test.YtmnigdphikoljaaGreatDoorPut28
import Derived.Test.YtmnigdphikoljaaGreatDoorPut29
import Derived.Test.YtmnigdphikoljaaGreatDoorPut30
import Derived.Test.YtmnigdphikoljaaGreatDoorPut31
namespace Go.Proofs.YtmnigdphikoljaaGreatDoor.et
open Go.ChangeShapes Go.WideShapes Go.ChangeAt Go.RowKit Go.Deep

theorem rpart_all (F : Wr) (hlen : F.e.length ≤ 100000) {s k : Nat} {x : Ex} (h : At F.e F.B s k x) : (∀ nd ∈ x.flat, GoodN F.N nd) → RpK F k (txt F.N x) := by
  have size : ∀ {s k : Nat} {y : Ex}, At F.e F.B s k y → (∀ nd ∈ y.flat, GoodN F.N nd) → (txt F.N y).size ≤ 1000000000 := fun {s k y} hy hg => by
    have h1 := txt_size (N := F.N) (x := y) (fun nd hn => (hg nd hn).2)
    have h2 := hy.spec
    omega
  induction h with
  | @lf k h1 h2 h3 =>
    intro hg
    obtain ⟨g1, g2, g3, g4⟩ := hg (F.e.getD k (0, 0)) (by simp [Ex.flat])
    clear hg
    generalize hnd : F.e.getD k (0, 0) = nd at *
    obtain ⟨op, n⟩ := nd
    dsimp only at h2 g3 g4
    obtain ⟨l1, l2, l3⟩ := takes_leaf h2
    unfold txt lfT
    have hc : op = 1 ∨ op = 2 ∨ op = 4 ∨ op = 5 ∨ op = 6 ∨ op = 7 ∨ op = 8 := by omega
    rcases hc with rfl | rfl | rfl | rfl | rfl | rfl | rfl
    · exact rp1 F k n h1 hnd g1 (by omega) g3 g4
    · exact rp2 F k n h1 hnd g1 (by omega) g3 g4
    · exact rp4 F k n h1 hnd g1 (by omega) g3 g4
    · exact rp5 F k n h1 hnd g1 (by omega) g3 g4
    · exact rp6 F k n h1 hnd g1 (by omega) g3 g4
    · exact rp7 F k n h1 hnd g1 (by omega) g3 g4 (g1 F.N.procs rfl).1
    · exact rp8 F k n h1 hnd g1 (by omega) g3 g4
  | @un s k a h1 h2 h3 h4 ih =>
    intro hg
    obtain ⟨g1, g2, g3, g4⟩ := hg (F.e.getD (k + 1) (0, 0)) (by simp [Ex.flat])
    have hga : ∀ nd ∈ a.flat, GoodN F.N nd := fun nd hn => hg nd (by simp only [Ex.flat, List.mem_append]; exact .inl hn)
    have hP := ih hga
    have hS := size h3 hga
    have hsp := h3.spec
    clear hg
    generalize hnd : F.e.getD (k + 1) (0, 0) = nd at *
    obtain ⟨op, n⟩ := nd
    dsimp only at h2 g3 g4
    have hc : op = 3 ∨ op = 9 ∨ op = 10 := by
      unfold takesZ at h2
      split at h2
      · assumption
      · split at h2
        · omega
        · split at h2 <;> omega
    unfold txt unT
    rcases hc with rfl | rfl | rfl
    · exact rp3 F k n h1 hnd g1 (by omega) g3 g4 _ hP hS
    · exact rp9 F k n h1 hnd g1 (by omega) g3 g4 _ a.root hP hsp.2.2.2.1 hS
    · exact rp10 F k n h1 hnd g1 (by omega) g3 g4 _ a.root hP hsp.2.2.2.1 hS
  | @bi s m k a b h1 h2 h3 h4 h5 ih1 ih2 =>
    intro hg
    obtain ⟨g1, g2, g3, g4⟩ := hg (F.e.getD (k + 1) (0, 0)) (by simp [Ex.flat])
    have hga : ∀ nd ∈ a.flat, GoodN F.N nd := fun nd hn => hg nd (by simp only [Ex.flat, List.mem_append]; exact .inl (.inl hn))
    have hgb : ∀ nd ∈ b.flat, GoodN F.N nd := fun nd hn => hg nd (by simp only [Ex.flat, List.mem_append]; exact .inl (.inr hn))
    have hPa := ih1 hga
    have hPb := ih2 hgb
    have hSa := size h3 hga
    have hSb := size h4 hgb
    have hs3 := h3.spec
    have hs4 := h4.spec
    clear hg
    generalize hnd : F.e.getD (k + 1) (0, 0) = nd at *
    obtain ⟨op, n⟩ := nd
    dsimp only at h2 g3 g4
    obtain ⟨p, hp⟩ := pOf_some h2
    have ho : 11 ≤ op := by
      unfold takesZ at h2
      split at h2
      · omega
      · split at h2
        · omega
        · split at h2 <;> omega
    unfold txt
    exact rpB F k op n h1 hnd g1 (by omega) g3 g4 ho m _ _ a.root b.root hPa hPb (by omega) hs4.1 hs3.2.2.2.1 hs4.2.2.2.1 hSa hSb p hp
theorem name_kw {s : ByteArray} (h : lx.nameB s = true) : (s.toList == [115, 101, 108, 102]) = false ∧ (s.toList == [110, 111, 110, 101]) = false ∧ (s.toList == [108, 101, 110]) = false ∧ (s.toList == [97, 116]) = false := by
  unfold lx.nameB lx.kwB lx.kw1 lx.kw2 lx.kw3 lx.kw4 at h
  rw [Bool.and_eq_true] at h
  have h := h.1
  cases h1 : (s.toList == [115, 101, 108, 102]) <;> cases h2 : (s.toList == [110, 111, 110, 101]) <;> cases h3 : (s.toList == [108, 101, 110]) <;> cases h4 : (s.toList == [97, 116]) <;> simp_all
end Go.Proofs.YtmnigdphikoljaaGreatDoor.et
namespace Go.Proofs.YtmnigdphikoljaaGreatDoor.lx
open Go.ChangeShapes Go.WideShapes Go.ChangeAt Go.RowKit Go.Deep

theorem letter_any (r : Int) (w : World) : Calls Tryz.prog 90 #[.int .u8 r] w fun e w' => e = .returned (.bool (letB r)) ∧ w = w' := by
  by_cases h1 : 97 ≤ r
  · by_cases h2 : r ≤ 122
    · have HE : Hid (letB r = true) := Lib.hid (decide_eq_true (by omega))
      go_enter Tryz.func90, Tryz.ntmps90
      go_wp2
      go_ret
      exact ⟨by rw [HE.out]; rfl, rfl⟩
    · have HE : Hid (letB r = false) := Lib.hid (decide_eq_false (by omega))
      have h3 : 65 ≤ r := by omega
      have h4 : ¬ r ≤ 90 := by omega
      go_enter Tryz.func90, Tryz.ntmps90
      go_wp2
      go_ret
      exact ⟨by rw [HE.out]; rfl, rfl⟩
  · by_cases h2 : 65 ≤ r
    · by_cases h3 : r ≤ 90
      · have HE : Hid (letB r = true) := Lib.hid (decide_eq_true (by omega))
        go_enter Tryz.func90, Tryz.ntmps90
        go_wp2
        go_ret
        exact ⟨by rw [HE.out]; rfl, rfl⟩
      · have HE : Hid (letB r = false) := Lib.hid (decide_eq_false (by omega))
        go_enter Tryz.func90, Tryz.ntmps90
        go_wp2
        go_ret
        exact ⟨by rw [HE.out]; rfl, rfl⟩
    · have HE : Hid (letB r = false) := Lib.hid (decide_eq_false (by omega))
      go_enter Tryz.func90, Tryz.ntmps90
      go_wp2
      go_ret
      exact ⟨by rw [HE.out]; rfl, rfl⟩
theorem digit_any (r : Int) (w : World) : Calls Tryz.prog 91 #[.int .u8 r] w fun e w' => e = .returned (.bool (digB r)) ∧ w = w' := by
  by_cases h1 : 48 ≤ r
  · by_cases h2 : r ≤ 57
    · have HE : Hid (digB r = true) := Lib.hid (decide_eq_true (by omega))
      go_enter Tryz.func91, Tryz.ntmps91
      go_wp2
      go_ret
      exact ⟨by rw [HE.out]; rfl, rfl⟩
    · have HE : Hid (digB r = false) := Lib.hid (decide_eq_false (by omega))
      go_enter Tryz.func91, Tryz.ntmps91
      go_wp2
      go_ret
      exact ⟨by rw [HE.out]; rfl, rfl⟩
  · have HE : Hid (digB r = false) := Lib.hid (decide_eq_false (by omega))
    go_enter Tryz.func91, Tryz.ntmps91
    go_wp2
    go_ret
    exact ⟨by rw [HE.out]; rfl, rfl⟩

/-- Strings at places. -/
def TS (w : World) (A : Option Addr) (n : Nat) : Prop := ∃ b, A = some ⟨b, 0, none⟩ ∧ b < w.heap.size ∧ ∀ i, i < n → ∃ t : ByteArray, t.size ≤ 2 ∧ w.cell? ⟨b, i, none⟩ = some (.string t)
theorem signs_any (w : World) : Calls Tryz.prog 92 #[] w fun e w' => (∃ A, e = .returned (.slice A 25 25) ∧ TS w' A 25) ∧ Below w.heap.size w w' := by
  go_enter Tryz.func92, Tryz.ntmps92
  go_wp2
  go_ret
  refine ⟨⟨_, rfl, _, rfl, by simp, fun i hi => ?_⟩, (Below.refl _ _).alloc (Nat.le_refl _) _⟩
  rcases i with _|_|_|_|_|_|_|_|_|_|_|_|_|_|_|_|_|_|_|_|_|_|_|_|_|i
  all_goals first
    | exact ⟨_, by decide, World.cell?_alloc_at _ _ _ _ rfl⟩
    | omega

set_option maxRecDepth 100000 in
set_option maxHeartbeats 4000000 in
theorem begins_let (s : ByteArray) (w : World) (h0 : 0 < s.size) (h16 : s.size ≤ 16) (hl : letB (bt s 0) = true) :
    Calls Tryz.prog 55 #[.string s, .int .i64 0] w fun e w' => (∃ q : Nat, e = .returned (.tuple #[.int .i64 q, .int .i64 1]) ∧ q ≤ s.size ∧ (q = s.size ↔ ∀ i, i < s.size → wB (bt s i) = true)) ∧ Below w.heap.size w w' := by
  have HL : Hid (letB ((s[0]'h0).toNat : Int) = true) := Lib.hid (by rw [← bt_eq h0]; exact hl)
  clear hl
  go_enter Tryz.func55, Tryz.ntmps55
  go_wp2_with fail
  refine (letter_any _ _).mono ?_
  rw [HL.out]
  rintro e w' ⟨rfl, rfl⟩
  go_wp2
  go_loop [6] (fun i => ∃ k : Nat, k ≤ s.size ∧ i = .int .i64 k ∧ Hid (∀ j, j < k → wB (bt s j) = true)) (fun i => s.size - (intOf i).toNat)
  case atStart => exact ⟨0, Nat.zero_le _, rfl, Lib.hid (fun j hj => absurd hj (Nat.not_lt_zero _))⟩
  case round =>
    obtain ⟨k, hk, rfl, HV⟩ := hrel
    by_cases hlt : k < s.size
    · obtain ⟨b, hb⟩ : ∃ b : Nat, (s[k]'hlt).toNat = b := ⟨_, rfl⟩
      have HBT : Hid (bt s k = b) := Lib.hid ((bt_eq hlt).trans hb)
      have HGO : Hid (wB b = true → ∀ j, j < k + 1 → wB (bt s j) = true) := Lib.hid (fun h j hj => by
        by_cases hjk : j = k
        · rw [hjk, HBT.out]; exact h
        · exact HV.out j (by omega))
      cases h1 : letB b with
      | true =>
        have HW := Lib.hid (HGO.out (wB_let h1))
        have H1 := Lib.hid h1
        clear h1
        go_wp2_with fail
        refine (letter_any _ _).mono ?_
        rw [H1.out]
        rintro e w' ⟨rfl, rfl⟩
        go_wp2
        go_round
        case rel => exact ⟨k + 1, by omega, by go_num, HW⟩
        case measure => simp [intOf]; omega
      | false =>
        cases h2 : digB b with
        | true =>
          have HW := Lib.hid (HGO.out (by unfold wB; rw [h1, h2]; rfl))
          have H1 := Lib.hid h1
          have H2 := Lib.hid h2
          clear h1 h2
          go_wp2_with fail
          refine (letter_any _ _).mono ?_
          rw [H1.out]
          rintro e w' ⟨rfl, rfl⟩
          go_wp2_with fail
          refine (digit_any _ _).mono ?_
          rw [H2.out]
          rintro e w' ⟨rfl, rfl⟩
          go_wp2
          go_round
          case rel => exact ⟨k + 1, by omega, by go_num, HW⟩
          case measure => simp [intOf]; omega
        | false =>
          by_cases h3 : b = 95
          · have HW := Lib.hid (HGO.out (by unfold wB; rw [h3]; decide))
            have h3' : (b : Int) = 95 := by omega
            clear h1 h2
            go_wp2_with fail
            refine (letter_any _ _).mono ?_
            rw [show letB 95 = false by decide]
            rintro e w' ⟨rfl, rfl⟩
            go_wp2_with fail
            refine (digit_any _ _).mono ?_
            rw [show digB 95 = false by decide]
            rintro e w' ⟨rfl, rfl⟩
            go_wp2
            go_round
            case rel => exact ⟨k + 1, by omega, by go_num, HW⟩
            case measure => simp [intOf]; omega
          · have HNO : Hid (¬ ∀ i, i < s.size → wB (bt s i) = true) := Lib.hid (fun h => by
              have := h k hlt
              rw [HBT.out] at this
              unfold wB at this
              rw [h1, h2, decide_eq_false h3] at this
              cases this)
            have H1 := Lib.hid h1
            have H2 := Lib.hid h2
            have h3' : ¬ (b : Int) = 95 := by omega
            clear h1 h2
            go_wp2_with fail
            refine (letter_any _ _).mono ?_
            rw [H1.out]
            rintro e w' ⟨rfl, rfl⟩
            go_wp2_with fail
            refine (digit_any _ _).mono ?_
            rw [H2.out]
            rintro e w' ⟨rfl, rfl⟩
            go_wp2
            go_ret2
            exact ⟨⟨k, rfl, hk, fun h => by omega, fun h => absurd h HNO.out⟩, Below.refl _ _⟩
    · obtain rfl : k = s.size := by omega
      go_wp2
      go_ret2
      exact ⟨⟨_, rfl, Nat.le_refl _, fun _ => HV.out, fun _ => rfl⟩, Below.refl _ _⟩

set_option maxRecDepth 100000 in
set_option maxHeartbeats 4000000 in
theorem begins_dig (s : ByteArray) (w : World) (h0 : 0 < s.size) (h16 : s.size ≤ 16) (hl : letB (bt s 0) = false) (hd : digB (bt s 0) = true) :
    Calls Tryz.prog 55 #[.string s, .int .i64 0] w fun e w' => (∃ n k : Int, e = .returned (.tuple #[.int .i64 n, .int .i64 k]) ∧ k ≠ 1) ∧ Below w.heap.size w w' := by
  have HL : Hid (letB ((s[0]'h0).toNat : Int) = false) := Lib.hid (by rw [← bt_eq h0]; exact hl)
  have HD : Hid (digB ((s[0]'h0).toNat : Int) = true) := Lib.hid (by rw [← bt_eq h0]; exact hd)
  clear hl hd
  go_enter Tryz.func55, Tryz.ntmps55
  go_wp2_with fail
  refine (letter_any _ _).mono ?_
  rw [HL.out]
  rintro e w' ⟨rfl, rfl⟩
  go_wp2_with fail
  refine (digit_any _ _).mono ?_
  rw [HD.out]
  rintro e w' ⟨rfl, rfl⟩
  go_wp2
  go_loop [6] (fun i => ∃ k : Nat, k ≤ s.size ∧ i = .int .i64 k) (fun i => s.size - (intOf i).toNat)
  case atStart => exact ⟨0, Nat.zero_le _, rfl⟩
  case round =>
    obtain ⟨k, hk, rfl⟩ := hrel
    by_cases hlt : k < s.size
    · obtain ⟨b, hb⟩ : ∃ b : Nat, (s[k]'hlt).toNat = b := ⟨_, rfl⟩
      cases h2 : digB b with
      | true =>
        have H2 := Lib.hid h2
        clear h2
        go_wp2_with fail
        refine (digit_any _ _).mono ?_
        rw [H2.out]
        rintro e w' ⟨rfl, rfl⟩
        go_wp2
        go_round
        case rel => exact ⟨k + 1, by omega, by go_num⟩
        case measure => simp [intOf]; omega
      | false =>
        have H2 := Lib.hid h2
        clear h2
        go_wp2_with fail
        refine (digit_any _ _).mono ?_
        rw [H2.out]
        rintro e w' ⟨rfl, rfl⟩
        go_wp2
        go_ret2
        exact ⟨⟨_, _, rfl, by decide⟩, Below.refl _ _⟩
    · obtain rfl : k = s.size := by omega
      go_wp2
      go_ret2
      exact ⟨⟨_, _, rfl, by decide⟩, Below.refl _ _⟩

set_option maxRecDepth 100000 in
set_option maxHeartbeats 4000000 in
theorem begins_sign (s : ByteArray) (w : World) (h0 : 0 < s.size) (h16 : s.size ≤ 16) (hl : letB (bt s 0) = false) (hd : digB (bt s 0) = false) :
    Calls Tryz.prog 55 #[.string s, .int .i64 0] w fun e w' => (∃ n k : Int, e = .returned (.tuple #[.int .i64 n, .int .i64 k]) ∧ k ≠ 1) ∧ Below w.heap.size w w' := by
  have HL : Hid (letB ((s[0]'h0).toNat : Int) = false) := Lib.hid (by rw [← bt_eq h0]; exact hl)
  have HD : Hid (digB ((s[0]'h0).toNat : Int) = false) := Lib.hid (by rw [← bt_eq h0]; exact hd)
  clear hl hd
  go_enter Tryz.func55, Tryz.ntmps55
  go_wp2_with fail
  refine (letter_any _ _).mono ?_
  rw [HL.out]
  rintro e w' ⟨rfl, rfl⟩
  go_wp2_with fail
  refine (digit_any _ _).mono ?_
  rw [HD.out]
  rintro e w' ⟨rfl, rfl⟩
  go_wp2_with fail
  refine (signs_any w).mono ?_
  rintro e w1 ⟨⟨A, rfl, bs, rfl, hbs, hcs⟩, hb1⟩
  have HCS := Lib.hid hcs
  have HB1 := Lib.hid hb1
  clear hcs hb1
  go_wp2
  go_loopw [8] (fun i wr => ∃ (k j : Nat), k ≤ 25 ∧ i = .int .i64 k ∧ wr = w1.drewN j) (fun i _ => 25 - (intOf i).toNat)
  case atStart => exact ⟨0, 0, Nat.zero_le _, rfl, rfl⟩
  case round =>
    obtain ⟨k, j, hk, rfl, rfl⟩ := hrel
    have HBJ : Hid (∀ n, Below w.heap.size w (w1.drewN n)) := Lib.hid (fun n => below_drewN HB1.out n)
    by_cases hlt : k < 25
    · obtain ⟨t, ht, ct⟩ := HCS.out k hlt
      by_cases hsz : t.size ≤ s.size
      · have hsl : ∀ W, (Instr.slice 9 (.string s) (some (.int .i64 0)) (some (.int .i64 (t.size : Int))) none).run Tryz.prog W = .ok (.string (s.extract 0 t.size)) W := fun W => by
          rw [run_slice_string W 9 s .i64 .i64 0 t.size Tryz.underlying9 (by omega) (by omega) (by omega)]
          rfl
        have q1 : IntKind.i64.wrap (0 + (t.size : Int)) = (t.size : Int) := (IntWalk.i64_in _ (by omega)).trans (by omega)
        have q2 : IntKind.i64.wrap ((s.size : Int) - 0) = (s.size : Int) := (IntWalk.i64_in _ (by omega)).trans (by omega)
        obtain ⟨bb, hbb⟩ : ∃ bb, ((s.extract 0 t.size).toList == t.toList) = bb := ⟨_, rfl⟩
        cases bb with
        | true =>
          go_wp2
          go_quiet (fail)
          go_wp2
          go_ret2
          exact ⟨⟨_, _, rfl, by decide⟩, HBJ.out _⟩
        | false =>
          go_wp2
          go_quiet (fail)
          go_wp2
          go_roundw
          case rel => exact ⟨k + 1, _, by omega, by go_num, rfl⟩
          case measure => simp [intOf]; omega
      · have q2 : IntKind.i64.wrap ((s.size : Int) - 0) = (s.size : Int) := (IntWalk.i64_in _ (by omega)).trans (by omega)
        have hsz2 : decide ((t.size : Int) ≤ (s.size : Int)) = false := decide_eq_false (by omega)
        go_wp2
        go_quiet (fail)
        go_wp2
        go_roundw
        case rel => exact ⟨k + 1, _, by omega, by go_num, rfl⟩
        case measure => simp [intOf]; omega
    · obtain rfl : k = 25 := by omega
      have HBX := HBJ.out j
      go_wp2
      go_ret2
      exact ⟨⟨_, _, rfl, by decide⟩, HBX⟩

theorem name_whole (s : ByteArray) (hk : kwB s = false) (h0 : 0 < s.size) (h16 : s.size ≤ 16) : nameB s = decide (letB (bt s 0) = true ∧ ∀ i, i < s.size → wB (bt s i) = true) := by
  unfold nameB
  rw [hk, decide_eq_true (show 1 ≤ s.size ∧ s.size ≤ 16 from ⟨h0, h16⟩)]
  simp only [Bool.not_false, Bool.true_and]
  rw [Bool.eq_iff_iff, decide_eq_true_iff, decide_eq_true_iff]
  exact stop_whole s h0
/-- What begins tells of a text that is to be a name. -/
theorem begins_any (s : ByteArray) (w : World) (hk : kwB s = false) (h0 : 0 < s.size) (h16 : s.size ≤ 16) :
    Calls Tryz.prog 55 #[.string s, .int .i64 0] w fun e w' => (∃ n k : Int, e = .returned (.tuple #[.int .i64 n, .int .i64 k]) ∧ (k == 1 && n == (s.size : Int)) = nameB s) ∧ Below w.heap.size w w' := by
  rw [name_whole s hk h0 h16]
  cases hl : letB (bt s 0) with
  | true =>
    refine (begins_let s w h0 h16 hl).mono ?_
    rintro e w' ⟨⟨q, rfl, hq, hi⟩, hb⟩
    refine ⟨⟨q, 1, rfl, ?_⟩, hb⟩
    rw [Bool.eq_iff_iff]
    simp only [BEq.rfl, Bool.true_and, beq_iff_eq, decide_eq_true_iff, true_and]
    rw [← hi]
    omega
  | false =>
    have hf : decide ((false : Bool) = true ∧ ∀ i, i < s.size → wB (bt s i) = true) = false := decide_eq_false (fun h => by cases h.1)
    rw [hf]
    have fin : ∀ (e : Ending) (w' : World), (∃ n k : Int, e = .returned (.tuple #[.int .i64 n, .int .i64 k]) ∧ k ≠ 1) ∧ Below w.heap.size w w' → (∃ n k : Int, e = .returned (.tuple #[.int .i64 n, .int .i64 k]) ∧ (k == 1 && n == (s.size : Int)) = false) ∧ Below w.heap.size w w' := by
      rintro e w' ⟨⟨n, k, rfl, h⟩, hb⟩
      exact ⟨⟨n, k, rfl, by simp [h]⟩, hb⟩
    cases hd : digB (bt s 0) with
    | true => exact (begins_dig s w h0 h16 hl hd).mono fin
    | false => exact (begins_sign s w h0 h16 hl hd).mono fin

set_option maxRecDepth 100000 in
set_option maxHeartbeats 2000000 in
theorem refName_any (s : ByteArray) (w : World) : Calls Tryz.prog 23 #[.string s] w fun e w' => e = .returned (.bool (nameB s)) ∧ Below w.heap.size w w' := by
  by_cases h0 : s.size = 0
  · have hs : s = ⟨#[]⟩ := by
      obtain ⟨d⟩ := s
      have : d.size = 0 := h0
      rw [Array.eq_empty_of_size_eq_zero this]
    subst hs
    have HE : Hid (nameB ⟨#[]⟩ = false) := Lib.hid (by unfold nameB; rw [decide_eq_false (show ¬ (1 ≤ (ByteArray.mk #[]).size ∧ (ByteArray.mk #[]).size ≤ 16) by decide)]; simp)
    rw [HE.out]
    go_enter Tryz.func23, Tryz.ntmps23
    go_wp2
    go_ret
    exact ⟨rfl, Below.refl _ _⟩
  · have hne : s.toList.isEmpty = false := by
      rw [ByteArray.toList_eq]
      cases hl : s.data.toList with
      | nil =>
        have := congrArg List.length hl
        exact absurd (by simpa using this) h0
      | cons _ _ => rfl
    have hne2 : (s.toList == []) = false := by
      cases hl : s.toList with
      | nil => rw [hl] at hne; cases hne
      | cons _ _ => rfl
    by_cases h16 : 16 < s.size
    · have HE : Hid (nameB s = false) := Lib.hid (by unfold nameB; rw [decide_eq_false (show ¬ (1 ≤ s.size ∧ s.size ≤ 16) by omega)]; simp)
      rw [HE.out]
      go_enter Tryz.func23, Tryz.ntmps23
      go_wp2
      go_ret
      exact ⟨rfl, Below.refl _ _⟩
    · obtain ⟨b1, h1⟩ : ∃ b1, (s.toList == [115, 101, 108, 102]) = b1 := ⟨_, rfl⟩
      obtain ⟨b2, h2⟩ : ∃ b2, (s.toList == [110, 111, 110, 101]) = b2 := ⟨_, rfl⟩
      obtain ⟨b3, h3⟩ : ∃ b3, (s.toList == [108, 101, 110]) = b3 := ⟨_, rfl⟩
      obtain ⟨b4, h4⟩ : ∃ b4, (s.toList == [97, 116]) = b4 := ⟨_, rfl⟩
      have HK : Hid (kwB s = (b1 || b2 || b3 || b4)) := Lib.hid (by unfold kwB kw1 kw2 kw3 kw4; rw [h1, h2, h3, h4])
      have HKE : Hid (kwB s = true → nameB s = false) := Lib.hid (fun h => by unfold nameB; rw [h]; simp)
      have hz16 : ¬ (16 : Int) < (s.size : Int) := by omega
      cases b1 with
      | true =>
        rw [HKE.out (by rw [HK.out]; rfl)]
        go_enter Tryz.func23, Tryz.ntmps23
        go_wp2
        go_ret
        exact ⟨rfl, Below.refl _ _⟩
      | false =>
      cases b2 with
      | true =>
        rw [HKE.out (by rw [HK.out]; rfl)]
        go_enter Tryz.func23, Tryz.ntmps23
        go_wp2
        go_ret
        exact ⟨rfl, Below.refl _ _⟩
      | false =>
      cases b3 with
      | true =>
        rw [HKE.out (by rw [HK.out]; rfl)]
        go_enter Tryz.func23, Tryz.ntmps23
        go_wp2
        go_ret
        exact ⟨rfl, Below.refl _ _⟩
      | false =>
      cases b4 with
      | true =>
        rw [HKE.out (by rw [HK.out]; rfl)]
        go_enter Tryz.func23, Tryz.ntmps23
        go_wp2
        go_ret
        exact ⟨rfl, Below.refl _ _⟩
      | false =>
        have HKF : Hid (kwB s = false) := Lib.hid HK.out
        go_enter Tryz.func23, Tryz.ntmps23
        go_wp2_with fail
        refine (begins_any s w HKF.out (by omega) (by omega)).mono ?_
        rintro e w' ⟨⟨n, k, rfl, hnk⟩, hb⟩
        by_cases hk1 : k = 1
        · subst hk1
          have HE : Hid ((n == (s.size : Int)) = nameB s) := Lib.hid (by rw [← hnk]; simp)
          clear hnk
          go_wp2
          go_ret
          exact ⟨by rw [← HE.out]; rfl, hb⟩
        · have HE : Hid (false = nameB s) := Lib.hid (by rw [← hnk]; simp [hk1])
          have hk2 : (k == 1) = false := by simpa using hk1
          clear hnk
          go_wp2
          go_ret
          exact ⟨by rw [← HE.out]; rfl, hb⟩
end Go.Proofs.YtmnigdphikoljaaGreatDoor.lx
namespace Go.Proofs.YtmnigdphikoljaaGreatDoor.et
open Go.ChangeShapes Go.WideShapes Go.ChangeAt Go.RowKit Go.Deep

set_option maxRecDepth 20000 in
set_option maxHeartbeats 2000000 in
theorem refText_any (X : ScX) (S : Sc) (N : Nm) (e : List (Int × Int)) (A : Option Addr) (n c : Nat) (w : World) (hs : SR w X S) (hnm : NmR w X N) (hlens : ∀ op l, nmOf N op = some l → l.length ≤ 1000000) (hn : n = e.length) (hA : PA w A e) (hN : N64 e) (hn60 : n ≤ 8796093022208) :
    Calls Tryz.prog 11 #[.slice A n c, X.v] w (TextP w (textF S N e)) := by
  have hL := lens_of hs hnm hlens
  have hb1 := below_alloc1 w (.cells #[.slice X.a1 X.n1 X.c1, .slice X.a2 X.n2 X.c2, .slice X.a3 X.n3 X.c3, .slice X.a4 X.n4 X.c4, .slice X.a5 X.n5 X.c5, .int .i64 X.self] 28)
  have HB1 := Lib.hid hb1
  have HBX : Hid (Bx (w.alloc (.cells #[.slice X.a1 X.n1 X.c1, .slice X.a2 X.n2 X.c2, .slice X.a3 X.n3 X.c3, .slice X.a4 X.n4 X.c4, .slice X.a5 X.n5 X.c5, .int .i64 X.self] 28)) w.heap.size X) := Lib.hid (Bx.new w X 28)
  have HLX := Lib.hid hL
  have HLE := Lib.hid hlens
  have HN := Lib.hid hn
  have HN6 := Lib.hid hN
  have HA1 := Lib.hid (hA.below hb1)
  have HS1 := Lib.hid (hs.below hb1)
  have HM1 := Lib.hid (hnm.below hb1)
  obtain ⟨kd, why, HK⟩ : ∃ a b, Hid (kindF S e = (a, b)) := ⟨_, _, Lib.hid rfl⟩
  clear hL hs hnm hlens hn hA hN hb1
  unfold ScX.v
  go_enter Tryz.func11, Tryz.ntmps11
  go_upto_region 1 with (fail)
  generalize hgn : w.heap.size = g at *
  generalize w.alloc (.cells #[.slice X.a1 X.n1 X.c1, .slice X.a2 X.n2 X.c2, .slice X.a3 X.n3 X.c3, .slice X.a4 X.n4 X.c4, .slice X.a5 X.n5 X.c5, .int .i64 X.self] 28) = w1 at *
  obtain ⟨⟨s0, s1, s2, s3, s4, s5⟩, _⟩ := HBX.out
  have HC := refKind_any X S e A c n w1 HS1.out HN.out HA1.out HN6.out hn60
  rw [HK.out] at HC
  unfold ScX.v at HC
  have HC := Lib.hid HC
  go_wp2_with fail
  refine HC.out.mono ?_
  rintro x w2 ⟨rfl, hb2⟩
  have HB2 := Lib.hid (HB1.out.trans (hb2.mono (by have := HB1.out.size; omega)))
  have HBX2 := Lib.hid (HBX.out.below hb2)
  have HA2 := Lib.hid (HA1.out.below hb2)
  have HM2 := Lib.hid (HM1.out.below hb2)
  clear s0 s1 s2 s3 s4 s5 hb2 HC
  dsimp only
  by_cases hw : why = 0
  · subst hw
    have hk : (kindF S e).2 = 0 := by rw [HK.out]
    obtain ⟨B, tr, hB, hBl, hpos, h24, hAt, hfl, htr⟩ := kind_tree hk
    have HTH : Hid (∀ nd ∈ e, There N nd) := Lib.hid (fun nd hn => by obtain ⟨ps, h1, _⟩ := kind_each hk nd hn; exact there_of HLX.out h1)
    obtain ⟨b, HAL⟩ : ∃ b, Hid (e.all (tellsB N) = b) := ⟨_, Lib.hid rfl⟩
    have HE : Hid (textF S N e = if b then (txt N tr, 0) else (⟨#[]⟩, 6)) := Lib.hid (by unfold textF; rw [if_pos hk, HAL.out, htr])
    have HGD : Hid (b = true → ∀ nd ∈ e, GoodN N nd) := Lib.hid (fun h => good_of HLX.out HN6.out hk (HAL.out.trans h))
    have HSP := Lib.hid hB
    have HBL := Lib.hid hBl
    have HAT := Lib.hid hAt
    have HFL := Lib.hid hfl
    have H24 := Lib.hid h24
    have HPOS := Lib.hid hpos
    clear hk hB hBl hAt hfl htr h24 hpos
    have hn24 : n ≤ 24 := by rw [HN.out]; exact H24.out
    have hn0 : 0 < n := by rw [HN.out]; exact HPOS.out
    go_wp2
    go_loopw [8] (fun i wr => ∃ k : Nat, k ≤ n ∧ i = .int .i64 (k : Nat) ∧ Hid (Below w2.heap.size w2 wr) ∧ Hid ((e.drop k).all (tellsB N) = b)) (fun i _ => n - (intOf i).toNat)
    case atStart => exact ⟨0, Nat.zero_le _, rfl, Lib.hid (Below.refl _ _), Lib.hid (by rw [List.drop_zero]; exact HAL.out)⟩
    case round =>
      obtain ⟨k, hk, rfl, HB, HF⟩ := hrel
      have hsr := HB.out.size
      have HBXr := Lib.hid (HBX2.out.below HB.out)
      have HAr := Lib.hid (HA2.out.below HB.out)
      have HMr := Lib.hid (HM2.out.below HB.out)
      have HBr := Lib.hid (HB2.out.trans (HB.out.mono (by have := HB2.out.size; omega)))
      by_cases hlt : k < n
      · have hi9 : (k : Int) < (n : Int) := by omega
        have hke : k < e.length := by rw [← HN.out]; exact hlt
        obtain ⟨ba, oa, hAA, hba, hc⟩ := HAr.out (by omega)
        obtain ⟨d0, d1⟩ := hc k hke
        have hF := all_from hke HF.out
        have HTHk := Lib.hid (HTH.out (e.getD k (0, 0)) (by
          have : e.getD k (0, 0) = e[k] := by simp [List.getD, hke]
          rw [this]
          exact List.getElem_mem hke))
        obtain ⟨nd, hnd⟩ : ∃ nd, e.getD k (0, 0) = nd := ⟨_, rfl⟩
        rw [hnd] at d0 d1 hF HTHk
        obtain ⟨op, q⟩ := nd
        dsimp only at d0 d1
        clear hc hnd hke
        subst hAA
        have hk0 : (0 : Int) ≤ (k : Int) := by omega
        obtain ⟨⟨s0, s1, s2, s3, s4, s5⟩, hzg⟩ := HBXr.out
        have HRT := Lib.hid (tells_rn HTHk.out)
        obtain ⟨r1, r2, hr⟩ : ∃ a b, rnB N (op, q) = (a, b) := ⟨_, _, rfl⟩
        have HNC : Hid (∀ W, Below wr.heap.size wr W → Calls Tryz.prog 22 #[.agg #[.int .i64 op, .int .i64 q], .agg #[.slice X.a1 X.n1 X.c1, .slice X.a2 X.n2 X.c2, .slice X.a3 X.n3 X.c3, .slice X.a4 X.n4 X.c4, .slice X.a5 X.n5 X.c5, .int .i64 X.self]] W fun e w' => e = .returned (.tuple #[.string r1, .bool r2]) ∧ Below W.heap.size W w') := Lib.hid (fun W hW => by
          have h := refNm_any X N (op, q) W (HMr.out.below hW) HTHk.out HLE.out
          unfold RnP at h
          rw [hr] at h
          unfold ScX.v at h
          exact h)
        have HRT2 : Hid (tellsB N (op, q) = (r2 && lx.nameB r1)) := Lib.hid (by rw [HRT.out, hr])
        rw [HRT2.out] at hF
        clear hr HRT
        have HK0 : Hid (Below wr.heap.size wr wr.drew) := Lib.hid (Below.refl _ wr).drew
        go_upto_region 7 with (fail)
        go_region_held3 (fun w' => w'.cell? ⟨g, 0, none⟩ = some (.slice X.a1 X.n1 X.c1) ∧ w'.cell? ⟨g, 1, none⟩ = some (.slice X.a2 X.n2 X.c2) ∧ w'.cell? ⟨g, 2, none⟩ = some (.slice X.a3 X.n3 X.c3) ∧ w'.cell? ⟨g, 3, none⟩ = some (.slice X.a4 X.n4 X.c4) ∧ w'.cell? ⟨g, 4, none⟩ = some (.slice X.a5 X.n5 X.c5) ∧ w'.cell? ⟨g, 5, none⟩ = some (.int .i64 X.self) ∧ w'.cell? ⟨ba, oa + k * 2, none⟩ = some (.int .i64 op) ∧ w'.cell? ⟨ba, oa + k * 2 + 1, none⟩ = some (.int .i64 q))
          (first | exact ⟨c0, c1, c2, c3, c4, c5, c6, c7⟩ | exact ⟨s0, s1, s2, s3, s4, s5, d0, d1⟩ | go_keep)
          ((go_at_call 22; refine (HNC.out _ HK0.out).mono ?_; rintro e9 v1 ⟨ho, hb⟩; subst ho; have HK1 : Hid (Below wr.heap.size wr v1) := Lib.hid (HK0.out.trans (hb.mono HK0.out.size)); have c0 := (HK1.out.cell (p := ⟨g, 0, none⟩) hzg).trans s0; have c1 := (HK1.out.cell (p := ⟨g, 1, none⟩) hzg).trans s1; have c2 := (HK1.out.cell (p := ⟨g, 2, none⟩) hzg).trans s2; have c3 := (HK1.out.cell (p := ⟨g, 3, none⟩) hzg).trans s3; have c4 := (HK1.out.cell (p := ⟨g, 4, none⟩) hzg).trans s4; have c5 := (HK1.out.cell (p := ⟨g, 5, none⟩) hzg).trans s5; have c6 := (HK1.out.cell (p := ⟨ba, oa + k * 2, none⟩) hba).trans d0; have c7 := (HK1.out.cell (p := ⟨ba, oa + k * 2 + 1, none⟩) hba).trans d1; clear hb))
        have HB8 := Lib.hid (HB.out.trans (HK1.out.mono hsr))
        clear s0 s1 s2 s3 s4 s5 d0 d1 c0 c1 c2 c3 c4 c5 c6 c7 HNC
        cases r2 with
        | false =>
          have HF2 : Hid (b = false) := Lib.hid (by simpa using hF)
          clear hF
          go_wp2
          refine bodyPost_ret (v := .tuple #[.string ⟨#[]⟩, .int .i64 6]) (by simp [results, Tryz.results11, go_sem]) rfl ⟨?_, ?_⟩
          · rw [HE.out, HF2.out]; rfl
          · first | exact HB2.out.trans (HB8.out.mono (by have := HB2.out.size; omega)) | (rw [hgn]; exact HB2.out.trans (HB8.out.mono (by have := HB2.out.size; omega)))
        | true =>
          rw [Bool.true_and] at hF
          have HNM := lx.refName_any r1 v1
          cases hz : lx.nameB r1 with
          | false =>
            rw [hz] at hF HNM
            have HF2 : Hid (b = false) := Lib.hid (by simpa using hF)
            have HNM := Lib.hid HNM
            clear hF hz
            go_wp2_with fail
            refine HNM.out.mono ?_
            rintro e9 w9 ⟨rfl, hb9⟩
            have HB9 := Lib.hid (HB8.out.trans (hb9.mono (by have := HB8.out.size; omega)))
            clear hb9
            go_wp2
            refine bodyPost_ret (v := .tuple #[.string ⟨#[]⟩, .int .i64 6]) (by simp [results, Tryz.results11, go_sem]) rfl ⟨?_, ?_⟩
            · rw [HE.out, HF2.out]; rfl
            · first | exact HB2.out.trans (HB9.out.mono (by have := HB2.out.size; omega)) | (rw [hgn]; exact HB2.out.trans (HB9.out.mono (by have := HB2.out.size; omega)))
          | true =>
            obtain ⟨kw1, kw2, kw3, kw4⟩ := name_kw hz
            rw [hz] at hF HNM
            have HF2 : Hid ((e.drop (k + 1)).all (tellsB N) = b) := Lib.hid (by simpa using hF)
            have HNM := Lib.hid HNM
            clear hF hz
            go_wp2_with fail
            refine HNM.out.mono ?_
            rintro e9 w9 ⟨rfl, hb9⟩
            have HB9 := Lib.hid (HB8.out.trans (hb9.mono (by have := HB8.out.size; omega)))
            clear hb9
            go_wp2
            go_roundw
            case rel => exact ⟨k + 1, by omega, by go_num, HB9, HF2⟩
            case measure => simp [intOf]; omega
      · obtain rfl : k = n := by omega
        have HT1 : Hid (b = true) := Lib.hid (by rw [← HF.out, HN.out, List.drop_length]; rfl)
        have hdb : ¬ (k : Int) < (k : Int) := by omega
        obtain ⟨⟨s0, s1, s2, s3, s4, s5⟩, _⟩ := HBXr.out
        obtain ⟨k', rfl⟩ : ∃ k', k = k' + 1 := ⟨k - 1, by omega⟩
        have hP : RpK ⟨A, none, k' + 1, c, 0, 0, X, N, e, B⟩ k' (txt N tr) := by
          refine rpart_all ⟨A, none, k' + 1, c, 0, 0, X, N, e, B⟩ (by have := H24.out; show e.length ≤ _; omega) (s := 0) (x := tr) ?_ (by rw [HFL.out]; exact HGD.out HT1.out)
          have := HAT.out
          rw [← HN.out, Nat.add_sub_cancel] at this
          exact this
        have HPC := hP wr ⟨HN.out, HAr.out, HMr.out, HSP.out, HBL.out, by have := H24.out; show e.length ≤ _; omega, HLE.out⟩
        dsimp only at HPC
        unfold ScX.v at HPC
        have HPC := Lib.hid HPC
        have HE2 : Hid (textF S N e = (txt N tr, 0)) := Lib.hid (by rw [HE.out, HT1.out]; rfl)
        have hk9 : (k' : Int) ≤ 100 := by omega
        clear hP
        go_wp2_with fail
        refine HPC.out.mono ?_
        rintro x w4 ⟨rfl, hb4⟩
        have HB4 := Lib.hid (HBr.out.trans (hb4.mono (by have := HBr.out.size; omega)))
        clear hb4 HPC s0 s1 s2 s3 s4 s5
        go_wp2
        refine bodyPost_ret (v := .tuple #[.string (txt N tr), .int .i64 0]) (by simp [results, Tryz.results11, go_sem]) rfl ⟨?_, ?_⟩
        · rw [HE2.out]
        · first | exact HB4.out | (rw [hgn]; exact HB4.out)
  · have HE : Hid (textF S N e = (⟨#[]⟩, why)) := Lib.hid (by unfold textF; rw [HK.out, if_neg hw])
    go_wp2
    refine bodyPost_ret (v := .tuple #[.string ⟨#[]⟩, .int .i64 why]) (by simp [results, Tryz.results11, go_sem]) rfl ⟨?_, ?_⟩
    · rw [HE.out]
    · rw [hgn]; exact HB2.out
end Go.Proofs.YtmnigdphikoljaaGreatDoor.et
namespace Go.Proofs.YtmnigdphikoljaaGreatDoor.et
open Go.ChangeShapes Go.WideShapes Go.ChangeAt Go.RowKit Go.Deep

theorem n64_of {e : List (Int × Int)} (h : ∀ z ∈ e, (Lit.int .i64 z.1).wf = true ∧ (Lit.int .i64 z.2).wf = true) : N64 e := fun z hz => by
  have h2 := (h z hz).2
  have e2 : IntKind.i64.min = -9223372036854775808 := rfl
  simpa [Lit.wf, e2] using h2
set_option maxRecDepth 20000 in
set_option maxHeartbeats 8000000 in
theorem etextTells_any (A : Option Addr) (n c : Nat) (e : List (Int × Int)) (X : ScX) (S : Sc) (N : Nm) (w : World) (hn : n = e.length) (hPA : PA w A e) (hN : N64 e) (hs : SR w X S) (hnm : NmR w X N) (hx : LxW w) : Calls Tryz.prog 3 #[.slice A n c, X.v] w fun e w' => e = .returned (.bool true) ∧ Below w.heap.size w w' := by
  have hb1 := below_alloc1 w (.cells #[.slice X.a1 X.n1 X.c1, .slice X.a2 X.n2 X.c2, .slice X.a3 X.n3 X.c3, .slice X.a4 X.n4 X.c4, .slice X.a5 X.n5 X.c5, .int .i64 X.self] 28)
  have HB1 := Lib.hid hb1
  have HBX : Hid (Bx (w.alloc (.cells #[.slice X.a1 X.n1 X.c1, .slice X.a2 X.n2 X.c2, .slice X.a3 X.n3 X.c3, .slice X.a4 X.n4 X.c4, .slice X.a5 X.n5 X.c5, .int .i64 X.self] 28)) w.heap.size X) := Lib.hid (Bx.new w X 28)
  have HS1 := Lib.hid (hs.below hb1)
  have HM1 := Lib.hid (hnm.below hb1)
  have HX1 := Lib.hid (hx.below hb1)
  have HA1 := Lib.hid (hPA.below hb1)
  have HN := Lib.hid hn
  have H64 := Lib.hid hN
  clear hs hnm hx hb1 hPA hn hN
  unfold ScX.v
  go_enter Tryz.func3, Tryz.ntmps3
  go_upto_region 1 with (fail)
  generalize hgn : w.heap.size = g at *
  generalize w.alloc (.cells #[.slice X.a1 X.n1 X.c1, .slice X.a2 X.n2 X.c2, .slice X.a3 X.n3 X.c3, .slice X.a4 X.n4 X.c4, .slice X.a5 X.n5 X.c5, .int .i64 X.self] 28) = w1 at *
  obtain ⟨⟨s0, s1, s2, s3, s4, s5⟩, _⟩ := HBX.out
  have hLC := light_any A n c X w1
  obtain ⟨li, HLI⟩ : ∃ b, Hid (lightF n X = b) := ⟨_, Lib.hid rfl⟩
  rw [HLI.out] at hLC
  unfold ScX.v at hLC
  have HLC := Lib.hid hLC
  clear hLC
  go_wp2_with fail
  refine HLC.out.mono ?_
  rintro e2 w2 ⟨rfl, hb2⟩
  have HB2 := Lib.hid (HB1.out.trans (hb2.mono (by have := HB1.out.size; omega)))
  have HBX2 := Lib.hid (HBX.out.below hb2)
  have HS2 := Lib.hid (HS1.out.below hb2)
  have HM2 := Lib.hid (HM1.out.below hb2)
  have HX2 := Lib.hid (HX1.out.below hb2)
  have HA2 := Lib.hid (HA1.out.below hb2)
  clear hb2 HLC s0 s1 s2 s3 s4 s5
  cases li with
  | false =>
    rw [if_neg (by decide)]
    go_wp2_with fail
    refine (works_any w2 HX2.out).mono ?_
    rintro e3 w3 ⟨rfl, hb3⟩
    have HB3 := Lib.hid (HB2.out.trans (hb3.mono (by have := HB2.out.size; omega)))
    clear hb3
    go_wp2
    go_ret
    rw [hgn]
    exact ⟨rfl, HB3.out⟩
  | true =>
    rw [if_pos rfl]
    obtain ⟨hn60, hlim⟩ := light_lim HLI.out HM2.out
    have HLIM := Lib.hid hlim
    clear hlim
    obtain ⟨T, y, HT⟩ : ∃ a b, Hid (textF S N e = (a, b)) := ⟨_, _, Lib.hid rfl⟩
    have HTC : Hid (∀ W, Below w2.heap.size w2 W → Calls Tryz.prog 10 #[.slice A n c, .agg #[.slice X.a1 X.n1 X.c1, .slice X.a2 X.n2 X.c2, .slice X.a3 X.n3 X.c3, .slice X.a4 X.n4 X.c4, .slice X.a5 X.n5 X.c5, .int .i64 X.self]] W fun x w' => x = .returned (.tuple #[.string T, .int .i64 y]) ∧ Below W.heap.size W w') := Lib.hid (fun W hW => by
      have h := text_any X S N e A n c W (HS2.out.below hW) (HM2.out.below hW) HLIM.out HN.out (HA2.out.below hW) H64.out (HX2.out.below hW).tabs
      unfold TextP at h
      rw [HT.out] at h
      unfold ScX.v at h
      exact h)
    have HRC : Hid (∀ W, Below w2.heap.size w2 W → Calls Tryz.prog 11 #[.slice A n c, .agg #[.slice X.a1 X.n1 X.c1, .slice X.a2 X.n2 X.c2, .slice X.a3 X.n3 X.c3, .slice X.a4 X.n4 X.c4, .slice X.a5 X.n5 X.c5, .int .i64 X.self]] W fun x w' => x = .returned (.tuple #[.string T, .int .i64 y]) ∧ Below W.heap.size W w') := Lib.hid (fun W hW => by
      have h := refText_any X S N e A n c W (HS2.out.below hW) (HM2.out.below hW) HLIM.out HN.out (HA2.out.below hW) H64.out (by omega)
      unfold TextP at h
      rw [HT.out] at h
      unfold ScX.v at h
      exact h)
    obtain ⟨⟨s0, s1, s2, s3, s4, s5⟩, _⟩ := HBX2.out
    go_wp2_with fail
    refine (HTC.out w2 (Below.refl _ _)).mono ?_
    rintro e3 w3 ⟨rfl, hb3⟩
    have HK3 := Lib.hid hb3
    have HBX3 := Lib.hid (HBX2.out.below hb3)
    clear hb3 s0 s1 s2 s3 s4 s5
    obtain ⟨⟨s0, s1, s2, s3, s4, s5⟩, _⟩ := HBX3.out
    go_wp2_with fail
    refine (HRC.out w3 HK3.out).mono ?_
    rintro e4 w4 ⟨rfl, hb4⟩
    have HK4 := Lib.hid (HK3.out.trans (hb4.mono HK3.out.size))
    clear hb4 s0 s1 s2 s3 s4 s5
    have hss : (T.toList == T.toList) = true := by simp
    go_wp2_with fail
    refine (works_any w4 (HX2.out.below HK4.out)).mono ?_
    rintro e5 w5 ⟨rfl, hb5⟩
    have HB5 := Lib.hid (HB2.out.trans ((HK4.out.trans (hb5.mono HK4.out.size)).mono (by have := HB2.out.size; omega)))
    clear hb5 HTC HRC
    go_wp2
    go_ret
    rw [hgn]
    exact ⟨rfl, HB5.out⟩
end Go.Proofs.YtmnigdphikoljaaGreatDoor.et
