/- The program's writer: write of any node of a formula. -/
import Derived.Test.YtmdfiamffipbcaaDoorNnfWrite
import Derived.Test.YtmdfiamffipbcaaDoorNnfWrite2
namespace Go.Proofs.YtmdfiamffipbcaaDoor.nf
open Go.ChangeShapes Go.WideShapes Go.ChangeAt Go.RowKit Go.Deep sr lt

theorem nd_cases {e : List (Int × Int)} (h : wrF 0 e = 0) {j : Nat} (hj : j < e.length) :
    ((e.getD j (0, 0)).1 = 1 ∨ (e.getD j (0, 0)).1 = 2 ∨ (e.getD j (0, 0)).1 = 3) ∨ (((e.getD j (0, 0)).1 = 4 ∨ (e.getD j (0, 0)).1 = 8 ∨ (e.getD j (0, 0)).1 = 11 ∨ (e.getD j (0, 0)).1 = 12) ∧ 0 < j) ∨
      (((e.getD j (0, 0)).1 = 5 ∨ (e.getD j (0, 0)).1 = 6 ∨ (e.getD j (0, 0)).1 = 7 ∨ (e.getD j (0, 0)).1 = 9 ∨ (e.getD j (0, 0)).1 = 10) ∧ ∃ l : Nat, (outF e e.length).getD (j - 1) 0 = ((l + 1 : Nat) : Int) ∧ l + 1 < j) := by
  obtain ⟨hk, _⟩ := kinds_of h hj
  have hr : 0 ≤ kT (e.getD j (0, 0)).1 := by rcases hk with ⟨h1, _⟩ | ⟨h1, _⟩ | ⟨h1, _⟩ <;> omega
  rcases kT_cases (e.getD j (0, 0)).1 with ⟨_, h2⟩ | ⟨h1, h2⟩ | ⟨h1, h2⟩ | ⟨h1, _⟩
  · exact .inl h2
  · right; left
    refine ⟨h2, ?_⟩
    rcases whole_of h hj with ⟨g1, _⟩ | ⟨i, v, rfl, _⟩ | ⟨i, q, v, rfl, _⟩
    · rcases hk with ⟨h6, _⟩ | ⟨_, _, h6⟩ | ⟨h6, _⟩
      · omega
      · rw [g1] at h6; exact absurd rfl h6
      · omega
    · omega
    · omega
  · right; right
    refine ⟨h2, ?_⟩
    rcases whole_of h hj with ⟨g1, _⟩ | ⟨i, v, rfl, g2, g3, _, _⟩ | ⟨i, q, v, rfl, g2, g3, _, _, _, g7⟩
    · rcases hk with ⟨h6, _⟩ | ⟨h6, _⟩ | ⟨_, h6⟩
      · omega
      · omega
      · rw [g1] at h6; exact absurd rfl h6
    · rcases hk with ⟨h6, _⟩ | ⟨h6, _⟩ | ⟨_, h6⟩
      · omega
      · omega
      · rw [g3] at h6; exact absurd rfl h6
    · exact ⟨q, by rw [Nat.add_sub_cancel]; exact g7, by omega⟩
  · omega
theorem op_range {e : List (Int × Int)} (h : wrF 0 e = 0) {j : Nat} (hj : j < e.length) : 0 ≤ (e.getD j (0, 0)).1 ∧ (e.getD j (0, 0)).1 < 13 := by
  rcases nd_cases h hj with h1 | ⟨h1, _⟩ | ⟨h1, _⟩ <;> omega
theorem write_any (F : Fx) (S : St) (vw vo : Value) (j : Nat) (w : World) (h : WrW F w S vw vo) (hj : j < F.m) (hf : wrF 0 F.e = 0) (hB : F.B = outF F.e F.e.length) (hl : S.w.length ≤ 80000) :
    Calls Tryd.prog 30 #[.pointer (some ⟨F.rb, 0, none⟩), .int .i64 (j : Int)] w (StepP F w (writeF F.e F.B S j)) := by
  have hje : j < F.e.length := by rw [← h.ml]; exact hj
  obtain ⟨q, hq⟩ : ∃ q, (F.e.getD j (0, 0)).2 = q := ⟨_, rfl⟩
  have hnd : ∀ op, (F.e.getD j (0, 0)).1 = op → F.e.getD j (0, 0) = (op, q) := fun op h1 => by rw [← h1, ← hq]
  rcases nd_cases hf hje with h1 | ⟨h1, h2⟩ | ⟨h1, l, h2, h3⟩
  · rcases h1 with h1 | h1 | h1
    · exact write_1 F S vw vo j q w h hj (hnd _ h1) hl
    · exact write_2 F S vw vo j q w h hj (hnd _ h1) hl
    · exact write_3 F S vw vo j q w h hj (hnd _ h1) hl
  · rcases h1 with h1 | h1 | h1 | h1
    · exact write_4 F S vw vo j q w h hj (hnd _ h1) hl h2
    · exact write_8 F S vw vo j q w h hj (hnd _ h1) hl h2
    · exact write_11 F S vw vo j q w h hj (hnd _ h1) hl h2
    · exact write_12 F S vw vo j q w h hj (hnd _ h1) hl h2
  · rw [← hB] at h2
    rcases h1 with h1 | h1 | h1 | h1 | h1
    · exact write_5 F S vw vo j q w h hj (hnd _ h1) hl l h2 h3
    · exact write_6 F S vw vo j q w h hj (hnd _ h1) hl l h2 h3
    · exact write_7 F S vw vo j q w h hj (hnd _ h1) hl l h2 h3
    · exact write_9 F S vw vo j q w h hj (hnd _ h1) hl l h2 h3
    · exact write_10 F S vw vo j q w h hj (hnd _ h1) hl l h2 h3
/-- How much a step writes. -/
theorem outW_len (x : Int × Int) (ng : Bool) : (outW x ng).length ≤ 2 := by
  unfold outW
  split
  · simp
  · split
    · split <;> simp
    · simp
theorem popR_len (b : Int) : ∀ l : List (Int × Int), (popR b l).1.length + (popR b l).2.length = l.length
  | [] => rfl
  | x :: r => by
    have ih := popR_len b r
    rw [popR]
    split
    · simp; omega
    · simp
theorem writeF_len (e : List (Int × Int)) (B : List Int) (S : St) (j : Nat) : (writeF e B S j).w.length + (writeF e B S j).wt.length ≤ S.w.length + S.wt.length + 2 := by
  have := outW_len (e.getD j (0, 0)) (S.ng.getD j false)
  show (S.w ++ outW (e.getD j (0, 0)) (S.ng.getD j false)).length + S.wt.length ≤ _
  rw [List.length_append]
  omega
theorem keepF_len (e : List (Int × Int)) (B : List Int) (S : St) (j : Nat) : (keepF e B S j).w.length + (keepF e B S j).wt.length ≤ S.w.length + S.wt.length + 1 := by
  unfold keepF
  split
  · simp; omega
  · omega
theorem leadF_len (S : St) (j : Nat) : (leadF j S).w.length + (leadF j S).wt.length = S.w.length + S.wt.length := by
  have := popR_len j S.wt.reverse
  unfold leadF
  simp at this ⊢
  omega
theorem stepF_len (e : List (Int × Int)) (B : List Int) (S : St) (j : Nat) : (stepF e B S j).w.length + (stepF e B S j).wt.length ≤ S.w.length + S.wt.length + 3 := by
  unfold stepF
  rw [leadF_len]
  have h1 := writeF_len e B S j
  have h2 := keepF_len e B (writeF e B S j) j
  omega
end Go.Proofs.YtmdfiamffipbcaaDoor.nf
