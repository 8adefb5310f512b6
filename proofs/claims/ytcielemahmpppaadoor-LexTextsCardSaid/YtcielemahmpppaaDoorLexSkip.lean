/- The document's skip. -/
import Derived.Test.YtcielemahmpppaaDoorLexTks
import Derived.Test.YtcielemahmpppaaDoorLexRefName
namespace Go.Proofs.YtcielemahmpppaaDoor.lx
open Go.ChangeShapes Go.WideShapes Go.ChangeAt Go.RowKit Go.Deep

theorem Gap.to {nm : List UInt8 → Int × Bool} {s : ByteArray} {a b : Nat} {l : List Tok} {r : Res} (h : Gap s a b) : Sc nm s b l r → Sc nm s a l r := by
  induction h with
  | here => exact id
  | blank h1 hb _ ih => exact fun h => .blank h1 hb (ih h)
  | remark h1 hb _ ih => exact fun h => .remark h1 hb (ih h)
theorem Gap.trans {s : ByteArray} {a b c : Nat} (h : Gap s a b) : Gap s b c → Gap s a c := by
  induction h with
  | here => exact id
  | blank h1 hb _ ih => exact fun h => .blank h1 hb (ih h)
  | remark h1 hb _ ih => exact fun h => .remark h1 hb (ih h)
/-- The byte at a place, as the program reads it. -/
theorem byte_at (s : ByteArray) (k : Nat) (h : k < s.size) : ∀ W : World, (Instr.index 9 (.string s) (.int .i64 (k : Nat))).run Tryd.prog W = .ok (.int .u8 (bt s k : Nat)) W := fun W => by
  rw [run_index_string W _ _ _ _ Tryd.underlying9, dif_pos ⟨by omega, by omega⟩, bt_eq h]; rfl
set_option maxRecDepth 100000 in
set_option maxHeartbeats 4000000 in
theorem skip_any (s : ByteArray) (a : Nat) (w : World) (ha : a ≤ s.size) (hz : s.size ≤ 20000) :
    Calls Tryd.prog 22 #[.string s, .int .i64 a] w fun e w' => (∃ b : Nat, e = .returned (.int .i64 b) ∧ Gap s a b ∧ b ≤ s.size ∧ (b < s.size → blankB (bt s b) = false ∧ bt s b ≠ 35)) ∧ w = w' := by
  go_enter Tryd.func22, Tryd.ntmps22
  go_wp2
  go_loop [1] (fun i => ∃ k : Nat, k ≤ s.size ∧ i = .int .i64 k ∧ Hid (Gap s a k)) (fun i => s.size - (intOf i).toNat)
  case atStart => exact ⟨a, ha, rfl, Lib.hid (.here a)⟩
  case round =>
    obtain ⟨k, hk, rfl, HG⟩ := hrel
    by_cases hlt : k < s.size
    · have hlt2 : (k : Int) < (s.size : Int) := by omega
      have hix := byte_at s k hlt
      obtain ⟨c, HC⟩ : ∃ c, Hid (bt s k = c) := ⟨_, Lib.hid rfl⟩
      rw [HC.out] at hix
      by_cases h32 : c = 32
      · subst h32
        have HG2 : Hid (Gap s a (k + 1)) := Lib.hid (HG.out.trans (.blank hlt (by rw [HC.out]; decide) (.here _)))
        go_wp2
        go_round
        case rel => exact ⟨k + 1, by omega, by go_num, HG2⟩
        case measure => simp [intOf]; omega
      · have g32 : ((c : Int) == 32) = false := by simp; omega
        by_cases h10 : c = 10
        · subst h10
          have HG2 : Hid (Gap s a (k + 1)) := Lib.hid (HG.out.trans (.blank hlt (by rw [HC.out]; decide) (.here _)))
          go_wp2
          go_round
          case rel => exact ⟨k + 1, by omega, by go_num, HG2⟩
          case measure => simp [intOf]; omega
        · have g10 : ((c : Int) == 10) = false := by simp; omega
          by_cases h35 : c = 35
          · subst h35
            have HL : Hid (k < lineE s k) := Lib.hid (lineE_gt hlt HC.out)
            have HG2 : Hid (∀ e, lineE s k = e → Gap s a e) := Lib.hid (fun e he => by subst he; exact HG.out.trans (.remark hlt HC.out (.here _)))
            go_wp2
            clear hix
            go_loop [1] (fun i => ∃ e : Nat, k ≤ e ∧ e ≤ s.size ∧ i = .int .i64 e ∧ Hid (∀ i, k ≤ i → i < e → bt s i ≠ 10)) (fun i => s.size - (intOf i).toNat)
            case atStart => exact ⟨k, Nat.le_refl _, hk, rfl, Lib.hid (fun i h1 h2 => by omega)⟩
            case round =>
              obtain ⟨e, he, hes, rfl, HN⟩ := hrel
              by_cases hle : e < s.size
              · have hle2 : (e : Int) < (s.size : Int) := by omega
                have hix := byte_at s e hle
                obtain ⟨d, HD⟩ : ∃ d, Hid (bt s e = d) := ⟨_, Lib.hid rfl⟩
                rw [HD.out] at hix
                by_cases hd : d = 10
                · subst hd
                  have HE : Hid (lineE s k = e) := Lib.hid (lineE_of hlt he (by omega) HN.out (fun _ => HD.out))
                  have HG3 := Lib.hid (HG2.out e HE.out)
                  have hgt : k < e := by rw [← HE.out]; exact HL.out
                  go_wp2
                  go_round
                  case rel => exact ⟨e, by omega, rfl, HG3⟩
                  case measure => simp [intOf]; omega
                · have gd : ((d : Int) != 10) = true := by simp; omega
                  have HN2 : Hid (∀ i, k ≤ i → i < e + 1 → bt s i ≠ 10) := Lib.hid (fun i h1 h2 => by
                    by_cases hie : i = e
                    · rw [hie, HD.out]; exact hd
                    · exact HN.out i h1 (by omega))
                  go_wp2
                  go_round
                  case rel => exact ⟨e + 1, by omega, by omega, by go_num, HN2⟩
                  case measure => simp [intOf]; omega
              · obtain rfl : e = s.size := by omega
                have HE : Hid (lineE s k = s.size) := Lib.hid (lineE_of hlt he (Nat.le_refl _) HN.out (fun h => by omega))
                have HG3 := Lib.hid (HG2.out _ HE.out)
                go_wp2
                go_round
                case rel => exact ⟨s.size, by omega, rfl, HG3⟩
                case measure => simp [intOf]; omega
          · have g35 : ((c : Int) == 35) = false := by simp; omega
            have HNB : Hid (blankB (bt s k) = false ∧ bt s k ≠ 35) := Lib.hid (by rw [HC.out]; refine ⟨?_, h35⟩; unfold blankB; simp [h32, h10])
            go_wp2
            go_ret
            exact ⟨⟨k, rfl, HG.out, hk, fun _ => HNB.out⟩, rfl⟩
    · obtain rfl : k = s.size := by omega
      go_wp2
      go_ret
      exact ⟨⟨_, rfl, HG.out, Nat.le_refl _, fun h => absurd h (Nat.lt_irrefl _)⟩, rfl⟩
end Go.Proofs.YtcielemahmpppaaDoor.lx
