/- Contracts that the claim stands on, several texts in one: EtToks. -/
import Derived.Test.YtmnigdphikoljaaGreatDoorPut1
import Derived.Test.YtmnigdphikoljaaGreatDoorPut2
import Derived.Test.YtmnigdphikoljaaGreatDoorPut3
import Derived.Test.YtmnigdphikoljaaGreatDoorPut4
import Derived.Test.YtmnigdphikoljaaGreatDoorPut5
import Derived.Test.YtmnigdphikoljaaGreatDoorPut6
import Derived.Test.YtmnigdphikoljaaGreatDoorPut7
import Derived.Test.YtmnigdphikoljaaGreatDoorPut8
import Derived.Test.YtmnigdphikoljaaGreatDoorPut9
import Derived.Test.YtmnigdphikoljaaGreatDoorPut10
import Derived.Test.YtmnigdphikoljaaGreatDoorPut11
import Derived.Test.YtmnigdphikoljaaGreatDoorPut12
import Derived.Test.YtmnigdphikoljaaGreatDoorPut13
import Derived.Test.YtmnigdphikoljaaGreatDoorPut14
import Derived.Test.YtmnigdphikoljaaGreatDoorPut15
import Derived.Test.YtmnigdphikoljaaGreatDoorPut16
import Derived.Test.YtmnigdphikoljaaGreatDoorPut17
import Derived.Test.YtmnigdphikoljaaGreatDoorPut18
import Derived.Test.YtmnigdphikoljaaGreatDoorPut19
import Derived.Test.YtmnigdphikoljaaGreatDoorPut20
import Derived.Test.YtmnigdphikoljaaGreatDoorPut21
import Derived.Test.YtmnigdphikoljaaGreatDoorPut22
import Derived.Test.YtmnigdphikoljaaGreatDoorPut23
import Derived.Test.YtmnigdphikoljaaGreatDoorPut24
import Derived.Test.YtmnigdphikoljaaGreatDoorPut25
import Derived.Test.YtmnigdphikoljaaGreatDoorPut26
import Derived.Test.YtmnigdphikoljaaGreatDoorPut27
import Derived.Test.YtmnigdphikoljaaGreatDoorPut28
import Derived.Test.YtmnigdphikoljaaGreatDoorPut29
import Derived.Test.YtmnigdphikoljaaGreatDoorPut30
import Derived.Test.YtmnigdphikoljaaGreatDoorPut31
import Derived.Test.YtmnigdphikoljaaGreatDoorPut32
namespace Go.Proofs.YtmnigdphikoljaaGreatDoor.lx
open Go.ChangeShapes Go.WideShapes Go.ChangeAt Go.RowKit Go.Deep

/-- The bytes of tokens and blanks. -/
def lay : List (Option Tok) → List UInt8
  | [] => []
  | none :: r => 32 :: lay r
  | some t :: r => t.text.data.toList ++ lay r
/-- Each token is what its text and all that follows begins with. -/
def LayOk (nm : List UInt8 → Int × Bool) : List (Option Tok) → Prop
  | [] => True
  | none :: r => LayOk nm r
  | some t :: r => 0 < t.text.size ∧ firstP nm ⟨(t.text.data.toList ++ lay r).toArray⟩ = .ok (t.kind, t.num, t.text.size) ∧ LayOk nm r
/-- The tokens alone. -/
def laid : List (Option Tok) → List Tok
  | [] => []
  | none :: r => laid r
  | some t :: r => t :: laid r
theorem lay_app : ∀ (P Q : List (Option Tok)), lay (P ++ Q) = lay P ++ lay Q
  | [], _ => rfl
  | none :: r, Q => by rw [List.cons_append, lay, lay, lay_app r Q, List.cons_append]
  | some t :: r, Q => by rw [List.cons_append, lay, lay, lay_app r Q, List.append_assoc]
theorem laid_app : ∀ (P Q : List (Option Tok)), laid (P ++ Q) = laid P ++ laid Q
  | [], _ => rfl
  | none :: r, Q => by rw [List.cons_append, laid, laid, laid_app r Q]
  | some t :: r, Q => by rw [List.cons_append, laid, laid, laid_app r Q, List.cons_append]
theorem lay_tks {nm : List UInt8 → Int × Bool} {u : ByteArray} : ∀ (P : List (Option Tok)), LayOk nm P → ∀ a, a ≤ u.size → tailS u a = ⟨(lay P).toArray⟩ → ∃ T', Tks nm u a T' ∧ SameT (laid P) T'
  | [], _, a, ha, h => by
    refine ⟨[], .done ?_, .nil⟩
    have := congrArg ByteArray.size h
    rw [tail_size, size_list (lay [])] at this
    simp [lay] at this; omega
  | some t :: r, hg, a, ha, h => by
    obtain ⟨g0, g1, g2⟩ := hg
    have h : tailS u a = ⟨(t.text.data.toList ++ lay r).toArray⟩ := h
    have hz := congrArg ByteArray.size h
    rw [tail_size, size_list (t.text.data.toList ++ lay r), List.length_append, size_toList] at hz
    have hf := g1
    rw [← h] at hf
    obtain ⟨n1, n2⟩ := first_not_blank hf
    rw [tail_bt (by omega), Nat.add_zero] at n1 n2
    have ht : tailS u (a + t.text.size) = ⟨(lay r).toArray⟩ := by
      rw [← tail_tail (by omega), h, ← size_toList, tail_app]
    obtain ⟨T', k1, k2⟩ := lay_tks r g2 (a + t.text.size) (by omega) ht
    refine ⟨_, .token (by omega) n1 n2 hf k1, .cons rfl rfl ?_ k2⟩
    show t.text = u.extract a (a + t.text.size)
    rw [← extract_tail_in (by omega)]
    refine ext_bt (by rw [ByteArray.size_extract, tail_size]; omega) (fun i hi => ?_)
    rw [bt_extract (by omega) (by rw [tail_size]; omega), Nat.zero_add, h, bt_app_left (by rw [size_toList]; exact hi), mk_list]
  | none :: r, hg, a, ha, h => by
    have h : tailS u a = ⟨(32 :: lay r).toArray⟩ := h
    have hz := congrArg ByteArray.size h
    rw [tail_size, size_list (32 :: lay r), List.length_cons] at hz
    have h32 : bt u a = 32 := by
      have e : bt (tailS u a) 0 = 32 := by rw [h]; rfl
      rw [tail_bt (by omega), Nat.add_zero] at e
      exact e
    have ht : tailS u (a + 1) = ⟨(lay r).toArray⟩ := by
      rw [← tail_tail (by omega), h]
      exact tail_app [32] (lay r)
    obtain ⟨T', k1, k2⟩ := lay_tks r hg (a + 1) (by omega) ht
    exact ⟨T', .blank (by omega) (by rw [h32]; decide) k1, k2⟩
end Go.Proofs.YtmnigdphikoljaaGreatDoor.lx
