/- The reader's calls, with or without a fault. -/
import Derived.Test.YthakidnbgmpcfaaReaderList
import Derived.Test.YthakidnbgmpcfaaReadPure
namespace Go.Proofs.Ythakidnbgmpcfaa
open Go.ChangeShapes Go.WideShapes Go.ChangeAt Go.RowKit

/-- The reader's Text, with or without a fault. -/
def txt (l : List Int) (p : Nat) (e : Int) : Got (List Int) := if e = 0 then readT (l.drop p) else ⟨e, [], 0⟩
theorem rtext_all {g : Nat} {A : Option Addr} {c : Nat} {l : List Int} {p : Nat} {e : Int} (w : World) (h : RD w g A c l p e) :
    Calls Try.prog 13 #[.pointer (some ⟨g, 0, none⟩)] w (RText g A c l p (txt l p e) w) := by
  unfold txt
  by_cases h0 : e = 0
  · subst h0
    rw [if_pos rfl]
    exact rtext_any w h
  · rw [if_neg h0]
    exact rtext_fault w h h0

end Go.Proofs.Ythakidnbgmpcfaa
