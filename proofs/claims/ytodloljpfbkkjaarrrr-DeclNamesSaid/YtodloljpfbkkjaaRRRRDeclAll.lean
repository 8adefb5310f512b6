/- The program's Scalars, Vars, Chans. -/
import Derived.Test.YtodloljpfbkkjaaRRRRDeclaredS
import Derived.Test.YtodloljpfbkkjaaRRRRDeclaredV
import Derived.Test.YtodloljpfbkkjaaRRRRDeclaredC
import Derived.Shelf.Abstract
namespace Go.Proofs.YtodloljpfbkkjaaRRRR.dcl
open Go.ChangeShapes Go.WideShapes Go.ChangeAt Go.RowKit Go.Proofs.YtodloljpfbkkjaaRRRR.lx

def scalarsF (l : List ScR) : Int × Int := declAt ScR.name whyS 2 l 0
def varsF (s : List ScR) (most : Int) (l : List VarR) : Int × Int := declAt VarR.name (whyV s) (max most 0) l 0
def chansF (s : List ScR) (l : List ChR) : Int × Int := declAt ChR.name (whyC s) 4 l 0

set_option maxRecDepth 100000 in
theorem scalars_any (l : List ScR) (A : Option Addr) (c m : Nat) (w : World) (hm : m = l.length) (hmm : m ≤ 1000000000000000) (hA : DS w A l) (hN : ∀ x ∈ l, x.name.size ≤ maxLen) :
    Calls Try.prog 15 #[.slice A m c] w (PairS w (scalarsF l)) := by
  have HM := Lib.hid hm
  have HA := Lib.hid hA
  have HN := Lib.hid hN
  clear hm hA hN
  go_enter Try.func15, Try.ntmps15
  go_wp2_with fail
  refine (declaredS_any 40 #[] (enters_of Try.func40 (by kernel_rfl) rfl) whyS l A c m 2 w HM.out hmm HA.out HN.out (by decide) (fun W x _ => by
    have := whyS_any x W
    simpa using this)).mono ?_
  obtain ⟨r1, r2, HR⟩ : ∃ r1 r2, Hid (scalarsF l = (r1, r2)) := ⟨_, _, Lib.hid rfl⟩
  rw [show declAt ScR.name whyS 2 l 0 = (r1, r2) from HR.out, HR.out]
  rintro e w' ⟨rfl, hb⟩
  go_wp2
  go_ret2
  exact ⟨by rw [HR.out]; rfl, hb⟩
set_option maxRecDepth 100000 in
theorem vars_any (X : SX) (s : List ScR) (l : List VarR) (A : Option Addr) (c m : Nat) (most : Int) (w : World) (hS : SL w X s) (hm : m = l.length) (hmm : m ≤ 1000000000000000) (hA : DV w A l) (hN : ∀ x ∈ l, x.name.size ≤ maxLen) :
    Calls Try.prog 14 #[.slice A m c, X.v, .int .i64 most] w (PairS w (varsF s most l)) := by
  have HM := Lib.hid hm
  have HA := Lib.hid hA
  have HN := Lib.hid hN
  have HS := Lib.hid hS
  clear hm hA hN hS
  have hmf : ∀ (fn : Fn) (first cap : Array Value) (w : World), (Instr.makeFunc fn first cap).run Try.prog w = .ok (.func fn first cap) w := fun _ _ _ _ => rfl
  obtain ⟨r1, r2, HR⟩ : ∃ r1 r2, Hid (varsF s most l = (r1, r2)) := ⟨_, _, Lib.hid rfl⟩
  have HP : Hid (∀ (W : World) (x : VarR), Below (w.alloc (.cells #[.slice X.A X.m X.c] 23)).heap.size (w.alloc (.cells #[.slice X.A X.m X.c] 23)) W → Calls Try.prog 36 (#[x.v] ++ #[.pointer (some ⟨w.heap.size, 0, none⟩)]) W fun e w' => e = .returned (.int .i64 (whyV s x)) ∧ Below W.heap.size W w') := Lib.hid (fun W x hb => by
    have := whyV_any X s w.heap.size x W ((HS.out.below (below_alloc1 _ _)).below hb) ((hb.cell (p := ⟨w.heap.size, 0, none⟩) (by simp)).trans (World.cell?_alloc_at _ _ _ _ rfl)) (Nat.lt_of_lt_of_le (by simp) hb.size)
    simpa using this)
  by_cases h0 : 0 ≤ most
  · have HR2 : Hid (declAt VarR.name (whyV s) most l 0 = (r1, r2)) := Lib.hid (by rw [← HR.out]; unfold varsF; rw [show max most 0 = most by omega])
    unfold SX.v
    go_enter Try.func14, Try.ntmps14
    go_wp2_with fail
    refine (declaredV_any 36 #[.pointer (some ⟨w.heap.size, 0, none⟩)] (enters_of Try.func36 (by kernel_rfl) rfl) (whyV s) l A c m most _ HM.out hmm (HA.out.below (below_alloc1 _ _)) HN.out h0 HP.out).mono ?_
    rw [HR2.out]
    rintro e w' ⟨rfl, hb⟩
    have HB : Hid (Below w.heap.size w w') := Lib.hid (bthen (below_alloc1 _ _) hb)
    clear hb
    go_wp2
    go_ret2
    exact ⟨by rw [HR.out]; rfl, HB.out⟩
  · have HR2 : Hid (declAt VarR.name (whyV s) 0 l 0 = (r1, r2)) := Lib.hid (by rw [← HR.out]; unfold varsF; rw [show max most 0 = 0 by omega])
    have hlt : most < 0 := by omega
    unfold SX.v
    go_enter Try.func14, Try.ntmps14
    go_wp2_with fail
    refine (declaredV_any 36 #[.pointer (some ⟨w.heap.size, 0, none⟩)] (enters_of Try.func36 (by kernel_rfl) rfl) (whyV s) l A c m 0 _ HM.out hmm (HA.out.below (below_alloc1 _ _)) HN.out (Int.le_refl _) HP.out).mono ?_
    rw [HR2.out]
    rintro e w' ⟨rfl, hb⟩
    have HB : Hid (Below w.heap.size w w') := Lib.hid (bthen (below_alloc1 _ _) hb)
    clear hb
    go_wp2
    go_ret2
    exact ⟨by rw [HR.out]; rfl, HB.out⟩
set_option maxRecDepth 100000 in
theorem chans_any (X : SX) (s : List ScR) (l : List ChR) (A : Option Addr) (c m : Nat) (w : World) (hS : SL w X s) (hm : m = l.length) (hmm : m ≤ 1000000000000000) (hA : DC w A l) (hN : ∀ x ∈ l, x.name.size ≤ maxLen) :
    Calls Try.prog 16 #[.slice A m c, X.v] w (PairC w (chansF s l)) := by
  have HM := Lib.hid hm
  have HA := Lib.hid hA
  have HN := Lib.hid hN
  have HS := Lib.hid hS
  clear hm hA hN hS
  have hmf : ∀ (fn : Fn) (first cap : Array Value) (w : World), (Instr.makeFunc fn first cap).run Try.prog w = .ok (.func fn first cap) w := fun _ _ _ _ => rfl
  obtain ⟨r1, r2, HR⟩ : ∃ r1 r2, Hid (chansF s l = (r1, r2)) := ⟨_, _, Lib.hid rfl⟩
  have HP : Hid (∀ (W : World) (x : ChR), Below (w.alloc (.cells #[.slice X.A X.m X.c] 23)).heap.size (w.alloc (.cells #[.slice X.A X.m X.c] 23)) W → Calls Try.prog 43 (#[x.v] ++ #[.pointer (some ⟨w.heap.size, 0, none⟩)]) W fun e w' => e = .returned (.int .i64 (whyC s x)) ∧ Below W.heap.size W w') := Lib.hid (fun W x hb => by
    have := whyC_any X s w.heap.size x W ((HS.out.below (below_alloc1 _ _)).below hb) ((hb.cell (p := ⟨w.heap.size, 0, none⟩) (by simp)).trans (World.cell?_alloc_at _ _ _ _ rfl)) (Nat.lt_of_lt_of_le (by simp) hb.size)
    simpa using this)
  have HR2 : Hid (declAt ChR.name (whyC s) 4 l 0 = (r1, r2)) := Lib.hid HR.out
  unfold SX.v
  go_enter Try.func16, Try.ntmps16
  go_wp2_with fail
  refine (declaredC_any 43 #[.pointer (some ⟨w.heap.size, 0, none⟩)] (enters_of Try.func43 (by kernel_rfl) rfl) (whyC s) l A c m 4 _ HM.out hmm (HA.out.below (below_alloc1 _ _)) HN.out (by decide) HP.out).mono ?_
  rw [HR2.out]
  rintro e w' ⟨rfl, hb⟩
  have HB : Hid (Below w.heap.size w w') := Lib.hid (bthen (below_alloc1 _ _) hb)
  clear hb
  go_wp2
  go_ret2
  exact ⟨by rw [HR.out]; rfl, HB.out⟩
end Go.Proofs.YtodloljpfbkkjaaRRRR.dcl
