/- What the row lists of the package's variables, as the walks ask it. -/
import Derived.Test.YtmdfiamffipbcaaDoorNnfW
import Derived.Test.YtmdfiamffipbcaaDoorLaw
import Derived.Test.YtmdfiamffipbcaaDoorRows
import Derived.LaidMore
import Derived.Lay
import Derived.Stop.Joined
import Derived.Stop.LaidErr
import Derived.Lib.LaidTab
import Derived.MakeChecks
import Derived.LaidLaws
namespace Go.Proofs.YtmdfiamffipbcaaDoor.nf
open Go.ChangeShapes Go.WideShapes Go.ChangeAt Go.RowKit Go.Lib sr

/-- A row of the table as it is laid, and as cells. -/
def tbD {H : Type} (x : Int × Int × Int) : DataW H := .agg [.lit (.int .i64 x.1), .lit (.int .i64 x.2.1), .lit (.int .i64 x.2.2)]
def tbC (x : Int × Int × Int) : List Value := [.int .i64 x.1, .int .i64 x.2.1, .int .i64 x.2.2]
theorem cellsI : Tryd.prog.cellsOf 3 = 1 := by kernel_rfl
abbrev tR : TypeId := 72
abbrev tF : TypeId := 73
theorem cellsR : Tryd.prog.cellsOf tR = 3 := by kernel_rfl
set_option maxRecDepth 20000 in
theorem cells_of_tb {H : Type} {enc : TypeId × Value → H} {w : World} {base : Nat} {sp : Nat → Bool} {held : Bool} {fuel : Nat} {cs : List Value} {o : Int × Int × Int} {x : DataW H × List MemPlace}
    (h : DataW.trod enc Tryd.prog w base sp held fuel tR cs = some x) (hx : x.1 = tbD o) : cs = tbC o := by
  obtain ⟨xs, n, _, rfl, hl, hlen, hf⟩ := DataW.trod_struct Tryd.underlying72 h
  rw [cellsR] at hl
  match cs, hl, xs, hlen, hf, hx with
  | [c0, c1, c2], _, [y0, y1, y2], _, hf, hx =>
    have h0 := hf 0 _ rfl
    have h1 := hf 1 _ rfl
    have h2 := hf 2 _ rfl
    change DataW.trod enc Tryd.prog w base sp held n 3 ((List.drop 0 [c0, c1, c2]).take (Tryd.prog.cellsOf 3)) = some y0 at h0
    rw [cellsI] at h0
    change DataW.trod enc Tryd.prog w base sp held n 3 ((List.drop 1 [c0, c1, c2]).take (Tryd.prog.cellsOf 3)) = some y1 at h1
    rw [cellsI] at h1
    change DataW.trod enc Tryd.prog w base sp held n 3 ((List.drop 2 [c0, c1, c2]).take (Tryd.prog.cellsOf 3)) = some y2 at h2
    rw [cellsI] at h2
    obtain ⟨n0, e0, rfl, _⟩ := DataW.trod_int Tryd.underlying3 h0
    obtain ⟨n1, e1, rfl, _⟩ := DataW.trod_int Tryd.underlying3 h1
    obtain ⟨n2, e2, rfl, _⟩ := DataW.trod_int Tryd.underlying3 h2
    simp at e0 e1 e2
    simp [tbD] at hx
    obtain ⟨g0, g1, g2⟩ := hx
    subst e0 e1 e2
    unfold tbC
    rw [g0, g1, g2]
theorem cells_of_tbs {H : Type} {enc : TypeId × Value → H} {w : World} {base : Nat} {sp : Nat → Bool} {held : Bool} {fuel : Nat} {t : TypeId} {n : Nat} {cs : List Value} {ls : List (Int × Int × Int)} {p : List MemPlace}
    (ht : Tryd.prog.underlying t = some (.array n tR)) (h : DataW.trod enc Tryd.prog w base sp held fuel t cs = some (.agg (ls.map tbD), p)) : ∀ i j, i < ls.length → j < 3 → cs[i * 3 + j]? = (tbC (ls.getD i (0, 0, 0)))[j]? := by
  cases fuel with
  | zero => simp [DataW.trod] at h
  | succ fuel =>
    simp only [DataW.trod, ht, cellsR] at h
    split at h
    · obtain ⟨xs, hm, hx⟩ := Option.map_eq_some_iff.1 h
      have hxs : xs.map (·.1) = ls.map fun l => (tbD l : DataW H) := by
        have := congrArg Prod.fst hx
        simpa using this
      have hxl : xs.length = n := by simpa using Lib.mapM_length hm
      have hzl : ls.length = n := by
        have := congrArg List.length hxs
        simp at this
        omega
      intro i j hi hj
      have hin : i < n := by omega
      obtain ⟨b, hb, hf⟩ := Lib.mapM_at hm i i (by simp [hin])
      have h2 : (xs.map (·.1))[i]? = some b.1 := by simp [hb]
      rw [hxs, List.getElem?_map, List.getElem?_eq_getElem hi] at h2
      have h3 : b.1 = tbD ls[i] := by simpa using h2.symm
      have h4 := cells_of_tb hf h3
      have h5 : ls.getD i (0, 0, 0) = ls[i] := by simp [List.getD, hi]
      rw [h5, ← h4]
      simp [List.getElem?_take, List.getElem?_drop, hj]
    · cases h
noncomputable abbrev LD : List (String × DataW Unit) := Rows.nnfOfRow.laid
theorem gFM : Tryd.prog.globalNamed "lariat/nnf.forms" = some 0 := by kernel_rfl
theorem gFMType : (Tryd.prog.globals[0]?).map (·.type) = some tF := by kernel_rfl
theorem fmW_of_laid {W : World} (h : laidMetH Tryd.prog LD W) : FmW W := by
  rw [MakeChecks.laidMetH_plain _ _ _ (by kernel_rfl)] at h
  have h7 : laidMet Tryd.prog (("lariat/nnf.forms", .agg (tabF.map tbD)) :: []) W := h
  obtain ⟨ps, ⟨g', t', cs, fuel, p, q, hg', ht', hvar, hd, _, _⟩, _⟩ := h7
  obtain rfl := Option.some.inj (gFM.symm.trans hg')
  obtain rfl := Option.some.inj (gFMType.symm.trans ht')
  intro k hk
  have hc := fun j (hj : j < 3) => cells_of_tbs Tryd.underlying73 hd k j (by show k < 13; exact hk) hj
  have hv := fun j => World.var?_cell gFM hvar j
  refine ⟨?_, ?_, ?_⟩
  · have h1 := hc 0 (by omega)
    rw [Nat.add_zero] at h1
    have h2 := hv (k * 3)
    rw [h2]
    simpa [tbC] using h1
  · have h1 := hc 1 (by omega)
    have h2 := hv (k * 3 + 1)
    rw [h2]
    simpa [tbC] using h1
  · have h1 := hc 2 (by omega)
    have h2 := hv (k * 3 + 2)
    rw [h2]
    simpa [tbC] using h1
end Go.Proofs.YtmdfiamffipbcaaDoor.nf
