/- What the row lists of the package's variables, as the walks ask it. -/
import Derived.Test.YtcielemahmpppaaDoorLexAwake
import Derived.Test.YtcielemahmpppaaDoorLaw
import Derived.Test.YtcielemahmpppaaDoorRows
import Derived.LaidMore
import Derived.Lay
import Derived.Stop.Joined
import Derived.Stop.LaidErr
import Derived.Lib.LaidTab
import Derived.MakeChecks
import Derived.LaidLaws
namespace Go.Proofs.YtcielemahmpppaaDoor.lx
open Go.ChangeShapes Go.WideShapes Go.ChangeAt Go.RowKit Go.Lib

/-- An array of texts that reads as these texts holds them, cell for cell. -/
theorem cells_of_strs {H : Type} {enc : TypeId × Value → H} {P : Program} {w : World} {base : Nat} {sp : Nat → Bool} {held : Bool} {fuel : Nat} {t e : TypeId} {n : Nat} {cs : List Value} {ls : List (List UInt8)} {p : List MemPlace}
    (ht : P.underlying t = some (.array n e)) (he : P.underlying e = some .string) (hce : P.cellsOf e = 1) (hct : P.cellsOf t = n)
    (h : DataW.trod enc P w base sp held fuel t cs = some (.agg (ls.map fun l => .lit (.string l)), p)) : cs = ls.map fun l => Value.string ⟨l.toArray⟩ := by
  cases fuel with
  | zero => simp [DataW.trod] at h
  | succ fuel =>
    simp only [DataW.trod, ht, hce, hct, Nat.mul_one] at h
    split at h
    · rename_i hl
      obtain ⟨xs, hm, hx⟩ := Option.map_eq_some_iff.1 h
      have hxs : xs.map (·.1) = ls.map fun l => (DataW.lit (.string l) : DataW H) := by
        have := congrArg Prod.fst hx
        simpa using this
      have hxl : xs.length = n := by simpa using Lib.mapM_length hm
      have hzl : ls.length = n := by
        have := congrArg List.length hxs
        simp at this
        omega
      apply List.ext_getElem?
      intro i
      by_cases hi : i < n
      · obtain ⟨b, hb, hf⟩ := Lib.mapM_at hm i i (by simp [hi])
        obtain ⟨s, hc, rfl, _⟩ := DataW.trod_string he hf
        have h1 : cs[i]? = some (.string s) := by
          have := congrArg (·[0]?) hc
          simpa [List.getElem?_take, List.getElem?_drop] using this
        have h2 : (xs.map (·.1))[i]? = some (DataW.lit (.string s.data.toList) : DataW H) := by simp [hb]
        rw [hxs, List.getElem?_map] at h2
        obtain ⟨l, hl2, e2⟩ := Option.map_eq_some_iff.1 h2
        injection e2 with e2
        injection e2 with e2
        rw [h1, List.getElem?_map, hl2, e2]
        simp
      · rw [List.getElem?_eq_none (by omega), List.getElem?_eq_none (by simp; omega)]
    · cases h
theorem strs_of_head {P : Program} {W : World} {name : String} {ls : List (List UInt8)} {rest : List (String × DataW Unit)} {g : Nat} {t e : TypeId} {n : Nat}
    (hg : P.globalNamed name = some g) (hty : (P.globals[g]?).map (·.type) = some t) (ht : P.underlying t = some (.array n e)) (he : P.underlying e = some .string) (hce : P.cellsOf e = 1) (hct : P.cellsOf t = n)
    (h : laidMet P ((name, .agg (ls.map fun l => .lit (.string l))) :: rest) W) : W.var? P name = some (ls.map fun l => Value.string ⟨l.toArray⟩).toArray := by
  obtain ⟨ps, ⟨g', t', cs, fuel, p, q, hg', ht', hvar, hd, _, _⟩, _⟩ := h
  obtain rfl := Option.some.inj (hg.symm.trans hg')
  obtain rfl := Option.some.inj (hty.symm.trans ht')
  rw [hvar, ← cells_of_strs ht he hce hct hd]

noncomputable abbrev LD : List (String × DataW Unit) := Rows.lexScansRow.laid
theorem gES : Tryd.prog.globalNamed "strconv.ErrSyntax" = some 2 := by kernel_rfl
theorem gESType : (Tryd.prog.globals[2]?).map (·.type) = some 64 := by kernel_rfl
theorem gER : Tryd.prog.globalNamed "strconv.ErrRange" = some 3 := by kernel_rfl
theorem gERType : (Tryd.prog.globals[3]?).map (·.type) = some 64 := by kernel_rfl
theorem gPT : Tryd.prog.globalNamed "internal/strconv.uint64pow10" = some 4 := by kernel_rfl
theorem gPTType : (Tryd.prog.globals[4]?).map (·.type) = some 109 := by kernel_rfl
theorem gSG : Tryd.prog.globalNamed "lariat/lex.signs" = some 0 := by kernel_rfl
theorem gSGType : (Tryd.prog.globals[0]?).map (·.type) = some 84 := by kernel_rfl
theorem cellsES : Tryd.prog.cellsOf 115 = 1 := by kernel_rfl
theorem cellsStr : Tryd.prog.cellsOf 9 = 1 := by kernel_rfl
theorem cellsSG : Tryd.prog.cellsOf 84 = 25 := by kernel_rfl
theorem star : "*" ++ "errors.errorString" = "*errors.errorString" := by decide
theorem rowES (u : TypeId) (h : Tryd.prog.typeName? 3 u = some "*errors.errorString") : u = 113 :=
  typeName_ptr_named (nm := "errors.errorString") (by rw [star]; kernel_rfl) (by kernel_rfl) (by decide) u (by rw [star]; exact h)
theorem cellsU : Tryd.prog.cellsOf 79 = 1 := by kernel_rfl
theorem cellsPT : Tryd.prog.cellsOf 109 = 20 := by kernel_rfl
theorem lexW_of_laid {W : World} (h : laidMetH Tryd.prog LD W) : LexW W := by
  rw [MakeChecks.laidMetH_plain _ _ _ (by kernel_rfl)] at h
  have h3 : laidMet Tryd.prog (("internal/strconv.uint64pow10", tabData .u64 pow10Tab) :: [("strconv.ErrRange", Rows.laid_strconv_ErrRange), ("strconv.ErrSyntax", Rows.laid_strconv_ErrSyntax), ("lariat/lex.signs", Rows.laid_lariat_lex_signs)]) W := h.tail.tail
  obtain ⟨a0, s0, hv0, -, -, -⟩ := laid_sentinel h3.tail gER gERType Tryd.underlying64 rowES Tryd.underlying113 Tryd.underlying115 rfl rfl Tryd.underlying9 cellsES cellsStr
  obtain ⟨a1, s1, hv1, -, -, -⟩ := laid_sentinel h3.tail.tail gES gESType Tryd.underlying64 rowES Tryd.underlying113 Tryd.underlying115 rfl rfl Tryd.underlying9 cellsES cellsStr
  have h6 : laidMet Tryd.prog (("lariat/lex.signs", .agg (sgL.map fun l => .lit (.string l))) :: []) W := h3.tail.tail.tail
  have hs := strs_of_head gSG gSGType Tryd.underlying84 Tryd.underlying9 cellsStr cellsSG h6
  have c1 : W.cell? ⟨3, 0, none⟩ = some (.iface 113 (.pointer (some a0))) := by have h0 := World.var?_cell gER hv0 0; simpa using h0
  have c0 : W.cell? ⟨2, 0, none⟩ = some (.iface 113 (.pointer (some a1))) := by have h0 := World.var?_cell gES hv1 0; simpa using h0
  refine ⟨fun i hi => ?_, ⟨tabIs_of_head gPT gPTType Tryd.underlying109 Tryd.underlying79 cellsU cellsPT h3, ⟨_, _, c0⟩, ⟨_, _, c1⟩⟩⟩
  have h0 := World.var?_cell gSG hs i
  rw [h0]
  have hl : sgL.length = 25 := by decide
  show (sgL.map fun l => Value.string ⟨l.toArray⟩).toArray[i]? = _
  rw [List.getElem?_toArray, List.getElem?_map, List.getElem?_eq_getElem (by rw [hl]; exact hi)]
  unfold sgS
  rw [show sgL.getD i [] = sgL[i]'(by rw [hl]; exact hi) by simp [List.getD, hl, hi]]
  rfl
end Go.Proofs.YtcielemahmpppaaDoor.lx
