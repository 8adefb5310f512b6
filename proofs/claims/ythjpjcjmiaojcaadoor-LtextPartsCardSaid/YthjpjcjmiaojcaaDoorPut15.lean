/- Contracts that the claim stands on, several texts in one: LtxLaid, LtxOpens. -/
import Derived.Test.YthjpjcjmiaojcaaDoorRows
import Derived.LaidMore
import Derived.Lay
import Derived.Stop.Joined
import Derived.Stop.LaidErr
import Derived.Lib.LaidTab
import Derived.MakeChecks
import Derived.LaidLaws
import Derived.SliceStrings
import Derived.WalkLawsBesides
import Derived.Test.YthjpjcjmiaojcaaDoorPut1
import Derived.Test.YthjpjcjmiaojcaaDoorPut2
import Derived.Test.YthjpjcjmiaojcaaDoorPut3
import Derived.Test.YthjpjcjmiaojcaaDoorPut4
import Derived.Test.YthjpjcjmiaojcaaDoorPut5
import Derived.Test.YthjpjcjmiaojcaaDoorPut6
import Derived.Test.YthjpjcjmiaojcaaDoorPut7
import Derived.Test.YthjpjcjmiaojcaaDoorPut8
import Derived.Test.YthjpjcjmiaojcaaDoorPut9
import Derived.Test.YthjpjcjmiaojcaaDoorPut10
import Derived.Test.YthjpjcjmiaojcaaDoorPut11
import Derived.Test.YthjpjcjmiaojcaaDoorPut12
import Derived.Test.YthjpjcjmiaojcaaDoorPut13
import Derived.Test.YthjpjcjmiaojcaaDoorPut14
namespace Go.Proofs.YthjpjcjmiaojcaaDoor.tx
open Go.ChangeShapes Go.WideShapes Go.ChangeAt Go.RowKit Go.Lib sr

/-- An array of texts that reads as these texts holds them, cell for cell. -/
theorem cells_of_strs {H : Type} {enc : TypeId × Value → H} {P : Program} {w : World} {base : Nat} {sp : Nat → Bool} {held : Bool} {fuel : Nat} {t e : TypeId} {n : Nat} {cs : List Value} {ls : List (List UInt8)} {p : List MemPlace}
    (ht : P.underlying t = some (.array n e)) (he : P.underlying e = some .string) (hce : P.cellsOf e = 1) (hct : P.cellsOf t = n)
    (h : DataW.trod enc P w base sp held fuel t cs = some (.agg (ls.map fun l => .lit (.string l)), p)) : cs = ls.map fun l => Value.string ⟨l.toArray⟩ := by
  cases fuel with
  | zero => simp [DataW.trod] at h
  | succ fuel =>
    simp only [DataW.trod, ht, hce, hct, Nat.mul_one] at h
    split at h
    · rename_i hl
      obtain ⟨xs, hm, hx⟩ := Option.map_eq_some_iff.1 h
      have hxs : xs.map (·.1) = ls.map fun l => (DataW.lit (.string l) : DataW H) := by
        have := congrArg Prod.fst hx
        simpa using this
      have hxl : xs.length = n := by simpa using Lib.mapM_length hm
      have hzl : ls.length = n := by
        have := congrArg List.length hxs
        simp at this
        omega
      apply List.ext_getElem?
      intro i
      by_cases hi : i < n
      · obtain ⟨b, hb, hf⟩ := Lib.mapM_at hm i i (by simp [hi])
        obtain ⟨s, hc, rfl, _⟩ := DataW.trod_string he hf
        have h1 : cs[i]? = some (.string s) := by
          have := congrArg (·[0]?) hc
          simpa [List.getElem?_take, List.getElem?_drop] using this
        have h2 : (xs.map (·.1))[i]? = some (DataW.lit (.string s.data.toList) : DataW H) := by simp [hb]
        rw [hxs, List.getElem?_map] at h2
        obtain ⟨l, hl2, e2⟩ := Option.map_eq_some_iff.1 h2
        injection e2 with e2
        injection e2 with e2
        rw [h1, List.getElem?_map, hl2, e2]
        simp
      · rw [List.getElem?_eq_none (by omega), List.getElem?_eq_none (by simp; omega)]
    · cases h
theorem strs_of_head {P : Program} {W : World} {name : String} {ls : List (List UInt8)} {rest : List (String × DataW Unit)} {g : Nat} {t e : TypeId} {n : Nat}
    (hg : P.globalNamed name = some g) (hty : (P.globals[g]?).map (·.type) = some t) (ht : P.underlying t = some (.array n e)) (he : P.underlying e = some .string) (hce : P.cellsOf e = 1) (hct : P.cellsOf t = n)
    (h : laidMet P ((name, .agg (ls.map fun l => .lit (.string l))) :: rest) W) : W.var? P name = some (ls.map fun l => Value.string ⟨l.toArray⟩).toArray := by
  obtain ⟨ps, ⟨g', t', cs, fuel, p, q, hg', ht', hvar, hd, _, _⟩, _⟩ := h
  obtain rfl := Option.some.inj (hg.symm.trans hg')
  obtain rfl := Option.some.inj (hty.symm.trans ht')
  rw [hvar, ← cells_of_strs ht he hce hct hd]

/-- An operation as it is laid. -/
def opD {H : Type} (o : Opr) : DataW H := .agg [.lit (.int .i64 o.op), .lit (.string o.sg), .lit (.int .i64 o.bd), .lit (.int .i64 o.lf), .lit (.int .i64 o.rt)]
theorem cellsI : Tryd.prog.cellsOf 3 = 1 := by kernel_rfl
theorem cellsStr1 : Tryd.prog.cellsOf 9 = 1 := by kernel_rfl
theorem cellsOp : Tryd.prog.cellsOf 58 = 5 := by kernel_rfl
set_option maxRecDepth 20000 in
theorem cells_of_op {H : Type} {enc : TypeId × Value → H} {w : World} {base : Nat} {sp : Nat → Bool} {held : Bool} {fuel : Nat} {cs : List Value} {o : Opr} {x : DataW H × List MemPlace}
    (h : DataW.trod enc Tryd.prog w base sp held fuel 58 cs = some x) (hx : x.1 = opD o) : cs = oC o := by
  obtain ⟨xs, n, _, rfl, hl, hlen, hf⟩ := DataW.trod_struct Tryd.underlying58 h
  rw [cellsOp] at hl
  match cs, hl, xs, hlen, hf, hx with
  | [c0, c1, c2, c3, c4], _, [y0, y1, y2, y3, y4], _, hf, hx =>
    have h0 := hf 0 _ rfl
    have h1 := hf 1 _ rfl
    have h2 := hf 2 _ rfl
    have h3 := hf 3 _ rfl
    have h4 := hf 4 _ rfl
    change DataW.trod enc Tryd.prog w base sp held n 3 ((List.drop 0 [c0, c1, c2, c3, c4]).take (Tryd.prog.cellsOf 3)) = some y0 at h0
    rw [cellsI] at h0
    change DataW.trod enc Tryd.prog w base sp held n 9 ((List.drop 1 [c0, c1, c2, c3, c4]).take (Tryd.prog.cellsOf 9)) = some y1 at h1
    rw [cellsStr1] at h1
    change DataW.trod enc Tryd.prog w base sp held n 3 ((List.drop 2 [c0, c1, c2, c3, c4]).take (Tryd.prog.cellsOf 3)) = some y2 at h2
    rw [cellsI] at h2
    change DataW.trod enc Tryd.prog w base sp held n 3 ((List.drop 3 [c0, c1, c2, c3, c4]).take (Tryd.prog.cellsOf 3)) = some y3 at h3
    rw [cellsI] at h3
    change DataW.trod enc Tryd.prog w base sp held n 3 ((List.drop 4 [c0, c1, c2, c3, c4]).take (Tryd.prog.cellsOf 3)) = some y4 at h4
    rw [cellsI] at h4
    obtain ⟨n0, e0, rfl, _⟩ := DataW.trod_int Tryd.underlying3 h0
    obtain ⟨n1, e1, rfl, _⟩ := DataW.trod_string Tryd.underlying9 h1
    obtain ⟨n2, e2, rfl, _⟩ := DataW.trod_int Tryd.underlying3 h2
    obtain ⟨n3, e3, rfl, _⟩ := DataW.trod_int Tryd.underlying3 h3
    obtain ⟨n4, e4, rfl, _⟩ := DataW.trod_int Tryd.underlying3 h4
    simp at e0 e1 e2 e3 e4
    simp [opD] at hx
    obtain ⟨g0, g1, g2, g3, g4⟩ := hx
    subst e0 e1 e2 e3 e4
    unfold oC sgA
    rw [g0, ← g1, g2, g3, g4]
theorem cells_of_ops {H : Type} {enc : TypeId × Value → H} {w : World} {base : Nat} {sp : Nat → Bool} {held : Bool} {fuel : Nat} {t : TypeId} {n : Nat} {cs : List Value} {ls : List Opr} {p : List MemPlace}
    (ht : Tryd.prog.underlying t = some (.array n 58)) (h : DataW.trod enc Tryd.prog w base sp held fuel t cs = some (.agg (ls.map opD), p)) : ∀ i j, i < ls.length → j < 5 → cs[i * 5 + j]? = (oC (ls.getD i default))[j]? := by
  cases fuel with
  | zero => simp [DataW.trod] at h
  | succ fuel =>
    simp only [DataW.trod, ht, cellsOp] at h
    split at h
    · obtain ⟨xs, hm, hx⟩ := Option.map_eq_some_iff.1 h
      have hxs : xs.map (·.1) = ls.map fun l => (opD l : DataW H) := by
        have := congrArg Prod.fst hx
        simpa using this
      have hxl : xs.length = n := by simpa using Lib.mapM_length hm
      have hzl : ls.length = n := by
        have := congrArg List.length hxs
        simp at this
        omega
      intro i j hi hj
      have hin : i < n := by omega
      obtain ⟨b, hb, hf⟩ := Lib.mapM_at hm i i (by simp [hin])
      have h2 : (xs.map (·.1))[i]? = some b.1 := by simp [hb]
      rw [hxs, List.getElem?_map, List.getElem?_eq_getElem hi] at h2
      have h3 : b.1 = opD ls[i] := by simpa using h2.symm
      have h4 := cells_of_op hf h3
      have h5 : ls.getD i default = ls[i] := by simp [List.getD, hi]
      rw [h5, ← h4]
      simp [List.getElem?_take, List.getElem?_drop, hj]
    · cases h

noncomputable abbrev LD : List (String × DataW Unit) := Rows.ltextBytesRow.laid
theorem gES : Tryd.prog.globalNamed "strconv.ErrSyntax" = some 2 := by kernel_rfl
theorem gESType : (Tryd.prog.globals[2]?).map (·.type) = some 104 := by kernel_rfl
theorem gER : Tryd.prog.globalNamed "strconv.ErrRange" = some 3 := by kernel_rfl
theorem gERType : (Tryd.prog.globals[3]?).map (·.type) = some 104 := by kernel_rfl
theorem gPT : Tryd.prog.globalNamed "internal/strconv.uint64pow10" = some 4 := by kernel_rfl
theorem gPTType : (Tryd.prog.globals[4]?).map (·.type) = some 137 := by kernel_rfl
theorem gSG : Tryd.prog.globalNamed "lariat/lex.signs" = some 1 := by kernel_rfl
theorem gSGType : (Tryd.prog.globals[1]?).map (·.type) = some 108 := by kernel_rfl
theorem cellsES : Tryd.prog.cellsOf 130 = 1 := by kernel_rfl
theorem cellsStr : Tryd.prog.cellsOf 9 = 1 := by kernel_rfl
theorem cellsSG : Tryd.prog.cellsOf 108 = 25 := by kernel_rfl
theorem star : "*" ++ "errors.errorString" = "*errors.errorString" := by decide
theorem rowES (u : TypeId) (h : Tryd.prog.typeName? 3 u = some "*errors.errorString") : u = 128 :=
  typeName_ptr_named (nm := "errors.errorString") (by rw [star]; kernel_rfl) (by kernel_rfl) (by decide) u (by rw [star]; exact h)
theorem cellsU : Tryd.prog.cellsOf 119 = 1 := by kernel_rfl
theorem cellsPT : Tryd.prog.cellsOf 137 = 20 := by kernel_rfl
theorem gOP : Tryd.prog.globalNamed "lariat/ltext.operations" = some 0 := by kernel_rfl
theorem gOPType : (Tryd.prog.globals[0]?).map (·.type) = some 82 := by kernel_rfl
theorem ops_of_head {W : World} {rest : List (String × DataW Unit)} (h : laidMet Tryd.prog (("lariat/ltext.operations", .agg (opsQ.map opD)) :: rest) W) : OpsW W := by
  obtain ⟨ps, ⟨g', t', cs, fuel, p, q, hg', ht', hvar, hd, _, _⟩, _⟩ := h
  obtain rfl := Option.some.inj (gOP.symm.trans hg')
  obtain rfl := Option.some.inj (gOPType.symm.trans ht')
  intro j v hv
  have hj : j < 55 := by
    have h1 := (List.getElem?_eq_some_iff.1 hv).1
    have h2 : (opsQ.flatMap oC).length = 55 := rfl
    omega
  have h3 : (flatR oC opsQ)[j / 5 * 5 + j % 5]? = some v := by
    rw [show j / 5 * 5 + j % 5 = j by omega]
    exact hv
  rw [flatR_get oC_len opsQ (j / 5) (j % 5) (by show j / 5 < 11; omega) (Nat.mod_lt _ (by omega))] at h3
  have h4 := cells_of_ops Tryd.underlying82 hd (j / 5) (j % 5) (by show j / 5 < 11; omega) (Nat.mod_lt _ (by omega))
  rw [show j / 5 * 5 + j % 5 = j by omega, h3] at h4
  have h5 := World.var?_cell gOP hvar j
  rw [Nat.zero_add, h5]
  simpa using h4
theorem lxW_of_laid {W : World} (h : laidMetH Tryd.prog LD W) : LxW W := by
  rw [MakeChecks.laidMetH_plain _ _ _ (by kernel_rfl)] at h
  have h3 : laidMet Tryd.prog (("internal/strconv.uint64pow10", tabData .u64 pow10Tab) :: [("strconv.ErrRange", Rows.laid_strconv_ErrRange), ("strconv.ErrSyntax", Rows.laid_strconv_ErrSyntax), ("lariat/lex.signs", Rows.laid_lariat_lex_signs), ("lariat/ltext.operations", Rows.laid_lariat_ltext_operations)]) W := h.tail.tail
  obtain ⟨a0, s0, hv0, -, -, -⟩ := laid_sentinel h3.tail gER gERType Tryd.underlying104 rowES Tryd.underlying128 Tryd.underlying130 rfl rfl Tryd.underlying9 cellsES cellsStr
  obtain ⟨a1, s1, hv1, -, -, -⟩ := laid_sentinel h3.tail.tail gES gESType Tryd.underlying104 rowES Tryd.underlying128 Tryd.underlying130 rfl rfl Tryd.underlying9 cellsES cellsStr
  have h6 : laidMet Tryd.prog (("lariat/lex.signs", .agg (lx.sgL.map fun l => .lit (.string l))) :: [("lariat/ltext.operations", Rows.laid_lariat_ltext_operations)]) W := h3.tail.tail.tail
  have h7 : laidMet Tryd.prog (("lariat/ltext.operations", .agg (opsQ.map opD)) :: []) W := h6.tail
  have hs := strs_of_head gSG gSGType Tryd.underlying108 Tryd.underlying9 cellsStr cellsSG h6
  have c1 : W.cell? ⟨3, 0, none⟩ = some (.iface 128 (.pointer (some a0))) := by have h0 := World.var?_cell gER hv0 0; simpa using h0
  have c0 : W.cell? ⟨2, 0, none⟩ = some (.iface 128 (.pointer (some a1))) := by have h0 := World.var?_cell gES hv1 0; simpa using h0
  refine ⟨fun i hi => ?_, ⟨tabIs_of_head gPT gPTType Tryd.underlying137 Tryd.underlying119 cellsU cellsPT h3, ⟨_, _, c0⟩, ⟨_, _, c1⟩⟩, ops_of_head h7⟩
  have h0 := World.var?_cell gSG hs i
  rw [h0]
  have hl : lx.sgL.length = 25 := by decide
  show (lx.sgL.map fun l => Value.string ⟨l.toArray⟩).toArray[i]? = _
  rw [List.getElem?_toArray, List.getElem?_map, List.getElem?_eq_getElem (by rw [hl]; exact hi)]
  unfold lx.sgS
  rw [show lx.sgL.getD i [] = lx.sgL[i]'(by rw [hl]; exact hi) by simp [List.getD, hl, hi]]
  rfl
end Go.Proofs.YthjpjcjmiaojcaaDoor.tx
namespace Go.Proofs.YthjpjcjmiaojcaaDoor.tx
open Go.ChangeShapes Go.WideShapes Go.ChangeAt Go.RowKit sr

theorem cellsNm : Tryd.prog.cellsOf 9 = 1 := by kernel_rfl
theorem bytesNm : Tryd.prog.bytesOf 9 = 16 := by kernel_rfl
set_option maxRecDepth 100000 in
theorem open_names_arg {H : Type} {enc : TypeId × Value → H} {W : World} {base : Nat} {v : Value} {d : DataW H} {ps : List MemPlace} (hv : Value.okWide Tryd.prog W .any base 23 v)
    (h : DataW.Trod enc Tryd.prog W 0 (fun _ => true) true 23 v d ps) {ts : List TypeId} {ds : List (DataW H)} (hsz : (DataW.weightsEach Tryd.prog ts ds).all (· ≤ reachBytes) = true) (j : Nat) (htj : ts[j]? = some 23) (hdj : ds[j]? = some d) :
    ∃ (A : Option Addr) (c : Nat) (zs : List ByteArray), v = .slice A zs.length c ∧ zs.length ≤ c ∧ zs.length ≤ 4611686018427387904 ∧ RS encS 1 W A zs := by
  obtain ⟨a0, len, cap, rfl⟩ := okWide_slice Tryd.underlying23 hv
  obtain ⟨fuel, hf⟩ := h
  rcases open_strings Tryd.underlying23 Tryd.underlying9 cellsNm hf with ⟨hcs, hx⟩ | ⟨a, len', cap', zs, hcs, _, hl, hm, hz, hx, hcell, hwz⟩
  · simp [Value.cells] at hcs
    obtain ⟨rfl, rfl, rfl⟩ := hcs
    exact ⟨none, 0, [], rfl, by simp, by simp, (fun h => absurd h (by simp))⟩
  · simp [Value.cells] at hcs
    obtain ⟨rfl, rfl, rfl⟩ := hcs
    simp only [Prod.mk.injEq] at hx
    obtain ⟨rfl, rfl⟩ := hx
    simp only [if_true] at hz
    have hle : len ≤ zs.length := by omega
    have hlen : (zs.take len).length = len := by simp; omega
    have hs := sized_slice hsz htj hdj Tryd.underlying23
    rw [bytesNm] at hs
    have hrb := reachBytes_lt
    have hs2 : (strs (H := H) (zs.take len)).length = len := by simp [strs]; omega
    rw [hs2] at hs
    refine ⟨some a, cap, zs.take len, by rw [hlen], by rw [hlen]; omega, by rw [hlen]; omega, ?_⟩
    · intro h0
      obtain ⟨b, off, spot⟩ := a
      have g0 := hcell 0 (by omega)
      have hspot : spot = none := by simpa [Addr.add] using World.cell?_spot g0
      subst hspot
      have hcell' : ∀ i, i < zs.length → W.cell? ⟨b, off + i, none⟩ = some (.string (zs.getD i ⟨#[]⟩)) := fun i hi => by rw [← add_plain]; exact hcell i hi
      refine ⟨b, off, rfl, ?_, fun i hi j2 hj2 => ?_⟩
      · have g1 := hcell' 0 (by omega)
        rcases Nat.lt_or_ge b W.heap.size with hlt | hge
        · exact hlt
        · simp [World.cell?, Array.getElem?_eq_none hge] at g1
      · obtain rfl : j2 = 0 := by omega
        rw [hlen] at hi
        rw [Nat.mul_one, Nat.add_zero, hcell' i (by omega)]
        have hiz : i < zs.length := by omega
        simp [encS, List.getD, hi, hiz]
end Go.Proofs.YthjpjcjmiaojcaaDoor.tx
