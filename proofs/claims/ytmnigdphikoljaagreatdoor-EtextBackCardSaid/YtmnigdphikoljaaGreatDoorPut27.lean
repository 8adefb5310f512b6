/- Contracts that the claim stands on, several texts in one: EtOneLaw, EtLaid, OpensN, OpensE0, OpensSc, OpensScope. -/
import Derived.Test.YtmnigdphikoljaaGreatDoorRows
import Derived.LaidMore
import Derived.Lay
import Derived.Stop.Joined
import Derived.Stop.LaidErr
import Derived.Lib.LaidTab
import Derived.MakeChecks
import Derived.LaidLaws
import Derived.Deep.SlicePairs
import Derived.Lib.SmallJoins
import Derived.Deep.Fields
import Derived.Test.YtmnigdphikoljaaGreatDoorPut1
import Derived.Test.YtmnigdphikoljaaGreatDoorPut2
import Derived.Test.YtmnigdphikoljaaGreatDoorPut3
import Derived.Test.YtmnigdphikoljaaGreatDoorPut4
import Derived.Test.YtmnigdphikoljaaGreatDoorPut5
import Derived.Test.YtmnigdphikoljaaGreatDoorPut6
import Derived.Test.YtmnigdphikoljaaGreatDoorPut7
import Derived.Test.YtmnigdphikoljaaGreatDoorPut8
import Derived.Test.YtmnigdphikoljaaGreatDoorPut9
import Derived.Test.YtmnigdphikoljaaGreatDoorPut10
import Derived.Test.YtmnigdphikoljaaGreatDoorPut11
import Derived.Test.YtmnigdphikoljaaGreatDoorPut12
import Derived.Test.YtmnigdphikoljaaGreatDoorPut13
import Derived.Test.YtmnigdphikoljaaGreatDoorPut14
import Derived.Test.YtmnigdphikoljaaGreatDoorPut15
import Derived.Test.YtmnigdphikoljaaGreatDoorPut16
import Derived.Test.YtmnigdphikoljaaGreatDoorPut17
import Derived.Test.YtmnigdphikoljaaGreatDoorPut18
import Derived.Test.YtmnigdphikoljaaGreatDoorPut19
import Derived.Test.YtmnigdphikoljaaGreatDoorPut20
import Derived.Test.YtmnigdphikoljaaGreatDoorPut21
import Derived.Test.YtmnigdphikoljaaGreatDoorPut22
import Derived.Test.YtmnigdphikoljaaGreatDoorPut23
import Derived.Test.YtmnigdphikoljaaGreatDoorPut24
import Derived.Test.YtmnigdphikoljaaGreatDoorPut25
import Derived.Test.YtmnigdphikoljaaGreatDoorPut26
namespace Go.Proofs.YtmnigdphikoljaaGreatDoor.et
open Go.ChangeShapes Go.WideShapes Go.ChangeAt Go.RowKit Go.Deep

/-- What Parse tells: no nodes where something is wrong; else nodes whose text it is. -/
theorem parseT_bad {S : Sc} {N : Nm} {s : ByteArray} {r : lx.Res} (h : (parseT S N s r).2.2 ≠ 0) : (parseT S N s r).1 = [] := by
  unfold parseT at h ⊢
  generalize allF N s.size r.1 = q at *
  generalize textF S N q.1 = T at *
  by_cases h1 : r.2.2 = 0
  · rw [if_pos h1] at h ⊢
    by_cases h2 : q.2.2 = 0
    · rw [if_pos h2] at h ⊢
      by_cases h3 : T.2 = 0
      · rw [if_pos h3] at h ⊢
        by_cases h4 : T.1 = s
        · rw [if_pos h4] at h
          exact absurd rfl h
        · rw [if_neg h4]
      · rw [if_neg h3]
    · rw [if_neg h2]
  · rw [if_neg h1]
theorem parseT_good {S : Sc} {N : Nm} {s : ByteArray} {r : lx.Res} (h : (parseT S N s r).2.2 = 0) : (parseT S N s r).1 = (allF N s.size r.1).1 ∧ textF S N (allF N s.size r.1).1 = (s, 0) ∧ (parseT S N s r).2.1 = 0 := by
  unfold parseT at h ⊢
  generalize allF N s.size r.1 = q at *
  generalize textF S N q.1 = T at *
  by_cases h1 : r.2.2 = 0
  · rw [if_pos h1] at h ⊢
    by_cases h2 : q.2.2 = 0
    · rw [if_pos h2] at h ⊢
      by_cases h3 : T.2 = 0
      · rw [if_pos h3] at h ⊢
        by_cases h4 : T.1 = s
        · rw [if_pos h4]
          exact ⟨rfl, Prod.ext h4 h3, rfl⟩
        · rw [if_neg h4] at h
          cases h
      · rw [if_neg h3] at h
        exact absurd h h3
    · rw [if_neg h2] at h
      exact absurd h h2
  · rw [if_neg h1] at h
    have h : ((r.2.2 : Nat) : Int) = 0 := h
    omega
theorem kind_of_text {S : Sc} {N : Nm} {e : List (Int × Int)} (h : (textF S N e).2 = 0) : (kindF S e).2 = 0 := by
  unfold textF at h
  split at h
  · assumption
  · exact h
theorem parseT_n64 {S : Sc} {N : Nm} (hN : Lim N) {s : ByteArray} {r : lx.Res} (hr : lx.ScanR numD s r) (h : (parseT S N s r).2.2 = 0) : N64 (parseT S N s r).1 ∧ (parseT S N s r).1.length ≤ 6000 := by
  obtain ⟨e1, _⟩ := parseT_good h
  have hb : (∀ t ∈ r.1, -2000000 ≤ t.num ∧ t.num ≤ 2000000) ∧ r.1.length ≤ 6000 := by
    rcases hr with ⟨_, rfl⟩ | ⟨_, hr⟩
    · exact ⟨fun t ht => absurd ht (by simp), Nat.zero_le _⟩
    · have := sc_bd hr
      exact ⟨this.1, this.2.2⟩
  have h1 := all_bd hN s.size r.1 hb.1
  have h2 := all_few N s.size r.1
  rw [e1]
  exact ⟨fun z hz => by have := h1 z hz; unfold Bd at this; omega, by omega⟩
set_option maxRecDepth 20000 in
set_option maxHeartbeats 8000000 in
theorem etextOne_any (s : ByteArray) (X : ScX) (S : Sc) (N : Nm) (w : World) (hs : SR w X S) (hnm : NmR w X N) (hx : LxW w) : Calls Tryz.prog 6 #[.string s, X.v] w fun e w' => e = .returned (.bool true) ∧ Below w.heap.size w w' := by
  have hb1 := below_alloc1 w (.cells #[.slice X.a1 X.n1 X.c1, .slice X.a2 X.n2 X.c2, .slice X.a3 X.n3 X.c3, .slice X.a4 X.n4 X.c4, .slice X.a5 X.n5 X.c5, .int .i64 X.self] 28)
  have HB1 := Lib.hid hb1
  have HBX : Hid (Bx (w.alloc (.cells #[.slice X.a1 X.n1 X.c1, .slice X.a2 X.n2 X.c2, .slice X.a3 X.n3 X.c3, .slice X.a4 X.n4 X.c4, .slice X.a5 X.n5 X.c5, .int .i64 X.self] 28)) w.heap.size X) := Lib.hid (Bx.new w X 28)
  have HS1 := Lib.hid (hs.below hb1)
  have HM1 := Lib.hid (hnm.below hb1)
  have HX1 := Lib.hid (hx.below hb1)
  clear hs hnm hx hb1
  unfold ScX.v
  go_enter Tryz.func6, Tryz.ntmps6
  go_upto_region 1 with (fail)
  generalize hgn : w.heap.size = g at *
  generalize w.alloc (.cells #[.slice X.a1 X.n1 X.c1, .slice X.a2 X.n2 X.c2, .slice X.a3 X.n3 X.c3, .slice X.a4 X.n4 X.c4, .slice X.a5 X.n5 X.c5, .int .i64 X.self] 28) = w1 at *
  by_cases hz : 400 < s.size
  · have hz2 : (400 : Int) < (s.size : Int) := by omega
    go_wp2_with fail
    refine (works_any w1 HX1.out).mono ?_
    rintro e w2 ⟨rfl, hb2⟩
    have HB2 := Lib.hid (HB1.out.trans (hb2.mono (by have := HB1.out.size; omega)))
    clear hb2
    go_wp2
    go_ret
    rw [hgn]
    exact ⟨rfl, HB2.out⟩
  · have hz2 : ¬ (400 : Int) < (s.size : Int) := by omega
    obtain ⟨⟨s0, s1, s2, s3, s4, s5⟩, _⟩ := HBX.out
    have hLC := light_any none 0 0 X w1
    obtain ⟨li, HLI⟩ : ∃ b, Hid (lightF 0 X = b) := ⟨_, Lib.hid rfl⟩
    rw [HLI.out] at hLC
    unfold ScX.v at hLC
    have HLC := Lib.hid hLC
    clear hLC
    go_wp2_with fail
    refine HLC.out.mono ?_
    rintro e w2 ⟨rfl, hb2⟩
    have HB2 := Lib.hid (HB1.out.trans (hb2.mono (by have := HB1.out.size; omega)))
    have HBX2 := Lib.hid (HBX.out.below hb2)
    have HS2 := Lib.hid (HS1.out.below hb2)
    have HM2 := Lib.hid (HM1.out.below hb2)
    have HX2 := Lib.hid (HX1.out.below hb2)
    clear hb2 HLC s0 s1 s2 s3 s4 s5
    cases li with
    | false =>
      rw [if_neg (by decide)]
      go_wp2_with fail
      refine (works_any w2 HX2.out).mono ?_
      rintro e w3 ⟨rfl, hb3⟩
      have HB3 := Lib.hid (HB2.out.trans (hb3.mono (by have := HB2.out.size; omega)))
      clear hb3
      go_wp2
      go_ret
      rw [hgn]
      exact ⟨rfl, HB3.out⟩
    | true =>
      rw [if_pos rfl]
      obtain ⟨_, hlim⟩ := light_lim HLI.out HM2.out
      have HLIM := Lib.hid hlim
      clear hlim
      obtain ⟨⟨s0, s1, s2, s3, s4, s5⟩, _⟩ := HBX2.out
      have hPC := parse_any X S N s w2 HS2.out HM2.out HLIM.out HX2.out
      unfold ScX.v at hPC
      have HPC := Lib.hid hPC
      clear hPC
      go_wp2_with fail
      refine HPC.out.mono ?_
      rintro e w3 ⟨r, v, hr, rfl, ho, hb3⟩
      have HR := Lib.hid hr
      have HB3 := Lib.hid (HB2.out.trans (hb3.mono (by have := HB2.out.size; omega)))
      have HBX3 := Lib.hid (HBX2.out.below hb3)
      have HS3 := Lib.hid (HS2.out.below hb3)
      have HM3 := Lib.hid (HM2.out.below hb3)
      have HX3 := Lib.hid (HX2.out.below hb3)
      have HBAD : Hid ((parseT S N s r).2.2 ≠ 0 → (parseT S N s r).1 = []) := Lib.hid parseT_bad
      have HGOOD : Hid ((parseT S N s r).2.2 = 0 → textF S N (parseT S N s r).1 = (s, 0) ∧ (kindF S (parseT S N s r).1).2 = 0 ∧ N64 (parseT S N s r).1 ∧ (parseT S N s r).1.length ≤ 6000) := Lib.hid (fun h => by
        obtain ⟨h1, h2, _⟩ := parseT_good h
        obtain ⟨h3, h4⟩ := parseT_n64 HLIM.out HR.out h
        rw [h1] at h3 h4 ⊢
        exact ⟨h2, kind_of_text (by rw [h2]), h3, h4⟩)
      obtain ⟨A, c, rfl, hra⟩ := sr.OR.rs nodC_len ho
      have HPA := Lib.hid (pa_of hra)
      clear hr ho hra hb3 HPC s0 s1 s2 s3 s4 s5
      generalize parseT S N s r = q at *
      obtain ⟨E, qa, qy⟩ := q
      dsimp only at HBAD HGOOD HPA ⊢
      obtain ⟨n, hn⟩ : ∃ n, E.length = n := ⟨_, rfl⟩
      rw [hn]
      by_cases hy : qy = 0
      · subst hy
        obtain ⟨h1, h2, h3, h4⟩ := HGOOD.out rfl
        have hTC := text_any X S N E A n c w3 HS3.out HM3.out HLIM.out hn.symm HPA.out h3 HX3.out.tabs
        rw [h1] at hTC
        obtain ⟨kd, HKD⟩ : ∃ kd, Hid (kindF S E = (kd, 0)) := ⟨(kindF S E).1, Lib.hid (Prod.ext rfl h2)⟩
        have HKC : Hid (∀ W, Below w3.heap.size w3 W → Calls Tryz.prog 16 #[.slice A n c, X.v] W (PairP W (kindF S E))) := Lib.hid (fun W hW => refKind_any X S E A c n W (HS3.out.below hW) hn.symm (HPA.out.below hW) h3 (by omega))
        unfold ScX.v at hTC HKC
        have HTC := Lib.hid hTC
        clear hTC h1 h2 h3 h4 hn
        obtain ⟨⟨s0, s1, s2, s3, s4, s5⟩, _⟩ := HBX3.out
        go_wp2_with fail
        refine HTC.out.mono ?_
        rintro e w4 ⟨rfl, hb4⟩
        have HB4 := Lib.hid (HB3.out.trans (hb4.mono (by have := HB3.out.size; omega)))
        have HBX4 := Lib.hid (HBX3.out.below hb4)
        have HX4 := Lib.hid (HX3.out.below hb4)
        have HKC4 := Lib.hid (HKC.out w4 hb4)
        clear hb4 HTC s0 s1 s2 s3 s4 s5
        rw [HKD.out] at HKC4
        obtain ⟨⟨s0, s1, s2, s3, s4, s5⟩, _⟩ := HBX4.out
        dsimp only
        go_wp2_with fail
        refine HKC4.out.mono ?_
        rintro e w5 ⟨rfl, hb5⟩
        have HB5 := Lib.hid (HB4.out.trans (hb5.mono (by have := HB4.out.size; omega)))
        have HX5 := Lib.hid (HX4.out.below hb5)
        clear hb5 HKC4 s0 s1 s2 s3 s4 s5
        have hss : (s.toList == s.toList) = true := by simp
        go_wp2_with fail
        refine (works_any w5 HX5.out).mono ?_
        rintro e w6 ⟨rfl, hb6⟩
        have HB6 := Lib.hid (HB5.out.trans (hb6.mono (by have := HB5.out.size; omega)))
        clear hb6
        go_wp2
        go_ret
        rw [hgn]
        exact ⟨rfl, HB6.out⟩
      · have hE := HBAD.out hy
        subst hE
        obtain rfl : n = 0 := hn.symm
        go_wp2_with fail
        refine (works_any w3 HX3.out).mono ?_
        rintro e w4 ⟨rfl, hb4⟩
        have HB4 := Lib.hid (HB3.out.trans (hb4.mono (by have := HB3.out.size; omega)))
        clear hb4
        go_wp2
        go_ret
        rw [hgn]
        exact ⟨rfl, HB4.out⟩
end Go.Proofs.YtmnigdphikoljaaGreatDoor.et
namespace Go.Proofs.YtmnigdphikoljaaGreatDoor.et
open Go.ChangeShapes Go.WideShapes Go.ChangeAt Go.RowKit Go.Lib

/-- An array of texts that reads as these texts holds them, cell for cell. -/
theorem cells_of_strs {H : Type} {enc : TypeId × Value → H} {P : Program} {w : World} {base : Nat} {sp : Nat → Bool} {held : Bool} {fuel : Nat} {t e : TypeId} {n : Nat} {cs : List Value} {ls : List (List UInt8)} {p : List MemPlace}
    (ht : P.underlying t = some (.array n e)) (he : P.underlying e = some .string) (hce : P.cellsOf e = 1) (hct : P.cellsOf t = n)
    (h : DataW.trod enc P w base sp held fuel t cs = some (.agg (ls.map fun l => .lit (.string l)), p)) : cs = ls.map fun l => Value.string ⟨l.toArray⟩ := by
  cases fuel with
  | zero => simp [DataW.trod] at h
  | succ fuel =>
    simp only [DataW.trod, ht, hce, hct, Nat.mul_one] at h
    split at h
    · rename_i hl
      obtain ⟨xs, hm, hx⟩ := Option.map_eq_some_iff.1 h
      have hxs : xs.map (·.1) = ls.map fun l => (DataW.lit (.string l) : DataW H) := by
        have := congrArg Prod.fst hx
        simpa using this
      have hxl : xs.length = n := by simpa using Lib.mapM_length hm
      have hzl : ls.length = n := by
        have := congrArg List.length hxs
        simp at this
        omega
      apply List.ext_getElem?
      intro i
      by_cases hi : i < n
      · obtain ⟨b, hb, hf⟩ := Lib.mapM_at hm i i (by simp [hi])
        obtain ⟨s, hc, rfl, _⟩ := DataW.trod_string he hf
        have h1 : cs[i]? = some (.string s) := by
          have := congrArg (·[0]?) hc
          simpa [List.getElem?_take, List.getElem?_drop] using this
        have h2 : (xs.map (·.1))[i]? = some (DataW.lit (.string s.data.toList) : DataW H) := by simp [hb]
        rw [hxs, List.getElem?_map] at h2
        obtain ⟨l, hl2, e2⟩ := Option.map_eq_some_iff.1 h2
        injection e2 with e2
        injection e2 with e2
        rw [h1, List.getElem?_map, hl2, e2]
        simp
      · rw [List.getElem?_eq_none (by omega), List.getElem?_eq_none (by simp; omega)]
    · cases h
theorem strs_of_head {P : Program} {W : World} {name : String} {ls : List (List UInt8)} {rest : List (String × DataW Unit)} {g : Nat} {t e : TypeId} {n : Nat}
    (hg : P.globalNamed name = some g) (hty : (P.globals[g]?).map (·.type) = some t) (ht : P.underlying t = some (.array n e)) (he : P.underlying e = some .string) (hce : P.cellsOf e = 1) (hct : P.cellsOf t = n)
    (h : laidMet P ((name, .agg (ls.map fun l => .lit (.string l))) :: rest) W) : W.var? P name = some (ls.map fun l => Value.string ⟨l.toArray⟩).toArray := by
  obtain ⟨ps, ⟨g', t', cs, fuel, p, q, hg', ht', hvar, hd, _, _⟩, _⟩ := h
  obtain rfl := Option.some.inj (hg.symm.trans hg')
  obtain rfl := Option.some.inj (hty.symm.trans ht')
  rw [hvar, ← cells_of_strs ht he hce hct hd]

noncomputable abbrev LD : List (String × DataW Unit) := Rows.etextOneRow.laid
theorem gES : Tryz.prog.globalNamed "strconv.ErrSyntax" = some 2 := by kernel_rfl
theorem gESType : (Tryz.prog.globals[2]?).map (·.type) = some 167 := by kernel_rfl
theorem gER : Tryz.prog.globalNamed "strconv.ErrRange" = some 3 := by kernel_rfl
theorem gERType : (Tryz.prog.globals[3]?).map (·.type) = some 167 := by kernel_rfl
theorem gPT : Tryz.prog.globalNamed "internal/strconv.uint64pow10" = some 1 := by kernel_rfl
theorem gPTType : (Tryz.prog.globals[1]?).map (·.type) = some 198 := by kernel_rfl
theorem gSG : Tryz.prog.globalNamed "lariat/lex.signs" = some 0 := by kernel_rfl
theorem gSGType : (Tryz.prog.globals[0]?).map (·.type) = some 171 := by kernel_rfl
theorem cellsES : Tryz.prog.cellsOf 212 = 1 := by kernel_rfl
theorem cellsStr : Tryz.prog.cellsOf 9 = 1 := by kernel_rfl
theorem cellsSG : Tryz.prog.cellsOf 171 = 25 := by kernel_rfl
theorem star : "*" ++ "errors.errorString" = "*errors.errorString" := by decide
theorem rowES (u : TypeId) (h : Tryz.prog.typeName? 3 u = some "*errors.errorString") : u = 210 :=
  typeName_ptr_named (nm := "errors.errorString") (by rw [star]; kernel_rfl) (by kernel_rfl) (by decide) u (by rw [star]; exact h)
theorem cellsU : Tryz.prog.cellsOf 186 = 1 := by kernel_rfl
theorem cellsPT : Tryz.prog.cellsOf 198 = 20 := by kernel_rfl
theorem lxW_of_laid {W : World} (h : laidMetH Tryz.prog LD W) : LxW W := by
  rw [MakeChecks.laidMetH_plain _ _ _ (by kernel_rfl)] at h
  have h3 : laidMet Tryz.prog (("internal/strconv.uint64pow10", tabData .u64 pow10Tab) :: [("strconv.ErrRange", Rows.laid_strconv_ErrRange), ("strconv.ErrSyntax", Rows.laid_strconv_ErrSyntax), ("lariat/lex.signs", Rows.laid_lariat_lex_signs)]) W := h.tail.tail
  obtain ⟨a0, s0, hv0, -, -, -⟩ := laid_sentinel h3.tail gER gERType Tryz.underlying167 rowES Tryz.underlying210 Tryz.underlying212 rfl rfl Tryz.underlying9 cellsES cellsStr
  obtain ⟨a1, s1, hv1, -, -, -⟩ := laid_sentinel h3.tail.tail gES gESType Tryz.underlying167 rowES Tryz.underlying210 Tryz.underlying212 rfl rfl Tryz.underlying9 cellsES cellsStr
  have h6 : laidMet Tryz.prog (("lariat/lex.signs", .agg (lx.sgL.map fun l => .lit (.string l))) :: []) W := h3.tail.tail.tail
  have hs := strs_of_head gSG gSGType Tryz.underlying171 Tryz.underlying9 cellsStr cellsSG h6
  have c1 : W.cell? ⟨3, 0, none⟩ = some (.iface 210 (.pointer (some a0))) := by have h0 := World.var?_cell gER hv0 0; simpa using h0
  have c0 : W.cell? ⟨2, 0, none⟩ = some (.iface 210 (.pointer (some a1))) := by have h0 := World.var?_cell gES hv1 0; simpa using h0
  refine ⟨fun i hi => ?_, ⟨tabIs_of_head gPT gPTType Tryz.underlying198 Tryz.underlying186 cellsU cellsPT h3, ⟨_, _, c0⟩, ⟨_, _, c1⟩⟩⟩
  have h0 := World.var?_cell gSG hs i
  rw [h0]
  have hl : lx.sgL.length = 25 := by decide
  show (lx.sgL.map fun l => Value.string ⟨l.toArray⟩).toArray[i]? = _
  rw [List.getElem?_toArray, List.getElem?_map, List.getElem?_eq_getElem (by rw [hl]; exact hi)]
  unfold lx.sgS
  rw [show lx.sgL.getD i [] = lx.sgL[i]'(by rw [hl]; exact hi) by simp [List.getD, hl, hi]]
  rfl
end Go.Proofs.YtmnigdphikoljaaGreatDoor.et
namespace Go.Proofs.YtmnigdphikoljaaGreatDoor
open Go.ChangeShapes Go.WideShapes Go.ChangeAt Go.RowKit Go.Deep

/-- The number of a value. -/
def numV : Value → Int
  | .int _ z => z
  | _ => 0
set_option maxRecDepth 100000 in
theorem open_pairs_arg {H : Type} {enc : TypeId × Value → H} {W : World} {base : Nat} {v : Value} {d : DataW H} {ps : List MemPlace} {t e : TypeId} {f0 f1 : Field} (ht : Tryz.prog.underlying t = some (.slice e)) (he : Tryz.prog.underlying e = some (.struct #[f0, f1]))
    (ce : Tryz.prog.cellsOf e = 2) (be : Tryz.prog.bytesOf e = 16) (o0 : f0.offset = 0) (o1 : f1.offset = 1) (t0 : f0.type = 3) (t1 : f1.type = 3) (hv : Value.okWide Tryz.prog W .any base t v)
    (h : DataW.Trod enc Tryz.prog W 0 (fun _ => true) true t v d ps) {ts : List TypeId} {ds : List (DataW H)} (hsz : (DataW.weightsEach Tryz.prog ts ds).all (· ≤ reachBytes) = true) (j : Nat) (htj : ts[j]? = some t) (hdj : ds[j]? = some d) :
    ∃ (A : Option Addr) (c : Nat) (zs : List (Int × Int)), v = .slice A zs.length c ∧ 16 * zs.length ≤ 140737488355328 ∧ zs.length ≤ c ∧ c ≤ maxLen ∧ PA W A zs ∧ ∀ z ∈ zs, (Lit.int .i64 z.1).wf = true ∧ (Lit.int .i64 z.2).wf = true := by
  obtain ⟨a0, len, cap, rfl⟩ := okWide_slice ht hv
  obtain ⟨fuel, hf⟩ := h
  rcases open_slice_pairs ht he ce o0 o1 (by rw [t0]; exact Tryz.cells3) (by rw [t1]; exact Tryz.cells3) hf with ⟨hcs, hx⟩ | ⟨a, len', cap', m, n, V0, V1, D0, D1, P0, P1, hcs, _, hl, hm, hmm, hx, hcell⟩
  · simp [Value.cells] at hcs
    obtain ⟨rfl, rfl, rfl⟩ := hcs
    exact ⟨none, 0, [], rfl, by simp, Nat.le_refl _, Nat.zero_le _, fun h => absurd h (by simp), fun z hz => by simp at hz⟩
  · simp [Value.cells] at hcs
    obtain ⟨rfl, rfl, rfl⟩ := hcs
    simp only [Prod.mk.injEq] at hx
    obtain ⟨rfl, rfl⟩ := hx
    simp only [if_true] at hmm
    subst hmm
    have hs := sized_slice hsz htj hdj ht
    rw [be] at hs
    have hrb := reachBytes_lt
    simp only [List.length_map, List.length_range] at hs
    have hval : ∀ i, i < len → V0 i = .int .i64 (numV (V0 i)) ∧ V1 i = .int .i64 (numV (V1 i)) ∧ (Lit.int .i64 (numV (V0 i))).wf = true ∧ (Lit.int .i64 (numV (V1 i))).wf = true := fun i hi => by
      obtain ⟨_, _, g0, g1⟩ := hcell i (by omega)
      rw [t0] at g0
      rw [t1] at g1
      obtain ⟨z0, e0, _, w0⟩ := DataW.trod_int Tryz.underlying3 g0
      obtain ⟨z1, e1, _, w1⟩ := DataW.trod_int Tryz.underlying3 g1
      injection e0 with e0
      injection e1 with e1
      rw [e0, e1]
      exact ⟨rfl, rfl, w0, w1⟩
    refine ⟨some a, m, (List.range len).map fun i => (numV (V0 i), numV (V1 i)), by simp, by simp; omega, by simp; omega, hm, ?_, ?_⟩
    · intro h0
      simp only [List.length_map, List.length_range] at h0
      obtain ⟨b, off, spot⟩ := a
      have g0 := (hcell 0 (by omega)).1
      have hspot : spot = none := by simpa [Addr.add] using World.cell?_spot g0
      subst hspot
      refine ⟨b, off, rfl, ?_, fun i hi => ?_⟩
      · rw [add_plain] at g0
        rcases Nat.lt_or_ge b W.heap.size with hlt | hge
        · exact hlt
        · simp [World.cell?, Array.getElem?_eq_none hge] at g0
      · simp only [List.length_map, List.length_range] at hi
        obtain ⟨g1, g2, _, _⟩ := hcell i (by omega)
        obtain ⟨e1, e2, _, _⟩ := hval i hi
        rw [add_plain] at g1 g2
        rw [show off + i * 2 + 1 = off + (i * 2 + 1) by omega, g1, g2, e1, e2]
        simp [List.getD, hi, numV]
    · intro z hz
      obtain ⟨i, hi, rfl⟩ := List.mem_map.1 hz
      have hi2 := List.mem_range.1 hi
      obtain ⟨_, _, w0, w1⟩ := hval i hi2
      exact ⟨w0, w1⟩
end Go.Proofs.YtmnigdphikoljaaGreatDoor
namespace Go.Proofs.YtmnigdphikoljaaGreatDoor
open Go.Joins Go.ChangeShapes Go.WideShapes Go.ChangeAt Go.RowKit Go.Deep

variable {H : Type} {enc : TypeId × Value → H} {W : World}
theorem lt_of_cell {w : World} {b o : Nat} {v : Value} (h : w.cell? ⟨b, o, none⟩ = some v) : b < w.heap.size := by
  rcases Nat.lt_or_ge b w.heap.size with hlt | hge
  · exact hlt
  · simp [World.cell?, Array.getElem?_eq_none hge] at h
/-- A struct by value whose fields are one cell each: each field's cell and what it is. -/
theorem open_fields {P : Program} {r : Reach} {b0 : Nat} {t : TypeId} {fs : Array Field} {v : Value} {d : DataW H} {p : List MemPlace} (hs : P.underlying t = some (.struct fs)) (hone : oneCellFields P fs = true) (hC : P.cellsOf t = fs.size)
    (hv : Value.okWide P W r b0 t v) (h : DataW.Trod enc P W 0 (fun _ => true) true t v d p) :
    ∃ (cs : Array Value) (n : Nat), v = .agg cs ∧ cs.size = fs.size ∧ ∀ (j : Nat) (f : Field), fs[j]? = some f → ∃ u y, cs[j]? = some u ∧ DataW.trod enc P W 0 (fun _ => true) true n f.type [u] = some y := by
  obtain ⟨cs, rfl, hsz⟩ := okWide_struct hs hv
  obtain ⟨fuel, hf⟩ := h
  obtain ⟨xs, n, _, _, _, hlen, hg⟩ := DataW.trod_struct hs hf
  refine ⟨cs, n, rfl, hsz.trans hC, fun j f hj => ?_⟩
  obtain ⟨ho, hk⟩ := hone_of hone j f hj
  have hjl : j < fs.size := (Array.getElem?_eq_some_iff.1 hj).1
  have hjc : j < cs.toList.length := by
    have := hsz.trans hC
    simp; omega
  have h1 := hg j f hj
  rw [ho, hk] at h1
  have h2 : ((Value.agg cs).cells.toList.drop j).take 1 = [cs.toList.getD j undef] := take1_drop cs.toList j undef hjc
  rw [h2] at h1
  have hx : xs[j]? = some (xs[j]'(by omega)) := List.getElem?_eq_getElem (by omega)
  exact ⟨_, _, by simp [List.getD, show j < cs.size by simpa using hjc], h1.trans hx⟩
end Go.Proofs.YtmnigdphikoljaaGreatDoor
namespace Go.Proofs.YtmnigdphikoljaaGreatDoor
open Go.Joins Go.ChangeShapes Go.WideShapes Go.ChangeAt Go.RowKit Go.Deep

variable {H : Type} {enc : TypeId × Value → H} {W : World}
/-- Nothing that is met in the datum is larger than may be. -/
def Wt (P : Program) (t : TypeId) (d : DataW H) : Prop := ∀ n ∈ d.weights P t, n ≤ reachBytes
theorem wt_arg {P : Program} {ts : List TypeId} {ds : List (DataW H)} (h : (DataW.weightsEach P ts ds).all (· ≤ reachBytes) = true) {j : Nat} {t : TypeId} {d : DataW H} (ht : ts[j]? = some t) (hd : ds[j]? = some d) : Wt P t d := fun n hn => by
  have := List.all_eq_true.1 h _ (DataW.weights_mem_each ht hd n hn)
  simpa using this
theorem wt_part {P : Program} {t : TypeId} {fs : Array Field} {xs : List (DataW H × List MemPlace)} (hs : P.underlying t = some (.struct fs)) (h : Wt P t (.agg (xs.map (·.1)))) {j : Nat} {f : Field} {y : DataW H × List MemPlace} (hf : fs[j]? = some f) (hy : xs[j]? = some y) : Wt P f.type y.1 := fun n hn => by
  refine h n ?_
  simp only [DataW.weights, hs]
  exact DataW.weights_mem_each (j := j) (t := f.type) (d := y.1) (by simp [hf]) (by simp [hy]) n hn
theorem wt_all {P : Program} {e : TypeId} : ∀ {l : List (DataW H)} {d : DataW H}, d ∈ l → ∀ n ∈ d.weights P e, n ∈ DataW.weightsAll P e l
  | x :: l, d, hd, n, hn => by
    simp only [DataW.weightsAll, List.mem_append]
    rcases List.mem_cons.1 hd with rfl | hd
    · exact .inl hn
    · exact .inr (wt_all hd n hn)
theorem wt_elem {P : Program} {t e : TypeId} {l r : List (DataW H)} (hs : P.underlying t = some (.slice e)) (h : Wt P t (.slice l r)) {d : DataW H} (hd : d ∈ l) : Wt P e d := fun n hn => by
  refine h n ?_
  simp only [DataW.weights, hs, List.mem_cons, List.mem_append]
  exact .inr (.inl (wt_all hd n hn))
theorem wt_len {P : Program} {t e : TypeId} {l r : List (DataW H)} (hs : P.underlying t = some (.slice e)) (h : Wt P t (.slice l r)) : l.length * P.bytesOf e ≤ reachBytes := by
  have := h ((l.length + r.length) * P.bytesOf e) (by simp [DataW.weights, hs])
  exact Nat.le_trans (Nat.mul_le_mul_right _ (Nat.le_add_right _ _)) this

/-- A struct by value whose fields are one cell each: each field's cell, what it is, and that nothing in it is too large. -/
theorem open_fields_w {P : Program} {r : Reach} {b0 : Nat} {t : TypeId} {fs : Array Field} {v : Value} {d : DataW H} {p : List MemPlace} (hs : P.underlying t = some (.struct fs)) (hone : oneCellFields P fs = true) (hC : P.cellsOf t = fs.size)
    (hv : Value.okWide P W r b0 t v) (h : DataW.Trod enc P W 0 (fun _ => true) true t v d p) (hw : Wt P t d) :
    ∃ (cs : Array Value) (n : Nat), v = .agg cs ∧ cs.size = fs.size ∧ ∀ (j : Nat) (f : Field), fs[j]? = some f → ∃ u y, cs[j]? = some u ∧ DataW.trod enc P W 0 (fun _ => true) true n f.type [u] = some y ∧ Wt P f.type y.1 := by
  obtain ⟨cs, rfl, hsz⟩ := okWide_struct hs hv
  obtain ⟨fuel, hf⟩ := h
  obtain ⟨xs, n, _, hx, _, hlen, hg⟩ := DataW.trod_struct hs hf
  refine ⟨cs, n, rfl, hsz.trans hC, fun j f hj => ?_⟩
  obtain ⟨ho, hk⟩ := hone_of hone j f hj
  have hjl : j < fs.size := (Array.getElem?_eq_some_iff.1 hj).1
  have hjc : j < cs.toList.length := by
    have := hsz.trans hC
    simp; omega
  have h1 := hg j f hj
  rw [ho, hk] at h1
  have h2 : ((Value.agg cs).cells.toList.drop j).take 1 = [cs.toList.getD j undef] := take1_drop cs.toList j undef hjc
  rw [h2] at h1
  have hxj : xs[j]? = some (xs[j]'(by omega)) := List.getElem?_eq_getElem (by omega)
  injection hx with hx1 hx2
  subst hx1
  exact ⟨_, _, by simp [List.getD, show j < cs.size by simpa using hjc], h1.trans hxj, wt_part hs hw hj hxj⟩

/-- A slice of structs whose fields are one cell each. -/
theorem open_structs {P : Program} {t e : TypeId} {fs : Array Field} {n : Nat} {v : Value} {x : DataW H × List MemPlace} (ht : P.underlying t = some (.slice e)) (he : P.underlying e = some (.struct fs)) (hone : oneCellFields P fs = true) (hC : P.cellsOf e = fs.size) (h0 : 0 < fs.size)
    (h : DataW.trod enc P W 0 (fun _ => true) true n t [v] = some x) (hw : Wt P t x.1) :
    ∃ (A : Option Addr) (len c : Nat), v = .slice A len c ∧ len * P.bytesOf e ≤ reachBytes ∧ len ≤ c ∧ c ≤ maxLen ∧ (A = none → c = 0) ∧ (0 < len → ∃ b off, A = some ⟨b, off, none⟩ ∧ b < W.heap.size ∧
      ∀ i, i < len → ∀ (j : Nat) (f : Field), fs[j]? = some f → ∃ u y m, W.cell? ⟨b, off + i * fs.size + j, none⟩ = some u ∧ DataW.trod enc P W 0 (fun _ => true) true m f.type [u] = some y ∧ Wt P f.type y.1) := by
  rcases open_slice ht h with ⟨hcs, hx⟩ | ⟨a, len, cap, m, n, D, Pl, hcs, _, hl, hm, hmm, hx, hcell⟩
  · injection hcs with hcs
    exact ⟨none, 0, 0, hcs, by simp, Nat.le_refl _, Nat.zero_le _, fun _ => rfl, fun h => absurd h (by simp)⟩
  · injection hcs with hcs
    simp only [if_true] at hmm
    subst hx
    have hlen := wt_len ht hw
    simp only [List.length_map, List.length_range] at hlen
    obtain ⟨b, off, spot⟩ := a
    have field : ∀ i, i < len → ∀ (j : Nat) (f : Field), fs[j]? = some f → ∃ u y m, W.cell? ((Addr.mk b off spot).add (i * fs.size + j)) = some u ∧ DataW.trod enc P W 0 (fun _ => true) true m f.type [u] = some y ∧ Wt P f.type y.1 := by
      intro i hi j f hj
      obtain ⟨cs, h1, h2⟩ := hcell i (by omega)
      obtain ⟨_, hcl, hcc⟩ := World.cells?_some h1
      obtain ⟨xs, n2, _, hx2, _, hxl, hg⟩ := DataW.trod_struct he h2
      obtain ⟨ho, hk⟩ := hone_of hone j f hj
      have hjl : j < fs.size := (Array.getElem?_eq_some_iff.1 hj).1
      have h3 := hg j f hj
      rw [ho, hk, take1_drop cs j undef (by omega)] at h3
      have hxj : xs[j]? = some (xs[j]'(by omega)) := List.getElem?_eq_getElem (by omega)
      injection hx2 with hx3 hx4
      have hwe : Wt P e (.agg (xs.map (·.1))) := by
        rw [← hx3]
        exact wt_elem ht hw (List.mem_map.2 ⟨i, List.mem_range.2 hi, rfl⟩)
      refine ⟨_, _, n2, ?_, h3.trans hxj, wt_part he hwe hj hxj⟩
      have h4 := hcc j (by omega)
      rw [add_add, hC] at h4
      rw [h4]
      simp [List.getD, List.getElem?_eq_getElem (show j < cs.length by omega)]
    refine ⟨some ⟨b, off, spot⟩, len, cap, hcs, hlen, hl, hm, (fun h => by cases h), fun hp => ?_⟩
    obtain ⟨f0, hf0⟩ : ∃ f, fs[0]? = some f := ⟨fs[0]'h0, Array.getElem?_eq_getElem h0⟩
    obtain ⟨u, _, _, g0, _, _⟩ := field 0 hp 0 f0 hf0
    have hspot : spot = none := by simpa [Addr.add] using World.cell?_spot g0
    subst hspot
    rw [add_plain] at g0
    refine ⟨b, off, rfl, lt_of_cell g0, fun i hi j f hj => ?_⟩
    obtain ⟨u, y, m2, g1, g2, g3⟩ := field i hi j f hj
    rw [add_plain] at g1
    exact ⟨u, y, m2, by rw [Nat.add_assoc]; exact g1, g2, g3⟩

theorem int_cell {t : TypeId} (ht : Tryz.prog.underlying t = some (.int .i64)) {m : Nat} {u : Value} {y : DataW H × List MemPlace} (h : DataW.trod enc Tryz.prog W 0 (fun _ => true) true m t [u] = some y) : ∃ z : Int, u = .int .i64 z ∧ (Lit.int .i64 z).wf = true := by
  obtain ⟨z, e, _, w⟩ := DataW.trod_int ht h
  injection e with e
  exact ⟨z, e, w⟩
theorem string_cell {t : TypeId} (ht : Tryz.prog.underlying t = some .string) {m : Nat} {u : Value} {y : DataW H × List MemPlace} (h : DataW.trod enc Tryz.prog W 0 (fun _ => true) true m t [u] = some y) (hw : Wt Tryz.prog t y.1) : ∃ s : ByteArray, u = .string s ∧ s.size ≤ reachBytes := by
  obtain ⟨s, e, hy, _⟩ := DataW.trod_string ht h
  injection e with e
  refine ⟨s, e, ?_⟩
  subst hy
  have := hw s.data.toList.length (by simp [DataW.weights])
  simpa using this
theorem slice_cell {t e : TypeId} (ht : Tryz.prog.underlying t = some (.slice e)) {m : Nat} {u : Value} {y : DataW H × List MemPlace} (h : DataW.trod enc Tryz.prog W 0 (fun _ => true) true m t [u] = some y) : ∃ A l c, u = .slice A l c := by
  rcases open_slice ht h with ⟨hcs, _⟩ | ⟨a, len, cap, m, n, D, Pl, hcs, _⟩
  · injection hcs with hcs
    exact ⟨_, _, _, hcs⟩
  · injection hcs with hcs
    exact ⟨_, _, _, hcs⟩
end Go.Proofs.YtmnigdphikoljaaGreatDoor
namespace Go.Proofs.YtmnigdphikoljaaGreatDoor
open Go.Joins Go.ChangeShapes Go.WideShapes Go.ChangeAt Go.RowKit Go.Deep

variable {H : Type} {enc : TypeId × Value → H} {W : World}
theorem getD_range {α : Type} [Inhabited α] (R : Nat → α) {len i : Nat} (d : α) (h : i < len) : ((List.range len).map R).getD i d = R i := by simp [List.getD, h]
set_option maxRecDepth 100000 in
theorem open_sa {n : Nat} {v : Value} {x : DataW H × List MemPlace} (h : DataW.trod enc Tryz.prog W 0 (fun _ => true) true n 23 [v] = some x) (hw : Wt Tryz.prog 23 x.1) : ∃ A c l, v = .slice A l.length c ∧ l.length ≤ 1000000000000000 ∧ SA W A l := by
  obtain ⟨A, len, c, rfl, hb, hc, hm, hn, hg⟩ := open_structs Tryz.underlying23 Tryz.underlying101 (by kernel_rfl) (by kernel_rfl) (by decide) h hw
  rw [show Tryz.prog.bytesOf 101 = 24 by kernel_rfl] at hb
  have hrb := reachBytes_lt
  by_cases h0 : 0 < len
  · obtain ⟨b, off, rfl, hlt, hf⟩ := hg h0
    obtain ⟨R, hR⟩ := choose_lt (α := Int) (n := len) (p := fun i r => ∃ s : ByteArray, W.cell? ⟨b, off + i * 2, none⟩ = some (.string s) ∧ W.cell? ⟨b, off + i * 2 + 1, none⟩ = some (.int .i64 r)) (fun i hi => by
      obtain ⟨u0, y0, m0, g0, t0, w0⟩ := hf i hi 0 _ rfl
      obtain ⟨u1, y1, m1, g1, t1, w1⟩ := hf i hi 1 _ rfl
      obtain ⟨s, rfl, _⟩ := string_cell Tryz.underlying9 t0 w0
      obtain ⟨z, rfl, _⟩ := int_cell Tryz.underlying3 t1
      exact ⟨z, s, g0, g1⟩)
    refine ⟨_, c, (List.range len).map R, by simp, by simp; omega, fun _ => ⟨b, off, rfl, hlt, fun i hi => ?_⟩⟩
    simp only [List.length_map, List.length_range] at hi
    rw [getD_range R 0 hi]
    exact hR i hi
  · obtain rfl : len = 0 := by omega
    exact ⟨A, c, [], rfl, by simp, fun h => absurd h (by simp)⟩
set_option maxRecDepth 100000 in
theorem open_va {n : Nat} {v : Value} {x : DataW H × List MemPlace} (h : DataW.trod enc Tryz.prog W 0 (fun _ => true) true n 24 [v] = some x) (hw : Wt Tryz.prog 24 x.1) : ∃ A c l, v = .slice A l.length c ∧ l.length ≤ 1000000000000000 ∧ VA W A l := by
  obtain ⟨A, len, c, rfl, hb, hc, hm, hn, hg⟩ := open_structs Tryz.underlying24 Tryz.underlying79 (by kernel_rfl) (by kernel_rfl) (by decide) h hw
  rw [show Tryz.prog.bytesOf 79 = 56 by kernel_rfl] at hb
  have hrb := reachBytes_lt
  by_cases h0 : 0 < len
  · obtain ⟨b, off, rfl, hlt, hf⟩ := hg h0
    obtain ⟨R, hR⟩ := choose_lt (α := Int × Int) (n := len) (p := fun i r => ∃ (s : ByteArray) (p q t : Int), W.cell? ⟨b, off + i * 6, none⟩ = some (.string s) ∧ W.cell? ⟨b, off + i * 6 + 1, none⟩ = some (.int .i64 r.1) ∧ W.cell? ⟨b, off + i * 6 + 2, none⟩ = some (.int .i64 r.2) ∧ W.cell? ⟨b, off + i * 6 + 3, none⟩ = some (.int .i64 p) ∧ W.cell? ⟨b, off + i * 6 + 4, none⟩ = some (.int .i64 q) ∧ W.cell? ⟨b, off + i * 6 + 5, none⟩ = some (.int .i64 t)) (fun i hi => by
      obtain ⟨u0, y0, m0, g0, t0, w0⟩ := hf i hi 0 _ rfl
      obtain ⟨u1, y1, m1, g1, t1, w1⟩ := hf i hi 1 _ rfl
      obtain ⟨u2, y2, m2, g2, t2, w2⟩ := hf i hi 2 _ rfl
      obtain ⟨u3, y3, m3, g3, t3, w3⟩ := hf i hi 3 _ rfl
      obtain ⟨u4, y4, m4, g4, t4, w4⟩ := hf i hi 4 _ rfl
      obtain ⟨u5, y5, m5, g5, t5, w5⟩ := hf i hi 5 _ rfl
      obtain ⟨s, rfl, _⟩ := string_cell Tryz.underlying9 t0 w0
      obtain ⟨z1, rfl, _⟩ := int_cell Tryz.underlying3 t1
      obtain ⟨z2, rfl, _⟩ := int_cell Tryz.underlying3 t2
      obtain ⟨z3, rfl, _⟩ := int_cell Tryz.underlying3 t3
      obtain ⟨z4, rfl, _⟩ := int_cell Tryz.underlying3 t4
      obtain ⟨z5, rfl, _⟩ := int_cell Tryz.underlying3 t5
      exact ⟨(z1, z2), s, z3, z4, z5, g0, g1, g2, g3, g4, g5⟩)
    refine ⟨_, c, (List.range len).map R, by simp, by simp; omega, fun _ => ⟨b, off, rfl, hlt, fun i hi => ?_⟩⟩
    simp only [List.length_map, List.length_range] at hi
    rw [getD_range R (0, 0) hi]
    exact hR i hi
  · obtain rfl : len = 0 := by omega
    exact ⟨A, c, [], rfl, by simp, fun h => absurd h (by simp)⟩
set_option maxRecDepth 100000 in
theorem open_ca {n : Nat} {v : Value} {x : DataW H × List MemPlace} (h : DataW.trod enc Tryz.prog W 0 (fun _ => true) true n 25 [v] = some x) (hw : Wt Tryz.prog 25 x.1) : ∃ A c l, v = .slice A l.length c ∧ l.length ≤ 1000000000000000 ∧ CA W A l := by
  obtain ⟨A, len, c, rfl, hb, hc, hm, hn, hg⟩ := open_structs Tryz.underlying25 Tryz.underlying96 (by kernel_rfl) (by kernel_rfl) (by decide) h hw
  rw [show Tryz.prog.bytesOf 96 = 56 by kernel_rfl] at hb
  have hrb := reachBytes_lt
  by_cases h0 : 0 < len
  · obtain ⟨b, off, rfl, hlt, hf⟩ := hg h0
    obtain ⟨R, hR⟩ := choose_lt (α := Int) (n := len) (p := fun i r => ∃ (s : ByteArray) (p q t : Int) (z : Bool), W.cell? ⟨b, off + i * 6, none⟩ = some (.string s) ∧ W.cell? ⟨b, off + i * 6 + 1, none⟩ = some (.int .i64 r) ∧ W.cell? ⟨b, off + i * 6 + 2, none⟩ = some (.int .i64 p) ∧ W.cell? ⟨b, off + i * 6 + 3, none⟩ = some (.int .i64 q) ∧ W.cell? ⟨b, off + i * 6 + 4, none⟩ = some (.int .i64 t) ∧ W.cell? ⟨b, off + i * 6 + 5, none⟩ = some (.bool z)) (fun i hi => by
      obtain ⟨u0, y0, m0, g0, t0, w0⟩ := hf i hi 0 _ rfl
      obtain ⟨u1, y1, m1, g1, t1, w1⟩ := hf i hi 1 _ rfl
      obtain ⟨u2, y2, m2, g2, t2, w2⟩ := hf i hi 2 _ rfl
      obtain ⟨u3, y3, m3, g3, t3, w3⟩ := hf i hi 3 _ rfl
      obtain ⟨u4, y4, m4, g4, t4, w4⟩ := hf i hi 4 _ rfl
      obtain ⟨u5, y5, m5, g5, t5, w5⟩ := hf i hi 5 _ rfl
      obtain ⟨s, rfl, _⟩ := string_cell Tryz.underlying9 t0 w0
      obtain ⟨z1, rfl, _⟩ := int_cell Tryz.underlying3 t1
      obtain ⟨z2, rfl, _⟩ := int_cell Tryz.underlying3 t2
      obtain ⟨z3, rfl, _⟩ := int_cell Tryz.underlying3 t3
      obtain ⟨z4, rfl, _⟩ := int_cell Tryz.underlying3 t4
      obtain ⟨z5, e5, _⟩ := DataW.trod_bool Tryz.underlying4 t5
      injection e5 with e5
      subst e5
      exact ⟨z1, s, z2, z3, z4, z5, g0, g1, g2, g3, g4, g5⟩)
    refine ⟨_, c, (List.range len).map R, by simp, by simp; omega, fun _ => ⟨b, off, rfl, hlt, fun i hi => ?_⟩⟩
    simp only [List.length_map, List.length_range] at hi
    rw [getD_range R 0 hi]
    exact hR i hi
  · obtain rfl : len = 0 := by omega
    exact ⟨A, c, [], rfl, by simp, fun h => absurd h (by simp)⟩
set_option maxRecDepth 100000 in
theorem open_qa {n : Nat} {v : Value} {x : DataW H × List MemPlace} (h : DataW.trod enc Tryz.prog W 0 (fun _ => true) true n 26 [v] = some x) (hw : Wt Tryz.prog 26 x.1) : ∃ A c l, v = .slice A l.length c ∧ l.length ≤ 1000000000000000 ∧ QA W A l := by
  obtain ⟨A, len, c, rfl, hb, hc, hm, hn, hg⟩ := open_structs Tryz.underlying26 Tryz.underlying99 (by kernel_rfl) (by kernel_rfl) (by decide) h hw
  rw [show Tryz.prog.bytesOf 99 = 80 by kernel_rfl] at hb
  have hrb := reachBytes_lt
  by_cases h0 : 0 < len
  · obtain ⟨b, off, rfl, hlt, hf⟩ := hg h0
    obtain ⟨R, hR⟩ := choose_lt (α := Int) (n := len) (p := fun i r => ∃ (s : ByteArray) (p : Int) (A1 A2 : Option Addr) (m1 d1 m2 d2 : Nat), W.cell? ⟨b, off + i * 5, none⟩ = some (.string s) ∧ W.cell? ⟨b, off + i * 5 + 1, none⟩ = some (.int .i64 p) ∧ W.cell? ⟨b, off + i * 5 + 2, none⟩ = some (.int .i64 r) ∧ W.cell? ⟨b, off + i * 5 + 3, none⟩ = some (.slice A1 m1 d1) ∧ W.cell? ⟨b, off + i * 5 + 4, none⟩ = some (.slice A2 m2 d2)) (fun i hi => by
      obtain ⟨u0, y0, m0, g0, t0, w0⟩ := hf i hi 0 _ rfl
      obtain ⟨u1, y1, m1, g1, t1, w1⟩ := hf i hi 1 _ rfl
      obtain ⟨u2, y2, m2, g2, t2, w2⟩ := hf i hi 2 _ rfl
      obtain ⟨u3, y3, m3, g3, t3, w3⟩ := hf i hi 3 _ rfl
      obtain ⟨u4, y4, m4, g4, t4, w4⟩ := hf i hi 4 _ rfl
      obtain ⟨s, rfl, _⟩ := string_cell Tryz.underlying9 t0 w0
      obtain ⟨z1, rfl, _⟩ := int_cell Tryz.underlying3 t1
      obtain ⟨z2, rfl, _⟩ := int_cell Tryz.underlying3 t2
      obtain ⟨A1, l1, c1, rfl⟩ := slice_cell Tryz.underlying24 t3
      obtain ⟨A2, l2, c2, rfl⟩ := slice_cell Tryz.underlying97 t4
      exact ⟨z2, s, z1, A1, A2, l1, c1, l2, c2, g0, g1, g2, g3, g4⟩)
    refine ⟨_, c, (List.range len).map R, by simp, by simp; omega, fun _ => ⟨b, off, rfl, hlt, fun i hi => ?_⟩⟩
    simp only [List.length_map, List.length_range] at hi
    rw [getD_range R 0 hi]
    exact hR i hi
  · obtain rfl : len = 0 := by omega
    exact ⟨A, c, [], rfl, by simp, fun h => absurd h (by simp)⟩

set_option maxRecDepth 100000 in
/-- A scope that came in: argument j. -/
theorem open_scope_arg {base : Nat} {v : Value} {d : DataW H} {ps : List MemPlace} (hv : Value.okWide Tryz.prog W .any base 28 v) (h : DataW.Trod enc Tryz.prog W 0 (fun _ => true) true 28 v d ps)
    {ts : List TypeId} {ds : List (DataW H)} (hsz : (DataW.weightsEach Tryz.prog ts ds).all (· ≤ reachBytes) = true) (j : Nat) (htj : ts[j]? = some 28) (hdj : ds[j]? = some d) :
    ∃ (X : ScX) (S : Sc), v = X.v ∧ SR W X S := by
  obtain ⟨cs, n, rfl, hsz, hf⟩ := open_fields_w Tryz.underlying28 (by kernel_rfl) (by kernel_rfl) hv h (wt_arg hsz htj hdj)
  obtain ⟨u0, y0, g0, t0, w0⟩ := hf 0 _ rfl
  obtain ⟨u1, y1, g1, t1, w1⟩ := hf 1 _ rfl
  obtain ⟨u2, y2, g2, t2, w2⟩ := hf 2 _ rfl
  obtain ⟨u3, y3, g3, t3, w3⟩ := hf 3 _ rfl
  obtain ⟨u4, y4, g4, t4, w4⟩ := hf 4 _ rfl
  obtain ⟨u5, y5, g5, t5, w5⟩ := hf 5 _ rfl
  obtain ⟨A1, c1, z1, rfl, b1, r1⟩ := open_sa t0 w0
  obtain ⟨A2, c2, z2, rfl, b2, r2⟩ := open_va t1 w1
  obtain ⟨A3, c3, z3, rfl, b3, r3⟩ := open_ca t2 w2
  obtain ⟨A4, c4, z4, rfl, b4, r4⟩ := open_qa t3 w3
  obtain ⟨A5, c5, z5, rfl, b5, r5⟩ := open_va t4 w4
  obtain ⟨z6, rfl, _⟩ := int_cell Tryz.underlying3 t5
  obtain ⟨l⟩ := cs
  match l, hsz with
  | [a, b, c, d, e, f], _ =>
    simp at g0 g1 g2 g3 g4 g5
    subst g0 g1 g2 g3 g4 g5
    exact ⟨⟨A1, A2, A3, A4, A5, z1.length, c1, z2.length, c2, z3.length, c3, z4.length, c4, z5.length, c5, z6⟩, ⟨z1, z2, z3, z4, z5, z6⟩, rfl, rfl, rfl, rfl, rfl, rfl, rfl, b1, r1, r2, r3, r4, r5⟩
end Go.Proofs.YtmnigdphikoljaaGreatDoor
