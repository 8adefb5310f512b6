/- Contracts that the claim stands on, several texts in one: Base, Law, IntRows, ExprPure, ExprOps. -/
import Derived.Test.YtmnigdphikoljaaGreatDoorRows
import Derived.WalkKit
import Derived.ProofKit
import Derived.OpenShut
import Derived.Handy
import Derived.Below
import Derived.Outline
import Derived.RegionTactic
import Derived.ChangeAlike
import Derived.Deep.QuietTactic
import Derived.BigQuiet
import Derived.Lib.Hide
import Derived.WalkSpells
import Derived.StillTailTactics
import Derived.Deep.OwnRows
import Derived.Carry
import Derived.SizedLaws
import Derived.Maps.AppendAt
import Derived.Deep.AppendLies
import Derived.Laws.OwnMore
import Derived.Laws.AppendOwnNone
import Derived.Laws.EntriesVeiled
import Derived.Deep.RegionWith
namespace Go.Proofs.YtmnigdphikoljaaGreatDoor
open Go.ChangeShapes Go.WideShapes Go.ChangeAt Go.RowKit

/-- A region whose first n operations only read, and whose others stand in one order: the draw's world under a name of its own. -/
theorem still_tail_at {P : Program} {id : Nat} {Q : Exit → Act → World → Prop} {a : Act} {w : World} {l : List Oper} (n : Nat) (hm : P.follows .mixedOrders = true) (hB : Region.lexTailB .any l.toArray n = true)
    (h : ∀ W, W = w.drew → wpStill P l.toArray W (fun a' => wpList P l.toArray Q (l.drop n) a' W) (l.take n) a) : (Code.region id l.toArray true).wp P Q a w := wp_region_still_tail n hm hB (h _ rfl)

/-- A slice of ints at address A (nil let in) reads as zs. -/
def IA (w : World) (A : Option Addr) (zs : List Int) : Prop :=
  0 < zs.length → ∃ b off, A = some ⟨b, off, none⟩ ∧ b < w.heap.size ∧ ∀ i, i < zs.length → w.cell? ⟨b, off + i, none⟩ = some (.int .i64 (zs.getD i 0))

/-- All numbers are ints of 64 bits. -/
def W64 (zs : List Int) : Prop := ∀ z ∈ zs, -9223372036854775808 ≤ z ∧ z ≤ 9223372036854775807

theorem W64.at_ {zs : List Int} (h : W64 zs) (i : Nat) : -9223372036854775808 ≤ zs.getD i 0 ∧ zs.getD i 0 ≤ 9223372036854775807 := by
  by_cases hi : i < zs.length
  · have e : zs.getD i 0 = zs[i] := by simp [List.getD, hi]
    rw [e]; exact h _ (List.getElem_mem hi)
  · have e : zs.getD i 0 = 0 := by simp [List.getD, hi]
    rw [e]; omega

theorem IA.keep {w w' : World} {A : Option Addr} {zs : List Int} (h : IA w A zs) (hs : w.heap.size ≤ w'.heap.size) (hk : ∀ p : Addr, p.block < w.heap.size → w'.cell? p = w.cell? p) : IA w' A zs := fun hn => by
  obtain ⟨b, off, e, hb, hc⟩ := h hn
  exact ⟨b, off, e, Nat.lt_of_lt_of_le hb hs, fun i hi => (hk ⟨b, off + i, none⟩ hb).trans (hc i hi)⟩
theorem IA.below {w w' : World} {A : Option Addr} {zs : List Int} (h : IA w A zs) (hb : Below w.heap.size w w') : IA w' A zs := h.keep hb.size fun _ hp => hb.cell hp
theorem IA.nil (w : World) (A : Option Addr) : IA w A [] := fun h => absurd h (by simp)
theorem IA.drewN {w : World} {A : Option Addr} {zs : List Int} (h : IA w A zs) (n : Nat) : IA (w.drewN n) A zs := h

theorem IA.alloc {w : World} {A : Option Addr} {zs : List Int} (h : IA w A zs) (o : Obj) : IA (w.alloc o) A zs := h.below ((Below.refl _ _).alloc (Nat.le_refl _) _)
theorem ia_lit (w : World) (zs : List Int) (c : Array Value) (t : TypeId) (hc : c = (zs.map (Value.int .i64)).toArray) : IA (w.alloc (.cells c t)) (some ⟨w.heap.size, 0, none⟩) zs := fun _ => by
  have h := World.rowIs_alloc w c t (fun i => .int .i64 (zs.getD i 0)) (fun i hi => by subst hc; simp at hi; simp [List.getD, hi])
  refine ⟨_, 0, rfl, h.lt, fun i hi => ?_⟩
  have := h.cell (i := i) (by subst hc; simpa using hi)
  rw [Nat.zero_add]; exact this

theorem ret_bool {a b : Bool} (h : a = b) : Ending.returned (.bool a) = .returned (.bool b) := by rw [h]
theorem ret_int {a b : Int} (h : a = b) : Ending.returned (.int .i64 a) = .returned (.int .i64 b) := by rw [h]
theorem below_drewN {B : Nat} {a w : World} (h : Below B a w) (n : Nat) : Below B a (w.drewN n) := ⟨h.os, h.tape, h.output, h.size, h.block⟩
end Go.Proofs.YtmnigdphikoljaaGreatDoor
namespace Go.Proofs.YtmnigdphikoljaaGreatDoor
open Go.ChangeShapes Go.WideShapes Go.ChangeAt Go.RowKit

theorem Tryz.own : ownKnob Tryz.prog.godebug = none := by kernel_rfl
theorem Tryz.laidOut : laidOutB Tryz.prog = true := by kernel_rfl

theorem trodAll_stays {H : Type} {enc : TypeId × Value → H} {W W' : World} (hb : Below W.heap.size W W') {sp : Nat → Bool} :
    ∀ {ts : List TypeId} {vs : List Value} {ds : List (DataW H)} {ps : List MemPlace}, (∀ t ∈ ts, Tryz.prog.readableRec t = true ∧ t < Tryz.prog.types.size) → DataW.TrodAll enc Tryz.prog W 0 (fun _ => true) true ts vs ds ps →
      (∀ x ∈ ps, x.block < W.heap.size) → (∀ x ∈ ps, sp x.block = true) → DataW.TrodAll enc Tryz.prog W' 0 sp true ts vs ds ps
  | [], [], [], _, _, h, _, _ => h
  | [], [], _ :: _, _, _, h, _, _ => h.elim
  | [], _ :: _, _, _, _, h, _, _ => h.elim
  | _ :: _, [], _, _, _, h, _, _ => h.elim
  | _ :: _, _ :: _, [], _, _, h, _, _ => h.elim
  | t :: ts, v :: vs, d :: ds, ps, hr, h, hlt, hsp => by
    obtain ⟨p, q, h1, h2, rfl⟩ := h
    have ht := hr t (by simp)
    exact ⟨p, q, WideElems.Trod_stays Tryz.laidOut ht.1 ht.2 h1 (fun x hx => hb.same (hlt x (by simp [hx]))) (fun x hx => hsp x (by simp [hx])),
      trodAll_stays hb (fun t ht => hr t (by simp [ht])) h2 (fun x hx => hlt x (by simp [hx])) (fun x hx => hsp x (by simp [hx])), rfl⟩

theorem trodAll_lengths {H : Type} {enc : TypeId × Value → H} {P : Program} {W : World} {b : Nat} {sp : Nat → Bool} {hd : Bool} : ∀ {ts : List TypeId} {vs : List Value} {ds : List (DataW H)} {ps : List MemPlace}, DataW.TrodAll enc P W b sp hd ts vs ds ps → ds.length = ts.length
  | [], [], [], _, _ => rfl
  | [], [], _ :: _, _, h => h.elim
  | [], _ :: _, _, _, h => h.elim
  | _ :: _, [], _, _, h => h.elim
  | _ :: _, _ :: _, [], _, h => h.elim
  | _ :: ts, _ :: vs, _ :: ds, _, h => by
    obtain ⟨p, q, _, h2, _⟩ := h
    simp [trodAll_lengths h2]

/-- What a law's call leaves. -/
def LawPost (W : World) (e : Ending) (W' : World) : Prop := e = .returned (.bool true) ∧ Below W.heap.size W W'

set_option maxRecDepth 100000 in
theorem law_lifted {os : Os} (started : os.Started) {H : Type} {enc : TypeId × Value → H} {f : FuncId} {fn : Func} {s : ChangeSpec} (ts : List TypeId) (hs : s.vars = []) (noInit : Tryz.prog.inits.idxOf? f = none) (hfn : Tryz.prog.funcs[f]? = some fn)
    (hts0 : fn.params.toList = ts) (hts : ∀ t ∈ ts, Tryz.prog.readableRec t = true ∧ t < Tryz.prog.types.size) (hrt : fn.resultTypes = #[4])
    (hspec : ∀ ds : List (DataW H), ds.length = ts.length → s.fn H ds = { results := [.lit (.bool true)], args := ds })
    (witness : ∃ (w : World) (tape : Tape) (i : Input), w.os = os ∧ (w.forCall tape i).Shaped Tryz.checked.prog ∧ i.vars = [] ∧ Input.okWide Tryz.checked.prog (w.forCall tape i) .any w.heap.size f i ∧
      s.pre6 enc Tryz.checked.prog fn [] false (w.forCall tape i).memory i.args ∧ ({} : Assume).holds Tryz.checked.prog (lone (Frame.enter Tryz.checked.prog f i.args .normal) [] (w.forCall tape i)))
    (contract : ∀ (W : World) (base : Nat) (args : Array Value) (ds : List (DataW H)) (ps : List MemPlace),
      (∀ (j : Nat) t v, ts[j]? = some t → args[j]? = some v → Value.okWide Tryz.prog W .any base t v) →
      DataW.TrodAll enc Tryz.prog W 0 (fun _ => true) true ts args.toList ds ps → (∀ p ∈ ps, p.block < W.heap.size) →
      (DataW.weightsEach Tryz.prog ts ds).all (· ≤ reachBytes) = true →
      Calls Tryz.prog f args W (LawPost W)) :
    ReturnsInHanded {} Tryz.checked os f .any (s.pre6 enc Tryz.prog fn [] false) (s.post enc Tryz.prog fn false true false false) := by
  refine returnsInHanded_of_change_sized (C := Tryz.checked) Tryz.own started noInit hfn witness ?_
  intro W base args ds gs before hval0 hW _ hsz _
  have hW' := hW
  have hlt := hW.lt
  obtain ⟨p, q, hA0, hV, rfl, hfz, hnd⟩ := hW
  rw [hs] at hV
  obtain ⟨rfl, rfl⟩ := trodVars_none hV
  have hsz' : (DataW.weightsEach Tryz.prog ts ds).all (· ≤ reachBytes) = true := by
    have h := hsz
    simp only [ChangeSpec.plain, DataSpec.varTypes, hs] at h
    show (DataW.weightsEach Tryz.checked.prog ts ds).all (· ≤ reachBytes) = true
    simpa [hts0] using h
  have hval : ∀ (j : Nat) t v, ts[j]? = some t → args[j]? = some v → Value.okWide Tryz.prog W .any base t v := fun j t v h1 h2 => hval0 j t v (by rw [← hts0] at h1; simpa using h1) h2
  have hA : DataW.TrodAll enc Tryz.prog W 0 (fun _ => true) true ts args.toList ds p := by rw [← hts0]; exact hA0
  simp only [List.append_nil] at hW' hlt
  refine (contract W base args ds p hval hA hlt hsz').mono fun e W' ⟨he, hb⟩ => ?_
  subst he
  have hfnx : s.fn H (ds ++ []) = { results := [.lit (.bool true)], args := ds } := by rw [List.append_nil]; exact hspec ds (trodAll_lengths hA)
  refine ⟨_, rfl, ds, [], p, [], p, [], hW', ?_, ?_, ?_, hb.frame _, fun h => by cases h⟩
  · rw [hfnx, hrt]
    exact trodAll_cons_mk (shut_bool Tryz.underlying4 _) trodAll_mk0
  · rw [hfnx]
    have hA1 : DataW.TrodAll enc Tryz.prog W 0 (fun _ => true) true fn.params.toList args.toList ds p := hA0
    exact trodAll_stays hb (by rw [hts0]; exact hts) hA1 hlt (fun x hx => by simpa using hlt x hx)
  · rw [hfnx, hs]
    exact rfl

theorem Tryz.cells3 : Tryz.prog.cellsOf 3 = 1 := by kernel_rfl
theorem Tryz.bytes3 : Tryz.prog.bytesOf 3 = 8 := by kernel_rfl

set_option maxRecDepth 100000 in
/-- A slice of ints that came in: argument j. -/
theorem open_ints_arg {H : Type} {enc : TypeId × Value → H} {W : World} {base : Nat} {v : Value} {d : DataW H} {ps : List MemPlace} (hv : Value.okWide Tryz.prog W .any base 48 v)
    (h : DataW.Trod enc Tryz.prog W 0 (fun _ => true) true 48 v d ps) {ts : List TypeId} {ds : List (DataW H)} (hsz : (DataW.weightsEach Tryz.prog ts ds).all (· ≤ reachBytes) = true) (j : Nat) (htj : ts[j]? = some 48) (hdj : ds[j]? = some d) :
    ∃ (A : Option Addr) (c : Nat) (zs : List Int), v = .slice A zs.length c ∧ 8 * zs.length ≤ 140737488355328 ∧ IA W A zs ∧ W64 zs := by
  obtain ⟨a0, len, cap, rfl⟩ := okWide_slice Tryz.underlying48 hv
  obtain ⟨fuel, hf⟩ := h
  rcases open_ints Tryz.underlying48 Tryz.underlying3 Tryz.cells3 hf with ⟨hcs, hx⟩ | ⟨a, len', cap', zs, hcs, _, hl, hm, hz, hx, hcell, hwz⟩
  · simp [Value.cells] at hcs
    obtain ⟨rfl, rfl, rfl⟩ := hcs
    exact ⟨none, 0, [], rfl, by simp, IA.nil _ _, fun z hz => by simp at hz⟩
  · simp [Value.cells] at hcs
    obtain ⟨rfl, rfl, rfl⟩ := hcs
    simp only [Prod.mk.injEq] at hx
    obtain ⟨rfl, rfl⟩ := hx
    simp only [if_true] at hz
    have hle : len ≤ zs.length := by omega
    have hlen : (zs.take len).length = len := by simp; omega
    have hs := sized_slice hsz htj hdj Tryz.underlying48
    rw [Tryz.bytes3] at hs
    have hrb := reachBytes_lt
    have hs2 : (lits (H := H) .i64 (zs.take len)).length = len := by simp [lits]; omega
    rw [hs2] at hs
    refine ⟨some a, cap, zs.take len, by rw [hlen], by rw [hlen]; omega, ?_, ?_⟩
    · intro h0
      obtain ⟨b, off, spot⟩ := a
      have g0 := hcell 0 (by omega)
      have hspot : spot = none := by simpa [Addr.add] using World.cell?_spot g0
      subst hspot
      have hcell' : ∀ i, i < zs.length → W.cell? ⟨b, off + i, none⟩ = some (.int .i64 (zs.getD i 0)) := fun i hi => by rw [← add_plain]; exact hcell i hi
      refine ⟨b, off, rfl, ?_, fun i hi => ?_⟩
      · have g1 := hcell' 0 (by omega)
        rcases Nat.lt_or_ge b W.heap.size with hlt | hge
        · exact hlt
        · simp [World.cell?, Array.getElem?_eq_none hge] at g1
      · rw [hcell' i (by omega)]
        simp [List.getD, show i < len by omega]
    · intro z hz
      have := hwz z (List.mem_of_mem_take hz)
      have e : IntKind.i64.min = -9223372036854775808 := rfl
      simpa [Lit.wf, e] using this
end Go.Proofs.YtmnigdphikoljaaGreatDoor
namespace Go.Proofs.YtmnigdphikoljaaGreatDoor
open Go.ChangeShapes Go.WideShapes Go.ChangeAt Go.RowKit

theorem Tryz.info3 : (Tryz.prog.info? 3).map (fun i => (i.zero, i.size, i.bytes)) = some (some (.int .i64 0), 1, 8) := by kernel_rfl
theorem IA.at_ {w : World} {A : Option Addr} {l : List Int} (h : IA w A l) {i : Nat} (hi : i < l.length) : ∃ b off, A = some ⟨b, off, none⟩ ∧ b < w.heap.size ∧ w.cell? ⟨b, off + i, none⟩ = some (.int .i64 (l.getD i 0)) := by
  obtain ⟨b, off, e, hb, hc⟩ := h (by omega)
  exact ⟨b, off, e, hb, hc i hi⟩

/-- A slice of ints with its capacity. -/
structure InS (w : World) (A : Option Addr) (c : Nat) (l : List Int) : Prop where
  ia : IA w A l
  le : l.length ≤ c
  max : c ≤ maxLen
  non : A = none → c = 0
/-- What a call leaves that hands back a list. -/
def RowP (w : World) (L : List Int) (e : Ending) (w' : World) : Prop := ∃ A c, e = .returned (.slice A L.length c) ∧ InS w' A c L ∧ Below w.heap.size w w'
theorem RowP.nil {w w' : World} {L : List Int} (h : L = []) (hb : Below w.heap.size w w') : RowP w L (.returned (.slice none 0 0)) w' := by
  subst h
  exact ⟨none, 0, rfl, ⟨IA.nil _ _, Nat.le_refl _, Nat.zero_le _, fun _ => rfl⟩, hb⟩
theorem RowP.made {w w' : World} {L : List Int} {b m : Nat} {t : TypeId} {f : Nat → Value} (hm : m = L.length) (hl : m ≤ 1000000) (hr : w'.rowIs b t m f) (hf : ∀ i, i < m → f i = .int .i64 (L.getD i 0)) (hb : Below w.heap.size w w') :
    RowP w L (.returned (.slice (some ⟨b, 0, none⟩) m m)) w' := by
  subst hm
  refine ⟨_, _, rfl, ⟨fun _ => ⟨b, 0, rfl, hr.lt, fun i hi => ?_⟩, Nat.le_refl _, by unfold maxLen; omega, fun h => by cases h⟩, hb⟩
  have := hr.cell (i := i) hi
  rw [Nat.zero_add, this, hf i hi]

/-- The first k of L, then nothing. -/
def fst (L : List Int) (k j : Nat) : Value := .int .i64 (if j < k then L.getD j 0 else 0)
theorem fst_full {L : List Int} {m : Nat} (i : Nat) (hi : i < m) : fst L m i = .int .i64 (L.getD i 0) := by unfold fst; rw [if_pos hi]

theorem fst_step {L : List Int} {k m : Nat} {x : Int} {w : World} {b : Nat} {t : TypeId} (hr : w.rowIs b t m (fst L k)) (hx : x = L.getD k 0) : (w.setCell ⟨b, k, none⟩ (.int .i64 x)).rowIs b t m (fst L (k + 1)) :=
  (hr.set k _).congr (fun j hj => by
    by_cases hjk : j = k
    · subst hjk; simp only [if_pos, fst]; rw [if_pos (by omega), hx]
    · simp only [if_neg hjk, fst]
      congr 1
      by_cases h2 : j < k
      · rw [if_pos h2, if_pos (by omega)]
      · rw [if_neg h2, if_neg (by omega)])

/-- The slice v is a row of ints of the call's own, from block base on. -/
def OI (base : Nat) (w : World) (v : Value) (l : List Int) : Prop := w.ownsRow base 3 1 v l.length (l.map (Value.int .i64))
theorem OI.form {base : Nat} {w : World} {v : Value} {l : List Int} (h : OI base w v l) : ∃ A c, v = .slice A l.length c ∧ IA w A l := by
  rcases h.2 with ⟨rfl, h0⟩ | ⟨g, cap, cur, rfl, _⟩
  · exact ⟨none, 0, by rw [h0], fun hn => by omega⟩
  · refine ⟨_, cap, rfl, fun hn => ?_⟩
    obtain ⟨g', cap', e, _, hlt⟩ := World.ownsRow.form h hn
    injection e with e1 e2 e3
    injection e1 with e1
    injection e1 with e1
    subst e1
    refine ⟨g, 0, rfl, hlt, fun i hi => ?_⟩
    have := World.ownsRow.cellAt h i (by omega)
    rw [Nat.zero_add, this]
    simp [List.getD, hi]
theorem oi_snoc {base : Nat} {w : World} {v : Value} {l : List Int} {x : Int} (h : w.ownsRow base 3 1 v (l.length + 1) (l.map (Value.int .i64) ++ [.int .i64 x])) : OI base w v (l ++ [x]) := by
  unfold OI
  rw [List.length_append, List.map_append]
  exact h
theorem OI.nil (base : Nat) (w : World) : OI base w (.slice none 0 0) [] := World.ownsRow_nil _ _ _ _
theorem OI.ins {base : Nat} {w : World} {v : Value} {l : List Int} (h : OI base w v l) : ∃ A c, v = .slice A l.length c ∧ InS w A c l ∧ ∀ a, A = some a → base ≤ a.block ∧ a.block < w.heap.size := by
  have hb := World.ownsRow.lt h
  obtain ⟨A, c, e, i⟩ := h.form
  subst e
  refine ⟨A, c, rfl, ?_, fun a e => hb a.block (by rw [e]; rfl)⟩
  rcases h.2 with ⟨e2, h0⟩ | ⟨g2, cap, cur, e2, _, _, h1, h2, _⟩
  · injection e2 with e3 e4 e5
    subst e5
    exact ⟨i, by omega, by unfold maxLen; omega, fun _ => rfl⟩
  · injection e2 with e3 e4 e5
    subst e5
    exact ⟨i, h1, h2, fun e => by rw [e] at e3; cases e3⟩
theorem OI.row {w w' : World} {v : Value} {l : List Int} (h : OI w.heap.size w' v l) (hb : Below w.heap.size w w') : RowP w l (.returned v) w' := by
  obtain ⟨A, c, rfl, hi, _⟩ := h.ins
  exact ⟨A, c, rfl, hi, hb⟩

/-- append of one int onto a row of the call's own. -/
theorem append_one {w : World} {ops : Array Oper} {rest : List Oper} {o : Oper} {a : Act} {Q : Exit → Act → World → Prop} (hgd : o.guard = none) (s x : Operand)
    (ho : o.op = .call { callee := .builtin .append, args := #[s, x], argTypes := #[48, 48] })
    (base : Nat) (v : Value) (l : List Int) (hs : a.eval s = v) (hown : OI base w v l) (z : Int)
    (hx : a.eval x = .slice (some ⟨w.heap.size, 0, none⟩) 1 1)
    (hlen : l.length + 1 ≤ 1000000) (hbase : base ≤ w.heap.size)
    (h : ∀ v' w', OI base w' v' (l ++ [z]) → Below base w w' → wpList Tryz.prog ops Q rest (a.put o.dst v') w') :
    wpList Tryz.prog ops Q (o :: rest) a (w.alloc (.cells #[.int .i64 z] 3)) := by
  obtain ⟨i0, hi, hz0, hz1, hz2⟩ := info_parts Tryz.info3
  refine wpList_append_own_at _ hgd s x 48 ho base 3 i0 (.int .i64 0) 1 8 Tryz.underlying48 hi hz0 hz1 hz2 rfl (by decide) v l.length _ hs (hown.alloc _) ⟨w.heap.size, 0, none⟩ 1 1 [.int .i64 z] hx rfl (cell_one_new _ _ _) (by simp [Value.oneCell']) (by unfold maxLen; omega) (by omega) (by simp; omega) ?_
  intro v' w' hown' hgrow _ hb
  exact h v' w' (oi_snoc hown') (Below.grown ((Below.refl _ _).alloc hbase _) hgrow (by simp; omega) (fun k hk => (hown.lt k hk).1))

set_option maxRecDepth 20000 in
/-- append of what a slice reads as onto a row of the call's own. -/
theorem append_list {w : World} {ops : Array Oper} {rest : List Oper} {o : Oper} {a : Act} {Q : Exit → Act → World → Prop} (hgd : o.guard = none) (s x : Operand)
    (ho : o.op = .call { callee := .builtin .append, args := #[s, x], argTypes := #[48, 48] })
    (base : Nat) (v : Value) (l : List Int) (hs : a.eval s = v) (hown : OI base w v l) (A : Option Addr) (m c : Nat) (l2 : List Int) (hm : m = l2.length)
    (hx : a.eval x = .slice A m c) (hA : IA w A l2) (hN : A = none → c = 0) (hlen : l.length + l2.length ≤ 1000000) (hbase : base ≤ w.heap.size)
    (h : ∀ v' w', OI base w' v' (l ++ l2) → Below base w w' → wpList Tryz.prog ops Q rest (a.put o.dst v') w') :
    wpList Tryz.prog ops Q (o :: rest) a w := by
  obtain ⟨i0, hi, hz0, hz1, hz2⟩ := info_parts Tryz.info3
  subst hm
  cases A with
  | none =>
    have h0 : l2 = [] := by
      rcases Nat.eq_zero_or_pos l2.length with h | h
      · exact List.eq_nil_of_length_eq_zero h
      · obtain ⟨b, o, e, _⟩ := hA h
        cases e
    subst h0
    rw [hN rfl] at hx
    refine wpList_append_own_none hgd s x 48 ho base 3 i0 1 Tryz.underlying48 hi v l.length _ hs hown hx (h v w ?_ (Below.refl _ _))
    rw [List.append_nil]
    exact hown
  | some ad =>
    refine wpList_append_own_at _ hgd s x 48 ho base 3 i0 (.int .i64 0) 1 8 Tryz.underlying48 hi hz0 hz1 hz2 rfl (by decide) v l.length _ hs hown ad l2.length c (l2.map (Value.int .i64)) hx (by simp) (fun j u hu => ?_) (fun u hu => ?_) (by unfold maxLen; omega) (by omega) hbase ?_
    · rw [List.getElem?_map] at hu
      cases e : l2[j]? with
      | none => rw [e] at hu; cases hu
      | some y =>
        rw [e] at hu
        injection hu with hu
        subst hu
        have hj : j < l2.length := (List.getElem?_eq_some_iff.1 e).1
        obtain ⟨b, o2, e2, _, hc⟩ := hA (by omega)
        injection e2 with e2
        subst e2
        rw [add_plain, hc j hj]
        simp [List.getD, e]
    · obtain ⟨y, _, rfl⟩ := List.mem_map.1 hu
      simp [Value.oneCell']
    · intro v' w' hown' hgrow _ _
      refine h v' w' ?_ (Below.grown (Below.refl _ _) hgrow hbase (fun k hk => (hown.lt k hk).1))
      unfold OI
      rw [List.length_append, List.map_append]
      exact hown'

def eqB (xs ys : List Int) : Bool := decide (xs = ys)
theorem getD_ext' {xs ys : List Int} (hl : xs.length = ys.length) (h : ∀ i, i < xs.length → xs.getD i 0 = ys.getD i 0) : xs = ys := by
  apply List.ext_getElem hl
  intro i h1 h2
  have := h i h1
  simpa [List.getD, h1, h2] using this
/-- Only the blocks T turned. -/
structure Turn (T : Nat → Prop) (w w' : World) : Prop where
  os : w'.os = w.os
  tape : w'.tape = w.tape
  output : w'.output = w.output
  size : w.heap.size ≤ w'.heap.size
  block : ∀ k, k < w.heap.size → ¬ T k → w'.heap[k]? = w.heap[k]?
theorem Turn.refl (T : Nat → Prop) (w : World) : Turn T w w := ⟨rfl, rfl, rfl, Nat.le_refl _, fun _ _ _ => rfl⟩
theorem Turn.below {T : Nat → Prop} {w w' : World} {B : Nat} (h : Turn T w w') (hT : ∀ k, T k → B ≤ k) (hB : B ≤ w.heap.size) : Below B w w' :=
  ⟨h.os, h.tape, h.output, h.size, fun k hk => h.block k (by omega) (fun hk2 => by have := hT k hk2; omega)⟩
theorem Turn.set {T : Nat → Prop} {w w' : World} (h : Turn T w w') (a : Addr) (v : Value) (ha : T a.block) : Turn T w (w'.setCell a v) :=
  ⟨h.os, h.tape, h.output, by simp; exact h.size, fun k hk hT => (Below.heap_setCell w' a v k (fun e => hT (by rw [e]; exact ha))).trans (h.block k hk hT)⟩
theorem Turn.drewN {T : Nat → Prop} {w w' : World} (h : Turn T w w') (j : Nat) : Turn T w (w'.drewN j) := ⟨h.os, h.tape, h.output, h.size, h.block⟩
/-- A block that stays keeps what lies there. -/
theorem Turn.cell {T : Nat → Prop} {w w' : World} (h : Turn T w w') {p : Addr} (hp : p.block < w.heap.size) (hT : ¬ T p.block) : w'.cell? p = w.cell? p := World.cell?_of_block (w := w) (h.block p.block hp hT)
theorem Turn.trans {T : Nat → Prop} {a b c : World} (h : Turn T a b) (k : Turn T b c) : Turn T a c :=
  ⟨k.os.trans h.os, k.tape.trans h.tape, k.output.trans h.output, Nat.le_trans h.size k.size, fun i hi hT => (k.block i (Nat.lt_of_lt_of_le hi h.size) hT).trans (h.block i hi hT)⟩
theorem Turn.of_below {T : Nat → Prop} {w w' : World} (h : Below w.heap.size w w') : Turn T w w' := ⟨h.os, h.tape, h.output, h.size, fun k hk _ => h.block k hk⟩
theorem Turn.then_below {T : Nat → Prop} {a b c : World} (h : Turn T a b) (k : Below a.heap.size b c) : Turn T a c :=
  ⟨k.os.trans h.os, k.tape.trans h.tape, k.output.trans h.output, Nat.le_trans h.size k.size, fun i hi hT => (k.block i hi).trans (h.block i hi hT)⟩
theorem IA.turn {T : Nat → Prop} {w w' : World} {A : Option Addr} {zs : List Int} (h : IA w A zs) (k : Turn T w w') (hT : ∀ a, A = some a → ¬ T a.block) : IA w' A zs := fun hn => by
  obtain ⟨b, off, e, hb, hc⟩ := h hn
  exact ⟨b, off, e, Nat.lt_of_lt_of_le hb k.size, fun i hi => (k.cell (p := ⟨b, off + i, none⟩) hb (hT ⟨b, off, none⟩ e)).trans (hc i hi)⟩
/-- A row of the call's own stays where its block does. -/
theorem OI.turn {T : Nat → Prop} {base : Nat} {w w' : World} {v : Value} {l : List Int} (h : OI base w v l) (k : Turn T w w') (hT : ∀ q, T q → q < base) : OI base w' v l := by
  obtain ⟨h1, h2⟩ := h
  refine ⟨h1, ?_⟩
  rcases h2 with h2 | ⟨g, cap, cur, e, hb, hg, r⟩
  · exact .inl h2
  · refine .inr ⟨g, cap, cur, e, hb, ?_, r⟩
    have hlt : g < w.heap.size := by
      rcases Nat.lt_or_ge g w.heap.size with hlt | hge
      · exact hlt
      · rw [Array.getElem?_eq_none hge] at hg; cases hg
    rw [k.block g hlt (fun hq => by have := hT g hq; omega)]
    exact hg
/-- The head of a row of the call's own. -/
theorem OI.head {base : Nat} {w : World} {A : Option Addr} {c m : Nat} {l : List Int} (h : OI base w (.slice A m c) l) (n : Nat) (hn : n ≤ l.length) : OI base w (.slice A n c) (l.take n) := by
  obtain ⟨h1, h2⟩ := h
  rcases h2 with ⟨e, h0⟩ | ⟨g, cap, cur, e, hb, hg, h3, h4, h5, h6⟩
  · have hn0 : n = 0 := by omega
    injection e with e1 e2 e3
    subst e1 e3 hn0
    exact World.ownsRow_nil _ _ _ _
  · injection e with e1 e2 e3
    subst e1 e3
    have hl : (l.take n).length = n := by simp; omega
    refine ⟨by simp, .inr ⟨g, c, cur, by rw [hl], hb, hg, by rw [hl]; omega, h4, h5, ?_⟩⟩
    rw [hl, List.map_take, ← h6, List.take_take]
    congr 1
    omega
theorem OI.below {base : Nat} {w w' : World} {v : Value} {l : List Int} (h : OI base w v l) (k : Below w.heap.size w w') : OI base w' v l := OI.turn (T := fun _ => False) h (Turn.of_below k) (fun _ h => h.elim)
end Go.Proofs.YtmnigdphikoljaaGreatDoor
/- Expressions, plain: what a stack of numbers becomes, the kinds of nodes, their values. Nothing here speaks of the program. -/
namespace Go.Proofs.YtmnigdphikoljaaGreatDoor

/-- How many parts an operation takes; -1: it is none. -/
def takesZ (op : Int) : Int := if op = 3 ∨ op = 9 ∨ op = 10 then 1 else if 11 ≤ op ∧ op ≤ 19 then 2 else if 1 ≤ op ∧ op ≤ 8 then 0 else -1
/-- The kind of an operation's parts (-1: any one kind). -/
def opOf (op : Int) : Int := if op = 9 ∨ op = 18 ∨ op = 19 then 1 else if op = 14 ∨ op = 15 then -1 else 0
/-- The kind of what comes of them. -/
def opTo (op : Int) : Int := if op = 9 ∨ (14 ≤ op ∧ op ≤ 19) then 1 else 0
theorem takesZ_range (op : Int) : takesZ op = -1 ∨ takesZ op = 0 ∨ takesZ op = 1 ∨ takesZ op = 2 := by unfold takesZ; split <;> (try split) <;> (try split) <;> simp

/-- What a stack becomes by nodes, from node number k on: a number, and 0 or why there is none. -/
def runF (f : Nat → Int × Int → List Int → Int × Int) (most : Int) : Nat → List (Int × Int) → List Int → Int × Int
  | _, [], st => if st.length = 0 then (0, 4) else if 1 < st.length then (0, 5) else (st.getD 0 0, 0)
  | k, nd :: e, st =>
    if takesZ nd.1 < 0 then (0, 3) else if (st.length : Int) < takesZ nd.1 then (0, 4) else
    let r := f k nd (st.drop (st.length - (takesZ nd.1).toNat))
    if r.2 ≠ 0 then (0, r.2) else
    let st' := st.take (st.length - (takesZ nd.1).toNat) ++ [r.1]
    if most < st'.length then (0, 12) else runF f most (k + 1) e st'

theorem runF_end (f : Nat → Int × Int → List Int → Int × Int) (most : Int) (k : Nat) (st : List Int) : runF f most k [] st = if st.length = 0 then (0, 4) else if 1 < st.length then (0, 5) else (st.getD 0 0, 0) := rfl
theorem drop_at {α : Type} (d : α) {l : List α} {k : Nat} (h : k < l.length) : l.drop k = l.getD k d :: l.drop (k + 1) := by
  rw [List.drop_eq_getElem_cons h]
  simp [List.getD, h]

/-- What no operation is. -/
theorem run_form {f : Nat → Int × Int → List Int → Int × Int} {most : Int} {k : Nat} {e : List (Int × Int)} {st : List Int} (hk : k < e.length) (h : takesZ (e.getD k (0, 0)).1 < 0) : runF f most k (e.drop k) st = (0, 3) := by
  rw [drop_at (0, 0) hk, runF, if_pos h]
theorem run_short {f : Nat → Int × Int → List Int → Int × Int} {most : Int} {k : Nat} {e : List (Int × Int)} {st : List Int} (hk : k < e.length) (h : ¬ takesZ (e.getD k (0, 0)).1 < 0) (h2 : (st.length : Int) < takesZ (e.getD k (0, 0)).1) : runF f most k (e.drop k) st = (0, 4) := by
  rw [drop_at (0, 0) hk, runF, if_neg h, if_pos h2]
theorem run_why {f : Nat → Int × Int → List Int → Int × Int} {most : Int} {k t : Nat} {e : List (Int × Int)} {st : List Int} (hk : k < e.length) (h : takesZ (e.getD k (0, 0)).1 = t) (h2 : t ≤ st.length) (h3 : (f k (e.getD k (0, 0)) (st.drop (st.length - t))).2 ≠ 0) :
    runF f most k (e.drop k) st = (0, (f k (e.getD k (0, 0)) (st.drop (st.length - t))).2) := by
  rw [drop_at (0, 0) hk, runF, if_neg (by omega), if_neg (by omega), h]
  simp only [Int.toNat_natCast, if_pos h3]
theorem run_deep {f : Nat → Int × Int → List Int → Int × Int} {most : Int} {k t : Nat} {e : List (Int × Int)} {st : List Int} (hk : k < e.length) (h : takesZ (e.getD k (0, 0)).1 = t) (h2 : t ≤ st.length) (h3 : (f k (e.getD k (0, 0)) (st.drop (st.length - t))).2 = 0) (h4 : most < ((st.length - t : Nat) : Int) + 1) :
    runF f most k (e.drop k) st = (0, 12) := by
  rw [drop_at (0, 0) hk, runF, if_neg (by omega), if_neg (by omega), h]
  have e : (st.take (st.length - t) ++ [(f k (e.getD k (0, 0)) (st.drop (st.length - t))).1]).length = st.length - t + 1 := by simp
  simp only [Int.toNat_natCast, h3, ne_eq, not_true_eq_false, if_false, e]
  rw [if_pos (by omega)]
theorem run_next {f : Nat → Int × Int → List Int → Int × Int} {most : Int} {k t : Nat} {e : List (Int × Int)} {st : List Int} (hk : k < e.length) (h : takesZ (e.getD k (0, 0)).1 = t) (h2 : t ≤ st.length) (h3 : (f k (e.getD k (0, 0)) (st.drop (st.length - t))).2 = 0) (h4 : ¬ most < ((st.length - t : Nat) : Int) + 1) :
    runF f most k (e.drop k) st = runF f most (k + 1) (e.drop (k + 1)) (st.take (st.length - t) ++ [(f k (e.getD k (0, 0)) (st.drop (st.length - t))).1]) := by
  rw [drop_at (0, 0) hk, runF, if_neg (by omega), if_neg (by omega), h]
  have e : (st.take (st.length - t) ++ [(f k (e.getD k (0, 0)) (st.drop (st.length - t))).1]).length = st.length - t + 1 := by simp
  simp only [Int.toNat_natCast, h3, ne_eq, not_true_eq_false, if_false, e]
  rw [if_neg (by omega)]
end Go.Proofs.YtmnigdphikoljaaGreatDoor
namespace Go.Proofs.YtmnigdphikoljaaGreatDoor
open Go.ChangeShapes Go.WideShapes Go.ChangeAt Go.RowKit

/-- The function that an asking operation asks. -/
def askFn (op : Int) : Nat := if op = 9 then 125 else if op = 14 then 129 else if op = 15 then 130 else if op = 16 then 131 else if op = 17 then 132 else if op = 18 then 133 else 134
/-- The function value of an operation, made in blocks from B on. -/
def OpF (w : World) (B : Nat) (op : Int) (fv : Value) : Prop :=
  (op < 9 ∧ fv = .nilFunc) ∨ ((op = 10 ∨ op = 12) ∧ fv = .func (.func 126) #[] #[]) ∨ (op = 11 ∧ fv = .func (.func 127) #[] #[]) ∨ (op = 13 ∧ fv = .func (.func 128) #[] #[]) ∨
  ((op = 9 ∨ 14 ≤ op) ∧ ∃ b, fv = .func (.func 154) #[] #[.pointer (some ⟨b, 0, none⟩)] ∧ B ≤ b ∧ b < w.heap.size ∧ w.cell? ⟨b, 0, none⟩ = some (.func (.func (askFn op)) #[] #[]))
/-- A value that is the operation op. -/
def OpV (w : World) (B : Nat) (op : Int) (v : Value) : Prop := ∃ fv, v = .agg #[.int .i64 (takesZ op), .int .i64 (opOf op), .int .i64 (opTo op), fv] ∧ OpF w B op fv

theorem OpF.form {w : World} {B : Nat} {op : Int} {fv : Value} (h : OpF w B op fv) : fv = .nilFunc ∨ ∃ g lb, fv = .func (.func g) #[] lb := by
  rcases h with ⟨_, h⟩ | ⟨_, h⟩ | ⟨_, h⟩ | ⟨_, h⟩ | ⟨_, b, h, _⟩
  · exact .inl h
  all_goals exact .inr ⟨_, _, h⟩
theorem OpF.keep {w w' : World} {B : Nat} {op : Int} {fv : Value} (h : OpF w B op fv) (hs : w.heap.size ≤ w'.heap.size) (hk : ∀ p : Addr, B ≤ p.block → p.block < w.heap.size → w'.cell? p = w.cell? p) : OpF w' B op fv := by
  rcases h with h | h | h | h | ⟨h1, b, h2, h3, h4, h5⟩
  · exact .inl h
  · exact .inr (.inl h)
  · exact .inr (.inr (.inl h))
  · exact .inr (.inr (.inr (.inl h)))
  · exact .inr (.inr (.inr (.inr ⟨h1, b, h2, h3, Nat.lt_of_lt_of_le h4 hs, (hk ⟨b, 0, none⟩ h3 h4).trans h5⟩)))
theorem OpF.lower {w : World} {B B' : Nat} {op : Int} {fv : Value} (h : OpF w B op fv) (hB : B' ≤ B) : OpF w B' op fv := by
  rcases h with h | h | h | h | ⟨h1, b, h2, h3, h4⟩
  · exact .inl h
  · exact .inr (.inl h)
  · exact .inr (.inr (.inl h))
  · exact .inr (.inr (.inr (.inl h)))
  · exact .inr (.inr (.inr (.inr ⟨h1, b, h2, Nat.le_trans hB h3, h4⟩)))

theorem asks_any (t o : Int) (K : Nat) (w : World) :
    Calls Tryz.prog 124 #[.int .i64 t, .int .i64 o, .func (.func K) #[] #[]] w fun e w' => e = .returned (.agg #[.int .i64 t, .int .i64 o, .int .i64 1, .func (.func 154) #[] #[.pointer (some ⟨w.heap.size, 0, none⟩)]]) ∧
      w'.cell? ⟨w.heap.size, 0, none⟩ = some (.func (.func K) #[] #[]) ∧ w.heap.size < w'.heap.size ∧ Below w.heap.size w w' := by
  have hmf : ∀ (fn : Fn) (first cap : Array Value) (w : World), (Instr.makeFunc fn first cap).run Tryz.prog w = .ok (.func fn first cap) w := fun _ _ _ _ => rfl
  go_enter Tryz.func124, Tryz.ntmps124
  go_wp2
  exact bodyPost_ret (v := .agg #[.int .i64 t, .int .i64 o, .int .i64 1, .func (.func 154) #[] #[.pointer (some ⟨w.heap.size, 0, none⟩)]]) (by simp [results, Tryz.results124, go_sem]) rfl
    ⟨rfl, (World.cell?_alloc_past _ _ _ (by simp)).trans (World.cell?_alloc_at _ _ _ _ rfl), by simp; omega, ((Below.refl _ _).alloc (Nat.le_refl _) _).alloc (by simp) _⟩

/-- What operationOf hands back. -/
def OpPost (w : World) (op : Int) (e : Ending) (w' : World) : Prop := Below w.heap.size w w' ∧
  ((takesZ op < 0 ∧ e = .returned (.tuple #[.agg #[.int .i64 0, .int .i64 0, .int .i64 0, .nilFunc], .bool false])) ∨ (0 ≤ takesZ op ∧ ∃ v, e = .returned (.tuple #[v, .bool true]) ∧ OpV w' w.heap.size op v))
theorem op_plain {w w' : World} {op : Int} {v : Value} (hb : Below w.heap.size w w') (h0 : 0 ≤ takesZ op) (fv : Value) (e : v = .agg #[.int .i64 (takesZ op), .int .i64 (opOf op), .int .i64 (opTo op), fv]) (hf : OpF w' w.heap.size op fv) :
    OpPost w op (.returned (.tuple #[v, .bool true])) w' := ⟨hb, .inr ⟨h0, v, rfl, fv, e, hf⟩⟩

set_option maxHeartbeats 4000000 in
theorem operationOf_leaf (op : Int) (w : World) (h1 : 1 ≤ op) (h2 : op ≤ 8) : Calls Tryz.prog 87 #[.int .i64 op] w (OpPost w op) := by
  have hc : op = 1 ∨ op = 2 ∨ op = 3 ∨ op = 4 ∨ op = 5 ∨ op = 6 ∨ op = 7 ∨ op = 8 := by omega
  clear h1 h2
  rcases hc with rfl | rfl | rfl | rfl | rfl | rfl | rfl | rfl
  all_goals
    go_enter Tryz.func87, Tryz.ntmps87
    go_wp2
  all_goals first
    | exact bodyPost_ret (v := .tuple #[.agg #[.int .i64 1, .int .i64 0, .int .i64 0, .nilFunc], .bool true]) (by simp [results, Tryz.results87, go_sem]) rfl (op_plain ((Below.refl _ _).alloc (Nat.le_refl _) _) (by decide) _ rfl (.inl ⟨by decide, rfl⟩))
    | exact bodyPost_ret (v := .tuple #[.agg #[.int .i64 0, .int .i64 0, .int .i64 0, .nilFunc], .bool true]) (by simp [results, Tryz.results87, go_sem]) rfl (op_plain ((Below.refl _ _).alloc (Nat.le_refl _) _) (by decide) _ rfl (.inl ⟨by decide, rfl⟩))

theorem frozen_new (w : World) (c : Array Value) (t : TypeId) (j : Nat) : (w.alloc (.cells c t)).frozen? ⟨w.heap.size, j, none⟩ = false := by
  have h := heap_alloc_new w (.cells c t)
  simp only [World.frozen?, h]
  simp
theorem cell_set_far {w : World} {a p : Addr} (u : Value) (h : p.block ≠ a.block) : (w.setCell a u).cell? p = w.cell? p := World.cell?_of_block (Below.heap_setCell w a u p.block h)
theorem bcell {W w1 : World} (hb : Below W.heap.size W w1) : (∀ b o, b < W.heap.size → w1.cell? ⟨b, o, none⟩ = W.cell? ⟨b, o, none⟩) ∧ (∀ b o, b < W.heap.size → w1.frozen? ⟨b, o, none⟩ = W.frozen? ⟨b, o, none⟩) :=
  ⟨fun b o h => hb.cell (p := ⟨b, o, none⟩) h, fun b o h => hb.frozen (p := ⟨b, o, none⟩) h⟩

set_option maxHeartbeats 4000000 in
theorem operationOf_num (op : Int) (w : World) (h1 : 10 ≤ op) (h2 : op ≤ 13) : Calls Tryz.prog 87 #[.int .i64 op] w (OpPost w op) := by
  have hc : op = 10 ∨ op = 11 ∨ op = 12 ∨ op = 13 := by omega
  clear h1 h2
  rcases hc with rfl | rfl | rfl | rfl
  all_goals
    go_enter Tryz.func87, Tryz.ntmps87
    go_wp2
  all_goals first
    | exact bodyPost_ret (v := .tuple #[.agg #[.int .i64 1, .int .i64 0, .int .i64 0, .func (.func 126) #[] #[]], .bool true]) (by simp [results, Tryz.results87, go_sem]) rfl (op_plain ((Below.refl _ _).alloc (Nat.le_refl _) _) (by decide) _ rfl (.inr (.inl ⟨by decide, rfl⟩)))
    | exact bodyPost_ret (v := .tuple #[.agg #[.int .i64 2, .int .i64 0, .int .i64 0, .func (.func 126) #[] #[]], .bool true]) (by simp [results, Tryz.results87, go_sem]) rfl (op_plain ((Below.refl _ _).alloc (Nat.le_refl _) _) (by decide) _ rfl (.inr (.inl ⟨by decide, rfl⟩)))
    | exact bodyPost_ret (v := .tuple #[.agg #[.int .i64 2, .int .i64 0, .int .i64 0, .func (.func 127) #[] #[]], .bool true]) (by simp [results, Tryz.results87, go_sem]) rfl (op_plain ((Below.refl _ _).alloc (Nat.le_refl _) _) (by decide) _ rfl (.inr (.inr (.inl ⟨by decide, rfl⟩))))
    | exact bodyPost_ret (v := .tuple #[.agg #[.int .i64 2, .int .i64 0, .int .i64 0, .func (.func 128) #[] #[]], .bool true]) (by simp [results, Tryz.results87, go_sem]) rfl (op_plain ((Below.refl _ _).alloc (Nat.le_refl _) _) (by decide) _ rfl (.inr (.inr (.inr (.inl ⟨by decide, rfl⟩)))))

set_option maxHeartbeats 4000000 in
theorem operationOf_none (op : Int) (w : World) (h : op < 1 ∨ 19 < op) : Calls Tryz.prog 87 #[.int .i64 op] w (OpPost w op) := by
  have hc : op ≠ 1 ∧ op ≠ 2 ∧ op ≠ 3 ∧ op ≠ 4 ∧ op ≠ 5 ∧ op ≠ 6 ∧ op ≠ 7 ∧ op ≠ 8 ∧ op ≠ 9 ∧ op ≠ 10 ∧ op ≠ 11 ∧ op ≠ 12 ∧ op ≠ 13 ∧ op ≠ 14 ∧ op ≠ 15 ∧ op ≠ 16 ∧ op ≠ 17 ∧ op ≠ 18 ∧ op ≠ 19 := by omega
  obtain ⟨h1, h2, h3, h4, h5, h6, h7, h8, h9, h10, h11, h12, h13, h14, h15, h16, h17, h18, h19⟩ := hc
  have HT : Hid (takesZ op < 0) := Lib.hid (by unfold takesZ; rw [if_neg (by omega), if_neg (by omega), if_neg (by omega)]; decide)
  clear h
  go_enter Tryz.func87, Tryz.ntmps87
  go_wp2
  exact bodyPost_ret (v := .tuple #[.agg #[.int .i64 0, .int .i64 0, .int .i64 0, .nilFunc], .bool false]) (by simp [results, Tryz.results87, go_sem]) rfl
    ⟨(Below.refl _ _).alloc (Nat.le_refl _) _, .inl ⟨HT.out, rfl⟩⟩

theorem op_ask {w w' : World} {op t o : Int} {K : Nat} (hb : Below w.heap.size w w') (ht : takesZ op = t) (ho : opOf op = o) (h1 : opTo op = 1) (h0 : 0 ≤ t) (hop : op = 9 ∨ 14 ≤ op) (hK : askFn op = K) {b : Nat} (hb1 : w.heap.size ≤ b) (hb2 : b < w'.heap.size) (hc : w'.cell? ⟨b, 0, none⟩ = some (.func (.func K) #[] #[])) :
    OpPost w op (.returned (.tuple #[.agg #[.int .i64 t, .int .i64 o, .int .i64 1, .func (.func 154) #[] #[.pointer (some ⟨b, 0, none⟩)]], .bool true])) w' := by
  subst ht ho hK
  exact ⟨hb, .inr ⟨h0, _, rfl, _, by rw [h1], .inr (.inr (.inr (.inr ⟨hop, b, rfl, hb1, hb2, hc⟩)))⟩⟩

set_option maxHeartbeats 4000000 in
theorem operationOf_ask (op : Int) (w : World) (h1 : op = 9 ∨ 14 ≤ op) (h2 : op ≤ 19) : Calls Tryz.prog 87 #[.int .i64 op] w (OpPost w op) := by
  have hc : op = 9 ∨ op = 14 ∨ op = 15 ∨ op = 16 ∨ op = 17 ∨ op = 18 ∨ op = 19 := by omega
  clear h1 h2
  rcases hc with rfl | rfl | rfl | rfl | rfl | rfl | rfl
  all_goals
    go_enter Tryz.func87, Tryz.ntmps87
    go_wp2_with fail
    refine (asks_any _ _ _ _).mono ?_
    rintro e w1 ⟨rfl, hc, hs, hb⟩
    have HC := Lib.hid hc
    have HB := Lib.hid hb
    obtain ⟨e1, e2⟩ := bcell hb
    have c0 : w1.cell? ⟨w.heap.size, 0, none⟩ = some (.int .i64 0) := (e1 _ _ (by simp)).trans (World.cell?_alloc_at _ _ _ _ rfl)
    have c1 : w1.cell? ⟨w.heap.size, 1, none⟩ = some (.int .i64 0) := (e1 _ _ (by simp)).trans (World.cell?_alloc_at _ _ _ _ rfl)
    have c2 : w1.cell? ⟨w.heap.size, 2, none⟩ = some (.int .i64 0) := (e1 _ _ (by simp)).trans (World.cell?_alloc_at _ _ _ _ rfl)
    have c3 : w1.cell? ⟨w.heap.size, 3, none⟩ = some .nilFunc := (e1 _ _ (by simp)).trans (World.cell?_alloc_at _ _ _ _ rfl)
    have f0 : ∀ j, w1.frozen? ⟨w.heap.size, j, none⟩ = false := fun j => (e2 _ _ (by simp)).trans (frozen_new _ _ _ _)
    have hs1 : w.heap.size + 1 < w1.heap.size := by simpa using hs
    clear hc hb e1 e2 hs
    go_wp2
    first
    | exact bodyPost_ret (v := .tuple #[.agg #[.int .i64 1, .int .i64 1, .int .i64 1, .func (.func 154) #[] #[.pointer (some ⟨w.heap.size + 1, 0, none⟩)]], .bool true]) (by simp [results, Tryz.results87, go_sem, c0, c1, c2, c3]) rfl (op_ask (((((((Below.refl _ _).alloc (Nat.le_refl _) _).trans (HB.out.mono (by simp))).setCell (by simp) _).setCell (by simp) _).setCell (by simp) _).setCell (by simp) _) (by decide) (by decide) (by decide) (by decide) (by decide) rfl (Nat.le_succ _) (by simpa using hs1) ((((cell_set_far _ (by simp)).trans (cell_set_far _ (by simp))).trans (cell_set_far _ (by simp))).trans ((cell_set_far _ (by simp)).trans (by simpa [askFn] using HC.out))))
    | exact bodyPost_ret (v := .tuple #[.agg #[.int .i64 2, .int .i64 (-1), .int .i64 1, .func (.func 154) #[] #[.pointer (some ⟨w.heap.size + 1, 0, none⟩)]], .bool true]) (by simp [results, Tryz.results87, go_sem, c0, c1, c2, c3]) rfl (op_ask (((((((Below.refl _ _).alloc (Nat.le_refl _) _).trans (HB.out.mono (by simp))).setCell (by simp) _).setCell (by simp) _).setCell (by simp) _).setCell (by simp) _) (by decide) (by decide) (by decide) (by decide) (by decide) rfl (Nat.le_succ _) (by simpa using hs1) ((((cell_set_far _ (by simp)).trans (cell_set_far _ (by simp))).trans (cell_set_far _ (by simp))).trans ((cell_set_far _ (by simp)).trans (by simpa [askFn] using HC.out))))
    | exact bodyPost_ret (v := .tuple #[.agg #[.int .i64 2, .int .i64 0, .int .i64 1, .func (.func 154) #[] #[.pointer (some ⟨w.heap.size + 1, 0, none⟩)]], .bool true]) (by simp [results, Tryz.results87, go_sem, c0, c1, c2, c3]) rfl (op_ask (((((((Below.refl _ _).alloc (Nat.le_refl _) _).trans (HB.out.mono (by simp))).setCell (by simp) _).setCell (by simp) _).setCell (by simp) _).setCell (by simp) _) (by decide) (by decide) (by decide) (by decide) (by decide) rfl (Nat.le_succ _) (by simpa using hs1) ((((cell_set_far _ (by simp)).trans (cell_set_far _ (by simp))).trans (cell_set_far _ (by simp))).trans ((cell_set_far _ (by simp)).trans (by simpa [askFn] using HC.out))))
    | exact bodyPost_ret (v := .tuple #[.agg #[.int .i64 2, .int .i64 1, .int .i64 1, .func (.func 154) #[] #[.pointer (some ⟨w.heap.size + 1, 0, none⟩)]], .bool true]) (by simp [results, Tryz.results87, go_sem, c0, c1, c2, c3]) rfl (op_ask (((((((Below.refl _ _).alloc (Nat.le_refl _) _).trans (HB.out.mono (by simp))).setCell (by simp) _).setCell (by simp) _).setCell (by simp) _).setCell (by simp) _) (by decide) (by decide) (by decide) (by decide) (by decide) rfl (Nat.le_succ _) (by simpa using hs1) ((((cell_set_far _ (by simp)).trans (cell_set_far _ (by simp))).trans (cell_set_far _ (by simp))).trans ((cell_set_far _ (by simp)).trans (by simpa [askFn] using HC.out))))

theorem operationOf_any (op : Int) (w : World) : Calls Tryz.prog 87 #[.int .i64 op] w (OpPost w op) := by
  by_cases h : op < 1 ∨ 19 < op
  · exact operationOf_none op w h
  · by_cases h8 : op ≤ 8
    · exact operationOf_leaf op w (by omega) h8
    · by_cases hn : 10 ≤ op ∧ op ≤ 13
      · exact operationOf_num op w hn.1 hn.2
      · exact operationOf_ask op w (by omega) (by omega)
end Go.Proofs.YtmnigdphikoljaaGreatDoor
