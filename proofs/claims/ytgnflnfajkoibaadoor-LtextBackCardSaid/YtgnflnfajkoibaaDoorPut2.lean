/- Contracts that the claim stands on, several texts in one: Law, LexRun, LexName, LexAll, LexStop. -/
import Derived.Carry
import Derived.SizedLaws
import Derived.Lib.OthersKept
import Derived.Laws.RangeAny
import Derived.Lib.TrimU
import Derived.Deep.LoopGhost
import Derived.Shelf.Abstract
import Derived.Lib.SpaceUEq
import Derived.Test.YtgnflnfajkoibaaDoorPut1
namespace Go.Proofs.YtgnflnfajkoibaaDoor
open Go.ChangeShapes Go.WideShapes Go.ChangeAt Go.RowKit

theorem Tryd.own : ownKnob Tryd.prog.godebug = none := by kernel_rfl
theorem Tryd.laidOut : laidOutB Tryd.prog = true := by kernel_rfl

theorem trodAll_stays {H : Type} {enc : TypeId × Value → H} {W W' : World} (hb : Below W.heap.size W W') {sp : Nat → Bool} :
    ∀ {ts : List TypeId} {vs : List Value} {ds : List (DataW H)} {ps : List MemPlace}, (∀ t ∈ ts, Tryd.prog.readableRec t = true ∧ t < Tryd.prog.types.size) → DataW.TrodAll enc Tryd.prog W 0 (fun _ => true) true ts vs ds ps →
      (∀ x ∈ ps, x.block < W.heap.size) → (∀ x ∈ ps, sp x.block = true) → DataW.TrodAll enc Tryd.prog W' 0 sp true ts vs ds ps
  | [], [], [], _, _, h, _, _ => h
  | [], [], _ :: _, _, _, h, _, _ => h.elim
  | [], _ :: _, _, _, _, h, _, _ => h.elim
  | _ :: _, [], _, _, _, h, _, _ => h.elim
  | _ :: _, _ :: _, [], _, _, h, _, _ => h.elim
  | t :: ts, v :: vs, d :: ds, ps, hr, h, hlt, hsp => by
    obtain ⟨p, q, h1, h2, rfl⟩ := h
    have ht := hr t (by simp)
    exact ⟨p, q, WideElems.Trod_stays Tryd.laidOut ht.1 ht.2 h1 (fun x hx => hb.same (hlt x (by simp [hx]))) (fun x hx => hsp x (by simp [hx])),
      trodAll_stays hb (fun t ht => hr t (by simp [ht])) h2 (fun x hx => hlt x (by simp [hx])) (fun x hx => hsp x (by simp [hx])), rfl⟩

theorem trodAll_lengths {H : Type} {enc : TypeId × Value → H} {P : Program} {W : World} {b : Nat} {sp : Nat → Bool} {hd : Bool} : ∀ {ts : List TypeId} {vs : List Value} {ds : List (DataW H)} {ps : List MemPlace}, DataW.TrodAll enc P W b sp hd ts vs ds ps → ds.length = ts.length
  | [], [], [], _, _ => rfl
  | [], [], _ :: _, _, h => h.elim
  | [], _ :: _, _, _, h => h.elim
  | _ :: _, [], _, _, h => h.elim
  | _ :: _, _ :: _, [], _, h => h.elim
  | _ :: ts, _ :: vs, _ :: ds, _, h => by
    obtain ⟨p, q, _, h2, _⟩ := h
    simp [trodAll_lengths h2]

/-- What a law's call leaves. -/
def LawPost (W : World) (e : Ending) (W' : World) : Prop := e = .returned (.bool true) ∧ Below W.heap.size W W'

set_option maxRecDepth 100000 in
theorem law_lifted {os : Os} (started : os.Started) {H : Type} {enc : TypeId × Value → H} {f : FuncId} {fn : Func} {s : ChangeSpec} (ts : List TypeId) (hs : s.vars = []) (noInit : Tryd.prog.inits.idxOf? f = none) (hfn : Tryd.prog.funcs[f]? = some fn)
    (hts0 : fn.params.toList = ts) (hts : ∀ t ∈ ts, Tryd.prog.readableRec t = true ∧ t < Tryd.prog.types.size) (hrt : fn.resultTypes = #[4])
    (hspec : ∀ ds : List (DataW H), ds.length = ts.length → s.fn H ds = { results := [.lit (.bool true)], args := ds })
    (witness : ∃ (w : World) (tape : Tape) (i : Input), w.os = os ∧ (w.forCall tape i).Shaped Tryd.checked.prog ∧ i.vars = [] ∧ Input.okWide Tryd.checked.prog (w.forCall tape i) .any w.heap.size f i ∧
      s.pre6 enc Tryd.checked.prog fn [] false (w.forCall tape i).memory i.args ∧ ({} : Assume).holds Tryd.checked.prog (lone (Frame.enter Tryd.checked.prog f i.args .normal) [] (w.forCall tape i)))
    (contract : ∀ (W : World) (base : Nat) (args : Array Value) (ds : List (DataW H)) (ps : List MemPlace),
      (∀ (j : Nat) t v, ts[j]? = some t → args[j]? = some v → Value.okWide Tryd.prog W .any base t v) →
      DataW.TrodAll enc Tryd.prog W 0 (fun _ => true) true ts args.toList ds ps → (∀ p ∈ ps, p.block < W.heap.size) →
      (DataW.weightsEach Tryd.prog ts ds).all (· ≤ reachBytes) = true →
      Calls Tryd.prog f args W (LawPost W)) :
    ReturnsInHanded {} Tryd.checked os f .any (s.pre6 enc Tryd.prog fn [] false) (s.post enc Tryd.prog fn false true false false) := by
  refine returnsInHanded_of_change_sized (C := Tryd.checked) Tryd.own started noInit hfn witness ?_
  intro W base args ds gs before hval0 hW _ hsz _
  have hW' := hW
  have hlt := hW.lt
  obtain ⟨p, q, hA0, hV, rfl, hfz, hnd⟩ := hW
  rw [hs] at hV
  obtain ⟨rfl, rfl⟩ := trodVars_none hV
  have hsz' : (DataW.weightsEach Tryd.prog ts ds).all (· ≤ reachBytes) = true := by
    have h := hsz
    simp only [ChangeSpec.plain, DataSpec.varTypes, hs] at h
    show (DataW.weightsEach Tryd.checked.prog ts ds).all (· ≤ reachBytes) = true
    simpa [hts0] using h
  have hval : ∀ (j : Nat) t v, ts[j]? = some t → args[j]? = some v → Value.okWide Tryd.prog W .any base t v := fun j t v h1 h2 => hval0 j t v (by rw [← hts0] at h1; simpa using h1) h2
  have hA : DataW.TrodAll enc Tryd.prog W 0 (fun _ => true) true ts args.toList ds p := by rw [← hts0]; exact hA0
  simp only [List.append_nil] at hW' hlt
  refine (contract W base args ds p hval hA hlt hsz').mono fun e W' ⟨he, hb⟩ => ?_
  subst he
  have hfnx : s.fn H (ds ++ []) = { results := [.lit (.bool true)], args := ds } := by rw [List.append_nil]; exact hspec ds (trodAll_lengths hA)
  refine ⟨_, rfl, ds, [], p, [], p, [], hW', ?_, ?_, ?_, hb.frame _, fun h => by cases h⟩
  · rw [hfnx, hrt]
    exact trodAll_cons_mk (shut_bool Tryd.underlying4 _) trodAll_mk0
  · rw [hfnx]
    have hA1 : DataW.TrodAll enc Tryd.prog W 0 (fun _ => true) true fn.params.toList args.toList ds p := hA0
    exact trodAll_stays hb (by rw [hts0]; exact hts) hA1 hlt (fun x hx => by simpa using hlt x hx)
  · rw [hfnx, hs]
    exact rfl

theorem Tryd.cells3 : Tryd.prog.cellsOf 3 = 1 := by kernel_rfl
theorem Tryd.bytes3 : Tryd.prog.bytesOf 3 = 8 := by kernel_rfl

set_option maxRecDepth 100000 in
/-- A slice of ints that came in: argument j. -/
theorem open_ints_arg {H : Type} {enc : TypeId × Value → H} {W : World} {base : Nat} {v : Value} {d : DataW H} {ps : List MemPlace} (hv : Value.okWide Tryd.prog W .any base 37 v)
    (h : DataW.Trod enc Tryd.prog W 0 (fun _ => true) true 37 v d ps) {ts : List TypeId} {ds : List (DataW H)} (hsz : (DataW.weightsEach Tryd.prog ts ds).all (· ≤ reachBytes) = true) (j : Nat) (htj : ts[j]? = some 37) (hdj : ds[j]? = some d) :
    ∃ (A : Option Addr) (c : Nat) (zs : List Int), v = .slice A zs.length c ∧ 8 * zs.length ≤ 140737488355328 ∧ IA W A zs ∧ W64 zs := by
  obtain ⟨a0, len, cap, rfl⟩ := okWide_slice Tryd.underlying37 hv
  obtain ⟨fuel, hf⟩ := h
  rcases open_ints Tryd.underlying37 Tryd.underlying3 Tryd.cells3 hf with ⟨hcs, hx⟩ | ⟨a, len', cap', zs, hcs, _, hl, hm, hz, hx, hcell, hwz⟩
  · simp [Value.cells] at hcs
    obtain ⟨rfl, rfl, rfl⟩ := hcs
    exact ⟨none, 0, [], rfl, by simp, IA.nil _ _, fun z hz => by simp at hz⟩
  · simp [Value.cells] at hcs
    obtain ⟨rfl, rfl, rfl⟩ := hcs
    simp only [Prod.mk.injEq] at hx
    obtain ⟨rfl, rfl⟩ := hx
    simp only [if_true] at hz
    have hle : len ≤ zs.length := by omega
    have hlen : (zs.take len).length = len := by simp; omega
    have hs := sized_slice hsz htj hdj Tryd.underlying37
    rw [Tryd.bytes3] at hs
    have hrb := reachBytes_lt
    have hs2 : (lits (H := H) .i64 (zs.take len)).length = len := by simp [lits]; omega
    rw [hs2] at hs
    refine ⟨some a, cap, zs.take len, by rw [hlen], by rw [hlen]; omega, ?_, ?_⟩
    · intro h0
      obtain ⟨b, off, spot⟩ := a
      have g0 := hcell 0 (by omega)
      have hspot : spot = none := by simpa [Addr.add] using World.cell?_spot g0
      subst hspot
      have hcell' : ∀ i, i < zs.length → W.cell? ⟨b, off + i, none⟩ = some (.int .i64 (zs.getD i 0)) := fun i hi => by rw [← add_plain]; exact hcell i hi
      refine ⟨b, off, rfl, ?_, fun i hi => ?_⟩
      · have g1 := hcell' 0 (by omega)
        rcases Nat.lt_or_ge b W.heap.size with hlt | hge
        · exact hlt
        · simp [World.cell?, Array.getElem?_eq_none hge] at g1
      · rw [hcell' i (by omega)]
        simp [List.getD, show i < len by omega]
    · intro z hz
      have := hwz z (List.mem_of_mem_take hz)
      have e : IntKind.i64.min = -9223372036854775808 := rfl
      simpa [Lit.wf, e] using this
end Go.Proofs.YtgnflnfajkoibaaDoor
namespace Go.Proofs.YtgnflnfajkoibaaDoor.lx
open Go.ChangeShapes Go.WideShapes Go.ChangeAt Go.RowKit Go.Deep

/-- The first place at which p fails, rune by rune. -/
def stopF (p : Nat → Nat → Bool) (s : ByteArray) : Nat → Nat → Nat
  | 0, _ => s.size
  | f + 1, pos => if pos < s.size then (if p pos (Utf8.decode s pos).1 then stopF p s f (pos + (Utf8.decode s pos).2) else pos) else s.size
theorem stopF_end (p : Nat → Nat → Bool) (s : ByteArray) (f pos : Nat) (h : ¬ pos < s.size) : stopF p s f pos = s.size := by
  cases f with
  | zero => rfl
  | succ f => unfold stopF; rw [if_neg h]
theorem stopF_le (p : Nat → Nat → Bool) (s : ByteArray) : ∀ f pos, stopF p s f pos ≤ s.size
  | 0, _ => Nat.le_refl _
  | f + 1, pos => by
    unfold stopF
    split
    · split
      · exact stopF_le p s f _
      · omega
    · exact Nat.le_refl _
/-- A function value that asks of a place and a rune. -/
def AskGrows (g : Nat) (lb : Array Value) (p : Nat → Nat → Bool) (w : World) : Prop :=
  ∀ (W : World) (pos x : Nat), x ≤ 1114111 → Below w.heap.size w W → Calls Tryd.prog g (#[.int .i64 pos, .int .i32 x] ++ lb) W fun e w' => e = .returned (.bool (p pos x)) ∧ Below W.heap.size W w'

set_option maxHeartbeats 2000000 in
set_option maxRecDepth 100000 in
theorem run_any (g : Nat) (lb : Array Value) (eg : ∀ args w, (callFunc g args).run Tryd.prog w = .ok (.enter g args) w) (p : Nat → Nat → Bool) (s : ByteArray) (w : World) (hp : AskGrows g lb p w) :
    Calls Tryd.prog 50 #[.string s, .func (.func g) #[] lb] w fun e w' => e = .returned (.int .i64 (stopF p s s.size 0)) ∧ Below w.heap.size w w' := by
  obtain ⟨RR, HRR⟩ : ∃ RR, Hid (stopF p s s.size 0 = RR) := ⟨_, Lib.hid rfl⟩
  rw [HRR.out]
  go_enter Tryd.func50, Tryd.ntmps50
  go_wp2
  go_loopg [] s.size (fun gf wx => ∃ pos : Nat, wx.heap[w.heap.size]? = some (.stringIter s pos) ∧ Below w.heap.size w wx ∧ Hid (stopF p s gf pos = RR) ∧ s.size ≤ pos + gf)
  case atStart => exact ⟨0, World.iter_heap w s 0, (Below.refl _ w).alloc (Nat.le_refl _) _, HRR, by omega⟩
  case round =>
    obtain ⟨pos, hit, hbw, HL, hfu⟩ := hrel
    by_cases hps : pos < s.size
    · obtain ⟨g', rfl⟩ : ∃ g', gk = g' + 1 := ⟨gk - 1, by omega⟩
      have hnx : ∀ ty, (Instr.next (.pointer (some ⟨w.heap.size, 0, none⟩)) true ty).run Tryd.prog wr = _ := fun ty => Lib.run_next_any_at wr w.heap.size s pos ty hit hps
      have hwd := Lib.width_pos s pos
      obtain ⟨R, hR⟩ : ∃ R, (Utf8.decode s pos).1 = R := ⟨_, rfl⟩
      obtain ⟨K, hK⟩ : ∃ K, (Utf8.decode s pos).2 = K := ⟨_, rfl⟩
      have hleft := HL.out
      simp only [stopF, hps, if_true, hR, hK] at hleft
      rw [hR, hK] at hnx
      rw [hK] at hwd
      have hit2 := Lib.iterAt_heap wr w.heap.size s pos (pos + K) hit
      have hbw2 := Lib.below_iterAt hbw (k := w.heap.size) (Nat.le_refl _) s (pos + K)
      obtain ⟨W, hWd⟩ : ∃ W, wr.iterAt w.heap.size s (pos + K) = W := ⟨_, rfl⟩
      rw [hWd] at hnx hit2 hbw2
      have hltW : w.heap.size < W.heap.size := (Array.getElem?_eq_some_iff.1 hit2).1
      have cS : Calls Tryd.prog g (#[.int .i64 pos, .int .i32 (R : Int)] ++ lb) W _ := hp W pos R (by rw [← hR]; exact Lib.rune_le s pos) hbw2
      clear hp HL
      cases hsp : p pos R <;> rw [hsp] at cS <;> simp only [hsp, if_true, Bool.false_eq_true, if_false] at hleft
      · have HLE := Lib.hid hleft
        clear hleft
        go_wp2_with fail
        refine cS.mono ?_
        rintro e W' ⟨rfl, hbc⟩
        go_wp2
        go_ret
        exact ⟨by rw [← HLE.out]; rfl, (hbw2.trans (hbc.mono hbw2.size))⟩
      · have HLE := Lib.hid hleft
        clear hleft
        go_wp2_with fail
        refine cS.mono ?_
        rintro e W' ⟨rfl, hbc⟩
        go_wp2
        go_roundg g'
        case measure => omega
        case rel => exact ⟨pos + K, (hbc.block _ hltW).trans hit2, (hbw2.trans (hbc.mono hbw2.size)), HLE, by omega⟩
    · have hnx : ∀ ty, (Instr.next (.pointer (some ⟨w.heap.size, 0, none⟩)) true ty).run Tryd.prog wr = _ := fun ty => Lib.run_next_end_at wr w.heap.size s pos ty hit hps
      have HLE : Hid (s.size = RR) := Lib.hid ((stopF_end p s gk pos hps).symm.trans HL.out)
      clear HL
      go_wp2
      go_ret
      exact ⟨by rw [← HLE.out]; rfl, hbw⟩

def letB (r : Int) : Bool := decide (97 ≤ r ∧ r ≤ 122 ∨ 65 ≤ r ∧ r ≤ 90)
def digB (r : Int) : Bool := decide (48 ≤ r ∧ r ≤ 57)
theorem isLetter_any (r : Int) (w : World) : Calls Tryd.prog 59 #[.int .i32 r] w fun e w' => e = .returned (.bool (letB r)) ∧ w = w' := by
  by_cases h1 : 97 ≤ r
  · by_cases h2 : r ≤ 122
    · have HE : Hid (letB r = true) := Lib.hid (decide_eq_true (by omega))
      go_enter Tryd.func59, Tryd.ntmps59
      go_wp2
      go_ret
      exact ⟨by rw [HE.out]; rfl, rfl⟩
    · have HE : Hid (letB r = false) := Lib.hid (decide_eq_false (by omega))
      have h3 : 65 ≤ r := by omega
      have h4 : ¬ r ≤ 90 := by omega
      go_enter Tryd.func59, Tryd.ntmps59
      go_wp2
      go_ret
      exact ⟨by rw [HE.out]; rfl, rfl⟩
  · by_cases h2 : 65 ≤ r
    · by_cases h3 : r ≤ 90
      · have HE : Hid (letB r = true) := Lib.hid (decide_eq_true (by omega))
        go_enter Tryd.func59, Tryd.ntmps59
        go_wp2
        go_ret
        exact ⟨by rw [HE.out]; rfl, rfl⟩
      · have HE : Hid (letB r = false) := Lib.hid (decide_eq_false (by omega))
        go_enter Tryd.func59, Tryd.ntmps59
        go_wp2
        go_ret
        exact ⟨by rw [HE.out]; rfl, rfl⟩
    · have HE : Hid (letB r = false) := Lib.hid (decide_eq_false (by omega))
      go_enter Tryd.func59, Tryd.ntmps59
      go_wp2
      go_ret
      exact ⟨by rw [HE.out]; rfl, rfl⟩
theorem isDigit_any (r : Int) (w : World) : Calls Tryd.prog 60 #[.int .i32 r] w fun e w' => e = .returned (.bool (digB r)) ∧ w = w' := by
  by_cases h1 : 48 ≤ r
  · by_cases h2 : r ≤ 57
    · have HE : Hid (digB r = true) := Lib.hid (decide_eq_true (by omega))
      go_enter Tryd.func60, Tryd.ntmps60
      go_wp2
      go_ret
      exact ⟨by rw [HE.out]; rfl, rfl⟩
    · have HE : Hid (digB r = false) := Lib.hid (decide_eq_false (by omega))
      go_enter Tryd.func60, Tryd.ntmps60
      go_wp2
      go_ret
      exact ⟨by rw [HE.out]; rfl, rfl⟩
  · have HE : Hid (digB r = false) := Lib.hid (decide_eq_false (by omega))
    go_enter Tryd.func60, Tryd.ntmps60
    go_wp2
    go_ret
    exact ⟨by rw [HE.out]; rfl, rfl⟩
/-- May a rune stand at a place of a word? -/
def okB (pos r : Nat) : Bool := letB r || (decide (0 < pos) && (digB r || decide (r = 95)))
set_option maxRecDepth 100000 in
theorem word1_any (pos r : Nat) (w : World) (hr : r ≤ 1114111) : Calls Tryd.prog 58 #[.int .i64 pos, .int .i32 r] w fun e w' => e = .returned (.bool (okB pos r)) ∧ Below w.heap.size w w' := by
  cases hl : letB r with
  | true =>
    have HL := Lib.hid hl
    have HE : Hid (okB pos r = true) := Lib.hid (by unfold okB; rw [hl, Bool.true_or])
    clear hl
    go_enter Tryd.func58, Tryd.ntmps58
    go_wp2_with fail
    refine (isLetter_any _ _).mono ?_
    rw [HL.out]
    rintro e w' ⟨rfl, rfl⟩
    go_wp2
    go_ret
    exact ⟨by rw [HE.out]; rfl, Below.refl _ _⟩
  | false =>
    have HL := Lib.hid hl
    have HE : Hid (okB pos r = (decide (0 < pos) && (digB r || decide (r = 95)))) := Lib.hid (by unfold okB; rw [hl, Bool.false_or])
    clear hl
    by_cases h0 : pos = 0
    · subst h0
      have HE2 : Hid (okB 0 r = false) := Lib.hid (by rw [HE.out]; simp)
      go_enter Tryd.func58, Tryd.ntmps58
      go_wp2_with fail
      refine (isLetter_any _ _).mono ?_
      rw [HL.out]
      rintro e w' ⟨rfl, rfl⟩
      go_wp2
      go_ret
      exact ⟨by rw [HE2.out]; rfl, Below.refl _ _⟩
    · have hp0 : (0 : Int) < (pos : Int) := by omega
      have HE2 : Hid (okB pos r = (digB r || decide (r = 95))) := Lib.hid (by rw [HE.out, decide_eq_true (show 0 < pos by omega), Bool.true_and])
      cases hd : digB r with
      | true =>
        have HD := Lib.hid hd
        have HE3 : Hid (okB pos r = true) := Lib.hid (by rw [HE2.out, hd, Bool.true_or])
        clear hd
        go_enter Tryd.func58, Tryd.ntmps58
        go_wp2_with fail
        refine (isLetter_any _ _).mono ?_
        rw [HL.out]
        rintro e w' ⟨rfl, rfl⟩
        go_wp2_with fail
        refine (isDigit_any _ _).mono ?_
        rw [HD.out]
        rintro e w' ⟨rfl, rfl⟩
        go_wp2
        go_ret
        exact ⟨by rw [HE3.out]; rfl, Below.refl _ _⟩
      | false =>
        have HD := Lib.hid hd
        have HE3 : Hid (okB pos r = ((r : Int) == 95)) := Lib.hid (by rw [HE2.out, hd, Bool.false_or]; rw [Bool.eq_iff_iff]; simp; omega)
        clear hd
        go_enter Tryd.func58, Tryd.ntmps58
        go_wp2_with fail
        refine (isLetter_any _ _).mono ?_
        rw [HL.out]
        rintro e w' ⟨rfl, rfl⟩
        go_wp2_with fail
        refine (isDigit_any _ _).mono ?_
        rw [HD.out]
        rintro e w' ⟨rfl, rfl⟩
        go_wp2
        go_ret
        exact ⟨by rw [HE3.out]; rfl, Below.refl _ _⟩
set_option maxRecDepth 100000 in
theorem word_any (s : ByteArray) (w : World) : Calls Tryd.prog 42 #[.string s] w fun e w' => e = .returned (.int .i64 (stopF okB s s.size 0)) ∧ Below w.heap.size w w' := by
  have hg : AskGrows 58 #[] okB w := fun W pos x hx _ => by
    have := word1_any pos x W hx
    simpa using this
  go_enter Tryd.func42, Tryd.ntmps42
  go_wp2_with fail
  refine (run_any 58 #[] (enters_of Tryd.func58 (by kernel_rfl) rfl) okB s w hg).mono ?_
  rintro e w' ⟨rfl, hb⟩
  go_wp2
  go_ret
  exact ⟨rfl, hb⟩
end Go.Proofs.YtgnflnfajkoibaaDoor.lx
namespace Go.Proofs.YtgnflnfajkoibaaDoor.lx
open Go.ChangeShapes Go.WideShapes Go.ChangeAt Go.RowKit Go.Deep

def fitB (n lo hi : Int) : Bool := decide (lo ≤ n ∧ n ≤ hi)
theorem fits_any (n lo hi : Int) (w : World) : Calls Tryd.prog 41 #[.int .i64 n, .int .i64 lo, .int .i64 hi] w fun e w' => e = .returned (.bool (fitB n lo hi)) ∧ w = w' := by
  by_cases h1 : lo ≤ n
  · by_cases h2 : n ≤ hi
    · have HE : Hid (fitB n lo hi = true) := Lib.hid (decide_eq_true ⟨h1, h2⟩)
      go_enter Tryd.func41, Tryd.ntmps41
      go_wp2
      go_ret
      exact ⟨by rw [HE.out]; rfl, rfl⟩
    · have HE : Hid (fitB n lo hi = false) := Lib.hid (decide_eq_false (by omega))
      go_enter Tryd.func41, Tryd.ntmps41
      go_wp2
      go_ret
      exact ⟨by rw [HE.out]; rfl, rfl⟩
  · have HE : Hid (fitB n lo hi = false) := Lib.hid (decide_eq_false (by omega))
    go_enter Tryd.func41, Tryd.ntmps41
    go_wp2
    go_ret
    exact ⟨by rw [HE.out]; rfl, rfl⟩

/-- The four words that are no names. -/
def kw1 : List UInt8 := [115, 101, 108, 102]
def kw2 : List UInt8 := [110, 111, 110, 101]
def kw3 : List UInt8 := [108, 101, 110]
def kw4 : List UInt8 := [97, 116]
def kwB (s : ByteArray) : Bool := s.toList == kw1 || s.toList == kw2 || s.toList == kw3 || s.toList == kw4
/-- Is it a name? -/
def nameB (s : ByteArray) : Bool := !kwB s && (decide (1 ≤ s.size ∧ s.size ≤ 16) && decide (stopF okB s s.size 0 = s.size))

set_option maxRecDepth 100000 in
theorem name_any (s : ByteArray) (w : World) : Calls Tryd.prog 25 #[.string s] w fun e w' => e = .returned (.bool (nameB s)) ∧ Below w.heap.size w w' := by
  obtain ⟨b1, h1⟩ : ∃ b1, (s.toList == [115, 101, 108, 102]) = b1 := ⟨_, rfl⟩
  obtain ⟨b2, h2⟩ : ∃ b2, (s.toList == [110, 111, 110, 101]) = b2 := ⟨_, rfl⟩
  obtain ⟨b3, h3⟩ : ∃ b3, (s.toList == [108, 101, 110]) = b3 := ⟨_, rfl⟩
  obtain ⟨b4, h4⟩ : ∃ b4, (s.toList == [97, 116]) = b4 := ⟨_, rfl⟩
  have HK : Hid (kwB s = (b1 || b2 || b3 || b4)) := Lib.hid (by unfold kwB kw1 kw2 kw3 kw4; rw [h1, h2, h3, h4])
  cases b1 with
  | true =>
    have HE : Hid (nameB s = false) := Lib.hid (by unfold nameB; rw [HK.out]; simp)
    rw [HE.out]
    go_enter Tryd.func25, Tryd.ntmps25
    go_wp2
    go_ret
    exact ⟨rfl, Below.refl _ _⟩
  | false =>
  cases b2 with
  | true =>
    have HE : Hid (nameB s = false) := Lib.hid (by unfold nameB; rw [HK.out]; simp)
    rw [HE.out]
    go_enter Tryd.func25, Tryd.ntmps25
    go_wp2
    go_ret
    exact ⟨rfl, Below.refl _ _⟩
  | false =>
  cases b3 with
  | true =>
    have HE : Hid (nameB s = false) := Lib.hid (by unfold nameB; rw [HK.out]; simp)
    rw [HE.out]
    go_enter Tryd.func25, Tryd.ntmps25
    go_wp2
    go_ret
    exact ⟨rfl, Below.refl _ _⟩
  | false =>
  cases b4 with
  | true =>
    have HE : Hid (nameB s = false) := Lib.hid (by unfold nameB; rw [HK.out]; simp)
    rw [HE.out]
    go_enter Tryd.func25, Tryd.ntmps25
    go_wp2
    go_ret
    exact ⟨rfl, Below.refl _ _⟩
  | false =>
    have HE : Hid (nameB s = (decide (1 ≤ s.size ∧ s.size ≤ 16) && decide (stopF okB s s.size 0 = s.size))) := Lib.hid (by unfold nameB; rw [HK.out]; simp)
    cases hf : fitB s.size 1 16 with
    | false =>
      have HF := Lib.hid hf
      have HE2 : Hid (nameB s = false) := Lib.hid (by rw [HE.out, decide_eq_false (by intro h; unfold fitB at hf; have := of_decide_eq_false hf; omega), Bool.false_and])
      clear hf
      go_enter Tryd.func25, Tryd.ntmps25
      go_wp2_with fail
      refine (fits_any _ _ _ _).mono ?_
      rw [HF.out]
      rintro e w' ⟨rfl, rfl⟩
      go_wp2
      go_ret
      exact ⟨by rw [HE2.out]; rfl, Below.refl _ _⟩
    | true =>
      have HF := Lib.hid hf
      have HE2 : Hid (nameB s = decide (stopF okB s s.size 0 = s.size)) := Lib.hid (by rw [HE.out, decide_eq_true (by unfold fitB at hf; have := of_decide_eq_true hf; omega), Bool.true_and])
      clear hf
      obtain ⟨q, HQ⟩ : ∃ q, Hid (stopF okB s s.size 0 = q) := ⟨_, Lib.hid rfl⟩
      have HB : Hid (decide (q = s.size) = ((q : Int) == (s.size : Int))) := Lib.hid (by rw [Bool.eq_iff_iff]; simp; omega)
      go_enter Tryd.func25, Tryd.ntmps25
      go_wp2_with fail
      refine (fits_any _ _ _ _).mono ?_
      rw [HF.out]
      rintro e w' ⟨rfl, rfl⟩
      go_wp2_with fail
      refine (word_any s w).mono ?_
      rw [HQ.out]
      rintro e w' ⟨rfl, hb⟩
      go_wp2
      go_ret
      exact ⟨by rw [HE2.out, HQ.out, HB.out]; rfl, hb⟩
end Go.Proofs.YtgnflnfajkoibaaDoor.lx
namespace Go.Proofs.YtgnflnfajkoibaaDoor.lx
open Go.ChangeShapes Go.WideShapes Go.ChangeAt Go.RowKit Go.Deep

def bt (s : ByteArray) (i : Nat) : Nat := (s.get! i).toNat
theorem letB_high {r : Nat} (h : 128 ≤ r) : letB r = false := decide_eq_false (by omega)
theorem digB_high {r : Nat} (h : 128 ≤ r) : digB r = false := decide_eq_false (by omega)
theorem okB_high {pos r : Nat} (h : 128 ≤ r) : okB pos r = false := by
  unfold okB
  rw [letB_high h, digB_high h, decide_eq_false (show ¬ r = 95 by omega)]
  simp
theorem okB_low {pos r : Nat} (h : okB pos r = true) : r < 128 := by
  rcases Nat.lt_or_ge r 128 with h1 | h1
  · exact h1
  · rw [okB_high h1] at h; cases h
theorem bt_eq {s : ByteArray} {pos : Nat} (h : pos < s.size) : bt s pos = (s[pos]'h).toNat := by
  unfold bt
  have := get_at s pos h
  rw [Nat.add_zero] at this
  rw [this]
theorem decode_low {s : ByteArray} {pos : Nat} (h : pos < s.size) (hb : bt s pos < 128) : Utf8.decode s pos = (bt s pos, 1) := by
  rw [bt_eq h] at hb ⊢
  exact decode_ascii s pos h hb
theorem ok_decode {s : ByteArray} {pos : Nat} (h : pos < s.size) : okB pos (Utf8.decode s pos).1 = okB pos (bt s pos) := by
  rcases Nat.lt_or_ge (bt s pos) 128 with h1 | h1
  · rw [decode_low h h1]
  · rw [okB_high h1, okB_high (decode_high s pos h (by rw [← bt_eq h]; exact h1)).1]
theorem stop_iff (s : ByteArray) : ∀ f pos, s.size ≤ pos + f → (stopF okB s f pos = s.size ↔ ∀ i, pos ≤ i → i < s.size → okB i (bt s i) = true)
  | 0, pos, h => ⟨fun _ i h1 h2 => by omega, fun _ => rfl⟩
  | f + 1, pos, h => by
    by_cases hp : pos < s.size
    · unfold stopF
      rw [if_pos hp, ok_decode hp]
      cases hk : okB pos (bt s pos) with
      | false =>
        simp only [Bool.false_eq_true, if_false]
        refine ⟨fun h2 => by omega, fun h2 => ?_⟩
        have := h2 pos (Nat.le_refl _) hp
        rw [hk] at this
        cases this
      | true =>
        simp only [if_true]
        have hd := decode_low hp (okB_low hk)
        rw [hd]
        rw [stop_iff s f (pos + 1) (by omega)]
        refine ⟨fun h2 i h3 h4 => ?_, fun h2 i h3 h4 => h2 i (by omega) h4⟩
        rcases Nat.eq_or_lt_of_le h3 with rfl | h5
        · exact hk
        · exact h2 i (by omega) h4
    · rw [stopF_end okB s (f + 1) pos hp]
      exact ⟨fun _ i h1 h2 => by omega, fun _ => rfl⟩
/-- A byte of a word that is not the first. -/
def wB (b : Nat) : Bool := letB b || digB b || decide (b = 95)
theorem ok_first (b : Nat) : okB 0 b = letB b := by unfold okB; simp
theorem ok_later {i b : Nat} (h : 0 < i) : okB i b = wB b := by unfold okB wB; rw [decide_eq_true h, Bool.true_and, Bool.or_assoc]
theorem wB_let {b : Nat} (h : letB b = true) : wB b = true := by unfold wB; rw [h]; rfl
/-- .. by the first byte and the others. -/
theorem stop_whole (s : ByteArray) (h0 : 0 < s.size) : stopF okB s s.size 0 = s.size ↔ letB (bt s 0) = true ∧ ∀ i, i < s.size → wB (bt s i) = true := by
  rw [stop_iff s s.size 0 (by omega)]
  refine ⟨fun h => ⟨by rw [← ok_first]; exact h 0 (Nat.le_refl _) h0, fun i hi => ?_⟩, fun h i _ hi => ?_⟩
  · rcases Nat.eq_zero_or_pos i with rfl | h1
    · exact wB_let (by rw [← ok_first]; exact h 0 (Nat.le_refl _) h0)
    · rw [← ok_later h1]; exact h i (Nat.zero_le _) hi
  · rcases Nat.eq_zero_or_pos i with rfl | h1
    · rw [ok_first]; exact h.1
    · rw [ok_later h1]; exact h.2 i hi
end Go.Proofs.YtgnflnfajkoibaaDoor.lx
namespace Go.Proofs.YtgnflnfajkoibaaDoor.lx
open Go.ChangeShapes Go.WideShapes Go.ChangeAt Go.RowKit Go.Deep

def dgB (_ r : Nat) : Bool := digB r
def linB (_ r : Nat) : Bool := !decide (r = 10)
set_option maxRecDepth 100000 in
theorem digits1_any (pos r : Nat) (w : World) : Calls Tryd.prog 66 #[.int .i64 pos, .int .i32 r] w fun e w' => e = .returned (.bool (dgB pos r)) ∧ Below w.heap.size w w' := by
  go_enter Tryd.func66, Tryd.ntmps66
  go_wp2_with fail
  refine (isDigit_any _ _).mono ?_
  rintro e w' ⟨rfl, rfl⟩
  go_wp2
  go_ret
  exact ⟨rfl, Below.refl _ _⟩
set_option maxRecDepth 100000 in
theorem digits_any (s : ByteArray) (w : World) : Calls Tryd.prog 52 #[.string s] w fun e w' => e = .returned (.int .i64 (stopF dgB s s.size 0)) ∧ Below w.heap.size w w' := by
  have hg : AskGrows 66 #[] dgB w := fun W pos x hx _ => by
    have := digits1_any pos x W
    simpa using this
  go_enter Tryd.func52, Tryd.ntmps52
  go_wp2_with fail
  refine (run_any 66 #[] (enters_of Tryd.func66 (by kernel_rfl) rfl) dgB s w hg).mono ?_
  rintro e w' ⟨rfl, hb⟩
  go_wp2
  go_ret
  exact ⟨rfl, hb⟩
set_option maxRecDepth 100000 in
theorem line1_any (pos r : Nat) (w : World) : Calls Tryd.prog 51 #[.int .i64 pos, .int .i32 r] w fun e w' => e = .returned (.bool (linB pos r)) ∧ Below w.heap.size w w' := by
  have HE : Hid (linB pos r = ((r : Int) != 10)) := Lib.hid (by unfold linB; rw [Bool.eq_iff_iff]; simp; omega)
  go_enter Tryd.func51, Tryd.ntmps51
  go_wp2
  go_ret
  exact ⟨by rw [HE.out]; rfl, Below.refl _ _⟩
set_option maxRecDepth 100000 in
theorem line_any (s : ByteArray) (w : World) : Calls Tryd.prog 35 #[.string s] w fun e w' => e = .returned (.int .i64 (stopF linB s s.size 0)) ∧ Below w.heap.size w w' := by
  have hg : AskGrows 51 #[] linB w := fun W pos x hx _ => by
    have := line1_any pos x W
    simpa using this
  go_enter Tryd.func35, Tryd.ntmps35
  go_wp2_with fail
  refine (run_any 51 #[] (enters_of Tryd.func51 (by kernel_rfl) rfl) linB s w hg).mono ?_
  rintro e w' ⟨rfl, hb⟩
  go_wp2
  go_ret
  exact ⟨rfl, hb⟩

/-- The bytes of a rune behind its first are no bytes of Ascii, and they are there. -/
theorem high_byte {s : ByteArray} {pos k : Nat} (hp : pos < s.size) (hk : 0 < k) (hkw : k < (Utf8.decode s pos).2) : 128 ≤ bt s (pos + k) ∧ pos + k < s.size := by
  have hd := Lib.decode_at s pos
  have hc := Lib.decodeN_conts (s.size - pos) (s.get! pos).toNat (s.get! (pos + 1)).toNat (s.get! (pos + 2)).toNat (s.get! (pos + 3)).toNat
  rw [← hd] at hc
  obtain ⟨c2, c3, c4, c5⟩ := hc
  unfold bt
  obtain rfl | rfl | rfl : k = 1 ∨ k = 2 ∨ k = 3 := by omega
  · obtain ⟨h1, h2⟩ := c2 (by omega); exact ⟨by omega, by omega⟩
  · obtain ⟨h1, h2⟩ := c3 (by omega); exact ⟨by omega, by omega⟩
  · obtain ⟨h1, h2⟩ := c4 (by omega); exact ⟨by omega, by omega⟩
theorem width_in {s : ByteArray} {pos : Nat} (hp : pos < s.size) : 1 ≤ (Utf8.decode s pos).2 ∧ pos + (Utf8.decode s pos).2 ≤ s.size := by
  have h1 := Lib.width_pos s pos
  refine ⟨h1, ?_⟩
  by_cases h : (Utf8.decode s pos).2 = 1
  · omega
  · have := (high_byte (k := (Utf8.decode s pos).2 - 1) hp (by omega) (by omega)).2
    omega
theorem rune_low {s : ByteArray} {pos : Nat} (hp : pos < s.size) (h : (Utf8.decode s pos).1 < 128) : (Utf8.decode s pos).1 = bt s pos ∧ bt s pos < 128 := by
  rcases Nat.lt_or_ge (bt s pos) 128 with h1 | h1
  · rw [decode_low hp h1]; exact ⟨rfl, h1⟩
  · have := (decode_high s pos hp (by rw [← bt_eq hp]; exact h1)).1
    omega
/-- Where line stops: at the first line's end, or behind all. -/
theorem line_spec (s : ByteArray) : ∀ f pos, s.size ≤ pos + f → pos ≤ s.size → pos ≤ stopF linB s f pos ∧ stopF linB s f pos ≤ s.size ∧ (∀ i, pos ≤ i → i < stopF linB s f pos → bt s i ≠ 10) ∧ (stopF linB s f pos < s.size → bt s (stopF linB s f pos) = 10)
  | 0, pos, h, hp => by
    show pos ≤ s.size ∧ s.size ≤ s.size ∧ (∀ i, pos ≤ i → i < s.size → _) ∧ (s.size < s.size → _)
    exact ⟨hp, Nat.le_refl _, fun i h1 h2 => by omega, fun h1 => by omega⟩
  | f + 1, pos, h, hp => by
    by_cases hlt : pos < s.size
    · unfold stopF
      rw [if_pos hlt]
      obtain ⟨w1, w2⟩ := width_in hlt
      by_cases hr : (Utf8.decode s pos).1 = 10
      · rw [show linB pos (Utf8.decode s pos).1 = false by unfold linB; rw [hr]; rfl]
        simp only [Bool.false_eq_true, if_false]
        refine ⟨Nat.le_refl _, hp, fun i h1 h2 => by omega, fun _ => ?_⟩
        rw [← (rune_low hlt (by omega)).1, hr]
      · rw [show linB pos (Utf8.decode s pos).1 = true by unfold linB; rw [decide_eq_false hr]; rfl]
        simp only [if_true]
        obtain ⟨a1, a2, a3, a4⟩ := line_spec s f (pos + (Utf8.decode s pos).2) (by omega) w2
        refine ⟨by omega, a2, fun i h1 h2 => ?_, a4⟩
        by_cases hi : i < pos + (Utf8.decode s pos).2
        · by_cases he : i = pos
          · subst he
            intro h10
            have := decode_low hlt (by omega)
            rw [this] at hr
            exact hr h10
          · have := (high_byte (k := i - pos) hlt (by omega) (by omega)).1
            rw [show pos + (i - pos) = i by omega] at this
            omega
        · exact a3 i (by omega) h2
    · rw [stopF_end linB s (f + 1) pos hlt]
      exact ⟨hp, Nat.le_refl _, fun i h1 h2 => by omega, fun h1 => by omega⟩
/-- Where a run stops that takes Ascii alone: at the first byte that it does not take, or behind all. -/
theorem low_spec {p : Nat → Nat → Bool} (hh : ∀ pos r, 128 ≤ r → p pos r = false) (s : ByteArray) : ∀ f pos, s.size ≤ pos + f → pos ≤ s.size → pos ≤ stopF p s f pos ∧ stopF p s f pos ≤ s.size ∧ (∀ i, pos ≤ i → i < stopF p s f pos → p i (bt s i) = true) ∧ (stopF p s f pos < s.size → p (stopF p s f pos) (bt s (stopF p s f pos)) = false)
  | 0, pos, h, hp => by
    show pos ≤ s.size ∧ s.size ≤ s.size ∧ (∀ i, pos ≤ i → i < s.size → _) ∧ (s.size < s.size → _)
    exact ⟨hp, Nat.le_refl _, fun i h1 h2 => by omega, fun h1 => by omega⟩
  | f + 1, pos, h, hp => by
    by_cases hlt : pos < s.size
    · unfold stopF
      rw [if_pos hlt]
      cases hq : p pos (Utf8.decode s pos).1 with
      | false =>
        simp only [Bool.false_eq_true, if_false]
        refine ⟨Nat.le_refl _, hp, fun i h1 h2 => by omega, fun _ => ?_⟩
        rcases Nat.lt_or_ge (bt s pos) 128 with h1 | h1
        · rw [decode_low hlt h1] at hq; exact hq
        · exact hh _ _ h1
      | true =>
        have hl : (Utf8.decode s pos).1 < 128 := by
          rcases Nat.lt_or_ge (Utf8.decode s pos).1 128 with h1 | h1
          · exact h1
          · rw [hh _ _ h1] at hq; cases hq
        obtain ⟨e1, e2⟩ := rune_low hlt hl
        rw [decode_low hlt e2] at hq ⊢
        simp only [if_true]
        obtain ⟨a1, a2, a3, a4⟩ := low_spec hh s f (pos + 1) (by omega) (by omega)
        refine ⟨by omega, a2, fun i h1 h2 => ?_, a4⟩
        by_cases he : i = pos
        · subst he; exact hq
        · exact a3 i (by omega) h2
    · rw [stopF_end p s (f + 1) pos hlt]
      exact ⟨hp, Nat.le_refl _, fun i h1 h2 => by omega, fun h1 => by omega⟩
theorem dgB_high (pos r : Nat) (h : 128 ≤ r) : dgB pos r = false := digB_high h
theorem okB_high' (pos r : Nat) (h : 128 ≤ r) : okB pos r = false := okB_high h
/-- Two places with one and the same word for 'the first from here on' are one. -/
theorem first_one {q : Nat → Prop} {n pos a b : Nat} (ha : pos ≤ a ∧ a ≤ n ∧ (∀ i, pos ≤ i → i < a → q i) ∧ (a < n → ¬ q a)) (hb : pos ≤ b ∧ b ≤ n ∧ (∀ i, pos ≤ i → i < b → q i) ∧ (b < n → ¬ q b)) : a = b := by
  rcases Nat.lt_trichotomy a b with h | h | h
  · exact absurd (hb.2.2.1 a ha.1 h) (ha.2.2.2 (by omega))
  · exact h
  · exact absurd (ha.2.2.1 b hb.1 h) (hb.2.2.2 (by omega))
/-- The first place from one on at which a byte is none of p's, or behind all. -/
def runE (p : Nat → Bool) (s : ByteArray) : Nat → Nat → Nat
  | 0, pos => pos
  | f + 1, pos => if pos < s.size then (if p (bt s pos) then runE p s f (pos + 1) else pos) else pos
theorem runE_spec (p : Nat → Bool) (s : ByteArray) : ∀ f pos, s.size ≤ pos + f → pos ≤ s.size → pos ≤ runE p s f pos ∧ runE p s f pos ≤ s.size ∧ (∀ i, pos ≤ i → i < runE p s f pos → p (bt s i) = true) ∧ (runE p s f pos < s.size → ¬ p (bt s (runE p s f pos)) = true)
  | 0, pos, h, hp => by
    show pos ≤ pos ∧ pos ≤ s.size ∧ (∀ i, pos ≤ i → i < pos → _) ∧ (pos < s.size → _)
    exact ⟨Nat.le_refl _, hp, fun i h1 h2 => by omega, fun h1 => by omega⟩
  | f + 1, pos, h, hp => by
    unfold runE
    by_cases hlt : pos < s.size
    · rw [if_pos hlt]
      by_cases hq : p (bt s pos) = true
      · rw [if_pos hq]
        obtain ⟨a1, a2, a3, a4⟩ := runE_spec p s f (pos + 1) (by omega) (by omega)
        refine ⟨by omega, a2, fun i h1 h2 => ?_, a4⟩
        by_cases he : i = pos
        · subst he; exact hq
        · exact a3 i (by omega) h2
      · rw [if_neg hq]
        exact ⟨Nat.le_refl _, hp, fun i h1 h2 => by omega, fun _ => hq⟩
    · rw [if_neg hlt]
      exact ⟨Nat.le_refl _, hp, fun i h1 h2 => by omega, fun h1 => by omega⟩
/-- A text from a place on. -/
def tailS (s : ByteArray) (at' : Nat) : ByteArray := s.extract at' s.size
theorem tail_size {s : ByteArray} {a : Nat} : (tailS s a).size = s.size - a := by unfold tailS; simp [ByteArray.size_extract]
theorem tail_bt {s : ByteArray} {a i : Nat} (hi : a + i < s.size) : bt (tailS s a) i = bt s (a + i) := by
  have h1 : i < (s.extract a s.size).size := by have := tail_size (s := s) (a := a); unfold tailS at this; omega
  rw [show bt (tailS s a) i = bt (s.extract a s.size) i from rfl, bt_eq h1, bt_eq hi]
  simp [ByteArray.getElem_extract]
/-- How many bytes the word, the number, the sign have that a text begins with. -/
def wordN (s : ByteArray) : Nat := stopF okB s s.size 0
def digN (s : ByteArray) : Nat := stopF dgB s s.size 0
def twoB (a b : Nat) : Bool := (a == 58 && b == 61) || (a == 61 && b == 61) || (a == 33 && b == 61) || (a == 60 && b == 61) || (a == 45 && b == 62) || (a == 38 && b == 38) || (a == 124 && b == 124) || (a == 61 && b == 62)
def oneB (a : Nat) : Bool := a == 40 || a == 41 || a == 91 || a == 93 || a == 123 || a == 125 || a == 59 || a == 44 || a == 58 || a == 46 || a == 60 || a == 43 || a == 45 || a == 42 || a == 33 || a == 63 || a == 64
def signN (s : ByteArray) : Nat := if 1 < s.size ∧ twoB (bt s 0) (bt s 1) = true then 2 else if 0 < s.size ∧ oneB (bt s 0) = true then 1 else 0
/-- The word, by bytes. -/
theorem wordN_eq (s : ByteArray) (a : Nat) (h : a < s.size) : a + wordN (tailS s a) = if letB (bt s a) then runE wB s s.size a else a := by
  have hz : (tailS s a).size = s.size - a := tail_size
  obtain ⟨h1, h2, h3, h4⟩ := low_spec okB_high' (tailS s a) (tailS s a).size 0 (by omega) (by omega)
  have hb0 : bt (tailS s a) 0 = bt s a := by rw [tail_bt (by omega)]; rfl
  have hbi : ∀ i, i < s.size - a → bt (tailS s a) i = bt s (a + i) := fun i hi => tail_bt (by omega)
  unfold wordN
  obtain ⟨e, he⟩ : ∃ e, stopF okB (tailS s a) (tailS s a).size 0 = e := ⟨_, rfl⟩
  rw [he] at h1 h2 h3 h4 ⊢
  by_cases hl : letB (bt s a) = true
  · rw [if_pos hl]
    refine first_one (q := fun i => wB (bt s i) = true) (n := s.size) (pos := a) ⟨by omega, by omega, fun i g1 g2 => ?_, fun g => ?_⟩ (runE_spec wB s s.size a (by omega) (by omega))
    · have := h3 (i - a) (by omega) (by omega)
      rw [hbi _ (by omega), show a + (i - a) = i by omega] at this
      by_cases e0 : i - a = 0
      · rw [e0, ok_first] at this; exact wB_let this
      · rw [ok_later (by omega)] at this; exact this
    · have h5 := h4 (by omega)
      rw [hbi _ (by omega)] at h5
      by_cases e0 : e = 0
      · subst e0
        rw [ok_first, Nat.add_zero] at h5
        rw [hl] at h5; cases h5
      · rw [ok_later (by omega)] at h5
        simp [h5]
  · rw [if_neg hl]
    by_cases e0 : e = 0
    · rw [e0]; rfl
    · have := h3 0 (Nat.le_refl _) (by omega)
      rw [ok_first, hb0] at this
      exact absurd this hl
theorem digN_eq (s : ByteArray) (a : Nat) (h : a < s.size) : a + digN (tailS s a) = runE (fun b => digB b) s s.size a := by
  have hz : (tailS s a).size = s.size - a := tail_size
  obtain ⟨h1, h2, h3, h4⟩ := low_spec dgB_high (tailS s a) (tailS s a).size 0 (by omega) (by omega)
  have hbi : ∀ i, i < s.size - a → bt (tailS s a) i = bt s (a + i) := fun i hi => tail_bt (by omega)
  unfold digN
  obtain ⟨e, he⟩ : ∃ e, stopF dgB (tailS s a) (tailS s a).size 0 = e := ⟨_, rfl⟩
  rw [he] at h1 h2 h3 h4 ⊢
  refine first_one (q := fun i => digB (bt s i) = true) (n := s.size) (pos := a) ⟨by omega, by omega, fun i g1 g2 => ?_, fun g => ?_⟩ (runE_spec (fun b => digB b) s s.size a (by omega) (by omega))
  · have := h3 (i - a) (by omega) (by omega)
    rw [hbi _ (by omega), show a + (i - a) = i by omega] at this
    exact this
  · have h5 := h4 (by omega)
    rw [hbi _ (by omega)] at h5
    show ¬ digB (bt s (a + e)) = true
    rw [show digB (bt s (a + e)) = false from h5]
    decide
/-- Where the remark that begins at a place ends: at the first line's end, or behind all. -/
theorem lineN_eq (s : ByteArray) (a : Nat) (h : a < s.size) : a + stopF linB (tailS s a) (tailS s a).size 0 = runE (fun b => !decide (b = 10)) s s.size a := by
  have hz : (tailS s a).size = s.size - a := tail_size
  obtain ⟨h1, h2, h3, h4⟩ := line_spec (tailS s a) (tailS s a).size 0 (by omega) (by omega)
  have hbi : ∀ i, i < s.size - a → bt (tailS s a) i = bt s (a + i) := fun i hi => tail_bt (by omega)
  obtain ⟨e, he⟩ : ∃ e, stopF linB (tailS s a) (tailS s a).size 0 = e := ⟨_, rfl⟩
  rw [he] at h1 h2 h3 h4 ⊢
  refine first_one (q := fun i => (!decide (bt s i = 10)) = true) (n := s.size) (pos := a) ⟨by omega, by omega, fun i g1 g2 => ?_, fun g => ?_⟩ (runE_spec (fun b => !decide (b = 10)) s s.size a (by omega) (by omega))
  · have := h3 (i - a) (by omega) (by omega)
    rw [hbi _ (by omega), show a + (i - a) = i by omega] at this
    simp [this]
  · have h5 := h4 (by omega)
    rw [hbi _ (by omega)] at h5
    simp [h5]

/-- The runes from one place on come to another one. -/
inductive Hits (s : ByteArray) : Nat → Nat → Prop
  | here (a : Nat) : Hits s a a
  | on {a b : Nat} (h : a < s.size) (hh : Hits s (a + (Utf8.decode s a).2) b) : Hits s a b
theorem Hits.le {s : ByteArray} {a b : Nat} (h : Hits s a b) : a ≤ b := by
  induction h with
  | here => exact Nat.le_refl _
  | on h _ ih => omega
theorem Hits.next {s : ByteArray} {a b : Nat} (h : Hits s a b) (hlt : a < b) : Hits s (a + (Utf8.decode s a).2) b := by
  cases h with
  | here => omega
  | on _ hh => exact hh
/-- .. where the other one is the end, or an Ascii byte. -/
theorem hits_low (s : ByteArray) : ∀ d a b, b ≤ a + d → a ≤ b → b ≤ s.size → (b < s.size → bt s b < 128) → Hits s a b
  | 0, a, b, h, h1, _, _ => by rw [show b = a by omega]; exact .here a
  | d + 1, a, b, h, h1, h2, h3 => by
    by_cases e : a = b
    · subst e; exact .here _
    · obtain ⟨w1, w2⟩ := width_in (s := s) (pos := a) (by omega)
      refine .on (by omega) (hits_low s d _ b (by omega) ?_ h2 h3)
      refine Decidable.byContradiction fun hn => ?_
      have := (high_byte (s := s) (pos := a) (k := b - a) (by omega) (by omega) (by omega))
      rw [show a + (b - a) = b by omega] at this
      have := h3 this.2
      omega
/-- .. where all between them are Ascii bytes. -/
theorem hits_all (s : ByteArray) : ∀ d a b, b = a + d → b ≤ s.size → (∀ i, a ≤ i → i < b → bt s i < 128) → Hits s a b
  | 0, a, b, h, _, _ => by subst h; exact .here _
  | d + 1, a, b, h, h2, h3 => by
    refine .on (by omega) ?_
    rw [decode_low (by omega) (h3 a (Nat.le_refl _) (by omega))]
    exact hits_all s d (a + 1) b (by omega) h2 (fun i g1 g2 => h3 i (by omega) g2)
end Go.Proofs.YtgnflnfajkoibaaDoor.lx
