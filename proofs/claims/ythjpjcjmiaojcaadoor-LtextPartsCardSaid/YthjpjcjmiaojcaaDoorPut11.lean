/- Contracts that the claim stands on, several texts in one: LtlRefused, LtxPart, LtxTextAll, LtxParse. -/
import Derived.Shelf.Abstract
import Derived.Test.YthjpjcjmiaojcaaDoorPut1
import Derived.Test.YthjpjcjmiaojcaaDoorPut2
import Derived.Test.YthjpjcjmiaojcaaDoorPut3
import Derived.Test.YthjpjcjmiaojcaaDoorPut4
import Derived.Test.YthjpjcjmiaojcaaDoorPut5
import Derived.Test.YthjpjcjmiaojcaaDoorPut6
import Derived.Test.YthjpjcjmiaojcaaDoorPut7
import Derived.Test.YthjpjcjmiaojcaaDoorPut8
import Derived.Test.YthjpjcjmiaojcaaDoorPut9
import Derived.Test.YthjpjcjmiaojcaaDoorPut10
namespace Go.Proofs.YthjpjcjmiaojcaaDoor.lt.wn
open Go.ChangeShapes Go.WideShapes Go.ChangeAt Go.RowKit

set_option maxHeartbeats 1000000 in
theorem made_any (k : Nat) (v : Value) (w : World) : Calls Tryd.prog 40 #[.int .i64 k, v] w fun e w' => e = .returned (.agg #[]) ∧ Below w.heap.size w w' := by
  go_enter Tryd.func40, Tryd.ntmps40
  go_wp2
  exact bodyPost_ret (v := .agg #[]) (by simp [results, Tryd.results40, go_sem]) rfl ⟨rfl, (Below.refl _ _).alloc (Nat.le_refl _) _⟩

set_option maxRecDepth 20000 in
theorem tail_run (B : Option Addr) (left t d : Nat) : ∃ B2, ∀ W, (Instr.sliceAt 80 (.slice B (left + t) d) (some (.int .i64 (left : Int))) none none).run Tryd.prog W = .ok (.slice B2 t (d - left)) W := by
  refine ⟨if d = left then B else B.map (·.add 0), fun W => ?_⟩
  have hsz : (sizeOf (Tryd.prog.elem 80)).run Tryd.prog W = .ok 0 W := by simp [go_sem]
  rw [run_sliceAt_slice (P := Tryd.prog) W 80 _ _ _ _ Tryd.underlying80, run_slice_l (P := Tryd.prog) W 80 B (left + t) d Tryd.underlying80 .i64 left (by omega) (by omega), hsz]
  simp [Result.andThen, sliced]
set_option maxRecDepth 20000 in
theorem head_run (B : Option Addr) (left t d : Nat) (h : left + t ≤ d) (W : World) : (Instr.sliceAt 80 (.slice B (left + t) d) none (some (.int .i64 (left : Int))) none).run Tryd.prog W = .ok (.slice B left d) W := by
  have hsz : (sizeOf (Tryd.prog.elem 80)).run Tryd.prog W = .ok 0 W := by simp [go_sem]
  rw [run_sliceAt_slice (P := Tryd.prog) W 80 _ _ _ _ Tryd.underlying80, run_slice_h (P := Tryd.prog) W 80 B (left + t) d Tryd.underlying80 .i64 left (by omega) (by omega), hsz]
  cases B <;> simp [Result.andThen, sliced, Addr.add]

set_option maxRecDepth 20000 in
set_option maxHeartbeats 4000000 in
theorem work_any (e : List (Int × Int)) (A : Option Addr) (c m : Nat) (w : World) (hm : m = e.length) (hA : PA w A e) (hlm : m ≤ 1000) :
    Calls Tryd.prog 39 #[.slice A m c, .func (.func 40) #[] #[]] w fun x w' => x = .returned (.tuple #[.agg #[], .int .i64 (wrF 0 e)]) ∧ Below w.heap.size w w' := by
  have HM := Lib.hid hm
  have HA := Lib.hid hA
  have eg := enters_of Tryd.func40 (by kernel_rfl) rfl
  clear hm hA
  obtain ⟨z, HZ⟩ : ∃ z, Hid (wrF 0 e = z) := ⟨_, Lib.hid rfl⟩
  rw [HZ.out]
  go_enter Tryd.func39, Tryd.ntmps39
  go_wp2
  go_loopw [7, 14] (fun s i wr => ∃ (k n : Nat) (B : Option Addr) (d : Nat), k ≤ m ∧ i = .int .i64 k ∧ s = .slice B n d ∧ n ≤ k ∧ Hid (n ≤ d ∧ (B = none → d = 0)) ∧ Hid (Below w.heap.size w wr) ∧ Hid (z = wrF n (e.drop k))) (fun _ i _ => m - (intOf i).toNat)
  case atStart => exact ⟨0, 0, none, 0, Nat.zero_le _, rfl, rfl, Nat.le_refl _, Lib.hid ⟨Nat.le_refl _, fun _ => rfl⟩, Lib.hid (((Below.refl _ _).alloc (Nat.le_refl _) _).alloc (by simp) _), Lib.hid HZ.out.symm⟩
  case round =>
    obtain ⟨k, n, B, d, hk, rfl, rfl, hn, HC, HW, HR⟩ := hrel
    by_cases hlt : k < m
    · obtain ⟨b, o, rfl, hb, hc⟩ := (HA.out.below HW.out) (by rw [← HM.out]; omega)
      obtain ⟨c1, c2⟩ := hc k (by rw [← HM.out]; exact hlt)
      have HK : Hid (k < e.length) := Lib.hid (by rw [← HM.out]; exact hlt)
      obtain ⟨op, q, HND⟩ : ∃ op q, Hid (e.getD k (0, 0) = (op, q)) := ⟨_, _, Lib.hid rfl⟩
      rw [HND.out] at c1 c2
      clear hc
      go_wp2_with fail
      refine (left_any op q n _ (by omega)).mono ?_
      rintro x w1 ⟨rfl, hb1⟩
      have HB1W : Hid (Below wr.heap.size wr w1) := Lib.hid (((Below.refl _ _).alloc (Nat.le_refl _) _).trans (hb1.mono (by simp)))
      clear hb1 c1 c2
      by_cases hw : ndW n (op, q) = 0
      · obtain ⟨h1, h2, _⟩ := ndW_ok hw
        obtain ⟨t, HT⟩ : ∃ t : Nat, Hid (kT op = t) := ⟨(kT op).toNat, Lib.hid (by simp at h1; omega)⟩
        have htn : t ≤ n := by have := HT.out; simp at h2; omega
        obtain ⟨left, rfl⟩ : ∃ left, n = left + t := ⟨n - t, by omega⟩
        have HLV : Hid (leftV (left + t) (op, q) = (left : Int)) := Lib.hid (by unfold leftV; rw [if_pos hw]; show ((left + t : Nat) : Int) - kT op = _; rw [HT.out]; omega)
        have HW0 := Lib.hid hw
        rw [HLV.out, HW0.out]
        have EH := head_run B left t d HC.out.1
        obtain ⟨B2, ET⟩ := tail_run B left t d
        have HE : Hid (z = wrF (left + 1) (e.drop (k + 1))) := Lib.hid (by
          rw [HR.out, wr_next HK.out (by rw [HND.out]; exact HW0.out), HND.out]
          show wrF (left + t - (kT op).toNat + 1) _ = _
          rw [HT.out]
          congr 1
          simp)
        have HBW : Hid (Below w.heap.size w w1) := Lib.hid (HW.out.trans (HB1W.out.mono HW.out.size))
        have HLD : Hid (left ≤ d) := Lib.hid (by have := HC.out.1; omega)
        have HCALL : Hid (∀ W, Calls Tryd.prog 40 (#[.int .i64 k, .slice B2 t (d - left)] ++ #[]) W (fun e w' => e = .returned (.agg #[]) ∧ Below W.heap.size W w')) := Lib.hid (fun W => made_any k _ W)
        clear h1 h2 hw
        go_wp2_with fail
        go_region_held3 (fun _ => True) (trivial)
          (first
            | (refine (HCALL.out _).mono ?_; rintro x w3 ⟨rfl, hb3⟩; have HB3 : Hid (Below w.heap.size w w3) := Lib.hid (by first | exact HBW.out.drew.trans (hb3.mono HBW.out.size) | exact HBW.out.trans (hb3.mono HBW.out.size)); clear hb3)
            | (refine step_append (by rfl) (.tmp 32) (.tmp 39) (by rfl) (by rfl) B _ left d _ (by rfl) (by rfl) HLD.out HC.out.2 (by omega) ?_; intro A4 c4 w4 hc4 hb4; have HC4 := Lib.hid hc4; have HB4 : Hid (Below w.heap.size w w4) := Lib.hid ((HB3.out.alloc HB3.out.size _).trans (hb4.mono (by have := HB3.out.size; simp; omega))); clear hc4 hb4)
            | fail)
        clear EH ET
        go_wp2
        go_roundw
        case rel => exact ⟨k + 1, left + 1, some A4, c4, by omega, by go_num, rfl, by omega, Lib.hid ⟨HC4.out, fun h => by cases h⟩, HB4, HE⟩
        case measure => simp [intOf]; omega
      · obtain ⟨y, HY⟩ : ∃ y, Hid (ndW n (op, q) = y) := ⟨_, Lib.hid rfl⟩
        have HE : Hid (z = y) := Lib.hid (by rw [HR.out, wr_stop HK.out (by rw [HND.out]; exact hw), HND.out, HY.out])
        have HLV : Hid (leftV n (op, q) = 0) := Lib.hid (by unfold leftV; rw [if_neg hw])
        rw [HLV.out, HY.out]
        rw [HY.out] at hw
        have hz : (y != 0) = true := by simpa using hw
        go_wp2
        exact bodyPost_ret (v := .tuple #[.agg #[], .int .i64 y]) (by simp [results, Tryd.results39, go_sem]) rfl ⟨by rw [HE.out], HW.out.trans (HB1W.out.mono HW.out.size)⟩
    · obtain rfl : k = m := by omega
      have HE : Hid (z = if n = 0 then 4 else if 1 < n then 5 else 0) := Lib.hid (by rw [HR.out, wr_end (by rw [HM.out]; exact Nat.le_refl _)])
      by_cases n0 : n = 0
      · subst n0
        have HE2 : Hid (z = 4) := Lib.hid (HE.out.trans (if_pos rfl))
        clear HE
        go_wp2
        exact bodyPost_ret (v := .tuple #[.agg #[], .int .i64 4]) (by simp [results, Tryd.results39, go_sem]) rfl ⟨by rw [HE2.out], HW.out⟩
      · by_cases n1 : 1 < n
        · have HE2 : Hid (z = 5) := Lib.hid (HE.out.trans ((if_neg n0).trans (if_pos n1)))
          clear HE
          go_wp2
          exact bodyPost_ret (v := .tuple #[.agg #[], .int .i64 5]) (by simp [results, Tryd.results39, go_sem]) rfl ⟨by rw [HE2.out], HW.out⟩
        · obtain rfl : n = 1 := by omega
          have HE2 : Hid (z = 0) := Lib.hid (HE.out.trans ((if_neg n0).trans (if_neg n1)))
          obtain ⟨a, rfl⟩ : ∃ a, B = some a := by
            rcases B with _ | a
            · exact absurd HC.out.1 (by rw [HC.out.2 rfl]; decide)
            · exact ⟨a, rfl⟩
          clear HE n0 n1
          go_wp2
          exact bodyPost_ret (v := .tuple #[.agg #[], .int .i64 0]) (by simp [results, Tryd.results39, go_sem]) rfl ⟨by rw [HE2.out], HW.out⟩

theorem refused_any (e : List (Int × Int)) (A : Option Addr) (c m : Nat) (w : World) (hm : m = e.length) (hA : PA w A e) (hlm : m ≤ 1000) :
    Calls Tryd.prog 23 #[.slice A m c] w fun x w' => x = .returned (.int .i64 (wrF 0 e)) ∧ Below w.heap.size w w' := by
  have HK := Lib.hid (work_any e A c m w hm hA hlm)
  clear hm hA
  go_enter Tryd.func23, Tryd.ntmps23
  go_wp2_with fail
  refine HK.out.mono ?_
  rintro x w1 ⟨rfl, hb⟩
  have HB := Lib.hid hb
  clear hb
  go_wp2
  go_ret
  exact ⟨rfl, HB.out.alloc HB.out.size _⟩
theorem check_any (e : List (Int × Int)) (A : Option Addr) (c m : Nat) (w : World) (hm : m = e.length) (hA : PA w A e) (hlm : m ≤ 1000) :
    Calls Tryd.prog 14 #[.slice A m c] w fun x w' => x = .returned (.int .i64 (if 24 < m then 5 else wrF 0 e)) ∧ Below w.heap.size w w' := by
  have HK := Lib.hid (refused_any e A c m w hm hA hlm)
  clear hm hA
  obtain ⟨z, HZ⟩ : ∃ z, Hid ((if 24 < m then 5 else wrF 0 e) = z) := ⟨_, Lib.hid rfl⟩
  rw [HZ.out]
  by_cases h : 24 < m
  · have HE : Hid (z = 5) := Lib.hid (by rw [← HZ.out, if_pos h])
    go_enter Tryd.func14, Tryd.ntmps14
    go_wp2
    go_ret
    exact ⟨by rw [HE.out]; rfl, Below.refl _ _⟩
  · have HE : Hid (wrF 0 e = z) := Lib.hid (by rw [← HZ.out, if_neg h])
    go_enter Tryd.func14, Tryd.ntmps14
    go_wp2_with fail
    refine HK.out.mono ?_
    rintro x w' ⟨rfl, hb⟩
    have HB := Lib.hid hb
    clear hb
    rw [HE.out]
    go_wp2
    go_ret
    exact ⟨rfl, HB.out⟩
end Go.Proofs.YthjpjcjmiaojcaaDoor.lt.wn
namespace Go.Proofs.YthjpjcjmiaojcaaDoor.tx
open Go.ChangeShapes Go.WideShapes Go.ChangeAt Go.RowKit Go.Deep sr lt

theorem brack (s : List UInt8) : (⟨#[40]⟩ : ByteArray) ++ ⟨s.toArray⟩ ++ ⟨#[41]⟩ = ⟨([40] ++ (s ++ [41])).toArray⟩ := by
  rw [show (⟨#[40]⟩ : ByteArray) = ⟨[(40 : UInt8)].toArray⟩ from rfl, show (⟨#[41]⟩ : ByteArray) = ⟨[(41 : UInt8)].toArray⟩ from rfl, mk_app, mk_app, List.append_assoc]
theorem bare_size {A : Option Addr} {m c : Nat} {NA : Option Addr} {n d : Nat} {e : List (Int × Int)} {N : List ByteArray} {w : World} {f i : Nat} {o : Opr} (h : WrOk w A m c NA n d e N) (hi : i < e.length) (ho : opO (e.getD i (0, 0)).1 = some o) : (bB e N f i o).size ≤ 3000 := by
  have h1 := tB_size h (f + 1) i 0 hi
  have h2 : tB e N (f + 1) i 0 = bB e N f i o := by
    unfold tB bB
    rw [txF_some ho]
    have : 0 < o.bd := by
      have : ∀ x ∈ opsQ, 0 < x.bd := by decide
      exact this o (opO_mem ho).1
    rw [if_neg (by omega)]
  rw [h2] at h1
  exact h1
set_option maxRecDepth 20000 in
set_option maxHeartbeats 8000000 in
theorem part_step (A : Option Addr) (m c : Nat) (NA : Option Addr) (n d : Nat) (e : List (Int × Int)) (N : List ByteArray) (f : Nat) (hP : PartC A m c NA n d e N f) : PartC A m c NA n d e N (f + 1) := by
  intro i a w hif hi h
  have H := Lib.hid h
  have hie : i < e.length := by rw [← h.lm]; exact hi
  obtain ⟨b, o, rfl, hb, hc⟩ := h.pa (by omega)
  obtain ⟨d1, d2⟩ := hc i hie
  obtain ⟨op, q, HND⟩ : ∃ op q, Hid (e.getD i (0, 0) = (op, q)) := ⟨_, _, Lib.hid rfl⟩
  rw [HND.out] at d1 d2
  simp only at d1 d2
  have HD : Hid (∀ W, Below w.heap.size w W → W.cell? ⟨b, o + i * 2, none⟩ = some (.int .i64 op) ∧ W.cell? ⟨b, o + i * 2 + 1, none⟩ = some (.int .i64 q)) := Lib.hid (fun W hW => ⟨(hW.cell (p := ⟨b, o + i * 2, none⟩) hb).trans d1, (hW.cell (p := ⟨b, o + i * 2 + 1, none⟩) hb).trans d2⟩)
  have HIE := Lib.hid hie
  clear hc d1 d2 h hie
  obtain ⟨z, HZ⟩ : ∃ z, Hid (tB e N (f + 1) i a = z) := ⟨_, Lib.hid rfl⟩
  rw [HZ.out]
  have HN1 := World.alloc_heap_new w (.cells #[.slice (some ⟨b, o, none⟩) m c, .slice NA n d] 44)
  have HB1 : Hid (Below w.heap.size w (w.alloc (.cells #[.slice (some ⟨b, o, none⟩) m c, .slice NA n d] 44))) := Lib.hid (below_one _ _)
  obtain ⟨w1, HW1⟩ : ∃ w1, w1 = w.alloc (.cells #[.slice (some ⟨b, o, none⟩) m c, .slice NA n d] 44) := ⟨_, rfl⟩
  rw [← HW1] at HN1 HB1
  have HG1 := Lib.hid HN1
  clear HN1
  go_enter Tryd.func16, Tryd.ntmps16
  go_upto_region 1 with (fail)
  rw [← HW1]
  clear HW1
  obtain ⟨g, HGG⟩ : ∃ g, Hid (w.heap.size = g) := ⟨_, Lib.hid rfl⟩
  rw [HGG.out] at HG1 ⊢
  have cell : ∀ {b i : Nat} {cs : Array Value} {t : TypeId} {v : Value}, w1.heap[b]? = some (.cells cs t (0, 0)) → cs[i]? = some v → b < w1.heap.size ∧ w1.cell? ⟨b, i, none⟩ = some v := fun h hv => ⟨(Array.getElem?_eq_some_iff.1 h).1, by simp [World.cell?, h, hv]⟩
  have HV : Hid (∀ W, Below w1.heap.size w1 W → W.cell? ⟨g, 0, none⟩ = some (.slice (some ⟨b, o, none⟩) m c) ∧ W.cell? ⟨g, 1, none⟩ = some (.slice NA n d)) := Lib.hid (fun W hW =>
    ⟨(hW.cell (p := ⟨g, 0, none⟩) (cell HG1.out (i := 0) rfl).1).trans (cell HG1.out rfl).2, (hW.cell (p := ⟨g, 1, none⟩) (cell HG1.out (i := 0) rfl).1).trans (cell HG1.out rfl).2⟩)
  clear cell
  have HW1 := Lib.hid (H.out.below HB1.out)
  obtain ⟨c0, c1⟩ := HV.out w1 (Below.refl _ _)
  obtain ⟨e0, e1⟩ := HD.out w1 HB1.out
  go_wp2_with fail
  clear c0 c1 e0 e1
  refine (operationOf_any op w1 HW1.out.ow).mono ?_
  obtain ⟨r, HR⟩ : ∃ r, Hid (opO op = r) := ⟨_, Lib.hid rfl⟩
  rw [HR.out]
  rintro x w2 ⟨rfl, hb2⟩
  have HB2 : Hid (Below w1.heap.size w1 w2) := Lib.hid hb2
  clear hb2
  cases r with
  | none =>
    have h3 : Hid (op = 3 ∧ 0 ≤ q) := Lib.hid (by
      rcases node_of H.out.is_ HIE.out with ⟨q', h1, h2, _⟩ | ⟨o', h1, _⟩
      · rw [HND.out] at h1; injection h1 with h4 h5; rw [h5]; exact ⟨h4, h2⟩
      · rw [HND.out, HR.out] at h1; cases h1)
    obtain ⟨k, rfl⟩ : ∃ k : Nat, q = k := ⟨q.toNat, by have := h3.out.2; omega⟩
    have hok := H.out.ok i k HIE.out (by rw [HND.out, h3.out.1])
    rw [Int.toNat_natCast] at hok
    have hkn : k < n := hok.1
    obtain ⟨nb, no, rfl, hnb, hnc⟩ := str_at H.out.nm.rs (i := k) (by rw [← H.out.nm.ln]; exact hkn)
    obtain ⟨s, HS⟩ : ∃ s, Hid (N.getD k default = s) := ⟨_, Lib.hid rfl⟩
    rw [HS.out] at hnc hok
    have HSZ := Lib.hid hok.2
    have HE : Hid (z = s) := Lib.hid (by
      rw [← HZ.out]
      unfold tB
      rw [txF_none (by rw [HND.out]; exact HR.out), HND.out]
      show (⟨((NL N).getD (k : Int).toNat []).toArray⟩ : ByteArray) = s
      rw [Int.toNat_natCast, NL_at, HS.out])
    have HBA : Hid (Below w1.heap.size w1 (w2.alloc (.cells #[.int .i64 0, .string ⟨#[]⟩, .int .i64 0, .int .i64 0, .int .i64 0] 58))) := Lib.hid (HB2.out.alloc HB2.out.size _)
    have HNC : Hid (∀ W, Below w.heap.size w W → W.cell? ⟨nb, no + k, none⟩ = some (.string s)) := Lib.hid (fun W hW => (hW.cell (p := ⟨nb, no + k, none⟩) hnb).trans hnc)
    clear hok hnc
    obtain ⟨w5, HW5⟩ : ∃ w5, w5 = w2.alloc (.cells #[.int .i64 0, .string ⟨#[]⟩, .int .i64 0, .int .i64 0, .int .i64 0] 58) := ⟨_, rfl⟩
    rw [← HW5] at HBA
    simp only [oV, brO, sgA, Option.getD_none, Option.isSome_none]
    go_upto_region 3 with (fail)
    have HW5' : w2.alloc (.cells #[.int .i64 0, .string ⟨[].toArray⟩, .int .i64 0, .int .i64 0, .int .i64 0] 58) = w5 := HW5.symm
    simp only [← HW5]
    clear HW5 HW5'
    have HVS : Hid (∀ W, Below w5.heap.size w5 W → W.cell? ⟨g, 0, none⟩ = some (.slice (some ⟨b, o, none⟩) m c) ∧ W.cell? ⟨g, 1, none⟩ = some (.slice (some ⟨nb, no, none⟩) n d) ∧ W.cell? ⟨b, o + i * 2 + 1, none⟩ = some (.int .i64 (k : Int)) ∧ W.cell? ⟨nb, no + k, none⟩ = some (.string s)) := Lib.hid (fun W hW => by
      have h1 := HBA.out.trans (hW.mono HBA.out.size)
      have h2 := HB1.out.trans (h1.mono HB1.out.size)
      exact ⟨(HV.out W h1).1, (HV.out W h1).2, (HD.out W h2).2, HNC.out W h2⟩)
    obtain ⟨k0, k1, k2, k3⟩ := HVS.out w5 (Below.refl _ _)
    have hki : (k : Int) < (n : Int) := by omega
    go_region_held3 (fun w' => w'.cell? ⟨g, 0, none⟩ = some (.slice (some ⟨b, o, none⟩) m c) ∧ w'.cell? ⟨g, 1, none⟩ = some (.slice (some ⟨nb, no, none⟩) n d) ∧ w'.cell? ⟨b, o + i * 2 + 1, none⟩ = some (.int .i64 (k : Int)) ∧ w'.cell? ⟨nb, no + k, none⟩ = some (.string s))
      (first | exact ⟨k0, k1, k2, k3⟩ | exact ⟨l0, l1, l2, l3⟩ | go_keep)
      ((go_at_call 28; refine ((lx.clone_any s _ (by have := HSZ.out; omega)).mono (fun x w' h => (⟨h.1, h.2⟩ : StrP s _ x w'))).mono ?_; rintro x w6 ⟨rfl, hb6⟩; have HB6 : Hid (Below w5.heap.size w5 w6) := Lib.hid (RowKit.Below.trans (Below.refl _ w5).drew hb6); obtain ⟨l0, l1, l2, l3⟩ := HVS.out w6 HB6.out; clear hb6))
    go_wp2
    go_ret
    refine ⟨by rw [HE.out]; rfl, ?_⟩
    have h1 := HBA.out.trans (HB6.out.mono HBA.out.size)
    exact HB1.out.trans (h1.mono HB1.out.size)
  | some oo =>
    have HBARE : Hid (∀ W, Below w1.heap.size w1 W → Calls Tryd.prog 29 #[.agg #[.slice (some ⟨b, o, none⟩) m c, .slice NA n d], .int .i64 i, oV oo] W (StrP (bB e N f i oo) W)) := Lib.hid (fun W hW => bare_any _ m c NA n d e N f i oo W hP (by omega) hi (HW1.out.below hW) (by rw [HND.out]; exact HR.out))
    have HBS : Hid ((bB e N f i oo).size ≤ 3000) := Lib.hid (bare_size H.out HIE.out (by rw [HND.out]; exact HR.out))
    have HE : Hid (z = if oo.bd < a then (⟨#[40]⟩ : ByteArray) ++ bB e N f i oo ++ ⟨#[41]⟩ else bB e N f i oo) := Lib.hid (by
      rw [← HZ.out]
      unfold tB
      rw [txF_some (by rw [HND.out]; exact HR.out)]
      unfold bB
      split
      · exact (brack _).symm
      · rfl)
    obtain ⟨T, HT⟩ : ∃ T, Hid (bB e N f i oo = T) := ⟨_, Lib.hid rfl⟩
    rw [HT.out] at HBARE HBS HE
    simp only [Option.getD_some, Option.isSome_some]
    unfold oV at HBARE ⊢
    obtain ⟨op', sg, bd, lf, rt⟩ := oo
    obtain ⟨sb, HSB⟩ : ∃ sb, Hid (sgA ⟨op', sg, bd, lf, rt⟩ = sb) := ⟨_, Lib.hid rfl⟩
    rw [HSB.out] at HBARE ⊢
    dsimp only at HBARE HE ⊢
    have HN5 := World.alloc_heap_new w2 (.cells #[.int .i64 op', .string sb, .int .i64 bd, .int .i64 lf, .int .i64 rt] 58)
    have HBA : Hid (Below w1.heap.size w1 (w2.alloc (.cells #[.int .i64 op', .string sb, .int .i64 bd, .int .i64 lf, .int .i64 rt] 58))) := Lib.hid (HB2.out.alloc HB2.out.size _)
    obtain ⟨w5, HW5⟩ : ∃ w5, w5 = w2.alloc (.cells #[.int .i64 op', .string sb, .int .i64 bd, .int .i64 lf, .int .i64 rt] 58) := ⟨_, rfl⟩
    rw [← HW5] at HBA HN5
    have HG5 := Lib.hid HN5
    clear HN5
    go_upto_region 4 with (fail)
    rw [← HW5]
    clear HW5
    have cell : ∀ {b i : Nat} {cs : Array Value} {t : TypeId} {v : Value}, w5.heap[b]? = some (.cells cs t (0, 0)) → cs[i]? = some v → w5.cell? ⟨b, i, none⟩ = some v := fun h hv => by simp [World.cell?, h, hv]
    have q0 : w5.cell? ⟨w2.heap.size, 0, none⟩ = some (.int .i64 op') := cell HG5.out rfl
    have q1 : w5.cell? ⟨w2.heap.size, 1, none⟩ = some (.string sb) := cell HG5.out rfl
    have q2 : w5.cell? ⟨w2.heap.size, 2, none⟩ = some (.int .i64 bd) := cell HG5.out rfl
    have q3 : w5.cell? ⟨w2.heap.size, 3, none⟩ = some (.int .i64 lf) := cell HG5.out rfl
    have q4 : w5.cell? ⟨w2.heap.size, 4, none⟩ = some (.int .i64 rt) := cell HG5.out rfl
    clear cell
    obtain ⟨k0, k1⟩ := HV.out w5 HBA.out
    have HFIN : Hid (∀ W, Below w5.heap.size w5 W → Below w.heap.size w W) := Lib.hid (fun W hW => by
      have h1 := HBA.out.trans (hW.mono HBA.out.size)
      exact HB1.out.trans (h1.mono HB1.out.size))
    by_cases hbd : bd < a
    · obtain ⟨z1, h1⟩ : ∃ z, (⟨#[40]⟩ : ByteArray) ++ T = z := ⟨_, rfl⟩
      obtain ⟨z2, h2⟩ : ∃ z, z1 ++ (⟨#[41]⟩ : ByteArray) = z := ⟨_, rfl⟩
      have s1 : z1.size = 1 + T.size := by rw [← h1, size_app]; rfl
      have HE2 : Hid (z = z2) := Lib.hid (by rw [HE.out, if_pos hbd, h1, h2])
      have hts := HBS.out
      have e1 := fun W => str_add (P := Tryd.prog) h1 (by show 1 + T.size ≤ _; omega) W
      have e2 := fun W => str_add (P := Tryd.prog) h2 (by show z1.size + 1 ≤ _; omega) W
      clear h1 h2 s1 hts
      go_wp2_with fail
      refine (HBARE.out w5 HBA.out).mono ?_
      rintro x w6 ⟨rfl, hb6⟩
      have HB6 := Lib.hid hb6
      clear hb6 q0 q1 q2 q3 q4 k0 k1
      go_wp2
      go_ret
      exact ⟨by rw [HE2.out]; rfl, HFIN.out w6 HB6.out⟩
    · have HE2 : Hid (z = T) := Lib.hid (by rw [HE.out, if_neg hbd])
      go_wp2_with fail
      refine (HBARE.out w5 HBA.out).mono ?_
      rintro x w6 ⟨rfl, hb6⟩
      have HB6 := Lib.hid hb6
      clear hb6 q0 q1 q2 q3 q4 k0 k1
      go_wp2
      go_ret
      exact ⟨by rw [HE2.out]; rfl, HFIN.out w6 HB6.out⟩
theorem part_any (A : Option Addr) (m c : Nat) (NA : Option Addr) (n d : Nat) (e : List (Int × Int)) (N : List ByteArray) : ∀ f, PartC A m c NA n d e N f
  | 0 => fun i a w hi => absurd hi (by omega)
  | f + 1 => part_step A m c NA n d e N f (part_any A m c NA n d e N f)
end Go.Proofs.YthjpjcjmiaojcaaDoor.tx
namespace Go.Proofs.YthjpjcjmiaojcaaDoor.tx
open Go.ChangeShapes Go.WideShapes Go.ChangeAt Go.RowKit Go.Deep sr lt

/-- What is wrong first with the names of propositions. -/
def nmW (N : List ByteArray) : List (Int × Int) → Int
  | [] => 0
  | x :: e => if x.1 ≠ 3 then nmW N e else if (N.length : Int) ≤ x.2 then 8 else if mayB N x.2.toNat = true then nmW N e else 6
theorem nmW_ok {N : List ByteArray} : ∀ {e : List (Int × Int)}, nmW N e = 0 → ∀ i q, i < e.length → e.getD i (0, 0) = (3, q) → q < N.length ∧ mayB N q.toNat = true
  | [], _, i, q, hi, _ => absurd hi (by simp)
  | x :: e, h, i, q, hi, hq => by
    unfold nmW at h
    rcases i with _ | i
    · have hx : x = (3, q) := hq
      subst hx
      rw [if_neg (by simp)] at h
      split at h
      · cases h
      · split at h
        · rename_i h1 h2
          exact ⟨by simp only at h1; omega, h2⟩
        · cases h
    · have hq' : e.getD i (0, 0) = (3, q) := by simpa [List.getD] using hq
      have hi' : i < e.length := by simpa using hi
      split at h
      · exact nmW_ok h i q hi' hq'
      · split at h
        · cases h
        · split at h
          · exact nmW_ok h i q hi' hq'
          · cases h
theorem nmW_drop {N : List ByteArray} {e : List (Int × Int)} {i : Nat} (hi : i < e.length) : nmW N (e.drop i) = if (e.getD i (0, 0)).1 ≠ 3 then nmW N (e.drop (i + 1)) else if (N.length : Int) ≤ (e.getD i (0, 0)).2 then 8 else if mayB N (e.getD i (0, 0)).2.toNat = true then nmW N (e.drop (i + 1)) else 6 := by
  rw [drop_nd hi, nmW]
theorem name_size {s : ByteArray} (h : lx.nameB s = true) : s.size ≤ 16 := by
  unfold lx.nameB at h
  simp only [Bool.and_eq_true, decide_eq_true_eq] at h
  omega
/-- The text of nodes, and why they have none. -/
def textV (e : List (Int × Int)) (N : List ByteArray) : ByteArray × Int :=
  if 24 < e.length then (⟨#[]⟩, 5) else if wrF 0 e ≠ 0 then (⟨#[]⟩, wrF 0 e) else if nmW N e ≠ 0 then (⟨#[]⟩, nmW N e) else (tB e N e.length (e.length - 1) 1, 0)
def TextP (r : ByteArray × Int) (w : World) (x : Ending) (w' : World) : Prop := x = .returned (.tuple #[.string r.1, .int .i64 r.2]) ∧ Below w.heap.size w w'
set_option maxRecDepth 20000 in
set_option maxHeartbeats 4000000 in
theorem text_any (A : Option Addr) (m c : Nat) (NA : Option Addr) (n d : Nat) (e : List (Int × Int)) (N : List ByteArray) (w : World) (hm : m = e.length) (hz : m ≤ 1000) (hA : PA w A e) (hN : NmS w NA n d N) (hO : OpsW w) :
    Calls Tryd.prog 9 #[.slice A m c, .slice NA n d] w (TextP (textV e N) w) := by
  have HM := Lib.hid hm
  have HA := Lib.hid hA
  have HN := Lib.hid hN
  have HO := Lib.hid hO
  have HK := Lib.hid (wn.check_any e A c m w hm hA hz)
  have HLN := Lib.hid hN.ln
  clear hm hA hN hO
  obtain ⟨z, HZ⟩ : ∃ z, Hid ((if 24 < m then 5 else wrF 0 e) = z) := ⟨_, Lib.hid rfl⟩
  obtain ⟨r1, r2, HR⟩ : ∃ r1 r2, Hid (textV e N = (r1, r2)) := ⟨_, _, Lib.hid rfl⟩
  rw [HR.out]
  by_cases hz0 : z = 0
  · subst hz0
    have HMW : Hid (m ≤ 24 ∧ wrF 0 e = 0) := Lib.hid (by
      have h := HZ.out
      by_cases h24 : 24 < m
      · rw [if_pos h24] at h; cases h
      · rw [if_neg h24] at h; exact ⟨by omega, h⟩)
    have HRV : Hid (textV e N = if nmW N e ≠ 0 then (⟨#[]⟩, nmW N e) else (tB e N e.length (e.length - 1) 1, 0)) := Lib.hid (by
      unfold textV
      rw [if_neg (by rw [← HM.out]; have := HMW.out.1; omega), if_neg (by rw [HMW.out.2]; decide)])
    have hm24 : m ≤ 24 := HMW.out.1
    go_enter Tryd.func9, Tryd.ntmps9
    go_wp2_with fail
    refine HK.out.mono ?_
    rw [HZ.out]
    rintro x w1 ⟨rfl, hb1⟩
    have HB1 := Lib.hid hb1
    clear hb1 HK
    go_wp2
    go_loopw [16] (fun iv wr => ∃ i : Nat, i ≤ m ∧ iv = .int .i64 i ∧ Hid (nmW N e = nmW N (e.drop i)) ∧ Hid (Below w.heap.size w wr)) (fun iv _ => m - (intOf iv).toNat)
    case atStart => exact ⟨0, Nat.zero_le _, rfl, Lib.hid rfl, HB1⟩
    case round =>
      obtain ⟨i, hi, rfl, HF, HB⟩ := hrel
      by_cases hlt : i < m
      · have HIL : Hid (i < e.length) := Lib.hid (by rw [← HM.out]; exact hlt)
        obtain ⟨b, o, rfl, hb, hc⟩ := (HA.out.below HB.out) (by rw [← HM.out]; omega)
        obtain ⟨c1, c2⟩ := hc i HIL.out
        have HDR := Lib.hid (nmW_drop (N := N) HIL.out)
        have HQ8 : Hid ((e.getD i (0, 0)).1 = 3 → 0 ≤ (e.getD i (0, 0)).2 ∧ (e.getD i (0, 0)).2 < 8) := Lib.hid (by
          obtain ⟨st, _, h3⟩ := Ok.of_is HMW.out.2 i (by rw [← HM.out]; omega)
          exact (ndW_ok (h3 HIL.out)).2.2)
        obtain ⟨op, q, HND⟩ : ∃ op q, Hid (e.getD i (0, 0) = (op, q)) := ⟨_, _, Lib.hid rfl⟩
        rw [HND.out] at c1 c2 HDR HQ8
        simp only at c1 c2
        clear hc
        have hwz : w.heap.size ≤ wr.heap.size := HB.out.size
        by_cases h3 : op = 3
        · subst h3
          have hq8 := HQ8.out rfl
          obtain ⟨k, rfl⟩ : ∃ k : Nat, q = k := ⟨q.toNat, by have := hq8.1; simp only at this; omega⟩
          have HBA : Hid (Below w.heap.size w (wr.alloc (.cells #[.int .i64 3, .int .i64 (k : Int)] 39))) := Lib.hid (HB.out.alloc hwz _)
          clear hq8
          by_cases hn : n ≤ k
          · have HE : Hid (r1 = ⟨#[]⟩ ∧ r2 = 8) := Lib.hid (by
              have h8 : nmW N e = 8 := by rw [HF.out, HDR.out, if_neg (by simp), if_pos (by rw [← HLN.out]; simp only; omega)]
              have h := HR.out
              rw [HRV.out, if_pos (by rw [h8]; decide), h8] at h
              injection h with h1 h2
              exact ⟨h1.symm, h2.symm⟩)
            go_wp2
            go_ret2
            exact ⟨by rw [HE.out.1, HE.out.2]; rfl, HBA.out⟩
          · have hkn : k < n := by omega
            obtain ⟨v, HV⟩ : ∃ v, Hid (mayB N k = v) := ⟨_, Lib.hid rfl⟩
            have HNX : Hid (nmW N e = if v = true then nmW N (e.drop (i + 1)) else 6) := Lib.hid (by
              rw [HF.out, HDR.out, if_neg (by simp), if_neg (by rw [← HLN.out]; simp only; omega)]
              simp only [Int.toNat_natCast, HV.out])
            go_upto_region 8 with (fail)
            have n0 : (wr.alloc (.cells #[.int .i64 3, .int .i64 (k : Int)] 39)).cell? ⟨wr.heap.size, 0, none⟩ = some (.int .i64 3) := World.cell?_alloc_at _ _ _ _ rfl
            have n1 : (wr.alloc (.cells #[.int .i64 3, .int .i64 (k : Int)] 39)).cell? ⟨wr.heap.size, 1, none⟩ = some (.int .i64 (k : Int)) := World.cell?_alloc_at _ _ _ _ rfl
            generalize wr.alloc (.cells #[.int .i64 3, .int .i64 (k : Int)] 39) = w5 at *
            go_wp2_with fail
            refine (mayBe_any NA n d k N w5 (HN.out.below HBA.out) hkn (HO.out.keep HBA.out)).mono ?_
            rw [HV.out]
            rintro x w6 ⟨rfl, hb6⟩
            have HB6 : Hid (Below w.heap.size w w6) := Lib.hid (HBA.out.trans (hb6.mono HBA.out.size))
            clear hb6 n0 n1
            cases v with
            | true =>
              have HNX2 : Hid (nmW N e = nmW N (e.drop (i + 1))) := Lib.hid HNX.out
              clear HNX
              go_wp2
              go_roundw
              case rel => exact ⟨i + 1, by omega, by go_num, HNX2, HB6⟩
              case measure => simp [intOf]; omega
            | false =>
              have HE : Hid (r1 = ⟨#[]⟩ ∧ r2 = 6) := Lib.hid (by
                have h8 : nmW N e = 6 := HNX.out
                have h := HR.out
                rw [HRV.out, if_pos (by rw [h8]; decide), h8] at h
                injection h with h1 h2
                exact ⟨h1.symm, h2.symm⟩)
              clear HNX
              go_wp2
              go_ret2
              exact ⟨by rw [HE.out.1, HE.out.2]; rfl, HB6.out⟩
        · have h3b : (op != 3) = true := by simpa using h3
          have HNX : Hid (nmW N e = nmW N (e.drop (i + 1))) := Lib.hid (by rw [HF.out, HDR.out, if_pos h3])
          go_wp2
          go_roundw
          case rel => exact ⟨i + 1, by omega, by go_num, HNX, Lib.hid (HB.out.alloc hwz _)⟩
          case measure => simp [intOf]; omega
      · obtain rfl : i = m := by omega
        have HN0 : Hid (nmW N e = 0) := Lib.hid (by rw [HF.out, HM.out, List.drop_length]; rfl)
        have HE : Hid (r1 = tB e N i (i - 1) 1 ∧ r2 = 0) := Lib.hid (by
          have h := HR.out
          rw [HRV.out, if_neg (by rw [HN0.out]; decide), ← HM.out] at h
          injection h with h1 h2
          exact ⟨h1.symm, h2.symm⟩)
        have hpos : 0 < i := by have := (whole_last HMW.out.2).1; rw [HM.out]; exact this
        have HWO : Hid (WrOk wr A i c NA n d e N) := Lib.hid ⟨HA.out.below HB.out, HM.out, by omega, HN.out.below HB.out, HMW.out.2, HO.out.keep HB.out, fun j q hj hq => by
          have h1 := nmW_ok HN0.out j q hj hq
          have h0 : 0 ≤ q := by
            obtain ⟨st, _, h3⟩ := Ok.of_is HMW.out.2 j (by omega)
            have h4 := (ndW_ok (h3 hj)).2.2
            rw [hq] at h4
            exact (h4 rfl).1
          refine ⟨by rw [HLN.out]; omega, name_size ?_⟩
          have h2 := h1.2
          unfold mayB at h2
          rw [Bool.and_eq_true] at h2
          exact h2.1⟩
        obtain ⟨l, rfl⟩ : ∃ l, i = l + 1 := ⟨i - 1, by omega⟩
        rw [Nat.add_sub_cancel] at HE
        go_wp2_with fail
        refine (part_any A (l + 1) c NA n d e N (l + 1) l 1 wr (by omega) (by omega) HWO.out).mono ?_
        rintro x w6 ⟨rfl, hb6⟩
        have HB6 : Hid (Below w.heap.size w w6) := Lib.hid (HB.out.trans (hb6.mono HB.out.size))
        clear hb6
        go_wp2
        go_ret2
        exact ⟨by rw [HE.out.1, HE.out.2]; rfl, HB6.out⟩
  · have hzb : (z != 0) = true := by simpa using hz0
    have HE : Hid (r1 = ⟨#[]⟩ ∧ r2 = z) := Lib.hid (by
      have h := HR.out
      unfold textV at h
      rw [← HM.out] at h
      by_cases h24 : 24 < m
      · rw [if_pos h24] at h
        have h5 := HZ.out
        rw [if_pos h24] at h5
        injection h with h1 h2
        exact ⟨h1.symm, by rw [← h2, h5]⟩
      · rw [if_neg h24] at h
        have h5 := HZ.out
        rw [if_neg h24] at h5
        rw [if_pos (by rw [h5]; exact hz0), h5] at h
        injection h with h1 h2
        exact ⟨h1.symm, h2.symm⟩)
    go_enter Tryd.func9, Tryd.ntmps9
    go_wp2_with fail
    refine HK.out.mono ?_
    rw [HZ.out]
    rintro x w1 ⟨rfl, hb1⟩
    have HB1 := Lib.hid hb1
    clear hb1 HK
    go_wp2
    go_ret2
    exact ⟨by rw [HE.out.1, HE.out.2]; rfl, HB1.out⟩
end Go.Proofs.YthjpjcjmiaojcaaDoor.tx
namespace Go.Proofs.YthjpjcjmiaojcaaDoor.tx
open Go.ChangeShapes Go.WideShapes Go.ChangeAt Go.RowKit Go.Deep sr lt

/-- What is asked of the listed variables. -/
structure LxW (w : World) : Prop where
  sg : lx.SgW w
  tabs : Tabs w
  ops : OpsW w
theorem LxW.below {w w' : World} (h : LxW w) (hb : Below w.heap.size w w') : LxW w' := ⟨h.sg.below hb, h.tabs.below hb, OpsW.keep h.ops hb⟩
theorem LxW.num {w : World} (h : LxW w) : lx.NumC numD w := fun t W hz hW => _root_.Go.Proofs.YthjpjcjmiaojcaaDoor.number_any t W hz (h.tabs.below hW)
/-- What the reader tells of the tokens of a text. -/
def redV (N : List ByteArray) (s : ByteArray) (toks : List lx.Tok) : List (Int × Int) × Nat × Int := allV N (allT toks s.size) (runF (prN N) (tkL (allT toks s.size)) rd0)
/-- What Parse tells of a text, by what Scan tells of it. -/
def parseT (N : List ByteArray) (s : ByteArray) (r : lx.Res) : List (Int × Int) × Nat × Int :=
  if r.2.2 = 0 then
    (if (redV N s r.1).2.2 = 0 then
      (if 24 < (redV N s r.1).1.length then ([], s.size, 5)
      else if (textV (redV N s r.1).1 N).1 = s then ((redV N s r.1).1, 0, 0) else ([], apartF (textV (redV N s r.1).1 N).1 s, 13))
    else ([], (redV N s r.1).2))
  else ([], r.2.1, (r.2.2 : Nat))
def ParseP (N : List ByteArray) (s : ByteArray) (w : World) (e : Ending) (w' : World) : Prop :=
  ∃ r v, lx.ScanR numD s r ∧ e = .returned (.tuple #[v, .int .i64 ((parseT N s r).2.1 : Nat), .int .i64 (parseT N s r).2.2]) ∧ ON w.heap.size w' v (parseT N s r).1 ∧ Below w.heap.size w w'
theorem pa_of {w : World} {A : Option Addr} {l : List (Int × Int)} (h : RS encN 2 w A l) : PA w A l := fun hn => by
  obtain ⟨b, off, e, hb, hc⟩ := h hn
  refine ⟨b, off, e, hb, fun i hi => ?_⟩
  have e2 : l.getD i (0, 0) = l.getD i default := rfl
  rw [e2]
  exact ⟨hc i hi 0 (by decide), hc i hi 1 (by decide)⟩
theorem str_is {a b : ByteArray} : (a.toList == b.toList) = decide (a = b) := str_eq a b
theorem sc_few {s : ByteArray} {r : lx.Res} (h : lx.Sc numD s 0 [] r) : r.1.length ≤ 6000 := by
  by_cases h0 : r.2.2 = 0
  · obtain ⟨Q, rfl, ht, hl⟩ := h.tks h0
    rw [List.nil_append]
    simpa using hl (Nat.zero_le _)
  · rw [h.err h0]
    exact Nat.zero_le _
theorem all_len (N : List ByteArray) : ∀ (Q : List (Int × List UInt8)) (S : Rd), (runF (prN N) Q S).2.2.nd.length ≤ S.nd.length + S.pd.length + Q.length
  | [], S => by simp [runF]
  | (k, s) :: Q, S => by
    have h1 := step_len (prN N) k s S
    have h2 := all_len N Q (stepF (prN N) k s S).2
    unfold runF
    split
    · simp only [List.length_cons]; omega
    · simp only [List.length_cons]; omega
theorem red_len {N : List ByteArray} {s : ByteArray} {toks : List lx.Tok} (h : toks.length ≤ 6000) : (redV N s toks).1.length ≤ 6001 := by
  unfold redV allV
  split
  · have := all_len N (tkL (allT toks s.size)) rd0
    unfold tkL allT rd0 at *
    simp at *
    omega
  · simp
set_option maxRecDepth 20000 in
set_option maxHeartbeats 8000000 in
theorem parse_any (NA : Option Addr) (n d : Nat) (N : List ByteArray) (s : ByteArray) (w : World) (hN : NmS w NA n d N) (hx : LxW w) :
    Calls Tryd.prog 11 #[.string s, .slice NA n d] w (ParseP N s w) := by
  have HN := Lib.hid hN
  have HX := Lib.hid hx
  clear hN hx
  go_enter Tryd.func11, Tryd.ntmps11
  go_wp2_with fail
  refine (lx.scan_any numD s w HX.out.sg HX.out.num).mono ?_
  rintro x w2 ⟨r, v, hr, rfl, ho2, hb2⟩
  have HR := Lib.hid hr
  have HB2 := Lib.hid hb2
  have ho2 : OR lx.cellT 4 w.heap.size 72 w2 v r.1 := ho2
  have HO2 := Lib.hid ho2
  have HP : Hid (∀ p, parseT N s r = p → ∀ v w', ON w.heap.size w' v p.1 → Below w.heap.size w w' → ParseP N s w (.returned (.tuple #[v, .int .i64 (p.2.1 : Nat), .int .i64 p.2.2])) w') := Lib.hid (fun p hp v w' h1 h2 => by
    subst hp
    exact ⟨r, v, HR.out, rfl, h1, h2⟩)
  have HLT : Hid (∀ g, v.ownBlock = some g → g < w2.heap.size) := Lib.hid (fun g hg => (World.ownsRow.lt ho2 g hg).2)
  obtain ⟨A, c, l, rfl⟩ := or_form tokC_len ho2
  clear hr ho2 hb2
  obtain ⟨ts, at0, why⟩ := r
  dsimp only at HO2 ⊢
  by_cases hw : why = 0
  · subst hw
    have hsc : s.size ≤ 20000 ∧ lx.Sc numD s 0 [] (ts, at0, 0) := by
      rcases HR.out with ⟨_, h⟩ | h
      · injection h with h1 h; injection h with h2 h3; cases h3
      · exact h
    have HFW := Lib.hid (sc_few hsc.2)
    have HSZ := Lib.hid hsc.1
    have HRL := Lib.hid (red_len (N := N) (s := s) (sc_few hsc.2))
    have hs9 : (s.size : Int) ≤ 20000 := by have := hsc.1; omega
    clear hsc
    dsimp only at HFW HRL
    have hAC : Calls Tryd.prog 21 #[.pointer (some ⟨w2.heap.size, 0, none⟩), .slice A l c, .int .i64 (s.size : Nat)] (w2.alloc (.cells #[.slice NA n d, .nilFunc, .slice none 0 0, .slice none 0 0] 54)) (AllP w (redV N s ts)) :=
      all_any w _ w2.heap.size NA n d N (.slice A l c) ts s.size .nilFunc Rc.new (OR.below HO2.out (below_one _ _)) HLT.out (HB2.out.trans ((below_one w2 _).mono HB2.out.size)) HB2.out.size HN.out HX.out.ops HFW.out
    have HAC := Lib.hid hAC
    obtain ⟨V, HV⟩ : ∃ V, Hid (redV N s ts = V) := ⟨_, Lib.hid rfl⟩
    rw [HV.out] at HAC HRL
    clear hAC
    obtain ⟨E, qa, qy⟩ := V
    have HPT : Hid (parseT N s (ts, at0, 0) = if qy = 0 then (if 24 < E.length then ([], s.size, 5) else if (textV E N).1 = s then (E, 0, 0) else ([], apartF (textV E N).1 s, 13)) else ([], qa, qy)) := Lib.hid (by
      unfold parseT
      simp only [if_true]
      rw [HV.out])
    go_wp2_with fail
    refine HAC.out.mono ?_
    rintro x w3 ⟨v3, rfl, ho3, hb3⟩
    dsimp only at ho3 HRL ⊢
    have HB3 := Lib.hid hb3
    have HO3 := Lib.hid ho3
    obtain ⟨A4, c4, hv4, hr4⟩ := OR.rs encN_len ho3
    obtain ⟨m, hm⟩ : ∃ m, m = E.length := ⟨_, rfl⟩
    rw [← hm] at hv4
    subst hv4
    have HM := Lib.hid hm
    have HR4 := Lib.hid (pa_of hr4)
    clear hb3 ho3 hr4 HAC hm
    by_cases hy : qy = 0
    · subst hy
      by_cases h24 : 24 < m
      · have HP2 : Hid (parseT N s (ts, at0, 0) = ([], s.size, 5)) := Lib.hid (by rw [HPT.out, if_pos (by trivial), if_pos (by rw [← HM.out]; exact h24)])
        go_wp2
        go_ret3
        exact HP.out _ HP2.out _ _ (World.ownsRow_nil _ _ _ _) HB3.out
      · have hm24 : m ≤ 24 := by omega
        have HTC := Lib.hid (text_any A4 m c4 NA n d E N w3 HM.out (by omega) HR4.out (HN.out.below HB3.out) (OpsW.keep HX.out.ops HB3.out))
        obtain ⟨u, uy, HT⟩ : ∃ u uy, Hid (textV E N = (u, uy)) := ⟨_, _, Lib.hid rfl⟩
        rw [HT.out] at HTC HPT
        go_wp2_with fail
        refine HTC.out.mono ?_
        rintro x w5 ⟨rfl, hb5⟩
        have HB5 := Lib.hid (HB3.out.trans (hb5.mono HB3.out.size))
        have HO5 := Lib.hid (OR.below HO3.out hb5)
        clear hb5 HTC
        dsimp only at HPT ⊢
        by_cases he : u = s
        · have hbe : (u.toList == s.toList) = true := by rw [str_is, decide_eq_true he]
          have HP2 : Hid (parseT N s (ts, at0, 0) = (E, 0, 0)) := Lib.hid (by rw [HPT.out, if_pos (by trivial), if_neg (by rw [← HM.out]; exact h24), if_pos he])
          go_wp2
          go_ret3
          exact HP.out _ HP2.out _ _ HO5.out HB5.out
        · have hbe : (u.toList == s.toList) = false := by rw [str_is, decide_eq_false he]
          have HP2 : Hid (parseT N s (ts, at0, 0) = ([], apartF u s, 13)) := Lib.hid (by rw [HPT.out, if_pos (by trivial), if_neg (by rw [← HM.out]; exact h24), if_neg he])
          go_wp2_with fail
          refine (parting_any u s w5 (by have := HSZ.out; omega)).mono ?_
          rintro x w6 ⟨rfl, hb6⟩
          have HB6 := Lib.hid (HB5.out.trans (hb6.mono HB5.out.size))
          clear hb6
          go_wp2
          go_ret3
          exact HP.out _ HP2.out _ _ (World.ownsRow_nil _ _ _ _) HB6.out
    · have HP2 : Hid (parseT N s (ts, at0, 0) = ([], qa, qy)) := Lib.hid (by rw [HPT.out, if_neg hy])
      go_wp2
      go_ret3
      exact HP.out _ HP2.out _ _ (World.ownsRow_nil _ _ _ _) HB3.out
  · have hw2 : ¬ (why : Int) = 0 := by omega
    have HP2 : Hid (parseT N s (ts, at0, why) = ([], at0, (why : Int))) := Lib.hid (if_neg hw)
    go_wp2
    go_ret3
    exact HP.out _ HP2.out _ _ (World.ownsRow_nil _ _ _ _) HB2.out
end Go.Proofs.YthjpjcjmiaojcaaDoor.tx
