/- The document's next, not, fill, least. -/
import Derived.Test.YtophajljjnjcdaaWdRefAt
import Derived.Test.YtophajljjnjcdaaWdProw
namespace Go.Proofs.Ytophajljjnjcdaa.wd
open Go.ChangeShapes Go.WideShapes Go.ChangeAt Go.RowKit Go.Deep sr lt nf

set_option maxRecDepth 20000 in
theorem refNext_any (x : WX) (k n : Nat) (w : World) (h1 : x.n ≤ 1000) (h2 : x.m ≤ 1000) (hn : x.n + x.m = n) (h0 : 0 < x.m) (hk : k < n) : Calls Try.prog 52 #[x.v, .int .i64 k] w (ValP w (.int .i64 (nxt x.n n k : Nat))) := by
  have HLA := Lib.hid (fun w => refLen_any x w h1 h2)
  rw [hn] at HLA
  obtain ⟨A, s, c, B, q, d⟩ := x
  unfold WX.v at HLA ⊢
  dsimp only at h1 h2 hn h0 HLA ⊢
  obtain ⟨w1, HW1, HB1, HS1, HBX⟩ : ∃ w1, w.alloc (.cells #[.slice A s c, .slice B q d] 24) = w1 ∧ Hid (Below w.heap.size w w1) ∧ Hid (w1.heap.size = w.heap.size + 1) ∧ Hid (∀ W, Below w1.heap.size w1 W → W.cell? ⟨w.heap.size, 0, none⟩ = some (.slice A s c)) := by
    have e : (w.alloc (.cells #[.slice A s c, .slice B q d] 24)).heap.size = w.heap.size + 1 := by simp
    exact ⟨_, rfl, Lib.hid (below_one _ _), Lib.hid e, Lib.hid (fun W h => (h.cell (p := ⟨w.heap.size, 0, none⟩) (by show w.heap.size < _; omega)).trans (World.cell?_alloc_at _ _ _ _ (by simp)))⟩
  obtain ⟨y1, y2⟩ : w1.cell? ⟨w.heap.size, 0, none⟩ = some (.slice A s c) ∧ w1.cell? ⟨w.heap.size, 1, none⟩ = some (.slice B q d) := by
    rw [← HW1]
    exact ⟨World.cell?_alloc_at _ _ _ _ (by simp), World.cell?_alloc_at _ _ _ _ (by simp)⟩
  obtain ⟨r, HR⟩ : ∃ r : Nat, Hid (nxt s n k = r) := ⟨_, Lib.hid rfl⟩
  rw [HR.out]
  have hn2 : n ≤ 2000 := by omega
  by_cases hl : k + 1 < n
  · have hr : r = k + 1 := by have := HR.out; unfold nxt at this; rw [if_pos hl] at this; exact this.symm
    subst hr
    have hli : (k : Int) + 1 < (n : Int) := by omega
    clear hn HR
    go_enter Try.func52, Try.ntmps52
    go_upto_region 1 with (fail)
    clear HW1
    go_wp2_with fail
    refine (HLA.out _).mono ?_
    rintro e2 w2 ⟨rfl, hb2⟩
    have HB2 := Lib.hid (HB1.out.trans (hb2.mono HB1.out.size))
    clear hb2 y1 y2
    go_wp2
    go_ret
    exact ⟨by congr 2, HB2.out⟩
  · have hr : s = r := by have := HR.out; unfold nxt at this; rw [if_neg hl] at this; exact this
    subst hr
    have hli : ¬ (k : Int) + 1 < (n : Int) := by omega
    clear hn HR
    go_enter Try.func52, Try.ntmps52
    go_upto_region 1 with (fail)
    clear HW1
    go_wp2_with fail
    refine (HLA.out _).mono ?_
    rintro e2 w2 ⟨rfl, hb2⟩
    have HB2 := Lib.hid (HB1.out.trans (hb2.mono HB1.out.size))
    have y3 := HBX.out w2 hb2
    clear hb2 y1 y2
    go_wp2
    go_ret
    exact ⟨rfl, HB2.out⟩
set_option maxRecDepth 20000 in
set_option maxHeartbeats 2000000 in
theorem refNot_any (a : List Bool) (A : Option Addr) (c n : Nat) (w : World) (hn : a.length = n) (hn2 : n ≤ 2000) (hA : BL w A a) (hn0 : 0 < n) :
    Calls Try.prog 50 #[.slice A n c] w (OwnN w n (flipF a)) := by
  have hmk := wd_mk n (by omega)
  obtain ⟨ba, oa, rfl, hba, hca⟩ := hA (by omega)
  have HCA : Hid (∀ W, Below w.heap.size w W → ∀ j, j < n → W.cell? ⟨ba, oa + j, none⟩ = some (.bool (a.getD j false))) := Lib.hid (fun W h j hj => (h.cell (p := ⟨ba, oa + j, none⟩) hba).trans (hca j (by omega)))
  obtain ⟨L, HL⟩ : ∃ L, Hid (flipF a = L) := ⟨_, Lib.hid rfl⟩
  have HLN : Hid (L.length = n) := Lib.hid (by rw [← HL.out, flip_len]; exact hn)
  have HG : Hid (∀ i, i < n → (!(a.getD i false)) = L.getD i false) := Lib.hid (fun i hi => by rw [← HL.out, flip_get (by omega)])
  rw [HL.out]
  clear hca hA hn HL
  go_enter Try.func50, Try.ntmps50
  go_wp2
  go_loopw [4] (fun iv wr => ∃ i : Nat, i ≤ n ∧ iv = .int .i64 i ∧ Hid (wr.rowIs w.heap.size 4 n (fstB L i)) ∧ Hid (Below w.heap.size w wr)) (fun iv _ => n - (intOf iv).toNat)
  case atStart => exact ⟨0, Nat.zero_le _, rfl, Lib.hid ((World.rowIs_made w (.bool false) n 4).congr (fun j _ => by simp [fstB])), Lib.hid (below_one _ _)⟩
  case round =>
    obtain ⟨i, hi, rfl, HR, HB⟩ := hrel
    clear hmk
    by_cases hlt : i < n
    · have c1 := HCA.out wr HB.out i hlt
      obtain ⟨x, HX⟩ : ∃ x, Hid (a.getD i false = x) := ⟨_, Lib.hid rfl⟩
      rw [HX.out] at c1
      have hf := HG.out i hlt
      rw [HX.out] at hf
      have d1 := HR.out.cell hlt
      have f1 := HR.out.frozen i
      generalize fstB L i i = u at d1
      have hr2 := Lib.hid (fstB_step HR.out hf)
      have hb2 : Hid (Below w.heap.size w (wr.setCell ⟨w.heap.size, i, none⟩ (.bool (!x)))) := Lib.hid (HB.out.setCell (show w.heap.size ≤ (⟨w.heap.size, i, none⟩ : Addr).block from Nat.le_refl _) _)
      clear hf
      go_wp2
      go_roundw
      case rel => exact ⟨i + 1, by omega, by go_num, hr2, hb2⟩
      case measure => simp [intOf]; omega
    · obtain rfl : i = n := by omega
      go_wp2
      go_ret
      exact ⟨HLN.out, _, rfl, Nat.le_refl _, fstB_full HR.out, HB.out⟩
set_option maxRecDepth 20000 in
set_option maxHeartbeats 2000000 in
theorem refFill_any (n : Nat) (v : Bool) (w : World) (hn2 : n ≤ 2000) :
    Calls Try.prog 49 #[.int .i64 n, .bool v] w (OwnN w n (List.replicate n v)) := by
  have hmk := wd_mk n (by omega)
  obtain ⟨L, HL⟩ : ∃ L, Hid (List.replicate n v = L) := ⟨_, Lib.hid rfl⟩
  have HLN : Hid (L.length = n) := Lib.hid (by rw [← HL.out]; simp)
  have HG : Hid (∀ i, i < n → v = L.getD i false) := Lib.hid (fun i hi => by rw [← HL.out]; simp [List.getD, hi])
  rw [HL.out]
  clear HL
  go_enter Try.func49, Try.ntmps49
  go_wp2
  go_loopw [6] (fun iv wr => ∃ i : Nat, i ≤ n ∧ iv = .int .i64 i ∧ Hid (wr.rowIs w.heap.size 4 n (fstB L i)) ∧ Hid (Below w.heap.size w wr)) (fun iv _ => n - (intOf iv).toNat)
  case atStart => exact ⟨0, Nat.zero_le _, rfl, Lib.hid ((World.rowIs_made w (.bool false) n 4).congr (fun j _ => by simp [fstB])), Lib.hid (below_one _ _)⟩
  case round =>
    obtain ⟨i, hi, rfl, HR, HB⟩ := hrel
    clear hmk
    by_cases hlt : i < n
    · have hf := HG.out i hlt
      have d1 := HR.out.cell hlt
      have f1 := HR.out.frozen i
      generalize fstB L i i = u at d1
      have hr2 := Lib.hid (fstB_step HR.out hf)
      have hb2 : Hid (Below w.heap.size w (wr.setCell ⟨w.heap.size, i, none⟩ (.bool v))) := Lib.hid (HB.out.setCell (show w.heap.size ≤ (⟨w.heap.size, i, none⟩ : Addr).block from Nat.le_refl _) _)
      clear hf
      go_wp2
      go_roundw
      case rel => exact ⟨i + 1, by omega, by go_num, hr2, hb2⟩
      case measure => simp [intOf]; omega
    · obtain rfl : i = n := by omega
      go_wp2
      go_ret
      exact ⟨HLN.out, _, rfl, Nat.le_refl _, fstB_full HR.out, HB.out⟩
/-- The row of least, as far as it goes. -/
def lsB (L : List Bool) (j : Nat) : Value := .bool (L.getD j false)
theorem ls_put {w : World} {g : Nat} {t : TypeId} {a b : List Bool} {s n tt p : Nat} {x : Bool} (h : w.rowIs g t n (lsB (lsF a b s n tt (p + 1)))) (hs : s < n) (hp : p < n) (hx : x = (lsF a b s n tt p).getD p false) : (w.setCell ⟨g, p, none⟩ (.bool x)).rowIs g t n (lsB (lsF a b s n tt p)) :=
  (h.set p _).congr (fun j hj => by
    by_cases hjp : j = p
    · subst hjp; simp only [if_pos, lsB]; rw [hx]
    · simp only [if_neg hjp, lsB]
      rw [ls_other hj hjp])
set_option maxRecDepth 20000 in
set_option maxHeartbeats 4000000 in
theorem refLeast_any (x : WX) (a b : List Bool) (A B : Option Addr) (c d n : Nat) (w : World) (h1 : x.n ≤ 1000) (h2 : x.m ≤ 1000) (hn : x.n + x.m = n) (h0 : 0 < x.m) (ha : a.length = n) (hb : b.length = n) (hA : BL w A a) (hB : BL w B b) :
    Calls Try.prog 51 #[x.v, .slice A n c, .slice B n d] w (OwnN w n (untF a b x.n)) := by
  have HNX := Lib.hid (fun k w (hk : k < n) => refNext_any x k n w h1 h2 hn h0 hk)
  have hmk := wd_mk n (by omega)
  obtain ⟨P, s, pc, Q, q, qc⟩ := x
  unfold WX.v at HNX ⊢
  dsimp only at h1 h2 hn h0 HNX ⊢
  obtain ⟨w1, HW1, HB1, HBX⟩ : ∃ w1, w.alloc (.cells #[.slice P s pc, .slice Q q qc] 24) = w1 ∧ Hid (Below w.heap.size w w1) ∧ Hid (∀ W, Below w1.heap.size w1 W → W.cell? ⟨w.heap.size, 0, none⟩ = some (.slice P s pc) ∧ W.cell? ⟨w.heap.size, 1, none⟩ = some (.slice Q q qc)) := by
    have e : (w.alloc (.cells #[.slice P s pc, .slice Q q qc] 24)).heap.size = w.heap.size + 1 := by simp
    exact ⟨_, rfl, Lib.hid (below_one _ _), Lib.hid (fun W h => ⟨(h.cell (p := ⟨w.heap.size, 0, none⟩) (by show w.heap.size < _; omega)).trans (World.cell?_alloc_at _ _ _ _ (by simp)), (h.cell (p := ⟨w.heap.size, 1, none⟩) (by show w.heap.size < _; omega)).trans (World.cell?_alloc_at _ _ _ _ (by simp))⟩)⟩
  have hsn : s < n := by omega
  have hn2 : n ≤ 2000 := by omega
  obtain ⟨ba, oa, rfl, hba, hca⟩ := hA (by omega)
  obtain ⟨bb, ob, rfl, hbb, hcb⟩ := hB (by omega)
  have HCA : Hid (∀ W, Below w1.heap.size w1 W → ∀ j, j < n → W.cell? ⟨ba, oa + j, none⟩ = some (.bool (a.getD j false)) ∧ W.cell? ⟨bb, ob + j, none⟩ = some (.bool (b.getD j false))) := Lib.hid (fun W h j hj => by
    have h' := HB1.out.trans (h.mono HB1.out.size)
    exact ⟨(h'.cell (p := ⟨ba, oa + j, none⟩) hba).trans (hca j (by omega)), (h'.cell (p := ⟨bb, ob + j, none⟩) hbb).trans (hcb j (by omega))⟩)
  have HU := Lib.hid (ls_unt (b := b) hsn ha)
  have hmk1 := hmk w1
  have HST := Lib.hid (fun t p (hp : p < n) => ls_step (a := a) (b := b) (t := t) hsn hp)
  clear hca hcb hA hB ha hb hmk hn
  go_enter Try.func51, Try.ntmps51
  go_upto_region 1 with (fail)
  clear HW1
  obtain ⟨w2, HW2, HB2, HR2⟩ : ∃ w2, w1.alloc (.cells (madeCells #[.bool false] n) 4) = w2 ∧ Hid (Below w1.heap.size w1 w2) ∧ Hid (w2.rowIs w1.heap.size 4 n (fun _ => .bool false)) :=
    ⟨_, rfl, Lib.hid (below_one _ _), Lib.hid (World.rowIs_made w1 _ n _)⟩
  rw [HW2] at hmk1
  obtain ⟨g, HGG, hg⟩ : ∃ g, Hid (g = w1.heap.size) ∧ w1.heap.size = g := ⟨_, Lib.hid rfl, rfl⟩
  rw [hg] at hmk1 HR2
  clear HW2 hg
  go_wp2
  clear hmk1
  go_loopw [8] (fun tv wr => ∃ t : Nat, t ≤ 3 ∧ tv = .int .i64 t ∧ Hid (wr.rowIs g 4 n (lsB (lsF a b s n t n))) ∧ Hid (Below w1.heap.size w1 wr)) (fun tv _ => 3 - (intOf tv).toNat)
  case atStart => exact ⟨0, by omega, rfl, Lib.hid (HR2.out.congr (fun j _ => by unfold lsB; rw [ls_zero])), HB2⟩
  case round =>
    clear HR2 HB2
    obtain ⟨t, ht, rfl, HR, HB⟩ := hrel
    by_cases hlt : t < 3
    · have hti : (t : Int) < 3 := by omega
      go_wp2
      go_loopw [9] (fun kv wq => ∃ p : Nat, p ≤ n ∧ kv = .int .i64 ((p : Int) - 1) ∧ Hid (wq.rowIs g 4 n (lsB (lsF a b s n t p))) ∧ Hid (Below w1.heap.size w1 wq)) (fun kv _ => (intOf kv + 1).toNat)
      case atStart => exact ⟨n, Nat.le_refl _, by go_num, HR, HB⟩
      case round =>
        clear HR HB
        obtain ⟨p, hp, rfl, HR, HB⟩ := hrel
        obtain ⟨wo, rfl⟩ : ∃ wo, wo = wr := ⟨wr, rfl⟩
        by_cases hp0 : 0 < p
        · obtain ⟨k, rfl⟩ : ∃ k, p = k + 1 := ⟨p - 1, by omega⟩
          have hke : ((k + 1 : Nat) : Int) - 1 = (k : Int) := by omega
          rw [hke]
          clear hke
          have hk : k < n := by omega
          obtain ⟨c2, c1⟩ := HCA.out wo HB.out k hk
          have HSP := Lib.hid (HST.out t k hk)
          obtain ⟨y, HY⟩ : ∃ y, Hid (b.getD k false = y) := ⟨_, Lib.hid rfl⟩
          obtain ⟨z, HZ⟩ : ∃ z, Hid (a.getD k false = z) := ⟨_, Lib.hid rfl⟩
          rw [HY.out] at c1
          rw [HZ.out] at c2
          rw [HY.out, HZ.out] at HSP
          have hk1 : (k : Int) ≤ 100000 := by omega
          cases y with
          | true =>
            have HP := Lib.hid (ls_put (x := true) HR.out hsn hk (by rw [← HSP.out]; rfl))
            have HBP : Hid (Below w1.heap.size w1 (wo.setCell ⟨g, k, none⟩ (.bool true))) := Lib.hid (HB.out.setCell (show w1.heap.size ≤ (⟨g, k, none⟩ : Addr).block from Nat.le_of_eq HGG.out.symm) _)
            have d1 := HR.out.cell hk
            have f1 := HR.out.frozen k
            generalize lsB (lsF a b s n t (k + 1)) k = u at d1
            go_wp2
            go_roundw
            case rel => exact ⟨k, by omega, by go_num, HP, HBP⟩
            case measure => simp [intOf]
          | false =>
            cases z with
            | false =>
              have HP := Lib.hid (ls_put (x := false) HR.out hsn hk (by rw [← HSP.out]; rfl))
              have HBP : Hid (Below w1.heap.size w1 (wo.setCell ⟨g, k, none⟩ (.bool false))) := Lib.hid (HB.out.setCell (show w1.heap.size ≤ (⟨g, k, none⟩ : Addr).block from Nat.le_of_eq HGG.out.symm) _)
              have d1 := HR.out.cell hk
              have f1 := HR.out.frozen k
              generalize lsB (lsF a b s n t (k + 1)) k = u at d1
              go_wp2
              go_roundw
              case rel => exact ⟨k, by omega, by go_num, HP, HBP⟩
              case measure => simp [intOf]
            | true =>
              obtain ⟨z1, z2⟩ := HBX.out wo HB.out
              go_wp2_with fail
              refine (HNX.out k wo hk).mono ?_
              rintro e5 w5 ⟨rfl, hb5⟩
              have HB5 : Hid (Below w1.heap.size w1 w5) := Lib.hid (HB.out.trans (hb5.mono HB.out.size))
              have HR5 : Hid (w5.rowIs g 4 n (lsB (lsF a b s n t (k + 1)))) := Lib.hid (HR.out.of_block (hb5.block _ HR.out.lt))
              have hnx : nxt s n k < n := nxt_lt hsn
              obtain ⟨m, HM⟩ : ∃ m, Hid (nxt s n k = m) := ⟨_, Lib.hid rfl⟩
              rw [HM.out] at HSP hnx ⊢
              have d2 := HR5.out.cell hnx
              unfold lsB at d2
              obtain ⟨v, HV⟩ : ∃ v, Hid ((lsF a b s n t (k + 1)).getD m false = v) := ⟨_, Lib.hid rfl⟩
              rw [HV.out] at d2 HSP
              have HP := Lib.hid (ls_put (x := v) HR5.out hsn hk (by rw [← HSP.out]; simp))
              have HBP : Hid (Below w1.heap.size w1 (w5.setCell ⟨g, k, none⟩ (.bool v))) := Lib.hid (HB5.out.setCell (show w1.heap.size ≤ (⟨g, k, none⟩ : Addr).block from Nat.le_of_eq HGG.out.symm) _)
              have d1 := HR5.out.cell hk
              have f1 := HR5.out.frozen k
              generalize lsB (lsF a b s n t (k + 1)) k = u at d1
              clear hb5 c1 c2 z1 z2
              cases v <;>
              · go_wp2
                go_roundw
                case rel => exact ⟨k, by omega, by go_num, HP, HBP⟩
                case measure => simp [intOf]
        · obtain rfl : p = 0 := by omega
          have hke : ((0 : Nat) : Int) - 1 = -1 := by omega
          rw [hke]
          clear hke
          have HR3 := HR.out
          rw [ls_turn] at HR3
          have HR4 := Lib.hid HR3
          clear HR3
          go_wp2
          exact ⟨⟨t + 1, by omega, by go_num, HR4, HB⟩, by simp [intOf]; omega⟩
    · obtain rfl : t = 3 := by omega
      have hr := HR.out
      rw [HU.out] at hr
      have HRR := Lib.hid hr
      clear hr
      go_wp2
      go_ret
      refine ⟨?_, g, rfl, by have := HB1.out.size; have := HGG.out; omega, HRR.out, HB1.out.trans (HB.out.mono HB1.out.size)⟩
      rw [← HU.out, ls_len]
end Go.Proofs.Ytophajljjnjcdaa.wd
