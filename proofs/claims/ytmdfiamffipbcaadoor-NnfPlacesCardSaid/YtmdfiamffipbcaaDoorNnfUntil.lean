/- The document's until: a row of bools of its own making. -/
import Derived.Test.YtmdfiamffipbcaaDoorNnfBits
namespace Go.Proofs.YtmdfiamffipbcaaDoor.nf
open Go.ChangeShapes Go.WideShapes Go.ChangeAt Go.RowKit Go.Deep sr lt

/-- The first k of L, then false. -/
def fstB (L : List Bool) (k j : Nat) : Value := .bool (if j < k then L.getD j false else false)
theorem fstB_full {w : World} {b n : Nat} {t : TypeId} {L : List Bool} (hr : w.rowIs b t n (fstB L n)) : w.rowIs b t n (fun j => .bool (L.getD j false)) :=
  hr.congr (fun j hj => by unfold fstB; rw [if_pos hj])
theorem fstB_step {L : List Bool} {k m : Nat} {x : Bool} {w : World} {b : Nat} {t : TypeId} (hr : w.rowIs b t m (fstB L k)) (hx : x = L.getD k false) : (w.setCell ⟨b, k, none⟩ (.bool x)).rowIs b t m (fstB L (k + 1)) :=
  (hr.set k _).congr (fun j hj => by
    by_cases hjk : j = k
    · subst hjk; simp only [if_pos, fstB]; rw [if_pos (by omega), hx]
    · simp only [if_neg hjk, fstB]
      congr 1
      by_cases h2 : j < k
      · rw [if_pos h2, if_pos (by omega)]
      · rw [if_neg h2, if_neg (by omega)])
theorem fstB_skip {L : List Bool} {k m : Nat} {w : World} {b : Nat} {t : TypeId} (hr : w.rowIs b t m (fstB L k)) (hx : L.getD k false = false) : w.rowIs b t m (fstB L (k + 1)) :=
  hr.congr (fun j hj => by
    unfold fstB
    congr 1
    by_cases h2 : j < k
    · rw [if_pos h2, if_pos (by omega)]
    · by_cases hjk : j = k
      · subst hjk; rw [if_neg h2, if_pos (by omega), hx]
      · rw [if_neg h2, if_neg (by omega)])
theorem unt_get {a b : List Bool} {loop i : Nat} (h : i < a.length) : (untF a b loop).getD i false = untA a b loop a.length (a.length + 1) i := by
  unfold untF
  simp [List.getD, h]
theorem unt_yes {a b : List Bool} {loop n f p : Nat} (h : b.getD p false = true) : untA a b loop n (f + 1) p = true := by rw [untA, if_pos h]
theorem unt_no {a b : List Bool} {loop n f p : Nat} (h : b.getD p false = false) (h2 : a.getD p false = false) : untA a b loop n (f + 1) p = false := by rw [untA, if_neg (by rw [h]; decide), if_neg (by rw [h2]; decide)]
theorem unt_on {a b : List Bool} {loop n f p : Nat} (h : b.getD p false = false) (h2 : a.getD p false = true) : untA a b loop n (f + 1) p = untA a b loop n f (nxt loop n p) := by rw [untA, if_neg (by rw [h]; decide), if_pos h2]
/-- A row of bools that the call made. -/
def OwnB (w : World) (L : List Bool) (e : Ending) (w' : World) : Prop := ∃ b, e = .returned (.slice (some ⟨b, 0, none⟩) L.length L.length) ∧ w.heap.size ≤ b ∧ w'.rowIs b 4 L.length (fun j => .bool (L.getD j false)) ∧ Below w.heap.size w w'
theorem OwnB.bl {w w' : World} {L : List Bool} {e : Ending} (h : OwnB w L e w') : BlP w L e w' := by
  obtain ⟨b, h1, h2, h3, h4⟩ := h
  exact ⟨_, _, h1, bl_row rfl h3, h4, fun a ha => by cases ha; exact h2⟩
set_option maxRecDepth 20000 in
set_option maxHeartbeats 8000000 in
theorem until_any (a b : List Bool) (A B : Option Addr) (c d n loop : Nat) (w : World) (hn : a.length = n) (hb : b.length = n) (hn2 : n ≤ 100000) (hl : loop < n) (hA : BL w A a) (hB : BL w B b) :
    Calls Tryd.prog 36 #[.slice A n c, .slice B n d, .int .i64 loop] w (OwnB w (untF a b loop)) := by
  obtain ⟨i0, hi, hz0, hz1, hz2⟩ := info_parts infoBo
  have hmk : ∀ W : World, (Instr.makeSlice 36 (.int .i64 (n : Int)) (.int .i64 (n : Int))).run Tryd.prog W = .ok (.slice (some ⟨W.heap.size, 0, none⟩) n n) (W.alloc (.cells (madeCells #[.bool false] n) 4)) := fun W => by
    have hr := run_make (P := Tryd.prog) W 36 4 i0 _ (by kernel_rfl) hi hz0 .i64 .i64 (n : Int) (n : Int) (by omega) (Int.le_refl _) (by rw [hz2]; omega) (by omega)
    rw [hr, hz1, Int.toNat_natCast, Nat.mul_one]
    rfl
  clear hi hz0 hz1 hz2
  obtain ⟨ba, oa, rfl, hba, hca⟩ := hA (by omega)
  obtain ⟨bb, ob, rfl, hbb, hcb⟩ := hB (by omega)
  have HCA : Hid (∀ W, Below w.heap.size w W → ∀ j, j < n → W.cell? ⟨ba, oa + j, none⟩ = some (.bool (a.getD j false))) := Lib.hid (fun W h j hj => (h.cell (p := ⟨ba, oa + j, none⟩) hba).trans (hca j (by omega)))
  have HCB : Hid (∀ W, Below w.heap.size w W → ∀ j, j < n → W.cell? ⟨bb, ob + j, none⟩ = some (.bool (b.getD j false))) := Lib.hid (fun W h j hj => (h.cell (p := ⟨bb, ob + j, none⟩) hbb).trans (hcb j (by omega)))
  obtain ⟨L, HL⟩ : ∃ L, Hid (untF a b loop = L) := ⟨_, Lib.hid rfl⟩
  have HLN : Hid (L.length = n) := Lib.hid (by rw [← HL.out, unt_len]; exact hn)
  have HG : Hid (∀ i, i < n → L.getD i false = untA a b loop n (n + 1) i) := Lib.hid (fun i hi => by rw [← HL.out, unt_get (by omega), hn])
  rw [HL.out]
  clear hca hcb hA hB hn hb hba hbb HL
  go_enter Tryd.func36, Tryd.ntmps36
  go_wp2
  go_loopw [9] (fun iv wr => ∃ i : Nat, i ≤ n ∧ iv = .int .i64 i ∧ Hid (wr.rowIs w.heap.size 4 n (fstB L i)) ∧ Hid (Below w.heap.size w wr)) (fun iv _ => n - (intOf iv).toNat)
  case atStart => exact ⟨0, Nat.zero_le _, rfl, Lib.hid ((World.rowIs_made w (.bool false) n 4).congr (fun j _ => by simp [fstB])), Lib.hid (below_one _ _)⟩
  case round =>
    obtain ⟨i, hi, rfl, HR, HB⟩ := hrel
    clear hmk
    by_cases hlt : i < n
    · go_wp2
      go_loopw [10, 11] (fun av kv wq => ∃ p k : Nat, p < n ∧ k ≤ n + 1 ∧ av = .int .i64 p ∧ kv = .int .i64 k ∧ wq = wr ∧ Hid (L.getD i false = untA a b loop n (n + 1 - k) p)) (fun _ kv _ => n + 1 - (intOf kv).toNat)
      case atStart => exact ⟨i, 0, hlt, Nat.zero_le _, rfl, rfl, rfl, Lib.hid (HG.out i hlt)⟩
      case round =>
        obtain ⟨p, k, hp, hk, rfl, rfl, rfl, HU⟩ := hrel
        by_cases hkn : k ≤ n
        · obtain ⟨f, HF⟩ : ∃ f, Hid (n + 1 - k = f + 1 ∧ n + 1 - (k + 1) = f) := ⟨n - k, Lib.hid ⟨by omega, by omega⟩⟩
          have c1 := HCB.out wr HB.out p hp
          have c2 := HCA.out wr HB.out p hp
          obtain ⟨y, HY⟩ : ∃ y, Hid (b.getD p false = y) := ⟨_, Lib.hid rfl⟩
          obtain ⟨x, HX⟩ : ∃ x, Hid (a.getD p false = x) := ⟨_, Lib.hid rfl⟩
          rw [HY.out] at c1
          rw [HX.out] at c2
          rcases y with _ | _
          · rcases x with _ | _
            · have hf : L.getD i false = false := by rw [HU.out, HF.out.1]; exact unt_no HY.out HX.out
              have hr2 := Lib.hid (fstB_skip HR.out hf)
              clear hf
              go_wp2
              exact ⟨⟨i + 1, by omega, rfl, hr2, HB⟩, by simp [intOf]; omega⟩
            · have HU2 : Hid (L.getD i false = untA a b loop n (n + 1 - (k + 1)) (nxt loop n p)) := Lib.hid (by rw [HU.out, HF.out.1, HF.out.2]; exact unt_on HY.out HX.out)
              have HN := Lib.hid (next_any p loop n wr (by omega))
              have HPN := Lib.hid (nxt_lt (i := p) hl)
              go_wp2_with fail
              refine HN.out.mono ?_
              rintro e6 w6 ⟨rfl, rfl⟩
              go_wp2
              exact ⟨⟨_, k + 1, HPN.out, by omega, by first | rfl | trivial, by first | rfl | trivial, by first | rfl | trivial, HU2⟩, by simp [intOf]; omega⟩
          · have hf : true = L.getD i false := by rw [HU.out, HF.out.1]; exact (unt_yes HY.out).symm
            have d1 := HR.out.cell hlt
            have f1 := HR.out.frozen i
            generalize fstB L i i = u at d1
            have hr2 := Lib.hid (fstB_step HR.out hf)
            have hb2 : Hid (Below w.heap.size w (wr.setCell ⟨w.heap.size, i, none⟩ (.bool true))) := Lib.hid (HB.out.setCell (show w.heap.size ≤ (⟨w.heap.size, i, none⟩ : Addr).block from Nat.le_refl _) _)
            clear hf
            go_upto_region 12 with (fail)
            clear c1 c2 d1 f1
            generalize wr.setCell ⟨w.heap.size, i, none⟩ (.bool true) = w6 at *
            have c1 := HCB.out w6 hb2.out p hp
            rw [HY.out] at c1
            go_wp2
            exact ⟨⟨i + 1, by omega, rfl, hr2, hb2⟩, by simp [intOf]; omega⟩
        · obtain rfl : k = n + 1 := by omega
          have hf : L.getD i false = false := by rw [HU.out, Nat.sub_self]; rfl
          have hr2 := Lib.hid (fstB_skip HR.out hf)
          clear hf
          go_wp2
          exact ⟨⟨i + 1, by omega, rfl, hr2, HB⟩, by simp [intOf]; omega⟩
    · obtain rfl : i = n := by omega
      go_wp2
      go_ret
      have e1 := HLN.out
      subst e1
      exact ⟨_, rfl, Nat.le_refl _, fstB_full HR.out, HB.out⟩
end Go.Proofs.YtmdfiamffipbcaaDoor.nf
