/- The document's places. -/
import Derived.Test.YtmdfiamffipbcaaDoorNnfPl
namespace Go.Proofs.YtmdfiamffipbcaaDoor.nf
open Go.ChangeShapes Go.WideShapes Go.ChangeAt Go.RowKit Go.Deep sr lt

set_option maxRecDepth 20000 in
set_option maxHeartbeats 40000000 in
theorem places_any (op q : Int) (sets : List Int) (a b : List Bool) (S A B : Option Addr) (cS c d la lb n loop : Nat) (w : World) (hn : sets.length = n) (hn2 : n ≤ 100000) (hl : loop < n) (hop : 0 ≤ kT op) (hq : op = 3 → 0 ≤ q ∧ q < 8) (hs : ∀ i, i < n → 0 ≤ sets.getD i 0 ∧ sets.getD i 0 < 18446744073709551616)
    (hS : UA w S sets) (hA : 1 ≤ kT op → la = n ∧ a.length = n ∧ BL w A a) (hB : kT op = 2 → lb = n ∧ b.length = n ∧ BL w B b) :
    Calls Tryd.prog 27 #[.agg #[.int .i64 op, .int .i64 q], .slice S n cS, .int .i64 loop, .slice A la c, .slice B lb d] w (BlN w n (plF (op, q) sets loop a b)) := by
  obtain ⟨i0, hi, hz0, hz1, hz2⟩ := info_parts infoBo
  have hmk : ∀ W : World, (Instr.makeSlice 36 (.int .i64 (n : Int)) (.int .i64 (n : Int))).run Tryd.prog W = .ok (.slice (some ⟨W.heap.size, 0, none⟩) n n) (W.alloc (.cells (madeCells #[.bool false] n) 4)) := fun W => by
    have hr := run_make (P := Tryd.prog) W 36 4 i0 _ (by kernel_rfl) hi hz0 .i64 .i64 (n : Int) (n : Int) (by omega) (Int.le_refl _) (by rw [hz2]; omega) (by omega)
    rw [hr, hz1, Int.toNat_natCast, Nat.mul_one]
    rfl
  clear hi hz0 hz1 hz2
  obtain ⟨L, HL⟩ : ∃ L, Hid (plF (op, q) sets loop a b = L) := ⟨_, Lib.hid rfl⟩
  have HLN : Hid (L.length = n) := Lib.hid (by rw [← HL.out, pl_len (fun h => by rw [hn]; exact (hA h).2.1)]; exact hn)
  have HG : Hid ((op ≠ 9 ∧ op ≠ 10 ∧ op ≠ 11 ∧ op ≠ 12) → ∀ i, i < n → L.getD i false = oneF (op, q) sets loop a b i) := Lib.hid (fun h i hi => by rw [← HL.out, pl_get h (by omega)])
  have HOP := Lib.hid hop
  have HQ := Lib.hid hq
  have HSN := Lib.hid hn
  have HSB := Lib.hid hs
  have HS := Lib.hid hS
  have HA := Lib.hid hA
  have HB := Lib.hid hB
  rw [HL.out]
  clear hop hq hn hs hS hA hB
  go_enter Tryd.func27, Tryd.ntmps27
  go_wp2
  go_loopw [13] (fun iv wr => ∃ i : Nat, i ≤ n ∧ iv = .int .i64 i ∧ Hid (PlW w wr op q n L 0 i)) (fun iv _ => n - (intOf iv).toNat)
  case atStart => exact ⟨0, Nat.zero_le _, rfl, Lib.hid (PlW.start w op q n L)⟩
  case round =>
    obtain ⟨i, hi, rfl, HP⟩ := hrel
    clear hmk
    by_cases hlt : i < n
    · have d1 := HP.out.yes.cell hlt
      have f1 := HP.out.yes.frozen i
      generalize fstB (yesF n) i i = u at d1
      have HP2 := Lib.hid (HP.out.putYes hlt)
      go_wp2
      exact ⟨⟨i + 1, by omega, rfl, HP2⟩, by simp [intOf]; omega⟩
    · obtain rfl : n = i := by omega
      clear hlt hi
      rcases kT_cases op with ⟨_, h2⟩ | ⟨_, h2⟩ | ⟨_, h2⟩ | ⟨h2, _⟩
      · rcases h2 with rfl | rfl | rfl
        · obtain ⟨b0, b1⟩ := HP.out.cells
          go_wp2
          clear b0 b1
          go_loopw [14] (fun iv wq => ∃ i : Nat, i ≤ n ∧ iv = .int .i64 i ∧ Hid (PlW w wq 1 q n L i n)) (fun iv _ => n - (intOf iv).toNat)
          case atStart => exact ⟨0, Nat.zero_le _, rfl, HP⟩
          case round =>
            clear HP
            obtain ⟨i, hi, rfl, HP⟩ := hrel
            obtain ⟨b0, b1⟩ := HP.out.cells
            by_cases hlt : i < n
            · have d1 := HP.out.out.cell hlt
              have f1 := HP.out.out.frozen i
              generalize fstB L i i = u at d1
              have HP2 := Lib.hid (HP.out.put (x := true) (by rw [HG.out (by decide) i hlt]; rfl))
              go_wp2
              exact ⟨⟨i + 1, by omega, rfl, HP2⟩, by simp [intOf]; omega⟩
            · obtain rfl : n = i := by omega
              go_wp2
              go_ret
              exact HP.out.full HLN.out
        · obtain ⟨b0, b1⟩ := HP.out.cells
          go_wp2
          clear b0 b1
          go_loopw [14] (fun iv wq => ∃ i : Nat, i ≤ n ∧ iv = .int .i64 i ∧ Hid (PlW w wq 2 q n L i n)) (fun iv _ => n - (intOf iv).toNat)
          case atStart => exact ⟨0, Nat.zero_le _, rfl, HP⟩
          case round =>
            clear HP
            obtain ⟨i, hi, rfl, HP⟩ := hrel
            obtain ⟨b0, b1⟩ := HP.out.cells
            by_cases hlt : i < n
            · have HP2 := Lib.hid (HP.out.skip (by rw [HG.out (by decide) i hlt]; rfl))
              go_wp2
              exact ⟨⟨i + 1, by omega, rfl, HP2⟩, by simp [intOf]; omega⟩
            · obtain rfl : n = i := by omega
              go_wp2
              go_ret
              exact HP.out.full HLN.out
        · obtain ⟨bs, os, rfl, hbs, hcs⟩ := HS.out (by rw [HSN.out]; omega)
          have HCS : Hid (∀ W, Below w.heap.size w W → ∀ j, j < n → W.cell? ⟨bs, os + j, none⟩ = some (.int .u64 (sets.getD j 0))) := Lib.hid (fun W h j hj => (h.cell (p := ⟨bs, os + j, none⟩) hbs).trans (hcs j (by rw [HSN.out]; exact hj)))
          clear hbs hcs
          obtain ⟨hq0, hq8⟩ := HQ.out rfl
          obtain ⟨b0, b1⟩ := HP.out.cells
          go_wp2
          clear b0 b1
          go_loopw [14] (fun iv wq => ∃ i : Nat, i ≤ n ∧ iv = .int .i64 i ∧ Hid (PlW w wq 3 q n L i n)) (fun iv _ => n - (intOf iv).toNat)
          case atStart => exact ⟨0, Nat.zero_le _, rfl, HP⟩
          case round =>
            clear HP
            obtain ⟨i, hi, rfl, HP⟩ := hrel
            obtain ⟨b0, b1⟩ := HP.out.cells
            by_cases hlt : i < n
            · have d1 := HP.out.out.cell hlt
              have f1 := HP.out.out.frozen i
              generalize fstB L i i = u at d1
              have c1 := HCS.out _ HP.out.bl i hlt
              obtain ⟨s0, s1⟩ := HSB.out i hlt
              obtain ⟨s, HX⟩ : ∃ s, Hid (sets.getD i 0 = s) := ⟨_, Lib.hid rfl⟩
              rw [HX.out] at c1 s0 s1
              have hba := bit_and s q.toNat s0 s1
              have HP2 := Lib.hid ((HP.out.put (x := ((if s.toNat / 2 ^ q.toNat % 2 = 1 then (1 : Int) else 0) == 1)) (by rw [HG.out (by decide) i hlt]; show _ = bitF (sets.getD i 0) q; rw [HX.out]; unfold bitF; by_cases h : s.toNat / 2 ^ q.toNat % 2 = 1 <;> simp [h])).drew)
              go_wp2
              go_region
              all_goals (go_wp2; exact ⟨⟨i + 1, by omega, rfl, HP2⟩, by simp [intOf]; omega⟩)
            · obtain rfl : n = i := by omega
              go_wp2
              go_ret
              exact HP.out.full HLN.out
      · rcases h2 with rfl | rfl | rfl | rfl
        · obtain ⟨ea, fa, hA⟩ := HA.out (by decide)
          have ea := ea.symm
          subst ea
          obtain ⟨ba, oa, rfl, hba, hca⟩ := hA (by omega)
          have HCA : Hid (∀ W, Below w.heap.size w W → ∀ j, j < n → W.cell? ⟨ba, oa + j, none⟩ = some (.bool (a.getD j false))) := Lib.hid (fun W h j hj => (h.cell (p := ⟨ba, oa + j, none⟩) hba).trans (hca j (by omega)))
          clear hba hca hA
          obtain ⟨b0, b1⟩ := HP.out.cells
          go_wp2
          clear b0 b1
          go_loopw [14] (fun iv wq => ∃ i : Nat, i ≤ n ∧ iv = .int .i64 i ∧ Hid (PlW w wq 4 q n L i n)) (fun iv _ => n - (intOf iv).toNat)
          case atStart => exact ⟨0, Nat.zero_le _, rfl, HP⟩
          case round =>
            clear HP
            obtain ⟨i, hi, rfl, HP⟩ := hrel
            obtain ⟨b0, b1⟩ := HP.out.cells
            by_cases hlt : i < n
            · have d1 := HP.out.out.cell hlt
              have f1 := HP.out.out.frozen i
              generalize fstB L i i = u at d1
              have c1 := HCA.out _ HP.out.bl i hlt
              obtain ⟨x, HX⟩ : ∃ x, Hid (a.getD i false = x) := ⟨_, Lib.hid rfl⟩
              rw [HX.out] at c1
              have HP2 := Lib.hid (HP.out.put (x := !x) (by rw [HG.out (by decide) i hlt]; show _ = !(a.getD i false); rw [HX.out]))
              go_wp2
              exact ⟨⟨i + 1, by omega, rfl, HP2⟩, by simp [intOf]; omega⟩
            · obtain rfl : n = i := by omega
              go_wp2
              go_ret
              exact HP.out.full HLN.out
        · obtain ⟨ea, fa, hA⟩ := HA.out (by decide)
          have ea := ea.symm
          subst ea
          obtain ⟨ba, oa, rfl, hba, hca⟩ := hA (by omega)
          have HCA : Hid (∀ W, Below w.heap.size w W → ∀ j, j < n → W.cell? ⟨ba, oa + j, none⟩ = some (.bool (a.getD j false))) := Lib.hid (fun W h j hj => (h.cell (p := ⟨ba, oa + j, none⟩) hba).trans (hca j (by omega)))
          clear hba hca hA
          obtain ⟨b0, b1⟩ := HP.out.cells
          go_wp2
          clear b0 b1
          go_loopw [14] (fun iv wq => ∃ i : Nat, i ≤ n ∧ iv = .int .i64 i ∧ Hid (PlW w wq 8 q n L i n)) (fun iv _ => n - (intOf iv).toNat)
          case atStart => exact ⟨0, Nat.zero_le _, rfl, HP⟩
          case round =>
            clear HP
            obtain ⟨i, hi, rfl, HP⟩ := hrel
            obtain ⟨b0, b1⟩ := HP.out.cells
            by_cases hlt : i < n
            · have d1 := HP.out.out.cell hlt
              have f1 := HP.out.out.frozen i
              generalize fstB L i i = u at d1
              have c1 := HCA.out _ HP.out.bl (nxt loop n i) (nxt_lt hl)
              obtain ⟨x, HX⟩ : ∃ x, Hid (a.getD (nxt loop n i) false = x) := ⟨_, Lib.hid rfl⟩
              rw [HX.out] at c1
              have HP2 := Lib.hid (HP.out.put (x := x) (by rw [HG.out (by decide) i hlt]; show _ = a.getD (nxt loop sets.length i) false; rw [HSN.out, HX.out]))
              have HN := Lib.hid (next_any i loop n wr (by omega))
              have HNL := Lib.hid (nxt_lt (i := i) hl)
              obtain ⟨p, HPP⟩ : ∃ p, Hid (nxt loop n i = p) := ⟨_, Lib.hid rfl⟩
              rw [HPP.out] at c1 HN HNL
              have hpl := HNL.out
              go_wp2_with fail
              refine HN.out.mono ?_
              rintro e6 w6 ⟨rfl, rfl⟩
              go_wp2
              exact ⟨⟨i + 1, by omega, rfl, HP2⟩, by simp [intOf]; omega⟩
            · obtain rfl : n = i := by omega
              go_wp2
              go_ret
              exact HP.out.full HLN.out
        · obtain ⟨ea, fa, hA⟩ := HA.out (by decide)
          have ea := ea.symm
          subst ea
          have HA3 := Lib.hid hA
          clear hA
          obtain ⟨b0, b1⟩ := HP.out.cells
          have HBA := Lib.hid HP.out.bl
          have HE : Hid (L = untF (yesF sets.length) a loop) := Lib.hid (by rw [← HL.out]; rfl)
          rw [HSN.out] at HE
          have HY := Lib.hid HP.out.yesBL
          have hyl : (yesF n).length = n := by simp [yesF]
          have H6 := Lib.hid (until_any (yesF n) a (some ⟨w.heap.size + 2, 0, none⟩) A n c n loop wr hyl fa hn2 hl HY.out (HA3.out.below HBA.out))
          go_wp2_with fail
          refine H6.out.mono ?_
          clear H6
          rintro e6 w6 h6
          obtain ⟨A6, c6, rfl, g6, hb6, hf6⟩ := (OwnB.bl h6).n (by rw [unt_len]; first | done | exact hyl)
          have HFR6 : Hid (∀ a, A6 = some a → w.heap.size ≤ a.block) := Lib.hid (fun a ha => Nat.le_trans HBA.out.size (hf6 a ha))
          have HG6 := Lib.hid g6
          have HB6 : Hid (Below w.heap.size w w6) := Lib.hid (HBA.out.trans (hb6.mono HBA.out.size))
          have HK6 := Lib.hid hb6
          clear g6 hb6 h6 hf6
          go_wp2
          go_ret
          exact ⟨A6, c6, rfl, by rw [HE.out]; exact HG6.out, HB6.out, HFR6.out⟩
        · obtain ⟨ea, fa, hA⟩ := HA.out (by decide)
          have ea := ea.symm
          subst ea
          have HA3 := Lib.hid hA
          clear hA
          obtain ⟨b0, b1⟩ := HP.out.cells
          have HBA := Lib.hid HP.out.bl
          have HE : Hid (L = flipF (untF (yesF sets.length) (flipF a) loop)) := Lib.hid (by rw [← HL.out]; rfl)
          rw [HSN.out] at HE
          have HY := Lib.hid HP.out.yesBL
          have hyl : (yesF n).length = n := by simp [yesF]
          have H6 := Lib.hid (flip_any a A c n wr fa.symm hn2 (HA3.out.below HBA.out))
          go_wp2_with fail
          refine H6.out.mono ?_
          clear H6
          rintro e6 w6 h6
          obtain ⟨A6, c6, rfl, g6, hb6, hf6⟩ := h6.n (by rw [flip_len]; first | done | exact fa)
          have HFR6 : Hid (∀ a, A6 = some a → w.heap.size ≤ a.block) := Lib.hid (fun a ha => Nat.le_trans HBA.out.size (hf6 a ha))
          have HG6 := Lib.hid g6
          have HB6 : Hid (Below w.heap.size w w6) := Lib.hid (HBA.out.trans (hb6.mono HBA.out.size))
          have HK6 := Lib.hid hb6
          clear g6 hb6 h6 hf6
          have H7 := Lib.hid (until_any (yesF n) (flipF a) (some ⟨w.heap.size + 2, 0, none⟩) A6 n c6 n loop w6 hyl (by rw [flip_len]; exact fa) hn2 hl (HY.out.below HK6.out) HG6.out)
          go_wp2_with fail
          refine H7.out.mono ?_
          clear H7
          rintro e7 w7 h7
          obtain ⟨A7, c7, rfl, g7, hb7, hf7⟩ := (OwnB.bl h7).n (by rw [unt_len]; first | done | exact hyl)
          have HFR7 : Hid (∀ a, A7 = some a → w.heap.size ≤ a.block) := Lib.hid (fun a ha => Nat.le_trans HB6.out.size (hf7 a ha))
          have HG7 := Lib.hid g7
          have HB7 : Hid (Below w.heap.size w w7) := Lib.hid (HB6.out.trans (hb7.mono HB6.out.size))
          have HK7 := Lib.hid hb7
          clear g7 hb7 h7 hf7
          have H8 := Lib.hid (flip_any (untF (yesF n) (flipF a) loop) A7 c7 n w7 (by rw [unt_len]; exact hyl.symm) hn2 HG7.out)
          go_wp2_with fail
          refine H8.out.mono ?_
          clear H8
          rintro e8 w8 h8
          obtain ⟨A8, c8, rfl, g8, hb8, hf8⟩ := h8.n (by rw [flip_len, unt_len]; first | done | exact hyl)
          have HFR8 : Hid (∀ a, A8 = some a → w.heap.size ≤ a.block) := Lib.hid (fun a ha => Nat.le_trans HB7.out.size (hf8 a ha))
          have HG8 := Lib.hid g8
          have HB8 : Hid (Below w.heap.size w w8) := Lib.hid (HB7.out.trans (hb8.mono HB7.out.size))
          have HK8 := Lib.hid hb8
          clear g8 hb8 h8 hf8
          go_wp2
          go_ret
          exact ⟨A8, c8, rfl, by rw [HE.out]; exact HG8.out, HB8.out, HFR8.out⟩
      · rcases h2 with rfl | rfl | rfl | rfl | rfl
        · obtain ⟨ea, fa, hA⟩ := HA.out (by decide)
          have ea := ea.symm
          subst ea
          obtain ⟨ba, oa, rfl, hba, hca⟩ := hA (by omega)
          have HCA : Hid (∀ W, Below w.heap.size w W → ∀ j, j < n → W.cell? ⟨ba, oa + j, none⟩ = some (.bool (a.getD j false))) := Lib.hid (fun W h j hj => (h.cell (p := ⟨ba, oa + j, none⟩) hba).trans (hca j (by omega)))
          clear hba hca hA
          obtain ⟨eb, fb, hB⟩ := HB.out (by decide)
          have eb := eb.symm
          subst eb
          obtain ⟨bb, ob, rfl, hbb, hcb⟩ := hB (by omega)
          have HCB : Hid (∀ W, Below w.heap.size w W → ∀ j, j < n → W.cell? ⟨bb, ob + j, none⟩ = some (.bool (b.getD j false))) := Lib.hid (fun W h j hj => (h.cell (p := ⟨bb, ob + j, none⟩) hbb).trans (hcb j (by omega)))
          clear hbb hcb hB
          obtain ⟨b0, b1⟩ := HP.out.cells
          go_wp2
          clear b0 b1
          go_loopw [14] (fun iv wq => ∃ i : Nat, i ≤ n ∧ iv = .int .i64 i ∧ Hid (PlW w wq 5 q n L i n)) (fun iv _ => n - (intOf iv).toNat)
          case atStart => exact ⟨0, Nat.zero_le _, rfl, HP⟩
          case round =>
            clear HP
            obtain ⟨i, hi, rfl, HP⟩ := hrel
            obtain ⟨b0, b1⟩ := HP.out.cells
            by_cases hlt : i < n
            · have d1 := HP.out.out.cell hlt
              have f1 := HP.out.out.frozen i
              generalize fstB L i i = u at d1
              have c1 := HCA.out _ HP.out.bl i hlt
              obtain ⟨x, HX⟩ : ∃ x, Hid (a.getD i false = x) := ⟨_, Lib.hid rfl⟩
              rw [HX.out] at c1
              have c2 := HCB.out _ HP.out.bl i hlt
              obtain ⟨y, HY⟩ : ∃ y, Hid (b.getD i false = y) := ⟨_, Lib.hid rfl⟩
              rw [HY.out] at c2
              have HP2 := Lib.hid (HP.out.put (x := (x && y)) (by rw [HG.out (by decide) i hlt]; show _ = (a.getD i false && b.getD i false); rw [HX.out, HY.out]))
              rcases x with _ | _ <;> rcases y with _ | _
              all_goals (go_wp2; exact ⟨⟨i + 1, by omega, rfl, HP2⟩, by simp [intOf]; omega⟩)
            · obtain rfl : n = i := by omega
              go_wp2
              go_ret
              exact HP.out.full HLN.out
        · obtain ⟨ea, fa, hA⟩ := HA.out (by decide)
          have ea := ea.symm
          subst ea
          obtain ⟨ba, oa, rfl, hba, hca⟩ := hA (by omega)
          have HCA : Hid (∀ W, Below w.heap.size w W → ∀ j, j < n → W.cell? ⟨ba, oa + j, none⟩ = some (.bool (a.getD j false))) := Lib.hid (fun W h j hj => (h.cell (p := ⟨ba, oa + j, none⟩) hba).trans (hca j (by omega)))
          clear hba hca hA
          obtain ⟨eb, fb, hB⟩ := HB.out (by decide)
          have eb := eb.symm
          subst eb
          obtain ⟨bb, ob, rfl, hbb, hcb⟩ := hB (by omega)
          have HCB : Hid (∀ W, Below w.heap.size w W → ∀ j, j < n → W.cell? ⟨bb, ob + j, none⟩ = some (.bool (b.getD j false))) := Lib.hid (fun W h j hj => (h.cell (p := ⟨bb, ob + j, none⟩) hbb).trans (hcb j (by omega)))
          clear hbb hcb hB
          obtain ⟨b0, b1⟩ := HP.out.cells
          go_wp2
          clear b0 b1
          go_loopw [14] (fun iv wq => ∃ i : Nat, i ≤ n ∧ iv = .int .i64 i ∧ Hid (PlW w wq 6 q n L i n)) (fun iv _ => n - (intOf iv).toNat)
          case atStart => exact ⟨0, Nat.zero_le _, rfl, HP⟩
          case round =>
            clear HP
            obtain ⟨i, hi, rfl, HP⟩ := hrel
            obtain ⟨b0, b1⟩ := HP.out.cells
            by_cases hlt : i < n
            · have d1 := HP.out.out.cell hlt
              have f1 := HP.out.out.frozen i
              generalize fstB L i i = u at d1
              have c1 := HCA.out _ HP.out.bl i hlt
              obtain ⟨x, HX⟩ : ∃ x, Hid (a.getD i false = x) := ⟨_, Lib.hid rfl⟩
              rw [HX.out] at c1
              have c2 := HCB.out _ HP.out.bl i hlt
              obtain ⟨y, HY⟩ : ∃ y, Hid (b.getD i false = y) := ⟨_, Lib.hid rfl⟩
              rw [HY.out] at c2
              have HP2 := Lib.hid (HP.out.put (x := (x || y)) (by rw [HG.out (by decide) i hlt]; show _ = (a.getD i false || b.getD i false); rw [HX.out, HY.out]))
              rcases x with _ | _ <;> rcases y with _ | _
              all_goals (go_wp2; exact ⟨⟨i + 1, by omega, rfl, HP2⟩, by simp [intOf]; omega⟩)
            · obtain rfl : n = i := by omega
              go_wp2
              go_ret
              exact HP.out.full HLN.out
        · obtain ⟨ea, fa, hA⟩ := HA.out (by decide)
          have ea := ea.symm
          subst ea
          obtain ⟨ba, oa, rfl, hba, hca⟩ := hA (by omega)
          have HCA : Hid (∀ W, Below w.heap.size w W → ∀ j, j < n → W.cell? ⟨ba, oa + j, none⟩ = some (.bool (a.getD j false))) := Lib.hid (fun W h j hj => (h.cell (p := ⟨ba, oa + j, none⟩) hba).trans (hca j (by omega)))
          clear hba hca hA
          obtain ⟨eb, fb, hB⟩ := HB.out (by decide)
          have eb := eb.symm
          subst eb
          obtain ⟨bb, ob, rfl, hbb, hcb⟩ := hB (by omega)
          have HCB : Hid (∀ W, Below w.heap.size w W → ∀ j, j < n → W.cell? ⟨bb, ob + j, none⟩ = some (.bool (b.getD j false))) := Lib.hid (fun W h j hj => (h.cell (p := ⟨bb, ob + j, none⟩) hbb).trans (hcb j (by omega)))
          clear hbb hcb hB
          obtain ⟨b0, b1⟩ := HP.out.cells
          go_wp2
          clear b0 b1
          go_loopw [14] (fun iv wq => ∃ i : Nat, i ≤ n ∧ iv = .int .i64 i ∧ Hid (PlW w wq 7 q n L i n)) (fun iv _ => n - (intOf iv).toNat)
          case atStart => exact ⟨0, Nat.zero_le _, rfl, HP⟩
          case round =>
            clear HP
            obtain ⟨i, hi, rfl, HP⟩ := hrel
            obtain ⟨b0, b1⟩ := HP.out.cells
            by_cases hlt : i < n
            · have d1 := HP.out.out.cell hlt
              have f1 := HP.out.out.frozen i
              generalize fstB L i i = u at d1
              have c1 := HCA.out _ HP.out.bl i hlt
              obtain ⟨x, HX⟩ : ∃ x, Hid (a.getD i false = x) := ⟨_, Lib.hid rfl⟩
              rw [HX.out] at c1
              have c2 := HCB.out _ HP.out.bl i hlt
              obtain ⟨y, HY⟩ : ∃ y, Hid (b.getD i false = y) := ⟨_, Lib.hid rfl⟩
              rw [HY.out] at c2
              have HP2 := Lib.hid (HP.out.put (x := (!x || y)) (by rw [HG.out (by decide) i hlt]; show _ = (!(a.getD i false) || b.getD i false); rw [HX.out, HY.out]))
              rcases x with _ | _ <;> rcases y with _ | _
              all_goals (go_wp2; exact ⟨⟨i + 1, by omega, rfl, HP2⟩, by simp [intOf]; omega⟩)
            · obtain rfl : n = i := by omega
              go_wp2
              go_ret
              exact HP.out.full HLN.out
        · obtain ⟨ea, fa, hA⟩ := HA.out (by decide)
          have ea := ea.symm
          subst ea
          have HA3 := Lib.hid hA
          clear hA
          obtain ⟨eb, fb, hB⟩ := HB.out (by decide)
          have eb := eb.symm
          subst eb
          have HB3 := Lib.hid hB
          clear hB
          obtain ⟨b0, b1⟩ := HP.out.cells
          have HBA := Lib.hid HP.out.bl
          have HE : Hid (L = untF a b loop) := Lib.hid (by rw [← HL.out]; rfl)
          have H6 := Lib.hid (until_any a b A B c d n loop wr fa fb hn2 hl (HA3.out.below HBA.out) (HB3.out.below HBA.out))
          go_wp2_with fail
          refine H6.out.mono ?_
          clear H6
          rintro e6 w6 h6
          obtain ⟨A6, c6, rfl, g6, hb6, hf6⟩ := (OwnB.bl h6).n (by rw [unt_len]; first | done | exact fa)
          have HFR6 : Hid (∀ a, A6 = some a → w.heap.size ≤ a.block) := Lib.hid (fun a ha => Nat.le_trans HBA.out.size (hf6 a ha))
          have HG6 := Lib.hid g6
          have HB6 : Hid (Below w.heap.size w w6) := Lib.hid (HBA.out.trans (hb6.mono HBA.out.size))
          have HK6 := Lib.hid hb6
          clear g6 hb6 h6 hf6
          go_wp2
          go_ret
          exact ⟨A6, c6, rfl, by rw [HE.out]; exact HG6.out, HB6.out, HFR6.out⟩
        · obtain ⟨ea, fa, hA⟩ := HA.out (by decide)
          have ea := ea.symm
          subst ea
          have HA3 := Lib.hid hA
          clear hA
          obtain ⟨eb, fb, hB⟩ := HB.out (by decide)
          have eb := eb.symm
          subst eb
          have HB3 := Lib.hid hB
          clear hB
          obtain ⟨b0, b1⟩ := HP.out.cells
          have HBA := Lib.hid HP.out.bl
          have HE : Hid (L = flipF (untF (flipF a) (flipF b) loop)) := Lib.hid (by rw [← HL.out]; rfl)
          have H6 := Lib.hid (flip_any a A c n wr fa.symm hn2 (HA3.out.below HBA.out))
          go_wp2_with fail
          refine H6.out.mono ?_
          clear H6
          rintro e6 w6 h6
          obtain ⟨A6, c6, rfl, g6, hb6, hf6⟩ := h6.n (by rw [flip_len]; first | done | exact fa)
          have HFR6 : Hid (∀ a, A6 = some a → w.heap.size ≤ a.block) := Lib.hid (fun a ha => Nat.le_trans HBA.out.size (hf6 a ha))
          have HG6 := Lib.hid g6
          have HB6 : Hid (Below w.heap.size w w6) := Lib.hid (HBA.out.trans (hb6.mono HBA.out.size))
          have HK6 := Lib.hid hb6
          clear g6 hb6 h6 hf6
          have H7 := Lib.hid (flip_any b B d n w6 fb.symm hn2 (HB3.out.below HB6.out))
          go_wp2_with fail
          refine H7.out.mono ?_
          clear H7
          rintro e7 w7 h7
          obtain ⟨A7, c7, rfl, g7, hb7, hf7⟩ := h7.n (by rw [flip_len]; first | done | exact fb)
          have HFR7 : Hid (∀ a, A7 = some a → w.heap.size ≤ a.block) := Lib.hid (fun a ha => Nat.le_trans HB6.out.size (hf7 a ha))
          have HG7 := Lib.hid g7
          have HB7 : Hid (Below w.heap.size w w7) := Lib.hid (HB6.out.trans (hb7.mono HB6.out.size))
          have HK7 := Lib.hid hb7
          clear g7 hb7 h7 hf7
          have H8 := Lib.hid (until_any (flipF a) (flipF b) A6 A7 c6 c7 n loop w7 (by rw [flip_len]; exact fa) (by rw [flip_len]; exact fb) hn2 hl (HG6.out.below HK7.out) HG7.out)
          go_wp2_with fail
          refine H8.out.mono ?_
          clear H8
          rintro e8 w8 h8
          obtain ⟨A8, c8, rfl, g8, hb8, hf8⟩ := (OwnB.bl h8).n (by rw [unt_len, flip_len]; first | done | exact fa)
          have HFR8 : Hid (∀ a, A8 = some a → w.heap.size ≤ a.block) := Lib.hid (fun a ha => Nat.le_trans HB7.out.size (hf8 a ha))
          have HG8 := Lib.hid g8
          have HB8 : Hid (Below w.heap.size w w8) := Lib.hid (HB7.out.trans (hb8.mono HB7.out.size))
          have HK8 := Lib.hid hb8
          clear g8 hb8 h8 hf8
          have H9 := Lib.hid (flip_any (untF (flipF a) (flipF b) loop) A8 c8 n w8 (by rw [unt_len, flip_len]; exact fa.symm) hn2 HG8.out)
          go_wp2_with fail
          refine H9.out.mono ?_
          clear H9
          rintro e9 w9 h9
          obtain ⟨A9, c9, rfl, g9, hb9, hf9⟩ := h9.n (by rw [flip_len, unt_len, flip_len]; first | done | exact fa)
          have HFR9 : Hid (∀ a, A9 = some a → w.heap.size ≤ a.block) := Lib.hid (fun a ha => Nat.le_trans HB8.out.size (hf9 a ha))
          have HG9 := Lib.hid g9
          have HB9 : Hid (Below w.heap.size w w9) := Lib.hid (HB8.out.trans (hb9.mono HB8.out.size))
          have HK9 := Lib.hid hb9
          clear g9 hb9 h9 hf9
          go_wp2
          go_ret
          exact ⟨A9, c9, rfl, by rw [HE.out]; exact HG9.out, HB9.out, HFR9.out⟩
      · have := HOP.out; omega
end Go.Proofs.YtmdfiamffipbcaaDoor.nf
