/- The document's reading of a number. -/
import Derived.Test.YthakidnbgmpcfaaDocRead
import Derived.Deep.RegionWith
namespace Go.Proofs.Ythakidnbgmpcfaa
open Go.ChangeShapes Go.WideShapes Go.ChangeAt Go.RowKit


theorem wrap_in (x : Int) (h1 : -9223372036854775808 ≤ x) (h2 : x ≤ 9223372036854775807) : IntKind.i64.wrap x = x := by rw [IntKind.wrap_i64]; omega

set_option maxRecDepth 20000 in
set_option maxHeartbeats 4000000 in
theorem dnum_ok {A : Option Addr} {c : Nat} {l : List Int} {p : Nat} (w : World) (hB : BA w A l) (hp : p ≤ l.length) (hu : U8 l) (hl : l.length ≤ 1048576) :
    Calls Try.prog 7 #[rrV A l.length c p 0] w (DNum A c l p (readN (l.drop p)) w) := by
  have HB := Lib.hid hB
  have HU := Lib.hid hu
  clear hB hu
  unfold rrV
  go_enter Try.func7, Try.ntmps7
  go_wp2
  go_loopw [4] (fun si wr => ∃ (i : Nat), i ≤ 10 ∧ p + i ≤ l.length ∧ si = .int .i64 (i : Int) ∧ wr = (w.alloc (.cells #[.slice A l.length c, .int .i64 p, .int .i64 0] 28)).alloc (.cells #[.slice none 0 0, .int .i64 0, .int .i64 0] 28) ∧ Hid (∀ t, t < i → 128 ≤ (l.drop p).getD t 0)) (fun si _ => 10 - (intOf si).toNat)
  case atStart => exact ⟨0, by omega, by omega, rfl, rfl, Lib.hid (fun t ht => absurd ht (by omega))⟩
  case round =>
    obtain ⟨i, hi10, hil, rfl, rfl, HC⟩ := hrel
    have hdl : Hid ((l.drop p).length = l.length - p) := Lib.hid (by simp)
    by_cases hi : i < 10
    · have t1 : decide ((i : Int) < 10) = true := decide_eq_true (by omega)
      by_cases hend : i = l.length - p
      · have hcn : contN 10 (l.drop p) = i := contN_eq i 10 _ HC.out (by rw [hdl.out]; omega) (by omega) (.inr (.inl (by rw [hdl.out]; exact hend)))
        have HE : Hid (readN (l.drop p) = ⟨4, 0, 0⟩) := Lib.hid (by unfold readN; rw [hcn, if_pos ⟨hi, by rw [hdl.out]; omega⟩])
        have t2 : decide ((p : Int) + (i : Int) < (l.length : Int)) = false := decide_eq_false (by omega)
        have t3 : decide ((l.length : Int) ≤ (p : Int) + (i : Int)) = true := decide_eq_true (by omega)
        clear hcn hend
        go_wp2
        (try simp only [Exit.inBlock, Exit.then])
        refine bodyPost_ret (v := .tuple #[.agg #[.slice _ l.length c, .int .i64 p, .int .i64 4], .int .i64 0]) ?_ rfl ⟨by rw [HE.out]; rfl, ?_⟩
        · rw [results_cell_tmp rfl]; go_simp
        · (repeat' (first | exact Below.refl _ _ | refine Below.drew ?_ | refine Below.setCell ?_ (by simp <;> omega) _ | refine Below.alloc ?_ (by simp <;> omega) _))
      · have hlt : p + i < l.length := by omega
        have t2 : decide ((p : Int) + (i : Int) < (l.length : Int)) = true := decide_eq_true (by omega)
        have t3 : decide ((l.length : Int) ≤ (p : Int) + (i : Int)) = false := decide_eq_false (by omega)
        obtain ⟨b, off, rfl, hb, hcell⟩ := HB.out (by omega)
        have d1 : w.cell? ⟨b, off + (p + i), none⟩ = some (.int .u8 (l.getD (p + i) 0)) := hcell (p + i) hlt
        have hu8 := HU.out.at_ (p + i)
        have hx0 : Hid ((l.drop p).getD i 0 = l.getD (p + i) 0) := Lib.hid (getD_drop l p i)
        have HCELL := Lib.hid hcell
        generalize l.getD (p + i) 0 = x at d1 hu8 hx0
        clear hcell hend
        by_cases hbig : 128 ≤ x
        · have HC2 : Hid (∀ t, t < i + 1 → 128 ≤ (l.drop p).getD t 0) := Lib.hid (fun t ht => by
            by_cases hti : t = i
            · subst hti; rw [hx0.out]; exact hbig
            · exact HC.out t (by omega))
          have hb' : decide (128 ≤ x) = true := decide_eq_true hbig
          go_wp2
          refine ⟨⟨i + 1, by omega, by omega, by go_num, trivial, HC2⟩, by simp [intOf]; omega⟩
        · have hb' : decide (128 ≤ x) = false := decide_eq_false hbig
          have HK : Hid (contN 10 (l.drop p) = i) := Lib.hid (contN_eq i 10 _ HC.out (by rw [hdl.out]; omega) (by omega) (.inr (.inr (by rw [hx0.out]; omega))))
          have HTEN : Hid (i < 9 ∨ i = 9 ∧ x ≤ 1 → dval ((l.drop p).take (i + 1)) < 18446744073709551616) := Lib.hid (fun h => dval_ten _ _ (by rw [hdl.out]; omega) (h.imp id (fun h => ⟨h.1, by rw [hx0.out]; omega⟩)))
          have HE0 : Hid ((i = 9 ∧ 1 < x) ∨ (0 < i ∧ x = 0) → readN (l.drop p) = ⟨3, 0, 0⟩) := Lib.hid (fun h => by
            unfold readN
            rw [HK.out, if_neg (by rw [hdl.out]; omega), if_pos]
            have h2 := hx0.out
            rcases h with ⟨h, h'⟩ | ⟨h, h'⟩
            · exact .inr (.inl ⟨h, by rw [h] at h2; omega⟩)
            · exact .inr (.inr ⟨h, by omega⟩))
          have HE1 : Hid (¬((i = 9 ∧ 1 < x) ∨ (0 < i ∧ x = 0)) → readN (l.drop p) = ⟨0, sgn (dval ((l.drop p).take (i + 1))), i + 1⟩) := Lib.hid (fun hn => by
            unfold readN
            rw [HK.out, if_neg (by rw [hdl.out]; omega), if_neg]
            have h2 := hx0.out
            rintro (h | ⟨h, h'⟩ | ⟨h, h'⟩)
            · omega
            · exact hn (.inl ⟨h, by rw [h] at h2; omega⟩)
            · exact hn (.inr ⟨h, by omega⟩))
          by_cases h9 : i = 9
          · subst h9
            by_cases h1 : 1 < x
            · have HE := Lib.hid (HE0.out (.inl ⟨rfl, h1⟩))
              have t4 : decide (1 < x) = true := decide_eq_true h1
              go_wp2
              (try simp only [Exit.inBlock, Exit.then])
              refine bodyPost_ret (v := .tuple #[.agg #[.slice _ l.length c, .int .i64 p, .int .i64 3], .int .i64 0]) ?_ rfl ⟨by rw [HE.out]; rfl, ?_⟩
              · rw [results_cell_tmp rfl]; go_simp
              · (repeat' (first | exact Below.refl _ _ | refine Below.drew ?_ | refine Below.setCell ?_ (by simp <;> omega) _ | refine Below.alloc ?_ (by simp <;> omega) _))
            · have t4 : decide (1 < x) = false := decide_eq_false h1
              by_cases hx00 : x = 0
              · have HE := Lib.hid (HE0.out (.inr ⟨by omega, hx00⟩))
                subst hx00
                go_wp2
                (try simp only [Exit.inBlock, Exit.then])
                refine bodyPost_ret (v := .tuple #[.agg #[.slice _ l.length c, .int .i64 p, .int .i64 3], .int .i64 0]) ?_ rfl ⟨by rw [HE.out]; rfl, ?_⟩
                · rw [results_cell_tmp rfl]; go_simp
                · (repeat' (first | exact Below.refl _ _ | refine Below.drew ?_ | refine Below.setCell ?_ (by simp <;> omega) _ | refine Below.alloc ?_ (by simp <;> omega) _))
              · have HE := Lib.hid (HE1.out (by omega))
                have HTT := Lib.hid (HTEN.out (.inr ⟨rfl, by omega⟩))
                clear HTEN HE0 HE1
                have t5 : (x == 0) = false := by simp; omega
                go_wp2
                go_loopw [5, 6] (fun su si wr => ∃ (t : Nat) (z : Int), t ≤ (9 : Nat) + 1 ∧ z = (t : Int) - 1 ∧ si = .int .i64 z ∧ Hid (su = .int .u64 ((dval (((l.drop p).take ((9 : Nat) + 1)).drop t) : Nat) : Int)) ∧ wr = (w.alloc (.cells #[.slice (some ⟨b, off, none⟩) l.length c, .int .i64 p, .int .i64 0] 28)).alloc (.cells #[.slice none 0 0, .int .i64 0, .int .i64 0] 28)) (fun _ si _ => (intOf si + 1).toNat)
                case atStart => exact ⟨(9 : Nat) + 1, ((9 : Nat) : Int), Nat.le_refl _, by omega, rfl, Lib.hid (by rw [List.drop_eq_nil_of_le (by simp; omega)]; rfl), rfl⟩
                case round =>
                  obtain ⟨t, z, ht, hz, rfl, HS, rfl⟩ := hrel
                  by_cases h0 : t = 0
                  · subst h0
                    obtain rfl : z = -1 := by omega
                    clear hz ht
                    have hs := HS.out
                    rw [List.drop_zero] at hs
                    subst hs
                    have HS2 := HTT
                    generalize dval ((l.drop p).take ((9 : Nat) + 1)) = u at HE HS2
                    clear HS
                    go_wp2
                    go_region_with (go_at_call 22; refine (dsigned_any _ _ HS2.out).mono ?_; rintro en w' ⟨rfl, rfl⟩)
                    all_goals
                      go_wp2
                      (try simp only [Exit.inBlock, Exit.then])
                      have hw1 : IntKind.i64.wrap ((p : Int) + ((9 : Nat) : Int)) = (p : Int) + ((9 : Nat) : Int) := wrap_in _ (by omega) (by omega)
                      have hw2 : IntKind.i64.wrap ((p : Int) + ((9 : Nat) : Int) + 1) = (p : Int) + ((9 : Nat) : Int) + 1 := wrap_in _ (by omega) (by omega)
                      have hpi : ((p + ((9 : Nat) + 1) : Nat) : Int) = (p : Int) + ((9 : Nat) : Int) + 1 := by omega
                      refine bodyPost_ret (v := .tuple #[.agg #[.slice _ l.length c, .int .i64 ((p : Int) + ((9 : Nat) : Int) + 1), .int .i64 0], .int .i64 (sgn u)]) ?_ rfl ⟨by rw [HE.out]; simp only [rrV]; rw [hpi], ?_⟩
                      · rw [results_cell_tmp rfl]; (try go_simp); (try (simp only [hw1, hw2])); (try (simp only [IntKind.wrap_i64]; omega))
                      · (repeat' (first | exact Below.refl _ _ | refine Below.drew ?_ | refine below_drewN ?_ _ | refine Below.setCell ?_ (by simp <;> omega) _ | refine Below.alloc ?_ (by simp <;> omega) _))
                  · obtain ⟨t', rfl⟩ : ∃ t', t = t' + 1 := ⟨t - 1, by omega⟩
                    obtain rfl : z = (t' : Int) := by omega
                    clear hz h0
                    have htl : t' < ((l.drop p).take ((9 : Nat) + 1)).length := by rw [List.length_take, hdl.out]; omega
                    have hD := dval_drop ((l.drop p).take ((9 : Nat) + 1)) t' htl
                    rw [getD_take _ _ _ (by omega), getD_drop] at hD
                    have hle := Nat.lt_of_le_of_lt (dval_drop_le ((l.drop p).take ((9 : Nat) + 1)) t') HTT.out
                    have d3 : w.cell? ⟨b, off + (p + t'), none⟩ = some (.int .u8 (l.getD (p + t') 0)) := HCELL.out (p + t') (by omega)
                    have hy8 := HU.out.at_ (p + t')
                    have hs := HS.out
                    generalize l.getD (p + t') 0 = y at d3 hy8 hD
                    have HV : Hid (Value.int .u64 ((dval (((l.drop p).take ((9 : Nat) + 1)).drop (t' + 1)) : Int) * 128 + y % 128) = .int .u64 ((dval (((l.drop p).take ((9 : Nat) + 1)).drop t') : Nat) : Int)) := Lib.hid (by rw [hD]; congr 1; omega)
                    have hfit : (dval (((l.drop p).take ((9 : Nat) + 1)).drop (t' + 1)) : Int) * 128 + y % 128 < 18446744073709551616 := by omega
                    generalize dval (((l.drop p).take ((9 : Nat) + 1)).drop (t' + 1)) = u at hs HV hfit
                    subst hs
                    clear HS hD hle htl HTT HE
                    go_wp2
                    refine ⟨⟨t', (t' : Int) - 1, by omega, rfl, by go_num, HV, trivial⟩, by simp [intOf] <;> omega⟩
          · have t4 : ((i : Int) == 9) = false := by simp; omega
            by_cases hi0 : i = 0
            · have HE := Lib.hid (HE1.out (by omega))
              have HTT := Lib.hid (HTEN.out (.inl (by omega)))
              clear HTEN HE0 HE1
              subst hi0
              have d10 : w.cell? ⟨b, off + p, none⟩ = some (.int .u8 x) := d1
              go_wp2
              go_loopw [5, 6] (fun su si wr => ∃ (t : Nat) (z : Int), t ≤ (0 : Nat) + 1 ∧ z = (t : Int) - 1 ∧ si = .int .i64 z ∧ Hid (su = .int .u64 ((dval (((l.drop p).take ((0 : Nat) + 1)).drop t) : Nat) : Int)) ∧ wr = (w.alloc (.cells #[.slice (some ⟨b, off, none⟩) l.length c, .int .i64 p, .int .i64 0] 28)).alloc (.cells #[.slice none 0 0, .int .i64 0, .int .i64 0] 28)) (fun _ si _ => (intOf si + 1).toNat)
              case atStart => exact ⟨(0 : Nat) + 1, ((0 : Nat) : Int), Nat.le_refl _, by omega, rfl, Lib.hid (by rw [List.drop_eq_nil_of_le (by simp; omega)]; rfl), rfl⟩
              case round =>
                obtain ⟨t, z, ht, hz, rfl, HS, rfl⟩ := hrel
                by_cases h0 : t = 0
                · subst h0
                  obtain rfl : z = -1 := by omega
                  clear hz ht
                  have hs := HS.out
                  rw [List.drop_zero] at hs
                  subst hs
                  have HS2 := HTT
                  generalize dval ((l.drop p).take ((0 : Nat) + 1)) = u at HE HS2
                  clear HS
                  go_wp2
                  go_region_with (go_at_call 22; refine (dsigned_any _ _ HS2.out).mono ?_; rintro en w' ⟨rfl, rfl⟩)
                  all_goals
                    go_wp2
                    (try simp only [Exit.inBlock, Exit.then])
                    have hw1 : IntKind.i64.wrap ((p : Int) + ((0 : Nat) : Int)) = (p : Int) + ((0 : Nat) : Int) := wrap_in _ (by omega) (by omega)
                    have hw2 : IntKind.i64.wrap ((p : Int) + ((0 : Nat) : Int) + 1) = (p : Int) + ((0 : Nat) : Int) + 1 := wrap_in _ (by omega) (by omega)
                    have hpi : ((p + ((0 : Nat) + 1) : Nat) : Int) = (p : Int) + ((0 : Nat) : Int) + 1 := by omega
                    refine bodyPost_ret (v := .tuple #[.agg #[.slice _ l.length c, .int .i64 ((p : Int) + ((0 : Nat) : Int) + 1), .int .i64 0], .int .i64 (sgn u)]) ?_ rfl ⟨by rw [HE.out]; simp only [rrV]; rw [hpi], ?_⟩
                    · rw [results_cell_tmp rfl]; (try go_simp); (try (simp only [hw1, hw2])); (try (simp only [IntKind.wrap_i64]; omega))
                    · (repeat' (first | exact Below.refl _ _ | refine Below.drew ?_ | refine below_drewN ?_ _ | refine Below.setCell ?_ (by simp <;> omega) _ | refine Below.alloc ?_ (by simp <;> omega) _))
                · obtain ⟨t', rfl⟩ : ∃ t', t = t' + 1 := ⟨t - 1, by omega⟩
                  obtain rfl : z = (t' : Int) := by omega
                  clear hz h0
                  have htl : t' < ((l.drop p).take ((0 : Nat) + 1)).length := by rw [List.length_take, hdl.out]; omega
                  have hD := dval_drop ((l.drop p).take ((0 : Nat) + 1)) t' htl
                  rw [getD_take _ _ _ (by omega), getD_drop] at hD
                  have hle := Nat.lt_of_le_of_lt (dval_drop_le ((l.drop p).take ((0 : Nat) + 1)) t') HTT.out
                  have d3 : w.cell? ⟨b, off + (p + t'), none⟩ = some (.int .u8 (l.getD (p + t') 0)) := HCELL.out (p + t') (by omega)
                  have hy8 := HU.out.at_ (p + t')
                  have hs := HS.out
                  generalize l.getD (p + t') 0 = y at d3 hy8 hD
                  have HV : Hid (Value.int .u64 ((dval (((l.drop p).take ((0 : Nat) + 1)).drop (t' + 1)) : Int) * 128 + y % 128) = .int .u64 ((dval (((l.drop p).take ((0 : Nat) + 1)).drop t') : Nat) : Int)) := Lib.hid (by rw [hD]; congr 1; omega)
                  have hfit : (dval (((l.drop p).take ((0 : Nat) + 1)).drop (t' + 1)) : Int) * 128 + y % 128 < 18446744073709551616 := by omega
                  generalize dval (((l.drop p).take ((0 : Nat) + 1)).drop (t' + 1)) = u at hs HV hfit
                  subst hs
                  clear HS hD hle htl HTT HE
                  go_wp2
                  refine ⟨⟨t', (t' : Int) - 1, by omega, rfl, by go_num, HV, trivial⟩, by simp [intOf] <;> omega⟩
            · have t5 : decide (0 < (i : Int)) = true := decide_eq_true (by omega)
              by_cases hx00 : x = 0
              · have HE := Lib.hid (HE0.out (.inr ⟨by omega, hx00⟩))
                subst hx00
                go_wp2
                (try simp only [Exit.inBlock, Exit.then])
                refine bodyPost_ret (v := .tuple #[.agg #[.slice _ l.length c, .int .i64 p, .int .i64 3], .int .i64 0]) ?_ rfl ⟨by rw [HE.out]; rfl, ?_⟩
                · rw [results_cell_tmp rfl]; go_simp
                · (repeat' (first | exact Below.refl _ _ | refine Below.drew ?_ | refine Below.setCell ?_ (by simp <;> omega) _ | refine Below.alloc ?_ (by simp <;> omega) _))
              · have HE := Lib.hid (HE1.out (by omega))
                have HTT := Lib.hid (HTEN.out (.inl (by omega)))
                clear HTEN HE0 HE1
                have t6 : (x == 0) = false := by simp; omega
                go_wp2
                go_loopw [5, 6] (fun su si wr => ∃ (t : Nat) (z : Int), t ≤ (i : Nat) + 1 ∧ z = (t : Int) - 1 ∧ si = .int .i64 z ∧ Hid (su = .int .u64 ((dval (((l.drop p).take ((i : Nat) + 1)).drop t) : Nat) : Int)) ∧ wr = (w.alloc (.cells #[.slice (some ⟨b, off, none⟩) l.length c, .int .i64 p, .int .i64 0] 28)).alloc (.cells #[.slice none 0 0, .int .i64 0, .int .i64 0] 28)) (fun _ si _ => (intOf si + 1).toNat)
                case atStart => exact ⟨(i : Nat) + 1, ((i : Nat) : Int), Nat.le_refl _, by omega, rfl, Lib.hid (by rw [List.drop_eq_nil_of_le (by simp; omega)]; rfl), rfl⟩
                case round =>
                  obtain ⟨t, z, ht, hz, rfl, HS, rfl⟩ := hrel
                  by_cases h0 : t = 0
                  · subst h0
                    obtain rfl : z = -1 := by omega
                    clear hz ht
                    have hs := HS.out
                    rw [List.drop_zero] at hs
                    subst hs
                    have HS2 := HTT
                    generalize dval ((l.drop p).take ((i : Nat) + 1)) = u at HE HS2
                    clear HS
                    go_wp2
                    go_region_with (go_at_call 22; refine (dsigned_any _ _ HS2.out).mono ?_; rintro en w' ⟨rfl, rfl⟩)
                    all_goals
                      go_wp2
                      (try simp only [Exit.inBlock, Exit.then])
                      have hw1 : IntKind.i64.wrap ((p : Int) + ((i : Nat) : Int)) = (p : Int) + ((i : Nat) : Int) := wrap_in _ (by omega) (by omega)
                      have hw2 : IntKind.i64.wrap ((p : Int) + ((i : Nat) : Int) + 1) = (p : Int) + ((i : Nat) : Int) + 1 := wrap_in _ (by omega) (by omega)
                      have hpi : ((p + ((i : Nat) + 1) : Nat) : Int) = (p : Int) + ((i : Nat) : Int) + 1 := by omega
                      refine bodyPost_ret (v := .tuple #[.agg #[.slice _ l.length c, .int .i64 ((p : Int) + ((i : Nat) : Int) + 1), .int .i64 0], .int .i64 (sgn u)]) ?_ rfl ⟨by rw [HE.out]; simp only [rrV]; rw [hpi], ?_⟩
                      · rw [results_cell_tmp rfl]; (try go_simp); (try (simp only [hw1, hw2])); (try (simp only [IntKind.wrap_i64]; omega))
                      · (repeat' (first | exact Below.refl _ _ | refine Below.drew ?_ | refine below_drewN ?_ _ | refine Below.setCell ?_ (by simp <;> omega) _ | refine Below.alloc ?_ (by simp <;> omega) _))
                  · obtain ⟨t', rfl⟩ : ∃ t', t = t' + 1 := ⟨t - 1, by omega⟩
                    obtain rfl : z = (t' : Int) := by omega
                    clear hz h0
                    have htl : t' < ((l.drop p).take ((i : Nat) + 1)).length := by rw [List.length_take, hdl.out]; omega
                    have hD := dval_drop ((l.drop p).take ((i : Nat) + 1)) t' htl
                    rw [getD_take _ _ _ (by omega), getD_drop] at hD
                    have hle := Nat.lt_of_le_of_lt (dval_drop_le ((l.drop p).take ((i : Nat) + 1)) t') HTT.out
                    have d3 : w.cell? ⟨b, off + (p + t'), none⟩ = some (.int .u8 (l.getD (p + t') 0)) := HCELL.out (p + t') (by omega)
                    have hy8 := HU.out.at_ (p + t')
                    have hs := HS.out
                    generalize l.getD (p + t') 0 = y at d3 hy8 hD
                    have HV : Hid (Value.int .u64 ((dval (((l.drop p).take ((i : Nat) + 1)).drop (t' + 1)) : Int) * 128 + y % 128) = .int .u64 ((dval (((l.drop p).take ((i : Nat) + 1)).drop t') : Nat) : Int)) := Lib.hid (by rw [hD]; congr 1; omega)
                    have hfit : (dval (((l.drop p).take ((i : Nat) + 1)).drop (t' + 1)) : Int) * 128 + y % 128 < 18446744073709551616 := by omega
                    generalize dval (((l.drop p).take ((i : Nat) + 1)).drop (t' + 1)) = u at hs HV hfit
                    subst hs
                    clear HS hD hle htl HTT HE
                    go_wp2
                    refine ⟨⟨t', (t' : Int) - 1, by omega, rfl, by go_num, HV, trivial⟩, by simp [intOf] <;> omega⟩
    · obtain rfl : i = 10 := by omega
      have hcn : contN 10 (l.drop p) = 10 := contN_eq 10 10 _ HC.out (by rw [hdl.out]; omega) (by omega) (.inl rfl)
      have HE : Hid (readN (l.drop p) = ⟨3, 0, 0⟩) := Lib.hid (by unfold readN; rw [hcn, if_neg (by omega), if_pos (.inl rfl)])
      clear hcn
      go_wp2
      (try simp only [Exit.inBlock, Exit.then])
      refine bodyPost_ret (v := .tuple #[.agg #[.slice _ l.length c, .int .i64 p, .int .i64 3], .int .i64 0]) ?_ rfl ⟨by rw [HE.out]; rfl, ?_⟩
      · rw [results_cell_tmp rfl]; go_simp
      · (repeat' (first | exact Below.refl _ _ | refine Below.drew ?_ | refine Below.setCell ?_ (by simp <;> omega) _ | refine Below.alloc ?_ (by simp <;> omega) _))
end Go.Proofs.Ythakidnbgmpcfaa
