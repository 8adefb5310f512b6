/- Contracts of package bits: And, Or, Minus, Same. -/
import Derived.Test.YtcoocchfadbhdaaBitsMore
import Derived.Laws.CopyOwn
import Derived.Deep.Cut
namespace Go.Proofs.Ytcoocchfadbhdaa
open Go.ChangeShapes Go.WideShapes Go.ChangeAt Go.RowKit

theorem and_op (x y : Int) (w : World) : Calls Try.prog 53 #[.int .u64 x, .int .u64 y] w fun e w' => e = .returned (.int .u64 (bits .and .u64 x y)) ∧ w = w' := by
  go_enter Try.func53, Try.ntmps53
  go_wp2
  go_ret
  exact ⟨rfl, rfl⟩
theorem or_op (x y : Int) (w : World) : Calls Try.prog 54 #[.int .u64 x, .int .u64 y] w fun e w' => e = .returned (.int .u64 (bits .or .u64 x y)) ∧ w = w' := by
  go_enter Try.func54, Try.ntmps54
  go_wp2
  go_ret
  exact ⟨rfl, rfl⟩
theorem minus_op (x y : Int) (w : World) : Calls Try.prog 55 #[.int .u64 x, .int .u64 y] w fun e w' => e = .returned (.int .u64 (bits .andNot .u64 x y)) ∧ w = w' := by
  go_enter Try.func55, Try.ntmps55
  go_wp2
  go_ret
  exact ⟨rfl, rfl⟩

/-- copy of all words of a set into those of another one. -/
theorem copy_words {w : World} {t2 t m : Nat} {f g : Nat → Value} (h2 : w.rowIs t2 51 m f) (h : w.rowIs t 51 m g) (h1 : ∀ k, k < m → (g k).oneCell' = true) :
    ∃ w2, (Builtin.copy_ #[58, 58] 3 #[.slice (some ⟨t2, 0, none⟩) m m, .slice (some ⟨t, 0, none⟩) m m]).run Try.prog w = .ok (.int .i64 m) w2 ∧ w2.rowIs t2 51 m g ∧ Touch w w2 t2 ∧ w2.heap.size = w.heap.size := by
  obtain ⟨c2, hc2, hs2, _⟩ := h2
  have hh := h
  obtain ⟨c, hc, hs, hg⟩ := h
  have e := run_copy_row (P := Try.prog) w 58 58 3 51 t2 0 m m ⟨t, 0, none⟩ m m c2 51 c.toList Try.underlying58 (by kernel_rfl) hc2 (by simp [hs]) (fun j v hj => by
    have hjm : j < m := by
      rcases Nat.lt_or_ge j m with hlt | hge
      · exact hlt
      · rw [List.getElem?_eq_none (by simpa [hs] using hge)] at hj; cases hj
    have e1 : (⟨t, 0, none⟩ : Addr).add j = ⟨t, j, none⟩ := by rw [add_plain, Nat.zero_add]
    rw [e1, hh.cell hjm, ← hg j hjm, ← hj]
    simp) (by simp [hs, hs2]) (fun v hv => by
    obtain ⟨j, hj, e⟩ := List.mem_iff_getElem.1 hv
    have hjm : j < m := by simpa [hs] using hj
    have := hg j hjm
    rw [← e]
    have e2 : c.toList[j] = g j := by
      have h3 : c[j]? = some c[j] := Array.getElem?_eq_getElem (by omega)
      rw [h3] at this
      injection this
    rw [e2]
    exact h1 j hjm)
  have hX : (List.take 0 c2.toList ++ c.toList ++ List.drop (0 + c.toList.length) c2.toList).toArray = c := by
    have hd : List.drop (0 + c.toList.length) c2.toList = [] := List.drop_of_length_le (by simp [hs, hs2])
    rw [hd]
    simp
  rw [hX] at e
  refine ⟨w.setRow t2 c, by rw [e]; simp [hs, goInt], ⟨c, setRow_heap w t2 c2 c 51 (0, 0) hc2, hs, hg⟩, ⟨rfl, rfl, rfl, by simp, fun k _ hk => setRow_other w t2 k c (fun e => hk (by rw [e]))⟩, by simp⟩

theorem isMade_q {w : World} {p : Option Addr} {mk : Bool} {n : Nat} {A : Option Addr} {m c : Nat} (h : HD w p mk n A m c) (j : Nat) :
    Calls Try.prog 63 #[.pointer p] (w.drewN j) fun e w' => e = .returned (.bool mk) ∧ w' = w.drewN j := (isMade_any (h.drewN j)).mono fun _ _ h => ⟨h.1, h.2.symm⟩
theorem merged_no {w : World} {p q : Option Addr} {mk mk' : Bool} {n n' : Nat} {A A' : Option Addr} {m c m' c' : Nat} (h : HD w p mk n A m c) (h' : HD w q mk' n' A' m' c') (F : Value) (hno : mk = false ∨ mk' = false) :
    Calls Try.prog 52 #[.pointer p, .pointer q, F] w fun e w' => e = .returned (.pointer none) ∧ ∃ j, w' = w.drewN j := by
  have H := Lib.hid h
  have H' := Lib.hid h'
  clear h h'
  cases mk with
  | false =>
    clear hno
    go_enter Try.func52, Try.ntmps52
    go_wp2
    go_quiet ((go_at_call 63; exact Calls.quiet_of_same (isMade_q H.out _)))
    go_wp2
    go_ret
    exact ⟨rfl, _, rfl⟩
  | true =>
    obtain rfl : mk' = false := by simpa using hno
    clear hno
    have K := H.out
    have K' := H'.out
    go_enter Try.func52, Try.ntmps52
    go_wp2
    go_quiet ((go_at_call 63; exact Calls.quiet_of_same (isMade_q (by assumption) _)))
    go_wp2
    go_ret
    exact ⟨rfl, _, rfl⟩
/-- Sets of unlike lengths. -/
theorem merged_len {w : World} {p q : Option Addr} {n n' : Nat} {A A' : Option Addr} {m c m' c' : Nat} (h : HD w p true n A m c) (h' : HD w q true n' A' m' c') (F : Value) (hno : n ≠ n') :
    Calls Try.prog 52 #[.pointer p, .pointer q, F] w fun e w' => e = .returned (.pointer none) ∧ ∃ j, w' = w.drewN j := by
  have H := Lib.hid h
  have H' := Lib.hid h'
  have K := h
  have K' := h'
  rcases K with ⟨_, k, _⟩ | ⟨s, rfl, K⟩
  · cases k
  rcases K' with ⟨_, k, _⟩ | ⟨s', rfl, K'⟩
  · cases k
  have c1 : w.cell? ⟨s, 1, none⟩ = some (.int .i64 n) := K.cell (i := 1) (by omega)
  have c2 : w.cell? ⟨s', 1, none⟩ = some (.int .i64 n') := K'.cell (i := 1) (by omega)
  have t1 : ((n : Int) != (n' : Int)) = true := by simp; omega
  clear K K' hno
  go_enter Try.func52, Try.ntmps52
  go_wp2
  go_quiet ((go_at_call 63; exact Calls.quiet_of_same (isMade_q (by assumption) _)))
  go_wp2
  go_ret
  exact ⟨rfl, _, rfl⟩

set_option maxHeartbeats 1000000 in
theorem merged_ok {w : World} {s t s' t' n : Nat} {g f h : Nat → Bool} (hS : ST w s t n g) (hS' : ST w s' t' n f) (K : Nat)
    (hrun : ∀ (x y : Value) (V : World), (callFunc K #[x, y]).run Try.prog V = .ok (.enter K #[x, y]) V) (hK : ∀ k w, Calls Try.prog K #[.int .u64 (W g k), .int .u64 (W f k)] w fun e w' => e = .returned (.int .u64 (W h k)) ∧ w = w') (hoff : ∀ i, n ≤ i → h i = false) :
    Calls Try.prog 52 #[.pointer (some ⟨s, 0, none⟩), .pointer (some ⟨s', 0, none⟩), .func (.func K) #[] #[]] w (NewSet w n h) := by
  have H := Lib.hid hS
  have H' := Lib.hid hS'
  have HK := Lib.hid hK
  have HO := Lib.hid hoff
  have hn := hS.len
  have c1 : w.cell? ⟨s, 1, none⟩ = some (.int .i64 n) := hS.head.cell (i := 1) (by omega)
  have c2 : w.cell? ⟨s', 1, none⟩ = some (.int .i64 n) := hS'.head.cell (i := 1) (by omega)
  have K1 := hS.hd
  have K2 := hS'.hd
  clear hS hS' hK hoff
  go_enter Try.func52, Try.ntmps52
  go_wp2
  go_quiet ((go_at_call 63; exact Calls.quiet_of_same (isMade_q (by assumption) _)))
  clear K1 K2
  go_wp2_with fail
  refine (new_some n _ hn).mono ?_
  rintro e w2 ⟨s2, t2, rfl, h2, hs2, ht2, hb2⟩
  have hs2' : w.heap.size ≤ s2 := hs2
  have ht2' : w.heap.size ≤ t2 := ht2
  have HB2 : Hid (Below w.heap.size w w2) := Lib.hid ((below_drewN (Below.refl _ _) nq).trans hb2)
  have H2 := Lib.hid h2
  have G2 : Hid (ST w2 s t n g) := Lib.hid (H.out.keep HB2.out)
  have G2' : Hid (ST w2 s' t' n f) := Lib.hid (H'.out.keep HB2.out)
  have hne : Hid (s ≠ t2 ∧ t ≠ t2 ∧ s' ≠ t2 ∧ t' ≠ t2) := Lib.hid (by have := H.out.head.lt; have := H.out.words.lt; have := H'.out.head.lt; have := H'.out.words.lt; omega)
  clear h2 hb2 hs2 ht2 c1 c2
  go_wp2_with fail
  refine still_tail_at 8 (by kernel_rfl) (by kernel_rfl) ?_
  intro W3 hW3
  have H3 : Hid (ST W3 s2 t2 n (fun _ => false)) := Lib.hid (by rw [hW3]; exact H2.out.drewN 1)
  have G3 : Hid (ST W3 s t n g) := Lib.hid (by rw [hW3]; exact G2.out.drewN 1)
  have G3' : Hid (ST W3 s' t' n f) := Lib.hid (by rw [hW3]; exact G2'.out.drewN 1)
  have HB3 : Hid (Below w.heap.size w W3) := Lib.hid (by rw [hW3]; exact HB2.out.drew)
  clear hW3 HB2 H2 G2 G2'
  have c1 : W3.cell? ⟨s, 2, none⟩ = some (.slice (some ⟨t, 0, none⟩) (SW n) (SW n)) := G3.out.head.cell (i := 2) (by omega)
  have c2 : W3.cell? ⟨s2, 2, none⟩ = some (.slice (some ⟨t2, 0, none⟩) (SW n) (SW n)) := H3.out.head.cell (i := 2) (by omega)
  obtain ⟨W4, hcp, hrow, hT, hz⟩ := copy_words H3.out.words G3.out.words (fun k _ => rfl)
  have HR := Lib.hid hrow
  have HT := Lib.hid hT
  have HZ := Lib.hid hz
  clear hrow hT hz
  simp only [List.take_succ_cons, List.take_zero, List.drop_succ_cons, List.drop_zero]
  repeat still_step
  refine wpStill_nil ?_
  have G4' : Hid (ST W4 s' t' n f) := Lib.hid (G3'.out.other HT.out hne.out.2.2.1 hne.out.2.2.2)
  have c3 : W4.cell? ⟨s', 2, none⟩ = some (.slice (some ⟨t', 0, none⟩) (SW n) (SW n)) := G4'.out.head.cell (i := 2) (by omega)
  have HD2 : Hid (W4.rowIs s2 60 3 (headF true n (some ⟨t2, 0, none⟩) (SW n) (SW n))) := Lib.hid (H3.out.head.of_block (HT.out.block _ H3.out.head.lt (fun e => H3.out.ne (by injection e))))
  have NE := Lib.hid H3.out.ne
  have HB4 : Hid (Below w.heap.size w W4) := Lib.hid (HB3.out.grown HT.out HB3.out.size (fun k hk => by injection hk with hk; omega))
  clear c1 c2 HB3 H3 G3 G3' HT HZ
  go_wp2_with fail
  clear hcp
  go_loopw [48] (fun i wr => ∃ k : Nat, k ≤ SW n ∧ i = .int .i64 k ∧ Hid (wr.rowIs s2 60 3 (headF true n (some ⟨t2, 0, none⟩) (SW n) (SW n))) ∧ Hid (wr.rowIs t2 51 (SW n) (fun j => .int .u64 (if j < k then W h j else W g j))) ∧
    Hid (ST wr s' t' n f) ∧ Hid (Below w.heap.size w wr)) (fun i _ => SW n - (intOf i).toNat)
  case atStart => exact ⟨0, Nat.zero_le _, rfl, HD2, Lib.hid (HR.out.congr (fun j _ => by simp)), G4', HB4⟩
  case round =>
    clear c3 HD2 HR G4' HB4
    obtain ⟨k, hk, rfl, HD2, HR, G4', HB4⟩ := hrel
    have hsw : SW n ≤ 1024 := by unfold SW; omega
    by_cases hlt : k < SW n
    · have c1 : wr.cell? ⟨t', k, none⟩ = some (.int .u64 (W f k)) := G4'.out.words.cell hlt
      go_upto_region 8 with (fail)
      refine still_tail_at 16 (by kernel_rfl) (by kernel_rfl) ?_
      intro W5 hW5
      have d1 : W5.cell? ⟨s2, 2, none⟩ = some (.slice (some ⟨t2, 0, none⟩) (SW n) (SW n)) := by rw [hW5]; exact HD2.out.cell (i := 2) (by omega)
      have d2 : W5.cell? ⟨t2, k, none⟩ = some (.int .u64 (W g k)) := by
        rw [hW5]
        have := HR.out.cell hlt
        simp only [Nat.lt_irrefl, if_false] at this
        exact this
      have d3 : W5.frozen? ⟨t2, k, none⟩ = false := by rw [hW5]; exact HR.out.frozen k
      have HD5 : Hid (W5.rowIs s2 60 3 (headF true n (some ⟨t2, 0, none⟩) (SW n) (SW n))) := Lib.hid (by rw [hW5]; exact HD2.out)
      have HR5 : Hid (W5.rowIs t2 51 (SW n) (fun j => .int .u64 (if j < k then W h j else W g j))) := Lib.hid (by rw [hW5]; exact HR.out)
      have G5 : Hid (ST W5 s' t' n f) := Lib.hid (by rw [hW5]; exact G4'.out.drewN 1)
      have HB5 : Hid (Below w.heap.size w W5) := Lib.hid (by rw [hW5]; exact HB4.out.drew)
      clear hW5 c1 HD2 HR G4' HB4
      simp only [List.take_succ_cons, List.take_zero, List.drop_succ_cons, List.drop_zero]
      repeat still_step
      refine wpStill_step (fun K' hK' => ?_)
      go_simp
      refine ⟨_, (HK.out k W5).mono (fun _ _ h => ⟨h.1, h.2.symm⟩), hK' _ ?_⟩
      clear hK' K'
      repeat still_step
      refine wpStill_nil ?_
      have HR6 : Hid ((W5.setCell ⟨t2, k, none⟩ (.int .u64 (W h k))).rowIs t2 51 (SW n) (fun j => .int .u64 (if j < k + 1 then W h j else W g j))) := Lib.hid ((HR5.out.set k _).congr (fun j hj => by
        by_cases e : j = k
        · subst e; simp
        · rw [if_neg e]
          by_cases e2 : j < k
          · rw [if_pos e2, if_pos (by omega)]
          · rw [if_neg e2, if_neg (by omega)]))
      have HD6 : Hid ((W5.setCell ⟨t2, k, none⟩ (.int .u64 (W h k))).rowIs s2 60 3 (headF true n (some ⟨t2, 0, none⟩) (SW n) (SW n))) := Lib.hid (HD5.out.setOther (a := ⟨t2, k, none⟩) NE.out _)
      have G6 : Hid (ST (W5.setCell ⟨t2, k, none⟩ (.int .u64 (W h k))) s' t' n f) := Lib.hid (G5.out.of_blocks (Below.heap_setCell W5 ⟨t2, k, none⟩ _ _ hne.out.2.2.1) (Below.heap_setCell W5 ⟨t2, k, none⟩ _ _ hne.out.2.2.2))
      have HB6 : Hid (Below w.heap.size w (W5.setCell ⟨t2, k, none⟩ (.int .u64 (W h k)))) := Lib.hid (HB5.out.setCell ht2' _)
      clear HD5 HR5 G5 HB5
      go_wp2
      go_roundw
      case rel => exact ⟨k + 1, by omega, by go_num, HD6, HR6, G6, HB6⟩
      case measure => simp [intOf]; omega
    · obtain rfl : k = SW n := by omega
      go_wp2
      go_ret
      refine ⟨s2, t2, rfl, ⟨HD2.out, HR.out.congr (fun j hj => by rw [if_pos hj]), NE.out, hn, HO.out⟩, hs2', ht2', HB4.out⟩

theorem and_sets {w : World} {s t s' t' n : Nat} {g f : Nat → Bool} (hS : ST w s t n g) (hS' : ST w s' t' n f) :
    Calls Try.prog 26 #[.pointer (some ⟨s, 0, none⟩), .pointer (some ⟨s', 0, none⟩)] w (NewSet w n (fun i => g i && f i)) := by
  have h := merged_ok hS hS' 53 (fun x y V => by simp [go_sem]) (h := fun i => g i && f i) (fun k w => by have := and_op (W g k) (W f k) w; rwa [W_and] at this) (fun i hi => by simp [hS.off i hi])
  have H := Lib.hid h
  clear h hS hS'
  go_enter Try.func26, Try.ntmps26
  go_wp2_with fail
  refine H.out.mono ?_
  rintro e w' ⟨s2, t2, rfl, h1, h2, h3, h4⟩
  go_wp2
  go_ret
  exact ⟨s2, t2, rfl, h1, h2, h3, h4⟩
theorem or_sets {w : World} {s t s' t' n : Nat} {g f : Nat → Bool} (hS : ST w s t n g) (hS' : ST w s' t' n f) :
    Calls Try.prog 27 #[.pointer (some ⟨s, 0, none⟩), .pointer (some ⟨s', 0, none⟩)] w (NewSet w n (fun i => g i || f i)) := by
  have h := merged_ok hS hS' 54 (fun x y V => by simp [go_sem]) (h := fun i => g i || f i) (fun k w => by have := or_op (W g k) (W f k) w; rwa [W_or] at this) (fun i hi => by simp [hS.off i hi, hS'.off i hi])
  have H := Lib.hid h
  clear h hS hS'
  go_enter Try.func27, Try.ntmps27
  go_wp2_with fail
  refine H.out.mono ?_
  rintro e w' ⟨s2, t2, rfl, h1, h2, h3, h4⟩
  go_wp2
  go_ret
  exact ⟨s2, t2, rfl, h1, h2, h3, h4⟩
theorem minus_sets {w : World} {s t s' t' n : Nat} {g f : Nat → Bool} (hS : ST w s t n g) (hS' : ST w s' t' n f) :
    Calls Try.prog 28 #[.pointer (some ⟨s, 0, none⟩), .pointer (some ⟨s', 0, none⟩)] w (NewSet w n (fun i => g i && !f i)) := by
  have h := merged_ok hS hS' 55 (fun x y V => by simp [go_sem]) (h := fun i => g i && !f i) (fun k w => by have := minus_op (W g k) (W f k) w; rwa [W_minus] at this) (fun i hi => by simp [hS.off i hi])
  have H := Lib.hid h
  clear h hS hS'
  go_enter Try.func28, Try.ntmps28
  go_wp2_with fail
  refine H.out.mono ?_
  rintro e w' ⟨s2, t2, rfl, h1, h2, h3, h4⟩
  go_wp2
  go_ret
  exact ⟨s2, t2, rfl, h1, h2, h3, h4⟩
end Go.Proofs.Ytcoocchfadbhdaa
