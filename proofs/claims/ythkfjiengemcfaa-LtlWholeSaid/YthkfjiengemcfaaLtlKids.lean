/- The program's Kids: the parts of a node. -/
import Derived.Test.YthkfjiengemcfaaLtlSpans
import Derived.Laws.CopyOwn
namespace Go.Proofs.Ythkfjiengemcfaa.lt
open Go.ChangeShapes Go.WideShapes Go.ChangeAt Go.RowKit sr wi

/-- What stands while Kids works. -/
def KdI (e : List (Int × Int)) (at_ : Int) (ab kb : Nat) (k : Nat) (st : List Int) (W : World) : Prop :=
  Ok e k st ∧ W.heap[kb]? = some (.cells #[.int .i64 (kidsK e at_ k).1, .int .i64 (kidsK e at_ k).2] 49) ∧ W.cell? ⟨ab, 0, none⟩ = some (.int .i64 at_) ∧ ab < W.heap.size ∧ kb < W.heap.size

theorem turn_row {w : World} {g : Nat} (cs : Array Value) : Turn (· = g) w (w.setRow g cs) := ⟨rfl, rfl, rfl, by simp, fun k _ hT => setRow_other w g k cs hT⟩
set_option maxHeartbeats 1000000 in
theorem kids1_other (ab kb k : Nat) (at_ : Int) (v : Value) (W : World) (h : at_ ≠ k) (hA : W.cell? ⟨ab, 0, none⟩ = some (.int .i64 at_)) :
    Calls Try.prog 35 #[.int .i64 k, v, .pointer (some ⟨ab, 0, none⟩), .pointer (some ⟨kb, 0, none⟩)] W fun x W' => x = .returned (.int .i64 k) ∧ W = W' := by
  have hk : ((k : Int) == at_) = false := by rw [beq_eq_false_iff_ne]; exact fun e => h e.symm
  have hk2 : ¬ (k : Int) = at_ := fun e => h e.symm
  go_enter Try.func35, Try.ntmps35
  go_wp2
  go_ret
  exact ⟨rfl, rfl⟩
set_option maxRecDepth 20000 in
set_option maxHeartbeats 1000000 in
theorem kids1_here (ab kb k t c : Nat) (x0 y0 x1 y1 : Int) (B : Option Addr) (ps : List Int) (W : World) (ht : t = ps.length) (hB : IA W B ps) (hG : W.heap[kb]? = some (.cells #[.int .i64 x0, .int .i64 y0] 49))
    (hps : (ps = [] ∧ x1 = x0 ∧ y1 = y0) ∨ (ps = [x1] ∧ y1 = y0) ∨ ps = [x1, y1]) (hA : W.cell? ⟨ab, 0, none⟩ = some (.int .i64 (k : Int))) :
    Calls Try.prog 35 #[.int .i64 k, .slice B t c, .pointer (some ⟨ab, 0, none⟩), .pointer (some ⟨kb, 0, none⟩)] W fun x W' => x = .returned (.int .i64 k) ∧ W'.heap[kb]? = some (.cells #[.int .i64 x1, .int .i64 y1] 49) ∧ Turn (· = kb) W W' := by
  have HG := Lib.hid hG
  rcases hps with ⟨rfl, rfl, rfl⟩ | ⟨rfl, rfl⟩ | rfl
  · subst ht
    clear hB hG
    go_enter Try.func35, Try.ntmps35
    go_wp2_with (with_reducible refine wpList_copy_nothing rfl (.tmp 10) (.tmp 11) 30 30 rfl 3 Try.underlying30 (by kernel_rfl) _ _ _ _ _ _ rfl rfl rfl ?_)
    go_ret
    exact ⟨rfl, HG.out, Turn.refl _ _⟩
  · subst ht
    obtain ⟨b, o, rfl, hb, hc⟩ := hB (by simp)
    have c0 := hc 0 (by simp)
    have HC : Hid (∀ (j : Nat) (v : Value), [Value.int .i64 x1][j]? = some v → W.cell? ((⟨b, o, none⟩ : Addr).add j) = some v) := Lib.hid (fun j v hj => by
      rcases j with _ | j
      · rw [add_plain, c0]; simpa using hj
      · simp at hj)
    clear hB hG hc c0
    go_enter Try.func35, Try.ntmps35
    go_wp2_with (with_reducible show wpList _ _ _ (⟨some 12, _, _, _, _, _⟩ :: _) _ _; go_loud (refine wpList_copy_own rfl (.tmp 10) (.tmp 11) 30 30 rfl 3 Try.underlying30 (by kernel_rfl) kb 0 _ _ ⟨b, o, none⟩ _ _ rfl rfl _ _ HG.out [.int .i64 x1] rfl HC.out (by simp) (by simp [Value.oneCell']) ?_))
    go_ret
    exact ⟨rfl, setRow_heap W kb _ _ _ _ HG.out, turn_row _⟩
  · subst ht
    obtain ⟨b, o, rfl, hb, hc⟩ := hB (by simp)
    have c0 := hc 0 (by simp)
    have c1 := hc 1 (by simp)
    have HC : Hid (∀ (j : Nat) (v : Value), [Value.int .i64 x1, Value.int .i64 y1][j]? = some v → W.cell? ((⟨b, o, none⟩ : Addr).add j) = some v) := Lib.hid (fun j v hj => by
      rcases j with _ | _ | j
      · rw [add_plain, c0]; simpa using hj
      · rw [add_plain, c1]; simpa using hj
      · simp at hj)
    clear hB hG hc c0 c1
    go_enter Try.func35, Try.ntmps35
    go_wp2_with (with_reducible show wpList _ _ _ (⟨some 12, _, _, _, _, _⟩ :: _) _ _; go_loud (refine wpList_copy_own rfl (.tmp 10) (.tmp 11) 30 30 rfl 3 Try.underlying30 (by kernel_rfl) kb 0 _ _ ⟨b, o, none⟩ _ _ rfl rfl _ _ HG.out [.int .i64 x1, .int .i64 y1] rfl HC.out (by simp) (by simp [Value.oneCell']) ?_))
    go_ret
    exact ⟨rfl, setRow_heap W kb _ _ _ _ HG.out, turn_row _⟩

set_option maxRecDepth 20000 in
set_option maxHeartbeats 4000000 in
theorem kids_any (e : List (Int × Int)) (at_ : Int) (A : Option Addr) (c m : Nat) (w : World) (hm : m = e.length) (hm2 : m ≤ 1000) (hA : PA w A e) :
    Calls Try.prog 21 #[.slice A m c, .int .i64 at_] w fun x w' => x = .returned (.tuple #[.int .i64 (kidsF e at_).1, .int .i64 (kidsF e at_).2]) ∧ Below w.heap.size w w' := by
  have hmf : ∀ (fn : Fn) (first cap : Array Value) (w : World), (Instr.makeFunc fn first cap).run Try.prog w = .ok (.func fn first cap) w := fun _ _ _ _ => rfl
  have HM := Lib.hid hm
  have HA := Lib.hid hA
  clear hm hA
  obtain ⟨z, HZW⟩ : ∃ z, Hid (wrF 0 e = z) := ⟨_, Lib.hid rfl⟩
  obtain ⟨x1, y1, HXY⟩ : ∃ x1 y1, Hid (kidsF e at_ = (x1, y1)) := ⟨_, _, Lib.hid rfl⟩
  rw [HXY.out]
  go_enter Try.func21, Try.ntmps21
  go_wp2_with fail
  obtain ⟨w2, HW2, hG, hX, hB2, hz⟩ : ∃ w2, w2 = (w.alloc (.cells #[.int .i64 at_] 3)).alloc (.cells #[.int .i64 (-1), .int .i64 (-1)] 49) ∧ w2.heap[w.heap.size + 1]? = some (.cells #[.int .i64 (-1), .int .i64 (-1)] 49) ∧
      w2.cell? ⟨w.heap.size, 0, none⟩ = some (.int .i64 at_) ∧ Below w.heap.size w w2 ∧ w2.heap.size = w.heap.size + 2 :=
    ⟨_, rfl, heap_next _ _ _, ((below_one _ _).cell (p := ⟨w.heap.size, 0, none⟩) (by simp)).trans (World.cell?_alloc_at _ _ _ _ rfl), ((below_one w _).alloc (by simp) _), by simp⟩
  rw [← HW2]
  have HG := Lib.hid hG
  have HX := Lib.hid hX
  have HB2 := Lib.hid hB2
  have HZ := Lib.hid hz
  clear HW2 hG hX hB2 hz
  have HWK : Hid (Calls Try.prog 34 #[.slice A m c, .func (.func 35) #[] #[.pointer (some ⟨w.heap.size, 0, none⟩), .pointer (some ⟨w.heap.size + 1, 0, none⟩)]] w2 (WorkP (· = w.heap.size + 1) e (KdI e at_ w.heap.size (w.heap.size + 1)) w2)) := Lib.hid (by
    by_cases h0 : m = 0
    · have he : e = [] := List.eq_nil_of_length_eq_zero (by rw [← HM.out]; exact h0)
      subst he
      subst h0
      refine (work_any 35 #[.pointer (some ⟨w.heap.size, 0, none⟩), .pointer (some ⟨w.heap.size + 1, 0, none⟩)] (fun _ => False) [] (KdI [] at_ w.heap.size (w.heap.size + 1)) A c 0 w2 rfl (fun h => absurd h (by simp)) (by omega) (fun _ h => h.elim) (fun _ _ h => h)
        (enters_of Try.func35 (by kernel_rfl) rfl) (fun k st W W' ⟨h1, h2, h3, h4, h5⟩ hT hB => ⟨h1, (hB.block _ (by have := HZ.out; omega)).trans h2, (hB.cell (p := ⟨w.heap.size, 0, none⟩) (by have := HZ.out; show w.heap.size < w2.heap.size; omega)).trans h3, Nat.lt_of_lt_of_le h4 hB.size, Nat.lt_of_lt_of_le h5 hB.size⟩) (fun k st W B t c hk => absurd hk (by simp))
        ⟨Ok.zero _, by rw [show kidsK [] at_ 0 = (-1, -1) from by unfold kidsK; rw [if_neg (by omega)]]; exact HG.out, HX.out, by rw [HZ.out]; omega, by rw [HZ.out]; omega⟩).mono ?_
      rintro x W' ⟨r, h1, h2, h3, h4⟩
      exact ⟨r, h1, h2, h3, ⟨h4.os, h4.tape, h4.output, h4.size, fun k hk _ => h4.block k hk (fun h => h)⟩⟩
    · refine work_any 35 _ (· = w.heap.size + 1) e (KdI e at_ w.heap.size (w.heap.size + 1)) A c m w2 HM.out (HA.out.below HB2.out) hm2 (fun k hk => by have := HZ.out; omega) (fun a ha => ?_)
        (enters_of Try.func35 (by kernel_rfl) rfl) ?_ ?_ ?_
      · obtain ⟨b, o, hb, hlt, _⟩ := HA.out (by rw [← HM.out]; omega)
        rw [ha] at hb
        injection hb with hb
        subst hb
        show ¬ b = w.heap.size + 1
        omega
      · rintro k st W W' ⟨h1, h2, h3, h4, h5⟩ hT hB
        exact ⟨h1, (hB.block _ (by have := HZ.out; omega)).trans h2, (hB.cell (p := ⟨w.heap.size, 0, none⟩) (by have := HZ.out; show w.heap.size < w2.heap.size; omega)).trans h3, Nat.lt_of_lt_of_le h4 hB.size, Nat.lt_of_lt_of_le h5 hB.size⟩
      · rintro k st W B t d hk ⟨h1, h2, h3, h4, h5⟩ hT hnd hkt htl hRS hBl
        have hnx := h1.next hk hnd
        rw [hkt, Int.toNat_natCast] at hnx
        by_cases hat : at_ = k
        · subst hat
          have hp := prt_of hk h1.1 hkt htl
          rw [kidsK_before] at h2
          refine (kids1_here w.heap.size (w.heap.size + 1) k t d (-1) (-1) (prt e k).1 (prt e k).2 B (st.drop (st.length - t)) W (by simp; omega) (ia_rs hRS) h2 ?_ h3).mono ?_
          · rcases hp with ⟨_, e1, e2⟩ | ⟨a, _, e1, e2⟩ | ⟨a, b, _, e1, e2⟩
            · rw [e1, e2]; exact .inl ⟨rfl, rfl, rfl⟩
            · rw [e1, e2]; exact .inr (.inl ⟨rfl, rfl⟩)
            · rw [e1, e2]; exact .inr (.inr rfl)
          · rintro x W' ⟨rfl, hG', hT'⟩
            exact ⟨_, rfl, ⟨hnx, by rw [kidsK_here]; exact hG', (hT'.cell (p := ⟨w.heap.size, 0, none⟩) h4 (by show ¬ w.heap.size = w.heap.size + 1; omega)).trans h3, Nat.lt_of_lt_of_le h4 hT'.size, Nat.lt_of_lt_of_le h5 hT'.size⟩, hT'⟩
        · refine (kids1_other w.heap.size (w.heap.size + 1) k at_ _ W hat h3).mono ?_
          rintro x W' ⟨rfl, rfl⟩
          exact ⟨_, rfl, ⟨hnx, by rw [kidsK_other hat]; exact h2, h3, h4, h5⟩, Turn.refl _ _⟩
      · exact ⟨Ok.zero _, by rw [show kidsK e at_ 0 = (-1, -1) from by unfold kidsK; rw [if_neg (by omega)]]; exact HG.out, HX.out, by rw [HZ.out]; omega, by rw [HZ.out]; omega⟩)
  refine HWK.out.mono ?_
  rintro x w3 ⟨r, rfl, hI, _, hT⟩
  have HB3 : Hid (Below w.heap.size w w3) := Lib.hid (HB2.out.trans (hT.below (fun k hk => by rw [hk]; omega) HB2.out.size))
  have HII := Lib.hid hI
  clear hI hT HWK
  rw [HZW.out]
  by_cases hz : z = 0
  · subst hz
    obtain ⟨_, g2, _, _, _⟩ := HII.out HZW.out
    rw [← kidsF_is HZW.out, HXY.out] at g2
    have k0 : w3.cell? ⟨w.heap.size + 1, 0, none⟩ = some (.int .i64 x1) := by simp [World.cell?, g2]
    have k1 : w3.cell? ⟨w.heap.size + 1, 1, none⟩ = some (.int .i64 y1) := by simp [World.cell?, g2]
    clear g2 HII
    go_wp2
    go_quiet (fail)
    go_wp2
    go_ret2
    exact ⟨rfl, below_drewN HB3.out _⟩
  · have hz2 : (z != 0) = true := by simpa using hz
    have HE : Hid (x1 = -1 ∧ y1 = -1) := Lib.hid (by
      have h := kidsF_not (e := e) (at_ := at_) (by rw [HZW.out]; exact hz)
      rw [HXY.out] at h
      exact ⟨congrArg Prod.fst h, congrArg Prod.snd h⟩)
    clear HII hz
    go_wp2
    go_ret2
    exact ⟨by rw [HE.out.1, HE.out.2]; rfl, HB3.out⟩
end Go.Proofs.Ythkfjiengemcfaa.lt
