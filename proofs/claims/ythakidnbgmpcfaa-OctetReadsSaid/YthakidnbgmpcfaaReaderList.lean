/- octet's reader: List and Text. -/
import Derived.Test.YthakidnbgmpcfaaReaderMore
namespace Go.Proofs.Ythakidnbgmpcfaa
open Go.ChangeShapes Go.WideShapes Go.ChangeAt Go.RowKit

/-- What the reader's List leaves. -/
def RList (g : Nat) (A : Option Addr) (c : Nat) (l : List Int) (p : Nat) (M : Got (List Int)) (W : World) (en : Ending) (w' : World) : Prop :=
  ∃ A2 c2, en = .returned (.slice A2 M.v.length c2) ∧ IA w' A2 M.v ∧ RD w' g A c l (p + M.k) M.f ∧ Only g W w' ∧ (∀ ad, A2 = some ad → ad.block ≠ g)

theorem IA.setCell {w : World} {A : Option Addr} {zs : List Int} {g i : Nat} {v : Value} (h : IA w A zs) (hne : 0 < zs.length → ∀ ad, A = some ad → ad.block ≠ g) : IA (w.setCell ⟨g, i, none⟩ v) A zs := fun hn => by
  obtain ⟨b, off, e, hlt, hc⟩ := h hn
  refine ⟨b, off, e, by simpa [World.setCell] using hlt, fun j hj => ?_⟩
  rw [World.cell?_setCell_other _ _ _ _ (by intro h1; injection h1 with h1; exact hne hn _ e h1.symm)]
  exact hc j hj

theorem attemptList_any {g : Nat} {A : Option Addr} {c : Nat} {l : List Int} {p : Nat} (w : World) (h : RD w g A c l p 0) :
    Calls Try.prog 26 #[.pointer (some ⟨g, 0, none⟩), .func (.func 27) #[.pointer (some ⟨g, 0, none⟩)] #[]] w
      (RList g A c l p (readL (l.drop p)) w) := by
  have c1 := h.c1
  have H := Lib.hid h
  have hf := Lib.hid (readL_fault (l.drop p))
  have hN := fun W (h : RD W g A c l p 0) => clist_any W h
  have hp := h.place
  generalize readL (l.drop p) = M at hf hN
  obtain ⟨f, v, k⟩ := M
  have HN := Lib.hid hN
  clear h hN
  by_cases h0 : f = 0
  · subst h0
    go_enter Try.func26, Try.ntmps26
    go_wp2_with fail
    refine (HN.out w H.out).mono ?_
    rintro en w1 ⟨A2, c2, q, rfl, hI, hr1, hq, ho1, hne⟩
    have hq1 : q = p + k := hq rfl
    subst hq1
    go_wp2_with fail
    go_ret
    exact ⟨A2, c2, rfl, hI, hr1, ho1, hne⟩
  · obtain ⟨e1, e2⟩ := hf.out h0
    have e1' : v = [] := e1
    have e2' : k = 0 := e2
    subst e1' e2'
    have t : (f != 0) = true := by simpa using h0
    clear e1 e2 h0
    go_enter Try.func26, Try.ntmps26
    go_wp2_with fail
    refine (HN.out w H.out).mono ?_
    rintro en w1 ⟨A2, c2, q, rfl, hI, hr1, hq, ho1, hne⟩
    have d1 := hr1.c1
    have d3 := hr1.c3
    have f1 := hr1.row.frozen 1
    have f3 := hr1.row.frozen 3
    have HR := Lib.hid hr1
    have HO := Lib.hid ho1
    have HNE := Lib.hid hne
    clear hr1 ho1 hq hI hne
    go_wp2_with fail
    go_ret
    exact ⟨A2, c2, rfl, IA.nil _ _, (HR.out.setPlace p hp).setFault f, (HO.out.setCell 1 _).setCell 3 _, HNE.out⟩

theorem rlist_any {g : Nat} {A : Option Addr} {c : Nat} {l : List Int} {p : Nat} (w : World) (h : RD w g A c l p 0) :
    Calls Try.prog 11 #[.pointer (some ⟨g, 0, none⟩)] w (RList g A c l p (readL (l.drop p)) w) := by
  have H := Lib.hid h
  clear h
  go_enter Try.func11, Try.ntmps11
  go_wp2_with fail
  refine (err_any w H.out).mono ?_
  rintro en w' ⟨rfl, rfl⟩
  go_wp2_with fail
  refine (attemptList_any w H.out).mono ?_
  rintro en w1 ⟨A2, c2, rfl, hI, hr, ho, hne⟩
  go_wp2_with fail
  go_ret
  exact ⟨A2, c2, rfl, hI, hr, ho, hne⟩
theorem rlist_fault {g : Nat} {A : Option Addr} {c : Nat} {l : List Int} {p : Nat} {e : Int} (w : World) (h : RD w g A c l p e) (he : e ≠ 0) :
    Calls Try.prog 11 #[.pointer (some ⟨g, 0, none⟩)] w (RList g A c l p ⟨e, [], 0⟩ w) := by
  have H := Lib.hid h
  have t : (e != 0) = true := by simpa using he
  clear h he
  go_enter Try.func11, Try.ntmps11
  go_wp2_with fail
  refine (err_any w H.out).mono ?_
  rintro en w' ⟨rfl, rfl⟩
  go_wp2_with fail
  go_ret
  exact ⟨none, 0, rfl, IA.nil _ _, H.out, Only.refl _ _, (fun ad h => by cases h)⟩

theorem conv_none (W : World) (A : Option Addr) (c : Nat) : (convert 22 9 (.slice A 0 c)).run Try.prog W = .ok (.string (strOfNums [])) W := by
  rw [run_convert_bytes_string W 22 9 5 _ 0 c Try.underlying22 Try.underlying5 Try.underlying9]
  cases A <;> simp [Conv.bytesToString, loadCells]
  all_goals rfl
theorem slice_bytes (W : World) (A : Option Addr) (m c s n : Nat) (h : s + n ≤ c) : (Instr.slice 22 (.slice A m c) (some (.int .i64 (s : Int))) (some (.int .i64 ((s : Int) + (n : Int)))) none).run Try.prog W = .ok (.slice (if c = s then A else A.map (·.add s)) n (c - s)) W := by
  have ht : Try.prog.underlying 22 = some (.slice (Try.prog.elem 22)) := by kernel_rfl
  rw [run_slice_lh W 22 A m c ht .i64 .i64 (s : Int) ((s : Int) + (n : Int)) (by omega) (by omega) (by omega)]
  have hs : (sizeOf (Try.prog.elem 22)).run Try.prog W = .ok 1 W := by kernel_rfl
  rw [hs]
  show Result.ok (sliced A (s : Int).toNat ((s : Int) + (n : Int)).toNat c 1) W = _
  have e1 : (s : Int).toNat = s := by omega
  have e2 : ((s : Int) + (n : Int)).toNat - s = n := by omega
  unfold sliced
  rw [e1, e2, Nat.mul_one]
theorem conv_piece {W : World} {A : Option Addr} {l : List Int} (hA : BA W A l) (c s n : Nat) (h1 : s + n ≤ l.length) (h2 : l.length ≤ c) : (convert 22 9 (.slice (if c = s then A else A.map (·.add s)) n (c - s))).run Try.prog W = .ok (.string (strOfNums ((l.drop s).take n))) W := by
  by_cases h0 : n = 0
  · subst h0
    rw [List.take_zero]
    exact conv_none W _ _
  · obtain ⟨b, off, rfl, _, hcell⟩ := hA (by omega)
    rw [if_neg (by omega)]
    have e : Option.map (fun x : Addr => x.add s) (some ⟨b, off, none⟩) = some ⟨b, off + s, none⟩ := by rw [Option.map_some, add_plain]
    rw [e]
    refine run_convert_bytes_arg W 22 5 Try.underlying22 Try.underlying5 b (off + s) n (c - s) _ (by simp; omega) (fun i hi => ?_) 9 Try.underlying9
    rw [Nat.add_assoc, hcell (s + i) (by omega)]
    simp [List.getD, hi]

/-- What reading a text leaves. -/
def TPost2 (g : Nat) (A : Option Addr) (c : Nat) (l : List Int) (p : Nat) (e : Int) (M : Got (List Int)) (W : World) (en : Ending) (w' : World) : Prop :=
  ∃ q, en = .returned (.tuple #[.string (strOfNums M.v), .int .i64 M.f]) ∧ RD w' g A c l q e ∧ (M.f = 0 → q = p + M.k) ∧ Only g W w'

set_option maxHeartbeats 1000000 in
theorem ctext_any {g : Nat} {A : Option Addr} {c : Nat} {l : List Int} {p : Nat} {e : Int} (w : World) (h : RD w g A c l p e) :
    Calls Try.prog 29 #[.pointer (some ⟨g, 0, none⟩)] w (TPost2 g A c l p e (readT (l.drop p)) w) := by
  have H := Lib.hid h
  have hf := readC_fault (l.drop p)
  have hle := readC_le (l.drop p)
  have hC := fun W (h : RD W g A c l p e) => count_any W h
  have hp := h.place
  have hl := h.len
  have hcap := h.cap
  have hdl : (l.drop p).length = l.length - p := by simp
  unfold readT
  rw [hdl] at hle
  generalize readC (l.drop p) = G at hf hC hle
  obtain ⟨f, n, k⟩ := G
  have HC := Lib.hid hC
  clear h hC hdl
  by_cases h0 : f = 0
  · subst h0
    rw [if_neg (by simp)]
    have hkn : p + k + n ≤ l.length := by have : k + n ≤ l.length - p := hle; omega
    clear hf hle
    go_enter Try.func29, Try.ntmps29
    go_wp2_with fail
    refine (HC.out w H.out).mono ?_
    rintro en w1 ⟨q, rfl, hr1, hq, ho1⟩
    have hq1 : q = p + k := hq rfl
    subst hq1
    have d1 := hr1.c1
    have d0 := hr1.c0
    have f1 := hr1.row.frozen 1
    have HR1 := Lib.hid hr1
    have HO1 := Lib.hid ho1
    clear hr1 ho1 hq
    go_wp2_with fail
    have HRW : Hid (RD (w1.setCell ⟨g, 1, none⟩ (.int .i64 ((p : Int) + (k : Int) + (n : Int)))) g A c l (p + k + n) e) := Lib.hid (HR1.out.setPlaceZ (p + k + n) _ (by omega) hkn)
    have HOW : Hid (Only g w (w1.setCell ⟨g, 1, none⟩ (.int .i64 ((p : Int) + (k : Int) + (n : Int))))) := Lib.hid (HO1.out.setCell 1 _)
    generalize w1.setCell ⟨g, 1, none⟩ (.int .i64 ((p : Int) + (k : Int) + (n : Int))) = W at HRW HOW
    have g0 := HRW.out.c0
    have g1 : W.cell? ⟨g, 1, none⟩ = some (.int .i64 ((p : Int) + (k : Int) + (n : Int))) := by have := HRW.out.c1; rw [this]; congr 2
    clear d0 d1 f1 HR1 HO1
    have hsl0 := fun V => slice_bytes V A l.length c (p + k) n (by omega)
    have hcv0 := fun m => conv_piece (HRW.out.bytes.drewN m) c (p + k) n hkn hcap
    have ec : ((p + k : Nat) : Int) = (p : Int) + (k : Int) := by omega
    rw [ec] at hsl0
    generalize (if c = p + k then A else A.map (fun x => x.add (p + k))) = A' at hsl0 hcv0
    generalize c - (p + k) = c' at hsl0 hcv0
    have hdd : Hid ((l.drop p).drop k = l.drop (p + k)) := Lib.hid (by rw [List.drop_drop])
    clear ec
    go_quiet (fail)
    go_wp2
    go_ret2
    refine ⟨p + k + n, ?_, HRW.out.drewN _, fun _ => ?_, HOW.out.drewN _⟩
    · show Ending.returned _ = Ending.returned (.tuple #[.string (strOfNums (((l.drop p).drop k).take n)), .int .i64 0])
      rw [hdd.out]
      rfl
    · show p + k + n = p + (k + n)
      omega
  · obtain ⟨e1, e2⟩ := hf h0
    have e1' : n = 0 := e1
    have e2' : k = 0 := e2
    subst e1' e2'
    rw [if_pos h0]
    have t : (f != 0) = true := by simpa using h0
    have H0 := Lib.hid h0
    clear e1 e2 h0 hf
    go_enter Try.func29, Try.ntmps29
    go_wp2_with fail
    refine (HC.out w H.out).mono ?_
    rintro en w1 ⟨q, rfl, hr1, hq, ho1⟩
    have HR1 := Lib.hid hr1
    have HO1 := Lib.hid ho1
    clear hr1 ho1 hq
    go_wp2_with fail
    go_ret2
    exact ⟨q, rfl, HR1.out, fun h => absurd h H0.out, HO1.out⟩

/-- What the reader's Text leaves. -/
def RText (g : Nat) (A : Option Addr) (c : Nat) (l : List Int) (p : Nat) (M : Got (List Int)) (W : World) (en : Ending) (w' : World) : Prop :=
  en = .returned (.string (strOfNums M.v)) ∧ RD w' g A c l (p + M.k) M.f ∧ Only g W w'

theorem attemptText_any {g : Nat} {A : Option Addr} {c : Nat} {l : List Int} {p : Nat} (w : World) (h : RD w g A c l p 0) :
    Calls Try.prog 28 #[.pointer (some ⟨g, 0, none⟩), .func (.func 29) #[.pointer (some ⟨g, 0, none⟩)] #[]] w
      (RText g A c l p (readT (l.drop p)) w) := by
  have c1 := h.c1
  have H := Lib.hid h
  have hf := Lib.hid (readT_fault (l.drop p))
  have hN := fun W (h : RD W g A c l p 0) => ctext_any W h
  have hp := h.place
  generalize readT (l.drop p) = M at hf hN
  obtain ⟨f, v, k⟩ := M
  have HN := Lib.hid hN
  clear h hN
  by_cases h0 : f = 0
  · subst h0
    go_enter Try.func28, Try.ntmps28
    go_wp2_with fail
    refine (HN.out w H.out).mono ?_
    rintro en w1 ⟨q, rfl, hr1, hq, ho1⟩
    have hq1 : q = p + k := hq rfl
    subst hq1
    go_wp2_with fail
    go_ret
    exact ⟨rfl, hr1, ho1⟩
  · obtain ⟨e1, e2⟩ := hf.out h0
    have e1' : v = [] := e1
    have e2' : k = 0 := e2
    subst e1' e2'
    have t : (f != 0) = true := by simpa using h0
    clear e1 e2 h0
    go_enter Try.func28, Try.ntmps28
    go_wp2_with fail
    refine (HN.out w H.out).mono ?_
    rintro en w1 ⟨q, rfl, hr1, hq, ho1⟩
    have d1 := hr1.c1
    have d3 := hr1.c3
    have f1 := hr1.row.frozen 1
    have f3 := hr1.row.frozen 3
    have HR := Lib.hid hr1
    have HO := Lib.hid ho1
    clear hr1 ho1 hq
    go_wp2_with fail
    go_ret
    exact ⟨rfl, (HR.out.setPlace p hp).setFault f, (HO.out.setCell 1 _).setCell 3 _⟩

theorem rtext_any {g : Nat} {A : Option Addr} {c : Nat} {l : List Int} {p : Nat} (w : World) (h : RD w g A c l p 0) :
    Calls Try.prog 13 #[.pointer (some ⟨g, 0, none⟩)] w (RText g A c l p (readT (l.drop p)) w) := by
  have H := Lib.hid h
  clear h
  go_enter Try.func13, Try.ntmps13
  go_wp2_with fail
  refine (err_any w H.out).mono ?_
  rintro en w' ⟨rfl, rfl⟩
  go_wp2_with fail
  refine (attemptText_any w H.out).mono ?_
  rintro en w1 ⟨rfl, hr, ho⟩
  go_wp2_with fail
  go_ret
  exact ⟨rfl, hr, ho⟩
theorem rtext_fault {g : Nat} {A : Option Addr} {c : Nat} {l : List Int} {p : Nat} {e : Int} (w : World) (h : RD w g A c l p e) (he : e ≠ 0) :
    Calls Try.prog 13 #[.pointer (some ⟨g, 0, none⟩)] w (RText g A c l p ⟨e, [], 0⟩ w) := by
  have H := Lib.hid h
  have t : (e != 0) = true := by simpa using he
  clear h he
  go_enter Try.func13, Try.ntmps13
  go_wp2_with fail
  refine (err_any w H.out).mono ?_
  rintro en w' ⟨rfl, rfl⟩
  go_wp2_with fail
  go_ret
  exact ⟨rfl, H.out, Only.refl _ _⟩
end Go.Proofs.Ythakidnbgmpcfaa
