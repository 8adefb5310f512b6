/- The law's list, slices.Equal, works, Most. -/
import Derived.Test.YtfhapodidjkmaaaRingPush
namespace Go.Proofs.Ytfhapodidjkmaaa
open Go.ChangeShapes Go.WideShapes Go.ChangeAt Go.RowKit
theorem run_equalIn_func_nil {P : Program} (w : World) (d : Nat) (t : TypeId) {ps rs : Array TypeId} {va : Bool} (h : P.underlying t = some (.func ps rs va)) (f : Fn) (x y : Array Value) :
    (Op.equalIn (d + 1) t (.func f x y) .nilFunc).run P w = .ok false w := by
  simp [Op.equalIn, run_underlying h]
theorem run_eql_func_nil {P : Program} (w : World) (t : TypeId) {ps rs : Array TypeId} {va : Bool} (h : P.underlying t = some (.func ps rs va)) (f : Fn) (x y : Array Value) : (binOp .eql t (.func f x y) .nilFunc).run P w = .ok (.bool false) w := by
  simp only [binOp]
  simp [Op.equal, Op.maxDepth, run_equalIn_func_nil w 9999 t h f x y]
def eqB (xs ys : List Int) : Bool := decide (xs = ys)
theorem getD_ext' {xs ys : List Int} (hl : xs.length = ys.length) (h : ∀ i, i < xs.length → xs.getD i 0 = ys.getD i 0) : xs = ys := by
  apply List.ext_getElem hl
  intro i h1 h2
  have := h i h1
  simpa [List.getD, h1, h2] using this
set_option maxHeartbeats 1000000 in
theorem equal_ints (A B : Option Addr) (c d m1 m2 : Nat) (xs ys : List Int) (w : World) (hm1 : m1 = xs.length) (hm2 : m2 = ys.length) (hA : IA w A xs) (hB : IA w B ys) (hxl : xs.length ≤ maxLen) (hyl : ys.length ≤ maxLen) :
    Calls Try.prog 27 #[.slice A m1 c, .slice B m2 d] w fun e w' => e = .returned (.bool (eqB xs ys)) ∧ ∃ n, w' = w.drewN n := by
  subst hm1 hm2
  unfold maxLen at hxl hyl
  by_cases hl : xs.length = ys.length
  · have H := Lib.hid hl
    clear hl
    go_enter Try.func27, Try.ntmps27
    have hl0 : (xs.length : Int) = (ys.length : Int) := by rw [H.out]
    go_wp2
    clear hl0
    go_loopw [13] (fun i wr => ∃ (k j : Nat), k ≤ ys.length ∧ i = .int .i64 k ∧ wr = w.drewN j ∧ Hid (∀ i, i < k → xs.getD i 0 = ys.getD i 0)) (fun i _ => ys.length - (intOf i).toNat)
    case atStart => exact ⟨0, 0, Nat.zero_le _, rfl, rfl, Lib.hid (fun i hi => absurd hi (by omega))⟩
    case round =>
      obtain ⟨k, j, hk, rfl, rfl, HV⟩ := hrel
      by_cases hlty : k < ys.length
      · have hlt : k < xs.length := by rw [H.out]; exact hlty
        obtain ⟨bA, oA, rfl, hbA, hcA⟩ := hA (by omega)
        obtain ⟨bB, oB, rfl, hbB, hcB⟩ := hB (by omega)
        have c1 := hcA k hlt
        have c2 := hcB k hlty
        by_cases t1 : xs.getD k 0 = ys.getD k 0
        · have HS : Hid (∀ i, i < k + 1 → xs.getD i 0 = ys.getD i 0) := Lib.hid (fun i hi => by
            by_cases hik : i = k
            · subst hik; exact t1
            · exact HV.out i (by omega))
          rw [← t1] at c2
          generalize xs.getD k 0 = x at c1 c2
          clear hcA hcB hA hB t1 HV
          go_wp2
          go_quiet (fail)
          go_wp2
          go_roundw
          case rel => exact ⟨k + 1, _, by omega, by go_num, rfl, HS⟩
          case measure => simp [intOf]; omega
        · have HE : Hid (eqB xs ys = false) := Lib.hid (decide_eq_false (fun h => t1 (by rw [h])))
          generalize xs.getD k 0 = x at c1 t1
          generalize ys.getD k 0 = y at c2 t1
          have t2 : (x != y) = true := by simpa using t1
          clear hcA hcB hA hB t1 HV
          go_wp2
          go_quiet (fail)
          go_wp2
          go_ret
          exact ⟨ret_bool HE.out.symm, _, World.drewN_drewN _ _ _⟩
      · have hk2 : k = xs.length := by rw [H.out]; omega
        subst hk2
        have HE : Hid (eqB xs ys = true) := Lib.hid (decide_eq_true (getD_ext' H.out HV.out))
        have hge : ys.length ≤ xs.length := by omega
        clear hlty hk
        go_wp2
        go_ret
        exact ⟨ret_bool HE.out.symm, _, rfl⟩
  · have e : eqB xs ys = false := decide_eq_false (fun h => hl (by rw [h]))
    rw [e]
    go_enter Try.func27, Try.ntmps27
    go_wp2
    go_ret
    exact ⟨rfl, 0, rfl⟩

end Go.Proofs.Ytfhapodidjkmaaa
namespace Go.Proofs.Ytfhapodidjkmaaa
open Go.ChangeShapes Go.WideShapes Go.ChangeAt Go.RowKit Go.Shelf
theorem IA.turns {w1 w2 : World} {s : Nat} {t : Option Nat} {A : Option Addr} {l : List Int} (h : IA w1 A l) (hT : Turns w1 w2 s t) (hA : ∀ a, A = some a → a.block ≠ s ∧ t ≠ some a.block) : IA w2 A l := fun hn => by
  obtain ⟨b, o, rfl, hb, hc⟩ := h hn
  obtain ⟨h1, h2⟩ := hA _ rfl
  exact ⟨b, o, rfl, Nat.lt_of_lt_of_le hb hT.size, fun i hi => (World.cell?_of_block (a := ⟨b, o + i, none⟩) (hT.block b hb h1 h2)).trans (hc i hi)⟩
theorem Try.seqNotNil (w : World) (f : Fn) (x y : Array Value) : (binOp .eql 79 (.func f x y) .nilFunc).run Try.prog w = .ok (.bool false) w := run_eql_func_nil w _ Try.underlying79 f x y

/-- What the law's list leaves. -/
def Listed (w : World) (l : List Int) (e : Ending) (w' : World) : Prop := ∃ A c, e = .returned (.tuple #[.slice A l.length c, .bool true]) ∧ IA w' A l ∧ (∀ a, A = some a → w.heap.size ≤ a.block) ∧ Below w.heap.size w w'
theorem collected {w : World} {s : Nat} {t : Option Nat} {most : Nat} {l : List Int} (h : QU w s t most l) : Calls Try.prog 60 #[.func (.func 89) #[] #[.pointer (some ⟨w.heap.size, 0, none⟩)]] (w.alloc (.cells #[.pointer (some ⟨s, 0, none⟩)] 24)) fun e w' => ∃ A c, e = .returned (.slice A l.length c) ∧ IA w' A l ∧ (∀ a, A = some a → w.heap.size ≤ a.block) ∧ Below w.heap.size w w' := by
  have hlt := h.lt
  have hr := h.room
  have hBn : (w.alloc (.cells #[.pointer (some ⟨s, 0, none⟩)] 24)).cell? ⟨w.heap.size, 0, none⟩ = some (.pointer (some ⟨s, 0, none⟩)) := (Boxed.new w _ _).cell
  have hz : (w.alloc (.cells #[.pointer (some ⟨s, 0, none⟩)] 24)).heap.size = w.heap.size + 1 := by simp
  have hB0 : Below w.heap.size w (w.alloc (.cells #[.pointer (some ⟨s, 0, none⟩)] 24)) := (Below.refl _ w).alloc (Nat.le_refl _) _
  have h2 := h.keep hB0
  generalize w.alloc (.cells #[.pointer (some ⟨s, 0, none⟩)] 24) = W at *
  have hK : ∀ q, (q = s ∨ q = w.heap.size ∨ t = some q) → q < W.heap.size := fun q hq => by
    rcases hq with rfl | rfl | e
    · omega
    · omega
    · have := hlt.2 q e; omega
  refine (collect_any 89 #[.pointer (some ⟨w.heap.size, 0, none⟩)] l (fun q => q = s ∨ q = w.heap.size ∨ t = some q) W hK (by omega) (enters_of Try.func89 (by kernel_rfl) rfl)
    (all_stops _ w.heap.size s t most l W hK (.inl rfl) (fun b e => .inr (.inr e)) (.inr (.inl rfl)) hBn h2)).mono ?_
  rintro e w' ⟨v, rfl, ho, hb⟩
  have hbase : ∀ k, v.ownBlock = some k → w.heap.size ≤ k := fun k e => by have := (World.ownsRow.lt ho k e).1; omega
  obtain ⟨A, c, rfl, hA⟩ := ho.form
  exact ⟨A, c, rfl, hA, fun a e => hbase a.block (by rw [e]; rfl), hB0.trans (hb.mono (by omega))⟩
theorem list_any {w : World} {s : Nat} {t : Option Nat} {most : Nat} {l : List Int} (h : QU w s t most l) : Calls Try.prog 25 #[.pointer (some ⟨s, 0, none⟩)] w (Listed w l) := by
  have H := Lib.hid (collected h)
  clear h
  go_enter Try.func25, Try.ntmps25
  go_wp2_with fail
  refine (all_any _ w).mono ?_
  rintro e w1 ⟨rfl, rfl⟩
  have hs := Try.seqNotNil
  go_wp2_with fail
  refine H.out.mono ?_
  rintro e w2 ⟨A, c, rfl, hA, hl, hb⟩
  have HA := Lib.hid hA
  have HL := Lib.hid hl
  have HB := Lib.hid hb
  clear hA hl hb hs
  go_wp2_with fail
  go_ret2
  exact ⟨A, c, rfl, HA.out, HL.out, HB.out⟩
theorem list_nil (w : World) : Calls Try.prog 25 #[.pointer none] w (Listed w []) := by
  have hz : (w.alloc (.cells #[.pointer none] 24)).heap.size = w.heap.size + 1 := by simp
  have H := Lib.hid (collect_any 89 #[.pointer (some ⟨w.heap.size, 0, none⟩)] [] (fun _ => False) (w.alloc (.cells #[.pointer none] 24)) (fun q hq => hq.elim) (by simp) (enters_of Try.func89 (by kernel_rfl) rfl)
    (nil_stops w.heap.size _ _ (by rw [hz]; omega) (Boxed.new w _ _).cell))
  have HZ := Lib.hid hz
  clear hz
  go_enter Try.func25, Try.ntmps25
  go_wp2_with fail
  refine (all_any _ w).mono ?_
  rintro e w1 ⟨rfl, rfl⟩
  have hs := Try.seqNotNil
  go_wp2_with fail
  refine H.out.mono ?_
  rintro e w2 ⟨v, rfl, ho, hb⟩
  have HBS : Hid (∀ k, v.ownBlock = some k → w.heap.size ≤ k) := Lib.hid (fun k e => by have := (World.ownsRow.lt ho k e).1; rw [HZ.out] at this; omega)
  obtain ⟨A, c, rfl, hA⟩ := ho.form
  have HA := Lib.hid hA
  have HB := Lib.hid hb
  clear hA hb hs ho H
  go_wp2_with fail
  go_ret2
  exact ⟨A, c, rfl, HA.out, fun a e => HBS.out a.block (by rw [e]; rfl), ((Below.refl _ w).alloc (Nat.le_refl _) _).trans (HB.out.mono (by rw [HZ.out]; omega))⟩
end Go.Proofs.Ytfhapodidjkmaaa
