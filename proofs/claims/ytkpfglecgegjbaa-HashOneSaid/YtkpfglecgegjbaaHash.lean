/- Contracts of package hash and of the document's answers for it. -/
import Derived.Test.YtkpfglecgegjbaaBytes
import Derived.Maps.AppendAt
import Derived.Laws.BitsAllLaws
namespace Go.Proofs.Ytkpfglecgegjbaa
open Go.ChangeShapes Go.WideShapes Go.ChangeAt Go.RowKit

/-- The sum with one byte more. -/
def fur (s x : Int) : Int := IntKind.u64.wrap (bits .xor .u64 s x * 1099511628211)
/-- The sum of bytes behind a sum. -/
def bsum (s : Int) (l : List Int) : Int := l.foldl fur s
/-- The sum of no bytes. -/
def none64 : Int := 14695981039346656037

theorem fur_fits (s x : Int) : 0 ≤ fur s x ∧ fur s x < 18446744073709551616 := by
  unfold fur
  rw [IntKind.wrap_u64]
  omega
theorem bsum_fits (s : Int) (l : List Int) (h : 0 ≤ s ∧ s < 18446744073709551616) : 0 ≤ bsum s l ∧ bsum s l < 18446744073709551616 := by
  induction l generalizing s with
  | nil => exact h
  | cons x l ih => exact ih _ (fur_fits s x)
theorem bsum_snoc (s : Int) (l : List Int) (x : Int) : bsum s (l ++ [x]) = fur (bsum s l) x := by simp [bsum]
theorem bsum_append (s : Int) (l m : List Int) : bsum s (l ++ m) = bsum (bsum s l) m := by simp [bsum]
theorem take_snocI (l : List Int) (k : Nat) (h : k < l.length) : l.take (k + 1) = l.take k ++ [l.getD k 0] := by
  rw [List.take_succ_eq_append_getElem h]; simp [List.getD, h]

theorem further_any (s x : Int) (w : World) (hx : 0 ≤ x ∧ x ≤ 255) :
    Calls Try.prog 60 #[.int .u64 s, .int .u8 x] w fun e w' => e = .returned (.int .u64 (fur s x)) ∧ w = w' := by
  obtain ⟨h1, h2⟩ := hx
  go_enter Try.func60, Try.ntmps60
  go_wp2
  go_ret
  exact ⟨rfl, rfl⟩

set_option maxRecDepth 20000 in
theorem bytes_any (A : Option Addr) (c m : Nat) (l : List Int) (w : World) (hm : m = l.length) (hA : BA w A l) (hu : U8 l) (hl : l.length ≤ 281474976710656) :
    Calls Try.prog 41 #[.slice A m c] w fun e w' => e = .returned (.int .u64 (bsum none64 l)) ∧ w = w' := by
  subst hm
  have HA := Lib.hid hA
  have HU := Lib.hid hu
  have HN : Hid (none64 = 14695981039346656037) := Lib.hid rfl
  clear hA hu
  go_enter Try.func41, Try.ntmps41
  go_wp2
  go_loop [3, 8] (fun s i => ∃ (k : Nat), k ≤ l.length ∧ i = .int .i64 k ∧ s = .int .u64 (bsum none64 (l.take k))) (fun _ i => l.length - (intOf i).toNat)
  case atStart => exact ⟨0, Nat.zero_le _, rfl, rfl⟩
  case round =>
    obtain ⟨k, hk, rfl, rfl⟩ := hrel
    by_cases hlt : k < l.length
    · obtain ⟨b, o, rfl, hb, hc⟩ := HA.out (by omega)
      have c1 := hc k hlt
      have HS : Hid (bsum none64 (l.take (k + 1)) = fur (bsum none64 (l.take k)) (l.getD k 0)) := Lib.hid (by rw [take_snocI l k hlt, bsum_snoc])
      have HX := Lib.hid (HU.out.at_ k)
      generalize l.getD k 0 = x at c1 HS HX
      generalize bsum none64 (l.take k) = s at HS
      clear hc
      go_wp2_with (go_at_call 60; refine (further_any _ _ _ HX.out).mono ?_; rintro e w' ⟨rfl, rfl⟩)
      go_round
      case rel => exact ⟨k + 1, by omega, by go_num, by rw [HS.out]⟩
      case measure => simp [intOf]; omega
    · have hk2 : k = l.length := by omega
      subst hk2
      go_wp2
      go_ret
      exact ⟨rfl, rfl⟩

set_option maxRecDepth 20000 in
theorem refBytes_any (A : Option Addr) (c m : Nat) (l : List Int) (w : World) (hm : m = l.length) (hA : BA w A l) (hu : U8 l) (hl : l.length ≤ 281474976710656) :
    Calls Try.prog 42 #[.slice A m c] w fun e w' => e = .returned (.int .u64 (bsum none64 l)) ∧ w = w' := by
  subst hm
  have HA := Lib.hid hA
  have HU := Lib.hid hu
  have HN : Hid (none64 = 14695981039346656037) := Lib.hid rfl
  clear hA hu
  go_enter Try.func42, Try.ntmps42
  go_wp2
  go_loop [3, 4] (fun s i => ∃ (k : Nat), k ≤ l.length ∧ i = .int .i64 k ∧ s = .int .u64 (bsum none64 (l.take k))) (fun _ i => l.length - (intOf i).toNat)
  case atStart => exact ⟨0, Nat.zero_le _, rfl, rfl⟩
  case round =>
    obtain ⟨k, hk, rfl, rfl⟩ := hrel
    by_cases hlt : k < l.length
    · obtain ⟨b, o, rfl, hb, hc⟩ := HA.out (by omega)
      have c1 := hc k hlt
      have HS : Hid (bsum none64 (l.take (k + 1)) = fur (bsum none64 (l.take k)) (l.getD k 0)) := Lib.hid (by rw [take_snocI l k hlt, bsum_snoc])
      obtain ⟨x1, x2⟩ := HU.out.at_ k
      generalize l.getD k 0 = x at c1 HS x1 x2
      generalize bsum none64 (l.take k) = s at HS
      clear hc
      go_wp2
      go_round
      case rel => exact ⟨k + 1, by omega, by go_num, by rw [HS.out]; rfl⟩
      case measure => simp [intOf]; omega
    · have hk2 : k = l.length := by omega
      subst hk2
      go_wp2
      go_ret
      exact ⟨rfl, rfl⟩

/-- The eight bytes of a number. -/
def b8 (u : Int) : List Int := [u % 256, u / 256 % 256, u / 65536 % 256, u / 16777216 % 256, u / 4294967296 % 256, u / 1099511627776 % 256, u / 281474976710656 % 256, u / 72057594037927936 % 256]
theorem b8_length (u : Int) : (b8 u).length = 8 := rfl
theorem b8_u8 (u : Int) : U8 (b8 u) := fun z hz => by
  simp only [b8, List.mem_cons, List.not_mem_nil, or_false] at hz
  omega

set_option maxRecDepth 20000 in
theorem number_any (s u : Int) (w : World) (hu : 0 ≤ u ∧ u < 18446744073709551616) :
    Calls Try.prog 61 #[.int .u64 s, .int .u64 u] w fun e w' => e = .returned (.int .u64 (bsum s (b8 u))) ∧ w = w' := by
  obtain ⟨h1, h2⟩ := hu
  go_enter Try.func61, Try.ntmps61
  go_wp2
  go_loop [0, 6] (fun t i => ∃ (k : Nat), k ≤ 8 ∧ i = .int .i64 k ∧ t = .int .u64 (bsum s ((b8 u).take k))) (fun _ i => 8 - (intOf i).toNat)
  case atStart => exact ⟨0, Nat.zero_le _, rfl, rfl⟩
  case round =>
    obtain ⟨k, hk, rfl, rfl⟩ := hrel
    by_cases hlt : k < 8
    · obtain ⟨K, HK⟩ : ∃ K, Hid (K = k + 1) := ⟨_, Lib.hid rfl⟩
      have HS : Hid (bsum s ((b8 u).take K) = fur (bsum s ((b8 u).take k)) ((b8 u).getD k 0)) := Lib.hid (by rw [HK.out, take_snocI (b8 u) k (by simpa [b8_length] using hlt), bsum_snoc])
      generalize bsum s ((b8 u).take k) = t at HS
      obtain rfl | rfl | rfl | rfl | rfl | rfl | rfl | rfl : k = 0 ∨ k = 1 ∨ k = 2 ∨ k = 3 ∨ k = 4 ∨ k = 5 ∨ k = 6 ∨ k = 7 := by omega
      all_goals
        go_wp2_with (go_at_call 60; refine (further_any _ _ _ (by omega)).mono ?_; rintro e w' ⟨rfl, rfl⟩)
        go_round
        case rel => exact ⟨K, by have := HK.out; omega, by rw [HK.out]; rfl, by rw [HS.out]; first | (simp [b8]; done) | (simp [b8]; congr 1; omega)⟩
        case measure => simp [intOf]
    · have hk2 : k = 8 := by omega
      subst hk2
      go_wp2
      go_ret
      exact ⟨rfl, rfl⟩

set_option maxRecDepth 20000 in
set_option maxHeartbeats 1000000 in
theorem bits64_any (u : Int) (w : World) (hu : 0 ≤ u ∧ u < 18446744073709551616) :
    Calls Try.prog 62 #[.int .u64 u] w fun e w' => ∃ v, e = .returned v ∧ OB w.heap.size w' v (b8 u) ∧ Below w.heap.size w w' := by
  obtain ⟨h1, h2⟩ := hu
  go_enter Try.func62, Try.ntmps62
  go_wp2
  obtain ⟨i0, hi, hz0, hz1, hz2⟩ := info_parts Try.info5
  go_loopw [0, 3, 4] (fun t a i wr => ∃ (v' : Value) (k : Nat), a = v' ∧ i = .int .i64 k ∧ k ≤ 8 ∧ t = .int .u64 (u / 256 ^ k) ∧ Hid (OB w.heap.size wr v' ((b8 u).take k)) ∧ Hid (Below w.heap.size w wr)) (fun _ _ i _ => 8 - (intOf i).toNat)
  case atStart => exact ⟨_, 0, rfl, rfl, by omega, by simp, Lib.hid (OB.nil _ _), Lib.hid (Below.refl _ _)⟩
  case round =>
    obtain ⟨v', k, rfl, rfl, hk, rfl, HO, HW⟩ := hrel
    have hbw : w.heap.size ≤ wr.heap.size := HW.out.size
    by_cases hlt : k < 8
    · have HS : Hid ((b8 u).take (k + 1) = (b8 u).take k ++ [u / 256 ^ k % 256]) := Lib.hid (by
        rw [take_snocI (b8 u) k (by simpa [b8_length] using hlt)]
        obtain rfl | rfl | rfl | rfl | rfl | rfl | rfl | rfl : k = 0 ∨ k = 1 ∨ k = 2 ∨ k = 3 ∨ k = 4 ∨ k = 5 ∨ k = 6 ∨ k = 7 := by omega
        all_goals simp [b8])
      have HT : Hid (u / 256 ^ (k + 1) = u / 256 ^ k / 256) := Lib.hid (by rw [Int.pow_succ, Int.ediv_ediv_of_nonneg (Int.pow_nonneg (by omega))])
      have hlen : ((b8 u).take k).length = k := by rw [List.length_take, b8_length]; omega
      have hq : 0 ≤ u / 256 ^ k ∧ u / 256 ^ k < 18446744073709551616 := by
        have h3 : (0 : Int) < 256 ^ k := Int.pow_pos (by omega)
        exact ⟨Int.ediv_nonneg h1 (by omega), Int.lt_of_le_of_lt (Int.ediv_le_self _ h1) h2⟩
      generalize u / 256 ^ k = q at HS HT hq
      generalize (b8 u).take k = l' at HS HO hlen
      obtain ⟨q1, q2⟩ := hq
      go_wp2_with (at_builtin; refine wpList_append_own_at _ rfl (.tmp 9) (.tmp 13) 63 rfl w.heap.size 5 i0 (.int .u8 0) 1 1 Try.underlying63 hi hz0 hz1 hz2 rfl (by decide) _ l'.length _ rfl (HO.out.alloc _) ⟨wr.heap.size, 0, none⟩ 1 1 [.int .u8 (q % 256)] rfl rfl (cell_one_new _ _ _) (by simp [Value.oneCell']) (by unfold maxLen; omega) (by omega) (by simp; omega) ?_; intro v2 w1 hown1 hgrow1 _ _)
      have HW1 : Hid (Below w.heap.size w w1) := Lib.hid (Below.grown (HW.out.alloc hbw _) hgrow1 (by simp; omega) (fun j hj => (HO.out.lt _ hj).1))
      have HO1 : Hid (OB w.heap.size w1 v2 (l' ++ [q % 256])) := Lib.hid (ob_snoc hown1)
      clear hown1 hgrow1
      go_wp2
      go_roundw
      case rel => exact ⟨_, k + 1, rfl, by go_num, by omega, by rw [HT.out], by rw [HS.out]; exact HO1, HW1⟩
      case measure => simp [intOf]; omega
    · have hk2 : k = 8 := by omega
      subst hk2
      go_wp2
      go_ret
      exact ⟨_, rfl, HO.out, HW.out⟩

/-- The bytes of numbers, one behind the other. -/
def bAll (l : List Int) : List Int := l.flatMap fun z => b8 (IntKind.u64.wrap z)
theorem bAll_length (l : List Int) : (bAll l).length = 8 * l.length := by
  unfold bAll
  induction l with
  | nil => rfl
  | cons x l ih => rw [List.flatMap_cons, List.length_append, ih, b8_length, List.length_cons]; omega
theorem bAll_u8 (l : List Int) : U8 (bAll l) := fun z hz => by
  unfold bAll at hz
  obtain ⟨x, _, hx⟩ := List.mem_flatMap.1 hz
  exact b8_u8 _ z hx
theorem bAll_snoc (l : List Int) (k : Nat) (h : k < l.length) : bAll (l.take (k + 1)) = bAll (l.take k) ++ b8 (IntKind.u64.wrap (l.getD k 0)) := by
  rw [take_snocI l k h]; simp [bAll]
theorem wrap_u64_fits (z : Int) : 0 ≤ IntKind.u64.wrap z ∧ IntKind.u64.wrap z < 18446744073709551616 := by
  rw [IntKind.wrap_u64]; omega

set_option maxRecDepth 20000 in
theorem ints_any (A : Option Addr) (c m : Nat) (l : List Int) (w : World) (hm : m = l.length) (hA : IA w A l) (hl : l.length ≤ 281474976710656) :
    Calls Try.prog 44 #[.slice A m c] w fun e w' => e = .returned (.int .u64 (bsum none64 (bAll l))) ∧ w = w' := by
  subst hm
  have HA := Lib.hid hA
  clear hA
  have h0 := bsum_fits none64 (bAll []) (by unfold none64; omega)
  go_enter Try.func44, Try.ntmps44
  go_wp2
  go_loop [3, 8] (fun s i => ∃ (k : Nat), k ≤ l.length ∧ i = .int .i64 k ∧ s = .int .u64 (bsum none64 (bAll (l.take k)))) (fun _ i => l.length - (intOf i).toNat)
  case atStart => exact ⟨0, Nat.zero_le _, rfl, rfl⟩
  case round =>
    obtain ⟨k, hk, rfl, rfl⟩ := hrel
    by_cases hlt : k < l.length
    · obtain ⟨b, o, rfl, hb, hc⟩ := HA.out (by omega)
      have c1 := hc k hlt
      have HS : Hid (bsum none64 (bAll (l.take (k + 1))) = bsum (bsum none64 (bAll (l.take k))) (b8 (IntKind.u64.wrap (l.getD k 0)))) := Lib.hid (by rw [bAll_snoc l k hlt, bsum_append])
      generalize l.getD k 0 = x at c1 HS
      generalize bsum none64 (bAll (l.take k)) = s at HS
      clear hc
      go_wp2_with (go_at_call 61; refine (number_any _ _ _ (wrap_u64_fits x)).mono ?_; rintro e w' ⟨rfl, rfl⟩)
      go_round
      case rel => exact ⟨k + 1, by omega, by go_num, by rw [HS.out]⟩
      case measure => simp [intOf]; omega
    · have hk2 : k = l.length := by omega
      subst hk2
      go_wp2
      go_ret
      exact ⟨by simp, rfl⟩

set_option maxRecDepth 20000 in
set_option maxHeartbeats 1000000 in
theorem refInts_any (A : Option Addr) (c m : Nat) (l : List Int) (w : World) (hm : m = l.length) (hA : IA w A l) (hl : 8 * l.length ≤ 140737488355328) :
    Calls Try.prog 45 #[.slice A m c] w fun e w' => e = .returned (.int .u64 (bsum none64 (bAll l))) ∧ Below w.heap.size w w' := by
  subst hm
  have HA := Lib.hid hA
  clear hA
  go_enter Try.func45, Try.ntmps45
  go_wp2
  go_loopw [3, 4] (fun a i wr => ∃ (v' : Value) (k : Nat), a = v' ∧ i = .int .i64 k ∧ k ≤ l.length ∧ Hid (OB w.heap.size wr v' (bAll (l.take k))) ∧ Hid (Below w.heap.size w wr)) (fun _ i _ => l.length - (intOf i).toNat)
  case atStart => exact ⟨_, 0, rfl, rfl, by omega, Lib.hid (OB.nil _ _), Lib.hid (Below.refl _ _)⟩
  case round =>
    obtain ⟨v', k, rfl, rfl, hk, HO, HW⟩ := hrel
    have hbw : w.heap.size ≤ wr.heap.size := HW.out.size
    by_cases hlt : k < l.length
    · obtain ⟨b, o, rfl, hb, hc⟩ := HA.out (by omega)
      have c1 : wr.cell? ⟨b, o + k, none⟩ = some (.int .i64 (l.getD k 0)) := by rw [HW.out.cell (p := ⟨b, o + k, none⟩) hb]; exact hc k hlt
      have HS : Hid (bAll (l.take (k + 1)) = bAll (l.take k) ++ b8 (IntKind.u64.wrap (l.getD k 0))) := Lib.hid (bAll_snoc l k hlt)
      have hlen : Hid ((bAll (l.take k)).length + 8 ≤ 140737488355328) := Lib.hid (by rw [bAll_length, List.length_take]; omega)
      generalize l.getD k 0 = x at c1 HS
      generalize bAll (l.take k) = l' at HS HO hlen
      clear hc
      go_wp2_with fail
      refine (bits64_any _ _ (wrap_u64_fits x)).mono ?_
      rintro e w1 ⟨v1, rfl, ho1, hb1⟩
      obtain ⟨A1, c2, rfl, hA1⟩ := ho1.form
      have hne : A1 ≠ none := fun h => by
        subst h
        obtain ⟨b, o, h, _⟩ := hA1 (by rw [b8_length]; omega)
        cases h
      have HB1 := Lib.hid hA1
      have HW1 := Lib.hid (HW.out.trans (hb1.mono hbw))
      have HO1 : Hid (OB w.heap.size w1 _ l') := Lib.hid (HO.out.kept hb1)
      clear ho1 hb1 hA1
      go_wp2_with (at_builtin; refine append_bytes _ rfl (.tmp 11) (.tmp 17) rfl w.heap.size _ l' rfl HO1.out A1 c2 _ (b8 (IntKind.u64.wrap x)) rfl rfl (fun h => absurd h hne) HB1.out (by rw [b8_length]; exact hlen.out) HW1.out.size ?_; intro v2 w2 ho2 hb2)
      have HW2 := Lib.hid (HW1.out.trans hb2)
      have HO2 := Lib.hid ho2
      clear ho2 hb2
      go_wp2
      go_roundw
      case rel => exact ⟨_, k + 1, rfl, by go_num, by omega, by rw [HS.out]; exact HO2, HW2⟩
      case measure => simp [intOf]; omega
    · have hk2 : k = l.length := by omega
      subst hk2
      have HO1 : Hid (OB w.heap.size wr _ (bAll l)) := Lib.hid (by have := HO.out; rwa [List.take_length] at this)
      obtain ⟨A1, c2, rfl, hA1⟩ := HO1.out.form
      have HB1 := Lib.hid hA1
      clear hA1
      go_wp2_with fail
      refine (refBytes_any A1 c2 _ (bAll l) wr rfl HB1.out (bAll_u8 l) (by rw [bAll_length]; omega)).mono ?_
      rintro e w1 ⟨rfl, rfl⟩
      go_wp2
      go_ret
      exact ⟨rfl, HW.out⟩
end Go.Proofs.Ytkpfglecgegjbaa
