/- Contracts that the claim stands on, several texts in one: LtxRefL2. -/
import Derived.Deep.RegionHeld3
import Derived.Test.YtgnflnfajkoibaaDoorPut1
import Derived.Test.YtgnflnfajkoibaaDoorPut2
import Derived.Test.YtgnflnfajkoibaaDoorPut3
import Derived.Test.YtgnflnfajkoibaaDoorPut4
import Derived.Test.YtgnflnfajkoibaaDoorPut5
import Derived.Test.YtgnflnfajkoibaaDoorPut6
import Derived.Test.YtgnflnfajkoibaaDoorPut7
import Derived.Test.YtgnflnfajkoibaaDoorPut8
import Derived.Test.YtgnflnfajkoibaaDoorPut9
namespace Go.Proofs.YtgnflnfajkoibaaDoor.tx
open Go.ChangeShapes Go.WideShapes Go.ChangeAt Go.RowKit Go.Deep sr lt

set_option maxRecDepth 20000 in
set_option maxHeartbeats 4000000 in
theorem laid9 (A : Option Addr) (m c : Nat) (NA : Option Addr) (n d : Nat) (e : List (Int × Int)) (N : List ByteArray) (f i : Nat) (q a : Int) (w : World) (HP : LaidC A m c NA n d e N f) (hf : i ≤ f) (h : LdW A m c NA n d e N i 9 q w) (ha : 0 ≤ a ∧ a ≤ 5) :
    Calls Tryd.prog 19 #[.slice A m c, .slice NA n d, .int .i64 i, .int .i64 a] w (StrP (tB e N (f + 1) i a) w) := by
  have H := Lib.hid h
  obtain ⟨b, o, rfl, c1, c2⟩ := node_cells h
  obtain ⟨x1, y1, HXY⟩ : ∃ x1 y1, Hid (kidsF e i = (x1, y1)) := ⟨_, _, Lib.hid rfl⟩
  have hi := h.hi
  have hm := h.ok.mm
  have hii : (i : Int) < (m : Int) := by omega
  obtain ⟨w1, HW1, HB1, HBX⟩ := node_box w 9 q
  have HKD := Lib.hid (fun W (hW : Below w1.heap.size w1 W) => h.kids W (HB1.out.trans (hW.mono HB1.out.size)))
  have HBI := Lib.hid (fun W => refBinds_any (op := 9) (o := ⟨9, [85], 4, 5, 4⟩) rfl W)
  rw [HXY.out] at HKD
  dsimp only at HKD HBI
  obtain ⟨z, HZ⟩ : ∃ z, Hid (tB e N (f + 1) i a = z) := ⟨_, Lib.hid rfl⟩
  rw [HZ.out]
  have HT0 : Hid (z = if (4 : Int) < a then (⟨#[40]⟩ : ByteArray) ++ bB e N f i ⟨9, [85], 4, 5, 4⟩ ++ ⟨#[41]⟩ else bB e N f i ⟨9, [85], 4, 5, 4⟩) := Lib.hid (by
    rw [← HZ.out]
    unfold tB
    rw [txF_some (o := ⟨9, [85], 4, 5, 4⟩) (by rw [H.out.nd]; rfl)]
    unfold bB
    split
    · exact (brack _).symm
    · rfl)
  have hnode := node_of h.ok.is_ (i := i) (by rw [← h.ok.lm]; exact h.hi)
  obtain ⟨k, j, hki, hji, hkk⟩ : ∃ k j : Nat, k < i ∧ j < i ∧ kidsF e i = ((k : Int), (j : Int)) := by
    rcases hnode with ⟨q', h1, _⟩ | ⟨o', ho', _, _, ⟨g1, _⟩ | ⟨_, g2, _⟩ | ⟨_, _, _, j, k, v, h1, h2, _, h3, _⟩⟩
    · rw [h.nd] at h1; cases h1
    · rw [h.nd] at ho'
      obtain rfl : ⟨9, [85], 4, 5, 4⟩ = o' := by injection ho'
      exact absurd g1 (by decide)
    · rw [h.nd] at ho'
      obtain rfl : ⟨9, [85], 4, 5, 4⟩ = o' := by injection ho'
      exact absurd g2 (by decide)
    · exact ⟨k, j, by omega, by omega, h3⟩
  rw [hkk] at HXY
  obtain ⟨HX1, HY1⟩ : Hid ((k : Int) = x1) ∧ Hid ((j : Int) = y1) := ⟨Lib.hid (by have := HXY.out; injection this), Lib.hid (by have := HXY.out; injection this)⟩
  rw [← HX1.out, ← HY1.out] at HKD
  obtain ⟨T1, HT1⟩ : ∃ T, Hid (tB e N f k 5 = T) := ⟨_, Lib.hid rfl⟩
  obtain ⟨T2, HT2⟩ : ∃ T, Hid (tB e N f j 4 = T) := ⟨_, Lib.hid rfl⟩
  have HL1 : Hid (∀ W, Below w1.heap.size w1 W → Calls Tryd.prog 19 #[.slice (some ⟨b, o, none⟩) m c, .slice NA n d, .int .i64 k, .int .i64 5] W (StrP T1 W)) := Lib.hid (fun W hW => by
    have h5 := HP k 5 W (by omega) (by omega) (by decide) (by decide) (h.ok.below (HB1.out.trans (hW.mono HB1.out.size)))
    rw [HT1.out] at h5
    exact h5)
  have HL2 : Hid (∀ W, Below w1.heap.size w1 W → Calls Tryd.prog 19 #[.slice (some ⟨b, o, none⟩) m c, .slice NA n d, .int .i64 j, .int .i64 4] W (StrP T2 W)) := Lib.hid (fun W hW => by
    have h5 := HP j 4 W (by omega) (by omega) (by decide) (by decide) (h.ok.below (HB1.out.trans (hW.mono HB1.out.size)))
    rw [HT2.out] at h5
    exact h5)
  have ht1 : T1.size ≤ 3000 := by rw [← HT1.out]; exact tB_size h.ok f k 5 (by rw [← h.ok.lm]; omega)
  have ht2 : T2.size ≤ 3000 := by rw [← HT2.out]; exact tB_size h.ok f j 4 (by rw [← h.ok.lm]; omega)
  have HSG := Lib.hid (fun W => refSign_any (op := 9) (o := ⟨9, [85], 4, 5, 4⟩) rfl W)
  unfold sgA at HSG
  dsimp only at HSG
  obtain ⟨z1, h1⟩ : ∃ z, T1 ++ (⟨#[32]⟩ : ByteArray) = z := ⟨_, rfl⟩
  obtain ⟨z2, h2⟩ : ∃ z, z1 ++ (⟨#[85]⟩ : ByteArray) = z := ⟨_, rfl⟩
  obtain ⟨z3, h3⟩ : ∃ z, z2 ++ (⟨#[32]⟩ : ByteArray) = z := ⟨_, rfl⟩
  obtain ⟨z4, h4⟩ : ∃ z, z3 ++ T2 = z := ⟨_, rfl⟩
  have s1 : z1.size = T1.size + 1 := by rw [← h1, size_app]; rfl
  have s2 : z2.size ≤ z1.size + 5 := by
    rw [← h2, size_app]
    have : ((⟨#[85]⟩ : ByteArray)).size ≤ 5 := by decide
    omega
  have s3 : z3.size = z2.size + 1 := by rw [← h3, size_app]; rfl
  have s4 : z4.size = z3.size + T2.size := by rw [← h4, size_app]
  have HE : Hid (z = if (4 : Int) < a then (⟨#[40]⟩ : ByteArray) ++ z4 ++ ⟨#[41]⟩ else z4) := Lib.hid (by
    have hb : bB e N f i ⟨9, [85], 4, 5, 4⟩ = z4 := by
      rw [← h4, ← h3, ← h2, ← h1, ← HT1.out, ← HT2.out]
      unfold bB bareF tB
      rw [if_neg (by decide), if_neg (by decide), if_neg (by decide), hkk, show (⟨#[85]⟩ : ByteArray) = ⟨([85] : List UInt8).toArray⟩ from rfl, show (⟨#[32]⟩ : ByteArray) = ⟨[(32 : UInt8)].toArray⟩ from rfl, mk_app, mk_app, mk_app, mk_app]
      simp only [Int.toNat_natCast, List.append_assoc]
    rw [HT0.out, hb])
  have e1 := fun W => str_add (P := Tryd.prog) h1 (by show T1.size + 1 ≤ _; omega) W
  have hsg5 : ((⟨#[85]⟩ : ByteArray)).size ≤ 5 := by decide
  have e2 := fun W => str_add (P := Tryd.prog) h2 (by omega) W
  have e3 := fun W => str_add (P := Tryd.prog) h3 (by show z2.size + 1 ≤ _; omega) W
  have e4 := fun W => str_add (P := Tryd.prog) h4 (by omega) W
  have hz4 : z4.size ≤ 8000 := by omega
  clear h h1 h2 h3 h4 hnode hkk s1 s2 s3 s4 HXY
  go_enter Tryd.func19, Tryd.ntmps19
  go_upto_region 2 with (fail)
  clear HW1 c1 c2
  obtain ⟨g1, g2⟩ := HBX.out w1 (Below.refl _ _)
  go_wp2_with fail
  refine (HBI.out _).mono ?_
  rintro e1 w2 ⟨rfl, rfl⟩
  go_wp2_with fail
  refine (HKD.out w1 (Below.refl _ _)).mono ?_
  rintro e2 w2 ⟨rfl, hb2⟩
  have HB2 : Hid (Below w1.heap.size w1 w2) := Lib.hid hb2
  clear hb2 g1 g2
  obtain ⟨g1, g2⟩ := HBX.out w2 HB2.out
  by_cases hbd : (4 : Int) < a
  · obtain ⟨z1, h1⟩ : ∃ z, (⟨#[40]⟩ : ByteArray) ++ z4 = z := ⟨_, rfl⟩
    obtain ⟨z2, h2⟩ : ∃ z, z1 ++ (⟨#[41]⟩ : ByteArray) = z := ⟨_, rfl⟩
    have s1 : z1.size = 1 + z4.size := by rw [← h1, size_app]; rfl
    have HE2 : Hid (z = z2) := Lib.hid (by rw [HE.out, if_pos hbd, h1, h2])
    have e8 := fun W => str_add (P := Tryd.prog) h1 (by show 1 + z4.size ≤ _; omega) W
    have e9 := fun W => str_add (P := Tryd.prog) h2 (by show z1.size + 1 ≤ _; omega) W
    clear h1 h2 s1
    go_wp2_with fail
    clear g1 g2
    obtain ⟨g1, g2⟩ := HBX.out w2 HB2.out
    go_region_held3 (fun W => W.cell? ⟨w.heap.size, 0, none⟩ = some (.int .i64 9))
      (first | exact (HBX.out _ HB2.out).1 | exact (HBX.out _ HB2.out.drew).1 | exact (HBX.out _ HB3.out).1 | exact (HBX.out _ HB4.out).1 | go_keep)
      (first
        | (go_at_call 19; refine (HL2.out _ HB3.out).mono ?_; rintro e4 w4 ⟨rfl, hb4⟩; have HB4 : Hid (Below w1.heap.size w1 w4) := Lib.hid (HB3.out.trans (hb4.mono HB3.out.size)); clear hb4)
        | (go_at_call 34; refine (HSG.out _).mono ?_; rintro e5 w5 ⟨rfl, rfl⟩)
        | (go_at_call 19; refine (HL1.out _ (by first | exact HB2.out | exact HB2.out.drew)).mono ?_; rintro e3 w3 ⟨rfl, hb3⟩; have HB3 : Hid (Below w1.heap.size w1 w3) := Lib.hid (by first | exact HB2.out.drew.trans (hb3.mono HB2.out.drew.size) | exact HB2.out.trans (hb3.mono HB2.out.size)); clear hb3)
        | fail)
    all_goals
      clear g1 g2
      go_wp2
      go_ret
      exact ⟨by rw [HE2.out]; rfl, HB1.out.trans (HB4.out.mono HB1.out.size)⟩
  · have HE2 : Hid (z = z4) := Lib.hid (by rw [HE.out, if_neg hbd])
    go_wp2_with fail
    clear g1 g2
    obtain ⟨g1, g2⟩ := HBX.out w2 HB2.out
    go_region_held3 (fun W => W.cell? ⟨w.heap.size, 0, none⟩ = some (.int .i64 9))
      (first | exact (HBX.out _ HB2.out).1 | exact (HBX.out _ HB2.out.drew).1 | exact (HBX.out _ HB3.out).1 | exact (HBX.out _ HB4.out).1 | go_keep)
      (first
        | (go_at_call 19; refine (HL2.out _ HB3.out).mono ?_; rintro e4 w4 ⟨rfl, hb4⟩; have HB4 : Hid (Below w1.heap.size w1 w4) := Lib.hid (HB3.out.trans (hb4.mono HB3.out.size)); clear hb4)
        | (go_at_call 34; refine (HSG.out _).mono ?_; rintro e5 w5 ⟨rfl, rfl⟩)
        | (go_at_call 19; refine (HL1.out _ (by first | exact HB2.out | exact HB2.out.drew)).mono ?_; rintro e3 w3 ⟨rfl, hb3⟩; have HB3 : Hid (Below w1.heap.size w1 w3) := Lib.hid (by first | exact HB2.out.drew.trans (hb3.mono HB2.out.drew.size) | exact HB2.out.trans (hb3.mono HB2.out.size)); clear hb3)
        | fail)
    all_goals
      clear g1 g2
      go_wp2
      go_ret
      exact ⟨by rw [HE2.out]; rfl, HB1.out.trans (HB4.out.mono HB1.out.size)⟩
set_option maxRecDepth 20000 in
set_option maxHeartbeats 4000000 in
theorem laid10 (A : Option Addr) (m c : Nat) (NA : Option Addr) (n d : Nat) (e : List (Int × Int)) (N : List ByteArray) (f i : Nat) (q a : Int) (w : World) (HP : LaidC A m c NA n d e N f) (hf : i ≤ f) (h : LdW A m c NA n d e N i 10 q w) (ha : 0 ≤ a ∧ a ≤ 5) :
    Calls Tryd.prog 19 #[.slice A m c, .slice NA n d, .int .i64 i, .int .i64 a] w (StrP (tB e N (f + 1) i a) w) := by
  have H := Lib.hid h
  obtain ⟨b, o, rfl, c1, c2⟩ := node_cells h
  obtain ⟨x1, y1, HXY⟩ : ∃ x1 y1, Hid (kidsF e i = (x1, y1)) := ⟨_, _, Lib.hid rfl⟩
  have hi := h.hi
  have hm := h.ok.mm
  have hii : (i : Int) < (m : Int) := by omega
  obtain ⟨w1, HW1, HB1, HBX⟩ := node_box w 10 q
  have HKD := Lib.hid (fun W (hW : Below w1.heap.size w1 W) => h.kids W (HB1.out.trans (hW.mono HB1.out.size)))
  have HBI := Lib.hid (fun W => refBinds_any (op := 10) (o := ⟨10, [82], 4, 5, 4⟩) rfl W)
  rw [HXY.out] at HKD
  dsimp only at HKD HBI
  obtain ⟨z, HZ⟩ : ∃ z, Hid (tB e N (f + 1) i a = z) := ⟨_, Lib.hid rfl⟩
  rw [HZ.out]
  have HT0 : Hid (z = if (4 : Int) < a then (⟨#[40]⟩ : ByteArray) ++ bB e N f i ⟨10, [82], 4, 5, 4⟩ ++ ⟨#[41]⟩ else bB e N f i ⟨10, [82], 4, 5, 4⟩) := Lib.hid (by
    rw [← HZ.out]
    unfold tB
    rw [txF_some (o := ⟨10, [82], 4, 5, 4⟩) (by rw [H.out.nd]; rfl)]
    unfold bB
    split
    · exact (brack _).symm
    · rfl)
  have hnode := node_of h.ok.is_ (i := i) (by rw [← h.ok.lm]; exact h.hi)
  obtain ⟨k, j, hki, hji, hkk⟩ : ∃ k j : Nat, k < i ∧ j < i ∧ kidsF e i = ((k : Int), (j : Int)) := by
    rcases hnode with ⟨q', h1, _⟩ | ⟨o', ho', _, _, ⟨g1, _⟩ | ⟨_, g2, _⟩ | ⟨_, _, _, j, k, v, h1, h2, _, h3, _⟩⟩
    · rw [h.nd] at h1; cases h1
    · rw [h.nd] at ho'
      obtain rfl : ⟨10, [82], 4, 5, 4⟩ = o' := by injection ho'
      exact absurd g1 (by decide)
    · rw [h.nd] at ho'
      obtain rfl : ⟨10, [82], 4, 5, 4⟩ = o' := by injection ho'
      exact absurd g2 (by decide)
    · exact ⟨k, j, by omega, by omega, h3⟩
  rw [hkk] at HXY
  obtain ⟨HX1, HY1⟩ : Hid ((k : Int) = x1) ∧ Hid ((j : Int) = y1) := ⟨Lib.hid (by have := HXY.out; injection this), Lib.hid (by have := HXY.out; injection this)⟩
  rw [← HX1.out, ← HY1.out] at HKD
  obtain ⟨T1, HT1⟩ : ∃ T, Hid (tB e N f k 5 = T) := ⟨_, Lib.hid rfl⟩
  obtain ⟨T2, HT2⟩ : ∃ T, Hid (tB e N f j 4 = T) := ⟨_, Lib.hid rfl⟩
  have HL1 : Hid (∀ W, Below w1.heap.size w1 W → Calls Tryd.prog 19 #[.slice (some ⟨b, o, none⟩) m c, .slice NA n d, .int .i64 k, .int .i64 5] W (StrP T1 W)) := Lib.hid (fun W hW => by
    have h5 := HP k 5 W (by omega) (by omega) (by decide) (by decide) (h.ok.below (HB1.out.trans (hW.mono HB1.out.size)))
    rw [HT1.out] at h5
    exact h5)
  have HL2 : Hid (∀ W, Below w1.heap.size w1 W → Calls Tryd.prog 19 #[.slice (some ⟨b, o, none⟩) m c, .slice NA n d, .int .i64 j, .int .i64 4] W (StrP T2 W)) := Lib.hid (fun W hW => by
    have h5 := HP j 4 W (by omega) (by omega) (by decide) (by decide) (h.ok.below (HB1.out.trans (hW.mono HB1.out.size)))
    rw [HT2.out] at h5
    exact h5)
  have ht1 : T1.size ≤ 3000 := by rw [← HT1.out]; exact tB_size h.ok f k 5 (by rw [← h.ok.lm]; omega)
  have ht2 : T2.size ≤ 3000 := by rw [← HT2.out]; exact tB_size h.ok f j 4 (by rw [← h.ok.lm]; omega)
  have HSG := Lib.hid (fun W => refSign_any (op := 10) (o := ⟨10, [82], 4, 5, 4⟩) rfl W)
  unfold sgA at HSG
  dsimp only at HSG
  obtain ⟨z1, h1⟩ : ∃ z, T1 ++ (⟨#[32]⟩ : ByteArray) = z := ⟨_, rfl⟩
  obtain ⟨z2, h2⟩ : ∃ z, z1 ++ (⟨#[82]⟩ : ByteArray) = z := ⟨_, rfl⟩
  obtain ⟨z3, h3⟩ : ∃ z, z2 ++ (⟨#[32]⟩ : ByteArray) = z := ⟨_, rfl⟩
  obtain ⟨z4, h4⟩ : ∃ z, z3 ++ T2 = z := ⟨_, rfl⟩
  have s1 : z1.size = T1.size + 1 := by rw [← h1, size_app]; rfl
  have s2 : z2.size ≤ z1.size + 5 := by
    rw [← h2, size_app]
    have : ((⟨#[82]⟩ : ByteArray)).size ≤ 5 := by decide
    omega
  have s3 : z3.size = z2.size + 1 := by rw [← h3, size_app]; rfl
  have s4 : z4.size = z3.size + T2.size := by rw [← h4, size_app]
  have HE : Hid (z = if (4 : Int) < a then (⟨#[40]⟩ : ByteArray) ++ z4 ++ ⟨#[41]⟩ else z4) := Lib.hid (by
    have hb : bB e N f i ⟨10, [82], 4, 5, 4⟩ = z4 := by
      rw [← h4, ← h3, ← h2, ← h1, ← HT1.out, ← HT2.out]
      unfold bB bareF tB
      rw [if_neg (by decide), if_neg (by decide), if_neg (by decide), hkk, show (⟨#[82]⟩ : ByteArray) = ⟨([82] : List UInt8).toArray⟩ from rfl, show (⟨#[32]⟩ : ByteArray) = ⟨[(32 : UInt8)].toArray⟩ from rfl, mk_app, mk_app, mk_app, mk_app]
      simp only [Int.toNat_natCast, List.append_assoc]
    rw [HT0.out, hb])
  have e1 := fun W => str_add (P := Tryd.prog) h1 (by show T1.size + 1 ≤ _; omega) W
  have hsg5 : ((⟨#[82]⟩ : ByteArray)).size ≤ 5 := by decide
  have e2 := fun W => str_add (P := Tryd.prog) h2 (by omega) W
  have e3 := fun W => str_add (P := Tryd.prog) h3 (by show z2.size + 1 ≤ _; omega) W
  have e4 := fun W => str_add (P := Tryd.prog) h4 (by omega) W
  have hz4 : z4.size ≤ 8000 := by omega
  clear h h1 h2 h3 h4 hnode hkk s1 s2 s3 s4 HXY
  go_enter Tryd.func19, Tryd.ntmps19
  go_upto_region 2 with (fail)
  clear HW1 c1 c2
  obtain ⟨g1, g2⟩ := HBX.out w1 (Below.refl _ _)
  go_wp2_with fail
  refine (HBI.out _).mono ?_
  rintro e1 w2 ⟨rfl, rfl⟩
  go_wp2_with fail
  refine (HKD.out w1 (Below.refl _ _)).mono ?_
  rintro e2 w2 ⟨rfl, hb2⟩
  have HB2 : Hid (Below w1.heap.size w1 w2) := Lib.hid hb2
  clear hb2 g1 g2
  obtain ⟨g1, g2⟩ := HBX.out w2 HB2.out
  by_cases hbd : (4 : Int) < a
  · obtain ⟨z1, h1⟩ : ∃ z, (⟨#[40]⟩ : ByteArray) ++ z4 = z := ⟨_, rfl⟩
    obtain ⟨z2, h2⟩ : ∃ z, z1 ++ (⟨#[41]⟩ : ByteArray) = z := ⟨_, rfl⟩
    have s1 : z1.size = 1 + z4.size := by rw [← h1, size_app]; rfl
    have HE2 : Hid (z = z2) := Lib.hid (by rw [HE.out, if_pos hbd, h1, h2])
    have e8 := fun W => str_add (P := Tryd.prog) h1 (by show 1 + z4.size ≤ _; omega) W
    have e9 := fun W => str_add (P := Tryd.prog) h2 (by show z1.size + 1 ≤ _; omega) W
    clear h1 h2 s1
    go_wp2_with fail
    clear g1 g2
    obtain ⟨g1, g2⟩ := HBX.out w2 HB2.out
    go_region_held3 (fun W => W.cell? ⟨w.heap.size, 0, none⟩ = some (.int .i64 10))
      (first | exact (HBX.out _ HB2.out).1 | exact (HBX.out _ HB2.out.drew).1 | exact (HBX.out _ HB3.out).1 | exact (HBX.out _ HB4.out).1 | go_keep)
      (first
        | (go_at_call 19; refine (HL2.out _ HB3.out).mono ?_; rintro e4 w4 ⟨rfl, hb4⟩; have HB4 : Hid (Below w1.heap.size w1 w4) := Lib.hid (HB3.out.trans (hb4.mono HB3.out.size)); clear hb4)
        | (go_at_call 34; refine (HSG.out _).mono ?_; rintro e5 w5 ⟨rfl, rfl⟩)
        | (go_at_call 19; refine (HL1.out _ (by first | exact HB2.out | exact HB2.out.drew)).mono ?_; rintro e3 w3 ⟨rfl, hb3⟩; have HB3 : Hid (Below w1.heap.size w1 w3) := Lib.hid (by first | exact HB2.out.drew.trans (hb3.mono HB2.out.drew.size) | exact HB2.out.trans (hb3.mono HB2.out.size)); clear hb3)
        | fail)
    all_goals
      clear g1 g2
      go_wp2
      go_ret
      exact ⟨by rw [HE2.out]; rfl, HB1.out.trans (HB4.out.mono HB1.out.size)⟩
  · have HE2 : Hid (z = z4) := Lib.hid (by rw [HE.out, if_neg hbd])
    go_wp2_with fail
    clear g1 g2
    obtain ⟨g1, g2⟩ := HBX.out w2 HB2.out
    go_region_held3 (fun W => W.cell? ⟨w.heap.size, 0, none⟩ = some (.int .i64 10))
      (first | exact (HBX.out _ HB2.out).1 | exact (HBX.out _ HB2.out.drew).1 | exact (HBX.out _ HB3.out).1 | exact (HBX.out _ HB4.out).1 | go_keep)
      (first
        | (go_at_call 19; refine (HL2.out _ HB3.out).mono ?_; rintro e4 w4 ⟨rfl, hb4⟩; have HB4 : Hid (Below w1.heap.size w1 w4) := Lib.hid (HB3.out.trans (hb4.mono HB3.out.size)); clear hb4)
        | (go_at_call 34; refine (HSG.out _).mono ?_; rintro e5 w5 ⟨rfl, rfl⟩)
        | (go_at_call 19; refine (HL1.out _ (by first | exact HB2.out | exact HB2.out.drew)).mono ?_; rintro e3 w3 ⟨rfl, hb3⟩; have HB3 : Hid (Below w1.heap.size w1 w3) := Lib.hid (by first | exact HB2.out.drew.trans (hb3.mono HB2.out.drew.size) | exact HB2.out.trans (hb3.mono HB2.out.size)); clear hb3)
        | fail)
    all_goals
      clear g1 g2
      go_wp2
      go_ret
      exact ⟨by rw [HE2.out]; rfl, HB1.out.trans (HB4.out.mono HB1.out.size)⟩
set_option maxRecDepth 20000 in
set_option maxHeartbeats 4000000 in
theorem laid5 (A : Option Addr) (m c : Nat) (NA : Option Addr) (n d : Nat) (e : List (Int × Int)) (N : List ByteArray) (f i : Nat) (q a : Int) (w : World) (HP : LaidC A m c NA n d e N f) (hf : i ≤ f) (h : LdW A m c NA n d e N i 5 q w) (ha : 0 ≤ a ∧ a ≤ 5) :
    Calls Tryd.prog 19 #[.slice A m c, .slice NA n d, .int .i64 i, .int .i64 a] w (StrP (tB e N (f + 1) i a) w) := by
  have H := Lib.hid h
  obtain ⟨b, o, rfl, c1, c2⟩ := node_cells h
  obtain ⟨x1, y1, HXY⟩ : ∃ x1 y1, Hid (kidsF e i = (x1, y1)) := ⟨_, _, Lib.hid rfl⟩
  have hi := h.hi
  have hm := h.ok.mm
  have hii : (i : Int) < (m : Int) := by omega
  obtain ⟨w1, HW1, HB1, HBX⟩ := node_box w 5 q
  have HKD := Lib.hid (fun W (hW : Below w1.heap.size w1 W) => h.kids W (HB1.out.trans (hW.mono HB1.out.size)))
  have HBI := Lib.hid (fun W => refBinds_any (op := 5) (o := ⟨5, [38, 38], 3, 3, 4⟩) rfl W)
  rw [HXY.out] at HKD
  dsimp only at HKD HBI
  obtain ⟨z, HZ⟩ : ∃ z, Hid (tB e N (f + 1) i a = z) := ⟨_, Lib.hid rfl⟩
  rw [HZ.out]
  have HT0 : Hid (z = if (3 : Int) < a then (⟨#[40]⟩ : ByteArray) ++ bB e N f i ⟨5, [38, 38], 3, 3, 4⟩ ++ ⟨#[41]⟩ else bB e N f i ⟨5, [38, 38], 3, 3, 4⟩) := Lib.hid (by
    rw [← HZ.out]
    unfold tB
    rw [txF_some (o := ⟨5, [38, 38], 3, 3, 4⟩) (by rw [H.out.nd]; rfl)]
    unfold bB
    split
    · exact (brack _).symm
    · rfl)
  have hnode := node_of h.ok.is_ (i := i) (by rw [← h.ok.lm]; exact h.hi)
  obtain ⟨k, j, hki, hji, hkk⟩ : ∃ k j : Nat, k < i ∧ j < i ∧ kidsF e i = ((k : Int), (j : Int)) := by
    rcases hnode with ⟨q', h1, _⟩ | ⟨o', ho', _, _, ⟨g1, _⟩ | ⟨_, g2, _⟩ | ⟨_, _, _, j, k, v, h1, h2, _, h3, _⟩⟩
    · rw [h.nd] at h1; cases h1
    · rw [h.nd] at ho'
      obtain rfl : ⟨5, [38, 38], 3, 3, 4⟩ = o' := by injection ho'
      exact absurd g1 (by decide)
    · rw [h.nd] at ho'
      obtain rfl : ⟨5, [38, 38], 3, 3, 4⟩ = o' := by injection ho'
      exact absurd g2 (by decide)
    · exact ⟨k, j, by omega, by omega, h3⟩
  rw [hkk] at HXY
  obtain ⟨HX1, HY1⟩ : Hid ((k : Int) = x1) ∧ Hid ((j : Int) = y1) := ⟨Lib.hid (by have := HXY.out; injection this), Lib.hid (by have := HXY.out; injection this)⟩
  rw [← HX1.out, ← HY1.out] at HKD
  obtain ⟨T1, HT1⟩ : ∃ T, Hid (tB e N f k 3 = T) := ⟨_, Lib.hid rfl⟩
  obtain ⟨T2, HT2⟩ : ∃ T, Hid (tB e N f j 4 = T) := ⟨_, Lib.hid rfl⟩
  have HL1 : Hid (∀ W, Below w1.heap.size w1 W → Calls Tryd.prog 19 #[.slice (some ⟨b, o, none⟩) m c, .slice NA n d, .int .i64 k, .int .i64 3] W (StrP T1 W)) := Lib.hid (fun W hW => by
    have h5 := HP k 3 W (by omega) (by omega) (by decide) (by decide) (h.ok.below (HB1.out.trans (hW.mono HB1.out.size)))
    rw [HT1.out] at h5
    exact h5)
  have HL2 : Hid (∀ W, Below w1.heap.size w1 W → Calls Tryd.prog 19 #[.slice (some ⟨b, o, none⟩) m c, .slice NA n d, .int .i64 j, .int .i64 4] W (StrP T2 W)) := Lib.hid (fun W hW => by
    have h5 := HP j 4 W (by omega) (by omega) (by decide) (by decide) (h.ok.below (HB1.out.trans (hW.mono HB1.out.size)))
    rw [HT2.out] at h5
    exact h5)
  have ht1 : T1.size ≤ 3000 := by rw [← HT1.out]; exact tB_size h.ok f k 3 (by rw [← h.ok.lm]; omega)
  have ht2 : T2.size ≤ 3000 := by rw [← HT2.out]; exact tB_size h.ok f j 4 (by rw [← h.ok.lm]; omega)
  have HSG := Lib.hid (fun W => refSign_any (op := 5) (o := ⟨5, [38, 38], 3, 3, 4⟩) rfl W)
  unfold sgA at HSG
  dsimp only at HSG
  obtain ⟨z1, h1⟩ : ∃ z, T1 ++ (⟨#[32]⟩ : ByteArray) = z := ⟨_, rfl⟩
  obtain ⟨z2, h2⟩ : ∃ z, z1 ++ (⟨#[38, 38]⟩ : ByteArray) = z := ⟨_, rfl⟩
  obtain ⟨z3, h3⟩ : ∃ z, z2 ++ (⟨#[32]⟩ : ByteArray) = z := ⟨_, rfl⟩
  obtain ⟨z4, h4⟩ : ∃ z, z3 ++ T2 = z := ⟨_, rfl⟩
  have s1 : z1.size = T1.size + 1 := by rw [← h1, size_app]; rfl
  have s2 : z2.size ≤ z1.size + 5 := by
    rw [← h2, size_app]
    have : ((⟨#[38, 38]⟩ : ByteArray)).size ≤ 5 := by decide
    omega
  have s3 : z3.size = z2.size + 1 := by rw [← h3, size_app]; rfl
  have s4 : z4.size = z3.size + T2.size := by rw [← h4, size_app]
  have HE : Hid (z = if (3 : Int) < a then (⟨#[40]⟩ : ByteArray) ++ z4 ++ ⟨#[41]⟩ else z4) := Lib.hid (by
    have hb : bB e N f i ⟨5, [38, 38], 3, 3, 4⟩ = z4 := by
      rw [← h4, ← h3, ← h2, ← h1, ← HT1.out, ← HT2.out]
      unfold bB bareF tB
      rw [if_neg (by decide), if_neg (by decide), if_neg (by decide), hkk, show (⟨#[38, 38]⟩ : ByteArray) = ⟨([38, 38] : List UInt8).toArray⟩ from rfl, show (⟨#[32]⟩ : ByteArray) = ⟨[(32 : UInt8)].toArray⟩ from rfl, mk_app, mk_app, mk_app, mk_app]
      simp only [Int.toNat_natCast, List.append_assoc]
    rw [HT0.out, hb])
  have e1 := fun W => str_add (P := Tryd.prog) h1 (by show T1.size + 1 ≤ _; omega) W
  have hsg5 : ((⟨#[38, 38]⟩ : ByteArray)).size ≤ 5 := by decide
  have e2 := fun W => str_add (P := Tryd.prog) h2 (by omega) W
  have e3 := fun W => str_add (P := Tryd.prog) h3 (by show z2.size + 1 ≤ _; omega) W
  have e4 := fun W => str_add (P := Tryd.prog) h4 (by omega) W
  have hz4 : z4.size ≤ 8000 := by omega
  clear h h1 h2 h3 h4 hnode hkk s1 s2 s3 s4 HXY
  go_enter Tryd.func19, Tryd.ntmps19
  go_upto_region 2 with (fail)
  clear HW1 c1 c2
  obtain ⟨g1, g2⟩ := HBX.out w1 (Below.refl _ _)
  go_wp2_with fail
  refine (HBI.out _).mono ?_
  rintro e1 w2 ⟨rfl, rfl⟩
  go_wp2_with fail
  refine (HKD.out w1 (Below.refl _ _)).mono ?_
  rintro e2 w2 ⟨rfl, hb2⟩
  have HB2 : Hid (Below w1.heap.size w1 w2) := Lib.hid hb2
  clear hb2 g1 g2
  obtain ⟨g1, g2⟩ := HBX.out w2 HB2.out
  by_cases hbd : (3 : Int) < a
  · obtain ⟨z1, h1⟩ : ∃ z, (⟨#[40]⟩ : ByteArray) ++ z4 = z := ⟨_, rfl⟩
    obtain ⟨z2, h2⟩ : ∃ z, z1 ++ (⟨#[41]⟩ : ByteArray) = z := ⟨_, rfl⟩
    have s1 : z1.size = 1 + z4.size := by rw [← h1, size_app]; rfl
    have HE2 : Hid (z = z2) := Lib.hid (by rw [HE.out, if_pos hbd, h1, h2])
    have e8 := fun W => str_add (P := Tryd.prog) h1 (by show 1 + z4.size ≤ _; omega) W
    have e9 := fun W => str_add (P := Tryd.prog) h2 (by show z1.size + 1 ≤ _; omega) W
    clear h1 h2 s1
    go_wp2_with fail
    clear g1 g2
    obtain ⟨g1, g2⟩ := HBX.out w2 HB2.out
    go_region_held3 (fun W => W.cell? ⟨w.heap.size, 0, none⟩ = some (.int .i64 5))
      (first | exact (HBX.out _ HB2.out).1 | exact (HBX.out _ HB2.out.drew).1 | exact (HBX.out _ HB3.out).1 | exact (HBX.out _ HB4.out).1 | go_keep)
      (first
        | (go_at_call 19; refine (HL2.out _ HB3.out).mono ?_; rintro e4 w4 ⟨rfl, hb4⟩; have HB4 : Hid (Below w1.heap.size w1 w4) := Lib.hid (HB3.out.trans (hb4.mono HB3.out.size)); clear hb4)
        | (go_at_call 34; refine (HSG.out _).mono ?_; rintro e5 w5 ⟨rfl, rfl⟩)
        | (go_at_call 19; refine (HL1.out _ (by first | exact HB2.out | exact HB2.out.drew)).mono ?_; rintro e3 w3 ⟨rfl, hb3⟩; have HB3 : Hid (Below w1.heap.size w1 w3) := Lib.hid (by first | exact HB2.out.drew.trans (hb3.mono HB2.out.drew.size) | exact HB2.out.trans (hb3.mono HB2.out.size)); clear hb3)
        | fail)
    all_goals
      clear g1 g2
      go_wp2
      go_ret
      exact ⟨by rw [HE2.out]; rfl, HB1.out.trans (HB4.out.mono HB1.out.size)⟩
  · have HE2 : Hid (z = z4) := Lib.hid (by rw [HE.out, if_neg hbd])
    go_wp2_with fail
    clear g1 g2
    obtain ⟨g1, g2⟩ := HBX.out w2 HB2.out
    go_region_held3 (fun W => W.cell? ⟨w.heap.size, 0, none⟩ = some (.int .i64 5))
      (first | exact (HBX.out _ HB2.out).1 | exact (HBX.out _ HB2.out.drew).1 | exact (HBX.out _ HB3.out).1 | exact (HBX.out _ HB4.out).1 | go_keep)
      (first
        | (go_at_call 19; refine (HL2.out _ HB3.out).mono ?_; rintro e4 w4 ⟨rfl, hb4⟩; have HB4 : Hid (Below w1.heap.size w1 w4) := Lib.hid (HB3.out.trans (hb4.mono HB3.out.size)); clear hb4)
        | (go_at_call 34; refine (HSG.out _).mono ?_; rintro e5 w5 ⟨rfl, rfl⟩)
        | (go_at_call 19; refine (HL1.out _ (by first | exact HB2.out | exact HB2.out.drew)).mono ?_; rintro e3 w3 ⟨rfl, hb3⟩; have HB3 : Hid (Below w1.heap.size w1 w3) := Lib.hid (by first | exact HB2.out.drew.trans (hb3.mono HB2.out.drew.size) | exact HB2.out.trans (hb3.mono HB2.out.size)); clear hb3)
        | fail)
    all_goals
      clear g1 g2
      go_wp2
      go_ret
      exact ⟨by rw [HE2.out]; rfl, HB1.out.trans (HB4.out.mono HB1.out.size)⟩
set_option maxRecDepth 20000 in
set_option maxHeartbeats 4000000 in
theorem laid6 (A : Option Addr) (m c : Nat) (NA : Option Addr) (n d : Nat) (e : List (Int × Int)) (N : List ByteArray) (f i : Nat) (q a : Int) (w : World) (HP : LaidC A m c NA n d e N f) (hf : i ≤ f) (h : LdW A m c NA n d e N i 6 q w) (ha : 0 ≤ a ∧ a ≤ 5) :
    Calls Tryd.prog 19 #[.slice A m c, .slice NA n d, .int .i64 i, .int .i64 a] w (StrP (tB e N (f + 1) i a) w) := by
  have H := Lib.hid h
  obtain ⟨b, o, rfl, c1, c2⟩ := node_cells h
  obtain ⟨x1, y1, HXY⟩ : ∃ x1 y1, Hid (kidsF e i = (x1, y1)) := ⟨_, _, Lib.hid rfl⟩
  have hi := h.hi
  have hm := h.ok.mm
  have hii : (i : Int) < (m : Int) := by omega
  obtain ⟨w1, HW1, HB1, HBX⟩ := node_box w 6 q
  have HKD := Lib.hid (fun W (hW : Below w1.heap.size w1 W) => h.kids W (HB1.out.trans (hW.mono HB1.out.size)))
  have HBI := Lib.hid (fun W => refBinds_any (op := 6) (o := ⟨6, [124, 124], 2, 2, 3⟩) rfl W)
  rw [HXY.out] at HKD
  dsimp only at HKD HBI
  obtain ⟨z, HZ⟩ : ∃ z, Hid (tB e N (f + 1) i a = z) := ⟨_, Lib.hid rfl⟩
  rw [HZ.out]
  have HT0 : Hid (z = if (2 : Int) < a then (⟨#[40]⟩ : ByteArray) ++ bB e N f i ⟨6, [124, 124], 2, 2, 3⟩ ++ ⟨#[41]⟩ else bB e N f i ⟨6, [124, 124], 2, 2, 3⟩) := Lib.hid (by
    rw [← HZ.out]
    unfold tB
    rw [txF_some (o := ⟨6, [124, 124], 2, 2, 3⟩) (by rw [H.out.nd]; rfl)]
    unfold bB
    split
    · exact (brack _).symm
    · rfl)
  have hnode := node_of h.ok.is_ (i := i) (by rw [← h.ok.lm]; exact h.hi)
  obtain ⟨k, j, hki, hji, hkk⟩ : ∃ k j : Nat, k < i ∧ j < i ∧ kidsF e i = ((k : Int), (j : Int)) := by
    rcases hnode with ⟨q', h1, _⟩ | ⟨o', ho', _, _, ⟨g1, _⟩ | ⟨_, g2, _⟩ | ⟨_, _, _, j, k, v, h1, h2, _, h3, _⟩⟩
    · rw [h.nd] at h1; cases h1
    · rw [h.nd] at ho'
      obtain rfl : ⟨6, [124, 124], 2, 2, 3⟩ = o' := by injection ho'
      exact absurd g1 (by decide)
    · rw [h.nd] at ho'
      obtain rfl : ⟨6, [124, 124], 2, 2, 3⟩ = o' := by injection ho'
      exact absurd g2 (by decide)
    · exact ⟨k, j, by omega, by omega, h3⟩
  rw [hkk] at HXY
  obtain ⟨HX1, HY1⟩ : Hid ((k : Int) = x1) ∧ Hid ((j : Int) = y1) := ⟨Lib.hid (by have := HXY.out; injection this), Lib.hid (by have := HXY.out; injection this)⟩
  rw [← HX1.out, ← HY1.out] at HKD
  obtain ⟨T1, HT1⟩ : ∃ T, Hid (tB e N f k 2 = T) := ⟨_, Lib.hid rfl⟩
  obtain ⟨T2, HT2⟩ : ∃ T, Hid (tB e N f j 3 = T) := ⟨_, Lib.hid rfl⟩
  have HL1 : Hid (∀ W, Below w1.heap.size w1 W → Calls Tryd.prog 19 #[.slice (some ⟨b, o, none⟩) m c, .slice NA n d, .int .i64 k, .int .i64 2] W (StrP T1 W)) := Lib.hid (fun W hW => by
    have h5 := HP k 2 W (by omega) (by omega) (by decide) (by decide) (h.ok.below (HB1.out.trans (hW.mono HB1.out.size)))
    rw [HT1.out] at h5
    exact h5)
  have HL2 : Hid (∀ W, Below w1.heap.size w1 W → Calls Tryd.prog 19 #[.slice (some ⟨b, o, none⟩) m c, .slice NA n d, .int .i64 j, .int .i64 3] W (StrP T2 W)) := Lib.hid (fun W hW => by
    have h5 := HP j 3 W (by omega) (by omega) (by decide) (by decide) (h.ok.below (HB1.out.trans (hW.mono HB1.out.size)))
    rw [HT2.out] at h5
    exact h5)
  have ht1 : T1.size ≤ 3000 := by rw [← HT1.out]; exact tB_size h.ok f k 2 (by rw [← h.ok.lm]; omega)
  have ht2 : T2.size ≤ 3000 := by rw [← HT2.out]; exact tB_size h.ok f j 3 (by rw [← h.ok.lm]; omega)
  have HSG := Lib.hid (fun W => refSign_any (op := 6) (o := ⟨6, [124, 124], 2, 2, 3⟩) rfl W)
  unfold sgA at HSG
  dsimp only at HSG
  obtain ⟨z1, h1⟩ : ∃ z, T1 ++ (⟨#[32]⟩ : ByteArray) = z := ⟨_, rfl⟩
  obtain ⟨z2, h2⟩ : ∃ z, z1 ++ (⟨#[124, 124]⟩ : ByteArray) = z := ⟨_, rfl⟩
  obtain ⟨z3, h3⟩ : ∃ z, z2 ++ (⟨#[32]⟩ : ByteArray) = z := ⟨_, rfl⟩
  obtain ⟨z4, h4⟩ : ∃ z, z3 ++ T2 = z := ⟨_, rfl⟩
  have s1 : z1.size = T1.size + 1 := by rw [← h1, size_app]; rfl
  have s2 : z2.size ≤ z1.size + 5 := by
    rw [← h2, size_app]
    have : ((⟨#[124, 124]⟩ : ByteArray)).size ≤ 5 := by decide
    omega
  have s3 : z3.size = z2.size + 1 := by rw [← h3, size_app]; rfl
  have s4 : z4.size = z3.size + T2.size := by rw [← h4, size_app]
  have HE : Hid (z = if (2 : Int) < a then (⟨#[40]⟩ : ByteArray) ++ z4 ++ ⟨#[41]⟩ else z4) := Lib.hid (by
    have hb : bB e N f i ⟨6, [124, 124], 2, 2, 3⟩ = z4 := by
      rw [← h4, ← h3, ← h2, ← h1, ← HT1.out, ← HT2.out]
      unfold bB bareF tB
      rw [if_neg (by decide), if_neg (by decide), if_neg (by decide), hkk, show (⟨#[124, 124]⟩ : ByteArray) = ⟨([124, 124] : List UInt8).toArray⟩ from rfl, show (⟨#[32]⟩ : ByteArray) = ⟨[(32 : UInt8)].toArray⟩ from rfl, mk_app, mk_app, mk_app, mk_app]
      simp only [Int.toNat_natCast, List.append_assoc]
    rw [HT0.out, hb])
  have e1 := fun W => str_add (P := Tryd.prog) h1 (by show T1.size + 1 ≤ _; omega) W
  have hsg5 : ((⟨#[124, 124]⟩ : ByteArray)).size ≤ 5 := by decide
  have e2 := fun W => str_add (P := Tryd.prog) h2 (by omega) W
  have e3 := fun W => str_add (P := Tryd.prog) h3 (by show z2.size + 1 ≤ _; omega) W
  have e4 := fun W => str_add (P := Tryd.prog) h4 (by omega) W
  have hz4 : z4.size ≤ 8000 := by omega
  clear h h1 h2 h3 h4 hnode hkk s1 s2 s3 s4 HXY
  go_enter Tryd.func19, Tryd.ntmps19
  go_upto_region 2 with (fail)
  clear HW1 c1 c2
  obtain ⟨g1, g2⟩ := HBX.out w1 (Below.refl _ _)
  go_wp2_with fail
  refine (HBI.out _).mono ?_
  rintro e1 w2 ⟨rfl, rfl⟩
  go_wp2_with fail
  refine (HKD.out w1 (Below.refl _ _)).mono ?_
  rintro e2 w2 ⟨rfl, hb2⟩
  have HB2 : Hid (Below w1.heap.size w1 w2) := Lib.hid hb2
  clear hb2 g1 g2
  obtain ⟨g1, g2⟩ := HBX.out w2 HB2.out
  by_cases hbd : (2 : Int) < a
  · obtain ⟨z1, h1⟩ : ∃ z, (⟨#[40]⟩ : ByteArray) ++ z4 = z := ⟨_, rfl⟩
    obtain ⟨z2, h2⟩ : ∃ z, z1 ++ (⟨#[41]⟩ : ByteArray) = z := ⟨_, rfl⟩
    have s1 : z1.size = 1 + z4.size := by rw [← h1, size_app]; rfl
    have HE2 : Hid (z = z2) := Lib.hid (by rw [HE.out, if_pos hbd, h1, h2])
    have e8 := fun W => str_add (P := Tryd.prog) h1 (by show 1 + z4.size ≤ _; omega) W
    have e9 := fun W => str_add (P := Tryd.prog) h2 (by show z1.size + 1 ≤ _; omega) W
    clear h1 h2 s1
    go_wp2_with fail
    clear g1 g2
    obtain ⟨g1, g2⟩ := HBX.out w2 HB2.out
    go_region_held3 (fun W => W.cell? ⟨w.heap.size, 0, none⟩ = some (.int .i64 6))
      (first | exact (HBX.out _ HB2.out).1 | exact (HBX.out _ HB2.out.drew).1 | exact (HBX.out _ HB3.out).1 | exact (HBX.out _ HB4.out).1 | go_keep)
      (first
        | (go_at_call 19; refine (HL2.out _ HB3.out).mono ?_; rintro e4 w4 ⟨rfl, hb4⟩; have HB4 : Hid (Below w1.heap.size w1 w4) := Lib.hid (HB3.out.trans (hb4.mono HB3.out.size)); clear hb4)
        | (go_at_call 34; refine (HSG.out _).mono ?_; rintro e5 w5 ⟨rfl, rfl⟩)
        | (go_at_call 19; refine (HL1.out _ (by first | exact HB2.out | exact HB2.out.drew)).mono ?_; rintro e3 w3 ⟨rfl, hb3⟩; have HB3 : Hid (Below w1.heap.size w1 w3) := Lib.hid (by first | exact HB2.out.drew.trans (hb3.mono HB2.out.drew.size) | exact HB2.out.trans (hb3.mono HB2.out.size)); clear hb3)
        | fail)
    all_goals
      clear g1 g2
      go_wp2
      go_ret
      exact ⟨by rw [HE2.out]; rfl, HB1.out.trans (HB4.out.mono HB1.out.size)⟩
  · have HE2 : Hid (z = z4) := Lib.hid (by rw [HE.out, if_neg hbd])
    go_wp2_with fail
    clear g1 g2
    obtain ⟨g1, g2⟩ := HBX.out w2 HB2.out
    go_region_held3 (fun W => W.cell? ⟨w.heap.size, 0, none⟩ = some (.int .i64 6))
      (first | exact (HBX.out _ HB2.out).1 | exact (HBX.out _ HB2.out.drew).1 | exact (HBX.out _ HB3.out).1 | exact (HBX.out _ HB4.out).1 | go_keep)
      (first
        | (go_at_call 19; refine (HL2.out _ HB3.out).mono ?_; rintro e4 w4 ⟨rfl, hb4⟩; have HB4 : Hid (Below w1.heap.size w1 w4) := Lib.hid (HB3.out.trans (hb4.mono HB3.out.size)); clear hb4)
        | (go_at_call 34; refine (HSG.out _).mono ?_; rintro e5 w5 ⟨rfl, rfl⟩)
        | (go_at_call 19; refine (HL1.out _ (by first | exact HB2.out | exact HB2.out.drew)).mono ?_; rintro e3 w3 ⟨rfl, hb3⟩; have HB3 : Hid (Below w1.heap.size w1 w3) := Lib.hid (by first | exact HB2.out.drew.trans (hb3.mono HB2.out.drew.size) | exact HB2.out.trans (hb3.mono HB2.out.size)); clear hb3)
        | fail)
    all_goals
      clear g1 g2
      go_wp2
      go_ret
      exact ⟨by rw [HE2.out]; rfl, HB1.out.trans (HB4.out.mono HB1.out.size)⟩
set_option maxRecDepth 20000 in
set_option maxHeartbeats 4000000 in
theorem laid7 (A : Option Addr) (m c : Nat) (NA : Option Addr) (n d : Nat) (e : List (Int × Int)) (N : List ByteArray) (f i : Nat) (q a : Int) (w : World) (HP : LaidC A m c NA n d e N f) (hf : i ≤ f) (h : LdW A m c NA n d e N i 7 q w) (ha : 0 ≤ a ∧ a ≤ 5) :
    Calls Tryd.prog 19 #[.slice A m c, .slice NA n d, .int .i64 i, .int .i64 a] w (StrP (tB e N (f + 1) i a) w) := by
  have H := Lib.hid h
  obtain ⟨b, o, rfl, c1, c2⟩ := node_cells h
  obtain ⟨x1, y1, HXY⟩ : ∃ x1 y1, Hid (kidsF e i = (x1, y1)) := ⟨_, _, Lib.hid rfl⟩
  have hi := h.hi
  have hm := h.ok.mm
  have hii : (i : Int) < (m : Int) := by omega
  obtain ⟨w1, HW1, HB1, HBX⟩ := node_box w 7 q
  have HKD := Lib.hid (fun W (hW : Below w1.heap.size w1 W) => h.kids W (HB1.out.trans (hW.mono HB1.out.size)))
  have HBI := Lib.hid (fun W => refBinds_any (op := 7) (o := ⟨7, [61, 62], 1, 2, 1⟩) rfl W)
  rw [HXY.out] at HKD
  dsimp only at HKD HBI
  obtain ⟨z, HZ⟩ : ∃ z, Hid (tB e N (f + 1) i a = z) := ⟨_, Lib.hid rfl⟩
  rw [HZ.out]
  have HT0 : Hid (z = if (1 : Int) < a then (⟨#[40]⟩ : ByteArray) ++ bB e N f i ⟨7, [61, 62], 1, 2, 1⟩ ++ ⟨#[41]⟩ else bB e N f i ⟨7, [61, 62], 1, 2, 1⟩) := Lib.hid (by
    rw [← HZ.out]
    unfold tB
    rw [txF_some (o := ⟨7, [61, 62], 1, 2, 1⟩) (by rw [H.out.nd]; rfl)]
    unfold bB
    split
    · exact (brack _).symm
    · rfl)
  have hnode := node_of h.ok.is_ (i := i) (by rw [← h.ok.lm]; exact h.hi)
  obtain ⟨k, j, hki, hji, hkk⟩ : ∃ k j : Nat, k < i ∧ j < i ∧ kidsF e i = ((k : Int), (j : Int)) := by
    rcases hnode with ⟨q', h1, _⟩ | ⟨o', ho', _, _, ⟨g1, _⟩ | ⟨_, g2, _⟩ | ⟨_, _, _, j, k, v, h1, h2, _, h3, _⟩⟩
    · rw [h.nd] at h1; cases h1
    · rw [h.nd] at ho'
      obtain rfl : ⟨7, [61, 62], 1, 2, 1⟩ = o' := by injection ho'
      exact absurd g1 (by decide)
    · rw [h.nd] at ho'
      obtain rfl : ⟨7, [61, 62], 1, 2, 1⟩ = o' := by injection ho'
      exact absurd g2 (by decide)
    · exact ⟨k, j, by omega, by omega, h3⟩
  rw [hkk] at HXY
  obtain ⟨HX1, HY1⟩ : Hid ((k : Int) = x1) ∧ Hid ((j : Int) = y1) := ⟨Lib.hid (by have := HXY.out; injection this), Lib.hid (by have := HXY.out; injection this)⟩
  rw [← HX1.out, ← HY1.out] at HKD
  obtain ⟨T1, HT1⟩ : ∃ T, Hid (tB e N f k 2 = T) := ⟨_, Lib.hid rfl⟩
  obtain ⟨T2, HT2⟩ : ∃ T, Hid (tB e N f j 1 = T) := ⟨_, Lib.hid rfl⟩
  have HL1 : Hid (∀ W, Below w1.heap.size w1 W → Calls Tryd.prog 19 #[.slice (some ⟨b, o, none⟩) m c, .slice NA n d, .int .i64 k, .int .i64 2] W (StrP T1 W)) := Lib.hid (fun W hW => by
    have h5 := HP k 2 W (by omega) (by omega) (by decide) (by decide) (h.ok.below (HB1.out.trans (hW.mono HB1.out.size)))
    rw [HT1.out] at h5
    exact h5)
  have HL2 : Hid (∀ W, Below w1.heap.size w1 W → Calls Tryd.prog 19 #[.slice (some ⟨b, o, none⟩) m c, .slice NA n d, .int .i64 j, .int .i64 1] W (StrP T2 W)) := Lib.hid (fun W hW => by
    have h5 := HP j 1 W (by omega) (by omega) (by decide) (by decide) (h.ok.below (HB1.out.trans (hW.mono HB1.out.size)))
    rw [HT2.out] at h5
    exact h5)
  have ht1 : T1.size ≤ 3000 := by rw [← HT1.out]; exact tB_size h.ok f k 2 (by rw [← h.ok.lm]; omega)
  have ht2 : T2.size ≤ 3000 := by rw [← HT2.out]; exact tB_size h.ok f j 1 (by rw [← h.ok.lm]; omega)
  have HSG := Lib.hid (fun W => refSign_any (op := 7) (o := ⟨7, [61, 62], 1, 2, 1⟩) rfl W)
  unfold sgA at HSG
  dsimp only at HSG
  obtain ⟨z1, h1⟩ : ∃ z, T1 ++ (⟨#[32]⟩ : ByteArray) = z := ⟨_, rfl⟩
  obtain ⟨z2, h2⟩ : ∃ z, z1 ++ (⟨#[61, 62]⟩ : ByteArray) = z := ⟨_, rfl⟩
  obtain ⟨z3, h3⟩ : ∃ z, z2 ++ (⟨#[32]⟩ : ByteArray) = z := ⟨_, rfl⟩
  obtain ⟨z4, h4⟩ : ∃ z, z3 ++ T2 = z := ⟨_, rfl⟩
  have s1 : z1.size = T1.size + 1 := by rw [← h1, size_app]; rfl
  have s2 : z2.size ≤ z1.size + 5 := by
    rw [← h2, size_app]
    have : ((⟨#[61, 62]⟩ : ByteArray)).size ≤ 5 := by decide
    omega
  have s3 : z3.size = z2.size + 1 := by rw [← h3, size_app]; rfl
  have s4 : z4.size = z3.size + T2.size := by rw [← h4, size_app]
  have HE : Hid (z = if (1 : Int) < a then (⟨#[40]⟩ : ByteArray) ++ z4 ++ ⟨#[41]⟩ else z4) := Lib.hid (by
    have hb : bB e N f i ⟨7, [61, 62], 1, 2, 1⟩ = z4 := by
      rw [← h4, ← h3, ← h2, ← h1, ← HT1.out, ← HT2.out]
      unfold bB bareF tB
      rw [if_neg (by decide), if_neg (by decide), if_neg (by decide), hkk, show (⟨#[61, 62]⟩ : ByteArray) = ⟨([61, 62] : List UInt8).toArray⟩ from rfl, show (⟨#[32]⟩ : ByteArray) = ⟨[(32 : UInt8)].toArray⟩ from rfl, mk_app, mk_app, mk_app, mk_app]
      simp only [Int.toNat_natCast, List.append_assoc]
    rw [HT0.out, hb])
  have e1 := fun W => str_add (P := Tryd.prog) h1 (by show T1.size + 1 ≤ _; omega) W
  have hsg5 : ((⟨#[61, 62]⟩ : ByteArray)).size ≤ 5 := by decide
  have e2 := fun W => str_add (P := Tryd.prog) h2 (by omega) W
  have e3 := fun W => str_add (P := Tryd.prog) h3 (by show z2.size + 1 ≤ _; omega) W
  have e4 := fun W => str_add (P := Tryd.prog) h4 (by omega) W
  have hz4 : z4.size ≤ 8000 := by omega
  clear h h1 h2 h3 h4 hnode hkk s1 s2 s3 s4 HXY
  go_enter Tryd.func19, Tryd.ntmps19
  go_upto_region 2 with (fail)
  clear HW1 c1 c2
  obtain ⟨g1, g2⟩ := HBX.out w1 (Below.refl _ _)
  go_wp2_with fail
  refine (HBI.out _).mono ?_
  rintro e1 w2 ⟨rfl, rfl⟩
  go_wp2_with fail
  refine (HKD.out w1 (Below.refl _ _)).mono ?_
  rintro e2 w2 ⟨rfl, hb2⟩
  have HB2 : Hid (Below w1.heap.size w1 w2) := Lib.hid hb2
  clear hb2 g1 g2
  obtain ⟨g1, g2⟩ := HBX.out w2 HB2.out
  by_cases hbd : (1 : Int) < a
  · obtain ⟨z1, h1⟩ : ∃ z, (⟨#[40]⟩ : ByteArray) ++ z4 = z := ⟨_, rfl⟩
    obtain ⟨z2, h2⟩ : ∃ z, z1 ++ (⟨#[41]⟩ : ByteArray) = z := ⟨_, rfl⟩
    have s1 : z1.size = 1 + z4.size := by rw [← h1, size_app]; rfl
    have HE2 : Hid (z = z2) := Lib.hid (by rw [HE.out, if_pos hbd, h1, h2])
    have e8 := fun W => str_add (P := Tryd.prog) h1 (by show 1 + z4.size ≤ _; omega) W
    have e9 := fun W => str_add (P := Tryd.prog) h2 (by show z1.size + 1 ≤ _; omega) W
    clear h1 h2 s1
    go_wp2_with fail
    clear g1 g2
    obtain ⟨g1, g2⟩ := HBX.out w2 HB2.out
    go_region_held3 (fun W => W.cell? ⟨w.heap.size, 0, none⟩ = some (.int .i64 7))
      (first | exact (HBX.out _ HB2.out).1 | exact (HBX.out _ HB2.out.drew).1 | exact (HBX.out _ HB3.out).1 | exact (HBX.out _ HB4.out).1 | go_keep)
      (first
        | (go_at_call 19; refine (HL2.out _ HB3.out).mono ?_; rintro e4 w4 ⟨rfl, hb4⟩; have HB4 : Hid (Below w1.heap.size w1 w4) := Lib.hid (HB3.out.trans (hb4.mono HB3.out.size)); clear hb4)
        | (go_at_call 34; refine (HSG.out _).mono ?_; rintro e5 w5 ⟨rfl, rfl⟩)
        | (go_at_call 19; refine (HL1.out _ (by first | exact HB2.out | exact HB2.out.drew)).mono ?_; rintro e3 w3 ⟨rfl, hb3⟩; have HB3 : Hid (Below w1.heap.size w1 w3) := Lib.hid (by first | exact HB2.out.drew.trans (hb3.mono HB2.out.drew.size) | exact HB2.out.trans (hb3.mono HB2.out.size)); clear hb3)
        | fail)
    all_goals
      clear g1 g2
      go_wp2
      go_ret
      exact ⟨by rw [HE2.out]; rfl, HB1.out.trans (HB4.out.mono HB1.out.size)⟩
  · have HE2 : Hid (z = z4) := Lib.hid (by rw [HE.out, if_neg hbd])
    go_wp2_with fail
    clear g1 g2
    obtain ⟨g1, g2⟩ := HBX.out w2 HB2.out
    go_region_held3 (fun W => W.cell? ⟨w.heap.size, 0, none⟩ = some (.int .i64 7))
      (first | exact (HBX.out _ HB2.out).1 | exact (HBX.out _ HB2.out.drew).1 | exact (HBX.out _ HB3.out).1 | exact (HBX.out _ HB4.out).1 | go_keep)
      (first
        | (go_at_call 19; refine (HL2.out _ HB3.out).mono ?_; rintro e4 w4 ⟨rfl, hb4⟩; have HB4 : Hid (Below w1.heap.size w1 w4) := Lib.hid (HB3.out.trans (hb4.mono HB3.out.size)); clear hb4)
        | (go_at_call 34; refine (HSG.out _).mono ?_; rintro e5 w5 ⟨rfl, rfl⟩)
        | (go_at_call 19; refine (HL1.out _ (by first | exact HB2.out | exact HB2.out.drew)).mono ?_; rintro e3 w3 ⟨rfl, hb3⟩; have HB3 : Hid (Below w1.heap.size w1 w3) := Lib.hid (by first | exact HB2.out.drew.trans (hb3.mono HB2.out.drew.size) | exact HB2.out.trans (hb3.mono HB2.out.size)); clear hb3)
        | fail)
    all_goals
      clear g1 g2
      go_wp2
      go_ret
      exact ⟨by rw [HE2.out]; rfl, HB1.out.trans (HB4.out.mono HB1.out.size)⟩
end Go.Proofs.YtgnflnfajkoibaaDoor.tx
