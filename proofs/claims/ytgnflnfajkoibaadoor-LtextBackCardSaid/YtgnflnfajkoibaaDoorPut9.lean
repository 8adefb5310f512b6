/- Contracts that the claim stands on, several texts in one: LtxRefL1. -/
import Derived.Deep.RegionHeld3
import Derived.Test.YtgnflnfajkoibaaDoorPut1
import Derived.Test.YtgnflnfajkoibaaDoorPut2
import Derived.Test.YtgnflnfajkoibaaDoorPut3
import Derived.Test.YtgnflnfajkoibaaDoorPut4
import Derived.Test.YtgnflnfajkoibaaDoorPut5
import Derived.Test.YtgnflnfajkoibaaDoorPut6
import Derived.Test.YtgnflnfajkoibaaDoorPut7
import Derived.Test.YtgnflnfajkoibaaDoorPut8
namespace Go.Proofs.YtgnflnfajkoibaaDoor.tx
open Go.ChangeShapes Go.WideShapes Go.ChangeAt Go.RowKit Go.Deep sr lt

/-- laid, of fuel f. -/
def LaidC (A : Option Addr) (m c : Nat) (NA : Option Addr) (n d : Nat) (e : List (Int × Int)) (N : List ByteArray) (f : Nat) : Prop :=
  ∀ (i : Nat) (a : Int) (w : World), i < f → i < m → 0 ≤ a → a ≤ 5 → WrOk w A m c NA n d e N → Calls Tryd.prog 19 #[.slice A m c, .slice NA n d, .int .i64 i, .int .i64 a] w (StrP (tB e N f i a) w)
/-- What a walk of laid finds: the node, how it binds, its parts. -/
structure LdW (A : Option Addr) (m c : Nat) (NA : Option Addr) (n d : Nat) (e : List (Int × Int)) (N : List ByteArray) (i : Nat) (op q : Int) (w : World) : Prop where
  ok : WrOk w A m c NA n d e N
  nd : e.getD i (0, 0) = (op, q)
  hi : i < m
theorem LdW.kids {A : Option Addr} {m c : Nat} {NA : Option Addr} {n d : Nat} {e : List (Int × Int)} {N : List ByteArray} {i : Nat} {op q : Int} {w : World} (h : LdW A m c NA n d e N i op q w) (W : World) (hW : Below w.heap.size w W) :
    Calls Tryd.prog 33 #[.slice A m c, .int .i64 i] W fun x w' => x = .returned (.tuple #[.int .i64 (kidsF e i).1, .int .i64 (kidsF e i).2]) ∧ Below W.heap.size W w' :=
  refKids_any e i A c m W h.ok.lm (by have := h.ok.mm; omega) (h.ok.pa.below hW)
theorem node_cells {A : Option Addr} {m c : Nat} {NA : Option Addr} {n d : Nat} {e : List (Int × Int)} {N : List ByteArray} {i : Nat} {op q : Int} {w : World} (h : LdW A m c NA n d e N i op q w) : ∃ b o, A = some ⟨b, o, none⟩ ∧ w.cell? ⟨b, o + i * 2, none⟩ = some (.int .i64 op) ∧ w.cell? ⟨b, o + i * 2 + 1, none⟩ = some (.int .i64 q) := by
  have hie : i < e.length := by rw [← h.ok.lm]; exact h.hi
  obtain ⟨b, o, e1, hb, hc⟩ := h.ok.pa (by omega)
  obtain ⟨c1, c2⟩ := hc i hie
  rw [h.nd] at c1 c2
  exact ⟨b, o, e1, c1, c2⟩
theorem node_box (w : World) (op q : Int) : ∃ w1, w.alloc (.cells #[.int .i64 op, .int .i64 q] 39) = w1 ∧ Hid (Below w.heap.size w w1) ∧ Hid (∀ W, Below w1.heap.size w1 W → W.cell? ⟨w.heap.size, 0, none⟩ = some (.int .i64 op) ∧ W.cell? ⟨w.heap.size, 1, none⟩ = some (.int .i64 q)) := by
  have e : (w.alloc (.cells #[.int .i64 op, .int .i64 q] 39)).heap.size = w.heap.size + 1 := by simp
  exact ⟨_, rfl, Lib.hid (below_one _ _), Lib.hid (fun W h => ⟨(h.cell (p := ⟨w.heap.size, 0, none⟩) (by show w.heap.size < _; omega)).trans (World.cell?_alloc_at _ _ _ _ (by simp)), (h.cell (p := ⟨w.heap.size, 1, none⟩) (by show w.heap.size < _; omega)).trans (World.cell?_alloc_at _ _ _ _ (by simp))⟩)⟩
set_option maxRecDepth 20000 in
set_option maxHeartbeats 4000000 in
theorem laid3 (A : Option Addr) (m c : Nat) (NA : Option Addr) (n d : Nat) (e : List (Int × Int)) (N : List ByteArray) (f i : Nat) (q a : Int) (w : World) (h : LdW A m c NA n d e N i 3 q w) (ha : 0 ≤ a ∧ a ≤ 5) :
    Calls Tryd.prog 19 #[.slice A m c, .slice NA n d, .int .i64 i, .int .i64 a] w (StrP (tB e N (f + 1) i a) w) := by
  have H := Lib.hid h
  obtain ⟨b, o, rfl, c1, c2⟩ := node_cells h
  obtain ⟨x1, y1, HXY⟩ : ∃ x1 y1, Hid (kidsF e i = (x1, y1)) := ⟨_, _, Lib.hid rfl⟩
  have hi := h.hi
  have hm := h.ok.mm
  have hii : (i : Int) < (m : Int) := by omega
  obtain ⟨w1, HW1, HB1, HBX⟩ := node_box w 3 q
  have HKD := Lib.hid (fun W (hW : Below w1.heap.size w1 W) => h.kids W (HB1.out.trans (hW.mono HB1.out.size)))
  have HBI := Lib.hid (fun W => refBinds_prop W)
  rw [HXY.out] at HKD
  dsimp only at HKD HBI
  have h3 : 0 ≤ q := by
    rcases node_of h.ok.is_ (i := i) (by rw [← h.ok.lm]; exact h.hi) with ⟨q', h1, h2, _⟩ | ⟨o', h1, _⟩
    · rw [h.nd] at h1; injection h1 with h4 h5; rw [h5]; exact h2
    · rw [h.nd] at h1; cases h1
  obtain ⟨k, rfl⟩ : ∃ k : Nat, q = k := ⟨q.toNat, by omega⟩
  have hok := h.ok.ok i k (by rw [← h.ok.lm]; exact h.hi) h.nd
  rw [Int.toNat_natCast] at hok
  have hkn : k < n := hok.1
  have hkni : (k : Int) < (n : Int) := by omega
  obtain ⟨nb, no, rfl, hnb, hnc⟩ := str_at h.ok.nm.rs (i := k) (by rw [← h.ok.nm.ln]; exact hkn)
  obtain ⟨s, HS⟩ : ∃ s, Hid (N.getD k default = s) := ⟨_, Lib.hid rfl⟩
  rw [HS.out] at hnc
  have HE : Hid (tB e N (f + 1) i a = s) := Lib.hid (by
    unfold tB
    rw [txF_none (by rw [h.nd]; rfl), h.nd]
    show (⟨((NL N).getD (k : Int).toNat []).toArray⟩ : ByteArray) = s
    rw [Int.toNat_natCast, NL_at, HS.out, mk_data])
  have HNC : Hid (∀ W, Below w.heap.size w W → W.cell? ⟨nb, no + k, none⟩ = some (.string s)) := Lib.hid (fun W hW => (hW.cell (p := ⟨nb, no + k, none⟩) hnb).trans hnc)
  rw [HE.out]
  clear h hok hnc h3
  go_enter Tryd.func19, Tryd.ntmps19
  go_upto_region 2 with (fail)
  clear HW1 c1 c2
  obtain ⟨g1, g2⟩ := HBX.out w1 (Below.refl _ _)
  go_wp2_with fail
  refine (HBI.out _).mono ?_
  rintro e1 w2 ⟨rfl, rfl⟩
  go_wp2_with fail
  refine (HKD.out w1 (Below.refl _ _)).mono ?_
  rintro e2 w2 ⟨rfl, hb2⟩
  have HB2 : Hid (Below w1.heap.size w1 w2) := Lib.hid hb2
  clear hb2 g1 g2
  obtain ⟨g1, g2⟩ := HBX.out w2 HB2.out
  have c3 := HNC.out w2 (HB1.out.trans (HB2.out.mono HB1.out.size))
  have hna : ¬ (5 : Int) < a := by omega
  go_wp2
  go_ret
  exact ⟨rfl, HB1.out.trans (HB2.out.mono HB1.out.size)⟩
set_option maxRecDepth 20000 in
set_option maxHeartbeats 4000000 in
theorem laid1 (A : Option Addr) (m c : Nat) (NA : Option Addr) (n d : Nat) (e : List (Int × Int)) (N : List ByteArray) (f i : Nat) (q a : Int) (w : World) (h : LdW A m c NA n d e N i 1 q w) (ha : 0 ≤ a ∧ a ≤ 5) :
    Calls Tryd.prog 19 #[.slice A m c, .slice NA n d, .int .i64 i, .int .i64 a] w (StrP (tB e N (f + 1) i a) w) := by
  have H := Lib.hid h
  obtain ⟨b, o, rfl, c1, c2⟩ := node_cells h
  obtain ⟨x1, y1, HXY⟩ : ∃ x1 y1, Hid (kidsF e i = (x1, y1)) := ⟨_, _, Lib.hid rfl⟩
  have hi := h.hi
  have hm := h.ok.mm
  have hii : (i : Int) < (m : Int) := by omega
  obtain ⟨w1, HW1, HB1, HBX⟩ := node_box w 1 q
  have HKD := Lib.hid (fun W (hW : Below w1.heap.size w1 W) => h.kids W (HB1.out.trans (hW.mono HB1.out.size)))
  have HBI := Lib.hid (fun W => refBinds_any (op := 1) (o := ⟨1, [116, 114, 117, 101], 5, 0, 0⟩) rfl W)
  rw [HXY.out] at HKD
  dsimp only at HKD HBI
  obtain ⟨z, HZ⟩ : ∃ z, Hid (tB e N (f + 1) i a = z) := ⟨_, Lib.hid rfl⟩
  rw [HZ.out]
  have HT0 : Hid (z = if (5 : Int) < a then (⟨#[40]⟩ : ByteArray) ++ bB e N f i ⟨1, [116, 114, 117, 101], 5, 0, 0⟩ ++ ⟨#[41]⟩ else bB e N f i ⟨1, [116, 114, 117, 101], 5, 0, 0⟩) := Lib.hid (by
    rw [← HZ.out]
    unfold tB
    rw [txF_some (o := ⟨1, [116, 114, 117, 101], 5, 0, 0⟩) (by rw [H.out.nd]; rfl)]
    unfold bB
    split
    · exact (brack _).symm
    · rfl)
  have HB : Hid (bB e N f i ⟨1, [116, 114, 117, 101], 5, 0, 0⟩ = (⟨#[116, 114, 117, 101]⟩ : ByteArray)) := Lib.hid rfl
  obtain ⟨B, HBB⟩ : ∃ B, Hid ((⟨#[116, 114, 117, 101]⟩ : ByteArray) = B) := ⟨_, Lib.hid rfl⟩
  have HE : Hid (z = if (5 : Int) < a then (⟨#[40]⟩ : ByteArray) ++ B ++ ⟨#[41]⟩ else B) := Lib.hid (by rw [HT0.out, HB.out, HBB.out])
  have hna : ¬ (5 : Int) < a := by omega
  have HE2 : Hid (z = B) := Lib.hid (by rw [HE.out, if_neg hna])
  have HSG := Lib.hid (fun W => refSign_any (op := 1) (o := ⟨1, [116, 114, 117, 101], 5, 0, 0⟩) rfl W)
  clear h
  go_enter Tryd.func19, Tryd.ntmps19
  go_upto_region 2 with (fail)
  clear HW1 c1 c2
  obtain ⟨g1, g2⟩ := HBX.out w1 (Below.refl _ _)
  go_wp2_with fail
  refine (HBI.out _).mono ?_
  rintro e1 w2 ⟨rfl, rfl⟩
  go_wp2_with fail
  refine (HKD.out w1 (Below.refl _ _)).mono ?_
  rintro e2 w2 ⟨rfl, hb2⟩
  have HB2 : Hid (Below w1.heap.size w1 w2) := Lib.hid hb2
  clear hb2 g1 g2
  obtain ⟨g1, g2⟩ := HBX.out w2 HB2.out
  go_wp2_with fail
  refine (HSG.out _).mono ?_
  rintro e3 w3 ⟨rfl, rfl⟩
  unfold sgA
  dsimp only
  go_wp2
  go_ret
  exact ⟨by rw [HE2.out, ← HBB.out]; rfl, HB1.out.trans (HB2.out.mono HB1.out.size)⟩
set_option maxRecDepth 20000 in
set_option maxHeartbeats 4000000 in
theorem laid2 (A : Option Addr) (m c : Nat) (NA : Option Addr) (n d : Nat) (e : List (Int × Int)) (N : List ByteArray) (f i : Nat) (q a : Int) (w : World) (h : LdW A m c NA n d e N i 2 q w) (ha : 0 ≤ a ∧ a ≤ 5) :
    Calls Tryd.prog 19 #[.slice A m c, .slice NA n d, .int .i64 i, .int .i64 a] w (StrP (tB e N (f + 1) i a) w) := by
  have H := Lib.hid h
  obtain ⟨b, o, rfl, c1, c2⟩ := node_cells h
  obtain ⟨x1, y1, HXY⟩ : ∃ x1 y1, Hid (kidsF e i = (x1, y1)) := ⟨_, _, Lib.hid rfl⟩
  have hi := h.hi
  have hm := h.ok.mm
  have hii : (i : Int) < (m : Int) := by omega
  obtain ⟨w1, HW1, HB1, HBX⟩ := node_box w 2 q
  have HKD := Lib.hid (fun W (hW : Below w1.heap.size w1 W) => h.kids W (HB1.out.trans (hW.mono HB1.out.size)))
  have HBI := Lib.hid (fun W => refBinds_any (op := 2) (o := ⟨2, [102, 97, 108, 115, 101], 5, 0, 0⟩) rfl W)
  rw [HXY.out] at HKD
  dsimp only at HKD HBI
  obtain ⟨z, HZ⟩ : ∃ z, Hid (tB e N (f + 1) i a = z) := ⟨_, Lib.hid rfl⟩
  rw [HZ.out]
  have HT0 : Hid (z = if (5 : Int) < a then (⟨#[40]⟩ : ByteArray) ++ bB e N f i ⟨2, [102, 97, 108, 115, 101], 5, 0, 0⟩ ++ ⟨#[41]⟩ else bB e N f i ⟨2, [102, 97, 108, 115, 101], 5, 0, 0⟩) := Lib.hid (by
    rw [← HZ.out]
    unfold tB
    rw [txF_some (o := ⟨2, [102, 97, 108, 115, 101], 5, 0, 0⟩) (by rw [H.out.nd]; rfl)]
    unfold bB
    split
    · exact (brack _).symm
    · rfl)
  have HB : Hid (bB e N f i ⟨2, [102, 97, 108, 115, 101], 5, 0, 0⟩ = (⟨#[102, 97, 108, 115, 101]⟩ : ByteArray)) := Lib.hid rfl
  obtain ⟨B, HBB⟩ : ∃ B, Hid ((⟨#[102, 97, 108, 115, 101]⟩ : ByteArray) = B) := ⟨_, Lib.hid rfl⟩
  have HE : Hid (z = if (5 : Int) < a then (⟨#[40]⟩ : ByteArray) ++ B ++ ⟨#[41]⟩ else B) := Lib.hid (by rw [HT0.out, HB.out, HBB.out])
  have hna : ¬ (5 : Int) < a := by omega
  have HE2 : Hid (z = B) := Lib.hid (by rw [HE.out, if_neg hna])
  have HSG := Lib.hid (fun W => refSign_any (op := 2) (o := ⟨2, [102, 97, 108, 115, 101], 5, 0, 0⟩) rfl W)
  clear h
  go_enter Tryd.func19, Tryd.ntmps19
  go_upto_region 2 with (fail)
  clear HW1 c1 c2
  obtain ⟨g1, g2⟩ := HBX.out w1 (Below.refl _ _)
  go_wp2_with fail
  refine (HBI.out _).mono ?_
  rintro e1 w2 ⟨rfl, rfl⟩
  go_wp2_with fail
  refine (HKD.out w1 (Below.refl _ _)).mono ?_
  rintro e2 w2 ⟨rfl, hb2⟩
  have HB2 : Hid (Below w1.heap.size w1 w2) := Lib.hid hb2
  clear hb2 g1 g2
  obtain ⟨g1, g2⟩ := HBX.out w2 HB2.out
  go_wp2_with fail
  refine (HSG.out _).mono ?_
  rintro e3 w3 ⟨rfl, rfl⟩
  unfold sgA
  dsimp only
  go_wp2
  go_ret
  exact ⟨by rw [HE2.out, ← HBB.out]; rfl, HB1.out.trans (HB2.out.mono HB1.out.size)⟩
set_option maxRecDepth 20000 in
set_option maxHeartbeats 4000000 in
theorem laid4 (A : Option Addr) (m c : Nat) (NA : Option Addr) (n d : Nat) (e : List (Int × Int)) (N : List ByteArray) (f i : Nat) (q a : Int) (w : World) (HP : LaidC A m c NA n d e N f) (hf : i ≤ f) (h : LdW A m c NA n d e N i 4 q w) (ha : 0 ≤ a ∧ a ≤ 5) :
    Calls Tryd.prog 19 #[.slice A m c, .slice NA n d, .int .i64 i, .int .i64 a] w (StrP (tB e N (f + 1) i a) w) := by
  have H := Lib.hid h
  obtain ⟨b, o, rfl, c1, c2⟩ := node_cells h
  obtain ⟨x1, y1, HXY⟩ : ∃ x1 y1, Hid (kidsF e i = (x1, y1)) := ⟨_, _, Lib.hid rfl⟩
  have hi := h.hi
  have hm := h.ok.mm
  have hii : (i : Int) < (m : Int) := by omega
  obtain ⟨w1, HW1, HB1, HBX⟩ := node_box w 4 q
  have HKD := Lib.hid (fun W (hW : Below w1.heap.size w1 W) => h.kids W (HB1.out.trans (hW.mono HB1.out.size)))
  have HBI := Lib.hid (fun W => refBinds_any (op := 4) (o := ⟨4, [33], 5, 0, 5⟩) rfl W)
  rw [HXY.out] at HKD
  dsimp only at HKD HBI
  obtain ⟨z, HZ⟩ : ∃ z, Hid (tB e N (f + 1) i a = z) := ⟨_, Lib.hid rfl⟩
  rw [HZ.out]
  have HT0 : Hid (z = if (5 : Int) < a then (⟨#[40]⟩ : ByteArray) ++ bB e N f i ⟨4, [33], 5, 0, 5⟩ ++ ⟨#[41]⟩ else bB e N f i ⟨4, [33], 5, 0, 5⟩) := Lib.hid (by
    rw [← HZ.out]
    unfold tB
    rw [txF_some (o := ⟨4, [33], 5, 0, 5⟩) (by rw [H.out.nd]; rfl)]
    unfold bB
    split
    · exact (brack _).symm
    · rfl)
  have hnode := node_of h.ok.is_ (i := i) (by rw [← h.ok.lm]; exact h.hi)
  obtain ⟨j, hij⟩ : ∃ j : Nat, i = j + 1 ∧ kidsF e i = ((j : Int), -1) := by
    rcases hnode with ⟨q', h1, _⟩ | ⟨o', ho', _, _, ⟨g1, _⟩ | ⟨_, _, j, v, h1, _, h2, _⟩ | ⟨_, g2, _⟩⟩
    · rw [h.nd] at h1; cases h1
    · rw [h.nd] at ho'
      obtain rfl : ⟨4, [33], 5, 0, 5⟩ = o' := by injection ho'
      exact absurd g1 (by decide)
    · exact ⟨j, h1, h2⟩
    · rw [h.nd] at ho'
      obtain rfl : ⟨4, [33], 5, 0, 5⟩ = o' := by injection ho'
      exact absurd rfl g2
  obtain ⟨HIJ, HKJ⟩ : Hid (i = j + 1) ∧ Hid (kidsF e i = ((j : Int), -1)) := ⟨Lib.hid hij.1, Lib.hid hij.2⟩
  have hij2 : (i : Int) - 1 = (j : Int) := by have := hij.1; omega
  obtain ⟨T, HT⟩ : ∃ T, Hid (tB e N f j 5 = T) := ⟨_, Lib.hid rfl⟩
  have HLD : Hid (∀ W, Below w1.heap.size w1 W → Calls Tryd.prog 19 #[.slice (some ⟨b, o, none⟩) m c, .slice NA n d, .int .i64 j, .int .i64 5] W (StrP T W)) := Lib.hid (fun W hW => by
    have h5 := HP j 5 W (by have := hij.1; omega) (by have := hij.1; omega) (by decide) (by decide) (h.ok.below (HB1.out.trans (hW.mono HB1.out.size)))
    rw [HT.out] at h5
    exact h5)
  have HTS : Hid (T.size ≤ 3000) := Lib.hid (by rw [← HT.out]; exact tB_size h.ok f j 5 (by have := hij.1; rw [← h.ok.lm]; omega))
  have hts := HTS.out
  have hna : ¬ (5 : Int) < a := by omega
  obtain ⟨z1, h1⟩ : ∃ z, (⟨#[33]⟩ : ByteArray) ++ T = z := ⟨_, rfl⟩
  have HE : Hid (z = z1) := Lib.hid (by
    rw [HT0.out, if_neg hna, ← h1, ← HT.out]
    unfold bB bareF tB
    rw [if_neg (by decide), if_pos rfl, HKJ.out, show (⟨#[33]⟩ : ByteArray) = ⟨[(33 : UInt8)].toArray⟩ from rfl, mk_app]
    simp only [Int.toNat_natCast])
  have e1 := fun W => str_add (P := Tryd.prog) h1 (by show 1 + T.size ≤ _; omega) W
  clear h h1 hnode hij
  go_enter Tryd.func19, Tryd.ntmps19
  go_upto_region 2 with (fail)
  clear HW1 c1 c2
  obtain ⟨g1, g2⟩ := HBX.out w1 (Below.refl _ _)
  go_wp2_with fail
  refine (HBI.out _).mono ?_
  rintro e1 w2 ⟨rfl, rfl⟩
  go_wp2_with fail
  refine (HKD.out w1 (Below.refl _ _)).mono ?_
  rintro e2 w2 ⟨rfl, hb2⟩
  have HB2 : Hid (Below w1.heap.size w1 w2) := Lib.hid hb2
  clear hb2 g1 g2
  obtain ⟨g1, g2⟩ := HBX.out w2 HB2.out
  go_wp2_with fail
  refine (HLD.out w2 HB2.out).mono ?_
  rintro e4 w4 ⟨rfl, hb4⟩
  have HB4 : Hid (Below w1.heap.size w1 w4) := Lib.hid (HB2.out.trans (hb4.mono HB2.out.size))
  clear hb4 g1 g2
  go_wp2
  go_ret
  exact ⟨by rw [HE.out]; rfl, HB1.out.trans (HB4.out.mono HB1.out.size)⟩
set_option maxRecDepth 20000 in
set_option maxHeartbeats 4000000 in
theorem laid8 (A : Option Addr) (m c : Nat) (NA : Option Addr) (n d : Nat) (e : List (Int × Int)) (N : List ByteArray) (f i : Nat) (q a : Int) (w : World) (HP : LaidC A m c NA n d e N f) (hf : i ≤ f) (h : LdW A m c NA n d e N i 8 q w) (ha : 0 ≤ a ∧ a ≤ 5) :
    Calls Tryd.prog 19 #[.slice A m c, .slice NA n d, .int .i64 i, .int .i64 a] w (StrP (tB e N (f + 1) i a) w) := by
  have H := Lib.hid h
  obtain ⟨b, o, rfl, c1, c2⟩ := node_cells h
  obtain ⟨x1, y1, HXY⟩ : ∃ x1 y1, Hid (kidsF e i = (x1, y1)) := ⟨_, _, Lib.hid rfl⟩
  have hi := h.hi
  have hm := h.ok.mm
  have hii : (i : Int) < (m : Int) := by omega
  obtain ⟨w1, HW1, HB1, HBX⟩ := node_box w 8 q
  have HKD := Lib.hid (fun W (hW : Below w1.heap.size w1 W) => h.kids W (HB1.out.trans (hW.mono HB1.out.size)))
  have HBI := Lib.hid (fun W => refBinds_any (op := 8) (o := ⟨8, [88], 5, 0, 5⟩) rfl W)
  rw [HXY.out] at HKD
  dsimp only at HKD HBI
  obtain ⟨z, HZ⟩ : ∃ z, Hid (tB e N (f + 1) i a = z) := ⟨_, Lib.hid rfl⟩
  rw [HZ.out]
  have HT0 : Hid (z = if (5 : Int) < a then (⟨#[40]⟩ : ByteArray) ++ bB e N f i ⟨8, [88], 5, 0, 5⟩ ++ ⟨#[41]⟩ else bB e N f i ⟨8, [88], 5, 0, 5⟩) := Lib.hid (by
    rw [← HZ.out]
    unfold tB
    rw [txF_some (o := ⟨8, [88], 5, 0, 5⟩) (by rw [H.out.nd]; rfl)]
    unfold bB
    split
    · exact (brack _).symm
    · rfl)
  have hnode := node_of h.ok.is_ (i := i) (by rw [← h.ok.lm]; exact h.hi)
  obtain ⟨j, hij⟩ : ∃ j : Nat, i = j + 1 ∧ kidsF e i = ((j : Int), -1) := by
    rcases hnode with ⟨q', h1, _⟩ | ⟨o', ho', _, _, ⟨g1, _⟩ | ⟨_, _, j, v, h1, _, h2, _⟩ | ⟨_, g2, _⟩⟩
    · rw [h.nd] at h1; cases h1
    · rw [h.nd] at ho'
      obtain rfl : ⟨8, [88], 5, 0, 5⟩ = o' := by injection ho'
      exact absurd g1 (by decide)
    · exact ⟨j, h1, h2⟩
    · rw [h.nd] at ho'
      obtain rfl : ⟨8, [88], 5, 0, 5⟩ = o' := by injection ho'
      exact absurd rfl g2
  obtain ⟨HIJ, HKJ⟩ : Hid (i = j + 1) ∧ Hid (kidsF e i = ((j : Int), -1)) := ⟨Lib.hid hij.1, Lib.hid hij.2⟩
  have hij2 : (i : Int) - 1 = (j : Int) := by have := hij.1; omega
  obtain ⟨T, HT⟩ : ∃ T, Hid (tB e N f j 5 = T) := ⟨_, Lib.hid rfl⟩
  have HLD : Hid (∀ W, Below w1.heap.size w1 W → Calls Tryd.prog 19 #[.slice (some ⟨b, o, none⟩) m c, .slice NA n d, .int .i64 j, .int .i64 5] W (StrP T W)) := Lib.hid (fun W hW => by
    have h5 := HP j 5 W (by have := hij.1; omega) (by have := hij.1; omega) (by decide) (by decide) (h.ok.below (HB1.out.trans (hW.mono HB1.out.size)))
    rw [HT.out] at h5
    exact h5)
  have HTS : Hid (T.size ≤ 3000) := Lib.hid (by rw [← HT.out]; exact tB_size h.ok f j 5 (by have := hij.1; rw [← h.ok.lm]; omega))
  have hts := HTS.out
  have hna : ¬ (5 : Int) < a := by omega
  obtain ⟨z1, h1⟩ : ∃ z, (⟨#[88]⟩ : ByteArray) ++ (⟨#[32]⟩ : ByteArray) = z := ⟨_, rfl⟩
  obtain ⟨z2, h2⟩ : ∃ z, z1 ++ T = z := ⟨_, rfl⟩
  have s1 : z1.size = 2 := by rw [← h1, size_app]; rfl
  have HE : Hid (z = z2) := Lib.hid (by
    rw [HT0.out, if_neg hna, ← h2, ← h1, ← HT.out]
    unfold bB bareF tB
    rw [if_neg (by decide), if_neg (by decide), if_pos rfl, HKJ.out, show (⟨#[88]⟩ : ByteArray) = ⟨[(88 : UInt8)].toArray⟩ from rfl, show (⟨#[32]⟩ : ByteArray) = ⟨[(32 : UInt8)].toArray⟩ from rfl, mk_app, mk_app]
    simp only [Int.toNat_natCast, List.append_assoc])
  have e1 := fun W => str_add (P := Tryd.prog) h1 (by decide) W
  have e2 := fun W => str_add (P := Tryd.prog) h2 (by omega) W
  have HSG := Lib.hid (fun W => refSign_any (op := 8) (o := ⟨8, [88], 5, 0, 5⟩) rfl W)
  unfold sgA at HSG
  dsimp only at HSG
  clear h h1 h2 hnode hij s1
  go_enter Tryd.func19, Tryd.ntmps19
  go_upto_region 2 with (fail)
  clear HW1 c1 c2
  obtain ⟨g1, g2⟩ := HBX.out w1 (Below.refl _ _)
  go_wp2_with fail
  refine (HBI.out _).mono ?_
  rintro e1 w2 ⟨rfl, rfl⟩
  go_wp2_with fail
  refine (HKD.out w1 (Below.refl _ _)).mono ?_
  rintro e2 w2 ⟨rfl, hb2⟩
  have HB2 : Hid (Below w1.heap.size w1 w2) := Lib.hid hb2
  clear hb2 g1 g2
  obtain ⟨g1, g2⟩ := HBX.out w2 HB2.out
  go_wp2_with fail
  refine (HSG.out _).mono ?_
  rintro e3 w3 ⟨rfl, rfl⟩
  go_wp2_with fail
  refine (HLD.out w2 HB2.out).mono ?_
  rintro e4 w4 ⟨rfl, hb4⟩
  have HB4 : Hid (Below w1.heap.size w1 w4) := Lib.hid (HB2.out.trans (hb4.mono HB2.out.size))
  clear hb4 g1 g2
  go_wp2
  go_ret
  exact ⟨by rw [HE.out]; rfl, HB1.out.trans (HB4.out.mono HB1.out.size)⟩
set_option maxRecDepth 20000 in
set_option maxHeartbeats 4000000 in
theorem laid11 (A : Option Addr) (m c : Nat) (NA : Option Addr) (n d : Nat) (e : List (Int × Int)) (N : List ByteArray) (f i : Nat) (q a : Int) (w : World) (HP : LaidC A m c NA n d e N f) (hf : i ≤ f) (h : LdW A m c NA n d e N i 11 q w) (ha : 0 ≤ a ∧ a ≤ 5) :
    Calls Tryd.prog 19 #[.slice A m c, .slice NA n d, .int .i64 i, .int .i64 a] w (StrP (tB e N (f + 1) i a) w) := by
  have H := Lib.hid h
  obtain ⟨b, o, rfl, c1, c2⟩ := node_cells h
  obtain ⟨x1, y1, HXY⟩ : ∃ x1 y1, Hid (kidsF e i = (x1, y1)) := ⟨_, _, Lib.hid rfl⟩
  have hi := h.hi
  have hm := h.ok.mm
  have hii : (i : Int) < (m : Int) := by omega
  obtain ⟨w1, HW1, HB1, HBX⟩ := node_box w 11 q
  have HKD := Lib.hid (fun W (hW : Below w1.heap.size w1 W) => h.kids W (HB1.out.trans (hW.mono HB1.out.size)))
  have HBI := Lib.hid (fun W => refBinds_any (op := 11) (o := ⟨11, [70], 5, 0, 5⟩) rfl W)
  rw [HXY.out] at HKD
  dsimp only at HKD HBI
  obtain ⟨z, HZ⟩ : ∃ z, Hid (tB e N (f + 1) i a = z) := ⟨_, Lib.hid rfl⟩
  rw [HZ.out]
  have HT0 : Hid (z = if (5 : Int) < a then (⟨#[40]⟩ : ByteArray) ++ bB e N f i ⟨11, [70], 5, 0, 5⟩ ++ ⟨#[41]⟩ else bB e N f i ⟨11, [70], 5, 0, 5⟩) := Lib.hid (by
    rw [← HZ.out]
    unfold tB
    rw [txF_some (o := ⟨11, [70], 5, 0, 5⟩) (by rw [H.out.nd]; rfl)]
    unfold bB
    split
    · exact (brack _).symm
    · rfl)
  have hnode := node_of h.ok.is_ (i := i) (by rw [← h.ok.lm]; exact h.hi)
  obtain ⟨j, hij⟩ : ∃ j : Nat, i = j + 1 ∧ kidsF e i = ((j : Int), -1) := by
    rcases hnode with ⟨q', h1, _⟩ | ⟨o', ho', _, _, ⟨g1, _⟩ | ⟨_, _, j, v, h1, _, h2, _⟩ | ⟨_, g2, _⟩⟩
    · rw [h.nd] at h1; cases h1
    · rw [h.nd] at ho'
      obtain rfl : ⟨11, [70], 5, 0, 5⟩ = o' := by injection ho'
      exact absurd g1 (by decide)
    · exact ⟨j, h1, h2⟩
    · rw [h.nd] at ho'
      obtain rfl : ⟨11, [70], 5, 0, 5⟩ = o' := by injection ho'
      exact absurd rfl g2
  obtain ⟨HIJ, HKJ⟩ : Hid (i = j + 1) ∧ Hid (kidsF e i = ((j : Int), -1)) := ⟨Lib.hid hij.1, Lib.hid hij.2⟩
  have hij2 : (i : Int) - 1 = (j : Int) := by have := hij.1; omega
  obtain ⟨T, HT⟩ : ∃ T, Hid (tB e N f j 5 = T) := ⟨_, Lib.hid rfl⟩
  have HLD : Hid (∀ W, Below w1.heap.size w1 W → Calls Tryd.prog 19 #[.slice (some ⟨b, o, none⟩) m c, .slice NA n d, .int .i64 j, .int .i64 5] W (StrP T W)) := Lib.hid (fun W hW => by
    have h5 := HP j 5 W (by have := hij.1; omega) (by have := hij.1; omega) (by decide) (by decide) (h.ok.below (HB1.out.trans (hW.mono HB1.out.size)))
    rw [HT.out] at h5
    exact h5)
  have HTS : Hid (T.size ≤ 3000) := Lib.hid (by rw [← HT.out]; exact tB_size h.ok f j 5 (by have := hij.1; rw [← h.ok.lm]; omega))
  have hts := HTS.out
  have hna : ¬ (5 : Int) < a := by omega
  obtain ⟨z1, h1⟩ : ∃ z, (⟨#[70]⟩ : ByteArray) ++ (⟨#[32]⟩ : ByteArray) = z := ⟨_, rfl⟩
  obtain ⟨z2, h2⟩ : ∃ z, z1 ++ T = z := ⟨_, rfl⟩
  have s1 : z1.size = 2 := by rw [← h1, size_app]; rfl
  have HE : Hid (z = z2) := Lib.hid (by
    rw [HT0.out, if_neg hna, ← h2, ← h1, ← HT.out]
    unfold bB bareF tB
    rw [if_neg (by decide), if_neg (by decide), if_pos rfl, HKJ.out, show (⟨#[70]⟩ : ByteArray) = ⟨[(70 : UInt8)].toArray⟩ from rfl, show (⟨#[32]⟩ : ByteArray) = ⟨[(32 : UInt8)].toArray⟩ from rfl, mk_app, mk_app]
    simp only [Int.toNat_natCast, List.append_assoc])
  have e1 := fun W => str_add (P := Tryd.prog) h1 (by decide) W
  have e2 := fun W => str_add (P := Tryd.prog) h2 (by omega) W
  have HSG := Lib.hid (fun W => refSign_any (op := 11) (o := ⟨11, [70], 5, 0, 5⟩) rfl W)
  unfold sgA at HSG
  dsimp only at HSG
  clear h h1 h2 hnode hij s1
  go_enter Tryd.func19, Tryd.ntmps19
  go_upto_region 2 with (fail)
  clear HW1 c1 c2
  obtain ⟨g1, g2⟩ := HBX.out w1 (Below.refl _ _)
  go_wp2_with fail
  refine (HBI.out _).mono ?_
  rintro e1 w2 ⟨rfl, rfl⟩
  go_wp2_with fail
  refine (HKD.out w1 (Below.refl _ _)).mono ?_
  rintro e2 w2 ⟨rfl, hb2⟩
  have HB2 : Hid (Below w1.heap.size w1 w2) := Lib.hid hb2
  clear hb2 g1 g2
  obtain ⟨g1, g2⟩ := HBX.out w2 HB2.out
  go_wp2_with fail
  refine (HSG.out _).mono ?_
  rintro e3 w3 ⟨rfl, rfl⟩
  go_wp2_with fail
  refine (HLD.out w2 HB2.out).mono ?_
  rintro e4 w4 ⟨rfl, hb4⟩
  have HB4 : Hid (Below w1.heap.size w1 w4) := Lib.hid (HB2.out.trans (hb4.mono HB2.out.size))
  clear hb4 g1 g2
  go_wp2
  go_ret
  exact ⟨by rw [HE.out]; rfl, HB1.out.trans (HB4.out.mono HB1.out.size)⟩
set_option maxRecDepth 20000 in
set_option maxHeartbeats 4000000 in
theorem laid12 (A : Option Addr) (m c : Nat) (NA : Option Addr) (n d : Nat) (e : List (Int × Int)) (N : List ByteArray) (f i : Nat) (q a : Int) (w : World) (HP : LaidC A m c NA n d e N f) (hf : i ≤ f) (h : LdW A m c NA n d e N i 12 q w) (ha : 0 ≤ a ∧ a ≤ 5) :
    Calls Tryd.prog 19 #[.slice A m c, .slice NA n d, .int .i64 i, .int .i64 a] w (StrP (tB e N (f + 1) i a) w) := by
  have H := Lib.hid h
  obtain ⟨b, o, rfl, c1, c2⟩ := node_cells h
  obtain ⟨x1, y1, HXY⟩ : ∃ x1 y1, Hid (kidsF e i = (x1, y1)) := ⟨_, _, Lib.hid rfl⟩
  have hi := h.hi
  have hm := h.ok.mm
  have hii : (i : Int) < (m : Int) := by omega
  obtain ⟨w1, HW1, HB1, HBX⟩ := node_box w 12 q
  have HKD := Lib.hid (fun W (hW : Below w1.heap.size w1 W) => h.kids W (HB1.out.trans (hW.mono HB1.out.size)))
  have HBI := Lib.hid (fun W => refBinds_any (op := 12) (o := ⟨12, [71], 5, 0, 5⟩) rfl W)
  rw [HXY.out] at HKD
  dsimp only at HKD HBI
  obtain ⟨z, HZ⟩ : ∃ z, Hid (tB e N (f + 1) i a = z) := ⟨_, Lib.hid rfl⟩
  rw [HZ.out]
  have HT0 : Hid (z = if (5 : Int) < a then (⟨#[40]⟩ : ByteArray) ++ bB e N f i ⟨12, [71], 5, 0, 5⟩ ++ ⟨#[41]⟩ else bB e N f i ⟨12, [71], 5, 0, 5⟩) := Lib.hid (by
    rw [← HZ.out]
    unfold tB
    rw [txF_some (o := ⟨12, [71], 5, 0, 5⟩) (by rw [H.out.nd]; rfl)]
    unfold bB
    split
    · exact (brack _).symm
    · rfl)
  have hnode := node_of h.ok.is_ (i := i) (by rw [← h.ok.lm]; exact h.hi)
  obtain ⟨j, hij⟩ : ∃ j : Nat, i = j + 1 ∧ kidsF e i = ((j : Int), -1) := by
    rcases hnode with ⟨q', h1, _⟩ | ⟨o', ho', _, _, ⟨g1, _⟩ | ⟨_, _, j, v, h1, _, h2, _⟩ | ⟨_, g2, _⟩⟩
    · rw [h.nd] at h1; cases h1
    · rw [h.nd] at ho'
      obtain rfl : ⟨12, [71], 5, 0, 5⟩ = o' := by injection ho'
      exact absurd g1 (by decide)
    · exact ⟨j, h1, h2⟩
    · rw [h.nd] at ho'
      obtain rfl : ⟨12, [71], 5, 0, 5⟩ = o' := by injection ho'
      exact absurd rfl g2
  obtain ⟨HIJ, HKJ⟩ : Hid (i = j + 1) ∧ Hid (kidsF e i = ((j : Int), -1)) := ⟨Lib.hid hij.1, Lib.hid hij.2⟩
  have hij2 : (i : Int) - 1 = (j : Int) := by have := hij.1; omega
  obtain ⟨T, HT⟩ : ∃ T, Hid (tB e N f j 5 = T) := ⟨_, Lib.hid rfl⟩
  have HLD : Hid (∀ W, Below w1.heap.size w1 W → Calls Tryd.prog 19 #[.slice (some ⟨b, o, none⟩) m c, .slice NA n d, .int .i64 j, .int .i64 5] W (StrP T W)) := Lib.hid (fun W hW => by
    have h5 := HP j 5 W (by have := hij.1; omega) (by have := hij.1; omega) (by decide) (by decide) (h.ok.below (HB1.out.trans (hW.mono HB1.out.size)))
    rw [HT.out] at h5
    exact h5)
  have HTS : Hid (T.size ≤ 3000) := Lib.hid (by rw [← HT.out]; exact tB_size h.ok f j 5 (by have := hij.1; rw [← h.ok.lm]; omega))
  have hts := HTS.out
  have hna : ¬ (5 : Int) < a := by omega
  obtain ⟨z1, h1⟩ : ∃ z, (⟨#[71]⟩ : ByteArray) ++ (⟨#[32]⟩ : ByteArray) = z := ⟨_, rfl⟩
  obtain ⟨z2, h2⟩ : ∃ z, z1 ++ T = z := ⟨_, rfl⟩
  have s1 : z1.size = 2 := by rw [← h1, size_app]; rfl
  have HE : Hid (z = z2) := Lib.hid (by
    rw [HT0.out, if_neg hna, ← h2, ← h1, ← HT.out]
    unfold bB bareF tB
    rw [if_neg (by decide), if_neg (by decide), if_pos rfl, HKJ.out, show (⟨#[71]⟩ : ByteArray) = ⟨[(71 : UInt8)].toArray⟩ from rfl, show (⟨#[32]⟩ : ByteArray) = ⟨[(32 : UInt8)].toArray⟩ from rfl, mk_app, mk_app]
    simp only [Int.toNat_natCast, List.append_assoc])
  have e1 := fun W => str_add (P := Tryd.prog) h1 (by decide) W
  have e2 := fun W => str_add (P := Tryd.prog) h2 (by omega) W
  have HSG := Lib.hid (fun W => refSign_any (op := 12) (o := ⟨12, [71], 5, 0, 5⟩) rfl W)
  unfold sgA at HSG
  dsimp only at HSG
  clear h h1 h2 hnode hij s1
  go_enter Tryd.func19, Tryd.ntmps19
  go_upto_region 2 with (fail)
  clear HW1 c1 c2
  obtain ⟨g1, g2⟩ := HBX.out w1 (Below.refl _ _)
  go_wp2_with fail
  refine (HBI.out _).mono ?_
  rintro e1 w2 ⟨rfl, rfl⟩
  go_wp2_with fail
  refine (HKD.out w1 (Below.refl _ _)).mono ?_
  rintro e2 w2 ⟨rfl, hb2⟩
  have HB2 : Hid (Below w1.heap.size w1 w2) := Lib.hid hb2
  clear hb2 g1 g2
  obtain ⟨g1, g2⟩ := HBX.out w2 HB2.out
  go_wp2_with fail
  refine (HSG.out _).mono ?_
  rintro e3 w3 ⟨rfl, rfl⟩
  go_wp2_with fail
  refine (HLD.out w2 HB2.out).mono ?_
  rintro e4 w4 ⟨rfl, hb4⟩
  have HB4 : Hid (Below w1.heap.size w1 w4) := Lib.hid (HB2.out.trans (hb4.mono HB2.out.size))
  clear hb4 g1 g2
  go_wp2
  go_ret
  exact ⟨by rw [HE.out]; rfl, HB1.out.trans (HB4.out.mono HB1.out.size)⟩
end Go.Proofs.YtgnflnfajkoibaaDoor.tx
