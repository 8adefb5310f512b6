/- Contracts that the claim stands on, several texts in one: LtxPartsLaw. -/
import Derived.Deep.RegionLaw
import Derived.Test.YthjpjcjmiaojcaaDoorPut1
import Derived.Test.YthjpjcjmiaojcaaDoorPut2
import Derived.Test.YthjpjcjmiaojcaaDoorPut3
import Derived.Test.YthjpjcjmiaojcaaDoorPut4
import Derived.Test.YthjpjcjmiaojcaaDoorPut5
import Derived.Test.YthjpjcjmiaojcaaDoorPut6
import Derived.Test.YthjpjcjmiaojcaaDoorPut7
import Derived.Test.YthjpjcjmiaojcaaDoorPut8
import Derived.Test.YthjpjcjmiaojcaaDoorPut9
import Derived.Test.YthjpjcjmiaojcaaDoorPut10
import Derived.Test.YthjpjcjmiaojcaaDoorPut11
import Derived.Test.YthjpjcjmiaojcaaDoorPut12
import Derived.Test.YthjpjcjmiaojcaaDoorPut13
namespace Go.Proofs.YthjpjcjmiaojcaaDoor.tx
open Go.ChangeShapes Go.WideShapes Go.ChangeAt Go.RowKit Go.Deep sr lt

theorem textV_pos_len {e : List (Int × Int)} {N : List ByteArray} (h : (textV e N).2 = 0) : 0 < e.length := by
  rcases e with _ | ⟨x, e⟩
  · exfalso
    revert h
    unfold textV
    rw [if_neg (by simp), if_pos (by decide)]
    exact (by decide)
  · simp
theorem hp30 (w : World) (o o2 o3 : Obj) : (((w.alloc o).alloc o2).alloc o3).heap[w.heap.size]? = some o := (Below.heap_alloc _ _ _ (by simp; omega)).trans (heap_prev w o o2)
theorem hp31 (w : World) (o o2 o3 : Obj) : (((w.alloc o).alloc o2).alloc o3).heap[w.heap.size + 1]? = some o2 := (Below.heap_alloc _ _ _ (by simp)).trans (heap_next w o o2)
theorem hp32 (w : World) (o o2 o3 : Obj) : (((w.alloc o).alloc o2).alloc o3).heap[w.heap.size + 2]? = some o3 := by
  have h := World.alloc_heap_new ((w.alloc o).alloc o2) o3
  simp only [World.size_alloc] at h
  exact h
theorem textV_size {e : List (Int × Int)} {N : List ByteArray} (h : (textV e N).2 = 0) : (textV e N).1.size ≤ 600 := by
  unfold textV at h ⊢
  split at h
  · cases h
  · rename_i h1
    rw [if_neg h1]
    split at h
    · rename_i h2; exact absurd h h2
    · rename_i h2
      rw [if_neg h2]
      have hw := Decidable.not_not.1 h2
      split at h
      · rename_i h3; exact absurd h h3
      · rename_i h3
        rw [if_neg h3]
        have hn := Decidable.not_not.1 h3
        obtain ⟨hl, hlast⟩ := whole_last hw
        unfold tB
        rw [size_mk]
        have h4 := txF_len (N := NL N) hw (fun i q hi hq => by
          obtain ⟨h7, h8⟩ := nmW_ok hn i q hi hq
          rw [NL_at]
          have h9 : lx.nameB (N.getD q.toNat default) = true := by
            unfold mayB at h8
            simp only [Bool.and_eq_true] at h8
            exact h8.1
          have h10 := name_size h9
          rw [← mk_data (N.getD q.toNat default), size_mk] at h10
          exact h10) e.length (e.length - 1) 1 0 (by omega) hlast (Nat.zero_le _)
        omega
theorem text_a {t u : ByteArray} {k : Int} {hd : Array UInt8} (hh : hdF k = hd.toList) (h : t = ⟨(hdF k ++ u.data.toList).toArray⟩) : t.toList = (⟨hd⟩ ++ u : ByteArray).toList := by
  rw [ByteArray.toList_eq, ByteArray.toList_eq, h, ByteArray.data_append, hh]
  simp
theorem text_b {t u : ByteArray} {k : Int} {hd : Array UInt8} (hh : hdF k = hd.toList) (h : t = ⟨(hdF k ++ ([40] ++ (u.data.toList ++ [41]))).toArray⟩) : t.toList = (⟨hd⟩ ++ ⟨#[40]⟩ ++ u ++ ⟨#[41]⟩ : ByteArray).toList ∧ t.toList ≠ (⟨hd⟩ ++ u : ByteArray).toList := by
  constructor
  · rw [ByteArray.toList_eq, ByteArray.toList_eq, h, ByteArray.data_append, ByteArray.data_append, ByteArray.data_append, hh]
    simp
  · intro e
    have e2 := congrArg List.length e
    rw [ByteArray.toList_eq, ByteArray.toList_eq, h, ByteArray.data_append, hh] at e2
    simp at e2
    omega
set_option maxRecDepth 100000 in
set_option maxHeartbeats 8000000 in
theorem parts_0 (A : Option Addr) (m c : Nat) (e : List (Int × Int)) (NA : Option Addr) (n d : Nat) (N : List ByteArray) (op : Int) (w : World) (hm : m = e.length) (hA : PA w A e) (hm9 : m ≤ 4611686018427387904) (hn : n = N.length) (hnd : n ≤ d) (hn9 : n ≤ 4611686018427387904) (hN : RS encS 1 w NA N) (hx : LxW w)
    (hv : hvF N m = false) (hml : m < 24) (u : ByteArray) (hT : textV e N = (u, 0)) (hr : op.tmod 4 = 0) : Calls Tryd.prog 6 #[.slice A m c, .slice NA n d, .int .u8 op] w fun x w' => x = .returned (.bool true) ∧ Below w.heap.size w w' := by
  have HM := Lib.hid hm
  have HA := Lib.hid hA
  have HN := Lib.hid hn
  have HND := Lib.hid hnd
  have HRS := Lib.hid hN
  have HX := Lib.hid hx
  have HHV := Lib.hid (heavy_any A NA c m n d N w hm9 hn hn9 hN)
  have HT := Lib.hid hT
  rw [hv] at HHV
  have HS := Lib.hid (hv_no hv)
  have HPOS : Hid (0 < m) := Lib.hid (by rw [hm]; exact textV_pos_len (by rw [hT]))
  obtain ⟨g, HG⟩ : ∃ g, Hid (e ++ [((4 : Int), (0 : Int))] = g) := ⟨_, Lib.hid rfl⟩
  have HGL : Hid (m + 1 = g.length) := Lib.hid (by rw [← HG.out, List.length_append, ← hm]; rfl)
  obtain ⟨t, HTG, HTV⟩ : ∃ t : ByteArray, Hid (textV g N = (t, 0)) ∧ Hid (t = ⟨(hdF 4 ++ u.data.toList).toArray⟩ ∨ t = ⟨(hdF 4 ++ ([40] ++ (u.data.toList ++ [41]))).toArray⟩) := by
    obtain ⟨h1, h2⟩ := textV_more (e := e) (N := N) (k := 4) (by unfold One; decide) (by omega) (by rw [hT])
    rw [HG.out] at h1 h2
    refine ⟨(textV g N).1, Lib.hid (by rw [← h1]), Lib.hid ?_⟩
    rw [hT] at h2
    exact h2
  have HUS : Hid (u.size ≤ 600) := Lib.hid (by have h := textV_size (e := e) (N := N) (by rw [hT]); rw [hT] at h; exact h)
  clear hm hA hm9 hn hnd hn9 hN hx hT hv
  have hmi : ¬ ((m : Int) ≥ 24) := by omega
  go_enter Tryd.func6, Tryd.ntmps6
  go_wp2_with fail
  refine HHV.out.mono ?_
  rintro x w1 ⟨rfl, hb1⟩
  have HB1 := Lib.hid hb1
  clear hb1 HHV
  have HNM : Hid (NmS w NA n d N) := Lib.hid ⟨HRS.out, HN.out, HND.out, by rw [HN.out]; have := HS.out; omega⟩
  have HTC := Lib.hid (text_any A m c NA n d e N w1 HM.out (by have := HS.out; omega) (HA.out.below HB1.out) (HNM.out.below HB1.out) (HX.out.below HB1.out).ops)
  rw [HT.out] at HTC
  go_wp2_with fail
  refine HTC.out.mono ?_
  rintro x w2 ⟨rfl, hb2⟩
  have HB2 : Hid (Below w.heap.size w w2) := Lib.hid (HB1.out.trans (hb2.mono HB1.out.size))
  clear hb2 HTC
  dsimp only
  go_upto_region 7 with (fail)
  have HB3 : Hid (Below w.heap.size w (w2.alloc (.cells #[.string ⟨#[33]⟩, .string ⟨#[88, 32]⟩, .string ⟨#[70, 32]⟩, .string ⟨#[71, 32]⟩] 9))) := Lib.hid (HB2.out.alloc HB2.out.size _)
  generalize w2.alloc (.cells #[.string ⟨#[33]⟩, .string ⟨#[88, 32]⟩, .string ⟨#[70, 32]⟩, .string ⟨#[71, 32]⟩] 9) = w3 at *
  have HZ3 : Hid (w.heap.size ≤ w3.heap.size) := Lib.hid HB3.out.size
  go_cut [10] from 40 (fun v w' => ∃ (A7 : Option Addr) (c7 : Nat), v = .slice A7 (m + 1) c7 ∧ Hid (PA w' A7 g) ∧ Hid (Below w.heap.size w w'))
  case first =>
    refine wp_region_noPanic ?_
    go_region_law
      (first
        | (refine step_append_first encN_len encN_one Tryd.underlying22 infoN rfl (by decide) (by decide) w3.heap.size _ (by rfl) (.tmp 40) (.tmp 41) (by rfl) (by rfl) (by rfl) e A m c (by rfl) HM.out HPOS.out (pa_rs (HA.out.below (by repeat first | exact HB3.out | refine Below.drew ?_ | refine Below.alloc ?_ (by first | exact HZ3.out | (have := HZ3.out; simp; omega)) _))) (by omega) (by first | exact Nat.le_refl _ | omega | (simp; omega)) (by first | exact World.alloc_heap_new _ _ | exact heap_prev _ _ _ | exact heap_next _ _ _ | exact hp30 _ _ _ _ | exact hp31 _ _ _ _ | exact hp32 _ _ _ _) ?_; intro v4 w4 ho4 hg4; obtain ⟨A4, c4, q4, rfl⟩ := or_form encN_len ho4; have HO4 := Lib.hid ho4
           have HB4 : Hid (Below w.heap.size w w4) := Lib.hid (Below.grown (w' := _) (by repeat first | exact HB3.out | refine Below.drew ?_ | refine Below.alloc ?_ (by first | exact HZ3.out | (have := HZ3.out; simp; omega)) _) hg4 (by have := HZ3.out; first | exact HZ3.out | (simp; omega)) (fun k hk => by injection hk with hk; have := HZ3.out; omega))
           have HS4 : Hid (w3.heap.size ≤ w4.heap.size) := Lib.hid (by have h := hg4.size; simp at h; omega)
           (try have q0 : w4.cell? ⟨w3.heap.size, 0, none⟩ = some (.int .i64 4) := (World.cell?_of_block (a := ⟨w3.heap.size, 0, none⟩) (hg4.block (w3.heap.size) (by first | (simp; done) | (simp; omega)) (by intro e; injection e with e; first | omega | (simp at e; omega)))).trans (cell_of (cs := #[.int .i64 4, .int .i64 8, .int .i64 11, .int .i64 12]) (t := 3) (by first | exact World.alloc_heap_new _ _ | exact heap_prev _ _ _ | exact heap_next _ _ _ | exact hp30 _ _ _ _ | exact hp31 _ _ _ _ | exact hp32 _ _ _ _) 0))
           (try have n0 : w4.heap[w3.heap.size]? = some (.cells #[.int .i64 4, .int .i64 0] 39) := (hg4.block (w3.heap.size) (by first | (simp; done) | (simp; omega)) (by intro e; injection e with e; first | omega | (simp at e; omega))).trans (by first | exact World.alloc_heap_new _ _ | exact heap_prev _ _ _ | exact heap_next _ _ _ | exact hp30 _ _ _ _ | exact hp31 _ _ _ _ | exact hp32 _ _ _ _))
           (try have q1 : w4.cell? ⟨w3.heap.size + 1, 0, none⟩ = some (.int .i64 4) := (World.cell?_of_block (a := ⟨w3.heap.size + 1, 0, none⟩) (hg4.block (w3.heap.size + 1) (by first | (simp; done) | (simp; omega)) (by intro e; injection e with e; first | omega | (simp at e; omega)))).trans (cell_of (cs := #[.int .i64 4, .int .i64 8, .int .i64 11, .int .i64 12]) (t := 3) (by first | exact World.alloc_heap_new _ _ | exact heap_prev _ _ _ | exact heap_next _ _ _ | exact hp30 _ _ _ _ | exact hp31 _ _ _ _ | exact hp32 _ _ _ _) 0))
           (try have n1 : w4.heap[w3.heap.size + 1]? = some (.cells #[.int .i64 4, .int .i64 0] 39) := (hg4.block (w3.heap.size + 1) (by first | (simp; done) | (simp; omega)) (by intro e; injection e with e; first | omega | (simp at e; omega))).trans (by first | exact World.alloc_heap_new _ _ | exact heap_prev _ _ _ | exact heap_next _ _ _ | exact hp30 _ _ _ _ | exact hp31 _ _ _ _ | exact hp32 _ _ _ _))
           (try have q2 : w4.cell? ⟨w3.heap.size + 2, 0, none⟩ = some (.int .i64 4) := (World.cell?_of_block (a := ⟨w3.heap.size + 2, 0, none⟩) (hg4.block (w3.heap.size + 2) (by first | (simp; done) | (simp; omega)) (by intro e; injection e with e; first | omega | (simp at e; omega)))).trans (cell_of (cs := #[.int .i64 4, .int .i64 8, .int .i64 11, .int .i64 12]) (t := 3) (by first | exact World.alloc_heap_new _ _ | exact heap_prev _ _ _ | exact heap_next _ _ _ | exact hp30 _ _ _ _ | exact hp31 _ _ _ _ | exact hp32 _ _ _ _) 0))
           (try have n2 : w4.heap[w3.heap.size + 2]? = some (.cells #[.int .i64 4, .int .i64 0] 39) := (hg4.block (w3.heap.size + 2) (by first | (simp; done) | (simp; omega)) (by intro e; injection e with e; first | omega | (simp at e; omega))).trans (by first | exact World.alloc_heap_new _ _ | exact heap_prev _ _ _ | exact heap_next _ _ _ | exact hp30 _ _ _ _ | exact hp31 _ _ _ _ | exact hp32 _ _ _ _)))
        | (refine step_append_more encN_len encN_one Tryd.underlying22 infoN rfl (by decide) (by decide) w3.heap.size _ (by rfl) (.tmp 42) (.tmp 49) (by rfl) (by rfl) _ e (by rfl) (OR.below HO4.out (by repeat first | exact Below.refl _ _ | refine Below.drew ?_ | refine Below.alloc ?_ (by first | exact Nat.le_refl _ | (simp; done) | (simp; omega)) _)) (4, 0) _ (by rfl) (by rfl) (by rw [← HM.out]; omega) (by have := HS4.out; first | omega | (simp; omega)) _ (by first | exact World.alloc_heap_new _ _ | exact n0 | exact n1 | exact n2 | exact heap_next _ _ _) (m + 1) (by rw [← HM.out]) ?_; intro A5 c5 w5 ho5 hb5; rw [HG.out] at ho5; have HP5 := Lib.hid (rs_pa ho5); have HB5 : Hid (Below w.heap.size w w5) := Lib.hid (Below.trans (by repeat first | exact HB4.out | refine Below.drew ?_ | refine Below.alloc ?_ (by have := HZ3.out; have := HS4.out; first | omega | (simp; omega)) _) (hb5.mono HZ3.out)))
        | fail)
    all_goals
      refine NoPanic.normal ?_
      go_wp2
      go_meet
      case rel => exact ⟨_, _, rfl, HP5, HB5⟩
  case rest =>
    obtain ⟨A7, c7, rfl, HP7, HB7⟩ := hcut
    have HTD := Lib.hid (text_any A7 (m + 1) c7 NA n d g N wc HGL.out (by omega) HP7.out (HNM.out.below HB7.out) (HX.out.below HB7.out).ops)
    rw [HTG.out] at HTD
    go_wp2_with fail
    refine HTD.out.mono ?_
    rintro x w8 ⟨rfl, hb8⟩
    have HB8 : Hid (Below w.heap.size w w8) := Lib.hid (HB7.out.trans (hb8.mono HB7.out.size))
    clear hb8 HTD
    dsimp only
    have hus : (u.size : Int) ≤ 3000 := by have := HUS.out; omega
    rcases HTV.out with hq | hq
    · have ht1 : (t.toList == (⟨#[33]⟩ ++ u : ByteArray).toList) = true := by rw [beq_iff_eq]; exact text_a rfl hq
      clear hq
      go_wp2_with fail
      refine (awake_any w8 (HX.out.below HB8.out)).mono ?_
      rintro x w9 ⟨rfl, hb9⟩
      have HB9 : Hid (Below w.heap.size w w9) := Lib.hid (HB8.out.trans (hb9.mono HB8.out.size))
      clear hb9
      go_wp2
      go_ret
      exact ⟨rfl, HB9.out⟩
    · obtain ⟨hq1, hq2⟩ := text_b (hd := #[33]) rfl hq
      have ht1 : (t.toList == (⟨#[33]⟩ ++ u : ByteArray).toList) = false := by rw [beq_eq_false_iff_ne]; exact hq2
      have ht2 : (t.toList == (⟨#[33]⟩ ++ ⟨#[40]⟩ ++ u ++ ⟨#[41]⟩ : ByteArray).toList) = true := by rw [beq_iff_eq]; exact hq1
      have hs1 : ((⟨#[33]⟩ ++ ⟨#[40]⟩ ++ u : ByteArray).size : Int) ≤ 8388608 := by
        rw [ByteArray.size_append, ByteArray.size_append]
        have e1 : (⟨#[33]⟩ : ByteArray).size ≤ 2 := by decide
        have e2 : (⟨#[40]⟩ : ByteArray).size = 1 := rfl
        omega
      clear hq hq1 hq2
      go_wp2_with fail
      refine (awake_any w8 (HX.out.below HB8.out)).mono ?_
      rintro x w9 ⟨rfl, hb9⟩
      have HB9 : Hid (Below w.heap.size w w9) := Lib.hid (HB8.out.trans (hb9.mono HB8.out.size))
      clear hb9
      go_wp2
      go_ret
      exact ⟨rfl, HB9.out⟩
set_option maxRecDepth 100000 in
set_option maxHeartbeats 8000000 in
theorem parts_1 (A : Option Addr) (m c : Nat) (e : List (Int × Int)) (NA : Option Addr) (n d : Nat) (N : List ByteArray) (op : Int) (w : World) (hm : m = e.length) (hA : PA w A e) (hm9 : m ≤ 4611686018427387904) (hn : n = N.length) (hnd : n ≤ d) (hn9 : n ≤ 4611686018427387904) (hN : RS encS 1 w NA N) (hx : LxW w)
    (hv : hvF N m = false) (hml : m < 24) (u : ByteArray) (hT : textV e N = (u, 0)) (hr : op.tmod 4 = 1) : Calls Tryd.prog 6 #[.slice A m c, .slice NA n d, .int .u8 op] w fun x w' => x = .returned (.bool true) ∧ Below w.heap.size w w' := by
  have HM := Lib.hid hm
  have HA := Lib.hid hA
  have HN := Lib.hid hn
  have HND := Lib.hid hnd
  have HRS := Lib.hid hN
  have HX := Lib.hid hx
  have HHV := Lib.hid (heavy_any A NA c m n d N w hm9 hn hn9 hN)
  have HT := Lib.hid hT
  rw [hv] at HHV
  have HS := Lib.hid (hv_no hv)
  have HPOS : Hid (0 < m) := Lib.hid (by rw [hm]; exact textV_pos_len (by rw [hT]))
  obtain ⟨g, HG⟩ : ∃ g, Hid (e ++ [((8 : Int), (0 : Int))] = g) := ⟨_, Lib.hid rfl⟩
  have HGL : Hid (m + 1 = g.length) := Lib.hid (by rw [← HG.out, List.length_append, ← hm]; rfl)
  obtain ⟨t, HTG, HTV⟩ : ∃ t : ByteArray, Hid (textV g N = (t, 0)) ∧ Hid (t = ⟨(hdF 8 ++ u.data.toList).toArray⟩ ∨ t = ⟨(hdF 8 ++ ([40] ++ (u.data.toList ++ [41]))).toArray⟩) := by
    obtain ⟨h1, h2⟩ := textV_more (e := e) (N := N) (k := 8) (by unfold One; decide) (by omega) (by rw [hT])
    rw [HG.out] at h1 h2
    refine ⟨(textV g N).1, Lib.hid (by rw [← h1]), Lib.hid ?_⟩
    rw [hT] at h2
    exact h2
  have HUS : Hid (u.size ≤ 600) := Lib.hid (by have h := textV_size (e := e) (N := N) (by rw [hT]); rw [hT] at h; exact h)
  clear hm hA hm9 hn hnd hn9 hN hx hT hv
  have hmi : ¬ ((m : Int) ≥ 24) := by omega
  go_enter Tryd.func6, Tryd.ntmps6
  go_wp2_with fail
  refine HHV.out.mono ?_
  rintro x w1 ⟨rfl, hb1⟩
  have HB1 := Lib.hid hb1
  clear hb1 HHV
  have HNM : Hid (NmS w NA n d N) := Lib.hid ⟨HRS.out, HN.out, HND.out, by rw [HN.out]; have := HS.out; omega⟩
  have HTC := Lib.hid (text_any A m c NA n d e N w1 HM.out (by have := HS.out; omega) (HA.out.below HB1.out) (HNM.out.below HB1.out) (HX.out.below HB1.out).ops)
  rw [HT.out] at HTC
  go_wp2_with fail
  refine HTC.out.mono ?_
  rintro x w2 ⟨rfl, hb2⟩
  have HB2 : Hid (Below w.heap.size w w2) := Lib.hid (HB1.out.trans (hb2.mono HB1.out.size))
  clear hb2 HTC
  dsimp only
  go_upto_region 7 with (fail)
  have HB3 : Hid (Below w.heap.size w (w2.alloc (.cells #[.string ⟨#[33]⟩, .string ⟨#[88, 32]⟩, .string ⟨#[70, 32]⟩, .string ⟨#[71, 32]⟩] 9))) := Lib.hid (HB2.out.alloc HB2.out.size _)
  generalize w2.alloc (.cells #[.string ⟨#[33]⟩, .string ⟨#[88, 32]⟩, .string ⟨#[70, 32]⟩, .string ⟨#[71, 32]⟩] 9) = w3 at *
  have HZ3 : Hid (w.heap.size ≤ w3.heap.size) := Lib.hid HB3.out.size
  go_cut [10] from 40 (fun v w' => ∃ (A7 : Option Addr) (c7 : Nat), v = .slice A7 (m + 1) c7 ∧ Hid (PA w' A7 g) ∧ Hid (Below w.heap.size w w'))
  case first =>
    refine wp_region_noPanic ?_
    go_region_law
      (first
        | (refine step_append_first encN_len encN_one Tryd.underlying22 infoN rfl (by decide) (by decide) w3.heap.size _ (by rfl) (.tmp 40) (.tmp 41) (by rfl) (by rfl) (by rfl) e A m c (by rfl) HM.out HPOS.out (pa_rs (HA.out.below (by repeat first | exact HB3.out | refine Below.drew ?_ | refine Below.alloc ?_ (by first | exact HZ3.out | (have := HZ3.out; simp; omega)) _))) (by omega) (by first | exact Nat.le_refl _ | omega | (simp; omega)) (by first | exact World.alloc_heap_new _ _ | exact heap_prev _ _ _ | exact heap_next _ _ _ | exact hp30 _ _ _ _ | exact hp31 _ _ _ _ | exact hp32 _ _ _ _) ?_; intro v4 w4 ho4 hg4; obtain ⟨A4, c4, q4, rfl⟩ := or_form encN_len ho4; have HO4 := Lib.hid ho4
           have HB4 : Hid (Below w.heap.size w w4) := Lib.hid (Below.grown (w' := _) (by repeat first | exact HB3.out | refine Below.drew ?_ | refine Below.alloc ?_ (by first | exact HZ3.out | (have := HZ3.out; simp; omega)) _) hg4 (by have := HZ3.out; first | exact HZ3.out | (simp; omega)) (fun k hk => by injection hk with hk; have := HZ3.out; omega))
           have HS4 : Hid (w3.heap.size ≤ w4.heap.size) := Lib.hid (by have h := hg4.size; simp at h; omega)
           (try have q0 : w4.cell? ⟨w3.heap.size, 1, none⟩ = some (.int .i64 8) := (World.cell?_of_block (a := ⟨w3.heap.size, 1, none⟩) (hg4.block (w3.heap.size) (by first | (simp; done) | (simp; omega)) (by intro e; injection e with e; first | omega | (simp at e; omega)))).trans (cell_of (cs := #[.int .i64 4, .int .i64 8, .int .i64 11, .int .i64 12]) (t := 3) (by first | exact World.alloc_heap_new _ _ | exact heap_prev _ _ _ | exact heap_next _ _ _ | exact hp30 _ _ _ _ | exact hp31 _ _ _ _ | exact hp32 _ _ _ _) 1))
           (try have n0 : w4.heap[w3.heap.size]? = some (.cells #[.int .i64 8, .int .i64 0] 39) := (hg4.block (w3.heap.size) (by first | (simp; done) | (simp; omega)) (by intro e; injection e with e; first | omega | (simp at e; omega))).trans (by first | exact World.alloc_heap_new _ _ | exact heap_prev _ _ _ | exact heap_next _ _ _ | exact hp30 _ _ _ _ | exact hp31 _ _ _ _ | exact hp32 _ _ _ _))
           (try have q1 : w4.cell? ⟨w3.heap.size + 1, 1, none⟩ = some (.int .i64 8) := (World.cell?_of_block (a := ⟨w3.heap.size + 1, 1, none⟩) (hg4.block (w3.heap.size + 1) (by first | (simp; done) | (simp; omega)) (by intro e; injection e with e; first | omega | (simp at e; omega)))).trans (cell_of (cs := #[.int .i64 4, .int .i64 8, .int .i64 11, .int .i64 12]) (t := 3) (by first | exact World.alloc_heap_new _ _ | exact heap_prev _ _ _ | exact heap_next _ _ _ | exact hp30 _ _ _ _ | exact hp31 _ _ _ _ | exact hp32 _ _ _ _) 1))
           (try have n1 : w4.heap[w3.heap.size + 1]? = some (.cells #[.int .i64 8, .int .i64 0] 39) := (hg4.block (w3.heap.size + 1) (by first | (simp; done) | (simp; omega)) (by intro e; injection e with e; first | omega | (simp at e; omega))).trans (by first | exact World.alloc_heap_new _ _ | exact heap_prev _ _ _ | exact heap_next _ _ _ | exact hp30 _ _ _ _ | exact hp31 _ _ _ _ | exact hp32 _ _ _ _))
           (try have q2 : w4.cell? ⟨w3.heap.size + 2, 1, none⟩ = some (.int .i64 8) := (World.cell?_of_block (a := ⟨w3.heap.size + 2, 1, none⟩) (hg4.block (w3.heap.size + 2) (by first | (simp; done) | (simp; omega)) (by intro e; injection e with e; first | omega | (simp at e; omega)))).trans (cell_of (cs := #[.int .i64 4, .int .i64 8, .int .i64 11, .int .i64 12]) (t := 3) (by first | exact World.alloc_heap_new _ _ | exact heap_prev _ _ _ | exact heap_next _ _ _ | exact hp30 _ _ _ _ | exact hp31 _ _ _ _ | exact hp32 _ _ _ _) 1))
           (try have n2 : w4.heap[w3.heap.size + 2]? = some (.cells #[.int .i64 8, .int .i64 0] 39) := (hg4.block (w3.heap.size + 2) (by first | (simp; done) | (simp; omega)) (by intro e; injection e with e; first | omega | (simp at e; omega))).trans (by first | exact World.alloc_heap_new _ _ | exact heap_prev _ _ _ | exact heap_next _ _ _ | exact hp30 _ _ _ _ | exact hp31 _ _ _ _ | exact hp32 _ _ _ _)))
        | (refine step_append_more encN_len encN_one Tryd.underlying22 infoN rfl (by decide) (by decide) w3.heap.size _ (by rfl) (.tmp 42) (.tmp 49) (by rfl) (by rfl) _ e (by rfl) (OR.below HO4.out (by repeat first | exact Below.refl _ _ | refine Below.drew ?_ | refine Below.alloc ?_ (by first | exact Nat.le_refl _ | (simp; done) | (simp; omega)) _)) (8, 0) _ (by rfl) (by rfl) (by rw [← HM.out]; omega) (by have := HS4.out; first | omega | (simp; omega)) _ (by first | exact World.alloc_heap_new _ _ | exact n0 | exact n1 | exact n2 | exact heap_next _ _ _) (m + 1) (by rw [← HM.out]) ?_; intro A5 c5 w5 ho5 hb5; rw [HG.out] at ho5; have HP5 := Lib.hid (rs_pa ho5); have HB5 : Hid (Below w.heap.size w w5) := Lib.hid (Below.trans (by repeat first | exact HB4.out | refine Below.drew ?_ | refine Below.alloc ?_ (by have := HZ3.out; have := HS4.out; first | omega | (simp; omega)) _) (hb5.mono HZ3.out)))
        | fail)
    all_goals
      refine NoPanic.normal ?_
      go_wp2
      go_meet
      case rel => exact ⟨_, _, rfl, HP5, HB5⟩
  case rest =>
    obtain ⟨A7, c7, rfl, HP7, HB7⟩ := hcut
    have HTD := Lib.hid (text_any A7 (m + 1) c7 NA n d g N wc HGL.out (by omega) HP7.out (HNM.out.below HB7.out) (HX.out.below HB7.out).ops)
    rw [HTG.out] at HTD
    go_wp2_with fail
    refine HTD.out.mono ?_
    rintro x w8 ⟨rfl, hb8⟩
    have HB8 : Hid (Below w.heap.size w w8) := Lib.hid (HB7.out.trans (hb8.mono HB7.out.size))
    clear hb8 HTD
    dsimp only
    have hus : (u.size : Int) ≤ 3000 := by have := HUS.out; omega
    rcases HTV.out with hq | hq
    · have ht1 : (t.toList == (⟨#[88, 32]⟩ ++ u : ByteArray).toList) = true := by rw [beq_iff_eq]; exact text_a rfl hq
      clear hq
      go_wp2_with fail
      refine (awake_any w8 (HX.out.below HB8.out)).mono ?_
      rintro x w9 ⟨rfl, hb9⟩
      have HB9 : Hid (Below w.heap.size w w9) := Lib.hid (HB8.out.trans (hb9.mono HB8.out.size))
      clear hb9
      go_wp2
      go_ret
      exact ⟨rfl, HB9.out⟩
    · obtain ⟨hq1, hq2⟩ := text_b (hd := #[88, 32]) rfl hq
      have ht1 : (t.toList == (⟨#[88, 32]⟩ ++ u : ByteArray).toList) = false := by rw [beq_eq_false_iff_ne]; exact hq2
      have ht2 : (t.toList == (⟨#[88, 32]⟩ ++ ⟨#[40]⟩ ++ u ++ ⟨#[41]⟩ : ByteArray).toList) = true := by rw [beq_iff_eq]; exact hq1
      have hs1 : ((⟨#[88, 32]⟩ ++ ⟨#[40]⟩ ++ u : ByteArray).size : Int) ≤ 8388608 := by
        rw [ByteArray.size_append, ByteArray.size_append]
        have e1 : (⟨#[88, 32]⟩ : ByteArray).size ≤ 2 := by decide
        have e2 : (⟨#[40]⟩ : ByteArray).size = 1 := rfl
        omega
      clear hq hq1 hq2
      go_wp2_with fail
      refine (awake_any w8 (HX.out.below HB8.out)).mono ?_
      rintro x w9 ⟨rfl, hb9⟩
      have HB9 : Hid (Below w.heap.size w w9) := Lib.hid (HB8.out.trans (hb9.mono HB8.out.size))
      clear hb9
      go_wp2
      go_ret
      exact ⟨rfl, HB9.out⟩
set_option maxRecDepth 100000 in
set_option maxHeartbeats 8000000 in
theorem parts_2 (A : Option Addr) (m c : Nat) (e : List (Int × Int)) (NA : Option Addr) (n d : Nat) (N : List ByteArray) (op : Int) (w : World) (hm : m = e.length) (hA : PA w A e) (hm9 : m ≤ 4611686018427387904) (hn : n = N.length) (hnd : n ≤ d) (hn9 : n ≤ 4611686018427387904) (hN : RS encS 1 w NA N) (hx : LxW w)
    (hv : hvF N m = false) (hml : m < 24) (u : ByteArray) (hT : textV e N = (u, 0)) (hr : op.tmod 4 = 2) : Calls Tryd.prog 6 #[.slice A m c, .slice NA n d, .int .u8 op] w fun x w' => x = .returned (.bool true) ∧ Below w.heap.size w w' := by
  have HM := Lib.hid hm
  have HA := Lib.hid hA
  have HN := Lib.hid hn
  have HND := Lib.hid hnd
  have HRS := Lib.hid hN
  have HX := Lib.hid hx
  have HHV := Lib.hid (heavy_any A NA c m n d N w hm9 hn hn9 hN)
  have HT := Lib.hid hT
  rw [hv] at HHV
  have HS := Lib.hid (hv_no hv)
  have HPOS : Hid (0 < m) := Lib.hid (by rw [hm]; exact textV_pos_len (by rw [hT]))
  obtain ⟨g, HG⟩ : ∃ g, Hid (e ++ [((11 : Int), (0 : Int))] = g) := ⟨_, Lib.hid rfl⟩
  have HGL : Hid (m + 1 = g.length) := Lib.hid (by rw [← HG.out, List.length_append, ← hm]; rfl)
  obtain ⟨t, HTG, HTV⟩ : ∃ t : ByteArray, Hid (textV g N = (t, 0)) ∧ Hid (t = ⟨(hdF 11 ++ u.data.toList).toArray⟩ ∨ t = ⟨(hdF 11 ++ ([40] ++ (u.data.toList ++ [41]))).toArray⟩) := by
    obtain ⟨h1, h2⟩ := textV_more (e := e) (N := N) (k := 11) (by unfold One; decide) (by omega) (by rw [hT])
    rw [HG.out] at h1 h2
    refine ⟨(textV g N).1, Lib.hid (by rw [← h1]), Lib.hid ?_⟩
    rw [hT] at h2
    exact h2
  have HUS : Hid (u.size ≤ 600) := Lib.hid (by have h := textV_size (e := e) (N := N) (by rw [hT]); rw [hT] at h; exact h)
  clear hm hA hm9 hn hnd hn9 hN hx hT hv
  have hmi : ¬ ((m : Int) ≥ 24) := by omega
  go_enter Tryd.func6, Tryd.ntmps6
  go_wp2_with fail
  refine HHV.out.mono ?_
  rintro x w1 ⟨rfl, hb1⟩
  have HB1 := Lib.hid hb1
  clear hb1 HHV
  have HNM : Hid (NmS w NA n d N) := Lib.hid ⟨HRS.out, HN.out, HND.out, by rw [HN.out]; have := HS.out; omega⟩
  have HTC := Lib.hid (text_any A m c NA n d e N w1 HM.out (by have := HS.out; omega) (HA.out.below HB1.out) (HNM.out.below HB1.out) (HX.out.below HB1.out).ops)
  rw [HT.out] at HTC
  go_wp2_with fail
  refine HTC.out.mono ?_
  rintro x w2 ⟨rfl, hb2⟩
  have HB2 : Hid (Below w.heap.size w w2) := Lib.hid (HB1.out.trans (hb2.mono HB1.out.size))
  clear hb2 HTC
  dsimp only
  go_upto_region 7 with (fail)
  have HB3 : Hid (Below w.heap.size w (w2.alloc (.cells #[.string ⟨#[33]⟩, .string ⟨#[88, 32]⟩, .string ⟨#[70, 32]⟩, .string ⟨#[71, 32]⟩] 9))) := Lib.hid (HB2.out.alloc HB2.out.size _)
  generalize w2.alloc (.cells #[.string ⟨#[33]⟩, .string ⟨#[88, 32]⟩, .string ⟨#[70, 32]⟩, .string ⟨#[71, 32]⟩] 9) = w3 at *
  have HZ3 : Hid (w.heap.size ≤ w3.heap.size) := Lib.hid HB3.out.size
  go_cut [10] from 40 (fun v w' => ∃ (A7 : Option Addr) (c7 : Nat), v = .slice A7 (m + 1) c7 ∧ Hid (PA w' A7 g) ∧ Hid (Below w.heap.size w w'))
  case first =>
    refine wp_region_noPanic ?_
    go_region_law
      (first
        | (refine step_append_first encN_len encN_one Tryd.underlying22 infoN rfl (by decide) (by decide) w3.heap.size _ (by rfl) (.tmp 40) (.tmp 41) (by rfl) (by rfl) (by rfl) e A m c (by rfl) HM.out HPOS.out (pa_rs (HA.out.below (by repeat first | exact HB3.out | refine Below.drew ?_ | refine Below.alloc ?_ (by first | exact HZ3.out | (have := HZ3.out; simp; omega)) _))) (by omega) (by first | exact Nat.le_refl _ | omega | (simp; omega)) (by first | exact World.alloc_heap_new _ _ | exact heap_prev _ _ _ | exact heap_next _ _ _ | exact hp30 _ _ _ _ | exact hp31 _ _ _ _ | exact hp32 _ _ _ _) ?_; intro v4 w4 ho4 hg4; obtain ⟨A4, c4, q4, rfl⟩ := or_form encN_len ho4; have HO4 := Lib.hid ho4
           have HB4 : Hid (Below w.heap.size w w4) := Lib.hid (Below.grown (w' := _) (by repeat first | exact HB3.out | refine Below.drew ?_ | refine Below.alloc ?_ (by first | exact HZ3.out | (have := HZ3.out; simp; omega)) _) hg4 (by have := HZ3.out; first | exact HZ3.out | (simp; omega)) (fun k hk => by injection hk with hk; have := HZ3.out; omega))
           have HS4 : Hid (w3.heap.size ≤ w4.heap.size) := Lib.hid (by have h := hg4.size; simp at h; omega)
           (try have q0 : w4.cell? ⟨w3.heap.size, 2, none⟩ = some (.int .i64 11) := (World.cell?_of_block (a := ⟨w3.heap.size, 2, none⟩) (hg4.block (w3.heap.size) (by first | (simp; done) | (simp; omega)) (by intro e; injection e with e; first | omega | (simp at e; omega)))).trans (cell_of (cs := #[.int .i64 4, .int .i64 8, .int .i64 11, .int .i64 12]) (t := 3) (by first | exact World.alloc_heap_new _ _ | exact heap_prev _ _ _ | exact heap_next _ _ _ | exact hp30 _ _ _ _ | exact hp31 _ _ _ _ | exact hp32 _ _ _ _) 2))
           (try have n0 : w4.heap[w3.heap.size]? = some (.cells #[.int .i64 11, .int .i64 0] 39) := (hg4.block (w3.heap.size) (by first | (simp; done) | (simp; omega)) (by intro e; injection e with e; first | omega | (simp at e; omega))).trans (by first | exact World.alloc_heap_new _ _ | exact heap_prev _ _ _ | exact heap_next _ _ _ | exact hp30 _ _ _ _ | exact hp31 _ _ _ _ | exact hp32 _ _ _ _))
           (try have q1 : w4.cell? ⟨w3.heap.size + 1, 2, none⟩ = some (.int .i64 11) := (World.cell?_of_block (a := ⟨w3.heap.size + 1, 2, none⟩) (hg4.block (w3.heap.size + 1) (by first | (simp; done) | (simp; omega)) (by intro e; injection e with e; first | omega | (simp at e; omega)))).trans (cell_of (cs := #[.int .i64 4, .int .i64 8, .int .i64 11, .int .i64 12]) (t := 3) (by first | exact World.alloc_heap_new _ _ | exact heap_prev _ _ _ | exact heap_next _ _ _ | exact hp30 _ _ _ _ | exact hp31 _ _ _ _ | exact hp32 _ _ _ _) 2))
           (try have n1 : w4.heap[w3.heap.size + 1]? = some (.cells #[.int .i64 11, .int .i64 0] 39) := (hg4.block (w3.heap.size + 1) (by first | (simp; done) | (simp; omega)) (by intro e; injection e with e; first | omega | (simp at e; omega))).trans (by first | exact World.alloc_heap_new _ _ | exact heap_prev _ _ _ | exact heap_next _ _ _ | exact hp30 _ _ _ _ | exact hp31 _ _ _ _ | exact hp32 _ _ _ _))
           (try have q2 : w4.cell? ⟨w3.heap.size + 2, 2, none⟩ = some (.int .i64 11) := (World.cell?_of_block (a := ⟨w3.heap.size + 2, 2, none⟩) (hg4.block (w3.heap.size + 2) (by first | (simp; done) | (simp; omega)) (by intro e; injection e with e; first | omega | (simp at e; omega)))).trans (cell_of (cs := #[.int .i64 4, .int .i64 8, .int .i64 11, .int .i64 12]) (t := 3) (by first | exact World.alloc_heap_new _ _ | exact heap_prev _ _ _ | exact heap_next _ _ _ | exact hp30 _ _ _ _ | exact hp31 _ _ _ _ | exact hp32 _ _ _ _) 2))
           (try have n2 : w4.heap[w3.heap.size + 2]? = some (.cells #[.int .i64 11, .int .i64 0] 39) := (hg4.block (w3.heap.size + 2) (by first | (simp; done) | (simp; omega)) (by intro e; injection e with e; first | omega | (simp at e; omega))).trans (by first | exact World.alloc_heap_new _ _ | exact heap_prev _ _ _ | exact heap_next _ _ _ | exact hp30 _ _ _ _ | exact hp31 _ _ _ _ | exact hp32 _ _ _ _)))
        | (refine step_append_more encN_len encN_one Tryd.underlying22 infoN rfl (by decide) (by decide) w3.heap.size _ (by rfl) (.tmp 42) (.tmp 49) (by rfl) (by rfl) _ e (by rfl) (OR.below HO4.out (by repeat first | exact Below.refl _ _ | refine Below.drew ?_ | refine Below.alloc ?_ (by first | exact Nat.le_refl _ | (simp; done) | (simp; omega)) _)) (11, 0) _ (by rfl) (by rfl) (by rw [← HM.out]; omega) (by have := HS4.out; first | omega | (simp; omega)) _ (by first | exact World.alloc_heap_new _ _ | exact n0 | exact n1 | exact n2 | exact heap_next _ _ _) (m + 1) (by rw [← HM.out]) ?_; intro A5 c5 w5 ho5 hb5; rw [HG.out] at ho5; have HP5 := Lib.hid (rs_pa ho5); have HB5 : Hid (Below w.heap.size w w5) := Lib.hid (Below.trans (by repeat first | exact HB4.out | refine Below.drew ?_ | refine Below.alloc ?_ (by have := HZ3.out; have := HS4.out; first | omega | (simp; omega)) _) (hb5.mono HZ3.out)))
        | fail)
    all_goals
      refine NoPanic.normal ?_
      go_wp2
      go_meet
      case rel => exact ⟨_, _, rfl, HP5, HB5⟩
  case rest =>
    obtain ⟨A7, c7, rfl, HP7, HB7⟩ := hcut
    have HTD := Lib.hid (text_any A7 (m + 1) c7 NA n d g N wc HGL.out (by omega) HP7.out (HNM.out.below HB7.out) (HX.out.below HB7.out).ops)
    rw [HTG.out] at HTD
    go_wp2_with fail
    refine HTD.out.mono ?_
    rintro x w8 ⟨rfl, hb8⟩
    have HB8 : Hid (Below w.heap.size w w8) := Lib.hid (HB7.out.trans (hb8.mono HB7.out.size))
    clear hb8 HTD
    dsimp only
    have hus : (u.size : Int) ≤ 3000 := by have := HUS.out; omega
    rcases HTV.out with hq | hq
    · have ht1 : (t.toList == (⟨#[70, 32]⟩ ++ u : ByteArray).toList) = true := by rw [beq_iff_eq]; exact text_a rfl hq
      clear hq
      go_wp2_with fail
      refine (awake_any w8 (HX.out.below HB8.out)).mono ?_
      rintro x w9 ⟨rfl, hb9⟩
      have HB9 : Hid (Below w.heap.size w w9) := Lib.hid (HB8.out.trans (hb9.mono HB8.out.size))
      clear hb9
      go_wp2
      go_ret
      exact ⟨rfl, HB9.out⟩
    · obtain ⟨hq1, hq2⟩ := text_b (hd := #[70, 32]) rfl hq
      have ht1 : (t.toList == (⟨#[70, 32]⟩ ++ u : ByteArray).toList) = false := by rw [beq_eq_false_iff_ne]; exact hq2
      have ht2 : (t.toList == (⟨#[70, 32]⟩ ++ ⟨#[40]⟩ ++ u ++ ⟨#[41]⟩ : ByteArray).toList) = true := by rw [beq_iff_eq]; exact hq1
      have hs1 : ((⟨#[70, 32]⟩ ++ ⟨#[40]⟩ ++ u : ByteArray).size : Int) ≤ 8388608 := by
        rw [ByteArray.size_append, ByteArray.size_append]
        have e1 : (⟨#[70, 32]⟩ : ByteArray).size ≤ 2 := by decide
        have e2 : (⟨#[40]⟩ : ByteArray).size = 1 := rfl
        omega
      clear hq hq1 hq2
      go_wp2_with fail
      refine (awake_any w8 (HX.out.below HB8.out)).mono ?_
      rintro x w9 ⟨rfl, hb9⟩
      have HB9 : Hid (Below w.heap.size w w9) := Lib.hid (HB8.out.trans (hb9.mono HB8.out.size))
      clear hb9
      go_wp2
      go_ret
      exact ⟨rfl, HB9.out⟩
set_option maxRecDepth 100000 in
set_option maxHeartbeats 8000000 in
theorem parts_3 (A : Option Addr) (m c : Nat) (e : List (Int × Int)) (NA : Option Addr) (n d : Nat) (N : List ByteArray) (op : Int) (w : World) (hm : m = e.length) (hA : PA w A e) (hm9 : m ≤ 4611686018427387904) (hn : n = N.length) (hnd : n ≤ d) (hn9 : n ≤ 4611686018427387904) (hN : RS encS 1 w NA N) (hx : LxW w)
    (hv : hvF N m = false) (hml : m < 24) (u : ByteArray) (hT : textV e N = (u, 0)) (hr : op.tmod 4 = 3) : Calls Tryd.prog 6 #[.slice A m c, .slice NA n d, .int .u8 op] w fun x w' => x = .returned (.bool true) ∧ Below w.heap.size w w' := by
  have HM := Lib.hid hm
  have HA := Lib.hid hA
  have HN := Lib.hid hn
  have HND := Lib.hid hnd
  have HRS := Lib.hid hN
  have HX := Lib.hid hx
  have HHV := Lib.hid (heavy_any A NA c m n d N w hm9 hn hn9 hN)
  have HT := Lib.hid hT
  rw [hv] at HHV
  have HS := Lib.hid (hv_no hv)
  have HPOS : Hid (0 < m) := Lib.hid (by rw [hm]; exact textV_pos_len (by rw [hT]))
  obtain ⟨g, HG⟩ : ∃ g, Hid (e ++ [((12 : Int), (0 : Int))] = g) := ⟨_, Lib.hid rfl⟩
  have HGL : Hid (m + 1 = g.length) := Lib.hid (by rw [← HG.out, List.length_append, ← hm]; rfl)
  obtain ⟨t, HTG, HTV⟩ : ∃ t : ByteArray, Hid (textV g N = (t, 0)) ∧ Hid (t = ⟨(hdF 12 ++ u.data.toList).toArray⟩ ∨ t = ⟨(hdF 12 ++ ([40] ++ (u.data.toList ++ [41]))).toArray⟩) := by
    obtain ⟨h1, h2⟩ := textV_more (e := e) (N := N) (k := 12) (by unfold One; decide) (by omega) (by rw [hT])
    rw [HG.out] at h1 h2
    refine ⟨(textV g N).1, Lib.hid (by rw [← h1]), Lib.hid ?_⟩
    rw [hT] at h2
    exact h2
  have HUS : Hid (u.size ≤ 600) := Lib.hid (by have h := textV_size (e := e) (N := N) (by rw [hT]); rw [hT] at h; exact h)
  clear hm hA hm9 hn hnd hn9 hN hx hT hv
  have hmi : ¬ ((m : Int) ≥ 24) := by omega
  go_enter Tryd.func6, Tryd.ntmps6
  go_wp2_with fail
  refine HHV.out.mono ?_
  rintro x w1 ⟨rfl, hb1⟩
  have HB1 := Lib.hid hb1
  clear hb1 HHV
  have HNM : Hid (NmS w NA n d N) := Lib.hid ⟨HRS.out, HN.out, HND.out, by rw [HN.out]; have := HS.out; omega⟩
  have HTC := Lib.hid (text_any A m c NA n d e N w1 HM.out (by have := HS.out; omega) (HA.out.below HB1.out) (HNM.out.below HB1.out) (HX.out.below HB1.out).ops)
  rw [HT.out] at HTC
  go_wp2_with fail
  refine HTC.out.mono ?_
  rintro x w2 ⟨rfl, hb2⟩
  have HB2 : Hid (Below w.heap.size w w2) := Lib.hid (HB1.out.trans (hb2.mono HB1.out.size))
  clear hb2 HTC
  dsimp only
  go_upto_region 7 with (fail)
  have HB3 : Hid (Below w.heap.size w (w2.alloc (.cells #[.string ⟨#[33]⟩, .string ⟨#[88, 32]⟩, .string ⟨#[70, 32]⟩, .string ⟨#[71, 32]⟩] 9))) := Lib.hid (HB2.out.alloc HB2.out.size _)
  generalize w2.alloc (.cells #[.string ⟨#[33]⟩, .string ⟨#[88, 32]⟩, .string ⟨#[70, 32]⟩, .string ⟨#[71, 32]⟩] 9) = w3 at *
  have HZ3 : Hid (w.heap.size ≤ w3.heap.size) := Lib.hid HB3.out.size
  go_cut [10] from 40 (fun v w' => ∃ (A7 : Option Addr) (c7 : Nat), v = .slice A7 (m + 1) c7 ∧ Hid (PA w' A7 g) ∧ Hid (Below w.heap.size w w'))
  case first =>
    refine wp_region_noPanic ?_
    go_region_law
      (first
        | (refine step_append_first encN_len encN_one Tryd.underlying22 infoN rfl (by decide) (by decide) w3.heap.size _ (by rfl) (.tmp 40) (.tmp 41) (by rfl) (by rfl) (by rfl) e A m c (by rfl) HM.out HPOS.out (pa_rs (HA.out.below (by repeat first | exact HB3.out | refine Below.drew ?_ | refine Below.alloc ?_ (by first | exact HZ3.out | (have := HZ3.out; simp; omega)) _))) (by omega) (by first | exact Nat.le_refl _ | omega | (simp; omega)) (by first | exact World.alloc_heap_new _ _ | exact heap_prev _ _ _ | exact heap_next _ _ _ | exact hp30 _ _ _ _ | exact hp31 _ _ _ _ | exact hp32 _ _ _ _) ?_; intro v4 w4 ho4 hg4; obtain ⟨A4, c4, q4, rfl⟩ := or_form encN_len ho4; have HO4 := Lib.hid ho4
           have HB4 : Hid (Below w.heap.size w w4) := Lib.hid (Below.grown (w' := _) (by repeat first | exact HB3.out | refine Below.drew ?_ | refine Below.alloc ?_ (by first | exact HZ3.out | (have := HZ3.out; simp; omega)) _) hg4 (by have := HZ3.out; first | exact HZ3.out | (simp; omega)) (fun k hk => by injection hk with hk; have := HZ3.out; omega))
           have HS4 : Hid (w3.heap.size ≤ w4.heap.size) := Lib.hid (by have h := hg4.size; simp at h; omega)
           (try have q0 : w4.cell? ⟨w3.heap.size, 3, none⟩ = some (.int .i64 12) := (World.cell?_of_block (a := ⟨w3.heap.size, 3, none⟩) (hg4.block (w3.heap.size) (by first | (simp; done) | (simp; omega)) (by intro e; injection e with e; first | omega | (simp at e; omega)))).trans (cell_of (cs := #[.int .i64 4, .int .i64 8, .int .i64 11, .int .i64 12]) (t := 3) (by first | exact World.alloc_heap_new _ _ | exact heap_prev _ _ _ | exact heap_next _ _ _ | exact hp30 _ _ _ _ | exact hp31 _ _ _ _ | exact hp32 _ _ _ _) 3))
           (try have n0 : w4.heap[w3.heap.size]? = some (.cells #[.int .i64 12, .int .i64 0] 39) := (hg4.block (w3.heap.size) (by first | (simp; done) | (simp; omega)) (by intro e; injection e with e; first | omega | (simp at e; omega))).trans (by first | exact World.alloc_heap_new _ _ | exact heap_prev _ _ _ | exact heap_next _ _ _ | exact hp30 _ _ _ _ | exact hp31 _ _ _ _ | exact hp32 _ _ _ _))
           (try have q1 : w4.cell? ⟨w3.heap.size + 1, 3, none⟩ = some (.int .i64 12) := (World.cell?_of_block (a := ⟨w3.heap.size + 1, 3, none⟩) (hg4.block (w3.heap.size + 1) (by first | (simp; done) | (simp; omega)) (by intro e; injection e with e; first | omega | (simp at e; omega)))).trans (cell_of (cs := #[.int .i64 4, .int .i64 8, .int .i64 11, .int .i64 12]) (t := 3) (by first | exact World.alloc_heap_new _ _ | exact heap_prev _ _ _ | exact heap_next _ _ _ | exact hp30 _ _ _ _ | exact hp31 _ _ _ _ | exact hp32 _ _ _ _) 3))
           (try have n1 : w4.heap[w3.heap.size + 1]? = some (.cells #[.int .i64 12, .int .i64 0] 39) := (hg4.block (w3.heap.size + 1) (by first | (simp; done) | (simp; omega)) (by intro e; injection e with e; first | omega | (simp at e; omega))).trans (by first | exact World.alloc_heap_new _ _ | exact heap_prev _ _ _ | exact heap_next _ _ _ | exact hp30 _ _ _ _ | exact hp31 _ _ _ _ | exact hp32 _ _ _ _))
           (try have q2 : w4.cell? ⟨w3.heap.size + 2, 3, none⟩ = some (.int .i64 12) := (World.cell?_of_block (a := ⟨w3.heap.size + 2, 3, none⟩) (hg4.block (w3.heap.size + 2) (by first | (simp; done) | (simp; omega)) (by intro e; injection e with e; first | omega | (simp at e; omega)))).trans (cell_of (cs := #[.int .i64 4, .int .i64 8, .int .i64 11, .int .i64 12]) (t := 3) (by first | exact World.alloc_heap_new _ _ | exact heap_prev _ _ _ | exact heap_next _ _ _ | exact hp30 _ _ _ _ | exact hp31 _ _ _ _ | exact hp32 _ _ _ _) 3))
           (try have n2 : w4.heap[w3.heap.size + 2]? = some (.cells #[.int .i64 12, .int .i64 0] 39) := (hg4.block (w3.heap.size + 2) (by first | (simp; done) | (simp; omega)) (by intro e; injection e with e; first | omega | (simp at e; omega))).trans (by first | exact World.alloc_heap_new _ _ | exact heap_prev _ _ _ | exact heap_next _ _ _ | exact hp30 _ _ _ _ | exact hp31 _ _ _ _ | exact hp32 _ _ _ _)))
        | (refine step_append_more encN_len encN_one Tryd.underlying22 infoN rfl (by decide) (by decide) w3.heap.size _ (by rfl) (.tmp 42) (.tmp 49) (by rfl) (by rfl) _ e (by rfl) (OR.below HO4.out (by repeat first | exact Below.refl _ _ | refine Below.drew ?_ | refine Below.alloc ?_ (by first | exact Nat.le_refl _ | (simp; done) | (simp; omega)) _)) (12, 0) _ (by rfl) (by rfl) (by rw [← HM.out]; omega) (by have := HS4.out; first | omega | (simp; omega)) _ (by first | exact World.alloc_heap_new _ _ | exact n0 | exact n1 | exact n2 | exact heap_next _ _ _) (m + 1) (by rw [← HM.out]) ?_; intro A5 c5 w5 ho5 hb5; rw [HG.out] at ho5; have HP5 := Lib.hid (rs_pa ho5); have HB5 : Hid (Below w.heap.size w w5) := Lib.hid (Below.trans (by repeat first | exact HB4.out | refine Below.drew ?_ | refine Below.alloc ?_ (by have := HZ3.out; have := HS4.out; first | omega | (simp; omega)) _) (hb5.mono HZ3.out)))
        | fail)
    all_goals
      refine NoPanic.normal ?_
      go_wp2
      go_meet
      case rel => exact ⟨_, _, rfl, HP5, HB5⟩
  case rest =>
    obtain ⟨A7, c7, rfl, HP7, HB7⟩ := hcut
    have HTD := Lib.hid (text_any A7 (m + 1) c7 NA n d g N wc HGL.out (by omega) HP7.out (HNM.out.below HB7.out) (HX.out.below HB7.out).ops)
    rw [HTG.out] at HTD
    go_wp2_with fail
    refine HTD.out.mono ?_
    rintro x w8 ⟨rfl, hb8⟩
    have HB8 : Hid (Below w.heap.size w w8) := Lib.hid (HB7.out.trans (hb8.mono HB7.out.size))
    clear hb8 HTD
    dsimp only
    have hus : (u.size : Int) ≤ 3000 := by have := HUS.out; omega
    rcases HTV.out with hq | hq
    · have ht1 : (t.toList == (⟨#[71, 32]⟩ ++ u : ByteArray).toList) = true := by rw [beq_iff_eq]; exact text_a rfl hq
      clear hq
      go_wp2_with fail
      refine (awake_any w8 (HX.out.below HB8.out)).mono ?_
      rintro x w9 ⟨rfl, hb9⟩
      have HB9 : Hid (Below w.heap.size w w9) := Lib.hid (HB8.out.trans (hb9.mono HB8.out.size))
      clear hb9
      go_wp2
      go_ret
      exact ⟨rfl, HB9.out⟩
    · obtain ⟨hq1, hq2⟩ := text_b (hd := #[71, 32]) rfl hq
      have ht1 : (t.toList == (⟨#[71, 32]⟩ ++ u : ByteArray).toList) = false := by rw [beq_eq_false_iff_ne]; exact hq2
      have ht2 : (t.toList == (⟨#[71, 32]⟩ ++ ⟨#[40]⟩ ++ u ++ ⟨#[41]⟩ : ByteArray).toList) = true := by rw [beq_iff_eq]; exact hq1
      have hs1 : ((⟨#[71, 32]⟩ ++ ⟨#[40]⟩ ++ u : ByteArray).size : Int) ≤ 8388608 := by
        rw [ByteArray.size_append, ByteArray.size_append]
        have e1 : (⟨#[71, 32]⟩ : ByteArray).size ≤ 2 := by decide
        have e2 : (⟨#[40]⟩ : ByteArray).size = 1 := rfl
        omega
      clear hq hq1 hq2
      go_wp2_with fail
      refine (awake_any w8 (HX.out.below HB8.out)).mono ?_
      rintro x w9 ⟨rfl, hb9⟩
      have HB9 : Hid (Below w.heap.size w w9) := Lib.hid (HB8.out.trans (hb9.mono HB8.out.size))
      clear hb9
      go_wp2
      go_ret
      exact ⟨rfl, HB9.out⟩
set_option maxRecDepth 100000 in
set_option maxHeartbeats 8000000 in
theorem ltextParts_any (A : Option Addr) (m c : Nat) (e : List (Int × Int)) (NA : Option Addr) (n d : Nat) (N : List ByteArray) (op : Int) (w : World) (hm : m = e.length) (hA : PA w A e) (hm9 : m ≤ 4611686018427387904) (hn : n = N.length) (hnd : n ≤ d) (hn9 : n ≤ 4611686018427387904) (hN : RS encS 1 w NA N)
    (hop : 0 ≤ op ∧ op ≤ 255) (hx : LxW w) : Calls Tryd.prog 6 #[.slice A m c, .slice NA n d, .int .u8 op] w fun x w' => x = .returned (.bool true) ∧ Below w.heap.size w w' := by
  by_cases hgood : hvF N m = false ∧ m < 24 ∧ (textV e N).2 = 0
  · obtain ⟨hv, hml, hT⟩ := hgood
    have hT2 : textV e N = ((textV e N).1, 0) := by rw [← hT]
    have h4 : op.tmod 4 = op % 4 := Int.tmod_eq_emod_of_nonneg hop.1
    have h5 : op % 4 = 0 ∨ op % 4 = 1 ∨ op % 4 = 2 ∨ op % 4 = 3 := by omega
    rcases h5 with h5 | h5 | h5 | h5
    · exact parts_0 A m c e NA n d N op w hm hA hm9 hn hnd hn9 hN hx hv hml _ hT2 (h4.trans h5)
    · exact parts_1 A m c e NA n d N op w hm hA hm9 hn hnd hn9 hN hx hv hml _ hT2 (h4.trans h5)
    · exact parts_2 A m c e NA n d N op w hm hA hm9 hn hnd hn9 hN hx hv hml _ hT2 (h4.trans h5)
    · exact parts_3 A m c e NA n d N op w hm hA hm9 hn hnd hn9 hN hx hv hml _ hT2 (h4.trans h5)
  · have HM := Lib.hid hm
    have HA := Lib.hid hA
    have HN := Lib.hid hn
    have HND := Lib.hid hnd
    have HRS := Lib.hid hN
    have HX := Lib.hid hx
    have HGD := Lib.hid hgood
    have HHV := Lib.hid (heavy_any A NA c m n d N w hm9 hn hn9 hN)
    obtain ⟨hv, HV⟩ : ∃ b, Hid (hvF N m = b) := ⟨_, Lib.hid rfl⟩
    rw [HV.out] at HHV
    clear hm hA hm9 hn hnd hn9 hN hx hgood hop
    go_enter Tryd.func6, Tryd.ntmps6
    go_wp2_with fail
    refine HHV.out.mono ?_
    rintro x w1 ⟨rfl, hb1⟩
    have HB1 := Lib.hid hb1
    clear hb1 HHV
    cases hv with
    | true =>
      go_wp2_with fail
      refine (awake_any w1 (HX.out.below HB1.out)).mono ?_
      rintro x w2 ⟨rfl, hb2⟩
      have HB2 : Hid (Below w.heap.size w w2) := Lib.hid (HB1.out.trans (hb2.mono HB1.out.size))
      clear hb2
      go_wp2
      go_ret
      exact ⟨rfl, HB2.out⟩
    | false =>
      have HS := Lib.hid (hv_no HV.out)
      by_cases hml : m < 24
      · have hmi : ¬ ((m : Int) ≥ 24) := by omega
        have HNM : Hid (NmS w NA n d N) := Lib.hid ⟨HRS.out, HN.out, HND.out, by rw [HN.out]; have := HS.out; omega⟩
        have HTC := Lib.hid (text_any A m c NA n d e N w1 HM.out (by have := HS.out; omega) (HA.out.below HB1.out) (HNM.out.below HB1.out) (HX.out.below HB1.out).ops)
        obtain ⟨u, uy, HT⟩ : ∃ u uy, Hid (textV e N = (u, uy)) := ⟨_, _, Lib.hid rfl⟩
        have HUY : Hid (uy ≠ 0) := Lib.hid (fun h => HGD.out ⟨HV.out, hml, by rw [HT.out]; exact h⟩)
        have hub : (uy != 0) = true := by simpa using HUY.out
        have HUE : Hid (u = ⟨#[]⟩) := Lib.hid (by have h := textV_bad (e := e) (N := N) (by rw [HT.out]; exact HUY.out); rw [HT.out] at h; exact h)
        rw [HT.out] at HTC
        have hue := HUE.out
        subst hue
        go_wp2_with fail
        refine HTC.out.mono ?_
        rintro x w2 ⟨rfl, hb2⟩
        have HB2 : Hid (Below w.heap.size w w2) := Lib.hid (HB1.out.trans (hb2.mono HB1.out.size))
        clear hb2 HTC
        dsimp only
        go_wp2_with fail
        refine (awake_any w2 (HX.out.below HB2.out)).mono ?_
        rintro x w3 ⟨rfl, hb3⟩
        have HB3 : Hid (Below w.heap.size w w3) := Lib.hid (HB2.out.trans (hb3.mono HB2.out.size))
        clear hb3
        go_wp2
        go_ret
        exact ⟨rfl, HB3.out⟩
      · have hmi : (m : Int) ≥ 24 := by omega
        go_wp2_with fail
        refine (awake_any w1 (HX.out.below HB1.out)).mono ?_
        rintro x w2 ⟨rfl, hb2⟩
        have HB2 : Hid (Below w.heap.size w w2) := Lib.hid (HB1.out.trans (hb2.mono HB1.out.size))
        clear hb2
        go_wp2
        go_ret
        exact ⟨rfl, HB2.out⟩
end Go.Proofs.YthjpjcjmiaojcaaDoor.tx
