/- The laws' own example of declarations: what it tells is true. -/
import Derived.Test.YtodloljpfbkkjaaRRRRDeclAll
namespace Go.Proofs.YtodloljpfbkkjaaRRRR.dcl
open Go.ChangeShapes Go.WideShapes Go.ChangeAt Go.RowKit Go.Proofs.YtodloljpfbkkjaaRRRR.lx

def nx : ByteArray := ⟨#[120]⟩
def nS : ByteArray := ⟨#[83]⟩
def nT : ByteArray := ⟨#[84]⟩
def nc : ByteArray := ⟨#[99]⟩
def av1 : List VarR := [⟨nx, 0, 0, 0, 3, 0⟩, ⟨nx, 0, 0, 0, 0, 0⟩]
def av2 : List VarR := [⟨nx, 0, 0, 0, 256, 0⟩]
def as1 : List ScR := [⟨nS, 2⟩, ⟨nT, 5⟩]
def as2 : List ScR := [⟨⟨#[]⟩, 3⟩]
def ac1 : List ChR := [⟨nc, 0, 1, 0, 0, true⟩]
theorem toList1 (b : UInt8) : (ByteArray.mk #[b]).toList = [b] := by
  simp [ByteArray.toList, ByteArray.toList.loop, ByteArray.size, ByteArray.get!]
theorem stop1 (b : UInt8) (h : b.toNat < 128) : stopF okB ⟨#[b]⟩ 1 0 = if okB 0 b.toNat then 1 else 0 := by
  have hd : Utf8.decode ⟨#[b]⟩ 0 = (b.toNat, 1) := by
    have hg : (ByteArray.mk #[b]).get! 0 = b := rfl
    simp [Utf8.decode, hg, h]
  simp [stopF, hd, ByteArray.size]
theorem name1 (b : UInt8) (h : letB b.toNat = true) (hb : b.toNat < 128) : nameB ⟨#[b]⟩ = true := by
  have hk : kwB ⟨#[b]⟩ = false := by unfold kwB kw1 kw2 kw3 kw4; rw [toList1]; simp
  have hs : (ByteArray.mk #[b]).size = 1 := rfl
  unfold nameB
  rw [hk, hs, stop1 b hb]
  simp [okB, h]
theorem nx_name : nameB nx = true := name1 120 (by decide) (by decide)
theorem nS_name : nameB nS = true := name1 83 (by decide) (by decide)
theorem nT_name : nameB nT = true := name1 84 (by decide) (by decide)
theorem nc_name : nameB nc = true := name1 99 (by decide) (by decide)
theorem av1_f : varsF [] 9 av1 = (1, 7) := by
  unfold varsF
  rw [declAt_step default _ _ _ _ 0 (by decide), if_neg (by decide)]
  rw [show (av1.getD 0 default).name = nx from rfl, nx_name, if_neg (by decide), if_neg (by decide), if_neg (by decide)]
  rw [declAt_step default _ _ _ _ 1 (by decide), if_neg (by decide)]
  rw [show (av1.getD 1 default).name = nx from rfl, nx_name, if_neg (by decide), if_pos (by decide)]
  rfl
theorem av2_f : varsF [] 9 av2 = (0, 10) := by
  unfold varsF
  rw [declAt_step default _ _ _ _ 0 (by decide), if_neg (by decide)]
  rw [show (av2.getD 0 default).name = nx from rfl, nx_name, if_neg (by decide), if_neg (by decide), if_pos (by decide)]
  rfl
theorem as1_f : scalarsF as1 = (1, 10) := by
  unfold scalarsF
  rw [declAt_step default _ _ _ _ 0 (by decide), if_neg (by decide)]
  rw [show (as1.getD 0 default).name = nS from rfl, nS_name, if_neg (by decide), if_neg (by decide), if_neg (by decide)]
  rw [declAt_step default _ _ _ _ 1 (by decide), if_neg (by decide)]
  rw [show (as1.getD 1 default).name = nT from rfl, nT_name, if_neg (by decide), if_neg (by decide), if_pos (by decide)]
  rfl
theorem ac1_f : chansF [] ac1 = (0, 0) := by
  unfold chansF
  rw [declAt_step default _ _ _ _ 0 (by decide), if_neg (by decide)]
  rw [show (ac1.getD 0 default).name = nc from rfl, nc_name, if_neg (by decide), if_neg (by decide), if_neg (by decide)]
  rw [declAt_end _ _ _ _ _ (by decide)]
theorem ab_f : boundsF as2 ⟨⟨#[]⟩, 1, 0, 0, 0, 0⟩ = (0, 3) := by decide
theorem al_f : cellsF as2 ⟨⟨#[]⟩, 0, 1, 0, 0, 0⟩ = 3 := by decide

theorem dv1 (w : World) : DV (w.alloc (.cells #[.string nx, .int .i64 0, .int .i64 0, .int .i64 0, .int .i64 3, .int .i64 0, .string nx, .int .i64 0, .int .i64 0, .int .i64 0, .int .i64 0, .int .i64 0] 53)) (some ⟨w.heap.size, 0, none⟩) av1 := fun _ => by
  refine ⟨_, 0, rfl, by simp, fun i hi => ?_⟩
  have hi : i < 2 := hi
  rcases i with _|_|i
  all_goals first
    | exact ⟨World.cell?_alloc_at _ _ _ _ rfl, World.cell?_alloc_at _ _ _ _ rfl, World.cell?_alloc_at _ _ _ _ rfl, World.cell?_alloc_at _ _ _ _ rfl, World.cell?_alloc_at _ _ _ _ rfl, World.cell?_alloc_at _ _ _ _ rfl⟩
    | omega
theorem dv2 (w : World) : DV (w.alloc (.cells #[.string nx, .int .i64 0, .int .i64 0, .int .i64 0, .int .i64 256, .int .i64 0] 53)) (some ⟨w.heap.size, 0, none⟩) av2 := fun _ => by
  refine ⟨_, 0, rfl, by simp, fun i hi => ?_⟩
  have hi : i < 1 := hi
  rcases i with _|i
  all_goals first
    | exact ⟨World.cell?_alloc_at _ _ _ _ rfl, World.cell?_alloc_at _ _ _ _ rfl, World.cell?_alloc_at _ _ _ _ rfl, World.cell?_alloc_at _ _ _ _ rfl, World.cell?_alloc_at _ _ _ _ rfl, World.cell?_alloc_at _ _ _ _ rfl⟩
    | omega
theorem ds1 (w : World) : DS (w.alloc (.cells #[.string nS, .int .i64 2, .string nT, .int .i64 5] 41)) (some ⟨w.heap.size, 0, none⟩) as1 := fun _ => by
  refine ⟨_, 0, rfl, by simp, fun i hi => ?_⟩
  have hi : i < 2 := hi
  rcases i with _|_|i
  all_goals first
    | exact ⟨World.cell?_alloc_at _ _ _ _ rfl, World.cell?_alloc_at _ _ _ _ rfl⟩
    | omega
theorem ds2 (w : World) : DS (w.alloc (.cells #[.string ⟨#[]⟩, .int .i64 3] 41)) (some ⟨w.heap.size, 0, none⟩) as2 := fun _ => by
  refine ⟨_, 0, rfl, by simp, fun i hi => ?_⟩
  have hi : i < 1 := hi
  rcases i with _|i
  all_goals first
    | exact ⟨World.cell?_alloc_at _ _ _ _ rfl, World.cell?_alloc_at _ _ _ _ rfl⟩
    | omega
theorem dc1 (w : World) : DC (w.alloc (.cells #[.string nc, .int .i64 0, .int .i64 1, .int .i64 0, .int .i64 0, .bool true] 55)) (some ⟨w.heap.size, 0, none⟩) ac1 := fun _ => by
  refine ⟨_, 0, rfl, by simp, fun i hi => ?_⟩
  have hi : i < 1 := hi
  rcases i with _|i
  all_goals first
    | exact ⟨World.cell?_alloc_at _ _ _ _ rfl, World.cell?_alloc_at _ _ _ _ rfl, World.cell?_alloc_at _ _ _ _ rfl, World.cell?_alloc_at _ _ _ _ rfl, World.cell?_alloc_at _ _ _ _ rfl, World.cell?_alloc_at _ _ _ _ rfl⟩
    | omega
def noSX : SX := ⟨none, 0, 0⟩
theorem no_sl (w : World) : SL w noSX [] := ⟨rfl, by decide, DS.nil _ _⟩

theorem awake_any (w : World) : Calls Try.prog 11 #[] w (LawPost w) := by
  go_enter Try.func11, Try.ntmps11
  go_wp2_with fail
  refine (vars_any noSX [] av1 _ 2 2 9 _ (no_sl _) rfl (by decide) (dv1 _) (by intro x hx; simp [av1] at hx; rcases hx with rfl | rfl <;> decide)).mono ?_
  rw [av1_f]
  rintro e w1 ⟨rfl, hb1⟩
  have HB1 := Lib.hid (bthen (below_alloc1 w _) hb1)
  clear hb1
  go_wp2_with fail
  refine (vars_any noSX [] av2 _ 1 1 9 _ (no_sl _) rfl (by decide) (dv2 _) (by intro x hx; simp [av2] at hx; rcases hx with rfl; decide)).mono ?_
  rw [av2_f]
  rintro e w2 ⟨rfl, hb2⟩
  have HB2 := Lib.hid (bthen HB1.out (bthen (below_alloc1 w1 _) hb2))
  clear hb2
  go_wp2_with fail
  refine (scalars_any as1 _ 2 2 _ rfl (by decide) (ds1 _) (by intro x hx; simp [as1] at hx; rcases hx with rfl | rfl <;> decide)).mono ?_
  rw [as1_f]
  rintro e w3 ⟨rfl, hb3⟩
  have HB3 := Lib.hid (bthen HB2.out (bthen (below_alloc1 w2 _) hb3))
  clear hb3
  go_wp2_with fail
  refine (chans_any noSX [] ac1 _ 1 1 _ (no_sl _) rfl (by decide) (dc1 _) (by intro x hx; simp [ac1] at hx; rcases hx with rfl; decide)).mono ?_
  rw [ac1_f]
  rintro e w4 ⟨rfl, hb4⟩
  have HB4 := Lib.hid (bthen HB3.out (bthen (below_alloc1 w3 _) hb4))
  clear hb4
  go_wp2_with fail
  refine (bounds_any ⟨some ⟨w4.heap.size, 0, none⟩, 1, 1⟩ as2 ⟨⟨#[]⟩, 1, 0, 0, 0, 0⟩ _ ⟨rfl, (by decide : 1 ≤ 1000000000000000), ds2 _⟩).mono ?_
  rw [ab_f]
  rintro e w5 ⟨rfl, hb5⟩
  have HB5 := Lib.hid (bthen HB4.out (bthen (below_alloc1 w4 _) hb5))
  clear hb5
  go_wp2_with fail
  refine (cells_any ⟨some ⟨w5.heap.size, 0, none⟩, 1, 1⟩ as2 ⟨⟨#[]⟩, 0, 1, 0, 0, 0⟩ _ ⟨rfl, (by decide : 1 ≤ 1000000000000000), ds2 _⟩).mono ?_
  rw [al_f]
  rintro e w6 ⟨rfl, hb6⟩
  have HB6 := Lib.hid (bthen HB5.out (bthen (below_alloc1 w5 _) hb6))
  clear hb6
  go_wp2
  go_ret
  exact ⟨rfl, HB6.out⟩
end Go.Proofs.YtodloljpfbkkjaaRRRR.dcl
