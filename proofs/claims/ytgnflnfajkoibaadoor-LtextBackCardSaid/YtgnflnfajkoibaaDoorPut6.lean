/- Contracts that the claim stands on, several texts in one: LtxText, LtlNone, LtlWrong, LtlRefused. -/
import Derived.Deep.RegionHeld3
import Derived.Laws.Append
import Derived.Shelf.Abstract
import Derived.Test.YtgnflnfajkoibaaDoorPut1
import Derived.Test.YtgnflnfajkoibaaDoorPut2
import Derived.Test.YtgnflnfajkoibaaDoorPut3
import Derived.Test.YtgnflnfajkoibaaDoorPut4
import Derived.Test.YtgnflnfajkoibaaDoorPut5
namespace Go.Proofs.YtgnflnfajkoibaaDoor.tx
open Go.ChangeShapes Go.WideShapes Go.ChangeAt Go.RowKit Go.Deep sr lt

theorem str_add {P : Program} {x y z : ByteArray} (hz : x ++ y = z) (h : x.size + y.size ≤ 9000000000) (W : World) : (Op.stringOp .add x y).run P W = .ok (.string z) W := by
  subst hz
  simp [Op.stringOp]
  omega
theorem size_app (x y : ByteArray) : (x ++ y).size = x.size + y.size := ByteArray.size_append
theorem mk_app (x y : List UInt8) : (⟨x.toArray⟩ : ByteArray) ++ ⟨y.toArray⟩ = ⟨(x ++ y).toArray⟩ := by
  apply ByteArray.ext
  simp
theorem size_mk (l : List UInt8) : (⟨l.toArray⟩ : ByteArray).size = l.length := by simp [ByteArray.size]
theorem mk_data (s : ByteArray) : (⟨s.data.toList.toArray⟩ : ByteArray) = s := by simp
/-- The names' bytes. -/
def NL (N : List ByteArray) : List (List UInt8) := N.map fun s => s.data.toList
theorem NL_at (N : List ByteArray) (i : Nat) : (NL N).getD i [] = (N.getD i default).data.toList := by
  unfold NL
  by_cases h : i < N.length
  · simp [List.getD, h]
  · simp [List.getD, Nat.le_of_not_lt h]
    rfl
/-- What a writer asks: a formula and its names, all of which may be. -/
structure WrOk (w : World) (A : Option Addr) (m c : Nat) (NA : Option Addr) (n d : Nat) (e : List (Int × Int)) (N : List ByteArray) : Prop where
  pa : PA w A e
  lm : m = e.length
  mm : m ≤ 100
  nm : NmS w NA n d N
  is_ : wrF 0 e = 0
  ow : OpsW w
  ok : ∀ i q, i < e.length → e.getD i (0, 0) = (3, q) → q.toNat < n ∧ (N.getD q.toNat default).size ≤ 16
theorem WrOk.below {w w' : World} {A : Option Addr} {m c : Nat} {NA : Option Addr} {n d : Nat} {e : List (Int × Int)} {N : List ByteArray} (h : WrOk w A m c NA n d e N) (hb : Below w.heap.size w w') : WrOk w' A m c NA n d e N :=
  ⟨h.pa.below hb, h.lm, h.mm, h.nm.below hb, h.is_, h.ow.keep hb, h.ok⟩
def tB (e : List (Int × Int)) (N : List ByteArray) (f i : Nat) (a : Int) : ByteArray := ⟨(txF e (NL N) f i a).toArray⟩
def bB (e : List (Int × Int)) (N : List ByteArray) (f i : Nat) (o : Opr) : ByteArray := ⟨(bareF e (NL N) f i o).toArray⟩
theorem tB_size {w : World} {A : Option Addr} {m c : Nat} {NA : Option Addr} {n d : Nat} {e : List (Int × Int)} {N : List ByteArray} (h : WrOk w A m c NA n d e N) (f i : Nat) (a : Int) (hi : i < e.length) : (tB e N f i a).size ≤ 3000 := by
  unfold tB
  rw [size_mk]
  obtain ⟨v, hv, hvi⟩ : ∃ v : Nat, (outF e e.length).getD i 0 = (v : Int) ∧ v ≤ i := by
    rcases whole_of h.is_ hi with ⟨_, h2⟩ | ⟨j, v, g1, g2, _, g4, _⟩ | ⟨j, q, v, g1, g2, g3, _, g5, _, _⟩
    · exact ⟨i, h2, Nat.le_refl _⟩
    · exact ⟨v, g4, by omega⟩
    · exact ⟨v, g5, by omega⟩
  have := txF_len (N := NL N) h.is_ (fun j q hj hq => by
    rw [NL_at]
    have := (h.ok j q hj hq).2
    rw [← mk_data (N.getD q.toNat default), size_mk] at this
    exact this) f i a v hi hv hvi
  have := h.lm
  have := h.mm
  omega
def StrP (s : ByteArray) (w : World) (e : Ending) (w' : World) : Prop := e = .returned (.string s) ∧ Below w.heap.size w w'
/-- .. from an elder world on. -/
def StrQ (s : ByteArray) (w : World) (e : Ending) (w' : World) : Prop := e = .returned (.string s) ∧ Below w.heap.size w w'
/-- part, of fuel f. -/
def PartC (A : Option Addr) (m c : Nat) (NA : Option Addr) (n d : Nat) (e : List (Int × Int)) (N : List ByteArray) (f : Nat) : Prop :=
  ∀ (i : Nat) (a : Int) (w : World), i < f → i < m → WrOk w A m c NA n d e N → Calls Tryd.prog 16 #[.agg #[.slice A m c, .slice NA n d], .int .i64 i, .int .i64 a] w (StrP (tB e N f i a) w)

set_option maxRecDepth 20000 in
set_option maxHeartbeats 8000000 in
theorem bare_any (A : Option Addr) (m c : Nat) (NA : Option Addr) (n d : Nat) (e : List (Int × Int)) (N : List ByteArray) (f i : Nat) (o : Opr) (w : World) (hP : PartC A m c NA n d e N f) (hf : i ≤ f) (hi : i < m) (h : WrOk w A m c NA n d e N) (ho : opO (e.getD i (0, 0)).1 = some o) :
    Calls Tryd.prog 29 #[.agg #[.slice A m c, .slice NA n d], .int .i64 i, oV o] w (StrP (bB e N f i o) w) := by
  have H := Lib.hid h
  have HP := Lib.hid hP
  have HK := Lib.hid (kids_any e i A c m)
  have hnode := node_of h.is_ (i := i) (by rw [← h.lm]; exact hi)
  rcases hnode with ⟨q, h1, _⟩ | ⟨o', ho', hom, hsg, hkd⟩
  · exact absurd ho (by rw [h1, opO_3]; simp)
  obtain rfl : o' = o := by rw [ho] at ho'; injection ho' with h'; exact h'.symm
  clear ho'
  obtain ⟨x1, y1, HXY⟩ : ∃ x1 y1, Hid (kidsF e i = (x1, y1)) := ⟨_, _, Lib.hid rfl⟩
  obtain ⟨z, HZ⟩ : ∃ z, Hid (bB e N f i o' = z) := ⟨_, Lib.hid rfl⟩
  have HBF : Hid (z = ⟨(bareF e (NL N) f i o').toArray⟩) := Lib.hid HZ.out.symm
  rw [HZ.out]
  have HSG : Hid ((sgA o').size ≤ 5) := Lib.hid (by unfold sgA; rw [size_mk]; exact hsg)
  have HKD := Lib.hid hkd
  clear h hP ho hom hsg hkd
  unfold oV
  obtain ⟨op, sg, bd, lf, rt⟩ := o'
  obtain ⟨sb, HSB⟩ : ∃ sb, Hid (sgA ⟨op, sg, bd, lf, rt⟩ = sb) := ⟨_, Lib.hid rfl⟩
  rw [HSB.out] at HSG ⊢
  dsimp only
  have HN1 := sr.heap_prev w (.cells #[.slice A m c, .slice NA n d] 44) (.cells #[.int .i64 op, .string sb, .int .i64 bd, .int .i64 lf, .int .i64 rt] 58)
  have HN2 := sr.heap_next w (.cells #[.slice A m c, .slice NA n d] 44) (.cells #[.int .i64 op, .string sb, .int .i64 bd, .int .i64 lf, .int .i64 rt] 58)
  have HB1 : Hid (Below w.heap.size w ((w.alloc (.cells #[.slice A m c, .slice NA n d] 44)).alloc (.cells #[.int .i64 op, .string sb, .int .i64 bd, .int .i64 lf, .int .i64 rt] 58))) := Lib.hid ((below_one _ _).alloc (by simp) _)
  obtain ⟨w1, HW1⟩ : ∃ w1, w1 = (w.alloc (.cells #[.slice A m c, .slice NA n d] 44)).alloc (.cells #[.int .i64 op, .string sb, .int .i64 bd, .int .i64 lf, .int .i64 rt] 58) := ⟨_, rfl⟩
  rw [← HW1] at HN1 HN2 HB1
  have HG1 := Lib.hid HN1
  have HG2 := Lib.hid HN2
  clear HN1 HN2
  go_enter Tryd.func29, Tryd.ntmps29
  go_upto_region 1 with (fail)
  rw [← HW1]
  clear HW1
  obtain ⟨g, HGG⟩ : ∃ g, Hid (w.heap.size = g) := ⟨_, Lib.hid rfl⟩
  rw [HGG.out] at HG1 HG2 ⊢
  have cell : ∀ {b i : Nat} {cs : Array Value} {t : TypeId} {v : Value}, w1.heap[b]? = some (.cells cs t (0, 0)) → cs[i]? = some v → b < w1.heap.size ∧ w1.cell? ⟨b, i, none⟩ = some v := fun h hv => ⟨(Array.getElem?_eq_some_iff.1 h).1, by simp [World.cell?, h, hv]⟩
  have HV : Hid (∀ W, Below w1.heap.size w1 W → W.cell? ⟨g, 0, none⟩ = some (.slice A m c) ∧ W.cell? ⟨g, 1, none⟩ = some (.slice NA n d) ∧ W.cell? ⟨g + 1, 0, none⟩ = some (.int .i64 op) ∧ W.cell? ⟨g + 1, 1, none⟩ = some (.string sb) ∧ W.cell? ⟨g + 1, 3, none⟩ = some (.int .i64 lf) ∧ W.cell? ⟨g + 1, 4, none⟩ = some (.int .i64 rt)) := Lib.hid (fun W hW =>
    ⟨(hW.cell (p := ⟨g, 0, none⟩) (cell HG1.out (i := 0) rfl).1).trans (cell HG1.out rfl).2, (hW.cell (p := ⟨g, 1, none⟩) (cell HG1.out (i := 0) rfl).1).trans (cell HG1.out rfl).2, (hW.cell (p := ⟨g + 1, 0, none⟩) (cell HG2.out (i := 0) rfl).1).trans (cell HG2.out rfl).2,
     (hW.cell (p := ⟨g + 1, 1, none⟩) (cell HG2.out (i := 0) rfl).1).trans (cell HG2.out rfl).2, (hW.cell (p := ⟨g + 1, 3, none⟩) (cell HG2.out (i := 0) rfl).1).trans (cell HG2.out rfl).2, (hW.cell (p := ⟨g + 1, 4, none⟩) (cell HG2.out (i := 0) rfl).1).trans (cell HG2.out rfl).2⟩)
  clear cell
  have HW1 := Lib.hid (H.out.below HB1.out)
  obtain ⟨c0, c1, c2, c3, c4, c5⟩ := HV.out w1 (Below.refl _ _)
  go_wp2_with fail
  clear c0 c1 c2 c3 c4 c5
  refine (HK.out w1 H.out.lm (by have := H.out.mm; omega) HW1.out.pa).mono ?_
  rw [HXY.out]
  rintro x w2 ⟨rfl, hb2⟩
  have HB2 : Hid (Below w1.heap.size w1 w2) := Lib.hid hb2
  have HW2 := Lib.hid (HW1.out.below hb2)
  clear hb2
  obtain ⟨c0, c1, c2, c3, c4, c5⟩ := HV.out w2 HB2.out
  have HV2 : Hid (∀ W, Below w2.heap.size w2 W → W.cell? ⟨g, 0, none⟩ = some (.slice A m c) ∧ W.cell? ⟨g, 1, none⟩ = some (.slice NA n d) ∧ W.cell? ⟨g + 1, 0, none⟩ = some (.int .i64 op) ∧ W.cell? ⟨g + 1, 1, none⟩ = some (.string sb) ∧ W.cell? ⟨g + 1, 3, none⟩ = some (.int .i64 lf) ∧ W.cell? ⟨g + 1, 4, none⟩ = some (.int .i64 rt)) := Lib.hid (fun W hW => HV.out W (HB2.out.trans (hW.mono HB2.out.size)))
  have HBW : Hid (∀ W, Below w2.heap.size w2 W → Below g w W) := Lib.hid (fun W hW => by rw [← HGG.out]; exact (HB1.out.trans ((HB2.out.trans (hW.mono HB2.out.size)).mono HB1.out.size)))
  have HPW : Hid (∀ (j : Nat) (a : Int) (W : World), j < i → Below w2.heap.size w2 W → Calls Tryd.prog 16 #[.agg #[.slice A m c, .slice NA n d], .int .i64 j, .int .i64 a] W (StrP (tB e N f j a) W)) := Lib.hid (fun j a W hj hW => HP.out j a W (by omega) (by omega) (HW2.out.below hW))
  have HTS : Hid (∀ (j : Nat) (a : Int), j < i → (tB e N f j a).size ≤ 3000) := Lib.hid (fun j a hj => tB_size H.out f j a (by rw [← H.out.lm]; omega))
  rcases HKD.out with ⟨g1, g2⟩ | ⟨g1, g2, j, v2, g3, g4, g5, g6, g7⟩ | ⟨g1, g2, g3, j, q, v2, g4, g5, g6, g7, g8, g9, g10⟩
  · try simp only at g1
    subst g1
    have HE : Hid (z = sb) := Lib.hid (by rw [HBF.out, ← HSB.out]; unfold bareF sgA; rw [if_pos rfl])
    clear g2
    go_wp2
    go_ret
    exact ⟨by rw [HE.out]; rfl, by rw [HGG.out]; exact HBW.out w2 (Below.refl _ _)⟩
  · try simp only at g1 g2
    subst g2
    have HRT := Lib.hid g1
    have hr0 : (rt == 0) = false := by simpa using g1
    have hj : j < i := by omega
    have HXJ : Hid (x1 = (j : Int)) := Lib.hid (by have := HXY.out; rw [g5] at this; injection this with h _; exact h.symm)
    rw [HXJ.out]
    have HT := Lib.hid (HTS.out j rt hj)
    have HBR : Hid (bareF e (NL N) f i ⟨op, sg, bd, 0, rt⟩ = if op = 4 then sg ++ txF e (NL N) f j rt else sg ++ ([32] ++ txF e (NL N) f j rt)) := Lib.hid (by
      unfold bareF
      rw [if_neg g1, g5]
      simp only [Int.toNat_natCast, if_true])
    obtain ⟨T1, HT1⟩ : ∃ T, Hid (tB e N f j rt = T) := ⟨_, Lib.hid rfl⟩
    rw [HT1.out] at HT
    have ht3 := HT.out
    have hs5 := HSG.out
    have HCALL : Hid (∀ W, Below w2.heap.size w2 W → Calls Tryd.prog 16 #[.agg #[.slice A m c, .slice NA n d], .int .i64 j, .int .i64 rt] W (StrQ T1 w2)) := Lib.hid (fun W hW => by
      rw [← HT1.out]
      exact (HPW.out j rt W hj hW).mono fun x w' ⟨h1, h2⟩ => ⟨h1, hW.trans (h2.mono hW.size)⟩)
    clear g1 g3 g4 g5 g6 g7
    by_cases h4 : op = 4
    · subst h4
      obtain ⟨z1, h1⟩ : ∃ z, sb ++ T1 = z := ⟨_, rfl⟩
      have HE : Hid (z = z1) := Lib.hid (by rw [HBF.out, HBR.out, if_pos rfl, ← h1, ← HSB.out, ← HT1.out]; unfold sgA tB; rw [mk_app])
      have e1 := fun W => str_add (P := Tryd.prog) h1 (by omega) W
      clear h1 hs5 ht3
      go_upto_region 5 with (fail)
      go_region_held3 (fun w' => w'.cell? ⟨g, 0, none⟩ = some (.slice A m c) ∧ w'.cell? ⟨g, 1, none⟩ = some (.slice NA n d) ∧ w'.cell? ⟨g + 1, 1, none⟩ = some (.string sb) ∧ w'.cell? ⟨g + 1, 4, none⟩ = some (.int .i64 rt))
        (first | exact ⟨c0, c1, c3, c5⟩ | exact ⟨k0, k1, k3, k5⟩ | go_keep)
        ((go_at_call 16; refine (HCALL.out _ (by first | exact (Below.refl _ _).drew | exact Below.refl _ _)).mono ?_; rintro x w3 ⟨rfl, hb3⟩; have HB3 := Lib.hid hb3; obtain ⟨k0, k1, k2, k3, k4, k5⟩ := HV2.out w3 HB3.out; clear hb3))
      go_wp2
      go_ret
      exact ⟨by rw [HE.out]; rfl, by rw [HGG.out]; exact HBW.out w3 HB3.out⟩
    · have h4b : (op == 4) = false := by simpa using h4
      obtain ⟨z1, h1⟩ : ∃ z, sb ++ (⟨#[32]⟩ : ByteArray) = z := ⟨_, rfl⟩
      obtain ⟨z2, h2⟩ : ∃ z, z1 ++ T1 = z := ⟨_, rfl⟩
      have s1 : z1.size = sb.size + 1 := by rw [← h1, size_app]; rfl
      have HE : Hid (z = z2) := Lib.hid (by
        rw [HBF.out, HBR.out, if_neg h4, ← h2, ← h1, ← HSB.out, ← HT1.out]
        unfold sgA tB
        rw [show (⟨#[32]⟩ : ByteArray) = ⟨[(32 : UInt8)].toArray⟩ from rfl, mk_app, mk_app, List.append_assoc])
      have e1 := fun W => str_add (P := Tryd.prog) h1 (by show sb.size + 1 ≤ _; omega) W
      have e2 := fun W => str_add (P := Tryd.prog) h2 (by omega) W
      clear h1 h2 hs5 ht3 s1
      go_upto_region 7 with (fail)
      go_region_held3 (fun w' => w'.cell? ⟨g, 0, none⟩ = some (.slice A m c) ∧ w'.cell? ⟨g, 1, none⟩ = some (.slice NA n d) ∧ w'.cell? ⟨g + 1, 1, none⟩ = some (.string sb) ∧ w'.cell? ⟨g + 1, 4, none⟩ = some (.int .i64 rt))
        (first | exact ⟨c0, c1, c3, c5⟩ | exact ⟨k0, k1, k3, k5⟩ | go_keep)
        ((go_at_call 16; refine (HCALL.out _ (by first | exact (Below.refl _ _).drew | exact Below.refl _ _)).mono ?_; rintro x w3 ⟨rfl, hb3⟩; have HB3 := Lib.hid hb3; obtain ⟨k0, k1, k2, k3, k4, k5⟩ := HV2.out w3 HB3.out; clear hb3))
      go_wp2
      go_ret
      exact ⟨by rw [HE.out]; rfl, by rw [HGG.out]; exact HBW.out w3 HB3.out⟩
  · try simp only at g1 g2 g3
    have hr0 : (rt == 0) = false := by simpa using g1
    have hl0 : (lf == 0) = false := by simpa using g2
    have h4b : (op == 4) = false := by simpa using g3
    have hj : j < i := by omega
    have hq : q < i := by omega
    have HXJ : Hid (x1 = (q : Int) ∧ y1 = (j : Int)) := Lib.hid (by have := HXY.out; rw [g7] at this; injection this with h h2; exact ⟨h.symm, h2.symm⟩)
    rw [HXJ.out.1, HXJ.out.2]
    have HTa := Lib.hid (HTS.out q lf hq)
    have HTb := Lib.hid (HTS.out j rt hj)
    have HBR : Hid (bareF e (NL N) f i ⟨op, sg, bd, lf, rt⟩ = txF e (NL N) f q lf ++ ([32] ++ (sg ++ ([32] ++ txF e (NL N) f j rt)))) := Lib.hid (by
      unfold bareF
      rw [if_neg g1, if_neg g3, if_neg g2, g7]
      simp only [Int.toNat_natCast])
    obtain ⟨T1, HT1⟩ : ∃ T, Hid (tB e N f q lf = T) := ⟨_, Lib.hid rfl⟩
    obtain ⟨T2, HT2⟩ : ∃ T, Hid (tB e N f j rt = T) := ⟨_, Lib.hid rfl⟩
    rw [HT1.out] at HTa
    rw [HT2.out] at HTb
    have ht1 := HTa.out
    have ht2 := HTb.out
    have hs5 := HSG.out
    have HCALL1 : Hid (∀ W, Below w2.heap.size w2 W → Calls Tryd.prog 16 #[.agg #[.slice A m c, .slice NA n d], .int .i64 q, .int .i64 lf] W (StrQ T1 w2)) := Lib.hid (fun W hW => by
      rw [← HT1.out]
      exact (HPW.out q lf W hq hW).mono fun x w' ⟨h1, h2⟩ => ⟨h1, hW.trans (h2.mono hW.size)⟩)
    have HCALL2 : Hid (∀ W, Below w2.heap.size w2 W → Calls Tryd.prog 16 #[.agg #[.slice A m c, .slice NA n d], .int .i64 j, .int .i64 rt] W (StrQ T2 w2)) := Lib.hid (fun W hW => by
      rw [← HT2.out]
      exact (HPW.out j rt W hj hW).mono fun x w' ⟨h1, h2⟩ => ⟨h1, hW.trans (h2.mono hW.size)⟩)
    obtain ⟨z1, h1⟩ : ∃ z, T1 ++ (⟨#[32]⟩ : ByteArray) = z := ⟨_, rfl⟩
    obtain ⟨z2, h2⟩ : ∃ z, z1 ++ sb = z := ⟨_, rfl⟩
    obtain ⟨z3, h3⟩ : ∃ z, z2 ++ (⟨#[32]⟩ : ByteArray) = z := ⟨_, rfl⟩
    obtain ⟨z4, h4⟩ : ∃ z, z3 ++ T2 = z := ⟨_, rfl⟩
    have s1 : z1.size = T1.size + 1 := by rw [← h1, size_app]; rfl
    have s2 : z2.size = z1.size + sb.size := by rw [← h2, size_app]
    have s3 : z3.size = z2.size + 1 := by rw [← h3, size_app]; rfl
    have HE : Hid (z = z4) := Lib.hid (by
      rw [HBF.out, HBR.out, ← h4, ← h3, ← h2, ← h1, ← HSB.out, ← HT1.out, ← HT2.out]
      unfold sgA tB
      rw [show (⟨#[32]⟩ : ByteArray) = ⟨[(32 : UInt8)].toArray⟩ from rfl, mk_app, mk_app, mk_app, mk_app]
      simp only [List.append_assoc])
    have e1 := fun W => str_add (P := Tryd.prog) h1 (by show T1.size + 1 ≤ _; omega) W
    have e2 := fun W => str_add (P := Tryd.prog) h2 (by omega) W
    have e3 := fun W => str_add (P := Tryd.prog) h3 (by show z2.size + 1 ≤ _; omega) W
    have e4 := fun W => str_add (P := Tryd.prog) h4 (by omega) W
    clear h1 h2 h3 h4 hs5 ht1 ht2 s1 s2 s3 g1 g2 g3 g4 g5 g6 g7 g8 g9 g10
    go_upto_region 8 with (fail)
    go_region_held3 (fun w' => w'.cell? ⟨g, 0, none⟩ = some (.slice A m c) ∧ w'.cell? ⟨g, 1, none⟩ = some (.slice NA n d) ∧ w'.cell? ⟨g + 1, 1, none⟩ = some (.string sb) ∧ w'.cell? ⟨g + 1, 3, none⟩ = some (.int .i64 lf) ∧ w'.cell? ⟨g + 1, 4, none⟩ = some (.int .i64 rt))
      (first | exact ⟨c0, c1, c3, c4, c5⟩ | exact ⟨l0, l1, l3, l4, l5⟩ | exact ⟨k0, k1, k3, k4, k5⟩ | go_keep)
      (first
        | (go_at_call 16; refine (HCALL2.out _ HB3.out).mono ?_; rintro x w4 ⟨rfl, hb4⟩; have HB4 := Lib.hid hb4; obtain ⟨l0, l1, l2, l3, l4, l5⟩ := HV2.out w4 HB4.out; clear hb4)
        | (go_at_call 16; refine (HCALL1.out _ (by first | exact (Below.refl _ _).drew | exact Below.refl _ _)).mono ?_; rintro x w3 ⟨rfl, hb3⟩; have HB3 := Lib.hid hb3; obtain ⟨k0, k1, k2, k3, k4, k5⟩ := HV2.out w3 HB3.out; clear hb3)
        | fail)
    go_wp2
    go_ret
    exact ⟨by rw [HE.out]; rfl, by rw [HGG.out]; exact HBW.out w4 HB4.out⟩
end Go.Proofs.YtgnflnfajkoibaaDoor.tx
namespace Go.Proofs.YtgnflnfajkoibaaDoor.lt.wn
open Go.ChangeShapes Go.WideShapes Go.ChangeAt Go.RowKit

theorem info : (Tryd.prog.info? 77).map (fun i => (i.zero, i.size, i.bytes)) = some (some (.agg #[]), 0, 0) := by kernel_rfl
theorem zero_cells (n : Nat) : Builtin.zeroCells #[] n = #[] := by simp [Builtin.zeroCells]
theorem append_room (w : World) (a b : Addr) (n c d : Nat) (h : n + 1 ≤ c) :
    (Builtin.append_ #[80, 80] 80 #[.slice (some a) n c, .slice (some b) 1 d]).run Tryd.prog w = .ok (.slice (some a) (n + 1) c) w := by
  obtain ⟨i0, hi, hz0, hz1, hz2⟩ := info_parts info
  have hf := run_firstCells_some (P := Tryd.prog) w i0.size 1 b 1 d [] (by simp [hz1]) (by simp)
  rw [hz1] at hf
  simp [Builtin.append_, run_underlying Tryd.underlying80, sizeOf, typeInfo, zeroValue, hi, hz0, hz1, Builtin.lenOf, h, hf, storeCells]
/-- append of one more. -/
theorem run_append (w : World) (A : Option Addr) (b : Addr) (n c d : Nat) (hn : n ≤ c) (hA : A = none → c = 0) (hl : n ≤ 1000) :
    ∃ A' c' w', (Builtin.append_ #[80, 80] 80 #[.slice A n c, .slice (some b) 1 d]).run Tryd.prog w = .ok (.slice (some A') (n + 1) c') w' ∧ n + 1 ≤ c' ∧ Below w.heap.size w w' := by
  obtain ⟨i0, hi, hz0, hz1, hz2⟩ := info_parts info
  rcases A with _ | a
  · have hc := hA rfl
    subst hc
    obtain rfl : n = 0 := by omega
    have h := run_append_nil (P := Tryd.prog) (w := w) 80 80 77 i0 (.agg #[]) Tryd.underlying80 hi hz0 b 1 d [] (by simp [hz1]) (by simp) (by decide) (by decide) (by rw [hz2]; decide)
    exact ⟨_, _, _, h, grownCap_ge _ _ _ _, (Below.refl _ _).drew.alloc (Nat.le_refl _) _⟩
  · by_cases hc : n + 1 ≤ c
    · exact ⟨a, c, w, append_room w a b n c d hc, hc, Below.refl _ _⟩
    · have h := run_append_grow (P := Tryd.prog) (w := w) 80 80 77 i0 (.agg #[]) Tryd.underlying80 hi hz0 a n c [] (by simp [hz1]) (by simp) b 1 d [] (by simp [hz1]) (by simp) (by omega) (by omega) (by rw [hz2]; simp)
      exact ⟨_, _, _, h, grownCap_ge _ _ _ _, (Below.refl _ _).drew.alloc (Nat.le_refl _) _⟩
/-- append of one more, at a step of a region that draws its order. -/
theorem step_append {w : World} {ops : Array Oper} {o : Oper} {a : Act} {K : Act → World → Prop} {Q : Exit → Act → World → Prop} {E : Prop} (hgd : o.guard = none) (s x : Operand)
    (ho : o.op = .call { callee := .builtin .append, args := #[s, x], argTypes := #[80, 80] }) (hty : o.type = 80) (A : Option Addr) (b : Addr) (n c d : Nat) (hs : a.eval s = .slice A n c) (hx : a.eval x = .slice (some b) 1 d)
    (hn : n ≤ c) (hA : A = none → c = 0) (hl : n ≤ 1000) (h : ∀ A' c' w', n + 1 ≤ c' → Below w.heap.size w w' → K (a.put o.dst (.slice (some A') (n + 1) c')) w') :
    if Region.wanted o (yielded ops a.tmps) = true then Oper.wp Tryd.prog o a w K Q else E := by
  obtain ⟨A', c', w', hr, h1, h2⟩ := run_append w A b n c d hn hA hl
  exact sr.step_append_at hgd s x ho hty hs hx hr (h A' c' w' h1 h2)
end Go.Proofs.YtgnflnfajkoibaaDoor.lt.wn
namespace Go.Proofs.YtgnflnfajkoibaaDoor.lt
open Go.ChangeShapes Go.WideShapes Go.ChangeAt Go.RowKit

set_option maxRecDepth 20000 in
set_option maxHeartbeats 4000000 in
theorem refWrong_any (e : List (Int × Int)) (A : Option Addr) (c m : Nat) (w : World) (hm : m = e.length) (hlm : m ≤ 1000) (hA : PA w A e) :
    Calls Tryd.prog 30 #[.slice A m c] w fun x w' => x = .returned (.int .i64 (wrF 0 e)) ∧ w = w' := by
  have HM := Lib.hid hm
  obtain ⟨z, HZ⟩ : ∃ z, Hid (wrF 0 e = z) := ⟨_, Lib.hid rfl⟩
  rw [HZ.out]
  by_cases h0 : m = 0
  · subst h0
    have HE : Hid (z = 4) := Lib.hid (by
      have : e = [] := List.eq_nil_of_length_eq_zero hm.symm
      subst this
      exact HZ.out.symm)
    clear hm hA
    go_enter Tryd.func30, Tryd.ntmps30
    go_wp2
    go_ret
    exact ⟨by rw [HE.out]; rfl, rfl⟩
  · have h0' : 0 < m := by omega
    clear hm
    obtain ⟨b, o, rfl, hb, hc⟩ := hA (by rw [← HM.out]; omega)
    have HC := Lib.hid hc
    have hm0 : ((m : Int) == 0) = false := by simpa using h0
    clear hA hc
    go_enter Tryd.func30, Tryd.ntmps30
    go_wp2
    go_loop [3, 4] (fun nv iv => ∃ (k n : Nat), k ≤ m ∧ n ≤ k ∧ Hid (k = 0 ∨ 0 < n) ∧ iv = .int .i64 k ∧ nv = .int .i64 n ∧ Hid (z = wrF n (e.drop k))) (fun _ iv => m - (intOf iv).toNat)
    case atStart => exact ⟨0, 0, Nat.zero_le _, Nat.le_refl _, Lib.hid (.inl rfl), rfl, rfl, Lib.hid HZ.out.symm⟩
    case round =>
      obtain ⟨k, n, hk, hn, HKN, rfl, rfl, HR⟩ := hrel
      by_cases hlt : k < m
      · obtain ⟨c1, c2⟩ := HC.out k (by rw [← HM.out]; exact hlt)
        have HK : Hid (k < e.length) := Lib.hid (by rw [← HM.out]; exact hlt)
        obtain ⟨op, q, HND⟩ : ∃ op q, Hid (e.getD k (0, 0) = (op, q)) := ⟨_, _, Lib.hid rfl⟩
        rw [HND.out] at c1 c2
        go_wp2_with fail
        refine (refTakes_any op w).mono ?_
        rintro x w' ⟨rfl, rfl⟩
        have HS : Hid (ndW n (op, q) ≠ 0 → z = ndW n (op, q)) := Lib.hid (fun h => by
          rw [HR.out, wr_stop HK.out (by rw [HND.out]; exact h), HND.out])
        have HX : Hid (ndW n (op, q) = 0 → z = wrF (n - (kT op).toNat + 1) (e.drop (k + 1))) := Lib.hid (fun h => by
          rw [HR.out, wr_next HK.out (by rw [HND.out]; exact h), HND.out])
        by_cases hneg : kT op < 0
        · have HE : Hid (z = 3) := Lib.hid (by
            have e1 : ndW n (op, q) = 3 := by unfold ndW; rw [if_pos hneg]
            rw [HS.out (by rw [e1]; decide), e1])
          generalize kT op = t at *
          clear HS HX
          go_wp2
          go_ret
          exact ⟨by rw [HE.out]; rfl, rfl⟩
        · obtain ⟨t, HT⟩ : ∃ t : Nat, Hid (kT op = t) := ⟨(kT op).toNat, Lib.hid (by omega)⟩
          have ht2 : t ≤ 2 := by have := kT_range op; have := HT.out; omega
          rw [HT.out]
          by_cases hsh : n < t
          · have HE : Hid (z = 4) := Lib.hid (by
              have e1 : ndW n (op, q) = 4 := by unfold ndW; rw [if_neg hneg, if_pos (by show (n : Int) < kT op; rw [HT.out]; omega)]
              rw [HS.out (by rw [e1]; decide), e1])
            clear hneg HS HX
            go_wp2
            go_ret
            exact ⟨by rw [HE.out]; rfl, rfl⟩
          · obtain ⟨left, rfl⟩ : ∃ left, n = left + t := ⟨n - t, by omega⟩
            by_cases h3 : op = 3 ∧ (q < 0 ∨ 8 ≤ q)
            · obtain ⟨rfl, hq⟩ := h3
              have HE : Hid (z = 10) := Lib.hid (by
                have e1 : ndW (left + t) (3, q) = 10 := by unfold ndW; rw [if_neg hneg, if_neg (by rw [HT.out]; omega), if_pos ⟨rfl, hq⟩]
                rw [HS.out (by rw [e1]; decide), e1])
              clear hneg HS HX
              by_cases hq0 : q < 0
              · clear hq
                go_wp2
                go_ret
                exact ⟨by rw [HE.out]; rfl, rfl⟩
              · have hq8 : 8 ≤ q := by omega
                clear hq
                go_wp2
                go_ret
                exact ⟨by rw [HE.out]; rfl, rfl⟩
            · have HE : Hid (z = wrF (left + 1) (e.drop (k + 1))) := Lib.hid (by
                have e1 : ndW (left + t) (op, q) = 0 := by unfold ndW; rw [if_neg hneg, if_neg (by show ¬ ((left + t : Nat) : Int) < kT op; rw [HT.out]; omega), if_neg h3]
                rw [HX.out e1, HT.out]
                congr 1
                simp)
              have hr : ((left + t : Nat) : Int) - t + 1 = ((left + 1 : Nat) : Int) := by omega
              clear hneg HS HX
              by_cases ho : op = 3
              · subst ho
                have hq0 : ¬ q < 0 := fun h => h3 ⟨rfl, .inl h⟩
                have hq8 : ¬ 8 ≤ q := fun h => h3 ⟨rfl, .inr h⟩
                clear h3
                have HRR := Lib.hid hr
                clear hr
                go_wp2
                go_round
                case rel => exact ⟨k + 1, left + 1, by omega, by omega, Lib.hid (.inr (by omega)), by go_num, by go_num, HE⟩
                case measure => simp [intOf]; omega
              · clear h3
                have HRR := Lib.hid hr
                clear hr
                go_wp2
                go_round
                case rel => exact ⟨k + 1, left + 1, by omega, by omega, Lib.hid (.inr (by omega)), by go_num, by go_num, HE⟩
                case measure => simp [intOf]; omega
      · obtain rfl : k = m := by omega
        have HE : Hid (z = if n = 0 then 4 else if 1 < n then 5 else 0) := Lib.hid (by rw [HR.out, wr_end (by rw [HM.out]; exact Nat.le_refl _)])
        by_cases hn1 : 1 < n
        · have HE2 : Hid (z = 5) := Lib.hid (by rw [HE.out, if_neg (by omega), if_pos hn1])
          clear HE
          go_wp2
          go_ret
          exact ⟨by rw [HE2.out]; rfl, rfl⟩
        · have HE2 : Hid (z = 0) := Lib.hid (by rw [HE.out, if_neg (by have := HKN.out; omega), if_neg hn1])
          clear HE
          go_wp2
          go_ret
          exact ⟨by rw [HE2.out]; rfl, rfl⟩

theorem refCheck_any (e : List (Int × Int)) (A : Option Addr) (c m : Nat) (w : World) (hm : m = e.length) (hlm : m ≤ 1000) (hA : PA w A e) :
    Calls Tryd.prog 17 #[.slice A m c] w fun x w' => x = .returned (.int .i64 (if 24 < m then 5 else wrF 0 e)) ∧ w = w' := by
  have HM := Lib.hid hm
  have HA := Lib.hid hA
  obtain ⟨z, HZ⟩ : ∃ z, Hid ((if 24 < m then 5 else wrF 0 e) = z) := ⟨_, Lib.hid rfl⟩
  rw [HZ.out]
  clear hm hA
  by_cases h : 24 < m
  · have HE : Hid (z = 5) := Lib.hid (by rw [← HZ.out, if_pos h])
    go_enter Tryd.func17, Tryd.ntmps17
    go_wp2
    go_ret
    exact ⟨by rw [HE.out]; rfl, rfl⟩
  · have HE : Hid (wrF 0 e = z) := Lib.hid (by rw [← HZ.out, if_neg h])
    go_enter Tryd.func17, Tryd.ntmps17
    go_wp2_with fail
    refine (refWrong_any e A c m w HM.out hlm HA.out).mono ?_
    rintro x w' ⟨rfl, rfl⟩
    rw [HE.out]
    go_wp2
    go_ret
    exact ⟨rfl, rfl⟩
theorem refIs_any (e : List (Int × Int)) (A : Option Addr) (c m : Nat) (w : World) (hm : m = e.length) (hlm : m ≤ 1000) (hA : PA w A e) :
    Calls Tryd.prog 48 #[.slice A m c] w fun x w' => x = .returned (.bool (isF e)) ∧ w = w' := by
  have HW := Lib.hid (refWrong_any e A c m w hm hlm hA)
  clear hm hA
  obtain ⟨b, HB⟩ : ∃ b, Hid (isF e = b) := ⟨_, Lib.hid rfl⟩
  obtain ⟨z, HZ⟩ : ∃ z, Hid (wrF 0 e = z) := ⟨_, Lib.hid rfl⟩
  have HE : Hid (b = (z == 0)) := Lib.hid (by rw [← HB.out, ← HZ.out]; unfold isF; rfl)
  rw [HB.out]
  go_enter Tryd.func48, Tryd.ntmps48
  go_wp2_with fail
  refine HW.out.mono ?_
  rintro x w' ⟨rfl, rfl⟩
  rw [HZ.out]
  go_wp2
  go_ret
  exact ⟨by rw [HE.out]; rfl, rfl⟩
end Go.Proofs.YtgnflnfajkoibaaDoor.lt
namespace Go.Proofs.YtgnflnfajkoibaaDoor.lt.wn
open Go.ChangeShapes Go.WideShapes Go.ChangeAt Go.RowKit

set_option maxHeartbeats 1000000 in
theorem made_any (k : Nat) (v : Value) (w : World) : Calls Tryd.prog 40 #[.int .i64 k, v] w fun e w' => e = .returned (.agg #[]) ∧ Below w.heap.size w w' := by
  go_enter Tryd.func40, Tryd.ntmps40
  go_wp2
  exact bodyPost_ret (v := .agg #[]) (by simp [results, Tryd.results40, go_sem]) rfl ⟨rfl, (Below.refl _ _).alloc (Nat.le_refl _) _⟩

set_option maxRecDepth 20000 in
theorem tail_run (B : Option Addr) (left t d : Nat) : ∃ B2, ∀ W, (Instr.sliceAt 80 (.slice B (left + t) d) (some (.int .i64 (left : Int))) none none).run Tryd.prog W = .ok (.slice B2 t (d - left)) W := by
  refine ⟨if d = left then B else B.map (·.add 0), fun W => ?_⟩
  have hsz : (sizeOf (Tryd.prog.elem 80)).run Tryd.prog W = .ok 0 W := by simp [go_sem]
  rw [run_sliceAt_slice (P := Tryd.prog) W 80 _ _ _ _ Tryd.underlying80, run_slice_l (P := Tryd.prog) W 80 B (left + t) d Tryd.underlying80 .i64 left (by omega) (by omega), hsz]
  simp [Result.andThen, sliced]
set_option maxRecDepth 20000 in
theorem head_run (B : Option Addr) (left t d : Nat) (h : left + t ≤ d) (W : World) : (Instr.sliceAt 80 (.slice B (left + t) d) none (some (.int .i64 (left : Int))) none).run Tryd.prog W = .ok (.slice B left d) W := by
  have hsz : (sizeOf (Tryd.prog.elem 80)).run Tryd.prog W = .ok 0 W := by simp [go_sem]
  rw [run_sliceAt_slice (P := Tryd.prog) W 80 _ _ _ _ Tryd.underlying80, run_slice_h (P := Tryd.prog) W 80 B (left + t) d Tryd.underlying80 .i64 left (by omega) (by omega), hsz]
  cases B <;> simp [Result.andThen, sliced, Addr.add]

set_option maxRecDepth 20000 in
set_option maxHeartbeats 4000000 in
theorem work_any (e : List (Int × Int)) (A : Option Addr) (c m : Nat) (w : World) (hm : m = e.length) (hA : PA w A e) (hlm : m ≤ 1000) :
    Calls Tryd.prog 39 #[.slice A m c, .func (.func 40) #[] #[]] w fun x w' => x = .returned (.tuple #[.agg #[], .int .i64 (wrF 0 e)]) ∧ Below w.heap.size w w' := by
  have HM := Lib.hid hm
  have HA := Lib.hid hA
  have eg := enters_of Tryd.func40 (by kernel_rfl) rfl
  clear hm hA
  obtain ⟨z, HZ⟩ : ∃ z, Hid (wrF 0 e = z) := ⟨_, Lib.hid rfl⟩
  rw [HZ.out]
  go_enter Tryd.func39, Tryd.ntmps39
  go_wp2
  go_loopw [7, 14] (fun s i wr => ∃ (k n : Nat) (B : Option Addr) (d : Nat), k ≤ m ∧ i = .int .i64 k ∧ s = .slice B n d ∧ n ≤ k ∧ Hid (n ≤ d ∧ (B = none → d = 0)) ∧ Hid (Below w.heap.size w wr) ∧ Hid (z = wrF n (e.drop k))) (fun _ i _ => m - (intOf i).toNat)
  case atStart => exact ⟨0, 0, none, 0, Nat.zero_le _, rfl, rfl, Nat.le_refl _, Lib.hid ⟨Nat.le_refl _, fun _ => rfl⟩, Lib.hid (((Below.refl _ _).alloc (Nat.le_refl _) _).alloc (by simp) _), Lib.hid HZ.out.symm⟩
  case round =>
    obtain ⟨k, n, B, d, hk, rfl, rfl, hn, HC, HW, HR⟩ := hrel
    by_cases hlt : k < m
    · obtain ⟨b, o, rfl, hb, hc⟩ := (HA.out.below HW.out) (by rw [← HM.out]; omega)
      obtain ⟨c1, c2⟩ := hc k (by rw [← HM.out]; exact hlt)
      have HK : Hid (k < e.length) := Lib.hid (by rw [← HM.out]; exact hlt)
      obtain ⟨op, q, HND⟩ : ∃ op q, Hid (e.getD k (0, 0) = (op, q)) := ⟨_, _, Lib.hid rfl⟩
      rw [HND.out] at c1 c2
      clear hc
      go_wp2_with fail
      refine (left_any op q n _ (by omega)).mono ?_
      rintro x w1 ⟨rfl, hb1⟩
      have HB1W : Hid (Below wr.heap.size wr w1) := Lib.hid (((Below.refl _ _).alloc (Nat.le_refl _) _).trans (hb1.mono (by simp)))
      clear hb1 c1 c2
      by_cases hw : ndW n (op, q) = 0
      · obtain ⟨h1, h2, _⟩ := ndW_ok hw
        obtain ⟨t, HT⟩ : ∃ t : Nat, Hid (kT op = t) := ⟨(kT op).toNat, Lib.hid (by simp at h1; omega)⟩
        have htn : t ≤ n := by have := HT.out; simp at h2; omega
        obtain ⟨left, rfl⟩ : ∃ left, n = left + t := ⟨n - t, by omega⟩
        have HLV : Hid (leftV (left + t) (op, q) = (left : Int)) := Lib.hid (by unfold leftV; rw [if_pos hw]; show ((left + t : Nat) : Int) - kT op = _; rw [HT.out]; omega)
        have HW0 := Lib.hid hw
        rw [HLV.out, HW0.out]
        have EH := head_run B left t d HC.out.1
        obtain ⟨B2, ET⟩ := tail_run B left t d
        have HE : Hid (z = wrF (left + 1) (e.drop (k + 1))) := Lib.hid (by
          rw [HR.out, wr_next HK.out (by rw [HND.out]; exact HW0.out), HND.out]
          show wrF (left + t - (kT op).toNat + 1) _ = _
          rw [HT.out]
          congr 1
          simp)
        have HBW : Hid (Below w.heap.size w w1) := Lib.hid (HW.out.trans (HB1W.out.mono HW.out.size))
        have HLD : Hid (left ≤ d) := Lib.hid (by have := HC.out.1; omega)
        have HCALL : Hid (∀ W, Calls Tryd.prog 40 (#[.int .i64 k, .slice B2 t (d - left)] ++ #[]) W (fun e w' => e = .returned (.agg #[]) ∧ Below W.heap.size W w')) := Lib.hid (fun W => made_any k _ W)
        clear h1 h2 hw
        go_wp2_with fail
        go_region_held3 (fun _ => True) (trivial)
          (first
            | (refine (HCALL.out _).mono ?_; rintro x w3 ⟨rfl, hb3⟩; have HB3 : Hid (Below w.heap.size w w3) := Lib.hid (by first | exact HBW.out.drew.trans (hb3.mono HBW.out.size) | exact HBW.out.trans (hb3.mono HBW.out.size)); clear hb3)
            | (refine step_append (by rfl) (.tmp 32) (.tmp 39) (by rfl) (by rfl) B _ left d _ (by rfl) (by rfl) HLD.out HC.out.2 (by omega) ?_; intro A4 c4 w4 hc4 hb4; have HC4 := Lib.hid hc4; have HB4 : Hid (Below w.heap.size w w4) := Lib.hid ((HB3.out.alloc HB3.out.size _).trans (hb4.mono (by have := HB3.out.size; simp; omega))); clear hc4 hb4)
            | fail)
        clear EH ET
        go_wp2
        go_roundw
        case rel => exact ⟨k + 1, left + 1, some A4, c4, by omega, by go_num, rfl, by omega, Lib.hid ⟨HC4.out, fun h => by cases h⟩, HB4, HE⟩
        case measure => simp [intOf]; omega
      · obtain ⟨y, HY⟩ : ∃ y, Hid (ndW n (op, q) = y) := ⟨_, Lib.hid rfl⟩
        have HE : Hid (z = y) := Lib.hid (by rw [HR.out, wr_stop HK.out (by rw [HND.out]; exact hw), HND.out, HY.out])
        have HLV : Hid (leftV n (op, q) = 0) := Lib.hid (by unfold leftV; rw [if_neg hw])
        rw [HLV.out, HY.out]
        rw [HY.out] at hw
        have hz : (y != 0) = true := by simpa using hw
        go_wp2
        exact bodyPost_ret (v := .tuple #[.agg #[], .int .i64 y]) (by simp [results, Tryd.results39, go_sem]) rfl ⟨by rw [HE.out], HW.out.trans (HB1W.out.mono HW.out.size)⟩
    · obtain rfl : k = m := by omega
      have HE : Hid (z = if n = 0 then 4 else if 1 < n then 5 else 0) := Lib.hid (by rw [HR.out, wr_end (by rw [HM.out]; exact Nat.le_refl _)])
      by_cases n0 : n = 0
      · subst n0
        have HE2 : Hid (z = 4) := Lib.hid (HE.out.trans (if_pos rfl))
        clear HE
        go_wp2
        exact bodyPost_ret (v := .tuple #[.agg #[], .int .i64 4]) (by simp [results, Tryd.results39, go_sem]) rfl ⟨by rw [HE2.out], HW.out⟩
      · by_cases n1 : 1 < n
        · have HE2 : Hid (z = 5) := Lib.hid (HE.out.trans ((if_neg n0).trans (if_pos n1)))
          clear HE
          go_wp2
          exact bodyPost_ret (v := .tuple #[.agg #[], .int .i64 5]) (by simp [results, Tryd.results39, go_sem]) rfl ⟨by rw [HE2.out], HW.out⟩
        · obtain rfl : n = 1 := by omega
          have HE2 : Hid (z = 0) := Lib.hid (HE.out.trans ((if_neg n0).trans (if_neg n1)))
          obtain ⟨a, rfl⟩ : ∃ a, B = some a := by
            rcases B with _ | a
            · exact absurd HC.out.1 (by rw [HC.out.2 rfl]; decide)
            · exact ⟨a, rfl⟩
          clear HE n0 n1
          go_wp2
          exact bodyPost_ret (v := .tuple #[.agg #[], .int .i64 0]) (by simp [results, Tryd.results39, go_sem]) rfl ⟨by rw [HE2.out], HW.out⟩

theorem refused_any (e : List (Int × Int)) (A : Option Addr) (c m : Nat) (w : World) (hm : m = e.length) (hA : PA w A e) (hlm : m ≤ 1000) :
    Calls Tryd.prog 23 #[.slice A m c] w fun x w' => x = .returned (.int .i64 (wrF 0 e)) ∧ Below w.heap.size w w' := by
  have HK := Lib.hid (work_any e A c m w hm hA hlm)
  clear hm hA
  go_enter Tryd.func23, Tryd.ntmps23
  go_wp2_with fail
  refine HK.out.mono ?_
  rintro x w1 ⟨rfl, hb⟩
  have HB := Lib.hid hb
  clear hb
  go_wp2
  go_ret
  exact ⟨rfl, HB.out.alloc HB.out.size _⟩
theorem check_any (e : List (Int × Int)) (A : Option Addr) (c m : Nat) (w : World) (hm : m = e.length) (hA : PA w A e) (hlm : m ≤ 1000) :
    Calls Tryd.prog 14 #[.slice A m c] w fun x w' => x = .returned (.int .i64 (if 24 < m then 5 else wrF 0 e)) ∧ Below w.heap.size w w' := by
  have HK := Lib.hid (refused_any e A c m w hm hA hlm)
  clear hm hA
  obtain ⟨z, HZ⟩ : ∃ z, Hid ((if 24 < m then 5 else wrF 0 e) = z) := ⟨_, Lib.hid rfl⟩
  rw [HZ.out]
  by_cases h : 24 < m
  · have HE : Hid (z = 5) := Lib.hid (by rw [← HZ.out, if_pos h])
    go_enter Tryd.func14, Tryd.ntmps14
    go_wp2
    go_ret
    exact ⟨by rw [HE.out]; rfl, Below.refl _ _⟩
  · have HE : Hid (wrF 0 e = z) := Lib.hid (by rw [← HZ.out, if_neg h])
    go_enter Tryd.func14, Tryd.ntmps14
    go_wp2_with fail
    refine HK.out.mono ?_
    rintro x w' ⟨rfl, hb⟩
    have HB := Lib.hid hb
    clear hb
    rw [HE.out]
    go_wp2
    go_ret
    exact ⟨rfl, HB.out⟩
end Go.Proofs.YtgnflnfajkoibaaDoor.lt.wn
