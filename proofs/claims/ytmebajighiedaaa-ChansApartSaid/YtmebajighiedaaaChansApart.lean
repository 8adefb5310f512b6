/- The law ChansApart: what is answered shares nothing with what was handed in: each cell of what is answered is turned, and what was handed in stays. No condition. -/
import Derived.Test.YtmebajighiedaaaChLaw
namespace Go.Proofs.Ytmebajighiedaaa.chansApart
open Go.ChangeShapes Go.WideShapes Go.ChangeAt Go.RowKit Go.Proofs.Ytmebajighiedaaa.ch

/-- Slice A's n cells are ints that may be stored, and only its block turned since w0. -/
structure Sto (w0 : World) (A : Option Addr) (n : Nat) (w : World) : Prop where
  cell : ∀ i, i < n → ∃ b o z, A = some ⟨b, o, none⟩ ∧ w.cell? ⟨b, o + i, none⟩ = some (.int .i64 z)
  fro : ∀ a i, A = some a → w.frozen? ⟨a.block, i, none⟩ = false
  turn : Turn (fun k => ∃ a, A = some a ∧ k = a.block) w0 w
theorem Sto.init {w v : World} {A : Option Addr} {c : Nat} {l : List Int} (h : InS w A c l) (hn : New v w A) : Sto w A l.length w :=
  ⟨fun i hi => by
    obtain ⟨b, o, e, _, hc⟩ := h.ia (by omega)
    exact ⟨b, o, _, e, hc i hi⟩, fun a i e => (hn a e).2.2 i, Turn.refl _ _⟩
theorem Sto.set {w0 w : World} {A : Option Addr} {n : Nat} (h : Sto w0 A n w) {b o k : Nat} (e : A = some ⟨b, o, none⟩) (y : Int) {u : Value} (hk : w.cell? ⟨b, o + k, none⟩ = some u) : Sto w0 A n (w.setCell ⟨b, o + k, none⟩ (.int .i64 y)) := by
  refine ⟨fun i hi => ?_, fun a i e => by rw [World.frozen?_setCell]; exact h.fro a i e, h.turn.set _ _ ⟨_, e, rfl⟩⟩
  obtain ⟨b', o', z, e', hc⟩ := h.cell i hi
  rw [e] at e'
  injection e' with e'
  injection e' with e1 e2
  subst e1 e2
  by_cases hik : i = k
  · subst hik
    exact ⟨b, o, y, e, World.cell?_setCell_same _ _ _ hk⟩
  · refine ⟨b, o, z, e, ?_⟩
    rw [World.cell?_setCell_other _ _ _ _ (fun h => hik (by injection h with _ h; omega))]
    exact hc
theorem New.keep {v w w' : World} {A : Option Addr} {T : Nat → Prop} (h : New v w A) (k : Turn T w w') (hT : ∀ a, A = some a → ¬ T a.block) : New v w' A := fun a e =>
  ⟨(h a e).1, Nat.lt_of_lt_of_le (h a e).2.1 k.size, fun i => by
    rw [World.frozen?_of_block (w := w) (a := ⟨a.block, i, none⟩) (k.block a.block (h a e).2.1 (hT a e))]; exact (h a e).2.2 i⟩
theorem InS.keep {w w' : World} {A : Option Addr} {c : Nat} {l : List Int} {T : Nat → Prop} (h : InS w A c l) (k : Turn T w w') (hT : ∀ a, A = some a → ¬ T a.block) : InS w' A c l := ⟨h.ia.turn k hT, h.le, h.max, h.non⟩

set_option maxRecDepth 20000 in
set_option maxHeartbeats 4000000 in
theorem walk (A : Option Addr) (c m : Nat) (l : List Int) (v : Int) (w : World) (hm : m = l.length) (hI : InS w A c l) (hl : 8 * m ≤ 140737488355328) :
    Calls Try.prog 7 #[.slice A m c, .int .i64 v] w (LawPost w) := by
  have HM := Lib.hid hm
  have HI := Lib.hid hI
  have HL := Lib.hid hl
  have HLE : Hid (m ≤ c) := Lib.hid (by rw [hm]; exact hI.le)
  have HLM : Hid (l.length ≤ maxLen) := Lib.hid (by unfold maxLen; omega)
  have hN1 : (putL l v).length ≤ m := by rw [hm]; exact put_le l v
  have hN2 : (takeL l).length ≤ m := by rw [hm]; exact take_le l
  have hN3 : (itemsF l).length ≤ m := by rw [hm]; exact items_le l
  clear hm hI
  obtain ⟨n1, HL1⟩ : ∃ n, Hid (n = (putL l v).length) := ⟨_, Lib.hid rfl⟩
  obtain ⟨n2, HL2⟩ : ∃ n, Hid (n = (takeL l).length) := ⟨_, Lib.hid rfl⟩
  obtain ⟨n3, HL3⟩ : ∃ n, Hid (n = (itemsF l).length) := ⟨_, Lib.hid rfl⟩
  rw [← HL1.out] at hN1
  rw [← HL2.out] at hN2
  rw [← HL3.out] at hN3
  go_enter Try.func7, Try.ntmps7
  go_wp2_with (first | (at_builtin; go_loud (refine append_list8 rfl (.tmp 15) (.tmp 16) rfl w.heap.size _ [] rfl (empty_own w) A m c l HM.out rfl (HI.out.ia.alloc _) HI.out.non (by have := HL.out; have := HM.out; simp; omega) (by simp) ?_); intro v3 w3 ho3 hb3; rw [List.nil_append] at ho3; have HO3 := Lib.hid ho3; have HB1 : Hid (Below w.heap.size w w3) := Lib.hid (((Below.refl _ w).alloc (Nat.le_refl _) _).trans hb3); clear ho3 hb3) | fail)
  obtain ⟨D, d, rfl, hd, _⟩ := HO3.out.ins
  have HD := Lib.hid hd.ia
  have HIA := Lib.hid (HI.out.ia.below HB1.out)
  rw [← HM.out]
  clear HO3 hd
  refine (put_any A c m l v w3 HM.out HIA.out HLE.out HI.out.max HL.out).mono ?_
  rintro e w4 ⟨A4, c4, rfl, h4, hb4, hn4⟩
  have H4 := Lib.hid h4
  have N4 := Lib.hid hn4
  have HB4 := Lib.hid hb4
  clear h4 hb4 hn4
  rw [← HL1.out]
  go_wp2_with fail
  refine (take_any A c m l w4 HM.out (HIA.out.below HB4.out) HLE.out HI.out.max HL.out).mono ?_
  rintro e w5 ⟨A5, c5, rfl, h5, hb5, hn5⟩
  have H5 := Lib.hid h5
  have N5 := Lib.hid hn5
  have HB5 := Lib.hid hb5
  clear h5 hb5 hn5
  rw [← HL2.out]
  go_wp2_with fail
  refine (items_any A c m l w5 HM.out (HIA.out.below (HB4.out.trans (HB5.out.mono HB4.out.size))) HLE.out HI.out.max HL.out).mono ?_
  rintro e w6 ⟨A6, c6, rfl, h6, hb6, hn6⟩
  rw [← HL3.out]
  -- what is known ahead of the loops, all at w6
  have S1 : Hid (Sto w6 A4 n1 w6 ∧ ∀ a, A4 = some a → w3.heap.size ≤ a.block ∧ a.block < w4.heap.size) := Lib.hid (by
    have k : Below w4.heap.size w4 w6 := HB5.out.trans (hb6.mono HB5.out.size)
    rw [HL1.out]
    exact ⟨Sto.init (InS.keep H4.out (T := fun _ => False) (Turn.of_below k) (fun _ _ h => h)) (New.keep N4.out (T := fun _ => False) (Turn.of_below k) (fun _ _ h => h)), fun a e => ⟨(N4.out a e).1, (N4.out a e).2.1⟩⟩)
  have HS1 : Hid (∀ a, A4 = some a → w3.heap.size ≤ a.block ∧ a.block < w4.heap.size) := Lib.hid S1.out.2
  have S2 : Hid (InS w6 A5 c5 (takeL l) ∧ New w4 w6 A5 ∧ ∀ a, A5 = some a → w4.heap.size ≤ a.block ∧ a.block < w5.heap.size) := Lib.hid ⟨InS.keep H5.out (T := fun _ => False) (Turn.of_below hb6) (fun _ _ h => h), New.keep N5.out (T := fun _ => False) (Turn.of_below hb6) (fun _ _ h => h), fun a e => ⟨(N5.out a e).1, (N5.out a e).2.1⟩⟩
  have S3 : Hid (InS w6 A6 c6 (itemsF l) ∧ New w5 w6 A6 ∧ ∀ a, A6 = some a → w5.heap.size ≤ a.block ∧ a.block < w6.heap.size) := Lib.hid ⟨h6, hn6, fun a e => ⟨(hn6 a e).1, (hn6 a e).2.1⟩⟩
  have HB6 : Hid (Below w3.heap.size w3 w6) := Lib.hid ((HB4.out.trans (HB5.out.mono HB4.out.size)).trans (hb6.mono (Nat.le_trans HB4.out.size HB5.out.size)))
  have HZ : Hid (w3.heap.size ≤ w4.heap.size ∧ w4.heap.size ≤ w5.heap.size ∧ w5.heap.size ≤ w6.heap.size) := Lib.hid ⟨HB4.out.size, HB5.out.size, hb6.size⟩
  clear h6 hb6 hn6 H4 N4 H5 N5 HB4 HB5
  go_wp2_with fail
  go_loopw [34] (fun i wr => ∃ k : Nat, k ≤ n1 ∧ i = .int .i64 k ∧ Hid (Sto w6 A4 n1 wr)) (fun i _ => n1 - (intOf i).toNat)
  case atStart => exact ⟨0, by omega, rfl, Lib.hid S1.out.1⟩
  case round =>
    obtain ⟨k, hk, rfl, HS⟩ := hrel
    by_cases hlt : k < n1
    · obtain ⟨b, o, z, e, c1⟩ := HS.out.cell k hlt
      have f1 := HS.out.fro _ (o + k) e
      have HN : Hid (∀ y : Int, Sto w6 A4 n1 (wr.setCell ⟨b, o + k, none⟩ (.int .i64 y))) := Lib.hid (fun y => HS.out.set e y c1)
      rw [e]
      go_wp2
      go_roundw
      case rel => exact ⟨k + 1, by omega, by go_num, Lib.hid (by rw [← e]; exact HN.out _)⟩
      case measure => simp [intOf]; omega
    · obtain rfl : n1 = k := by omega
      clear hlt hk S1
      have hT1 : ∀ q, (∃ a, A4 = some a ∧ q = a.block) → w3.heap.size ≤ q ∧ q < w4.heap.size := fun q hq => by
        obtain ⟨a, e, rfl⟩ := hq
        exact HS1.out a e
      have HBL : Hid (Below w3.heap.size w3 wr) := Lib.hid (HB6.out.trans ((HS.out.turn).below (fun q hq => (hT1 q hq).1) (by have := HZ.out; omega)))
      have hZ6 : w6.heap.size ≤ wr.heap.size := HS.out.turn.size
      have S2' : Hid (Sto wr A5 n2 wr) := Lib.hid (by
        have hd : ∀ a, A5 = some a → ¬ (∃ b, A4 = some b ∧ a.block = b.block) := fun a e ⟨b, e2, h⟩ => by have h1 := (HS1.out b e2).2; have h2 := (S2.out.2.2 a e).1; omega
        rw [HL2.out]
        exact Sto.init (InS.keep S2.out.1 HS.out.turn hd) (New.keep S2.out.2.1 HS.out.turn hd))
      have S3' : Hid (InS wr A6 c6 (itemsF l) ∧ New w5 wr A6) := Lib.hid (by
        have hd : ∀ a, A6 = some a → ¬ (∃ b, A4 = some b ∧ a.block = b.block) := fun a e ⟨b, e2, h⟩ => by have h1 := (HS1.out b e2).2; have h2 := (S3.out.2.2 a e).1; have := HZ.out; omega
        exact ⟨InS.keep S3.out.1 HS.out.turn hd, New.keep S3.out.2.1 HS.out.turn hd⟩)
      clear hT1 HS
      obtain ⟨wo, hwo⟩ : ∃ wo, wo = wr := ⟨_, rfl⟩
      subst hwo
      go_wp2_with fail
      go_loopw [46] (fun i wr => ∃ k : Nat, k ≤ n2 ∧ i = .int .i64 k ∧ Hid (Sto wo A5 n2 wr)) (fun i _ => n2 - (intOf i).toNat)
      case atStart => exact ⟨0, by omega, rfl, S2'⟩
      case round =>
        obtain ⟨k, hk, rfl, HS⟩ := hrel
        by_cases hlt : k < n2
        · obtain ⟨b, o, z, e, c1⟩ := HS.out.cell k hlt
          have f1 := HS.out.fro _ (o + k) e
          have HN : Hid (∀ y : Int, Sto wo A5 n2 (wr.setCell ⟨b, o + k, none⟩ (.int .i64 y))) := Lib.hid (fun y => HS.out.set e y c1)
          rw [e]
          go_wp2
          go_roundw
          case rel => exact ⟨k + 1, by omega, by go_num, Lib.hid (by rw [← e]; exact HN.out _)⟩
          case measure => simp [intOf]; omega
        · obtain rfl : n2 = k := by omega
          clear hlt hk S2'
          have hT2 : ∀ q, (∃ a, A5 = some a ∧ q = a.block) → w4.heap.size ≤ q ∧ q < w5.heap.size := fun q hq => by
            obtain ⟨a, e, rfl⟩ := hq
            exact S2.out.2.2 a e
          have HBL2 : Hid (Below w3.heap.size w3 wr) := Lib.hid (HBL.out.trans ((HS.out.turn).below (fun q hq => by have := (hT2 q hq).1; have := HZ.out; omega) (by have := HZ.out; omega)))
          have hZ7 : wo.heap.size ≤ wr.heap.size := HS.out.turn.size
          have S3q : Hid (Sto wr A6 n3 wr) := Lib.hid (by
            have hd : ∀ a, A6 = some a → ¬ (∃ b, A5 = some b ∧ a.block = b.block) := fun a e ⟨b, e2, h⟩ => by have h1 := (S2.out.2.2 b e2).2; have h2 := (S3.out.2.2 a e).1; omega
            rw [HL3.out]
            exact Sto.init (InS.keep S3'.out.1 HS.out.turn hd) (New.keep S3'.out.2 HS.out.turn hd))
          clear hT2 HS S3'
          obtain ⟨wp, hwp⟩ : ∃ wp, wp = wr := ⟨_, rfl⟩
          subst hwp
          go_wp2_with fail
          go_loopw [58] (fun i wr => ∃ k : Nat, k ≤ n3 ∧ i = .int .i64 k ∧ Hid (Sto wp A6 n3 wr)) (fun i _ => n3 - (intOf i).toNat)
          case atStart => exact ⟨0, by omega, rfl, S3q⟩
          case round =>
            obtain ⟨k, hk, rfl, HS⟩ := hrel
            by_cases hlt : k < n3
            · obtain ⟨b, o, z, e, c1⟩ := HS.out.cell k hlt
              have f1 := HS.out.fro _ (o + k) e
              have HN : Hid (∀ y : Int, Sto wp A6 n3 (wr.setCell ⟨b, o + k, none⟩ (.int .i64 y))) := Lib.hid (fun y => HS.out.set e y c1)
              rw [e]
              go_wp2
              go_roundw
              case rel => exact ⟨k + 1, by omega, by go_num, Lib.hid (by rw [← e]; exact HN.out _)⟩
              case measure => simp [intOf]; omega
            · obtain rfl : n3 = k := by omega
              clear hlt hk S3q
              have hT3 : ∀ q, (∃ a, A6 = some a ∧ q = a.block) → w5.heap.size ≤ q := fun q hq => by
                obtain ⟨a, e, rfl⟩ := hq
                exact (S3.out.2.2 a e).1
              have HBL3 : Hid (Below w3.heap.size w3 wr) := Lib.hid (HBL2.out.trans ((HS.out.turn).below (fun q hq => by have := hT3 q hq; have := HZ.out; omega) (by have := HZ.out; omega)))
              have HBW : Hid (Below w.heap.size w wr) := Lib.hid (HB1.out.trans (HBL3.out.mono HB1.out.size))
              clear hT3 HS
              go_wp2_with fail
              refine (same_any A D c d m m l l wr HM.out HM.out (HIA.out.below HBL3.out) (HD.out.below HBL3.out) HLM.out HLM.out).mono ?_
              rintro e w10 ⟨rfl, j3, rfl⟩
              rw [eqB_same]
              have HB10 := Lib.hid (below_drewN HBW.out j3)
              generalize wr.drewN j3 = w10 at HB10 ⊢
              go_wp2_with fail
              refine (lives_any w10).mono ?_
              rintro e w11 ⟨rfl, hb11⟩
              have HB11 := Lib.hid (HB10.out.trans (hb11.mono HB10.out.size))
              clear hb11
              go_wp2_with fail
              go_ret
              exact ⟨rfl, HB11.out⟩

set_option maxRecDepth 100000 in
theorem lifted (os : Os) (started : os.Started) (H : Type) (enc : TypeId × Value → H) :
    ReturnsInHanded {} Try.checked os 7 .any (Rows.chansApartSpec.pre6 enc Try.prog Try.f7 Rows.chansApartRow.domain false) (Rows.chansApartSpec.post enc Try.prog Try.f7 false true false false) := by
  refine law_lifted started [22, 3] rfl (by kernel_rfl) Try.func7 rfl (by decide +kernel) rfl (fun ds hl => by
    match ds, hl with
    | [_, _], _ => rfl) (ChangeSpec.witness6 (enc := enc) (C := Try.checked) false ⟨#[], #[.slice none 0 0, .int .i64 0], []⟩ 8 (by kernel_rfl) (by kernel_rfl) (by kernel_rfl) (by kernel_rfl)) ?_
  intro W base args ds ps hval hA hlt hsz
  obtain ⟨v0, vs0, d0, ds0, p0, q0, hargs, rfl, rfl, h0, r0⟩ := trodAll_cons hA
  obtain ⟨v1, vs1, d1, ds1, p1, q1, rfl, rfl, rfl, h1, r1⟩ := trodAll_cons r0
  obtain ⟨rfl, rfl, rfl⟩ := trodAll_nil r1
  obtain rfl : args = #[v0, v1] := by cases args; simp_all
  obtain ⟨A0, c0, x0, rfl, b0, i0, z0⟩ := open_ins_arg (hval 0 22 v0 rfl rfl) h0 hsz 0 rfl rfl
  obtain ⟨x1, rfl, rfl, rfl, w1⟩ := open_int Try.underlying3 (hval 1 3 v1 rfl rfl) h1
  exact walk A0 c0 _ x0 x1 W rfl i0 b0

set_option maxRecDepth 100000 in
theorem over : Rows.chansApartRow.holds Try.pinned (OpenSpec.ofChange Rows.chansApartSpec) :=
  OpenClaim.holds_of_wide 7 Try.f7 rfl rfl rfl rfl rfl rfl rfl ⟨rfl, rfl, rfl, rfl, rfl⟩ rfl rfl rfl rfl rfl (by kernel_rfl) Try.func7 (by kernel_rfl)
    (of_decide_eq_true (by kernel_rfl)) (by unfold Func.isWrapper; first | (rw [if_pos (by decide +kernel)]; kernel_rfl) | (rw [if_neg (by decide +kernel)]; exact ⟨rfl, rfl⟩))
    (fun os started H enc _ => lifted os started H enc)

theorem proved : Rows.ChansApartSaid := over
#print axioms proved
end Go.Proofs.Ytmebajighiedaaa.chansApart
