/- The law OctetOwn: nothing that is handed in is changed, what becomes of it plays no part, and a reader that From did not make reads nothing. No condition. -/
import Derived.Test.YtbdlbljjbigjkabWorks
import Derived.Test.YtbdlbljjbigjkabReaderList
import Derived.Test.YtbdlbljjbigjkabReadPure
namespace Go.Proofs.Ytbdlbljjbigjkab.octetOwn
open Go.ChangeShapes Go.WideShapes Go.ChangeAt Go.RowKit

def FromPost2 (W : World) (l : List Int) (en : Ending) (w' : World) : Prop := ∃ g A c, en = .returned (.pointer (some ⟨g, 0, none⟩)) ∧ W.heap.size ≤ g ∧ Below W.heap.size W w' ∧ RD w' g A c l 0 0 ∧ (0 < l.length → ∀ ad, A = some ad → W.heap.size ≤ ad.block ∧ ad.block < w'.heap.size) ∧ g < w'.heap.size
theorem from2_any (A : Option Addr) (c m : Nat) (l : List Int) (w : World) (hm : m = l.length) (hc : A = none → c = 0) (hA : BA w A l) (hu : U8 l) (hl : l.length ≤ 1048576) :
    Calls Try.prog 9 #[.slice A m c] w (FromPost2 w l) := by
  subst hm
  have HA := Lib.hid hA
  have HU := Lib.hid hu
  clear hA hu
  go_enter Try.func9, Try.ntmps9
  go_wp2_with fail
  refine (clone_any A c _ l w rfl hc HA.out (by omega)).mono ?_
  rintro e w1 ⟨v1, rfl, ho1, hb1⟩
  obtain ⟨A1, c1, rfl, hB1⟩ := ho1.form
  have HL := Lib.hid (ob_lt ho1)
  have HG : Hid (∀ ad, A1 = some ad → w.heap.size ≤ ad.block) := Lib.hid (fun ad e => by subst e; exact (World.ownsRow.lt ho1 ad.block rfl).1)
  have HP := Lib.hid (ob_cap ho1)
  have HB := Lib.hid hB1
  have HW := Lib.hid hb1
  clear ho1 hb1 hB1
  go_wp2_with fail
  go_ret
  refine ⟨_, A1, c1, rfl, HW.out.size, HW.out.alloc HW.out.size _, ⟨?_, HB.out.alloc _, Nat.zero_le _, HU.out, hl, ?_, HP.out⟩, fun _ ad had => ⟨HG.out ad had, by have := HL.out ad had; simp; omega⟩, by simp⟩
  · refine World.rowIs_alloc w1 _ _ _ (fun i hi => ?_)
    match i, hi with
    | 0, _ => rfl
    | 1, _ => rfl
    | 2, _ => rfl
    | 3, _ => rfl
    | i + 4, hi => exact absurd hi (by simp)
  · intro ad had
    have := HL.out ad had
    omega


theorem RD.other {w w' : World} {g g2 : Nat} {A : Option Addr} {c : Nat} {l : List Int} {p : Nat} {e : Int} (h : RD w g A c l p e) (ho : Only g2 w w') (hne : g ≠ g2) (hA : 0 < l.length → ∀ ad, A = some ad → ad.block ≠ g2) : RD w' g A c l p e := by
  refine ⟨h.row.of_block (ho.block g h.row.lt (by intro e; injection e with e; exact hne e)), fun hn => ?_, h.place, h.u8, h.len, h.ne, h.cap⟩
  obtain ⟨b, off, e1, hlt, hc⟩ := h.bytes hn
  refine ⟨b, off, e1, Nat.lt_of_lt_of_le hlt ho.size, fun i hi => ?_⟩
  rw [World.cell?_of_block (w := w) (a := ⟨b, off + i, none⟩) (ho.block b hlt (by intro e; injection e with e; exact hA hn _ e1 e))]
  exact hc i hi

/-- The reader's Text, with or without a fault. -/
def txt (l : List Int) (p : Nat) (e : Int) : Got (List Int) := if e = 0 then readT (l.drop p) else ⟨e, [], 0⟩
theorem rtext_all {g : Nat} {A : Option Addr} {c : Nat} {l : List Int} {p : Nat} {e : Int} (w : World) (h : RD w g A c l p e) :
    Calls Try.prog 14 #[.pointer (some ⟨g, 0, none⟩)] w (RText g A c l p (txt l p e) w) := by
  unfold txt
  by_cases h0 : e = 0
  · subst h0
    rw [if_pos rfl]
    exact rtext_any w h
  · rw [if_neg h0]
    exact rtext_fault w h h0

/-! A reader that From did not make: nil, and the zero one. -/
theorem nil_err (w : World) : Calls Try.prog 13 #[.pointer none] w fun en w' => en = .returned (.int .i64 1) ∧ w = w' := by
  go_enter Try.func13, Try.ntmps13
  go_wp2
  go_ret
  exact ⟨rfl, rfl⟩
theorem nil_left (w : World) : Calls Try.prog 15 #[.pointer none] w fun en w' => en = .returned (.int .i64 0) ∧ w = w' := by
  go_enter Try.func15, Try.ntmps15
  go_wp2
  go_ret
  exact ⟨rfl, rfl⟩
theorem nil_num (w : World) : Calls Try.prog 12 #[.pointer none] w fun en w' => en = .returned (.int .i64 0) ∧ w = w' := by
  go_enter Try.func12, Try.ntmps12
  go_wp2_with fail
  refine (nil_err w).mono ?_
  rintro en w' ⟨rfl, rfl⟩
  go_wp2_with fail
  go_ret
  exact ⟨rfl, rfl⟩
theorem nil_list (w : World) : Calls Try.prog 16 #[.pointer none] w fun en w' => en = .returned (.slice none 0 0) ∧ w = w' := by
  go_enter Try.func16, Try.ntmps16
  go_wp2_with fail
  refine (nil_err w).mono ?_
  rintro en w' ⟨rfl, rfl⟩
  go_wp2_with fail
  go_ret
  exact ⟨rfl, rfl⟩
theorem nil_text (w : World) : Calls Try.prog 14 #[.pointer none] w fun en w' => (∃ s : ByteArray, en = .returned (.string s) ∧ s.size = 0) ∧ w = w' := by
  go_enter Try.func14, Try.ntmps14
  go_wp2_with fail
  refine (nil_err w).mono ?_
  rintro en w' ⟨rfl, rfl⟩
  go_wp2_with fail
  go_ret
  exact ⟨⟨_, rfl, rfl⟩, rfl⟩
theorem zero_err (z : Nat) (w : World) (h : w.cell? ⟨z, 2, none⟩ = some (.bool false)) : Calls Try.prog 13 #[.pointer (some ⟨z, 0, none⟩)] w fun en w' => en = .returned (.int .i64 1) ∧ w = w' := by
  go_enter Try.func13, Try.ntmps13
  go_wp2
  go_ret
  exact ⟨rfl, rfl⟩
theorem zero_left (z : Nat) (w : World) (h : w.cell? ⟨z, 2, none⟩ = some (.bool false)) : Calls Try.prog 15 #[.pointer (some ⟨z, 0, none⟩)] w fun en w' => en = .returned (.int .i64 0) ∧ w = w' := by
  go_enter Try.func15, Try.ntmps15
  go_wp2
  go_ret
  exact ⟨rfl, rfl⟩
theorem zero_num (z : Nat) (w : World) (h : w.cell? ⟨z, 2, none⟩ = some (.bool false)) : Calls Try.prog 12 #[.pointer (some ⟨z, 0, none⟩)] w fun en w' => en = .returned (.int .i64 0) ∧ w = w' := by
  have H := Lib.hid h
  clear h
  go_enter Try.func12, Try.ntmps12
  go_wp2_with fail
  refine (zero_err z w H.out).mono ?_
  rintro en w' ⟨rfl, rfl⟩
  go_wp2_with fail
  go_ret
  exact ⟨rfl, rfl⟩
theorem zero_list (z : Nat) (w : World) (h : w.cell? ⟨z, 2, none⟩ = some (.bool false)) : Calls Try.prog 16 #[.pointer (some ⟨z, 0, none⟩)] w fun en w' => en = .returned (.slice none 0 0) ∧ w = w' := by
  have H := Lib.hid h
  clear h
  go_enter Try.func16, Try.ntmps16
  go_wp2_with fail
  refine (zero_err z w H.out).mono ?_
  rintro en w' ⟨rfl, rfl⟩
  go_wp2_with fail
  go_ret
  exact ⟨rfl, rfl⟩
theorem zero_text (z : Nat) (w : World) (h : w.cell? ⟨z, 2, none⟩ = some (.bool false)) : Calls Try.prog 14 #[.pointer (some ⟨z, 0, none⟩)] w fun en w' => (∃ s : ByteArray, en = .returned (.string s) ∧ s.size = 0) ∧ w = w' := by
  have H := Lib.hid h
  clear h
  go_enter Try.func14, Try.ntmps14
  go_wp2_with fail
  refine (zero_err z w H.out).mono ?_
  rintro en w' ⟨rfl, rfl⟩
  go_wp2_with fail
  go_ret
  exact ⟨⟨_, rfl, rfl⟩, rfl⟩

theorem RD.grown {w w' : World} {g : Nat} {row : Option Nat} {A : Option Addr} {c : Nat} {l : List Int} {p : Nat} {e : Int} (h : RD w g A c l p e) (ho : w.grownBy w' row) (hne : some g ≠ row) (hA : 0 < l.length → ∀ ad, A = some ad → some ad.block ≠ row) : RD w' g A c l p e := by
  refine ⟨h.row.of_block (ho.block g h.row.lt hne), fun hn => ?_, h.place, h.u8, h.len, h.ne, h.cap⟩
  obtain ⟨b, off, e1, hlt, hc⟩ := h.bytes hn
  refine ⟨b, off, e1, Nat.lt_of_lt_of_le hlt ho.size, fun i hi => ?_⟩
  rw [World.cell?_of_block (w := w) (a := ⟨b, off + i, none⟩) (ho.block b hlt (hA hn _ e1))]
  exact hc i hi
theorem BA.grown {w w' : World} {row : Option Nat} {A : Option Addr} {l : List Int} (h : BA w A l) (ho : w.grownBy w' row) (hA : ∀ ad, A = some ad → some ad.block ≠ row) : BA w' A l := fun hn => by
  obtain ⟨b, off, e1, hlt, hc⟩ := h hn
  refine ⟨b, off, e1, Nat.lt_of_lt_of_le hlt ho.size, fun i hi => ?_⟩
  rw [World.cell?_of_block (w := w) (a := ⟨b, off + i, none⟩) (ho.block b hlt (hA _ e1))]
  exact hc i hi
theorem ob_nil {base n c : Nat} {w : World} {A : Option Addr} {l : List Int} (h : OB base w (.slice A n c) l) : A = none → c = 0 := fun h0 => by
  subst h0
  rcases h.2 with ⟨h1, _⟩ | ⟨g, cap, cur, h1, _⟩
  · injection h1
  · injection h1 with h2; cases h2

theorem only_cell {g z i : Nat} {w w' : World} {v : Value} (ho : Only g w w') (hlt : z < w.heap.size) (hne : z ≠ g) (h : w.cell? ⟨z, i, none⟩ = some v) : w'.cell? ⟨z, i, none⟩ = some v := by
  rw [World.cell?_of_block (w := w) (a := ⟨z, i, none⟩) (ho.block z hlt (by intro e; injection e with e; exact hne e))]
  exact h

set_option maxRecDepth 20000 in
set_option maxHeartbeats 8000000 in
theorem walk (A : Option Addr) (c : Nat) (b : List Int) (n : Int) (w : World) (hc : A = none → c = 0) (hA : BA w A b) (hu : U8 b) (hbl : b.length ≤ 140737488355328) (hn1 : -9223372036854775808 ≤ n) (hn2 : n ≤ 9223372036854775807) :
    Calls Try.prog 4 #[.slice A b.length c, .int .i64 n] w (LawPost w) := by
  by_cases h1 : 300 < b.length
  · clear hA hu hc
    have t : decide ((300 : Int) < (b.length : Int)) = true := decide_eq_true (by omega)
    go_enter Try.func4, Try.ntmps4
    go_wp2_with fail
    refine (works_any _).mono ?_
    rintro e w' ⟨rfl, hb⟩
    go_wp2
    go_ret
    exact ⟨rfl, hb⟩
  have HA := Lib.hid hA
  have HU := Lib.hid hu
  have Hc := Lib.hid hc
  have hel := Lib.hid (enc_len hn1 hn2)
  clear hA hu hc
  go_enter Try.func4, Try.ntmps4
  go_wp2_with (first
    | (at_builtin; refine append_bytes _ rfl (.tmp 16) (.tmp 17) rfl w.heap.size _ [] rfl (ob_empty w _ _ (Nat.le_refl _) rfl) A c _ b rfl rfl Hc.out (HA.out.alloc _) (by simpa using hbl) (by simp) ?_; intro vw w1 how hbw; have hV1 : Below w.heap.size w w1 := ((Below.refl _ _).alloc (Nat.le_refl _) _).trans hbw; obtain ⟨Aw, cw, rfl, hBw⟩ := how.form; have HOW := Lib.hid how; have HBW := Lib.hid hBw; clear how hBw hbw)
    | (at_builtin; refine append_bytes _ rfl (.tmp 19) (.tmp 20) rfl w1.heap.size _ [] rfl (ob_empty w1 _ _ (Nat.le_refl _) rfl) A c _ b rfl rfl Hc.out ((HA.out.below hV1).alloc _) (by simpa using hbl) (by simp) ?_; intro vm w2 hom hbm; have hY2 : Below w1.heap.size w1 w2 := ((Below.refl _ _).alloc (Nat.le_refl _) _).trans hbm; obtain ⟨Am, cm, rfl, hBm⟩ := hom.form; have HOM := Lib.hid hom; have HBM := Lib.hid hBm; clear hom hBm hbm))
  have how : OB w.heap.size w1 (.slice Aw b.length cw) b := HOW.out
  have hom : OB w1.heap.size w2 (.slice Am b.length cm) b := HOM.out
  have HBW1 : Hid (BA w1 Aw b) := HBW
  have HBM2 : Hid (BA w2 Am b) := HBM
  have Hcw := Lib.hid (ob_nil how)
  have Hcm := Lib.hid (ob_nil hom)
  have Hlw := Lib.hid (ob_lt how)
  have Hlm : Hid (∀ ad, Am = some ad → w1.heap.size ≤ ad.block ∧ ad.block < w2.heap.size) := Lib.hid (fun ad e => by subst e; exact World.ownsRow.lt hom ad.block rfl)
  have HOM2 := Lib.hid hom
  clear HOW HOM HBW HBM how hom
  have hV2 : Below w.heap.size w w2 := hV1.trans (hY2.mono hV1.size)
  have hz1 := hV1.size
  have hz2 := hY2.size
  refine (from2_any Am cm _ b w2 rfl Hcm.out HBM2.out HU.out (by omega)).mono ?_
  rintro e w3 ⟨gr, Ar, cr, rfl, hgr, hY3, hR3, hAr, hgr2⟩
  have hV3 := hV2.trans (hY3.mono hV2.size)
  have hz3 := hY3.size
  have HR3 := Lib.hid hR3
  have HAr := Lib.hid hAr
  clear hR3 hAr
  have HBM3 := Lib.hid (HBM2.out.below hY3)
  have HBW3 := Lib.hid ((HBW1.out.below hY2).below hY3)
  have HOM3 : Hid (OB w1.heap.size w3 (.slice Am b.length cm) b) := Lib.hid (World.ownsRow.kept (row := none) HOM2.out ⟨hY3.os, hY3.tape, hY3.output, hY3.size, fun i hi _ => hY3.block i hi⟩ (by
    cases hv : Value.ownBlock (.slice Am b.length cm) with
    | none => exact .inl rfl
    | some g => exact .inr (by simp)))
  go_wp2_with fail
  refine (num_any Am cm _ b n w3 rfl Hcm.out HBM3.out (by omega) hn1 hn2).mono ?_
  rintro e w4 ⟨A4, c4, rfl, hc4, hY4, hB4⟩
  have hz4 := hY4.size
  have hV4 := hV3.trans (hY4.mono hV3.size)
  have HB4 := Lib.hid hB4
  have HBW4 := Lib.hid (HBW3.out.below hY4)
  clear hB4 hc4
  go_wp2_with fail
  refine (refNum_any Aw cw _ b n w4 rfl Hcw.out HBW4.out (by omega) hn1 hn2).mono ?_
  rintro e w5 ⟨A5, c5, rfl, hc5, hY5, hB5⟩
  have hz5 := hY5.size
  have hV5 := hV4.trans (hY5.mono hV4.size)
  have HB5 := Lib.hid hB5
  have HB4b := Lib.hid (HB4.out.below hY5)
  have hY35 : Below w3.heap.size w3 w5 := hY4.trans (hY5.mono hz4)
  have HBM5 := Lib.hid (HBM3.out.below hY35)
  have HBW5 := Lib.hid (HBW3.out.below hY35)
  have HR5 := Lib.hid (HR3.out.below hY35)
  have HOM5 : Hid (OB w1.heap.size w5 (.slice Am b.length cm) b) := Lib.hid (World.ownsRow.kept (row := none) HOM3.out ⟨hY35.os, hY35.tape, hY35.output, hY35.size, fun i hi _ => hY35.block i hi⟩ (by
    cases hv : Value.ownBlock (.slice Am b.length cm) with
    | none => exact .inl rfl
    | some g => exact .inr (by simp)))
  have hlen1 : Hid ((b ++ enc n).length ≤ maxLen) := Lib.hid (by have := hel.out; unfold maxLen; rw [List.length_append]; omega)
  have hlen2 : Hid (b.length ≤ maxLen) := Lib.hid (by unfold maxLen; omega)
  clear hB5 hc5 hY4 hY5
  go_wp2_with fail
  refine (eq_yes w5 (by simp only [List.length_append]) (by simp only [List.length_append]) rfl HB4b.out HB5.out hlen1.out).mono ?_
  rintro e w' ⟨rfl, j1, rfl⟩
  go_wp2_with fail
  refine (eq_yes _ rfl rfl rfl (HBM5.out.drewN j1) (HBW5.out.drewN j1) hlen2.out).mono ?_
  rintro e w' ⟨rfl, j2, rfl⟩
  go_wp2_with fail
  have hW0 : Below w.heap.size w (w5.drewN (j1 + j2)) := below_drewN hV5 _
  have HOM6 : Hid (OB w1.heap.size (w5.drewN (j1 + j2)) (.slice Am b.length cm) b) := Lib.hid (HOM5.out.drewN _)
  have HBW6 : Hid (BA (w5.drewN (j1 + j2)) Aw b) := Lib.hid (HBW5.out.drewN _)
  have HR6 : Hid (RD (w5.drewN (j1 + j2)) gr Ar cr b 0 0) := Lib.hid (HR5.out.drewN _)
  have hz6 : w3.heap.size ≤ (w5.drewN (j1 + j2)).heap.size := hY35.size
  generalize w5.drewN (j1 + j2) = w6 at hW0 HOM6 HBW6 HR6 hz6
  clear HOM2 HOM3 HOM5 HBM2 HBM3 HBM5 HBW3 HBW4 HBW5 HR3 HR5 HB4 HB4b HB5 hY2 hY3 hY35 hz4 hz5 hV3 hV4 hV5
  go_loopw [8] (fun i wr => ∃ (k : Nat) (l' : List Int), k ≤ b.length ∧ i = .int .i64 (k : Int) ∧ Hid (l'.length = b.length) ∧ Hid (OB w1.heap.size wr (.slice Am b.length cm) l') ∧ Hid (w6.grownBy wr (Value.ownBlock (.slice Am b.length cm)))) (fun i _ => b.length - (intOf i).toNat)
  case atStart => exact ⟨0, b, Nat.zero_le _, rfl, Lib.hid rfl, HOM6, Lib.hid (World.grownBy.refl _ _)⟩
  case round =>
    obtain ⟨k, l', hk, rfl, HL, HO, HG⟩ := hrel
    by_cases hlt : k < b.length
    · obtain ⟨gm, cap, hv, hbm, hgs⟩ := World.ownsRow.form HO.out (by rw [HL.out]; omega)
      injection hv with e1 e2 e3
      subst e1 e3
      have hO2 : wr.ownsRow w1.heap.size 5 1 (.slice (some ⟨gm, 0, none⟩) b.length cm) b.length (l'.map (Value.int .u8)) := by have h := HO.out; unfold OB at h; rw [HL.out] at h; exact h
      have d1 : wr.cell? ⟨gm, k, none⟩ = some (.int .u8 (l'.getD k 0)) := by
        rw [World.ownsRow.cellAt hO2 k (by omega)]
        have : k < l'.length := by rw [HL.out]; exact hlt
        simp [List.getD, this]
      have d2 := World.ownsRow.frozenAt hO2 k
      have hst := fun u => World.ownsRow.stored hO2 k u
      have HST := Lib.hid hst
      generalize l'.getD k 0 = x at d1
      clear hO2 hst e2
      go_wp2
      have hs := HST.out (.int .u8 (IntKind.u8.wrap (x + 1)))
      have HO3 : Hid (OB w1.heap.size (wr.setCell ⟨gm, k, none⟩ (.int .u8 (IntKind.u8.wrap (x + 1)))) (.slice (some ⟨gm, 0, none⟩) b.length cm) (l'.set k (IntKind.u8.wrap (x + 1)))) := Lib.hid (by
        unfold OB
        rw [List.length_set, HL.out, List.map_set]
        exact hs.1)
      have HL3 : Hid ((l'.set k (IntKind.u8.wrap (x + 1))).length = b.length) := Lib.hid (by rw [List.length_set]; exact HL.out)
      have HG3 : Hid (w6.grownBy (wr.setCell ⟨gm, k, none⟩ (.int .u8 (IntKind.u8.wrap (x + 1)))) (Value.ownBlock (.slice (some ⟨gm, 0, none⟩) b.length cm))) := Lib.hid (HG.out.trans hs.2)
      clear hs
      go_roundw
      case rel => exact ⟨k + 1, _, by omega, by go_num, HL3, HO3, HG3⟩
      case measure => simp [intOf]; omega
    · have hrow : ∀ q, Value.ownBlock (.slice Am b.length cm) = some q → w1.heap.size ≤ q ∧ q < w2.heap.size := fun q hq => by
        cases Am with
        | none => cases hq
        | some ad =>
          have : ad.block = q := by injection hq
          rw [← this]
          exact Hlm.out ad rfl
      have hBW7 : BA wr Aw b := BA.grown HBW6.out HG.out (fun ad e h => by have h1 := Hlw.out ad e; have h2 := (hrow _ h.symm).1; omega)
      have hR7 : RD wr gr Ar cr b 0 0 := RD.grown HR6.out HG.out (fun h => by have h2 := (hrow _ h.symm).2; omega) (fun hn ad e h => by have h1 := (HAr.out hn ad e).1; have h2 := (hrow _ h.symm).2; omega)
      have hV7 : Below w.heap.size w wr := Below.grown hW0 HG.out hW0.size (fun q hq => Nat.le_trans hz1 (hrow q hq).1)
      have hz7 : w3.heap.size ≤ wr.heap.size := Nat.le_trans hz6 HG.out.size
      have HBW7 := Lib.hid hBW7
      have HR7 := Lib.hid hR7
      clear hrow hBW7 hR7 HO HG HL
      go_wp2_with fail
      refine (from2_any Aw cw _ b wr rfl Hcw.out HBW7.out HU.out (by omega)).mono ?_
      rintro e w8 ⟨gq, Aq, cq, rfl, hgq, hY8, hR8, hAq, hgq2⟩
      have hV8 := hV7.trans (hY8.mono hV7.size)
      have HR8 := Lib.hid hR8
      have HAq := Lib.hid hAq
      have HRr8 := Lib.hid (HR7.out.below hY8)
      have hz8 := hY8.size
      clear hR8 hAq
      go_wp2_with fail
      have hY9 : Below w8.heap.size w8 (w8.alloc (.cells #[.slice none 0 0, .int .i64 0, .bool false, .int .i64 0] 35)) := (Below.refl _ _).alloc (Nat.le_refl _) _
      have hV9 := hV8.trans (hY9.mono hV8.size)
      have HRr9 := Lib.hid (HRr8.out.below hY9)
      have HRq9 := Lib.hid (HR8.out.below hY9)
      have hzc9 : (w8.alloc (.cells #[.slice none 0 0, .int .i64 0, .bool false, .int .i64 0] 35)).cell? ⟨w8.heap.size, 2, none⟩ = some (.bool false) := by simp
      have hs9 : w8.heap.size < (w8.alloc (.cells #[.slice none 0 0, .int .i64 0, .bool false, .int .i64 0] 35)).heap.size := by simp
      generalize hw9 : w8.alloc (.cells #[.slice none 0 0, .int .i64 0, .bool false, .int .i64 0] 35) = w9 at hV9 HRr9 HRq9 hzc9 hs9
      clear hw9 hY9
      generalize hzz : w8.heap.size = z at hzc9 hs9
      have hHZ9 := Lib.hid hzc9
      have KN := Lib.hid (fun (g : Nat) (A' : Option Addr) (c' : Nat) (W : World) (h : RD W g A' c' b 0 0) => (rnum_any W h : Calls Try.prog 12 #[.pointer (some ⟨g, 0, none⟩)] W (RPost g A' c' b 0 W (.int .i64 (readN (b.drop 0)).v) (readN (b.drop 0)).k (readN (b.drop 0)).f)))
      generalize readN (b.drop 0) = G at KN
      obtain ⟨f, v, k⟩ := G
      have hgg : gq ≠ gr := by omega
      have n1 : Hid (0 < b.length → ∀ ad, Aq = some ad → ad.block ≠ gr) := Lib.hid (fun hn ad e => by have := (HAq.out hn ad e).1; omega)
      have n2 : Hid (0 < b.length → ∀ ad, Ar = some ad → ad.block ≠ gq) := Lib.hid (fun hn ad e => by have := (HAr.out hn ad e).2; omega)
      have hzr : z ≠ gr := by omega
      have hzq : z ≠ gq := by omega
      have hgW : w.heap.size ≤ gr := by have := hV2.size; omega
      have hgQ : w.heap.size ≤ gq := by have := hV7.size; omega
      clear hzc9 hk hlt
      refine (KN.out gr Ar cr w9 HRr9.out).mono ?_
      rintro e w10 ⟨rfl, hr10, ho10⟩
      have HRr10 := Lib.hid hr10
      have HRq10 := Lib.hid (RD.other HRq9.out ho10 hgg n1.out)
      have HZ10 := Lib.hid (only_cell ho10 hs9 hzr hHZ9.out)
      have hs10 : z < w10.heap.size := Nat.lt_of_lt_of_le hs9 ho10.size
      have hV10 := hV9.trans (ho10.below hgW hV9.size)
      clear hr10 ho10
      go_wp2_with fail
      refine (KN.out gq Aq cq w10 HRq10.out).mono ?_
      rintro e w11 ⟨rfl, hr11, ho11⟩
      have HRq11 := Lib.hid hr11
      have HRr11 := Lib.hid (RD.other HRr10.out ho11 (Ne.symm hgg) n2.out)
      have HZ11 := Lib.hid (only_cell ho11 hs10 hzq HZ10.out)
      have hs11 : z < w11.heap.size := Nat.lt_of_lt_of_le hs10 ho11.size
      have hV11 := hV10.trans (ho11.below hgQ hV10.size)
      clear hr11 ho11
      go_wp2_with fail
      refine (err_any _ HRr11.out).mono ?_
      rintro e w' ⟨rfl, rfl⟩
      go_wp2_with fail
      refine (err_any _ HRq11.out).mono ?_
      rintro e w' ⟨rfl, rfl⟩
      go_wp2_with fail
      refine (rtext_all _ HRr11.out).mono ?_
      rintro e w12 ⟨rfl, hr12, ho12⟩
      have HRq12 := Lib.hid (RD.other HRq11.out ho12 hgg n1.out)
      have HZ12 := Lib.hid (only_cell ho12 hs11 hzr HZ11.out)
      have hs12 : z < w12.heap.size := Nat.lt_of_lt_of_le hs11 ho12.size
      have hV12 := hV11.trans (ho12.below hgW hV11.size)
      clear hr12 ho12
      go_wp2_with fail
      refine (rtext_all _ HRq12.out).mono ?_
      rintro e w13 ⟨rfl, hr13, ho13⟩
      have HZ13 := Lib.hid (only_cell ho13 hs12 hzq HZ12.out)
      have hV13 := hV12.trans (ho13.below hgQ hV12.size)
      clear hr13 ho13
      go_wp2_with fail
      refine (nil_num _).mono ?_
      rintro e w' ⟨rfl, rfl⟩
      go_wp2_with fail
      refine (zero_num _ _ HZ13.out).mono ?_
      rintro e w' ⟨rfl, rfl⟩
      go_wp2_with fail
      refine (nil_left _).mono ?_
      rintro e w' ⟨rfl, rfl⟩
      go_wp2_with fail
      refine (zero_left _ _ HZ13.out).mono ?_
      rintro e w' ⟨rfl, rfl⟩
      go_wp2_with fail
      refine (nil_err _).mono ?_
      rintro e w' ⟨rfl, rfl⟩
      go_wp2_with fail
      refine (zero_err _ _ HZ13.out).mono ?_
      rintro e w' ⟨rfl, rfl⟩
      go_wp2_with fail
      refine (nil_list _).mono ?_
      rintro e w' ⟨rfl, rfl⟩
      go_wp2_with fail
      refine (zero_list _ _ HZ13.out).mono ?_
      rintro e w' ⟨rfl, rfl⟩
      go_wp2_with fail
      refine (nil_text _).mono ?_
      rintro e w' ⟨⟨s0, rfl, hs0⟩, rfl⟩
      go_wp2_with fail
      refine (zero_text _ _ HZ13.out).mono ?_
      rintro e w' ⟨⟨s1, rfl, hs1⟩, rfl⟩

      go_wp2_with fail
      refine (works_any _).mono ?_
      rintro e w14 ⟨rfl, hb14⟩
      go_wp2
      go_ret
      exact ⟨rfl, hV13.trans (hb14.mono hV13.size)⟩

theorem lifted (os : Os) (started : os.Started) (H : Type) (enc : TypeId × Value → H) :
    ReturnsInHanded {} Try.checked os 4 .any (Rows.octetOwnSpec.pre6 enc Try.prog Try.f4 Rows.octetOwnRow.domain false) (Rows.octetOwnSpec.post enc Try.prog Try.f4 false true false false) := by
  refine law_lifted started [25, 3] rfl (by kernel_rfl) Try.func4 rfl (by decide +kernel) rfl (fun ds hl => by
    match ds, hl with
    | [_, _], _ => rfl) (ChangeSpec.witness6 (enc := enc) (C := Try.checked) false ⟨#[], #[.slice none 0 0, .int .i64 0], []⟩ 8 (by kernel_rfl) (by kernel_rfl) (by kernel_rfl) (by kernel_rfl)) ?_
  intro W base args ds ps hval hA hlt hsz
  obtain ⟨v0, vs0, d0, ds0, p0, q0, hargs, rfl, rfl, h0, r0⟩ := trodAll_cons hA
  obtain ⟨v1, vs1, d1, ds1, p1, q1, rfl, rfl, rfl, h1, r1⟩ := trodAll_cons r0
  obtain ⟨rfl, rfl, rfl⟩ := trodAll_nil r1
  obtain rfl : args = #[v0, v1] := by cases args; simp_all
  obtain ⟨A0, c0, x0, rfl, n0, b0, i0, u0⟩ := open_bytes_arg (hval 0 25 v0 rfl rfl) h0 hsz 0 rfl rfl
  obtain ⟨x1, rfl, rfl, rfl, w1⟩ := open_int Try.underlying3 (hval 1 3 v1 rfl rfl) h1
  exact walk A0 c0 x0 x1 W n0 i0 u0 b0 (fits64 w1).1 (fits64 w1).2

theorem over : Rows.octetOwnRow.holds Try.pinned (OpenSpec.ofChange Rows.octetOwnSpec) :=
  OpenClaim.holds_of_wide 4 Try.f4 rfl rfl rfl rfl rfl rfl rfl ⟨rfl, rfl, rfl, rfl, rfl⟩ rfl rfl rfl rfl rfl (by kernel_rfl) Try.func4 (by kernel_rfl)
    (of_decide_eq_true (by kernel_rfl)) (by unfold Func.isWrapper; first | (rw [if_pos (by decide +kernel)]; kernel_rfl) | (rw [if_neg (by decide +kernel)]; exact ⟨rfl, rfl⟩))
    (fun os started H enc _ => lifted os started H enc)

theorem proved : Rows.OctetOwnSaid := over
#print axioms proved
end Go.Proofs.Ytbdlbljjbigjkab.octetOwn
