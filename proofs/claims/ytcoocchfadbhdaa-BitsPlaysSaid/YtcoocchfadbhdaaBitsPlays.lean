/- The law BitsPlays: of any length and any calls: what the set has, whatever is put into it and dropped out of it, is what the document says; and nothing that was there is changed. No condition. -/
import Derived.Test.YtcoocchfadbhdaaBitsWith
import Derived.Deep.RegionHeld3
namespace Go.Proofs.Ytcoocchfadbhdaa.bitsPlays
open Go.ChangeShapes Go.WideShapes Go.ChangeAt Go.RowKit

theorem none_ (A : Option Addr) (c x : Nat) (n : Int) (w : World) (h : n < 0 ∨ 65536 < n) :
    Calls Try.prog 3 #[.int .i64 n, .slice A x c] w (LawPost w) := by
  have H := Lib.hid h
  clear h
  go_enter Try.func3, Try.ntmps3
  go_wp2_with fail
  refine (new_none n w H.out).mono ?_
  rintro e w' ⟨rfl, rfl⟩
  go_wp2_with fail
  refine (refNew_none n w H.out).mono ?_
  rintro e w' ⟨rfl, rfl⟩
  go_wp2_with fail
  refine (awake_any w).mono ?_
  rintro e wz ⟨rfl, hbz⟩
  go_wp2
  go_ret
  exact ⟨rfl, hbz⟩

set_option maxRecDepth 20000 in
theorem large (A : Option Addr) (c x n : Nat) (w : World) (hn : n ≤ 65536) (h : 300 < n ∨ 100 < x) (hx : x ≤ 140737488355328) :
    Calls Try.prog 3 #[.int .i64 n, .slice A x c] w (LawPost w) := by
  have hnn : ((n : Int) == (n : Int)) = true := by simp
  by_cases h1 : 300 < n
  · have h1' : (300 : Int) < (n : Int) := by omega
    clear h
    go_enter Try.func3, Try.ntmps3
    go_wp2_with fail
    refine (new_some n w hn).mono ?_
    rintro e w1 ⟨s, t, rfl, h1, hs, ht, hb1⟩
    have H1 := Lib.hid h1
    have HB1 := Lib.hid hb1
    clear h1 hs ht hb1
    go_wp2_with fail
    refine (refNew_some n w1 hn).mono ?_
    rintro e w2 ⟨b, rfl, _, _, hb2⟩
    have H2 := Lib.hid (H1.out.keep hb2)
    have HB2 := Lib.hid (HB1.out.trans (hb2.mono HB1.out.size))
    clear hb2
    go_wp2_with fail
    refine (len_any H2.out.hd).mono ?_
    rintro e w' ⟨rfl, rfl⟩
    go_wp2_with fail
    refine (awake_any w2).mono ?_
    rintro e wz ⟨rfl, hbz⟩
    have WZ := Lib.hid (HB2.out.trans (hbz.mono HB2.out.size))
    clear hbz
    go_wp2
    go_ret
    exact ⟨rfl, WZ.out⟩
  · have h1' : ¬ (300 : Int) < (n : Int) := by omega
    have h2' : (100 : Int) < (x : Int) := by omega
    clear h
    go_enter Try.func3, Try.ntmps3
    go_wp2_with fail
    refine (new_some n w hn).mono ?_
    rintro e w1 ⟨s, t, rfl, h1, hs, ht, hb1⟩
    have H1 := Lib.hid h1
    have HB1 := Lib.hid hb1
    clear h1 hs ht hb1
    go_wp2_with fail
    refine (refNew_some n w1 hn).mono ?_
    rintro e w2 ⟨b, rfl, _, _, hb2⟩
    have H2 := Lib.hid (H1.out.keep hb2)
    have HB2 := Lib.hid (HB1.out.trans (hb2.mono HB1.out.size))
    clear hb2
    go_wp2_with fail
    refine (len_any H2.out.hd).mono ?_
    rintro e w' ⟨rfl, rfl⟩
    go_wp2_with fail
    refine (awake_any w2).mono ?_
    rintro e wz ⟨rfl, hbz⟩
    have WZ := Lib.hid (HB2.out.trans (hbz.mono HB2.out.size))
    clear hbz
    go_wp2
    go_ret
    exact ⟨rfl, WZ.out⟩

theorem GA.touch {w w' : World} {A : Option Addr} {n t : Nat} {g : Nat → Bool} (h : GA w A n g) (hT : Touch w w' t) (hne : ∀ a, A = some a → a.block ≠ t) : GA w' A n g := fun hn => by
  obtain ⟨b, off, rfl, hl, hc⟩ := h hn
  exact ⟨b, off, rfl, Nat.lt_of_lt_of_le hl hT.size, fun i hi => (World.cell?_of_block (a := ⟨b, off + i, none⟩) (hT.block b hl (fun e => by injection e with e; exact hne _ rfl e))).trans (hc i hi)⟩
theorem done_true (g : Nat → Bool) (n : Nat) (z : Int) : (decide (0 ≤ z ∧ z < n) && !memI g z) = doneOf g n z true := by
  unfold doneOf
  cases memI g z <;> rfl
theorem done_false (g : Nat → Bool) (n : Nat) (z : Int) : (decide (0 ≤ z ∧ z < n) && memI g z) = doneOf g n z false := by
  unfold doneOf
  cases memI g z <;> rfl

set_option maxRecDepth 100000 in
set_option maxHeartbeats 8000000 in
theorem small (A : Option Addr) (c m n : Nat) (l : List (Int × Int)) (w : World) (hm : m = l.length) (hA : QA w A l) (hw : ∀ z ∈ l, (Lit.int .u8 z.1).wf = true ∧ (Lit.int .i64 z.2).wf = true) (hn : n ≤ 300) (hml : m ≤ 100) :
    Calls Try.prog 3 #[.int .i64 n, .slice A m c] w (LawPost w) := by
  have HM := Lib.hid hm
  have HA := Lib.hid hA
  have HWF := Lib.hid hw
  have hmx : Try.prog.follows .mixedOrders = true := by kernel_rfl
  clear hm hA hw
  go_enter Try.func3, Try.ntmps3
  go_wp2_with fail
  refine (new_some n w (by omega)).mono ?_
  rintro e w1 ⟨s, t, rfl, h1, hs, ht, hb1⟩
  have H1 := Lib.hid h1
  have HB1 := Lib.hid hb1
  have HTB : Hid (w.heap.size ≤ t) := Lib.hid ht
  clear h1 hs hb1 ht
  go_wp2_with fail
  refine (refNew_some n w1 (by omega)).mono ?_
  rintro e w2 ⟨b, rfl, hx2, hbn, hb2⟩
  have H2 := Lib.hid (H1.out.keep hb2)
  have HX2 := Lib.hid hx2.ga
  have HB2 := Lib.hid (HB1.out.trans (hb2.mono HB1.out.size))
  have HAP : Hid (∀ a, some (⟨b, 0, none⟩ : Addr) = some a → a.block ≠ t) := Lib.hid (fun a e => by
    injection e with e
    subst e
    have := H1.out.words.lt
    show b ≠ t
    omega)
  clear hx2 hbn hb2 H1
  go_wp2
  go_loopw [6, 8, 9, 10] (fun x i _ _ wr => ∃ (k : Nat) (A' : Option Addr) (c' : Nat) (g : Nat → Bool), k ≤ m ∧ x = .slice A' n c' ∧ i = .int .i64 k ∧ Hid (ST wr s t n g) ∧ Hid (GA wr A' n g) ∧ Hid (∀ a, A' = some a → a.block ≠ t) ∧ Hid (Below w.heap.size w wr)) (fun _ i _ _ _ => m - (intOf i).toNat)
  case atStart => exact ⟨0, _, _, _, by omega, rfl, rfl, H2, HX2, HAP, HB2⟩
  case round =>
    obtain ⟨k, A', c', g, hk, rfl, rfl, HS, HG, HP, HB⟩ := hrel
    by_cases hlt : k < m
    · obtain ⟨bo, oo, rfl, hbo, hc⟩ := HA.out (by rw [← HM.out]; omega)
      obtain ⟨hc1, hc2⟩ := hc k (by rw [← HM.out]; exact hlt)
      have c1 := (HB.out.cell (p := ⟨bo, oo + k * 2, none⟩) hbo).trans hc1
      have c2 := (HB.out.cell (p := ⟨bo, oo + k * 2 + 1, none⟩) hbo).trans hc2
      have HKD : Hid (0 ≤ (l.getD k (0, 0)).1 ∧ (l.getD k (0, 0)).1 ≤ 255) := Lib.hid (by
        have hl : k < l.length := by rw [← HM.out]; exact hlt
        have h := (HWF.out (l.getD k (0, 0)) (by
          have e : l.getD k (0, 0) = l[k] := by simp [List.getD, hl]
          rw [e]; exact List.getElem_mem hl)).1
        have e : IntKind.u8.min = 0 := rfl
        have e2 : IntKind.u8.max = 255 := rfl
        simpa [Lit.wf, e, e2] using h)
      generalize (l.getD k (0, 0)).1 = kd at c1 HKD
      generalize (l.getD k (0, 0)).2 = z at c2
      obtain ⟨hk0, hk1⟩ := HKD.out
      clear hc hc1 hc2
      obtain ⟨q, HQ⟩ : ∃ q, Hid (memI g z = q) := ⟨_, Lib.hid rfl⟩
      have hqq : (q != q) = false := by simp
      have hr3 : kd % 3 = 0 ∨ kd % 3 = 1 ∨ kd % 3 = 2 := by omega
      go_wp2
      go_quiet ((first
        | (go_at_call 18; exact Calls.quiet_of ((has_any (HS.out.drewN _) z).mono fun e w' h => ⟨by rw [h.1, HQ.out], h.2⟩))
        | (go_at_call 19; exact Calls.quiet_of_same ((refHas_any (show GA (wr.drewN _) A' n g from HG.out) HS.out.off hn z).mono fun e w' h => ⟨by rw [h.1, HQ.out], h.2⟩))))
      have HS1 := Lib.hid (HS.out.drewN nq)
      have HG1 : Hid (GA (wr.drewN nq) A' n g) := HG
      have HB1' := Lib.hid (below_drewN HB.out nq)
      have d1 : (wr.drewN nq).cell? ⟨bo, oo + k * 2, none⟩ = some (.int .u8 kd) := c1
      have d2 : (wr.drewN nq).cell? ⟨bo, oo + k * 2 + 1, none⟩ = some (.int .i64 z) := c2
      clear c1 c2 HS HG HB
      generalize wr.drewN nq = v1 at *
      rcases hr3 with hr3 | hr3 | hr3
      · have hr4 : (kd % 3 == 0) = true := by rw [hr3]; rfl
        have hbo1 := HB1'.out.size
        go_wp2
        go_region_held3 (fun w' => w'.cell? ⟨bo, oo + k * 2, none⟩ = some (.int .u8 kd) ∧ w'.cell? ⟨bo, oo + k * 2 + 1, none⟩ = some (.int .i64 z)) (first | exact ⟨g1, g2⟩ | exact ⟨d1, d2⟩ | go_keep)
          (first
            | (go_at_call 20; refine (refWith_any (show GA v1.drew A' n g from HG1.out) hn z _).mono ?_; rintro e v4 ⟨A4, c4, rfl, hga, hbl, hb4⟩; have g1 := (hb4.cell (p := ⟨bo, oo + k * 2, none⟩) (by show bo < v1.heap.size; omega)).trans d1; have g2 := (hb4.cell (p := ⟨bo, oo + k * 2 + 1, none⟩) (by show bo < v1.heap.size; omega)).trans d2))
        have hrt : (kd.tmod 3 == 0) = true := by rw [Int.tmod_eq_emod_of_nonneg hk0, hr3]; rfl
        rw [hrt] at hga ⊢
        have HG4 := Lib.hid hga
        have HS4 : Hid (ST v4 s t n g) := Lib.hid ((HS1.out.drewN 1).keep hb4)
        have HP4 : Hid (∀ a, A4 = some a → a.block ≠ t) := Lib.hid (fun a e => by
          rcases hbl a e with e2 | hge
          · exact HP.out a e2
          · have hge : v1.heap.size ≤ a.block := hge
            have := HS1.out.words.lt
            omega)
        have HB4 : Hid (Below w.heap.size w v4) := Lib.hid (HB1'.out.drew.trans (hb4.mono HB1'.out.size))
        obtain ⟨dn, HDN⟩ : ∃ dn, Hid (doneOf g n z true = dn) := ⟨_, Lib.hid rfl⟩
        have hdd : (dn != dn) = false := by simp
        rw [HDN.out]
        clear hga hbl hb4 d1 d2 HS1 HG1 HB1' hbo1 hrt
        go_wp2_with fail
        refine (put_any HS4.out z).mono ?_
        rintro e v5 ⟨rfl, hT⟩
        rw [done_true g n z, HDN.out]
        have HS5 : Hid (ST v5 s t n (newOf g n z true)) := Lib.hid hT.1
        have HG5 : Hid (GA v5 A4 n (newOf g n z true)) := Lib.hid (GA.touch HG4.out hT.2.1 HP4.out)
        have HB5 : Hid (Below w.heap.size w v5) := Lib.hid (Turned.below hT HB4.out HB4.out.size HTB.out)
        have hbt : bo < v4.heap.size ∧ bo ≠ t := by have := HB4.out.size; have := HTB.out; omega
        have k1 : v5.cell? ⟨bo, oo + k * 2, none⟩ = some (.int .u8 kd) := (World.cell?_of_block (a := ⟨bo, oo + k * 2, none⟩) (hT.2.1.block bo hbt.1 (fun e => by injection e with e; exact hbt.2 e))).trans g1
        have k2 : v5.cell? ⟨bo, oo + k * 2 + 1, none⟩ = some (.int .i64 z) := (World.cell?_of_block (a := ⟨bo, oo + k * 2 + 1, none⟩) (hT.2.1.block bo hbt.1 (fun e => by injection e with e; exact hbt.2 e))).trans g2
        clear hT g1 g2 hbt
        go_wp2
        go_roundw
        case rel => exact ⟨k + 1, A4, c4, _, by omega, rfl, by go_num, HS5, HG5, HP4, HB5⟩
        case measure => simp [intOf]; omega
      · have hr4 : (kd % 3 == 1) = true := by rw [hr3]; rfl
        have hbo1 := HB1'.out.size
        go_wp2
        go_region_held3 (fun w' => w'.cell? ⟨bo, oo + k * 2, none⟩ = some (.int .u8 kd) ∧ w'.cell? ⟨bo, oo + k * 2 + 1, none⟩ = some (.int .i64 z)) (first | exact ⟨g1, g2⟩ | exact ⟨d1, d2⟩ | go_keep)
          (first
            | (go_at_call 20; refine (refWith_any (show GA v1.drew A' n g from HG1.out) hn z _).mono ?_; rintro e v4 ⟨A4, c4, rfl, hga, hbl, hb4⟩; have g1 := (hb4.cell (p := ⟨bo, oo + k * 2, none⟩) (by show bo < v1.heap.size; omega)).trans d1; have g2 := (hb4.cell (p := ⟨bo, oo + k * 2 + 1, none⟩) (by show bo < v1.heap.size; omega)).trans d2))
        have hrt : (kd.tmod 3 == 0) = false := by rw [Int.tmod_eq_emod_of_nonneg hk0, hr3]; rfl
        rw [hrt] at hga ⊢
        have HG4 := Lib.hid hga
        have HS4 : Hid (ST v4 s t n g) := Lib.hid ((HS1.out.drewN 1).keep hb4)
        have HP4 : Hid (∀ a, A4 = some a → a.block ≠ t) := Lib.hid (fun a e => by
          rcases hbl a e with e2 | hge
          · exact HP.out a e2
          · have hge : v1.heap.size ≤ a.block := hge
            have := HS1.out.words.lt
            omega)
        have HB4 : Hid (Below w.heap.size w v4) := Lib.hid (HB1'.out.drew.trans (hb4.mono HB1'.out.size))
        obtain ⟨dn, HDN⟩ : ∃ dn, Hid (doneOf g n z false = dn) := ⟨_, Lib.hid rfl⟩
        have hdd : (dn != dn) = false := by simp
        rw [HDN.out]
        clear hga hbl hb4 d1 d2 HS1 HG1 HB1' hbo1 hrt
        go_wp2_with fail
        refine (drop_any HS4.out z).mono ?_
        rintro e v5 ⟨rfl, hT⟩
        rw [done_false g n z, HDN.out]
        have HS5 : Hid (ST v5 s t n (newOf g n z false)) := Lib.hid hT.1
        have HG5 : Hid (GA v5 A4 n (newOf g n z false)) := Lib.hid (GA.touch HG4.out hT.2.1 HP4.out)
        have HB5 : Hid (Below w.heap.size w v5) := Lib.hid (Turned.below hT HB4.out HB4.out.size HTB.out)
        have hbt : bo < v4.heap.size ∧ bo ≠ t := by have := HB4.out.size; have := HTB.out; omega
        have k1 : v5.cell? ⟨bo, oo + k * 2, none⟩ = some (.int .u8 kd) := (World.cell?_of_block (a := ⟨bo, oo + k * 2, none⟩) (hT.2.1.block bo hbt.1 (fun e => by injection e with e; exact hbt.2 e))).trans g1
        have k2 : v5.cell? ⟨bo, oo + k * 2 + 1, none⟩ = some (.int .i64 z) := (World.cell?_of_block (a := ⟨bo, oo + k * 2 + 1, none⟩) (hT.2.1.block bo hbt.1 (fun e => by injection e with e; exact hbt.2 e))).trans g2
        clear hT g1 g2 hbt
        go_wp2
        go_roundw
        case rel => exact ⟨k + 1, A4, c4, _, by omega, rfl, by go_num, HS5, HG5, HP4, HB5⟩
        case measure => simp [intOf]; omega
      · have hr4 : (kd % 3 == 2) = true := by rw [hr3]; rfl
        go_wp2
        go_roundw
        case rel => exact ⟨k + 1, A', c', g, by omega, rfl, by go_num, HS1, HG1, HP, HB1'⟩
        case measure => simp [intOf]; omega
    · obtain rfl : k = m := by omega
      go_wp2_with fail
      refine (is_yes HS.out HG.out).mono ?_
      rintro e u1 ⟨rfl, hb1⟩
      have U1 := Lib.hid (HB.out.trans (hb1.mono HB.out.size))
      clear hb1
      go_wp2_with fail
      refine (awake_any u1).mono ?_
      rintro e wz ⟨rfl, hbz⟩
      have WZ := Lib.hid (U1.out.trans (hbz.mono U1.out.size))
      clear hbz
      go_wp2
      go_ret
      exact ⟨rfl, WZ.out⟩

theorem walk (A : Option Addr) (c : Nat) (n : Int) (l : List (Int × Int)) (w : World) (hA : QA w A l) (hw : ∀ z ∈ l, (Lit.int .u8 z.1).wf = true ∧ (Lit.int .i64 z.2).wf = true) (hl : 16 * l.length ≤ 140737488355328) :
    Calls Try.prog 3 #[.int .i64 n, .slice A l.length c] w (LawPost w) := by
  by_cases h : n < 0 ∨ 65536 < n
  · exact none_ A c _ n w h
  · obtain ⟨m, rfl⟩ : ∃ m : Nat, n = (m : Int) := ⟨n.toNat, by omega⟩
    by_cases h2 : 300 < m ∨ 100 < l.length
    · exact large A c _ m w (by omega) h2 (by omega)
    · exact small A c _ m l w rfl hA hw (by omega) (by omega)

set_option maxRecDepth 100000 in
theorem lifted (os : Os) (started : os.Started) (H : Type) (enc : TypeId × Value → H) :
    ReturnsInHanded {} Try.checked os 3 .any (Rows.bitsPlaysSpec.pre6 enc Try.prog Try.f3 Rows.bitsPlaysRow.domain false) (Rows.bitsPlaysSpec.post enc Try.prog Try.f3 false true false false) := by
  refine law_lifted started [3, 22] rfl (by kernel_rfl) Try.func3 rfl (by decide +kernel) rfl (fun ds hl => by
    match ds, hl with
    | [_, _], _ => rfl) (ChangeSpec.witness6 (enc := enc) (C := Try.checked) false ⟨#[], #[.int .i64 0, .slice none 0 0], []⟩ 8 (by kernel_rfl) (by kernel_rfl) (by kernel_rfl) (by kernel_rfl)) ?_
  intro W base args ds ps hval hA hlt hsz
  obtain ⟨v0, vs0, d0, ds0, p0, q0, hargs, rfl, rfl, h0, r0⟩ := trodAll_cons hA
  obtain ⟨v1, vs1, d1, ds1, p1, q1, rfl, rfl, rfl, h1, r1⟩ := trodAll_cons r0
  obtain ⟨rfl, rfl, rfl⟩ := trodAll_nil r1
  obtain rfl : args = #[v0, v1] := by cases args; simp_all
  obtain ⟨x0, rfl, rfl, rfl, w0⟩ := open_int Try.underlying3 (hval 0 3 v0 rfl rfl) h0
  obtain ⟨A1, c1, x1, rfl, b1, i1, z1⟩ := open_ops_arg Try.underlying22 Try.underlying32 (by kernel_rfl) (by kernel_rfl) rfl rfl rfl rfl (hval 1 22 v1 rfl rfl) h1 hsz 1 rfl rfl
  exact walk A1 c1 x0 x1 W i1 z1 b1

set_option maxRecDepth 100000 in
theorem over : Rows.bitsPlaysRow.holds Try.pinned (OpenSpec.ofChange Rows.bitsPlaysSpec) :=
  OpenClaim.holds_of_wide 3 Try.f3 rfl rfl rfl rfl rfl rfl rfl ⟨rfl, rfl, rfl, rfl, rfl⟩ rfl rfl rfl rfl rfl (by kernel_rfl) Try.func3 (by kernel_rfl)
    (of_decide_eq_true (by kernel_rfl)) (by unfold Func.isWrapper; first | (rw [if_pos (by decide +kernel)]; kernel_rfl) | (rw [if_neg (by decide +kernel)]; exact ⟨rfl, rfl⟩))
    (fun os started H enc _ => lifted os started H enc)

theorem proved : Rows.BitsPlaysSaid := over
#print axioms proved
end Go.Proofs.Ytcoocchfadbhdaa.bitsPlays
