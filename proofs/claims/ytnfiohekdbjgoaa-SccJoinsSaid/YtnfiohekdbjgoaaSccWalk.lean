/- The contract of package scc's walk. -/
import Derived.Test.YtnfiohekdbjgoaaSccSt
namespace Go.Proofs.Ytnfiohekdbjgoaa.sc
open Go.ChangeShapes Go.WideShapes Go.ChangeAt Go.RowKit Go.Shelf

def furI (ot : Option Nat) : Int := ot.elim (-1) (fun k => (k : Int))
theorem furI_some (k : Nat) : furI (some k) = (k : Int) := rfl
theorem furI_none : furI none = -1 := rfl
theorem furV_eq (ot : Option Nat) : furV ot = .tuple #[.int .i64 (furI ot), .bool ot.isSome] := by cases ot <;> rfl
theorem w64_id {x : Int} (h1 : -9223372036854775808 ≤ x) (h2 : x ≤ 9223372036854775807) : wrap64 x = x := by unfold wrap64; omega
theorem own_cap {base : Nat} {w : World} {A : Option Addr} {m d : Nat} {l : List Int} (h : OI base w (.slice A m d) l) : m ≤ d := by
  obtain ⟨_, h2⟩ := h
  rcases h2 with ⟨e, h0⟩ | ⟨g, cap, cur, e, _, _, h3, _⟩
  · injection e with e1 e2 e3; omega
  · injection e with e1 e2 e3; omega
def WalkP (n : Nat) (rows : List (List (Int × Int))) (S : List Nat) (IL : List (Nat × Nat) → (Nat → Prop) → World → Prop) (O0 : Nat → Prop) (w : World) (e : Ending) (w' : World) : Prop :=
  (∃ r, e = .returned r) ∧ ∃ L O, Rest (eR n rows) S L ∧ (∀ u ∈ ns L, u < n) ∧ IL L O w' ∧ Turn O0 w w' ∧ ∀ q, O q → O0 q ∨ w.heap.size ≤ q
set_option maxRecDepth 20000 in
set_option maxHeartbeats 8000000 in
theorem walk_any (n : Nat) (rows : List (List (Int × Int))) (AE : Option Addr) (c : Nat) (As : Option Addr) (ms cs : Nat) (S : List Nat) (gf : Nat) (lb : Array Value) (IL : List (Nat × Nat) → (Nat → Prop) → World → Prop) (hk : LeaveK gf lb n IL) (eg : ∀ args w, (callFunc gf args).run Try.prog w = .ok (.enter gf args) w)
    (O0 : Nat → Prop) (w : World) (hn : n = rows.length) (hnl : n ≤ 1000) (hrow : ∀ i, (rows.getD i []).length ≤ 1000000) (hm : ms = S.length) (hml : ms ≤ 1000000) (hS : ∀ s ∈ S, s < n) (hread : ∀ W, Turn O0 w W → RA W AE rows ∧ IA W As (S.map Int.ofNat)) (h0 : IL [] O0 w) :
    Calls Try.prog 68 #[.slice AE n c, .slice As ms cs, .func (.func gf) #[] lb] w (WalkP n rows S IL O0 w) := by
  obtain ⟨i0, hi, hz0, hz1, hz2⟩ := info_parts (show (Try.prog.info? 4).map (fun i => (i.zero, i.size, i.bytes)) = some (some (.bool false), 1, 1) by kernel_rfl)
  have hmk : ∀ W : World, (Instr.makeSlice 33 (.int .i64 (n : Int)) (.int .i64 (n : Int))).run Try.prog W = .ok (.slice (some ⟨W.heap.size, 0, none⟩) n n) (W.alloc (.cells (madeCells #[.bool false] n) 4)) := fun W => by
    have hr := run_make (P := Try.prog) W 33 4 i0 _ (by kernel_rfl) hi hz0 .i64 .i64 (n : Int) (n : Int) (by omega) (Int.le_refl _) (by rw [hz2]; omega) (by omega)
    rw [hr, hz1]
    rw [Int.toNat_natCast, Nat.mul_one]
    rfl
  have HK := Lib.hid hk
  have HN := Lib.hid hn
  have HROW := Lib.hid hrow
  have HM := Lib.hid hm
  have HS := Lib.hid hS
  have HRD := Lib.hid hread
  have H0 := Lib.hid h0
  clear hi hz0 hz1 hz2 hk hn hrow hm hS hread h0
  go_enter Try.func68, Try.ntmps68
  go_upto_region 1 with (fail)
  obtain ⟨w1, HW1⟩ : ∃ w1, w1 = ((w.alloc (.cells (madeCells #[.bool false] n) 4)).alloc (.cells #[.slice (some ⟨w.heap.size, 0, none⟩) n n] 33)).alloc (.cells #[.slice none 0 0] 22) := ⟨_, rfl⟩
  have HI1 : Hid (Below w.heap.size w w1 ∧ w1.heap.size = w.heap.size + 3 ∧ w1.heap[w.heap.size + 1]? = some (.cells #[.slice (some ⟨w.heap.size, 0, none⟩) n n] 33 (0, 0)) ∧ w1.rowIs w.heap.size 4 n (mtV (fun _ => false)) ∧ w1.heap[w.heap.size + 1 + 1]? = some (.cells #[.slice none 0 0] 22 (0, 0))) := Lib.hid (by
    rw [HW1]
    refine ⟨(((Below.refl _ _).alloc (Nat.le_refl _) _).alloc (by simp) _).alloc (by simp; omega) _, by simp, ?_, ((World.rowIs_made w (.bool false) n 4).alloc _).alloc _, ?_⟩
    · rw [Below.heap_alloc _ _ _ (by simp)]
      have h := World.alloc_heap_new (w.alloc (.cells (madeCells #[.bool false] n) 4)) (.cells #[.slice (some ⟨w.heap.size, 0, none⟩) n n] 33)
      rw [World.size_alloc] at h
      exact h
    · have h := World.alloc_heap_new ((w.alloc (.cells (madeCells #[.bool false] n) 4)).alloc (.cells #[.slice (some ⟨w.heap.size, 0, none⟩) n n] 33)) (.cells #[.slice none 0 0] 22)
      rw [World.size_alloc, World.size_alloc] at h
      exact h)
  rw [← HW1]
  clear HW1 hmk
  go_wp2_with fail
  refine (ends_any n AE c _ (by omega)).mono ?_
  rintro e2 w2 ⟨gz, gb, eb, rfl, hf2, hb2, l1, l2, l3, l4, l5, l6⟩
  obtain ⟨b1, z1, m1, r1, k1⟩ := HI1.out
  have hz2 := hb2.size
  have HST : Hid (WSt n ⟨w.heap.size + 1, w.heap.size, w.heap.size + 1 + 1, gz, gb, eb⟩ AE c IL w2 O0 (mF [] []) [] [] (fun _ => 0) (.slice none 0 0) O0 w2) := Lib.hid {
    ok := ⟨fun q hq => by unfold Bl.has at hq; dsimp only at hq; omega, (by dsimp only; omega), (by dsimp only; omega), (by dsimp only; omega), (by dsimp only; omega), (by dsimp only; omega), (by dsimp only; omega), (by dsimp only; omega), (by dsimp only; omega), (by dsimp only; omega)⟩
    mw := ⟨(hb2.block (w.heap.size + 1) (by omega)).trans m1, (r1.of_block (hb2.block w.heap.size (by omega))).congr (fun j _ => by unfold mtV mF; simp [ns]), (hb2.block (w.heap.size + 1 + 1) (by omega)).trans k1, OI.nil _ _, (by dsimp only; omega), (by dsimp only; omega), (by dsimp only; omega), (by dsimp only; omega), (by dsimp only; omega), (by dsimp only; omega), Nat.le_refl _⟩
    fw := hf2
    il := HK.out.keep _ _ _ _ H0.out (fun q hq => by have := HK.out.lt _ _ _ H0.out q hq; rw [hb2.block _ (by omega), b1.block _ this]) (by omega)
    own := fun q hq => ⟨fun hb => by have := HK.out.lt _ _ _ H0.out q hq; unfold Bl.has at hb; simp only at hb; omega, by simp [Value.ownBlock]⟩
    turn := Turn.refl _ _
    new := fun q hq => .inl hq }
  have HZB : Hid (∀ q, (Bl.mk (w.heap.size + 1) w.heap.size (w.heap.size + 1 + 1) gz gb eb).has q → w.heap.size ≤ q) := Lib.hid (fun q hq => by unfold Bl.has at hq; dsimp only at hq; omega)
  have HB2 : Hid (Below w.heap.size w w2) := Lib.hid (b1.trans (hb2.mono (by omega)))
  have hzz : w.heap.size ≤ w2.heap.size := by omega
  clear b1 z1 m1 r1 k1 hz2 hf2 hb2 l1 l2 l3 l4 l5 l6 HI1
  generalize hkb : w.heap.size + 1 + 1 = kb at HST HZB ⊢
  generalize hzb : w.heap.size + 1 = zb at HST HZB ⊢
  have HZM : Hid (∀ q, (Bl.mk zb w.heap.size kb gz gb eb).has q → w.heap.size ≤ q) := HZB
  obtain ⟨mb, hmb⟩ : ∃ mb, w.heap.size = mb := ⟨_, rfl⟩
  rw [hmb] at HST HZB ⊢
  have HT0 : Hid (∀ M l L gone v O W, WSt n ⟨zb, mb, kb, gz, gb, eb⟩ AE c IL w2 O0 M l L gone v O W → Turn O0 w W) := Lib.hid (fun M l L gone v O W h => turn_over (Turn.of_below HB2.out) h.turn (fun q hq hlt => hq.elim (fun hb => absurd (HZB.out q hb) (by omega)) id))
  have hgb : mb ≤ gb := HZB.out gb (by unfold Bl.has; simp)
  clear HZM H0 hzz
  go_wp2_with fail
  go_loopg [23] S.length (fun g i wr => ∃ (j : Nat) (L : List (Nat × Nat)) (gone : Nat → Nat) (v : Value) (O : Nat → Prop), i = .int .i64 j ∧ Hid (g + j = S.length) ∧ Hid (RSt n rows (S.take j) L gone) ∧ Hid (WSt n ⟨zb, mb, kb, gz, gb, eb⟩ AE c IL w2 O0 (mF L []) [] L gone v O wr))
  case atStart => exact ⟨0, [], fun _ => 0, _, O0, rfl, Lib.hid rfl, Lib.hid (RSt.nil n rows), HST⟩
  case round =>
    obtain ⟨j, L, gone, v, O, rfl, HJ, HRS, HW⟩ := hrel
    have hj0 : j ≤ S.length := by have := HJ.out; omega
    by_cases hj : j < S.length
    · obtain ⟨hra, hia⟩ := HRD.out _ (HT0.out _ _ _ _ _ _ _ HW.out)
      obtain ⟨bs, os, hAs, _, hcs⟩ := hia (by simpa using (by omega : 0 < S.length))
      subst hAs
      have c1 := hcs j (by simpa using hj)
      have hjm : (j : Int) < (ms : Int) := by have := HM.out; omega
      obtain ⟨s, hs⟩ : ∃ s, S.getD j 0 = s := ⟨_, rfl⟩
      have hsS : s ∈ S := by rw [← hs]; simp [List.getD, hj]
      have hsn : s < n := HS.out s hsS
      rw [show (S.map Int.ofNat).getD j 0 = (s : Int) by rw [← hs]; simp [List.getD, hj]] at c1
      have htk : S.take (j + 1) = S.take j ++ [s] := by rw [List.take_add_one, ← hs]; simp [List.getD, hj]
      have HTK := Lib.hid htk
      have c2 := (cell_of_box_l HW.out.mw.box).1
      have c3 := HW.out.mw.row.cell hsn
      dsimp only at c2 c3
      unfold mtV at c3
      clear hcs htk hra hia hs hsS
      by_cases hmt : s ∈ ns L
      · rw [show mF L [] s = true from decide_eq_true (.inl hmt)] at c3
        have HPS : Hid (PSt n rows (S.take j) s L [] gone none) := Lib.hid (HRS.out.stand hmt)
        clear hmt
        go_wp2_with fail
        go_step3
        go_wp2_with fail
        go_step3
        go_wp2_with fail
        have HGM : Hid (2 * n - 2 * L.length - 0 + 2 * L.length + 0 = 2 * n) := Lib.hid (by have := HPS.out.room; simp at this; omega)
        clear HRS c1 c2 c3 hjm
        go_loopg [12] (2 * n - 2 * L.length) (fun g _ w' => ∃ (L : List (Nat × Nat)) (K : List Nat) (gone : Nat → Nat) (v : Value) (O : Nat → Prop), Hid (g + 2 * L.length + K.length = 2 * n) ∧ Hid (PSt n rows (S.take j) s L K gone none) ∧ Hid (WSt n ⟨zb, mb, kb, gz, gb, eb⟩ AE c IL w2 O0 (mF L K) (K.reverse.map Int.ofNat) L gone v O w'))
        case atStart => exact ⟨L, [], gone, v, O, Lib.hid (by have := HPS.out.room; simp at this ⊢; omega), HPS, HW⟩
        case round =>
          clear HPS HW HGM
          obtain ⟨L, K, gone, v, O, HG, HP, HW⟩ := hrel
          have c1 := (cell_of_box_l HW.out.mw.way).1
          dsimp only at c1
          obtain ⟨A, d, hvv, hia⟩ := HW.out.mw.own.form
          subst hvv
          cases K with
          | nil =>
            dsimp only [List.reverse_nil, List.map_nil, List.length_nil] at c1
            go_wp2_with fail
            refine noGoto_end ?_
            go_wp2_with fail
            go_roundg (S.length - (j + 1))
            case measure => have := HJ.out; omega
            case rel => exact ⟨j + 1, L, gone, _, O, (by rw [w64_id (by have := HM.out; omega) (by have := HM.out; omega)]; rfl), Lib.hid (by omega), by rw [HTK.out]; exact Lib.hid HP.out.ends, HW⟩
          | cons u K =>
            have hlen : (List.map Int.ofNat (u :: K).reverse).length = K.length + 1 := by simp
            obtain ⟨m, hm⟩ : ∃ m, (List.map Int.ofNat (u :: K).reverse).length = m := ⟨_, rfl⟩
            rw [hm] at c1 HW hlen
            have hroom := HP.out.room
            have hmn : (m : Int) ≤ 1000 := by simp at hroom; omega
            have hm0 : (0 : Int) < (m : Int) := by omega
            obtain ⟨bw, ow, rfl, _, hcw⟩ := hia (by rw [hm]; omega)
            have c2 := hcw K.length (by rw [hm]; omega)
            rw [show (List.map Int.ofNat (u :: K).reverse).getD K.length 0 = (u : Int) by simp [List.getD]] at c2
            have hme : ((m : Int) - 1) = ((K.length : Nat) : Int) := by omega
            clear hia hcw hm
            go_wp2_with fail
            have HUN : Hid (u < n) := Lib.hid (HP.out.lt u (.inr (by simp)))
            refine (further_any n gz gb eb AE c gone rows u wr HN.out (fun W hT => (HRD.out W (turn_over (HT0.out _ _ _ _ _ _ _ HW.out) hT (fun q e hlt => absurd hgb (by rw [← hmb]; omega)))).1) HW.out.fw HUN.out (HP.out.gl u HUN.out) (HROW.out u)).mono ?_
            intro e3 w3 hp3
            have HW3 := Lib.hid (HW.out.fur HK.out hp3)
            obtain ⟨q1, q2, q3⟩ := HP.out.further
            obtain ⟨rfl, _, _⟩ := hp3
            rw [furV_eq]
            have HGL := Lib.hid (HP.out.gl u HUN.out)
            have HGX : Hid ((nxt n ((rows.getD u []).drop (gone u)) (gone u)).1 ≤ (rows.getD u []).length) := Lib.hid (by have := q1.gl u HUN.out; unfold setN at this; rw [if_pos rfl] at this; exact this)
            generalize nxt n ((rows.getD u []).drop (gone u)) (gone u) = r at HW3 q1 q2 q3 HGX ⊢
            obtain ⟨j3, ot3⟩ := r
            dsimp only at HW3 q1 q2 q3 HGX ⊢
            have HP3 := Lib.hid q1
            have HQ2 := Lib.hid q2
            have HQ3 := Lib.hid q3
            have HS3 : Hid (setN gone u j3 u = j3) := Lib.hid (if_pos rfl)
            have HMS : Hid (2 * ((rows.getD u []).length - j3) + ot3.isSome.toNat + 2 * j3 = 2 * (rows.getD u []).length + ot3.isSome.toNat) := Lib.hid (by have := HGX.out; omega)
            clear q1 q2 q3 HW c1 c2 hme
            go_wp2_with fail
            go_loopg [13, 14] (2 * ((rows.getD u []).length - j3) + ot3.isSome.toNat) (fun g x b w' => ∃ (ot : Option Nat) (gone : Nat → Nat), x = .int .i64 (furI ot) ∧ b = .bool ot.isSome ∧ Hid (g + 2 * gone u = 2 * (rows.getD u []).length + ot.isSome.toNat) ∧ Hid (PSt n rows (S.take j) s L (u :: K) gone ot) ∧ Hid (∀ t, ot = some t → t < n ∧ eR n rows u t) ∧ Hid (ot = none → gone u = (rows.getD u []).length) ∧
              Hid (WSt n ⟨zb, mb, kb, gz, gb, eb⟩ AE c IL w2 O0 (mF L (u :: K)) ((u :: K).reverse.map Int.ofNat) L gone (.slice (some ⟨bw, ow, none⟩) m d) O w'))
            case atStart => exact ⟨ot3, setN gone u j3, rfl, rfl, Lib.hid (by rw [HS3.out]; exact HMS.out), HP3, Lib.hid (fun t e => ⟨(HQ2.out t e).1, (HQ2.out t e).2.1⟩), Lib.hid (fun e => by rw [HS3.out]; exact HQ3.out e), HW3⟩
            case round =>
              clear HP3 HQ2 HQ3 HW3 HS3 HMS HGX HGL HP
              obtain ⟨ot, gone, rfl, rfl, HGG, HP, HQ2, HQ3, HW⟩ := hrel
              cases ot with
              | none =>
                have c1 := (cell_of_box_l HW.out.mw.way).1
                have f1 := (cell_of_box_l HW.out.mw.way).2
                dsimp only at c1 f1
                have hcap : (K.length : Int) ≤ (d : Int) := by
                  have := own_cap HW.out.mw.own
                  omega
                have hme : ((m : Int) - 1) = ((K.length : Nat) : Int) := by omega
                simp only [Option.isSome_none, furI_none]
                go_wp2_with fail
                have HPOP := Lib.hid (HW.out.pop HK.out (k := K.length) (by simp))
                have HTAKE : Hid (((u :: K).reverse.map Int.ofNat).take K.length = K.reverse.map Int.ofNat) := Lib.hid (by simp)
                rw [HTAKE.out] at HPOP
                dsimp only at HPOP
                refine (HK.out.step L O _ u s HPOP.out.il HUN.out hsn (by have := HP.out.room; simp at this; omega)).mono ?_
                rintro e4 w4 ⟨⟨r4, rfl⟩, O4, h1, h2, h3⟩
                have HL4 := Lib.hid (HPOP.out.leave HK.out h1 h2 h3)
                rw [mF_leave L K u s] at HL4
                have HP4 := Lib.hid (HP.out.leave (HQ3.out (by first | rfl | trivial)))
                clear h1 h2 h3 HPOP c1 f1
                go_wp2_with fail
                go_roundg (2 * n - 2 * (L.length + 1) - K.length)
                case measure => have := HG.out; have := HP4.out.room; simp at *; omega
                case rel => exact ⟨L ++ [(u, s)], K, gone, _, O4, Lib.hid (by have := HP4.out.room; simp at this ⊢; omega), HP4, HL4⟩
              | some t =>
                obtain ⟨htn, het⟩ := HQ2.out t rfl
                have c2 := (cell_of_box_l HW.out.mw.box).1
                have c3 := HW.out.mw.row.cell htn
                dsimp only at c2 c3
                unfold mtV at c3
                by_cases hmt : t ∈ ns L ∨ t ∈ u :: K
                · rw [show mF L (u :: K) t = true from decide_eq_true hmt] at c3
                  have HP4 : Hid (PSt n rows (S.take j) s L (u :: K) gone none) := Lib.hid (HP.out.skip hmt)
                  simp only [Option.isSome_some, furI_some]
                  go_wp2_with fail
                  refine (further_any n gz gb eb AE c gone rows u _ HN.out (fun W hT => (HRD.out W (turn_over (HT0.out _ _ _ _ _ _ _ HW.out) hT (fun q e hlt => absurd hgb (by rw [← hmb]; omega)))).1) HW.out.fw HUN.out (HP4.out.gl u HUN.out) (HROW.out u)).mono ?_
                  intro e5 w5 hp5
                  have HW5 := Lib.hid (HW.out.fur HK.out hp5)
                  obtain ⟨q1, q2, q3⟩ := HP4.out.further
                  obtain ⟨rfl, _, _⟩ := hp5
                  rw [furV_eq]
                  have HGL := Lib.hid (HP4.out.gl u HUN.out)
                  have HGX : Hid ((nxt n ((rows.getD u []).drop (gone u)) (gone u)).1 ≤ (rows.getD u []).length) := Lib.hid (by have := q1.gl u HUN.out; unfold setN at this; rw [if_pos rfl] at this; exact this)
                  generalize nxt n ((rows.getD u []).drop (gone u)) (gone u) = r at HW5 q1 q2 q3 HGX ⊢
                  obtain ⟨j5, ot5⟩ := r
                  dsimp only at HW5 q1 q2 q3 HGX ⊢
                  have HP5 := Lib.hid q1
                  have HQ5 := Lib.hid q2
                  have HQ6 := Lib.hid q3
                  have HS5 : Hid (setN gone u j5 u = j5) := Lib.hid (if_pos rfl)
                  clear q1 q2 q3 c2 c3
                  go_wp2_with fail
                  go_roundg (2 * ((rows.getD u []).length - j5) + ot5.isSome.toNat)
                  case measure =>
                    have g1 := HGG.out
                    have g2 := HGL.out
                    have g3 := HGX.out
                    have g4 := HQ5.out
                    have g5 := HQ6.out
                    cases ot5 with
                    | none =>
                      have e0 := g5 rfl
                      have e1 : (some t).isSome.toNat = 1 := rfl
                      have e2 : (none : Option Nat).isSome.toNat = 0 := rfl
                      rw [e1] at g1
                      rw [e2]
                      omega
                    | some t5 =>
                      have e0 := (g4 t5 rfl).2.2
                      have e1 : (some t).isSome.toNat = 1 := rfl
                      have e2 : (some t5).isSome.toNat = 1 := rfl
                      rw [e1] at g1
                      rw [e2]
                      omega
                  case rel => exact ⟨ot5, setN gone u j5, rfl, rfl, Lib.hid (by rw [HS5.out]; have := HGX.out; omega), HP5, Lib.hid (fun t e => ⟨(HQ5.out t e).1, (HQ5.out t e).2.1⟩), Lib.hid (fun e => by rw [HS5.out]; exact HQ6.out e), HW5⟩
                · rw [show mF L (u :: K) t = false from decide_eq_false hmt] at c3
                  simp only [Option.isSome_some, furI_some]
                  go_wp2_with fail
                  refine (meet_any n zb mb kb w2.heap.size _ _ _ t _ HW.out.mw htn (by have := HP.out.room; simp at this ⊢; omega)).mono ?_
                  intro e4 w4 hp4
                  obtain ⟨v4, hw4⟩ := HW.out.meet HK.out hp4
                  obtain ⟨⟨r4, rfl⟩, _⟩ := hp4
                  rw [mF_meet, show (u :: K).reverse.map Int.ofNat ++ [(t : Int)] = (t :: u :: K).reverse.map Int.ofNat by simp] at hw4
                  have HW4 := Lib.hid hw4
                  have HP4 := Lib.hid (HP.out.meet hmt htn het)
                  clear hw4 c2 c3 hmt
                  go_wp2_with fail
                  go_roundg (2 * n - 2 * L.length - (K.length + 2))
                  case measure => have := HG.out; have := HP4.out.room; simp at *; omega
                  case rel => exact ⟨L, t :: u :: K, gone, _, O, Lib.hid (by have := HP4.out.room; simp at this ⊢; omega), HP4, HW4⟩
      · rw [show mF L [] s = false from decide_eq_false (fun h => h.elim hmt (fun h => by cases h))] at c3
        have HPS : Hid (PSt n rows (S.take j) s L [s] gone none) := Lib.hid (HRS.out.begin hmt hsn)
        clear hmt
        go_wp2_with fail
        go_step3
        go_wp2_with fail
        refine (meet_any n zb mb kb w2.heap.size _ _ _ s _ HW.out.mw hsn (by simp)).mono ?_
        intro e4 w4 hp4
        obtain ⟨v4, hw4⟩ := HW.out.meet HK.out hp4
        obtain ⟨⟨r4, rfl⟩, _⟩ := hp4
        rw [mF_meet, show ([] : List Int) ++ [(s : Int)] = [s].reverse.map Int.ofNat from rfl] at hw4
        have HW4 := Lib.hid hw4
        clear hw4 HRS c1 c2 c3 hjm
        go_wp2_with fail
        go_step3
        go_wp2_with fail
        go_loopg [12] (2 * n - 2 * L.length - 1) (fun g _ w' => ∃ (L : List (Nat × Nat)) (K : List Nat) (gone : Nat → Nat) (v : Value) (O : Nat → Prop), Hid (g + 2 * L.length + K.length = 2 * n) ∧ Hid (PSt n rows (S.take j) s L K gone none) ∧ Hid (WSt n ⟨zb, mb, kb, gz, gb, eb⟩ AE c IL w2 O0 (mF L K) (K.reverse.map Int.ofNat) L gone v O w'))
        case atStart => exact ⟨L, [s], gone, v4, O, Lib.hid (by have := HPS.out.room; simp at this ⊢; omega), HPS, HW4⟩
        case round =>
          clear HPS HW HW4
          obtain ⟨L, K, gone, v, O, HG, HP, HW⟩ := hrel
          have c1 := (cell_of_box_l HW.out.mw.way).1
          dsimp only at c1
          obtain ⟨A, d, hvv, hia⟩ := HW.out.mw.own.form
          subst hvv
          cases K with
          | nil =>
            dsimp only [List.reverse_nil, List.map_nil, List.length_nil] at c1
            go_wp2_with fail
            refine noGoto_end ?_
            go_wp2_with fail
            go_roundg (S.length - (j + 1))
            case measure => have := HJ.out; omega
            case rel => exact ⟨j + 1, L, gone, _, O, (by rw [w64_id (by have := HM.out; omega) (by have := HM.out; omega)]; rfl), Lib.hid (by omega), by rw [HTK.out]; exact Lib.hid HP.out.ends, HW⟩
          | cons u K =>
            have hlen : (List.map Int.ofNat (u :: K).reverse).length = K.length + 1 := by simp
            obtain ⟨m, hm⟩ : ∃ m, (List.map Int.ofNat (u :: K).reverse).length = m := ⟨_, rfl⟩
            rw [hm] at c1 HW hlen
            have hroom := HP.out.room
            have hmn : (m : Int) ≤ 1000 := by simp at hroom; omega
            have hm0 : (0 : Int) < (m : Int) := by omega
            obtain ⟨bw, ow, rfl, _, hcw⟩ := hia (by rw [hm]; omega)
            have c2 := hcw K.length (by rw [hm]; omega)
            rw [show (List.map Int.ofNat (u :: K).reverse).getD K.length 0 = (u : Int) by simp [List.getD]] at c2
            have hme : ((m : Int) - 1) = ((K.length : Nat) : Int) := by omega
            clear hia hcw hm
            go_wp2_with fail
            have HUN : Hid (u < n) := Lib.hid (HP.out.lt u (.inr (by simp)))
            refine (further_any n gz gb eb AE c gone rows u wr HN.out (fun W hT => (HRD.out W (turn_over (HT0.out _ _ _ _ _ _ _ HW.out) hT (fun q e hlt => absurd hgb (by rw [← hmb]; omega)))).1) HW.out.fw HUN.out (HP.out.gl u HUN.out) (HROW.out u)).mono ?_
            intro e3 w3 hp3
            have HW3 := Lib.hid (HW.out.fur HK.out hp3)
            obtain ⟨q1, q2, q3⟩ := HP.out.further
            obtain ⟨rfl, _, _⟩ := hp3
            rw [furV_eq]
            have HGL := Lib.hid (HP.out.gl u HUN.out)
            have HGX : Hid ((nxt n ((rows.getD u []).drop (gone u)) (gone u)).1 ≤ (rows.getD u []).length) := Lib.hid (by have := q1.gl u HUN.out; unfold setN at this; rw [if_pos rfl] at this; exact this)
            generalize nxt n ((rows.getD u []).drop (gone u)) (gone u) = r at HW3 q1 q2 q3 HGX ⊢
            obtain ⟨j3, ot3⟩ := r
            dsimp only at HW3 q1 q2 q3 HGX ⊢
            have HP3 := Lib.hid q1
            have HQ2 := Lib.hid q2
            have HQ3 := Lib.hid q3
            have HS3 : Hid (setN gone u j3 u = j3) := Lib.hid (if_pos rfl)
            have HMS : Hid (2 * ((rows.getD u []).length - j3) + ot3.isSome.toNat + 2 * j3 = 2 * (rows.getD u []).length + ot3.isSome.toNat) := Lib.hid (by have := HGX.out; omega)
            clear q1 q2 q3 HW c1 c2 hme
            go_wp2_with fail
            go_loopg [13, 14] (2 * ((rows.getD u []).length - j3) + ot3.isSome.toNat) (fun g x b w' => ∃ (ot : Option Nat) (gone : Nat → Nat), x = .int .i64 (furI ot) ∧ b = .bool ot.isSome ∧ Hid (g + 2 * gone u = 2 * (rows.getD u []).length + ot.isSome.toNat) ∧ Hid (PSt n rows (S.take j) s L (u :: K) gone ot) ∧ Hid (∀ t, ot = some t → t < n ∧ eR n rows u t) ∧ Hid (ot = none → gone u = (rows.getD u []).length) ∧
              Hid (WSt n ⟨zb, mb, kb, gz, gb, eb⟩ AE c IL w2 O0 (mF L (u :: K)) ((u :: K).reverse.map Int.ofNat) L gone (.slice (some ⟨bw, ow, none⟩) m d) O w'))
            case atStart => exact ⟨ot3, setN gone u j3, rfl, rfl, Lib.hid (by rw [HS3.out]; exact HMS.out), HP3, Lib.hid (fun t e => ⟨(HQ2.out t e).1, (HQ2.out t e).2.1⟩), Lib.hid (fun e => by rw [HS3.out]; exact HQ3.out e), HW3⟩
            case round =>
              clear HP3 HQ2 HQ3 HW3 HS3 HMS HGX HGL HP
              obtain ⟨ot, gone, rfl, rfl, HGG, HP, HQ2, HQ3, HW⟩ := hrel
              cases ot with
              | none =>
                have c1 := (cell_of_box_l HW.out.mw.way).1
                have f1 := (cell_of_box_l HW.out.mw.way).2
                dsimp only at c1 f1
                have hcap : (K.length : Int) ≤ (d : Int) := by
                  have := own_cap HW.out.mw.own
                  omega
                have hme : ((m : Int) - 1) = ((K.length : Nat) : Int) := by omega
                simp only [Option.isSome_none, furI_none]
                go_wp2_with fail
                have HPOP := Lib.hid (HW.out.pop HK.out (k := K.length) (by simp))
                have HTAKE : Hid (((u :: K).reverse.map Int.ofNat).take K.length = K.reverse.map Int.ofNat) := Lib.hid (by simp)
                rw [HTAKE.out] at HPOP
                dsimp only at HPOP
                refine (HK.out.step L O _ u s HPOP.out.il HUN.out hsn (by have := HP.out.room; simp at this; omega)).mono ?_
                rintro e4 w4 ⟨⟨r4, rfl⟩, O4, h1, h2, h3⟩
                have HL4 := Lib.hid (HPOP.out.leave HK.out h1 h2 h3)
                rw [mF_leave L K u s] at HL4
                have HP4 := Lib.hid (HP.out.leave (HQ3.out (by first | rfl | trivial)))
                clear h1 h2 h3 HPOP c1 f1
                go_wp2_with fail
                go_roundg (2 * n - 2 * (L.length + 1) - K.length)
                case measure => have := HG.out; have := HP4.out.room; simp at *; omega
                case rel => exact ⟨L ++ [(u, s)], K, gone, _, O4, Lib.hid (by have := HP4.out.room; simp at this ⊢; omega), HP4, HL4⟩
              | some t =>
                obtain ⟨htn, het⟩ := HQ2.out t rfl
                have c2 := (cell_of_box_l HW.out.mw.box).1
                have c3 := HW.out.mw.row.cell htn
                dsimp only at c2 c3
                unfold mtV at c3
                by_cases hmt : t ∈ ns L ∨ t ∈ u :: K
                · rw [show mF L (u :: K) t = true from decide_eq_true hmt] at c3
                  have HP4 : Hid (PSt n rows (S.take j) s L (u :: K) gone none) := Lib.hid (HP.out.skip hmt)
                  simp only [Option.isSome_some, furI_some]
                  go_wp2_with fail
                  refine (further_any n gz gb eb AE c gone rows u _ HN.out (fun W hT => (HRD.out W (turn_over (HT0.out _ _ _ _ _ _ _ HW.out) hT (fun q e hlt => absurd hgb (by rw [← hmb]; omega)))).1) HW.out.fw HUN.out (HP4.out.gl u HUN.out) (HROW.out u)).mono ?_
                  intro e5 w5 hp5
                  have HW5 := Lib.hid (HW.out.fur HK.out hp5)
                  obtain ⟨q1, q2, q3⟩ := HP4.out.further
                  obtain ⟨rfl, _, _⟩ := hp5
                  rw [furV_eq]
                  have HGL := Lib.hid (HP4.out.gl u HUN.out)
                  have HGX : Hid ((nxt n ((rows.getD u []).drop (gone u)) (gone u)).1 ≤ (rows.getD u []).length) := Lib.hid (by have := q1.gl u HUN.out; unfold setN at this; rw [if_pos rfl] at this; exact this)
                  generalize nxt n ((rows.getD u []).drop (gone u)) (gone u) = r at HW5 q1 q2 q3 HGX ⊢
                  obtain ⟨j5, ot5⟩ := r
                  dsimp only at HW5 q1 q2 q3 HGX ⊢
                  have HP5 := Lib.hid q1
                  have HQ5 := Lib.hid q2
                  have HQ6 := Lib.hid q3
                  have HS5 : Hid (setN gone u j5 u = j5) := Lib.hid (if_pos rfl)
                  clear q1 q2 q3 c2 c3
                  go_wp2_with fail
                  go_roundg (2 * ((rows.getD u []).length - j5) + ot5.isSome.toNat)
                  case measure =>
                    have g1 := HGG.out
                    have g2 := HGL.out
                    have g3 := HGX.out
                    have g4 := HQ5.out
                    have g5 := HQ6.out
                    cases ot5 with
                    | none =>
                      have e0 := g5 rfl
                      have e1 : (some t).isSome.toNat = 1 := rfl
                      have e2 : (none : Option Nat).isSome.toNat = 0 := rfl
                      rw [e1] at g1
                      rw [e2]
                      omega
                    | some t5 =>
                      have e0 := (g4 t5 rfl).2.2
                      have e1 : (some t).isSome.toNat = 1 := rfl
                      have e2 : (some t5).isSome.toNat = 1 := rfl
                      rw [e1] at g1
                      rw [e2]
                      omega
                  case rel => exact ⟨ot5, setN gone u j5, rfl, rfl, Lib.hid (by rw [HS5.out]; have := HGX.out; omega), HP5, Lib.hid (fun t e => ⟨(HQ5.out t e).1, (HQ5.out t e).2.1⟩), Lib.hid (fun e => by rw [HS5.out]; exact HQ6.out e), HW5⟩
                · rw [show mF L (u :: K) t = false from decide_eq_false hmt] at c3
                  simp only [Option.isSome_some, furI_some]
                  go_wp2_with fail
                  refine (meet_any n zb mb kb w2.heap.size _ _ _ t _ HW.out.mw htn (by have := HP.out.room; simp at this ⊢; omega)).mono ?_
                  intro e4 w4 hp4
                  obtain ⟨v4, hw4⟩ := HW.out.meet HK.out hp4
                  obtain ⟨⟨r4, rfl⟩, _⟩ := hp4
                  rw [mF_meet, show (u :: K).reverse.map Int.ofNat ++ [(t : Int)] = (t :: u :: K).reverse.map Int.ofNat by simp] at hw4
                  have HW4 := Lib.hid hw4
                  have HP4 := Lib.hid (HP.out.meet hmt htn het)
                  clear hw4 c2 c3 hmt
                  go_wp2_with fail
                  go_roundg (2 * n - 2 * L.length - (K.length + 2))
                  case measure => have := HG.out; have := HP4.out.room; simp at *; omega
                  case rel => exact ⟨L, t :: u :: K, gone, _, O, Lib.hid (by have := HP4.out.room; simp at this ⊢; omega), HP4, HW4⟩
    · obtain rfl : j = S.length := by omega
      have hjm : ¬ ((S.length : Nat) : Int) < (ms : Int) := by have := HM.out; omega
      have HFIN : Hid (Rest (eR n rows) S L) := Lib.hid (by have := HRS.out.rest; rwa [List.take_length] at this)
      go_wp2_with fail
      go_end0
      exact ⟨⟨_, rfl⟩, L, O, HFIN.out, HRS.out.lt, HW.out.il, HT0.out _ _ _ _ _ _ _ HW.out, fun q hq => (HW.out.new q hq).imp id (fun h => Nat.le_trans HB2.out.size h)⟩
end Go.Proofs.Ytnfiohekdbjgoaa.sc
