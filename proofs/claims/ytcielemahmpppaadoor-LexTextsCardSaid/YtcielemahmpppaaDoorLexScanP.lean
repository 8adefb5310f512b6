/- The program's Scan. -/
import Derived.Test.YtcielemahmpppaaDoorLexTok
import Derived.WalkSmall
namespace Go.Proofs.YtcielemahmpppaaDoor.lx
open Go.ChangeShapes Go.WideShapes Go.ChangeAt Go.RowKit Go.Deep

def ScanR (nm : List UInt8 → Int × Bool) (s : ByteArray) (r : Res) : Prop := (20000 < s.size ∧ r = ([], 0, 5)) ∨ (s.size ≤ 20000 ∧ Sc nm s 0 [] r)
def ScanP (nm : List UInt8 → Int × Bool) (s : ByteArray) (w : World) (e : Ending) (w' : World) : Prop :=
  ∃ r v, ScanR nm s r ∧ e = .returned (.tuple #[v, .int .i64 (r.2.1 : Nat), .int .i64 (r.2.2 : Nat)]) ∧ OT w.heap.size w' v r.1 ∧ Below w.heap.size w w'
theorem OT.form {base : Nat} {w : World} {v : Value} {l : List Tok} (h : OT base w v l) : ∃ A c, v = .slice A l.length c := by
  rcases h.2 with ⟨e, e2⟩ | ⟨g, cap, cur, e, _⟩
  · exact ⟨none, 0, by rw [e, e2]⟩
  · exact ⟨_, cap, e⟩
theorem OT.below {base : Nat} {w w' : World} {v : Value} {l : List Tok} (h : OT base w v l) (hb : Below w.heap.size w w') : OT base w' v l := by
  refine World.ownsRow.kept (row := none) h ⟨hb.os, hb.tape, hb.output, hb.size, fun k hk _ => hb.block k hk⟩ ?_
  rcases hv : v.ownBlock with _ | g
  · exact .inl rfl
  · exact .inr (fun e => by cases e)
theorem OT.mono {base base' : Nat} {w : World} {v : Value} {l : List Tok} (h : OT base w v l) (hb : base' ≤ base) : OT base' w v l := by
  refine ⟨h.1, ?_⟩
  rcases h.2 with h1 | ⟨g, cap, cur, e, hg, r⟩
  · exact .inl h1
  · exact .inr ⟨g, cap, cur, e, Nat.le_trans hb hg, r⟩
/-- The state between two runes: the iterator's place, the end of what was met last, the tokens. -/
structure ScI (nm : List UInt8 → Int × Bool) (s : ByteArray) (b : Nat) (w wr : World) (v : Value) (pos en : Nat) (l : List Tok) : Prop where
  it : wr.heap[b]? = some (.stringIter s pos)
  own : OT (b + 1) wr v l
  below : Below b w wr
  big : b + 1 ≤ wr.heap.size
  most : l.length ≤ 6000
  hits : pos ≤ en → Hits s pos en
  inn : en ≤ s.size
  sc : ∀ r, Sc nm s (max pos en) l r → Sc nm s 0 [] r
theorem first_err {nm : List UInt8 → Int × Bool} {s : ByteArray} {why : Nat} (h : firstP nm s = .error why) : why = 6 ∨ why = 10 ∨ why = 13 := by
  unfold firstP at h
  repeat' split at h
  all_goals first
    | (injection h with h; omega)
    | cases h
theorem fv_err {nm : List UInt8 → Int × Bool} {s : ByteArray} {why : Nat} (h : firstP nm s = .error why) : firstV nm s = .tuple #[.agg #[.int .i64 0, .int .i64 0, .int .i64 0, .string ⟨#[]⟩], .int .i64 (why : Nat)] := by
  unfold firstV; rw [h]
theorem fv_ok {nm : List UInt8 → Int × Bool} {s : ByteArray} {k m : Nat} {n : Int} (h : firstP nm s = .ok (k, n, m)) : firstV nm s = .tuple #[.agg #[.int .i64 (k : Nat), .int .i64 n, .int .i64 0, .string (s.extract 0 m)], .int .i64 0] := by
  unfold firstV; rw [h]
theorem not_blank {s : ByteArray} {pos R : Nat} (hp : pos < s.size) (hR : (Utf8.decode s pos).1 = R) (h1 : R ≠ 32) (h2 : R ≠ 10) (h3 : R ≠ 35) : blankB (bt s pos) = false ∧ bt s pos ≠ 35 := by
  rcases Nat.lt_or_ge (bt s pos) 128 with h | h
  · rw [decode_low hp h] at hR
    have hR' : bt s pos = R := hR
    rw [hR']
    refine ⟨?_, h3⟩
    unfold blankB
    simp [h1, h2]
  · refine ⟨?_, by omega⟩
    unfold blankB
    simp; omega
set_option maxRecDepth 100000 in
set_option maxHeartbeats 4000000 in
theorem scan_any (nm : List UInt8 → Int × Bool) (s : ByteArray) (w : World) (hs : SgW w) (hn : NumC nm w) : Calls Tryd.prog 10 #[.string s] w (ScanP nm s w) := by
  obtain ⟨b, HB⟩ : ∃ b, Hid (b = w.heap.size) := ⟨_, Lib.hid rfl⟩
  by_cases hz : 20000 < s.size
  · have g : (20000 : Int) < (s.size : Int) := by omega
    go_enter Tryd.func10, Tryd.ntmps10
    go_wp2
    go_ret3
    exact ⟨([], 0, 5), _, .inl ⟨hz, rfl⟩, rfl, OT.nil _ _, Below.refl _ _⟩
  · have g : ¬ (20000 : Int) < (s.size : Int) := by omega
    have HF : Hid (∀ a W, a < s.size → Below b w W → Calls Tryd.prog 21 #[.string (s.extract a s.size)] W fun e w' => e = .returned (firstV nm (tailS s a)) ∧ Below W.heap.size W w') := Lib.hid (fun a W ha hW => first_any nm (tailS s a) W (by rw [tail_size]; omega) (hs.below (by rw [HB.out] at hW; exact hW)) (fun t W2 h1 h2 => hn t W2 h1 (by rw [HB.out] at hW; exact hW.trans (h2.mono hW.size))))
    have hz2 : s.size ≤ 20000 := by omega
    clear hs hn hz
    go_enter Tryd.func10, Tryd.ntmps10
    go_wp2
    rw [← HB.out]
    go_loopg [5, 6] s.size (fun gf v5 v6 wx => ∃ (pos en : Nat) (l : List Tok), v6 = .int .i64 (en : Nat) ∧ Hid (ScI nm s b w wx v5 pos en l) ∧ s.size ≤ pos + gf)
    case atStart => exact ⟨0, 0, [], rfl, Lib.hid ⟨by rw [HB.out]; exact World.iter_heap w s 0, OT.nil _ _, by rw [HB.out]; exact (Below.refl _ w).alloc (Nat.le_refl _) _, by rw [HB.out]; exact (Array.getElem?_eq_some_iff.1 (World.iter_heap w s 0)).1, Nat.zero_le _, fun _ => .here 0, Nat.zero_le _, fun r h => h⟩, by omega⟩
    case round =>
      obtain ⟨pos, en, l, rfl, HI, hfu⟩ := hrel
      by_cases hps : pos < s.size
      · obtain ⟨g', rfl⟩ : ∃ g', gk = g' + 1 := ⟨gk - 1, by omega⟩
        have hnx : ∀ ty, (Instr.next (.pointer (some ⟨b, 0, none⟩)) true ty).run Tryd.prog wr = _ := fun ty => Lib.run_next_any_at wr b s pos ty HI.out.it hps
        obtain ⟨w1, w2⟩ := width_in hps
        obtain ⟨R, HR⟩ : ∃ R, Hid ((Utf8.decode s pos).1 = R) := ⟨_, Lib.hid rfl⟩
        obtain ⟨K, HK⟩ : ∃ K, Hid ((Utf8.decode s pos).2 = K) := ⟨_, Lib.hid rfl⟩
        rw [HR.out, HK.out] at hnx
        rw [HK.out] at w1 w2
        have HIT := Lib.hid (Lib.iterAt_heap wr b s pos (pos + K) HI.out.it)
        have HBW := Lib.hid (Lib.below_iterAt HI.out.below (k := b) (Nat.le_refl _) s (pos + K))
        have HOW : Hid (OT (b + 1) (wr.iterAt b s (pos + K)) _ l) := Lib.hid (ownsRow_iterAt HI.out.own (by omega) s (pos + K))
        have HBG : Hid (b + 1 ≤ (wr.iterAt b s (pos + K)).heap.size) := Lib.hid (by rw [Lib.iterAt_size]; exact HI.out.big)
        obtain ⟨W, HWd⟩ : ∃ W, Hid (wr.iterAt b s (pos + K) = W) := ⟨_, Lib.hid rfl⟩
        rw [HWd.out] at hnx HIT HBW HOW HBG
        by_cases hen : pos < en
        · have g1 : (pos : Int) < (en : Int) := by omega
          have HH : Hid (Hits s (pos + K) en) := Lib.hid (by have := (HI.out.hits (by omega)).next hen; rw [HK.out] at this; exact this)
          have HSN : Hid (ScI nm s b w W _ (pos + K) en l) := Lib.hid ⟨HIT.out, HOW.out, HBW.out, HBG.out, HI.out.most, fun _ => HH.out, HI.out.inn, fun r h => HI.out.sc r (by have := HH.out.le; rw [show max pos en = max (pos + K) en by omega]; exact h)⟩
          go_wp2
          go_roundg g'
          case measure => omega
          case rel => exact ⟨pos + K, en, l, rfl, HSN, by omega⟩
        · have g1 : ¬ (pos : Int) < (en : Int) := by omega
          have HS0 : Hid (∀ r, Sc nm s pos l r → Sc nm s 0 [] r) := Lib.hid (fun r h => HI.out.sc r (by rw [show max pos en = pos by omega]; exact h))
          by_cases h32 : R = 32 ∨ R = 10
          · have hlow := rune_low hps (by rw [HR.out]; omega)
            have hK1 : K = 1 := by have := decode_low hps hlow.2; rw [this] at HK; exact HK.out.symm
            have hbt : bt s pos = R := by rw [← hlow.1]; exact HR.out
            have HSN : Hid (ScI nm s b w W _ (pos + K) en l) := Lib.hid ⟨HIT.out, HOW.out, HBW.out, HBG.out, HI.out.most, fun h => by omega, HI.out.inn, fun r h => HS0.out r (by
              rw [show max (pos + K) en = pos + 1 by omega] at h
              exact .blank hps (by rw [hbt]; unfold blankB; rcases h32 with e | e <;> rw [e] <;> decide) h)⟩
            clear hlow hK1 hbt
            rcases h32 with rfl | rfl
            · go_wp2
              go_roundg g'
              case measure => omega
              case rel => exact ⟨pos + K, en, l, rfl, HSN, by omega⟩
            · go_wp2
              go_roundg g'
              case measure => omega
              case rel => exact ⟨pos + K, en, l, rfl, HSN, by omega⟩
          · have g32 : ((R : Int) == 32) = false := by simp; omega
            have g10 : ((R : Int) == 10) = false := by simp; omega
            by_cases h35 : R = 35
            · have hlow := rune_low hps (by rw [HR.out]; omega)
              have hbt : bt s pos = 35 := by rw [← hlow.1, HR.out, h35]
              have HE : Hid (pos + stopF linB (tailS s pos) (tailS s pos).size 0 = lineE s pos) := Lib.hid (lineN_eq s pos hps)
              obtain ⟨hh, hle⟩ := remark_hits (s := s) (a := pos) hps
              have hgt : pos < lineE s pos := by
                obtain ⟨q1, q2, q3, q4⟩ := runE_spec (fun b => !decide (b = 10)) s s.size pos (by omega) (by omega)
                refine Decidable.byContradiction fun hc => ?_
                have e : lineE s pos = pos := by unfold lineE at hc ⊢; omega
                unfold lineE at e
                rw [e] at q4
                have := q4 hps
                rw [hbt] at this
                exact this (by decide)
              have HLN := Lib.hid (line_any (tailS s pos) W)
              have HHN : Hid (Hits s (pos + K) (lineE s pos)) := Lib.hid (by have := hh.next hgt; rw [HK.out] at this; exact this)
              have HSN2 : Hid (∀ r, Sc nm s (lineE s pos) l r → Sc nm s 0 [] r) := Lib.hid (fun r h => HS0.out r (.remark hps hbt h))
              obtain ⟨E, HEE⟩ : ∃ E, Hid (lineE s pos = E) := ⟨_, Lib.hid rfl⟩
              rw [HEE.out] at HE HHN HSN2 hle hgt
              obtain ⟨d, HD⟩ : ∃ d, Hid (stopF linB (tailS s pos) (tailS s pos).size 0 = d) := ⟨_, Lib.hid rfl⟩
              rw [HD.out] at HE HLN
              have hpd : pos + d = E := HE.out
              clear hlow hbt hh
              subst h35
              have g3 : (pos : Int) ≤ (s.size : Int) := by omega
              go_wp2_with fail
              refine HLN.out.mono ?_
              rintro e w3 ⟨rfl, hb3⟩
              have HSN : Hid (ScI nm s b w w3 _ (pos + K) E l) := Lib.hid ⟨(hb3.block _ (by have := HBG.out; omega)).trans HIT.out, HOW.out.below hb3, HBW.out.trans (hb3.mono (by have := HBG.out; omega)), Nat.le_trans HBG.out hb3.size, HI.out.most, fun _ => HHN.out, hle, fun r h => HSN2.out r (by have := HHN.out.le; rw [show max (pos + K) E = E by omega] at h; exact h)⟩
              clear hb3
              go_wp2
              go_roundg g'
              case measure => omega
              case rel => exact ⟨pos + K, E, l, by rw [← hpd]; go_num, HSN, by omega⟩
            · have g35 : ((R : Int) == 35) = false := by simp; omega
              obtain ⟨nb1, nb2⟩ := not_blank hps HR.out (by omega) (by omega) h35
              obtain ⟨Av, cv, hv⟩ := HI.out.own.form
              subst hv
              obtain ⟨len, HLN⟩ : ∃ len, Hid (l.length = len) := ⟨_, Lib.hid rfl⟩
              rw [HLN.out]
              have hlen : len ≤ 6000 := by rw [← HLN.out]; exact HI.out.most
              have g3 : (pos : Int) ≤ (s.size : Int) := by omega
              by_cases hm : len = 6000
              · have HS : Hid (Sc nm s 0 [] ([], pos, 11)) := Lib.hid (HS0.out _ (.many hps nb1 nb2 (by rw [HLN.out]; exact hm)))
                have gm : ((len : Int) == 6000) = true := by simp [hm]; try omega
                clear nb1 nb2
                go_wp2
                go_ret3
                exact ⟨([], pos, 11), _, .inr ⟨hz2, HS.out⟩, rfl, OT.nil _ _, by rw [← HB.out]; exact HBW.out⟩
              · have gm : ((len : Int) == 6000) = false := by simp; omega
                have HFI := Lib.hid (HF.out pos W hps HBW.out)
                cases hf : firstP nm (tailS s pos) with
                | error why =>
                  have HS : Hid (Sc nm s 0 [] ([], pos, why)) := Lib.hid (HS0.out _ (.wrong hps nb1 nb2 (by rw [HLN.out]; exact hm) hf))
                  have hwy := first_err hf
                  have gw : ((why : Int) != 0) = true := by simp; omega
                  rw [fv_err hf] at HFI
                  clear nb1 nb2 hf hwy
                  go_wp2_with fail
                  refine HFI.out.mono ?_
                  rintro e w3 ⟨rfl, hb3⟩
                  have HB3 : Hid (Below b w w3) := Lib.hid (HBW.out.trans (hb3.mono (by have := HBG.out; omega)))
                  clear hb3
                  go_wp2
                  go_ret3
                  exact ⟨([], pos, why), _, .inr ⟨hz2, HS.out⟩, rfl, OT.nil _ _, by rw [← HB.out]; exact HB3.out.alloc (by have := HB3.out.size; have := HBG.out; have := HB.out; omega) _⟩
                | ok q =>
                  obtain ⟨k, n, m⟩ := q
                  obtain ⟨hm0, hm1, _⟩ := first_ok hps hf
                  have HTH := Lib.hid (token_hits hps hf)
                  have HQ : Hid ((tailS s pos).extract 0 m = s.extract pos (pos + m)) := Lib.hid (by unfold tailS; rw [ByteArray.extract_extract]; congr 1; omega)
                  have HS : Hid (∀ r, Sc nm s (pos + m) (l ++ [⟨k, n, pos, s.extract pos (pos + m)⟩]) r → Sc nm s 0 [] r) := Lib.hid (fun r h => HS0.out r (.token hps nb1 nb2 (by rw [HLN.out]; exact hm) hf h))
                  rw [fv_ok hf, HQ.out] at HFI
                  have HQS : Hid ((s.extract pos (pos + m)).size = m) := Lib.hid (by rw [ByteArray.size_extract]; omega)
                  generalize s.extract pos (pos + m) = q at HFI HS HQS
                  have HHN : Hid (Hits s (pos + K) (pos + m)) := Lib.hid (by have := HTH.out.next (by omega); rw [HK.out] at this; exact this)
                  clear nb1 nb2 hf HTH HQ
                  go_wp2_with fail
                  refine HFI.out.mono ?_
                  rintro e w3 ⟨rfl, hb3⟩
                  have HB3 : Hid (Below b w w3) := Lib.hid (HBW.out.trans (hb3.mono (by have := HBG.out; omega)))
                  have HIT3 : Hid (w3.heap[b]? = some (.stringIter s (pos + K))) := Lib.hid ((hb3.block _ (by have := HBG.out; omega)).trans HIT.out)
                  have HO3 := Lib.hid (HOW.out.below hb3)
                  have HG3 : Hid (b + 1 ≤ w3.heap.size) := Lib.hid (Nat.le_trans HBG.out hb3.size)
                  clear hb3
                  go_upto_region 17 with (fail)
                  obtain ⟨tb, HTB⟩ : ∃ tb, Hid (tb = w3.heap.size) := ⟨_, Lib.hid rfl⟩
                  obtain ⟨w6, HW6⟩ : ∃ w6, Hid (w6 = w3.alloc (.cells #[.int .i64 (k : Nat), .int .i64 n, .int .i64 (pos : Nat), .string q] 39)) := ⟨_, Lib.hid rfl⟩
                  rw [← HW6.out, ← HTB.out]
                  have HAL : Hid (Below w3.heap.size w3 w6) := Lib.hid (by rw [HW6.out]; exact (Below.refl _ _).alloc (Nat.le_refl _) _)
                  have HC6 : Hid (w6.heap[tb]? = some (.cells #[.int .i64 (k : Nat), .int .i64 n, .int .i64 (pos : Nat), .string q] 39 (0, 0))) := Lib.hid (by rw [HW6.out, HTB.out]; exact World.alloc_heap_new _ _)
                  have HO6 := Lib.hid (HO3.out.below HAL.out)
                  rw [HLN.out] at HO6
                  have HB6 : Hid (Below b w w6) := Lib.hid (HB3.out.trans (HAL.out.mono (by have := HG3.out; omega)))
                  have HIT6 : Hid (w6.heap[b]? = some (.stringIter s (pos + K))) := Lib.hid ((HAL.out.block _ (by have := HG3.out; omega)).trans HIT3.out)
                  have HG6 : Hid (b + 1 ≤ w6.heap.size) := Lib.hid (Nat.le_trans HG3.out HAL.out.size)
                  have c0 := cell_of_row _ _ 0 _ _ _ HC6.out
                  have c1 := cell_of_row _ _ 1 _ _ _ HC6.out
                  have c2 := cell_of_row _ _ 2 _ _ _ HC6.out
                  have c3 := cell_of_row _ _ 3 _ _ _ HC6.out
                  have hll : l.length + 1 ≤ 1000000 := by rw [HLN.out]; omega
                  have HNE : Hid (∀ g, (Value.slice Av len cv).ownBlock = some g → g ≠ tb) := Lib.hid (fun g e => by
                    have h9 := HO3.out
                    rw [HLN.out] at h9
                    have := (World.ownsRow.lt h9 g e).2
                    have := HTB.out; omega)
                  go_wp2_with (at_builtin; go_loud (refine append_tok rfl (.tmp 56) (.tmp 58) rfl (b + 1) _ l rfl HO6.out k pos n q rfl hll HG6.out ?_); intro v4 w4 ho4 hb4 hg4; have HO4 := Lib.hid ho4; have HB4 := Lib.hid hb4; have c4 : w4.cell? ⟨tb, 3, none⟩ = some (.string q) := (World.cell?_of_block (a := ⟨tb, 3, none⟩) ((hg4.block tb (by have := (Array.getElem?_eq_some_iff.1 HC6.out).1; simp; omega) (fun e => HNE.out tb e.symm rfl)).trans (Below.heap_alloc _ _ _ (Array.getElem?_eq_some_iff.1 HC6.out).1))).trans c3; have hqs := HQS.out; clear ho4 hb4 hg4 c0 c1 c2 c3)
                  go_roundg g'
                  case measure => omega
                  case rel =>
                    refine ⟨pos + K, pos + m, l ++ [⟨k, n, pos, q⟩], by go_num, Lib.hid ⟨(HB4.out.block _ (by omega)).trans HIT6.out, HO4.out, HB6.out.trans (HB4.out.mono (by omega)), Nat.le_trans HG6.out HB4.out.size, by rw [List.length_append, HLN.out]; simp; omega, fun _ => HHN.out, hm1, fun r h => HS.out r (by have := HHN.out.le; rw [show max (pos + K) (pos + m) = pos + m by omega] at h; exact h)⟩, by omega⟩
      · have hnx : ∀ ty, (Instr.next (.pointer (some ⟨b, 0, none⟩)) true ty).run Tryd.prog wr = _ := fun ty => Lib.run_next_end_at wr b s pos ty HI.out.it hps
        have HS : Hid (Sc nm s 0 [] (l, 0, 0)) := Lib.hid (HI.out.sc _ (.done (by omega)))
        go_wp2
        go_ret3
        exact ⟨(l, 0, 0), _, .inr ⟨hz2, HS.out⟩, rfl, HI.out.own.mono (by have := HB.out; omega), by rw [← HB.out]; exact HI.out.below⟩
end Go.Proofs.YtcielemahmpppaaDoor.lx
