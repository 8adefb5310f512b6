/- Contracts that the claim stands on, several texts in one: LexScanP, EtScanned, ExprSpansPure. -/
import Derived.WalkSmall
import Derived.Test.YtmnigdphikoljaaGreatDoorPut1
import Derived.Test.YtmnigdphikoljaaGreatDoorPut2
import Derived.Test.YtmnigdphikoljaaGreatDoorPut3
import Derived.Test.YtmnigdphikoljaaGreatDoorPut4
import Derived.Test.YtmnigdphikoljaaGreatDoorPut5
import Derived.Test.YtmnigdphikoljaaGreatDoorPut6
import Derived.Test.YtmnigdphikoljaaGreatDoorPut7
import Derived.Test.YtmnigdphikoljaaGreatDoorPut8
import Derived.Test.YtmnigdphikoljaaGreatDoorPut9
import Derived.Test.YtmnigdphikoljaaGreatDoorPut10
import Derived.Test.YtmnigdphikoljaaGreatDoorPut11
import Derived.Test.YtmnigdphikoljaaGreatDoorPut12
import Derived.Test.YtmnigdphikoljaaGreatDoorPut13
namespace Go.Proofs.YtmnigdphikoljaaGreatDoor.lx
open Go.ChangeShapes Go.WideShapes Go.ChangeAt Go.RowKit Go.Deep

def ScanR (nm : List UInt8 → Int × Bool) (s : ByteArray) (r : Res) : Prop := (20000 < s.size ∧ r = ([], 0, 5)) ∨ (s.size ≤ 20000 ∧ Sc nm s 0 [] r)
def ScanP (nm : List UInt8 → Int × Bool) (s : ByteArray) (w : World) (e : Ending) (w' : World) : Prop :=
  ∃ r v, ScanR nm s r ∧ e = .returned (.tuple #[v, .int .i64 (r.2.1 : Nat), .int .i64 (r.2.2 : Nat)]) ∧ OT w.heap.size w' v r.1 ∧ Below w.heap.size w w'
theorem OT.form {base : Nat} {w : World} {v : Value} {l : List Tok} (h : OT base w v l) : ∃ A c, v = .slice A l.length c := by
  rcases h.2 with ⟨e, e2⟩ | ⟨g, cap, cur, e, _⟩
  · exact ⟨none, 0, by rw [e, e2]⟩
  · exact ⟨_, cap, e⟩
theorem OT.below {base : Nat} {w w' : World} {v : Value} {l : List Tok} (h : OT base w v l) (hb : Below w.heap.size w w') : OT base w' v l := by
  refine World.ownsRow.kept (row := none) h ⟨hb.os, hb.tape, hb.output, hb.size, fun k hk _ => hb.block k hk⟩ ?_
  rcases hv : v.ownBlock with _ | g
  · exact .inl rfl
  · exact .inr (fun e => by cases e)
theorem OT.mono {base base' : Nat} {w : World} {v : Value} {l : List Tok} (h : OT base w v l) (hb : base' ≤ base) : OT base' w v l := by
  refine ⟨h.1, ?_⟩
  rcases h.2 with h1 | ⟨g, cap, cur, e, hg, r⟩
  · exact .inl h1
  · exact .inr ⟨g, cap, cur, e, Nat.le_trans hb hg, r⟩
/-- The state between two runes: the iterator's place, the end of what was met last, the tokens. -/
structure ScI (nm : List UInt8 → Int × Bool) (s : ByteArray) (b : Nat) (w wr : World) (v : Value) (pos en : Nat) (l : List Tok) : Prop where
  it : wr.heap[b]? = some (.stringIter s pos)
  own : OT (b + 1) wr v l
  below : Below b w wr
  big : b + 1 ≤ wr.heap.size
  most : l.length ≤ 6000
  hits : pos ≤ en → Hits s pos en
  inn : en ≤ s.size
  sc : ∀ r, Sc nm s (max pos en) l r → Sc nm s 0 [] r
theorem first_err {nm : List UInt8 → Int × Bool} {s : ByteArray} {why : Nat} (h : firstP nm s = .error why) : why = 6 ∨ why = 10 ∨ why = 13 := by
  unfold firstP at h
  repeat' split at h
  all_goals first
    | (injection h with h; omega)
    | cases h
theorem fv_err {nm : List UInt8 → Int × Bool} {s : ByteArray} {why : Nat} (h : firstP nm s = .error why) : firstV nm s = .tuple #[.agg #[.int .i64 0, .int .i64 0, .int .i64 0, .string ⟨#[]⟩], .int .i64 (why : Nat)] := by
  unfold firstV; rw [h]
theorem fv_ok {nm : List UInt8 → Int × Bool} {s : ByteArray} {k m : Nat} {n : Int} (h : firstP nm s = .ok (k, n, m)) : firstV nm s = .tuple #[.agg #[.int .i64 (k : Nat), .int .i64 n, .int .i64 0, .string (s.extract 0 m)], .int .i64 0] := by
  unfold firstV; rw [h]
theorem not_blank {s : ByteArray} {pos R : Nat} (hp : pos < s.size) (hR : (Utf8.decode s pos).1 = R) (h1 : R ≠ 32) (h2 : R ≠ 10) (h3 : R ≠ 35) : blankB (bt s pos) = false ∧ bt s pos ≠ 35 := by
  rcases Nat.lt_or_ge (bt s pos) 128 with h | h
  · rw [decode_low hp h] at hR
    have hR' : bt s pos = R := hR
    rw [hR']
    refine ⟨?_, h3⟩
    unfold blankB
    simp [h1, h2]
  · refine ⟨?_, by omega⟩
    unfold blankB
    simp; omega
set_option maxRecDepth 100000 in
set_option maxHeartbeats 4000000 in
theorem scan_any (nm : List UInt8 → Int × Bool) (s : ByteArray) (w : World) (hs : SgW w) (hn : NumC nm w) : Calls Tryz.prog 25 #[.string s] w (ScanP nm s w) := by
  obtain ⟨b, HB⟩ : ∃ b, Hid (b = w.heap.size) := ⟨_, Lib.hid rfl⟩
  by_cases hz : 20000 < s.size
  · have g : (20000 : Int) < (s.size : Int) := by omega
    go_enter Tryz.func25, Tryz.ntmps25
    go_wp2
    go_ret3
    exact ⟨([], 0, 5), _, .inl ⟨hz, rfl⟩, rfl, OT.nil _ _, Below.refl _ _⟩
  · have g : ¬ (20000 : Int) < (s.size : Int) := by omega
    have HF : Hid (∀ a W, a < s.size → Below b w W → Calls Tryz.prog 62 #[.string (s.extract a s.size)] W fun e w' => e = .returned (firstV nm (tailS s a)) ∧ Below W.heap.size W w') := Lib.hid (fun a W ha hW => first_any nm (tailS s a) W (by rw [tail_size]; omega) (hs.below (by rw [HB.out] at hW; exact hW)) (fun t W2 h1 h2 => hn t W2 h1 (by rw [HB.out] at hW; exact hW.trans (h2.mono hW.size))))
    have hz2 : s.size ≤ 20000 := by omega
    clear hs hn hz
    go_enter Tryz.func25, Tryz.ntmps25
    go_wp2
    rw [← HB.out]
    go_loopg [5, 6] s.size (fun gf v5 v6 wx => ∃ (pos en : Nat) (l : List Tok), v6 = .int .i64 (en : Nat) ∧ Hid (ScI nm s b w wx v5 pos en l) ∧ s.size ≤ pos + gf)
    case atStart => exact ⟨0, 0, [], rfl, Lib.hid ⟨by rw [HB.out]; exact World.iter_heap w s 0, OT.nil _ _, by rw [HB.out]; exact (Below.refl _ w).alloc (Nat.le_refl _) _, by rw [HB.out]; exact (Array.getElem?_eq_some_iff.1 (World.iter_heap w s 0)).1, Nat.zero_le _, fun _ => .here 0, Nat.zero_le _, fun r h => h⟩, by omega⟩
    case round =>
      obtain ⟨pos, en, l, rfl, HI, hfu⟩ := hrel
      by_cases hps : pos < s.size
      · obtain ⟨g', rfl⟩ : ∃ g', gk = g' + 1 := ⟨gk - 1, by omega⟩
        have hnx : ∀ ty, (Instr.next (.pointer (some ⟨b, 0, none⟩)) true ty).run Tryz.prog wr = _ := fun ty => Lib.run_next_any_at wr b s pos ty HI.out.it hps
        obtain ⟨w1, w2⟩ := width_in hps
        obtain ⟨R, HR⟩ : ∃ R, Hid ((Utf8.decode s pos).1 = R) := ⟨_, Lib.hid rfl⟩
        obtain ⟨K, HK⟩ : ∃ K, Hid ((Utf8.decode s pos).2 = K) := ⟨_, Lib.hid rfl⟩
        rw [HR.out, HK.out] at hnx
        rw [HK.out] at w1 w2
        have HIT := Lib.hid (Lib.iterAt_heap wr b s pos (pos + K) HI.out.it)
        have HBW := Lib.hid (Lib.below_iterAt HI.out.below (k := b) (Nat.le_refl _) s (pos + K))
        have HOW : Hid (OT (b + 1) (wr.iterAt b s (pos + K)) _ l) := Lib.hid (ownsRow_iterAt HI.out.own (by omega) s (pos + K))
        have HBG : Hid (b + 1 ≤ (wr.iterAt b s (pos + K)).heap.size) := Lib.hid (by rw [Lib.iterAt_size]; exact HI.out.big)
        obtain ⟨W, HWd⟩ : ∃ W, Hid (wr.iterAt b s (pos + K) = W) := ⟨_, Lib.hid rfl⟩
        rw [HWd.out] at hnx HIT HBW HOW HBG
        by_cases hen : pos < en
        · have g1 : (pos : Int) < (en : Int) := by omega
          have HH : Hid (Hits s (pos + K) en) := Lib.hid (by have := (HI.out.hits (by omega)).next hen; rw [HK.out] at this; exact this)
          have HSN : Hid (ScI nm s b w W _ (pos + K) en l) := Lib.hid ⟨HIT.out, HOW.out, HBW.out, HBG.out, HI.out.most, fun _ => HH.out, HI.out.inn, fun r h => HI.out.sc r (by have := HH.out.le; rw [show max pos en = max (pos + K) en by omega]; exact h)⟩
          go_wp2
          go_roundg g'
          case measure => omega
          case rel => exact ⟨pos + K, en, l, rfl, HSN, by omega⟩
        · have g1 : ¬ (pos : Int) < (en : Int) := by omega
          have HS0 : Hid (∀ r, Sc nm s pos l r → Sc nm s 0 [] r) := Lib.hid (fun r h => HI.out.sc r (by rw [show max pos en = pos by omega]; exact h))
          by_cases h32 : R = 32 ∨ R = 10
          · have hlow := rune_low hps (by rw [HR.out]; omega)
            have hK1 : K = 1 := by have := decode_low hps hlow.2; rw [this] at HK; exact HK.out.symm
            have hbt : bt s pos = R := by rw [← hlow.1]; exact HR.out
            have HSN : Hid (ScI nm s b w W _ (pos + K) en l) := Lib.hid ⟨HIT.out, HOW.out, HBW.out, HBG.out, HI.out.most, fun h => by omega, HI.out.inn, fun r h => HS0.out r (by
              rw [show max (pos + K) en = pos + 1 by omega] at h
              exact .blank hps (by rw [hbt]; unfold blankB; rcases h32 with e | e <;> rw [e] <;> decide) h)⟩
            clear hlow hK1 hbt
            rcases h32 with rfl | rfl
            · go_wp2
              go_roundg g'
              case measure => omega
              case rel => exact ⟨pos + K, en, l, rfl, HSN, by omega⟩
            · go_wp2
              go_roundg g'
              case measure => omega
              case rel => exact ⟨pos + K, en, l, rfl, HSN, by omega⟩
          · have g32 : ((R : Int) == 32) = false := by simp; omega
            have g10 : ((R : Int) == 10) = false := by simp; omega
            by_cases h35 : R = 35
            · have hlow := rune_low hps (by rw [HR.out]; omega)
              have hbt : bt s pos = 35 := by rw [← hlow.1, HR.out, h35]
              have HE : Hid (pos + stopF linB (tailS s pos) (tailS s pos).size 0 = lineE s pos) := Lib.hid (lineN_eq s pos hps)
              obtain ⟨hh, hle⟩ := remark_hits (s := s) (a := pos) hps
              have hgt : pos < lineE s pos := by
                obtain ⟨q1, q2, q3, q4⟩ := runE_spec (fun b => !decide (b = 10)) s s.size pos (by omega) (by omega)
                refine Decidable.byContradiction fun hc => ?_
                have e : lineE s pos = pos := by unfold lineE at hc ⊢; omega
                unfold lineE at e
                rw [e] at q4
                have := q4 hps
                rw [hbt] at this
                exact this (by decide)
              have HLN := Lib.hid (line_any (tailS s pos) W)
              have HHN : Hid (Hits s (pos + K) (lineE s pos)) := Lib.hid (by have := hh.next hgt; rw [HK.out] at this; exact this)
              have HSN2 : Hid (∀ r, Sc nm s (lineE s pos) l r → Sc nm s 0 [] r) := Lib.hid (fun r h => HS0.out r (.remark hps hbt h))
              obtain ⟨E, HEE⟩ : ∃ E, Hid (lineE s pos = E) := ⟨_, Lib.hid rfl⟩
              rw [HEE.out] at HE HHN HSN2 hle hgt
              obtain ⟨d, HD⟩ : ∃ d, Hid (stopF linB (tailS s pos) (tailS s pos).size 0 = d) := ⟨_, Lib.hid rfl⟩
              rw [HD.out] at HE HLN
              have hpd : pos + d = E := HE.out
              clear hlow hbt hh
              subst h35
              have g3 : (pos : Int) ≤ (s.size : Int) := by omega
              go_wp2_with fail
              refine HLN.out.mono ?_
              rintro e w3 ⟨rfl, hb3⟩
              have HSN : Hid (ScI nm s b w w3 _ (pos + K) E l) := Lib.hid ⟨(hb3.block _ (by have := HBG.out; omega)).trans HIT.out, HOW.out.below hb3, HBW.out.trans (hb3.mono (by have := HBG.out; omega)), Nat.le_trans HBG.out hb3.size, HI.out.most, fun _ => HHN.out, hle, fun r h => HSN2.out r (by have := HHN.out.le; rw [show max (pos + K) E = E by omega] at h; exact h)⟩
              clear hb3
              go_wp2
              go_roundg g'
              case measure => omega
              case rel => exact ⟨pos + K, E, l, by rw [← hpd]; go_num, HSN, by omega⟩
            · have g35 : ((R : Int) == 35) = false := by simp; omega
              obtain ⟨nb1, nb2⟩ := not_blank hps HR.out (by omega) (by omega) h35
              obtain ⟨Av, cv, hv⟩ := HI.out.own.form
              subst hv
              obtain ⟨len, HLN⟩ : ∃ len, Hid (l.length = len) := ⟨_, Lib.hid rfl⟩
              rw [HLN.out]
              have hlen : len ≤ 6000 := by rw [← HLN.out]; exact HI.out.most
              have g3 : (pos : Int) ≤ (s.size : Int) := by omega
              by_cases hm : len = 6000
              · have HS : Hid (Sc nm s 0 [] ([], pos, 11)) := Lib.hid (HS0.out _ (.many hps nb1 nb2 (by rw [HLN.out]; exact hm)))
                have gm : ((len : Int) == 6000) = true := by simp [hm]; try omega
                clear nb1 nb2
                go_wp2
                go_ret3
                exact ⟨([], pos, 11), _, .inr ⟨hz2, HS.out⟩, rfl, OT.nil _ _, by rw [← HB.out]; exact HBW.out⟩
              · have gm : ((len : Int) == 6000) = false := by simp; omega
                have HFI := Lib.hid (HF.out pos W hps HBW.out)
                cases hf : firstP nm (tailS s pos) with
                | error why =>
                  have HS : Hid (Sc nm s 0 [] ([], pos, why)) := Lib.hid (HS0.out _ (.wrong hps nb1 nb2 (by rw [HLN.out]; exact hm) hf))
                  have hwy := first_err hf
                  have gw : ((why : Int) != 0) = true := by simp; omega
                  rw [fv_err hf] at HFI
                  clear nb1 nb2 hf hwy
                  go_wp2_with fail
                  refine HFI.out.mono ?_
                  rintro e w3 ⟨rfl, hb3⟩
                  have HB3 : Hid (Below b w w3) := Lib.hid (HBW.out.trans (hb3.mono (by have := HBG.out; omega)))
                  clear hb3
                  go_wp2
                  go_ret3
                  exact ⟨([], pos, why), _, .inr ⟨hz2, HS.out⟩, rfl, OT.nil _ _, by rw [← HB.out]; exact HB3.out.alloc (by have := HB3.out.size; have := HBG.out; have := HB.out; omega) _⟩
                | ok q =>
                  obtain ⟨k, n, m⟩ := q
                  obtain ⟨hm0, hm1, _⟩ := first_ok hps hf
                  have HTH := Lib.hid (token_hits hps hf)
                  have HQ : Hid ((tailS s pos).extract 0 m = s.extract pos (pos + m)) := Lib.hid (by unfold tailS; rw [ByteArray.extract_extract]; congr 1; omega)
                  have HS : Hid (∀ r, Sc nm s (pos + m) (l ++ [⟨k, n, pos, s.extract pos (pos + m)⟩]) r → Sc nm s 0 [] r) := Lib.hid (fun r h => HS0.out r (.token hps nb1 nb2 (by rw [HLN.out]; exact hm) hf h))
                  rw [fv_ok hf, HQ.out] at HFI
                  have HQS : Hid ((s.extract pos (pos + m)).size = m) := Lib.hid (by rw [ByteArray.size_extract]; omega)
                  generalize s.extract pos (pos + m) = q at HFI HS HQS
                  have HHN : Hid (Hits s (pos + K) (pos + m)) := Lib.hid (by have := HTH.out.next (by omega); rw [HK.out] at this; exact this)
                  clear nb1 nb2 hf HTH HQ
                  go_wp2_with fail
                  refine HFI.out.mono ?_
                  rintro e w3 ⟨rfl, hb3⟩
                  have HB3 : Hid (Below b w w3) := Lib.hid (HBW.out.trans (hb3.mono (by have := HBG.out; omega)))
                  have HIT3 : Hid (w3.heap[b]? = some (.stringIter s (pos + K))) := Lib.hid ((hb3.block _ (by have := HBG.out; omega)).trans HIT.out)
                  have HO3 := Lib.hid (HOW.out.below hb3)
                  have HG3 : Hid (b + 1 ≤ w3.heap.size) := Lib.hid (Nat.le_trans HBG.out hb3.size)
                  clear hb3
                  go_upto_region 17 with (fail)
                  obtain ⟨tb, HTB⟩ : ∃ tb, Hid (tb = w3.heap.size) := ⟨_, Lib.hid rfl⟩
                  obtain ⟨w6, HW6⟩ : ∃ w6, Hid (w6 = w3.alloc (.cells #[.int .i64 (k : Nat), .int .i64 n, .int .i64 (pos : Nat), .string q] 107)) := ⟨_, Lib.hid rfl⟩
                  rw [← HW6.out, ← HTB.out]
                  have HAL : Hid (Below w3.heap.size w3 w6) := Lib.hid (by rw [HW6.out]; exact (Below.refl _ _).alloc (Nat.le_refl _) _)
                  have HC6 : Hid (w6.heap[tb]? = some (.cells #[.int .i64 (k : Nat), .int .i64 n, .int .i64 (pos : Nat), .string q] 107 (0, 0))) := Lib.hid (by rw [HW6.out, HTB.out]; exact World.alloc_heap_new _ _)
                  have HO6 := Lib.hid (HO3.out.below HAL.out)
                  rw [HLN.out] at HO6
                  have HB6 : Hid (Below b w w6) := Lib.hid (HB3.out.trans (HAL.out.mono (by have := HG3.out; omega)))
                  have HIT6 : Hid (w6.heap[b]? = some (.stringIter s (pos + K))) := Lib.hid ((HAL.out.block _ (by have := HG3.out; omega)).trans HIT3.out)
                  have HG6 : Hid (b + 1 ≤ w6.heap.size) := Lib.hid (Nat.le_trans HG3.out HAL.out.size)
                  have c0 := cell_of_row _ _ 0 _ _ _ HC6.out
                  have c1 := cell_of_row _ _ 1 _ _ _ HC6.out
                  have c2 := cell_of_row _ _ 2 _ _ _ HC6.out
                  have c3 := cell_of_row _ _ 3 _ _ _ HC6.out
                  have hll : l.length + 1 ≤ 1000000 := by rw [HLN.out]; omega
                  have HNE : Hid (∀ g, (Value.slice Av len cv).ownBlock = some g → g ≠ tb) := Lib.hid (fun g e => by
                    have h9 := HO3.out
                    rw [HLN.out] at h9
                    have := (World.ownsRow.lt h9 g e).2
                    have := HTB.out; omega)
                  go_wp2_with (at_builtin; go_loud (refine append_tok rfl (.tmp 56) (.tmp 58) rfl (b + 1) _ l rfl HO6.out k pos n q rfl hll HG6.out ?_); intro v4 w4 ho4 hb4 hg4; have HO4 := Lib.hid ho4; have HB4 := Lib.hid hb4; have c4 : w4.cell? ⟨tb, 3, none⟩ = some (.string q) := (World.cell?_of_block (a := ⟨tb, 3, none⟩) ((hg4.block tb (by have := (Array.getElem?_eq_some_iff.1 HC6.out).1; simp; omega) (fun e => HNE.out tb e.symm rfl)).trans (Below.heap_alloc _ _ _ (Array.getElem?_eq_some_iff.1 HC6.out).1))).trans c3; have hqs := HQS.out; clear ho4 hb4 hg4 c0 c1 c2 c3)
                  go_roundg g'
                  case measure => omega
                  case rel =>
                    refine ⟨pos + K, pos + m, l ++ [⟨k, n, pos, q⟩], by go_num, Lib.hid ⟨(HB4.out.block _ (by omega)).trans HIT6.out, HO4.out, HB6.out.trans (HB4.out.mono (by omega)), Nat.le_trans HG6.out HB4.out.size, by rw [List.length_append, HLN.out]; simp; omega, fun _ => HHN.out, hm1, fun r h => HS.out r (by have := HHN.out.le; rw [show max (pos + K) (pos + m) = pos + m by omega] at h; exact h)⟩, by omega⟩
      · have hnx : ∀ ty, (Instr.next (.pointer (some ⟨b, 0, none⟩)) true ty).run Tryz.prog wr = _ := fun ty => Lib.run_next_end_at wr b s pos ty HI.out.it hps
        have HS : Hid (Sc nm s 0 [] (l, 0, 0)) := Lib.hid (HI.out.sc _ (.done (by omega)))
        go_wp2
        go_ret3
        exact ⟨(l, 0, 0), _, .inr ⟨hz2, HS.out⟩, rfl, HI.out.own.mono (by have := HB.out; omega), by rw [← HB.out]; exact HI.out.below⟩
end Go.Proofs.YtmnigdphikoljaaGreatDoor.lx
namespace Go.Proofs.YtmnigdphikoljaaGreatDoor.et
open Go.ChangeShapes Go.WideShapes Go.ChangeAt Go.RowKit Go.Deep

/-- What is asked of the listed variables. -/
structure LxW (w : World) : Prop where
  sg : lx.SgW w
  tabs : Tabs w
theorem LxW.below {w w' : World} (h : LxW w) (hb : Below w.heap.size w w') : LxW w' := ⟨h.sg.below hb, h.tabs.below hb⟩
theorem LxW.num {w : World} (h : LxW w) : lx.NumC numD w := fun t W hz hW => _root_.Go.Proofs.YtmnigdphikoljaaGreatDoor.number_any t W hz (h.tabs.below hW)
theorem numD_bd (l : List UInt8) : -1048576 ≤ (numD l).1 ∧ (numD l).1 ≤ 1048576 := by
  unfold numD
  split
  · rename_i h
    exact h.2.1
  · exact ⟨by show (-1048576 : Int) ≤ 0; omega, by show (0 : Int) ≤ 1048576; omega⟩
theorem first_bd {s : ByteArray} {k m : Nat} {n : Int} (h : lx.firstP numD s = .ok (k, n, m)) : -2000000 ≤ n ∧ n ≤ 2000000 := by
  unfold lx.firstP at h
  repeat' split at h
  all_goals first
    | (injection h with h; injection h with h1 h2; injection h2 with h2 h3; rw [← h2]; first | (have := numD_bd (s.extract 0 (lx.digN s)).data.toList; omega) | omega)
    | cases h
theorem tks_bd {s : ByteArray} {a : Nat} {T : List lx.Tok} (h : lx.Tks numD s a T) : ∀ t ∈ T, (-2000000 ≤ t.num ∧ t.num ≤ 2000000) ∧ t.text.size ≤ s.size := by
  induction h with
  | done => intro t ht; cases ht
  | blank _ _ _ ih => exact ih
  | remark _ _ _ ih => exact ih
  | @token a L k n m h1 hb hr hf hh ih =>
    intro t ht
    rcases List.mem_cons.1 ht with rfl | ht
    · exact ⟨first_bd hf, by show (s.extract a (a + m)).size ≤ _; rw [ByteArray.size_extract]; omega⟩
    · exact ih t ht
theorem sc_bd {s : ByteArray} {r : lx.Res} (h : lx.Sc numD s 0 [] r) : (∀ t ∈ r.1, -2000000 ≤ t.num ∧ t.num ≤ 2000000) ∧ (∀ t ∈ r.1, t.text.size ≤ s.size) ∧ r.1.length ≤ 6000 := by
  by_cases h0 : r.2.2 = 0
  · obtain ⟨T, rfl, ht, hl⟩ := h.tks h0
    rw [List.nil_append]
    exact ⟨fun t hm => (tks_bd ht t hm).1, fun t hm => (tks_bd ht t hm).2, by simpa using hl (Nat.zero_le _)⟩
  · rw [h.err h0]
    exact ⟨fun t ht => absurd ht (by simp), fun t ht => absurd ht (by simp), Nat.zero_le _⟩
theorem pa_of {w : World} {A : Option Addr} {l : List (Int × Int)} (h : sr.RS nodC 2 w A l) : PA w A l := fun hn => by
  obtain ⟨b, off, e, hb, hc⟩ := h hn
  refine ⟨b, off, e, hb, fun i hi => ?_⟩
  have e2 : l.getD i (0, 0) = l.getD i default := rfl
  rw [e2]
  exact ⟨hc i hi 0 (by decide), hc i hi 1 (by decide)⟩
/-- The first place, from i on, where two texts part: n is how many are left. -/
def apF (a b : ByteArray) : Nat → Nat → Nat
  | 0, i => i
  | n + 1, i => if lx.bt a i = lx.bt b i then apF a b n (i + 1) else i
def apartF (a b : ByteArray) : Nat := apF a b (min a.size b.size) 0
theorem byteAt (s : ByteArray) (k : Nat) (h : k < s.size) : ∀ W : World, (Instr.index 9 (.string s) (.int .i64 (k : Nat))).run Tryz.prog W = .ok (.int .u8 (lx.bt s k : Nat)) W := fun W => by
  rw [run_index_string W _ _ _ _ Tryz.underlying9, dif_pos ⟨by omega, by omega⟩, lx.bt_eq h]; rfl
set_option maxRecDepth 20000 in
theorem parting_any (a b : ByteArray) (w : World) (hz : b.size ≤ 1000000000) : Calls Tryz.prog 28 #[.string a, .string b] w fun e w' => e = .returned (.int .i64 (apartF a b : Nat)) ∧ Below w.heap.size w w' := by
  obtain ⟨R, HR⟩ : ∃ R, Hid (apartF a b = R) := ⟨_, Lib.hid rfl⟩
  have H0 : Hid (apF a b (min a.size b.size) 0 = R) := HR
  rw [HR.out]
  obtain ⟨m, hm⟩ : ∃ m, min a.size b.size = m := ⟨_, rfl⟩
  rw [hm] at H0
  have HA : Hid (m ≤ a.size ∧ m ≤ b.size) := Lib.hid (by omega)
  have hm9 : (m : Int) ≤ 1000000000 := by omega
  clear hz
  go_enter Tryz.func28, Tryz.ntmps28
  go_upto_region 2 with (fail)
  have hmi : (min (a.size : Int) (b.size : Int)) = (m : Int) := by omega
  rw [hmi]
  clear hmi hm
  go_wp2
  go_loopw [13] (fun i wr => ∃ k : Nat, k ≤ m ∧ i = .int .i64 (k : Nat) ∧ Hid (Below w.heap.size w wr) ∧ Hid (apF a b (m - k) k = R)) (fun i _ => m - (intOf i).toNat)
  case atStart => exact ⟨0, Nat.zero_le _, rfl, Lib.hid (Below.refl _ _), H0⟩
  case round =>
    obtain ⟨k, hk, rfl, HB, HF⟩ := hrel
    by_cases hlt : k < m
    · have hi9 : (k : Int) < (m : Int) := by omega
      have ha := byteAt a k (by have := HA.out; omega)
      have hb := byteAt b k (by have := HA.out; omega)
      obtain ⟨x, HX⟩ : ∃ x, Hid (lx.bt a k = x) := ⟨_, Lib.hid rfl⟩
      obtain ⟨y, HY⟩ : ∃ y, Hid (lx.bt b k = y) := ⟨_, Lib.hid rfl⟩
      rw [HX.out] at ha
      rw [HY.out] at hb
      have hF := HF.out
      rw [show m - k = (m - (k + 1)) + 1 by omega, apF, HX.out, HY.out] at hF
      by_cases hxy : x = y
      · rw [if_pos hxy] at hF
        have HF2 := Lib.hid hF
        subst hxy
        clear hF
        go_upto_region 5 with (fail)
        go_region
        have HBd := Lib.hid HB.out.drew
        go_wp2
        go_roundw
        case rel => exact ⟨k + 1, by omega, by go_num, HBd, HF2⟩
        case measure => simp [intOf]; omega
      · rw [if_neg hxy] at hF
        have HF2 := Lib.hid hF
        have hxy2 : ((x : Int) == (y : Int)) = false := by simp; omega
        clear hF
        go_upto_region 5 with (fail)
        go_region
        have HBd := Lib.hid HB.out.drew
        go_wp2
        go_ret
        exact ⟨by rw [← HF2.out]; rfl, HBd.out⟩
    · obtain rfl : k = m := by omega
      have HF2 : Hid (R = k) := Lib.hid (by rw [← HF.out, Nat.sub_self]; rfl)
      go_wp2
      go_ret
      exact ⟨by rw [HF2.out]; rfl, HB.out⟩
end Go.Proofs.YtmnigdphikoljaaGreatDoor.et
namespace Go.Proofs.YtmnigdphikoljaaGreatDoor

/-- Where the part of node number k begins, its stack being st. -/
def spF (k : Nat) (_ : Int × Int) (ps : List Int) : Int × Int := (if 0 < ps.length then ps.getD 0 0 else (k : Int), 0)
/-- The beginnings told so far, and the stack of the parts' beginnings: after the first k nodes. -/
structure Sp where
  out : List Int
  st : List Int
/-- st is the beginnings of the parts side by side that the first i nodes are. -/
inductive Ch (out : List Int) : Nat → List Int → Prop
  | nil : Ch out 0 []
  | snoc (i s : Nat) (st : List Int) : s < i → i ≤ out.length → out.getD (i - 1) 0 = (s : Int) → Ch out s st → Ch out i (st ++ [(s : Int)])

theorem Ch.le {out : List Int} {i : Nat} {st : List Int} (h : Ch out i st) : i ≤ out.length := by
  cases h with
  | nil => exact Nat.zero_le _
  | snoc _ s st h1 h2 _ _ => exact h2
theorem Ch.more {out : List Int} {i : Nat} {st : List Int} (h : Ch out i st) (x : Int) : Ch (out ++ [x]) i st := by
  induction h with
  | nil => exact .nil
  | snoc i s st h1 h2 h3 _ ih =>
    refine .snoc i s st h1 (by simp; omega) ?_ ih
    rw [← h3]
    have : i - 1 < out.length := by omega
    simp [List.getD, List.getElem?_append_left this]
theorem Ch.zero {out : List Int} {st : List Int} (h : Ch out 0 st) : st = [] := by
  cases h with
  | nil => rfl
  | snoc _ s st h1 _ _ _ => omega
theorem Ch.pos {out : List Int} {i : Nat} {st : List Int} (h : Ch out i st) (hi : 0 < i) : ∃ (s : Nat) (st' : List Int), st = st' ++ [(s : Int)] ∧ s < i ∧ out.getD (i - 1) 0 = s ∧ Ch out s st' := by
  cases h with
  | nil => omega
  | snoc _ s st h1 h2 h3 h4 => exact ⟨s, st, rfl, h1, h3, h4⟩
/-- Going back over m parts: from the end of node number i on. -/
theorem Ch.back {out : List Int} : ∀ {m i : Nat} {st : List Int}, Ch out i st → m ≤ st.length → ∃ s : Nat, s ≤ i ∧ Ch out s (st.take (st.length - m)) ∧ (0 < m → st.getD (st.length - m) 0 = (s : Int)) ∧ (m = 0 → s = i)
  | 0, i, st, h, _ => ⟨i, Nat.le_refl _, by rw [Nat.sub_zero, List.take_length]; exact h, fun h => by omega, fun _ => rfl⟩
  | m + 1, i, st, h, hm => by
    have hi : 0 < i := by
      rcases Nat.eq_zero_or_pos i with h0 | h0
      · subst h0
        rw [h.zero] at hm
        simp at hm
      · exact h0
    obtain ⟨s, st', rfl, h1, h2, h3⟩ := h.pos hi
    obtain ⟨q, q1, q2, q3, q4⟩ := Ch.back (m := m) h3 (by simp at hm; omega)
    have hl : (st' ++ [(s : Int)]).length - (m + 1) = st'.length - m := by simp
    refine ⟨q, by omega, ?_, fun _ => ?_, fun h => by omega⟩
    · rw [hl, List.take_append_of_le_length (by omega)]
      exact q2
    · rw [hl]
      rcases Nat.eq_zero_or_pos m with h0 | h0
      · subst h0
        rw [q4 rfl, Nat.sub_zero]
        simp [List.getD]
      · have hlt : st'.length - m < st'.length := by simp at hm; omega
        rw [← q3 h0]
        simp [List.getD, List.getElem?_append_left hlt]
/-- One step back. -/
theorem Ch.step {out : List Int} {m i : Nat} {st : List Int} (h : Ch out i st) (hm : m < st.length) {s : Nat} (hs : Ch out s (st.take (st.length - m))) : 0 < s ∧ ∃ q : Nat, q < s ∧ out.getD (s - 1) 0 = (q : Int) ∧ st.getD (st.length - (m + 1)) 0 = (q : Int) ∧ Ch out q (st.take (st.length - (m + 1))) := by
  have hs0 : 0 < s := by
    rcases Nat.eq_zero_or_pos s with h0 | h0
    · subst h0
      have := congrArg List.length hs.zero
      simp at this
      omega
    · exact h0
  obtain ⟨q, st', e, h1, h2, h3⟩ := hs.pos hs0
  have hg : st.getD (st.length - (m + 1)) 0 = (q : Int) := by
    have hl : st'.length = st.length - (m + 1) := by
      have := congrArg List.length e
      simp at this
      omega
    have h5 : (st.take (st.length - m)).getD (st.length - (m + 1)) 0 = (st' ++ [(q : Int)]).getD (st.length - (m + 1)) 0 := by rw [e]
    rw [← hl] at h5 ⊢
    have h6 : (st.take (st.length - m)).getD st'.length 0 = st.getD st'.length 0 := by
      simp only [List.getD, List.getElem?_take]
      rw [if_pos (by omega)]
    rw [h6] at h5
    rw [h5]
    simp [List.getD]
  refine ⟨hs0, q, h1, h2, hg, ?_⟩
  have e2 : st' = st.take (st.length - (m + 1)) := by
    have h4 : (st.take (st.length - m)).take (st.length - (m + 1)) = (st' ++ [(q : Int)]).take (st.length - (m + 1)) := by rw [e]
    have hl : st'.length = st.length - (m + 1) := by
      have := congrArg List.length e
      simp at this
      omega
    rw [List.take_take, Nat.min_eq_left (by omega), ← hl, List.take_left'] at h4
    · rw [← hl]; exact h4.symm
    · rfl
  rw [← e2]
  exact h3
theorem Ch.stop {out : List Int} {st : List Int} {s : Nat} (hs : Ch out s (st.take (st.length - st.length))) : s = 0 := by
  rcases Nat.eq_zero_or_pos s with h0 | h0
  · exact h0
  · obtain ⟨q, st', e, _⟩ := hs.pos h0
    have := congrArg List.length e
    simp at this

/-- The state after the first k nodes, if none of them fails; failing is told by none. -/
def spAt (e : List (Int × Int)) : Nat → Option Sp
  | 0 => some ⟨[], []⟩
  | k + 1 => match spAt e k with
    | none => none
    | some S => if takesZ (e.getD k (0, 0)).1 < 0 ∨ (S.st.length : Int) < takesZ (e.getD k (0, 0)).1 then none else
      let t := (takesZ (e.getD k (0, 0)).1).toNat
      let s := if t = 0 then (k : Int) else S.st.getD (S.st.length - t) 0
      some ⟨S.out ++ [s], S.st.take (S.st.length - t) ++ [s]⟩
/-- The beginnings of all parts, if the nodes are one part. -/
def spansF (e : List (Int × Int)) : Option (List Int) := match spAt e e.length with
  | none => none
  | some S => if S.st.length = 1 then some S.out else none

theorem spAt_ok {e : List (Int × Int)} : ∀ {k : Nat} {S : Sp}, spAt e k = some S → S.out.length = k ∧ Ch S.out k S.st ∧ S.st.length ≤ k
  | 0, S, h => by
    injection h with h
    subst h
    exact ⟨rfl, .nil, Nat.le_refl _⟩
  | k + 1, S, h => by
    unfold spAt at h
    split at h
    · cases h
    · next S' hS' =>
      obtain ⟨h1, h2, h3⟩ := spAt_ok hS'
      split at h
      · cases h
      · next hc =>
        simp only [Option.some.injEq] at h
        subst h
        have hr := takesZ_range (e.getD k (0, 0)).1
        obtain ⟨t, ht⟩ : ∃ t : Nat, takesZ (e.getD k (0, 0)).1 = t := ⟨(takesZ (e.getD k (0, 0)).1).toNat, by omega⟩
        have htl : t ≤ S'.st.length := by omega
        simp only [ht, Int.toNat_natCast]
        obtain ⟨s, s1, s2, s3, s4⟩ := h2.back (m := t) htl
        have hs : (if t = 0 then (k : Int) else S'.st.getD (S'.st.length - t) 0) = (s : Int) := by
          by_cases h0 : t = 0
          · rw [if_pos h0, s4 h0]
          · rw [if_neg h0]; exact s3 (by omega)
        rw [hs]
        refine ⟨by simp [h1], ?_, by simp; omega⟩
        exact .snoc (k + 1) s _ (by omega) (by simp [h1]) (by simp [List.getD, h1]) (s2.more _)
theorem spAt_next {e : List (Int × Int)} {k t : Nat} {S : Sp} (h : spAt e k = some S) (ht : takesZ (e.getD k (0, 0)).1 = t) (hl : t ≤ S.st.length) :
    spAt e (k + 1) = some ⟨S.out ++ [(spF k (e.getD k (0, 0)) (S.st.drop (S.st.length - t))).1], S.st.take (S.st.length - t) ++ [(spF k (e.getD k (0, 0)) (S.st.drop (S.st.length - t))).1]⟩ := by
  have e1 : (spF k (e.getD k (0, 0)) (S.st.drop (S.st.length - t))).1 = if t = 0 then (k : Int) else S.st.getD (S.st.length - t) 0 := by
    unfold spF
    by_cases h0 : t = 0
    · subst h0; simp
    · rw [if_neg h0, if_pos (by simp; omega)]
      simp [List.getD]
  rw [e1]
  conv => lhs; unfold spAt
  rw [h]
  simp only [ht, Int.toNat_natCast]
  rw [if_neg (by omega)]
theorem spAt_stop {e : List (Int × Int)} {k : Nat} {S : Sp} (h : spAt e k = some S) (hc : takesZ (e.getD k (0, 0)).1 < 0 ∨ (S.st.length : Int) < takesZ (e.getD k (0, 0)).1) : spAt e (k + 1) = none := by
  unfold spAt
  rw [h]
  simp only [if_pos hc]
theorem spAt_none {e : List (Int × Int)} {k : Nat} (h : spAt e k = none) : ∀ j, k ≤ j → spAt e j = none
  | 0, hj => by obtain rfl : k = 0 := by omega
                exact h
  | j + 1, hj => by
    by_cases hk : k = j + 1
    · rw [← hk]; exact h
    · have := spAt_none h j (by omega)
      unfold spAt
      rw [this]

/-- Working off tells the same. -/
theorem run_spans {e : List (Int × Int)} : ∀ (n k : Nat) (S : Sp), n = e.length - k → k ≤ e.length → spAt e k = some S →
    (∃ x, runF spF e.length k (e.drop k) S.st = (x, 0) ∧ (spansF e).isSome = true) ∨ ((runF spF e.length k (e.drop k) S.st).2 ≠ 0 ∧ spansF e = none)
  | 0, k, S, hn, hk, hS => by
    obtain rfl : k = e.length := by omega
    rw [List.drop_length, runF_end]
    have hsp : spansF e = if S.st.length = 1 then some S.out else none := by unfold spansF; rw [hS]
    by_cases h0 : S.st.length = 0
    · right
      rw [if_pos h0, hsp, if_neg (by omega)]
      exact ⟨by decide, rfl⟩
    · by_cases h1 : 1 < S.st.length
      · right
        rw [if_neg h0, if_pos h1, hsp, if_neg (by omega)]
        exact ⟨by decide, rfl⟩
      · left
        rw [if_neg h0, if_neg h1, hsp, if_pos (by omega)]
        exact ⟨_, rfl, rfl⟩
  | n + 1, k, S, hn, hk, hS => by
    have hlt : k < e.length := by omega
    have hr := takesZ_range (e.getD k (0, 0)).1
    obtain ⟨o1, o2, o3⟩ := spAt_ok hS
    by_cases hneg : takesZ (e.getD k (0, 0)).1 < 0
    · right
      rw [run_form hlt hneg]
      refine ⟨by decide, ?_⟩
      unfold spansF
      rw [spAt_none (spAt_stop hS (.inl hneg)) _ hlt]
    · by_cases hsh : (S.st.length : Int) < takesZ (e.getD k (0, 0)).1
      · right
        rw [run_short hlt hneg hsh]
        refine ⟨by decide, ?_⟩
        unfold spansF
        rw [spAt_none (spAt_stop hS (.inr hsh)) _ hlt]
      · obtain ⟨t, ht⟩ : ∃ t : Nat, takesZ (e.getD k (0, 0)).1 = t := ⟨(takesZ (e.getD k (0, 0)).1).toNat, by omega⟩
        have htl : t ≤ S.st.length := by omega
        rw [run_next hlt ht htl rfl (by omega)]
        exact run_spans n (k + 1) ⟨_, _⟩ (by omega) hlt (spAt_next hS ht htl)
end Go.Proofs.YtmnigdphikoljaaGreatDoor
