/- Contracts that the claim stands on, several texts in one: LexScanP, LtxAll, NumTextsPure. -/
import Derived.WalkSmall
import Derived.Lib.AtoiAllCases
import Derived.Lib.ItoaNum
import Derived.Lib.ItoaLen
import Derived.Test.YtgnflnfajkoibaaDoorPut1
import Derived.Test.YtgnflnfajkoibaaDoorPut2
import Derived.Test.YtgnflnfajkoibaaDoorPut3
import Derived.Test.YtgnflnfajkoibaaDoorPut4
import Derived.Test.YtgnflnfajkoibaaDoorPut5
import Derived.Test.YtgnflnfajkoibaaDoorPut6
import Derived.Test.YtgnflnfajkoibaaDoorPut7
import Derived.Test.YtgnflnfajkoibaaDoorPut8
import Derived.Test.YtgnflnfajkoibaaDoorPut9
import Derived.Test.YtgnflnfajkoibaaDoorPut10
import Derived.Test.YtgnflnfajkoibaaDoorPut11
import Derived.Test.YtgnflnfajkoibaaDoorPut12
import Derived.Test.YtgnflnfajkoibaaDoorPut13
namespace Go.Proofs.YtgnflnfajkoibaaDoor.lx
open Go.ChangeShapes Go.WideShapes Go.ChangeAt Go.RowKit Go.Deep

def ScanR (nm : List UInt8 → Int × Bool) (s : ByteArray) (r : Res) : Prop := (20000 < s.size ∧ r = ([], 0, 5)) ∨ (s.size ≤ 20000 ∧ Sc nm s 0 [] r)
def ScanP (nm : List UInt8 → Int × Bool) (s : ByteArray) (w : World) (e : Ending) (w' : World) : Prop :=
  ∃ r v, ScanR nm s r ∧ e = .returned (.tuple #[v, .int .i64 (r.2.1 : Nat), .int .i64 (r.2.2 : Nat)]) ∧ OT w.heap.size w' v r.1 ∧ Below w.heap.size w w'
theorem OT.form {base : Nat} {w : World} {v : Value} {l : List Tok} (h : OT base w v l) : ∃ A c, v = .slice A l.length c := by
  rcases h.2 with ⟨e, e2⟩ | ⟨g, cap, cur, e, _⟩
  · exact ⟨none, 0, by rw [e, e2]⟩
  · exact ⟨_, cap, e⟩
theorem OT.below {base : Nat} {w w' : World} {v : Value} {l : List Tok} (h : OT base w v l) (hb : Below w.heap.size w w') : OT base w' v l := by
  refine World.ownsRow.kept (row := none) h ⟨hb.os, hb.tape, hb.output, hb.size, fun k hk _ => hb.block k hk⟩ ?_
  rcases hv : v.ownBlock with _ | g
  · exact .inl rfl
  · exact .inr (fun e => by cases e)
theorem OT.mono {base base' : Nat} {w : World} {v : Value} {l : List Tok} (h : OT base w v l) (hb : base' ≤ base) : OT base' w v l := by
  refine ⟨h.1, ?_⟩
  rcases h.2 with h1 | ⟨g, cap, cur, e, hg, r⟩
  · exact .inl h1
  · exact .inr ⟨g, cap, cur, e, Nat.le_trans hb hg, r⟩
/-- The state between two runes: the iterator's place, the end of what was met last, the tokens. -/
structure ScI (nm : List UInt8 → Int × Bool) (s : ByteArray) (b : Nat) (w wr : World) (v : Value) (pos en : Nat) (l : List Tok) : Prop where
  it : wr.heap[b]? = some (.stringIter s pos)
  own : OT (b + 1) wr v l
  below : Below b w wr
  big : b + 1 ≤ wr.heap.size
  most : l.length ≤ 6000
  hits : pos ≤ en → Hits s pos en
  inn : en ≤ s.size
  sc : ∀ r, Sc nm s (max pos en) l r → Sc nm s 0 [] r
theorem first_err {nm : List UInt8 → Int × Bool} {s : ByteArray} {why : Nat} (h : firstP nm s = .error why) : why = 6 ∨ why = 10 ∨ why = 13 := by
  unfold firstP at h
  repeat' split at h
  all_goals first
    | (injection h with h; omega)
    | cases h
theorem fv_err {nm : List UInt8 → Int × Bool} {s : ByteArray} {why : Nat} (h : firstP nm s = .error why) : firstV nm s = .tuple #[.agg #[.int .i64 0, .int .i64 0, .int .i64 0, .string ⟨#[]⟩], .int .i64 (why : Nat)] := by
  unfold firstV; rw [h]
theorem fv_ok {nm : List UInt8 → Int × Bool} {s : ByteArray} {k m : Nat} {n : Int} (h : firstP nm s = .ok (k, n, m)) : firstV nm s = .tuple #[.agg #[.int .i64 (k : Nat), .int .i64 n, .int .i64 0, .string (s.extract 0 m)], .int .i64 0] := by
  unfold firstV; rw [h]
theorem not_blank {s : ByteArray} {pos R : Nat} (hp : pos < s.size) (hR : (Utf8.decode s pos).1 = R) (h1 : R ≠ 32) (h2 : R ≠ 10) (h3 : R ≠ 35) : blankB (bt s pos) = false ∧ bt s pos ≠ 35 := by
  rcases Nat.lt_or_ge (bt s pos) 128 with h | h
  · rw [decode_low hp h] at hR
    have hR' : bt s pos = R := hR
    rw [hR']
    refine ⟨?_, h3⟩
    unfold blankB
    simp [h1, h2]
  · refine ⟨?_, by omega⟩
    unfold blankB
    simp; omega
set_option maxRecDepth 100000 in
set_option maxHeartbeats 4000000 in
theorem scan_any (nm : List UInt8 → Int × Bool) (s : ByteArray) (w : World) (hs : SgW w) (hn : NumC nm w) : Calls Tryd.prog 20 #[.string s] w (ScanP nm s w) := by
  obtain ⟨b, HB⟩ : ∃ b, Hid (b = w.heap.size) := ⟨_, Lib.hid rfl⟩
  by_cases hz : 20000 < s.size
  · have g : (20000 : Int) < (s.size : Int) := by omega
    go_enter Tryd.func20, Tryd.ntmps20
    go_wp2
    go_ret3
    exact ⟨([], 0, 5), _, .inl ⟨hz, rfl⟩, rfl, OT.nil _ _, Below.refl _ _⟩
  · have g : ¬ (20000 : Int) < (s.size : Int) := by omega
    have HF : Hid (∀ a W, a < s.size → Below b w W → Calls Tryd.prog 36 #[.string (s.extract a s.size)] W fun e w' => e = .returned (firstV nm (tailS s a)) ∧ Below W.heap.size W w') := Lib.hid (fun a W ha hW => first_any nm (tailS s a) W (by rw [tail_size]; omega) (hs.below (by rw [HB.out] at hW; exact hW)) (fun t W2 h1 h2 => hn t W2 h1 (by rw [HB.out] at hW; exact hW.trans (h2.mono hW.size))))
    have hz2 : s.size ≤ 20000 := by omega
    clear hs hn hz
    go_enter Tryd.func20, Tryd.ntmps20
    go_wp2
    rw [← HB.out]
    go_loopg [5, 6] s.size (fun gf v5 v6 wx => ∃ (pos en : Nat) (l : List Tok), v6 = .int .i64 (en : Nat) ∧ Hid (ScI nm s b w wx v5 pos en l) ∧ s.size ≤ pos + gf)
    case atStart => exact ⟨0, 0, [], rfl, Lib.hid ⟨by rw [HB.out]; exact World.iter_heap w s 0, OT.nil _ _, by rw [HB.out]; exact (Below.refl _ w).alloc (Nat.le_refl _) _, by rw [HB.out]; exact (Array.getElem?_eq_some_iff.1 (World.iter_heap w s 0)).1, Nat.zero_le _, fun _ => .here 0, Nat.zero_le _, fun r h => h⟩, by omega⟩
    case round =>
      obtain ⟨pos, en, l, rfl, HI, hfu⟩ := hrel
      by_cases hps : pos < s.size
      · obtain ⟨g', rfl⟩ : ∃ g', gk = g' + 1 := ⟨gk - 1, by omega⟩
        have hnx : ∀ ty, (Instr.next (.pointer (some ⟨b, 0, none⟩)) true ty).run Tryd.prog wr = _ := fun ty => Lib.run_next_any_at wr b s pos ty HI.out.it hps
        obtain ⟨w1, w2⟩ := width_in hps
        obtain ⟨R, HR⟩ : ∃ R, Hid ((Utf8.decode s pos).1 = R) := ⟨_, Lib.hid rfl⟩
        obtain ⟨K, HK⟩ : ∃ K, Hid ((Utf8.decode s pos).2 = K) := ⟨_, Lib.hid rfl⟩
        rw [HR.out, HK.out] at hnx
        rw [HK.out] at w1 w2
        have HIT := Lib.hid (Lib.iterAt_heap wr b s pos (pos + K) HI.out.it)
        have HBW := Lib.hid (Lib.below_iterAt HI.out.below (k := b) (Nat.le_refl _) s (pos + K))
        have HOW : Hid (OT (b + 1) (wr.iterAt b s (pos + K)) _ l) := Lib.hid (ownsRow_iterAt HI.out.own (by omega) s (pos + K))
        have HBG : Hid (b + 1 ≤ (wr.iterAt b s (pos + K)).heap.size) := Lib.hid (by rw [Lib.iterAt_size]; exact HI.out.big)
        obtain ⟨W, HWd⟩ : ∃ W, Hid (wr.iterAt b s (pos + K) = W) := ⟨_, Lib.hid rfl⟩
        rw [HWd.out] at hnx HIT HBW HOW HBG
        by_cases hen : pos < en
        · have g1 : (pos : Int) < (en : Int) := by omega
          have HH : Hid (Hits s (pos + K) en) := Lib.hid (by have := (HI.out.hits (by omega)).next hen; rw [HK.out] at this; exact this)
          have HSN : Hid (ScI nm s b w W _ (pos + K) en l) := Lib.hid ⟨HIT.out, HOW.out, HBW.out, HBG.out, HI.out.most, fun _ => HH.out, HI.out.inn, fun r h => HI.out.sc r (by have := HH.out.le; rw [show max pos en = max (pos + K) en by omega]; exact h)⟩
          go_wp2
          go_roundg g'
          case measure => omega
          case rel => exact ⟨pos + K, en, l, rfl, HSN, by omega⟩
        · have g1 : ¬ (pos : Int) < (en : Int) := by omega
          have HS0 : Hid (∀ r, Sc nm s pos l r → Sc nm s 0 [] r) := Lib.hid (fun r h => HI.out.sc r (by rw [show max pos en = pos by omega]; exact h))
          by_cases h32 : R = 32 ∨ R = 10
          · have hlow := rune_low hps (by rw [HR.out]; omega)
            have hK1 : K = 1 := by have := decode_low hps hlow.2; rw [this] at HK; exact HK.out.symm
            have hbt : bt s pos = R := by rw [← hlow.1]; exact HR.out
            have HSN : Hid (ScI nm s b w W _ (pos + K) en l) := Lib.hid ⟨HIT.out, HOW.out, HBW.out, HBG.out, HI.out.most, fun h => by omega, HI.out.inn, fun r h => HS0.out r (by
              rw [show max (pos + K) en = pos + 1 by omega] at h
              exact .blank hps (by rw [hbt]; unfold blankB; rcases h32 with e | e <;> rw [e] <;> decide) h)⟩
            clear hlow hK1 hbt
            rcases h32 with rfl | rfl
            · go_wp2
              go_roundg g'
              case measure => omega
              case rel => exact ⟨pos + K, en, l, rfl, HSN, by omega⟩
            · go_wp2
              go_roundg g'
              case measure => omega
              case rel => exact ⟨pos + K, en, l, rfl, HSN, by omega⟩
          · have g32 : ((R : Int) == 32) = false := by simp; omega
            have g10 : ((R : Int) == 10) = false := by simp; omega
            by_cases h35 : R = 35
            · have hlow := rune_low hps (by rw [HR.out]; omega)
              have hbt : bt s pos = 35 := by rw [← hlow.1, HR.out, h35]
              have HE : Hid (pos + stopF linB (tailS s pos) (tailS s pos).size 0 = lineE s pos) := Lib.hid (lineN_eq s pos hps)
              obtain ⟨hh, hle⟩ := remark_hits (s := s) (a := pos) hps
              have hgt : pos < lineE s pos := by
                obtain ⟨q1, q2, q3, q4⟩ := runE_spec (fun b => !decide (b = 10)) s s.size pos (by omega) (by omega)
                refine Decidable.byContradiction fun hc => ?_
                have e : lineE s pos = pos := by unfold lineE at hc ⊢; omega
                unfold lineE at e
                rw [e] at q4
                have := q4 hps
                rw [hbt] at this
                exact this (by decide)
              have HLN := Lib.hid (line_any (tailS s pos) W)
              have HHN : Hid (Hits s (pos + K) (lineE s pos)) := Lib.hid (by have := hh.next hgt; rw [HK.out] at this; exact this)
              have HSN2 : Hid (∀ r, Sc nm s (lineE s pos) l r → Sc nm s 0 [] r) := Lib.hid (fun r h => HS0.out r (.remark hps hbt h))
              obtain ⟨E, HEE⟩ : ∃ E, Hid (lineE s pos = E) := ⟨_, Lib.hid rfl⟩
              rw [HEE.out] at HE HHN HSN2 hle hgt
              obtain ⟨d, HD⟩ : ∃ d, Hid (stopF linB (tailS s pos) (tailS s pos).size 0 = d) := ⟨_, Lib.hid rfl⟩
              rw [HD.out] at HE HLN
              have hpd : pos + d = E := HE.out
              clear hlow hbt hh
              subst h35
              have g3 : (pos : Int) ≤ (s.size : Int) := by omega
              go_wp2_with fail
              refine HLN.out.mono ?_
              rintro e w3 ⟨rfl, hb3⟩
              have HSN : Hid (ScI nm s b w w3 _ (pos + K) E l) := Lib.hid ⟨(hb3.block _ (by have := HBG.out; omega)).trans HIT.out, HOW.out.below hb3, HBW.out.trans (hb3.mono (by have := HBG.out; omega)), Nat.le_trans HBG.out hb3.size, HI.out.most, fun _ => HHN.out, hle, fun r h => HSN2.out r (by have := HHN.out.le; rw [show max (pos + K) E = E by omega] at h; exact h)⟩
              clear hb3
              go_wp2
              go_roundg g'
              case measure => omega
              case rel => exact ⟨pos + K, E, l, by rw [← hpd]; go_num, HSN, by omega⟩
            · have g35 : ((R : Int) == 35) = false := by simp; omega
              obtain ⟨nb1, nb2⟩ := not_blank hps HR.out (by omega) (by omega) h35
              obtain ⟨Av, cv, hv⟩ := HI.out.own.form
              subst hv
              obtain ⟨len, HLN⟩ : ∃ len, Hid (l.length = len) := ⟨_, Lib.hid rfl⟩
              rw [HLN.out]
              have hlen : len ≤ 6000 := by rw [← HLN.out]; exact HI.out.most
              have g3 : (pos : Int) ≤ (s.size : Int) := by omega
              by_cases hm : len = 6000
              · have HS : Hid (Sc nm s 0 [] ([], pos, 11)) := Lib.hid (HS0.out _ (.many hps nb1 nb2 (by rw [HLN.out]; exact hm)))
                have gm : ((len : Int) == 6000) = true := by simp [hm]; try omega
                clear nb1 nb2
                go_wp2
                go_ret3
                exact ⟨([], pos, 11), _, .inr ⟨hz2, HS.out⟩, rfl, OT.nil _ _, by rw [← HB.out]; exact HBW.out⟩
              · have gm : ((len : Int) == 6000) = false := by simp; omega
                have HFI := Lib.hid (HF.out pos W hps HBW.out)
                cases hf : firstP nm (tailS s pos) with
                | error why =>
                  have HS : Hid (Sc nm s 0 [] ([], pos, why)) := Lib.hid (HS0.out _ (.wrong hps nb1 nb2 (by rw [HLN.out]; exact hm) hf))
                  have hwy := first_err hf
                  have gw : ((why : Int) != 0) = true := by simp; omega
                  rw [fv_err hf] at HFI
                  clear nb1 nb2 hf hwy
                  go_wp2_with fail
                  refine HFI.out.mono ?_
                  rintro e w3 ⟨rfl, hb3⟩
                  have HB3 : Hid (Below b w w3) := Lib.hid (HBW.out.trans (hb3.mono (by have := HBG.out; omega)))
                  clear hb3
                  go_wp2
                  go_ret3
                  exact ⟨([], pos, why), _, .inr ⟨hz2, HS.out⟩, rfl, OT.nil _ _, by rw [← HB.out]; exact HB3.out.alloc (by have := HB3.out.size; have := HBG.out; have := HB.out; omega) _⟩
                | ok q =>
                  obtain ⟨k, n, m⟩ := q
                  obtain ⟨hm0, hm1, _⟩ := first_ok hps hf
                  have HTH := Lib.hid (token_hits hps hf)
                  have HQ : Hid ((tailS s pos).extract 0 m = s.extract pos (pos + m)) := Lib.hid (by unfold tailS; rw [ByteArray.extract_extract]; congr 1; omega)
                  have HS : Hid (∀ r, Sc nm s (pos + m) (l ++ [⟨k, n, pos, s.extract pos (pos + m)⟩]) r → Sc nm s 0 [] r) := Lib.hid (fun r h => HS0.out r (.token hps nb1 nb2 (by rw [HLN.out]; exact hm) hf h))
                  rw [fv_ok hf, HQ.out] at HFI
                  have HQS : Hid ((s.extract pos (pos + m)).size = m) := Lib.hid (by rw [ByteArray.size_extract]; omega)
                  generalize s.extract pos (pos + m) = q at HFI HS HQS
                  have HHN : Hid (Hits s (pos + K) (pos + m)) := Lib.hid (by have := HTH.out.next (by omega); rw [HK.out] at this; exact this)
                  clear nb1 nb2 hf HTH HQ
                  go_wp2_with fail
                  refine HFI.out.mono ?_
                  rintro e w3 ⟨rfl, hb3⟩
                  have HB3 : Hid (Below b w w3) := Lib.hid (HBW.out.trans (hb3.mono (by have := HBG.out; omega)))
                  have HIT3 : Hid (w3.heap[b]? = some (.stringIter s (pos + K))) := Lib.hid ((hb3.block _ (by have := HBG.out; omega)).trans HIT.out)
                  have HO3 := Lib.hid (HOW.out.below hb3)
                  have HG3 : Hid (b + 1 ≤ w3.heap.size) := Lib.hid (Nat.le_trans HBG.out hb3.size)
                  clear hb3
                  go_upto_region 17 with (fail)
                  obtain ⟨tb, HTB⟩ : ∃ tb, Hid (tb = w3.heap.size) := ⟨_, Lib.hid rfl⟩
                  obtain ⟨w6, HW6⟩ : ∃ w6, Hid (w6 = w3.alloc (.cells #[.int .i64 (k : Nat), .int .i64 n, .int .i64 (pos : Nat), .string q] 72)) := ⟨_, Lib.hid rfl⟩
                  rw [← HW6.out, ← HTB.out]
                  have HAL : Hid (Below w3.heap.size w3 w6) := Lib.hid (by rw [HW6.out]; exact (Below.refl _ _).alloc (Nat.le_refl _) _)
                  have HC6 : Hid (w6.heap[tb]? = some (.cells #[.int .i64 (k : Nat), .int .i64 n, .int .i64 (pos : Nat), .string q] 72 (0, 0))) := Lib.hid (by rw [HW6.out, HTB.out]; exact World.alloc_heap_new _ _)
                  have HO6 := Lib.hid (HO3.out.below HAL.out)
                  rw [HLN.out] at HO6
                  have HB6 : Hid (Below b w w6) := Lib.hid (HB3.out.trans (HAL.out.mono (by have := HG3.out; omega)))
                  have HIT6 : Hid (w6.heap[b]? = some (.stringIter s (pos + K))) := Lib.hid ((HAL.out.block _ (by have := HG3.out; omega)).trans HIT3.out)
                  have HG6 : Hid (b + 1 ≤ w6.heap.size) := Lib.hid (Nat.le_trans HG3.out HAL.out.size)
                  have c0 := cell_of_row _ _ 0 _ _ _ HC6.out
                  have c1 := cell_of_row _ _ 1 _ _ _ HC6.out
                  have c2 := cell_of_row _ _ 2 _ _ _ HC6.out
                  have c3 := cell_of_row _ _ 3 _ _ _ HC6.out
                  have hll : l.length + 1 ≤ 1000000 := by rw [HLN.out]; omega
                  have HNE : Hid (∀ g, (Value.slice Av len cv).ownBlock = some g → g ≠ tb) := Lib.hid (fun g e => by
                    have h9 := HO3.out
                    rw [HLN.out] at h9
                    have := (World.ownsRow.lt h9 g e).2
                    have := HTB.out; omega)
                  go_wp2_with (at_builtin; go_loud (refine append_tok rfl (.tmp 56) (.tmp 58) rfl (b + 1) _ l rfl HO6.out k pos n q rfl hll HG6.out ?_); intro v4 w4 ho4 hb4 hg4; have HO4 := Lib.hid ho4; have HB4 := Lib.hid hb4; have c4 : w4.cell? ⟨tb, 3, none⟩ = some (.string q) := (World.cell?_of_block (a := ⟨tb, 3, none⟩) ((hg4.block tb (by have := (Array.getElem?_eq_some_iff.1 HC6.out).1; simp; omega) (fun e => HNE.out tb e.symm rfl)).trans (Below.heap_alloc _ _ _ (Array.getElem?_eq_some_iff.1 HC6.out).1))).trans c3; have hqs := HQS.out; clear ho4 hb4 hg4 c0 c1 c2 c3)
                  go_roundg g'
                  case measure => omega
                  case rel =>
                    refine ⟨pos + K, pos + m, l ++ [⟨k, n, pos, q⟩], by go_num, Lib.hid ⟨(HB4.out.block _ (by omega)).trans HIT6.out, HO4.out, HB6.out.trans (HB4.out.mono (by omega)), Nat.le_trans HG6.out HB4.out.size, by rw [List.length_append, HLN.out]; simp; omega, fun _ => HHN.out, hm1, fun r h => HS.out r (by have := HHN.out.le; rw [show max (pos + K) (pos + m) = pos + m by omega] at h; exact h)⟩, by omega⟩
      · have hnx : ∀ ty, (Instr.next (.pointer (some ⟨b, 0, none⟩)) true ty).run Tryd.prog wr = _ := fun ty => Lib.run_next_end_at wr b s pos ty HI.out.it hps
        have HS : Hid (Sc nm s 0 [] (l, 0, 0)) := Lib.hid (HI.out.sc _ (.done (by omega)))
        go_wp2
        go_ret3
        exact ⟨(l, 0, 0), _, .inr ⟨hz2, HS.out⟩, rfl, HI.out.own.mono (by have := HB.out; omega), by rw [← HB.out]; exact HI.out.below⟩
end Go.Proofs.YtgnflnfajkoibaaDoor.lx
namespace Go.Proofs.YtgnflnfajkoibaaDoor.tx
open Go.ChangeShapes Go.WideShapes Go.ChangeAt Go.RowKit Go.Deep sr lt lx

instance : Inhabited Tok := ⟨⟨0, 0, 0, ⟨#[]⟩⟩⟩
theorem tokC_len (t : Tok) : (cellT t).length = 4 := rfl
theorem tokC_one (t : Tok) : ∀ u ∈ cellT t, u.oneCell' = true := by
  intro u hu
  simp only [cellT, List.mem_cons, List.not_mem_nil, or_false] at hu
  rcases hu with rfl | rfl | rfl | rfl <;> simp [Value.oneCell']
theorem infoTk : (Tryd.prog.info? 72).map (fun i => (i.zero, i.size, i.bytes)) = some (some (.agg #[.int .i64 0, .int .i64 0, .int .i64 0, .string ⟨#[]⟩]), 4, 40) := by kernel_rfl
/-- The proposition of a name. -/
def prN (N : List ByteArray) (s : List UInt8) : Option Nat := prO N ⟨s.toArray⟩
theorem prN_eq (N : List ByteArray) (s : ByteArray) : prN N s.data.toList = prO N s := rfl
/-- All tokens and the end; what the reader is told of them. -/
def allT (toks : List Tok) (L : Nat) : List Tok := toks ++ [⟨0, 0, L, ⟨#[]⟩⟩]
def tkL (T : List Tok) : List (Int × List UInt8) := T.map (fun t => ((t.kind : Int), t.text.data.toList))
/-- What all tells. -/
def allV (N : List ByteArray) (T : List Tok) (R : Nat × Bool × Rd) : List (Int × Int) × Nat × Int :=
  if R.2.1 = true then (R.2.2.nd, 0, 0) else ([], (T.getD R.1 default).pos, rfF (prO N (T.getD R.1 default).text) (T.getD R.1 default).kind (T.getD R.1 default).text.data.toList)
def AllP (w0 : World) (V : List (Int × Int) × Nat × Int) (e : Ending) (w' : World) : Prop := ∃ v, e = .returned (.tuple #[v, .int .i64 (V.2.1 : Nat), .int .i64 V.2.2]) ∧ ON w0.heap.size w' v V.1 ∧ Below w0.heap.size w0 w'
theorem run_step {pr : List UInt8 → Option Nat} {Q : List Tok} {S : Rd} {i : Nat} (hi : i < Q.length) {t : Tok} (ht : Q.getD i default = t) : runF pr (tkL (Q.drop i)) S = if (stepF pr t.kind t.text.data.toList S).1 = true then ((runF pr (tkL (Q.drop (i + 1))) (stepF pr t.kind t.text.data.toList S).2).1 + 1, (runF pr (tkL (Q.drop (i + 1))) (stepF pr t.kind t.text.data.toList S).2).2) else (0, false, (stepF pr t.kind t.text.data.toList S).2) := by
  have e : Q.getD i default = Q[i] := by simp [List.getD, hi]
  rw [e] at ht
  rw [List.drop_eq_getElem_cons hi, ht]
  rfl
/-- A token of a row that stays. -/
theorem tok_at {w w' : World} {g : Nat} {T : List Tok} (h : RS cellT 4 w (some ⟨g, 0, none⟩) T) (e : w'.heap[g]? = w.heap[g]?) {i : Nat} (hi : i < T.length) :
    w'.cell? ⟨g, i * 4, none⟩ = some (.int .i64 ((T.getD i default).kind : Nat)) ∧ w'.cell? ⟨g, i * 4 + 1, none⟩ = some (.int .i64 (T.getD i default).num) ∧ w'.cell? ⟨g, i * 4 + 2, none⟩ = some (.int .i64 ((T.getD i default).pos : Nat)) ∧ w'.cell? ⟨g, i * 4 + 3, none⟩ = some (.string (T.getD i default).text) := by
  obtain ⟨b, off, e1, hb, hc⟩ := h (by omega)
  injection e1 with e1
  injection e1 with e1 e2 _
  subst e1 e2
  have hh := fun (j : Nat) (hj : j < 4) => (World.cell?_of_block (a := ⟨g, 0 + i * 4 + j, none⟩) e).trans (hc i hi j hj)
  simp only [Nat.zero_add] at hh
  exact ⟨hh 0 (by omega), hh 1 (by omega), hh 2 (by omega), hh 3 (by omega)⟩
theorem Rc.stay {w w' : World} {b : Nat} {v0 v1 v2 v3 : Value} (h : Rc w b v0 v1 v2 v3) (e : w'.heap[b]? = w.heap[b]?) (hs : w.heap.size ≤ w'.heap.size) : Rc w' b v0 v1 v2 v3 :=
  ⟨(World.cell?_of_block (a := ⟨b, 0, none⟩) e).trans h.c0, (World.cell?_of_block (a := ⟨b, 1, none⟩) e).trans h.c1, (World.cell?_of_block (a := ⟨b, 2, none⟩) e).trans h.c2, (World.cell?_of_block (a := ⟨b, 3, none⟩) e).trans h.c3, fun j => (frozen_blk e).trans (h.f j), Nat.lt_of_lt_of_le h.lt hs⟩
set_option maxRecDepth 20000 in
set_option maxHeartbeats 8000000 in
theorem all_any (w0 w : World) (rb : Nat) (NA : Option Addr) (n d : Nat) (N : List ByteArray) (tv : Value) (toks : List Tok) (L : Nat) (v1 : Value)
    (h : Rc w rb (.slice NA n d) v1 (.slice none 0 0) (.slice none 0 0)) (hT : OR cellT 4 w0.heap.size 72 w tv toks) (hlt : ∀ g, tv.ownBlock = some g → g < rb) (hw : Below w0.heap.size w0 w) (hrb : w0.heap.size ≤ rb) (hN : NmS w0 NA n d N) (hO : OpsW w0) (ht : toks.length ≤ 6000) :
    Calls Tryd.prog 21 #[.pointer (some ⟨rb, 0, none⟩), tv, .int .i64 (L : Nat)] w (AllP w0 (allV N (allT toks L) (runF (prN N) (tkL (allT toks L)) rd0))) := by
  obtain ⟨z, HZ⟩ : ∃ z, Hid (allV N (allT toks L) (runF (prN N) (tkL (allT toks L)) rd0) = z) := ⟨_, Lib.hid rfl⟩
  rw [HZ.out]
  obtain ⟨A1, c1', l1, e1⟩ := or_form tokC_len hT
  subst e1
  have HT := Lib.hid hT
  have H := Lib.hid h
  have HLT := Lib.hid hlt
  have HW := Lib.hid hw
  have HRB := Lib.hid hrb
  have HN := Lib.hid hN
  have HO := Lib.hid hO
  have HTL := Lib.hid ht
  have j1 := h.c1
  have g1 := h.f 1
  have hst := store_func
  clear h hT hlt hw hrb hN hO ht
  go_enter Tryd.func21, Tryd.ntmps21
  go_upto_region 2 with (fail)
  obtain ⟨w1, HW1⟩ : ∃ w1, w1 = w.setCell ⟨rb, 1, none⟩ (.func (.func 37) #[.pointer (some ⟨rb, 0, none⟩)] #[]) := ⟨_, rfl⟩
  rw [← HW1]
  have HR1 : Hid (Rc w1 rb (.slice NA n d) (fv true rb) (.slice none 0 0) (.slice none 0 0)) := Lib.hid (by rw [HW1]; exact H.out.set1 (fv true rb))
  have HT1 : Hid (OR cellT 4 w0.heap.size 72 w1 (.slice A1 l1 c1') toks) := Lib.hid (by
    rw [HW1]
    refine World.ownsRow.kept HT.out (Lib.grownBy_setCell w rb 1 _) ?_
    rcases hv : (Value.slice A1 l1 c1').ownBlock with _ | g
    · exact .inl rfl
    · refine .inr (fun e => ?_)
      injection e with e
      have := HLT.out g hv
      omega)
  have HB1 : Hid (Below w0.heap.size w0 w1) := Lib.hid (by rw [HW1]; exact HW.out.setCell HRB.out _)
  clear HW1 j1 g1
  go_wp2_with (at_builtin; go_loud (refine sr.list_append_own tokC_len tokC_one Tryd.underlying47 infoTk rfl (by decide) (by decide) w0.heap.size _ rfl (.tmp 16) (.tmp 19) rfl rfl _ toks rfl (OR.below HT1.out (below_one _ _)) (⟨0, 0, L, ⟨#[]⟩⟩ : Tok) _ rfl rfl (by have := HTL.out; omega) (by have := HB1.out.size; simp; omega) _ (World.alloc_heap_new _ _) ?_); intro v5 w5 ho5 hb5 hg5; obtain ⟨A5, c5, q5, rfl⟩ := or_form tokC_len ho5; have HT5 : Hid (OR cellT 4 w0.heap.size 72 w5 (.slice A5 q5 c5) (allT toks L)) := Lib.hid ho5; have HB5 : Hid (Below w0.heap.size w0 w5) := Lib.hid ((HB1.out.alloc HB1.out.size _).trans hb5); have HG5 : Hid (w5.heap[rb]? = w1.heap[rb]? ∧ w1.heap.size ≤ w5.heap.size) := Lib.hid ⟨(hg5.block rb (by have := HR1.out.lt; simp; omega) (fun e => by have := HLT.out rb e.symm; omega)).trans ((below_one w1 _).block rb HR1.out.lt), Nat.le_trans (by simp) hg5.size⟩; clear ho5 hb5 hg5)
  have HR5 : Hid (RdW w5 rb (.slice NA n d) rd0 (.slice none 0 0) (.slice none 0 0)) := Lib.hid ⟨HR1.out.stay HG5.out.1 HG5.out.2, World.ownsRow_nil _ _ _ _, World.ownsRow_nil _ _ _ _⟩
  obtain ⟨T, HTT⟩ : ∃ T, Hid (allT toks L = T) := ⟨_, Lib.hid rfl⟩
  rw [HTT.out] at HT5 HZ
  obtain ⟨R, HR⟩ : ∃ R, Hid (runF (prN N) (tkL T) rd0 = R) := ⟨_, Lib.hid rfl⟩
  rw [HR.out] at HZ
  have HTN : Hid (0 < T.length ∧ T.length ≤ 6001) := Lib.hid (by rw [← HTT.out]; unfold allT; have := HTL.out; simp; omega)
  obtain ⟨g, HGF⟩ : ∃ g, Hid (A5 = some ⟨g, 0, none⟩ ∧ q5 = T.length ∧ (∃ cur, w5.heap[g]? = some (.cells cur 72 (0, 0)))) := by
    rcases HT5.out.2 with ⟨_, e0⟩ | ⟨g, cap, cur, e, _, hg, _⟩
    · have := HTN.out.1
      exact absurd e0 (by omega)
    · injection e with e1 e2 e3
      exact ⟨g, Lib.hid ⟨e1, e2, cur, hg⟩⟩
  have hA5 := HGF.out.1
  subst hA5
  have HRS5 : Hid (RS cellT 4 w5 (some ⟨g, 0, none⟩) T) := Lib.hid (by
    obtain ⟨A, c, e, hr⟩ := OR.rs tokC_len HT5.out
    injection e with e
    rw [e]
    exact hr)
  have HGN : Hid (g ≠ rb) := Lib.hid (fun e => by
    have h1 := (tok_at HRS5.out rfl (i := 0) HTN.out.1).1
    have h2 := HR5.out.c.c0
    subst e
    rw [Nat.zero_mul] at h1
    rw [h1] at h2
    cases h2)
  have HQ5 : Hid (q5 = T.length) := Lib.hid HGF.out.2.1
  have hq9 : q5 ≤ 6001 := by rw [HQ5.out]; exact HTN.out.2
  go_loopw [22] (fun iv wr => ∃ (i : Nat) (S : Rd) (vn vp : Value), i ≤ q5 ∧ iv = .int .i64 (i : Int) ∧ Hid (RdW wr rb (.slice NA n d) S vn vp) ∧ Hid (S.nd.length + S.pd.length ≤ i) ∧ Hid (R = ((runF (prN N) (tkL (T.drop i)) S).1 + i, (runF (prN N) (tkL (T.drop i)) S).2)) ∧ Hid (Below rb w5 wr) ∧ Hid (Kp tsO rb w5 wr)) (fun iv _ => q5 - (intOf iv).toNat)
  case atStart => exact ⟨0, rd0, _, _, Nat.zero_le _, rfl, HR5, Lib.hid (Nat.le_refl _), Lib.hid (by rw [List.drop_zero, HR.out]; rfl), Lib.hid (Below.refl _ _), Lib.hid (Kp.refl _ _ _)⟩
  case round =>
    obtain ⟨i, S, vn, vp, hi, rfl, HRD, HLN, HRR, HB, HKP⟩ := hrel
    have HBW : Hid (Below w0.heap.size w0 wr) := Lib.hid (HB5.out.trans (HB.out.mono HRB.out))
    by_cases hlt : i < q5
    · have HIL : Hid (i < T.length) := Lib.hid (by rw [← HQ5.out]; exact hlt)
      have hgk : wr.heap[g]? = w5.heap[g]? := by
        obtain ⟨cur, hg⟩ := HGF.out.2.2
        rw [HKP.out.stay hg HGN.out (by decide), hg]
      obtain ⟨k0, k1, k2, k3⟩ := tok_at HRS5.out hgk HIL.out
      obtain ⟨t, HTD⟩ : ∃ t, Hid (T.getD i default = t) := ⟨_, Lib.hid rfl⟩
      rw [HTD.out] at k0 k1 k2 k3
      have HST := Lib.hid (run_step (pr := prN N) (S := S) HIL.out HTD.out)
      obtain ⟨ok, S2, HSP⟩ : ∃ ok S2, Hid (stepF (prN N) t.kind t.text.data.toList S = (ok, S2)) := ⟨_, _, Lib.hid rfl⟩
      rw [HSP.out] at HST
      have HSL : Hid (S2.nd.length + S2.pd.length ≤ i + 1) := Lib.hid (by
        have h1 := step_len (prN N) t.kind t.text.data.toList S
        rw [HSP.out] at h1
        have h2 := HLN.out
        simp only at h1
        omega)
      clear hgk
      go_upto_region 5 with (fail)
      obtain ⟨w2, HW2⟩ : ∃ w2, w2 = wr.alloc (.cells #[.int .i64 (t.kind : Nat), .int .i64 t.num, .int .i64 (t.pos : Nat), .string t.text] 72) := ⟨_, rfl⟩
      have hb2 : Below wr.heap.size wr w2 := by rw [HW2]; exact below_one _ _
      obtain ⟨xb, HXB⟩ : ∃ xb, Hid (xb = wr.heap.size) := ⟨_, Lib.hid rfl⟩
      have HX2 : Hid (w2.heap[xb]? = some (tkC t.kind t.num t.pos t.text)) := Lib.hid (by rw [HXB.out, HW2]; exact World.alloc_heap_new _ _)
      have HXN : Hid (xb ≠ rb ∧ xb < w2.heap.size) := Lib.hid ⟨by rw [HXB.out]; have := HRD.out.c.lt; omega, by rw [HXB.out, HW2]; simp⟩
      have HB2 : Hid (Below rb w5 w2) := Lib.hid (HB.out.trans (hb2.mono (Nat.le_of_lt HRD.out.c.lt)))
      have HK2 : Hid (Kp tsO rb w5 w2) := Lib.hid (HKP.out.trans (Kp.below hb2) HB.out.size)
      have HBW2 : Hid (Below w0.heap.size w0 w2) := Lib.hid (HB5.out.trans (HB2.out.mono HRB.out))
      have H2 := Lib.hid (HRD.out.below hb2)
      rw [← HXB.out, ← HW2]
      clear HW2 HXB hb2 HRD k0 k1 k2 k3
      have HNX : Hid (∀ W, Below w2.heap.size w2 W → ∀ fn, fv S.bg rb = .func (.func fn) #[.pointer (some ⟨rb, 0, none⟩)] #[] → Calls Tryd.prog fn #[.pointer (some ⟨rb, 0, none⟩), .agg #[.int .i64 (t.kind : Nat), .int .i64 t.num, .int .i64 (t.pos : Nat), .string t.text]] W (BoolQ tsO W rb (.slice NA n d) (ok, S2))) := Lib.hid (fun W hW fn hfn => by
        rw [← HSP.out]
        have hNW := (HN.out.below HBW2.out).below (hW.mono (Nat.le_refl _))
        have hOW := (HO.out.keep HBW2.out).keep hW
        have hRW := H2.out.below hW
        have hl : S.nd.length + S.pd.length ≤ 80000 := by have := HLN.out; omega
        obtain ⟨bg, nd, pd⟩ := S
        cases bg with
        | true =>
          injection hfn with h1 _ _
          injection h1 with h1
          subst h1
          exact begin_any rb NA n d N ⟨true, nd, pd⟩ vn vp t.kind t.num t.pos t.text W hRW hNW hOW hl
        | false =>
          injection hfn with h1 _ _
          injection h1 with h1
          subst h1
          exact goOn_any rb (.slice NA n d) ⟨false, nd, pd⟩ vn vp t.kind t.num t.pos t.text W hRW hOW hl)
      obtain ⟨fn, HFN, eg⟩ : ∃ fn, Hid (fv S.bg rb = .func (.func fn) #[.pointer (some ⟨rb, 0, none⟩)] #[]) ∧ ∀ args w, (callFunc fn args).run Tryd.prog w = .ok (.enter fn args) w := by
        cases S.bg with
        | true => exact ⟨37, Lib.hid rfl, enters_of Tryd.func37 (by kernel_rfl) rfl⟩
        | false => exact ⟨71, Lib.hid rfl, enters_of Tryd.func71 (by kernel_rfl) rfl⟩
      have c1 := H2.out.c.c1
      rw [HFN.out] at c1
      have x0 : w2.cell? ⟨xb, 0, none⟩ = some (.int .i64 (t.kind : Nat)) := cell_of HX2.out 0
      have x1 : w2.cell? ⟨xb, 1, none⟩ = some (.int .i64 t.num) := cell_of HX2.out 1
      have x2 : w2.cell? ⟨xb, 2, none⟩ = some (.int .i64 (t.pos : Nat)) := cell_of HX2.out 2
      have x3 : w2.cell? ⟨xb, 3, none⟩ = some (.string t.text) := cell_of HX2.out 3
      go_still_tail 5, (by kernel_rfl)
      change wpList _ _ _ _ _ w2.drew
      go_wp2_with fail
      refine (HNX.out _ (Below.refl _ w2).drew fn HFN.out).mono ?_
      rintro x w3 ⟨rfl, ⟨vn3, vp3, h3⟩, hb3, hk3⟩
      have HB3 : Hid (Below rb w5 w3) := Lib.hid (HB2.out.drew.trans hb3)
      have HK3 : Hid (Kp tsO rb w5 w3) := Lib.hid ((HK2.out.trans (Kp.below (Below.refl _ w2).drew) HB2.out.size).trans hk3 (Nat.le_trans HB2.out.size (Below.refl w2.heap.size w2).drew.size))
      have HX3 : Hid (w3.heap[xb]? = some (tkC t.kind t.num t.pos t.text)) := Lib.hid (hk3.stay ((((Below.refl w2.heap.size w2).drew).block xb HXN.out.2).trans HX2.out) HXN.out.1 (by decide))
      have HBW3 : Hid (Below w0.heap.size w0 w3) := Lib.hid (HB5.out.trans (HB3.out.mono HRB.out))
      have H3 := Lib.hid h3
      clear h3 hb3 hk3 x0 x1 x2 x3 c1
      dsimp only at H3
      cases ok with
      | true =>
        have HNR : Hid (R = ((runF (prN N) (tkL (T.drop (i + 1))) S2).1 + (i + 1), (runF (prN N) (tkL (T.drop (i + 1))) S2).2)) := Lib.hid (by
          rw [HRR.out, HST.out, if_pos rfl]
          simp only [Nat.add_assoc, Nat.add_comm 1 i])
        clear HNX
        go_wp2
        go_roundw
        case rel => exact ⟨i + 1, S2, vn3, vp3, by omega, by go_num, H3, HSL, HNR, HB3, HK3⟩
        case measure => simp [intOf]; omega
      | false =>
        have HE : Hid (R = (i, false, S2)) := Lib.hid (by rw [HRR.out, HST.out, if_neg (by decide)]; simp)
        have HV : Hid (z = ([], t.pos, rfF (prO N t.text) t.kind t.text.data.toList)) := Lib.hid (by
          rw [← HZ.out, HE.out]
          unfold allV
          simp only [Bool.false_eq_true, if_false]
          rw [HTD.out])
        have HRF : Hid (∀ W, Below w3.heap.size w3 W → Calls Tryd.prog 38 #[.pointer (some ⟨rb, 0, none⟩), .agg #[.int .i64 (t.kind : Nat), .int .i64 t.num, .int .i64 (t.pos : Nat), .string t.text]] W fun e w' => e = .returned (.int .i64 (rfF (prO N t.text) t.kind t.text.data.toList)) ∧ Below W.heap.size W w') := Lib.hid (fun W hW =>
          refusal_any rb NA n d N t.kind t.num t.pos t.text W (H3.out.c.below hW).c0 (H3.out.c.below hW).lt ((HN.out.below HBW3.out).below hW) ((HO.out.keep HBW3.out).keep hW))
        obtain ⟨why, HWY⟩ : ∃ y, Hid (rfF (prO N t.text) t.kind t.text.data.toList = y) := ⟨_, Lib.hid rfl⟩
        rw [HWY.out] at HRF HV
        have HX3L : Hid (xb < w3.heap.size) := Lib.hid (by
          rcases Nat.lt_or_ge xb w3.heap.size with hh | hh
          · exact hh
          · have h9 := HX3.out
            rw [Array.getElem?_eq_none hh] at h9
            cases h9)
        have x0 : w3.cell? ⟨xb, 0, none⟩ = some (.int .i64 (t.kind : Nat)) := cell_of HX3.out 0
        have x1 : w3.cell? ⟨xb, 1, none⟩ = some (.int .i64 t.num) := cell_of HX3.out 1
        have x2 : w3.cell? ⟨xb, 2, none⟩ = some (.int .i64 (t.pos : Nat)) := cell_of HX3.out 2
        have x3 : w3.cell? ⟨xb, 3, none⟩ = some (.string t.text) := cell_of HX3.out 3
        clear HNX
        go_upto_region 6 with (fail)
        go_region_held3 (fun w' => w'.cell? ⟨xb, 0, none⟩ = some (.int .i64 (t.kind : Nat)) ∧ w'.cell? ⟨xb, 1, none⟩ = some (.int .i64 t.num) ∧ w'.cell? ⟨xb, 2, none⟩ = some (.int .i64 (t.pos : Nat)) ∧ w'.cell? ⟨xb, 3, none⟩ = some (.string t.text))
          (first | exact ⟨x0, x1, x2, x3⟩ | exact ⟨l0, l1, l2, l3⟩ | go_keep)
          ((go_at_call 38; refine (HRF.out _ (Below.refl _ w3).drew).mono ?_; rintro x w4 ⟨rfl, hb4⟩; have HB4 : Hid (Below w3.heap.size w3 w4) := Lib.hid (RowKit.Below.trans (Below.refl _ w3).drew hb4); have l0 : w4.cell? ⟨xb, 0, none⟩ = some (.int .i64 (t.kind : Nat)) := (HB4.out.cell (p := ⟨xb, 0, none⟩) HX3L.out).trans x0; have l1 : w4.cell? ⟨xb, 1, none⟩ = some (.int .i64 t.num) := (HB4.out.cell (p := ⟨xb, 1, none⟩) HX3L.out).trans x1; have l2 : w4.cell? ⟨xb, 2, none⟩ = some (.int .i64 (t.pos : Nat)) := (HB4.out.cell (p := ⟨xb, 2, none⟩) HX3L.out).trans x2; have l3 : w4.cell? ⟨xb, 3, none⟩ = some (.string t.text) := (HB4.out.cell (p := ⟨xb, 3, none⟩) HX3L.out).trans x3; clear hb4))
        go_wp2
        go_ret3
        rw [HV.out]
        exact ⟨_, rfl, World.ownsRow_nil _ _ _ _, HBW3.out.trans (HB4.out.mono HBW3.out.size)⟩
    · have HE : Hid (R = (q5, true, S)) := Lib.hid (by
        have h1 : i = T.length := by have := HQ5.out; omega
        rw [HRR.out, List.drop_of_length_le (by omega)]
        show (0 + i, true, S) = _
        rw [Nat.zero_add, h1, HQ5.out])
      have HV : Hid (z = (S.nd, 0, 0)) := Lib.hid (by rw [← HZ.out, HE.out]; rfl)
      have c2 := HRD.out.c.c2
      go_wp2
      go_ret3
      rw [HV.out]
      exact ⟨_, rfl, HRD.out.n.mono (by have := HRB.out; omega), HBW.out⟩
end Go.Proofs.YtgnflnfajkoibaaDoor.tx
namespace Go.Proofs.YtgnflnfajkoibaaDoor
open Go.Lib

/-- What digits make, behind a number. -/
def dv (a : Nat) (l : List UInt8) : Nat := l.foldl (fun a c => a * 10 + (c.toNat - 48)) a
def DG (l : List UInt8) : Prop := ∀ c ∈ l, 48 ≤ c.toNat ∧ c.toNat ≤ 57
theorem dv_snoc (a : Nat) (l : List UInt8) (c : UInt8) : dv a (l ++ [c]) = dv a l * 10 + (c.toNat - 48) := by simp [dv]
theorem dig_nat {d : Nat} (h : d < 10) : (UInt8.ofNat (48 + d)).toNat = 48 + d := by
  rw [UInt8.toNat_ofNat']; omega
theorem decDigits_big {u : Nat} (h : ¬ u < 10) : decDigits u = decDigits (u / 10) ++ [UInt8.ofNat (48 + u % 10)] := by rw [decDigits, dif_neg h]
theorem decDigits_dg (u : Nat) : DG (decDigits u) := by
  induction u using Nat.strongRecOn with
  | ind u ih =>
    by_cases h : u < 10
    · rw [decDigits_one h]
      intro c hc
      simp only [List.mem_cons, List.not_mem_nil, or_false] at hc
      subst hc
      rw [dig_nat h]; omega
    · rw [decDigits_big h]
      intro c hc
      rcases List.mem_append.1 hc with hc | hc
      · exact ih (u / 10) (by omega) c hc
      · simp only [List.mem_cons, List.not_mem_nil, or_false] at hc
        subst hc
        rw [dig_nat (by omega)]; omega
theorem dv_dec (u : Nat) : dv 0 (decDigits u) = u := by
  induction u using Nat.strongRecOn with
  | ind u ih =>
    by_cases h : u < 10
    · rw [decDigits_one h]
      show 0 * 10 + ((UInt8.ofNat (48 + u)).toNat - 48) = u
      rw [dig_nat h]; omega
    · rw [decDigits_big h, dv_snoc, ih (u / 10) (by omega), dig_nat (by omega)]
      omega
theorem decDigits_ne (u : Nat) : decDigits u ≠ [] := by
  rw [decDigits]
  split <;> simp
theorem dv_mono (l : List UInt8) : ∀ a, a ≤ dv a l := by
  induction l with
  | nil => intro a; exact Nat.le_refl _
  | cons c r ih => intro a; exact Nat.le_trans (by omega) (ih (a * 10 + (c.toNat - 48)))
theorem parse_dv : ∀ (l : List UInt8) (a : Nat), DG l → dv a l < 18446744073709551616 → parseUint10 a l = .ok (dv a l)
  | [], _, _, _ => rfl
  | c :: r, a, hd, hlt => by
    have hc := hd c (by simp)
    have hlt2 : dv (a * 10 + (c.toNat - 48)) r < 18446744073709551616 := hlt
    have hm := dv_mono r (a * 10 + (c.toNat - 48))
    rw [parseUint10, if_pos hc, if_neg (by omega), if_neg (by omega)]
    exact parse_dv r _ (fun x hx => hd x (by simp [hx])) hlt2
theorem parseMag_dec {u : Nat} (h : u < 18446744073709551616) : parseMag (decDigits u) = .ok u := by
  unfold parseMag
  rw [if_neg (decDigits_ne u), parse_dv _ _ (decDigits_dg u) (by rw [dv_dec]; exact h), dv_dec]
theorem atoi_itoa {n : Int} (h0 : -9223372036854775808 ≤ n) (h1 : n ≤ 9223372036854775807) : atoiAll (itoa n) = .ok n := by
  by_cases hn : n < 0
  · unfold itoa
    rw [if_pos hn, atoiAll_minus, parseMag_dec (by omega)]
    show (if 9223372036854775808 < n.natAbs then _ else _) = _
    rw [if_neg (by omega)]
    congr 1; omega
  · unfold itoa
    rw [if_neg hn]
    have hp := parseMag_dec (u := n.toNat) (by omega)
    have hd := decDigits_dg n.toNat
    cases hc : decDigits n.toNat with
    | nil => exact absurd hc (decDigits_ne _)
    | cons c r =>
      rw [hc] at hp hd
      have := hd c (by simp)
      rw [atoiAll_plain c r (by omega) (by omega), hp]
      show (if 9223372036854775808 ≤ n.toNat then _ else _) = _
      rw [if_neg (by omega)]
      congr 1; omega
theorem itoa_inj {m n : Int} (hm0 : -9223372036854775808 ≤ m) (hm1 : m ≤ 9223372036854775807) (hn0 : -9223372036854775808 ≤ n) (hn1 : n ≤ 9223372036854775807) (h : itoa m = itoa n) : m = n := by
  have h1 := atoi_itoa hm0 hm1
  rw [h, atoi_itoa hn0 hn1] at h1
  injection h1 with h1
  exact h1.symm
/-- The document's count of digits, and the number of the first eight of them. -/
def docStep (p : Nat × Nat) (c : UInt8) : Nat × Nat := if 48 ≤ c.toNat ∧ c.toNat ≤ 57 ∧ p.2 < 8 then (p.1 * 10 + (c.toNat - 48), p.2 + 1) else p
def docFold (l : List UInt8) : Nat × Nat := l.foldl docStep (0, 0)
theorem docFold_snoc (l : List UInt8) (c : UInt8) : docFold (l ++ [c]) = docStep (docFold l) c := by simp [docFold]
theorem docFold_dv (l : List UInt8) : ∀ a d, DG l → d + l.length ≤ 8 → l.foldl docStep (a, d) = (dv a l, d + l.length) := by
  induction l with
  | nil => intro a d _ _; rfl
  | cons c r ih =>
    intro a d hd hl
    have hc := hd c (by simp)
    have e : docStep (a, d) c = (a * 10 + (c.toNat - 48), d + 1) := if_pos ⟨hc.1, hc.2, by simp at hl; show d < 8; omega⟩
    rw [List.foldl_cons, e, ih _ _ (fun x hx => hd x (by simp [hx])) (by simp at hl; omega)]
    simp [dv]; omega
def minusB (l : List UInt8) : Bool := l.head?.map (·.toNat) == some 45
/-- The number that the document reads. -/
def docNum (l : List UInt8) : Int := if minusB l = true then -((docFold l).1 : Int) else (docFold l).1
theorem docStep_le {p : Nat × Nat} (h : p.1 < 10 ^ p.2 ∧ p.2 ≤ 8) (c : UInt8) : (docStep p c).1 < 10 ^ (docStep p c).2 ∧ (docStep p c).2 ≤ 8 := by
  unfold docStep
  split
  · rename_i h2
    refine ⟨?_, by show _ + 1 ≤ 8; omega⟩
    show p.1 * 10 + (c.toNat - 48) < 10 ^ (p.2 + 1)
    rw [Nat.pow_succ]; omega
  · exact h
theorem foldl_le : ∀ (l : List UInt8) (p : Nat × Nat), p.1 < 10 ^ p.2 ∧ p.2 ≤ 8 → (l.foldl docStep p).1 < 10 ^ (l.foldl docStep p).2 ∧ (l.foldl docStep p).2 ≤ 8
  | [], _, h => h
  | c :: r, p, h => foldl_le r _ (docStep_le h c)
theorem docFold_le (l : List UInt8) : (docFold l).1 < 10 ^ (docFold l).2 ∧ (docFold l).2 ≤ 8 := foldl_le l (0, 0) ⟨by decide, by decide⟩
theorem nDigits_le {u k : Nat} (h : u < 10 ^ (k + 1)) : nDigits u ≤ k + 1 := by
  induction k generalizing u with
  | zero => rw [nDigits_small (by simpa using h)]; exact Nat.le_refl _
  | succ k ih =>
    by_cases h2 : u < 10
    · rw [nDigits_small h2]; omega
    · rw [nDigits_big h2]
      have : u / 10 < 10 ^ (k + 1) := by rw [Nat.pow_succ] at h; omega
      have := ih this
      omega
theorem doc_itoa {n : Int} (h0 : -1048576 ≤ n) (h1 : n ≤ 1048576) : docNum (itoa n) = n ∧ (docFold (itoa n)).2 ≤ 7 := by
  by_cases hn : n < 0
  · have hl : (decDigits n.natAbs).length ≤ 7 := by rw [decDigits_length]; exact nDigits_le (k := 6) (by omega)
    have hf : docFold (itoa n) = (n.natAbs, (decDigits n.natAbs).length) := by
      unfold itoa docFold
      rw [if_pos hn, List.foldl_cons, show docStep (0, 0) 45 = (0, 0) from rfl, docFold_dv _ _ _ (decDigits_dg _) (by omega), dv_dec]
      simp
    refine ⟨?_, by rw [hf]; exact hl⟩
    unfold docNum
    rw [hf, if_pos (by unfold minusB itoa; rw [if_pos hn]; rfl)]
    show -((n.natAbs : Nat) : Int) = n
    omega
  · have hl : (decDigits n.toNat).length ≤ 7 := by rw [decDigits_length]; exact nDigits_le (k := 6) (by omega)
    have hf : docFold (itoa n) = (n.toNat, (decDigits n.toNat).length) := by
      unfold itoa docFold
      rw [if_neg hn, docFold_dv _ _ _ (decDigits_dg _) (by omega), dv_dec]
      simp
    refine ⟨?_, by rw [hf]; exact hl⟩
    have hmf : minusB (itoa n) = false := by
      unfold minusB itoa
      rw [if_neg hn]
      cases hc : decDigits n.toNat with
      | nil => rfl
      | cons c r =>
        have := decDigits_dg n.toNat c (by rw [hc]; simp)
        simp; omega
    unfold docNum
    rw [hf, hmf, if_neg (by decide)]
    show ((n.toNat : Nat) : Int) = n
    omega
end Go.Proofs.YtgnflnfajkoibaaDoor
