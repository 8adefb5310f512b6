/- Contracts that the claim stands on, several texts in one: EtSingle, EtTight, EtWith, EtMap, EtRowF. -/
import Derived.Maps.OwnOps
import Derived.Maps.Views
import Derived.StringKeys
import Derived.Test.YtmnigdphikoljaaGreatDoorPut1
import Derived.Test.YtmnigdphikoljaaGreatDoorPut2
import Derived.Test.YtmnigdphikoljaaGreatDoorPut3
import Derived.Test.YtmnigdphikoljaaGreatDoorPut4
import Derived.Test.YtmnigdphikoljaaGreatDoorPut5
import Derived.Test.YtmnigdphikoljaaGreatDoorPut6
import Derived.Test.YtmnigdphikoljaaGreatDoorPut7
namespace Go.Proofs.YtmnigdphikoljaaGreatDoor.et
open Go.ChangeShapes Go.WideShapes Go.ChangeAt Go.RowKit Go.Deep

set_option maxRecDepth 20000 in
set_option maxHeartbeats 8000000 in
theorem single_any (F : Fx) (wE : World) (f : Nat) (ex : St → Rd) (hex : ReadsK F wE F.V f ex) (hfew : ∀ st, Few st (ex st)) (st : St) (w : World) (hE : Tn F wE w) (h : Rdr F w st) (hf : st.ts.length ≤ f) : Calls Tryz.prog 100 #[.pointer (some ⟨F.b, 0, none⟩)] w (PostR F w (sinF F.N F.en ex st)) := by
  have hlt : F.b < w.heap.size := by obtain ⟨A, c, h⟩ := h; exact h.lt
  have HEX := Lib.hid hex
  have HFEW := Lib.hid hfew
  have HE := Lib.hid hE
  have H0 := Lib.hid h
  have HTK : Hid ((takeF F.en st).2.ts.length < f ∨ takeF F.en st = (noTok F.en, st.fail F.en 3)) := Lib.hid (by
    by_cases h0 : st.ts = []
    · right; unfold takeF; rw [h0]
    · left; have := (take_len F.en st).2 h0; omega)
  have HG : Hid (sinF F.N F.en ex st = if (takeF F.en st).1.kind = 2 then ([(1, (takeF F.en st).1.num)], (takeF F.en st).2) else if (takeF F.en st).1.kind = 1 then wordF F.N F.en ex (takeF F.en st).1 (takeF F.en st).2
    else if sgB (takeF F.en st).1 ⟨#[40]⟩ then ((ex (takeF F.en st).2).1, sgF F.en ⟨#[41]⟩ (ex (takeF F.en st).2).2) else ([], (takeF F.en st).2.fail (takeF F.en st).1.pos 3)) := Lib.hid rfl
  clear h hex hfew hE hf
  go_enter Tryz.func100, Tryz.ntmps100
  go_wp2_with fail
  refine (take_any F st w H0.out).mono ?_
  unfold TakeP
  have HTK2 : Hid ((takeF F.en st).2.ts.length < f ∨ (takeF F.en st).1.kind = 0) := Lib.hid (HTK.out.imp id (fun e => by rw [e]; rfl))
  clear HTK
  generalize (takeF F.en st).1 = t at *
  generalize (takeF F.en st).2 = s2 at *
  rintro e w1 ⟨rfl, hs1⟩
  have HS1 := Lib.hid hs1
  have hlt1 : F.b < w1.heap.size := by obtain ⟨A, c, h⟩ := hs1.1; exact h.lt
  have hsz : w.heap.size ≤ w1.heap.size := hs1.2.size
  clear hs1
  unfold tokV
  have HT2 := Lib.hid (TB.new w1 t)
  have HS2 := Lib.hid (HS1.out.next (below_alloc1 w1 (.cells #[.int .i64 (t.kind : Nat), .int .i64 t.num, .int .i64 (t.pos : Nat), .string t.text] 107)))
  go_upto_region 2 with (fail)
  have htb : w1.heap.size ≠ F.b := by omega
  generalize hwn : w1.heap.size = tb at *
  generalize w1.alloc (.cells #[.int .i64 (t.kind : Nat), .int .i64 t.num, .int .i64 (t.pos : Nat), .string t.text] 107) = w2 at *
  clear hwn HS1
  have t0 := HT2.out.c0
  have t1 := HT2.out.c1
  have t2 := HT2.out.c2
  have t3 := HT2.out.c3
  by_cases hk : t.kind = 2
  · have HG9 := Lib.hid (HG.out.trans (by rw [if_pos hk]))
    clear HG
    obtain ⟨kd, nu, po, tx⟩ := t
    dsimp only at hk
    subst hk
    go_wp2
    go_ret
    rw [HG9.out]
    exact postR_one 1 nu HS2.out
  · by_cases hk1 : t.kind = 1
    · have HG9 := Lib.hid (HG.out.trans (by rw [if_neg hk, if_pos hk1]))
      clear HG
      have hlen : s2.ts.length < f := HTK2.out.resolve_right (by omega)
      have HLEN := Lib.hid hlen
      clear hlen HTK2 hk
      obtain ⟨kd, nu, po, tx⟩ := t
      dsimp only at hk1
      subst hk1
      go_wp2_with fail
      refine (word_any F wE f ex HEX.out HFEW.out ⟨1, nu, po, tx⟩ s2 w2 (HE.out.trans HS2.out.2) HS2.out.1 HLEN.out).mono ?_
      rintro e w3 h3
      obtain ⟨v, rfl, hP⟩ : ∃ v, e = .returned v ∧ PostR F w (wordF F.N F.en ex ⟨1, nu, po, tx⟩ s2) e w3 := by
        obtain ⟨v, rfl, h2, h3⟩ := postR_from HS2.out h3
        exact ⟨v, rfl, v, rfl, h2, h3⟩
      have HP := Lib.hid hP
      clear hP h3 t0 t1 t2 t3
      go_wp2
      go_ret
      rw [HG9.out]
      exact HP.out
    · have HG9 := Lib.hid (HG.out.trans (by rw [if_neg hk, if_neg hk1]))
      clear HG
      have hk2 : ¬ (t.kind : Int) = 2 := by omega
      have hk3 : ¬ (t.kind : Int) = 1 := by omega
      obtain ⟨z, HZ⟩ : ∃ z, Hid (sgB t ⟨#[40]⟩ = z) := ⟨_, Lib.hid rfl⟩
      rw [HZ.out] at HG9
      go_wp2_with fail
      refine (isSign_any t ⟨#[40]⟩ w2).mono ?_
      rw [HZ.out]
      rintro e w3 ⟨rfl, hb3⟩
      have HS3 := Lib.hid (HS2.out.next hb3)
      have HT3 := Lib.hid (HT2.out.keep hb3)
      clear hb3 t0 t1 t2 t3
      have t0 := HT3.out.c0
      have t1 := HT3.out.c1
      have t2 := HT3.out.c2
      have t3 := HT3.out.c3
      cases z with
      | false =>
        go_wp2_with fail
        refine (fail_any F s2 t 3 w3 HS3.out.1).mono ?_
        rintro e w4 ⟨⟨r4, rfl⟩, hs4⟩
        have HS4 := Lib.hid (HS3.out.trans hs4)
        clear hs4 t0 t1 t2 t3
        go_wp2
        go_ret
        rw [HG9.out]
        exact postR_nil HS4.out
      | true =>
        have hlen : s2.ts.length < f := HTK2.out.resolve_right (fun e => by
          have hz := HZ.out
          unfold sgB at hz
          rw [e] at hz
          cases hz)
        have HLEN := Lib.hid hlen
        clear hlen HTK2 hk hk1 hk2 hk3 t0 t1 t2 t3
        obtain ⟨g, first, lb, hV, hg, hC⟩ := HEX.out
        have c8 : w3.cell? ⟨F.b, 8, none⟩ = some F.V := by obtain ⟨A, c, h⟩ := HS3.out.1; exact h.s8
        rw [hV] at c8
        have HC := Lib.hid (hC w3 s2 (HE.out.trans HS3.out.2) HS3.out.1 HLEN.out)
        clear hC hV
        go_wp2_with fail
        refine HC.out.mono ?_
        rintro e w4 ⟨v4, rfl, ho4, hs4⟩
        have HS4 := Lib.hid (HS3.out.trans hs4)
        have HO4 := Lib.hid (ho4.down HS3.out.2.size)
        clear hs4 ho4 c8 HC
        go_wp2_with fail
        refine (sign_any F ⟨#[41]⟩ _ w4 HS4.out.1).mono ?_
        rintro e w5 ⟨⟨r5, rfl⟩, hs5⟩
        have HS5 := Lib.hid (HS4.out.trans hs5)
        have HO5 := Lib.hid (HO4.out.turn hs5.2 hlt)
        clear hs5
        go_wp2
        go_ret
        rw [HG9.out]
        exact ⟨_, rfl, HO5.out, HS5.out⟩
end Go.Proofs.YtmnigdphikoljaaGreatDoor.et
namespace Go.Proofs.YtmnigdphikoljaaGreatDoor.et
open Go.ChangeShapes Go.WideShapes Go.ChangeAt Go.RowKit Go.Deep

set_option maxRecDepth 20000 in
theorem field_num (q : lx.Tok) (w : World) : (Instr.field 107 (.agg #[.int .i64 (q.kind : Nat), .int .i64 q.num, .int .i64 (q.pos : Nat), .string q.text]) 1).run Tryz.prog w = .ok (.int .i64 q.num) w := by
  kernel_rfl
/-- tight reads as rd says, of fewer than f tokens. -/
def TightK (F : Fx) (wE : World) (f : Nat) (rd : St → Rd) : Prop :=
  ∀ w st, Tn F wE w → Rdr F w st → st.ts.length < f → Calls Tryz.prog 63 #[.pointer (some ⟨F.b, 0, none⟩)] w (PostR F w (rd st))
set_option maxRecDepth 20000 in
set_option maxHeartbeats 8000000 in
theorem tight_any (F : Fx) (wE : World) (f : Nat) (ti ex : St → Rd) (hti : TightK F wE f ti) (htf : ∀ st, Few st (ti st)) (hex : ReadsK F wE F.V f ex) (hfew : ∀ st, Few st (ex st)) (st : St) (w : World) (hE : Tn F wE w) (h : Rdr F w st) (hf : st.ts.length ≤ f) : Calls Tryz.prog 63 #[.pointer (some ⟨F.b, 0, none⟩)] w (PostR F w (tigB F.N F.en ti ex st)) := by
  have hlt : F.b < w.heap.size := by obtain ⟨A, c, h⟩ := h; exact h.lt
  have HTI := Lib.hid hti
  have HTF := Lib.hid htf
  have HEX := Lib.hid hex
  have HFEW := Lib.hid hfew
  have HE := Lib.hid hE
  have H0 := Lib.hid h
  have HF := Lib.hid hf
  have hl1 := fol_len ⟨#[33]⟩ st
  have hl2 := fol_len ⟨#[45]⟩ (folF ⟨#[33]⟩ st).2
  have HG : Hid (tigB F.N F.en ti ex st = if (folF ⟨#[33]⟩ st).1 then ((ti (folF ⟨#[33]⟩ st).2).1 ++ [(9, 0)], (ti (folF ⟨#[33]⟩ st).2).2)
    else if (folF ⟨#[45]⟩ (folF ⟨#[33]⟩ st).2).1 then
      (if (folF ⟨#[45]⟩ (folF ⟨#[33]⟩ st).2).2.ts.head?.any (fun t => decide (t.kind = 2)) then ([(1, -(numF F.en (folF ⟨#[45]⟩ (folF ⟨#[33]⟩ st).2).2).1.num)], (numF F.en (folF ⟨#[45]⟩ (folF ⟨#[33]⟩ st).2).2).2)
      else ((ti (folF ⟨#[45]⟩ (folF ⟨#[33]⟩ st).2).2).1 ++ [(10, 0)], (ti (folF ⟨#[45]⟩ (folF ⟨#[33]⟩ st).2).2).2))
    else sinF F.N F.en ex (folF ⟨#[45]⟩ (folF ⟨#[33]⟩ st).2).2) := Lib.hid rfl
  clear h hti htf hex hfew hE hf
  go_enter Tryz.func63, Tryz.ntmps63
  go_wp2_with fail
  refine (follows_any F ⟨#[33]⟩ st w H0.out).mono ?_
  rintro e w1 ⟨rfl, hs1⟩
  have HS1 := Lib.hid hs1
  clear hs1
  generalize (folF ⟨#[33]⟩ st).1 = b1 at *
  generalize (folF ⟨#[33]⟩ st).2 = s1 at *
  cases b1 with
  | true =>
    have HG9 := Lib.hid (HG.out.trans (by rw [if_pos rfl]))
    clear HG
    have hlen : s1.ts.length < f := by have := hl1.2 rfl; have := HF.out; omega
    have HLEN := Lib.hid hlen
    have HFW := HTF.out s1
    have hm1 : s1.ts.length ≤ 6000 := by obtain ⟨A, c, h⟩ := HS1.out.1; exact h.most
    have HLEN4 : Hid ((ti s1).1.length ≤ 100000) := Lib.hid (by unfold Few at HFW; omega)
    clear hlen hl1 hl2 HFW hm1
    go_wp2_with fail
    refine (HTI.out w1 s1 (HE.out.trans HS1.out.2) HS1.out.1 HLEN.out).mono ?_
    rintro e w2 ⟨v2, rfl, ho2, hs2⟩
    have HS2 := Lib.hid (HS1.out.trans hs2)
    have HO2 := Lib.hid (ho2.down HS1.out.2.size)
    have hw2 : w.heap.size ≤ w2.heap.size := HS2.out.2.size
    clear hs2 ho2
    go_wp2_with (at_builtin; refine append_node w.heap.size rfl _ _ rfl rfl v2 _ rfl HO2.out 9 0 rfl HLEN4.out hw2 ?_; intro v6 w6 ho6 hb6; have HO6 := Lib.hid ho6; have HS6 := Lib.hid (HS2.out.over hlt hb6); clear ho6 hb6)
    go_ret
    rw [HG9.out]
    exact ⟨_, rfl, HO6.out, HS6.out⟩
  | false =>
    have HG9 := Lib.hid (HG.out.trans (by rw [if_neg (by decide)]))
    clear HG
    go_wp2_with fail
    refine (follows_any F ⟨#[45]⟩ s1 w1 HS1.out.1).mono ?_
    rintro e w2 ⟨rfl, hs2⟩
    have HS2 := Lib.hid (HS1.out.trans hs2)
    clear hs2
    generalize (folF ⟨#[45]⟩ s1).1 = b2 at *
    generalize (folF ⟨#[45]⟩ s1).2 = s2 at *
    cases b2 with
    | false =>
      have HG8 := Lib.hid (HG9.out.trans (by rw [if_neg (by decide)]))
      clear HG9
      have HLEN : Hid (s2.ts.length ≤ f) := Lib.hid (by have := hl1.1; have := hl2.1; have := HF.out; omega)
      clear hl1 hl2
      go_wp2_with fail
      refine (single_any F wE f ex HEX.out HFEW.out s2 w2 (HE.out.trans HS2.out.2) HS2.out.1 HLEN.out).mono ?_
      rintro e w3 h3
      obtain ⟨v, rfl, hP⟩ : ∃ v, e = .returned v ∧ PostR F w (sinF F.N F.en ex s2) e w3 := by
        obtain ⟨v, rfl, h2, h3⟩ := postR_from HS2.out h3
        exact ⟨v, rfl, v, rfl, h2, h3⟩
      have HP := Lib.hid hP
      clear hP h3
      go_wp2
      go_ret
      rw [HG8.out]
      exact HP.out
    | true =>
      have HG8 := Lib.hid (HG9.out.trans (by rw [if_pos rfl]))
      clear HG9
      have hlen : s2.ts.length < f := by have := hl1.1; have := hl2.2 rfl; have := HF.out; omega
      have HLEN := Lib.hid hlen
      have HFW := HTF.out s2
      have hm1 : s2.ts.length ≤ 6000 := by obtain ⟨A, c, h⟩ := HS2.out.1; exact h.most
      have HLEN4 : Hid ((ti s2).1.length ≤ 100000) := Lib.hid (by unfold Few at HFW; omega)
      have hnum : ∀ t ∈ s2.ts, -2000000 ≤ t.num ∧ t.num ≤ 2000000 := by obtain ⟨A, c, h⟩ := HS2.out.1; exact h.num
      have hq := num_in (en := F.en) hnum
      have HNEG : Hid (∀ w4, StP F w s2 w4 → s2.ts.head?.any (fun t => decide (t.kind = 2)) = false → True) := Lib.hid (fun _ _ _ => trivial)
      clear hlen hl1 hl2 HFW hm1 HNEG hnum
      obtain ⟨A, c, hR⟩ := HS2.out.1
      have c0 := hR.s0
      cases hts : s2.ts with
      | nil =>
        have HG7 := Lib.hid (HG8.out.trans (by rw [hts]; first | done | rfl))
        clear HG8
        rw [hts] at c0
        dsimp only [List.length_nil] at c0
        clear hR hts
        go_wp2_with fail
        refine (HTI.out w2 s2 (HE.out.trans HS2.out.2) HS2.out.1 HLEN.out).mono ?_
        rintro e w3 ⟨v3, rfl, ho3, hs3⟩
        have HS3 := Lib.hid (HS2.out.trans hs3)
        have HO3 := Lib.hid (ho3.down HS2.out.2.size)
        have hw3 : w.heap.size ≤ w3.heap.size := HS3.out.2.size
        clear hs3 ho3 c0
        go_wp2_with (at_builtin; refine append_node w.heap.size rfl _ _ rfl rfl v3 _ rfl HO3.out 10 0 rfl HLEN4.out hw3 ?_; intro v6 w6 ho6 hb6; have HO6 := Lib.hid ho6; have HS6 := Lib.hid (HS3.out.over hlt hb6); clear ho6 hb6)
        go_ret
        rw [HG7.out]
        exact ⟨_, rfl, HO6.out, HS6.out⟩
      | cons t r =>
        obtain ⟨tb, off, rfl, htb, htn, t0, t1, t2, t3⟩ := hR.head hts
        rw [hts] at c0
        obtain ⟨n, hn⟩ : ∃ n, (t :: r).length = n := ⟨_, rfl⟩
        rw [hn] at c0
        have hp : (0 : Int) < (n : Int) := by rw [← hn]; simp
        by_cases hk : t.kind = 2
        · have HG7 := Lib.hid (HG8.out.trans (by rw [hts, if_pos (by simp [hk])]))
          clear HG8 hR htb htn hn hts
          rw [hk] at t0
          have hwn : wrap64 (-(numF F.en s2).1.num) = -(numF F.en s2).1.num := by unfold wrap64; omega
          go_wp2_with fail
          refine (number_any F s2 w2 HS2.out.1).mono ?_
          rintro e w3 ⟨rfl, hs3⟩
          have HS3 := Lib.hid (HS2.out.trans hs3)
          clear hs3 c0 t0 t1 t2 t3
          generalize (numF F.en s2).1 = q at *
          generalize (numF F.en s2).2 = s3 at *
          unfold tokV
          have hfd : ∀ w, (Instr.field 107 (.agg #[.int .i64 (q.kind : Nat), .int .i64 q.num, .int .i64 (q.pos : Nat), .string q.text]) 1).run Tryz.prog w = .ok (.int .i64 q.num) w := fun w => field_num q w
          go_wp2
          go_ret
          rw [HG7.out]
          exact postR_one 1 _ HS3.out
        · have HG7 := Lib.hid (HG8.out.trans (by rw [hts, if_neg (by simp [hk])]))
          clear HG8 hR htb htn hn hts
          have hk2 : ¬ (t.kind : Int) = 2 := by omega
          go_wp2_with fail
          refine (HTI.out w2 s2 (HE.out.trans HS2.out.2) HS2.out.1 HLEN.out).mono ?_
          rintro e w3 ⟨v3, rfl, ho3, hs3⟩
          have HS3 := Lib.hid (HS2.out.trans hs3)
          have HO3 := Lib.hid (ho3.down HS2.out.2.size)
          have hw3 : w.heap.size ≤ w3.heap.size := HS3.out.2.size
          clear hs3 ho3 c0 t0 t1 t2 t3
          go_wp2_with (at_builtin; refine append_node w.heap.size rfl _ _ rfl rfl v3 _ rfl HO3.out 10 0 rfl HLEN4.out hw3 ?_; intro v6 w6 ho6 hb6; have HO6 := Lib.hid ho6; have HS6 := Lib.hid (HS3.out.over hlt hb6); clear ho6 hb6)
          go_ret
          rw [HG7.out]
          exact ⟨_, rfl, HO6.out, HS6.out⟩
end Go.Proofs.YtmnigdphikoljaaGreatDoor.et
namespace Go.Proofs.YtmnigdphikoljaaGreatDoor.et
open Go.ChangeShapes Go.WideShapes Go.ChangeAt Go.RowKit Go.Deep

/-- Nothing is appended. -/
theorem append_none {P : Program} (w : World) (t e : TypeId) (i : TypeInfo) (ht : P.underlying t = some (.slice e)) (hi : P.info? e = some i) (B : Option Addr) (n d : Nat) (hle : n ≤ d) (A : Option Addr) (c : Nat) :
    (Builtin.append_ #[t, t] t #[.slice B n d, .slice A 0 c]).run P w = .ok (.slice B n d) w := by
  cases B <;> cases A <;> simp [Builtin.append_, run_underlying ht, sizeOf, typeInfo, hi, Builtin.lenOf, Builtin.firstCells, hle, storeCells, loadCells, loadCellsFrom, Result.andThen]
theorem app_any {w : World} {base : Nat} {v1 v2 : Value} {l1 l2 : List (Int × Int)} (h1 : ON base w v1 l1) (h2 : ON base w v2 l2) (hz : l1.length + l2.length ≤ 1000000) (hb : base ≤ w.heap.size) :
    ∃ v' w', (Builtin.append_ #[114, 114] 114 #[v1, v2]).run Tryz.prog w = .ok v' w' ∧ ON base w' v' (l1 ++ l2) ∧ Below base w w' := by
  by_cases h0 : l2 = []
  · subst h0
    obtain ⟨A, c, rfl⟩ := ON.form h2
    obtain ⟨i0, hi0, _⟩ := info_parts infoN
    obtain ⟨B, d, hv, hle⟩ : ∃ B d, v1 = .slice B l1.length d ∧ l1.length ≤ d := by
      rcases h1.2 with ⟨e, e2⟩ | ⟨g, cap, cur, e, _, _, hn, _⟩
      · exact ⟨none, 0, by rw [e, e2], by rw [e2]; exact Nat.le_refl _⟩
      · exact ⟨_, cap, e, hn⟩
    refine ⟨v1, w, ?_, by rw [List.append_nil]; exact h1, Below.refl _ _⟩
    rw [hv]
    exact append_none w _ _ i0 Tryz.underlying114 hi0 B _ d hle A c
  · have hpos : 0 < l2.length := List.length_pos_iff.2 h0
    obtain ⟨A, c, rfl, hr⟩ := sr.OR.rs nodC_len h2
    obtain ⟨v', w', hrun, ho, hg⟩ := sr.run_append_rs (t := 114) (e := 39) (z := .agg #[.int .i64 0, .int .i64 0]) (bytes := 16) nodC_len nodC_one Tryz.underlying114 infoN rfl (by decide) (by decide) base v1 l1 h1 A l2.length c l2 rfl hpos hr hz hb
    exact ⟨v', w', hrun, ho, Below.grown (Below.refl _ _) hg hb (fun k hk => (World.ownsRow.lt h1 k hk).1)⟩
def WithP (base : Nat) (w : World) (l : List (Int × Int)) (e : Ending) (w' : World) : Prop := ∃ v, e = .returned v ∧ ON base w' v l ∧ Below base w w'
set_option maxRecDepth 20000 in
theorem with_any (base : Nat) (v1 v2 : Value) (l1 l2 : List (Int × Int)) (op : Int) (w : World) (h1 : ON base w v1 l1) (h2 : ON base w v2 l2) (hz : l1.length + l2.length ≤ 100000) (hb : base ≤ w.heap.size) :
    Calls Tryz.prog 165 #[v1, v2, .int .i64 op] w (WithP base w (l1 ++ l2 ++ [(op, 0)])) := by
  obtain ⟨v3, w3, hr, h3, hb3⟩ := app_any h1 h2 (by omega) hb
  have H3 := Lib.hid h3
  have HB3 := Lib.hid hb3
  have HL : Hid ((l1 ++ l2).length ≤ 100000) := Lib.hid (by rw [List.length_append]; exact hz)
  have hb4 : base ≤ w3.heap.size := Nat.le_trans hb hb3.size
  clear h1 h2 h3 hb3
  generalize l1 ++ l2 = l at *
  go_enter Tryz.func165, Tryz.ntmps165
  go_wp2_with (first
    | (at_builtin; refine Lib.wpList_append_run w rfl _ _ 114 114 rfl v1 v2 rfl rfl v3 w3 hr ?_)
    | (at_builtin; refine append_node base rfl _ _ rfl rfl v3 l rfl H3.out op 0 rfl HL.out hb4 ?_; intro v6 w6 ho6 hb6; have HO6 := Lib.hid ho6; have HB6 := Lib.hid (HB3.out.trans hb6); clear ho6 hb6))
  go_ret
  exact ⟨_, rfl, HO6.out, HB6.out⟩
set_option maxRecDepth 20000 in
theorem orP_any (base : Nat) (v1 v2 : Value) (l1 l2 : List (Int × Int)) (w : World) (h1 : ON base w v1 l1) (h2 : ON base w v2 l2) (hz : l1.length + l2.length ≤ 100000) (hb : base ≤ w.heap.size) :
    Calls Tryz.prog 144 #[v1, v2] w (WithP base w (l1 ++ l2 ++ [(19, 0)])) := by
  have HC := Lib.hid (with_any base v1 v2 l1 l2 19 w h1 h2 hz hb)
  clear h1 h2 hz hb
  go_enter Tryz.func144, Tryz.ntmps144
  go_wp2_with fail
  refine HC.out.mono ?_
  rintro e w1 ⟨v, rfl, h3, hb3⟩
  have H3 := Lib.hid h3
  have HB3 := Lib.hid hb3
  clear h3 hb3
  go_wp2
  go_ret
  exact ⟨_, rfl, H3.out, HB3.out⟩
set_option maxRecDepth 20000 in
theorem andP_any (base : Nat) (v1 v2 : Value) (l1 l2 : List (Int × Int)) (w : World) (h1 : ON base w v1 l1) (h2 : ON base w v2 l2) (hz : l1.length + l2.length ≤ 100000) (hb : base ≤ w.heap.size) :
    Calls Tryz.prog 145 #[v1, v2] w (WithP base w (l1 ++ l2 ++ [(18, 0)])) := by
  have HC := Lib.hid (with_any base v1 v2 l1 l2 18 w h1 h2 hz hb)
  clear h1 h2 hz hb
  go_enter Tryz.func145, Tryz.ntmps145
  go_wp2_with fail
  refine HC.out.mono ?_
  rintro e w1 ⟨v, rfl, h3, hb3⟩
  have H3 := Lib.hid h3
  have HB3 := Lib.hid hb3
  clear h3 hb3
  go_wp2
  go_ret
  exact ⟨_, rfl, H3.out, HB3.out⟩
set_option maxRecDepth 20000 in
theorem equalP_any (base : Nat) (v1 v2 : Value) (l1 l2 : List (Int × Int)) (w : World) (h1 : ON base w v1 l1) (h2 : ON base w v2 l2) (hz : l1.length + l2.length ≤ 100000) (hb : base ≤ w.heap.size) :
    Calls Tryz.prog 146 #[v1, v2] w (WithP base w (l1 ++ l2 ++ [(14, 0)])) := by
  have HC := Lib.hid (with_any base v1 v2 l1 l2 14 w h1 h2 hz hb)
  clear h1 h2 hz hb
  go_enter Tryz.func146, Tryz.ntmps146
  go_wp2_with fail
  refine HC.out.mono ?_
  rintro e w1 ⟨v, rfl, h3, hb3⟩
  have H3 := Lib.hid h3
  have HB3 := Lib.hid hb3
  clear h3 hb3
  go_wp2
  go_ret
  exact ⟨_, rfl, H3.out, HB3.out⟩
set_option maxRecDepth 20000 in
theorem unlikeP_any (base : Nat) (v1 v2 : Value) (l1 l2 : List (Int × Int)) (w : World) (h1 : ON base w v1 l1) (h2 : ON base w v2 l2) (hz : l1.length + l2.length ≤ 100000) (hb : base ≤ w.heap.size) :
    Calls Tryz.prog 147 #[v1, v2] w (WithP base w (l1 ++ l2 ++ [(15, 0)])) := by
  have HC := Lib.hid (with_any base v1 v2 l1 l2 15 w h1 h2 hz hb)
  clear h1 h2 hz hb
  go_enter Tryz.func147, Tryz.ntmps147
  go_wp2_with fail
  refine HC.out.mono ?_
  rintro e w1 ⟨v, rfl, h3, hb3⟩
  have H3 := Lib.hid h3
  have HB3 := Lib.hid hb3
  clear h3 hb3
  go_wp2
  go_ret
  exact ⟨_, rfl, H3.out, HB3.out⟩
set_option maxRecDepth 20000 in
theorem lessP_any (base : Nat) (v1 v2 : Value) (l1 l2 : List (Int × Int)) (w : World) (h1 : ON base w v1 l1) (h2 : ON base w v2 l2) (hz : l1.length + l2.length ≤ 100000) (hb : base ≤ w.heap.size) :
    Calls Tryz.prog 148 #[v1, v2] w (WithP base w (l1 ++ l2 ++ [(16, 0)])) := by
  have HC := Lib.hid (with_any base v1 v2 l1 l2 16 w h1 h2 hz hb)
  clear h1 h2 hz hb
  go_enter Tryz.func148, Tryz.ntmps148
  go_wp2_with fail
  refine HC.out.mono ?_
  rintro e w1 ⟨v, rfl, h3, hb3⟩
  have H3 := Lib.hid h3
  have HB3 := Lib.hid hb3
  clear h3 hb3
  go_wp2
  go_ret
  exact ⟨_, rfl, H3.out, HB3.out⟩
set_option maxRecDepth 20000 in
theorem atMostP_any (base : Nat) (v1 v2 : Value) (l1 l2 : List (Int × Int)) (w : World) (h1 : ON base w v1 l1) (h2 : ON base w v2 l2) (hz : l1.length + l2.length ≤ 100000) (hb : base ≤ w.heap.size) :
    Calls Tryz.prog 149 #[v1, v2] w (WithP base w (l1 ++ l2 ++ [(17, 0)])) := by
  have HC := Lib.hid (with_any base v1 v2 l1 l2 17 w h1 h2 hz hb)
  clear h1 h2 hz hb
  go_enter Tryz.func149, Tryz.ntmps149
  go_wp2_with fail
  refine HC.out.mono ?_
  rintro e w1 ⟨v, rfl, h3, hb3⟩
  have H3 := Lib.hid h3
  have HB3 := Lib.hid hb3
  clear h3 hb3
  go_wp2
  go_ret
  exact ⟨_, rfl, H3.out, HB3.out⟩
set_option maxRecDepth 20000 in
theorem plusP_any (base : Nat) (v1 v2 : Value) (l1 l2 : List (Int × Int)) (w : World) (h1 : ON base w v1 l1) (h2 : ON base w v2 l2) (hz : l1.length + l2.length ≤ 100000) (hb : base ≤ w.heap.size) :
    Calls Tryz.prog 150 #[v1, v2] w (WithP base w (l1 ++ l2 ++ [(11, 0)])) := by
  have HC := Lib.hid (with_any base v1 v2 l1 l2 11 w h1 h2 hz hb)
  clear h1 h2 hz hb
  go_enter Tryz.func150, Tryz.ntmps150
  go_wp2_with fail
  refine HC.out.mono ?_
  rintro e w1 ⟨v, rfl, h3, hb3⟩
  have H3 := Lib.hid h3
  have HB3 := Lib.hid hb3
  clear h3 hb3
  go_wp2
  go_ret
  exact ⟨_, rfl, H3.out, HB3.out⟩
set_option maxRecDepth 20000 in
theorem minusP_any (base : Nat) (v1 v2 : Value) (l1 l2 : List (Int × Int)) (w : World) (h1 : ON base w v1 l1) (h2 : ON base w v2 l2) (hz : l1.length + l2.length ≤ 100000) (hb : base ≤ w.heap.size) :
    Calls Tryz.prog 151 #[v1, v2] w (WithP base w (l1 ++ l2 ++ [(12, 0)])) := by
  have HC := Lib.hid (with_any base v1 v2 l1 l2 12 w h1 h2 hz hb)
  clear h1 h2 hz hb
  go_enter Tryz.func151, Tryz.ntmps151
  go_wp2_with fail
  refine HC.out.mono ?_
  rintro e w1 ⟨v, rfl, h3, hb3⟩
  have H3 := Lib.hid h3
  have HB3 := Lib.hid hb3
  clear h3 hb3
  go_wp2
  go_ret
  exact ⟨_, rfl, H3.out, HB3.out⟩
set_option maxRecDepth 20000 in
theorem timesP_any (base : Nat) (v1 v2 : Value) (l1 l2 : List (Int × Int)) (w : World) (h1 : ON base w v1 l1) (h2 : ON base w v2 l2) (hz : l1.length + l2.length ≤ 100000) (hb : base ≤ w.heap.size) :
    Calls Tryz.prog 152 #[v1, v2] w (WithP base w (l1 ++ l2 ++ [(13, 0)])) := by
  have HC := Lib.hid (with_any base v1 v2 l1 l2 13 w h1 h2 hz hb)
  clear h1 h2 hz hb
  go_enter Tryz.func152, Tryz.ntmps152
  go_wp2_with fail
  refine HC.out.mono ?_
  rintro e w1 ⟨v, rfl, h3, hb3⟩
  have H3 := Lib.hid h3
  have HB3 := Lib.hid hb3
  clear h3 hb3
  go_wp2
  go_ret
  exact ⟨_, rfl, H3.out, HB3.out⟩
end Go.Proofs.YtmnigdphikoljaaGreatDoor.et
namespace Go.Proofs.YtmnigdphikoljaaGreatDoor.et
open Go.ChangeShapes Go.WideShapes Go.ChangeAt Go.RowKit Go.Deep Go.Maps

theorem lawS : Keyed Tryz.prog 9 := string_keyed Tryz.underlying9
/-- How a function without captures reads. -/
def fnE (v : Value) : Option (DataW Unit × List MemPlace) := match v with
  | .func (.func g) a b => if a.size = 0 ∧ b.size = 0 then some (.lit (.int .i64 g), []) else none
  | _ => none
theorem fnE_inv {v : Value} {g : Nat} {ps : List MemPlace} (h : fnE v = some (.lit (.int .i64 g), ps)) : v = .func (.func g) #[] #[] := by
  unfold fnE at h
  split at h
  · rename_i g2 a b
    split at h
    · rename_i hs
      have h1 := Array.eq_empty_of_size_eq_zero hs.1
      have h2 := Array.eq_empty_of_size_eq_zero hs.2
      subst h1 h2
      have hg : (g2 : Int) = (g : Int) := by
        injection h with h
        injection h with h _
        injection h with h
        injection h
      have : g2 = g := Int.ofNat.inj hg
      rw [this]
    · cases h
  · cases h
/-- The operations upon two parts: the operation, its strength, its sign, the function that makes it. -/
def pairT : List (Int × Nat × ByteArray × Nat) := [(19, 1, ⟨#[124, 124]⟩, 144), (18, 2, ⟨#[38, 38]⟩, 145), (14, 3, ⟨#[61, 61]⟩, 146), (15, 3, ⟨#[33, 61]⟩, 147), (16, 3, ⟨#[60]⟩, 148), (17, 3, ⟨#[60, 61]⟩, 149), (11, 4, ⟨#[43]⟩, 150), (12, 4, ⟨#[45]⟩, 151), (13, 5, ⟨#[42]⟩, 152)]
instance : Inhabited (Int × Nat × ByteArray × Nat) := ⟨(0, 0, ⟨#[]⟩, 0)⟩
/-- What the map holds at a text behind the first j pairs. -/
def mapD (k : Nat) (x : List UInt8) : Nat → Option Nat
  | 0 => none
  | j + 1 => if (pairT.getD j default).2.1 = k ∧ x = (pairT.getD j default).2.2.1.data.toList then some (pairT.getD j default).2.2.2 else mapD k x j
def datO (o : Option Nat) : DataW Unit := match o with
  | none => .nil
  | some g => .lit (.int .i64 g)
def MFn (w : World) (b k j : Nat) : Prop :=
  ∃ (D : DataW Unit) (n : Nat), n ≤ j ∧ w.ownsMap Tryz.prog 9 fnE b n D ∧ IsMap D ∧ ∀ x : ByteArray, D.atKey (.string x.data.toList) .nil = datO (mapD k x.data.toList j)
theorem MFn.made (w : World) (k : Nat) : MFn (w.alloc (.map #[] 0)) w.heap.size k 0 := ⟨.map [], 0, Nat.le_refl _, World.ownsMap_made _ _ _ _, ⟨_, rfl⟩, fun _ => rfl⟩
theorem MFn.lt {w : World} {b k j : Nat} (h : MFn w b k j) : b < w.heap.size := by
  obtain ⟨D, n, _, ho, _⟩ := h
  exact ho.lt
theorem MFn.keep {w w' : World} {b k j : Nat} (h : MFn w b k j) (hb : w'.heap[b]? = w.heap[b]?) : MFn w' b k j := by
  obtain ⟨D, n, hn, ⟨es, clock, h1, h2⟩, r⟩ := h
  exact ⟨D, n, hn, ⟨es, clock, hb.trans h1, h2⟩, r⟩
theorem MFn.skip {w : World} {b k j : Nat} (h : MFn w b k j) (hk : (pairT.getD j default).2.1 ≠ k) : MFn w b k (j + 1) := by
  obtain ⟨D, n, hn, ho, hm, hD⟩ := h
  refine ⟨D, n, by omega, ho, hm, fun x => ?_⟩
  rw [hD x, mapD, if_neg (fun c => hk c.1)]
theorem MFn.update {w : World} {b k j : Nat} (h : MFn w b k j) (hk : (pairT.getD j default).2.1 = k) (hj : j < 9) (hs : (pairT.getD j default).2.2.1.size ≤ maxLen) :
    ∃ w', (Instr.mapUpdate 149 (.map (some b)) (.string (pairT.getD j default).2.2.1) (.func (.func (pairT.getD j default).2.2.2) #[] #[])).run Tryz.prog w = .ok () w' ∧ MFn w' b k (j + 1) ∧ w.grownBy w' (some b) := by
  obtain ⟨D, n, hn, ho, hm, hD⟩ := h
  obtain ⟨w', hrun, ho', hg⟩ := ho.update lawS Tryz.underlying149 (by unfold maxLen; omega) (WideMaps.keyOf_string_mk Tryz.underlying9 hs) (show fnE (.func (.func (pairT.getD j default).2.2.2) #[] #[]) = some (.lit (.int .i64 ((pairT.getD j default).2.2.2 : Nat)), []) from rfl)
  refine ⟨w', hrun, ⟨_, n + 1, by omega, ho', ?_, fun x => ?_⟩, hg⟩
  · obtain ⟨l, rfl⟩ := hm
    exact ⟨_, rfl⟩
  · by_cases hx : x.data.toList = (pairT.getD j default).2.2.1.data.toList
    · rw [mapD, if_pos ⟨hk, hx⟩, hx, atKey_put_same hm (by first | exact ⟨_, rfl⟩ | simp [WideAt.IsKeyLit] | trivial)]
      rfl
    · rw [mapD, if_neg (fun c => hx c.2), atKey_put_other (by simpa using hx), hD x]
theorem MFn.lookup {w : World} {b k j : Nat} (h : MFn w b k j) {s : ByteArray} (hs : s.size ≤ maxLen) : (Instr.lookup 149 (.map (some b)) (.string s) true).run Tryz.prog w = .ok (match mapD k s.data.toList j with
    | none => .tuple #[.nilFunc, .bool false]
    | some g => .tuple #[.func (.func g) #[] #[], .bool true]) w := by
  obtain ⟨D, n, hn, ⟨es, clock, hb, F, _, rfl⟩, hm, hD⟩ := h
  have hz : (zeroValue 137).run Tryz.prog w = .ok .nilFunc w := by kernel_rfl
  have hx := hD s
  rcases Maps.fit_look true lawS Tryz.underlying149 hz hb F (WideMaps.keyOf_string_mk Tryz.underlying9 hs) with ⟨hrun, _, hat⟩ | ⟨e0, y, _, _, hrun, hRv, hat, _⟩
  · rw [hat] at hx
    cases ho : mapD k s.data.toList j with
    | none => rw [hrun]; rfl
    | some g => rw [ho] at hx; cases hx
  · rw [hat] at hx
    cases ho : mapD k s.data.toList j with
    | none =>
      rw [ho] at hx
      exfalso
      obtain ⟨y1, y2⟩ := y
      dsimp only [datO] at hx
      subst hx
      unfold fnE at hRv
      split at hRv
      · split at hRv <;> simp at hRv
      · cases hRv
    | some g =>
      rw [ho] at hx
      obtain ⟨y1, y2⟩ := y
      dsimp only [datO] at hx
      subst hx
      rw [hrun, fnE_inv hRv]
      rfl
/-- The function that makes an operation. -/
def fnOf (op : Int) : Nat := if op = 19 then 144 else if op = 18 then 145 else if op = 14 then 146 else if op = 15 then 147 else if op = 16 then 148 else if op = 17 then 149 else if op = 11 then 150 else if op = 12 then 151 else 152
theorem beq_no {l x : List UInt8} (h : ¬ x = l) : (l == x) = false := by
  rw [beq_eq_false_iff_ne]
  exact fun e => h e.symm
theorem mapD_op {k : Nat} (h1 : 1 ≤ k) (h5 : k ≤ 5) (s : ByteArray) : mapD k s.data.toList 9 = (opS k s).map fnOf := by
  have e : s.toList = s.data.toList := ByteArray.toList_eq s
  unfold opS pairL
  simp only [mapD, pairT, List.find?, List.getD, e, ByteArray.toList_eq]
  generalize s.data.toList = x
  have hk : k = 1 ∨ k = 2 ∨ k = 3 ∨ k = 4 ∨ k = 5 := by omega
  rcases hk with rfl | rfl | rfl | rfl | rfl
  all_goals simp
  all_goals
    by_cases a0 : x = [124, 124]
    · subst a0; first | rfl | decide
    by_cases a1 : x = [38, 38]
    · subst a1; first | rfl | decide
    by_cases a2 : x = [61, 61]
    · subst a2; first | rfl | decide
    by_cases a3 : x = [33, 61]
    · subst a3; first | rfl | decide
    by_cases a4 : x = [60]
    · subst a4; first | rfl | decide
    by_cases a5 : x = [60, 61]
    · subst a5; first | rfl | decide
    by_cases a6 : x = [43]
    · subst a6; first | rfl | decide
    by_cases a7 : x = [45]
    · subst a7; first | rfl | decide
    by_cases a8 : x = [42]
    · subst a8; first | rfl | decide
    have n0 : (([124, 124] : List UInt8) == x) = false := beq_no a0
    have n1 : (([38, 38] : List UInt8) == x) = false := beq_no a1
    have n2 : (([61, 61] : List UInt8) == x) = false := beq_no a2
    have n3 : (([33, 61] : List UInt8) == x) = false := beq_no a3
    have n4 : (([60] : List UInt8) == x) = false := beq_no a4
    have n5 : (([60, 61] : List UInt8) == x) = false := beq_no a5
    have n6 : (([43] : List UInt8) == x) = false := beq_no a6
    have n7 : (([45] : List UInt8) == x) = false := beq_no a7
    have n8 : (([42] : List UInt8) == x) = false := beq_no a8
    simp only [n0, n1, n2, n3, n4, n5, n6, n7, n8, a0, a1, a2, a3, a4, a5, a6, a7, a8, if_false, Option.map]
end Go.Proofs.YtmnigdphikoljaaGreatDoor.et
namespace Go.Proofs.YtmnigdphikoljaaGreatDoor.et
open Go.ChangeShapes Go.WideShapes Go.ChangeAt Go.RowKit Go.Deep Go.Maps

/-- What a row's function value captures: the boxes of next, reader, map and strength. -/
structure CloS (F : Fx) (w : World) (k : Nat) (V : Value) (nb rx mb sb mp : Nat) : Prop where
  n0 : w.cell? ⟨nb, 0, none⟩ = some V
  r0 : w.cell? ⟨rx, 0, none⟩ = some (.pointer (some ⟨F.b, 0, none⟩))
  m0 : w.cell? ⟨mb, 0, none⟩ = some (.map (some mp))
  s0 : w.cell? ⟨sb, 0, none⟩ = some (.int .i64 (k : Nat))
  ln : nb < w.heap.size
  lr : rx < w.heap.size
  lm : mb < w.heap.size
  ls : sb < w.heap.size
  en : nb ≠ F.b
  er : rx ≠ F.b
  em : mb ≠ F.b
  es : sb ≠ F.b
  ep : mp ≠ F.b
  map : MFn w mp k 9
theorem CloS.turn {F : Fx} {w w' : World} {k : Nat} {V : Value} {nb rx mb sb mp : Nat} (h : CloS F w k V nb rx mb sb mp) (t : Tn F w w') : CloS F w' k V nb rx mb sb mp :=
  ⟨(t.cell (p := ⟨nb, 0, none⟩) h.ln h.en).trans h.n0, (t.cell (p := ⟨rx, 0, none⟩) h.lr h.er).trans h.r0, (t.cell (p := ⟨mb, 0, none⟩) h.lm h.em).trans h.m0, (t.cell (p := ⟨sb, 0, none⟩) h.ls h.es).trans h.s0, Nat.lt_of_lt_of_le h.ln t.size, Nat.lt_of_lt_of_le h.lr t.size, Nat.lt_of_lt_of_le h.lm t.size, Nat.lt_of_lt_of_le h.ls t.size, h.en, h.er, h.em, h.es, h.ep, h.map.keep (t.block _ h.map.lt h.ep)⟩
theorem opS_nine {k : Nat} {s : ByteArray} {op : Int} (h : opS k s = some op) : op = 19 ∨ op = 18 ∨ op = 14 ∨ op = 15 ∨ op = 16 ∨ op = 17 ∨ op = 11 ∨ op = 12 ∨ op = 13 := by
  unfold opS at h
  cases hf : pairL.find? (fun p => decide (p.2.1 = k) && (p.2.2.toList == s.toList)) with
  | none => rw [hf] at h; cases h
  | some p =>
    rw [hf] at h
    have hm := List.mem_of_find?_eq_some hf
    have e : p.1 = op := Option.some.inj h
    subst e
    unfold pairL at hm
    simp only [List.mem_cons, List.not_mem_nil, or_false] at hm
    rcases hm with rfl | rfl | rfl | rfl | rfl | rfl | rfl | rfl | rfl <;> simp
set_option maxRecDepth 100000 in
theorem op_fn (op : Int) (h : op = 19 ∨ op = 18 ∨ op = 14 ∨ op = 15 ∨ op = 16 ∨ op = 17 ∨ op = 11 ∨ op = 12 ∨ op = 13) :
    (∀ args w, (callFunc (fnOf op) args).run Tryz.prog w = .ok (.enter (fnOf op) args) w) ∧
    ∀ (base : Nat) (v1 v2 : Value) (l1 l2 : List (Int × Int)) (w : World), ON base w v1 l1 → ON base w v2 l2 → l1.length + l2.length ≤ 100000 → base ≤ w.heap.size → Calls Tryz.prog (fnOf op) #[v1, v2] w (WithP base w (l1 ++ l2 ++ [(op, 0)])) := by
  rcases h with rfl | rfl | rfl | rfl | rfl | rfl | rfl | rfl | rfl
  · exact ⟨fun _ _ => rfl, fun base v1 v2 l1 l2 w h1 h2 hz hb => orP_any base v1 v2 l1 l2 w h1 h2 hz hb⟩
  · exact ⟨fun _ _ => rfl, fun base v1 v2 l1 l2 w h1 h2 hz hb => andP_any base v1 v2 l1 l2 w h1 h2 hz hb⟩
  · exact ⟨fun _ _ => rfl, fun base v1 v2 l1 l2 w h1 h2 hz hb => equalP_any base v1 v2 l1 l2 w h1 h2 hz hb⟩
  · exact ⟨fun _ _ => rfl, fun base v1 v2 l1 l2 w h1 h2 hz hb => unlikeP_any base v1 v2 l1 l2 w h1 h2 hz hb⟩
  · exact ⟨fun _ _ => rfl, fun base v1 v2 l1 l2 w h1 h2 hz hb => lessP_any base v1 v2 l1 l2 w h1 h2 hz hb⟩
  · exact ⟨fun _ _ => rfl, fun base v1 v2 l1 l2 w h1 h2 hz hb => atMostP_any base v1 v2 l1 l2 w h1 h2 hz hb⟩
  · exact ⟨fun _ _ => rfl, fun base v1 v2 l1 l2 w h1 h2 hz hb => plusP_any base v1 v2 l1 l2 w h1 h2 hz hb⟩
  · exact ⟨fun _ _ => rfl, fun base v1 v2 l1 l2 w h1 h2 hz hb => minusP_any base v1 v2 l1 l2 w h1 h2 hz hb⟩
  · exact ⟨fun _ _ => rfl, fun base v1 v2 l1 l2 w h1 h2 hz hb => timesP_any base v1 v2 l1 l2 w h1 h2 hz hb⟩

set_option maxRecDepth 20000 in
set_option maxHeartbeats 8000000 in
theorem rowfn_any (F : Fx) (wE : World) (f k : Nat) (nx : St → Rd) (V : Value) (nb rx mb sb mp : Nat) (hc : CloS F wE k V nb rx mb sb mp) (hnx : ReadsK F wE V f nx) (hfew : ∀ st, Few st (nx st)) (h1 : 1 ≤ k) (h5 : k ≤ 5) (st : St) (w : World) (hE : Tn F wE w) (h : Rdr F w st) (hf : st.ts.length < f) :
    Calls Tryz.prog 103 #[.pointer (some ⟨nb, 0, none⟩), .pointer (some ⟨rx, 0, none⟩), .pointer (some ⟨mb, 0, none⟩), .pointer (some ⟨sb, 0, none⟩)] w (PostR F w (rowF k nx st)) := by
  have hlt : F.b < w.heap.size := by obtain ⟨A, c, h⟩ := h; exact h.lt
  have hmost : st.ts.length ≤ 6000 := by obtain ⟨A, c, h⟩ := h; exact h.most
  have HNX := Lib.hid hnx
  have HFEW := Lib.hid hfew
  have HE := Lib.hid hE
  have H0 := Lib.hid h
  have HF := Lib.hid hf
  have HC := Lib.hid (hc.turn hE)
  have HK1 := Lib.hid h1
  have HK5 := Lib.hid h5
  obtain ⟨R, HR⟩ : ∃ R, Hid (rowF k nx st = R) := ⟨_, Lib.hid rfl⟩
  have HR0 : Hid (rowL k nx (nx st).2.ts.length (nx st).1 (nx st).2 = R) := Lib.hid HR.out
  have n0 := HC.out.n0
  have hnb := HC.out.ln
  obtain ⟨g, first, lb, hV, hg, hCN⟩ := hnx
  rw [hV] at n0
  have HCN := Lib.hid hCN
  have HV := Lib.hid hV
  clear h hc hfew hE hf h1 h5 hnb hCN hV
  rw [HR.out]
  go_enter Tryz.func103, Tryz.ntmps103
  go_wp2_with fail
  refine (HCN.out w st HE.out H0.out HF.out).mono ?_
  rintro e w1 ⟨v1, rfl, ho1, hs1⟩
  have HO1 := Lib.hid ho1
  have HS1 := Lib.hid hs1
  have HFW1 : Hid ((nx st).1.length + (nx st).2.ts.length ≤ st.ts.length) := Lib.hid (HFEW.out st)
  clear ho1 hs1 n0
  generalize (nx st).1 = l1 at *
  generalize (nx st).2 = s1 at *
  go_wp2
  go_loopg [5] s1.ts.length (fun gf v5 wx => ∃ (l : List (Int × Int)) (s2 : St), Hid (ON w.heap.size wx v5 l) ∧ Hid (StP F w s2 wx) ∧ Hid (rowL k nx gf l s2 = R) ∧ Hid (s2.ts.length ≤ gf) ∧ Hid (l.length + s2.ts.length ≤ st.ts.length))
  case atStart => exact ⟨l1, s1, HO1, HS1, HR0, Lib.hid (Nat.le_refl _), HFW1⟩
  case round =>
    obtain ⟨l, s2, HO2, HS2, HR2, HG2, HW2⟩ := hrel
    obtain ⟨A, c, hR⟩ := HS2.out.1
    have c0 := hR.s0
    have HCx := Lib.hid (HC.out.turn HS2.out.2)
    have r0 := HCx.out.r0
    have k0 := HCx.out.s0
    have m0 := HCx.out.m0
    cases hts : s2.ts with
    | nil =>
      rw [hts] at c0
      dsimp only [List.length_nil] at c0
      have HE2 : Hid (R = (l, s2)) := Lib.hid (by
        rw [← HR2.out]
        cases gk with
        | zero => rfl
        | succ g => unfold rowL; rw [hts])
      clear hR hts
      go_wp2
      go_ret
      rw [HE2.out]
      exact ⟨_, rfl, HO2.out, HS2.out⟩
    | cons t r =>
      obtain ⟨tb, off, rfl, htb, htn, t0, t1, t2, t3⟩ := hR.head hts
      have htx : t.text.size ≤ 20000 := hR.txt t (by rw [hts]; simp)
      have HTX := Lib.hid htx
      rw [hts] at c0
      obtain ⟨n, hn⟩ : ∃ n, (t :: r).length = n := ⟨_, rfl⟩
      rw [hn] at c0
      have hp : (0 : Int) < (n : Int) := by rw [← hn]; simp
      obtain ⟨g', rfl⟩ : ∃ g', gk = g' + 1 := by
        have := HG2.out
        rw [hts] at this
        exact ⟨gk - 1, by simp at this; omega⟩
      by_cases hk : t.kind = 3
      · have HE2 : Hid (R = match opS k t.text with
          | none => (l, s2)
          | some op => if k = 3 then (l ++ (nx ⟨r, s2.pl, s2.why⟩).1 ++ [(op, 0)], (nx ⟨r, s2.pl, s2.why⟩).2) else rowL k nx g' (l ++ (nx ⟨r, s2.pl, s2.why⟩).1 ++ [(op, 0)]) (nx ⟨r, s2.pl, s2.why⟩).2) := Lib.hid (by
          rw [← HR2.out]
          conv => lhs; unfold rowL
          rw [hts]
          dsimp only
          rw [if_pos hk]
          rfl)
        have HTS := Lib.hid hts
        have HLK := Lib.hid ((HCx.out.map.keep (w' := wr.drew) rfl).lookup (s := t.text) (by unfold maxLen; omega))
        rw [mapD_op HK1.out HK5.out] at HLK
        rw [hk] at t0
        clear hR htb htn hn hts
        go_upto_region 3 with (fail)
        cases hop : opS k t.text with
        | none =>
          rw [hop] at HE2 HLK
          have hlk := HLK.out
          dsimp only [Option.map] at hlk
          have HS3 := Lib.hid (HS2.out.next (Below.refl _ wr).drew)
          go_region
          clear hlk HLK t0 t1 t2 t3 c0 r0 k0 m0
          go_wp2
          go_ret
          rw [HE2.out]
          exact ⟨_, rfl, HO2.out.below (Below.refl _ wr).drew, HS3.out⟩
        | some op =>
          rw [hop] at HE2 HLK
          have hlk := HLK.out
          dsimp only [Option.map] at hlk
          obtain ⟨hof, hOF⟩ := op_fn op (opS_nine hop)
          have HOF := Lib.hid hOF
          generalize fnOf op = gof at *
          clear hOF
          go_region
          have HS3 := Lib.hid (HS2.out.next (Below.refl _ wr).drew)
          have HO3 : Hid (ON w.heap.size wr.drew u5 l) := Lib.hid (HO2.out.below (Below.refl _ wr).drew)
          have HC3 := Lib.hid (HC.out.turn HS3.out.2)
          clear hlk HLK t0 t1 t2 t3 c0 r0 k0 m0 HO2 HCx
          generalize wr.drew = w3 at *
          have r0 := HC3.out.r0
          go_wp2_with fail
          refine (take_any F s2 w3 HS3.out.1).mono ?_
          unfold TakeP
          rw [show takeF F.en s2 = (t, ⟨r, s2.pl, s2.why⟩) by unfold takeF; rw [HTS.out]]
          rintro e w4 ⟨rfl, hs4⟩
          dsimp only at hs4
          have HS4 := Lib.hid (HS3.out.trans hs4)
          have HO4 := Lib.hid (HO3.out.turn hs4.2 hlt)
          have HC4 := Lib.hid (HC.out.turn HS4.out.2)
          have hbig4 := HS4.out.2.size
          clear hs4 r0 HO3 HC3
          obtain ⟨s4, HS4E⟩ : ∃ s4, Hid ((⟨r, s2.pl, s2.why⟩ : St) = s4) := ⟨_, Lib.hid rfl⟩
          rw [HS4E.out] at HS4 HE2
          have HL4 : Hid (s4.ts.length + 1 = s2.ts.length) := Lib.hid (by rw [← HS4E.out, HTS.out]; rfl)
          have n0 := HC4.out.n0
          rw [HV.out] at n0
          go_wp2_with fail
          refine (HCN.out w4 s4 (HE.out.trans HS4.out.2) HS4.out.1 (by have := HL4.out; have := HW2.out; have := HF.out; omega)).mono ?_
          rintro e w5 ⟨v5, rfl, ho5, hs5⟩
          have HS5 := Lib.hid (HS4.out.trans hs5)
          have HO5 := Lib.hid (HO4.out.turn hs5.2 hlt)
          have HP5 := Lib.hid (ho5.down hbig4)
          have HFW5 : Hid ((nx s4).1.length + (nx s4).2.ts.length ≤ s4.ts.length) := Lib.hid (HFEW.out s4)
          have hbig5 := HS5.out.2.size
          clear hs5 ho5 n0 HO4 HC4
          generalize (nx s4).1 = l5 at *
          generalize (nx s4).2 = s5 at *
          have hz5 : l.length + l5.length ≤ 100000 := by have := HFW5.out; have := HL4.out; have := HW2.out; omega
          go_wp2_with fail
          refine (HOF.out w.heap.size u5 v5 l l5 w5 HO5.out HP5.out hz5 hbig5).mono ?_
          rintro e w6 ⟨v6, rfl, ho6, hb6⟩
          have HO6 := Lib.hid ho6
          have HS6 := Lib.hid (HS5.out.over hlt hb6)
          have HC6 := Lib.hid (HC.out.turn HS6.out.2)
          have k0 := HC6.out.s0
          have HW6 : Hid ((l ++ l5 ++ [(op, 0)]).length + s5.ts.length ≤ st.ts.length) := Lib.hid (by
            have := HFW5.out; have := HL4.out; have := HW2.out
            simp only [List.length_append, List.length_cons, List.length_nil]
            omega)
          have HG6 : Hid (s5.ts.length ≤ g') := Lib.hid (by have := HFW5.out; have := HL4.out; have := HG2.out; omega)
          clear ho6 hb6 HO5 HP5
          by_cases hk3 : k = 3
          · have HE3 : Hid (R = (l ++ l5 ++ [(op, 0)], s5)) := Lib.hid (HE2.out.trans (by rw [if_pos hk3]))
            have hk4 : (k : Int) = 3 := by omega
            go_wp2
            go_ret
            rw [HE3.out]
            exact ⟨_, rfl, HO6.out, HS6.out⟩
          · have HE3 : Hid (rowL k nx g' (l ++ l5 ++ [(op, 0)]) s5 = R) := Lib.hid (by rw [HE2.out, if_neg hk3])
            have hk4 : ¬ (k : Int) = 3 := by omega
            go_wp2
            go_roundg g'
            case measure => omega
            case rel => exact ⟨l ++ l5 ++ [(op, 0)], s5, HO6, HS6, HE3, HG6, HW6⟩
      · have HE2 : Hid (R = (l, s2)) := Lib.hid (by
          rw [← HR2.out]
          unfold rowL
          rw [hts]
          dsimp only
          rw [if_neg hk])
        have hk2 : ¬ (t.kind : Int) = 3 := by omega
        clear hR htb htn hn hts
        go_wp2
        go_ret
        rw [HE2.out]
        exact ⟨_, rfl, HO2.out, HS2.out⟩
end Go.Proofs.YtmnigdphikoljaaGreatDoor.et
