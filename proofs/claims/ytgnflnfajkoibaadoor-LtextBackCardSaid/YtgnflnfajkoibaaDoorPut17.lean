/- Contracts that the claim stands on, several texts in one: LtxBytesLaw, LtxTextsLaw, LtxLaid, LtxOpens. -/
import Derived.Laws.IdiomStrings
import Derived.Test.YtgnflnfajkoibaaDoorRows
import Derived.LaidMore
import Derived.Lay
import Derived.Stop.Joined
import Derived.Stop.LaidErr
import Derived.Lib.LaidTab
import Derived.MakeChecks
import Derived.LaidLaws
import Derived.SliceStrings
import Derived.WalkLawsBesides
import Derived.Test.YtgnflnfajkoibaaDoorPut1
import Derived.Test.YtgnflnfajkoibaaDoorPut2
import Derived.Test.YtgnflnfajkoibaaDoorPut3
import Derived.Test.YtgnflnfajkoibaaDoorPut4
import Derived.Test.YtgnflnfajkoibaaDoorPut5
import Derived.Test.YtgnflnfajkoibaaDoorPut6
import Derived.Test.YtgnflnfajkoibaaDoorPut7
import Derived.Test.YtgnflnfajkoibaaDoorPut8
import Derived.Test.YtgnflnfajkoibaaDoorPut9
import Derived.Test.YtgnflnfajkoibaaDoorPut10
import Derived.Test.YtgnflnfajkoibaaDoorPut11
import Derived.Test.YtgnflnfajkoibaaDoorPut12
import Derived.Test.YtgnflnfajkoibaaDoorPut13
import Derived.Test.YtgnflnfajkoibaaDoorPut14
import Derived.Test.YtgnflnfajkoibaaDoorPut15
import Derived.Test.YtgnflnfajkoibaaDoorPut16
namespace Go.Proofs.YtgnflnfajkoibaaDoor.tx
open Go.ChangeShapes Go.WideShapes Go.ChangeAt Go.RowKit Go.Deep sr lt

theorem hv_no {N : List ByteArray} {m : Nat} (h : hvF N m = false) : m ≤ 60 ∧ N.length ≤ 20 := by
  unfold hvF at h
  simp only [Bool.or_eq_false_iff, decide_eq_false_iff_not] at h
  omega
theorem textV_bad {e : List (Int × Int)} {N : List ByteArray} (h : (textV e N).2 ≠ 0) : (textV e N).1 = ⟨#[]⟩ := by
  unfold textV at h ⊢
  split
  · rfl
  · rename_i h1
    rw [if_neg h1] at h
    split
    · rfl
    · rename_i h2
      rw [if_neg h2] at h
      split
      · rfl
      · rename_i h3
        rw [if_neg h3] at h
        exact absurd rfl h
theorem parseT_bad {N : List ByteArray} {s : ByteArray} {r : lx.Res} (h : (parseT N s r).2.2 ≠ 0) : (parseT N s r).1 = [] := by
  unfold parseT at h ⊢
  by_cases h1 : r.2.2 = 0
  · rw [if_pos h1] at h ⊢
    by_cases h2 : (redV N s r.1).2.2 = 0
    · rw [if_pos h2] at h ⊢
      by_cases h3 : 24 < (redV N s r.1).1.length
      · rw [if_pos h3]
      · rw [if_neg h3] at h ⊢
        by_cases h4 : (textV (redV N s r.1).1 N).1 = s
        · rw [if_pos h4] at h
          exact absurd rfl h
        · rw [if_neg h4]
    · rw [if_neg h2]
  · rw [if_neg h1]
theorem parseT_good {N : List ByteArray} {s : ByteArray} {r : lx.Res} (h : (parseT N s r).2.2 = 0) : (textV (parseT N s r).1 N).1 = s ∧ (parseT N s r).1.length ≤ 24 := by
  unfold parseT at h ⊢
  by_cases h1 : r.2.2 = 0
  · rw [if_pos h1] at h ⊢
    by_cases h2 : (redV N s r.1).2.2 = 0
    · rw [if_pos h2] at h ⊢
      by_cases h3 : 24 < (redV N s r.1).1.length
      · rw [if_pos h3] at h
        cases h
      · rw [if_neg h3] at h ⊢
        by_cases h4 : (textV (redV N s r.1).1 N).1 = s
        · rw [if_pos h4]
          exact ⟨h4, Nat.le_of_not_lt h3⟩
        · rw [if_neg h4] at h
          cases h
    · rw [if_neg h2] at h
      exact absurd h h2
  · rw [if_neg h1] at h
    have h : ((r.2.2 : Nat) : Int) = 0 := h
    omega
theorem op_pos {o : Opr} (h : o ∈ opsQ) : o.sg ≠ [] := by
  revert o
  decide
/-- A formula's text is not empty. -/
theorem textV_pos {e : List (Int × Int)} {N : List ByteArray} (h : (textV e N).2 = 0) : 0 < (textV e N).1.size := by
  unfold textV at h ⊢
  split at h
  · cases h
  · rename_i h1
    rw [if_neg h1]
    split at h
    · rename_i h2; exact absurd h h2
    · rename_i h2
      rw [if_neg h2]
      have hw := Decidable.not_not.1 h2
      split at h
      · rename_i h3; exact absurd h h3
      · rename_i h3
        rw [if_neg h3]
        have hn := Decidable.not_not.1 h3
        have hl : 0 < e.length := by
          rcases e with _ | ⟨x, e⟩
          · revert hw; decide
          · simp
        obtain ⟨f, hf⟩ : ∃ f, e.length = f + 1 := ⟨e.length - 1, by omega⟩
        unfold tB
        rw [size_mk, hf]
        simp only [Nat.add_sub_cancel]
        rcases node_of hw (i := f) (by omega) with ⟨q, h4, h5, h6, _⟩ | ⟨o, h4, h5, _, _⟩
        · rw [txF_none (by rw [h4]; exact opO_3), h4]
          obtain ⟨h7, h8⟩ := nmW_ok hn f q (by omega) h4
          have h9 : lx.nameB (N.getD q.toNat default) = true := by
            unfold mayB at h8
            simp only [Bool.and_eq_true] at h8
            exact h8.1
          unfold lx.nameB at h9
          simp only [Bool.and_eq_true, decide_eq_true_eq] at h9
          have h10 := h9.2.1.1
          have hq : q.toNat < N.length := by omega
          unfold NL
          simp [List.getD, hq] at h10 ⊢
          exact h10
        · rw [txF_some h4]
          have h6 : 0 < (bareF e (NL N) f f o).length := by
            have := List.length_pos_iff.2 (op_pos h5)
            unfold bareF
            split
            · exact this
            · split
              · simp; omega
              · split
                · simp; omega
                · simp; omega
          split
          · simp
          · exact h6
theorem u8_xor (a b : Nat) (ha : a < 256) (hb : b < 256) : bits .xor .u8 (a : Int) (b : Int) = ((a ^^^ b : Nat) : Int) := by
  have hx : a ^^^ b < 2 ^ 8 := Nat.xor_lt_two_pow (by omega) (by omega)
  have h1 : (BitVec.ofInt 8 (a : Int)).toNat = a := by
    rw [BitVec.ofInt_natCast, BitVec.toNat_ofNat]; exact Nat.mod_eq_of_lt (by omega)
  have h2 : (BitVec.ofInt 8 (b : Int)).toNat = b := by
    rw [BitVec.ofInt_natCast, BitVec.toNat_ofNat]; exact Nat.mod_eq_of_lt (by omega)
  show IntKind.u8.wrap ((BitVec.ofInt 8 (a : Int) ^^^ BitVec.ofInt 8 (b : Int)).toNat : Int) = _
  rw [BitVec.toNat_xor, h1, h2, IntKind.wrap_u8']
  omega
/-- A byte that another one is laid over. -/
theorem other_byte (x : UInt8) {b : Int} (hb : 0 ≤ b ∧ b ≤ 255) (h0 : b ≠ 0) : ∃ y : UInt8, y ≠ x ∧ bits .xor .u8 (x.toNat : Int) b = (y.toNat : Int) := by
  obtain ⟨q, rfl⟩ := Int.eq_ofNat_of_zero_le hb.1
  have hx : x.toNat < 256 := x.toNat_lt
  have h3 : x.toNat ^^^ q < 2 ^ 8 := Nat.xor_lt_two_pow (by omega) (by omega)
  refine ⟨UInt8.ofNat (x.toNat ^^^ q), fun e => ?_, ?_⟩
  · have h4 := congrArg UInt8.toNat e
    rw [UInt8.toNat_ofNat', Nat.mod_eq_of_lt h3] at h4
    have h5 : x.toNat ^^^ (x.toNat ^^^ q) = x.toNat ^^^ x.toNat := by rw [h4]
    rw [← Nat.xor_assoc, Nat.xor_self, Nat.zero_xor] at h5
    omega
  · rw [u8_xor _ _ hx (by omega), UInt8.toNat_ofNat', Nat.mod_eq_of_lt h3]
set_option maxRecDepth 100000 in
set_option maxHeartbeats 8000000 in
theorem ltextBytes_any (A : Option Addr) (m c : Nat) (e : List (Int × Int)) (NA : Option Addr) (n d : Nat) (N : List ByteArray) (at_ by_ : Int) (w : World) (hm : m = e.length) (hA : PA w A e) (hm9 : m ≤ 4611686018427387904) (hn : n = N.length) (hnd : n ≤ d) (hn9 : n ≤ 4611686018427387904) (hN : RS encS 1 w NA N)
    (hat : 0 ≤ at_ ∧ at_ ≤ 65535) (hby : 0 ≤ by_ ∧ by_ ≤ 255) (hx : LxW w) : Calls Tryd.prog 5 #[.slice A m c, .slice NA n d, .int .u16 at_, .int .u8 by_] w fun x w' => x = .returned (.bool true) ∧ Below w.heap.size w w' := by
  have HM := Lib.hid hm
  have HA := Lib.hid hA
  have HN := Lib.hid hn
  have HND := Lib.hid hnd
  have HRS := Lib.hid hN
  have HX := Lib.hid hx
  have HAT := Lib.hid hat
  have HBY := Lib.hid hby
  have HHV := Lib.hid (heavy_any A NA c m n d N w hm9 hn hn9 hN)
  obtain ⟨hv, HV⟩ : ∃ b, Hid (hvF N m = b) := ⟨_, Lib.hid rfl⟩
  rw [HV.out] at HHV
  clear hm hA hm9 hn hnd hn9 hN hat hby hx
  go_enter Tryd.func5, Tryd.ntmps5
  go_wp2_with fail
  refine HHV.out.mono ?_
  rintro x w1 ⟨rfl, hb1⟩
  have HB1 := Lib.hid hb1
  clear hb1 HHV
  cases hv with
  | true =>
    go_wp2_with fail
    refine (awake_any w1 (HX.out.below HB1.out)).mono ?_
    rintro x w2 ⟨rfl, hb2⟩
    have HB2 : Hid (Below w.heap.size w w2) := Lib.hid (HB1.out.trans (hb2.mono HB1.out.size))
    clear hb2
    go_wp2
    go_ret
    exact ⟨rfl, HB2.out⟩
  | false =>
    have HS := Lib.hid (hv_no HV.out)
    have HNM : Hid (NmS w NA n d N) := Lib.hid ⟨HRS.out, HN.out, HND.out, by rw [HN.out]; have := HS.out; omega⟩
    have HTC := Lib.hid (text_any A m c NA n d e N w1 HM.out (by have := HS.out; omega) (HA.out.below HB1.out) (HNM.out.below HB1.out) (HX.out.below HB1.out).ops)
    obtain ⟨u, uy, HT⟩ : ∃ u uy, Hid (textV e N = (u, uy)) := ⟨_, _, Lib.hid rfl⟩
    rw [HT.out] at HTC
    go_wp2_with fail
    refine HTC.out.mono ?_
    rintro x w2 ⟨rfl, hb2⟩
    have HB2 : Hid (Below w.heap.size w w2) := Lib.hid (HB1.out.trans (hb2.mono HB1.out.size))
    clear hb2 HTC
    dsimp only
    by_cases hu : uy = 0
    · subst hu
      by_cases hb0 : by_ = 0
      · subst hb0
        go_wp2_with fail
        refine (awake_any w2 (HX.out.below HB2.out)).mono ?_
        rintro x w3 ⟨rfl, hb3⟩
        have HB3 : Hid (Below w.heap.size w w3) := Lib.hid (HB2.out.trans (hb3.mono HB2.out.size))
        clear hb3
        go_wp2
        go_ret
        exact ⟨rfl, HB3.out⟩
      · have hb0b : (by_ == 0) = false := by rw [beq_eq_false_iff_ne]; exact hb0
        have HUP : Hid (0 < u.size) := Lib.hid (by have h := textV_pos (e := e) (N := N) (by rw [HT.out]); rw [HT.out] at h; exact h)
        have hu0 : (u.toList == ([] : List UInt8)) = false := by
          rw [ByteArray.toList_eq, beq_eq_false_iff_ne]
          intro h
          have := HUP.out
          have h2 : u.data.toList.length = 0 := by rw [h]; rfl
          rw [Array.length_toList] at h2
          have h3 : u.size = u.data.size := rfl
          omega
        have HC1 : Hid (∀ W : World, (convert 9 35 (.string u)).run Tryd.prog W = .ok (.slice (some ⟨W.heap.size, 0, none⟩) u.size (grownCap W u.size 0 5)) (W.drew.alloc (.cells (bytesRow u (grownCap W u.size 0 5)) 5 ((bytesRow u (grownCap W u.size 0 5)).size, (bytesRow u (grownCap W u.size 0 5)).size + 1)))) := Lib.hid (fun W => run_bytes_of_string W _ _ _ u Tryd.underlying9 Tryd.underlying35 Tryd.underlying5)
        have hC1 := HC1.out w2
        go_upto_region 9 with (fail)
        obtain ⟨cap, HCAP⟩ : ∃ k, Hid (grownCap w2 u.size 0 5 = k) := ⟨_, Lib.hid rfl⟩
        rw [HCAP.out]
        obtain ⟨w4, HW4⟩ : ∃ w4, w4 = (w2.alloc (.cells (bytesRow u cap) 5 ((bytesRow u cap).size, (bytesRow u cap).size + 1))).drew := ⟨_, rfl⟩
        rw [← HW4]
        obtain ⟨B, HBB⟩ : ∃ B, Hid (B = w2.heap.size) := ⟨_, Lib.hid rfl⟩
        rw [← HBB.out]
        have HH4 : Hid (w4.heap[B]? = some (.cells (bytesRow u cap) 5 ((bytesRow u cap).size, (bytesRow u cap).size + 1))) := Lib.hid (by rw [HW4, HBB.out]; exact World.alloc_heap_new _ _)
        have HB24 : Hid (Below w2.heap.size w2 w4) := Lib.hid (by rw [HW4]; exact (below_one _ _).drew)
        have HB4 : Hid (Below w.heap.size w w4) := Lib.hid (HB2.out.trans (HB24.out.mono HB2.out.size))
        have HBW : Hid (w.heap.size ≤ B) := Lib.hid (by rw [HBB.out]; exact HB2.out.size)
        have HSZ : Hid (u.size ≤ (bytesRow u cap).size) := Lib.hid (by unfold bytesRow; simp)
        have HCE : Hid (∀ (j : Nat) (hj : j < u.data.toList.length), w4.cell? ⟨B, j, none⟩ = some (.int .u8 ((u.data.toList[j]'hj).toNat : Int)) ∧ w4.frozen? ⟨B, j, none⟩ = false) := Lib.hid (fun j hj => by
          have h := HH4.out
          have hj2 : j < u.data.size := by simpa using hj
          have hj3 : j < (bytesRow u cap).size := Nat.lt_of_lt_of_le hj2 HSZ.out
          constructor
          · rw [cell_of h j]
            unfold bytesRow
            rw [Array.getElem?_append_left (by simpa using hj2)]
            simp
            exact ⟨_, Array.getElem?_eq_getElem hj2, rfl⟩
          · simp only [World.frozen?, h]
            simp
            omega)
        clear HW4 HBB HCAP hC1 hu0
        obtain ⟨k, HK⟩ : ∃ k : Nat, Hid (k < u.data.toList.length ∧ at_.tmod (u.size : Int) = (k : Int)) := by
          have h1 := HAT.out
          have h2 := HUP.out
          refine ⟨(at_ % (u.size : Int)).toNat, Lib.hid ⟨?_, ?_⟩⟩
          · have h3 := Int.emod_lt_of_pos at_ (show (0 : Int) < u.size by omega)
            have h4 := Int.emod_nonneg at_ (show (u.size : Int) ≠ 0 by omega)
            have h5 : u.data.toList.length = u.size := by simp
            omega
          · rw [Int.tmod_eq_emod_of_nonneg h1.1]
            have h4 := Int.emod_nonneg at_ (show (u.size : Int) ≠ 0 by omega)
            omega
        have hwa : wrap64 at_ = at_ := IntWalk.wrap64_in _ (by have := HAT.out; omega)
        have hk1 := HK.out.2
        have hk2 : (k : Int) < (u.size : Int) := by have := HK.out.1; simp at this; omega
        have hk3 : (0 : Int) ≤ (k : Int) := by omega
        have hus : (u.size : Int) ≠ 0 := by have := HUP.out; omega
        have c1 := (HCE.out k HK.out.1).1
        have f1 := (HCE.out k HK.out.1).2
        obtain ⟨y, hyx, hxy⟩ := other_byte (u.data.toList[k]'(HK.out.1)) HBY.out hb0
        have HYX := Lib.hid hyx
        clear hyx
        obtain ⟨x, HXK⟩ : ∃ x, Hid (u.data.toList[k]'(HK.out.1) = x) := ⟨_, Lib.hid rfl⟩
        rw [HXK.out] at c1 hxy HYX
        obtain ⟨l2, HL2⟩ : ∃ l2, Hid (u.data.toList.set k y = l2) := ⟨_, Lib.hid rfl⟩
        have HLL : Hid (l2.length = u.size) := Lib.hid (by rw [← HL2.out]; simp)
        have HCN : Hid (∀ (j : Nat) (hj : j < l2.length), (w4.setCell ⟨B, k, none⟩ (.int .u8 (y.toNat : Int))).cell? ((⟨B, 0, none⟩ : Addr).add j) = some (.int .u8 ((l2[j]'hj).toNat : Int))) := Lib.hid (fun j hj => by
          rw [add_plain, Nat.zero_add]
          have hjj : j < u.data.toList.length := by rw [HLL.out] at hj; simpa using hj
          by_cases hjk : j = k
          · subst hjk
            rw [World.cell?_setCell_same _ _ _ (HCE.out j hjj).1]
            simp only [← HL2.out, List.getElem_set_self]
          · rw [World.cell?_setCell_other _ _ _ _ (rc_ne B k j (fun e => hjk e.symm)), (HCE.out j hjj).1]
            simp only [← HL2.out]
            rw [List.getElem_set_ne (fun e => hjk e.symm)])
        have HNE : Hid (u ≠ ⟨l2.toArray⟩) := Lib.hid (fun e => by
          have h1 : u.data.toList = l2 := by rw [e]
          rw [← HL2.out] at h1
          have hk := HK.out.1
          have h2 := congrArg (fun l => l[k]?) h1
          simp only [List.getElem?_eq_getElem hk, List.getElem?_set_self hk] at h2
          injection h2 with h2
          exact HYX.out (h2.symm.trans HXK.out))
        have HC2 : Hid ((convert 35 9 (.slice (some ⟨B, 0, none⟩) l2.length cap)).run Tryd.prog (w4.setCell ⟨B, k, none⟩ (.int .u8 (y.toNat : Int))) = .ok (.string ⟨l2.toArray⟩) (w4.setCell ⟨B, k, none⟩ (.int .u8 (y.toNat : Int)))) := Lib.hid (run_convert_bytes_back _ _ _ 5 _ cap l2 Tryd.underlying35 Tryd.underlying5 Tryd.underlying9 HCN.out)
        rw [HLL.out] at HC2
        have HB5 : Hid (Below w.heap.size w (w4.setCell ⟨B, k, none⟩ (.int .u8 (y.toNat : Int)))) := Lib.hid (HB4.out.setCell HBW.out _)
        go_upto_region 10 with (fail)
        have hC2 := HC2.out
        generalize w4.setCell ⟨B, k, none⟩ (.int .u8 (y.toNat : Int)) = w5 at *
        obtain ⟨s, HSS⟩ : ∃ s : ByteArray, Hid (s = ⟨l2.toArray⟩) := ⟨_, Lib.hid rfl⟩
        rw [← HSS.out] at hC2
        have HPC := Lib.hid (parse_any NA n d N s w5 (HNM.out.below HB5.out) (HX.out.below HB5.out))
        clear c1 f1 hxy
        go_wp2_with fail
        refine HPC.out.mono ?_
        rintro z w6 ⟨r, v, hr, rfl, ho6, hb6⟩
        have HB6 : Hid (Below w.heap.size w w6) := Lib.hid (HB5.out.trans (hb6.mono HB5.out.size))
        have HGD := Lib.hid (fun h => parseT_good (N := N) (s := s) (r := r) h)
        obtain ⟨A6, c6, hv6, hr6⟩ := OR.rs encN_len ho6
        subst hv6
        have HP6 := Lib.hid (pa_of hr6)
        clear hb6 ho6 hr hr6 HPC hC2
        generalize parseT N s r = p at *
        obtain ⟨E, qa, qy⟩ := p
        dsimp only at HGD HP6 ⊢
        obtain ⟨m6, hm6⟩ : ∃ m6, E.length = m6 := ⟨_, rfl⟩
        have HM6 := Lib.hid hm6
        rw [hm6]
        clear hm6
        by_cases hy : qy = 0
        · subst hy
          have HB := Lib.hid (bare_of e A m c w6 HM.out (by have := HS.out; omega) (HA.out.below HB6.out))
          go_wp2_with fail
          refine HB.out.mono ?_
          rintro z w7 ⟨v7, rfl, ho7, hb7⟩
          have HB7 : Hid (Below w.heap.size w w7) := Lib.hid (HB6.out.trans (hb7.mono HB6.out.size))
          obtain ⟨A7, c7, hv7, hr7⟩ := OR.rs encN_len ho7
          subst hv7
          obtain ⟨m7, hm7⟩ : ∃ m7, (e.map bnF).length = m7 := ⟨_, rfl⟩
          have HM7 := Lib.hid hm7
          rw [hm7]
          clear hm7
          have HEQ : Hid (eqP E (e.map bnF) = false) := Lib.hid (decide_eq_false (fun h => by
            have h1 := (HGD.out (by trivial)).1
            rw [h, textV_bn (by rw [HT.out]), HT.out] at h1
            exact HNE.out (h1.trans HSS.out)))
          have HND7 := Lib.hid (nodes_any A6 A7 c6 c7 m6 m7 E (e.map bnF) w7 HM6.out.symm HM7.out.symm (HP6.out.below hb7) (pa_of hr7) (by have := (HGD.out (by trivial)).2; omega) (by rw [List.length_map, ← HM.out]; have := HS.out; omega))
          clear ho7 hr7 hb7 HB
          go_wp2_with fail
          refine HND7.out.mono ?_
          rw [HEQ.out]
          rintro z w8 ⟨rfl, j, rfl⟩
          have HB8 : Hid (Below w.heap.size w (w7.drewN j)) := Lib.hid (below_drewN HB7.out j)
          go_wp2_with fail
          refine (awake_any _ (HX.out.below HB8.out)).mono ?_
          rintro z w9 ⟨rfl, hb9⟩
          have HB9 : Hid (Below w.heap.size w w9) := Lib.hid (HB8.out.trans (hb9.mono HB8.out.size))
          clear hb9
          go_wp2
          go_ret
          exact ⟨rfl, HB9.out⟩
        · have hyb : (qy == 0) = false := by rw [beq_eq_false_iff_ne]; exact hy
          go_wp2_with fail
          refine (awake_any _ (HX.out.below HB6.out)).mono ?_
          rintro z w9 ⟨rfl, hb9⟩
          have HB9 : Hid (Below w.heap.size w w9) := Lib.hid (HB6.out.trans (hb9.mono HB6.out.size))
          clear hb9
          go_wp2
          go_ret
          exact ⟨rfl, HB9.out⟩
    · have hub : (uy == 0) = false := by rw [beq_eq_false_iff_ne]; exact hu
      have HUE : Hid (u = ⟨#[]⟩) := Lib.hid (by have h := textV_bad (e := e) (N := N) (by rw [HT.out]; exact hu); rw [HT.out] at h; exact h)
      have hue := HUE.out
      subst hue
      go_wp2_with fail
      refine (awake_any w2 (HX.out.below HB2.out)).mono ?_
      rintro x w3 ⟨rfl, hb3⟩
      have HB3 : Hid (Below w.heap.size w w3) := Lib.hid (HB2.out.trans (hb3.mono HB2.out.size))
      clear hb3
      go_wp2
      go_ret
      exact ⟨rfl, HB3.out⟩
end Go.Proofs.YtgnflnfajkoibaaDoor.tx
namespace Go.Proofs.YtgnflnfajkoibaaDoor.tx
open Go.ChangeShapes Go.WideShapes Go.ChangeAt Go.RowKit Go.Deep sr lt

set_option maxRecDepth 100000 in
set_option maxHeartbeats 4000000 in
theorem ltextTexts_any (A : Option Addr) (m c : Nat) (e : List (Int × Int)) (NA : Option Addr) (n d : Nat) (N : List ByteArray) (w : World) (hm : m = e.length) (hA : PA w A e) (hm9 : m ≤ 4611686018427387904) (hn : n = N.length) (hnd : n ≤ d) (hn9 : n ≤ 4611686018427387904) (hN : RS encS 1 w NA N)
    (hx : LxW w) : Calls Tryd.prog 3 #[.slice A m c, .slice NA n d] w fun x w' => x = .returned (.bool true) ∧ Below w.heap.size w w' := by
  have HM := Lib.hid hm
  have HA := Lib.hid hA
  have HN := Lib.hid hn
  have HND := Lib.hid hnd
  have HRS := Lib.hid hN
  have HX := Lib.hid hx
  have HHV := Lib.hid (heavy_any A NA c m n d N w hm9 hn hn9 hN)
  obtain ⟨hv, HV⟩ : ∃ b, Hid (hvF N m = b) := ⟨_, Lib.hid rfl⟩
  rw [HV.out] at HHV
  clear hm hA hm9 hn hnd hn9 hN hx
  go_enter Tryd.func3, Tryd.ntmps3
  go_wp2_with fail
  refine HHV.out.mono ?_
  rintro x w1 ⟨rfl, hb1⟩
  have HB1 := Lib.hid hb1
  clear hb1 HHV
  cases hv with
  | true =>
    go_wp2_with fail
    refine (awake_any w1 (HX.out.below HB1.out)).mono ?_
    rintro x w2 ⟨rfl, hb2⟩
    have HB2 : Hid (Below w.heap.size w w2) := Lib.hid (HB1.out.trans (hb2.mono HB1.out.size))
    clear hb2
    go_wp2
    go_ret
    exact ⟨rfl, HB2.out⟩
  | false =>
    have HS := Lib.hid (hv_no HV.out)
    have HNM : Hid (NmS w NA n d N) := Lib.hid ⟨HRS.out, HN.out, HND.out, by rw [HN.out]; have := HS.out; omega⟩
    have HTC := Lib.hid (text_any A m c NA n d e N w1 HM.out (by have := HS.out; omega) (HA.out.below HB1.out) (HNM.out.below HB1.out) (HX.out.below HB1.out).ops)
    have HTR := Lib.hid (fun W (hW : Below w.heap.size w W) => refText_any A m c NA n d e N W HM.out (by have := HS.out; omega) (HA.out.below hW) (HNM.out.below hW) (HX.out.below hW).ops)
    obtain ⟨u, uy, HT⟩ : ∃ u uy, Hid (textV e N = (u, uy)) := ⟨_, _, Lib.hid rfl⟩
    rw [HT.out] at HTC HTR
    go_wp2_with fail
    refine HTC.out.mono ?_
    rintro x w2 ⟨rfl, hb2⟩
    have HB2 : Hid (Below w.heap.size w w2) := Lib.hid (HB1.out.trans (hb2.mono HB1.out.size))
    clear hb2 HTC
    dsimp only
    go_wp2_with fail
    refine (HTR.out w2 HB2.out).mono ?_
    rintro x w3 ⟨rfl, hb3⟩
    have HB3 : Hid (Below w.heap.size w w3) := Lib.hid (HB2.out.trans (hb3.mono HB2.out.size))
    clear hb3 HTR
    dsimp only
    go_wp2_with fail
    refine (awake_any w3 (HX.out.below HB3.out)).mono ?_
    rintro x w4 ⟨rfl, hb4⟩
    have HB4 : Hid (Below w.heap.size w w4) := Lib.hid (HB3.out.trans (hb4.mono HB3.out.size))
    clear hb4
    go_wp2
    go_ret
    exact ⟨rfl, HB4.out⟩
end Go.Proofs.YtgnflnfajkoibaaDoor.tx
namespace Go.Proofs.YtgnflnfajkoibaaDoor.tx
open Go.ChangeShapes Go.WideShapes Go.ChangeAt Go.RowKit Go.Lib sr

/-- An array of texts that reads as these texts holds them, cell for cell. -/
theorem cells_of_strs {H : Type} {enc : TypeId × Value → H} {P : Program} {w : World} {base : Nat} {sp : Nat → Bool} {held : Bool} {fuel : Nat} {t e : TypeId} {n : Nat} {cs : List Value} {ls : List (List UInt8)} {p : List MemPlace}
    (ht : P.underlying t = some (.array n e)) (he : P.underlying e = some .string) (hce : P.cellsOf e = 1) (hct : P.cellsOf t = n)
    (h : DataW.trod enc P w base sp held fuel t cs = some (.agg (ls.map fun l => .lit (.string l)), p)) : cs = ls.map fun l => Value.string ⟨l.toArray⟩ := by
  cases fuel with
  | zero => simp [DataW.trod] at h
  | succ fuel =>
    simp only [DataW.trod, ht, hce, hct, Nat.mul_one] at h
    split at h
    · rename_i hl
      obtain ⟨xs, hm, hx⟩ := Option.map_eq_some_iff.1 h
      have hxs : xs.map (·.1) = ls.map fun l => (DataW.lit (.string l) : DataW H) := by
        have := congrArg Prod.fst hx
        simpa using this
      have hxl : xs.length = n := by simpa using Lib.mapM_length hm
      have hzl : ls.length = n := by
        have := congrArg List.length hxs
        simp at this
        omega
      apply List.ext_getElem?
      intro i
      by_cases hi : i < n
      · obtain ⟨b, hb, hf⟩ := Lib.mapM_at hm i i (by simp [hi])
        obtain ⟨s, hc, rfl, _⟩ := DataW.trod_string he hf
        have h1 : cs[i]? = some (.string s) := by
          have := congrArg (·[0]?) hc
          simpa [List.getElem?_take, List.getElem?_drop] using this
        have h2 : (xs.map (·.1))[i]? = some (DataW.lit (.string s.data.toList) : DataW H) := by simp [hb]
        rw [hxs, List.getElem?_map] at h2
        obtain ⟨l, hl2, e2⟩ := Option.map_eq_some_iff.1 h2
        injection e2 with e2
        injection e2 with e2
        rw [h1, List.getElem?_map, hl2, e2]
        simp
      · rw [List.getElem?_eq_none (by omega), List.getElem?_eq_none (by simp; omega)]
    · cases h
theorem strs_of_head {P : Program} {W : World} {name : String} {ls : List (List UInt8)} {rest : List (String × DataW Unit)} {g : Nat} {t e : TypeId} {n : Nat}
    (hg : P.globalNamed name = some g) (hty : (P.globals[g]?).map (·.type) = some t) (ht : P.underlying t = some (.array n e)) (he : P.underlying e = some .string) (hce : P.cellsOf e = 1) (hct : P.cellsOf t = n)
    (h : laidMet P ((name, .agg (ls.map fun l => .lit (.string l))) :: rest) W) : W.var? P name = some (ls.map fun l => Value.string ⟨l.toArray⟩).toArray := by
  obtain ⟨ps, ⟨g', t', cs, fuel, p, q, hg', ht', hvar, hd, _, _⟩, _⟩ := h
  obtain rfl := Option.some.inj (hg.symm.trans hg')
  obtain rfl := Option.some.inj (hty.symm.trans ht')
  rw [hvar, ← cells_of_strs ht he hce hct hd]

/-- An operation as it is laid. -/
def opD {H : Type} (o : Opr) : DataW H := .agg [.lit (.int .i64 o.op), .lit (.string o.sg), .lit (.int .i64 o.bd), .lit (.int .i64 o.lf), .lit (.int .i64 o.rt)]
theorem cellsI : Tryd.prog.cellsOf 3 = 1 := by kernel_rfl
theorem cellsStr1 : Tryd.prog.cellsOf 9 = 1 := by kernel_rfl
theorem cellsOp : Tryd.prog.cellsOf 58 = 5 := by kernel_rfl
set_option maxRecDepth 20000 in
theorem cells_of_op {H : Type} {enc : TypeId × Value → H} {w : World} {base : Nat} {sp : Nat → Bool} {held : Bool} {fuel : Nat} {cs : List Value} {o : Opr} {x : DataW H × List MemPlace}
    (h : DataW.trod enc Tryd.prog w base sp held fuel 58 cs = some x) (hx : x.1 = opD o) : cs = oC o := by
  obtain ⟨xs, n, _, rfl, hl, hlen, hf⟩ := DataW.trod_struct Tryd.underlying58 h
  rw [cellsOp] at hl
  match cs, hl, xs, hlen, hf, hx with
  | [c0, c1, c2, c3, c4], _, [y0, y1, y2, y3, y4], _, hf, hx =>
    have h0 := hf 0 _ rfl
    have h1 := hf 1 _ rfl
    have h2 := hf 2 _ rfl
    have h3 := hf 3 _ rfl
    have h4 := hf 4 _ rfl
    change DataW.trod enc Tryd.prog w base sp held n 3 ((List.drop 0 [c0, c1, c2, c3, c4]).take (Tryd.prog.cellsOf 3)) = some y0 at h0
    rw [cellsI] at h0
    change DataW.trod enc Tryd.prog w base sp held n 9 ((List.drop 1 [c0, c1, c2, c3, c4]).take (Tryd.prog.cellsOf 9)) = some y1 at h1
    rw [cellsStr1] at h1
    change DataW.trod enc Tryd.prog w base sp held n 3 ((List.drop 2 [c0, c1, c2, c3, c4]).take (Tryd.prog.cellsOf 3)) = some y2 at h2
    rw [cellsI] at h2
    change DataW.trod enc Tryd.prog w base sp held n 3 ((List.drop 3 [c0, c1, c2, c3, c4]).take (Tryd.prog.cellsOf 3)) = some y3 at h3
    rw [cellsI] at h3
    change DataW.trod enc Tryd.prog w base sp held n 3 ((List.drop 4 [c0, c1, c2, c3, c4]).take (Tryd.prog.cellsOf 3)) = some y4 at h4
    rw [cellsI] at h4
    obtain ⟨n0, e0, rfl, _⟩ := DataW.trod_int Tryd.underlying3 h0
    obtain ⟨n1, e1, rfl, _⟩ := DataW.trod_string Tryd.underlying9 h1
    obtain ⟨n2, e2, rfl, _⟩ := DataW.trod_int Tryd.underlying3 h2
    obtain ⟨n3, e3, rfl, _⟩ := DataW.trod_int Tryd.underlying3 h3
    obtain ⟨n4, e4, rfl, _⟩ := DataW.trod_int Tryd.underlying3 h4
    simp at e0 e1 e2 e3 e4
    simp [opD] at hx
    obtain ⟨g0, g1, g2, g3, g4⟩ := hx
    subst e0 e1 e2 e3 e4
    unfold oC sgA
    rw [g0, ← g1, g2, g3, g4]
theorem cells_of_ops {H : Type} {enc : TypeId × Value → H} {w : World} {base : Nat} {sp : Nat → Bool} {held : Bool} {fuel : Nat} {t : TypeId} {n : Nat} {cs : List Value} {ls : List Opr} {p : List MemPlace}
    (ht : Tryd.prog.underlying t = some (.array n 58)) (h : DataW.trod enc Tryd.prog w base sp held fuel t cs = some (.agg (ls.map opD), p)) : ∀ i j, i < ls.length → j < 5 → cs[i * 5 + j]? = (oC (ls.getD i default))[j]? := by
  cases fuel with
  | zero => simp [DataW.trod] at h
  | succ fuel =>
    simp only [DataW.trod, ht, cellsOp] at h
    split at h
    · obtain ⟨xs, hm, hx⟩ := Option.map_eq_some_iff.1 h
      have hxs : xs.map (·.1) = ls.map fun l => (opD l : DataW H) := by
        have := congrArg Prod.fst hx
        simpa using this
      have hxl : xs.length = n := by simpa using Lib.mapM_length hm
      have hzl : ls.length = n := by
        have := congrArg List.length hxs
        simp at this
        omega
      intro i j hi hj
      have hin : i < n := by omega
      obtain ⟨b, hb, hf⟩ := Lib.mapM_at hm i i (by simp [hin])
      have h2 : (xs.map (·.1))[i]? = some b.1 := by simp [hb]
      rw [hxs, List.getElem?_map, List.getElem?_eq_getElem hi] at h2
      have h3 : b.1 = opD ls[i] := by simpa using h2.symm
      have h4 := cells_of_op hf h3
      have h5 : ls.getD i default = ls[i] := by simp [List.getD, hi]
      rw [h5, ← h4]
      simp [List.getElem?_take, List.getElem?_drop, hj]
    · cases h

noncomputable abbrev LD : List (String × DataW Unit) := Rows.ltextBytesRow.laid
theorem gES : Tryd.prog.globalNamed "strconv.ErrSyntax" = some 2 := by kernel_rfl
theorem gESType : (Tryd.prog.globals[2]?).map (·.type) = some 104 := by kernel_rfl
theorem gER : Tryd.prog.globalNamed "strconv.ErrRange" = some 3 := by kernel_rfl
theorem gERType : (Tryd.prog.globals[3]?).map (·.type) = some 104 := by kernel_rfl
theorem gPT : Tryd.prog.globalNamed "internal/strconv.uint64pow10" = some 4 := by kernel_rfl
theorem gPTType : (Tryd.prog.globals[4]?).map (·.type) = some 137 := by kernel_rfl
theorem gSG : Tryd.prog.globalNamed "lariat/lex.signs" = some 1 := by kernel_rfl
theorem gSGType : (Tryd.prog.globals[1]?).map (·.type) = some 108 := by kernel_rfl
theorem cellsES : Tryd.prog.cellsOf 130 = 1 := by kernel_rfl
theorem cellsStr : Tryd.prog.cellsOf 9 = 1 := by kernel_rfl
theorem cellsSG : Tryd.prog.cellsOf 108 = 25 := by kernel_rfl
theorem star : "*" ++ "errors.errorString" = "*errors.errorString" := by decide
theorem rowES (u : TypeId) (h : Tryd.prog.typeName? 3 u = some "*errors.errorString") : u = 128 :=
  typeName_ptr_named (nm := "errors.errorString") (by rw [star]; kernel_rfl) (by kernel_rfl) (by decide) u (by rw [star]; exact h)
theorem cellsU : Tryd.prog.cellsOf 119 = 1 := by kernel_rfl
theorem cellsPT : Tryd.prog.cellsOf 137 = 20 := by kernel_rfl
theorem gOP : Tryd.prog.globalNamed "lariat/ltext.operations" = some 0 := by kernel_rfl
theorem gOPType : (Tryd.prog.globals[0]?).map (·.type) = some 82 := by kernel_rfl
theorem ops_of_head {W : World} {rest : List (String × DataW Unit)} (h : laidMet Tryd.prog (("lariat/ltext.operations", .agg (opsQ.map opD)) :: rest) W) : OpsW W := by
  obtain ⟨ps, ⟨g', t', cs, fuel, p, q, hg', ht', hvar, hd, _, _⟩, _⟩ := h
  obtain rfl := Option.some.inj (gOP.symm.trans hg')
  obtain rfl := Option.some.inj (gOPType.symm.trans ht')
  intro j v hv
  have hj : j < 55 := by
    have h1 := (List.getElem?_eq_some_iff.1 hv).1
    have h2 : (opsQ.flatMap oC).length = 55 := rfl
    omega
  have h3 : (flatR oC opsQ)[j / 5 * 5 + j % 5]? = some v := by
    rw [show j / 5 * 5 + j % 5 = j by omega]
    exact hv
  rw [flatR_get oC_len opsQ (j / 5) (j % 5) (by show j / 5 < 11; omega) (Nat.mod_lt _ (by omega))] at h3
  have h4 := cells_of_ops Tryd.underlying82 hd (j / 5) (j % 5) (by show j / 5 < 11; omega) (Nat.mod_lt _ (by omega))
  rw [show j / 5 * 5 + j % 5 = j by omega, h3] at h4
  have h5 := World.var?_cell gOP hvar j
  rw [Nat.zero_add, h5]
  simpa using h4
theorem lxW_of_laid {W : World} (h : laidMetH Tryd.prog LD W) : LxW W := by
  rw [MakeChecks.laidMetH_plain _ _ _ (by kernel_rfl)] at h
  have h3 : laidMet Tryd.prog (("internal/strconv.uint64pow10", tabData .u64 pow10Tab) :: [("strconv.ErrRange", Rows.laid_strconv_ErrRange), ("strconv.ErrSyntax", Rows.laid_strconv_ErrSyntax), ("lariat/lex.signs", Rows.laid_lariat_lex_signs), ("lariat/ltext.operations", Rows.laid_lariat_ltext_operations)]) W := h.tail.tail
  obtain ⟨a0, s0, hv0, -, -, -⟩ := laid_sentinel h3.tail gER gERType Tryd.underlying104 rowES Tryd.underlying128 Tryd.underlying130 rfl rfl Tryd.underlying9 cellsES cellsStr
  obtain ⟨a1, s1, hv1, -, -, -⟩ := laid_sentinel h3.tail.tail gES gESType Tryd.underlying104 rowES Tryd.underlying128 Tryd.underlying130 rfl rfl Tryd.underlying9 cellsES cellsStr
  have h6 : laidMet Tryd.prog (("lariat/lex.signs", .agg (lx.sgL.map fun l => .lit (.string l))) :: [("lariat/ltext.operations", Rows.laid_lariat_ltext_operations)]) W := h3.tail.tail.tail
  have h7 : laidMet Tryd.prog (("lariat/ltext.operations", .agg (opsQ.map opD)) :: []) W := h6.tail
  have hs := strs_of_head gSG gSGType Tryd.underlying108 Tryd.underlying9 cellsStr cellsSG h6
  have c1 : W.cell? ⟨3, 0, none⟩ = some (.iface 128 (.pointer (some a0))) := by have h0 := World.var?_cell gER hv0 0; simpa using h0
  have c0 : W.cell? ⟨2, 0, none⟩ = some (.iface 128 (.pointer (some a1))) := by have h0 := World.var?_cell gES hv1 0; simpa using h0
  refine ⟨fun i hi => ?_, ⟨tabIs_of_head gPT gPTType Tryd.underlying137 Tryd.underlying119 cellsU cellsPT h3, ⟨_, _, c0⟩, ⟨_, _, c1⟩⟩, ops_of_head h7⟩
  have h0 := World.var?_cell gSG hs i
  rw [h0]
  have hl : lx.sgL.length = 25 := by decide
  show (lx.sgL.map fun l => Value.string ⟨l.toArray⟩).toArray[i]? = _
  rw [List.getElem?_toArray, List.getElem?_map, List.getElem?_eq_getElem (by rw [hl]; exact hi)]
  unfold lx.sgS
  rw [show lx.sgL.getD i [] = lx.sgL[i]'(by rw [hl]; exact hi) by simp [List.getD, hl, hi]]
  rfl
end Go.Proofs.YtgnflnfajkoibaaDoor.tx
namespace Go.Proofs.YtgnflnfajkoibaaDoor.tx
open Go.ChangeShapes Go.WideShapes Go.ChangeAt Go.RowKit sr

theorem cellsNm : Tryd.prog.cellsOf 9 = 1 := by kernel_rfl
theorem bytesNm : Tryd.prog.bytesOf 9 = 16 := by kernel_rfl
set_option maxRecDepth 100000 in
theorem open_names_arg {H : Type} {enc : TypeId × Value → H} {W : World} {base : Nat} {v : Value} {d : DataW H} {ps : List MemPlace} (hv : Value.okWide Tryd.prog W .any base 23 v)
    (h : DataW.Trod enc Tryd.prog W 0 (fun _ => true) true 23 v d ps) {ts : List TypeId} {ds : List (DataW H)} (hsz : (DataW.weightsEach Tryd.prog ts ds).all (· ≤ reachBytes) = true) (j : Nat) (htj : ts[j]? = some 23) (hdj : ds[j]? = some d) :
    ∃ (A : Option Addr) (c : Nat) (zs : List ByteArray), v = .slice A zs.length c ∧ zs.length ≤ c ∧ zs.length ≤ 4611686018427387904 ∧ RS encS 1 W A zs := by
  obtain ⟨a0, len, cap, rfl⟩ := okWide_slice Tryd.underlying23 hv
  obtain ⟨fuel, hf⟩ := h
  rcases open_strings Tryd.underlying23 Tryd.underlying9 cellsNm hf with ⟨hcs, hx⟩ | ⟨a, len', cap', zs, hcs, _, hl, hm, hz, hx, hcell, hwz⟩
  · simp [Value.cells] at hcs
    obtain ⟨rfl, rfl, rfl⟩ := hcs
    exact ⟨none, 0, [], rfl, by simp, by simp, (fun h => absurd h (by simp))⟩
  · simp [Value.cells] at hcs
    obtain ⟨rfl, rfl, rfl⟩ := hcs
    simp only [Prod.mk.injEq] at hx
    obtain ⟨rfl, rfl⟩ := hx
    simp only [if_true] at hz
    have hle : len ≤ zs.length := by omega
    have hlen : (zs.take len).length = len := by simp; omega
    have hs := sized_slice hsz htj hdj Tryd.underlying23
    rw [bytesNm] at hs
    have hrb := reachBytes_lt
    have hs2 : (strs (H := H) (zs.take len)).length = len := by simp [strs]; omega
    rw [hs2] at hs
    refine ⟨some a, cap, zs.take len, by rw [hlen], by rw [hlen]; omega, by rw [hlen]; omega, ?_⟩
    · intro h0
      obtain ⟨b, off, spot⟩ := a
      have g0 := hcell 0 (by omega)
      have hspot : spot = none := by simpa [Addr.add] using World.cell?_spot g0
      subst hspot
      have hcell' : ∀ i, i < zs.length → W.cell? ⟨b, off + i, none⟩ = some (.string (zs.getD i ⟨#[]⟩)) := fun i hi => by rw [← add_plain]; exact hcell i hi
      refine ⟨b, off, rfl, ?_, fun i hi j2 hj2 => ?_⟩
      · have g1 := hcell' 0 (by omega)
        rcases Nat.lt_or_ge b W.heap.size with hlt | hge
        · exact hlt
        · simp [World.cell?, Array.getElem?_eq_none hge] at g1
      · obtain rfl : j2 = 0 := by omega
        rw [hlen] at hi
        rw [Nat.mul_one, Nat.add_zero, hcell' i (by omega)]
        have hiz : i < zs.length := by omega
        simp [encS, List.getD, hi, hiz]
end Go.Proofs.YtgnflnfajkoibaaDoor.tx
