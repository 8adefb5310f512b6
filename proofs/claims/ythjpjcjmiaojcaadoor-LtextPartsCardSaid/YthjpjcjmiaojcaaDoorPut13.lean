/- Contracts that the claim stands on, several texts in one: LtxBytesLaw, LtxPartsP. -/
import Derived.Laws.IdiomStrings
import Derived.Test.YthjpjcjmiaojcaaDoorPut1
import Derived.Test.YthjpjcjmiaojcaaDoorPut2
import Derived.Test.YthjpjcjmiaojcaaDoorPut3
import Derived.Test.YthjpjcjmiaojcaaDoorPut4
import Derived.Test.YthjpjcjmiaojcaaDoorPut5
import Derived.Test.YthjpjcjmiaojcaaDoorPut6
import Derived.Test.YthjpjcjmiaojcaaDoorPut7
import Derived.Test.YthjpjcjmiaojcaaDoorPut8
import Derived.Test.YthjpjcjmiaojcaaDoorPut9
import Derived.Test.YthjpjcjmiaojcaaDoorPut10
import Derived.Test.YthjpjcjmiaojcaaDoorPut11
import Derived.Test.YthjpjcjmiaojcaaDoorPut12
namespace Go.Proofs.YthjpjcjmiaojcaaDoor.tx
open Go.ChangeShapes Go.WideShapes Go.ChangeAt Go.RowKit Go.Deep sr lt

theorem hv_no {N : List ByteArray} {m : Nat} (h : hvF N m = false) : m ≤ 60 ∧ N.length ≤ 20 := by
  unfold hvF at h
  simp only [Bool.or_eq_false_iff, decide_eq_false_iff_not] at h
  omega
theorem textV_bad {e : List (Int × Int)} {N : List ByteArray} (h : (textV e N).2 ≠ 0) : (textV e N).1 = ⟨#[]⟩ := by
  unfold textV at h ⊢
  split
  · rfl
  · rename_i h1
    rw [if_neg h1] at h
    split
    · rfl
    · rename_i h2
      rw [if_neg h2] at h
      split
      · rfl
      · rename_i h3
        rw [if_neg h3] at h
        exact absurd rfl h
theorem parseT_bad {N : List ByteArray} {s : ByteArray} {r : lx.Res} (h : (parseT N s r).2.2 ≠ 0) : (parseT N s r).1 = [] := by
  unfold parseT at h ⊢
  by_cases h1 : r.2.2 = 0
  · rw [if_pos h1] at h ⊢
    by_cases h2 : (redV N s r.1).2.2 = 0
    · rw [if_pos h2] at h ⊢
      by_cases h3 : 24 < (redV N s r.1).1.length
      · rw [if_pos h3]
      · rw [if_neg h3] at h ⊢
        by_cases h4 : (textV (redV N s r.1).1 N).1 = s
        · rw [if_pos h4] at h
          exact absurd rfl h
        · rw [if_neg h4]
    · rw [if_neg h2]
  · rw [if_neg h1]
theorem parseT_good {N : List ByteArray} {s : ByteArray} {r : lx.Res} (h : (parseT N s r).2.2 = 0) : (textV (parseT N s r).1 N).1 = s ∧ (parseT N s r).1.length ≤ 24 := by
  unfold parseT at h ⊢
  by_cases h1 : r.2.2 = 0
  · rw [if_pos h1] at h ⊢
    by_cases h2 : (redV N s r.1).2.2 = 0
    · rw [if_pos h2] at h ⊢
      by_cases h3 : 24 < (redV N s r.1).1.length
      · rw [if_pos h3] at h
        cases h
      · rw [if_neg h3] at h ⊢
        by_cases h4 : (textV (redV N s r.1).1 N).1 = s
        · rw [if_pos h4]
          exact ⟨h4, Nat.le_of_not_lt h3⟩
        · rw [if_neg h4] at h
          cases h
    · rw [if_neg h2] at h
      exact absurd h h2
  · rw [if_neg h1] at h
    have h : ((r.2.2 : Nat) : Int) = 0 := h
    omega
theorem op_pos {o : Opr} (h : o ∈ opsQ) : o.sg ≠ [] := by
  revert o
  decide
/-- A formula's text is not empty. -/
theorem textV_pos {e : List (Int × Int)} {N : List ByteArray} (h : (textV e N).2 = 0) : 0 < (textV e N).1.size := by
  unfold textV at h ⊢
  split at h
  · cases h
  · rename_i h1
    rw [if_neg h1]
    split at h
    · rename_i h2; exact absurd h h2
    · rename_i h2
      rw [if_neg h2]
      have hw := Decidable.not_not.1 h2
      split at h
      · rename_i h3; exact absurd h h3
      · rename_i h3
        rw [if_neg h3]
        have hn := Decidable.not_not.1 h3
        have hl : 0 < e.length := by
          rcases e with _ | ⟨x, e⟩
          · revert hw; decide
          · simp
        obtain ⟨f, hf⟩ : ∃ f, e.length = f + 1 := ⟨e.length - 1, by omega⟩
        unfold tB
        rw [size_mk, hf]
        simp only [Nat.add_sub_cancel]
        rcases node_of hw (i := f) (by omega) with ⟨q, h4, h5, h6, _⟩ | ⟨o, h4, h5, _, _⟩
        · rw [txF_none (by rw [h4]; exact opO_3), h4]
          obtain ⟨h7, h8⟩ := nmW_ok hn f q (by omega) h4
          have h9 : lx.nameB (N.getD q.toNat default) = true := by
            unfold mayB at h8
            simp only [Bool.and_eq_true] at h8
            exact h8.1
          unfold lx.nameB at h9
          simp only [Bool.and_eq_true, decide_eq_true_eq] at h9
          have h10 := h9.2.1.1
          have hq : q.toNat < N.length := by omega
          unfold NL
          simp [List.getD, hq] at h10 ⊢
          exact h10
        · rw [txF_some h4]
          have h6 : 0 < (bareF e (NL N) f f o).length := by
            have := List.length_pos_iff.2 (op_pos h5)
            unfold bareF
            split
            · exact this
            · split
              · simp; omega
              · split
                · simp; omega
                · simp; omega
          split
          · simp
          · exact h6
theorem u8_xor (a b : Nat) (ha : a < 256) (hb : b < 256) : bits .xor .u8 (a : Int) (b : Int) = ((a ^^^ b : Nat) : Int) := by
  have hx : a ^^^ b < 2 ^ 8 := Nat.xor_lt_two_pow (by omega) (by omega)
  have h1 : (BitVec.ofInt 8 (a : Int)).toNat = a := by
    rw [BitVec.ofInt_natCast, BitVec.toNat_ofNat]; exact Nat.mod_eq_of_lt (by omega)
  have h2 : (BitVec.ofInt 8 (b : Int)).toNat = b := by
    rw [BitVec.ofInt_natCast, BitVec.toNat_ofNat]; exact Nat.mod_eq_of_lt (by omega)
  show IntKind.u8.wrap ((BitVec.ofInt 8 (a : Int) ^^^ BitVec.ofInt 8 (b : Int)).toNat : Int) = _
  rw [BitVec.toNat_xor, h1, h2, IntKind.wrap_u8']
  omega
/-- A byte that another one is laid over. -/
theorem other_byte (x : UInt8) {b : Int} (hb : 0 ≤ b ∧ b ≤ 255) (h0 : b ≠ 0) : ∃ y : UInt8, y ≠ x ∧ bits .xor .u8 (x.toNat : Int) b = (y.toNat : Int) := by
  obtain ⟨q, rfl⟩ := Int.eq_ofNat_of_zero_le hb.1
  have hx : x.toNat < 256 := x.toNat_lt
  have h3 : x.toNat ^^^ q < 2 ^ 8 := Nat.xor_lt_two_pow (by omega) (by omega)
  refine ⟨UInt8.ofNat (x.toNat ^^^ q), fun e => ?_, ?_⟩
  · have h4 := congrArg UInt8.toNat e
    rw [UInt8.toNat_ofNat', Nat.mod_eq_of_lt h3] at h4
    have h5 : x.toNat ^^^ (x.toNat ^^^ q) = x.toNat ^^^ x.toNat := by rw [h4]
    rw [← Nat.xor_assoc, Nat.xor_self, Nat.zero_xor] at h5
    omega
  · rw [u8_xor _ _ hx (by omega), UInt8.toNat_ofNat', Nat.mod_eq_of_lt h3]
set_option maxRecDepth 100000 in
set_option maxHeartbeats 8000000 in
theorem ltextBytes_any (A : Option Addr) (m c : Nat) (e : List (Int × Int)) (NA : Option Addr) (n d : Nat) (N : List ByteArray) (at_ by_ : Int) (w : World) (hm : m = e.length) (hA : PA w A e) (hm9 : m ≤ 4611686018427387904) (hn : n = N.length) (hnd : n ≤ d) (hn9 : n ≤ 4611686018427387904) (hN : RS encS 1 w NA N)
    (hat : 0 ≤ at_ ∧ at_ ≤ 65535) (hby : 0 ≤ by_ ∧ by_ ≤ 255) (hx : LxW w) : Calls Tryd.prog 5 #[.slice A m c, .slice NA n d, .int .u16 at_, .int .u8 by_] w fun x w' => x = .returned (.bool true) ∧ Below w.heap.size w w' := by
  have HM := Lib.hid hm
  have HA := Lib.hid hA
  have HN := Lib.hid hn
  have HND := Lib.hid hnd
  have HRS := Lib.hid hN
  have HX := Lib.hid hx
  have HAT := Lib.hid hat
  have HBY := Lib.hid hby
  have HHV := Lib.hid (heavy_any A NA c m n d N w hm9 hn hn9 hN)
  obtain ⟨hv, HV⟩ : ∃ b, Hid (hvF N m = b) := ⟨_, Lib.hid rfl⟩
  rw [HV.out] at HHV
  clear hm hA hm9 hn hnd hn9 hN hat hby hx
  go_enter Tryd.func5, Tryd.ntmps5
  go_wp2_with fail
  refine HHV.out.mono ?_
  rintro x w1 ⟨rfl, hb1⟩
  have HB1 := Lib.hid hb1
  clear hb1 HHV
  cases hv with
  | true =>
    go_wp2_with fail
    refine (awake_any w1 (HX.out.below HB1.out)).mono ?_
    rintro x w2 ⟨rfl, hb2⟩
    have HB2 : Hid (Below w.heap.size w w2) := Lib.hid (HB1.out.trans (hb2.mono HB1.out.size))
    clear hb2
    go_wp2
    go_ret
    exact ⟨rfl, HB2.out⟩
  | false =>
    have HS := Lib.hid (hv_no HV.out)
    have HNM : Hid (NmS w NA n d N) := Lib.hid ⟨HRS.out, HN.out, HND.out, by rw [HN.out]; have := HS.out; omega⟩
    have HTC := Lib.hid (text_any A m c NA n d e N w1 HM.out (by have := HS.out; omega) (HA.out.below HB1.out) (HNM.out.below HB1.out) (HX.out.below HB1.out).ops)
    obtain ⟨u, uy, HT⟩ : ∃ u uy, Hid (textV e N = (u, uy)) := ⟨_, _, Lib.hid rfl⟩
    rw [HT.out] at HTC
    go_wp2_with fail
    refine HTC.out.mono ?_
    rintro x w2 ⟨rfl, hb2⟩
    have HB2 : Hid (Below w.heap.size w w2) := Lib.hid (HB1.out.trans (hb2.mono HB1.out.size))
    clear hb2 HTC
    dsimp only
    by_cases hu : uy = 0
    · subst hu
      by_cases hb0 : by_ = 0
      · subst hb0
        go_wp2_with fail
        refine (awake_any w2 (HX.out.below HB2.out)).mono ?_
        rintro x w3 ⟨rfl, hb3⟩
        have HB3 : Hid (Below w.heap.size w w3) := Lib.hid (HB2.out.trans (hb3.mono HB2.out.size))
        clear hb3
        go_wp2
        go_ret
        exact ⟨rfl, HB3.out⟩
      · have hb0b : (by_ == 0) = false := by rw [beq_eq_false_iff_ne]; exact hb0
        have HUP : Hid (0 < u.size) := Lib.hid (by have h := textV_pos (e := e) (N := N) (by rw [HT.out]); rw [HT.out] at h; exact h)
        have hu0 : (u.toList == ([] : List UInt8)) = false := by
          rw [ByteArray.toList_eq, beq_eq_false_iff_ne]
          intro h
          have := HUP.out
          have h2 : u.data.toList.length = 0 := by rw [h]; rfl
          rw [Array.length_toList] at h2
          have h3 : u.size = u.data.size := rfl
          omega
        have HC1 : Hid (∀ W : World, (convert 9 35 (.string u)).run Tryd.prog W = .ok (.slice (some ⟨W.heap.size, 0, none⟩) u.size (grownCap W u.size 0 5)) (W.drew.alloc (.cells (bytesRow u (grownCap W u.size 0 5)) 5 ((bytesRow u (grownCap W u.size 0 5)).size, (bytesRow u (grownCap W u.size 0 5)).size + 1)))) := Lib.hid (fun W => run_bytes_of_string W _ _ _ u Tryd.underlying9 Tryd.underlying35 Tryd.underlying5)
        have hC1 := HC1.out w2
        go_upto_region 9 with (fail)
        obtain ⟨cap, HCAP⟩ : ∃ k, Hid (grownCap w2 u.size 0 5 = k) := ⟨_, Lib.hid rfl⟩
        rw [HCAP.out]
        obtain ⟨w4, HW4⟩ : ∃ w4, w4 = (w2.alloc (.cells (bytesRow u cap) 5 ((bytesRow u cap).size, (bytesRow u cap).size + 1))).drew := ⟨_, rfl⟩
        rw [← HW4]
        obtain ⟨B, HBB⟩ : ∃ B, Hid (B = w2.heap.size) := ⟨_, Lib.hid rfl⟩
        rw [← HBB.out]
        have HH4 : Hid (w4.heap[B]? = some (.cells (bytesRow u cap) 5 ((bytesRow u cap).size, (bytesRow u cap).size + 1))) := Lib.hid (by rw [HW4, HBB.out]; exact World.alloc_heap_new _ _)
        have HB24 : Hid (Below w2.heap.size w2 w4) := Lib.hid (by rw [HW4]; exact (below_one _ _).drew)
        have HB4 : Hid (Below w.heap.size w w4) := Lib.hid (HB2.out.trans (HB24.out.mono HB2.out.size))
        have HBW : Hid (w.heap.size ≤ B) := Lib.hid (by rw [HBB.out]; exact HB2.out.size)
        have HSZ : Hid (u.size ≤ (bytesRow u cap).size) := Lib.hid (by unfold bytesRow; simp)
        have HCE : Hid (∀ (j : Nat) (hj : j < u.data.toList.length), w4.cell? ⟨B, j, none⟩ = some (.int .u8 ((u.data.toList[j]'hj).toNat : Int)) ∧ w4.frozen? ⟨B, j, none⟩ = false) := Lib.hid (fun j hj => by
          have h := HH4.out
          have hj2 : j < u.data.size := by simpa using hj
          have hj3 : j < (bytesRow u cap).size := Nat.lt_of_lt_of_le hj2 HSZ.out
          constructor
          · rw [cell_of h j]
            unfold bytesRow
            rw [Array.getElem?_append_left (by simpa using hj2)]
            simp
            exact ⟨_, Array.getElem?_eq_getElem hj2, rfl⟩
          · simp only [World.frozen?, h]
            simp
            omega)
        clear HW4 HBB HCAP hC1 hu0
        obtain ⟨k, HK⟩ : ∃ k : Nat, Hid (k < u.data.toList.length ∧ at_.tmod (u.size : Int) = (k : Int)) := by
          have h1 := HAT.out
          have h2 := HUP.out
          refine ⟨(at_ % (u.size : Int)).toNat, Lib.hid ⟨?_, ?_⟩⟩
          · have h3 := Int.emod_lt_of_pos at_ (show (0 : Int) < u.size by omega)
            have h4 := Int.emod_nonneg at_ (show (u.size : Int) ≠ 0 by omega)
            have h5 : u.data.toList.length = u.size := by simp
            omega
          · rw [Int.tmod_eq_emod_of_nonneg h1.1]
            have h4 := Int.emod_nonneg at_ (show (u.size : Int) ≠ 0 by omega)
            omega
        have hwa : wrap64 at_ = at_ := IntWalk.wrap64_in _ (by have := HAT.out; omega)
        have hk1 := HK.out.2
        have hk2 : (k : Int) < (u.size : Int) := by have := HK.out.1; simp at this; omega
        have hk3 : (0 : Int) ≤ (k : Int) := by omega
        have hus : (u.size : Int) ≠ 0 := by have := HUP.out; omega
        have c1 := (HCE.out k HK.out.1).1
        have f1 := (HCE.out k HK.out.1).2
        obtain ⟨y, hyx, hxy⟩ := other_byte (u.data.toList[k]'(HK.out.1)) HBY.out hb0
        have HYX := Lib.hid hyx
        clear hyx
        obtain ⟨x, HXK⟩ : ∃ x, Hid (u.data.toList[k]'(HK.out.1) = x) := ⟨_, Lib.hid rfl⟩
        rw [HXK.out] at c1 hxy HYX
        obtain ⟨l2, HL2⟩ : ∃ l2, Hid (u.data.toList.set k y = l2) := ⟨_, Lib.hid rfl⟩
        have HLL : Hid (l2.length = u.size) := Lib.hid (by rw [← HL2.out]; simp)
        have HCN : Hid (∀ (j : Nat) (hj : j < l2.length), (w4.setCell ⟨B, k, none⟩ (.int .u8 (y.toNat : Int))).cell? ((⟨B, 0, none⟩ : Addr).add j) = some (.int .u8 ((l2[j]'hj).toNat : Int))) := Lib.hid (fun j hj => by
          rw [add_plain, Nat.zero_add]
          have hjj : j < u.data.toList.length := by rw [HLL.out] at hj; simpa using hj
          by_cases hjk : j = k
          · subst hjk
            rw [World.cell?_setCell_same _ _ _ (HCE.out j hjj).1]
            simp only [← HL2.out, List.getElem_set_self]
          · rw [World.cell?_setCell_other _ _ _ _ (rc_ne B k j (fun e => hjk e.symm)), (HCE.out j hjj).1]
            simp only [← HL2.out]
            rw [List.getElem_set_ne (fun e => hjk e.symm)])
        have HNE : Hid (u ≠ ⟨l2.toArray⟩) := Lib.hid (fun e => by
          have h1 : u.data.toList = l2 := by rw [e]
          rw [← HL2.out] at h1
          have hk := HK.out.1
          have h2 := congrArg (fun l => l[k]?) h1
          simp only [List.getElem?_eq_getElem hk, List.getElem?_set_self hk] at h2
          injection h2 with h2
          exact HYX.out (h2.symm.trans HXK.out))
        have HC2 : Hid ((convert 35 9 (.slice (some ⟨B, 0, none⟩) l2.length cap)).run Tryd.prog (w4.setCell ⟨B, k, none⟩ (.int .u8 (y.toNat : Int))) = .ok (.string ⟨l2.toArray⟩) (w4.setCell ⟨B, k, none⟩ (.int .u8 (y.toNat : Int)))) := Lib.hid (run_convert_bytes_back _ _ _ 5 _ cap l2 Tryd.underlying35 Tryd.underlying5 Tryd.underlying9 HCN.out)
        rw [HLL.out] at HC2
        have HB5 : Hid (Below w.heap.size w (w4.setCell ⟨B, k, none⟩ (.int .u8 (y.toNat : Int)))) := Lib.hid (HB4.out.setCell HBW.out _)
        go_upto_region 10 with (fail)
        have hC2 := HC2.out
        generalize w4.setCell ⟨B, k, none⟩ (.int .u8 (y.toNat : Int)) = w5 at *
        obtain ⟨s, HSS⟩ : ∃ s : ByteArray, Hid (s = ⟨l2.toArray⟩) := ⟨_, Lib.hid rfl⟩
        rw [← HSS.out] at hC2
        have HPC := Lib.hid (parse_any NA n d N s w5 (HNM.out.below HB5.out) (HX.out.below HB5.out))
        clear c1 f1 hxy
        go_wp2_with fail
        refine HPC.out.mono ?_
        rintro z w6 ⟨r, v, hr, rfl, ho6, hb6⟩
        have HB6 : Hid (Below w.heap.size w w6) := Lib.hid (HB5.out.trans (hb6.mono HB5.out.size))
        have HGD := Lib.hid (fun h => parseT_good (N := N) (s := s) (r := r) h)
        obtain ⟨A6, c6, hv6, hr6⟩ := OR.rs encN_len ho6
        subst hv6
        have HP6 := Lib.hid (pa_of hr6)
        clear hb6 ho6 hr hr6 HPC hC2
        generalize parseT N s r = p at *
        obtain ⟨E, qa, qy⟩ := p
        dsimp only at HGD HP6 ⊢
        obtain ⟨m6, hm6⟩ : ∃ m6, E.length = m6 := ⟨_, rfl⟩
        have HM6 := Lib.hid hm6
        rw [hm6]
        clear hm6
        by_cases hy : qy = 0
        · subst hy
          have HB := Lib.hid (bare_of e A m c w6 HM.out (by have := HS.out; omega) (HA.out.below HB6.out))
          go_wp2_with fail
          refine HB.out.mono ?_
          rintro z w7 ⟨v7, rfl, ho7, hb7⟩
          have HB7 : Hid (Below w.heap.size w w7) := Lib.hid (HB6.out.trans (hb7.mono HB6.out.size))
          obtain ⟨A7, c7, hv7, hr7⟩ := OR.rs encN_len ho7
          subst hv7
          obtain ⟨m7, hm7⟩ : ∃ m7, (e.map bnF).length = m7 := ⟨_, rfl⟩
          have HM7 := Lib.hid hm7
          rw [hm7]
          clear hm7
          have HEQ : Hid (eqP E (e.map bnF) = false) := Lib.hid (decide_eq_false (fun h => by
            have h1 := (HGD.out (by trivial)).1
            rw [h, textV_bn (by rw [HT.out]), HT.out] at h1
            exact HNE.out (h1.trans HSS.out)))
          have HND7 := Lib.hid (nodes_any A6 A7 c6 c7 m6 m7 E (e.map bnF) w7 HM6.out.symm HM7.out.symm (HP6.out.below hb7) (pa_of hr7) (by have := (HGD.out (by trivial)).2; omega) (by rw [List.length_map, ← HM.out]; have := HS.out; omega))
          clear ho7 hr7 hb7 HB
          go_wp2_with fail
          refine HND7.out.mono ?_
          rw [HEQ.out]
          rintro z w8 ⟨rfl, j, rfl⟩
          have HB8 : Hid (Below w.heap.size w (w7.drewN j)) := Lib.hid (below_drewN HB7.out j)
          go_wp2_with fail
          refine (awake_any _ (HX.out.below HB8.out)).mono ?_
          rintro z w9 ⟨rfl, hb9⟩
          have HB9 : Hid (Below w.heap.size w w9) := Lib.hid (HB8.out.trans (hb9.mono HB8.out.size))
          clear hb9
          go_wp2
          go_ret
          exact ⟨rfl, HB9.out⟩
        · have hyb : (qy == 0) = false := by rw [beq_eq_false_iff_ne]; exact hy
          go_wp2_with fail
          refine (awake_any _ (HX.out.below HB6.out)).mono ?_
          rintro z w9 ⟨rfl, hb9⟩
          have HB9 : Hid (Below w.heap.size w w9) := Lib.hid (HB6.out.trans (hb9.mono HB6.out.size))
          clear hb9
          go_wp2
          go_ret
          exact ⟨rfl, HB9.out⟩
    · have hub : (uy == 0) = false := by rw [beq_eq_false_iff_ne]; exact hu
      have HUE : Hid (u = ⟨#[]⟩) := Lib.hid (by have h := textV_bad (e := e) (N := N) (by rw [HT.out]; exact hu); rw [HT.out] at h; exact h)
      have hue := HUE.out
      subst hue
      go_wp2_with fail
      refine (awake_any w2 (HX.out.below HB2.out)).mono ?_
      rintro x w3 ⟨rfl, hb3⟩
      have HB3 : Hid (Below w.heap.size w w3) := Lib.hid (HB2.out.trans (hb3.mono HB2.out.size))
      clear hb3
      go_wp2
      go_ret
      exact ⟨rfl, HB3.out⟩
end Go.Proofs.YthjpjcjmiaojcaaDoor.tx
namespace Go.Proofs.YthjpjcjmiaojcaaDoor.tx
open lt

def One (k : Int) : Prop := k = 4 ∨ k = 8 ∨ k = 11 ∨ k = 12
theorem wr_one {k : Int} (hk : One k) : ∀ (e : List (Int × Int)) (n : Nat), wrF n e = 0 → wrF n (e ++ [(k, 0)]) = 0
  | [], n, h => by
    unfold wrF at h
    have h1 : n = 1 := by
      by_cases h0 : n = 0
      · rw [if_pos h0] at h; cases h
      · rw [if_neg h0] at h
        by_cases h3 : 1 < n
        · rw [if_pos h3] at h; cases h
        · omega
    subst h1
    rcases hk with rfl | rfl | rfl | rfl <;> decide
  | x :: e, n, h => by
    rw [List.cons_append]
    unfold wrF at h ⊢
    by_cases h0 : ndW n x ≠ 0
    · rw [if_pos h0] at h
      exact absurd h h0
    · rw [if_neg h0] at h ⊢
      exact wr_one hk e _ h
theorem outF_app {e : List (Int × Int)} {x : Int × Int} : ∀ {k : Nat}, k ≤ e.length → outF (e ++ [x]) k = outF e k
  | 0, _ => rfl
  | k + 1, h => by rw [outF_succ, outF_succ, outF_app (by omega), getD_app (by omega)]
theorem kids_app {e : List (Int × Int)} {x : Int × Int} {i : Nat} (h : isF e = true) (h2 : isF (e ++ [x]) = true) (hi : i < e.length) : kidsF (e ++ [x]) i = kidsF e i := by
  unfold kidsF
  have e1 : ((i : Nat) : Int).toNat = i := Int.toNat_natCast _
  have e2 : (e ++ [x]).length = e.length + 1 := by simp
  rw [e1, getD_app hi, h, h2, e2, outF_take (e ++ [x]) (show ((i : Int) - 1).toNat < e.length by omega) (by omega), outF_app (Nat.le_refl _)]
  have a2 : (0 : Int) ≤ (i : Int) := by omega
  have a3 : (i : Int) < ((e.length + 1 : Nat) : Int) := by omega
  have a4 : (i : Int) < (e.length : Int) := by omega
  simp only [a2, a3, a4]
theorem txF_app {e : List (Int × Int)} {x : Int × Int} (N : List (List UInt8)) (h : wrF 0 e = 0) (h2 : wrF 0 (e ++ [x]) = 0) : ∀ (f i : Nat) (a : Int), i < e.length → txF (e ++ [x]) N f i a = txF e N f i a
  | 0, _, _, _ => rfl
  | f + 1, i, a, hi => by
    rcases node_of h hi with ⟨q, g1, _, _, _⟩ | ⟨o, g1, _, _, g4⟩
    · rw [txF_none (by rw [getD_app hi, g1]; exact opO_3), txF_none (by rw [g1]; exact opO_3), getD_app hi]
    · rw [txF_some (o := o) (by rw [getD_app hi]; exact g1), txF_some g1]
      have hb : bareF (e ++ [x]) N f i o = bareF e N f i o := by
        unfold bareF
        rw [kids_app (isF_iff.2 h) (isF_iff.2 h2) hi]
        rcases g4 with ⟨k1, _⟩ | ⟨k1, k2, j, v, rfl, k4, k5, _, _⟩ | ⟨k1, k2, k3, j, q, v, rfl, k4, k5, k6, _, _, _⟩
        · rw [if_pos k1, if_pos k1]
        · rw [k5]
          simp only [Int.toNat_natCast]
          rw [txF_app N h h2 f j o.rt (by omega), if_neg k1, if_neg k1, if_pos k2, if_pos k2]
        · rw [k6]
          simp only [Int.toNat_natCast]
          rw [txF_app N h h2 f j o.rt (by omega), txF_app N h h2 f q o.lf (by omega), if_neg k1, if_neg k1, if_neg k2, if_neg k2, if_neg k3, if_neg k3]
      rw [hb]
theorem op_bd {o : Opr} (h : o ∈ opsQ) : 1 ≤ o.bd := by
  revert o
  decide
/-- A part's text where much is asked is the one where nothing is, or that in brackets. -/
theorem txF_ask {e : List (Int × Int)} (N : List (List UInt8)) (f i : Nat) (a : Int) (ha : a = 5) : txF e N (f + 1) i a = txF e N (f + 1) i 1 ∨ txF e N (f + 1) i a = [40] ++ (txF e N (f + 1) i 1 ++ [41]) := by
  cases ho : opO (e.getD i (0, 0)).1 with
  | none => rw [txF_none ho, txF_none ho]; exact .inl rfl
  | some o =>
    have h1 := op_bd (opO_mem ho).1
    rw [txF_some ho, txF_some ho, if_neg (show ¬ o.bd < 1 by omega)]
    by_cases h5 : o.bd < a
    · rw [if_pos h5]; exact .inr rfl
    · rw [if_neg h5]; exact .inl rfl
/-- What an operation of one part writes ahead of it. -/
def hdF (k : Int) : List UInt8 := if k = 4 then [33] else if k = 8 then [88, 32] else if k = 11 then [70, 32] else [71, 32]
theorem one_op {k : Int} (hk : One k) : ∃ o, opO k = some o ∧ o.bd = 5 ∧ o.rt = 5 ∧ o.lf = 0 ∧ (o.op = 4 ∧ hdF k = o.sg ∨ o.op ≠ 4 ∧ hdF k = o.sg ++ [32]) := by
  rcases hk with rfl | rfl | rfl | rfl <;> exact ⟨_, rfl, rfl, rfl, rfl, by decide⟩
theorem one_kT {k : Int} (hk : One k) : kT k = 1 := by
  rcases hk with rfl | rfl | rfl | rfl <;> decide
theorem nmW_app (N : List ByteArray) {k : Int} (hk : One k) : ∀ e : List (Int × Int), nmW N (e ++ [(k, 0)]) = nmW N e
  | [] => by
    have h3 : k ≠ 3 := by rcases hk with rfl | rfl | rfl | rfl <;> decide
    show (if k ≠ 3 then nmW N [] else _) = nmW N []
    rw [if_pos h3]
  | x :: e => by
    rw [List.cons_append, nmW, nmW, nmW_app N hk e]
/-- The text of a formula with an operation of one part behind it. -/
theorem textV_more {e : List (Int × Int)} {N : List ByteArray} {k : Int} (hk : One k) (hl : e.length < 24) (h : (textV e N).2 = 0) :
    (textV (e ++ [(k, 0)]) N).2 = 0 ∧ ((textV (e ++ [(k, 0)]) N).1 = ⟨(hdF k ++ (textV e N).1.data.toList).toArray⟩ ∨ (textV (e ++ [(k, 0)]) N).1 = ⟨(hdF k ++ ([40] ++ ((textV e N).1.data.toList ++ [41]))).toArray⟩) := by
  have e2 : (e ++ [(k, 0)]).length = e.length + 1 := by simp
  unfold textV at h ⊢
  rw [if_neg (by omega)] at h
  split at h
  · rename_i h2; exact absurd h h2
  · rename_i h2
    have hw := Decidable.not_not.1 h2
    split at h
    · rename_i h3; exact absurd h h3
    · rename_i h3
      have hn := Decidable.not_not.1 h3
      have hw2 := wr_one hk e 0 hw
      rw [e2, if_neg (by omega), if_neg (by rw [hw2]; decide), nmW_app N hk, if_neg h3, if_neg (show ¬ 24 < e.length by omega), if_neg h2, if_neg h3]
      refine ⟨rfl, ?_⟩
      have hl0 : 0 < e.length := (whole_last hw).1
      obtain ⟨f, hf⟩ : ∃ f, e.length = f + 1 := ⟨e.length - 1, by omega⟩
      obtain ⟨o, o1, o2, o3, o4, o5⟩ := one_op hk
      have hk1 : kidsF (e ++ [(k, 0)]) ((e.length : Nat) : Int) = ((e.length : Int) - 1, -1) := by
        unfold kidsF
        have e1 : ((e.length : Nat) : Int).toNat = e.length := Int.toNat_natCast _
        rw [e1, getD_last, if_pos ⟨isF_iff.2 hw2, by omega, by rw [e2]; omega, by rw [one_kT hk]; decide⟩, if_pos (one_kT hk)]
      have e3 : ((e.length : Int) - 1).toNat = f := by omega
      unfold tB
      rw [Nat.add_sub_cancel, txF_some (o := o) (by rw [getD_last]; exact o1), if_neg (by omega)]
      unfold bareF
      rw [hk1]
      simp only [e3]
      rw [txF_app (NL N) hw hw2 e.length f o.rt (by omega), if_neg (show ¬ o.rt = 0 by omega), if_pos o4, hf, Nat.add_sub_cancel]
      rcases txF_ask (e := e) (NL N) f f o.rt o3 with q | q <;> rw [q] <;> rcases o5 with ⟨p1, p2⟩ | ⟨p1, p2⟩ <;> rw [p2]
      · rw [if_pos p1]; exact .inl rfl
      · rw [if_neg p1]; left; simp
      · rw [if_pos p1]; exact .inr rfl
      · rw [if_neg p1]; right; simp
end Go.Proofs.YthjpjcjmiaojcaaDoor.tx
