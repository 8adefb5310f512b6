/- Contracts that the claim stands on, several texts in one: EtFirst, EtLays, EtLayOk, EtToksOk, EtScanTxt, EtRead1, EtRead2. -/
import Derived.Test.YtmnigdphikoljaaGreatDoorPut1
import Derived.Test.YtmnigdphikoljaaGreatDoorPut2
import Derived.Test.YtmnigdphikoljaaGreatDoorPut3
import Derived.Test.YtmnigdphikoljaaGreatDoorPut4
import Derived.Test.YtmnigdphikoljaaGreatDoorPut5
import Derived.Test.YtmnigdphikoljaaGreatDoorPut6
import Derived.Test.YtmnigdphikoljaaGreatDoorPut7
import Derived.Test.YtmnigdphikoljaaGreatDoorPut8
import Derived.Test.YtmnigdphikoljaaGreatDoorPut9
import Derived.Test.YtmnigdphikoljaaGreatDoorPut10
import Derived.Test.YtmnigdphikoljaaGreatDoorPut11
import Derived.Test.YtmnigdphikoljaaGreatDoorPut12
import Derived.Test.YtmnigdphikoljaaGreatDoorPut13
import Derived.Test.YtmnigdphikoljaaGreatDoorPut14
import Derived.Test.YtmnigdphikoljaaGreatDoorPut15
import Derived.Test.YtmnigdphikoljaaGreatDoorPut16
import Derived.Test.YtmnigdphikoljaaGreatDoorPut17
import Derived.Test.YtmnigdphikoljaaGreatDoorPut18
import Derived.Test.YtmnigdphikoljaaGreatDoorPut19
import Derived.Test.YtmnigdphikoljaaGreatDoorPut20
import Derived.Test.YtmnigdphikoljaaGreatDoorPut21
import Derived.Test.YtmnigdphikoljaaGreatDoorPut22
import Derived.Test.YtmnigdphikoljaaGreatDoorPut23
import Derived.Test.YtmnigdphikoljaaGreatDoorPut24
import Derived.Test.YtmnigdphikoljaaGreatDoorPut25
import Derived.Test.YtmnigdphikoljaaGreatDoorPut26
import Derived.Test.YtmnigdphikoljaaGreatDoorPut27
import Derived.Test.YtmnigdphikoljaaGreatDoorPut28
import Derived.Test.YtmnigdphikoljaaGreatDoorPut29
import Derived.Test.YtmnigdphikoljaaGreatDoorPut30
import Derived.Test.YtmnigdphikoljaaGreatDoorPut31
import Derived.Test.YtmnigdphikoljaaGreatDoorPut32
import Derived.Test.YtmnigdphikoljaaGreatDoorPut33
namespace Go.Proofs.YtmnigdphikoljaaGreatDoor.lx
open Go.ChangeShapes Go.WideShapes Go.ChangeAt Go.RowKit Go.Deep

theorem bt_left {t : ByteArray} {r : List UInt8} {i : Nat} (h : i < t.size) : bt ⟨(t.data.toList ++ r).toArray⟩ i = bt t i := by
  rw [bt_app_left (by rw [size_toList]; exact h), mk_list]
theorem bt_mid {t : ByteArray} {r : List UInt8} (h : 0 < r.length) : ∃ b, r.head? = some b ∧ bt ⟨(t.data.toList ++ r).toArray⟩ t.size = b.toNat := by
  cases r with
  | nil => cases h
  | cons b r =>
    refine ⟨b, rfl, ?_⟩
    rw [← size_toList t, bt_app_right (by simp)]
    rfl
theorem size_lay (t : ByteArray) (r : List UInt8) : (⟨(t.data.toList ++ r).toArray⟩ : ByteArray).size = t.size + r.length := by
  rw [size_list (t.data.toList ++ r), List.length_append, size_toList]
theorem word_lay {t : ByteArray} {r : List UInt8} (h1 : 1 ≤ t.size) (h0 : letB (bt t 0) = false) : wordN ⟨(t.data.toList ++ r).toArray⟩ = 0 := by
  refine wordN_of (Nat.zero_le _) (fun i hi => absurd hi (by omega)) (fun _ => ?_)
  rw [bt_left (by omega)]
  unfold okB
  rw [h0]
  simp
theorem dig_lay {t : ByteArray} {r : List UInt8} (h1 : 1 ≤ t.size) (h0 : digB (bt t 0) = false) : digN ⟨(t.data.toList ++ r).toArray⟩ = 0 := by
  refine digN_of (Nat.zero_le _) (fun i hi => absurd hi (by omega)) (fun _ => ?_)
  rw [bt_left (by omega)]
  exact h0
theorem first_word {nm : List UInt8 → Int × Bool} {t : ByteArray} {r : List UInt8} (h1 : 1 ≤ t.size) (h2 : t.size ≤ 16) (h3 : ∀ i, i < t.size → okB i (bt t i) = true) (h4 : ∀ b, r.head? = some b → okB t.size b.toNat = false) : firstP nm ⟨(t.data.toList ++ r).toArray⟩ = .ok (1, 0, t.size) := by
  have hw : wordN ⟨(t.data.toList ++ r).toArray⟩ = t.size := by
    refine wordN_of (by rw [size_lay]; omega) (fun i hi => by rw [bt_left hi]; exact h3 i hi) (fun h => ?_)
    rw [size_lay] at h
    obtain ⟨b, hb, e⟩ := bt_mid (t := t) (r := r) (by omega)
    rw [e]
    exact h4 b hb
  unfold firstP
  rw [hw, if_neg (by omega), if_pos (by omega)]
theorem first_num {nm : List UInt8 → Int × Bool} {t : ByteArray} {r : List UInt8} {n : Int} (h1 : 1 ≤ t.size) (h3 : ∀ i, i < t.size → digB (bt t i) = true) (h4 : ∀ b, r.head? = some b → digB b.toNat = false) (hn : nm t.data.toList = (n, true)) : firstP nm ⟨(t.data.toList ++ r).toArray⟩ = .ok (2, n, t.size) := by
  have hl : letB (bt t 0) = false := by
    have h := h3 0 (by omega)
    unfold digB at h
    have h := of_decide_eq_true h
    exact decide_eq_false (by omega)
  have hw := word_lay (r := r) h1 hl
  have hd : digN ⟨(t.data.toList ++ r).toArray⟩ = t.size := by
    refine digN_of (by rw [size_lay]; omega) (fun i hi => by rw [bt_left hi]; exact h3 i hi) (fun h => ?_)
    rw [size_lay] at h
    obtain ⟨b, hb, e⟩ := bt_mid (t := t) (r := r) (by omega)
    rw [e]
    exact h4 b hb
  have he : (⟨(t.data.toList ++ r).toArray⟩ : ByteArray).extract 0 t.size = t := by
    refine ext_bt (by rw [ByteArray.size_extract, size_lay]; omega) (fun i hi => ?_)
    rw [ByteArray.size_extract, size_lay] at hi
    rw [bt_extract (by omega) (by rw [size_lay]; omega), Nat.zero_add, bt_left (by omega)]
  unfold firstP
  rw [hw, hd, if_neg (by decide), if_neg (by decide), if_pos (by omega), he, hn, if_pos rfl]
theorem first_sign {nm : List UInt8 → Int × Bool} {t : ByteArray} {r : List UInt8} (h1 : 1 ≤ t.size) (hl : letB (bt t 0) = false) (hd : digB (bt t 0) = false) (hs : signN ⟨(t.data.toList ++ r).toArray⟩ = t.size) : firstP nm ⟨(t.data.toList ++ r).toArray⟩ = .ok (3, 0, t.size) := by
  unfold firstP
  rw [word_lay h1 hl, dig_lay h1 hd, hs, if_neg (by decide), if_neg (by decide), if_neg (by decide), if_pos (by omega)]
theorem sign_one {b : UInt8} {r : List UInt8} (h1 : oneB b.toNat = true) (h2 : ∀ c, r.head? = some c → twoB b.toNat c.toNat = false) : signN ⟨((⟨#[b]⟩ : ByteArray).data.toList ++ r).toArray⟩ = 1 := by
  have hz : (⟨((⟨#[b]⟩ : ByteArray).data.toList ++ r).toArray⟩ : ByteArray).size = 1 + r.length := size_lay ⟨#[b]⟩ r
  have e0 : bt ⟨((⟨#[b]⟩ : ByteArray).data.toList ++ r).toArray⟩ 0 = b.toNat := (bt_left (t := ⟨#[b]⟩) (r := r) (show 0 < 1 by decide)).trans rfl
  unfold signN
  rw [hz, e0]
  rw [if_neg, if_pos ⟨by omega, h1⟩]
  rintro ⟨g1, g2⟩
  obtain ⟨c, hc, e⟩ := bt_mid (t := ⟨#[b]⟩) (r := r) (by omega)
  rw [show bt ⟨((⟨#[b]⟩ : ByteArray).data.toList ++ r).toArray⟩ 1 = c.toNat from e, h2 c hc] at g2
  cases g2
theorem sign_two {b c : UInt8} {r : List UInt8} (h1 : twoB b.toNat c.toNat = true) : signN ⟨((⟨#[b, c]⟩ : ByteArray).data.toList ++ r).toArray⟩ = 2 := by
  have hz : (⟨((⟨#[b, c]⟩ : ByteArray).data.toList ++ r).toArray⟩ : ByteArray).size = 2 + r.length := size_lay ⟨#[b, c]⟩ r
  have e0 : bt ⟨((⟨#[b, c]⟩ : ByteArray).data.toList ++ r).toArray⟩ 0 = b.toNat := (bt_left (t := ⟨#[b, c]⟩) (r := r) (show 0 < 2 by decide)).trans rfl
  have e1 : bt ⟨((⟨#[b, c]⟩ : ByteArray).data.toList ++ r).toArray⟩ 1 = c.toNat := (bt_left (t := ⟨#[b, c]⟩) (r := r) (show 1 < 2 by decide)).trans rfl
  unfold signN
  rw [hz, e0, e1, if_pos ⟨by omega, h1⟩]
end Go.Proofs.YtmnigdphikoljaaGreatDoor.lx
namespace Go.Proofs.YtmnigdphikoljaaGreatDoor.et
open Go.ChangeShapes Go.WideShapes Go.ChangeAt Go.RowKit Go.Deep

def wT (s : ByteArray) : Option lx.Tok := some ⟨1, 0, 0, s⟩
def sT (s : ByteArray) : Option lx.Tok := some ⟨3, 0, 0, s⟩
def nT (n : Int) : Option lx.Tok := some ⟨2, n, 0, dS n⟩
def brL (l : List (Option lx.Tok)) : List (Option lx.Tok) := sT ⟨#[40]⟩ :: (l ++ [sT ⟨#[41]⟩])
def numL (n : Int) : List (Option lx.Tok) := if n < 0 then [sT ⟨#[45]⟩, nT (-n)] else [nT n]
def bndL (nd : Int × Int) (least : Nat) (l : List (Option lx.Tok)) : List (Option lx.Tok) := match pOf nd.1 with
  | none => l
  | some p => if p.2.1 < least then brL l else l
def lfL (N : Nm) (nd : Int × Int) : List (Option lx.Tok) :=
  if nd.1 = 1 then numL nd.2 else if nd.1 = 2 ∨ nd.1 = 4 then [wT (nameB N nd)] else if nd.1 = 5 then [wT ⟨#[115, 101, 108, 102]⟩]
  else if nd.1 = 6 then wT ⟨#[108, 101, 110]⟩ :: brL [wT (nameB N nd)] else if nd.1 = 7 then wT ⟨#[97, 116]⟩ :: brL [wT (nameB N nd), sT ⟨#[44]⟩, none, nT (nd.2 % 16)] else wT ⟨#[110, 111, 110, 101]⟩ :: brL [wT (nameB N nd)]
def unL (N : Nm) (nd r : Int × Int) (l : List (Option lx.Tok)) : List (Option lx.Tok) :=
  if nd.1 = 3 then wT (nameB N nd) :: sT ⟨#[91]⟩ :: (l ++ [sT ⟨#[93]⟩]) else if nd.1 = 9 then sT ⟨#[33]⟩ :: bndL r 6 l else sT ⟨#[45]⟩ :: (if r.1 = 1 then brL l else bndL r 6 l)
def biL (nd ra rb : Int × Int) (la lb : List (Option lx.Tok)) : List (Option lx.Tok) := match pOf nd.1 with
  | none => []
  | some p => bndL ra (if p.2.1 = 3 then 4 else p.2.1) la ++ (none :: sT p.2.2.1 :: none :: bndL rb (p.2.1 + 1) lb)
def toks (N : Nm) : Ex → List (Option lx.Tok)
  | .lf nd => lfL N nd
  | .un nd a => unL N nd a.root (toks N a)
  | .bi nd a b => biL nd a.root b.root (toks N a) (toks N b)
def bS (s : ByteArray) : List UInt8 := s.data.toList
theorem bS_app (x y : ByteArray) : bS (x ++ y) = bS x ++ bS y := by
  unfold bS
  rw [ByteArray.data_append, Array.toList_append]
theorem brL_lay {l : List (Option lx.Tok)} {t : ByteArray} (h : lx.lay l = bS t) : lx.lay (brL l) = bS (brB t) := by
  unfold brL brB
  rw [bS_app, bS_app, sT, lx.lay, lx.lay_app, h]
  rfl
theorem bndL_lay {nd : Int × Int} {least : Nat} {l : List (Option lx.Tok)} {t : ByteArray} (h : lx.lay l = bS t) : lx.lay (bndL nd least l) = bS (bndT nd least t) := by
  unfold bndL bndT
  cases pOf nd.1 with
  | none => exact h
  | some p =>
    dsimp only
    split
    · exact brL_lay h
    · exact h
theorem numL_lay (n : Int) : lx.lay (numL n) = bS (dS n) := by
  unfold numL
  split
  · rename_i hn
    show [45] ++ (bS (dS (-n)) ++ []) = bS (dS n)
    rw [List.append_nil]
    unfold bS dS Lib.itoa
    rw [if_pos hn, if_neg (by omega)]
    have e : (-n).toNat = n.natAbs := by omega
    simp [e]
  · show bS (dS n) ++ [] = _
    rw [List.append_nil]
theorem wT_lay (s : ByteArray) (l : List (Option lx.Tok)) : lx.lay (wT s :: l) = bS s ++ lx.lay l := rfl
theorem sT_lay (s : ByteArray) (l : List (Option lx.Tok)) : lx.lay (sT s :: l) = bS s ++ lx.lay l := rfl
theorem nT_lay (n : Int) (l : List (Option lx.Tok)) : lx.lay (nT n :: l) = bS (dS n) ++ lx.lay l := rfl
theorem no_lay (l : List (Option lx.Tok)) : lx.lay (none :: l) = bS ⟨#[32]⟩ ++ lx.lay l := rfl
theorem nil_lay : lx.lay [] = [] := rfl
theorem one_lay (s : ByteArray) : lx.lay [wT s] = bS s := by rw [wT_lay, nil_lay, List.append_nil]
theorem lfL_lay (N : Nm) (nd : Int × Int) : lx.lay (lfL N nd) = bS (lfT N nd) := by
  unfold lfL lfT
  split
  · exact numL_lay _
  · split
    · exact one_lay _
    · split
      · exact one_lay _
      · split
        · rw [wT_lay, brL_lay (one_lay _), bS_app]
        · split
          · rw [wT_lay, brL_lay (t := nameB N nd ++ ⟨#[44, 32]⟩ ++ dS (nd.2 % 16)) ?_, bS_app]
            rw [wT_lay, sT_lay, no_lay, nT_lay, nil_lay, List.append_nil, bS_app, bS_app]
            simp only [List.append_assoc]
            rfl
          · rw [wT_lay, brL_lay (one_lay _), bS_app]
theorem unL_lay (N : Nm) (nd r : Int × Int) {l : List (Option lx.Tok)} {t : ByteArray} (h : lx.lay l = bS t) : lx.lay (unL N nd r l) = bS (unT N nd r t) := by
  unfold unL unT
  split
  · rw [wT_lay, sT_lay, lx.lay_app, h, sT_lay, nil_lay, List.append_nil, bS_app, bS_app, bS_app]
    simp only [List.append_assoc]
  · split
    · rw [sT_lay, bndL_lay h, bS_app]
    · rw [sT_lay, bS_app]
      split
      · rw [brL_lay h]
      · rw [bndL_lay h]
theorem biL_lay (nd ra rb : Int × Int) {la lb : List (Option lx.Tok)} {ta tb : ByteArray} (ha : lx.lay la = bS ta) (hb : lx.lay lb = bS tb) : lx.lay (biL nd ra rb la lb) = bS (biT nd ra rb ta tb) := by
  unfold biL biT
  cases pOf nd.1 with
  | none => rfl
  | some p =>
    dsimp only
    rw [lx.lay_app, bndL_lay ha, no_lay, sT_lay, no_lay, bndL_lay hb, bS_app, bS_app, bS_app, bS_app]
    simp only [List.append_assoc]
/-- The text of a tree is its tokens, laid. -/
theorem toks_lay (N : Nm) : ∀ x : Ex, lx.lay (toks N x) = bS (txt N x)
  | .lf nd => lfL_lay N nd
  | .un nd a => unL_lay N nd a.root (toks_lay N a)
  | .bi nd a b => biL_lay nd a.root b.root (toks_lay N a) (toks_lay N b)
end Go.Proofs.YtmnigdphikoljaaGreatDoor.et
namespace Go.Proofs.YtmnigdphikoljaaGreatDoor.et
open Go.ChangeShapes Go.WideShapes Go.ChangeAt Go.RowKit Go.Deep

/-- What may follow an expression: nothing, a blank, a closing bracket. -/
def Saf (R : List (Option lx.Tok)) : Prop := ∀ b, (lx.lay R).head? = some b → b = 32 ∨ b = 41 ∨ b = 93
/-- What does not turn a sign ahead of it into another one. -/
def Fst (R : List (Option lx.Tok)) : Prop := ∀ b, (lx.lay R).head? = some b → b ≠ 61 ∧ b ≠ 62
/-- What may follow a word or a number. -/
def Aft (R : List (Option lx.Tok)) : Prop := ∀ b, (lx.lay R).head? = some b → b = 32 ∨ b = 40 ∨ b = 41 ∨ b = 44 ∨ b = 91 ∨ b = 93
theorem Saf.aft {R : List (Option lx.Tok)} (h : Saf R) : Aft R := fun b hb => by
  rcases h b hb with rfl | rfl | rfl <;> simp
theorem Aft.fst {R : List (Option lx.Tok)} (h : Aft R) : Fst R := fun b hb => by
  rcases h b hb with rfl | rfl | rfl | rfl | rfl | rfl <;> decide
theorem okB_aft {i : Nat} {b : UInt8} (h : b = 32 ∨ b = 40 ∨ b = 41 ∨ b = 44 ∨ b = 91 ∨ b = 93) : lx.okB i b.toNat = false ∧ lx.digB b.toNat = false := by
  have e : ∀ k : Nat, k = 32 ∨ k = 40 ∨ k = 41 ∨ k = 44 ∨ k = 91 ∨ k = 93 → lx.okB i k = false ∧ lx.digB k = false := by
    intro k hk
    have h1 : lx.letB (k : Nat) = false := decide_eq_false (by omega)
    have h2 : lx.digB (k : Nat) = false := decide_eq_false (by omega)
    refine ⟨?_, h2⟩
    unfold lx.okB
    rw [h1, h2, decide_eq_false (show ¬ k = 95 by omega)]
    simp
  apply e
  rcases h with rfl | rfl | rfl | rfl | rfl | rfl <;> decide
theorem head_app {s : ByteArray} {R : List (Option lx.Tok)} (h : 0 < s.size) (b : UInt8) (hb : (bS s ++ lx.lay R).head? = some b) : b.toNat = lx.bt s 0 := by
  have e := lx.bt_left (t := s) (r := lx.lay R) h
  unfold bS at hb
  cases hc : s.data.toList ++ lx.lay R with
  | nil => rw [hc] at hb; cases hb
  | cons x l =>
    rw [hc] at hb e
    cases hb
    rw [← e]
    rfl
theorem word_ok {s : ByteArray} {R : List (Option lx.Tok)} (h1 : 1 ≤ s.size) (h2 : s.size ≤ 16) (h3 : ∀ i, i < s.size → lx.okB i (lx.bt s i) = true) (hR : Aft R) (hl : lx.LayOk numD R) : lx.LayOk numD (wT s :: R) ∧ Fst (wT s :: R) := by
  refine ⟨⟨h1, lx.first_word h1 h2 h3 (fun b hb => (okB_aft (hR b hb)).1), hl⟩, fun b hb => ?_⟩
  rw [wT_lay] at hb
  have e := head_app (by omega) b hb
  have h := h3 0 (by omega)
  rw [← e] at h
  constructor
  · rintro rfl
    revert h
    decide
  · rintro rfl
    revert h
    decide
theorem name_ok {s : ByteArray} (h : lx.nameB s = true) : 1 ≤ s.size ∧ s.size ≤ 16 ∧ ∀ i, i < s.size → lx.okB i (lx.bt s i) = true := by
  unfold lx.nameB at h
  rw [Bool.and_eq_true, Bool.and_eq_true] at h
  obtain ⟨_, h1, h2⟩ := h
  have h1 := of_decide_eq_true h1
  have h2 : lx.wordN s = s.size := of_decide_eq_true h2
  have h3 := (lx.wordN_spec s).2.1
  rw [h2] at h3
  exact ⟨h1.1, h1.2, h3⟩
theorem sign_ok {b : UInt8} {R : List (Option lx.Tok)} (h1 : lx.oneB b.toNat = true) (hl : lx.letB (b.toNat : Nat) = false) (hd : lx.digB (b.toNat : Nat) = false) (h2 : ∀ c, (lx.lay R).head? = some c → lx.twoB b.toNat c.toNat = false) (hR : lx.LayOk numD R) : lx.LayOk numD (sT ⟨#[b]⟩ :: R) :=
  ⟨by show 0 < 1; decide, lx.first_sign (t := ⟨#[b]⟩) (by show 1 ≤ 1; decide) hl hd (lx.sign_one h1 h2), hR⟩
theorem sign2_ok {b c : UInt8} {R : List (Option lx.Tok)} (h1 : lx.twoB b.toNat c.toNat = true) (hl : lx.letB (b.toNat : Nat) = false) (hd : lx.digB (b.toNat : Nat) = false) (hR : lx.LayOk numD R) : lx.LayOk numD (sT ⟨#[b, c]⟩ :: R) :=
  ⟨by show 0 < 2; decide, lx.first_sign (t := ⟨#[b, c]⟩) (by show 1 ≤ 2; decide) hl hd (lx.sign_two h1), hR⟩
theorem dec_dig (u : Nat) : Lib.decDigits u ≠ [] ∧ ∀ b ∈ Lib.decDigits u, 48 ≤ b.toNat ∧ b.toNat ≤ 57 := by
  induction u using Nat.strongRecOn with
  | _ u ih =>
    by_cases h : u < 10
    · rw [Lib.decDigits_one h]
      refine ⟨by simp, fun b hb => ?_⟩
      rw [List.mem_singleton.1 hb, dig_nat h]
      omega
    · rw [decDigits_big h]
      refine ⟨by simp, fun b hb => ?_⟩
      rcases List.mem_append.1 hb with hb | hb
      · exact (ih (u / 10) (by omega)).2 b hb
      · rw [List.mem_singleton.1 hb, dig_nat (by omega)]
        omega
theorem num_ok {n : Int} {R : List (Option lx.Tok)} (h0 : 0 ≤ n) (h1 : n ≤ 1048576) (hR : Aft R) (hl : lx.LayOk numD R) : lx.LayOk numD (nT n :: R) ∧ Fst (nT n :: R) := by
  have hi : (dS n).data.toList = Lib.decDigits n.toNat := by
    unfold dS Lib.itoa
    rw [if_neg (by omega)]
  have hz : 1 ≤ (dS n).size := by
    rw [← lx.size_toList, hi]
    exact List.length_pos_iff.2 (dec_dig _).1
  have hd : ∀ i, i < (dS n).size → lx.digB (lx.bt (dS n) i) = true := fun i h => by
    rw [lx.bt_eq h]
    have hm : (dS n)[i] ∈ (dS n).data.toList := by
      rw [Array.mem_toList_iff]
      exact Array.getElem_mem _
    rw [hi] at hm
    have := (dec_dig _).2 _ hm
    exact decide_eq_true (by omega)
  have hn : numD (dS n).data.toList = (n, true) := numD_some (by omega) h1 (by rw [hi]; unfold Lib.itoa; rw [if_neg (by omega)])
  refine ⟨⟨hz, lx.first_num hz hd (fun b hb => (okB_aft (i := 0) (hR b hb)).2) hn, hl⟩, fun b hb => ?_⟩
  rw [nT_lay] at hb
  have e := head_app (by omega) b hb
  have h := hd 0 (by omega)
  rw [← e] at h
  constructor
  · rintro rfl
    revert h
    decide
  · rintro rfl
    revert h
    decide
end Go.Proofs.YtmnigdphikoljaaGreatDoor.et
namespace Go.Proofs.YtmnigdphikoljaaGreatDoor.et
open Go.ChangeShapes Go.WideShapes Go.ChangeAt Go.RowKit Go.Deep

/-- What is asked of a node. -/
def GoodL (N : Nm) (nd : Int × Int) : Prop := (∀ l, nmOf N nd.1 = some l → lx.nameB (nameB N nd) = true) ∧ (nd.1 = 1 → -1048576 ≤ nd.2 ∧ nd.2 ≤ 1048576)
/-- These tokens stand, whatever may follow an expression behind them. -/
def OkL (l : List (Option lx.Tok)) : Prop := ∀ R, lx.LayOk numD R → Saf R → lx.LayOk numD (l ++ R) ∧ Fst (l ++ R)
theorem two_no {b : Nat} (h : b = 40 ∨ b = 41 ∨ b = 91 ∨ b = 93 ∨ b = 44 ∨ b = 43 ∨ b = 42) (c : Nat) : lx.twoB b c = false := by
  rcases h with rfl | rfl | rfl | rfl | rfl | rfl | rfl <;> simp [lx.twoB]
theorem head_sT {b : UInt8} {R : List (Option lx.Tok)} {c : UInt8} (h : (lx.lay (sT ⟨#[b]⟩ :: R)).head? = some c) : c = b := by
  rw [sT_lay] at h
  exact (Option.some.inj h).symm
theorem head_none {R : List (Option lx.Tok)} {c : UInt8} (h : (lx.lay (none :: R)).head? = some c) : c = 32 := (Option.some.inj h).symm
theorem close_ok {b : UInt8} (hb : b = 41 ∨ b = 93) {R : List (Option lx.Tok)} (hR : lx.LayOk numD R) : lx.LayOk numD (sT ⟨#[b]⟩ :: R) ∧ Saf (sT ⟨#[b]⟩ :: R) := by
  refine ⟨?_, fun c hc => ?_⟩
  · rcases hb with rfl | rfl
    · exact sign_ok (by decide) (by decide) (by decide) (fun c _ => two_no (.inr (.inl rfl)) _) hR
    · exact sign_ok (by decide) (by decide) (by decide) (fun c _ => two_no (.inr (.inr (.inr (.inl rfl)))) _) hR
  · rw [head_sT hc]
    exact .inr hb
theorem open_ok {b : UInt8} (hb : b = 40 ∨ b = 91) {R : List (Option lx.Tok)} (hR : lx.LayOk numD R) : lx.LayOk numD (sT ⟨#[b]⟩ :: R) ∧ Aft (sT ⟨#[b]⟩ :: R) := by
  refine ⟨?_, fun c hc => ?_⟩
  · rcases hb with rfl | rfl
    · exact sign_ok (by decide) (by decide) (by decide) (fun c _ => two_no (.inl rfl) _) hR
    · exact sign_ok (by decide) (by decide) (by decide) (fun c _ => two_no (.inr (.inr (.inl rfl))) _) hR
  · rw [head_sT hc]
    rcases hb with rfl | rfl <;> simp
theorem brL_ok {l : List (Option lx.Tok)} (h : OkL l) {R : List (Option lx.Tok)} (hR : lx.LayOk numD R) : lx.LayOk numD (brL l ++ R) ∧ Aft (brL l ++ R) := by
  have e : brL l ++ R = sT ⟨#[40]⟩ :: (l ++ (sT ⟨#[41]⟩ :: R)) := by simp [brL]
  rw [e]
  obtain ⟨h1, h2⟩ := close_ok (.inl rfl) hR
  exact open_ok (.inl rfl) (h _ h1 h2).1
theorem brL_okL {l : List (Option lx.Tok)} (h : OkL l) : OkL (brL l) := fun R hR _ => ⟨(brL_ok h hR).1, (brL_ok h hR).2.fst⟩
theorem bndL_ok {nd : Int × Int} {least : Nat} {l : List (Option lx.Tok)} (h : OkL l) : OkL (bndL nd least l) := by
  unfold bndL
  cases pOf nd.1 with
  | none => exact h
  | some p =>
    dsimp only
    split
    · exact brL_okL h
    · exact h
theorem minus_ok {R : List (Option lx.Tok)} (hR : lx.LayOk numD R) (hF : Fst R) : lx.LayOk numD (sT ⟨#[45]⟩ :: R) ∧ Fst (sT ⟨#[45]⟩ :: R) := by
  refine ⟨sign_ok (by decide) (by decide) (by decide) (fun c hc => ?_) hR, fun c hc => by rw [head_sT hc]; decide⟩
  have h := (hF c hc).2
  have h2 : c.toNat ≠ 62 := fun e => h (UInt8.toNat_inj.1 e)
  simp [lx.twoB, h2]
theorem not_ok {R : List (Option lx.Tok)} (hR : lx.LayOk numD R) (hF : Fst R) : lx.LayOk numD (sT ⟨#[33]⟩ :: R) ∧ Fst (sT ⟨#[33]⟩ :: R) := by
  refine ⟨sign_ok (by decide) (by decide) (by decide) (fun c hc => ?_) hR, fun c hc => by rw [head_sT hc]; decide⟩
  have h := (hF c hc).1
  have h2 : c.toNat ≠ 61 := fun e => h (UInt8.toNat_inj.1 e)
  simp [lx.twoB, h2]
theorem numL_ok {n : Int} (h : -1048576 ≤ n ∧ n ≤ 1048576) : OkL (numL n) := fun R hR hS => by
  unfold numL
  split
  · obtain ⟨h1, h2⟩ := num_ok (n := -n) (by omega) (by omega) hS.aft hR
    exact minus_ok h1 h2
  · exact num_ok (by omega) h.2 hS.aft hR
theorem wT_ok {s : ByteArray} (h : lx.nameB s = true) {R : List (Option lx.Tok)} (hR : lx.LayOk numD R) (hA : Aft R) : lx.LayOk numD (wT s :: R) ∧ Fst (wT s :: R) := by
  obtain ⟨h1, h2, h3⟩ := name_ok h
  exact word_ok h1 h2 h3 hA hR
theorem kw_ok {s : ByteArray} (h : s = ⟨#[115, 101, 108, 102]⟩ ∨ s = ⟨#[108, 101, 110]⟩ ∨ s = ⟨#[97, 116]⟩ ∨ s = ⟨#[110, 111, 110, 101]⟩) {R : List (Option lx.Tok)} (hR : lx.LayOk numD R) (hA : Aft R) : lx.LayOk numD (wT s :: R) ∧ Fst (wT s :: R) := by
  have e : 1 ≤ s.size ∧ s.size ≤ 16 ∧ ∀ i, i < s.size → lx.okB i (lx.bt s i) = true := by
    rcases h with rfl | rfl | rfl | rfl <;> decide +kernel
  exact word_ok e.1 e.2.1 e.2.2 hA hR
theorem word_brL {s : ByteArray} (h : s = ⟨#[115, 101, 108, 102]⟩ ∨ s = ⟨#[108, 101, 110]⟩ ∨ s = ⟨#[97, 116]⟩ ∨ s = ⟨#[110, 111, 110, 101]⟩) {l : List (Option lx.Tok)} (hl : OkL l) : OkL (wT s :: brL l) := fun R hR _ => by
  obtain ⟨h1, h2⟩ := brL_ok hl hR
  exact kw_ok h h1 h2
theorem one_ok {s : ByteArray} (h : lx.nameB s = true) : OkL [wT s] := fun R hR hS => wT_ok h hR hS.aft
theorem at_ok {s : ByteArray} {n : Int} (h : lx.nameB s = true) (h0 : 0 ≤ n) (h1 : n < 16) : OkL [wT s, sT ⟨#[44]⟩, none, nT n] := fun R hR hS => by
  obtain ⟨g1, _⟩ := num_ok h0 (by omega) hS.aft hR
  have g2 : lx.LayOk numD (sT ⟨#[44]⟩ :: none :: nT n :: R) := sign_ok (by decide) (by decide) (by decide) (fun c _ => two_no (.inr (.inr (.inr (.inr (.inl rfl))))) _) g1
  exact wT_ok h g2 (fun c hc => by rw [head_sT hc]; simp)
theorem leafs {op : Int} (h : takesZ op = 0) : op = 1 ∨ op = 2 ∨ op = 4 ∨ op = 5 ∨ op = 6 ∨ op = 7 ∨ op = 8 := by
  obtain ⟨l1, l2, l3⟩ := takes_leaf h
  omega
theorem lfL_ok {N : Nm} {nd : Int × Int} (hf : takesZ nd.1 = 0) (hg : GoodL N nd) : OkL (lfL N nd) := by
  obtain ⟨op, n⟩ := nd
  obtain ⟨hn, h1⟩ := hg
  unfold lfL
  rcases leafs hf with h | h | h | h | h | h | h <;> dsimp only at h hn h1 ⊢ <;> subst h
  · exact numL_ok (h1 rfl)
  · exact one_ok (hn _ rfl)
  · exact one_ok (hn _ rfl)
  · exact fun R hR hS => kw_ok (.inl rfl) hR hS.aft
  · exact word_brL (.inr (.inl rfl)) (one_ok (hn _ rfl))
  · exact word_brL (.inr (.inr (.inl rfl))) (at_ok (hn _ rfl) (Int.emod_nonneg _ (by decide)) (Int.emod_lt_of_pos _ (by decide)))
  · exact word_brL (.inr (.inr (.inr rfl))) (one_ok (hn _ rfl))
theorem uns {op : Int} (h : takesZ op = 1) : op = 3 ∨ op = 9 ∨ op = 10 := by
  unfold takesZ at h
  split at h
  · assumption
  · split at h
    · omega
    · split at h <;> omega
theorem unL_ok {N : Nm} {nd r : Int × Int} {l : List (Option lx.Tok)} (hf : takesZ nd.1 = 1) (hg : GoodL N nd) (hl : OkL l) : OkL (unL N nd r l) := by
  obtain ⟨op, n⟩ := nd
  obtain ⟨hn, _⟩ := hg
  unfold unL
  rcases uns hf with h | h | h <;> dsimp only at h hn ⊢ <;> subst h
  · intro R hR hS
    have e : (wT (nameB N (3, n)) :: sT ⟨#[91]⟩ :: (l ++ [sT ⟨#[93]⟩])) ++ R = wT (nameB N (3, n)) :: sT ⟨#[91]⟩ :: (l ++ (sT ⟨#[93]⟩ :: R)) := by simp
    show lx.LayOk numD ((wT (nameB N (3, n)) :: sT ⟨#[91]⟩ :: (l ++ [sT ⟨#[93]⟩])) ++ R) ∧ Fst ((wT (nameB N (3, n)) :: sT ⟨#[91]⟩ :: (l ++ [sT ⟨#[93]⟩])) ++ R)
    rw [e]
    obtain ⟨g1, g2⟩ := close_ok (.inr rfl) hR
    obtain ⟨g3, g4⟩ := open_ok (.inr rfl) (hl _ g1 g2).1
    exact wT_ok (hn _ rfl) g3 g4
  · intro R hR hS
    obtain ⟨g1, g2⟩ := bndL_ok (nd := r) (least := 6) hl R hR hS
    exact not_ok g1 g2
  · intro R hR hS
    show lx.LayOk numD ((sT ⟨#[45]⟩ :: (if r.1 = 1 then brL l else bndL r 6 l)) ++ R) ∧ Fst ((sT ⟨#[45]⟩ :: (if r.1 = 1 then brL l else bndL r 6 l)) ++ R)
    by_cases h1 : r.1 = 1
    · rw [if_pos h1]
      obtain ⟨g1, g2⟩ := brL_okL hl R hR hS
      exact minus_ok g1 g2
    · rw [if_neg h1]
      obtain ⟨g1, g2⟩ := bndL_ok (nd := r) (least := 6) hl R hR hS
      exact minus_ok g1 g2
theorem sg_ok {op : Int} {p : Int × Nat × ByteArray × Nat} (h : pOf op = some p) {R : List (Option lx.Tok)} (hR : lx.LayOk numD (none :: R)) : lx.LayOk numD (sT p.2.2.1 :: none :: R) := by
  have h32 : ∀ (b : UInt8), b = 60 ∨ b = 43 ∨ b = 45 ∨ b = 42 → ∀ c, (lx.lay (none :: R)).head? = some c → lx.twoB b.toNat c.toNat = false := fun b hb c hc => by
    rw [head_none hc]
    rcases hb with rfl | rfl | rfl | rfl <;> decide
  by_cases ho : 11 ≤ op ∧ op ≤ 19
  · rcases nine ho with rfl | rfl | rfl | rfl | rfl | rfl | rfl | rfl | rfl <;> obtain rfl := Option.some.inj h
    · exact sign_ok (b := 43) (by decide) (by decide) (by decide) (h32 43 (by simp)) hR
    · exact sign_ok (b := 45) (by decide) (by decide) (by decide) (h32 45 (by simp)) hR
    · exact sign_ok (b := 42) (by decide) (by decide) (by decide) (h32 42 (by simp)) hR
    · exact sign2_ok (b := 61) (c := 61) (by decide) (by decide) (by decide) hR
    · exact sign2_ok (b := 33) (c := 61) (by decide) (by decide) (by decide) hR
    · exact sign_ok (b := 60) (by decide) (by decide) (by decide) (h32 60 (by simp)) hR
    · exact sign2_ok (b := 60) (c := 61) (by decide) (by decide) (by decide) hR
    · exact sign2_ok (b := 38) (c := 38) (by decide) (by decide) (by decide) hR
    · exact sign2_ok (b := 124) (c := 124) (by decide) (by decide) (by decide) hR
  · rw [pOf_none ho] at h
    cases h
theorem biL_ok {nd ra rb : Int × Int} {la lb : List (Option lx.Tok)} (hf : takesZ nd.1 = 2) (ha : OkL la) (hb : OkL lb) : OkL (biL nd ra rb la lb) := by
  obtain ⟨p, hp⟩ := pOf_some hf
  unfold biL
  rw [hp]
  intro R hR hS
  have e : (bndL ra (if p.2.1 = 3 then 4 else p.2.1) la ++ (none :: sT p.2.2.1 :: none :: bndL rb (p.2.1 + 1) lb)) ++ R = bndL ra (if p.2.1 = 3 then 4 else p.2.1) la ++ (none :: sT p.2.2.1 :: none :: (bndL rb (p.2.1 + 1) lb ++ R)) := by simp
  show lx.LayOk numD ((bndL ra (if p.2.1 = 3 then 4 else p.2.1) la ++ (none :: sT p.2.2.1 :: none :: bndL rb (p.2.1 + 1) lb)) ++ R) ∧ Fst ((bndL ra (if p.2.1 = 3 then 4 else p.2.1) la ++ (none :: sT p.2.2.1 :: none :: bndL rb (p.2.1 + 1) lb)) ++ R)
  rw [e]
  obtain ⟨g1, _⟩ := bndL_ok (nd := rb) (least := p.2.1 + 1) hb R hR hS
  have g2 := sg_ok hp (R := bndL rb (p.2.1 + 1) lb ++ R) g1
  exact bndL_ok (nd := ra) ha _ g2 (fun c hc => .inl (head_none hc))
/-- The tokens of a tree stand. -/
theorem toks_ok {N : Nm} : ∀ {x : Ex}, Fits x → (∀ nd ∈ x.flat, GoodL N nd) → OkL (toks N x)
  | .lf nd, hf, hg => lfL_ok hf (hg nd (by simp [Ex.flat]))
  | .un nd a, hf, hg => unL_ok hf.1 (hg nd (by simp [Ex.flat])) (toks_ok hf.2 (fun y hy => hg y (by simp only [Ex.flat, List.mem_append]; exact .inl hy)))
  | .bi nd a b, hf, hg => biL_ok hf.1 (toks_ok hf.2.1 (fun y hy => hg y (by simp only [Ex.flat, List.mem_append]; exact .inl (.inl hy)))) (toks_ok hf.2.2 (fun y hy => hg y (by simp only [Ex.flat, List.mem_append]; exact .inl (.inr hy))))
/-- Scan tells the tokens of a tree's text. -/
theorem toks_tks {N : Nm} {x : Ex} (hf : Fits x) (hg : ∀ nd ∈ x.flat, GoodL N nd) : ∃ T', lx.Tks numD (txt N x) 0 T' ∧ lx.SameT (lx.laid (toks N x)) T' := by
  obtain ⟨h1, _⟩ := toks_ok hf hg [] trivial (fun b hb => by cases hb)
  rw [List.append_nil] at h1
  refine lx.lay_tks (toks N x) h1 0 (Nat.zero_le _) ?_
  rw [toks_lay, show lx.tailS (txt N x) 0 = txt N x by unfold lx.tailS; exact ByteArray.extract_zero_size]
  exact (lx.mk_list _).symm
end Go.Proofs.YtmnigdphikoljaaGreatDoor.et
namespace Go.Proofs.YtmnigdphikoljaaGreatDoor.et
open Go.ChangeShapes Go.WideShapes Go.ChangeAt Go.RowKit Go.Deep

theorem tks_few {s : ByteArray} {a : Nat} {T : List lx.Tok} (h : lx.Tks numD s a T) : T.length ≤ s.size - a := by
  induction h with
  | done => simp
  | blank h1 _ _ ih => omega
  | remark h1 hb _ ih => have := lx.lineE_gt h1 hb; omega
  | @token a L k n m h1 hb hr hf hh ih =>
    have := (lx.first_ok h1 hf).1
    rw [List.length_cons]
    omega
/-- Scan tells the tokens of a tree's text, and nothing else. -/
theorem scan_txt {N : Nm} {x : Ex} (hf : Fits x) (hg : ∀ nd ∈ x.flat, GoodL N nd) (hz : (txt N x).size ≤ 6000) {r : lx.Res} (hr : lx.ScanR numD (txt N x) r) : ∃ T, r = (T, 0, 0) ∧ lx.SameT (lx.laid (toks N x)) T := by
  obtain ⟨T, h1, h2⟩ := toks_tks hf hg
  have h3 := h1.sc [] (by have := tks_few h1; simp; omega)
  rcases hr with ⟨h, _⟩ | ⟨_, h⟩
  · omega
  · exact ⟨T, (lx.Sc.one h3 h).symm, h2⟩
/-- More to go on than there are tokens changes nothing of a row. -/
theorem rowL_more {k : Nat} {nx : St → Rd} (hnx : ∀ st, Few st (nx st)) : ∀ (g g' : Nat) (l : List (Int × Int)) (st : St), st.ts.length ≤ g → g ≤ g' → rowL k nx g l st = rowL k nx g' l st
  | 0, g', l, st, h, _ => by
    have e : st.ts = [] := List.eq_nil_of_length_eq_zero (by omega)
    cases g' with
    | zero => rfl
    | succ g' => rw [rowL, rowL, e]
  | g + 1, 0, l, st, _, h2 => by omega
  | g + 1, g' + 1, l, st, h, h2 => by
    rw [rowL, rowL]
    cases e : st.ts with
    | nil => rfl
    | cons t r =>
      dsimp only
      split
      · split
        · rfl
        · split
          · rfl
          · rename_i op _ _
            have h1 := hnx ⟨r, st.pl, st.why⟩
            unfold Few at h1
            rw [e, List.length_cons] at h
            exact rowL_more hnx g g' _ _ (by dsimp only at h1; omega) (by omega)
      · rfl
end Go.Proofs.YtmnigdphikoljaaGreatDoor.et
namespace Go.Proofs.YtmnigdphikoljaaGreatDoor.et
open Go.ChangeShapes Go.WideShapes Go.ChangeAt Go.RowKit Go.Deep

/-- No sign of an operation that binds as strongly as lo stands ahead, and no opening bracket of an item. -/
def Hd (lo : Nat) (R : List lx.Tok) : Prop := ∀ t r, R = t :: r → (t.kind = 3 → ∀ k, lo ≤ k → opS k t.text = none) ∧ sgB t ⟨#[91]⟩ = false
theorem Hd.mono {lo hi : Nat} {R : List lx.Tok} (h : Hd lo R) (hl : lo ≤ hi) : Hd hi R := fun t r e => ⟨fun hk k h2 => (h t r e).1 hk k (by omega), (h t r e).2⟩
/-- The tokens T, whatever may follow, are read as the nodes E by the level lv. -/
def Rds (N : Nm) (en lv : Nat) (E : List (Int × Int)) (T : List lx.Tok) : Prop := ∀ f R pl, T.length + R.length < f → Hd (6 - lv) R → levF (tigF N en f) lv ⟨T ++ R, pl, 0⟩ = (E, ⟨R, pl, 0⟩)
theorem rowL_stop {k g : Nat} {nx : St → Rd} {l : List (Int × Int)} {st : St} (h : ∀ t r, st.ts = t :: r → t.kind = 3 → opS k t.text = none) : rowL k nx g l st = (l, st) := by
  cases g with
  | zero => rfl
  | succ g =>
    rw [rowL]
    cases e : st.ts with
    | nil => rfl
    | cons t r =>
      dsimp only
      split
      · rename_i hk
        rw [h t r e hk]
      · rfl
theorem Rds.up {N : Nm} {en lv : Nat} {E : List (Int × Int)} {T : List lx.Tok} (h : Rds N en lv E T) (hl : lv ≤ 4) : Rds N en (lv + 1) E T := fun f R pl hf hR => by
  have e := h f R pl hf (hR.mono (by omega))
  show rowF (5 - lv) (levF (tigF N en f) lv) _ = _
  unfold rowF
  rw [e]
  exact rowL_stop (fun t r e hk => (hR t r e).1 hk (5 - lv) (by omega))
theorem Rds.ups {N : Nm} {en : Nat} {E : List (Int × Int)} {T : List lx.Tok} : ∀ {lv lw : Nat}, Rds N en lv E T → lv ≤ lw → lw ≤ 5 → Rds N en lw E T
  | lv, 0, h, h1, _ => by
    obtain rfl : lv = 0 := by omega
    exact h
  | lv, lw + 1, h, h1, h2 => by
    by_cases e : lv = lw + 1
    · subst e
      exact h
    · exact (Rds.ups h (by omega) (by omega)).up (by omega)
theorem sgB_yes {t : lx.Tok} {s : ByteArray} (hk : t.kind = 3) (ht : t.text = s) : sgB t s = true := by
  unfold sgB
  rw [hk, ht]
  simp
theorem sgB_no {t : lx.Tok} {s u : ByteArray} (ht : t.text = u) (h : (u.toList == s.toList) = false) : sgB t s = false := by
  unfold sgB
  rw [ht, h]
  simp
theorem opS_close (k : Nat) : opS k ⟨#[41]⟩ = none ∧ opS k ⟨#[93]⟩ = none := by
  constructor <;> (unfold opS; rw [Option.map_eq_none_iff, List.find?_eq_none]; intro p hp; simp only [Bool.and_eq_true, decide_eq_true_eq, not_and]; intro hk; clear hk; revert p; decide +kernel)
theorem Hd.close {lo : Nat} {t : lx.Tok} {R : List lx.Tok} (h : t.text = ⟨#[41]⟩ ∨ t.text = ⟨#[93]⟩) : Hd lo (t :: R) := fun x r e => by
  injection e with e1 e2
  subst e1
  rcases h with h | h
  · exact ⟨fun _ k _ => by rw [h]; exact (opS_close k).1, sgB_no h (by decide +kernel)⟩
  · exact ⟨fun _ k _ => by rw [h]; exact (opS_close k).2, sgB_no h (by decide +kernel)⟩
theorem sg_yes {en : Nat} {s : ByteArray} {t : lx.Tok} {R : List lx.Tok} {pl y : Int} (hk : t.kind = 3) (ht : t.text = s) : sgF en s ⟨t :: R, pl, y⟩ = ⟨R, pl, y⟩ := by
  unfold sgF
  rw [show takeF en ⟨t :: R, pl, y⟩ = (t, ⟨R, pl, y⟩) from rfl]
  dsimp only
  rw [if_pos (sgB_yes hk ht)]
theorem fol_no {s : ByteArray} {t : lx.Tok} {R : List lx.Tok} {pl y : Int} (h : sgB t s = false) : folF s ⟨t :: R, pl, y⟩ = (false, ⟨t :: R, pl, y⟩) := by
  show (if sgB t s then (true, (⟨R, pl, y⟩ : St)) else (false, ⟨t :: R, pl, y⟩)) = _
  rw [h]
  rfl
/-- A tight one that begins with neither '!' nor '-' is a single one. -/
theorem tig_sin {N : Nm} {en f : Nat} {t : lx.Tok} {R : List lx.Tok} {pl y : Int} (h1 : sgB t ⟨#[33]⟩ = false) (h2 : sgB t ⟨#[45]⟩ = false) : tigF N en (f + 1) ⟨t :: R, pl, y⟩ = sinF N en (levF (tigF N en f) 5) ⟨t :: R, pl, y⟩ := by
  show tigB N en _ _ _ = _
  unfold tigB
  rw [fol_no h1]
  dsimp only
  rw [fol_no h2]
  rfl
theorem Rds.br {N : Nm} {en : Nat} {E : List (Int × Int)} {T : List lx.Tok} (h : Rds N en 5 E T) {a b : lx.Tok} (ha : a.kind = 3) (ha2 : a.text = ⟨#[40]⟩) (hb : b.kind = 3) (hb2 : b.text = ⟨#[41]⟩) : Rds N en 0 E (a :: (T ++ [b])) := fun f R pl hf hR => by
  obtain ⟨f, rfl⟩ : ∃ g, f = g + 1 := ⟨f - 1, by simp at hf; omega⟩
  have e : (a :: (T ++ [b])) ++ R = a :: (T ++ (b :: R)) := by simp
  rw [e]
  show tigF N en (f + 1) _ = _
  rw [tig_sin (sgB_no ha2 (by decide +kernel)) (sgB_no ha2 (by decide +kernel))]
  unfold sinF
  rw [show takeF en ⟨a :: (T ++ (b :: R)), pl, 0⟩ = (a, ⟨T ++ (b :: R), pl, 0⟩) from rfl]
  dsimp only
  rw [if_neg (by rw [ha]; decide), if_neg (by rw [ha]; decide), if_pos (sgB_yes ha ha2), h f (b :: R) pl (by simp at hf ⊢; omega) (Hd.close (.inl hb2))]
  dsimp only
  rw [sg_yes hb hb2]
end Go.Proofs.YtmnigdphikoljaaGreatDoor.et
namespace Go.Proofs.YtmnigdphikoljaaGreatDoor.et
open Go.ChangeShapes Go.WideShapes Go.ChangeAt Go.RowKit Go.Deep

theorem nx_few (N : Nm) (en f n : Nat) : ∀ st, Few st (levF (tigF N en f) n st) := levF_few (tig_few N en f) n
/-- What is read of T by a row of strength k, which then goes on behind it. -/
def RowC (N : Nm) (en k : Nat) (E : List (Int × Int)) (T : List lx.Tok) : Prop := ∀ f R pl g, T.length + R.length < f → Hd (k + 1) R → R.length ≤ g → rowF k (levF (tigF N en f) (5 - k)) ⟨T ++ R, pl, 0⟩ = rowL k (levF (tigF N en f) (5 - k)) g E ⟨R, pl, 0⟩
theorem Rds.row {N : Nm} {en k : Nat} {E : List (Int × Int)} {T : List lx.Tok} (h : Rds N en (5 - k) E T) (hk : k ≤ 5) : RowC N en k E T := fun f R pl g hf hR hg => by
  have e := h f R pl hf (hR.mono (by omega))
  unfold rowF
  rw [e]
  exact rowL_more (nx_few N en f (5 - k)) _ _ _ _ (Nat.le_refl _) hg
theorem lev_row (ti : St → Rd) {k : Nat} (h0 : 1 ≤ k) (h5 : k ≤ 5) : levF ti (6 - k) = rowF k (levF ti (5 - k)) := by
  obtain ⟨m, hm⟩ : ∃ m, 5 - k = m := ⟨_, rfl⟩
  have e1 : 6 - k = m + 1 := by omega
  have e2 : k = 5 - m := by omega
  rw [e1, hm]
  show rowF (5 - m) (levF ti m) = _
  rw [← e2]
theorem RowC.rds {N : Nm} {en k : Nat} {E : List (Int × Int)} {T : List lx.Tok} (h : RowC N en k E T) (h0 : 1 ≤ k) (h5 : k ≤ 5) : Rds N en (6 - k) E T := fun f R pl hf hR => by
  rw [lev_row _ h0 h5, h f R pl R.length hf (hR.mono (by omega)) (Nat.le_refl _)]
  exact rowL_stop (fun t r e hk => (hR t r e).1 hk k (by omega))
/-- A sign of an operation of strength k. -/
structure SgT (s : lx.Tok) (k : Nat) (op : Int) : Prop where
  kind : s.kind = 3
  it : opS k s.text = some op
  no : ∀ j, k < j → opS j s.text = none
  br : sgB s ⟨#[91]⟩ = false
theorem SgT.hd {s : lx.Tok} {k : Nat} {op : Int} (h : SgT s k op) (R : List lx.Tok) : Hd (k + 1) (s :: R) := fun t r e => by
  injection e with e1 e2
  subst e1
  exact ⟨fun _ j hj => h.no j (by omega), h.br⟩
theorem RowC.bin {N : Nm} {en k : Nat} {Ea Eb : List (Int × Int)} {Ta Tb : List lx.Tok} {s : lx.Tok} {op : Int} (ha : RowC N en k Ea Ta) (hb : Rds N en (5 - k) Eb Tb) (hs : SgT s k op) (hk : k ≠ 3) (h5 : k ≤ 5) : RowC N en k (Ea ++ Eb ++ [(op, 0)]) (Ta ++ s :: Tb) := fun f R pl g hf hR hg => by
  simp only [List.length_append, List.length_cons] at hf
  have e : (Ta ++ s :: Tb) ++ R = Ta ++ (s :: (Tb ++ R)) := by simp
  rw [e, ha f (s :: (Tb ++ R)) pl (g + Tb.length + 1) (by simp only [List.length_cons, List.length_append]; omega) (hs.hd _) (by simp only [List.length_cons, List.length_append]; omega)]
  rw [rowL]
  dsimp only
  rw [if_pos hs.kind, hs.it]
  dsimp only
  rw [if_neg hk, hb f R pl (by omega) (hR.mono (by omega))]
  exact (rowL_more (nx_few N en f (5 - k)) _ _ _ _ hg (by omega)).symm
theorem Rds.bin3 {N : Nm} {en : Nat} {Ea Eb : List (Int × Int)} {Ta Tb : List lx.Tok} {s : lx.Tok} {op : Int} (ha : Rds N en 2 Ea Ta) (hb : Rds N en 2 Eb Tb) (hs : SgT s 3 op) : Rds N en 3 (Ea ++ Eb ++ [(op, 0)]) (Ta ++ s :: Tb) := fun f R pl hf hR => by
  simp only [List.length_append, List.length_cons] at hf
  have e : (Ta ++ s :: Tb) ++ R = Ta ++ (s :: (Tb ++ R)) := by simp
  show rowF 3 (levF (tigF N en f) 2) _ = _
  unfold rowF
  rw [e, ha f (s :: (Tb ++ R)) pl (by simp only [List.length_cons, List.length_append]; omega) (hs.hd _)]
  show rowL 3 (levF (tigF N en f) 2) ((Tb ++ R).length + 1) Ea ⟨s :: (Tb ++ R), pl, 0⟩ = _
  rw [rowL]
  dsimp only
  rw [if_pos hs.kind, hs.it]
  dsimp only
  rw [if_pos rfl, hb f R pl (by omega) (hR.mono (by omega))]
/-- The signs that are written. -/
theorem sg_of {op : Int} {p : Int × Nat × ByteArray × Nat} (h : pOf op = some p) {s : lx.Tok} (hk : s.kind = 3) (ht : s.text = p.2.2.1) : SgT s p.2.1 op := by
  have hno : ∀ u : ByteArray, (∀ q ∈ pairL, p.2.1 < q.2.1 → (q.2.2.toList == u.toList) = false) → ∀ j, p.2.1 < j → opS j u = none := fun u hu j hj => by
    unfold opS
    rw [Option.map_eq_none_iff, List.find?_eq_none]
    intro q hq
    simp only [Bool.and_eq_true, decide_eq_true_eq, not_and]
    intro e
    rw [hu q hq (by omega)]
    simp
  by_cases ho : 11 ≤ op ∧ op ≤ 19
  · rcases nine ho with rfl | rfl | rfl | rfl | rfl | rfl | rfl | rfl | rfl <;> obtain rfl := Option.some.inj h <;>
      exact ⟨hk, by rw [ht]; decide +kernel, by rw [ht]; exact hno _ (by decide +kernel), sgB_no ht (by decide +kernel)⟩
  · rw [pOf_none ho] at h
    cases h
end Go.Proofs.YtmnigdphikoljaaGreatDoor.et
