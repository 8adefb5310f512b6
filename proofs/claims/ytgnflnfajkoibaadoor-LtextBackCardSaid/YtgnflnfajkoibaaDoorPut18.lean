/- Contracts that the claim stands on, several texts in one: LtxBack. -/
import Derived.Test.YtgnflnfajkoibaaDoorPut1
import Derived.Test.YtgnflnfajkoibaaDoorPut2
import Derived.Test.YtgnflnfajkoibaaDoorPut3
import Derived.Test.YtgnflnfajkoibaaDoorPut4
import Derived.Test.YtgnflnfajkoibaaDoorPut5
import Derived.Test.YtgnflnfajkoibaaDoorPut6
import Derived.Test.YtgnflnfajkoibaaDoorPut7
import Derived.Test.YtgnflnfajkoibaaDoorPut8
import Derived.Test.YtgnflnfajkoibaaDoorPut9
import Derived.Test.YtgnflnfajkoibaaDoorPut10
import Derived.Test.YtgnflnfajkoibaaDoorPut11
import Derived.Test.YtgnflnfajkoibaaDoorPut12
import Derived.Test.YtgnflnfajkoibaaDoorPut13
import Derived.Test.YtgnflnfajkoibaaDoorPut14
import Derived.Test.YtgnflnfajkoibaaDoorPut15
import Derived.Test.YtgnflnfajkoibaaDoorPut16
import Derived.Test.YtgnflnfajkoibaaDoorPut17
namespace Go.Proofs.YtgnflnfajkoibaaDoor.tx
open lt

/-- The tokens of a part's text. -/
def tkF (e : List (Int × Int)) (N : List (List UInt8)) : Nat → Nat → Int → List (List UInt8)
  | 0, _, _ => []
  | f + 1, at_, asked => match opO (e.getD at_ (0, 0)).1 with
    | none => [N.getD (e.getD at_ (0, 0)).2.toNat []]
    | some o =>
      let s := if o.rt = 0 then [o.sg] else if o.lf = 0 then o.sg :: tkF e N f (kidsF e at_).1.toNat o.rt
        else tkF e N f (kidsF e at_).1.toNat o.lf ++ (o.sg :: tkF e N f (kidsF e at_).2.toNat o.rt)
      if o.bd < asked then [[40]] ++ (s ++ [[41]]) else s
def tkB (e : List (Int × Int)) (N : List (List UInt8)) (f at_ : Nat) (o : Opr) : List (List UInt8) :=
  if o.rt = 0 then [o.sg] else if o.lf = 0 then o.sg :: tkF e N f (kidsF e at_).1.toNat o.rt
        else tkF e N f (kidsF e at_).1.toNat o.lf ++ (o.sg :: tkF e N f (kidsF e at_).2.toNat o.rt)
theorem tkF_none {e : List (Int × Int)} {N : List (List UInt8)} {f at_ : Nat} {asked : Int} (h : opO (e.getD at_ (0, 0)).1 = none) : tkF e N (f + 1) at_ asked = [N.getD (e.getD at_ (0, 0)).2.toNat []] := by
  rw [tkF, h]
theorem tkF_some {e : List (Int × Int)} {N : List (List UInt8)} {f at_ : Nat} {asked : Int} {o : Opr} (h : opO (e.getD at_ (0, 0)).1 = some o) : tkF e N (f + 1) at_ asked = if o.bd < asked then [[40]] ++ (tkB e N f at_ o ++ [[41]]) else tkB e N f at_ o := by
  rw [tkF, h]
  rfl
/-- The nodes of a part, their N 0 but of propositions. -/
def ndF (e : List (Int × Int)) : Nat → Nat → List (Int × Int)
  | 0, _ => []
  | f + 1, at_ => match opO (e.getD at_ (0, 0)).1 with
    | none => [e.getD at_ (0, 0)]
    | some o => if o.rt = 0 then [(o.op, 0)] else if o.lf = 0 then ndF e f (kidsF e at_).1.toNat ++ [(o.op, 0)]
        else ndF e f (kidsF e at_).1.toNat ++ (ndF e f (kidsF e at_).2.toNat ++ [(o.op, 0)])
/-- The reader over texts of tokens, none of which is the end. -/
def okF (pr : List UInt8 → Option Nat) : List (List UInt8) → Rd → Option Rd
  | [], S => some S
  | s :: T, S => if (stepF pr 1 s S).1 = true then okF pr T (stepF pr 1 s S).2 else none
theorem okF_app {pr : List UInt8 → Option Nat} : ∀ {A B : List (List UInt8)} {S S' : Rd}, okF pr A S = some S' → okF pr (A ++ B) S = okF pr B S'
  | [], B, S, S', h => by
    injection h with h
    rw [h]
    rfl
  | s :: A, B, S, S', h => by
    unfold okF at h
    rw [List.cons_append]
    show (if (stepF pr 1 s S).1 = true then okF pr (A ++ B) (stepF pr 1 s S).2 else none) = _
    by_cases h1 : (stepF pr 1 s S).1 = true
    · rw [if_pos h1] at h ⊢
      exact okF_app h
    · rw [if_neg h1] at h
      cases h

def opN (o : Opr) : Int × Int := (o.op, 0)
/-- What is settled of operations that all ask for more. -/
theorem stF_all {b : Int} : ∀ {P Q : List Opr}, (∀ o ∈ P, b < o.rt) → stF b (P ++ Q) = (P.map opN ++ (stF b Q).1, (stF b Q).2)
  | [], Q, _ => rfl
  | o :: P, Q, h => by
    rw [List.cons_append, stF, if_pos (h o (by simp)), stF_all fun x hx => h x (by simp [hx])]
    rfl
theorem stF_stop {b : Int} {P : List Opr} (h : ∀ q, P.getLast? = some q → q.rt ≤ b) : stF b P.reverse = ([], P.reverse) := by
  rcases hP : P.reverse with _ | ⟨q, R⟩
  · rfl
  · have h1 : P.getLast? = some q := by rw [← List.head?_reverse, hP]; rfl
    rw [stF, if_neg (by have := h q h1; omega)]
theorem set_all {b : Int} {bg : Bool} {nd : List (Int × Int)} {P ps : List Opr} (h : ∀ o ∈ ps, b < o.rt) (hq : ∀ q, P.getLast? = some q → q.rt ≤ b) : setF b ⟨bg, nd, P ++ ps⟩ = ⟨bg, nd ++ ps.reverse.map opN, P⟩ := by
  unfold setF
  simp only [List.reverse_append]
  rw [stF_all (fun o ho => h o (List.mem_reverse.1 ho)), stF_stop hq]
  simp

theorem ops_self : ∀ o ∈ opsQ, wrO o.sg = some o ∧ o.sg ≠ [40] ∧ o.sg ≠ [41] ∧ (o.lf = 0 ∨ 0 < o.lf) ∧ (o.rt = 0 ∨ 0 < o.rt) := by decide
theorem ops_left : ∀ o ∈ opsQ, ∀ p ∈ opsQ, 0 < o.rt → p.lf ≠ 0 → p.lf ≤ o.bd → p.bd < o.rt := by decide
theorem ops_bd : ∀ p ∈ opsQ, p.lf ≠ 0 → p.bd ≤ p.lf ∧ p.bd ≤ p.rt ∧ 0 < p.rt := by decide
theorem ops_un : ∀ p ∈ opsQ, p.lf = 0 → p.bd = 5 ∧ (p.rt = 0 ∨ p.rt = 5) := by decide
theorem ops_pos : ∀ p ∈ opsQ, 0 < p.bd := by decide
theorem wr_close : wrO [41] = none := by decide
theorem wr_open : wrO [40] = none := by decide

/-- What the tokens of a part make. -/
structure Read (pr : List UInt8 → Option Nat) (T : List (List UInt8)) (a : Int) (L : List (Int × Int)) : Prop where
  it : ∃ ns ps, (∀ S : Rd, S.bg = true → (∀ q, S.pd.getLast? = some q → q.rt ≤ a) → okF pr T S = some ⟨false, S.nd ++ ns, S.pd ++ ps⟩) ∧ ns ++ ps.reverse.map opN = L ∧ ∀ o ∈ ps, o ∈ opsQ ∧ 0 < o.rt ∧ a ≤ o.bd

theorem read_one {pr : List UInt8 → Option Nat} {s : List UInt8} {a : Int} {n : Int × Int} (h : ∀ S : Rd, S.bg = true → stepF pr 1 s S = (true, leafF n S)) : Read pr [s] a [n] := by
  refine ⟨[n], [], fun S hb _ => ?_, by simp, fun o ho => absurd ho (by simp)⟩
  unfold okF
  rw [h S hb, if_pos rfl]
  unfold okF leafF
  simp
theorem step_un {pr : List UInt8 → Option Nat} {o : Opr} {S : Rd} (ho : o ∈ opsQ) (hp : pr o.sg = none) (h1 : o.rt ≠ 0) (h2 : o.lf = 0) (hb : S.bg = true) : stepF pr 1 o.sg S = (true, ⟨true, S.nd, S.pd ++ [o]⟩) := by
  obtain ⟨g1, g2, g3, g4, g5⟩ := ops_self o ho
  unfold stepF bgF
  rw [if_pos hb, hp]
  simp only [if_neg g2, g1]
  rw [if_neg (by omega), if_pos (by omega), hb]
theorem read_un {pr : List UInt8 → Option Nat} {o : Opr} {T : List (List UInt8)} {L : List (Int × Int)} (ho : o ∈ opsQ) (hp : pr o.sg = none) (h1 : o.rt ≠ 0) (h2 : o.lf = 0) (h : Read pr T o.rt L) : Read pr (o.sg :: T) o.bd (L ++ [opN o]) := by
  obtain ⟨ns, ps, k1, k2, k3⟩ := h
  obtain ⟨u1, u2⟩ := ops_un o ho h2
  refine ⟨ns, o :: ps, fun S hb hq => ?_, ?_, fun x hx => ?_⟩
  · unfold okF
    rw [step_un ho hp h1 h2 hb, if_pos rfl, k1 _ rfl (fun q hq2 => ?_)]
    · simp
    · simp at hq2
      rw [← hq2]
      exact Int.le_refl _
  · rw [List.reverse_cons, List.map_append, ← List.append_assoc, k2]
    rfl
  · rcases List.mem_cons.1 hx with rfl | hx
    · exact ⟨ho, by omega, Int.le_refl _⟩
    · obtain ⟨g1, g2, g3⟩ := k3 x hx
      exact ⟨g1, g2, by omega⟩
theorem read_bin {pr : List UInt8 → Option Nat} {p : Opr} {T1 T2 : List (List UInt8)} {L1 L2 : List (Int × Int)} (ho : p ∈ opsQ) (h2 : p.lf ≠ 0) (hl : Read pr T1 p.lf L1) (hr : Read pr T2 p.rt L2) : Read pr (T1 ++ (p.sg :: T2)) p.bd (L1 ++ (L2 ++ [opN p])) := by
  obtain ⟨ns1, ps1, k1, k2, k3⟩ := hl
  obtain ⟨ns2, ps2, j1, j2, j3⟩ := hr
  obtain ⟨b1, b2, b3⟩ := ops_bd p ho h2
  obtain ⟨g1, g2, g3, g4, g5⟩ := ops_self p ho
  refine ⟨L1 ++ ns2, p :: ps2, fun S hb hq => ?_, ?_, fun x hx => ?_⟩
  · rw [okF_app (k1 S hb (fun q hq2 => by have := hq q hq2; omega))]
    unfold okF
    have hs : stepF pr 1 p.sg ⟨false, S.nd ++ ns1, S.pd ++ ps1⟩ = (true, ⟨true, S.nd ++ L1, S.pd ++ [p]⟩) := by
      unfold stepF goF
      rw [if_neg (by simp), g1]
      simp only
      rw [if_pos (by omega), set_all (fun o hx => by obtain ⟨q1, q2, q3⟩ := k3 o hx; exact ops_left o q1 p ho q2 h2 q3) hq]
      simp only [List.append_assoc, k2]
    rw [hs, if_pos rfl, j1 _ rfl (fun q hq2 => ?_)]
    · simp
    · simp at hq2
      rw [← hq2]
      exact Int.le_refl _
  · rw [List.reverse_cons, List.map_append, List.append_assoc, ← List.append_assoc ns2, j2]
    rfl
  · rcases List.mem_cons.1 hx with rfl | hx
    · exact ⟨ho, b3, Int.le_refl _⟩
    · obtain ⟨q1, q2, q3⟩ := j3 x hx
      exact ⟨q1, q2, by omega⟩
theorem read_br {pr : List UInt8 → Option Nat} {T : List (List UInt8)} {L : List (Int × Int)} {b a : Int} (hp : pr [40] = none) (hb0 : 0 < b) (h : Read pr T b L) : Read pr ([[40]] ++ (T ++ [[41]])) a L := by
  obtain ⟨ns, ps, k1, k2, k3⟩ := h
  refine ⟨L, [], fun S hb hq => ?_, by simp, fun x hx => absurd hx (by simp)⟩
  have hs : stepF pr 1 [40] S = (true, ⟨true, S.nd, S.pd ++ [brO]⟩) := by
    unfold stepF bgF
    rw [if_pos hb, hp]
    simp only [if_true, hb]
  show okF pr ([40] :: (T ++ [[41]])) S = _
  unfold okF
  rw [hs, if_pos rfl, okF_app (k1 _ rfl (fun q hq2 => by
    simp at hq2
    rw [← hq2]
    show (0 : Int) ≤ b
    omega))]
  unfold okF
  have hs2 : stepF pr 1 [41] ⟨false, S.nd ++ ns, S.pd ++ [brO] ++ ps⟩ = (true, ⟨false, S.nd ++ L, S.pd⟩) := by
    unfold stepF goF shF
    rw [if_neg (by simp), wr_close]
    simp only [if_true]
    rw [set_all (fun o hx => (k3 o hx).2.1) (fun q hq2 => by simp at hq2; rw [← hq2]; exact Int.le_refl _)]
    rw [if_neg (by simp)]
    simp only [List.append_assoc, k2, List.dropLast_concat]
  rw [hs2, if_pos rfl]
  unfold okF
  simp
theorem read_weak {pr : List UInt8 → Option Nat} {T : List (List UInt8)} {L : List (Int × Int)} {b a : Int} (hab : a ≤ b) (h : Read pr T b L) : Read pr T a L := by
  obtain ⟨ns, ps, k1, k2, k3⟩ := h
  exact ⟨ns, ps, fun S hb hq => k1 S hb (fun q hq2 => by have := hq q hq2; omega), k2, fun x hx => by obtain ⟨g1, g2, g3⟩ := k3 x hx; exact ⟨g1, g2, by omega⟩⟩

/-- The tokens of a part are read as its nodes. -/
theorem read_part {e : List (Int × Int)} {N : List (List UInt8)} {pr : List UInt8 → Option Nat} (h : wrF 0 e = 0) (hpr : ∀ i q, i < e.length → e.getD i (0, 0) = (3, q) → pr (N.getD q.toNat []) = some q.toNat) (hno : ∀ o ∈ opsQ, pr o.sg = none) (hop : pr [40] = none) :
    ∀ (f i : Nat) (a : Int), i < f → i < e.length → Read pr (tkF e N f i a) a (ndF e f i)
  | 0, i, a, hf, _ => by omega
  | f + 1, i, a, hf, hi => by
    rcases node_of h hi with ⟨q, h1, q0, q8, _⟩ | ⟨o, h1, ho, h3, h4⟩
    · have hn : opO (e.getD i (0, 0)).1 = none := by rw [h1]; exact opO_3
      rw [tkF_none hn]
      have e1 : ndF e (f + 1) i = [e.getD i (0, 0)] := by rw [ndF, hn]
      rw [e1, h1]
      refine read_one fun S hb => ?_
      unfold stepF bgF
      rw [if_pos hb, hpr i q hi h1]
      simp only [Int.toNat_of_nonneg q0]
    · rw [tkF_some h1]
      have hb : Read pr (tkB e N f i o) o.bd (ndF e (f + 1) i) := by
        unfold tkB
        rw [ndF, h1]
        simp only
        rcases h4 with ⟨g1, _⟩ | ⟨g1, g2, j, v2, rfl, g4, g5, g6, g7⟩ | ⟨g1, g2, g3, j, q, v2, rfl, g4, g5, g6, g7, g8, g9⟩
        · rw [if_pos g1, if_pos g1]
          refine read_one fun S hb => ?_
          obtain ⟨k1, k2, k3, k4, k5⟩ := ops_self o ho
          have hlf : ¬ 0 < o.lf := fun hl => by have := (ops_bd o ho (by omega)).2.2; omega
          unfold stepF bgF
          rw [if_pos hb, hno o ho]
          simp only [if_neg k2, k1]
          rw [if_neg hlf, if_neg (by omega)]
        · rw [if_neg g1, if_neg g1, if_pos g2, if_pos g2, g5]
          simp only [Int.toNat_natCast]
          exact read_un ho (hno o ho) g1 g2 (read_part h hpr hno hop f j o.rt (by omega) (by omega))
        · rw [if_neg g1, if_neg g1, if_neg g2, if_neg g2, g6]
          simp only [Int.toNat_natCast]
          exact read_bin ho g2 (read_part h hpr hno hop f q o.lf (by omega) (by omega)) (read_part h hpr hno hop f j o.rt (by omega) (by omega))
      by_cases hbd : o.bd < a
      · rw [if_pos hbd]
        exact read_br hop (ops_pos o ho) hb
      · rw [if_neg hbd]
        exact read_weak (by omega) hb
/-- All of it, and the end. -/
theorem read_all {pr : List UInt8 → Option Nat} {T : List (List UInt8)} {L : List (Int × Int)} {a : Int} (h : Read pr T a L) : ∃ S, okF pr T rd0 = some S ∧ S.bg = false ∧ setF 0 S = ⟨false, L, []⟩ := by
  obtain ⟨ns, ps, k1, k2, k3⟩ := h
  refine ⟨_, k1 rd0 rfl (fun q hq => by simp [rd0] at hq), rfl, ?_⟩
  have := set_all (b := 0) (bg := false) (nd := ns) (P := []) (ps := ps) (fun o hx => (k3 o hx).2.1) (fun q hq => by simp at hq)
  rw [k2] at this
  exact this
end Go.Proofs.YtgnflnfajkoibaaDoor.tx
