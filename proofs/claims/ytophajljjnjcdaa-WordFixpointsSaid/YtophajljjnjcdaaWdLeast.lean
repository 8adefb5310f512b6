/- The law's least: is an until met, going on from a place? Plain: what a node says of its parts. -/
import Derived.Test.YtophajljjnjcdaaWdHd
import Derived.Test.YtophajljjnjcdaaLtlRefKids
namespace Go.Proofs.Ytophajljjnjcdaa.wd
open Go.ChangeShapes Go.WideShapes Go.ChangeAt Go.RowKit Go.Deep sr lt nf

theorem unt_y {a b : List Bool} {s n f p : Nat} (h : b.getD p false = true) : untA a b s n (f + 1) p = true := by rw [untA, if_pos h]
theorem unt_n {a b : List Bool} {s n f p : Nat} (h : b.getD p false = false) (h2 : a.getD p false = false) : untA a b s n (f + 1) p = false := by rw [untA, if_neg (by rw [h]; decide), if_neg (by rw [h2]; decide)]
theorem unt_o {a b : List Bool} {s n f p : Nat} (h : b.getD p false = false) (h2 : a.getD p false = true) : untA a b s n (f + 1) p = untA a b s n f (nxt s n p) := by rw [untA, if_neg (by rw [h]; decide), if_pos h2]
set_option maxRecDepth 20000 in
set_option maxHeartbeats 2000000 in
theorem least_any (a b : List Bool) (A B : Option Addr) (c d n k : Nat) (x : WX) (w : World) (hn : x.n + x.m = n) (h0 : 0 < x.m) (hn2 : n ≤ 1000) (ha : a.length = n) (hb : b.length = n) (hA : BL w A a) (hB : BL w B b) (hk : k < n) :
    Calls Try.prog 28 #[.slice A n c, .slice B n d, x.v, .int .i64 k] w (ValP w (.bool (untA a b x.n n (2 * n + 1) k))) := by
  obtain ⟨r, HR⟩ : ∃ r, Hid (untA a b x.n n (2 * n + 1) k = r) := ⟨_, Lib.hid rfl⟩
  rw [HR.out]
  obtain ⟨P, s, pc, Q, q, qc⟩ := x
  unfold WX.v
  dsimp only at hn h0 HR ⊢
  obtain ⟨w1, HW1, HB1, HS1⟩ : ∃ w1, w.alloc (.cells #[.slice P s pc, .slice Q q qc] 24) = w1 ∧ Hid (Below w.heap.size w w1) ∧ w1.cell? ⟨w.heap.size, 0, none⟩ = some (.slice P s pc) :=
    ⟨_, rfl, Lib.hid (below_one _ _), World.cell?_alloc_at _ _ _ _ (by simp)⟩
  obtain ⟨ga, oa, rfl, _, hca⟩ := (hA.below HB1.out) (by omega)
  obtain ⟨gb, ob, rfl, _, hcb⟩ := (hB.below HB1.out) (by omega)
  have HCA : Hid (∀ j, j < n → w1.cell? ⟨ga, oa + j, none⟩ = some (.bool (a.getD j false))) := Lib.hid (fun j hj => hca j (by omega))
  have HCB : Hid (∀ j, j < n → w1.cell? ⟨gb, ob + j, none⟩ = some (.bool (b.getD j false))) := Lib.hid (fun j hj => hcb j (by omega))
  have hsn : s < n := by omega
  have HNX : Hid (∀ p, p < n → nxt s n p < n) := Lib.hid (fun p _ => nxt_lt hsn)
  clear hA hB hca hcb ha hb hn h0
  go_enter Try.func28, Try.ntmps28
  go_upto_region 1 with (fail)
  clear HW1
  go_wp2
  go_loopw [3, 9] (fun kv nv wr => ∃ p j : Nat, p < n ∧ j ≤ 2 * n + 1 ∧ kv = .int .i64 p ∧ nv = .int .i64 j ∧ w1 = wr ∧ Hid (r = untA a b s n (2 * n + 1 - j) p)) (fun _ nv _ => 2 * n + 1 - (intOf nv).toNat)
  case atStart => exact ⟨k, 0, hk, Nat.zero_le _, rfl, rfl, rfl, Lib.hid HR.out.symm⟩
  case round =>
    obtain ⟨p, j, hp, hj, rfl, rfl, rfl, HU⟩ := hrel
    by_cases hjn : j ≤ 2 * n
    · have hji : (j : Int) ≤ 2 * (n : Int) := by omega
      obtain ⟨f, HF⟩ : ∃ f, Hid (2 * n + 1 - j = f + 1 ∧ 2 * n + 1 - (j + 1) = f) := ⟨2 * n - j, Lib.hid ⟨by omega, by omega⟩⟩
      have c1 := HCB.out p hp
      have c2 := HCA.out p hp
      obtain ⟨y, HY⟩ : ∃ y, Hid (b.getD p false = y) := ⟨_, Lib.hid rfl⟩
      obtain ⟨z, HZ⟩ : ∃ z, Hid (a.getD p false = z) := ⟨_, Lib.hid rfl⟩
      rw [HY.out] at c1
      rw [HZ.out] at c2
      rcases y with _ | _
      · rcases z with _ | _
        · have HV : Hid (r = false) := Lib.hid (by rw [HU.out, HF.out.1]; exact unt_n HY.out HZ.out)
          go_wp2
          go_ret
          exact ⟨by rw [HV.out]; rfl, HB1.out⟩
        · have HV : Hid (r = untA a b s n (2 * n + 1 - (j + 1)) (nxt s n p)) := Lib.hid (by rw [HU.out, HF.out.1, HF.out.2]; exact unt_o HY.out HZ.out)
          by_cases hl : p + 1 < n
          · have HV2 : Hid (r = untA a b s n (2 * n + 1 - (j + 1)) (p + 1)) := Lib.hid (by rw [HV.out]; unfold nxt; rw [if_pos hl])
            have hne : ¬ (p : Int) + 1 = (n : Int) := by omega
            go_wp2
            go_roundw
            case rel => exact ⟨p + 1, j + 1, hl, by omega, by go_num, by go_num, by first | rfl | trivial, HV2⟩
            case measure => simp [intOf]; omega
          · have HV2 : Hid (r = untA a b s n (2 * n + 1 - (j + 1)) s) := Lib.hid (by rw [HV.out]; unfold nxt; rw [if_neg hl])
            have hne : (p : Int) + 1 = (n : Int) := by omega
            go_wp2
            go_roundw
            case rel => exact ⟨s, j + 1, hsn, by omega, by go_num, by go_num, by first | rfl | trivial, HV2⟩
            case measure => simp [intOf]; omega
      · have HV : Hid (r = true) := Lib.hid (by rw [HU.out, HF.out.1]; exact unt_y HY.out)
        go_wp2
        go_ret
        exact ⟨by rw [HV.out]; rfl, HB1.out⟩
    · have hji : ¬ (j : Int) ≤ 2 * (n : Int) := by omega
      have HV : Hid (r = false) := Lib.hid (by rw [HU.out, show 2 * n + 1 - j = 0 by omega]; rfl)
      go_wp2
      go_ret
      exact ⟨by rw [HV.out]; rfl, HB1.out⟩
/-- The two rows that the law makes of a node's parts: turned, if a release or an always. -/
def tnF (op : Int) : Bool := decide (op = 10 ∨ op = 12)
def aF (op : Int) (l : List Bool) (k : Nat) : Bool := if op = 11 ∨ op = 12 then true else l.getD k false != tnF op
def bF (op : Int) (l r : List Bool) (k : Nat) : Bool := if op = 11 ∨ op = 12 then l.getD k false != tnF op else r.getD k false != tnF op
theorem list_of {l : List Bool} {n : Nat} {f : Nat → Bool} (h : l.length = n) (hf : ∀ k, k < n → f k = l.getD k false) : (List.range n).map f = l := by
  apply List.ext_getElem (by simp [h])
  intro i h1 h2
  have := hf i (by omega)
  simp [this, List.getD, h2]
theorem node_least {op N : Int} {sets : List Int} {s n : Nat} {l r : List Bool} (hop : op = 9 ∨ op = 10 ∨ op = 11 ∨ op = 12) (hs : s < n) (hn : sets.length = n) (hl : l.length = n) (hr : op = 9 ∨ op = 10 → r.length = n) {k : Nat} (hk : k < n) :
    ((plF (op, N) sets s l r).getD k false != tnF op) = untA ((List.range n).map (aF op l)) ((List.range n).map (bF op l r)) s n (2 * n + 1) k := by
  have key : ∀ (a b : List Bool), a.length = n → (untF a b s).getD k false = untA a b s n (2 * n + 1) k := fun a b ha => by
    unfold untF
    rw [ha]
    have e : ((List.range n).map fun i => untA a b s n (n + 1) i).getD k false = untA a b s n (n + 1) k := by simp [List.getD, hk]
    rw [e]
    exact untA_fuel hs a b hk (by omega) (by omega) (by omega) (by omega)
  rcases hop with rfl | rfl | rfl | rfl
  · have e1 : (List.range n).map (aF 9 l) = l := list_of hl (fun k _ => by show (l.getD k false != false) = _; simp)
    have e2 : (List.range n).map (bF 9 l r) = r := list_of (hr (by decide)) (fun k _ => by show (r.getD k false != false) = _; simp)
    rw [e1, e2, ← key _ _ hl]
    show ((untF l r s).getD k false != false) = _
    simp
  · have hr := hr (by decide)
    have e1 : (List.range n).map (aF 10 l) = flipF l := list_of (by rw [flip_len]; exact hl) (fun k hk => by show (l.getD k false != true) = _; rw [flip_get (by omega)]; simp)
    have e2 : (List.range n).map (bF 10 l r) = flipF r := list_of (by rw [flip_len]; exact hr) (fun k hk => by show (r.getD k false != true) = _; rw [flip_get (by omega)]; simp)
    rw [e1, e2, ← key _ _ (by rw [flip_len]; exact hl)]
    show ((flipF (untF (flipF l) (flipF r) s)).getD k false != true) = _
    rw [flip_get (by rw [unt_len, flip_len]; omega)]
    simp
  · have e1 : (List.range n).map (aF 11 l) = yesF n := list_of (by simp [yesF]) (fun k hk => by rw [yes_get hk]; rfl)
    have e2 : (List.range n).map (bF 11 l r) = l := list_of hl (fun k _ => by show (l.getD k false != false) = _; simp)
    rw [e1, e2, ← key _ _ (by simp [yesF])]
    show ((untF (yesF sets.length) l s).getD k false != false) = _
    rw [hn]
    simp
  · have e1 : (List.range n).map (aF 12 l) = yesF n := list_of (by simp [yesF]) (fun k hk => by rw [yes_get hk]; rfl)
    have e2 : (List.range n).map (bF 12 l r) = flipF l := list_of (by rw [flip_len]; exact hl) (fun k hk => by show (l.getD k false != true) = _; rw [flip_get (by omega)]; simp)
    rw [e1, e2, ← key _ _ (by simp [yesF])]
    show ((flipF (untF (yesF sets.length) (flipF l) s)).getD k false != true) = _
    rw [flip_get (by rw [unt_len]; simp [yesF]; omega), hn]
    simp
end Go.Proofs.Ytophajljjnjcdaa.wd
