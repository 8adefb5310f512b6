/- octet's reader: its object, and the reading of a number. -/
import Derived.Test.YthakidnbgmpcfaaRead
import Derived.Laws.Bits64
import Derived.Laws.BitsAllLaws
import Derived.Laws.BitsLemmas
namespace Go.Proofs.Ythakidnbgmpcfaa
open Go.ChangeShapes Go.WideShapes Go.ChangeAt Go.RowKit

def rdF (A : Option Addr) (n c p : Nat) (e : Int) : Nat → Value
  | 0 => .slice A n c
  | 1 => .int .i64 p
  | 2 => .bool true
  | _ => .int .i64 e
/-- Block g is a reader of the bytes l, at the place p, with the fault e. -/
structure RD (w : World) (g : Nat) (A : Option Addr) (c : Nat) (l : List Int) (p : Nat) (e : Int) : Prop where
  row : w.rowIs g 49 4 (rdF A l.length c p e)
  bytes : BA w A l
  place : p ≤ l.length
  u8 : U8 l
  len : l.length ≤ 1048576
  ne : ∀ ad, A = some ad → ad.block ≠ g
  cap : l.length ≤ c

theorem RD.c0 {w : World} {g : Nat} {A : Option Addr} {c : Nat} {l : List Int} {p : Nat} {e : Int} (h : RD w g A c l p e) : w.cell? ⟨g, 0, none⟩ = some (.slice A l.length c) := h.row.cell (i := 0) (by omega)
theorem RD.c1 {w : World} {g : Nat} {A : Option Addr} {c : Nat} {l : List Int} {p : Nat} {e : Int} (h : RD w g A c l p e) : w.cell? ⟨g, 1, none⟩ = some (.int .i64 p) := h.row.cell (i := 1) (by omega)
theorem RD.c2 {w : World} {g : Nat} {A : Option Addr} {c : Nat} {l : List Int} {p : Nat} {e : Int} (h : RD w g A c l p e) : w.cell? ⟨g, 2, none⟩ = some (.bool true) := h.row.cell (i := 2) (by omega)
theorem RD.c3 {w : World} {g : Nat} {A : Option Addr} {c : Nat} {l : List Int} {p : Nat} {e : Int} (h : RD w g A c l p e) : w.cell? ⟨g, 3, none⟩ = some (.int .i64 e) := h.row.cell (i := 3) (by omega)
theorem RD.drewN {w : World} {g : Nat} {A : Option Addr} {c : Nat} {l : List Int} {p : Nat} {e : Int} (h : RD w g A c l p e) (n : Nat) : RD (w.drewN n) g A c l p e :=
  ⟨h.row, h.bytes.drewN n, h.place, h.u8, h.len, h.ne, h.cap⟩
theorem RD.setPlace {w : World} {g : Nat} {A : Option Addr} {c : Nat} {l : List Int} {p : Nat} {e : Int} (h : RD w g A c l p e) (q : Nat) (hq : q ≤ l.length) : RD (w.setCell ⟨g, 1, none⟩ (.int .i64 q)) g A c l q e := by
  refine ⟨(h.row.set 1 _).congr (fun j hj => ?_), fun hn => ?_, hq, h.u8, h.len, h.ne, h.cap⟩
  · match j with
    | 0 => rfl
    | 1 => rfl
    | 2 => rfl
    | 3 => rfl
    | j + 4 => omega
  · obtain ⟨b, off, e1, hlt, hc⟩ := h.bytes hn
    refine ⟨b, off, e1, by simpa [World.setCell] using hlt, fun i hi => ?_⟩
    rw [World.cell?_setCell_other _ _ _ _ (by intro h1; injection h1 with h1; exact h.ne _ e1 h1.symm)]
    exact hc i hi
theorem RD.setPlaceZ {w : World} {g : Nat} {A : Option Addr} {c : Nat} {l : List Int} {p : Nat} {e : Int} (h : RD w g A c l p e) (q : Nat) (z : Int) (hz : z = (q : Int)) (hq : q ≤ l.length) : RD (w.setCell ⟨g, 1, none⟩ (.int .i64 z)) g A c l q e := by
  subst hz; exact h.setPlace q hq
theorem RD.setFault {w : World} {g : Nat} {A : Option Addr} {c : Nat} {l : List Int} {p : Nat} {e : Int} (h : RD w g A c l p e) (f : Int) : RD (w.setCell ⟨g, 3, none⟩ (.int .i64 f)) g A c l p f := by
  refine ⟨(h.row.set 3 _).congr (fun j hj => ?_), fun hn => ?_, h.place, h.u8, h.len, h.ne, h.cap⟩
  · match j with
    | 0 => rfl
    | 1 => rfl
    | 2 => rfl
    | 3 => rfl
    | j + 4 => omega
  · obtain ⟨b, off, e1, hlt, hc⟩ := h.bytes hn
    refine ⟨b, off, e1, by simpa [World.setCell] using hlt, fun i hi => ?_⟩
    rw [World.cell?_setCell_other _ _ _ _ (by intro h1; injection h1 with h1; exact h.ne _ e1 h1.symm)]
    exact hc i hi

/-- What a call of a reader's leaves of the world: block g, and new blocks. -/
def Only (g : Nat) (W w' : World) : Prop := W.grownBy w' (some g)
theorem Only.refl (g : Nat) (W : World) : Only g W W := World.grownBy.refl W _
theorem Only.trans {g : Nat} {a b c : World} (h : Only g a b) (k : Only g b c) : Only g a c := World.grownBy.trans h k
theorem Only.drewN {g : Nat} {a b : World} (h : Only g a b) (n : Nat) : Only g a (b.drewN n) := ⟨h.os, h.tape, h.output, h.size, h.block⟩
theorem Only.setCell {g : Nat} {a b : World} (h : Only g a b) (i : Nat) (v : Value) : Only g a (b.setCell ⟨g, i, none⟩ v) :=
  ⟨h.os, h.tape, h.output, by simpa [World.setCell] using h.size, fun k hk hne => (Below.heap_setCell b ⟨g, i, none⟩ v k (fun e => hne (by rw [e]))).trans (h.block k hk hne)⟩
theorem Only.below {g B : Nat} {a b : World} (h : Only g a b) (hg : B ≤ g) (hB : B ≤ a.heap.size) : Below B a b :=
  ⟨h.os, h.tape, h.output, h.size, fun k hk => h.block k (by omega) (by intro e; injection e with e; omega)⟩

theorem left_any {g : Nat} {A : Option Addr} {c : Nat} {l : List Int} {p : Nat} {e : Int} (w : World) (h : RD w g A c l p e) :
    Calls Try.prog 30 #[.pointer (some ⟨g, 0, none⟩)] w fun en w' => en = .returned (.int .i64 ((l.length : Int) - p)) ∧ ∃ n, w' = w.drewN n := by
  have c0 := h.c0
  have c1 := h.c1
  have hp := h.place
  have hl := h.len
  clear h
  go_enter Try.func30, Try.ntmps30
  go_wp2
  go_quiet (fail)
  go_wp2
  go_ret
  exact ⟨rfl, _, rfl⟩

/-- What octet's reading of a number leaves. -/
def CNum (g : Nat) (A : Option Addr) (c : Nat) (l : List Int) (p : Nat) (e : Int) (W : World) (en : Ending) (w' : World) : Prop :=
  en = .returned (.tuple #[.int .i64 (readN (l.drop p)).v, .int .i64 (readN (l.drop p)).f]) ∧ RD w' g A c l (p + (readN (l.drop p)).k) e ∧ Only g W w'

theorem getD_drop (l : List Int) (p i : Nat) : (l.drop p).getD i 0 = l.getD (p + i) 0 := by simp [List.getD, List.getElem?_drop]

theorem signed_any (u : Nat) (w : World) (h : u < 18446744073709551616) :
    Calls Try.prog 32 #[.int .u64 (u : Int)] w fun e w' => e = .returned (.int .i64 (sgn u)) ∧ w = w' := by
  have h2 : u / 2 ≤ 9223372036854775807 := by omega
  have H := Lib.hid h
  clear h
  by_cases h1 : u % 2 = 1
  · have hx := i64_compl ((u / 2 : Nat) : Int) (by omega) (by omega)
    have e : Hid (sgn u = -((u / 2 : Nat) : Int) - 1) := Lib.hid (if_pos h1)
    have h3 : ((u : Int) % 2 == 1) = true := by simp; omega
    have h4 : (u : Int) / 2 ≤ 9223372036854775807 := by omega
    have hx' : bits .xor .i64 (-1) ((u : Int) / 2) = -((u : Int) / 2) - 1 := hx
    clear hx h1
    go_enter Try.func32, Try.ntmps32
    go_wp2
    go_ret
    exact ⟨ret_int (by rw [e.out]; rfl), rfl⟩
  · have e : Hid (sgn u = ((u / 2 : Nat) : Int)) := Lib.hid (if_neg h1)
    have h3 : ((u : Int) % 2 == 1) = false := by simp; omega
    have h4 : (u : Int) / 2 ≤ 9223372036854775807 := by omega
    clear h1
    go_enter Try.func32, Try.ntmps32
    go_wp2
    go_ret
    exact ⟨ret_int (by rw [e.out]; rfl), rfl⟩

/-- One byte more, from behind: seven bits of it. -/
def orU (u d i : Nat) : Nat := u ||| (d * 2 ^ (7 * i)) % 18446744073709551616
theorem orU_lt (u d i : Nat) (h : u < 18446744073709551616) : orU u d i < 18446744073709551616 := by
  have h2 : (d * 2 ^ (7 * i)) % 18446744073709551616 < 2 ^ 64 := Nat.mod_lt _ (by decide)
  exact Nat.or_lt_two_pow (n := 64) h h2
theorem orU_val (u d i : Nat) (hu : u < 2 ^ (7 * i)) (hd : d * 2 ^ (7 * i) < 18446744073709551616) : orU u d i = u + 2 ^ (7 * i) * d := by
  unfold orU
  rw [Nat.mod_eq_of_lt hd, Nat.or_comm, ← Nat.shiftLeft_eq, ← Nat.shiftLeft_add_eq_or_of_lt hu, Nat.shiftLeft_eq, Nat.add_comm, Nat.mul_comm]
theorem or_step (u i : Nat) (x : Int) (_hx : 0 ≤ x) (hu : u < 18446744073709551616) : bits .or .u64 (u : Int) (IntKind.u64.wrap (x % 128 * 2 ^ (7 * i))) = ((orU u (x % 128).toNat i : Nat) : Int) := by
  have e1 : IntKind.u64.wrap (x % 128 * 2 ^ (7 * i)) = (((x % 128).toNat * 2 ^ (7 * i) % 18446744073709551616 : Nat) : Int) := by
    rw [IntKind.wrap_u64]
    obtain ⟨d, hd⟩ : ∃ d : Nat, x % 128 = (d : Int) := ⟨(x % 128).toNat, by omega⟩
    rw [hd, Int.toNat_natCast]
    simp only [Int.natCast_emod, Int.natCast_mul, Int.natCast_pow]
    rfl
  rw [e1, u64_or_nat _ _ hu (Nat.mod_lt _ (by decide))]
  rfl
/-- .. so it is the value of one byte more. -/
theorem orU_dval (l : List Int) (i : Nat) (hi : i < l.length) (h9 : i < 9 ∨ i = 9 ∧ (l.getD i 0 % 128).toNat ≤ 1) : orU (dval (l.take i)) (l.getD i 0 % 128).toNat i = dval (l.take (i + 1)) := by
  have h1 := dval_lt (l.take i)
  have h2 : (l.take i).length = i := by simp; omega
  have h3 : (128 : Nat) ^ i = 2 ^ (7 * i) := by rw [Nat.pow_mul]
  rw [h2, h3] at h1
  have h4 : (l.getD i 0 % 128).toNat < 128 := by omega
  rw [orU_val _ _ _ h1, dval_snoc l i hi, h3]
  rcases h9 with h9 | ⟨rfl, h9⟩
  · have h5 : 2 ^ (7 * i) ≤ 2 ^ (7 * 8) := Nat.pow_le_pow_right (by decide) (by omega)
    have h6 : (l.getD i 0 % 128).toNat * 2 ^ (7 * i) ≤ 127 * 2 ^ (7 * 8) := Nat.mul_le_mul (by omega) h5
    omega
  · omega

set_option maxRecDepth 20000 in
set_option maxHeartbeats 2000000 in
theorem cnumber_any {g : Nat} {A : Option Addr} {c : Nat} {l : List Int} {p : Nat} {e : Int} (w : World) (h : RD w g A c l p e) :
    Calls Try.prog 24 #[.pointer (some ⟨g, 0, none⟩)] w (CNum g A c l p e w) := by
  have hp := h.place
  have hl := h.len
  have HR := Lib.hid h
  clear h
  go_enter Try.func24, Try.ntmps24
  go_wp2_with fail
  go_loopw [4, 7] (fun su si wr => ∃ (i j u : Nat), i ≤ 10 ∧ p + i ≤ l.length ∧ si = .int .i64 (i : Int) ∧ su = .int .u64 (u : Int) ∧ wr = w.drewN j ∧ Hid (u < 18446744073709551616) ∧ Hid (i ≤ 9 → u = dval ((l.drop p).take i)) ∧ Hid (∀ t, t < i → 128 ≤ (l.drop p).getD t 0)) (fun _ si _ => 10 - (intOf si).toNat)
  case atStart => exact ⟨0, 0, 0, by omega, by omega, rfl, rfl, rfl, Lib.hid (by decide), Lib.hid (fun _ => rfl), Lib.hid (fun t ht => absurd ht (by omega))⟩
  case round =>
    obtain ⟨i, j, u, hi10, hil, rfl, rfl, rfl, HU, HV, HC⟩ := hrel
    have hdl : Hid ((l.drop p).length = l.length - p) := Lib.hid (by simp)
    by_cases hi : i < 10
    · by_cases hend : i = l.length - p
      · have hcn : contN 10 (l.drop p) = i := contN_eq i 10 _ HC.out (by rw [hdl.out]; omega) (by omega) (.inr (.inl (by rw [hdl.out]; exact hend)))
        have HE : Hid (readN (l.drop p) = ⟨4, 0, 0⟩) := Lib.hid (by unfold readN; rw [hcn, if_pos ⟨hi, by rw [hdl.out]; omega⟩])
        have ht : ((i : Int) == (l.length : Int) - (p : Int)) = true := by simp; omega
        clear hcn hend
        go_wp2_with (go_at_call 30; refine (left_any _ (HR.out.drewN j)).mono ?_; rintro en w' ⟨rfl, j2, rfl⟩)
        go_ret2
        exact ⟨by rw [HE.out]; rfl, by rw [HE.out]; exact HR.out.drewN _, (Only.refl g w).drewN _⟩
      · have ht : ((i : Int) == (l.length : Int) - (p : Int)) = false := by simp; omega
        have hlt : p + i < l.length := by omega
        obtain ⟨b, off, rfl, hb, hcell⟩ := HR.out.bytes (by omega)
        have d1 : w.cell? ⟨b, off + (p + i), none⟩ = some (.int .u8 (l.getD (p + i) 0)) := hcell (p + i) hlt
        have d0 := HR.out.c0
        have d2 := HR.out.c1
        have hu8 := HR.out.u8.at_ (p + i)
        have hx0 : Hid ((l.drop p).getD i 0 = l.getD (p + i) 0) := Lib.hid (getD_drop l p i)
        have hor := or_step u i (l.getD (p + i) 0) hu8.1 HU.out
        have HU2 : Hid (orU u (l.getD (p + i) 0 % 128).toNat i < 18446744073709551616) := Lib.hid (orU_lt _ _ _ HU.out)
        have HO : Hid (i < 9 ∨ i = 9 ∧ (l.getD (p + i) 0 % 128).toNat ≤ 1 → orU u (l.getD (p + i) 0 % 128).toNat i = dval ((l.drop p).take (i + 1))) := Lib.hid (fun h => by
          have h1 := HV.out (by omega)
          rw [← getD_drop] at h ⊢
          rw [h1]
          exact orU_dval _ i (by rw [hdl.out]; omega) h)
        have HV2 : Hid (i + 1 ≤ 9 → orU u (l.getD (p + i) 0 % 128).toNat i = dval ((l.drop p).take (i + 1))) := Lib.hid (fun h => HO.out (.inl (by omega)))
        generalize l.getD (p + i) 0 = x at d1 hu8 hx0 hor HU2 HO HV2
        clear hcell hend
        by_cases hbig : 128 ≤ x
        · have HC2 : Hid (∀ t, t < i + 1 → 128 ≤ (l.drop p).getD t 0) := Lib.hid (fun t ht => by
            by_cases hti : t = i
            · subst hti; rw [hx0.out]; exact hbig
            · exact HC.out t (by omega))
          have hb' : decide (128 ≤ x) = true := decide_eq_true hbig
          go_wp2_with (go_at_call 30; refine (left_any _ (HR.out.drewN j)).mono ?_; rintro en w' ⟨rfl, j2, rfl⟩)
          go_quiet (fail)
          go_wp2
          refine ⟨⟨i + 1, j + j2 + nq, _, by omega, by omega, by go_num, rfl, rfl, HU2, HV2, HC2⟩, by simp [intOf]; omega⟩
        · have hb' : decide (128 ≤ x) = false := decide_eq_false hbig
          have HK : Hid (contN 10 (l.drop p) = i) := Lib.hid (contN_eq i 10 _ HC.out (by rw [hdl.out]; omega) (by omega) (.inr (.inr (by rw [hx0.out]; omega))))
          clear hbig
          by_cases h9 : i = 9
          · have t0 : ((i : Int) == 9) = true := by simp; omega
            have t3 : 0 < i := by omega
            by_cases h1 : 1 < x
            · have t1 : decide (1 < x) = true := decide_eq_true h1
              have HE : Hid (readN (l.drop p) = ⟨3, 0, 0⟩) := Lib.hid (by
                unfold readN
                rw [HK.out, if_neg (by rw [hdl.out]; omega), if_pos]
                refine .inr (.inl ⟨h9, ?_⟩)
                have h2 := hx0.out
                rw [h9] at h2
                omega)
              have H9 := Lib.hid h9
              clear h9
              go_wp2_with (go_at_call 30; refine (left_any _ (HR.out.drewN j)).mono ?_; rintro en w' ⟨rfl, j2, rfl⟩)
              go_quiet (fail)
              go_wp2
              go_ret2
              exact ⟨by rw [HE.out]; rfl, by rw [HE.out]; exact HR.out.drewN _, (Only.refl g w).drewN _⟩
            · by_cases h0 : x = 0
              · have t1 : decide (1 < x) = false := decide_eq_false h1
                have t2 : (x == 0) = true := by simp; omega
                have HE : Hid (readN (l.drop p) = ⟨3, 0, 0⟩) := Lib.hid (by
                              unfold readN
                              rw [HK.out, if_neg (by rw [hdl.out]; omega), if_pos]
                              refine .inr (.inr ⟨by omega, ?_⟩)
                              rw [hx0.out]; exact h0)
                clear h0
                have H9 := Lib.hid h9
                clear h9
                go_wp2_with (go_at_call 30; refine (left_any _ (HR.out.drewN j)).mono ?_; rintro en w' ⟨rfl, j2, rfl⟩)
                go_quiet (fail)
                go_wp2
                go_ret2
                exact ⟨by rw [HE.out]; rfl, by rw [HE.out]; exact HR.out.drewN _, (Only.refl g w).drewN _⟩
              · have t1 : decide (1 < x) = false := decide_eq_false h1
                have t2 : (x == 0) = false := by simp; omega
                have HE : Hid (readN (l.drop p) = ⟨0, sgn (orU u (x % 128).toNat i), i + 1⟩) := Lib.hid (by
                              unfold readN
                              rw [HK.out, if_neg (by rw [hdl.out]; omega), if_neg, HO.out (.inr ⟨h9, by omega⟩)]
                              rintro (h | ⟨h, h'⟩ | ⟨h, h'⟩)
                              · omega
                              · have h'' : (l.drop p).getD i 0 = x := hx0.out
                                rw [h] at h''
                                rw [h''] at h'
                                omega
                              · rw [hx0.out] at h'; omega)
                clear h0 h1
                have H9 := Lib.hid h9
                clear h9
                have d3 : w.frozen? ⟨g, 1, none⟩ = false := HR.out.row.frozen 1
                go_wp2_with (go_at_call 30; refine (left_any _ (HR.out.drewN j)).mono ?_; rintro en w' ⟨rfl, j2, rfl⟩)
                go_quiet (fail)
                go_wp2_with (go_at_call 32; refine (signed_any _ _ HU2.out).mono ?_; rintro en w' ⟨rfl, rfl⟩)
                go_ret2
                exact ⟨by rw [HE.out]; rfl, by rw [HE.out]; exact (HR.out.drewN _).setPlaceZ (p + (i + 1)) _ (by omega) (by omega), ((Only.refl g w).drewN _).setCell 1 _⟩
          · have t0 : ((i : Int) == 9) = false := by simp; omega
            by_cases hz : i = 0
            · have t3 : ¬ 0 < i := by omega
              have HE : Hid (readN (l.drop p) = ⟨0, sgn (orU u (x % 128).toNat i), i + 1⟩) := Lib.hid (by
                            unfold readN
                            rw [HK.out, if_neg (by rw [hdl.out]; omega), if_neg, HO.out (.inl (by omega))]
                            rintro (h | ⟨h, h'⟩ | ⟨h, h'⟩)
                            · omega
                            · have h'' : (l.drop p).getD i 0 = x := hx0.out
                              rw [h] at h''
                              rw [h''] at h'
                              omega
                            · rw [hx0.out] at h'; omega)
              have HZ := Lib.hid hz
              clear hz h9
              have d3 : w.frozen? ⟨g, 1, none⟩ = false := HR.out.row.frozen 1
              go_wp2_with (go_at_call 30; refine (left_any _ (HR.out.drewN j)).mono ?_; rintro en w' ⟨rfl, j2, rfl⟩)
              go_quiet (fail)
              go_wp2_with (go_at_call 32; refine (signed_any _ _ HU2.out).mono ?_; rintro en w' ⟨rfl, rfl⟩)
              go_ret2
              exact ⟨by rw [HE.out]; rfl, by rw [HE.out]; exact (HR.out.drewN _).setPlaceZ (p + (i + 1)) _ (by omega) (by omega), ((Only.refl g w).drewN _).setCell 1 _⟩
            · have t3 : 0 < i := by omega
              by_cases h0 : x = 0
              · have t2 : (x == 0) = true := by simp; omega
                have HE : Hid (readN (l.drop p) = ⟨3, 0, 0⟩) := Lib.hid (by
                              unfold readN
                              rw [HK.out, if_neg (by rw [hdl.out]; omega), if_pos]
                              refine .inr (.inr ⟨by omega, ?_⟩)
                              rw [hx0.out]; exact h0)
                clear h0 h9 hz
                go_wp2_with (go_at_call 30; refine (left_any _ (HR.out.drewN j)).mono ?_; rintro en w' ⟨rfl, j2, rfl⟩)
                go_quiet (fail)
                go_wp2
                go_ret2
                exact ⟨by rw [HE.out]; rfl, by rw [HE.out]; exact HR.out.drewN _, (Only.refl g w).drewN _⟩
              · have t2 : (x == 0) = false := by simp; omega
                have HE : Hid (readN (l.drop p) = ⟨0, sgn (orU u (x % 128).toNat i), i + 1⟩) := Lib.hid (by
                              unfold readN
                              rw [HK.out, if_neg (by rw [hdl.out]; omega), if_neg, HO.out (.inl (by omega))]
                              rintro (h | ⟨h, h'⟩ | ⟨h, h'⟩)
                              · omega
                              · have h'' : (l.drop p).getD i 0 = x := hx0.out
                                rw [h] at h''
                                rw [h''] at h'
                                omega
                              · rw [hx0.out] at h'; omega)
                clear h0 h9 hz
                have d3 : w.frozen? ⟨g, 1, none⟩ = false := HR.out.row.frozen 1
                go_wp2_with (go_at_call 30; refine (left_any _ (HR.out.drewN j)).mono ?_; rintro en w' ⟨rfl, j2, rfl⟩)
                go_quiet (fail)
                go_wp2_with (go_at_call 32; refine (signed_any _ _ HU2.out).mono ?_; rintro en w' ⟨rfl, rfl⟩)
                go_ret2
                exact ⟨by rw [HE.out]; rfl, by rw [HE.out]; exact (HR.out.drewN _).setPlaceZ (p + (i + 1)) _ (by omega) (by omega), ((Only.refl g w).drewN _).setCell 1 _⟩
    · obtain rfl : i = 10 := by omega
      have hcn : contN 10 (l.drop p) = 10 := contN_eq 10 10 _ HC.out (by rw [hdl.out]; omega) (by omega) (.inl rfl)
      have HE : Hid (readN (l.drop p) = ⟨3, 0, 0⟩) := Lib.hid (by unfold readN; rw [hcn, if_neg (by omega), if_pos (.inl rfl)])
      clear hcn
      go_wp2
      go_ret2
      exact ⟨by rw [HE.out]; rfl, by rw [HE.out]; exact HR.out.drewN _, (Only.refl g w).drewN _⟩
end Go.Proofs.Ythakidnbgmpcfaa
