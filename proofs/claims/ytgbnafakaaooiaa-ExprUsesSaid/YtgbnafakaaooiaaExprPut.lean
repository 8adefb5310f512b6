/- The program's kinds of nodes, whole: hasChan, hasLoc, an operation's kind, a node's kind. -/
import Derived.Test.YtgbnafakaaooiaaExprKind
namespace Go.Proofs.Ytgbnafakaaooiaa
open Go.ChangeShapes Go.WideShapes Go.ChangeAt Go.RowKit

/-- Is there a channel? -/
def chanB (nsc : Nat) (l : List Int) (n : Int) : Bool := decide (0 ≤ n ∧ n < l.length ∧ 0 ≤ l.getD n.toNat 0 ∧ l.getD n.toNat 0 ≤ nsc)
/-- Is there a location? -/
def locB (l : List Int) (n : Int) : Bool := decide (0 ≤ n ∧ n / 16 < l.length ∧ n % 16 < l.getD (n / 16).toNat 0)

set_option maxHeartbeats 1000000 in
theorem hasChan_any (X : ScX) (l : List Int) (n : Int) (w : World) (hn1 : X.n1 ≤ 1000000000000000) (hm : X.n3 = l.length) (hA : CA w X.a3 l) :
    Calls Try.prog 29 #[X.v, .int .i64 n] w fun e w' => e = .returned (.bool (chanB X.n1 l n)) ∧ Below w.heap.size w w' := by
  have HM := Lib.hid hm
  have HA := Lib.hid hA
  clear hm hA
  by_cases h : 0 ≤ n ∧ n < X.n3
  · obtain ⟨k, rfl⟩ : ∃ k : Nat, n = k := ⟨n.toNat, by omega⟩
    have hk : k < X.n3 := by omega
    obtain ⟨x, HL⟩ : ∃ x, Hid (l.getD k 0 = x) := ⟨_, Lib.hid rfl⟩
    clear h
    by_cases hx : 0 ≤ x ∧ x ≤ X.n1
    · have HE : Hid (chanB X.n1 l k = true) := Lib.hid (decide_eq_true ⟨by omega, by rw [← HM.out]; omega, by rw [Int.toNat_natCast, HL.out]; exact hx⟩)
      unfold ScX.v
      go_enter Try.func29, Try.ntmps29
      go_wp2_with fail
      refine (entryC_yes _ _ _ k l _ HM.out (HA.out.below (below_alloc1 _ _)) hk).mono ?_
      rintro e w1 ⟨⟨s, p, q, r, t, rfl⟩, hb1⟩
      rw [HL.out]
      have HB1 : Hid (Below w.heap.size w w1) := Lib.hid (bthen (below_alloc1 _ _) hb1)
      have HX1 := Lib.hid ((Bx.new w X 50).below hb1)
      clear hb1
      obtain ⟨c1, hz⟩ := HX1.out
      go_wp2_with fail
      refine (named_yes X x _ hx.1 hx.2 hn1).mono ?_
      rintro e w2 ⟨rfl, hb2⟩
      have HB2 : Hid (Below w.heap.size w w2) := Lib.hid (bthen HB1.out (bthen (below_alloc1 _ _) hb2))
      clear hb2 c1 hz
      go_wp2
      go_ret
      exact ⟨by rw [HE.out]; rfl, HB2.out⟩
    · have HE : Hid (chanB X.n1 l k = false) := Lib.hid (decide_eq_false (by rw [Int.toNat_natCast, HL.out]; omega))
      have HX := Lib.hid hx
      clear hx
      unfold ScX.v
      go_enter Try.func29, Try.ntmps29
      go_wp2_with fail
      refine (entryC_yes _ _ _ k l _ HM.out (HA.out.below (below_alloc1 _ _)) hk).mono ?_
      rintro e w1 ⟨⟨s, p, q, r, t, rfl⟩, hb1⟩
      rw [HL.out]
      have HB1 : Hid (Below w.heap.size w w1) := Lib.hid (bthen (below_alloc1 _ _) hb1)
      have HX1 := Lib.hid ((Bx.new w X 50).below hb1)
      clear hb1
      obtain ⟨c1, hz⟩ := HX1.out
      go_wp2_with fail
      refine (named_no X x _ (by have := HX.out; omega)).mono ?_
      rintro e w2 ⟨rfl, hb2⟩
      have HB2 : Hid (Below w.heap.size w w2) := Lib.hid (bthen HB1.out (bthen (below_alloc1 _ _) hb2))
      clear hb2 c1 hz
      go_wp2
      go_ret
      exact ⟨by rw [HE.out]; rfl, HB2.out⟩
  · have HE : Hid (chanB X.n1 l n = false) := Lib.hid (decide_eq_false (by rw [← HM.out]; omega))
    have HH := Lib.hid h
    clear h
    unfold ScX.v
    go_enter Try.func29, Try.ntmps29
    go_wp2_with fail
    refine (entryC_no _ _ _ n _ (by have := HH.out; omega)).mono ?_
    rintro e w1 ⟨rfl, hb1⟩
    have HB1 : Hid (Below w.heap.size w w1) := Lib.hid (bthen (below_alloc1 _ _) hb1)
    clear hb1
    go_wp2
    go_ret
    exact ⟨by rw [HE.out]; rfl, bthen HB1.out (below_alloc1 _ _)⟩

set_option maxHeartbeats 1000000 in
theorem hasLoc_any (X : ScX) (l : List Int) (n : Int) (w : World) (hm : X.n4 = l.length) (hA : QA w X.a4 l) (hn : -9223372036854775808 ≤ n ∧ n ≤ 9223372036854775807) :
    Calls Try.prog 30 #[X.v, .int .i64 n] w fun e w' => e = .returned (.bool (locB l n)) ∧ Below w.heap.size w w' := by
  have HM := Lib.hid hm
  have HA := Lib.hid hA
  clear hm hA
  obtain ⟨hn1, hn2⟩ := hn
  by_cases h0 : 0 ≤ n
  · obtain ⟨d, HD⟩ : ∃ d : Nat, Hid (n / 16 = d) := ⟨(n / 16).toNat, Lib.hid (by omega)⟩
    by_cases hd : d < X.n4
    · obtain ⟨x, HL⟩ : ∃ x, Hid (l.getD d 0 = x) := ⟨_, Lib.hid rfl⟩
      have HE : Hid (locB l n = decide (n % 16 < x)) := Lib.hid (by
        unfold locB
        rw [HD.out, Int.toNat_natCast, HL.out, ← HM.out]
        simp only [h0, true_and, show (d : Int) < (X.n4 : Int) by omega])
      unfold ScX.v
      go_enter Try.func30, Try.ntmps30
      go_wp2_with fail
      rw [HD.out]
      refine (entryQ_yes _ _ _ d l _ HM.out (HA.out.below (below_alloc1 _ _)) hd).mono ?_
      rintro e w1 ⟨⟨s, p, A1, A2, m1, d1, m2, d2, rfl⟩, hb1⟩
      rw [HL.out]
      have HB1 : Hid (Below w.heap.size w w1) := Lib.hid (bthen (below_alloc1 _ _) hb1)
      clear hb1
      have h16 : 0 ≤ n % 16 := by omega
      go_wp2
      go_ret
      exact ⟨by rw [HE.out]; rfl, bthen HB1.out (below_alloc1 _ _)⟩
    · have HE : Hid (locB l n = false) := Lib.hid (decide_eq_false (by rw [HD.out, ← HM.out]; omega))
      unfold ScX.v
      go_enter Try.func30, Try.ntmps30
      go_wp2_with fail
      rw [HD.out]
      refine (entryQ_no _ _ _ d _ (by omega)).mono ?_
      rintro e w1 ⟨rfl, hb1⟩
      have HB1 : Hid (Below w.heap.size w w1) := Lib.hid (bthen (below_alloc1 _ _) hb1)
      clear hb1
      go_wp2
      go_ret
      exact ⟨by rw [HE.out]; rfl, bthen HB1.out (below_alloc1 _ _)⟩
  · have HE : Hid (locB l n = false) := Lib.hid (decide_eq_false (by omega))
    have ht := Int.tmod_eq_emod (a := n) (b := 16)
    have hq := Int.mul_tdiv_add_tmod n 16
    by_cases h16 : n.tdiv 16 = 0 ∧ 0 < X.n4
    · obtain ⟨hq0, hx⟩ := h16
      have hr : n.tmod 16 < 0 := by rw [hq0] at hq; omega
      obtain ⟨x, HL⟩ : ∃ x, Hid (l.getD 0 0 = x) := ⟨_, Lib.hid rfl⟩
      have HQ := Lib.hid hq0
      clear ht hq hq0
      unfold ScX.v
      go_enter Try.func30, Try.ntmps30
      go_wp2_with fail
      rw [HQ.out]
      refine (entryQ_yes _ _ _ 0 l _ HM.out (HA.out.below (below_alloc1 _ _)) hx).mono ?_
      rintro e w1 ⟨⟨s, p, A1, A2, m1, d1, m2, d2, rfl⟩, hb1⟩
      rw [HL.out]
      have HB1 : Hid (Below w.heap.size w w1) := Lib.hid (bthen (below_alloc1 _ _) hb1)
      clear hb1
      go_wp2
      go_ret
      exact ⟨by rw [HE.out]; rfl, bthen HB1.out (below_alloc1 _ _)⟩
    · have HQ : Hid (n.tdiv 16 < 0 ∨ (X.n4 : Int) ≤ n.tdiv 16) := Lib.hid (by
        by_cases hz : n.tdiv 16 = 0
        · omega
        · left
          have h3 : n.tmod 16 ≤ 0 := by
            have h4 := Int.neg_tmod n 16
            have h5 : 0 ≤ (-n).tmod 16 := Int.tmod_nonneg _ (by omega)
            omega
          have h6 : n.tdiv 16 ≤ 0 := by
            have h7 := Int.neg_tdiv n 16
            have h8 : 0 ≤ (-n).tdiv 16 := Int.tdiv_nonneg (by omega) (by omega)
            omega
          omega)
      clear ht hq
      unfold ScX.v
      go_enter Try.func30, Try.ntmps30
      go_wp2_with fail
      refine (entryQ_no _ _ _ _ _ HQ.out).mono ?_
      rintro e w1 ⟨rfl, hb1⟩
      have HB1 : Hid (Below w.heap.size w w1) := Lib.hid (bthen (below_alloc1 _ _) hb1)
      clear hb1
      go_wp2
      go_ret
      exact ⟨by rw [HE.out]; rfl, bthen HB1.out (below_alloc1 _ _)⟩

/-- The kind of what comes of parts. -/
def opK (op : Int) (ps : List Int) : Int × Int := if ps.all (fun p => p == (if opOf op = -1 then ps.getD 0 0 else opOf op)) then (opTo op, 0) else (0, 9)
theorem opOf_range (op : Int) : opOf op = -1 ∨ opOf op = 0 ∨ opOf op = 1 := by unfold opOf; split <;> (try split) <;> simp

set_option maxHeartbeats 1000000 in
theorem opKind_any (t op : Int) (fv : Value) (A : Option Addr) (c m : Nat) (ps : List Int) (w : World) (hm : m = ps.length) (hA : IA w A ps) (h1 : 0 < m) (h2 : m ≤ 1000) (hf : fv = .nilFunc ∨ ∃ g lb, fv = .func (.func g) #[] lb) :
    Calls Try.prog 32 #[.agg #[.int .i64 t, .int .i64 (opOf op), .int .i64 (opTo op), fv], .slice A m c] w (PairP w (opK op ps)) := by
  obtain ⟨b, o, rfl, hb, hc⟩ := hA (by omega)
  have c0 := hc 0 (by omega)
  rw [Nat.add_zero] at c0
  have HM := Lib.hid hm
  have HC := Lib.hid hc
  obtain ⟨p1, HP1⟩ : ∃ p1, Hid (opOf op = p1) := ⟨_, Lib.hid rfl⟩
  obtain ⟨p2, HP2⟩ : ∃ p2, Hid (opTo op = p2) := ⟨_, Lib.hid rfl⟩
  obtain ⟨of, HOF⟩ : ∃ of, Hid ((if opOf op = -1 then ps.getD 0 0 else opOf op) = of) := ⟨_, Lib.hid rfl⟩
  obtain ⟨z, HZ⟩ : ∃ z, Hid (ps.getD 0 0 = z) := ⟨_, Lib.hid rfl⟩
  rw [HZ.out] at c0
  have HOK : Hid (opK op ps = if ps.all (fun p => p == of) then (p2, 0) else (0, 9)) := Lib.hid (by unfold opK; rw [HOF.out, HP2.out])
  have hp : (p1 = -1 ∧ of = z) ∨ (p1 ≠ -1 ∧ of = p1) := by
    have h := HOF.out
    rw [HP1.out, HZ.out] at h
    by_cases e : p1 = -1
    · rw [if_pos e] at h; exact .inl ⟨e, h.symm⟩
    · rw [if_neg e] at h; exact .inr ⟨e, h.symm⟩
  rw [HP1.out, HP2.out]
  clear hm hc hA HZ HOF
  rcases hf with rfl | ⟨g, lb, rfl⟩
  all_goals
    rcases hp with ⟨rfl, rfl⟩ | ⟨hne, rfl⟩
    all_goals
      go_enter Try.func32, Try.ntmps32
      go_wp2
      go_loop [18] (fun i => ∃ k : Nat, k ≤ m ∧ i = .int .i64 k ∧ Hid (∀ j, j < k → ps.getD j 0 = of)) (fun i => m - (intOf i).toNat)
      case atStart => exact ⟨0, Nat.zero_le _, rfl, Lib.hid (fun j hj => absurd hj (by omega))⟩
      case round =>
        obtain ⟨k, hk, rfl, HV⟩ := hrel
        by_cases hlt : k < m
        · have ck := (HC.out k (by rw [← HM.out]; exact hlt))
          have HPK : Hid (ps.getD k 0 ∈ ps) := Lib.hid (by
            have hkl : k < ps.length := by rw [← HM.out]; exact hlt
            have e : ps.getD k 0 = ps[k] := by simp [List.getD, hkl]
            rw [e]; exact List.getElem_mem _)
          by_cases hx : ps.getD k 0 = of
          · have HX := Lib.hid hx
            rw [hx] at ck
            clear hx
            go_wp2
            go_round
            case rel => exact ⟨k + 1, by omega, by go_num, Lib.hid (fun j hj => by
              by_cases hjk : j = k
              · subst hjk; exact HX.out
              · exact HV.out j (by omega))⟩
            case measure => simp [intOf]; omega
          · have HE : Hid (opK op ps = (0, 9)) := Lib.hid (by
              rw [HOK.out, if_neg]
              intro h
              have := List.all_eq_true.1 h _ HPK.out
              exact hx (by simpa using this))
            generalize ps.getD k 0 = y at ck hx
            have hx2 : (y != of) = true := by simpa using hx
            clear HPK
            go_wp2
            go_ret2
            exact ⟨by rw [HE.out]; rfl, below_alloc1 _ _⟩
        · have HE : Hid (opK op ps = (p2, 0)) := Lib.hid (by
            rw [HOK.out, if_pos]
            rw [List.all_eq_true]
            intro x hx
            obtain ⟨j, hj, e⟩ := List.mem_iff_getElem.1 hx
            have := HV.out j (by have := HM.out; omega)
            simp [List.getD, hj] at this
            simp [← e, this])
          have hge : m ≤ k := by omega
          clear hlt
          go_wp2
          go_ret2
          exact ⟨by rw [HE.out]; rfl, below_alloc1 _ _⟩

/-- The kind of a node. -/
def nodeK (S : Sc) (nd : Int × Int) (ps : List Int) : Int × Int :=
  if nd.1 = 1 then (0, (hadF nd.2 (fitB nd.2 (-1048576) 1048576) 10).2)
  else if nd.1 = 2 then plainK S.sizes.length S.vars nd.2
  else if nd.1 = 3 then itemK S.sizes.length S.vars nd.2 (ps.getD 0 0)
  else if nd.1 = 4 then plainK S.sizes.length S.locals nd.2
  else if nd.1 = 5 then (if 1 ≤ S.self ∧ S.self ≤ S.sizes.length then (1 + S.self, 0) else (0, 8))
  else if nd.1 = 6 then hadF 0 (chanB S.sizes.length S.chans nd.2) 8
  else if nd.1 = 7 then hadF 0 (locB S.procs nd.2) 8
  else if nd.1 = 8 then noneK S.sizes.length nd.2
  else opK nd.1 ps
/-- A scope lies there. -/
structure SR (w : World) (X : ScX) (S : Sc) : Prop where
  l1 : X.n1 = S.sizes.length
  l2 : X.n2 = S.vars.length
  l3 : X.n3 = S.chans.length
  l4 : X.n4 = S.procs.length
  l5 : X.n5 = S.locals.length
  self : X.self = S.self
  small : X.n1 ≤ 1000000000000000
  r1 : SA w X.a1 S.sizes
  r2 : VA w X.a2 S.vars
  r3 : CA w X.a3 S.chans
  r4 : QA w X.a4 S.procs
  r5 : VA w X.a5 S.locals
theorem SR.below {w w' : World} {X : ScX} {S : Sc} (h : SR w X S) (k : Below w.heap.size w w') : SR w' X S :=
  ⟨h.l1, h.l2, h.l3, h.l4, h.l5, h.self, h.small, h.r1.below k, h.r2.below k, h.r3.below k, h.r4.below k, h.r5.below k⟩
end Go.Proofs.Ytgbnafakaaooiaa
