/- All's iterator, for every body. -/
import Derived.Test.YtcoocchfadbhdaaOver
import Derived.Test.YtcoocchfadbhdaaAll
namespace Go.Proofs.Ytcoocchfadbhdaa
open Go.ChangeShapes Go.WideShapes Go.ChangeAt Go.RowKit Go.Shelf

attribute [local go_sem] Oper.semAt_some

/-- The numbers of the first k words of a set. -/
def memW (g : Nat → Bool) : Nat → List Nat
  | 0 => []
  | k + 1 => memW g k ++ (plc (wd g k 64) 64).map (64 * k + ·)
theorem memW_prefix (g : Nat → Bool) {k m : Nat} (h : k ≤ m) : memW g k <+: memW g m := by
  induction m with
  | zero => obtain rfl : k = 0 := by omega
            exact List.prefix_refl _
  | succ m ih =>
    by_cases e : k = m + 1
    · subst e; exact List.prefix_refl _
    · exact (ih (by omega)).trans (List.prefix_append _ _)
theorem memW_part {g : Nat → Bool} {k m : Nat} {pre : List Nat} (h : pre <+: plc (wd g k 64) 64) (hk : k < m) : memW g k ++ pre.map (64 * k + ·) <+: memW g m := by
  obtain ⟨r, hr⟩ := h
  refine List.IsPrefix.trans ?_ (memW_prefix g (show k + 1 ≤ m by omega))
  rw [memW, ← hr, List.map_append, ← List.append_assoc]
  exact List.prefix_append _ _

theorem memW_length (g : Nat → Bool) (k : Nat) : (memW g k).length ≤ 64 * k := by
  induction k with
  | zero => simp [memW]
  | succ k ih =>
    rw [memW, List.length_append, List.length_map]
    have := plc_length (wd g k 64) 64
    omega

/-- What stands while the iterator runs. -/
structure AI (l t B2 sz : Nat) (g : Nat → Bool) (lo : Nat) (Ds : List Nat) (fine : World → Nat → Prop) (ok : World → Prop) (Jv : World → Prop) (V : World) : Prop where
  o : ok V
  j : Jv V
  words : V.rowIs t 51 (SW sz) (fun k => .int .u64 (W g k))
  tf : fine V t
  box : V.heap[B2]? = some (.cells #[.func (.yield l) #[] #[]] 30 (0, 0))
  bf : fine V B2
  marks : ∀ D ∈ Ds, lo ≤ D ∧ V.heap[D]? = some (.deferred (some []))
  nodup : Ds.Nodup
theorem AI.kp {l t B2 sz lo : Nat} {g : Nat → Bool} {Ds : List Nat} {Kp : World → World → Prop} {fine : World → Nat → Prop} {ok : World → Prop} {Jv Jv' : World → Prop} {V V' : World} (G : Guards lo Kp fine ok)
    (h : AI l t B2 sz g lo Ds fine ok Jv V) (hk : Kp V V') (hj : Jv' V') : AI l t B2 sz g lo Ds fine ok Jv' V' := by
  obtain ⟨c, hc, h1, h2⟩ := h.words
  refine ⟨G.goes h.o hk, hj, ⟨c, G.keep h.o hk h.tf hc, h1, h2⟩, G.still h.o hk h.tf h.words.lt, G.keep h.o hk h.bf h.box, G.still h.o hk h.bf (Array.getElem?_eq_some_iff.1 h.box).1, fun D hD => ?_, h.nodup⟩
  obtain ⟨m1, m2⟩ := h.marks D hD
  exact ⟨m1, (G.others hk).same D _ m1 m2 rfl⟩
theorem AI.turn {L l t B2 sz lo Bd : Nat} {g : Nat → Bool} {Ds : List Nat} {Kp : World → World → Prop} {fine : World → Nat → Prop} {ok : World → Prop} {Jv Jv' : World → Prop} {V V' : World} {row : Option Nat} (G : Guards L Kp fine ok)
    (h : AI l t B2 sz g lo Ds fine ok Jv V) (hg : V.grownBy V' row) (hr : ∀ r, row = some r → Bd ≤ r ∧ ∃ o : Obj, V.heap[r]? = some o ∧ o.isCells = false) (ht : t < Bd) (hB : B2 < Bd) (hDs : ∀ D ∈ Ds, D < Bd) (hj : Jv' V') :
    AI l t B2 sz g lo Ds fine ok Jv' V' := by
  obtain ⟨c, hc, h1, h2⟩ := h.words
  have g1 := G.turn h.o hg (fun r e => (hr r e).2)
  have hr1 := fun r e => (hr r e).1
  refine ⟨g1.1, hj, ⟨c, block_kept hg hr1 ht hc, h1, h2⟩, g1.2 _ h.tf, block_kept hg hr1 hB h.box, g1.2 _ h.bf, fun D hD => ?_, h.nodup⟩
  obtain ⟨m1, m2⟩ := h.marks D hD
  exact ⟨m1, block_kept hg hr1 (hDs D hD) m2⟩
theorem AI.lay {L l t B2 sz lo : Nat} {g : Nat → Bool} {Ds : List Nat} {Kp : World → World → Prop} {fine : World → Nat → Prop} {ok : World → Prop} {Jv Jv' : World → Prop} {V : World} (G : Guards L Kp fine ok)
    (h : AI l t B2 sz g lo Ds fine ok Jv V) (o : Obj) (hj : Jv' (V.alloc o)) : AI l t B2 sz g lo Ds fine ok Jv' (V.alloc o) :=
  AI.turn (Bd := V.heap.size) G h (World.grownBy_alloc V o none) (fun r e => by cases e) h.words.lt (Array.getElem?_eq_some_iff.1 h.box).1 (fun D hD => (Array.getElem?_eq_some_iff.1 (h.marks D hD).2).1) hj

/-- Where the outer loop stands. -/
def AtHead (l Bp s t sz : Nat) (g : Nat → Bool) (W : World) (fine : World → Nat → Prop) (ok : World → Prop) (J : List Nat → World → Prop) (a : Act) (V : World) : Prop :=
  ∃ (k : Nat) (Ds : List Nat) (u3 u4 u5 u10 u11 u12 u13 u14 u15 u16 u17 u18 u19 u20 u21 u22 u23 u24 : Value), k ≤ SW sz ∧ a = { tmps := #[.func (.yield l) #[] #[], .pointer (some ⟨Bp, 0, none⟩), .pointer (some ⟨W.heap.size, 0, none⟩), u3, u4, u5, .pointer (some ⟨s, 0, none⟩), .slice (some ⟨t, 0, none⟩) (SW sz) (SW sz), .int .i64 (SW sz : Nat), .int .i64 (k : Nat), u10, u11, u12, u13, u14, u15, u16, u17, u18, u19, u20, u21, u22, u23, u24], defers := Ds.map mark } ∧ AI l t W.heap.size sz g W.heap.size Ds fine ok (J (memW g k)) V

set_option maxRecDepth 100000 in
set_option maxHeartbeats 4000000 in
theorem all_over (s t sz Bp : Nat) (g : Nat → Bool) (w : World) (hS : ST w s t sz g) (hBp : w.cell? ⟨Bp, 0, none⟩ = some (.pointer (some ⟨s, 0, none⟩))) :
    SeqOver Try.prog 59 #[.pointer (some ⟨Bp, 0, none⟩)] (fun x : Nat => #[Value.int .i64 x]) [t] (fun ys => ys = memW g (SW sz)) (fun pre => pre <+: memW g (SW sz)) 100000 w := by
  intro n l Kp fine ok J Jx W G hW okW hneed hJ hJx hY h0
  have hBlt : Bp < w.heap.size := by
    rcases Nat.lt_or_ge Bp w.heap.size with hlt | hge
    · exact hlt
    · simp [World.cell?, Array.getElem?_eq_none hge] at hBp
  have c0 : W.cell? ⟨Bp, 0, none⟩ = some (.pointer (some ⟨s, 0, none⟩)) := (hW.cell (p := ⟨Bp, 0, none⟩) hBlt).trans hBp
  have hSW : ST W s t sz g := hS.keep hW
  have c1 := cell_alloc_l (.cells #[.func (.yield l) #[] #[]] 30) c0
  have H := Lib.hid ((hSW.keep ((Below.refl _ W).alloc (Nat.le_refl _) (.cells #[.func (.yield l) #[] #[]] 30))).hd)
  have hA0 : Hid (AI l t W.heap.size sz g W.heap.size [] fine ok (J (memW g 0)) (W.alloc (.cells #[.func (.yield l) #[] #[]] 30))) := Lib.hid (by
    have g1 := G.turn okW (World.grownBy_alloc W (.cells #[.func (.yield l) #[] #[]] 30) none) (fun r e => by cases e)
    exact ⟨g1.1, hJ.alloc _ h0, hSW.words.alloc _, g1.2 _ (hneed t (by simp)), World.alloc_heap_new W _, g1.2 _ (G.new okW (Nat.le_refl _)), fun D hD => by simp at hD, List.nodup_nil⟩)
  have htl := hSW.words.lt
  have hsz := hS.len
  clear hS hBp c0 hSW hW
  refine callsIn_wide.2 ((callsIn_wide (n := 5)).1 ?_)
  refine callsIn_of_wp_marks Try.func59 rfl trivial ?_ rfl
  simp only [Try.ntmps59, List.size_toArray, List.length_cons, List.length_nil, Nat.reduceAdd, Nat.reduceSub, Array.replicate_succ, Array.replicate_zero, List.push_toArray, List.append_toArray, List.nil_append, List.cons_append]
  gi_wp2_with fail
  refine ⟨trivial, ?_⟩
  refine (callsIn_wide.2 (held_any H.out)).mono ?_
  rintro e w' ⟨rfl, rfl⟩
  gi_wp2_with fail
  have hs25 : SW sz ≤ 1024 := by unfold SW; omega
  refine wpIn_loop (AtHead l Bp s t sz g W fine ok J) (fun a' _ => SW sz - (intOf (a'.tmps.getD 9 undef)).toNat) ?start ?round
  case start => exact ⟨0, [], undef, undef, undef, undef, undef, undef, undef, undef, undef, undef, undef, undef, undef, undef, undef, undef, undef, undef, Nat.zero_le _, rfl, hA0.out⟩
  case round =>
    rintro a' V ⟨k, Ds, u3, u4, u5, u10, u11, u12, u13, u14, u15, u16, u17, u18, u19, u20, u21, u22, u23, u24, hk, rfl, hA⟩
    have HA := Lib.hid hA
    by_cases hlt : k < SW sz
    · have cw : V.cell? ⟨t, k, none⟩ = some (.int .u64 (wd g k 64 : Int)) := hA.words.cell hlt
      have HF := Lib.hid (wdn_lt g k)
      clear hA
      obtain ⟨u, HU⟩ : ∃ u, Hid (wd g k 64 = u) := ⟨_, Lib.hid rfl⟩
      rw [HU.out] at cw HF
      gi_wp2_with fail
      refine ⟨trivial, ?_⟩
      refine (callsIn_wide.2 (each_any u _)).mono ?_
      rintro e w' ⟨rfl, rfl⟩
      gi_wp2_with fail
      have b1 := cell_new_l (V.alloc (.cells #[.int .i64 (k : Nat)] 3)) (.int .u64 u) 51
      simp only [World.size_alloc] at b1
      have hlo : W.heap.size ≤ V.heap.size := by have := (Array.getElem?_eq_some_iff.1 HA.out.box).1; omega
      have J1 := hJ.alloc (.cells #[.int .i64 (k : Nat)] 3) HA.out.j
      have J2 := hJ.alloc (.cells #[.int .u64 u] 51) J1
      have A1 := HA.out.lay G (.cells #[.int .i64 (k : Nat)] 3) J1
      have A2 := A1.lay G (.cells #[.int .u64 u] 51) J2
      have X1 : (V.alloc (.cells #[.int .i64 (k : Nat)] 3)).heap[V.heap.size]? = some (.cells #[.int .i64 (k : Nat)] 3 (0, 0)) := World.alloc_heap_new V _
      have X2 : ((V.alloc (.cells #[.int .i64 (k : Nat)] 3)).alloc (.cells #[.int .u64 u] 51)).heap[V.heap.size]? = some (.cells #[.int .i64 (k : Nat)] 3 (0, 0)) := (Below.heap_alloc _ _ _ (by simp)).trans X1
      have g1 := G.turn HA.out.o (World.grownBy_alloc V (.cells #[.int .i64 (k : Nat)] 3) none) (fun r e => by cases e)
      have g2 := G.turn g1.1 (World.grownBy_alloc (V.alloc (.cells #[.int .i64 (k : Nat)] 3)) (.cells #[.int .u64 u] 51) none) (fun r e => by cases e)
      have f2 := g2.2 _ (g1.2 _ (G.new HA.out.o (Nat.le_refl V.heap.size)))
      have z2 : ((V.alloc (.cells #[.int .i64 (k : Nat)] 3)).alloc (.cells #[.int .u64 u] 51)).heap.size = V.heap.size + 2 := by simp
      have MB : ∀ D ∈ Ds, D < V.heap.size := fun D hD => (Array.getElem?_eq_some_iff.1 (HA.out.marks D hD).2).1
      have bB2 := (Array.getElem?_eq_some_iff.1 HA.out.box).1
      have btV := HA.out.words.lt
      clear cw X1 g1 g2 A1 J1 HA
      generalize (V.alloc (.cells #[.int .i64 (k : Nat)] 3)).alloc (.cells #[.int .u64 u] 51) = V2 at *
      refine wpIn_rangeFunc_ownH (F := Fence.wide) (n := 5) rfl (by omega) (gf := 58) (lb := #[.pointer (some ⟨V.heap.size + 1, 0, none⟩)]) rfl trivial (enters_of Try.func58 (by kernel_rfl) rfl)
        (each_stops64 Fence.wide (5 - 1) trivial rfl (by omega) (V.heap.size + 1) u HF.out (fun _ _ => True) V2 (by omega) b1.1) (fun _ _ => trivial) (fun _ _ _ _ _ _ _ _ => trivial) (Below.refl _ _) (fun _ => rfl)
        (fun pre' V' => AI l t W.heap.size sz g W.heap.size Ds fine ok (J (memW g k ++ (pre'.map Fin.val).map (64 * k + ·))) V' ∧ V'.heap[V.heap.size]? = some (.cells #[.int .i64 (k : Nat)] 3 (0, 0)) ∧ fine V' V.heap.size)
        (fun c pre' V' => c = .ret ∧ AI l t W.heap.size sz g W.heap.size Ds fine ok (Jx (memW g k ++ (pre'.map Fin.val).map (64 * k + ·))) V')
        ?hI ?hIx ?h0 (fun x a' _ => a' = { tmps := #[.func (.yield l) #[] #[], .pointer (some ⟨Bp, 0, none⟩), .pointer (some ⟨W.heap.size, 0, none⟩), .pointer (some ⟨V.heap.size, 0, none⟩), .int .u64 u, .int .i64 (x.val : Nat), .pointer (some ⟨s, 0, none⟩), .slice (some ⟨t, 0, none⟩) (SW sz) (SW sz), .int .i64 (SW sz : Nat), .int .i64 (k : Nat), .bool true, .int .i64 (k : Nat), .pointer (some ⟨t, k, none⟩), .int .u64 u, .int .u64 u, .func (.func 58) #[] #[.pointer (some ⟨V.heap.size + 1, 0, none⟩)], .int .i64 (x.val : Nat), u17, u18, u19, u20, u21, u22, u23, u24], defers := [] }) (fun _ _ _ _ _ _ hs _ _ => hs) ?assign ?body ?done ?stop
      case hI =>
        rintro pre' X Y row ⟨h1, h2, h3⟩ hg hr
        have hr' : ∀ r, row = some r → W.heap.size ≤ r ∧ ∃ o : Obj, X.heap[r]? = some o ∧ o.isCells = false := fun r e => ⟨by have := (hr r e).1; omega, (hr r e).2⟩
        exact ⟨h1.turn G hg hr (by omega) (by omega) (fun D hD => by have := MB D hD; omega) (hJ _ X Y row h1.j hg hr'), block_kept hg (fun r e => (hr r e).1) (by omega) h2, (G.turn h1.o hg (fun r e => (hr r e).2)).2 _ h3⟩
      case hIx =>
        rintro c pre' X Y row ⟨h0, h1⟩ hg hr
        have hr' : ∀ r, row = some r → W.heap.size ≤ r ∧ ∃ o : Obj, X.heap[r]? = some o ∧ o.isCells = false := fun r e => ⟨by have := (hr r e).1; omega, (hr r e).2⟩
        exact ⟨h0, h1.turn G hg hr (by omega) (by omega) (fun D hD => by have := MB D hD; omega) (hJx _ X Y row h1.j hg hr')⟩
      case h0 => exact ⟨by simpa using A2, X2, f2⟩
      case assign =>
        intro l' pre' x V' K hI hK
        gi_wp2
        exact hK _ _ (KeepsFrom.refl _ _) trivial hI rfl
      case body =>
        rintro l' pre' x a' V' _ _ ⟨h1, h2, h3⟩ rfl hlen
        have d1 := (cell_of_box_l h1.box).1
        have d2 := (cell_of_box_l h2).1
        have hx := x.isLt
        obtain ⟨xv, HX⟩ : ∃ xv, Hid (x.val = xv) := ⟨_, Lib.hid rfl⟩
        rw [HX.out] at hx ⊢
        have e1 : (k : Int) * 64 + (xv : Int) = ((64 * k + xv : Nat) : Int) := by omega
        have HLEN : Hid ((memW g k ++ (pre'.map Fin.val).map (64 * k + ·)).length < 100000) := Lib.hid (by
          have m1 := memW_length g k
          simp only [List.length_append, List.length_map]
          omega)
        obtain ⟨fn, tmps, assign, body, hy, hR⟩ := hY _ (64 * k + xv) V' h1.j HLEN.out 2
        have H1 := Lib.hid h1
        have H2 := Lib.hid h2
        have H3 := Lib.hid h3
        have HE : Hid ((memW g k ++ (pre'.map Fin.val).map (64 * k + ·)) ++ [64 * k + xv] = memW g k ++ ((pre' ++ [x]).map Fin.val).map (64 * k + ·)) := Lib.hid (by rw [List.append_assoc, List.map_append, List.map_append, ← HX.out]; rfl)
        have hy2 : (Instr.yield l #[.int .i64 (64 * (k : Int) + (xv : Int))]).run Try.prog V' = .ok (.round l fn tmps assign body) V' := by
          have e2 : ((64 * k + xv : Nat) : Int) = 64 * (k : Int) + (xv : Int) := by omega
          rw [← e2]
          exact hy
        clear h1 h2 h3 hy
        gi_wp2
        refine RoundIn.mono (show RoundIn (Fence.wide.inRound l') 2 Try.prog l fn tmps assign body V' _ from hR) ?_
        rintro e W3 (⟨rfl, hJ3, hk3⟩ | ⟨rfl, hJx3, hk3⟩)
        · gi_wp2
          have hko := G.others hk3
          refine ⟨⟨hko.size, fun q o hq h ho => hko.same q o (by omega) h ho⟩, trivial, H1.out.kp G hk3 (by rw [← HE.out]; exact hJ3), G.keep H1.out.o hk3 H3.out H2.out, G.still H1.out.o hk3 H3.out (Array.getElem?_eq_some_iff.1 H2.out).1⟩
        · gi_wp2
          have hko := G.others hk3
          exact ⟨⟨hko.size, fun q o hq h ho => hko.same q o (by omega) h ho⟩, rfl, H1.out.kp G hk3 (by rw [← HE.out]; exact hJx3)⟩
      case done =>
        rintro D ys V' hD hys ⟨h1, h2, h3⟩ hK
        have HJ : Hid (memW g k ++ (ys.map Fin.val).map (64 * k + ·) = memW g (k + 1)) := Lib.hid (by rw [hys, memW, HU.out])
        have HAI : Hid (AI l t W.heap.size sz g W.heap.size (D :: Ds) fine ok (J (memW g (k + 1))) V') := Lib.hid (by
          refine ⟨h1.o, by rw [← HJ.out]; exact h1.j, h1.words, h1.tf, h1.box, h1.bf, fun E hE => ?_, ?_⟩
          · rcases List.mem_cons.1 hE with rfl | hE
            · exact ⟨by omega, hK⟩
            · exact h1.marks E hE
          · exact List.nodup_cons.2 ⟨fun hm => by have := MB D hm; omega, h1.nodup⟩)
        have hmk : ({ target := .collected D, args := #[] } : Deferred) :: Ds.map mark = (D :: Ds).map mark := rfl
        clear h1 h2 h3 hK hys
        gi_wp2
        refine ⟨⟨k + 1, D :: Ds, _, _, _, _, _, _, _, _, _, _, _, _, _, _, _, _, _, _, by omega, rfl, HAI.out⟩, ?_⟩
        simp [intOf]
        omega
      case stop =>
        rintro D c pre' V' hD hpre ⟨rfl, h1⟩ hK
        have HPX := Lib.hid (memW_part (by rw [HU.out]; exact hpre) hlt)
        have H1 := Lib.hid h1
        have HK := Lib.hid hK
        clear h1 hK hpre
        gi_wp2
        refine leaves_marks (fun V => ∃ pre, pre <+: memW g (SW sz) ∧ Jx pre V) (fun V => results_none rfl _ _ V) (fun V h => ⟨⟨_, rfl⟩, .inr h⟩) (D :: Ds) V' (List.nodup_cons.2 ⟨fun hm => by have := MB D hm; omega, H1.out.nodup⟩) (fun E hE => ?_) (fun E hE V h ⟨pre, hp, hj⟩ => ⟨pre, hp, hJx.putObj _ hj ?_ h rfl⟩) ⟨_, HPX.out, H1.out.j⟩
        · rcases List.mem_cons.1 hE with rfl | hE
          · exact HK.out
          · exact (H1.out.marks E hE).2
        · rcases List.mem_cons.1 hE with rfl | hE
          · omega
          · exact (H1.out.marks E hE).1
    · obtain rfl : k = SW sz := by omega
      clear hA hlt
      gi_wp2
      exact leaves_marks (fun V => J (memW g (SW sz)) V) (fun V => results_none rfl _ _ V) (fun V h => ⟨⟨_, rfl⟩, .inl ⟨_, rfl, h⟩⟩) Ds V HA.out.nodup (fun E hE => (HA.out.marks E hE).2) (fun E hE V h hj => hJ.putObj _ hj (HA.out.marks E hE).1 h rfl) HA.out.j
end Go.Proofs.Ytcoocchfadbhdaa
