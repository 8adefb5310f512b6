/- The document's Same, of tokens that are the same. -/
import Derived.Test.YtcielemahmpppaaDoorLexBackR
namespace Go.Proofs.YtcielemahmpppaaDoor.lx
open Go.ChangeShapes Go.WideShapes Go.ChangeAt Go.RowKit Go.Deep Go.Proofs.YtcielemahmpppaaDoor.sr

theorem SameT.at {l r : List Tok} (h : SameT l r) : ∀ i, i < l.length → (l.getD i default).kind = (r.getD i default).kind ∧ (l.getD i default).num = (r.getD i default).num ∧ (l.getD i default).text = (r.getD i default).text := by
  induction h with
  | nil => intro i hi; cases hi
  | cons h1 h2 h3 _ ih =>
    intro i hi
    rcases i with _ | i
    · exact ⟨h1, h2, h3⟩
    · exact ih i (by simpa using hi)
theorem SameT.refl : ∀ l : List Tok, SameT l l
  | [] => .nil
  | _ :: l => .cons rfl rfl rfl (SameT.refl l)
set_option maxRecDepth 100000 in
set_option maxHeartbeats 4000000 in
theorem refSame_true (L1 L2 : List Tok) (A1 A2 : Option Addr) (n c1 c2 : Nat) (fl : Bool) (w : World) (h1 : n = L1.length) (h2 : n = L2.length) (hz : n ≤ 100000) (hr1 : TR w A1 L1) (hr2 : TR w A2 L2) (hs : SameT L1 L2) (hf : fl = true → L1 = L2) :
    Calls Tryd.prog 12 #[.slice A1 n c1, .slice A2 n c2, .bool fl] w fun e w' => e = .returned (.bool true) ∧ Below w.heap.size w w' := by
  have HR1 := Lib.hid hr1
  have HR2 := Lib.hid hr2
  have HN1 := Lib.hid h1
  have HN2 := Lib.hid h2
  have HS := Lib.hid hs
  have HF := Lib.hid hf
  clear hr1 hr2 h1 h2 hs hf
  go_enter Tryd.func12, Tryd.ntmps12
  go_wp2
  go_loopw [7] (fun i wr => ∃ k j : Nat, k ≤ n ∧ i = .int .i64 k ∧ wr = w.drewN j) (fun i _ => n - (intOf i).toNat)
  case atStart => exact ⟨0, 0, Nat.zero_le _, rfl, rfl⟩
  case round =>
    obtain ⟨k, j, hk, rfl, rfl⟩ := hrel
    by_cases hlt : k < n
    · obtain ⟨b, o, rfl, hb, hc⟩ := HR1.out (by rw [← HN1.out]; omega)
      obtain ⟨d, p, rfl, hd, hq⟩ := HR2.out (by rw [← HN2.out]; omega)
      have a0 := hc k (by rw [← HN1.out]; exact hlt) 0 (by decide)
      have a1 := hc k (by rw [← HN1.out]; exact hlt) 1 (by decide)
      have a2 := hc k (by rw [← HN1.out]; exact hlt) 2 (by decide)
      have a3 := hc k (by rw [← HN1.out]; exact hlt) 3 (by decide)
      have b0 := hq k (by rw [← HN2.out]; exact hlt) 0 (by decide)
      have b1 := hq k (by rw [← HN2.out]; exact hlt) 1 (by decide)
      have b2 := hq k (by rw [← HN2.out]; exact hlt) 2 (by decide)
      have b3 := hq k (by rw [← HN2.out]; exact hlt) 3 (by decide)
      have HE := Lib.hid (HS.out.at k (by rw [← HN1.out]; exact hlt))
      have HFE : Hid (fl = true → L1.getD k default = L2.getD k default) := Lib.hid (fun h => by rw [HF.out h])
      obtain ⟨t, HT⟩ : ∃ t, Hid (L1.getD k default = t) := ⟨_, Lib.hid rfl⟩
      obtain ⟨u, HU⟩ : ∃ u, Hid (L2.getD k default = u) := ⟨_, Lib.hid rfl⟩
      rw [HT.out] at a0 a1 a2 a3 HE HFE
      rw [HU.out] at b0 b1 b2 b3 HE HFE
      obtain ⟨t0, t1, t2, t3⟩ := t
      obtain ⟨u0, u1, u2, u3⟩ := u
      obtain ⟨rfl, rfl, rfl⟩ : t0 = u0 ∧ t1 = u1 ∧ t3 = u3 := HE.out
      simp only [cellT, List.getElem?_cons_zero, List.getElem?_cons_succ, Nat.add_zero] at a0 a1 a2 a3 b0 b1 b2 b3
      clear hc hq HE
      cases fl with
      | false =>
        clear HFE
        go_wp2
        go_quiet (fail)
        go_wp2
        go_roundw
        case rel => exact ⟨k + 1, _, by omega, by go_num, rfl⟩
        case measure => simp [intOf]; omega
      | true =>
        obtain rfl : t2 = u2 := by have := HFE.out rfl; injection this
        clear HFE
        go_wp2
        go_quiet (fail)
        go_wp2
        go_roundw
        case rel => exact ⟨k + 1, _, by omega, by go_num, rfl⟩
        case measure => simp [intOf]; omega
    · obtain rfl : k = n := by omega
      have HB := Lib.hid (below_drewN (Below.refl w.heap.size w) j)
      go_wp2
      go_ret
      exact ⟨rfl, HB.out⟩
end Go.Proofs.YtcielemahmpppaaDoor.lx
