/- Proved is the law LtextBack of layer 24 (ltext): it returns true for every input, and each argument reads behind the call as it read before; the condition: the package-level variables that its row lists hold when the call begins what the program's text lays into them (the card ties them to the pruned copy of the project that the seat holds). -/
import Derived.Carry
import Derived.Test.YtgnflnfajkoibaaDoorTie
import Derived.Test.YtgnflnfajkoibaaDoorCards
import Derived.SevenTiedAt
import Derived.Test.YtgnflnfajkoibaaDoorPut1
import Derived.Test.YtgnflnfajkoibaaDoorPut2
import Derived.Test.YtgnflnfajkoibaaDoorPut3
import Derived.Test.YtgnflnfajkoibaaDoorPut4
import Derived.Test.YtgnflnfajkoibaaDoorPut5
import Derived.Test.YtgnflnfajkoibaaDoorPut6
import Derived.Test.YtgnflnfajkoibaaDoorPut7
import Derived.Test.YtgnflnfajkoibaaDoorPut8
import Derived.Test.YtgnflnfajkoibaaDoorPut9
import Derived.Test.YtgnflnfajkoibaaDoorPut10
import Derived.Test.YtgnflnfajkoibaaDoorPut11
import Derived.Test.YtgnflnfajkoibaaDoorPut12
import Derived.Test.YtgnflnfajkoibaaDoorPut13
import Derived.Test.YtgnflnfajkoibaaDoorPut14
import Derived.Test.YtgnflnfajkoibaaDoorPut15
import Derived.Test.YtgnflnfajkoibaaDoorPut16
import Derived.Test.YtgnflnfajkoibaaDoorPut17
import Derived.Test.YtgnflnfajkoibaaDoorPut18
import Derived.Test.YtgnflnfajkoibaaDoorPut19
import Derived.Test.YtgnflnfajkoibaaDoorPut20
namespace Go.Proofs.YtgnflnfajkoibaaDoor.txLtextBack
open Go.ChangeShapes Go.WideShapes Go.ChangeAt Go.RowKit Go.Lib Go.Proofs.YtgnflnfajkoibaaDoor.tx
open Go.ChangeMaps (open_string shut_string)

set_option maxRecDepth 100000 in
theorem lifted (os : Os) (started : os.Started) (H : Type) (enc : TypeId × Value → H) :
    ReturnsInHanded {} Tryd.checked os 4 .any (fun w args => (Rows.ltextBackSpec.pre enc Tryd.prog Tryd.f4 [] false w args ∧ laidMetH Tryd.prog LD w) ∧ sizedMet enc Tryd.prog Tryd.f4 (OpenSpec.ofChange Rows.ltextBackSpec) false w args)
      (Rows.ltextBackSpec.post enc Tryd.prog Tryd.f4 false true false false) := by
  refine returnsInHanded_of_change_and (C := Tryd.checked) (X := fun w _ => laidMetH Tryd.prog LD w) (fun _ _ _ hh h => h.of_heap hh) Tryd.own started (by kernel_rfl) Tryd.func4
    (ChangeSpec.witness_shaped (enc := enc) (C := Tryd.checked) (os := os) (X := fun w _ => laidMetH Tryd.prog LD w) false (World.laidAll Tryd.prog os LD) #[.slice none 0 0, .string ⟨#[]⟩, .slice none 0 0] 8 (World.laidAll_os _ _ _)
      (World.shaped_of_ZipB (by kernel_rfl) (by kernel_rfl)) (by kernel_rfl) (by kernel_rfl) (by kernel_rfl)
      (by rw [MakeChecks.laidMetH_plain _ _ _ (by kernel_rfl)]; exact laidMet_laidAll _ (by kernel_rfl) (by kernel_rfl))) ?_
  intro W base args ds gs before hval0 hW _ hsz hL _
  have hval : ∀ (j : Nat) t v, Tryd.f4.params[j]? = some t → args[j]? = some v → Value.okWide Tryd.prog W .any base t v := hval0
  have hW' := hW
  have hlt := hW.lt
  obtain ⟨p, q, hA0, hV, rfl, hfz, hnd⟩ := hW
  have hA : DataW.TrodAll enc Tryd.prog W 0 (fun _ => true) true Tryd.f4.params.toList args.toList ds p := hA0
  have hAA := hA
  rw [Tryd.params4] at hA hval
  obtain ⟨rfl, rfl⟩ := trodVars_none hV
  have hsz' : (DataW.weightsEach Tryd.prog [22, 9, 23] ds).all (· ≤ reachBytes) = true := by
    have h := hsz
    simp only [ChangeSpec.plain, DataSpec.varTypes, show Rows.ltextBackSpec.vars = [] from rfl] at h
    show (DataW.weightsEach Tryd.checked.prog [22, 9, 23] ds).all (· ≤ reachBytes) = true
    simpa [Tryd.params4] using h
  obtain ⟨v0, v1, v2, d0, d1, d2, p0, p1, p2, rfl, rfl, rfl, h0, h1, h2⟩ := trodAll_three hA
  obtain ⟨A, c, e, rfl, hel, hq, hm, hPA, hz⟩ := open_pairs_arg Tryd.underlying22 Tryd.underlying39 (by kernel_rfl) (by kernel_rfl) rfl rfl rfl rfl (hval 0 22 v0 rfl rfl) h0 hsz' 0 rfl rfl
  have hel2 : e.length ≤ 4611686018427387904 := by omega
  obtain ⟨s, rfl, rfl, rfl, hs⟩ := open_string Tryd.underlying9 (hval 1 9 v1 rfl rfl) h1
  obtain ⟨NA, d, N, rfl, hcp, hn9, hRS⟩ := open_names_arg (hval 2 23 v2 rfl rfl) h2 hsz' 2 rfl rfl
  simp only [List.append_nil, List.nil_append] at hW' hlt hAA
  refine (ltextBack_any A _ c e s NA _ d N W rfl hPA hel2 hs rfl hcp hn9 hRS (lxW_of_laid hL)).mono fun e W' ⟨he, hb⟩ => ?_
  subst he
  refine ⟨_, rfl, _, _, _, [], p0 ++ p2, [], hW', ?_, ?_, rfl, hb.frame _, fun h => by cases h⟩
  · exact trodAll_mk1 (shut_bool Tryd.underlying4 _)
  · exact trodAll_stays hb (ts := [22, 9, 23]) (fun t ht => by
      have hall : ([22, 9, 23].all fun t => Tryd.prog.readableRec t && decide (t < Tryd.prog.types.size)) = true := by kernel_rfl
      have := List.all_eq_true.1 hall t ht
      rw [Bool.and_eq_true, decide_eq_true_iff] at this
      exact this) (by rw [Tryd.params4] at hAA; exact hAA) (fun x hx => hlt x (by simpa using hx)) (fun x hx => by have := hlt x (by simpa using hx); simpa using this)

set_option maxRecDepth 100000 in
theorem over : Rows.ltextBackRow.holds Tryd.pinned (OpenSpec.ofChange Rows.ltextBackSpec) :=
  OpenClaim.holds_of_wide 4 Tryd.f4 rfl rfl rfl rfl rfl rfl rfl ⟨rfl, rfl, rfl, rfl, rfl⟩ rfl rfl rfl rfl rfl (by kernel_rfl) Tryd.func4 (by kernel_rfl)
    (of_decide_eq_true (by kernel_rfl)) (by unfold Func.isWrapper; first | (rw [if_pos (by decide +kernel)]; kernel_rfl) | (rw [if_neg (by decide +kernel)]; exact ⟨rfl, rfl⟩))
    (fun os started H enc _ => lifted os started H enc)

theorem proved : Rows.LtextBackCardSaid :=
  Claim7.holds_tied_plain_at .later [] [.data, .data, .data, .sentinel, .sentinel, .data, .data] true _ true
    over (fun _ h => by cases h) (by kernel_rfl) (fun _ h => by cases h) ltextBack_row_tie rfl ⟨rfl, rfl⟩ (by kernel_rfl) rfl
    (fun f fn hf hfn => by
      obtain rfl : f = 4 := Option.some.inj ((show Tryd.prog.funcNamed "lariat/lariatlaw24.LtextBack" = some 4 by kernel_rfl).symm.trans hf) |>.symm
      obtain rfl : fn = Tryd.f4 := (Option.some.inj (Tryd.func4.symm.trans hfn)).symm
      exact ⟨by kernel_rfl, fun j t ht => by
        rw [Tryd.params4] at ht
        have hm : t ∈ [22, 9, 23] := by simpa using Array.mem_of_getElem? ht
        have hall : ([22, 9, 23].all fun u => !Tryd.prog.wantsStandIn u) = true := by kernel_rfl
        exact (show Tryd.prog.wantsStandIn t = false by simpa using List.all_eq_true.1 hall t hm)⟩)
    (by kernel_rfl)
#print axioms proved
end Go.Proofs.YtgnflnfajkoibaaDoor.txLtextBack
