/- FnExactMeetOfBinary: for every two strings MeetOfBinary answers as its model; the card ties the listed variables to the program's text. Conditions: the package variables errNoBinary and errNoVector read as their own initialisers lay them. -/
import Derived.Test.YtkeahaoeiiigeaaDoorLawMeetOfBinary
import Derived.Test.YtkeahaoeiiigeaaDoorFnMeetOfBinary
import Derived.Test.YtkeahaoeiiigeaaDoorTwoOpen
import Derived.Test.YtkeahaoeiiigeaaDoorTie
import Derived.Test.YtkeahaoeiiigeaaDoorCards
import Derived.SevenTiedAt
import Derived.Test.YtkeahaoeiiigeaaDoorShut
namespace Go.Proofs.YtkeahaoeiiigeaaDoor
open Go.ChangeShapes Go.WideShapes Go.ChangeAt Go.RowKit

set_option maxRecDepth 100000 in
theorem meetOfBinary_lifted (os : Os) (started : os.Started) (H : Type) (enc : TypeId × Value → H) :
    ReturnsInHanded {} Tryd.checked os 13 .any (fun w args => (Rows.fnExactMeetOfBinarySpec.pre enc Tryd.prog Tryd.f13 [] false w args ∧ laidMetH Tryd.prog Rows.fnExactMeetOfBinaryRow.laid w) ∧ sizedMet enc Tryd.prog Tryd.f13 (OpenSpec.ofChange Rows.fnExactMeetOfBinarySpec) false w args)
      (Rows.fnExactMeetOfBinarySpec.post enc Tryd.prog Tryd.f13 false true false false) := by
  refine returnsInHanded_of_change_and (C := Tryd.checked) (X := fun w _ => laidMetH Tryd.prog Rows.fnExactMeetOfBinaryRow.laid w) (fun _ _ _ hh h => h.of_heap hh) own started (by kernel_rfl) Tryd.func13
    (ChangeSpec.witness_shaped (enc := enc) (C := Tryd.checked) (os := os) (X := fun w _ => laidMetH Tryd.prog Rows.fnExactMeetOfBinaryRow.laid w) false (World.doorLaid Tryd.prog 400 os) #[.string ⟨#[]⟩, .string ⟨#[]⟩] 8 rfl (World.shaped_of_RefB (by kernel_rfl) (by kernel_rfl)) (by kernel_rfl) (by kernel_rfl) (by kernel_rfl) (door2 os _)) ?_
  intro W base args ds gs before hval0 hW _ _ hL _
  have hval : ∀ (j : Nat) t v, Tryd.f13.params[j]? = some t → args[j]? = some v → Value.okWide Tryd.prog W .any base t v := hval0
  have hW' := hW
  obtain ⟨p, q, hA0, hV0, rfl, hfz, hnd⟩ := hW
  have hA : DataW.TrodAll enc Tryd.prog W 0 (fun _ => true) true Tryd.f13.params.toList args.toList ds p := hA0
  have hV : DataW.TrodVars enc Tryd.prog W (fun _ => true) [nameB, nameV] gs q := hV0
  rw [Tryd.params13] at hA hval
  obtain ⟨v0, v1, d0, d1, p0, p1, rfl, rfl, rfl, h0, h1⟩ := trodAll_two hA
  obtain ⟨a, b, hv, hv2⟩ := of_laid2 hL
  obtain ⟨rfl, rfl⟩ := hV.unique (vars2 enc hv hv2 _)
  obtain ⟨s, rfl, rfl, rfl, hmax⟩ := Go.ChangeMaps.open_string Tryd.underlying9 (hval 0 9 v0 rfl rfl) h0
  obtain ⟨u, rfl, rfl, rfl, hmax2⟩ := Go.ChangeMaps.open_string Tryd.underlying9 (hval 1 9 v1 rfl rfl) h1
  clear hA0 hval0 hV0
  refine (lawMeetOfBinary F_MeetOfBinary (Lib.hid spec_MeetOfBinary) (Lib.hid impl_MeetOfBinary) a b s u W (cellB hv) (cellV hv2)).mono fun e W' ⟨he, hb⟩ => ?_
  subst he
  exact ⟨_, rfl, _, _, _, [], [], [.cell 0 0, .cell 1 0], hW', trodAll_mk1 (shut_bool Tryd.underlying4 true), trodAll_mk2 (Go.ChangeMaps.shut_string Tryd.underlying9 hmax) (Go.ChangeMaps.shut_string Tryd.underlying9 hmax2), vars2 enc (var_up hv hb) (var_up hv2 hb) _, hb.frame _, fun h => by cases h⟩

theorem fnExactMeetOfBinary_row : Rows.FnExactMeetOfBinarySaid :=
  OpenClaim.holds_of_wide 13 Tryd.f13 rfl rfl rfl rfl rfl rfl rfl ⟨rfl, rfl, rfl, rfl, rfl⟩ rfl rfl rfl rfl rfl (by kernel_rfl) Tryd.func13 (by unfold joinedFacts; (repeat' (with_reducible refine Bool.and_eq_true_iff.2 ⟨?_, ?_⟩)); rotate_left 25; exact shut_mayEnter; exact shut_lifts; exact shut_make; all_goals (as_aux_lemma => kernel_rfl))
    (of_decide_eq_true (by kernel_rfl)) (by unfold Func.isWrapper; first | (rw [if_pos (by decide +kernel)]; kernel_rfl) | (rw [if_neg (by decide +kernel)]; exact ⟨rfl, rfl⟩))
    (fun os started H enc _ => meetOfBinary_lifted os started H enc)

theorem fnExactMeetOfBinary_holds : Rows.FnExactMeetOfBinaryCardSaid :=
  Claim7.holds_tied_plain_at .later [] [.sentinel, .sentinel] true Rows.fnExactMeetOfBinaryCard.stood.harness true
    fnExactMeetOfBinary_row (fun _ h => by cases h) (by kernel_rfl) (fun _ h => by cases h) fnExactMeetOfBinary_row_tie rfl ⟨rfl, rfl⟩ (by kernel_rfl) rfl
    (fun f fn hf hfn => by
      obtain rfl : f = 13 := Option.some.inj ((show Tryd.prog.funcNamed Rows.fnExactMeetOfBinaryRow.func = some 13 by kernel_rfl).symm.trans hf) |>.symm
      obtain rfl : fn = Tryd.f13 := (Option.some.inj (Tryd.func13.symm.trans hfn)).symm
      exact ⟨by kernel_rfl, fun j t ht => by
        rw [Tryd.params13] at ht
        have hm : t ∈ [9, 9] := by simpa using Array.mem_of_getElem? ht
        have hall : ([9, 9].all fun u => !Tryd.prog.wantsStandIn u) = true := by kernel_rfl
        exact (show Tryd.prog.wantsStandIn t = false by simpa using List.all_eq_true.1 hall t hm)⟩)
    (by kernel_rfl)
#print axioms fnExactMeetOfBinary_holds
end Go.Proofs.YtkeahaoeiiigeaaDoor
