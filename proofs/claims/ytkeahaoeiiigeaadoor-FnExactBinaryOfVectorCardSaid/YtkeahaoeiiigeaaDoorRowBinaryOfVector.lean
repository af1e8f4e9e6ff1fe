/- FnExactBinaryOfVector: for every list of numbers BinaryOfVector answers as its model, and leaves its argument as it was; the card ties the listed variable to the program's text. Conditions: the package variable errNoVector reads as its own initialiser lays it. -/
import Derived.Test.YtkeahaoeiiigeaaDoorLawBinaryOfVector
import Derived.Test.YtkeahaoeiiigeaaDoorFnBinaryOfVector
import Derived.Test.YtkeahaoeiiigeaaDoorVecOpen
import Derived.Test.YtkeahaoeiiigeaaDoorTie
import Derived.Test.YtkeahaoeiiigeaaDoorCards
import Derived.SevenTiedAt
import Derived.Test.YtkeahaoeiiigeaaDoorShut
namespace Go.Proofs.YtkeahaoeiiigeaaDoor
open Go.ChangeShapes Go.WideShapes Go.ChangeAt Go.RowKit

set_option maxRecDepth 100000 in
theorem binaryOfVector_lifted (os : Os) (started : os.Started) (H : Type) (enc : TypeId × Value → H) :
    ReturnsInHanded {} Tryd.checked os 11 .any (fun w args => (Rows.fnExactBinaryOfVectorSpec.pre enc Tryd.prog Tryd.f11 [] false w args ∧ laidMetH Tryd.prog Rows.fnExactBinaryOfVectorRow.laid w) ∧ sizedMet enc Tryd.prog Tryd.f11 (OpenSpec.ofChange Rows.fnExactBinaryOfVectorSpec) false w args)
      (Rows.fnExactBinaryOfVectorSpec.post enc Tryd.prog Tryd.f11 false true false false) := by
  refine returnsInHanded_of_change_and (C := Tryd.checked) (X := fun w _ => laidMetH Tryd.prog Rows.fnExactBinaryOfVectorRow.laid w) (fun _ _ _ hh h => h.of_heap hh) own started (by kernel_rfl) Tryd.func11
    (ChangeSpec.witness_shaped (enc := enc) (C := Tryd.checked) (os := os) (X := fun w _ => laidMetH Tryd.prog Rows.fnExactBinaryOfVectorRow.laid w) false (World.doorLaid Tryd.prog 400 os) #[.slice none 0 0] 8 rfl (World.shaped_of_RefB (by kernel_rfl) (by kernel_rfl)) (by kernel_rfl) (by kernel_rfl) (by kernel_rfl) (doorV os _)) ?_
  intro W base args ds gs before hval0 hW _ _ hL _
  have hval : ∀ (j : Nat) t v, Tryd.f11.params[j]? = some t → args[j]? = some v → Value.okWide Tryd.prog W .any base t v := hval0
  have hW' := hW
  obtain ⟨p, q, hA0, hV0, rfl, hfz, hnd⟩ := hW
  have hA : DataW.TrodAll enc Tryd.prog W 0 (fun _ => true) true Tryd.f11.params.toList args.toList ds p := hA0
  have hV : DataW.TrodVars enc Tryd.prog W (fun _ => true) [nameV] gs q := hV0
  rw [Tryd.params11] at hA hval
  obtain ⟨v0, d0, rfl, rfl, h0⟩ := trodAll_one hA
  obtain ⟨a, hv⟩ := of_laidV hL
  obtain ⟨rfl, rfl⟩ := hV.unique (varsV enc hv _)
  have hlt : ∀ x ∈ p, x.block < W.heap.size := fun x hx => hW'.lt x (by simp [hx])
  obtain ⟨a0, len, cap, rfl⟩ := okWide_slice Tryd.underlying29 (hval 0 29 v0 rfl rfl)
  obtain ⟨fuel, hf⟩ := id h0
  obtain ⟨A, c, xs, e2, hlen, hI, hwx⟩ := openInts (by simpa [Value.cells] using hf) hlt
  rw [e2] at h0 hW' ⊢
  refine (lawBinaryOfVector F_BinaryOfVector (Lib.hid spec_BinaryOfVector) (Lib.hid impl_BinaryOfVector) a A xs c W hlen (Lib.hid hI) (cellV hv)).mono fun e W' ⟨he, hb⟩ => ?_
  subst he
  exact ⟨_, rfl, _, _, _, [], p, [.cell 1 0], hW', trodAll_mk1 (shut_bool Tryd.underlying4 true), trodAll_mk1 (Below.trod laidOut (by kernel_rfl) (of_decide_eq_true (by kernel_rfl)) h0 hb hlt), varsV enc (var_up hv hb) _, hb.frame _, fun h => by cases h⟩

theorem fnExactBinaryOfVector_row : Rows.FnExactBinaryOfVectorSaid :=
  OpenClaim.holds_of_wide 11 Tryd.f11 rfl rfl rfl rfl rfl rfl rfl ⟨rfl, rfl, rfl, rfl, rfl⟩ rfl rfl rfl rfl rfl (by kernel_rfl) Tryd.func11 (by unfold joinedFacts; (repeat' (with_reducible refine Bool.and_eq_true_iff.2 ⟨?_, ?_⟩)); rotate_left 25; exact shut_mayEnter; exact shut_lifts; exact shut_make; all_goals (as_aux_lemma => kernel_rfl))
    (of_decide_eq_true (by kernel_rfl)) (by unfold Func.isWrapper; first | (rw [if_pos (by decide +kernel)]; kernel_rfl) | (rw [if_neg (by decide +kernel)]; exact ⟨rfl, rfl⟩))
    (fun os started H enc _ => binaryOfVector_lifted os started H enc)

theorem fnExactBinaryOfVector_holds : Rows.FnExactBinaryOfVectorCardSaid :=
  Claim7.holds_tied_plain_at .later [] [.sentinel] true Rows.fnExactBinaryOfVectorCard.stood.harness true
    fnExactBinaryOfVector_row (fun _ h => by cases h) (by kernel_rfl) (fun _ h => by cases h) fnExactBinaryOfVector_row_tie rfl ⟨rfl, rfl⟩ (by kernel_rfl) rfl
    (fun f fn hf hfn => by
      obtain rfl : f = 11 := Option.some.inj ((show Tryd.prog.funcNamed Rows.fnExactBinaryOfVectorRow.func = some 11 by kernel_rfl).symm.trans hf) |>.symm
      obtain rfl : fn = Tryd.f11 := (Option.some.inj (Tryd.func11.symm.trans hfn)).symm
      exact ⟨by kernel_rfl, fun j t ht => by
        rw [Tryd.params11] at ht
        have hm : t ∈ [29] := by simpa using Array.mem_of_getElem? ht
        have hall : ([29].all fun u => !Tryd.prog.wantsStandIn u) = true := by kernel_rfl
        exact (show Tryd.prog.wantsStandIn t = false by simpa using List.all_eq_true.1 hall t hm)⟩)
    (by kernel_rfl)
#print axioms fnExactBinaryOfVector_holds
end Go.Proofs.YtkeahaoeiiigeaaDoor
