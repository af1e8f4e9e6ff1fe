/- FnExactTreesOf: for every number TreesOf answers as its model, and hands back memory of its own. No conditions. -/
import Derived.Test.YtimjcdjeeocffaaLawTreesOf
import Derived.Test.YtimjcdjeeocffaaFnTreesImp
import Derived.Test.YtimjcdjeeocffaaOpen
namespace Go.Proofs.Ytimjcdjeeocffaa
open Go.ChangeShapes Go.WideShapes Go.ChangeAt Go.RowKit

theorem F_TreesOf_len (n : Int) : (F_TreesOf n).1.length ≤ 8192 := by
  rw [F_TreesOf]
  split
  · split
    · show (M.firstT _ _).length ≤ _
      rw [M.firstT_len]
      exact (M.L_7 (by omega) (by omega)).2
    · simp
  · simp
theorem F_TreesOf_small (n : Int) : ∀ zs ∈ (F_TreesOf n).1, zs.length ≤ 24 := by
  rw [F_TreesOf]
  split
  · split
    · exact M.firstT_small (by omega)
    · intro zs h; cases h
  · intro zs h; cases h

set_option maxRecDepth 100000 in
theorem treesOf_lifted (os : Os) (started : os.Started) (H : Type) (enc : TypeId × Value → H) :
    ReturnsInHanded {} Try.checked os 10 .any (Rows.fnExactTreesOfSpec.pre6 enc Try.prog Try.f10 Rows.fnExactTreesOfRow.domain false) (Rows.fnExactTreesOfSpec.post enc Try.prog Try.f10 false true false false) := by
  refine returnsInHanded_of_change (C := Try.checked) own started (by kernel_rfl) Try.func10
    (ChangeSpec.witness6 (enc := enc) (C := Try.checked) false ⟨#[], #[.int .i64 0], []⟩ 8 (by kernel_rfl) (by kernel_rfl) (by kernel_rfl) (by kernel_rfl)) ?_
  intro W base args ds gs before hval0 hW _ _
  have hval : ∀ (j : Nat) t v, Try.f10.params[j]? = some t → args[j]? = some v → Value.okWide Try.prog W .any base t v := hval0
  have hW' := hW
  obtain ⟨p, q, hA0, hV, rfl, hfz, hnd⟩ := hW
  have hA : DataW.TrodAll enc Try.prog W 0 (fun _ => true) true Try.f10.params.toList args.toList ds p := hA0
  rw [Try.params10] at hA hval
  obtain ⟨v0, d0, rfl, rfl, h0⟩ := trodAll_one hA
  obtain ⟨rfl, rfl⟩ := trodVars_none hV
  obtain ⟨a0, rfl, rfl, rfl, wa0⟩ := open_int Try.underlying2 (hval 0 2 v0 rfl rfl) h0
  have wb0 : -9223372036854775808 ≤ a0 ∧ a0 ≤ 9223372036854775807 := by simpa [Lit.wf, IntKind.min, IntKind.max, IntKind.signed, IntKind.bits] using wa0
  clear hA0 hval0
  simp only [List.append_nil] at hW'
  refine (lawTreesOf F_TreesOf spec_TreesOf impl_TreesOf F_TreesOf_len F_TreesOf_small a0 W wb0.1 wb0.2).mono fun e W' ⟨he, hb⟩ => ?_
  subst he
  exact ⟨_, rfl, _, _, _, [], [], [], hW', trodAll_mk1 (shut_bool Try.underlying4 true), trodAll_mk1 (shut_int Try.underlying2 wa0), rfl, hb.frame _, fun h => by cases h⟩

theorem fnExactTreesOf_holds : Rows.FnExactTreesOfSaid :=
  OpenClaim.holds_of_wide 10 Try.f10 rfl rfl rfl rfl rfl rfl rfl ⟨rfl, rfl, rfl, rfl, rfl⟩ rfl rfl rfl rfl rfl (by kernel_rfl) Try.func10 (by kernel_rfl)
    (of_decide_eq_true (by kernel_rfl)) (by unfold Func.isWrapper; first | (rw [if_pos (by decide +kernel)]; kernel_rfl) | (rw [if_neg (by decide +kernel)]; exact ⟨rfl, rfl⟩))
    (fun os started H enc _ => treesOf_lifted os started H enc)
#print axioms fnExactTreesOf_holds
end Go.Proofs.Ytimjcdjeeocffaa
