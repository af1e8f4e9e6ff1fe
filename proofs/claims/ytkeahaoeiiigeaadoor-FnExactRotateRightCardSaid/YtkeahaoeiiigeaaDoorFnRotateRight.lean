/- RotateRight, the program's and the model's. -/
import Derived.Test.YtkeahaoeiiigeaaDoorSpecTurn
namespace Go.Proofs.YtkeahaoeiiigeaaDoor
open Go.RowKit

noncomputable def F_RotateRight (s : ByteArray) (i : Int) : ByteArray × Int := F_Rot turnR s i

set_option maxRecDepth 100000 in
theorem rightAt (i : Int) (W : World) : Calls Tryd.prog 62 #[.int .i64 i] W fun e w' => e = .returned (.func (.func 100) #[] #[.pointer (some ⟨W.heap.size, 0, none⟩), .pointer (some ⟨W.heap.size + 1, 0, none⟩)]) ∧ w' = (W.alloc (.cells #[.int .i64 i] 2)).alloc (.cells #[.func (.func 86) #[] #[]] 77) := by
  have hmf : ∀ (fn : Fn) (first cap : Array Value) (w : World), (Instr.makeFunc fn first cap).run Tryd.prog w = .ok (.func fn first cap) w := fun _ _ _ _ => rfl
  go_enter Tryd.func62, Tryd.ntmps62
  go_wp2
  go_ret
  exact ⟨rfl, rfl⟩

set_option maxRecDepth 100000 in
set_option maxHeartbeats 2000000 in
theorem impl_RotateRight : GivesS1N 30 F_RotateRight := by
  intro p s i w hs hi1 hi2 hc
  have hB : Below w.heap.size w ((w.alloc (.cells #[.int .i64 i] 2)).alloc (.cells #[.func (.func 86) #[] #[]] 77)) := bal (bal (b0 w) _) _
  have hR := rotated p turnR s i w.heap.size (w.heap.size + 1) ((w.alloc (.cells #[.int .i64 i] 2)).alloc (.cells #[.func (.func 86) #[] #[]] 77)) hs hi1 hi2 (cell_up hB hc)
    (fun t j W' he ht hj hij hW => by
      subst hij
      have k1 : W'.cell? ⟨w.heap.size, 0, none⟩ = some (.int .i64 (j : Int)) := cell_up hW (cell_al (by simp) _)
      have k2 : W'.cell? ⟨w.heap.size + 1, 0, none⟩ = some (.func (.func 86) #[] #[]) := cell_up hW (by simp)
      exact rotAtRight p t (spot t j).1 (spot t j).2.1 j w.heap.size (w.heap.size + 1) (spot t j).2.2 W' ht hj (spot_is hj) k1 k2 (cell_up hW (cell_up hB hc)))
  have HR := Lib.hid hR
  have HB := Lib.hid hB
  have hA := Lib.hid (rightAt i w)
  rw [show F_RotateRight s i = F_Rot turnR s i from rfl]
  clear hR hB hc
  generalize F_Rot turnR s i = F at *
  obtain ⟨r1, r2⟩ := F
  simp only at HR
  go_enter Tryd.func30, Tryd.ntmps30
  go_wp2_with (first | (go_at_call 62; refine hA.out.mono ?_; rintro e w1 ⟨rfl, hw1⟩; subst hw1) | (go_at_call 61; refine HR.out.mono ?_; rintro e w2 ⟨rfl, hb2⟩))
  go_ret2
  exact ⟨rfl, Lib.hid (btr HB.out hb2.out)⟩

set_option maxRecDepth 100000 in
set_option maxHeartbeats 2000000 in
theorem spec_RotateRight : GivesS1N 29 F_RotateRight := by
  intro p s i w hs hi1 hi2 _
  have hC := Lib.hid (l03Node s i w hs)
  rw [show F_RotateRight s i = F_Rot turnR s i from rfl]
  cases ho : okB s
  · rw [ho] at hC
    have hF : F_Rot turnR s i = (⟨#[]⟩, 1) := by rw [F_Rot, ho]; rfl
    rw [hF]
    replace hC : Hid (Calls Tryd.prog 59 #[.string s, .int .i64 i] w fun e w' => e = .returned (.int .i64 1) ∧ w' = w) := hC.out
    clear hF ho
    go_enter Tryd.func29, Tryd.ntmps29
    go_wp2_with (go_at_call 59; refine hC.out.mono ?_; rintro e w' ⟨rfl, hw⟩; subst hw)
    go_ret2
    exact ⟨rfl, b0 _⟩
  · obtain ⟨t, rfl, ht⟩ := okB_inv ho
    rw [ho, treeOf_str, if_pos rfl] at hC
    by_cases hb : 0 ≤ i ∧ i ≤ (t.n : Int) - 1
    · rw [if_pos hb] at hC
      obtain ⟨j, rfl⟩ := Int.eq_ofNat_of_zero_le hb.1
      have hF : F_Rot turnR t.str (j : Int) = outOf (rotOut turnR t j) := by rw [F_Rot, ho, treeOf_str, if_pos rfl, if_pos hb, Int.toNat_natCast]
      rw [hF]
      have hT := l03TurnR t (spot t j).1 (spot t j).2.1 j (spot t j).2.2 w ht (by omega) (spot_is (by omega))
      rw [show rotS (turnR (spot t j).1 (spot t j).2.1) (M.place t.txt j) t (spot t j).2.2 = rotOut turnR t j from rfl] at hT
      have hE : (rotOut turnR t j).toList.isEmpty = !(turnR (spot t j).1 (spot t j).2.1).isSome := rotS_isEmpty _ _ _ _
      have HT := Lib.hid hT
      rw [outOf, hE]
      clear hF ho hb ht hT hE
      generalize (turnR (spot t j).1 (spot t j).2.1).isSome = q at *
      generalize rotOut turnR t j = R at *
      generalize t.str = S at *
      cases q
      · go_enter Tryd.func29, Tryd.ntmps29
        go_wp2_with (first | (go_at_call 59; refine hC.out.mono ?_; rintro e w' ⟨rfl, hw⟩; subst hw) | (go_at_call 60; refine HT.out.mono ?_; rintro e w2 ⟨rfl, hb2⟩))
        go_ret2
        exact ⟨rfl, hb2⟩
      · go_enter Tryd.func29, Tryd.ntmps29
        go_wp2_with (first | (go_at_call 59; refine hC.out.mono ?_; rintro e w' ⟨rfl, hw⟩; subst hw) | (go_at_call 60; refine HT.out.mono ?_; rintro e w2 ⟨rfl, hb2⟩))
        go_ret2
        exact ⟨rfl, hb2⟩
    · rw [if_neg hb] at hC
      have hF : F_Rot turnR t.str i = (⟨#[]⟩, 2) := by rw [F_Rot, ho, treeOf_str, if_pos rfl, if_neg hb]
      rw [hF]
      clear hF ho hb ht
      generalize t.str = S at *
      go_enter Tryd.func29, Tryd.ntmps29
      go_wp2_with (go_at_call 59; refine hC.out.mono ?_; rintro e w' ⟨rfl, hw⟩; subst hw)
      go_ret2
      exact ⟨rfl, b0 _⟩
end Go.Proofs.YtkeahaoeiiigeaaDoor
