/- LeafDistance, the model's. -/
import Derived.Test.YtgcabcmnhdaepaaImLeafDistance
import Derived.Test.YtgcabcmnhdaepaaSpLeaves
namespace Go.Proofs.Ytgcabcmnhdaepaa
open Go.RowKit

set_option maxHeartbeats 2000000 in
set_option maxRecDepth 100000 in
theorem spec_LeafDistance (A A2 : Option Addr) (xs ys : List Int) (c c2 : Nat) (w : World) (hx : xs.length ≤ 1048576) (hy : ys.length ≤ 1048576) (hcc : xs.length ≤ c ∧ c ≤ 1000000000000) (hcc2 : ys.length ≤ c2 ∧ c2 ≤ 1000000000000) (h : Ints w w.heap.size A xs) (h2 : Ints w w.heap.size A2 ys) :
    Calls Try.prog 65 #[.agg #[.slice A xs.length c], .agg #[.slice A2 ys.length c2]] w fun e w' => e = .returned (.tuple #[.int .i64 (F_LeafDistance xs ys).1, .int .i64 (F_LeafDistance xs ys).2]) ∧ Below w.heap.size w w' := by
  obtain ⟨W, hW⟩ : ∃ W, W = (w.alloc (.cells #[.slice A xs.length c] 44)).alloc (.cells #[.slice A2 ys.length c2] 44) := ⟨_, rfl⟩
  have C1 : Hid (W.cell? ⟨w.heap.size, 0, none⟩ = some (.slice A xs.length c)) := by subst hW; exact cell_al (by simp) _
  have C2 : Hid (W.cell? ⟨w.heap.size + 1, 0, none⟩ = some (.slice A2 ys.length c2)) := by subst hW; exact World.cell?_alloc_at _ _ _ _ (by simp)
  have i1 : Hid (Ints W W.heap.size A xs) := by subst hW; exact (h.al _).al _
  have i2 : Hid (Ints W W.heap.size A2 ys) := by subst hW; exact (h2.al _).al _
  have hBW : Hid (Below w.heap.size w W) := by subst hW; exact bal (bal (b0 w) _) _
  have hc := specIs A xs c W (by omega) i1.out
  have hc2 := fun w1 (hb : Below W.heap.size W w1) => specIs A2 ys c2 w1 (by omega) (i2.out.be hb)
  have HW := Lib.hid hW
  clear hW h h2
  cases ht : M.isTree xs
  · have hF : F_LeafDistance xs ys = (0, 1) := if_neg (by simp [ht])
    rw [hF]
    rw [ht] at hc
    have HC := Lib.hid hc
    clear hc hc2 ht hF
    go_enter Try.func65, Try.ntmps65
    go_wp2_with fail
    rw [← HW.out]
    refine HC.out.mono ?_
    rintro e w1 ⟨rfl, hb⟩
    have hB := Lib.hid (btr hBW.out hb)
    clear hb
    go_wp2
    go_ret2
    exact ⟨rfl, hB.out⟩
  · rw [ht] at hc
    have HC := Lib.hid hc
    cases ht2 : M.isTree ys
    · have hF : F_LeafDistance xs ys = (0, 1) := if_neg (by simp [ht2])
      rw [hF]
      rw [ht2] at hc2
      have HC2 := Lib.hid hc2
      clear hc hc2 ht ht2 hF
      go_enter Try.func65, Try.ntmps65
      go_wp2_with fail
      rw [← HW.out]
      refine HC.out.mono ?_
      rintro e w1 ⟨rfl, hb⟩
      have hB := Lib.hid (btr hBW.out hb)
      have d2 := cell_be C2.out hb
      have Hb := Lib.hid hb
      clear hb
      go_wp2_with fail
      refine (HC2.out _ Hb.out).mono ?_
      rintro e w2 ⟨rfl, hb⟩
      have hB2 := Lib.hid (btr hB.out hb)
      clear hb
      go_wp2
      go_ret2
      exact ⟨rfl, hB2.out⟩
    · have hF : F_LeafDistance xs ys = ((xs.length : Int) + (ys.length : Int) - 2 * (Leaf.com xs ys : Int), 0) := if_pos ⟨ht, ht2⟩
      rw [hF]
      rw [ht2] at hc2
      have HC2 := Lib.hid hc2
      have hl1 := (M.tree_len ht).2
      have hl2 := (M.tree_len ht2).2
      have Ht := Lib.hid ht
      have Ht2 := Lib.hid ht2
      obtain ⟨r, hr⟩ : ∃ r, Hid (Leaf.com xs ys = r) := ⟨_, rfl⟩
      rw [hr.out]
      have HD : Hid (∀ w', Hid (Below W.heap.size W w') → Calls Try.prog 112 #[.agg #[.slice A xs.length c], .agg #[.slice A2 ys.length c2]] w' fun e w'' => e = .returned (.int .i64 (r : Int)) ∧ Hid (Below W.heap.size W w'')) := fun w' hb =>
        (Leaf.leavesAt xs.length A A2 xs ys xs.length ys.length c c2 r w' (Nat.le_refl _) Ht Ht2 rfl rfl hcc.1 hcc2.1 (Lib.hid (i1.out.be hb.out)) (Lib.hid (i2.out.be hb.out)) hr).mono fun e w'' ⟨he, hb2⟩ => ⟨he, btr hb.out hb2.out⟩
      have HN : Hid (∀ (A' : Option Addr) (k k' : Nat) w', Hid (Below W.heap.size W w') → Calls Try.prog 93 #[.agg #[.slice A' k k']] w' fun e w'' => e = .returned (.int .i64 k) ∧ Hid (Below W.heap.size W w'')) := fun A' k k' w' hb => (l01N A' k k' w').mono fun e w'' ⟨he, hb2⟩ => ⟨he, btr hb.out hb2⟩
      have hrl := (Leaf.com_le xs ys).1
      rw [hr.out] at hrl
      have q1 : IntKind.i64.wrap ((xs.length : Int) + (ys.length : Int)) = (xs.length : Int) + (ys.length : Int) := IntWalk.i64_in _ (by omega)
      have q2 : IntKind.i64.wrap (2 * (r : Int)) = 2 * (r : Int) := IntWalk.i64_in _ (by omega)
      have q3 : IntKind.i64.wrap ((xs.length : Int) + (ys.length : Int) - 2 * (r : Int)) = (xs.length : Int) + (ys.length : Int) - 2 * (r : Int) := IntWalk.i64_in _ (by omega)
      clear hc hc2 ht ht2 hF hr
      go_enter Try.func65, Try.ntmps65
      go_wp2_with fail
      rw [← HW.out]
      refine HC.out.mono ?_
      rintro e w1 ⟨rfl, hb⟩
      have hB : Hid (Below W.heap.size W w1) := hb
      have d2 := cell_be C2.out hb
      clear hb
      go_wp2_with fail
      refine (HC2.out _ hB.out).mono ?_
      rintro e w2 ⟨rfl, hb⟩
      have hB2 : Hid (Below W.heap.size W w2) := btr hB.out hb
      have d1 := cell_be C1.out hB2.out
      have d3 := cell_be C2.out hB2.out
      clear hb d2 HC HC2
      go_wp2
      have K0 : Hid (Below W.heap.size W w2.drew) := hB2.out.drew
      have HS : Hid (∀ w', Hid (Below W.heap.size W w') → w'.cell? ⟨w.heap.size, 0, none⟩ = some (.slice A xs.length c) ∧ w'.cell? ⟨w.heap.size + 1, 0, none⟩ = some (.slice A2 ys.length c2)) := fun w' hb => ⟨cell_be C1.out hb.out, cell_be C2.out hb.out⟩
      clear d1 d3
      go_region_held3 (fun w' => w'.cell? ⟨w.heap.size, 0, none⟩ = some (.slice A xs.length c) ∧ w'.cell? ⟨w.heap.size + 1, 0, none⟩ = some (.slice A2 ys.length c2) ∧ Hid (Below W.heap.size W w')) (first | exact ⟨(HS.out _ K0).1, (HS.out _ K0).2, K0⟩ | exact ⟨(HS.out _ (by assumption)).1, (HS.out _ (by assumption)).2, by assumption⟩) (first | (go_at_call_of 93 c; refine (HN.out _ _ _ _ (by assumption)).mono ?_; rintro e wa ⟨rfl, hba⟩) | (go_at_call_of 93 c2; refine (HN.out _ _ _ _ (by assumption)).mono ?_; rintro e wb ⟨rfl, hbb⟩) | (go_at_call 112; refine (HD.out _ (by assumption)).mono ?_; rintro e wc ⟨rfl, hbc⟩))
      all_goals
        go_wp2
        go_ret2
        exact ⟨rfl, btr hBW.out (by assumption : Hid (Below W.heap.size W wc)).out⟩
end Go.Proofs.Ytgcabcmnhdaepaa
