/- Leaves alone: comparisonBy, inCommonBy, distanceBy. -/
import Derived.Test.YtgcabcmnhdaepaaLeafC
import Derived.Test.YtgcabcmnhdaepaaForestOf
namespace Go.Proofs.Ytgcabcmnhdaepaa.Leaf
open Go.RowKit Go.Maps Go.WideMaps

set_option maxRecDepth 100000 in
theorem comparisonBy (L : Nat → Nat → Nat → Nat → Nat) (w : World) :
    Calls Try.prog 141 #[.func (.func 113) #[] #[]] w fun e w' => ∃ b, e = .returned (cmpV b) ∧ Hid (Memo L w' b) ∧ Hid (w.heap.size ≤ b) ∧ Hid (b < w'.heap.size) ∧ Hid (Below w.heap.size w w') := by
  have hmm := @run_makeMap Try.prog
  have c0 : ((w.alloc (.cells #[.nilFunc, .map none] 154)).alloc (.map #[] 0)).cell? ⟨w.heap.size, 0, none⟩ = some .nilFunc := by simp [go_sem]
  have f0 : ((w.alloc (.cells #[.nilFunc, .map none] 154)).alloc (.map #[] 0)).frozen? ⟨w.heap.size, 0, none⟩ = false := by simp [go_sem]
  have hst : (store ⟨w.heap.size, 0, none⟩ (.func (.func 113) #[] #[])).run Try.prog ((w.alloc (.cells #[.nilFunc, .map none] 154)).alloc (.map #[] 0)) = .ok () (((w.alloc (.cells #[.nilFunc, .map none] 154)).alloc (.map #[] 0)).setCell ⟨w.heap.size, 0, none⟩ (.func (.func 113) #[] #[])) := by
    rw [run_store _ _ _ _ _ rfl]
    simp [c0, f0]
  clear c0 f0
  go_enter Try.func141, Try.ntmps141
  go_wp2
  refine bodyPost_ret (v := cmpV (w.heap.size + 1)) (by simp [results, Try.results141, go_sem]) rfl ?_
  refine ⟨w.heap.size + 1, rfl, ?_, (show w.heap.size ≤ w.heap.size + 1 by omega), (show w.heap.size + 1 < _ by simp), bal (bal (b0 w) _) _⟩
  have hM := Memo.new L (w.alloc (.cells #[.func (.func 113) #[] #[], .map (some (w.heap.size + 1))] 154))
  rw [World.size_alloc] at hM
  exact hM

/-- the nodes in common of two trees -/
def com (xs ys : List Int) : Nat := M.mostL (M.szAt xs) (M.szAt ys) 0 xs.length 0 ys.length
theorem com_le (xs ys : List Int) : com xs ys ≤ xs.length ∧ com xs ys ≤ ys.length := by have := M.mostL_bd (M.szAt xs) (M.szAt ys) 0 xs.length 0 ys.length; simp only [com]; omega

set_option maxHeartbeats 2000000 in
set_option maxRecDepth 100000 in
theorem inCommonBy (A A2 : Option Addr) (xs ys : List Int) (c c2 r : Nat) (w : World) (hx : xs.length ≤ 24) (hy : ys.length ≤ 24) (hcc : xs.length ≤ c ∧ c ≤ 1000000000000) (hcc2 : ys.length ≤ c2 ∧ c2 ≤ 1000000000000) (ht : Hid (M.isTree xs = true)) (hu : Hid (M.isTree ys = true)) (h : Hid (Ints w w.heap.size A xs)) (h2 : Hid (Ints w w.heap.size A2 ys)) (hr : Hid (com xs ys = r)) :
    Calls Try.prog 107 #[.func (.func 113) #[] #[], .slice A xs.length c, .slice A2 ys.length c2] w fun e w' => e = .returned (.int .i64 (r : Int)) ∧ Hid (Below w.heap.size w w') := by
  have HC := Lib.hid (comparisonBy (Lk xs ys) w)
  have HF1 : Hid (∀ w', Hid (Below w.heap.size w w') → Calls Try.prog 143 #[.slice A xs.length c] w' fun e w'' => ∃ V g, e = .returned V ∧ Hid (IsFor V g 0 xs.length) ∧ Hid (For w'' g xs) ∧ Hid (w'.heap.size ≤ g) ∧ Hid (Below w'.heap.size w' w'')) := fun w' hb => forestOf A xs c w' hx hcc.1 hcc.2 ht (Lib.hid (h.out.be hb.out))
  have HF2 : Hid (∀ w', Hid (Below w.heap.size w w') → Calls Try.prog 143 #[.slice A2 ys.length c2] w' fun e w'' => ∃ V g, e = .returned V ∧ Hid (IsFor V g 0 ys.length) ∧ Hid (For w'' g ys) ∧ Hid (w'.heap.size ≤ g) ∧ Hid (Below w'.heap.size w' w'')) := fun w' hb => forestOf A2 ys c2 w' hy hcc2.1 hcc2.2 hu (Lib.hid (h2.out.be hb.out))
  have HM : Hid (∀ (w' : World) (b bF bG : Nat) (V1 V2 : Value), b ≠ bF → b ≠ bG → Hid (IsFor V1 bF 0 xs.length) → Hid (IsFor V2 bG 0 ys.length) → Hid (For w' bF xs) → Hid (For w' bG ys) → Hid (Memo (Lk xs ys) w' b) → Calls Try.prog 142 #[cmpV b, V1, V2] w' fun e W' => e = .returned (.int .i64 (r : Int)) ∧ Hid (Memo (Lk xs ys) W' b) ∧ Hid (w'.grownBy W' (some b))) := fun w' b bF bG V1 V2 h1 h2 hv1 hv2 hf hg hm =>
    mostAt xs ys bF bG b hx hy ht hu h1 h2 (xs.length + ys.length) 0 xs.length 0 ys.length r V1 V2 w' (Nat.le_refl _) (by omega) (by omega) (by rw [Nat.zero_add]; exact M.closed_all ht.out) (by rw [Nat.zero_add]; exact M.closed_all hu.out) hv1 hv2 hf hg hm (by rw [Nat.zero_add, Nat.zero_add]; exact hr)
  clear hr h h2
  go_enter Try.func107, Try.ntmps107
  go_wp2_with fail
  refine HC.out.mono ?_
  rintro e w1 ⟨b, rfl, hM1, hb1, hb1l, hB1⟩
  have hb1' := hb1.out
  have hb2' := hb1l.out
  clear HC
  go_wp2_with fail
  refine (HF1.out _ hB1).mono ?_
  rintro e w2 ⟨V1, bF, rfl, hV1, hF2, hgF, hB2⟩
  have hM2 := Lib.hid (memo_below hM1.out hB2.out)
  have hBt2 := Lib.hid (btr hB1.out hB2.out)
  have hgF' := hgF.out
  have hzF := hF2.out.1
  clear HF1 hM1
  go_wp2_with fail
  refine (HF2.out _ hBt2).mono ?_
  rintro e w3 ⟨V2, bG, rfl, hV2, hG3, hgG, hB3⟩
  have hM3 := Lib.hid (memo_below hM2.out hB3.out)
  have hF3 := Lib.hid (hF2.out.be hB3.out)
  have hBt3 := Lib.hid (btr hBt2.out hB3.out)
  have hgG' := hgG.out
  have hz2 := hB2.out.size
  clear HF2 hM2
  go_wp2_with fail
  refine (HM.out w3 b bF bG V1 V2 (by omega) (by omega) hV1 hV2 hF3 hG3 hM3).mono ?_
  rintro e w4 ⟨rfl, _, hg4⟩
  go_wp2
  go_ret
  exact ⟨rfl, hBt3.out.grown hg4.out hBt3.out.size (fun k e => by injection e with e; omega)⟩

set_option maxRecDepth 100000 in
theorem distanceBy (A A2 : Option Addr) (xs ys : List Int) (c c2 r : Nat) (w : World) (hx : xs.length ≤ 24) (hy : ys.length ≤ 24) (hcc : xs.length ≤ c ∧ c ≤ 1000000000000) (hcc2 : ys.length ≤ c2 ∧ c2 ≤ 1000000000000) (ht : Hid (M.isTree xs = true)) (hu : Hid (M.isTree ys = true)) (h : Hid (Ints w w.heap.size A xs)) (h2 : Hid (Ints w w.heap.size A2 ys)) (hr : Hid (com xs ys = r)) :
    Calls Try.prog 105 #[.func (.func 113) #[] #[], .slice A xs.length c, .slice A2 ys.length c2] w fun e w' => e = .returned (.int .i64 ((xs.length : Int) + (ys.length : Int) - 2 * (r : Int))) ∧ Hid (Below w.heap.size w w') := by
  have HC := Lib.hid (inCommonBy A A2 xs ys c c2 r w hx hy hcc hcc2 ht hu h h2 hr)
  have hrl := (com_le xs ys).1
  rw [hr.out] at hrl
  have e1 : IntKind.i64.wrap ((xs.length : Int) + (ys.length : Int)) = (xs.length : Int) + (ys.length : Int) := IntWalk.i64_in _ (by omega)
  have e2 : IntKind.i64.wrap (2 * (r : Int)) = 2 * (r : Int) := IntWalk.i64_in _ (by omega)
  have e3 : IntKind.i64.wrap ((xs.length : Int) + (ys.length : Int) - 2 * (r : Int)) = (xs.length : Int) + (ys.length : Int) - 2 * (r : Int) := IntWalk.i64_in _ (by omega)
  clear hr h h2
  go_enter Try.func105, Try.ntmps105
  go_wp2_with fail
  refine HC.out.mono ?_
  rintro e w1 ⟨rfl, hB1⟩
  go_wp2
  go_ret
  exact ⟨rfl, hB1⟩
end Go.Proofs.Ytgcabcmnhdaepaa.Leaf
