/- with: a beginning with a node at the next place, as a new list. Written by genw9.py. -/
import Derived.Test.YtgnhmhfianmckaaListCode
import Derived.Test.YtgnhmhfianmckaaMet
namespace Go.Proofs.Ytgnhmhfianmckaa
open Go.RowKit

namespace M
def pair2 (b : List Int) (v : Int) (j : Nat) : List Int := if j = 0 then b else [v]
theorem catTo_pair2 (b : List Int) (v : Int) : catTo (pair2 b v) 2 = b ++ [v] := by simp [catTo, pair2]
end M

theorem own64_one' {w : World} {B : Nat} (hB : B ≤ w.heap.size) (x : Int) : Own64 (w.alloc (.cells #[.int .i64 x] 2)) B (.slice (some ⟨w.heap.size, 0, none⟩) 1 1) [x] := by
  exact ⟨by simp, .inr ⟨w.heap.size, 1, #[.int .i64 x], rfl, hB, World.alloc_heap_new w _, by simp, by simp [maxLen], by simp, by simp⟩⟩

set_option maxHeartbeats 4000000 in
set_option maxRecDepth 100000 in
theorem withNode (A A2 : Option Addr) (b : List Int) (n c L c2 : Nat) (v : Int) (w : World) (hL : Hid (b.length = L)) (h24 : L ≤ 24) (hz2 : Hid (A2 = none → c2 = 0)) (h2 : Hid (Ints w w.heap.size A2 b)) :
    Calls Try.prog 75 #[.agg #[.slice A n c, .slice A2 L c2], .int .i64 v] w fun e w' => ∃ g c', e = .returned (.agg #[.slice A n c, .slice (some ⟨g, 0, none⟩) (L + 1) c']) ∧ Own64 w' w.heap.size (.slice (some ⟨g, 0, none⟩) (L + 1) c') (b ++ [v]) ∧ Below w.heap.size w w' := by
  obtain ⟨d0, d1⟩ := order_cells w (.slice A n c) (.slice A2 L c2) 54
  have hB0 := Lib.hid (bal (bal (b0 w) (.cells #[.slice A n c, .slice A2 L c2] 54)) (.cells #[.slice none 0 0, .slice none 0 0] 54))
  have d0' := cellOf_al d0 (.cells #[.slice none 0 0, .slice none 0 0] 54)
  have d1' := cellOf_al d1 (.cells #[.slice none 0 0, .slice none 0 0] 54)
  obtain ⟨z0, z1⟩ := order_cells (w.alloc (.cells #[.slice A n c, .slice A2 L c2] 54)) (.slice none 0 0) (.slice none 0 0) 54
  rw [World.size_alloc] at z0 z1
  have H2 := Lib.hid ((h2.out.al (.cells #[.slice A n c, .slice A2 L c2] 54)).al (.cells #[.slice none 0 0, .slice none 0 0] 54))
  obtain ⟨W, hW⟩ : ∃ W, W = (w.alloc (.cells #[.slice A n c, .slice A2 L c2] 54)).alloc (.cells #[.slice none 0 0, .slice none 0 0] 54) := ⟨_, rfl⟩
  have hzW : Hid (W.heap.size = w.heap.size + 1 + 1) := by show _ = _; rw [hW]; simp
  have zh : Hid (W.heap[w.heap.size + 1]? = some (.cells #[.slice none 0 0, .slice none 0 0] 54 (0, 0))) := by
    have := World.alloc_heap_new (w.alloc (.cells #[.slice A n c, .slice A2 L c2] 54)) (.cells #[.slice none 0 0, .slice none 0 0] 54)
    rw [World.size_alloc] at this
    rw [hW]; exact this
  rw [← hW] at d0' d1' z0 z1 H2 hB0
  clear d0 d1 h2
  go_enter Try.func75, Try.ntmps75
  go_wp2_with fail
  rw [← hW]
  clear hW
  have K0 : Hid (Below W.heap.size W W.drew) := (Below.refl _ _).drew
  have e0 : W.drew.cell? ⟨w.heap.size, 0, none⟩ = some (.slice A n c) := d0'
  have e1 : W.drew.cell? ⟨w.heap.size, 1, none⟩ = some (.slice A2 L c2) := d1'
  refine wp_region_held_drew (S := (fun w' => w'.cell? ⟨w.heap.size, 0, none⟩ = some (.slice A n c) ∧ w'.cell? ⟨w.heap.size, 1, none⟩ = some (.slice A2 L c2))) (by kernel_rfl) (by exact ⟨e0, e1⟩) (fun hHeld0 => ?_)
  refine anyTake 0 (some 5) (.pointer (some ⟨w.heap.size, 0, none⟩)) rfl rfl (by kernel_rfl) (by kernel_rfl) (by kernel_rfl) (fun _ _ _ h => h) (by rfl) (by intro w hSw; (try dsimp only at hSw); go_simp) (by assumption) ?_
  try simp only [Act.put, List.setIfInBounds_toArray, List.set_cons_zero, List.set_cons_succ]
  refine anyTake 1 (some 6) (.agg #[.slice A n c]) rfl rfl (by kernel_rfl) (by kernel_rfl) (by kernel_rfl) (fun _ _ _ h => h) (by rfl) (by intro w hSw; (try dsimp only at hSw); go_simp) (by assumption) ?_
  try simp only [Act.put, List.setIfInBounds_toArray, List.set_cons_zero, List.set_cons_succ]
  refine anyTake 2 (some 7) (.pointer (some ⟨w.heap.size, 1, none⟩)) rfl rfl (by kernel_rfl) (by kernel_rfl) (by kernel_rfl) (fun _ _ _ h => h) (by rfl) (by intro w hSw; (try dsimp only at hSw); go_simp) (by assumption) ?_
  try simp only [Act.put, List.setIfInBounds_toArray, List.set_cons_zero, List.set_cons_succ]
  refine anyTake 3 (some 8) (.slice A2 L c2) rfl rfl (by kernel_rfl) (by kernel_rfl) (by kernel_rfl) (fun _ _ _ h => h) (by rfl) (by intro w hSw; (try dsimp only at hSw); go_simp) (by assumption) ?_
  try simp only [Act.put, List.setIfInBounds_toArray, List.set_cons_zero, List.set_cons_succ]
  refine anyTake 4 (some 9) (.int .i64 v) rfl rfl (by kernel_rfl) (by kernel_rfl) (by kernel_rfl) (fun _ _ _ h => h) (by rfl) (by intro w hSw; (try dsimp only at hSw); go_simp) (by assumption) ?_
  try simp only [Act.put, List.setIfInBounds_toArray, List.set_cons_zero, List.set_cons_succ]
  refine wpAnyH_ready (rs := [5]) (by kernel_rfl) (by simp) ?_
  refine AllReadyH.cons rfl (fun K hK => ?_) AllReadyH.nil
  go_simp
  have B1 : Hid (Below W.heap.size W (W.alloc (.cells #[.int .i64 v] 2)).drew) := (bal (b0 W) _).drew
  refine hK.out _ _ (by exact ⟨cellOf_be d0' (Hid.out B1), cellOf_be d1' (Hid.out B1)⟩) (fun hHeld => ?_)
  clear hK K
  try simp only [Act.put, List.setIfInBounds_toArray, List.set_cons_zero, List.set_cons_succ]
  clear hHeld0
  have hHeld0 := hHeld
  clear hHeld
  refine wpAnyH_ready (rs := [6]) (by kernel_rfl) (by simp) ?_
  refine AllReadyH.cons rfl (fun K hK => ?_) AllReadyH.nil
  go_simp
  have B2 : Hid (Below W.heap.size W ((W.alloc (.cells #[.int .i64 v] 2)).alloc (.cells #[.slice A2 L c2, .slice (some ⟨W.heap.size, 0, none⟩) 1 1] 22)).drew) := (bal (bal (b0 W) _) _).drew
  refine hK.out _ _ (by exact ⟨cellOf_be d0' (Hid.out B2), cellOf_be d1' (Hid.out B2)⟩) (fun hHeld => ?_)
  clear hK K
  try simp only [Act.put, List.setIfInBounds_toArray, List.set_cons_zero, List.set_cons_succ]
  clear hHeld0
  have hHeld0 := hHeld
  clear hHeld
  have hz2' : ((W.alloc (.cells #[.int .i64 v] 2)).alloc (.cells #[.slice A2 L c2, .slice (some ⟨W.heap.size, 0, none⟩) 1 1] 22)).heap.size = W.heap.size + 1 + 1 := by simp
  have HP : Hid (Parts ((W.alloc (.cells #[.int .i64 v] 2)).alloc (.cells #[.slice A2 L c2, .slice (some ⟨W.heap.size, 0, none⟩) 1 1] 22)).drew (W.heap.size + 1) 2 (M.pair2 b v)) := fun j hj => by
    have hq0 := World.cell?_alloc_new (W.alloc (.cells #[.int .i64 v] 2)) #[.slice A2 L c2, .slice (some ⟨W.heap.size, 0, none⟩) 1 1] 22 0
    have hq1 := World.cell?_alloc_new (W.alloc (.cells #[.int .i64 v] 2)) #[.slice A2 L c2, .slice (some ⟨W.heap.size, 0, none⟩) 1 1] 22 1
    rw [World.size_alloc] at hq0 hq1
    match j, hj with
    | 0, _ => exact ⟨A2, c2, by show ((W.alloc (.cells #[.int .i64 v] 2)).alloc (.cells #[.slice A2 L c2, .slice (some ⟨W.heap.size, 0, none⟩) 1 1] 22)).cell? _ = _; rw [hq0]; simp [M.pair2, hL.out], by have := (H2.out.al (.cells #[.int .i64 v] 2)).al (.cells #[.slice A2 L c2, .slice (some ⟨W.heap.size, 0, none⟩) 1 1] 22); have h9 : Ints ((W.alloc (.cells #[.int .i64 v] 2)).alloc (.cells #[.slice A2 L c2, .slice (some ⟨W.heap.size, 0, none⟩) 1 1] 22)).drew ((W.alloc (.cells #[.int .i64 v] 2)).alloc (.cells #[.slice A2 L c2, .slice (some ⟨W.heap.size, 0, none⟩) 1 1] 22)).drew.heap.size A2 b := this; simpa [M.pair2] using h9, by simpa using hz2.out⟩
    | 1, _ => exact ⟨some ⟨W.heap.size, 0, none⟩, 1, by show ((W.alloc (.cells #[.int .i64 v] 2)).alloc (.cells #[.slice A2 L c2, .slice (some ⟨W.heap.size, 0, none⟩) 1 1] 22)).cell? _ = _; rw [hq1]; simp [M.pair2], by
        have := ((ints_of_own64 (own64_one' (w := W) (B := 0) (Nat.zero_le _) v)).al (.cells #[.slice A2 L c2, .slice (some ⟨W.heap.size, 0, none⟩) 1 1] 22)); have h9 : Ints ((W.alloc (.cells #[.int .i64 v] 2)).alloc (.cells #[.slice A2 L c2, .slice (some ⟨W.heap.size, 0, none⟩) 1 1] 22)).drew ((W.alloc (.cells #[.int .i64 v] 2)).alloc (.cells #[.slice A2 L c2, .slice (some ⟨W.heap.size, 0, none⟩) 1 1] 22)).drew.heap.size (some ⟨W.heap.size, 0, none⟩) [v] := this; simpa [M.pair2] using h9, fun e => by cases e⟩
  have HLen : Hid (∀ j, j < 2 → (M.pair2 b v j).length ≤ 24) := fun j hj => by
    match j, hj with
    | 0, _ => simp only [M.pair2]; have := hL.out; simp; omega
    | 1, _ => simp [M.pair2]
  have HC := Lib.hid (concat (W.heap.size + 1) 2 (M.pair2 b v) ((W.alloc (.cells #[.int .i64 v] 2)).alloc (.cells #[.slice A2 L c2, .slice (some ⟨W.heap.size, 0, none⟩) 1 1] 22)).drew (by omega) HLen (by show _ < ((W.alloc (.cells #[.int .i64 v] 2)).alloc (.cells #[.slice A2 L c2, .slice (some ⟨W.heap.size, 0, none⟩) 1 1] 22)).heap.size; omega) HP)
  clear HP HLen
  refine wpAnyH_ready (rs := [7]) (by kernel_rfl) (by simp) ?_
  refine AllReadyH.cons rfl (fun K hK => ?_) AllReadyH.nil
  go_simp
  go_at_call 103
  refine HC.out.mono ?_
  rintro e w5 ⟨A5, c5, n5, rfl, ho5, hb5⟩
  go_wp2_with fail
  rw [M.catTo_pair2] at ho5
  have hn5 : n5 = L + 1 := by have := own64_len ho5; rw [List.length_append, hL.out] at this; exact this
  subst hn5
  obtain ⟨g5, rfl⟩ : ∃ g5, A5 = some ⟨g5, 0, none⟩ := by
    rcases ho5.2 with ⟨q1, q2⟩ | ⟨g5, cap, cur, hv, _⟩
    · simp at q2
    · injection hv with q1; exact ⟨g5, q1⟩
  have B3 : Hid (Below W.heap.size W w5) := btr B2.out hb5
  have Ho5 : Hid (Own64 w5 W.heap.size (.slice (some ⟨g5, 0, none⟩) (L + 1) c5) (b ++ [v])) := own_mono ho5 (by show _ ≤ ((W.alloc (.cells #[.int .i64 v] 2)).alloc (.cells #[.slice A2 L c2, .slice (some ⟨W.heap.size, 0, none⟩) 1 1] 22)).heap.size; omega)
  clear ho5 hb5 HC
  refine hK.out _ _ (by exact ⟨cellOf_be d0' (Hid.out B3), cellOf_be d1' (Hid.out B3)⟩) (fun hHeld => ?_)
  clear hK K
  try simp only [Act.put, List.setIfInBounds_toArray, List.set_cons_zero, List.set_cons_succ]
  clear hHeld0
  have hHeld0 := hHeld
  clear hHeld
  refine anyTake 8 (some 13) (.agg #[.slice A n c, .slice (some ⟨g5, 0, none⟩) (L + 1) c5]) rfl rfl (by kernel_rfl) (by kernel_rfl) (by kernel_rfl) (fun _ _ _ h => h) (by rfl) (by intro w hSw; (try dsimp only at hSw); go_simp) (by assumption) ?_
  try simp only [Act.put, List.setIfInBounds_toArray, List.set_cons_zero, List.set_cons_succ]
  have y0 := cellOf_be z0 B3.out
  have y1 := cellOf_be z1 B3.out
  have zh5 : w5.heap[w.heap.size + 1]? = some (.cells #[.slice none 0 0, .slice none 0 0] 54 (0, 0)) := (B3.out.block _ (by have := hzW.out; omega)).trans zh.out
  have q0 : w5.frozen? ⟨w.heap.size + 1, 0, none⟩ = false := by simp [World.frozen?, zh5]
  have q1 : w5.frozen? ⟨w.heap.size + 1, 1, none⟩ = false := by simp [World.frozen?, zh5]
  have q2 : (w5.setCell ⟨w.heap.size + 1, 0, none⟩ (.slice A n c)).frozen? ⟨w.heap.size + 1, 1, none⟩ = false := by rw [World.frozen?_setCell]; exact q1
  have e5 := cellOf_be d0' B3.out
  have e6 := cellOf_be d1' B3.out
  have hzz := hzW.out
  have hgb := (World.ownsRow.lt Ho5.out g5 rfl).1
  have hB5 := Lib.hid (btr hB0.out B3.out)
  have hF5 : Hid (Below w.heap.size w ((w5.setCell ⟨w.heap.size + 1, 0, none⟩ (.slice A n c)).setCell ⟨w.heap.size + 1, 1, none⟩ (.slice (some ⟨g5, 0, none⟩) (L + 1) c5))) := below_setCell (below_setCell hB5.out (by omega) _) (by omega) _
  have hO5 : Hid (Own64 ((w5.setCell ⟨w.heap.size + 1, 0, none⟩ (.slice A n c)).setCell ⟨w.heap.size + 1, 1, none⟩ (.slice (some ⟨g5, 0, none⟩) (L + 1) c5)) W.heap.size (.slice (some ⟨g5, 0, none⟩) (L + 1) c5) (b ++ [v])) := own_far (own_far Ho5.out (by omega) _) (by omega) _
  have p0 : ((w5.setCell ⟨w.heap.size + 1, 0, none⟩ (.slice A n c)).setCell ⟨w.heap.size + 1, 1, none⟩ (.slice (some ⟨g5, 0, none⟩) (L + 1) c5)).cell? ⟨w.heap.size + 1, 0, none⟩ = some (.slice A n c) := (World.cell?_setCell_other _ _ _ _ (by intro e; injection e with e1 e2; omega)).trans (World.cell?_setCell_same _ _ _ y0)
  have p1 : ((w5.setCell ⟨w.heap.size + 1, 0, none⟩ (.slice A n c)).setCell ⟨w.heap.size + 1, 1, none⟩ (.slice (some ⟨g5, 0, none⟩) (L + 1) c5)).cell? ⟨w.heap.size + 1, 1, none⟩ = some (.slice (some ⟨g5, 0, none⟩) (L + 1) c5) := World.cell?_setCell_same _ _ _ ((World.cell?_setCell_other _ _ _ _ (by intro e; injection e with e1 e2; omega)).trans y1)
  have s0 : ((w5.setCell ⟨w.heap.size + 1, 0, none⟩ (.slice A n c)).setCell ⟨w.heap.size + 1, 1, none⟩ (.slice (some ⟨g5, 0, none⟩) (L + 1) c5)).cell? ⟨w.heap.size, 0, none⟩ = some (.slice A n c) := (World.cell?_setCell_other _ _ _ _ (by intro e; injection e with e1; omega)).trans ((World.cell?_setCell_other _ _ _ _ (by intro e; injection e with e1; omega)).trans e5)
  have s1 : ((w5.setCell ⟨w.heap.size + 1, 0, none⟩ (.slice A n c)).setCell ⟨w.heap.size + 1, 1, none⟩ (.slice (some ⟨g5, 0, none⟩) (L + 1) c5)).cell? ⟨w.heap.size, 1, none⟩ = some (.slice A2 L c2) := (World.cell?_setCell_other _ _ _ _ (by intro e; injection e with e1; omega)).trans ((World.cell?_setCell_other _ _ _ _ (by intro e; injection e with e1; omega)).trans e6)
  have HF5 := hF5
  clear hzz
  refine wpAnyH_ready (rs := [9]) (by kernel_rfl) (by simp) ?_
  refine AllReadyH.cons rfl (fun K hK => ?_) AllReadyH.nil
  go_simp
  refine hK.out _ _ ⟨s0, s1⟩ (fun hHeld => ?_)
  clear hK K hHeld
  refine wpAnyH_done (by kernel_rfl) ?_ _
  clear y0 y1 q0 q1 q2 s0 s1 e5 e6 hHeld0 z0 z1 zh5
  go_wp2_with fail
  refine bodyPost_ret (v := .agg #[.slice A n c, .slice (some ⟨g5, 0, none⟩) (L + 1) c5]) (by simp [results, Try.results75, go_sem, p0, p1]) rfl ?_
  exact ⟨g5, c5, rfl, own_mono hO5.out (by have := hzW.out; omega), hF5.out⟩
end Go.Proofs.Ytgnhmhfianmckaa
