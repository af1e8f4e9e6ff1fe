/- areFree and l09Free: whether two places of a growing order are free. Written by genf.py. -/
import Derived.Test.YtgnhmhfianmckaaOrdSteps
namespace Go.Proofs.Ytgnhmhfianmckaa
open Go.RowKit

namespace M
def freeAt (ps l : List Int) (i : Nat) : Bool := parOf ps (l[i + 1]?.getD 0) != l[i]?.getD 0
end M

set_option maxHeartbeats 4000000 in
set_option maxRecDepth 100000 in
theorem areFree (A A2 : Option Addr) (xs l : List Int) (c c2 n i : Nat) (w : World) (hn : Hid (xs.length = n)) (hc1 : n ≤ c) (hc2 : c ≤ 1000000000000) (ht : Hid (M.isTree xs = true)) (ho : Hid (M.isOrd n l = true)) (hi : i + 1 < n) (h : Hid (Ints w w.heap.size A xs)) (h2 : Hid (Ints w w.heap.size A2 l)) :
    Calls Try.prog 81 #[.agg #[.slice A n c, .slice A2 n c2], .int .i64 (i : Int)] w fun e w' => e = .returned (.bool (M.freeAt (M.parents xs) l i)) ∧ Below w.heap.size w w' := by
  have hxl := M.tree_len ht.out
  rw [hn.out] at hxl
  have h24 := hxl.2
  have Hl := (M.isOrd_iff.1 ho.out).1
  obtain ⟨b, off, e2, hbl, hcs⟩ := h2.out (by rw [Hl]; omega)
  subst e2
  obtain ⟨u, hu⟩ : ∃ u, l[i]? = some u := ⟨_, List.getElem?_eq_getElem (by omega)⟩
  obtain ⟨v', hv'⟩ : ∃ v, l[i + 1]? = some v := ⟨_, List.getElem?_eq_getElem (by omega)⟩
  have hvr := (M.isOrd_iff.1 ho.out).2.2 v' (List.mem_of_getElem? hv')
  obtain ⟨v, rfl⟩ := Int.eq_ofNat_of_zero_le hvr.1
  have hvn : v < n := by omega
  have hv0 : (0 : Int) ≤ (v : Int) := by omega
  have hvi : (v : Int) < (n : Int) := by omega
  have hi0 : (0 : Int) ≤ (i : Int) := by omega
  have hi1 : (i : Int) < (n : Int) := by omega
  have hi2 : (i : Int) + 1 < (n : Int) := by omega
  have hi3 : (0 : Int) ≤ (i : Int) + 1 := by omega
  have hwrap : IntKind.i64.wrap ((i : Int) + 1) = (i : Int) + 1 := IntWalk.i64_in _ (by omega)
  have hton : ((i : Int) + 1).toNat = i + 1 := by omega
  have q1 := hcs i u hu
  have q2 := hcs (i + 1) _ hv'
  have hfr : Hid (M.freeAt (M.parents xs) l i = (M.parOf (M.parents xs) (v : Int) != u)) := by show _ = _; rw [M.freeAt, hu, hv']; rfl
  clear hu hv' hvr hcs hxl
  obtain ⟨d0, d1⟩ := order_cells w (.slice A n c) (.slice (some ⟨b, off, none⟩) n c2) 54
  have hB0 := Lib.hid (bal (b0 w) (.cells #[.slice A n c, .slice (some ⟨b, off, none⟩) n c2] 54))
  obtain ⟨W, hW⟩ : ∃ W, W = w.alloc (.cells #[.slice A n c, .slice (some ⟨b, off, none⟩) n c2] 54) := ⟨_, rfl⟩
  have H1 := Lib.hid (h.out.al (.cells #[.slice A n c, .slice (some ⟨b, off, none⟩) n c2] 54))
  have g1 : W.cell? ⟨b, off + i, none⟩ = some (.int .i64 u) := by rw [hW]; exact cellOf_al q1 _
  have g2 : W.cell? ⟨b, off + (i + 1), none⟩ = some (.int .i64 (v : Int)) := by rw [hW]; exact cellOf_al q2 _
  rw [← hW] at d0 d1 hB0 H1
  have hP : ∀ X, Hid (Below W.heap.size W X) → Calls Try.prog 91 #[.slice A n c] X fun e w' => ∃ pb po c' p, e = .returned (.slice (some ⟨pb, po, none⟩) n c') ∧ w'.cell? ⟨pb, po + v, none⟩ = some (.int .i64 p) ∧ Hid (M.parOf (M.parents xs) (v : Int) = p) ∧ Hid (Below W.heap.size W w') := fun X hX => by
    have := (callsIn_wide (n := 5)).1 (parentsIn_in A xs c X (by rw [hn.out]; exact hc1) hc2 ht (H1.out.be hX.out))
    rw [hn.out] at this
    refine this.mono fun e w' ⟨A', c', ps, he, hk, ho, hb⟩ => ?_
    have hpar := M.parents_of ht.out hk.out
    rw [hn.out] at hpar
    obtain ⟨pb, po, p, e5, hpb, g3, hX3⟩ := (ints_of_own64 ho).at_ (k := v) (by rw [hk.out.1, hn.out]; exact hvn)
    have hpp : Hid (M.parOf (M.parents xs) (v : Int) = p) := by
      show _ = _
      rw [M.parents_eq ht.out hk.out]
      have := M.par_at hpar hvn
      rw [hX3.out] at this
      injection this with this
      exact this.symm
    exact ⟨pb, po, c', p, by rw [he, e5], g3, hpp, btr hX.out hb⟩
  have HP := Lib.hid hP
  clear hP h h2 q1 q2
  go_enter Try.func81, Try.ntmps81
  go_wp2_with fail
  rw [← hW]
  clear hW
  have K0 : Hid (Below W.heap.size W W.drew) := (Below.refl _ _).drew
  have e0 : W.drew.cell? ⟨w.heap.size, 0, none⟩ = some (.slice A n c) := d0
  have e1 : W.drew.cell? ⟨w.heap.size, 1, none⟩ = some (.slice (some ⟨b, off, none⟩) n c2) := d1
  have k1 : W.drew.cell? ⟨b, off + i, none⟩ = some (.int .i64 u) := g1
  have k2 : W.drew.cell? ⟨b, off + (i + 1), none⟩ = some (.int .i64 (v : Int)) := g2
  refine wp_region_held_drew (S := (fun w' => w'.cell? ⟨w.heap.size, 0, none⟩ = some (.slice A n c) ∧ w'.cell? ⟨w.heap.size, 1, none⟩ = some (.slice (some ⟨b, off, none⟩) n c2) ∧ w'.cell? ⟨b, off + i, none⟩ = some (.int .i64 u) ∧ w'.cell? ⟨b, off + (i + 1), none⟩ = some (.int .i64 (v : Int)) ∧ Hid (Below W.heap.size W w'))) (by kernel_rfl) (by exact ⟨e0, e1, k1, k2, K0⟩) (fun hHeld0 => ?_)
  refine anyTake 0 (some 5) (.pointer (some ⟨w.heap.size, 0, none⟩)) rfl rfl (by kernel_rfl) (by kernel_rfl) (by kernel_rfl) (fun _ _ _ h => h) (by rfl) (by intro w hSw; (try dsimp only at hSw); go_simp) (by assumption) ?_
  try simp only [Act.put, List.setIfInBounds_toArray, List.set_cons_zero, List.set_cons_succ]
  refine anyTake 1 (some 6) (.pointer (some ⟨w.heap.size, 0, none⟩)) rfl rfl (by kernel_rfl) (by kernel_rfl) (by kernel_rfl) (fun _ _ _ h => h) (by rfl) (by intro w hSw; (try dsimp only at hSw); go_simp) (by assumption) ?_
  try simp only [Act.put, List.setIfInBounds_toArray, List.set_cons_zero, List.set_cons_succ]
  refine anyTake 2 (some 7) (.slice A n c) rfl rfl (by kernel_rfl) (by kernel_rfl) (by kernel_rfl) (fun _ _ _ h => h) (by rfl) (by intro w hSw; (try dsimp only at hSw); go_simp) (by assumption) ?_
  try simp only [Act.put, List.setIfInBounds_toArray, List.set_cons_zero, List.set_cons_succ]
  refine anyTake 4 (some 9) (.pointer (some ⟨w.heap.size, 1, none⟩)) rfl rfl (by kernel_rfl) (by kernel_rfl) (by kernel_rfl) (fun _ _ _ h => h) (by rfl) (by intro w hSw; (try dsimp only at hSw); go_simp) (by assumption) ?_
  try simp only [Act.put, List.setIfInBounds_toArray, List.set_cons_zero, List.set_cons_succ]
  refine anyTake 5 (some 10) (.slice (some ⟨b, off, none⟩) n c2) rfl rfl (by kernel_rfl) (by kernel_rfl) (by kernel_rfl) (fun _ _ _ h => h) (by rfl) (by intro w hSw; (try dsimp only at hSw); go_simp) (by assumption) ?_
  try simp only [Act.put, List.setIfInBounds_toArray, List.set_cons_zero, List.set_cons_succ]
  refine anyTake 6 (some 11) (.int .i64 (i : Int)) rfl rfl (by kernel_rfl) (by kernel_rfl) (by kernel_rfl) (fun _ _ _ h => h) (by rfl) (by intro w hSw; (try dsimp only at hSw); go_simp) (by assumption) ?_
  try simp only [Act.put, List.setIfInBounds_toArray, List.set_cons_zero, List.set_cons_succ]
  refine anyTake 7 (some 12) (.int .i64 ((i : Int) + 1)) rfl rfl (by kernel_rfl) (by kernel_rfl) (by kernel_rfl) (fun _ _ _ h => h) (by rfl) (by intro w hSw; (try dsimp only at hSw); go_simp) (by assumption) ?_
  try simp only [Act.put, List.setIfInBounds_toArray, List.set_cons_zero, List.set_cons_succ]
  refine anyTake 8 (some 13) (.pointer (some ⟨b, off + (i + 1), none⟩)) rfl rfl (by kernel_rfl) (by kernel_rfl) (by kernel_rfl) (fun _ _ _ h => h) (by rfl) (by intro w hSw; (try dsimp only at hSw); go_simp) (by assumption) ?_
  try simp only [Act.put, List.setIfInBounds_toArray, List.set_cons_zero, List.set_cons_succ]
  refine anyTake 9 (some 14) (.int .i64 (v : Int)) rfl rfl (by kernel_rfl) (by kernel_rfl) (by kernel_rfl) (fun _ _ _ h => h) (by rfl) (by intro w hSw; (try dsimp only at hSw); go_simp) (by assumption) ?_
  try simp only [Act.put, List.setIfInBounds_toArray, List.set_cons_zero, List.set_cons_succ]
  refine anyTake 12 (some 17) (.pointer (some ⟨w.heap.size, 1, none⟩)) rfl rfl (by kernel_rfl) (by kernel_rfl) (by kernel_rfl) (fun _ _ _ h => h) (by rfl) (by intro w hSw; (try dsimp only at hSw); go_simp) (by assumption) ?_
  try simp only [Act.put, List.setIfInBounds_toArray, List.set_cons_zero, List.set_cons_succ]
  refine anyTake 13 (some 18) (.slice (some ⟨b, off, none⟩) n c2) rfl rfl (by kernel_rfl) (by kernel_rfl) (by kernel_rfl) (fun _ _ _ h => h) (by rfl) (by intro w hSw; (try dsimp only at hSw); go_simp) (by assumption) ?_
  try simp only [Act.put, List.setIfInBounds_toArray, List.set_cons_zero, List.set_cons_succ]
  refine anyTake 14 (some 19) (.int .i64 (i : Int)) rfl rfl (by kernel_rfl) (by kernel_rfl) (by kernel_rfl) (fun _ _ _ h => h) (by rfl) (by intro w hSw; (try dsimp only at hSw); go_simp) (by assumption) ?_
  try simp only [Act.put, List.setIfInBounds_toArray, List.set_cons_zero, List.set_cons_succ]
  refine anyTake 15 (some 20) (.pointer (some ⟨b, off + i, none⟩)) rfl rfl (by kernel_rfl) (by kernel_rfl) (by kernel_rfl) (fun _ _ _ h => h) (by rfl) (by intro w hSw; (try dsimp only at hSw); go_simp) (by assumption) ?_
  try simp only [Act.put, List.setIfInBounds_toArray, List.set_cons_zero, List.set_cons_succ]
  refine anyTake 16 (some 21) (.int .i64 u) rfl rfl (by kernel_rfl) (by kernel_rfl) (by kernel_rfl) (fun _ _ _ h => h) (by rfl) (by intro w hSw; (try dsimp only at hSw); go_simp) (by assumption) ?_
  try simp only [Act.put, List.setIfInBounds_toArray, List.set_cons_zero, List.set_cons_succ]
  refine wpAnyH_ready (rs := [3]) (by kernel_rfl) (by simp) ?_
  refine AllReadyH.cons rfl (fun K hK => ?_) AllReadyH.nil
  go_simp
  go_at_call 91
  refine (HP.out _ (by exact hHeld0.2.2.2.2)).mono ?_
  rintro e w5 ⟨pb, po, c5, p, rfl, g5, hpp, hb5⟩
  go_wp2_with fail
  refine hK.out _ _ (by exact ⟨cellOf_be d0 (Hid.out hb5), cellOf_be d1 (Hid.out hb5), cellOf_be g1 (Hid.out hb5), cellOf_be g2 (Hid.out hb5), hb5⟩) (fun hHeld => ?_)
  clear hK K
  try simp only [Act.put, List.setIfInBounds_toArray, List.set_cons_zero, List.set_cons_succ]
  clear hHeld0
  have hHeld0 := hHeld
  clear hHeld
  refine anyTake 10 (some 15) (.pointer (some ⟨pb, po + v, none⟩)) rfl rfl (by kernel_rfl) (by kernel_rfl) (by kernel_rfl) (fun _ _ _ h => h) (by rfl) (by intro w hSw; (try dsimp only at hSw); go_simp) (by assumption) ?_
  try simp only [Act.put, List.setIfInBounds_toArray, List.set_cons_zero, List.set_cons_succ]
  refine wpAnyH_ready (rs := [11]) (by kernel_rfl) (by simp) ?_
  refine AllReadyH.cons rfl (fun K hK => ?_) AllReadyH.nil
  go_simp
  refine hK.out _ _ (by exact ⟨cellOf_be d0 (Hid.out hb5), cellOf_be d1 (Hid.out hb5), cellOf_be g1 (Hid.out hb5), cellOf_be g2 (Hid.out hb5), hb5⟩) (fun hHeld => ?_)
  clear hK K
  try simp only [Act.put, List.setIfInBounds_toArray, List.set_cons_zero, List.set_cons_succ]
  clear hHeld0
  have hHeld0 := hHeld
  clear hHeld
  refine anyTake 17 (some 22) (.bool (p != u)) rfl rfl (by kernel_rfl) (by kernel_rfl) (by kernel_rfl) (fun _ _ _ h => h) (by rfl) (by intro w hSw; (try dsimp only at hSw); go_simp) (by assumption) ?_
  try simp only [Act.put, List.setIfInBounds_toArray, List.set_cons_zero, List.set_cons_succ]
  refine anyTake 18 (some 4) (.bool (p != u)) rfl rfl (by kernel_rfl) (by kernel_rfl) (by kernel_rfl) (fun _ _ _ h => h) (by rfl) (by intro w hSw; (try dsimp only at hSw); go_simp) (by assumption) ?_
  try simp only [Act.put, List.setIfInBounds_toArray, List.set_cons_zero, List.set_cons_succ]
  refine wpAnyH_done (by kernel_rfl) ?_ _
  have hB5 := Lib.hid (btr hB0.out hb5.out)
  go_wp2
  go_ret
  exact ⟨by rw [hfr.out, hpp.out]; rfl, hB5.out⟩

set_option maxHeartbeats 4000000 in
set_option maxRecDepth 100000 in
theorem l09Free (A A2 : Option Addr) (xs l : List Int) (c c2 n i : Nat) (w : World) (hn : Hid (xs.length = n)) (ht : Hid (M.isTree xs = true)) (ho : Hid (M.isOrd n l = true)) (hi : i + 1 < n) (h : Hid (Ints w w.heap.size A xs)) (h2 : Hid (Ints w w.heap.size A2 l)) :
    Calls Try.prog 80 #[.agg #[.slice A n c], .slice A2 n c2, .int .i64 (i : Int)] w fun e w' => e = .returned (.bool (M.freeAt (M.parents xs) l i)) ∧ Below w.heap.size w w' := by
  have hxl := M.tree_len ht.out
  rw [hn.out] at hxl
  have h24 := hxl.2
  have Hl := (M.isOrd_iff.1 ho.out).1
  obtain ⟨b, off, e2, hbl, hcs⟩ := h2.out (by rw [Hl]; omega)
  subst e2
  obtain ⟨u, hu⟩ : ∃ u, l[i]? = some u := ⟨_, List.getElem?_eq_getElem (by omega)⟩
  obtain ⟨v', hv'⟩ : ∃ v, l[i + 1]? = some v := ⟨_, List.getElem?_eq_getElem (by omega)⟩
  have hvr := (M.isOrd_iff.1 ho.out).2.2 v' (List.mem_of_getElem? hv')
  obtain ⟨v, rfl⟩ := Int.eq_ofNat_of_zero_le hvr.1
  have hvn : v < n := by omega
  have hv0 : (0 : Int) ≤ (v : Int) := by omega
  have hvi : (v : Int) < (n : Int) := by omega
  have hi0 : (0 : Int) ≤ (i : Int) := by omega
  have hi1 : (i : Int) < (n : Int) := by omega
  have hi2 : (i : Int) + 1 < (n : Int) := by omega
  have hi3 : (0 : Int) ≤ (i : Int) + 1 := by omega
  have hwrap : IntKind.i64.wrap ((i : Int) + 1) = (i : Int) + 1 := IntWalk.i64_in _ (by omega)
  have hton : ((i : Int) + 1).toNat = i + 1 := by omega
  have q1 := hcs i u hu
  have q2 := hcs (i + 1) _ hv'
  have hfr : Hid (M.freeAt (M.parents xs) l i = (M.parOf (M.parents xs) (v : Int) != u)) := by show _ = _; rw [M.freeAt, hu, hv']; rfl
  clear hu hv' hvr hcs hxl
  have hB0 := Lib.hid (bal (b0 w) (.cells #[.slice A n c] 28))
  obtain ⟨W, hW⟩ : ∃ W, W = w.alloc (.cells #[.slice A n c] 28) := ⟨_, rfl⟩
  have d0 : W.cell? ⟨w.heap.size, 0, none⟩ = some (.slice A n c) := by rw [hW]; simp [go_sem]
  have H1 := Lib.hid (h.out.al (.cells #[.slice A n c] 28))
  have g1 : W.cell? ⟨b, off + i, none⟩ = some (.int .i64 u) := by rw [hW]; exact cellOf_al q1 _
  have g2 : W.cell? ⟨b, off + (i + 1), none⟩ = some (.int .i64 (v : Int)) := by rw [hW]; exact cellOf_al q2 _
  rw [← hW] at hB0 H1
  have hP : ∀ X, Hid (Below W.heap.size W X) → Calls Try.prog 89 #[.agg #[.slice A n c]] X fun e w' => ∃ pb po c' p, e = .returned (.slice (some ⟨pb, po, none⟩) n c') ∧ w'.cell? ⟨pb, po + v, none⟩ = some (.int .i64 p) ∧ Hid (M.parOf (M.parents xs) (v : Int) = p) ∧ Hid (Below W.heap.size W w') := fun X hX => by
    have := l01Parents A xs c X ht (H1.out.be hX.out)
    rw [hn.out] at this
    refine this.mono fun e w' ⟨A', c', ps, he, hk, ho, hb⟩ => ?_
    have hpar := M.parents_of ht.out hk.out
    rw [hn.out] at hpar
    obtain ⟨pb, po, p, e5, hpb, g3, hX3⟩ := (ints_of_own64 ho).at_ (k := v) (by rw [hk.out.1, hn.out]; exact hvn)
    have hpp : Hid (M.parOf (M.parents xs) (v : Int) = p) := by
      show _ = _
      rw [M.parents_eq ht.out hk.out]
      have := M.par_at hpar hvn
      rw [hX3.out] at this
      injection this with this
      exact this.symm
    exact ⟨pb, po, c', p, by rw [he, e5], g3, hpp, btr hX.out hb⟩
  have HP := Lib.hid hP
  clear hP h h2 q1 q2
  go_enter Try.func80, Try.ntmps80
  go_wp2_with fail
  rw [← hW]
  clear hW
  have K0 : Hid (Below W.heap.size W W.drew) := (Below.refl _ _).drew
  have e0 : W.drew.cell? ⟨w.heap.size, 0, none⟩ = some (.slice A n c) := d0
  have k1 : W.drew.cell? ⟨b, off + i, none⟩ = some (.int .i64 u) := g1
  have k2 : W.drew.cell? ⟨b, off + (i + 1), none⟩ = some (.int .i64 (v : Int)) := g2
  refine wp_region_held_drew (S := (fun w' => w'.cell? ⟨w.heap.size, 0, none⟩ = some (.slice A n c) ∧ w'.cell? ⟨b, off + i, none⟩ = some (.int .i64 u) ∧ w'.cell? ⟨b, off + (i + 1), none⟩ = some (.int .i64 (v : Int)) ∧ Hid (Below W.heap.size W w'))) (by kernel_rfl) (by exact ⟨e0, k1, k2, K0⟩) (fun hHeld0 => ?_)
  refine anyTake 0 (some 7) (.agg #[.slice A n c]) rfl rfl (by kernel_rfl) (by kernel_rfl) (by kernel_rfl) (fun _ _ _ h => h) (by rfl) (by intro w hSw; (try dsimp only at hSw); go_simp) (by assumption) ?_
  try simp only [Act.put, List.setIfInBounds_toArray, List.set_cons_zero, List.set_cons_succ]
  refine anyTake 2 (some 9) (.slice (some ⟨b, off, none⟩) n c2) rfl rfl (by kernel_rfl) (by kernel_rfl) (by kernel_rfl) (fun _ _ _ h => h) (by rfl) (by intro w hSw; (try dsimp only at hSw); go_simp) (by assumption) ?_
  try simp only [Act.put, List.setIfInBounds_toArray, List.set_cons_zero, List.set_cons_succ]
  refine anyTake 3 (some 10) (.int .i64 (i : Int)) rfl rfl (by kernel_rfl) (by kernel_rfl) (by kernel_rfl) (fun _ _ _ h => h) (by rfl) (by intro w hSw; (try dsimp only at hSw); go_simp) (by assumption) ?_
  try simp only [Act.put, List.setIfInBounds_toArray, List.set_cons_zero, List.set_cons_succ]
  refine anyTake 4 (some 11) (.int .i64 ((i : Int) + 1)) rfl rfl (by kernel_rfl) (by kernel_rfl) (by kernel_rfl) (fun _ _ _ h => h) (by rfl) (by intro w hSw; (try dsimp only at hSw); go_simp) (by assumption) ?_
  try simp only [Act.put, List.setIfInBounds_toArray, List.set_cons_zero, List.set_cons_succ]
  refine anyTake 5 (some 12) (.pointer (some ⟨b, off + (i + 1), none⟩)) rfl rfl (by kernel_rfl) (by kernel_rfl) (by kernel_rfl) (fun _ _ _ h => h) (by rfl) (by intro w hSw; (try dsimp only at hSw); go_simp) (by assumption) ?_
  try simp only [Act.put, List.setIfInBounds_toArray, List.set_cons_zero, List.set_cons_succ]
  refine anyTake 6 (some 13) (.int .i64 (v : Int)) rfl rfl (by kernel_rfl) (by kernel_rfl) (by kernel_rfl) (fun _ _ _ h => h) (by rfl) (by intro w hSw; (try dsimp only at hSw); go_simp) (by assumption) ?_
  try simp only [Act.put, List.setIfInBounds_toArray, List.set_cons_zero, List.set_cons_succ]
  refine anyTake 9 (some 16) (.slice (some ⟨b, off, none⟩) n c2) rfl rfl (by kernel_rfl) (by kernel_rfl) (by kernel_rfl) (fun _ _ _ h => h) (by rfl) (by intro w hSw; (try dsimp only at hSw); go_simp) (by assumption) ?_
  try simp only [Act.put, List.setIfInBounds_toArray, List.set_cons_zero, List.set_cons_succ]
  refine anyTake 10 (some 17) (.int .i64 (i : Int)) rfl rfl (by kernel_rfl) (by kernel_rfl) (by kernel_rfl) (fun _ _ _ h => h) (by rfl) (by intro w hSw; (try dsimp only at hSw); go_simp) (by assumption) ?_
  try simp only [Act.put, List.setIfInBounds_toArray, List.set_cons_zero, List.set_cons_succ]
  refine anyTake 11 (some 18) (.pointer (some ⟨b, off + i, none⟩)) rfl rfl (by kernel_rfl) (by kernel_rfl) (by kernel_rfl) (fun _ _ _ h => h) (by rfl) (by intro w hSw; (try dsimp only at hSw); go_simp) (by assumption) ?_
  try simp only [Act.put, List.setIfInBounds_toArray, List.set_cons_zero, List.set_cons_succ]
  refine anyTake 12 (some 19) (.int .i64 u) rfl rfl (by kernel_rfl) (by kernel_rfl) (by kernel_rfl) (fun _ _ _ h => h) (by rfl) (by intro w hSw; (try dsimp only at hSw); go_simp) (by assumption) ?_
  try simp only [Act.put, List.setIfInBounds_toArray, List.set_cons_zero, List.set_cons_succ]
  refine wpAnyH_ready (rs := [1]) (by kernel_rfl) (by simp) ?_
  refine AllReadyH.cons rfl (fun K hK => ?_) AllReadyH.nil
  go_simp
  go_at_call 89
  refine (HP.out _ (by exact hHeld0.2.2.2)).mono ?_
  rintro e w5 ⟨pb, po, c5, p, rfl, g5, hpp, hb5⟩
  go_wp2_with fail
  refine hK.out _ _ (by exact ⟨cellOf_be d0 (Hid.out hb5), cellOf_be g1 (Hid.out hb5), cellOf_be g2 (Hid.out hb5), hb5⟩) (fun hHeld => ?_)
  clear hK K
  try simp only [Act.put, List.setIfInBounds_toArray, List.set_cons_zero, List.set_cons_succ]
  clear hHeld0
  have hHeld0 := hHeld
  clear hHeld
  refine anyTake 7 (some 14) (.pointer (some ⟨pb, po + v, none⟩)) rfl rfl (by kernel_rfl) (by kernel_rfl) (by kernel_rfl) (fun _ _ _ h => h) (by rfl) (by intro w hSw; (try dsimp only at hSw); go_simp) (by assumption) ?_
  try simp only [Act.put, List.setIfInBounds_toArray, List.set_cons_zero, List.set_cons_succ]
  refine wpAnyH_ready (rs := [8]) (by kernel_rfl) (by simp) ?_
  refine AllReadyH.cons rfl (fun K hK => ?_) AllReadyH.nil
  go_simp
  refine hK.out _ _ (by exact ⟨cellOf_be d0 (Hid.out hb5), cellOf_be g1 (Hid.out hb5), cellOf_be g2 (Hid.out hb5), hb5⟩) (fun hHeld => ?_)
  clear hK K
  try simp only [Act.put, List.setIfInBounds_toArray, List.set_cons_zero, List.set_cons_succ]
  clear hHeld0
  have hHeld0 := hHeld
  clear hHeld
  refine anyTake 13 (some 20) (.bool (p != u)) rfl rfl (by kernel_rfl) (by kernel_rfl) (by kernel_rfl) (fun _ _ _ h => h) (by rfl) (by intro w hSw; (try dsimp only at hSw); go_simp) (by assumption) ?_
  try simp only [Act.put, List.setIfInBounds_toArray, List.set_cons_zero, List.set_cons_succ]
  refine anyTake 14 (some 6) (.bool (p != u)) rfl rfl (by kernel_rfl) (by kernel_rfl) (by kernel_rfl) (fun _ _ _ h => h) (by rfl) (by intro w hSw; (try dsimp only at hSw); go_simp) (by assumption) ?_
  try simp only [Act.put, List.setIfInBounds_toArray, List.set_cons_zero, List.set_cons_succ]
  refine wpAnyH_done (by kernel_rfl) ?_ _
  have hB5 := Lib.hid (btr hB0.out hb5.out)
  go_wp2
  go_ret
  exact ⟨by rw [hfr.out, hpp.out]; rfl, hB5.out⟩
end Go.Proofs.Ytgnhmhfianmckaa
