/- The walk of the law FnExactIsTree: it returns true, and writes into nothing that was there. -/
import Derived.Test.YtemfaginhipihaaIs
import Derived.Deep.RegionWith
namespace Go.Proofs.Ytemfaginhipihaa
open Go.RowKit

set_option maxHeartbeats 1000000 in
theorem lawIsTree (A : Option Addr) (xs : List Int) (c : Nat) (w : World) (hx : xs.length ≤ 9223372036854775807) (h : Ints w w.heap.size A xs) :
    Calls Try.prog 5 #[.agg #[.slice A xs.length c]] w fun e w' => e = .returned (.bool true) ∧ Below w.heap.size w w' := by
  by_cases hs : xs.length ≤ 1048576
  · have hl : Hid ((if (1048576 : Int) - xs.length < 0 then -1 else (1048576 : Int) - xs.length) = 1048576 - xs.length) := if_neg (by omega)
    have hx' : xs.length ≤ 1000000000000 := by omega
    go_enter Try.func5, Try.ntmps5
    go_wp2_with fail
    refine (szTree A xs.length c 1048576 _ hx (by omega) (by omega)).mono ?_
    rintro e w1 ⟨he, hb1⟩
    rw [hl.out] at he
    subst he
    have B1 := btr (bal (b0 w) _) hb1
    have c1 : w1.cell? ⟨w.heap.size, 0, none⟩ = some (.slice A xs.length c) := by rw [(bcell hb1).1 _ _ (by simp)]; simp
    have h1 := h.be B1
    clear hb1
    have z1 : w.heap.size < w1.heap.size := by have := c1; exact World.block_lt_of_cell? _ _ this
    go_wp2_with fail
    refine (toTree A xs c _ hx' h1).mono ?_
    rintro e w2 ⟨g2, rfl, o2, hb2⟩
    have c2 : w2.cell? ⟨w.heap.size, 0, none⟩ = some (.slice A xs.length c) := by rw [(bcell hb2).1 _ _ z1]; exact c1
    have B2 := btr B1 hb2
    have h2 := h.be B2
    have z2 : w.heap.size < w2.heap.size := World.block_lt_of_cell? _ _ c2
    have i2 := (ints_of_own o2).2
    clear hb2
    go_wp2_with fail
    refine (specIsTree _ xs xs.length _ hx' i2).mono ?_
    rintro e w3 ⟨rfl, hb3⟩
    have c3 : w3.cell? ⟨w.heap.size, 0, none⟩ = some (.slice A xs.length c) := by rw [(bcell hb3).1 _ _ z2]; exact c2
    have B3 := btr B2 hb3
    have h3 := h.be B3
    have z3 : w.heap.size < w3.heap.size := World.block_lt_of_cell? _ _ c3
    clear hb3 h1 h2 c1 c2 i2 o2
    go_wp2_with fail
    refine (toTree A xs c _ hx' h3).mono ?_
    rintro e w4 ⟨g4, rfl, o4, hb4⟩
    have c4 : w4.cell? ⟨w.heap.size, 0, none⟩ = some (.slice A xs.length c) := by rw [(bcell hb4).1 _ _ z3]; exact c3
    have B4 := btr B3 hb4
    have h4 := h.be B4
    have z4 : w.heap.size < w4.heap.size := World.block_lt_of_cell? _ _ c4
    have i4 := (ints_of_own o4).2
    clear hb4 h3 c3
    go_wp2_with fail
    refine (implIsTree _ xs xs.length _ hx' (i4.al _)).mono ?_
    rintro e w5 ⟨rfl, hb5⟩
    have B5 := btr (bal B4 _) hb5
    have h5 := h.be B5
    have c5 : w5.cell? ⟨w.heap.size, 0, none⟩ = some (.slice A xs.length c) := by rw [(bcell hb5).1 _ _ (by simp; omega), World.cell?_alloc_past _ _ _ z4]; exact c4
    have d5 : w5.cell? ⟨w4.heap.size, 0, none⟩ = some (.slice (some ⟨g4, 0, none⟩) xs.length xs.length) := by rw [(bcell hb5).1 _ _ (by simp)]; simp
    have z5 : w4.heap.size < w5.heap.size := World.block_lt_of_cell? _ _ d5
    have i5 := (i4.al _).be hb5
    clear hb5 h4 c4 o4 i4
    go_wp2
    have T := toTree A xs c w5.drew hx' h5
    have E : ∀ g6 w6, Own64 w6 w5.drew.heap.size (.slice (some ⟨g6, 0, none⟩) xs.length xs.length) xs → Below w5.drew.heap.size w5.drew w6 →
        Calls Try.prog 76 #[.agg #[.slice (some ⟨g4, 0, none⟩) xs.length xs.length], .agg #[.slice (some ⟨g6, 0, none⟩) xs.length xs.length]] w6 fun e w' => e = .returned (.bool true) ∧ Below w.heap.size w w' := by
      intro g6 w6 o6 hb6
      refine (eqTree _ _ xs xs _ _ w6 (by omega) (i5.be (w := w5.drew) hb6) (ints_of_own o6).2).mono ?_
      rintro e w7 ⟨rfl, hb7⟩
      exact ⟨by simp, btr (btr (B5.drew) hb6) hb7⟩
    have HT := Lib.hid T
    have HE := Lib.hid E
    clear T E h5 i5 B5 B4 B3 B2 B1 h
    go_region_with (first | (go_at_call 75; refine HT.out.mono ?_; rintro e w6 ⟨g6, rfl, o6, hb6⟩; have d6 : w6.cell? ⟨w4.heap.size, 0, none⟩ = some (.slice (some ⟨g4, 0, none⟩) xs.length xs.length) := ((bcell hb6).1 _ _ z5).trans d5) | (go_at_call 76; refine (HE.out _ _ (by assumption) (by assumption)).mono ?_; rintro e w7 ⟨rfl, hb7⟩))
    all_goals go_wp2
    all_goals go_ret
    all_goals exact ⟨rfl, hb7⟩
  · have hl : Hid ((if (1048576 : Int) - xs.length < 0 then -1 else (1048576 : Int) - xs.length) = -1) := if_pos (by omega)
    go_enter Try.func5, Try.ntmps5
    go_wp2_with fail
    refine (szTree A xs.length c 1048576 _ hx (by omega) (by omega)).mono ?_
    rintro e w1 ⟨he, hb1⟩
    rw [hl.out] at he
    subst he
    have B1 := btr (bal (b0 w) _) hb1
    go_wp2
    go_ret
    exact ⟨rfl, B1⟩
end Go.Proofs.Ytemfaginhipihaa
