/- allAround: the neighbours of all nodes, a table. -/
import Derived.Test.YtcipafjibkclcaaArr
import Derived.Test.YtcipafjibkclcaaLeastIn
import Derived.Test.YtcipafjibkclcaaParentsIn
import Derived.BigRegion
namespace Go.Proofs.Ytcipafjibkclcaa
open Go.RowKit

set_option maxHeartbeats 8000000 in
set_option maxRecDepth 100000 in
theorem allAround (A : Option Addr) (xs : List Int) (c : Nat) (w : World) (hcl : Hid (xs.length ≤ c ∧ c ≤ 1000000000000)) (ht : Hid (M.isTree xs = true)) (h : Hid (Ints w w.heap.size A xs)) :
    Calls Try.prog 65 #[.slice A xs.length c] w fun e w' => ∃ G, e = .returned (.slice (some ⟨G, 0, none⟩) xs.length xs.length) ∧ Hid (Arr w' w.heap.size w'.heap.size G xs.length (M.aroundOf xs) xs.length) ∧ Hid (Below w.heap.size w w') := by
  have hl := M.tree_len ht.out
  have hmk := run_make_row' (P := Try.prog) 35 22 (.slice none 0 0) 24 Try.underlying35 infoRow rfl .i64 .i64 xs.length (by omega) (by omega)
  have h0 : Hid (Arr (w.alloc (.cells (madeCells #[.slice none 0 0] xs.length) 22)) w.heap.size (w.heap.size + 1) w.heap.size xs.length (M.aroundOf xs) 0) := arr_made _ (Nat.le_refl _) (by unfold maxLen; omega)
  obtain ⟨W0, hW0⟩ : ∃ W0, w.alloc (.cells (madeCells #[.slice none 0 0] xs.length) 22) = W0 := ⟨_, rfl⟩
  have z0 : W0.heap.size = w.heap.size + 1 := by rw [← hW0]; simp
  have hb0 : Hid (Below w.heap.size w W0) := by rw [← hW0]; exact bal (b0 w) _
  obtain ⟨n, hn⟩ : ∃ n, Hid (xs.length = n) := ⟨_, rfl⟩
  have hP : Hid (Calls Try.prog 108 #[.slice A n c] W0 fun e w' => ∃ A' c' ps, e = .returned (.slice A' n c') ∧ Hid (M.ParsOK xs ps) ∧ Hid (Own64 w' W0.heap.size (.slice A' n c') ps) ∧ Hid (Below W0.heap.size W0 w')) := by
    have := (callsIn_wide (n := 5)).1 (parentsIn_in A xs c W0 hcl.out.1 hcl.out.2 ht (h.out.be hb0.out))
    rw [hn.out] at this
    exact this.mono fun e w' ⟨A', c', ps, e1, e2, e3, e4⟩ => ⟨A', c', ps, e1, e2, e3, e4⟩
  have hCh : Hid (∀ (v d : Nat) (W : World), Hid (xs[v]? = some (d : Int)) → Hid (Below w.heap.size w W) → Calls Try.prog 109 #[.slice A n c, .int .i64 v] W fun e w' => ∃ A' c', e = .returned (.slice A' d c') ∧ Hid (Own64 w' W.heap.size (.slice A' d c') (M.childs xs v d)) ∧ Hid (Below W.heap.size W w')) := fun v d W hd hW => by
    have := childrenIn A xs c v d W (by omega) hcl.out.1 (by have := hcl.out.2; omega) ht hd (h.out.be hW.out)
    rw [hn.out] at this
    exact this.mono fun e w' ⟨A', c', e1, e3, e4⟩ => ⟨A', c', e1, e3, e4⟩
  have HW := Lib.hid hW0
  rw [hW0] at h0
  rw [hn.out] at hmk h0 hl HW ⊢
  clear h hW0
  go_enter Try.func65, Try.ntmps65
  go_wp2_with fail
  rw [HW.out]
  refine hP.out.mono ?_
  rintro e w1 ⟨A', c', ps, rfl, hok, ho, hb1⟩
  have hpl : ps.length = n := hok.out.1.trans hn.out
  obtain ⟨gp, rfl⟩ : ∃ g, A' = some ⟨g, 0, none⟩ := by
    rcases ho.out.2 with ⟨h0, _⟩ | ⟨g, cap, cur, hv, _⟩
    · injection h0 with _ e _; omega
    · injection hv with e1; exact ⟨g, e1⟩
  have hB1 := Lib.hid (btr hb0.out hb1.out)
  have HT0 := Lib.hid (h0.out.below (by rw [← z0]; exact hb1.out))
  have Hps : Hid (∀ W' j x, Below w1.heap.size w1 W' → ps[j]? = some x → W'.cell? ⟨gp, j, none⟩ = some (.int .i64 x)) := fun W' j x hW hx => (own64_cell (own_be ho.out hW) hpl hx).1
  have z1 : w.heap.size + 1 ≤ w1.heap.size := by have := hb1.out.size; omega
  have hP1 : Hid (∀ j x, ps[j]? = some x → w1.cell? ⟨gp, j, none⟩ = some (.int .i64 x)) := fun j x hx => Hps.out w1 j x (Below.refl _ _) hx
  have hgp : Hid (gp ≠ w.heap.size ∧ gp < w1.heap.size) := by
    have := World.ownsRow.lt ho.out gp rfl
    exact ⟨by omega, this.2⟩
  clear Hps ho HW hP h0 hb0 hb1 z0 hmk
  go_wp2
  go_loopw [4, 5, 12] (fun _ _ i wr => ∃ (k C : Nat), k ≤ n ∧ i = .int .i64 k ∧ Hid (w1.heap.size ≤ C ∧ C ≤ wr.heap.size) ∧ Hid (Arr wr w.heap.size C w.heap.size n (M.aroundOf xs) k) ∧ Hid (∀ j x, ps[j]? = some x → wr.cell? ⟨gp, j, none⟩ = some (.int .i64 x)) ∧ Hid (Below w.heap.size w wr)) (fun _ _ i _ => n - (intOf i).toNat)
  case atStart => exact ⟨0, w1.heap.size, Nat.zero_le _, rfl, ⟨Nat.le_refl _, Nat.le_refl _⟩, HT0.out.wide z1, hP1, hB1⟩
  case round =>
    obtain ⟨k, C, hk, rfl, hC, hT, hP, hb⟩ := hrel
    clear HT0 hB1 hP1
    by_cases hlt : k < n
    · have hkx : k < xs.length := by rw [hn.out]; exact hlt
      obtain ⟨d, hd, hd24⟩ := M.tree_degN ht.out hkx
      have Hd := Lib.hid hd
      obtain ⟨x, hx⟩ : ∃ x, ps[k]? = some x := ⟨_, List.getElem?_eq_getElem (by omega)⟩
      have cP := hP.out k x hx
      have hkn : (k : Int) < (n : Int) := by omega
      have hk0 : (0 : Int) ≤ (k : Int) := by omega
      have Hx := Lib.hid hx
      clear hd hx
      go_wp2_with fail
      refine (hCh.out k d _ Hd hb).mono ?_
      rintro e w2 ⟨A2, c2, rfl, ho2, hb2⟩
      have zC := hC.out
      have z2 := hb2.out.size
      have hT2 : Hid (Arr w2 w.heap.size wr.heap.size w.heap.size n (M.aroundOf xs) k) := (hT.out.be hb2.out zC.2).wide zC.2
      have hB2 : Hid (Below w.heap.size w w2) := btr hb.out hb2.out
      have hP2 : Hid (∀ j x, ps[j]? = some x → w2.cell? ⟨gp, j, none⟩ = some (.int .i64 x)) := fun j x hx => (hb2.out.cell (p := ⟨gp, j, none⟩) (show gp < wr.heap.size by have := hgp.out.2; omega)).trans (hP.out j x hx)
      obtain ⟨v0, c1⟩ := hT2.out.some_ hlt
      have f1 := hT2.out.frozen k
      obtain ⟨hp1, hp2⟩ := hT2.out.put (.slice A2 d c2) hlt
      have hT3 := Lib.hid hp1
      have ho3 : Hid (Own64 (w2.setCell ⟨w.heap.size, k, none⟩ (.slice A2 d c2)) wr.heap.size (.slice A2 d c2) (M.childs xs k d)) := own_far ho2.out (by omega) _
      have hB3 : Hid (Below w.heap.size w (w2.setCell ⟨w.heap.size, k, none⟩ (.slice A2 d c2))) := below_setCell hB2.out (Nat.le_refl _) _
      have hP3 : Hid (∀ j x, ps[j]? = some x → (w2.setCell ⟨w.heap.size, k, none⟩ (.slice A2 d c2)).cell? ⟨gp, j, none⟩ = some (.int .i64 x)) := fun j x hx => (World.cell?_setCell_far w2 ⟨w.heap.size, k, none⟩ ⟨gp, j, none⟩ _ (fun e => hgp.out.1 e.symm)).trans (hP2.out j x hx)
      have e3 : (w2.setCell ⟨w.heap.size, k, none⟩ (.slice A2 d c2)).heap.size = w2.heap.size := by simp
      clear hp1 hT2 hB2 hP2 hP hT hb ho2 hb2 cP
      rcases Nat.eq_zero_or_pos k with hk00 | hk00
      · subst hk00
        have hr := M.around_root Hd.out
        have hrl : (M.aroundOf xs 0).length = d := by rw [hr, M.childs_length]
        go_wp2
        have hT4 := hT3.out.next hlt (by rw [hrl]; exact hp2) (by rw [hrl, hr]; exact ho3.out) (by omega) (show w.heap.size < wr.heap.size by omega) (by rw [e3]; exact z2)
        go_roundw
        case rel => exact ⟨1, _, by omega, by go_num, ⟨by rw [e3]; omega, Nat.le_refl _⟩, hT4, hP3, hB3⟩
        case measure => simp [intOf]; omega
      · have hkp : (0 : Int) < (k : Int) := by omega
        have hr := Lib.hid (M.around_step ht.out hok.out Hd.out hk00 Hx.out)
        have hrl : Hid ((M.aroundOf xs k).length = d + 1) := by
          show _ = _
          rw [hr.out, List.length_append, M.childs_length]; rfl
        go_wp2_with (at_builtin; refine push64N rfl (.tmp 30) (.tmp 32) rfl (w2.setCell ⟨w.heap.size, k, none⟩ (.slice A2 d c2)) wr.heap.size A2 d c2 (M.childs xs k d) x rfl _ rfl (by simp) ho3 (by omega) (by omega) ?_; intro A4 c4 w4 ho4 hb4; have hT4 : Hid (Arr w4 w.heap.size wr.heap.size w.heap.size n (M.aroundOf xs) k) := hT3.out.below hb4.out; have f4 := hT4.out.frozen k; have hs4 := hT4.out.some_ hlt; obtain ⟨v4, c4'⟩ := hs4)
        obtain ⟨hp4, hp5⟩ := hT4.out.put (.slice A4 (d + 1) c4) hlt
        have z4 := hb4.out.size
        have e4 : (w4.setCell ⟨w.heap.size, k, none⟩ (.slice A4 (d + 1) c4)).heap.size = w4.heap.size := by simp
        rw [e3] at z4
        have ho5 : Own64 (w4.setCell ⟨w.heap.size, k, none⟩ (.slice A4 (d + 1) c4)) wr.heap.size (.slice A4 (M.aroundOf xs k).length c4) (M.aroundOf xs k) := by
          rw [hrl.out, hr.out]
          exact own_far ho4.out (by omega) _
        have hT5 := hp4.next hlt (by rw [hrl.out]; exact hp5) ho5 (by omega) (show w.heap.size < wr.heap.size by omega) (by rw [e4]; omega)
        have hP5 : Hid (∀ j x, ps[j]? = some x → (w4.setCell ⟨w.heap.size, k, none⟩ (.slice A4 (d + 1) c4)).cell? ⟨gp, j, none⟩ = some (.int .i64 x)) := fun j x hx => (World.cell?_setCell_far w4 ⟨w.heap.size, k, none⟩ ⟨gp, j, none⟩ _ (fun e => hgp.out.1 e.symm)).trans ((hb4.out.cell (p := ⟨gp, j, none⟩) (show gp < wr.heap.size by have := hgp.out.2; omega)).trans (hP3.out j x hx))
        have hB5 : Hid (Below w.heap.size w (w4.setCell ⟨w.heap.size, k, none⟩ (.slice A4 (d + 1) c4))) := below_setCell (hB3.out.trans (hb4.out.mono (by omega))) (Nat.le_refl _) _
        go_wp2
        go_roundw
        case rel => exact ⟨k + 1, _, by omega, by go_num, ⟨by rw [e4]; omega, Nat.le_refl _⟩, hT5, hP5, hB5⟩
        case measure => simp [intOf]; omega
    · obtain rfl : k = n := by omega
      go_wp2
      go_ret
      refine ⟨_, rfl, ?_, hb⟩
      exact hT.out.wide hC.out.2
end Go.Proofs.Ytcipafjibkclcaa
