/- l06States: the states of a tree's nodes, the model's. -/
import Derived.Test.YtcipafjibkclcaaStates
import Derived.Test.YtcipafjibkclcaaFnIsAutomaton
import Derived.Test.YtcipafjibkclcaaKids
import Derived.BigRegion
namespace Go.Proofs.Ytcipafjibkclcaa
open Go.RowKit

/-- the step's cells -/
theorem step_cells {w : World} {st : Int} {As : Option Addr} {Ss : List (List Int)} {gs : List Int} {m : Nat} (hA : M.IsA st Ss gs m) (hR : RowsL w As Ss) {s c : Nat} (hs : s < m) (hc : c < m) :
    ∃ b off b1 off1 c1 x, As = some ⟨b, off, none⟩ ∧ b < w.heap.size ∧ b1 < w.heap.size ∧ w.cell? ⟨b, off + s, none⟩ = some (.slice (some ⟨b1, off1, none⟩) m c1) ∧ w.cell? ⟨b1, off1 + c, none⟩ = some (.int .i64 (x : Int)) ∧ M.stp Ss s c = x ∧ 0 ≤ x ∧ x < (m : Int) := by
  obtain ⟨r, h1, h2, h3, h4, h5⟩ := M.stp_at hA hs hc
  have hl := hA.len
  obtain ⟨b, off, rfl, hlt, hk⟩ := hR (by omega)
  obtain ⟨A', c', k1, _, k2⟩ := hk s r h1
  obtain ⟨b1, off1, rfl, hlt1, hk1⟩ := k2 (by omega)
  rw [h2] at k1
  exact ⟨b, off, b1, off1, c', M.stp Ss s c, rfl, hlt, hlt1, k1, hk1 c _ h3, rfl, h4, h5⟩

set_option maxRecDepth 100000 in
set_option maxHeartbeats 4000000 in
theorem l06States (st : Int) (As Ag : Option Addr) (Ss : List (List Int)) (gs : List Int) (m cm g cg : Nat) (A : Option Addr) (xs : List Int) (c : Nat) (w : World) (hA : Hid (M.IsA st Ss gs m)) (hR : Hid (RowsL w As Ss)) (ht : Hid (M.isTree xs = true)) (hI : Hid (Ints w w.heap.size A xs)) :
    Calls Try.prog 74 #[.agg #[.int .i64 st, .slice As m cm, .slice Ag g cg], .agg #[.slice A xs.length c]] w fun e w' => ∃ g', e = .returned (.slice (some ⟨g', 0, none⟩) xs.length xs.length) ∧ Own64 w' w.heap.size (.slice (some ⟨g', 0, none⟩) xs.length xs.length) (M.states Ss st xs) ∧ Hid (Below w.heap.size w w') := by
  have hx := (M.tree_len ht.out).2
  have hx1 := (M.tree_len ht.out).1
  have hm9 := hA.out.le
  have hst0 := hA.out.st0
  have hst1 := hA.out.st1
  obtain ⟨n, hn⟩ : ∃ n, Hid (xs.length = n) := ⟨_, rfl⟩
  have hn24 : n ≤ 24 := by have := hn.out; omega
  have hmk := run_make_row' (P := Try.prog) 22 2 (.int .i64 0) 8 Try.underlying22 info64 rfl .i64 .i64 n (by have := hn.out; omega) (by have := hn.out; omega)
  obtain ⟨W, hW⟩ : ∃ W, W = ((w.alloc (.cells #[.int .i64 st, .slice As m cm, .slice Ag g cg] 40)).alloc (.cells #[.slice A xs.length c] 28)) := ⟨_, rfl⟩
  have hBW : Hid (Below w.heap.size w W) := by subst hW; exact bal (bal (b0 w) _) _
  have C1 : Hid (BoxA W w.heap.size st As m cm Ag g cg) := by subst hW; exact (BoxA.new _ _ _ _ _ _ _ _ _).al _
  have C2 : Hid (W.cell? ⟨w.heap.size + 1, 0, none⟩ = some (.slice A xs.length c)) := by subst hW; exact World.cell?_alloc_at _ _ _ _ (by simp)
  have HN := Lib.hid (l01N A xs.length c W)
  have HW := Lib.hid hW
  clear hW
  rw [hn.out] at C2 HN HW ⊢
  go_enter Try.func74, Try.ntmps74
  go_wp2_with fail
  rw [← HW.out]
  refine HN.out.mono ?_
  rintro e w1 ⟨rfl, hb1⟩
  have hB1 := Lib.hid (btr hBW.out hb1)
  have hst := Lib.hid (own64_made (w := w1) (B := w1.heap.size) (n := n) (Nat.le_refl _) (by have := hn.out; unfold maxLen; omega))
  have z1 := hb1.size
  have zW := hBW.out.size
  have C1' := Lib.hid (C1.out.be hb1)
  have C2' := Lib.hid (cell_be C2.out hb1)
  have w0 : IntKind.i64.wrap ((n : Int) - 1) = (n : Int) - 1 := IntWalk.i64_in _ (by have := hn.out; omega)
  clear hb1
  go_wp2
  clear hmk
  go_loopw [7] (fun i wr => ∃ k : Nat, k ≤ n ∧ i = .int .i64 ((n : Int) - 1 - (k : Int)) ∧ Hid (Own64 wr w1.heap.size (.slice (some ⟨w1.heap.size, 0, none⟩) n n) (M.rowOf n (M.stF Ss st xs k))) ∧ Hid (Below w1.heap.size w1 wr)) (fun i _ => (intOf i + 1).toNat)
  case atStart => exact ⟨0, Nat.zero_le _, by simp, by have := hst.out; rw [← M.rowOf_zero] at this; exact this, bal (b0 w1) _⟩
  case round =>
    obtain ⟨k, hk, rfl, ho, hb⟩ := hrel
    clear hst w0
    by_cases hlt : k < n
    · obtain ⟨v, hv⟩ : ∃ v : Nat, k + 1 + v = n := ⟨n - 1 - k, by omega⟩
      have hv2 : (n : Int) - 1 - (k : Int) = (v : Int) := by omega
      have hv0 : (0 : Int) ≤ (v : Int) := by omega
      have hvn : (v : Int) < (n : Int) := by omega
      obtain ⟨d, hd, hd24⟩ := M.tree_degN ht.out (v := v) (by have := hn.out; omega)
      have Hd := Lib.hid hd
      have hbw := Lib.hid (btr hB1.out hb.out)
      obtain ⟨a0, a1, a2⟩ := C1'.out.be hb.out
      have t0 := cell_be C2'.out hb.out
      have HK := Lib.hid (l01Children A xs c v d wr (by omega) ht Hd (hI.out.be hbw.out))
      rw [hn.out] at HK
      have hzr := hb.out.size
      obtain ⟨zr, hzz⟩ : ∃ z, Hid (wr.heap.size = z) := ⟨_, rfl⟩
      rw [hv2]
      clear hd
      go_wp2_with fail
      refine HK.out.mono ?_
      rintro e w3 ⟨Ac, cc, rfl, oc, hb3⟩
      have z3 := hb3.size
      have hbw3 := Lib.hid (btr hbw.out hb3)
      have hb13 := Lib.hid (hb.out.trans (hb3.mono hzr))
      have ho3 := Lib.hid (own_be ho.out hb3)
      have hl3 : (M.rowOf n (M.stF Ss st xs k)).length = n := M.rowOf_len _ _
      obtain ⟨a0', a1', a2'⟩ := C1'.out.be hb13.out
      obtain ⟨y, hy⟩ : ∃ y, (M.rowOf n (M.stF Ss st xs k))[v]? = some y := ⟨_, List.getElem?_eq_getElem (by rw [hl3]; omega)⟩
      obtain ⟨d1, d2, _, _⟩ := own64_cell ho3.out hl3 hy
      have ho4 := own64_set ho3.out hl3 v st
      have hms := M.mid_zero Ss st xs k v
      rw [hn.out] at hms
      rw [hms] at ho4
      have Ho4 := Lib.hid ho4
      have Oc := Lib.hid oc
      have Hb4 : Hid (Below w1.heap.size w1 (w3.setCell ⟨w1.heap.size, v, none⟩ (.int .i64 st))) := below_setCell hb13.out (Nat.le_refl _) _
      have Oc4 : Hid (Own64 (w3.setCell ⟨w1.heap.size, v, none⟩ (.int .i64 st)) zr (.slice Ac d cc) (M.childs xs v d)) := by rw [← hzz.out]; exact own_far oc (by have := (World.ownsRow.lt ho.out w1.heap.size rfl).2; omega) _
      have hw1r : w1.heap.size < zr := by rw [← hzz.out]; exact (World.ownsRow.lt ho.out w1.heap.size rfl).2
      clear oc hb3 HK ho4 hms hy hl3 ho3 a0 a1 a2 t0 ho hb hbw
      go_wp2
      clear d1 d2 a0' a1' a2'
      go_loopw [9] (fun i wr => ∃ j : Nat, j ≤ d ∧ i = .int .i64 (j : Int) ∧ Hid (Own64 wr w1.heap.size (.slice (some ⟨w1.heap.size, 0, none⟩) n n) (M.rowOf n (M.midF Ss st xs k v j))) ∧ Hid (Below w1.heap.size w1 wr) ∧ Hid (Own64 wr zr (.slice Ac d cc) (M.childs xs v d))) (fun i _ => d - (intOf i).toNat)
      case atStart => exact ⟨0, Nat.zero_le _, rfl, Ho4, Hb4, Oc4⟩
      case round =>
        obtain ⟨j, hj, rfl, ho, hb, hoc⟩ := hrel
        clear Ho4 Hb4 Oc4
        by_cases hjd : j < d
        · have hji : (j : Int) < (d : Int) := by omega
          have hj0 : (0 : Int) ≤ (j : Int) := by omega
          obtain ⟨s, q, e1, e2, hs, hq, e3⟩ := M.mid_at hA.out ht.out (k := k) (v := v) (d := d) (i := j) (by rw [hn.out]; exact hv) Hd.out hjd
          rw [hn.out] at e1 e2
          obtain ⟨gc, rfl⟩ : ∃ gc, Ac = some ⟨gc, 0, none⟩ := by
            rcases hoc.out.2 with ⟨h0, _⟩ | ⟨gg, cap, cur, hvv, _⟩
            · injection h0 with _ e _; omega
            · injection hvv with e; exact ⟨gg, e⟩
          have ul := M.kid_lt ht.out Hd.out (i := j) (by omega)
          rw [hn.out] at ul
          have cc1 := (own64_cell hoc.out (M.childs_length _ _ _) (M.childs_at xs v hjd)).1
          obtain ⟨cs1, cs2, _, _⟩ := own64_cell ho.out (M.rowOf_len _ _) e1
          have cu1 := (own64_cell ho.out (M.rowOf_len _ _) e2).1
          obtain ⟨a0, a1, a2⟩ := C1'.out.be hb.out
          obtain ⟨b, off, b1, off1, c1, x, rfl, hbl, hbl1, f1, f2, hx1, hx2, hx3⟩ := step_cells hA.out (hR.out.be (btr hB1.out hb.out)) hs hq
          have hms := M.mid_step Ss st xs k v j (e3.trans hx1)
          rw [hn.out] at hms
          have ho2 := own64_set ho.out (M.rowOf_len _ _) v x
          rw [hms] at ho2
          have Ho2 := Lib.hid ho2
          have Hb2 : Hid (Below w1.heap.size w1 (wr.setCell ⟨w1.heap.size, v, none⟩ (.int .i64 x))) := below_setCell hb.out (Nat.le_refl _) _
          have Oc2 : Hid (Own64 (wr.setCell ⟨w1.heap.size, v, none⟩ (.int .i64 x)) zr (.slice (some ⟨gc, 0, none⟩) d cc) (M.childs xs v d)) := own_far hoc.out hw1r _
          have hsm : (s : Int) < (m : Int) := by omega
          have hqm : (q : Int) < (m : Int) := by omega
          have hs0 : (0 : Int) ≤ (s : Int) := by omega
          have hq0 : (0 : Int) ≤ (q : Int) := by omega
          generalize M.kidAt xs v j = u at *
          have hu0 : (0 : Int) ≤ (u : Int) := by omega
          have hun : (u : Int) < (n : Int) := by omega
          clear ho2 hms hx1 e1 e2 e3 ho hb hoc hx2 hx3 hbl hbl1
          go_wp2
          go_region
          go_wp2
          go_roundw
          case rel => exact ⟨j + 1, by omega, by go_num, Ho2, Hb2.out.drew, Oc2⟩
          case measure => simp [intOf]; omega
        · obtain rfl : j = d := by omega
          have hge : ¬ (j : Int) < (j : Int) := by omega
          have hme := M.mid_end (Ss := Ss) (st := st) (xs := xs) (k := k) (v := v) (d := j) (by rw [hn.out]; exact hv) Hd.out
          rw [hn.out] at hme
          have ho2 := ho.out
          rw [hme] at ho2
          have Ho2 := Lib.hid ho2
          have w2 : IntKind.i64.wrap ((v : Int) - 1) = (v : Int) - 1 := IntWalk.i64_in _ (by omega)
          have hv3 : (v : Int) - 1 = (n : Int) - 1 - ((k + 1 : Nat) : Int) := by omega
          clear ho2 hme ho hoc
          go_wp2
          go_roundw
          case rel => exact ⟨k + 1, by omega, by go_num, Ho2, hb⟩
          case measure => simp [intOf]; omega
    · obtain rfl : k = n := by omega
      have hv2 : (k : Int) - 1 - (k : Int) = -1 := by omega
      rw [hv2]
      have ho2 : Own64 wr w.heap.size (.slice (some ⟨w1.heap.size, 0, none⟩) k k) (M.states Ss st xs) := by
        rw [M.states, hn.out]
        exact own_mono ho.out (by omega)
      have Ho2 := Lib.hid ho2
      have hB2 := Lib.hid (btr hB1.out hb.out)
      clear ho2 ho hb
      go_wp2
      go_ret
      exact ⟨_, rfl, Ho2.out, hB2⟩
end Go.Proofs.Ytcipafjibkclcaa
