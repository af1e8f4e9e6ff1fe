/- l05OfDepths: the degrees of the nodes with depths in preorder, and whether there is such a tree, the model's. -/
import Derived.Test.YtbnnlifpldgcfaaDepthsSp
import Derived.OneCell
namespace Go.Proofs.Ytbnnlifpldgcfaa
open Go.RowKit

set_option maxHeartbeats 8000000 in
set_option maxRecDepth 100000 in
theorem l05OfDepths (A : Option Addr) (l : List Int) (n c : Nat) (w : World) (hn : Hid (l.length = n)) (hx : n ≤ 48) (hR : Hid (∀ x ∈ l, -9223372036854775808 ≤ x ∧ x ≤ 9223372036854775807)) (h : Hid (Ints w w.heap.size A l)) :
    Calls Try.prog 51 #[.slice A n c] w fun e w' => ∃ A' m' c', e = .returned (.tuple #[.agg #[.slice A' m' c'], .bool (degB l)]) ∧ DegsQ l w w' A' m' c' := by
  obtain ⟨B, hB⟩ : ∃ B, Hid (degB l = B) := ⟨_, rfl⟩
  rw [hB.out]
  obtain ⟨W0, hW0⟩ : ∃ W0, w.alloc (.cells #[.slice none 0 0] 24) = W0 := ⟨_, rfl⟩
  have hBW : Hid (Below w.heap.size w W0) := by rw [← hW0]; exact bal (b0 w) _
  have hcell : Hid (W0.heap[w.heap.size]? = some (.cells #[.slice none 0 0] 24 (0, 0))) := by rw [← hW0]; exact World.alloc_heap_new w _
  have hz0 : w.heap.size < W0.heap.size := by rw [← hW0]; simp
  have hz1 : W0.heap.size = w.heap.size + 1 := by rw [← hW0]; simp
  have hRes : Hid (∀ W, Below W0.heap.size W0 W → W.cell? ⟨w.heap.size, 0, none⟩ = some (.slice none 0 0) ∧ W.frozen? ⟨w.heap.size, 0, none⟩ = false) := fun W hW => by
    have := (hW.block w.heap.size hz0).trans hcell.out
    exact ⟨cell_of_one this, free_of_one this⟩
  have hI : Hid (∀ W, Below W0.heap.size W0 W → Ints W W.heap.size A l) := fun W hW => h.out.be (btr hBW.out hW)
  have hmk := run_make_row' (P := Try.prog) 22 2 (.int .i64 0) 8 Try.underlying22 info64 rfl .i64 .i64 n (by omega) (by omega)
  have h0 : Hid (Own64 (W0.alloc (.cells (madeCells #[.int .i64 0] n) 2)) W0.heap.size (.slice (some ⟨w.heap.size + 1, 0, none⟩) n n) (M.degTo l n 0)) := by
    have := own64_made (w := W0) (B := W0.heap.size) (n := n) (Nat.le_refl _) (by unfold maxLen; omega)
    rw [hz1] at this ⊢
    exact this
  have hb0 : Hid (Below W0.heap.size W0 (W0.alloc (.cells (madeCells #[.int .i64 0] n) 2))) := bal (b0 W0) _
  have ho0 : Hid (M.okTo l 0 = true) := rfl
  have HW := Lib.hid hW0
  have Hz1 := Lib.hid hz1
  clear hW0 h hcell hz1
  go_enter Try.func51, Try.ntmps51
  go_wp2
  rw [HW.out]
  clear hmk
  go_loopw [5, 6] (fun i _ wr => ∃ (v : Nat), v ≤ n ∧ i = .int .i64 v ∧ Hid (M.okTo l v = true) ∧ Hid (Own64 wr W0.heap.size (.slice (some ⟨w.heap.size + 1, 0, none⟩) n n) (M.degTo l n v)) ∧ Hid (Below W0.heap.size W0 wr)) (fun i _ _ => n - (intOf i).toNat)
  case atStart => exact ⟨0, Nat.zero_le _, rfl, ho0, h0, hb0⟩
  case round =>
    obtain ⟨v, hv, rfl, hok, ho, hb⟩ := hrel
    clear h0 hb0 ho0
    by_cases hlt : v < n
    · obtain ⟨b, off, x, rfl, hbB, g, hX⟩ := (hI.out wr hb.out).at_ (k := v) (by rw [hn.out]; exact hlt)
      have hxr := hR.out x (List.mem_of_getElem? hX.out)
      have hrs := hRes.out wr hb.out
      have hrc := hrs.1
      have hrf := hrs.2
      have hvn : (v : Int) < (n : Int) := by omega
      have hv00 : (0 : Int) ≤ (v : Int) := by omega
      obtain ⟨t, htt⟩ : ∃ t, Hid (M.depOk l v x = t) := ⟨_, rfl⟩
      rcases Nat.eq_zero_or_pos v with hv0 | hv0
      · have hq1 : ((v : Int) == 0) = true := by simp [hv0]
        have hq2 : ¬ (0 : Int) < (v : Int) := by omega
        have hq3 : ¬ 0 < v := by omega
        have htx : (x == 0) = t := by have := htt.out; rw [M.depOk, if_pos hv0] at this; exact this
        have Hv0 := Lib.hid hv0
        clear hv0 hrs
        cases t
        · have hno : Hid (M.okTo l l.length = false) := M.okTo_fail hX.out htt.out
          have hxn : (x != 0) = true := by rw [bne, htx]; rfl
          go_wp2
          go_quiet (fail)
          go_wp2
          have hbf := degB_no (.inl hno.out)
          have e : B = false := hB.out.symm.trans hbf
          refine bodyPost_ret (v := .tuple #[.agg #[.slice none 0 0], .bool false]) (by simp [results, Try.results51, go_sem, hrc]) rfl ?_
          exact ⟨none, 0, 0, by rw [e], (fun e => by rw [hbf] at e; cases e), below_setCell (btr hBW.out (below_drewN hb.out _)) (Nat.le_refl _) _⟩
        · have hxn : (x != 0) = false := by rw [bne, htx]; rfl
          have hok2 := Lib.hid (M.okTo_step hX.out hok.out htt.out)
          have hde : Hid (M.degTo l n (v + 1) = M.degTo l n v) := M.degTo_none hX.out (by rw [Hv0.out]; rfl)
          have hvm : (v : Int) - 1 < 0 := by have := Hv0.out; omega
          go_wp2
          go_quiet (fail)
          go_wp2
          refine wp_loop_rounds 1 ?_
          rw [rounds_succ]
          go_wp2
          go_roundw
          case rel => exact ⟨v + 1, by omega, by go_num, hok2, own64_eq ho.out hde.out.symm, below_drewN hb.out _⟩
          case measure => simp [intOf]; omega
      · obtain ⟨P, hPv⟩ : ∃ P, v = P + 1 := ⟨v - 1, by omega⟩
        obtain ⟨y, hY⟩ : ∃ y, l[P]? = some y := ⟨_, List.getElem?_eq_getElem (by rw [hn.out]; omega)⟩
        have hyb := M.okTo_le hok.out P y (by omega) hY
        obtain ⟨b', off', e', hbB', hcs⟩ := (hI.out wr hb.out) (by rw [hn.out]; omega)
        injection e' with e'
        injection e' with e1 e2
        subst e1
        subst e2
        have gY := hcs P y hY
        have hq1 : ((v : Int) == 0) = false := by simp; omega
        have hq2 : (0 : Int) < (v : Int) := by omega
        have hq3 : 0 < v := by omega
        have hP0 : (0 : Int) ≤ (P : Int) := by omega
        have hPn : (P : Int) < (n : Int) := by omega
        have eP : (v : Int) - 1 = (P : Int) := by omega
        have wP : IntKind.i64.wrap ((v : Int) - 1) = (P : Int) := by rw [eP]; exact IntWalk.i64_in _ (by omega)
        have wy : IntKind.i64.wrap (y + 1) = y + 1 := IntWalk.i64_in _ (by omega)
        have htx : (decide ((1 : Int) ≤ x) && decide (x ≤ y + 1)) = t := by
          have := htt.out
          rw [M.depOk, if_neg (by omega), show v - 1 = P by omega, hY] at this
          exact this
        have Htx := Lib.hid htx
        have Hcs := Lib.hid hcs
        have HPv := Lib.hid hPv
        clear hv0 hrs htx hcs hPv
        cases t
        · have hno : Hid (M.okTo l l.length = false) := M.okTo_fail hX.out htt.out
          go_wp2
          go_quiet (first | (go_at_call 83; exact Calls.quiet_of_same ((inAny _ _ _ _ false Htx).mono fun _ _ ⟨a, b⟩ => ⟨a, b.symm⟩)))
          go_wp2
          have hbf := degB_no (.inl hno.out)
          have e : B = false := hB.out.symm.trans hbf
          refine bodyPost_ret (v := .tuple #[.agg #[.slice none 0 0], .bool false]) (by simp [results, Try.results51, go_sem, hrc]) rfl ?_
          exact ⟨none, 0, 0, by rw [e], (fun e => by rw [hbf] at e; cases e), below_setCell (btr hBW.out (below_drewN hb.out _)) (Nat.le_refl _) _⟩
        · go_wp2
          go_quiet (first | (go_at_call 83; exact Calls.quiet_of_same ((inAny _ _ _ _ true Htx).mono fun _ _ ⟨a, b⟩ => ⟨a, b.symm⟩)))
          go_wp2
          have hx1 := Htx.out
          simp only [Bool.and_eq_true, decide_eq_true_eq] at hx1
          have hok2 := Lib.hid (M.okTo_step hX.out hok.out htt.out)
          have wx : IntKind.i64.wrap (x - 1) = x - 1 := IntWalk.i64_in _ (by omega)
          have hdl : Hid ((M.degTo l n v).length = n) := M.degTo_len _ _ _
          have HI := hI
          clear hq1 hq2 hq3 wP wy gY g hY hyb hbB hbB' hI Hcs eP hP0 hPn hrc hrf
          go_loopw [6] (fun q wq => ∃ k : Nat, k ≤ v ∧ q = .int .i64 ((k : Int) - 1) ∧ Hid (M.lastAt l (x - 1) v = M.lastAt l (x - 1) k) ∧ Hid (Own64 wq W0.heap.size (.slice (some ⟨w.heap.size + 1, 0, none⟩) n n) (M.degTo l n v)) ∧ Hid (Below W0.heap.size W0 wq)) (fun q _ => (intOf q + 1).toNat)
          case atStart => exact ⟨v, Nat.le_refl _, by first | rfl | (have := HPv.out; congr 1; omega), rfl, ho, below_drewN hb.out _⟩
          case round =>
            obtain ⟨k, hk, rfl, hla, ho, hb⟩ := hrel
            cases k with
            | zero =>
              have hde : Hid (M.degTo l n (v + 1) = M.degTo l n v) := M.degTo_none hX.out hla.out
              have hq : ¬ (0 : Int) ≤ ((0 : Nat) : Int) - 1 := by omega
              go_wp2
              go_roundw
              case rel => exact ⟨v + 1, by omega, by go_num, hok2, own64_eq ho.out hde.out.symm, hb⟩
              case measure => simp [intOf]; omega
            | succ j =>
              have e1 : ((j + 1 : Nat) : Int) - 1 = (j : Int) := by omega
              obtain ⟨z, hZ⟩ : ∃ z, l[j]? = some z := ⟨_, List.getElem?_eq_getElem (by rw [hn.out]; omega)⟩
              obtain ⟨b', off', e', hbB', hcs⟩ := (HI.out _ hb.out) (by rw [hn.out]; omega)
              injection e' with e'
              injection e' with e2 e3
              subst e2
              subst e3
              have gz := hcs j z hZ
              have gx := hcs v x hX.out
              have hjn : (j : Int) < (n : Int) := by omega
              have hj0 : (0 : Int) ≤ (j : Int) := by omega
              have wj : IntKind.i64.wrap ((j : Int) - 1) = (j : Int) - 1 := IntWalk.i64_in _ (by omega)
              rw [e1]
              clear hcs
              by_cases hzx : z = x - 1
              · have hq : (z == x - 1) = true := by simp [hzx]
                have hla2 : M.lastAt l (x - 1) v = some j := hla.out.trans (M.lastAt_hit (hzx ▸ hZ))
                have hy : (M.degTo l n v)[j]? = some ((M.degTo l n v)[j]'(by rw [hdl.out]; omega)) := List.getElem?_eq_getElem _
                have hyb := M.degTo_le _ (List.mem_of_getElem? hy)
                have hs := Lib.hid (M.degTo_some hX.out hla2 hy)
                generalize (M.degTo l n v)[j]'(by rw [hdl.out]; omega) = dv at *
                obtain ⟨c1, f1, hg1, _⟩ := own64_cell ho.out hdl.out hy
                have hset := own64_set ho.out hdl.out j (dv + 1)
                rw [← hs.out] at hset
                have Hset := Lib.hid hset
                clear hset hs hy hla2 hla hZ hzx ho
                go_wp2
                go_quiet (fail)
                go_wp2
                go_roundw
                case rel => exact ⟨v + 1, by omega, by go_num, hok2, Hset, below_setCell (below_drewN hb.out _) hg1 _⟩
                case measure => simp [intOf]; omega
              · have hq : (z == x - 1) = false := by simp [hzx]
                have hla2 : Hid (M.lastAt l (x - 1) v = M.lastAt l (x - 1) j) := hla.out.trans (M.lastAt_miss hZ hzx)
                clear hla hZ hzx
                go_wp2
                go_quiet (fail)
                go_wp2
                go_roundw
                case rel => exact ⟨j, by omega, rfl, hla2, ho, below_drewN hb.out _⟩
                case measure => simp [intOf]
    · obtain rfl : v = n := by omega
      have hrs := hRes.out wr hb.out
      have hrc := hrs.1
      have hrf := hrs.2
      have hrow := own64_eq ho.out (show M.degTo l v v = M.degTo l l.length l.length by rw [hn.out])
      have hokl : M.okTo l l.length = true := by rw [hn.out]; exact hok.out
      have Hrow := Lib.hid hrow
      have Hok := Lib.hid hokl
      clear hrow hokl ho hok hrs hI
      rcases Nat.eq_zero_or_pos v with h0 | h0
      · have h1 : ¬ (0 : Int) < (v : Int) := by omega
        have h2 : ¬ 0 < v := by omega
        have hq : Hid (v = 0) := h0
        clear h0
        go_wp2
        have hbf := degB_no (l := l) (.inr (by rw [hn.out, hq.out]))
        have e : B = false := hB.out.symm.trans hbf
        refine bodyPost_ret (v := .tuple #[.agg #[.slice (some ⟨w.heap.size + 1, 0, none⟩) v v], .bool false]) (by simp [results, Try.results51, go_sem, hrc]) rfl ?_
        exact ⟨_, v, v, by rw [e], (fun e => by rw [hbf] at e; cases e), below_setCell (btr hBW.out hb.out) (Nat.le_refl _) _⟩
      · have h1 : (0 : Int) < (v : Int) := by omega
        go_wp2
        have hbt := degB_yes Hok.out (by rw [hn.out]; exact h0)
        have e : B = true := hB.out.symm.trans hbt
        refine bodyPost_ret (v := .tuple #[.agg #[.slice (some ⟨w.heap.size + 1, 0, none⟩) v v], .bool true]) (by simp [results, Try.results51, go_sem, hrc]) rfl ?_
        exact ⟨_, v, v, by rw [e], (fun _ => ⟨hn.out.symm, own_mono (own_far Hrow.out hz0 _) (Nat.le_of_lt hz0)⟩), below_setCell (btr hBW.out hb.out) (Nat.le_refl _) _⟩
end Go.Proofs.Ytbnnlifpldgcfaa
