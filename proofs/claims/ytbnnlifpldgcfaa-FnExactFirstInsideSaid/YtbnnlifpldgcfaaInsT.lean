/- IsInsideBy, the model's. -/
import Derived.Test.YtbnnlifpldgcfaaInsS
namespace Go.Proofs.Ytbnnlifpldgcfaa
open Go.RowKit

theorem tks_succ {xs ys : List Int} {k : Nat} {x : Int} (h : xs.take k = ys.take k) (hx : xs[k]? = some x) (hy : ys[k]? = some x) : xs.take (k + 1) = ys.take (k + 1) := by rw [List.take_add_one, List.take_add_one, h, hx, hy]

set_option maxHeartbeats 4000000 in
set_option maxRecDepth 100000 in
theorem l01Same (A B : Option Addr) (xs ys : List Int) (n m c d : Nat) (w : World) (hn : Hid (xs.length = n)) (hm : Hid (ys.length = m)) (hn' : n ≤ 1048576) (_hm' : m ≤ 1048576) (hA : Hid (Ints w w.heap.size A xs)) (hB : Hid (Ints w w.heap.size B ys)) :
    Calls Try.prog 104 #[.agg #[.slice A n c], .agg #[.slice B m d]] w fun e w' => e = .returned (.bool (xs == ys)) ∧ Hid (Below w.heap.size w w') := by
  obtain ⟨W0, hW0⟩ : ∃ W0, (w.alloc (.cells #[.slice A n c] 24)).alloc (.cells #[.slice B m d] 24) = W0 := ⟨_, rfl⟩
  have cT : W0.cell? ⟨w.heap.size, 0, none⟩ = some (.slice A n c) := by rw [← hW0]; exact cell_al (by simp) _
  have cU : W0.cell? ⟨w.heap.size + 1, 0, none⟩ = some (.slice B m d) := by rw [← hW0]; simp [go_sem]
  have hB0 : Hid (Below w.heap.size w W0) := by rw [← hW0]; exact bal (bal (b0 w) _) _
  have hI1 : Hid (Ints W0 W0.heap.size A xs) := hA.out.be hB0.out
  have hI2 : Hid (Ints W0 W0.heap.size B ys) := hB.out.be hB0.out
  have HW := Lib.hid hW0
  obtain ⟨R, hR⟩ : ∃ R, Hid ((xs == ys) = R) := ⟨_, rfl⟩
  rw [hR.out]
  clear hW0 hA hB
  by_cases hnm : n = m
  · have hne : ((n : Int) != (m : Int)) = false := by rw [hnm]; simp
    have Hnm := Lib.hid hnm
    clear hnm
    go_enter Try.func104, Try.ntmps104
    go_wp2
    rw [HW.out]
    go_wp2
    go_loopw [5] (fun qi wr => ∃ (k q : Nat), k ≤ n ∧ qi = .int .i64 (k : Int) ∧ wr = W0.drewN q ∧ Hid (xs.take k = ys.take k)) (fun qi _ => n - (intOf qi).toNat)
    case atStart => exact ⟨0, 0, Nat.zero_le _, rfl, rfl, by simp [Hid]⟩
    case round =>
      obtain ⟨k, q, hk, rfl, rfl, hT⟩ := hrel
      by_cases hlt : k < n
      · have hki : (k : Int) < (n : Int) := by omega
        have hk0 : (0 : Int) ≤ (k : Int) := by omega
        have hkm : (k : Int) < (m : Int) := by have := Hnm.out; omega
        have hx : xs[k]? = some (xs[k]'(by rw [hn.out]; exact hlt)) := List.getElem?_eq_getElem _
        have hy : ys[k]? = some (ys[k]'(by rw [hm.out]; have := Hnm.out; omega)) := List.getElem?_eq_getElem _
        generalize xs[k]'(by rw [hn.out]; exact hlt) = x at hx
        generalize ys[k]'(by rw [hm.out]; have := Hnm.out; omega) = y at hy
        obtain ⟨b, off, rfl, _, hc⟩ := hI1.out (by rw [hn.out]; omega)
        obtain ⟨b2, off2, rfl, _, hc2⟩ := hI2.out (by rw [hm.out]; have := Hnm.out; omega)
        have c1 := hc k x hx
        have c2 := hc2 k y hy
        by_cases hxy : x = y
        · subst hxy
          have e0 : (x != x) = false := by simp
          have hT2 := Lib.hid (tks_succ hT.out hx hy)
          clear hc hc2 hI1 hI2 hx hy hT
          go_wp2
          go_quiet (fail)
          go_wp2
          go_roundw
          case rel => exact ⟨k + 1, q + nq, by omega, by go_num, rfl, hT2⟩
          case measure => simp [intOf]; omega
        · have e0 : (x != y) = true := bne_iff_ne.2 hxy
          have hR0 : R = false := by
            rw [← hR.out]
            refine beq_eq_false_iff_ne.2 fun e => hxy ?_
            rw [e, hy] at hx
            injection hx with hx
            exact hx.symm
          clear hc hc2 hI1 hI2 hx hy hT hxy
          go_wp2
          go_quiet (fail)
          go_wp2
          go_ret
          exact ⟨by rw [hR0]; rfl, Lib.hid (below_drewN (below_drewN hB0.out _) _)⟩
      · obtain rfl : k = n := by omega
        have hR1 : R = true := by
          rw [← hR.out, beq_iff_eq]
          have := hT.out
          rwa [List.take_of_length_le (by rw [hn.out]; exact Nat.le_refl _), List.take_of_length_le (by rw [hm.out]; have := Hnm.out; omega)] at this
        clear hI1 hI2
        go_wp2
        go_ret
        exact ⟨by rw [hR1]; rfl, Lib.hid (below_drewN hB0.out _)⟩
  · have hne : ((n : Int) != (m : Int)) = true := bne_iff_ne.2 (by omega)
    have hR0 : R = false := by
      rw [← hR.out]
      refine beq_eq_false_iff_ne.2 fun e => hnm ?_
      rw [← hn.out, ← hm.out, e]
    clear hI1 hI2 hR hnm
    go_enter Try.func104, Try.ntmps104
    go_wp2
    rw [HW.out]
    go_wp2
    go_ret
    exact ⟨by rw [hR0]; rfl, hB0⟩

set_option maxHeartbeats 2000000 in
set_option maxRecDepth 100000 in
theorem l04Inside (A B C : Option Addr) (xs us vs : List Int) (c d n e : Nat) (w : World) (hx : xs.length ≤ 1000000) (hu : Hid (M.isTree us = true)) (hn : Hid (vs.length = n)) (hn24 : n ≤ 24) (hne : n ≤ e) (hl : Hid (vs.length = xs.length)) (hg : Hid (M.goodTo vs us.length vs.length = true)) (hA : Hid (Ints w w.heap.size A xs)) (hB : Hid (Ints w w.heap.size B us)) (hC : Hid (Ints w w.heap.size C vs)) :
    Calls Try.prog 95 #[.agg #[.slice A xs.length c], .agg #[.slice B us.length d], .slice C n e] w fun en w' => en = .returned (.bool (inB us vs xs)) ∧ Hid (Below w.heap.size w w') := by
  obtain ⟨W0, hW0⟩ : ∃ W0, (w.alloc (.cells #[.slice A xs.length c] 24)).alloc (.cells #[.slice B us.length d] 24) = W0 := ⟨_, rfl⟩
  have cT : W0.cell? ⟨w.heap.size, 0, none⟩ = some (.slice A xs.length c) := by rw [← hW0]; exact cell_al (by simp) _
  have cU : W0.cell? ⟨w.heap.size + 1, 0, none⟩ = some (.slice B us.length d) := by rw [← hW0]; simp [go_sem]
  have hB0 : Hid (Below w.heap.size w W0) := by rw [← hW0]; exact bal (bal (b0 w) _) _
  have hLf := Lib.hid (l04Left B C us vs d n e W0 hu hn hn24 hne hg (Lib.hid (hB.out.be hB0.out)) (Lib.hid (hC.out.be hB0.out)))
  have hSm : Hid (∀ A' m' c' W, Below w.heap.size w W → m' = n → Ints W W.heap.size A' (M.degs us (nodeF vs) n) → Calls Try.prog 104 #[.agg #[.slice A' m' c'], .agg #[.slice A xs.length c]] W fun e w' => e = .returned (.bool (M.degs us (nodeF vs) n == xs)) ∧ Hid (Below W.heap.size W w')) := fun A' m' c' W hb hm hI => by
    subst hm
    exact l01Same A' A (M.degs us (nodeF vs) m') xs m' xs.length c' c W (Lib.hid (M.degs_len _ _ _)) rfl (by omega) (by omega) (Lib.hid hI) (Lib.hid (hA.out.be hb))
  have hin : Hid (inB us vs xs = (leftOk us vs && (M.degs us (nodeF vs) n == xs))) := by show _ = _; rw [inB_left hl.out, hn.out]
  rw [hin.out]
  have HW := Lib.hid hW0
  generalize leftOk us vs = R at *
  generalize M.degs us (nodeF vs) n = D at *
  clear hW0 hA hB hC hin hg
  go_enter Try.func95, Try.ntmps95
  go_wp2_with fail
  rw [HW.out]
  refine hLf.out.mono ?_
  rintro en w1 ⟨A', m', c', rfl, hYes, hb1⟩
  have cT1 := cell_al (cell_be cT hb1.out) (.cells #[.slice A' m' c'] 24)
  have hB1 := Lib.hid (bal (btr hB0.out hb1.out) (.cells #[.slice A' m' c'] 24))
  cases R
  · clear hSm hYes hb1 hLf
    go_wp2
    go_ret
    exact ⟨rfl, hB1⟩
  · obtain ⟨hm, hI⟩ := hYes.out rfl
    have hS := Lib.hid (hSm.out A' m' c' _ hB1.out hm (hI.al (.cells #[.slice A' m' c'] 24)))
    clear hSm hYes hb1 hI hLf hm
    go_wp2_with fail
    refine hS.out.mono ?_
    rintro en w2 ⟨rfl, hb2⟩
    have hB2 := Lib.hid (btr hB1.out hb2.out)
    go_wp2
    go_ret
    exact ⟨rfl, hB2⟩
end Go.Proofs.Ytbnnlifpldgcfaa
