/- LeavesOf, the program's and the model's: the leaves of the list of degrees, ascending. -/
import Derived.Test.YtemfaginhipihaaPush
namespace Go.Proofs.Ytemfaginhipihaa
open Go.RowKit

def F_LeavesOf (xs : List Int) : List Int × Int := M.cond xs (M.leaves xs xs.length)
theorem F_LeavesOf_len (xs : List Int) : (F_LeavesOf xs).1.length ≤ 1048576 := by
  cases ht : M.isTree xs
  · simp [F_LeavesOf, M.cond_no ht]
  · have h1 := M.tree_len ht
    have h2 := M.leaves_len xs xs.length
    simp only [F_LeavesOf, M.cond_yes ht]
    omega

set_option maxHeartbeats 2000000 in
theorem spec_LeavesOf : GivesList 24 F_LeavesOf := by
  intro A xs c w hx h
  have hc := specIs A xs c (w.alloc (.cells #[.slice A xs.length c] 26)) (by omega) (h.al _)
  cases ht : M.isTree xs
  · rw [ht] at hc
    have HC := Lib.hid hc
    have hF : F_LeavesOf xs = ([], 1) := M.cond_no ht
    rw [hF]
    clear hc ht hF
    go_enter Try.func24, Try.ntmps24
    go_wp2_with fail
    refine HC.out.mono ?_
    rintro e w1 ⟨rfl, hb⟩
    have hB := btr (bal (b0 w) _) hb
    go_wp2
    go_ret2
    exact ⟨none, 0, rfl, own64_nil _ _, hB⟩
  · rw [ht] at hc
    have HC := Lib.hid hc
    have hF : F_LeavesOf xs = (M.leaves xs xs.length, 0) := M.cond_yes ht
    have hlen := M.tree_len ht
    rw [hF]
    clear hc ht hF
    go_enter Try.func24, Try.ntmps24
    go_wp2_with fail
    refine HC.out.mono ?_
    rintro e w1 ⟨rfl, hb⟩
    have hB := btr (bal (b0 w) _) hb
    have hcell : w1.cell? ⟨w.heap.size, 0, none⟩ = some (.slice A xs.length c) := cell_be (by simp) hb
    have h1 := (h.al _).be hb
    have z1 := hB.size
    have HcellA := Lib.hid hcell
    clear hb h HC
    go_wp2
    go_loopw [4, 5] (fun q i wr => ∃ (k : Nat) (A' : Option Addr) (n c' : Nat), k ≤ xs.length ∧ i = .int .i64 k ∧ q = .slice A' n c' ∧ Hid (Own64 wr w1.heap.size (.slice A' n c') (M.leaves xs k)) ∧ Hid (Below w1.heap.size w1 wr)) (fun _ i _ => xs.length - (intOf i).toNat)
    case atStart => exact ⟨0, _, _, _, Nat.zero_le _, rfl, rfl, own64_empty (Nat.le_refl _), bal (b0 w1) _⟩
    case round =>
      obtain ⟨k, A', n, c', hk, rfl, rfl, ho, hbr⟩ := hrel
      have hcr := cell_be HcellA.out hbr.out
      have hnr : n ≤ 1000000 := by have h1 := own64_len ho.out; have h2 := M.leaves_len xs k; omega
      clear hcell
      by_cases hlt : k < xs.length
      · go_wp2_with fail
        refine (l01N A xs.length c _).mono ?_
        rintro e wn ⟨rfl, hb⟩
        have hbn := Lib.hid (btr hbr.out hb)
        have hon := Lib.hid (own_be ho.out hb)
        have hcn := cell_be HcellA.out hbn.out
        obtain ⟨b, off, x, rfl, hbB, g, hX⟩ := (h1.be hbn.out).at_ hlt
        clear hb ho hbr hcr h1
        by_cases hx0 : x = 0
        · subst hx0
          have hl := Lib.hid (M.leaves_hit hX.out)
          have hB1 := hbn.out.size
          go_wp2_with (at_builtin; refine push64 rfl (.tmp 22) (.tmp 24) rfl wn w1.heap.size A' n c' (M.leaves xs k) k rfl rfl hon hB1 hnr ?_; intro A2 c2 w2 ho2 hb2)
          go_roundw
          case rel => exact ⟨k + 1, A2, _, c2, by omega, by go_num, rfl, own64_eq ho2.out hl.out.symm, hbn.out.trans hb2.out⟩
          case measure => simp [intOf]; omega
        · have hx' : (x == 0) = false := by simp [hx0]
          have hl := Lib.hid (M.leaves_miss hX.out hx0)
          clear hx0
          go_wp2
          go_roundw
          case rel => exact ⟨k + 1, A', n, c', by omega, by go_num, rfl, own64_eq hon.out hl.out.symm, hbn⟩
          case measure => simp [intOf]; omega
      · obtain rfl : k = xs.length := by omega
        go_wp2_with fail
        refine (l01N A xs.length c _).mono ?_
        rintro e wn ⟨rfl, hb⟩
        have hbn := Lib.hid (btr hbr.out hb)
        have hon := Lib.hid (own_be ho.out hb)
        clear hb ho hbr hcr h1
        go_wp2
        go_ret2
        have hn := own64_len hon.out
        subst hn
        exact ⟨A', c', rfl, own_mono hon.out z1, btr hB hbn.out⟩

set_option maxHeartbeats 2000000 in
theorem impl_LeavesOf : GivesList 23 F_LeavesOf := by
  intro A xs c w hx h
  have hc := codeOf0 A xs c (w.alloc (.cells #[.slice A xs.length c] 26)) (by omega) (h.al _) _ rfl
  cases ht : M.isTree xs
  · rw [ht] at hc
    have HC := Lib.hid hc
    have hF : F_LeavesOf xs = ([], 1) := M.cond_no ht
    rw [hF]
    clear hc ht hF
    go_enter Try.func23, Try.ntmps23
    go_wp2_with fail
    refine HC.out.mono ?_
    rintro e w1 ⟨rfl, hb⟩
    have hB := btr (bal (b0 w) _) hb
    go_wp2
    go_ret2
    exact ⟨none, 0, rfl, own64_nil _ _, hB⟩
  · rw [ht] at hc
    have HC := Lib.hid hc
    have hF : F_LeavesOf xs = (M.leaves xs xs.length, 0) := M.cond_yes ht
    have hlen := M.tree_len ht
    rw [hF]
    clear hc ht hF
    go_enter Try.func23, Try.ntmps23
    go_wp2_with fail
    refine HC.out.mono ?_
    rintro e w1 ⟨rfl, hb⟩
    have hB := btr (bal (b0 w) _) hb
    have hcell : w1.cell? ⟨w.heap.size, 0, none⟩ = some (.slice A xs.length c) := cell_be (by simp) hb
    have h1 := (h.al _).be hb
    have z1 := hB.size
    clear hb h HC
    go_wp2
    clear hcell
    go_loopw [5, 16] (fun q i wr => ∃ (k : Nat) (A' : Option Addr) (n c' : Nat), k ≤ xs.length ∧ i = .int .i64 k ∧ q = .slice A' n c' ∧ Hid (Own64 wr w1.heap.size (.slice A' n c') (M.leaves xs k)) ∧ Hid (Below w1.heap.size w1 wr)) (fun _ i _ => xs.length - (intOf i).toNat)
    case atStart => exact ⟨0, none, 0, 0, Nat.zero_le _, rfl, rfl, own64_nil _ _, b0 w1⟩
    case round =>
      obtain ⟨k, A', n, c', hk, rfl, rfl, ho, hbr⟩ := hrel
      have hnr : n ≤ 1000000 := by have h1 := own64_len ho.out; have h2 := M.leaves_len xs k; omega
      by_cases hlt : k < xs.length
      · obtain ⟨b, off, x, rfl, hbB, g, hX⟩ := (h1.be hbr.out).at_ hlt
        clear h1
        have hB1 := hbr.out.size
        by_cases hx0 : x = 0
        · subst hx0
          have hl := Lib.hid (M.leaves_hit hX.out)
          go_wp2_with (at_builtin; refine push64 rfl (.tmp 23) (.tmp 25) rfl wr w1.heap.size A' n c' (M.leaves xs k) k rfl rfl ho hB1 hnr ?_; intro A2 c2 w2 ho2 hb2)
          go_roundw
          case rel => exact ⟨k + 1, A2, _, c2, by omega, by go_num, rfl, own64_eq ho2.out hl.out.symm, hbr.out.trans hb2.out⟩
          case measure => simp [intOf]; omega
        · have hx' : (x == 0) = false := by simp [hx0]
          have hl := Lib.hid (M.leaves_miss hX.out hx0)
          clear hx0
          go_wp2
          go_roundw
          case rel => exact ⟨k + 1, A', n, c', by omega, by go_num, rfl, own64_eq ho.out hl.out.symm, hbr⟩
          case measure => simp [intOf]; omega
      · obtain rfl : k = xs.length := by omega
        clear h1
        go_wp2
        go_ret2
        have hn := own64_len ho.out
        subst hn
        exact ⟨A', c', rfl, own_mono ho.out z1, btr hB hbr.out⟩
end Go.Proofs.Ytemfaginhipihaa
