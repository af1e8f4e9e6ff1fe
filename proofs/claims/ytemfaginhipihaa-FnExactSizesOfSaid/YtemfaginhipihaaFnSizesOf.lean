/- SizesOf, the program's and the model's: the sizes of all subtrees. -/
import Derived.Test.YtemfaginhipihaaEnd
namespace Go.Proofs.Ytemfaginhipihaa
open Go.RowKit

def F_SizesOf (xs : List Int) : List Int × Int := M.cond xs (M.sizes xs xs.length)
theorem F_SizesOf_len (xs : List Int) : (F_SizesOf xs).1.length ≤ 1048576 := by
  cases ht : M.isTree xs
  · simp [F_SizesOf, M.cond_no ht]
  · have h1 := M.tree_len ht
    have h2 := Nat.le_of_eq (M.sizes_len xs xs.length)
    simp only [F_SizesOf, M.cond_yes ht]
    omega

set_option maxHeartbeats 2000000 in
theorem spec_SizesOf : GivesList 18 F_SizesOf := by
  intro A xs c w hx hcc h
  have hc := specIs A xs c (w.alloc (.cells #[.slice A xs.length c] 26)) (by omega) (h.al _)
  cases ht : M.isTree xs
  · rw [ht] at hc
    have HC := Lib.hid hc
    have hF : F_SizesOf xs = ([], 1) := M.cond_no ht
    rw [hF]
    clear hc ht hF
    go_enter Try.func18, Try.ntmps18
    go_wp2_with fail
    refine HC.out.mono ?_
    rintro e w1 ⟨rfl, hb⟩
    have hB := btr (bal (b0 w) _) hb
    go_wp2
    go_ret2
    exact ⟨none, 0, rfl, own64_nil _ _, hB⟩
  · have Ht := Lib.hid ht
    rw [ht] at hc
    have HC := Lib.hid hc
    have hF : F_SizesOf xs = (M.sizes xs xs.length, 0) := M.cond_yes ht
    have hlen := M.tree_len ht
    rw [hF]
    clear hc ht hF
    go_enter Try.func18, Try.ntmps18
    go_wp2_with fail
    refine HC.out.mono ?_
    rintro e w1 ⟨rfl, hb⟩
    have hB := btr (bal (b0 w) _) hb
    have hcell : w1.cell? ⟨w.heap.size, 0, none⟩ = some (.slice A xs.length c) := cell_be (by simp) hb
    have h1 := (h.al _).be hb
    have z1 := hB.size
    have HcellA := Lib.hid hcell
    clear hb h HC
    go_wp2
    go_loopw [4, 5] (fun q i wr => ∃ (k : Nat) (A' : Option Addr) (n c' : Nat), k ≤ xs.length ∧ i = .int .i64 k ∧ q = .slice A' n c' ∧ Hid (Own64 wr w1.heap.size (.slice A' n c') (M.sizes xs k)) ∧ Hid (Below w1.heap.size w1 wr)) (fun _ i _ => xs.length - (intOf i).toNat)
    case atStart => exact ⟨0, _, _, _, Nat.zero_le _, rfl, rfl, own64_empty (Nat.le_refl _), bal (b0 w1) _⟩
    case round =>
      obtain ⟨k, A', n, c', hk, rfl, rfl, ho, hbr⟩ := hrel
      have hcr := cell_be HcellA.out hbr.out
      have hnr : n ≤ 1000000 := by have h1 := own64_len ho.out; have h2 := M.sizes_len xs k; omega
      clear hcell
      by_cases hlt : k < xs.length
      · go_wp2_with fail
        refine (l01N A xs.length c _).mono ?_
        rintro e wn ⟨rfl, hb⟩
        have hbn := Lib.hid (btr hbr.out hb)
        have hon := Lib.hid (own_be ho.out hb)
        have hcn := cell_be HcellA.out hbn.out
        have hkk := Lib.hid (M.tree_ok Ht.out hlt)
        clear hb ho hbr hcr
        obtain ⟨E, hE⟩ : ∃ E, Hid (k + M.span 1 (xs.drop k) = E) := ⟨_, rfl⟩
        have hE1 : E ≤ 48 ∧ k ≤ E := by
          have h1 := M.span_le (xs.drop k) 1
          have h2 : (xs.drop k).length ≤ xs.length := by simp
          have h3 := hE.out
          have h4 := hlen.2
          omega
        obtain ⟨hE2, hE3⟩ := hE1
        have hl : Hid (M.sizes xs (k + 1) = M.sizes xs k ++ [(E : Int) - (k : Int)]) := by
          show _ = _
          rw [M.sizes_succ, ← hE.out]
          congr 2
          omega
        go_wp2_with fail
        refine (l01End A xs c k E _ hE hlen.2 hkk (h1.be hbn.out)).mono ?_
        rintro e we ⟨rfl, hb⟩
        have hbe := Lib.hid (btr hbn.out hb)
        have hoe := Lib.hid (own_be hon.out hb)
        have hB1 := hbe.out.size
        clear hb hon hbn hcn h1 hE hkk
        go_wp2_with (at_builtin; refine push64 rfl (.tmp 16) (.tmp 22) rfl we w1.heap.size A' n c' (M.sizes xs k) ((E : Int) - (k : Int)) rfl rfl hoe hB1 hnr ?_; intro A2 c2 w2 ho2 hb2)
        go_roundw
        case rel => exact ⟨k + 1, A2, _, c2, by omega, by go_num, rfl, own64_eq ho2.out hl.out.symm, hbe.out.trans hb2.out⟩
        case measure => simp [intOf]; omega
      · obtain rfl : k = xs.length := by omega
        go_wp2_with fail
        refine (l01N A xs.length c _).mono ?_
        rintro e wn ⟨rfl, hb⟩
        have hbn := Lib.hid (btr hbr.out hb)
        have hon := Lib.hid (own_be ho.out hb)
        clear hb ho hbr hcr h1
        go_wp2
        go_ret2
        have hn := own64_len hon.out
        subst hn
        exact ⟨A', c', rfl, own_mono hon.out z1, btr hB hbn.out⟩


set_option maxHeartbeats 2000000 in
theorem impl_SizesOf : GivesList 17 F_SizesOf := by
  intro A xs c w hx hcc h
  have hc := codeOf0 A xs c (w.alloc (.cells #[.slice A xs.length c] 26)) (by omega) (h.al _) _ rfl
  cases ht : M.isTree xs
  · rw [ht] at hc
    have HC := Lib.hid hc
    have hF : F_SizesOf xs = ([], 1) := M.cond_no ht
    rw [hF]
    clear hc ht hF
    go_enter Try.func17, Try.ntmps17
    go_wp2_with fail
    refine HC.out.mono ?_
    rintro e w1 ⟨rfl, hb⟩
    have hB := btr (bal (b0 w) _) hb
    go_wp2
    go_ret2
    exact ⟨none, 0, rfl, own64_nil _ _, hB⟩
  · have Ht := Lib.hid ht
    rw [ht] at hc
    have HC := Lib.hid hc
    have hF : F_SizesOf xs = (M.sizes xs xs.length, 0) := M.cond_yes ht
    have hlen := M.tree_len ht
    rw [hF]
    clear hc ht hF
    have hmk := run_make_row' (P := Try.prog) 24 2 (.int .i64 0) 8 Try.underlying24 info64 rfl .i64 .i64 xs.length (by omega) (by omega)
    go_enter Try.func17, Try.ntmps17
    go_wp2_with fail
    refine HC.out.mono ?_
    rintro e w1 ⟨rfl, hb⟩
    have hB := btr (bal (b0 w) _) hb
    have hcell : w1.cell? ⟨w.heap.size, 0, none⟩ = some (.slice A xs.length c) := cell_be (by simp) hb
    have h1 := (h.al _).be hb
    have z1 := hB.size
    have HcellA := Lib.hid hcell
    have hstart := own64_made (w := w1) (B := w1.heap.size) (n := xs.length) (Nat.le_refl _) (by unfold maxLen; omega)
    have Hstart := Lib.hid hstart
    clear hb h HC hstart
    go_wp2
    clear hcell hmk
    go_loopw [6, 18] (fun _ i wr => ∃ (k : Nat) (ys : List Int), k ≤ xs.length ∧ i = .int .i64 k ∧ Hid (ys.length = xs.length) ∧ Hid (ys.take k = (M.sizes xs xs.length).take k) ∧
        Hid (Own64 wr w1.heap.size (.slice (some ⟨w1.heap.size, 0, none⟩) xs.length xs.length) ys) ∧ Hid (Below w1.heap.size w1 wr)) (fun _ i _ => xs.length - (intOf i).toNat)
    case atStart => exact ⟨0, List.replicate xs.length 0, Nat.zero_le _, rfl, by simp [Hid], rfl, Hstart.out, bal (b0 w1) _⟩
    case round =>
      obtain ⟨k, ys, hk, rfl, hly, he, ho, hbr⟩ := hrel
      clear Hstart
      by_cases hlt : k < xs.length
      · have hcr := cell_be HcellA.out hbr.out
        have hkk := Lib.hid (M.tree_ok Ht.out hlt)
        have hly' : ys.length = xs.length := hly
        obtain ⟨c1, c2, c3, c4⟩ := own64_cell ho.out hly' (k := k) (x := ys[k]) (List.getElem?_eq_getElem (by omega))
        obtain ⟨S, hS⟩ : ∃ S, Hid (M.span 1 (xs.drop k) = S) := ⟨_, rfl⟩
        have hat := M.sizes_at xs hlt
        rw [hS.out] at hat
        have hs := take_set_succ (by show ys.length = _; rw [M.sizes_len]; exact hly') hat he
        have ho2 : Hid (Own64 _ _ _ _) := own64_set ho.out hly' k S
        generalize ys[k] = y at c1
        have h2 := Lib.hid (h1.be hbr.out)
        clear hly' hat h1 he ho
        go_wp2_with (go_at_call 86; refine (sizeAt A xs c k S _ hS hlen.2 hcc.1 hcc.2 hkk h2.out).mono ?_; rintro e w' ⟨rfl, rfl⟩)
        go_roundw
        case rel => exact ⟨k + 1, ys.set k S, by omega, by go_num, by simp [Hid]; exact hly.out, hs, ho2, below_setCell hbr.out (Nat.le_refl _) _⟩
        case measure => simp [intOf]; omega
      · obtain rfl : k = xs.length := by omega
        have hys : ys = M.sizes xs xs.length := by
          have h1 := he.out
          rw [← hly.out, List.take_length, hly.out, List.take_of_length_le (Nat.le_of_eq (M.sizes_len xs xs.length))] at h1
          exact h1
        have Hs := Lib.hid hys
        have hn := Lib.hid (M.sizes_len xs xs.length)
        clear hys h1
        go_wp2
        go_ret2
        rw [hn.out]
        exact ⟨_, _, rfl, own_mono (own64_eq ho.out Hs.out) z1, btr hB hbr.out⟩
end Go.Proofs.Ytemfaginhipihaa
