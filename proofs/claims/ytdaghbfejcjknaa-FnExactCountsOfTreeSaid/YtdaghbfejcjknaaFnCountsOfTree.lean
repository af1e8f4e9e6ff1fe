/- CountsOfTree, the program's and the model's: how many nodes have so many children, or a code. -/
import Derived.Test.YtdaghbfejcjknaaMax
import Derived.Test.YtdaghbfejcjknaaPush
namespace Go.Proofs.Ytdaghbfejcjknaa
open Go.RowKit

namespace M
/-- how many of the first k numbers are j -/
def countTo (xs : List Int) : Nat → Nat → Nat
  | 0, _ => 0
  | k + 1, j => countTo xs k j + (if xs[k]? = some (j : Int) then 1 else 0)
def rowN (xs : List Int) (N k : Nat) : List Int := (List.range N).map fun j => (countTo xs k j : Int)
theorem rowN_len (xs : List Int) (N k : Nat) : (rowN xs N k).length = N := by simp [rowN]
theorem countTo_le (xs : List Int) (j : Nat) : ∀ k, countTo xs k j ≤ k := by
  intro k
  induction k with
  | zero => exact Nat.le_refl _
  | succ k ih => simp only [countTo]; split <;> omega
theorem rowN_zero (xs : List Int) (N : Nat) : rowN xs N 0 = List.replicate N 0 := by
  apply List.ext_getElem?
  intro j
  simp only [rowN, List.getElem?_map, List.getElem?_replicate, countTo]
  by_cases hj : j < N
  · rw [List.getElem?_range hj, if_pos hj]; rfl
  · rw [List.getElem?_eq_none (by simp; omega), if_neg hj]; rfl
theorem rowN_at (xs : List Int) {N k j : Nat} (h : j < N) : (rowN xs N k)[j]? = some (countTo xs k j : Int) := by simp [rowN, h]
theorem rowN_step {xs : List Int} {N k d : Nat} (h : xs[k]? = some (d : Int)) : (rowN xs N k).set d ((countTo xs k d : Int) + 1) = rowN xs N (k + 1) := by
  apply List.ext_getElem?
  intro j
  by_cases hj : j < N
  · rw [rowN_at xs hj]
    by_cases hjd : d = j
    · subst hjd
      rw [List.getElem?_set_self (by rw [rowN_len]; exact hj)]
      simp only [countTo, h, if_true]
      rfl
    · rw [List.getElem?_set_ne hjd, rowN_at xs hj]
      have : countTo xs (k + 1) j = countTo xs k j := by
        simp only [countTo, h]
        rw [if_neg (by intro e; injection e with e; omega)]
        rfl
      rw [this]
  · rw [List.getElem?_eq_none (by simp [rowN_len]; omega), List.getElem?_eq_none (by rw [rowN_len]; omega)]
def width (xs : List Int) : Nat → Nat
  | 0 => 0
  | k + 1 => max (width xs k) ((xs[k]?.getD 0).toNat + 1)
theorem width_at {xs : List Int} {k d : Nat} (h : xs[k]? = some (d : Int)) : width xs (k + 1) = max (width xs k) (d + 1) := by simp [width, h]
theorem countTo_out {xs : List Int} : ∀ {k j : Nat}, width xs k ≤ j → countTo xs k j = 0 := by
  intro k
  induction k with
  | zero => intro j _; rfl
  | succ k ih =>
    intro j h
    simp only [width] at h
    simp only [countTo]
    rw [ih (by omega), if_neg (by intro e; rw [e] at h; simp at h; omega)]
theorem rowN_grow {xs : List Int} {N k : Nat} (h : width xs k ≤ N) : rowN xs N k ++ [0] = rowN xs (N + 1) k := by
  simp only [rowN, List.range_succ, List.map_append, List.map_cons, List.map_nil, countTo_out h]
  rfl
theorem width_max {xs : List Int} (h0 : ∀ x ∈ xs, 0 ≤ x) : ∀ k, 1 ≤ k → k ≤ xs.length → width xs k = (maxTo xs k).toNat + 1 := by
  intro k
  induction k with
  | zero => intro h; omega
  | succ k ih =>
    intro _ hk
    obtain ⟨x, hx⟩ : ∃ x, xs[k]? = some x := ⟨_, List.getElem?_eq_getElem (by omega)⟩
    have hx0 := h0 _ (List.mem_of_getElem? hx)
    have hs := maxTo_step hx rfl
    have hp := maxTo_pos xs k
    have hw : width xs k = (if k = 0 then 0 else (maxTo xs k).toNat + 1) := by
      rcases Nat.eq_zero_or_pos k with h1 | h1
      · subst h1; rfl
      · rw [ih h1 (by omega), if_neg (by omega)]
    have hm : k = 0 → maxTo xs k = 0 := fun e => by subst e; rfl
    rw [hs]
    simp only [width, hx, Option.getD_some]
    rw [hw]
    by_cases h1 : k = 0
    · rw [if_pos h1, hm h1]
      by_cases h2 : 0 < x
      · rw [if_pos h2]; omega
      · rw [if_neg h2]; omega
    · rw [if_neg h1]
      by_cases h2 : maxTo xs k < x
      · rw [if_pos h2]; omega
      · rw [if_neg h2]; omega
def counts (xs : List Int) : List Int := rowN xs (width xs xs.length) xs.length
end M

theorem own64_shape {w : World} {B n c : Nat} {A : Option Addr} {zs : List Int} (h : Own64 w B (.slice A n c) zs) (hn : 0 < n) : ∃ g, A = some ⟨g, 0, none⟩ := by
  rcases h.2 with ⟨h0, _⟩ | ⟨g, cap, cur, hv, _⟩
  · injection h0 with _ e _; omega
  · injection hv with e1; exact ⟨g, e1⟩

def F_CountsOfTree (xs : List Int) : List Int × Int := M.cond xs (M.counts xs)
theorem width_le {xs : List Int} (ht : M.isTree xs = true) : M.width xs xs.length ≤ 25 := by
  have h0 : ∀ x ∈ xs, (0 : Int) ≤ x := fun x hx => by obtain ⟨i, hi⟩ := List.getElem?_of_mem hx; exact (M.tree_deg ht hi).1
  have h1 : ∀ x ∈ xs, x ≤ (24 : Int) := fun x hx => by obtain ⟨i, hi⟩ := List.getElem?_of_mem hx; exact (M.tree_deg ht hi).2
  have hl := M.tree_len ht
  rw [M.width_max h0 _ hl.1 (Nat.le_refl _)]
  have := M.maxTo_le (by omega) h1 xs.length
  omega
theorem F_CountsOfTree_len (xs : List Int) : (F_CountsOfTree xs).1.length ≤ 1048576 := by
  cases ht : M.isTree xs
  · rw [F_CountsOfTree, M.cond_no ht]; simp
  · rw [F_CountsOfTree, M.cond_yes ht]
    show (M.rowN _ _ _).length ≤ _
    rw [M.rowN_len]
    have := width_le ht
    omega

set_option maxHeartbeats 2000000 in
set_option maxRecDepth 100000 in
theorem impl_CountsOfTree : GivesList 46 F_CountsOfTree := by
  intro A xs c w hx hcc h
  have hc := codeOf0 A xs c (w.alloc (.cells #[.slice A xs.length c] 28)) (by omega) (h.al _) _ rfl
  cases ht : M.isTree xs
  · rw [ht] at hc
    have HC := Lib.hid hc
    have hF : F_CountsOfTree xs = ([], 1) := M.cond_no ht
    rw [hF]
    clear hc ht hF
    go_enter Try.func46, Try.ntmps46
    go_wp2_with fail
    refine HC.out.mono ?_
    rintro e w1 ⟨rfl, hb⟩
    have hB := btr (bal (b0 w) _) hb
    go_wp2
    go_ret2
    exact ⟨none, 0, rfl, own64_nil _ _, hB⟩
  · rw [ht] at hc
    have HC := Lib.hid hc
    have hF : F_CountsOfTree xs = (M.counts xs, 0) := M.cond_yes ht
    have Ht := Lib.hid ht
    have hl24 := (M.tree_len ht).2
    have hl1 := (M.tree_len ht).1
    have h0 : Hid (∀ x ∈ xs, (0 : Int) ≤ x) := fun x hx => by obtain ⟨i, hi⟩ := List.getElem?_of_mem hx; exact (M.tree_deg ht hi).1
    have hW := M.width_max h0.out xs.length hl1 (Nat.le_refl _)
    have hw25 := width_le ht
    have hmp := M.maxTo_pos xs xs.length
    obtain ⟨N, hN⟩ : ∃ N : Nat, Hid (M.maxTo xs xs.length = (N : Int)) := ⟨(M.maxTo xs xs.length).toNat, by show _ = _; omega⟩
    have hWN : Hid (M.width xs xs.length = N + 1) := by show _ = _; rw [hW, hN.out]; omega
    have hN24 : N ≤ 24 := by have := hWN.out; omega
    rw [hF]
    have hmk := run_make_row' (P := Try.prog) 22 2 (.int .i64 0) 8 Try.underlying22 info64 rfl .i64 .i64 (N + 1) (by omega) (by omega)
    have ecast : ((N + 1 : Nat) : Int) = (N : Int) + 1 := by omega
    rw [ecast] at hmk
    clear hc ht hF hW hw25 hmp ecast
    go_enter Try.func46, Try.ntmps46
    go_wp2_with fail
    refine HC.out.mono ?_
    rintro e w1 ⟨rfl, hb⟩
    have hB := Lib.hid (btr (bal (b0 w) _) hb)
    have hcell : w1.cell? ⟨w.heap.size, 0, none⟩ = some (.slice A xs.length c) := cell_be (by simp) hb
    have h1 := Lib.hid ((h.al _).be hb)
    have Hc := Lib.hid hcell
    clear hb h HC
    go_wp2_with fail
    refine (slicesMax A xs c w1 (by omega) (by omega) h0 h1.out _ hN).mono ?_
    rintro e w' ⟨rfl, rfl⟩
    have Hst := Lib.hid (own64_made (w := w1) (B := w1.heap.size) (n := N + 1) (Nat.le_refl _) (by unfold maxLen; omega))
    have Hst2 : Hid (Own64 (w1.alloc (.cells (madeCells #[.int .i64 0] (N + 1)) 2)) w1.heap.size (.slice (some ⟨w1.heap.size, 0, none⟩) (N + 1) (N + 1)) (M.rowN xs (N + 1) 0)) := by rw [M.rowN_zero]; exact Hst.out
    have hb0 := Lib.hid (bal (b0 w1) (.cells (madeCells #[.int .i64 0] (N + 1)) 2))
    have hcell2 := cell_al hcell (.cells (madeCells #[.int .i64 0] (N + 1)) 2)
    clear Hst
    go_wp2
    clear hmk hcell2
    go_loopw [7, 21] (fun _ i wr => ∃ k : Nat, k ≤ xs.length ∧ i = .int .i64 k ∧ Hid (Own64 wr w1.heap.size (.slice (some ⟨w1.heap.size, 0, none⟩) (N + 1) (N + 1)) (M.rowN xs (N + 1) k)) ∧ Hid (Below w1.heap.size w1 wr)) (fun _ i _ => xs.length - (intOf i).toNat)
    case atStart => exact ⟨0, Nat.zero_le _, rfl, Hst2, hb0⟩
    case round =>
      obtain ⟨k, hk, rfl, ho, hbr⟩ := hrel
      clear Hst2 hb0 hcell
      by_cases hlt : k < xs.length
      · obtain ⟨b, off, x, rfl, hbB, g, hX⟩ := (h1.out.be hbr.out).at_ hlt
        have hdg := M.tree_deg Ht.out hX.out
        obtain ⟨d, rfl⟩ := Int.eq_ofNat_of_zero_le hdg.1
        have hd0 : d < N + 1 := by have h3 := M.maxTo_ge hX.out xs.length hlt; rw [hN.out] at h3; omega
        have hcl := M.countTo_le xs d k
        have hs := Lib.hid (M.rowN_step (N := N + 1) hX.out)
        obtain ⟨c1, c2, _, _⟩ := own64_cell ho.out (M.rowN_len _ _ _) (M.rowN_at xs hd0)
        have hset := own64_set ho.out (M.rowN_len _ _ _) d ((M.countTo xs k d : Int) + 1)
        rw [hs.out] at hset
        have hset := Lib.hid hset
        generalize M.countTo xs k d = y at *
        have hy1 : (y : Int) ≤ 1000 := by omega
        clear hdg hcl hs ho
        go_wp2
        go_roundw
        case rel => exact ⟨k + 1, by omega, by go_num, hset, below_setCell hbr.out (Nat.le_refl _) _⟩
        case measure => simp [intOf]; omega
      · obtain rfl : k = xs.length := by omega
        have z1 := hB.out.size
        go_wp2
        go_ret2
        have e : M.counts xs = M.rowN xs (N + 1) xs.length := by rw [M.counts, hWN.out]
        rw [e, M.rowN_len]
        exact ⟨_, _, rfl, own_mono ho.out z1, btr hB.out hbr.out⟩

set_option maxHeartbeats 4000000 in
set_option maxRecDepth 100000 in
theorem spec_CountsOfTree : GivesList 45 F_CountsOfTree := by
  intro A xs c w hx hcc h
  have hc := specIs A xs c (w.alloc (.cells #[.slice A xs.length c] 28)) (by omega) (h.al _)
  cases ht : M.isTree xs
  · rw [ht] at hc
    have HC := Lib.hid hc
    have hF : F_CountsOfTree xs = ([], 1) := M.cond_no ht
    rw [hF]
    clear hc ht hF
    go_enter Try.func45, Try.ntmps45
    go_wp2_with fail
    refine HC.out.mono ?_
    rintro e w1 ⟨rfl, hb⟩
    have hB := btr (bal (b0 w) _) hb
    go_wp2
    go_ret2
    exact ⟨none, 0, rfl, own64_nil _ _, hB⟩
  · rw [ht] at hc
    have HC := Lib.hid hc
    have hF : F_CountsOfTree xs = (M.counts xs, 0) := M.cond_yes ht
    have Ht := Lib.hid ht
    have hl24 := (M.tree_len ht).2
    have hl1 := (M.tree_len ht).1
    rw [hF]
    clear hc ht hF
    go_enter Try.func45, Try.ntmps45
    go_wp2_with fail
    refine HC.out.mono ?_
    rintro e w1 ⟨rfl, hb⟩
    have hB := Lib.hid (btr (bal (b0 w) _) hb)
    have hcell : w1.cell? ⟨w.heap.size, 0, none⟩ = some (.slice A xs.length c) := cell_be (by simp) hb
    have h1 := Lib.hid ((h.al _).be hb)
    have Hc := Lib.hid hcell
    have hst : Hid (Own64 (w1.alloc (.cells #[] 2)) w1.heap.size (.slice (some ⟨w1.heap.size, 0, none⟩) 0 0) []) := own64_empty (Nat.le_refl _)
    have hb0 := Lib.hid (bal (b0 w1) (.cells #[] 2))
    clear hb h HC
    go_wp2
    clear hcell
    go_loopw [4, 5] (fun q i wr => ∃ (k : Nat) (A' : Option Addr) (n c' : Nat), k ≤ xs.length ∧ i = .int .i64 k ∧ q = .slice A' n c' ∧ Hid (M.width xs k = n) ∧ n ≤ 25 ∧ Hid (Own64 wr w1.heap.size (.slice A' n c') (M.rowN xs n k)) ∧ Hid (Below w1.heap.size w1 wr)) (fun _ i _ => xs.length - (intOf i).toNat)
    case atStart => exact ⟨0, _, 0, 0, Nat.zero_le _, rfl, rfl, rfl, by omega, hst, hb0⟩
    case round =>
      obtain ⟨k, A', n, c', hk, rfl, rfl, hwd, hn25, ho, hbr⟩ := hrel
      have hcr := cell_be Hc.out hbr.out
      have Hbr := hbr
      clear hst hb0
      by_cases hlt : k < xs.length
      · obtain ⟨b, off, x, rfl, hbB, g1, hX⟩ := h1.out.at_ hlt
        have hdg := M.tree_deg Ht.out hX.out
        obtain ⟨d, rfl⟩ := Int.eq_ofNat_of_zero_le hdg.1
        have hd24 : d ≤ 24 := by omega
        have hwn := Lib.hid (M.width_at hX.out)
        have G1 := Lib.hid g1
        clear hdg g1
        obtain ⟨wo, rfl⟩ : ∃ wo : World, wo = wr := ⟨_, rfl⟩
        go_wp2
        clear hcr
        go_loopw [4] (fun q wr => ∃ (A' : Option Addr) (m c' : Nat), q = .slice A' m c' ∧ n ≤ m ∧ m ≤ max n (d + 1) ∧ Hid (Own64 wr w1.heap.size (.slice A' m c') (M.rowN xs m k)) ∧ Hid (Below w1.heap.size w1 wr)) (fun q _ => 30 - (match q with | .slice _ m _ => m | _ => 0))
        case atStart => exact ⟨A', n, c', rfl, Nat.le_refl _, by omega, ho, hbr⟩
        case round =>
          obtain ⟨A2, m, c2, rfl, hm1, hm2, ho, hbr⟩ := hrel
          have hcr := cell_be Hc.out hbr.out
          have g := (hbr.out.cell (p := ⟨b, off + k, none⟩) hbB).trans G1.out
          have hkl : (k : Int) < (xs.length : Int) := by omega
          have zr := hbr.out.size
          by_cases hmd : m ≤ d
          · have hgr := Lib.hid (M.rowN_grow (xs := xs) (N := m) (k := k) (by rw [hwd.out]; exact hm1))
            have hmd2 : (m : Int) ≤ (d : Int) := by omega
            go_wp2_with (at_builtin; refine push64 rfl (.tmp 25) (.tmp 26) rfl wr w1.heap.size A2 m c2 (M.rowN xs m k) 0 rfl rfl ho zr (by omega) ?_; intro A3 c3 w3 ho3 hb3)
            go_roundw
            case rel => exact ⟨A3, m + 1, c3, rfl, by omega, by omega, own64_eq ho3.out hgr.out, hbr.out.trans hb3.out⟩
            case measure => simp; omega
          · have hmd2 : ¬ (m : Int) ≤ (d : Int) := by omega
            have hdm : d < m := by omega
            have hwm : Hid (M.width xs (k + 1) = m) := by show _ = _; rw [hwn.out, hwd.out]; omega
            have hcl := M.countTo_le xs d k
            have hs := Lib.hid (M.rowN_step (N := m) hX.out)
            obtain ⟨g2, rfl⟩ := own64_shape ho.out (by omega)
            obtain ⟨c1, c3, hg2, _⟩ := own64_cell ho.out (M.rowN_len _ _ _) (M.rowN_at xs hdm)
            have hset := own64_set ho.out (M.rowN_len _ _ _) d ((M.countTo xs k d : Int) + 1)
            rw [hs.out] at hset
            have hset := Lib.hid hset
            have hb5 := Lib.hid (below_setCell (k := d) hbr.out hg2 (.int .i64 ((M.countTo xs k d : Int) + 1)))
            generalize M.countTo xs k d = y at *
            have hy1 : (y : Int) ≤ 1000 := by omega
            clear hcl hs ho
            go_wp2
            go_roundw
            case rel => exact ⟨k + 1, _, m, c2, by omega, by go_num, rfl, hwm, by omega, hset, hb5⟩
            case measure => simp [intOf]; omega
      · obtain rfl : k = xs.length := by omega
        have z1 := hB.out.size
        go_wp2
        go_ret2
        have e : M.counts xs = M.rowN xs n xs.length := by rw [M.counts, hwd.out]
        rw [e, M.rowN_len]
        exact ⟨_, _, rfl, own_mono ho.out z1, btr hB.out hbr.out⟩
end Go.Proofs.Ytdaghbfejcjknaa
