/- BesideOf, the program's and the model's: for each node the next one of its depth, or a code. -/
import Derived.Test.YtamnilpmdccgoaaDepthsIn
import Derived.Test.YtamnilpmdccgoaaSpecDepths
import Derived.Test.YtamnilpmdccgoaaIndex
import Derived.Test.YtamnilpmdccgoaaCaps
import Derived.Test.YtamnilpmdccgoaaLeastIn
import Derived.Deep.RegionHeld3
import Derived.BigQuiet
namespace Go.Proofs.Ytamnilpmdccgoaa
open Go.RowKit

noncomputable def F_BesideOf (xs : List Int) : List Int × Int := M.cond xs (M.besides (M.depths xs))
theorem F_BesideOf_len (xs : List Int) : (F_BesideOf xs).1.length ≤ 1048576 := by
  cases ht : M.isTree xs
  · rw [F_BesideOf, M.cond_no ht]; simp
  · rw [F_BesideOf, M.cond_yes ht]
    have h1 := M.depths_len (xs := xs)
    have h2 := (M.tree_len ht).2
    show (M.besides (M.depths xs)).length ≤ _
    rw [M.besides_len]
    omega

set_option maxHeartbeats 4000000 in
set_option maxRecDepth 100000 in
theorem impl_BesideOf : GivesList 36 F_BesideOf := by
  intro A xs c w hx hcc h
  have hc := codeOf0 A xs c (w.alloc (.cells #[.slice A xs.length c] 28)) (by omega) (h.al _) _ rfl
  cases ht : M.isTree xs
  · rw [ht] at hc
    have HC := Lib.hid hc
    have hF : F_BesideOf xs = ([], 1) := M.cond_no ht
    rw [hF]
    clear hc ht hF
    go_enter Try.func36, Try.ntmps36
    go_wp2_with fail
    refine HC.out.mono ?_
    rintro e w1 ⟨rfl, hb⟩
    have hB := btr (bal (b0 w) _) hb
    go_wp2
    go_ret2
    exact ⟨none, 0, rfl, own64_nil _ _, hB⟩
  · rw [ht] at hc
    have HC := Lib.hid hc
    have hF : F_BesideOf xs = (M.besides (M.depths xs), 0) := M.cond_yes ht
    have Ht := Lib.hid ht
    have hlen := M.tree_len ht
    have hmk := run_make_row' (P := Try.prog) 22 2 (.int .i64 0) 8 Try.underlying22 info64 rfl .i64 .i64 xs.length (by omega) (by omega)
    rw [hF]
    obtain ⟨ds, hds⟩ : ∃ ds, Hid (M.depths xs = ds) := ⟨_, rfl⟩
    rw [hds.out]
    clear hc ht hF
    go_enter Try.func36, Try.ntmps36
    go_wp2_with fail
    refine HC.out.mono ?_
    rintro e w1 ⟨rfl, hb⟩
    have hB := Lib.hid (btr (bal (b0 w) _) hb)
    have hcell : w1.cell? ⟨w.heap.size, 0, none⟩ = some (.slice A xs.length c) := cell_be (by simp) hb
    have h1 := Lib.hid ((h.al _).be hb)
    clear hb h HC
    go_wp2_with fail
    refine ((callsIn_wide (n := 5)).1 (depthsIn_in A xs c _ hcc.1 hcc.2 Ht h1.out)).mono ?_
    rintro e w2 ⟨A', c', ps, rfl, hok, ho, hb⟩
    have hB2 := Lib.hid (btr hB.out hb)
    have z2 := hB2.out.size
    have Ho := Lib.hid (ints_of_own64 ho)
    have he : ds = ps := hds.out.symm.trans (M.depths_eq Ht.out hok.out)
    subst he
    have hl := Lib.hid hok.out.1
    have hpl : Hid (ds.length = xs.length) := hl
    have hle := Lib.hid (M.depsOK_le Ht.out hok.out)
    have hcap := own_caps ho
    clear ho hb hok h1 hcell hl
    have h0 : Hid (Own64 (w2.alloc (.cells (madeCells #[.int .i64 0] xs.length) 2)) w2.heap.size (.slice (some ⟨w2.heap.size, 0, none⟩) xs.length xs.length) (M.besRow ds 0)) := by
      have := own64_made (w := w2) (B := w2.heap.size) (n := xs.length) (Nat.le_refl _) (by unfold maxLen; omega)
      show Own64 _ _ _ _
      rw [M.besRow_zero, hpl.out]; exact this
    have hb0 : Hid (Below w2.heap.size w2 (w2.alloc (.cells (madeCells #[.int .i64 0] xs.length) 2))) := bal (b0 w2) _
    go_wp2
    clear hmk
    go_loopw [7, 8, 9, 23] (fun _ _ _ i wr => ∃ (k : Nat), k ≤ xs.length ∧ i = .int .i64 k ∧ Hid (Own64 wr w2.heap.size (.slice (some ⟨w2.heap.size, 0, none⟩) xs.length xs.length) (M.besRow ds k)) ∧ Hid (Below w2.heap.size w2 wr)) (fun _ _ _ i _ => xs.length - (intOf i).toNat)
    case atStart => exact ⟨0, Nat.zero_le _, rfl, h0, hb0⟩
    case round =>
      obtain ⟨k, hk, rfl, hor, hbr⟩ := hrel
      clear h0 hb0
      by_cases hlt : k < xs.length
      · obtain ⟨b, off, x, rfl, hbB, g, hX⟩ := (Ho.out.be hbr.out).at_ (k := k) (by rw [hpl.out]; exact hlt)
        obtain ⟨y, hy⟩ := M.besRow_at (ds := ds) k (i := k) (by rw [hpl.out]; exact hlt)
        have hrl : (M.besRow ds k).length = xs.length := by rw [M.besRow_len]; exact hpl.out
        obtain ⟨c1, f1, _, hwr⟩ := own64_cell hor.out hrl hy
        obtain ⟨J, hJ⟩ : ∃ J, Hid (M.idxOf (ds.drop (k + 1)) x = J) := ⟨_, rfl⟩
        have hJb := M.idxOf_range (ds.drop (k + 1)) x
        have hdl : Hid ((ds.drop (k + 1)).length = xs.length - (k + 1)) := by show _ = _; rw [List.length_drop, hpl.out]
        rw [hJ.out, hdl.out] at hJb
        have hbe := M.beside_idx hX.out hpl.out
        rw [hJ.out] at hbe
        have HBe := Lib.hid hbe
        have hs1 := Lib.hid (own64_set hor.out hrl k (-1))
        have hrl2 : Hid (((M.besRow ds k).set k (-1)).length = xs.length) := by show _ = _; rw [List.length_set]; exact hrl
        have hHD : Hid (∀ (A : Option Addr), (k + 1 < xs.length → A = some ⟨b, off + (k + 1), none⟩) → ∀ W, Below w2.heap.size w2 W → Ints W W.heap.size A (ds.drop (k + 1))) := fun A hA W hW hz => by
          rw [List.length_drop, hpl.out] at hz
          obtain ⟨b', off', e, hb', hc'⟩ := (Ho.out.be hW) (by rw [hpl.out]; omega)
          injection e with e; injection e with e1 e2
          subst e1 e2
          exact ⟨b, off + (k + 1), hA (by omega), hb', fun j x hx => by rw [Nat.add_assoc]; exact hc' _ _ (by rwa [List.getElem?_drop] at hx)⟩
        have hb1 : Hid (Below w2.heap.size w2 (wr.setCell ⟨w2.heap.size, k, none⟩ (.int .i64 (-1)))) := below_setCell hbr.out (Nat.le_refl _) _
        obtain ⟨c2, f2, _, hwr2⟩ := own64_cell hs1.out hrl2.out (k := k) (x := -1) (by rw [List.getElem?_set_self (by omega)])
        have hkn : (k : Int) < (xs.length : Int) := by omega
        have hk0 : (0 : Int) ≤ (k : Int) := by omega
        have hwk : IntKind.i64.wrap ((k : Int) + 1) = (k : Int) + 1 := IntWalk.i64_in _ (by omega)
        have HHcap := Lib.hid hcap
        clear hX hy hbe hrl hor hcap
        have hcc' : k + 1 ≤ c' := by have := HHcap.out; omega
        have hcc2 : ((k : Int) + 1) ≤ (c' : Int) := by omega
        go_wp2_with fail
        all_goals
          first | subst h | (have hcq := Lib.hid h; clear h)
          refine (indexFirst _ (ds.drop (k + 1)) _ _ x _ hdl (by omega) (Lib.hid (hHD.out _ (fun hkk => by first | rfl | (exfalso; have := HHcap.out; omega)) _ hb1.out)) J hJ).mono ?_
          rintro e w5 ⟨rfl, rfl⟩
          by_cases hJ0 : (0 : Int) ≤ J
          · have hJ1 : decide ((0 : Int) ≤ J) = true := decide_eq_true hJ0
            have hbe : Hid (M.besideAt ds k = (k : Int) + 1 + J) := by have := HBe.out; rw [if_pos hJ0] at this; exact this
            have hw5 : IntKind.i64.wrap ((k : Int) + 1 + J) = (k : Int) + 1 + J := IntWalk.i64_in _ (by omega)
            have hs2 := own64_set hs1.out hrl2.out k ((k : Int) + 1 + J)
            rw [List.set_set, M.besRow_set hbe.out] at hs2
            have Hs2 := Lib.hid hs2
            have hb2 : Hid (Below w2.heap.size w2 ((wr.setCell ⟨w2.heap.size, k, none⟩ (.int .i64 (-1))).setCell ⟨w2.heap.size, k, none⟩ (.int .i64 ((k : Int) + 1 + J)))) := below_setCell hb1.out (Nat.le_refl _) _
            clear hs2 hs1 HBe hbe hJ hJb
            go_wp2
            go_roundw
            case rel => exact ⟨k + 1, by omega, by go_num, Hs2, hb2⟩
            case measure => simp [intOf]; omega
          · have hJ1 : decide ((0 : Int) ≤ J) = false := decide_eq_false hJ0
            have hbe : Hid (M.besideAt ds k = -1) := by have := HBe.out; rw [if_neg hJ0] at this; exact this
            have hs2 : Hid (Own64 (wr.setCell ⟨w2.heap.size, k, none⟩ (.int .i64 (-1))) w2.heap.size (.slice (some ⟨w2.heap.size, 0, none⟩) xs.length xs.length) (M.besRow ds (k + 1))) := by
              have := hs1.out
              rw [M.besRow_set hbe.out] at this
              exact this
            clear hs1 HBe hbe hJ hJb
            go_wp2
            go_roundw
            case rel => exact ⟨k + 1, by omega, by go_num, hs2, hb1⟩
            case measure => simp [intOf]; omega
      · obtain rfl : k = xs.length := by omega
        have he : M.besRow ds xs.length = M.besides ds := by rw [← hpl.out]; exact M.besRow_end ds
        rw [he] at hor
        have hbl : Hid ((M.besides ds).length = xs.length) := by show _ = _; rw [M.besides_len]; exact hpl.out
        go_wp2
        go_ret2
        rw [hbl.out]
        exact ⟨_, _, rfl, own_mono hor.out z2, hB2.out.trans (hbr.out.mono z2)⟩

set_option maxHeartbeats 4000000 in
set_option maxRecDepth 100000 in
theorem spec_BesideOf : GivesList 35 F_BesideOf := by
  intro A xs c w hx hcc h
  have hc := specIs A xs c (w.alloc (.cells #[.slice A xs.length c] 28)) (by omega) (h.al _)
  cases ht : M.isTree xs
  · rw [ht] at hc
    have HC := Lib.hid hc
    have hF : F_BesideOf xs = ([], 1) := M.cond_no ht
    rw [hF]
    clear hc ht hF
    go_enter Try.func35, Try.ntmps35
    go_wp2_with fail
    refine HC.out.mono ?_
    rintro e w1 ⟨rfl, hb⟩
    have hB := btr (bal (b0 w) _) hb
    go_wp2
    go_ret2
    exact ⟨none, 0, rfl, own64_nil _ _, hB⟩
  · rw [ht] at hc
    have HC := Lib.hid hc
    have hF : F_BesideOf xs = (M.besides (M.depths xs), 0) := M.cond_yes ht
    have Ht := Lib.hid ht
    have hlen := M.tree_len ht
    rw [hF]
    obtain ⟨ds, hds⟩ : ∃ ds, Hid (M.depths xs = ds) := ⟨_, rfl⟩
    rw [hds.out]
    clear hc ht hF
    go_enter Try.func35, Try.ntmps35
    go_wp2_with fail
    refine HC.out.mono ?_
    rintro e w1 ⟨rfl, hb⟩
    have hB := Lib.hid (btr (bal (b0 w) _) hb)
    have hcell : w1.cell? ⟨w.heap.size, 0, none⟩ = some (.slice A xs.length c) := cell_be (by simp) hb
    have h1 := Lib.hid ((h.al _).be hb)
    clear hb h HC
    go_wp2_with fail
    refine (l01Depths A xs c _ Ht h1.out).mono ?_
    rintro e w2 ⟨A', c', ps, rfl, hok, ho, hb⟩
    have hB2 := Lib.hid (btr hB.out hb)
    have z2 := hB2.out.size
    have Ho := Lib.hid (ints_of_own64 ho)
    have he : ds = ps := hds.out.symm.trans (M.depths_eq Ht.out hok.out)
    subst he
    have hpl := Lib.hid hok.out.1
    have h0 : Hid (Own64 (w2.alloc (.cells #[] 2)) w2.heap.size (.slice (some ⟨w2.heap.size, 0, none⟩) 0 0) (M.besL ds 0)) := own64_empty (Nat.le_refl _)
    have hb0 : Hid (Below w2.heap.size w2 (w2.alloc (.cells #[] 2))) := bal (b0 w2) _
    clear ho hb hok h1 hcell
    go_wp2
    go_loopw [5, 6, 7, 8] (fun q i _ _ wr => ∃ (k : Nat) (A' : Option Addr) (n c' : Nat), k ≤ xs.length ∧ i = .int .i64 k ∧ q = .slice A' n c' ∧ Hid (Own64 wr w2.heap.size (.slice A' n c') (M.besL ds k)) ∧ Hid (Below w2.heap.size w2 wr)) (fun _ i _ _ _ => xs.length - (intOf i).toNat)
    case atStart => exact ⟨0, _, _, _, Nat.zero_le _, rfl, rfl, h0, hb0⟩
    case round =>
      obtain ⟨k, A3, n, c3, hk, rfl, rfl, hor, hbr⟩ := hrel
      clear h0 hb0
      have hnl : n = k := by have h1 := own64_len hor.out; rw [M.besL_len] at h1; exact h1
      subst hnl
      by_cases hlt : n < xs.length
      · obtain ⟨b, off, x, rfl, hbB, g, hX⟩ := (Ho.out.be hbr.out).at_ (k := n) (by rw [hpl.out]; exact hlt)
        have hkn : (n : Int) < (xs.length : Int) := by omega
        have hk0 : (0 : Int) ≤ (n : Int) := by omega
        have hst : Hid (M.BesTo ds x xs.length (-1)) := M.besTo_end hpl.out
        go_wp2
        obtain ⟨wo, rfl⟩ : ∃ wo : World, wo = wr := ⟨_, rfl⟩
        go_loopw [7, 8] (fun q j wr => ∃ (m : Nat) (r : Int), n ≤ m ∧ m + 1 ≤ xs.length ∧ q = .int .i64 r ∧ j = .int .i64 (m : Int) ∧ Hid (M.BesTo ds x (m + 1) r) ∧ Hid (Own64 wr w2.heap.size (.slice A3 n c3) (M.besL ds n)) ∧ Hid (Below w2.heap.size w2 wr)) (fun _ j _ => (intOf j).toNat)
        case atStart => exact ⟨xs.length - 1, -1, by omega, by omega, rfl, by go_num, by rw [show xs.length - 1 + 1 = xs.length by omega]; exact hst, hor, hbr⟩
        case round =>
          obtain ⟨m, r, hnm, hml, rfl, rfl, hr, hor, hbr⟩ := hrel
          clear hst g
          by_cases hgt : n < m
          · obtain ⟨b2, off2, z, e2, _, g2, hZ⟩ := (Ho.out.be hbr.out).at_ (k := m) (by rw [hpl.out]; omega)
            injection e2 with e2; injection e2 with e21 e22
            subst e21 e22
            obtain ⟨b3, off3, z3, e3, _, g, hZ3⟩ := (Ho.out.be hbr.out).at_ (k := n) (by rw [hpl.out]; omega)
            injection e3 with e3; injection e3 with e31 e32
            subst e31 e32
            have hz3 := hX.out
            rw [hZ3.out] at hz3
            injection hz3 with hz3
            have hz4 := hz3.symm
            subst hz4
            clear hZ3
            have hmn : (n : Int) < (m : Int) := by omega
            have hm1 : (m : Int) < (xs.length : Int) := by omega
            have hm0 : (0 : Int) ≤ (m : Int) := by omega
            by_cases hzx : z = x
            · have hq : (z == x) = true := by simp [hzx]
              have hr2 : Hid (M.BesTo ds x m (m : Int)) := M.besTo_hit (hzx ▸ hZ.out)
              clear hZ hzx hr
              go_wp2
              go_quiet (fail)
              go_wp2
              go_roundw
              case rel => exact ⟨m - 1, m, by omega, by omega, rfl, by go_num, by rw [show m - 1 + 1 = m by omega]; exact hr2, own_drewN hor.out _, below_drewN hbr.out _⟩
              case measure => simp [intOf]; omega
            · have hq : (z == x) = false := by simp [hzx]
              have hr2 : Hid (M.BesTo ds x m r) := M.besTo_miss hZ.out hzx hr.out
              clear hZ hzx hr
              go_wp2
              go_quiet (fail)
              go_wp2
              go_roundw
              case rel => exact ⟨m - 1, r, by omega, by omega, rfl, by go_num, by rw [show m - 1 + 1 = m by omega]; exact hr2, own_drewN hor.out _, below_drewN hbr.out _⟩
              case measure => simp [intOf]; omega
          · obtain rfl : m = n := by omega
            have hy : M.besideAt ds m = r := by rw [M.besideAt_eq hX.out hpl.out, hr.out, hpl.out]
            have hs := Lib.hid (M.besL_succ hy)
            have zr := hbr.out.size
            go_wp2_with (at_builtin; refine push64 rfl (.tmp 39) (.tmp 41) rfl wr w2.heap.size A3 m c3 (M.besL ds m) r rfl rfl hor zr (by omega) ?_; intro A5 c5 w5 ho5 hb5)
            go_roundw
            case rel => exact ⟨m + 1, A5, m + 1, c5, by omega, by go_num, rfl, own64_eq ho5.out hs.out.symm, hbr.out.trans hb5.out⟩
            case measure => simp [intOf]; omega
      · obtain rfl : n = xs.length := by omega
        have he : M.besL ds xs.length = M.besides ds := by rw [← hpl.out]; exact M.besL_end ds
        rw [he] at hor
        have hbl : Hid ((M.besides ds).length = xs.length) := by show _ = _; rw [M.besides_len]; exact hpl.out
        go_wp2
        go_ret2
        rw [hbl.out]
        exact ⟨_, _, rfl, own_mono hor.out z2, hB2.out.trans (hbr.out.mono z2)⟩
end Go.Proofs.Ytamnilpmdccgoaa
