/- SumOfDistances, the program's and the model's: the sum of the distances of all two nodes, or a code. -/
import Derived.Test.YtbnnlifpldgcfaaWayIn
import Derived.Test.YtbnnlifpldgcfaaDistIn
import Derived.Test.YtbnnlifpldgcfaaParentsIn
namespace Go.Proofs.Ytbnnlifpldgcfaa
open Go.RowKit

noncomputable def F_SumOfDistances (xs : List Int) : Int × Int := if M.isTree xs then ((M.sumTo xs xs.length : Int), 0) else (0, 1)

set_option maxHeartbeats 4000000 in
set_option maxRecDepth 100000 in
theorem impl_SumOfDistances : GivesNum 40 F_SumOfDistances := by
  intro A xs c w hx hcc h
  have hc := codeOf0 A xs c (w.alloc (.cells #[.slice A xs.length c] 24)) (by omega) (h.al _) _ rfl
  cases ht : M.isTree xs
  · rw [ht] at hc
    have HC := Lib.hid hc
    have hF : F_SumOfDistances xs = (0, 1) := by rw [F_SumOfDistances, ht]; rfl
    rw [hF]
    clear hc ht hF
    go_enter Try.func40, Try.ntmps40
    go_wp2_with fail
    refine HC.out.mono ?_
    rintro e w1 ⟨rfl, hb⟩
    have hB := btr (bal (b0 w) _) hb
    go_wp2
    go_ret2
    exact ⟨rfl, hB⟩
  · rw [ht] at hc
    have HC := Lib.hid hc
    have hF : F_SumOfDistances xs = ((M.sumTo xs xs.length : Int), 0) := by rw [F_SumOfDistances, ht]; rfl
    have Ht := Lib.hid ht
    have hE := Lib.hid (M.pars_ex ht)
    have hlen := M.tree_len ht
    rw [hF]
    clear hc ht hF
    go_enter Try.func40, Try.ntmps40
    go_wp2_with fail
    refine HC.out.mono ?_
    rintro e w1 ⟨rfl, hb⟩
    have hB := Lib.hid (btr (bal (b0 w) _) hb)
    have hcell : w1.cell? ⟨w.heap.size, 0, none⟩ = some (.slice A xs.length c) := cell_be (by simp) hb
    have h1 := Lib.hid ((h.al _).be hb)
    clear hb h HC
    go_wp2_with fail
    refine ((callsIn_wide (n := 5)).1 (parentsIn_in A xs c _ hcc.1 hcc.2 Ht h1.out)).mono ?_
    rintro e w2 ⟨A', c', ps, rfl, hok, ho, hb⟩
    have hB2 := Lib.hid (btr hB.out hb)
    have hI2 := Lib.hid (ints_of_own64 ho)
    have HD : Hid (∀ (v u : Nat) (W : World), v < xs.length → u < xs.length → Below w2.heap.size w2 W → Calls Try.prog 64 #[.slice A' xs.length c', .int .i64 v, .int .i64 u] W fun e w' => e = .returned (.int .i64 (M.dist xs v u : Int)) ∧ Hid (Below W.heap.size W w')) := fun v u W hv hu hW =>
      distanceIn A' xs ps c' v u W Ht hok hv hu (Lib.hid (hI2.out.be hW)) _ rfl
    obtain ⟨n, hn⟩ : ∃ n, Hid (xs.length = n) := ⟨_, rfl⟩
    have hs0 : Hid ((M.sumTo xs 0 : Nat) = 0) := rfl
    rw [hn.out] at HD hlen ⊢
    clear ho hb hcell hI2
    go_wp2
    go_loopw [6, 7, 8, 19, 23] (fun q _ _ i _ wr => ∃ (v s : Nat), v ≤ n ∧ i = .int .i64 v ∧ q = .int .i64 s ∧ Hid (M.sumTo xs v = s) ∧ Hid (Below w2.heap.size w2 wr)) (fun _ _ _ i _ _ => n - (intOf i).toNat)
    case atStart => exact ⟨0, 0, Nat.zero_le _, rfl, rfl, hs0, b0 w2⟩
    case round =>
      obtain ⟨v, s, hv, rfl, rfl, hs, hb⟩ := hrel
      clear hs0
      by_cases hlt : v < n
      · have hvl : (v : Int) < (n : Int) := by omega
        obtain ⟨wo, rfl⟩ : ∃ wo : World, wo = wr := ⟨_, rfl⟩
        have hle := M.sumTo_le Ht.out hE.out (v := v) (by rw [hn.out]; omega)
        rw [hs.out] at hle
        have hr0 : Hid (M.sumRow xs v 0 = 0) := rfl
        go_wp2
        go_loopw [6, 8, 23] (fun q _ i wr => ∃ (k t : Nat), k ≤ v ∧ i = .int .i64 k ∧ q = .int .i64 ((s : Int) + (t : Int)) ∧ Hid (M.sumRow xs v k = t) ∧ Hid (Below w2.heap.size w2 wr)) (fun _ _ i _ => v - (intOf i).toNat)
        case atStart => exact ⟨0, 0, Nat.zero_le _, rfl, by simp, hr0, hb⟩
        case round =>
          obtain ⟨k, t, hk, rfl, rfl, hr, hb⟩ := hrel
          clear hr0
          have hvx : v < xs.length := by rw [hn.out]; exact hlt
          have hrl := M.sumRow_le Ht.out hE.out hvx (k := k) (by omega)
          rw [hr.out] at hrl
          by_cases hkn : k < v
          · have hkl : (k : Int) < (v : Int) := by omega
            have hdl := M.dist_le Ht.out hE.out hvx (w := k) (by omega)
            have hs2 : Hid (M.sumRow xs v (k + 1) = t + M.dist xs v k) := by show _ = _; rw [M.sumRow, hr.out]
            have HDv := Lib.hid (HD.out v k wr hlt (by omega) hb.out)
            generalize M.dist xs v k = d at *
            go_wp2_with (go_at_call 64; refine HDv.out.mono ?_; rintro e w7 ⟨rfl, hb7⟩)
            have hb8 : Hid (Below w2.heap.size w2 w7) := btr hb.out hb7.out
            go_roundw
            case rel => exact ⟨k + 1, t + d, by omega, by go_num, by go_num, hs2, hb8⟩
            case measure => simp [intOf]; omega
          · obtain rfl : k = v := by omega
            have hs2 : Hid (M.sumTo xs (k + 1) = s + t) := by show _ = _; rw [M.sumTo, hs.out, hr.out]
            go_wp2
            go_roundw
            case rel => exact ⟨k + 1, s + t, by omega, by go_num, by go_num, hs2, hb⟩
            case measure => simp [intOf]; omega
      · obtain rfl : v = n := by omega
        go_wp2
        go_ret2
        exact ⟨by rw [hn.out, hs.out]; rfl, btr hB2.out hb.out⟩

set_option maxHeartbeats 4000000 in
set_option maxRecDepth 100000 in
theorem spec_SumOfDistances : GivesNum 39 F_SumOfDistances := by
  intro A xs c w hx hcc h
  have hc := specIs A xs c (w.alloc (.cells #[.slice A xs.length c] 24)) (by omega) (h.al _)
  cases ht : M.isTree xs
  · rw [ht] at hc
    have HC := Lib.hid hc
    have hF : F_SumOfDistances xs = (0, 1) := by rw [F_SumOfDistances, ht]; rfl
    rw [hF]
    clear hc ht hF
    go_enter Try.func39, Try.ntmps39
    go_wp2_with fail
    refine HC.out.mono ?_
    rintro e w1 ⟨rfl, hb⟩
    have hB := btr (bal (b0 w) _) hb
    go_wp2
    go_ret2
    exact ⟨rfl, hB⟩
  · rw [ht] at hc
    have HC := Lib.hid hc
    have hF : F_SumOfDistances xs = ((M.sumTo xs xs.length : Int), 0) := by rw [F_SumOfDistances, ht]; rfl
    have Ht := Lib.hid ht
    have hE := Lib.hid (M.pars_ex ht)
    have hlen := M.tree_len ht
    rw [hF]
    clear hc ht hF
    go_enter Try.func39, Try.ntmps39
    go_wp2_with fail
    refine HC.out.mono ?_
    rintro e w1 ⟨rfl, hb⟩
    have hB := Lib.hid (btr (bal (b0 w) _) hb)
    have hcell : w1.cell? ⟨w.heap.size, 0, none⟩ = some (.slice A xs.length c) := cell_be (by simp) hb
    have h1 := Lib.hid ((h.al _).be hb)
    clear hb h HC
    go_wp2_with fail
    refine (l05Distances A xs c _ Ht h1).mono ?_
    rintro e w2 ⟨A1, c1, rfl, hT, hb1⟩
    have hB2 := Lib.hid (btr hB.out hb1.out)
    obtain ⟨G, rfl⟩ := hT.out.some_ (by omega)
    obtain ⟨n, hn⟩ : ∃ n, Hid (xs.length = n) := ⟨_, rfl⟩
    have HC : Hid (∀ (i j : Nat), i < n → j < n → ∃ a c', w2.cell? ⟨G, i, none⟩ = some (.slice (some ⟨a, 0, none⟩) n c') ∧ w2.cell? ⟨a, j, none⟩ = some (.int .i64 (M.dist xs i j : Int))) := fun i j hi hj => by
      obtain ⟨A2, c2, k1, k2, k3⟩ := hT.out.at_ (M.distRows_at xs (k := xs.length) (by rw [hn.out]; exact hi))
      rw [M.distRow_len, hn.out] at k1 k2
      obtain ⟨a, rfl⟩ : ∃ g, A2 = some ⟨g, 0, none⟩ := by
        rcases k2.2 with ⟨h0, _⟩ | ⟨g, cap, cur, hv, _⟩
        · injection h0 with _ e _; omega
        · injection hv with e1; exact ⟨g, e1⟩
      exact ⟨a, c2, k1, (own64_cell k2 (by rw [M.distRow_len]; exact hn.out) (M.distRow_at xs i (by rw [hn.out]; exact hj))).1⟩
    have hs0 : Hid ((M.sumTo xs 0 : Nat) = 0) := rfl
    rw [hn.out] at hlen ⊢
    clear hT hb1 hcell
    go_wp2
    go_loop [5, 6, 7] (fun q i _ => ∃ (v s : Nat), v ≤ n ∧ i = .int .i64 v ∧ q = .int .i64 s ∧ Hid (M.sumTo xs v = s)) (fun _ i _ => n - (intOf i).toNat)
    case atStart => exact ⟨0, 0, Nat.zero_le _, rfl, rfl, hs0⟩
    case round =>
      obtain ⟨v, s, hv, rfl, rfl, hs⟩ := hrel
      clear hs0
      by_cases hlt : v < n
      · have hvl : (v : Int) < (n : Int) := by omega
        have hle := M.sumTo_le Ht.out hE.out (v := v) (by rw [hn.out]; omega)
        rw [hs.out] at hle
        have hr0 : Hid (M.sumRow xs v 0 = 0) := rfl
        go_wp2
        go_loop [5, 7] (fun q i => ∃ (k t : Nat), k ≤ v ∧ i = .int .i64 k ∧ q = .int .i64 ((s : Int) + (t : Int)) ∧ Hid (M.sumRow xs v k = t)) (fun _ i => v - (intOf i).toNat)
        case atStart => exact ⟨0, 0, Nat.zero_le _, rfl, by simp, hr0⟩
        case round =>
          obtain ⟨k, t, hk, rfl, rfl, hr⟩ := hrel
          clear hr0
          have hvx : v < xs.length := by rw [hn.out]; exact hlt
          have hrl := M.sumRow_le Ht.out hE.out hvx (k := k) (by omega)
          rw [hr.out] at hrl
          by_cases hkn : k < v
          · have hkl : (k : Int) < (v : Int) := by omega
            have hdl := M.dist_le Ht.out hE.out hvx (w := k) (by omega)
            have hs2 : Hid (M.sumRow xs v (k + 1) = t + M.dist xs v k) := by show _ = _; rw [M.sumRow, hr.out]
            obtain ⟨a, c2, k1, k2⟩ := HC.out v k hlt (by omega)
            have hkn2 : (k : Int) < (n : Int) := by omega
            generalize M.dist xs v k = d at *
            go_wp2
            go_round
            case rel => exact ⟨k + 1, t + d, by omega, by go_num, by go_num, hs2⟩
            case measure => simp [intOf]; omega
          · obtain rfl : k = v := by omega
            have hs2 : Hid (M.sumTo xs (k + 1) = s + t) := by show _ = _; rw [M.sumTo, hs.out, hr.out]
            go_wp2
            go_round
            case rel => exact ⟨k + 1, s + t, by omega, by go_num, by go_num, hs2⟩
            case measure => simp [intOf]; omega
      · obtain rfl : v = n := by omega
        go_wp2
        go_ret2
        exact ⟨by rw [hn.out, hs.out]; rfl, hB2.out⟩
end Go.Proofs.Ytbnnlifpldgcfaa
