/- LongestWay, the program's: the least of the longest ways, or a code. -/
import Derived.Test.YtbnnlifpldgcfaaWayIn
import Derived.Test.YtbnnlifpldgcfaaLong
import Derived.Test.YtbnnlifpldgcfaaParentsIn
import Derived.Test.YtbnnlifpldgcfaaFnCompareTrees
namespace Go.Proofs.Ytbnnlifpldgcfaa
open Go.RowKit

noncomputable def F_LongestWay (xs : List Int) : List Int × Int := M.cond xs (M.longest xs)
theorem F_LongestWay_len (xs : List Int) : (F_LongestWay xs).1.length ≤ 1048576 := by
  cases ht : M.isTree xs
  · rw [F_LongestWay, M.cond_no ht]; simp
  · rw [F_LongestWay, M.cond_yes ht]
    have h1 := M.longest_len ht (M.pars_ex ht)
    show (M.longest xs).length ≤ _
    omega

set_option maxHeartbeats 8000000 in
set_option maxRecDepth 100000 in
theorem impl_LongestWay : GivesList 46 F_LongestWay := by
  intro A xs c w hx hcc h
  have hc := codeOf0 A xs c (w.alloc (.cells #[.slice A xs.length c] 24)) (by omega) (h.al _) _ rfl
  cases ht : M.isTree xs
  · rw [ht] at hc
    have HC := Lib.hid hc
    have hF : F_LongestWay xs = ([], 1) := M.cond_no ht
    rw [hF]
    clear hc ht hF
    go_enter Try.func46, Try.ntmps46
    go_wp2_with fail
    refine HC.out.mono ?_
    rintro e w1 ⟨rfl, hb⟩
    have hB := btr (bal (b0 w) _) hb
    go_wp2
    go_ret2
    exact ⟨none, 0, rfl, own64_nil _ _, hB⟩
  · rw [ht] at hc
    have HC := Lib.hid hc
    have hF : F_LongestWay xs = (M.longest xs, 0) := M.cond_yes ht
    have Ht := Lib.hid ht
    have hE := Lib.hid (M.pars_ex ht)
    have hlen := M.tree_len ht
    obtain ⟨n, hn⟩ : ∃ n, Hid (xs.length = n) := ⟨_, rfl⟩
    rw [hF]
    clear hc ht hF
    go_enter Try.func46, Try.ntmps46
    go_wp2_with fail
    refine HC.out.mono ?_
    rintro e w1 ⟨rfl, hb⟩
    have hB := Lib.hid (btr (bal (b0 w) _) hb)
    have hcell : w1.cell? ⟨w.heap.size, 0, none⟩ = some (.slice A xs.length c) := cell_be (by simp) hb
    have h1 := Lib.hid ((h.al _).be hb)
    clear hb h HC
    go_wp2_with fail
    refine ((callsIn_wide (n := 5)).1 (parentsIn_in A xs c _ hcc.1 hcc.2 Ht h1.out)).mono ?_
    rintro e w2 ⟨A', c', ps, rfl, hok, ho, hb⟩
    have hB2 := Lib.hid (btr hB.out hb)
    have z2 := hB2.out.size
    have hI2 := Lib.hid (ints_of_own64 ho)
    have HW : Hid (∀ (v u : Nat) (W : World), v < n → u < n → Below w2.heap.size w2 W → Calls Try.prog 62 #[.slice A' n c', .int .i64 v, .int .i64 u] W fun e w' => ∃ A' c' L, e = .returned (.slice A' L c') ∧ Hid ((M.way xs v u).length = L) ∧ Hid (Own64 w' w2.heap.size (.slice A' L c') (M.way xs v u)) ∧ Hid (Below W.heap.size W w')) := fun v u W hv hu hW => by
      have := wayIn A' xs ps c' v u W Ht hok (by rw [hn.out]; exact hv) (by rw [hn.out]; exact hu) (Lib.hid (hI2.out.be hW))
      rw [hn.out] at this
      exact this.mono fun e w' ⟨A3, c3, h1, h2, h3⟩ => ⟨A3, c3, _, h1, rfl, own_mono h2 hW.size, h3⟩
    have hs0 := Lib.hid (M.bestTo_zero xs)
    have ho0 : Hid (Own64 w2 w2.heap.size (.slice none 0 0) []) := own64_nil _ _
    rw [hn.out]
    rw [hn.out] at hlen
    clear ho hb hcell
    go_wp2
    go_loopw [6, 7, 8, 9, 20, 25] (fun q _ _ _ i _ wr => ∃ (v m' c3 : Nat) (A3 : Option Addr) (l : List Int), v ≤ n ∧ i = .int .i64 v ∧ q = .slice A3 m' c3 ∧ Hid (M.BestTo xs v 0 l) ∧ Hid (Own64 wr w2.heap.size (.slice A3 m' c3) l) ∧ Hid (Below w2.heap.size w2 wr)) (fun _ _ _ _ i _ _ => n - (intOf i).toNat)
    case atStart => exact ⟨0, 0, 0, none, [], Nat.zero_le _, rfl, rfl, hs0, ho0, b0 w2⟩
    case round =>
      obtain ⟨v, m', c3, A3, l, hv, rfl, rfl, hs, ho, hb⟩ := hrel
      clear hs0 ho0
      by_cases hlt : v < n
      · have hvl : (v : Int) < (n : Int) := by omega
        have hvx : v < xs.length := by rw [hn.out]; exact hlt
        obtain ⟨wo, rfl⟩ : ∃ wo : World, wo = wr := ⟨_, rfl⟩
        go_wp2
        go_loopw [6, 8, 9, 25] (fun q _ _ i wr => ∃ (k m' c3 : Nat) (A3 : Option Addr) (l : List Int), k ≤ n ∧ i = .int .i64 k ∧ q = .slice A3 m' c3 ∧ Hid (M.BestTo xs v k l) ∧ Hid (Own64 wr w2.heap.size (.slice A3 m' c3) l) ∧ Hid (Below w2.heap.size w2 wr)) (fun _ _ _ i _ => n - (intOf i).toNat)
        case atStart => exact ⟨0, m', c3, A3, l, Nat.zero_le _, rfl, rfl, hs, ho, hb⟩
        case round =>
          obtain ⟨k, m', c3, A3, l, hk, rfl, rfl, hs, ho, hb⟩ := hrel
          by_cases hkn : k < n
          · have hkl : (k : Int) < (n : Int) := by omega
            have hkx : k < xs.length := by rw [hn.out]; exact hkn
            have hml := Lib.hid (own64_len ho.out)
            have hll := M.bestTo_len Ht.out hE.out hs.out
            have hm47 : m' ≤ 47 := by have := hml.out; omega
            go_wp2_with fail
            refine (HW.out v k wr hlt hkn hb.out).mono ?_
            rintro e w7 ⟨A7, c7, L, rfl, hL, ho7, hb7⟩
            have hwl := M.way_len Ht.out hE.out hvx hkx
            have hL47 : L ≤ 47 := by have := hL.out; omega
            have hb8 : Hid (Below w2.heap.size w2 w7) := btr hb.out hb7.out
            have ho8 := Lib.hid (own_be ho.out hb7.out)
            have hkeep : Hid (¬ M.better (M.way xs v k) l → M.BestTo xs v (k + 1) l) := fun h => M.bestTo_keep hs.out h
            have htake : Hid (M.better (M.way xs v k) l → M.BestTo xs v (k + 1) (M.way xs v k)) := fun h => M.bestTo_take hs.out hvx hkx h
            have hC : Hid (L = m' → Calls Try.prog 77 #[.slice A7 L c7, .slice A3 m' c3] w7 fun e w' => e = .returned (.int .i64 (M.cmpL (M.way xs v k) l)) ∧ w7 = w') := fun e =>
              slicesCompare A7 A3 (M.way xs v k) l c7 c3 L m' w7 hL (Lib.hid hml.out.symm) (by omega) (by omega) (by omega) (ints_of_own64 ho7.out) (ints_of_own64 ho8.out)
            generalize M.way xs v k = Y at *
            clear hs ho hb hb7 hwl hll
            rcases Nat.lt_trichotomy m' L with hq | hq | hq
            · have hq1 : (m' : Int) < (L : Int) := by omega
              have hq2 : m' < L := hq
              have hnew := Lib.hid (htake.out (.inl (by rw [hL.out, ← hml.out]; exact hq)))
              clear htake hkeep hC
              go_wp2
              go_roundw
              case rel => exact ⟨k + 1, L, c7, A7, Y, by omega, by go_num, rfl, hnew, ho7, hb8⟩
              case measure => simp [intOf]; omega
            · subst hq
              have hq1 : ¬ (m' : Int) < (m' : Int) := by omega
              have hq2 : ¬ m' < m' := by omega
              have hq3 : ((m' : Int) == (m' : Int)) = true := by simp
              have HCe := Lib.hid (hC.out rfl)
              have hlY : Hid (Y.length = l.length) := hL.out.trans hml.out
              obtain ⟨r, hr⟩ : ∃ r, Hid (M.cmpL Y l = r) := ⟨_, rfl⟩
              rw [hr.out] at HCe
              by_cases hr0 : r < 0
              · have hnew := Lib.hid (htake.out (.inr ⟨hlY.out, by rw [hr.out]; exact hr0⟩))
                clear htake hkeep hC
                go_wp2_with (go_at_call 77; refine HCe.out.mono ?_; rintro e w' ⟨rfl, rfl⟩)
                go_roundw
                case rel => exact ⟨k + 1, m', c7, A7, Y, by omega, by go_num, rfl, hnew, ho7, hb8⟩
                case measure => simp [intOf]; omega
              · have hnew := Lib.hid (hkeep.out (fun h => by
                  rcases h with h | ⟨_, h⟩
                  · rw [hlY.out] at h; omega
                  · rw [hr.out] at h; exact hr0 h))
                clear htake hkeep hC
                go_wp2_with (go_at_call 77; refine HCe.out.mono ?_; rintro e w' ⟨rfl, rfl⟩)
                go_roundw
                case rel => exact ⟨k + 1, m', c3, A3, l, by omega, by go_num, rfl, hnew, ho8, hb8⟩
                case measure => simp [intOf]; omega
            · have hq1 : ¬ (m' : Int) < (L : Int) := by omega
              have hq2 : ¬ m' < L := by omega
              have hq3 : ((L : Int) == (m' : Int)) = false := by simp; omega
              have hnew := Lib.hid (hkeep.out (fun h => by
                rcases h with h | ⟨h, _⟩
                · rw [hL.out, ← hml.out] at h; omega
                · rw [hL.out, ← hml.out] at h; omega))
              clear htake hkeep hC
              go_wp2
              go_roundw
              case rel => exact ⟨k + 1, m', c3, A3, l, by omega, by go_num, rfl, hnew, ho8, hb8⟩
              case measure => simp [intOf]; omega
          · obtain rfl : k = n := by omega
            have hnx : Hid (M.BestTo xs (v + 1) 0 l) := M.bestTo_next (by rw [hn.out]; exact hs.out)
            go_wp2
            go_roundw
            case rel => exact ⟨v + 1, m', c3, A3, l, by omega, by go_num, rfl, hnx, ho, hb⟩
            case measure => simp [intOf]; omega
      · obtain rfl : v = n := by omega
        have hbest : Hid (M.longest xs = l) := M.longest_eq (M.bestTo_end (k := 0) Ht.out hE.out (by rw [hn.out]; exact hs.out))
        have hm := own64_len ho.out
        subst hm
        go_wp2
        go_ret2
        rw [hbest.out]
        exact ⟨A3, c3, rfl, own_mono ho.out z2, btr hB2.out hb.out⟩
end Go.Proofs.Ytbnnlifpldgcfaa
