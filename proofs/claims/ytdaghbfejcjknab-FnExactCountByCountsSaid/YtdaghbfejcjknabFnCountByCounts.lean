/- CountByCounts, the program's and the model's: the number of trees with told counts, or a code. -/
import Derived.Test.YtdaghbfejcjknabMulti
import Derived.Test.YtdaghbfejcjknabChoose
import Derived.Test.YtdaghbfejcjknabFirst
import Derived.Test.YtdaghbfejcjknabGives
namespace Go.Proofs.Ytdaghbfejcjknab
open Go.RowKit

namespace M
def lastOf (xs : List Int) : Int := xs[xs.length - 1]?.getD 0
def good (xs : List Int) : Bool := (decide (1 ≤ xs.length) && decide (xs.length ≤ 30)) && (!(lastOf xs == 0) && okTo xs xs.length)
end M

theorem kid_small {xs : List Int} : ∀ k, k ≤ 30 → M.okTo xs k = true → 0 ≤ M.kidI xs k ∧ M.kidI xs k ≤ 30 * M.sumI xs k := by
  intro k
  induction k with
  | zero => intro _ _; simp [M.kidI, M.sumI]
  | succ k ih =>
    intro hk h
    have h1 := ih (by omega) (M.okTo_mono (by omega) h)
    simp only [M.okTo, Bool.and_eq_true, decide_eq_true_eq] at h
    have h2 := h.2.1
    simp only [M.kidI, M.sumI]
    generalize xs[k]?.getD 0 = x at *
    have h3 : 0 ≤ (k : Int) * x := Int.mul_nonneg (by omega) h2
    have h4 : (k : Int) * x ≤ 30 * x := Int.mul_le_mul_of_nonneg_right (by omega) h2
    omega

def F_CountByCounts (xs : List Int) : Int × Int :=
  if M.good xs then (if M.kidI xs xs.length = M.sumI xs xs.length - 1 then ((M.outTo xs (M.sumI xs xs.length).toNat xs.length : Int) / M.sumI xs xs.length, 0) else (0, 5)) else (0, 2)

set_option maxHeartbeats 1000000 in
theorem areCounts (A : Option Addr) (xs : List Int) (c : Nat) (w : World) (hx : xs.length ≤ 1000000000) (hv : Hid (∀ x ∈ xs, -9223372036854775808 ≤ x ∧ x ≤ 9223372036854775807)) (h : Hid (Ints w w.heap.size A xs)) (r : Bool) (hr : Hid (M.good xs = r)) :
    Calls Try.prog 74 #[.slice A xs.length c] w fun e w' => e = .returned (.bool r) ∧ w = w' := by
  obtain ⟨b1, hb1⟩ : ∃ b1, Hid ((decide ((1 : Int) ≤ (xs.length : Int)) && decide ((xs.length : Int) ≤ 30)) = b1) := ⟨_, rfl⟩
  cases b1
  · have he : Hid (r = false) := by
      show _ = _
      have h1 := hb1.out
      rw [← hr.out, M.good]
      simp only [Bool.and_eq_false_iff, decide_eq_false_iff_not] at h1 ⊢
      omega
    rw [he.out]
    go_enter Try.func74, Try.ntmps74
    go_wp2_with (go_at_call 54; refine (withinAny _ _ _ _ _ hb1).mono ?_; rintro e w' ⟨rfl, rfl⟩)
    go_ret
    exact ⟨rfl, rfl⟩
  · have h12 := hb1.out
    simp only [Bool.and_eq_true, decide_eq_true_eq] at h12
    have hl1 : 1 ≤ xs.length := by omega
    have hl2 : xs.length ≤ 30 := by omega
    have hg : M.good xs = (!(M.lastOf xs == 0) && M.okTo xs xs.length) := by simp [M.good, hl1, hl2]
    obtain ⟨y, hy⟩ : ∃ y, xs[xs.length - 1]? = some y := ⟨_, List.getElem?_eq_getElem (by omega)⟩
    have hlast : M.lastOf xs = y := by simp [M.lastOf, hy]
    obtain ⟨b, off, rfl, hbB, hcells⟩ := h.out (by omega)
    have Hcells := Lib.hid hcells
    have cl := hcells _ _ hy
    have hlm : (0 : Int) ≤ (xs.length : Int) - 1 := by omega
    clear hcells hy h12
    by_cases hy0 : y = 0
    · have he : Hid (r = false) := by show _ = _; rw [← hr.out, hg, hlast, hy0]; rfl
      have hq : (y == 0) = true := by simp [hy0]
      rw [he.out]
      clear hg hlast hy0
      go_enter Try.func74, Try.ntmps74
      go_wp2_with (go_at_call 54; refine (withinAny _ _ _ _ _ hb1).mono ?_; rintro e w' ⟨rfl, rfl⟩)
      go_ret
      exact ⟨rfl, rfl⟩
    · have he : Hid (r = M.okTo xs xs.length) := by
        show _ = _
        rw [← hr.out, hg, hlast]
        have : (y == 0) = false := by simp [hy0]
        rw [this]
        rfl
      have hq : (y == 0) = false := by simp [hy0]
      clear hg hlast hy0 hr
      go_enter Try.func74, Try.ntmps74
      go_wp2_with (go_at_call 54; refine (withinAny _ _ _ _ _ hb1).mono ?_; rintro e w' ⟨rfl, rfl⟩)
      clear cl
      go_loop [3, 5, 21] (fun s3 _ i => ∃ (k : Nat) (z : Int), k ≤ xs.length ∧ i = .int .i64 (k : Int) ∧ s3 = .int .i64 (20 - z) ∧ Hid (M.sumI xs k = z) ∧ 0 ≤ z ∧ z ≤ 20 ∧ Hid (M.okTo xs k = true)) (fun _ _ i => xs.length - (intOf i).toNat)
      case atStart => exact ⟨0, 0, Nat.zero_le _, rfl, rfl, rfl, Int.le_refl _, by omega, rfl⟩
      case round =>
        obtain ⟨k, z, hk, rfl, rfl, hz, hz0, hz1, hok⟩ := hrel
        by_cases hlt : k < xs.length
        · obtain ⟨x, hX⟩ : ∃ x, xs[k]? = some x := ⟨_, List.getElem?_eq_getElem hlt⟩
          have g := Hcells.out k _ hX
          have hxv := hv.out x (List.mem_of_getElem? hX)
          have hst := M.okTo_at hX
          rw [hok.out, hz.out, Bool.true_and] at hst
          obtain ⟨b2, hb2⟩ : ∃ b2, Hid ((decide ((0 : Int) ≤ x) && decide (x ≤ 20 - z)) = b2) := ⟨_, rfl⟩
          rw [hb2.out] at hst
          have hsum := Lib.hid (M.sumI_at hX)
          have Hst := Lib.hid hst
          have hxv0 := hxv.1
          have hxv1 := hxv.2
          clear hst hX hxv
          cases b2
          · have hfin : Hid (M.okTo xs xs.length = false) := by
              show _ = _
              cases hq2 : M.okTo xs xs.length
              · rfl
              · have := M.okTo_mono (j := k + 1) (by omega) hq2
                rw [Hst.out] at this
                cases this
            go_wp2_with (go_at_call 54; refine (withinAny _ _ _ _ _ hb2).mono ?_; rintro e w' ⟨rfl, rfl⟩)
            go_ret
            exact ⟨by rw [he.out, hfin.out]; rfl, rfl⟩
          · have hx2 := hb2.out
            simp only [Bool.and_eq_true, decide_eq_true_eq] at hx2
            have hx3 := hx2.1
            have hx4 := hx2.2
            have hs2 : Hid (M.sumI xs (k + 1) = z + x) := by show _ = _; rw [hsum.out, hz.out]
            clear hx2
            go_wp2_with (go_at_call 54; refine (withinAny _ _ _ _ _ hb2).mono ?_; rintro e w' ⟨rfl, rfl⟩)
            go_round
            case rel => exact ⟨k + 1, z + x, by omega, by go_num, by go_num, hs2, by omega, by omega, Hst⟩
            case measure => simp [intOf]; omega
        · obtain rfl : k = xs.length := by omega
          go_wp2
          go_ret
          exact ⟨by rw [he.out, hok.out]; rfl, rfl⟩

set_option maxHeartbeats 1000000 in
theorem factorial (n : Nat) (w : World) (hn : n ≤ 20) :
    Calls Try.prog 75 #[.int .i64 (n : Int)] w fun e w' => e = .returned (.int .i64 (M.fact n : Int)) ∧ w = w' := by
  go_enter Try.func75, Try.ntmps75
  go_wp2
  go_loop [3, 4] (fun q i => ∃ (k p : Nat), 1 ≤ k ∧ (k ≤ n ∨ k = 1) ∧ i = .int .i64 ((k : Int) + 1) ∧ q = .int .i64 (p : Int) ∧ Hid (M.fact k = p)) (fun _ i => 40 - (intOf i).toNat)
  case atStart => exact ⟨1, 1, Nat.le_refl _, .inr rfl, rfl, rfl, rfl⟩
  case round =>
    obtain ⟨k, p, hk1, hk, rfl, rfl, hp⟩ := hrel
    by_cases hlt : k < n
    · have hlt2 : (k : Int) + 1 ≤ (n : Int) := by omega
      have hs := M.fact_small (n := k + 1) (by omega)
      obtain ⟨q, hq⟩ : ∃ q, Hid (M.fact (k + 1) = q) := ⟨_, rfl⟩
      have hqe : (p : Int) * ((k : Int) + 1) = (q : Int) := by rw [← hq.out, M.fact, hp.out, Int.natCast_mul]; rfl
      rw [hq.out] at hs
      go_wp2
      go_round
      case rel => exact ⟨k + 1, q, by omega, .inl (by omega), by go_num, rfl, hq⟩
      case measure => simp [intOf]; omega
    · have hge : ¬ (k : Int) + 1 ≤ (n : Int) := by omega
      have he : Hid (M.fact n = p) := by
        show _ = _
        rw [← hp.out]
        rcases Nat.lt_or_ge n 1 with h1 | h1
        · obtain rfl : n = 0 := by omega
          obtain rfl : k = 1 := by omega
          rfl
        · obtain rfl : k = n := by omega
          rfl
      go_wp2
      go_ret
      exact ⟨by rw [he.out]; rfl, rfl⟩

theorem good_parts {xs : List Int} (h : M.good xs = true) : (1 ≤ xs.length ∧ xs.length ≤ 30) ∧ M.lastOf xs ≠ 0 ∧ M.okTo xs xs.length = true := by
  simpa [M.good] using h

set_option maxHeartbeats 2000000 in
theorem impl_CountByCounts : GivesNumI 45 F_CountByCounts := by
  intro A xs c w hx hcc h hv
  have hc := areCounts A xs c w (by omega) hv h _ rfl
  cases hg : M.good xs
  · rw [hg] at hc
    have HC := Lib.hid hc
    have hF : F_CountByCounts xs = (0, 2) := by rw [F_CountByCounts, hg]; rfl
    rw [hF]
    clear hc hg hF
    go_enter Try.func45, Try.ntmps45
    go_wp2_with fail
    refine HC.out.mono ?_
    rintro e w' ⟨rfl, rfl⟩
    go_wp2
    go_ret2
    exact ⟨rfl, b0 _⟩
  · rw [hg] at hc
    have HC := Lib.hid hc
    obtain ⟨⟨hl1, hl2⟩, _, hok0⟩ := good_parts hg
    have hok := Lib.hid hok0
    have hs20 := M.okTo_sum hok0
    obtain ⟨N, hN0⟩ := Int.eq_ofNat_of_zero_le hs20.1
    have hN := Lib.hid hN0
    have hN20 : N ≤ 20 := by omega
    have hF : Hid (F_CountByCounts xs = if M.kidI xs xs.length = (N : Int) - 1 then ((M.outTo xs N xs.length : Int) / (N : Int), 0) else (0, 5)) := by
      show _ = _
      rw [F_CountByCounts, hg, hN0, Int.toNat_natCast]
      rfl
    obtain ⟨b, off, rfl, hbB, hcells⟩ := h (by omega)
    have Hcells := Lib.hid hcells
    have hsumLe : Hid (∀ k, k ≤ xs.length → 0 ≤ M.sumI xs k ∧ M.sumI xs k ≤ 20 ∧ 0 ≤ M.kidI xs k ∧ M.kidI xs k ≤ 600) := fun k hk => by
      have h1 := M.okTo_mono hk hok0
      have h2 := M.okTo_sum h1
      have h3 := kid_small k (by omega) h1
      omega
    obtain ⟨r1, r2, hR⟩ : ∃ r1 r2, Hid (F_CountByCounts xs = (r1, r2)) := ⟨_, _, rfl⟩
    rw [hR.out]
    clear hc hg hok0 hs20 hN0 hcells
    go_enter Try.func45, Try.ntmps45
    go_wp2_with fail
    refine HC.out.mono ?_
    rintro e w' ⟨rfl, rfl⟩
    clear HC
    go_wp2
    go_loop [4, 5, 6, 7, 16] (fun s4 s5 _ _ i => ∃ (k : Nat) (z y : Int), k ≤ xs.length ∧ i = .int .i64 (k : Int) ∧ s4 = .int .i64 z ∧ s5 = .int .i64 y ∧ Hid (M.sumI xs k = z) ∧ Hid (M.kidI xs k = y)) (fun _ _ _ _ i => xs.length - (intOf i).toNat)
    case atStart => exact ⟨0, 0, 0, Nat.zero_le _, rfl, rfl, rfl, rfl, rfl⟩
    case round =>
      obtain ⟨k, z, y, hk, rfl, rfl, rfl, hz, hy⟩ := hrel
      have hle := hsumLe.out k hk
      rw [hz.out, hy.out] at hle
      have hz0 := hle.1
      have hz1 := hle.2.1
      have hy0 := hle.2.2.1
      have hy1 := hle.2.2.2
      clear hle
      by_cases hlt : k < xs.length
      · obtain ⟨x, hX⟩ : ∃ x, xs[k]? = some x := ⟨_, List.getElem?_eq_getElem hlt⟩
        have g := Hcells.out k _ hX
        have hx2 := M.okTo_item hok.out hlt hX
        have hx3 := hx2.1
        have hx4 := hx2.2
        obtain ⟨v, hve⟩ : ∃ v, (k : Int) * x = v := ⟨_, rfl⟩
        have hs1 : Hid (M.sumI xs (k + 1) = z + x) := by show _ = _; rw [M.sumI_at hX, hz.out]
        have hs2 : Hid (M.kidI xs (k + 1) = y + v) := by show _ = _; rw [M.kidI_at hX, hy.out, hve]
        have hle2 := hsumLe.out (k + 1) (by omega)
        rw [hs1.out, hs2.out] at hle2
        have hv0 : 0 ≤ v := by rw [← hve]; exact Int.mul_nonneg (by omega) hx3
        have hv1 : v ≤ 600 := by omega
        clear hx2 hX hle2
        go_wp2
        go_round
        case rel => exact ⟨k + 1, z + x, y + v, by omega, by go_num, rfl, rfl, hs1, hs2⟩
        case measure => simp [intOf]; omega
      · obtain rfl : k = xs.length := by omega
        obtain rfl : z = (N : Int) := hz.out.symm.trans hN.out
        by_cases hne : y = (N : Int) - 1
        · have hq : (y != (N : Int) - 1) = false := by simp [hne]
          have hne2 : Hid (M.kidI xs xs.length = (N : Int) - 1) := hy.out.trans hne
          have hN1 : 1 ≤ N := by omega
          clear hne
          go_wp2_with fail
          refine (factorial N _ hN20).mono ?_
          rintro e w' ⟨rfl, rfl⟩
          have hf0 := M.fact_small hN20
          have hord0 : Hid (M.ordTo xs N 0 = M.fact N) := rfl
          generalize M.fact N = f0 at hord0 hf0
          go_wp2
          go_loop [8, 10, 38] (fun s8 _ i => ∃ (k a : Nat), k ≤ xs.length ∧ i = .int .i64 (k : Int) ∧ s8 = .int .i64 (a : Int) ∧ Hid (M.ordTo xs N k = a)) (fun _ _ i => xs.length - (intOf i).toNat)
          case atStart => exact ⟨0, f0, Nat.zero_le _, rfl, rfl, hord0⟩
          case round =>
            obtain ⟨k, a, hk, rfl, rfl, ha⟩ := hrel
            have ha1 := M.ord_small (xs := xs) (n := N) hN20 k
            rw [ha.out] at ha1
            by_cases hlt : k < xs.length
            · obtain ⟨x, hX⟩ : ∃ x, xs[k]? = some x := ⟨_, List.getElem?_eq_getElem hlt⟩
              have g := Hcells.out k _ hX
              have hx2 := M.okTo_item hok.out hlt hX
              obtain ⟨cx, rfl⟩ := Int.eq_ofNat_of_zero_le hx2.1
              have hcx : M.cN xs k = cx := by simp [M.cN, hX]
              have hs := M.ordTo.eq_2 xs N k
              rw [hcx, ha.out] at hs
              have hf1 := M.fact_pos cx
              have hf2 := M.fact_small (n := cx) (by omega)
              have hfc := factorial cx w (by omega)
              generalize M.fact cx = f at *
              obtain ⟨q, hq⟩ : ∃ q, Hid (a / f = q) := ⟨_, rfl⟩
              rw [hq.out] at hs
              have hqb : q ≤ 2432902008176640000 := by rw [← hq.out]; exact Nat.le_trans (Nat.div_le_self _ _) ha1
              have hqe : (a : Int) / (f : Int) = (q : Int) := by rw [← hq.out, Int.natCast_ediv]
              have Hs := Lib.hid hs
              have Hfc := Lib.hid hfc
              clear hs hX hx2 hcx hfc
              go_wp2_with fail
              refine Hfc.out.mono ?_
              rintro e w' ⟨rfl, rfl⟩
              go_wp2
              go_round
              case rel => exact ⟨k + 1, q, by omega, by go_num, rfl, Hs⟩
              case measure => simp [intOf]; omega
            · obtain rfl : k = xs.length := by omega
              have he : Hid (M.outTo xs N xs.length = a) := by show _ = _; rw [← M.out_end hok.out hN.out, ha.out]
              obtain ⟨q, hq⟩ : ∃ q, Hid (a / N = q) := ⟨_, rfl⟩
              have hqb : q ≤ 2432902008176640000 := by rw [← hq.out]; exact Nat.le_trans (Nat.div_le_self _ _) ha1
              have hqe : (a : Int) / (N : Int) = (q : Int) := by rw [← hq.out, Int.natCast_ediv]
              go_wp2
              go_ret2
              have hfin := hR.out.symm.trans (hF.out.trans (if_pos hne2.out))
              rw [he.out, hqe] at hfin
              injection hfin with e1 e2
              exact ⟨by rw [e1, e2]; try rfl, b0 _⟩
        · have hq : (y != (N : Int) - 1) = true := by simp [hne]
          have hne2 : ¬ M.kidI xs xs.length = (N : Int) - 1 := by rw [hy.out]; exact hne
          have Hne2 := Lib.hid hne2
          clear hne hne2
          go_wp2
          go_ret2
          have hfin := hR.out.symm.trans (hF.out.trans (if_neg Hne2.out))
          injection hfin with e1 e2
          exact ⟨by rw [e1, e2]; try rfl, b0 _⟩

set_option maxHeartbeats 4000000 in
theorem spec_CountByCounts : GivesNumI 43 F_CountByCounts := by
  intro A xs c w hx hcc h hv
  obtain ⟨r1, r2, hR⟩ : ∃ r1 r2, Hid (F_CountByCounts xs = (r1, r2)) := ⟨_, _, rfl⟩
  by_cases hl : 1 ≤ xs.length ∧ xs.length ≤ 30
  · obtain ⟨hl1, hl2⟩ := hl
    obtain ⟨y, hy⟩ : ∃ y, xs[xs.length - 1]? = some y := ⟨_, List.getElem?_eq_getElem (by omega)⟩
    have hlast : M.lastOf xs = y := by simp [M.lastOf, hy]
    have hgd : Hid (M.good xs = (!(y == 0) && M.okTo xs xs.length)) := by show _ = _; simp [M.good, hl1, hl2, hlast]
    obtain ⟨b, off, rfl, hbB, hcells⟩ := h (by omega)
    have Hcells := Lib.hid hcells
    have cl := hcells _ _ hy
    have hlm : (0 : Int) ≤ (xs.length : Int) - 1 := by omega
    have hd1 : ¬ (xs.length : Int) < 1 := by omega
    have hd2 : ¬ (30 : Int) < (xs.length : Int) := by omega
    have Hv := Lib.hid hv
    rw [hR.out]
    clear hcells hy hlast hv
    by_cases hy0 : y = 0
    · have hq : (y == 0) = true := by simp [hy0]
      have hfin := hR.out
      rw [F_CountByCounts, hgd.out, hq] at hfin
      have Hfin : Hid ((0, 2) = (r1, r2)) := hfin
      clear hy0 hfin
      go_enter Try.func43, Try.ntmps43
      go_wp2
      go_ret2
      have hfin := Hfin.out
      injection hfin with e1 e2
      exact ⟨by rw [← e1, ← e2]; try rfl, b0 _⟩
    · have hq : (y == 0) = false := by simp [hy0]
      have hgk : Hid (M.good xs = M.okTo xs xs.length) := by show _ = _; rw [hgd.out, hq]; rfl
      clear hy0 hgd
      go_enter Try.func43, Try.ntmps43
      go_wp2
      clear cl
      go_loop [4, 5, 6] (fun s4 s5 i => ∃ (k : Nat) (z v : Int), k ≤ xs.length ∧ i = .int .i64 (k : Int) ∧ s4 = .int .i64 z ∧ s5 = .int .i64 v ∧ Hid (M.sumI xs k = z) ∧ Hid (M.kidI xs k = v) ∧ 0 ≤ z ∧ z ≤ 20 * (k : Int) ∧ 0 ≤ v ∧ v ≤ 600 * (k : Int) ∧ Hid (∀ i, i < k → 0 ≤ xs[i]?.getD 0)) (fun _ _ i => xs.length - (intOf i).toNat)
      case atStart => exact ⟨0, 0, 0, Nat.zero_le _, rfl, rfl, rfl, rfl, rfl, by omega, by omega, by omega, by omega, fun i hi => by omega⟩
      case round =>
        obtain ⟨k, z, v, hk, rfl, rfl, rfl, hz, hve, hz0, hz1, hv0, hv1, hall⟩ := hrel
        by_cases hlt : k < xs.length
        · obtain ⟨x, hX⟩ : ∃ x, xs[k]? = some x := ⟨_, List.getElem?_eq_getElem hlt⟩
          have g := Hcells.out k _ hX
          obtain ⟨b2, hb2⟩ : ∃ b2, Hid ((decide ((0 : Int) ≤ x) && decide (x ≤ 20)) = b2) := ⟨_, rfl⟩
          have HX := Lib.hid hX
          clear hX
          cases b2
          · have hbad : Hid (M.okTo xs xs.length = false) := by
              show _ = _
              cases hq2 : M.okTo xs xs.length
              · rfl
              · have := M.okTo_item hq2 hlt HX.out
                have h2 := hb2.out
                simp only [Bool.and_eq_false_iff, decide_eq_false_iff_not] at h2
                omega
            have hfin := hR.out
            rw [F_CountByCounts, hgk.out, hbad.out] at hfin
            have Hfin : Hid ((0, 2) = (r1, r2)) := hfin
            clear hfin
            go_wp2_with (go_at_call 66; refine (inAny _ _ _ _ _ hb2).mono ?_; rintro e w' ⟨rfl, rfl⟩)
            go_ret2
            have hfin := Hfin.out
            injection hfin with e1 e2
            exact ⟨by rw [← e1, ← e2]; try rfl, b0 _⟩
          · have hx2 := hb2.out
            simp only [Bool.and_eq_true, decide_eq_true_eq] at hx2
            have hx3 := hx2.1
            have hx4 := hx2.2
            obtain ⟨u, hue⟩ : ∃ u, (k : Int) * x = u := ⟨_, rfl⟩
            have hu0 : 0 ≤ u := by rw [← hue]; exact Int.mul_nonneg (by omega) hx3
            have hu1 : u ≤ 600 := by
              rw [← hue]
              have h1 : (k : Int) * x ≤ 30 * x := Int.mul_le_mul_of_nonneg_right (by omega) hx3
              omega
            have hs1 : Hid (M.sumI xs (k + 1) = z + x) := by show _ = _; rw [M.sumI_at HX.out, hz.out]
            have hs2 : Hid (M.kidI xs (k + 1) = v + u) := by show _ = _; rw [M.kidI_at HX.out, hve.out, hue]
            have hall2 : Hid (∀ i, i < k + 1 → 0 ≤ xs[i]?.getD 0) := fun i hi => by
              rcases Nat.lt_or_ge i k with h1 | h1
              · exact hall.out i h1
              · obtain rfl : i = k := by omega
                rw [HX.out]; exact hx3
            clear hx2
            go_wp2_with (go_at_call 66; refine (inAny _ _ _ _ _ hb2).mono ?_; rintro e w' ⟨rfl, rfl⟩)
            go_round
            case rel => exact ⟨k + 1, z + x, v + u, by omega, by go_num, rfl, rfl, hs1, hs2, by omega, by omega, by omega, by omega, hall2⟩
            case measure => simp [intOf]; omega
        · obtain rfl : k = xs.length := by omega
          by_cases hz20 : 20 < z
          · have hbad : Hid (M.okTo xs xs.length = false) := by
              show _ = _
              cases hq2 : M.okTo xs xs.length
              · rfl
              · have := M.okTo_sum hq2
                rw [hz.out] at this
                omega
            have hfin := hR.out
            rw [F_CountByCounts, hgk.out, hbad.out] at hfin
            have Hfin : Hid ((0, 2) = (r1, r2)) := hfin
            clear hfin
            go_wp2
            go_ret2
            have hfin := Hfin.out
            injection hfin with e1 e2
            exact ⟨by rw [← e1, ← e2]; try rfl, b0 _⟩
          · have hok : Hid (M.okTo xs xs.length = true) := M.okTo_of hall.out (by rw [hz.out]; omega)
            obtain ⟨N, hN0⟩ := Int.eq_ofNat_of_zero_le hz0
            have hF : Hid ((if v = (N : Int) - 1 then ((M.outTo xs N xs.length : Int) / (N : Int), 0) else (0, 5)) = (r1, r2)) := by
              show _ = _
              rw [← hR.out, F_CountByCounts, hgk.out, hok.out, hz.out, hve.out, hN0, Int.toNat_natCast]
              rfl
            subst hN0
            have hN : Hid (M.sumI xs xs.length = (N : Int)) := hz
            have hN20 : N ≤ 20 := by omega
            have hn20 : ¬ (20 : Int) < (N : Int) := hz20
            clear hz hz20 hz0 hz1 hve
            by_cases hne : v = (N : Int) - 1
            · have hq3 : (v != (N : Int) - 1) = false := by simp [hne]
              have hF2 : Hid (((M.outTo xs N xs.length : Int) / (N : Int), 0) = (r1, r2)) := by have := hF.out; rw [if_pos hne] at this; exact this
              have hN1 : 1 ≤ N := by omega
              clear hne hF
              go_wp2
              go_loop [7, 8, 9] (fun s7 s8 i => ∃ (k a l : Nat), k ≤ xs.length ∧ i = .int .i64 (k : Int) ∧ s7 = .int .i64 (a : Int) ∧ s8 = .int .i64 (l : Int) ∧ Hid (M.outTo xs N k = a) ∧ Hid (M.leftTo xs N k = l)) (fun _ _ i => xs.length - (intOf i).toNat)
              case atStart => exact ⟨0, 1, N, Nat.zero_le _, rfl, rfl, rfl, rfl, rfl⟩
              case round =>
                obtain ⟨k, a, l, hk, rfl, rfl, rfl, ha, hle⟩ := hrel
                have ha1 := M.out_small hok.out hN.out hk
                rw [ha.out] at ha1
                by_cases hlt : k < xs.length
                · obtain ⟨x, hX⟩ : ∃ x, xs[k]? = some x := ⟨_, List.getElem?_eq_getElem hlt⟩
                  have g := Hcells.out k _ hX
                  have hx2 := M.okTo_item hok.out hlt hX
                  obtain ⟨cx, rfl⟩ := Int.eq_ofNat_of_zero_le hx2.1
                  have hcx : M.cN xs k = cx := by simp [M.cN, hX]
                  have hls := M.left_sum hok.out hN.out k hk
                  have hls2 := M.left_sum hok.out hN.out (k + 1) (by omega)
                  have hss := M.sumI_at hX
                  have h0s := M.okTo_sum (M.okTo_mono (j := k) hk hok.out)
                  rw [hle.out] at hls
                  have hl20 : l ≤ 20 := by omega
                  have hcl : cx ≤ l := by omega
                  have ho2 : M.outTo xs N (k + 1) = a * M.ch l (cx : Int) := by rw [M.outTo, ha.out, hle.out, hcx]
                  have hl3 : Hid (M.leftTo xs N (k + 1) = l - cx) := by show _ = _; rw [M.leftTo, hle.out, hcx]
                  have ho3 := M.out_small hok.out hN.out (k := k + 1) (by omega)
                  obtain ⟨f, hf⟩ : ∃ f, Hid (M.ch l (cx : Int) = f) := ⟨_, rfl⟩
                  rw [hf.out] at ho2
                  obtain ⟨q, hqq⟩ : ∃ q, Hid (a * f = q) := ⟨_, rfl⟩
                  rw [hqq.out] at ho2
                  rw [ho2] at ho3
                  have hqe : (a : Int) * (f : Int) = (q : Int) := by rw [← hqq.out, Int.natCast_mul]
                  have hsb : (l : Int) - (cx : Int) = ((l - cx : Nat) : Int) := by omega
                  have Ho2 := Lib.hid ho2
                  have hc := Lib.hid (l02Choose l (cx : Int) w (by omega) (by omega) (by omega) f hf)
                  obtain ⟨l2, hl2e⟩ : ∃ l2, Hid (l - cx = l2) := ⟨_, rfl⟩
                  rw [hl2e.out] at hl3 hsb
                  clear ho2 hX hx2 hcx hls hls2 hss h0s
                  go_wp2_with fail
                  refine hc.out.mono ?_
                  rintro e w' ⟨rfl, rfl⟩
                  go_wp2
                  go_round
                  case rel => exact ⟨k + 1, q, l2, by omega, by go_num, rfl, by rfl, Ho2, hl3⟩
                  case measure => simp [intOf]; omega
                · obtain rfl : k = xs.length := by omega
                  obtain ⟨q, hqq⟩ : ∃ q, Hid (a / N = q) := ⟨_, rfl⟩
                  have hqb : q ≤ 2432902008176640000 := by rw [← hqq.out]; exact Nat.le_trans (Nat.div_le_self _ _) ha1
                  have hqe : (a : Int) / (N : Int) = (q : Int) := by rw [← hqq.out, Int.natCast_ediv]
                  go_wp2
                  go_ret2
                  have hfin := hF2.out
                  rw [ha.out, hqe] at hfin
                  injection hfin with e1 e2
                  exact ⟨by rw [← e1, ← e2]; try rfl, b0 _⟩
            · have hq3 : (v != (N : Int) - 1) = true := by simp [hne]
              have hF2 : Hid ((0, 5) = (r1, r2)) := by have := hF.out; rw [if_neg hne] at this; exact this
              clear hne hF
              go_wp2
              go_ret2
              have hfin := hF2.out
              injection hfin with e1 e2
              exact ⟨by rw [← e1, ← e2]; try rfl, b0 _⟩
  · have hgd : M.good xs = false := by
      simp only [M.good, Bool.and_eq_false_iff, decide_eq_false_iff_not]
      omega
    have hfin := hR.out
    rw [F_CountByCounts, hgd] at hfin
    have Hfin : Hid ((0, 2) = (r1, r2)) := hfin
    rw [hR.out]
    clear hgd hfin
    by_cases hd1 : (xs.length : Int) < 1
    · go_enter Try.func43, Try.ntmps43
      go_wp2
      go_ret2
      have hfin := Hfin.out
      injection hfin with e1 e2
      exact ⟨by rw [← e1, ← e2]; try rfl, b0 _⟩
    · have hd2 : (30 : Int) < (xs.length : Int) := by omega
      go_enter Try.func43, Try.ntmps43
      go_wp2
      go_ret2
      have hfin := Hfin.out
      injection hfin with e1 e2
      exact ⟨by rw [← e1, ← e2]; try rfl, b0 _⟩
end Go.Proofs.Ytdaghbfejcjknab
