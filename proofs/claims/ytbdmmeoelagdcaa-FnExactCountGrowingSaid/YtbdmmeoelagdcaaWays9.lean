/- ways: the number of growing orders with a beginning, as the program counts it; factorial. -/
import Derived.Test.YtbdmmeoelagdcaaHook
import Derived.Test.YtbdmmeoelagdcaaIndex
import Derived.Test.YtbdmmeoelagdcaaEnd
namespace Go.Proofs.Ytbdmmeoelagdcaa
open Go.RowKit

namespace M
theorem facN_pos : ∀ k, 1 ≤ facN k := by
  intro k
  induction k with
  | zero => exact Nat.le_refl _
  | succ k ih => rw [facN]; exact Nat.le_trans ih (Nat.le_mul_of_pos_left _ (by omega))
theorem facN_mono {a b : Nat} (h : a ≤ b) : facN a ≤ facN b := by
  induction b with
  | zero => obtain rfl : a = 0 := by omega
            exact Nat.le_refl _
  | succ b ih =>
    rcases Nat.lt_or_ge a (b + 1) with h1 | h1
    · rw [facN]; exact Nat.le_trans (ih (by omega)) (Nat.le_mul_of_pos_left _ (by omega))
    · obtain rfl : a = b + 1 := by omega
      exact Nat.le_refl _
theorem facN_20 {k : Nat} (h : k ≤ 20) : facN k ≤ 2432902008176640000 := Nat.le_trans (facN_mono h) (by decide)
theorem prodTo_pos {xs : List Int} (b : List Int) : ∀ k, k ≤ xs.length → 1 ≤ prodTo xs b k := by
  intro k
  induction k with
  | zero => intro _; exact Nat.le_refl _
  | succ k ih =>
    intro hk
    rw [prodTo]
    split
    · exact ih (by omega)
    · exact Nat.mul_pos (ih (by omega)) (span_pos (by omega))
theorem prodTo_mono {xs : List Int} (b : List Int) {k : Nat} : ∀ m, k ≤ m → m ≤ xs.length → prodTo xs b k ≤ prodTo xs b m := by
  intro m
  induction m with
  | zero => intro h _; obtain rfl : k = 0 := by omega
            exact Nat.le_refl _
  | succ m ih =>
    intro h hm
    rcases Nat.lt_or_ge k (m + 1) with h1 | h1
    · refine Nat.le_trans (ih (by omega) (by omega)) ?_
      rw [prodTo]
      split
      · exact Nat.le_refl _
      · exact Nat.le_mul_of_pos_right _ (span_pos (by omega))
    · obtain rfl : k = m + 1 := by omega
      exact Nat.le_refl _
theorem prodTo_le {xs ps b : List Int} (ht : isTree xs = true) (hp : ParsOK xs ps) (hb : Bgn xs.length ps b) (h20 : xs.length ≤ 20) {k : Nat} (hk : k ≤ xs.length) : prodTo xs b k ≤ 2432902008176640000 := by
  have hl := bgn_len hb
  have h1 := Nat.le_of_dvd (facN_pos _) (hook_dvd ht hp (xs.length - b.length) b hb (by omega))
  exact Nat.le_trans (prodTo_mono b xs.length hk (Nat.le_refl _)) (Nat.le_trans h1 (facN_20 (by omega)))
/-- the number of growing orders with a beginning -/
def waysN (xs b : List Int) : Nat := facN (xs.length - b.length) / prodTo xs b xs.length
end M

set_option maxHeartbeats 1000000 in
theorem factorial9 (n : Nat) (w : World) (hn : n ≤ 20) : Calls Try.prog 151 #[.int .i64 (n : Int)] w fun e w' => e = .returned (.int .i64 (M.facN n : Int)) ∧ w = w' := by
  go_enter Try.func151, Try.ntmps151
  go_wp2
  go_loop [3, 4] (fun q i => ∃ (k p : Nat), 1 ≤ k ∧ (k ≤ n ∨ k = 1) ∧ i = .int .i64 ((k : Int) + 1) ∧ q = .int .i64 (p : Int) ∧ Hid (M.facN k = p)) (fun _ i => 40 - (intOf i).toNat)
  case atStart => exact ⟨1, 1, Nat.le_refl _, .inr rfl, rfl, rfl, rfl⟩
  case round =>
    obtain ⟨k, p, hk1, hk, rfl, rfl, hp⟩ := hrel
    by_cases hlt : k < n
    · have hlt2 : (k : Int) + 1 ≤ (n : Int) := by omega
      have hs := M.facN_20 (k := k + 1) (by omega)
      obtain ⟨q, hq⟩ : ∃ q, Hid (M.facN (k + 1) = q) := ⟨_, rfl⟩
      have hqe : (p : Int) * ((k : Int) + 1) = (q : Int) := by rw [← hq.out, M.facN, hp.out, Int.natCast_mul, Int.mul_comm]; rfl
      rw [hq.out] at hs
      go_wp2
      go_round
      case rel => exact ⟨k + 1, q, by omega, .inl (by omega), by go_num, rfl, hq⟩
      case measure => simp [intOf]; omega
    · have hge : ¬ (k : Int) + 1 ≤ (n : Int) := by omega
      have he : Hid (M.facN n = p) := by
        show _ = _
        rw [← hp.out]
        rcases Nat.lt_or_ge n 1 with h1 | h1
        · obtain rfl : n = 0 := by omega
          obtain rfl : k = 1 := by omega
          rfl
        · obtain rfl : k = n := by omega
          rfl
      go_wp2
      go_ret
      exact ⟨by rw [he.out]; rfl, rfl⟩

theorem order_cells9 (w : World) (u v : Value) (t : TypeId) : (w.alloc (.cells #[u, v] t)).cell? ⟨w.heap.size, 0, none⟩ = some u ∧ (w.alloc (.cells #[u, v] t)).cell? ⟨w.heap.size, 1, none⟩ = some v :=
  ⟨by have := World.cell?_alloc_new w #[u, v] t 0; rw [this]; rfl, by have := World.cell?_alloc_new w #[u, v] t 1; rw [this]; rfl⟩

set_option maxHeartbeats 4000000 in
set_option maxRecDepth 100000 in
theorem ways9 (A A2 : Option Addr) (xs b : List Int) (n c L c2 : Nat) (w : World) (hn : Hid (xs.length = n)) (h20 : n ≤ 20) (hc1 : n ≤ c) (hc2 : c ≤ 1000000000000) (ht : Hid (M.isTree xs = true)) (hbg : Hid (M.Bgn n (M.parents xs) b)) (hL : Hid (b.length = L)) (hex : Hid (M.ParsOK xs (M.parents xs))) (h : Hid (Ints w w.heap.size A xs)) (h2 : Hid (Ints w w.heap.size A2 b)) :
    Calls Try.prog 113 #[.agg #[.slice A n c, .slice A2 L c2]] w fun e w' => e = .returned (.int .i64 (M.waysN xs b : Int)) ∧ Below w.heap.size w w' := by
  have hbg' : M.Bgn xs.length (M.parents xs) b := by rw [hn.out]; exact hbg.out
  have hLn : L ≤ n := by rw [← hL.out]; exact M.bgn_len hbg.out
  have hle := Lib.hid (fun k (hk : k ≤ xs.length) => M.prodTo_le ht.out hex.out hbg' (by rw [hn.out]; exact h20) hk)
  obtain ⟨d0, d1⟩ := order_cells9 w (.slice A n c) (.slice A2 L c2) 118
  have hB0 := Lib.hid (bal (b0 w) (.cells #[.slice A n c, .slice A2 L c2] 118))
  have H1 := Lib.hid (h.out.al (.cells #[.slice A n c, .slice A2 L c2] 118))
  have H2 := Lib.hid (h2.out.al (.cells #[.slice A n c, .slice A2 L c2] 118))
  obtain ⟨W, hW⟩ : ∃ W, W = w.alloc (.cells #[.slice A n c, .slice A2 L c2] 118) := ⟨_, rfl⟩
  rw [← hW] at d0 d1 hB0 H1 H2
  have hst : Hid (M.prodTo xs b 0 = 1) := rfl
  have hsz : Hid (∀ (v S : Nat), v < n → M.sz xs v = S → Calls Try.prog 150 #[.slice A n c, .int .i64 (v : Int)] W fun e w' => e = .returned (.int .i64 (S : Int)) ∧ W = w') := fun v S hv hS => by
    have := sizeAt A xs c v S W hS (by rw [hn.out]; omega) (by rw [hn.out]; exact hc1) (by omega) (M.tree_ok ht.out (by rw [hn.out]; exact hv)) H1.out
    rw [hn.out] at this
    exact this.mono fun e w' ⟨he, hw⟩ => ⟨he, hw⟩
  clear h h2 hbg'
  go_enter Try.func113, Try.ntmps113
  go_wp2
  rw [← hW]
  clear hW
  go_loop [4, 5, 11] (fun q _ i => ∃ (k p : Nat), k ≤ n ∧ i = .int .i64 (k : Int) ∧ q = .int .i64 (p : Int) ∧ Hid (M.prodTo xs b k = p)) (fun _ _ i => n - (intOf i).toNat)
  case atStart => exact ⟨0, 1, Nat.zero_le _, rfl, rfl, hst⟩
  case round =>
    obtain ⟨k, p, hk, rfl, rfl, hp⟩ := hrel
    clear hst
    by_cases hlt : k < n
    · have hki : (k : Int) < (n : Int) := by omega
      obtain ⟨q, hq⟩ : ∃ q, Hid (decide ((k : Int) ∈ b) = q) := ⟨_, rfl⟩
      have HC := Lib.hid (containsIs A2 b L c2 (k : Int) W hL (by omega) H2 q hq)
      cases q
      · obtain ⟨S, hS⟩ : ∃ S, Hid (M.sz xs k = S) := ⟨_, rfl⟩
        have hs : Hid (M.prodTo xs b (k + 1) = p * S) := by show _ = _; rw [M.prodTo, if_neg (of_decide_eq_false hq.out), hp.out, hS.out]
        have hbd := hle.out (k + 1) (by rw [hn.out]; omega)
        rw [hs.out] at hbd
        obtain ⟨r, hr⟩ : ∃ r, Hid (p * S = r) := ⟨_, rfl⟩
        rw [hr.out] at hbd hs
        have hmul : (p : Int) * (S : Int) = (r : Int) := by rw [← hr.out, Int.natCast_mul]
        have HS := Lib.hid (hsz.out k S hlt hS.out)
        go_wp2_with fail
        refine HC.out.mono ?_
        rintro e w' ⟨rfl, rfl⟩
        go_wp2_with fail
        refine HS.out.mono ?_
        rintro e w' ⟨rfl, rfl⟩
        go_wp2
        go_round
        case rel => exact ⟨k + 1, r, by omega, by go_num, rfl, hs⟩
        case measure => simp [intOf]; omega
      · have hs : Hid (M.prodTo xs b (k + 1) = p) := by show _ = _; rw [M.prodTo, if_pos (of_decide_eq_true hq.out), hp.out]
        go_wp2_with fail
        refine HC.out.mono ?_
        rintro e w' ⟨rfl, rfl⟩
        go_wp2
        go_round
        case rel => exact ⟨k + 1, p, by omega, by go_num, rfl, hs⟩
        case measure => simp [intOf]; omega
    · obtain rfl : k = n := by omega
      have hge : ¬ (k : Int) < (k : Int) := by omega
      have hwr : IntKind.i64.wrap ((k : Int) - (L : Int)) = ((k - L : Nat) : Int) := by rw [show (k : Int) - (L : Int) = ((k - L : Nat) : Int) by omega]; exact IntWalk.i64_in _ (by omega)
      have HF := Lib.hid (factorial9 (k - L) W (by omega))
      obtain ⟨f, hf⟩ : ∃ f, Hid (M.facN (k - L) = f) := ⟨_, rfl⟩
      rw [hf.out] at HF
      have hf20 : f ≤ 2432902008176640000 := by rw [← hf.out]; exact M.facN_20 (by omega)
      have hp1 : 1 ≤ p := by rw [← hp.out]; exact M.prodTo_pos b k (by rw [hn.out]; exact Nat.le_refl _)
      have hp0 : ¬ (p : Int) = 0 := by omega
      obtain ⟨u, hu⟩ : ∃ u, Hid (f / p = u) := ⟨_, rfl⟩
      have hR : Hid (M.waysN xs b = u) := by show _ = _; rw [M.waysN, hn.out, hL.out, hf.out, hp.out, hu.out]
      have hdl : u ≤ f := by rw [← hu.out]; exact Nat.div_le_self _ _
      have hq : IntKind.i64.wrap ((f : Int).tdiv (p : Int)) = (u : Int) := by
        rw [show (f : Int).tdiv (p : Int) = (u : Int) by rw [← Int.ofNat_tdiv, hu.out]]
        exact IntWalk.i64_in _ (by omega)
      have h9 : (f : Int) / (p : Int) = (u : Int) := by rw [← hu.out]; exact (Int.natCast_ediv f p).symm
      have hq9 : Hid (wrap64 ((f : Int) / (p : Int)) = (u : Int)) := by show _ = _; rw [h9]; exact IntWalk.wrap64_in _ ⟨by omega, by omega⟩
      clear h9 hq
      go_wp2_with fail
      refine HF.out.mono ?_
      rintro e w' ⟨rfl, rfl⟩
      go_wp2
      go_ret
      exact ⟨by rw [hR.out, ← hq9.out]; rfl, hB0.out⟩
end Go.Proofs.Ytbdmmeoelagdcaa
