/- l05Reaches: the reaches of all nodes, the model's. -/
import Derived.Test.YtbnnlifpldgcfaaDistIn
import Derived.Test.YtbnnlifpldgcfaaPush
namespace Go.Proofs.Ytbnnlifpldgcfaa
open Go.RowKit

set_option maxHeartbeats 8000000 in
set_option maxRecDepth 100000 in
theorem l05Reaches (A : Option Addr) (xs : List Int) (c : Nat) (w : World) (ht : Hid (M.isTree xs = true)) (h : Hid (Ints w w.heap.size A xs)) :
    Calls Try.prog 65 #[.agg #[.slice A xs.length c]] w fun e w' => ∃ A' c', e = .returned (.slice A' xs.length c') ∧ Own64 w' w.heap.size (.slice A' xs.length c') (M.reaches xs) ∧ Hid (Below w.heap.size w w') := by
  have hl := M.tree_len ht.out
  have hE := Lib.hid (M.pars_ex ht.out)
  obtain ⟨n, hn⟩ : ∃ n, Hid (xs.length = n) := ⟨_, rfl⟩
  have HD : Hid (Calls Try.prog 73 #[.agg #[.slice A n c]] (w.alloc (.cells #[.slice A n c] 24)) fun e w' => ∃ A' c', e = .returned (.slice A' n c') ∧ Hid (Tab w' (w.alloc (.cells #[.slice A n c] 24)).heap.size (.slice A' n c') (M.distRows xs n)) ∧ Hid (Below (w.alloc (.cells #[.slice A n c] 24)).heap.size (w.alloc (.cells #[.slice A n c] 24)) w')) := by
    have := l05Distances A xs c (w.alloc (.cells #[.slice A xs.length c] 24)) ht (Lib.hid (h.out.al _))
    rw [hn.out] at this
    exact this
  rw [hn.out] at hl ⊢
  clear h
  go_enter Try.func65, Try.ntmps65
  go_wp2_with fail
  refine HD.out.mono ?_
  rintro e w1 ⟨A1, c1, rfl, hT, hb1⟩
  have hB1 := Lib.hid (btr (bal (b0 w) _) hb1.out)
  obtain ⟨G, rfl⟩ := hT.out.some_ (by omega)
  have HC : Hid (∀ (W' : World) (i j : Nat) , Below w1.heap.size w1 W' → i < n → j < n → ∃ a c', W'.cell? ⟨G, i, none⟩ = some (.slice (some ⟨a, 0, none⟩) n c') ∧ W'.cell? ⟨a, j, none⟩ = some (.int .i64 (M.dist xs i j : Int))) := fun W' i j hW hi hj => by
    obtain ⟨A2, c2, k1, k2, k3⟩ := (hT.out.be hW).at_ (M.distRows_at xs hi)
    rw [M.distRow_len, hn.out] at k1 k2
    obtain ⟨a, rfl⟩ : ∃ g, A2 = some ⟨g, 0, none⟩ := by
      rcases k2.2 with ⟨h0, _⟩ | ⟨g, cap, cur, hv, _⟩
      · injection h0 with _ e _; omega
      · injection hv with e1; exact ⟨g, e1⟩
    exact ⟨a, c2, k1, (own64_cell k2 (by rw [M.distRow_len]; exact hn.out) (M.distRow_at xs i (by rw [hn.out]; exact hj))).1⟩
  have h0 : Hid (Own64 (w1.alloc (.cells #[] 2)) w1.heap.size (.slice (some ⟨w1.heap.size, 0, none⟩) 0 0) (M.rowOf 0 (M.reach xs))) := own64_empty (Nat.le_refl _)
  have hb0 : Hid (Below w1.heap.size w1 (w1.alloc (.cells #[] 2))) := bal (b0 w1) _
  clear hT hb1 HD
  go_wp2
  go_loopw [4, 5, 6, 7] (fun q i _ _ wr => ∃ (v c' : Nat) (A' : Option Addr), v ≤ n ∧ i = .int .i64 v ∧ q = .slice A' v c' ∧ Hid (Own64 wr w1.heap.size (.slice A' v c') (M.rowOf v (M.reach xs))) ∧ Hid (Below w1.heap.size w1 wr)) (fun _ i _ _ _ => n - (intOf i).toNat)
  case atStart => exact ⟨0, 0, _, Nat.zero_le _, rfl, rfl, h0, hb0⟩
  case round =>
    obtain ⟨v, c', A', hv, rfl, rfl, ho, hb⟩ := hrel
    clear h0 hb0
    by_cases hlt : v < n
    · have hvl : (v : Int) < (n : Int) := by omega
      obtain ⟨wo, rfl⟩ : ∃ wo : World, wo = wr := ⟨_, rfl⟩
      have hm0 : Hid (M.maxTo (M.distRow xs v) 0 = 0) := rfl
      go_wp2
      go_loop [6, 7] (fun q i => ∃ (k : Nat) (y : Int), k ≤ n ∧ i = .int .i64 k ∧ q = .int .i64 y ∧ Hid (M.maxTo (M.distRow xs v) k = y)) (fun _ i => n - (intOf i).toNat)
      case atStart => exact ⟨0, 0, Nat.zero_le _, rfl, rfl, hm0⟩
      case round =>
        obtain ⟨k, y, hk, rfl, rfl, hy⟩ := hrel
        clear hm0
        by_cases hkn : k < n
        · obtain ⟨a, c2, k1, k2⟩ := HC.out wo v k hb.out hlt hkn
          have hs := Lib.hid (M.maxTo_step (M.distRow_at xs v (w := k) (by rw [hn.out]; exact hkn)) hy.out)
          have hkl : (k : Int) < (n : Int) := by omega
          have hv0 : (0 : Int) ≤ (v : Int) := by omega
          have hk0 : (0 : Int) ≤ (k : Int) := by omega
          generalize M.dist xs v k = d at *
          go_wp2
          all_goals
            go_round
            case rel => exact ⟨k + 1, _, by omega, by go_num, rfl, hs⟩
            case measure => simp [intOf]; omega
        · obtain rfl : k = n := by omega
          have hy2 : Hid (M.reach xs v = y) := by show _ = _; rw [M.reach, hn.out]; exact hy.out
          have zo := hb.out.size
          go_wp2_with (at_builtin; refine push64 rfl (.tmp 32) (.tmp 34) rfl wo w1.heap.size A' v c' (M.rowOf v (M.reach xs)) y rfl rfl ho zo (by omega) ?_; intro A3 c3 w3 ho3 hb3)
          rw [← hy2.out, ← M.rowOf_succ v (M.reach xs)] at ho3
          have hB3 : Hid (Below w1.heap.size w1 w3) := hb.out.trans hb3.out
          go_roundw
          case rel => exact ⟨v + 1, c3, A3, by omega, by go_num, rfl, ho3, hB3⟩
          case measure => simp [intOf]; omega
    · obtain rfl : v = n := by omega
      have z1 := hB1.out.size
      have hR : Hid (M.rowOf v (M.reach xs) = M.reaches xs) := by show _ = _; rw [M.reaches, hn.out]
      rw [hR.out] at ho
      have hrl : (M.reaches xs).length = v := by rw [M.reaches_len]; exact hn.out
      go_wp2
      go_ret
      refine ⟨A', c', rfl, own_mono ho.out z1, btr hB1.out hb.out⟩
end Go.Proofs.Ytbnnlifpldgcfaa
