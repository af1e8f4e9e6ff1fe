/- l09Decreasing: the decreasing binary tree of a list, as the model makes its text. Written by gendec.py. -/
import Derived.Test.YtgnhmhfianmckaaDecIn
namespace Go.Proofs.Ytgnhmhfianmckaa
open Go.RowKit

set_option maxHeartbeats 8000000 in
set_option maxRecDepth 100000 in
theorem l09Decreasing : ∀ (f : Nat) (A : Option Addr) (l : List Int) (n c : Nat) (w : World), Hid (l.length = n) → n ≤ f → n ≤ 1000 → n ≤ c ∧ c ≤ 1000000000000 → Hid (Ints w w.heap.size A l) →
    Calls Try.prog 93 #[.slice A n c] w fun e w' => e = .returned (.string (M.dec f l)) ∧ Below w.heap.size w w' := by
  intro f
  induction f with
  | zero =>
    intro A l n c w hn hf h1000 hc h
    obtain rfl : n = 0 := by omega
    rw [M.dec_nil hn.out]
    go_enter Try.func93, Try.ntmps93
    go_wp2
    go_ret
    exact ⟨rfl, Below.refl _ _⟩
  | succ f ih =>
    intro A l n c w hn hf h1000 hc h
    by_cases hn0 : n = 0
    · subst hn0
      rw [M.dec_nil hn.out]
      clear ih
      go_enter Try.func93, Try.ntmps93
      go_wp2
      go_ret
      exact ⟨rfl, Below.refl _ _⟩
    · have hne : ((n : Int) == 0) = false := by simp; omega
      have hkl := M.mxTo_lt l n (by omega)
      have hmx : Hid (M.mx l = M.mxTo l n) := by show _ = _; rw [M.mx, hn.out]
      obtain ⟨b, off, e2, hbl, hcs⟩ := h.out (by rw [hn.out]; omega)
      subst e2
      have Hcs := Lib.hid (fun W (hW : Below w.heap.size w W) (j : Nat) (x : Int) (hx : l[j]? = some x) => (hW.cell (p := ⟨b, off + j, none⟩) hbl).trans (hcs j x hx))
      have hst : Hid (M.mxTo l 1 = 0) := M.mxTo_one l
      clear hcs
      go_enter Try.func93, Try.ntmps93
      go_wp2
      go_loopw [3, 4] (fun at_ i wr => ∃ (k q : Nat), 1 ≤ k ∧ k ≤ n ∧ i = .int .i64 (k : Int) ∧ at_ = .int .i64 (q : Int) ∧ Hid (M.mxTo l k = q) ∧ Hid (Below w.heap.size w wr)) (fun _ i _ => n - (intOf i).toNat)
      case atStart => exact ⟨1, 0, Nat.le_refl _, by omega, rfl, rfl, hst, Below.refl _ _⟩
      case round =>
        obtain ⟨j, q, hj1, hj, rfl, rfl, hq, hbr⟩ := hrel
        clear hst
        by_cases hlt : j < n
        · have hqj := M.mxTo_lt l j hj1
          rw [hq.out] at hqj
          obtain ⟨x, hx⟩ : ∃ x, l[q]? = some x := ⟨_, List.getElem?_eq_getElem (by rw [hn.out]; omega)⟩
          obtain ⟨y, hy⟩ : ∃ y, l[j]? = some y := ⟨_, List.getElem?_eq_getElem (by rw [hn.out]; omega)⟩
          have g1 := Hcs.out wr hbr.out q x hx
          have g2 := Hcs.out wr hbr.out j y hy
          have hs := Lib.hid (M.mxTo_step (by rw [hq.out]; exact hx) hy)
          rw [hq.out] at hs
          have hbd := Lib.hid hbr.out.drew
          have hji : (j : Int) < (n : Int) := by omega
          have hj0 : (0 : Int) ≤ (j : Int) := by omega
          have hqi : (q : Int) < (n : Int) := by omega
          have hq0 : (0 : Int) ≤ (q : Int) := by omega
          clear hx hy
          by_cases hxy : x < y
          · have hs2 : Hid (M.mxTo l (j + 1) = j) := by show _ = _; rw [hs.out, if_pos hxy]
            go_wp2
            go_region
            all_goals
              go_wp2
              go_roundw
              case rel => exact ⟨j + 1, j, by omega, by omega, by go_num, rfl, hs2, hbd⟩
              case measure => simp [intOf]; omega
          · have hs2 : Hid (M.mxTo l (j + 1) = q) := by show _ = _; rw [hs.out, if_neg hxy]
            go_wp2
            go_region
            all_goals
              go_wp2
              go_roundw
              case rel => exact ⟨j + 1, q, by omega, by omega, by go_num, rfl, hs2, hbd⟩
              case measure => simp [intOf]; omega
        · obtain rfl : j = n := by omega
          obtain ⟨k, hk⟩ : ∃ k, Hid (k = q) := ⟨_, rfl⟩
          have hkq := hk.out
          subst hkq
          have hge : ¬ (j : Int) < (j : Int) := by omega
          rw [hq.out] at hkl hmx
          have hR0 := Lib.hid (M.dec_cons (f := f) (l := l) (by rw [hn.out]; exact hn0))
          rw [hmx.out] at hR0
          obtain ⟨a, ha⟩ : ∃ a, Hid (M.dec f (l.take k) = a) := ⟨_, rfl⟩
          obtain ⟨d, hd⟩ : ∃ d, Hid (M.dec f (l.drop (k + 1)) = d) := ⟨_, rfl⟩
          have hR : Hid (M.dec (f + 1) l = ⟨#[49]⟩ ++ a ++ d) := by show _ = _; rw [hR0.out, ha.out, hd.out]
          have ht1 : (l.take k).length = k := by rw [List.length_take, hn.out]; omega
          have ht2 : (l.drop (k + 1)).length = j - (k + 1) := by rw [List.length_drop, hn.out]
          have hsa : a.size ≤ 1000000 := by rw [← ha.out, M.dec_size f _ (by omega)]; omega
          have hsd : d.size ≤ 1000000 := by rw [← hd.out, M.dec_size f _ (by omega)]; omega
          have hs1 : ¬ 9223372036854775807 < 1 + a.size := by omega
          have hs2 : ¬ 9223372036854775807 < 1 + a.size + d.size := by omega
          have hI1 : ∀ X, Hid (Below w.heap.size w X) → Calls Try.prog 93 #[.slice (some ⟨b, off, none⟩) k c] X fun e w' => e = .returned (.string a) ∧ Hid (Below w.heap.size w w') := fun X hX => by
            rw [← ha.out]
            exact (ih (some ⟨b, off, none⟩) (l.take k) k c X ht1 (by omega) (by omega) (by omega) (Lib.hid (ints_take k (h.out.be hX.out)))).mono fun e w' ⟨he, hb⟩ => ⟨he, btr hX.out hb⟩
          have hI2 : ∀ A' X, Hid (Below w.heap.size w X) → Hid (j = k + 1 ∨ A' = some ⟨b, off + (k + 1), none⟩) → Calls Try.prog 93 #[.slice A' (j - (k + 1)) (c - (k + 1))] X fun e w' => e = .returned (.string d) ∧ Hid (Below w.heap.size w w') := fun A' X hX hA => by
            rw [← hd.out]
            refine (ih A' (l.drop (k + 1)) (j - (k + 1)) (c - (k + 1)) X ht2 (by omega) (by omega) (by omega) ?_).mono fun e w' ⟨he, hb⟩ => ⟨he, btr hX.out hb⟩
            rcases hA.out with e | e
            · show Ints _ _ _ _
              rw [List.length_eq_zero_iff.1 (by rw [ht2]; omega : (l.drop (k + 1)).length = 0)]
              exact Ints.nil_ _ _ _
            · subst e; exact ints_drop (k + 1) (h.out.be hX.out)
          have HI1 := Lib.hid hI1
          have HI2 := Lib.hid hI2
          have hk0 : (0 : Int) ≤ (k : Int) := by omega
          have hkc : (k : Int) ≤ (c : Int) := by omega
          have hw1 : IntKind.i64.wrap ((k : Int) + 1) = (k : Int) + 1 := IntWalk.i64_in _ (by omega)
          have hk1 : (0 : Int) ≤ (k : Int) + 1 := by omega
          have hkn : (k : Int) + 1 ≤ (j : Int) := by omega
          have hnc : (j : Int) ≤ (c : Int) := by omega
          have hton : ((k : Int) + 1).toNat = k + 1 := by omega
          have hK0 : Hid (Below w.heap.size w wr.drew) := hbr.out.drew
          clear hI1 hI2 ht1 ht2 hkl hmx hR0 hq hj hlt
          by_cases hck : c = k + 1
          · subst hck
            obtain rfl : j = k + 1 := by omega
            have hkc3 : ¬ ((k : Int) + 1 < (k : Int)) := by omega
            have HI3 : Hid (∀ X, Hid (Below w.heap.size w X) → Calls Try.prog 93 #[.slice (some ⟨b, off, none⟩) 0 0] X fun e w' => e = .returned (.string d) ∧ Hid (Below w.heap.size w w')) := fun X hX => by
              have := HI2.out (some ⟨b, off, none⟩) X hX (.inl rfl)
              rw [Nat.sub_self] at this
              exact this
            clear HI2
            go_wp2
            refine wp_region_held_drew (S := (fun w' => Hid (Below w.heap.size w w'))) (by kernel_rfl) (by exact hK0) (fun hHeld0 => ?_)
            refine anyTake 0 (some 24) (.slice (some ⟨b, off, none⟩) (k + 1) (k + 1)) rfl rfl (by kernel_rfl) (by kernel_rfl) (by kernel_rfl) (fun _ _ _ h => h) (by rfl) (by intro w hSw; (try dsimp only at hSw); go_simp) (by assumption) ?_
            try simp only [Act.put, List.setIfInBounds_toArray, List.set_cons_zero, List.set_cons_succ]
            refine anyTake 1 (some 25) (.int .i64 ((k : Nat) : Int)) rfl rfl (by kernel_rfl) (by kernel_rfl) (by kernel_rfl) (fun _ _ _ h => h) (by rfl) (by intro w hSw; (try dsimp only at hSw); go_simp) (by assumption) ?_
            try simp only [Act.put, List.setIfInBounds_toArray, List.set_cons_zero, List.set_cons_succ]
            refine anyTake 2 (some 26) (.slice (some ⟨b, off, none⟩) k (k + 1)) rfl rfl (by kernel_rfl) (by kernel_rfl) (by kernel_rfl) (fun _ _ _ h => h) (by rfl) (by intro w hSw; (try dsimp only at hSw); go_simp) (by assumption) ?_
            try simp only [Act.put, List.setIfInBounds_toArray, List.set_cons_zero, List.set_cons_succ]
            refine anyTake 5 (some 29) (.slice (some ⟨b, off, none⟩) (k + 1) (k + 1)) rfl rfl (by kernel_rfl) (by kernel_rfl) (by kernel_rfl) (fun _ _ _ h => h) (by rfl) (by intro w hSw; (try dsimp only at hSw); go_simp) (by assumption) ?_
            try simp only [Act.put, List.setIfInBounds_toArray, List.set_cons_zero, List.set_cons_succ]
            refine anyTake 6 (some 30) (.int .i64 ((k : Nat) : Int)) rfl rfl (by kernel_rfl) (by kernel_rfl) (by kernel_rfl) (fun _ _ _ h => h) (by rfl) (by intro w hSw; (try dsimp only at hSw); go_simp) (by assumption) ?_
            try simp only [Act.put, List.setIfInBounds_toArray, List.set_cons_zero, List.set_cons_succ]
            refine anyTake 7 (some 31) (.int .i64 ((k : Int) + 1)) rfl rfl (by kernel_rfl) (by kernel_rfl) (by kernel_rfl) (fun _ _ _ h => h) (by rfl) (by intro w hSw; (try dsimp only at hSw); go_simp) (by assumption) ?_
            try simp only [Act.put, List.setIfInBounds_toArray, List.set_cons_zero, List.set_cons_succ]
            refine anyTake 8 (some 32) (.slice (some ⟨b, off, none⟩) 0 0) rfl rfl (by kernel_rfl) (by kernel_rfl) (by kernel_rfl) (fun _ _ _ h => h) (by rfl) (by intro w hSw; (try dsimp only at hSw); go_simp) (by assumption) ?_
            try simp only [Act.put, List.setIfInBounds_toArray, List.set_cons_zero, List.set_cons_succ]
            refine wpAnyH_ready (rs := [3]) (by kernel_rfl) (by simp) ?_
            refine AllReadyH.cons rfl (fun K hK => ?_) AllReadyH.nil
            go_simp
            go_at_call 93
            refine (HI1.out _ hHeld0).mono ?_
            rintro e w4 ⟨rfl, hb4⟩
            go_wp2_with fail
            refine hK.out _ _ (by exact hb4) (fun hHeld => ?_)
            clear hK K
            try simp only [Act.put, List.setIfInBounds_toArray, List.set_cons_zero, List.set_cons_succ]
            clear hHeld0
            have hHeld0 := hHeld
            clear hHeld
            refine anyTake 4 (some 28) (.string (⟨#[49]⟩ ++ a)) rfl rfl (by kernel_rfl) (by kernel_rfl) (by kernel_rfl) (fun _ _ _ h => h) (by rfl) (by intro w hSw; (try dsimp only at hSw); go_simp) (by assumption) ?_
            try simp only [Act.put, List.setIfInBounds_toArray, List.set_cons_zero, List.set_cons_succ]
            refine wpAnyH_ready (rs := [9]) (by kernel_rfl) (by simp) ?_
            refine AllReadyH.cons rfl (fun K hK => ?_) AllReadyH.nil
            go_simp
            go_at_call 93
            refine (HI3.out _ hHeld0).mono ?_
            rintro e w5 ⟨rfl, hb5⟩
            go_wp2_with fail
            refine hK.out _ _ (by exact hb5) (fun hHeld => ?_)
            clear hK K
            try simp only [Act.put, List.setIfInBounds_toArray, List.set_cons_zero, List.set_cons_succ]
            clear hHeld0
            have hHeld0 := hHeld
            clear hHeld
            refine anyTake 10 (some 34) (.string (⟨#[49]⟩ ++ a ++ d)) rfl rfl (by kernel_rfl) (by kernel_rfl) (by kernel_rfl) (fun _ _ _ h => h) (by rfl) (by intro w hSw; (try dsimp only at hSw); go_simp) (by assumption) ?_
            try simp only [Act.put, List.setIfInBounds_toArray, List.set_cons_zero, List.set_cons_succ]
            refine anyTake 11 (some 2) (.string (⟨#[49]⟩ ++ a ++ d)) rfl rfl (by kernel_rfl) (by kernel_rfl) (by kernel_rfl) (fun _ _ _ h => h) (by rfl) (by intro w hSw; (try dsimp only at hSw); go_simp) (by assumption) ?_
            try simp only [Act.put, List.setIfInBounds_toArray, List.set_cons_zero, List.set_cons_succ]
            refine wpAnyH_done (by kernel_rfl) ?_ _
            go_wp2
            go_ret
            exact ⟨by rw [hR.out]; rfl, hb5.out⟩
          · have HI3 : Hid (∀ X, Hid (Below w.heap.size w X) → Calls Try.prog 93 #[.slice (some ⟨b, off + (k + 1), none⟩) (j - (k + 1)) (c - (k + 1))] X fun e w' => e = .returned (.string d) ∧ Hid (Below w.heap.size w w')) := fun X hX => HI2.out _ X hX (.inr rfl)
            clear HI2
            have hckI : ¬ ((c : Int) = (k : Int) + 1) := by omega
            go_wp2
            refine wp_region_held_drew (S := (fun w' => Hid (Below w.heap.size w w'))) (by kernel_rfl) (by exact hK0) (fun hHeld0 => ?_)
            refine anyTake 0 (some 24) (.slice (some ⟨b, off, none⟩) j c) rfl rfl (by kernel_rfl) (by kernel_rfl) (by kernel_rfl) (fun _ _ _ h => h) (by rfl) (by intro w hSw; (try dsimp only at hSw); go_simp) (by assumption) ?_
            try simp only [Act.put, List.setIfInBounds_toArray, List.set_cons_zero, List.set_cons_succ]
            refine anyTake 1 (some 25) (.int .i64 ((k : Nat) : Int)) rfl rfl (by kernel_rfl) (by kernel_rfl) (by kernel_rfl) (fun _ _ _ h => h) (by rfl) (by intro w hSw; (try dsimp only at hSw); go_simp) (by assumption) ?_
            try simp only [Act.put, List.setIfInBounds_toArray, List.set_cons_zero, List.set_cons_succ]
            refine anyTake 2 (some 26) (.slice (some ⟨b, off, none⟩) k c) rfl rfl (by kernel_rfl) (by kernel_rfl) (by kernel_rfl) (fun _ _ _ h => h) (by rfl) (by intro w hSw; (try dsimp only at hSw); go_simp) (by assumption) ?_
            try simp only [Act.put, List.setIfInBounds_toArray, List.set_cons_zero, List.set_cons_succ]
            refine anyTake 5 (some 29) (.slice (some ⟨b, off, none⟩) j c) rfl rfl (by kernel_rfl) (by kernel_rfl) (by kernel_rfl) (fun _ _ _ h => h) (by rfl) (by intro w hSw; (try dsimp only at hSw); go_simp) (by assumption) ?_
            try simp only [Act.put, List.setIfInBounds_toArray, List.set_cons_zero, List.set_cons_succ]
            refine anyTake 6 (some 30) (.int .i64 ((k : Nat) : Int)) rfl rfl (by kernel_rfl) (by kernel_rfl) (by kernel_rfl) (fun _ _ _ h => h) (by rfl) (by intro w hSw; (try dsimp only at hSw); go_simp) (by assumption) ?_
            try simp only [Act.put, List.setIfInBounds_toArray, List.set_cons_zero, List.set_cons_succ]
            refine anyTake 7 (some 31) (.int .i64 ((k : Int) + 1)) rfl rfl (by kernel_rfl) (by kernel_rfl) (by kernel_rfl) (fun _ _ _ h => h) (by rfl) (by intro w hSw; (try dsimp only at hSw); go_simp) (by assumption) ?_
            try simp only [Act.put, List.setIfInBounds_toArray, List.set_cons_zero, List.set_cons_succ]
            refine anyTake 8 (some 32) (.slice (some ⟨b, off + (k + 1), none⟩) (j - (k + 1)) (c - (k + 1))) rfl rfl (by kernel_rfl) (by kernel_rfl) (by kernel_rfl) (fun _ _ _ h => h) (by rfl) (by intro w hSw; (try dsimp only at hSw); go_simp) (by assumption) ?_
            try simp only [Act.put, List.setIfInBounds_toArray, List.set_cons_zero, List.set_cons_succ]
            refine wpAnyH_ready (rs := [3]) (by kernel_rfl) (by simp) ?_
            refine AllReadyH.cons rfl (fun K hK => ?_) AllReadyH.nil
            go_simp
            go_at_call 93
            refine (HI1.out _ hHeld0).mono ?_
            rintro e w4 ⟨rfl, hb4⟩
            go_wp2_with fail
            refine hK.out _ _ (by exact hb4) (fun hHeld => ?_)
            clear hK K
            try simp only [Act.put, List.setIfInBounds_toArray, List.set_cons_zero, List.set_cons_succ]
            clear hHeld0
            have hHeld0 := hHeld
            clear hHeld
            refine anyTake 4 (some 28) (.string (⟨#[49]⟩ ++ a)) rfl rfl (by kernel_rfl) (by kernel_rfl) (by kernel_rfl) (fun _ _ _ h => h) (by rfl) (by intro w hSw; (try dsimp only at hSw); go_simp) (by assumption) ?_
            try simp only [Act.put, List.setIfInBounds_toArray, List.set_cons_zero, List.set_cons_succ]
            refine wpAnyH_ready (rs := [9]) (by kernel_rfl) (by simp) ?_
            refine AllReadyH.cons rfl (fun K hK => ?_) AllReadyH.nil
            go_simp
            go_at_call 93
            refine (HI3.out _ hHeld0).mono ?_
            rintro e w5 ⟨rfl, hb5⟩
            go_wp2_with fail
            refine hK.out _ _ (by exact hb5) (fun hHeld => ?_)
            clear hK K
            try simp only [Act.put, List.setIfInBounds_toArray, List.set_cons_zero, List.set_cons_succ]
            clear hHeld0
            have hHeld0 := hHeld
            clear hHeld
            refine anyTake 10 (some 34) (.string (⟨#[49]⟩ ++ a ++ d)) rfl rfl (by kernel_rfl) (by kernel_rfl) (by kernel_rfl) (fun _ _ _ h => h) (by rfl) (by intro w hSw; (try dsimp only at hSw); go_simp) (by assumption) ?_
            try simp only [Act.put, List.setIfInBounds_toArray, List.set_cons_zero, List.set_cons_succ]
            refine anyTake 11 (some 2) (.string (⟨#[49]⟩ ++ a ++ d)) rfl rfl (by kernel_rfl) (by kernel_rfl) (by kernel_rfl) (fun _ _ _ h => h) (by rfl) (by intro w hSw; (try dsimp only at hSw); go_simp) (by assumption) ?_
            try simp only [Act.put, List.setIfInBounds_toArray, List.set_cons_zero, List.set_cons_succ]
            refine wpAnyH_done (by kernel_rfl) ?_ _
            go_wp2
            go_ret
            exact ⟨by rw [hR.out]; rfl, hb5.out⟩
end Go.Proofs.Ytgnhmhfianmckaa
