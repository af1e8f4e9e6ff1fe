/- decreasingOf and l09Decreasing: the decreasing binary tree of a list, as a text. Written by gendec.py. -/
import Derived.Test.YtgnhmhfianmckaaDecMath
import Derived.Test.YtgnhmhfianmckaaMet
namespace Go.Proofs.Ytgnhmhfianmckaa
open Go.RowKit

theorem ints_take {w : World} {B : Nat} {A : Option Addr} {l : List Int} (k : Nat) (h : Ints w B A l) : Ints w B A (l.take k) := fun hn => by
  rw [List.length_take] at hn
  obtain ⟨b, off, e, hb, hc⟩ := h (by omega)
  refine ⟨b, off, e, hb, fun j x hx => hc j x ?_⟩
  have hj : j < k := by have := (List.getElem?_eq_some_iff.1 hx).1; rw [List.length_take] at this; omega
  rwa [List.getElem?_take_of_lt hj] at hx
theorem ints_drop {w : World} {B b off : Nat} {l : List Int} (k : Nat) (h : Ints w B (some ⟨b, off, none⟩) l) : Ints w B (some ⟨b, off + k, none⟩) (l.drop k) := fun hn => by
  rw [List.length_drop] at hn
  obtain ⟨b', off', e, hb, hc⟩ := h (by omega)
  injection e with e
  injection e with e1 e2
  subst e1; subst e2
  refine ⟨b, off + k, rfl, hb, fun j x hx => ?_⟩
  rw [List.getElem?_drop] at hx
  rw [show off + k + j = off + (k + j) by omega]
  exact hc (k + j) x hx

set_option maxHeartbeats 2000000 in
theorem slicesMaxD (b off : Nat) (l : List Int) (n c : Nat) (w : World) (hn : Hid (l.length = n)) (hx : n ≤ 1000000) (hpos : 1 ≤ n) (h : Hid (∀ j x, l[j]? = some x → w.cell? ⟨b, off + j, none⟩ = some (.int .i64 x))) (y : Int) (hy : Hid (l[M.mxTo l n]? = some y)) :
    Calls Try.prog 69 #[.slice (some ⟨b, off, none⟩) n c] w fun e w' => e = .returned (.int .i64 y) ∧ w = w' := by
  obtain ⟨x0, hx0⟩ : ∃ x, Hid (l[0]? = some x) := ⟨_, Lib.hid (List.getElem?_eq_getElem (by rw [hn.out]; exact hpos))⟩
  have c0 : w.cell? ⟨b, off, none⟩ = some (.int .i64 x0) := by simpa using h.out 0 _ hx0.out
  have hd1 : ¬ (n : Int) < 1 := by omega
  have hst : Hid (l[M.mxTo l 1]? = some x0) := by show _ = _; rw [M.mxTo_one]; exact hx0.out
  go_enter Try.func69, Try.ntmps69
  go_wp2
  go_loop [3, 4] (fun m i => ∃ (k : Nat) (z : Int), 1 ≤ k ∧ k ≤ n ∧ i = .int .i64 k ∧ m = .int .i64 z ∧ Hid (l[M.mxTo l k]? = some z)) (fun _ i => n - (intOf i).toNat)
  case atStart => exact ⟨1, x0, Nat.le_refl _, hpos, rfl, rfl, hst⟩
  case round =>
    obtain ⟨k, z, hk1, hk, rfl, rfl, hz⟩ := hrel
    clear c0 hst
    by_cases hlt : k < n
    · obtain ⟨x, hX⟩ : ∃ x, Hid (l[k]? = some x) := ⟨_, Lib.hid (List.getElem?_eq_getElem (by rw [hn.out]; exact hlt))⟩
      have g := h.out k _ hX.out
      have hs := Lib.hid (M.mxTo_step hz.out hX.out)
      by_cases hzx : z < x
      · have hq : Hid (l[M.mxTo l (k + 1)]? = some x) := by show _ = _; rw [hs.out, if_pos hzx]; exact hX.out
        clear hX hs
        go_wp2
        all_goals
          go_round
          case rel => exact ⟨k + 1, x, by omega, by omega, by go_num, by (first | rfl | (congr 1; omega)), hq⟩
          case measure => simp [intOf]; omega
      · have hq : Hid (l[M.mxTo l (k + 1)]? = some z) := by show _ = _; rw [hs.out, if_neg hzx]; exact hz.out
        clear hX hs
        go_wp2
        all_goals
          go_round
          case rel => exact ⟨k + 1, z, by omega, by omega, by go_num, by (first | rfl | (congr 1; omega)), hq⟩
          case measure => simp [intOf]; omega
    · obtain rfl : k = n := by omega
      have he : Hid (z = y) := by have := hz.out; rw [hy.out] at this; injection this with this; exact this.symm
      go_wp2
      go_ret
      exact ⟨by rw [← he.out]; rfl, rfl⟩

set_option maxRecDepth 100000 in
theorem partText9 (a b : ByteArray) (w : World) (ha : a.size ≤ 1000000) (ha1 : ¬ a.toList = []) (hb : b.size ≤ 1000000) : Calls Try.prog 108 #[.agg #[.string a, .string b]] w fun e w' => e = .returned (.string (⟨#[49]⟩ ++ a ++ b)) ∧ Hid (Below w.heap.size w w') := by
  have hB : Hid (Below w.heap.size w (w.alloc (.cells #[.string a, .string b] 106))) := bal (b0 w) _
  have hs1 : ¬ 9223372036854775807 < 1 + a.size := by omega
  have hs2 : ¬ 9223372036854775807 < 1 + a.size + b.size := by omega
  go_enter Try.func108, Try.ntmps108
  go_wp2
  go_ret
  exact ⟨rfl, hB⟩
theorem dec_toList {f : Nat} {l : List Int} (h : l.length ≤ f) : ¬ (M.dec f l).toList = [] := fun e => by
  have h1 := M.dec_size f l h
  rw [ByteArray.toList_eq] at e
  have h2 : (M.dec f l).data.toList.length = (M.dec f l).size := Array.length_toList
  rw [e] at h2
  rw [h1] at h2
  exact absurd h2 (by rw [List.length_nil]; omega)

set_option maxHeartbeats 8000000 in
set_option maxRecDepth 100000 in
theorem decreasingOf : ∀ (f : Nat) (A : Option Addr) (l : List Int) (n c : Nat) (w : World), Hid (l.length = n) → n ≤ f → n ≤ 1000 → n ≤ c ∧ c ≤ 1000000000000 → Hid (Ints w w.heap.size A l) →
    Calls Try.prog 95 #[.slice A n c] w fun e w' => e = .returned (.string (M.dec f l)) ∧ Below w.heap.size w w' := by
  intro f
  induction f with
  | zero =>
    intro A l n c w hn hf h1000 hc h
    obtain rfl : n = 0 := by omega
    rw [M.dec_nil hn.out]
    go_enter Try.func95, Try.ntmps95
    go_wp2
    go_ret
    exact ⟨rfl, Below.refl _ _⟩
  | succ f ih =>
    intro A l n c w hn hf h1000 hc h
    by_cases hn0 : n = 0
    · subst hn0
      rw [M.dec_nil hn.out]
      clear ih
      go_enter Try.func95, Try.ntmps95
      go_wp2
      go_ret
      exact ⟨rfl, Below.refl _ _⟩
    · have hne : ((n : Int) == 0) = false := by simp; omega
      obtain ⟨y, hy, _, _⟩ := M.mxTo_spec l n (by omega) (by rw [hn.out]; exact Nat.le_refl _)
      have hkl := M.mxTo_lt l n (by omega)
      have hmx : Hid (M.mx l = M.mxTo l n) := by show _ = _; rw [M.mx, hn.out]
      obtain ⟨b, off, e2, hbl, hcs⟩ := h.out (by rw [hn.out]; omega)
      subst e2
      have HM := Lib.hid (slicesMaxD b off l n c w hn (by omega) (by omega) hcs y hy)
      have hio : Hid (M.idxOf l y = ((M.mxTo l n : Nat) : Int)) := by
        show _ = _
        rw [← hmx.out]
        exact M.idxOf_mx (by rw [hn.out]; omega) (by rw [hmx.out]; exact hy)
      obtain ⟨k, hk⟩ : ∃ k, Hid (M.mxTo l n = k) := ⟨_, rfl⟩
      rw [hk.out] at hio hkl
      have hmk : Hid (M.mx l = k) := by show _ = _; rw [hmx.out, hk.out]
      have HX := Lib.hid (indexFirst (some ⟨b, off, none⟩) l n c y w hn (by omega) h (k : Int) hio)
      obtain ⟨a, ha⟩ : ∃ a, Hid (M.dec f (l.take k) = a) := ⟨_, rfl⟩
      obtain ⟨d, hd⟩ : ∃ d, Hid (M.dec f (l.drop (k + 1)) = d) := ⟨_, rfl⟩
      have hR : Hid (M.dec (f + 1) l = ⟨#[49]⟩ ++ a ++ d) := by show _ = _; rw [M.dec_cons (by rw [hn.out]; exact hn0), hmk.out, ha.out, hd.out]
      rw [hR.out]
      have ht1 : (l.take k).length = k := by rw [List.length_take, hn.out]; omega
      have ht2 : (l.drop (k + 1)).length = n - (k + 1) := by rw [List.length_drop, hn.out]
      have hsa : a.size ≤ 1000000 := by rw [← ha.out, M.dec_size f _ (by omega)]; omega
      have hsd : d.size ≤ 1000000 := by rw [← hd.out, M.dec_size f _ (by omega)]; omega
      have hta : ¬ a.toList = [] := by rw [← ha.out]; exact dec_toList (by omega)
      have hI1 : ∀ X, Hid (Below w.heap.size w X) → Calls Try.prog 95 #[.slice (some ⟨b, off, none⟩) k c] X fun e w' => e = .returned (.string a) ∧ Hid (Below w.heap.size w w') := fun X hX => by
        rw [← ha.out]
        exact (ih (some ⟨b, off, none⟩) (l.take k) k c X ht1 (by omega) (by omega) (by omega) (Lib.hid (ints_take k (h.out.be hX.out)))).mono fun e w' ⟨he, hb⟩ => ⟨he, btr hX.out hb⟩
      have hI2 : ∀ A' X, Hid (Below w.heap.size w X) → Hid (n = k + 1 ∨ A' = some ⟨b, off + (k + 1), none⟩) → Calls Try.prog 95 #[.slice A' (n - (k + 1)) (c - (k + 1))] X fun e w' => e = .returned (.string d) ∧ Hid (Below w.heap.size w w') := fun A' X hX hA => by
        rw [← hd.out]
        refine (ih A' (l.drop (k + 1)) (n - (k + 1)) (c - (k + 1)) X ht2 (by omega) (by omega) (by omega) ?_).mono fun e w' ⟨he, hb⟩ => ⟨he, btr hX.out hb⟩
        rcases hA.out with e | e
        · show Ints _ _ _ _
          rw [List.length_eq_zero_iff.1 (by rw [ht2]; omega : (l.drop (k + 1)).length = 0)]
          exact Ints.nil_ _ _ _
        · subst e; exact ints_drop (k + 1) (h.out.be hX.out)
      have HT := Lib.hid (fun X => partText9 a d X hsa hta hsd)
      have HI1 := Lib.hid hI1
      have HI2 := Lib.hid hI2
      have hk0 : (0 : Int) ≤ (k : Int) := by omega
      have hkc : (k : Int) ≤ (c : Int) := by omega
      have hw1 : IntKind.i64.wrap ((k : Int) + 1) = (k : Int) + 1 := IntWalk.i64_in _ (by omega)
      have hk1 : (0 : Int) ≤ (k : Int) + 1 := by omega
      have hkn : (k : Int) + 1 ≤ (n : Int) := by omega
      have hnc : (n : Int) ≤ (c : Int) := by omega
      have hton : ((k : Int) + 1).toNat = k + 1 := by omega
      have hK0 : Hid (Below w.heap.size w w.drew) := (Below.refl _ _).drew
      have Hn := Lib.hid hn
      clear ih hI1 hI2 hcs hta ht1 ht2 hy hkl hmx hio hmk
      by_cases hck : c = k + 1
      · subst hck
        obtain rfl : n = k + 1 := by omega
        have hkc3 : ¬ ((k : Int) + 1 < (k : Int)) := by omega
        have HI3 : Hid (∀ X, Hid (Below w.heap.size w X) → Calls Try.prog 95 #[.slice (some ⟨b, off, none⟩) 0 0] X fun e w' => e = .returned (.string d) ∧ Hid (Below w.heap.size w w')) := fun X hX => by
          have := HI2.out (some ⟨b, off, none⟩) X hX (.inl rfl)
          rw [Nat.sub_self] at this
          exact this
        clear HI2
        go_enter Try.func95, Try.ntmps95
        go_wp2_with fail
        refine HM.out.mono ?_
        rintro e w' ⟨rfl, rfl⟩
        go_wp2_with fail
        refine HX.out.mono ?_
        rintro e w' ⟨rfl, rfl⟩
        go_wp2
        refine wp_region_held_drew (S := (fun w' => Hid (Below w.heap.size w w'))) (by kernel_rfl) (by exact hK0) (fun hHeld0 => ?_)
        refine anyTake 0 (some 11) (.slice (some ⟨b, off, none⟩) (k + 1) (k + 1)) rfl rfl (by kernel_rfl) (by kernel_rfl) (by kernel_rfl) (fun _ _ _ h => h) (by rfl) (by intro w hSw; (try dsimp only at hSw); go_simp) (by assumption) ?_
        try simp only [Act.put, List.setIfInBounds_toArray, List.set_cons_zero, List.set_cons_succ]
        refine anyTake 1 (some 12) (.int .i64 ((k : Nat) : Int)) rfl rfl (by kernel_rfl) (by kernel_rfl) (by kernel_rfl) (fun _ _ _ h => h) (by rfl) (by intro w hSw; (try dsimp only at hSw); go_simp) (by assumption) ?_
        try simp only [Act.put, List.setIfInBounds_toArray, List.set_cons_zero, List.set_cons_succ]
        refine anyTake 2 (some 13) (.slice (some ⟨b, off, none⟩) k (k + 1)) rfl rfl (by kernel_rfl) (by kernel_rfl) (by kernel_rfl) (fun _ _ _ h => h) (by rfl) (by intro w hSw; (try dsimp only at hSw); go_simp) (by assumption) ?_
        try simp only [Act.put, List.setIfInBounds_toArray, List.set_cons_zero, List.set_cons_succ]
        refine anyTake 4 (some 15) (.slice (some ⟨b, off, none⟩) (k + 1) (k + 1)) rfl rfl (by kernel_rfl) (by kernel_rfl) (by kernel_rfl) (fun _ _ _ h => h) (by rfl) (by intro w hSw; (try dsimp only at hSw); go_simp) (by assumption) ?_
        try simp only [Act.put, List.setIfInBounds_toArray, List.set_cons_zero, List.set_cons_succ]
        refine anyTake 5 (some 16) (.int .i64 ((k : Nat) : Int)) rfl rfl (by kernel_rfl) (by kernel_rfl) (by kernel_rfl) (fun _ _ _ h => h) (by rfl) (by intro w hSw; (try dsimp only at hSw); go_simp) (by assumption) ?_
        try simp only [Act.put, List.setIfInBounds_toArray, List.set_cons_zero, List.set_cons_succ]
        refine anyTake 6 (some 17) (.int .i64 ((k : Int) + 1)) rfl rfl (by kernel_rfl) (by kernel_rfl) (by kernel_rfl) (fun _ _ _ h => h) (by rfl) (by intro w hSw; (try dsimp only at hSw); go_simp) (by assumption) ?_
        try simp only [Act.put, List.setIfInBounds_toArray, List.set_cons_zero, List.set_cons_succ]
        refine anyTake 7 (some 18) (.slice (some ⟨b, off, none⟩) 0 0) rfl rfl (by kernel_rfl) (by kernel_rfl) (by kernel_rfl) (fun _ _ _ h => h) (by rfl) (by intro w hSw; (try dsimp only at hSw); go_simp) (by assumption) ?_
        try simp only [Act.put, List.setIfInBounds_toArray, List.set_cons_zero, List.set_cons_succ]
        refine wpAnyH_ready (rs := [3]) (by kernel_rfl) (by simp) ?_
        refine AllReadyH.cons rfl (fun K hK => ?_) AllReadyH.nil
        go_simp
        go_at_call 95
        refine (HI1.out _ hHeld0).mono ?_
        rintro e w4 ⟨rfl, hb4⟩
        go_wp2_with fail
        refine hK.out _ _ (by exact hb4) (fun hHeld => ?_)
        clear hK K
        try simp only [Act.put, List.setIfInBounds_toArray, List.set_cons_zero, List.set_cons_succ]
        clear hHeld0
        have hHeld0 := hHeld
        clear hHeld
        refine wpAnyH_ready (rs := [8]) (by kernel_rfl) (by simp) ?_
        refine AllReadyH.cons rfl (fun K hK => ?_) AllReadyH.nil
        go_simp
        go_at_call 95
        refine (HI3.out _ hHeld0).mono ?_
        rintro e w5 ⟨rfl, hb5⟩
        go_wp2_with fail
        refine hK.out _ _ (by exact hb5) (fun hHeld => ?_)
        clear hK K
        try simp only [Act.put, List.setIfInBounds_toArray, List.set_cons_zero, List.set_cons_succ]
        clear hHeld0
        have hHeld0 := hHeld
        clear hHeld
        refine anyTake 9 (some 20) (.agg #[.string a, .string d]) rfl rfl (by kernel_rfl) (by kernel_rfl) (by kernel_rfl) (fun _ _ _ h => h) (by rfl) (by intro w hSw; (try dsimp only at hSw); go_simp) (by assumption) ?_
        try simp only [Act.put, List.setIfInBounds_toArray, List.set_cons_zero, List.set_cons_succ]
        refine wpAnyH_ready (rs := [10]) (by kernel_rfl) (by simp) ?_
        refine AllReadyH.cons rfl (fun K hK => ?_) AllReadyH.nil
        go_simp
        go_at_call 108
        refine (HT.out _).mono ?_
        rintro e w6 ⟨rfl, hb6'⟩
        have hb6 : Hid (Below w.heap.size w w6) := btr hHeld0.out hb6'.out
        go_wp2_with fail
        refine hK.out _ _ (by exact hb6) (fun hHeld => ?_)
        clear hK K
        try simp only [Act.put, List.setIfInBounds_toArray, List.set_cons_zero, List.set_cons_succ]
        clear hHeld0
        have hHeld0 := hHeld
        clear hHeld
        refine anyTake 11 (some 2) (.string (⟨#[49]⟩ ++ a ++ d)) rfl rfl (by kernel_rfl) (by kernel_rfl) (by kernel_rfl) (fun _ _ _ h => h) (by rfl) (by intro w hSw; (try dsimp only at hSw); go_simp) (by assumption) ?_
        try simp only [Act.put, List.setIfInBounds_toArray, List.set_cons_zero, List.set_cons_succ]
        refine wpAnyH_done (by kernel_rfl) ?_ _
        go_wp2
        go_ret
        exact ⟨rfl, hb6.out⟩
      · have HI3 : Hid (∀ X, Hid (Below w.heap.size w X) → Calls Try.prog 95 #[.slice (some ⟨b, off + (k + 1), none⟩) (n - (k + 1)) (c - (k + 1))] X fun e w' => e = .returned (.string d) ∧ Hid (Below w.heap.size w w')) := fun X hX => HI2.out _ X hX (.inr rfl)
        clear HI2
        have hckI : ¬ ((c : Int) = (k : Int) + 1) := by omega
        go_enter Try.func95, Try.ntmps95
        go_wp2_with fail
        refine HM.out.mono ?_
        rintro e w' ⟨rfl, rfl⟩
        go_wp2_with fail
        refine HX.out.mono ?_
        rintro e w' ⟨rfl, rfl⟩
        go_wp2
        refine wp_region_held_drew (S := (fun w' => Hid (Below w.heap.size w w'))) (by kernel_rfl) (by exact hK0) (fun hHeld0 => ?_)
        refine anyTake 0 (some 11) (.slice (some ⟨b, off, none⟩) n c) rfl rfl (by kernel_rfl) (by kernel_rfl) (by kernel_rfl) (fun _ _ _ h => h) (by rfl) (by intro w hSw; (try dsimp only at hSw); go_simp) (by assumption) ?_
        try simp only [Act.put, List.setIfInBounds_toArray, List.set_cons_zero, List.set_cons_succ]
        refine anyTake 1 (some 12) (.int .i64 ((k : Nat) : Int)) rfl rfl (by kernel_rfl) (by kernel_rfl) (by kernel_rfl) (fun _ _ _ h => h) (by rfl) (by intro w hSw; (try dsimp only at hSw); go_simp) (by assumption) ?_
        try simp only [Act.put, List.setIfInBounds_toArray, List.set_cons_zero, List.set_cons_succ]
        refine anyTake 2 (some 13) (.slice (some ⟨b, off, none⟩) k c) rfl rfl (by kernel_rfl) (by kernel_rfl) (by kernel_rfl) (fun _ _ _ h => h) (by rfl) (by intro w hSw; (try dsimp only at hSw); go_simp) (by assumption) ?_
        try simp only [Act.put, List.setIfInBounds_toArray, List.set_cons_zero, List.set_cons_succ]
        refine anyTake 4 (some 15) (.slice (some ⟨b, off, none⟩) n c) rfl rfl (by kernel_rfl) (by kernel_rfl) (by kernel_rfl) (fun _ _ _ h => h) (by rfl) (by intro w hSw; (try dsimp only at hSw); go_simp) (by assumption) ?_
        try simp only [Act.put, List.setIfInBounds_toArray, List.set_cons_zero, List.set_cons_succ]
        refine anyTake 5 (some 16) (.int .i64 ((k : Nat) : Int)) rfl rfl (by kernel_rfl) (by kernel_rfl) (by kernel_rfl) (fun _ _ _ h => h) (by rfl) (by intro w hSw; (try dsimp only at hSw); go_simp) (by assumption) ?_
        try simp only [Act.put, List.setIfInBounds_toArray, List.set_cons_zero, List.set_cons_succ]
        refine anyTake 6 (some 17) (.int .i64 ((k : Int) + 1)) rfl rfl (by kernel_rfl) (by kernel_rfl) (by kernel_rfl) (fun _ _ _ h => h) (by rfl) (by intro w hSw; (try dsimp only at hSw); go_simp) (by assumption) ?_
        try simp only [Act.put, List.setIfInBounds_toArray, List.set_cons_zero, List.set_cons_succ]
        refine anyTake 7 (some 18) (.slice (some ⟨b, off + (k + 1), none⟩) (n - (k + 1)) (c - (k + 1))) rfl rfl (by kernel_rfl) (by kernel_rfl) (by kernel_rfl) (fun _ _ _ h => h) (by rfl) (by intro w hSw; (try dsimp only at hSw); go_simp) (by assumption) ?_
        try simp only [Act.put, List.setIfInBounds_toArray, List.set_cons_zero, List.set_cons_succ]
        refine wpAnyH_ready (rs := [3]) (by kernel_rfl) (by simp) ?_
        refine AllReadyH.cons rfl (fun K hK => ?_) AllReadyH.nil
        go_simp
        go_at_call 95
        refine (HI1.out _ hHeld0).mono ?_
        rintro e w4 ⟨rfl, hb4⟩
        go_wp2_with fail
        refine hK.out _ _ (by exact hb4) (fun hHeld => ?_)
        clear hK K
        try simp only [Act.put, List.setIfInBounds_toArray, List.set_cons_zero, List.set_cons_succ]
        clear hHeld0
        have hHeld0 := hHeld
        clear hHeld
        refine wpAnyH_ready (rs := [8]) (by kernel_rfl) (by simp) ?_
        refine AllReadyH.cons rfl (fun K hK => ?_) AllReadyH.nil
        go_simp
        go_at_call 95
        refine (HI3.out _ hHeld0).mono ?_
        rintro e w5 ⟨rfl, hb5⟩
        go_wp2_with fail
        refine hK.out _ _ (by exact hb5) (fun hHeld => ?_)
        clear hK K
        try simp only [Act.put, List.setIfInBounds_toArray, List.set_cons_zero, List.set_cons_succ]
        clear hHeld0
        have hHeld0 := hHeld
        clear hHeld
        refine anyTake 9 (some 20) (.agg #[.string a, .string d]) rfl rfl (by kernel_rfl) (by kernel_rfl) (by kernel_rfl) (fun _ _ _ h => h) (by rfl) (by intro w hSw; (try dsimp only at hSw); go_simp) (by assumption) ?_
        try simp only [Act.put, List.setIfInBounds_toArray, List.set_cons_zero, List.set_cons_succ]
        refine wpAnyH_ready (rs := [10]) (by kernel_rfl) (by simp) ?_
        refine AllReadyH.cons rfl (fun K hK => ?_) AllReadyH.nil
        go_simp
        go_at_call 108
        refine (HT.out _).mono ?_
        rintro e w6 ⟨rfl, hb6'⟩
        have hb6 : Hid (Below w.heap.size w w6) := btr hHeld0.out hb6'.out
        go_wp2_with fail
        refine hK.out _ _ (by exact hb6) (fun hHeld => ?_)
        clear hK K
        try simp only [Act.put, List.setIfInBounds_toArray, List.set_cons_zero, List.set_cons_succ]
        clear hHeld0
        have hHeld0 := hHeld
        clear hHeld
        refine anyTake 11 (some 2) (.string (⟨#[49]⟩ ++ a ++ d)) rfl rfl (by kernel_rfl) (by kernel_rfl) (by kernel_rfl) (fun _ _ _ h => h) (by rfl) (by intro w hSw; (try dsimp only at hSw); go_simp) (by assumption) ?_
        try simp only [Act.put, List.setIfInBounds_toArray, List.set_cons_zero, List.set_cons_succ]
        refine wpAnyH_done (by kernel_rfl) ?_ _
        go_wp2
        go_ret
        exact ⟨rfl, hb6.out⟩

end Go.Proofs.Ytgnhmhfianmckaa
