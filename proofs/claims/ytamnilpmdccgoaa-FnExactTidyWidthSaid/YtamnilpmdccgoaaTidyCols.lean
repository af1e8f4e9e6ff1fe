/- l08Columns: the columns of the tidy drawing, the model's. -/
import Derived.Test.YtamnilpmdccgoaaTidySp
import Derived.Test.YtamnilpmdccgoaaSpecDepths
import Derived.Test.YtamnilpmdccgoaaLeastIn
namespace Go.Proofs.Ytamnilpmdccgoaa
open Go.RowKit

set_option maxHeartbeats 8000000 in
set_option maxRecDepth 100000 in
theorem l08Columns (A : Option Addr) (xs : List Int) (c : Nat) (w : World) (ht : Hid (M.isTree xs = true)) (h : Hid (Ints w w.heap.size A xs)) :
    Calls Try.prog 75 #[.agg #[.slice A xs.length c]] w fun e w' => ∃ A' c', e = .returned (.slice A' xs.length c') ∧ Hid (Own64 w' w.heap.size (.slice A' xs.length c') (M.tidy xs (M.depths xs))) ∧ Hid (Below w.heap.size w w') := by
  have hlen := M.tree_len ht.out
  obtain ⟨W0, hW0⟩ : ∃ W0, W0 = w.alloc (.cells #[.slice A xs.length c] 28) := ⟨_, rfl⟩
  have hi1 : Hid (Ints W0 W0.heap.size A xs) := by rw [hW0]; exact h.out.al _
  have hB0 : Hid (Below w.heap.size w W0) := by rw [hW0]; exact bal (b0 w) _
  have hz0 : w.heap.size < W0.heap.size := by rw [hW0]; simp
  have hcA : Hid (W0.cell? ⟨w.heap.size, 0, none⟩ = some (.slice A xs.length c)) := by rw [hW0]; simp [Hid]
  have HW := Lib.hid hW0
  clear hW0 h
  have HS : Hid (∀ w', Hid (Below W0.heap.size W0 w') → w'.cell? ⟨w.heap.size, 0, none⟩ = some (.slice A xs.length c)) := fun w' hb => (hb.out.cell (p := ⟨w.heap.size, 0, none⟩) (by show w.heap.size < _; omega)).trans hcA.out
  have HD : Hid (∀ w', Hid (Below W0.heap.size W0 w') → Calls Try.prog 86 #[.agg #[.slice A xs.length c]] w' fun e w'' => ∃ A' c' ds, e = .returned (.slice A' xs.length c') ∧ Hid (M.DepsOK xs ds) ∧ Hid (Ints w'' w''.heap.size A' ds) ∧ Hid (Below W0.heap.size W0 w'')) := fun w' hb =>
    (l01Depths A xs c w' ht (hi1.out.be hb.out)).mono fun e w'' ⟨A', c', ds, e1, e2, e3, e4⟩ => ⟨A', c', ds, e1, e2, ints_of_own64 e3, btr hb.out e4⟩
  have HT : Hid (∀ (ds : List Int) (Ad : Option Addr) (cd : Nat) w', Hid (M.DepsOK xs ds) → Hid (Ints w' w'.heap.size Ad ds) → Hid (Below W0.heap.size W0 w') → Calls Try.prog 122 #[.agg #[.slice A xs.length c], .slice Ad xs.length cd, .int .i64 0] w' fun e w'' => ∃ g c', e = .returned (.slice (some ⟨g, 0, none⟩) xs.length c') ∧ Hid (Own64 w'' W0.heap.size (.slice (some ⟨g, 0, none⟩) xs.length c') (M.td xs ds 0)) ∧ Hid (Below W0.heap.size W0 w'')) := fun ds Ad cd w' hD hd hb => by
    refine (l08Tidy xs ds ht hD A Ad c cd xs.length 0 w' (by omega) (by omega) (Lib.hid (hi1.out.be hb.out)) hd).mono ?_
    rintro e w'' ⟨A', l, c', rfl, q1, q2⟩
    have hl := own64_len q1.out
    have h2 := (M.td_good ht.out hD.out (v := 0) (by omega)).1
    have h3 := M.fin_root ht.out
    simp only [M.fin] at h3
    obtain rfl : l = xs.length := by omega
    obtain ⟨g, rfl, _, _⟩ := own_headS q1.out (by omega)
    exact ⟨g, c', rfl, own_mono q1.out hb.out.size, btr hb.out q2.out⟩
  have K0 : Hid (Below W0.heap.size W0 W0.drew) := (Below.refl _ _).drew
  have k1 := HS.out _ K0
  go_enter Try.func75, Try.ntmps75
  go_wp2
  rw [← HW.out]
  clear HW
  go_region_held3 (fun w' => w'.cell? ⟨w.heap.size, 0, none⟩ = some (.slice A xs.length c) ∧ Hid (Below W0.heap.size W0 w')) (first | exact ⟨k1, K0⟩ | exact ⟨HS.out _ (by assumption), by assumption⟩) (first | (go_at_call 86; refine (HD.out _ (by assumption)).mono ?_; rintro e w2 ⟨A2, c2, ds, rfl, hok, hi2, hB2⟩) | (go_at_call 122; refine (HT.out _ _ _ _ hok hi2 (by assumption)).mono ?_; rintro e w3 ⟨g, c3, rfl, ho3, hB3⟩))
  have hT : Hid (M.tidy xs (M.depths xs) = (M.td xs ds 0).map (· + -(M.minTo (M.td xs ds 0) (M.td xs ds 0).length))) := by show _ = _; rw [M.depths_eq ht.out hok.out, M.tidy]
  have hlt : Hid ((M.td xs ds 0).length = xs.length) := (own64_len ho3.out).symm
  have hab : Hid (∀ x ∈ M.td xs ds 0, -46 ≤ x ∧ x ≤ 46) := fun x hx => M.td_abs ht.out hok.out (by omega) hx
  clear k1 K0 HT HD HS hcA
  generalize M.td xs ds 0 = T at *
  obtain ⟨n, hn⟩ : ∃ n, n = xs.length := ⟨_, rfl⟩
  rw [← hn] at hlt ho3 hlen ⊢
  have hn0 : 0 < n := by omega
  have hni : (0 : Int) < (n : Int) := by omega
  obtain ⟨x0, hx0⟩ : ∃ x, T[0]? = some x := ⟨_, List.getElem?_eq_getElem (by rw [hlt.out]; exact hn0)⟩
  have c0 := (own64_cell ho3.out hlt.out hx0).1
  have hst : Hid (M.minTo T (max 0 1) = x0) := M.minTo_one hx0
  clear hx0
  go_wp2
  go_loopw [4, 5] (fun m i wr => ∃ (k : Nat) (y : Int), k ≤ n ∧ i = .int .i64 (k : Int) ∧ m = .int .i64 y ∧ wr = w3 ∧ Hid (M.minTo T (max k 1) = y)) (fun _ i _ => n - (intOf i).toNat)
  case atStart => exact ⟨0, x0, Nat.zero_le _, rfl, rfl, rfl, hst⟩
  case round =>
    obtain ⟨k, y, hk, rfl, rfl, rfl, hy⟩ := hrel
    clear hst c0
    by_cases hkn : k < n
    · obtain ⟨x, hX⟩ : ∃ x, T[k]? = some x := ⟨_, List.getElem?_eq_getElem (by rw [hlt.out]; exact hkn)⟩
      have ck := (own64_cell ho3.out hlt.out hX).1
      have hki : (k : Int) < (n : Int) := by omega
      have hk0 : (0 : Int) ≤ (k : Int) := by omega
      have hs : Hid (M.minTo T (max (k + 1) 1) = min y x) := by
        show _ = _
        rcases Nat.eq_zero_or_pos k with h0 | h0
        · subst h0
          have h1 := hy.out
          rw [show max 0 1 = 1 from rfl, M.minTo_one hX] at h1
          rw [show max (0 + 1) 1 = 1 from rfl, M.minTo_one hX, h1]; omega
        · have h1 := hy.out
          rw [show max k 1 = k by omega] at h1
          rw [show max (k + 1) 1 = k + 1 by omega]
          exact M.minTo_step hX h0 h1
      clear hX
      go_wp2
      all_goals
        go_roundw
        case rel => exact ⟨k + 1, _, by omega, by go_num, rfl, (by first | rfl | trivial), by show _ = _; rw [hs.out]; omega⟩
        case measure => simp [intOf]; omega
    · obtain rfl : k = n := by omega
      have hy2 : Hid (M.minTo T T.length = y) := by
        have h1 := hy.out
        rw [show max k 1 = k by omega] at h1
        show _ = _
        rw [hlt.out]; exact h1
      have hyb : -46 ≤ y ∧ y ≤ 46 := by
        obtain ⟨j, hj, hm⟩ := M.minTo_in (xs := T) (k := T.length) (by rw [hlt.out]; exact hn0) (Nat.le_refl _)
        rw [hy2.out] at hm
        exact hab.out y (List.mem_of_getElem? hm)
      have hT2 : Hid (M.tidy xs (M.depths xs) = T.map (· + -y)) := by show _ = _; rw [hT.out, hy2.out]
      have ho4 : Hid (Own64 wr W0.heap.size (.slice (some ⟨g, 0, none⟩) k c3) (M.bump T 0 0 (-y))) := by rw [M.bump_zero]; exact ho3.out
      clear hy hy2 hT
      go_wp2
      obtain ⟨wo, rfl⟩ : ∃ wo : World, wo = wr := ⟨_, rfl⟩
      go_loopw [6] (fun i wr => ∃ j : Nat, j ≤ k ∧ i = .int .i64 (j : Int) ∧ Hid (Own64 wr W0.heap.size (.slice (some ⟨g, 0, none⟩) k c3) (M.bump T 0 j (-y))) ∧ Hid (Below W0.heap.size W0 wr)) (fun i _ => k - (intOf i).toNat)
      case atStart => exact ⟨0, Nat.zero_le _, rfl, ho4, hB3⟩
      case round =>
        obtain ⟨j, hj, rfl, ho5, hB5⟩ := hrel
        clear ho4
        by_cases hjn : j < k
        · obtain ⟨x, hX⟩ : ∃ x, T[j]? = some x := ⟨_, List.getElem?_eq_getElem (by rw [hlt.out]; exact hjn)⟩
          have hxb := hab.out x (List.mem_of_getElem? hX)
          have hbl : (M.bump T 0 j (-y)).length = k := by rw [M.bump_len T (-y) (by rw [hlt.out]; omega)]; exact hlt.out
          have hb := M.bump_at (l := T) (off := 0) (k := j) (i := j) (s := -y) (by omega) hX
          obtain ⟨c1, f1, hg1, hwr⟩ := own64_cell ho5.out hbl hb
          have hset := own64_set ho5.out hbl j (x - y)
          have hbs := M.bump_step (l := T) (off := 0) (k := j) (s := -y) (x := x) (by rw [Nat.zero_add]; exact hX)
          rw [Nat.zero_add, show x + -y = x - y by omega] at hbs
          rw [hbs] at hset
          have Hset := Lib.hid hset
          have hji : (j : Int) < (k : Int) := by omega
          have hj0 : (0 : Int) ≤ (j : Int) := by omega
          have hw1 : IntKind.i64.wrap (x - y) = x - y := IntWalk.i64_in _ (by omega)
          have hB6 : Hid (Below W0.heap.size W0 (wr.setCell ⟨g, j, none⟩ (.int .i64 (x - y)))) := below_setCell hB5.out hg1 _
          clear hX hb hset hbs hbl
          go_wp2
          go_roundw
          case rel => exact ⟨j + 1, by omega, by go_num, Hset, hB6⟩
          case measure => simp [intOf]; omega
        · obtain rfl : j = k := by omega
          have hall : Hid (M.bump T 0 j (-y) = T.map (· + -y)) := by
            have := M.bump_all (l := T) (-y)
            rw [hlt.out] at this
            exact this
          rw [hall.out, ← hT2.out] at ho5
          have zz : w.heap.size ≤ W0.heap.size := by omega
          have hBz : Hid (Below w.heap.size w wr) := hB0.out.trans (hB5.out.mono zz)
          go_wp2
          go_ret
          subst hn
          exact ⟨_, _, rfl, own_mono ho5.out zz, hBz⟩
end Go.Proofs.Ytamnilpmdccgoaa
