/- slices.Min, leastPlaces and l05Least: the places of the least numbers of a list. -/
import Derived.Test.YtbnnlifpldgcfaaLeast
import Derived.Test.YtbnnlifpldgcfaaPush
import Derived.Test.YtbnnlifpldgcfaaTree
import Derived.BigQuiet
namespace Go.Proofs.Ytbnnlifpldgcfaa
open Go.RowKit

theorem own_drewN {w : World} {B : Nat} {v : Value} {zs : List Int} (h : Own64 w B v zs) (n : Nat) : Own64 (w.drewN n) B v zs := h

theorem push64N {ops : Array Oper} {rest : List Oper} {o : Oper} {a : Act} {Q : Exit → Act → World → Prop} (hgd : o.guard = none) (s x : Operand)
    (ho : o.op = .call { callee := .builtin .append, args := #[s, x], argTypes := #[22, 22] }) (w : World) (B : Nat) (A : Option Addr) (n c : Nat) (zs : List Int) (y : Int)
    (hs : a.eval s = .slice A n c) (N : Nat) (hx : a.eval x = .slice (some ⟨N, 0, none⟩) 1 1) (hN : N = w.heap.size) (hown : Hid (Own64 w B (.slice A n c) zs)) (hB : B ≤ w.heap.size) (hlen : n ≤ 1000000)
    (h : ∀ A' c' w', Hid (Own64 w' B (.slice A' (n + 1) c') (zs ++ [y])) → Hid (Below B w w') → wpList Try.prog ops Q rest (a.put o.dst (.slice A' (n + 1) c')) w') :
    wpList Try.prog ops Q (o :: rest) a (w.alloc (.cells #[.int .i64 y] 2)) := by
  subst hN
  exact push64 hgd s x ho w B A n c zs y hs hx hown hB hlen h

set_option maxHeartbeats 1000000 in
theorem slicesMin (A : Option Addr) (xs : List Int) (c : Nat) (w : World) (hx : xs.length ≤ 1000000) (hpos : 0 < xs.length) (h : Hid (Ints w w.heap.size A xs)) (r : Int) (hr : Hid (M.minTo xs xs.length = r)) :
    Calls Try.prog 91 #[.slice A xs.length c] w fun e w' => e = .returned (.int .i64 r) ∧ w = w' := by
  obtain ⟨x0, hx0⟩ : ∃ x, xs[0]? = some x := ⟨_, List.getElem?_eq_getElem hpos⟩
  have Hm1 := Lib.hid (M.minTo_one hx0)
  obtain ⟨b, off, rfl, hbB, hcells⟩ := h.out hpos
  have c0 : w.cell? ⟨b, off, none⟩ = some (.int .i64 x0) := by simpa using hcells 0 _ hx0
  have Hcells := Lib.hid hcells
  clear hcells hx0
  have hl1 : 1 ≤ xs.length := hpos
  have hd1 : ¬ (xs.length : Int) < 1 := by omega
  go_enter Try.func91, Try.ntmps91
  go_wp2
  go_loop [3, 4] (fun m i => ∃ (k : Nat) (y : Int), 1 ≤ k ∧ k ≤ xs.length ∧ i = .int .i64 k ∧ m = .int .i64 y ∧ Hid (M.minTo xs k = y)) (fun _ i => xs.length - (intOf i).toNat)
  case atStart => exact ⟨1, x0, Nat.le_refl _, hl1, rfl, rfl, Hm1⟩
  case round =>
    obtain ⟨k, y, hk1, hk, rfl, rfl, hy⟩ := hrel
    clear c0
    by_cases hlt : k < xs.length
    · obtain ⟨x, hX⟩ : ∃ x, xs[k]? = some x := ⟨_, List.getElem?_eq_getElem hlt⟩
      have g := Hcells.out k _ hX
      have hs : Hid (M.minTo xs (k + 1) = min y x) := M.minTo_step hX hk1 hy.out
      clear hX
      go_wp2
      all_goals
        go_round
        case rel => exact ⟨k + 1, _, by omega, by omega, by go_num, rfl, by show _ = _; rw [hs.out]; omega⟩
        case measure => simp [intOf]; omega
    · obtain rfl : k = xs.length := by omega
      have he : Hid (y = r) := hy.out.symm.trans hr.out
      go_wp2
      go_ret
      exact ⟨by rw [← he.out]; rfl, rfl⟩

set_option maxHeartbeats 2000000 in
set_option maxRecDepth 100000 in
theorem leastPlaces (A : Option Addr) (xs : List Int) (n c : Nat) (w : World) (hn : Hid (xs.length = n)) (hx : n ≤ 1000) (hpos : 0 < n) (h : Hid (Ints w w.heap.size A xs)) :
    Calls Try.prog 68 #[.slice A n c] w fun e w' => ∃ A' c', e = .returned (.slice A' (M.least xs n).length c') ∧ Own64 w' w.heap.size (.slice A' (M.least xs n).length c') (M.least xs n) ∧ Hid (Below w.heap.size w w') := by
  obtain ⟨m, hm⟩ : ∃ m, Hid (M.minTo xs n = m) := ⟨_, rfl⟩
  have hle : M.least xs n = M.atTo xs m n := by rw [M.least, hm.out]
  rw [hle]
  have HM := slicesMin A xs c w (by rw [hn.out]; omega) (by rw [hn.out]; omega) h m (by rw [hn.out]; exact hm)
  rw [hn.out] at HM
  have HM := Lib.hid HM
  have h0 : Hid (Own64 w w.heap.size (.slice none 0 0) (M.atTo xs m 0)) := own64_nil _ _
  obtain ⟨b, off, rfl, hbB, hcells⟩ := h.out (by rw [hn.out]; exact hpos)
  have Hcells := Lib.hid hcells
  clear hcells hle hm h
  go_enter Try.func68, Try.ntmps68
  go_wp2_with fail
  refine HM.out.mono ?_
  rintro e w1 ⟨rfl, rfl⟩
  go_wp2
  go_loopw [4, 11] (fun q i wr => ∃ (k m' c' : Nat) (A' : Option Addr), k ≤ n ∧ i = .int .i64 k ∧ q = .slice A' m' c' ∧ m' ≤ k ∧ Hid (Own64 wr w.heap.size (.slice A' m' c') (M.atTo xs m k)) ∧ Hid (Below w.heap.size w wr)) (fun _ i _ => n - (intOf i).toNat)
  case atStart => exact ⟨0, 0, 0, none, Nat.zero_le _, rfl, rfl, Nat.le_refl _, h0, b0 w⟩
  case round =>
    obtain ⟨k, m', c', A', hk, rfl, rfl, hmk, ho, hb⟩ := hrel
    clear h0 HM
    by_cases hlt : k < n
    · obtain ⟨x, hX⟩ : ∃ x, xs[k]? = some x := ⟨_, List.getElem?_eq_getElem (by rw [hn.out]; exact hlt)⟩
      have g := (hb.out.cell (p := ⟨b, off + k, none⟩) hbB).trans (Hcells.out k _ hX)
      have zr := hb.out.size
      by_cases hq : x = m
      · have hq2 : (x == m) = true := by simp [hq]
        have hs := Lib.hid (M.atTo_hit (hq ▸ hX))
        clear hX hq
        go_wp2_with (at_builtin; refine push64 rfl (.tmp 19) (.tmp 21) rfl wr w.heap.size A' m' c' (M.atTo xs m k) (k : Int) rfl rfl ho zr (by omega) ?_; intro A3 c3 w3 ho3 hb3)
        go_roundw
        case rel => exact ⟨k + 1, m' + 1, c3, A3, by omega, by go_num, rfl, by omega, own64_eq ho3.out hs.out.symm, hb.out.trans hb3.out⟩
        case measure => simp [intOf]; omega
      · have hq2 : (x == m) = false := by simp [hq]
        have hs := Lib.hid (M.atTo_miss hX hq)
        clear hX hq
        go_wp2
        go_roundw
        case rel => exact ⟨k + 1, m', c', A', by omega, by go_num, rfl, by omega, own64_eq ho.out hs.out.symm, hb⟩
        case measure => simp [intOf]; omega
    · obtain rfl : k = n := by omega
      have e := own64_len ho.out
      subst e
      go_wp2
      go_ret
      exact ⟨A', c', rfl, ho.out, hb⟩

set_option maxHeartbeats 4000000 in
set_option maxRecDepth 100000 in
theorem l05Least (A : Option Addr) (xs : List Int) (n c : Nat) (w : World) (hn : Hid (xs.length = n)) (hx : n ≤ 1000) (h : Hid (Ints w w.heap.size A xs)) :
    Calls Try.prog 67 #[.slice A n c] w fun e w' => ∃ A' c', e = .returned (.slice A' (M.least xs n).length c') ∧ Own64 w' w.heap.size (.slice A' (M.least xs n).length c') (M.least xs n) ∧ Hid (Below w.heap.size w w') := by
  have h0 : Hid (Own64 (w.alloc (.cells #[] 2)) w.heap.size (.slice (some ⟨w.heap.size, 0, none⟩) 0 0) (M.least xs 0)) := own64_empty (Nat.le_refl _)
  have hb0 : Hid (Below w.heap.size w (w.alloc (.cells #[] 2))) := bal (b0 w) _
  go_enter Try.func67, Try.ntmps67
  go_wp2
  go_loopw [3, 4] (fun q i wr => ∃ (k m' c' : Nat) (A' : Option Addr), k ≤ n ∧ i = .int .i64 k ∧ q = .slice A' m' c' ∧ m' ≤ k ∧ Hid (Own64 wr w.heap.size (.slice A' m' c') (M.least xs k)) ∧ Hid (Below w.heap.size w wr)) (fun _ i _ => n - (intOf i).toNat)
  case atStart => exact ⟨0, 0, 0, _, Nat.zero_le _, rfl, rfl, Nat.le_refl _, h0, hb0⟩
  case round =>
    obtain ⟨k, m', c', A', hk, rfl, rfl, hmk, ho, hb⟩ := hrel
    clear h0 hb0
    have zr := hb.out.size
    by_cases hlt : k < n
    · obtain ⟨b, off, rfl, hbB, hcells⟩ := h.out (by rw [hn.out]; omega)
      obtain ⟨x, hX⟩ : ∃ x, xs[k]? = some x := ⟨_, List.getElem?_eq_getElem (by rw [hn.out]; exact hlt)⟩
      have g := (hb.out.cell (p := ⟨b, off + k, none⟩) hbB).trans (hcells k _ hX)
      have hm := Lib.hid (own64_len ho.out)
      rcases Nat.eq_zero_or_pos k with hk0 | hk0
      · subst hk0
        obtain rfl : m' = 0 := by omega
        have hs := Lib.hid (M.least_one hX)
        clear hX hcells hm
        have zn : (0 : Int) < (n : Int) := by omega
        go_wp2
        go_quiet (fail)
        go_wp2
        go_quiet (fail)
        go_wp2_with (at_builtin; refine push64 rfl (.tmp 45) (.tmp 47) rfl _ w.heap.size A' 0 c' (M.least xs 0) (0 : Int) rfl rfl ho zr (by omega) ?_; intro A3 c3 w3 ho3 hb3)
        go_roundw
        case rel => exact ⟨1, 1, c3, A3, by omega, by go_num, rfl, by omega, own64_eq ho3.out hs.out.1.symm, (below_drewN hb.out _).trans hb3.out⟩
        case measure => simp [intOf]; omega
      · have hp := M.least_pos (xs := xs) hk0 (by rw [hn.out]; omega)
        obtain ⟨a, ha⟩ : ∃ a, (M.least xs k)[0]? = some a := ⟨_, List.getElem?_eq_getElem hp⟩
        obtain ⟨j, rfl, hj, hjx⟩ := M.atTo_head ha
        obtain ⟨g0, rfl⟩ : ∃ g, A' = some ⟨g, 0, none⟩ := by
          rcases ho.out.2 with ⟨h0, _⟩ | ⟨g, cap, cur, hv, _⟩
          · have := hm.out; omega
          · injection hv with e1; exact ⟨g, e1⟩
        have c1 := (own64_cell ho.out hm.out.symm ha).1
        have c2 := (hb.out.cell (p := ⟨b, off + j, none⟩) hbB).trans (hcells j _ hjx)
        have hjn : (j : Int) < (n : Int) := by omega
        have hj0 : (0 : Int) ≤ (j : Int) := by omega
        have hm1 : (0 : Int) < (m' : Int) := by have := hm.out; omega
        have hm3 : 0 < m' := by omega
        have hm2 : ((m' : Int) == 0) = false := by simp; omega
        have hkn : (k : Int) < (n : Int) := by omega
        have hl := Lib.hid (M.least_less hX hk0)
        have hs := Lib.hid (M.least_same hX hk0)
        have hmo := Lib.hid (M.least_more hX hk0)
        generalize M.minTo xs k = y at *
        clear hcells ha hjx hp hX
        rcases Int.lt_trichotomy x y with hxy | hxy | hxy
        · have hr := Lib.hid (hl.out hxy)
          obtain ⟨A9, m9, c9, e9, hm9⟩ : ∃ A m c, Hid (Value.slice (some ⟨wr.heap.size, 0, none⟩) 0 0 = Value.slice A m c) ∧ Hid (m = 0) := ⟨_, _, _, rfl, rfl⟩
          have hoE : ∀ p q : Nat, Hid (Own64 (((wr.drewN p).alloc (.cells #[] 2)).drewN q) w.heap.size (.slice A9 m9 c9) []) := fun p q => by
            rw [← e9.out]
            exact own_drewN (own64_empty (w := wr.drewN p) zr) q
          have hm9b : ((m9 : Int) == 0) = true := by rw [hm9.out]; rfl
          clear hl hs hmo
          go_wp2
          go_quiet (fail)
          go_wp2
          rw [e9.out]
          go_quiet (fail)
          go_wp2_with (at_builtin; refine push64N rfl (.tmp 45) (.tmp 47) rfl _ w.heap.size A9 m9 c9 [] (k : Int) rfl _ rfl (by simp) (hoE _ _) (by simp; omega) (by have := hm9.out; omega) ?_; intro A3 c3 w3 ho3 hb3)
          go_roundw
          case rel => exact ⟨k + 1, m9 + 1, c3, A3, by omega, by go_num, rfl, (by have := hm9.out; omega), own64_eq ho3.out hr.out.1.symm, (below_drewN ((below_drewN hb.out _).alloc zr _) _).trans hb3.out⟩
          case measure => simp [intOf]; omega
        · have hq2 : (x == y) = true := by simp [hxy]
          have hq3 : ¬ x < y := by omega
          have hr := Lib.hid (hs.out hxy)
          clear hl hs hmo hxy
          go_wp2
          go_quiet (fail)
          go_wp2
          go_quiet (fail)
          go_wp2_with (at_builtin; refine push64 rfl (.tmp 45) (.tmp 47) rfl _ w.heap.size _ m' c' (M.least xs k) (k : Int) rfl rfl ho zr (by omega) ?_; intro A3 c3 w3 ho3 hb3)
          go_roundw
          case rel => exact ⟨k + 1, m' + 1, c3, A3, by omega, by go_num, rfl, by omega, own64_eq ho3.out hr.out.1.symm, (below_drewN hb.out _).trans hb3.out⟩
          case measure => simp [intOf]; omega
        · have hq2 : (x == y) = false := by simp; omega
          have hq3 : ¬ x < y := by omega
          have hr := Lib.hid (hmo.out hxy)
          clear hl hs hmo
          go_wp2
          go_quiet (fail)
          go_wp2
          go_quiet (fail)
          go_wp2
          go_roundw
          case rel => exact ⟨k + 1, m', c', _, by omega, by go_num, rfl, by omega, own64_eq ho.out hr.out.1.symm, below_drewN hb.out _⟩
          case measure => simp [intOf]; omega
    · obtain rfl : k = n := by omega
      have e := own64_len ho.out
      subst e
      go_wp2
      go_ret
      exact ⟨A', c', rfl, ho.out, hb⟩
end Go.Proofs.Ytbnnlifpldgcfaa
