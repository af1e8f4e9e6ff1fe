/- slices.Min, leastPlaces and l05Least: the places of the least numbers of a list. -/
import Derived.Test.YtamnilpmdccgoaaLeast
import Derived.Test.YtamnilpmdccgoaaPush
import Derived.Test.YtamnilpmdccgoaaTree
import Derived.BigQuiet
namespace Go.Proofs.Ytamnilpmdccgoaa
open Go.RowKit

theorem own_drewN {w : World} {B : Nat} {v : Value} {zs : List Int} (h : Own64 w B v zs) (n : Nat) : Own64 (w.drewN n) B v zs := h

theorem push64N {ops : Array Oper} {rest : List Oper} {o : Oper} {a : Act} {Q : Exit → Act → World → Prop} (hgd : o.guard = none) (s x : Operand)
    (ho : o.op = .call { callee := .builtin .append, args := #[s, x], argTypes := #[22, 22] }) (w : World) (B : Nat) (A : Option Addr) (n c : Nat) (zs : List Int) (y : Int)
    (hs : a.eval s = .slice A n c) (N : Nat) (hx : a.eval x = .slice (some ⟨N, 0, none⟩) 1 1) (hN : N = w.heap.size) (hown : Hid (Own64 w B (.slice A n c) zs)) (hB : B ≤ w.heap.size) (hlen : n ≤ 1000000)
    (h : ∀ A' c' w', Hid (Own64 w' B (.slice A' (n + 1) c') (zs ++ [y])) → Hid (Below B w w') → wpList Try.prog ops Q rest (a.put o.dst (.slice A' (n + 1) c')) w') :
    wpList Try.prog ops Q (o :: rest) a (w.alloc (.cells #[.int .i64 y] 2)) := by
  subst hN
  exact push64 hgd s x ho w B A n c zs y hs hx hown hB hlen h

set_option maxHeartbeats 1000000 in
theorem slicesMin (A : Option Addr) (xs : List Int) (c : Nat) (w : World) (hx : xs.length ≤ 1000000) (hpos : 0 < xs.length) (h : Hid (Ints w w.heap.size A xs)) (r : Int) (hr : Hid (M.minTo xs xs.length = r)) :
    Calls Try.prog 126 #[.slice A xs.length c] w fun e w' => e = .returned (.int .i64 r) ∧ w = w' := by
  obtain ⟨x0, hx0⟩ : ∃ x, xs[0]? = some x := ⟨_, List.getElem?_eq_getElem hpos⟩
  have Hm1 := Lib.hid (M.minTo_one hx0)
  obtain ⟨b, off, rfl, hbB, hcells⟩ := h.out hpos
  have c0 : w.cell? ⟨b, off, none⟩ = some (.int .i64 x0) := by simpa using hcells 0 _ hx0
  have Hcells := Lib.hid hcells
  clear hcells hx0
  have hl1 : 1 ≤ xs.length := hpos
  have hd1 : ¬ (xs.length : Int) < 1 := by omega
  go_enter Try.func126, Try.ntmps126
  go_wp2
  go_loop [3, 4] (fun m i => ∃ (k : Nat) (y : Int), 1 ≤ k ∧ k ≤ xs.length ∧ i = .int .i64 k ∧ m = .int .i64 y ∧ Hid (M.minTo xs k = y)) (fun _ i => xs.length - (intOf i).toNat)
  case atStart => exact ⟨1, x0, Nat.le_refl _, hl1, rfl, rfl, Hm1⟩
  case round =>
    obtain ⟨k, y, hk1, hk, rfl, rfl, hy⟩ := hrel
    clear c0
    by_cases hlt : k < xs.length
    · obtain ⟨x, hX⟩ : ∃ x, xs[k]? = some x := ⟨_, List.getElem?_eq_getElem hlt⟩
      have g := Hcells.out k _ hX
      have hs : Hid (M.minTo xs (k + 1) = min y x) := M.minTo_step hX hk1 hy.out
      clear hX
      go_wp2
      all_goals
        go_round
        case rel => exact ⟨k + 1, _, by omega, by omega, by go_num, rfl, by show _ = _; rw [hs.out]; omega⟩
        case measure => simp [intOf]; omega
    · obtain rfl : k = xs.length := by omega
      have he : Hid (y = r) := hy.out.symm.trans hr.out
      go_wp2
      go_ret
      exact ⟨by rw [← he.out]; rfl, rfl⟩

end Go.Proofs.Ytamnilpmdccgoaa
