/- columnAbove and l08Half: the middle of two columns. -/
import Derived.Test.YtamnilpmdccgoaaDraw
import Derived.Test.YtamnilpmdccgoaaPush
import Derived.Test.YtamnilpmdccgoaaLeastIn
import Derived.BigQuiet
namespace Go.Proofs.Ytamnilpmdccgoaa
open Go.RowKit

theorem drewN_two (w : World) (a b : Nat) : (w.drewN a).drewN b = w.drewN (a + b) := by simp [World.drewN, Nat.add_assoc]

set_option maxHeartbeats 2000000 in
set_option maxRecDepth 100000 in
theorem l08Half (n : Int) (w : World) (h0 : -1000 ≤ n) (h1 : n ≤ 1000) : Calls Try.prog 71 #[.int .i64 n] w fun e w' => e = .returned (.int .i64 (M.half n)) ∧ w = w' := by
  by_cases hn : n < 0
  · have hd := M.half_neg hn
    have hw1 : IntKind.i64.wrap (1 - n) = 1 - n := IntWalk.i64_in _ (by omega)
    have hw2 : IntKind.i64.wrap ((1 - n).tdiv 2) = (1 - n) / 2 := by rw [Int.tdiv_eq_ediv_of_nonneg (by omega)]; exact IntWalk.i64_in _ (by omega)
    have hw3 : IntKind.i64.wrap (-((1 - n) / 2)) = M.half n := by rw [hd]; exact IntWalk.i64_in _ (by rw [← hd]; omega)
    clear hd
    go_enter Try.func71, Try.ntmps71
    go_wp2
    go_ret
    exact ⟨rfl, rfl⟩
  · go_enter Try.func71, Try.ntmps71
    go_wp2
    go_ret
    exact ⟨rfl, rfl⟩

set_option maxHeartbeats 4000000 in
set_option maxRecDepth 100000 in
theorem columnAbove (A Ac : Option Addr) (zs cs : List Int) (n c d cc p q : Nat) (x y : Int) (w : World) (hn : n ≤ 1000) (hd0 : 0 < d) (hd : d ≤ 1000) (h : Hid (Ints w w.heap.size A zs)) (hc : Hid (Ints w w.heap.size Ac cs))
    (hzl : Hid (zs.length = n)) (hcl : Hid (cs.length = d)) (hp : Hid (cs[0]? = some (p : Int))) (hq : Hid (cs[d - 1]? = some (q : Int))) (hx : Hid (zs[p]? = some x)) (hy : Hid (zs[q]? = some y)) (bx0 : -100 ≤ x) (bx1 : x ≤ 100) (by0 : -100 ≤ y) (by1 : y ≤ 100) :
    Calls Try.prog 121 #[.slice A n c, .slice Ac d cc] w fun e w' => e = .returned (.int .i64 (M.half (x + y))) ∧ Hid (∃ k, w' = w.drewN k) := by
  have hpn : p < n := by have h1 := (List.getElem?_eq_some_iff.1 hx.out).1; have h2 := hzl.out; omega
  have hqn : q < n := by have h1 := (List.getElem?_eq_some_iff.1 hy.out).1; have h2 := hzl.out; omega
  obtain ⟨b, off, rfl, hbB, hcells⟩ := h.out (by rw [hzl.out]; omega)
  obtain ⟨b2, off2, rfl, hbB2, hcells2⟩ := hc.out (by rw [hcl.out]; omega)
  have c1 := hcells p _ hx.out
  have c2 := hcells q _ hy.out
  have c3 := hcells2 0 _ hp.out
  have c4 := hcells2 (d - 1) _ hq.out
  rw [Nat.add_zero] at c3
  have hd1 : (0 : Int) < (d : Int) := by omega
  have hd2 : (d : Int) - 1 = ((d - 1 : Nat) : Int) := by omega
  have hd3 : ((d - 1 : Nat) : Int) < (d : Int) := by omega
  have hpi : (p : Int) < (n : Int) := by omega
  have hqi : (q : Int) < (n : Int) := by omega
  have hp0 : (0 : Int) ≤ (p : Int) := by omega
  have hq0 : (0 : Int) ≤ (q : Int) := by omega
  clear hcells hcells2 hbB hbB2
  go_enter Try.func121, Try.ntmps121
  go_wp2
  go_quiet (fail)
  go_wp2
  have hw1 : IntKind.i64.wrap (x + y) = x + y := IntWalk.i64_in _ (by omega)
  go_quiet (fail)
  go_wp2
  go_ret
  exact ⟨rfl, _, drewN_two _ _ _⟩
end Go.Proofs.Ytamnilpmdccgoaa
