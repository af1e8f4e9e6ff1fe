/- l08Light: is a node the root, or no heavy child. -/
import Derived.Test.YtamnilpmdccgoaaHeavy
import Derived.Test.YtamnilpmdccgoaaPush
namespace Go.Proofs.Ytamnilpmdccgoaa
open Go.RowKit

set_option maxHeartbeats 4000000 in
set_option maxRecDepth 100000 in
theorem l08Light (Ap Ah : Option Addr) (xs ps : List Int) (cp ch v : Nat) (w : World) (ht : Hid (M.isTree xs = true)) (hp : Hid (M.ParsOK xs ps)) (hv : v < xs.length) (h1 : Hid (Ints w w.heap.size Ap ps)) (h2 : Hid (Ints w w.heap.size Ah (M.heavy xs))) (b : Bool) (hb : Hid (M.isHeavy xs v = b)) :
    Calls Try.prog 91 #[.slice Ap xs.length cp, .slice Ah xs.length ch, .int .i64 (v : Int)] w fun e w' => e = .returned (.bool (!b)) ∧ w = w' := by
  have hx := (M.tree_len ht.out).2
  rcases Nat.eq_zero_or_pos v with h0 | h0
  · subst h0
    have hbf : b = false := by rw [← hb.out]; exact M.isHeavy_root ht.out
    subst hbf
    go_enter Try.func91, Try.ntmps91
    go_wp2
    go_ret
    exact ⟨rfl, rfl⟩
  · have hpl := hp.out.1
    obtain ⟨pb, po, x, rfl, hpb, gp, hX⟩ := h1.out.at_ (k := v) (by omega)
    obtain ⟨p, hq, hpv, _⟩ := M.par_has ht.out hp.out h0 hv
    have hX2 := hX.out
    rw [hq] at hX2
    injection hX2 with hX2
    subst hX2
    have hpx : p < xs.length := by omega
    obtain ⟨qb, qo, y, rfl, hqb, gq, hY⟩ := h2.out.at_ (k := p) (by rw [M.heavy_len]; exact hpx)
    have hY2 := hY.out
    rw [M.heavy_at xs hpx] at hY2
    injection hY2 with hY2
    have hbe : b = decide (y = (v : Int)) := by rw [← hb.out, M.isHeavy_par ht.out hp.out hv hq, hY2]
    have hv0 : ((v : Int) == 0) = false := by simp; omega
    have hvx : (v : Int) < (xs.length : Int) := by omega
    have hvn : (0 : Int) ≤ (v : Int) := by omega
    have hpx' : (p : Int) < (xs.length : Int) := by omega
    have hpn : (0 : Int) ≤ (p : Int) := by omega
    clear hX hY hq hb hY2 hpl
    by_cases hyv : y = (v : Int)
    · have hne : (y != (v : Int)) = false := by simp [hyv]
      have hbt : b = true := by rw [hbe]; exact decide_eq_true hyv
      subst hbt
      clear hbe hyv
      go_enter Try.func91, Try.ntmps91
      go_wp2
      go_ret
      exact ⟨rfl, rfl⟩
    · have hne : (y != (v : Int)) = true := by simp [hyv]
      have hbt : b = false := by rw [hbe]; exact decide_eq_false hyv
      subst hbt
      clear hbe hyv
      go_enter Try.func91, Try.ntmps91
      go_wp2
      go_ret
      exact ⟨rfl, rfl⟩
end Go.Proofs.Ytamnilpmdccgoaa
