/- LayersOf, the program's. -/
import Derived.Test.YtcipafjibkclcaaLayIn
import Derived.Test.YtcipafjibkclcaaLaySp
namespace Go.Proofs.Ytcipafjibkclcaa
open Go.RowKit

set_option maxHeartbeats 2000000 in
set_option maxRecDepth 100000 in
theorem impl_LayersOf : GivesList 20 F_LayersOf := by
  intro A xs c w hx hcc h
  have hc := codeOf0 A xs c (w.alloc (.cells #[.slice A xs.length c] 28)) (by omega) (h.al _) _ rfl
  cases ht : M.isTree xs
  · rw [ht] at hc
    have HC := Lib.hid hc
    have hF : F_LayersOf xs = ([], 1) := M.cond_no ht
    rw [hF]
    clear hc ht hF
    go_enter Try.func20, Try.ntmps20
    go_wp2_with fail
    refine HC.out.mono ?_
    rintro e w1 ⟨rfl, hb⟩
    have hB := btr (bal (b0 w) _) hb
    go_wp2
    go_ret2
    exact ⟨none, 0, rfl, own64_nil _ _, hB⟩
  · rw [ht] at hc
    have HC := Lib.hid hc
    have hF : F_LayersOf xs = (M.layers xs, 0) := M.cond_yes ht
    have Ht := Lib.hid ht
    obtain ⟨ps, hps⟩ := M.pars_ex ht
    have Hps := Lib.hid hps
    have hll : (M.layers xs).length = xs.length := M.rowOf_len _ _
    rw [hF]
    simp only [hll]
    clear hc ht hF hps hll
    go_enter Try.func20, Try.ntmps20
    go_wp2_with fail
    refine HC.out.mono ?_
    rintro e w1 ⟨rfl, hb⟩
    have hB := Lib.hid (btr (bal (b0 w) _) hb)
    have hcell : w1.cell? ⟨w.heap.size, 0, none⟩ = some (.slice A xs.length c) := cell_be (by simp) hb
    have h1 := Lib.hid ((h.al _).be hb)
    clear hb h HC
    go_wp2_with fail
    refine (allAround A xs c _ hcc Ht h1).mono ?_
    rintro e w2 ⟨G, rfl, hT, hb⟩
    have hB2 := Lib.hid (btr hB.out hb.out)
    have z2 := hB2.out.size
    clear hb hcell
    go_wp2_with fail
    refine (layersIn xs xs.length _ _ G w2 Ht (Lib.hid rfl) hT ps Hps).mono ?_
    rintro e w3 ⟨rfl, ho, hb⟩
    have hB3 := Lib.hid (btr hB2.out hb.out)
    have Ho := Lib.hid (own_mono (base' := w.heap.size) ho z2)
    clear ho hb
    go_wp2
    go_ret2
    exact ⟨_, _, rfl, Ho.out, hB3.out⟩
end Go.Proofs.Ytcipafjibkclcaa
