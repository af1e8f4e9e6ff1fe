/- ParseRule, the model's. -/
import Derived.Test.YtbdmmeoelagdcaaFnParseRule
namespace Go.Proofs.Ytbdmmeoelagdcaa
open Go.RowKit

set_option maxHeartbeats 2000000 in
set_option maxRecDepth 100000 in
theorem spec_ParseRule : GivesPR 55 F_ParseRule := by
  intro t w ht
  obtain ⟨hl, hr⟩ := sides_small t ht
  obtain ⟨W, hW⟩ : ∃ W, W = w.alloc (.cells #[.string ⟨#[]⟩, .string ⟨#[]⟩] 62) := ⟨_, rfl⟩
  obtain ⟨d0, d1⟩ := rule_cells w ⟨#[]⟩ ⟨#[]⟩
  have q0 : W.frozen? ⟨w.heap.size, 0, none⟩ = false := by rw [hW]; simp [go_sem]
  have q1 : W.frozen? ⟨w.heap.size, 1, none⟩ = false := by rw [hW]; simp [go_sem]
  have hWs : w.heap.size < W.heap.size := by rw [hW]; simp
  rw [← hW] at d0 d1
  have hB0 : Hid (Below w.heap.size w W) := by rw [hW]; exact bal (b0 w) _
  have hS := l01SplitGt t W ht
  by_cases h2 : (M.cuts t).length = 2
  · have e2 := M.cuts_two h2
    have HI := fun X => Lib.hid (l10Is (M.leftOf t) (M.rightOf t) X hl hr)
    rw [h2, e2] at hS
    have HS := Lib.hid hS
    rw [F_ParseRule]
    clear hS e2 h2
    generalize M.leftOf t = L at *
    generalize M.rightOf t = R at *
    generalize hq : M.isRule L.data.toList R.data.toList = q at *
    clear hq
    go_enter Try.func55, Try.ntmps55
    go_wp2_with fail
    rw [← hW]
    clear hW
    refine HS.out.mono ?_
    rintro e w1 ⟨A', c', rfl, ho, hb1⟩
    obtain ⟨g, rfl, x0, hg⟩ := ownS_cell (k := 0) ho.out rfl
    obtain ⟨g', hg', x1, _⟩ := ownS_cell (k := 1) ho.out rfl
    injection hg' with hg'
    injection hg' with hg' _ _
    subst hg'
    have hB1 := Lib.hid (btr hB0.out hb1.out)
    have c0 := cellR_be d0 hb1.out
    have c1 := cellR_be d1 hb1.out
    have f0 := frozenR hb1.out hWs q0
    have f1 := frozenR hb1.out hWs q1
    have hs1 : w.heap.size < w1.heap.size := Nat.lt_of_lt_of_le hWs hb1.out.size
    clear hb1 d0 d1 q0 q1 hB0 hWs HS ho
    go_wp2
    go_region
    obtain ⟨e0, e1⟩ := rule_cells w1 L R
    obtain ⟨Z, hZ⟩ : ∃ Z, Z = (w1.alloc (.cells #[.string L, .string R] 62)).drew := ⟨_, rfl⟩
    have hbZ : Below w1.heap.size w1 Z := by rw [hZ]; exact (bal (b0 w1) _).drew
    have z0 : Z.cell? ⟨w1.heap.size, 0, none⟩ = some (.string L) := by rw [hZ]; exact e0
    have z1 : Z.cell? ⟨w1.heap.size, 1, none⟩ = some (.string R) := by rw [hZ]; exact e1
    have hB2 := Lib.hid (btr hB1.out hbZ)
    have k0 := cellR_be c0 hbZ
    have k1 := cellR_be c1 hbZ
    have g0 := frozenR hbZ hs1 f0
    have g1 := frozenR hbZ hs1 f1
    have hs2 : w.heap.size < Z.heap.size := Nat.lt_of_lt_of_le hs1 hbZ.size
    rw [← hZ]
    generalize w1.heap.size = b at *
    clear hZ hbZ e0 e1 c0 c1 f0 f1 hB1 hs1 x0 x1 hg
    cases q
    · go_wp2_with fail
      refine (HI _).out.mono ?_
      rintro e w3 ⟨rfl, hb3⟩
      have hB3 := Lib.hid (btr hB2.out hb3)
      have c0 := cellR_be k0 hb3
      have c1 := cellR_be k1 hb3
      have f0 := frozenR hb3 hs2 g0
      have f1 := frozenR hb3 hs2 g1
      clear hb3 k0 k1 g0 g1 hB2 HI hs2 z0 z1
      go_wp2
      refine bodyPost_ret (v := .tuple #[.agg #[.string ⟨#[]⟩, .string ⟨#[]⟩], .int .i64 6]) (by simp [results, Try.results55, go_sem, c0, c1]) rfl ?_
      exact ⟨rfl, below_setCell (below_setCell hB3.out (Nat.le_refl _) _) (Nat.le_refl _) _⟩
    · go_wp2_with fail
      refine (HI _).out.mono ?_
      rintro e w3 ⟨rfl, hb3⟩
      have hB3 := Lib.hid (btr hB2.out hb3)
      have c0 := cellR_be k0 hb3
      have c1 := cellR_be k1 hb3
      have f0 := frozenR hb3 hs2 g0
      have f1 := frozenR hb3 hs2 g1
      have y0 := cellR_be z0 hb3
      have y1 := cellR_be z1 hb3
      clear hb3 k0 k1 g0 g1 hB2 HI hs2 z0 z1
      go_wp2
      refine bodyPost_ret (v := .tuple #[.agg #[.string L, .string R], .int .i64 0]) (by simp [results, Try.results55, go_sem, c0, c1]) rfl ?_
      exact ⟨rfl, below_setCell (below_setCell hB3.out (Nat.le_refl _) _) (Nat.le_refl _) _⟩
  · have e2 := M.cuts_not h2
    obtain ⟨m, hm⟩ : ∃ m, (M.cuts t).length = m := ⟨_, rfl⟩
    have hmi : Hid ((m : Int) ≠ 2) := by show _ ≠ _; omega
    rw [hm] at hS
    have HS := Lib.hid hS
    rw [F_ParseRule, e2]
    clear hS hm h2 e2
    have hne : ((m : Int) != 2) = true := by have := hmi.out; simpa using this
    go_enter Try.func55, Try.ntmps55
    go_wp2_with fail
    rw [← hW]
    clear hW
    refine HS.out.mono ?_
    rintro e w1 ⟨A', c', rfl, ho, hb1⟩
    have hB1 := Lib.hid (btr hB0.out hb1.out)
    have c0 := cellR_be d0 hb1.out
    have c1 := cellR_be d1 hb1.out
    have f0 := frozenR hb1.out hWs q0
    have f1 := frozenR hb1.out hWs q1
    clear hb1 d0 d1 q0 q1 hB0 hWs HS ho
    go_wp2
    refine bodyPost_ret (v := .tuple #[.agg #[.string ⟨#[]⟩, .string ⟨#[]⟩], .int .i64 6]) (by simp [results, Try.results55, go_sem, c0, c1]) rfl ?_
    exact ⟨rfl, below_setCell (below_setCell hB1.out (Nat.le_refl _) _) (Nat.le_refl _) _⟩
end Go.Proofs.Ytbdmmeoelagdcaa
