/- listCode: whether a list has all nodes, each once. -/
import Derived.Test.YtbdmmeoelagdcaaArrEq
import Derived.Test.YtbdmmeoelagdcaaSorted
import Derived.Deep.RegionHeld3
namespace Go.Proofs.Ytbdmmeoelagdcaa
open Go.RowKit
attribute [local go_sem] arr_eql

theorem cellOf_be {w w' : World} {g k : Nat} {v : Value} (h : w.cell? ⟨g, k, none⟩ = some v) (hb : Below w.heap.size w w') : w'.cell? ⟨g, k, none⟩ = some v :=
  (hb.cell (p := ⟨g, k, none⟩) (World.block_lt_of_cell? _ _ h)).trans h
theorem cellOf_al {w : World} {g k : Nat} {v : Value} (h : w.cell? ⟨g, k, none⟩ = some v) (o : Obj) : (w.alloc o).cell? ⟨g, k, none⟩ = some v :=
  (World.cell?_alloc_lt w o ⟨g, k, none⟩ (World.block_lt_of_cell? _ _ h)).trans h
theorem order_cells (w : World) (u v : Value) (t : TypeId) : (w.alloc (.cells #[u, v] t)).cell? ⟨w.heap.size, 0, none⟩ = some u ∧ (w.alloc (.cells #[u, v] t)).cell? ⟨w.heap.size, 1, none⟩ = some v :=
  ⟨by have := World.cell?_alloc_new w #[u, v] t 0; rw [this]; rfl, by have := World.cell?_alloc_new w #[u, v] t 1; rw [this]; rfl⟩

set_option maxHeartbeats 4000000 in
set_option maxRecDepth 100000 in
theorem listCode (A A2 : Option Addr) (l : List Int) (c c2 n : Nat) (w : World) (h1 : 1 ≤ n) (h24 : n ≤ 24) (h2 : Ints w w.heap.size A2 l) (r : Int) (hr : Hid ((if M.isOrd n l then 0 else 2) = r)) :
    Calls Try.prog 155 #[.agg #[.slice A n c, .slice A2 l.length c2]] w fun e w' => e = .returned (.int .i64 r) ∧ Below w.heap.size w w' := by
  obtain ⟨d0, d1⟩ := order_cells w (.slice A n c) (.slice A2 l.length c2) 118
  have hB0 := Lib.hid (bal (b0 w) (.cells #[.slice A n c, .slice A2 l.length c2] 118))
  by_cases hln : l.length = n
  · have H2 := Lib.hid (h2.al (.cells #[.slice A n c, .slice A2 l.length c2] 118))
    have Hl := Lib.hid hln
    have hne : ((l.length : Int) != (n : Int)) = false := by rw [hln]; simp
    have hs : Hid ((if M.sorted l = M.iota n then 0 else 2) = r) := by
      show _ = _
      rw [← hr.out]
      by_cases e : M.isOrd n l = true
      · rw [if_pos ((M.sorted_iff hln).2 e), if_pos e]
      · rw [if_neg (fun h => e ((M.sorted_iff hln).1 h)), if_neg e]
    have hae : Hid (decide (M.arr (M.sorted l) = M.arr (M.iota n)) = decide (M.sorted l = M.iota n)) := by
      have := M.arr_inj (l := M.sorted l) (k := M.iota n) (by rw [M.sorted_len, M.iota_len, hln]) (by rw [M.sorted_len]; omega)
      show decide _ = decide _
      simp [this]
    rw [hln] at d0 d1 hB0 H2 hne ⊢
    clear hln hr h2
    obtain ⟨W, hW⟩ : ∃ W, W = w.alloc (.cells #[.slice A n c, .slice A2 n c2] 118) := ⟨_, rfl⟩
    go_enter Try.func155, Try.ntmps155
    go_wp2_with fail
    rw [← hW] at d0 d1 hB0 H2 ⊢
    clear hW
    refine (valuesOf A2 n c2 _).mono ?_
    rintro e w1 ⟨rfl, rfl⟩
    have bV := Boxed.new W 23 (.slice A2 n c2)
    have HS := Lib.hid (sortedOf W.heap.size A2 l c2 n (W.alloc (.cells #[.slice A2 n c2] 23)) Hl h24 h1 bV (H2.out.al _))
    have hB1 := Lib.hid (bal hB0.out (.cells #[.slice A2 n c2] 23))
    have d0' := cellOf_al d0 (.cells #[.slice A2 n c2] 23)
    have d1' := cellOf_al d1 (.cells #[.slice A2 n c2] 23)
    clear d0 d1 hB0 bV
    go_wp2_with fail
    refine HS.out.mono ?_
    rintro e w3 ⟨g, c', rfl, ho, hb⟩
    have d0 := cellOf_be d0' hb
    have d1 := cellOf_be d1' hb
    have hB3 := Lib.hid (btr hB1.out hb)
    have Ho := Lib.hid ho
    have hsl : Hid ((M.sorted l).length = n) := by show _ = _; rw [M.sorted_len, Hl.out]
    clear d0' d1' hB1 HS hb ho H2
    go_wp2
    have hA1 : ∀ X, Hid (Below w3.heap.size w3 X) → Calls Try.prog 173 #[.slice (some ⟨g, 0, none⟩) n c'] X fun e w' => e = .returned (.agg ((M.arr (M.sorted l)).map (Value.int .i64)).toArray) ∧ Hid (Below w3.heap.size w3 w') := fun X hX =>
      (arrangementOf (some ⟨g, 0, none⟩) (M.sorted l) n c' X h24 hsl (Lib.hid (fun e => by cases e)) ((ints_of_own64 Ho.out).be hX.out)).mono fun e w' ⟨he, hb⟩ => ⟨he, btr hX.out hb⟩
    have hN : ∀ X, Hid (Below w3.heap.size w3 X) → Calls Try.prog 174 #[.agg #[.slice A n c]] X fun e w' => ∃ A', e = .returned (.slice A' n n) ∧ Hid (Own64 w' X.heap.size (.slice A' n n) (M.iota n)) ∧ Hid (Below w3.heap.size w3 w') := fun X hX =>
      (nodesOf A n c X h24).mono fun e w' ⟨A', he, ho, hb⟩ => ⟨A', he, ho, btr hX.out hb⟩
    have hA2 : ∀ A' B X, Hid (Below w3.heap.size w3 X) → Hid (Own64 X B (.slice A' n n) (M.iota n)) → Calls Try.prog 173 #[.slice A' n n] X fun e w' => e = .returned (.agg ((M.arr (M.iota n)).map (Value.int .i64)).toArray) ∧ Hid (Below w3.heap.size w3 w') := fun A' B X hX ho =>
      (arrangementOf A' (M.iota n) n n X h24 (M.iota_len n) (Lib.hid (fun e => by
        subst e
        rcases ho.out.2 with ⟨h1, h2⟩ | ⟨g, cap, cur, hv, _⟩
        · rw [M.iota_len] at h2; omega
        · cases hv)) (ints_of_own64 ho.out)).mono fun e w' ⟨he, hb⟩ => ⟨he, btr hX.out hb⟩
    have HA1 := Lib.hid hA1
    have HN := Lib.hid hN
    have HA2 := Lib.hid hA2
    clear hA1 hN hA2 Ho hsl
    have K0 : Hid (Below w3.heap.size w3 w3.drew) := (Below.refl _ _).drew
    have e0 : w3.drew.cell? ⟨w.heap.size, 0, none⟩ = some (.slice A n c) := d0
    have e1 : w3.drew.cell? ⟨w.heap.size, 1, none⟩ = some (.slice A2 n c2) := d1
    have hg83 := arr_guard
    go_region_held3 (fun w' => w'.cell? ⟨w.heap.size, 0, none⟩ = some (.slice A n c) ∧ Hid (Below w3.heap.size w3 w')) (first | exact ⟨e0, K0⟩ | exact ⟨cellOf_be d0 (Hid.out (by assumption)), by assumption⟩) (first | (go_at_call 174; refine (HN.out _ (by assumption)).mono ?_; rintro e w4 ⟨A4, rfl, ho4, hb4⟩) | (go_at_call_of 173 (c'); refine (HA1.out _ (by assumption)).mono ?_; rintro e w5 ⟨rfl, hb5⟩) | (go_at_call 173; refine (HA2.out _ _ _ (by assumption) (by assumption)).mono ?_; rintro e w6 ⟨rfl, hb6⟩))
    have hb := Lib.hid (btr hB3.out hb6.out)
    rw [hae.out]
    clear HA1 HN HA2 K0 e0 e1 hg83 hb4 hb5 ho4 d0 d1 hae
    by_cases hS : M.sorted l = M.iota n
    · have hR : r = 0 := by rw [← hs.out, if_pos hS]
      rw [decide_eq_true hS]
      subst hR
      clear hS hs
      go_wp2
      go_ret
      exact ⟨rfl, hb.out⟩
    · have hR : r = 2 := by rw [← hs.out, if_neg hS]
      rw [decide_eq_false hS]
      subst hR
      clear hS hs
      go_wp2
      go_ret
      exact ⟨rfl, hb.out⟩
  · have hne : ((l.length : Int) != (n : Int)) = true := by simp; omega
    have hR : r = 2 := by rw [← hr.out, M.isOrd_len hln]; rfl
    subst hR
    clear hr h2
    go_enter Try.func155, Try.ntmps155
    go_wp2
    go_ret
    exact ⟨rfl, hB0.out⟩
end Go.Proofs.Ytbdmmeoelagdcaa
