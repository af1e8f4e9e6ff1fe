/- reachesIn: the reaches of all nodes, the program's. -/
import Derived.Test.YtbnnlifpldgcfaaWayIn
import Derived.Test.YtbnnlifpldgcfaaLeast
import Derived.BigRegion
namespace Go.Proofs.Ytbnnlifpldgcfaa
open Go.RowKit

set_option maxHeartbeats 8000000 in
set_option maxRecDepth 100000 in
theorem reachesIn (A : Option Addr) (xs ps : List Int) (c : Nat) (w : World) (ht : Hid (M.isTree xs = true)) (hp : Hid (M.ParsOK xs ps)) (h : Hid (Ints w w.heap.size A ps)) :
    Calls Try.prog 66 #[.slice A xs.length c] w fun e w' => ∃ A' c', e = .returned (.slice A' xs.length c') ∧ Own64 w' w.heap.size (.slice A' xs.length c') (M.reaches xs) ∧ Hid (Below w.heap.size w w') := by
  have hl := M.tree_len ht.out
  have hE := Lib.hid (M.pars_ex ht.out)
  have hmk := run_make_row' (P := Try.prog) 22 2 (.int .i64 0) 8 Try.underlying22 info64 rfl .i64 .i64 xs.length (by omega) (by omega)
  have h0 : Hid (Own64 (w.alloc (.cells (madeCells #[.int .i64 0] xs.length) 2)) w.heap.size (.slice (some ⟨w.heap.size, 0, none⟩) xs.length xs.length) (M.reachRow xs 0 0)) := by
    have := own64_made (w := w) (B := w.heap.size) (n := xs.length) (Nat.le_refl _) (by unfold maxLen; omega)
    show Own64 _ _ _ _
    rw [M.reachRow_zero]; exact this
  have hb0 : Hid (Below w.heap.size w (w.alloc (.cells (madeCells #[.int .i64 0] xs.length) 2))) := bal (b0 w) _
  obtain ⟨n, hn⟩ : ∃ n, Hid (xs.length = n) := ⟨_, rfl⟩
  have hD : Hid (∀ (v u : Nat) (W : World), v < xs.length → u < xs.length → Below w.heap.size w W → Calls Try.prog 64 #[.slice A xs.length c, .int .i64 v, .int .i64 u] W fun e w' => e = .returned (.int .i64 (M.dist xs v u : Int)) ∧ Hid (Below W.heap.size W w')) := fun v u W hv hu hW =>
    distanceIn A xs ps c v u W ht hp hv hu (Lib.hid (h.out.be hW)) _ rfl
  rw [hn.out] at hmk h0 hb0 hD hl ⊢
  clear h
  go_enter Try.func66, Try.ntmps66
  go_wp2
  clear hmk
  go_loopw [4, 5, 11, 16] (fun _ _ i _ wr => ∃ (v : Nat), v ≤ n ∧ i = .int .i64 v ∧ Hid (Own64 wr w.heap.size (.slice (some ⟨w.heap.size, 0, none⟩) n n) (M.reachRow xs v 0)) ∧ Hid (Below w.heap.size w wr)) (fun _ _ i _ _ => n - (intOf i).toNat)
  case atStart => exact ⟨0, Nat.zero_le _, rfl, h0, hb0⟩
  case round =>
    obtain ⟨v, hv, rfl, ho, hb⟩ := hrel
    clear h0 hb0
    by_cases hlt : v < n
    · go_wp2
      obtain ⟨wo, rfl⟩ : ∃ wo : World, wo = wr := ⟨_, rfl⟩
      go_loopw [5, 16] (fun _ i wr => ∃ (k : Nat), k ≤ n ∧ i = .int .i64 k ∧ Hid (Own64 wr w.heap.size (.slice (some ⟨w.heap.size, 0, none⟩) n n) (M.reachRow xs v k)) ∧ Hid (Below w.heap.size w wr)) (fun _ i _ => n - (intOf i).toNat)
      case atStart => exact ⟨0, Nat.zero_le _, rfl, ho, hb⟩
      case round =>
        obtain ⟨k, hk, rfl, ho, hb⟩ := hrel
        by_cases hkn : k < n
        · have hrl : (M.reachRow xs v k).length = n := by rw [M.reachRow_len]; exact hn.out
          have hvl : v < xs.length := by rw [hn.out]; exact hlt
          have hkl : k < xs.length := by rw [hn.out]; exact hkn
          have hat := M.reachRow_at xs k hvl
          have hst := M.maxTo_step (M.distRow_at xs v hkl) rfl
          have hs := Lib.hid (M.reachRow_step hst)
          have hle := M.reach_le ht.out hE.out hvl k
          have hDv := Lib.hid (fun W hW => hD.out v k W hlt hkn (hb.out.trans hW))
          generalize M.maxTo (M.distRow xs v) k = y at *
          generalize M.dist xs v k = d at *
          obtain ⟨c1, f1, _, hwr⟩ := own64_cell ho.out hrl hat
          have hvn : (v : Int) < (n : Int) := by omega
          have hv0 : (0 : Int) ≤ (v : Int) := by omega
          clear hat hst
          go_wp2
          go_region_with (go_at_call 64; refine (hDv.out _ ((Below.refl _ _).drew)).mono ?_; rintro e w7 ⟨rfl, hb7⟩; have c7 : w7.cell? ⟨w.heap.size, v, none⟩ = some (.int .i64 y) := (hb7.out.cell (p := ⟨w.heap.size, v, none⟩) hwr).trans c1; have f7 : w7.frozen? ⟨w.heap.size, v, none⟩ = false := (hb7.out.frozen (p := ⟨w.heap.size, v, none⟩) hwr).trans f1)
          all_goals (go_wp2)
          all_goals
            have hset := own64_set (own_be ho.out (Below.trans (Below.refl _ wr).drew hb7.out)) hrl v (if y < (d : Int) then (d : Int) else y)
            rw [hs.out] at hset
            go_roundw
            case rel => exact ⟨k + 1, by omega, by go_num, hset, below_setCell (hb.out.trans (((Below.refl _ wr).drew.trans hb7.out).mono hb.out.size)) (Nat.le_refl _) _⟩
            case measure => simp [intOf]; omega
        · obtain rfl : k = n := by omega
          have e : M.reachRow xs v k = M.reachRow xs (v + 1) 0 := by rw [← hn.out]; exact M.reachRow_next
          rw [e] at ho
          go_wp2
          go_roundw
          case rel => exact ⟨v + 1, by omega, by go_num, ho, hb⟩
          case measure => simp [intOf]; omega
    · obtain rfl : v = n := by omega
      go_wp2
      go_ret
      refine ⟨_, _, rfl, own64_eq ho.out ?_, hb⟩
      rw [← hn.out, M.reachRow_end]
end Go.Proofs.Ytbnnlifpldgcfaa
