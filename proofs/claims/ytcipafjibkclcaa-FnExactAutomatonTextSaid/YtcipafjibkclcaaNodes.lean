/- The code of a tree and of numbers that have to be its nodes: codeOf and l01Nodes return the same number. -/
import Derived.Test.YtcipafjibkclcaaEnd
namespace Go.Proofs.Ytcipafjibkclcaa
open Go.RowKit

set_option maxHeartbeats 1000000 in
theorem codeOf (A An : Option Addr) (xs ns : List Int) (c cn : Nat) (w : World) (hx : xs.length ≤ 1000000000000) (hns : ns.length ≤ 1000) (h : Ints w w.heap.size A xs) (hn : Ints w w.heap.size An ns) (r : Int) (hr : Hid (M.code xs ns = r)) :
    Calls Try.prog 63 #[.agg #[.slice A xs.length c], .slice An ns.length cn] w fun e w' => e = .returned (.int .i64 r) ∧ Below w.heap.size w w' := by
  have hc := implIsTree A xs c (w.alloc (.cells #[.slice A xs.length c] 28)) hx (h.al _)
  cases ht : M.isTree xs
  · rw [ht] at hc
    have HC := Lib.hid hc
    have hr' : r = 1 := by rw [← hr.out]; simp [M.code, ht]
    subst hr'
    clear hc ht hr h hn
    go_enter Try.func63, Try.ntmps63
    go_wp2_with fail
    refine HC.out.mono ?_
    rintro e w1 ⟨rfl, hb⟩
    have hB := btr (bal (b0 w) _) hb
    go_wp2
    go_ret
    exact ⟨rfl, hB⟩
  · rw [ht] at hc
    have HC := Lib.hid hc
    have hr' : Hid (M.codeGo xs.length ns = r) := by show _ = _; rw [← hr.out]; simp [M.code, ht]
    have hlen := (M.tree_len ht).2
    clear hc ht hr
    go_enter Try.func63, Try.ntmps63
    go_wp2_with fail
    refine HC.out.mono ?_
    rintro e w1 ⟨rfl, hb⟩
    have hB := btr (bal (b0 w) _) hb
    have hcell : w1.cell? ⟨w.heap.size, 0, none⟩ = some (.slice A xs.length c) := cell_be (by simp) hb
    have h1 := (hn.al _).be hb
    clear hb h hn HC
    go_wp2
    go_loop [6, 12] (fun _ i => ∃ (k : Nat), k ≤ ns.length ∧ i = .int .i64 k ∧ Hid (M.codeGo xs.length (ns.drop k) = r)) (fun _ i => ns.length - (intOf i).toNat)
    case atStart => exact ⟨0, Nat.zero_le _, rfl, hr'⟩
    case round =>
      obtain ⟨k, hk, rfl, hg⟩ := hrel
      clear hr'
      by_cases hlt : k < ns.length
      · obtain ⟨b, off, v, rfl, hbB, g, hX⟩ := h1.at_ hlt
        clear h1
        by_cases hv0 : v < 0
        · have hs : Hid (r = 2) := hg.out.symm.trans (M.codeGo_hit hX.out (.inl hv0))
          go_wp2
          go_ret
          exact ⟨by rw [hs.out]; rfl, hB⟩
        · have hd0 : decide (v < 0) = false := decide_eq_false hv0
          have hv1 : 0 ≤ v := by omega
          by_cases hv2 : (xs.length : Int) ≤ v
          · have hs : Hid (r = 2) := hg.out.symm.trans (M.codeGo_hit hX.out (.inr hv2))
            clear hv0
            go_wp2
            go_ret
            exact ⟨by rw [hs.out]; rfl, hB⟩
          · have hs : Hid (M.codeGo xs.length (ns.drop (k + 1)) = r) := (M.codeGo_miss hX.out hv1 (by omega)).symm.trans hg.out
            have hd1 : decide ((xs.length : Int) ≤ v) = false := decide_eq_false hv2
            have hv3 : v < (xs.length : Int) := by omega
            clear hv0 hv2
            go_wp2
            go_round
            case rel => exact ⟨k + 1, by omega, by go_num, hs⟩
            case measure => simp [intOf]; omega
      · obtain rfl : k = ns.length := by omega
        have hs := hg.out
        rw [List.drop_length] at hs
        have Hs : Hid (r = 0) := hs.symm
        clear hs hg
        go_wp2
        go_ret
        exact ⟨by rw [Hs.out]; rfl, hB⟩

theorem ints_new (w : World) (cs : Array Value) (zs : List Int) (h : cs.toList = zs.map (Value.int .i64)) : Ints (w.alloc (.cells cs 2)) (w.alloc (.cells cs 2)).heap.size (some ⟨w.heap.size, 0, none⟩) zs := fun _ =>
  ⟨w.heap.size, 0, rfl, by simp, fun j x hx => by
    rw [Nat.zero_add, World.cell?_alloc_new]
    rw [← Array.getElem?_toList, h, List.getElem?_map, hx]
    rfl⟩
end Go.Proofs.Ytcipafjibkclcaa
