/- The code of a tree and of numbers that have to be its nodes: codeOf and l01Nodes return the same number. -/
import Derived.Test.YtdgcjkgbglofbaaEnd
namespace Go.Proofs.Ytdgcjkgbglofbaa
open Go.RowKit

set_option maxHeartbeats 1000000 in
theorem codeOf (A An : Option Addr) (xs ns : List Int) (c cn : Nat) (w : World) (hx : xs.length ≤ 1000000000000) (hns : ns.length ≤ 1000) (h : Ints w w.heap.size A xs) (hn : Ints w w.heap.size An ns) (r : Int) (hr : Hid (M.code xs ns = r)) :
    Calls Try.prog 166 #[.agg #[.slice A xs.length c], .slice An ns.length cn] w fun e w' => e = .returned (.int .i64 r) ∧ Below w.heap.size w w' := by
  have hc := implIsTree A xs c (w.alloc (.cells #[.slice A xs.length c] 26)) hx (h.al _)
  cases ht : M.isTree xs
  · rw [ht] at hc
    have HC := Lib.hid hc
    have hr' : r = 1 := by rw [← hr.out]; simp [M.code, ht]
    subst hr'
    clear hc ht hr h hn
    go_enter Try.func166, Try.ntmps166
    go_wp2_with fail
    refine HC.out.mono ?_
    rintro e w1 ⟨rfl, hb⟩
    have hB := btr (bal (b0 w) _) hb
    go_wp2
    go_ret
    exact ⟨rfl, hB⟩
  · rw [ht] at hc
    have HC := Lib.hid hc
    have hr' : Hid (M.codeGo xs.length ns = r) := by show _ = _; rw [← hr.out]; simp [M.code, ht]
    have hlen := (M.tree_len ht).2
    clear hc ht hr
    go_enter Try.func166, Try.ntmps166
    go_wp2_with fail
    refine HC.out.mono ?_
    rintro e w1 ⟨rfl, hb⟩
    have hB := btr (bal (b0 w) _) hb
    have hcell : w1.cell? ⟨w.heap.size, 0, none⟩ = some (.slice A xs.length c) := cell_be (by simp) hb
    have h1 := (hn.al _).be hb
    clear hb h hn HC
    go_wp2
    go_loop [6, 12] (fun _ i => ∃ (k : Nat), k ≤ ns.length ∧ i = .int .i64 k ∧ Hid (M.codeGo xs.length (ns.drop k) = r)) (fun _ i => ns.length - (intOf i).toNat)
    case atStart => exact ⟨0, Nat.zero_le _, rfl, hr'⟩
    case round =>
      obtain ⟨k, hk, rfl, hg⟩ := hrel
      clear hr'
      by_cases hlt : k < ns.length
      · obtain ⟨b, off, v, rfl, hbB, g, hX⟩ := h1.at_ hlt
        clear h1
        by_cases hv0 : v < 0
        · have hs : Hid (r = 2) := hg.out.symm.trans (M.codeGo_hit hX.out (.inl hv0))
          go_wp2
          go_ret
          exact ⟨by rw [hs.out]; rfl, hB⟩
        · have hd0 : decide (v < 0) = false := decide_eq_false hv0
          have hv1 : 0 ≤ v := by omega
          by_cases hv2 : (xs.length : Int) ≤ v
          · have hs : Hid (r = 2) := hg.out.symm.trans (M.codeGo_hit hX.out (.inr hv2))
            clear hv0
            go_wp2
            go_ret
            exact ⟨by rw [hs.out]; rfl, hB⟩
          · have hs : Hid (M.codeGo xs.length (ns.drop (k + 1)) = r) := (M.codeGo_miss hX.out hv1 (by omega)).symm.trans hg.out
            have hd1 : decide ((xs.length : Int) ≤ v) = false := decide_eq_false hv2
            have hv3 : v < (xs.length : Int) := by omega
            clear hv0 hv2
            go_wp2
            go_round
            case rel => exact ⟨k + 1, by omega, by go_num, hs⟩
            case measure => simp [intOf]; omega
      · obtain rfl : k = ns.length := by omega
        have hs := hg.out
        rw [List.drop_length] at hs
        have Hs : Hid (r = 0) := hs.symm
        clear hs hg
        go_wp2
        go_ret
        exact ⟨by rw [Hs.out]; rfl, hB⟩

set_option maxHeartbeats 400000 in
set_option maxRecDepth 100000 in
theorem l01Nodes (A An : Option Addr) (xs ns : List Int) (c cn : Nat) (w : World) (hx : xs.length ≤ 1000000000000) (hns : ns.length ≤ 1000) (h : Ints w w.heap.size A xs) (hn : Ints w w.heap.size An ns) (r : Int) (hr : Hid (M.code xs ns = r)) :
    Calls Try.prog 183 #[.agg #[.slice A xs.length c], .slice An ns.length cn] w fun e w' => e = .returned (.int .i64 r) ∧ Below w.heap.size w w' := by
  have hc := specIs A xs c (w.alloc (.cells #[.slice A xs.length c] 26)) hx (h.al _)
  cases ht : M.isTree xs
  · rw [ht] at hc
    have HC := Lib.hid hc
    have hr' : r = 1 := by rw [← hr.out]; simp [M.code, ht]
    subst hr'
    clear hc ht hr h hn
    go_enter Try.func183, Try.ntmps183
    go_wp2_with fail
    refine HC.out.mono ?_
    rintro e w1 ⟨rfl, hb⟩
    have hB := btr (bal (b0 w) _) hb
    go_wp2
    go_ret
    exact ⟨rfl, hB⟩
  · rw [ht] at hc
    have HC := Lib.hid hc
    have hr' : Hid (M.codeGo xs.length ns = r) := by show _ = _; rw [← hr.out]; simp [M.code, ht]
    have hlen := (M.tree_len ht).2
    clear hc ht hr
    go_enter Try.func183, Try.ntmps183
    go_wp2_with fail
    refine HC.out.mono ?_
    rintro e w1 ⟨rfl, hb⟩
    have hB := btr (bal (b0 w) _) hb
    have hcell : w1.cell? ⟨w.heap.size, 0, none⟩ = some (.slice A xs.length c) := cell_be (by simp) hb
    have HcellA := Lib.hid hcell
    have h1 := (hn.al _).be hb
    clear hb h hn HC
    go_wp2
    clear hcell
    go_loopw [5] (fun i wr => ∃ (k : Nat), k ≤ ns.length ∧ i = .int .i64 k ∧ Hid (M.codeGo xs.length (ns.drop k) = r) ∧ Hid (Below w1.heap.size w1 wr)) (fun i _ => ns.length - (intOf i).toNat)
    case atStart => exact ⟨0, Nat.zero_le _, rfl, hr', b0 w1⟩
    case round =>
      obtain ⟨k, hk, rfl, hg, hbr⟩ := hrel
      clear hr'
      by_cases hlt : k < ns.length
      · obtain ⟨b, off, v, rfl, hbB, g, hX⟩ := (h1.be hbr.out).at_ hlt
        clear h1
        have hki : (k : Int) < (ns.length : Int) := by omega
        have hki0 : (0 : Int) ≤ (k : Int) := by omega
        have hcr := cell_be HcellA.out hbr.out
        have hN : ∀ W, Hid (Below wr.heap.size wr W) → Calls Try.prog 169 #[.agg #[.slice A xs.length c]] W fun e w' => e = .returned (.int .i64 xs.length) ∧ Hid (Below wr.heap.size wr w') := fun W hW =>
          (l01N A xs.length c W).mono fun e w' ⟨he, hb⟩ => ⟨he, btr hW.out hb⟩
        have HN := Lib.hid hN
        clear hN
        obtain ⟨bv, hbv⟩ : ∃ bv, Hid ((decide ((0 : Int) ≤ v) && decide (v ≤ (xs.length : Int) - 1)) = bv) := ⟨_, rfl⟩
        have hkeep : ∀ W, Hid (Below wr.heap.size wr W) → W.cell? ⟨b, off + k, none⟩ = some (.int .i64 v) ∧ W.cell? ⟨w.heap.size, 0, none⟩ = some (.slice A xs.length c) := fun W hW =>
          ⟨(hW.out.cell (p := ⟨b, off + k, none⟩) hbB).trans g, cell_be hcr hW.out⟩
        have HK := Lib.hid hkeep
        clear hkeep
        go_wp2
        have hK0 : Hid (Below wr.heap.size wr wr.drew) := (Below.refl _ _).drew
        have g0 : wr.drew.cell? ⟨b, off + k, none⟩ = some (.int .i64 v) := g
        have hcr0 : wr.drew.cell? ⟨w.heap.size, 0, none⟩ = some (.slice A xs.length c) := hcr
        have hwrap : IntKind.i64.wrap ((xs.length : Int) - 1) = (xs.length : Int) - 1 := IntWalk.i64_in _ (by omega)
        go_region_held3 (fun w' => w'.cell? ⟨b, off + k, none⟩ = some (.int .i64 v) ∧ w'.cell? ⟨w.heap.size, 0, none⟩ = some (.slice A xs.length c) ∧ Hid (Below wr.heap.size wr w')) (first | exact ⟨g0, hcr0, hK0⟩ | exact ⟨(HK.out _ (by assumption)).1, (HK.out _ (by assumption)).2, by assumption⟩) (first | (go_at_call 169; refine (HN.out _ (by assumption)).mono ?_; rintro e w7 ⟨rfl, hb7⟩) | (go_at_call 229; refine (inAny _ _ _ _ bv hbv).mono ?_; rintro e w8 ⟨rfl, rfl⟩))
        clear hwrap g0 hcr0 hK0 HN HK
        have hbw : Hid (Below w1.heap.size w1 w7) := btr hbr.out hb7.out
        cases bv
        · have hs : Hid (r = 2) := hg.out.symm.trans (M.codeGo_hit hX.out (by have := hbv.out; simp at this; omega))
          go_wp2
          go_ret
          exact ⟨by rw [hs.out]; rfl, btr hB hbw.out⟩
        · have hv := hbv.out
          simp only [Bool.and_eq_true, decide_eq_true_eq] at hv
          have hs : Hid (M.codeGo xs.length (ns.drop (k + 1)) = r) := (M.codeGo_miss hX.out hv.1 (by omega)).symm.trans hg.out
          clear hv
          go_wp2
          go_roundw
          case rel => exact ⟨k + 1, by omega, by go_num, hs, hbw⟩
          case measure => simp [intOf]; omega
      · obtain rfl : k = ns.length := by omega
        have hs := hg.out
        rw [List.drop_length] at hs
        have Hs : Hid (r = 0) := hs.symm
        clear hs hg
        go_wp2
        go_ret
        exact ⟨by rw [Hs.out]; rfl, btr hB hbr.out⟩

theorem ints_new (w : World) (cs : Array Value) (zs : List Int) (h : cs.toList = zs.map (Value.int .i64)) : Ints (w.alloc (.cells cs 2)) (w.alloc (.cells cs 2)).heap.size (some ⟨w.heap.size, 0, none⟩) zs := fun _ =>
  ⟨w.heap.size, 0, rfl, by simp, fun j x hx => by
    rw [Nat.zero_add, World.cell?_alloc_new]
    rw [← Array.getElem?_toList, h, List.getElem?_map, hx]
    rfl⟩
end Go.Proofs.Ytdgcjkgbglofbaa
