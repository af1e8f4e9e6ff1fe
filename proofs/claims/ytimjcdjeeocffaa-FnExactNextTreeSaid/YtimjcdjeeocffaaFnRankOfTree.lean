/- RankOfTree, the program's and the model's: the rank, or a code. -/
import Derived.Test.YtimjcdjeeocffaaRank
import Derived.Test.YtimjcdjeeocffaaTable
import Derived.Test.YtimjcdjeeocffaaLists
import Derived.Test.YtimjcdjeeocffaaPush
import Derived.Test.YtimjcdjeeocffaaGives
namespace Go.Proofs.Ytimjcdjeeocffaa
open Go.RowKit

def F_RankOfTree (xs : List Int) : Int × Int := if M.isTree xs then ((M.rankTo xs xs.length : Int), 0) else (0, 1)

set_option maxHeartbeats 2000000 in
set_option maxRecDepth 100000 in
theorem impl_RankOfTree : GivesNum 87 F_RankOfTree := by
  intro A xs c w hx hcc h
  have hc := codeOf0 A xs c (w.alloc (.cells #[.slice A xs.length c] 26)) (by omega) (h.al _) _ rfl
  cases ht : M.isTree xs
  · rw [ht] at hc
    have HC := Lib.hid hc
    have hF : F_RankOfTree xs = (0, 1) := by rw [F_RankOfTree, ht]; rfl
    rw [hF]
    clear hc ht hF
    go_enter Try.func87, Try.ntmps87
    go_wp2_with fail
    refine HC.out.mono ?_
    rintro e w1 ⟨rfl, hb⟩
    have hB := btr (bal (b0 w) _) hb
    go_wp2
    go_ret2
    exact ⟨rfl, hB⟩
  · rw [ht] at hc
    have HC := Lib.hid hc
    have hF : F_RankOfTree xs = ((M.rankTo xs xs.length : Int), 0) := by rw [F_RankOfTree, ht]; rfl
    have Ht := Lib.hid ht
    have hl24 := (M.tree_len ht).2
    have hl1 := (M.tree_len ht).1
    rw [hF]
    have hmm := @run_makeMap Try.prog
    clear hc ht hF
    go_enter Try.func87, Try.ntmps87
    go_wp2_with fail
    refine HC.out.mono ?_
    rintro e w1 ⟨rfl, hb⟩
    have hB := Lib.hid (btr (bal (b0 w) _) hb)
    have hcell : w1.cell? ⟨w.heap.size, 0, none⟩ = some (.slice A xs.length c) := cell_be (by simp) hb
    have h1 := Lib.hid ((h.al _).be hb)
    have hM0 := Lib.hid (Memo.new M.L w1)
    have hb0 : Hid (Below w1.heap.size w1 (w1.alloc (.map #[] 0))) := bal (b0 w1) _
    have hcell2 := cell_al hcell (.map #[] 0)
    clear hb h HC
    go_wp2
    clear hmm hcell hcell2
    go_loopw [6, 7, 8, 10, 11, 24, 33] (fun s6 s7 s8 _ _ i _ wr => ∃ (v o r : Nat), v ≤ xs.length ∧ i = .int .i64 (v : Int) ∧ s6 = .int .i64 (r : Int) ∧ s7 = .int .i64 ((xs.length : Int) - (v : Int)) ∧ s8 = .int .i64 (o : Int) ∧ Hid (M.dueN xs v = o) ∧ Hid (M.rankTo xs v = r) ∧ Hid (Memo M.L wr w1.heap.size) ∧ Hid (Below w1.heap.size w1 wr)) (fun _ _ _ _ _ i _ _ => xs.length - (intOf i).toNat)
    case atStart => exact ⟨0, 1, 0, Nat.zero_le _, rfl, rfl, by go_num, rfl, M.dueN_zero xs, rfl, hM0, hb0⟩
    case round =>
      obtain ⟨v, o, r, hv, rfl, rfl, rfl, rfl, ho, hr, hM, hbr⟩ := hrel
      clear hM0 hb0
      by_cases hlt : v < xs.length
      · obtain ⟨b, off, x, rfl, hbB, g, hX⟩ := (h1.out.be hbr.out).at_ hlt
        have hdg := M.tree_deg Ht.out hX.out
        obtain ⟨d, rfl⟩ := Int.eq_ofNat_of_zero_le hdg.1
        have hd24 : d ≤ 24 := by omega
        obtain ⟨l, hl⟩ : ∃ l, Hid (xs.length - v - 1 = l) := ⟨_, rfl⟩
        have ho1 := M.dueN_pos Ht.out hlt
        have ho2 := M.dueN_most Ht.out hv
        rw [ho.out] at ho1 ho2
        obtain ⟨p, hp⟩ : ∃ p, Hid (o - 1 = p) := ⟨_, rfl⟩
        have hl2 : (xs.length : Int) - (v : Int) - 1 = (l : Int) := by have := hl.out; omega
        have hp2 : (o : Int) - 1 = (p : Int) := by have := hp.out; omega
        have hrb := M.rankTo_le Ht.out v hv
        rw [hr.out] at hrb
        have hrb2 : r ≤ 40532396646334464 := by omega
        have hin : ∀ k, k ≤ d → M.inR xs v k ≤ 1688849860263936 := fun k hk => Nat.le_trans (M.inR_le hl24 v k) (by omega)
        have Hin := Lib.hid hin
        have hp600 : p ≤ 600 := by have := hp.out; omega
        have hl23 : l ≤ 23 := by have := hl.out; omega
        have hvn : (v : Int) < (xs.length : Int) := by omega
        clear hdg ho1 ho2 hrb hin
        go_wp2
        obtain ⟨wo, rfl⟩ : ∃ wo : World, wo = wr := ⟨_, rfl⟩
        go_loopw [6, 11, 33] (fun s6 _ i wr => ∃ (k y : Nat), k ≤ d ∧ i = .int .i64 (k : Int) ∧ s6 = .int .i64 ((r : Int) + (y : Int)) ∧ Hid (M.inR xs v k = y) ∧ Hid (Memo M.L wr w1.heap.size) ∧ Hid (Below w1.heap.size w1 wr)) (fun _ _ i _ => d - (intOf i).toNat)
        case atStart => exact ⟨0, 0, Nat.zero_le _, rfl, by go_num, rfl, hM, hbr⟩
        case round =>
          obtain ⟨k, y, hk, rfl, rfl, hy, hM, hbr⟩ := hrel
          have hyb := Hin.out k hk
          rw [hy.out] at hyb
          by_cases hkd : k < d
          · have hkd2 : (k : Int) < (d : Int) := by omega
            have hc := listsAt w1.heap.size l (by omega) (p + k) wr (by omega) hM
            rw [Int.natCast_add] at hc
            have hs : Hid (M.inR xs v (k + 1) = y + M.L l (p + k)) := by show _ = _; rw [M.inR, M.sumTo, hl.out, ho.out, hp.out]; rw [← hy.out]; simp only [M.inR, hl.out, ho.out, hp.out]
            have hyb2 := Hin.out (k + 1) (by omega)
            rw [hs.out] at hyb2
            generalize M.L l (p + k) = z at *
            have HC := Lib.hid hc
            clear hc
            go_wp2_with fail
            refine HC.out.mono ?_
            rintro e w2 ⟨rfl, hM2, hg2⟩
            have hb2 : Hid (Below w1.heap.size w1 w2) := hbr.out.grown hg2.out hbr.out.size (fun k e => by injection e with e; omega)
            clear HC hM hbr
            go_wp2
            go_roundw
            case rel => exact ⟨k + 1, y + z, by omega, by go_num, by rw [Int.natCast_add, Int.add_assoc], hs, hM2, hb2⟩
            case measure => simp [intOf]; omega
          · obtain rfl : k = d := by omega
            have hkd2 : ¬ (k : Int) < (k : Int) := by omega
            have hdue : Hid (M.dueN xs (v + 1) = p + k) := by show _ = _; rw [M.dueN_succ Ht.out hX.out, ho.out, hp.out]
            have hrk : Hid (M.rankTo xs (v + 1) = r + y) := by show _ = _; rw [M.rankTo_at hX.out, hr.out, hy.out]
            have hl3 : Hid ((l : Int) = (xs.length : Int) - ((v + 1 : Nat) : Int)) := by show _ = _; have := hl.out; omega
            go_wp2
            go_roundw
            case rel => exact ⟨v + 1, p + k, r + y, by omega, by go_num, by go_num, by rw [hl3.out], by go_num, hdue, hrk, hM, hbr⟩
            case measure => simp [intOf]; omega
      · obtain rfl : v = xs.length := by omega
        have hge : ¬ (xs.length : Int) < (xs.length : Int) := by omega
        go_wp2
        go_ret2
        exact ⟨by rw [hr.out]; rfl, btr hB.out hbr.out⟩

set_option maxHeartbeats 2000000 in
set_option maxRecDepth 100000 in
theorem l02Rank (A : Option Addr) (xs : List Int) (c : Nat) (w : World) (ht : Hid (M.isTree xs = true)) (h : Ints w w.heap.size A xs) :
    Calls Try.prog 167 #[.agg #[.slice A xs.length c]] w fun e w' => e = .returned (.int .i64 (M.rankTo xs xs.length : Int)) ∧ Below w.heap.size w w' := by
  have hl24 := (M.tree_len ht.out).2
  have hl1 := (M.tree_len ht.out).1
  go_enter Try.func167, Try.ntmps167
  go_wp2_with fail
  refine (l01N A xs.length c _).mono ?_
  rintro e w1 ⟨rfl, hb⟩
  have hB := Lib.hid (btr (bal (b0 w) _) hb)
  have HcellA := Lib.hid (show w1.cell? ⟨w.heap.size, 0, none⟩ = some (.slice A xs.length c) from cell_be (by simp) hb)
  have h1 := Lib.hid ((h.al _).be hb)
  clear hb h
  go_wp2_with fail
  refine (l02Table xs.length w1 hl24).mono ?_
  rintro e w2 ⟨A2, c2, rfl, hG, hb⟩
  have hB2 := Lib.hid (btr hB.out hb.out)
  have hcell := cell_be HcellA.out hb.out
  have h2 := Lib.hid (h1.out.be hb.out)
  obtain ⟨_, G, rfl⟩ := hG.out.shape1 (by omega)
  clear hb h1 hB
  go_wp2
  go_loop [5, 6, 7, 8] (fun s5 s6 i _ => ∃ (v o r : Nat), v ≤ xs.length ∧ i = .int .i64 (v : Int) ∧ s5 = .int .i64 (r : Int) ∧ s6 = .int .i64 (o : Int) ∧ Hid (M.dueN xs v = o) ∧ Hid (M.rankTo xs v = r)) (fun _ _ i _ => xs.length - (intOf i).toNat)
  case atStart => exact ⟨0, 1, 0, Nat.zero_le _, rfl, rfl, rfl, M.dueN_zero xs, rfl⟩
  case round =>
    obtain ⟨v, o, r, hv, rfl, rfl, rfl, ho, hr⟩ := hrel
    by_cases hlt : v < xs.length
    · obtain ⟨b, off, x, rfl, hbB, g, hX⟩ := h2.out.at_ hlt
      have hdg := M.tree_deg ht.out hX.out
      obtain ⟨d, rfl⟩ := Int.eq_ofNat_of_zero_le hdg.1
      have hd24 : d ≤ 24 := by omega
      obtain ⟨l, hl⟩ : ∃ l, Hid (xs.length - v - 1 = l) := ⟨_, rfl⟩
      have ho1 := M.dueN_pos ht.out hlt
      have ho2 := M.dueN_most ht.out hv
      have ho3 := M.due_left ht.out (v := v + 1)
      rw [M.dueN_succ ht.out hX.out] at ho3
      rw [ho.out] at ho1 ho2 ho3
      obtain ⟨p, hp⟩ : ∃ p, Hid (o - 1 = p) := ⟨_, rfl⟩
      rw [hp.out] at ho3
      have hl2 : (xs.length : Int) - (v : Int) - 1 = (l : Int) := by have := hl.out; omega
      have hp2 : (o : Int) - 1 = (p : Int) := by have := hp.out; omega
      have hrb := M.rankTo_le ht.out v hv
      rw [hr.out] at hrb
      have hrb2 : r ≤ 40532396646334464 := by omega
      have hin : ∀ k, k ≤ d → M.inR xs v k ≤ 1688849860263936 := fun k hk => Nat.le_trans (M.inR_le hl24 v k) (by omega)
      have Hin := Lib.hid hin
      have hp600 : p ≤ 600 := by have := hp.out; omega
      have hl23 : l ≤ 23 := by have := hl.out; omega
      have hlN : l < xs.length + 1 := by omega
      have hvn : (v : Int) < (xs.length : Int) := by omega
      obtain ⟨g', k1, k2⟩ := hG.out.at_ hlN
      have K2 := Lib.hid k2
      have hli : (l : Int) < (xs.length : Int) + 1 := by omega
      have hpd : p + d ≤ xs.length := by omega
      clear hdg ho1 ho2 hrb hin k2 ho3 hlN
      go_wp2
      go_loop [5, 8] (fun s5 i => ∃ (k y : Nat), k ≤ d ∧ i = .int .i64 (k : Int) ∧ s5 = .int .i64 ((r : Int) + (y : Int)) ∧ Hid (M.inR xs v k = y)) (fun _ i => d - (intOf i).toNat)
      case atStart => exact ⟨0, 0, Nat.zero_le _, rfl, by go_num, rfl⟩
      case round =>
        obtain ⟨k, y, hk, rfl, rfl, hy⟩ := hrel
        have hyb := Hin.out k hk
        rw [hy.out] at hyb
        by_cases hkd : k < d
        · have hkd2 : (k : Int) < (d : Int) := by omega
          have k3 := K2.out (p + k) _ (M.rowF_at (n := xs.length) (l := l) (o := p + k) (by omega))
          have hs : Hid (M.inR xs v (k + 1) = y + M.L l (p + k)) := by show _ = _; rw [M.inR, M.sumTo, hl.out, ho.out, hp.out]; rw [← hy.out]; simp only [M.inR, hl.out, ho.out, hp.out]
          have hyb2 := Hin.out (k + 1) (by omega)
          rw [hs.out] at hyb2
          generalize M.L l (p + k) = z at *
          have hpi : (p : Int) + (k : Int) < (xs.length : Int) + 2 := by omega
          go_wp2
          go_round
          case rel => exact ⟨k + 1, y + z, by omega, by go_num, by rw [Int.natCast_add, Int.add_assoc], hs⟩
          case measure => simp [intOf]; omega
        · obtain rfl : k = d := by omega
          have hkd2 : ¬ (k : Int) < (k : Int) := by omega
          have hdue : Hid (M.dueN xs (v + 1) = p + k) := by show _ = _; rw [M.dueN_succ ht.out hX.out, ho.out, hp.out]
          have hrk : Hid (M.rankTo xs (v + 1) = r + y) := by show _ = _; rw [M.rankTo_at hX.out, hr.out, hy.out]
          go_wp2
          go_round
          case rel => exact ⟨v + 1, p + k, r + y, by omega, by go_num, by go_num, by go_num, hdue, hrk⟩
          case measure => simp [intOf]; omega
    · obtain rfl : v = xs.length := by omega
      have hge : ¬ (xs.length : Int) < (xs.length : Int) := by omega
      go_wp2
      go_ret
      exact ⟨by rw [hr.out]; rfl, hB2.out⟩

set_option maxHeartbeats 2000000 in
theorem spec_RankOfTree : GivesNum 88 F_RankOfTree := by
  intro A xs c w hx hcc h
  have hc := specIs A xs c (w.alloc (.cells #[.slice A xs.length c] 26)) (by omega) (h.al _)
  cases ht : M.isTree xs
  · rw [ht] at hc
    have HC := Lib.hid hc
    have hF : F_RankOfTree xs = (0, 1) := by rw [F_RankOfTree, ht]; rfl
    rw [hF]
    clear hc ht hF
    go_enter Try.func88, Try.ntmps88
    go_wp2_with fail
    refine HC.out.mono ?_
    rintro e w1 ⟨rfl, hb⟩
    have hB := btr (bal (b0 w) _) hb
    go_wp2
    go_ret2
    exact ⟨rfl, hB⟩
  · rw [ht] at hc
    have HC := Lib.hid hc
    have hF : F_RankOfTree xs = ((M.rankTo xs xs.length : Int), 0) := by rw [F_RankOfTree, ht]; rfl
    have Ht := Lib.hid ht
    rw [hF]
    clear hc ht hF
    go_enter Try.func88, Try.ntmps88
    go_wp2_with fail
    refine HC.out.mono ?_
    rintro e w1 ⟨rfl, hb⟩
    have hB := Lib.hid (btr (bal (b0 w) _) hb)
    have hcell : w1.cell? ⟨w.heap.size, 0, none⟩ = some (.slice A xs.length c) := cell_be (by simp) hb
    have h1 := Lib.hid ((h.al _).be hb)
    clear hb h HC
    go_wp2_with fail
    refine (l02Rank A xs c _ Ht h1.out).mono ?_
    rintro e w2 ⟨rfl, hb⟩
    have hB2 := Lib.hid (btr hB.out hb)
    clear hb
    go_wp2
    go_ret2
    exact ⟨rfl, hB2.out⟩
end Go.Proofs.Ytimjcdjeeocffaa
