/- ready: the nodes that can come next, as the program finds them; slices.Max and slices.Min of an ascending list. -/
import Derived.Test.YtgnhmhfianmckaaWithIn
import Derived.Test.YtgnhmhfianmckaaStateCode
import Derived.Test.YtgnhmhfianmckaaIndex
namespace Go.Proofs.Ytgnhmhfianmckaa
open Go.RowKit

namespace M
theorem rdy_nil {n : Nat} {ps : List Int} (h : 1 ≤ n) : rdyTo ps [] n = [0] := by
  have h1 : ∀ m, rdyTo ps [] (1 + m) = [0] := by
    intro m
    induction m with
    | zero => exact rdyTo_hit (ps := ps) (b := []) (k := 0) (decide_eq_true ⟨by simp, .inl rfl⟩)
    | succ m ih =>
      have : rdyB ps [] (1 + m) = false := decide_eq_false fun h => by
        rcases h.2 with e | e
        · omega
        · simp at e
      rw [show 1 + (m + 1) = (1 + m) + 1 by omega, rdyTo_miss this, ih]
  have := h1 (n - 1)
  rwa [show 1 + (n - 1) = n by omega] at this
theorem rdyB_code {n : Nat} {ps b : List Int} (hp : Parents n ps) (hb : Bgn n ps b) (hne : b ≠ []) {v : Nat} (hv : v < n) : rdyB ps b v = (decide (parOf ps (v : Int) ∈ b) && !decide ((v : Int) ∈ b)) := by
  have h0 := bgn_root hp hb hne
  rcases Nat.eq_zero_or_pos v with e | e
  · subst e
    have h1 : ¬ parOf ps ((0 : Nat) : Int) ∈ b := fun h => by
      have := (hb.2.1 _ h).1
      have h2 := hp.2.1
      have h3 : parOf ps ((0 : Nat) : Int) = parOf ps 0 := rfl
      omega
    rw [decide_eq_false h1, Bool.false_and]
    exact decide_eq_false fun h => h.1 h0
  · by_cases h1 : parOf ps (v : Int) ∈ b
    · rw [decide_eq_true h1, Bool.true_and]
      by_cases h2 : (v : Int) ∈ b
      · rw [decide_eq_true h2]; exact decide_eq_false fun h => h.1 h2
      · rw [decide_eq_false h2]; exact decide_eq_true ⟨h2, .inr h1⟩
    · rw [decide_eq_false h1, Bool.false_and]
      exact decide_eq_false fun h => by
        rcases h.2 with e2 | e2
        · omega
        · exact h1 e2
theorem asc_at {r : List Int} (h : r.Pairwise (· < ·)) {i j : Nat} {x y : Int} (hij : i < j) (hx : r[i]? = some x) (hy : r[j]? = some y) : x < y := by
  obtain ⟨h1, h2⟩ := List.getElem?_eq_some_iff.1 hx
  obtain ⟨h3, h4⟩ := List.getElem?_eq_some_iff.1 hy
  have := List.pairwise_iff_getElem.1 h i j h1 h3 hij
  rw [h2, h4] at this
  exact this
end M

set_option maxHeartbeats 2000000 in
theorem pickMax (A : Option Addr) (xs : List Int) (n c : Nat) (w : World) (hn : Hid (xs.length = n)) (hx : n ≤ 1000000) (hpos : 0 < n) (hasc : Hid (xs.Pairwise (· < ·))) (h : Hid (Ints w w.heap.size A xs)) :
    Calls Try.prog 69 #[.slice A n c] w fun e w' => e = .returned (.int .i64 (M.pick false xs)) ∧ w = w' := by
  obtain ⟨x0, hx0⟩ : ∃ x, Hid (xs[0]? = some x) := ⟨_, Lib.hid (List.getElem?_eq_getElem (by rw [hn.out]; exact hpos))⟩
  obtain ⟨b, off, rfl, hbB, hcells⟩ := h.out (by rw [hn.out]; exact hpos)
  have c0 : w.cell? ⟨b, off, none⟩ = some (.int .i64 x0) := by simpa using hcells 0 _ hx0.out
  have Hcells := Lib.hid hcells
  have hl1 : 1 ≤ n := hpos
  have hd1 : ¬ (n : Int) < 1 := by omega
  clear hcells
  go_enter Try.func69, Try.ntmps69
  go_wp2
  go_loop [3, 4] (fun m i => ∃ (k : Nat) (y : Int), 1 ≤ k ∧ k ≤ n ∧ i = .int .i64 k ∧ m = .int .i64 y ∧ Hid (xs[k - 1]? = some y)) (fun _ i => n - (intOf i).toNat)
  case atStart => exact ⟨1, x0, Nat.le_refl _, hl1, rfl, rfl, hx0⟩
  case round =>
    obtain ⟨k, y, hk1, hk, rfl, rfl, hy⟩ := hrel
    clear c0
    by_cases hlt : k < n
    · obtain ⟨x, hX⟩ : ∃ x, Hid (xs[k]? = some x) := ⟨_, List.getElem?_eq_getElem (by rw [hn.out]; exact hlt)⟩
      have g := Hcells.out k _ hX.out
      have hyx : y < x := M.asc_at hasc.out (by omega) hy.out hX.out
      go_wp2
      all_goals
        go_round
        case rel => exact ⟨k + 1, x, by omega, by omega, by go_num, by (first | rfl | (congr 1; omega)), hX⟩
        case measure => simp [intOf]; omega
    · obtain rfl : k = n := by omega
      have he : Hid (M.pick false xs = y) := by show _ = _; simp only [M.pick, Bool.false_eq_true, if_false]; rw [hn.out, hy.out]; rfl
      go_wp2
      go_ret
      exact ⟨by rw [he.out]; rfl, rfl⟩

set_option maxHeartbeats 2000000 in
theorem pickMin (A : Option Addr) (xs : List Int) (n c : Nat) (w : World) (hn : Hid (xs.length = n)) (hx : n ≤ 1000000) (hpos : 0 < n) (hasc : Hid (xs.Pairwise (· < ·))) (h : Hid (Ints w w.heap.size A xs)) :
    Calls Try.prog 76 #[.slice A n c] w fun e w' => e = .returned (.int .i64 (M.pick true xs)) ∧ w = w' := by
  obtain ⟨x0, hx0⟩ : ∃ x, Hid (xs[0]? = some x) := ⟨_, Lib.hid (List.getElem?_eq_getElem (by rw [hn.out]; exact hpos))⟩
  obtain ⟨b, off, rfl, hbB, hcells⟩ := h.out (by rw [hn.out]; exact hpos)
  have c0 : w.cell? ⟨b, off, none⟩ = some (.int .i64 x0) := by simpa using hcells 0 _ hx0.out
  have Hcells := Lib.hid hcells
  have hl1 : 1 ≤ n := hpos
  have hd1 : ¬ (n : Int) < 1 := by omega
  have he : Hid (M.pick true xs = x0) := by show _ = _; simp [M.pick, hx0.out]
  clear hcells
  go_enter Try.func76, Try.ntmps76
  go_wp2
  go_loop [3, 4] (fun m i => ∃ (k : Nat), 1 ≤ k ∧ k ≤ n ∧ i = .int .i64 k ∧ m = .int .i64 x0) (fun _ i => n - (intOf i).toNat)
  case atStart => exact ⟨1, Nat.le_refl _, hl1, rfl, rfl⟩
  case round =>
    obtain ⟨k, hk1, hk, rfl, rfl⟩ := hrel
    clear c0
    by_cases hlt : k < n
    · obtain ⟨x, hX⟩ : ∃ x, Hid (xs[k]? = some x) := ⟨_, List.getElem?_eq_getElem (by rw [hn.out]; exact hlt)⟩
      have g := Hcells.out k _ hX.out
      have hyx : x0 < x := M.asc_at hasc.out (by omega) hx0.out hX.out
      go_wp2
      all_goals
        go_round
        case rel => exact ⟨k + 1, by omega, by omega, by go_num, by (first | rfl | (congr 1; omega))⟩
        case measure => simp [intOf]; omega
    · obtain rfl : k = n := by omega
      go_wp2
      go_ret
      exact ⟨by rw [he.out]; rfl, rfl⟩

set_option maxHeartbeats 4000000 in
set_option maxRecDepth 100000 in
theorem ready (A A2 : Option Addr) (xs b : List Int) (n c L c2 : Nat) (w : World) (hn : Hid (xs.length = n)) (hc1 : n ≤ c) (hc2 : c ≤ 1000000000000) (ht : Hid (M.isTree xs = true)) (hpar : Hid (M.Parents n (M.parents xs))) (hbg : Hid (M.Bgn n (M.parents xs) b)) (hL : Hid (b.length = L)) (h : Hid (Ints w w.heap.size A xs)) (h2 : Hid (Ints w w.heap.size A2 b)) :
    Calls Try.prog 74 #[.agg #[.slice A n c, .slice A2 L c2]] w fun e w' => ∃ A' m c', e = .returned (.slice A' m c') ∧ Own64 w' w.heap.size (.slice A' m c') (M.rdyTo (M.parents xs) b n) ∧ Below w.heap.size w w' := by
  have hxl := M.tree_len ht.out
  rw [hn.out] at hxl
  have h24 := hxl.2
  have h1 := hxl.1
  have hLn : L ≤ n := by rw [← hL.out]; exact M.bgn_len hbg.out
  obtain ⟨d0, d1⟩ := order_cells w (.slice A n c) (.slice A2 L c2) 54
  have hB0 := Lib.hid (bal (b0 w) (.cells #[.slice A n c, .slice A2 L c2] 54))
  have H1 := Lib.hid (h.out.al (.cells #[.slice A n c, .slice A2 L c2] 54))
  have H2 := Lib.hid (h2.out.al (.cells #[.slice A n c, .slice A2 L c2] 54))
  have hzW : w.heap.size < (w.alloc (.cells #[.slice A n c, .slice A2 L c2] 54)).heap.size := by simp
  obtain ⟨W, hW⟩ : ∃ W, W = w.alloc (.cells #[.slice A n c, .slice A2 L c2] 54) := ⟨_, rfl⟩
  by_cases hL0 : L = 0
  · have hb0 : b = [] := List.length_eq_zero_iff.1 (by rw [hL.out]; exact hL0)
    have hR : M.rdyTo (M.parents xs) b n = [0] := by rw [hb0]; exact M.rdy_nil h1
    subst hL0
    rw [hR]
    have ho : Hid (Own64 (W.alloc (.cells #[.int .i64 0] 2)) w.heap.size (.slice (some ⟨W.heap.size, 0, none⟩) 1 1) [0]) := own64_one' (by rw [hW]; omega) 0
    have hB1 : Hid (Below w.heap.size w (W.alloc (.cells #[.int .i64 0] 2))) := by rw [hW]; exact bal hB0.out _
    have HW := Lib.hid hW
    clear hR hb0 hbg hW h h2 H1 H2
    go_enter Try.func74, Try.ntmps74
    go_wp2
    go_ret
    rw [HW.out] at ho hB1
    simp only [World.size_alloc] at ho
    exact ⟨some ⟨w.heap.size + 1, 0, none⟩, 1, 1, rfl, ho.out, hB1.out⟩
  · have hne : b ≠ [] := fun e => hL0 (by rw [← hL.out, e]; rfl)
    have hLe : ((L : Int) == 0) = false := by simp; omega
    rw [← hW] at d0 d1 hB0 H1 H2 hzW
    have hcode := Lib.hid (fun v (hv : v < n) => M.rdyB_code hpar.out hbg.out hne hv)
    have HP := Lib.hid ((callsIn_wide (n := 5)).1 (parentsIn_in A xs c W (by rw [hn.out]; exact hc1) hc2 ht H1.out))
    rw [hn.out] at HP
    clear h h2 H1 hbg hne
    go_enter Try.func74, Try.ntmps74
    go_wp2_with fail
    rw [← hW]
    clear hW
    refine HP.out.mono ?_
    rintro e w3 ⟨A3, c3, ps, rfl, hok, ho, hb⟩
    have hps := Lib.hid (M.parents_eq ht.out hok.out)
    rw [hps.out] at hcode hpar
    have hpl : Hid (ps.length = n) := by show _ = _; rw [hok.out.1, hn.out]
    have Hp := Lib.hid (ints_of_own64 ho)
    have hB3 := Lib.hid (btr hB0.out hb)
    have hbW3 := Lib.hid hb
    have hz3 : w.heap.size ≤ w3.heap.size := hB3.out.size
    have hst : Hid (Own64 w3 w3.heap.size (.slice none 0 0) (M.rdyTo ps b 0)) := own64_nil _ _
    clear ho hb HP hok hB0
    go_wp2
    go_loopw [3, 4, 5, 16] (fun q _ _ i wr => ∃ (k m : Nat) (A' : Option Addr) (c' : Nat), k ≤ n ∧ i = .int .i64 (k : Int) ∧ q = .slice A' m c' ∧ Hid (Own64 wr w3.heap.size (.slice A' m c') (M.rdyTo ps b k)) ∧ Hid (Below w3.heap.size w3 wr)) (fun _ _ _ i _ => n - (intOf i).toNat)
    case atStart => exact ⟨0, 0, none, 0, Nat.zero_le _, rfl, rfl, hst, Below.refl _ _⟩
    case round =>
      obtain ⟨k, m, A', c', hk, rfl, rfl, hr, hbr⟩ := hrel
      clear hst
      have hml := own64_len hr.out
      have hrl := M.rdyTo_len ps b k
      have hm1 : m ≤ 1000000 := by omega
      have hbW := Lib.hid (btr hbW3.out hbr.out)
      have f0 := cellOf_be d0 hbW.out
      have f1 := cellOf_be d1 hbW.out
      have hI2 := Lib.hid (H2.out.be hbW.out)
      have hzr : w3.heap.size ≤ wr.heap.size := hbr.out.size
      clear hml hrl
      by_cases hkn : k < n
      · obtain ⟨pb, po, p, rfl, hpb, g1, hX⟩ := (Hp.out.be hbr.out).at_ (k := k) (by rw [hpl.out]; exact hkn)
        have hpp : Hid (M.parOf ps (k : Int) = p) := by have := M.par_at hpar.out hkn; rw [hX.out] at this; injection this with this; exact this.symm
        have hck := hcode.out k hkn
        rw [hpp.out] at hck
        obtain ⟨q1, hq1⟩ : ∃ q, Hid (decide (p ∈ b) = q) := ⟨_, rfl⟩
        obtain ⟨q2, hq2⟩ : ∃ q, Hid (decide ((k : Int) ∈ b) = q) := ⟨_, rfl⟩
        rw [hq1.out, hq2.out] at hck
        have Hck := Lib.hid hck
        have hki : (k : Int) < (n : Int) := by omega
        have hk0 : (0 : Int) ≤ (k : Int) := by omega
        have HC1 := Lib.hid (containsIs A2 b L c2 p wr hL (by omega) hI2 q1 hq1)
        have HC2 := Lib.hid (containsIs A2 b L c2 (k : Int) wr hL (by omega) hI2 q2 hq2)
        clear hX hpp hck
        cases q1
        · have hs := M.rdyTo_miss Hck.out
          rw [← hs] at hr
          clear hs
          go_wp2_with fail
          refine HC1.out.mono ?_
          rintro e w' ⟨rfl, rfl⟩
          go_wp2
          go_roundw
          case rel => exact ⟨k + 1, m, A', c', by omega, by go_num, rfl, hr, hbr⟩
          case measure => simp [intOf]; omega
        · cases q2
          · have hs := Lib.hid (M.rdyTo_hit Hck.out)
            go_wp2_with fail
            refine HC1.out.mono ?_
            rintro e w' ⟨rfl, rfl⟩
            go_wp2_with fail
            refine HC2.out.mono ?_
            rintro e w' ⟨rfl, rfl⟩
            go_wp2_with (at_builtin; refine push64 rfl (.tmp 32) (.tmp 34) rfl wr w3.heap.size A' m c' (M.rdyTo ps b k) (k : Int) rfl rfl hr hzr hm1 ?_; intro A9 c9 w9 ho9 hb9)
            rw [← hs.out] at ho9
            have hb10 := Lib.hid (hbr.out.trans hb9.out)
            go_roundw
            case rel => exact ⟨k + 1, m + 1, A9, c9, by omega, by go_num, rfl, ho9, hb10⟩
            case measure => simp [intOf]; omega
          · have hs := M.rdyTo_miss Hck.out
            rw [← hs] at hr
            clear hs
            go_wp2_with fail
            refine HC1.out.mono ?_
            rintro e w' ⟨rfl, rfl⟩
            go_wp2_with fail
            refine HC2.out.mono ?_
            rintro e w' ⟨rfl, rfl⟩
            go_wp2
            go_roundw
            case rel => exact ⟨k + 1, m, A', c', by omega, by go_num, rfl, hr, hbr⟩
            case measure => simp [intOf]; omega
      · obtain rfl : k = n := by omega
        have hge : ¬ (k : Int) < (k : Int) := by omega
        have ho6 := Lib.hid (own_mono hr.out hz3)
        have hB6 := Lib.hid (btr hB3.out hbr.out)
        clear f0 f1
        go_wp2
        go_ret
        exact ⟨A', m, c', rfl, by rw [hps.out]; exact ho6.out, hB6.out⟩
end Go.Proofs.Ytgnhmhfianmckaa
