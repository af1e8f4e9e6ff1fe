/- LongestWay, the model's: the least of the longest ways, or a code. -/
import Derived.Test.YtbnnlifpldgcfaaLongIm
import Derived.Test.YtbnnlifpldgcfaaReachSp
import Derived.Test.YtbnnlifpldgcfaaLeastIn
namespace Go.Proofs.Ytbnnlifpldgcfaa
open Go.RowKit

theorem cmpL_take {xs ys : List Int} {k : Nat} (h : M.cmpL (xs.drop k) (ys.drop k) = M.cmpL xs ys) {x y : Int} (hx : xs[k]? = some x) (hy : ys[k]? = some y) :
    (x < y → M.cmpL xs ys = -1) ∧ (y < x → M.cmpL xs ys = 1) ∧ (x = y → M.cmpL (xs.drop (k + 1)) (ys.drop (k + 1)) = M.cmpL xs ys) :=
  ⟨fun e => h.symm.trans (M.cmpL_lt hx hy e), fun e => h.symm.trans (M.cmpL_gt hx hy e), fun e => (M.cmpL_eq hx hy e).symm.trans h⟩

set_option maxHeartbeats 16000000 in
set_option maxRecDepth 100000 in
theorem spec_LongestWay : GivesList 45 F_LongestWay := by
  intro A xs c w hx hcc h
  have hc := specIs A xs c (w.alloc (.cells #[.slice A xs.length c] 24)) (by omega) (h.al _)
  cases ht : M.isTree xs
  · rw [ht] at hc
    have HC := Lib.hid hc
    have hF : F_LongestWay xs = ([], 1) := M.cond_no ht
    rw [hF]
    clear hc ht hF
    go_enter Try.func45, Try.ntmps45
    go_wp2_with fail
    refine HC.out.mono ?_
    rintro e w1 ⟨rfl, hb⟩
    have hB := btr (bal (b0 w) _) hb
    go_wp2
    go_ret2
    exact ⟨none, 0, rfl, own64_nil _ _, hB⟩
  · rw [ht] at hc
    have HC := Lib.hid hc
    have hF : F_LongestWay xs = (M.longest xs, 0) := M.cond_yes ht
    have Ht := Lib.hid ht
    have hE := Lib.hid (M.pars_ex ht)
    have hlen := M.tree_len ht
    obtain ⟨n, hn⟩ : ∃ n, Hid (xs.length = n) := ⟨_, rfl⟩
    rw [hF]
    rw [hn.out] at hlen
    clear hc ht hF
    go_enter Try.func45, Try.ntmps45
    go_wp2_with fail
    refine HC.out.mono ?_
    rintro e w1 ⟨rfl, hb⟩
    have hB := Lib.hid (btr (bal (b0 w) _) hb)
    have hcell : w1.cell? ⟨w.heap.size, 0, none⟩ = some (.slice A xs.length c) := cell_be (by simp) hb
    have Hc := Lib.hid hcell
    have h1 := Lib.hid ((h.al _).be hb)
    have HD : Hid (∀ W, Hid (Below w1.heap.size w1 W) → Calls Try.prog 73 #[.agg #[.slice A xs.length c]] W fun e w' => ∃ A' c', e = .returned (.slice A' xs.length c') ∧ Hid (Tab w' w1.heap.size (.slice A' xs.length c') (M.distRows xs xs.length)) ∧ Hid (Below W.heap.size W w')) := fun W hW =>
      (l05Distances A xs c W Ht (Lib.hid (h1.out.be hW.out))).mono fun e w' ⟨A', c', a, o, d⟩ => ⟨A', c', a, o.out.mono hW.out.size, d⟩
    have HR : Hid (∀ W, Hid (Below w1.heap.size w1 W) → Calls Try.prog 65 #[.agg #[.slice A xs.length c]] W fun e w' => ∃ A' c', e = .returned (.slice A' xs.length c') ∧ Hid (Own64 w' w1.heap.size (.slice A' xs.length c') (M.reaches xs)) ∧ Hid (Below W.heap.size W w')) := fun W hW =>
      (l05Reaches A xs c W Ht (Lib.hid (h1.out.be hW.out))).mono fun e w' ⟨A', c', a, o, d⟩ => ⟨A', c', a, own_mono o hW.out.size, d⟩
    clear hb h HC
    go_wp2
    go_cut [4, 5] (fun s4 s5 wx => ∃ (A4 A5 : Option Addr) (c4 c5 : Nat), s4 = .slice A4 xs.length c4 ∧ s5 = .slice A5 xs.length c5 ∧ Hid (Tab wx w1.heap.size (.slice A4 xs.length c4) (M.distRows xs xs.length)) ∧ Hid (Own64 wx w1.heap.size (.slice A5 xs.length c5) (M.reaches xs)) ∧ Hid (Below w1.heap.size w1 wx))
    case first =>
      have K0 : Hid (Below w1.heap.size w1 w1.drew) := (Below.refl _ _).drew
      have cA0 : w1.drew.cell? ⟨w.heap.size, 0, none⟩ = some (.slice A xs.length c) := hcell
      go_region_held3 (fun w' => w'.cell? ⟨w.heap.size, 0, none⟩ = some (.slice A xs.length c) ∧ Hid (Below w1.heap.size w1 w')) (first | exact ⟨cA0, K0⟩ | exact ⟨cell_be Hc.out (Hid.out (by assumption)), by assumption⟩) (first | (go_at_call 73; refine (HD.out _ (by assumption)).mono ?_; rintro e w7 ⟨A7, c7, rfl, ho7, hb7⟩; have hB7 : Hid (Below w1.heap.size w1 w7) := (by first | exact btr K0.out hb7.out | exact btr hB8.out hb7.out)) | (go_at_call 65; refine (HR.out _ (by assumption)).mono ?_; rintro e w8 ⟨A8, c8, rfl, ho8, hb8⟩; have hB8 : Hid (Below w1.heap.size w1 w8) := (by first | exact btr K0.out hb8.out | exact btr hB7.out hb8.out)))
      all_goals (go_wp2_with fail)
      all_goals (go_meet)
      all_goals first
        | exact ⟨A7, A8, c7, c8, rfl, rfl, ho7.out.be hb8.out, ho8, hB8⟩
        | exact ⟨A7, A8, c7, c8, rfl, rfl, ho7, own_be ho8.out hb7.out, hB7⟩
    case rest =>
      obtain ⟨A4, A5, c4, c5, rfl, rfl, hT, hR, hbc⟩ := hcut
      have hrl : Hid ((M.reaches xs).length = n) := by show _ = _; rw [M.reaches_len]; exact hn.out
      rw [hn.out] at hT hR ⊢
      obtain ⟨G, rfl⟩ := hT.out.some_ (by omega)
      obtain ⟨g5, rfl⟩ : ∃ g, A5 = some ⟨g, 0, none⟩ := by
        rcases hR.out.2 with ⟨h0, _⟩ | ⟨g, cap, cur, hv, _⟩
        · injection h0 with _ e _; omega
        · injection hv with e1; exact ⟨g, e1⟩
      have HT : Hid (∀ (W' : World) (i j : Nat) , Below wc.heap.size wc W' → i < n → j < n → ∃ a c', W'.cell? ⟨G, i, none⟩ = some (.slice (some ⟨a, 0, none⟩) n c') ∧ W'.cell? ⟨a, j, none⟩ = some (.int .i64 (M.dist xs i j : Int))) := fun W' i j hW hi hj => by
        obtain ⟨A2, c2, k1, k2, k3⟩ := (hT.out.be hW).at_ (M.distRows_at xs hi)
        rw [M.distRow_len, hn.out] at k1 k2
        obtain ⟨a, rfl⟩ : ∃ g, A2 = some ⟨g, 0, none⟩ := by
          rcases k2.2 with ⟨h0, _⟩ | ⟨g, cap, cur, hv, _⟩
          · injection h0 with _ e _; omega
          · injection hv with e1; exact ⟨g, e1⟩
        exact ⟨a, c2, k1, (own64_cell k2 (by rw [M.distRow_len]; exact hn.out) (M.distRow_at xs i (by rw [hn.out]; exact hj))).1⟩
      have HRe : Hid (∀ (W' : World) (i : Nat), Below wc.heap.size wc W' → i < n → W'.cell? ⟨g5, i, none⟩ = some (.int .i64 (M.reach xs i))) := fun W' i hW hi =>
        (own64_cell (own_be hR.out hW) hrl.out (M.rowOf_at (M.reach xs) (by rw [hn.out]; exact hi))).1
      have HCl : Hid (∀ W', Below wc.heap.size wc W' → W'.cell? ⟨w.heap.size, 0, none⟩ = some (.slice A n c)) := fun W' hW => by
        have := cell_be (cell_be Hc.out hbc.out) hW
        rw [hn.out] at this
        exact this
      have HN : Hid (∀ W, Calls Try.prog 69 #[.agg #[.slice A n c]] W fun e w' => e = .returned (.int .i64 (n : Int)) ∧ Hid (Below W.heap.size W w')) := fun W => l01N A n c W
      have HW : Hid (∀ (v u : Nat) (W : World), v < n → u < n → Below wc.heap.size wc W → Calls Try.prog 61 #[.agg #[.slice A n c], .int .i64 v, .int .i64 u] W fun e w' => ∃ A' c' L, e = .returned (.slice A' L c') ∧ Hid ((M.way xs v u).length = L) ∧ Hid (Own64 w' wc.heap.size (.slice A' L c') (M.way xs v u)) ∧ Hid (Below W.heap.size W w')) := fun v u W hv hu hW => by
        have := l05Way A xs c v u W Ht (by rw [hn.out]; exact hv) (by rw [hn.out]; exact hu) (Lib.hid (h1.out.be (btr hbc.out hW)))
        rw [hn.out] at this
        exact this.mono fun e w' ⟨A3, c3, a1, a2, a3⟩ => ⟨A3, c3, _, a1, rfl, own_mono a2 hW.size, a3⟩
      have hBc := Lib.hid (btr hB.out hbc.out)
      have hm0 : Hid (M.maxTo (M.reaches xs) 0 = 0) := rfl
      clear HD HR hT hR hcell Hc h1 hB hbc
      go_wp2
      go_loop [6, 7] (fun q i => ∃ (k : Nat) (y : Int), k ≤ n ∧ i = .int .i64 k ∧ q = .int .i64 y ∧ Hid (M.maxTo (M.reaches xs) k = y)) (fun _ i => n - (intOf i).toNat)
      case atStart => exact ⟨0, 0, Nat.zero_le _, rfl, rfl, hm0⟩
      case round =>
        obtain ⟨k, y, hk, rfl, rfl, hy⟩ := hrel
        clear hm0
        by_cases hkn : k < n
        · have g := HRe.out wc k (b0 wc) hkn
          have hs := Lib.hid (M.maxTo_step (M.rowOf_at (M.reach xs) (n := xs.length) (i := k) (by rw [hn.out]; exact hkn)) hy.out)
          have hkl : (k : Int) < (n : Int) := by omega
          generalize M.reach xs k = d at *
          go_wp2
          all_goals
            go_round
            case rel => exact ⟨k + 1, _, by omega, by go_num, rfl, hs⟩
            case measure => simp [intOf]; omega
        · obtain rfl : k = n := by omega
          have hle : Hid (∀ v', v' < xs.length → M.reach xs v' ≤ y) := fun v' hv' => by
            have := M.maxTo_ge (M.rowOf_at (M.reach xs) (n := xs.length) (i := v') hv') k (by rw [← hn.out]; exact hv')
            rw [show M.rowOf xs.length (M.reach xs) = M.reaches xs from rfl, hy.out] at this
            exact this
          have hhas : Hid (∃ v', v' < k ∧ M.reach xs v' = y) := by
            rcases M.maxTo_has (xs := M.reaches xs) (k := k) (by rw [hrl.out]; exact Nat.le_refl _) with e | ⟨j, hj, e⟩
            · refine ⟨0, by omega, ?_⟩
              rw [hy.out] at e
              have a1 := hle.out 0 (by rw [hn.out]; omega)
              have a2 := (M.reach_le Ht.out hE.out (v := 0) (by rw [hn.out]; omega) xs.length).1
              have a3 : M.reach xs 0 = M.maxTo (M.distRow xs 0) xs.length := rfl
              omega
            · rw [hy.out, show M.reaches xs = M.rowOf xs.length (M.reach xs) from rfl, M.rowOf_at _ (by rw [hn.out]; exact hj)] at e
              injection e with e
              exact ⟨j, hj, e⟩
          have hy0 : 0 ≤ y := by rw [← hy.out]; exact M.maxTo_pos _ _
          obtain ⟨D, rfl⟩ := Int.eq_ofNat_of_zero_le hy0
          have hv0 : Hid (∀ v', v' < 0 → M.reach xs v' ≠ (D : Int)) := fun v' h => by omega
          clear hy hy0
          go_wp2
          go_loopw [8, 9, 10, 11, 12, 13] (fun i _ _ _ _ _ wr => ∃ (v : Nat), v ≤ k ∧ i = .int .i64 v ∧ Hid (∀ v', v' < v → M.reach xs v' ≠ (D : Int)) ∧ Hid (Below wc.heap.size wc wr)) (fun i _ _ _ _ _ _ => k - (intOf i).toNat)
          case atStart => exact ⟨0, Nat.zero_le _, rfl, hv0, b0 wc⟩
          case round =>
            obtain ⟨v, hv, rfl, hno, hb⟩ := hrel
            clear hv0
            have cA := HCl.out wr hb.out
            by_cases hlt : v < k
            · have hvl : (v : Int) < (k : Int) := by omega
              go_wp2_with fail
              refine (HN.out _).mono ?_
              rintro e w2 ⟨rfl, hb2⟩
              have hB2 := Lib.hid (btr hb.out hb2.out)
              have g := HRe.out w2 v hB2.out hlt
              obtain ⟨rv, hrv⟩ : ∃ rv, Hid (M.reach xs v = rv) := ⟨_, rfl⟩
              rw [hrv.out] at g
              clear cA hb hb2
              by_cases hd : rv = (D : Int)
              · have hq1 : (rv != (D : Int)) = false := by simp [hd]
                have hrD : Hid (M.reach xs v = (D : Int)) := hrv.out.trans hd
                have hl0 := Lib.hid (M.leastTo_zero xs v D)
                have ho0 : Hid (Own64 (w2.alloc (.cells #[] 2)) w2.heap.size (.slice (some ⟨w2.heap.size, 0, none⟩) 0 0) []) := own64_empty (Nat.le_refl _)
                have hb0 : Hid (Below w2.heap.size w2 (w2.alloc (.cells #[] 2))) := bal (b0 w2) _
                have hvx : v < xs.length := by rw [hn.out]; exact hlt
                clear hd
                go_wp2
                go_loopw [9, 10, 11, 12, 13] (fun q i _ _ _ wr => ∃ (j m3 c3 : Nat) (A3 : Option Addr) (l : List Int), j ≤ k ∧ i = .int .i64 j ∧ q = .slice A3 m3 c3 ∧ Hid (M.LeastTo xs v D j l) ∧ Hid (Own64 wr wc.heap.size (.slice A3 m3 c3) l) ∧ Hid (Below w2.heap.size w2 wr)) (fun _ i _ _ _ _ => k - (intOf i).toNat)
                case atStart => exact ⟨0, 0, 0, _, [], Nat.zero_le _, rfl, rfl, hl0, own_mono ho0.out hB2.out.size, hb0⟩
                case round =>
                  obtain ⟨j, m3, c3, A3, l, hj, rfl, rfl, hs, ho, hb⟩ := hrel
                  clear hl0 ho0 hb0
                  have hBr := Lib.hid (btr hB2.out hb.out)
                  have cA := HCl.out _ hBr.out
                  have hml := Lib.hid (own64_len ho.out)
                  by_cases hjk : j < k
                  · have hjl : (j : Int) < (k : Int) := by omega
                    go_wp2_with fail
                    refine (HN.out _).mono ?_
                    rintro e w4 ⟨rfl, hb4⟩
                    have hB4 := Lib.hid (btr hBr.out hb4.out)
                    have hb24 := Lib.hid (btr hb.out hb4.out)
                    have ho4 := Lib.hid (own_be ho.out hb4.out)
                    obtain ⟨a, ca, k1, k2⟩ := HT.out w4 v j hB4.out hlt hjk
                    have hv00 : (0 : Int) ≤ (v : Int) := by omega
                    have hj00 : (0 : Int) ≤ (j : Int) := by omega
                    have hjx : j < xs.length := by rw [hn.out]; exact hjk
                    obtain ⟨dv, hdv⟩ : ∃ dv, Hid (M.dist xs v j = dv) := ⟨_, rfl⟩
                    rw [hdv.out] at k2
                    have cA4 := HCl.out _ hB4.out
                    clear hb hb4 ho cA hBr
                    by_cases hdD : dv = D
                    · have hq2 : ((dv : Int) != (D : Int)) = false := by simp [hdD]
                      have hdist : Hid (M.dist xs v j = D) := hdv.out.trans hdD
                      clear hdD
                      go_wp2_with fail
                      refine (HW.out v j w4 hlt hjk hB4.out).mono ?_
                      rintro e w7 ⟨A7, c7, L, rfl, hL, ho7, hb7⟩
                      have hB7 := Lib.hid (btr hb24.out hb7.out)
                      have ho8 := Lib.hid (own_be ho4.out hb7.out)
                      have hYlen : Hid (L = D + 1) := by
                        have h1 := (M.way_len Ht.out hE.out hvx hjx).1
                        have h2 := hdist.out
                        have h3 := hL.out
                        rw [M.dist] at h2
                        show L = D + 1
                        omega
                      have htake : Hid (l = [] ∨ M.cmpL (M.way xs v j) l < 0 → M.LeastTo xs v D (j + 1) (M.way xs v j)) := fun h => M.leastTo_take Ht.out hE.out hvx hjx hs.out hdist.out h
                      have hkeep : Hid (l ≠ [] → ¬ M.cmpL (M.way xs v j) l < 0 → M.LeastTo xs v D (j + 1) l) := fun h h' => M.leastTo_keep hs.out h h'
                      have hllen : Hid (l ≠ [] → l.length = D + 1) := fun h => M.leastTo_len Ht.out hE.out hvx hs.out h
                      generalize M.way xs v j = Y at *
                      clear hs hb7 cA4 k1 k2
                      by_cases hl : l = []
                      · have hnew := Lib.hid (htake.out (.inl hl))
                        obtain rfl : m3 = 0 := by rw [hml.out, hl]; rfl
                        clear hl htake hkeep hllen
                        go_wp2
                        refine wp_loop_rounds 1 ?_
                        rw [rounds_succ]
                        go_wp2
                        go_roundw
                        case rel => exact ⟨j + 1, L, c7, A7, Y, by omega, by go_num, rfl, hnew, ho7, hB7⟩
                        case measure => simp [intOf]; omega
                      · have hml2 : Hid (m3 = D + 1) := hml.out.trans (hllen.out hl)
                        have Hl := Lib.hid hl
                        have hm0 : ((m3 : Int) == 0) = false := by have := hml2.out; simp; omega
                        have hq0 : Hid (M.cmpL (Y.drop 0) (l.drop 0) = M.cmpL Y l) := rfl
                        have hm24 : m3 ≤ 47 := by have h1 := (M.reach_le Ht.out hE.out hvx xs.length).2; have h2 : M.reach xs v = M.maxTo (M.distRow xs v) xs.length := rfl; have h3 := hrD.out; have h4 := hml2.out; omega
                        clear hl hllen
                        go_wp2
                        go_loopw [12, 13] (fun q i wr => ∃ t : Nat, t ≤ m3 ∧ i = .int .i64 t ∧ q = .bool false ∧ Hid (M.cmpL (Y.drop t) (l.drop t) = M.cmpL Y l) ∧ Hid (Below w7.heap.size w7 wr)) (fun _ i _ => m3 - (intOf i).toNat)
                        case atStart => exact ⟨0, Nat.zero_le _, rfl, rfl, hq0, b0 w7⟩
                        case round =>
                          obtain ⟨t, htm, rfl, rfl, hq, hb⟩ := hrel
                          clear hq0
                          by_cases htl : t < m3
                          · have htl2 : (t : Int) < (m3 : Int) := by omega
                            have htL : (t : Int) < (L : Int) := by have h1 := hYlen.out; have h2 := hml2.out; omega
                            have ht0 : (0 : Int) ≤ (t : Int) := by omega
                            obtain ⟨x, hx2⟩ : ∃ x, Y[t]? = some x := ⟨_, List.getElem?_eq_getElem (by have h0 := hL.out; have h1 := hYlen.out; have h2 := hml2.out; omega)⟩
                            obtain ⟨y, hy2⟩ : ∃ y, l[t]? = some y := ⟨_, List.getElem?_eq_getElem (by have h0 := hml.out; omega)⟩
                            obtain ⟨b1, o1, e1, _, hc1⟩ := ints_of_own64 (own_be ho7.out hb.out) (by have h0 := hL.out; have h1 := hYlen.out; omega)
                            obtain ⟨b2, o2, e2, _, hc2⟩ := ints_of_own64 (own_be ho8.out hb.out) (by have h0 := hml.out; omega)
                            subst e1
                            subst e2
                            have gx := hc1 t x hx2
                            have gy := hc2 t y hy2
                            have hct := cmpL_take hq.out hx2 hy2
                            clear hc1 hc2 hx2 hy2
                            rcases Int.lt_trichotomy x y with hxy | hxy | hxy
                            · have hq3 : (x != y) = true := by simp; omega
                              have hnew := Lib.hid (htake.out (.inr (by rw [hct.1 hxy]; omega)))
                              have hb9 := Lib.hid (btr hB7.out hb.out)
                              have ho9 := Lib.hid (own_be ho7.out hb.out)
                              clear hct htake hkeep hq
                              go_wp2
                              go_quiet (fail)
                              go_wp2
                              go_quiet (fail)
                              go_wp2
                              go_roundw
                              case rel => exact ⟨j + 1, L, c7, _, Y, by omega, by go_num, rfl, hnew, own_drewN ho9.out _, below_drewN hb9.out _⟩
                              case measure => simp [intOf]; omega
                            · have hq3 : (x != y) = false := by simp [hxy]
                              have hnq := Lib.hid (hct.2.2 hxy)
                              clear hct htake hkeep hq
                              go_wp2
                              go_quiet (fail)
                              go_wp2
                              go_roundw
                              case rel => exact ⟨t + 1, by omega, by go_num, rfl, hnq, below_drewN hb.out _⟩
                              case measure => simp [intOf]; omega
                            · have hq3 : (x != y) = true := by simp; omega
                              have hq4 : ¬ x < y := by omega
                              have hnew := Lib.hid (hkeep.out Hl.out (by rw [hct.2.1 hxy]; omega))
                              have hb9 := Lib.hid (btr hB7.out hb.out)
                              have ho9 := Lib.hid (own_be ho8.out hb.out)
                              clear hct htake hkeep hq
                              go_wp2
                              go_quiet (fail)
                              go_wp2
                              go_quiet (fail)
                              go_wp2
                              go_roundw
                              case rel => exact ⟨j + 1, m3, c3, _, l, by omega, by go_num, rfl, hnew, own_drewN ho9.out _, below_drewN hb9.out _⟩
                              case measure => simp [intOf]; omega
                          · obtain rfl : t = m3 := by omega
                            have hz : M.cmpL Y l = 0 := by
                              rw [← hq.out, List.drop_of_length_le (by have h0 := hL.out; have h1 := hYlen.out; have h2 := hml2.out; omega)]
                              rfl
                            have hnew := Lib.hid (hkeep.out Hl.out (by rw [hz]; omega))
                            have hb9 := Lib.hid (btr hB7.out hb.out)
                            have ho9 := Lib.hid (own_be ho8.out hb.out)
                            clear htake hkeep hq hz
                            go_wp2
                            go_roundw
                            case rel => exact ⟨j + 1, t, c3, A3, l, by omega, by go_num, rfl, hnew, ho9, hb9⟩
                            case measure => simp [intOf]; omega
                    · have hq2 : ((dv : Int) != (D : Int)) = true := by simp; omega
                      have hnew : Hid (M.LeastTo xs v D (j + 1) l) := M.leastTo_skip hs.out (by rw [hdv.out]; exact hdD)
                      go_wp2
                      go_roundw
                      case rel => exact ⟨j + 1, m3, c3, A3, l, by omega, by go_num, rfl, hnew, ho4, hb24⟩
                      case measure => simp [intOf]; omega
                  · obtain rfl : j = k := by omega
                    have hbest : Hid (M.longest xs = l) := M.longest_eq (M.best_of_least Ht.out hE.out hvx hrD.out hle.out hno.out (by rw [hn.out]; exact hs.out))
                    have hm := hml.out
                    subst hm
                    go_wp2_with fail
                    refine (HN.out _).mono ?_
                    rintro e w4 ⟨rfl, hb4⟩
                    have ho4 := Lib.hid (own_be ho.out hb4.out)
                    have hB4 := Lib.hid (btr hBc.out (btr hBr.out hb4.out))
                    have zc := hBc.out.size
                    clear ho hb4
                    go_wp2
                    go_ret2
                    rw [hbest.out]
                    exact ⟨A3, c3, rfl, own_mono ho4.out zc, hB4.out⟩
              · have hq1 : (rv != (D : Int)) = true := by simp [hd]
                have hno2 : Hid (∀ v', v' < v + 1 → M.reach xs v' ≠ (D : Int)) := fun v' h => by
                  by_cases e : v' = v
                  · subst e; rw [hrv.out]; exact hd
                  · exact hno.out v' (by omega)
                go_wp2
                go_roundw
                case rel => exact ⟨v + 1, by omega, by go_num, hno2, hB2⟩
                case measure => simp [intOf]; omega
            · obtain rfl : v = k := by omega
              exfalso
              obtain ⟨v', h1, h2⟩ := hhas.out
              exact hno.out v' h1 h2
end Go.Proofs.Ytbnnlifpldgcfaa
