/- LayersOf, the model's: rounds in which the nodes with few neighbours left are taken. -/
import Derived.Test.YtcipafjibkclcaaLayMem
import Derived.Test.YtcipafjibkclcaaFnAroundOf
import Derived.Test.YtcipafjibkclcaaLayIn
namespace Go.Proofs.Ytcipafjibkclcaa
open Go.RowKit

noncomputable def F_LayersOf (xs : List Int) : List Int × Int := M.cond xs (M.layers xs)
theorem F_LayersOf_len (xs : List Int) : (F_LayersOf xs).1.length ≤ 1048576 := by
  cases ht : M.isTree xs
  · rw [F_LayersOf, M.cond_no ht]; simp
  · rw [F_LayersOf, M.cond_yes ht]
    have h1 : (M.layers xs).length = xs.length := M.rowOf_len _ _
    have h2 := (M.tree_len ht).2
    show (M.layers xs).length ≤ _
    omega

/-- the row of -1 while it is filled -/
theorem M.fill_set (n k : Nat) : (M.rowOf n (fun i => if i < k then (-1 : Int) else 0)).set k (-1) = M.rowOf n (fun i => if i < k + 1 then (-1 : Int) else 0) := by
  rw [M.rowOf_set]
  apply M.rowOf_congr
  intro i _
  by_cases h1 : i = k
  · simp [h1]
  · by_cases h2 : i < k
    · have h3 : i < k + 1 := by omega
      simp [h1, h2, h3]
    · have h3 : ¬ i < k + 1 := by omega
      simp [h1, h2, h3]
theorem M.fill_all (n : Nat) (ar : Nat → List Nat) : M.rowOf n (fun i => if i < n then (-1 : Int) else 0) = M.rowOf n (M.layV n ar (-1) 0) := M.rowOf_congr fun i hi => by
  show (if i < n then (-1 : Int) else 0) = -1
  rw [if_pos hi]
/-- how many of the first neighbours are left -/
def M.cntTo (n : Nat) (ar : Nat → List Nat) (k v j : Nat) : Nat := ((ar v).take j).countP (M.lft n ar k)
theorem M.cntTo_step {n : Nat} {ar : Nat → List Nat} {k v j u : Nat} (h : (ar v)[j]? = some u) : M.cntTo n ar k v (j + 1) = M.cntTo n ar k v j + (if M.lft n ar k u = true then 1 else 0) := by
  unfold M.cntTo
  rw [List.take_add_one, h, List.countP_append]
  simp [List.countP_cons]
theorem M.cntTo_all (n : Nat) (ar : Nat → List Nat) (k v : Nat) : M.cntTo n ar k v (ar v).length = M.cnt ar (M.lft n ar k) v := by
  unfold M.cntTo M.cnt
  rw [List.take_of_length_le (Nat.le_refl _)]

set_option maxHeartbeats 8000000 in
set_option maxRecDepth 100000 in
theorem spec_LayersOf : GivesList 18 F_LayersOf := by
  intro A xs c w hx hcc h
  have hc := specIs A xs c (w.alloc (.cells #[.slice A xs.length c] 28)) (by omega) (h.al _)
  cases ht : M.isTree xs
  · rw [ht] at hc
    have HC := Lib.hid hc
    have hF : F_LayersOf xs = ([], 1) := M.cond_no ht
    rw [hF]
    clear hc ht hF
    go_enter Try.func18, Try.ntmps18
    go_wp2_with fail
    refine HC.out.mono ?_
    rintro e w1 ⟨rfl, hb⟩
    have hB := btr (bal (b0 w) _) hb
    go_wp2
    go_ret2
    exact ⟨none, 0, rfl, own64_nil _ _, hB⟩
  · rw [ht] at hc
    have HC := Lib.hid hc
    have hF : F_LayersOf xs = (M.layers xs, 0) := M.cond_yes ht
    have Ht := Lib.hid ht
    have hlen := M.tree_len ht
    obtain ⟨ps, hps⟩ := M.pars_ex ht
    have Hps := Lib.hid hps
    obtain ⟨n, hn⟩ : ∃ n, Hid (xs.length = n) := ⟨_, rfl⟩
    have hll : (M.layers xs).length = n := (M.rowOf_len _ _).trans hn.out
    rw [hF]
    simp only [hll]
    obtain ⟨L, hL⟩ : ∃ L, Hid (M.layers xs = L) := ⟨_, rfl⟩
    rw [hL.out]
    clear hc ht hF hps hll
    have HN : Hid (∀ W, Calls Try.prog 60 #[.agg #[.slice A n c]] W fun e w' => e = .returned (.int .i64 (n : Int)) ∧ Hid (Below W.heap.size W w')) := fun W => l01N A n c W
    have hmk := run_make_row' (P := Try.prog) 22 2 (.int .i64 0) 8 Try.underlying22 info64 rfl .i64 .i64 n (by have := hn.out; omega) (by have := hn.out; omega)
    go_enter Try.func18, Try.ntmps18
    go_wp2_with fail
    refine HC.out.mono ?_
    rintro e w1 ⟨rfl, hb⟩
    have hB2 := Lib.hid (btr (bal (b0 w) _) hb)
    have hcell : w1.cell? ⟨w.heap.size, 0, none⟩ = some (.slice A xs.length c) := cell_be (by simp) hb
    have h1 := Lib.hid ((h.al _).be hb)
    clear hb h HC
    rw [hn.out] at hlen hcell ⊢
    go_wp2_with fail
    refine (HN.out _).mono ?_
    rintro e w2 ⟨rfl, hb⟩
    have hB3 := Lib.hid (btr hB2.out hb.out)
    have hcell2 : w2.cell? ⟨w.heap.size, 0, none⟩ = some (.slice A n c) := cell_be hcell hb.out
    have h2 := Lib.hid (h1.out.be hb.out)
    have z2 := hB3.out.size
    have hx0 : w.heap.size < w2.heap.size := World.block_lt_of_cell? w2 ⟨w.heap.size, 0, none⟩ hcell2
    clear hb hB2 hcell h1 HN
    have HA : Hid (∀ (v : Nat) (W : World), v < n → Hid (Below w2.heap.size w2 W) → Calls Try.prog 61 #[.agg #[.slice A n c], .int .i64 (v : Int)] W fun e w' => ∃ A' c', e = .returned (.slice A' (M.arN xs v).length c') ∧ Hid (Ints w' w'.heap.size A' (M.aroundOf xs v)) ∧ Hid (Below W.heap.size W w')) := fun v W hv hW => by
      obtain ⟨d, hd, _⟩ := M.tree_degN Ht.out (by rw [hn.out]; exact hv : v < xs.length)
      have := l05Around A xs c v d W Ht (Lib.hid hd) (h2.out.be hW.out)
      rw [hn.out] at this
      refine this.mono fun e w' ⟨A', c', e1, e3, e4⟩ => ?_
      have hl : (M.aroundOf xs v).length = (M.arN xs v).length := by rw [M.aroundOf_N Ht.out Hps.out (by rw [hn.out]; exact hv), List.length_map]
      rw [hl] at e1 e3
      exact ⟨A', c', e1, ints_of_own64 e3, e4⟩
    have hAI : Hid (∀ v, v < n → M.aroundOf xs v = M.toI (M.arN xs v)) := fun v hv => M.aroundOf_N Ht.out Hps.out (by rw [hn.out]; exact hv)
    have har := Lib.hid (M.arN_le Ht.out)
    have hRD : Hid (∀ k, (M.takeN (M.fewB (M.arN xs) (M.lft n (M.arN xs) k)) n = [] → M.rest n (M.arN xs) k = 0) ∧ (M.takeN (M.fewB (M.arN xs) (M.lft n (M.arN xs) k)) n ≠ [] → M.rest n (M.arN xs) (k + 1) + 1 ≤ M.rest n (M.arN xs) k)) := fun k => by
      have := M.rest_dec Ht.out Hps.out (M.spec_round xs.length (M.arN xs) k)
      rwa [hn.out] at this
    have hEnd : Hid (∀ k, M.rest n (M.arN xs) k = 0 → k ≤ n → M.rowOf n (M.layV n (M.arN xs) (-1) k) = L) := fun k h1 h2 => by
      rw [← hL.out]
      have := M.layers_end (xs := xs) (e := -1) (k := k) (by rw [hn.out]; exact h1) (by rw [hn.out]; exact h2)
      rwa [hn.out] at this
    have hGr : Hid (∀ v, v < n → ∀ u ∈ M.arN xs v, u < n) := fun v hv u hu => by
      have := (M.arN_graph Ht.out Hps.out).lt v (by rw [hn.out]; exact hv) u hu
      rwa [hn.out] at this
    have hn24 : n ≤ 24 := hlen.2
    have hn1 : 1 ≤ n := hlen.1
    generalize M.arN xs = ar at *
    clear hL hlen h2 hcc hx Hps hn
    have ho1 := own64_made (w := w2) (B := w2.heap.size) (n := n) (Nat.le_refl _) (by unfold maxLen; omega)
    have hO0 : Hid (Own64 (w2.alloc (.cells (madeCells #[.int .i64 0] n) 2)) w2.heap.size (.slice (some ⟨w2.heap.size, 0, none⟩) n n) (M.rowOf n (fun i => if i < 0 then (-1 : Int) else 0))) := by
      have e : M.rowOf n (fun i => if i < 0 then (-1 : Int) else 0) = List.replicate n 0 := by rw [← M.rowOf_zero]; exact M.rowOf_congr fun i _ => by simp
      rw [e]
      exact ho1
    have hb0 : Hid (Below w2.heap.size w2 (w2.alloc (.cells (madeCells #[.int .i64 0] n) 2))) := bal (b0 w2) _
    clear ho1
    go_wp2
    clear hmk
    go_loopw [25] (fun i wr => ∃ (m : Nat), m ≤ n ∧ i = .int .i64 (m : Int) ∧ Hid (Own64 wr w2.heap.size (.slice (some ⟨w2.heap.size, 0, none⟩) n n) (M.rowOf n (fun i => if i < m then (-1 : Int) else 0))) ∧ Hid (Below w2.heap.size w2 wr)) (fun i _ => n - (intOf i).toNat)
    case atStart => exact ⟨0, Nat.zero_le _, rfl, hO0, hb0⟩
    case round =>
      obtain ⟨m, hk, rfl, hO, hb⟩ := hrel
      clear hO0 hb0
      by_cases hlt : m < n
      · have hki : (m : Int) < (n : Int) := by omega
        have hk0 : (0 : Int) ≤ (m : Int) := by omega
        obtain ⟨y, hy⟩ : ∃ y, (M.rowOf n (fun i => if i < m then (-1 : Int) else 0))[m]? = some y := ⟨_, List.getElem?_eq_getElem (by rw [M.rowOf_len]; exact hlt)⟩
        obtain ⟨k1, k2, _, _⟩ := own64_cell hO.out (M.rowOf_len _ _) hy
        have hset := own64_set hO.out (M.rowOf_len _ _) m (-1)
        rw [M.fill_set] at hset
        have Hset := Lib.hid hset
        have hb2 := Lib.hid (below_setCell (g := w2.heap.size) (k := m) hb.out (Nat.le_refl _) (.int .i64 (-1)))
        clear hset hy hO hb
        go_wp2
        go_roundw
        case rel => exact ⟨m + 1, by omega, by go_num, Hset, hb2⟩
        case measure => simp [intOf]; omega
      · obtain rfl : m = n := by omega
        have hge : ¬ (m : Int) < (m : Int) := by omega
        have hO1 := hO.out
        rw [M.fill_all m ar] at hO1
        have hL0 := Lib.hid hO1
        have hr0 : Hid (M.rest m ar 0 = m) := M.rest_zero m ar
        clear hO hO1
        go_wp2
        go_loopw [6, 8] (fun q i wr => ∃ (k r : Nat), k + r ≤ m ∧ i = .int .i64 (k : Int) ∧ q = .int .i64 (r : Int) ∧ Hid (M.rest m ar k = r) ∧ Hid (Own64 wr w2.heap.size (.slice (some ⟨w2.heap.size, 0, none⟩) m m) (M.rowOf m (M.layV m ar (-1) k))) ∧ Hid (Below w2.heap.size w2 wr)) (fun q _ _ => (intOf q).toNat)
        case atStart => exact ⟨0, m, by omega, rfl, rfl, hr0, hL0, hb⟩
        case round =>
          obtain ⟨k, r, hkr, rfl, rfl, hr, hO, hb⟩ := hrel
          clear hr0 hL0
          rcases Nat.eq_zero_or_pos r with h0 | h0
          · subst h0
            have hO1 := hO.out
            rw [hEnd.out k hr.out (by omega)] at hO1
            have Ho := Lib.hid (own_mono (base' := w.heap.size) hO1 z2)
            have hBB := Lib.hid (btr hB3.out hb.out)
            clear hO hO1 hb
            go_wp2
            go_ret2
            exact ⟨_, _, rfl, Ho.out, hBB.out⟩
          · have hri : (0 : Int) < (r : Int) := by omega
            have hr1 : Hid (M.rest m ar (k + 1) + 1 ≤ r) := by
              have h1 := hRD.out k
              have h2 := hr.out
              show _ ≤ _
              rw [← h2]
              refine h1.2 fun e => ?_
              have := h1.1 e
              omega
            have hstep : Hid (M.rest m ar (k + 1) + (M.takeN (M.fewB ar (M.lft m ar k)) m).length = r) := by show _ = _; rw [← hr.out]; exact M.rest_step (M.spec_round m ar k)
            have hRnd := Lib.hid (M.spec_round m ar k)
            obtain ⟨zr, hzz⟩ : ∃ z, Hid (wr.heap.size = z) := ⟨_, rfl⟩
            have hzr : w2.heap.size < zr := by have := (hO.out.lt w2.heap.size rfl).2; have := hzz.out; omega
            have hq0 : Hid (Own64 (wr.alloc (.cells #[] 2)) zr (.slice (some ⟨wr.heap.size, 0, none⟩) 0 0) (M.toI (M.takeN (M.fewB ar (M.lft m ar k)) 0))) := by rw [← hzz.out]; exact own64_empty (Nat.le_refl _)
            have hO1 : Hid (Own64 (wr.alloc (.cells #[] 2)) w2.heap.size (.slice (some ⟨w2.heap.size, 0, none⟩) m m) (M.rowOf m (M.layV m ar (-1) k))) := hO.out.alloc _
            have hb1 : Hid (Below w2.heap.size w2 (wr.alloc (.cells #[] 2))) := bal hb.out _
            have hz1 : Hid (zr ≤ (wr.alloc (.cells #[] 2)).heap.size) := by show _ ≤ _; have := hzz.out; simp; omega
            clear hO hb hr hzz
            go_wp2
            go_loopw [9, 10] (fun q i wr => ∃ (v l c' : Nat) (A' : Option Addr), v ≤ m ∧ i = .int .i64 (v : Int) ∧ q = .slice A' l c' ∧ l ≤ v ∧ Hid ((M.takeN (M.fewB ar (M.lft m ar k)) v).length = l) ∧ Hid (Own64 wr zr (.slice A' l c') (M.toI (M.takeN (M.fewB ar (M.lft m ar k)) v))) ∧ Hid (Own64 wr w2.heap.size (.slice (some ⟨w2.heap.size, 0, none⟩) m m) (M.rowOf m (M.layV m ar (-1) k))) ∧ Hid (Below w2.heap.size w2 wr) ∧ Hid (zr ≤ wr.heap.size)) (fun _ i _ => m - (intOf i).toNat)
            case atStart => exact ⟨0, 0, 0, _, Nat.zero_le _, rfl, rfl, Nat.le_refl _, rfl, hq0, hO1, hb1, hz1⟩
            case round =>
              obtain ⟨v, l, c', A', hv, rfl, rfl, hlv, hlen, hq, hO, hb, hz⟩ := hrel
              clear hq0 hO1 hb1 hz1
              by_cases hlt : v < m
              · have hvi : (v : Int) < (m : Int) := by omega
                have hv0 : (0 : Int) ≤ (v : Int) := by omega
                have cA : wr.cell? ⟨w.heap.size, 0, none⟩ = some (.slice A m c) := (hb.out.cell (p := ⟨w.heap.size, 0, none⟩) hx0).trans hcell2
                go_wp2_with fail
                refine (HA.out v _ hlt hb).mono ?_
                rintro e w5 ⟨A5, c5, rfl, hI5, hb5⟩
                have hI6 := hI5.out
                rw [hAI.out v hlt] at hI6
                have HI := Lib.hid hI6
                have hB5 := Lib.hid (btr hb.out hb5.out)
                have hq5 := Lib.hid (own_be hq.out hb5.out)
                have hO5 := Lib.hid (own_be hO.out hb5.out)
                have hz5 : Hid (zr ≤ w5.heap.size) := by show _ ≤ _; have := hb5.out.size; have := hz.out; omega
                have hdl := har.out v
                obtain ⟨d, hd⟩ : ∃ d, Hid ((ar v).length = d) := ⟨_, rfl⟩
                have hct := Lib.hid (M.cntTo_all m ar k v)
                rw [hd.out] at hct hdl ⊢
                clear hI5 hI6 hb5 hq hO hz hb cA
                go_wp2
                go_loopw [12, 13] (fun q i wr => ∃ (j : Nat), j ≤ d ∧ i = .int .i64 (j : Int) ∧ q = .int .i64 (M.cntTo m ar k v j : Int) ∧ Hid (Below w5.heap.size w5 wr)) (fun _ i _ => d - (intOf i).toNat)
                case atStart => exact ⟨0, Nat.zero_le _, rfl, rfl, Lib.hid (Below.refl _ _)⟩
                case round =>
                  obtain ⟨j, hjd, rfl, rfl, hb6⟩ := hrel
                  by_cases hjl : j < d
                  · have hji : (j : Int) < (d : Int) := by omega
                    have hj0 : (0 : Int) ≤ (j : Int) := by omega
                    obtain ⟨u, hu⟩ : ∃ u, (ar v)[j]? = some u := ⟨_, List.getElem?_eq_getElem (by rw [hd.out]; exact hjl)⟩
                    have hum : u < m := hGr.out v hlt u (List.mem_of_getElem? hu)
                    have hui : (u : Int) < (m : Int) := by omega
                    have hu0 : (0 : Int) ≤ (u : Int) := by omega
                    have hI7 := HI.out.be hb6.out
                    obtain ⟨ba, oa, rfl, hba, hca⟩ := hI7 (by rw [M.toI_len, hd.out]; omega)
                    have g1 := hca j (u : Int) (M.toI_at hu)
                    have hO6 := own_be hO5.out hb6.out
                    obtain ⟨k1, k2, _, _⟩ := own64_cell hO6 (M.rowOf_len _ _) (M.rowOf_at _ hum)
                    have hneg := M.layV_neg (n := m) (ar := ar) (k := k) (x := u)
                    have hcs := Lib.hid (M.cntTo_step (n := m) (ar := ar) (k := k) hu)
                    have hcl : M.cntTo m ar k v j ≤ 25 := Nat.le_trans List.countP_le_length (Nat.le_trans (List.length_take_le' _ _) (har.out v))
                    generalize M.cntTo m ar k v j = cj at *
                    generalize M.layV m ar (-1) k u = y at *
                    have hwc : IntKind.i64.wrap ((cj : Int) + 1) = (cj : Int) + 1 := IntWalk.i64_in _ (by omega)
                    cases hlf : M.lft m ar k u
                    · have hy : ¬ y < 0 := by rw [hneg, hlf]; simp
                      have hc1 : Hid (M.cntTo m ar k v (j + 1) = cj) := by show _ = _; rw [hcs.out, hlf]; simp
                      clear hneg hcs hlf hu hca hI7 hO6
                      go_wp2
                      go_roundw
                      case rel => exact ⟨j + 1, by omega, by go_num, by rw [hc1.out], hb6⟩
                      case measure => simp [intOf]; omega
                    · have hy : y < 0 := by rw [hneg, hlf]
                      have hc1 : Hid (M.cntTo m ar k v (j + 1) = cj + 1) := by show _ = _; rw [hcs.out, hlf]; simp
                      clear hneg hcs hlf hu hca hI7 hO6
                      go_wp2
                      go_roundw
                      case rel => exact ⟨j + 1, by omega, by go_num, by rw [hc1.out]; go_num, hb6⟩
                      case measure => simp [intOf]; omega
                  · obtain rfl : j = d := by omega
                    have hge : ¬ (j : Int) < (j : Int) := by omega
                    have hqa := Lib.hid (own_be hq5.out hb6.out)
                    have hOa := Lib.hid (own_be hO5.out hb6.out)
                    have hba := Lib.hid (btr hB5.out hb6.out)
                    have hza : Hid (zr ≤ wr.heap.size) := by show _ ≤ _; have := hb6.out.size; have := hz5.out; omega
                    obtain ⟨k1, k2, _, _⟩ := own64_cell hOa.out (M.rowOf_len _ _) (M.rowOf_at _ hlt)
                    have hneg := M.layV_neg (n := m) (ar := ar) (k := k) (x := v)
                    have hcl : M.cntTo m ar k v j ≤ 25 := Nat.le_trans List.countP_le_length (Nat.le_trans (List.length_take_le' _ _) (har.out v))
                    have hyes := Lib.hid (fun h : M.fewB ar (M.lft m ar k) v = true => M.takeN_yes h)
                    have hno := Lib.hid (fun h : M.fewB ar (M.lft m ar k) v = false => M.takeN_no h)
                    have hfew : Hid (M.fewB ar (M.lft m ar k) v = (M.lft m ar k v && decide (M.cntTo m ar k v j ≤ 1))) := by show _ = _; rw [hct.out]; rfl
                    generalize M.cntTo m ar k v j = cj at *
                    generalize M.layV m ar (-1) k v = y at *
                    clear hct HI hB5 hq5 hO5 hz5 hb6
                    cases hlf : M.lft m ar k v
                    · have hy : ¬ y < 0 := by rw [hneg, hlf]; simp
                      have hf : Hid (M.takeN (M.fewB ar (M.lft m ar k)) (v + 1) = M.takeN (M.fewB ar (M.lft m ar k)) v) := hno.out (by rw [hfew.out, hlf]; rfl)
                      rw [← hf.out] at hqa hlen
                      clear hneg hlf hyes hno hfew hf
                      go_wp2
                      go_roundw
                      case rel => exact ⟨v + 1, l, c', A', by omega, by go_num, rfl, by omega, hlen, hqa, hOa, hba, hza⟩
                      case measure => simp [intOf]; omega
                    · have hy : y < 0 := by rw [hneg, hlf]
                      by_cases hc2 : cj < 2
                      · have hci : (cj : Int) < 2 := by omega
                        have hf : Hid (M.toI (M.takeN (M.fewB ar (M.lft m ar k)) (v + 1)) = M.toI (M.takeN (M.fewB ar (M.lft m ar k)) v) ++ [(v : Int)]) := by show _ = _; rw [hyes.out (by rw [hfew.out, hlf]; simp; omega), M.toI_snoc]
                        have hf2 : Hid ((M.takeN (M.fewB ar (M.lft m ar k)) (v + 1)).length = l + 1) := by show _ = _; rw [hyes.out (by rw [hfew.out, hlf]; simp; omega), List.length_append, hlen.out]; rfl
                        clear hneg hlf hyes hno hfew
                        go_wp2_with (at_builtin; refine push64N rfl (.tmp 70) (.tmp 72) rfl wr zr A' l c' (M.toI (M.takeN (M.fewB ar (M.lft m ar k)) v)) (v : Int) rfl _ rfl rfl hqa hza.out (by omega) ?_; intro A6 c6 w6 hq6 hb6)
                        rw [← hf.out] at hq6
                        have hOb : Hid (Own64 w6 w2.heap.size (.slice (some ⟨w2.heap.size, 0, none⟩) m m) (M.rowOf m (M.layV m ar (-1) k))) := own_low hOa.out hb6.out (fun k hk => by injection hk with hk; have hk' : w2.heap.size = k := hk; omega)
                        have hbb : Hid (Below w2.heap.size w2 w6) := hba.out.trans (hb6.out.mono (by omega))
                        have hzb : Hid (zr ≤ w6.heap.size) := by show _ ≤ _; have := hb6.out.size; have := hza.out; omega
                        go_roundw
                        case rel => exact ⟨v + 1, l + 1, c6, A6, by omega, by go_num, rfl, by omega, hf2, hq6, hOb, hbb, hzb⟩
                        case measure => simp [intOf]; omega
                      · have hci : ¬ (cj : Int) < 2 := by omega
                        have hf : Hid (M.takeN (M.fewB ar (M.lft m ar k)) (v + 1) = M.takeN (M.fewB ar (M.lft m ar k)) v) := hno.out (by rw [hfew.out, hlf]; simp; omega)
                        rw [← hf.out] at hqa hlen
                        clear hneg hlf hyes hno hfew hf
                        go_wp2
                        go_roundw
                        case rel => exact ⟨v + 1, l, c', A', by omega, by go_num, rfl, by omega, hlen, hqa, hOa, hba, hza⟩
                        case measure => simp [intOf]; omega
              · obtain rfl : v = m := by omega
                have hge : ¬ (v : Int) < (v : Int) := by omega
                have hmem : Hid (∀ x ∈ M.takeN (M.fewB ar (M.lft v ar k)) v, x < v) := fun x hx => (M.takeN_mem.1 hx).1
                obtain ⟨T, hT⟩ : ∃ T, Hid (M.takeN (M.fewB ar (M.lft v ar k)) v = T) := ⟨_, rfl⟩
                rw [hT.out] at hlen hstep hq hmem hRnd
                have hP0 : Hid (Own64 wr w2.heap.size (.slice (some ⟨w2.heap.size, 0, none⟩) v v) (M.rowOf v (M.layP v ar (-1) k T 0))) := by rw [M.layP_zero]; exact hO.out
                clear hO hT
                go_wp2
                go_loopw [14] (fun i wr => ∃ (p : Nat), p ≤ l ∧ i = .int .i64 (p : Int) ∧ Hid (Own64 wr zr (.slice A' l c') (M.toI T)) ∧ Hid (Own64 wr w2.heap.size (.slice (some ⟨w2.heap.size, 0, none⟩) v v) (M.rowOf v (M.layP v ar (-1) k T p))) ∧ Hid (Below w2.heap.size w2 wr)) (fun i _ => l - (intOf i).toNat)
                case atStart => exact ⟨0, Nat.zero_le _, rfl, hq, hP0, hb⟩
                case round =>
                  obtain ⟨p, hpl, rfl, hq, hO, hb⟩ := hrel
                  clear hP0
                  by_cases hlt : p < l
                  · have hpi : (p : Int) < (l : Int) := by omega
                    have hp0 : (0 : Int) ≤ (p : Int) := by omega
                    obtain ⟨x, hx⟩ : ∃ x, T[p]? = some x := ⟨_, List.getElem?_eq_getElem (by rw [hlen.out]; exact hlt)⟩
                    have hxv : x < v := hmem.out x (List.mem_of_getElem? hx)
                    have hxi : (x : Int) < (v : Int) := by omega
                    have hx0 : (0 : Int) ≤ (x : Int) := by omega
                    obtain ⟨go, rfl⟩ : ∃ go, A' = some ⟨go, 0, none⟩ := by
                      rcases hq.out.2 with ⟨h0, _⟩ | ⟨gg, cap, cur, hvv, _⟩
                      · injection h0 with _ e _; omega
                      · injection hvv with e; exact ⟨gg, e⟩
                    have co := (own64_cell hq.out (by rw [M.toI_len]; exact hlen.out) (M.toI_at hx)).1
                    obtain ⟨k1, k2, _, _⟩ := own64_cell hO.out (M.rowOf_len _ _) (M.rowOf_at _ hxv)
                    have hset := own64_set hO.out (M.rowOf_len _ _) x (k : Int)
                    rw [M.layP_set hx] at hset
                    have hO2 := Lib.hid hset
                    have hq2 := Lib.hid (own_write (g := w2.heap.size) (k := x) hq.out hzr (.int .i64 (k : Int)))
                    have hb2 := Lib.hid (below_setCell (g := w2.heap.size) (k := x) hb.out (Nat.le_refl _) (.int .i64 (k : Int)))
                    clear hset hx hq hO hb
                    go_wp2
                    go_roundw
                    case rel => exact ⟨p + 1, by omega, by go_num, hq2, hO2, hb2⟩
                    case measure => simp [intOf]; omega
                  · obtain rfl : p = l := by omega
                    have hge2 : ¬ (p : Int) < (p : Int) := by omega
                    have hO1 := hO.out
                    rw [← hlen.out, M.layP_end hRnd.out] at hO1
                    have HO := Lib.hid hO1
                    obtain ⟨r2, hr2⟩ : ∃ r2, Hid (M.rest v ar (k + 1) = r2) := ⟨_, rfl⟩
                    have hs1 := hstep.out
                    have hs2 := hr1.out
                    rw [hlen.out, hr2.out] at hs1
                    rw [hr2.out] at hs2
                    have hwl : IntKind.i64.wrap ((r : Int) - (p : Int)) = (r2 : Int) := (IntWalk.i64_in _ (by omega)).trans (by omega)
                    clear hO hO1 hq hstep hRnd hr1
                    go_wp2
                    go_roundw
                    case rel => exact ⟨k + 1, r2, by omega, by go_num, rfl, hr2, HO, hb⟩
                    case measure => simp [intOf]; omega
end Go.Proofs.Ytcipafjibkclcaa
