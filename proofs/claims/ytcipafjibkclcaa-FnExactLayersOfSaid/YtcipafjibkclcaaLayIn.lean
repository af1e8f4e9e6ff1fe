/- layersIn: the layers of all nodes, the program's. -/
import Derived.Test.YtcipafjibkclcaaLayMem
import Derived.Test.YtcipafjibkclcaaAroundIn
import Derived.Test.YtcipafjibkclcaaOwnI
import Derived.Test.YtcipafjibkclcaaAuto
namespace Go.Proofs.Ytcipafjibkclcaa
open Go.RowKit

theorem own_low {w w' : World} {B base e size n : Nat} {v : Value} {xs : List Value} (h : w.ownsRow base e size v n xs) (hb : Below B w w') (hlt : ∀ k, v.ownBlock = some k → k < B) : w'.ownsRow base e size v n xs := own_heap h (fun k hk => hb.block k (hlt k hk))
theorem own_write {w : World} {base e size n g k : Nat} {v : Value} {xs : List Value} (h : w.ownsRow base e size v n xs) (hg : g < base) (u : Value) : (w.setCell ⟨g, k, none⟩ u).ownsRow base e size v n xs := own_far h hg u

set_option maxRecDepth 100000 in
set_option maxHeartbeats 8000000 in
theorem layersIn (xs : List Int) (n B C G : Nat) (w : World) (ht : Hid (M.isTree xs = true)) (hn : Hid (xs.length = n)) (hT : Hid (Arr w B C G n (M.aroundOf xs) n)) (ps : List Int) (hp : Hid (M.ParsOK xs ps)) :
    Calls Try.prog 64 #[.slice (some ⟨G, 0, none⟩) n n] w fun e w' => e = .returned (.slice (some ⟨w.heap.size, 0, none⟩) n n) ∧ Own64 w' w.heap.size (.slice (some ⟨w.heap.size, 0, none⟩) n n) (M.layers xs) ∧ Hid (Below w.heap.size w w') := by
  have hx := (M.tree_len ht.out).2
  have hx1 := (M.tree_len ht.out).1
  have hn24 : n ≤ 24 := by have := hn.out; omega
  have hn1 : 1 ≤ n := by have := hn.out; omega
  have hGr := Lib.hid (M.arN_graph ht.out hp.out)
  have har := Lib.hid (M.arN_le ht.out)
  have hGl := hT.out.lt.2.2
  have HR : Hid (∀ v, v < n → ∃ A c, w.cell? ⟨G, v, none⟩ = some (.slice A (M.arN xs v).length c) ∧ Ints w w.heap.size A (M.toI (M.arN xs v))) := fun v hv => by
    obtain ⟨A, c, h1, h2⟩ := hT.out.at_ hv
    have e := M.aroundOf_N ht.out hp.out (v := v) (by rw [hn.out]; exact hv)
    have e2 : M.aroundOf xs v = M.toI (M.arN xs v) := e
    rw [e2] at h1 h2
    rw [M.toI_len] at h1 h2
    exact ⟨A, c, h1, ints_of_own64 (by unfold Own64; rw [M.toI_len]; unfold Own64 at h2; rw [M.toI_len] at h2; exact h2)⟩
  have hmk := run_make_row' (P := Try.prog) 22 2 (.int .i64 0) 8 Try.underlying22 info64 rfl .i64 .i64 n (by omega) (by omega)
  have hmk2 := run_make_row' (P := Try.prog) 112 3 (.int .i64 0) 8 Try.underlying112 infoInt rfl .i64 .i64 n (by omega) (by omega)
  clear hT hx hx1
  go_enter Try.func64, Try.ntmps64
  go_wp2
  clear hmk hmk2
  have ho1 := own64_made (w := w) (B := w.heap.size) (n := n) (Nat.le_refl _) (by unfold maxLen; omega)
  have ho2 := ownI_made (w := w.alloc (.cells (madeCells #[.int .i64 0] n) 2)) (B := w.heap.size) (n := n) (by simp) (by unfold maxLen; omega)
  rw [World.size_alloc] at ho2
  obtain ⟨W, hW⟩ : ∃ W, W = (w.alloc (.cells (madeCells #[.int .i64 0] n) 2)).alloc (.cells (madeCells #[.int .i64 0] n) 3) := ⟨_, rfl⟩
  have hzW : W.heap.size = w.heap.size + 1 + 1 := by rw [hW]; simp
  have hBW : Hid (Below w.heap.size w W) := by rw [hW]; exact bal (bal (b0 w) _) _
  have hL0 : Hid (Own64 W w.heap.size (.slice (some ⟨w.heap.size, 0, none⟩) n n) (M.rowOf n (M.layV n (M.arN xs) 0 0))) := by
    have e : M.rowOf n (M.layV n (M.arN xs) 0 0) = List.replicate n 0 := M.rowOf_zero n
    rw [hW, e]
    exact ho1.alloc _
  have hD0 : Hid (OwnI W w.heap.size (.slice (some ⟨w.heap.size + 1, 0, none⟩) n n) (M.rowOf n (M.leftF (M.arN xs) 0))) := by
    have e : M.rowOf n (M.leftF (M.arN xs) 0) = List.replicate n 0 := by rw [← M.rowOf_zero]; exact M.rowOf_congr fun i _ => by simp [M.leftF]
    rw [hW, e]
    exact ho2
  have hO0 : Hid (Own64 W (w.heap.size + 1 + 1) (.slice none 0 0) (M.toI (M.takeN (fun v => decide ((M.arN xs v).length ≤ 1)) 0))) := own64_nil _ _
  rw [← hW]
  clear hW ho1 ho2
  have hBB := Lib.hid (Below.refl (w.heap.size + 1) W)
  go_loopw [5, 22] (fun q i wr => ∃ (v l c' : Nat) (A' : Option Addr), v ≤ n ∧ i = .int .i64 (v : Int) ∧ q = .slice A' l c' ∧ l ≤ v ∧ Hid ((M.toI (M.takeN (fun v => decide ((M.arN xs v).length ≤ 1)) v)).length = l) ∧ Hid (OwnI wr w.heap.size (.slice (some ⟨w.heap.size + 1, 0, none⟩) n n) (M.rowOf n (M.leftF (M.arN xs) v))) ∧
      Hid (Own64 wr (w.heap.size + 1 + 1) (.slice A' l c') (M.toI (M.takeN (fun v => decide ((M.arN xs v).length ≤ 1)) v))) ∧ Hid (Below (w.heap.size + 1) W wr)) (fun _ i _ => n - (intOf i).toNat)
  case atStart => exact ⟨0, 0, 0, none, Nat.zero_le _, rfl, rfl, Nat.le_refl _, rfl, hD0, hO0, hBB⟩
  case round =>
    obtain ⟨v, l, c', A', hv, rfl, rfl, hlv, hll, hD, hO, hb⟩ := hrel
    clear hD0 hO0 hBB
    by_cases hlt : v < n
    · have hvi : (v : Int) < (n : Int) := by omega
      have hv0 : (0 : Int) ≤ (v : Int) := by omega
      have hbw := hBW.out.trans (hb.out.mono (Nat.le_succ _))
      obtain ⟨Av, cv, f1, f2⟩ := HR.out v hlt
      have g1 := (hbw.cell (p := ⟨G, v, none⟩) hGl).trans f1
      obtain ⟨y, hy⟩ : ∃ y, (M.rowOf n (M.leftF (M.arN xs) v))[v]? = some y := ⟨_, List.getElem?_eq_getElem (by rw [M.rowOf_len]; exact hlt)⟩
      obtain ⟨k1, k2, _, k3⟩ := ownI_cell hD.out (M.rowOf_len _ _) hy
      have hset := ownI_set hD.out (M.rowOf_len _ _) v ((M.arN xs v).length : Int)
      rw [M.leftF_set] at hset
      have Hset := Lib.hid hset
      have hO2 := Lib.hid (own_write (g := w.heap.size + 1) (k := v) hO.out (by omega) (.int .i64 ((M.arN xs v).length : Int)))
      have hb2 := Lib.hid (below_setCell (g := w.heap.size + 1) (k := v) hb.out (Nat.le_refl _) (.int .i64 ((M.arN xs v).length : Int)))
      have hzs : w.heap.size + 1 + 1 ≤ wr.heap.size := by have := hb.out.size; omega
      have hyes := Lib.hid (fun h : (M.arN xs v).length ≤ 1 => M.takeN_yes (p := fun v => decide ((M.arN xs v).length ≤ 1)) (v := v) (decide_eq_true h))
      have hno := Lib.hid (fun h : ¬ (M.arN xs v).length ≤ 1 => M.takeN_no (p := fun v => decide ((M.arN xs v).length ≤ 1)) (v := v) (decide_eq_false h))
      have hal := har.out v
      generalize (M.arN xs v).length = d at *
      generalize M.takeN (fun v => decide ((M.arN xs v).length ≤ 1)) v = T at *
      clear f1 f2 hset hy hD hO hbw hb
      by_cases hd1 : d ≤ 1
      · have hdi : (d : Int) ≤ 1 := by omega
        obtain ⟨wq, hwq⟩ : ∃ wq, wq = wr.setCell ⟨w.heap.size + 1, v, none⟩ (.int .i64 (d : Int)) := ⟨_, rfl⟩
        have hT2 : Hid (M.toI (M.takeN (fun v => decide ((M.arN xs v).length ≤ 1)) (v + 1)) = M.toI T ++ [(v : Int)]) := by show _ = _; rw [hyes.out hd1, M.toI_snoc]
        have hl2 : Hid ((M.toI (M.takeN (fun v => decide ((M.arN xs v).length ≤ 1)) (v + 1))).length = l + 1) := by show _ = _; rw [hT2.out, List.length_append, hll.out]; rfl
        have hzq : wq.heap.size = wr.heap.size := by rw [hwq]; simp
        rw [← hwq] at Hset hO2 hb2
        have Hwq := Lib.hid hwq
        clear hwq hyes hno
        go_wp2_with (at_builtin; try rw [← Hwq.out]; refine push64N rfl (.tmp 37) (.tmp 39) rfl wq (w.heap.size + 1 + 1) A' l c' (M.toI T) (v : Int) rfl _ rfl (by simp [hzq]) hO2 (by omega) (by omega) ?_; intro A5 c5 w5 hO5 hb5)
        rw [← hT2.out] at hO5
        have hD5 : Hid (OwnI w5 w.heap.size (.slice (some ⟨w.heap.size + 1, 0, none⟩) n n) (M.rowOf n (M.leftF (M.arN xs) (v + 1)))) := own_low Hset.out hb5.out (fun k hk => by injection hk with hk; have hk' : w.heap.size + 1 = k := hk; omega)
        have hb6 : Hid (Below (w.heap.size + 1) W w5) := hb2.out.trans (hb5.out.mono (Nat.le_succ _))
        go_roundw
        case rel => exact ⟨v + 1, l + 1, c5, A5, by omega, by go_num, rfl, by omega, hl2, hD5, hO5, hb6⟩
        case measure => simp [intOf]; omega
      · have hdi : ¬ (d : Int) ≤ 1 := by omega
        have hT2 : Hid (M.takeN (fun v => decide ((M.arN xs v).length ≤ 1)) (v + 1) = T) := hno.out hd1
        rw [← hT2.out] at hO2 hll
        clear hyes hno
        go_wp2
        go_roundw
        case rel => exact ⟨v + 1, l, c', A', by omega, by go_num, rfl, by omega, hll, Hset, hO2, hb2⟩
        case measure => simp [intOf]; omega
    · obtain rfl : v = n := by omega
      have hge : ¬ (v : Int) < (v : Int) := by omega
      have hR0 := M.start_round v (M.arN xs)
      have HR0 := Lib.hid hR0
      have hrest0 : Hid (M.rest v (M.arN xs) 0 + 0 ≤ v) := by show _ ≤ _; rw [M.rest_zero]; omega
      have hL1 : Hid (Own64 wr w.heap.size (.slice (some ⟨w.heap.size, 0, none⟩) v v) (M.rowOf v (M.layV v (M.arN xs) 0 0))) := own_low hL0.out hb.out (fun k hk => by injection hk with hk; have hk' : w.heap.size = k := hk; omega)
      have hlen0 : Hid ((M.takeN (fun v => decide ((M.arN xs v).length ≤ 1)) v).length = l) := by have := hll.out; rwa [M.toI_len] at this
      have hb1 := Lib.hid (hb.out.mono (Nat.le_succ _))
      generalize M.takeN (fun v => decide ((M.arN xs v).length ≤ 1)) v = out0 at *
      generalize M.leftF (M.arN xs) v = lf0 at *
      clear hR0 hL0 hll hb
      go_wp2
      go_loopw [5, 8] (fun q i wr => ∃ (k l c' : Nat) (A' : Option Addr) (out : List Nat) (lf : Nat → Int), k ≤ v ∧ i = .int .i64 (k : Int) ∧ q = .slice A' l c' ∧ l ≤ v ∧ Hid (out.length = l) ∧ Hid (M.Round v (M.arN xs) (M.lft v (M.arN xs) k) lf out) ∧ Hid (M.rest v (M.arN xs) k + k ≤ v) ∧ Hid (Own64 wr w.heap.size (.slice (some ⟨w.heap.size, 0, none⟩) v v) (M.rowOf v (M.layV v (M.arN xs) 0 k))) ∧
        Hid (OwnI wr w.heap.size (.slice (some ⟨w.heap.size + 1, 0, none⟩) v v) (M.rowOf v lf)) ∧ Hid (Own64 wr (w.heap.size + 1 + 1) (.slice A' l c') (M.toI out)) ∧ Hid (Below w.heap.size W wr)) (fun _ i _ => v + 1 - (intOf i).toNat)
      case atStart => exact ⟨0, l, c', A', out0, lf0, Nat.zero_le _, rfl, rfl, hlv, hlen0, HR0, hrest0, hL1, hD, hO, hb1⟩
      case round =>
        obtain ⟨k, l, c', A', out, lf, hkv, rfl, rfl, hlv, hlen, hRd, hrest, hL, hD, hO, hb⟩ := hrel
        clear HR0 hrest0 hL1 hlen0 hb1
        have hdec := M.rest_dec ht.out hp.out (by rw [hn.out]; exact hRd.out)
        rw [hn.out] at hdec
        have Hdec := Lib.hid hdec
        clear hdec
        rcases Nat.eq_zero_or_pos l with hl0 | hl0
        · subst hl0
          have ho0 : out = [] := List.eq_nil_of_length_eq_zero hlen.out
          have hr0 := Hdec.out.1 ho0
          have hend := M.layers_end (xs := xs) (e := 0) (k := k) (by rw [hn.out]; exact hr0) (by rw [hn.out]; exact hkv)
          rw [hn.out] at hend
          have hL2 := hL.out
          rw [hend] at hL2
          have HL2 := Lib.hid hL2
          have hB2 := Lib.hid (hBW.out.trans hb.out)
          clear hL2 hL hend hr0 ho0 hrest Hdec
          go_wp2
          go_ret
          exact ⟨rfl, HL2.out, hB2⟩
        · have hl0i : (0 : Int) < (l : Int) := by omega
          have hne : out ≠ [] := fun e => by have := hlen.out; rw [e] at this; simp at this; omega
          have hr1 := Lib.hid (Hdec.out.2 hne)
          obtain ⟨zr, hzz⟩ : ∃ z, Hid (wr.heap.size = z) := ⟨_, rfl⟩
          have hzr : w.heap.size + 1 + 1 ≤ zr := by have := hb.out.size; have := hzz.out; omega
          have hOb : Hid (∀ b, (Value.slice A' l c').ownBlock = some b → w.heap.size + 1 + 1 ≤ b ∧ b < zr) := fun b hb2 => by have := hO.out.lt b hb2; have := hzz.out; omega
          have hzs : Hid (zr ≤ wr.heap.size) := by show zr ≤ _; have := hzz.out; omega
          obtain ⟨go, rfl⟩ : ∃ go, A' = some ⟨go, 0, none⟩ := by
            rcases hO.out.2 with ⟨h0, _⟩ | ⟨gg, cap, cur, hvv, _⟩
            · injection h0 with _ e _; omega
            · injection hvv with e; exact ⟨gg, e⟩
          have hE0 : Hid (M.EvInv lf ((out.take 0).flatMap (M.arN xs)) lf []) := M.evInv_nil lf
          have hL0 : Hid (Own64 wr w.heap.size (.slice (some ⟨w.heap.size, 0, none⟩) v v) (M.rowOf v (M.layP v (M.arN xs) 0 k out 0))) := by rw [M.layP_zero]; exact hL.out
          have hI0 : Hid (Own64 wr zr (.slice none 0 0) (M.toI [])) := own64_nil _ _
          have hin0 : Hid (∀ x ∈ ([] : List Nat), x < v) := fun x hx => by cases hx
          clear hne Hdec hL hzz
          go_wp2
          go_loopw [9, 49] (fun q i wr => ∃ (p li ci : Nat) (Ai : Option Addr) (inn : List Nat) (lf' : Nat → Int), p ≤ l ∧ i = .int .i64 (p : Int) ∧ q = .slice Ai li ci ∧ Hid (inn.length = li) ∧ Hid (∀ x ∈ inn, x < v) ∧ Hid (M.EvInv lf ((out.take p).flatMap (M.arN xs)) lf' inn) ∧ Hid (Own64 wr w.heap.size (.slice (some ⟨w.heap.size, 0, none⟩) v v) (M.rowOf v (M.layP v (M.arN xs) 0 k out p))) ∧
            Hid (OwnI wr w.heap.size (.slice (some ⟨w.heap.size + 1, 0, none⟩) v v) (M.rowOf v lf')) ∧ Hid (Own64 wr (w.heap.size + 1 + 1) (.slice (some ⟨go, 0, none⟩) l c') (M.toI out)) ∧ Hid (Own64 wr zr (.slice Ai li ci) (M.toI inn)) ∧ Hid (Below w.heap.size W wr) ∧ Hid (zr ≤ wr.heap.size)) (fun _ i _ => l - (intOf i).toNat)
          case atStart => exact ⟨0, 0, 0, none, [], lf, Nat.zero_le _, rfl, rfl, rfl, hin0, hE0, hL0, hD, hO, hI0, hb, hzs⟩
          case round =>
            obtain ⟨p, li, ci, Ai, inn, lf', hpl, rfl, rfl, hil, hin, hE, hL, hD, hO, hI, hb, hzs⟩ := hrel
            clear hin0 hE0 hL0 hI0
            by_cases hlt : p < l
            · have hpi : (p : Int) < (l : Int) := by omega
              have hp0 : (0 : Int) ≤ (p : Int) := by omega
              obtain ⟨x, hx⟩ : ∃ x, out[p]? = some x := ⟨_, List.getElem?_eq_getElem (by rw [hlen.out]; exact hlt)⟩
              have hxv : x < v := ((hRd.out.mem x).1 (List.mem_of_getElem? hx)).1
              have hxi : (x : Int) < (v : Int) := by omega
              have hx0 : (0 : Int) ≤ (x : Int) := by omega
              have co := (own64_cell hO.out (by rw [M.toI_len]; exact hlen.out) (M.toI_at hx)).1
              obtain ⟨y, hy⟩ : ∃ y, (M.rowOf v (M.layP v (M.arN xs) 0 k out p))[x]? = some y := ⟨_, List.getElem?_eq_getElem (by rw [M.rowOf_len]; exact hxv)⟩
              obtain ⟨k1, k2, _, _⟩ := own64_cell hL.out (M.rowOf_len _ _) hy
              have hset := own64_set hL.out (M.rowOf_len _ _) x (k : Int)
              rw [M.layP_set hx] at hset
              have hL2 := Lib.hid hset
              have hD2 : Hid (OwnI (wr.setCell ⟨w.heap.size, x, none⟩ (.int .i64 (k : Int))) w.heap.size (.slice (some ⟨w.heap.size + 1, 0, none⟩) v v) (M.rowOf v lf')) := ownsRow_setCell_other hD.out (a := ⟨w.heap.size, x, none⟩) (fun e => by injection e with e; have e' : w.heap.size + 1 = w.heap.size := e; omega) _
              have hO2 := Lib.hid (own_write (g := w.heap.size) (k := x) hO.out (by omega) (.int .i64 (k : Int)))
              have hI2 := Lib.hid (own_write (g := w.heap.size) (k := x) hI.out (by omega) (.int .i64 (k : Int)))
              have hb2 := Lib.hid (below_setCell (g := w.heap.size) (k := x) hb.out (Nat.le_refl _) (.int .i64 (k : Int)))
              have hzs2 : Hid (zr ≤ (wr.setCell ⟨w.heap.size, x, none⟩ (.int .i64 (k : Int))).heap.size) := by show _ ≤ _; simpa using hzs.out
              obtain ⟨Av, cv, f1, f2⟩ := HR.out x hxv
              have hbw := hBW.out.trans hb2.out
              have g1 := (hbw.cell (p := ⟨G, x, none⟩) hGl).trans f1
              have hE2 : Hid (M.EvInv lf ((out.take p).flatMap (M.arN xs) ++ (M.arN xs x).take 0) lf' inn) := by rw [List.take_zero, List.append_nil]; exact hE.out
              have hfin : Hid ((out.take p).flatMap (M.arN xs) ++ M.arN xs x = (out.take (p + 1)).flatMap (M.arN xs)) := by show _ = _; rw [List.take_add_one, hx]; simp
              have hpl2 : Hid (((out.take p).flatMap (M.arN xs)).length ≤ 600) := by
                have h1 := M.events_le har.out (out.take p)
                have h2 := List.length_take_le p out
                have h3 := hlen.out
                show _ ≤ 600
                have h4 : (out.take p).length ≤ 24 := by
                  have := List.length_take_le' p out
                  omega
                omega
              have hal := har.out x
              have hnb := Lib.hid (fun u hu => hGr.out.lt x (by rw [hn.out]; exact hxv) u hu)
              generalize M.arN xs x = ax at *
              obtain ⟨d, hd⟩ : ∃ d, Hid (ax.length = d) := ⟨_, rfl⟩
              rw [hd.out] at f1 g1 hal
              have F2 := Lib.hid f2
              generalize (out.take p).flatMap (M.arN xs) = P at *
              clear hx hy hset hL hD hO hI hb hE f1 f2 hbw hzs
              go_wp2
              clear k1 k2 co g1
              go_loopw [9, 62] (fun q i wr => ∃ (j li ci : Nat) (Ai : Option Addr) (inn : List Nat) (lf' : Nat → Int), j ≤ d ∧ i = .int .i64 (j : Int) ∧ q = .slice Ai li ci ∧ Hid (inn.length = li) ∧ Hid (∀ x ∈ inn, x < v) ∧ Hid (M.EvInv lf (P ++ ax.take j) lf' inn) ∧ Hid (Own64 wr w.heap.size (.slice (some ⟨w.heap.size, 0, none⟩) v v) (M.rowOf v (M.layP v (M.arN xs) 0 k out (p + 1)))) ∧
                Hid (OwnI wr w.heap.size (.slice (some ⟨w.heap.size + 1, 0, none⟩) v v) (M.rowOf v lf')) ∧ Hid (Own64 wr (w.heap.size + 1 + 1) (.slice (some ⟨go, 0, none⟩) l c') (M.toI out)) ∧ Hid (Own64 wr zr (.slice Ai li ci) (M.toI inn)) ∧ Hid (Below w.heap.size W wr) ∧ Hid (zr ≤ wr.heap.size)) (fun _ i _ => d - (intOf i).toNat)
              case atStart => exact ⟨0, li, ci, Ai, inn, lf', Nat.zero_le _, rfl, rfl, hil, hin, hE2, hL2, hD2, hO2, hI2, hb2, hzs2⟩
              case round =>
                obtain ⟨j, li, ci, Ai, inn, lf', hjd, rfl, rfl, hil, hin, hE, hL, hD, hO, hI, hb, hzs⟩ := hrel
                clear hE2 hL2 hD2 hO2 hI2 hb2 hzs2
                by_cases hjl : j < d
                · have hji : (j : Int) < (d : Int) := by omega
                  have hj0 : (0 : Int) ≤ (j : Int) := by omega
                  obtain ⟨u, hu⟩ : ∃ u, ax[j]? = some u := ⟨_, List.getElem?_eq_getElem (by rw [hd.out]; exact hjl)⟩
                  have huv : u < v := by rw [← hn.out]; exact hnb.out u (List.mem_of_getElem? hu)
                  have hui : (u : Int) < (v : Int) := by omega
                  have hu0 : (0 : Int) ≤ (u : Int) := by omega
                  have hbw := hBW.out.trans hb.out
                  have hI3 := F2.out.below hbw (Nat.le_refl _)
                  obtain ⟨ba, oa, rfl, hba, hca⟩ := hI3 (by rw [M.toI_len, hd.out]; omega)
                  have g1 := hca j (u : Int) (M.toI_at hu)
                  have hyu : (M.rowOf v lf')[u]? = some (lf' u) := M.rowOf_at _ huv
                  obtain ⟨k1, k2, _, _⟩ := ownI_cell hD.out (M.rowOf_len _ _) hyu
                  have hsm := M.left_small har.out hRd.out hE.out (by rw [List.length_append]; have := hpl2.out; have := List.length_take_le j ax; have := hd.out; omega) huv
                  have hwr : IntKind.i64.wrap (lf' u - 1) = lf' u - 1 := IntWalk.i64_in _ (by omega)
                  have hil24 : li ≤ 24 := by
                    have h1 := M.count_in hE.out.nodup hin.out
                    have h2 := List.countP_le_length (p := fun x => decide (x ∈ inn)) (l := List.range v)
                    rw [List.length_range] at h2
                    have := hil.out
                    omega
                  obtain ⟨ln, hln⟩ : ∃ ln : Nat → Int, ln = fun i => if i = u then lf' u - 1 else lf' i := ⟨_, rfl⟩
                  have hset := ownI_set hD.out (M.rowOf_len _ _) u (lf' u - 1)
                  rw [M.rowOf_set, ← hln] at hset
                  have hD2 := Lib.hid hset
                  have hlu : Hid (ln u = lf' u - 1) := by rw [hln]; exact if_pos rfl
                  have hlo : Hid (∀ x, x ≠ u → ln x = lf' x) := fun x hx => by rw [hln]; exact if_neg hx
                  have hL2 : Hid (Own64 (wr.setCell ⟨w.heap.size + 1, u, none⟩ (.int .i64 (lf' u - 1))) w.heap.size (.slice (some ⟨w.heap.size, 0, none⟩) v v) (M.rowOf v (M.layP v (M.arN xs) 0 k out (p + 1)))) := ownsRow_setCell_other hL.out (a := ⟨w.heap.size + 1, u, none⟩) (fun e => by injection e with e; have e' : w.heap.size = w.heap.size + 1 := e; omega) _
                  have hO2 := Lib.hid (own_write (g := w.heap.size + 1) (k := u) hO.out (by omega) (.int .i64 (lf' u - 1)))
                  have hI2 := Lib.hid (own_write (g := w.heap.size + 1) (k := u) hI.out (by omega) (.int .i64 (lf' u - 1)))
                  have hb2 := Lib.hid (below_setCell (g := w.heap.size + 1) (k := u) hb.out (Nat.le_succ _) (.int .i64 (lf' u - 1)))
                  have htk : Hid (P ++ ax.take (j + 1) = P ++ ax.take j ++ [u]) := by show _ = _; rw [List.take_add_one, hu, ← List.append_assoc]; rfl
                  by_cases h1 : lf' u - 1 = 1
                  · have hE2 : Hid (M.EvInv lf (P ++ ax.take (j + 1)) ln (inn ++ [u])) := by rw [htk.out]; exact hE.out.one hlu.out hlo.out h1
                    have hin2 : Hid (∀ x ∈ inn ++ [u], x < v) := fun x hx => by
                      rcases List.mem_append.1 hx with h | h
                      · exact hin.out x h
                      · rw [List.mem_singleton] at h; rw [h]; exact huv
                    have hil2 : Hid ((inn ++ [u]).length = li + 1) := by show _ = _; rw [List.length_append, hil.out]; rfl
                    obtain ⟨wq, hwq⟩ : ∃ wq, wq = wr.setCell ⟨w.heap.size + 1, u, none⟩ (.int .i64 (lf' u - 1)) := ⟨_, rfl⟩
                    have hzq : wq.heap.size = wr.heap.size := by rw [hwq]; simp
                    have hzz : zr ≤ wq.heap.size := by rw [hzq]; exact hzs.out
                    rw [← hwq] at hD2 hL2 hO2 hI2 hb2
                    have Hwq : Hid (wq = wr.setCell ⟨w.heap.size + 1, u, none⟩ (.int .i64 1)) := by show _ = _; rw [hwq, h1]
                    have hwr1 : IntKind.i64.wrap (lf' u - 1) = 1 := hwr.trans h1
                    have hsn : Hid (M.toI (inn ++ [u]) = M.toI inn ++ [(u : Int)]) := M.toI_snoc _ _
                    clear hwr hwq hu hbw hI3 hca hyu hset hlu hlo hL hD hO hI hb hE hin hsm hln htk h1
                    go_wp2_with (at_builtin; try rw [← Hwq.out]; refine push64N rfl (.tmp 77) (.tmp 79) rfl wq zr Ai li ci (M.toI inn) (u : Int) rfl _ rfl (by simp [hzq]) hI2 hzz (by omega) ?_; intro A5 c5 w5 hI5 hb5)
                    rw [← hsn.out] at hI5
                    have hL5 : Hid (Own64 w5 w.heap.size (.slice (some ⟨w.heap.size, 0, none⟩) v v) (M.rowOf v (M.layP v (M.arN xs) 0 k out (p + 1)))) := own_low hL2.out hb5.out (fun k hk => by injection hk with hk; have hk' : w.heap.size = k := hk; omega)
                    have hD5 : Hid (OwnI w5 w.heap.size (.slice (some ⟨w.heap.size + 1, 0, none⟩) v v) (M.rowOf v ln)) := own_low hD2.out hb5.out (fun k hk => by injection hk with hk; have hk' : w.heap.size + 1 = k := hk; omega)
                    have hO5 : Hid (Own64 w5 (w.heap.size + 1 + 1) (.slice (some ⟨go, 0, none⟩) l c') (M.toI out)) := own_low hO2.out hb5.out (fun k hk => (hOb.out k hk).2)
                    have hb6 : Hid (Below w.heap.size W w5) := hb2.out.trans (hb5.out.mono (by omega))
                    have hz5 : Hid (zr ≤ w5.heap.size) := by show _ ≤ _; have := hb5.out.size; omega
                    go_roundw
                    case rel => exact ⟨j + 1, li + 1, c5, A5, inn ++ [u], ln, by omega, by go_num, rfl, hil2, hin2, hE2, hL5, hD5, hO5, hI5, hb6, hz5⟩
                    case measure => simp [intOf]; omega
                  · have hfb : ((lf' u - 1) == 1) = false := by rw [beq_eq_false_iff_ne]; exact h1
                    have hE2 : Hid (M.EvInv lf (P ++ ax.take (j + 1)) ln inn) := by rw [htk.out]; exact hE.out.other hlu.out hlo.out h1
                    have hz5 : Hid (zr ≤ (wr.setCell ⟨w.heap.size + 1, u, none⟩ (.int .i64 (lf' u - 1))).heap.size) := by show _ ≤ _; simpa using hzs.out
                    clear hu hbw hI3 hca hyu hset hlu hlo hL hD hO hI hb hE hsm hln htk
                    go_wp2
                    go_roundw
                    case rel => exact ⟨j + 1, li, ci, Ai, inn, ln, by omega, by go_num, rfl, hil, hin, hE2, hL2, hD2, hO2, hI2, hb2, hz5⟩
                    case measure => simp [intOf]; omega
                · obtain rfl : j = d := by omega
                  have hge : ¬ (j : Int) < (j : Int) := by omega
                  have hE3 := hE.out
                  rw [List.take_of_length_le (by rw [hd.out]; exact Nat.le_refl _), hfin.out] at hE3
                  have HE3 := Lib.hid hE3
                  clear hE hE3
                  go_wp2
                  go_roundw
                  case rel => exact ⟨p + 1, li, ci, Ai, inn, lf', by omega, by go_num, rfl, hil, hin, HE3, hL, hD, hO, hI, hb, hzs⟩
                  case measure => simp [intOf]; omega
            · obtain rfl : p = l := by omega
              have hge : ¬ (p : Int) < (p : Int) := by omega
              have hE2 := hE.out
              rw [List.take_of_length_le (by rw [hlen.out]; exact Nat.le_refl _)] at hE2
              have hR2 := Lib.hid (M.lft_round (by rw [← hn.out]; exact hGr.out) hRd.out hE2 hin.out)
              have hL2 := hL.out
              rw [← hlen.out, M.layP_end hRd.out] at hL2
              have HL2 := Lib.hid hL2
              have hI2 := Lib.hid (own_mono (base' := w.heap.size + 1 + 1) hI.out hzr)
              have hil2 : li ≤ v := by rw [← hil.out]; exact M.out_le hR2.out
              have hrest2 : Hid (M.rest v (M.arN xs) (k + 1) + (k + 1) ≤ v) := by show _ ≤ _; have := hr1.out; have := hrest.out; omega
              have hk1 : k + 1 ≤ v := by have := hr1.out; have := hrest.out; omega
              clear hE hE2 hL hL2 hI hO hRd
              go_wp2
              go_roundw
              case rel => exact ⟨k + 1, li, ci, Ai, inn, lf', hk1, by go_num, rfl, hil2, hil, hR2, hrest2, HL2, hD, hI2, hb⟩
              case measure => simp [intOf]; omega
end Go.Proofs.Ytcipafjibkclcaa
