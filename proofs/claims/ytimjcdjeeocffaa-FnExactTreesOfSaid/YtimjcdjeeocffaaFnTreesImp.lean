/- TreesOf, the program's: the trees come from the range over those behind the first one. -/
import Derived.Test.YtimjcdjeeocffaaFnTreesOf
namespace Go.Proofs.Ytimjcdjeeocffaa
open Go.RowKit Go.Shelf Go.Maps
attribute [local go_sem] Oper.semAt_some

namespace M
theorem first_tree {n : Nat} (hn1 : 1 ≤ n) (hn : n ≤ 24) : isTree (firstL n 1) = true := by
  rw [isTree_is (by rw [firstL_len]; exact hn1) (by rw [firstL_len]; exact hn)]
  exact (firstL_go n 1 (by omega) hn1).1
theorem first_unrank {n : Nat} (hn1 : 1 ≤ n) : unrank n 1 0 = firstL n 1 := by
  have h1 := firstL_go n 1 (by omega) hn1
  have := unrank_rk _ 1 h1.1
  rw [h1.2, firstL_len] at this
  exact this
theorem next_unrank {xs : List Int} (ht : isTree xs = true) : nextF 1 xs = if rk 1 xs + 1 < L xs.length 1 then some (unrank xs.length 1 (rk 1 xs + 1)) else none := by
  have h := next_rk xs 1 (tree_len ht).2 (tree_go ht)
  cases hn : nextF 1 xs with
  | none =>
    rw [hn] at h
    simp only at h
    rw [if_neg (by omega)]
  | some ys =>
    rw [hn] at h
    obtain ⟨h1, h2, h3⟩ := h
    have h4 := rk_lt ys 1 h1
    have h5 := unrank_rk ys 1 h1
    rw [h2, h3] at h4 h5
    rw [if_pos h4, h5]
theorem after_first {n : Nat} (hn1 : 1 ≤ n) (hn : n ≤ 24) : ∀ k, after (firstL n 1) k = if k + 1 < L n 1 then some (unrank n 1 (k + 1)) else none := by
  have ht := first_tree hn1 hn
  have h0 := (firstL_go n 1 (by omega) hn1).2
  intro k
  induction k with
  | zero =>
    have := next_unrank ht
    rw [h0, firstL_len] at this
    exact this
  | succ k ih =>
    by_cases hk : k + 1 < L n 1
    · rw [if_pos hk] at ih
      obtain ⟨i1, i2, i3⟩ := after_ok ht k _ ih
      have := next_unrank i1
      rw [i3, i2, h0, firstL_len] at this
      rw [after_succ ih, this]
      simp only [Nat.zero_add]
    · rw [if_neg hk] at ih
      rw [after, ih, if_neg (by omega)]
      rfl
end M

theorem own_max {w : World} {B n c : Nat} {A : Option Addr} {zs : List Int} (h : Own64 w B (.slice A n c) zs) : c ≤ 9223372036854775807 := by
  rcases h.2 with ⟨e, _⟩ | ⟨g, cap, cur, hv, _, _, _, h5, _⟩
  · injection e with e1 e2 e3; omega
  · injection hv with e1 e2 e3
    subst e3
    unfold maxLen at h5
    omega
theorem rows_apart {w : World} {b1 b2 s1 s2 n1 n2 g : Nat} {e1 e2 : TypeId} {v1 v2 : Value} {x1 x2 : List Value} (h1 : w.ownsRow b1 e1 s1 v1 n1 x1) (h2 : w.ownsRow b2 e2 s2 v2 n2 x2) (hne : e1 ≠ e2) (k1 : v1.ownBlock = some g) : v2.ownBlock ≠ some g := by
  intro k2
  rcases h1.2 with ⟨e, _⟩ | ⟨g1, _, _, hv1, _, hg1, _⟩
  · rw [e] at k1; cases k1
  · rcases h2.2 with ⟨e, _⟩ | ⟨g2, _, _, hv2, _, hg2, _⟩
    · rw [e] at k2; cases k2
    · rw [hv1] at k1
      rw [hv2] at k2
      have a1 : g1 = g := by injection k1
      have a2 : g2 = g := by injection k2
      rw [a1] at hg1
      rw [a2, hg1] at hg2
      injection hg2 with hg2
      injection hg2 with _ hg2
      exact hne hg2
theorem Woods.other {W W' : World} {B D : Nat} {v : Value} {hs : List Hdr} {zss : List (List Int)} {row : Option Nat} (h : Woods W B v hs zss) (hg : W.grownBy W' row) (hr : ∀ r, row = some r → D ≤ r ∧ ∃ o : Obj, W.heap[r]? = some o ∧ o.isCells = false) : Woods W' B v hs zss :=
  ⟨row_kept h.row hg hr, h.len, fun k h' zs hk hz => row_kept (h.each k h' zs hk hz) hg hr, h.apart⟩
theorem keepRows_grown {W W' : World} {row : Option Nat} (hg : W.grownBy W' row) (hr : ∀ (j : Nat) (cur : Array Value), row = some j → W.heap[j]? ≠ some (.cells cur 2 (0, 0))) : KeepRows W W' :=
  ⟨hg.size, fun j cur hj => (hg.block j (Array.getElem?_eq_some_iff.1 hj).1 (fun e => hr j cur e.symm hj)).trans hj⟩

set_option maxRecDepth 100000 in
set_option maxHeartbeats 8000000 in
theorem impl_TreesOf_in (n : Nat) (w : World) (hn1 : 1 ≤ n) (hn : n ≤ 7) :
    CallsIn Fence.wide 5 Try.prog 84 #[.int .i64 (n : Int)] w fun e w' => ∃ A' c' hs, e = .returned (.tuple #[.slice A' (M.L n 1) c', .int .i64 0]) ∧ Woods w' w.heap.size (.slice A' (M.L n 1) c') hs (M.firstT n (M.L n 1)) ∧ Below w.heap.size w w' := by
  have hn7 : ¬ (7 : Int) < (n : Int) := by omega
  obtain ⟨i0, hi0, hz0, hz1, hz2⟩ := info_parts infoTree
  have hF : F_FirstTree (n : Int) = (M.firstL n 1, 0) := if_pos (by omega)
  have HFst : Hid (Calls Try.prog 94 #[.int .i64 (n : Int)] w fun e w' => ∃ g1 c1, e = .returned (.tuple #[.agg #[.slice (some ⟨g1, 0, none⟩) n c1], .int .i64 0]) ∧ Hid (Own64 w' w.heap.size (hdr (g1, n, c1)) (M.firstL n 1)) ∧ Hid (Below w.heap.size w w')) := by
    refine (impl_FirstTree (n : Int) w (by omega) (by omega)).mono ?_
    rintro e w' ⟨A', c', rfl, ho, hb⟩
    rw [hF, M.firstL_len] at *
    obtain ⟨g1, rfl⟩ : ∃ g, A' = some ⟨g, 0, none⟩ := by
      rcases ho.2 with ⟨_, h0⟩ | ⟨g, cap, cur, hv, _⟩
      · rw [M.firstL_len] at h0; omega
      · injection hv with e1; exact ⟨g, e1⟩
    exact ⟨g1, c', rfl, ho, hb⟩
  have ht := Lib.hid (M.first_tree hn1 (by omega))
  have hlF := M.firstL_len n 1
  have haf := Lib.hid (M.after_first hn1 (by omega : n ≤ 24))
  have hT1 : Hid ([M.firstL n 1] = M.firstT n 1) := by show _ = _; rw [M.firstT_succ, M.first_unrank hn1]; rfl
  generalize M.firstL n 1 = X1 at *
  subst hlF
  clear hF
  refine callsIn_of_wp_marks Try.func84 rfl trivial ?_ rfl
  simp only [Try.ntmps84, List.size_toArray, List.length_cons, List.length_nil, Nat.reduceAdd, Nat.reduceSub, Array.replicate_succ, Array.replicate_zero, List.push_toArray, List.append_toArray, List.nil_append, List.cons_append]
  gi_wp2_with (first | (refine ⟨trivial, ?_⟩; gi_at_call 94; refine (callsIn_wide.2 HFst.out).mono ?_; rintro e w1 ⟨g1, c1, rfl, ho1, hb1⟩) | (refine ⟨trivial, ?_⟩; gi_at_call 168; refine (behindIn _ _ _ _ _).mono ?_; rintro e w' ⟨rfl, rfl⟩))
  simp only [show decide ((7 : Int) < (X1.length : Int)) = false from decide_eq_false (by omega)]
  have hz1' := hb1.out.size
  have hg1 := (World.ownsRow.lt ho1.out g1 rfl).2
  have hcl1 : X1.length ≤ c1 := own_cap' ho1.out
  have hcu1 := own_max ho1.out
  have hwd := woods_one (w := w1.alloc (.cells #[.slice (some ⟨g1, 0, none⟩) X1.length c1] 26)) (B := w.heap.size) (h := (g1, X1.length, c1)) (zs := X1) (by simp; omega) (ho1.out.alloc _)
  rw [hT1.out, World.size_alloc] at hwd
  have hwd2 := (hwd.alloc (.cells #[.slice (some ⟨w1.heap.size + 1, 0, none⟩) 1 1] 36)).alloc (.cells #[.slice (some ⟨g1, 0, none⟩) X1.length c1] 22)
  have bX0 := Boxed.new ((w1.alloc (.cells #[.slice (some ⟨g1, 0, none⟩) X1.length c1] 26)).alloc (.cells #[.slice (some ⟨g1, 0, none⟩) X1.length c1] 26)) 36 (.slice (some ⟨w1.heap.size + 1, 0, none⟩) 1 1)
  have bD := Boxed.new (((w1.alloc (.cells #[.slice (some ⟨g1, 0, none⟩) X1.length c1] 26)).alloc (.cells #[.slice (some ⟨g1, 0, none⟩) X1.length c1] 26)).alloc (.cells #[.slice (some ⟨w1.heap.size + 1, 0, none⟩) 1 1] 36)) 22 (.slice (some ⟨g1, 0, none⟩) X1.length c1)
  simp only [World.size_alloc] at bX0 bD
  have bX := bX0.alloc (.cells #[.slice (some ⟨g1, 0, none⟩) X1.length c1] 22)
  have hB0 := bal (bal (bal (bal hb1.out (.cells #[.slice (some ⟨g1, 0, none⟩) X1.length c1] 26)) (.cells #[.slice (some ⟨g1, 0, none⟩) X1.length c1] 26)) (.cells #[.slice (some ⟨w1.heap.size + 1, 0, none⟩) 1 1] 36)) (.cells #[.slice (some ⟨g1, 0, none⟩) X1.length c1] 22)
  have hI0 := (((((ints_of_own64 ho1.out).al (.cells #[.slice (some ⟨g1, 0, none⟩) X1.length c1] 26)).al (.cells #[.slice (some ⟨g1, 0, none⟩) X1.length c1] 26)).al (.cells #[.slice (some ⟨w1.heap.size + 1, 0, none⟩) 1 1] 36)).al (.cells #[.slice (some ⟨g1, 0, none⟩) X1.length c1] 22))
  obtain ⟨W0, hW0⟩ : ∃ W0, W0 = ((((w1.alloc (.cells #[.slice (some ⟨g1, 0, none⟩) X1.length c1] 26)).alloc (.cells #[.slice (some ⟨g1, 0, none⟩) X1.length c1] 26)).alloc (.cells #[.slice (some ⟨w1.heap.size + 1, 0, none⟩) 1 1] 36)).alloc (.cells #[.slice (some ⟨g1, 0, none⟩) X1.length c1] 22)) := ⟨_, rfl⟩
  have hsz : W0.heap.size = w1.heap.size + 1 + 1 + 1 + 1 := by rw [hW0]; simp
  rw [← hW0] at hwd2 bX bD hB0 hI0 ⊢
  have HI0 := Lib.hid hI0
  have hL := M.L_7 hn1 hn
  clear hW0 hwd bX0 ho1 hb1 hI0 HFst
  generalize w1.heap.size = d at *
  have h15 : 1 ≤ 5 := by omega
  refine wpIn_rangeRows (α := Value) rfl h15 (gf := 194) (lb := #[.pointer (some ⟨d + 1 + 1 + 1, 0, none⟩)]) rfl trivial (enters_of Try.func194 (by kernel_rfl) rfl)
    (behind_rows 4 (by omega) (d + 1 + 1 + 1) W0.heap.size (some ⟨g1, 0, none⟩) X1 c1 ht hcl1 hcu1 W0 bD HI0.out (Nat.le_refl _)) (Below.refl _ _) (fun h k => h.t k)
    (fun W r r' h => keepRows_turn h) (fun _ => rfl)
    (fun pre W => ∃ (A' : Option Addr) (c' : Nat) (hs0 : List Hdr), pre = hs0.map hdr ∧ pre.length + 1 ≤ M.L X1.length 1 ∧ Boxed W (d + 1 + 1) 36 (.slice A' (pre.length + 1) c') ∧ Woods W w.heap.size (.slice A' (pre.length + 1) c') ((g1, X1.length, c1) :: hs0) (M.firstT X1.length (pre.length + 1)) ∧ Below w.heap.size w W)
    (fun _ _ _ => False)
    (fun pre X Y r' ⟨A', c', hs0, h1, h2, h3, h4, h5⟩ hg hr => ⟨A', c', hs0, h1, h2, h3.kept hg (fun e => by have := (hr _ e.symm).1; omega), h4.other hg hr, h5.grown hg h5.size (fun k e => by have := (hr _ e).1; omega)⟩)
    (fun _ _ _ _ _ hs _ _ => hs)
    (RowC.from _ _ _)
    ⟨_, _, [], rfl, hL.1, bX, hwd2, hB0⟩
    (fun x => { tmps := #[.int .i64 (X1.length : Int), undef, .slice none 0 0, .int .i64 0, .pointer (some ⟨d, 0, none⟩), .int .i64 0, .pointer (some ⟨d + 1 + 1, 0, none⟩), x, .tuple #[.agg #[.slice (some ⟨g1, 0, none⟩) X1.length c1], .int .i64 0], .int .i64 (X1.length : Int), .tuple #[.agg #[.slice (some ⟨g1, 0, none⟩) X1.length c1], .int .i64 0], .agg #[.slice (some ⟨g1, 0, none⟩) X1.length c1], .int .i64 0, .int .i64 0, .bool false, undef, .int .i64 (X1.length : Int), .bool false, .agg #[.slice (some ⟨g1, 0, none⟩) X1.length c1], .slice (some ⟨d + 1, 0, none⟩) 1 1, .pointer (some ⟨d, 0, none⟩), .slice (some ⟨g1, 0, none⟩) X1.length c1, .func (.func 194) #[] #[.pointer (some ⟨d + 1 + 1 + 1, 0, none⟩)], x, undef, undef, undef, undef, undef, undef], defers := [] }) ?assign ?body ?done ?stop
  case assign =>
    intro l x W K hK
    gi_wp2
    exact hK
  case body =>
    rintro l pre x W ⟨A', c', hs0, hpre, hpl, hX, hW, hB⟩ ⟨ys, g, cc, ha, rfl, _, ho, hfr⟩
    have hk : pre.length + 1 < M.L X1.length 1 ∧ ys = M.unrank X1.length 1 (pre.length + 1) := by
      have := haf.out pre.length
      rw [ha] at this
      split at this
      · rename_i h1
        injection this with this
        exact ⟨h1, this⟩
      · cases this
    obtain ⟨hk1, hk2⟩ := hk
    have Hk2 := Lib.hid hk2
    clear hk2
    have hgB := (World.ownsRow.lt ho g rfl).1
    have hWsz := hB.size
    have hlen : ((g1, X1.length, c1) :: hs0).length = pre.length + 1 := by rw [hpre]; simp
    have hrow := hW.row
    rw [hlen] at hrow
    have hne : (Value.slice A' (pre.length + 1) c').ownBlock ≠ some g := rows_apart ho hrow (by decide) rfl
    have hfr2 : ∀ h' ∈ (g1, X1.length, c1) :: hs0, h'.1 ≠ g := fun h' hh => by
      rcases List.mem_cons.1 hh with rfl | hh
      · show g1 ≠ g
        omega
      · exact fun e => hfr (hdr h') (by rw [hpre]; exact List.mem_map_of_mem hh) (by show some h'.1 = _; rw [e])
    have cX := hX.cell
    have HX := Lib.hid hX
    have HW := Lib.hid hW
    have HB := Lib.hid hB
    have Ho := Lib.hid ho
    have Hfr2 := Lib.hid hfr2
    have Hne := Lib.hid hne
    have Hpre := Lib.hid hpre
    have hpl2 : pre.length ≤ 8192 := by omega
    have hWd : d + 1 + 1 < W.heap.size := hX.lt
    clear hX hW hB ho hfr hfr2 hne hpre ha
    gi_wp2_with (gi_at_builtin; refine wpListIn_append_own_at _ rfl _ _ 36 rfl w.heap.size 26 i0 (.agg #[.slice none 0 0]) 1 24 Try.underlying36 hi0 hz0 hz1 hz2 rfl (by decide) _ _ _ rfl (hrow.alloc _) ⟨W.heap.size, 0, none⟩ 1 1 [hdr (g, ys.length, cc)] rfl rfl (cell_one_new _ _ _) (by simp [Value.oneCell']) (by unfold maxLen; omega) (by omega) (by simp; omega) ?_; intro v' w2 hown2 hg2 _ hat2; obtain ⟨g2, c2, rfl⟩ := ownsRow_succ hown2; have bX2 := (HX.out.alloc (.cells #[hdr (g, ys.length, cc)] 26)).kept hg2 (HX.out.not_row (by decide) hrow); have cX2 := bX2.cell; have fX2 := bX2.frozen)
    have hnew := woods_pushed (zs := ys) (o := .cells #[hdr (g, ys.length, cc)] 26) HW.out (own_mono Ho.out (by omega) : Own64 W w.heap.size (hdr (g, ys.length, cc)) ys) Hne.out Hfr2.out (by rw [hlen]; exact hown2) hg2
    have hnewX : Woods (w2.setCell ⟨d + 1 + 1, 0, none⟩ (.slice (some ⟨g2, 0, none⟩) (pre.length + 1 + 1) c2)) w.heap.size (.slice (some ⟨g2, 0, none⟩) (pre.length + 1 + 1) c2) (((g1, X1.length, c1) :: hs0) ++ [(g, ys.length, cc)]) (M.firstT X1.length (pre.length + 1) ++ [ys]) := by
      refine hnew.kept (grownBy_setCell' w2 (d + 1 + 1) _) (fun k e => ?_)
      have e1 : d + 1 + 1 = k := by injection e
      subst e1
      refine ⟨(bX2.not_row (by decide) hown2).symm, fun h' hh e2 => ?_⟩
      obtain ⟨j, hj⟩ := List.getElem?_of_mem hh
      have hjl : j < (M.firstT X1.length (pre.length + 1) ++ [ys]).length := by rw [← hnew.len]; exact (List.getElem?_eq_some_iff.1 hj).1
      exact bX2.not_row (by decide) (hnew.each j h' _ hj (List.getElem?_eq_getElem hjl)) (by show _ = some h'.1; rw [e2])
    have hKa : KeepsOthers W (W.alloc (.cells #[hdr (g, ys.length, cc)] 26)) := KeepsOthers.alloc W _
    have hKb : KeepsOthers (W.alloc (.cells #[hdr (g, ys.length, cc)] 26)) w2 := KeepsOthers.of_grownBy hg2 (fun j o ej hj => row_cells (hrow.alloc _) j o ej hj)
    have hKR : KeepRows W (w2.setCell ⟨d + 1 + 1, 0, none⟩ (.slice (some ⟨g2, 0, none⟩) (pre.length + 1 + 1) c2)) := by
      refine ((keepRows_grown (World.grownBy_alloc W (.cells #[hdr (g, ys.length, cc)] 26) none) (fun j cur e => by cases e)).t (keepRows_grown hg2 (fun j cur e hj => ?_))).t (keepRows_grown (grownBy_setCell' w2 (d + 1 + 1) _) (fun j cur e hj => ?_))
      · rcases (hrow.alloc (.cells #[hdr (g, ys.length, cc)] 26)).2 with ⟨e0, _⟩ | ⟨g3, _, _, hv3, _, hg3, _⟩
        · rw [e0] at e; cases e
        · rw [hv3] at e
          have e4 : g3 = j := by injection e
          rw [e4, hj] at hg3
          injection hg3 with hg3
          injection hg3 with _ hg3
          exact absurd hg3 (by decide)
      · have e4 : d + 1 + 1 = j := by injection e
        have hb := show w2.heap[d + 1 + 1]? = _ from bX2
        rw [e4, hj] at hb
        injection hb with hb
        injection hb with _ hb
        exact absurd hb (by decide)
    have hBel : Below w.heap.size w (w2.setCell ⟨d + 1 + 1, 0, none⟩ (.slice (some ⟨g2, 0, none⟩) (pre.length + 1 + 1) c2)) := HB.out.trans (below_setCell (((Below.refl w.heap.size W).alloc hWsz _).grown hg2 (by simp; omega) (fun k hk => (World.ownsRow.lt hrow k hk).1)) (by omega) _)
    refine ⟨((hKa.trans hKb).trans (KeepsOthers.setCell _ _ _)).from _, hKR, some ⟨g2, 0, none⟩, c2, hs0 ++ [(g, ys.length, cc)], ?_, ?_, ?_, ?_, hBel⟩
    · rw [Hpre.out, List.map_append]; rfl
    · rw [List.length_append, List.length_singleton]; omega
    · rw [List.length_append, List.length_singleton]; exact bX2.set _
    · rw [List.length_append, List.length_singleton, M.firstT_succ, ← Hk2.out]
      exact hnewX
  case done =>
    rintro D ys W hD hS ⟨A', c', hs0, hpre, hpl, hX, hW, hB⟩ hK
    have hLe : M.L X1.length 1 = ys.length + 1 := by
      have := haf.out ys.length
      rw [show M.after X1 ys.length = none from hS] at this
      split at this
      · cases this
      · omega
    rw [← hLe] at hX hW
    have cX := hX.cell
    have HK := Lib.hid hK
    have HW := Lib.hid hW
    have HB := Lib.hid hB
    clear hX hW hB hK hS hpre hpl hLe
    gi_wp2
    refine ⟨by simp, .inl ⟨_, _, rfl, run_takeDeferred HK.out, ?_⟩⟩
    exact ⟨_, results_tmp2 rfl _ _ _, A', c', rfl, ⟨_, HW.out.other (D := 0) (grownBy_putObj' W D _) (fun r e => by injection e with e; subst e; exact ⟨Nat.zero_le _, _, HK.out, rfl⟩)⟩, HB.out.trans (belowK_b (w := w) (Nat.le_refl _) W D _ _ (by omega) HK.out rfl rfl)⟩
  case stop =>
    rintro D cc pre W _ _ h _
    exact h.elim

set_option maxRecDepth 100000 in
set_option maxHeartbeats 2000000 in
theorem impl_TreesOf : GivesTreesN 84 F_TreesOf := by
  intro n w hlo hhi
  have hFst := Lib.hid (impl_FirstTree n w hlo hhi)
  by_cases h12 : 1 ≤ n ∧ n ≤ 24
  · obtain ⟨n, rfl⟩ := Int.eq_ofNat_of_zero_le (show 0 ≤ n by omega)
    have hFF : F_FirstTree (n : Int) = (M.firstL n 1, 0) := if_pos h12
    by_cases h7 : (n : Int) ≤ 7
    · have hF : F_TreesOf n = (M.firstT n (M.L n 1), 0) := by rw [F_TreesOf, if_pos h12, if_pos h7]; rfl
      rw [hF]
      simp only [M.firstT_len]
      exact (callsIn_wide (n := 5)).1 (impl_TreesOf_in n w (by omega) (by omega))
    · have hF : F_TreesOf n = ([], 3) := by rw [F_TreesOf, if_pos h12, if_neg h7]
      have hn7 : (7 : Int) < (n : Int) := by omega
      rw [hFF] at hFst
      rw [hF]
      clear hF h7 hFF
      go_enter Try.func84, Try.ntmps84
      go_wp2_with fail
      refine hFst.out.mono ?_
      rintro e w1 ⟨A', c', rfl, _, hb⟩
      have hB := Lib.hid (bal hb (.cells #[.slice A' (M.firstL n 1).length c'] 26))
      clear hb
      go_wp2
      go_ret2
      exact ⟨none, 0, [], rfl, woods_nil _ _, hB.out⟩
  · have hF : F_TreesOf n = ([], 2) := if_neg h12
    have hFF : F_FirstTree n = ([], 2) := if_neg h12
    rw [hFF] at hFst
    rw [hF]
    clear hF hFF
    go_enter Try.func84, Try.ntmps84
    go_wp2_with fail
    refine hFst.out.mono ?_
    rintro e w1 ⟨A', c', rfl, _, hb⟩
    have hB := Lib.hid (bal hb (.cells #[.slice A' ([] : List Int).length c'] 26))
    clear hb
    go_wp2
    go_ret2
    exact ⟨none, 0, [], rfl, woods_nil _ _, hB.out⟩
end Go.Proofs.Ytimjcdjeeocffaa
