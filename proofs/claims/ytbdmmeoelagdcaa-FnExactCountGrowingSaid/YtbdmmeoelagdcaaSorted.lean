/- slices.Sorted of slices.Values: a list in ascending order, in a row of its own. -/
import Derived.Test.YtbdmmeoelagdcaaKids
import Derived.Test.YtbdmmeoelagdcaaGrow
import Derived.Test.YtbdmmeoelagdcaaSortS
import Derived.Sort.OwnSortedInts
namespace Go.Proofs.Ytbdmmeoelagdcaa
open Go.RowKit Go.Shelf
attribute [local go_sem] Oper.semAt_some

/-- the numbers that have come behind k rounds -/
def atOr (zs : List Int) (k : Nat) : Int := zs[k]?.getD 0
theorem range_at (zs : List Int) : (List.range zs.length).map (atOr zs) = zs := by
  refine List.ext_getElem? fun i => ?_
  rcases Nat.lt_or_ge i zs.length with h | h
  · simp [atOr, h]
  · rw [List.getElem?_eq_none (by simp; exact h), List.getElem?_eq_none h]

set_option maxRecDepth 100000 in
set_option maxHeartbeats 2000000 in
theorem values1 (n : Nat) (hn : 1 ≤ n) (l Bd n₀ : Nat) (A : Option Addr) (zs : List Int) (c m : Nat) (hm : Hid (zs.length = m)) (hx : m ≤ 24) (J Jx : List Int → World → Prop)
    (hY : ∀ pre x W, J pre W → pre.length < m → YieldAt Fence.wide (n - 1) Try.prog l #[.int .i64 x] W fun e W' =>
      (e = .returned (.bool true) ∧ J (pre ++ [x]) W' ∧ KeepK n₀ Bd W W') ∨ (e = .returned (.bool false) ∧ Jx (pre ++ [x]) W'))
    (W : World) (hBd : Boxed W Bd 23 (.slice A m c)) (hI : Ints W n₀ A zs) (_hn0 : n₀ ≤ W.heap.size) (h0 : J [] W) :
    CallsIn Fence.wide n Try.prog 181 #[.func (.yield l) #[] #[], .pointer (some ⟨Bd, 0, none⟩)] W fun e W' => (∃ u, e = .returned u) ∧
      ((∃ ys, ys = (List.range m).map (atOr zs) ∧ J ys W') ∨ (∃ pre, (∃ k, k ≤ m ∧ pre = (List.range k).map (atOr zs)) ∧ Jx pre W')) := by
  have hcd := hBd.cell
  have HI := Lib.hid hI
  clear hI hBd
  refine callsIn_of_wp Try.func181 rfl trivial ?_ rfl
  simp only [Try.ntmps181, List.size_toArray, List.length_cons, List.length_nil, Nat.reduceAdd, Nat.reduceSub, Array.replicate_succ, Array.replicate_zero, List.push_toArray, List.append_toArray, List.nil_append, List.cons_append]
  gi_wp2
  gi_loopw [4, 7] (fun _ i wr => ∃ k : Nat, k ≤ m ∧ i = .int .i64 (k : Int) ∧ J ((List.range k).map (atOr zs)) wr ∧ Hid (KeepK n₀ Bd W wr))
    (fun _ i _ => m - (intOf i).toNat)
  case atStart => exact ⟨0, Nat.zero_le _, rfl, h0, ⟨Below.refl _ _, rfl⟩⟩
  case round =>
    obtain ⟨k, hk, rfl, hJs, hnx⟩ := hrel
    clear hcd
    by_cases hlt : k < m
    · have hYk := hY _ (atOr zs k) wr hJs (by simpa using hlt)
      obtain ⟨fn, tmps, assign, body, hy, hR⟩ := hYk
      obtain ⟨b, off, x, rfl, hbB, g1, hX⟩ := (HI.out.below hnx.out.1 (Nat.le_refl _)).at_ (k := k) (by rw [hm.out]; exact hlt)
      have hax : atOr zs k = x := by rw [atOr, hX.out]; rfl
      rw [hax] at hR hy
      have hki : (k : Int) < (m : Int) := by omega
      have hk0 : (0 : Int) ≤ (k : Int) := by omega
      have Hax := Lib.hid hax
      clear hX hax
      gi_wp2
      refine hR.mono ?_
      rintro e W3 (⟨rfl, hJ3, hk3⟩ | ⟨rfl, hJx3⟩)
      · have hk4 : Hid (KeepK n₀ Bd W W3) := hnx.out.t hk3
        clear hk3
        gi_wp2
        go_roundw
        case rel => exact ⟨k + 1, by omega, by go_num, by rw [List.range_succ, List.map_append]; show J (_ ++ [atOr zs k]) _; rw [Hax.out]; exact hJ3, hk4⟩
        case measure => simp [intOf]; omega
      · gi_wp2
        refine bodyPost_ret (results_none rfl _ _ _) rfl ?_
        exact ⟨⟨_, rfl⟩, .inr ⟨_, ⟨k + 1, by omega, by rw [List.range_succ, List.map_append]; show _ = _ ++ [atOr zs k]; rw [Hax.out]⟩, hJx3⟩⟩
    · obtain rfl : k = m := by omega
      gi_wp2
      go_end0
      exact ⟨⟨_, rfl⟩, .inl ⟨_, rfl, hJs⟩⟩

theorem values_stops (n : Nat) (hn : 1 ≤ n) (Bd n₀ : Nat) (A : Option Addr) (zs : List Int) (c m : Nat) (hm : Hid (zs.length = m)) (hx : m ≤ 24)
    (w : World) (hBd : Boxed w Bd 23 (.slice A m c)) (hI : Ints w n₀ A zs) (hn0 : n₀ ≤ w.heap.size) :
    SeqStopsK Fence.wide n Try.prog 181 #[.pointer (some ⟨Bd, 0, none⟩)] (fun x : Int => #[Value.int .i64 x]) (KeepK n₀ Bd)
      (fun ys => ys = (List.range m).map (atOr zs)) (fun pre => ∃ k, k ≤ m ∧ pre = (List.range k).map (atOr zs)) m w := fun l J Jx W hW _ _ hY h0 =>
  values1 n hn l Bd n₀ A zs c m hm hx J Jx hY W ((hW.block Bd hBd.lt).trans hBd) (hI.below hW hn0) (Nat.le_trans hn0 hW.size) h0

set_option maxRecDepth 100000 in
set_option maxHeartbeats 2000000 in
theorem appendSeq_in (Bd : Nat) (A : Option Addr) (zs : List Int) (c m : Nat) (w : World) (hm : Hid (zs.length = m)) (hx : m ≤ 24) (hBd : Boxed w Bd 23 (.slice A m c)) (hI : Ints w w.heap.size A zs) :
    CallsIn Fence.wide 5 Try.prog 184 #[.slice none 0 0, .func (.func 181) #[] #[.pointer (some ⟨Bd, 0, none⟩)]] w fun e w' => ∃ u, e = .returned u ∧ w'.ownsRow w.heap.size 2 1 u zs.length (zs.map (Value.int .i64)) ∧ Below w.heap.size w w' := by
  obtain ⟨i0, hi0, hz0, hz1, hz2⟩ := info_parts info64
  have hlB := hBd.lt
  refine callsIn_of_wp_marks Try.func184 rfl trivial ?_ rfl
  simp only [Try.ntmps184, List.size_toArray, List.length_cons, List.length_nil, Nat.reduceAdd, Nat.reduceSub, Array.replicate_succ, Array.replicate_zero, List.push_toArray, List.append_toArray, List.nil_append, List.cons_append]
  gi_wp2
  have bO := Boxed.new w 23 (.slice none 0 0)
  have bD := hBd.alloc (.cells #[.slice none 0 0] 23)
  have hB0 := bal (b0 w) (.cells #[.slice none 0 0] 23)
  have hKb := KeepK.b (n₀ := w.heap.size) (Bd := Bd) (w := (w.alloc (.cells #[.slice none 0 0] 23))) (by simp) (by simp; omega)
  have h15 : 1 ≤ 5 := by omega
  refine wpIn_rangeFunc_ownG (α := Int) rfl h15 (gf := 181) (lb := #[.pointer (some ⟨Bd, 0, none⟩)]) rfl trivial (enters_of Try.func181 (by kernel_rfl) rfl)
    (values_stops 4 (by omega) Bd w.heap.size A zs c m hm hx _ bD (hI.below hB0 (Nat.le_refl _)) (by simp)) (fun h k => h.t k) hKb (Below.refl _ _) (fun _ => rfl)
    (fun pre W => (∃ u, Boxed W w.heap.size 23 u ∧ W.ownsRow w.heap.size 2 1 u pre.length (pre.map (Value.int .i64)) ∧ True) ∧ Boxed W Bd 23 (.slice A m c) ∧ Below w.heap.size w W)
    (fun _ _ _ => False)
    (OwnFrom.and (Own.from (holdsRow_own w.heap.size w.heap.size 23 2 1 (fun pre : List Int => pre.length) (fun pre => pre.map (Value.int .i64)) (fun _ _ => True)) _) (OwnFrom.and (Own.from (boxed_own Bd 23 (fun _ => .slice A m c)) _) (ownFrom_below (Nat.le_refl _) (by simp))))
    (fun _ _ _ _ _ hs _ _ => hs)
    ⟨⟨_, bO, World.ownsRow_nil _ _ _ _, trivial⟩, bD, hB0⟩
    (fun x => { tmps := #[.slice none 0 0, .func (.func 181) #[] #[.pointer (some ⟨Bd, 0, none⟩)], .pointer (some ⟨w.heap.size, 0, none⟩), undef, .slice none 0 0, .int .i64 x, .func (.func 181) #[] #[.pointer (some ⟨Bd, 0, none⟩)], .int .i64 x, undef, undef, undef, undef, undef], defers := [] }) ?assign ?body ?done ?stop
  case assign =>
    intro l x W K hK
    gi_wp2
    exact hK
  case body =>
    rintro l pre x W ⟨⟨u, hu, hrow, _⟩, hbd, hB⟩ hlt
    have hc := hu.cell
    have hpl2 : pre.length ≤ 24 := by omega
    gi_wp2_with (gi_at_builtin; refine wpListIn_append_own _ rfl _ _ 23 rfl w.heap.size 2 i0 (.int .i64 0) 1 8 Try.underlying23 hi0 hz0 hz1 hz2 rfl (by decide) _ _ _ rfl (hrow.alloc _) ⟨W.heap.size, 0, none⟩ 1 1 [.int .i64 x] rfl rfl (cell_one_new _ _ _) (by simp [Value.oneCell']) (by unfold maxLen; omega) (by omega) (by have := hB.size; simp; omega) ?_; intro v' w1 hown' hgrow _; obtain ⟨g', cap', rfl⟩ := ownsRow_succ hown'; obtain ⟨hv1, hv2, hr2, hk2, hb2⟩ := hu.appended (by decide) hrow hB.size (Nat.le_refl _) hown' hgrow; have hc1 := hv1.cell; have hf1 := hv1.frozen)
    have hkk := keepK_appended hb2 hgrow hrow hbd (by omega)
    exact ⟨hk2.from _, hkk, ⟨_, hv2, by simpa using hr2, trivial⟩, hkk.2.trans hbd, hB.trans hb2⟩
  case done =>
    rintro D ys W hD rfl ⟨⟨u, hu, hrow, _⟩, hbd, hB⟩ hK
    have hc := hu.cell
    rw [← hm.out, range_at] at hrow
    gi_wp2
    refine ⟨by simp, .inl ⟨_, _, rfl, run_takeDeferred hK, ?_⟩⟩
    exact ⟨_, results_tmp rfl _ _ _, u, rfl, ownsRow_putObj hrow _ hK rfl, hB.trans (belowK_b (w := w) (Nat.le_refl _) W D _ _ (by simp at hD; omega) hK rfl rfl)⟩
  case stop =>
    rintro D c pre W _ _ h _
    exact h.elim

set_option maxHeartbeats 1000000 in
theorem valuesOf (A : Option Addr) (m c : Nat) (w : World) :
    Calls Try.prog 172 #[.slice A m c] w fun e w' => e = .returned (.func (.func 181) #[] #[.pointer (some ⟨w.heap.size, 0, none⟩)]) ∧ w' = w.alloc (.cells #[.slice A m c] 23) := by
  go_enter Try.func172, Try.ntmps172
  go_wp2
  go_ret
  exact ⟨rfl, rfl⟩

set_option maxHeartbeats 1000000 in
theorem collectOf (Bd : Nat) (A : Option Addr) (zs : List Int) (c m : Nat) (w : World) (hm : Hid (zs.length = m)) (hx : m ≤ 24) (hBd : Boxed w Bd 23 (.slice A m c)) (hI : Ints w w.heap.size A zs) :
    Calls Try.prog 179 #[.func (.func 181) #[] #[.pointer (some ⟨Bd, 0, none⟩)]] w fun e w' => ∃ A' c', e = .returned (.slice A' m c') ∧ Own64 w' w.heap.size (.slice A' m c') zs ∧ Below w.heap.size w w' := by
  have HA := Lib.hid ((callsIn_wide (n := 5)).1 (appendSeq_in Bd A zs c m w hm hx hBd hI))
  go_enter Try.func179, Try.ntmps179
  go_wp2_with fail
  refine HA.out.mono ?_
  rintro e w1 ⟨u, rfl, ho, hb⟩
  obtain ⟨A', c', rfl⟩ := own_shape ho
  rw [hm.out] at ho ⊢
  have Ho : Hid (Own64 w1 w.heap.size (.slice A' m c') zs) := by show Own64 _ _ _ _; unfold Own64; rw [hm.out]; exact ho
  clear ho
  go_wp2
  go_ret
  exact ⟨A', c', rfl, Ho.out, hb⟩

set_option maxHeartbeats 1000000 in
theorem sortedOf (Bd : Nat) (A : Option Addr) (zs : List Int) (c m : Nat) (w : World) (hm : Hid (zs.length = m)) (hx : m ≤ 24) (h1 : 1 ≤ m) (hBd : Boxed w Bd 23 (.slice A m c)) (hI : Ints w w.heap.size A zs) :
    Calls Try.prog 171 #[.func (.func 181) #[] #[.pointer (some ⟨Bd, 0, none⟩)]] w fun e w' => ∃ g c', e = .returned (.slice (some ⟨g, 0, none⟩) m c') ∧ Own64 w' w.heap.size (.slice (some ⟨g, 0, none⟩) m c') (M.sorted zs) ∧ Below w.heap.size w w' := by
  have HA := Lib.hid (collectOf Bd A zs c m w hm hx hBd hI)
  go_enter Try.func171, Try.ntmps171
  go_wp2_with fail
  refine HA.out.mono ?_
  rintro e w1 ⟨A', c', rfl, ho, hb⟩
  have hS : Hid (∃ g, A' = some ⟨g, 0, none⟩ ∧ Calls Try.prog 180 #[.slice A' m c'] w1 fun e w' => e = .returned (.tuple #[]) ∧ Own64 w' w.heap.size (.slice A' m c') (M.sorted zs) ∧ Below w.heap.size w w') := by
    rcases ho.2 with ⟨h2, h3⟩ | ⟨g, cap, cur, hv, hg, hh, k1, k2, k3, k4⟩
    · exfalso; rw [hm.out] at h3; omega
    · injection hv with e1 e2 e3
      subst e1
      subst e3
      have hlt := (Array.getElem?_eq_some_iff.1 hh).1
      refine ⟨g, rfl, ?_⟩
      have hc := Try.sort64 g 0 c' zs w1 (holds_of_blockI hh (by rw [Nat.mul_one] at k4; exact k4)) hlt (by rw [hm.out]; omega)
      rw [hm.out] at hc
      refine hc.mono ?_
      rintro e w2 ⟨rfl, n, os, rfl⟩
      refine ⟨rfl, ?_, hb.grown (grownBy_sortedI _) hb.size (fun k hk => by cases hk; exact hg)⟩
      have hr := ownsRow_sortedI (n := n) (os := os) (ss := zs) (ts := M.sorted zs) (M.sorted_len zs) hg hh k1 k2 k3
      unfold Own64
      rw [M.sorted_len]
      rw [hm.out] at hr ⊢
      exact hr
  obtain ⟨g, rfl, hS⟩ := hS.out
  have HS := Lib.hid hS
  clear hS ho
  go_wp2_with fail
  refine HS.out.mono ?_
  rintro e w2 ⟨rfl, ho2, hb2⟩
  have Ho2 := Lib.hid ho2
  clear ho2
  go_wp2
  go_ret
  exact ⟨g, c', rfl, Ho2.out, hb2⟩
end Go.Proofs.Ytbdmmeoelagdcaa
