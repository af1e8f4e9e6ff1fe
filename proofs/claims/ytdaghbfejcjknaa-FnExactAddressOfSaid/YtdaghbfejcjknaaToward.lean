/- childToward: the place of the child toward a node, and that child. -/
import Derived.Test.YtdaghbfejcjknaaEach
import Derived.Test.YtdaghbfejcjknaaAddr
namespace Go.Proofs.Ytdaghbfejcjknaa
open Go.RowKit Go.Shelf
attribute [local go_sem] Oper.semAt_some

/-- what the two boxes hold when so many children have come -/
def toP (pre : List (Nat × Nat)) : Int := match pre.getLast? with | none => 0 | some x => (x.1 : Int)
def toC (a : Nat) (pre : List (Nat × Nat)) : Int := match pre.getLast? with | none => (a : Int) | some x => (x.2 : Int)
theorem toP_snoc (pre : List (Nat × Nat)) (x : Nat × Nat) : toP (pre ++ [x]) = (x.1 : Int) := by simp [toP]
theorem toC_snoc (a : Nat) (pre : List (Nat × Nat)) (x : Nat × Nat) : toC a (pre ++ [x]) = (x.2 : Int) := by simp [toC]

set_option maxRecDepth 100000 in
set_option maxHeartbeats 4000000 in
theorem childToward_in (A : Option Addr) (xs : List Int) (c a v d : Nat) (w : World) (hx : xs.length ≤ 24) (hcl : xs.length ≤ c) (hcu : c ≤ 1000000000000) (ht : Hid (M.isTree xs = true)) (hd : Hid (xs[a]? = some (d : Int))) (hI : Ints w w.heap.size A xs) :
    CallsIn Fence.wide 5 Try.prog 99 #[.slice A xs.length c, .int .i64 (a : Int), .int .i64 (v : Int)] w fun e w' => ∃ k, k ≤ d ∧ (k < d → v < M.kidAt xs a k) ∧ (∀ j, j < k → M.kidAt xs a j ≤ v) ∧ e = .returned (.tuple #[.int .i64 (toP (kids xs a k)), .int .i64 (toC a (kids xs a k))]) ∧ Below w.heap.size w w' := by
  have hd24 : d ≤ 24 := by have := (M.tree_deg ht.out hd.out).2; omega
  refine callsIn_of_wp_marks Try.func99 rfl trivial ?_ rfl
  simp only [Try.ntmps99, List.size_toArray, List.length_cons, List.length_nil, Nat.reduceAdd, Nat.reduceSub, Array.replicate_succ, Array.replicate_zero, List.push_toArray, List.append_toArray, List.nil_append, List.cons_append]
  gi_wp2_with (refine ⟨trivial, ?_⟩; gi_at_call 138; refine (eachIn 4 A xs.length c a _).mono ?_; rintro e w' ⟨rfl, rfl⟩)
  obtain ⟨s, hs⟩ : ∃ s, Hid (w.heap.size = s) := ⟨_, rfl⟩
  have bV0 := Boxed.new w 2 (.int .i64 (v : Int))
  have bP0 := Boxed.new (w.alloc (.cells #[.int .i64 (v : Int)] 2)) 2 (.int .i64 0)
  have bC0 := Boxed.new ((w.alloc (.cells #[.int .i64 (v : Int)] 2)).alloc (.cells #[.int .i64 0] 2)) 2 (.int .i64 (a : Int))
  have bD0 := Boxed.new (((w.alloc (.cells #[.int .i64 (v : Int)] 2)).alloc (.cells #[.int .i64 0] 2)).alloc (.cells #[.int .i64 (a : Int)] 2)) 22 (.slice A xs.length c)
  have bA0 := Boxed.new ((((w.alloc (.cells #[.int .i64 (v : Int)] 2)).alloc (.cells #[.int .i64 0] 2)).alloc (.cells #[.int .i64 (a : Int)] 2)).alloc (.cells #[.slice A xs.length c] 22)) 2 (.int .i64 (a : Int))
  simp only [World.size_alloc] at bP0 bC0 bD0 bA0
  have bD := bD0.alloc (.cells #[.int .i64 (a : Int)] 2)
  have bC := (bC0.alloc (.cells #[.slice A xs.length c] 22)).alloc (.cells #[.int .i64 (a : Int)] 2)
  have bP := ((bP0.alloc (.cells #[.int .i64 (a : Int)] 2)).alloc (.cells #[.slice A xs.length c] 22)).alloc (.cells #[.int .i64 (a : Int)] 2)
  have bV := (((bV0.alloc (.cells #[.int .i64 0] 2)).alloc (.cells #[.int .i64 (a : Int)] 2)).alloc (.cells #[.slice A xs.length c] 22)).alloc (.cells #[.int .i64 (a : Int)] 2)
  have hB0 := bal (bal (bal (bal (bal (b0 w) (.cells #[.int .i64 (v : Int)] 2)) (.cells #[.int .i64 0] 2)) (.cells #[.int .i64 (a : Int)] 2)) (.cells #[.slice A xs.length c] 22)) (.cells #[.int .i64 (a : Int)] 2)
  obtain ⟨W0, hW0⟩ : ∃ W0, W0 = (((((w.alloc (.cells #[.int .i64 (v : Int)] 2)).alloc (.cells #[.int .i64 0] 2)).alloc (.cells #[.int .i64 (a : Int)] 2)).alloc (.cells #[.slice A xs.length c] 22)).alloc (.cells #[.int .i64 (a : Int)] 2)) := ⟨_, rfl⟩
  have hsz : W0.heap.size = w.heap.size + 1 + 1 + 1 + 1 + 1 := by rw [hW0]; simp
  rw [← hW0] at bA0 bD bC bP bV hB0 ⊢
  clear hW0 bV0 bP0 bC0 bD0
  have hKb := KeepK.b (n₀ := w.heap.size) (Bd := w.heap.size + 1 + 1 + 1) (w := W0) (by omega) (by omega)
  have h15 : 1 ≤ 5 := by omega
  refine wpIn_rangeFunc_ownG (α := Nat × Nat) rfl h15 (gf := 146) (lb := #[.pointer (some ⟨w.heap.size + 1 + 1 + 1 + 1, 0, none⟩), .pointer (some ⟨w.heap.size + 1 + 1 + 1, 0, none⟩)]) rfl trivial (enters_of Try.func146 (by kernel_rfl) rfl)
    (each_stops 4 (by omega) (w.heap.size + 1 + 1 + 1 + 1) (w.heap.size + 1 + 1 + 1) w.heap.size A xs c a d hx hcl hcu ht hd W0 bA0.cell bD (hI.below hB0 (Nat.le_refl _)) (by omega)) (fun h k => h.t k) hKb (Below.refl _ _) (fun _ => rfl)
    (fun pre W => Boxed W w.heap.size 2 (.int .i64 (v : Int)) ∧ Boxed W (w.heap.size + 1) 2 (.int .i64 (toP pre)) ∧ Boxed W (w.heap.size + 1 + 1) 2 (.int .i64 (toC a pre)) ∧ Boxed W (w.heap.size + 1 + 1 + 1) 22 (.slice A xs.length c) ∧ (∀ x ∈ pre, x.2 ≤ v) ∧ Below w.heap.size w W)
    (fun cc pre W => cc = .exit 0 ∧ Boxed W (w.heap.size + 1) 2 (.int .i64 (toP pre.dropLast)) ∧ Boxed W (w.heap.size + 1 + 1) 2 (.int .i64 (toC a pre.dropLast)) ∧ (∃ x pre', pre = pre' ++ [x] ∧ v < x.2 ∧ ∀ y ∈ pre', y.2 ≤ v) ∧ Below w.heap.size w W)
    (OwnFrom.and (Own.from (boxed_own w.heap.size 2 (fun _ => .int .i64 (v : Int))) _) (OwnFrom.and (Own.from (boxed_own (w.heap.size + 1) 2 (fun pre => .int .i64 (toP pre))) _) (OwnFrom.and (Own.from (boxed_own (w.heap.size + 1 + 1) 2 (fun pre => .int .i64 (toC a pre))) _) (OwnFrom.and (Own.from (boxed_own (w.heap.size + 1 + 1 + 1) 22 (fun _ => .slice A xs.length c)) _) (OwnFrom.and (ownFrom_pure _ (fun (pre : List (Nat × Nat)) => ∀ x ∈ pre, x.2 ≤ v)) (ownFrom_below (Nat.le_refl _) (by omega)))))))
    (fun cc => OwnFrom.and (ownFrom_pure _ (fun (_ : List (Nat × Nat)) => cc = .exit 0)) (OwnFrom.and (Own.from (boxed_own (w.heap.size + 1) 2 (fun (pre : List (Nat × Nat)) => .int .i64 (toP pre.dropLast))) _) (OwnFrom.and (Own.from (boxed_own (w.heap.size + 1 + 1) 2 (fun (pre : List (Nat × Nat)) => .int .i64 (toC a pre.dropLast))) _) (OwnFrom.and (ownFrom_pure _ (fun (pre : List (Nat × Nat)) => ∃ x pre', pre = pre' ++ [x] ∧ v < x.2 ∧ ∀ y ∈ pre', y.2 ≤ v)) (ownFrom_below (Nat.le_refl _) (by omega))))))
    ⟨bV, bP, bC, bD, by simp, hB0⟩
    (fun x => { tmps := #[.slice A xs.length c, .int .i64 (a : Int), .int .i64 (v : Int), undef, undef, .pointer (some ⟨w.heap.size, 0, none⟩), .int .i64 0, .int .i64 0, .pointer (some ⟨w.heap.size + 1, 0, none⟩), .pointer (some ⟨w.heap.size + 1 + 1, 0, none⟩), .int .i64 (x.1 : Int), .int .i64 (x.2 : Int), .int .i64 (a : Int), .slice A xs.length c, .int .i64 (a : Int), .func (.func 146) #[] #[.pointer (some ⟨w.heap.size + 1 + 1 + 1 + 1, 0, none⟩), .pointer (some ⟨w.heap.size + 1 + 1 + 1, 0, none⟩)], .int .i64 (x.1 : Int), .int .i64 (x.2 : Int), undef, undef, undef, undef, undef, undef, undef], defers := [] }) ?assign ?body ?done ?stop
  case assign =>
    intro l x W K hK
    gi_wp2
    exact hK
  case body =>
    rintro l pre x W ⟨h1, h2, h3, h4, h5, h6⟩ hlt
    have c1 := h1.cell
    by_cases hxv : v < x.2
    · have hxv2 : (v : Int) < (x.2 : Int) := by omega
      gi_wp2
      exact ⟨KeepsFrom.refl _ _, rfl, by rw [List.dropLast_concat]; exact h2, by rw [List.dropLast_concat]; exact h3, ⟨x, pre, rfl, hxv, h5⟩, h6⟩
    · have hxv2 : ¬ (v : Int) < (x.2 : Int) := by omega
      have c2 := h2.cell
      have f2 := h2.frozen
      have b2 : Boxed (W.setCell ⟨w.heap.size + 1, 0, none⟩ (.int .i64 (x.1 : Int))) (w.heap.size + 1) 2 (.int .i64 (x.1 : Int)) := h2.set _
      have b3 : Boxed (W.setCell ⟨w.heap.size + 1, 0, none⟩ (.int .i64 (x.1 : Int))) (w.heap.size + 1 + 1) 2 (.int .i64 (toC a pre)) := h3.other (by omega) _
      have c3 := b3.cell
      have f3 := b3.frozen
      gi_wp2
      have k1 : Below w.heap.size W ((W.setCell ⟨w.heap.size + 1, 0, none⟩ (.int .i64 (x.1 : Int))).setCell ⟨w.heap.size + 1 + 1, 0, none⟩ (.int .i64 (x.2 : Int))) := below_setCell (below_setCell (Below.refl _ _) (by omega) _) (by omega) _
      have k2 : Boxed ((W.setCell ⟨w.heap.size + 1, 0, none⟩ (.int .i64 (x.1 : Int))).setCell ⟨w.heap.size + 1 + 1, 0, none⟩ (.int .i64 (x.2 : Int))) (w.heap.size + 1 + 1 + 1) 22 (.slice A xs.length c) := (h4.other (by omega) _).other (by omega) _
      refine ⟨((KeepsOthers.setCell W _ _).trans (KeepsOthers.setCell _ _ _)).from _, ⟨k1, k2.trans (show W.heap[_]? = _ from h4).symm⟩, (h1.other (by omega) _).other (by omega) _, ?_, ?_, k2, ?_, h6.trans k1⟩
      · rw [toP_snoc]; exact b2.other (by omega) _
      · rw [toC_snoc]; exact b3.set _
      · intro y1 y2 hy
        rcases List.mem_append.1 hy with h | h
        · exact h5 (y1, y2) h
        · have h := congrArg Prod.snd (List.mem_singleton.1 h)
          simp only at h
          omega
  case done =>
    rintro D ys W hD rfl ⟨h1, h2, h3, h4, h5, h6⟩ hK
    have c2 := h2.cell
    have c3 := h3.cell
    obtain ⟨P, hP⟩ : ∃ P, Hid (toP (kids xs a d) = P) := ⟨_, rfl⟩
    obtain ⟨C, hC⟩ : ∃ C, Hid (toC a (kids xs a d) = C) := ⟨_, rfl⟩
    have h5' : Hid (∀ j, j < d → M.kidAt xs a j ≤ v) := fun j hj => h5 (j, M.kidAt xs a j) (by simp only [kids, List.mem_map, List.mem_range]; exact ⟨j, hj, rfl⟩)
    rw [hP.out] at c2
    rw [hC.out] at c3
    have hKd : Hid (W.drew.heap[D]? = some (.deferred (some []))) := hK
    have h6' : Hid (Below w.heap.size w W.drew) := h6.drew
    clear h2 h3 h5 h6 hK
    gi_wp2
    gi_region
    all_goals gi_wp2
    all_goals refine ⟨by simp, .inl ⟨_, _, rfl, run_takeDeferred hKd.out, ?_⟩⟩
    all_goals exact ⟨_, results_tmp2 rfl _ _ _, d, Nat.le_refl _, fun h => absurd h (by omega), h5'.out, by rw [hP.out, hC.out]; rfl, h6'.out.trans (belowK_b (w := w) (Nat.le_refl _) W.drew D _ _ (by omega) hKd.out rfl rfl)⟩
  case stop =>
    rintro D cc pre W hD ⟨k0, hk0, rfl⟩ ⟨rfl, h2, h3, ⟨x, pre', hp, hx, h5⟩, h6⟩ hK
    have c2 := h2.cell
    have c3 := h3.cell
    have hk1 : ∃ m, k0 = m + 1 := by
      cases k0 with
      | zero => simp [kids] at hp
      | succ m => exact ⟨m, rfl⟩
    obtain ⟨k, rfl⟩ := hk1
    rw [kids_succ] at hp c2 c3
    rw [List.dropLast_concat] at c2 c3
    obtain ⟨e1, e2⟩ := List.append_inj' hp rfl
    injection e2 with e2
    subst e1
    subst e2
    obtain ⟨P, hP⟩ : ∃ P, Hid (toP (kids xs a k) = P) := ⟨_, rfl⟩
    obtain ⟨C, hC⟩ : ∃ C, Hid (toC a (kids xs a k) = C) := ⟨_, rfl⟩
    have h5' : Hid (∀ j, j < k → M.kidAt xs a j ≤ v) := fun j hj => h5 (j, M.kidAt xs a j) (by simp only [kids, List.mem_map, List.mem_range]; exact ⟨j, hj, rfl⟩)
    have hx' : Hid (v < M.kidAt xs a k) := hx
    rw [hP.out] at c2
    rw [hC.out] at c3
    have hKd : Hid (W.drew.heap[D]? = some (.deferred (some []))) := hK
    have h6' : Hid (Below w.heap.size w W.drew) := h6.drew
    clear h2 h3 h5 h6 hK hp hx
    gi_wp2
    gi_region
    all_goals gi_wp2
    all_goals refine ⟨by simp, .inl ⟨_, _, rfl, run_takeDeferred hKd.out, ?_⟩⟩
    all_goals exact ⟨_, results_tmp2 rfl _ _ _, k, by omega, fun _ => hx'.out, h5'.out, by rw [hP.out, hC.out]; rfl, h6'.out.trans (belowK_b (w := w) (Nat.le_refl _) W.drew D _ _ (by omega) hKd.out rfl rfl)⟩

theorem childToward (A : Option Addr) (xs : List Int) (c a v : Nat) (w : World) (hx : xs.length ≤ 24) (hcl : xs.length ≤ c) (hcu : c ≤ 1000000000000) (ht : Hid (M.isTree xs = true)) (h1 : a < v) (h2 : v < M.fin xs a) (hv : v < xs.length) (hI : Ints w w.heap.size A xs) :
    Calls Try.prog 99 #[.slice A xs.length c, .int .i64 (a : Int), .int .i64 (v : Int)] w fun e w' => e = .returned (.tuple #[.int .i64 (M.place xs a v : Int), .int .i64 (M.next xs a v : Int)]) ∧ Below w.heap.size w w' := by
  obtain ⟨d, hd, _, hp, h3, h4⟩ := M.place_at ht.out h1 h2 hv
  refine ((callsIn_wide (n := 5)).1 (childToward_in A xs c a v d w hx hcl hcu ht hd hI)).mono ?_
  rintro e w' ⟨k, hk, hk1, hk2, rfl, hb⟩
  have hkp : k = M.place xs a v + 1 := by
    generalize M.place xs a v = j at *
    rcases Nat.lt_trichotomy k (j + 1) with h | h | h
    · have := hk1 (by omega)
      have := M.kid_le (xs := xs) (v := a) (i := k) (j := j) (by omega)
      omega
    · exact h
    · have := hk2 (j + 1) h
      omega
  subst hkp
  rw [kids_succ, toP_snoc, toC_snoc]
  exact ⟨rfl, hb⟩
end Go.Proofs.Ytdaghbfejcjknaa
