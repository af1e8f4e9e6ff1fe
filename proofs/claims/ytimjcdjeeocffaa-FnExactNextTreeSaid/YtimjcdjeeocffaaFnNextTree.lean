/- NextTree, the program's and the model's: the next tree, or a code. -/
import Derived.Test.YtimjcdjeeocffaaBehind
import Derived.Test.YtimjcdjeeocffaaGives
import Derived.Test.YtimjcdjeeocffaaFnRankOfTree
import Derived.Test.YtimjcdjeeocffaaUnTree
import Derived.Test.YtimjcdjeeocffaaNewBox
import Derived.Deep.RegionHeld3
import Derived.Deep.DeepCutAuto
import Derived.BigRegion
import Derived.Outline
import Derived.OneCell
namespace Go.Proofs.Ytimjcdjeeocffaa
open Go.RowKit Go.Shelf Go.Maps
attribute [local go_sem] Oper.semAt_some

def F_NextTree (xs : List Int) : List Int × Int := if M.isTree xs then (match M.nextF 1 xs with | some ys => (ys, 0) | none => ([], 4)) else ([], 1)
theorem F_NextTree_no {xs : List Int} (h : M.isTree xs = false) : F_NextTree xs = ([], 1) := by rw [F_NextTree, h]; rfl
theorem F_NextTree_some {xs ys : List Int} (h : M.isTree xs = true) (hn : M.nextF 1 xs = some ys) : F_NextTree xs = (ys, 0) := by rw [F_NextTree, h, hn]; rfl
theorem F_NextTree_none {xs : List Int} (h : M.isTree xs = true) (hn : M.nextF 1 xs = none) : F_NextTree xs = ([], 4) := by rw [F_NextTree, h, hn]; rfl
theorem F_NextTree_len (xs : List Int) : (F_NextTree xs).1.length ≤ 1048576 := by
  cases ht : M.isTree xs
  · rw [F_NextTree_no ht]; simp
  · cases hn : M.nextF 1 xs with
    | none => rw [F_NextTree_none ht hn]; simp
    | some ys =>
      rw [F_NextTree_some ht hn]
      have := (M.tree_len (M.next_tree ht hn).1).2
      show ys.length ≤ _
      omega

set_option maxRecDepth 100000 in
set_option maxHeartbeats 8000000 in
theorem impl_NextTree_in (A : Option Addr) (xs : List Int) (c : Nat) (w : World) (ht : Hid (M.isTree xs = true)) (hcl : xs.length ≤ c) (hcu : c ≤ 1000000000000) (hI : Hid (Ints w w.heap.size A xs)) :
    CallsIn Fence.wide 5 Try.prog 82 #[.agg #[.slice A xs.length c]] w fun e w' => ∃ A' c', e = .returned (.tuple #[.agg #[.slice A' (F_NextTree xs).1.length c'], .int .i64 (F_NextTree xs).2]) ∧ Own64 w' w.heap.size (.slice A' (F_NextTree xs).1.length c') (F_NextTree xs).1 ∧ Below w.heap.size w w' := by
  have hx := (M.tree_len ht.out).2
  have bT0 := Boxed.new w 26 (.slice A xs.length c)
  have bR0 := Boxed.new (w.alloc (.cells #[.slice A xs.length c] 26)) 26 (.slice none 0 0)
  have bK0 := Boxed.new ((w.alloc (.cells #[.slice A xs.length c] 26)).alloc (.cells #[.slice none 0 0] 26)) 2 (.int .i64 0)
  simp only [World.size_alloc] at bR0 bK0
  have bT := (bT0.alloc (.cells #[.slice none 0 0] 26)).alloc (.cells #[.int .i64 0] 2)
  have bR := bR0.alloc (.cells #[.int .i64 0] 2)
  have hB0 := bal (bal (bal (b0 w) (.cells #[.slice A xs.length c] 26)) (.cells #[.slice none 0 0] 26)) (.cells #[.int .i64 0] 2)
  have hI0 := Lib.hid (((hI.out.al (.cells #[.slice A xs.length c] 26)).al (.cells #[.slice none 0 0] 26)).al (.cells #[.int .i64 0] 2))
  have hc := codeOf0 A xs c (((w.alloc (.cells #[.slice A xs.length c] 26)).alloc (.cells #[.slice none 0 0] 26)).alloc (.cells #[.int .i64 0] 2)) (by omega) hI0.out 0 (by rw [ht.out]; rfl)
  have HC := Lib.hid hc
  have HT := Lib.hid bT
  have HR := Lib.hid bR
  have HK := Lib.hid bK0
  have HB0 := Lib.hid hB0
  clear bT0 bR0 bT bR bK0 hB0 hc
  refine callsIn_of_wp_marks Try.func82 rfl trivial ?_ rfl
  simp only [Try.ntmps82, List.size_toArray, List.length_cons, List.length_nil, Nat.reduceAdd, Nat.reduceSub, Array.replicate_succ, Array.replicate_zero, List.push_toArray, List.append_toArray, List.nil_append, List.cons_append]
  gi_wp2_with (first | (refine ⟨trivial, ?_⟩; gi_at_call 118; refine (callsIn_wide.2 HC.out).mono ?_; rintro e w1 ⟨rfl, hb1⟩; have HB1 := Lib.hid hb1; have ct1 := (show Boxed w1 w.heap.size 26 (.slice A xs.length c) from (hb1.block _ HT.out.lt).trans HT.out).cell; clear hb1) | (refine ⟨trivial, ?_⟩; gi_at_call 168; refine (behindIn _ A xs.length c _).mono ?_; rintro e w' ⟨rfl, rfl⟩))
  have hw1 : w.heap.size + 1 + 1 + 1 ≤ w1.heap.size := by have := HB1.out.size; simpa using this
  have bR1 : Boxed w1 (w.heap.size + 1) 26 (.slice none 0 0) := (HB1.out.block _ HR.out.lt).trans HR.out
  have bK1 : Boxed w1 (w.heap.size + 1 + 1) 2 (.int .i64 0) := (HB1.out.block _ HK.out.lt).trans HK.out
  have hB1 : Below w.heap.size w w1 := btr HB0.out HB1.out
  have hI1 := Lib.hid ((hI0.out.be HB1.out).al (.cells #[.slice A xs.length c] 22))
  have bD := Boxed.new w1 22 (.slice A xs.length c)
  have bR2 := bR1.alloc (.cells #[.slice A xs.length c] 22)
  have bK2 := bK1.alloc (.cells #[.slice A xs.length c] 22)
  have hB2 := bal hB1 (.cells #[.slice A xs.length c] 22)
  obtain ⟨W0, hW0⟩ : ∃ W0, W0 = w1.alloc (.cells #[.slice A xs.length c] 22) := ⟨_, rfl⟩
  obtain ⟨d, hdd⟩ : ∃ d, w1.heap.size = d := ⟨_, rfl⟩
  have hsz : W0.heap.size = d + 1 := by rw [hW0, ← hdd]; simp
  rw [← hW0] at bD bR2 bK2 hB2 hI1 ⊢
  rw [hdd] at bD hw1 ⊢
  clear hW0 bR1 bK1 hB1 HB1 ct1 HC HT HR HK HB0 hI0
  have h15 : 1 ≤ 5 := by omega
  refine wpIn_rangeRows (α := Value) rfl h15 (gf := 194) (lb := #[.pointer (some ⟨d, 0, none⟩)]) rfl trivial (enters_of Try.func194 (by kernel_rfl) rfl)
    (behind_rows 4 (by omega) d (d + 1) A xs c ht hcl (by omega) W0 bD hI1.out (by omega)) (Below.refl _ _) (fun h k => h.t k)
    (fun W r r' h => keepRows_turn h) (fun _ => rfl)
    (fun pre W => pre = [] ∧ Boxed W (w.heap.size + 1) 26 (.slice none 0 0) ∧ Boxed W (w.heap.size + 1 + 1) 2 (.int .i64 0) ∧ Below w.heap.size w W)
    (fun cc _ W => cc = .ret ∧ ∃ ys g c', M.nextF 1 xs = some ys ∧ Boxed W (w.heap.size + 1) 26 (.slice (some ⟨g, 0, none⟩) ys.length c') ∧ Boxed W (w.heap.size + 1 + 1) 2 (.int .i64 0) ∧ Own64 W (d + 1) (.slice (some ⟨g, 0, none⟩) ys.length c') ys ∧ Below w.heap.size w W)
    (fun pre X Y r' ⟨h0, h1, h2, h3⟩ hg hr => ⟨h0, h1.kept hg (fun e => by have := (hr _ e.symm).1; omega), h2.kept hg (fun e => by have := (hr _ e.symm).1; omega), h3.grown hg h3.size (fun k e => by have := (hr _ e).1; omega)⟩)
    (fun cc pre X Y r' ⟨h0, ys, g, c', h1, h2, h3, h4, h5⟩ hg hr => ⟨h0, ys, g, c', h1, h2.kept hg (fun e => by have := (hr _ e.symm).1; omega), h3.kept hg (fun e => by have := (hr _ e.symm).1; omega), row_kept h4 hg hr, h5.grown hg h5.size (fun k e => by have := (hr _ e).1; omega)⟩)
    (RowC.from _ _ _)
    ⟨rfl, bR2, bK2, hB2⟩
    (fun x => { tmps := #[.agg #[.slice A xs.length c], .pointer (some ⟨w.heap.size, 0, none⟩), .pointer (some ⟨w.heap.size + 1, 0, none⟩), .pointer (some ⟨w.heap.size + 1 + 1, 0, none⟩), .int .i64 0, x, .agg #[.slice A xs.length c], .int .i64 0, .int .i64 0, .bool false, undef, undef, .pointer (some ⟨w.heap.size, 0, none⟩), .slice A xs.length c, .func (.func 194) #[] #[.pointer (some ⟨d, 0, none⟩)], x, undef, undef, undef], defers := [] }) ?assign ?body ?done ?stop
  case assign =>
    intro l x W K hK
    gi_wp2
    exact hK
  case body =>
    rintro l pre x W ⟨rfl, h1, h2, h3⟩ ⟨ys, g, c', ha, rfl, _, ho, _⟩
    have ha' : M.nextF 1 xs = some ys := ha
    have c1 := h1.cell
    have f1 := h1.frozen
    have k2 : Boxed (W.setCell ⟨w.heap.size + 1, 0, none⟩ (.slice (some ⟨g, 0, none⟩) ys.length c')) (w.heap.size + 1 + 1) 2 (.int .i64 0) := h2.other (by omega) _
    have c2 := k2.cell
    have f2 := k2.frozen
    clear ha
    gi_wp2
    have k1 : Boxed ((W.setCell ⟨w.heap.size + 1, 0, none⟩ (.slice (some ⟨g, 0, none⟩) ys.length c')).setCell ⟨w.heap.size + 1 + 1, 0, none⟩ (.int .i64 0)) (w.heap.size + 1) 26 (.slice (some ⟨g, 0, none⟩) ys.length c') := (h1.set _).other (by omega) _
    exact ⟨((KeepsOthers.setCell W _ _).trans (KeepsOthers.setCell _ _ _)).from _, rfl, ys, g, c', ha', k1, k2.set _, own_far (own_far ho (by omega) _) (by omega) _, below_setCell (below_setCell h3 (by omega) _) (by omega) _⟩
  case done =>
    rintro D ys W hD hys ⟨rfl, h1, h2, h3⟩ hK
    have hn : M.nextF 1 xs = none := hys
    have c1 := h1.cell
    have f1 := h1.frozen
    have k2 : Boxed (W.setCell ⟨w.heap.size + 1, 0, none⟩ (.slice none 0 0)) (w.heap.size + 1 + 1) 2 (.int .i64 0) := h2.other (by omega) _
    have c2 := k2.cell
    have f2 := k2.frozen
    have HK := Lib.hid hK
    clear hys hK
    gi_wp2
    have k1 : Boxed ((W.setCell ⟨w.heap.size + 1, 0, none⟩ (.slice none 0 0)).setCell ⟨w.heap.size + 1 + 1, 0, none⟩ (.int .i64 4)) (w.heap.size + 1) 26 (.slice none 0 0) := (h1.set _).other (by omega) _
    have k3 := k2.set (.int .i64 4)
    have hKD : ((W.setCell ⟨w.heap.size + 1, 0, none⟩ (.slice none 0 0)).setCell ⟨w.heap.size + 1 + 1, 0, none⟩ (.int .i64 4)).heap[D]? = some (.deferred (some [])) :=
      (Below.heap_setCell _ ⟨w.heap.size + 1 + 1, 0, none⟩ _ D (show D ≠ w.heap.size + 1 + 1 by omega)).trans ((Below.heap_setCell W ⟨w.heap.size + 1, 0, none⟩ _ D (show D ≠ w.heap.size + 1 by omega)).trans HK.out)
    have e1 := (k1.kept (grownBy_putObj' _ D (.deferred none)) (fun e => by injection e with e; omega)).cell
    have e2 := (k3.kept (grownBy_putObj' _ D (.deferred none)) (fun e => by injection e with e; omega)).cell
    refine ⟨by simp, .inl ⟨_, _, rfl, run_takeDeferred hKD, ?_⟩⟩
    refine ⟨.tuple #[.agg #[.slice none 0 0], .int .i64 4], by simp [results, Try.results82, go_sem, e1, e2], ?_⟩
    rw [F_NextTree_none ht.out hn]
    exact ⟨none, 0, rfl, own64_nil _ _, (below_setCell (below_setCell h3 (by omega) _) (by omega) _).trans (belowK_b (w := w) (Nat.le_refl _) _ D _ _ (by omega) hKD rfl rfl)⟩
  case stop =>
    rintro D cc pre W hD _ ⟨rfl, ys, g, c', h1, h2, h3, h4, h5⟩ hK
    have e1 := (h2.kept (grownBy_putObj' W D (.deferred none)) (fun e => by injection e with e; omega)).cell
    have e2 := (h3.kept (grownBy_putObj' W D (.deferred none)) (fun e => by injection e with e; omega)).cell
    gi_wp2
    refine ⟨by simp, .inl ⟨_, _, rfl, run_takeDeferred hK, ?_⟩⟩
    refine ⟨.tuple #[.agg #[.slice (some ⟨g, 0, none⟩) ys.length c'], .int .i64 0], by simp [results, Try.results82, go_sem, e1, e2], ?_⟩
    rw [F_NextTree_some ht.out h1]
    exact ⟨some ⟨g, 0, none⟩, c', rfl, own_mono (ownsRow_putObj h4 _ hK rfl) (by omega), h5.trans (belowK_b (w := w) (Nat.le_refl _) W D _ _ (by omega) hK rfl rfl)⟩

set_option maxRecDepth 100000 in
set_option maxHeartbeats 2000000 in
theorem impl_NextTree : GivesTree 82 F_NextTree := by
  intro A xs c w hx hcc h
  cases ht : M.isTree xs
  · have hI0 := Lib.hid (((h.al (.cells #[.slice A xs.length c] 26)).al (.cells #[.slice none 0 0] 26)).al (.cells #[.int .i64 0] 2))
    have hB0 := Lib.hid (bal (bal (bal (b0 w) (.cells #[.slice A xs.length c] 26)) (.cells #[.slice none 0 0] 26)) (.cells #[.int .i64 0] 2))
    have bR0 := Boxed.new (w.alloc (.cells #[.slice A xs.length c] 26)) 26 (.slice none 0 0)
    have bK0 := Boxed.new ((w.alloc (.cells #[.slice A xs.length c] 26)).alloc (.cells #[.slice none 0 0] 26)) 2 (.int .i64 0)
    simp only [World.size_alloc] at bR0 bK0
    have HR := Lib.hid (bR0.alloc (.cells #[.int .i64 0] 2))
    have HK := Lib.hid bK0
    have hc := codeOf0 A xs c (((w.alloc (.cells #[.slice A xs.length c] 26)).alloc (.cells #[.slice none 0 0] 26)).alloc (.cells #[.int .i64 0] 2)) (by omega) hI0.out 1 (by rw [ht]; rfl)
    have HC := Lib.hid hc
    have hF := F_NextTree_no ht
    rw [hF]
    clear bR0 bK0 hc ht hF h hI0
    go_enter Try.func82, Try.ntmps82
    go_wp2_with fail
    refine HC.out.mono ?_
    rintro e w1 ⟨rfl, hb⟩
    have bR1 : Boxed w1 (w.heap.size + 1) 26 (.slice none 0 0) := (hb.block _ HR.out.lt).trans HR.out
    have bK1 : Boxed w1 (w.heap.size + 1 + 1) 2 (.int .i64 0) := (hb.block _ HK.out.lt).trans HK.out
    have B1 := Lib.hid (btr hB0.out hb)
    have c1 := bR1.cell
    have f1 := bR1.frozen
    have bK2 : Boxed (w1.setCell ⟨w.heap.size + 1, 0, none⟩ (.slice none 0 0)) (w.heap.size + 1 + 1) 2 (.int .i64 0) := bK1.other (by omega) _
    have c2 := bK2.cell
    have f2 := bK2.frozen
    clear hb HC
    go_wp2
    have e1 := ((bR1.set (.slice none 0 0)).other (show w.heap.size + 1 ≠ w.heap.size + 1 + 1 by omega) (.int .i64 1)).cell
    have e2 := (bK2.set (.int .i64 1)).cell
    refine bodyPost_ret (v := .tuple #[.agg #[.slice none 0 0], .int .i64 1]) (by simp [results, Try.results82, go_sem, e1, e2]) rfl ?_
    exact ⟨none, 0, rfl, own64_nil _ _, below_setCell (below_setCell B1.out (by omega) _) (by omega) _⟩
  · exact (callsIn_wide (n := 5)).1 (impl_NextTree_in A xs c w ht hcc.1 hcc.2 h)

set_option maxRecDepth 100000 in
set_option maxHeartbeats 4000000 in
theorem spec_NextTree : GivesTree 81 F_NextTree := by
  intro A xs c w hx hcc h
  obtain ⟨W, hW⟩ : ∃ W, (w.alloc (.cells #[.slice A xs.length c] 26)).alloc (.cells #[.slice none 0 0] 26) = W := ⟨_, rfl⟩
  have hWs : W.heap.size = w.heap.size + 1 + 1 := by rw [← hW]; simp
  have C1 : Hid (W.cell? ⟨w.heap.size, 0, none⟩ = some (.slice A xs.length c)) := by rw [← hW]; exact cell_al (by simp) _
  have R : Hid (Boxed W (w.heap.size + 1) 26 (.slice none 0 0)) := by
    rw [← hW]
    have := Boxed.new (w.alloc (.cells #[.slice A xs.length c] 26)) 26 (.slice none 0 0)
    simpa [Hid] using this
  have BW : Hid (Below w.heap.size w W) := by rw [← hW]; exact bal (bal (b0 w) _) _
  have I1 : Hid (Ints W W.heap.size A xs) := by rw [← hW]; exact (h.al _).al _
  have hc := Lib.hid (specIs A xs c W (by omega) I1.out)
  have hct := C1.out
  cases ht : M.isTree xs
  · rw [ht] at hc
    have hF := F_NextTree_no ht
    rw [hF]
    clear ht hF h
    go_enter Try.func81, Try.ntmps81
    go_wp2_with fail
    refine hc.out.mono ?_
    rintro e w1 ⟨rfl, hb⟩
    have bR1 : Boxed w1 (w.heap.size + 1) 26 (.slice none 0 0) := (hb.block _ R.out.lt).trans R.out
    have B1 := Lib.hid (btr BW.out hb)
    have c1 := bR1.cell
    have f1 := bR1.frozen
    clear hb hc hct
    go_wp2
    have e1 := (bR1.set (.slice none 0 0)).cell
    refine bodyPost_ret (v := .tuple #[.agg #[.slice none 0 0], .int .i64 1]) (by simp [results, Try.results81, go_sem, e1]) rfl ?_
    exact ⟨none, 0, rfl, own64_nil _ _, below_setCell B1.out (by omega) _⟩
  · rw [ht] at hc
    have Ht := Lib.hid ht
    have hl := M.tree_len ht
    have hnu0 := M.next_un ht
    have hrl := M.rankTo_le ht xs.length (Nat.le_refl _)
    obtain ⟨rk, hrk⟩ : ∃ rk, Hid (M.rankTo xs xs.length = rk) := ⟨_, rfl⟩
    rw [hrk.out] at hnu0 hrl
    obtain ⟨U, hU⟩ : ∃ U, Hid (M.unTree xs.length (rk + 1) = U) := ⟨_, rfl⟩
    obtain ⟨bb, hbb⟩ : ∃ b, Hid (decide (rk + 1 < M.L xs.length 1) = b) := ⟨_, rfl⟩
    rw [hU.out, hbb.out] at hnu0
    have Hnu := Lib.hid hnu0
    clear hnu0
    have hrk2 : (rk : Int) + 1 = ((rk + 1 : Nat) : Int) := by omega
    have HN : Hid (∀ W', Hid (Below W.heap.size W W') → Calls Try.prog 132 #[.agg #[.slice A xs.length c]] W' fun e w' => e = .returned (.int .i64 (xs.length : Int)) ∧ Hid (Below W.heap.size W w') ∧ Hid (Below W'.heap.size W' w')) := fun W' hW' => (l01N A xs.length c W').mono fun e w' ⟨he, hb⟩ => ⟨he, btr hW'.out hb, hb⟩
    have HRk : Hid (∀ W', Hid (Below W.heap.size W W') → Calls Try.prog 167 #[.agg #[.slice A xs.length c]] W' fun e w' => e = .returned (.int .i64 (rk : Int)) ∧ Hid (Below W.heap.size W w') ∧ Hid (Below W'.heap.size W' w')) := fun W' hW' => by
      have := l02Rank A xs c W' Ht (I1.out.be hW'.out)
      rw [hrk.out] at this
      exact this.mono fun e w' ⟨he, hb⟩ => ⟨he, btr hW'.out hb, hb⟩
    have HTr : Hid (∀ W', Hid (Below W.heap.size W W') → Calls Try.prog 166 #[.int .i64 (xs.length : Int), .int .i64 ((rk : Int) + 1)] W' fun e w' => ∃ A' c', e = .returned (.tuple #[.agg #[.slice A' U.length c'], .bool bb]) ∧ Hid (Own64 w' W'.heap.size (.slice A' U.length c') U) ∧ Hid (Below W.heap.size W w') ∧ Hid (Below W'.heap.size W' w')) := fun W' hW' => by
      have := l02Tree xs.length (rk + 1) W' hl.1 hl.2 (by omega)
      rw [hU.out, hbb.out, ← hrk2] at this
      exact this.mono fun e w' ⟨A', c', he, ho, hb⟩ => ⟨A', c', he, ho, btr hW'.out hb, hb⟩
    clear ht h hrk2
    go_enter Try.func81, Try.ntmps81
    go_wp2_with fail
    refine hc.out.mono ?_
    rintro e w1 ⟨rfl, hb⟩
    have B := Lib.hid hb
    clear hb hc hct
    go_upto_region 3 with fail
    go_cut [4, 5] (fun s4 s5 wx => ∃ (gB c' : Nat) (A' : Option Addr), s4 = .pointer (some ⟨gB, 0, none⟩) ∧ s5 = .bool bb ∧ W.heap.size ≤ gB ∧ Hid (wx.cell? ⟨gB, 0, none⟩ = some (.slice A' U.length c')) ∧ Hid (Own64 wx W.heap.size (.slice A' U.length c') U) ∧ Hid (Below W.heap.size W wx))
    case first =>
      have K0 : Hid (Below W.heap.size W w1.drew) := B.out.drew
      have HC : Hid (∀ W', Hid (Below W.heap.size W W') → W'.cell? ⟨w.heap.size, 0, none⟩ = some (.slice A xs.length c)) := fun W' hW' => cell_be C1.out hW'.out
      have HKa : Hid (∀ W' o, Hid (Below W.heap.size W W') → (W'.alloc o).cell? ⟨w.heap.size, 0, none⟩ = some (.slice A xs.length c) ∧ Hid (Below W.heap.size W (W'.alloc o))) := fun W' o hW' => ⟨cell_al (cell_be C1.out hW'.out) _, bal hW'.out _⟩
      have HKs : Hid (∀ W' g u, Hid (Below W.heap.size W W') → W.heap.size ≤ g → (W'.setCell ⟨g, 0, none⟩ u).cell? ⟨w.heap.size, 0, none⟩ = some (.slice A xs.length c) ∧ Hid (Below W.heap.size W (W'.setCell ⟨g, 0, none⟩ u))) := fun W' g u hW' hg => ⟨cell_be C1.out (below_setCell hW'.out hg u), below_setCell hW'.out hg u⟩
      have hwr : IntKind.i64.wrap ((rk : Int) + 1) = (rk : Int) + 1 := IntWalk.i64_in _ (by omega)
      have c10 := HC.out _ K0
      have ne1 := World.new_ne _ _ c10
      go_region_held3 (fun w' => w'.cell? ⟨w.heap.size, 0, none⟩ = some (.slice A xs.length c) ∧ Hid (Below W.heap.size W w')) (first | exact ⟨c10, K0⟩ | exact ⟨HC.out _ (by assumption), by assumption⟩ | exact HKa.out _ _ (by assumption) | exact HKs.out _ _ _ (by assumption) (by first | exact hb9.out.size | exact hb8.out.size | exact hb7.out.size | exact K0.out.size)) (first | (go_at_call 132; refine (HN.out _ (by first | assumption | exact bal (Hid.out (by assumption)) _)).mono ?_; rintro e w7 ⟨rfl, hb7, hc7⟩; have c17 := HC.out _ hb7; have ne17 := World.new_ne _ _ c17; first | (have kb7 := Lib.hid (boxNewD hc7.out)) | (have kb7 := Lib.hid (boxNew hc7.out)) | skip) | (go_at_call 167; refine (HRk.out _ (by first | assumption | exact bal (Hid.out (by assumption)) _)).mono ?_; rintro e w8 ⟨rfl, hb8, hc8⟩; have c18 := HC.out _ hb8; have ne18 := World.new_ne _ _ c18; first | (have kb8 := Lib.hid (boxNew hc8.out)) | (have kb8 := Lib.hid (boxKeep kb7.out hc8.out)) | skip) | (go_at_call 166; refine (HTr.out _ (by first | assumption | exact bal (Hid.out (by assumption)) _)).mono ?_; rintro e w9 ⟨A9, c9, rfl, how, hb9, hc9⟩; have c19 := HC.out _ hb9; have ne19 := World.new_ne _ _ c19; first | (have kb9 := Lib.hid (boxNew hc9.out); have kc9 := kb9.out.cell; have kf9 := kb9.out.frozen) | (have kb9 := Lib.hid (boxKeep kb8.out hc9.out); have kc9 := kb9.out.cell; have kf9 := kb9.out.frozen) | skip))
      all_goals (go_wp2_with fail)
      all_goals (go_meet)
      all_goals have z9 := hb9.out.size
      all_goals have z8 := hb8.out.size
      all_goals have z7 := hb7.out.size
      all_goals have z2 : W.heap.size ≤ w1.heap.size := K0.out.size
      all_goals have z98 := hc9.out.size
      all_goals have z87 := hc8.out.size
      all_goals try simp only [World.size_alloc] at z98
      all_goals try simp only [World.size_alloc] at z87
      all_goals try (have z72 := (show (w1.alloc (.cells #[.slice none 0 0] 26)).heap.size ≤ w7.heap.size from hc7.out.size); rw [World.size_alloc] at z72)
      all_goals first
        | exact ⟨w9.heap.size, c9, A9, rfl, rfl, z9, (Boxed.new _ _ _).cell, own_mono (how.out.alloc _) (by first | omega | (simp only [World.size_alloc]; omega)), bal hb9.out _⟩
        | exact ⟨_, c9, A9, rfl, rfl, z8, (Boxed.set _ kb9.out).cell, own_mono (own_far how.out (by first | omega | (simp only [World.size_alloc]; omega)) _) (by first | omega | (simp only [World.size_alloc]; omega)), below_setCell hb9.out z8 _⟩
        | exact ⟨_, c9, A9, rfl, rfl, z7, (Boxed.set _ kb9.out).cell, own_mono (own_far how.out (by first | omega | (simp only [World.size_alloc]; omega)) _) (by first | omega | (simp only [World.size_alloc]; omega)), below_setCell hb9.out z7 _⟩
        | exact ⟨_, c9, A9, rfl, rfl, z2, (Boxed.set _ kb9.out).cell, own_mono (own_far how.out (by first | omega | (simp only [World.size_alloc]; omega)) _) (by first | omega | (simp only [World.size_alloc]; omega)), below_setCell hb9.out z2 _⟩
    case rest =>
      obtain ⟨gB, cU, AU, rfl, rfl, hgB, cU', oU, Bx⟩ := hcut
      have bR1 : Boxed wc (w.heap.size + 1) 26 (.slice none 0 0) := (Bx.out.block _ R.out.lt).trans R.out
      have BF := Lib.hid (btr BW.out Bx.out)
      have c1 := bR1.cell
      have f1 := bR1.frozen
      have cU1 := cU'.out
      clear HN HRk HTr hrl B
      have hnu := Hnu.out
      clear Hnu
      cases hn : M.nextF 1 xs with
      | none =>
        rw [hn] at hnu
        obtain ⟨e1, e2⟩ := hnu
        simp only [Option.isSome_none] at e2
        subst e2
        have hF := Lib.hid (F_NextTree_none Ht.out hn)
        clear hn e1
        go_wp2
        have e1 := (bR1.set (.slice none 0 0)).cell
        refine bodyPost_ret (v := .tuple #[.agg #[.slice none 0 0], .int .i64 4]) (by simp [results, Try.results81, go_sem, e1]) rfl ?_
        rw [hF.out]
        exact ⟨none, 0, rfl, own64_nil _ _, below_setCell BF.out (by omega) _⟩
      | some ys =>
        rw [hn] at hnu
        obtain ⟨e1, e2⟩ := hnu
        simp only [Option.isSome_some, Option.getD_some] at e1 e2
        subst e2
        subst e1
        have hF := Lib.hid (F_NextTree_some Ht.out hn)
        clear hn
        go_wp2
        have e1 := (bR1.set (.slice AU U.length cU)).cell
        refine bodyPost_ret (v := .tuple #[.agg #[.slice AU U.length cU], .int .i64 0]) (by simp [results, Try.results81, go_sem, e1]) rfl ?_
        rw [hF.out]
        exact ⟨AU, cU, rfl, own_mono (own_far oU.out (by omega) _) (by omega), below_setCell BF.out (by omega) _⟩
end Go.Proofs.Ytimjcdjeeocffaa
