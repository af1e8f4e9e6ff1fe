/- FirstInside, the program's and the model's: the first list by which t is inside u, or a code. -/
import Derived.Test.YtbnnlifpldgcfaaFnCountInside
import Derived.Test.YtbnnlifpldgcfaaClone
import Derived.OneCell
namespace Go.Proofs.Ytbnnlifpldgcfaa
open Go.RowKit Go.Shelf Go.Maps
attribute [local go_sem] Oper.semAt_some

theorem keepsOthers_kept {W W' : World} (h : Below W.heap.size W W') : KeepsOthers W W' := ⟨h.size, fun k _ hk _ => (h.block k (Array.getElem?_eq_some_iff.1 hk).1).trans hk⟩

def firstI : List (List Nat) → List Int × Int
  | [] => ([], 4)
  | l :: _ => (nums l, 0)
theorem firstI_at {V : List (List Nat)} {l : List Nat} (h : V[0]? = some l) : firstI V = (nums l, 0) := by
  cases V with
  | nil => cases h
  | cons a V => injection h with h; subst h; rfl
def F_FirstInside (xs us : List Int) : List Int × Int := if codeI xs us = 0 then firstI (insideLists us xs) else ([], codeI xs us)
theorem F_FirstIn_yes {xs us : List Int} (h : codeI xs us = 0) : F_FirstInside xs us = firstI (insideLists us xs) := if_pos h
theorem F_FirstIn_no {xs us : List Int} (h : codeI xs us ≠ 0) : F_FirstInside xs us = ([], codeI xs us) := if_neg h
/-- two trees to a list, its own, and a code -/
def GivesTTLs (f : Nat) (F : List Int → List Int → List Int × Int) : Prop :=
  ∀ (A B : Option Addr) (xs us : List Int) (c d : Nat) (w : World), xs.length ≤ 1048576 → us.length ≤ 1048576 → xs.length ≤ c ∧ c ≤ 1000000000000 → us.length ≤ d ∧ d ≤ 1000000000000 → Ints w w.heap.size A xs → Ints w w.heap.size B us →
    Calls Try.prog f #[.agg #[.slice A xs.length c], .agg #[.slice B us.length d]] w fun e w' => ∃ A' c', e = .returned (.tuple #[.slice A' (F xs us).1.length c', .int .i64 (F xs us).2]) ∧ Own64 w' w.heap.size (.slice A' (F xs us).1.length c') (F xs us).1 ∧ Below w.heap.size w w'
/-- the same, the list anywhere in memory -/
def GivesTTLi (f : Nat) (F : List Int → List Int → List Int × Int) : Prop :=
  ∀ (A B : Option Addr) (xs us : List Int) (c d : Nat) (w : World), xs.length ≤ 1048576 → us.length ≤ 1048576 → xs.length ≤ c ∧ c ≤ 1000000000000 → us.length ≤ d ∧ d ≤ 1000000000000 → Ints w w.heap.size A xs → Ints w w.heap.size B us →
    Calls Try.prog f #[.agg #[.slice A xs.length c], .agg #[.slice B us.length d]] w fun e w' => ∃ A' c', e = .returned (.tuple #[.slice A' (F xs us).1.length c', .int .i64 (F xs us).2]) ∧ Ints w' w'.heap.size A' (F xs us).1 ∧ Below w.heap.size w w'

set_option maxRecDepth 100000 in
set_option maxHeartbeats 8000000 in
theorem impl_FirstInside_in (A B : Option Addr) (xs us : List Int) (c d : Nat) (w : World) (hc : Hid (xs.length ≤ c ∧ c ≤ 1000000000000)) (hd : Hid (us.length ≤ d ∧ d ≤ 1000000000000)) (hA : Hid (Ints w w.heap.size A xs)) (hB : Hid (Ints w w.heap.size B us)) (hC : Hid (codeI xs us = 0)) :
    CallsIn Fence.wide 5 Try.prog 48 #[.agg #[.slice A xs.length c], .agg #[.slice B us.length d]] w fun e w' => ∃ A' c', e = .returned (.tuple #[.slice A' (firstI (insideLists us xs)).1.length c', .int .i64 (firstI (insideLists us xs)).2]) ∧ Own64 w' w.heap.size (.slice A' (firstI (insideLists us xs)).1.length c') (firstI (insideLists us xs)).1 ∧ Below w.heap.size w w' := by
  obtain ⟨htx, htu, h12⟩ := codeI_zero hC.out
  have Htx := Lib.hid htx
  have Htu := Lib.hid htu
  have hxl := (M.tree_len htx).2
  obtain ⟨X, hX⟩ : ∃ X, X = (w.alloc (.cells #[.slice A xs.length c] 24)).alloc (.cells #[.slice B us.length d] 24) := ⟨_, rfl⟩
  obtain ⟨W, hW⟩ : ∃ W, W = (((w.alloc (.cells #[.slice A xs.length c] 24)).alloc (.cells #[.slice B us.length d] 24)).alloc (.cells #[.slice none 0 0] 22)).alloc (.cells #[.int .i64 0] 2) := ⟨_, rfl⟩
  have hXs : X.heap.size = w.heap.size + 1 + 1 := by subst hX; simp
  have cT : Hid (W.cell? ⟨w.heap.size, 0, none⟩ = some (.slice A xs.length c)) := by subst hW; exact cell_al (cell_al (cell_al (by simp) _) _) _
  have cU : Hid (W.cell? ⟨w.heap.size + 1, 0, none⟩ = some (.slice B us.length d)) := by subst hW; exact cell_al (cell_al (World.cell?_alloc_at _ _ _ _ (by simp)) _) _
  have hBX : Below w.heap.size w X := by subst hX; exact bal (bal (b0 w) _) _
  rw [← hX] at hW
  have hBW : Hid (Below w.heap.size w W) := by subst hW; exact bal (bal hBX _) _
  have bR0 : Hid (Boxed W (w.heap.size + 1 + 1) 22 (.slice none 0 0)) := by
    subst hW
    have := (Boxed.new X 22 (.slice none 0 0)).alloc (.cells #[.int .i64 0] 2)
    rwa [hXs] at this
  have bK0 : Hid (Boxed W (w.heap.size + 1 + 1 + 1) 2 (.int .i64 0)) := by
    subst hW
    have := Boxed.new (X.alloc (.cells #[.slice none 0 0] 22)) 2 (.int .i64 0)
    rwa [World.size_alloc, hXs] at this
  have hcode := codeOfInside A B xs us c d W (by omega) (by omega) (Lib.hid (hA.out.be hBW.out)) (Lib.hid (hB.out.be hBW.out))
  rw [hC.out] at hcode
  have HC := Lib.hid hcode
  have hWs : W.heap.size = w.heap.size + 1 + 1 + 1 + 1 := by subst hW; simp [hXs]
  have HWs := Lib.hid hWs
  rw [hX] at hW
  have HW := Lib.hid hW
  clear hcode hW hC htx htu h12 hBX hXs hX hWs
  refine callsIn_of_wp_marks Try.func48 rfl trivial ?_ rfl
  simp only [Try.ntmps48, List.size_toArray, List.length_cons, List.length_nil, Nat.reduceAdd, Nat.reduceSub, Array.replicate_succ, Array.replicate_zero, List.push_toArray, List.append_toArray, List.nil_append, List.cons_append]
  have cT1 := cT.out
  have cU1 := cU.out
  rw [HW.out] at cT1 cU1
  gi_wp2_with (first | (refine ⟨trivial, ?_⟩; gi_at_call 80; (try rw [← HW.out]); refine (callsIn_wide.2 HC.out).mono ?_; rintro e w1 ⟨rfl, hb1⟩; have hB1 : Hid (Below w.heap.size w w1) := btr hBW.out hb1.out; have cT2 := cell_be cT.out hb1.out; have cU2 := cell_be cU.out hb1.out; have cT3 := cT2; have cU3 := cU2) | (refine ⟨trivial, ?_⟩; gi_at_call 81; refine (insIn _ A B _ c _ d _).mono ?_; rintro e w' ⟨rfl, rfl⟩))
  have hw1 : w.heap.size + 1 + 1 + 1 + 1 ≤ w1.heap.size := by have := hb1.out.size; rw [HWs.out] at this; exact this
  have bR1 : Boxed w1 (w.heap.size + 1 + 1) 22 (.slice none 0 0) := (hb1.out.block _ bR0.out.lt).trans bR0.out
  have bK1 : Boxed w1 (w.heap.size + 1 + 1 + 1) 2 (.int .i64 0) := (hb1.out.block _ bK0.out.lt).trans bK0.out
  have bN0 := Boxed.new w1 22 (.slice A xs.length c)
  have bP := Boxed.new (w1.alloc (.cells #[.slice A xs.length c] 22)) 22 (.slice B us.length d)
  have bN := bN0.alloc (.cells #[.slice B us.length d] 22)
  have bR2 := (bR1.alloc (.cells #[.slice A xs.length c] 22)).alloc (.cells #[.slice B us.length d] 22)
  have bK2 := (bK1.alloc (.cells #[.slice A xs.length c] 22)).alloc (.cells #[.slice B us.length d] 22)
  have hB2 := bal (bal hB1.out (.cells #[.slice A xs.length c] 22)) (.cells #[.slice B us.length d] 22)
  simp only [World.size_alloc] at bP
  obtain ⟨W0, hW0⟩ : ∃ W0, W0 = (w1.alloc (.cells #[.slice A xs.length c] 22)).alloc (.cells #[.slice B us.length d] 22) := ⟨_, rfl⟩
  obtain ⟨D, hdd⟩ : ∃ D, w1.heap.size = D := ⟨_, rfl⟩
  have hsz : W0.heap.size = D + 1 + 1 := by rw [hW0, ← hdd]; simp
  rw [← hW0] at bN bP bR2 bK2 hB2 ⊢
  rw [hdd] at bN bP hw1 ⊢
  have hI1 : Ints W0 (w.heap.size + 1 + 1 + 1) A xs := ((hA.out.below hB2 (Nat.le_refl _))).more (by omega)
  have hI2 : Ints W0 (w.heap.size + 1 + 1 + 1) B us := ((hB.out.below hB2 (Nat.le_refl _))).more (by omega)
  clear hW0 bN0 hb1 cT1 cU1 cT2 cU2 cT3 cU3 HC HW hdd bR0 bK0 bR1 bK1
  have h15 : 1 ≤ 5 := by omega
  refine wpIn_rangeRowsW (α := Value) rfl h15 (gf := 97) (lb := #[.pointer (some ⟨D, 0, none⟩), .pointer (some ⟨D + 1, 0, none⟩)]) rfl trivial (enters_of Try.func97 (by kernel_rfl) rfl)
    (ins_rows 4 (by omega) D (D + 1) (D + 1 + 1) (w.heap.size + 1 + 1 + 1) A B xs us c d Htx Htu hc hd (by omega) (by omega) (by omega) (by omega) (by omega) W0 ⟨bN, bP, hI1, hI2⟩ (by omega)) (Below.refl _ _) (fun h k => h.t k)
    (fun W r r' h => keepD_turn h) (fun _ => rfl)
    (fun pre W => (pre = [] ∧ D + 1 + 1 ≤ W.heap.size) ∧ Boxed W (w.heap.size + 1 + 1) 22 (.slice none 0 0) ∧ Boxed W (w.heap.size + 1 + 1 + 1) 2 (.int .i64 0) ∧ Below w.heap.size w W)
    (fun cc _ W => cc = .ret ∧ ∃ ys A' c', firstI (insideLists us xs) = (ys, 0) ∧ ys.length = xs.length ∧ Boxed W (w.heap.size + 1 + 1) 22 (.slice A' xs.length c') ∧ Boxed W (w.heap.size + 1 + 1 + 1) 2 (.int .i64 0) ∧ Own64 W (D + 1 + 1) (.slice A' xs.length c') ys ∧ Below w.heap.size w W)
    (fun pre X Y r' ⟨h0, h1, h2, h3⟩ hg hr => ⟨⟨h0.1, Nat.le_trans h0.2 hg.size⟩, h1.kept hg (fun e => by have := (hr _ e.symm).1; omega), h2.kept hg (fun e => by have := (hr _ e.symm).1; omega), h3.grown hg h3.size (fun k e => by have := (hr _ e).1; omega)⟩)
    (fun pre X Y g ⟨h0, h1, h2, h3⟩ hg hr => ⟨⟨h0.1, Nat.le_trans h0.2 hg.size⟩, h1.kept hg (fun e => by injection e with e; omega), h2.kept hg (fun e => by injection e with e; omega), h3.grown hg h3.size (fun k e => by injection e with e; omega)⟩)
    (fun cc pre X Y r' ⟨h0, ys, g, c', h1, hl, h2, h3, h4, h5⟩ hg hr => ⟨h0, ys, g, c', h1, hl, h2.kept hg (fun e => by have := (hr _ e.symm).1; omega), h3.kept hg (fun e => by have := (hr _ e.symm).1; omega), keptRow h4 hg hr, h5.grown hg h5.size (fun k e => by have := (hr _ e).1; omega)⟩)
    (RowI.from _ _ _ _)
    ⟨⟨rfl, by omega⟩, bR2, bK2, hB2⟩
    (fun x => { tmps := #[.agg #[.slice A xs.length c], .agg #[.slice B us.length d], .pointer (some ⟨w.heap.size, 0, none⟩), .pointer (some ⟨w.heap.size + 1, 0, none⟩), .pointer (some ⟨w.heap.size + 1 + 1, 0, none⟩), .pointer (some ⟨w.heap.size + 1 + 1 + 1, 0, none⟩), .int .i64 0, x, .agg #[.slice A xs.length c], .agg #[.slice B us.length d], .int .i64 0, .int .i64 0, .bool false, undef, .pointer (some ⟨w.heap.size, 0, none⟩), .slice A xs.length c, .pointer (some ⟨w.heap.size + 1, 0, none⟩), .slice B us.length d, .func (.func 97) #[] #[.pointer (some ⟨D, 0, none⟩), .pointer (some ⟨D + 1, 0, none⟩)], x, undef, undef], defers := [] }) ?assign ?body ?done ?stop
  case assign =>
    intro l x W K hK
    gi_wp2
    simpa using hK
  case body =>
    rintro l pre x W ⟨⟨rfl, hWs⟩, h1, h2, h3⟩ ⟨l', g, c', hk, rfl, ho⟩
    have hfirst := firstI_at hk
    have hul := (own64_len ho).symm
    generalize nums l' = ys at *
    have Hf := Lib.hid hfirst
    have HCl := Lib.hid (clone ⟨g, 0, none⟩ ys xs.length c' W hul (by omega) (ints_of_own64 ho))
    have H1 := Lib.hid h1
    have H2 := Lib.hid h2
    have H3 := Lib.hid h3
    clear hfirst hk h1 h2 h3 ho
    gi_wp2_with fail
    refine ⟨trivial, ?_⟩
    refine (CallsIn.inRound l (callsIn_wide.2 HCl.out)).mono ?_
    rintro e W1 ⟨A1, c1', rfl, ho1, hb1⟩
    have h1 : Boxed W1 (w.heap.size + 1 + 1) 22 (.slice none 0 0) := (hb1.block _ H1.out.lt).trans H1.out
    have c1 := h1.cell
    have f1 := h1.frozen
    have k2 : Boxed (W1.setCell ⟨w.heap.size + 1 + 1, 0, none⟩ (.slice A1 xs.length c1')) (w.heap.size + 1 + 1 + 1) 2 (.int .i64 0) := Boxed.other ((hb1.block _ H2.out.lt).trans H2.out) (by omega) _
    have c2 := k2.cell
    have f2 := k2.frozen
    gi_wp2
    have h1 : Boxed W1 (w.heap.size + 1 + 1) 22 (.slice none 0 0) := (hb1.block _ H1.out.lt).trans H1.out
    have k2' : Boxed (W1.setCell ⟨w.heap.size + 1 + 1, 0, none⟩ (.slice A1 xs.length c1')) (w.heap.size + 1 + 1 + 1) 2 (.int .i64 0) := Boxed.other ((hb1.block _ H2.out.lt).trans H2.out) (by omega) _
    have k1 : Boxed ((W1.setCell ⟨w.heap.size + 1 + 1, 0, none⟩ (.slice A1 xs.length c1')).setCell ⟨w.heap.size + 1 + 1 + 1, 0, none⟩ (.int .i64 0)) (w.heap.size + 1 + 1) 22 (.slice A1 xs.length c1') := (h1.set _).other (by omega) _
    exact ⟨((keepsOthers_kept hb1).trans ((KeepsOthers.setCell W1 _ _).trans (KeepsOthers.setCell _ _ _))).from _, rfl, ys, A1, c1', Hf.out, hul, k1, k2'.set _, own_mono (own_far (own_far ho1 (by omega) _) (by omega) _) hWs, below_setCell (below_setCell (btr H3.out hb1) (by omega) _) (by omega) _⟩
  case done =>
    rintro D' ys W hD hys ⟨⟨rfl, _⟩, h1, h2, h3⟩ hK
    have hf : firstI (insideLists us xs) = ([], 4) := by
      have : (insideLists us xs).length = 0 := hys.symm
      rw [List.eq_nil_of_length_eq_zero this]; rfl
    have c1 := h1.cell
    have f1 := h1.frozen
    have k2 : Boxed (W.setCell ⟨w.heap.size + 1 + 1, 0, none⟩ (.slice none 0 0)) (w.heap.size + 1 + 1 + 1) 2 (.int .i64 0) := h2.other (by omega) _
    have c2 := k2.cell
    have f2 := k2.frozen
    have HK := Lib.hid hK
    have Hf := Lib.hid hf
    clear hys hK hf
    gi_wp2
    have k1 : Boxed ((W.setCell ⟨w.heap.size + 1 + 1, 0, none⟩ (.slice none 0 0)).setCell ⟨w.heap.size + 1 + 1 + 1, 0, none⟩ (.int .i64 4)) (w.heap.size + 1 + 1) 22 (.slice none 0 0) := (h1.set _).other (by omega) _
    have k3 := k2.set (.int .i64 4)
    have hKD : ((W.setCell ⟨w.heap.size + 1 + 1, 0, none⟩ (.slice none 0 0)).setCell ⟨w.heap.size + 1 + 1 + 1, 0, none⟩ (.int .i64 4)).heap[D']? = some (.deferred (some [])) :=
      (Below.heap_setCell _ ⟨w.heap.size + 1 + 1 + 1, 0, none⟩ _ D' (show D' ≠ w.heap.size + 1 + 1 + 1 by omega)).trans ((Below.heap_setCell W ⟨w.heap.size + 1 + 1, 0, none⟩ _ D' (show D' ≠ w.heap.size + 1 + 1 by omega)).trans HK.out)
    have e1 := (k1.kept (grownBy_putObj' _ D' (.deferred none)) (fun e => by injection e with e; omega)).cell
    have e2 := (k3.kept (grownBy_putObj' _ D' (.deferred none)) (fun e => by injection e with e; omega)).cell
    refine ⟨by simp, .inl ⟨_, _, rfl, run_takeDeferred hKD, ?_⟩⟩
    refine ⟨.tuple #[.slice none 0 0, .int .i64 4], by simp [results, Try.results48, go_sem, e1, e2], ?_⟩
    rw [Hf.out]
    exact ⟨none, 0, rfl, own64_nil _ _, (below_setCell (below_setCell h3 (by omega) _) (by omega) _).trans (belowK_b (w := w) (Nat.le_refl _) _ D' _ _ (by omega) hKD rfl rfl)⟩
  case stop =>
    rintro D' cc pre W hD _ ⟨rfl, ys, A1, c', h1, hl, h2, h3, h4, h5⟩ hK
    have e1 := (h2.kept (grownBy_putObj' W D' (.deferred none)) (fun e => by injection e with e; omega)).cell
    have e2 := (h3.kept (grownBy_putObj' W D' (.deferred none)) (fun e => by injection e with e; omega)).cell
    have Hl := Lib.hid hl
    clear hl
    gi_wp2
    refine ⟨by simp, .inl ⟨_, _, rfl, run_takeDeferred hK, ?_⟩⟩
    refine ⟨.tuple #[.slice A1 xs.length c', .int .i64 0], by simp [results, Try.results48, go_sem, e1, e2], ?_⟩
    rw [h1]
    show ∃ A' c2, _ ∧ Own64 _ _ (.slice A' ys.length c2) ys ∧ _
    rw [Hl.out]
    exact ⟨A1, c', rfl, own_mono (ownsRow_putObj h4 _ hK rfl) (by omega), h5.trans (belowK_b (w := w) (Nat.le_refl _) W D' _ _ (by omega) hK rfl rfl)⟩

set_option maxRecDepth 100000 in
set_option maxHeartbeats 2000000 in
theorem impl_FirstInside : GivesTTLs 48 F_FirstInside := by
  intro A B xs us c d w hx hu hcc hdd hA hB
  by_cases h0 : codeI xs us = 0
  · rw [F_FirstIn_yes h0]
    exact (callsIn_wide (n := 5)).1 (impl_FirstInside_in A B xs us c d w hcc hdd hA hB h0)
  · rw [F_FirstIn_no h0]
    obtain ⟨X, hX⟩ : ∃ X, X = (w.alloc (.cells #[.slice A xs.length c] 24)).alloc (.cells #[.slice B us.length d] 24) := ⟨_, rfl⟩
    obtain ⟨W, hW⟩ : ∃ W, W = (((w.alloc (.cells #[.slice A xs.length c] 24)).alloc (.cells #[.slice B us.length d] 24)).alloc (.cells #[.slice none 0 0] 22)).alloc (.cells #[.int .i64 0] 2) := ⟨_, rfl⟩
    have hXs : X.heap.size = w.heap.size + 1 + 1 := by subst hX; simp
    have cT : W.cell? ⟨w.heap.size, 0, none⟩ = some (.slice A xs.length c) := by subst hW; exact cell_al (cell_al (cell_al (by simp) _) _) _
    have cU : W.cell? ⟨w.heap.size + 1, 0, none⟩ = some (.slice B us.length d) := by subst hW; exact cell_al (cell_al (World.cell?_alloc_at _ _ _ _ (by simp)) _) _
    have hBX : Below w.heap.size w X := by subst hX; exact bal (bal (b0 w) _) _
    rw [← hX] at hW
    have hBW : Hid (Below w.heap.size w W) := by subst hW; exact bal (bal hBX _) _
    have bR0 : Hid (Boxed W (w.heap.size + 1 + 1) 22 (.slice none 0 0)) := by
      subst hW
      have := (Boxed.new X 22 (.slice none 0 0)).alloc (.cells #[.int .i64 0] 2)
      rwa [hXs] at this
    have bK0 : Hid (Boxed W (w.heap.size + 1 + 1 + 1) 2 (.int .i64 0)) := by
      subst hW
      have := Boxed.new (X.alloc (.cells #[.slice none 0 0] 22)) 2 (.int .i64 0)
      rwa [World.size_alloc, hXs] at this
    have hcode := codeOfInside A B xs us c d W (by omega) (by omega) (Lib.hid (hA.be hBW.out)) (Lib.hid (hB.be hBW.out))
    rw [hX] at hW
    rw [hW] at cT cU
    generalize codeI xs us = r at *
    have hq : (r != 0) = true := by simp [h0]
    have HC := Lib.hid hcode
    have HW := Lib.hid hW
    clear hcode hW hBX hX hXs h0
    go_enter Try.func48, Try.ntmps48
    go_wp2_with fail
    rw [← HW.out]
    refine HC.out.mono ?_
    rintro e w1 ⟨rfl, hb⟩
    have bR1 : Boxed w1 (w.heap.size + 1 + 1) 22 (.slice none 0 0) := (hb.out.block _ bR0.out.lt).trans bR0.out
    have bK1 : Boxed w1 (w.heap.size + 1 + 1 + 1) 2 (.int .i64 0) := (hb.out.block _ bK0.out.lt).trans bK0.out
    have B1 := Lib.hid (btr hBW.out hb.out)
    have c1 := bR1.cell
    have f1 := bR1.frozen
    have bK2 : Boxed (w1.setCell ⟨w.heap.size + 1 + 1, 0, none⟩ (.slice none 0 0)) (w.heap.size + 1 + 1 + 1) 2 (.int .i64 0) := bK1.other (by omega) _
    have c2 := bK2.cell
    have f2 := bK2.frozen
    clear hb HC
    go_wp2
    have e1 := ((bR1.set (.slice none 0 0)).other (show w.heap.size + 1 + 1 ≠ w.heap.size + 1 + 1 + 1 by omega) (.int .i64 r)).cell
    have e2 := (bK2.set (.int .i64 r)).cell
    refine bodyPost_ret (v := .tuple #[.slice none 0 0, .int .i64 r]) (by simp [results, Try.results48, go_sem, e1, e2]) rfl ?_
    exact ⟨none, 0, rfl, own64_nil _ _, below_setCell (below_setCell B1.out (by omega) _) (by omega) _⟩

set_option maxRecDepth 100000 in
set_option maxHeartbeats 4000000 in
theorem spec_FirstInside : GivesTTLi 47 F_FirstInside := by
  intro A B xs us c d w hx hu hcc hdd hA hB
  obtain ⟨W, hW⟩ : ∃ W, W = (w.alloc (.cells #[.slice A xs.length c] 24)).alloc (.cells #[.slice B us.length d] 24) := ⟨_, rfl⟩
  have cT : Hid (W.cell? ⟨w.heap.size, 0, none⟩ = some (.slice A xs.length c)) := by subst hW; exact cell_al (by simp) _
  have cU : Hid (W.cell? ⟨w.heap.size + 1, 0, none⟩ = some (.slice B us.length d)) := by subst hW; exact World.cell?_alloc_at _ _ _ _ (by simp)
  have hBW : Hid (Below w.heap.size w W) := by subst hW; exact bal (bal (b0 w) _) _
  have HC := Lib.hid (l04Both A B xs us c d W (by omega) (by omega) (Lib.hid (hA.be hBW.out)) (Lib.hid (hB.be hBW.out)))
  have HW := Lib.hid hW
  clear hW
  by_cases h0 : codeI xs us = 0
  · obtain ⟨htx, htu, h12⟩ := codeI_zero h0
    have hxl := (M.tree_len htx).2
    rw [F_FirstIn_yes h0]
    rw [h0] at HC
    have HL := Lib.hid (fun (W' : World) (hb : Below w.heap.size w W') => l04Lists_all us xs (Lib.hid htu) h12 hxl xs.length A B (some ⟨W'.heap.size, 0, none⟩) c d 0 0 [] true (W'.alloc (.cells #[] 2)) (by simp) List.Pairwise.nil (fun x h => by cases h) rfl (Nat.le_refl _) (Lib.hid (fun h => by cases h)) (Lib.hid ((hA.be hb).al _)) (Lib.hid ((hB.be hb).al _)) (Lib.hid (Ints.nil_ _ _ _)))
    have hF : (M.lists us.length xs.length [] (nextOf [])).filter (okIn us xs) = insideLists us xs := rfl
    rw [hF] at HL
    clear hF
    generalize insideLists us xs = F at *
    clear h0 htx htu
    cases F with
    | nil =>
      have hz : ((cntOf true ([] : List (List Nat)) : Nat) : Int) = 0 := rfl
      go_enter Try.func47, Try.ntmps47
      go_wp2_with fail
      rw [← HW.out]
      go_wp2_with fail
      refine HC.out.mono ?_
      rintro e w1 ⟨rfl, hb1⟩
      have hB1 := Lib.hid (btr hBW.out hb1.out)
      have cT2 := cell_be cT.out hb1.out
      have cU2 := cell_be cU.out hb1.out
      go_wp2_with fail
      refine (HL.out w1 hB1.out).mono ?_
      rintro e w2 ⟨A', m', c', rfl, _, hb2⟩
      have hB2 := Lib.hid (btr (bal hB1.out _) hb2.out)
      rw [hz]
      go_wp2
      go_ret2
      exact ⟨none, 0, rfl, Ints.nil_ _ _ _, hB2.out⟩
    | cons l r =>
      have hz : ((cntOf true (l :: r) : Nat) : Int) = 1 := by
        have : cntOf true (l :: r) = 1 := by simp [cntOf]
        rw [this]; rfl
      go_enter Try.func47, Try.ntmps47
      go_wp2_with fail
      rw [← HW.out]
      go_wp2_with fail
      refine HC.out.mono ?_
      rintro e w1 ⟨rfl, hb1⟩
      have hB1 := Lib.hid (btr hBW.out hb1.out)
      have cT2 := cell_be cT.out hb1.out
      have cU2 := cell_be cU.out hb1.out
      go_wp2_with fail
      refine (HL.out w1 hB1.out).mono ?_
      rintro e w2 ⟨A', m', c', rfl, hf, hb2⟩
      have hB2 := Lib.hid (btr (bal hB1.out _) hb2.out)
      obtain ⟨hm, hI⟩ := hf.out l r rfl
      have HI := Lib.hid hI
      have Hm := Lib.hid hm
      clear hm hI hf
      rw [hz]
      go_wp2
      go_ret2
      refine ⟨A', c', ?_, HI.out, hB2.out⟩
      rw [Hm.out, show (firstI (l :: r)).1.length = l.length by simp [firstI, nums]]
      rfl
  · rw [F_FirstIn_no h0]
    generalize codeI xs us = r at *
    have hq : (r != 0) = true := by simp [h0]
    clear h0
    go_enter Try.func47, Try.ntmps47
    go_wp2_with fail
    rw [← HW.out]
    have cT2 := cT.out
    have cU2 := cU.out
    go_wp2_with fail
    refine HC.out.mono ?_
    rintro e w1 ⟨rfl, hb1⟩
    have hB1 := Lib.hid (btr hBW.out hb1.out)
    go_wp2
    go_ret2
    exact ⟨none, 0, rfl, Ints.nil_ _ _ _, hB1.out⟩
end Go.Proofs.Ytbnnlifpldgcfaa
