/- heavyIn and l08Heavy: the heavy children of all nodes. -/
import Derived.Test.YtamnilpmdccgoaaHeavy
import Derived.Test.YtamnilpmdccgoaaParentsIn
import Derived.Test.YtamnilpmdccgoaaEnd
import Derived.Shelf.RegionOpen
import Derived.Deep.RegionHeld3
namespace Go.Proofs.Ytamnilpmdccgoaa
open Go.RowKit Go.Shelf
attribute [local go_sem] Oper.semAt_some

theorem boxed_row {W : World} {B g k : Nat} {t : TypeId} {v : Value} (h : Boxed W B t v) (hne : B ≠ g) (u : Value) : Boxed (W.setCell ⟨g, k, none⟩ u) B t v := (heap_setCell_other _ _ _ _ hne).trans h

namespace M
/-- the program's row: the nodes below k have theirs, node k what y tells, the others 0 -/
def hvRow (xs : List Int) (k : Nat) : List Int := rowOf xs.length fun i => if i < k then hvAt xs i else 0
theorem hvRow_len (xs : List Int) (k : Nat) : (hvRow xs k).length = xs.length := rowOf_len _ _
theorem hvRow_zero (xs : List Int) : hvRow xs 0 = List.replicate xs.length 0 := by
  rw [← rowOf_zero]
  exact rowOf_congr fun i _ => if_neg (by omega)
theorem hvRow_set {xs : List Int} {k : Nat} {y : Int} (hy : hvAt xs k = y) : (hvRow xs k).set k y = hvRow xs (k + 1) := by
  rw [hvRow, rowOf_set]
  refine rowOf_congr fun i _ => ?_
  by_cases e : i = k
  · subst e; rw [if_pos rfl, if_pos (by omega), hy]
  · rw [if_neg e]
    by_cases h : i < k
    · rw [if_pos h, if_pos (by omega)]
    · rw [if_neg h, if_neg (by omega)]
theorem hvRow_end (xs : List Int) : hvRow xs xs.length = heavy xs := rowOf_congr fun _ h => if_pos h
theorem hvRow_at {xs : List Int} (k : Nat) {i : Nat} (h : i < xs.length) : ∃ y, (hvRow xs k)[i]? = some y := ⟨_, rowOf_at _ h⟩
def hvL (xs : List Int) (k : Nat) : List Int := rowOf k (hvAt xs)
theorem hvL_succ {xs : List Int} {k : Nat} {y : Int} (hy : hvAt xs k = y) : hvL xs (k + 1) = hvL xs k ++ [y] := by rw [hvL, rowOf_succ, hy]; rfl
theorem hvL_len (xs : List Int) (k : Nat) : (hvL xs k).length = k := rowOf_len _ _
end M

set_option maxRecDepth 100000 in
set_option maxHeartbeats 8000000 in
theorem heavyIn_in (A : Option Addr) (xs : List Int) (c : Nat) (w : World) (hcl : xs.length ≤ c) (hcu : c ≤ 1000000000000) (ht : Hid (M.isTree xs = true)) (hI : Hid (Ints w w.heap.size A xs)) :
    CallsIn Fence.wide 5 Try.prog 90 #[.slice A xs.length c] w fun e w' => ∃ A' c', e = .returned (.slice A' xs.length c') ∧ Hid (Own64 w' w.heap.size (.slice A' xs.length c') (M.heavy xs)) ∧ Below w.heap.size w w' := by
  have hlen := M.tree_len ht.out
  have hx := hlen.2
  have hpos : 0 < xs.length := by omega
  have hmk := run_make_row' (P := Try.prog) 22 2 (.int .i64 0) 8 Try.underlying22 info64 rfl .i64 .i64 xs.length (by omega) (by omega)
  have Hstart := Lib.hid (own64_made (w := w.alloc (.cells #[.slice A xs.length c] 22)) (B := w.heap.size) (n := xs.length) (by simp) (by unfold maxLen; omega))
  have bG := Lib.hid (((Boxed.new w 22 (.slice A xs.length c)).alloc (.cells (madeCells #[.int .i64 0] xs.length) 2)).alloc (.cells #[.slice (some ⟨w.heap.size + 1, 0, none⟩) xs.length xs.length] 22))
  have bR := Boxed.new ((w.alloc (.cells #[.slice A xs.length c] 22)).alloc (.cells (madeCells #[.int .i64 0] xs.length) 2)) 22 (.slice (some ⟨w.heap.size + 1, 0, none⟩) xs.length xs.length)
  simp only [World.size_alloc] at bR Hstart
  have bR := Lib.hid bR
  have hB0 := Lib.hid (bal (bal (bal (b0 w) (.cells #[.slice A xs.length c] 22)) (.cells (madeCells #[.int .i64 0] xs.length) 2)) (.cells #[.slice (some ⟨w.heap.size + 1, 0, none⟩) xs.length xs.length] 22))
  have HSz : Hid (∀ (C S : Nat) (W : World), Hid (M.span 1 (xs.drop C) = S) → C < xs.length → Hid (Below w.heap.size w W) → Calls Try.prog 80 #[.slice A xs.length c, .int .i64 (C : Int)] W fun e w' => e = .returned (.int .i64 S) ∧ W = w') := fun C S W hS hC hW =>
    sizeAt A xs c C S W hS hx hcl (by omega) (Lib.hid (M.tree_ok ht.out hC)) (hI.out.be hW.out)
  refine callsIn_of_wp_marks Try.func90 rfl trivial ?_ rfl
  simp only [Try.ntmps90, List.size_toArray, List.length_cons, List.length_nil, Nat.reduceAdd, Nat.reduceSub, Array.replicate_succ, Array.replicate_zero, List.push_toArray, List.append_toArray, List.nil_append, List.cons_append]
  gi_wp2
  clear hmk
  refine wpIn_loop (fun a' wr => ∃ (k : Nat) (u4 u5 u15 u16 u17 u18 u19 u20 u21 u22 u36 : Value) (ds : List Deferred), (k ≤ xs.length ∧ Hid (Own64 wr w.heap.size (.slice (some ⟨w.heap.size + 1, 0, none⟩) xs.length xs.length) (M.hvRow xs k)) ∧
      Hid (Boxed wr w.heap.size 22 (.slice A xs.length c)) ∧ Hid (Boxed wr (w.heap.size + 1 + 1) 22 (.slice (some ⟨w.heap.size + 1, 0, none⟩) xs.length xs.length)) ∧ Hid (Below w.heap.size w wr) ∧ Hid (Marks (w.heap.size + 3) wr wr.heap.size ds)) ∧
      a' = { tmps := #[.slice A xs.length c, .pointer (some ⟨w.heap.size, 0, none⟩), .slice none 0 0, .pointer (some ⟨w.heap.size + 1 + 1, 0, none⟩), u4, u5, undef, undef, undef, .slice A xs.length c, .int .i64 xs.length, .slice (some ⟨w.heap.size + 1, 0, none⟩) xs.length xs.length, .slice (some ⟨w.heap.size + 1, 0, none⟩) xs.length xs.length, .int .i64 xs.length, .int .i64 k, u15, u16, u17, u18, u19, u20, u21, u22, undef, undef, undef, undef, undef, undef, undef, undef, undef, undef, undef, undef, undef, u36, undef], defers := ds })
    (fun a' _ => xs.length - (intOf (a'.tmps.getD 14 undef)).toNat) ?_ ?_
  · exact ⟨0, _, _, _, _, _, _, _, _, _, _, _, [], ⟨Nat.zero_le _, by rw [M.hvRow_zero]; exact own_be Hstart.out ((Below.refl _ _).alloc (by simp) _), bG, bR, hB0, trivial⟩, rfl⟩
  · rintro _ wr ⟨k, u4, u5, u15, u16, u17, u18, u19, u20, u21, u22, u36, ds, ⟨hk, ho, hbg, hbx, hbr, hmks⟩, rfl⟩
    clear Hstart bR bG hB0
    by_cases hlt : k < xs.length
    · obtain ⟨d, hd, hd2⟩ := M.tree_degN ht.out hlt
      have Hd := Lib.hid hd
      obtain ⟨y, hy⟩ := M.hvRow_at (xs := xs) k (i := k) hlt
      have hrl : Hid ((M.hvRow xs k).length = xs.length) := M.hvRow_len _ _
      obtain ⟨c1, f1, _, hwr⟩ := own64_cell ho.out hrl.out hy
      have hs1 := Lib.hid (own64_set ho.out hrl.out k (-1))
      have cG := hbg.out.cell
      have cR := hbx.out.cell
      have hkn : (k : Int) < (xs.length : Int) := by omega
      have hk0 : (0 : Int) ≤ (k : Int) := by omega
      clear hy
      have cR1 := cell_al cR (.cells #[.int .i64 k] 3)
      have cG1 := cell_al cG (.cells #[.int .i64 k] 3)
      have hz2 := hbx.out.lt
      have hz0 := hbg.out.lt
      gi_wp2_with (refine ⟨trivial, ?_⟩; gi_at_call 130; refine (eachIn 4 A xs.length c k _).mono ?_; rintro e w' ⟨rfl, rfl⟩)
      obtain ⟨Y, hY⟩ : ∃ Y, Y = wr.setCell ⟨w.heap.size + 1, k, none⟩ (.int .i64 (-1)) := ⟨_, rfl⟩
      have hYs : Y.heap.size = wr.heap.size := by rw [hY]; simp
      have yO := hs1.out
      have yG : Boxed Y w.heap.size 22 (.slice A xs.length c) := by rw [hY]; exact boxed_row hbg.out (by omega) _
      have yR : Boxed Y (w.heap.size + 1 + 1) 22 (.slice (some ⟨w.heap.size + 1, 0, none⟩) xs.length xs.length) := by rw [hY]; exact boxed_row hbx.out (by omega) _
      have yB : Below w.heap.size w Y := by rw [hY]; exact below_setCell hbr.out (by omega) _
      have yM : Marks (w.heap.size + 3) Y wr.heap.size ds := by rw [hY]; exact hmks.out.keep fun D hD _ _ => heap_setCell_other _ _ _ _ (show D ≠ w.heap.size + 1 by omega)
      rw [← hY] at yO ⊢
      have bV := Boxed.new Y 3 (.int .i64 k)
      have bS := Boxed.new (Y.alloc (.cells #[.int .i64 k] 3)) 2 (.int .i64 0)
      have bD := Boxed.new ((Y.alloc (.cells #[.int .i64 k] 3)).alloc (.cells #[.int .i64 0] 2)) 22 (.slice A xs.length c)
      have bW := Boxed.new (((Y.alloc (.cells #[.int .i64 k] 3)).alloc (.cells #[.int .i64 0] 2)).alloc (.cells #[.slice A xs.length c] 22)) 2 (.int .i64 k)
      simp only [World.size_alloc, hYs] at bV bS bD bW
      have hBW := bal (bal (bal (bal yB (.cells #[.int .i64 k] 3)) (.cells #[.int .i64 0] 2)) (.cells #[.slice A xs.length c] 22)) (.cells #[.int .i64 k] 2)
      have bV := ((bV.alloc (.cells #[.int .i64 0] 2)).alloc (.cells #[.slice A xs.length c] 22)).alloc (.cells #[.int .i64 k] 2)
      have bS := (bS.alloc (.cells #[.slice A xs.length c] 22)).alloc (.cells #[.int .i64 k] 2)
      have bD := bD.alloc (.cells #[.int .i64 k] 2)
      have yG := (((yG.alloc (.cells #[.int .i64 k] 3)).alloc (.cells #[.int .i64 0] 2)).alloc (.cells #[.slice A xs.length c] 22)).alloc (.cells #[.int .i64 k] 2)
      have yR := (((yR.alloc (.cells #[.int .i64 k] 3)).alloc (.cells #[.int .i64 0] 2)).alloc (.cells #[.slice A xs.length c] 22)).alloc (.cells #[.int .i64 k] 2)
      have yO := (((yO.alloc (.cells #[.int .i64 k] 3)).alloc (.cells #[.int .i64 0] 2)).alloc (.cells #[.slice A xs.length c] 22)).alloc (.cells #[.int .i64 k] 2)
      have yM : Marks (w.heap.size + 3) ((((Y.alloc (.cells #[.int .i64 k] 3)).alloc (.cells #[.int .i64 0] 2)).alloc (.cells #[.slice A xs.length c] 22)).alloc (.cells #[.int .i64 k] 2)) wr.heap.size ds := yM.keep fun D _ hD hD3 => by
        have h1 := Below.heap_alloc Y (.cells #[.int .i64 k] 3) D (by omega)
        have h2 := Below.heap_alloc (Y.alloc (.cells #[.int .i64 k] 3)) (.cells #[.int .i64 0] 2) D (by simp; omega)
        have h3 := Below.heap_alloc ((Y.alloc (.cells #[.int .i64 k] 3)).alloc (.cells #[.int .i64 0] 2)) (.cells #[.slice A xs.length c] 22) D (by simp; omega)
        have h4 := Below.heap_alloc (((Y.alloc (.cells #[.int .i64 k] 3)).alloc (.cells #[.int .i64 0] 2)).alloc (.cells #[.slice A xs.length c] 22)) (.cells #[.int .i64 k] 2) D (by simp; omega)
        exact h4.trans (h3.trans (h2.trans h1))
      obtain ⟨W0, hW0⟩ : ∃ W0, W0 = ((((Y.alloc (.cells #[.int .i64 k] 3)).alloc (.cells #[.int .i64 0] 2)).alloc (.cells #[.slice A xs.length c] 22)).alloc (.cells #[.int .i64 k] 2)) := ⟨_, rfl⟩
      have hsz : W0.heap.size = wr.heap.size + 1 + 1 + 1 + 1 := by rw [hW0]; simp [hYs]
      rw [← hW0] at bV bS bD bW yG yR yO yM hBW ⊢
      clear hW0 hY cR1 cG1 cR cG c1 f1 ho hbg hbx hbr hmks hs1
      have hz1 := hBW.size
      have hKb := KeepK.b (n₀ := w.heap.size) (Bd := wr.heap.size + 1 + 1) (w := W0) (by omega) (by omega)
      have h15 : 1 ≤ 5 := by omega
      have hK : ∀ x, kidOr xs k d x < xs.length := fun x => by
        unfold kidOr
        split
        · exact M.kid_lt ht.out Hd.out (by omega)
        · exact hlt
      refine wpIn_rangeFunc_ownG (α := Nat) rfl h15 (gf := 158) (lb := #[.pointer (some ⟨wr.heap.size + 1 + 1 + 1, 0, none⟩), .pointer (some ⟨wr.heap.size + 1 + 1, 0, none⟩)]) rfl trivial (enters_of Try.func158 (by kernel_rfl) rfl)
        (each_stopsF (fun i => i) (fun x => #[.int .i64 (x : Int), .int .i64 (kidOr xs k d x : Int)]) 4 (by omega) (wr.heap.size + 1 + 1 + 1) (wr.heap.size + 1 + 1) w.heap.size A xs c k d hx hcl (by omega) ht Hd (fun i hi => by simp [kidOr, hi]) W0 bW.cell bD (hI.out.below hBW (Nat.le_refl _)) (by omega)) (fun h k => h.t k) hKb (Below.refl _ _) (fun _ => rfl)
        (fun pre W => ∃ h s : Int, (0 ≤ s ∧ s ≤ 24 ∧ (pre = List.range pre.length → pre.length ≤ d → M.hvTo xs k pre.length = (h, s))) ∧ Own64 W w.heap.size (.slice (some ⟨w.heap.size + 1, 0, none⟩) xs.length xs.length) ((M.hvRow xs k).set k h) ∧
          Boxed W (w.heap.size + 1 + 1) 22 (.slice (some ⟨w.heap.size + 1, 0, none⟩) xs.length xs.length) ∧ Boxed W w.heap.size 22 (.slice A xs.length c) ∧ Boxed W wr.heap.size 3 (.int .i64 k) ∧ Boxed W (wr.heap.size + 1) 2 (.int .i64 s) ∧ Below w.heap.size w W ∧ Marks (w.heap.size + 3) W wr.heap.size ds)
        (fun _ _ _ => False)
        (fun p X Z row hs hg hr => by
          obtain ⟨h, s, h1, h2, h3, h4, h5, h6, h7, h8⟩ := hs
          have hne : ∀ r, row = some r → wr.heap.size + 4 ≤ r := fun r e => by have := (hr r e).1; omega
          exact ⟨h, s, h1, h2.kept hg (.inr fun e => by have := hne (w.heap.size + 1) e.symm; omega), h3.kept hg (fun e => by have := hne _ e.symm; omega), h4.kept hg (fun e => by have := hne _ e.symm; omega), h5.kept hg (fun e => by have := hne _ e.symm; omega), h6.kept hg (fun e => by have := hne _ e.symm; omega), h7.grown hg h7.size (fun r e => by have := hne _ e; omega),
            h8.keep fun D _ hD hD3 => hg.block D (Array.getElem?_eq_some_iff.1 hD3).1 (fun e => by have := hne _ e.symm; omega)⟩)
        (fun _ _ _ _ _ hs _ _ => hs)
        ⟨-1, 0, ⟨by omega, by omega, fun _ _ => rfl⟩, yO, yR, yG, bV, bS, hBW, yM⟩
        (fun x => { tmps := #[.slice A xs.length c, .pointer (some ⟨w.heap.size, 0, none⟩), .slice none 0 0, .pointer (some ⟨w.heap.size + 1 + 1, 0, none⟩), .pointer (some ⟨wr.heap.size, 0, none⟩), .pointer (some ⟨wr.heap.size + 1, 0, none⟩), undef, .int .i64 (kidOr xs k d x : Int), undef, .slice A xs.length c, .int .i64 xs.length, .slice (some ⟨w.heap.size + 1, 0, none⟩) xs.length xs.length, .slice (some ⟨w.heap.size + 1, 0, none⟩) xs.length xs.length, .int .i64 xs.length, .int .i64 k, .bool true, .int .i64 k, .slice (some ⟨w.heap.size + 1, 0, none⟩) xs.length xs.length, .int .i64 k, .pointer (some ⟨w.heap.size + 1, k, none⟩), .slice A xs.length c, .int .i64 k, .func (.func 158) #[] #[.pointer (some ⟨wr.heap.size + 1 + 1 + 1, 0, none⟩), .pointer (some ⟨wr.heap.size + 1 + 1, 0, none⟩)], .int .i64 (x : Int), .int .i64 (kidOr xs k d x : Int), undef, undef, undef, undef, undef, undef, undef, undef, undef, undef, undef, u36, undef], defers := [] }) ?assign ?body ?done ?stop
      case assign =>
        intro l x W K hK
        gi_wp2
        exact hK
      case body =>
        rintro l pre x W ⟨h, s, ⟨hs0, hs1, hpp⟩, h2, h3, h4, h5, h6, h7, h8⟩ hpl
        have hCl := hK x
        obtain ⟨S, hS⟩ : ∃ S, Hid (M.span 1 (xs.drop (kidOr xs k d x)) = S) := ⟨_, rfl⟩
        have hS2 : S ≤ 24 := by have h1 := M.span_le (xs.drop (kidOr xs k d x)) 1; have h2 := hS.out; simp only [List.length_drop] at h1; omega
        have hnext : Hid (pre ++ [x] = List.range (pre ++ [x]).length → (pre ++ [x]).length ≤ d → (s < (S : Int) → M.hvTo xs k (pre ++ [x]).length = ((kidOr xs k d x : Int), (S : Int))) ∧ (¬ s < (S : Int) → M.hvTo xs k (pre ++ [x]).length = (h, s))) := fun e hd' => by
          simp only [List.length_append, List.length_cons, List.length_nil, Nat.zero_add] at e hd' ⊢
          rw [List.range_succ] at e
          obtain ⟨e1, e2⟩ := List.append_inj' e rfl
          injection e2 with e2
          have e3 : M.kidAt xs k pre.length = kidOr xs k d x := by rw [e2]; simp only [kidOr]; rw [if_pos (by omega)]
          exact ⟨fun hlt => M.hvTo_hit (hpp e1 (by omega)) e3 hS.out hlt, fun hlt => M.hvTo_miss (hpp e1 (by omega)) e3 hS.out hlt⟩
        have HS := Lib.hid (HSz.out (kidOr xs k d x) S W hS hCl h7)
        have hset := Lib.hid (own64_set h2 (by rw [List.length_set]; exact hrl.out) k (kidOr xs k d x : Int))
        obtain ⟨c1, f1, _, hwr2⟩ := own64_cell h2 (by rw [List.length_set]; exact hrl.out) (k := k) (x := h) (List.getElem?_set_self (by rw [hrl.out]; omega))
        have c3 := h3.cell
        have c4 := h4.cell
        have c5 := h5.cell
        have c6 := h6.cell
        have f6 := h6.frozen
        have H2 := Lib.hid h2
        have H3 := Lib.hid h3
        have H4 := Lib.hid h4
        have H5 := Lib.hid h5
        have H6 := Lib.hid h6
        have H7 := Lib.hid h7
        have H8 := Lib.hid h8
        rw [List.set_set] at hset
        generalize kidOr xs k d x = C at *
        clear hS hpp h2 h3 h4 h5 h6 h7 h8
        by_cases hsS : s < (S : Int)
        · have c6b : (W.setCell ⟨w.heap.size + 1, k, none⟩ (.int .i64 (C : Int))).cell? ⟨wr.heap.size + 1, 0, none⟩ = some (.int .i64 s) := (boxed_row (k := k) H6.out (show wr.heap.size + 1 ≠ w.heap.size + 1 by omega) (.int .i64 (C : Int))).cell
          have f6b : (W.setCell ⟨w.heap.size + 1, k, none⟩ (.int .i64 (C : Int))).frozen? ⟨wr.heap.size + 1, 0, none⟩ = false := (boxed_row (k := k) H6.out (show wr.heap.size + 1 ≠ w.heap.size + 1 by omega) (.int .i64 (C : Int))).frozen
          have hn2 := Lib.hid (fun e hd' => (hnext.out e hd').1 hsS)
          clear hnext
          gi_wp2_with (refine ⟨trivial, ?_⟩; gi_at_call 80; refine (CallsIn.inRound l (callsIn_wide.2 HS.out)).mono ?_; rintro e W1 ⟨rfl, rfl⟩)
          have k2 : KeepK w.heap.size (wr.heap.size + 1 + 1) W ((W.setCell ⟨w.heap.size + 1, k, none⟩ (.int .i64 (C : Int))).setCell ⟨wr.heap.size + 1, 0, none⟩ (.int .i64 (S : Int))) := ⟨below_setCell (below_setCell (Below.refl _ _) (by omega) _) (by omega) _, (heap_setCell_other _ _ _ _ (show wr.heap.size + 1 + 1 ≠ wr.heap.size + 1 by omega)).trans (heap_setCell_other _ _ _ _ (show wr.heap.size + 1 + 1 ≠ w.heap.size + 1 by omega))⟩
          refine ⟨((KeepsOthers.setCell W _ _).trans (KeepsOthers.setCell _ _ _)).from _, k2, (C : Int), (S : Int), ⟨by omega, by omega, hn2.out⟩, ownsRow_setCell_other hset.out (a := ⟨wr.heap.size + 1, 0, none⟩) (fun e => by injection e with e; have e' : w.heap.size + 1 = wr.heap.size + 1 := e; omega) _, boxed_row (boxed_row H3.out (by omega) _) (by omega) _, boxed_row (boxed_row H4.out (by omega) _) (by omega) _, boxed_row (boxed_row H5.out (by omega) _) (by omega) _, (boxed_row H6.out (by omega) _).set _, below_setCell (below_setCell H7.out (by omega) _) (by omega) _, H8.out.keep fun D hD hD2 _ => (heap_setCell_other _ _ _ _ (show D ≠ wr.heap.size + 1 by omega)).trans (heap_setCell_other _ _ _ _ (show D ≠ w.heap.size + 1 by omega))⟩
        · have hn2 := Lib.hid (fun e hd' => (hnext.out e hd').2 hsS)
          clear hnext hset
          gi_wp2_with (refine ⟨trivial, ?_⟩; gi_at_call 80; refine (CallsIn.inRound l (callsIn_wide.2 HS.out)).mono ?_; rintro e W1 ⟨rfl, rfl⟩)
          exact ⟨KeepsFrom.refl _ _, ⟨Below.refl _ _, rfl⟩, h, s, ⟨hs0, hs1, hn2.out⟩, H2.out, H3.out, H4.out, H5.out, H6.out, H7.out, H8.out⟩
      case done =>
        rintro D ys W hD rfl ⟨h, s, ⟨hs0, hs1, hpp⟩, h2, h3, h4, h5, h6, h7, h8⟩ hKd
        have hnx0 := hpp (by simp) (by simp)
        simp only [List.length_map, List.length_range] at hnx0
        have he : M.hvAt xs k = h := by rw [M.hvAt_eq Hd.out, hnx0]
        rw [M.hvRow_set he] at h2
        have H2 := Lib.hid h2
        have hDl := (Array.getElem?_eq_some_iff.1 hKd).1
        rw [hsz] at hD
        clear hpp hnx0 he h2
        gi_wp2
        refine ⟨⟨k + 1, _, _, _, _, _, _, _, _, _, _, _, { target := .collected D, args := #[] } :: ds, ⟨by omega, H2, h4, h3, h7, (show Marks _ _ _ _ from ⟨D, rfl, hDl, by omega, hKd, h8.mono (by omega)⟩)⟩, rfl⟩, ?_⟩
        simp [intOf]
        omega
      case stop =>
        rintro D c pre W _ _ h _
        exact h.elim
    · obtain rfl : k = xs.length := by omega
      have hc := hbx.out.cell
      have he : Hid (M.hvRow xs xs.length = M.heavy xs) := M.hvRow_end xs
      rw [he.out] at ho
      gi_wp2
      refine leaves_marks (B := w.heap.size + 3) (fun W => Own64 W w.heap.size (.slice (some ⟨w.heap.size + 1, 0, none⟩) xs.length xs.length) (M.heavy xs) ∧ Below w.heap.size w W) (fun W D hD h3 h => ⟨ownsRow_putObj h.1 _ h3 rfl, h.2.trans ((Below.refl _ W).grown (grownBy_putObj' W D _) h.2.size (fun k e => by cases e; omega))⟩) (fun W h => ?_) ds _ _ hmks.out ⟨ho.out, hbr.out⟩
      exact ⟨_, results_tmp rfl _ _ _, _, _, rfl, h.1, h.2⟩

theorem heavyIn (A : Option Addr) (xs : List Int) (c : Nat) (w : World) (hcl : xs.length ≤ c) (hcu : c ≤ 1000000000000) (ht : Hid (M.isTree xs = true)) (hI : Hid (Ints w w.heap.size A xs)) :
    Calls Try.prog 90 #[.slice A xs.length c] w fun e w' => ∃ A' c', e = .returned (.slice A' xs.length c') ∧ Hid (Own64 w' w.heap.size (.slice A' xs.length c') (M.heavy xs)) ∧ Below w.heap.size w w' :=
  (callsIn_wide (n := 5)).1 (heavyIn_in A xs c w hcl hcu ht hI)

set_option maxHeartbeats 4000000 in
set_option maxRecDepth 100000 in
theorem l08Heavy (A : Option Addr) (xs : List Int) (c : Nat) (w : World) (ht : Hid (M.isTree xs = true)) (h : Hid (Ints w w.heap.size A xs)) :
    Calls Try.prog 89 #[.agg #[.slice A xs.length c]] w fun e w' => ∃ A' c', e = .returned (.slice A' xs.length c') ∧ Hid (Own64 w' w.heap.size (.slice A' xs.length c') (M.heavy xs)) ∧ Below w.heap.size w w' := by
  have hlen := M.tree_len ht.out
  have hx := hlen.2
  have h0 : Hid (Own64 ((w.alloc (.cells #[.slice A xs.length c] 28)).alloc (.cells #[] 2)) (w.heap.size + 1) (.slice (some ⟨w.heap.size + 1, 0, none⟩) 0 0) (M.hvL xs 0)) := by
    have := own64_empty (w := w.alloc (.cells #[.slice A xs.length c] 28)) (B := w.heap.size + 1) (by simp)
    rw [World.size_alloc] at this
    exact this
  have hb0 : Hid (Below w.heap.size w ((w.alloc (.cells #[.slice A xs.length c] 28)).alloc (.cells #[] 2))) := bal (bal (b0 w) _) _
  have hcA : ((w.alloc (.cells #[.slice A xs.length c] 28)).alloc (.cells #[] 2)).cell? ⟨w.heap.size, 0, none⟩ = some (.slice A xs.length c) := cell_al (by simp) _
  have HcA0 := Lib.hid hcA
  clear hcA
  go_enter Try.func89, Try.ntmps89
  go_wp2
  go_loopw [3, 4, 5, 6, 7, 8, 9] (fun q i _ _ _ _ _ wr => ∃ (k : Nat) (A' : Option Addr) (n c' : Nat), k ≤ xs.length ∧ i = .int .i64 k ∧ q = .slice A' n c' ∧ Hid (Own64 wr (w.heap.size + 1) (.slice A' n c') (M.hvL xs k)) ∧ Hid (Below w.heap.size w wr) ∧ Hid (wr.cell? ⟨w.heap.size, 0, none⟩ = some (.slice A xs.length c)) ∧ w.heap.size + 1 ≤ wr.heap.size) (fun _ i _ _ _ _ _ _ => xs.length - (intOf i).toNat)
  case atStart => exact ⟨0, _, _, _, Nat.zero_le _, rfl, rfl, h0, hb0, HcA0, by simp⟩
  case round =>
    obtain ⟨k, A3, n, c3, hk, rfl, rfl, ho, hbr, HcA, hsz⟩ := hrel
    clear h0 hb0 HcA0
    have hnl : n = k := by have h1 := own64_len ho.out; rw [M.hvL_len] at h1; exact h1
    subst hnl
    have hcA := HcA.out
    by_cases hlt : n < xs.length
    · obtain ⟨d, hd, hd2⟩ := M.tree_degN ht.out hlt
      have Hd := Lib.hid hd
      have hkn : (n : Int) < (xs.length : Int) := by omega
      clear hd
      go_wp2_with fail
      refine (l01N A xs.length c _).mono ?_
      rintro e wn ⟨rfl, hb⟩
      have hbn := Lib.hid (btr hbr.out hb)
      have hon := Lib.hid (own_be ho.out hb)
      have HcN := Lib.hid (hb.cell (p := ⟨w.heap.size, 0, none⟩) (by show w.heap.size < _; omega) |>.trans HcA.out)
      have hsn := hb.size
      clear hb hcA
      have hcN := HcN.out
      go_wp2_with fail
      refine (l01Children A xs c n d _ hx ht Hd (h.out.be hbn.out)).mono ?_
      rintro e wk ⟨Ak, ck, rfl, hok, hb⟩
      have hbk := Lib.hid (btr hbn.out hb)
      have hok2 := Lib.hid (own_be hon.out hb)
      have HcK := Lib.hid (hb.cell (p := ⟨w.heap.size, 0, none⟩) (by show w.heap.size < _; omega) |>.trans HcN.out)
      have hsk := hb.size
      have Hk := Lib.hid (ints_of_own64 hok)
      clear hb hok hcN
      have hcK := HcK.out
      have hst : Hid (M.hvTo xs n 0 = (-1, 0)) := rfl
      go_wp2
      clear hcK
      go_loopw [6, 7, 8, 9] (fun qb qs qj _ wr => ∃ (j : Nat) (hh s : Int), j ≤ d ∧ qb = .int .i64 hh ∧ qs = .int .i64 s ∧ qj = .int .i64 (j : Int) ∧ 0 ≤ s ∧ s ≤ 24 ∧ Hid (M.hvTo xs n j = (hh, s)) ∧ Hid (Own64 wr (w.heap.size + 1) (.slice A3 n c3) (M.hvL xs n)) ∧ Hid (Below w.heap.size w wr) ∧ Hid (Below wk.heap.size wk wr)) (fun _ _ qj _ _ => d - (intOf qj).toNat)
      case atStart => exact ⟨0, -1, 0, Nat.zero_le _, rfl, rfl, rfl, by omega, by omega, hst, hok2, hbk, b0 wk⟩
      case round =>
        obtain ⟨j, hh, s, hj, rfl, rfl, rfl, hs0, hs1, hT, ho4, hb4, hbw⟩ := hrel
        clear hst
        have zr := hbw.out.size
        have HcR := Lib.hid (hbw.out.cell (p := ⟨w.heap.size, 0, none⟩) (by show w.heap.size < _; omega) |>.trans HcK.out)
        by_cases hjd : j < d
        · have hkl := M.kid_lt ht.out Hd.out (i := j) (by omega)
          have hok := Lib.hid (M.tree_ok ht.out hkl)
          obtain ⟨kb, ko, cv, rfl, hkb, g, hX⟩ := (Hk.out.be hbw.out).at_ (k := j) (by rw [M.childs_length]; exact hjd)
          have hcv := M.childs_at xs n (k := d) (i := j) hjd
          rw [hX.out] at hcv
          injection hcv with hcv
          obtain ⟨C, hC⟩ : ∃ C, Hid (M.kidAt xs n j = C) := ⟨_, rfl⟩
          rw [hC.out] at hcv hkl hok
          subst hcv
          obtain ⟨S, hS⟩ : ∃ S, Hid (M.span 1 (xs.drop C) = S) := ⟨_, rfl⟩
          have hS2 : S ≤ 24 ∧ C + S ≤ 48 := by have h1 := M.span_le (xs.drop C) 1; have h2 := hS.out; simp only [List.length_drop] at h1; omega
          obtain ⟨E, hE⟩ : ∃ E, Hid (C + M.span 1 (xs.drop C) = E) := ⟨_, rfl⟩
          have hES : (E : Int) - (C : Int) = (S : Int) := by have h1 := hE.out; have h2 := hS.out; omega
          have hhit := Lib.hid (fun hlt => M.hvTo_hit hT.out hC.out hS.out hlt)
          have hmiss := Lib.hid (fun hlt => M.hvTo_miss hT.out hC.out hS.out hlt)
          have hEn : ∀ W, Hid (Below wr.heap.size wr W) → Calls Try.prog 79 #[.agg #[.slice A xs.length c], .int .i64 (C : Int)] W fun e w' => e = .returned (.int .i64 (E : Int)) ∧ Hid (Below wr.heap.size wr w') := fun W hW =>
            (l01End A xs c C E W hE hx hok (h.out.be (hb4.out.trans (hW.out.mono hb4.out.size)))).mono fun e w' ⟨he, hb⟩ => ⟨he, btr hW.out hb⟩
          have HEn := Lib.hid hEn
          have hkeep : ∀ W, Hid (Below wr.heap.size wr W) → W.cell? ⟨w.heap.size, 0, none⟩ = some (.slice A xs.length c) ∧ W.cell? ⟨kb, ko + j, none⟩ = some (.int .i64 (C : Int)) := fun W hW =>
            ⟨(hW.out.cell (p := ⟨w.heap.size, 0, none⟩) (by show w.heap.size < _; omega)).trans HcR.out, (hW.out.cell (p := ⟨kb, ko + j, none⟩) hkb).trans g⟩
          have HKp := Lib.hid hkeep
          have hjd' : (j : Int) < (d : Int) := by omega
          have hj0 : (0 : Int) ≤ (j : Int) := by omega
          have hK0 : Hid (Below wr.heap.size wr wr.drew) := (Below.refl _ _).drew
          have g0 : wr.drew.cell? ⟨kb, ko + j, none⟩ = some (.int .i64 (C : Int)) := g
          have hc0 : wr.drew.cell? ⟨w.heap.size, 0, none⟩ = some (.slice A xs.length c) := HcR.out
          have hwrap : IntKind.i64.wrap ((E : Int) - (C : Int)) = (S : Int) := by rw [hES]; exact IntWalk.i64_in _ (by omega)
          clear hEn hkeep hX hT hC hS hE hES
          go_wp2
          go_region_held3 (fun w' => w'.cell? ⟨w.heap.size, 0, none⟩ = some (.slice A xs.length c) ∧ w'.cell? ⟨kb, ko + j, none⟩ = some (.int .i64 (C : Int)) ∧ Hid (Below wr.heap.size wr w')) (first | exact ⟨hc0, g0, hK0⟩ | exact ⟨(HKp.out _ (by assumption)).1, (HKp.out _ (by assumption)).2, by assumption⟩) (first | (go_at_call 79; refine (HEn.out _ (by assumption)).mono ?_; rintro e w7 ⟨rfl, hb7⟩))
          have g7 := (HKp.out _ hb7).2
          have ho7 := Lib.hid (own_be ho4.out hb7.out)
          have hb8 : Hid (Below w.heap.size w w7) := btr hb4.out hb7.out
          have hb9 : Hid (Below wk.heap.size wk w7) := btr hbw.out hb7.out
          clear HKp HEn g0 hc0 hK0 hwrap
          by_cases hsS : s < (S : Int)
          · have hT2 := Lib.hid (hhit.out (by omega))
            clear hhit hmiss
            go_wp2
            go_roundw
            case rel => exact ⟨j + 1, _, _, by omega, rfl, rfl, by go_num, by omega, by omega, hT2, ho7, hb8, hb9⟩
            case measure => simp [intOf]; omega
          · have hT2 := Lib.hid (hmiss.out (by omega))
            clear hhit hmiss
            go_wp2
            go_roundw
            case rel => exact ⟨j + 1, _, _, by omega, rfl, rfl, by go_num, by omega, by omega, hT2, ho7, hb8, hb9⟩
            case measure => simp [intOf]; omega
        · obtain rfl : j = d := by omega
          have hy : M.hvAt xs n = hh := by rw [M.hvAt_eq Hd.out, hT.out]
          have hs := Lib.hid (M.hvL_succ hy)
          have zr1 : w.heap.size + 1 ≤ wr.heap.size := by omega
          clear hT hy
          go_wp2_with (at_builtin; refine push64 rfl (.tmp 45) (.tmp 47) rfl wr (w.heap.size + 1) A3 n c3 (M.hvL xs n) hh rfl rfl ho4 zr1 (by omega) ?_; intro A5 c5 w5 ho5 hb5)
          have hc5 := (hb5.out.cell (p := ⟨w.heap.size, 0, none⟩) (by show w.heap.size < _; omega)).trans HcR.out
          have hs5 := hb5.out.size
          go_roundw
          case rel => exact ⟨n + 1, A5, n + 1, c5, by omega, by go_num, rfl, own64_eq ho5.out hs.out.symm, hb4.out.trans (hb5.out.mono (by omega)), hc5, by omega⟩
          case measure => simp [intOf]; omega
    · obtain rfl : n = xs.length := by omega
      have hge : ¬ (xs.length : Int) < (xs.length : Int) := by omega
      go_wp2_with fail
      refine (l01N A xs.length c _).mono ?_
      rintro e wn ⟨rfl, hb⟩
      have hbn := Lib.hid (btr hbr.out hb)
      have hon := Lib.hid (own_be ho.out hb)
      clear hb hcA
      go_wp2
      go_ret
      exact ⟨_, _, rfl, own_mono hon.out (by omega), hbn.out⟩
end Go.Proofs.Ytamnilpmdccgoaa
