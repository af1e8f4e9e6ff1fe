/- depthsIn: the program's row of depths: a range over a function inside a loop. -/
import Derived.Test.YtamnilpmdccgoaaParentsIn
import Derived.Test.YtamnilpmdccgoaaDep
import Derived.Shelf.RegionOpen
import Derived.Outline
namespace Go.Proofs.Ytamnilpmdccgoaa
open Go.RowKit Go.Shelf
attribute [local go_sem] Oper.semAt_some

set_option maxRecDepth 100000 in
set_option maxHeartbeats 4000000 in
theorem depthsIn_in (A : Option Addr) (xs : List Int) (c : Nat) (w : World) (hcl : xs.length ≤ c) (hcu : c ≤ 1000000000000) (ht : Hid (M.isTree xs = true)) (hI : Ints w w.heap.size A xs) :
    CallsIn Fence.wide 5 Try.prog 87 #[.slice A xs.length c] w fun e w' => ∃ A' c' ps, e = .returned (.slice A' xs.length c') ∧ Hid (M.DepsOK xs ps) ∧ Own64 w' w.heap.size (.slice A' xs.length c') ps ∧ Below w.heap.size w w' := by
  have hlen := M.tree_len ht.out
  have hx := hlen.2
  have hpos : 0 < xs.length := by omega
  have hmk := run_make_row' (P := Try.prog) 22 2 (.int .i64 0) 8 Try.underlying22 info64 rfl .i64 .i64 xs.length (by omega) (by omega)
  have Hstart := Lib.hid (own64_made (w := w) (B := w.heap.size) (n := xs.length) (Nat.le_refl _) (by unfold maxLen; omega))
  have hp0 := Lib.hid (M.partD_start ht.out)
  have bR := Lib.hid (Boxed.new (w.alloc (.cells (madeCells #[.int .i64 0] xs.length) 2)) 22 (.slice (some ⟨w.heap.size, 0, none⟩) xs.length xs.length))
  have hB0 := Lib.hid (bal (bal (b0 w) (.cells (madeCells #[.int .i64 0] xs.length) 2)) (.cells #[.slice (some ⟨w.heap.size, 0, none⟩) xs.length xs.length] 22))
  refine callsIn_of_wp_marks Try.func87 rfl trivial ?_ rfl
  simp only [Try.ntmps87, List.size_toArray, List.length_cons, List.length_nil, Nat.reduceAdd, Nat.reduceSub, Array.replicate_succ, Array.replicate_zero, List.push_toArray, List.append_toArray, List.nil_append, List.cons_append]
  gi_wp2
  clear hmk
  refine wpIn_loop (fun a' wr => ∃ (k : Nat) (ps : List Int) (u4 u13 u14 u15 u16 u17 u28 : Value) (ds : List Deferred), (k ≤ xs.length ∧ Hid (M.PartD xs k 0 ps) ∧ Hid (∀ y ∈ ps, 0 ≤ y ∧ y ≤ 100 * (k : Int)) ∧ Hid (Own64 wr w.heap.size (.slice (some ⟨w.heap.size, 0, none⟩) xs.length xs.length) ps) ∧
      Hid (Boxed wr (w.heap.size + 1) 22 (.slice (some ⟨w.heap.size, 0, none⟩) xs.length xs.length)) ∧ Hid (Below w.heap.size w wr) ∧ Hid (Marks (w.heap.size + 2) wr wr.heap.size ds)) ∧
      a' = { tmps := #[.slice A xs.length c, undef, .slice none 0 0, .pointer (some ⟨w.heap.size + 1, 0, none⟩), u4, undef, undef, .slice A xs.length c, .int .i64 xs.length, .slice (some ⟨w.heap.size, 0, none⟩) xs.length xs.length, .slice A xs.length c, .int .i64 xs.length, .int .i64 k, u13, u14, u15, u16, u17, undef, undef, undef, undef, undef, undef, undef, undef, undef, undef, u28, undef], defers := ds })
    (fun a' _ => xs.length - (intOf (a'.tmps.getD 12 undef)).toNat) ?_ ?_
  · exact ⟨0, _, _, _, _, _, _, _, _, [], ⟨Nat.zero_le _, hp0, (by intro y hy; have := List.eq_of_mem_replicate hy; subst this; simp), own_be Hstart.out ((Below.refl _ _).alloc (Nat.le_refl _) _), Lib.hid (by simpa using bR.out), hB0, trivial⟩, rfl⟩
  · rintro _ wr ⟨k, ps, u4, u13, u14, u15, u16, u17, u28, ds, ⟨hk, hp, hbd, ho, hbx, hbr, hmks⟩, rfl⟩
    clear hp0 Hstart bR hB0
    by_cases hlt : k < xs.length
    · obtain ⟨d, hd, hd2⟩ := M.tree_degN ht.out hlt
      have Hd := Lib.hid hd
      gi_wp2_with (refine ⟨trivial, ?_⟩; gi_at_call 130; refine (eachIn 4 A xs.length c k _).mono ?_; rintro e w' ⟨rfl, rfl⟩)
      have bV := Boxed.new wr 2 (.int .i64 k)
      have bD := Boxed.new (wr.alloc (.cells #[.int .i64 k] 2)) 22 (.slice A xs.length c)
      have bW := Boxed.new ((wr.alloc (.cells #[.int .i64 k] 2)).alloc (.cells #[.slice A xs.length c] 22)) 2 (.int .i64 k)
      simp only [World.size_alloc] at bD bW
      have hz1 := hbr.out.size
      have hz2 := hbx.out.lt
      have hB0 := bal (bal (bal hbr.out (.cells #[.int .i64 k] 2)) (.cells #[.slice A xs.length c] 22)) (.cells #[.int .i64 k] 2)
      have hKb := KeepK.b (n₀ := w.heap.size) (Bd := wr.heap.size + 1) (w := ((wr.alloc (.cells #[.int .i64 k] 2)).alloc (.cells #[.slice A xs.length c] 22)).alloc (.cells #[.int .i64 k] 2)) (by simp; omega) (by simp)
      have h15 : 1 ≤ 5 := by omega
      have hK : ∀ x, kidOr xs k d x < xs.length := fun x => by
        unfold kidOr
        split
        · exact M.kid_lt ht.out Hd.out (by omega)
        · exact hlt
      refine wpIn_rangeFunc_ownG (α := Nat) rfl h15 (gf := 158) (lb := #[.pointer (some ⟨wr.heap.size + 2, 0, none⟩), .pointer (some ⟨wr.heap.size + 1, 0, none⟩)]) rfl trivial (enters_of Try.func158 (by kernel_rfl) rfl)
        (each_stopsF (fun i => i) (fun x => #[.int .i64 (x : Int), .int .i64 (kidOr xs k d x : Int)]) 4 (by omega) (wr.heap.size + 2) (wr.heap.size + 1) w.heap.size A xs c k d hx hcl (by omega) ht Hd (fun i hi => by simp [kidOr, hi]) _ bW.cell (bD.alloc _) (hI.below hB0 (Nat.le_refl _)) (by simp; omega)) (fun h k => h.t k) hKb (Below.refl _ _) (fun _ => rfl)
        (fun pre W => ∃ ps, (ps.length = xs.length ∧ (∀ y ∈ ps, 0 ≤ y ∧ y ≤ 100 * (k : Int) + pre.length) ∧ (pre = List.range pre.length → pre.length ≤ d → M.PartD xs k pre.length ps)) ∧ Own64 W w.heap.size (.slice (some ⟨w.heap.size, 0, none⟩) xs.length xs.length) ps ∧
          Boxed W (w.heap.size + 1) 22 (.slice (some ⟨w.heap.size, 0, none⟩) xs.length xs.length) ∧ Boxed W wr.heap.size 2 (.int .i64 k) ∧ Below w.heap.size w W ∧ Marks (w.heap.size + 2) W wr.heap.size ds)
        (fun _ _ _ => False)
        (fun s X Y row hs hg hr => by
          obtain ⟨ps, h1, h2, h3, h4, h5, h6⟩ := hs
          have hne : ∀ r, row = some r → wr.heap.size + 3 ≤ r := fun r e => by have := (hr r e).1; simp at this; omega
          exact ⟨ps, h1, h2.kept hg (.inr fun e => by have := hne w.heap.size e.symm; omega), h3.kept hg (fun e => by have := hne _ e.symm; omega), h4.kept hg (fun e => by have := hne _ e.symm; omega), h5.grown hg h5.size (fun r e => by have := hne _ e; omega),
            h6.keep fun D _ hD hD3 => hg.block D (Array.getElem?_eq_some_iff.1 hD3).1 (fun e => by have := hne _ e.symm; omega)⟩)
        (fun _ _ _ _ _ hs _ _ => hs)
        ⟨ps, ⟨hp.out.1, (fun y hy => by have := hbd.out y hy; simp; omega), fun _ _ => hp.out⟩, ((ho.out.alloc _).alloc _).alloc _, ((hbx.out.alloc _).alloc _).alloc _, (bV.alloc _).alloc _, hB0, hmks.out.keep fun D _ hD hD3 => by
          have h1 := Below.heap_alloc wr (.cells #[.int .i64 k] 2) D hD
          have h2 := Below.heap_alloc (wr.alloc (.cells #[.int .i64 k] 2)) (.cells #[.slice A xs.length c] 22) D (by simp; omega)
          have h3 := Below.heap_alloc ((wr.alloc (.cells #[.int .i64 k] 2)).alloc (.cells #[.slice A xs.length c] 22)) (.cells #[.int .i64 k] 2) D (by simp; omega)
          exact h3.trans (h2.trans h1)⟩
        (fun x => { tmps := #[.slice A xs.length c, undef, .slice none 0 0, .pointer (some ⟨w.heap.size + 1, 0, none⟩), .pointer (some ⟨wr.heap.size, 0, none⟩), undef, .int .i64 (kidOr xs k d x : Int), .slice A xs.length c, .int .i64 xs.length, .slice (some ⟨w.heap.size, 0, none⟩) xs.length xs.length, .slice A xs.length c, .int .i64 xs.length, .int .i64 k, .bool true, .int .i64 k, .slice A xs.length c, .int .i64 k, .func (.func 158) #[] #[.pointer (some ⟨wr.heap.size + 2, 0, none⟩), .pointer (some ⟨wr.heap.size + 1, 0, none⟩)], .int .i64 (x : Int), .int .i64 (kidOr xs k d x : Int), undef, undef, undef, undef, undef, undef, undef, undef, u28, undef], defers := [] }) ?assign ?body ?done ?stop
      case assign =>
        intro l x W K hK
        gi_wp2
        exact hK
      case body =>
        rintro l pre x W ⟨ps, ⟨hl, hbd, hpp⟩, h2, h3, h4, h5, h6⟩ hpl
        have hkx := hK x
        have c3 := h3.cell
        have c4 := h4.cell
        obtain ⟨c1, c2, _, _⟩ := own64_cell h2 hl (k := kidOr xs k d x) (x := ps[kidOr xs k d x]'(by omega)) (List.getElem?_eq_getElem (by omega))
        have hy : ps[k]? = some ps[k] := List.getElem?_eq_getElem (by omega)
        have hyb := hbd _ (List.mem_of_getElem? hy)
        have cy := (own64_cell h2 hl hy).1
        generalize ps[kidOr xs k d x]'(by omega) = z at c1
        generalize ps[k] = y at hy hyb cy
        have hy0 := hyb.1
        have hy1 : y ≤ 10000 := by omega
        have hw : IntKind.i64.wrap (y + 1) = y + 1 := IntWalk.i64_in _ (by omega)
        have hnext : Hid (pre ++ [x] = List.range (pre ++ [x]).length → (pre ++ [x]).length ≤ d → M.PartD xs k (pre ++ [x]).length (ps.set (kidOr xs k d x) (IntKind.i64.wrap (y + 1)))) := fun e hd' => by
          simp only [List.length_append, List.length_cons, List.length_nil, Nat.zero_add] at e hd' ⊢
          rw [List.range_succ] at e
          obtain ⟨e1, e2⟩ := List.append_inj' e rfl
          injection e2 with e2
          have h7 := M.partD_step ht.out (hpp e1 (by omega)) Hd.out (by omega) hy
          have e3 : kidOr xs k d x = M.kidAt xs k pre.length := by rw [e2]; simp only [kidOr]; rw [if_pos (by omega)]
          rw [e3, hw]
          exact h7
        have hbd2 : Hid (∀ z ∈ ps.set (kidOr xs k d x) (IntKind.i64.wrap (y + 1)), 0 ≤ z ∧ z ≤ 100 * (k : Int) + (pre ++ [x]).length) := fun z hz => by
          rw [hw] at hz
          rcases List.mem_or_eq_of_mem_set hz with hz | rfl
          · have := hbd z hz; simp; omega
          · simp; omega
        have hset := Lib.hid (own64_set h2 hl (kidOr xs k d x) (IntKind.i64.wrap (y + 1)))
        have hl2 : Hid ((ps.set (kidOr xs k d x) (IntKind.i64.wrap (y + 1))).length = xs.length) := by show _ = _; simpa using hl
        clear hpp hbd hyb hy
        generalize kidOr xs k d x = C at *
        clear hw
        have k1 : Hid (KeepsFrom (((wr.alloc (.cells #[.int .i64 k] 2)).alloc (.cells #[.slice A xs.length c] 22)).alloc (.cells #[.int .i64 k] 2)).heap.size W (W.setCell ⟨w.heap.size, C, none⟩ (.int .i64 (IntKind.i64.wrap (y + 1)))).drew) := ((KeepsOthers.setCell W _ _).trans (KeepsOthers.drew _)).from _
        have k2 : Hid (KeepK w.heap.size (wr.heap.size + 1) W (W.setCell ⟨w.heap.size, C, none⟩ (.int .i64 (IntKind.i64.wrap (y + 1)))).drew) := ⟨(below_setCell (Below.refl _ _) (Nat.le_refl _) _).drew, heap_setCell_other _ _ _ _ (show wr.heap.size + 1 ≠ w.heap.size by omega)⟩
        have k3 : Hid (Boxed (W.setCell ⟨w.heap.size, C, none⟩ (.int .i64 (IntKind.i64.wrap (y + 1)))).drew (w.heap.size + 1) 22 (.slice (some ⟨w.heap.size, 0, none⟩) xs.length xs.length)) := (heap_setCell_other _ _ _ _ (show w.heap.size + 1 ≠ w.heap.size by omega)).trans h3
        have k4 : Hid (Boxed (W.setCell ⟨w.heap.size, C, none⟩ (.int .i64 (IntKind.i64.wrap (y + 1)))).drew wr.heap.size 2 (.int .i64 k)) := (heap_setCell_other _ _ _ _ (show wr.heap.size ≠ w.heap.size by omega)).trans h4
        have k5 : Hid (Below w.heap.size w (W.setCell ⟨w.heap.size, C, none⟩ (.int .i64 (IntKind.i64.wrap (y + 1)))).drew) := (below_setCell h5 (Nat.le_refl _) _).drew
        have k6 : Hid (Marks (w.heap.size + 2) (W.setCell ⟨w.heap.size, C, none⟩ (.int .i64 (IntKind.i64.wrap (y + 1)))).drew wr.heap.size ds) := h6.keep fun D hD _ _ => heap_setCell_other _ _ _ _ (show D ≠ w.heap.size by omega)
        have k7 : Hid (Own64 (W.setCell ⟨w.heap.size, C, none⟩ (.int .i64 (IntKind.i64.wrap (y + 1)))).drew w.heap.size (.slice (some ⟨w.heap.size, 0, none⟩) xs.length xs.length) (ps.set C (IntKind.i64.wrap (y + 1)))) := hset.out
        clear hset h2 h3 h4 h5 h6
        gi_wp2
        have hmx : Try.prog.follows .mixedOrders = true := by kernel_rfl
        gi_region
        all_goals gi_wp2
        all_goals exact ⟨k1.out, k2.out, _, ⟨hl2.out, hbd2.out, hnext.out⟩, k7.out, k3.out, k4.out, k5.out, k6.out⟩
      case done =>
        rintro D ys W hD rfl ⟨ps, ⟨hl, hbd2, hpp⟩, h2, h3, h4, h5, h6⟩ hKd
        have hnx0 := hpp (by simp) (by simp)
        simp only [List.length_map, List.length_range] at hnx0
        have hnx := Lib.hid (M.partD_next hnx0 Hd.out)
        have hb3 : Hid (∀ y ∈ ps, 0 ≤ y ∧ y ≤ 100 * ((k + 1 : Nat) : Int)) := fun y hy => by have := hbd2 y hy; simp only [List.length_map, List.length_range] at this; omega
        clear hnx0 hpp hbd2
        have hDl := (Array.getElem?_eq_some_iff.1 hKd).1
        simp at hD
        gi_wp2
        refine ⟨⟨k + 1, ps, _, _, _, _, _, _, _, { target := .collected D, args := #[] } :: ds, ⟨by omega, hnx, hb3, h2, h3, h5, (show Marks _ _ _ _ from ⟨D, rfl, hDl, by omega, hKd, h6.mono (by omega)⟩)⟩, rfl⟩, ?_⟩
        simp [intOf]
        omega
      case stop =>
        rintro D c pre W _ _ h _
        exact h.elim
    · obtain rfl : k = xs.length := by omega
      have hok := Lib.hid (M.partD_done ht.out hp.out)
      have hc := hbx.out.cell
      clear hp
      gi_wp2
      refine leaves_marks (B := w.heap.size + 2) (fun W => Own64 W w.heap.size (.slice (some ⟨w.heap.size, 0, none⟩) xs.length xs.length) ps ∧ Below w.heap.size w W) (fun W D hD h3 h => ⟨ownsRow_putObj h.1 _ h3 rfl, h.2.trans ((Below.refl _ W).grown (grownBy_putObj' W D _) h.2.size (fun k e => by cases e; omega))⟩) (fun W h => ?_) ds _ _ hmks.out ⟨ho.out, hbr.out⟩
      exact ⟨_, results_tmp rfl _ _ _, _, _, ps, rfl, hok, h.1, h.2⟩
end Go.Proofs.Ytamnilpmdccgoaa
