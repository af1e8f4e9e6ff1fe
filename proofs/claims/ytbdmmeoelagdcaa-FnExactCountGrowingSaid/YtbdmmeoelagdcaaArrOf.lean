/- arrangementOf: a list of at most 24 numbers as an array, filled up with -1. -/
import Derived.Test.YtbdmmeoelagdcaaGrowIn
import Derived.Test.YtbdmmeoelagdcaaRepeat
import Derived.Test.YtbdmmeoelagdcaaConcat
import Derived.StillTailTactics
import Derived.Laws.Cover3
import Derived.Deep.MidRow
namespace Go.Proofs.Ytbdmmeoelagdcaa
open Go.RowKit

namespace M
def arr (l : List Int) : List Int := (l ++ List.replicate 24 (-1)).take 24
theorem arr_len (l : List Int) : (arr l).length = 24 := by simp [arr]
theorem arr_inj {l k : List Int} (h : l.length = k.length) (hl : l.length ≤ 24) : arr l = arr k ↔ l = k := by
  constructor
  · intro e
    have e2 : (arr l).take l.length = (arr k).take k.length := by rw [e, h]
    simpa [arr, List.take_take, Nat.min_eq_left hl, Nat.min_eq_left (h ▸ hl)] using e2
  · intro e; rw [e]
def cat2 (l : List Int) (j : Nat) : List Int := if j = 0 then l else List.replicate 24 (-1)
theorem catTo_cat2 (l : List Int) : catTo (cat2 l) 2 = l ++ List.replicate 24 (-1) := by simp [catTo, cat2]
end M

theorem below_cells' {B b : Nat} {a : World} (hb : B ≤ b) : ∀ (vs : List Value) (o : Nat) {w : World}, Below B a w → Below B a (w.setCells b o vs)
  | [], _, _, h => h
  | v :: r, o, _, h => below_cells' hb r (o + 1) (below_setCell h hb v)
theorem own_repVals' {w : World} {B g : Nat} {x : Int} (hB : B ≤ g) (h : w.heap[g]? = some (.cells (repVals x 24).toArray 2 (0, 0))) : Own64 w B (.slice (some ⟨g, 0, none⟩) 24 24) (List.replicate 24 x) := by
  have e : repVals x 24 = (List.replicate 24 x).map (Value.int .i64) := by rw [repVals, M.repRow_end]
  refine ⟨by simp, .inr ⟨g, 24, _, by simp, hB, h, by simp, by unfold maxLen; omega, ?_, ?_⟩⟩
  · rw [List.size_toArray, repVals_len (by omega)]
  · rw [e]; simp

set_option maxHeartbeats 4000000 in
set_option maxRecDepth 100000 in
theorem arrangementOf (A : Option Addr) (l : List Int) (n c : Nat) (w : World) (hn : n ≤ 24) (hl : Hid (l.length = n)) (hz : Hid (A = none → c = 0)) (h : Ints w w.heap.size A l) :
    Calls Try.prog 173 #[.slice A n c] w fun e w' => e = .returned (.agg ((M.arr l).map (Value.int .i64)).toArray) ∧ Below w.heap.size w w' := by
  have H := Lib.hid h
  clear h
  go_enter Try.func173, Try.ntmps173
  go_wp2_with fail
  obtain ⟨X, hX⟩ : ∃ X, X = ((w.alloc (.cells #[.int .i64 0, .int .i64 0, .int .i64 0, .int .i64 0, .int .i64 0, .int .i64 0, .int .i64 0, .int .i64 0, .int .i64 0, .int .i64 0, .int .i64 0, .int .i64 0, .int .i64 0, .int .i64 0, .int .i64 0, .int .i64 0, .int .i64 0, .int .i64 0, .int .i64 0, .int .i64 0, .int .i64 0, .int .i64 0, .int .i64 0, .int .i64 0] 170)).alloc (.cells #[.int .i64 (-1)] 2)) := ⟨_, rfl⟩
  have hX0 : (w.alloc (.cells #[.int .i64 0, .int .i64 0, .int .i64 0, .int .i64 0, .int .i64 0, .int .i64 0, .int .i64 0, .int .i64 0, .int .i64 0, .int .i64 0, .int .i64 0, .int .i64 0, .int .i64 0, .int .i64 0, .int .i64 0, .int .i64 0, .int .i64 0, .int .i64 0, .int .i64 0, .int .i64 0, .int .i64 0, .int .i64 0, .int .i64 0, .int .i64 0] 170)).heap.size = w.heap.size + 1 := by simp
  have hXs : X.heap.size = w.heap.size + 1 + 1 := by rw [hX]; simp
  have cX : X.cell? ⟨w.heap.size + 1, 0, none⟩ = some (.int .i64 (-1)) := by
    have := World.cell?_alloc_new (w.alloc (.cells #[.int .i64 0, .int .i64 0, .int .i64 0, .int .i64 0, .int .i64 0, .int .i64 0, .int .i64 0, .int .i64 0, .int .i64 0, .int .i64 0, .int .i64 0, .int .i64 0, .int .i64 0, .int .i64 0, .int .i64 0, .int .i64 0, .int .i64 0, .int .i64 0, .int .i64 0, .int .i64 0, .int .i64 0, .int .i64 0, .int .i64 0, .int .i64 0] 170)) #[.int .i64 (-1)] 2 0
    rw [hX0] at this
    rw [hX, this]; rfl
  have hz3 : X.heap[w.heap.size]? = some (.cells (List.replicate 24 (Value.int .i64 0)).toArray 170 (0, 0)) := by
    rw [hX, Below.heap_alloc _ _ _ (by rw [hX0]; omega)]
    exact World.alloc_heap_new w _
  have hBX : Hid (Below w.heap.size w X) := by rw [hX]; exact bal (bal (b0 w) _) _
  have HX := Lib.hid ((H.out.al (.cells #[.int .i64 0, .int .i64 0, .int .i64 0, .int .i64 0, .int .i64 0, .int .i64 0, .int .i64 0, .int .i64 0, .int .i64 0, .int .i64 0, .int .i64 0, .int .i64 0, .int .i64 0, .int .i64 0, .int .i64 0, .int .i64 0, .int .i64 0, .int .i64 0, .int .i64 0, .int .i64 0, .int .i64 0, .int .i64 0, .int .i64 0, .int .i64 0] 170)).al (.cells #[.int .i64 (-1)] 2))
  rw [← hX] at HX ⊢
  clear hX hX0 H
  refine (repeat24 (w.heap.size + 1) (-1) X cX).mono ?_
  rintro e W3 ⟨rfl, hr3, hb3⟩
  have ho3 : Hid (Own64 W3 w.heap.size (.slice (some ⟨X.heap.size, 0, none⟩) 24 24) (List.replicate 24 (-1))) := own_repVals' (by omega) hr3.out
  have hB3 : Hid (Below w.heap.size w W3) := hBX.out.trans (hb3.out.mono (by omega))
  have HL3 := Lib.hid (HX.out.be hb3.out)
  have hX3 := (Array.getElem?_eq_some_iff.1 hr3.out).1
  have hz4 : Hid (W3.heap[w.heap.size]? = some (.cells (List.replicate 24 (Value.int .i64 0)).toArray 170 (0, 0))) := (hb3.out.block _ (by omega)).trans hz3
  obtain ⟨g, hg⟩ : ∃ g, X.heap.size = g := ⟨_, rfl⟩
  rw [hg] at ho3 hX3 ⊢
  have hgw : w.heap.size + 1 + 1 = g := by omega
  clear hr3 hb3 hXs cX hz3 hBX HX hg
  have HP : Hid (Parts (W3.alloc (.cells #[.slice A n c, .slice (some ⟨g, 0, none⟩) 24 24] 23)) W3.heap.size 2 (M.cat2 l)) := fun j hj => by
    match j, hj with
    | 0, _ => exact ⟨A, c, by have := World.cell?_alloc_new W3 #[.slice A n c, .slice (some ⟨g, 0, none⟩) 24 24] 23 0; rw [this]; simp [M.cat2, hl.out], by simpa [M.cat2] using HL3.out.al _, by simpa using hz.out⟩
    | 1, _ => exact ⟨some ⟨g, 0, none⟩, 24, by have := World.cell?_alloc_new W3 #[.slice A n c, .slice (some ⟨g, 0, none⟩) 24 24] 23 1; rw [this]; simp [M.cat2], by simpa [M.cat2] using (ints_of_own64 ho3.out).al _, fun e => by cases e⟩
  have HLen : Hid (∀ j, j < 2 → (M.cat2 l j).length ≤ 24) := fun j hj => by
    match j, hj with
    | 0, _ => simp only [M.cat2]; have := hl.out; simp; omega
    | 1, _ => simp [M.cat2]
  have HC := Lib.hid (concat W3.heap.size 2 (M.cat2 l) (W3.alloc (.cells #[.slice A n c, .slice (some ⟨g, 0, none⟩) 24 24] 23)) (by omega) HLen (by simp) HP)
  have hB4 := Lib.hid (bal hB3.out (.cells #[.slice A n c, .slice (some ⟨g, 0, none⟩) 24 24] 23))
  have hz5 : Hid ((W3.alloc (.cells #[.slice A n c, .slice (some ⟨g, 0, none⟩) 24 24] 23)).heap[w.heap.size]? = some (.cells (List.replicate 24 (Value.int .i64 0)).toArray 170 (0, 0))) := (Below.heap_alloc _ _ _ (by omega)).trans hz4.out
  clear HP HLen HL3 ho3 hz4
  go_wp2_with fail
  refine HC.out.mono ?_
  rintro e W5 ⟨A5, c5, n5, rfl, ho5, hb5⟩
  have hW3 : (W3.alloc (.cells #[.slice A n c, .slice (some ⟨g, 0, none⟩) 24 24] 23)).heap.size = W3.heap.size + 1 := by simp
  rw [M.catTo_cat2] at ho5
  have hn5 := own64_len ho5
  have hl5 : (l ++ List.replicate 24 (-1)).length = n + 24 := by simp [hl.out]
  obtain ⟨g5, e5⟩ : ∃ g5, A5 = some ⟨g5, 0, none⟩ := by
    rcases ho5.2 with ⟨h1, h2⟩ | ⟨g5, cap, cur, hv, _⟩
    · simp at h2
    · injection hv with h1; exact ⟨g5, h1⟩
  subst e5
  have Ho5 := Lib.hid ho5
  have hB5 := Lib.hid (hB4.out.trans (hb5.mono (by omega)))
  have hz6 : Hid (W5.heap[w.heap.size]? = some (.cells (List.replicate 24 (Value.int .i64 0)).toArray 170 (0, 0))) := (hb5.block _ (by omega)).trans hz5.out
  have h24 : 24 ≤ n5 := by omega
  have hrunA := run_arrayAt (P := Try.prog) (w := W5) 170 2 24 (some ⟨g5, 0, none⟩) n5 c5 Try.underlying170 h24
  have hc : W5.rangeAt g5 0 ((M.arr l).map (Value.int .i64)) := fun j v hv => by
    rw [List.getElem?_map] at hv
    cases hj : (M.arr l)[j]? with
    | none => rw [hj] at hv; cases hv
    | some y =>
      rw [hj] at hv
      injection hv with hv
      subst hv
      rw [Nat.zero_add]
      have hj24 : j < 24 := by have := (List.getElem?_eq_some_iff.1 hj).1; rw [M.arr_len] at this; exact this
      refine (own64_cell Ho5.out hn5.symm (k := j) (x := y) ?_).1
      rw [M.arr, List.getElem?_take_of_lt hj24] at hj
      exact hj
  have hi : (Try.prog.info? 170).map (·.size) = some ((M.arr l).map (Value.int .i64)).length := by rw [List.length_map, M.arr_len]; kernel_rfl
  have hi2 : (Try.prog.info? 170).map (·.size) = some ((M.arr l).map (Value.int .i64)).toArray.size := by rw [List.size_toArray]; exact hi
  have hth : W5.there w.heap.size 0 ((M.arr l).map (Value.int .i64)).toArray.size := fun j hj => by
    rw [List.size_toArray, List.length_map, M.arr_len] at hj
    simp [World.cell?, World.frozen?, hz6.out, hj]
  have h1 : ((M.arr l).map (Value.int .i64)).toArray.all (·.oneCell') = true := all_oneCell_toArray (fun v hv => by obtain ⟨x, _, rfl⟩ := List.mem_map.1 hv; rfl)
  have Hc := Lib.hid hc
  have Hth := Lib.hid hth
  have H1 := Lib.hid h1
  have Hi := Lib.hid hi
  have Hi2 := Lib.hid hi2
  clear hc hth h1 hi hi2 ho5 hb5 hn5 hl5 HC hW3
  go_wp2_with (first | (refine wpList_load_mid rfl 170 (.tmp 8) rfl g5 0 rfl _ _ Hc.out Try.underlying170 rfl Hi.out ?_) | (refine wpList_store_mid rfl 170 (.tmp 2) (.tmp 9) rfl w.heap.size 0 _ rfl rfl Hth.out Hi2.out H1.out ?_))
  have hlr := run_loadVar_mid (P := Try.prog) (W5.setCells w.heap.size 0 ((M.arr l).map (Value.int .i64))) w.heap.size 0 170 ((M.arr l).map (Value.int .i64)) _ (World.rangeAt_setCells_same _ _ _ _ (by simpa using Hth.out)) Try.underlying170 rfl Hi.out
  refine bodyPost_ret (v := .agg ((M.arr l).map (Value.int .i64)).toArray) (by simp [results, Try.results173, Act.put, asAddr, hlr]) rfl ?_
  exact ⟨rfl, hB5.out.trans (below_cells' (Nat.le_refl _) _ _ (Below.refl _ _))⟩
end Go.Proofs.Ytbdmmeoelagdcaa
