/- slices.Repeat of one number, 24 times. -/
import Derived.Test.YtbdmmeoelagdcaaPush
import Derived.Test.YtbdmmeoelagdcaaDraw
import Derived.Laws.CopyOwn
import Derived.Deep.RegionLaw
namespace Go.Proofs.Ytbdmmeoelagdcaa
open Go.RowKit

namespace M
/-- n times x, then zeros up to 24 -/
def repRow (x : Int) (n : Nat) : List Int := List.replicate n x ++ List.replicate (24 - n) 0
theorem repRow_len {x : Int} {n : Nat} (h : n ≤ 24) : (repRow x n).length = 24 := by simp [repRow]; omega
theorem repRow_end (x : Int) : repRow x 24 = List.replicate 24 x := by simp [repRow]
end M
def repVals (x : Int) (n : Nat) : List Value := (M.repRow x n).map (Value.int .i64)
theorem repVals_len {x : Int} {n : Nat} (h : n ≤ 24) : (repVals x n).length = 24 := by rw [repVals, List.length_map, M.repRow_len h]
theorem rep_splice (x : Int) {n m : Nat} (h : n + m ≤ 24) : splice (repVals x n) n (List.replicate m (Value.int .i64 x)) = repVals x (n + m) := by
  have e : List.replicate (24 - n) (0 : Int) = List.replicate m 0 ++ List.replicate (24 - (n + m)) 0 := by rw [List.replicate_append_replicate]; congr 1; omega
  simp only [splice, repVals, M.repRow, List.map_append, List.map_replicate, List.length_replicate]
  rw [List.take_left' (by simp), ← List.append_assoc, List.replicate_append_replicate]
  congr 1
  rw [List.drop_append, List.drop_of_length_le (by simp), List.nil_append]
  simp only [List.length_replicate, List.drop_replicate]
  congr 1; omega

set_option maxHeartbeats 1000000 in
theorem bitsMul (w : World) : Calls Try.prog 187 #[.int .u64 1, .int .u64 24] w fun e w' => e = .returned (.tuple #[.int .u64 0, .int .u64 24]) ∧ w' = w := by
  have h1 : bits BinOp.and IntKind.u64 1 4294967295 = 1 := by kernel_rfl
  have h2 : bits BinOp.and IntKind.u64 24 4294967295 = 24 := by kernel_rfl
  have h3 : bits BinOp.and IntKind.u64 0 4294967295 = 0 := by kernel_rfl
  have h4 : IntKind.u64.wrap 24 = 24 := by kernel_rfl
  have h5 : IntKind.u64.wrap 0 = 0 := by kernel_rfl
  go_enter Try.func187, Try.ntmps187
  go_wp2
  go_ret2
  exact ⟨rfl, rfl⟩

theorem addr_add (g o j : Nat) : (⟨g, o, none⟩ : Addr).add j = ⟨g, o + j, none⟩ := by unfold Addr.add; split <;> simp_all

set_option maxRecDepth 100000 in
/-- a copy of m numbers x behind the first n ones -/
theorem copyRep (x : Int) {w0 W : World} {B g n m dL dC sL sC : Nat} {b o : Nat} (hrow : W.heap[g]? = some (.cells (repVals x n).toArray 2 (0, 0))) (hnm : n + m ≤ 24) (hm : m = Nat.min sL dL) (hsrc : ∀ j, j < m → W.cell? ⟨b, o + j, none⟩ = some (.int .i64 x)) (hb : Below B w0 W) (hB : B ≤ g) :
    ∃ w5, (Builtin.copy_ #[23, 23] 3 #[.slice (some ⟨g, n, none⟩) dL dC, .slice (some ⟨b, o, none⟩) sL sC]).run Try.prog W = .ok (goInt m) w5 ∧ Hid (w5.heap[g]? = some (.cells (repVals x (n + m)).toArray 2 (0, 0))) ∧ Hid (Below B w0 w5) := by
  have h := run_copy_row (P := Try.prog) W 23 23 3 2 g n dL dC ⟨b, o, none⟩ sL sC (repVals x n).toArray 2 (List.replicate m (Value.int .i64 x)) Try.underlying23 rfl hrow (by simpa using hm) (fun j v hv => by
    obtain ⟨h1, h2⟩ := List.getElem?_eq_some_iff.1 hv
    rw [List.getElem_replicate] at h2
    subst h2
    rw [addr_add]
    exact hsrc j (by simpa using h1)) (by rw [List.size_toArray, repVals_len (by omega), List.length_replicate]; exact hnm) (fun v hv => by have := List.eq_of_mem_replicate hv; subst this; rfl)
  rw [List.length_replicate] at h
  refine ⟨_, h, ?_, below_setRow hb hB _⟩
  have h2 := setRow_heap W g _ ((repVals x n).toArray.toList.take n ++ List.replicate m (Value.int .i64 x) ++ (repVals x n).toArray.toList.drop (n + m)).toArray 2 _ hrow
  show _ = _
  rw [h2]
  have h3 := rep_splice x hnm
  simp only [splice, List.length_replicate] at h3
  rw [← h3]
  simp

theorem repCell {x : Int} {W : World} {g n j : Nat} (hrow : W.heap[g]? = some (.cells (repVals x n).toArray 2 (0, 0))) (hj : j < n) : W.cell? ⟨g, j, none⟩ = some (.int .i64 x) := by
  simp only [World.cell?, hrow]
  simp [repVals, M.repRow]
  rw [List.getElem?_append_left (by simpa using hj), List.getElem?_replicate, if_pos hj]

set_option maxHeartbeats 4000000 in
set_option maxRecDepth 100000 in
theorem repeat24 (s : Nat) (x : Int) (w : World) (hs : w.cell? ⟨s, 0, none⟩ = some (.int .i64 x)) :
    Calls Try.prog 182 #[.slice (some ⟨s, 0, none⟩) 1 1, .int .i64 24] w fun e w' => e = .returned (.slice (some ⟨w.heap.size, 0, none⟩) 24 24) ∧ Hid (w'.heap[w.heap.size]? = some (.cells (repVals x 24).toArray 2 (0, 0))) ∧ Hid (Below w.heap.size w w') := by
  have hmk : ∀ w : World, Sem.run Try.prog (Instr.makeSlice 23 (.int .i64 24) (.int .i64 24)) w = .ok (.slice (some ⟨w.heap.size, 0, none⟩) 24 24) (w.alloc (.cells (madeCells #[.int .i64 0] 24) 2)) := run_make_row' (P := Try.prog) 23 2 (.int .i64 0) 8 Try.underlying23 info64 rfl .i64 .i64 24 (by omega) (by omega)
  have hrow : (w.alloc (.cells (madeCells #[.int .i64 0] 24) 2)).heap[w.heap.size]? = some (.cells (repVals x 0).toArray 2 (0, 0)) := by
    have e : madeCells #[Value.int .i64 0] 24 = (repVals x 0).toArray := Array.ext' (by rw [toList_madeCells_one]; simp [repVals, M.repRow])
    rw [World.alloc_heap_new, e]
  have hcs : (w.alloc (.cells (madeCells #[.int .i64 0] 24) 2)).cell? ⟨s, 0, none⟩ = some (.int .i64 x) := cell_al hs _
  have hcs0 : ∀ j, j < 1 → (w.alloc (.cells (madeCells #[.int .i64 0] 24) 2)).cell? ⟨s, 0 + j, none⟩ = some (.int .i64 x) := fun j hj => by
    obtain rfl : j = 0 := by omega
    exact hcs
  obtain ⟨w5, hrun1, hr5, hb5⟩ := copyRep x (n := 0) (m := 1) (dL := 24) (dC := 24) (sL := 1) (sC := 1) (b := s) (o := 0) hrow (by omega) rfl hcs0 (bal (b0 w) _) (Nat.le_refl _)
  clear hrow hcs hs hcs0
  go_enter Try.func182, Try.ntmps182
  go_wp2_with (go_at_call 187; refine (bitsMul _).mono ?_; rintro e w' ⟨rfl, hw⟩; have hw' := hw.symm; subst hw')
  clear hrun1 hmk
  go_loopw [8] (fun q wr => ∃ n : Nat, 1 ≤ n ∧ n ≤ 24 ∧ q = .int .i64 (n : Int) ∧ Hid (wr.heap[w.heap.size]? = some (.cells (repVals x n).toArray 2 (0, 0))) ∧ Hid (Below w.heap.size w wr)) (fun q _ => 24 - (intOf q).toNat)
  case atStart => exact ⟨1, by omega, by omega, rfl, hr5, hb5⟩
  case round =>
    obtain ⟨n, hn1, hn2, rfl, hr, hb⟩ := hrel
    clear hr5 hb5
    by_cases hlt : n < 24
    · have hni : (n : Int) < 24 := by omega
      have hn0 : (0 : Int) ≤ (n : Int) := by omega
      have hne : ¬ 24 = n := by omega
      obtain ⟨m, hm⟩ : ∃ m, m = Nat.min n (24 - n) := ⟨_, rfl⟩
      have hm1 : 1 ≤ m ∧ n + m ≤ 24 := by rw [hm]; simp only [Nat.min_def]; split <;> omega
      obtain ⟨w6, hrun, hr6, hb6⟩ := copyRep x (W := wr.drew) (n := n) (m := m) (dL := 24 - n) (dC := 24 - n) (sL := n) (sC := 24) (b := w.heap.size) (o := 0) hr.out (by omega) hm (fun j hj => by rw [Nat.zero_add]; exact repCell hr.out (by rw [hm] at hj; have h9 : Nat.min n (24 - n) ≤ n := Nat.min_le_left _ _; omega)) hb.out.drew (Nat.le_refl _)
      have Hm := Lib.hid hm
      have hw1 : IntKind.i64.wrap ((n : Int) + (m : Int)) = ((n + m : Nat) : Int) := by rw [show (n : Int) + (m : Int) = ((n + m : Nat) : Int) by omega]; exact IntWalk.i64_in _ (by omega)
      clear hm hr hb
      go_wp2
      go_region
      all_goals
        go_roundw
        case rel => refine ⟨_, _, _, _, _, _, _, _, _, _, _, _, _, _, ⟨n + m, by omega, by omega, ?_, hr6, hb6⟩, rfl⟩; go_num
        case measure => simp [intOf]; omega
    · obtain rfl : n = 24 := by omega
      go_wp2
      go_ret
      exact ⟨rfl, hr, hb⟩
end Go.Proofs.Ytbdmmeoelagdcaa
