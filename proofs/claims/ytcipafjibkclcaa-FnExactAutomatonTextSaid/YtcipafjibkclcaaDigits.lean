/- digitsOf: the text of a list of states, and the model's l06Digits. -/
import Derived.Test.YtcipafjibkclcaaBase
import Derived.Test.YtcipafjibkclcaaPush
import Derived.Test.YtcipafjibkclcaaLeast
import Derived.Test.YtcipafjibkclcaaBin
import Derived.Laws.IdiomStrings
namespace Go.Proofs.Ytcipafjibkclcaa
open Go.RowKit

theorem infoU8 : (Try.prog.info? 5).map (fun i => (i.zero, i.size, i.bytes)) = some (some (.int .u8 0), 1, 1) := by kernel_rfl
/-- the slice value v owns a row of bytes that reads zs -/
abbrev OwnU (w : World) (B : Nat) (v : Value) (zs : List Int) : Prop := w.ownsRow B 5 1 v zs.length (zs.map (Value.int .u8))
theorem ownU_made {w : World} {B n : Nat} (hB : B ≤ w.heap.size) (hn : n ≤ maxLen) :
    OwnU (w.alloc (.cells (madeCells #[.int .u8 0] n) 5)) B (.slice (some ⟨w.heap.size, 0, none⟩) n n) (List.replicate n 0) := by
  have h := World.ownsRow_lit (e := 5) (size := 1) w (madeCells #[.int .u8 0] n) n hB hn (by simp [size_madeCells])
  rw [toList_madeCells_one] at h
  simpa [OwnU] using h
theorem ownU_set {w : World} {B g n c : Nat} {zs : List Int} (h : OwnU w B (.slice (some ⟨g, 0, none⟩) n c) zs) (hn : zs.length = n) (k : Nat) (x : Int) :
    OwnU (w.setCell ⟨g, k, none⟩ (.int .u8 x)) B (.slice (some ⟨g, 0, none⟩) n c) (zs.set k x) := by
  subst hn
  have := (World.ownsRow.stored h k (.int .u8 x)).1
  simpa [OwnU, List.map_set] using this
theorem ownU_cell {w : World} {B g n c : Nat} {zs : List Int} (h : OwnU w B (.slice (some ⟨g, 0, none⟩) n c) zs) (hn : zs.length = n) {k : Nat} {x : Int} (hx : zs[k]? = some x) :
    w.cell? ⟨g, k, none⟩ = some (.int .u8 x) ∧ w.frozen? ⟨g, k, none⟩ = false ∧ B ≤ g ∧ g < w.heap.size := by
  subst hn
  have hk : k < zs.length := (List.getElem?_eq_some_iff.1 hx).1
  have hl := World.ownsRow.lt h g rfl
  exact ⟨(World.ownsRow.cellAt h k (by omega)).trans (by simp [hx]), World.ownsRow.frozenAt h k, hl.1, hl.2⟩

namespace M
/-- the digits of states -/
def dig (ys : List Int) : List UInt8 := ys.map fun y => UInt8.ofNat (48 + y.toNat)
theorem dig_len (ys : List Int) : (dig ys).length = ys.length := by simp [dig]
def digTo (ys : List Int) (k : Nat) : Nat → Int := fun i => if i < k then 48 + ys[i]?.getD 0 else 0
theorem digTo_set {ys : List Int} {n k : Nat} {y : Int} (hy : ys[k]? = some y) : (rowOf n (digTo ys k)).set k (48 + y) = rowOf n (digTo ys (k + 1)) := by
  rw [rowOf_set]
  apply rowOf_congr
  intro i _
  by_cases h1 : i = k
  · subst h1
    rw [if_pos rfl, digTo, if_pos (by omega), hy]; rfl
  · rw [if_neg h1, digTo, digTo]
    by_cases h2 : i < k
    · rw [if_pos h2, if_pos (by omega)]
    · rw [if_neg h2, if_neg (by omega)]
end M

/-- 'string(b)' of the digits -/
theorem digits_back {w : World} {B g n c : Nat} {ys : List Int} (hn : ys.length = n) (hx : ∀ x ∈ ys, 0 ≤ x ∧ x ≤ 9) (h : OwnU w B (.slice (some ⟨g, 0, none⟩) n c) (M.rowOf n (M.digTo ys n))) :
    (convert 135 9 (.slice (some ⟨g, 0, none⟩) n c)).run Try.prog w = .ok (.string (M.bs (M.dig ys))) w := by
  subst hn
  have e := run_convert_bytes_back (P := Try.prog) w 135 9 5 ⟨g, 0, none⟩ c (M.dig ys) Try.underlying135 Try.underlying5 Try.underlying9 fun j hj => ?_
  · rw [M.dig_len] at e
    exact e
  · rw [M.dig_len] at hj
    have h1 := (ownU_cell h (M.rowOf_len _ _) (M.rowOf_at _ hj)).1
    have h2 : (⟨g, 0, none⟩ : Addr).add j = ⟨g, j, none⟩ := by unfold Addr.add; split <;> simp_all
    rw [h2, h1]
    have h3 := hx ys[j] (List.getElem_mem hj)
    have h4 : M.digTo ys ys.length j = 48 + ys[j] := by rw [M.digTo, if_pos hj, List.getElem?_eq_getElem hj]; rfl
    have h5 : ((M.dig ys)[j]'(by rw [M.dig_len]; exact hj)) = UInt8.ofNat (48 + ys[j].toNat) := by simp [M.dig]
    rw [h4, h5, UInt8.toNat_ofNat']
    congr 2
    omega

set_option maxRecDepth 100000 in
set_option maxHeartbeats 2000000 in
theorem digitsOf (A : Option Addr) (xs : List Int) (n c : Nat) (w : World) (hn : Hid (xs.length = n)) (hn9 : n ≤ 1000) (hx : Hid (∀ x ∈ xs, 0 ≤ x ∧ x ≤ 9)) (h : Hid (Ints w w.heap.size A xs)) :
    Calls Try.prog 104 #[.slice A n c] w fun e w' => e = .returned (.string (M.bs (M.dig xs))) ∧ Hid (Below w.heap.size w w') := by
  have hmk := run_make_row' (P := Try.prog) 135 5 (.int .u8 0) 1 Try.underlying135 infoU8 rfl .i64 .i64 n (by omega) (by omega)
  have ho := ownU_made (w := w) (B := w.heap.size) (n := n) (Nat.le_refl _) (by unfold maxLen; omega)
  have hO0 : Hid (OwnU (w.alloc (.cells (madeCells #[.int .u8 0] n) 5)) w.heap.size (.slice (some ⟨w.heap.size, 0, none⟩) n n) (M.rowOf n (M.digTo xs 0))) := by
    have e : M.rowOf n (M.digTo xs 0) = List.replicate n 0 := by rw [← M.rowOf_zero]; exact M.rowOf_congr fun i _ => by simp [M.digTo]
    rw [e]; exact ho
  have hb0 : Hid (Below w.heap.size w (w.alloc (.cells (madeCells #[.int .u8 0] n) 5))) := bal (b0 w) _
  have hback : Hid (∀ W, Hid (OwnU W w.heap.size (.slice (some ⟨w.heap.size, 0, none⟩) n n) (M.rowOf n (M.digTo xs n))) → (convert 135 9 (.slice (some ⟨w.heap.size, 0, none⟩) n n)).run Try.prog W = .ok (.string (M.bs (M.dig xs))) W) := fun W hW => digits_back hn.out hx.out hW.out
  generalize M.bs (M.dig xs) = R at *
  clear ho
  go_enter Try.func104, Try.ntmps104
  go_wp2
  clear hmk
  go_loopw [11] (fun i wr => ∃ k : Nat, k ≤ n ∧ i = .int .i64 (k : Int) ∧ Hid (OwnU wr w.heap.size (.slice (some ⟨w.heap.size, 0, none⟩) n n) (M.rowOf n (M.digTo xs k))) ∧ Hid (Below w.heap.size w wr)) (fun i _ => n - (intOf i).toNat)
  case atStart => exact ⟨0, Nat.zero_le _, rfl, hO0, hb0⟩
  case round =>
    obtain ⟨k, hk, rfl, hO, hb⟩ := hrel
    clear hO0 hb0
    by_cases hlt : k < n
    · have hki : (k : Int) < (n : Int) := by omega
      have hk0 : (0 : Int) ≤ (k : Int) := by omega
      obtain ⟨y, hy⟩ : ∃ y, xs[k]? = some y := ⟨_, List.getElem?_eq_getElem (by rw [hn.out]; exact hlt)⟩
      have hy9 := hx.out y (List.mem_of_getElem? hy)
      have hI := h.out.be hb.out
      obtain ⟨ba, oa, rfl, hba, hca⟩ := hI (by rw [hn.out]; omega)
      have g1 := hca k y hy
      obtain ⟨k1, k2, _, _⟩ := ownU_cell hO.out (M.rowOf_len _ _) (M.rowOf_at _ hlt)
      have hset := ownU_set hO.out (M.rowOf_len _ _) k (48 + y)
      rw [M.digTo_set hy] at hset
      have Hset := Lib.hid hset
      have hb2 := Lib.hid (below_setCell (g := w.heap.size) (k := k) hb.out (Nat.le_refl _) (.int .u8 (48 + y)))
      have w1 : IntKind.i64.wrap (48 + y) = 48 + y := IntWalk.i64_in _ (by omega)
      have w2 : IntKind.u8.wrap (48 + y) = 48 + y := IntWalk.u8_in _ (by omega)
      clear hset hO hb hca hI hy
      go_wp2
      go_roundw
      case rel => exact ⟨k + 1, by omega, by go_num, Hset, hb2⟩
      case measure => simp [intOf]; omega
    · obtain rfl : k = n := by omega
      have hge : ¬ (k : Int) < (k : Int) := by omega
      have hcv := hback.out wr hO
      clear hO hback
      go_wp2
      go_ret
      exact ⟨rfl, hb⟩

/-- the digit of one number, the model's -/
theorem dec_run (y : Int) (w : World) (hy : 0 ≤ y ∧ y ≤ 9) : (convert 135 9 (.slice (some ⟨w.heap.size, 0, none⟩) 1 1)).run Try.prog (w.alloc (.cells #[.int .u8 (48 + y)] 5)) = .ok (.string (M.bs (M.dig [y]))) (w.alloc (.cells #[.int .u8 (48 + y)] 5)) := by
  refine run_convert_bytes_back (P := Try.prog) _ 135 9 5 ⟨w.heap.size, 0, none⟩ 1 (M.dig [y]) Try.underlying135 Try.underlying5 Try.underlying9 (fun j hj => ?_)
  rw [M.dig_len, List.length_singleton] at hj
  obtain rfl : j = 0 := by omega
  have e : ((UInt8.ofNat (48 + y.toNat)).toNat : Int) = 48 + y := by rw [UInt8.toNat_ofNat']; omega
  show (w.alloc (.cells #[.int .u8 (48 + y)] 5)).cell? ⟨w.heap.size, 0 + 0, none⟩ = some (.int .u8 ((UInt8.ofNat (48 + y.toNat)).toNat : Int))
  rw [e]
  simp [go_sem]

set_option maxRecDepth 100000 in
theorem l01Dec1 (y : Int) (w : World) (hy : 0 ≤ y ∧ y ≤ 9) : Calls Try.prog 127 #[.int .i64 y] w fun e w' => e = .returned (.string (M.bs (M.dig [y]))) ∧ Hid (Below w.heap.size w w') := by
  have hcv := dec_run y w hy
  have hb := Lib.hid (bal (b0 w) (.cells #[.int .u8 (48 + y)] 5))
  have h0 : ¬ y < 0 := by omega
  have h1 : y < 10 := by omega
  have w1 : IntKind.i64.wrap (48 + y) = 48 + y := IntWalk.i64_in _ (by omega)
  have w2 : IntKind.u8.wrap (48 + y) = 48 + y := IntWalk.u8_in _ (by omega)
  generalize M.bs (M.dig [y]) = R at *
  go_enter Try.func127, Try.ntmps127
  go_wp2
  go_ret
  exact ⟨rfl, hb⟩

theorem M.dig_take {ys : List Int} {k : Nat} {y : Int} (h : ys[k]? = some y) : M.bs (M.dig (ys.take k)) ++ M.bs (M.dig [y]) = M.bs (M.dig (ys.take (k + 1))) := by
  rw [M.bs_append, List.take_add_one, h, M.dig, M.dig, ← List.map_append]; rfl

set_option maxRecDepth 100000 in
set_option maxHeartbeats 2000000 in
theorem l06Digits (A : Option Addr) (xs : List Int) (n c : Nat) (w : World) (hn : Hid (xs.length = n)) (hn9 : n ≤ 1000) (hx : Hid (∀ x ∈ xs, 0 ≤ x ∧ x ≤ 9)) (h : Hid (Ints w w.heap.size A xs)) :
    Calls Try.prog 128 #[.slice A n c] w fun e w' => e = .returned (.string (M.bs (M.dig xs))) ∧ Hid (Below w.heap.size w w') := by
  have hb0 := Lib.hid (b0 w)
  have hT : Hid (M.bs (M.dig (xs.take n)) = M.bs (M.dig xs)) := by show _ = _; rw [List.take_of_length_le (by rw [hn.out]; exact Nat.le_refl _)]
  go_enter Try.func128, Try.ntmps128
  go_wp2
  go_loopw [3, 4] (fun s i wr => ∃ k : Nat, k ≤ n ∧ i = .int .i64 (k : Int) ∧ s = .string (M.bs (M.dig (xs.take k))) ∧ Hid (Below w.heap.size w wr)) (fun _ i _ => n - (intOf i).toNat)
  case atStart => exact ⟨0, Nat.zero_le _, rfl, rfl, hb0⟩
  case round =>
    obtain ⟨k, hk, rfl, rfl, hb⟩ := hrel
    clear hb0
    by_cases hlt : k < n
    · have hki : (k : Int) < (n : Int) := by omega
      have hk0 : (0 : Int) ≤ (k : Int) := by omega
      obtain ⟨y, hy⟩ : ∃ y, xs[k]? = some y := ⟨_, List.getElem?_eq_getElem (by rw [hn.out]; exact hlt)⟩
      have hy9 := hx.out y (List.mem_of_getElem? hy)
      have hI := h.out.be hb.out
      obtain ⟨ba, oa, rfl, hba, hca⟩ := hI (by rw [hn.out]; omega)
      have g1 := hca k y hy
      have hst := Lib.hid (M.dig_take hy)
      have hs1 : (M.bs (M.dig (xs.take k))).size ≤ 1000 := by rw [M.bs_size, M.dig_len, List.length_take]; omega
      have hs2 : (M.bs (M.dig [y])).size = 1 := rfl
      have HD := fun W => Lib.hid (l01Dec1 y W hy9)
      generalize M.bs (M.dig (xs.take k)) = R at *
      generalize M.bs (M.dig [y]) = D at *
      clear hca hI hy
      go_wp2_with fail
      refine (HD _).out.mono ?_
      rintro e w2 ⟨rfl, hb2⟩
      have hb3 := Lib.hid (btr hb.out hb2.out)
      clear hb2
      go_wp2
      go_roundw
      case rel => exact ⟨k + 1, by omega, by go_num, by rw [← hst.out], hb3⟩
      case measure => simp [intOf]; omega
    · obtain rfl : k = n := by omega
      have hge : ¬ (k : Int) < (k : Int) := by omega
      go_wp2
      go_ret
      exact ⟨by rw [hT.out]; rfl, hb⟩
end Go.Proofs.Ytcipafjibkclcaa
