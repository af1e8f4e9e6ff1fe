/- ParseRule, the program's and the model's. -/
import Derived.Test.YtbdmmeoelagdcaaSplitIn
import Derived.Test.YtbdmmeoelagdcaaShelfS
import Derived.Test.YtbdmmeoelagdcaaShelf
import Derived.Deep.RegionHeld3
namespace Go.Proofs.Ytbdmmeoelagdcaa
open Go.RowKit

/-- a text to a rule and a code -/
def GivesPR (f : Nat) (F : ByteArray → ByteArray × ByteArray × Int) : Prop :=
  ∀ (t : ByteArray) (w : World), t.size ≤ 1048576 → Calls Try.prog f #[.string t] w fun e w' => e = .returned (.tuple #[.agg #[.string (F t).1, .string (F t).2.1], .int .i64 (F t).2.2]) ∧ Below w.heap.size w w'

theorem index_idx (c : UInt8) : ∀ l : List UInt8, Lib.indexByte l c = if l.idxOf c < l.length then (l.idxOf c : Int) else -1
  | [] => rfl
  | b :: l => by
    rw [Lib.indexByte, List.idxOf_cons]
    by_cases h : (b == c) = true
    · rw [if_pos h, h]; simp
    · rw [if_neg h, index_idx c l, eq_false_of_ne_true h]
      by_cases h2 : l.idxOf c < l.length
      · simp [h2] <;> omega
      · simp [h2]
theorem index_gt (t : ByteArray) : Lib.indexByte t.data.toList 62 = if M.gt t < t.size then (M.gt t : Int) else -1 := by
  rw [index_idx, M.gt, Lib.size_eq t]

set_option maxRecDepth 100000 in
theorem cutLite (t : ByteArray) (w : World) (ht : t.size ≤ 1048576) :
    Calls Try.prog 147 #[.string t, .string ⟨#[62]⟩] w fun e w' => (∃ b : Bool, e = .returned (.tuple #[.string (M.leftOf t), .string (M.rightOf t), .bool b])) ∧ Below w.heap.size w w' := by
  have hI := Try.Sstringslite_Index_one t 62 w
  rw [index_gt] at hI
  have hle := M.gt_le t
  have hl : M.leftOf t = t.extract 0 (M.gt t) := rfl
  have hr : M.rightOf t = t.extract (M.gt t + 1) t.size := rfl
  generalize M.leftOf t = L at *
  generalize M.rightOf t = R at *
  generalize M.gt t = g at *
  by_cases hg : g < t.size
  · rw [if_pos hg] at hI
    have HI := Lib.hid hI
    clear hI
    have hg0 : (0 : Int) ≤ (g : Int) := by omega
    have hs1 : ∀ W, (Instr.slice 9 (.string t) none (some (.int .i64 (g : Int))) none).run Try.prog W = .ok (.string L) W := fun W => by
      have := run_slice_string_h (P := Try.prog) W 9 t Try.underlying9 .i64 (g : Int) (by omega) (by omega)
      rw [hl]
      rwa [show ((g : Int)).toNat = g by omega] at this
    have hs2 : ∀ W, (Instr.slice 9 (.string t) (some (.int .i64 ((g : Int) + 1))) none none).run Try.prog W = .ok (.string R) W := fun W => by
      have := run_slice_string_l (P := Try.prog) W 9 t Try.underlying9 .i64 ((g : Int) + 1) (by omega) (by omega)
      rw [hr]
      rwa [show ((g : Int) + 1).toNat = g + 1 by omega] at this
    clear hl hr
    go_enter Try.func147, Try.ntmps147
    go_wp2_with fail
    refine HI.out.mono ?_
    rintro e w' ⟨rfl, rfl⟩
    go_wp2
    go_region
    go_wp2
    refine bodyPost_ret (v := .tuple #[.string L, .string R, .bool true]) (by simp [results, Try.results147, go_sem]) rfl ?_
    exact ⟨⟨_, rfl⟩, (b0 _).drew⟩
  · rw [if_neg hg] at hI
    have HI := Lib.hid hI
    obtain rfl : g = t.size := by omega
    have hL : t = L := by rw [hl]; simp
    have hR : R = ⟨#[]⟩ := by rw [hr]; apply ByteArray.ext; simp
    subst hL
    subst hR
    clear hI hl hr
    go_enter Try.func147, Try.ntmps147
    go_wp2_with fail
    refine HI.out.mono ?_
    rintro e w' ⟨rfl, rfl⟩
    go_wp2
    refine bodyPost_ret (v := .tuple #[.string t, .string ⟨#[]⟩, .bool false]) (by simp [results, Try.results147, go_sem]) rfl ?_
    exact ⟨⟨_, rfl⟩, b0 _⟩
theorem cutText (t : ByteArray) (w : World) (ht : t.size ≤ 1048576) :
    Calls Try.prog 103 #[.string t, .string ⟨#[62]⟩] w fun e w' => (∃ b : Bool, e = .returned (.tuple #[.string (M.leftOf t), .string (M.rightOf t), .bool b])) ∧ Below w.heap.size w w' := by
  have HC := Lib.hid (cutLite t w ht)
  generalize M.leftOf t = L at *
  generalize M.rightOf t = R at *
  go_enter Try.func103, Try.ntmps103
  go_wp2_with fail
  refine HC.out.mono ?_
  rintro e w' ⟨⟨b, rfl⟩, hb⟩
  have hB := Lib.hid hb
  clear hb
  go_wp2
  refine bodyPost_ret (v := .tuple #[.string L, .string R, .bool b]) (by simp [results, Try.results103, go_sem]) rfl ?_
  exact ⟨⟨_, rfl⟩, hB.out⟩

set_option maxRecDepth 100000 in
theorem cloneT (s : ByteArray) (w : World) (h : s.size ≤ 1048576) : Calls Try.prog 104 #[.string s] w fun e w' => e = .returned (.string s) ∧ Hid (Below w.heap.size w w') := by
  have hC := Lib.hid (Try.stringslite_Clone s w (by omega))
  go_enter Try.func104, Try.ntmps104
  go_wp2_with fail
  refine hC.out.mono ?_
  rintro e w' ⟨rfl, hb⟩
  have hB := Lib.hid hb
  clear hb
  go_wp2
  go_ret
  exact ⟨rfl, hB⟩

theorem frozenR {W w1 : World} (hb : Below W.heap.size W w1) {b o : Nat} (hl : b < W.heap.size) (h : W.frozen? ⟨b, o, none⟩ = false) : w1.frozen? ⟨b, o, none⟩ = false := ((bcell hb).2 _ _ hl).trans h
theorem sides_small (t : ByteArray) (ht : t.size ≤ 1048576) : (M.leftOf t).size ≤ 1048576 ∧ (M.rightOf t).size ≤ 1048576 := by
  have := M.gt_le t
  rw [M.leftOf, M.rightOf, ByteArray.size_extract, ByteArray.size_extract]
  omega

set_option maxHeartbeats 2000000 in
set_option maxRecDepth 100000 in
theorem impl_ParseRule : GivesPR 56 F_ParseRule := by
  intro t w ht
  obtain ⟨hl, hr⟩ := sides_small t ht
  obtain ⟨W, hW⟩ : ∃ W, W = w.alloc (.cells #[.string ⟨#[]⟩, .string ⟨#[]⟩] 62) := ⟨_, rfl⟩
  obtain ⟨d0, d1⟩ := rule_cells w ⟨#[]⟩ ⟨#[]⟩
  have q0 : W.frozen? ⟨w.heap.size, 0, none⟩ = false := by rw [hW]; simp [go_sem]
  have q1 : W.frozen? ⟨w.heap.size, 1, none⟩ = false := by rw [hW]; simp [go_sem]
  have hWs : w.heap.size < W.heap.size := by rw [hW]; simp
  rw [← hW] at d0 d1
  have hB0 : Hid (Below w.heap.size w W) := by rw [hW]; exact bal (b0 w) _
  have HC := Lib.hid (cutText t W ht)
  have HI := fun X => Lib.hid (impl_IsRule (M.leftOf t) (M.rightOf t) X hl hr)
  have HL := fun X => Lib.hid (cloneT (M.leftOf t) X hl)
  have HR := fun X => Lib.hid (cloneT (M.rightOf t) X hr)
  rw [F_ParseRule]
  rw [F_IsRule] at HI
  generalize M.leftOf t = L at *
  generalize M.rightOf t = R at *
  cases hq : M.isRule L.data.toList R.data.toList
  · simp only [hq] at HI
    clear HL HR hq
    go_enter Try.func56, Try.ntmps56
    go_wp2_with fail
    rw [← hW]
    clear hW
    refine HC.out.mono ?_
    rintro e w1 ⟨⟨b, rfl⟩, hb1⟩
    have hB1 := Lib.hid (btr hB0.out hb1)
    have c0 := cellR_be d0 hb1
    have c1 := cellR_be d1 hb1
    have f0 := frozenR hb1 hWs q0
    have f1 := frozenR hb1 hWs q1
    have hs1 : w.heap.size < w1.heap.size := Nat.lt_of_lt_of_le hWs hb1.size
    clear hb1 d0 d1 q0 q1 hB0 hWs HC
    go_wp2_with fail
    refine (HI _).out.mono ?_
    rintro e w2 ⟨rfl, hb2⟩
    have hB2 := Lib.hid (btr hB1.out hb2)
    have k0 := cellR_be c0 hb2
    have k1 := cellR_be c1 hb2
    have g0 := frozenR hb2 hs1 f0
    have g1 := frozenR hb2 hs1 f1
    have hsz := hB2.out.size
    clear hb2 c0 c1 f0 f1 hB1 HI
    go_wp2
    refine bodyPost_ret (v := .tuple #[.agg #[.string ⟨#[]⟩, .string ⟨#[]⟩], .int .i64 6]) (by simp [results, Try.results56, go_sem, k0, k1]) rfl ?_
    exact ⟨rfl, below_setCell (below_setCell hB2.out (Nat.le_refl _) _) (Nat.le_refl _) _⟩
  · simp only [hq] at HI
    clear hq
    go_enter Try.func56, Try.ntmps56
    go_wp2_with fail
    rw [← hW]
    clear hW
    refine HC.out.mono ?_
    rintro e w1 ⟨⟨b, rfl⟩, hb1⟩
    have hB1 := Lib.hid (btr hB0.out hb1)
    have c0 := cellR_be d0 hb1
    have c1 := cellR_be d1 hb1
    have f0 := frozenR hb1 hWs q0
    have f1 := frozenR hb1 hWs q1
    have hs1 : w.heap.size < w1.heap.size := Nat.lt_of_lt_of_le hWs hb1.size
    clear hb1 d0 d1 q0 q1 hB0 hWs HC
    go_wp2_with fail
    refine (HI _).out.mono ?_
    rintro e w2 ⟨rfl, hb2⟩
    have hB2 := Lib.hid (btr hB1.out hb2)
    have k0 := cellR_be c0 hb2
    have k1 := cellR_be c1 hb2
    have g0 := frozenR hb2 hs1 f0
    have g1 := frozenR hb2 hs1 f1
    have hs2 : w.heap.size < w2.heap.size := Nat.lt_of_lt_of_le hs1 hb2.size
    clear hb2 c0 c1 f0 f1 hB1 HI hs1
    go_wp2_with fail
    refine (HL _).out.mono ?_
    rintro e w3 ⟨rfl, hb3⟩
    have hB3 := Lib.hid (btr hB2.out hb3.out)
    have c0 := cellR_be k0 hb3.out
    have c1 := cellR_be k1 hb3.out
    have f0 := frozenR hb3.out hs2 g0
    have f1 := frozenR hb3.out hs2 g1
    have hs3 : w.heap.size < w3.heap.size := Nat.lt_of_lt_of_le hs2 hb3.out.size
    clear hb3 k0 k1 g0 g1 hB2 HL hs2
    go_wp2_with fail
    refine (HR _).out.mono ?_
    rintro e w4 ⟨rfl, hb4⟩
    have hB4 := Lib.hid (btr hB3.out hb4.out)
    have k0 := cellR_be c0 hb4.out
    have k1 := cellR_be c1 hb4.out
    have g0 := frozenR hb4.out hs3 f0
    have g1 := frozenR hb4.out hs3 f1
    clear hb4 c0 c1 f0 f1 hB3 HR hs3
    go_wp2
    refine bodyPost_ret (v := .tuple #[.agg #[.string L, .string R], .int .i64 0]) (by simp [results, Try.results56, go_sem, k0, k1]) rfl ?_
    exact ⟨rfl, below_setCell (below_setCell hB4.out (Nat.le_refl _) _) (Nat.le_refl _) _⟩
end Go.Proofs.Ytbdmmeoelagdcaa
