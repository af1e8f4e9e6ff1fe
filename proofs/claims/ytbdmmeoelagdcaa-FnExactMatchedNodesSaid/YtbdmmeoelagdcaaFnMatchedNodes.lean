/- MatchedNodes, the program's and the model's. -/
import Derived.Test.YtbdmmeoelagdcaaHits
namespace Go.Proofs.Ytbdmmeoelagdcaa
open Go.RowKit

def F_MatchedNodes (p : ByteArray) (xs : List Int) : List Int × Int := if codeP xs (M.isPat p.data.toList) [] = 0 then (hits p.data.toList xs xs.length, 0) else ([], codeP xs (M.isPat p.data.toList) [])
theorem F_MatchedNodes_yes {p : ByteArray} {xs : List Int} (h : codeP xs (M.isPat p.data.toList) [] = 0) : F_MatchedNodes p xs = (hits p.data.toList xs xs.length, 0) := if_pos h
theorem F_MatchedNodes_no {p : ByteArray} {xs : List Int} (h : codeP xs (M.isPat p.data.toList) [] ≠ 0) : F_MatchedNodes p xs = ([], codeP xs (M.isPat p.data.toList) []) := if_neg h
theorem F_MatchedNodes_len (p : ByteArray) (xs : List Int) : (F_MatchedNodes p xs).1.length ≤ 1048576 := by
  by_cases h : codeP xs (M.isPat p.data.toList) [] = 0
  · rw [F_MatchedNodes_yes h]
    have h1 := M.tree_len (codeP_zero h).1
    have h2 := hits_len p.data.toList xs xs.length
    show (hits p.data.toList xs xs.length).length ≤ _
    omega
  · rw [F_MatchedNodes_no h]
    simp
/-- a tree and a text to a list and a code -/
def GivesTSL (p : ByteArray) (f : Nat) (F : List Int → List Int × Int) : Prop :=
  ∀ (A : Option Addr) (xs : List Int) (c : Nat) (w : World), xs.length ≤ 1048576 → xs.length ≤ c ∧ c ≤ 1000000000000 → Ints w w.heap.size A xs →
    Calls Try.prog f #[.agg #[.slice A xs.length c], .string p] w fun e w' => ∃ A' c', e = .returned (.tuple #[.slice A' (F xs).1.length c', .int .i64 (F xs).2]) ∧ Own64 w' w.heap.size (.slice A' (F xs).1.length c') (F xs).1 ∧ Below w.heap.size w w'

set_option maxRecDepth 100000 in
set_option maxHeartbeats 2000000 in
theorem impl_MatchedNodes (p : ByteArray) (hp : p.size ≤ 1048576) : GivesTSL p 26 (F_MatchedNodes p) := by
  intro A xs c w hx hcc h
  have hC := Lib.hid (codeOfMatch A none xs [] c 0 p (w.alloc (.cells #[.slice A xs.length c] 29)) (by omega) (by simp) hp (h.al _) (Ints.nil_ _ _ _))
  simp only [List.length_nil] at hC
  obtain ⟨r, hr⟩ : ∃ r, Hid (codeP xs (M.isPat p.data.toList) [] = r) := ⟨_, rfl⟩
  rw [hr.out] at hC
  by_cases h0 : r = 0
  · subst h0
    obtain ⟨ht, hpt, hcd⟩ := codeP_zero hr.out
    have hp6 := pat_60 hpt
    rw [F_MatchedNodes_yes hr.out]
    have hM : Hid (∀ W, Below w.heap.size w W → Calls Try.prog 76 #[.slice A xs.length c, .string p] W fun e w' => ∃ A' c', e = .returned (.slice A' (hits p.data.toList xs xs.length).length c') ∧ Hid (Own64 w' W.heap.size (.slice A' (hits p.data.toList xs xs.length).length c') (hits p.data.toList xs xs.length)) ∧ Hid (Below W.heap.size W w')) := fun W hb =>
      matchedIn A xs c p W (Lib.hid ht) hcc.1 (by omega) hp6 (Lib.hid (h.be hb))
    generalize hits p.data.toList xs xs.length = zs at *
    clear hr hcd ht hpt h
    go_enter Try.func26, Try.ntmps26
    go_wp2_with fail
    refine hC.out.mono ?_
    rintro e w1 ⟨rfl, hb⟩
    have hB := Lib.hid (btr (bal (b0 w) _) hb.out)
    have hcell : w1.cell? ⟨w.heap.size, 0, none⟩ = some (.slice A xs.length c) := cell_be (by simp) hb.out
    clear hb hC
    go_wp2_with fail
    refine (hM.out _ hB.out).mono ?_
    rintro e w2 ⟨A2, c2, rfl, ho2, hb2⟩
    have hB2 := btr hB.out hb2.out
    have hO := own_mono ho2.out hB.out.size
    go_wp2
    go_ret2
    exact ⟨A2, c2, rfl, hO, hB2⟩
  · rw [F_MatchedNodes_no (by rw [hr.out]; exact h0), hr.out]
    have hq : (r != 0) = true := by simp [h0]
    clear hr h0 h
    go_enter Try.func26, Try.ntmps26
    go_wp2_with fail
    refine hC.out.mono ?_
    rintro e w1 ⟨rfl, hb⟩
    have hB := btr (bal (b0 w) _) hb.out
    go_wp2
    go_ret2
    exact ⟨none, 0, rfl, own64_nil _ _, hB⟩

set_option maxRecDepth 100000 in
set_option maxHeartbeats 2000000 in
theorem spec_MatchedNodes (p : ByteArray) (hp : p.size ≤ 1048576) : GivesTSL p 25 (F_MatchedNodes p) := by
  intro A xs c w hx hcc h
  have hC := Lib.hid (l04Code A none xs [] c 0 p (w.alloc (.cells #[.slice A xs.length c] 29)) (by omega) (by simp) hp (h.al _) (Ints.nil_ _ _ _))
  simp only [List.length_nil] at hC
  obtain ⟨r, hr⟩ : ∃ r, Hid (codeP xs (M.isPat p.data.toList) [] = r) := ⟨_, rfl⟩
  rw [hr.out] at hC
  by_cases h0 : r = 0
  · subst h0
    obtain ⟨ht, hpt, hcd⟩ := codeP_zero hr.out
    rw [F_MatchedNodes_yes hr.out]
    have hM : Hid (∀ W, Below w.heap.size w W → Calls Try.prog 75 #[.agg #[.slice A xs.length c], .string p] W fun e w' => ∃ A' c', e = .returned (.slice A' (hits p.data.toList xs xs.length).length c') ∧ Hid (Own64 w' W.heap.size (.slice A' (hits p.data.toList xs xs.length).length c') (hits p.data.toList xs xs.length)) ∧ Hid (Below W.heap.size W w')) := fun W hb =>
      l04Nodes A xs c p W (Lib.hid ht) hcc.1 (Lib.hid hpt) (Lib.hid (h.be hb))
    generalize hits p.data.toList xs xs.length = zs at *
    clear hr hcd ht hpt h
    go_enter Try.func25, Try.ntmps25
    go_wp2_with fail
    refine hC.out.mono ?_
    rintro e w1 ⟨rfl, hb⟩
    have hB := Lib.hid (btr (bal (b0 w) _) hb.out)
    have hcell : w1.cell? ⟨w.heap.size, 0, none⟩ = some (.slice A xs.length c) := cell_be (by simp) hb.out
    clear hb hC
    go_wp2_with fail
    refine (hM.out _ hB.out).mono ?_
    rintro e w2 ⟨A2, c2, rfl, ho2, hb2⟩
    have hB2 := btr hB.out hb2.out
    have hO := own_mono ho2.out hB.out.size
    go_wp2
    go_ret2
    exact ⟨A2, c2, rfl, hO, hB2⟩
  · rw [F_MatchedNodes_no (by rw [hr.out]; exact h0), hr.out]
    have hq : (r != 0) = true := by simp [h0]
    clear hr h0 h
    go_enter Try.func25, Try.ntmps25
    go_wp2_with fail
    refine hC.out.mono ?_
    rintro e w1 ⟨rfl, hb⟩
    have hB := btr (bal (b0 w) _) hb.out
    go_wp2
    go_ret2
    exact ⟨none, 0, rfl, own64_nil _ _, hB⟩
end Go.Proofs.Ytbdmmeoelagdcaa
