/- TidyColumns, the program's and the model's: the columns of the tidy drawing, or a code. -/
import Derived.Test.YtamnilpmdccgoaaTidyIn
import Derived.Test.YtamnilpmdccgoaaTidyCols
import Derived.Test.YtamnilpmdccgoaaGives
import Derived.StillTailTactics
namespace Go.Proofs.Ytamnilpmdccgoaa
open Go.RowKit

theorem M.deps_ex {xs : List Int} (ht : M.isTree xs = true) : ∃ ds, M.DepsOK xs ds := by
  have h : ∀ k, k ≤ xs.length → ∃ ds, M.PartD xs k 0 ds := by
    intro k
    induction k with
    | zero => intro _; exact ⟨_, M.partD_start ht⟩
    | succ k ih =>
      intro hk
      obtain ⟨ds, hd⟩ := ih (by omega)
      obtain ⟨d, hx, _⟩ := M.tree_degN ht (v := k) (by omega)
      have h2 : ∀ j, j ≤ d → ∃ ds, M.PartD xs k j ds := by
        intro j
        induction j with
        | zero => intro _; exact ⟨ds, hd⟩
        | succ j ihj =>
          intro hj
          obtain ⟨es, he⟩ := ihj (by omega)
          obtain ⟨y, hy⟩ : ∃ y, es[k]? = some y := ⟨_, List.getElem?_eq_getElem (by rw [he.1]; omega)⟩
          exact ⟨_, M.partD_step ht he hx hj hy⟩
      obtain ⟨es, he⟩ := h2 d (Nat.le_refl _)
      exact ⟨es, M.partD_next he hx⟩
  obtain ⟨ds, hd⟩ := h xs.length (Nat.le_refl _)
  exact ⟨ds, M.partD_done ht hd⟩
noncomputable def F_TidyColumns (xs : List Int) : List Int × Int := M.cond xs (M.tidy xs (M.depths xs))
theorem F_TidyColumns_len (xs : List Int) : (F_TidyColumns xs).1.length ≤ 1048576 := by
  cases ht : M.isTree xs
  · rw [F_TidyColumns, M.cond_no ht]; simp
  · rw [F_TidyColumns, M.cond_yes ht]
    have h2 := (M.tree_len ht).2
    obtain ⟨ds, hd⟩ := M.deps_ex ht
    show (M.tidy xs (M.depths xs)).length ≤ _
    rw [M.depths_eq ht hd, M.tidy_len ht hd]
    omega

theorem tidyL {xs : List Int} (ht : M.isTree xs = true) : (M.tidy xs (M.depths xs)).length = xs.length := by
  obtain ⟨ds, hd⟩ := M.deps_ex ht
  rw [M.depths_eq ht hd, M.tidy_len ht hd]

set_option maxHeartbeats 2000000 in
theorem impl_TidyColumns : GivesList 28 F_TidyColumns := by
  intro A xs c w hx hcc h
  have hc := codeOf0 A xs c (w.alloc (.cells #[.slice A xs.length c] 28)) (by omega) (h.al _) _ rfl
  cases ht : M.isTree xs
  · rw [ht] at hc
    have HC := Lib.hid hc
    have hF : F_TidyColumns xs = ([], 1) := M.cond_no ht
    rw [hF]
    clear hc ht hF
    go_enter Try.func28, Try.ntmps28
    go_wp2_with fail
    refine HC.out.mono ?_
    rintro e w1 ⟨rfl, hb⟩
    have hB := btr (bal (b0 w) _) hb
    go_wp2
    go_ret2
    exact ⟨none, 0, rfl, own64_nil _ _, hB⟩
  · rw [ht] at hc
    have HC := Lib.hid hc
    have hF : F_TidyColumns xs = (M.tidy xs (M.depths xs), 0) := M.cond_yes ht
    have Ht := Lib.hid ht
    rw [hF]
    clear hc ht hF
    have hl := Lib.hid (tidyL Ht.out)
    go_enter Try.func28, Try.ntmps28
    go_wp2_with fail
    refine HC.out.mono ?_
    rintro e w1 ⟨rfl, hb⟩
    have hB := Lib.hid (btr (bal (b0 w) _) hb)
    have hcell : w1.cell? ⟨w.heap.size, 0, none⟩ = some (.slice A xs.length c) := cell_be (by simp) hb
    have h1 := Lib.hid ((h.al _).be hb)
    have z1 := hB.out.size
    clear hb h HC
    go_wp2_with fail
    refine ((callsIn_wide (n := 5)).1 (tidyIn_in A xs c _ hcc.1 hcc.2 Ht h1)).mono ?_
    rintro e w2 ⟨A', c', rfl, ho, hb⟩
    have hB2 := Lib.hid (btr hB.out hb)
    clear hb
    go_wp2
    go_ret2
    rw [hl.out]
    exact ⟨A', c', rfl, own_mono ho.out z1, hB2.out⟩

set_option maxHeartbeats 8000000 in
set_option maxRecDepth 100000 in
theorem spec_TidyColumns : GivesList 27 F_TidyColumns := by
  intro A xs c w hx hcc h
  have hc := specIs A xs c (w.alloc (.cells #[.slice A xs.length c] 28)) (by omega) (h.al _)
  cases ht : M.isTree xs
  · rw [ht] at hc
    have HC := Lib.hid hc
    have hF : F_TidyColumns xs = ([], 1) := M.cond_no ht
    rw [hF]
    clear hc ht hF
    go_enter Try.func27, Try.ntmps27
    go_wp2_with fail
    refine HC.out.mono ?_
    rintro e w1 ⟨rfl, hb⟩
    have hB := btr (bal (b0 w) _) hb
    go_wp2
    go_ret2
    exact ⟨none, 0, rfl, own64_nil _ _, hB⟩
  · rw [ht] at hc
    have HC := Lib.hid hc
    have hF : F_TidyColumns xs = (M.tidy xs (M.depths xs), 0) := M.cond_yes ht
    have Ht := Lib.hid ht
    rw [hF]
    clear hc ht hF
    have hl := Lib.hid (tidyL Ht.out)
    go_enter Try.func27, Try.ntmps27
    go_wp2_with fail
    refine HC.out.mono ?_
    rintro e w1 ⟨rfl, hb⟩
    have hB := Lib.hid (btr (bal (b0 w) _) hb)
    have hcell : w1.cell? ⟨w.heap.size, 0, none⟩ = some (.slice A xs.length c) := cell_be (by simp) hb
    have h1 := Lib.hid ((h.al _).be hb)
    have z1 := hB.out.size
    clear hb h HC
    go_wp2_with fail
    refine (l08Columns A xs c _ Ht h1).mono ?_
    rintro e w2 ⟨A', c', rfl, ho, hb⟩
    have hB2 := Lib.hid (btr hB.out hb.out)
    clear hb
    go_wp2
    go_ret2
    rw [hl.out]
    exact ⟨A', c', rfl, own_mono ho.out z1, hB2.out⟩
end Go.Proofs.Ytamnilpmdccgoaa
