/- limitCode, and CountGrowing, the program's: the number of growing orders, or a code. -/
import Derived.Test.YtbdmmeoelagdcaaWays9
import Derived.Test.YtbdmmeoelagdcaaCodeBy
import Derived.Test.YtbdmmeoelagdcaaParsEx
import Derived.Test.YtbdmmeoelagdcaaGives
namespace Go.Proofs.Ytbdmmeoelagdcaa
open Go.RowKit

namespace M
def fewCode (xs : List Int) : Int := if isTree xs then (if xs.length ≤ 20 then 0 else 3) else 1
def codesF (xs : List Int) : List Int := [if isTree xs then 0 else 1, if xs.length ≤ 20 then 0 else 3]
theorem codesF_first (xs : List Int) : firstCode (codesF xs) = fewCode xs := by
  simp only [codesF, fewCode, firstCode]
  cases isTree xs <;> by_cases h : xs.length ≤ 20 <;> simp [h]
theorem fewCode_zero {xs : List Int} (h : fewCode xs = 0) : isTree xs = true ∧ xs.length ≤ 20 := by
  simp only [fewCode] at h
  cases ht : isTree xs
  · rw [ht] at h; simp at h
  · rw [ht] at h
    by_cases h2 : xs.length ≤ 20
    · exact ⟨rfl, h2⟩
    · simp [h2] at h
end M
def F_CountGrowing (xs : List Int) : Int × Int := if M.fewCode xs = 0 then ((M.waysN xs [] : Int), 0) else (0, M.fewCode xs)
theorem F_CountGrowing_yes {xs : List Int} (h : M.fewCode xs = 0) : F_CountGrowing xs = ((M.waysN xs [] : Int), 0) := by rw [F_CountGrowing, if_pos h]
theorem F_CountGrowing_no {xs : List Int} (h : M.fewCode xs ≠ 0) : F_CountGrowing xs = (0, M.fewCode xs) := by rw [F_CountGrowing, if_neg h]

set_option maxHeartbeats 1000000 in
theorem limitCode (A A2 : Option Addr) (n c n2 c2 : Nat) (w : World) (r : Int) (hr : Hid ((if n ≤ 20 then 0 else 3) = r)) :
    Calls Try.prog 112 #[.agg #[.slice A n c, .slice A2 n2 c2]] w fun e w' => e = .returned (.int .i64 r) ∧ Below w.heap.size w w' := by
  have hB := Lib.hid (bal (b0 w) (.cells #[.slice A n c, .slice A2 n2 c2] 118))
  obtain ⟨d0, d1⟩ := order_cells w (.slice A n c) (.slice A2 n2 c2) 118
  by_cases h : n ≤ 20
  · have hi : ¬ (20 : Int) < (n : Int) := by omega
    have hR : r = 0 := by rw [← hr.out, if_pos h]
    subst hR
    clear hr
    go_enter Try.func112, Try.ntmps112
    go_wp2
    go_ret
    exact ⟨rfl, hB.out⟩
  · have hi : (20 : Int) < (n : Int) := by omega
    have hR : r = 3 := by rw [← hr.out, if_neg h]
    subst hR
    clear hr
    go_enter Try.func112, Try.ntmps112
    go_wp2
    go_ret
    exact ⟨rfl, hB.out⟩

def stepsF : List Nat := [111, 112]
theorem codeFew (A : Option Addr) (xs : List Int) (c g : Nat) (w : World) (hx : xs.length ≤ 1048576) (h : Hid (Ints w w.heap.size A xs)) (hg : g < w.heap.size)
    (hcells : Hid (∀ j f, stepsF[j]? = some f → w.cell? ⟨g, j, none⟩ = some (.func (.func f) #[] #[]))) (r : Int) (hr : Hid (M.fewCode xs = r)) :
    Calls Try.prog 110 #[.agg #[.slice A xs.length c, .slice none 0 0], .slice (some ⟨g, 0, none⟩) 2 2] w fun e w' => e = .returned (.int .i64 r) ∧ Below w.heap.size w w' := by
  refine codeBy A none xs.length c 0 0 g 2 2 stepsF (M.codesF xs) w (by omega) rfl rfl hg hcells ?_ ?_ r (by rw [← hr.out]; exact M.codesF_first xs)
  · intro f hf
    simp only [stepsF, List.mem_cons, List.not_mem_nil, or_false] at hf
    rcases hf with e | e
    · exact .inl e
    · exact .inr (.inr (.inr e))
  · intro j f q hf hq hz X hX
    match j with
    | 0 =>
      simp only [stepsF, M.codesF, List.getElem?_cons_zero, Option.some.injEq] at hf hq
      subst hf
      exact treeCode A none xs c 0 0 X (by omega) (h.out.be hX.out) q hq
    | 1 =>
      simp only [stepsF, M.codesF, List.getElem?_cons_succ, List.getElem?_cons_zero, Option.some.injEq] at hf hq
      subst hf
      exact limitCode A none xs.length c 0 0 X q hq
    | j + 2 => simp [stepsF] at hf
theorem stepsF_in (w : World) : Hid (∀ j f, stepsF[j]? = some f → (w.alloc (.cells #[.func (.func 111) #[] #[], .func (.func 112) #[] #[]] 150)).cell? ⟨w.heap.size, j, none⟩ = some (.func (.func f) #[] #[])) := by
  intro j f hf
  rw [World.cell?_alloc_new]
  match j with
  | 0 => simp [stepsF] at hf; subst hf; rfl
  | 1 => simp [stepsF] at hf; subst hf; rfl
  | j + 2 => simp [stepsF] at hf

set_option maxHeartbeats 4000000 in
set_option maxRecDepth 100000 in
theorem impl_CountGrowing : GivesNum 61 F_CountGrowing := by
  intro A xs c w hx hcc h
  obtain ⟨W, hW⟩ : ∃ W, W = (w.alloc (.cells #[.slice A xs.length c] 29)).alloc (.cells #[.slice A xs.length c, .slice none 0 0] 118) := ⟨_, rfl⟩
  obtain ⟨f0, f1⟩ := order_cells (w.alloc (.cells #[.slice A xs.length c] 29)) (.slice A xs.length c) (.slice none 0 0) 118
  rw [World.size_alloc] at f0 f1
  have hzW : W.heap.size = w.heap.size + 1 + 1 := by rw [hW]; simp
  have hB0 : Hid (Below w.heap.size w W) := by rw [hW]; exact bal (bal (b0 w) _) _
  have H1 : Hid (Ints W W.heap.size A xs) := by rw [hW]; exact (h.al _).al _
  rw [← hW] at f0 f1
  have HW := Lib.hid hW
  obtain ⟨r, hr⟩ : ∃ r, Hid (M.fewCode xs = r) := ⟨_, rfl⟩
  have HC := Lib.hid (codeFew A xs c W.heap.size (W.alloc (.cells #[.func (.func 111) #[] #[], .func (.func 112) #[] #[]] 150)) hx (Lib.hid (H1.out.al _)) (by simp) (stepsF_in W) r hr)
  have hB1 := Lib.hid (bal hB0.out (.cells #[.func (.func 111) #[] #[], .func (.func 112) #[] #[]] 150))
  have f0' := cellOf_al f0 (.cells #[.func (.func 111) #[] #[], .func (.func 112) #[] #[]] 150)
  have f1' := cellOf_al f1 (.cells #[.func (.func 111) #[] #[], .func (.func 112) #[] #[]] 150)
  rw [hzW] at HC
  by_cases h0 : r = 0
  · subst h0
    have hz := M.fewCode_zero hr.out
    have Ht := Lib.hid hz.1
    have h20 := hz.2
    obtain ⟨R, hR⟩ : ∃ R, Hid (M.waysN xs [] = R) := ⟨_, rfl⟩
    have hF : F_CountGrowing xs = ((R : Int), 0) := by rw [← hR.out]; exact F_CountGrowing_yes hr.out
    rw [hF]
    have hex : Hid (M.ParsOK xs (M.parents xs)) := by
      obtain ⟨ps, hp⟩ := M.pars_ex9 Ht.out
      show M.ParsOK _ _
      rw [M.parents_eq Ht.out hp]
      exact hp
    have HWy := Lib.hid (fun X (hX : Below W.heap.size W X) => ways9 A none xs [] xs.length c 0 0 X rfl h20 hcc.1 hcc.2 Ht (M.bgn_nil _ _) rfl hex (Lib.hid (H1.out.be hX)) (Ints.nil_ _ _ _))
    rw [hR.out] at HWy
    clear hz hF hr h hex
    go_enter Try.func61, Try.ntmps61
    clear hW
    go_wp2_with fail
    rw [← HW.out]
    refine HC.out.mono ?_
    rintro e w5 ⟨rfl, hb⟩
    have f0 := cellOf_be f0' hb
    have f1 := cellOf_be f1' hb
    have hBW := Lib.hid (btr (bal (b0 W) _) hb)
    have hB5 := Lib.hid (btr hB1.out hb)
    clear f0' f1' hb HC HW hzW
    go_wp2_with fail
    refine (HWy.out w5 hBW.out).mono ?_
    rintro e w6 ⟨rfl, hb⟩
    have hB6 := Lib.hid (btr hB5.out hb)
    go_wp2
    go_ret2
    exact ⟨rfl, hB6.out⟩
  · have hF : F_CountGrowing xs = (0, r) := by rw [← hr.out]; exact F_CountGrowing_no (by rw [hr.out]; exact h0)
    have h01 : (r != 0) = true := by simpa using h0
    rw [hF]
    clear hF h
    go_enter Try.func61, Try.ntmps61
    clear hW
    go_wp2_with fail
    rw [← HW.out]
    refine HC.out.mono ?_
    rintro e w5 ⟨rfl, hb⟩
    have hB5 := Lib.hid (btr hB1.out hb)
    clear f0' f1' hb HC HW hzW
    go_wp2
    go_ret2
    exact ⟨rfl, hB5.out⟩
end Go.Proofs.Ytbdmmeoelagdcaa
