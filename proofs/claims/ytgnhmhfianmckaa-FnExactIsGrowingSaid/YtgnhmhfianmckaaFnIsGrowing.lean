/- IsGrowing, the program's and the model's: whether a list of all nodes is a growing order, or a code. -/
import Derived.Test.YtgnhmhfianmckaaOrdSteps
namespace Go.Proofs.Ytgnhmhfianmckaa
open Go.RowKit

noncomputable def F_IsGrowing (xs l : List Int) : Bool × Int := if M.gcode2 xs l = 0 then (M.grows (M.parents xs) l, 0) else (false, M.gcode2 xs l)
theorem F_Is_yes {xs l : List Int} (h : M.gcode2 xs l = 0) : F_IsGrowing xs l = (M.grows (M.parents xs) l, 0) := by rw [F_IsGrowing, if_pos h]
theorem F_Is_no {xs l : List Int} (h : M.gcode2 xs l ≠ 0) : F_IsGrowing xs l = (false, M.gcode2 xs l) := by rw [F_IsGrowing, if_neg h]

set_option maxHeartbeats 4000000 in
set_option maxRecDepth 100000 in
theorem impl_IsGrowing : GivesOB 21 F_IsGrowing := by
  intro A A2 xs l c c2 w hx hl hcc hcc2 h h2
  obtain ⟨W, hW⟩ : ∃ W, W = (w.alloc (.cells #[.slice A xs.length c] 28)).alloc (.cells #[.slice A xs.length c, .slice A2 l.length c2] 54) := ⟨_, rfl⟩
  obtain ⟨f0, f1⟩ := order_cells (w.alloc (.cells #[.slice A xs.length c] 28)) (.slice A xs.length c) (.slice A2 l.length c2) 54
  rw [World.size_alloc] at f0 f1
  have hzW : W.heap.size = w.heap.size + 1 + 1 := by rw [hW]; simp
  have hB0 : Hid (Below w.heap.size w W) := by rw [hW]; exact bal (bal (b0 w) _) _
  have H1 : Hid (Ints W W.heap.size A xs) := by rw [hW]; exact (h.al _).al _
  have H2 : Hid (Ints W W.heap.size A2 l) := by rw [hW]; exact (h2.al _).al _
  rw [← hW] at f0 f1
  have HW := Lib.hid hW
  have hS2 : Hid (StepsIn (W.alloc (.cells #[.func (.func 57) #[] #[], .func (.func 58) #[] #[]] 87)) W.heap.size 2) := steps2_in W
  obtain ⟨r, hr⟩ : ∃ r, Hid (M.gcode2 xs l = r) := ⟨_, rfl⟩
  have HC := Lib.hid (codeTwo A A2 xs l c c2 W.heap.size (W.alloc (.cells #[.func (.func 57) #[] #[], .func (.func 58) #[] #[]] 87)) hx hcc (Lib.hid (H1.out.al _)) (Lib.hid (H2.out.al _)) hS2 r hr)
  have hB1 := Lib.hid (bal hB0.out (.cells #[.func (.func 57) #[] #[], .func (.func 58) #[] #[]] 87))
  have f0' := cellOf_al f0 (.cells #[.func (.func 57) #[] #[], .func (.func 58) #[] #[]] 87)
  have f1' := cellOf_al f1 (.cells #[.func (.func 57) #[] #[], .func (.func 58) #[] #[]] 87)
  rw [hzW] at HC
  by_cases h0 : r = 0
  · subst h0
    have hz := M.gcode2_zero hr.out
    have Ht := Lib.hid hz.1
    have Ho := Lib.hid hz.2
    have hll := (M.isOrd_iff.1 Ho.out).1
    obtain ⟨g, hg⟩ : ∃ g, Hid (M.grows (M.parents xs) l = g) := ⟨_, rfl⟩
    have hF : F_IsGrowing xs l = (g, 0) := by rw [← hg.out]; exact F_Is_yes hr.out
    rw [hF]
    have hSt : ∀ X, Below W.heap.size W X → Calls Try.prog 59 #[.agg #[.slice A xs.length c, .slice A2 l.length c2]] X fun e w' => e = .returned (.int .i64 (if g then 0 else 5)) ∧ Below X.heap.size X w' := by
      intro X hX
      have := stateCode A A2 xs l c c2 xs.length X rfl hcc.1 hcc.2 Ht Ho (H1.out.be hX) (H2.out.be hX) (if g then 0 else 5) (by show _ = _; rw [hg.out])
      rw [hll]
      exact this
    have HSt := Lib.hid hSt
    clear hz hF hll hr hSt h h2 Ho Ht hg
    go_enter Try.func21, Try.ntmps21
    clear hW
    go_wp2_with fail
    rw [← HW.out]
    refine HC.out.mono ?_
    rintro e w5 ⟨rfl, hb⟩
    have f0 := cellOf_be f0' hb
    have f1 := cellOf_be f1' hb
    have hBW := Lib.hid (btr (bal (b0 W) _) hb)
    have hB5 := Lib.hid (btr hB1.out hb)
    clear f0' f1' hb HC HW hzW hS2
    go_wp2_with fail
    refine (HSt.out w5 hBW.out).mono ?_
    rintro e w6 ⟨rfl, hb⟩
    have hB6 := Lib.hid (btr hB5.out hb)
    cases g
    · go_wp2
      go_ret2
      exact ⟨rfl, hB6.out⟩
    · go_wp2
      go_ret2
      exact ⟨rfl, hB6.out⟩
  · have hF : F_IsGrowing xs l = (false, r) := by rw [← hr.out]; exact F_Is_no (by rw [hr.out]; exact h0)
    have h01 : (r != 0) = true := by simpa using h0
    rw [hF]
    clear hF h h2
    go_enter Try.func21, Try.ntmps21
    clear hW
    go_wp2_with fail
    rw [← HW.out]
    refine HC.out.mono ?_
    rintro e w5 ⟨rfl, hb⟩
    have hB5 := Lib.hid (btr hB1.out hb)
    clear f0' f1' hb HC HW hzW hS2
    go_wp2
    go_ret2
    exact ⟨rfl, hB5.out⟩

set_option maxHeartbeats 4000000 in
set_option maxRecDepth 100000 in
theorem spec_IsGrowing : GivesOB 18 F_IsGrowing := by
  intro A A2 xs l c c2 w hx hl hcc hcc2 h h2
  have hB0 := Lib.hid (bal (b0 w) (.cells #[.slice A xs.length c] 28))
  obtain ⟨r, hr⟩ : ∃ r, Hid (M.gcode xs l = r) := ⟨_, rfl⟩
  have hC := l09Code A A2 xs l c c2 (w.alloc (.cells #[.slice A xs.length c] 28)) hx hl (h.al _) (h2.al _)
  rw [hr.out] at hC
  have HC := Lib.hid hC
  have hcase : (r = 5 ∧ F_IsGrowing xs l = (false, 0)) ∨ (r = 0 ∧ F_IsGrowing xs l = (true, 0)) ∨ ((r = 1 ∨ r = 2) ∧ F_IsGrowing xs l = (false, r)) := by
    have hg := hr.out
    rw [M.gcode] at hg
    by_cases h2 : M.gcode2 xs l = 0
    · rw [if_pos h2] at hg
      rw [F_Is_yes h2]
      cases hgr : M.grows (M.parents xs) l
      · rw [hgr] at hg; exact .inl ⟨hg.symm, rfl⟩
      · rw [hgr] at hg; exact .inr (.inl ⟨hg.symm, rfl⟩)
    · rw [if_neg h2] at hg
      rw [F_Is_no h2, hg]
      refine .inr (.inr ⟨?_, rfl⟩)
      rw [M.gcode2] at hg h2
      rcases Bool.eq_false_or_eq_true (M.isTree xs) with ht | ht
      · rw [if_pos ht] at hg h2
        rcases Bool.eq_false_or_eq_true (M.isOrd xs.length l) with ho | ho
        · rw [if_pos ho] at h2; exact absurd rfl h2
        · rw [if_neg (by rw [ho]; simp)] at hg; exact .inr hg.symm
      · rw [if_neg (by rw [ht]; simp)] at hg; exact .inl hg.symm
  clear hC h h2 hr
  rcases hcase with ⟨e, hF⟩ | ⟨e, hF⟩ | ⟨e, hF⟩
  · subst e
    rw [hF]
    clear hF
    go_enter Try.func18, Try.ntmps18
    go_wp2_with fail
    refine HC.out.mono ?_
    rintro e w1 ⟨rfl, hb⟩
    have hB1 := Lib.hid (btr hB0.out hb)
    go_wp2
    go_ret2
    exact ⟨rfl, hB1.out⟩
  · subst e
    rw [hF]
    clear hF
    go_enter Try.func18, Try.ntmps18
    go_wp2_with fail
    refine HC.out.mono ?_
    rintro e w1 ⟨rfl, hb⟩
    have hB1 := Lib.hid (btr hB0.out hb)
    go_wp2
    go_ret2
    exact ⟨rfl, hB1.out⟩
  · rw [hF]
    clear hF
    rcases e with e | e
    all_goals
      subst e
      go_enter Try.func18, Try.ntmps18
      go_wp2_with fail
      refine HC.out.mono ?_
      rintro e w1 ⟨rfl, hb⟩
      have hB1 := Lib.hid (btr hB0.out hb)
      go_wp2
      go_ret2
      exact ⟨rfl, hB1.out⟩
end Go.Proofs.Ytgnhmhfianmckaa
