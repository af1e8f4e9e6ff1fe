/- orderSteps; the code of a growing order by all its steps, or by the first two, as a contract for any world. -/
import Derived.Test.YtgnhmhfianmckaaL09Code
import Derived.Test.YtgnhmhfianmckaaGivesO
namespace Go.Proofs.Ytgnhmhfianmckaa
open Go.RowKit

/-- the first ones of the three steps lie in a block -/
def StepsIn (W : World) (g len : Nat) : Prop := g < W.heap.size ∧ ∀ j f, (steps3.take len)[j]? = some f → W.cell? ⟨g, j, none⟩ = some (.func (.func f) #[] #[])

theorem orderSteps (w : World) : Calls Try.prog 72 #[] w fun e w' => ∃ g, e = .returned (.slice (some ⟨g, 0, none⟩) 3 3) ∧ Hid (StepsIn w' g 3) ∧ Below w.heap.size w w' := by
  have hS : Hid (StepsIn (w.alloc (.cells #[.func (.func 57) #[] #[], .func (.func 58) #[] #[], .func (.func 59) #[] #[]] 87)) w.heap.size 3) := by
    refine ⟨by simp, fun j f hf => ?_⟩
    rw [World.cell?_alloc_new]
    match j with
    | 0 => simp [steps3] at hf; subst hf; rfl
    | 1 => simp [steps3] at hf; subst hf; rfl
    | 2 => simp [steps3] at hf; subst hf; rfl
    | j + 3 => simp [steps3] at hf
  have hb := bal (b0 w) (.cells #[.func (.func 57) #[] #[], .func (.func 58) #[] #[], .func (.func 59) #[] #[]] 87)
  go_enter Try.func72, Try.ntmps72
  go_wp2
  go_ret
  exact ⟨_, rfl, hS, hb⟩

theorem steps2_in (w : World) : StepsIn (w.alloc (.cells #[.func (.func 57) #[] #[], .func (.func 58) #[] #[]] 87)) w.heap.size 2 := by
  refine ⟨by simp, fun j f hf => ?_⟩
  rw [World.cell?_alloc_new]
  match j with
  | 0 => simp [steps3] at hf; subst hf; rfl
  | 1 => simp [steps3] at hf; subst hf; rfl
  | j + 2 => simp [steps3] at hf

/-- all three steps -/
theorem codeAll (A A2 : Option Addr) (xs l : List Int) (c c2 g : Nat) (w : World) (hx : xs.length ≤ 1048576) (hcc : xs.length ≤ c ∧ c ≤ 1000000000000) (h : Hid (Ints w w.heap.size A xs)) (h2 : Hid (Ints w w.heap.size A2 l)) (hs : Hid (StepsIn w g 3)) (r : Int) (hr : Hid (M.gcode xs l = r)) :
    Calls Try.prog 56 #[.agg #[.slice A xs.length c, .slice A2 l.length c2], .slice (some ⟨g, 0, none⟩) 3 3] w fun e w' => e = .returned (.int .i64 r) ∧ Below w.heap.size w w' :=
  codeThree A A2 xs l c c2 g 3 w hx hcc h h2 (.inr rfl) hs.out.1 hs.out.2 r (by rw [← hr.out]; exact M.gcode_first xs l)
/-- the first two steps -/
theorem codeTwo (A A2 : Option Addr) (xs l : List Int) (c c2 g : Nat) (w : World) (hx : xs.length ≤ 1048576) (hcc : xs.length ≤ c ∧ c ≤ 1000000000000) (h : Hid (Ints w w.heap.size A xs)) (h2 : Hid (Ints w w.heap.size A2 l)) (hs : Hid (StepsIn w g 2)) (r : Int) (hr : Hid (M.gcode2 xs l = r)) :
    Calls Try.prog 56 #[.agg #[.slice A xs.length c, .slice A2 l.length c2], .slice (some ⟨g, 0, none⟩) 2 2] w fun e w' => e = .returned (.int .i64 r) ∧ Below w.heap.size w w' :=
  codeThree A A2 xs l c c2 g 2 w hx hcc h h2 (.inl rfl) hs.out.1 hs.out.2 r (by rw [← hr.out]; exact M.gcode2_first xs l)

namespace M
noncomputable def ocond (xs l R : List Int) : List Int × Int := if gcode xs l = 0 then (R, 0) else ([], gcode xs l)
theorem ocond_yes {xs l R : List Int} (h : gcode xs l = 0) : ocond xs l R = (R, 0) := by rw [ocond, if_pos h]
theorem ocond_no {xs l R : List Int} (h : gcode xs l ≠ 0) : ocond xs l R = ([], gcode xs l) := by rw [ocond, if_neg h]
end M
end Go.Proofs.Ytgnhmhfianmckaa
