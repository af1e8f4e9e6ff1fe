/- AutomatonText, the program's and the model's. -/
import Derived.Test.YtcipafjibkclcaaATextSp
namespace Go.Proofs.Ytcipafjibkclcaa
open Go.RowKit

/-- what AutomatonText gives -/
def GivesAText (f : Nat) : Prop :=
  ∀ (st : Int) (As Ag : Option Addr) (Ss : List (List Int)) (gs : List Int) (m cm g cg : Nat) (w : World), Hid (Ss.length = m) → m ≤ 1048576 → Hid (gs.length = g) → g ≤ 1048576 → Hid (AutoR w As Ss Ag gs) →
    Calls Try.prog f #[.agg #[.int .i64 st, .slice As m cm, .slice Ag g cg]] w fun e w' => e = .returned (.tuple #[.string (F_AutomatonText st Ss gs).1, .int .i64 (F_AutomatonText st Ss gs).2]) ∧ Hid (Below w.heap.size w w')

set_option maxRecDepth 100000 in
set_option maxHeartbeats 2000000 in
theorem spec_AutomatonText : GivesAText 56 := by
  intro st As Ag Ss gs m cm g cg w hm hm' hg hg' h
  obtain ⟨W, hW⟩ : ∃ W, W = w.alloc (.cells #[.int .i64 st, .slice As m cm, .slice Ag g cg] 40) := ⟨_, rfl⟩
  have C1 : Hid (BoxA W w.heap.size st As m cm Ag g cg) := by subst hW; exact BoxA.new _ _ _ _ _ _ _ _ _
  have hBW : Hid (Below w.heap.size w W) := by subst hW; exact bal (b0 w) _
  have HW := Lib.hid hW
  clear hW
  obtain ⟨b1, hb1⟩ : ∃ b, Hid (M.isAuto st Ss gs = b) := ⟨_, rfl⟩
  have HA := Lib.hid (l06Is st As Ag Ss gs m cm g cg W hm hm' hg hg' (Lib.hid (h.out.be hBW.out)) b1 hb1)
  cases b1
  · have hno : F_AutomatonText st Ss gs = (⟨#[]⟩, 1) := by rw [F_AutomatonText, hb1.out]; rfl
    rw [hno]
    clear hno h
    go_enter Try.func56, Try.ntmps56
    go_wp2_with fail
    rw [← HW.out]
    obtain ⟨a0, a1, a2⟩ := C1.out
    refine HA.out.mono ?_
    rintro e w1 ⟨rfl, hb⟩
    have B1 : Hid (Below w.heap.size w w1) := btr hBW.out hb.out
    go_wp2
    go_ret2
    exact ⟨rfl, B1⟩
  · have hyes : F_AutomatonText st Ss gs = (M.bs (M.autoText st Ss gs), 0) := by rw [F_AutomatonText, hb1.out]; rfl
    rw [hyes]
    have hIA : Hid (M.IsA st Ss gs m) := by rw [← hm.out]; exact M.isA_of hb1.out
    have HT : Hid (∀ X, Hid (Below w.heap.size w X) → Calls Try.prog 103 #[.agg #[.int .i64 st, .slice As m cm, .slice Ag g cg]] X fun e w' => e = .returned (.string (M.bs (M.autoText st Ss gs))) ∧ Hid (Below X.heap.size X w')) := fun X hX => l06Text st As Ag Ss gs m cm g cg X hIA hg (Lib.hid (h.out.be hX.out))
    generalize M.bs (M.autoText st Ss gs) = R at *
    clear hyes h
    go_enter Try.func56, Try.ntmps56
    go_wp2_with fail
    rw [← HW.out]
    obtain ⟨a0, a1, a2⟩ := C1.out
    refine HA.out.mono ?_
    rintro e w1 ⟨rfl, hb⟩
    have B1 : Hid (Below w.heap.size w w1) := btr hBW.out hb.out
    obtain ⟨d0, d1, d2⟩ := C1.out.be hb.out
    clear a0 a1 a2 hb HA
    go_wp2_with fail
    refine (HT.out _ B1).mono ?_
    rintro e w2 ⟨rfl, hb⟩
    have B2 : Hid (Below w.heap.size w w2) := btr B1.out hb.out
    clear hb
    go_wp2
    go_ret2
    exact ⟨rfl, B2⟩
end Go.Proofs.Ytcipafjibkclcaa
