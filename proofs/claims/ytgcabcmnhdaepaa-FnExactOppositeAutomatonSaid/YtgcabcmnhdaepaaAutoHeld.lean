/- heldAutomaton: the numbers that markAutomaton wrote are there; what tells whether the steps may be read. -/
import Derived.Test.YtgcabcmnhdaepaaAuto
namespace Go.Proofs.Ytgcabcmnhdaepaa
open Go.RowKit

set_option maxRecDepth 100000 in
set_option maxHeartbeats 2000000 in
theorem heldAutomaton (st : Int) (As Ag : Option Addr) (Ss : List (List Int)) (m cm g cg : Nat) (k0 : Int) (hk0 : 0 ≤ k0) (hk1 : k0 ≤ 10000000000) (w : World) (hm : Hid (Ss.length = m)) (hm' : m ≤ 100000) (hg' : g ≤ 1048576) (hz : Hid (∀ zs ∈ Ss, zs.length ≤ 100000)) (hT : Hid (M.tot Ss ≤ 1048576))
    (hR : Hid (Rows0 w As (M.partM k0 Ss m))) (hG : Hid (Ints w w.heap.size Ag (marks (k0 + (M.tot Ss : Int)) g))) :
    Calls Try.prog 24 #[.agg #[.int .i64 st, .slice As m cm, .slice Ag g cg], .int .i64 k0] w fun e w' => e = .returned (.int .i64 (k0 + (M.tot Ss : Int) + (g : Int))) ∧ Hid (Below w.heap.size w w') := by
  obtain ⟨T, hTt⟩ : ∃ T, Hid (M.tot Ss = T) := ⟨_, rfl⟩
  obtain ⟨W, hW⟩ : ∃ W, W = w.alloc (.cells #[.int .i64 st, .slice As m cm, .slice Ag g cg] 27) := ⟨_, rfl⟩
  have C1 : Hid (BoxA W w.heap.size st As m cm Ag g cg) := by subst hW; exact BoxA.new _ _ _ _ _ _ _ _ _
  have hBW : Hid (Below w.heap.size w W) := by subst hW; exact bal (b0 w) _
  have HW := Lib.hid hW
  clear hW
  have HM := Lib.hid (heldInt64SS As m cm Ss k0 W hm hm' hz hk0 (by omega) (Lib.hid (hR.out.be hBW.out)))
  rw [hTt.out] at HM hT hG ⊢
  have hTT := hT.out
  have HG : Hid (∀ X, Hid (Below w.heap.size w X) → Calls Try.prog 31 #[.slice Ag g cg, .int .i64 (k0 + (T : Int))] X fun e w' => e = .returned (.int .i64 (k0 + (T : Int) + (g : Int))) ∧ X = w') := fun X hX => heldInts Ag g cg (k0 + (T : Int)) X (by omega) (by omega) (by omega) (hG.out.be hX.out)
  have q1 : ¬ k0 + (T : Int) < 0 := by omega
  have q2 : ¬ k0 + (T : Int) + (g : Int) < 0 := by omega
  clear hT hG hR
  go_enter Try.func24, Try.ntmps24
  go_wp2_with fail
  rw [← HW.out]
  obtain ⟨a0, a1, a2⟩ := C1.out
  refine HM.out.mono ?_
  rintro e w1 ⟨rfl, hb⟩
  have B1 : Hid (Below w.heap.size w w1) := btr hBW.out hb
  obtain ⟨c0, c1, c2⟩ := C1.out.be hb
  clear a0 a1 a2 hb HM
  go_wp2_with fail
  refine (HG.out _ B1).mono ?_
  rintro e w2 ⟨rfl, rfl⟩
  go_wp2
  go_ret
  exact ⟨rfl, B1⟩
end Go.Proofs.Ytgcabcmnhdaepaa
