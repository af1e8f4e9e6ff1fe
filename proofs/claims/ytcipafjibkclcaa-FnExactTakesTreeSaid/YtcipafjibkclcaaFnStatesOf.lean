/- StatesOf, the program's and the model's. -/
import Derived.Test.YtcipafjibkclcaaStatesIn
import Derived.Test.YtcipafjibkclcaaIs
import Derived.Test.YtcipafjibkclcaaNodes
namespace Go.Proofs.Ytcipafjibkclcaa
open Go.RowKit

def F_StatesOf (st : Int) (Ss : List (List Int)) (gs xs : List Int) : List Int × Int := if (M.isAuto st Ss gs && M.isTree xs) = true then (M.states Ss st xs, 0) else ([], 1)

theorem statesIn (st : Int) (As Ag : Option Addr) (Ss : List (List Int)) (gs : List Int) (m cm g cg : Nat) (A : Option Addr) (xs : List Int) (c : Nat) (w : World) (hA : Hid (M.IsA st Ss gs m)) (hR : Hid (RowsL w As Ss)) (ht : Hid (M.isTree xs = true)) (hcl : xs.length ≤ c) (hcu : c ≤ 9223372036854775807) (hI : Hid (Ints w w.heap.size A xs)) :
    Calls Try.prog 76 #[.agg #[.int .i64 st, .slice As m cm, .slice Ag g cg], .slice A xs.length c] w fun e w' => e = .returned (.slice (some ⟨w.heap.size + 1 + 1, 0, none⟩) xs.length xs.length) ∧ Own64 w' w.heap.size (.slice (some ⟨w.heap.size + 1 + 1, 0, none⟩) xs.length xs.length) (M.states Ss st xs) ∧ Below w.heap.size w w' :=
  (callsIn_wide (n := 5)).1 (statesIn_in st As Ag Ss gs m cm g cg A xs c w hA hR ht hcl hcu hI)

/-- both of the answers' beginnings: an automaton and a tree, or not -/
def GivesStates (f : Nat) : Prop :=
  ∀ (st : Int) (As Ag : Option Addr) (Ss : List (List Int)) (gs : List Int) (m cm g cg : Nat) (A : Option Addr) (xs : List Int) (c : Nat) (w : World), Hid (Ss.length = m) → m ≤ 1048576 → Hid (gs.length = g) → g ≤ 1048576 → Hid (AutoR w As Ss Ag gs) → xs.length ≤ 1048576 → xs.length ≤ c → c ≤ 1000000000000 → Hid (Ints w w.heap.size A xs) →
    Calls Try.prog f #[.agg #[.int .i64 st, .slice As m cm, .slice Ag g cg], .agg #[.slice A xs.length c]] w fun e w' => ∃ A' c', e = .returned (.tuple #[.slice A' (F_StatesOf st Ss gs xs).1.length c', .int .i64 (F_StatesOf st Ss gs xs).2]) ∧ Own64 w' w.heap.size (.slice A' (F_StatesOf st Ss gs xs).1.length c') (F_StatesOf st Ss gs xs).1 ∧ Hid (Below w.heap.size w w')

set_option maxRecDepth 100000 in
set_option maxHeartbeats 2000000 in
theorem impl_StatesOf : GivesStates 32 := by
  intro st As Ag Ss gs m cm g cg A xs c w hm hm' hg hg' h hx hcl hcu hI
  obtain ⟨W, hW⟩ : ∃ W, W = (w.alloc (.cells #[.int .i64 st, .slice As m cm, .slice Ag g cg] 40)).alloc (.cells #[.slice A xs.length c] 28) := ⟨_, rfl⟩
  have C1 : Hid (BoxA W w.heap.size st As m cm Ag g cg) := by subst hW; exact (BoxA.new _ _ _ _ _ _ _ _ _).al _
  have C2 : Hid (W.cell? ⟨w.heap.size + 1, 0, none⟩ = some (.slice A xs.length c)) := by subst hW; exact World.cell?_alloc_at _ _ _ _ (by simp)
  have hBW : Hid (Below w.heap.size w W) := by subst hW; exact bal (bal (b0 w) _) _
  have HW := Lib.hid hW
  clear hW
  obtain ⟨b1, hb1⟩ : ∃ b, Hid (M.isAuto st Ss gs = b) := ⟨_, rfl⟩
  obtain ⟨b2, hb2⟩ : ∃ b, Hid (M.isTree xs = b) := ⟨_, rfl⟩
  have HA := Lib.hid (impl_IsAutomaton st As Ag Ss gs m cm g cg W hm hm' hg hg' (Lib.hid (h.out.be hBW.out)) b1 hb1)
  have hT : ∀ W', Below W.heap.size W W' → Calls Try.prog 75 #[.agg #[.slice A xs.length c]] W' fun e w' => e = .returned (.bool b2) ∧ Below W'.heap.size W' w' := fun W' hW' => by
    have := implIsTree A xs c W' (by omega) (hI.out.be (btr hBW.out hW'))
    rw [hb2.out] at this
    exact this
  have HT := Lib.hid hT
  clear hT
  have hno : (b1 && b2) = false → F_StatesOf st Ss gs xs = ([], 1) := fun e => by rw [F_StatesOf, hb1.out, hb2.out, e]; rfl
  cases b1
  · rw [hno rfl]
    clear hno h hI hb2
    go_enter Try.func32, Try.ntmps32
    go_wp2_with fail
    rw [← HW.out]
    obtain ⟨a0, a1, a2⟩ := C1.out
    refine HA.out.mono ?_
    rintro e w1 ⟨rfl, hb⟩
    have B1 : Hid (Below w.heap.size w w1) := btr hBW.out hb.out
    go_wp2
    go_ret2
    exact ⟨none, 0, rfl, own64_nil _ _, B1⟩
  · cases b2
    · rw [hno rfl]
      clear hno h hI
      go_enter Try.func32, Try.ntmps32
      go_wp2_with fail
      rw [← HW.out]
      obtain ⟨a0, a1, a2⟩ := C1.out
      refine HA.out.mono ?_
      rintro e w1 ⟨rfl, hb⟩
      have c2 := cell_be C2.out hb.out
      have B1 := hb
      clear a0 a1 a2 hb
      go_wp2_with fail
      refine (HT.out _ B1.out).mono ?_
      rintro e w2 ⟨rfl, hb⟩
      have B2 : Hid (Below w.heap.size w w2) := btr hBW.out (btr B1.out hb)
      clear hb c2
      go_wp2
      go_ret2
      exact ⟨none, 0, rfl, own64_nil _ _, B2⟩
    · have hyes : F_StatesOf st Ss gs xs = (M.states Ss st xs, 0) := by rw [F_StatesOf, hb1.out, hb2.out]; rfl
      rw [hyes]
      have hIA : Hid (M.IsA st Ss gs m) := by rw [← hm.out]; exact M.isA_of hb1.out
      have hl : (M.states Ss st xs).length = xs.length := M.states_len _ _ _
      have HL := Lib.hid hl
      have hS : ∀ W', Below W.heap.size W W' → Calls Try.prog 76 #[.agg #[.int .i64 st, .slice As m cm, .slice Ag g cg], .slice A xs.length c] W' fun e w' => e = .returned (.slice (some ⟨W'.heap.size + 1 + 1, 0, none⟩) xs.length xs.length) ∧ Own64 w' W'.heap.size (.slice (some ⟨W'.heap.size + 1 + 1, 0, none⟩) xs.length xs.length) (M.states Ss st xs) ∧ Below W'.heap.size W' w' := fun W' hW' =>
        statesIn st As Ag Ss gs m cm g cg A xs c W' hIA (Lib.hid (h.out.be (btr hBW.out hW')).rows) hb2 hcl (by omega) (Lib.hid (hI.out.be (btr hBW.out hW')))
      have HS := Lib.hid hS
      clear hno h hI hyes hl hS
      go_enter Try.func32, Try.ntmps32
      go_wp2_with fail
      rw [← HW.out]
      obtain ⟨a0, a1, a2⟩ := C1.out
      refine HA.out.mono ?_
      rintro e w1 ⟨rfl, hb⟩
      have c2 := cell_be C2.out hb.out
      have B1 := hb
      clear a0 a1 a2 hb
      go_wp2_with fail
      refine (HT.out _ B1.out).mono ?_
      rintro e w2 ⟨rfl, hb⟩
      have B2 : Hid (Below W.heap.size W w2) := btr B1.out hb
      obtain ⟨a0, a1, a2⟩ := C1.out.be B2.out
      have c2' := cell_be C2.out B2.out
      clear hb c2
      go_wp2_with fail
      refine (HS.out _ B2.out).mono ?_
      rintro e w3 ⟨rfl, ho, hb⟩
      have B3 : Hid (Below w.heap.size w w3) := btr hBW.out (btr B2.out hb)
      have hz : w.heap.size ≤ w2.heap.size := Nat.le_trans hBW.out.size B2.out.size
      have Ho : Hid (Own64 w3 w.heap.size (.slice (some ⟨w2.heap.size + 1 + 1, 0, none⟩) xs.length xs.length) (M.states Ss st xs)) := own_mono ho hz
      clear ho hb
      go_wp2
      go_ret2
      rw [HL.out]
      exact ⟨_, _, rfl, Ho.out, B3⟩

set_option maxRecDepth 100000 in
set_option maxHeartbeats 2000000 in
theorem spec_StatesOf : GivesStates 31 := by
  intro st As Ag Ss gs m cm g cg A xs c w hm hm' hg hg' h hx hcl hcu hI
  obtain ⟨W, hW⟩ : ∃ W, W = (w.alloc (.cells #[.int .i64 st, .slice As m cm, .slice Ag g cg] 40)).alloc (.cells #[.slice A xs.length c] 28) := ⟨_, rfl⟩
  have C1 : Hid (BoxA W w.heap.size st As m cm Ag g cg) := by subst hW; exact (BoxA.new _ _ _ _ _ _ _ _ _).al _
  have C2 : Hid (W.cell? ⟨w.heap.size + 1, 0, none⟩ = some (.slice A xs.length c)) := by subst hW; exact World.cell?_alloc_at _ _ _ _ (by simp)
  have hBW : Hid (Below w.heap.size w W) := by subst hW; exact bal (bal (b0 w) _) _
  have HW := Lib.hid hW
  clear hW
  obtain ⟨b1, hb1⟩ : ∃ b, Hid (M.isAuto st Ss gs = b) := ⟨_, rfl⟩
  obtain ⟨b2, hb2⟩ : ∃ b, Hid (M.isTree xs = b) := ⟨_, rfl⟩
  have HA := Lib.hid (l06Is st As Ag Ss gs m cm g cg W hm hm' hg hg' (Lib.hid (h.out.be hBW.out)) b1 hb1)
  have hT : ∀ W', Below W.heap.size W W' → Calls Try.prog 59 #[.agg #[.slice A xs.length c]] W' fun e w' => e = .returned (.bool b2) ∧ Below W'.heap.size W' w' := fun W' hW' => by
    have := specIs A xs c W' (by omega) (hI.out.be (btr hBW.out hW'))
    rw [hb2.out] at this
    exact this
  have HT := Lib.hid hT
  clear hT
  have hno : (b1 && b2) = false → F_StatesOf st Ss gs xs = ([], 1) := fun e => by rw [F_StatesOf, hb1.out, hb2.out, e]; rfl
  cases b1
  · rw [hno rfl]
    clear hno h hI hb2
    go_enter Try.func31, Try.ntmps31
    go_wp2_with fail
    rw [← HW.out]
    obtain ⟨a0, a1, a2⟩ := C1.out
    refine HA.out.mono ?_
    rintro e w1 ⟨rfl, hb⟩
    have B1 : Hid (Below w.heap.size w w1) := btr hBW.out hb.out
    go_wp2
    go_ret2
    exact ⟨none, 0, rfl, own64_nil _ _, B1⟩
  · cases b2
    · rw [hno rfl]
      clear hno h hI
      go_enter Try.func31, Try.ntmps31
      go_wp2_with fail
      rw [← HW.out]
      obtain ⟨a0, a1, a2⟩ := C1.out
      refine HA.out.mono ?_
      rintro e w1 ⟨rfl, hb⟩
      have c2 := cell_be C2.out hb.out
      have B1 := hb
      clear a0 a1 a2 hb
      go_wp2_with fail
      refine (HT.out _ B1.out).mono ?_
      rintro e w2 ⟨rfl, hb⟩
      have B2 : Hid (Below w.heap.size w w2) := btr hBW.out (btr B1.out hb)
      clear hb c2
      go_wp2
      go_ret2
      exact ⟨none, 0, rfl, own64_nil _ _, B2⟩
    · have hyes : F_StatesOf st Ss gs xs = (M.states Ss st xs, 0) := by rw [F_StatesOf, hb1.out, hb2.out]; rfl
      rw [hyes]
      have hIA : Hid (M.IsA st Ss gs m) := by rw [← hm.out]; exact M.isA_of hb1.out
      have hl : (M.states Ss st xs).length = xs.length := M.states_len _ _ _
      have HL := Lib.hid hl
      have hS : ∀ W', Below W.heap.size W W' → Calls Try.prog 74 #[.agg #[.int .i64 st, .slice As m cm, .slice Ag g cg], .agg #[.slice A xs.length c]] W' fun e w' => ∃ g', e = .returned (.slice (some ⟨g', 0, none⟩) xs.length xs.length) ∧ Own64 w' W'.heap.size (.slice (some ⟨g', 0, none⟩) xs.length xs.length) (M.states Ss st xs) ∧ Hid (Below W'.heap.size W' w') := fun W' hW' =>
        l06States st As Ag Ss gs m cm g cg A xs c W' hIA (Lib.hid (h.out.be (btr hBW.out hW')).rows) hb2 (Lib.hid (hI.out.be (btr hBW.out hW')))
      have HS := Lib.hid hS
      clear hno h hI hyes hl hS
      go_enter Try.func31, Try.ntmps31
      go_wp2_with fail
      rw [← HW.out]
      obtain ⟨a0, a1, a2⟩ := C1.out
      refine HA.out.mono ?_
      rintro e w1 ⟨rfl, hb⟩
      have c2 := cell_be C2.out hb.out
      have B1 := hb
      clear a0 a1 a2 hb
      go_wp2_with fail
      refine (HT.out _ B1.out).mono ?_
      rintro e w2 ⟨rfl, hb⟩
      have B2 : Hid (Below W.heap.size W w2) := btr B1.out hb
      obtain ⟨a0, a1, a2⟩ := C1.out.be B2.out
      have c2' := cell_be C2.out B2.out
      clear hb c2
      go_wp2_with fail
      refine (HS.out _ B2.out).mono ?_
      rintro e w3 ⟨g', rfl, ho, hb⟩
      have B3 : Hid (Below w.heap.size w w3) := btr hBW.out (btr B2.out hb.out)
      have hz : w.heap.size ≤ w2.heap.size := Nat.le_trans hBW.out.size B2.out.size
      have Ho : Hid (Own64 w3 w.heap.size (.slice (some ⟨g', 0, none⟩) xs.length xs.length) (M.states Ss st xs)) := own_mono ho hz
      clear ho hb
      go_wp2
      go_ret2
      rw [HL.out]
      exact ⟨_, _, rfl, Ho.out, B3⟩
end Go.Proofs.Ytcipafjibkclcaa
