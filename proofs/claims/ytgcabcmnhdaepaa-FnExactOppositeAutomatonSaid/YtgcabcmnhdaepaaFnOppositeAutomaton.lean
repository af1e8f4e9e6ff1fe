/- OppositeAutomaton: what both do, in one word. -/
import Derived.Test.YtgcabcmnhdaepaaSpOpp
import Derived.Test.YtgcabcmnhdaepaaImOpp
namespace Go.Proofs.Ytgcabcmnhdaepaa
open Go.RowKit

def F_opp (st : Int) (Ss : List (List Int)) (gs : List Int) : Int × List (List Int) × List Int × Int := if M.isAuto st Ss gs = true then (st, Ss, M.oppTo gs Ss.length, 0) else (0, [], [], 1)
def GivesOpp (f : Nat) : Prop := ∀ (st : Int) (As Ag : Option Addr) (Ss : List (List Int)) (gs : List Int) (m cm g cg : Nat) (w : World), Hid (Ss.length = m) → m ≤ 1048576 → Hid (gs.length = g) → g ≤ 1048576 → Hid (AutoR w As Ss Ag gs) →
  Calls Try.prog f #[.agg #[.int .i64 st, .slice As m cm, .slice Ag g cg]] w fun e w' => ∃ A1 c1 hs A2 c2, e = .returned (.tuple #[.agg #[.int .i64 (F_opp st Ss gs).1, .slice A1 (F_opp st Ss gs).2.1.length c1, .slice A2 (F_opp st Ss gs).2.2.1.length c2], .int .i64 (F_opp st Ss gs).2.2.2]) ∧
    Hid (AutoO w' w.heap.size A1 (F_opp st Ss gs).2.1.length c1 hs (F_opp st Ss gs).2.1 A2 (F_opp st Ss gs).2.2.1.length c2 (F_opp st Ss gs).2.2.1) ∧ Hid (Below w.heap.size w w')

set_option maxHeartbeats 4000000 in
set_option maxRecDepth 100000 in
theorem spec_opp_no (st : Int) (As Ag : Option Addr) (Ss : List (List Int)) (gs : List Int) (m cm g cg : Nat) (w : World) (hm : Hid (Ss.length = m)) (hm' : m ≤ 1048576) (hg : Hid (gs.length = g)) (hg' : g ≤ 1048576) (h : Hid (AutoR w As Ss Ag gs)) (hA : Hid (M.isAuto st Ss gs = false)) :
    Calls Try.prog 19 #[.agg #[.int .i64 st, .slice As m cm, .slice Ag g cg]] w fun e w' => e = .returned (.tuple #[.agg #[.int .i64 0, .slice none 0 0, .slice none 0 0], .int .i64 1]) ∧ Hid (Below w.heap.size w w') := by
  obtain ⟨W, hW⟩ : ∃ W, W = (w.alloc (.cells #[.int .i64 st, .slice As m cm, .slice Ag g cg] 27)).alloc (.cells #[.int .i64 0, .slice none 0 0, .slice none 0 0] 27) := ⟨_, rfl⟩
  have C1 : Hid (BoxA W w.heap.size st As m cm Ag g cg) := by subst hW; exact (BoxA.new _ _ _ _ _ _ _ _ _).al _
  have C3 : Hid (W.heap[w.heap.size + 1]? = some (.cells #[.int .i64 0, .slice none 0 0, .slice none 0 0] 27 (0, 0))) := by
    subst hW
    have := heap_alloc_new (w.alloc (.cells #[.int .i64 st, .slice As m cm, .slice Ag g cg] 27)) (.cells #[.int .i64 0, .slice none 0 0, .slice none 0 0] 27)
    rw [World.size_alloc] at this
    exact this
  have C2 : Hid (BoxA W (w.heap.size + 1) 0 none 0 0 none 0 0) := by
    subst hW
    have := BoxA.new (w.alloc (.cells #[.int .i64 st, .slice As m cm, .slice Ag g cg] 27)) 0 none none 0 0 0 0 27
    rw [World.size_alloc] at this
    exact this
  have hBW : Hid (Below w.heap.size w W) := by subst hW; exact bal (bal (b0 w) _) _
  have HA := Lib.hid (l06Is st As Ag Ss gs m cm g cg W hm hm' hg hg' (Lib.hid (h.out.be hBW.out)) false hA)
  have HW := Lib.hid hW
  clear hW h
  go_enter Try.func19, Try.ntmps19
  go_wp2_with fail
  rw [← HW.out]
  obtain ⟨a0, a1, a2⟩ := C1.out
  refine HA.out.mono ?_
  rintro e w1 ⟨rfl, hb1⟩
  obtain ⟨b0', b1', b2'⟩ := C2.out.be hb1.out
  have hRz : w.heap.size + 1 < W.heap.size := (Array.getElem?_eq_some_iff.1 C3.out).1
  have D3 := (hb1.out.block _ hRz).trans C3.out
  obtain ⟨f0, f1, f2⟩ : w1.frozen? ⟨w.heap.size + 1, 0, none⟩ = false ∧ w1.frozen? ⟨w.heap.size + 1, 1, none⟩ = false ∧ w1.frozen? ⟨w.heap.size + 1, 2, none⟩ = false := by
    refine ⟨?_, ?_, ?_⟩ <;> simp [World.frozen?, D3]
  have hbe : Hid (Below w.heap.size w (((w1.setCell ⟨w.heap.size + 1, 0, none⟩ (.int .i64 0)).setCell ⟨w.heap.size + 1, 1, none⟩ (.slice none 0 0)).setCell ⟨w.heap.size + 1, 2, none⟩ (.slice none 0 0))) := below_setCell (below_setCell (below_setCell (btr hBW.out hb1.out) (Nat.le_succ _) _) (Nat.le_succ _) _) (Nat.le_succ _) _
  clear D3 HA
  go_wp2
  refine bodyPost_ret (v := .tuple #[.agg #[.int .i64 0, .slice none 0 0, .slice none 0 0], .int .i64 1]) (by simp [results, Try.results19, go_sem, b0', b1', b2']) rfl ?_
  exact ⟨rfl, hbe⟩

set_option maxHeartbeats 4000000 in
set_option maxRecDepth 100000 in
theorem impl_opp_no (st : Int) (As Ag : Option Addr) (Ss : List (List Int)) (gs : List Int) (m cm g cg : Nat) (w : World) (hm : Hid (Ss.length = m)) (hm' : m ≤ 1048576) (hg : Hid (gs.length = g)) (hg' : g ≤ 1048576) (h : Hid (AutoR w As Ss Ag gs)) (hA : Hid (M.isAuto st Ss gs = false)) :
    Calls Try.prog 21 #[.agg #[.int .i64 st, .slice As m cm, .slice Ag g cg]] w fun e w' => e = .returned (.tuple #[.agg #[.int .i64 0, .slice none 0 0, .slice none 0 0], .int .i64 1]) ∧ Hid (Below w.heap.size w w') := by
  obtain ⟨W, hW⟩ : ∃ W, W = (w.alloc (.cells #[.int .i64 st, .slice As m cm, .slice Ag g cg] 27)).alloc (.cells #[.int .i64 0, .slice none 0 0, .slice none 0 0] 27) := ⟨_, rfl⟩
  have C1 : Hid (BoxA W w.heap.size st As m cm Ag g cg) := by subst hW; exact (BoxA.new _ _ _ _ _ _ _ _ _).al _
  have C3 : Hid (W.heap[w.heap.size + 1]? = some (.cells #[.int .i64 0, .slice none 0 0, .slice none 0 0] 27 (0, 0))) := by
    subst hW
    have := heap_alloc_new (w.alloc (.cells #[.int .i64 st, .slice As m cm, .slice Ag g cg] 27)) (.cells #[.int .i64 0, .slice none 0 0, .slice none 0 0] 27)
    rw [World.size_alloc] at this
    exact this
  have C2 : Hid (BoxA W (w.heap.size + 1) 0 none 0 0 none 0 0) := by
    subst hW
    have := BoxA.new (w.alloc (.cells #[.int .i64 st, .slice As m cm, .slice Ag g cg] 27)) 0 none none 0 0 0 0 27
    rw [World.size_alloc] at this
    exact this
  have hBW : Hid (Below w.heap.size w W) := by subst hW; exact bal (bal (b0 w) _) _
  have HA := Lib.hid (impl_IsAutomaton st As Ag Ss gs m cm g cg W hm hm' hg hg' (Lib.hid (h.out.be hBW.out)) false hA)
  have HW := Lib.hid hW
  clear hW h
  go_enter Try.func21, Try.ntmps21
  go_wp2_with fail
  rw [← HW.out]
  obtain ⟨a0, a1, a2⟩ := C1.out
  refine HA.out.mono ?_
  rintro e w1 ⟨rfl, hb1⟩
  obtain ⟨b0', b1', b2'⟩ := C2.out.be hb1.out
  have hRz : w.heap.size + 1 < W.heap.size := (Array.getElem?_eq_some_iff.1 C3.out).1
  have D3 := (hb1.out.block _ hRz).trans C3.out
  obtain ⟨f0, f1, f2⟩ : w1.frozen? ⟨w.heap.size + 1, 0, none⟩ = false ∧ w1.frozen? ⟨w.heap.size + 1, 1, none⟩ = false ∧ w1.frozen? ⟨w.heap.size + 1, 2, none⟩ = false := by
    refine ⟨?_, ?_, ?_⟩ <;> simp [World.frozen?, D3]
  have hbe : Hid (Below w.heap.size w (((w1.setCell ⟨w.heap.size + 1, 0, none⟩ (.int .i64 0)).setCell ⟨w.heap.size + 1, 1, none⟩ (.slice none 0 0)).setCell ⟨w.heap.size + 1, 2, none⟩ (.slice none 0 0))) := below_setCell (below_setCell (below_setCell (btr hBW.out hb1.out) (Nat.le_succ _) _) (Nat.le_succ _) _) (Nat.le_succ _) _
  clear D3 HA
  go_wp2
  refine bodyPost_ret (v := .tuple #[.agg #[.int .i64 0, .slice none 0 0, .slice none 0 0], .int .i64 1]) (by simp [results, Try.results21, go_sem, b0', b1', b2']) rfl ?_
  exact ⟨rfl, hbe⟩

theorem spec_OppositeAutomaton : GivesOpp 19 := by
  intro st As Ag Ss gs m cm g cg w hm hm' hg hg' h
  cases hA : M.isAuto st Ss gs
  · refine (spec_opp_no st As Ag Ss gs m cm g cg w hm hm' hg hg' h hA).mono ?_
    rintro e w' ⟨rfl, hb⟩
    rw [F_opp, hA]
    exact ⟨none, 0, [], none, 0, rfl, ⟨rws_nil _ _, own64_nil _ _, fun h' hh => by simp at hh⟩, hb⟩
  · refine (spec_opp_yes st As Ag Ss gs m cm g cg w hm hm' hg hg' h hA).mono ?_
    rintro e w' ⟨A1, c1, hs, A2, l, c2, rfl, ho, hb⟩
    have hl := own64_len ho.out.good
    rw [F_opp, hA]
    have e1 : Ss.length = m := hm.out
    subst hl
    subst e1
    exact ⟨A1, c1, hs, A2, c2, rfl, ho, hb⟩

theorem impl_OppositeAutomaton : GivesOpp 21 := by
  intro st As Ag Ss gs m cm g cg w hm hm' hg hg' h
  cases hA : M.isAuto st Ss gs
  · refine (impl_opp_no st As Ag Ss gs m cm g cg w hm hm' hg hg' h hA).mono ?_
    rintro e w' ⟨rfl, hb⟩
    rw [F_opp, hA]
    exact ⟨none, 0, [], none, 0, rfl, ⟨rws_nil _ _, own64_nil _ _, fun h' hh => by simp at hh⟩, hb⟩
  · refine (impl_opp_yes st As Ag Ss gs m cm g cg w hm hm' hg hg' h hA).mono ?_
    rintro e w' ⟨A1, c1, hs, A2, l, c2, rfl, ho, hb⟩
    have hl := own64_len ho.out.good
    rw [F_opp, hA]
    have e1 : Ss.length = m := hm.out
    subst hl
    subst e1
    exact ⟨A1, c1, hs, A2, c2, rfl, ho, hb⟩

theorem F_opp_small (st : Int) (Ss : List (List Int)) (gs : List Int) : (F_opp st Ss gs).2.1.length ≤ 9 ∧ (F_opp st Ss gs).2.2.1.length ≤ 9 ∧ (∀ zs ∈ (F_opp st Ss gs).2.1, zs.length ≤ 9) ∧ M.tot (F_opp st Ss gs).2.1 ≤ M.tot Ss := by
  rw [F_opp]
  split
  · rename_i h
    have hI := M.isA_of h
    have h9 := hI.le
    have hl := M.oppTo_len gs Ss.length
    exact ⟨h9, (by omega : (M.oppTo gs Ss.length).length ≤ 9), fun zs hz => by have := (hI.row zs hz).1; omega, Nat.le_refl _⟩
  · exact ⟨by simp, by simp, fun zs hz => by simp at hz, by simp [M.tot]⟩
end Go.Proofs.Ytgcabcmnhdaepaa
