/- TakesTree, the program's and the model's. -/
import Derived.Test.YtcipafjibkclcaaFnStatesOf
import Derived.Test.YtcipafjibkclcaaGood
import Derived.Deep.RegionHeld3
import Derived.StillTailTactics
namespace Go.Proofs.Ytcipafjibkclcaa
open Go.RowKit

def F_TakesTree (st : Int) (Ss : List (List Int)) (gs xs : List Int) : Bool × Int := if (M.isAuto st Ss gs && M.isTree xs) = true then (decide ((M.states Ss st xs)[0]?.getD 0 ∈ gs), 0) else (false, 1)

set_option maxRecDepth 100000 in
set_option maxHeartbeats 1000000 in
theorem stateOf (st : Int) (As Ag : Option Addr) (Ss : List (List Int)) (gs : List Int) (m cm g cg : Nat) (A : Option Addr) (xs : List Int) (c : Nat) (w : World) (hA : Hid (M.IsA st Ss gs m)) (hR : Hid (RowsL w As Ss)) (ht : Hid (M.isTree xs = true)) (hcl : xs.length ≤ c) (hcu : c ≤ 9223372036854775807) (hI : Hid (Ints w w.heap.size A xs)) (s : Int) (hs : Hid ((M.states Ss st xs)[0]? = some s)) :
    Calls Try.prog 80 #[.agg #[.int .i64 st, .slice As m cm, .slice Ag g cg], .slice A xs.length c] w fun e w' => e = .returned (.int .i64 s) ∧ Hid (Below w.heap.size w w') := by
  have HB := Lib.hid (bal (b0 w) (.cells #[.int .i64 st, .slice As m cm, .slice Ag g cg] 40))
  have hx1 := (M.tree_len ht.out).1
  have HS := Lib.hid (statesIn st As Ag Ss gs m cm g cg A xs c (w.alloc (.cells #[.int .i64 st, .slice As m cm, .slice Ag g cg] 40)) hA (Lib.hid (hR.out.be HB.out)) ht hcl hcu (Lib.hid (hI.out.be HB.out)))
  go_enter Try.func80, Try.ntmps80
  go_wp2_with fail
  refine HS.out.mono ?_
  rintro e w1 ⟨rfl, ho, hb⟩
  have cc := (own64_cell ho (M.states_len _ _ _) hs.out).1
  simp only [World.size_alloc] at cc
  have B1 : Hid (Below w.heap.size w w1) := btr HB.out hb
  have hpos : (0 : Int) < (xs.length : Int) := by omega
  have hpos0 : 0 < xs.length := by omega
  clear ho hb
  go_wp2
  go_ret
  exact ⟨rfl, B1⟩

/-- what TakesTree gives -/
def GivesTakes (f : Nat) : Prop :=
  ∀ (st : Int) (As Ag : Option Addr) (Ss : List (List Int)) (gs : List Int) (m cm g cg : Nat) (A : Option Addr) (xs : List Int) (c : Nat) (w : World), Hid (Ss.length = m) → m ≤ 1048576 → Hid (gs.length = g) → g ≤ 1048576 → Hid (AutoR w As Ss Ag gs) → xs.length ≤ 1048576 → xs.length ≤ c → c ≤ 1000000000000 → Hid (Ints w w.heap.size A xs) →
    Calls Try.prog f #[.agg #[.int .i64 st, .slice As m cm, .slice Ag g cg], .agg #[.slice A xs.length c]] w fun e w' => e = .returned (.tuple #[.bool (F_TakesTree st Ss gs xs).1, .int .i64 (F_TakesTree st Ss gs xs).2]) ∧ Hid (Below w.heap.size w w')

set_option maxRecDepth 100000 in
set_option maxHeartbeats 2000000 in
theorem impl_TakesTree : GivesTakes 35 := by
  intro st As Ag Ss gs m cm g cg A xs c w hm hm' hg hg' h hx hcl hcu hI
  obtain ⟨W, hW⟩ : ∃ W, W = (w.alloc (.cells #[.int .i64 st, .slice As m cm, .slice Ag g cg] 40)).alloc (.cells #[.slice A xs.length c] 28) := ⟨_, rfl⟩
  have C1 : Hid (BoxA W w.heap.size st As m cm Ag g cg) := by subst hW; exact (BoxA.new _ _ _ _ _ _ _ _ _).al _
  have C2 : Hid (W.cell? ⟨w.heap.size + 1, 0, none⟩ = some (.slice A xs.length c)) := by subst hW; exact World.cell?_alloc_at _ _ _ _ (by simp)
  have hBW : Hid (Below w.heap.size w W) := by subst hW; exact bal (bal (b0 w) _) _
  have HW := Lib.hid hW
  clear hW
  obtain ⟨b1, hb1⟩ : ∃ b, Hid (M.isAuto st Ss gs = b) := ⟨_, rfl⟩
  obtain ⟨b2, hb2⟩ : ∃ b, Hid (M.isTree xs = b) := ⟨_, rfl⟩
  have HA := Lib.hid (impl_IsAutomaton st As Ag Ss gs m cm g cg W hm hm' hg hg' (Lib.hid (h.out.be hBW.out)) b1 hb1)
  have hT : ∀ W', Below W.heap.size W W' → Calls Try.prog 75 #[.agg #[.slice A xs.length c]] W' fun e w' => e = .returned (.bool b2) ∧ Below W'.heap.size W' w' := fun W' hW' => by
    have := implIsTree A xs c W' (by omega) (hI.out.be (btr hBW.out hW'))
    rw [hb2.out] at this
    exact this
  have HT := Lib.hid hT
  clear hT
  have hno : (b1 && b2) = false → F_TakesTree st Ss gs xs = (false, 1) := fun e => by rw [F_TakesTree, hb1.out, hb2.out, e]; rfl
  cases b1
  · rw [hno rfl]
    clear hno h hI hb2
    go_enter Try.func35, Try.ntmps35
    go_wp2_with fail
    rw [← HW.out]
    obtain ⟨a0, a1, a2⟩ := C1.out
    refine HA.out.mono ?_
    rintro e w1 ⟨rfl, hb⟩
    have B1 : Hid (Below w.heap.size w w1) := btr hBW.out hb.out
    go_wp2
    go_ret2
    exact ⟨rfl, B1⟩
  · cases b2
    · rw [hno rfl]
      clear hno h hI
      go_enter Try.func35, Try.ntmps35
      go_wp2_with fail
      rw [← HW.out]
      obtain ⟨a0, a1, a2⟩ := C1.out
      refine HA.out.mono ?_
      rintro e w1 ⟨rfl, hb⟩
      have c2 := cell_be C2.out hb.out
      have B1 := hb
      clear a0 a1 a2 hb
      go_wp2_with fail
      refine (HT.out _ B1.out).mono ?_
      rintro e w2 ⟨rfl, hb⟩
      have B2 : Hid (Below w.heap.size w w2) := btr hBW.out (btr B1.out hb)
      clear hb c2
      go_wp2
      go_ret2
      exact ⟨rfl, B2⟩
    · obtain ⟨b, hb⟩ : ∃ b : Bool, Hid (decide ((M.states Ss st xs)[0]?.getD 0 ∈ gs) = b) := ⟨decide ((M.states Ss st xs)[0]?.getD 0 ∈ gs), rfl⟩
      have hyes : F_TakesTree st Ss gs xs = (b, 0) := by rw [F_TakesTree, hb1.out, hb2.out, ← hb.out]; rfl
      rw [hyes]
      have hIA : Hid (M.IsA st Ss gs m) := by rw [← hm.out]; exact M.isA_of hb1.out
      obtain ⟨s, hs, hsm⟩ := M.states_at hIA.out hb2.out (v := 0) (by have := M.tree_len hb2.out; omega)
      have Hs := Lib.hid hs
      have hb' : Hid (decide ((s : Int) ∈ gs) = b) := by
        have := hb.out
        rw [hs] at this
        exact this
      have HSt : Hid (∀ W', Hid (Below W.heap.size W W') → Calls Try.prog 80 #[.agg #[.int .i64 st, .slice As m cm, .slice Ag g cg], .slice A xs.length c] W' fun e w' => e = .returned (.int .i64 (s : Int)) ∧ Hid (Below W.heap.size W w')) := fun W' hW' =>
        (stateOf st As Ag Ss gs m cm g cg A xs c W' hIA (Lib.hid (h.out.be (btr hBW.out hW'.out)).rows) hb2 hcl (by omega) (Lib.hid (hI.out.be (btr hBW.out hW'.out))) s Hs).mono fun e w' ⟨h1, h2⟩ => ⟨h1, btr hW'.out h2.out⟩
      have HG : Hid (∀ W', Hid (Below W.heap.size W W') → Calls Try.prog 79 #[.agg #[.int .i64 st, .slice As m cm, .slice Ag g cg], .int .i64 (s : Int)] W' fun e w' => e = .returned (.bool b) ∧ Hid (Below W.heap.size W w')) := fun W' hW' =>
        (isGood st As Ag gs m cm g cg s W' hg hg' (Lib.hid (h.out.be (btr hBW.out hW'.out)).good) b hb').mono fun e w' ⟨h1, h2⟩ => ⟨h1, btr hW'.out h2.out⟩
      clear hno h hI hyes hs hsm hb hb'
      go_enter Try.func35, Try.ntmps35
      go_wp2_with fail
      rw [← HW.out]
      obtain ⟨a0, a1, a2⟩ := C1.out
      refine HA.out.mono ?_
      rintro e w1 ⟨rfl, hb⟩
      have c2 := cell_be C2.out hb.out
      have B1 := hb
      clear a0 a1 a2 hb
      go_wp2_with fail
      refine (HT.out _ B1.out).mono ?_
      rintro e w2 ⟨rfl, hb⟩
      have B2 : Hid (Below W.heap.size W w2) := btr B1.out hb
      obtain ⟨a0, a1, a2⟩ := C1.out.be B2.out
      have c2' := cell_be C2.out B2.out
      clear hb c2
      go_wp2
      have K0 : Hid (Below W.heap.size W w2.drew) := B2.out.drew
      go_region_held3 (fun w' => w'.cell? ⟨w.heap.size, 0, none⟩ = some (.int .i64 st) ∧ w'.cell? ⟨w.heap.size, 1, none⟩ = some (.slice As m cm) ∧ w'.cell? ⟨w.heap.size, 2, none⟩ = some (.slice Ag g cg) ∧ w'.cell? ⟨w.heap.size + 1, 0, none⟩ = some (.slice A xs.length c) ∧ Hid (Below W.heap.size W w')) (first | exact ⟨a0, a1, a2, c2', K0⟩ | exact ⟨cellK (Hid.out (by assumption)) C1.out.1, cellK (Hid.out (by assumption)) C1.out.2.1, cellK (Hid.out (by assumption)) C1.out.2.2, cell_be C2.out (Hid.out (by assumption)), by assumption⟩) (first | (go_at_call 80; refine (HSt.out _ K0).mono ?_; rintro e w7 ⟨rfl, hb7⟩) | (go_at_call 79; refine (HG.out _ hb7).mono ?_; rintro e w8 ⟨rfl, hb8⟩))
      have B8 : Hid (Below w.heap.size w w8) := btr hBW.out hb8.out
      go_wp2
      go_ret2
      exact ⟨rfl, B8⟩

set_option maxRecDepth 100000 in
set_option maxHeartbeats 2000000 in
theorem spec_TakesTree : GivesTakes 34 := by
  intro st As Ag Ss gs m cm g cg A xs c w hm hm' hg hg' h hx hcl hcu hI
  obtain ⟨W, hW⟩ : ∃ W, W = (w.alloc (.cells #[.int .i64 st, .slice As m cm, .slice Ag g cg] 40)).alloc (.cells #[.slice A xs.length c] 28) := ⟨_, rfl⟩
  have C1 : Hid (BoxA W w.heap.size st As m cm Ag g cg) := by subst hW; exact (BoxA.new _ _ _ _ _ _ _ _ _).al _
  have C2 : Hid (W.cell? ⟨w.heap.size + 1, 0, none⟩ = some (.slice A xs.length c)) := by subst hW; exact World.cell?_alloc_at _ _ _ _ (by simp)
  have hBW : Hid (Below w.heap.size w W) := by subst hW; exact bal (bal (b0 w) _) _
  have HW := Lib.hid hW
  clear hW
  obtain ⟨b1, hb1⟩ : ∃ b, Hid (M.isAuto st Ss gs = b) := ⟨_, rfl⟩
  obtain ⟨b2, hb2⟩ : ∃ b, Hid (M.isTree xs = b) := ⟨_, rfl⟩
  have HA := Lib.hid (l06Is st As Ag Ss gs m cm g cg W hm hm' hg hg' (Lib.hid (h.out.be hBW.out)) b1 hb1)
  have hT : ∀ W', Below W.heap.size W W' → Calls Try.prog 59 #[.agg #[.slice A xs.length c]] W' fun e w' => e = .returned (.bool b2) ∧ Below W'.heap.size W' w' := fun W' hW' => by
    have := specIs A xs c W' (by omega) (hI.out.be (btr hBW.out hW'))
    rw [hb2.out] at this
    exact this
  have HT := Lib.hid hT
  clear hT
  have hno : (b1 && b2) = false → F_TakesTree st Ss gs xs = (false, 1) := fun e => by rw [F_TakesTree, hb1.out, hb2.out, e]; rfl
  cases b1
  · rw [hno rfl]
    clear hno h hI hb2
    go_enter Try.func34, Try.ntmps34
    go_wp2_with fail
    rw [← HW.out]
    obtain ⟨a0, a1, a2⟩ := C1.out
    refine HA.out.mono ?_
    rintro e w1 ⟨rfl, hb⟩
    have B1 : Hid (Below w.heap.size w w1) := btr hBW.out hb.out
    go_wp2
    go_ret2
    exact ⟨rfl, B1⟩
  · cases b2
    · rw [hno rfl]
      clear hno h hI
      go_enter Try.func34, Try.ntmps34
      go_wp2_with fail
      rw [← HW.out]
      obtain ⟨a0, a1, a2⟩ := C1.out
      refine HA.out.mono ?_
      rintro e w1 ⟨rfl, hb⟩
      have c2 := cell_be C2.out hb.out
      have B1 := hb
      clear a0 a1 a2 hb
      go_wp2_with fail
      refine (HT.out _ B1.out).mono ?_
      rintro e w2 ⟨rfl, hb⟩
      have B2 : Hid (Below w.heap.size w w2) := btr hBW.out (btr B1.out hb)
      clear hb c2
      go_wp2
      go_ret2
      exact ⟨rfl, B2⟩
    · obtain ⟨b, hb⟩ : ∃ b : Bool, Hid (decide ((M.states Ss st xs)[0]?.getD 0 ∈ gs) = b) := ⟨decide ((M.states Ss st xs)[0]?.getD 0 ∈ gs), rfl⟩
      have hyes : F_TakesTree st Ss gs xs = (b, 0) := by rw [F_TakesTree, hb1.out, hb2.out, ← hb.out]; rfl
      rw [hyes]
      have hIA : Hid (M.IsA st Ss gs m) := by rw [← hm.out]; exact M.isA_of hb1.out
      obtain ⟨s, hs, hsm⟩ := M.states_at hIA.out hb2.out (v := 0) (by have := M.tree_len hb2.out; omega)
      have Hs := Lib.hid hs
      have hb' : Hid (decide ((s : Int) ∈ gs) = b) := by
        have := hb.out
        rw [hs] at this
        exact this
      have HSt : Hid (∀ W', Hid (Below W.heap.size W W') → Calls Try.prog 74 #[.agg #[.int .i64 st, .slice As m cm, .slice Ag g cg], .agg #[.slice A xs.length c]] W' fun e w' => ∃ g', e = .returned (.slice (some ⟨g', 0, none⟩) xs.length xs.length) ∧ w'.cell? ⟨g', 0, none⟩ = some (.int .i64 (s : Int)) ∧ Hid (Below W.heap.size W w')) := fun W' hW' =>
        (l06States st As Ag Ss gs m cm g cg A xs c W' hIA (Lib.hid (h.out.be (btr hBW.out hW'.out)).rows) hb2 (Lib.hid (hI.out.be (btr hBW.out hW'.out)))).mono fun e w' ⟨g', h1, h2, h3⟩ => ⟨g', h1, (own64_cell h2 (M.states_len _ _ _) Hs.out).1, btr hW'.out h3.out⟩
      have hxpos : (0 : Int) < (xs.length : Int) := by have := M.tree_len hb2.out; omega
      have hxpos0 : 0 < xs.length := by omega
      have HG : Hid (∀ W', Hid (Below W.heap.size W W') → Calls Try.prog 78 #[.agg #[.int .i64 st, .slice As m cm, .slice Ag g cg], .int .i64 (s : Int)] W' fun e w' => e = .returned (.bool b) ∧ Hid (Below W.heap.size W w')) := fun W' hW' =>
        (l06Good st As Ag gs m cm g cg s W' hg hg' (Lib.hid (h.out.be (btr hBW.out hW'.out)).good) b hb').mono fun e w' ⟨h1, h2⟩ => ⟨h1, btr hW'.out h2.out⟩
      clear hno h hI hyes hs hsm hb hb'
      go_enter Try.func34, Try.ntmps34
      go_wp2_with fail
      rw [← HW.out]
      obtain ⟨a0, a1, a2⟩ := C1.out
      refine HA.out.mono ?_
      rintro e w1 ⟨rfl, hb⟩
      have c2 := cell_be C2.out hb.out
      have B1 := hb
      clear a0 a1 a2 hb
      go_wp2_with fail
      refine (HT.out _ B1.out).mono ?_
      rintro e w2 ⟨rfl, hb⟩
      have B2 : Hid (Below W.heap.size W w2) := btr B1.out hb
      obtain ⟨a0, a1, a2⟩ := C1.out.be B2.out
      have c2' := cell_be C2.out B2.out
      clear hb c2
      go_wp2
      have K0 : Hid (Below W.heap.size W w2.drew) := B2.out.drew
      have e0 : w2.drew.cell? ⟨w.heap.size, 0, none⟩ = some (.int .i64 st) := a0
      have e1 : w2.drew.cell? ⟨w.heap.size, 1, none⟩ = some (.slice As m cm) := a1
      have e2 : w2.drew.cell? ⟨w.heap.size, 2, none⟩ = some (.slice Ag g cg) := a2
      have e3 : w2.drew.cell? ⟨w.heap.size + 1, 0, none⟩ = some (.slice A xs.length c) := c2'
      clear a0 a1 a2 c2'
      go_region_with (first | (go_at_call 74; refine (HSt.out _ K0).mono ?_; rintro e w7 ⟨g7, rfl, hc7, hb7⟩; have f0 := cellK hb7.out C1.out.1; have f1 := cellK hb7.out C1.out.2.1; have f2 := cellK hb7.out C1.out.2.2) | (go_at_call 78; refine (HG.out _ hb7).mono ?_; rintro e w8 ⟨rfl, hb8⟩))
      all_goals
        have B8 : Hid (Below w.heap.size w w8) := btr hBW.out hb8.out
        go_wp2
        go_ret2
        exact ⟨rfl, B8⟩
end Go.Proofs.Ytcipafjibkclcaa
