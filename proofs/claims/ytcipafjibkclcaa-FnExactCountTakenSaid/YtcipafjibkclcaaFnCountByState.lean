/- CountByState, the program's and the model's. -/
import Derived.Test.YtcipafjibkclcaaCountsSp
namespace Go.Proofs.Ytcipafjibkclcaa
open Go.RowKit

def codeN (st : Int) (Ss : List (List Int)) (gs : List Int) (n : Int) : Int := if M.isAuto st Ss gs = true then (if (decide (1 ≤ n) && decide (n ≤ 30)) = true then 0 else 2) else 1
def F_CountByState (st : Int) (Ss : List (List Int)) (gs : List Int) (n : Int) : List Int × Int := if codeN st Ss gs n = 0 then (M.counts Ss Ss.length st n.toNat, 0) else ([], codeN st Ss gs n)
theorem codeN_1 {st : Int} {Ss : List (List Int)} {gs : List Int} {n : Int} (h : M.isAuto st Ss gs = false) : codeN st Ss gs n = 1 := by rw [codeN, h]; rfl
theorem codeN_2 {st : Int} {Ss : List (List Int)} {gs : List Int} {n : Int} (h : M.isAuto st Ss gs = true) (hn : (decide (1 ≤ n) && decide (n ≤ 30)) = false) : codeN st Ss gs n = 2 := by rw [codeN, h, hn]; rfl
theorem codeN_0 {st : Int} {Ss : List (List Int)} {gs : List Int} {n : Int} (h : M.isAuto st Ss gs = true) (hn : (decide (1 ≤ n) && decide (n ≤ 30)) = true) : codeN st Ss gs n = 0 := by rw [codeN, h, hn]; rfl
theorem F_Count_1 {st : Int} {Ss : List (List Int)} {gs : List Int} {n : Int} (h : M.isAuto st Ss gs = false) : F_CountByState st Ss gs n = ([], 1) := by rw [F_CountByState, codeN_1 h]; rfl
theorem F_Count_2 {st : Int} {Ss : List (List Int)} {gs : List Int} {n : Int} (h : M.isAuto st Ss gs = true) (hn : (decide (1 ≤ n) && decide (n ≤ 30)) = false) : F_CountByState st Ss gs n = ([], 2) := by rw [F_CountByState, codeN_2 h hn]; rfl
theorem F_Count_0 {st : Int} {Ss : List (List Int)} {gs : List Int} {n : Int} (h : M.isAuto st Ss gs = true) (hn : (decide (1 ≤ n) && decide (n ≤ 30)) = true) : F_CountByState st Ss gs n = (M.counts Ss Ss.length st n.toNat, 0) := by rw [F_CountByState, codeN_0 h hn]; rfl

set_option maxRecDepth 100000 in
set_option maxHeartbeats 1000000 in
theorem l06Code (st : Int) (As Ag : Option Addr) (Ss : List (List Int)) (gs : List Int) (m cm g cg : Nat) (n : Int) (w : World) (hm : Hid (Ss.length = m)) (hm' : m ≤ 1048576) (hg : Hid (gs.length = g)) (hg' : g ≤ 1048576) (h : Hid (AutoR w As Ss Ag gs)) :
    Calls Try.prog 81 #[.agg #[.int .i64 st, .slice As m cm, .slice Ag g cg], .int .i64 n] w fun e w' => e = .returned (.int .i64 (codeN st Ss gs n)) ∧ Hid (Below w.heap.size w w') := by
  have HB := Lib.hid (bal (b0 w) (.cells #[.int .i64 st, .slice As m cm, .slice Ag g cg] 40))
  obtain ⟨b1, hb1⟩ : ∃ b, Hid (M.isAuto st Ss gs = b) := ⟨_, rfl⟩
  obtain ⟨b2, hb2⟩ : ∃ b, Hid ((decide (1 ≤ n) && decide (n ≤ 30)) = b) := ⟨_, rfl⟩
  have HA := Lib.hid (l06Is st As Ag Ss gs m cm g cg (w.alloc (.cells #[.int .i64 st, .slice As m cm, .slice Ag g cg] 40)) hm hm' hg hg' (Lib.hid (h.out.be HB.out)) b1 hb1)
  cases b1
  · rw [codeN_1 hb1.out]
    go_enter Try.func81, Try.ntmps81
    go_wp2_with fail
    refine HA.out.mono ?_
    rintro e w1 ⟨rfl, hb⟩
    have B1 := Lib.hid (btr HB.out hb.out)
    go_wp2
    go_ret
    exact ⟨rfl, B1⟩
  · cases b2
    · rw [codeN_2 hb1.out hb2.out]
      go_enter Try.func81, Try.ntmps81
      go_wp2_with fail
      refine HA.out.mono ?_
      rintro e w1 ⟨rfl, hb⟩
      have B1 := Lib.hid (btr HB.out hb.out)
      go_wp2_with fail
      refine (inAny _ _ _ _ _ hb2).mono ?_
      rintro e w' ⟨rfl, rfl⟩
      go_wp2
      go_ret
      exact ⟨rfl, B1⟩
    · rw [codeN_0 hb1.out hb2.out]
      go_enter Try.func81, Try.ntmps81
      go_wp2_with fail
      refine HA.out.mono ?_
      rintro e w1 ⟨rfl, hb⟩
      have B1 := Lib.hid (btr HB.out hb.out)
      go_wp2_with fail
      refine (inAny _ _ _ _ _ hb2).mono ?_
      rintro e w' ⟨rfl, rfl⟩
      go_wp2
      go_ret
      exact ⟨rfl, B1⟩

/-- an automaton and a number to a list and a code -/
def GivesCounts (f : Nat) : Prop :=
  ∀ (st : Int) (As Ag : Option Addr) (Ss : List (List Int)) (gs : List Int) (m cm g cg : Nat) (n : Int) (w : World), Hid (Ss.length = m) → m ≤ 1048576 → Hid (gs.length = g) → g ≤ 1048576 → Hid (AutoR w As Ss Ag gs) →
    Calls Try.prog f #[.agg #[.int .i64 st, .slice As m cm, .slice Ag g cg], .int .i64 n] w fun e w' => ∃ A' c', e = .returned (.tuple #[.slice A' (F_CountByState st Ss gs n).1.length c', .int .i64 (F_CountByState st Ss gs n).2]) ∧ Own64 w' w.heap.size (.slice A' (F_CountByState st Ss gs n).1.length c') (F_CountByState st Ss gs n).1 ∧ Hid (Below w.heap.size w w')

set_option maxRecDepth 100000 in
set_option maxHeartbeats 2000000 in
theorem spec_CountByState : GivesCounts 38 := by
  intro st As Ag Ss gs m cm g cg n w hm hm' hg hg' h
  obtain ⟨W, hW⟩ : ∃ W, W = w.alloc (.cells #[.int .i64 st, .slice As m cm, .slice Ag g cg] 40) := ⟨_, rfl⟩
  have C1 : Hid (BoxA W w.heap.size st As m cm Ag g cg) := by subst hW; exact BoxA.new _ _ _ _ _ _ _ _ _
  have hBW : Hid (Below w.heap.size w W) := by subst hW; exact bal (b0 w) _
  have HW := Lib.hid hW
  clear hW
  have HC := Lib.hid (l06Code st As Ag Ss gs m cm g cg n W hm hm' hg hg' (Lib.hid (h.out.be hBW.out)))
  by_cases h0 : codeN st Ss gs n = 0
  · have hia : M.isAuto st Ss gs = true := by
      cases hh : M.isAuto st Ss gs with
      | true => rfl
      | false => rw [codeN_1 hh] at h0; cases h0
    have hin : (decide (1 ≤ n) && decide (n ≤ 30)) = true := by
      cases hh : (decide (1 ≤ n) && decide (n ≤ 30)) with
      | true => rfl
      | false => rw [codeN_2 hia hh] at h0; cases h0
    have hn1 : 1 ≤ n ∧ n ≤ 30 := by simpa using hin
    obtain ⟨k, rfl⟩ := Int.eq_ofNat_of_zero_le (show 0 ≤ n by omega)
    rw [F_Count_0 hia hin, Int.toNat_natCast, hm.out]
    rw [h0] at HC
    have hIA : Hid (M.IsA st Ss gs m) := by rw [← hm.out]; exact M.isA_of hia
    have HN : Hid (∀ W', Hid (Below W.heap.size W W') → Calls Try.prog 82 #[.agg #[.int .i64 st, .slice As m cm, .slice Ag g cg], .int .i64 (k : Int)] W' fun e w' => ∃ A' c', e = .returned (.slice A' (k + 1) c') ∧ Tab w' W'.heap.size (.slice A' (k + 1) c') (M.cntT Ss m st (List.replicate m 0) k) ∧ Hid (Below W'.heap.size W' w')) := fun W' hW' =>
      l06Counts st As Ag Ss gs m cm g cg k W' hIA (Lib.hid (h.out.be (btr hBW.out hW'.out)).rows) (by omega) (by omega)
    have hki : (k : Int) < ((k + 1 : Nat) : Int) := by omega
    have hki2 : (k : Int) < (k : Int) + 1 := by omega
    have hk0 : (0 : Int) ≤ (k : Int) := by omega
    have hcl := Lib.hid (M.counts_len Ss m st (n := k) (by omega))
    have hat := Lib.hid (M.counts_at Ss m st (List.replicate m 0) (n := k) (by omega))
    clear h h0 hia hin
    go_enter Try.func38, Try.ntmps38
    go_wp2_with fail
    rw [← HW.out]
    obtain ⟨a0, a1, a2⟩ := C1.out
    refine HC.out.mono ?_
    rintro e w1 ⟨rfl, hb⟩
    obtain ⟨a0', a1', a2'⟩ := C1.out.be hb.out
    have B1 := hb
    clear a0 a1 a2 hb
    go_wp2_with fail
    refine (HN.out _ B1).mono ?_
    rintro e w2 ⟨A', c', rfl, hT, hb⟩
    obtain ⟨G, rfl⟩ := hT.some_ (by omega)
    obtain ⟨A2, c2, f1, f2, _⟩ := hT.at_ hat.out
    rw [hcl.out] at f1 f2
    have B2 : Hid (Below w.heap.size w w2) := btr hBW.out (btr B1.out hb.out)
    have Ho : Hid (Own64 w2 w.heap.size (.slice A2 m c2) (M.counts Ss m st k)) := own_mono f2 (Nat.le_trans hBW.out.size B1.out.size)
    clear hT f2 hb
    go_wp2
    go_ret2
    rw [hcl.out]
    exact ⟨_, _, rfl, Ho.out, B2⟩
  · have hne : (codeN st Ss gs n != 0) = true := by simp [h0]
    have hF : F_CountByState st Ss gs n = ([], codeN st Ss gs n) := by rw [F_CountByState, if_neg h0]
    rw [hF]
    generalize codeN st Ss gs n = cd at *
    clear hF h
    go_enter Try.func38, Try.ntmps38
    go_wp2_with fail
    rw [← HW.out]
    obtain ⟨a0, a1, a2⟩ := C1.out
    refine HC.out.mono ?_
    rintro e w1 ⟨rfl, hb⟩
    have B1 : Hid (Below w.heap.size w w1) := btr hBW.out hb.out
    go_wp2
    go_ret2
    exact ⟨none, 0, rfl, own64_nil _ _, B1⟩
end Go.Proofs.Ytcipafjibkclcaa
