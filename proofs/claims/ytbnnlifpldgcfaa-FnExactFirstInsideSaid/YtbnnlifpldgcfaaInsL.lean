/- l04Lists: what it must do; its end. -/
import Derived.Test.YtbnnlifpldgcfaaInsF
import Derived.Test.YtbnnlifpldgcfaaClone
namespace Go.Proofs.Ytbnnlifpldgcfaa
open Go.RowKit

theorem M.lists_le {U : Nat} : ∀ {m : Nat} {vs : List Nat} {a : Nat}, a ≤ U → (M.lists U m vs a).length ≤ 2 ^ (U - a) := by
  intro m
  induction m with
  | zero => intro vs a _; rw [M.lists]; exact Nat.one_le_two_pow
  | succ m ih =>
    intro vs a ha
    obtain ⟨d, hd⟩ : ∃ d, U - a = d := ⟨_, rfl⟩
    rw [M.lists, hd]
    have key : ∀ (d b : Nat), b + d = U → ((List.range' b d).flatMap fun v => M.lists U m (vs ++ [v]) (v + 1)).length + 1 ≤ 2 ^ d := by
      intro d
      induction d with
      | zero => intro b _; simp
      | succ d ihd =>
        intro b hb
        rw [List.range'_succ, List.flatMap_cons, List.length_append]
        have h1 := ih (vs := vs ++ [b]) (a := b + 1) (by omega)
        have h2 := ihd (b + 1) (by omega)
        rw [show U - (b + 1) = d by omega] at h1
        rw [Nat.pow_succ]
        omega
    have := key d a (by omega)
    omega
/-- the lists that go on with one of the first d numbers -/
def M.listsTo (U m : Nat) (vs : List Nat) (a d : Nat) : List (List Nat) := (List.range' a d).flatMap fun v => M.lists U m (vs ++ [v]) (v + 1)
theorem M.listsTo_zero {U m a : Nat} {vs : List Nat} : M.listsTo U m vs a 0 = [] := rfl
theorem M.listsTo_succ {U m a d : Nat} {vs : List Nat} : M.listsTo U m vs a (d + 1) = M.listsTo U m vs a d ++ M.lists U m (vs ++ [a + d]) (a + d + 1) := by
  rw [M.listsTo, M.listsTo, ← List.range'_append_1 (s := a) (m := d) (n := 1), List.flatMap_append]
  simp
theorem M.listsTo_all {U m a : Nat} {vs : List Nat} : M.listsTo U m vs a (U - a) = M.lists U (m + 1) vs a := rfl
theorem M.listsTo_pre {U m a d : Nat} {vs : List Nat} (h : a + d ≤ U) : ∃ r, M.lists U (m + 1) vs a = M.listsTo U m vs a d ++ r := by
  refine ⟨(List.range' (a + d) (U - a - d)).flatMap fun v => M.lists U m (vs ++ [v]) (v + 1), ?_⟩
  rw [M.lists, M.listsTo, ← List.flatMap_append, List.range'_append_1]
  congr 2
  omega
/-- the number that may stand next -/
def nextOf (l : List Nat) : Nat := match l.getLast? with | none => 0 | some x => x + 1
theorem nextOf_nil : nextOf [] = 0 := rfl
theorem nextOf_snoc (l : List Nat) (x : Nat) : nextOf (l ++ [x]) = x + 1 := by unfold nextOf; simp
def okIn (us xs : List Int) (l : List Nat) : Bool := inB us (nums l) xs
def cntOf (one : Bool) (F : List (List Nat)) : Nat := if one = true then min 1 F.length else F.length
theorem cntOf_nil (one : Bool) : cntOf one [] = 0 := by cases one <;> rfl
theorem cntOf_zero {one : Bool} {F : List (List Nat)} (h : cntOf one F = 0) : F = [] := by
  cases one <;> cases F <;> first | rfl | (exfalso; simp [cntOf] at h; done) | (exfalso; simp [cntOf] at h; omega)
theorem cntOf_pos {one : Bool} {F : List (List Nat)} (h : 0 < cntOf one F) : ∃ l r, F = l :: r := by
  cases F with
  | nil => rw [cntOf_nil] at h; omega
  | cons l r => exact ⟨l, r, rfl⟩
theorem cntOf_le (one : Bool) (F : List (List Nat)) : cntOf one F ≤ F.length := by
  cases one
  · exact Nat.le_refl _
  · exact Nat.min_le_right _ _
def FirstAt (F : List (List Nat)) (w : World) (A : Option Addr) (m : Nat) : Prop := ∀ l r, F = l :: r → m = l.length ∧ Ints w w.heap.size A (nums l)
theorem firstAt_nil (w : World) (A : Option Addr) (m : Nat) : FirstAt [] w A m := fun _ _ h => by cases h
theorem firstAt_be {F : List (List Nat)} {w w' : World} {A : Option Addr} {m : Nat} (h : FirstAt F w A m) (hb : Below w.heap.size w w') : FirstAt F w' A m := fun l r e => ⟨(h l r e).1, (h l r e).2.be hb⟩
theorem firstAt_app {F G : List (List Nat)} {w : World} {A : Option Addr} {m : Nat} (h : FirstAt F w A m) (hF : F ≠ []) : FirstAt (F ++ G) w A m := fun l r e => by
  cases F with
  | nil => exact absurd rfl hF
  | cons l' r' => injection e with e1 e2; subst e1; exact h l' r' rfl
def ListsQ (one : Bool) (F : List (List Nat)) (w : World) (en : Ending) (w' : World) : Prop := ∃ A' m' c', en = .returned (.tuple #[.slice A' m' c', .int .i64 (cntOf one F : Nat)]) ∧ Hid (FirstAt F w' A' m') ∧ Hid (Below w.heap.size w w')
theorem listsQ_mk {one : Bool} {F : List (List Nat)} {w w' : World} {A' : Option Addr} {m' c' : Nat} {x : Int} (h0 : x = (cntOf one F : Nat)) (h1 : FirstAt F w' A' m') (h2 : Below w.heap.size w w') : ListsQ one F w (.returned (.tuple #[.slice A' m' c', .int .i64 x])) w' := ⟨A', m', c', by rw [h0], h1, h2⟩
/-- what l04Lists must do with k numbers left -/
def ListsAt (us xs : List Int) (k : Nat) : Prop := ∀ (A B C : Option Addr) (c d n e : Nat) (l : List Nat) (one : Bool) (w : World), l.length + k = xs.length → l.Pairwise (· < ·) → (∀ x ∈ l, x < us.length) → Hid (l.length = n) → n ≤ e → Hid (C = none → e = 0) → Hid (Ints w w.heap.size A xs) → Hid (Ints w w.heap.size B us) → Hid (Ints w w.heap.size C (nums l)) →
  Calls Try.prog 79 #[.agg #[.slice A xs.length c], .agg #[.slice B us.length d], .slice C n e, .bool one] w (ListsQ one ((M.lists us.length k l (nextOf l)).filter (okIn us xs)) w)

set_option maxHeartbeats 4000000 in
set_option maxRecDepth 100000 in
theorem l04Lists_zero (us xs : List Int) (hu : Hid (M.isTree us = true)) (hx : xs.length ≤ 24) : ListsAt us xs 0 := by
  intro A B C c d n e l one w hl h1 h2 hn hne hz hA hB hC
  obtain ⟨W0, hW0⟩ : ∃ W0, (w.alloc (.cells #[.slice A xs.length c] 24)).alloc (.cells #[.slice B us.length d] 24) = W0 := ⟨_, rfl⟩
  have cT : W0.cell? ⟨w.heap.size, 0, none⟩ = some (.slice A xs.length c) := by rw [← hW0]; exact cell_al (by simp) _
  have cU : W0.cell? ⟨w.heap.size + 1, 0, none⟩ = some (.slice B us.length d) := by rw [← hW0]; simp [go_sem]
  have hB0 : Hid (Below w.heap.size w W0) := by rw [← hW0]; exact bal (bal (b0 w) _) _
  have hnl := hn.out
  obtain rfl : n = xs.length := by omega
  have hG : Hid (M.goodTo (nums l) us.length (nums l).length = true) := good_nums h1 h2
  have hIn := Lib.hid (l04Inside A B C xs us (nums l) c d xs.length e W0 (by omega) hu (Lib.hid (by rw [nums_len]; exact hnl)) (by omega) hne (Lib.hid (by rw [nums_len]; omega)) hG (Lib.hid (hA.out.be hB0.out)) (Lib.hid (hB.out.be hB0.out)) (Lib.hid (hC.out.be hB0.out)))
  have hF : Hid ((M.lists us.length 0 l (nextOf l)).filter (okIn us xs) = if inB us (nums l) xs = true then [l] else []) := by
    show _ = _
    rw [M.lists, List.filter_cons]; rfl
  have hCl := Lib.hid (fun W (hb : Below w.heap.size w W) => hC.out.be hb)
  have HW := Lib.hid hW0
  have Hnl := Lib.hid hnl
  generalize (M.lists us.length 0 l (nextOf l)).filter (okIn us xs) = F at *
  generalize inB us (nums l) xs = R at *
  clear hW0 hA hB hC hG h1 h2 hl hn hnl
  go_enter Try.func79, Try.ntmps79
  go_wp2_with fail
  rw [HW.out]
  go_wp2_with fail
  refine hIn.out.mono ?_
  rintro en w1 ⟨rfl, hb1⟩
  have hB1 := Lib.hid (btr hB0.out hb1.out)
  cases R
  · go_wp2
    go_ret2
    have e0 : F = [] := hF.out
    subst e0
    exact listsQ_mk (by rw [cntOf_nil]; rfl) (firstAt_nil _ _ _) hB1
  · go_wp2
    go_ret2
    have e0 : F = [l] := hF.out
    subst e0
    refine listsQ_mk (by cases one <;> rfl) ?_ hB1
    intro l' r' e
    injection e with e1 e2
    subst e1
    exact ⟨Hnl.out.symm, hCl.out _ hB1.out⟩
end Go.Proofs.Ytbnnlifpldgcfaa
