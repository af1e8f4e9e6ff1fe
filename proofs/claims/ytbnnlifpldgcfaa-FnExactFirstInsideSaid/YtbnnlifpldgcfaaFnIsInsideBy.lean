/- IsInsideBy, the program's: is a tree inside another one by a list of nodes. -/
import Derived.Test.YtbnnlifpldgcfaaInsIn
namespace Go.Proofs.Ytbnnlifpldgcfaa
open Go.RowKit

/-- is xs inside us by vs -/
def inB (us vs xs : List Int) : Bool := ((List.range xs.length).all fun i => i == 0 || M.pa us (nodeF vs) i != -1) && (M.degs us (nodeF vs) xs.length == xs)
theorem inB_iff {us vs xs ps : List Int} (ht : M.isTree xs = true) (hp : M.ParsOK xs ps) (hl : vs.length = xs.length) {n : Int} (hg : M.goodTo vs n vs.length = true) :
    (∀ i, i < xs.length → M.pa us (nodeF vs) i = ps[i]?.getD 0) ↔ inB us vs xs = true := by
  rw [M.inside_iff ht hp (fun i j h1 h2 => node_asc hg i j h1 (by omega)), inB, Bool.and_eq_true, List.all_eq_true, beq_iff_eq]
  constructor
  · rintro ⟨h1, h2⟩
    refine ⟨fun i hi => ?_, h2⟩
    rcases Nat.eq_zero_or_pos i with h0 | h0
    · rw [h0]; rfl
    · have := h1 i h0 (List.mem_range.1 hi)
      simp [this]
  · rintro ⟨h1, h2⟩
    refine ⟨fun i h0 hi => ?_, h2⟩
    have := h1 i (List.mem_range.2 hi)
    simp only [Bool.or_eq_true, beq_iff_eq, bne_iff_ne] at this
    rcases this with h | h
    · omega
    · exact h
theorem pl_congr {u : List Int} {f g : Nat → Nat} {x : Nat} : ∀ k, (∀ j, j < k → f j = g j) → M.pl u f x k = M.pl u g x k := by
  intro k
  induction k with
  | zero => intro _; rfl
  | succ k ih => intro h; rw [M.pl, M.pl, h k (by omega), ih (fun j hj => h j (by omega))]
theorem nodeF_take {vs : List Int} {k j : Nat} (h : j < k) : nodeF (vs.take k) j = nodeF vs j := by rw [nodeF, nodeF, List.getElem?_take, if_pos h]
theorem pa_take {u vs : List Int} {k : Nat} : M.pl u (nodeF (vs.take k)) (nodeF vs k) k = M.pa u (nodeF vs) k := pl_congr k fun _ hj => nodeF_take hj
def F_IsInsideBy (xs us vs : List Int) : Bool × Int :=
  if M.isTree xs = true ∧ M.isTree us = true then (if vs.length = xs.length ∧ M.goodTo vs us.length vs.length = true then (inB us vs xs, 0) else (false, 2)) else (false, 1)
theorem F_In_no1 {xs us vs : List Int} (h : M.isTree xs = false) : F_IsInsideBy xs us vs = (false, 1) := if_neg (by rw [h]; simp)
theorem F_In_no2 {xs us vs : List Int} (h : M.isTree us = false) : F_IsInsideBy xs us vs = (false, 1) := if_neg (by rw [h]; simp)
theorem F_In_range {xs us vs : List Int} (h : M.isTree xs = true) (h1 : M.isTree us = true) (h2 : ¬ (vs.length = xs.length ∧ M.goodTo vs us.length vs.length = true)) : F_IsInsideBy xs us vs = (false, 2) := by rw [F_IsInsideBy, if_pos ⟨h, h1⟩, if_neg h2]
theorem F_In_yes {xs us vs : List Int} (h : M.isTree xs = true) (h1 : M.isTree us = true) (h2 : vs.length = xs.length) (h3 : M.goodTo vs us.length vs.length = true) : F_IsInsideBy xs us vs = (inB us vs xs, 0) := by rw [F_IsInsideBy, if_pos ⟨h, h1⟩, if_pos ⟨h2, h3⟩]
theorem ints_first {w : World} {B : Nat} {A : Option Addr} {xs : List Int} (h : Ints w B A xs) (k : Nat) : Ints w B A (xs.take k) := fun hz => by
  obtain ⟨b, off, rfl, hb, hc⟩ := h (by rw [List.length_take] at hz; omega)
  exact ⟨b, off, rfl, hb, fun j x hx => hc j x (by rw [List.getElem?_take] at hx; split at hx; exact hx; cases hx)⟩
/-- two trees and a list to a bool and a code -/
def GivesTTL (f : Nat) (F : List Int → List Int → List Int → Bool × Int) : Prop :=
  ∀ (A B C : Option Addr) (xs us vs : List Int) (c d n e : Nat) (w : World), xs.length ≤ 1048576 → us.length ≤ 1048576 → n ≤ 1048576 → xs.length ≤ c ∧ c ≤ 1000000000000 → us.length ≤ d ∧ d ≤ 1000000000000 → n ≤ e ∧ e ≤ 1000000000000 → Hid (vs.length = n) → Hid (Ints w w.heap.size A xs) → Hid (Ints w w.heap.size B us) → Hid (Ints w w.heap.size C vs) →
    Calls Try.prog f #[.agg #[.slice A xs.length c], .agg #[.slice B us.length d], .slice C n e] w fun en w' => en = .returned (.tuple #[.bool (F xs us vs).1, .int .i64 (F xs us vs).2]) ∧ Below w.heap.size w w'

end Go.Proofs.Ytbnnlifpldgcfaa
