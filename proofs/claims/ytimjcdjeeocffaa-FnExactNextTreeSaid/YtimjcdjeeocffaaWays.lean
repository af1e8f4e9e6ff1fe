/- The map that keeps numbers of ways by two numbers: what its block is good for, and the function that keeps them. -/
import Derived.Test.YtimjcdjeeocffaaBase
import Derived.Test.YtimjcdjeeocffaaCat
import Derived.Maps.OwnSet
import Derived.Maps.OwnOps
import Derived.Maps.Views
import Derived.WideKeyPair
import Derived.Maps.AppendAt
import Derived.RangeFuncBox
namespace Go.Proofs.Ytimjcdjeeocffaa
open Go.RowKit Go.Maps Go.WideMaps

theorem arrK : ArrKey Try.prog 156 2 2 := ⟨Try.underlying156, by kernel_rfl, by kernel_rfl, by kernel_rfl⟩
theorem sizeK : ∃ m, Try.prog.types.size = m + 1 := ⟨Try.prog.types.size - 1, by kernel_rfl⟩
theorem keyedK : Keyed Try.prog 156 := Keyed.of_law arrK.law
theorem zeroI (w : World) : (zeroValue 2).run Try.prog w = .ok (.int .i64 0) w := by kernel_rfl

def kl (i j : Nat) : Lit := .string (keyBytes [.int .i64 (i : Int), .int .i64 (j : Int)])
theorem wfN {i : Nat} (h : i ≤ 1000000000000) : (Lit.int .i64 (i : Int)).wf = true := WalkArith.wf_i64 (by omega)
theorem keyOf_kl {i j : Nat} (hi : i ≤ 1000000000000) (hj : j ≤ 1000000000000) : keyOf Try.prog 156 (.agg #[.int .i64 (i : Int), .int .i64 (j : Int)]) = some (kl i j) :=
  keyOf_pair arrK Try.underlying2 sizeK (wfN hi) (wfN hj)
theorem kl_inj {i j i' j' : Nat} (hi : i ≤ 1000000000000) (hj : j ≤ 1000000000000) (hi' : i' ≤ 1000000000000) (hj' : j' ≤ 1000000000000) (h : kl i j = kl i' j') : i = i' ∧ j = j' := by
  have h1 := keyOf_kl hi hj
  have h2 := keyOf_kl hi' hj'
  rw [← h] at h2
  have := keyedK.inj h1 h2
  injection this with this
  injection this with this
  injection this with e1 e2
  injection e2 with e2 _
  injection e1 with _ e1
  injection e2 with _ e2
  omega
theorem kl_key {i j : Nat} (hi : i ≤ 1000000000000) (hj : j ≤ 1000000000000) : WideAt.IsKeyLit (kl i j) := keyedK.key (keyOf_kl hi hj)

namespace M
theorem filter_lt {α : Type} {p q : α → Bool} (h : ∀ x, q x = true → p x = true) : ∀ (l : List α) (x : α), x ∈ l → p x = true → q x = false → (l.filter q).length + 1 ≤ (l.filter p).length := by
  intro l
  induction l with
  | nil => intro x hx; cases hx
  | cons y r ih =>
    intro x hx hp hq
    have hle : ∀ r : List α, (r.filter q).length ≤ (r.filter p).length := by
      intro r
      induction r with
      | nil => exact Nat.le_refl _
      | cons z r ihr =>
        simp only [List.filter_cons]
        cases hqz : q z
        · cases p z <;> simp <;> omega
        · rw [h z hqz]; simp; omega
    simp only [List.filter_cons]
    rcases List.mem_cons.1 hx with rfl | hx
    · rw [hp, hq]
      have := hle r
      simp
      omega
    · have := ih x hx hp hq
      cases hqy : q y
      · cases p y <;> simp <;> omega
      · rw [h y hqy]; simp; omega
def pairs : List (Nat × Nat) := (List.range 32).flatMap fun i => (List.range 32).map fun j => (i, j)
theorem pairs_mem {i j : Nat} (hi : i < 32) (hj : j < 32) : (i, j) ∈ pairs := by
  simp only [pairs, List.mem_flatMap, List.mem_map, List.mem_range]
  exact ⟨i, hi, j, hj, rfl⟩
theorem pairs_bd {p : Nat × Nat} (h : p ∈ pairs) : p.1 < 32 ∧ p.2 < 32 := by
  simp only [pairs, List.mem_flatMap, List.mem_map, List.mem_range] at h
  obtain ⟨i, hi, j, hj, rfl⟩ := h
  exact ⟨hi, hj⟩
end M

def absent (D : DataW Unit) : Nat := (M.pairs.filter fun p => !has D (kl p.1 p.2)).length

/-- block b is a map that holds for each of its pairs the number that L says -/
def Memo (L : Nat → Nat → Nat) (w : World) (b : Nat) : Prop :=
  ∃ D : DataW Unit, w.ownsMap Try.prog 156 (plainElem Try.prog 2) b (Maps.size D) D ∧ (∀ i j : Nat, i < 32 → j < 32 → has D (kl i j) = true → ∀ z, D.atKey (kl i j) z = .lit (.int .i64 (L i j : Int))) ∧ Maps.size D + absent D ≤ 1024

theorem Memo.lt {L : Nat → Nat → Nat} {w : World} {b : Nat} (h : Memo L w b) : b < w.heap.size := by obtain ⟨D, h1, _⟩ := h; exact h1.lt
theorem Memo.kept {L : Nat → Nat → Nat} {w w' : World} {b : Nat} {row : Option Nat} (h : Memo L w b) (hg : w.grownBy w' row) (hne : some b ≠ row) : Memo L w' b := by
  obtain ⟨D, h1, h2, h3⟩ := h
  exact ⟨D, h1.kept hg hne, h2, h3⟩
theorem Memo.alloc {L : Nat → Nat → Nat} {w : World} {b : Nat} (h : Memo L w b) (o : Obj) : Memo L (w.alloc o) b := h.kept (World.grownBy_alloc w o none) (by simp)
theorem Memo.new (L : Nat → Nat → Nat) (w : World) : Memo L (w.alloc (.map #[] 0)) w.heap.size :=
  ⟨.map [], World.ownsMap_made _ _ _ _, fun i j _ _ h => by simp [has] at h, by
    have : absent (.map []) ≤ 1024 := Nat.le_trans (List.length_filter_le _ _) (by decide +kernel)
    simpa [Maps.size] using this⟩

theorem ownsMap_size {w : World} {k b n : Nat} {R : Value → Option (DataW Unit × List MemPlace)} {D : DataW Unit} (h : w.ownsMap Try.prog k R b n D) : w.ownsMap Try.prog k R b (Maps.size D) D := by
  obtain ⟨es, clock, hb, F, hs, hD⟩ := h
  refine ⟨es, clock, hb, F, ?_, hD⟩
  rw [hD]
  show es.size ≤ (List.foldr DataW.insert [] _).length
  rw [length_sorted]
  simp

theorem Memo.put {L : Nat → Nat → Nat} {w : World} {D : DataW Unit} {b i j n : Nat} (hi : i < 32) (hj : j < 32) (hT : Tidy D) (hv : ∀ i j : Nat, i < 32 → j < 32 → has D (kl i j) = true → ∀ z, D.atKey (kl i j) z = .lit (.int .i64 (L i j : Int))) (hs : Maps.size D + absent D ≤ 1024)
    (h : w.ownsMap Try.prog 156 (plainElem Try.prog 2) b n (D.put (kl i j) (.lit (.int .i64 (L i j : Int))))) : Memo L w b := by
  have hne : ∀ i' j' : Nat, i' < 32 → j' < 32 → (i', j') ≠ (i, j) → kl i' j' ≠ kl i j := fun i' j' h1 h2 h3 e => h3 (by obtain ⟨e1, e2⟩ := kl_inj (by omega) (by omega) (by omega) (by omega) e; rw [e1, e2])
  refine ⟨_, ownsMap_size h, fun i' j' h1 h2 hh z => ?_, ?_⟩
  · by_cases he : (i', j') = (i, j)
    · injection he with e1 e2
      subst e1
      subst e2
      exact atKey_put_same hT.isMap (kl_key (by omega) (by omega)) _ _
    · rw [has_put_other (hne i' j' h1 h2 he)] at hh
      rw [atKey_put_other (hne i' j' h1 h2 he)]
      exact hv i' j' h1 h2 hh z
  · rw [size_put hT]
    have hmono : ∀ p ∈ M.pairs, (!has (D.put (kl i j) (.lit (.int .i64 (L i j : Int)))) (kl p.1 p.2)) = true → (!has D (kl p.1 p.2)) = true := fun p hp hq => by
      obtain ⟨h1, h2⟩ := M.pairs_bd hp
      by_cases he : (p.1, p.2) = (i, j)
      · injection he with e1 e2
        rw [e1, e2, has_put_same hT.isMap (kl_key (by omega) (by omega))] at hq
        cases hq
      · rw [has_put_other (hne _ _ h1 h2 he)] at hq
        exact hq
    have habs : absent (D.put (kl i j) (.lit (.int .i64 (L i j : Int)))) = (M.pairs.filter fun p => (!has (D.put (kl i j) (.lit (.int .i64 (L i j : Int)))) (kl p.1 p.2)) && !has D (kl p.1 p.2)).length := by
      unfold absent
      congr 1
      apply List.filter_congr
      intro p hp
      cases hq : (!has (D.put (kl i j) (.lit (.int .i64 (L i j : Int)))) (kl p.1 p.2))
      · rfl
      · rw [hmono p hp hq]; rfl
    cases hh : has D (kl i j)
    · have := M.filter_lt (p := fun p : Nat × Nat => !has D (kl p.1 p.2)) (q := fun p => (!has (D.put (kl i j) (.lit (.int .i64 (L i j : Int)))) (kl p.1 p.2)) && !has D (kl p.1 p.2)) (fun x hx => by simp only [Bool.and_eq_true] at hx; exact hx.2) M.pairs (i, j) (M.pairs_mem hi hj) (by simp [hh]) (by simp [has_put_same hT.isMap (kl_key (i := i) (j := j) (by omega) (by omega))])
      rw [habs]
      unfold absent at hs
      simp only [Bool.false_eq_true, if_false]
      omega
    · have : absent (D.put (kl i j) (.lit (.int .i64 (L i j : Int)))) ≤ absent D := by
        rw [habs]
        unfold absent
        rw [← List.filter_filter]
        exact List.length_filter_le _ _
      simp only [if_true]
      omega
end Go.Proofs.Ytimjcdjeeocffaa
