/- RemoveAt, the program's and the model's: the tree without a subtree, or a code. -/
import Derived.Test.YtgcabcmnhdaepaaCopy
import Derived.Test.YtgcabcmnhdaepaaNodes
import Derived.Test.YtgcabcmnhdaepaaGives
import Derived.Test.YtgcabcmnhdaepaaConcat
import Derived.Test.YtgcabcmnhdaepaaAddr
import Derived.Test.YtgcabcmnhdaepaaParentsIn
import Derived.Deep.RegionHeld3
namespace Go.Proofs.Ytgcabcmnhdaepaa
open Go.RowKit

namespace M
open Classical in
noncomputable def par (xs : List Int) (c : Nat) : Nat := if h : ∃ p, IsKid xs p c then h.choose else 0
theorem par_eq {xs : List Int} (ht : isTree xs = true) {p c : Nat} (h : IsKid xs p c) : par xs c = p := by
  have hx : ∃ p, IsKid xs p c := ⟨p, h⟩
  rw [par, dif_pos hx]
  exact kid_unique ht hx.choose_spec h
/-- what is left: the degrees ahead of v's subtree and behind it -/
def left (xs : List Int) (v : Nat) : List Int := xs.take v ++ xs.drop (fin xs v)
noncomputable def rem (xs : List Int) (v : Nat) : List Int := (left xs v).set (par xs v) ((deg xs (par xs v) : Int) - 1)
theorem left_at {xs : List Int} {v p d : Nat} (h : xs[p]? = some (d : Int)) (hp : p < v) : (left xs v)[p]? = some (d : Int) := by
  have hl := (List.getElem?_eq_some_iff.1 h).1
  rw [left, List.getElem?_append_left (by rw [List.length_take]; omega), List.getElem?_take_of_lt hp]
  exact h
theorem left_len {xs : List Int} {v : Nat} : (left xs v).length ≤ xs.length := by
  have := span_pos (xs := xs) (v := v)
  rw [left, List.length_append, List.length_take, List.length_drop]
  rcases Nat.lt_or_ge v xs.length with h | h
  · have := this h; simp only [fin]; omega
  · simp only [fin]; omega
theorem rem_len {xs : List Int} {v : Nat} : (rem xs v).length ≤ xs.length := by
  rw [rem, List.length_set]
  exact left_len
/-- the node's parent -/
theorem par_at {xs : List Int} (ht : isTree xs = true) {v : Nat} (h0 : 0 < v) (hv : v < xs.length) : ∃ p d : Nat, par xs v = p ∧ p < v ∧ xs[p]? = some (d : Int) ∧ 1 ≤ d ∧ d ≤ 24 ∧ deg xs p = d ∧ IsKid xs p v := by
  obtain ⟨p, hp⟩ := kid_has ht h0 hv
  have hp2 := hp
  obtain ⟨d, i, hd, hi, _⟩ := hp
  exact ⟨p, d, par_eq ht hp2, (kid_bounds ht hp2).1, hd, by omega, by have := (tree_deg ht hd).2; omega, deg_at hd, hp2⟩
end M

noncomputable def F_RemoveAt (xs : List Int) (v : Int) : List Int × Int := if M.code xs [v] = 0 then (if v = 0 then ([], 5) else (M.rem xs v.toNat, 0)) else ([], M.code xs [v])
theorem F_RemoveAt_len (xs : List Int) (v : Int) : (F_RemoveAt xs v).1.length ≤ 1048576 := by
  rw [F_RemoveAt]
  split
  · rename_i h
    have h1 := (M.tree_len (M.code_tree h)).2
    split
    · simp
    · show (M.rem _ _).length ≤ _
      have := M.rem_len (xs := xs) (v := v.toNat)
      omega
  · simp
/-- the two parts -/
def two (xs : List Int) (v E : Nat) : Nat → List Int
  | 0 => xs.take v
  | _ => xs.drop E

theorem own64_at {w : World} {B n c : Nat} {A : Option Addr} {zs : List Int} (h : Own64 w B (.slice A n c) zs) (hn : 0 < zs.length) : ∃ g, A = some ⟨g, 0, none⟩ := by
  have hl := own64_len h
  rcases h.2 with ⟨h0, _⟩ | ⟨g, cap, cur, hv, _⟩
  · injection h0 with _ e _; omega
  · injection hv with e1; exact ⟨g, e1⟩
theorem parts_two {w : World} {b off c v E c2 : Nat} {A2 : Option Addr} {xs : List Int} (h : Ints w w.heap.size (some ⟨b, off, none⟩) xs) (hv : v ≤ xs.length) (hE : E ≤ xs.length) (hA : A2 = some ⟨b, off + E, none⟩ ∨ (E = xs.length ∧ ∃ a, A2 = some a)) :
    Parts (w.alloc (.cells #[.slice (some ⟨b, off, none⟩) v c, .slice A2 (xs.length - E) c2] 23)) w.heap.size 2 (two xs v E) := by
  intro j hj
  have h2 := h.al (.cells #[.slice (some ⟨b, off, none⟩) v c, .slice A2 (xs.length - E) c2] 23)
  match j, hj with
  | 0, _ =>
    refine ⟨some ⟨b, off, none⟩, c, ?_, ?_, fun e => by cases e⟩
    · have e : (two xs v E 0).length = v := by simp only [two, List.length_take]; omega
      rw [e]; simp
    · have := ints_sub h2 0 v
      simpa [two] using this
  | 1, _ =>
    refine ⟨A2, c2, ?_, ?_, fun e => by rcases hA with rfl | ⟨_, a, rfl⟩ <;> cases e⟩
    · have e : (two xs v E 1).length = xs.length - E := by simp only [two, List.length_drop]
      rw [e]
      simp
    · rcases hA with rfl | ⟨rfl, _⟩
      · have := ints_sub h2 E (xs.length - E)
        have e : (xs.drop E).take (xs.length - E) = xs.drop E := List.take_of_length_le (by simp)
        rw [e] at this
        exact this
      · have e : two xs v xs.length 1 = [] := by simp [two]
        rw [e]
        exact Ints.nil_ _ _ _

end Go.Proofs.Ytgcabcmnhdaepaa
