/- Nodes taken out and put in: the mathematics. -/
import Derived.Test.YtdgcjkgbglofbaaRemoveIn
namespace Go.Proofs.Ytdgcjkgbglofbaa

namespace M
/-- the degrees without those of v -/
def outL (xs : List Int) (v : Nat) : List Int := xs.take v ++ xs.drop (v + 1)
/-- the tree with v taken out -/
noncomputable def takeOut (xs : List Int) (v : Nat) : List Int := (outL xs v).set (par xs v) ((deg xs (par xs v) : Int) + (deg xs v : Int) - 1)
theorem outL_len {xs : List Int} {v : Nat} (h : v < xs.length) : (outL xs v).length = xs.length - 1 := by
  rw [outL, List.length_append, List.length_take, List.length_drop]; omega
theorem outL_at {xs : List Int} {v p : Nat} {d : Int} (h : xs[p]? = some d) (hp : p < v) : (outL xs v)[p]? = some d := by
  have hl := (List.getElem?_eq_some_iff.1 h).1
  rw [outL, List.getElem?_append_left (by rw [List.length_take]; omega), List.getElem?_take_of_lt hp]
  exact h
theorem takeOut_len {xs : List Int} {v : Nat} (h : v < xs.length) : (takeOut xs v).length = xs.length - 1 := by rw [takeOut, List.length_set, outL_len h]
/-- where a new node stands: ahead of the child i of v, or behind all that is below v -/
def putAt (xs : List Int) (v i : Nat) : Nat := if i < deg xs v then kidAt xs v i else fin xs v
def putL (xs : List Int) (v i : Nat) (k : Int) : List Int := xs.take (putAt xs v i) ++ [k] ++ xs.drop (putAt xs v i)
/-- the tree with a node put in -/
def putIn (xs : List Int) (v i k : Nat) : List Int := (putL xs v i (k : Int)).set v ((deg xs v : Int) - (k : Int) + 1)
theorem putAt_gt {xs : List Int} (ht : isTree xs = true) {v i : Nat} (hv : v < xs.length) : v < putAt xs v i ∧ putAt xs v i ≤ xs.length := by
  obtain ⟨d, hd, _⟩ := tree_degN ht hv
  rw [putAt]
  split
  · rename_i h
    rw [deg_at hd] at h
    have := kid_lt ht hd (i := i) (by omega)
    have := (kid_due ht hd i (by omega)).2.2
    omega
  · exact ⟨fin_gt hv, fin_le (by omega)⟩
theorem putL_len {xs : List Int} {v i : Nat} {k : Int} (h : putAt xs v i ≤ xs.length) : (putL xs v i k).length = xs.length + 1 := by
  rw [putL, List.length_append, List.length_append, List.length_take, List.length_drop]; simp; omega
theorem putL_at {xs : List Int} {v i : Nat} {k d : Int} (h : xs[v]? = some d) (hp : v < putAt xs v i) : (putL xs v i k)[v]? = some d := by
  have hl := (List.getElem?_eq_some_iff.1 h).1
  rw [putL, List.append_assoc, List.getElem?_append_left (by rw [List.length_take]; omega), List.getElem?_take_of_lt hp]
  exact h
theorem putIn_len {xs : List Int} {v i k : Nat} (h : putAt xs v i ≤ xs.length) : (putIn xs v i k).length = xs.length + 1 := by rw [putIn, List.length_set, putL_len h]
end M

noncomputable def F_TakeOut (xs : List Int) (v : Int) : List Int × Int := if M.code xs [v] = 0 then (if v = 0 then ([], 5) else (M.takeOut xs v.toNat, 0)) else ([], M.code xs [v])
theorem F_TakeOut_len (xs : List Int) (v : Int) : (F_TakeOut xs v).1.length ≤ 1048576 := by
  rw [F_TakeOut]
  split
  · rename_i h
    have h1 := (M.tree_len (M.code_tree h)).2
    have h2 := M.code_node h
    split
    · simp
    · show (M.takeOut _ _).length ≤ _
      rw [M.takeOut_len h2.2.1]
      omega
  · simp
/-- what is wrong with a place: 2, or 3 if there are too many nodes -/
def putCode (xs : List Int) (v i k : Int) : Int :=
  if M.code xs [v] = 0 then
    (if (decide (0 ≤ i) && decide (i ≤ (M.deg xs v.toNat : Int))) && (decide (0 ≤ k) && decide (k ≤ (M.deg xs v.toNat : Int) - i)) then (if xs.length = 24 then 3 else 0) else 2)
  else M.code xs [v]
def F_PutIn (xs : List Int) (v i k : Int) : List Int × Int := if putCode xs v i k = 0 then (M.putIn xs v.toNat i.toNat k.toNat, 0) else ([], putCode xs v i k)
theorem putCode_ok {xs : List Int} {v i k : Int} (h : putCode xs v i k = 0) : M.code xs [v] = 0 ∧ 0 ≤ i ∧ 0 ≤ k ∧ i + k ≤ (M.deg xs v.toNat : Int) ∧ xs.length ≠ 24 := by
  rw [putCode] at h
  split at h
  · rename_i hc
    split at h
    · rename_i h2
      split at h
      · cases h
      · simp only [Bool.and_eq_true, decide_eq_true_eq] at h2
        exact ⟨hc, by omega, by omega, by omega, by assumption⟩
    · cases h
  · rename_i hc
    exact absurd h hc
theorem F_PutIn_len (xs : List Int) (v i k : Int) : (F_PutIn xs v i k).1.length ≤ 1048576 := by
  rw [F_PutIn]
  split
  · rename_i h
    have h0 := (putCode_ok h).1
    have h1 := (M.tree_len (M.code_tree h0)).2
    have h2 := M.code_node h0
    show (M.putIn _ _ _ _).length ≤ _
    rw [M.putIn_len (M.putAt_gt (M.code_tree h0) h2.2.1).2]
    omega
  · simp
end Go.Proofs.Ytdgcjkgbglofbaa
