/- What a list grows by one number more, told by an edit of the tree and by places. Mathematics. -/
import Derived.Test.YtdgcjkgbglofbaaWalkTree
import Derived.Test.YtdgcjkgbglofbaaEdit
namespace Go.Proofs.Ytdgcjkgbglofbaa
namespace M
theorem putIn_last {xs c r d : List Int} {t : Int} (hx : xs = c ++ (t :: r) ++ d) (hs : span 1 (xs.drop c.length) = r.length + 1) (ht : 0 ≤ t) :
    putIn xs c.length (deg xs c.length) 0 = c ++ ((t + 1) :: r) ++ [0] ++ d := by
  have hg : xs[c.length]? = some t := by rw [hx, List.append_assoc, List.getElem?_append_right (Nat.le_refl _), Nat.sub_self]; rfl
  have hd : (deg xs c.length : Int) = t := by simp [deg, hg]; omega
  have ha : putAt xs c.length (deg xs c.length) = c.length + (r.length + 1) := by
    rw [putAt, if_neg (by omega), fin, hs]
  rw [putIn, putL, ha, hd, hx]
  have e1 : (c ++ t :: r ++ d).take (c.length + (r.length + 1)) = c ++ t :: r := by
    rw [show c.length + (r.length + 1) = (c ++ t :: r).length by simp]; exact List.take_left
  have e2 : (c ++ t :: r ++ d).drop (c.length + (r.length + 1)) = d := by
    rw [show c.length + (r.length + 1) = (c ++ t :: r).length by simp]; exact List.drop_left
  rw [e1, e2]
  simp
/-- what the program keeps behind the numbers of a list: places of all labels -/
def posRow (l : List Int) : List Int := (List.range (l.length + 1)).map fun j => (pos l j : Int)
theorem posRow_len (l : List Int) : (posRow l).length = l.length + 1 := by simp [posRow]
theorem posRow_at {l : List Int} {j : Nat} (h : j ≤ l.length) : (posRow l)[j]? = some (pos l j : Int) := by simp [posRow, show j < l.length + 1 by omega]
/-- one step of the program -/
theorem grow_step {l : List Int} (h : Grows l) (hl : l.length ≤ 22) {p : Nat} (hp : p ≤ l.length) :
    ∃ v S : Nat, pos l p = v ∧ v < (W l 0).1.length ∧ span 1 ((W l 0).1.drop v) = S ∧ v + S ≤ 24 ∧
      putIn (W l 0).1 v (deg (W l 0).1 v) 0 = (W (l ++ [(p : Int)]) 0).1 ∧
      (∀ j, j ≤ l.length → pos (l ++ [(p : Int)]) j = if v + S ≤ pos l j then pos l j + 1 else pos l j) ∧
      pos (l ++ [(p : Int)]) (l.length + 1) = v + S := by
  obtain ⟨c, x, r, d, t, h1, h2, h3, h4, h5, _, h7, h8⟩ := W_put h (by omega) hp
  have ht := W_tree h (by omega)
  have hv := (List.getElem?_eq_some_iff.1 h4).1
  have hlen : (W l 0).1.length = l.length + 1 := by rw [W_len h 0 (Nat.zero_le _), W_count h]
  have hE := end_le (xs := (W l 0).1) (v := pos l p) (by omega)
  have htd := tree_deg ht h4
  refine ⟨pos l p, r.length + 1, rfl, hv, h3, by omega, ?_, h8, h7⟩
  rw [← h2] at h3 ⊢
  rw [putIn_last h1 h3 htd.1, h5]
end M
end Go.Proofs.Ytdgcjkgbglofbaa
