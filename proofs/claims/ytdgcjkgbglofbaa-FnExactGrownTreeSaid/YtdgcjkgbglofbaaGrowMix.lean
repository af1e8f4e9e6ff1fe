/- Places that move behind a node that is put in, one after another. Mathematics. -/
import Derived.Test.YtdgcjkgbglofbaaWalkPut
namespace Go.Proofs.Ytdgcjkgbglofbaa
namespace M
def mvd (a y : Int) : Int := if a ≤ y then y + 1 else y
def mvTo (P : List Int) (a : Int) (r : Nat) : List Int := (P.take r).map (mvd a) ++ P.drop r
theorem mvTo_len (P : List Int) (a : Int) (r : Nat) : (mvTo P a r).length = P.length := by
  rw [mvTo, List.length_append, List.length_map, List.length_take, List.length_drop]; omega
theorem mvTo_zero (P : List Int) (a : Int) : mvTo P a 0 = P := by simp [mvTo]
theorem mvTo_end (P : List Int) (a : Int) : mvTo P a P.length = P.map (mvd a) := by simp [mvTo]
theorem mvTo_at {P : List Int} {a y : Int} {r : Nat} (h : P[r]? = some y) : (mvTo P a r)[r]? = some y := by
  have hr := (List.getElem?_eq_some_iff.1 h).1
  have hl : ((P.take r).map (mvd a)).length = r := by rw [List.length_map, List.length_take]; omega
  rw [mvTo, List.getElem?_append_right (by omega), hl, Nat.sub_self, List.getElem?_drop, Nat.add_zero, h]
theorem mvTo_set {P : List Int} {a y : Int} {r : Nat} (h : P[r]? = some y) : (mvTo P a r).set r (mvd a y) = mvTo P a (r + 1) := by
  obtain ⟨hr, rfl⟩ := List.getElem?_eq_some_iff.1 h
  have hl : ((P.take r).map (mvd a)).length = r := by rw [List.length_map, List.length_take]; omega
  rw [mvTo, mvTo, List.take_succ_eq_append_getElem hr, List.map_append, List.drop_eq_getElem_cons hr, List.set_append_right _ _ (by omega), hl, Nat.sub_self, List.set_cons_zero]
  simp
theorem mvTo_hit {P : List Int} {a y : Int} {r : Nat} (h : P[r]? = some y) (hy : a ≤ y) : (mvTo P a r).set r (y + 1) = mvTo P a (r + 1) := by
  have := mvTo_set (a := a) h
  rwa [mvd, if_pos hy] at this
theorem mvTo_miss {P : List Int} {a y : Int} {r : Nat} (h : P[r]? = some y) (hy : ¬ a ≤ y) : mvTo P a (r + 1) = mvTo P a r := by
  rw [← mvTo_set h, mvd, if_neg hy]
  apply List.ext_getElem?
  intro i
  by_cases e : r = i
  · subst e
    rw [List.getElem?_set_self (by rw [mvTo_len]; exact (List.getElem?_eq_some_iff.1 h).1), mvTo_at h]
  · rw [List.getElem?_set_ne e]
/-- one step of the program, on the row of places -/
theorem posRow_step {l : List Int} {p v S : Nat} (h1 : ∀ j, j ≤ l.length → pos (l ++ [(p : Int)]) j = if v + S ≤ pos l j then pos l j + 1 else pos l j) (h2 : pos (l ++ [(p : Int)]) (l.length + 1) = v + S) :
    mvTo (posRow l) ((v + S : Nat) : Int) (l.length + 1) ++ [((v + S : Nat) : Int)] = posRow (l ++ [(p : Int)]) := by
  have hl := posRow_len l
  rw [← hl, mvTo_end, posRow, posRow, List.length_append, List.length_singleton, List.range_succ (n := l.length + 1), List.map_append, List.map_singleton, h2, List.map_map]
  congr 1
  apply List.map_congr_left
  intro j hj
  have hj := List.mem_range.1 hj
  rw [h1 j (by omega)]
  simp only [Function.comp, mvd]
  split <;> split <;> omega
theorem posRow_zero : posRow [] = [0] := by
  rw [posRow]
  show [((pos [] 0 : Nat) : Int)] = [0]
  rfl
theorem W_nil : (W [] 0).1 = [0] := rfl
theorem take_snoc {l : List Int} {k p : Nat} (h : l[k]? = some (p : Int)) : l.take (k + 1) = l.take k ++ [(p : Int)] := by
  rw [List.take_add_one, h]; rfl
end M
end Go.Proofs.Ytdgcjkgbglofbaa
