/- Postorder: the mathematics, and appendPostorder (a call of itself in the body of a range over a function). -/
import Derived.Test.YtbdmmeoelagdcaaKids
import Derived.Test.YtbdmmeoelagdcaaAddr
import Derived.Maps.OwnIn
namespace Go.Proofs.Ytbdmmeoelagdcaa
open Go.RowKit Go.Shelf Go.Maps
attribute [local go_sem] Oper.semAt_some

namespace M
/-- the nodes of v's subtree in postorder, f levels deep at most -/
def postGo (xs : List Int) : Nat → Nat → List Int
  | 0, _ => []
  | f + 1, v => ((List.range (deg xs v)).flatMap fun i => postGo xs f (kidAt xs v i)) ++ [(v : Int)]
/-- those of the first k children -/
def postK (xs : List Int) (f v k : Nat) : List Int := (List.range k).flatMap fun i => postGo xs f (kidAt xs v i)
theorem postK_succ (xs : List Int) (f v k : Nat) : postK xs f v (k + 1) = postK xs f v k ++ postGo xs f (kidAt xs v k) := by simp [postK, List.range_succ]
theorem postGo_at {xs : List Int} {f v d : Nat} (h : xs[v]? = some (d : Int)) : postGo xs (f + 1) v = postK xs f v d ++ [(v : Int)] := by rw [postGo, deg_at h]; rfl
theorem postGo_len {xs : List Int} (ht : isTree xs = true) : ∀ f v, v < xs.length → 24 - v ≤ f → (postGo xs f v).length = span 1 (xs.drop v) := by
  intro f
  induction f with
  | zero => intro v hv h; have := (tree_len ht).2; omega
  | succ f ih =>
    intro v hv hf
    obtain ⟨d, hd, _⟩ := tree_degN ht hv
    have hK : ∀ k, k ≤ d → (postK xs f v k).length + (v + 1) = kidAt xs v k := by
      intro k
      induction k with
      | zero => intro _; simp [postK, kidAt]
      | succ k ihk =>
        intro hk
        have hkl := kid_lt ht hd (i := k) (by omega)
        have hkv := (kid_due ht hd k (by omega)).2.2
        rw [postK_succ, List.length_append, ih _ hkl (by omega)]
        have := ihk (by omega)
        simp only [kidAt]
        omega
    have h1 := hK d (Nat.le_refl _)
    have h2 := kid_end ht hd
    rw [postGo_at hd, List.length_append, List.length_singleton]
    omega
theorem postGo_le {xs : List Int} (ht : isTree xs = true) {f v : Nat} (hv : v < xs.length) (hf : 24 - v ≤ f) : (postGo xs f v).length ≤ 24 := by
  rw [postGo_len ht f v hv hf]
  have := span_le (xs.drop v) 1
  have := (tree_len ht).2
  simp at *
  omega
end M

/-- a child, whatever the place -/
def kidO (xs : List Int) (v d x : Nat) : Nat := M.kidAt xs v (min x (d - 1))
theorem kidO_at (xs : List Int) {v d x : Nat} (h : x < d) : kidO xs v d x = M.kidAt xs v x := by rw [kidO, show min x (d - 1) = x by omega]

theorem grown_trans {X Y Z : World} {r1 r2 : Option Nat} (h : X.grownBy Y r1) (k : Y.grownBy Z r2) (hr : ∀ g, r2 = some g → some g = r1 ∨ X.heap.size ≤ g) : X.grownBy Z r1 :=
  ⟨k.os.trans h.os, k.tape.trans h.tape, k.output.trans h.output, Nat.le_trans h.size k.size, fun j hj hne =>
    (k.block j (Nat.lt_of_lt_of_le hj h.size) (fun e => by
      rcases hr j e.symm with h1 | h1
      · exact hne h1
      · omega)).trans (h.block j hj hne)⟩
theorem row_cells {W : World} {base e size k : Nat} {v : Value} {xs : List Value} (h : W.ownsRow base e size v k xs) (j : Nat) (o : Obj) (hj : v.ownBlock = some j) (ho : W.heap[j]? = some o) : o.isCells = true := by
  rcases h.2 with ⟨rfl, _⟩ | ⟨g, cap, cur, rfl, _, hg, _⟩
  · simp [Value.ownBlock] at hj
  · obtain rfl : g = j := by simpa [Value.ownBlock] using hj
    rw [hg] at ho
    cases ho
    rfl
theorem row_kept {W W' : World} {base e size k B : Nat} {v : Value} {xs : List Value} {row : Option Nat} (h : W.ownsRow base e size v k xs) (hg : W.grownBy W' row) (hr : ∀ r, row = some r → B ≤ r ∧ ∃ o : Obj, W.heap[r]? = some o ∧ o.isCells = false) : W'.ownsRow base e size v k xs := by
  refine h.kept hg ?_
  cases hv : v.ownBlock with
  | none => exact .inl rfl
  | some g =>
    refine .inr fun e' => ?_
    obtain ⟨_, o, ho, hc⟩ := hr g e'.symm
    rw [row_cells h g o hv ho] at hc
    cases hc

end Go.Proofs.Ytbdmmeoelagdcaa
