/- The lists by which a tree is inside another, by the search and by the filter. -/
import Derived.Test.YtbnnlifpldgcfaaInsT
import Derived.Test.YtbnnlifpldgcfaaSearch
namespace Go.Proofs.Ytbnnlifpldgcfaa
open Go.RowKit

theorem nodeF_nums {l : List Nat} {i x : Nat} (h : l[i]? = some x) : nodeF (nums l) i = x := by rw [nodeF, nums, List.getElem?_map, h]; rfl
theorem M.pl_congr {u : List Int} {f g : Nat → Nat} {x : Nat} : ∀ {k : Nat}, (∀ j, j < k → f j = g j) → M.pl u f x k = M.pl u g x k
  | 0, _ => rfl
  | k + 1, h => by rw [M.pl, M.pl, h k (by omega), M.pl_congr fun j hj => h j (by omega)]
/-- can v stand behind a list of nodes? -/
def folI (us ps : List Int) (l : List Nat) (v : Nat) : Bool := M.pl us (nodeF (nums l)) v l.length == ps[l.length]?.getD 0
theorem lists_asc {U : Nat} : ∀ {m : Nat} {vs l : List Nat} {a : Nat}, vs.Pairwise (· < ·) → (∀ x ∈ vs, x < a ∧ x < U) → l ∈ M.lists U m vs a → l.Pairwise (· < ·) ∧ ∀ x ∈ l, x < U := by
  intro m
  induction m with
  | zero => intro vs l a h1 h2 h; rw [M.lists, List.mem_singleton] at h; subst h; exact ⟨h1, fun x hx => (h2 x hx).2⟩
  | succ m ih =>
    intro vs l a h1 h2 h
    rw [M.lists, List.mem_flatMap] at h
    obtain ⟨v, hv, h⟩ := h
    rw [List.mem_range'_1] at hv
    refine ih (vs := vs ++ [v]) (a := v + 1) ?_ ?_ h
    · rw [List.pairwise_append]
      exact ⟨h1, List.pairwise_singleton _ _, fun x hx y hy => by rw [List.mem_singleton] at hy; subst hy; exact Nat.lt_of_lt_of_le (h2 x hx).1 hv.1⟩
    · intro x hx
      rcases List.mem_append.1 hx with hx | hx
      · exact ⟨Nat.lt_succ_of_lt (Nat.lt_of_lt_of_le (h2 x hx).1 hv.1), (h2 x hx).2⟩
      · rw [List.mem_singleton] at hx; subst hx; omega
theorem good_nums {l : List Nat} {U : Nat} (h1 : l.Pairwise (· < ·)) (h2 : ∀ x ∈ l, x < U) : M.goodTo (nums l) (U : Int) (nums l).length = true := by
  rw [M.goodTo, List.all_eq_true]
  intro j hj
  have hj := List.mem_range.1 hj
  rw [nums_len] at hj
  have hat : (nums l)[j]? = some ((l[j] : Nat) : Int) := by rw [nums, List.getElem?_map, List.getElem?_eq_getElem hj]; rfl
  have hU := h2 l[j] (List.getElem_mem hj)
  rw [M.goodAt_iff, hat]
  refine ⟨?_, ?_, ?_⟩
  · show (0 : Int) ≤ ((l[j] : Nat) : Int); omega
  · show ((l[j] : Nat) : Int) < (U : Int); omega
  · by_cases e : j = 0
    · exact .inl e
    · have hp : j - 1 < l.length := by omega
      have hpt : (nums l)[j - 1]? = some ((l[j - 1] : Nat) : Int) := by rw [nums, List.getElem?_map, List.getElem?_eq_getElem hp]; rfl
      have hlt := List.pairwise_iff_getElem.1 h1 (j - 1) j hp hj (by omega)
      rw [hpt]
      exact .inr (show ((l[j - 1] : Nat) : Int) < ((l[j] : Nat) : Int) by omega)
theorem inB_fol {us xs ps : List Int} (ht : M.isTree xs = true) (hp : M.ParsOK xs ps) {l : List Nat} (h : l ∈ M.lists us.length xs.length [] 0) :
    inB us (nums l) xs = true ↔ M.allFol (folI us ps) l := by
  obtain ⟨h1, h2⟩ := lists_asc List.Pairwise.nil (fun x hx => by cases hx) h
  have hlen := (M.lists_pre h).2
  simp only [List.length_nil, Nat.zero_add] at hlen
  rw [← inB_iff ht hp (by rw [nums_len, hlen]) (good_nums h1 h2)]
  have key : ∀ i x, l[i]? = some x → (M.pa us (nodeF (nums l)) i = ps[i]?.getD 0 ↔ folI us ps (l.take i) x = true) := fun i x hx => by
    have hi : i < l.length := (List.getElem?_eq_some_iff.1 hx).1
    rw [folI, List.length_take, Nat.min_eq_left (by omega), beq_iff_eq, M.pa, nodeF_nums hx]
    rw [M.pl_congr (f := nodeF (nums l)) (g := nodeF (nums (l.take i))) fun j hj => ?_]
    have hj' : l[j]? = some l[j] := List.getElem?_eq_getElem (by omega)
    rw [nodeF_nums hj', nodeF_nums (by rw [List.getElem?_take, if_pos hj]; exact hj')]
  constructor
  · intro h k x hx
    exact (key k x hx).1 (h k (by rw [← hlen]; exact (List.getElem?_eq_some_iff.1 hx).1))
  · intro h i hi
    have hx : l[i]? = some l[i] := List.getElem?_eq_getElem (by omega)
    exact (key i _ hx).2 (h i _ hx)
/-- the lists by which t is inside u, in order -/
def insideLists (us xs : List Int) : List (List Nat) := (M.lists us.length xs.length [] 0).filter fun l => inB us (nums l) xs
theorem inside_found {us xs ps : List Int} (ht : M.isTree xs = true) (hp : M.ParsOK xs ps) : M.found us.length (folI us ps) xs.length [] 0 = insideLists us xs :=
  M.found_filter _ (fun _ hl => inB_fol ht hp hl) M.allFol_nil
end Go.Proofs.Ytbnnlifpldgcfaa
