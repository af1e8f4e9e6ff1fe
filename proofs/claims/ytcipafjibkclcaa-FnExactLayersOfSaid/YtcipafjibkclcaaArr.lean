/- A table whose rows are made one after another: the header owned, the rows below k owned; a row may be put in more than once. And allAround's rows, their mathematics. -/
import Derived.Test.YtcipafjibkclcaaTab
import Derived.Test.YtcipafjibkclcaaFnParentsOf
import Derived.Test.YtcipafjibkclcaaKids
namespace Go.Proofs.Ytcipafjibkclcaa
open Go.RowKit

/-- the header's block G, of n rows; the rows below k are f's; all lies from B on and below C -/
def Arr (w : World) (B C G n : Nat) (f : Nat → List Int) (k : Nat) : Prop :=
  ∃ hs : List Value, hs.length = n ∧ G < C ∧ w.ownsRow B 22 1 (.slice (some ⟨G, 0, none⟩) n n) n hs ∧
    ∀ i, i < k → ∃ A c, hs[i]? = some (.slice A (f i).length c) ∧ Own64 w B (.slice A (f i).length c) (f i) ∧ ∀ b, (Value.slice A (f i).length c).ownBlock = some b → b ≠ G ∧ b < C
theorem Arr.lt {w : World} {B C G n k : Nat} {f : Nat → List Int} (h : Arr w B C G n f k) : B ≤ G ∧ G < C ∧ G < w.heap.size := by
  obtain ⟨hs, h0, h1, h2, h3⟩ := h
  have := h2.lt G rfl
  exact ⟨this.1, h1, this.2⟩
theorem Arr.grown {w w' : World} {B C G n k : Nat} {f : Nat → List Int} {row : Option Nat} (h : Arr w B C G n f k) (hg : w.grownBy w' row) (hr : ∀ r, row = some r → C ≤ r) : Arr w' B C G n f k := by
  obtain ⟨hs, h0, h1, h2, h3⟩ := h
  refine ⟨hs, h0, h1, h2.kept hg (.inr fun e => ?_), fun i hi => ?_⟩
  · have := hr G e.symm; omega
  · obtain ⟨A, c, e1, e2, e3⟩ := h3 i hi
    refine ⟨A, c, e1, e2.kept hg ?_, e3⟩
    cases hv : (Value.slice A (f i).length c).ownBlock with
    | none => exact .inl rfl
    | some b => exact .inr fun e => by have := hr b e.symm; have := e3 b hv; omega
theorem Arr.below {w w' : World} {B C G n k : Nat} {f : Nat → List Int} (h : Arr w B C G n f k) (hb : Below C w w') : Arr w' B C G n f k := by
  obtain ⟨hs, h0, h1, h2, h3⟩ := h
  refine ⟨hs, h0, h1, ?_, fun i hi => ?_⟩
  · refine ⟨h2.1, ?_⟩
    rcases h2.2 with h4 | ⟨g, cap, cur, hv, hg, hc, hr⟩
    · exact .inl h4
    · have e : g = G := by injection hv with hv; injection hv with hv; injection hv with hv; exact hv.symm
      exact .inr ⟨g, cap, cur, hv, hg, (hb.block g (by omega)).trans hc, hr⟩
  · obtain ⟨A, c, e1, e2, e3⟩ := h3 i hi
    refine ⟨A, c, e1, ⟨e2.1, ?_⟩, e3⟩
    rcases e2.2 with h4 | ⟨g, cap, cur, hv, hg, hc, hr⟩
    · exact .inl h4
    · exact .inr ⟨g, cap, cur, hv, hg, (hb.block g (e3 g (by rw [hv]; rfl)).2).trans hc, hr⟩
theorem Arr.be {w w' : World} {B C G n k : Nat} {f : Nat → List Int} (h : Arr w B C G n f k) (hb : Below w.heap.size w w') (hC : C ≤ w.heap.size) : Arr w' B C G n f k := h.below (hb.mono hC)
theorem Arr.wide {w : World} {B C C' G n k : Nat} {f : Nat → List Int} (h : Arr w B C G n f k) (hC : C ≤ C') : Arr w B C' G n f k := by
  obtain ⟨hs, h0, h1, h2, h3⟩ := h
  refine ⟨hs, h0, by omega, h2, fun i hi => ?_⟩
  obtain ⟨A, c, e1, e2, e3⟩ := h3 i hi
  exact ⟨A, c, e1, e2, fun b hb => ⟨(e3 b hb).1, by have := (e3 b hb).2; omega⟩⟩
theorem Arr.put {w : World} {B C G n k : Nat} {f : Nat → List Int} (h : Arr w B C G n f k) (v : Value) (hk : k < n) : Arr (w.setCell ⟨G, k, none⟩ v) B C G n f k ∧ (w.setCell ⟨G, k, none⟩ v).cell? ⟨G, k, none⟩ = some v := by
  obtain ⟨hs, h0, h1, h2, h3⟩ := h
  have hst := (World.ownsRow.stored h2 k v).1
  refine ⟨⟨hs.set k v, by simp [h0], h1, hst, fun i hi => ?_⟩, ?_⟩
  · obtain ⟨A, c, e1, e2, e3⟩ := h3 i hi
    exact ⟨A, c, by rw [List.getElem?_set_ne (by omega)]; exact e1, ownsRow_setCell_other e2 (a := ⟨G, k, none⟩) (fun e => (e3 G e).1 rfl) _, e3⟩
  · have := hst.cells (g := G) rfl k v (by rw [List.getElem?_set_self (by omega)])
    have ha : (⟨G, 0, none⟩ : Addr).add k = ⟨G, k, none⟩ := by unfold Addr.add; split <;> simp_all
    rwa [ha] at this
theorem Arr.frozen {w : World} {B C G n k : Nat} {f : Nat → List Int} (h : Arr w B C G n f k) (j : Nat) : w.frozen? ⟨G, j, none⟩ = false := by
  obtain ⟨hs, h0, h1, h2, h3⟩ := h
  exact World.ownsRow.frozenAt h2 j
theorem Arr.next {w : World} {B B' C G n k : Nat} {f : Nat → List Int} (h : Arr w B C G n f k) {A : Option Addr} {c : Nat} (hk : k < n) (hc : w.cell? ⟨G, k, none⟩ = some (.slice A (f k).length c)) (ho : Own64 w B' (.slice A (f k).length c) (f k)) (hB : B ≤ B') (hG : G < B') (hC : C ≤ w.heap.size) : Arr w B w.heap.size G n f (k + 1) := by
  obtain ⟨hs, h0, h1, h2, h3⟩ := h
  refine ⟨hs, h0, (h2.lt G rfl).2, h2, fun i hi => ?_⟩
  by_cases hik : i = k
  · subst hik
    refine ⟨A, c, ?_, own_mono ho hB, fun b hb => ?_⟩
    · obtain ⟨v, hv⟩ : ∃ v, hs[i]? = some v := ⟨_, List.getElem?_eq_getElem (by omega)⟩
      have := h2.cells (g := G) rfl i v hv
      have ha : (⟨G, 0, none⟩ : Addr).add i = ⟨G, i, none⟩ := by unfold Addr.add; split <;> simp_all
      rw [ha, hc] at this
      rw [hv, this]
    · have := ho.lt b hb
      exact ⟨by omega, this.2⟩
  · obtain ⟨A', c', e1, e2, e3⟩ := h3 i (by omega)
    exact ⟨A', c', e1, e2, fun b hb => ⟨(e3 b hb).1, by have := (e3 b hb).2; omega⟩⟩
theorem Arr.at_ {w : World} {B C G n k i : Nat} {f : Nat → List Int} (h : Arr w B C G n f k) (hi : i < k) :
    ∃ A c, w.cell? ⟨G, i, none⟩ = some (.slice A (f i).length c) ∧ Own64 w B (.slice A (f i).length c) (f i) := by
  obtain ⟨hs, h0, h1, h2, h3⟩ := h
  obtain ⟨A, c, e1, e2, e3⟩ := h3 i hi
  refine ⟨A, c, ?_, e2⟩
  have := h2.cells (g := G) rfl i _ e1
  have ha : (⟨G, 0, none⟩ : Addr).add i = ⟨G, i, none⟩ := by unfold Addr.add; split <;> simp_all
  rwa [ha] at this
theorem Arr.some_ {w : World} {B C G n k i : Nat} {f : Nat → List Int} (h : Arr w B C G n f k) (hi : i < n) : ∃ v, w.cell? ⟨G, i, none⟩ = some v := by
  obtain ⟨hs, h0, h1, h2, h3⟩ := h
  obtain ⟨v, hv⟩ : ∃ v, hs[i]? = some v := ⟨_, List.getElem?_eq_getElem (by omega)⟩
  have := h2.cells (g := G) rfl i v hv
  have ha : (⟨G, 0, none⟩ : Addr).add i = ⟨G, i, none⟩ := by unfold Addr.add; split <;> simp_all
  rw [ha] at this
  exact ⟨v, this⟩
theorem arr_made {w : World} {B n : Nat} (f : Nat → List Int) (hB : B ≤ w.heap.size) (hn : n ≤ maxLen) : Arr (w.alloc (.cells (madeCells #[.slice none 0 0] n) 22)) B (w.heap.size + 1) w.heap.size n f 0 := by
  have h := World.ownsRow_lit (e := 22) (size := 1) w (madeCells #[.slice none 0 0] n) n hB hn (by simp [size_madeCells])
  rw [toList_madeCells_one] at h
  exact ⟨List.replicate n (.slice none 0 0), by simp, by omega, h, fun i hi => absurd hi (Nat.not_lt_zero _)⟩

namespace M
/-- the neighbours of a node, the children first -/
noncomputable def aroundOf (xs : List Int) (v : Nat) : List Int := childs xs v (xs[v]?.getD 0).toNat ++ (if v = 0 then [] else [(parents xs)[v]?.getD 0])
theorem around_root {xs : List Int} {d : Nat} (hd : xs[0]? = some (d : Int)) : aroundOf xs 0 = childs xs 0 d := by
  rw [aroundOf, hd, if_pos rfl, List.append_nil]; rfl
theorem around_step {xs ps : List Int} (ht : isTree xs = true) (hp : ParsOK xs ps) {v d : Nat} {p : Int} (hd : xs[v]? = some (d : Int)) (h0 : 0 < v) (hv : ps[v]? = some p) : aroundOf xs v = childs xs v d ++ [p] := by
  rw [aroundOf, hd, if_neg (by omega), parents_eq ht hp, hv]; rfl
theorem around_len {xs : List Int} (ht : isTree xs = true) {v : Nat} : (aroundOf xs v).length ≤ 25 := by
  rw [aroundOf, List.length_append, childs_length]
  have h1 : (if v = 0 then [] else [(parents xs)[v]?.getD 0]).length ≤ 1 := by split <;> simp
  have h2 : (xs[v]?.getD 0).toNat ≤ 24 := by
    have hl := (tree_len ht).2
    cases hd : xs[v]? with
    | none => simp
    | some x =>
      obtain ⟨d, hd', hd2⟩ := tree_degN ht (List.getElem?_eq_some_iff.1 hd).1
      rw [hd] at hd'
      injection hd' with hd'
      subst hd'
      simp only [Option.getD_some, Int.toNat_natCast]
      omega
  omega
end M
end Go.Proofs.Ytcipafjibkclcaa
