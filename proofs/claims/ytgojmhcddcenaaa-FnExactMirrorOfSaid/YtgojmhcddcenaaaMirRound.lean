/- mirrored: the end of a round of its loop. -/
import Derived.Test.YtgojmhcddcenaaaMirAux
namespace Go.Proofs.Ytgojmhcddcenaaa
open Go.RowKit Go.Shelf Go.Maps

/-- no row of the map lies where a slice lies -/
theorem Known.box {w : World} {b B N R n c : Nat} {A : Option Addr} {ty : TypeId} {No : Nat → Prop} (h : Known w b B No N) (hB : Boxed w R ty (.slice A n c)) : Known w b B (fun z => No z ∨ z = R) N := by
  obtain ⟨D, h1, h2, h3⟩ := h
  refine ⟨D, h1, h2, fun xs ht hh => ?_⟩
  obtain ⟨g, n', c', k1, k2, k3⟩ := h3 xs ht hh
  refine ⟨g, n', c', k1, k2, fun e => e.elim k3 fun e => ?_⟩
  subst e
  have hl := M.mirL_len 24 xs ht (M.tree_len ht).2
  have h1 := (M.tree_len ht).1
  have hc := (own64_cell k2 (own64_len k2).symm (k := 0) (x := (M.mirL 24 xs)[0]'(by omega)) (List.getElem?_eq_getElem (by omega))).1
  have := hB.cell
  rw [this] at hc
  cases hc

theorem mir_round {f : Nat} {w1 W w7 w8 : World} {Z L b B n c' g n7 c7 g7 g8 c8 N x d Bd S : Nat} {No : Nat → Prop} {xs T2 : List Int} {A4 : Option Addr} (hZ : Z = Bd + 1) (hL : L + 1 + 1 ≤ Bd) (hbB : b < L) (h1 : w1.heap.size = L)
    (hA4 : ∀ ad, A4 = some ad → L + 1 + 1 ≤ ad.block ∧ ad.block < Bd) (hZW : Z ≤ W.heap.size) (r4 : w1.grownBy W (some b)) (r5 : g = L ∨ Z ≤ g) (hgl : L ≤ g ∧ g < W.heap.size) (hn1 : 1 ≤ n)
    (hg7 : W.grownBy w7 (some b)) (hg8 : w7.grownBy w8 (some g)) (hx7 : Boxed w7 (L + 1) 22 (.slice (some ⟨g, 0, none⟩) n c')) (ho7 : Own64 w7 L (.slice (some ⟨g, 0, none⟩) n c') (M.mirK f xs d x))
    (hx8 : Boxed w8 (L + 1) 22 (.slice (some ⟨g, 0, none⟩) n c')) (ho8 : Own64 w8 L (.slice (some ⟨g8, 0, none⟩) (n + n7) c8) (M.mirK f xs d x ++ T2)) (hat8 : g8 = g ∨ g8 = w7.heap.size)
    (hk7 : Known w7 b B (fun z => No z ∨ z = g) (N + (n - 1) + S)) (hS : n7 = S) (hpk : M.mirK f xs d (x + 1) = M.mirK f xs d x ++ T2) (_ : g7 = g7 ∧ c7 = c7) :
    KeepsFrom Z W (w8.setCell ⟨L + 1, 0, none⟩ (.slice (some ⟨g8, 0, none⟩) (n + n7) c8)) ∧ KeepA Bd A4 W (w8.setCell ⟨L + 1, 0, none⟩ (.slice (some ⟨g8, 0, none⟩) (n + n7) c8)) ∧
      Inv f w1 Z (L + 1) L b B No N xs d (x + 1) (w8.setCell ⟨L + 1, 0, none⟩ (.slice (some ⟨g8, 0, none⟩) (n + n7) c8)) := by
  have s7 := hg7.size
  have s8 := hg8.size
  have hg8R : g8 ≠ L + 1 := by omega
  have hlt8 : L + 1 < w8.heap.size := by omega
  refine ⟨?_, ?_, fun _ => ?_⟩
  · exact ((KeepsFrom.of_grownBy hg7 (fun j e => by injection e with e; omega)).trans ((KeepsOthers.of_grownBy hg8 (fun j o ej hj => row_cells ho7 j o ej hj)).from Z)).trans ((KeepsOthers.setCell _ _ _).from Z)
  · refine ((KeepA.g hg7 (by omega) (fun e => by injection e with e; omega) (fun ad e => ⟨by have := hA4 ad e; omega, fun e2 => by injection e2 with e2; have := hA4 ad e; omega⟩)).t
      (KeepA.g hg8 (by omega) (fun e => by injection e with e; omega) (fun ad e => ⟨by have := hA4 ad e; omega, fun e2 => by injection e2 with e2; have := hA4 ad e; omega⟩))).t ?_
    exact KeepA.g (grownBy_setCell' w8 (L + 1) _) (by omega) (fun e => by injection e with e; omega) (fun ad e => ⟨by have := hA4 ad e; omega, fun e2 => by injection e2 with e2; have := hA4 ad e; omega⟩)
  · refine ⟨g8, n + n7, c8, hx8.set _, ?_, ?_, ?_, ?_, ?_⟩
    · rw [hpk]
      exact ho8.kept (grownBy_setCell' w8 (L + 1) _) (.inr (fun e => by injection e with e; exact hg8R e))
    · have k1 := ((hk7.box hx7).more (Nat.le_refl w7.heap.size)).kept hg8 (fun e => by injection e with e; omega) (fun k e => by injection e with e; exact .inl (.inl (.inr e.symm)))
      have k2 := k1.kept (grownBy_setCell' w8 (L + 1) (.slice (some ⟨g8, 0, none⟩) (n + n7) c8)) (fun e => by injection e with e; omega) (fun k e => by injection e with e; exact .inl (.inr e.symm))
      refine (k2.less (fun z e => ?_)).upto (by omega)
      rcases e with e | e
      · exact .inl (.inl (.inl e))
      · rcases hat8 with h | h
        · exact .inl (.inl (.inr (e.trans h)))
        · exact .inr (e.trans h)
    · exact grown_trans (grown_trans (r4.trans hg7) hg8 (fun z e => .inr (by injection e with e; omega))) (grownBy_setCell' w8 (L + 1) _) (fun z e => .inr (by injection e with e; omega))
    · omega
    · have : (w8.setCell ⟨L + 1, 0, none⟩ (.slice (some ⟨g8, 0, none⟩) (n + n7) c8)).heap.size = w8.heap.size := by simp
      omega
end Go.Proofs.Ytgojmhcddcenaaa
