/- What completedBy's walks share. Written by genc9.py. -/
import Derived.Test.YtgnhmhfianmckaaReadyIn9
namespace Go.Proofs.Ytgnhmhfianmckaa
open Go.RowKit

namespace M
/-- what is to come out, told from what is there -/
theorem fill_on {least : Bool} {n : Nat} {ps b R : List Int} (hp : Parents n ps) (hb : Bgn n ps b) (h : fill least n ps (n - b.length) b = R) (hl : b.length < n) :
    0 < (rdyTo ps b n).length ∧ Bgn n ps (b ++ [pick least (rdyTo ps b n)]) ∧ fill least n ps (n - (b ++ [pick least (rdyTo ps b n)]).length) (b ++ [pick least (rdyTo ps b n)]) = R := by
  have hne := rdy_some hp hl
  exact ⟨List.length_pos_iff.2 hne, bgn_step hp hb (pick_mem hne), by rw [← h, fill_step hl]⟩
end M

theorem frozen_be {w w' : World} {g k : Nat} (h : w.frozen? ⟨g, k, none⟩ = false) (hg : g < w.heap.size) (hb : Below w.heap.size w w') : w'.frozen? ⟨g, k, none⟩ = false := by
  have := hb.block g hg
  simp only [World.frozen?, this] at h ⊢
  exact h
/-- how many nodes are there, as the box tells -/
def roomIn (n g : Nat) (w : World) : Nat := match w.cell? ⟨g, 1, none⟩ with | some (.slice _ m _) => n - m | _ => 0
theorem roomIn_at {n g m c : Nat} {A : Option Addr} {w : World} (h : w.cell? ⟨g, 1, none⟩ = some (.slice A m c)) : roomIn n g w = n - m := by rw [roomIn, h]

end Go.Proofs.Ytgnhmhfianmckaa
