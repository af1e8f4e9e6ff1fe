/- append of one number to a row of the call's own; an empty row; the codes of trees and nodes. -/
import Derived.Test.YtkeahaoeiiigeaaDoorIs
import Derived.Deep.RegionHeld3
namespace Go.Proofs.YtkeahaoeiiigeaaDoor
open Go.RowKit

theorem own64_len {w : World} {B n c : Nat} {A : Option Addr} {zs : List Int} (h : Own64 w B (.slice A n c) zs) : n = zs.length := by
  rcases h.2 with ⟨h1, h2⟩ | ⟨g, cap, cur, hv, _⟩
  · injection h1 with _ h1 _; omega
  · injection hv

theorem push64 {ops : Array Oper} {rest : List Oper} {o : Oper} {a : Act} {Q : Exit → Act → World → Prop} (hgd : o.guard = none) (s x : Operand)
    (ho : o.op = .call { callee := .builtin .append, args := #[s, x], argTypes := #[29, 29] }) (w : World) (B : Nat) (A : Option Addr) (n c : Nat) (zs : List Int) (y : Int)
    (hs : a.eval s = .slice A n c) (hx : a.eval x = .slice (some ⟨w.heap.size, 0, none⟩) 1 1) (hown : Hid (Own64 w B (.slice A n c) zs)) (hB : B ≤ w.heap.size) (hlen : n ≤ 1000000)
    (h : ∀ A' c' w', Hid (Own64 w' B (.slice A' (n + 1) c') (zs ++ [y])) → Hid (Below B w w') → wpList Tryd.prog ops Q rest (a.put o.dst (.slice A' (n + 1) c')) w') :
    wpList Tryd.prog ops Q (o :: rest) a (w.alloc (.cells #[.int .i64 y] 2)) := by
  obtain ⟨i0, hi0, hz0, hz1, hz2⟩ := info_parts info64
  have hown := hown.out
  have hn := own64_len hown
  subst hn
  refine wpList_append_own _ hgd s x 29 ho B 2 i0 (.int .i64 0) 1 8 Tryd.underlying29 hi0 hz0 hz1 hz2 rfl (by decide) _ zs.length (zs.map (Value.int .i64)) hs (hown.alloc _) ⟨w.heap.size, 0, none⟩ 1 1 [.int .i64 y] hx rfl ?_ ?_ ?_ ?_ ?_ ?_
  · intro j u hj
    match j, hj with
    | 0, hj => simp at hj; subst hj; simp [Addr.add]
  · intro u hu; simp at hu; subst hu; rfl
  · unfold maxLen; omega
  · omega
  · simp; omega
  · intro v' w1 hown1 hg1 _
    obtain ⟨A, c, rfl⟩ : ∃ A c, v' = .slice A (zs.length + 1) c := by
      rcases hown1.2 with ⟨rfl, h0⟩ | ⟨g, cap, _, rfl, _⟩
      · omega
      · exact ⟨_, _, rfl⟩
    refine h A c w1 ?_ ?_
    · have e : (zs ++ [y]).length = zs.length + 1 := by simp
      show Own64 _ _ _ _
      unfold Own64
      rw [e]
      simpa using hown1
    · exact ((Below.refl B w).alloc hB _).grown hg1 (by simp; omega) (fun k hk => (hown.lt k hk).1)

/-- '[]int64{}': a row of no numbers -/
theorem own64_empty {w : World} {B : Nat} (hB : B ≤ w.heap.size) : Own64 (w.alloc (.cells #[] 2)) B (.slice (some ⟨w.heap.size, 0, none⟩) 0 0) [] := by
  have := World.ownsRow_made (e := 2) (size := 1) w #[] 0 hB (by simp [maxLen]) (by simp)
  exact this

theorem own64_nil (w : World) (B : Nat) : Own64 w B (.slice none 0 0) [] := World.ownsRow_nil _ _ _ _

theorem own64_eq {w : World} {B : Nat} {v : Value} {zs ys : List Int} (h : Own64 w B v zs) (e : zs = ys) : Own64 w B v ys := e ▸ h

end Go.Proofs.YtkeahaoeiiigeaaDoor
