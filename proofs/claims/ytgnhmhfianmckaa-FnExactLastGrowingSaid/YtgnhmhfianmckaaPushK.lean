/- append of one number to a row of the call's own, with what else is kept: no conditions. -/
import Derived.Test.YtgnhmhfianmckaaPush
import Derived.Maps.AppendAt
import Derived.RangeFuncRecord
namespace Go.Proofs.Ytgnhmhfianmckaa
open Go.RowKit

/-- append of one number, with what else is kept -/
theorem push64K {ops : Array Oper} {rest : List Oper} {o : Oper} {a : Act} {Q : Exit → Act → World → Prop} (hgd : o.guard = none) (s x : Operand)
    (ho : o.op = .call { callee := .builtin .append, args := #[s, x], argTypes := #[22, 22] }) (w : World) (B : Nat) (A : Option Addr) (n c : Nat) (zs : List Int) (y : Int)
    (hs : a.eval s = .slice A n c) (N : Nat) (hx : a.eval x = .slice (some ⟨N, 0, none⟩) 1 1) (hN : N = w.heap.size) (hown : Hid (Own64 w B (.slice A n c) zs)) (hB : B ≤ w.heap.size) (hlen : n ≤ 1000000)
    (h : ∀ A' c' w', Hid (Own64 w' B (.slice A' (n + 1) c') (zs ++ [y])) → Hid ((w.alloc (.cells #[.int .i64 y] 2)).grownBy w' (Value.slice A n c).ownBlock) → Hid ((Value.slice A' (n + 1) c').ownBlock = (Value.slice A n c).ownBlock ∨ (Value.slice A' (n + 1) c').ownBlock = some (w.alloc (.cells #[.int .i64 y] 2)).heap.size) → wpList Try.prog ops Q rest (a.put o.dst (.slice A' (n + 1) c')) w') :
    wpList Try.prog ops Q (o :: rest) a (w.alloc (.cells #[.int .i64 y] 2)) := by
  subst hN
  obtain ⟨i0, hi0, hz0, hz1, hz2⟩ := info_parts info64
  have hown := hown.out
  have hn := own64_len hown
  subst hn
  refine wpList_append_own_at _ hgd s x 22 ho B 2 i0 (.int .i64 0) 1 8 Try.underlying22 hi0 hz0 hz1 hz2 rfl (by decide) _ zs.length (zs.map (Value.int .i64)) hs (hown.alloc _) ⟨w.heap.size, 0, none⟩ 1 1 [.int .i64 y] hx rfl ?_ ?_ ?_ ?_ ?_ ?_
  · intro j u hj
    match j, hj with
    | 0, hj => simp at hj; subst hj; simp [Addr.add]
  · intro u hu; simp at hu; subst hu; rfl
  · unfold maxLen; omega
  · omega
  · simp; omega
  · intro v' w1 hown1 hg1 _ hwh
    obtain ⟨A, c, rfl⟩ : ∃ A c, v' = .slice A (zs.length + 1) c := own_shape hown1
    refine h A c w1 ?_ hg1 hwh
    have e : (zs ++ [y]).length = zs.length + 1 := by simp
    show Own64 _ _ _ _
    unfold Own64
    rw [e]
    simpa using hown1

end Go.Proofs.Ytgnhmhfianmckaa
