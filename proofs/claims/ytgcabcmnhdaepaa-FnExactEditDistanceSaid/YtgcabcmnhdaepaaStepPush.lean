/- append of one number to a row of the call's own, at a step of a region that draws. -/
import Derived.Test.YtgcabcmnhdaepaaPush
import Derived.Deep.AppendLies
namespace Go.Proofs.Ytgcabcmnhdaepaa
open Go.RowKit

theorem stepPush {ops : Array Oper} {o : Oper} {a : Act} {K : Act → World → Prop} {Q : Exit → Act → World → Prop} {E : Prop} (hgd : o.guard = none) (s x : Operand)
    (ho : o.op = .call { callee := .builtin .append, args := #[s, x], argTypes := #[23, 23] }) (w : World) (B : Nat) (A : Option Addr) (n c : Nat) (zs : List Int) (y : Int) (g7 : Nat)
    (hs : a.eval s = .slice A n c) (hx : a.eval x = .slice (some ⟨g7, 0, none⟩) 1 1) (h7 : w.cell? ⟨g7, 0, none⟩ = some (.int .i64 y)) (hown : Hid (Own64 w B (.slice A n c) zs)) (hB : B ≤ w.heap.size) (hlen : n ≤ 1000000)
    (h : ∀ g c' w', Hid (Own64 w' B (.slice (some ⟨g, 0, none⟩) (n + 1) c') (zs ++ [y])) → Hid (Below B w w') → K (a.put o.dst (.slice (some ⟨g, 0, none⟩) (n + 1) c')) w') :
    if Region.wanted o (yielded ops a.tmps) = true then Oper.wp Try.prog o a w K Q else E := by
  obtain ⟨i0, hi0, hz0, hz1, hz2⟩ := info_parts info64
  have hown := hown.out
  have hn := own64_len hown
  subst hn
  refine step_append_lies w hgd s x 23 ho B 2 i0 (.int .i64 0) 1 8 Try.underlying23 hi0 hz0 hz1 hz2 rfl (by decide) _ zs.length (zs.map (Value.int .i64)) hs hown ⟨g7, 0, none⟩ 1 1 [.int .i64 y] hx rfl ?_ ?_ (by decide) ?_ ?_ hB _ rfl ?_
  · intro j u hj
    match j, hj with
    | 0, hj => simp at hj; subst hj; simpa [Addr.add] using h7
  · intro u hu; simp at hu; subst hu; rfl
  · unfold maxLen; omega
  · omega
  · intro g cap w1 hown1 hg1 _ _
    refine h g cap w1 ?_ ?_
    · have e : (zs ++ [y]).length = zs.length + 1 := by simp
      show Own64 _ _ _ _
      unfold Own64
      rw [e]
      simpa using hown1
    · exact (Below.refl B w).grown hg1 hB (fun k hk => (hown.lt k hk).1)
end Go.Proofs.Ytgcabcmnhdaepaa
