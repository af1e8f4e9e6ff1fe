/- Append of a whole slice to one of two rows of the call's own. -/
import Derived.Test.YtdgcjkgbglofbaaTwo
import Derived.Test.YtdgcjkgbglofbaaApp
namespace Go.Proofs.Ytdgcjkgbglofbaa
open Go.RowKit

theorem Two.keep {w w' : World} {B : Nat} {v1 v2 : Value} {xs ys : List Int} {row : Option Nat} (h : Two w B v1 v2 xs ys) (hg : w.grownBy w' row) (h1 : ∀ k, row = some k → v1.ownBlock ≠ some k) (h2 : ∀ k, row = some k → v2.ownBlock ≠ some k) : Two w' B v1 v2 xs ys := by
  refine ⟨h.1.kept hg ?_, h.2.1.kept hg ?_, h.2.2⟩
  · cases hr : row with
    | none => cases hv : v1.ownBlock with
      | none => exact .inl rfl
      | some k => exact .inr (by simp)
    | some k => exact .inr (h1 k hr)
  · cases hr : row with
    | none => cases hv : v2.ownBlock with
      | none => exact .inl rfl
      | some k => exact .inr (by simp)
    | some k => exact .inr (h2 k hr)
theorem Two.be {w w' : World} {B : Nat} {v1 v2 : Value} {xs ys : List Int} (h : Two w B v1 v2 xs ys) (hb : Below w.heap.size w w') : Two w' B v1 v2 xs ys :=
  ⟨own_below h.1 hb (Nat.le_refl _), own_below h.2.1 hb (Nat.le_refl _), h.2.2⟩

set_option maxRecDepth 100000 in
theorem appTwo {ops : Array Oper} {rest : List Oper} {o : Oper} {a : Act} {Q : Exit → Act → World → Prop} (hgd : o.guard = none) (s x : Operand)
    (ho : o.op = .call { callee := .builtin .append, args := #[s, x], argTypes := #[24, 24] }) (w : World) (B : Nat) (A : Option Addr) (n c : Nat) (v2 : Value) (zs ys : List Int) (A2 : Option Addr) (m c2 : Nat) (us : List Int)
    (hs : a.eval s = .slice A n c) (hx : a.eval x = .slice A2 m c2) (ht : Hid (Two w B (.slice A n c) v2 zs ys)) (hsrc : Hid (Ints w w.heap.size A2 us)) (hm : Hid (us.length = m)) (hz : Hid (A2 = none → c2 = 0)) (hB : B ≤ w.heap.size) (hlen : n ≤ 1000000) (hlen2 : m ≤ 1000000)
    (h : ∀ A' c' w', Hid (Two w' B (.slice A' (n + m) c') v2 (zs ++ us) ys) → Hid (w.grownBy w' (Value.slice A n c).ownBlock) → Hid (Below B w w') → wpList Try.prog ops Q rest (a.put o.dst (.slice A' (n + m) c')) w') :
    wpList Try.prog ops Q (o :: rest) a w := by
  obtain ⟨i0, hi0, hz0, hz1, hz2⟩ := info_parts info64
  obtain ⟨hown, hown2, hdis⟩ := ht.out
  have hn := own64_len hown
  subst hn
  have hm := hm.out
  subst hm
  rcases A2 with _ | ad
  · have hy : us = [] := by
      rcases Nat.eq_zero_or_pos us.length with h0 | h0
      · exact List.eq_nil_of_length_eq_zero h0
      · obtain ⟨_, _, e, _⟩ := hsrc.out h0
        cases e
    subst hy
    have hc2 := hz.out rfl
    subst hc2
    refine wpList_append_own_none hgd s x 24 ho B 2 i0 1 Try.underlying24 hi0 _ zs.length (zs.map (Value.int .i64)) hs hown hx ?_
    have := h A c w (by simpa using ht) ⟨rfl, rfl, rfl, Nat.le_refl _, fun _ _ _ => rfl⟩ (Below.refl _ _)
    simpa using this
  · refine wpList_append_own_at _ hgd s x 24 ho B 2 i0 (.int .i64 0) 1 8 Try.underlying24 hi0 hz0 hz1 hz2 rfl (by decide) _ zs.length (zs.map (Value.int .i64)) hs hown ad us.length c2 (us.map (Value.int .i64)) hx (by simp) ?_ ?_ ?_ ?_ hB ?_
    · intro j u hj
      rw [List.getElem?_map] at hj
      obtain ⟨y, hy, rfl⟩ := Option.map_eq_some_iff.1 hj
      obtain ⟨b, off, e, _, hc⟩ := hsrc.out (by have := (List.getElem?_eq_some_iff.1 hy).1; omega)
      injection e with e
      subst e
      have ha : (⟨b, off, none⟩ : Addr).add j = ⟨b, off + j, none⟩ := by unfold Addr.add; split <;> simp_all
      rw [ha]
      exact hc j y hy
    · intro u hu
      obtain ⟨y, _, rfl⟩ := List.mem_map.1 hu
      rfl
    · unfold maxLen; omega
    · omega
    · intro v' w1 hown1 hg1 _ hat
      obtain ⟨A', c', rfl⟩ : ∃ A' c', v' = .slice A' (zs.length + us.length) c' := own_shape hown1
      refine h A' c' w1 ⟨?_, ?_, ?_⟩ hg1 ?_
      · show Own64 _ _ _ _
        unfold Own64
        rw [List.length_append, List.map_append]
        exact hown1
      · refine hown2.kept hg1 ?_
        cases hv : v2.ownBlock with
        | none => exact .inl rfl
        | some k => exact .inr fun e => hdis k e.symm hv
      · intro b hb hb2
        rcases hat with e | e
        · exact hdis b (e ▸ hb) hb2
        · have h1 := hown2.lt b hb2
          rw [hb] at e
          injection e with e
          omega
      · exact (Below.refl B w).grown hg1 hB (fun k hk => (hown.lt k hk).1)
end Go.Proofs.Ytdgcjkgbglofbaa
