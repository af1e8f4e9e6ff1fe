/- append of a whole slice to a row of the call's own. -/
import Derived.Test.YtkeahaoeiiigeaaDoorPush
import Derived.Laws.AppendOwnNone
namespace Go.Proofs.YtkeahaoeiiigeaaDoor
open Go.RowKit

set_option maxRecDepth 100000 in
theorem appendInts {ops : Array Oper} {rest : List Oper} {o : Oper} {a : Act} {Q : Exit → Act → World → Prop} (hgd : o.guard = none) (s x : Operand)
    (ho : o.op = .call { callee := .builtin .append, args := #[s, x], argTypes := #[29, 29] }) (w : World) (B : Nat) (A : Option Addr) (n c : Nat) (zs : List Int) (A2 : Option Addr) (m c2 : Nat) (ys : List Int)
    (hs : a.eval s = .slice A n c) (hx : a.eval x = .slice A2 m c2) (hown : Hid (Own64 w B (.slice A n c) zs)) (hsrc : Hid (Ints w w.heap.size A2 ys)) (hm : Hid (ys.length = m)) (hz : Hid (A2 = none → c2 = 0)) (hB : B ≤ w.heap.size) (hlen : n ≤ 1000000) (hlen2 : m ≤ 1000000)
    (h : ∀ A' c' w', Hid (Own64 w' B (.slice A' (n + m) c') (zs ++ ys)) → Hid (Below B w w') → wpList Tryd.prog ops Q rest (a.put o.dst (.slice A' (n + m) c')) w') :
    wpList Tryd.prog ops Q (o :: rest) a w := by
  obtain ⟨i0, hi0, hz0, hz1, hz2⟩ := info_parts info64
  have hown := hown.out
  have hn := own64_len hown
  subst hn
  have hm := hm.out
  subst hm
  rcases A2 with _ | ad
  · have hy : ys = [] := by
      rcases Nat.eq_zero_or_pos ys.length with h0 | h0
      · exact List.eq_nil_of_length_eq_zero h0
      · obtain ⟨_, _, e, _⟩ := hsrc.out h0
        cases e
    subst hy
    have hc2 := hz.out rfl
    subst hc2
    refine wpList_append_own_none hgd s x 29 ho B 2 i0 1 Tryd.underlying29 hi0 _ zs.length (zs.map (Value.int .i64)) hs hown hx ?_
    have := h A c w (by simpa using Lib.hid hown) (Below.refl _ _)
    simpa using this
  · refine wpList_append_own _ hgd s x 29 ho B 2 i0 (.int .i64 0) 1 8 Tryd.underlying29 hi0 hz0 hz1 hz2 rfl (by decide) _ zs.length (zs.map (Value.int .i64)) hs hown ad ys.length c2 (ys.map (Value.int .i64)) hx (by simp) ?_ ?_ ?_ ?_ hB ?_
    · intro j u hj
      rw [List.getElem?_map] at hj
      obtain ⟨y, hy, rfl⟩ := Option.map_eq_some_iff.1 hj
      obtain ⟨b, off, e, _, hc⟩ := hsrc.out (by have := (List.getElem?_eq_some_iff.1 hy).1; omega)
      injection e with e
      subst e
      have ha : (⟨b, off, none⟩ : Addr).add j = ⟨b, off + j, none⟩ := by unfold Addr.add; split <;> simp_all
      rw [ha]
      exact hc j y hy
    · intro u hu
      obtain ⟨y, _, rfl⟩ := List.mem_map.1 hu
      rfl
    · unfold maxLen; omega
    · omega
    · intro v' w1 hown1 hg1 _
      obtain ⟨A', c', rfl⟩ : ∃ A' c', v' = .slice A' (zs.length + ys.length) c' := own_shape hown1
      refine h A' c' w1 ?_ ?_
      · show Own64 _ _ _ _
        unfold Own64
        rw [List.length_append, List.map_append]
        exact hown1
      · exact (Below.refl B w).grown hg1 hB (fun k hk => (hown.lt k hk).1)

theorem own64_z {w : World} {B n c : Nat} {A : Option Addr} {zs : List Int} (h : Own64 w B (.slice A n c) zs) : A = none → c = 0 := by
  intro e
  subst e
  rcases h.2 with ⟨h1, _⟩ | ⟨g, cap, cur, hv, _⟩
  · injection h1
  · cases hv

set_option maxRecDepth 100000 in
/-- the same at a step of a region that draws its order -/
theorem stepInts {ops : Array Oper} {o : Oper} {a : Act} {K : Act → World → Prop} {Q : Exit → Act → World → Prop} {E : Prop} (hgd : o.guard = none) (s x : Operand)
    (ho : o.op = .call { callee := .builtin .append, args := #[s, x], argTypes := #[29, 29] }) (w : World) (B : Nat) (A : Option Addr) (n c : Nat) (zs : List Int) (A2 : Option Addr) (m c2 : Nat) (ys : List Int)
    (hs : a.eval s = .slice A n c) (hx : a.eval x = .slice A2 m c2) (hown : Hid (Own64 w B (.slice A n c) zs)) (hsrc : Hid (Ints w w.heap.size A2 ys)) (hm : Hid (ys.length = m)) (hz : Hid (A2 = none → c2 = 0)) (hB : B ≤ w.heap.size) (hlen : n ≤ 1000000) (hlen2 : m ≤ 1000000)
    (h : ∀ A' c' w', Hid (Own64 w' B (.slice A' (n + m) c') (zs ++ ys)) → Hid (Below B w w') → K (a.put o.dst (.slice A' (n + m) c')) w') :
    if Region.wanted o (yielded ops a.tmps) = true then Oper.wp Tryd.prog o a w K Q else E := by
  have hw : Region.wanted o (yielded ops a.tmps) = true := by simp [Region.wanted, hgd]
  rw [if_pos hw]
  obtain ⟨i0, hi0, hz0, hz1, hz2⟩ := info_parts info64
  have hown := hown.out
  have hn := own64_len hown
  subst hn
  have hm := hm.out
  subst hm
  rcases A2 with _ | ad
  · have hy : ys = [] := by
      rcases Nat.eq_zero_or_pos ys.length with h0 | h0
      · exact List.eq_nil_of_length_eq_zero h0
      · obtain ⟨_, _, e, _⟩ := hsrc.out h0
        cases e
    subst hy
    have hc2 := hz.out rfl
    subst hc2
    have hrun := run_append_owned_none (P := Tryd.prog) (w := w) B 29 o.type 2 i0 1 Tryd.underlying29 hi0 _ zs.length (zs.map (Value.int .i64)) hown
    have := h A c w (by simpa using Lib.hid hown) (Below.refl _ _)
    simp only [List.length_nil] at hx
    unfold Oper.wp execOp
    simp only [ho, resolve, invoke, builtin, Sem.run_bind, Sem.run_pure, Result.andThen_ok, List.map_toArray, List.map_cons, List.map_nil, hs, hx, hrun]
    exact this
  · obtain ⟨v', w1, hr, hown1, hg1, _⟩ := run_append_own (P := Tryd.prog) (w := w) B 29 o.type 2 i0 (.int .i64 0) 1 8 Tryd.underlying29 hi0 hz0 hz1 hz2 rfl (by decide) _ zs.length (zs.map (Value.int .i64)) hown ad ys.length c2 (ys.map (Value.int .i64)) (by simp)
      (by
        intro j u hj
        rw [List.getElem?_map] at hj
        obtain ⟨y, hy, rfl⟩ := Option.map_eq_some_iff.1 hj
        obtain ⟨b, off, e, _, hc⟩ := hsrc.out (by have := (List.getElem?_eq_some_iff.1 hy).1; omega)
        injection e with e
        subst e
        have ha : (⟨b, off, none⟩ : Addr).add j = ⟨b, off + j, none⟩ := by unfold Addr.add; split <;> simp_all
        rw [ha]
        exact hc j y hy)
      (by
        intro u hu
        obtain ⟨y, _, rfl⟩ := List.mem_map.1 hu
        rfl) (by unfold maxLen; omega) (by omega) hB
    obtain ⟨A', c', rfl⟩ : ∃ A' c', v' = .slice A' (zs.length + ys.length) c' := own_shape hown1
    have := h A' c' w1 (by
        show Own64 _ _ _ _
        unfold Own64
        rw [List.length_append, List.map_append]
        exact hown1) ((Below.refl B w).grown hg1 hB (fun k hk => (hown.lt k hk).1))
    unfold Oper.wp execOp
    simp only [ho, resolve, invoke, builtin, Sem.run_bind, Sem.run_pure, Result.andThen_ok, List.map_toArray, List.map_cons, List.map_nil, hs, hx, hr]
    exact this
end Go.Proofs.YtkeahaoeiiigeaaDoor
