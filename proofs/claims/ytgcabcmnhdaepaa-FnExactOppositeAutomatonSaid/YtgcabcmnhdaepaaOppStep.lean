/- The opposite automaton: append of one row and of one number, with what else is kept; the states that are good in it. -/
import Derived.Test.YtgcabcmnhdaepaaRwsIn
import Derived.Test.YtgcabcmnhdaepaaApp
import Derived.Test.YtgcabcmnhdaepaaAuto
import Derived.Maps.AppendAt
namespace Go.Proofs.Ytgcabcmnhdaepaa
open Go.RowKit

/-- behind an append of one row -/
theorem rws_pushed2 {w w1 : World} {B : Nat} {v v' : Value} {hs : List Hdr} {zss : List (List Int)} {h0 : Hdr} {zs : List Int} (h : Rws w B v hs zss) (ho : Own64 w B (hdr h0) zs) (hne : v.ownBlock ≠ some h0.1) (hfr : ∀ h' ∈ hs, h'.1 ≠ h0.1) 
    (hown : w1.ownsRow B 23 1 v' (hs.length + 1) (hs.map hdr ++ [hdr h0])) (hg : w.grownBy w1 v.ownBlock) : Rws w1 B v' (hs ++ [h0]) (zss ++ [zs]) := by
  have hk0 : ∀ (h' : Hdr) (ys : List Int), Own64 w B (hdr h') ys → v.ownBlock ≠ some h'.1 → Own64 w1 B (hdr h') ys := fun h' ys ho' hv => ho'.kept hg (.inr fun e => hv e.symm)
  refine ⟨by rw [List.length_append, List.map_append]; exact hown, by rw [List.length_append, List.length_append, h.len]; rfl, fun k h' ys hk hy => ?_, fun i j h1 h2 hi hj hij => ?_⟩
  · rcases Nat.lt_or_ge k hs.length with hl | hl
    · rw [List.getElem?_append_left hl] at hk
      rw [List.getElem?_append_left (by rw [← h.len]; exact hl)] at hy
      exact hk0 h' ys (h.each k h' ys hk hy) (h.off (List.mem_of_getElem? hk))
    · rw [List.getElem?_append_right hl] at hk
      rw [List.getElem?_append_right (by rw [← h.len]; exact hl)] at hy
      have e1 : k - hs.length = 0 := by have := (List.getElem?_eq_some_iff.1 hk).1; simp at this; omega
      rw [e1] at hk
      rw [← h.len, e1] at hy
      injection hk with hk
      injection hy with hy
      subst hk
      subst hy
      exact hk0 h0 zs ho hne
  · have hsel : ∀ (k : Nat) (h' : Hdr), (hs ++ [h0])[k]? = some h' → (k < hs.length ∧ hs[k]? = some h') ∨ (k = hs.length ∧ h' = h0) := fun k h' hk => by
      rcases Nat.lt_or_ge k hs.length with hl | hl
      · rw [List.getElem?_append_left hl] at hk; exact .inl ⟨hl, hk⟩
      · rw [List.getElem?_append_right hl] at hk
        have e1 : k - hs.length = 0 := by have := (List.getElem?_eq_some_iff.1 hk).1; simp at this; omega
        rw [e1] at hk
        injection hk with hk
        exact .inr ⟨by omega, hk.symm⟩
    rcases hsel i h1 hi with ⟨a1, a2⟩ | ⟨a1, a2⟩ <;> rcases hsel j h2 hj with ⟨b1, b2⟩ | ⟨b1, b2⟩
    · exact h.apart i j h1 h2 a2 b2 hij
    · rw [b2]; exact hfr h1 (List.mem_of_getElem? a2)
    · rw [a2]; exact fun e => hfr h2 (List.mem_of_getElem? b2) e.symm
    · omega


set_option maxRecDepth 100000 in
/-- append of one row at a step of a region that draws -/
theorem stepRws {ops : Array Oper} {o : Oper} {a : Act} {K : Act → World → Prop} {Q : Exit → Act → World → Prop} {E : Prop} (hgd : o.guard = none) (s x : Operand)
    (ho : o.op = .call { callee := .builtin .append, args := #[s, x], argTypes := #[22, 22] }) (w : World) (B N : Nat) (A : Option Addr) (n c : Nat) (hs : List Hdr) (zss : List (List Int)) (h0 : Hdr) (zs : List Int)
    (hs0 : a.eval s = .slice A n c) (hx : a.eval x = .slice (some ⟨N, 0, none⟩) 1 1) (hN : Hid (w.cell? ⟨N, 0, none⟩ = some (hdr h0))) (hW : Hid (Rws w B (.slice A n c) hs zss)) (hrow : Hid (Own64 w B (hdr h0) zs)) (hne : Hid ((Value.slice A n c).ownBlock ≠ some h0.1)) (hfr : Hid (∀ h' ∈ hs, h'.1 ≠ h0.1)) (hB : B ≤ w.heap.size) (hlen : n ≤ 1000000)
    (h : ∀ A' c' w', Hid (Rws w' B (.slice A' (n + 1) c') (hs ++ [h0]) (zss ++ [zs])) → Hid (w.grownBy w' (Value.slice A n c).ownBlock) → K (a.put o.dst (.slice A' (n + 1) c')) w') :
    if Region.wanted o (yielded ops a.tmps) = true then Oper.wp Try.prog o a w K Q else E := by
  have hw : Region.wanted o (yielded ops a.tmps) = true := by simp [Region.wanted, hgd]
  rw [if_pos hw]
  obtain ⟨i0, hi0, hz0, hz1, hz2⟩ := info_parts infoRow
  have hn : hs.length = n := by rw [hW.out.len]; exact hW.out.shape.1.symm
  subst hn
  obtain ⟨v', w1, hr, hown1, hg1, _⟩ := run_append_own (P := Try.prog) (w := w) B 22 o.type 23 i0 (.slice none 0 0) 1 24 Try.underlying22 hi0 hz0 hz1 hz2 rfl (by decide) _ hs.length (hs.map hdr) hW.out.row ⟨N, 0, none⟩ 1 1 [hdr h0] rfl
      (by
        intro j u hj
        match j, hj with
        | 0, hj => simp at hj; subst hj; simpa [Addr.add] using hN.out)
      (by intro u hu; simp at hu; subst hu; rfl) (by unfold maxLen; omega) (by omega) hB
  obtain ⟨A', c', rfl⟩ : ∃ A' c', v' = .slice A' (hs.length + 1) c' := own_shape hown1
  have := h A' c' w1 (rws_pushed2 hW.out hrow.out hne.out hfr.out hown1 hg1) hg1
  unfold Oper.wp execOp
  simp only [ho, resolve, invoke, builtin, Sem.run_bind, Sem.run_pure, Result.andThen_ok, List.map_toArray, List.map_cons, List.map_nil, hs0, hx, hr]
  exact this

/-- append of one number, with what else is kept -/
theorem push64G {ops : Array Oper} {rest : List Oper} {o : Oper} {a : Act} {Q : Exit → Act → World → Prop} (hgd : o.guard = none) (s x : Operand)
    (ho : o.op = .call { callee := .builtin .append, args := #[s, x], argTypes := #[23, 23] }) (w : World) (B : Nat) (A : Option Addr) (n c : Nat) (zs : List Int) (y : Int)
    (hs : a.eval s = .slice A n c) (N : Nat) (hx : a.eval x = .slice (some ⟨N, 0, none⟩) 1 1) (hN : N = w.heap.size) (hown : Hid (Own64 w B (.slice A n c) zs)) (hB : B ≤ w.heap.size) (hlen : n ≤ 1000000)
    (h : ∀ A' c' w', Hid (Own64 w' B (.slice A' (n + 1) c') (zs ++ [y])) → Hid ((w.alloc (.cells #[.int .i64 y] 2)).grownBy w' (Value.slice A n c).ownBlock) → Hid ((Value.slice A' (n + 1) c').ownBlock = (Value.slice A n c).ownBlock ∨ (Value.slice A' (n + 1) c').ownBlock = some (w.alloc (.cells #[.int .i64 y] 2)).heap.size) → wpList Try.prog ops Q rest (a.put o.dst (.slice A' (n + 1) c')) w') :
    wpList Try.prog ops Q (o :: rest) a (w.alloc (.cells #[.int .i64 y] 2)) := by
  subst hN
  obtain ⟨i0, hi0, hz0, hz1, hz2⟩ := info_parts info64
  have hown := hown.out
  have hn := own64_len hown
  subst hn
  refine wpList_append_own_at _ hgd s x 23 ho B 2 i0 (.int .i64 0) 1 8 Try.underlying23 hi0 hz0 hz1 hz2 rfl (by decide) _ zs.length (zs.map (Value.int .i64)) hs (hown.alloc _) ⟨w.heap.size, 0, none⟩ 1 1 [.int .i64 y] hx rfl ?_ ?_ ?_ ?_ ?_ ?_
  · intro j u hj
    match j, hj with
    | 0, hj => simp at hj; subst hj; simp [Addr.add]
  · intro u hu; simp at hu; subst hu; rfl
  · unfold maxLen; omega
  · omega
  · simp; omega
  · intro v' w1 hown1 hg1 _ hwh
    obtain ⟨A, c, rfl⟩ : ∃ A c, v' = .slice A (zs.length + 1) c := own_shape hown1
    refine h A c w1 ?_ hg1 hwh
    have e : (zs ++ [y]).length = zs.length + 1 := by simp
    show Own64 _ _ _ _
    unfold Own64
    rw [e]
    simpa using hown1

namespace M
/-- the states below k that are not in a list -/
def oppTo (gs : List Int) : Nat → List Int
  | 0 => []
  | k + 1 => if decide ((k : Int) ∈ gs) = true then oppTo gs k else oppTo gs k ++ [(k : Int)]
theorem oppTo_len (gs : List Int) : ∀ k, (oppTo gs k).length ≤ k := by
  intro k
  induction k with
  | zero => simp [oppTo]
  | succ k ih =>
    simp only [oppTo]
    split
    · omega
    · simp; exact ih
theorem oppTo_in {gs : List Int} {k : Nat} (h : decide ((k : Int) ∈ gs) = true) : oppTo gs (k + 1) = oppTo gs k := by simp only [oppTo]; rw [if_pos h]
theorem oppTo_out {gs : List Int} {k : Nat} (h : decide ((k : Int) ∈ gs) = false) : oppTo gs (k + 1) = oppTo gs k ++ [(k : Int)] := by simp only [oppTo]; rw [if_neg (by rw [h]; simp)]
end M
end Go.Proofs.Ytgcabcmnhdaepaa
