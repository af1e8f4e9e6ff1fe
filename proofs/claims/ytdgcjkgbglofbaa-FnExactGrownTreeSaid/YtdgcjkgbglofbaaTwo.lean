/- Two rows of the call's own that share no block: append to one, a store into one, one made shorter. -/
import Derived.Test.YtdgcjkgbglofbaaPush
import Derived.Maps.AppendAt
namespace Go.Proofs.Ytdgcjkgbglofbaa
open Go.RowKit

def Two (w : World) (B : Nat) (v1 v2 : Value) (xs ys : List Int) : Prop :=
  Own64 w B v1 xs ∧ Own64 w B v2 ys ∧ ∀ b, v1.ownBlock = some b → v2.ownBlock ≠ some b
theorem Two.symm {w : World} {B : Nat} {v1 v2 : Value} {xs ys : List Int} (h : Two w B v1 v2 xs ys) : Two w B v2 v1 ys xs := ⟨h.2.1, h.1, fun b h2 h1 => h.2.2 b h1 h2⟩
theorem Two.eq {w : World} {B : Nat} {v1 v2 : Value} {xs ys xs' ys' : List Int} (h : Two w B v1 v2 xs ys) (e : xs = xs') (e' : ys = ys') : Two w B v1 v2 xs' ys' := by subst e; subst e'; exact h
theorem Two.set {w : World} {B g n c : Nat} {v2 : Value} {xs ys : List Int} (h : Two w B (.slice (some ⟨g, 0, none⟩) n c) v2 xs ys) (hn : xs.length = n) (k : Nat) (x : Int) :
    Two (w.setCell ⟨g, k, none⟩ (.int .i64 x)) B (.slice (some ⟨g, 0, none⟩) n c) v2 (xs.set k x) ys :=
  ⟨own64_set h.1 hn k x, ownsRow_setCell_other h.2.1 (a := ⟨g, k, none⟩) (h.2.2 g rfl) _, h.2.2⟩
theorem Two.pop {w : World} {B n c : Nat} {A : Option Addr} {v1 : Value} {xs ys : List Int} (h : Two w B v1 (.slice A n c) xs ys) (hn : 0 < n) : Two w B v1 (.slice A (n - 1) c) xs ys.dropLast := by
  obtain ⟨h1, h2, h3⟩ := h
  refine ⟨h1, ?_, fun b hb => by
    have := h3 b hb
    rcases A with _ | a
    · simp [Value.ownBlock]
    · exact this⟩
  have hl := own64_len h2
  rcases h2.2 with ⟨h0, _⟩ | ⟨g, cap, cur, hv, hg, hh, hnc, hcm, hcs, ht⟩
  · injection h0 with _ e _; omega
  · injection hv with e1 e2 e3
    subst e1
    subst e3
    refine ⟨by simp, .inr ⟨g, c, cur, by rw [hl, List.length_dropLast], hg, hh, ?_, hcm, hcs, ?_⟩⟩
    · rw [List.length_dropLast]; omega
    · have hlen : (ys.map (Value.int .i64)).length = ys.length := by simp
      rw [List.length_dropLast, List.map_dropLast, List.dropLast_eq_take, hlen, ← ht, List.take_take]
      congr 1
      omega
theorem Two.shape {w : World} {B n c : Nat} {A : Option Addr} {v2 : Value} {xs ys : List Int} (h : Two w B (.slice A n c) v2 xs ys) : n = xs.length ∧ (0 < n → ∃ g, A = some ⟨g, 0, none⟩) := by
  have hl := own64_len h.1
  refine ⟨hl, fun hn => ?_⟩
  rcases h.1.2 with ⟨h0, _⟩ | ⟨g, cap, cur, hv, _⟩
  · injection h0 with _ e _; omega
  · injection hv with e1; exact ⟨g, e1⟩
theorem Two.cap {w : World} {B n c : Nat} {A : Option Addr} {v2 : Value} {xs ys : List Int} (h : Two w B (.slice A n c) v2 xs ys) : n ≤ c := by
  rcases h.1.2 with ⟨h0, _⟩ | ⟨g, cap, cur, hv, _, _, hnc, _⟩
  · injection h0 with _ e e'; omega
  · injection hv with _ e e'; omega

set_option maxRecDepth 100000 in
theorem pushTwo {ops : Array Oper} {rest : List Oper} {o : Oper} {a : Act} {Q : Exit → Act → World → Prop} (hgd : o.guard = none) (s x : Operand)
    (ho : o.op = .call { callee := .builtin .append, args := #[s, x], argTypes := #[24, 24] }) (w : World) (B : Nat) (A : Option Addr) (n c : Nat) (v2 : Value) (zs ys : List Int) (y : Int)
    (hs : a.eval s = .slice A n c) (N : Nat) (hx : a.eval x = .slice (some ⟨N, 0, none⟩) 1 1) (hN : N = w.heap.size) (ht : Hid (Two w B (.slice A n c) v2 zs ys)) (hB : B ≤ w.heap.size) (hlen : n ≤ 1000000)
    (h : ∀ A' c' w', Hid (Two w' B (.slice A' (n + 1) c') v2 (zs ++ [y]) ys) → Hid (Below B w w') → wpList Try.prog ops Q rest (a.put o.dst (.slice A' (n + 1) c')) w') :
    wpList Try.prog ops Q (o :: rest) a (w.alloc (.cells #[.int .i64 y] 2)) := by
  obtain ⟨i0, hi0, hz0, hz1, hz2⟩ := info_parts info64
  obtain ⟨hown, hown2, hdis⟩ := ht.out
  have hn := own64_len hown
  subst hn
  subst hN
  refine wpList_append_own_at _ hgd s x 24 ho B 2 i0 (.int .i64 0) 1 8 Try.underlying24 hi0 hz0 hz1 hz2 rfl (by decide) _ zs.length (zs.map (Value.int .i64)) hs (hown.alloc _) ⟨w.heap.size, 0, none⟩ 1 1 [.int .i64 y] hx rfl ?_ ?_ ?_ ?_ ?_ ?_
  · intro j u hj
    match j, hj with
    | 0, hj => simp at hj; subst hj; simp [Addr.add]
  · intro u hu; simp at hu; subst hu; rfl
  · unfold maxLen; omega
  · omega
  · simp; omega
  · intro v' w1 hown1 hg1 _ hat
    obtain ⟨A', c', rfl⟩ : ∃ A' c', v' = .slice A' (zs.length + 1) c' := own_shape hown1
    refine h A' c' w1 ⟨?_, ?_, ?_⟩ ?_
    · have e : (zs ++ [y]).length = zs.length + 1 := by simp
      unfold Own64
      rw [e]
      simpa using hown1
    · refine (hown2.alloc _).kept hg1 ?_
      cases hv : v2.ownBlock with
      | none => exact .inl rfl
      | some k => exact .inr fun e => hdis k e.symm hv
    · intro b hb hb2
      rcases hat with e | e
      · exact hdis b (e ▸ hb) hb2
      · have h1 := hown2.lt b hb2
        rw [hb] at e
        injection e with e
        simp at e
        omega
    · exact ((Below.refl B w).alloc hB _).grown hg1 (by simp; omega) (fun k hk => (hown.lt k hk).1)
end Go.Proofs.Ytdgcjkgbglofbaa
