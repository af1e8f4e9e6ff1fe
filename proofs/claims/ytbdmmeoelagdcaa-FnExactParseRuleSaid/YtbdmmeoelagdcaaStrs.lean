/- Rows of texts that a call owns: an empty one, append of one text. -/
import Derived.Test.YtbdmmeoelagdcaaPush
import Derived.Test.YtbdmmeoelagdcaaBin
namespace Go.Proofs.Ytbdmmeoelagdcaa
open Go.RowKit

/-- the slice value v owns a row of texts -/
abbrev OwnS (w : World) (B : Nat) (v : Value) (ts : List ByteArray) : Prop := w.ownsRow B 9 1 v ts.length (ts.map Value.string)
theorem infoStr : (Try.prog.info? 9).map (fun i => (i.zero, i.size, i.bytes)) = some (some (.string ⟨#[]⟩), 1, 16) := by kernel_rfl
theorem ownS_len {w : World} {B n c : Nat} {A : Option Addr} {ts : List ByteArray} (h : OwnS w B (.slice A n c) ts) : n = ts.length := by
  rcases h.2 with ⟨h1, h2⟩ | ⟨g, cap, cur, hv, _⟩
  · injection h1 with _ h1 _; omega
  · injection hv
theorem ownS_nil (w : World) (B : Nat) : OwnS w B (.slice none 0 0) [] := World.ownsRow_nil _ _ _ _
theorem ownS_empty {w : World} {B : Nat} (hB : B ≤ w.heap.size) : OwnS (w.alloc (.cells #[] 9)) B (.slice (some ⟨w.heap.size, 0, none⟩) 0 0) [] := by
  have := World.ownsRow_made (e := 9) (size := 1) w #[] 0 hB (by simp [maxLen]) (by simp)
  exact this
theorem ownS_eq {w : World} {B : Nat} {v : Value} {zs ys : List ByteArray} (h : OwnS w B v zs) (e : zs = ys) : OwnS w B v ys := e ▸ h
/-- a row of the call's own is as it was after what writes above alone -/
theorem ownS_be {w w' : World} {B : Nat} {v : Value} {ts : List ByteArray} (h : OwnS w B v ts) (hb : Below w.heap.size w w') : OwnS w' B v ts := by
  refine ⟨h.1, ?_⟩
  rcases h.2 with h2 | ⟨g, cap, cur, hv, hg, hh, r⟩
  · exact .inl h2
  · exact .inr ⟨g, cap, cur, hv, hg, (hb.block g (Array.getElem?_eq_some_iff.1 hh).1).trans hh, r⟩
theorem ownS_cell {w : World} {B n c k : Nat} {A : Option Addr} {ts : List ByteArray} {x : ByteArray} (h : OwnS w B (.slice A n c) ts) (hx : ts[k]? = some x) :
    ∃ g, A = some ⟨g, 0, none⟩ ∧ w.cell? ⟨g, k, none⟩ = some (.string x) ∧ g < w.heap.size := by
  have hn := ownS_len h
  have hk := (List.getElem?_eq_some_iff.1 hx).1
  subst hn
  rcases h.2 with ⟨h1, h2⟩ | ⟨g, cap, cur, hv, _⟩
  · injection h1 with e1 e2 e3; omega
  · injection hv with e1
    subst e1
    have hl := World.ownsRow.lt h g rfl
    exact ⟨g, rfl, (World.ownsRow.cellAt h k (by omega)).trans (by simp [hx]), hl.2⟩

theorem pushS {ops : Array Oper} {rest : List Oper} {o : Oper} {a : Act} {Q : Exit → Act → World → Prop} (hgd : o.guard = none) (s x : Operand)
    (ho : o.op = .call { callee := .builtin .append, args := #[s, x], argTypes := #[78, 78] }) (w : World) (B : Nat) (A : Option Addr) (n c : Nat) (ts : List ByteArray) (y : ByteArray)
    (hs : a.eval s = .slice A n c) (hx : a.eval x = .slice (some ⟨w.heap.size, 0, none⟩) 1 1) (hown : Hid (OwnS w B (.slice A n c) ts)) (hB : B ≤ w.heap.size) (hlen : n ≤ 1100000)
    (h : ∀ A' c' w', Hid (OwnS w' B (.slice A' (n + 1) c') (ts ++ [y])) → Hid (Below B w w') → wpList Try.prog ops Q rest (a.put o.dst (.slice A' (n + 1) c')) w') :
    wpList Try.prog ops Q (o :: rest) a (w.alloc (.cells #[.string y] 9)) := by
  obtain ⟨i0, hi0, hz0, hz1, hz2⟩ := info_parts infoStr
  have hown := hown.out
  have hn := ownS_len hown
  subst hn
  refine wpList_append_own _ hgd s x 78 ho B 9 i0 (.string ⟨#[]⟩) 1 16 Try.underlying78 hi0 hz0 hz1 hz2 rfl (by decide) _ ts.length (ts.map Value.string) hs (hown.alloc _) ⟨w.heap.size, 0, none⟩ 1 1 [.string y] hx rfl ?_ ?_ ?_ ?_ ?_ ?_
  · intro j u hj
    match j, hj with
    | 0, hj => simp at hj; subst hj; simp [Addr.add]
  · intro u hu; simp at hu; subst hu; rfl
  · unfold maxLen; omega
  · omega
  · simp; omega
  · intro v' w1 hown1 hg1 _
    obtain ⟨A, c, rfl⟩ : ∃ A c, v' = .slice A (ts.length + 1) c := by
      rcases hown1.2 with ⟨rfl, h0⟩ | ⟨g, cap, _, rfl, _⟩
      · omega
      · exact ⟨_, _, rfl⟩
    refine h A c w1 ?_ ?_
    · have e : (ts ++ [y]).length = ts.length + 1 := by simp
      show OwnS _ _ _ _
      unfold OwnS
      rw [e]
      simpa using hown1
    · exact ((Below.refl B w).alloc hB _).grown hg1 (by simp; omega) (fun k hk => (hown.lt k hk).1)
end Go.Proofs.Ytbdmmeoelagdcaa
