/- The map that keeps mirrored trees by their texts: what its block is good for. -/
import Derived.Test.YtgojmhcddcenaaaMir
import Derived.Test.YtgojmhcddcenaaaPost
import Derived.Maps.OwnSet
import Derived.Maps.OwnIn
import Derived.Maps.Views
import Derived.StringKeys
namespace Go.Proofs.Ytgojmhcddcenaaa
open Go.RowKit Go.Maps Go.WideMaps

theorem keyedT : Keyed Try.prog 9 := Keyed.of_law (string_law Try.underlying9)
theorem zeroRow (w : World) : (zeroValue 22).run Try.prog w = .ok (.slice none 0 0) w := by kernel_rfl

/-- the key of a text -/
def kt (T : ByteArray) : Lit := .string T.data.toList
theorem keyOf_kt {T : ByteArray} (h : T.size ≤ maxLen) : keyOf Try.prog 9 (.string T) = some (kt T) := keyOf_string_mk Try.underlying9 h
theorem kt_inj {T U : ByteArray} (h : kt T = kt U) : T = U := by
  injection h with h
  cases T with | mk a => cases U with | mk b =>
  simp only at h
  rw [Array.toList_inj.1 h]

/-- how an element reads: the slice's header alone -/
def hdrD (g n c : Nat) : DataW Unit := .agg [.lit (.int .i64 (g : Int)), .lit (.int .i64 (n : Int)), .lit (.int .i64 (c : Int))]
def hdrE : Value → Option (DataW Unit × List MemPlace)
  | .slice (some a) n c => if a = ⟨a.block, 0, none⟩ then some (hdrD a.block n c, []) else none
  | .slice none _ _ => some (.nil, [])
  | _ => none
theorem hdrE_mk (g n c : Nat) : hdrE (.slice (some ⟨g, 0, none⟩) n c) = some (hdrD g n c, []) := by simp [hdrE]
theorem hdrE_inv {v : Value} {g n c : Nat} {ps : List MemPlace} (h : hdrE v = some (hdrD g n c, ps)) : v = .slice (some ⟨g, 0, none⟩) n c := by
  unfold hdrE at h
  split at h
  · rename_i a n' c'
    split at h
    · rename_i ha
      simp only [Option.some.injEq, Prod.mk.injEq, hdrD, DataW.agg.injEq, List.cons.injEq, DataW.lit.injEq, Lit.int.injEq, true_and, and_true] at h
      obtain ⟨⟨h1, h2, h3⟩, _⟩ := h
      rw [ha]
      have e1 : a.block = g := by omega
      have e2 : n' = n := by omega
      have e3 : c' = c := by omega
      rw [e1, e2, e3]
    · cases h
  · simp [hdrD] at h
  · cases h

/-- block b keeps mirrored trees by the texts of the trees; their rows lie from block B on, in none of the blocks of which No holds; at most N of them -/
def Known (w : World) (b B : Nat) (No : Nat → Prop) (N : Nat) : Prop :=
  ∃ D : DataW Unit, w.ownsMap Try.prog 9 hdrE b (Maps.size D) D ∧ Maps.size D ≤ N ∧
    ∀ xs : List Int, M.isTree xs = true → has D (kt (M.textL 24 xs)) = true → ∃ g n c, (∀ z, D.atKey (kt (M.textL 24 xs)) z = hdrD g n c) ∧ Own64 w B (.slice (some ⟨g, 0, none⟩) n c) (M.mirL 24 xs) ∧ ¬ No g
theorem Known.kept {w w' : World} {b B N : Nat} {No : Nat → Prop} {row : Option Nat} (h : Known w b B No N) (hg : w.grownBy w' row) (hb : some b ≠ row) (hr : ∀ k, row = some k → No k) : Known w' b B No N := by
  obtain ⟨D, h1, h2, h3⟩ := h
  refine ⟨D, h1.kept hg hb, h2, fun xs ht hh => ?_⟩
  obtain ⟨g, n, c, k1, k2, k3⟩ := h3 xs ht hh
  exact ⟨g, n, c, k1, k2.kept hg (.inr fun e => k3 (hr g e.symm)), k3⟩
theorem Known.alloc {w : World} {b B N : Nat} {No : Nat → Prop} (h : Known w b B No N) (o : Obj) : Known (w.alloc o) b B No N := by
  obtain ⟨D, h1, h2, h3⟩ := h
  refine ⟨D, h1.kept (World.grownBy_alloc w o none) (by simp), h2, fun xs ht hh => ?_⟩
  obtain ⟨g, n, c, k1, k2, k3⟩ := h3 xs ht hh
  exact ⟨g, n, c, k1, k2.alloc _, k3⟩
theorem Known.new (w : World) (B : Nat) (No : Nat → Prop) : Known (w.alloc (.map #[] 0)) w.heap.size B No 0 :=
  ⟨.map [], World.ownsMap_made _ _ _ _, by simp [Maps.size], fun xs _ h => by simp [has] at h⟩
/-- fewer blocks to be shunned; more of them, if no row lies there -/
theorem Known.less {w : World} {b B N : Nat} {No No' : Nat → Prop} (h : Known w b B No N) (hn : ∀ g, No' g → No g) : Known w b B No' N := by
  obtain ⟨D, h1, h2, h3⟩ := h
  refine ⟨D, h1, h2, fun xs ht hh => ?_⟩
  obtain ⟨g, n, c, k1, k2, k3⟩ := h3 xs ht hh
  exact ⟨g, n, c, k1, k2, fun e => k3 (hn g e)⟩
theorem Known.more {w : World} {b B N : Nat} {No : Nat → Prop} (h : Known w b B No N) {q : Nat} (hq : w.heap.size ≤ q) : Known w b B (fun g => No g ∨ g = q) N := by
  obtain ⟨D, h1, h2, h3⟩ := h
  refine ⟨D, h1, h2, fun xs ht hh => ?_⟩
  obtain ⟨g, n, c, k1, k2, k3⟩ := h3 xs ht hh
  exact ⟨g, n, c, k1, k2, fun e => by
    rcases e with e | e
    · exact k3 e
    · have := (World.ownsRow.lt k2 g rfl).2; omega⟩
theorem known_size {w : World} {k b n : Nat} {R : Value → Option (DataW Unit × List MemPlace)} {D : DataW Unit} (h : w.ownsMap Try.prog k R b n D) : w.ownsMap Try.prog k R b (Maps.size D) D := by
  obtain ⟨es, clock, hb, F, hs, hD⟩ := h
  refine ⟨es, clock, hb, F, ?_, hD⟩
  rw [hD]
  show es.size ≤ (List.foldr DataW.insert [] _).length
  rw [length_sorted]
  simp
/-- behind a store of a new tree's -/
theorem Known.put {w w' : World} {b B N g n c m : Nat} {No : Nat → Prop} {xs : List Int} {D : DataW Unit} (hT : Tidy D) (hs : Maps.size D ≤ N) (ht : M.isTree xs = true)
    (h3 : ∀ xs : List Int, M.isTree xs = true → has D (kt (M.textL 24 xs)) = true → ∃ g n c, (∀ z, D.atKey (kt (M.textL 24 xs)) z = hdrD g n c) ∧ Own64 w B (.slice (some ⟨g, 0, none⟩) n c) (M.mirL 24 xs) ∧ ¬ No g)
    (ho : Own64 w B (.slice (some ⟨g, 0, none⟩) n c) (M.mirL 24 xs)) (hno : ¬ No g) (hown : w'.ownsMap Try.prog 9 hdrE b m (D.put (kt (M.textL 24 xs)) (hdrD g n c))) (hg : w.grownBy w' (some b)) (hmap : ∀ v zs, Own64 w B v zs → v.ownBlock ≠ some b) : Known w' b B No (N + 1) := by
  have hkey : WideAt.IsKeyLit (kt (M.textL 24 xs)) := keyedT.key (keyOf_kt (by have := M.textL_size 24 xs ht (M.tree_len ht).2; have := (M.tree_len ht).2; unfold maxLen; omega))
  refine ⟨_, known_size hown, ?_, fun ys hy hh => ?_⟩
  · rw [size_put hT]
    split <;> omega
  · by_cases he : ys = xs
    · subst he
      exact ⟨g, n, c, fun z => atKey_put_same hT.isMap hkey _ _, ho.kept hg (.inr (hmap _ _ ho)), hno⟩
    · have hne : kt (M.textL 24 ys) ≠ kt (M.textL 24 xs) := fun e => he (M.text_inj hy (M.tree_len hy).2 ht (M.tree_len ht).2 (kt_inj e))
      rw [has_put_other hne] at hh
      obtain ⟨g', n', c', k1, k2, k3⟩ := h3 ys hy hh
      exact ⟨g', n', c', fun z => by rw [atKey_put_other hne]; exact k1 z, k2.kept hg (.inr (hmap _ _ k2)), k3⟩
end Go.Proofs.Ytgojmhcddcenaaa
