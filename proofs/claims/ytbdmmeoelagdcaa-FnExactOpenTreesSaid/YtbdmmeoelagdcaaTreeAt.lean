/- The tree with a text; texts of trees are whole pieces of brackets. -/
import Derived.Test.YtbdmmeoelagdcaaFill
import Derived.Test.YtbdmmeoelagdcaaPCode
namespace Go.Proofs.Ytbdmmeoelagdcaa
open Go.RowKit

theorem M.text_isB : ∀ (f : Nat) (xs : List Int), M.isTree xs = true → xs.length ≤ f → ∀ c ∈ (M.textL f xs).data.toList, M.isB c := by
  intro f
  induction f with
  | zero => intro xs ht h; have := (M.tree_len ht).1; omega
  | succ f ih =>
    intro xs ht hf
    have hl := M.tree_len ht
    obtain ⟨d, hd, _⟩ := M.tree_degN ht (v := 0) (by omega)
    have hK : ∀ k, k ≤ d → ∀ c ∈ (M.textK f xs k).data.toList, M.isB c := by
      intro k
      induction k with
      | zero => intro _ c hc; rw [M.textK_zero] at hc; rw [List.mem_singleton.1 hc]; exact .inl rfl
      | succ k ihk =>
        intro hk c hc
        have h3 := M.sub_short ht hd (i := k) (by omega)
        have h4 := M.kid_lt ht hd (i := k) (by omega)
        rw [M.textK_succ, ByteArray.data_append, Array.toList_append] at hc
        rcases List.mem_append.1 hc with hc | hc
        · exact ihk (by omega) c hc
        · exact ih _ (M.sub_tree ht h4) (by omega) c hc
    intro c hc
    rw [M.textL_at hd, ByteArray.data_append, Array.toList_append] at hc
    rcases List.mem_append.1 hc with hc | hc
    · exact hK d (Nat.le_refl _) c hc
    · rw [List.mem_singleton.1 hc]; exact .inr rfl
/-- the tree with a text -/
def treeAt (Y : List UInt8) : List Int := (M.parse (M.toI Y)).1
/-- the text of a tree, as bytes -/
def txt (xs : List Int) : List UInt8 := (M.textL 24 xs).data.toList
theorem txt_whole {xs : List Int} (ht : M.isTree xs = true) : M.Whole (txt xs) :=
  ⟨M.text_piece ht (M.tree_len ht).2, fun r o => (M.text_close 24 xs ht (M.tree_len ht).2 r).1 o, M.text_isB 24 xs ht (M.tree_len ht).2⟩
theorem txt_len {xs : List Int} (ht : M.isTree xs = true) : (txt xs).length = 2 * xs.length := by
  have := M.textL_size 24 xs ht (M.tree_len ht).2
  rw [Lib.size_eq] at this
  exact this
end Go.Proofs.Ytbdmmeoelagdcaa
