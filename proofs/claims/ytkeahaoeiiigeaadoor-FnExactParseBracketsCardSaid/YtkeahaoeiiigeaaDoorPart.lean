/- Parts of binary trees by the texts of their sides: partOf, text, nodesIn; the model's l03Sides, l03N. -/
import Derived.Test.YtkeahaoeiiigeaaDoorGivesB
import Derived.Test.YtkeahaoeiiigeaaDoorTurn
namespace Go.Proofs.YtkeahaoeiiigeaaDoor
open Go.RowKit

/-- the text of a binary tree, as a string -/
def M.Bin.str (t : M.Bin) : ByteArray := M.bs t.txt
def M.Bin.lef : M.Bin → ByteArray
  | .nil => ⟨#[]⟩
  | .node l _ => l.str
def M.Bin.rig : M.Bin → ByteArray
  | .nil => ⟨#[]⟩
  | .node _ r => r.str
def M.Bin.isNil : M.Bin → Bool
  | .nil => true
  | .node _ _ => false
theorem str_size (t : M.Bin) : t.str.size = 2 * t.n + 1 := by rw [M.Bin.str, M.bs_size, t.txt_len]
theorem str_nil (t : M.Bin) : (t.str.toList == [48]) = t.isNil := by
  rw [M.Bin.str, Lib.toList_data, M.bs_data]
  cases t with
  | nil => rfl
  | node l r => rfl
theorem str_tail (l r : M.Bin) : (M.Bin.node l r).str.extract 1 (M.Bin.node l r).str.size = M.bs (l.txt ++ r.txt) := bs_tail (by rw [M.Bin.str, M.bs_data]; rfl)
theorem str_left (l r : M.Bin) : (M.Bin.node l r).str.extract 1 ((M.Bin.node l r).str.size - r.str.size) = l.str := by
  rw [str_size, str_size, M.Bin.str, M.bs_extract, M.Bin.str, M.Bin.txt, List.drop_succ_cons, List.drop_zero]
  have h1 := l.txt_len
  simp only [M.Bin.n]
  rw [show 2 * (l.n + r.n + 1) + 1 - (2 * r.n + 1) - 1 = l.txt.length by omega, List.take_left]

theorem half (n : Nat) : (((2 * n + 1 : Nat) : Int)).tdiv 2 = (n : Int) := by
  show Int.tdiv ((2 * n + 1 : Nat) : Int) ((2 : Nat) : Int) = n
  rw [← Int.ofNat_tdiv]
  omega
/-- a slice of a string between two numbers -/
theorem slice_str (S : ByteArray) (i j : Int) (w : World) (h0 : 0 ≤ i) (h1 : i ≤ j) (h2 : j ≤ (S.size : Int)) : (Instr.slice 9 (.string S) (some (.int .i64 i)) (some (.int .i64 j)) none).run Tryd.prog w = .ok (.string (S.extract i.toNat j.toNat)) w :=
  run_slice_string (P := Tryd.prog) w 9 S .i64 .i64 i j Tryd.underlying9 h0 h1 h2
theorem nodesIn (t : M.Bin) (w : World) (ht : t.n ≤ 1000000) : Calls Tryd.prog 52 #[.string t.str] w fun e w' => e = .returned (.int .i64 (t.n : Int)) ∧ w' = w := by
  have hz := str_size t
  have hq : ((t.str.size : Int)).tdiv 2 = (t.n : Int) := by rw [hz]; exact half t.n
  have hz2 : (t.str.size : Int) ≤ 3000000 := by omega
  clear hz
  generalize t.str = S at *
  go_enter Tryd.func52, Tryd.ntmps52
  go_wp2
  go_ret
  exact ⟨rfl, rfl⟩
theorem l03N (t : M.Bin) (w : World) (ht : t.n ≤ 1000000) : Calls Tryd.prog 51 #[.string t.str] w fun e w' => e = .returned (.int .i64 (t.n : Int)) ∧ w' = w := by
  have hz := str_size t
  have hq : ((t.str.size : Int)).tdiv 2 = (t.n : Int) := by rw [hz]; exact half t.n
  have hz2 : (t.str.size : Int) ≤ 3000000 := by omega
  clear hz
  generalize t.str = S at *
  go_enter Tryd.func51, Tryd.ntmps51
  go_wp2
  go_ret
  exact ⟨rfl, rfl⟩

/-- the text of a part by its sides -/
def partText (a b : ByteArray) : ByteArray := if a.toList = [] ∧ b.toList = [] then ⟨#[48]⟩ else ⟨#[49]⟩ ++ a ++ b
theorem partText_node (l r : M.Bin) : partText l.str r.str = (M.Bin.node l r).str := by
  have h : ¬ (l.str.toList = [] ∧ r.str.toList = []) := fun h => by
    have := h.1
    rw [M.Bin.str, Lib.toList_data, M.bs_data] at this
    cases l <;> simp [M.Bin.txt] at this
  rw [partText, if_neg h]
  show M.bs [49] ++ M.bs l.txt ++ M.bs r.txt = _
  rw [M.bs_append, M.bs_append]
  rfl
theorem partText_sides (t : M.Bin) : partText t.lef t.rig = t.str := by
  cases t with
  | nil =>
    have h : (⟨#[]⟩ : ByteArray).toList = [] := by rw [Lib.toList_data]
    exact if_pos ⟨h, h⟩
  | node l r => exact partText_node l r
set_option maxRecDepth 100000 in
theorem partText_in (a b : ByteArray) (w : World) (ha : a.size ≤ 1000000) (hb : b.size ≤ 1000000) : Calls Tryd.prog 53 #[.agg #[.string a, .string b]] w fun e w' => e = .returned (.string (partText a b)) ∧ Hid (Below w.heap.size w w') := by
  have hB : Hid (Below w.heap.size w (w.alloc (.cells #[.string a, .string b] 45))) := bal (b0 w) _
  have hs1 : ¬ 9223372036854775807 < 1 + a.size := by omega
  have hs2 : ¬ 9223372036854775807 < 1 + a.size + b.size := by omega
  go_enter Tryd.func53, Tryd.ntmps53
  go_wp2
  · rename_i h1 h2
    go_ret
    rw [partText, if_pos ⟨h1, h2⟩]
    exact ⟨rfl, hB⟩
  · rename_i h1 h2
    go_ret
    rw [partText, if_neg (fun h => h2 h.2)]
    exact ⟨rfl, hB⟩
  · rename_i h1
    go_ret
    rw [partText, if_neg (fun h => h1 h.1)]
    exact ⟨rfl, hB⟩

set_option maxRecDepth 100000 in
theorem partOf (p : Addr) (t : M.Bin) (w : World) (ht : t.n ≤ 1000000) (hc : w.cell? ⟨0, 0, none⟩ = some (errV p)) : Calls Tryd.prog 49 #[.string t.str] w fun e w' => e = .returned (.agg #[.string t.lef, .string t.rig]) ∧ Hid (Below w.heap.size w w') := by
  have hB0 : Hid (Below w.heap.size w (w.alloc (.cells #[.string ⟨#[]⟩, .string ⟨#[]⟩] 45))) := bal (b0 w) _
  cases t with
  | nil =>
    have hq : (M.Bin.nil.str.toList == [48]) = true := str_nil .nil
    go_enter Tryd.func49, Tryd.ntmps49
    go_wp2
    refine bodyPost_ret (v := .agg #[.string ⟨#[]⟩, .string ⟨#[]⟩]) (by simp [results, Tryd.results49, go_sem]) rfl ⟨rfl, hB0⟩
  | node l r =>
    have hq : ((M.Bin.node l r).str.toList == [48]) = false := str_nil (.node l r)
    have hz := str_size (.node l r)
    have hzr := str_size r
    have hcB := cell_up hB0.out hc
    have H := behindPart p _ ((M.Bin.node l r).str.extract 1 (M.Bin.node l r).str.size) _ (Nat.le_refl _) hcB
    rw [str_tail, M.bs_data] at H
    have hl := Lib.hid (str_left l r)
    have K1 : Hid (Calls Tryd.prog 82 #[.string ((M.Bin.node l r).str.extract 1 (M.Bin.node l r).str.size)] (w.alloc (.cells #[.string ⟨#[]⟩, .string ⟨#[]⟩] 45)) fun e w' => e = .returned (.string r.str) ∧ w' = w.alloc (.cells #[.string ⟨#[]⟩, .string ⟨#[]⟩] 45)) := by
      unfold behindEnd at H
      rw [M.after_txt, M.after_zero] at H
      rw [str_tail]
      exact H
    simp only [M.Bin.n] at hz ht
    have z1 : (1 : Int) ≤ ((M.Bin.node l r).str.size : Int) := by omega
    have z2 : (1 : Int) ≤ ((M.Bin.node l r).str.size : Int) - (r.str.size : Int) := by omega
    have z3 : ((M.Bin.node l r).str.size : Int) ≤ 3000000 := by omega
    have z4 : (0 : Int) ≤ (r.str.size : Int) := by omega
    have z5 : IntKind.i64.wrap (((M.Bin.node l r).str.size : Int) - (r.str.size : Int)) = ((M.Bin.node l r).str.size : Int) - (r.str.size : Int) := IntWalk.i64_in _ (by omega)
    have z6 : (((M.Bin.node l r).str.size : Int) - (r.str.size : Int)).toNat = (M.Bin.node l r).str.size - r.str.size := by omega
    have hsl : ∀ W, (Instr.slice 9 (.string (M.Bin.node l r).str) (some (.int .i64 1)) (some (.int .i64 (((M.Bin.node l r).str.size : Int) - (r.str.size : Int)))) none).run Tryd.prog W = .ok (.string ((M.Bin.node l r).str.extract 1 ((M.Bin.node l r).str.size - r.str.size))) W := fun W => by
      have := slice_str (M.Bin.node l r).str 1 (((M.Bin.node l r).str.size : Int) - (r.str.size : Int)) W (by omega) z2 (by omega)
      rw [z6] at this
      exact this
    show Calls _ _ _ _ fun e w' => e = .returned (.agg #[.string l.str, .string r.str]) ∧ _
    rw [← hl.out]
    clear hz hzr hc hcB H hl
    generalize (M.Bin.node l r).str = S at *
    generalize r.str = R at *
    go_enter Tryd.func49, Tryd.ntmps49
    go_wp2_with (go_at_call 82; refine K1.out.mono ?_; rintro e w' ⟨rfl, hw⟩; subst hw)
    refine bodyPost_ret (v := .agg #[.string (S.extract 1 (S.size - R.size)), .string R]) (by simp [results, Tryd.results49, go_sem]) rfl ⟨rfl, ?_⟩
    exact Lib.hid (bal (b0 w) _)
end Go.Proofs.YtkeahaoeiiigeaaDoor
