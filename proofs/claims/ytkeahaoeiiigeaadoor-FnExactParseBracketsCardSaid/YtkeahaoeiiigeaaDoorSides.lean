/- The model's l03Sides; trees out of strings; strings.Clone. -/
import Derived.Test.YtkeahaoeiiigeaaDoorPart
import Derived.Test.YtkeahaoeiiigeaaDoorShelf
import Derived.Deep.RegionHeld3
namespace Go.Proofs.YtkeahaoeiiigeaaDoor
open Go.RowKit

theorem str_right (l r : M.Bin) : (M.Bin.node l r).str.extract ((M.Bin.node l r).str.size - r.str.size) (M.Bin.node l r).str.size = r.str := by
  have h1 := l.txt_len
  have h2 := r.txt_len
  rw [str_size, str_size, M.Bin.str, M.bs_extract, M.Bin.str, M.Bin.txt]
  simp only [M.Bin.n]
  rw [show 2 * (l.n + r.n + 1) + 1 - (2 * r.n + 1) = l.txt.length + 1 by omega, List.drop_succ_cons, List.drop_left, show 2 * (l.n + r.n + 1) + 1 - (l.txt.length + 1) = r.txt.length by omega, List.take_length]
theorem endAt_side (l r : M.Bin) : endAt (M.Bin.node l r).str.data.toList 1 = (((M.Bin.node l r).str.size - r.str.size : Nat) : Int) := by
  have e : (M.Bin.node l r).str.data.toList.drop 1 = l.txt ++ r.txt := by rw [M.Bin.str, M.bs_data]; rfl
  rw [endAt, e, M.after_txt, M.after_zero, ← Lib.size_eq]
  show (((M.Bin.node l r).str.size - r.txt.length : Nat) : Int) = _
  rw [str_size r, r.txt_len]

set_option maxRecDepth 100000 in
theorem l03Sides (l r : M.Bin) (w : World) (hn : l.n + r.n ≤ 1000) : Calls Tryd.prog 48 #[.string (M.Bin.node l r).str] w fun e w' => e = .returned (.tuple #[.string l.str, .string r.str]) ∧ Hid (Below w.heap.size w w') := by
  have hz := str_size (.node l r)
  have hzr := str_size r
  simp only [M.Bin.n] at hz
  have hE := Lib.hid (l03End (M.Bin.node l r).str 1 w (by omega) (by omega))
  rw [endAt_side] at hE
  have hl := Lib.hid (str_left l r)
  have hr := Lib.hid (str_right l r)
  obtain ⟨k, hk⟩ : ∃ k, (M.Bin.node l r).str.size - r.str.size = k := ⟨_, rfl⟩
  have hk1 : (1 : Int) ≤ (k : Int) := by omega
  have hk2 : (k : Int) ≤ ((M.Bin.node l r).str.size : Int) := by omega
  have hk0 : (0 : Int) ≤ (k : Int) := by omega
  have hB : Hid (Below w.heap.size w w.drew) := (b0 w).drew
  rw [hk] at hE hl hr
  rw [← hl.out, ← hr.out]
  clear hz hzr hk hl hr
  generalize (M.Bin.node l r).str = S at *
  have hsl : ∀ W, (Instr.slice 9 (.string S) (some (.int .i64 1)) (some (.int .i64 (k : Int))) none).run Tryd.prog W = .ok (.string (S.extract 1 k)) W := fun W => slice_str S 1 k W (by omega) hk1 hk2
  go_enter Tryd.func48, Tryd.ntmps48
  go_wp2_with (go_at_call 80; refine hE.out.mono ?_; rintro e w' ⟨rfl, hw⟩; subst hw)
  go_region
  go_wp2
  go_ret2
  exact ⟨rfl, hB⟩

theorem str_inj {a b : M.Bin} (h : a.str = b.str) : a = b := (M.txt_inj (r := []) (s := []) (by rw [M.bs_inj h])).1
theorem okB_str {t : M.Bin} (h : t.n ≤ 23) : okB t.str = true := M.isBin_txt h
theorem okB_inv {s : ByteArray} (h : okB s = true) : ∃ t : M.Bin, s = t.str ∧ t.n ≤ 23 := by
  obtain ⟨t, h1, h2⟩ := M.isBin_inv h
  exact ⟨t, by rw [M.Bin.str, ← h1]; rfl, h2⟩
/-- the binary tree with a text -/
noncomputable def treeOf (s : ByteArray) : M.Bin := @Classical.epsilon M.Bin ⟨M.Bin.nil⟩ fun t => t.str = s
theorem treeOf_str (t : M.Bin) : treeOf t.str = t := str_inj (@Classical.epsilon_spec M.Bin (fun u => u.str = t.str) ⟨t, rfl⟩)

theorem cloneStr (s : ByteArray) (w : World) (h : s.size ≤ 1000000) : Calls Tryd.prog 50 #[.string s] w fun e w' => e = .returned (.string s) ∧ Hid (Below w.heap.size w w') := by
  have hC := Lib.hid (Tryd.stringslite_Clone s w (by omega))
  go_enter Tryd.func50, Tryd.ntmps50
  go_wp2_with (go_at_call 83; refine hC.out.mono ?_; rintro e w' ⟨rfl, hb⟩)
  go_ret
  exact ⟨rfl, hb⟩

/-- a part lies at a block, and nothing else of what was there has turned -/
def PartAt (w : World) (b : Nat) (a c : ByteArray) (W : World) : Prop := W.cell? ⟨b, 0, none⟩ = some (.string a) ∧ W.cell? ⟨b, 1, none⟩ = some (.string c) ∧ Below w.heap.size w W
theorem PartAt.up {w W W' : World} {b : Nat} {a c : ByteArray} (h : PartAt w b a c W) (hb : Below W.heap.size W W') : PartAt w b a c W' := ⟨cell_up hb h.1, cell_up hb h.2.1, btr h.2.2 hb⟩
theorem PartAt.new {w w2 : World} {t : TypeId} {a c : ByteArray} (h : Below w.heap.size w w2) : PartAt w w2.heap.size a c (w2.alloc (.cells #[.string a, .string c] t)) := ⟨by simp, by simp, bal h _⟩
theorem PartAt.drew {w W : World} {b : Nat} {a c : ByteArray} (h : PartAt w b a c W) : PartAt w b a c W.drew := ⟨h.1, h.2.1, h.2.2.drew⟩
end Go.Proofs.YtkeahaoeiiigeaaDoor
