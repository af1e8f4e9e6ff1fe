/- IsRule, the program's: a text of brackets and letters is looked through for a letter that another text lacks. -/
import Derived.Test.YtbdmmeoelagdcaaRuleMath
import Derived.Test.YtbdmmeoelagdcaaFnIsPattern
import Derived.Test.YtbdmmeoelagdcaaShelfR
import Derived.Lib.IndexAny
import Derived.Lib.OthersKept
import Derived.Deep.LoopGhost
namespace Go.Proofs.Ytbdmmeoelagdcaa
open Go.RowKit

/-- a box of two texts -/
theorem rule_cells (w : World) (l r : ByteArray) : (w.alloc (.cells #[.string l, .string r] 62)).cell? ⟨w.heap.size, 0, none⟩ = some (.string l) ∧ (w.alloc (.cells #[.string l, .string r] 62)).cell? ⟨w.heap.size, 1, none⟩ = some (.string r) :=
  ⟨by have := World.cell?_alloc_new w #[.string l, .string r] 62 0; rw [this]; rfl, by have := World.cell?_alloc_new w #[.string l, .string r] 62 1; rw [this]; rfl⟩
theorem cellR_be {w w' : World} {g k : Nat} {v : Value} (h : w.cell? ⟨g, k, none⟩ = some v) (hb : Below w.heap.size w w') : w'.cell? ⟨g, k, none⟩ = some v :=
  (hb.cell (p := ⟨g, k, none⟩) (World.block_lt_of_cell? _ _ h)).trans h

set_option maxHeartbeats 1000000 in
theorem isMissing (l : ByteArray) (g : Nat) (c : UInt8) (w : World) (hc : c.toNat < 128) (hg : Hid (w.cell? ⟨g, 0, none⟩ = some (.string l))) :
    Calls Try.prog 99 #[.int .i32 (c.toNat : Int), .pointer (some ⟨g, 0, none⟩)] w fun e w' => e = .returned (.bool (!l.data.toList.contains c)) ∧ w' = w := by
  have hR := Try.Rstrings_ContainsRune_ascii l (c.toNat : Int) w (by omega) (by omega)
  rw [show (c.toNat : Int).toNat.toUInt8 = c by simp, ← Lib.contains_iff_indexByte] at hR
  have HR := Lib.hid hR
  have cg := hg.out
  clear hR
  generalize l.data.toList.contains c = q at *
  generalize (c.toNat : Int) = z at *
  go_enter Try.func99, Try.ntmps99
  go_wp2_with fail
  refine HR.out.mono ?_
  rintro e w' ⟨rfl, hw⟩
  subst hw
  go_wp2
  go_ret
  exact ⟨rfl, rfl⟩

/-- what strings.indexFunc says of a text of brackets and letters -/
def anyTo (p : UInt8 → Bool) (l : List UInt8) (k : Nat) : Bool := (l.take k).any p
theorem anyTo_step {p : UInt8 → Bool} {l : List UInt8} {k : Nat} {c : UInt8} (h : l[k]? = some c) : anyTo p l (k + 1) = (anyTo p l k || p c) := by
  rw [anyTo, List.take_add_one, h, List.any_append]; simp [anyTo]

set_option maxHeartbeats 4000000 in
set_option maxRecDepth 100000 in
theorem idxMissing (l r : ByteArray) (g : Nat) (w : World) (hok : Hid (r.data.toList.all M.okByte = true)) (hg : Hid (w.cell? ⟨g, 0, none⟩ = some (.string l))) :
    Calls Try.prog 169 #[.string r, .func (.func 99) #[] #[.pointer (some ⟨g, 0, none⟩)], .bool true] w fun e w' => (∃ i : Int, e = .returned (.int .i64 i) ∧ Hid (decide (0 ≤ i) = r.data.toList.any fun c => !l.data.toList.contains c)) ∧ Below w.heap.size w w' := by
  have hL : Hid (r.data.toList.length = r.size) := (Lib.size_eq r).symm
  have hM := Lib.hid (fun c W h1 h2 => isMissing l g c W h1 h2)
  have hgl : g < w.heap.size := World.block_lt_of_cell? _ _ hg.out
  go_enter Try.func169, Try.ntmps169
  go_wp2
  go_loopg [] r.size (fun gf wx => ∃ pos : Nat, wx.heap[w.heap.size]? = some (.stringIter r pos) ∧ Below w.heap.size w wx ∧ Hid (anyTo (fun c => !l.data.toList.contains c) r.data.toList pos = false) ∧ pos ≤ r.size ∧ r.size ≤ pos + gf)
  case atStart => exact ⟨0, World.iter_heap w r 0, (Below.refl _ w).alloc (Nat.le_refl _) _, rfl, Nat.zero_le _, by omega⟩
  case round =>
    obtain ⟨pos, hit, hbw, hno, hpr, hfu⟩ := hrel
    by_cases hps : pos < r.size
    · obtain ⟨g', rfl⟩ : ∃ g', gk = g' + 1 := ⟨gk - 1, by omega⟩
      obtain ⟨c, hc⟩ : ∃ c, c = r[pos] := ⟨_, rfl⟩
      have hci : r.data.toList[pos]? = some c := by
        rw [hc]
        exact List.getElem?_eq_getElem (by rw [hL.out]; exact hps)
      have hcb := List.all_eq_true.1 hok.out c (List.mem_of_getElem? hci)
      have hc128 : c.toNat < 128 := by
        rcases M.ok_kind hcb with e | e | e
        · have := M.isL_iff.1 e; omega
        · rw [e]; decide
        · rw [e]; decide
      have hdec := decode_ascii r pos hps (by rw [← hc]; exact hc128)
      rw [← hc] at hdec
      have hnx : ∀ ty, (Instr.next (.pointer (some ⟨w.heap.size, 0, none⟩)) true ty).run Try.prog wr = _ := fun ty => Lib.run_next_any_at wr w.heap.size r pos ty hit hps
      rw [hdec] at hnx
      have hit2 := Lib.iterAt_heap wr w.heap.size r pos (pos + 1) hit
      have hbw2 := Lib.below_iterAt hbw (k := w.heap.size) (Nat.le_refl _) r (pos + 1)
      obtain ⟨W, hWd⟩ : ∃ W, wr.iterAt w.heap.size r (pos + 1) = W := ⟨_, rfl⟩
      rw [hWd] at hnx hit2 hbw2
      have hstep := anyTo_step (p := fun c => !l.data.toList.contains c) hci
      rw [hno.out, Bool.false_or] at hstep
      have cS := Lib.hid (hM.out c W hc128 (Lib.hid ((hbw2.cell (p := ⟨g, 0, none⟩) hgl).trans hg.out)))
      have hall : Hid ((!l.data.toList.contains c) = true → (r.data.toList.any fun c => !l.data.toList.contains c) = true) := fun h => List.any_eq_true.2 ⟨c, List.mem_of_getElem? hci, h⟩
      generalize (!l.data.toList.contains c) = q at *
      have Hstep := Lib.hid hstep
      clear hstep hdec hci hcb hc
      generalize (c.toNat : Int) = z at *
      cases q
      · go_wp2_with (go_at_call 99; refine cS.out.mono ?_; rintro e W9 ⟨rfl, hw⟩; subst hw)
        go_roundg g'
        case measure => omega
        case rel => exact ⟨pos + 1, hit2, hbw2, Hstep, by omega, by omega⟩
      · have hA := Lib.hid (hall.out rfl)
        go_wp2_with (go_at_call 99; refine cS.out.mono ?_; rintro e W9 ⟨rfl, hw⟩; subst hw)
        go_ret
        exact ⟨⟨_, rfl, by show _ = _; rw [hA.out]; exact decide_eq_true (by omega)⟩, hbw2⟩
    · have hend : ∀ ty, (Instr.next (.pointer (some ⟨w.heap.size, 0, none⟩)) true ty).run Try.prog wr = _ := fun ty => Lib.run_next_end_at wr w.heap.size r pos ty hit hps
      have hpe : pos = r.size := by omega
      have hA : Hid ((r.data.toList.any fun c => !l.data.toList.contains c) = false) := by
        show _ = _
        have := hno.out
        rw [anyTo, hpe, ← hL.out, List.take_length] at this
        exact this
      go_wp2
      go_ret
      exact ⟨⟨-1, rfl, by show _ = _; rw [hA.out]; rfl⟩, hbw⟩
end Go.Proofs.Ytbdmmeoelagdcaa
