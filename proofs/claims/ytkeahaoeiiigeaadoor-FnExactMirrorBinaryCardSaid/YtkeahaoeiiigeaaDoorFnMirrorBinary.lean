/- MirrorBinary, the program's and the model's. -/
import Derived.Test.YtkeahaoeiiigeaaDoorSides
namespace Go.Proofs.YtkeahaoeiiigeaaDoor
open Go.RowKit

noncomputable def F_MirrorBinary (s : ByteArray) : ByteArray × Int := if okB s then ((treeOf s).mirror.str, 0) else (⟨#[]⟩, 1)

/-- a part in a block of its own -/
def PartBx (w : World) (b : Nat) (a c : ByteArray) (W : World) : Prop := W.heap[b]? = some (.cells #[.string a, .string c] 45 (0, 0)) ∧ w.heap.size ≤ b ∧ Below w.heap.size w W
theorem PartBx.up {w W W' : World} {b : Nat} {a c : ByteArray} (h : PartBx w b a c W) (hb : Below W.heap.size W W') : PartBx w b a c W' := ⟨(hb.block b (Array.getElem?_eq_some_iff.1 h.1).1).trans h.1, h.2.1, btr h.2.2 hb⟩
theorem PartBx.new {w w2 : World} {a c : ByteArray} (h : Below w.heap.size w w2) : PartBx w w2.heap.size a c (w2.alloc (.cells #[.string a, .string c] 45)) := ⟨heap_alloc_new w2 _, h.size, bal h _⟩
theorem PartBx.cells {w W : World} {b : Nat} {a c : ByteArray} (h : PartBx w b a c W) : W.cell? ⟨b, 0, none⟩ = some (.string a) ∧ W.cell? ⟨b, 1, none⟩ = some (.string c) ∧ W.frozen? ⟨b, 0, none⟩ = false ∧ W.frozen? ⟨b, 1, none⟩ = false := by
  have := h.1
  refine ⟨?_, ?_, ?_, ?_⟩ <;> simp [World.cell?, World.frozen?, this]
theorem PartBx.set {w W : World} {b : Nat} {a c a' c' : ByteArray} (h : PartBx w b a c W) : PartBx w b a' c' ((W.setCell ⟨b, 0, none⟩ (.string a')).setCell ⟨b, 1, none⟩ (.string c')) := by
  refine ⟨?_, h.2.1, below_setCell (below_setCell h.2.2 h.2.1 _) h.2.1 _⟩
  simp [World.setCell, Array.getElem?_modify, h.1]
/-- what mirroredBinary must do with trees of at most f nodes -/
def MirB (p : Addr) (f : Nat) : Prop := ∀ (t : M.Bin) (w : World), t.n ≤ f → t.n ≤ 1000 → w.cell? ⟨0, 0, none⟩ = some (errV p) →
  Calls Tryd.prog 55 #[.string t.str] w fun e w' => e = .returned (.string t.mirror.str) ∧ Hid (Below w.heap.size w w')

theorem str_ne (t : M.Bin) : ¬ t.str.toList = [] := fun h => by
  rw [M.Bin.str, Lib.toList_data, M.bs_data] at h
  cases t <;> simp [M.Bin.txt] at h

set_option maxRecDepth 100000 in
set_option maxHeartbeats 4000000 in
theorem mirrorB (p : Addr) : ∀ f, MirB p f := by
  intro f
  induction f with
  | zero =>
    intro t w ht _ hc
    cases t with
    | node l r => simp only [M.Bin.n] at ht; omega
    | nil =>
      have HC := Lib.hid hc
      have hP := fun W h => Lib.hid (partOf p .nil W (by simp [M.Bin.n]) h)
      have hX := fun W => Lib.hid (partText_in ⟨#[]⟩ ⟨#[]⟩ W (by decide) (by decide))
      have hX2 : partText ⟨#[]⟩ ⟨#[]⟩ = M.Bin.nil.str := partText_sides .nil
      rw [hX2] at hX
      simp only [M.Bin.lef, M.Bin.rig] at hP
      show Calls _ _ _ _ fun e w' => e = .returned (.string M.Bin.nil.str) ∧ _
      clear hX2 hc
      generalize M.Bin.nil.str = S at *
      go_enter Tryd.func55, Tryd.ntmps55
      go_wp2_with (first | (go_at_call 49; refine (hP _ HC.out).out.mono ?_; rintro e w2 ⟨rfl, hb2⟩) | (go_at_call 53; refine (hX _).out.mono ?_; rintro e w3 ⟨rfl, hb3⟩))
      go_ret
      exact ⟨rfl, Lib.hid (btr (bal hb2.out _) hb3.out)⟩
  | succ f ih =>
    intro t w ht ht2 hc
    cases t with
    | nil => exact ih .nil w (by simp [M.Bin.n]) ht2 hc
    | node l r =>
      simp only [M.Bin.n] at ht ht2
      have HC := Lib.hid hc
      have hP := fun W h => Lib.hid (partOf p (.node l r) W (by simp only [M.Bin.n]; omega) h)
      have hX := fun W => Lib.hid (partText_in r.mirror.str l.mirror.str W (by rw [str_size, M.Bin.mirror_n]; omega) (by rw [str_size, M.Bin.mirror_n]; omega))
      rw [partText_node] at hX
      simp only [M.Bin.lef, M.Bin.rig] at hP
      have hl := str_ne l
      have hIl := fun W h => Lib.hid (ih l W (by omega) (by omega) h)
      have hIr := fun W h => Lib.hid (ih r W (by omega) (by omega) h)
      show Calls _ _ _ _ fun e w' => e = .returned (.string (M.Bin.node r.mirror l.mirror).str) ∧ _
      generalize (M.Bin.node r.mirror l.mirror).str = T at *
      generalize (M.Bin.node l r).str = S at *
      generalize l.mirror.str = ML at *
      generalize r.mirror.str = MR at *
      generalize l.str = SL at *
      generalize r.str = SR at *
      clear hc ih
      go_enter Tryd.func55, Tryd.ntmps55
      go_wp2_with (first | (go_at_call 49; refine (hP _ HC.out).out.mono ?_; rintro e w2 ⟨rfl, hb2⟩))
      have hP0 := PartBx.new (a := SL) (c := SR) hb2.out
      obtain ⟨b, hb⟩ : ∃ b, w2.heap.size = b := ⟨_, rfl⟩
      obtain ⟨W0, hW0⟩ : ∃ W0, w2.alloc (.cells #[.string SL, .string SR] 45) = W0 := ⟨_, rfl⟩
      rw [hb, hW0] at hP0
      rw [hb, hW0]
      have K0 : Hid (PartBx w b SL SR W0.drew) := ⟨hP0.1, hP0.2.1, hP0.2.2.drew⟩
      obtain ⟨c0, c1, f0, f1⟩ := K0.out.cells
      have HK : Hid (∀ W', Hid (PartBx w b SL SR W') → W'.cell? ⟨b, 0, none⟩ = some (.string SL) ∧ W'.cell? ⟨b, 1, none⟩ = some (.string SR) ∧ W'.frozen? ⟨b, 0, none⟩ = false ∧ W'.frozen? ⟨b, 1, none⟩ = false) := fun W' h => h.out.cells
      have HL : Hid (∀ W', Hid (PartBx w b SL SR W') → Calls Tryd.prog 55 #[.string SL] W' fun e w' => e = .returned (.string ML) ∧ Hid (PartBx w b SL SR w')) := fun W' h => (hIl W' (cell_up h.out.2.2 HC.out)).out.mono fun e w' ⟨he, hb'⟩ => ⟨he, h.out.up hb'.out⟩
      have HR : Hid (∀ W', Hid (PartBx w b SL SR W') → Calls Tryd.prog 55 #[.string SR] W' fun e w' => e = .returned (.string MR) ∧ Hid (PartBx w b SL SR w')) := fun W' h => (hIr W' (cell_up h.out.2.2 HC.out)).out.mono fun e w' ⟨he, hb'⟩ => ⟨he, h.out.up hb'.out⟩
      clear hW0 hb hb2 hP hIl hIr HC hP0
      go_region_with (first | (go_at_call_of 55 (Value.string SL); refine (HL.out _ (by assumption)).mono ?_; rintro e w7 ⟨rfl, h7⟩; obtain ⟨e0, e1, e2, e3⟩ := h7.out.cells) | (go_at_call 55; refine (HR.out _ (by assumption)).mono ?_; rintro e w8 ⟨rfl, h8⟩; obtain ⟨g0, g1, g2, g3⟩ := h8.out.cells))
      all_goals
        have hS := Lib.hid (h7.out.set (a' := MR) (c' := ML))
        obtain ⟨s0, s1, _, _⟩ := hS.out.cells
        clear e0 e1 e2 e3 g0 g1 g2 g3 h7 h8 K0 HK HL HR c0 c1 f0 f1
        go_wp2_with (go_at_call 53; refine (hX _).out.mono ?_; rintro e w9 ⟨rfl, hb9⟩)
        go_ret
        exact ⟨rfl, Lib.hid (btr hS.out.2.2 hb9.out)⟩

set_option maxRecDepth 100000 in
theorem impl_MirrorBinary : GivesS1 23 F_MirrorBinary := by
  intro p s w hs hc
  have hC := Lib.hid (codeB1 p s w hc)
  have HC := Lib.hid hc
  cases ho : okB s
  · rw [ho] at hC
    have hF : F_MirrorBinary s = (⟨#[]⟩, 1) := by rw [F_MirrorBinary, ho]; rfl
    rw [hF]
    clear hF ho hc
    go_enter Tryd.func23, Tryd.ntmps23
    go_wp2_with (go_at_call 47; refine hC.out.mono ?_; rintro e w' ⟨rfl, hb⟩)
    go_ret2
    exact ⟨rfl, hb⟩
  · obtain ⟨t, rfl, ht⟩ := okB_inv ho
    rw [ho] at hC
    have hF : F_MirrorBinary t.str = (t.mirror.str, 0) := by rw [F_MirrorBinary, ho, treeOf_str]; rfl
    rw [hF]
    have hM := fun W h => Lib.hid (mirrorB p t.n t W (Nat.le_refl _) (by omega) h)
    clear hF ho hc
    generalize t.mirror.str = R at *
    generalize t.str = S at *
    go_enter Tryd.func23, Tryd.ntmps23
    go_wp2_with (first | (go_at_call 47; refine hC.out.mono ?_; rintro e w1 ⟨rfl, hb1⟩) | (go_at_call 55; refine (hM _ (cell_up hb1.out HC.out)).out.mono ?_; rintro e w2 ⟨rfl, hb2⟩))
    go_ret2
    exact ⟨rfl, Lib.hid (btr hb1.out hb2.out)⟩

set_option maxRecDepth 100000 in
set_option maxHeartbeats 2000000 in
theorem l03Mirror : ∀ (f : Nat) (t : M.Bin) (w : World), t.n ≤ f → t.n ≤ 1000 → Calls Tryd.prog 54 #[.string t.str] w fun e w' => e = .returned (.string t.mirror.str) ∧ Hid (Below w.heap.size w w') := by
  intro f
  induction f with
  | zero =>
    intro t w ht _
    cases t with
    | node l r => simp only [M.Bin.n] at ht; omega
    | nil =>
      have hq : (M.Bin.nil.str.toList == [48]) = true := str_nil .nil
      show Calls _ _ _ _ fun e w' => e = .returned (.string M.Bin.nil.str) ∧ _
      generalize M.Bin.nil.str = S at *
      go_enter Tryd.func54, Tryd.ntmps54
      go_wp2
      go_ret
      exact ⟨rfl, b0 _⟩
  | succ f ih =>
    intro t w ht ht2
    cases t with
    | nil => exact ih .nil w (by simp [M.Bin.n]) ht2
    | node l r =>
      simp only [M.Bin.n] at ht ht2
      have hq : ((M.Bin.node l r).str.toList == [48]) = false := str_nil (.node l r)
      have hP := Lib.hid (l03Sides l r w (by omega))
      have hIl := fun W => Lib.hid (ih l W (by omega) (by omega))
      have hIr := fun W => Lib.hid (ih r W (by omega) (by omega))
      have hR : Hid ((M.Bin.node r.mirror l.mirror).str = ⟨#[49]⟩ ++ r.mirror.str ++ l.mirror.str) := by
        show _ = _
        show _ = M.bs [49] ++ M.bs r.mirror.txt ++ M.bs l.mirror.txt
        rw [M.bs_append, M.bs_append]
        rfl
      have hs1 : ¬ 9223372036854775807 < 1 + r.mirror.str.size := by rw [str_size, M.Bin.mirror_n]; omega
      have hs2 : ¬ 9223372036854775807 < 1 + r.mirror.str.size + l.mirror.str.size := by rw [str_size, str_size, M.Bin.mirror_n, M.Bin.mirror_n]; omega
      show Calls _ _ _ _ fun e w' => e = .returned (.string (M.Bin.node r.mirror l.mirror).str) ∧ _
      rw [hR.out]
      generalize (M.Bin.node l r).str = S at *
      generalize l.mirror.str = ML at *
      generalize r.mirror.str = MR at *
      generalize l.str = SL at *
      generalize r.str = SR at *
      clear ih hR
      go_enter Tryd.func54, Tryd.ntmps54
      go_wp2_with (first | (go_at_call 48; refine hP.out.mono ?_; rintro e w2 ⟨rfl, hb2⟩) | (go_at_call_of 54 (Value.string SR); refine (hIr _).out.mono ?_; rintro e w3 ⟨rfl, hb3⟩) | (go_at_call 54; refine (hIl _).out.mono ?_; rintro e w4 ⟨rfl, hb4⟩))
      go_ret
      exact ⟨rfl, Lib.hid (btr hb2.out (btr hb3.out hb4.out))⟩

set_option maxRecDepth 100000 in
theorem spec_MirrorBinary : GivesS1 22 F_MirrorBinary := by
  intro p s w hs _
  have hC := Lib.hid (l03Is s w hs)
  cases ho : okB s
  · rw [ho] at hC
    have hF : F_MirrorBinary s = (⟨#[]⟩, 1) := by rw [F_MirrorBinary, ho]; rfl
    rw [hF]
    clear hF ho
    go_enter Tryd.func22, Tryd.ntmps22
    go_wp2_with (go_at_call 46; refine hC.out.mono ?_; rintro e w' ⟨rfl, hw⟩; subst hw)
    go_ret2
    exact ⟨rfl, b0 _⟩
  · obtain ⟨t, rfl, ht⟩ := okB_inv ho
    rw [ho] at hC
    have hF : F_MirrorBinary t.str = (t.mirror.str, 0) := by rw [F_MirrorBinary, ho, treeOf_str]; rfl
    rw [hF]
    have hM := fun W => Lib.hid (l03Mirror t.n t W (Nat.le_refl _) (by omega))
    clear hF ho
    generalize t.mirror.str = R at *
    generalize t.str = S at *
    go_enter Tryd.func22, Tryd.ntmps22
    go_wp2_with (first | (go_at_call 46; refine hC.out.mono ?_; rintro e w' ⟨rfl, hw⟩; subst hw) | (go_at_call 54; refine (hM _).out.mono ?_; rintro e w2 ⟨rfl, hb2⟩))
    go_ret2
    exact ⟨rfl, hb2⟩
end Go.Proofs.YtkeahaoeiiigeaaDoor
