/- Rotations of a part: the closures of rightAt and leftAt. -/
import Derived.Test.YtkeahaoeiiigeaaDoorRotIn
namespace Go.Proofs.YtkeahaoeiiigeaaDoor
open Go.RowKit

theorem partB_free {W : World} {b : Nat} {a c : ByteArray} (h : PartB b a c W) : W.frozen? ⟨b, 0, none⟩ = false ∧ W.frozen? ⟨b, 1, none⟩ = false := by
  unfold PartB at h
  refine ⟨?_, ?_⟩ <;> simp [World.frozen?, h]
theorem partB_set {W : World} {b : Nat} {a c a' c' : ByteArray} (h : PartB b a c W) : PartB b a' c' ((W.setCell ⟨b, 0, none⟩ (.string a')).setCell ⟨b, 1, none⟩ (.string c')) := by
  unfold PartB at h ⊢
  simp [World.setCell, Array.getElem?_modify, h]

def turnR : M.Bin → M.Bin → Option (M.Bin × M.Bin)
  | .nil, _ => none
  | .node x y, b => some (x, .node y b)
def turnL : M.Bin → M.Bin → Option (M.Bin × M.Bin)
  | _, .nil => none
  | a, .node x y => some (.node a x, y)
def tL : Option (M.Bin × M.Bin) → ByteArray
  | none => ⟨#[]⟩
  | some q => q.1.str
def tR : Option (M.Bin × M.Bin) → ByteArray
  | none => ⟨#[]⟩
  | some q => q.2.str

set_option maxRecDepth 100000 in
set_option maxHeartbeats 4000000 in
theorem turnRight (p : Addr) (a b : M.Bin) (W : World) (ha : a.n ≤ 1000) (hb : b.n ≤ 1000) (hc : W.cell? ⟨0, 0, none⟩ = some (errV p)) :
    Calls Tryd.prog 86 #[.agg #[.string a.str, .string b.str]] W fun e w' => e = .returned (.agg #[.string (tL (turnR a b)), .string (tR (turnR a b))]) ∧ Hid (Below W.heap.size W w') := by
  obtain ⟨X, hX⟩ : ∃ X, (W.alloc (.cells #[.string a.str, .string b.str] 45)).alloc (.cells #[.string ⟨#[]⟩, .string ⟨#[]⟩] 45) = X := ⟨_, rfl⟩
  have hXs : X.heap.size = W.heap.size + 1 + 1 := by rw [← hX]; simp
  have hBX : Hid (Below W.heap.size W X) := by rw [← hX]; exact bal (bal (b0 W) _) _
  have p1 : Hid (PartB W.heap.size a.str b.str X) := by
    rw [← hX]
    have h1 : PartB W.heap.size a.str b.str (W.alloc (.cells #[.string a.str, .string b.str] 45)) := heap_alloc_new W _
    exact h1.up (bal (b0 _) _)
  have p2 : Hid (PartB (W.heap.size + 1) ⟨#[]⟩ ⟨#[]⟩ X) := by
    rw [← hX]
    have h1 := heap_alloc_new (W.alloc (.cells #[.string a.str, .string b.str] 45)) (.cells #[.string ⟨#[]⟩, .string ⟨#[]⟩] 45)
    simp only [World.size_alloc] at h1
    exact h1
  have HC := Lib.hid (cell_up hBX.out hc)
  obtain ⟨k0, k1⟩ := p1.out.cells
  clear hc
  cases a with
  | nil =>
    have hP := fun W h => Lib.hid (partOf p .nil W (by simp [M.Bin.n]) h)
    simp only [M.Bin.lef, M.Bin.rig] at hP
    show Calls _ _ _ _ fun e w' => e = .returned (.agg #[.string ⟨#[]⟩, .string ⟨#[]⟩]) ∧ _
    generalize M.Bin.nil.str = S at *
    generalize b.str = SB at *
    go_enter Tryd.func86, Tryd.ntmps86
    go_wp2_with (go_at_call 49; refine (hP _ HC.out).out.mono ?_; rintro e w2 ⟨rfl, hb2⟩; have hB3 : Hid (Below X.heap.size X (w2.alloc (.cells #[.string ⟨#[]⟩, .string ⟨#[]⟩] 45))) := bal hb2.out _; have P2 := Lib.hid (p2.out.up hB3.out); obtain ⟨m0, m1⟩ := P2.out.cells; obtain ⟨m2, m3⟩ := partB_free P2.out; obtain ⟨m4, m5⟩ := (p2.out.up hb2.out).cells; obtain ⟨m6, m7⟩ := partB_free (p2.out.up hb2.out); have hne : W.heap.size + 1 ≠ w2.heap.size := by { have := hb2.out.size; omega }; have hlt : W.heap.size + 1 < w2.heap.size := by { have := hb2.out.size; omega })
    have hs := Lib.hid ((partB_set (a' := ⟨#[]⟩) (c' := ⟨#[]⟩) (p2.out.up hb2.out)).up (bal (b0 _) (.cells #[.string ⟨#[]⟩, .string ⟨#[]⟩] 45)))
    obtain ⟨s0, s1⟩ := hs.out.cells
    have hfin : Below W.heap.size W (((w2.setCell ⟨W.heap.size + 1, 0, none⟩ (.string ⟨#[]⟩)).setCell ⟨W.heap.size + 1, 1, none⟩ (.string ⟨#[]⟩)).alloc (.cells #[.string ⟨#[]⟩, .string ⟨#[]⟩] 45)) := bal (below_setCell (below_setCell (btr hBX.out hb2.out) (by omega) _) (by omega) _) _
    refine bodyPost_ret (v := .agg #[.string ⟨#[]⟩, .string ⟨#[]⟩]) (by simp [results, Tryd.results86, go_sem, s0, s1]) rfl ⟨rfl, hfin⟩
  | node x y =>
    have hP := fun W h => Lib.hid (partOf p (.node x y) W (by omega) h)
    simp only [M.Bin.lef, M.Bin.rig] at hP
    have hl := str_no x
    simp only [M.Bin.n] at ha
    have hT := fun W => Lib.hid (partText_in y.str b.str W (by rw [str_size]; omega) (by rw [str_size]; omega))
    rw [partText_node] at hT
    show Calls _ _ _ _ fun e w' => e = .returned (.agg #[.string x.str, .string (M.Bin.node y b).str]) ∧ _
    generalize (M.Bin.node y b).str = ST at *
    generalize (M.Bin.node x y).str = S at *
    generalize x.str = SX at *
    generalize y.str = SY at *
    generalize b.str = SB at *
    go_enter Tryd.func86, Tryd.ntmps86
    go_wp2_with (go_at_call 49; refine (hP _ HC.out).out.mono ?_; rintro e w2 ⟨rfl, hb2⟩; obtain ⟨X3, hX3⟩ : ∃ X3, w2.alloc (.cells #[.string SX, .string SY] 45) = X3 := ⟨_, rfl⟩; have hB3 : Hid (Below X.heap.size X X3) := by { rw [← hX3]; exact bal hb2.out _ }; have P1 := Lib.hid (p1.out.up hB3.out); have P2 := Lib.hid (p2.out.up hB3.out); have P3 : Hid (PartB w2.heap.size SX SY X3) := by { rw [← hX3]; exact heap_alloc_new w2 _ }; obtain ⟨l0, l1⟩ := P3.out.cells)
    obtain ⟨q, hq⟩ : ∃ q, w2.heap.size = q := ⟨_, rfl⟩
    rw [hq] at P3 l0 l1 ⊢
    obtain ⟨d0, d1⟩ := (show PartB q SX SY X3.drew from P3.out).cells
    obtain ⟨d2, d3⟩ := (show PartB W.heap.size S SB X3.drew from P1.out).cells
    obtain ⟨d4, d5⟩ := partB_free (show PartB (W.heap.size + 1) ⟨#[]⟩ ⟨#[]⟩ X3.drew from P2.out)
    obtain ⟨d6, d7⟩ := (show PartB (W.heap.size + 1) ⟨#[]⟩ ⟨#[]⟩ X3.drew from P2.out).cells
    have hBd : Hid (Below W.heap.size W X3.drew) := (btr hBX.out hB3.out).drew
    have K1 : Hid (PartB W.heap.size S SB X3.drew) := P1.out
    have K2 : Hid (PartB (W.heap.size + 1) ⟨#[]⟩ ⟨#[]⟩ X3.drew) := P2.out
    have K3 : Hid (PartB q SX SY X3.drew) := P3.out
    clear hX3 hb2 hB3 P1 P2 P3 l0 l1 hX p1 p2 HC hP hq k0 k1
    go_region_with (go_at_call 53; refine (hT _).out.mono ?_; rintro e w5 ⟨rfl, hb5⟩; obtain ⟨n0, n1⟩ := (K3.out.up hb5.out).cells; obtain ⟨n2, n3⟩ := (K1.out.up hb5.out).cells; have K5 := Lib.hid (K2.out.up hb5.out); obtain ⟨n4, n5⟩ := partB_free K5.out; obtain ⟨n6, n7⟩ := K5.out.cells)
    all_goals
      have hs := Lib.hid (partB_set (a' := SX) (c' := ST) K5.out)
      obtain ⟨s0, s1⟩ := hs.out.cells
      have hfin : Below W.heap.size W ((w5.setCell ⟨W.heap.size + 1, 0, none⟩ (.string SX)).setCell ⟨W.heap.size + 1, 1, none⟩ (.string ST)) := below_setCell (below_setCell (btr hBd.out hb5.out) (by omega) _) (by omega) _
      clear d0 d1 d2 d3 d4 d5 d6 d7 n0 n1 n2 n3 n4 n5 n6 n7 K1 K2 K3 K5 hT
      go_wp2
      refine bodyPost_ret (v := .agg #[.string SX, .string ST]) (by simp [results, Tryd.results86, go_sem, s0, s1]) rfl ⟨rfl, hfin⟩
end Go.Proofs.YtkeahaoeiiigeaaDoor
