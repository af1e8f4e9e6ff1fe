/- the model's subtree. -/
import Derived.Test.YtdgcjkgbglofbaaNodes
import Derived.Test.YtdgcjkgbglofbaaClone
import Derived.Test.YtdgcjkgbglofbaaGives
import Derived.Laws.AppendOwnNone
import Derived.WalkSpells
import Derived.RangeFuncRecord
namespace Go.Proofs.Ytdgcjkgbglofbaa
open Go.RowKit

theorem ints_sub {w : World} {B b off : Nat} {xs : List Int} (h : Ints w B (some ⟨b, off, none⟩) xs) (v m : Nat) : Ints w B (some ⟨b, off + v, none⟩) ((xs.drop v).take m) := fun hpos => by
  have hl : 0 < xs.length := by simp only [List.length_take, List.length_drop] at hpos; omega
  obtain ⟨b', off', e, hb, hc⟩ := h hl
  injection e with e
  injection e with e1 e2
  subst e1
  subst e2
  refine ⟨b, off + v, rfl, hb, fun j x hj => ?_⟩
  rw [List.getElem?_take] at hj
  split at hj
  · rw [List.getElem?_drop] at hj
    rw [Nat.add_assoc]
    exact hc _ _ hj
  · cases hj

set_option maxHeartbeats 1000000 in
set_option maxRecDepth 100000 in
theorem l01Subtree (A : Option Addr) (xs : List Int) (c v E : Nat) (w : World) (hx : xs.length ≤ 24) (hcl : xs.length ≤ c) (ht : Hid (M.isTree xs = true)) (hv : v < xs.length) (hE : Hid (v + M.span 1 (xs.drop v) = E)) (h : Ints w w.heap.size A xs) :
    Calls Try.prog 210 #[.agg #[.slice A xs.length c], .int .i64 v] w fun e w' => ∃ A' c', e = .returned (.agg #[.slice A' (E - v) c']) ∧ Own64 w' w.heap.size (.slice A' (E - v) c') (M.sub xs v) ∧ Below w.heap.size w w' := by
  obtain ⟨b, off, rfl, hbB, hcells⟩ := h (by omega)
  have Hh := Lib.hid h
  have hok := Lib.hid (M.tree_ok ht.out hv)
  have hEn := M.end_le (xs := xs) (v := v) (by omega)
  rw [hE.out] at hEn
  have hvE0 : v ≤ E := by have := hE.out; omega
  have hsl : Hid ((M.sub xs v).length = E - v) := by show _ = _; rw [M.sub_length]; have := hE.out; omega
  clear hcells h
  go_enter Try.func210, Try.ntmps210
  go_wp2
  obtain ⟨W, hW⟩ : ∃ W, W = (w.alloc (.cells #[.slice (some ⟨b, off, none⟩) xs.length c] 26)).alloc (.cells #[.slice none 0 0] 26) := ⟨_, rfl⟩
  have hcell : W.cell? ⟨w.heap.size, 0, none⟩ = some (.slice (some ⟨b, off, none⟩) xs.length c) := by subst hW; exact cell_al (by simp) _
  have hres : W.heap[w.heap.size + 1]? = some (.cells #[.slice none 0 0] 26 (0, 0)) := by subst hW; have := World.alloc_heap_new (w.alloc (.cells #[.slice (some ⟨b, off, none⟩) xs.length c] 26)) (.cells #[.slice none 0 0] 26); simpa using this
  have hIW := Lib.hid (((Hh.out.al (.cells #[.slice (some ⟨b, off, none⟩) xs.length c] 26)).al (.cells #[.slice none 0 0] 26)))
  have hBW := bal (bal (b0 w) (.cells #[.slice (some ⟨b, off, none⟩) xs.length c] 26)) (.cells #[.slice none 0 0] 26)
  rw [← hW] at hIW hBW ⊢
  have HBW := Lib.hid hBW
  have hWs : w.heap.size + 1 < W.heap.size := lt_of_block hres
  have Hres := Lib.hid hres
  clear hW hBW hres
  have hvE : (v : Int) ≤ (E : Int) := by omega
  have hEc : (E : Int) ≤ (c : Int) := by omega
  have hv0 : (0 : Int) ≤ (v : Int) := by omega
  have hvc : ¬ c = v := by omega
  have hK0 : Hid (Below (w.heap.size + 1) W W.drew) := (Below.refl _ _).drew
  have hK1 : Hid (Below W.heap.size W W.drew) := (Below.refl _ _).drew
  have hcell0 : W.drew.cell? ⟨w.heap.size, 0, none⟩ = some (.slice (some ⟨b, off, none⟩) xs.length c) := hcell
  have hEnd : ∀ W', Hid (Below W.heap.size W W') → Calls Try.prog 170 #[.agg #[.slice (some ⟨b, off, none⟩) xs.length c], .int .i64 v] W' fun e w' => e = .returned (.int .i64 E) ∧ Hid (Below W.heap.size W w') := fun W' hW' =>
    (l01End _ xs c v E W' hE hx hok (hIW.out.be hW'.out)).mono fun e w' ⟨he, hb⟩ => ⟨he, btr hW'.out hb⟩
  have HEnd := Lib.hid hEnd
  have hMake : ∀ W', Hid (Below W.heap.size W W') → Calls Try.prog 271 #[.slice (some ⟨b, off + v, none⟩) (E - v) (c - v)] W' fun e w' => ∃ A' c', e = .returned (.agg #[.slice A' (E - v) c']) ∧ Hid (Own64 w' W.heap.size (.slice A' (E - v) c') (M.sub xs v)) ∧ Hid (Below W.heap.size W w') := fun W' hW' => by
    have hi : Hid (Ints W' W'.heap.size (some ⟨b, off + v, none⟩) (M.sub xs v)) := (ints_sub (hIW.out.be hW'.out) v (M.span 1 (xs.drop v)))
    exact (l01Make _ (M.sub xs v) (E - v) (c - v) W' hsl (by omega) (fun e => by cases e) hi).mono fun e w' ⟨A', c', he, ho, hb⟩ => ⟨A', c', he, own_mono ho hW'.out.size, btr hW'.out hb⟩
  have HMake := Lib.hid hMake
  have hR : ∀ W', Hid (Below W.heap.size W W') → W'.cell? ⟨w.heap.size + 1, 0, none⟩ = some (.slice none 0 0) ∧ W'.frozen? ⟨w.heap.size + 1, 0, none⟩ = false := fun W' hW' => by
    have h1 := (hW'.out.block (w.heap.size + 1) hWs).trans Hres.out
    exact ⟨cell_of_one h1, free_of_one h1⟩
  have HR := Lib.hid hR
  have hS : ∀ W', Hid (Below W.heap.size W W') → W'.cell? ⟨w.heap.size, 0, none⟩ = some (.slice (some ⟨b, off, none⟩) xs.length c) ∧ Hid (Below (w.heap.size + 1) W W') := fun W' hW' => ⟨cell_be hcell hW'.out, hW'.out.mono (by omega)⟩
  have HS := Lib.hid hS
  clear hMake hEnd hR hS hcell
  go_region_held3 (fun w' => w'.cell? ⟨w.heap.size, 0, none⟩ = some (.slice (some ⟨b, off, none⟩) xs.length c) ∧ Hid (Below (w.heap.size + 1) W w')) (first | exact ⟨hcell0, hK0⟩ | exact HS.out _ (by assumption) | exact ⟨(World.cell?_setCell_other _ _ _ _ (by simp)).trans (HS.out _ (by assumption)).1, below_setCell (HS.out _ (by assumption)).2.out (Nat.le_refl _) _⟩) (first | (go_at_call 170; refine (HEnd.out _ (by assumption)).mono ?_; rintro e w7 ⟨rfl, hb7⟩) | (go_at_call 271; refine (HMake.out _ (by assumption)).mono ?_; rintro e w8 ⟨A8, c8, rfl, ho8, hb8⟩; obtain ⟨hr8, hf8⟩ := HR.out _ hb8))
  clear HS HR HMake HEnd hcell0 hK0 hK1
  go_wp2
  refine bodyPost_ret (v := .agg #[.slice A8 (E - v) c8]) (by simp [results, Try.results210, go_sem, hr8]) rfl ?_
  exact ⟨A8, c8, rfl, own_mono (own_far ho8.out hWs _) (by omega), below_setCell (btr HBW.out hb8.out) (by omega) _⟩
end Go.Proofs.Ytdgcjkgbglofbaa
