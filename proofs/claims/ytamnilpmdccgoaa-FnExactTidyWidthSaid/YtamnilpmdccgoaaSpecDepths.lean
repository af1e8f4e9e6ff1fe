/- l01Depths: the model's row of depths, out of its row of parents. -/
import Derived.Test.YtamnilpmdccgoaaDep
import Derived.Test.YtamnilpmdccgoaaGives
import Derived.Outline
namespace Go.Proofs.Ytamnilpmdccgoaa
open Go.RowKit

set_option maxHeartbeats 4000000 in
set_option maxRecDepth 100000 in
theorem l01Depths (A : Option Addr) (xs : List Int) (c : Nat) (w : World) (ht : Hid (M.isTree xs = true)) (h : Ints w w.heap.size A xs) :
    Calls Try.prog 86 #[.agg #[.slice A xs.length c]] w fun e w' => ∃ A' c' ds, e = .returned (.slice A' xs.length c') ∧ Hid (M.DepsOK xs ds) ∧ Own64 w' w.heap.size (.slice A' xs.length c') ds ∧ Below w.heap.size w w' := by
  have hlen := M.tree_len ht.out
  have hpos : 0 < xs.length := by omega
  have hmk := run_make_row' (P := Try.prog) 22 2 (.int .i64 0) 8 Try.underlying22 info64 rfl .i64 .i64 xs.length (by omega) (by omega)
  go_enter Try.func86, Try.ntmps86
  go_wp2
  obtain ⟨W, hW⟩ : ∃ W, W = w.alloc (.cells #[.slice A xs.length c] 28) := ⟨_, rfl⟩
  have hcell : W.cell? ⟨w.heap.size, 0, none⟩ = some (.slice A xs.length c) := by subst hW; simp
  have hIW := Lib.hid (h.al (.cells #[.slice A xs.length c] 28))
  have hBW := Lib.hid (bal (b0 w) (.cells #[.slice A xs.length c] 28))
  have hsz : W.heap.size = w.heap.size + 1 := by subst hW; simp
  rw [← hW] at hIW hBW ⊢
  have hK0 : Hid (Below W.heap.size W W.drew) := (Below.refl _ _).drew
  have hcell0 : W.drew.cell? ⟨w.heap.size, 0, none⟩ = some (.slice A xs.length c) := hcell
  have hP : ∀ W', Hid (Below W.heap.size W W') → Calls Try.prog 82 #[.agg #[.slice A xs.length c]] W' fun e w' => ∃ A' c' ps, e = .returned (.slice A' xs.length c') ∧ Hid (M.ParsOK xs ps) ∧ Hid (Own64 w' W.heap.size (.slice A' xs.length c') ps) ∧ Hid (Below W.heap.size W w') := fun W' hW' =>
    (l01Parents A xs c W' ht (hIW.out.be hW'.out)).mono fun e w' ⟨A', c', ps, he, h1, h2, h3⟩ => ⟨A', c', ps, he, h1, own_mono h2 hW'.out.size, btr hW'.out h3⟩
  have hN : ∀ W' B' v ps, Hid (Below W.heap.size W W') → Hid (Own64 W' B' v ps) → Calls Try.prog 69 #[.agg #[.slice A xs.length c]] W' fun e w' => e = .returned (.int .i64 xs.length) ∧ Hid (Own64 w' B' v ps) ∧ Hid (Below W.heap.size W w') := fun W' B' v ps hW' ho =>
    (l01N A xs.length c W').mono fun e w' ⟨he, hb⟩ => ⟨he, own_be ho.out hb, btr hW'.out hb⟩
  have hS : ∀ W', Hid (Below W.heap.size W W') → W'.cell? ⟨w.heap.size, 0, none⟩ = some (.slice A xs.length c) := fun W' hW' => cell_be hcell hW'.out
  have HP := Lib.hid hP
  have HN := Lib.hid hN
  have HS := Lib.hid hS
  clear hP hN hS hcell hW
  go_region_held3 (fun w' => w'.cell? ⟨w.heap.size, 0, none⟩ = some (.slice A xs.length c) ∧ Hid (Below W.heap.size W w')) (first | exact ⟨hcell0, hK0⟩ | exact ⟨HS.out _ (by assumption), by assumption⟩ | exact ⟨cell_al (HS.out _ (by assumption)) _, bal (Hid.out (by assumption)) _⟩) (first | (go_at_call 82; refine (HP.out _ (by assumption)).mono ?_; rintro e w7 ⟨A7, c7, ps, rfl, hps, ho7, hb7⟩) | (go_at_call 69; refine (HN.out _ _ _ _ (by assumption) (by assumption)).mono ?_; rintro e w8 ⟨rfl, ho8, hb8⟩))
  have hN7 := Lib.hid hmk
  clear hmk HP HN hK0 hcell0
  have z8 := hb8.out.size
  have Hstart := Lib.hid (own64_made (w := w8) (B := w8.heap.size) (n := xs.length) (Nat.le_refl _) (by unfold maxLen; omega))
  have ht8 : Hid (Two (w8.alloc (.cells (madeCells #[.int .i64 0] xs.length) 2)) W.heap.size (.slice (some ⟨w8.heap.size, 0, none⟩) xs.length xs.length) (.slice A7 xs.length c7) (List.replicate xs.length 0) ps) :=
    ⟨own_mono Hstart.out z8, ho8.out.alloc _, fun b e e2 => by
      have e1 : b = w8.heap.size := by injection e with e; exact e.symm
      have := (World.ownsRow.lt ho8.out b e2).2
      omega⟩
  have hb9 := Lib.hid (bal hb8.out (.cells (madeCells #[.int .i64 0] xs.length) 2))
  have hp0 := Lib.hid (M.partE_start ht.out)
  clear ho8 Hstart ho7
  go_wp2
  go_loopw [5] (fun i wr => ∃ (v : Nat) (ds : List Int), 1 ≤ v ∧ v ≤ xs.length ∧ i = .int .i64 v ∧ Hid (M.PartE xs v ds) ∧ Hid (∀ (i : Nat) (x : Int), ds[i]? = some x → 0 ≤ x ∧ x ≤ (v : Int)) ∧ Hid (Two wr W.heap.size (.slice (some ⟨w8.heap.size, 0, none⟩) xs.length xs.length) (.slice A7 xs.length c7) ds ps) ∧ Hid (Below W.heap.size W wr)) (fun i _ => xs.length - (intOf i).toNat)
  case atStart => exact ⟨1, _, by omega, by omega, rfl, hp0, fun i x hx => by have := List.eq_of_mem_replicate (List.mem_of_getElem? hx); omega, ht8, hb9⟩
  case round =>
    obtain ⟨v, ds, hv1, hv, rfl, hp, hbd, ht2, hbr⟩ := hrel
    clear hp0 ht8 hb9
    by_cases hlt : v < xs.length
    · obtain ⟨p, hpk⟩ := M.kid_has ht.out (by omega) hlt
      have hpb := M.kid_bounds ht.out hpk
      have hpv := hps.out.2.2 p v hpk
      obtain ⟨g2, rfl⟩ := ht2.out.symm.shape.2 (by omega)
      have gk := (own64_cell ht2.out.2.1 hps.out.1 hpv).1
      have hdl := hp.out.1
      obtain ⟨y, hy⟩ : ∃ y, ds[p]? = some y := ⟨_, List.getElem?_eq_getElem (by omega)⟩
      obtain ⟨z, hz⟩ : ∃ z, ds[v]? = some z := ⟨_, List.getElem?_eq_getElem (by omega)⟩
      have hyb := hbd.out _ _ hy
      have cy := (own64_cell ht2.out.1 hp.out.1 hy).1
      obtain ⟨c1, c2, _, _⟩ := own64_cell ht2.out.1 hp.out.1 hz
      have hstep := Lib.hid (M.partE_step ht.out hp.out (by omega) hlt hpk hy)
      have hbd2 : Hid (∀ (i : Nat) (x : Int), (ds.set v (y + 1))[i]? = some x → 0 ≤ x ∧ x ≤ ((v + 1 : Nat) : Int)) := fun i x hx => by
        rcases List.mem_or_eq_of_mem_set (List.mem_of_getElem? hx) with h1 | h1
        · obtain ⟨j, hj⟩ := List.getElem?_of_mem h1
          have := hbd.out j x hj; omega
        · omega
      have hset := Lib.hid (ht2.out.set hp.out.1 v (y + 1))
      have hy0 := hyb.1
      have hy1 := hyb.2
      have hpl : p < xs.length := by omega
      clear hpv hp hbd hyb hy hz ht2 hpb hdl
      go_wp2
      go_roundw
      case rel => exact ⟨v + 1, _, by omega, by omega, by go_num, hstep, hbd2, hset, below_setCell hbr.out z8 _⟩
      case measure => simp [intOf]; omega
    · obtain rfl : v = xs.length := by omega
      have hok := Lib.hid (M.partE_done ht.out hp.out)
      clear hp
      go_wp2
      go_ret
      exact ⟨_, _, ds, rfl, hok, own_mono ht2.out.1 (by omega), btr hBW.out hbr.out⟩
end Go.Proofs.Ytamnilpmdccgoaa
