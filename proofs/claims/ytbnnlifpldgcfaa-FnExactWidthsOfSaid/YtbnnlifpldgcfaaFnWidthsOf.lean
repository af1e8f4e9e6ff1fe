/- WidthsOf, the program's and the model's: for each depth the number of nodes, or a code. -/
import Derived.Test.YtbnnlifpldgcfaaFnHeightOf
import Derived.Test.YtbnnlifpldgcfaaFnCountsOfTree
import Derived.Test.YtbnnlifpldgcfaaTwo
import Derived.Deep.RegionHeld3
import Derived.Deep.DeepCutAuto
namespace Go.Proofs.Ytbnnlifpldgcfaa
open Go.RowKit

namespace M
noncomputable def widths (xs : List Int) : List Int := rowN (depths xs) ((maxTo (depths xs) xs.length).toNat + 1) xs.length
theorem deps_max {xs ds : List Int} (ht : isTree xs = true) (h : DepsOK xs ds) : 0 ≤ maxTo ds xs.length ∧ maxTo ds xs.length ≤ 24 := by
  have hl := (tree_len ht).2
  refine ⟨maxTo_pos _ _, maxTo_le (by omega) (fun x hx => ?_) _⟩
  obtain ⟨i, hi⟩ := List.getElem?_of_mem hx
  have h1 := depsOK_le ht h (i + 1) i x (by omega) hi
  have h2 := (List.getElem?_eq_some_iff.1 hi).1
  have h3 := h.1
  omega
theorem depths_max {xs : List Int} (ht : isTree xs = true) : maxTo (depths xs) xs.length ≤ 24 := by
  by_cases h : ∃ ds, DepsOK xs ds
  · obtain ⟨ds, hd⟩ := h
    rw [depths_eq ht hd]; exact (deps_max ht hd).2
  · rw [depths, dif_neg h]
    exact maxTo_le (by omega) (fun x hx => by cases hx) _
end M

noncomputable def F_WidthsOf (xs : List Int) : List Int × Int := M.cond xs (M.widths xs)
theorem F_WidthsOf_len (xs : List Int) : (F_WidthsOf xs).1.length ≤ 1048576 := by
  cases ht : M.isTree xs
  · rw [F_WidthsOf, M.cond_no ht]; simp
  · rw [F_WidthsOf, M.cond_yes ht]
    show (M.rowN _ _ _).length ≤ _
    rw [M.rowN_len]
    have := M.depths_max ht
    omega

/-- a row just made beside an elder one -/
theorem two_made {w : World} {B m c k : Nat} {A : Option Addr} {zs : List Int} (h : Own64 w B (.slice A m c) zs) (hB : B ≤ w.heap.size) (hk : k ≤ 1000) :
    Hid (Two (w.alloc (.cells (madeCells #[.int .i64 0] k) 2)) B (.slice (some ⟨w.heap.size, 0, none⟩) k k) (.slice A m c) (List.replicate k 0) zs) :=
  ⟨own_mono (own64_made (Nat.le_refl _) (by unfold maxLen; omega)) hB, h.alloc _, fun b e e2 => by
    have h1 := (World.ownsRow.lt h b e2).2
    injection e with e
    simp at e
    omega⟩
theorem two_made' {w w' : World} {B m c k : Nat} {A : Option Addr} {zs : List Int} (h : Own64 w' (w.alloc (.cells (madeCells #[.int .i64 0] k) 2)).heap.size (.slice A m c) zs) (hb : Below (w.alloc (.cells (madeCells #[.int .i64 0] k) 2)).heap.size (w.alloc (.cells (madeCells #[.int .i64 0] k) 2)) w') (hB : B ≤ w.heap.size) (hk : k ≤ 1000) :
    Hid (Two w' B (.slice (some ⟨w.heap.size, 0, none⟩) k k) (.slice A m c) (List.replicate k 0) zs) :=
  ⟨own_mono (own_be (own64_made (w := w) (B := w.heap.size) (Nat.le_refl _) (by unfold maxLen; omega)) hb) hB, own_mono h (by simp; omega), fun b e e2 => by
    have h1 := (World.ownsRow.lt h b e2).1
    injection e with e
    simp at e h1
    omega⟩

/-- a loop's step that counts one more depth -/
theorem width_step {xs ds : List Int} {N k d : Nat} (hd : M.DepsOK xs ds) (hx : ds[k]? = some (d : Int)) (hN : M.maxTo ds xs.length = (N : Int)) : d < N + 1 := by
  have hk := (List.getElem?_eq_some_iff.1 hx).1
  have := M.maxTo_ge hx xs.length (by rw [← hd.1]; exact hk)
  omega

set_option maxHeartbeats 2000000 in
set_option maxRecDepth 100000 in
theorem impl_WidthsOf : GivesList 27 F_WidthsOf := by
  intro A xs c w hx hcc h
  have hc := codeOf0 A xs c (w.alloc (.cells #[.slice A xs.length c] 24)) (by omega) (h.al _) _ rfl
  cases ht : M.isTree xs
  · rw [ht] at hc
    have HC := Lib.hid hc
    have hF : F_WidthsOf xs = ([], 1) := M.cond_no ht
    rw [hF]
    clear hc ht hF
    go_enter Try.func27, Try.ntmps27
    go_wp2_with fail
    refine HC.out.mono ?_
    rintro e w1 ⟨rfl, hb⟩
    have hB := btr (bal (b0 w) _) hb
    go_wp2
    go_ret2
    exact ⟨none, 0, rfl, own64_nil _ _, hB⟩
  · rw [ht] at hc
    have HC := Lib.hid hc
    have hF : F_WidthsOf xs = (M.widths xs, 0) := M.cond_yes ht
    have Ht := Lib.hid ht
    have hl := M.tree_len ht
    obtain ⟨n, hn⟩ : ∃ n, Hid (xs.length = n) := ⟨_, rfl⟩
    have hn24 : n ≤ 24 := by have := hn.out; omega
    rw [hF]
    clear hc ht hF
    go_enter Try.func27, Try.ntmps27
    go_wp2_with fail
    refine HC.out.mono ?_
    rintro e w1 ⟨rfl, hb⟩
    have hB := Lib.hid (btr (bal (b0 w) _) hb)
    have hcell : w1.cell? ⟨w.heap.size, 0, none⟩ = some (.slice A xs.length c) := cell_be (by simp) hb
    have h1 := Lib.hid ((h.al _).be hb)
    clear hb h HC
    go_wp2_with fail
    refine ((callsIn_wide (n := 5)).1 (depthsIn_in A xs c _ hcc.1 hcc.2 Ht h1.out)).mono ?_
    rintro e w2 ⟨A', c', ds, rfl, hok, ho, hb⟩
    have hB2 := Lib.hid (btr hB.out hb)
    have hle := M.depsOK_le Ht.out hok.out
    have h0 : Hid (∀ x ∈ ds, (0 : Int) ≤ x) := fun x hm => by
      obtain ⟨i, hi⟩ := List.getElem?_of_mem hm
      exact (hle (i + 1) i x (Nat.lt_succ_self _) hi).1
    have hdl := hok.out.1
    have Hdl := Lib.hid (hdl.trans hn.out)
    have hI := Lib.hid (ints_of_own64 ho)
    have hmx := M.deps_max Ht.out hok.out
    obtain ⟨N, hN⟩ : ∃ N : Nat, M.maxTo ds xs.length = (N : Int) := ⟨(M.maxTo ds xs.length).toNat, by omega⟩
    have hN24 : N ≤ 24 := by omega
    have HN := Lib.hid hN
    have HS := slicesMax A' ds c' w2 (by omega) (by omega) h0 hI.out (N : Int) (by show _ = _; rw [hdl]; exact hN)
    rw [hdl, hn.out] at HS
    have HS := Lib.hid HS
    have hwd : Hid (M.widths xs = M.rowN ds (N + 1) n) := by show _ = _; rw [M.widths, M.depths_eq Ht.out hok.out, hN, hn.out]; rfl
    have hmk := run_make_row' (P := Try.prog) 22 2 (.int .i64 0) 8 Try.underlying22 info64 rfl .i64 .i64 (N + 1) (by omega) (by omega)
    have ecast : ((N + 1 : Nat) : Int) = (N : Int) + 1 := by omega
    rw [ecast] at hmk
    rw [hn.out]
    clear ho hb hle hdl hcell h0 ecast hmx hN
    go_wp2_with fail
    refine HS.out.mono ?_
    rintro e w' ⟨rfl, rfl⟩
    have Hst : Hid (Own64 (w2.alloc (.cells (madeCells #[.int .i64 0] (N + 1)) 2)) w2.heap.size (.slice (some ⟨w2.heap.size, 0, none⟩) (N + 1) (N + 1)) (M.rowN ds (N + 1) 0)) := by
      show Own64 _ _ _ _
      rw [M.rowN_zero]; exact own64_made (Nat.le_refl _) (by unfold maxLen; omega)
    have hb0 := Lib.hid (bal (b0 w2) (.cells (madeCells #[.int .i64 0] (N + 1)) 2))
    clear HS
    go_wp2
    clear hmk
    go_loopw [8, 23] (fun _ i wr => ∃ k : Nat, k ≤ n ∧ i = .int .i64 k ∧ Hid (Own64 wr w2.heap.size (.slice (some ⟨w2.heap.size, 0, none⟩) (N + 1) (N + 1)) (M.rowN ds (N + 1) k)) ∧ Hid (Below w2.heap.size w2 wr)) (fun _ i _ => n - (intOf i).toNat)
    case atStart => exact ⟨0, Nat.zero_le _, rfl, Hst, hb0⟩
    case round =>
      obtain ⟨k, hk, rfl, ho, hbr⟩ := hrel
      clear Hst hb0
      by_cases hlt : k < n
      · obtain ⟨b, off, x, rfl, hbB, g, hX⟩ := (hI.out.be hbr.out).at_ (k := k) (by rw [Hdl.out]; exact hlt)
        have hx0 := M.depsOK_le Ht.out hok.out (k + 1) k x (by omega) hX.out
        obtain ⟨d, rfl⟩ := Int.eq_ofNat_of_zero_le hx0.1
        have hd0 : d < N + 1 := width_step hok.out hX.out HN.out
        have hcl := M.countTo_le ds d k
        have hs := Lib.hid (M.rowN_step (N := N + 1) hX.out)
        obtain ⟨c1, c2, _, _⟩ := own64_cell ho.out (M.rowN_len _ _ _) (M.rowN_at ds hd0)
        have hset := own64_set ho.out (M.rowN_len _ _ _) d ((M.countTo ds k d : Int) + 1)
        rw [hs.out] at hset
        have hset := Lib.hid hset
        generalize M.countTo ds k d = y at *
        have hy1 : (y : Int) ≤ 1000 := by omega
        clear hx0 hcl hs ho
        go_wp2
        go_roundw
        case rel => exact ⟨k + 1, by omega, by go_num, hset, below_setCell hbr.out (Nat.le_refl _) _⟩
        case measure => simp [intOf]; omega
      · obtain rfl : k = n := by omega
        have z2 := hB2.out.size
        go_wp2
        go_ret2
        rw [hwd.out, M.rowN_len]
        exact ⟨_, _, rfl, own_mono ho.out z2, btr hB2.out hbr.out⟩

set_option maxHeartbeats 4000000 in
set_option maxRecDepth 100000 in
theorem spec_WidthsOf : GivesList 25 F_WidthsOf := by
  intro A xs c w hx hcc h
  have hc := specIs A xs c (w.alloc (.cells #[.slice A xs.length c] 24)) (by omega) (h.al _)
  cases ht : M.isTree xs
  · rw [ht] at hc
    have HC := Lib.hid hc
    have hF : F_WidthsOf xs = ([], 1) := M.cond_no ht
    rw [hF]
    clear hc ht hF
    go_enter Try.func25, Try.ntmps25
    go_wp2_with fail
    refine HC.out.mono ?_
    rintro e w1 ⟨rfl, hb⟩
    have hB := btr (bal (b0 w) _) hb
    go_wp2
    go_ret2
    exact ⟨none, 0, rfl, own64_nil _ _, hB⟩
  · rw [ht] at hc
    have HC := Lib.hid hc
    have hF : F_WidthsOf xs = (M.widths xs, 0) := M.cond_yes ht
    have Ht := Lib.hid ht
    have hl := M.tree_len ht
    obtain ⟨n, hn⟩ : ∃ n, Hid (xs.length = n) := ⟨_, rfl⟩
    have hn24 : n ≤ 24 := by have := hn.out; omega
    have hmx := M.depths_max ht
    have hm0 := M.maxTo_pos (M.depths xs) xs.length
    obtain ⟨N, hN⟩ : ∃ N : Nat, Hid (M.maxTo (M.depths xs) xs.length = (N : Int)) := ⟨(M.maxTo (M.depths xs) xs.length).toNat, by show _ = _; omega⟩
    have hN24 : N ≤ 24 := by have := hN.out; omega
    have hmk := run_make_row' (P := Try.prog) 22 2 (.int .i64 0) 8 Try.underlying22 info64 rfl .i64 .i64 (N + 1) (by omega) (by omega)
    have ecast : ((N + 1 : Nat) : Int) = (N : Int) + 1 := by omega
    rw [ecast] at hmk
    have ewr : IntKind.i64.wrap ((N : Int) + 1) = (N : Int) + 1 := IntWalk.i64_in _ (by omega)
    rw [hF]
    clear hc ht hF hmx hm0 ecast
    go_enter Try.func25, Try.ntmps25
    go_wp2_with fail
    refine HC.out.mono ?_
    rintro e w1 ⟨rfl, hb⟩
    have hB := Lib.hid (btr (bal (b0 w) _) hb)
    have hcell : w1.cell? ⟨w.heap.size, 0, none⟩ = some (.slice A xs.length c) := cell_be (by simp) hb
    have Hc := Lib.hid hcell
    have h1 := Lib.hid ((h.al _).be hb)
    have HD : Hid (∀ W, Hid (Below w1.heap.size w1 W) → Calls Try.prog 55 #[.agg #[.slice A xs.length c]] W fun e w' => ∃ A' c' ds, e = .returned (.slice A' xs.length c') ∧ Hid (M.DepsOK xs ds) ∧ Hid (Own64 w' W.heap.size (.slice A' xs.length c') ds) ∧ Hid (Below W.heap.size W w')) := fun W hW =>
      (l01Depths A xs c W Ht (h1.out.be hW.out)).mono fun e w' ⟨A', c', ds, a, b, o, d⟩ => ⟨A', c', ds, a, b, o, d⟩
    have HH : Hid (∀ W, Hid (Below w1.heap.size w1 W) → Calls Try.prog 56 #[.agg #[.slice A xs.length c]] W fun e w' => e = .returned (.int .i64 (N : Int)) ∧ Hid (Below W.heap.size W w')) := fun W hW => by
      have := l01Height A xs c W Ht (h1.out.be hW.out)
      rw [hN.out] at this
      exact this
    clear hb h HC
    go_wp2
    go_cut [4, 5] (fun s4 s5 wx => ∃ (A' : Option Addr) (c' g : Nat) (ds : List Int), s4 = .slice A' xs.length c' ∧ s5 = .slice (some ⟨g, 0, none⟩) (N + 1) (N + 1) ∧ Hid (M.DepsOK xs ds) ∧ Hid (Two wx w1.heap.size (.slice (some ⟨g, 0, none⟩) (N + 1) (N + 1)) (.slice A' xs.length c') (List.replicate (N + 1) 0) ds) ∧ Hid (Below w1.heap.size w1 wx))
    case first =>
      have K0 : Hid (Below w1.heap.size w1 w1.drew) := (Below.refl _ _).drew
      have cA0 : w1.drew.cell? ⟨w.heap.size, 0, none⟩ = some (.slice A xs.length c) := hcell
      go_region_held3 (fun w' => w'.cell? ⟨w.heap.size, 0, none⟩ = some (.slice A xs.length c) ∧ Hid (Below w1.heap.size w1 w')) (first | exact ⟨cA0, K0⟩ | exact ⟨cell_be Hc.out (Hid.out (by assumption)), by assumption⟩ | exact ⟨cell_al (cell_be Hc.out (Hid.out (by assumption))) _, bal (Hid.out (by assumption)) _⟩) (first | (go_at_call 55; refine (HD.out _ (by first | assumption | exact bal hB8.out _)).mono ?_; rintro e w7 ⟨A7, c7, ds, rfl, hok7, ho7, hb7⟩; have hB7 : Hid (Below w1.heap.size w1 w7) := (by first | exact btr K0.out hb7.out | exact btr (bal hB8.out _) hb7.out | exact btr hB8.out hb7.out)) | (go_at_call 56; refine (HH.out _ (by assumption)).mono ?_; rintro e w8 ⟨rfl, hb8⟩; have hB8 : Hid (Below w1.heap.size w1 w8) := (by first | exact btr K0.out hb8.out | exact btr hB7.out hb8.out)))
      all_goals (go_wp2_with fail)
      all_goals (go_meet)
      all_goals first
        | exact ⟨A7, c7, _, ds, rfl, rfl, hok7, two_made (own_be (own_mono ho7.out (Below.size (Hid.out (by assumption)))) hb8.out) hB8.out.size (by omega), bal hB8.out _⟩
        | exact ⟨A7, c7, _, ds, rfl, rfl, hok7, two_made (own_mono ho7.out hB8.out.size) hB7.out.size (by omega), bal hB7.out _⟩
        | exact ⟨A7, c7, _, ds, rfl, rfl, hok7, two_made' ho7.out hb7.out hB8.out.size (by omega), hB7⟩
    case rest =>
      obtain ⟨A7, c7, g, ds, rfl, rfl, hok, hT, hbc⟩ := hcut
      have hde := Lib.hid (M.depths_eq Ht.out hok.out)
      have hNd : Hid (M.maxTo ds xs.length = (N : Int)) := by rw [← hde.out]; exact hN
      have hwd : Hid (M.widths xs = M.rowN ds (N + 1) n) := by show _ = _; rw [M.widths, hN.out, hde.out, hn.out]; rfl
      have hdl : Hid (ds.length = n) := hok.out.1.trans hn.out
      have hT0 : Hid (Two wc w1.heap.size (.slice (some ⟨g, 0, none⟩) (N + 1) (N + 1)) (.slice A7 xs.length c7) (M.rowN ds (N + 1) 0) ds) := by rw [M.rowN_zero]; exact hT
      obtain ⟨gd, rfl⟩ := hT.out.symm.shape.2 (by omega)
      rw [hn.out] at hT0 ⊢
      clear hT hmk HD HH hcell Hc
      go_wp2
      go_loopw [6] (fun i wr => ∃ k : Nat, k ≤ n ∧ i = .int .i64 k ∧ Hid (Two wr w1.heap.size (.slice (some ⟨g, 0, none⟩) (N + 1) (N + 1)) (.slice (some ⟨gd, 0, none⟩) n c7) (M.rowN ds (N + 1) k) ds) ∧ Hid (Below w1.heap.size w1 wr)) (fun i _ => n - (intOf i).toNat)
      case atStart => exact ⟨0, Nat.zero_le _, rfl, hT0, hbc⟩
      case round =>
        obtain ⟨k, hk, rfl, hT, hbr⟩ := hrel
        clear hT0
        by_cases hlt : k < n
        · obtain ⟨x, hX⟩ : ∃ x, ds[k]? = some x := ⟨_, List.getElem?_eq_getElem (by rw [hdl.out]; exact hlt)⟩
          have hx0 := M.depsOK_le Ht.out hok.out (k + 1) k x (by omega) hX
          obtain ⟨d, rfl⟩ := Int.eq_ofNat_of_zero_le hx0.1
          have hd0 : d < N + 1 := width_step hok.out hX hNd.out
          have hcl := M.countTo_le ds d k
          have hs := Lib.hid (M.rowN_step (N := N + 1) hX)
          have gk := (own64_cell hT.out.2.1 hdl.out hX).1
          obtain ⟨c1, c2, hg1, _⟩ := own64_cell hT.out.1 (M.rowN_len _ _ _) (M.rowN_at ds hd0)
          have hset := hT.out.set (M.rowN_len _ _ _) d ((M.countTo ds k d : Int) + 1)
          rw [hs.out] at hset
          have hset := Lib.hid hset
          have hb5 := Lib.hid (below_setCell (k := d) hbr.out hg1 (.int .i64 ((M.countTo ds k d : Int) + 1)))
          generalize M.countTo ds k d = y at *
          have hy1 : (y : Int) ≤ 1000 := by omega
          clear hx0 hcl hs hT hX
          go_wp2
          go_roundw
          case rel => exact ⟨k + 1, by omega, by go_num, hset, hb5⟩
          case measure => simp [intOf]; omega
        · obtain rfl : k = n := by omega
          have z1 := hB.out.size
          go_wp2
          go_ret2
          rw [hwd.out, M.rowN_len]
          exact ⟨_, _, rfl, own_mono hT.out.1 z1, btr hB.out hbr.out⟩
end Go.Proofs.Ytbnnlifpldgcfaa
