/- EvenColumns, the program's and the model's: the columns of the even drawing, or a code. -/
import Derived.Test.YtamnilpmdccgoaaEvenImp
import Derived.Test.YtamnilpmdccgoaaGives
import Derived.StillTailTactics
namespace Go.Proofs.Ytamnilpmdccgoaa
open Go.RowKit

def F_EvenColumns (xs : List Int) : List Int × Int := M.cond xs (M.evens xs)
theorem F_EvenColumns_len (xs : List Int) : (F_EvenColumns xs).1.length ≤ 1048576 := by
  cases ht : M.isTree xs
  · rw [F_EvenColumns, M.cond_no ht]; simp
  · rw [F_EvenColumns, M.cond_yes ht]
    have h2 := (M.tree_len ht).2
    show (M.evens xs).length ≤ _
    rw [M.evens_len]
    omega

set_option maxHeartbeats 2000000 in
theorem impl_EvenColumns : GivesList 21 F_EvenColumns := by
  intro A xs c w hx hcc h
  have hc := codeOf0 A xs c (w.alloc (.cells #[.slice A xs.length c] 28)) (by omega) (h.al _) _ rfl
  cases ht : M.isTree xs
  · rw [ht] at hc
    have HC := Lib.hid hc
    have hF : F_EvenColumns xs = ([], 1) := M.cond_no ht
    rw [hF]
    clear hc ht hF
    go_enter Try.func21, Try.ntmps21
    go_wp2_with fail
    refine HC.out.mono ?_
    rintro e w1 ⟨rfl, hb⟩
    have hB := btr (bal (b0 w) _) hb
    go_wp2
    go_ret2
    exact ⟨none, 0, rfl, own64_nil _ _, hB⟩
  · rw [ht] at hc
    have HC := Lib.hid hc
    have hF : F_EvenColumns xs = (M.evens xs, 0) := M.cond_yes ht
    have Ht := Lib.hid ht
    rw [hF]
    clear hc ht hF
    have hl := Lib.hid (M.evens_len xs)
    go_enter Try.func21, Try.ntmps21
    go_wp2_with fail
    refine HC.out.mono ?_
    rintro e w1 ⟨rfl, hb⟩
    have hB := Lib.hid (btr (bal (b0 w) _) hb)
    have hcell : w1.cell? ⟨w.heap.size, 0, none⟩ = some (.slice A xs.length c) := cell_be (by simp) hb
    have h1 := Lib.hid ((h.al _).be hb)
    have z1 := hB.out.size
    clear hb h HC
    go_wp2_with fail
    refine ((callsIn_wide (n := 5)).1 (evenIn_in A xs c _ hcc.1 hcc.2 Ht h1)).mono ?_
    rintro e w2 ⟨A', c', rfl, ho, hb⟩
    have hB2 := Lib.hid (btr hB.out hb)
    clear hb
    go_wp2
    go_ret2
    rw [hl.out]
    exact ⟨A', c', rfl, own_mono ho.out z1, hB2.out⟩

set_option maxHeartbeats 8000000 in
set_option maxRecDepth 100000 in
theorem spec_EvenColumns : GivesList 19 F_EvenColumns := by
  intro A xs c w hx hcc h
  have hc := specIs A xs c (w.alloc (.cells #[.slice A xs.length c] 28)) (by omega) (h.al _)
  cases ht : M.isTree xs
  · rw [ht] at hc
    have HC := Lib.hid hc
    have hF : F_EvenColumns xs = ([], 1) := M.cond_no ht
    rw [hF]
    clear hc ht hF
    go_enter Try.func19, Try.ntmps19
    go_wp2_with fail
    refine HC.out.mono ?_
    rintro e w1 ⟨rfl, hb⟩
    have hB := btr (bal (b0 w) _) hb
    go_wp2
    go_ret2
    exact ⟨none, 0, rfl, own64_nil _ _, hB⟩
  · rw [ht] at hc
    have HC := Lib.hid hc
    have hF : F_EvenColumns xs = (M.evens xs, 0) := M.cond_yes ht
    have Ht := Lib.hid ht
    have hlen := M.tree_len ht
    have hmk := run_make_row' (P := Try.prog) 22 2 (.int .i64 0) 8 Try.underlying22 info64 rfl .i64 .i64 xs.length (by omega) (by omega)
    rw [hF]
    clear hc ht hF
    have hl := Lib.hid (M.evens_len xs)
    go_enter Try.func19, Try.ntmps19
    go_wp2_with fail
    refine HC.out.mono ?_
    rintro e w1 ⟨rfl, hb⟩
    have hB := Lib.hid (btr (bal (b0 w) _) hb)
    have hcell : w1.cell? ⟨w.heap.size, 0, none⟩ = some (.slice A xs.length c) := cell_be (by simp) hb
    have h1 := Lib.hid ((h.al _).be hb)
    have z1 := hB.out.size
    clear hb h HC
    go_wp2_with fail
    refine (l01N A xs.length c _).mono ?_
    rintro e w2 ⟨rfl, hb⟩
    have hB2 := Lib.hid (btr hB.out hb)
    have h2 := Lib.hid (h1.out.be hb)
    have HcA := Lib.hid (cell_be hcell hb)
    have z2 := hB2.out.size
    have hzc : w.heap.size < w2.heap.size := World.block_lt_of_cell? _ _ HcA.out
    have h0 : Hid (Own64 (w2.alloc (.cells (madeCells #[.int .i64 0] xs.length) 2)) w2.heap.size (.slice (some ⟨w2.heap.size, 0, none⟩) xs.length xs.length) (M.evLeafRow xs 0)) := by
      have := own64_made (w := w2) (B := w2.heap.size) (n := xs.length) (Nat.le_refl _) (by unfold maxLen; omega)
      show Own64 _ _ _ _
      rw [M.evLeaf_zero]; exact this
    have hb0 : Hid (Below w2.heap.size w2 (w2.alloc (.cells (madeCells #[.int .i64 0] xs.length) 2))) := bal (b0 w2) _
    clear hb hcell h1
    go_wp2
    clear hmk
    go_loopw [6, 7] (fun qc qv wr => ∃ (k L : Nat), k ≤ xs.length ∧ L ≤ k ∧ qv = .int .i64 (k : Int) ∧ qc = .int .i64 (L : Int) ∧ Hid (M.evL xs k = 2 * (L : Int)) ∧ Hid (Own64 wr w2.heap.size (.slice (some ⟨w2.heap.size, 0, none⟩) xs.length xs.length) (M.evLeafRow xs k)) ∧ Hid (Below w2.heap.size w2 wr)) (fun _ qv _ => xs.length - (intOf qv).toNat)
    case atStart => exact ⟨0, 0, Nat.zero_le _, Nat.zero_le _, rfl, rfl, rfl, h0, hb0⟩
    case round =>
      obtain ⟨k, L, hk, hLk, rfl, rfl, hy, ho, hb⟩ := hrel
      clear h0 hb0
      by_cases hlt : k < xs.length
      · obtain ⟨b, off, x, rfl, hbB, g0, hX⟩ := h2.out.at_ (k := k) hlt
        have g := (hb.out.cell (p := ⟨b, off + k, none⟩) hbB).trans g0
        have hcA := (hb.out.cell (p := ⟨w.heap.size, 0, none⟩) (by show w.heap.size < _; omega)).trans HcA.out
        have hkn : (k : Int) < (xs.length : Int) := by omega
        have hk0 : (0 : Int) ≤ (k : Int) := by omega
        have hrl : (M.evLeafRow xs k).length = xs.length := M.evLeaf_len _ _
        obtain ⟨z, hz⟩ : ∃ z, (M.evLeafRow xs k)[k]? = some z := ⟨_, List.getElem?_eq_getElem (by omega)⟩
        obtain ⟨c1, f1, _, hwr⟩ := own64_cell ho.out hrl hz
        clear hz g0
        by_cases hx0 : x = 0
        · have hq : (x == 0) = true := by simp [hx0]
          obtain ⟨hs1, hs2⟩ := M.evLeaf_hit (hx0 ▸ hX.out) hy.out
          have hset := own64_set ho.out hrl k (2 * (L : Int))
          rw [hs1] at hset
          have Hset := Lib.hid hset
          have hs3 : Hid (M.evL xs (k + 1) = 2 * ((L + 1 : Nat) : Int)) := by show _ = _; rw [hs2]; omega
          have hb2 : Hid (Below w2.heap.size w2 (wr.setCell ⟨w2.heap.size, k, none⟩ (.int .i64 (2 * (L : Int))))) := below_setCell hb.out (Nat.le_refl _) _
          clear hset hs1 hs2 hX hx0 hrl
          go_wp2
          go_roundw
          case rel => exact ⟨k + 1, L + 1, by omega, by omega, by go_num, by go_num, hs3, Hset, hb2⟩
          case measure => simp [intOf]; omega
        · have hq : (x == 0) = false := by simp [hx0]
          obtain ⟨hs1, hs2⟩ := M.evLeaf_miss hX.out hx0
          rw [hs1] at ho
          rw [hy.out] at hs2
          have Hs2 := Lib.hid hs2
          clear hs1 hs2 hX hx0 hrl
          go_wp2
          go_roundw
          case rel => exact ⟨k + 1, L, by omega, by omega, by go_num, rfl, Hs2, ho, hb⟩
          case measure => simp [intOf]; omega
      · obtain rfl : k = xs.length := by omega
        have hst : Hid (Own64 wr w2.heap.size (.slice (some ⟨w2.heap.size, 0, none⟩) xs.length xs.length) (M.evRow xs 0)) := ho
        go_wp2
        obtain ⟨wo, rfl⟩ : ∃ wo : World, wo = wr := ⟨_, rfl⟩
        go_loopw [8, 9] (fun qv _ wr => ∃ m : Nat, m ≤ xs.length ∧ qv = .int .i64 ((xs.length : Int) - 1 - (m : Int)) ∧ Hid (Own64 wr w2.heap.size (.slice (some ⟨w2.heap.size, 0, none⟩) xs.length xs.length) (M.evRow xs m)) ∧ Hid (Below w2.heap.size w2 wr)) (fun qv _ _ => (intOf qv + 1).toNat)
        case atStart => exact ⟨0, Nat.zero_le _, by simp, hst, hb⟩
        case round =>
          obtain ⟨m, hm, rfl, ho, hb⟩ := hrel
          clear hst
          by_cases hlt : m < xs.length
          · obtain ⟨v, hv⟩ : ∃ v : Nat, xs.length = v + (m + 1) := ⟨xs.length - (m + 1), by omega⟩
            have hvi : (xs.length : Int) - 1 - (m : Int) = (v : Int) := by omega
            have hvi2 : (v : Int) - 1 = (xs.length : Int) - 1 - ((m + 1 : Nat) : Int) := by omega
            have hv0 : (0 : Int) ≤ (v : Int) := by omega
            have hvn : (v : Int) < (xs.length : Int) := by omega
            have hvl : v < xs.length := by omega
            obtain ⟨d, hd, hd24⟩ := M.tree_degN Ht.out hvl
            have Hd := Lib.hid hd
            have hcA := (hb.out.cell (p := ⟨w.heap.size, 0, none⟩) (by show w.heap.size < _; omega)).trans HcA.out
            have hrl : (M.evRow xs m).length = xs.length := M.evRow_len _ _
            have hbd := M.evRow_bounds hlen.2 m
            have HV := Lib.hid hv
            have HV2 := Lib.hid hvi2
            rw [hvi]
            clear hd hvi hvi2 hv
            go_wp2_with fail
            refine (l01Children A xs c v d _ hlen.2 Ht Hd (h2.out.be (hb.out.mono (Nat.le_refl _)))).mono ?_
            rintro e w3 ⟨Ac, cc, rfl, hoc, hbc⟩
            have ho3 := Lib.hid (own_be ho.out hbc)
            have hb3 : Hid (Below w2.heap.size w2 w3) := btr hb.out hbc
            have hc3 := Lib.hid (ints_of_own64 hoc)
            clear hcA hbc hoc
            rcases Nat.eq_zero_or_pos d with h0 | h0
            · subst h0
              have hr : M.evRow xs (m + 1) = M.evRow xs m := M.evRow_leaf HV.out Hd.out
              rw [← hr] at ho3
              clear hr
              go_wp2
              go_roundw
              case rel => exact ⟨m + 1, by omega, by rw [← HV2.out], ho3, hb3⟩
              case measure => simp [intOf]
            · obtain ⟨e, rfl⟩ : ∃ e, d = e + 1 := ⟨d - 1, by omega⟩
              have hp1 := M.kid_lt Ht.out Hd.out (i := 0) (by omega)
              have hq1 := M.kid_lt Ht.out Hd.out (i := e) (by omega)
              obtain ⟨x1, r1⟩ : ∃ x, (M.evRow xs m)[M.kidAt xs v 0]? = some x := ⟨_, List.getElem?_eq_getElem (by omega)⟩
              obtain ⟨y1, r2⟩ : ∃ x, (M.evRow xs m)[M.kidAt xs v e]? = some x := ⟨_, List.getElem?_eq_getElem (by omega)⟩
              have bx := hbd x1 (List.mem_of_getElem? r1)
              have bY := hbd y1 (List.mem_of_getElem? r2)
              have hr := M.evRow_node HV.out Hd.out r1 r2
              have cx := (own64_cell ho3.out hrl r1).1
              have cy := (own64_cell ho3.out hrl r2).1
              obtain ⟨z, hz⟩ : ∃ x, (M.evRow xs m)[v]? = some x := ⟨_, List.getElem?_eq_getElem (by omega)⟩
              obtain ⟨cv, fv, _, hwv⟩ := own64_cell ho3.out hrl hz
              have hset := own64_set ho3.out hrl v (M.half (x1 + y1))
              rw [← hr] at hset
              have Hset := Lib.hid hset
              obtain ⟨kb, ko, rfl, hkb, hkc⟩ := hc3.out (by rw [M.childs_length]; omega)
              have k1 := hkc 0 _ (M.childs_at xs v (show 0 < e + 1 by omega))
              have k2 := hkc e _ (M.childs_at xs v (show e < e + 1 by omega))
              rw [Nat.add_zero] at k1
              have HH := Lib.hid (fun W => l08Half (x1 + y1) W (by omega) (by omega))
              have hb4 : Hid (Below w2.heap.size w2 (w3.setCell ⟨w2.heap.size, v, none⟩ (.int .i64 (M.half (x1 + y1))))) := below_setCell hb3.out (Nat.le_refl _) _
              generalize M.kidAt xs v 0 = P at *
              generalize M.kidAt xs v e = Q at *
              have hw1 : IntKind.i64.wrap (x1 + y1) = x1 + y1 := IntWalk.i64_in _ (by omega)
              have he1 : ((e + 1 : Nat) : Int) - 1 = (e : Int) := by omega
              have he2 : (e : Int) < ((e + 1 : Nat) : Int) := by omega
              have he3 : (0 : Int) < ((e + 1 : Nat) : Int) := by omega
              have hP0 : (0 : Int) ≤ (P : Int) := by omega
              have hPn : (P : Int) < (xs.length : Int) := by omega
              have hQ0 : (0 : Int) ≤ (Q : Int) := by omega
              have hQn : (Q : Int) < (xs.length : Int) := by omega
              have he0 : (0 : Int) ≤ (e : Int) := by omega
              obtain ⟨D, hD⟩ : ∃ D, D = e + 1 := ⟨_, rfl⟩
              rw [← hD] at he1 he2 he3
              have hD0 : 0 < D := by omega
              have hwD : IntKind.i64.wrap ((D : Int) - 1) = (e : Int) := by rw [he1]; exact IntWalk.i64_in _ (by omega)
              have hD24 : D ≤ 24 := by omega
              clear he1
              have heD : e < D := by omega
              clear hset hr r1 r2 hz hkc hbd hrl
              rw [← hD]
              clear hD
              go_wp2
              go_still_tail 20, (by kernel_rfl)
              still_call ((HH.out _).mono fun _ _ ⟨a, b⟩ => ⟨a, b.symm⟩)
              repeat still_step
              try refine wpStill_nil ?_
              go_wp2
              go_roundw
              case rel => exact ⟨m + 1, by omega, by rw [← HV2.out], Hset, hb4.out.drew⟩
              case measure => simp [intOf]
          · obtain rfl : m = xs.length := by omega
            have he : Hid (M.evRow xs xs.length = M.evens xs) := rfl
            rw [he.out] at ho
            go_wp2
            go_ret2
            rw [hl.out]
            exact ⟨_, _, rfl, own_mono ho.out z2, hB2.out.trans (hb.out.mono z2)⟩
end Go.Proofs.Ytamnilpmdccgoaa
