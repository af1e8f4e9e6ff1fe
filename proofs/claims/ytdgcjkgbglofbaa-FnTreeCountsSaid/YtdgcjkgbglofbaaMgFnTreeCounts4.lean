/- JoinTrees, the program's and the model's: the tree with the trees of a list below its root, or a code. -/
import Derived.Test.YtdgcjkgbglofbaaMgFnTreeCounts3
import Derived.Deep.Cut
import Derived.ProofKit
import Derived.SizedLaws
import Derived.Lib.SmallJoins
import Derived.Deep.Slices
import Derived.Deep.Fields
import Derived.JoinedOf
namespace Go.Proofs.Ytdgcjkgbglofbaa
open Go.RowKit

namespace M
def joinP (zss : List (List Int)) (k : Nat) : List Int := (zss.length : Int) :: (zss.take k).flatten
theorem joinP_zero (zss : List (List Int)) : joinP zss 0 = [(zss.length : Int)] := by simp [joinP]
theorem joinP_succ {zss : List (List Int)} {k : Nat} {zs : List Int} (h : zss[k]? = some zs) : joinP zss (k + 1) = joinP zss k ++ zs := by
  simp [joinP, List.take_add_one, h]
theorem flat_len (l : List (List Int)) : l.flatten.length = tot l := by
  induction l with
  | nil => rfl
  | cons x r ih => simp only [List.flatten_cons, List.length_append, tot, ih]
theorem joinP_len (zss : List (List Int)) (k : Nat) : (joinP zss k).length = 1 + tot (zss.take k) := by simp only [joinP, List.length_cons, flat_len]; omega
end M

def F_JoinTrees (zss : List (List Int)) : List Int × Int := if ∀ zs ∈ zss, M.isTree zs = true then (if 1 + M.tot zss ≤ 24 then (M.joinP zss zss.length, 0) else ([], 3)) else ([], 1)
theorem F_JoinTrees_len (zss : List (List Int)) : (F_JoinTrees zss).1.length ≤ 1048576 := by
  rw [F_JoinTrees]
  split
  · split
    · show (M.joinP _ _).length ≤ _
      rw [M.joinP_len, List.take_length]
      omega
    · simp
  · simp

/-- a list of trees to a tree and a code -/
def GivesJoin (f : Nat) (F : List (List Int) → List Int × Int) : Prop :=
  ∀ (A : Option Addr) (zss : List (List Int)) (n c : Nat) (w : World), Hid (zss.length = n) → n ≤ 1048576 → Hid (∀ zs ∈ zss, zs.length ≤ 1048576) → Hid (Trees w A zss) →
    Calls Try.prog f #[.slice A n c] w fun e w' => ∃ A' c', e = .returned (.tuple #[.agg #[.slice A' (F zss).1.length c'], .int .i64 (F zss).2]) ∧ Own64 w' w.heap.size (.slice A' (F zss).1.length c') (F zss).1 ∧ Below w.heap.size w w'

theorem Trees.be' {w w' : World} {A : Option Addr} {zss : List (List Int)} (h : Trees w A zss) (hb : Below w.heap.size w w') : Trees w' A zss := h.be hb
theorem res_box (w : World) (o : Obj) : Hid ((w.alloc o).heap[w.heap.size]? = some o) := World.alloc_heap_new w o

set_option maxRecDepth 100000 in
set_option maxHeartbeats 4000000 in
theorem l01Join (A : Option Addr) (zss : List (List Int)) (n c : Nat) (w : World) (hn : Hid (zss.length = n)) (hn' : n ≤ 1048576) (ht : Hid (∀ zs ∈ zss, M.isTree zs = true)) (h : Hid (Trees w A zss)) :
    Calls Try.prog 206 #[.slice A n c] w fun e w' =>
      (1 + M.tot zss ≤ 24 → ∃ A' c', e = .returned (.tuple #[.agg #[.slice A' (M.joinP zss n).length c'], .bool true]) ∧ Own64 w' w.heap.size (.slice A' (M.joinP zss n).length c') (M.joinP zss n) ∧ Below w.heap.size w w') ∧
      (¬ 1 + M.tot zss ≤ 24 → e = .returned (.tuple #[.agg #[.slice none 0 0], .bool false]) ∧ Below w.heap.size w w') := by
  obtain ⟨W, hW⟩ : ∃ W, (w.alloc (.cells #[.slice none 0 0] 26)).alloc (.cells #[.int .i64 (n : Int)] 2) = W := ⟨_, rfl⟩
  have hWs : W.heap.size = w.heap.size + 1 + 1 := by rw [← hW]; simp
  have hR : Hid (W.heap[w.heap.size]? = some (.cells #[.slice none 0 0] 26 (0, 0))) := by rw [← hW]; exact (Below.heap_alloc _ _ _ (by simp)).trans (World.alloc_heap_new w _)
  have hst : Hid (Own64 W (w.heap.size + 1) (.slice (some ⟨w.heap.size + 1, 0, none⟩) 1 1) (M.joinP zss 0)) := by
    rw [← hW, M.joinP_zero, hn.out]
    have := World.ownsRow_lit (e := 2) (size := 1) (w.alloc (.cells #[.slice none 0 0] 26)) #[.int .i64 (n : Int)] 1 (Nat.le_refl _) (by simp [maxLen]) (by simp)
    simpa [Hid, Own64] using this
  have hBW : Hid (Below w.heap.size w W) := by rw [← hW]; exact bal (bal (b0 w) _) _
  have HW := Lib.hid hW
  clear hW
  go_enter Try.func206, Try.ntmps206
  go_wp2
  rw [HW.out]
  go_loopw [4, 5] (fun q i wr => ∃ (k m : Nat) (A' : Option Addr) (c' : Nat), k ≤ n ∧ i = .int .i64 (k : Int) ∧ q = .slice A' m c' ∧ Hid (m = 1 + M.tot (zss.take k)) ∧ (k = 0 ∨ m ≤ 24) ∧ m ≤ 24 ∧ Hid (Own64 wr (w.heap.size + 1) (.slice A' m c') (M.joinP zss k)) ∧ Hid (wr.heap[w.heap.size]? = some (.cells #[.slice none 0 0] 26 (0, 0))) ∧ Hid (Below w.heap.size w wr)) (fun _ i _ => n - (intOf i).toNat)
  case atStart => exact ⟨0, 1, _, 1, Nat.zero_le _, rfl, rfl, by simp [M.tot, Hid], .inl rfl, by omega, hst, hR, hBW⟩
  case round =>
    obtain ⟨k, m, A', c', hk, rfl, rfl, hm, _, hm24, ho, hres, hb⟩ := hrel
    clear hst hR hBW HW
    have hzr := hb.out.size
    have hzr2 := lt_of_block hres.out
    by_cases hlt : k < n
    · have hki : (k : Int) < (n : Int) := by omega
      have hk0 : (0 : Int) ≤ (k : Int) := by omega
      have hkz : k < zss.length := by rw [hn.out]; exact hlt
      have hat : zss[k]? = some zss[k] := List.getElem?_eq_getElem hkz
      have htk := ht.out _ (List.mem_of_getElem? hat)
      have hts := Lib.hid (M.tot_take hat)
      have hj := Lib.hid (M.joinP_succ hat)
      have hle := M.tot_take_le zss (k + 1)
      generalize zss[k] = zs at hat htk hts hj
      have hzl := M.tree_len htk
      obtain ⟨b, rfl, hbl, hc⟩ := h.out (by omega)
      obtain ⟨A1, c1, h1, h2⟩ := hc k zs hat
      have hcl : wr.cell? ⟨b, k, none⟩ = some (.slice A1 zs.length c1) := (hb.out.cell (p := ⟨b, k, none⟩) hbl).trans h1
      have hi1 : Hid (Ints wr wr.heap.size A1 zs) := h2.be hb.out
      obtain ⟨b1, off1, rfl, _⟩ := hi1.out (by omega)
      obtain ⟨L, hL⟩ : ∃ L, Hid (zs.length = L) := ⟨_, rfl⟩
      rw [hL.out] at hcl hts hzl
      clear hc h1 h2 hat hbl htk hkz
      by_cases hbig : m + L ≤ 24
      · have hbig2 : ¬ (24 : Int) < ((m + L : Nat) : Int) := by omega
        go_wp2_with (at_builtin; refine appendInts rfl (.tmp 15) (.tmp 20) rfl _ (w.heap.size + 1) A' m c' (M.joinP zss k) (some ⟨b1, off1, none⟩) L c1 zs rfl rfl ho hi1 hL (fun e => by cases e) (by omega) (by omega) (by omega) ?_; intro A2 c2 w2 ho2 hb2; have hbig3 := hbig2)
        have hres2 : Hid (w2.heap[w.heap.size]? = some (.cells #[.slice none 0 0] 26 (0, 0))) := (hb2.out.block _ (Nat.lt_succ_self _)).trans hres.out
        have hb3 : Hid (Below w.heap.size w w2) := hb.out.trans (hb2.out.mono (Nat.le_succ _))
        rw [← hj.out] at ho2
        have hm2 : Hid (m + L = 1 + M.tot (zss.take (k + 1))) := by show _ = _; rw [hts.out, hm.out]; omega
        clear ho hres hb hi1 hb2
        go_roundw
        case rel => exact ⟨k + 1, m + L, A2, c2, by omega, by go_num, rfl, hm2, .inr hbig, hbig, ho2, hres2, hb3⟩
        case measure => simp [intOf]; omega
      · have hbig2 : (24 : Int) < ((m + L : Nat) : Int) := by omega
        have hno : ¬ 1 + M.tot zss ≤ 24 := by have := hm.out; rw [hts.out] at hle; omega
        go_wp2_with (at_builtin; refine appendInts rfl (.tmp 15) (.tmp 20) rfl _ (w.heap.size + 1) A' m c' (M.joinP zss k) (some ⟨b1, off1, none⟩) L c1 zs rfl rfl ho hi1 hL (fun e => by cases e) (by omega) (by omega) (by omega) ?_; intro A2 c2 w2 ho2 hb2; have hbig3 := hbig2; have hres2 := (hb2.out.block w.heap.size (Nat.lt_succ_self _)).trans hres.out; have hr2 := cell_of_one hres2; have hf2 := free_of_one hres2)
        have hb3 : Below w.heap.size w w2 := hb.out.trans (hb2.out.mono (Nat.le_succ _))
        have e1 := (Boxed.set (.slice none 0 0) hres2).cell
        refine bodyPost_ret (v := .tuple #[.agg #[.slice none 0 0], .bool false]) (by simp [results, Try.results206, go_sem, e1]) rfl ?_
        exact ⟨fun e => absurd e hno, fun _ => ⟨rfl, below_setCell hb3 (Nat.le_refl _) _⟩⟩
    · obtain rfl : k = n := by omega
      have hge : ¬ (k : Int) < (k : Int) := by omega
      have htot : M.tot (zss.take k) = M.tot zss := by rw [List.take_of_length_le (by rw [hn.out]; exact Nat.le_refl _)]
      have hyes : Hid (1 + M.tot zss ≤ 24) := by show _ ≤ _; have := hm.out; rw [htot] at this; omega
      have hml : Hid ((M.joinP zss k).length = m) := by show _ = _; rw [M.joinP_len]; exact hm.out.symm
      have hr2 := cell_of_one hres.out
      have hf2 := free_of_one hres.out
      clear htot
      go_wp2
      have e1 := (Boxed.set (.slice A' m c') hres.out).cell
      refine bodyPost_ret (v := .tuple #[.agg #[.slice A' m c'], .bool true]) (by simp [results, Try.results206, go_sem, e1]) rfl ?_
      refine ⟨fun _ => ⟨A', c', ?_, ?_, below_setCell hb.out (Nat.le_refl _) _⟩, fun e => absurd hyes.out (by omega)⟩
      · rw [hml.out]
      · rw [hml.out]; exact own_mono (own_far ho.out (Nat.lt_succ_self _) _) (Nat.le_succ _)

theorem F_join_bad {zss : List (List Int)} {zs : List Int} (h : zs ∈ zss) (ht : M.isTree zs = false) : F_JoinTrees zss = ([], 1) := by
  rw [F_JoinTrees, if_neg]
  intro h'
  rw [h' zs h] at ht
  cases ht
theorem F_join_yes {zss : List (List Int)} (h : ∀ zs ∈ zss, M.isTree zs = true) (h2 : 1 + M.tot zss ≤ 24) : F_JoinTrees zss = (M.joinP zss zss.length, 0) := by rw [F_JoinTrees, if_pos h, if_pos h2]
theorem F_join_no {zss : List (List Int)} (h : ∀ zs ∈ zss, M.isTree zs = true) (h2 : ¬ 1 + M.tot zss ≤ 24) : F_JoinTrees zss = ([], 3) := by rw [F_JoinTrees, if_pos h, if_neg h2]
theorem all_take {zss : List (List Int)} {n : Nat} (hn : zss.length = n) (h : ∀ j zs, j < n → zss[j]? = some zs → M.isTree zs = true) : ∀ zs ∈ zss, M.isTree zs = true := fun zs hz => by
  obtain ⟨j, hj⟩ := List.getElem?_of_mem hz
  exact h j zs (by rw [← hn]; exact (List.getElem?_eq_some_iff.1 hj).1) hj

set_option maxRecDepth 100000 in
set_option maxHeartbeats 4000000 in
theorem spec_JoinTrees : GivesJoin 63 F_JoinTrees := by
  intro A zss n c w hn hn' hz h
  obtain ⟨W, hW⟩ : ∃ W, w.alloc (.cells #[.slice none 0 0] 26) = W := ⟨_, rfl⟩
  have hWs : W.heap.size = w.heap.size + 1 := by rw [← hW]; simp
  have hR : Hid (W.heap[w.heap.size]? = some (.cells #[.slice none 0 0] 26 (0, 0))) := by rw [← hW]; exact World.alloc_heap_new w _
  have hBW : Hid (Below w.heap.size w W) := by rw [← hW]; exact bal (b0 w) _
  have HW := Lib.hid hW
  clear hW
  go_enter Try.func63, Try.ntmps63
  go_wp2
  rw [HW.out]
  go_loopw [4] (fun i wr => ∃ (k : Nat), k ≤ n ∧ i = .int .i64 (k : Int) ∧ Hid (∀ j zs, j < k → zss[j]? = some zs → M.isTree zs = true) ∧ Hid (wr.heap[w.heap.size]? = some (.cells #[.slice none 0 0] 26 (0, 0))) ∧ Hid (Below w.heap.size w wr)) (fun i _ => n - (intOf i).toNat)
  case atStart => exact ⟨0, Nat.zero_le _, rfl, fun j zs hj => by omega, hR, hBW⟩
  case round =>
    obtain ⟨k, hk, rfl, hall, hres, hb⟩ := hrel
    clear hR hBW HW
    have hzr := lt_of_block hres.out
    by_cases hlt : k < n
    · have hki : (k : Int) < (n : Int) := by omega
      have hk0 : (0 : Int) ≤ (k : Int) := by omega
      have hkz : k < zss.length := by rw [hn.out]; exact hlt
      have hat : zss[k]? = some zss[k] := List.getElem?_eq_getElem hkz
      have hzk := hz.out _ (List.mem_of_getElem? hat)
      generalize zss[k] = zs at hat hzk
      obtain ⟨b, rfl, hbl, hc⟩ := h.out (by omega)
      obtain ⟨A1, c1, h1, h2⟩ := hc k zs hat
      have hcl : wr.cell? ⟨b, k, none⟩ = some (.slice A1 zs.length c1) := (hb.out.cell (p := ⟨b, k, none⟩) hbl).trans h1
      have HIs := Lib.hid (specIs A1 zs c1 wr (by omega) (h2.be hb.out))
      have Hat := Lib.hid hat
      clear hc h1 h2 hat hbl hkz
      cases ht : M.isTree zs
      · rw [ht] at HIs
        have hF := Lib.hid (F_join_bad (List.mem_of_getElem? Hat.out) ht)
        clear ht
        go_wp2_with fail
        refine HIs.out.mono ?_
        rintro e w7 ⟨rfl, hb7⟩
        have hres7 := (hb7.block w.heap.size hzr).trans hres.out
        have hr2 := cell_of_one hres7
        have hf2 := free_of_one hres7
        have hB := Lib.hid (btr hb.out hb7)
        clear hb7 hcl
        go_wp2
        have e1 := (Boxed.set (.slice none 0 0) hres7).cell
        refine bodyPost_ret (v := .tuple #[.agg #[.slice none 0 0], .int .i64 1]) (by simp [results, Try.results63, go_sem, e1]) rfl ?_
        rw [hF.out]
        exact ⟨none, 0, rfl, own64_nil _ _, below_setCell hB.out (Nat.le_refl _) _⟩
      · rw [ht] at HIs
        have hall2 : Hid (∀ j zs', j < k + 1 → zss[j]? = some zs' → M.isTree zs' = true) := fun j zs' hj hz' => by
          rcases Nat.lt_or_ge j k with h5 | h5
          · exact hall.out j zs' h5 hz'
          · obtain rfl : j = k := by omega
            rw [Hat.out] at hz'
            injection hz' with hz'
            rw [← hz']
            exact ht
        clear ht
        go_wp2_with fail
        refine HIs.out.mono ?_
        rintro e w7 ⟨rfl, hb7⟩
        have hres7 := Lib.hid ((hb7.block w.heap.size hzr).trans hres.out)
        have hB := Lib.hid (btr hb.out hb7)
        clear hb7 hcl hall hres hb HIs
        go_wp2
        go_roundw
        case rel => exact ⟨k + 1, by omega, by go_num, hall2, hres7, hB⟩
        case measure => simp [intOf]; omega
    · obtain rfl : k = n := by omega
      have hge : ¬ (k : Int) < (k : Int) := by omega
      have hA := Lib.hid (all_take hn.out hall.out)
      have hJ := Lib.hid (l01Join A zss k c wr hn hn' hA (h.out.be' hb.out))
      clear hall
      go_wp2_with fail
      refine hJ.out.mono ?_
      rintro e w7 ⟨hp1, hp2⟩
      by_cases hsm : 1 + M.tot zss ≤ 24
      · obtain ⟨A7, c7, rfl, ho7, hb7⟩ := hp1 hsm
        have hF := Lib.hid (F_join_yes hA.out hsm)
        rw [hn.out] at hF
        obtain ⟨J, hJe⟩ : ∃ J, Hid (M.joinP zss k = J) := ⟨_, rfl⟩
        rw [hJe.out] at hF ho7 ⊢
        have hres7 := (hb7.block w.heap.size hzr).trans hres.out
        have hres8 : (w7.alloc (.cells #[.slice A7 J.length c7] 26)).heap[w.heap.size]? = some (.cells #[.slice none 0 0] 26 (0, 0)) := (Below.heap_alloc _ _ _ (lt_of_block hres7)).trans hres7
        have hr2 := cell_of_one hres8
        have hf2 := free_of_one hres8
        have hB := Lib.hid (bal (btr hb.out hb7) (.cells #[.slice A7 J.length c7] 26))
        have Ho7 := Lib.hid (ho7.alloc (.cells #[.slice A7 J.length c7] 26))
        clear hb7 ho7 hp1 hp2 hsm
        go_wp2
        have e1 := (Boxed.set (.slice A7 J.length c7) hres8).cell
        refine bodyPost_ret (v := .tuple #[.agg #[.slice A7 J.length c7], .int .i64 0]) (by simp [results, Try.results63, go_sem, e1]) rfl ?_
        rw [hF.out]
        exact ⟨A7, c7, rfl, own_mono (own_far Ho7.out hzr _) (by omega), below_setCell hB.out (Nat.le_refl _) _⟩
      · obtain ⟨rfl, hb7⟩ := hp2 hsm
        have hF := Lib.hid (F_join_no hA.out hsm)
        have hres7 := (hb7.block w.heap.size hzr).trans hres.out
        have hres8 : (w7.alloc (.cells #[.slice none 0 0] 26)).heap[w.heap.size]? = some (.cells #[.slice none 0 0] 26 (0, 0)) := (Below.heap_alloc _ _ _ (lt_of_block hres7)).trans hres7
        have hr2 := cell_of_one hres8
        have hf2 := free_of_one hres8
        have hB := Lib.hid (bal (btr hb.out hb7) (.cells #[.slice none 0 0] 26))
        clear hb7 hp1 hp2 hsm
        go_wp2
        have e1 := (Boxed.set (.slice none 0 0) hres8).cell
        refine bodyPost_ret (v := .tuple #[.agg #[.slice none 0 0], .int .i64 3]) (by simp [results, Try.results63, go_sem, e1]) rfl ?_
        rw [hF.out]
        exact ⟨none, 0, rfl, own64_nil _ _, below_setCell hB.out (Nat.le_refl _) _⟩

set_option maxRecDepth 100000 in
set_option maxHeartbeats 4000000 in
theorem impl_JoinTrees : GivesJoin 62 F_JoinTrees := by
  intro A zss n c w hn hn' hz h
  obtain ⟨W, hW⟩ : ∃ W, w.alloc (.cells #[.slice none 0 0] 26) = W := ⟨_, rfl⟩
  have hWs : W.heap.size = w.heap.size + 1 := by rw [← hW]; simp
  have hR : Hid (W.heap[w.heap.size]? = some (.cells #[.slice none 0 0] 26 (0, 0))) := by rw [← hW]; exact World.alloc_heap_new w _
  have hBW : Hid (Below w.heap.size w W) := by rw [← hW]; exact bal (b0 w) _
  have HW := Lib.hid hW
  clear hW
  go_enter Try.func62, Try.ntmps62
  go_wp2
  rw [HW.out]
  go_loopw [4, 12] (fun q i wr => ∃ (k : Nat), k ≤ n ∧ i = .int .i64 (k : Int) ∧ q = .int .i64 (1 + (M.tot (zss.take k) : Int)) ∧ Hid (∀ j zs, j < k → zss[j]? = some zs → M.isTree zs = true) ∧ Hid (M.tot (zss.take k) ≤ 24 * k) ∧ Hid (wr.heap[w.heap.size]? = some (.cells #[.slice none 0 0] 26 (0, 0))) ∧ Hid (Below w.heap.size w wr)) (fun _ i _ => n - (intOf i).toNat)
  case atStart => exact ⟨0, Nat.zero_le _, rfl, by simp [M.tot], fun j zs hj => by omega, by simp [M.tot, Hid], hR, hBW⟩
  case round =>
    obtain ⟨k, hk, rfl, rfl, hall, htl, hres, hb⟩ := hrel
    clear hR hBW HW
    have hzr := lt_of_block hres.out
    by_cases hlt : k < n
    · have hki : (k : Int) < (n : Int) := by omega
      have hk0 : (0 : Int) ≤ (k : Int) := by omega
      have hkz : k < zss.length := by rw [hn.out]; exact hlt
      have hat : zss[k]? = some zss[k] := List.getElem?_eq_getElem hkz
      have hzk := hz.out _ (List.mem_of_getElem? hat)
      have hts := Lib.hid (M.tot_take hat)
      generalize zss[k] = zs at hat hzk hts
      obtain ⟨b, rfl, hbl, hc⟩ := h.out (by omega)
      obtain ⟨A1, c1, h1, h2⟩ := hc k zs hat
      have hcl : wr.cell? ⟨b, k, none⟩ = some (.slice A1 zs.length c1) := (hb.out.cell (p := ⟨b, k, none⟩) hbl).trans h1
      have HIs := Lib.hid (implIsTree A1 zs c1 (wr.alloc (.cells #[.slice A1 zs.length c1] 26)) (by omega) ((h2.be hb.out).al _))
      have hres1 : Hid ((wr.alloc (.cells #[.slice A1 zs.length c1] 26)).heap[w.heap.size]? = some (.cells #[.slice none 0 0] 26 (0, 0))) := (Below.heap_alloc _ _ _ hzr).trans hres.out
      have hbx : Hid (Boxed (wr.alloc (.cells #[.slice A1 zs.length c1] 26)) wr.heap.size 26 (.slice A1 zs.length c1)) := Boxed.new _ _ _
      have Hat := Lib.hid hat
      clear hc h1 h2 hat hbl hkz
      cases ht : M.isTree zs
      · rw [ht] at HIs
        have hF := Lib.hid (F_join_bad (List.mem_of_getElem? Hat.out) ht)
        clear ht
        go_wp2_with fail
        refine HIs.out.mono ?_
        rintro e w7 ⟨rfl, hb7⟩
        have hres7 := (hb7.block w.heap.size (lt_of_block hres1.out)).trans hres1.out
        have hr2 := cell_of_one hres7
        have hf2 := free_of_one hres7
        have hB := Lib.hid (btr (bal hb.out _) hb7)
        clear hb7 hcl
        go_wp2
        have e1 := (Boxed.set (.slice none 0 0) hres7).cell
        refine bodyPost_ret (v := .tuple #[.agg #[.slice none 0 0], .int .i64 1]) (by simp [results, Try.results62, go_sem, e1]) rfl ?_
        rw [hF.out]
        exact ⟨none, 0, rfl, own64_nil _ _, below_setCell hB.out (Nat.le_refl _) _⟩
      · rw [ht] at HIs
        have hall2 : Hid (∀ j zs', j < k + 1 → zss[j]? = some zs' → M.isTree zs' = true) := fun j zs' hj hz' => by
          rcases Nat.lt_or_ge j k with h5 | h5
          · exact hall.out j zs' h5 hz'
          · obtain rfl : j = k := by omega
            rw [Hat.out] at hz'
            injection hz' with hz'
            rw [← hz']
            exact ht
        have hz24 := (M.tree_len ht).2
        obtain ⟨t, ht'⟩ : ∃ t, Hid (M.tot (zss.take k) = t) := ⟨_, rfl⟩
        rw [ht'.out] at hts htl ⊢
        have htl' := htl.out
        have htl2 : Hid (M.tot (zss.take (k + 1)) ≤ 24 * (k + 1)) := by show _ ≤ _; rw [hts.out]; omega
        clear ht
        go_wp2_with fail
        refine HIs.out.mono ?_
        rintro e w7 ⟨rfl, hb7⟩
        have hres7 := Lib.hid ((hb7.block w.heap.size (lt_of_block hres1.out)).trans hres1.out)
        have hB := Lib.hid (btr (bal hb.out _) hb7)
        have cB := (show Boxed w7 wr.heap.size 26 (.slice A1 zs.length c1) from (hb7.block _ hbx.out.lt).trans hbx.out).cell
        clear hb7 hcl hall hres hb HIs hres1 hbx
        go_wp2
        go_roundw
        case rel => exact ⟨k + 1, by omega, by go_num, by rw [hts.out]; go_num, hall2, htl2, hres7, hB⟩
        case measure => simp [intOf]; omega
    · obtain rfl : k = n := by omega
      have hge : ¬ (k : Int) < (k : Int) := by omega
      have hA := Lib.hid (all_take hn.out hall.out)
      have htot : Hid (M.tot (zss.take k) = M.tot zss) := by show _ = _; rw [List.take_of_length_le (by rw [hn.out]; exact Nat.le_refl _)]
      rw [htot.out] at htl ⊢
      by_cases hsm : 1 + M.tot zss ≤ 24
      · have hF := Lib.hid (F_join_yes hA.out hsm)
        rw [hn.out] at hF
        have hsm2 : ¬ (24 : Int) < 1 + (M.tot zss : Int) := by omega
        have hst : Hid (Own64 (wr.alloc (.cells #[.int .i64 (k : Int)] 2)) wr.heap.size (.slice (some ⟨wr.heap.size, 0, none⟩) 1 1) (M.joinP zss 0)) := by
          rw [M.joinP_zero, hn.out]
          have := World.ownsRow_lit (e := 2) (size := 1) wr #[.int .i64 (k : Int)] 1 (Nat.le_refl _) (by simp [maxLen]) (by simp)
          simpa [Hid, Own64] using this
        have hres1 : Hid ((wr.alloc (.cells #[.int .i64 (k : Int)] 2)).heap[w.heap.size]? = some (.cells #[.slice none 0 0] 26 (0, 0))) := (Below.heap_alloc _ _ _ hzr).trans hres.out
        have hb1 : Hid (Below w.heap.size w (wr.alloc (.cells #[.int .i64 (k : Int)] 2))) := bal hb.out _
        have Hsm := Lib.hid hsm
        have hzn : zss.length = k := hn.out
        have hzs0 : wr.heap.size ≤ (wr.alloc (.cells #[.int .i64 (k : Int)] 2)).heap.size := by simp
        obtain ⟨B0, hB0⟩ : ∃ B0, Hid (wr.heap.size = B0) := ⟨_, rfl⟩
        obtain ⟨v0, hv0⟩ : ∃ v0, Hid (Value.slice (some ⟨wr.heap.size, 0, none⟩) 1 1 = v0) := ⟨_, rfl⟩
        have hst2 : Hid (Own64 (wr.alloc (.cells #[.int .i64 (k : Int)] 2)) B0 (.slice (some ⟨wr.heap.size, 0, none⟩) 1 1) (M.joinP zss 0)) := by rw [← hB0.out]; exact hst
        rw [hB0.out] at hzr hzs0
        clear hsm hall hres hb hst hv0
        go_wp2
        go_loopw [7, 34] (fun q i wx => ∃ (j : Nat) (A' : Option Addr) (c' m : Nat), j ≤ k ∧ i = .int .i64 (j : Int) ∧ q = .slice A' m c' ∧ Hid (m = 1 + M.tot (zss.take j)) ∧ m ≤ 24 ∧ Hid (Own64 wx B0 (.slice A' m c') (M.joinP zss j)) ∧ Hid (wx.heap[w.heap.size]? = some (.cells #[.slice none 0 0] 26 (0, 0))) ∧ B0 ≤ wx.heap.size ∧ Hid (Below w.heap.size w wx)) (fun _ i _ => k - (intOf i).toNat)
        case atStart => exact ⟨0, _, 1, 1, Nat.zero_le _, rfl, rfl, by simp [M.tot, Hid], by omega, hst2, hres1, hzs0, hb1⟩
        case round =>
          obtain ⟨j, A', c', m, hj, rfl, rfl, hm, hm24, ho, hres, hzx, hb⟩ := hrel
          clear hst2 hres1 hb1 hzs0
          have hsm := Hsm.out
          by_cases hlt2 : j < k
          · have hji : (j : Int) < (k : Int) := by omega
            have hj0 : (0 : Int) ≤ (j : Int) := by omega
            have hjz : j < zss.length := by omega
            have hat : zss[j]? = some zss[j] := List.getElem?_eq_getElem hjz
            have htk := hA.out _ (List.mem_of_getElem? hat)
            have hts := Lib.hid (M.tot_take hat)
            have hjj := Lib.hid (M.joinP_succ hat)
            have hle := M.tot_take_le zss (j + 1)
            generalize zss[j] = zs at hat htk hts hjj
            have hzl := M.tree_len htk
            obtain ⟨b, rfl, hbl, hc⟩ := h.out (by omega)
            obtain ⟨A1, c1, h1, h2⟩ := hc j zs hat
            obtain ⟨L, hL⟩ : ∃ L, Hid (zs.length = L) := ⟨_, rfl⟩
            have hcl := (hb.out.cell (p := ⟨b, j, none⟩) hbl).trans h1
            rw [hL.out] at hcl hts hzl
            obtain ⟨b1, off1, rfl, _⟩ := h2 (by have := hL.out; omega)
            have hi1 : Hid (Ints (wr.alloc (.cells #[.slice (some ⟨b1, off1, none⟩) L c1] 26)) (wr.alloc (.cells #[.slice (some ⟨b1, off1, none⟩) L c1] 26)).heap.size (some ⟨b1, off1, none⟩) zs) := (h2.be hb.out).al _
            have ho1 : Hid (Own64 (wr.alloc (.cells #[.slice (some ⟨b1, off1, none⟩) L c1] 26)) B0 (.slice A' m c') (M.joinP zss j)) := ho.out.alloc _
            have hzx1 : B0 ≤ (wr.alloc (.cells #[.slice (some ⟨b1, off1, none⟩) L c1] 26)).heap.size := by simp; omega
            have hres1 : Hid ((wr.alloc (.cells #[.slice (some ⟨b1, off1, none⟩) L c1] 26)).heap[w.heap.size]? = some (.cells #[.slice none 0 0] 26 (0, 0))) := (Below.heap_alloc _ _ _ (lt_of_block hres.out)).trans hres.out
            have hb1 : Hid (Below w.heap.size w (wr.alloc (.cells #[.slice (some ⟨b1, off1, none⟩) L c1] 26))) := bal hb.out _
            have hm2 : Hid (m + L = 1 + M.tot (zss.take (j + 1))) := by show _ = _; rw [hts.out, hm.out]; omega
            have hml : m + L ≤ 24 := by have := hm2.out; omega
            clear hc h1 h2 hat hbl htk hjz ho hres hb hm hsm hle hsm2
            go_wp2_with (at_builtin; refine appendInts rfl (.tmp 38) (.tmp 40) rfl _ B0 A' m c' (M.joinP zss j) (some ⟨b1, off1, none⟩) L c1 zs rfl rfl ho1 hi1 hL (fun e => by cases e) hzx1 (by omega) (by omega) ?_; intro A2 c2 w2 ho2 hb2)
            have hres2 : Hid (w2.heap[w.heap.size]? = some (.cells #[.slice none 0 0] 26 (0, 0))) := (hb2.out.block _ hzr).trans hres1.out
            have hb3 : Hid (Below w.heap.size w w2) := hb1.out.trans (hb2.out.mono (by omega))
            have hzx2 : B0 ≤ w2.heap.size := Nat.le_trans hzx1 hb2.out.size
            rw [← hjj.out] at ho2
            clear ho1 hres1 hb1 hi1 hb2 hzx1
            go_roundw
            case rel => exact ⟨j + 1, A2, c2, m + L, by omega, by go_num, rfl, hm2, hml, ho2, hres2, hzx2, hb3⟩
            case measure => simp [intOf]; omega
          · obtain rfl : j = k := by omega
            have hge2 : ¬ (j : Int) < (j : Int) := by omega
            have hJl : Hid ((M.joinP zss j).length = m) := by show _ = _; rw [M.joinP_len]; exact hm.out.symm
            have hr2 := cell_of_one hres.out
            have hf2 := free_of_one hres.out
            go_wp2
            have e1 := (Boxed.set (.slice A' m c') hres.out).cell
            refine bodyPost_ret (v := .tuple #[.agg #[.slice A' m c'], .int .i64 0]) (by simp [results, Try.results62, go_sem, e1]) rfl ?_
            rw [hF.out]
            show ∃ A'' c'', Ending.returned (.tuple #[.agg #[.slice A' m c'], .int .i64 0]) = .returned (.tuple #[.agg #[.slice A'' (M.joinP zss j).length c''], .int .i64 0]) ∧ Own64 _ _ (.slice A'' (M.joinP zss j).length c'') (M.joinP zss j) ∧ _
            rw [hJl.out]
            exact ⟨A', c', rfl, own_mono (own_far ho.out hzr _) (by omega), below_setCell hb.out (Nat.le_refl _) _⟩
      · have hF := Lib.hid (F_join_no hA.out hsm)
        have hsm2 : (24 : Int) < 1 + (M.tot zss : Int) := by omega
        have hr2 := cell_of_one hres.out
        have hf2 := free_of_one hres.out
        clear hsm
        go_wp2
        have e1 := (Boxed.set (.slice none 0 0) hres.out).cell
        refine bodyPost_ret (v := .tuple #[.agg #[.slice none 0 0], .int .i64 3]) (by simp [results, Try.results62, go_sem, e1]) rfl ?_
        rw [hF.out]
        exact ⟨none, 0, rfl, own64_nil _ _, below_setCell hb.out (Nat.le_refl _) _⟩
end Go.Proofs.Ytdgcjkgbglofbaa

/- Texts of trees: the mathematics. No program is named here. -/
namespace Go.Proofs.Ytdgcjkgbglofbaa.M
theorem go_span : ∀ (l : List Int) (o : Int), 0 ≤ o → ok o l → isGo o (l.take (span o l)) = true := by
  intro l
  induction l with
  | nil => intro o h0 h; simp only [ok] at h; simp [span, isGo]; omega
  | cons d r ih =>
    intro o h0 h
    by_cases ho : o ≤ 0
    · rw [span_stop ho]; simp [isGo]; omega
    · rcases h with h | ⟨h1, h2, h3⟩
      · omega
      · rw [span, if_neg ho, List.take_succ_cons, isGo, if_neg (by simp [h1, h2]; omega)]
        exact ih _ (by omega) h3
theorem sub_tree {xs : List Int} (h : isTree xs = true) {v : Nat} (hv : v < xs.length) : isTree (sub xs v) = true := by
  have h1 := go_span _ 1 (by omega) (tree_ok h hv)
  have h2 := span_pos hv
  have h3 := end_le (xs := xs) (v := v) (by omega)
  have h4 := (tree_len h).2
  simp only [isTree, Bool.and_eq_true, decide_eq_true_eq, sub_length]
  exact ⟨⟨h2, by omega⟩, h1⟩
/-- the text of a tree, f levels deep at most -/
def textL : Nat → List Int → ByteArray
  | 0, _ => ByteArray.empty
  | f + 1, xs => (List.range (xs[0]?.getD 0).toNat).foldl (fun a i => a ++ textL f (sub xs (kidAt xs 0 i))) (ByteArray.mk #[40]) ++ ByteArray.mk #[41]
/-- that of the first k children, with what opens it -/
def textK (f : Nat) (xs : List Int) (k : Nat) : ByteArray := (List.range k).foldl (fun a i => a ++ textL f (sub xs (kidAt xs 0 i))) (ByteArray.mk #[40])
theorem textK_zero (f : Nat) (xs : List Int) : textK f xs 0 = ByteArray.mk #[40] := rfl
theorem textK_succ (f : Nat) (xs : List Int) (k : Nat) : textK f xs (k + 1) = textK f xs k ++ textL f (sub xs (kidAt xs 0 k)) := by simp [textK, List.range_succ, List.foldl_append]
theorem textL_at {f : Nat} {xs : List Int} {d : Nat} (h : xs[0]? = some (d : Int)) : textL (f + 1) xs = textK f xs d ++ ByteArray.mk #[41] := by rw [textL, h]; rfl
/-- the subtrees below the root end the list -/
theorem kids_all {xs : List Int} (ht : isTree xs = true) {d : Nat} (hd : xs[0]? = some (d : Int)) : kidAt xs 0 d = xs.length := by
  have h := kid_due ht hd d (by omega)
  have h2 : due xs 0 = 1 := by simp [due, bal]
  rcases Nat.lt_or_ge (kidAt xs 0 d) xs.length with h3 | h3
  · have := due_pos ht h3; omega
  · omega
theorem sub_short {xs : List Int} (ht : isTree xs = true) {d : Nat} (hd : xs[0]? = some (d : Int)) {i : Nat} (hi : i < d) : (sub xs (kidAt xs 0 i)).length < xs.length := by
  have h1 := (kid_due ht hd i (by omega)).2.2
  have h2 := kid_lt ht hd (i := i) (by omega)
  have h3 := end_le (xs := xs) (v := kidAt xs 0 i) (by omega)
  rw [sub_length]; omega
theorem open_size : (ByteArray.mk #[40]).size = 1 := by decide
theorem close_size : (ByteArray.mk #[41]).size = 1 := by decide
theorem textL_size : ∀ (f : Nat) (xs : List Int), isTree xs = true → xs.length ≤ f → (textL f xs).size = 2 * xs.length := by
  intro f
  induction f with
  | zero => intro xs ht h; have := (tree_len ht).1; omega
  | succ f ih =>
    intro xs ht hf
    have hl := tree_len ht
    obtain ⟨d, hd, _⟩ := tree_degN ht (v := 0) (by omega)
    have hK : ∀ k, k ≤ d → (textK f xs k).size + 1 = 2 * kidAt xs 0 k := by
      intro k
      induction k with
      | zero => intro _; rw [textK_zero, open_size]; simp [kidAt]
      | succ k ihk =>
        intro hk
        have h1 := sub_short ht hd (i := k) (by omega)
        have h2 := kid_lt ht hd (i := k) (by omega)
        rw [textK_succ, ByteArray.size_append, ih _ (sub_tree ht h2) (by omega), sub_length]
        have := ihk (by omega)
        simp only [kidAt]
        omega
    have h1 := hK d (Nat.le_refl _)
    rw [kids_all ht hd] at h1
    rw [textL_at hd, ByteArray.size_append, close_size]
    omega
theorem textK_size {f : Nat} {xs : List Int} (ht : isTree xs = true) (hf : xs.length ≤ f + 1) {d : Nat} (hd : xs[0]? = some (d : Int)) : ∀ k, k ≤ d → (textK f xs k).size + 1 = 2 * kidAt xs 0 k := by
  intro k
  induction k with
  | zero => intro _; rw [textK_zero, open_size]; simp [kidAt]
  | succ k ihk =>
    intro hk
    have h1 := sub_short ht hd (i := k) (by omega)
    have h2 := kid_lt ht hd (i := k) (by omega)
    rw [textK_succ, ByteArray.size_append, textL_size f _ (sub_tree ht h2) (by omega), sub_length]
    have := ihk (by omega)
    simp only [kidAt]
    omega
end Go.Proofs.Ytdgcjkgbglofbaa.M

/- Trees come back from their texts: the mathematics. No program is named here. -/
namespace Go.Proofs.Ytdgcjkgbglofbaa.M
def bytes (s : ByteArray) : List Int := s.data.toList.map fun b => (b.toNat : Int)
theorem bytes_append (a b : ByteArray) : bytes (a ++ b) = bytes a ++ bytes b := by simp [bytes]
theorem bytes_open : bytes (ByteArray.mk #[40]) = [40] := by decide
theorem bytes_close : bytes (ByteArray.mk #[41]) = [41] := by decide
theorem bytes_length (s : ByteArray) : (bytes s).length = s.size := by simp [bytes]
theorem prun_cons {ds st ds' st' r : List Int} {c : Int} (hs : pstep ds st c = some (ds', st')) : prun ds st (c :: r) = prun ds' st' r := by rw [prun, hs]
/-- what the text of a tree does to a state with an open node p, and to the beginning -/
def ReadAt (T : ByteArray) (xs : List Int) : Prop :=
  ∀ (rest : List Int), (∀ (ds st : List Int) (p : Nat) (x : Int), ds[p]? = some x → prun ds (st ++ [(p : Int)]) (bytes T ++ rest) = prun (ds.set p (x + 1) ++ xs) (st ++ [(p : Int)]) rest) ∧ prun [] [] (bytes T ++ rest) = prun xs [] rest
theorem read_inner {f : Nat} {xs : List Int} {d : Nat} (ht : isTree xs = true) (hd : xs[0]? = some (d : Int)) (ih : ∀ k, k < d → ReadAt (textL f (sub xs (kidAt xs 0 k))) (sub xs (kidAt xs 0 k))) (dn st : List Int) :
    ∀ k, k ≤ d → ∃ B, bytes (textK f xs k) = 40 :: B ∧ ∀ rest, prun (dn ++ [0]) (st ++ [(dn.length : Int)]) (B ++ rest) = prun (dn ++ ((k : Int) :: (xs.drop 1).take (kidAt xs 0 k - 1))) (st ++ [(dn.length : Int)]) rest := by
  intro k
  induction k with
  | zero =>
    intro _
    exact ⟨[], by rw [textK_zero, bytes_open], fun rest => by simp [kidAt]⟩
  | succ k ihk =>
    intro hk
    obtain ⟨B, h1, h2⟩ := ihk (by omega)
    refine ⟨B ++ bytes (textL f (sub xs (kidAt xs 0 k))), by rw [textK_succ, bytes_append, h1]; rfl, fun rest => ?_⟩
    rw [List.append_assoc, h2]
    have h3 := (kid_due ht hd k (by omega)).2.2
    rw [((ih k (by omega)) rest).1 _ st dn.length k (by simp)]
    congr 1
    have e : (xs.drop 1).take (kidAt xs 0 (k + 1) - 1) = (xs.drop 1).take (kidAt xs 0 k - 1) ++ sub xs (kidAt xs 0 k) := by
      rw [kidAt, show kidAt xs 0 k + span 1 (xs.drop (kidAt xs 0 k)) - 1 = (kidAt xs 0 k - 1) + span 1 (xs.drop (kidAt xs 0 k)) by omega, List.take_add, List.drop_drop, show 1 + (kidAt xs 0 k - 1) = kidAt xs 0 k by omega]
      rfl
    rw [e]
    simp
theorem text_read : ∀ (f : Nat) (xs : List Int), isTree xs = true → xs.length ≤ f → ReadAt (textL f xs) xs := by
  intro f
  induction f with
  | zero => intro xs ht h; have := (tree_len ht).1; omega
  | succ f ih =>
    intro xs ht hf rest
    have hl := tree_len ht
    obtain ⟨d, hd, _⟩ := tree_degN ht (v := 0) (by omega)
    have hin := fun dn st => read_inner (f := f) ht hd (fun k hk => ih _ (sub_tree ht (kid_lt ht hd (i := k) (by omega))) (by have := sub_short ht hd hk; omega)) dn st d (Nat.le_refl _)
    have hxs : (d : Int) :: (xs.drop 1).take (kidAt xs 0 d - 1) = xs := by
      rw [kids_all ht hd, List.take_of_length_le (by simp)]
      exact (drop_at hd).symm
    have hb : ∀ B, bytes (textK f xs d) = 40 :: B → bytes (textL (f + 1) xs) ++ rest = 40 :: (B ++ (41 :: rest)) := fun B hB => by
      rw [textL_at hd, bytes_append, hB, bytes_close]; simp
    refine ⟨fun ds st p x hx => ?_, ?_⟩
    · obtain ⟨B, h1, h2⟩ := hin (ds.set p (x + 1)) (st ++ [(p : Int)])
      have hs := pstep_open (ds := ds) (st := st ++ [(p : Int)]) (p := (p : Int)) (d := x) (by simp) (by simpa using hx)
      rw [Int.toNat_natCast] at hs
      rw [hb B h1, prun_cons hs, show (ds.length : Int) = ((ds.set p (x + 1)).length : Int) by simp, h2, hxs, prun_cons (pstep_close (by simp))]
      simp
    · obtain ⟨B, h1, h2⟩ := hin [] []
      have h3 := h2 (41 :: rest)
      simp only [List.nil_append, List.length_nil] at h3
      rw [hb B h1, prun_cons pstep_first]
      rw [show ((0 : Nat) : Int) = 0 from rfl] at h3
      rw [h3, hxs, prun_cons (pstep_close (by simp))]
      rfl
theorem text_back {f : Nat} {xs : List Int} (ht : isTree xs = true) (hf : xs.length ≤ f) : prun [] [] (bytes (textL f xs)) = some (xs, []) := by
  have := (text_read f xs ht hf []).2
  simpa [prun] using this
theorem text_parse {f : Nat} {xs : List Int} (ht : isTree xs = true) (hf : xs.length ≤ f) : parse (bytes (textL f xs)) = (xs, 0) := by
  have h1 := textL_size f xs ht hf
  have h2 := tree_len ht
  refine parse_done (by rw [bytes_length]; omega) (text_back ht hf) (fun e => ?_)
  subst e
  simp at h2
theorem text_inj {f g : Nat} {xs ys : List Int} (ht : isTree xs = true) (hf : xs.length ≤ f) (hu : isTree ys = true) (hg : ys.length ≤ g) (h : textL f xs = textL g ys) : xs = ys := by
  have h1 := text_back ht hf
  rw [h, text_back hu hg] at h1
  injection h1 with h1
  injection h1 with h1
  exact h1.symm
end Go.Proofs.Ytdgcjkgbglofbaa.M

/- Mirrored trees: the mathematics. No program is named here. -/
namespace Go.Proofs.Ytdgcjkgbglofbaa.M
/-- the mirrored tree, f levels deep at most -/
def mirL : Nat → List Int → List Int
  | 0, _ => []
  | f + 1, xs => (xs[0]?.getD 0) :: (List.range (xs[0]?.getD 0).toNat).flatMap fun j => mirL f (sub xs (kidAt xs 0 ((xs[0]?.getD 0).toNat - 1 - j)))
/-- what has come when k children, from the last one on, have been taken -/
def mirK (f : Nat) (xs : List Int) (d k : Nat) : List Int := (d : Int) :: (List.range k).flatMap fun j => mirL f (sub xs (kidAt xs 0 (d - 1 - j)))
theorem mirK_zero (f : Nat) (xs : List Int) (d : Nat) : mirK f xs d 0 = [(d : Int)] := rfl
theorem mirK_succ (f : Nat) (xs : List Int) (d k : Nat) : mirK f xs d (k + 1) = mirK f xs d k ++ mirL f (sub xs (kidAt xs 0 (d - 1 - k))) := by simp [mirK, List.range_succ]
theorem mirL_at {f : Nat} {xs : List Int} {d : Nat} (h : xs[0]? = some (d : Int)) : mirL (f + 1) xs = mirK f xs d d := by rw [mirL, h]; rfl
theorem mirK_len {f : Nat} {xs : List Int} (ih : ∀ ys, isTree ys = true → ys.length ≤ f → (mirL f ys).length = ys.length) (ht : isTree xs = true) (hf : xs.length ≤ f + 1) {d : Nat} (hd : xs[0]? = some (d : Int)) : ∀ k, k ≤ d → (mirK f xs d k).length + kidAt xs 0 (d - k) = xs.length + 1 := by
  intro k
  induction k with
  | zero => intro _; rw [mirK_zero, Nat.sub_zero, kids_all ht hd]; simp; omega
  | succ k ihk =>
    intro hk
    have h1 := sub_short ht hd (i := d - 1 - k) (by omega)
    have h2 := kid_lt ht hd (i := d - 1 - k) (by omega)
    have h3 := ihk (by omega)
    rw [mirK_succ, List.length_append, ih _ (sub_tree ht h2) (by omega), sub_length]
    have e : kidAt xs 0 (d - k) = kidAt xs 0 (d - 1 - k) + span 1 (xs.drop (kidAt xs 0 (d - 1 - k))) := by
      rw [show d - k = (d - 1 - k) + 1 by omega, kidAt]
    rw [show d - (k + 1) = d - 1 - k by omega]
    omega
theorem mirL_len : ∀ (f : Nat) (xs : List Int), isTree xs = true → xs.length ≤ f → (mirL f xs).length = xs.length := by
  intro f
  induction f with
  | zero => intro xs ht h; have := (tree_len ht).1; omega
  | succ f ih =>
    intro xs ht hf
    have hl := tree_len ht
    obtain ⟨d, hd, _⟩ := tree_degN ht (v := 0) (by omega)
    have := mirK_len ih ht hf hd d (Nat.le_refl _)
    rw [Nat.sub_self, kidAt] at this
    rw [mirL_at hd]
    omega
theorem mirK_le {f : Nat} {xs : List Int} (ht : isTree xs = true) (hf : xs.length ≤ f + 1) {d : Nat} (hd : xs[0]? = some (d : Int)) {k : Nat} (hk : k ≤ d) : (mirK f xs d k).length ≤ 24 := by
  have h1 := mirK_len (fun ys => mirL_len f ys) ht hf hd k hk
  have h2 := tree_len ht
  have h3 : 1 ≤ kidAt xs 0 (d - k) := (kid_due ht hd (d - k) (by omega)).2.2
  omega
/-- more levels than nodes change nothing -/
theorem mirL_fuel : ∀ (f g : Nat) (xs : List Int), isTree xs = true → xs.length ≤ f → xs.length ≤ g → mirL f xs = mirL g xs := by
  intro f
  induction f with
  | zero => intro g xs ht h _; have := (tree_len ht).1; omega
  | succ f ih =>
    intro g xs ht hf hg
    have hl := tree_len ht
    obtain ⟨d, hd, _⟩ := tree_degN ht (v := 0) (by omega)
    obtain ⟨g, rfl⟩ : ∃ g', g = g' + 1 := ⟨g - 1, by omega⟩
    have hK : ∀ k, k ≤ d → mirK f xs d k = mirK g xs d k := by
      intro k
      induction k with
      | zero => intro _; rfl
      | succ k ihk =>
        intro hk
        have h1 := sub_short ht hd (i := d - 1 - k) (by omega)
        have h2 := kid_lt ht hd (i := d - 1 - k) (by omega)
        rw [mirK_succ, mirK_succ, ihk (by omega), ih g _ (sub_tree ht h2) (by omega) (by omega)]
    rw [mirL_at hd, mirL_at hd, hK d (Nat.le_refl _)]
theorem mirL_all {xs : List Int} (ht : isTree xs = true) {d : Nat} (hd : xs[0]? = some (d : Int)) : mirL 24 xs = mirK 24 xs d d := by
  rw [← mirL_at hd]
  exact mirL_fuel 24 25 xs ht (tree_len ht).2 (by have := (tree_len ht).2; omega)
end Go.Proofs.Ytdgcjkgbglofbaa.M

/- What a list grows, by the model's walk: degrees and labels in preorder. Mathematics. -/
namespace Go.Proofs.Ytdgcjkgbglofbaa
namespace M
theorem flat_congr {α β : Type} {f g : α → List β} : ∀ {l : List α}, (∀ i ∈ l, f i = g i) → l.flatMap f = l.flatMap g
  | [], _ => rfl
  | a :: l, h => by rw [List.flatMap_cons, List.flatMap_cons, h a (List.mem_cons_self ..), flat_congr fun i hi => h i (List.mem_cons_of_mem _ hi)]
theorem filter_congr9 {α β : Type} {f g : α → Option β} : ∀ {l : List α}, (∀ i ∈ l, f i = g i) → l.filterMap f = l.filterMap g
  | [], _ => rfl
  | a :: l, h => by rw [List.filterMap_cons, List.filterMap_cons, h a (List.mem_cons_self ..), filter_congr9 fun i hi => h i (List.mem_cons_of_mem _ hi)]
/-- the labels that a list puts right below label j -/
def kidsOf (l : List Int) (j : Nat) : List Nat := (List.range l.length).filterMap fun i => if l[i]? = some (j : Int) then some (i + 1) else none
/-- degrees and labels of what a list grows from label j on -/
def walkF (l : List Int) : Nat → Nat → List Int × List Int
  | 0, j => ([0], [(j : Int)])
  | f + 1, j => (((kidsOf l j).length : Int) :: (kidsOf l j).flatMap fun i => (walkF l f i).1, (j : Int) :: (kidsOf l j).flatMap fun i => (walkF l f i).2)
theorem mem_kids {l : List Int} {j i : Nat} : i ∈ kidsOf l j ↔ ∃ k, i = k + 1 ∧ l[k]? = some (j : Int) := by
  rw [kidsOf, List.mem_filterMap]
  constructor
  · rintro ⟨k, _, h⟩
    split at h
    · injection h with h; exact ⟨k, h.symm, by assumption⟩
    · cases h
  · rintro ⟨k, rfl, h⟩
    exact ⟨k, List.mem_range.2 (List.getElem?_eq_some_iff.1 h).1, by rw [if_pos h]⟩
/-- a list that grows a tree: each number is at most its place -/
def Grows (l : List Int) : Prop := ∀ (k : Nat) (x : Int), l[k]? = some x → 0 ≤ x ∧ x ≤ (k : Int)
theorem kids_above {l : List Int} (h : Grows l) {j i : Nat} (hi : i ∈ kidsOf l j) : j < i ∧ i ≤ l.length := by
  obtain ⟨k, rfl, hk⟩ := mem_kids.1 hi
  have := (h k _ hk).2
  have := (List.getElem?_eq_some_iff.1 hk).1
  omega
theorem kids_snoc (l : List Int) (x : Int) (j : Nat) : kidsOf (l ++ [x]) j = kidsOf l j ++ (if x = (j : Int) then [l.length + 1] else []) := by
  rw [kidsOf, List.length_append, List.length_singleton, List.range_succ, List.filterMap_append]
  congr 1
  · rw [kidsOf]
    refine filter_congr9 fun i hi => ?_
    rw [List.getElem?_append_left (List.mem_range.1 hi)]
  · rw [List.filterMap_cons, List.getElem?_append_right (Nat.le_refl _), Nat.sub_self]
    by_cases hx : x = (j : Int)
    · simp [hx]
    · simp [hx]
theorem kids_end {l : List Int} (h : Grows l) : kidsOf l l.length = [] :=
  List.eq_nil_iff_forall_not_mem.2 fun i hi => by have := kids_above h hi; omega
theorem walk_fuel {l : List Int} (h : Grows l) : ∀ (f g j : Nat), j ≤ l.length → l.length ≤ j + f → l.length ≤ j + g → walkF l f j = walkF l g j := by
  intro f
  induction f with
  | zero =>
    intro g j hj h1 _
    obtain rfl : j = l.length := by omega
    cases g with
    | zero => rfl
    | succ g => rw [walkF, walkF, kids_end h]; rfl
  | succ f ih =>
    intro g j hj h1 h2
    cases g with
    | zero =>
      obtain rfl : j = l.length := by omega
      rw [walkF, walkF, kids_end h]; rfl
    | succ g =>
      have he : ∀ i ∈ kidsOf l j, walkF l f i = walkF l g i := fun i hi => by
        have := kids_above h hi
        exact ih g i this.2 (by omega) (by omega)
      rw [walkF, walkF]
      congr 1
      · exact congrArg _ (flat_congr fun i hi => by rw [he i hi])
      · exact congrArg _ (flat_congr fun i hi => by rw [he i hi])
/-- what a list grows from label j on -/
def W (l : List Int) (j : Nat) : List Int × List Int := walkF l (l.length - j) j
theorem W_eq {l : List Int} (h : Grows l) {j : Nat} (hj : j ≤ l.length) : W l j = (((kidsOf l j).length : Int) :: (kidsOf l j).flatMap fun i => (W l i).1, (j : Int) :: (kidsOf l j).flatMap fun i => (W l i).2) := by
  by_cases e : j = l.length
  · subst e
    rw [W, Nat.sub_self, walkF, kids_end h]; rfl
  · obtain ⟨f, hf⟩ : ∃ f, l.length - j = f + 1 := ⟨l.length - j - 1, by omega⟩
    have he : ∀ i ∈ kidsOf l j, walkF l f i = W l i := fun i hi => by
      have := kids_above h hi
      exact walk_fuel h f (l.length - i) i this.2 (by omega) (by omega)
    rw [W, hf, walkF]
    congr 1
    · exact congrArg _ (flat_congr fun i hi => by rw [he i hi])
    · exact congrArg _ (flat_congr fun i hi => by rw [he i hi])
theorem W_induct {P : Nat → Prop} {n : Nat} (h : ∀ j, j ≤ n → (∀ i, j < i → i ≤ n → P i) → P j) : ∀ j, j ≤ n → P j := by
  have : ∀ d j, j ≤ n → n ≤ j + d → P j := by
    intro d
    induction d with
    | zero => intro j hj hd; exact h j hj fun i h1 h2 => by omega
    | succ d ih => intro j hj hd; exact h j hj fun i h1 h2 => ih i h2 (by omega)
  exact fun j hj => this n j hj (by omega)
theorem mem_W {l : List Int} (h : Grows l) {j : Nat} (hj : j ≤ l.length) {q : Int} : q ∈ (W l j).2 ↔ q = j ∨ ∃ i ∈ kidsOf l j, q ∈ (W l i).2 := by
  rw [W_eq h hj, List.mem_cons, List.mem_flatMap]
/-- labels are at least the root's -/
theorem W_ge {l : List Int} (h : Grows l) : ∀ j, j ≤ l.length → ∀ q ∈ (W l j).2, (j : Int) ≤ q ∧ q ≤ l.length := by
  refine W_induct fun j hj ih q hq => ?_
  rcases (mem_W h hj).1 hq with rfl | ⟨i, hi, hq⟩
  · omega
  · have := kids_above h hi
    have := ih i this.1 this.2 q hq
    omega
/-- what is below one is below what is above it -/
theorem W_up {l : List Int} (h : Grows l) : ∀ j, j ≤ l.length → ∀ q : Nat, (q : Int) ∈ (W l j).2 → q = j ∨ ∃ m : Nat, q ∈ kidsOf l m ∧ (m : Int) ∈ (W l j).2 := by
  refine W_induct fun j hj ih q hq => ?_
  rcases (mem_W h hj).1 hq with e | ⟨i, hi, hq⟩
  · exact .inl (by omega)
  · have hk := kids_above h hi
    rcases ih i hk.1 hk.2 q hq with e | ⟨m, h1, h2⟩
    · subst e
      exact .inr ⟨j, hi, (mem_W h hj).2 (.inl rfl)⟩
    · exact .inr ⟨m, h1, (mem_W h hj).2 (.inr ⟨i, hi, h2⟩)⟩
theorem kids_one {l : List Int} {m m' q : Nat} (h : q ∈ kidsOf l m) (h' : q ∈ kidsOf l m') : m = m' := by
  obtain ⟨k, rfl, hk⟩ := mem_kids.1 h
  obtain ⟨k', e, hk'⟩ := mem_kids.1 h'
  obtain rfl : k = k' := by omega
  rw [hk] at hk'
  injection hk' with hk'
  omega
/-- the children's labels are apart -/
theorem W_apart {l : List Int} (h : Grows l) {j i i' : Nat} (hi : i ∈ kidsOf l j) (hi' : i' ∈ kidsOf l j) : ∀ q : Nat, (q : Int) ∈ (W l i).2 → (q : Int) ∈ (W l i').2 → i = i' := by
  intro q
  induction q using Nat.strongRecOn with
  | _ q ih =>
    intro h1 h2
    have k1 := kids_above h hi
    have k2 := kids_above h hi'
    rcases W_up h i k1.2 q h1 with e | ⟨m, a1, a2⟩
    · rcases W_up h i' k2.2 q h2 with e' | ⟨m, b1, b2⟩
      · omega
      · subst e
        obtain rfl := kids_one hi b1
        have := (W_ge h i' k2.2 _ b2).1
        omega
    · rcases W_up h i' k2.2 q h2 with e' | ⟨m', b1, b2⟩
      · subst e'
        obtain rfl := kids_one hi' a1
        have := (W_ge h i k1.2 _ a2).1
        omega
      · obtain rfl := kids_one a1 b1
        exact ih m (kids_above h a1).1 a2 b2
theorem kids_lt (l : List Int) (j : Nat) : (kidsOf l j).Pairwise (· < ·) := by
  rw [kidsOf, List.pairwise_filterMap]
  refine List.pairwise_lt_range.imp fun {a a'} h b hb b' hb' => ?_
  split at hb
  · split at hb'
    · injection hb with hb
      injection hb' with hb'
      omega
    · cases hb'
  · cases hb
theorem grows_snoc {l : List Int} (h : Grows l) {p : Nat} (hp : p ≤ l.length) : Grows (l ++ [(p : Int)]) := fun k x hx => by
  rcases Nat.lt_or_ge k l.length with hk | hk
  · rw [List.getElem?_append_left hk] at hx; exact h k x hx
  · rw [List.getElem?_append_right hk] at hx
    have := (List.getElem?_eq_some_iff.1 hx).1
    simp at this
    rw [show k - l.length = 0 by omega] at hx
    injection hx with hx
    omega
theorem flat_lenW {α : Type} {f g : α → List Int} : ∀ {l : List α}, (∀ i ∈ l, (f i).length = (g i).length) → (l.flatMap f).length = (l.flatMap g).length
  | [], _ => rfl
  | a :: l, h => by rw [List.flatMap_cons, List.flatMap_cons, List.length_append, List.length_append, h a (List.mem_cons_self ..), flat_lenW fun i hi => h i (List.mem_cons_of_mem _ hi)]
theorem W_len {l : List Int} (h : Grows l) : ∀ j, j ≤ l.length → (W l j).1.length = (W l j).2.length := by
  refine W_induct fun j hj ih => ?_
  rw [W_eq h hj]
  show _ + 1 = _ + 1
  rw [flat_lenW fun i hi => ih i (kids_above h hi).1 (kids_above h hi).2]
def bump : List Int → List Int
  | [] => []
  | d :: r => (d + 1) :: r
theorem bump_app {x : List Int} (h : x ≠ []) (y : List Int) : bump (x ++ y) = bump x ++ y := by
  cases x with
  | nil => exact absurd rfl h
  | cons a x => rfl
theorem W_new {l : List Int} (h : Grows l) {p : Nat} (hp : p ≤ l.length) : W (l ++ [(p : Int)]) (l.length + 1) = ([0], [((l.length + 1 : Nat) : Int)]) := by
  have hl : (l ++ [(p : Int)]).length = l.length + 1 := by simp
  have h' := grows_snoc h hp
  have := kids_end h'
  rw [hl] at this
  rw [W_eq h' (by rw [hl]; exact Nat.le_refl _), this]; rfl
/-- one number more: one child more, the last one, below the label that is told -/
theorem W_step {l : List Int} (h : Grows l) {p : Nat} (hp : p ≤ l.length) : ∀ j, j ≤ l.length →
    ((p : Int) ∉ (W l j).2 → W (l ++ [(p : Int)]) j = W l j) ∧
    ((p : Int) ∈ (W l j).2 → ∃ a b c d, (W l j).2 = a ++ (W l p).2 ++ b ∧ (W l j).1 = c ++ (W l p).1 ++ d ∧ c.length = a.length ∧
      (W (l ++ [(p : Int)]) j).2 = a ++ (W l p).2 ++ [((l.length + 1 : Nat) : Int)] ++ b ∧ (W (l ++ [(p : Int)]) j).1 = c ++ bump (W l p).1 ++ [0] ++ d) := by
  have h' := grows_snoc h hp
  have hl : (l ++ [(p : Int)]).length = l.length + 1 := by simp
  refine W_induct fun j hj ih => ?_
  have e' := W_eq h' (j := j) (by rw [hl]; omega)
  have e := W_eq h hj
  rw [kids_snoc] at e'
  by_cases hpj : p = j
  · subst hpj
    refine ⟨fun hn => absurd ((mem_W h hj).2 (.inl rfl)) hn, fun _ => ⟨[], [], [], [], by simp, by simp, rfl, ?_, ?_⟩⟩
    all_goals
      have hs : ∀ i ∈ kidsOf l p, W (l ++ [(p : Int)]) i = W l i := fun i hi => by
        have hk := kids_above h hi
        refine (ih i hk.1 hk.2).1 fun hm => ?_
        have := (W_ge h i hk.2 _ hm).1
        omega
      rw [e', e, if_pos rfl, List.flatMap_append, List.flatMap_append]
      simp only [List.flatMap_singleton, W_new h hp]
    · rw [flat_congr fun i hi => by rw [hs i hi]]; simp
    · rw [flat_congr fun i hi => by rw [hs i hi]]; simp [bump]
  · rw [if_neg (fun e => hpj (by omega)), List.append_nil] at e'
    constructor
    · intro hn
      have hs : ∀ i ∈ kidsOf l j, W (l ++ [(p : Int)]) i = W l i := fun i hi => by
        have hk := kids_above h hi
        exact (ih i hk.1 hk.2).1 fun hm => hn ((mem_W h hj).2 (.inr ⟨i, hi, hm⟩))
      rw [e', e, flat_congr fun i hi => by rw [hs i hi], flat_congr (f := fun i => (W (l ++ [(p : Int)]) i).2) fun i hi => by rw [hs i hi]]
    · intro hm
      rcases (mem_W h hj).1 hm with e0 | ⟨i, hi, hmi⟩
      · exact absurd (by omega) hpj
      · have hk := kids_above h hi
        obtain ⟨a, b, c, d, h1, h2, h3, h4, h5⟩ := (ih i hk.1 hk.2).2 hmi
        obtain ⟨s, t, hst⟩ := List.append_of_mem hi
        have hlt := kids_lt l j
        rw [hst] at hlt
        have hne : ∀ i' ∈ s ++ t, i' ≠ i := fun i' hi' => by
          rw [List.pairwise_append] at hlt
          obtain ⟨_, h2, h3⟩ := hlt
          rw [List.pairwise_cons] at h2
          rcases List.mem_append.1 hi' with hs | ht
          · have := h3 i' hs i (List.mem_cons_self ..); omega
          · have := h2.1 i' ht; omega
        have hs : ∀ i' ∈ s ++ t, W (l ++ [(p : Int)]) i' = W l i' := fun i' hi' => by
          have hin : i' ∈ kidsOf l j := by
            rw [hst]
            rcases List.mem_append.1 hi' with hs | ht
            · exact List.mem_append_left _ hs
            · exact List.mem_append_right _ (List.mem_cons_of_mem _ ht)
          have hk' := kids_above h hin
          exact (ih i' hk'.1 hk'.2).1 fun hm' => hne i' hi' (W_apart h hin hi p hm' hmi)
        have hs1 : ∀ f : List Int × List Int → List Int, (s.flatMap fun i => f (W (l ++ [(p : Int)]) i)) = s.flatMap fun i => f (W l i) := fun f => flat_congr fun i hi => by rw [hs i (List.mem_append_left _ hi)]
        have hs2 : ∀ f : List Int × List Int → List Int, (t.flatMap fun i => f (W (l ++ [(p : Int)]) i)) = t.flatMap fun i => f (W l i) := fun f => flat_congr fun i hi => by rw [hs i (List.mem_append_right _ hi)]
        refine ⟨(j : Int) :: (s.flatMap fun i => (W l i).2) ++ a, b ++ (t.flatMap fun i => (W l i).2), ((kidsOf l j).length : Int) :: (s.flatMap fun i => (W l i).1) ++ c, d ++ (t.flatMap fun i => (W l i).1), ?_, ?_, ?_, ?_, ?_⟩
        · rw [e]
          show (j : Int) :: ((kidsOf l j).flatMap fun i => (W l i).2) = _
          rw [hst, List.flatMap_append, List.flatMap_cons, h1]; simp
        · rw [e]
          show ((kidsOf l j).length : Int) :: ((kidsOf l j).flatMap fun i => (W l i).1) = _
          rw [hst, List.flatMap_append, List.flatMap_cons, h2]; simp
        · have : (s.flatMap fun i => (W l i).1).length = (s.flatMap fun i => (W l i).2).length := flat_lenW fun i' hi' => by
            have hk' := kids_above h (show i' ∈ kidsOf l j by rw [hst]; exact List.mem_append_left _ hi')
            exact W_len h i' hk'.2
          simp only [List.cons_append, List.length_cons, List.length_append, this, h3]
        · rw [e']
          show (j : Int) :: ((kidsOf l j).flatMap fun i => (W (l ++ [(p : Int)]) i).2) = _
          rw [hst, List.flatMap_append, List.flatMap_cons, h4, hs1 (·.2), hs2 (·.2)]; simp
        · rw [e']
          show ((kidsOf l j).length : Int) :: ((kidsOf l j).flatMap fun i => (W (l ++ [(p : Int)]) i).1) = _
          rw [hst, List.flatMap_append, List.flatMap_cons, h5, hs1 (·.1), hs2 (·.1)]; simp
theorem W_self {l : List Int} (h : Grows l) {j : Nat} (hj : j ≤ l.length) : (j : Int) ∈ (W l j).2 := (mem_W h hj).2 (.inl rfl)
theorem W_down {l : List Int} (h : Grows l) {m q : Nat} (hq : q ∈ kidsOf l m) : ∀ j, j ≤ l.length → (m : Int) ∈ (W l j).2 → (q : Int) ∈ (W l j).2 := by
  refine W_induct fun j hj ih hm => ?_
  rcases (mem_W h hj).1 hm with e | ⟨i, hi, hm⟩
  · obtain rfl : m = j := by omega
    exact (mem_W h hj).2 (.inr ⟨q, hq, W_self h (kids_above h hq).2⟩)
  · have hk := kids_above h hi
    exact (mem_W h hj).2 (.inr ⟨i, hi, ih i hk.1 hk.2 hm⟩)
/-- all labels come -/
theorem W_all {l : List Int} (h : Grows l) (q : Nat) : q ≤ l.length → (q : Int) ∈ (W l 0).2 := by
  induction q using Nat.strongRecOn with
  | _ q ih =>
    intro hq
    cases q with
    | zero => exact W_self h (Nat.zero_le _)
    | succ k =>
      have hx := List.getElem?_eq_getElem (l := l) (show k < l.length by omega)
      have hg := h k _ hx
      obtain ⟨m, hm⟩ := Int.eq_ofNat_of_zero_le hg.1
      rw [hm] at hx hg
      exact W_down h (mem_kids.2 ⟨k, rfl, hx⟩) 0 (Nat.zero_le _) (ih m (by omega) (by omega))
/-- each label comes once -/
theorem W_nodup {l : List Int} (h : Grows l) : ∀ j, j ≤ l.length → (W l j).2.Nodup := by
  refine W_induct fun j hj ih => ?_
  rw [W_eq h hj]
  show ((j : Int) :: _).Nodup
  rw [List.nodup_cons]
  constructor
  · intro hm
    obtain ⟨i, hi, hm⟩ := List.mem_flatMap.1 hm
    have hk := kids_above h hi
    have := (W_ge h i hk.2 _ hm).1
    omega
  · refine List.pairwise_flatMap.2 ⟨fun i hi => ih i (kids_above h hi).1 (kids_above h hi).2, ?_⟩
    refine (List.Pairwise.and_mem.1 (kids_lt l j)).imp fun {a b} ⟨ha, hb, hab⟩ x hx y hy e => ?_
    subst e
    have hka := kids_above h ha
    obtain ⟨q, rfl⟩ := Int.eq_ofNat_of_zero_le (show 0 ≤ x by have := (W_ge h a hka.2 _ hx).1; omega)
    have := W_apart h ha hb q hx hy
    omega
/-- where an element stands behind one that is put in -/
theorem idx_ins {u v : List Int} {x z : Int} (hz : x ≠ z) : (u ++ [z] ++ v).idxOf x = if u.length ≤ (u ++ v).idxOf x then (u ++ v).idxOf x + 1 else (u ++ v).idxOf x := by
  have e1 : (u ++ v).idxOf x = if x ∈ u then u.idxOf x else v.idxOf x + u.length := List.idxOf_append
  have e2 : (u ++ ([z] ++ v)).idxOf x = if x ∈ u then u.idxOf x else ([z] ++ v).idxOf x + u.length := List.idxOf_append
  rw [List.append_assoc, e1, e2]
  by_cases h : x ∈ u
  · have := List.idxOf_lt_length_of_mem h
    rw [if_pos h, if_pos h, if_neg (by omega)]
  · have hzx : (z == x) = false := beq_eq_false_iff_ne.2 (Ne.symm hz)
    rw [if_neg h, if_neg h, if_pos (by omega), List.singleton_append, List.idxOf_cons, hzx]
    simp only [cond_false]
    omega
end M
end Go.Proofs.Ytdgcjkgbglofbaa

/- What a list grows is a tree, and what grows from a label is the part below its node. Mathematics. -/
namespace Go.Proofs.Ytdgcjkgbglofbaa
namespace M
theorem go_app : ∀ (t : List Int) (o o' : Int) (r : List Int), 0 ≤ o → 0 ≤ o' → isGo o t = true → isGo (o + o') (t ++ r) = isGo o' r := by
  intro t
  induction t with
  | nil =>
    intro o o' r _ _ h
    simp [isGo] at h
    subst h
    rw [Int.zero_add]; rfl
  | cons d t ih =>
    intro o o' r ho ho' h
    have hp := isGo_pos _ _ h ho (by simp)
    simp only [isGo] at h
    split at h
    · cases h
    · rename_i hc
      simp at hc
      rw [List.cons_append, isGo, if_neg (by simp [hc.2.1, hc.2.2]; omega), show o + o' - 1 + d = (o - 1 + d) + o' by omega]
      exact ih _ _ _ (by omega) ho' h
theorem go_flat {f : Nat → List Int} : ∀ {ks : List Nat}, (∀ i ∈ ks, isGo 1 (f i) = true) → isGo (ks.length : Int) (ks.flatMap f) = true
  | [], _ => rfl
  | a :: ks, h => by
    rw [List.flatMap_cons, List.length_cons, show ((ks.length + 1 : Nat) : Int) = 1 + (ks.length : Int) by omega, go_app _ 1 _ _ (by omega) (by omega) (h a (List.mem_cons_self ..))]
    exact go_flat fun i hi => h i (List.mem_cons_of_mem _ hi)
theorem span_app : ∀ (t : List Int) (o : Int) (d : List Int), 0 ≤ o → isGo o t = true → span o (t ++ d) = t.length := by
  intro t
  induction t with
  | nil =>
    intro o d _ h
    simp [isGo] at h
    subst h
    exact span_stop (Int.le_refl _) _
  | cons x t ih =>
    intro o d ho h
    have hp := isGo_pos _ _ h ho (by simp)
    simp only [isGo] at h
    split at h
    · cases h
    · rename_i hc
      simp at hc
      rw [List.cons_append, span, if_neg (by omega), ih _ _ (by omega) h]; rfl
theorem kids_few (l : List Int) (j : Nat) : (kidsOf l j).length ≤ l.length := by
  rw [kidsOf]
  have := List.length_filterMap_le (fun i => if l[i]? = some (j : Int) then some (i + 1) else none) (List.range l.length)
  simpa using this
theorem W_go {l : List Int} (h : Grows l) (hl : l.length ≤ 24) : ∀ j, j ≤ l.length → isGo 1 (W l j).1 = true := by
  refine W_induct fun j hj ih => ?_
  rw [W_eq h hj]
  have := kids_few l j
  show isGo 1 (((kidsOf l j).length : Int) :: _) = true
  rw [isGo, if_neg (by simp; omega), show (1 : Int) - 1 + ((kidsOf l j).length : Int) = ((kidsOf l j).length : Int) by omega]
  exact go_flat fun i hi => ih i (kids_above h hi).1 (kids_above h hi).2
theorem perm_len : ∀ (n : Nat) (zs : List Int), zs.Nodup → (∀ x : Int, x ∈ zs ↔ 0 ≤ x ∧ x < (n : Int)) → zs.length = n := by
  intro n
  induction n with
  | zero =>
    intro zs _ h
    cases zs with
    | nil => rfl
    | cons a zs => have := (h a).1 (List.mem_cons_self ..); omega
  | succ n ih =>
    intro zs hd h
    have hm : (n : Int) ∈ zs := (h n).2 ⟨by omega, by omega⟩
    have h1 := List.length_erase_of_mem hm
    have h2 := ih (zs.erase n) (hd.erase _) (fun x => by
      rw [hd.mem_erase_iff, h x]
      constructor
      · rintro ⟨a, b⟩; omega
      · rintro ⟨a, b⟩; exact ⟨by omega, by omega⟩)
    have := List.length_pos_of_mem hm
    omega
theorem W_count {l : List Int} (h : Grows l) : (W l 0).2.length = l.length + 1 :=
  perm_len _ _ (W_nodup h 0 (Nat.zero_le _)) fun x => by
    constructor
    · intro hx
      have := W_ge h 0 (Nat.zero_le _) x hx
      omega
    · rintro ⟨h0, h1⟩
      obtain ⟨q, rfl⟩ := Int.eq_ofNat_of_zero_le h0
      exact W_all h q (by omega)
theorem W_tree {l : List Int} (h : Grows l) (hl : l.length ≤ 23) : isTree (W l 0).1 = true := by
  have h1 := W_len h 0 (Nat.zero_le _)
  have h2 := W_count h
  simp only [isTree, Bool.and_eq_true, decide_eq_true_eq]
  exact ⟨⟨by omega, by omega⟩, W_go h (by omega) 0 (Nat.zero_le _)⟩
theorem grows_take {l : List Int} (h : Grows l) (k : Nat) : Grows (l.take k) := fun i x hx => by
  refine h i x ?_
  have hl := (List.getElem?_eq_some_iff.1 hx).1
  rw [List.length_take] at hl
  rwa [List.getElem?_take_of_lt (by omega)] at hx
/-- where a label stands -/
def pos (l : List Int) (j : Nat) : Nat := (W l 0).2.idxOf (j : Int)
theorem pos_lt {l : List Int} (h : Grows l) {j : Nat} (hj : j ≤ l.length) : pos l j < l.length + 1 := by
  rw [← W_count h]; exact List.idxOf_lt_length_of_mem (W_all h j hj)
/-- one number more, told by degrees and places -/
theorem W_put {l : List Int} (h : Grows l) (hl : l.length ≤ 23) {p : Nat} (hp : p ≤ l.length) :
    ∃ c x r d : List Int, ∃ t : Int, (W l 0).1 = c ++ (t :: r) ++ d ∧ c.length = pos l p ∧ span 1 ((W l 0).1.drop (pos l p)) = r.length + 1 ∧ (W l 0).1[pos l p]? = some t ∧
      (W (l ++ [(p : Int)]) 0).1 = c ++ ((t + 1) :: r) ++ [0] ++ d ∧ x = [] ∧
      pos (l ++ [(p : Int)]) (l.length + 1) = pos l p + (r.length + 1) ∧
      (∀ j, j ≤ l.length → pos (l ++ [(p : Int)]) j = if pos l p + (r.length + 1) ≤ pos l j then pos l j + 1 else pos l j) := by
  obtain ⟨a, b, c, d, h1, h2, h3, h4, h5⟩ := (W_step h hp 0 (Nat.zero_le _)).2 (W_all h p hp)
  have hn := W_nodup h 0 (Nat.zero_le _)
  have hgo := W_go h (by omega) p hp
  have hlen := W_len h p hp
  have hself : ∃ s, (W l p).2 = (p : Int) :: s := ⟨_, by rw [W_eq h hp]⟩
  obtain ⟨s, hs⟩ := hself
  obtain ⟨t, r, htr⟩ : ∃ t r, (W l p).1 = t :: r := ⟨_, _, by rw [W_eq h hp]⟩
  have hpos : pos l p = a.length := by
    rw [pos, h1, hs, List.append_assoc, List.idxOf_append, if_neg, List.cons_append, List.idxOf_cons_self, Nat.zero_add]
    intro hm
    rw [h1, hs, List.append_assoc, List.nodup_append] at hn
    exact hn.2.2 _ hm _ (by simp) rfl
  have hbump : bump (W l p).1 = (t + 1) :: r := by rw [htr]; rfl
  have hsl : (W l p).2.length = r.length + 1 := by rw [← hlen, htr]; rfl
  rw [htr] at h2 h5 hgo
  refine ⟨c, [], r, d, t, h2, by rw [hpos, h3], ?_, ?_, ?_, rfl, ?_, ?_⟩
  · rw [hpos, ← h3, h2, List.append_assoc, List.drop_left, span_app _ _ _ (by omega) hgo]; rfl
  · rw [hpos, ← h3, h2, List.append_assoc, List.getElem?_append_right (Nat.le_refl _), Nat.sub_self]; rfl
  · rw [h5]; rfl
  · rw [pos, h4, List.append_assoc, List.idxOf_append, if_neg, List.singleton_append, List.idxOf_cons_self, Nat.zero_add, List.length_append, hsl, hpos]
    intro hm
    have hm' : ((l.length + 1 : Nat) : Int) ∈ (W l 0).2 := by rw [h1]; exact List.mem_append_left _ hm
    have := W_ge h 0 (Nat.zero_le _) _ hm'
    omega
  · intro j hj
    have := idx_ins (u := a ++ (W l p).2) (v := b) (x := (j : Int)) (z := ((l.length + 1 : Nat) : Int)) (by omega)
    rw [pos, h4, this, List.length_append, hsl, ← h1, hpos]
    rfl
end M
end Go.Proofs.Ytdgcjkgbglofbaa

/- A tree that is mirrored twice is the tree. Mathematics. -/
namespace Go.Proofs.Ytdgcjkgbglofbaa
namespace M
theorem go_split : ∀ (l : List Int) (o k : Int), 0 ≤ o → 0 ≤ k → isGo (o + k) l = true → isGo o (l.take (span o l)) = true ∧ isGo k (l.drop (span o l)) = true := by
  intro l
  induction l with
  | nil =>
    intro o k ho hk h
    simp [isGo] at h
    simp only [span, List.take_nil, List.drop_nil, isGo]
    constructor <;> simp <;> omega
  | cons d r ih =>
    intro o k ho hk h
    rcases Int.lt_or_le 0 o with h0 | h0
    · simp only [isGo] at h
      split at h
      · cases h
      · rename_i hc
        simp at hc
        rw [show o + k - 1 + d = (o - 1 + d) + k by omega] at h
        have := ih (o - 1 + d) k (by omega) hk h
        rw [span, if_neg (by omega), List.take_succ_cons, List.drop_succ_cons]
        refine ⟨?_, this.2⟩
        rw [isGo, if_neg (by simp [hc.2.1, hc.2.2]; omega)]
        exact this.1
    · obtain rfl : o = 0 := by omega
      rw [span_stop (Int.le_refl _)]
      refine ⟨rfl, ?_⟩
      rw [Int.zero_add] at h
      exact h
theorem go_list : ∀ (k : Nat) (l : List Int), isGo (k : Int) l = true → ∃ ts : List (List Int), ts.length = k ∧ (∀ t ∈ ts, isGo 1 t = true) ∧ l = ts.flatten := by
  intro k
  induction k with
  | zero =>
    intro l h
    refine ⟨[], rfl, fun t ht => by simp at ht, ?_⟩
    cases l with
    | nil => rfl
    | cons d r => simp [isGo] at h
  | succ k ih =>
    intro l h
    rw [show ((k + 1 : Nat) : Int) = 1 + (k : Int) by omega] at h
    obtain ⟨h1, h2⟩ := go_split l 1 k (by omega) (by omega) h
    obtain ⟨ts, e1, e2, e3⟩ := ih _ h2
    refine ⟨l.take (span 1 l) :: ts, by simp [e1], fun t ht => ?_, ?_⟩
    · rcases List.mem_cons.1 ht with rfl | ht
      · exact h1
      · exact e2 t ht
    · rw [List.flatten_cons, ← e3, List.take_append_drop]
/-- a tree has trees below its root -/
theorem go_tree {xs : List Int} (h : isGo 1 xs = true) : ∃ ts : List (List Int), (∀ t ∈ ts, isGo 1 t = true) ∧ xs = (ts.length : Int) :: ts.flatten ∧ ts.length ≤ 24 := by
  cases xs with
  | nil => simp [isGo] at h
  | cons d r =>
    simp only [isGo] at h
    split at h
    · cases h
    · rename_i hc
      simp at hc
      rw [show (1 : Int) - 1 + d = d by omega] at h
      obtain ⟨k, rfl⟩ := Int.eq_ofNat_of_zero_le hc.1
      obtain ⟨ts, e1, e2, e3⟩ := go_list k r h
      exact ⟨ts, e2, by rw [e1, ← e3], by omega⟩
theorem go_mk {ts : List (List Int)} (h : ∀ t ∈ ts, isGo 1 t = true) (hl : ts.length ≤ 24) : isGo 1 ((ts.length : Int) :: ts.flatten) = true := by
  rw [isGo, if_neg (by simp; omega), show (1 : Int) - 1 + (ts.length : Int) = (ts.length : Int) by omega]
  have : ∀ ts : List (List Int), (∀ t ∈ ts, isGo 1 t = true) → isGo (ts.length : Int) ts.flatten = true := by
    intro ts
    induction ts with
    | nil => intro _; rfl
    | cons a ts ih =>
      intro h
      rw [List.flatten_cons, List.length_cons, show ((ts.length + 1 : Nat) : Int) = 1 + (ts.length : Int) by omega, go_app _ 1 _ _ (by omega) (by omega) (h a (List.mem_cons_self ..))]
      exact ih fun t ht => h t (List.mem_cons_of_mem _ ht)
  exact this ts h
theorem kid_mk {ts : List (List Int)} (h : ∀ t ∈ ts, isGo 1 t = true) : ∀ i, i ≤ ts.length → kidAt ((ts.length : Int) :: ts.flatten) 0 i = 1 + (ts.take i).flatten.length ∧
    ((ts.length : Int) :: ts.flatten).drop (1 + (ts.take i).flatten.length) = (ts.drop i).flatten := by
  have hd : ∀ i, ((ts.length : Int) :: ts.flatten).drop (1 + (ts.take i).flatten.length) = (ts.drop i).flatten := fun i => by
    rw [Nat.add_comm, List.drop_succ_cons]
    have : ts.flatten = (ts.take i).flatten ++ (ts.drop i).flatten := by rw [← List.flatten_append, List.take_append_drop]
    rw [this, List.drop_left]
  intro i
  induction i with
  | zero => intro _; exact ⟨by simp [kidAt], hd 0⟩
  | succ i ih =>
    intro hi
    obtain ⟨h1, h2⟩ := ih (by omega)
    refine ⟨?_, hd _⟩
    rw [kidAt, h1, h2, List.drop_eq_getElem_cons (show i < ts.length by omega), List.flatten_cons, span_app _ _ _ (by omega) (h _ (List.getElem_mem _)), List.take_succ_eq_append_getElem (by omega), List.flatten_append, List.length_append]
    simp
    omega
theorem sub_mk {ts : List (List Int)} (h : ∀ t ∈ ts, isGo 1 t = true) {i : Nat} (hi : i < ts.length) : sub ((ts.length : Int) :: ts.flatten) (kidAt ((ts.length : Int) :: ts.flatten) 0 i) = ts[i] := by
  obtain ⟨h1, h2⟩ := kid_mk h i (by omega)
  rw [sub, h1, h2, List.drop_eq_getElem_cons hi, List.flatten_cons, span_app _ _ _ (by omega) (h _ (List.getElem_mem _)), List.take_left]
theorem mir_mk (f : Nat) {ts : List (List Int)} (h : ∀ t ∈ ts, isGo 1 t = true) : mirL (f + 1) ((ts.length : Int) :: ts.flatten) = (ts.length : Int) :: (ts.reverse.map (mirL f)).flatten := by
  rw [mirL_at (d := ts.length) rfl, mirK, List.flatMap_def]
  congr 2
  apply List.ext_getElem
  · simp
  · intro j h1 h2
    simp only [List.length_map, List.length_range] at h1
    simp only [List.getElem_map, List.getElem_range, List.getElem_reverse]
    rw [sub_mk h (show ts.length - 1 - j < ts.length by omega)]
theorem len_mem {ts : List (List Int)} {t : List Int} (h : t ∈ ts) : t.length ≤ ts.flatten.length := by
  induction ts with
  | nil => simp at h
  | cons a ts ih =>
    rw [List.flatten_cons, List.length_append]
    rcases List.mem_cons.1 h with rfl | h
    · omega
    · have := ih h; omega
theorem mir_two : ∀ (f : Nat) (xs : List Int), isGo 1 xs = true → xs.length ≤ f → isGo 1 (mirL f xs) = true ∧ mirL f (mirL f xs) = xs := by
  intro f
  induction f with
  | zero =>
    intro xs h hl
    obtain rfl : xs = [] := List.eq_nil_of_length_eq_zero (by omega)
    simp [isGo] at h
  | succ f ih =>
    intro xs h hl
    obtain ⟨ts, h1, h2, h3⟩ := go_tree h
    subst h2
    rw [mir_mk f h1]
    have hlen : ∀ t ∈ ts, t.length ≤ f := fun t ht => by
      have := len_mem ht
      simp only [List.length_cons] at hl
      omega
    have hu : ∀ u ∈ ts.reverse.map (mirL f), isGo 1 u = true := fun u hu => by
      obtain ⟨t, ht, rfl⟩ := List.mem_map.1 hu
      have ht := List.mem_reverse.1 ht
      exact (ih t (h1 t ht) (hlen t ht)).1
    have hul : (ts.reverse.map (mirL f)).length = ts.length := by simp
    have e : (ts.length : Int) = ((ts.reverse.map (mirL f)).length : Int) := by rw [hul]
    rw [e]
    refine ⟨go_mk hu (by rw [hul]; exact h3), ?_⟩
    rw [mir_mk f hu, ← List.map_reverse, List.reverse_reverse, List.map_map]
    have : ∀ t ∈ ts, (mirL f ∘ mirL f) t = id t := fun t ht => (ih t (h1 t ht) (hlen t ht)).2
    rw [List.map_congr_left this, List.map_id, hul]
theorem mir_back {xs : List Int} (ht : isTree xs = true) : isTree (mirL 24 xs) = true ∧ mirL 24 (mirL 24 xs) = xs := by
  have hl := tree_len ht
  have h := mir_two 24 xs (tree_go ht) hl.2
  have hm := mirL_len 24 xs ht hl.2
  refine ⟨?_, h.2⟩
  simp only [isTree, Bool.and_eq_true, decide_eq_true_eq, hm]
  exact ⟨hl, h.1⟩
end M
end Go.Proofs.Ytdgcjkgbglofbaa

/- A drawn tree: the model's draws l01Small and l01Draw. -/
namespace Go.Proofs.Ytdgcjkgbglofbaa
open Go.RowKit

/-- a tree of the call's own comes out, the source goes on -/
def DrawnT (w w' : World) (B g : Nat) (e : Ending) : Prop :=
  ∃ (n : Nat) (A' : Option Addr) (c' : Nat) (ds : List Int), e = .returned (.agg #[.slice A' n c']) ∧ (1 ≤ n ∧ n ≤ 24) ∧ Hid (ds.length = n) ∧ Hid (M.isTree ds = true) ∧ Hid (Own64 w' w.heap.size (.slice A' n c') ds) ∧ Hid (Src w' B g) ∧ Hid (w.grownBy w' (some g))
theorem res_keep {w1 w2 : World} {R g : Nat} {o : Obj} (h : w1.heap[R]? = some o) (hg : w1.grownBy w2 (some g)) (hne : R ≠ g) : w2.heap[R]? = some o :=
  (hg.block R (Array.getElem?_eq_some_iff.1 h).1 (fun e => by injection e with e; exact hne e)).trans h
theorem drawn_end {w w2 : World} {B g D n c : Nat} {A : Option Addr} {ds : List Int} (v : Value) (hD : w.heap.size < D) (ho : Own64 w2 D (.slice A n c) ds) (hS : Src w2 B g) (hg : w.grownBy w2 (some g)) (hgl : g < w.heap.size) :
    Own64 (w2.setCell ⟨w.heap.size, 0, none⟩ v) w.heap.size (.slice A n c) ds ∧ Src (w2.setCell ⟨w.heap.size, 0, none⟩ v) B g ∧ w.grownBy (w2.setCell ⟨w.heap.size, 0, none⟩ v) (some g) :=
  ⟨own_mono (own_far ho hD _) (by omega), hS.kept (src_grown w2 w.heap.size 0 _) (fun k e => by injection e with e; have := hS.1; omega), src_trans hg (below_setCell (Below.refl w.heap.size w2) (Nat.le_refl _) _) (Nat.le_refl _)⟩

set_option maxRecDepth 100000 in
set_option maxHeartbeats 4000000 in
theorem l01Small (w : World) (B g : Nat) (hS : Hid (Src w B g)) :
    Calls Try.prog 189 #[.pointer (some ⟨g, 0, none⟩)] w fun e w' => DrawnT w w' B g e := by
  have hgl := hS.out.lt
  have hS0 := Lib.hid (hS.out.be (bal (b0 w) (.cells #[.slice none 0 0] 26)))
  have hr0 : Hid ((w.alloc (.cells #[.slice none 0 0] 26)).heap[w.heap.size]? = some (.cells #[.slice none 0 0] 26 (0, 0))) := heap_alloc_new w _
  have hz0 : (w.alloc (.cells #[.slice none 0 0] 26)).heap.size = w.heap.size + 1 := by simp
  have hg0 : Hid (w.grownBy (w.alloc (.cells #[.slice none 0 0] 26)) (some g)) := src_of (bal (b0 w) _)
  go_enter Try.func189, Try.ntmps189
  go_wp2_with fail
  refine (l01Next 6 _ B g (by omega) hS0).mono ?_
  rintro e w1 ⟨r, rfl, ⟨hr1, hr2⟩, hS1, hg1⟩
  obtain ⟨k, rfl⟩ := Int.eq_ofNat_of_zero_le hr1
  have hwk : IntKind.i64.wrap (1 + (k : Int)) = ((1 + k : Nat) : Int) := by rw [IntWalk.i64_in _ (by omega)]; omega
  have hz1 := hg1.out.size
  have hr3 := Lib.hid (res_keep hr0.out hg1.out (by omega))
  have hg2 := Lib.hid (src_tr hg0.out hg1.out)
  clear hg0 hg1 hr0
  go_wp2_with fail
  have hcall := l01DrawOf (1 + k) w1 B g (by omega) (by omega) hS1
  rw [← hwk] at hcall
  rw [IntWalk.i64_in _ (by omega)] at hcall
  refine hcall.mono ?_
  rintro e w2 ⟨A', c', ds, rfl, hl, ht, ho, hS2, hg3⟩
  have hr4 := res_keep hr3.out hg3.out (by omega)
  have hrc := cell_of_one hr4
  have hrf := free_of_one hr4
  obtain ⟨f1, f2, f3⟩ := drawn_end (w := w) (.slice A' (1 + k) c') (by omega) ho.out hS2.out (src_tr hg2.out hg3.out) hgl
  have F1 := Lib.hid f1
  have F2 := Lib.hid f2
  have F3 := Lib.hid f3
  clear f1 f2 f3
  go_wp2
  refine bodyPost_ret (v := .agg #[.slice A' (1 + k) c']) (by simp [results, Try.results189, go_sem, hrc]) rfl ?_
  exact ⟨1 + k, A', c', ds, rfl, ⟨by omega, by omega⟩, hl, ht, F1, F2, F3⟩

theorem grown_over9 {w w1 : World} {o : Obj} {r : Option Nat} (h : (w.alloc o).grownBy w1 r) : w.grownBy w1 r := src_tr (World.grownBy_alloc w o r) h
/-- append of one header to a row of headers -/
theorem pushHdr {ops : Array Oper} {rest : List Oper} {o : Oper} {a : Act} {Q : Exit → Act → World → Prop} (hgd : o.guard = none) (s x : Operand)
    (ho : o.op = .call { callee := .builtin .append, args := #[s, x], argTypes := #[56, 56] }) (w : World) (B : Nat) (A : Option Addr) (n c : Nat) (vs : List Value) (Ay : Option Addr) (ny cy : Nat)
    (hs0 : a.eval s = .slice A n c) (hx : a.eval x = .slice (some ⟨w.heap.size, 0, none⟩) 1 1) (hW : Hid (w.ownsRow B 26 1 (.slice A n c) n vs)) (hB : B ≤ w.heap.size) (hlen : n ≤ 1000000)
    (h : ∀ A' c' w', Hid (w'.ownsRow B 26 1 (.slice A' (n + 1) c') (n + 1) (vs ++ [.slice Ay ny cy])) → Hid (w.grownBy w' (Value.slice A n c).ownBlock) → Hid (Below B w w') → wpList Try.prog ops Q rest (a.put o.dst (.slice A' (n + 1) c')) w') :
    wpList Try.prog ops Q (o :: rest) a (w.alloc (.cells #[.slice Ay ny cy] 26)) := by
  obtain ⟨i0, hi0, hz0, hz1, hz2⟩ := info_parts infoTree
  refine wpList_append_own_at _ hgd s x 56 ho B 26 i0 (.agg #[.slice none 0 0]) 1 24 Try.underlying56 hi0 hz0 hz1 hz2 rfl (by decide) _ n vs hs0 (hW.out.alloc _) ⟨w.heap.size, 0, none⟩ 1 1 [.slice Ay ny cy] hx rfl (cell_one_new _ _ _) ?_ ?_ ?_ ?_ ?_
  · intro u hu; simp at hu; subst hu; rfl
  · unfold maxLen; omega
  · omega
  · simp; omega
  · intro v' w1 hown1 hg1 _ _
    obtain ⟨A', c', rfl⟩ : ∃ A' c', v' = .slice A' (n + 1) c' := own_shape hown1
    exact h A' c' w1 hown1 (grown_over9 hg1) (((Below.refl B w).alloc hB _).grown hg1 (by simp; omega) (fun k hk => (World.ownsRow.lt hW.out k hk).1))

/-- a row of equal headers is a list of equal trees -/
theorem trees_same {w : World} {B n c m cu : Nat} {A U : Option Addr} {ds : List Int} (h : w.ownsRow B 26 1 (.slice A n c) n (List.replicate n (.slice U m cu))) (hm : ds.length = m) (hI : Ints w w.heap.size U ds) : Trees w A (List.replicate n ds) := fun hp => by
  rw [List.length_replicate] at hp
  rcases h.2 with ⟨h0, _⟩ | ⟨g, cap, cur, hv, hg, _⟩
  · injection h0 with _ e _; omega
  · injection hv with e1 e2 e3
    subst e1
    refine ⟨g, rfl, (World.ownsRow.lt h g rfl).2, fun k zs hk => ?_⟩
    rw [List.getElem?_replicate] at hk
    split at hk
    · rename_i hkn
      injection hk with hk
      subst hk
      refine ⟨U, cu, ?_, hI⟩
      rw [hm]
      exact (World.ownsRow.cellAt h k (by simp; omega)).trans (by simp [hkn])
    · cases hk

/-- rows below what is left alone -/
theorem own_lowS {w w' : World} {D base e size n : Nat} {v : Value} {xs : List Value} (h : w.ownsRow base e size v n xs) (hb : Below D w w') (hlt : ∀ b, v.ownBlock = some b → b < D) : w'.ownsRow base e size v n xs := by
  refine ⟨h.1, ?_⟩
  rcases h.2 with h2 | ⟨g, cap, cur, hv, hg, hh, r⟩
  · exact .inl h2
  · exact .inr ⟨g, cap, cur, hv, hg, (hb.block g (hlt g (by rw [hv]; rfl))).trans hh, r⟩
theorem join_tree {zss : List (List Int)} {n : Nat} (hn : zss.length = n) (hl : n ≤ 24) (h : ∀ zs ∈ zss, M.isTree zs = true) (ht : 1 + M.tot zss ≤ 24) : M.isTree (M.joinP zss n) = true := by
  have hg := M.go_mk (ts := zss) (fun t hm => M.tree_go (h t hm)) (by omega)
  have hlen := M.joinP_len zss n
  have e : M.joinP zss n = (zss.length : Int) :: zss.flatten := by rw [M.joinP, ← hn, List.take_length]
  rw [← hn, List.take_length] at hlen
  simp only [M.isTree, Bool.and_eq_true, decide_eq_true_eq]
  rw [← hn] at e ⊢
  rw [e] at hlen ⊢
  exact ⟨⟨by omega, by omega⟩, hg⟩

set_option maxRecDepth 100000 in
set_option maxHeartbeats 8000000 in
theorem l01Draw (w : World) (B g : Nat) (hS : Hid (Src w B g)) :
    Calls Try.prog 185 #[.pointer (some ⟨g, 0, none⟩)] w fun e w' => DrawnT w w' B g e := by
  have hgl := hS.out.lt
  have hS0 := Lib.hid (hS.out.be (bal (b0 w) (.cells #[.slice none 0 0] 26)))
  have hr0 : Hid ((w.alloc (.cells #[.slice none 0 0] 26)).heap[w.heap.size]? = some (.cells #[.slice none 0 0] 26 (0, 0))) := heap_alloc_new w _
  have hz0 : (w.alloc (.cells #[.slice none 0 0] 26)).heap.size = w.heap.size + 1 := by simp
  have hg0 : Hid (w.grownBy (w.alloc (.cells #[.slice none 0 0] 26)) (some g)) := src_of (bal (b0 w) _)
  go_enter Try.func185, Try.ntmps185
  go_wp2_with fail
  refine (l01Next 5 _ B g (by omega) hS0).mono ?_
  rintro e V ⟨r, rfl, ⟨hr1, hr2⟩, HS, hg1⟩
  have hz1 := hg1.out.size
  have HR := Lib.hid (res_keep hr0.out hg1.out (by omega))
  have HG := Lib.hid (src_tr hg0.out hg1.out)
  have hVz : w.heap.size + 1 ≤ V.heap.size := by omega
  clear hg0 hg1 hr0 hS hS0 hz0 hz1
  by_cases h0 : r = 0
  · subst h0
    go_wp2_with fail
    refine (l01Small V B g HS).mono ?_
    rintro e w2 ⟨n, A', c', ds, rfl, hn, hl, ht, ho, hS2, hg3⟩
    have hr4 := res_keep HR.out hg3.out (by omega)
    have hrc := cell_of_one hr4
    have hrf := free_of_one hr4
    obtain ⟨f1, f2, f3⟩ := drawn_end (w := w) (.slice A' n c') (by omega) ho.out hS2.out (src_tr HG.out hg3.out) hgl
    have F1 := Lib.hid f1
    have F2 := Lib.hid f2
    have F3 := Lib.hid f3
    clear f1 f2 f3
    go_wp2
    refine bodyPost_ret (v := .agg #[.slice A' n c']) (by simp [results, Try.results185, go_sem, hrc]) rfl ?_
    exact ⟨n, A', c', ds, rfl, hn, hl, ht, F1, F2, F3⟩
  · have hb0 : (r == 0) = false := by simp [h0]
    by_cases h1 : r = 1
    · subst h1
      go_wp2_with fail
      refine (l01Next 5 V B g (by omega) HS).mono ?_
      rintro e w1 ⟨r, rfl, ⟨hr1, hr2⟩, hS1, hg1⟩
      obtain ⟨k, rfl⟩ := Int.eq_ofNat_of_zero_le hr1
      have hwk : IntKind.i64.wrap (1 + (k : Int)) = ((1 + k : Nat) : Int) := by rw [IntWalk.i64_in _ (by omega)]; omega
      have hr3 := Lib.hid (res_keep HR.out hg1.out (by omega))
      have hg2 := Lib.hid (src_tr HG.out hg1.out)
      have hz2 := Nat.le_trans hVz hg1.out.size
      clear HG hg1 HR HS
      go_wp2_with fail
      have hcall := l01DrawOf (1 + k) w1 B g (by omega) (by omega) hS1
      rw [← hwk] at hcall
      rw [IntWalk.i64_in _ (by omega)] at hcall
      refine hcall.mono ?_
      rintro e w2 ⟨U, cu, ds, rfl, hl, ht, ho, hS2, hg3⟩
      have hr4 := Lib.hid (res_keep hr3.out hg3.out (by omega))
      have hg4 := Lib.hid (src_tr hg2.out hg3.out)
      have hz3 := Nat.le_trans hz2 hg3.out.size
      have ho4 := Lib.hid (own_mono (base' := w.heap.size + 1) ho.out (by omega))
      clear hr3 hg2 hg3 ho hS1 hcall
      obtain ⟨X, hX⟩ : ∃ X, X = (w2.alloc (.cells #[.slice U (1 + k) cu] 26)).alloc (.cells #[] 26) := ⟨_, rfl⟩
      have hbX : Hid (Below w2.heap.size w2 X) := by rw [hX]; exact bal (bal (b0 w2) _) _
      have hzX : X.heap.size = w2.heap.size + 1 + 1 := by rw [hX]; simp
      have hUX : Hid (X.heap[w2.heap.size]? = some (.cells #[.slice U (1 + k) cu] 26 (0, 0))) := by
        rw [hX]; exact (Below.heap_alloc _ _ _ (by simp)).trans (heap_alloc_new w2 _)
      have hLX : Hid (X.ownsRow (w2.heap.size + 1) 26 1 (.slice (some ⟨w2.heap.size + 1, 0, none⟩) 0 0) 0 []) := by
        rw [hX]
        have := World.ownsRow_made (e := 26) (size := 1) (w2.alloc (.cells #[.slice U (1 + k) cu] 26)) #[] 0 (Nat.le_refl _) (by simp [maxLen]) (by simp)
        simpa [Hid] using this
      have hub : Hid (∀ b, (Value.slice U (1 + k) cu).ownBlock = some b → b < w2.heap.size) := fun b hb => (ho4.out.lt b hb).2
      have hoX := Lib.hid (own_below ho4.out hbX.out (Nat.le_refl _))
      have hSX := Lib.hid (hS2.out.be hbX.out)
      have hrX := Lib.hid ((hbX.out.block w.heap.size (by omega)).trans hr4.out)
      have hgX := Lib.hid (src_trans hg4.out hbX.out (by omega))
      clear hbX hr4 hg4 ho4 hS2
      go_wp2_with fail
      rw [← hX]
      refine (l01Next 5 X B g (by omega) hSX).mono ?_
      rintro e w3 ⟨r, rfl, ⟨hr1, hr2⟩, hS3, hg3⟩
      obtain ⟨k3, rfl⟩ := Int.eq_ofNat_of_zero_le hr1
      have hr5 := Lib.hid (res_keep hrX.out hg3.out (by omega))
      have hU5 := Lib.hid (res_keep hUX.out hg3.out (by omega))
      have hg5 := Lib.hid (src_tr hgX.out hg3.out)
      have ho5 := Lib.hid (own_src hoX.out hg3.out (by omega))
      have hL5 := Lib.hid (own_src hLX.out hg3.out (by omega))
      have hz5 : w2.heap.size + 1 + 1 ≤ w3.heap.size := by have := hg3.out.size; omega
      clear hrX hUX hgX hoX hLX hSX hg3 hX hzX
      go_wp2
      go_loopw [4, 5] (fun q ki wr => ∃ (m kk c' : Nat) (A' : Option Addr), m + kk ≤ 4 ∧ ki = .int .i64 (kk : Int) ∧ q = .slice A' m c' ∧
          Hid (wr.ownsRow (w2.heap.size + 1) 26 1 (.slice A' m c') m (List.replicate m (.slice U (1 + k) cu))) ∧ Hid (Own64 wr (w.heap.size + 1) (.slice U (1 + k) cu) ds) ∧ Hid (Src wr B g) ∧ Hid (w.grownBy wr (some g)) ∧
          Hid (wr.heap[w.heap.size]? = some (.cells #[.slice none 0 0] 26 (0, 0))) ∧ Hid (wr.heap[w2.heap.size]? = some (.cells #[.slice U (1 + k) cu] 26 (0, 0))) ∧ w2.heap.size + 1 + 1 ≤ wr.heap.size) (fun _ ki _ => (intOf ki).toNat)
      case atStart => exact ⟨0, k3, 0, _, by omega, rfl, rfl, hL5, ho5, hS3, hg5, hr5, hU5, hz5⟩
      case round =>
        clear hr5 hU5 hg5 ho5 hL5 hS3 hz5
        obtain ⟨m, kk, c', A', hmk, rfl, rfl, hL, ho, hS, hg, hr, hU, hz⟩ := hrel
        rename World => V
        by_cases hk0 : 0 < kk
        · have hk0' : (0 : Int) < (kk : Int) := by omega
          have hcu := cell_of_one hU.out
          have hwk2 : IntKind.i64.wrap ((kk : Int) - 1) = ((kk - 1 : Nat) : Int) := by rw [IntWalk.i64_in _ (by omega)]; omega
          go_wp2_with (at_builtin; refine pushHdr rfl (.tmp 28) (.tmp 30) rfl V (w2.heap.size + 1) A' m c' (List.replicate m (.slice U (1 + k) cu)) U (1 + k) cu rfl rfl hL (by omega) (by omega) ?_; intro A2 c2 w4 hL4 _ hb4)
          go_roundw
          case rel => exact ⟨m + 1, kk - 1, c2, A2, by omega, rfl, rfl, Lib.hid (by rw [List.replicate_succ']; exact hL4.out), Lib.hid (own_lowS ho.out hb4.out (fun b hb => by have := hub.out b hb; omega)), Lib.hid (src_keep hS.out hb4.out (by omega)), Lib.hid (src_trans hg.out hb4.out (by omega)), Lib.hid ((hb4.out.block _ (by omega)).trans hr.out), Lib.hid ((hb4.out.block _ (by omega)).trans hU.out), Nat.le_trans hz hb4.out.size⟩
          case measure => simp [intOf]; omega
        · obtain rfl : kk = 0 := by omega
          have hk0' : ¬ (0 : Int) < ((0 : Nat) : Int) := by omega
          have hT := Lib.hid (trees_same hL.out hl.out (ints_of_own64 ho.out))
          have hall := Lib.hid (show ∀ zs ∈ List.replicate m ds, M.isTree zs = true from fun zs hz => by rw [(List.mem_replicate.1 hz).2]; exact ht.out)
          go_wp2_with fail
          refine (l01Join A' (List.replicate m ds) m c' V (Lib.hid (by simp)) (by omega) hall hT).mono ?_
          rintro e w5 ⟨hj1, hj2⟩
          by_cases hj : 1 + M.tot (List.replicate m ds) ≤ 24
          · obtain ⟨A5, c5, rfl, ho5, hb5⟩ := hj1 hj
            have hjt := Lib.hid (join_tree (n := m) (by simp) (by omega) hall.out hj)
            have hjl : (M.joinP (List.replicate m ds) m).length ≤ 24 ∧ 1 ≤ (M.joinP (List.replicate m ds) m).length := by have := M.tree_len hjt.out; omega
            have hr6 := (hb5.block w.heap.size (by omega)).trans hr.out
            have hrc := cell_of_one hr6
            have hrf := free_of_one hr6
            have hg6 := Lib.hid (src_trans hg.out hb5 (by omega))
            have hS6 := Lib.hid (hS.out.be hb5)
            have ho6 := Lib.hid ho5
            have hz6 := hb5.size
            generalize M.joinP (List.replicate m ds) m = js at hjt hjl ho6
            have hb7 : Hid (Below w5.heap.size w5 (w5.alloc (.cells #[.slice A5 js.length c5] 26))) := bal (b0 w5) _
            have hrc7 : (w5.alloc (.cells #[.slice A5 js.length c5] 26)).cell? ⟨w.heap.size, 0, none⟩ = some (.slice none 0 0) := cell_al hrc _
            have hrf7 : (w5.alloc (.cells #[.slice A5 js.length c5] 26)).frozen? ⟨w.heap.size, 0, none⟩ = false := free_of_one ((hb7.out.block _ (by omega)).trans hr6)
            obtain ⟨f1, f2, f3⟩ := drawn_end (w := w) (.slice A5 js.length c5) (by omega) (ho6.out.alloc (.cells #[.slice A5 js.length c5] 26)) (hS6.out.be hb7.out) (src_trans hg6.out hb7.out (by omega)) hgl
            have F1 := Lib.hid f1
            have F2 := Lib.hid f2
            have F3 := Lib.hid f3
            clear f1 f2 f3 hj1 hj2 ho5 hb5 hr6 hj
            go_wp2
            refine bodyPost_ret (v := .agg #[.slice A5 js.length c5]) (by simp [results, Try.results185, go_sem, hrc7]) rfl ?_
            exact ⟨js.length, A5, c5, js, rfl, ⟨hjl.2, hjl.1⟩, rfl, hjt, F1, F2, F3⟩
          · obtain ⟨rfl, hb5⟩ := hj2 hj
            obtain ⟨V', hV'⟩ : ∃ V', V' = w5.alloc (.cells #[.slice none 0 0] 26) := ⟨_, rfl⟩
            have hbV : Below V.heap.size V V' := by rw [hV']; exact bal hb5 _
            have HR := Lib.hid ((hbV.block w.heap.size (by omega)).trans hr.out)
            have HG := Lib.hid (src_trans hg.out hbV (by omega))
            have HS := Lib.hid (hS.out.be hbV)
            have hVz : w.heap.size + 1 ≤ V'.heap.size := by have := hbV.size; omega
            clear hj1 hj2 hb5 hbV hj hT hall hL ho hS hg hr hU hz
            have hzV : w5.heap.size + 1 = V'.heap.size := by rw [hV']; simp
            have hS4 := Lib.hid (HS.out.be (bal (b0 V') (.cells #[.int .i64 8, .int .i64 12, .int .i64 24] 2)))
            have hO := Lib.hid (off_new V' g HS.out.lt [8, 12, 24])
            simp only [List.map_cons, List.map_nil] at hO
            have hgA : Hid (V'.grownBy (V'.alloc (.cells #[.int .i64 8, .int .i64 12, .int .i64 24] 2)) (some g)) := World.grownBy_alloc _ _ _
            go_wp2_with fail
            rw [← hV']
            clear hV' hzV
            go_wp2_with fail
            refine (l01Pick (some ⟨V'.heap.size, 0, none⟩) [8, 12, 24] 3 3 _ B g rfl (by omega) (by omega) hO hS4).mono ?_
            rintro e w5 ⟨q, rfl, hq, hS5, hg5⟩
            have hqr : 8 ≤ q ∧ q ≤ 24 := by
              have := hq.out
              simp only [List.mem_cons, List.not_mem_nil, or_false] at this
              omega
            go_wp2_with fail
            refine (l01Next q w5 B g (by omega) hS5).mono ?_
            rintro e w6 ⟨r6, rfl, ⟨hr61, hr62⟩, hS6, hg6⟩
            obtain ⟨k6, rfl⟩ := Int.eq_ofNat_of_zero_le hr61
            have hwk : IntKind.i64.wrap (1 + (k6 : Int)) = ((1 + k6 : Nat) : Int) := by rw [IntWalk.i64_in _ (by omega)]; omega
            have hg7 := Lib.hid (src_tr (src_tr HG.out hgA.out) (src_tr hg5.out hg6.out))
            have hr7 := Lib.hid (res_keep (res_keep (res_keep HR.out hgA.out (by omega)) hg5.out (by omega)) hg6.out (by omega))
            have hz7 := Nat.le_trans hVz (src_tr hgA.out (src_tr hg5.out hg6.out)).size
            have hcall := l01DrawOf (1 + k6) w6 B g (by omega) (by omega) hS6
            rw [← hwk] at hcall
            rw [IntWalk.i64_in _ (by omega)] at hcall
            have HC := Lib.hid hcall
            clear hcall hg5 hg6 hgA HG HR hS4 hS5 hO hq
            go_wp2_with fail
            refine HC.out.mono ?_
            rintro e w8 ⟨A', c', ds, rfl, hl, ht, ho, hS8, hg8⟩
            have hr8 := res_keep hr7.out hg8.out (by omega)
            have hrc := cell_of_one hr8
            have hrf := free_of_one hr8
            obtain ⟨f1, f2, f3⟩ := drawn_end (w := w) (.slice A' (1 + k6) c') (by omega) ho.out hS8.out (src_tr hg7.out hg8.out) hgl
            have F1 := Lib.hid f1
            have F2 := Lib.hid f2
            have F3 := Lib.hid f3
            clear f1 f2 f3 HC
            go_wp2
            refine bodyPost_ret (v := .agg #[.slice A' (1 + k6) c']) (by simp [results, Try.results185, go_sem, hrc]) rfl ?_
            exact ⟨1 + k6, A', c', ds, rfl, ⟨by omega, by omega⟩, hl, ht, F1, F2, F3⟩
    · have hb1 : (r == 1) = false := by simp [h1]
      have hS4 := Lib.hid (HS.out.be (bal (b0 V) (.cells #[.int .i64 8, .int .i64 12, .int .i64 24] 2)))
      have hO := Lib.hid (off_new V g HS.out.lt [8, 12, 24])
      simp only [List.map_cons, List.map_nil] at hO
      have hgA : Hid (V.grownBy (V.alloc (.cells #[.int .i64 8, .int .i64 12, .int .i64 24] 2)) (some g)) := World.grownBy_alloc _ _ _
      go_wp2_with fail
      refine (l01Pick (some ⟨V.heap.size, 0, none⟩) [8, 12, 24] 3 3 _ B g rfl (by omega) (by omega) hO hS4).mono ?_
      rintro e w5 ⟨q, rfl, hq, hS5, hg5⟩
      have hqr : 8 ≤ q ∧ q ≤ 24 := by
        have := hq.out
        simp only [List.mem_cons, List.not_mem_nil, or_false] at this
        omega
      go_wp2_with fail
      refine (l01Next q w5 B g (by omega) hS5).mono ?_
      rintro e w6 ⟨r6, rfl, ⟨hr61, hr62⟩, hS6, hg6⟩
      obtain ⟨k6, rfl⟩ := Int.eq_ofNat_of_zero_le hr61
      have hwk : IntKind.i64.wrap (1 + (k6 : Int)) = ((1 + k6 : Nat) : Int) := by rw [IntWalk.i64_in _ (by omega)]; omega
      have hg7 := Lib.hid (src_tr (src_tr HG.out hgA.out) (src_tr hg5.out hg6.out))
      have hr7 := Lib.hid (res_keep (res_keep (res_keep HR.out hgA.out (by omega)) hg5.out (by omega)) hg6.out (by omega))
      have hz7 := Nat.le_trans hVz (src_tr hgA.out (src_tr hg5.out hg6.out)).size
      have hcall := l01DrawOf (1 + k6) w6 B g (by omega) (by omega) hS6
      rw [← hwk] at hcall
      rw [IntWalk.i64_in _ (by omega)] at hcall
      have HC := Lib.hid hcall
      clear hcall hg5 hg6 hgA HG HR hS4 hS5 hO hq
      go_wp2_with fail
      refine HC.out.mono ?_
      rintro e w8 ⟨A', c', ds, rfl, hl, ht, ho, hS8, hg8⟩
      have hr8 := res_keep hr7.out hg8.out (by omega)
      have hrc := cell_of_one hr8
      have hrf := free_of_one hr8
      obtain ⟨f1, f2, f3⟩ := drawn_end (w := w) (.slice A' (1 + k6) c') (by omega) ho.out hS8.out (src_tr hg7.out hg8.out) hgl
      have F1 := Lib.hid f1
      have F2 := Lib.hid f2
      have F3 := Lib.hid f3
      clear f1 f2 f3 HC
      go_wp2
      refine bodyPost_ret (v := .agg #[.slice A' (1 + k6) c']) (by simp [results, Try.results185, go_sem, hrc]) rfl ?_
      exact ⟨1 + k6, A', c', ds, rfl, ⟨by omega, by omega⟩, hl, ht, F1, F2, F3⟩
end Go.Proofs.Ytdgcjkgbglofbaa

/- append of one number to a row of the call's own, with what else is kept: no conditions. -/
namespace Go.Proofs.Ytdgcjkgbglofbaa
open Go.RowKit

/-- append of one number, with what else is kept -/
theorem push64K {ops : Array Oper} {rest : List Oper} {o : Oper} {a : Act} {Q : Exit → Act → World → Prop} (hgd : o.guard = none) (s x : Operand)
    (ho : o.op = .call { callee := .builtin .append, args := #[s, x], argTypes := #[24, 24] }) (w : World) (B : Nat) (A : Option Addr) (n c : Nat) (zs : List Int) (y : Int)
    (hs : a.eval s = .slice A n c) (N : Nat) (hx : a.eval x = .slice (some ⟨N, 0, none⟩) 1 1) (hN : N = w.heap.size) (hown : Hid (Own64 w B (.slice A n c) zs)) (hB : B ≤ w.heap.size) (hlen : n ≤ 1000000)
    (h : ∀ A' c' w', Hid (Own64 w' B (.slice A' (n + 1) c') (zs ++ [y])) → Hid ((w.alloc (.cells #[.int .i64 y] 2)).grownBy w' (Value.slice A n c).ownBlock) → Hid ((Value.slice A' (n + 1) c').ownBlock = (Value.slice A n c).ownBlock ∨ (Value.slice A' (n + 1) c').ownBlock = some (w.alloc (.cells #[.int .i64 y] 2)).heap.size) → wpList Try.prog ops Q rest (a.put o.dst (.slice A' (n + 1) c')) w') :
    wpList Try.prog ops Q (o :: rest) a (w.alloc (.cells #[.int .i64 y] 2)) := by
  subst hN
  obtain ⟨i0, hi0, hz0, hz1, hz2⟩ := info_parts info64
  have hown := hown.out
  have hn := own64_len hown
  subst hn
  refine wpList_append_own_at _ hgd s x 24 ho B 2 i0 (.int .i64 0) 1 8 Try.underlying24 hi0 hz0 hz1 hz2 rfl (by decide) _ zs.length (zs.map (Value.int .i64)) hs (hown.alloc _) ⟨w.heap.size, 0, none⟩ 1 1 [.int .i64 y] hx rfl ?_ ?_ ?_ ?_ ?_ ?_
  · intro j u hj
    match j, hj with
    | 0, hj => simp at hj; subst hj; simp [Addr.add]
  · intro u hu; simp at hu; subst hu; rfl
  · unfold maxLen; omega
  · omega
  · simp; omega
  · intro v' w1 hown1 hg1 _ hwh
    obtain ⟨A, c, rfl⟩ : ∃ A c, v' = .slice A (zs.length + 1) c := own_shape hown1
    refine h A c w1 ?_ hg1 hwh
    have e : (zs ++ [y]).length = zs.length + 1 := by simp
    show Own64 _ _ _ _
    unfold Own64
    rw [e]
    simpa using hown1

end Go.Proofs.Ytdgcjkgbglofbaa

/- A tree that seldom is none: the model's draw l01Bad. -/
namespace Go.Proofs.Ytdgcjkgbglofbaa
open Go.RowKit

/-- what holds while a tree is spoiled -/
structure BadQ (w : World) (B g D R b3 b5 gO cO n : Nat) (A : Option Addr) (c : Nat) (ds : List Int) (X : World) : Prop where
  num : g < D ∧ D ≤ w.heap.size ∧ R = w.heap.size + 1 ∧ b3 = w.heap.size ∧ w.heap.size + 1 < b5 ∧ w.heap.size + 1 < gO ∧ gO < b5
  sub : ∀ b, (Value.slice A n c).ownBlock = some b → b < w.heap.size
  src : Src X B g
  grown : w.grownBy X (some g)
  res : X.heap[R]? = some (.cells #[.slice none 0 0] 26 (0, 0))
  arg : X.heap[b3]? = some (.cells #[.slice A n c] 26 (0, 0))
  out : X.heap[b5]? = some (.cells #[.slice (some ⟨gO, 0, none⟩) n cO] 26 (0, 0))
  row : ∃ zs : List Int, zs.length = n ∧ Own64 X (w.heap.size + 1 + 1) (.slice (some ⟨gO, 0, none⟩) n cO) zs
  own : Own64 X D (.slice A n c) ds
theorem own_lowB {w w' : World} {D base e size n : Nat} {v : Value} {xs : List Value} (h : w.ownsRow base e size v n xs) (hb : Below D w w') (hlt : ∀ b, v.ownBlock = some b → b < D) : w'.ownsRow base e size v n xs := by
  refine ⟨h.1, ?_⟩
  rcases h.2 with h2 | ⟨g, cap, cur, hv, hg, hh, r⟩
  · exact .inl h2
  · exact .inr ⟨g, cap, cur, hv, hg, (hb.block g (hlt g (by rw [hv]; rfl))).trans hh, r⟩
section
variable {w X X' : World} {B g D R b3 b5 gO cO n c : Nat} {A : Option Addr} {ds : List Int}
theorem BadQ.be (h : BadQ w B g D R b3 b5 gO cO n A c ds X) (hb : Below X.heap.size X X') : BadQ w B g D R b3 b5 gO cO n A c ds X' := by
  obtain ⟨zs, hz, ho⟩ := h.row
  have hs := h.grown.size
  exact ⟨h.num, h.sub, h.src.be hb, src_trans h.grown hb hs, (hb.block R (Array.getElem?_eq_some_iff.1 h.res).1).trans h.res, (hb.block b3 (Array.getElem?_eq_some_iff.1 h.arg).1).trans h.arg, (hb.block b5 (Array.getElem?_eq_some_iff.1 h.out).1).trans h.out, ⟨zs, hz, own_below ho hb (Nat.le_refl _)⟩, own_below h.own hb (Nat.le_refl _)⟩
theorem BadQ.draw (h : BadQ w B g D R b3 b5 gO cO n A c ds X) (hg : X.grownBy X' (some g)) (hS : Src X' B g) : BadQ w B g D R b3 b5 gO cO n A c ds X' := by
  obtain ⟨zs, hz, ho⟩ := h.row
  obtain ⟨n1, n2, n3, n4, n5, n6, n7⟩ := h.num
  have K : ∀ b o, X.heap[b]? = some o → b ≠ g → X'.heap[b]? = some o := fun b o hb hne => (hg.block b (Array.getElem?_eq_some_iff.1 hb).1 (fun e => by injection e with e; exact hne e)).trans hb
  exact ⟨h.num, h.sub, hS, src_tr h.grown hg, K _ _ h.res (by omega), K _ _ h.arg (by omega), K _ _ h.out (by omega), ⟨zs, hz, own_src ho hg (by omega)⟩, own_src h.own hg n1⟩
theorem BadQ.set (h : BadQ w B g D R b3 b5 gO cO n A c ds X) (k : Nat) (x : Int) : BadQ w B g D R b3 b5 gO cO n A c ds (X.setCell ⟨gO, k, none⟩ (.int .i64 x)) := by
  obtain ⟨zs, hz, ho⟩ := h.row
  obtain ⟨n1, n2, n3, n4, n5, n6, n7⟩ := h.num
  have hg := src_grown X gO k (.int .i64 x)
  have K : ∀ b o, X.heap[b]? = some o → b ≠ gO → (X.setCell ⟨gO, k, none⟩ (.int .i64 x)).heap[b]? = some o := fun b o hb hne => (hg.block b (Array.getElem?_eq_some_iff.1 hb).1 (fun e => by injection e with e; exact hne e)).trans hb
  refine ⟨h.num, h.sub, h.src.kept hg (fun k e => by injection e with e; have := h.src.1; omega), src_trans h.grown (below_setCell (Below.refl w.heap.size X) (by omega) _) (Nat.le_refl _), K _ _ h.res (by omega), K _ _ h.arg (by omega), K _ _ h.out (by omega), ⟨zs.set k x, by simp [hz], own64_set ho hz k x⟩, ?_⟩
  exact ownsRow_setCell_other h.own (a := ⟨gO, k, none⟩) (fun e => by have := h.sub gO e; omega) _
theorem BadQ.cell (h : BadQ w B g D R b3 b5 gO cO n A c ds X) {k : Nat} (hk : k < n) : (∃ x, X.cell? ⟨gO, k, none⟩ = some (.int .i64 x)) ∧ X.frozen? ⟨gO, k, none⟩ = false := by
  obtain ⟨zs, hz, ho⟩ := h.row
  have := own64_cell ho hz (List.getElem?_eq_getElem (show k < zs.length by omega))
  exact ⟨⟨_, this.1⟩, this.2.1⟩
end

theorem off_tree {w : World} {B e size n X : Nat} {v : Value} {xs : List Value} {cs : Array Value} {p : Nat × Nat} {T : TypeId} (h : w.ownsRow B e size v n xs) (hX : w.heap[X]? = some (.cells cs T p)) (he : e ≠ T) : v.ownBlock ≠ some X := by
  intro hk
  rcases h.2 with ⟨e0, _⟩ | ⟨g, cap, cur, hv, _, hg, _⟩
  · rw [e0] at hk; cases hk
  · rw [hv] at hk
    have e1 : g = X := by injection hk
    rw [e1, hX] at hg
    injection hg with hg
    injection hg with _ hg
    exact he hg.symm
theorem BadQ.fin {w X : World} {B g D R b3 b5 gO cO n c m cz : Nat} {A Az : Option Addr} {ds zs : List Int} (h : BadQ w B g D R b3 b5 gO cO n A c ds X) (ho : Own64 X D (.slice Az m cz) zs) (v : Value) :
    Own64 (X.setCell ⟨R, 0, none⟩ v) D (.slice Az m cz) zs ∧ Src (X.setCell ⟨R, 0, none⟩ v) B g ∧ w.grownBy (X.setCell ⟨R, 0, none⟩ v) (some g) := by
  obtain ⟨n1, n2, n3, n4, n5, n6, n7⟩ := h.num
  refine ⟨ownsRow_setCell_other ho (a := ⟨R, 0, none⟩) (off_tree ho h.res (by decide)) _, h.src.kept (src_grown X R 0 v) (fun k e => by injection e with e; have := h.src.1; omega), src_trans h.grown (below_setCell (Below.refl w.heap.size X) (by omega) _) (Nat.le_refl _)⟩
theorem off_be {w w' : World} {g : Nat} {A : Option Addr} {xs : List Int} (h : Off w g A xs) (hb : Below w.heap.size w w') : Hid (Off w' g A xs) := by
  obtain ⟨b, off, e, hne, hc⟩ := h
  exact ⟨b, off, e, hne, fun j x hx => (hb.cell (p := ⟨b, off + j, none⟩) (World.block_lt_of_cell? _ _ (hc j x hx))).trans (hc j x hx)⟩
theorem off_src {w w' : World} {g : Nat} {A : Option Addr} {xs : List Int} (h : Hid (Off w g A xs)) (hg : w.grownBy w' (some g)) : Hid (Off w' g A xs) := by
  obtain ⟨b, off, e, hne, hc⟩ := h.out
  exact ⟨b, off, e, hne, fun j x hx => hg.cell (hc j x hx) (by simp; exact hne)⟩
/-- a list comes out that seldom is no tree -/
def DrawnL (w w' : World) (B D g : Nat) (e : Ending) : Prop :=
  ∃ (m : Nat) (A' : Option Addr) (c' : Nat) (zs : List Int), e = .returned (.agg #[.slice A' m c']) ∧ m ≤ 25 ∧ Hid (zs.length = m) ∧ Hid (Own64 w' D (.slice A' m c') zs) ∧ Hid (Src w' B g) ∧ Hid (w.grownBy w' (some g))

set_option maxRecDepth 100000 in
theorem l01Copy (A : Option Addr) (xs : List Int) (m c : Nat) (w : World) (hm : Hid (xs.length = m)) (hx : m ≤ 1000) (hz : Hid (A = none → c = 0)) (h : Hid (Ints w w.heap.size A xs)) :
    Calls Try.prog 276 #[.agg #[.slice A m c]] w fun e w' => ∃ A' c', e = .returned (.agg #[.slice A' m c']) ∧ Hid (Own64 w' (w.heap.size + 1) (.slice A' m c') xs) ∧ Hid (Below w.heap.size w w') := by
  go_enter Try.func276, Try.ntmps276
  go_wp2_with fail
  obtain ⟨W, hW⟩ : ∃ W, W = (w.alloc (.cells #[.slice A m c] 26)).alloc (.cells #[.slice none 0 0] 26) := ⟨_, rfl⟩
  have hbW : Below w.heap.size w W := by rw [hW]; exact bal (bal (b0 w) _) _
  have hzW : W.heap.size = w.heap.size + 1 + 1 := by rw [hW]; simp
  have hr : W.heap[w.heap.size + 1]? = some (.cells #[.slice none 0 0] 26 (0, 0)) := by
    rw [hW]
    have := heap_alloc_new (w.alloc (.cells #[.slice A m c] 26)) (.cells #[.slice none 0 0] 26)
    simpa using this
  rw [← hW]
  refine (l01Make A xs m c W hm (by omega) hz (h.out.be hbW)).mono ?_
  rintro e w1 ⟨A', c', rfl, ho, hb⟩
  have hr1 := (hb.block _ (by omega)).trans hr
  have hrc := cell_of_one hr1
  have hrf := free_of_one hr1
  have F1 := Lib.hid (own_mono (base' := w.heap.size + 1) (own_far (g := w.heap.size + 1) (k := 0) ho (by omega) (.slice A' m c')) (by omega))
  have F2 := Lib.hid (below_setCell (g := w.heap.size + 1) (k := 0) (btr hbW hb) (by omega) (.slice A' m c'))
  clear hbW hr hr1 ho hb hW
  go_wp2
  refine bodyPost_ret (v := .agg #[.slice A' m c']) (by simp [results, Try.results276, go_sem, hrc]) rfl ?_
  exact ⟨A', c', rfl, F1, F2⟩

set_option maxRecDepth 100000 in
set_option maxHeartbeats 8000000 in
theorem l01Bad (A : Option Addr) (n c : Nat) (ds : List Int) (w : World) (B D g : Nat) (hn : 1 ≤ n ∧ n ≤ 24) (hl : Hid (ds.length = n)) (hgD : g < D) (hD : D ≤ w.heap.size) (ho : Hid (Own64 w D (.slice A n c) ds)) (hS : Hid (Src w B g)) :
    Calls Try.prog 191 #[.pointer (some ⟨g, 0, none⟩), .agg #[.slice A n c]] w fun e w' => DrawnL w w' B D g e := by
  obtain ⟨W, hW⟩ : ∃ W, W = (w.alloc (.cells #[.slice A n c] 26)).alloc (.cells #[.slice none 0 0] 26) := ⟨_, rfl⟩
  have hbW : Below w.heap.size w W := by rw [hW]; exact bal (bal (b0 w) _) _
  have hzW : W.heap.size = w.heap.size + 1 + 1 := by rw [hW]; simp
  have hr : W.heap[w.heap.size + 1]? = some (.cells #[.slice none 0 0] 26 (0, 0)) := by
    rw [hW]
    have := heap_alloc_new (w.alloc (.cells #[.slice A n c] 26)) (.cells #[.slice none 0 0] 26)
    simpa using this
  have ha : W.heap[w.heap.size]? = some (.cells #[.slice A n c] 26 (0, 0)) := by
    rw [hW]; exact (Below.heap_alloc _ _ _ (by simp)).trans (heap_alloc_new w _)
  have hac := cell_of_one ha
  go_enter Try.func191, Try.ntmps191
  go_wp2_with fail
  rw [← hW]
  refine (l01Copy A ds n c W hl (by omega) (Lib.hid (own64_z ho.out)) (Lib.hid ((ints_of_own64 ho.out).be hbW))).mono ?_
  rintro e w1 ⟨A1, cO, rfl, ho1, hb1⟩
  obtain ⟨gO, rfl⟩ : ∃ gO, A1 = some ⟨gO, 0, none⟩ := by
    rcases ho1.out.2 with ⟨q1, q2⟩ | ⟨pb, cap, cur, hv, _⟩
    · have := hl.out; omega
    · injection hv with q1; exact ⟨pb, q1⟩
  have hgl := World.ownsRow.lt ho1.out gO rfl
  obtain ⟨V, hV⟩ : ∃ V, V = w1.alloc (.cells #[.slice (some ⟨gO, 0, none⟩) n cO] 26) := ⟨_, rfl⟩
  have hbV : Below W.heap.size W V := by rw [hV]; exact bal hb1.out _
  have hout : V.heap[w1.heap.size]? = some (.cells #[.slice (some ⟨gO, 0, none⟩) n cO] 26 (0, 0)) := by rw [hV]; exact heap_alloc_new w1 _
  have hQ : Hid (BadQ w B g D (w.heap.size + 1) w.heap.size w1.heap.size gO cO n A c ds V) := by
    refine ⟨⟨hgD, hD, rfl, rfl, by omega, by omega, hgl.2⟩, fun b hb => (ho.out.lt b hb).2, (hS.out.be hbW).be hbV, src_trans (src_of hbW) hbV (by omega), (hbV.block _ (by omega)).trans hr, (hbV.block _ (by omega)).trans ha, hout, ⟨ds, hl.out, ?_⟩, own_below (own_below ho.out hbW (Nat.le_refl _)) hbV (Nat.le_refl _)⟩
    rw [hV]
    exact own_mono (ho1.out.alloc _) (by omega)
  have hzO : w.heap.size + 1 < w1.heap.size := by omega
  obtain ⟨b5, hb5⟩ : ∃ b5, w1.heap.size = b5 := ⟨_, rfl⟩
  rw [hb5] at hQ hzO
  clear hac hr ha hbW hbV hout hb1 ho1
  go_wp2_with fail
  rw [← hV]
  refine (l01Next 50 V B g (by omega) (Lib.hid hQ.out.src)).mono ?_
  rintro e w2 ⟨r, rfl, ⟨hr0, hr1⟩, hS2, hg2⟩
  have hQ2 := Lib.hid (hQ.out.draw hg2.out hS2.out)
  clear hQ hg2 hS2 hV hW hzW hgl hb5
  have c5 := cell_of_one hQ2.out.out
  have c3 := cell_of_one hQ2.out.arg
  have cR := cell_of_one hQ2.out.res
  have fR := free_of_one hQ2.out.res
  have f5 := free_of_one hQ2.out.out
  by_cases h0 : r = 0
  · subst h0
    obtain ⟨f1, f2, f3⟩ := hQ2.out.fin (own64_nil w2 D) (.slice none 0 0)
    have F1 := Lib.hid f1
    have F2 := Lib.hid f2
    have F3 := Lib.hid f3
    clear f1 f2 f3
    go_wp2
    refine bodyPost_ret (v := .agg #[.slice none 0 0]) (by simp [results, Try.results191, go_sem, cR]) rfl ?_
    exact ⟨0, none, 0, [], rfl, by omega, rfl, F1, F2, F3⟩
  · have hb0 : (r == 0) = false := by simp [h0]
    by_cases h1 : r = 1
    · subst h1
      go_wp2
      have hn0 := hn.1
      have QS := Lib.hid (fun (X : World) (hX : Hid (BadQ w B g D (w.heap.size + 1) w.heap.size b5 gO cO n A c ds X)) => (show X.cell? ⟨b5, 0, none⟩ = some (.slice (some ⟨gO, 0, none⟩) n cO) ∧ X.cell? ⟨w.heap.size, 0, none⟩ = some (.slice A n c) ∧ Hid (BadQ w B g D (w.heap.size + 1) w.heap.size b5 gO cO n A c ds X) from ⟨cell_of_one hX.out.out, cell_of_one hX.out.arg, hX⟩))
      have QA := Lib.hid (fun (X : World) (o : Obj) (hX : Hid (BadQ w B g D (w.heap.size + 1) w.heap.size b5 gO cO n A c ds X)) => (show Hid (BadQ w B g D (w.heap.size + 1) w.heap.size b5 gO cO n A c ds (X.alloc o)) from hX.out.be (bal (b0 X) o)))
      have QW := Lib.hid (fun (X : World) (k : Nat) (x : Int) (hX : Hid (BadQ w B g D (w.heap.size + 1) w.heap.size b5 gO cO n A c ds X)) => (show Hid (BadQ w B g D (w.heap.size + 1) w.heap.size b5 gO cO n A c ds (X.setCell ⟨gO, k, none⟩ (.int .i64 x))) from hX.out.set k x))
      have HN := Lib.hid (fun (X : World) (hX : Hid (BadQ w B g D (w.heap.size + 1) w.heap.size b5 gO cO n A c ds X)) => (l01N A n c X).mono fun e w' h => (show e = .returned (.int .i64 (n : Int)) ∧ Hid (BadQ w B g D (w.heap.size + 1) w.heap.size b5 gO cO n A c ds w') ∧ Hid (Below X.heap.size X w') from ⟨h.1, hX.out.be h.2, h.2⟩))
      have HX := Lib.hid (fun (X : World) (hX : Hid (BadQ w B g D (w.heap.size + 1) w.heap.size b5 gO cO n A c ds X)) => (l01Next (n : Int) X B g (by omega) (Lib.hid hX.out.src)).mono fun e w' h => (show ∃ k : Nat, e = .returned (.int .i64 (k : Int)) ∧ k < n ∧ Hid (BadQ w B g D (w.heap.size + 1) w.heap.size b5 gO cO n A c ds w') ∧ Hid (X.grownBy w' (some g)) from by
        obtain ⟨r, he, ⟨h1, h2⟩, h3, h4⟩ := h
        obtain ⟨k, rfl⟩ := Int.eq_ofNat_of_zero_le h1
        exact ⟨k, he, by omega, hX.out.draw h4.out h3.out, h4⟩))
      have HP := Lib.hid (fun (X : World) (N : Nat) (hX : Hid (BadQ w B g D (w.heap.size + 1) w.heap.size b5 gO cO n A c ds X)) (hO : Hid (Off X g (some ⟨N, 0, none⟩) [-1, 0, 1, 2, 25])) => (l01Pick (some ⟨N, 0, none⟩) [-1, 0, 1, 2, 25] 5 5 X B g rfl (by omega) (by omega) hO (Lib.hid hX.out.src)).mono fun e w' h => (show ∃ x : Int, e = .returned (.int .i64 x) ∧ Hid (BadQ w B g D (w.heap.size + 1) w.heap.size b5 gO cO n A c ds w') from by
        obtain ⟨r, he, h1, h3, h4⟩ := h
        exact ⟨r, he, hX.out.draw h4.out h3.out⟩))
      have OF := Lib.hid (fun (X : World) (hX : Hid (BadQ w B g D (w.heap.size + 1) w.heap.size b5 gO cO n A c ds X)) => (show Hid (Off (X.alloc (.cells #[.int .i64 (-1), .int .i64 0, .int .i64 1, .int .i64 2, .int .i64 25] 2)) g (some ⟨X.heap.size, 0, none⟩) [-1, 0, 1, 2, 25]) from by
        have := off_new X g hX.out.src.lt [-1, 0, 1, 2, 25]
        simp only [List.map_cons, List.map_nil] at this
        exact this))
      have K0 : Hid (BadQ w B g D (w.heap.size + 1) w.heap.size b5 gO cO n A c ds w2.drew) := hQ2.out.be (Below.refl _ _).drew
      clear c5 c3 cR fR f5 hQ2
      go_region_held3 (fun X => X.cell? ⟨b5, 0, none⟩ = some (.slice (some ⟨gO, 0, none⟩) n cO) ∧ X.cell? ⟨w.heap.size, 0, none⟩ = some (.slice A n c) ∧ Hid (BadQ w B g D (w.heap.size + 1) w.heap.size b5 gO cO n A c ds X)) (first | exact QS.out _ K0 | exact QS.out _ (QA.out _ _ K0) | exact QS.out _ K6 | exact QS.out _ (QA.out _ _ K6) | exact QS.out _ K7 | exact QS.out _ (QA.out _ _ K7) | exact QS.out _ K8 | exact QS.out _ (QW.out _ _ _ K8)) (first | (go_at_call 169; refine (HN.out _ (by first | exact K0 | exact QA.out _ _ K0)).mono ?_; rintro e w6 ⟨rfl, K6, hb6⟩) | (go_at_call 186; refine (HX.out _ (by first | exact K6 | exact QA.out _ _ K6)).mono ?_; rintro e w7 ⟨k7, rfl, hk7, K7, hg7⟩; have hk70 : (0 : Int) ≤ (k7 : Int) := (by omega); have hk7n : (k7 : Int) < (n : Int) := (by omega)) | (go_at_call 209; refine (HP.out _ _ (by first | exact K7 | exact QA.out _ _ K7) (by first | exact OF.out _ K7 | exact off_src (OF.out _ K6) hg7.out | exact off_src (off_be (OF.out _ K0).out hb6.out) hg7.out)).mono ?_; rintro e w8 ⟨x8, rfl, K8⟩; obtain ⟨⟨d8, cd8⟩, fd8⟩ := K8.out.cell hk7))
      all_goals
        have K9 := QW.out _ k7 x8 K8
        clear QS QA QW HN HX HP OF K0 K6 K7 K8 hb6 hg7 cd8 fd8
        generalize w8.setCell ⟨gO, k7, none⟩ (.int .i64 x8) = X9 at K9 ⊢
        obtain ⟨zs9, hz9, ho9⟩ := K9.out.row
        have c5 := cell_of_one K9.out.out
        have cR := cell_of_one K9.out.res
        have fR := free_of_one K9.out.res
        obtain ⟨f1, f2, f3⟩ := K9.out.fin (own_mono ho9 (by omega)) (.slice (some ⟨gO, 0, none⟩) n cO)
        have F1 := Lib.hid f1
        have F2 := Lib.hid f2
        have F3 := Lib.hid f3
        clear f1 f2 f3 ho9
        go_wp2
        refine bodyPost_ret (v := .agg #[.slice (some ⟨gO, 0, none⟩) n cO]) (by simp [results, Try.results191, go_sem, cR]) rfl ?_
        exact ⟨n, _, cO, zs9, rfl, by omega, hz9, F1, F2, F3⟩
    · have hb1 : (r == 1) = false := by simp [h1]
      by_cases h2 : r = 2
      · subst h2
        obtain ⟨n1, n2, n3, n4, n5, n6, n7⟩ := hQ2.out.num
        obtain ⟨zs, hzl, hoz⟩ := hQ2.out.row
        have Hoz := Lib.hid hoz
        have hsz := hQ2.out.grown.size
        have h5l := (Array.getElem?_eq_some_iff.1 hQ2.out.out).1
        have hRl := (Array.getElem?_eq_some_iff.1 hQ2.out.res).1
        have HK := Lib.hid (fun (X : World) (b : Nat) (o : Obj) (hX : w2.grownBy X (some gO)) (hb : w2.heap[b]? = some o) (hne : b ≠ gO) => (show X.heap[b]? = some o from (hX.block b (Array.getElem?_eq_some_iff.1 hb).1 (fun e => by injection e with e; exact hne e)).trans hb))
        clear hoz
        go_wp2_with (at_builtin; refine push64K rfl (.tmp 29) (.tmp 30) rfl w2 (w.heap.size + 1 + 1) (some ⟨gO, 0, none⟩) n cO zs 0 rfl _ rfl rfl Hoz (by omega) (by omega) ?_; intro A3 c3' w3 ho3 hg3 _; have hg4 := Lib.hid (src_tr (World.grownBy_alloc w2 (.cells #[.int .i64 0] 2) (some gO)) hg3.out); have K5 := Lib.hid (HK.out _ _ _ hg4.out hQ2.out.out (by omega)); have KR := Lib.hid (HK.out _ _ _ hg4.out hQ2.out.res (by omega)); have d5 := cell_of_one K5.out; have e5 := free_of_one K5.out; have dR := cell_of_one KR.out; have eR := free_of_one KR.out)
        refine bodyPost_ret (v := .agg #[.slice A3 (n + 1) c3']) (by simp [results, Try.results191, go_sem, dR]) rfl ?_
        have hS3 := hQ2.out.src.kept hg4.out (fun k e => by injection e with e; have := hQ2.out.src.1; omega)
        have hS4 := hS3.kept (src_grown w3 b5 0 (.slice A3 (n + 1) c3')) (fun k e => by injection e with e; have := hS3.1; omega)
        have hS5 := hS4.kept (src_grown (w3.setCell ⟨b5, 0, none⟩ (.slice A3 (n + 1) c3')) (w.heap.size + 1) 0 (.slice A3 (n + 1) c3')) (fun k e => by injection e with e; have := hS3.1; omega)
        have hb3 : Below w.heap.size w2 w3 := ⟨hg4.out.os, hg4.out.tape, hg4.out.output, hg4.out.size, fun j hj => hg4.out.block j (by omega) (fun e => by injection e; omega)⟩
        refine ⟨n + 1, A3, c3', zs ++ [0], rfl, by omega, Lib.hid (by simp [hzl]), ?_, hS5, src_trans hQ2.out.grown (below_setCell (below_setCell hb3 (by omega) _) (by omega) _) (Nat.le_refl _)⟩
        have o1 := ownsRow_setCell_other ho3.out (a := ⟨b5, 0, none⟩) (off_tree ho3.out K5.out (by decide)) (.slice A3 (n + 1) c3')
        exact own_mono (ownsRow_setCell_other o1 (a := ⟨w.heap.size + 1, 0, none⟩) (off_tree ho3.out KR.out (by decide)) _) (by omega)
      · have hb2 : (r == 2) = false := by simp [h2]
        obtain ⟨f1, f2, f3⟩ := hQ2.out.fin hQ2.out.own (.slice A n c)
        have F1 := Lib.hid f1
        have F2 := Lib.hid f2
        have F3 := Lib.hid f3
        clear f1 f2 f3
        go_wp2
        refine bodyPost_ret (v := .agg #[.slice A n c]) (by simp [results, Try.results191, go_sem, cR]) rfl ?_
        exact ⟨n, A, c, ds, rfl, by omega, hl, F1, F2, F3⟩
end Go.Proofs.Ytdgcjkgbglofbaa

/- A number near a range: the model's draw. -/
namespace Go.Proofs.Ytdgcjkgbglofbaa
open Go.RowKit

set_option maxRecDepth 100000 in
set_option maxHeartbeats 4000000 in
theorem l01Near (most : Int) (w : World) (B g : Nat) (hm0 : -1 ≤ most) (hm1 : most ≤ 4611686018427387903) (hS : Hid (Src w B g)) :
    Calls Try.prog 190 #[.pointer (some ⟨g, 0, none⟩), .int .i64 most] w fun e w' => ∃ r : Int, e = .returned (.int .i64 r) ∧ (-4611686018427387904 ≤ r ∧ r ≤ 4611686018427387904) ∧ Hid (Src w' B g) ∧ Hid (w.grownBy w' (some g)) := by
  have hwr : IntKind.i64.wrap (most + 1) = most + 1 := IntWalk.i64_in _ (by omega)
  go_enter Try.func190, Try.ntmps190
  go_wp2_with fail
  refine (l01Next 14 w B g (by omega) hS).mono ?_
  rintro e w1 ⟨r, rfl, ⟨hr0, hr1⟩, hS1, hg1⟩
  by_cases h0 : r = 0
  · subst h0
    have hS2 := Lib.hid (hS1.out.be (bal (b0 w1) (.cells #[.int .i64 (-1), .int .i64 (most + 1), .int .i64 1099511627776, .int .i64 (-4611686018427387904)] 2)))
    have hO := Lib.hid (off_new w1 g hS1.out.lt [-1, most + 1, 1099511627776, -4611686018427387904])
    simp only [List.map_cons, List.map_nil] at hO
    go_wp2_with fail
    refine (l01Pick (some ⟨w1.heap.size, 0, none⟩) [-1, most + 1, 1099511627776, -4611686018427387904] 4 4 _ B g rfl (by omega) (by omega) hO hS2).mono ?_
    rintro e w2 ⟨x, rfl, hx, hS3, hg2⟩
    have hxb : -4611686018427387904 ≤ x ∧ x ≤ 4611686018427387904 := by
      have := hx.out
      simp only [List.mem_cons, List.not_mem_nil, or_false] at this
      omega
    go_wp2
    go_ret
    exact ⟨x, rfl, hxb, hS3, Lib.hid (src_tr hg1.out (src_tr (World.grownBy_alloc w1 _ _) hg2.out))⟩
  · have hb : (r == 0) = false := by simp [h0]
    go_wp2_with fail
    refine (l01Next (most + 1) w1 B g (by omega) hS1).mono ?_
    rintro e w2 ⟨x, rfl, ⟨hx0, hx1⟩, hS3, hg2⟩
    go_wp2
    go_ret
    exact ⟨x, rfl, by omega, hS3, Lib.hid (src_tr hg1.out hg2.out)⟩
end Go.Proofs.Ytdgcjkgbglofbaa

/- The source of draws of a code: made in a box of its own. -/
namespace Go.Proofs.Ytdgcjkgbglofbaa
open Go.RowKit

theorem u64_range' (n : Int) : 0 ≤ IntKind.u64.wrap n ∧ IntKind.u64.wrap n ≤ 18446744073709551615 := by rw [IntKind.wrap_u64]; omega
set_option maxRecDepth 100000 in
set_option maxHeartbeats 4000000 in
theorem l01FromB (A : Option Addr) (zs : List Int) (c B : Nat) (w : World) (hB : B ≤ w.heap.size) (hzc : zs.length ≤ c) (hc : c ≤ 9223372036854775807) (hz : Hid (∀ x ∈ zs, 0 ≤ x ∧ x ≤ 255)) (h : Hid (Byts w B A zs)) :
    Calls Try.prog 165 #[.slice A zs.length c] w fun e w' => ∃ g, e = .returned (.pointer (some ⟨g, 0, none⟩)) ∧ w.heap.size ≤ g ∧ Hid (Src w' B g) ∧ Hid (Below w.heap.size w w') := by
  go_enter Try.func165, Try.ntmps165
  have hN := heap_alloc_new w (.cells #[.slice A zs.length c, .int .i64 0, .int .u64 (13911 + (zs.length : Int))] 221)
  go_wp2
  go_loopw [4] (fun i wr => ∃ (k : Nat) (h' : Int), k ≤ zs.length ∧ i = .int .i64 (k : Int) ∧ Hid (SrcBox wr w.heap.size A zs c 0 h') ∧ Hid (0 ≤ h' ∧ h' ≤ 18446744073709551615) ∧ Hid (Below w.heap.size w wr)) (fun i _ => zs.length - (intOf i).toNat)
  case atStart => exact ⟨0, _, Nat.zero_le _, rfl, hN, Lib.hid ⟨by omega, by omega⟩, bal (b0 w) _⟩
  case round =>
    clear hN
    obtain ⟨k, h', hk, rfl, hbx, hh, hb⟩ := hrel
    by_cases hlt : k < zs.length
    · have hlt' : (k : Int) < (zs.length : Int) := by omega
      by_cases h4 : k < 4096
      · have h4' : (k : Int) < 4096 := by omega
        have hk0 : (0 : Int) ≤ (k : Int) := by omega
        obtain ⟨b, off, rfl, hbB, hcell⟩ := h.out (by omega)
        have hy := List.getElem?_eq_getElem hlt
        have hyr := hz.out _ (List.mem_of_getElem? hy)
        generalize zs[k] = y at hy hyr
        have hcy := (hb.out.cell (p := ⟨b, off + k, none⟩) (Nat.lt_of_lt_of_le hbB hB)).trans (hcell k y hy)
        obtain ⟨⟨c0, c1, c2⟩, f1, f2, hl1⟩ := hbx.out.cells
        have hwk : IntKind.i64.wrap ((k : Int) + 1) = ((k + 1 : Nat) : Int) := by rw [IntWalk.i64_in _ (by omega)]; omega
        clear hcell hy
        go_wp2
        go_region
        go_wp2
        go_roundw
        case rel => exact ⟨k + 1, _, by omega, by go_num, hbx.out.hash _, u64_range' _, (below_setCell hb.out (Nat.le_refl _) _).drew⟩
        case measure => simp [intOf]; omega
      · have h4' : ¬ (k : Int) < 4096 := by omega
        go_wp2
        go_ret
        exact ⟨w.heap.size, rfl, Nat.le_refl _, ⟨hB, A, zs, c, 0, h', hbx.out, by omega, hzc, hc, hz.out, h.out.below hb.out hB, hh.out⟩, hb⟩
    · have hlt' : ¬ (k : Int) < (zs.length : Int) := by omega
      go_wp2
      go_ret
      exact ⟨w.heap.size, rfl, Nat.le_refl _, ⟨hB, A, zs, c, 0, h', hbx.out, by omega, hzc, hc, hz.out, h.out.below hb.out hB, hh.out⟩, hb⟩
theorem l01From (A : Option Addr) (zs : List Int) (c : Nat) (w : World) (hzc : zs.length ≤ c) (hc : c ≤ 9223372036854775807) (hz : Hid (∀ x ∈ zs, 0 ≤ x ∧ x ≤ 255)) (h : Hid (Byts w w.heap.size A zs)) :
    Calls Try.prog 165 #[.slice A zs.length c] w fun e w' => ∃ g, e = .returned (.pointer (some ⟨g, 0, none⟩)) ∧ Hid (Src w' w.heap.size g) ∧ Hid (Below w.heap.size w w') :=
  (l01FromB A zs c w.heap.size w (Nat.le_refl _) hzc hc hz h).mono fun _ _ ⟨g, he, _, h1, h2⟩ => ⟨g, he, h1, h2⟩
end Go.Proofs.Ytdgcjkgbglofbaa

/- A list that seldom is no tree; and with two numbers near its nodes: the model's draws l01Spoil and l01With. -/
namespace Go.Proofs.Ytdgcjkgbglofbaa
open Go.RowKit

set_option maxRecDepth 100000 in
set_option maxHeartbeats 4000000 in
theorem l01Spoil (w : World) (B g : Nat) (hS : Hid (Src w B g)) :
    Calls Try.prog 164 #[.pointer (some ⟨g, 0, none⟩)] w fun e w' => DrawnL w w' B w.heap.size g e := by
  have hgl := hS.out.lt
  have hS0 := Lib.hid (hS.out.be (bal (b0 w) (.cells #[.slice none 0 0] 26)))
  have hr0 : Hid ((w.alloc (.cells #[.slice none 0 0] 26)).heap[w.heap.size]? = some (.cells #[.slice none 0 0] 26 (0, 0))) := heap_alloc_new w _
  have hz0 : (w.alloc (.cells #[.slice none 0 0] 26)).heap.size = w.heap.size + 1 := by simp
  have hg0 : Hid (w.grownBy (w.alloc (.cells #[.slice none 0 0] 26)) (some g)) := src_of (bal (b0 w) _)
  go_enter Try.func164, Try.ntmps164
  go_wp2_with fail
  refine (l01Draw _ B g hS0).mono ?_
  rintro e w1 ⟨n, A, c, ds, rfl, hn, hl, ht, ho, hS1, hg1⟩
  rw [hz0] at ho
  have hz1 := hg1.out.size
  have hr3 := Lib.hid (res_keep hr0.out hg1.out (by omega))
  have hg2 := Lib.hid (src_tr hg0.out hg1.out)
  clear hg0 hg1 hr0
  go_wp2_with fail
  refine (l01Bad A n c ds w1 B (w.heap.size + 1) g hn hl (by omega) (by omega) ho hS1).mono ?_
  rintro e w2 ⟨m, A', c', zs, rfl, hm, hzl, ho2, hS2, hg3⟩
  have hr4 := res_keep hr3.out hg3.out (by omega)
  have hrc := cell_of_one hr4
  have hrf := free_of_one hr4
  obtain ⟨f1, f2, f3⟩ := drawn_end (w := w) (.slice A' m c') (by omega) ho2.out hS2.out (src_tr hg2.out hg3.out) hgl
  have F1 := Lib.hid f1
  have F2 := Lib.hid f2
  have F3 := Lib.hid f3
  clear f1 f2 f3
  go_wp2
  refine bodyPost_ret (v := .agg #[.slice A' m c']) (by simp [results, Try.results164, go_sem, hrc]) rfl ?_
  exact ⟨m, A', c', zs, rfl, hm, hzl, F1, F2, F3⟩

/-- what a draw of a list hands back, at the end -/
def TopT (w w' : World) (e : Ending) : Prop :=
  ∃ (m : Nat) (A' : Option Addr) (c' : Nat) (zs : List Int), e = .returned (.agg #[.slice A' m c']) ∧ m ≤ 25 ∧ Hid (zs.length = m) ∧ Hid (Own64 w' w.heap.size (.slice A' m c') zs) ∧ Hid (Below w.heap.size w w')
theorem below_src {w w1 w2 : World} {D g : Nat} (h : Below D w w1) (k : w1.grownBy w2 (some g)) (hg : D ≤ g) (hD : D ≤ w1.heap.size) : Below D w w2 :=
  Below.grown h k hD (fun j e => by injection e with e; omega)
theorem own_cap {w : World} {B n c : Nat} {A : Option Addr} {zs : List Int} (h : Own64 w B (.slice A n c) zs) : n ≤ c ∧ c ≤ 9223372036854775807 := by
  rcases h.2 with ⟨h0, hx⟩ | ⟨g, cap, cur, hv, _, _, hnc, hcm, _⟩
  · injection h0 with _ e e'; omega
  · injection hv with _ e e'
    simp only [maxLen] at hcm
    omega

/-- what a draw of a list and two numbers hands back -/
def TopW (w w' : World) (e : Ending) : Prop :=
  ∃ (m : Nat) (A' : Option Addr) (c' : Nat) (zs : List Int) (v u : Int), e = .returned (.tuple #[.agg #[.slice A' m c'], .int .i64 v, .int .i64 u]) ∧ m ≤ 25 ∧ ((-4611686018427387904 ≤ v ∧ v ≤ 4611686018427387904) ∧ (-4611686018427387904 ≤ u ∧ u ≤ 4611686018427387904)) ∧ Hid (zs.length = m) ∧ Hid (Own64 w' w.heap.size (.slice A' m c') zs) ∧ Hid (Below w.heap.size w w')

structure WithQ (w : World) (B D g bt n : Nat) (T : Option Addr) (ct : Nat) (ds : List Int) (X : World) : Prop where
  num : g < D ∧ D ≤ bt ∧ w.heap.size ≤ g ∧ w.heap.size < D ∧ w.heap.size < B ∧ B ≤ g
  src : Src X B g
  bel : Below w.heap.size w X
  own : Own64 X D (.slice T n ct) ds
  box : X.heap[bt]? = some (.cells #[.slice T n ct] 26 (0, 0))
  res : X.heap[w.heap.size]? = some (.cells #[.slice none 0 0] 26 (0, 0))
theorem WithQ.be {w X X' : World} {B D g bt n ct : Nat} {T : Option Addr} {ds : List Int} (h : WithQ w B D g bt n T ct ds X) (hb : Below X.heap.size X X') : WithQ w B D g bt n T ct ds X' :=
  ⟨h.num, h.src.be hb, h.bel.trans (hb.mono h.bel.size), own_below h.own hb (Nat.le_refl _), (hb.block _ (Array.getElem?_eq_some_iff.1 h.box).1).trans h.box, (hb.block _ (Array.getElem?_eq_some_iff.1 h.res).1).trans h.res⟩
theorem WithQ.draw {w X X' : World} {B D g bt n ct : Nat} {T : Option Addr} {ds : List Int} (h : WithQ w B D g bt n T ct ds X) (hg : X.grownBy X' (some g)) (hS : Src X' B g) : WithQ w B D g bt n T ct ds X' := by
  obtain ⟨n1, n2, n3, n4, n5, n6⟩ := h.num
  exact ⟨h.num, hS, below_src h.bel hg n3 h.bel.size, own_src h.own hg n1, res_keep h.box hg (by omega), res_keep h.res hg (by omega)⟩

set_option maxRecDepth 100000 in
set_option maxHeartbeats 8000000 in
theorem l01With (A : Option Addr) (zs : List Int) (c : Nat) (w : World) (hzc : zs.length ≤ c) (hc : c ≤ 9223372036854775807) (hz : Hid (∀ x ∈ zs, 0 ≤ x ∧ x ≤ 255)) (h : Hid (Byts w w.heap.size A zs)) :
    Calls Try.prog 182 #[.slice A zs.length c] w fun e w' => TopW w w' e := by
  obtain ⟨W, hW⟩ : ∃ W, W = w.alloc (.cells #[.slice none 0 0] 26) := ⟨_, rfl⟩
  have hbW : Hid (Below w.heap.size w W) := by rw [hW]; exact bal (b0 w) _
  have hzW : W.heap.size = w.heap.size + 1 := by rw [hW]; simp
  have hr0 : Hid (W.heap[w.heap.size]? = some (.cells #[.slice none 0 0] 26 (0, 0))) := by rw [hW]; exact heap_alloc_new w _
  go_enter Try.func182, Try.ntmps182
  go_wp2_with fail
  rw [← hW]
  refine (l01From A zs c W hzc hc hz (h.out.be hbW.out)).mono ?_
  rintro e w1 ⟨g, rfl, hS1, hb1⟩
  have hr1 := Lib.hid ((hb1.out.block w.heap.size (by omega)).trans hr0.out)
  have hbw1 := Lib.hid (hbW.out.trans (hb1.out.mono (by omega)))
  have hgW : W.heap.size ≤ g := hS1.out.1
  have hz1 := hb1.out.size
  clear hbW hr0 hb1 hW
  go_wp2_with fail
  refine (l01Draw w1 _ g hS1).mono ?_
  rintro e w2 ⟨n, T, ct, ds, rfl, hn, hl, ht, ho, hS2, hg2⟩
  have hr2 := Lib.hid (res_keep hr1.out hg2.out (by omega))
  have hbw2 := Lib.hid (below_src hbw1.out hg2.out (by omega) (by omega))
  have hgl1 := hS1.out.lt
  have hz2 := hg2.out.size
  clear hr1 hbw1 hg2 hS1
  obtain ⟨V, hV⟩ : ∃ V, V = w2.alloc (.cells #[.slice T n ct] 26) := ⟨_, rfl⟩
  have hbV : Below w2.heap.size w2 V := by rw [hV]; exact bal (b0 w2) _
  have hbx : V.heap[w2.heap.size]? = some (.cells #[.slice T n ct] 26 (0, 0)) := by rw [hV]; exact heap_alloc_new w2 _
  have hQ : Hid (WithQ w W.heap.size w1.heap.size g w2.heap.size n T ct ds V) :=
    ⟨⟨hgl1, hz2, by omega, by omega, by omega, hgW⟩, hS2.out.be hbV, hbw2.out.trans (hbV.mono (by omega)), own_below ho.out hbV (Nat.le_refl _), hbx, (hbV.block _ (by omega)).trans hr2.out⟩
  clear hbV hbx hbw2 hr2 ho hS2
  go_wp2
  rw [← hV]
  clear hV
  obtain ⟨bt, hbt⟩ : ∃ bt, w2.heap.size = bt := ⟨_, rfl⟩
  rw [hbt] at hQ ⊢
  have hwn : IntKind.i64.wrap ((n : Int) - 1) = (n : Int) - 1 := IntWalk.i64_in _ (by omega)
  have QS := Lib.hid (fun (X : World) (hX : Hid (WithQ w W.heap.size w1.heap.size g bt n T ct ds X)) => (show X.cell? ⟨bt, 0, none⟩ = some (.slice T n ct) ∧ Hid (WithQ w W.heap.size w1.heap.size g bt n T ct ds X) from ⟨cell_of_one hX.out.box, hX⟩))
  have HN := Lib.hid (fun (X : World) (hX : Hid (WithQ w W.heap.size w1.heap.size g bt n T ct ds X)) => (l01N T n ct X).mono fun e w' h => (show e = .returned (.int .i64 (n : Int)) ∧ Hid (WithQ w W.heap.size w1.heap.size g bt n T ct ds w') from ⟨h.1, hX.out.be h.2⟩))
  have HV := Lib.hid (fun (X : World) (hX : Hid (WithQ w W.heap.size w1.heap.size g bt n T ct ds X)) => (l01Near ((n : Int) - 1) X W.heap.size g (by omega) (by omega) (Lib.hid hX.out.src)).mono fun e w' h => (show ∃ r : Int, e = .returned (.int .i64 r) ∧ (-4611686018427387904 ≤ r ∧ r ≤ 4611686018427387904) ∧ Hid (WithQ w W.heap.size w1.heap.size g bt n T ct ds w') from by
    obtain ⟨r, he, h1, h3, h4⟩ := h
    exact ⟨r, he, h1, hX.out.draw h4.out h3.out⟩))
  have K0 : Hid (WithQ w W.heap.size w1.heap.size g bt n T ct ds V.drew) := hQ.out.be (Below.refl _ _).drew
  have c0 := cell_of_one hQ.out.box
  clear hQ
  go_region_held3 (fun X => X.cell? ⟨bt, 0, none⟩ = some (.slice T n ct) ∧ Hid (WithQ w W.heap.size w1.heap.size g bt n T ct ds X)) (first | exact QS.out _ (by assumption)) (first | (go_at_call 169; refine (HN.out _ (by assumption)).mono ?_; rintro e w4 ⟨rfl, K4⟩) | (go_at_call 190; have _ := hr5; refine (HV.out _ (by assumption)).mono ?_; rintro e w6 ⟨r6, rfl, hr6, K6⟩) | (go_at_call 190; refine (HV.out _ (by assumption)).mono ?_; rintro e w5 ⟨r5, rfl, hr5, K5⟩))
  have cb := cell_of_one K6.out.box
  have hz6 : w1.heap.size ≤ w6.heap.size := by have := (Array.getElem?_eq_some_iff.1 K6.out.box).1; omega
  clear QS HN HV K0 K4 K5 c0 hwn
  go_wp2_with fail
  refine (l01Bad T n ct ds w6 W.heap.size w1.heap.size g hn hl hgl1 hz6 (Lib.hid K6.out.own) (Lib.hid K6.out.src)).mono ?_
  rintro e w7 ⟨m, A', c', zs', rfl, hm, hzl, ho7, hS7, hg7⟩
  have hr7 := res_keep K6.out.res hg7.out (by omega)
  have hrc := cell_of_one hr7
  have hrf := free_of_one hr7
  have F1 := Lib.hid (own_mono (base' := w.heap.size) (own_far (g := w.heap.size) (k := 0) ho7.out (by omega) (.slice A' m c')) (by omega))
  have F2 := Lib.hid (below_setCell (g := w.heap.size) (k := 0) (below_src K6.out.bel hg7.out (by omega) K6.out.bel.size) (Nat.le_refl _) (.slice A' m c'))
  clear hr7 K6 ho7 hS7 hg7
  go_wp2
  refine bodyPost_ret (v := .tuple #[.agg #[.slice A' m c'], .int .i64 r5, .int .i64 r6]) (by simp [results, Try.results182, go_sem, hrc]) rfl ?_
  exact ⟨m, A', c', zs', r5, r6, rfl, hm, ⟨hr5, hr6⟩, hzl, F1, F2⟩
end Go.Proofs.Ytdgcjkgbglofbaa

/- The model's DrawCountsOfTree: what comes out of it. Written by gendraw.py. -/
namespace Go.Proofs.Ytdgcjkgbglofbaa
open Go.RowKit

set_option maxRecDepth 100000 in
set_option maxHeartbeats 4000000 in
theorem drawCountsOfTree (A : Option Addr) (zs : List Int) (c : Nat) (w : World) (hzc : zs.length ≤ c) (hc : c ≤ 9223372036854775807) (hz : Hid (∀ x ∈ zs, 0 ≤ x ∧ x ≤ 255)) (h : Hid (Byts w w.heap.size A zs)) :
    Calls Try.prog 102 #[.slice A zs.length c] w fun e w' => TopT w w' e := by
  obtain ⟨W, hW⟩ : ∃ W, W = w.alloc (.cells #[.slice none 0 0] 26) := ⟨_, rfl⟩
  have hbW : Hid (Below w.heap.size w W) := by rw [hW]; exact bal (b0 w) _
  have hzW : W.heap.size = w.heap.size + 1 := by rw [hW]; simp
  have hr0 : Hid (W.heap[w.heap.size]? = some (.cells #[.slice none 0 0] 26 (0, 0))) := by rw [hW]; exact heap_alloc_new w _
  go_enter Try.func102, Try.ntmps102
  go_wp2_with fail
  rw [← hW]
  refine (l01From A zs c W hzc hc hz (h.out.be hbW.out)).mono ?_
  rintro e w1 ⟨g, rfl, hS1, hb1⟩
  have hr1 := Lib.hid ((hb1.out.block w.heap.size (by omega)).trans hr0.out)
  have hbw1 := Lib.hid (hbW.out.trans (hb1.out.mono (by omega)))
  have hgW : W.heap.size ≤ g := hS1.out.1
  have hz1 := hb1.out.size
  clear hbW hr0 hb1 hW
  go_wp2_with fail
  refine (l01Spoil w1 _ g hS1).mono ?_
  rintro e w2 ⟨m, A', c', xs, rfl, hm, hxl, ho, hS2, hg2⟩
  have hr2 := res_keep hr1.out hg2.out (by omega)
  have hrc := cell_of_one hr2
  have hrf := free_of_one hr2
  have F1 := Lib.hid (own_mono (base' := w.heap.size) (own_far (g := w.heap.size) (k := 0) ho.out (by omega) (.slice A' m c')) (by omega))
  have F2 := Lib.hid (below_setCell (g := w.heap.size) (k := 0) (below_src hbw1.out hg2.out (by omega) (by omega)) (Nat.le_refl _) (.slice A' m c'))
  clear hr1 hbw1 hr2 ho hS1 hS2 hg2
  go_wp2
  refine bodyPost_ret (v := .agg #[.slice A' m c']) (by simp [results, Try.results102, go_sem, hrc]) rfl ?_
  exact ⟨m, A', c', xs, rfl, hm, hxl, F1, F2⟩
end Go.Proofs.Ytdgcjkgbglofbaa

/- The model's draws of FnTreeCounts: two numbers, a number, counts. -/
namespace Go.Proofs.Ytdgcjkgbglofbaa
open Go.RowKit

theorem below_srcC {w w1 w2 : World} {D g : Nat} (h : Below D w w1) (k : w1.grownBy w2 (some g)) (hg : D ≤ g) (hD : D ≤ w1.heap.size) : Below D w w2 :=
  Below.grown h k hD (fun j e => by injection e with e; omega)

set_option maxRecDepth 100000 in
set_option maxHeartbeats 8000000 in
theorem l02DrawTwo (A : Option Addr) (zs : List Int) (c : Nat) (w : World) (hzc : zs.length ≤ c) (hc : c ≤ 9223372036854775807) (hz : Hid (∀ x ∈ zs, 0 ≤ x ∧ x ≤ 255)) (h : Hid (Byts w w.heap.size A zs)) :
    Calls Try.prog 219 #[.slice A zs.length c] w fun e w' => ∃ n k : Int, e = .returned (.tuple #[.int .i64 n, .int .i64 k]) ∧ ((-4611686018427387904 ≤ n ∧ n ≤ 4611686018427387904) ∧ (-4611686018427387904 ≤ k ∧ k ≤ 4611686018427387904)) ∧ Hid (Below w.heap.size w w') := by
  go_enter Try.func219, Try.ntmps219
  go_wp2_with fail
  refine (l01From A zs c w hzc hc hz h).mono ?_
  rintro e w1 ⟨g, rfl, hS1, hb1⟩
  have hgw : w.heap.size ≤ g := hS1.out.1
  have hS3 := Lib.hid (hS1.out.be (bal (b0 w1) (.cells #[.int .i64 6, .int .i64 12, .int .i64 30] 2)))
  have hO := Lib.hid (off_new w1 g hS1.out.lt [6, 12, 30])
  simp only [List.map_cons, List.map_nil] at hO
  go_wp2_with fail
  refine (l01Pick (some ⟨w1.heap.size, 0, none⟩) [6, 12, 30] 3 3 _ _ g rfl (by omega) (by omega) hO hS3).mono ?_
  rintro e w2 ⟨q, rfl, hq, hS4, hg2⟩
  have hqb : 6 ≤ q ∧ q ≤ 30 := by
    have := hq.out
    simp only [List.mem_cons, List.not_mem_nil, or_false] at this
    omega
  have hb2 := Lib.hid (below_srcC (bal hb1.out (.cells #[.int .i64 6, .int .i64 12, .int .i64 30] 2)) hg2.out hgw (by simp; exact Nat.le_succ_of_le hb1.out.size))
  clear hO hS3 hS1 hb1 hg2 hq
  go_wp2_with fail
  refine (l01Near q w2 _ g (by omega) (by omega) hS4).mono ?_
  rintro e w3 ⟨n, rfl, hn, hS5, hg3⟩
  have hb3 := Lib.hid (below_srcC hb2.out hg3.out hgw hb2.out.size)
  clear hb2 hg3 hS4
  go_wp2_with fail
  all_goals (
    refine (l01Near _ w3 _ g (by omega) (by omega) hS5).mono ?_
    rintro e w4 ⟨k, rfl, hk, hS6, hg4⟩
    have hb4 := Lib.hid (below_srcC hb3.out hg4.out hgw hb3.out.size)
    clear hb3 hg4 hS5 hS6
    go_wp2
    refine bodyPost_ret (v := .tuple #[.int .i64 n, .int .i64 k]) (by simp [results, Try.results219, go_sem]) rfl ?_
    exact ⟨n, k, rfl, ⟨hn, hk⟩, hb4⟩)

set_option maxRecDepth 100000 in
set_option maxHeartbeats 8000000 in
theorem drawTreesOf (A : Option Addr) (zs : List Int) (c : Nat) (w : World) (hzc : zs.length ≤ c) (hc : c ≤ 9223372036854775807) (hz : Hid (∀ x ∈ zs, 0 ≤ x ∧ x ≤ 255)) (h : Hid (Byts w w.heap.size A zs)) :
    Calls Try.prog 98 #[.slice A zs.length c] w fun e w' => ∃ n : Int, e = .returned (.int .i64 n) ∧ (-4611686018427387904 ≤ n ∧ n ≤ 4611686018427387904) ∧ Hid (Below w.heap.size w w') := by
  go_enter Try.func98, Try.ntmps98
  go_wp2_with fail
  refine (l01From A zs c w hzc hc hz h).mono ?_
  rintro e w1 ⟨g, rfl, hS1, hb1⟩
  have hgw : w.heap.size ≤ g := hS1.out.1
  go_wp2_with fail
  refine (l01Near 24 w1 _ g (by omega) (by omega) hS1).mono ?_
  rintro e w2 ⟨r0, rfl, hr0, hS2, hg2⟩
  have hb2 := Lib.hid (below_srcC hb1.out hg2.out hgw hb1.out.size)
  clear hb1 hg2 hS1
  have hS3 := Lib.hid (hS2.out.be (bal (b0 w2) (.cells #[.int .i64 1, .int .i64 2, .int .i64 3, .int .i64 4, .int .i64 5, .int .i64 6, .int .i64 7, .int .i64 8, .int .i64 r0] 2)))
  have hO := Lib.hid (off_new w2 g hS2.out.lt [1, 2, 3, 4, 5, 6, 7, 8, r0])
  simp only [List.map_cons, List.map_nil] at hO
  go_wp2_with fail
  refine (l01Pick (some ⟨w2.heap.size, 0, none⟩) [1, 2, 3, 4, 5, 6, 7, 8, r0] 9 9 _ _ g rfl (by omega) (by omega) hO hS3).mono ?_
  rintro e w3 ⟨n, rfl, hn, hS4, hg3⟩
  have hnb : -4611686018427387904 ≤ n ∧ n ≤ 4611686018427387904 := by
    have := hn.out
    simp only [List.mem_cons, List.not_mem_nil, or_false] at this
    omega
  have hb3 := Lib.hid (below_srcC (bal hb2.out (.cells #[.int .i64 1, .int .i64 2, .int .i64 3, .int .i64 4, .int .i64 5, .int .i64 6, .int .i64 7, .int .i64 8, .int .i64 r0] 2)) hg3.out hgw (by simp; exact Nat.le_succ_of_le hb2.out.size))
  clear hO hS3 hS2 hb2 hg3 hn hS4
  go_wp2
  go_ret
  exact ⟨n, rfl, hnb, hb3⟩
end Go.Proofs.Ytdgcjkgbglofbaa

/- The model's draws DrawCountByLeaves and DrawCountByCounts: what comes out of them. -/
namespace Go.Proofs.Ytdgcjkgbglofbaa
open Go.RowKit

set_option maxRecDepth 100000 in
set_option maxHeartbeats 4000000 in
theorem drawCountByLeaves (A : Option Addr) (zs : List Int) (c : Nat) (w : World) (hzc : zs.length ≤ c) (hc : c ≤ 9223372036854775807) (hz : Hid (∀ x ∈ zs, 0 ≤ x ∧ x ≤ 255)) (h : Hid (Byts w w.heap.size A zs)) :
    Calls Try.prog 91 #[.slice A zs.length c] w fun e w' => ∃ n k : Int, e = .returned (.tuple #[.int .i64 n, .int .i64 k]) ∧ ((-4611686018427387904 ≤ n ∧ n ≤ 4611686018427387904) ∧ (-4611686018427387904 ≤ k ∧ k ≤ 4611686018427387904)) ∧ Hid (Below w.heap.size w w') := by
  go_enter Try.func91, Try.ntmps91
  go_wp2_with fail
  refine (l02DrawTwo A zs c w hzc hc hz h).mono ?_
  rintro e w1 ⟨n, k, rfl, hnk, hb⟩
  go_wp2
  refine bodyPost_ret (v := .tuple #[.int .i64 n, .int .i64 k]) (by simp [results, Try.results91, go_sem]) rfl ?_
  exact ⟨n, k, rfl, hnk, hb⟩

/-- what holds while a list of counts is spoiled -/
structure CntQ (w : World) (g D n gO ct : Nat) (X : World) : Prop where
  num : w.heap.size ≤ g ∧ g < D ∧ D ≤ gO
  src : Src X w.heap.size g
  bel : Below w.heap.size w X
  row : ∃ zs : List Int, (zs.length = n ∧ ∀ x ∈ zs, -100 ≤ x ∧ x ≤ 100) ∧ Own64 X D (.slice (some ⟨gO, 0, none⟩) n ct) zs
section
variable {w X X' : World} {g D n gO ct : Nat}
theorem CntQ.be (h : CntQ w g D n gO ct X) (hb : Below X.heap.size X X') : CntQ w g D n gO ct X' := by
  obtain ⟨zs, hz, ho⟩ := h.row
  exact ⟨h.num, h.src.be hb, h.bel.trans (hb.mono h.bel.size), zs, hz, own_below ho hb (Nat.le_refl _)⟩
theorem CntQ.draw (h : CntQ w g D n gO ct X) (hg : X.grownBy X' (some g)) (hS : Src X' w.heap.size g) : CntQ w g D n gO ct X' := by
  obtain ⟨zs, hz, ho⟩ := h.row
  obtain ⟨n1, n2, n3⟩ := h.num
  exact ⟨h.num, hS, below_srcC h.bel hg n1 h.bel.size, zs, hz, own_src ho hg n2⟩
theorem CntQ.set (h : CntQ w g D n gO ct X) (k : Nat) (x : Int) (hx : -100 ≤ x ∧ x ≤ 100) : CntQ w g D n gO ct (X.setCell ⟨gO, k, none⟩ (.int .i64 x)) := by
  obtain ⟨zs, hz, ho⟩ := h.row
  obtain ⟨n1, n2, n3⟩ := h.num
  exact ⟨h.num, h.src.kept (src_grown X gO k (.int .i64 x)) (fun k e => by injection e with e; omega), below_setCell h.bel (by omega) _, zs.set k x, ⟨by simp [hz.1], fun y hy => (List.mem_or_eq_of_mem_set hy).elim (hz.2 y) (fun e => e ▸ hx)⟩, own64_set ho hz.1 k x⟩
theorem CntQ.cell (h : CntQ w g D n gO ct X) {k : Nat} (hk : k < n) : (∃ x, X.cell? ⟨gO, k, none⟩ = some (.int .i64 x)) ∧ X.frozen? ⟨gO, k, none⟩ = false := by
  obtain ⟨zs, hz, ho⟩ := h.row
  have := own64_cell ho hz.1 (List.getElem?_eq_getElem (show k < zs.length by have := hz.1; omega))
  exact ⟨⟨_, this.1⟩, this.2.1⟩
end
/-- a list of counts comes out, or seldom another list -/
def CntT (w w' : World) (e : Ending) : Prop :=
  ∃ (m : Nat) (A' : Option Addr) (c' : Nat) (zs : List Int), e = .returned (.slice A' m c') ∧ m ≤ 26 ∧ Hid (zs.length = m) ∧ Hid (∀ x ∈ zs, -100 ≤ x ∧ x ≤ 100) ∧ Hid (Own64 w' w.heap.size (.slice A' m c') zs) ∧ Hid (Below w.heap.size w w')

set_option maxRecDepth 100000 in
set_option maxHeartbeats 8000000 in
theorem drawCountByCounts (A : Option Addr) (zs : List Int) (c : Nat) (w : World) (hzc : zs.length ≤ c) (hc : c ≤ 9223372036854775807) (hz : Hid (∀ x ∈ zs, 0 ≤ x ∧ x ≤ 255)) (h : Hid (Byts w w.heap.size A zs)) :
    Calls Try.prog 105 #[.slice A zs.length c] w fun e w' => CntT w w' e := by
  go_enter Try.func105, Try.ntmps105
  go_wp2_with fail
  refine (l01From A zs c w hzc hc hz h).mono ?_
  rintro e w1 ⟨g, rfl, hS1, hb1⟩
  have hgw : w.heap.size ≤ g := hS1.out.1
  have hS3 := Lib.hid (hS1.out.be (bal (b0 w1) (.cells #[.int .i64 6, .int .i64 20] 2)))
  have hO := Lib.hid (off_new w1 g hS1.out.lt [6, 20])
  simp only [List.map_cons, List.map_nil] at hO
  go_wp2_with fail
  refine (l01Pick (some ⟨w1.heap.size, 0, none⟩) [6, 20] 2 2 _ _ g rfl (by omega) (by omega) hO hS3).mono ?_
  rintro e w2 ⟨q, rfl, hq, hS4, hg2⟩
  have hqb : 6 ≤ q ∧ q ≤ 20 := by
    have := hq.out
    simp only [List.mem_cons, List.not_mem_nil, or_false] at this
    omega
  have hb2 := Lib.hid (below_srcC (bal hb1.out (.cells #[.int .i64 6, .int .i64 20] 2)) hg2.out hgw (by simp; exact Nat.le_succ_of_le hb1.out.size))
  clear hO hS3 hS1 hb1 hg2 hq
  go_wp2_with fail
  refine (l01Next q w2 _ g (by omega) hS4).mono ?_
  rintro e w3 ⟨r, rfl, hr, hS5, hg3⟩
  have hb3 := Lib.hid (below_srcC hb2.out hg3.out hgw hb2.out.size)
  clear hb2 hg3 hS4
  obtain ⟨N, hN⟩ : ∃ N : Nat, (N : Int) = 1 + r := ⟨(1 + r).toNat, by omega⟩
  go_wp2_with fail
  rw [← hN]
  refine (l01DrawOf N w3 _ g (by omega) (by omega) hS5).mono ?_
  rintro e w4 ⟨T, ct, ds, rfl, hl, ht, ho, hS6, hg4⟩
  have hb4 := Lib.hid (below_srcC hb3.out hg4.out hgw hb3.out.size)
  have hcap := own_cap ho.out
  obtain rfl := hl.out
  have hgl := hS6.out.lt
  have hC := spec_CountsOfTree T ds ct w4 (by omega) hcap (ints_of_own64 ho.out)
  rw [F_CountsOfTree, M.cond_yes ht.out] at hC
  have hp1 := M.counts_pos (xs := ds) (by omega)
  have hp2 : (M.counts ds).length ≤ 25 := by
    show (M.rowN _ _ _).length ≤ _
    rw [M.rowN_len]
    exact width_le ht.out
  have hci : ∀ x ∈ M.counts ds, -100 ≤ x ∧ x ≤ 100 := fun x hx => by
    obtain ⟨j, _, rfl⟩ := List.mem_map.1 hx
    have := M.countTo_le ds j ds.length
    omega
  obtain ⟨cs, hcs⟩ : ∃ cs, Hid (M.counts ds = cs) := ⟨_, rfl⟩
  rw [hcs.out] at hC hp1 hp2 hci
  have hci := Lib.hid hci
  have HC := Lib.hid hC
  obtain ⟨m, hm⟩ : ∃ m, Hid (cs.length = m) := ⟨_, rfl⟩
  rw [hm.out] at hp1 hp2
  clear hb3 hg4 hS5 hC ho hl
  go_wp2_with fail
  refine HC.out.mono ?_
  rintro e w5 ⟨O, cO, rfl, ho5, hb5⟩
  obtain ⟨gO, rfl⟩ := own64_shapeC ho5 (by have := hm.out; omega)
  have hgO := World.ownsRow.lt ho5 gO rfl
  have hQ : Hid (CntQ w g w4.heap.size m gO cO w5) := ⟨⟨hgw, hgl, hgO.1⟩, hS6.out.be hb5, hb4.out.trans (hb5.mono hb4.out.size), cs, ⟨hm.out, hci.out⟩, by rw [← hm.out]; exact ho5⟩
  simp only [hm.out]
  clear HC ho5 hb5 hb4 hS6 hcs ht
  go_wp2_with fail
  refine (l01Next 8 w5 _ g (by omega) (Lib.hid hQ.out.src)).mono ?_
  rintro e w6 ⟨r6, rfl, hr6, hS7, hg7⟩
  have hQ6 := Lib.hid (hQ.out.draw hg7.out hS7.out)
  clear hQ hS7 hg7
  by_cases h0 : r6 = 0
  · subst h0
    have QA := Lib.hid (fun (X : World) (o : Obj) (hX : Hid (CntQ w g w4.heap.size m gO cO X)) => (show Hid (CntQ w g w4.heap.size m gO cO (X.alloc o)) from hX.out.be (bal (b0 X) o)))
    have QW := Lib.hid (fun (X : World) (k : Nat) (x : Int) (hx : -100 ≤ x ∧ x ≤ 100) (hX : Hid (CntQ w g w4.heap.size m gO cO X)) => (show Hid (CntQ w g w4.heap.size m gO cO (X.setCell ⟨gO, k, none⟩ (.int .i64 x))) from hX.out.set k x hx))
    have HX := Lib.hid (fun (X : World) (hX : Hid (CntQ w g w4.heap.size m gO cO X)) => (l01Next (m : Int) X w.heap.size g (by omega) (Lib.hid hX.out.src)).mono fun e w' h => (show ∃ k : Nat, e = .returned (.int .i64 (k : Int)) ∧ k < m ∧ Hid (CntQ w g w4.heap.size m gO cO w') ∧ Hid (X.grownBy w' (some g)) from by
      obtain ⟨r, he, ⟨h1, h2⟩, h3, h4⟩ := h
      obtain ⟨k, rfl⟩ := Int.eq_ofNat_of_zero_le h1
      exact ⟨k, he, by omega, hX.out.draw h4.out h3.out, h4⟩))
    have HP := Lib.hid (fun (X : World) (N : Nat) (hX : Hid (CntQ w g w4.heap.size m gO cO X)) (hO : Hid (Off X g (some ⟨N, 0, none⟩) [0, 1, 2, -1, 21])) => (l01Pick (some ⟨N, 0, none⟩) [0, 1, 2, -1, 21] 5 5 X w.heap.size g rfl (by omega) (by omega) hO (Lib.hid hX.out.src)).mono fun e w' h => (show ∃ x : Int, e = .returned (.int .i64 x) ∧ (-100 ≤ x ∧ x ≤ 100) ∧ Hid (CntQ w g w4.heap.size m gO cO w') from by
      obtain ⟨r, he, h1, h3, h4⟩ := h
      have h1 := h1.out
      simp only [List.mem_cons, List.not_mem_nil, or_false] at h1
      exact ⟨r, he, by omega, hX.out.draw h4.out h3.out⟩))
    have OF := Lib.hid (fun (X : World) (hX : Hid (CntQ w g w4.heap.size m gO cO X)) => (show Hid (Off (X.alloc (.cells #[.int .i64 0, .int .i64 1, .int .i64 2, .int .i64 (-1), .int .i64 21] 2)) g (some ⟨X.heap.size, 0, none⟩) [0, 1, 2, -1, 21]) from by
      have := off_new X g hX.out.src.lt [0, 1, 2, -1, 21]
      simp only [List.map_cons, List.map_nil] at this
      exact this))
    have K0 := hQ6
    have KD : Hid (CntQ w g w4.heap.size m gO cO w6.drew) := hQ6.out.be (Below.refl _ _).drew
    clear hQ6
    go_wp2_with (first | (go_at_call 186; refine (HX.out _ (by first | exact K0 | exact QA.out _ _ K0 | exact KD | exact QA.out _ _ KD)).mono ?_; rintro e w7 ⟨k7, rfl, hk7, K7, hg7⟩; have hk70 : (0 : Int) ≤ (k7 : Int) := (by omega); have hk7n : (k7 : Int) < (m : Int) := (by omega)) | (go_at_call 209; refine (HP.out _ _ (by first | exact K7 | exact QA.out _ _ K7) (by first | exact OF.out _ K7 | exact off_src (OF.out _ K0) hg7.out | exact off_src (OF.out _ KD) hg7.out)).mono ?_; rintro e w8 ⟨x8, rfl, hx8, K8⟩; obtain ⟨⟨d8, cd8⟩, fd8⟩ := K8.out.cell hk7))
    have K9 := QW.out _ k7 x8 hx8 K8
    obtain ⟨zs9, ⟨hz9, hi9⟩, ho9⟩ := K9.out.row
    have F1 := Lib.hid (own_mono (base' := w.heap.size) ho9 (by omega))
    go_ret
    exact ⟨m, _, cO, zs9, rfl, by omega, hz9, hi9, F1, Lib.hid K9.out.bel⟩
  · have hb0 : (r6 == 0) = false := by simp [h0]
    by_cases h1 : r6 = 1
    · subst h1
      have hS8 := Lib.hid (hQ6.out.src.be (bal (b0 w6) (.cells #[.int .i64 0, .int .i64 1] 2)))
      have hO := Lib.hid (off_new w6 g hQ6.out.src.lt [0, 1])
      simp only [List.map_cons, List.map_nil] at hO
      have hQ7 := Lib.hid (hQ6.out.be (bal (b0 w6) (.cells #[.int .i64 0, .int .i64 1] 2)))
      clear hQ6
      go_wp2_with fail
      refine (l01Pick (some ⟨w6.heap.size, 0, none⟩) [0, 1] 2 2 _ _ g rfl (by omega) (by omega) hO hS8).mono ?_
      rintro e w8 ⟨x, rfl, hxm, hS9, hg9⟩
      have hxb : x = 0 ∨ x = 1 := by
        have := hxm.out
        simpa only [List.mem_cons, List.not_mem_nil, or_false] using this
      clear hxm
      have hQ8 := Lib.hid (hQ7.out.draw hg9.out hS9.out)
      clear hQ7 hS8 hO hS9 hg9
      obtain ⟨zs8, ⟨hz8, hi8⟩, ho8⟩ := hQ8.out.row
      have hi8 := Lib.hid hi8
      have Hxb := Lib.hid hxb
      clear hxb
      have Ho8 := Lib.hid ho8
      have hs8 := hQ8.out.bel.size
      have hx8 := World.ownsRow.lt ho8 gO rfl
      have hB8 := Lib.hid hQ8.out.bel
      clear hQ8 ho8
      go_wp2_with (at_builtin; refine push64K rfl (.tmp 35) (.tmp 39) rfl w8 w4.heap.size (some ⟨gO, 0, none⟩) m cO zs8 x rfl _ rfl rfl Ho8 (by omega) (by omega) ?_; intro A3 c3 w9 ho3 hg3 _; have hg4 := Lib.hid (src_tr (World.grownBy_alloc w8 (.cells #[.int .i64 x] 2) (some gO)) hg3.out); have hbE := Lib.hid (below_srcC hB8.out hg4.out (by omega) hs8); have F1 := Lib.hid (own_mono (base' := w.heap.size) ho3.out (by omega)); clear hg3 hg4 ho3 Ho8)
      go_ret
      exact ⟨m + 1, A3, c3, _, rfl, by omega, Lib.hid (by simp [hz8]), Lib.hid (fun y hy => (List.mem_append.1 hy).elim (hi8.out y) (fun h => by have := List.mem_singleton.1 h; have := Hxb.out; omega)), F1, hbE⟩
    · have hb1 : (r6 == 1) = false := by simp [h1]
      obtain ⟨zs9, ⟨hz9, hi9⟩, ho9⟩ := hQ6.out.row
      have hi9 := Lib.hid hi9
      have hs8 := hQ6.out.bel.size
      have F1 := Lib.hid (own_mono (base' := w.heap.size) ho9 (by omega))
      have F2 := Lib.hid hQ6.out.bel
      clear ho9 hQ6
      go_wp2
      go_ret
      exact ⟨m, _, cO, zs9, rfl, by omega, hz9, hi9, F1, F2⟩
end Go.Proofs.Ytdgcjkgbglofbaa

/- The laws' sum of a list of numbers, where no partial sum is great. -/
namespace Go.Proofs.Ytdgcjkgbglofbaa
open Go.RowKit

set_option maxHeartbeats 1000000 in
set_option maxRecDepth 100000 in
theorem lawSum (A : Option Addr) (xs : List Int) (n c : Nat) (w : World) (hn : Hid (xs.length = n)) (hl : n ≤ 1048576) (hb : Hid (∀ k, k ≤ n → -1000000 ≤ M.sumI xs k ∧ M.sumI xs k ≤ 1000000)) (h : Ints w w.heap.size A xs) :
    Calls Try.prog 39 #[.slice A n c] w fun e w' => e = .returned (.int .i64 (M.sumI xs n)) ∧ Below w.heap.size w w' := by
  go_enter Try.func39, Try.ntmps39
  go_wp2
  go_loopw [3, 4] (fun s i wr => ∃ (k : Nat) (y : Int), k ≤ n ∧ i = .int .i64 (k : Int) ∧ s = .int .i64 y ∧ Hid (M.sumI xs k = y) ∧ Hid (Below w.heap.size w wr)) (fun _ i _ => n - (intOf i).toNat)
  case atStart => exact ⟨0, 0, Nat.zero_le _, rfl, rfl, rfl, b0 w⟩
  case round =>
    obtain ⟨k, y, hk, rfl, rfl, hy, hB⟩ := hrel
    by_cases hlt : k < n
    · obtain ⟨b, off, x, rfl, hbB, g, hX⟩ := (h.below hB.out (Nat.le_refl _)).at_ (k := k) (by have := hn.out; omega)
      have h1 := hb.out k (by omega)
      have h2 := hb.out (k + 1) (by omega)
      rw [M.sumI_at hX, hy.out] at h2
      rw [hy.out] at h1
      have hs : Hid (M.sumI xs (k + 1) = y + x) := by show _ = _; rw [M.sumI_at hX, hy.out]
      clear h hX hy
      go_wp2
      go_roundw
      case rel => exact ⟨k + 1, y + x, by omega, by go_num, by go_num, hs, hB⟩
      case measure => simp [intOf]; omega
    · obtain rfl : k = n := by omega
      clear h
      go_wp2
      go_ret
      refine ⟨?_, hB⟩
      rw [hy.out]
      rfl
end Go.Proofs.Ytdgcjkgbglofbaa

/- The walk of the laws' likeInts: two lists of numbers are equal. -/
namespace Go.Proofs.Ytdgcjkgbglofbaa
open Go.RowKit

set_option maxHeartbeats 400000 in
theorem likeInts (A A' : Option Addr) (xs ys : List Int) (c c' : Nat) (w : World) (hy : ys.length ≤ 1000000000000000)
    (h : Ints w w.heap.size A xs) (h' : Ints w w.heap.size A' ys) :
    Calls Try.prog 33 #[.slice A xs.length c, .slice A' ys.length c'] w fun e w' => e = .returned (.bool (decide (xs = ys))) ∧ Below w.heap.size w w' := by
  by_cases hl : xs.length = ys.length
  · have hl' : ((xs.length : Int) != (ys.length : Int)) = false := by simp [hl]
    have Hl := Lib.hid hl
    have hl1 : xs.length ≤ ys.length := by omega
    clear hl
    go_enter Try.func33, Try.ntmps33
    go_wp2
    go_loopw [5] (fun i wr => ∃ k : Nat, k ≤ xs.length ∧ i = .int .i64 k ∧ Hid (xs.take k = ys.take k) ∧ Below w.heap.size w wr) (fun i _ => xs.length - (intOf i).toNat)
    case atStart => exact ⟨0, Nat.zero_le _, rfl, rfl, Below.refl _ _⟩
    case round =>
      obtain ⟨k, hk, rfl, he, hb⟩ := hrel
      by_cases hlt : k < xs.length
      · obtain ⟨b, off, x, rfl, hbB, g, hX⟩ := (h.below hb (Nat.le_refl _)).at_ hlt
        obtain ⟨b', off', y, rfl, hbB', g', hY⟩ := (h'.below hb (Nat.le_refl _)).at_ (k := k) (by omega)
        clear h h'
        by_cases hq : x = y
        · subst hq
          have hs := take_eq_succ hX hY he
          go_wp2
          go_quiet (fail)
          go_wp2
          go_roundw
          case rel => exact ⟨k + 1, by omega, by go_num, hs, below_drewN hb _⟩
          case measure => simp [intOf]; omega
        · have hq' : (x != y) = true := by simp [hq]
          have hs := ne_of_at hX hY hq
          clear hq
          go_wp2
          go_quiet (fail)
          go_wp2
          go_ret
          exact ⟨by simp [hs], below_drewN hb _⟩
      · obtain rfl : k = xs.length := by omega
        have hs : xs = ys := by
          have := he.out
          rw [List.take_length, Hl.out, List.take_length] at this
          exact this
        have Hs := Lib.hid hs
        clear hs
        go_wp2
        go_ret
        exact ⟨by simp [Hs.out], hb⟩
  · have hl' : ((xs.length : Int) != (ys.length : Int)) = true := by simp; omega
    go_enter Try.func33, Try.ntmps33
    go_wp2
    go_ret
    refine ⟨?_, Below.refl _ _⟩
    have : ¬ xs = ys := fun e => hl (by rw [e])
    simp [this]

theorem likeIntsT (A A' : Option Addr) (xs : List Int) (c c' : Nat) (w : World) (hy : xs.length ≤ 1000000000000000) (h : Ints w w.heap.size A xs) (h' : Ints w w.heap.size A' xs) :
    Calls Try.prog 33 #[.slice A xs.length c, .slice A' xs.length c'] w fun e w' => e = .returned (.bool true) ∧ Below w.heap.size w w' := by
  have := likeInts A A' xs xs c c' w hy h h'
  rwa [decide_eq_true rfl] at this
end Go.Proofs.Ytdgcjkgbglofbaa

/- The walk of the laws' tree9: two trees are equal. -/
namespace Go.Proofs.Ytdgcjkgbglofbaa
open Go.RowKit

theorem likeTree9 (A A' : Option Addr) (xs : List Int) (c c' : Nat) (w : World) (hy : xs.length ≤ 1000000000000000) (h : Ints w w.heap.size A xs) (h' : Ints w w.heap.size A' xs) :
    Calls Try.prog 81 #[.agg #[.slice A xs.length c], .agg #[.slice A' xs.length c']] w fun e w' => e = .returned (.bool true) ∧ Below w.heap.size w w' := by
  have C := likeIntsT A A' xs c c' _ hy ((h.al (.cells #[.slice A xs.length c] 26)).al (.cells #[.slice A' xs.length c'] 26)) ((h'.al _).al _)
  have HC := Lib.hid C
  clear C
  go_enter Try.func81, Try.ntmps81
  go_wp2_with fail
  refine HC.out.mono ?_
  rintro e w1 ⟨rfl, hb⟩
  have hB := btr (bal (bal (b0 w) _) _) hb
  go_wp2
  go_ret
  exact ⟨rfl, hB⟩
end Go.Proofs.Ytdgcjkgbglofbaa

/- The walk of the laws' trees9: two lists of trees are equal. -/
namespace Go.Proofs.Ytdgcjkgbglofbaa
open Go.RowKit

set_option maxRecDepth 100000 in
set_option maxHeartbeats 2000000 in
theorem likeTrees9 (A A' : Option Addr) (zss : List (List Int)) (n c c' : Nat) (w : World) (hn : Hid (zss.length = n)) (hn' : n ≤ 1000000000000) (hz : Hid (∀ zs ∈ zss, zs.length ≤ 1000000000000)) (h : Hid (Trees w A zss)) (h' : Hid (Trees w A' zss)) :
    Calls Try.prog 101 #[.slice A n c, .slice A' n c'] w fun e w' => e = .returned (.bool true) ∧ Below w.heap.size w w' := by
  have hne : ((n : Int) != (n : Int)) = false := by simp
  go_enter Try.func101, Try.ntmps101
  go_wp2
  go_loopw [5] (fun i wr => ∃ k : Nat, k ≤ n ∧ i = .int .i64 (k : Int) ∧ Hid (Below w.heap.size w wr)) (fun i _ => n - (intOf i).toNat)
  case atStart => exact ⟨0, Nat.zero_le _, rfl, b0 w⟩
  case round =>
    obtain ⟨k, hk, rfl, hb⟩ := hrel
    clear hne
    by_cases hlt : k < n
    · have hki : (k : Int) < (n : Int) := by omega
      have hk0 : (0 : Int) ≤ (k : Int) := by omega
      have hkz : k < zss.length := by rw [hn.out]; exact hlt
      have hat : zss[k]? = some zss[k] := List.getElem?_eq_getElem hkz
      have hzk := hz.out _ (List.mem_of_getElem? hat)
      generalize zss[k] = zs at hat hzk
      obtain ⟨b, rfl, hbl, hc⟩ := h.out (by omega)
      obtain ⟨b', rfl, hbl', hc'⟩ := h'.out (by omega)
      obtain ⟨A1, c1, h1, h2⟩ := hc k zs hat
      obtain ⟨A2, c2, h3, h4⟩ := hc' k zs hat
      have HC : Hid (∀ W', Hid (Below w.heap.size w W') → W'.cell? ⟨b, k, none⟩ = some (.slice A1 zs.length c1) ∧ W'.cell? ⟨b', k, none⟩ = some (.slice A2 zs.length c2)) := fun W' hW' => ⟨(hW'.out.cell (p := ⟨b, k, none⟩) hbl).trans h1, (hW'.out.cell (p := ⟨b', k, none⟩) hbl').trans h3⟩
      have HE : Hid (∀ W', Hid (Below w.heap.size w W') → Calls Try.prog 81 #[.agg #[.slice A1 zs.length c1], .agg #[.slice A2 zs.length c2]] W' fun e w' => e = .returned (.bool true) ∧ Hid (Below w.heap.size w w')) := fun W' hW' =>
        (likeTree9 A1 A2 zs c1 c2 W' (by omega) (h2.be hW'.out) (h4.be hW'.out)).mono fun e w' ⟨he, hb'⟩ => ⟨he, btr hW'.out hb'⟩
      have K0 : Hid (Below w.heap.size w wr.drew) := hb.out.drew
      obtain ⟨d1, d2⟩ := HC.out _ K0
      obtain ⟨e1, e2⟩ := HC.out _ hb
      clear hat hc hc' h1 h2 h3 h4 hbl hbl' hkz
      go_wp2
      go_region_held3 (fun w' => w'.cell? ⟨b, k, none⟩ = some (.slice A1 zs.length c1) ∧ w'.cell? ⟨b', k, none⟩ = some (.slice A2 zs.length c2)) (first | exact ⟨d1, d2⟩ | exact HC.out _ (by assumption)) (first | (go_at_call 81; refine (HE.out _ K0).mono ?_; rintro e w7 ⟨rfl, hb7⟩))
      clear d1 d2 e1 e2 K0 HE HC hb
      go_wp2
      go_roundw
      case rel => exact ⟨k + 1, by omega, by go_num, hb7⟩
      case measure => simp [intOf]; omega
    · obtain rfl : k = n := by omega
      have hge : ¬ (k : Int) < (k : Int) := by omega
      go_wp2
      go_ret
      exact ⟨rfl, hb.out⟩

end Go.Proofs.Ytdgcjkgbglofbaa

/- The walk of the laws' big: is a code longer than 4096 bytes? -/
namespace Go.Proofs.Ytdgcjkgbglofbaa
open Go.RowKit

theorem big_yes (A : Option Addr) (n c : Nat) (w : World) (hn : 4096 < n) : Calls Try.prog 17 #[.slice A n c] w fun e w' => e = .returned (.bool true) ∧ w = w' := by
  have h : (4096 : Int) < (n : Int) := by omega
  go_enter Try.func17, Try.ntmps17
  go_wp2
  go_ret
  exact ⟨rfl, rfl⟩
theorem big_no (A : Option Addr) (n c : Nat) (w : World) (hn : ¬ 4096 < n) : Calls Try.prog 17 #[.slice A n c] w fun e w' => e = .returned (.bool false) ∧ w = w' := by
  have h : ¬ (4096 : Int) < (n : Int) := by omega
  go_enter Try.func17, Try.ntmps17
  go_wp2
  go_ret
  exact ⟨rfl, rfl⟩
end Go.Proofs.Ytdgcjkgbglofbaa

/- The walk of the law FnTreeCounts: it returns true at every code, and writes into nothing that was there. Written by genlawtc.py. -/
namespace Go.Proofs.Ytdgcjkgbglofbaa
open Go.RowKit

set_option maxHeartbeats 16000000 in
set_option maxRecDepth 100000 in
theorem lawFnTreeCounts (A : Option Addr) (xs : List Int) (c : Nat) (w : World) (hxc : xs.length ≤ c) (hc : c ≤ 9223372036854775807) (hx : ∀ x ∈ xs, 0 ≤ x ∧ x ≤ 255) (h : Byts w w.heap.size A xs) :
    Calls Try.prog 6 #[.slice A xs.length c] w fun e w' => e = .returned (.bool true) ∧ Below w.heap.size w w' := by
  by_cases hbig : 4096 < xs.length
  · go_enter Try.func6, Try.ntmps6
    go_wp2_with fail
    refine (big_yes A xs.length c w hbig).mono ?_
    rintro e w1 ⟨rfl, rfl⟩
    go_wp2
    go_ret
    exact ⟨rfl, b0 w⟩
  · have hxB := Lib.hid hx
    have hBY := Lib.hid h
    clear hx h
    go_enter Try.func6, Try.ntmps6
    go_wp2_with fail
    refine (big_no A xs.length c w hbig).mono ?_
    rintro e w1 ⟨rfl, rfl⟩
    go_wp2_with fail
    refine (drawCountByLeaves A xs c w hxc hc hxB hBY).mono ?_
    rintro e w1 ⟨n, k, rfl, ⟨hn, hk⟩, B⟩
    obtain ⟨lv, q1, hF1⟩ : ∃ P p1, Hid (F_CountByLeaves n k = (P, p1)) := ⟨_, _, rfl⟩
    obtain ⟨hv, q2, hF2⟩ : ∃ P p1, Hid (F_CountByHeight n k = (P, p1)) := ⟨_, _, rfl⟩
    obtain ⟨rv, q3, hF3⟩ : ∃ P p1, Hid (F_CountByRoot n k = (P, p1)) := ⟨_, _, rfl⟩
    have HI := Lib.hid (fun w' => impl_CountByLeaves n k w' (by omega) (by omega) (by omega) (by omega))
    have HS := Lib.hid (fun w' => spec_CountByLeaves n k w' (by omega) (by omega) (by omega) (by omega))
    rw [hF1.out] at HI HS
    simp only at HI HS
    have hnp1 : (q1 != q1) = false := by simp
    have hnv1 : (lv != lv) = false := by simp
    go_wp2_with fail
    refine (HI.out _).mono ?_
    rintro e wi1 ⟨rfl, hb⟩
    replace B := Lib.hid (btr B.out hb)
    clear hb HI
    go_wp2_with fail
    refine (HS.out _).mono ?_
    rintro e ws1 ⟨rfl, hb⟩
    replace B := Lib.hid (btr B.out hb)
    clear hb HS
    have HI := Lib.hid (fun w' => impl_CountByHeight n k w' (by omega) (by omega) (by omega) (by omega))
    have HS := Lib.hid (fun w' => spec_CountByHeight n k w' (by omega) (by omega) (by omega) (by omega))
    rw [hF2.out] at HI HS
    simp only at HI HS
    have hnp2 : (q2 != q2) = false := by simp
    have hnv2 : (hv != hv) = false := by simp
    go_wp2_with fail
    refine (HI.out _).mono ?_
    rintro e wi2 ⟨rfl, hb⟩
    replace B := Lib.hid (btr B.out hb)
    clear hb HI
    go_wp2_with fail
    refine (HS.out _).mono ?_
    rintro e ws2 ⟨rfl, hb⟩
    replace B := Lib.hid (btr B.out hb)
    clear hb HS
    have HI := Lib.hid (fun w' => impl_CountByRoot n k w' (by omega) (by omega) (by omega) (by omega))
    have HS := Lib.hid (fun w' => spec_CountByRoot n k w' (by omega) (by omega) (by omega) (by omega))
    rw [hF3.out] at HI HS
    simp only at HI HS
    have hnp3 : (q3 != q3) = false := by simp
    have hnv3 : (rv != rv) = false := by simp
    go_wp2_with fail
    refine (HI.out _).mono ?_
    rintro e wi3 ⟨rfl, hb⟩
    replace B := Lib.hid (btr B.out hb)
    clear hb HI
    go_wp2_with fail
    refine (HS.out _).mono ?_
    rintro e ws3 ⟨rfl, hb⟩
    replace B := Lib.hid (btr B.out hb)
    clear hb HS
    go_wp2_with fail
    refine (drawTreesOf A xs c _ hxc hc hxB (hBY.out.be B.out)).mono ?_
    rintro e w8 ⟨m, rfl, hm, hb⟩
    replace B := Lib.hid (btr B.out hb.out)
    clear hb hnp1 hnv1 hnp2 hnv2 hnp3 hnv3
    obtain ⟨Z, q4, hF4⟩ : ∃ P p1, Hid (F_TreesOf m = (P, p1)) := ⟨_, _, rfl⟩
    have HI := Lib.hid (fun w' => impl_TreesOf m w' (by omega) (by omega))
    have HS := Lib.hid (fun w' => spec_TreesOf m w' (by omega) (by omega))
    rw [hF4.out] at HI HS
    have hZ1 := treesF_len m
    have hZ2 := treesF_small m
    rw [hF4.out] at hZ1 hZ2
    simp only at HI HS hZ1 hZ2
    obtain ⟨z, hz⟩ : ∃ z, Hid (Z.length = z) := ⟨_, rfl⟩
    rw [hz.out] at HI HS hZ1
    have HZ : Hid (∀ zs ∈ Z, zs.length ≤ 1000000000000) := fun zs h => Nat.le_trans (hZ2 zs h) (by omega)
    clear hZ2
    have hnp4 : (q4 != q4) = false := by simp
    go_wp2_with fail
    refine (HI.out _).mono ?_
    rintro e w9 ⟨A4, c4, hs4, rfl, o4, hb⟩
    replace B := Lib.hid (btr B.out hb)
    have O4 := Lib.hid o4
    clear hb HI o4
    go_wp2_with fail
    refine (HS.out _).mono ?_
    rintro e w10 ⟨A5, c5, hs5, rfl, o5, hb⟩
    replace B := Lib.hid (btr B.out hb)
    replace O4 := Lib.hid (O4.out.be hb)
    have O5 := Lib.hid o5
    clear hb HS o5
    go_wp2_with fail
    refine (likeTrees9 A4 A5 Z z c4 c5 _ hz (by omega) HZ (O4.out.trees) (O5.out.trees)).mono ?_
    rintro e w11 ⟨rfl, hb⟩
    replace B := Lib.hid (btr B.out hb)
    replace O4 := Lib.hid (O4.out.be hb)
    replace O5 := Lib.hid (O5.out.be hb)
    clear hb HZ
    clear O4 O5
    go_wp2_with fail
    refine (drawCountsOfTree A xs c _ hxc hc hxB (hBY.out.be B.out)).mono ?_
    rintro e w12 ⟨mt, T1, ct, ts, rfl, hmt, hl, o1, hb⟩
    replace B := Lib.hid (btr B.out hb.out)
    obtain rfl := hl.out
    have hcap1 := own_cap o1.out
    have hle1 : ts.length ≤ 1048576 := by omega
    obtain ⟨bT, hbT⟩ : ∃ b, Hid (w12.heap.size = b) := ⟨_, rfl⟩
    have cT : (w12.alloc (.cells #[.slice T1 ts.length ct] 26)).cell? ⟨bT, 0, none⟩ = some (.slice T1 ts.length ct) := by rw [← hbT.out]; simp
    have OT := Lib.hid (o1.out.alloc (.cells #[.slice T1 ts.length ct] 26))
    replace B := Lib.hid (bal B.out (.cells #[.slice T1 ts.length ct] 26))
    clear hb o1 hl
    obtain ⟨cs, q5, hF5⟩ : ∃ P p1, Hid (F_CountsOfTree ts = (P, p1)) := ⟨_, _, rfl⟩
    have HI := Lib.hid (fun w' h' => impl_CountsOfTree T1 ts ct w' hle1 hcap1 h')
    have HS := Lib.hid (fun w' h' => spec_CountsOfTree T1 ts ct w' hle1 hcap1 h')
    rw [hF5.out] at HI HS
    have hcl := F_CountsOfTree_len ts
    rw [hF5.out] at hcl
    simp only at HI HS hcl
    have hnp5 : (q5 != q5) = false := by simp
    go_wp2_with fail
    rw [hbT.out]
    refine (HI.out _ (ints_of_own64 OT.out)).mono ?_
    rintro e w13 ⟨A6, c6, rfl, o, hb⟩
    replace B := Lib.hid (btr B.out hb)
    replace cT := cell_be cT hb
    replace OT := Lib.hid (own_be OT.out hb)
    have O6 := Lib.hid o
    clear hb HI o
    go_wp2_with fail
    refine (HS.out _ (ints_of_own64 OT.out)).mono ?_
    rintro e w14 ⟨A7, c7, rfl, o, hb⟩
    replace B := Lib.hid (btr B.out hb)
    replace cT := cell_be cT hb
    replace OT := Lib.hid (own_be OT.out hb)
    replace O6 := Lib.hid (own_be O6.out hb)
    have O7 := Lib.hid o
    clear hb HS o
    go_wp2_with fail
    refine (likeIntsT A6 A7 cs c6 c7 _ (by omega) (ints_of_own64 O6.out) (ints_of_own64 O7.out)).mono ?_
    rintro e w15 ⟨rfl, hb⟩
    replace B := Lib.hid (btr B.out hb)
    replace cT := cell_be cT hb
    replace OT := Lib.hid (own_be OT.out hb)
    replace O6 := Lib.hid (own_be O6.out hb)
    replace O7 := Lib.hid (own_be O7.out hb)
    clear hb
    clear O7
    go_wp2_with fail
    refine (drawCountByCounts A xs c _ hxc hc hxB (hBY.out.be B.out)).mono ?_
    rintro e w16 ⟨mg, G1, cg, gs, rfl, hmg, hgl, hgi, o8, hb⟩
    replace B := Lib.hid (btr B.out hb.out)
    replace cT := cell_be cT hb.out
    replace OT := Lib.hid (own_be OT.out hb.out)
    replace O6 := Lib.hid (own_be O6.out hb.out)
    obtain rfl := hgl.out
    have hcap8 := own_cap o8.out
    have O8 := o8
    clear hb o8 hgl hBY hxB
    obtain ⟨nb, q6, hF6⟩ : ∃ P p1, Hid (F_CountByCounts gs = (P, p1)) := ⟨_, _, rfl⟩
    have HI := Lib.hid (fun w' h' => impl_CountByCounts G1 gs cg w' (by omega) hcap8 h' (fun x hx => by have := hgi.out x hx; omega))
    have HS := Lib.hid (fun w' h' => spec_CountByCounts G1 gs cg w' (by omega) hcap8 h' (fun x hx => by have := hgi.out x hx; omega))
    rw [hF6.out] at HI HS
    simp only at HI HS
    have hnp6 : (q6 != q6) = false := by simp
    have hnv6 : (nb != nb) = false := by simp
    go_wp2_with fail
    refine (HI.out _ (ints_of_own64 O8.out)).mono ?_
    rintro e w17 ⟨rfl, hb⟩
    replace B := Lib.hid (btr B.out hb)
    replace cT := cell_be cT hb
    replace OT := Lib.hid (own_be OT.out hb)
    replace O6 := Lib.hid (own_be O6.out hb)
    replace O8 := Lib.hid (own_be O8.out hb)
    clear hb HI
    go_wp2_with fail
    refine (HS.out _ (ints_of_own64 O8.out)).mono ?_
    rintro e w18 ⟨rfl, hb⟩
    replace B := Lib.hid (btr B.out hb)
    replace cT := cell_be cT hb
    replace OT := Lib.hid (own_be OT.out hb)
    replace O6 := Lib.hid (own_be O6.out hb)
    replace O8 := Lib.hid (own_be O8.out hb)
    clear hb HS
    clear O8
    go_upto_region 31 with fail
    clear hnp4 hnp5 hnp6 hnv6
    go_cut [3, 184] (fun s3 s4 wx => s3 = .int .i64 n ∧ s4 = .bool false ∧ Hid (Below w18.heap.size w18 wx))
    case first => as_aux_lemma =>
      by_cases h5 : q5 = 0
      · subst h5
        obtain ⟨hsm, hse⟩ := sum_of hF5.out
        have HU := Lib.hid (fun w' h' => lawSum A6 cs cs.length c6 w' rfl (by omega) (Lib.hid hsm) h')
        rw [hse] at HU
        have hnt : ((ts.length : Int) != (ts.length : Int)) = false := by simp
        clear hsm hse
        have cT0 : w18.drew.cell? ⟨bT, 0, none⟩ = some (.slice T1 ts.length ct) := cT
        have KD : Below w18.heap.size w18 w18.drew := (Below.refl _ _).drew
        have O60 := Lib.hid (own_be O6.out KD)
        go_region_held3 (fun X => X.cell? ⟨bT, 0, none⟩ = some (.slice T1 ts.length ct)) (first | exact cT0 | exact cT1) ((go_at_call 39; refine (HU.out _ (ints_of_own64 O60.out)).mono ?_; rintro e w19 ⟨rfl, hb⟩; have cT1 := cell_be cT0 hb; have HB := Lib.hid (btr KD hb)))
        all_goals (
          go_wp2
          go_meet
          case rel => exact ⟨rfl, rfl, HB⟩)
      · have hb3 : (q5 == 0) = false := by simp [h5]
        go_quiet (fail)
        go_wp2
        go_meet
        case rel => exact ⟨rfl, rfl, Lib.hid (below_drewN (b0 _) _)⟩
    case rest => as_aux_lemma =>
      obtain ⟨rfl, rfl, hb⟩ := hcut
      replace B := Lib.hid (btr B.out hb.out)
      replace cT := cell_be cT hb.out
      replace OT := Lib.hid (own_be OT.out hb.out)
      replace O6 := Lib.hid (own_be O6.out hb.out)
      clear cT OT O6
      clear hb
      rename World => V1
      go_upto_if 186 with fail
      go_cut [3] (fun s3 wx => s3 = .int .i64 n ∧ Hid (Below V1.heap.size V1 wx))
      case first => as_aux_lemma =>
        by_cases h4 : q4 = 0
        · subst h4
          have e1 := treesOf_all hF4.out
          rw [hz.out] at e1
          have HK := Lib.hid (fun w' => impl_CountTrees m w' (by omega) (by omega))
          rw [e1] at HK
          simp only at HK
          have hnz : ((z : Int) != (z : Int)) = false := by simp
          clear e1 hF4
          go_wp2_with fail
          refine (HK.out _).mono ?_
          rintro e w20 ⟨rfl, hb⟩
          have HB := Lib.hid hb
          clear hb
          go_wp2
          go_meet
          case rel => exact ⟨rfl, HB⟩
        · have hb3 : (q4 == 0) = false := by simp [h4]
          go_wp2
          go_meet
          case rel => exact ⟨rfl, b0 _⟩
      case rest => as_aux_lemma =>
        obtain ⟨rfl, hb⟩ := hcut
        replace B := Lib.hid (btr B.out hb.out)
        clear hb
        rename World => V2
        go_upto_region 37 with fail
        go_cut [3, 205] (fun s3 s4 wx => s3 = .int .i64 n ∧ s4 = .bool false ∧ Hid (Below V2.heap.size V2 wx))
        case first => as_aux_lemma =>
          by_cases h6 : q6 = 0
          · subst h6
            have hp := byCounts_pos hF6.out
            go_wp2
            go_meet
            case rel => exact ⟨rfl, congrArg Value.bool (decide_eq_false (by omega)), b0 _⟩
          · have hb3 : (q6 == 0) = false := by simp [h6]
            go_wp2
            go_meet
            case rel => exact ⟨rfl, rfl, b0 _⟩
        case rest => as_aux_lemma =>
          obtain ⟨rfl, rfl, hb⟩ := hcut
          replace B := Lib.hid (btr B.out hb.out)
          clear hb hF4 hF5 hF6
          rename World => V3
          rcases by_codes n k with ⟨hrg, c1, c2, c3⟩ | ⟨c1, c2, c3⟩
          · rw [hF1.out] at c1
            rw [hF2.out] at c2
            rw [hF3.out] at c3
            simp only at c1 c2 c3
            subst c1
            subst c2
            subst c3
            obtain ⟨N, rfl⟩ : ∃ N : Nat, n = (N : Int) := ⟨n.toNat, by omega⟩
            have hN1 : 1 ≤ N := by omega
            have hN2 : N ≤ 30 := by omega
            obtain ⟨a, ha, s1, s2, s3, hab⟩ := sums_end hN1 hN2
            have HK := Lib.hid (fun w' => impl_CountTrees (N : Int) w' (by omega) (by omega))
            rw [ha] at HK
            simp only at HK
            have S1 := Lib.hid s1
            have S2 := Lib.hid s2
            have S3 := Lib.hid s3
            have haa : ((a : Int) == (a : Int)) = true := by simp
            clear hF1 hF2 hF3 ha s1 s2 s3 hk hm hrg
            go_wp2_with fail
            refine (HK.out _).mono ?_
            rintro e w21 ⟨rfl, hb⟩
            replace B := Lib.hid (btr B.out hb)
            clear hb HK
            go_wp2
            go_loopw [36, 37, 38, 39] (fun s36 s37 s38 s39 wr => ∃ (j : Nat) (x y u : Int), j ≤ N + 1 ∧ s39 = .int .i64 (j : Int) ∧ s36 = .int .i64 x ∧ s37 = .int .i64 y ∧ s38 = .int .i64 u ∧ Hid (sumL N j = x) ∧ Hid (sumH N j = y) ∧ Hid (sumR N j = u) ∧ Hid (Below w21.heap.size w21 wr)) (fun _ _ _ s39 _ => N + 1 - (intOf s39).toNat)
            case atStart => exact ⟨0, 0, 0, 0, by omega, rfl, rfl, rfl, rfl, (sums_zero N).1, (sums_zero N).2.1, (sums_zero N).2.2, b0 _⟩
            case round => as_aux_lemma =>
              obtain ⟨j, x, y, u, hj, rfl, rfl, rfl, rfl, hsx, hsy, hsu, hB⟩ := hrel
              by_cases hlt : j ≤ N
              · have HA := Lib.hid (fun w' => impl_CountByLeaves (N : Int) (j : Int) w' (by omega) (by omega) (by omega) (by omega))
                have HH := Lib.hid (fun w' => impl_CountByHeight (N : Int) (j : Int) w' (by omega) (by omega) (by omega) (by omega))
                have HR := Lib.hid (fun w' => impl_CountByRoot (N : Int) (j : Int) w' (by omega) (by omega) (by omega) (by omega))
                rw [leaves_at hN1 hN2 hlt] at HA
                rw [height_at hN1 hN2 hlt] at HH
                rw [root_at hN1 hN2 hlt] at HR
                simp only at HA HH HR
                obtain ⟨x', hx'⟩ : ∃ x', Hid (sumL N (j + 1) = x') := ⟨_, rfl⟩
                obtain ⟨y', hy'⟩ : ∃ x', Hid (sumH N (j + 1) = x') := ⟨_, rfl⟩
                obtain ⟨u', hu'⟩ : ∃ x', Hid (sumR N (j + 1) = x') := ⟨_, rfl⟩
                have w1 := sumL_step N j
                have w2 := sumH_step N j
                have w3 := sumR_step N j
                rw [hsx.out, hx'.out] at w1
                rw [hsy.out, hy'.out] at w2
                rw [hsu.out, hu'.out] at w3
                generalize (M.Tl N j : Int) = l1 at HA w1
                generalize (M.TrN (j + 1) N : Int) - (M.TrN j N : Int) = l2 at HH w2
                generalize (M.L (N - 1) j : Int) = l3 at HR w3
                have hjN : (j : Int) ≤ (N : Int) := by omega
                go_wp2_with fail
                refine (HA.out _).mono ?_
                rintro e w22 ⟨rfl, hb⟩
                replace hB := Lib.hid (btr hB.out hb)
                clear hb HA
                go_wp2_with fail
                refine (HH.out _).mono ?_
                rintro e w23 ⟨rfl, hb⟩
                replace hB := Lib.hid (btr hB.out hb)
                clear hb HH
                go_wp2_with fail
                refine (HR.out _).mono ?_
                rintro e w24 ⟨rfl, hb⟩
                replace hB := Lib.hid (btr hB.out hb)
                clear hb HR
                go_wp2
                go_roundw
                case rel => exact ⟨j + 1, x', y', u', by omega, by go_num, rfl, rfl, rfl, hx', hy', hu', hB⟩
                case measure => simp [intOf]; omega
              · obtain rfl : j = N + 1 := by omega
                obtain rfl := hsx.out.symm.trans S1.out
                obtain rfl := hsy.out.symm.trans S2.out
                obtain rfl := hsu.out.symm.trans S3.out
                have BE := btr B.out hB.out
                clear hsx hsy hsu S1 S2 S3
                go_wp2
                go_ret
                exact ⟨rfl, BE⟩
          · rw [hF1.out] at c1
            rw [hF2.out] at c2
            rw [hF3.out] at c3
            injection c1 with c0 c1
            simp only at c2 c3
            subst c0
            subst c1
            subst c2
            subst c3
            have BE := B.out
            clear hF1 hF2 hF3
            go_wp2
            go_ret
            exact ⟨rfl, BE⟩
end Go.Proofs.Ytdgcjkgbglofbaa

/- An argument of type laws.Tree opened: its value, its numbers in memory. -/
namespace Go.Proofs.Ytdgcjkgbglofbaa
open Go.RowKit Go.Joins Go.ChangeShapes Go.WideShapes Go.ChangeAt Go.Deep

theorem own : ownKnob Try.prog.godebug = none := by kernel_rfl
theorem laidOut : laidOutB Try.prog = true := by kernel_rfl
theorem cells64 : Try.prog.cellsOf 2 = 1 := by kernel_rfl
theorem cellsTree : Try.prog.cellsOf 92 = 1 := by kernel_rfl

section
variable {H : Type} {enc : TypeId × Value → H} {P : Program} {w : World} {base : Nat} {spare : Nat → Bool} {held : Bool}
theorem open_agg1 {r : Reach} {b0 : Nat} {t : TypeId} {f0 : Field} {v : Value} {d : DataW H} {p : List MemPlace} (hs : P.underlying t = some (.struct #[f0])) (hone : oneCellFields P #[f0] = true) (hC : P.cellsOf t = 1)
    (hv : Value.okWide P w r b0 t v) (h : DataW.Trod enc P w base spare held t v d p) :
    ∃ (v0 : Value) (y0 : DataW H × List MemPlace) (n : Nat), v = .agg #[v0] ∧ d = .agg [y0.1] ∧ p = y0.2 ∧ DataW.trod enc P w base spare held n f0.type [v0] = some y0 := by
  obtain ⟨cs, rfl, hsz⟩ := okWide_struct hs hv
  obtain ⟨l⟩ := cs
  match l, hsz.trans hC with
  | [c0], _ =>
    obtain ⟨fuel, hf⟩ := h
    obtain ⟨xs, n, _, hx, _, hlen, hg⟩ := DataW.trod_struct hs hf
    obtain ⟨o0, k0⟩ := hone_of hone 0 f0 rfl
    match xs, hlen with
    | [y0], _ =>
      simp only [Prod.mk.injEq] at hx
      exact ⟨c0, y0, n, rfl, by simpa using hx.1, by simpa using hx.2, by simpa [Value.cells, o0, k0] using hg 0 f0 rfl⟩
end

/-- a slice of int64 as read, in this seat's words -/
theorem openInts {H : Type} {enc : TypeId × Value → H} {W : World} {fuel : Nat} {v : Value} {y : DataW H × List MemPlace}
    (h : DataW.trod enc Try.prog W 0 (fun _ => true) true fuel 24 [v] = some y) (hlt : ∀ x ∈ y.2, x.block < W.heap.size) :
    ∃ (A : Option Addr) (c : Nat) (xs : List Int), v = .slice A xs.length c ∧ xs.length ≤ 9223372036854775807 ∧ Ints W W.heap.size A xs ∧ ∀ x ∈ xs, -9223372036854775808 ≤ x ∧ x ≤ 9223372036854775807 := by
  rcases open_ints Try.underlying24 Try.underlying2 cells64 h with ⟨hcs, hx⟩ | ⟨a, len', cap', zs, hcs, _, hl, hm, hz, hx, hcell, hwz⟩
  · obtain rfl : v = .slice none 0 0 := by simpa using hcs
    exact ⟨none, 0, [], rfl, by simp, Ints.nil_ _ _ _, by simp⟩
  · obtain rfl : v = .slice (some a) len' cap' := by simpa using hcs
    simp only [if_true] at hz
    have hlz : len' ≤ zs.length := by omega
    have htl : (zs.take len').length = len' := by simp; omega
    subst hx
    refine ⟨some a, cap', zs.take len', by rw [htl], by rw [htl]; simp only [maxLen] at hm; omega, fun hpos => ?_, fun x hxm => ?_⟩
    · rw [htl] at hpos
      obtain ⟨b, off, spot⟩ := a
      have hspot : spot = none := by simpa [Addr.add] using World.cell?_spot (hcell 0 (by omega))
      subst hspot
      refine ⟨b, off, rfl, hlt (.cell b off) (MemPlace.mem_row.2 ⟨0, by omega, by simp⟩), fun j x hj => ?_⟩
      have hj' : j < zs.length := by
        have := (List.getElem?_eq_some_iff.1 hj).1
        rw [htl] at this
        omega
      have hj2 : zs[j]? = some x := by
        rw [List.getElem?_take] at hj
        split at hj
        · exact hj
        · cases hj
      rw [← add_plain, hcell j hj']
      simp [List.getD, hj2]
    · have := hwz x (List.mem_of_mem_take hxm)
      simpa [Lit.wf, IntKind.min, IntKind.max, IntKind.signed, IntKind.bits] using this

set_option maxRecDepth 100000 in
theorem openTree {H : Type} {enc : TypeId × Value → H} {W : World} {base : Nat} {v : Value} {d : DataW H} {p : List MemPlace} (hv : Value.okWide Try.prog W .any base 92 v)
    (h : DataW.Trod enc Try.prog W 0 (fun _ => true) true 92 v d p) (hlt : ∀ x ∈ p, x.block < W.heap.size) :
    ∃ (A : Option Addr) (c : Nat) (xs : List Int), v = .agg #[.slice A xs.length c] ∧ xs.length ≤ 9223372036854775807 ∧ Ints W W.heap.size A xs ∧ ∀ x ∈ xs, -9223372036854775808 ≤ x ∧ x ≤ 9223372036854775807 := by
  obtain ⟨v0, y0, n, rfl, rfl, rfl, hy⟩ := open_agg1 Try.underlying92 (by kernel_rfl) cellsTree hv h
  obtain ⟨A, c, xs, rfl, h1, h2, h3⟩ := openInts hy hlt
  exact ⟨A, c, xs, rfl, h1, h2, h3⟩
end Go.Proofs.Ytdgcjkgbglofbaa

/- An argument of type []byte opened: its value, its bytes in memory. -/
namespace Go.Proofs.Ytdgcjkgbglofbaa
open Go.RowKit Go.Joins Go.ChangeShapes Go.WideShapes Go.ChangeAt Go.Deep

theorem cellsU8 : Try.prog.cellsOf 5 = 1 := by kernel_rfl
theorem openBytes {H : Type} {enc : TypeId × Value → H} {W : World} {fuel : Nat} {v : Value} {y : DataW H × List MemPlace}
    (h : DataW.trod enc Try.prog W 0 (fun _ => true) true fuel 22 [v] = some y) (hlt : ∀ x ∈ y.2, x.block < W.heap.size) :
    ∃ (A : Option Addr) (c : Nat) (xs : List Int), v = .slice A xs.length c ∧ (xs.length ≤ c ∧ c ≤ 9223372036854775807) ∧ Byts W W.heap.size A xs ∧ ∀ x ∈ xs, 0 ≤ x ∧ x ≤ 255 := by
  rcases open_ints Try.underlying22 Try.underlying5 cellsU8 h with ⟨hcs, hx⟩ | ⟨a, len', cap', zs, hcs, _, hl, hm, hz, hx, hcell, hwz⟩
  · obtain rfl : v = .slice none 0 0 := by simpa using hcs
    exact ⟨none, 0, [], rfl, by simp, fun h => by simp at h, by simp⟩
  · obtain rfl : v = .slice (some a) len' cap' := by simpa using hcs
    simp only [if_true] at hz
    have hlz : len' ≤ zs.length := by omega
    have htl : (zs.take len').length = len' := by simp; omega
    subst hx
    refine ⟨some a, cap', zs.take len', by rw [htl], by rw [htl]; simp only [maxLen] at hm; omega, fun hpos => ?_, fun x hxm => ?_⟩
    · rw [htl] at hpos
      obtain ⟨b, off, spot⟩ := a
      have hspot : spot = none := by simpa [Addr.add] using World.cell?_spot (hcell 0 (by omega))
      subst hspot
      refine ⟨b, off, rfl, hlt (.cell b off) (MemPlace.mem_row.2 ⟨0, by omega, by simp⟩), fun j x hj => ?_⟩
      have hj' : j < zs.length := by
        have := (List.getElem?_eq_some_iff.1 hj).1
        rw [htl] at this
        omega
      have hj2 : zs[j]? = some x := by
        rw [List.getElem?_take] at hj
        split at hj
        · exact hj
        · cases hj
      rw [← add_plain, hcell j hj']
      simp [List.getD, hj2]
    · have := hwz x (List.mem_of_mem_take hxm)
      simpa [Lit.wf, IntKind.min, IntKind.max, IntKind.signed, IntKind.bits] using this
end Go.Proofs.Ytdgcjkgbglofbaa

/- What every row of this seat asks of the whole program, once: three facts on how the cut was made (each takes the kernel near a minute and 9 GB). -/
namespace Go.Proofs.Ytdgcjkgbglofbaa

set_option maxHeartbeats 4000000 in
theorem shut_mayEnter : Try.pinned.checked.prog.mayEnter = true := by kernel_rfl
set_option maxHeartbeats 4000000 in
theorem shut_lifts : (false == Try.pinned.checked.prog.liftsFinal) = true := by kernel_rfl
set_option maxHeartbeats 4000000 in
theorem shut_make : (Try.pinned.checked.prog.make == some .cut) = true := by kernel_rfl
end Go.Proofs.Ytdgcjkgbglofbaa
