/- JoinTrees, the program's and the model's: the tree with the trees of a list below its root, or a code. -/
import Derived.Test.YtimjcdjeeocffaaWoodsIn
import Derived.Test.YtimjcdjeeocffaaApp
import Derived.Test.YtimjcdjeeocffaaIs
import Derived.WalkSpells
namespace Go.Proofs.Ytimjcdjeeocffaa
open Go.RowKit

namespace M
def joinP (zss : List (List Int)) (k : Nat) : List Int := (zss.length : Int) :: (zss.take k).flatten
theorem joinP_zero (zss : List (List Int)) : joinP zss 0 = [(zss.length : Int)] := by simp [joinP]
theorem joinP_succ {zss : List (List Int)} {k : Nat} {zs : List Int} (h : zss[k]? = some zs) : joinP zss (k + 1) = joinP zss k ++ zs := by
  simp [joinP, List.take_add_one, h]
theorem flat_len (l : List (List Int)) : l.flatten.length = tot l := by
  induction l with
  | nil => rfl
  | cons x r ih => simp only [List.flatten_cons, List.length_append, tot, ih]
theorem joinP_len (zss : List (List Int)) (k : Nat) : (joinP zss k).length = 1 + tot (zss.take k) := by simp only [joinP, List.length_cons, flat_len]; omega
end M

def F_JoinTrees (zss : List (List Int)) : List Int × Int := if ∀ zs ∈ zss, M.isTree zs = true then (if 1 + M.tot zss ≤ 24 then (M.joinP zss zss.length, 0) else ([], 3)) else ([], 1)
theorem F_JoinTrees_len (zss : List (List Int)) : (F_JoinTrees zss).1.length ≤ 1048576 := by
  rw [F_JoinTrees]
  split
  · split
    · show (M.joinP _ _).length ≤ _
      rw [M.joinP_len, List.take_length]
      omega
    · simp
  · simp

/-- a list of trees to a tree and a code -/
def GivesJoin (f : Nat) (F : List (List Int) → List Int × Int) : Prop :=
  ∀ (A : Option Addr) (zss : List (List Int)) (n c : Nat) (w : World), Hid (zss.length = n) → n ≤ 1048576 → Hid (∀ zs ∈ zss, zs.length ≤ 1048576) → Hid (Trees w A zss) →
    Calls Try.prog f #[.slice A n c] w fun e w' => ∃ A' c', e = .returned (.tuple #[.agg #[.slice A' (F zss).1.length c'], .int .i64 (F zss).2]) ∧ Own64 w' w.heap.size (.slice A' (F zss).1.length c') (F zss).1 ∧ Below w.heap.size w w'

theorem Trees.be' {w w' : World} {A : Option Addr} {zss : List (List Int)} (h : Trees w A zss) (hb : Below w.heap.size w w') : Trees w' A zss := h.be hb
theorem res_box (w : World) (o : Obj) : Hid ((w.alloc o).heap[w.heap.size]? = some o) := World.alloc_heap_new w o

set_option maxRecDepth 100000 in
set_option maxHeartbeats 4000000 in
theorem l01Join (A : Option Addr) (zss : List (List Int)) (n c : Nat) (w : World) (hn : Hid (zss.length = n)) (hn' : n ≤ 1048576) (ht : Hid (∀ zs ∈ zss, M.isTree zs = true)) (h : Hid (Trees w A zss)) :
    Calls Try.prog 123 #[.slice A n c] w fun e w' =>
      (1 + M.tot zss ≤ 24 → ∃ A' c', e = .returned (.tuple #[.agg #[.slice A' (M.joinP zss n).length c'], .bool true]) ∧ Own64 w' w.heap.size (.slice A' (M.joinP zss n).length c') (M.joinP zss n) ∧ Below w.heap.size w w') ∧
      (¬ 1 + M.tot zss ≤ 24 → e = .returned (.tuple #[.agg #[.slice none 0 0], .bool false]) ∧ Below w.heap.size w w') := by
  obtain ⟨W, hW⟩ : ∃ W, (w.alloc (.cells #[.slice none 0 0] 26)).alloc (.cells #[.int .i64 (n : Int)] 2) = W := ⟨_, rfl⟩
  have hWs : W.heap.size = w.heap.size + 1 + 1 := by rw [← hW]; simp
  have hR : Hid (W.heap[w.heap.size]? = some (.cells #[.slice none 0 0] 26 (0, 0))) := by rw [← hW]; exact (Below.heap_alloc _ _ _ (by simp)).trans (World.alloc_heap_new w _)
  have hst : Hid (Own64 W (w.heap.size + 1) (.slice (some ⟨w.heap.size + 1, 0, none⟩) 1 1) (M.joinP zss 0)) := by
    rw [← hW, M.joinP_zero, hn.out]
    have := World.ownsRow_lit (e := 2) (size := 1) (w.alloc (.cells #[.slice none 0 0] 26)) #[.int .i64 (n : Int)] 1 (Nat.le_refl _) (by simp [maxLen]) (by simp)
    simpa [Hid, Own64] using this
  have hBW : Hid (Below w.heap.size w W) := by rw [← hW]; exact bal (bal (b0 w) _) _
  have HW := Lib.hid hW
  clear hW
  go_enter Try.func123, Try.ntmps123
  go_wp2
  rw [HW.out]
  go_loopw [4, 5] (fun q i wr => ∃ (k m : Nat) (A' : Option Addr) (c' : Nat), k ≤ n ∧ i = .int .i64 (k : Int) ∧ q = .slice A' m c' ∧ Hid (m = 1 + M.tot (zss.take k)) ∧ (k = 0 ∨ m ≤ 24) ∧ m ≤ 24 ∧ Hid (Own64 wr (w.heap.size + 1) (.slice A' m c') (M.joinP zss k)) ∧ Hid (wr.heap[w.heap.size]? = some (.cells #[.slice none 0 0] 26 (0, 0))) ∧ Hid (Below w.heap.size w wr)) (fun _ i _ => n - (intOf i).toNat)
  case atStart => exact ⟨0, 1, _, 1, Nat.zero_le _, rfl, rfl, by simp [M.tot, Hid], .inl rfl, by omega, hst, hR, hBW⟩
  case round =>
    obtain ⟨k, m, A', c', hk, rfl, rfl, hm, _, hm24, ho, hres, hb⟩ := hrel
    clear hst hR hBW HW
    have hzr := hb.out.size
    have hzr2 := lt_of_block hres.out
    by_cases hlt : k < n
    · have hki : (k : Int) < (n : Int) := by omega
      have hk0 : (0 : Int) ≤ (k : Int) := by omega
      have hkz : k < zss.length := by rw [hn.out]; exact hlt
      have hat : zss[k]? = some zss[k] := List.getElem?_eq_getElem hkz
      have htk := ht.out _ (List.mem_of_getElem? hat)
      have hts := Lib.hid (M.tot_take hat)
      have hj := Lib.hid (M.joinP_succ hat)
      have hle := M.tot_take_le zss (k + 1)
      generalize zss[k] = zs at hat htk hts hj
      have hzl := M.tree_len htk
      obtain ⟨b, rfl, hbl, hc⟩ := h.out (by omega)
      obtain ⟨A1, c1, h1, h2⟩ := hc k zs hat
      have hcl : wr.cell? ⟨b, k, none⟩ = some (.slice A1 zs.length c1) := (hb.out.cell (p := ⟨b, k, none⟩) hbl).trans h1
      have hi1 : Hid (Ints wr wr.heap.size A1 zs) := h2.be hb.out
      obtain ⟨b1, off1, rfl, _⟩ := hi1.out (by omega)
      obtain ⟨L, hL⟩ : ∃ L, Hid (zs.length = L) := ⟨_, rfl⟩
      rw [hL.out] at hcl hts hzl
      clear hc h1 h2 hat hbl htk hkz
      by_cases hbig : m + L ≤ 24
      · have hbig2 : ¬ (24 : Int) < ((m + L : Nat) : Int) := by omega
        go_wp2_with (at_builtin; refine appendInts rfl (.tmp 15) (.tmp 20) rfl _ (w.heap.size + 1) A' m c' (M.joinP zss k) (some ⟨b1, off1, none⟩) L c1 zs rfl rfl ho hi1 hL (fun e => by cases e) (by omega) (by omega) (by omega) ?_; intro A2 c2 w2 ho2 hb2; have hbig3 := hbig2)
        have hres2 : Hid (w2.heap[w.heap.size]? = some (.cells #[.slice none 0 0] 26 (0, 0))) := (hb2.out.block _ (Nat.lt_succ_self _)).trans hres.out
        have hb3 : Hid (Below w.heap.size w w2) := hb.out.trans (hb2.out.mono (Nat.le_succ _))
        rw [← hj.out] at ho2
        have hm2 : Hid (m + L = 1 + M.tot (zss.take (k + 1))) := by show _ = _; rw [hts.out, hm.out]; omega
        clear ho hres hb hi1 hb2
        go_roundw
        case rel => exact ⟨k + 1, m + L, A2, c2, by omega, by go_num, rfl, hm2, .inr hbig, hbig, ho2, hres2, hb3⟩
        case measure => simp [intOf]; omega
      · have hbig2 : (24 : Int) < ((m + L : Nat) : Int) := by omega
        have hno : ¬ 1 + M.tot zss ≤ 24 := by have := hm.out; rw [hts.out] at hle; omega
        go_wp2_with (at_builtin; refine appendInts rfl (.tmp 15) (.tmp 20) rfl _ (w.heap.size + 1) A' m c' (M.joinP zss k) (some ⟨b1, off1, none⟩) L c1 zs rfl rfl ho hi1 hL (fun e => by cases e) (by omega) (by omega) (by omega) ?_; intro A2 c2 w2 ho2 hb2; have hbig3 := hbig2; have hres2 := (hb2.out.block w.heap.size (Nat.lt_succ_self _)).trans hres.out; have hr2 := cell_of_one hres2; have hf2 := free_of_one hres2)
        have hb3 : Below w.heap.size w w2 := hb.out.trans (hb2.out.mono (Nat.le_succ _))
        have e1 := (Boxed.set (.slice none 0 0) hres2).cell
        refine bodyPost_ret (v := .tuple #[.agg #[.slice none 0 0], .bool false]) (by simp [results, Try.results123, go_sem, e1]) rfl ?_
        exact ⟨fun e => absurd e hno, fun _ => ⟨rfl, below_setCell hb3 (Nat.le_refl _) _⟩⟩
    · obtain rfl : k = n := by omega
      have hge : ¬ (k : Int) < (k : Int) := by omega
      have htot : M.tot (zss.take k) = M.tot zss := by rw [List.take_of_length_le (by rw [hn.out]; exact Nat.le_refl _)]
      have hyes : Hid (1 + M.tot zss ≤ 24) := by show _ ≤ _; have := hm.out; rw [htot] at this; omega
      have hml : Hid ((M.joinP zss k).length = m) := by show _ = _; rw [M.joinP_len]; exact hm.out.symm
      have hr2 := cell_of_one hres.out
      have hf2 := free_of_one hres.out
      clear htot
      go_wp2
      have e1 := (Boxed.set (.slice A' m c') hres.out).cell
      refine bodyPost_ret (v := .tuple #[.agg #[.slice A' m c'], .bool true]) (by simp [results, Try.results123, go_sem, e1]) rfl ?_
      refine ⟨fun _ => ⟨A', c', ?_, ?_, below_setCell hb.out (Nat.le_refl _) _⟩, fun e => absurd hyes.out (by omega)⟩
      · rw [hml.out]
      · rw [hml.out]; exact own_mono (own_far ho.out (Nat.lt_succ_self _) _) (Nat.le_succ _)

theorem F_join_bad {zss : List (List Int)} {zs : List Int} (h : zs ∈ zss) (ht : M.isTree zs = false) : F_JoinTrees zss = ([], 1) := by
  rw [F_JoinTrees, if_neg]
  intro h'
  rw [h' zs h] at ht
  cases ht
theorem F_join_yes {zss : List (List Int)} (h : ∀ zs ∈ zss, M.isTree zs = true) (h2 : 1 + M.tot zss ≤ 24) : F_JoinTrees zss = (M.joinP zss zss.length, 0) := by rw [F_JoinTrees, if_pos h, if_pos h2]
theorem F_join_no {zss : List (List Int)} (h : ∀ zs ∈ zss, M.isTree zs = true) (h2 : ¬ 1 + M.tot zss ≤ 24) : F_JoinTrees zss = ([], 3) := by rw [F_JoinTrees, if_pos h, if_neg h2]
theorem all_take {zss : List (List Int)} {n : Nat} (hn : zss.length = n) (h : ∀ j zs, j < n → zss[j]? = some zs → M.isTree zs = true) : ∀ zs ∈ zss, M.isTree zs = true := fun zs hz => by
  obtain ⟨j, hj⟩ := List.getElem?_of_mem hz
  exact h j zs (by rw [← hn]; exact (List.getElem?_eq_some_iff.1 hj).1) hj

set_option maxRecDepth 100000 in
set_option maxHeartbeats 4000000 in
theorem spec_JoinTrees : GivesJoin 21 F_JoinTrees := by
  intro A zss n c w hn hn' hz h
  obtain ⟨W, hW⟩ : ∃ W, w.alloc (.cells #[.slice none 0 0] 26) = W := ⟨_, rfl⟩
  have hWs : W.heap.size = w.heap.size + 1 := by rw [← hW]; simp
  have hR : Hid (W.heap[w.heap.size]? = some (.cells #[.slice none 0 0] 26 (0, 0))) := by rw [← hW]; exact World.alloc_heap_new w _
  have hBW : Hid (Below w.heap.size w W) := by rw [← hW]; exact bal (b0 w) _
  have HW := Lib.hid hW
  clear hW
  go_enter Try.func21, Try.ntmps21
  go_wp2
  rw [HW.out]
  go_loopw [4] (fun i wr => ∃ (k : Nat), k ≤ n ∧ i = .int .i64 (k : Int) ∧ Hid (∀ j zs, j < k → zss[j]? = some zs → M.isTree zs = true) ∧ Hid (wr.heap[w.heap.size]? = some (.cells #[.slice none 0 0] 26 (0, 0))) ∧ Hid (Below w.heap.size w wr)) (fun i _ => n - (intOf i).toNat)
  case atStart => exact ⟨0, Nat.zero_le _, rfl, fun j zs hj => by omega, hR, hBW⟩
  case round =>
    obtain ⟨k, hk, rfl, hall, hres, hb⟩ := hrel
    clear hR hBW HW
    have hzr := lt_of_block hres.out
    by_cases hlt : k < n
    · have hki : (k : Int) < (n : Int) := by omega
      have hk0 : (0 : Int) ≤ (k : Int) := by omega
      have hkz : k < zss.length := by rw [hn.out]; exact hlt
      have hat : zss[k]? = some zss[k] := List.getElem?_eq_getElem hkz
      have hzk := hz.out _ (List.mem_of_getElem? hat)
      generalize zss[k] = zs at hat hzk
      obtain ⟨b, rfl, hbl, hc⟩ := h.out (by omega)
      obtain ⟨A1, c1, h1, h2⟩ := hc k zs hat
      have hcl : wr.cell? ⟨b, k, none⟩ = some (.slice A1 zs.length c1) := (hb.out.cell (p := ⟨b, k, none⟩) hbl).trans h1
      have HIs := Lib.hid (specIs A1 zs c1 wr (by omega) (h2.be hb.out))
      have Hat := Lib.hid hat
      clear hc h1 h2 hat hbl hkz
      cases ht : M.isTree zs
      · rw [ht] at HIs
        have hF := Lib.hid (F_join_bad (List.mem_of_getElem? Hat.out) ht)
        clear ht
        go_wp2_with fail
        refine HIs.out.mono ?_
        rintro e w7 ⟨rfl, hb7⟩
        have hres7 := (hb7.block w.heap.size hzr).trans hres.out
        have hr2 := cell_of_one hres7
        have hf2 := free_of_one hres7
        have hB := Lib.hid (btr hb.out hb7)
        clear hb7 hcl
        go_wp2
        have e1 := (Boxed.set (.slice none 0 0) hres7).cell
        refine bodyPost_ret (v := .tuple #[.agg #[.slice none 0 0], .int .i64 1]) (by simp [results, Try.results21, go_sem, e1]) rfl ?_
        rw [hF.out]
        exact ⟨none, 0, rfl, own64_nil _ _, below_setCell hB.out (Nat.le_refl _) _⟩
      · rw [ht] at HIs
        have hall2 : Hid (∀ j zs', j < k + 1 → zss[j]? = some zs' → M.isTree zs' = true) := fun j zs' hj hz' => by
          rcases Nat.lt_or_ge j k with h5 | h5
          · exact hall.out j zs' h5 hz'
          · obtain rfl : j = k := by omega
            rw [Hat.out] at hz'
            injection hz' with hz'
            rw [← hz']
            exact ht
        clear ht
        go_wp2_with fail
        refine HIs.out.mono ?_
        rintro e w7 ⟨rfl, hb7⟩
        have hres7 := Lib.hid ((hb7.block w.heap.size hzr).trans hres.out)
        have hB := Lib.hid (btr hb.out hb7)
        clear hb7 hcl hall hres hb HIs
        go_wp2
        go_roundw
        case rel => exact ⟨k + 1, by omega, by go_num, hall2, hres7, hB⟩
        case measure => simp [intOf]; omega
    · obtain rfl : k = n := by omega
      have hge : ¬ (k : Int) < (k : Int) := by omega
      have hA := Lib.hid (all_take hn.out hall.out)
      have hJ := Lib.hid (l01Join A zss k c wr hn hn' hA (h.out.be' hb.out))
      clear hall
      go_wp2_with fail
      refine hJ.out.mono ?_
      rintro e w7 ⟨hp1, hp2⟩
      by_cases hsm : 1 + M.tot zss ≤ 24
      · obtain ⟨A7, c7, rfl, ho7, hb7⟩ := hp1 hsm
        have hF := Lib.hid (F_join_yes hA.out hsm)
        rw [hn.out] at hF
        obtain ⟨J, hJe⟩ : ∃ J, Hid (M.joinP zss k = J) := ⟨_, rfl⟩
        rw [hJe.out] at hF ho7 ⊢
        have hres7 := (hb7.block w.heap.size hzr).trans hres.out
        have hres8 : (w7.alloc (.cells #[.slice A7 J.length c7] 26)).heap[w.heap.size]? = some (.cells #[.slice none 0 0] 26 (0, 0)) := (Below.heap_alloc _ _ _ (lt_of_block hres7)).trans hres7
        have hr2 := cell_of_one hres8
        have hf2 := free_of_one hres8
        have hB := Lib.hid (bal (btr hb.out hb7) (.cells #[.slice A7 J.length c7] 26))
        have Ho7 := Lib.hid (ho7.alloc (.cells #[.slice A7 J.length c7] 26))
        clear hb7 ho7 hp1 hp2 hsm
        go_wp2
        have e1 := (Boxed.set (.slice A7 J.length c7) hres8).cell
        refine bodyPost_ret (v := .tuple #[.agg #[.slice A7 J.length c7], .int .i64 0]) (by simp [results, Try.results21, go_sem, e1]) rfl ?_
        rw [hF.out]
        exact ⟨A7, c7, rfl, own_mono (own_far Ho7.out hzr _) (by omega), below_setCell hB.out (Nat.le_refl _) _⟩
      · obtain ⟨rfl, hb7⟩ := hp2 hsm
        have hF := Lib.hid (F_join_no hA.out hsm)
        have hres7 := (hb7.block w.heap.size hzr).trans hres.out
        have hres8 : (w7.alloc (.cells #[.slice none 0 0] 26)).heap[w.heap.size]? = some (.cells #[.slice none 0 0] 26 (0, 0)) := (Below.heap_alloc _ _ _ (lt_of_block hres7)).trans hres7
        have hr2 := cell_of_one hres8
        have hf2 := free_of_one hres8
        have hB := Lib.hid (bal (btr hb.out hb7) (.cells #[.slice none 0 0] 26))
        clear hb7 hp1 hp2 hsm
        go_wp2
        have e1 := (Boxed.set (.slice none 0 0) hres8).cell
        refine bodyPost_ret (v := .tuple #[.agg #[.slice none 0 0], .int .i64 3]) (by simp [results, Try.results21, go_sem, e1]) rfl ?_
        rw [hF.out]
        exact ⟨none, 0, rfl, own64_nil _ _, below_setCell hB.out (Nat.le_refl _) _⟩

set_option maxRecDepth 100000 in
set_option maxHeartbeats 4000000 in
theorem impl_JoinTrees : GivesJoin 23 F_JoinTrees := by
  intro A zss n c w hn hn' hz h
  obtain ⟨W, hW⟩ : ∃ W, w.alloc (.cells #[.slice none 0 0] 26) = W := ⟨_, rfl⟩
  have hWs : W.heap.size = w.heap.size + 1 := by rw [← hW]; simp
  have hR : Hid (W.heap[w.heap.size]? = some (.cells #[.slice none 0 0] 26 (0, 0))) := by rw [← hW]; exact World.alloc_heap_new w _
  have hBW : Hid (Below w.heap.size w W) := by rw [← hW]; exact bal (b0 w) _
  have HW := Lib.hid hW
  clear hW
  go_enter Try.func23, Try.ntmps23
  go_wp2
  rw [HW.out]
  go_loopw [4, 12] (fun q i wr => ∃ (k : Nat), k ≤ n ∧ i = .int .i64 (k : Int) ∧ q = .int .i64 (1 + (M.tot (zss.take k) : Int)) ∧ Hid (∀ j zs, j < k → zss[j]? = some zs → M.isTree zs = true) ∧ Hid (M.tot (zss.take k) ≤ 24 * k) ∧ Hid (wr.heap[w.heap.size]? = some (.cells #[.slice none 0 0] 26 (0, 0))) ∧ Hid (Below w.heap.size w wr)) (fun _ i _ => n - (intOf i).toNat)
  case atStart => exact ⟨0, Nat.zero_le _, rfl, by simp [M.tot], fun j zs hj => by omega, by simp [M.tot, Hid], hR, hBW⟩
  case round =>
    obtain ⟨k, hk, rfl, rfl, hall, htl, hres, hb⟩ := hrel
    clear hR hBW HW
    have hzr := lt_of_block hres.out
    by_cases hlt : k < n
    · have hki : (k : Int) < (n : Int) := by omega
      have hk0 : (0 : Int) ≤ (k : Int) := by omega
      have hkz : k < zss.length := by rw [hn.out]; exact hlt
      have hat : zss[k]? = some zss[k] := List.getElem?_eq_getElem hkz
      have hzk := hz.out _ (List.mem_of_getElem? hat)
      have hts := Lib.hid (M.tot_take hat)
      generalize zss[k] = zs at hat hzk hts
      obtain ⟨b, rfl, hbl, hc⟩ := h.out (by omega)
      obtain ⟨A1, c1, h1, h2⟩ := hc k zs hat
      have hcl : wr.cell? ⟨b, k, none⟩ = some (.slice A1 zs.length c1) := (hb.out.cell (p := ⟨b, k, none⟩) hbl).trans h1
      have HIs := Lib.hid (implIsTree A1 zs c1 (wr.alloc (.cells #[.slice A1 zs.length c1] 26)) (by omega) ((h2.be hb.out).al _))
      have hres1 : Hid ((wr.alloc (.cells #[.slice A1 zs.length c1] 26)).heap[w.heap.size]? = some (.cells #[.slice none 0 0] 26 (0, 0))) := (Below.heap_alloc _ _ _ hzr).trans hres.out
      have hbx : Hid (Boxed (wr.alloc (.cells #[.slice A1 zs.length c1] 26)) wr.heap.size 26 (.slice A1 zs.length c1)) := Boxed.new _ _ _
      have Hat := Lib.hid hat
      clear hc h1 h2 hat hbl hkz
      cases ht : M.isTree zs
      · rw [ht] at HIs
        have hF := Lib.hid (F_join_bad (List.mem_of_getElem? Hat.out) ht)
        clear ht
        go_wp2_with fail
        refine HIs.out.mono ?_
        rintro e w7 ⟨rfl, hb7⟩
        have hres7 := (hb7.block w.heap.size (lt_of_block hres1.out)).trans hres1.out
        have hr2 := cell_of_one hres7
        have hf2 := free_of_one hres7
        have hB := Lib.hid (btr (bal hb.out _) hb7)
        clear hb7 hcl
        go_wp2
        have e1 := (Boxed.set (.slice none 0 0) hres7).cell
        refine bodyPost_ret (v := .tuple #[.agg #[.slice none 0 0], .int .i64 1]) (by simp [results, Try.results23, go_sem, e1]) rfl ?_
        rw [hF.out]
        exact ⟨none, 0, rfl, own64_nil _ _, below_setCell hB.out (Nat.le_refl _) _⟩
      · rw [ht] at HIs
        have hall2 : Hid (∀ j zs', j < k + 1 → zss[j]? = some zs' → M.isTree zs' = true) := fun j zs' hj hz' => by
          rcases Nat.lt_or_ge j k with h5 | h5
          · exact hall.out j zs' h5 hz'
          · obtain rfl : j = k := by omega
            rw [Hat.out] at hz'
            injection hz' with hz'
            rw [← hz']
            exact ht
        have hz24 := (M.tree_len ht).2
        obtain ⟨t, ht'⟩ : ∃ t, Hid (M.tot (zss.take k) = t) := ⟨_, rfl⟩
        rw [ht'.out] at hts htl ⊢
        have htl' := htl.out
        have htl2 : Hid (M.tot (zss.take (k + 1)) ≤ 24 * (k + 1)) := by show _ ≤ _; rw [hts.out]; omega
        clear ht
        go_wp2_with fail
        refine HIs.out.mono ?_
        rintro e w7 ⟨rfl, hb7⟩
        have hres7 := Lib.hid ((hb7.block w.heap.size (lt_of_block hres1.out)).trans hres1.out)
        have hB := Lib.hid (btr (bal hb.out _) hb7)
        have cB := (show Boxed w7 wr.heap.size 26 (.slice A1 zs.length c1) from (hb7.block _ hbx.out.lt).trans hbx.out).cell
        clear hb7 hcl hall hres hb HIs hres1 hbx
        go_wp2
        go_roundw
        case rel => exact ⟨k + 1, by omega, by go_num, by rw [hts.out]; go_num, hall2, htl2, hres7, hB⟩
        case measure => simp [intOf]; omega
    · obtain rfl : k = n := by omega
      have hge : ¬ (k : Int) < (k : Int) := by omega
      have hA := Lib.hid (all_take hn.out hall.out)
      have htot : Hid (M.tot (zss.take k) = M.tot zss) := by show _ = _; rw [List.take_of_length_le (by rw [hn.out]; exact Nat.le_refl _)]
      rw [htot.out] at htl ⊢
      by_cases hsm : 1 + M.tot zss ≤ 24
      · have hF := Lib.hid (F_join_yes hA.out hsm)
        rw [hn.out] at hF
        have hsm2 : ¬ (24 : Int) < 1 + (M.tot zss : Int) := by omega
        have hst : Hid (Own64 (wr.alloc (.cells #[.int .i64 (k : Int)] 2)) wr.heap.size (.slice (some ⟨wr.heap.size, 0, none⟩) 1 1) (M.joinP zss 0)) := by
          rw [M.joinP_zero, hn.out]
          have := World.ownsRow_lit (e := 2) (size := 1) wr #[.int .i64 (k : Int)] 1 (Nat.le_refl _) (by simp [maxLen]) (by simp)
          simpa [Hid, Own64] using this
        have hres1 : Hid ((wr.alloc (.cells #[.int .i64 (k : Int)] 2)).heap[w.heap.size]? = some (.cells #[.slice none 0 0] 26 (0, 0))) := (Below.heap_alloc _ _ _ hzr).trans hres.out
        have hb1 : Hid (Below w.heap.size w (wr.alloc (.cells #[.int .i64 (k : Int)] 2))) := bal hb.out _
        have Hsm := Lib.hid hsm
        have hzn : zss.length = k := hn.out
        have hzs0 : wr.heap.size ≤ (wr.alloc (.cells #[.int .i64 (k : Int)] 2)).heap.size := by simp
        obtain ⟨B0, hB0⟩ : ∃ B0, Hid (wr.heap.size = B0) := ⟨_, rfl⟩
        obtain ⟨v0, hv0⟩ : ∃ v0, Hid (Value.slice (some ⟨wr.heap.size, 0, none⟩) 1 1 = v0) := ⟨_, rfl⟩
        have hst2 : Hid (Own64 (wr.alloc (.cells #[.int .i64 (k : Int)] 2)) B0 (.slice (some ⟨wr.heap.size, 0, none⟩) 1 1) (M.joinP zss 0)) := by rw [← hB0.out]; exact hst
        rw [hB0.out] at hzr hzs0
        clear hsm hall hres hb hst hv0
        go_wp2
        go_loopw [7, 34] (fun q i wx => ∃ (j : Nat) (A' : Option Addr) (c' m : Nat), j ≤ k ∧ i = .int .i64 (j : Int) ∧ q = .slice A' m c' ∧ Hid (m = 1 + M.tot (zss.take j)) ∧ m ≤ 24 ∧ Hid (Own64 wx B0 (.slice A' m c') (M.joinP zss j)) ∧ Hid (wx.heap[w.heap.size]? = some (.cells #[.slice none 0 0] 26 (0, 0))) ∧ B0 ≤ wx.heap.size ∧ Hid (Below w.heap.size w wx)) (fun _ i _ => k - (intOf i).toNat)
        case atStart => exact ⟨0, _, 1, 1, Nat.zero_le _, rfl, rfl, by simp [M.tot, Hid], by omega, hst2, hres1, hzs0, hb1⟩
        case round =>
          obtain ⟨j, A', c', m, hj, rfl, rfl, hm, hm24, ho, hres, hzx, hb⟩ := hrel
          clear hst2 hres1 hb1 hzs0
          have hsm := Hsm.out
          by_cases hlt2 : j < k
          · have hji : (j : Int) < (k : Int) := by omega
            have hj0 : (0 : Int) ≤ (j : Int) := by omega
            have hjz : j < zss.length := by omega
            have hat : zss[j]? = some zss[j] := List.getElem?_eq_getElem hjz
            have htk := hA.out _ (List.mem_of_getElem? hat)
            have hts := Lib.hid (M.tot_take hat)
            have hjj := Lib.hid (M.joinP_succ hat)
            have hle := M.tot_take_le zss (j + 1)
            generalize zss[j] = zs at hat htk hts hjj
            have hzl := M.tree_len htk
            obtain ⟨b, rfl, hbl, hc⟩ := h.out (by omega)
            obtain ⟨A1, c1, h1, h2⟩ := hc j zs hat
            obtain ⟨L, hL⟩ : ∃ L, Hid (zs.length = L) := ⟨_, rfl⟩
            have hcl := (hb.out.cell (p := ⟨b, j, none⟩) hbl).trans h1
            rw [hL.out] at hcl hts hzl
            obtain ⟨b1, off1, rfl, _⟩ := h2 (by have := hL.out; omega)
            have hi1 : Hid (Ints (wr.alloc (.cells #[.slice (some ⟨b1, off1, none⟩) L c1] 26)) (wr.alloc (.cells #[.slice (some ⟨b1, off1, none⟩) L c1] 26)).heap.size (some ⟨b1, off1, none⟩) zs) := (h2.be hb.out).al _
            have ho1 : Hid (Own64 (wr.alloc (.cells #[.slice (some ⟨b1, off1, none⟩) L c1] 26)) B0 (.slice A' m c') (M.joinP zss j)) := ho.out.alloc _
            have hzx1 : B0 ≤ (wr.alloc (.cells #[.slice (some ⟨b1, off1, none⟩) L c1] 26)).heap.size := by simp; omega
            have hres1 : Hid ((wr.alloc (.cells #[.slice (some ⟨b1, off1, none⟩) L c1] 26)).heap[w.heap.size]? = some (.cells #[.slice none 0 0] 26 (0, 0))) := (Below.heap_alloc _ _ _ (lt_of_block hres.out)).trans hres.out
            have hb1 : Hid (Below w.heap.size w (wr.alloc (.cells #[.slice (some ⟨b1, off1, none⟩) L c1] 26))) := bal hb.out _
            have hm2 : Hid (m + L = 1 + M.tot (zss.take (j + 1))) := by show _ = _; rw [hts.out, hm.out]; omega
            have hml : m + L ≤ 24 := by have := hm2.out; omega
            clear hc h1 h2 hat hbl htk hjz ho hres hb hm hsm hle hsm2
            go_wp2_with (at_builtin; refine appendInts rfl (.tmp 38) (.tmp 40) rfl _ B0 A' m c' (M.joinP zss j) (some ⟨b1, off1, none⟩) L c1 zs rfl rfl ho1 hi1 hL (fun e => by cases e) hzx1 (by omega) (by omega) ?_; intro A2 c2 w2 ho2 hb2)
            have hres2 : Hid (w2.heap[w.heap.size]? = some (.cells #[.slice none 0 0] 26 (0, 0))) := (hb2.out.block _ hzr).trans hres1.out
            have hb3 : Hid (Below w.heap.size w w2) := hb1.out.trans (hb2.out.mono (by omega))
            have hzx2 : B0 ≤ w2.heap.size := Nat.le_trans hzx1 hb2.out.size
            rw [← hjj.out] at ho2
            clear ho1 hres1 hb1 hi1 hb2 hzx1
            go_roundw
            case rel => exact ⟨j + 1, A2, c2, m + L, by omega, by go_num, rfl, hm2, hml, ho2, hres2, hzx2, hb3⟩
            case measure => simp [intOf]; omega
          · obtain rfl : j = k := by omega
            have hge2 : ¬ (j : Int) < (j : Int) := by omega
            have hJl : Hid ((M.joinP zss j).length = m) := by show _ = _; rw [M.joinP_len]; exact hm.out.symm
            have hr2 := cell_of_one hres.out
            have hf2 := free_of_one hres.out
            go_wp2
            have e1 := (Boxed.set (.slice A' m c') hres.out).cell
            refine bodyPost_ret (v := .tuple #[.agg #[.slice A' m c'], .int .i64 0]) (by simp [results, Try.results23, go_sem, e1]) rfl ?_
            rw [hF.out]
            show ∃ A'' c'', Ending.returned (.tuple #[.agg #[.slice A' m c'], .int .i64 0]) = .returned (.tuple #[.agg #[.slice A'' (M.joinP zss j).length c''], .int .i64 0]) ∧ Own64 _ _ (.slice A'' (M.joinP zss j).length c'') (M.joinP zss j) ∧ _
            rw [hJl.out]
            exact ⟨A', c', rfl, own_mono (own_far ho.out hzr _) (by omega), below_setCell hb.out (Nat.le_refl _) _⟩
      · have hF := Lib.hid (F_join_no hA.out hsm)
        have hsm2 : (24 : Int) < 1 + (M.tot zss : Int) := by omega
        have hr2 := cell_of_one hres.out
        have hf2 := free_of_one hres.out
        clear hsm
        go_wp2
        have e1 := (Boxed.set (.slice none 0 0) hres.out).cell
        refine bodyPost_ret (v := .tuple #[.agg #[.slice none 0 0], .int .i64 3]) (by simp [results, Try.results23, go_sem, e1]) rfl ?_
        rw [hF.out]
        exact ⟨none, 0, rfl, own64_nil _ _, below_setCell hb.out (Nat.le_refl _) _⟩
end Go.Proofs.Ytimjcdjeeocffaa
