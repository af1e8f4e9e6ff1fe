/- An argument that is a list of trees: opened; its size; copied. -/
import Derived.Test.YtbdmmeoelagdcaaWoodsIn
import Derived.Test.YtbdmmeoelagdcaaOpen
namespace Go.Proofs.Ytbdmmeoelagdcaa
open Go.RowKit Go.Joins Go.ChangeShapes Go.WideShapes Go.ChangeAt Go.Deep

/-- the trees of an argument, to be read -/
def TreesL (w : World) (A : Option Addr) (zss : List (List Int)) : Prop :=
  0 < zss.length → ∃ b off, A = some ⟨b, off, none⟩ ∧ b < w.heap.size ∧ ∀ (k : Nat) (zs : List Int), zss[k]? = some zs → ∃ A' c', w.cell? ⟨b, off + k, none⟩ = some (.slice A' zs.length c') ∧ zs.length ≤ 9223372036854775807 ∧ Ints w w.heap.size A' zs
theorem TreesL.be {w w' : World} {A : Option Addr} {zss : List (List Int)} (h : TreesL w A zss) (hb : Below w.heap.size w w') : TreesL w' A zss := fun hp => by
  obtain ⟨b, off, rfl, hlt, hk⟩ := h hp
  refine ⟨b, off, rfl, Nat.lt_of_lt_of_le hlt hb.size, fun k zs hz => ?_⟩
  obtain ⟨A', c', h1, h2, h3⟩ := hk k zs hz
  exact ⟨A', c', (hb.cell (p := ⟨b, off + k, none⟩) hlt).trans h1, h2, h3.be hb⟩

theorem cellsRow : Try.prog.cellsOf 23 = 1 := by kernel_rfl

set_option maxRecDepth 100000 in
theorem openTrees {H : Type} {enc : TypeId × Value → H} {W : World} {fuel : Nat} {v : Value} {y : DataW H × List MemPlace}
    (h : DataW.trod enc Try.prog W 0 (fun _ => true) true fuel 44 [v] = some y) (hlt : ∀ x ∈ y.2, x.block < W.heap.size) :
    ∃ (A : Option Addr) (c : Nat) (zss : List (List Int)), v = .slice A zss.length c ∧ zss.length ≤ 9223372036854775807 ∧ TreesL W A zss := by
  rcases DataW.trod_slice Try.underlying44 h with ⟨hcs, _⟩ | ⟨a, len, cap, elems, rest, n, _, hcs, hy, _, hl, hm, hlen, hel, _, _⟩
  · obtain rfl : v = .slice none 0 0 := by simpa using hcs
    exact ⟨none, 0, [], rfl, by simp, fun hp => by simp at hp⟩
  · obtain rfl : v = .slice (some a) len cap := by simpa using hcs
    subst hy
    have hE : ∀ i, ∃ zs : List Int, i < len → ∃ A' c', W.cell? (a.add i) = some (.slice A' zs.length c') ∧ zs.length ≤ 9223372036854775807 ∧ Ints W W.heap.size A' zs := fun i => by
      by_cases hi : i < len
      · have he := hel i hi
        have hei : elems[i]? = some elems[i] := List.getElem?_eq_getElem (by omega)
        rw [hei, cellsTree, Nat.mul_one, Option.bind_eq_some_iff] at he
        obtain ⟨cs, hcs', htr⟩ := he
        obtain ⟨xs, n', _, hx, hcl, hxl, hg⟩ := DataW.trod_struct Try.underlying25 htr
        rw [cellsTree] at hcl
        match cs, hcl, hcs' with
        | [c0], _, hcs' =>
          have hc0 := cell_of_cells?_one hcs'
          obtain ⟨y0, hx0⟩ : ∃ y0, xs[0]? = some y0 := ⟨_, List.getElem?_eq_getElem (by rw [hxl]; decide)⟩
          have hg0 : DataW.trod enc Try.prog W 0 (fun _ => true) true n' 23 (List.take (Try.prog.cellsOf 23) (List.drop 0 [c0])) = xs[0]? := hg 0 _ rfl
          rw [cellsRow, hx0] at hg0
          have hg1 : DataW.trod enc Try.prog W 0 (fun _ => true) true n' 23 [c0] = some y0 := hg0
          obtain ⟨A', c', zs, rfl, h1, h2, _⟩ := openInts hg1 (fun x hx' => hlt x (by
            refine List.mem_append_right _ (List.mem_flatMap.2 ⟨elems[i], List.mem_append_left _ (List.getElem_mem _), ?_⟩)
            rw [hx]
            exact List.mem_flatMap.2 ⟨y0, List.mem_of_getElem? hx0, hx'⟩))
          exact ⟨zs, fun _ => ⟨A', c', hc0, h1, h2⟩⟩
      · exact ⟨[], fun h => absurd h hi⟩
    obtain ⟨f, hf⟩ := Classical.skolem.1 hE
    have hL : ((List.range len).map f).length = len := by simp
    refine ⟨some a, cap, (List.range len).map f, by rw [hL], by rw [hL]; simp only [maxLen] at hm; omega, fun hp => ?_⟩
    rw [hL] at hp
    obtain ⟨_, _, h0, _⟩ := hf 0 hp
    obtain ⟨b, off, spot⟩ := a
    have hspot : spot = none := by simpa [Addr.add] using World.cell?_spot h0
    subst hspot
    refine ⟨b, off, rfl, World.block_lt_of_cell? _ _ h0, fun k zs hk => ?_⟩
    have hkl : k < len := by have := (List.getElem?_eq_some_iff.1 hk).1; simpa using this
    rw [List.getElem?_map, List.getElem?_range hkl] at hk
    injection hk with hk
    obtain ⟨A', c', h1, h2, h3⟩ := hf k hkl
    rw [add_plain] at h1
    rw [hk] at h1 h2 h3
    exact ⟨A', c', h1, h2, h3⟩

set_option maxRecDepth 100000 in
set_option maxHeartbeats 2000000 in
theorem szTreeS (A : Option Addr) (zss : List (List Int)) (n c : Nat) (w : World) (hn : Hid (zss.length = n)) (hn' : n ≤ 9223372036854775807) (h : Hid (TreesL w A zss)) :
    Calls Try.prog 36 #[.slice A n c, .int .i64 1048576] w fun e w' => ∃ r : Int, e = .returned (.int .i64 r) ∧ (0 ≤ r → n + M.tot zss ≤ 1048576 ∧ r = 1048576 - (n : Int) - (M.tot zss : Int)) ∧ (r < 0 → r = -1) ∧ Below w.heap.size w w' := by
  by_cases h0 : (1048576 : Int) - (n : Int) < 0
  · go_enter Try.func36, Try.ntmps36
    go_wp2
    go_ret
    exact ⟨-1, rfl, fun e => by omega, fun _ => rfl, Below.refl _ _⟩
  · go_enter Try.func36, Try.ntmps36
    go_wp2
    go_loopw [1, 5] (fun q i wr => ∃ (k : Nat) (l : Int), k ≤ n ∧ i = .int .i64 (k : Int) ∧ q = .int .i64 l ∧ 0 ≤ l ∧ Hid (l = 1048576 - (n : Int) - (M.tot (zss.take k) : Int)) ∧ Hid (Below w.heap.size w wr)) (fun _ i _ => n - (intOf i).toNat)
    case atStart => exact ⟨0, 1048576 - (n : Int), Nat.zero_le _, rfl, by simp, by omega, by simp [M.tot, Hid], b0 w⟩
    case round =>
      obtain ⟨k, l, hk, rfl, rfl, hl0, hl, hb⟩ := hrel
      by_cases hlt : k < n
      · have hki : (k : Int) < (n : Int) := by omega
        have hk0 : (0 : Int) ≤ (k : Int) := by omega
        have hl1 : l ≤ 1048576 := by have := hl.out; omega
        have hkz : k < zss.length := by rw [hn.out]; exact hlt
        have hat : zss[k]? = some zss[k] := List.getElem?_eq_getElem hkz
        have hts := Lib.hid (M.tot_take hat)
        generalize zss[k] = zs at hat hts
        obtain ⟨b, off, rfl, hbl, hc⟩ := h.out (by omega)
        obtain ⟨A1, c1, h1, h2, h3⟩ := hc k zs hat
        have hcl : wr.cell? ⟨b, off + k, none⟩ = some (.slice A1 zs.length c1) := (hb.out.cell (p := ⟨b, off + k, none⟩) hbl).trans h1
        have HSz := Lib.hid (szTree A1 zs.length c1 l wr h2 hl1 hl0)
        clear hc h1 hkz hat hbl
        by_cases hneg : l - (zs.length : Int) < 0
        · rw [if_pos hneg] at HSz
          clear hneg
          go_wp2_with fail
          refine HSz.out.mono ?_
          rintro e w7 ⟨rfl, hb7⟩
          have hB := Lib.hid (btr hb.out hb7)
          clear hb7 hcl
          go_wp2
          go_ret
          exact ⟨-1, rfl, fun e => by omega, fun _ => rfl, hB.out⟩
        · rw [if_neg hneg] at HSz
          go_wp2_with fail
          refine HSz.out.mono ?_
          rintro e w7 ⟨rfl, hb7⟩
          have hB := Lib.hid (btr hb.out hb7)
          have hl2 : Hid (l - (zs.length : Int) = 1048576 - (n : Int) - (M.tot (zss.take (k + 1)) : Int)) := by show _ = _; rw [hts.out, hl.out]; omega
          clear hb7 hcl hl hts
          go_wp2
          go_roundw
          case rel => exact ⟨k + 1, l - (zs.length : Int), by omega, by go_num, rfl, by omega, hl2, hB⟩
          case measure => simp [intOf]; omega
      · obtain rfl : k = n := by omega
        have hge : ¬ (k : Int) < (k : Int) := by omega
        have htot : M.tot (zss.take k) = M.tot zss := by rw [List.take_of_length_le (by rw [hn.out]; exact Nat.le_refl _)]
        have hl3 : Hid (l = 1048576 - (k : Int) - (M.tot zss : Int)) := by show _ = _; rw [hl.out, htot]
        clear hl htot
        go_wp2
        go_ret
        exact ⟨l, rfl, fun _ => ⟨by have := hl3.out; omega, hl3.out⟩, fun e => by omega, hb.out⟩

/-- the copy under way -/
structure WoodsP (w : World) (B g n : Nat) (hs : List Hdr) (zss : List (List Int)) : Prop where
  row : w.ownsRow B 29 1 (.slice (some ⟨g, 0, none⟩) n n) n (hs.map hdr ++ List.replicate (n - hs.length) (.slice none 0 0))
  len : hs.length = zss.length
  each : ∀ (k : Nat) (h : Hdr) (zs : List Int), hs[k]? = some h → zss[k]? = some zs → Own64 w B (hdr h) zs
  apart : ∀ (i j : Nat) (h h' : Hdr), hs[i]? = some h → hs[j]? = some h' → i ≠ j → h.1 ≠ h'.1
theorem WoodsP.be {w w' : World} {B g n : Nat} {hs : List Hdr} {zss : List (List Int)} (h : WoodsP w B g n hs zss) (hb : Below w.heap.size w w') : WoodsP w' B g n hs zss :=
  ⟨own_be h.row hb, h.len, fun k h' zs hk hz => own_be (h.each k h' zs hk hz) hb, h.apart⟩
theorem WoodsP.lt {w : World} {B g n : Nat} {hs : List Hdr} {zss : List (List Int)} (h : WoodsP w B g n hs zss) {h' : Hdr} (hh : h' ∈ hs) : h'.1 < w.heap.size := by
  obtain ⟨k, hk⟩ := List.getElem?_of_mem hh
  have hl : k < zss.length := by rw [← h.len]; exact (List.getElem?_eq_some_iff.1 hk).1
  exact (World.ownsRow.lt (h.each k h' _ hk (List.getElem?_eq_getElem hl)) h'.1 rfl).2
theorem rows_ne {w : World} {B g n : Nat} {hs : List Hdr} {zss : List (List Int)} (h : WoodsP w B g n hs zss) {h' : Hdr} (hh : h' ∈ hs) : h'.1 ≠ g := by
  intro e
  obtain ⟨k, hk⟩ := List.getElem?_of_mem hh
  have hl : k < zss.length := by rw [← h.len]; exact (List.getElem?_eq_some_iff.1 hk).1
  have h1 := h.each k h' _ hk (List.getElem?_eq_getElem hl)
  rcases h.row.2 with ⟨e0, _⟩ | ⟨g1, cap, cur, hv, _, hg, _⟩
  · cases e0
  · rcases h1.2 with ⟨e0, _⟩ | ⟨g', cap', cur', hv', _, hg', _⟩
    · cases e0
    · injection hv with e1
      injection e1 with e1
      injection e1 with e1
      injection hv' with e2
      injection e2 with e2
      injection e2 with e2
      rw [← e1] at hg
      rw [← e2, e, hg] at hg'
      injection hg' with hg'
      injection hg' with _ hg'
      exact absurd hg' (by decide)
theorem WoodsP.start {w : World} {n : Nat} (hn : n ≤ maxLen) : WoodsP (w.alloc (.cells (madeCells #[.slice none 0 0] n) 29)) w.heap.size w.heap.size n [] [] := by
  refine ⟨?_, rfl, fun k h zs hk => by simp at hk, fun i j h h' hi => by simp at hi⟩
  have h := World.ownsRow_lit (e := 29) (size := 1) w (madeCells #[.slice none 0 0] n) n (Nat.le_refl _) hn (by simp [size_madeCells])
  rw [toList_madeCells_one] at h
  simpa using h
theorem WoodsP.stop {w : World} {B g n : Nat} {hs : List Hdr} {zss : List (List Int)} (h : WoodsP w B g n hs zss) (hn : hs.length = n) : Woods w B (.slice (some ⟨g, 0, none⟩) n n) hs zss := by
  refine ⟨?_, h.len, h.each, h.apart⟩
  have := h.row
  rw [hn, Nat.sub_self, List.replicate_zero, List.append_nil] at this
  rw [hn]
  exact this
theorem WoodsP.step {w : World} {B g n : Nat} {hs : List Hdr} {zss : List (List Int)} {h0 : Hdr} {zs : List Int} (h : WoodsP w B g n hs zss) (hn : hs.length < n) (ho : Own64 w B (hdr h0) zs) (hne : h0.1 ≠ g) (hfr : ∀ h' ∈ hs, h'.1 ≠ h0.1 ∧ h'.1 ≠ g) :
    WoodsP (w.setCell ⟨g, hs.length, none⟩ (hdr h0)) B g n (hs ++ [h0]) (zss ++ [zs]) := by
  obtain ⟨hst, hgr⟩ := World.ownsRow.stored h.row hs.length (hdr h0)
  refine ⟨?_, by rw [List.length_append, List.length_append, h.len]; rfl, fun k h' ys hk hy => ?_, fun i j h1 h2 hi hj hij => ?_⟩
  · have e : (hs.map hdr ++ List.replicate (n - hs.length) (Value.slice none 0 0)).set hs.length (hdr h0) = (hs ++ [h0]).map hdr ++ List.replicate (n - (hs ++ [h0]).length) (.slice none 0 0) := by
      obtain ⟨m, hm⟩ : ∃ m, n - hs.length = m + 1 := ⟨n - hs.length - 1, by omega⟩
      have hm2 : n - (hs ++ [h0]).length = m := by rw [List.length_append, List.length_singleton]; omega
      rw [hm, hm2, List.replicate_succ, List.map_append]
      have : hs.length = (hs.map hdr).length := by simp
      rw [this, List.set_append_right _ _ (Nat.le_refl _), Nat.sub_self]
      simp
    rw [e] at hst
    exact hst
  · rcases Nat.lt_or_ge k hs.length with hl | hl
    · rw [List.getElem?_append_left hl] at hk
      rw [List.getElem?_append_left (by rw [← h.len]; exact hl)] at hy
      exact (h.each k h' ys hk hy).kept hgr (.inr fun e => (hfr h' (List.mem_of_getElem? hk)).2 (by injection e))
    · rw [List.getElem?_append_right hl] at hk
      rw [List.getElem?_append_right (by rw [← h.len]; exact hl)] at hy
      have e1 : k - hs.length = 0 := by have := (List.getElem?_eq_some_iff.1 hk).1; simp at this; omega
      rw [e1] at hk
      rw [← h.len, e1] at hy
      injection hk with hk
      injection hy with hy
      subst hk
      subst hy
      exact ho.kept hgr (.inr fun e => hne (by injection e))
  · have hsel : ∀ (k : Nat) (h' : Hdr), (hs ++ [h0])[k]? = some h' → (k < hs.length ∧ hs[k]? = some h') ∨ (k = hs.length ∧ h' = h0) := fun k h' hk => by
      rcases Nat.lt_or_ge k hs.length with hl | hl
      · rw [List.getElem?_append_left hl] at hk; exact .inl ⟨hl, hk⟩
      · rw [List.getElem?_append_right hl] at hk
        have e1 : k - hs.length = 0 := by have := (List.getElem?_eq_some_iff.1 hk).1; simp at this; omega
        rw [e1] at hk
        injection hk with hk
        exact .inr ⟨by omega, hk.symm⟩
    rcases hsel i h1 hi with ⟨a1, a2⟩ | ⟨a1, a2⟩ <;> rcases hsel j h2 hj with ⟨b1, b2⟩ | ⟨b1, b2⟩
    · exact h.apart i j h1 h2 a2 b2 hij
    · rw [b2]; exact (hfr h1 (List.mem_of_getElem? a2)).1
    · rw [a2]; exact fun e => (hfr h2 (List.mem_of_getElem? b2)).1 e.symm
    · omega

set_option maxRecDepth 100000 in
set_option maxHeartbeats 2000000 in
theorem toTreeS (A : Option Addr) (zss : List (List Int)) (n c : Nat) (w : World) (hn : Hid (zss.length = n)) (hn' : n ≤ 1048576) (hz : Hid (∀ zs ∈ zss, zs.length ≤ 1000000000000)) (h : Hid (TreesL w A zss)) :
    Calls Try.prog 38 #[.slice A n c] w fun e w' => ∃ g hs, e = .returned (.slice (some ⟨g, 0, none⟩) n n) ∧ Woods w' w.heap.size (.slice (some ⟨g, 0, none⟩) n n) hs zss ∧ Below w.heap.size w w' := by
  obtain ⟨i0, hi0, hz0, hz1, hz2⟩ := info_parts infoTree
  have hmk : ∀ W : World, (Instr.makeSlice 39 (.int .i64 (n : Int)) (.int .i64 (n : Int))).run Try.prog W = .ok (.slice (some ⟨W.heap.size, 0, none⟩) n n) (W.alloc (.cells (madeCells #[.slice none 0 0] n) 29)) := fun W => by
    have := run_make (P := Try.prog) W 39 29 i0 (.agg #[.slice none 0 0]) Try.underlying39 hi0 hz0 .i64 .i64 (n : Int) (n : Int) (by omega) (Int.le_refl _) (by rw [hz2]; omega) (by omega)
    simpa [hz1, Value.cells] using this
  have hst := Lib.hid (WoodsP.start (w := w) (n := n) (by unfold maxLen; omega))
  go_enter Try.func38, Try.ntmps38
  go_wp2
  clear hmk
  go_loopw [4] (fun i wr => ∃ (k : Nat) (hs : List Hdr), k ≤ n ∧ i = .int .i64 (k : Int) ∧ Hid (hs.length = k) ∧ Hid (WoodsP wr w.heap.size w.heap.size n hs (zss.take k)) ∧ Hid (Below w.heap.size w wr)) (fun i _ => n - (intOf i).toNat)
  case atStart => exact ⟨0, [], Nat.zero_le _, rfl, rfl, by simpa [Hid] using hst.out, bal (b0 w) _⟩
  case round =>
    obtain ⟨k, hs, hk, rfl, hhs, hP, hb⟩ := hrel
    clear hst
    by_cases hlt : k < n
    · have hki : (k : Int) < (n : Int) := by omega
      have hk0 : (0 : Int) ≤ (k : Int) := by omega
      have hkz : k < zss.length := by rw [hn.out]; exact hlt
      have hat : zss[k]? = some zss[k] := List.getElem?_eq_getElem hkz
      have hzk := hz.out _ (List.mem_of_getElem? hat)
      generalize zss[k] = zs at hat hzk
      obtain ⟨b, off, rfl, hbl, hc⟩ := h.out (by omega)
      obtain ⟨A1, c1, h1, h2, h3⟩ := hc k zs hat
      have hcl : wr.cell? ⟨b, off + k, none⟩ = some (.slice A1 zs.length c1) := (hb.out.cell (p := ⟨b, off + k, none⟩) hbl).trans h1
      have HTo := Lib.hid (toTree A1 zs c1 wr hzk (h3.be hb.out))
      have hgw := (World.ownsRow.lt hP.out.row w.heap.size rfl).2
      have htk : Hid (zss.take (k + 1) = zss.take k ++ [zs]) := by show _ = _; rw [List.take_add_one, hat]; rfl
      clear hc h1 hkz hat hbl h2 h3
      go_wp2_with fail
      refine HTo.out.mono ?_
      rintro e w7 ⟨g7, rfl, ho7, hb7⟩
      have hP7 := Lib.hid (hP.out.be hb7)
      have hg7 := (World.ownsRow.lt ho7 g7 rfl).1
      have hB7 := Lib.hid (btr hb.out hb7)
      have hzr := hb.out.size
      have hcs : w7.cell? ⟨w.heap.size, k, none⟩ = some (.slice none 0 0) := by
        refine (World.ownsRow.cellAt hP7.out.row k (by omega)).trans ?_
        have := hhs.out
        rw [List.getElem?_append_right (by simp; omega)]
        rw [List.getElem?_replicate, if_pos (by simp; omega)]
      have hfs := World.ownsRow.frozenAt hP7.out.row k
      have hstep : Hid (WoodsP (w7.setCell ⟨w.heap.size, k, none⟩ (.slice (some ⟨g7, 0, none⟩) zs.length zs.length)) w.heap.size w.heap.size n (hs ++ [(g7, zs.length, zs.length)]) (zss.take (k + 1))) := by
        have hl := hhs.out
        have := hP7.out.step (h0 := (g7, zs.length, zs.length)) (zs := zs) (by omega) (own_mono ho7 hzr) (by show g7 ≠ _; omega) (fun h' hh => by have := hP.out.lt hh; exact ⟨by show h'.1 ≠ g7; omega, rows_ne hP.out hh⟩)
        rw [hl] at this
        rw [htk.out]
        exact this
      have hB8 : Hid (Below w.heap.size w (w7.setCell ⟨w.heap.size, k, none⟩ (.slice (some ⟨g7, 0, none⟩) zs.length zs.length))) := below_setCell hB7.out (Nat.le_refl _) _
      have hhs2 : Hid ((hs ++ [(g7, zs.length, zs.length)]).length = k + 1) := by show _ = _; rw [List.length_append, List.length_singleton, hhs.out]
      clear hP hP7 hb7 ho7 hb hB7 hcl hhs HTo
      go_wp2
      go_roundw
      case rel => exact ⟨k + 1, _, by omega, by go_num, hhs2, hstep, hB8⟩
      case measure => simp [intOf]; omega
    · obtain rfl : k = n := by omega
      have hge : ¬ (k : Int) < (k : Int) := by omega
      have hW := Lib.hid (hP.out.stop hhs.out)
      rw [List.take_of_length_le (by rw [hn.out]; exact Nat.le_refl _)] at hW
      clear hP
      go_wp2
      go_ret
      exact ⟨w.heap.size, rfl, ⟨hs, hW.out⟩, hb.out⟩
end Go.Proofs.Ytbdmmeoelagdcaa
