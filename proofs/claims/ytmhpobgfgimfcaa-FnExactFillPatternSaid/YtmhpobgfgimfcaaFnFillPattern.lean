/- FillPattern, the program's and the model's: the tree that comes if a pattern is filled with trees. -/
import Derived.Test.YtmhpobgfgimfcaaFillIn
import Derived.Test.YtmhpobgfgimfcaaFnParseSpec
import Derived.WalkSpells
namespace Go.Proofs.Ytmhpobgfgimfcaa
open Go.RowKit

def anyBad (zss : List (List Int)) : Bool := zss.any fun zs => !M.isTree zs
theorem anyBad_hit {zss : List (List Int)} {k : Nat} {zs : List Int} (h : zss[k]? = some zs) (hx : M.isTree zs = false) : anyBad zss = true :=
  List.any_eq_true.2 ⟨zs, List.mem_of_getElem? h, by rw [hx]; rfl⟩
theorem anyBad_take {zss : List (List Int)} {k : Nat} {zs : List Int} (h : zss[k]? = some zs) (hx : M.isTree zs = true) (hg : anyBad (zss.take k) = false) : anyBad (zss.take (k + 1)) = false := by
  rw [List.take_add_one, h, anyBad, List.any_append]
  rw [anyBad] at hg
  rw [hg]
  simp [hx]
theorem anyBad_no {zss : List (List Int)} (h : anyBad zss = false) : ∀ zs ∈ zss, M.isTree zs = true := fun x hx => by
  have := (List.any_eq_false.1 h) x hx
  simpa using this
/-- the code of a pattern and trees, and the tree -/
def F_FillPattern (p : ByteArray) (zss : List (List Int)) : List Int × Int :=
  if anyBad zss then ([], 1) else if M.isPat p.data.toList then (if M.numL p.data.toList = zss.length then (if 48 < (M.fillT p.data.toList (zss.map txt)).length then ([], 3) else (treeAt (M.fillT p.data.toList (zss.map txt)), 0)) else ([], 2)) else ([], 6)
theorem F_Fill_bad {p : ByteArray} {zss : List (List Int)} (h : anyBad zss = true) : F_FillPattern p zss = ([], 1) := by rw [F_FillPattern, if_pos h]
theorem F_Fill_pat {p : ByteArray} {zss : List (List Int)} (h : anyBad zss = false) (h1 : M.isPat p.data.toList = false) : F_FillPattern p zss = ([], 6) := by rw [F_FillPattern, if_neg (by simp [h]), if_neg (by simp [h1])]
theorem F_Fill_num {p : ByteArray} {zss : List (List Int)} (h : anyBad zss = false) (h1 : M.isPat p.data.toList = true) (h2 : M.numL p.data.toList ≠ zss.length) : F_FillPattern p zss = ([], 2) := by rw [F_FillPattern, if_neg (by simp [h]), if_pos h1, if_neg h2]
theorem F_Fill_long {p : ByteArray} {zss : List (List Int)} (h : anyBad zss = false) (h1 : M.isPat p.data.toList = true) (h2 : M.numL p.data.toList = zss.length) (h3 : 48 < (M.fillT p.data.toList (zss.map txt)).length) : F_FillPattern p zss = ([], 3) := by rw [F_FillPattern, if_neg (by simp [h]), if_pos h1, if_pos h2, if_pos h3]
theorem F_Fill_yes {p : ByteArray} {zss : List (List Int)} (h : anyBad zss = false) (h1 : M.isPat p.data.toList = true) (h2 : M.numL p.data.toList = zss.length) (h3 : ¬ 48 < (M.fillT p.data.toList (zss.map txt)).length) : F_FillPattern p zss = (treeAt (M.fillT p.data.toList (zss.map txt)), 0) := by rw [F_FillPattern, if_neg (by simp [h]), if_pos h1, if_pos h2, if_neg h3]
theorem fill_facts {p : ByteArray} {zss : List (List Int)} (h : anyBad zss = false) (h1 : M.isPat p.data.toList = true) (h2 : M.numL p.data.toList = zss.length) :
    (∀ c ∈ p.data.toList, M.okP c) ∧ (M.fillT p.data.toList (zss.map txt)).length ≤ 48 * 60 ∧ (¬ 48 < (M.fillT p.data.toList (zss.map txt)).length → (M.parse (M.toI (M.fillT p.data.toList (zss.map txt)))).2 = 0 ∧ treeAt (M.fillT p.data.toList (zss.map txt)) ≠ [] ∧ (treeAt (M.fillT p.data.toList (zss.map txt))).length ≤ 48) := by
  have hp := (M.isPat_iff.1 h1).2.1
  have h60 := (M.isPat_iff.1 h1).1
  have hbad := anyBad_no h
  have ht : ∀ Y ∈ zss.map txt, M.Whole Y := fun Y hY => by
    obtain ⟨zs, hz, rfl⟩ := List.mem_map.1 hY
    exact txt_whole (hbad zs hz)
  have hl : ∀ Y ∈ zss.map txt, Y.length ≤ 48 := fun Y hY => by
    obtain ⟨zs, hz, rfl⟩ := List.mem_map.1 hY
    rw [txt_len (hbad zs hz)]
    have := (M.tree_len (hbad zs hz)).2
    omega
  obtain ⟨a, b⟩ := M.fill_piece hp (ts := zss.map txt) (by rw [List.length_map]; exact h2) ht
  have hfl := M.fill_len p.data.toList (zss.map txt) hl
  exact ⟨M.piece_ok hp, by omega, fun h3 => M.piece_parse b a (by omega)⟩
theorem F_FillPattern_len (p : ByteArray) (zss : List (List Int)) : (F_FillPattern p zss).1.length ≤ 48 := by
  cases hb : anyBad zss
  · cases hp : M.isPat p.data.toList
    · rw [F_Fill_pat hb hp]; simp
    · by_cases hn : M.numL p.data.toList = zss.length
      · by_cases h3 : 48 < (M.fillT p.data.toList (zss.map txt)).length
        · rw [F_Fill_long hb hp hn h3]; simp
        · rw [F_Fill_yes hb hp hn h3]
          exact ((fill_facts hb hp hn).2.2 h3).2.2
      · rw [F_Fill_num hb hp hn]; simp
  · rw [F_Fill_bad hb]; simp
/-- a text and a list of trees to a tree and a code -/
def GivesFill (f : Nat) (F : ByteArray → List (List Int) → List Int × Int) : Prop :=
  ∀ (p : ByteArray) (A : Option Addr) (zss : List (List Int)) (n c : Nat) (w : World), Hid (zss.length = n) → n ≤ 1048576 → n ≤ c → c ≤ 9223372036854775807 → p.size ≤ 1048576 → Hid (∀ zs ∈ zss, zs.length ≤ 1048576) → Hid (TreesC w A zss) →
    Calls Try.prog f #[.string p, .slice A n c] w fun e w' => ∃ A' c', e = .returned (.tuple #[.agg #[.slice A' (F p zss).1.length c'], .int .i64 (F p zss).2]) ∧ Own64 w' w.heap.size (.slice A' (F p zss).1.length c') (F p zss).1 ∧ Below w.heap.size w w'

theorem notTree (A : Option Addr) (xs : List Int) (c : Nat) (w : World) (hx : xs.length ≤ 1000000000000) (h : Ints w w.heap.size A xs) :
    Calls Try.prog 76 #[.agg #[.slice A xs.length c]] w fun e w' => e = .returned (.bool (!M.isTree xs)) ∧ Below w.heap.size w w' := by
  have hI := Lib.hid (implIsTree A xs c (w.alloc (.cells #[.slice A xs.length c] 29)) hx (h.al _))
  generalize M.isTree xs = b at *
  go_enter Try.func76, Try.ntmps76
  go_wp2_with (go_at_call 77; refine hI.out.mono ?_; rintro e w' ⟨rfl, hb⟩)
  have hB := btr (bal (b0 w) _) hb
  go_ret
  exact ⟨rfl, hB⟩

set_option maxRecDepth 100000 in
set_option maxHeartbeats 2000000 in
theorem containsBad (A : Option Addr) (zss : List (List Int)) (n c : Nat) (w : World) (hn : Hid (zss.length = n)) (hn' : n ≤ 1048576) (hz : Hid (∀ zs ∈ zss, zs.length ≤ 1048576)) (h : Hid (Trees w A zss)) (r : Bool) (hr : Hid (anyBad zss = r)) :
    Calls Try.prog 78 #[.slice A n c, .func (.func 76) #[] #[]] w fun e w' => e = .returned (.bool r) ∧ Below w.heap.size w w' := by
  have hI : Calls Try.prog 115 #[.slice A n c, .func (.func 76) #[] #[]] w fun e w' => (∃ j : Int, e = .returned (.int .i64 j) ∧ decide (0 ≤ j) = r) ∧ Below w.heap.size w w' := by
    have hb0 := Lib.hid (b0 w)
    go_enter Try.func115, Try.ntmps115
    go_wp2
    go_loopw [8] (fun i wr => ∃ (k : Nat), k ≤ n ∧ i = .int .i64 k ∧ Hid (anyBad (zss.take k) = false) ∧ Hid (Below w.heap.size w wr)) (fun i _ => n - (intOf i).toNat)
    case atStart => exact ⟨0, Nat.zero_le _, rfl, by simp [Hid, anyBad], hb0⟩
    case round =>
      obtain ⟨k, hk, rfl, hg, hB⟩ := hrel
      clear hb0
      by_cases hlt : k < n
      · have hki : (k : Int) < (n : Int) := by omega
        have hk0 : (0 : Int) ≤ (k : Int) := by omega
        have hkz : k < zss.length := by rw [hn.out]; exact hlt
        have hat : zss[k]? = some zss[k] := List.getElem?_eq_getElem hkz
        have hzk := hz.out _ (List.mem_of_getElem? hat)
        generalize zss[k] = zs at hat hzk
        obtain ⟨b, rfl, hbl, hc⟩ := h.out (by omega)
        obtain ⟨A1, c1, h1, h2⟩ := hc k zs hat
        have hcl : wr.cell? ⟨b, k, none⟩ = some (.slice A1 zs.length c1) := (hB.out.cell (p := ⟨b, k, none⟩) hbl).trans h1
        have hO := Lib.hid (notTree A1 zs c1 wr (by omega) (h2.be hB.out))
        cases ho : M.isTree zs
        · have hrr : Hid (r = true) := by show _ = _; rw [← hr.out]; exact anyBad_hit hat ho
          rw [ho] at hO
          clear hc h1 h2 hat hkz ho hg
          go_wp2_with (go_at_call 76; refine hO.out.mono ?_; rintro e w' ⟨rfl, hb2⟩)
          have hB2 := btr hB.out hb2
          go_ret
          exact ⟨⟨k, rfl, by rw [hrr.out]; simp⟩, hB2⟩
        · have hs := Lib.hid (anyBad_take hat ho hg.out)
          rw [ho] at hO
          clear hc h1 h2 hat hkz ho hg
          go_wp2_with (go_at_call 76; refine hO.out.mono ?_; rintro e w' ⟨rfl, hb2⟩)
          have hB2 := Lib.hid (btr hB.out hb2)
          go_roundw
          case rel => exact ⟨k + 1, by omega, by go_num, hs, hB2⟩
          case measure => simp [intOf]; omega
      · obtain rfl : k = n := by omega
        have hrr : Hid (r = false) := by show _ = _; rw [← hr.out, ← hg.out, List.take_of_length_le (by rw [hn.out]; exact Nat.le_refl _)]
        go_wp2
        go_ret
        exact ⟨⟨-1, rfl, by rw [hrr.out]; simp⟩, hB.out⟩
  have HI := Lib.hid hI
  clear hI
  go_enter Try.func78, Try.ntmps78
  go_wp2_with fail
  refine HI.out.mono ?_
  rintro e w' ⟨⟨j, rfl, hj⟩, hb⟩
  have Hj := Lib.hid hj
  clear hj
  go_wp2
  go_ret
  exact ⟨by rw [← Hj.out]; rfl, hb⟩

set_option maxRecDepth 100000 in
set_option maxHeartbeats 4000000 in
theorem impl_FillPattern : GivesFill 37 F_FillPattern := by
  intro p A zss n c w hn hn' hcn hcu hp hz h
  obtain ⟨W, hW⟩ : ∃ W, w.alloc (.cells #[.slice none 0 0] 29) = W := ⟨_, rfl⟩
  have hWs : W.heap.size = w.heap.size + 1 := by rw [← hW]; simp
  have hR : Hid (W.heap[w.heap.size]? = some (.cells #[.slice none 0 0] 29 (0, 0))) := by rw [← hW]; exact World.alloc_heap_new w _
  have hBW : Hid (Below w.heap.size w W) := by rw [← hW]; exact bal (b0 w) _
  obtain ⟨r, hr⟩ : ∃ r, Hid (anyBad zss = r) := ⟨_, rfl⟩
  have hCo := Lib.hid (containsBad A zss n c W hn hn' hz (Lib.hid (h.out.be hBW.out).trees) r hr)
  have hPt : Hid (∀ W, Calls Try.prog 17 #[.string p] W fun e w' => e = .returned (.bool (M.isPat p.data.toList)) ∧ Hid (Below W.heap.size W w')) := fun W => impl_IsPattern p W hp
  have HW := Lib.hid hW
  clear hW
  cases hb : r
  · subst hb
    cases hpt : M.isPat p.data.toList
    · rw [F_Fill_pat hr.out hpt]
      rw [hpt] at hPt
      clear hpt hr hz h
      go_enter Try.func37, Try.ntmps37
      go_wp2_with fail
      rw [HW.out]
      refine hCo.out.mono ?_
      rintro e w1 ⟨rfl, hb1⟩
      have hres1 := Lib.hid ((hb1.block w.heap.size (lt_of_block hR.out)).trans hR.out)
      have hB1 := Lib.hid (btr hBW.out hb1)
      clear hb1 hCo
      go_wp2_with fail
      refine (hPt.out _).mono ?_
      rintro e w2 ⟨rfl, hb2⟩
      have hres2 := (hb2.out.block w.heap.size (lt_of_block hres1.out)).trans hres1.out
      have hr2 := cell_of_one hres2
      have hf2 := free_of_one hres2
      have hB2 := Lib.hid (btr hB1.out hb2.out)
      clear hb2
      go_wp2
      have e1 := (Boxed.set (.slice none 0 0) hres2).cell
      refine bodyPost_ret (v := .tuple #[.agg #[.slice none 0 0], .int .i64 6]) (by simp [results, Try.results37, go_sem, e1]) rfl ?_
      exact ⟨none, 0, rfl, own64_nil _ _, below_setCell hB2.out (Nat.le_refl _) _⟩
    · rw [hpt] at hPt
      have hp6 := pat_60 hpt
      have hLt : Hid (∀ W, Calls Try.prog 79 #[.string p] W fun e w' => e = .returned (.int .i64 (M.numL p.data.toList : Int)) ∧ w' = W) := fun W => lettersIn p W (by omega)
      by_cases hnum : M.numL p.data.toList = zss.length
      · have hnum' := Lib.hid (hnum.trans hn.out)
        rw [hnum'.out] at hLt
        obtain ⟨hok, hlen, hyes⟩ := fill_facts hr.out hpt hnum
        have hFt : Hid (∀ W, Below w.heap.size w W → Calls Try.prog 80 #[.string p, .slice A n c] W fun e w' => e = .returned (.string (M.bs (M.fillT p.data.toList (zss.map txt)))) ∧ Hid (Below W.heap.size W w')) := fun W hb =>
          filledText p A zss n c W hp6 hn hcn hcu hnum' (Lib.hid (anyBad_no hr.out)) (Lib.hid (h.out.be hb))
        by_cases h48 : 48 < (M.fillT p.data.toList (zss.map txt)).length
        · rw [F_Fill_long hr.out hpt hnum h48]
          have hT48 : (48 : Int) < ((M.bs (M.fillT p.data.toList (zss.map txt))).size : Int) := by rw [M.bs_size]; omega
          clear hyes hok hlen hnum hpt hr hz h h48
          generalize M.bs (M.fillT p.data.toList (zss.map txt)) = T at *
          go_enter Try.func37, Try.ntmps37
          go_wp2_with fail
          rw [HW.out]
          refine hCo.out.mono ?_
          rintro e w1 ⟨rfl, hb1⟩
          have hres1 := Lib.hid ((hb1.block w.heap.size (lt_of_block hR.out)).trans hR.out)
          have hB1 := Lib.hid (btr hBW.out hb1)
          clear hb1 hCo
          go_wp2_with fail
          refine (hPt.out _).mono ?_
          rintro e w2 ⟨rfl, hb2⟩
          have hres2 := Lib.hid ((hb2.out.block w.heap.size (lt_of_block hres1.out)).trans hres1.out)
          have hB2 := Lib.hid (btr hB1.out hb2.out)
          clear hb2 hres1 hB1
          go_wp2_with fail
          refine (hLt.out _).mono ?_
          rintro e w' ⟨rfl, hw⟩
          subst hw
          go_wp2_with fail
          refine (hFt.out _ hB2.out).mono ?_
          rintro e w3 ⟨rfl, hb3⟩
          have hres3 := (hb3.out.block w.heap.size (lt_of_block hres2.out)).trans hres2.out
          have hr2 := cell_of_one hres3
          have hf2 := free_of_one hres3
          have hB3 := Lib.hid (btr hB2.out hb3.out)
          clear hb3 hFt
          go_wp2
          have e1 := (Boxed.set (.slice none 0 0) hres3).cell
          refine bodyPost_ret (v := .tuple #[.agg #[.slice none 0 0], .int .i64 3]) (by simp [results, Try.results37, go_sem, e1]) rfl ?_
          exact ⟨none, 0, rfl, own64_nil _ _, below_setCell hB3.out (Nat.le_refl _) _⟩
        · rw [F_Fill_yes hr.out hpt hnum h48]
          obtain ⟨hy1, hy2, hy3⟩ := hyes h48
          have hT48 : ¬ (48 : Int) < ((M.bs (M.fillT p.data.toList (zss.map txt))).size : Int) := by rw [M.bs_size]; omega
          have hPr : Hid (∀ W, Calls Try.prog 72 #[.string (M.bs (M.fillT p.data.toList (zss.map txt)))] W fun e w' => ∃ A' c', e = .returned (.tuple #[.agg #[.slice A' (treeAt (M.fillT p.data.toList (zss.map txt))).length c'], .int .i64 (M.parse (M.toI (M.fillT p.data.toList (zss.map txt)))).2]) ∧ Own64 w' W.heap.size (.slice A' (treeAt (M.fillT p.data.toList (zss.map txt))).length c') (treeAt (M.fillT p.data.toList (zss.map txt))) ∧ Below W.heap.size W w') := fun W => impl_ParseTree (M.bs (M.fillT p.data.toList (zss.map txt))) W (by rw [M.bs_size]; omega)
          rw [hy1] at hPr
          clear hok hlen hnum hpt hr hz h h48 hy1 hyes
          generalize M.bs (M.fillT p.data.toList (zss.map txt)) = T at *
          generalize treeAt (M.fillT p.data.toList (zss.map txt)) = Z at *
          go_enter Try.func37, Try.ntmps37
          go_wp2_with fail
          rw [HW.out]
          refine hCo.out.mono ?_
          rintro e w1 ⟨rfl, hb1⟩
          have hres1 := Lib.hid ((hb1.block w.heap.size (lt_of_block hR.out)).trans hR.out)
          have hB1 := Lib.hid (btr hBW.out hb1)
          clear hb1 hCo
          go_wp2_with fail
          refine (hPt.out _).mono ?_
          rintro e w2 ⟨rfl, hb2⟩
          have hres2 := Lib.hid ((hb2.out.block w.heap.size (lt_of_block hres1.out)).trans hres1.out)
          have hB2 := Lib.hid (btr hB1.out hb2.out)
          clear hb2 hres1 hB1
          go_wp2_with fail
          refine (hLt.out _).mono ?_
          rintro e w' ⟨rfl, hw⟩
          subst hw
          go_wp2_with fail
          refine (hFt.out _ hB2.out).mono ?_
          rintro e w3 ⟨rfl, hb3⟩
          have hres3 := Lib.hid ((hb3.out.block w.heap.size (lt_of_block hres2.out)).trans hres2.out)
          have hB3 := Lib.hid (btr hB2.out hb3.out)
          clear hb3 hFt hres2 hB2
          go_wp2_with fail
          refine (hPr.out _).mono ?_
          rintro e w4 ⟨A4, c4, rfl, ho4, hb4⟩
          have hres4 := (hb4.block w.heap.size (lt_of_block hres3.out)).trans hres3.out
          have hr2 := cell_of_one hres4
          have hf2 := free_of_one hres4
          have hB4 := Lib.hid (btr hB3.out hb4)
          have Ho4 := Lib.hid ho4
          have hlt4 := lt_of_block hres3.out
          have hle3 := hB3.out.size
          clear hb4 ho4 hPr
          go_wp2
          have e1 := (Boxed.set (.slice A4 Z.length c4) hres4).cell
          refine bodyPost_ret (v := .tuple #[.agg #[.slice A4 Z.length c4], .int .i64 0]) (by simp [results, Try.results37, go_sem, e1]) rfl ?_
          exact ⟨A4, c4, rfl, own_mono (own_far Ho4.out hlt4 _) hle3, below_setCell hB4.out (Nat.le_refl _) _⟩
      · rw [F_Fill_num hr.out hpt hnum]
        rw [hn.out] at hnum
        generalize M.numL p.data.toList = m at *
        have hne : ((m : Int) != (n : Int)) = true := bne_iff_ne.2 (by omega)
        clear hpt hr hz h hnum
        go_enter Try.func37, Try.ntmps37
        go_wp2_with fail
        rw [HW.out]
        refine hCo.out.mono ?_
        rintro e w1 ⟨rfl, hb1⟩
        have hres1 := Lib.hid ((hb1.block w.heap.size (lt_of_block hR.out)).trans hR.out)
        have hB1 := Lib.hid (btr hBW.out hb1)
        clear hb1 hCo
        go_wp2_with fail
        refine (hPt.out _).mono ?_
        rintro e w2 ⟨rfl, hb2⟩
        have hres2 := (hb2.out.block w.heap.size (lt_of_block hres1.out)).trans hres1.out
        have hr2 := cell_of_one hres2
        have hf2 := free_of_one hres2
        have hB2 := Lib.hid (btr hB1.out hb2.out)
        clear hb2 hres1 hB1
        go_wp2_with fail
        refine (hLt.out _).mono ?_
        rintro e w' ⟨rfl, hw⟩
        subst hw
        go_wp2
        have e1 := (Boxed.set (.slice none 0 0) hres2).cell
        refine bodyPost_ret (v := .tuple #[.agg #[.slice none 0 0], .int .i64 2]) (by simp [results, Try.results37, go_sem, e1]) rfl ?_
        exact ⟨none, 0, rfl, own64_nil _ _, below_setCell hB2.out (Nat.le_refl _) _⟩
  · subst hb
    rw [F_Fill_bad hr.out]
    clear hr hz h hPt
    go_enter Try.func37, Try.ntmps37
    go_wp2_with fail
    rw [HW.out]
    refine hCo.out.mono ?_
    rintro e w1 ⟨rfl, hb1⟩
    have hres1 := (hb1.block w.heap.size (lt_of_block hR.out)).trans hR.out
    have hr2 := cell_of_one hres1
    have hf2 := free_of_one hres1
    have hB1 := Lib.hid (btr hBW.out hb1)
    clear hb1 hCo
    go_wp2
    have e1 := (Boxed.set (.slice none 0 0) hres1).cell
    refine bodyPost_ret (v := .tuple #[.agg #[.slice none 0 0], .int .i64 1]) (by simp [results, Try.results37, go_sem, e1]) rfl ?_
    exact ⟨none, 0, rfl, own64_nil _ _, below_setCell hB1.out (Nat.le_refl _) _⟩

set_option maxRecDepth 100000 in
set_option maxHeartbeats 4000000 in
theorem spec_FillPattern : GivesFill 35 F_FillPattern := by
  intro p A zss n c w hn hn' hcn hcu hp hz h
  obtain ⟨W, hW⟩ : ∃ W, w.alloc (.cells #[.slice none 0 0] 29) = W := ⟨_, rfl⟩
  have hWs : W.heap.size = w.heap.size + 1 := by rw [← hW]; simp
  have hR : Hid (W.heap[w.heap.size]? = some (.cells #[.slice none 0 0] 29 (0, 0))) := by rw [← hW]; exact World.alloc_heap_new w _
  have hBW : Hid (Below w.heap.size w W) := by rw [← hW]; exact bal (b0 w) _
  have hPt : Hid (∀ W, Calls Try.prog 56 #[.string p] W fun e w' => e = .returned (.bool (M.isPat p.data.toList)) ∧ Hid (Below W.heap.size W w')) := fun W => l04Is p W hp
  have HW := Lib.hid hW
  clear hW
  go_enter Try.func35, Try.ntmps35
  go_wp2
  rw [HW.out]
  go_loopw [6] (fun i wr => ∃ (k : Nat), k ≤ n ∧ i = .int .i64 (k : Int) ∧ Hid (anyBad (zss.take k) = false) ∧ Hid (wr.heap[w.heap.size]? = some (.cells #[.slice none 0 0] 29 (0, 0))) ∧ Hid (Below w.heap.size w wr)) (fun i _ => n - (intOf i).toNat)
  case atStart => exact ⟨0, Nat.zero_le _, rfl, by simp [Hid, anyBad], hR, hBW⟩
  case round =>
    obtain ⟨k, hk, rfl, hg, hres, hb⟩ := hrel
    clear hR hBW HW
    have hzr := lt_of_block hres.out
    by_cases hlt : k < n
    · have hki : (k : Int) < (n : Int) := by omega
      have hk0 : (0 : Int) ≤ (k : Int) := by omega
      have hkz : k < zss.length := by rw [hn.out]; exact hlt
      have hat : zss[k]? = some zss[k] := List.getElem?_eq_getElem hkz
      have hzk := hz.out _ (List.mem_of_getElem? hat)
      generalize zss[k] = zs at hat hzk
      obtain ⟨b, rfl, hbl, hc⟩ := h.out (by omega)
      obtain ⟨A1, c1, _, _, h1, h2⟩ := hc k zs hat
      have hcl : wr.cell? ⟨b, k, none⟩ = some (.slice A1 zs.length c1) := (hb.out.cell (p := ⟨b, k, none⟩) hbl).trans h1
      have HIs := Lib.hid (specIs A1 zs c1 wr (by omega) (h2.be hb.out))
      have Hat := Lib.hid hat
      clear hc h1 h2 hat hbl hkz
      cases ht : M.isTree zs
      · rw [ht] at HIs
        have hF := Lib.hid (F_Fill_bad (p := p) (anyBad_hit Hat.out ht))
        clear ht
        go_wp2_with fail
        refine HIs.out.mono ?_
        rintro e w7 ⟨rfl, hb7⟩
        have hres7 := (hb7.block w.heap.size hzr).trans hres.out
        have hr2 := cell_of_one hres7
        have hf2 := free_of_one hres7
        have hB := Lib.hid (btr hb.out hb7)
        clear hb7 hcl
        go_wp2
        have e1 := (Boxed.set (.slice none 0 0) hres7).cell
        refine bodyPost_ret (v := .tuple #[.agg #[.slice none 0 0], .int .i64 1]) (by simp [results, Try.results35, go_sem, e1]) rfl ?_
        rw [hF.out]
        exact ⟨none, 0, rfl, own64_nil _ _, below_setCell hB.out (Nat.le_refl _) _⟩
      · rw [ht] at HIs
        have hg2 := Lib.hid (anyBad_take Hat.out ht hg.out)
        clear ht
        go_wp2_with fail
        refine HIs.out.mono ?_
        rintro e w7 ⟨rfl, hb7⟩
        have hres7 := Lib.hid ((hb7.block w.heap.size hzr).trans hres.out)
        have hB := Lib.hid (btr hb.out hb7)
        clear hb7 hcl hres hb HIs hg
        go_wp2
        go_roundw
        case rel => exact ⟨k + 1, by omega, by go_num, hg2, hres7, hB⟩
        case measure => simp [intOf]; omega
    · obtain rfl : k = n := by omega
      have hge : ¬ (k : Int) < (k : Int) := by omega
      have hgood : Hid (anyBad zss = false) := by
        have := hg.out
        rwa [List.take_of_length_le (by rw [hn.out]; exact Nat.le_refl _)] at this
      clear hg
      cases hpt : M.isPat p.data.toList
      · have hF := Lib.hid (F_Fill_pat hgood.out hpt)
        rw [hpt] at hPt
        clear hpt h hz
        go_wp2_with fail
        refine (hPt.out _).mono ?_
        rintro e w7 ⟨rfl, hb7⟩
        have hres7 := (hb7.out.block w.heap.size hzr).trans hres.out
        have hr2 := cell_of_one hres7
        have hf2 := free_of_one hres7
        have hB := Lib.hid (btr hb.out hb7.out)
        clear hb7
        go_wp2
        have e1 := (Boxed.set (.slice none 0 0) hres7).cell
        refine bodyPost_ret (v := .tuple #[.agg #[.slice none 0 0], .int .i64 6]) (by simp [results, Try.results35, go_sem, e1]) rfl ?_
        rw [hF.out]
        exact ⟨none, 0, rfl, own64_nil _ _, below_setCell hB.out (Nat.le_refl _) _⟩
      · rw [hpt] at hPt
        have hp6 := pat_60 hpt
        have hok := M.piece_ok (M.isPat_iff.1 hpt).2.1
        have hLt : Hid (∀ W, Calls Try.prog 74 #[.string p] W fun e w' => e = .returned (.int .i64 (M.numL p.data.toList : Int)) ∧ Hid (Below W.heap.size W w')) := fun W => l04Letters p W (by omega) (Lib.hid hok)
        by_cases hnum : M.numL p.data.toList = zss.length
        · obtain ⟨_, hlen, hyes⟩ := fill_facts hgood.out hpt hnum
          have hnum' := Lib.hid (hnum.trans hn.out)
          have hbad := Lib.hid (anyBad_no hgood.out)
          have hk60 : k ≤ 60 := by have h1 := hnum'.out; have h2 : M.numL p.data.toList ≤ p.data.toList.length := M.nL_le _; have h3 := Lib.size_eq p; omega
          have hF48 := Lib.hid (fun h48 => F_Fill_long hgood.out hpt hnum h48)
          have hFy := Lib.hid (fun h48 => F_Fill_yes hgood.out hpt hnum h48)
          have hyes' := Lib.hid hyes
          have hFill : Hid (∀ A c W, Hid (OwnS W 0 (.slice A k c) ((zss.map txt).map M.bs)) → Calls Try.prog 75 #[.string p, .slice A k c] W fun e w' => e = .returned (.string (M.bs (M.fillT p.data.toList (zss.map txt)))) ∧ Hid (Below W.heap.size W w')) := fun A c W ho =>
            l04Fill p A (zss.map txt) k c W hp6 (Lib.hid hok) (by show _ = _; rw [List.length_map]; exact hn.out) hnum' (Lib.hid fun Y hY => by
              obtain ⟨zs, hz', rfl⟩ := List.mem_map.1 hY
              rw [txt_len (hbad.out zs hz')]
              have := (M.tree_len (hbad.out zs hz')).2
              omega) ho
          rw [hnum'.out] at hLt
          clear hpt hnum hyes hok hgood
          go_wp2_with fail
          refine (hPt.out _).mono ?_
          rintro e w2 ⟨rfl, hb2⟩
          have hres2 := Lib.hid ((hb2.out.block w.heap.size hzr).trans hres.out)
          have hB2 := Lib.hid (btr hb.out hb2.out)
          clear hb2 hres hb
          go_wp2_with fail
          refine (hLt.out _).mono ?_
          rintro e w3 ⟨rfl, hb3⟩
          have hres3 := Lib.hid ((hb3.out.block w.heap.size (lt_of_block hres2.out)).trans hres2.out)
          have hB3 := Lib.hid (btr hB2.out hb3.out)
          have ho3 := Lib.hid (ownS_empty (w := w3) (B := w3.heap.size) (Nat.le_refl _))
          have hres3' : Hid ((w3.alloc (.cells #[] 9)).heap[w.heap.size]? = some (.cells #[.slice none 0 0] 29 (0, 0))) := (Below.heap_alloc _ _ _ (lt_of_block hres3.out)).trans hres3.out
          have hB3' := Lib.hid (bal hB3.out (.cells #[] 9))
          have hz3 := lt_of_block hres3.out
          have hw3 := hB3.out.size
          clear hb3 hres2 hB2 hLt hPt
          go_wp2
          go_loopw [7, 8] (fun q i wr => ∃ (j : Nat) (A' : Option Addr) (c' : Nat), j ≤ k ∧ i = .int .i64 (j : Int) ∧ q = .slice A' j c' ∧ Hid (OwnS wr w3.heap.size (.slice A' j c') (((zss.take j).map txt).map M.bs)) ∧ Hid (wr.heap[w.heap.size]? = some (.cells #[.slice none 0 0] 29 (0, 0))) ∧ Hid (Below w.heap.size w wr) ∧ w3.heap.size ≤ wr.heap.size) (fun _ i _ => k - (intOf i).toNat)
          case atStart => exact ⟨0, _, 0, Nat.zero_le _, rfl, rfl, ho3, hres3', hB3', by simp⟩
          case round =>
            obtain ⟨j, A', c', hj, rfl, rfl, ho, hres, hb, hle⟩ := hrel
            clear ho3 hres3' hB3'
            have hzr := lt_of_block hres.out
            by_cases hlt : j < k
            · have hki : (j : Int) < (k : Int) := by omega
              have hk0 : (0 : Int) ≤ (j : Int) := by omega
              have hkz : j < zss.length := by rw [hn.out]; exact hlt
              have hat : zss[j]? = some zss[j] := List.getElem?_eq_getElem hkz
              have htj := hbad.out _ (List.mem_of_getElem? hat)
              have htk : Hid (((zss.take (j + 1)).map txt).map M.bs = ((zss.take j).map txt).map M.bs ++ [M.textL 24 zss[j]]) := by
                show _ = _
                rw [List.take_add_one, hat]
                simp only [Option.toList_some, List.map_append, List.map_cons, List.map_nil]
                rfl
              generalize zss[j] = zs at hat htj htk
              obtain ⟨b, rfl, hbl, hc⟩ := h.out (by omega)
              obtain ⟨A1, c1, h3, _, h1, h2⟩ := hc j zs hat
              have hcl : wr.cell? ⟨b, j, none⟩ = some (.slice A1 zs.length c1) := (hb.out.cell (p := ⟨b, j, none⟩) hbl).trans h1
              have hTx := Lib.hid (l01Text 24 A1 zs c1 wr (Lib.hid htj) (M.tree_len htj).2 h3 (Lib.hid (h2.be hb.out)))
              have hj6 : j ≤ 1000000 := by omega
              clear hc h1 h2 hat hbl hkz htj h3
              generalize M.textL 24 zs = T at *
              go_wp2_with fail
              refine hTx.out.mono ?_
              rintro e w7 ⟨rfl, hb7⟩
              have ho7 := Lib.hid (ownS_be ho.out hb7.out)
              have hres7 := Lib.hid ((hb7.out.block w.heap.size hzr).trans hres.out)
              have hB7 := Lib.hid (btr hb.out hb7.out)
              have hle7 : w3.heap.size ≤ w7.heap.size := Nat.le_trans hle hb7.out.size
              clear hb7 hres hb ho hTx hcl
              go_wp2_with (at_builtin; refine pushS rfl (.tmp 44) (.tmp 50) rfl _ w3.heap.size A' j c' (((zss.take j).map txt).map M.bs) T rfl rfl ho7 hle7 hj6 ?_; intro A2 c2 w8 ho8 hb8)
              rw [← htk.out] at ho8
              have hres8 : Hid (w8.heap[w.heap.size]? = some (.cells #[.slice none 0 0] 29 (0, 0))) := (hb8.out.block w.heap.size hz3).trans hres7.out
              have hB8 : Hid (Below w.heap.size w w8) := hB7.out.trans (hb8.out.mono hw3)
              have hle8 : w3.heap.size ≤ w8.heap.size := Nat.le_trans hle7 hb8.out.size
              clear hb8 hres7 hB7 ho7
              go_roundw
              case rel => exact ⟨j + 1, A2, c2, by omega, by go_num, rfl, ho8, hres8, hB8, hle8⟩
              case measure => simp [intOf]; omega
            · obtain rfl : j = k := by omega
              have hge : ¬ (j : Int) < (j : Int) := by omega
              have ho0 : Hid (OwnS wr 0 (.slice A' j c') ((zss.map txt).map M.bs)) := by
                have := own_mono (base' := 0) ho.out (Nat.zero_le _)
                rwa [List.take_of_length_le (by rw [hn.out]; exact Nat.le_refl _)] at this
              have HF := Lib.hid (hFill.out A' c' wr ho0)
              clear ho ho0 hFill h hz
              generalize M.fillT p.data.toList (zss.map txt) = T at *
              by_cases h48 : 48 < T.length
              · have hF := Lib.hid (hF48.out h48)
                have hT48 : (48 : Int) < ((M.bs T).size : Int) := by rw [M.bs_size]; omega
                clear hF48 hFy hyes' h48
                generalize M.bs T = S at *
                go_wp2_with fail
                refine HF.out.mono ?_
                rintro e w7 ⟨rfl, hb7⟩
                have hres7 := (hb7.out.block w.heap.size hzr).trans hres.out
                have hr2 := cell_of_one hres7
                have hf2 := free_of_one hres7
                have hB := Lib.hid (btr hb.out hb7.out)
                clear hb7
                go_wp2
                have e1 := (Boxed.set (.slice none 0 0) hres7).cell
                refine bodyPost_ret (v := .tuple #[.agg #[.slice none 0 0], .int .i64 3]) (by simp [results, Try.results35, go_sem, e1]) rfl ?_
                rw [hF.out]
                exact ⟨none, 0, rfl, own64_nil _ _, below_setCell hB.out (Nat.le_refl _) _⟩
              · have hF := Lib.hid (hFy.out h48)
                obtain ⟨hy1, hy2, hy3⟩ := hyes'.out h48
                have hT48 : ¬ (48 : Int) < ((M.bs T).size : Int) := by rw [M.bs_size]; omega
                have hPr : Hid (∀ W, Calls Try.prog 68 #[.string (M.bs T)] W fun e w' => ∃ A' c', e = .returned (.tuple #[.agg #[.slice A' (treeAt T).length c'], .bool ((M.parse (M.toI T)).2 == 0)]) ∧ Own64 w' W.heap.size (.slice A' (treeAt T).length c') (treeAt T) ∧ Below W.heap.size W w') := fun W => spec_Read (M.bs T) W (by rw [M.bs_size]; omega)
                rw [hy1] at hPr
                clear hF48 hFy hyes' h48 hy1
                generalize M.bs T = S at *
                generalize treeAt T = Z at *
                go_wp2_with fail
                refine HF.out.mono ?_
                rintro e w7 ⟨rfl, hb7⟩
                have hres7 := Lib.hid ((hb7.out.block w.heap.size hzr).trans hres.out)
                have hB7 := Lib.hid (btr hb.out hb7.out)
                clear hb7 hres hb HF
                go_wp2_with fail
                refine (hPr.out _).mono ?_
                rintro e w8 ⟨A8, c8, rfl, ho8, hb8⟩
                have hz8 := lt_of_block hres7.out
                have hz9 := hB7.out.size
                have hres8 : (w8.alloc (.cells #[.slice A8 Z.length c8] 29)).heap[w.heap.size]? = some (.cells #[.slice none 0 0] 29 (0, 0)) := (Below.heap_alloc _ _ _ (Nat.lt_of_lt_of_le hz8 hb8.size)).trans ((hb8.block w.heap.size hz8).trans hres7.out)
                have hr2 := cell_of_one hres8
                have hf2 := free_of_one hres8
                have hB8 := Lib.hid (bal (btr hB7.out hb8) (.cells #[.slice A8 Z.length c8] 29))
                have Ho8 := Lib.hid (ho8.alloc (.cells #[.slice A8 Z.length c8] 29))
                clear hb8 ho8 hPr
                go_wp2
                have e1 := (Boxed.set (.slice A8 Z.length c8) hres8).cell
                refine bodyPost_ret (v := .tuple #[.agg #[.slice A8 Z.length c8], .int .i64 0]) (by simp [results, Try.results35, go_sem, e1]) rfl ?_
                rw [hF.out]
                exact ⟨A8, c8, rfl, own_mono (own_far Ho8.out hz8 _) hz9, below_setCell hB8.out (Nat.le_refl _) _⟩
        · have hF := Lib.hid (F_Fill_num hgood.out hpt hnum)
          rw [hn.out] at hnum
          generalize M.numL p.data.toList = m at *
          have hne : ((m : Int) != (k : Int)) = true := bne_iff_ne.2 (by omega)
          clear hpt h hz hnum hok
          go_wp2_with fail
          refine (hPt.out _).mono ?_
          rintro e w7 ⟨rfl, hb7⟩
          have hres7 := Lib.hid ((hb7.out.block w.heap.size hzr).trans hres.out)
          have hB7 := Lib.hid (btr hb.out hb7.out)
          clear hb7
          go_wp2_with fail
          refine (hLt.out _).mono ?_
          rintro e w8 ⟨rfl, hb8⟩
          have hres8 := (hb8.out.block w.heap.size (lt_of_block hres7.out)).trans hres7.out
          have hr2 := cell_of_one hres8
          have hf2 := free_of_one hres8
          have hB := Lib.hid (btr hB7.out hb8.out)
          clear hb8
          go_wp2
          have e1 := (Boxed.set (.slice none 0 0) hres8).cell
          refine bodyPost_ret (v := .tuple #[.agg #[.slice none 0 0], .int .i64 2]) (by simp [results, Try.results35, go_sem, e1]) rfl ?_
          rw [hF.out]
          exact ⟨none, 0, rfl, own64_nil _ _, below_setCell hB.out (Nat.le_refl _) _⟩
end Go.Proofs.Ytmhpobgfgimfcaa
