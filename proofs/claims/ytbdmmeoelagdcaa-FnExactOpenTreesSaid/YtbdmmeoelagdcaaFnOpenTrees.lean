/- OpenTrees, the program's and the model's. -/
import Derived.Test.YtbdmmeoelagdcaaFnMatchesAt
import Derived.Test.YtbdmmeoelagdcaaTreeAt
import Derived.Test.YtbdmmeoelagdcaaTreesArg
import Derived.Test.YtbdmmeoelagdcaaFnParseSpec
import Derived.Test.YtbdmmeoelagdcaaFnTreeText
namespace Go.Proofs.Ytbdmmeoelagdcaa
open Go.RowKit

theorem open_facts {P : List UInt8} {xs : List Int} {v : Nat} {ts : List (List UInt8)} (ht : M.isTree xs = true) (hv : v < xs.length) (h : atNode P xs v = some ts) :
    ts.length ≤ P.length ∧ ∀ Y ∈ ts, (M.parse (M.toI Y)).2 = 0 ∧ treeAt Y ≠ [] ∧ (treeAt Y).length ≤ 48 ∧ Y.length ≤ 48 := by
  have hst := M.sub_tree ht hv
  have hs24 := (M.tree_len hst).2
  have hsz := M.textL_size 24 _ hst hs24
  obtain ⟨h1, h2⟩ := M.mt_pieces _ _ _ h
  refine ⟨h1, fun Y hY => ?_⟩
  obtain ⟨h3, h4, h5⟩ := h2 Y hY
  rw [← Lib.size_eq, hsz] at h4
  have h6 : Y.length ≤ 48 := by omega
  obtain ⟨a, b, c⟩ := M.piece_parse (fun c hc => M.text_isB 24 _ hst hs24 c (h5 c hc)) h3 h6
  exact ⟨a, b, c, h6⟩
def openOf (R : Option (List (List UInt8))) : List (List Int) × Int := match R with | none => ([], 4) | some ts => (ts.map treeAt, 0)
def F_OpenTrees (xs : List Int) (v : Int) (p : ByteArray) : List (List Int) × Int := if codeP xs (M.isPat p.data.toList) [v] = 0 then openOf (atNode p.data.toList xs v.toNat) else ([], codeP xs (M.isPat p.data.toList) [v])
theorem F_OpenTrees_yes {xs : List Int} {v : Int} {p : ByteArray} (h : codeP xs (M.isPat p.data.toList) [v] = 0) : F_OpenTrees xs v p = openOf (atNode p.data.toList xs v.toNat) := if_pos h
theorem F_OpenTrees_no {xs : List Int} {v : Int} {p : ByteArray} (h : codeP xs (M.isPat p.data.toList) [v] ≠ 0) : F_OpenTrees xs v p = ([], codeP xs (M.isPat p.data.toList) [v]) := if_neg h
theorem F_OpenTrees_len (xs : List Int) (v : Int) (p : ByteArray) : (F_OpenTrees xs v p).1.length ≤ 8192 ∧ ∀ zs ∈ (F_OpenTrees xs v p).1, zs.length ≤ 48 := by
  by_cases h : codeP xs (M.isPat p.data.toList) [v] = 0
  · rw [F_OpenTrees_yes h]
    obtain ⟨ht, hpt, hcd⟩ := codeP_zero h
    have hn := M.code_node hcd
    have h6 := pat_60 hpt
    rw [Lib.size_eq] at h6
    cases ha : atNode p.data.toList xs v.toNat with
    | none => exact ⟨by simp [openOf], fun zs h => by cases h⟩
    | some ts =>
      obtain ⟨h1, h2⟩ := open_facts ht hn.2.1 ha
      refine ⟨by simp [openOf]; omega, fun zs hz => ?_⟩
      obtain ⟨Y, hY, rfl⟩ := List.mem_map.1 hz
      exact (h2 Y hY).2.2.1
  · rw [F_OpenTrees_no h]
    exact ⟨by simp, fun zs h => by cases h⟩
/-- a tree, a number and a text to a list of trees and a code -/
def GivesTNSW (f : Nat) (F : List Int → Int → ByteArray → List (List Int) × Int) : Prop :=
  ∀ (A : Option Addr) (xs : List Int) (c : Nat) (v : Int) (p : ByteArray) (w : World), xs.length ≤ 1048576 → xs.length ≤ c ∧ c ≤ 1000000000000 → p.size ≤ 1048576 → Ints w w.heap.size A xs →
    Calls Try.prog f #[.agg #[.slice A xs.length c], .int .i64 v, .string p] w fun e w' => ∃ A' c' hs, e = .returned (.tuple #[.slice A' (F xs v p).1.length c', .int .i64 (F xs v p).2]) ∧ Woods w' w.heap.size (.slice A' (F xs v p).1.length c') hs (F xs v p).1 ∧ Below w.heap.size w w'
/-- what a call has laid of texts, to be read -/
theorem texts_read {w : World} {B n c : Nat} {A : Option Addr} {ts : List (List UInt8)} (h : OwnS w B (.slice A n c) (ts.map M.bs)) : n = ts.length ∧ ∀ (k : Nat) (Y : List UInt8), ts[k]? = some Y → ∃ g, A = some ⟨g, 0, none⟩ ∧ w.cell? ⟨g, k, none⟩ = some (.string (M.bs Y)) ∧ g < w.heap.size :=
  ⟨by have := ownS_len h; simpa using this, fun k Y hk => ownS_cell h (by rw [List.getElem?_map, hk]; rfl)⟩
theorem own_head {w : World} {B n c : Nat} {A : Option Addr} {zs : List Int} (h : Own64 w B (.slice A n c) zs) (hz : zs ≠ []) : ∃ g, A = some ⟨g, 0, none⟩ ∧ B ≤ g ∧ g < w.heap.size := by
  rcases h.2 with ⟨e, h0⟩ | ⟨g, cap, cur, hv, _⟩
  · exact absurd (List.eq_nil_of_length_eq_zero h0) hz
  · injection hv with e1
    subst e1
    exact ⟨g, rfl, World.ownsRow.lt h g rfl⟩

set_option maxRecDepth 100000 in
set_option maxHeartbeats 4000000 in
theorem spec_OpenTrees : GivesTNSW 31 F_OpenTrees := by
  intro A xs c v p w hx hcc hp h
  have hC := Lib.hid (l04Code A (some ⟨w.heap.size + 1, 0, none⟩) xs [v] c 1 p ((w.alloc (.cells #[.slice A xs.length c] 29)).alloc (.cells #[.int .i64 v] 2)) (by omega) (by simp) hp ((h.al _).al _) (by have := ints_new (w.alloc (.cells #[.slice A xs.length c] 29)) #[.int .i64 v] [v] rfl; simpa using this))
  simp only [List.length_cons, List.length_nil, Nat.zero_add] at hC
  obtain ⟨r, hr⟩ : ∃ r, Hid (codeP xs (M.isPat p.data.toList) [v] = r) := ⟨_, rfl⟩
  rw [hr.out] at hC
  by_cases h0 : r = 0
  · subst h0
    obtain ⟨ht, hpt, hcd⟩ := codeP_zero hr.out
    have hn := M.code_node hcd
    rw [F_OpenTrees_yes hr.out]
    obtain ⟨n, rfl⟩ := Int.eq_ofNat_of_zero_le hn.1
    have hnl : n < xs.length := by simpa using hn.2.1
    have hT := fun W (hb : Below w.heap.size w W) => Lib.hid (textAtNode A xs c n W (Lib.hid ht) hnl hcc.1 (Lib.hid (h.be hb)))
    have hM : Hid (∀ W, Calls Try.prog 70 #[.string p, .string (M.textL 24 (M.sub xs n))] W fun e w' => ∃ (A : Option Addr) (n' c : Nat), e = .returned (.tuple #[.slice A n' c, .bool (atNode p.data.toList xs n).isSome]) ∧ Hid (Below W.heap.size W w') ∧ Hid (OwnS w' W.heap.size (.slice A n' c) (((atNode p.data.toList xs n).getD []).map M.bs))) := fun W => match_at xs n p W ht hnl hpt
    have hO : Hid (∀ ts, atNode p.data.toList xs n = some ts → ts.length ≤ 60 ∧ ∀ Y ∈ ts, (M.parse (M.toI Y)).2 = 0 ∧ treeAt Y ≠ [] ∧ (treeAt Y).length ≤ 48 ∧ Y.length ≤ 48) := fun ts h => by
      have h1 := open_facts ht hnl h
      have h6 := pat_60 hpt
      rw [Lib.size_eq] at h6
      exact ⟨by omega, h1.2⟩
    simp only [Int.toNat_natCast]
    generalize M.textL 24 (M.sub xs n) = T at *
    generalize atNode p.data.toList xs n = R at *
    clear hr hn hcd ht hpt h
    cases R with
    | none =>
      rw [show openOf none = ([], 4) from rfl]
      clear hO
      go_enter Try.func31, Try.ntmps31
      go_wp2_with fail
      refine hC.out.mono ?_
      rintro e w1 ⟨rfl, hb⟩
      have hB := Lib.hid (btr (bal (bal (b0 w) _) _) hb.out)
      have hcell : w1.cell? ⟨w.heap.size, 0, none⟩ = some (.slice A xs.length c) := cell_be (cell_al (by simp) _) hb.out
      clear hb hC
      go_wp2_with fail
      refine (hT _ hB.out).out.mono ?_
      rintro e w2 ⟨A2, n2, c2, rfl, hb2, hT2⟩
      go_wp2_with fail
      refine (hT2.out _ (b0 _)).mono ?_
      rintro e w3 ⟨rfl, hb3⟩
      go_wp2_with fail
      refine (hM.out _).mono ?_
      rintro e w4 ⟨A4, n4, c4, rfl, hb4, _⟩
      have hB2 := btr hB.out (btr hb2.out (btr hb3.out hb4.out))
      go_wp2
      go_ret2
      exact ⟨none, 0, [], rfl, woods_nil _ _, hB2⟩
    | some ts =>
      obtain ⟨h60, hYs⟩ := hO.out ts rfl
      have hYs' := Lib.hid hYs
      rw [show openOf (some ts) = (ts.map treeAt, 0) from rfl]
      have hlen : Hid ((ts.map treeAt).length = ts.length) := by simp [Hid]
      obtain ⟨N, hN⟩ : ∃ N, Hid (ts.length = N) := ⟨_, rfl⟩
      have h60' : N ≤ 60 := by have := hN.out; omega
      rw [hlen.out, hN.out]
      clear hO hYs h60
      go_enter Try.func31, Try.ntmps31
      go_wp2_with fail
      refine hC.out.mono ?_
      rintro e w1 ⟨rfl, hb⟩
      have hB := Lib.hid (btr (bal (bal (b0 w) _) _) hb.out)
      have hcell : w1.cell? ⟨w.heap.size, 0, none⟩ = some (.slice A xs.length c) := cell_be (cell_al (by simp) _) hb.out
      clear hb hC
      go_wp2_with fail
      refine (hT _ hB.out).out.mono ?_
      rintro e w2 ⟨A2, n2, c2, rfl, hb2, hT2⟩
      go_wp2_with fail
      refine (hT2.out _ (b0 _)).mono ?_
      rintro e w3 ⟨rfl, hb3⟩
      go_wp2_with fail
      refine (hM.out _).mono ?_
      rintro e wm ⟨A4, n4, c4, rfl, hb4, hS⟩
      obtain ⟨hn4, hrd⟩ := texts_read hS.out
      have hn5 : n4 = N := hn4.trans hN.out
      subst hn5
      have hrd' : Hid (∀ (k : Nat) (Y : List UInt8), ts[k]? = some Y → ∃ g, A4 = some ⟨g, 0, none⟩ ∧ wm.cell? ⟨g, k, none⟩ = some (.string (M.bs Y)) ∧ g < wm.heap.size) := hrd
      have hB2 := Lib.hid (btr hB.out (btr hb2.out (btr hb3.out hb4.out)))
      have hst : Hid (Woods (wm.alloc (.cells #[] 29)) wm.heap.size (.slice (some ⟨wm.heap.size, 0, none⟩) 0 0) [] ((ts.map treeAt).take 0)) := woods_empty (Nat.le_refl _)
      have hbm := Lib.hid (bal (b0 wm) (.cells #[] 29))
      clear hb2 hb3 hb4 hT2 hS hrd hM hT hB hcell hn4
      go_wp2
      go_loopw [11, 12] (fun q i wr => ∃ (k : Nat) (A' : Option Addr) (c' : Nat) (hs : List Hdr), k ≤ n4 ∧ i = .int .i64 (k : Int) ∧ q = .slice A' k c' ∧ Hid (Woods wr wm.heap.size (.slice A' k c') hs ((ts.map treeAt).take k)) ∧ Hid (Below wm.heap.size wm wr)) (fun _ i _ => n4 - (intOf i).toNat)
      case atStart => exact ⟨0, _, 0, [], Nat.zero_le _, rfl, rfl, hst, hbm⟩
      case round =>
        obtain ⟨k, A', c', hs, hk, rfl, rfl, hW, hbr⟩ := hrel
        clear hst hbm
        by_cases hlt : k < n4
        · have hki : (k : Int) < (n4 : Int) := by omega
          obtain ⟨Y, hY⟩ : ∃ Y, ts[k]? = some Y := ⟨_, List.getElem?_eq_getElem (by rw [hN.out]; exact hlt)⟩
          obtain ⟨g, hA4, hcl, hgm⟩ := hrd'.out k Y hY
          have hcl' : wr.cell? ⟨g, k, none⟩ = some (.string (M.bs Y)) := (hbr.out.cell (p := ⟨g, k, none⟩) hgm).trans hcl
          obtain ⟨f1, f2, f3, f4⟩ := hYs'.out Y (List.mem_of_getElem? hY)
          have HR : Hid (Calls Try.prog 77 #[.string (M.bs Y)] wr fun e w' => ∃ A' c', e = .returned (.tuple #[.agg #[.slice A' (treeAt Y).length c'], .bool ((M.parse (M.toI Y)).2 == 0)]) ∧ Own64 w' wr.heap.size (.slice A' (treeAt Y).length c') (treeAt Y) ∧ Below wr.heap.size wr w') := spec_Read (M.bs Y) wr (by rw [M.bs_size]; omega)
          have hsc : Hid ((ts.map treeAt).take (k + 1) = (ts.map treeAt).take k ++ [treeAt Y]) := by
            show _ = _
            rw [List.take_add_one, List.getElem?_map, hY]; rfl
          have hzr := hbr.out.size
          subst hA4
          clear hcl hrd' hYs' f1 hY
          generalize treeAt Y = U at *
          generalize M.bs Y = Z at *
          go_wp2_with fail
          refine HR.out.mono ?_
          rintro e w2 ⟨A2, c2, rfl, ho2, hb2⟩
          obtain ⟨g2, rfl, hg2, hg2'⟩ := own_head ho2 f2
          have hW2 : Hid (Woods (w2.alloc (.cells #[.slice (some ⟨g2, 0, none⟩) U.length c2] 29)) wm.heap.size (.slice A' k c') hs ((ts.map treeAt).take k)) := (hW.out.be hb2).alloc _
          have ho2' : Hid (Own64 (w2.alloc (.cells #[.slice (some ⟨g2, 0, none⟩) U.length c2] 29)) wm.heap.size (hdr (g2, U.length, c2)) U) := own_mono (ho2.alloc _) hzr
          have hne : Hid ((Value.slice A' k c').ownBlock ≠ some (g2, U.length, c2).1) := fun e => by have := (World.ownsRow.lt hW.out.row _ e).2; simp only at this; omega
          have hfr : Hid (∀ h' ∈ hs, h'.1 ≠ (g2, U.length, c2).1) := fun h' hh e => by have := (hW.out.lt hh).2; simp only at e; omega
          have hB2' : wm.heap.size ≤ (w2.alloc (.cells #[.slice (some ⟨g2, 0, none⟩) U.length c2] 29)).heap.size := by have := hb2.size; simp; omega
          have hb2' : Hid (Below wm.heap.size wm (w2.alloc (.cells #[.slice (some ⟨g2, 0, none⟩) U.length c2] 29))) := bal (btr hbr.out hb2) _
          clear ho2 hb2 hW hbr HR hg2 hg2' hcl'
          go_wp2_with (at_builtin; refine pushTree rfl (.tmp 49) (.tmp 51) rfl _ wm.heap.size A' k c' hs _ (g2, U.length, c2) U rfl (by simp only [World.size_alloc]; rfl) hW2 ho2' hne hfr hB2' (by omega) ?_; intro A3 c3 w3 hW3 hb3)
          have hb3' : Hid (Below wm.heap.size wm w3) := hb2'.out.trans hb3.out
          rw [← hsc.out] at hW3
          clear hW2 ho2' hne hfr hB2' hb2' hb3
          go_roundw
          case rel => exact ⟨k + 1, A3, c3, _, by omega, by go_num, rfl, hW3, hb3'⟩
          case measure => simp [intOf]; omega
        · obtain rfl : k = n4 := by omega
          have hWz : Hid (Woods wr w.heap.size (.slice A' k c') hs (ts.map treeAt)) := by
            have := hW.out
            rw [List.take_of_length_le (by rw [hlen.out, hN.out]; exact Nat.le_refl _)] at this
            exact this.mono hB2.out.size
          have hBz := Lib.hid (btr hB2.out hbr.out)
          clear hW hbr hrd' hYs'
          go_wp2
          go_ret2
          exact ⟨A', c', hs, rfl, hWz.out, hBz.out⟩
  · rw [F_OpenTrees_no (by rw [hr.out]; exact h0), hr.out]
    have hq : (r != 0) = true := by simp [h0]
    clear hr h0 h
    go_enter Try.func31, Try.ntmps31
    go_wp2_with fail
    refine hC.out.mono ?_
    rintro e w1 ⟨rfl, hb⟩
    have hB := btr (bal (bal (b0 w) _) _) hb.out
    go_wp2
    go_ret2
    exact ⟨none, 0, [], rfl, woods_nil _ _, hB⟩
set_option maxRecDepth 100000 in
set_option maxHeartbeats 4000000 in
theorem impl_OpenTrees : GivesTNSW 32 F_OpenTrees := by
  intro A xs c v p w hx hcc hp h
  have hC := Lib.hid (codeOfMatch A (some ⟨w.heap.size + 1, 0, none⟩) xs [v] c 1 p ((w.alloc (.cells #[.slice A xs.length c] 29)).alloc (.cells #[.int .i64 v] 2)) (by omega) (by simp) hp ((h.al _).al _) (by have := ints_new (w.alloc (.cells #[.slice A xs.length c] 29)) #[.int .i64 v] [v] rfl; simpa using this))
  simp only [List.length_cons, List.length_nil, Nat.zero_add] at hC
  obtain ⟨r, hr⟩ : ∃ r, Hid (codeP xs (M.isPat p.data.toList) [v] = r) := ⟨_, rfl⟩
  rw [hr.out] at hC
  by_cases h0 : r = 0
  · subst h0
    obtain ⟨ht, hpt, hcd⟩ := codeP_zero hr.out
    have hn := M.code_node hcd
    rw [F_OpenTrees_yes hr.out]
    obtain ⟨n, rfl⟩ := Int.eq_ofNat_of_zero_le hn.1
    have hnl : n < xs.length := by simpa using hn.2.1
    have hx24 := (M.tree_len ht).2
    have hp6 := pat_60 hpt
    obtain ⟨b, off, rfl, hbB, _⟩ := h (by omega)
    obtain ⟨E, hE⟩ : ∃ E, Hid (n + M.span 1 (xs.drop n) = E) := ⟨_, rfl⟩
    have hsl : (M.sub xs n).length = E - n := by rw [M.sub_length]; have := hE.out; omega
    have hst := M.sub_tree ht hnl
    have hs24 : (M.sub xs n).length ≤ 24 := (M.tree_len hst).2
    have hse := M.end_le (xs := xs) (v := n) (by omega)
    have hPa : Hid (∀ W, Below w.heap.size w W → Calls Try.prog 80 #[.slice (some ⟨b, off, none⟩) xs.length c, .int .i64 (n : Int)] W fun e w' => e = .returned (.slice (some ⟨b, off + n, none⟩) (E - n) (E - n)) ∧ W = w') := fun W hb => by
      refine (partAt (some ⟨b, off, none⟩) xs c n E W hE hx24 hcc.1 (by omega) (Lib.hid (M.tree_ok ht hnl)) (h.be hb)).mono ?_
      rintro e w1 ⟨⟨b', off', hA, rfl⟩, rfl⟩
      injection hA with hA
      injection hA with e1 e2
      subst e1 e2
      exact ⟨rfl, rfl⟩
    have hTx : Hid (∀ W, Below w.heap.size w W → Calls Try.prog 79 #[.slice (some ⟨b, off + n, none⟩) (E - n) (E - n)] W fun e w' => e = .returned (.string (M.textL 24 (M.sub xs n))) ∧ Hid (Below W.heap.size W w')) := fun W hb => by
      have := textOf (some ⟨b, off + n, none⟩) (M.sub xs n) (E - n) W 24 (Lib.hid hst) hs24 (by omega) (by omega) (Lib.hid (ints_sub (h.be hb) n _))
      rwa [hsl] at this
    have hts : (M.textL 24 (M.sub xs n)).size ≤ 48 := by rw [M.textL_size 24 _ hst hs24]; omega
    have hM : Hid (∀ W, Calls Try.prog 78 #[.string p, .string (M.textL 24 (M.sub xs n))] W fun e w' => ∃ (A : Option Addr) (n' c : Nat), e = .returned (.tuple #[.slice A n' c, .bool (atNode p.data.toList xs n).isSome]) ∧ Hid (Below W.heap.size W w') ∧ Hid (OwnS w' W.heap.size (.slice A n' c) (((atNode p.data.toList xs n).getD []).map M.bs))) := fun W => piecesAtLetters p _ W (by omega) (by omega)
    have hO : Hid (∀ ts, atNode p.data.toList xs n = some ts → ts.length ≤ 60 ∧ ∀ Y ∈ ts, (M.parse (M.toI Y)).2 = 0 ∧ treeAt Y ≠ [] ∧ (treeAt Y).length ≤ 48 ∧ Y.length ≤ 48) := fun ts h => by
      have h1 := open_facts ht hnl h
      have h6 := pat_60 hpt
      rw [Lib.size_eq] at h6
      exact ⟨by omega, h1.2⟩
    simp only [Int.toNat_natCast]
    clear hts hs24 hst hsl
    generalize M.textL 24 (M.sub xs n) = T at *
    generalize atNode p.data.toList xs n = R at *
    clear hr hn hcd ht hpt h
    cases R with
    | none =>
      rw [show openOf none = ([], 4) from rfl]
      clear hO
      go_enter Try.func32, Try.ntmps32
      go_wp2_with fail
      refine hC.out.mono ?_
      rintro e w1 ⟨rfl, hb⟩
      have hB := Lib.hid (btr (bal (bal (b0 w) _) _) hb.out)
      have hcell : w1.cell? ⟨w.heap.size, 0, none⟩ = some (.slice (some ⟨b, off, none⟩) xs.length c) := cell_be (cell_al (by simp) _) hb.out
      clear hb hC
      go_wp2_with fail
      refine (hPa.out _ hB.out).mono ?_
      rintro e w1 ⟨rfl, rfl⟩
      go_wp2_with fail
      refine (hTx.out _ hB.out).mono ?_
      rintro e w3 ⟨rfl, hb3⟩
      go_wp2_with fail
      refine (hM.out _).mono ?_
      rintro e w4 ⟨A4, n4, c4, rfl, hb4, _⟩
      have hB2 := btr hB.out (btr hb3.out hb4.out)
      go_wp2
      go_ret2
      exact ⟨none, 0, [], rfl, woods_nil _ _, hB2⟩
    | some ts =>
      obtain ⟨h60, hYs⟩ := hO.out ts rfl
      have hYs' := Lib.hid hYs
      rw [show openOf (some ts) = (ts.map treeAt, 0) from rfl]
      have hlen : Hid ((ts.map treeAt).length = ts.length) := by simp [Hid]
      obtain ⟨N, hN⟩ : ∃ N, Hid (ts.length = N) := ⟨_, rfl⟩
      have h60' : N ≤ 60 := by have := hN.out; omega
      rw [hlen.out, hN.out]
      clear hO hYs h60
      go_enter Try.func32, Try.ntmps32
      go_wp2_with fail
      refine hC.out.mono ?_
      rintro e w1 ⟨rfl, hb⟩
      have hB := Lib.hid (btr (bal (bal (b0 w) _) _) hb.out)
      have hcell : w1.cell? ⟨w.heap.size, 0, none⟩ = some (.slice (some ⟨b, off, none⟩) xs.length c) := cell_be (cell_al (by simp) _) hb.out
      clear hb hC
      go_wp2_with fail
      refine (hPa.out _ hB.out).mono ?_
      rintro e w1 ⟨rfl, rfl⟩
      go_wp2_with fail
      refine (hTx.out _ hB.out).mono ?_
      rintro e w3 ⟨rfl, hb3⟩
      go_wp2_with fail
      refine (hM.out _).mono ?_
      rintro e wm ⟨A4, n4, c4, rfl, hb4, hS⟩
      obtain ⟨hn4, hrd⟩ := texts_read hS.out
      have hn5 : n4 = N := hn4.trans hN.out
      subst hn5
      have hrd' : Hid (∀ (k : Nat) (Y : List UInt8), ts[k]? = some Y → ∃ g, A4 = some ⟨g, 0, none⟩ ∧ wm.cell? ⟨g, k, none⟩ = some (.string (M.bs Y)) ∧ g < wm.heap.size) := hrd
      have hB2 := Lib.hid (btr hB.out (btr hb3.out hb4.out))
      obtain ⟨i0, hi0, hz0, hz1, hz2⟩ := info_parts infoTree
      have hmk : (Instr.makeSlice 39 (.int .i64 (n4 : Int)) (.int .i64 (n4 : Int))).run Try.prog wm = .ok (.slice (some ⟨wm.heap.size, 0, none⟩) n4 n4) (wm.alloc (.cells (madeCells #[.slice none 0 0] n4) 29)) := by
        have := run_make (P := Try.prog) wm 39 29 i0 (.agg #[.slice none 0 0]) Try.underlying39 hi0 hz0 .i64 .i64 (n4 : Int) (n4 : Int) (by omega) (Int.le_refl _) (by rw [hz2]; omega) (by omega)
        simpa [hz1, Value.cells] using this
      have hst : Hid (WoodsP (wm.alloc (.cells (madeCells #[.slice none 0 0] n4) 29)) wm.heap.size wm.heap.size n4 [] ((ts.map treeAt).take 0)) := Lib.hid (WoodsP.start (w := wm) (n := n4) (by unfold maxLen; omega))
      have hbm := Lib.hid (bal (b0 wm) (.cells (madeCells #[.slice none 0 0] n4) 29))
      clear hb3 hb4 hS hrd hM hTx hPa hB hcell hn4 hi0 hz0 hz1 hz2
      go_wp2
      clear hmk
      go_loopw [39] (fun i wr => ∃ (k : Nat) (hs : List Hdr), k ≤ n4 ∧ i = .int .i64 (k : Int) ∧ Hid (hs.length = k) ∧ Hid (WoodsP wr wm.heap.size wm.heap.size n4 hs ((ts.map treeAt).take k)) ∧ Hid (Below wm.heap.size wm wr)) (fun i _ => n4 - (intOf i).toNat)
      case atStart => exact ⟨0, [], Nat.zero_le _, rfl, rfl, hst, hbm⟩
      case round =>
        obtain ⟨k, hs, hk, rfl, hhs, hP, hbr⟩ := hrel
        clear hst hbm
        by_cases hlt : k < n4
        · have hki : (k : Int) < (n4 : Int) := by omega
          have hk0 : (0 : Int) ≤ (k : Int) := by omega
          obtain ⟨Y, hY⟩ : ∃ Y, ts[k]? = some Y := ⟨_, List.getElem?_eq_getElem (by rw [hN.out]; exact hlt)⟩
          obtain ⟨g, hA4, hcl, hgm⟩ := hrd'.out k Y hY
          have hcl' : wr.cell? ⟨g, k, none⟩ = some (.string (M.bs Y)) := (hbr.out.cell (p := ⟨g, k, none⟩) hgm).trans hcl
          obtain ⟨f1, f2, f3, f4⟩ := hYs'.out Y (List.mem_of_getElem? hY)
          have HR : Hid (Calls Try.prog 81 #[.string (M.bs Y)] wr fun e w' => ∃ A' c', e = .returned (.tuple #[.agg #[.slice A' (treeAt Y).length c'], .int .i64 (M.parse (M.toI Y)).2]) ∧ Own64 w' wr.heap.size (.slice A' (treeAt Y).length c') (treeAt Y) ∧ Below wr.heap.size wr w') := impl_ParseTree (M.bs Y) wr (by rw [M.bs_size]; omega)
          have htk : Hid ((ts.map treeAt).take (k + 1) = (ts.map treeAt).take k ++ [treeAt Y]) := by
            show _ = _
            rw [List.take_add_one, List.getElem?_map, hY]; rfl
          have hzr := hbr.out.size
          have hgw := (World.ownsRow.lt hP.out.row wm.heap.size rfl).2
          subst hA4
          clear hcl hrd' hYs' hY
          generalize treeAt Y = U at *
          generalize M.bs Y = Z at *
          rw [f1] at HR
          clear f1
          go_wp2_with fail
          refine HR.out.mono ?_
          rintro e w7 ⟨A2, c2, rfl, ho2, hb7⟩
          obtain ⟨g2, rfl, hg2, hg2'⟩ := own_head ho2 f2
          have hP7 := Lib.hid (hP.out.be hb7)
          have hB7 := Lib.hid (btr hbr.out hb7)
          have hcs : w7.cell? ⟨wm.heap.size, k, none⟩ = some (.slice none 0 0) := by
            refine (World.ownsRow.cellAt hP7.out.row k (by omega)).trans ?_
            have := hhs.out
            rw [List.getElem?_append_right (by simp; omega)]
            rw [List.getElem?_replicate, if_pos (by simp; omega)]
          have hfs := World.ownsRow.frozenAt hP7.out.row k
          have hstep : Hid (WoodsP (w7.setCell ⟨wm.heap.size, k, none⟩ (.slice (some ⟨g2, 0, none⟩) U.length c2)) wm.heap.size wm.heap.size n4 (hs ++ [(g2, U.length, c2)]) ((ts.map treeAt).take (k + 1))) := by
            have hl := hhs.out
            have := hP7.out.step (h0 := (g2, U.length, c2)) (zs := U) (by omega) (own_mono ho2 hzr) (by show g2 ≠ _; omega) (fun h' hh => by have := hP.out.lt hh; exact ⟨by show h'.1 ≠ g2; omega, rows_ne hP.out hh⟩)
            rw [hl] at this
            rw [htk.out]
            exact this
          have hB8 : Hid (Below wm.heap.size wm (w7.setCell ⟨wm.heap.size, k, none⟩ (.slice (some ⟨g2, 0, none⟩) U.length c2))) := below_setCell hB7.out (Nat.le_refl _) _
          have hhs2 : Hid ((hs ++ [(g2, U.length, c2)]).length = k + 1) := by show _ = _; rw [List.length_append, List.length_singleton, hhs.out]
          clear hP hP7 hb7 ho2 hbr hB7 hcl' hhs HR hg2 hg2'
          go_wp2
          go_roundw
          case rel => exact ⟨k + 1, _, by omega, by go_num, hhs2, hstep, hB8⟩
          case measure => simp [intOf]; omega
        · obtain rfl : k = n4 := by omega
          have hge : ¬ (k : Int) < (k : Int) := by omega
          have hW := Lib.hid (hP.out.stop hhs.out)
          rw [List.take_of_length_le (by rw [hlen.out, hN.out]; exact Nat.le_refl _)] at hW
          have hWz := Lib.hid (hW.out.mono hB2.out.size)
          have hBz := Lib.hid (btr hB2.out hbr.out)
          clear hP hW hbr hrd' hYs'
          go_wp2
          go_ret2
          exact ⟨_, _, rfl, ⟨hs, hWz.out⟩, hBz.out⟩
  · rw [F_OpenTrees_no (by rw [hr.out]; exact h0), hr.out]
    have hq : (r != 0) = true := by simp [h0]
    clear hr h0 h
    go_enter Try.func32, Try.ntmps32
    go_wp2_with fail
    refine hC.out.mono ?_
    rintro e w1 ⟨rfl, hb⟩
    have hB := btr (bal (bal (b0 w) _) _) hb.out
    go_wp2
    go_ret2
    exact ⟨none, 0, [], rfl, woods_nil _ _, hB⟩
end Go.Proofs.Ytbdmmeoelagdcaa
