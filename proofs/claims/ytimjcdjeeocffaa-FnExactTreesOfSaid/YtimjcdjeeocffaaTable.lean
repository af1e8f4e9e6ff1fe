/- l02Table: the model's numbers of lists of trees, row by row. -/
import Derived.Test.YtimjcdjeeocffaaGrid
import Derived.Test.YtimjcdjeeocffaaTab
namespace Go.Proofs.Ytimjcdjeeocffaa
open Go.RowKit

namespace M
/-- row l: the numbers of lists of o trees with l nodes, o from 0 to n, and a 0 -/
def rowF (n l : Nat) : List Int := (List.range (n + 2)).map fun o => if o ≤ n then (L l o : Int) else 0
theorem rowF_len (n l : Nat) : (rowF n l).length = n + 2 := by simp [rowF]
theorem rowF_at {n l o : Nat} (h : o ≤ n) : (rowF n l)[o]? = some (L l o : Int) := by
  simp only [rowF, List.getElem?_map]
  rw [List.getElem?_range (by omega)]
  simp only [Option.map_some]
  rw [if_pos h]
theorem rowF_none {n : Nat} : (List.replicate (n + 2) (0 : Int)).set 0 1 = rowF n 0 := by
  apply List.ext_getElem?
  intro j
  rcases Nat.lt_or_ge j (n + 2) with hj | hj
  · simp only [rowF, List.getElem?_map]
    rw [List.getElem?_range hj]
    simp only [Option.map_some]
    rcases Nat.eq_zero_or_pos j with h0 | h0
    · subst h0
      rw [List.getElem?_set_self (by simp), if_pos (by omega)]; rfl
    · have e : L 0 j = 0 := by rw [L_base (.inl h0), if_neg (by omega)]
      rw [List.getElem?_set_ne (by omega), List.getElem?_replicate, if_pos hj, e]
      split <;> rfl
  · rw [List.getElem?_eq_none (by simp; omega), List.getElem?_eq_none (by rw [rowF_len]; omega)]
/-- the entries of row l that are told when q open places are done, from l downwards -/
def rowP (n l q : Nat) : List Int := (List.range (n + 2)).map fun o => if l + 2 ≤ o + q ∧ o ≤ n then (L l o : Int) else 0
theorem rowP_len (n l q : Nat) : (rowP n l q).length = n + 2 := by simp [rowP]
theorem rowP_start {n l : Nat} : rowP n l 0 = List.replicate (n + 2) 0 := by
  apply List.ext_getElem?
  intro j
  simp only [rowP, List.getElem?_map, List.getElem?_replicate]
  rcases Nat.lt_or_ge j (n + 2) with hj | hj
  · rw [List.getElem?_range hj, if_pos hj]
    simp only [Option.map_some]
    split
    · rw [L_base (.inl (by omega)), if_neg (by omega)]; rfl
    · rfl
  · rw [List.getElem?_eq_none (by simp; omega), if_neg (by omega)]; rfl
theorem rowP_end {n l : Nat} (hl : 0 < l) : rowP n l (l + 1) = rowF n l := by
  apply List.ext_getElem?
  intro j
  simp only [rowP, rowF, List.getElem?_map]
  rcases Nat.lt_or_ge j (n + 2) with hj | hj
  · rw [List.getElem?_range hj]
    simp only [Option.map_some]
    congr 1
    by_cases h0 : j = 0
    · subst h0
      rw [if_neg (by omega), if_pos (by omega), L_base (.inr rfl), if_neg (by omega)]; rfl
    · by_cases h1 : j ≤ n
      · rw [if_pos (by omega), if_pos h1]
      · rw [if_neg (by omega), if_neg h1]
  · rw [List.getElem?_eq_none (by simp; omega)]; rfl
theorem rowP_skip {n l q : Nat} (hq : q ≤ l) (h : n < l - q + 1) : rowP n l (q + 1) = rowP n l q := by
  apply List.ext_getElem?
  intro j
  simp only [rowP, List.getElem?_map]
  rcases Nat.lt_or_ge j (n + 2) with hj | hj
  · rw [List.getElem?_range hj]
    simp only [Option.map_some]
    congr 1
    by_cases h1 : l + 2 ≤ j + q ∧ j ≤ n
    · rw [if_pos h1, if_pos (by omega)]
    · rw [if_neg h1, if_neg (by omega)]
  · rw [List.getElem?_eq_none (by simp; omega)]; rfl
theorem rowP_set {n l q : Nat} (hq : q ≤ l) (h : l - q + 1 ≤ n) : (rowP n l q).set (l - q + 1) (L l (l - q + 1) : Int) = rowP n l (q + 1) := by
  apply List.ext_getElem?
  intro j
  rcases Nat.lt_or_ge j (n + 2) with hj | hj
  · by_cases hjd : l - q + 1 = j
    · subst hjd
      rw [List.getElem?_set_self (by rw [rowP_len]; exact hj)]
      simp only [rowP, List.getElem?_map]
      rw [List.getElem?_range hj]
      simp only [Option.map_some]
      rw [if_pos (by omega)]
    · rw [List.getElem?_set_ne hjd]
      simp only [rowP, List.getElem?_map]
      rw [List.getElem?_range hj]
      simp only [Option.map_some]
      congr 1
      by_cases h1 : l + 2 ≤ j + q ∧ j ≤ n
      · rw [if_pos h1, if_pos (by omega)]
      · rw [if_neg h1, if_neg (by omega)]
  · rw [List.getElem?_eq_none (by simp [rowP_len]; omega), List.getElem?_eq_none (by rw [rowP_len]; omega)]
/-- the sum over open places from l downwards -/
def suf (l q : Nat) : Nat := sumTo (fun x => L (l - 1) (l - x)) q
theorem suf_L {l q : Nat} (hl : l ≤ 24) (h0 : 0 < l) (hq : q ≤ l) : suf l (q + 1) = L l (l - q + 1) := by
  have : ((List.range 25).all fun l => decide (l = 0) || (List.range (l + 1)).all fun q => sumTo (fun x => entL (l - 1) (l - x)) (q + 1) == entL l (l - q + 1)) = true := by decide +kernel
  have h1 := List.all_eq_true.1 this l (List.mem_range.2 (by omega))
  have h2 : decide (l = 0) = false := by simp; omega
  rw [h2] at h1
  have h3 := List.all_eq_true.1 h1 q (List.mem_range.2 (by omega))
  have h4 : sumTo (fun x => entL (l - 1) (l - x)) (q + 1) = entL l (l - q + 1) := by simpa using h3
  rw [entL_eq l (by omega) _ (by omega)] at h4
  rw [← h4]
  exact sumTo_congr fun x hx => (entL_eq (l - 1) (by omega) (l - x) (by omega)).symm
end M

theorem own64_made_set1 {w : World} {B n : Nat} (hB : B ≤ w.heap.size) (hn : n ≤ maxLen) (x : Int) :
    Own64 (w.alloc (.cells ((madeCells #[.int .i64 0] n).setIfInBounds 0 (.int .i64 x)) 2)) B (.slice (some ⟨w.heap.size, 0, none⟩) n n) ((List.replicate n 0).set 0 x) := by
  have h := World.ownsRow_lit (e := 2) (size := 1) w ((madeCells #[.int .i64 0] n).setIfInBounds 0 (.int .i64 x)) n hB hn (by simp [size_madeCells])
  rw [Array.toList_setIfInBounds, toList_madeCells_one] at h
  simpa [Own64, List.map_set] using h

set_option maxHeartbeats 4000000 in
set_option maxRecDepth 100000 in
theorem l02Table (n : Nat) (w : World) (hn : n ≤ 24) :
    Calls Try.prog 193 #[.int .i64 (n : Int)] w fun e w' => ∃ A' c', e = .returned (.slice A' (n + 1) c') ∧ Hid (Grid w' w.heap.size (.slice A' (n + 1) c') (n + 2) (M.rowF n) (n + 1)) ∧ Hid (Below w.heap.size w w') := by
  have hmk := run_make_row' (P := Try.prog) 22 2 (.int .i64 0) 8 Try.underlying22 info64 rfl .i64 .i64 (n + 2) (by omega) (by omega)
  have ecast : ((n + 2 : Nat) : Int) = (n : Int) + 2 := by omega
  rw [ecast] at hmk
  have Hmk := Lib.hid hmk
  have hst : Hid (Grid (w.alloc (.cells #[] 22)) w.heap.size (.slice (some ⟨w.heap.size, 0, none⟩) 0 0) (n + 2) (M.rowF n) 0) := grid_empty (Nat.le_refl _) _ _
  have hb0 : Hid (Below w.heap.size w (w.alloc (.cells #[] 22))) := bal (b0 w) _
  clear ecast hmk
  go_enter Try.func193, Try.ntmps193
  go_wp2
  go_loopw [3, 4, 5, 6, 7] (fun q i _ _ _ wr => ∃ (l : Nat) (A' : Option Addr) (c' : Nat), l ≤ n + 1 ∧ i = .int .i64 (l : Int) ∧ q = .slice A' l c' ∧ Hid (Grid wr w.heap.size (.slice A' l c') (n + 2) (M.rowF n) l) ∧ Hid (Below w.heap.size w wr)) (fun _ i _ _ _ _ => 40 - (intOf i).toNat)
  case atStart => exact ⟨0, _, 0, Nat.zero_le _, rfl, rfl, hst, hb0⟩
  case round =>
    obtain ⟨l, A', c', hl, rfl, rfl, hG, hbr⟩ := hrel
    clear hst hb0
    have zr := hbr.out.size
    by_cases hlt : l ≤ n
    · have hlt2 : (l : Int) ≤ (n : Int) := by omega
      have hmk := Hmk.out
      obtain ⟨wo, rfl⟩ : ∃ wo : World, wo = wr := ⟨_, rfl⟩
      have hrow0 : Hid (Own64 (wo.alloc (.cells (madeCells #[.int .i64 0] (n + 2)) 2)) wo.heap.size (rowV (n + 2) wo.heap.size) (List.replicate (n + 2) 0)) := own64_made (w := wo) (B := wo.heap.size) (n := n + 2) (Nat.le_refl _) (by unfold maxLen; omega)
      have hbo : Hid (Below wo.heap.size wo (wo.alloc (.cells (madeCells #[.int .i64 0] (n + 2)) 2))) := bal (b0 wo) _
      have hne : Hid ((Value.slice A' l c').ownBlock ≠ some wo.heap.size) := fun e => by
        obtain ⟨gs, _, h2, _⟩ := hG.out
        have := (h2.lt _ e).2
        omega
      rcases Nat.eq_zero_or_pos l with h0 | h0
      · subst h0
        have hm0 : (madeCells #[Value.int .i64 0] (n + 2))[0]? = some (.int .i64 0) := by rw [← Array.getElem?_toList, toList_madeCells_one, List.getElem?_replicate, if_pos (by omega)]
        have hrow : Hid (Own64 (wo.alloc (.cells ((madeCells #[.int .i64 0] (n + 2)).setIfInBounds 0 (.int .i64 1)) 2)) w.heap.size (rowV (n + 2) wo.heap.size) (M.rowF n 0)) := by
          rw [← M.rowF_none]
          exact own_mono (own64_made_set1 (w := wo) (B := wo.heap.size) (n := n + 2) (Nat.le_refl _) (by unfold maxLen; omega) 1) zr
        have hG1 : Hid (Grid (wo.alloc (.cells ((madeCells #[.int .i64 0] (n + 2)).setIfInBounds 0 (.int .i64 1)) 2)) w.heap.size (.slice A' 0 c') (n + 2) (M.rowF n) 0) := hG.out.be (bal (b0 wo) _)
        have hb1 : Hid (Below w.heap.size w (wo.alloc (.cells ((madeCells #[.int .i64 0] (n + 2)).setIfInBounds 0 (.int .i64 1)) 2))) := bal hbr.out _
        have hzB : w.heap.size ≤ (wo.alloc (.cells ((madeCells #[.int .i64 0] (n + 2)).setIfInBounds 0 (.int .i64 1)) 2)).heap.size := Nat.le_trans zr (by simp)
        clear hG hrow0 hbo
        go_wp2_with (at_builtin; refine pushRow rfl (.tmp 45) (.tmp 47) rfl (wo.alloc (.cells ((madeCells #[.int .i64 0] (n + 2)).setIfInBounds 0 (.int .i64 1)) 2)) w.heap.size A' 0 c' (n + 2) (M.rowF n) wo.heap.size rfl (by simp [go_sem]) hG1 hrow (M.rowF_len _ _) hne hzB (by omega) ?_; intro A2 c2 w2 ho2 hb2)
        go_roundw
        case rel => exact ⟨1, A2, c2, by omega, by go_num, rfl, ho2, hb1.out.trans hb2.out⟩
        case measure => simp [intOf]
      · have hq0 : ((l : Int) == 0) = false := by simp; omega
        have hrow : Hid (Own64 (wo.alloc (.cells (madeCells #[.int .i64 0] (n + 2)) 2)) wo.heap.size (rowV (n + 2) wo.heap.size) (M.rowP n l 0)) := by rw [M.rowP_start]; exact hrow0.out
        obtain ⟨hlk, G, rfl⟩ := hG.out.shape1 h0
        clear hrow0
        go_wp2
        clear hmk
        go_loopw [6, 7] (fun s6 s7 wr => ∃ (q y : Nat) (x : Int), q ≤ l + 1 ∧ s7 = .int .i64 x ∧ x = (l : Int) - (q : Int) ∧ s6 = .int .i64 (y : Int) ∧ Hid (M.suf l q = y) ∧ Hid (Own64 wr wo.heap.size (rowV (n + 2) wo.heap.size) (M.rowP n l q)) ∧ Hid (Below wo.heap.size wo wr)) (fun _ s7 _ => (intOf s7 + 1).toNat)
        case atStart => exact ⟨0, 0, l, Nat.zero_le _, rfl, by omega, rfl, rfl, hrow, hbo⟩
        case round =>
          obtain ⟨q, y, x, hq, rfl, hx, rfl, hy, hro, hbi⟩ := hrel
          clear hrow hbo
          by_cases hql : q ≤ l
          · obtain ⟨o, ho⟩ : ∃ o, Hid (l - q = o) := ⟨_, rfl⟩
            have hoo := ho.out
            obtain rfl : x = (o : Int) := by omega
            obtain ⟨d, hd⟩ : ∃ d, Hid (l - 1 = d) := ⟨_, rfl⟩
            have hdo := hd.out
            have hld : (l : Int) - 1 = (d : Int) := by omega
            have hGi := hG.out.be hbi.out
            obtain ⟨g', k1, k2⟩ := hGi.at_ (l := d) (by omega)
            have k3 := k2 o _ (M.rowF_at (n := n) (l := d) (by omega))
            have hsl := M.suf_L (l := l) (q := q) (by omega) h0 hql
            have hs1 : Hid (M.suf l (q + 1) = y + M.L d o) := by show _ = _; rw [M.suf, M.sumTo, hd.out, ho.out]; rw [← hy.out]; simp only [M.suf, hd.out]
            have hLs := M.L_small (n := l) (t := l - q + 1) (by omega)
            rw [← hsl, hs1.out] at hLs
            have hs2 : Hid (M.L l (l - q + 1) = y + M.L d o) := hsl.symm.trans hs1.out
            generalize M.L d o = z at *
            have hx0 : (0 : Int) ≤ (o : Int) := by omega
            have hdl : (d : Int) < (l : Int) := by omega
            have hon : (o : Int) < (n : Int) + 2 := by omega
            clear k2 hGi hsl hx
            by_cases hon2 : o + 1 ≤ n
            · have hon3 : (o : Int) + 1 ≤ (n : Int) := by omega
              have hon4 : (o : Int) + 1 < (n : Int) + 2 := by omega
              obtain ⟨u, hu⟩ : ∃ u, (M.rowP n l q)[o + 1]? = some u := ⟨_, List.getElem?_eq_getElem (by rw [M.rowP_len]; omega)⟩
              obtain ⟨c1, c2, _, _⟩ := own64_cell hro.out (M.rowP_len _ _ _) hu
              have hset := own64_set hro.out (M.rowP_len _ _ _) (o + 1) ((y : Int) + (z : Int))
              have hrs := M.rowP_set (n := n) (l := l) (q := q) hql (by omega)
              rw [hs2.out, ho.out, Int.natCast_add] at hrs
              rw [hrs] at hset
              have hset := Lib.hid hset
              have hbs := Lib.hid (below_setCell (k := o + 1) hbi.out (Nat.le_refl _) (.int .i64 ((y : Int) + (z : Int))))
              clear hu hrs hro hbi hdo hoo
              go_wp2
              go_roundw
              case rel => exact ⟨q + 1, y + z, (o : Int) - 1, by omega, rfl, by have := ho.out; omega, by go_num, hs1, hset, hbs⟩
              case measure => simp [intOf]
            · have hon3 : ¬ (o : Int) + 1 ≤ (n : Int) := by omega
              have hrs : Hid (Own64 wr wo.heap.size (rowV (n + 2) wo.heap.size) (M.rowP n l (q + 1))) := by rw [M.rowP_skip hql (by omega)]; exact hro.out
              clear hro hdo hoo
              go_wp2
              go_roundw
              case rel => exact ⟨q + 1, y + z, (o : Int) - 1, by omega, rfl, by have := ho.out; omega, by go_num, hs1, hrs, hbi⟩
              case measure => simp [intOf]
          · obtain rfl : q = l + 1 := by omega
            obtain rfl : x = -1 := by omega
            have hrowF : Hid (Own64 wr w.heap.size (rowV (n + 2) wo.heap.size) (M.rowF n l)) := by rw [← M.rowP_end h0]; exact own_mono hro.out zr
            have hG1 : Hid (Grid wr w.heap.size (.slice (some ⟨G, 0, none⟩) l c') (n + 2) (M.rowF n) l) := hG.out.be hbi.out
            have hb1 := Lib.hid (btr hbr.out hbi.out)
            have hzB := hb1.out.size
            clear hx
            go_wp2_with (at_builtin; refine pushRow rfl (.tmp 45) (.tmp 47) rfl wr w.heap.size (some ⟨G, 0, none⟩) l c' (n + 2) (M.rowF n) wo.heap.size rfl rfl hG1 hrowF (M.rowF_len _ _) hne hzB (by omega) ?_; intro A2 c2 w2 ho2 hb2)
            go_roundw
            case rel => exact ⟨l + 1, A2, c2, by omega, by go_num, rfl, ho2, hb1.out.trans hb2.out⟩
            case measure => simp [intOf]; omega
    · obtain rfl : l = n + 1 := by omega
      have hge : ¬ ((n + 1 : Nat) : Int) ≤ (n : Int) := by omega
      go_wp2
      go_ret
      exact ⟨A', c', rfl, hG, hbr⟩
end Go.Proofs.Ytimjcdjeeocffaa
