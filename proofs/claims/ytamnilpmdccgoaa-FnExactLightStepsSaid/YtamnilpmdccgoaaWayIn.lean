/- wayIn and l05Way: the nodes on the way between two nodes; distanceIn. -/
import Derived.Test.YtamnilpmdccgoaaRev
import Derived.Test.YtamnilpmdccgoaaWay
import Derived.Test.YtamnilpmdccgoaaConcat
import Derived.Test.YtamnilpmdccgoaaFnMeetOf
import Derived.Deep.RegionHeld3
import Derived.Deep.DeepCutAuto
namespace Go.Proofs.Ytamnilpmdccgoaa
open Go.RowKit

namespace M
theorem climb_acc {xs ps : List Int} (ht : isTree xs = true) (hp : ParsOK xs ps) {v m a : Nat} {acc : List Int} (hv : v < xs.length) (hm : bel xs v m = true) (h : Climb xs ps v m a acc) : acc.length ≤ 23 := by
  have h1 := climb_len ht hp hv hm
  have h2 := (tree_len ht).2
  have h3 := congrArg List.length h.2.2.2
  rw [List.length_append] at h3
  omega
def threeOf (l : List Int) (m : Int) (r : List Int) (j : Nat) : List Int := if j = 0 then l else if j = 1 then [m] else r
theorem threeOf_cat (l : List Int) (m : Int) (r : List Int) : catTo (threeOf l m r) 3 = l ++ [m] ++ r := by simp [catTo, threeOf]
end M

theorem two_grown {w w' : World} {B n c : Nat} {A : Option Addr} {v1 : Value} {xs ys zs : List Int} (h : Two w B v1 (.slice A n c) xs ys) (ho : Own64 w' B (.slice A n c) zs) (hg : w.grownBy w' (Value.slice A n c).ownBlock) : Two w' B v1 (.slice A n c) xs zs := by
  refine ⟨h.1.kept hg ?_, ho, h.2.2⟩
  cases hv : v1.ownBlock with
  | none => exact .inl rfl
  | some k => exact .inr fun e => h.2.2 k hv e.symm

set_option maxHeartbeats 4000000 in
set_option maxRecDepth 100000 in
theorem wayIn (A : Option Addr) (xs ps : List Int) (c v u : Nat) (w : World) (ht : Hid (M.isTree xs = true)) (hp : Hid (M.ParsOK xs ps)) (hvl : v < xs.length) (hul : u < xs.length) (h : Hid (Ints w w.heap.size A ps)) :
    Calls Try.prog 84 #[.slice A xs.length c, .int .i64 v, .int .i64 u] w fun e w' => ∃ A' c', e = .returned (.slice A' (M.way xs v u).length c') ∧ Own64 w' w.heap.size (.slice A' (M.way xs v u).length c') (M.way xs v u) ∧ Below w.heap.size w w' := by
  have hlen := (M.tree_len ht.out).2
  obtain ⟨m, hm⟩ : ∃ m, Hid (M.meet xs v u = m) := ⟨_, rfl⟩
  have hmb := M.meet_bel ht.out hvl hul
  rw [hm.out] at hmb
  have hbv := Lib.hid hmb.1
  have hbu := Lib.hid hmb.2
  have hst1 := Lib.hid (M.climb_start (ps := ps) hvl hbv.out)
  have hst2 := Lib.hid (M.climb_start (ps := ps) hul hbu.out)
  have hT0 : Hid (Two w w.heap.size (.slice none 0 0) (.slice none 0 0) [] []) := ⟨own64_nil _ _, own64_nil _ _, fun b h => by cases h⟩
  clear hmb
  go_enter Try.func84, Try.ntmps84
  go_wp2
  go_loopw [1, 2, 7, 8] (fun qv qu q1 q2 wr => ∃ (a b n1 c1 n2 c2 : Nat) (l r : List Int) (A1 A2 : Option Addr), a < xs.length ∧ b < xs.length ∧ qv = .int .i64 a ∧ qu = .int .i64 b ∧ q1 = .slice A1 n1 c1 ∧ q2 = .slice A2 n2 c2 ∧ Hid (M.Climb xs ps v m a l) ∧ Hid (M.Climb xs ps u m b r) ∧ Hid (Two wr w.heap.size (.slice A1 n1 c1) (.slice A2 n2 c2) l r) ∧ Hid (Below w.heap.size w wr)) (fun qv qu _ _ _ => (intOf qv).toNat + (intOf qu).toNat)
  case atStart => exact ⟨v, u, 0, 0, 0, 0, [], [], none, none, hvl, hul, rfl, rfl, rfl, rfl, hst1, hst2, hT0, b0 w⟩
  case round =>
    obtain ⟨a, b, n1, c1, n2, c2, l, r, A1, A2, hal, hbl, rfl, rfl, rfl, rfl, hl, hr, hT, hbr⟩ := hrel
    clear hst1 hst2 hT0
    have hn1 : n1 ≤ 23 := by rw [hT.out.shape.1]; exact M.climb_acc ht.out hp.out hvl hbv.out hl.out
    have hn2 : n2 ≤ 23 := by rw [hT.out.symm.shape.1]; exact M.climb_acc ht.out hp.out hul hbu.out hr.out
    rcases Nat.lt_trichotomy a b with hab | hab | hab
    · have hmlt : m < b := by have := hm.out; subst this; exact M.climb_right hl.out hr.out hab
      obtain ⟨p, hp1, hp2, hp3⟩ := M.climb_step ht.out hp.out hbu.out hr.out hmlt
      have hq1 : ((a : Int) != (b : Int)) = true := by simp; omega
      have hq2 : ¬ (b : Int) < (a : Int) := by omega
      have Hp3 := Lib.hid hp3
      obtain ⟨pb, off, rfl, hpb, hpc⟩ := h.out.below hbr.out (Nat.le_refl _) (by have := (List.getElem?_eq_some_iff.1 hp1).1; omega)
      have gp := hpc b _ hp1
      have zr := hbr.out.size
      have hT2 := Lib.hid hT.out.symm
      clear hpc hp1 hp3 hr hT hab
      go_wp2_with (at_builtin; refine pushTwo rfl (.tmp 23) (.tmp 25) rfl wr w.heap.size A2 n2 c2 (.slice A1 n1 c1) r l (b : Int) rfl wr.heap.size rfl rfl hT2 zr (by omega) ?_; intro A4 c4 w4 ht4 hb4; have gp4 := (hb4.out.cell (p := ⟨pb, off + b, none⟩) (by omega)).trans gp)
      have hbr4 : Hid (Below w.heap.size w w4) := hbr.out.trans hb4.out
      have hT4 := Lib.hid ht4.out.symm
      clear hT2 ht4
      go_roundw
      case rel => exact ⟨a, p, n1, c1, n2 + 1, c4, l, r ++ [(b : Int)], A1, A4, hal, by omega, rfl, rfl, rfl, rfl, hl, Hp3, hT4, hbr4⟩
      case measure => simp [intOf]; omega
    · subst hab
      have hma := M.climb_meet (xs := xs) (ps := ps) (v := v) (w := u) (a := a) (l := l) (r := r) (by rw [hm.out]; exact hl.out) (by rw [hm.out]; exact hr.out)
      rw [hm.out] at hma
      subst hma
      have hq1 : ((a : Int) != (a : Int)) = false := by simp
      have hway := Lib.hid (M.way_mk ht.out hp.out hm.out hl.out hr.out)
      have hll : l.length ≤ 23 := M.climb_acc ht.out hp.out hvl hbv.out hl.out
      have hrl : r.length ≤ 23 := M.climb_acc ht.out hp.out hul hbu.out hr.out
      have zr := hbr.out.size
      have e1 := Lib.hid hT.out.shape.1
      have e2 := Lib.hid hT.out.symm.shape.1
      have HT := hT
      clear hl hr hT h
      go_wp2_with fail
      refine (slicesReverse A2 n2 c2 w.heap.size r wr (Lib.hid e2.out.symm) (by omega) (Lib.hid HT.out.2.1)).mono ?_
      rintro e w1 ⟨⟨uu, rfl⟩, ho1, hg1⟩
      have hT1 := Lib.hid (two_grown HT.out ho1.out hg1.out)
      have hB1 : Hid (Below w.heap.size w w1) := hbr.out.grown hg1.out zr (fun k hk => (HT.out.2.1.lt k hk).1)
      have z1 := hB1.out.size
      clear HT ho1 hg1 hbr
      have hP : Hid (Parts ((w1.alloc (.cells #[.int .i64 (a : Int)] 2)).alloc (.cells #[.slice A1 n1 c1, .slice (some ⟨w1.heap.size, 0, none⟩) 1 1, .slice A2 n2 c2] 22)) (w1.heap.size + 1) 3 (M.threeOf l a r.reverse)) := by
        have i1 := ints_of_own64 hT1.out.1
        have i2 := ints_of_own64 hT1.out.2.1
        intro j hj
        match j, hj with
        | 0, _ => exact ⟨A1, c1, (by show _ = some (Value.slice A1 l.length c1); rw [← e1.out]; simp [go_sem]), (i1.al _).al _, own64_z hT1.out.1⟩
        | 1, _ => exact ⟨some ⟨w1.heap.size, 0, none⟩, 1, (by show _ = some (Value.slice _ 1 1); simp [go_sem]), (by have := (ints_new w1 #[.int .i64 (a : Int)] [(a : Int)] rfl).al (.cells #[.slice A1 n1 c1, .slice (some ⟨w1.heap.size, 0, none⟩) 1 1, .slice A2 n2 c2] 22); simpa [M.threeOf] using this), fun e => by cases e⟩
        | 2, _ => exact ⟨A2, c2, (by show _ = some (Value.slice A2 r.reverse.length c2); rw [List.length_reverse, ← e2.out]; simp [go_sem]), (by have := (i2.al (.cells #[.int .i64 (a : Int)] 2)).al (.cells #[.slice A1 n1 c1, .slice (some ⟨w1.heap.size, 0, none⟩) 1 1, .slice A2 n2 c2] 22); simpa [M.threeOf] using this), own64_z hT1.out.2.1⟩
      have hX : Hid (∀ j, j < 3 → (M.threeOf l a r.reverse j).length ≤ 24) := fun j _ => by
        simp only [M.threeOf]
        split
        · omega
        · split
          · simp
          · rw [List.length_reverse]; omega
      have hcat : Hid (M.catTo (M.threeOf l a r.reverse) 3 = M.way xs v u) := by show _ = _; rw [M.threeOf_cat]; exact hway.out
      have hB3 := Lib.hid (bal (bal hB1.out (.cells #[.int .i64 (a : Int)] 2)) (.cells #[.slice A1 n1 c1, .slice (some ⟨w1.heap.size, 0, none⟩) 1 1, .slice A2 n2 c2] 22))
      clear hway e1 e2 hT1 hll hrl
      go_wp2_with fail
      have HC := concat (w1.heap.size + 1) 3 (M.threeOf l a r.reverse) _ (by omega) hX (by simp) hP
      rw [hcat.out] at HC
      refine HC.mono ?_
      rintro e w5 ⟨A5, c5, n5, rfl, ho5, hb5⟩
      have e5 := own64_len ho5
      subst e5
      have hB5 := Lib.hid (btr hB3.out hb5)
      have Ho5 := Lib.hid (own_mono (base' := w.heap.size) ho5 (by simp; omega))
      clear HC ho5 hb5 hP hX hcat
      go_wp2
      go_ret
      exact ⟨A5, c5, rfl, Ho5.out, hB5.out⟩
    · have hmlt : m < a := by have := hm.out; subst this; exact M.climb_left hl.out hr.out hab
      obtain ⟨p, hp1, hp2, hp3⟩ := M.climb_step ht.out hp.out hbv.out hl.out hmlt
      have hq1 : ((a : Int) != (b : Int)) = true := by simp; omega
      have hq2 : (b : Int) < (a : Int) := by omega
      have Hp3 := Lib.hid hp3
      obtain ⟨pb, off, rfl, hpb, hpc⟩ := h.out.below hbr.out (Nat.le_refl _) (by have := (List.getElem?_eq_some_iff.1 hp1).1; omega)
      have gp := hpc a _ hp1
      have zr := hbr.out.size
      clear hpc hp1 hp3 hl hab
      go_wp2_with (at_builtin; refine pushTwo rfl (.tmp 15) (.tmp 17) rfl wr w.heap.size A1 n1 c1 (.slice A2 n2 c2) l r (a : Int) rfl wr.heap.size rfl rfl hT zr (by omega) ?_; intro A4 c4 w4 ht4 hb4; have gp4 := (hb4.out.cell (p := ⟨pb, off + a, none⟩) (by omega)).trans gp)
      have hbr4 : Hid (Below w.heap.size w w4) := hbr.out.trans hb4.out
      clear hT
      go_roundw
      case rel => exact ⟨p, b, n1 + 1, c4, n2, c2, l ++ [(a : Int)], r, A4, A2, by omega, hbl, rfl, rfl, rfl, rfl, Hp3, hr, ht4, hbr4⟩
      case measure => simp [intOf]; omega

end Go.Proofs.Ytamnilpmdccgoaa
