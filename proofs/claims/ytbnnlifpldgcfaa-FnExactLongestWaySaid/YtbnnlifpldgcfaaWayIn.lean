/- wayIn and l05Way: the nodes on the way between two nodes; distanceIn. -/
import Derived.Test.YtbnnlifpldgcfaaRev
import Derived.Test.YtbnnlifpldgcfaaWay
import Derived.Test.YtbnnlifpldgcfaaConcat
import Derived.Test.YtbnnlifpldgcfaaFnMeetOf
import Derived.Deep.RegionHeld3
import Derived.Deep.DeepCutAuto
namespace Go.Proofs.Ytbnnlifpldgcfaa
open Go.RowKit

namespace M
theorem climb_acc {xs ps : List Int} (ht : isTree xs = true) (hp : ParsOK xs ps) {v m a : Nat} {acc : List Int} (hv : v < xs.length) (hm : bel xs v m = true) (h : Climb xs ps v m a acc) : acc.length ≤ 23 := by
  have h1 := climb_len ht hp hv hm
  have h2 := (tree_len ht).2
  have h3 := congrArg List.length h.2.2.2
  rw [List.length_append] at h3
  omega
def threeOf (l : List Int) (m : Int) (r : List Int) (j : Nat) : List Int := if j = 0 then l else if j = 1 then [m] else r
theorem threeOf_cat (l : List Int) (m : Int) (r : List Int) : catTo (threeOf l m r) 3 = l ++ [m] ++ r := by simp [catTo, threeOf]
end M

theorem two_grown {w w' : World} {B n c : Nat} {A : Option Addr} {v1 : Value} {xs ys zs : List Int} (h : Two w B v1 (.slice A n c) xs ys) (ho : Own64 w' B (.slice A n c) zs) (hg : w.grownBy w' (Value.slice A n c).ownBlock) : Two w' B v1 (.slice A n c) xs zs := by
  refine ⟨h.1.kept hg ?_, ho, h.2.2⟩
  cases hv : v1.ownBlock with
  | none => exact .inl rfl
  | some k => exact .inr fun e => h.2.2 k hv e.symm

set_option maxHeartbeats 4000000 in
set_option maxRecDepth 100000 in
theorem wayIn (A : Option Addr) (xs ps : List Int) (c v u : Nat) (w : World) (ht : Hid (M.isTree xs = true)) (hp : Hid (M.ParsOK xs ps)) (hvl : v < xs.length) (hul : u < xs.length) (h : Hid (Ints w w.heap.size A ps)) :
    Calls Try.prog 62 #[.slice A xs.length c, .int .i64 v, .int .i64 u] w fun e w' => ∃ A' c', e = .returned (.slice A' (M.way xs v u).length c') ∧ Own64 w' w.heap.size (.slice A' (M.way xs v u).length c') (M.way xs v u) ∧ Below w.heap.size w w' := by
  have hlen := (M.tree_len ht.out).2
  obtain ⟨m, hm⟩ : ∃ m, Hid (M.meet xs v u = m) := ⟨_, rfl⟩
  have hmb := M.meet_bel ht.out hvl hul
  rw [hm.out] at hmb
  have hbv := Lib.hid hmb.1
  have hbu := Lib.hid hmb.2
  have hst1 := Lib.hid (M.climb_start (ps := ps) hvl hbv.out)
  have hst2 := Lib.hid (M.climb_start (ps := ps) hul hbu.out)
  have hT0 : Hid (Two w w.heap.size (.slice none 0 0) (.slice none 0 0) [] []) := ⟨own64_nil _ _, own64_nil _ _, fun b h => by cases h⟩
  clear hmb
  go_enter Try.func62, Try.ntmps62
  go_wp2
  go_loopw [1, 2, 7, 8] (fun qv qu q1 q2 wr => ∃ (a b n1 c1 n2 c2 : Nat) (l r : List Int) (A1 A2 : Option Addr), a < xs.length ∧ b < xs.length ∧ qv = .int .i64 a ∧ qu = .int .i64 b ∧ q1 = .slice A1 n1 c1 ∧ q2 = .slice A2 n2 c2 ∧ Hid (M.Climb xs ps v m a l) ∧ Hid (M.Climb xs ps u m b r) ∧ Hid (Two wr w.heap.size (.slice A1 n1 c1) (.slice A2 n2 c2) l r) ∧ Hid (Below w.heap.size w wr)) (fun qv qu _ _ _ => (intOf qv).toNat + (intOf qu).toNat)
  case atStart => exact ⟨v, u, 0, 0, 0, 0, [], [], none, none, hvl, hul, rfl, rfl, rfl, rfl, hst1, hst2, hT0, b0 w⟩
  case round =>
    obtain ⟨a, b, n1, c1, n2, c2, l, r, A1, A2, hal, hbl, rfl, rfl, rfl, rfl, hl, hr, hT, hbr⟩ := hrel
    clear hst1 hst2 hT0
    have hn1 : n1 ≤ 23 := by rw [hT.out.shape.1]; exact M.climb_acc ht.out hp.out hvl hbv.out hl.out
    have hn2 : n2 ≤ 23 := by rw [hT.out.symm.shape.1]; exact M.climb_acc ht.out hp.out hul hbu.out hr.out
    rcases Nat.lt_trichotomy a b with hab | hab | hab
    · have hmlt : m < b := by have := hm.out; subst this; exact M.climb_right hl.out hr.out hab
      obtain ⟨p, hp1, hp2, hp3⟩ := M.climb_step ht.out hp.out hbu.out hr.out hmlt
      have hq1 : ((a : Int) != (b : Int)) = true := by simp; omega
      have hq2 : ¬ (b : Int) < (a : Int) := by omega
      have Hp3 := Lib.hid hp3
      obtain ⟨pb, off, rfl, hpb, hpc⟩ := h.out.below hbr.out (Nat.le_refl _) (by have := (List.getElem?_eq_some_iff.1 hp1).1; omega)
      have gp := hpc b _ hp1
      have zr := hbr.out.size
      have hT2 := Lib.hid hT.out.symm
      clear hpc hp1 hp3 hr hT hab
      go_wp2_with (at_builtin; refine pushTwo rfl (.tmp 23) (.tmp 25) rfl wr w.heap.size A2 n2 c2 (.slice A1 n1 c1) r l (b : Int) rfl wr.heap.size rfl rfl hT2 zr (by omega) ?_; intro A4 c4 w4 ht4 hb4; have gp4 := (hb4.out.cell (p := ⟨pb, off + b, none⟩) (by omega)).trans gp)
      have hbr4 : Hid (Below w.heap.size w w4) := hbr.out.trans hb4.out
      have hT4 := Lib.hid ht4.out.symm
      clear hT2 ht4
      go_roundw
      case rel => exact ⟨a, p, n1, c1, n2 + 1, c4, l, r ++ [(b : Int)], A1, A4, hal, by omega, rfl, rfl, rfl, rfl, hl, Hp3, hT4, hbr4⟩
      case measure => simp [intOf]; omega
    · subst hab
      have hma := M.climb_meet (xs := xs) (ps := ps) (v := v) (w := u) (a := a) (l := l) (r := r) (by rw [hm.out]; exact hl.out) (by rw [hm.out]; exact hr.out)
      rw [hm.out] at hma
      subst hma
      have hq1 : ((a : Int) != (a : Int)) = false := by simp
      have hway := Lib.hid (M.way_mk ht.out hp.out hm.out hl.out hr.out)
      have hll : l.length ≤ 23 := M.climb_acc ht.out hp.out hvl hbv.out hl.out
      have hrl : r.length ≤ 23 := M.climb_acc ht.out hp.out hul hbu.out hr.out
      have zr := hbr.out.size
      have e1 := Lib.hid hT.out.shape.1
      have e2 := Lib.hid hT.out.symm.shape.1
      have HT := hT
      clear hl hr hT h
      go_wp2_with fail
      refine (slicesReverse A2 n2 c2 w.heap.size r wr (Lib.hid e2.out.symm) (by omega) (Lib.hid HT.out.2.1)).mono ?_
      rintro e w1 ⟨⟨uu, rfl⟩, ho1, hg1⟩
      have hT1 := Lib.hid (two_grown HT.out ho1.out hg1.out)
      have hB1 : Hid (Below w.heap.size w w1) := hbr.out.grown hg1.out zr (fun k hk => (HT.out.2.1.lt k hk).1)
      have z1 := hB1.out.size
      clear HT ho1 hg1 hbr
      have hP : Hid (Parts ((w1.alloc (.cells #[.int .i64 (a : Int)] 2)).alloc (.cells #[.slice A1 n1 c1, .slice (some ⟨w1.heap.size, 0, none⟩) 1 1, .slice A2 n2 c2] 22)) (w1.heap.size + 1) 3 (M.threeOf l a r.reverse)) := by
        have i1 := ints_of_own64 hT1.out.1
        have i2 := ints_of_own64 hT1.out.2.1
        intro j hj
        match j, hj with
        | 0, _ => exact ⟨A1, c1, (by show _ = some (Value.slice A1 l.length c1); rw [← e1.out]; simp [go_sem]), (i1.al _).al _, own64_z hT1.out.1⟩
        | 1, _ => exact ⟨some ⟨w1.heap.size, 0, none⟩, 1, (by show _ = some (Value.slice _ 1 1); simp [go_sem]), (by have := (ints_new w1 #[.int .i64 (a : Int)] [(a : Int)] rfl).al (.cells #[.slice A1 n1 c1, .slice (some ⟨w1.heap.size, 0, none⟩) 1 1, .slice A2 n2 c2] 22); simpa [M.threeOf] using this), fun e => by cases e⟩
        | 2, _ => exact ⟨A2, c2, (by show _ = some (Value.slice A2 r.reverse.length c2); rw [List.length_reverse, ← e2.out]; simp [go_sem]), (by have := (i2.al (.cells #[.int .i64 (a : Int)] 2)).al (.cells #[.slice A1 n1 c1, .slice (some ⟨w1.heap.size, 0, none⟩) 1 1, .slice A2 n2 c2] 22); simpa [M.threeOf] using this), own64_z hT1.out.2.1⟩
      have hX : Hid (∀ j, j < 3 → (M.threeOf l a r.reverse j).length ≤ 24) := fun j _ => by
        simp only [M.threeOf]
        split
        · omega
        · split
          · simp
          · rw [List.length_reverse]; omega
      have hcat : Hid (M.catTo (M.threeOf l a r.reverse) 3 = M.way xs v u) := by show _ = _; rw [M.threeOf_cat]; exact hway.out
      have hB3 := Lib.hid (bal (bal hB1.out (.cells #[.int .i64 (a : Int)] 2)) (.cells #[.slice A1 n1 c1, .slice (some ⟨w1.heap.size, 0, none⟩) 1 1, .slice A2 n2 c2] 22))
      clear hway e1 e2 hT1 hll hrl
      go_wp2_with fail
      have HC := concat (w1.heap.size + 1) 3 (M.threeOf l a r.reverse) _ (by omega) hX (by simp) hP
      rw [hcat.out] at HC
      refine HC.mono ?_
      rintro e w5 ⟨A5, c5, n5, rfl, ho5, hb5⟩
      have e5 := own64_len ho5
      subst e5
      have hB5 := Lib.hid (btr hB3.out hb5)
      have Ho5 := Lib.hid (own_mono (base' := w.heap.size) ho5 (by simp; omega))
      clear HC ho5 hb5 hP hX hcat
      go_wp2
      go_ret
      exact ⟨A5, c5, rfl, Ho5.out, hB5.out⟩
    · have hmlt : m < a := by have := hm.out; subst this; exact M.climb_left hl.out hr.out hab
      obtain ⟨p, hp1, hp2, hp3⟩ := M.climb_step ht.out hp.out hbv.out hl.out hmlt
      have hq1 : ((a : Int) != (b : Int)) = true := by simp; omega
      have hq2 : (b : Int) < (a : Int) := by omega
      have Hp3 := Lib.hid hp3
      obtain ⟨pb, off, rfl, hpb, hpc⟩ := h.out.below hbr.out (Nat.le_refl _) (by have := (List.getElem?_eq_some_iff.1 hp1).1; omega)
      have gp := hpc a _ hp1
      have zr := hbr.out.size
      clear hpc hp1 hp3 hl hab
      go_wp2_with (at_builtin; refine pushTwo rfl (.tmp 15) (.tmp 17) rfl wr w.heap.size A1 n1 c1 (.slice A2 n2 c2) l r (a : Int) rfl wr.heap.size rfl rfl hT zr (by omega) ?_; intro A4 c4 w4 ht4 hb4; have gp4 := (hb4.out.cell (p := ⟨pb, off + a, none⟩) (by omega)).trans gp)
      have hbr4 : Hid (Below w.heap.size w w4) := hbr.out.trans hb4.out
      clear hT
      go_roundw
      case rel => exact ⟨p, b, n1 + 1, c4, n2, c2, l ++ [(a : Int)], r, A4, A2, by omega, hbl, rfl, rfl, rfl, rfl, Hp3, hr, ht4, hbr4⟩
      case measure => simp [intOf]; omega

set_option maxHeartbeats 2000000 in
theorem distanceIn (A : Option Addr) (xs ps : List Int) (c v u : Nat) (w : World) (ht : Hid (M.isTree xs = true)) (hp : Hid (M.ParsOK xs ps)) (hvl : v < xs.length) (hul : u < xs.length) (h : Hid (Ints w w.heap.size A ps)) (D : Nat) (hD : Hid (M.dist xs v u = D)) :
    Calls Try.prog 64 #[.slice A xs.length c, .int .i64 v, .int .i64 u] w fun e w' => e = .returned (.int .i64 (D : Int)) ∧ Hid (Below w.heap.size w w') := by
  have hl := M.way_len ht.out ⟨ps, hp.out⟩ hvl hul
  have HW := Lib.hid (wayIn A xs ps c v u w ht hp hvl hul h)
  have hD2 : (((M.way xs v u).length : Nat) : Int) - 1 = (D : Int) := by have := hD.out; rw [M.dist] at this; omega
  generalize M.way xs v u = W at *
  go_enter Try.func64, Try.ntmps64
  go_wp2_with fail
  refine HW.out.mono ?_
  rintro e w1 ⟨A', c', rfl, _, hb⟩
  have Hb := Lib.hid hb
  clear hb HW
  go_wp2
  go_ret
  exact ⟨rfl, Hb⟩

set_option maxHeartbeats 4000000 in
set_option maxRecDepth 100000 in
theorem l05Way (A : Option Addr) (xs : List Int) (c v u : Nat) (w : World) (ht : Hid (M.isTree xs = true)) (hvl : v < xs.length) (hul : u < xs.length) (h : Hid (Ints w w.heap.size A xs)) :
    Calls Try.prog 61 #[.agg #[.slice A xs.length c], .int .i64 v, .int .i64 u] w fun e w' => ∃ A' c', e = .returned (.slice A' (M.way xs v u).length c') ∧ Own64 w' w.heap.size (.slice A' (M.way xs v u).length c') (M.way xs v u) ∧ Below w.heap.size w w' := by
  have hlen := (M.tree_len ht.out).2
  obtain ⟨m, hm⟩ : ∃ m, Hid (M.meet xs v u = m) := ⟨_, rfl⟩
  have hmb := M.meet_bel ht.out hvl hul
  rw [hm.out] at hmb
  have hbv := Lib.hid hmb.1
  have hbu := Lib.hid hmb.2
  clear hmb
  obtain ⟨W0, hW0⟩ : ∃ W0, w.alloc (.cells #[.slice A xs.length c] 24) = W0 := ⟨_, rfl⟩
  have hB0 : Hid (Below w.heap.size w W0) := by rw [← hW0]; exact bal (b0 w) _
  have hc0 : W0.cell? ⟨w.heap.size, 0, none⟩ = some (.slice A xs.length c) := by rw [← hW0]; simp
  have hI : ∀ W, Hid (Below W0.heap.size W0 W) → Ints W W.heap.size A xs := fun W hW => h.out.be (btr hB0.out hW.out)
  have HI := Lib.hid hI
  have hP : ∀ W, Hid (Below W0.heap.size W0 W) → Calls Try.prog 85 #[.agg #[.slice A xs.length c]] W fun e w' => ∃ A' c' ps, e = .returned (.slice A' xs.length c') ∧ Hid (M.ParsOK xs ps) ∧ Hid (Own64 w' W0.heap.size (.slice A' xs.length c') ps) ∧ Hid (Below W.heap.size W w') := fun W hW =>
    (l01Parents A xs c W ht (HI.out W hW)).mono fun e w' ⟨A', c', ps, he, hok, ho, hb⟩ => ⟨A', c', ps, he, hok, own_mono ho hW.out.size, hb⟩
  have hM : ∀ W, Hid (Below W0.heap.size W0 W) → Calls Try.prog 88 #[.agg #[.slice A xs.length c], .int .i64 v, .int .i64 u] W fun e w' => e = .returned (.int .i64 (m : Int)) ∧ Hid (Below W.heap.size W w') := fun W hW =>
    l01Meet A xs c v u m W ht hvl hul hm (HI.out W hW)
  have HP := Lib.hid hP
  have HM := Lib.hid hM
  have HW := Lib.hid hW0
  clear hW0 hI hP hM h
  go_enter Try.func61, Try.ntmps61
  go_wp2_with fail
  rw [HW.out]
  go_cut [7, 8] (fun s7 s8 wx => ∃ (A7 : Option Addr) (c7 : Nat) (ps : List Int), s7 = .slice A7 xs.length c7 ∧ s8 = .int .i64 (m : Int) ∧ Hid (M.ParsOK xs ps) ∧ Hid (Own64 wx W0.heap.size (.slice A7 xs.length c7) ps) ∧ Hid (Below W0.heap.size W0 wx))
  case first =>
    have K0 : Hid (Below W0.heap.size W0 W0.drew) := (Below.refl _ _).drew
    have cA0 : W0.drew.cell? ⟨w.heap.size, 0, none⟩ = some (.slice A xs.length c) := hc0
    go_region_held3 (fun w' => w'.cell? ⟨w.heap.size, 0, none⟩ = some (.slice A xs.length c) ∧ Hid (Below W0.heap.size W0 w')) (first | exact ⟨cA0, K0⟩ | exact ⟨cell_be hc0 (Hid.out (by assumption)), by assumption⟩) (first | (go_at_call 85; refine (HP.out _ (by assumption)).mono ?_; rintro e w7 ⟨A7, c7, ps, rfl, hok7, ho7, hb7⟩; have hB7 : Hid (Below W0.heap.size W0 w7) := btr (Hid.out (by assumption)) hb7.out) | (go_at_call 88; refine (HM.out _ (by assumption)).mono ?_; rintro e w8 ⟨rfl, hb8⟩; have hB8 : Hid (Below W0.heap.size W0 w8) := btr (Hid.out (by assumption)) hb8.out))
    all_goals (go_wp2_with fail)
    all_goals (go_meet)
    all_goals first | exact ⟨A7, c7, ps, rfl, rfl, hok7, ho7, hB7⟩ | exact ⟨A7, c7, ps, rfl, rfl, hok7, own_be ho7.out hb8.out, hB8⟩
  case rest =>
    obtain ⟨A7, c7, ps, rfl, rfl, hp, hop, hbc⟩ := hcut
    have hst1 := Lib.hid (M.climb_start (ps := ps) hvl hbv.out)
    have hst2 := Lib.hid (M.climb_start (ps := ps) hul hbu.out)
    have hIp := Lib.hid (ints_of_own64 hop.out)
    have hT0 : Hid (Two ((wc.alloc (.cells #[] 2)).alloc (.cells #[] 2)) wc.heap.size (.slice (some ⟨wc.heap.size, 0, none⟩) 0 0) (.slice (some ⟨wc.heap.size + 1, 0, none⟩) 0 0) [] []) :=
      ⟨(own64_empty (Nat.le_refl _)).alloc _, (by have := own64_empty (w := wc.alloc (.cells #[] 2)) (B := wc.heap.size) (by simp); simpa using this), fun b h1 h2 => by injection h1 with h1; injection h2 with h2; simp at h1 h2; omega⟩
    have hb0 : Hid (Below wc.heap.size wc ((wc.alloc (.cells #[] 2)).alloc (.cells #[] 2))) := bal (bal (b0 wc) _) _
    have zc := hB0.out.size
    have zc2 := hbc.out.size
    clear HP HM HI HW hc0 hop
    go_wp2
    go_loopw [1, 9] (fun qv q1 wr => ∃ (a n1 c1 : Nat) (l : List Int) (A1 : Option Addr), a < xs.length ∧ qv = .int .i64 a ∧ q1 = .slice A1 n1 c1 ∧ Hid (M.Climb xs ps v m a l) ∧ Hid (Two wr wc.heap.size (.slice A1 n1 c1) (.slice (some ⟨wc.heap.size + 1, 0, none⟩) 0 0) l []) ∧ Hid (Below wc.heap.size wc wr)) (fun qv _ _ => (intOf qv).toNat)
    case atStart => exact ⟨v, 0, 0, [], _, hvl, rfl, rfl, hst1, hT0, hb0⟩
    case round =>
      obtain ⟨a, n1, c1, l, A1, hal, rfl, rfl, hl, hT, hbr⟩ := hrel
      clear hst1 hT0 hb0
      have hn1 : n1 ≤ 23 := by rw [hT.out.shape.1]; exact M.climb_acc ht.out hp.out hvl hbv.out hl.out
      have zr := hbr.out.size
      rcases Nat.lt_or_ge m a with hma | hma
      · obtain ⟨p, hp1, hp2, hp3⟩ := M.climb_step ht.out hp.out hbv.out hl.out hma
        have hq1 : ((a : Int) != (m : Int)) = true := by simp; omega
        have Hp3 := Lib.hid hp3
        obtain ⟨pb, off, rfl, hpb, hpc⟩ := hIp.out.below hbr.out (Nat.le_refl _) (by have := (List.getElem?_eq_some_iff.1 hp1).1; omega)
        have gp := hpc a _ hp1
        clear hpc hp1 hp3 hl hma
        go_wp2_with (at_builtin; refine pushTwo rfl (.tmp 27) (.tmp 29) rfl wr wc.heap.size A1 n1 c1 (.slice (some ⟨wc.heap.size + 1, 0, none⟩) 0 0) l [] (a : Int) rfl wr.heap.size rfl rfl hT zr (by omega) ?_; intro A4 c4 w4 ht4 hb4; have gp4 := (hb4.out.cell (p := ⟨pb, off + a, none⟩) (by omega)).trans gp)
        have hbr4 : Hid (Below wc.heap.size wc w4) := hbr.out.trans hb4.out
        clear hT
        go_roundw
        case rel => exact ⟨p, n1 + 1, c4, l ++ [(a : Int)], A4, by omega, rfl, rfl, Hp3, ht4, hbr4⟩
        case measure => simp [intOf]; omega
      · obtain rfl : a = m := by have := hl.out.2.2.1; omega
        have hq1 : ((a : Int) != (a : Int)) = false := by simp
        obtain ⟨wo, rfl⟩ : ∃ wo : World, wo = wr := ⟨_, rfl⟩
        go_wp2_with (at_builtin; refine pushTwo rfl (.tmp 31) (.tmp 33) rfl wo wc.heap.size A1 n1 c1 (.slice (some ⟨wc.heap.size + 1, 0, none⟩) 0 0) l [] (a : Int) rfl wo.heap.size rfl rfl hT zr (by omega) ?_; intro A4 c4 w4 ht4 hb4)
        have hbr4 : Hid (Below wc.heap.size wc w4) := hbr.out.trans hb4.out
        have ht5 := Lib.hid ht4.out.symm
        clear hT hbr hb4 ht4 zr
        go_loopw [2, 10] (fun qu q2 wr => ∃ (b n2 c2 : Nat) (r : List Int) (A2 : Option Addr), b < xs.length ∧ qu = .int .i64 b ∧ q2 = .slice A2 n2 c2 ∧ Hid (M.Climb xs ps u a b r) ∧ Hid (Two wr wc.heap.size (.slice A2 n2 c2) (.slice A4 (n1 + 1) c4) r (l ++ [(a : Int)])) ∧ Hid (Below wc.heap.size wc wr)) (fun qu _ _ => (intOf qu).toNat)
        case atStart => exact ⟨u, 0, 0, [], _, hul, rfl, rfl, hst2, ht5, hbr4⟩
        case round =>
          obtain ⟨b, n2, c2, r, A2, hbl, rfl, rfl, hr, hT, hbr⟩ := hrel
          clear hst2 ht5 hbr4
          have hn2 : n2 ≤ 23 := by rw [hT.out.shape.1]; exact M.climb_acc ht.out hp.out hul hbu.out hr.out
          have zr := hbr.out.size
          rcases Nat.lt_or_ge a b with hmb | hmb
          · obtain ⟨p, hp1, hp2, hp3⟩ := M.climb_step ht.out hp.out hbu.out hr.out hmb
            have hq1 : ((b : Int) != (a : Int)) = true := by simp; omega
            have Hp3 := Lib.hid hp3
            obtain ⟨pb, off, rfl, hpb, hpc⟩ := hIp.out.below hbr.out (Nat.le_refl _) (by have := (List.getElem?_eq_some_iff.1 hp1).1; omega)
            have gp := hpc b _ hp1
            clear hpc hp1 hp3 hr hmb
            go_wp2_with (at_builtin; refine pushTwo rfl (.tmp 42) (.tmp 44) rfl wr wc.heap.size A2 n2 c2 (.slice A4 (n1 + 1) c4) r (l ++ [(a : Int)]) (b : Int) rfl wr.heap.size rfl rfl hT zr (by omega) ?_; intro A5 c5 w5 ht6 hb5; have gp5 := (hb5.out.cell (p := ⟨pb, off + b, none⟩) (by omega)).trans gp)
            have hbr5 : Hid (Below wc.heap.size wc w5) := hbr.out.trans hb5.out
            clear hT
            go_roundw
            case rel => exact ⟨p, n2 + 1, c5, r ++ [(b : Int)], A5, by omega, rfl, rfl, Hp3, ht6, hbr5⟩
            case measure => simp [intOf]; omega
          · obtain rfl : b = a := by have := hr.out.2.2.1; omega
            have hq2 : ((b : Int) != (b : Int)) = false := by simp
            have hway := Lib.hid (M.way_mk ht.out hp.out hm.out hl.out hr.out)
            have hT2 : Hid (Two wr wc.heap.size (.slice A4 (n1 + 1) c4) (.slice A2 n2 c2) (l ++ [(b : Int)] ++ r.reverse.take 0) r) := by rw [List.take_zero, List.append_nil]; exact hT.out.symm
            have hn2r := Lib.hid hT.out.shape.1
            have e2 : IntKind.i64.wrap ((n2 : Int) - 1) = (n2 : Int) - 1 := IntWalk.i64_in _ (by omega)
            obtain ⟨wo, rfl⟩ : ∃ wo : World, wo = wr := ⟨_, rfl⟩
            clear hT hl hr
            go_wp2
            go_loopw [9, 11] (fun q1 qi wr => ∃ (k n3 c3 : Nat) (A3 : Option Addr), k ≤ n2 ∧ n3 ≤ n1 + 1 + k ∧ qi = .int .i64 ((n2 : Int) - 1 - k) ∧ q1 = .slice A3 n3 c3 ∧ Hid (Two wr wc.heap.size (.slice A3 n3 c3) (.slice A2 n2 c2) (l ++ [(b : Int)] ++ r.reverse.take k) r) ∧ Hid (Below wc.heap.size wc wr)) (fun _ qi _ => (intOf qi + 1).toNat)
            case atStart => exact ⟨0, n1 + 1, c4, A4, Nat.zero_le _, by omega, by simp, rfl, hT2, hbr⟩
            case round =>
              obtain ⟨k, n3, c3, A3, hk, hn3, rfl, rfl, hT, hbr2⟩ := hrel
              clear hT2
              have zr2 := hbr2.out.size
              by_cases hkn : k < n2
              · obtain ⟨K, hK⟩ : ∃ K : Nat, n2 - 1 - k = K := ⟨_, rfl⟩
                have eK : (n2 : Int) - 1 - (k : Int) = (K : Int) := by omega
                have hKr : K < r.length := by have := hn2r.out; omega
                obtain ⟨x, hx⟩ : ∃ x, r[K]? = some x := ⟨_, List.getElem?_eq_getElem hKr⟩
                have hrev : r.reverse[k]? = some x := by
                  rw [List.getElem?_reverse (by have := hn2r.out; omega)]
                  rw [show r.length - 1 - k = K by have := hn2r.out; omega]; exact hx
                have hsucc : Hid (l ++ [(b : Int)] ++ r.reverse.take k ++ [x] = l ++ [(b : Int)] ++ r.reverse.take (k + 1)) := by
                  show _ = _
                  rw [List.take_add_one, hrev, List.append_assoc (l ++ [(b : Int)])]; rfl
                obtain ⟨g2, rfl⟩ := hT.out.symm.shape.2 (by omega)
                have gx := (own64_cell hT.out.2.1 hn2r.out.symm hx).1
                have hK0 : (0 : Int) ≤ (K : Int) := by omega
                have hKn : (K : Int) < (n2 : Int) := by omega
                have eK2 : (K : Int) - 1 = (n2 : Int) - 1 - ((k + 1 : Nat) : Int) := by omega
                rw [eK]
                clear hx hrev hKr
                go_wp2_with (at_builtin; refine pushTwo rfl (.tmp 53) (.tmp 58) rfl wr wc.heap.size A3 n3 c3 (.slice (some ⟨g2, 0, none⟩) n2 c2) _ r x rfl wr.heap.size rfl rfl hT zr2 (by omega) ?_; intro A5 c5 w5 ht6 hb5)
                have hbr5 : Hid (Below wc.heap.size wc w5) := hbr2.out.trans hb5.out
                rw [hsucc.out] at ht6
                clear hT
                go_roundw
                case rel => exact ⟨k + 1, n3 + 1, c5, A5, by omega, by omega, by go_num, rfl, ht6, hbr5⟩
                case measure => simp [intOf]; omega
              · obtain rfl : k = n2 := by omega
                have hq3 : ¬ (0 : Int) ≤ (k : Int) - 1 - (k : Int) := by omega
                have e5 : l ++ [(b : Int)] ++ r.reverse.take k = M.way xs v u := by
                  rw [List.take_of_length_le (by rw [List.length_reverse]; have := hn2r.out; omega)]; exact hway.out
                rw [e5] at hT
                have e6 := own64_len hT.out.1
                subst e6
                clear e5 hway
                go_wp2
                go_ret
                exact ⟨A3, c3, rfl, own_mono hT.out.1 (by omega), btr (btr hB0.out hbc.out) hbr2.out⟩
end Go.Proofs.Ytbnnlifpldgcfaa
