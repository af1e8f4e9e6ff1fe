/- l09Fill: the beginning of a growing order gone on with, as the model does it. -/
import Derived.Test.YtgnhmhfianmckaaNextIn9
import Derived.Test.YtgnhmhfianmckaaClone
namespace Go.Proofs.Ytgnhmhfianmckaa
open Go.RowKit

namespace M
/-- what is to come out, told from what is there -/
theorem fill_go {least : Bool} {n : Nat} {ps b R : List Int} (hp : Parents n ps) (hb : Bgn n ps b) (h : fill least n ps (n - b.length) b = R) (hl : b.length < n) :
    ∃ x, x ∈ rdyTo ps b n ∧ (rdyTo ps b n)[if least then 0 else (rdyTo ps b n).length - 1]? = some x ∧ Bgn n ps (b ++ [x]) ∧ fill least n ps (n - (b ++ [x]).length) (b ++ [x]) = R := by
  have hne := rdy_some hp hl
  obtain ⟨j, hj, h1, h2⟩ := pick_at (least := least) hne
  refine ⟨_, pick_mem hne, by rw [← h2]; exact h1, bgn_step hp hb (pick_mem hne), ?_⟩
  rw [← h, fill_step hl]
end M

set_option maxHeartbeats 8000000 in
set_option maxRecDepth 100000 in
theorem l09Fill (least : Bool) (A A2 : Option Addr) (xs b : List Int) (n c L c2 : Nat) (w : World) (hn : Hid (xs.length = n)) (ht : Hid (M.isTree xs = true)) (hpar : Hid (M.Parents n (M.parents xs))) (hbg : Hid (M.Bgn n (M.parents xs) b)) (hL : Hid (b.length = L)) (hz2 : Hid (A2 = none → c2 = 0)) (h : Hid (Ints w w.heap.size A xs)) (h2 : Hid (Ints w w.heap.size A2 b)) :
    Calls Try.prog 65 #[.agg #[.slice A n c], .slice A2 L c2, .bool least] w fun e w' => ∃ A' c', e = .returned (.slice A' n c') ∧ Own64 w' w.heap.size (.slice A' n c') (M.fill least n (M.parents xs) (n - b.length) b) ∧ Below w.heap.size w w' := by
  have hxl := M.tree_len ht.out
  rw [hn.out] at hxl
  have h24 := hxl.2
  have hLn : L ≤ n := by rw [← hL.out]; exact M.bgn_len hbg.out
  have hB0 := Lib.hid (bal (b0 w) (.cells #[.slice A n c] 28))
  have H1 := Lib.hid (h.out.al (.cells #[.slice A n c] 28))
  have H2 := Lib.hid (h2.out.al (.cells #[.slice A n c] 28))
  have cT0 : Hid ((w.alloc (.cells #[.slice A n c] 28)).cell? ⟨w.heap.size, 0, none⟩ = some (.slice A n c)) := by simp [Hid, go_sem]
  have hzW : (w.alloc (.cells #[.slice A n c] 28)).heap.size = w.heap.size + 1 := by simp
  obtain ⟨W, hW⟩ : ∃ W, W = w.alloc (.cells #[.slice A n c] 28) := ⟨_, rfl⟩
  rw [← hW] at cT0 hB0 H1 H2 hzW
  obtain ⟨R, hR⟩ : ∃ R, Hid (M.fill least n (M.parents xs) (n - b.length) b = R) := ⟨_, rfl⟩
  rw [hR.out]
  have hRl : Hid (R.length = n) := by show _ = _; rw [← hR.out, M.fill_len, hL.out]; omega
  have HO := Lib.hid (l01Own A2 b L c2 W hL (by omega) hz2 H2)
  have hNx : ∀ bb A3 m c3 X, Hid (M.Bgn n (M.parents xs) bb) → Hid (bb.length = m) → Below W.heap.size W X → Ints X X.heap.size A3 bb → Calls Try.prog 70 #[.agg #[.slice A n c], .slice A3 m c3] X fun e w' => ∃ A' m' c', e = .returned (.slice A' m' c') ∧ Own64 w' X.heap.size (.slice A' m' c') (M.rdyTo (M.parents xs) bb n) ∧ Below X.heap.size X w' := fun bb A3 m c3 X hb hm hX hI =>
    l09Next A A3 xs bb n c m c3 X hn ht hb hm (H1.out.be hX) hI
  have HN := Lib.hid hNx
  clear h h2 hNx hxl
  go_enter Try.func65, Try.ntmps65
  go_wp2_with fail
  rw [← hW]
  clear hW
  refine HO.out.mono ?_
  rintro e w1 ⟨A1, c1, rfl, ho, hb⟩
  have Ho1 := Lib.hid ho
  have hb1 := Lib.hid hb
  clear ho hb HO H2
  go_wp2
  go_loopw [7, 8] (fun q _ wr => ∃ (bb : List Int) (A' : Option Addr) (m c' : Nat), m ≤ n ∧ q = .slice A' m c' ∧ Hid (bb.length = m) ∧ Hid (M.Bgn n (M.parents xs) bb) ∧ Hid (M.fill least n (M.parents xs) (n - bb.length) bb = R) ∧ Hid (Own64 wr W.heap.size (.slice A' m c') bb) ∧ Hid (Below W.heap.size W wr)) (fun q _ _ => n - (match q with | .slice _ m _ => m | _ => 0))
  case atStart => exact ⟨b, A1, L, c1, hLn, rfl, hL, hbg, hR, Ho1, hb1⟩
  case round =>
    obtain ⟨bb, A', m, c', hm, rfl, hbl, hbb, hfr, ho, hbr⟩ := hrel
    clear Ho1 hb1
    have cc := cell_be cT0.out hbr.out
    have hBw := Lib.hid (btr hB0.out hbr.out)
    go_wp2_with fail
    refine (l01N A n c _).mono ?_
    rintro e w3 ⟨rfl, hb3⟩
    have cc3 := cell_be cc hb3
    have ho3 := Lib.hid (own_be ho.out hb3)
    have hbr3 := Lib.hid (btr hbr.out hb3)
    clear cc hb3 ho hbr
    by_cases hlt : m < n
    · have hmi : (m : Int) < (n : Int) := by omega
      obtain ⟨x, hx1, hx2, hx3, hx4⟩ := M.fill_go hpar.out hbb.out hfr.out (by rw [hbl.out]; exact hlt)
      have hrl := M.rdyTo_len (M.parents xs) bb n
      obtain ⟨r, hr⟩ : ∃ r, Hid (M.rdyTo (M.parents xs) bb n = r) := ⟨_, rfl⟩
      have HNx := HN.out bb A' m c' w3 hbb hbl hbr3.out (ints_of_own64 ho3.out)
      rw [hr.out] at HNx hx1 hx2 hrl
      have HNx' := Lib.hid HNx
      have Hx2 := Lib.hid hx2
      have Hx3 := Lib.hid hx3
      have Hx4 := Lib.hid hx4
      have hrpos : 1 ≤ r.length := by have := List.length_pos_of_mem hx1; omega
      clear hx1 hx2 hx3 hx4 HNx hfr hbb
      go_wp2_with fail
      refine HNx'.out.mono ?_
      rintro e w4 ⟨A4, m4, c4, rfl, ho4, hb4⟩
      have hm4 := own64_len ho4
      have hI4 := ints_of_own64 ho4
      have ho5 := Lib.hid (own_be ho3.out hb4)
      have hbr5 := Lib.hid (btr hbr3.out hb4)
      have hz5 : W.heap.size ≤ w4.heap.size := hbr5.out.size
      have hm1 : m ≤ 1000000 := by omega
      cases least
      · obtain ⟨pb, po, y, rfl, hpb, g1, hY⟩ := hI4.at_ (k := r.length - 1) (by omega)
        have hyx : y = x := by have := Hx2.out; rw [if_neg (by decide)] at this; rw [hY.out] at this; injection this
        subst hyx
        subst hm4
        have hwm : IntKind.i64.wrap ((r.length : Int) - 1) = (r.length : Int) - 1 := IntWalk.i64_in _ (by omega)
        have hr0 : (0 : Int) ≤ (r.length : Int) - 1 := by omega
        have hr1 : (r.length : Int) - 1 < (r.length : Int) := by omega
        have hton : ((r.length : Int) - 1).toNat = r.length - 1 := by omega
        clear ho4 hb4 hI4 HNx' ho3 hbr3 hY Hx2
        go_wp2_with (at_builtin; refine push64 rfl (.tmp 26) (.tmp 33) rfl w4 W.heap.size A' m c' bb y rfl rfl ho5 hz5 hm1 ?_; intro A9 c9 w9 ho9 hb9)
        have hb10 := Lib.hid (hbr5.out.trans hb9.out)
        go_roundw
        case rel => exact ⟨bb ++ [y], A9, m + 1, c9, by omega, rfl, by show _ = _; rw [List.length_append, hbl.out]; rfl, Hx3, Hx4, ho9, hb10⟩
        case measure => simp; omega
      · obtain ⟨pb, po, y, rfl, hpb, g1, hY⟩ := hI4.at_ (k := 0) (by omega)
        have hyx : y = x := by have := Hx2.out; rw [if_pos rfl] at this; rw [hY.out] at this; injection this
        subst hyx
        rw [Nat.add_zero] at g1
        have hm40 : 0 < m4 := by omega
        have hm41 : (0 : Int) < (m4 : Int) := by omega
        have Hm4 := Lib.hid hm4
        clear ho4 hb4 hI4 HNx' ho3 hbr3 hY Hx2 hm4
        go_wp2_with (at_builtin; refine push64 rfl (.tmp 20) (.tmp 24) rfl w4 W.heap.size A' m c' bb y rfl rfl ho5 hz5 hm1 ?_; intro A9 c9 w9 ho9 hb9)
        have hb10 := Lib.hid (hbr5.out.trans hb9.out)
        go_roundw
        case rel => exact ⟨bb ++ [y], A9, m + 1, c9, by omega, rfl, by show _ = _; rw [List.length_append, hbl.out]; rfl, Hx3, Hx4, ho9, hb10⟩
        case measure => simp; omega
    · obtain rfl : m = n := by omega
      have hge : ¬ (m : Int) < (m : Int) := by omega
      have hE : Hid (bb = R) := by show _ = _; rw [← hfr.out]; exact (M.fill_done hbl.out).symm
      have hB3 := Lib.hid (btr hB0.out hbr3.out)
      have hzz : w.heap.size ≤ W.heap.size := by omega
      have ho6 : Hid (Own64 w3 w.heap.size (.slice A' m c') R) := by rw [← hE.out]; exact own_mono ho3.out hzz
      clear hE
      go_wp2
      go_ret
      exact ⟨A', c', rfl, ho6.out, hB3.out⟩
end Go.Proofs.Ytgnhmhfianmckaa
