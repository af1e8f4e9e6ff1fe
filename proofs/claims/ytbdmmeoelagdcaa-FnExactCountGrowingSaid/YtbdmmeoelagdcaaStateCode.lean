/- stateCode: whether each node comes behind its parent. -/
import Derived.Test.YtbdmmeoelagdcaaListCode
import Derived.Test.YtbdmmeoelagdcaaReady
import Derived.Test.YtbdmmeoelagdcaaFnParentsOf
namespace Go.Proofs.Ytbdmmeoelagdcaa
open Go.RowKit

namespace M
theorem parents_of {xs ps : List Int} (ht : isTree xs = true) (hp : ParsOK xs ps) : Parents xs.length ps := by
  refine ⟨hp.1, ?_, fun v h1 h2 => ?_⟩
  · rw [parOf, show (0 : Int).toNat = 0 from rfl, hp.2.1]; decide
  · obtain ⟨p, hk⟩ := kid_has ht (c := v) (by omega) h2
    have hb := kid_bounds ht hk
    rw [parOf, Int.toNat_natCast, hp.2.2 p v hk]
    simp only [Option.getD_some]
    omega
theorem labOK_start (n : Nat) (ps l : List Int) : LabOK n ps l 1 := fun v h1 h2 _ => by omega
theorem labOK_step {n : Nat} {ps l : List Int} {k : Nat} (h : LabOK n ps l k) (hk : l.idxOf (parOf ps (k : Int)) ≤ l.idxOf (k : Int)) : LabOK n ps l (k + 1) := fun v h1 h2 h3 => by
  rcases Nat.lt_or_ge v k with h4 | h4
  · exact h v h1 h4 h3
  · obtain rfl : v = k := by omega
    exact hk
theorem par_at {n : Nat} {ps : List Int} (h : Parents n ps) {v : Nat} (hv : v < n) : ps[v]? = some (parOf ps (v : Int)) := by
  have h1 : v < ps.length := by rw [h.1]; exact hv
  rw [parOf, Int.toNat_natCast, List.getElem?_eq_getElem h1]; rfl
end M

set_option maxHeartbeats 4000000 in
set_option maxRecDepth 100000 in
theorem stateCode (A A2 : Option Addr) (xs l : List Int) (c c2 n : Nat) (w : World) (hn : Hid (xs.length = n)) (hc1 : n ≤ c) (hc2 : c ≤ 1000000000000) (ht : Hid (M.isTree xs = true)) (ho : Hid (M.isOrd n l = true)) (h : Ints w w.heap.size A xs) (h2 : Ints w w.heap.size A2 l) (r : Int) (hr : Hid ((if M.grows (M.parents xs) l then 0 else 5) = r)) :
    Calls Try.prog 156 #[.agg #[.slice A n c, .slice A2 n c2]] w fun e w' => e = .returned (.int .i64 r) ∧ Below w.heap.size w w' := by
  have hxl := M.tree_len ht.out
  rw [hn.out] at hxl
  have h24 := hxl.2
  have h1 := hxl.1
  have Hl := Lib.hid (M.isOrd_iff.1 ho.out).1
  obtain ⟨d0, d1⟩ := order_cells w (.slice A n c) (.slice A2 n c2) 118
  have hB0 := Lib.hid (bal (b0 w) (.cells #[.slice A n c, .slice A2 n c2] 118))
  obtain ⟨W, hW⟩ : ∃ W, W = w.alloc (.cells #[.slice A n c, .slice A2 n c2] 118) := ⟨_, rfl⟩
  have H1 := Lib.hid (h.al (.cells #[.slice A n c, .slice A2 n c2] 118))
  have H2 := Lib.hid (h2.al (.cells #[.slice A n c, .slice A2 n c2] 118))
  rw [← hW] at d0 d1 hB0 H1 H2
  have hL : ∀ X, Hid (Below W.heap.size W X) → Calls Try.prog 175 #[.slice A2 n c2] X fun e w' => ∃ g, e = .returned (.slice (some ⟨g, 0, none⟩) n n) ∧ Hid (Own64 w' W.heap.size (.slice (some ⟨g, 0, none⟩) n n) (M.labs n l)) ∧ Hid (Below W.heap.size W w') := fun X hX =>
    (labelsIn A2 l n c2 X h24 ho Hl (H2.out.be hX.out)).mono fun e w' ⟨he, ho, hb⟩ => ⟨_, he, own_mono ho hX.out.size, btr hX.out hb⟩
  have hP : ∀ X, Hid (Below W.heap.size W X) → Calls Try.prog 158 #[.slice A n c] X fun e w' => ∃ A' c' ps, e = .returned (.slice A' n c') ∧ Hid (M.ParsOK xs ps) ∧ Hid (Own64 w' W.heap.size (.slice A' n c') ps) ∧ Hid (Below X.heap.size X w') ∧ Hid (Below W.heap.size W w') := fun X hX => by
    have := (callsIn_wide (n := 5)).1 (parentsIn_in A xs c X (by rw [hn.out]; exact hc1) hc2 ht (H1.out.be hX.out))
    rw [hn.out] at this
    exact this.mono fun e w' ⟨A', c', ps, he, hk, ho, hb⟩ => ⟨A', c', ps, he, hk, own_mono ho hX.out.size, hb, btr hX.out hb⟩
  have HL := Lib.hid hL
  have HP := Lib.hid hP
  clear hL hP h h2 hxl
  go_enter Try.func156, Try.ntmps156
  go_wp2_with fail
  rw [← hW]
  clear hW
  have K0 : Hid (Below W.heap.size W W.drew) := (Below.refl _ _).drew
  have e0 : W.drew.cell? ⟨w.heap.size, 0, none⟩ = some (.slice A n c) := d0
  have e1 : W.drew.cell? ⟨w.heap.size, 1, none⟩ = some (.slice A2 n c2) := d1
  go_region_held3 (fun w' => w'.cell? ⟨w.heap.size, 0, none⟩ = some (.slice A n c) ∧ w'.cell? ⟨w.heap.size, 1, none⟩ = some (.slice A2 n c2) ∧ Hid (Below W.heap.size W w')) (first | exact ⟨e0, e1, K0⟩ | exact ⟨cellOf_be d0 (Hid.out (by assumption)), cellOf_be d1 (Hid.out (by assumption)), by assumption⟩) (first | (go_at_call 175; refine (HL.out _ (by assumption)).mono ?_; rintro e w4 ⟨g4, rfl, ho4, hb4⟩) | (go_at_call 158; refine (HP.out _ (by assumption)).mono ?_; rintro e w5 ⟨A5, c5, ps, rfl, hok, ho5, hbX, hb5⟩))
  have hpar := Lib.hid (M.parents_of ht.out hok.out)
  rw [hn.out] at hpar
  have hps := Lib.hid (M.parents_eq ht.out hok.out)
  have Hg := Lib.hid (own_be ho4.out hbX.out)
  have Hp := Lib.hid (ints_of_own64 ho5.out)
  have hpl : Hid (ps.length = n) := by show _ = _; rw [hok.out.1, hn.out]
  have hB := Lib.hid (btr hB0.out hb5.out)
  have hst := Lib.hid (M.labOK_start n ps l)
  rw [hps.out] at hr
  clear HL HP K0 e0 e1 hb4 hb5 hbX ho4 ho5 d0 d1 H1 H2 hB0 hok hps
  go_wp2
  go_loopw [5] (fun i wr => ∃ (k : Nat), 1 ≤ k ∧ k ≤ n ∧ i = .int .i64 (k : Int) ∧ Hid (M.LabOK n ps l k) ∧ Hid (Below w5.heap.size w5 wr)) (fun i _ => n - (intOf i).toNat)
  case atStart => exact ⟨1, Nat.le_refl _, h1, rfl, hst, Below.refl _ _⟩
  case round =>
    obtain ⟨k, hk1, hk, rfl, hlab, hbr⟩ := hrel
    clear hst
    by_cases hlt : k < n
    · obtain ⟨pb, po, p, e5, hpb, g1, hX⟩ := (Hp.out.be hbr.out).at_ (k := k) (by rw [hpl.out]; exact hlt)
      subst e5
      have hpp : p = M.parOf ps (k : Int) := by have := M.par_at hpar.out hlt; rw [hX.out] at this; injection this
      obtain ⟨q1, q2⟩ := hpar.out.2.2 k hk1 hlt
      rw [← hpp] at q1 q2
      obtain ⟨u, rfl⟩ := Int.eq_ofNat_of_zero_le q1
      have hun : u < n := by omega
      have ck := (own64_cell (own_be Hg.out hbr.out) (by rw [M.labs, M.labTo_len]) (M.labs_at ho.out hlt)).1
      have cu := (own64_cell (own_be Hg.out hbr.out) (by rw [M.labs, M.labTo_len]) (M.labs_at ho.out hun)).1
      have Hpp := Lib.hid hpp
      have hki : (k : Int) < (n : Int) := by omega
      have hk0 : (0 : Int) ≤ (k : Int) := by omega
      have hui : (u : Int) < (n : Int) := by omega
      have hu0 : (0 : Int) ≤ (u : Int) := by omega
      have hbd := Lib.hid hbr.out.drew
      obtain ⟨a, ha⟩ : ∃ a, Hid (l.idxOf (k : Int) = a) := ⟨_, rfl⟩
      obtain ⟨b, hb⟩ : ∃ b, Hid (l.idxOf (u : Int) = b) := ⟨_, rfl⟩
      rw [ha.out] at ck
      rw [hb.out] at cu
      clear hX hpp q1 q2
      by_cases hab : a < b
      · have hR : r = 5 := by
          rw [← hr.out, if_neg]
          intro hg
          have := (M.grows_lab ho.out hpar.out.2.2 hpar.out.2.1).1 hg k hk1 hlt hlt
          rw [← Hpp.out, ha.out, hb.out] at this
          omega
        have hab' : (a : Int) < (b : Int) := by omega
        subst hR
        go_wp2
        go_region
        all_goals
          go_wp2
          go_ret
          exact ⟨rfl, btr hB.out hbd.out⟩
      · have hs := Lib.hid (M.labOK_step hlab.out (by rw [← Hpp.out, ha.out, hb.out]; omega))
        have hab' : ¬ (a : Int) < (b : Int) := by omega
        go_wp2
        go_region
        all_goals
          go_wp2
          go_roundw
          case rel => exact ⟨k + 1, by omega, by omega, by go_num, hs, hbd⟩
          case measure => simp [intOf]; omega
    · obtain rfl : k = n := by omega
      have hR : r = 0 := by
        rw [← hr.out, if_pos ((M.grows_lab ho.out hpar.out.2.2 hpar.out.2.1).2 hlab.out)]
      subst hR
      have hge : ¬ (k : Int) < (k : Int) := by omega
      go_wp2
      go_ret
      exact ⟨rfl, btr hB.out hbr.out⟩
end Go.Proofs.Ytbdmmeoelagdcaa
