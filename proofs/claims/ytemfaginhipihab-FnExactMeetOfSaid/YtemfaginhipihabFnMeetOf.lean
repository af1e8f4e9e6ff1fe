/- MeetOf, the program's and the model's: the deepest node that has both nodes below it, or a code. -/
import Derived.Test.YtemfaginhipihabParents
import Derived.Test.YtemfaginhipihabFnIsBelow
namespace Go.Proofs.Ytemfaginhipihab
open Go.RowKit

namespace M
def meetOf (xs : List Int) (v u : Int) : Int × Int := if code xs [v, u] = 0 then ((meet xs v.toNat u.toNat : Int), 0) else (0, code xs [v, u])
theorem meetOf_yes {xs : List Int} {v u : Nat} (h : code xs [(v : Int), (u : Int)] = 0) : meetOf xs v u = ((meet xs v u : Int), 0) := by simp [meetOf, h]
theorem meetOf_no {xs : List Int} {v u : Int} (h : code xs [v, u] ≠ 0) : meetOf xs v u = (0, code xs [v, u]) := by simp [meetOf, h]
theorem below_bel (xs : List Int) (v u : Nat) : below xs (v : Int) (u : Int) = bel xs v u := by
  have e1 : decide ((u : Int) ≤ (v : Int)) = decide (u ≤ v) := decide_eq_decide.2 (by omega)
  have e2 : decide ((v : Int) < (u : Int) + (span 1 (xs.drop u) : Int)) = decide (v < u + span 1 (xs.drop u)) := decide_eq_decide.2 (by omega)
  simp only [below, bel, fin, Int.toNat_natCast]
  rw [e1, e2, Bool.eq_iff_iff]
  simp only [Bool.and_eq_true, decide_eq_true_eq]
  exact ⟨fun h => ⟨h.1, decide_eq_true h.2⟩, fun h => ⟨h.1, of_decide_eq_true h.2⟩⟩
theorem bel_root {xs : List Int} (ht : isTree xs = true) {v : Nat} (hv : v < xs.length) : bel xs v 0 = true := bel_iff.2 ⟨Nat.zero_le _, by rw [fin_root ht]; exact hv⟩
end M

/-- what a function of a tree and two numbers that hands back a number and a code must do, as F says -/
def GivesNum2 (f : Nat) (F : List Int → Int → Int → Int × Int) : Prop :=
  ∀ (A : Option Addr) (xs : List Int) (c : Nat) (v u : Int) (w : World), xs.length ≤ 1048576 → xs.length ≤ c ∧ c ≤ 1000000000000 → Ints w w.heap.size A xs →
    Calls Try.prog f #[.agg #[.slice A xs.length c], .int .i64 v, .int .i64 u] w fun e w' => e = .returned (.tuple #[.int .i64 (F xs v u).1, .int .i64 (F xs v u).2]) ∧ Below w.heap.size w w'

set_option maxHeartbeats 4000000 in
set_option maxRecDepth 100000 in
theorem impl_MeetOf : GivesNum2 41 M.meetOf := by
  intro A xs c v u w hx hcc h
  obtain ⟨r, hr⟩ : ∃ r, Hid (M.code xs [v, u] = r) := ⟨_, rfl⟩
  have hc := codeOf A (some ⟨w.heap.size + 1, 0, none⟩) xs [v, u] c 2 ((w.alloc (.cells #[.slice A xs.length c] 26)).alloc (.cells #[.int .i64 v, .int .i64 u] 2)) (by omega) (by simp) ((h.al _).al _) (by have := ints_new (w.alloc (.cells #[.slice A xs.length c] 26)) #[.int .i64 v, .int .i64 u] [v, u] rfl; simpa using this) r hr
  simp only [List.length_cons, List.length_nil, Nat.zero_add, Nat.reduceAdd] at hc
  have HC := Lib.hid hc
  clear hc
  by_cases h0 : r = 0
  · subst h0
    have hn1 := M.code_node hr.out
    have hn2 := M.code_node hn1.2.2
    have Ht := Lib.hid (M.code_tree hr.out)
    have hlen := (M.tree_len Ht.out).2
    obtain ⟨v, rfl⟩ := Int.eq_ofNat_of_zero_le hn1.1
    obtain ⟨u, rfl⟩ := Int.eq_ofNat_of_zero_le hn2.1
    have hvl : v < xs.length := by simpa using hn1.2.1
    have hul : u < xs.length := by simpa using hn2.2.1
    have hF := M.meetOf_yes hr.out
    rw [hF]
    clear hF hn1 hn2
    obtain ⟨R, hR⟩ : ∃ R, Hid (M.meetDown xs v u (min v u) = R) := ⟨_, rfl⟩
    have hR' : M.meet xs v u = R := hR.out
    rw [hR']
    clear hR'
    have hmn : min (v : Int) (u : Int) = ((min v u : Nat) : Int) := by omega
    go_enter Try.func41, Try.ntmps41
    go_wp2_with fail
    refine HC.out.mono ?_
    rintro e w1 ⟨rfl, hb⟩
    have hB := Lib.hid (btr (bal (bal (b0 w) _) _) hb)
    have HcellA := Lib.hid (show w1.cell? ⟨w.heap.size, 0, none⟩ = some (.slice A xs.length c) from cell_be (cell_al (by simp) _) hb)
    have h1 := Lib.hid (((h.al _).al _).be hb)
    clear hb h HC
    go_wp2
    all_goals
      go_loopw [9] (fun q wr => ∃ m : Nat, m ≤ min v u ∧ q = .int .i64 m ∧ Hid (M.meetDown xs v u m = R) ∧ Hid (Below w1.heap.size w1 wr)) (fun q _ => (intOf q).toNat)
      case atStart => exact ⟨min v u, Nat.le_refl _, by congr 1; omega, hR, b0 w1⟩
      case round =>
        obtain ⟨m, hm, rfl, hmd, hbr⟩ := hrel
        have hcr := cell_be HcellA.out hbr.out
        have hml : m < xs.length := by omega
        have Hk := Lib.hid (M.tree_ok Ht.out hml)
        have I1 := Lib.hid (h1.out.be hbr.out)
        have hm0 : (0 : Int) ≤ (m : Int) := by omega
        have hml' : (m : Int).toNat < xs.length := by simpa using hml
        have Hk' : Hid (M.ok 1 (xs.drop (m : Int).toNat)) := by simpa using Hk
        obtain ⟨b1, hb1⟩ : ∃ b, Hid (M.bel xs v m = b) := ⟨_, rfl⟩
        obtain ⟨b2, hb2⟩ : ∃ b, Hid (M.bel xs u m = b) := ⟨_, rfl⟩
        have hbb1 : Hid (M.below xs (v : Int) (m : Int) = b1) := (M.below_bel xs v m).trans hb1.out
        have hbb2 : Hid (M.below xs (u : Int) (m : Int) = b2) := (M.below_bel xs u m).trans hb2.out
        have hz : Hid (¬ (b1 = true ∧ b2 = true) → 0 < m) := fun hn => by
          rcases Nat.eq_zero_or_pos m with e | e
          · subst e
            exact absurd ⟨hb1.out.symm.trans (M.bel_root Ht.out hvl), hb2.out.symm.trans (M.bel_root Ht.out hul)⟩ hn
          · exact e
        go_wp2_with fail
        refine (isIn A xs c v m _ hlen hcc.1 hcc.2 hm0 hml' Hk' I1.out b1 hbb1).mono ?_
        rintro e w' ⟨rfl, rfl⟩
        cases b1
        · have hmp := hz.out (by simp)
          obtain ⟨m, rfl⟩ : ∃ m', m = m' + 1 := ⟨m - 1, by omega⟩
          have hmiss := Lib.hid (M.meetDown_miss (xs := xs) (v := v) (w := u) (u := m) (by rw [hb1.out]; rfl))
          go_wp2
          go_roundw
          case rel => exact ⟨m, by omega, by go_num, hmiss.out.symm.trans hmd.out, hbr⟩
          case measure => simp [intOf]
        · go_wp2_with fail
          refine (isIn A xs c u m _ hlen hcc.1 hcc.2 hm0 hml' Hk' I1.out b2 hbb2).mono ?_
          rintro e w' ⟨rfl, rfl⟩
          cases b2
          · have hmp := hz.out (by simp)
            obtain ⟨m, rfl⟩ : ∃ m', m = m' + 1 := ⟨m - 1, by omega⟩
            have hmiss := Lib.hid (M.meetDown_miss (xs := xs) (v := v) (w := u) (u := m) (by rw [hb2.out]; simp))
            go_wp2
            go_roundw
            case rel => exact ⟨m, by omega, by go_num, hmiss.out.symm.trans hmd.out, hbr⟩
            case measure => simp [intOf]
          · have hit := M.meetDown_hit (xs := xs) (v := v) (w := u) (u := m) (by rw [hb1.out, hb2.out]; rfl)
            have hRm := Lib.hid (hit.symm.trans hmd.out)
            clear hit
            go_wp2
            go_ret2
            obtain rfl : m = R := hRm.out
            exact ⟨rfl, btr hB.out hbr.out⟩
  · have hF := M.meetOf_no (xs := xs) (v := v) (u := u) (by rw [hr.out]; exact h0)
    rw [hr.out] at hF
    rw [hF]
    have hq : (r != 0) = true := by simp [h0]
    clear hF h0
    go_enter Try.func41, Try.ntmps41
    go_wp2_with fail
    refine HC.out.mono ?_
    rintro e w1 ⟨rfl, hb⟩
    have hB := btr (bal (bal (b0 w) _) _) hb
    go_wp2
    go_ret2
    exact ⟨rfl, hB⟩

set_option maxHeartbeats 4000000 in
set_option maxRecDepth 100000 in
theorem l01Meet (A : Option Addr) (xs : List Int) (c v u R : Nat) (w : World) (ht : Hid (M.isTree xs = true)) (hvl : v < xs.length) (hul : u < xs.length) (hR : Hid (M.meet xs v u = R)) (h : Ints w w.heap.size A xs) :
    Calls Try.prog 69 #[.agg #[.slice A xs.length c], .int .i64 v, .int .i64 u] w fun e w' => e = .returned (.int .i64 R) ∧ Below w.heap.size w w' := by
  have hlen := (M.tree_len ht.out).2
  have hst := Lib.hid (M.meet_start (xs := xs) (v := v) (w := u) hvl)
  go_enter Try.func69, Try.ntmps69
  go_wp2_with fail
  refine (l01Parents A xs c _ ht (h.al _)).mono ?_
  rintro e w1 ⟨A', c', ps, rfl, hok, ho, hb⟩
  have hB := Lib.hid (btr (bal (b0 w) _) hb)
  have HcellA := Lib.hid (show w1.cell? ⟨w.heap.size, 0, none⟩ = some (.slice A xs.length c) from cell_be (by simp) hb)
  have h1 := Lib.hid ((h.al _).be hb)
  have Ho := Lib.hid ho
  obtain ⟨g, rfl⟩ : ∃ g, A' = some ⟨g, 0, none⟩ := by
    rcases ho.2 with ⟨h0, _⟩ | ⟨g, cap, cur, hv, _⟩
    · injection h0 with _ e _; omega
    · injection hv with e1; exact ⟨g, e1⟩
  clear hb h ho
  go_wp2
  go_loopw [8] (fun q wr => ∃ a : Nat, a < xs.length ∧ q = .int .i64 a ∧ Hid (M.bel xs v a = true) ∧ Hid (M.meet xs v u ≤ a) ∧ Hid (Below w1.heap.size w1 wr)) (fun q _ => (intOf q).toNat)
  case atStart => exact ⟨v, hvl, rfl, hst.out.1, hst.out.2, b0 w1⟩
  case round =>
    obtain ⟨a, hal, rfl, hbv, hma, hbr⟩ := hrel
    have hcr := cell_be HcellA.out hbr.out
    have Hk := Lib.hid (M.tree_ok ht.out hal)
    have I1 := Lib.hid (h1.out.be hbr.out)
    have Or := Lib.hid (own_be Ho.out hbr.out)
    have hpar : Hid (M.bel xs u a = false → ∃ p : Nat, ps[a]? = some (p : Int) ∧ p < a ∧ M.bel xs v p = true ∧ M.meet xs v u ≤ p) := fun hf => by
      have ha0 : 0 < a := by
        rcases Nat.eq_zero_or_pos a with e | e
        · subst e
          rw [M.bel_root ht.out hul] at hf
          cases hf
        · exact e
      obtain ⟨p, hp⟩ := M.kid_has ht.out ha0 hal
      have hs := M.meet_step ht.out hvl hul hbv.out hf hma.out hp
      exact ⟨p, hok.out.2.2 p a hp, (M.kid_bounds ht.out hp).1, hs.1, hs.2⟩
    by_cases hua : u < a
    · have hd : decide ((u : Int) < (a : Int)) = true := decide_eq_true (by omega)
      have hbf : M.bel xs u a = false := Bool.eq_false_iff.2 fun e => by have := M.bel_iff.1 e; omega
      obtain ⟨p, hp1, hp2, hp3, hp4⟩ := hpar.out hbf
      have gp := (own64_cell Or.out hok.out.1 hp1).1
      have Hp3 := Lib.hid hp3
      have Hp4 := Lib.hid hp4
      clear hbf hp1 hp3 hp4
      go_wp2
      go_roundw
      case rel => exact ⟨p, by omega, rfl, Hp3, Hp4, hbr⟩
      case measure => simp [intOf]; omega
    · have hd : decide ((u : Int) < (a : Int)) = false := decide_eq_false (by omega)
      obtain ⟨E, hE⟩ : ∃ E, Hid (a + M.span 1 (xs.drop a) = E) := ⟨_, rfl⟩
      have hE2 : E ≤ 48 := by have h1 := M.span_le (xs.drop a) 1; have h2 : (xs.drop a).length ≤ xs.length := by simp
                              have h3 := hE.out; omega
      go_wp2_with fail
      refine (l01End A xs c a E _ hE hlen Hk I1.out).mono ?_
      rintro e w2 ⟨rfl, hb⟩
      have hb2 := Lib.hid (btr hbr.out hb)
      have Or2 := Lib.hid (own_be Or.out hb)
      clear hb hcr
      by_cases hue : E ≤ u
      · have hd2 : decide ((E : Int) ≤ (u : Int)) = true := decide_eq_true (by omega)
        have hbf : M.bel xs u a = false := Bool.eq_false_iff.2 fun e => by
          have h1 := hE.out
          have h2 := M.bel_iff.1 e
          simp only [M.fin] at h2
          omega
        obtain ⟨p, hp1, hp2, hp3, hp4⟩ := hpar.out hbf
        have gp := (own64_cell Or2.out hok.out.1 hp1).1
        have Hp3 := Lib.hid hp3
        have Hp4 := Lib.hid hp4
        clear hbf hp1 hp3 hp4
        go_wp2
        go_roundw
        case rel => exact ⟨p, by omega, rfl, Hp3, Hp4, hb2⟩
        case measure => simp [intOf]; omega
      · have hd2 : decide ((E : Int) ≤ (u : Int)) = false := decide_eq_false (by omega)
        have hbt : M.bel xs u a = true := M.bel_iff.2 (by have := hE.out; simp only [M.fin]; omega)
        have hRa := Lib.hid ((M.meet_stop hbv.out hbt hma.out).trans hR.out)
        clear hbt
        go_wp2
        go_ret
        obtain rfl : a = R := hRa.out
        exact ⟨rfl, btr hB.out hb2.out⟩

set_option maxHeartbeats 1000000 in
theorem spec_MeetOf : GivesNum2 40 M.meetOf := by
  intro A xs c v u w hx hcc h
  obtain ⟨r, hr⟩ : ∃ r, Hid (M.code xs [v, u] = r) := ⟨_, rfl⟩
  have hc := l01Nodes A (some ⟨w.heap.size + 1, 0, none⟩) xs [v, u] c 2 ((w.alloc (.cells #[.slice A xs.length c] 26)).alloc (.cells #[.int .i64 v, .int .i64 u] 2)) (by omega) (by simp) ((h.al _).al _) (by have := ints_new (w.alloc (.cells #[.slice A xs.length c] 26)) #[.int .i64 v, .int .i64 u] [v, u] rfl; simpa using this) r hr
  simp only [List.length_cons, List.length_nil, Nat.zero_add, Nat.reduceAdd] at hc
  have HC := Lib.hid hc
  clear hc
  by_cases h0 : r = 0
  · subst h0
    have hn1 := M.code_node hr.out
    have hn2 := M.code_node hn1.2.2
    have Ht := Lib.hid (M.code_tree hr.out)
    obtain ⟨v, rfl⟩ := Int.eq_ofNat_of_zero_le hn1.1
    obtain ⟨u, rfl⟩ := Int.eq_ofNat_of_zero_le hn2.1
    have hvl : v < xs.length := by simpa using hn1.2.1
    have hul : u < xs.length := by simpa using hn2.2.1
    have hF := M.meetOf_yes hr.out
    rw [hF]
    clear hF hn1 hn2
    obtain ⟨R, hR⟩ : ∃ R, Hid (M.meet xs v u = R) := ⟨_, rfl⟩
    rw [hR.out]
    go_enter Try.func40, Try.ntmps40
    go_wp2_with fail
    refine HC.out.mono ?_
    rintro e w1 ⟨rfl, hb⟩
    have hB := Lib.hid (btr (bal (bal (b0 w) _) _) hb)
    have hcell : w1.cell? ⟨w.heap.size, 0, none⟩ = some (.slice A xs.length c) := cell_be (cell_al (by simp) _) hb
    have h1 := Lib.hid (((h.al _).al _).be hb)
    clear hb h HC
    go_wp2_with fail
    refine (l01Meet A xs c v u R _ Ht hvl hul hR h1.out).mono ?_
    rintro e w2 ⟨rfl, hb⟩
    have hB2 := Lib.hid (btr hB.out hb)
    clear hb
    go_wp2
    go_ret2
    exact ⟨rfl, hB2.out⟩
  · have hF := M.meetOf_no (xs := xs) (v := v) (u := u) (by rw [hr.out]; exact h0)
    rw [hr.out] at hF
    rw [hF]
    have hq : (r != 0) = true := by simp [h0]
    clear hF h0
    go_enter Try.func40, Try.ntmps40
    go_wp2_with fail
    refine HC.out.mono ?_
    rintro e w1 ⟨rfl, hb⟩
    have hB := btr (bal (bal (b0 w) _) _) hb
    go_wp2
    go_ret2
    exact ⟨rfl, hB⟩
end Go.Proofs.Ytemfaginhipihab
