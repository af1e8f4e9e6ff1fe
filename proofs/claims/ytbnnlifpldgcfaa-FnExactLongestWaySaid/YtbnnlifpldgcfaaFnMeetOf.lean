/- MeetOf, the program's and the model's: the deepest node that has both nodes below it, or a code. -/
import Derived.Test.YtbnnlifpldgcfaaParents
import Derived.Test.YtbnnlifpldgcfaaFnIsBelow
namespace Go.Proofs.Ytbnnlifpldgcfaa
open Go.RowKit

namespace M
def meetOf (xs : List Int) (v u : Int) : Int × Int := if code xs [v, u] = 0 then ((meet xs v.toNat u.toNat : Int), 0) else (0, code xs [v, u])
theorem meetOf_yes {xs : List Int} {v u : Nat} (h : code xs [(v : Int), (u : Int)] = 0) : meetOf xs v u = ((meet xs v u : Int), 0) := by simp [meetOf, h]
theorem meetOf_no {xs : List Int} {v u : Int} (h : code xs [v, u] ≠ 0) : meetOf xs v u = (0, code xs [v, u]) := by simp [meetOf, h]
theorem below_bel (xs : List Int) (v u : Nat) : below xs (v : Int) (u : Int) = bel xs v u := by
  have e1 : decide ((u : Int) ≤ (v : Int)) = decide (u ≤ v) := decide_eq_decide.2 (by omega)
  have e2 : decide ((v : Int) < (u : Int) + (span 1 (xs.drop u) : Int)) = decide (v < u + span 1 (xs.drop u)) := decide_eq_decide.2 (by omega)
  simp only [below, bel, fin, Int.toNat_natCast]
  rw [e1, e2, Bool.eq_iff_iff]
  simp only [Bool.and_eq_true, decide_eq_true_eq]
  exact ⟨fun h => ⟨h.1, decide_eq_true h.2⟩, fun h => ⟨h.1, of_decide_eq_true h.2⟩⟩
theorem bel_root {xs : List Int} (ht : isTree xs = true) {v : Nat} (hv : v < xs.length) : bel xs v 0 = true := bel_iff.2 ⟨Nat.zero_le _, by rw [fin_root ht]; exact hv⟩
end M

/-- what a function of a tree and two numbers that hands back a number and a code must do, as F says -/
def GivesNum2 (f : Nat) (F : List Int → Int → Int → Int × Int) : Prop :=
  ∀ (A : Option Addr) (xs : List Int) (c : Nat) (v u : Int) (w : World), xs.length ≤ 1048576 → xs.length ≤ c ∧ c ≤ 1000000000000 → Ints w w.heap.size A xs →
    Calls Try.prog f #[.agg #[.slice A xs.length c], .int .i64 v, .int .i64 u] w fun e w' => e = .returned (.tuple #[.int .i64 (F xs v u).1, .int .i64 (F xs v u).2]) ∧ Below w.heap.size w w'

set_option maxHeartbeats 4000000 in
set_option maxRecDepth 100000 in
theorem l01Meet (A : Option Addr) (xs : List Int) (c v u R : Nat) (w : World) (ht : Hid (M.isTree xs = true)) (hvl : v < xs.length) (hul : u < xs.length) (hR : Hid (M.meet xs v u = R)) (h : Ints w w.heap.size A xs) :
    Calls Try.prog 88 #[.agg #[.slice A xs.length c], .int .i64 v, .int .i64 u] w fun e w' => e = .returned (.int .i64 R) ∧ Below w.heap.size w w' := by
  have hlen := (M.tree_len ht.out).2
  have hst := Lib.hid (M.meet_start (xs := xs) (v := v) (w := u) hvl)
  go_enter Try.func88, Try.ntmps88
  go_wp2_with fail
  refine (l01Parents A xs c _ ht (h.al _)).mono ?_
  rintro e w1 ⟨A', c', ps, rfl, hok, ho, hb⟩
  have hB := Lib.hid (btr (bal (b0 w) _) hb)
  have HcellA := Lib.hid (show w1.cell? ⟨w.heap.size, 0, none⟩ = some (.slice A xs.length c) from cell_be (by simp) hb)
  have h1 := Lib.hid ((h.al _).be hb)
  have Ho := Lib.hid ho
  obtain ⟨g, rfl⟩ : ∃ g, A' = some ⟨g, 0, none⟩ := by
    rcases ho.2 with ⟨h0, _⟩ | ⟨g, cap, cur, hv, _⟩
    · injection h0 with _ e _; omega
    · injection hv with e1; exact ⟨g, e1⟩
  clear hb h ho
  go_wp2
  go_loopw [8] (fun q wr => ∃ a : Nat, a < xs.length ∧ q = .int .i64 a ∧ Hid (M.bel xs v a = true) ∧ Hid (M.meet xs v u ≤ a) ∧ Hid (Below w1.heap.size w1 wr)) (fun q _ => (intOf q).toNat)
  case atStart => exact ⟨v, hvl, rfl, hst.out.1, hst.out.2, b0 w1⟩
  case round =>
    obtain ⟨a, hal, rfl, hbv, hma, hbr⟩ := hrel
    have hcr := cell_be HcellA.out hbr.out
    have Hk := Lib.hid (M.tree_ok ht.out hal)
    have I1 := Lib.hid (h1.out.be hbr.out)
    have Or := Lib.hid (own_be Ho.out hbr.out)
    have hpar : Hid (M.bel xs u a = false → ∃ p : Nat, ps[a]? = some (p : Int) ∧ p < a ∧ M.bel xs v p = true ∧ M.meet xs v u ≤ p) := fun hf => by
      have ha0 : 0 < a := by
        rcases Nat.eq_zero_or_pos a with e | e
        · subst e
          rw [M.bel_root ht.out hul] at hf
          cases hf
        · exact e
      obtain ⟨p, hp⟩ := M.kid_has ht.out ha0 hal
      have hs := M.meet_step ht.out hvl hul hbv.out hf hma.out hp
      exact ⟨p, hok.out.2.2 p a hp, (M.kid_bounds ht.out hp).1, hs.1, hs.2⟩
    by_cases hua : u < a
    · have hd : decide ((u : Int) < (a : Int)) = true := decide_eq_true (by omega)
      have hbf : M.bel xs u a = false := Bool.eq_false_iff.2 fun e => by have := M.bel_iff.1 e; omega
      obtain ⟨p, hp1, hp2, hp3, hp4⟩ := hpar.out hbf
      have gp := (own64_cell Or.out hok.out.1 hp1).1
      have Hp3 := Lib.hid hp3
      have Hp4 := Lib.hid hp4
      clear hbf hp1 hp3 hp4
      go_wp2
      go_roundw
      case rel => exact ⟨p, by omega, rfl, Hp3, Hp4, hbr⟩
      case measure => simp [intOf]; omega
    · have hd : decide ((u : Int) < (a : Int)) = false := decide_eq_false (by omega)
      obtain ⟨E, hE⟩ : ∃ E, Hid (a + M.span 1 (xs.drop a) = E) := ⟨_, rfl⟩
      have hE2 : E ≤ 48 := by have h1 := M.span_le (xs.drop a) 1; have h2 : (xs.drop a).length ≤ xs.length := by simp
                              have h3 := hE.out; omega
      go_wp2_with fail
      refine (l01End A xs c a E _ hE hlen Hk I1.out).mono ?_
      rintro e w2 ⟨rfl, hb⟩
      have hb2 := Lib.hid (btr hbr.out hb)
      have Or2 := Lib.hid (own_be Or.out hb)
      clear hb hcr
      by_cases hue : E ≤ u
      · have hd2 : decide ((E : Int) ≤ (u : Int)) = true := decide_eq_true (by omega)
        have hbf : M.bel xs u a = false := Bool.eq_false_iff.2 fun e => by
          have h1 := hE.out
          have h2 := M.bel_iff.1 e
          simp only [M.fin] at h2
          omega
        obtain ⟨p, hp1, hp2, hp3, hp4⟩ := hpar.out hbf
        have gp := (own64_cell Or2.out hok.out.1 hp1).1
        have Hp3 := Lib.hid hp3
        have Hp4 := Lib.hid hp4
        clear hbf hp1 hp3 hp4
        go_wp2
        go_roundw
        case rel => exact ⟨p, by omega, rfl, Hp3, Hp4, hb2⟩
        case measure => simp [intOf]; omega
      · have hd2 : decide ((E : Int) ≤ (u : Int)) = false := decide_eq_false (by omega)
        have hbt : M.bel xs u a = true := M.bel_iff.2 (by have := hE.out; simp only [M.fin]; omega)
        have hRa := Lib.hid ((M.meet_stop hbv.out hbt hma.out).trans hR.out)
        clear hbt
        go_wp2
        go_ret
        obtain rfl : a = R := hRa.out
        exact ⟨rfl, btr hB.out hb2.out⟩

end Go.Proofs.Ytbnnlifpldgcfaa
