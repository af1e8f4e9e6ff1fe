/- IsRule, the program's and the model's. -/
import Derived.Test.YtbdmmeoelagdcaaRuleIn
import Derived.Test.YtbdmmeoelagdcaaEndU
namespace Go.Proofs.Ytbdmmeoelagdcaa
open Go.RowKit

def F_IsRule (l r : ByteArray) : Bool := M.isRule l.data.toList r.data.toList
/-- a rule to a bool -/
def GivesRB (f : Nat) (F : ByteArray → ByteArray → Bool) : Prop :=
  ∀ (l r : ByteArray) (w : World), l.size ≤ 1048576 → r.size ≤ 1048576 → Calls Try.prog f #[.agg #[.string l, .string r]] w fun e w' => e = .returned (.bool (F l r)) ∧ Below w.heap.size w w'

theorem containsMissing (l r : ByteArray) (g : Nat) (w : World) (hok : Hid (r.data.toList.all M.okByte = true)) (hg : Hid (w.cell? ⟨g, 0, none⟩ = some (.string l))) (q : Bool) (hq : Hid ((r.data.toList.any fun c => !l.data.toList.contains c) = q)) :
    Calls Try.prog 101 #[.string r, .func (.func 99) #[] #[.pointer (some ⟨g, 0, none⟩)]] w fun e w' => e = .returned (.bool q) ∧ Below w.heap.size w w' := by
  have hI : Calls Try.prog 146 #[.string r, .func (.func 99) #[] #[.pointer (some ⟨g, 0, none⟩)]] w fun e w' => (∃ i : Int, e = .returned (.int .i64 i) ∧ Hid (decide (0 ≤ i) = q)) ∧ Below w.heap.size w w' := by
    have hC := Lib.hid (idxMissing l r g w hok hg)
    rw [hq.out] at hC
    go_enter Try.func146, Try.ntmps146
    go_wp2_with fail
    refine hC.out.mono ?_
    rintro e w' ⟨⟨i, rfl, hi⟩, hb⟩
    have Hb := Lib.hid hb
    clear hb
    go_wp2
    go_ret
    exact ⟨⟨i, rfl, hi⟩, Hb.out⟩
  have HI := Lib.hid hI
  clear hI
  go_enter Try.func101, Try.ntmps101
  go_wp2_with fail
  refine HI.out.mono ?_
  rintro e w' ⟨⟨i, rfl, hi⟩, hb⟩
  have Hb := Lib.hid hb
  clear hb
  go_wp2
  go_ret
  exact ⟨by rw [← hi.out]; rfl, Hb.out⟩

set_option maxHeartbeats 4000000 in
set_option maxRecDepth 100000 in
theorem impl_IsRule : GivesRB 52 F_IsRule := by
  intro l r w hl hr
  have hLl : Hid (l.data.toList.length = l.size) := (Lib.size_eq l).symm
  have hLr : Hid (r.data.toList.length = r.size) := (Lib.size_eq r).symm
  obtain ⟨d0, d1⟩ := rule_cells w l r
  obtain ⟨W, hW⟩ : ∃ W, W = w.alloc (.cells #[.string l, .string r] 62) := ⟨_, rfl⟩
  rw [← hW] at d0 d1
  have hB0 : Hid (Below w.heap.size w W) := by rw [hW]; exact bal (b0 w) _
  have HP := fun X => Lib.hid (impl_IsPattern l X hl)
  simp only [F_IsPattern] at HP
  have HR := fun X => Lib.hid (isPieceIn r X hr)
  obtain ⟨q, hq⟩ : ∃ q, F_IsRule l r = q := ⟨_, rfl⟩
  rw [hq]
  rw [F_IsRule, M.isRule] at hq
  cases hp : M.isPat l.data.toList
  · rw [hp, Bool.false_and, Bool.false_and] at hq
    subst hq
    have HPW := HP W
    rw [hp] at HPW
    clear HP HR hp
    go_enter Try.func52, Try.ntmps52
    go_wp2_with fail
    rw [← hW]
    clear hW
    refine HPW.out.mono ?_
    rintro e w1 ⟨rfl, hb1⟩
    have hB1 := Lib.hid (btr hB0.out hb1.out)
    go_wp2
    go_ret
    exact ⟨rfl, hB1.out⟩
  · have HPW := HP W
    rw [hp] at HPW
    rw [hp, Bool.true_and] at hq
    by_cases hlen : 1 < l.data.toList.length
    · obtain ⟨m40, m41, hok, h0⟩ := M.pat_long hp hlen
      rw [decide_eq_true hlen, Bool.true_and, M.right_prog] at hq
      have hl0 : 0 < l.size := by rw [← hLl.out]; omega
      have hl0i : (0 : Int) < (l.size : Int) := by omega
      have hb : l[0] = 40 := by
        have : l.data.toList[0]? = some l[0] := List.getElem?_eq_getElem (by rw [hLl.out]; exact hl0)
        rw [h0] at this
        injection this with this
        exact this.symm
      have HL40 : Hid (∀ X, Calls Try.prog 98 #[.int .u8 40] X fun e w' => e = .returned (.bool false) ∧ w' = X) := fun X => isLetter 40 X
      obtain ⟨p, hpc⟩ : ∃ p, Hid (M.isPiece r.data.toList = p) := ⟨_, rfl⟩
      have HRp : Hid (∀ X, Calls Try.prog 66 #[.string r] X fun e w' => e = .returned (.bool p) ∧ w' = X) := fun X => by
        have := (HR X).out
        rwa [hpc.out] at this
      have hq2 : (M.isPiece r.data.toList && !(r.data.toList.any fun c => !l.data.toList.contains c)) = q := hq
      rw [hpc.out] at hq2
      go_enter Try.func52, Try.ntmps52
      go_wp2_with fail
      rw [← hW]
      clear hW
      refine HPW.out.mono ?_
      rintro e w1 ⟨rfl, hb1⟩
      have hB1 := Lib.hid (btr hB0.out hb1.out)
      have c0 := cellR_be d0 hb1.out
      have c1 := cellR_be d1 hb1.out
      clear HP HR hp hq hlen m40 m41 h0
      cases p
      · rw [Bool.false_and] at hq2
        subst hq2
        go_wp2_with (first | (go_at_call 98; refine (HL40.out _).mono ?_; rintro e w2 ⟨rfl, hw⟩; subst hw) | (go_at_call 66; refine (HRp.out _).mono ?_; rintro e w2 ⟨rfl, hw⟩; subst hw))
        go_ret
        exact ⟨rfl, hB1.out⟩
      · rw [Bool.true_and] at hq2
        have hrok : Hid (r.data.toList.all M.okByte = true) := by
          have := hpc.out
          simp only [M.isPiece, Bool.and_eq_true, beq_iff_eq] at this
          exact M.piece_okB this.2
        have c0' := Lib.hid c0
        obtain ⟨u, hu⟩ : ∃ u, Hid ((r.data.toList.any fun c => !l.data.toList.contains c) = u) := ⟨_, rfl⟩
        rw [hu.out] at hq2
        subst hq2
        have HC := Lib.hid (containsMissing l r w.heap.size w1 hrok c0' u hu)
        go_wp2_with (first | (go_at_call 98; refine (HL40.out _).mono ?_; rintro e w2 ⟨rfl, hw⟩; subst hw) | (go_at_call 66; refine (HRp.out _).mono ?_; rintro e w2 ⟨rfl, hw⟩; subst hw) | (go_at_call 101; refine HC.out.mono ?_; rintro e w2 ⟨rfl, hb2⟩))
        have hB2 := Lib.hid (btr hB1.out hb2)
        go_ret
        exact ⟨rfl, hB2.out⟩
    · obtain ⟨c, hc, hcl⟩ := M.pat_short hp hlen
      rw [decide_eq_false hlen, Bool.false_and] at hq
      subst hq
      have hl0 : 0 < l.size := by rw [← hLl.out, hc]; simp
      have hb : l[0] = c := by
        have h1 : l.data.toList[0]? = some l[0] := List.getElem?_eq_getElem (by rw [hLl.out]; exact hl0)
        rw [hc] at h1
        injection h1 with h1
        exact h1.symm
      have HLc : Hid (∀ X, Calls Try.prog 98 #[.int .u8 (c.toNat : Int)] X fun e w' => e = .returned (.bool true) ∧ w' = X) := fun X => by
        have := isLetter c X
        rwa [hcl] at this
      have hl0i : (0 : Int) < (l.size : Int) := by omega
      clear HP HR hp hlen hc hcl
      go_enter Try.func52, Try.ntmps52
      go_wp2_with fail
      rw [← hW]
      clear hW
      refine HPW.out.mono ?_
      rintro e w1 ⟨rfl, hb1⟩
      have hB1 := Lib.hid (btr hB0.out hb1.out)
      have c0 := cellR_be d0 hb1.out
      have c1 := cellR_be d1 hb1.out
      go_wp2_with (go_at_call 98; refine (HLc.out _).mono ?_; rintro e w2 ⟨rfl, hw⟩; subst hw)
      go_ret
      exact ⟨rfl, hB1.out⟩
end Go.Proofs.Ytbdmmeoelagdcaa
