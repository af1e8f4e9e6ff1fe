/- BreaksOf, the program's and the model's: the breaks of a growing order, or a code. -/
import Derived.Test.YtgnhmhfianmckaaSel
namespace Go.Proofs.Ytgnhmhfianmckaa
open Go.RowKit

namespace M
def breakAt (l : List Int) (i : Nat) : Bool := decide (l[i + 1]?.getD 0 < l[i]?.getD 0)
theorem breakAt_at {l : List Int} {i : Nat} {x y : Int} (h : l[i]? = some x) (h2 : l[i + 1]? = some y) : breakAt l i = decide (y < x) := by rw [breakAt, h, h2]; rfl
end M
noncomputable def F_BreaksOf (xs l : List Int) : List Int × Int := M.ocond xs l (M.selTo (M.breakAt l) (xs.length - 1))
theorem F_BreaksOf_len (xs l : List Int) : (F_BreaksOf xs l).1.length ≤ 1048576 := by
  by_cases h : M.gcode xs l = 0
  · rw [F_BreaksOf, M.ocond_yes h]
    have := M.tree_len (M.gcode_zero h).1
    have h2 := M.selTo_len (M.breakAt l) (xs.length - 1)
    show (M.selTo _ _).length ≤ _
    omega
  · rw [F_BreaksOf, M.ocond_no h]; simp

set_option maxHeartbeats 4000000 in
set_option maxRecDepth 100000 in
theorem impl_BreaksOf : GivesOL 46 F_BreaksOf := by
  intro A A2 xs l c c2 w hx hl hcc hcc2 h h2
  obtain ⟨W, hW⟩ : ∃ W, W = w.alloc (.cells #[.slice A xs.length c] 28) := ⟨_, rfl⟩
  have cT : W.cell? ⟨w.heap.size, 0, none⟩ = some (.slice A xs.length c) := by rw [hW]; simp [go_sem]
  have hB0 : Hid (Below w.heap.size w W) := by rw [hW]; exact bal (b0 w) _
  have H1 : Hid (Ints W W.heap.size A xs) := by rw [hW]; exact h.al _
  have H2 : Hid (Ints W W.heap.size A2 l) := by rw [hW]; exact h2.al _
  obtain ⟨r, hr⟩ : ∃ r, Hid (M.gcode xs l = r) := ⟨_, rfl⟩
  have hO : ∀ X, Hid (Below W.heap.size W X) → Calls Try.prog 72 #[] X fun e w' => ∃ g, e = .returned (.slice (some ⟨g, 0, none⟩) 3 3) ∧ Hid (StepsIn w' g 3) ∧ Hid (Below W.heap.size W w') := fun X hX =>
    (orderSteps X).mono fun e w' ⟨g, he, hs, hb⟩ => ⟨g, he, hs, btr hX.out hb⟩
  have hC : ∀ g X, Hid (Below W.heap.size W X) → Hid (StepsIn X g 3) → Calls Try.prog 56 #[.agg #[.slice A xs.length c, .slice A2 l.length c2], .slice (some ⟨g, 0, none⟩) 3 3] X fun e w' => e = .returned (.int .i64 r) ∧ Hid (Below W.heap.size W w') := fun g X hX hs =>
    (codeAll A A2 xs l c c2 g X hx hcc (Lib.hid (H1.out.be hX.out)) (Lib.hid (H2.out.be hX.out)) hs r hr).mono fun e w' ⟨he, hb⟩ => ⟨he, btr hX.out hb⟩
  have HO := Lib.hid hO
  have HC := Lib.hid hC
  clear hO hC h h2
  have K0 : Hid (Below W.heap.size W W.drew) := (Below.refl _ _).drew
  have e0 : W.drew.cell? ⟨w.heap.size, 0, none⟩ = some (.slice A xs.length c) := cT
  by_cases h0 : r = 0
  · subst h0
    have hz := M.gcode_zero hr.out
    have Ht := Lib.hid hz.1
    have hlen := (M.tree_len Ht.out).2
    have Ho := Lib.hid hz.2.1
    have hll : l.length = xs.length := (M.isOrd_iff.1 Ho.out).1
    obtain ⟨f, hf⟩ : ∃ f, Hid (M.breakAt l = f) := ⟨_, rfl⟩
    have hF : F_BreaksOf xs l = (M.selTo f (l.length - 1), 0) := by rw [hll, ← hf.out]; exact M.ocond_yes hr.out
    rw [hF]
    have hn1 : 1 ≤ l.length := by have := (M.tree_len Ht.out).1; omega
    have hn24 : l.length ≤ 24 := by omega
    have hn1i : (1 : Int) ≤ (l.length : Int) := by omega
    obtain ⟨b, off, e2, hbl, hcs⟩ := H2.out (by omega)
    subst e2
    have hcs' : Hid (∀ X, Below W.heap.size W X → ∀ j x, l[j]? = some x → X.cell? ⟨b, off + j, none⟩ = some (.int .i64 x)) := fun X hX j x hj => (hX.cell (p := ⟨b, off + j, none⟩) hbl).trans (hcs j x hj)
    have hcc21 : l.length ≤ c2 := hcc2.1
    clear hz hF hll hr Ho H1 H2 hcs
    go_enter Try.func46, Try.ntmps46
    go_wp2_with fail
    rw [← hW]
    clear hW
    go_region_held3 (fun w' => w'.cell? ⟨w.heap.size, 0, none⟩ = some (.slice A xs.length c) ∧ Hid (Below W.heap.size W w')) (first | exact ⟨e0, K0⟩ | exact ⟨cell_be cT (Hid.out (by assumption)), by assumption⟩) (first | (go_at_call 72; refine (HO.out _ (by assumption)).mono ?_; rintro e w4 ⟨g4, rfl, hs4, hb4⟩) | (go_at_call 56; refine (HC.out _ _ (by assumption) (by assumption)).mono ?_; rintro e w5 ⟨rfl, hb5⟩))
    have hB5 := Lib.hid (btr hB0.out hb5.out)
    have hz5 : w.heap.size ≤ w5.heap.size := hB5.out.size
    have hst : Hid (Own64 w5 w5.heap.size (.slice none 0 0) (M.selTo f 0)) := own64_nil _ _
    clear HO HC K0 e0 hb4 hs4
    by_cases hc1 : c2 = 1
    · subst hc1
      have hl1 : l.length = 1 := by omega
      have hS : Hid (M.selTo f (l.length - 1) = []) := by show _ = _; rw [hl1]; rfl
      have Hl1 := Lib.hid hl1
      rw [hl1]
      clear hcs' hst hn1 hn1i hn24 hcc2 hcc21 hl hl1
      go_wp2
      go_loopw [7, 8, 9, 21] (fun q _ _ i wr => i = .int .i64 0 ∧ q = .slice none 0 0 ∧ wr = w5) (fun _ _ _ _ _ => 0)
      case atStart => exact ⟨rfl, rfl, rfl⟩
      case round =>
        obtain ⟨rfl, rfl, rfl⟩ := hrel
        go_wp2
        go_ret2
        exact ⟨none, 0, by rw [hS.out]; rfl, by rw [hS.out]; exact own64_nil _ _, hB5.out⟩
    · have hc1' : ¬ (c2 : Int) = 1 := by omega
      have hb5W := hb5.out
      have hn1' : (0 : Int) ≤ (l.length : Int) - 1 := by omega
      go_wp2
      go_loopw [7, 8, 9, 21] (fun q _ _ i wr => ∃ (k n : Nat) (A' : Option Addr) (c' : Nat), k ≤ l.length - 1 ∧ i = .int .i64 (k : Int) ∧ q = .slice A' n c' ∧ Hid (Own64 wr w5.heap.size (.slice A' n c') (M.selTo f k)) ∧ Hid (Below w5.heap.size w5 wr)) (fun _ _ _ i _ => l.length - (intOf i).toNat)
      case atStart => exact ⟨0, 0, none, 0, Nat.zero_le _, rfl, rfl, hst, Below.refl _ _⟩
      case round =>
        obtain ⟨k, n, A', c', hk, rfl, rfl, ho, hbr⟩ := hrel
        clear hst
        have hn := own64_len ho.out
        have hsl := M.selTo_len f k
        have hbW := Lib.hid (btr hb5W hbr.out)
        by_cases hlt : k + 1 < l.length
        · obtain ⟨x, hx1⟩ : ∃ x, l[k]? = some x := ⟨_, List.getElem?_eq_getElem (by omega)⟩
          obtain ⟨y, hy1⟩ : ∃ y, l[k + 1]? = some y := ⟨_, List.getElem?_eq_getElem (by omega)⟩
          have g1 := hcs'.out wr hbW.out k x hx1
          have g2 := hcs'.out wr hbW.out (k + 1) y hy1
          rw [show off + (k + 1) = off + 1 + k by omega] at g2
          have hfk : Hid (f k = decide (y < x)) := by show _ = _; rw [← hf.out]; exact M.breakAt_at hx1 hy1
          have hki : (k : Int) < ((l.length - 1 : Nat) : Int) := by omega
          have hki2 : (k : Int) < (l.length : Int) := by omega
          have hki3 : (k : Int) < (l.length : Int) - 1 := by omega
          have hk0 : (0 : Int) ≤ (k : Int) := by omega
          have hn2 : n ≤ 1000000 := by omega
          have hzr : w5.heap.size ≤ wr.heap.size := hbr.out.size
          clear hn hsl hx1 hy1
          by_cases hyx : y < x
          · have hs := Lib.hid (M.selTo_hit (f := f) (k := k) (by rw [hfk.out]; exact decide_eq_true hyx))
            go_wp2_with (at_builtin; refine push64 rfl (.tmp 32) (.tmp 34) rfl wr w5.heap.size A' n c' (M.selTo f k) (k : Int) rfl rfl ho hzr hn2 ?_; intro A9 c9 w9 ho9 hb9)
            rw [← hs.out] at ho9
            have hb10 := Lib.hid (hbr.out.trans hb9.out)
            go_roundw
            case rel => exact ⟨k + 1, n + 1, A9, c9, by omega, by go_num, rfl, ho9, hb10⟩
            case measure => simp [intOf]; omega
          · have hs := M.selTo_miss (f := f) (k := k) (by rw [hfk.out]; exact decide_eq_false hyx)
            rw [← hs] at ho
            clear hs
            go_wp2
            go_roundw
            case rel => exact ⟨k + 1, n, A', c', by omega, by go_num, rfl, ho, hbr⟩
            case measure => simp [intOf]; omega
        · obtain rfl : k = l.length - 1 := by omega
          have hki : ¬ (((l.length - 1 : Nat) : Int) < ((l.length - 1 : Nat) : Int)) := by omega
          have hki3 : ¬ (((l.length - 1 : Nat) : Int) < (l.length : Int) - 1) := by omega
          have ho' := Lib.hid (own_mono ho.out hz5)
          have hB6 := Lib.hid (btr hB5.out hbr.out)
          subst hn
          go_wp2
          go_ret2
          exact ⟨_, _, rfl, ho'.out, hB6.out⟩
  · have hF : F_BreaksOf xs l = ([], r) := by rw [← hr.out]; exact M.ocond_no (by rw [hr.out]; exact h0)
    have h01 : (r != 0) = true := by simpa using h0
    rw [hF]
    clear hF
    go_enter Try.func46, Try.ntmps46
    go_wp2_with fail
    rw [← hW]
    clear hW
    go_region_held3 (fun w' => w'.cell? ⟨w.heap.size, 0, none⟩ = some (.slice A xs.length c) ∧ Hid (Below W.heap.size W w')) (first | exact ⟨e0, K0⟩ | exact ⟨cell_be cT (Hid.out (by assumption)), by assumption⟩) (first | (go_at_call 72; refine (HO.out _ (by assumption)).mono ?_; rintro e w4 ⟨g4, rfl, hs4, hb4⟩) | (go_at_call 56; refine (HC.out _ _ (by assumption) (by assumption)).mono ?_; rintro e w5 ⟨rfl, hb5⟩))
    have hB5 := Lib.hid (btr hB0.out hb5.out)
    clear HO HC K0 e0 hb4 hs4
    go_wp2
    go_ret2
    exact ⟨none, 0, rfl, own64_nil _ _, hB5.out⟩


set_option maxHeartbeats 4000000 in
set_option maxRecDepth 100000 in
theorem spec_BreaksOf : GivesOL 45 F_BreaksOf := by
  intro A A2 xs l c c2 w hx hl hcc hcc2 h h2
  obtain ⟨W, hW⟩ : ∃ W, W = w.alloc (.cells #[.slice A xs.length c] 28) := ⟨_, rfl⟩
  have cT : W.cell? ⟨w.heap.size, 0, none⟩ = some (.slice A xs.length c) := by rw [hW]; simp [go_sem]
  have hB0 : Hid (Below w.heap.size w W) := by rw [hW]; exact bal (b0 w) _
  have H1 : Hid (Ints W W.heap.size A xs) := by rw [hW]; exact h.al _
  have H2 : Hid (Ints W W.heap.size A2 l) := by rw [hW]; exact h2.al _
  obtain ⟨r, hr⟩ : ∃ r, Hid (M.gcode xs l = r) := ⟨_, rfl⟩
  have hC := l09Code A A2 xs l c c2 W hx hl H1.out H2.out
  rw [hr.out] at hC
  have HC := Lib.hid hC
  clear hC h h2
  by_cases h0 : r = 0
  · subst h0
    have hz := M.gcode_zero hr.out
    have Ht := Lib.hid hz.1
    have hlen := M.tree_len Ht.out
    have Ho := Lib.hid hz.2.1
    have hll : l.length = xs.length := (M.isOrd_iff.1 Ho.out).1
    obtain ⟨f, hf⟩ : ∃ f, Hid (M.breakAt l = f) := ⟨_, rfl⟩
    have hF : F_BreaksOf xs l = (M.selTo f (l.length - 1), 0) := by rw [hll, ← hf.out]; exact M.ocond_yes hr.out
    rw [hF]
    have hn1 : 1 ≤ l.length := by omega
    have hn24 : l.length ≤ 24 := by omega
    obtain ⟨b, off, e2, hbl, hcs⟩ := H2.out (by omega)
    subst e2
    have hcs' : Hid (∀ X, Below W.heap.size W X → ∀ j x, l[j]? = some x → X.cell? ⟨b, off + j, none⟩ = some (.int .i64 x)) := fun X hX j x hj => (hX.cell (p := ⟨b, off + j, none⟩) hbl).trans (hcs j x hj)
    clear hz hF hll hr H1 H2 hcs Ho hlen
    go_enter Try.func45, Try.ntmps45
    go_wp2_with fail
    rw [← hW]
    clear hW
    refine HC.out.mono ?_
    rintro e w5 ⟨rfl, hb5⟩
    have hB5 := Lib.hid (btr hB0.out hb5)
    have hz5 : w.heap.size ≤ w5.heap.size := hB5.out.size
    have hst : Hid (Own64 (w5.alloc (.cells #[] 2)) w5.heap.size (.slice (some ⟨w5.heap.size, 0, none⟩) 0 0) (M.selTo f 0)) := own64_empty (Nat.le_refl _)
    have hb0' := Lib.hid (bal (b0 w5) (.cells #[] 2))
    have Hb5 := Lib.hid hb5
    clear HC hb5
    go_wp2
    go_loopw [7, 8] (fun q i wr => ∃ (k n : Nat) (A' : Option Addr) (c' : Nat), k ≤ l.length - 1 ∧ i = .int .i64 (k : Int) ∧ q = .slice A' n c' ∧ Hid (Own64 wr w5.heap.size (.slice A' n c') (M.selTo f k)) ∧ Hid (Below w5.heap.size w5 wr)) (fun _ i _ => l.length - (intOf i).toNat)
    case atStart => exact ⟨0, 0, _, 0, Nat.zero_le _, rfl, rfl, hst, hb0'⟩
    case round =>
      obtain ⟨k, n, A', c', hk, rfl, rfl, ho, hbr⟩ := hrel
      clear hst hb0'
      have hn := own64_len ho.out
      have hsl := M.selTo_len f k
      have hbW := Lib.hid (btr Hb5.out hbr.out)
      have f0r := cell_be cT hbW.out
      have hwr : IntKind.i64.wrap ((k : Int) + 1) = (k : Int) + 1 := IntWalk.i64_in _ (by omega)
      by_cases hlt : k + 1 < l.length
      · obtain ⟨x, hx1⟩ : ∃ x, l[k]? = some x := ⟨_, List.getElem?_eq_getElem (by omega)⟩
        obtain ⟨y, hy1⟩ : ∃ y, l[k + 1]? = some y := ⟨_, List.getElem?_eq_getElem (by omega)⟩
        have g1 := hcs'.out wr hbW.out k x hx1
        have g2 := hcs'.out wr hbW.out (k + 1) y hy1
        have hfk : Hid (f k = decide (y < x)) := by show _ = _; rw [← hf.out]; exact M.breakAt_at hx1 hy1
        have hki : (k : Int) + 1 < (l.length : Int) := by omega
        have hki2 : (k : Int) < (l.length : Int) := by omega
        have hk0 : (0 : Int) ≤ (k : Int) := by omega
        have hk1 : (0 : Int) ≤ (k : Int) + 1 := by omega
        have hton : ((k : Int) + 1).toNat = k + 1 := by omega
        have hn2 : n ≤ 1000000 := by omega
        have hzr : w5.heap.size ≤ wr.heap.size := hbr.out.size
        have hbd := Lib.hid hbr.out.drew
        have hod : Hid (Own64 wr.drew w5.heap.size (.slice A' n c') (M.selTo f k)) := ho
        clear hn hsl hx1 hy1 f0r
        by_cases hyx : y < x
        · have hs := Lib.hid (M.selTo_hit (f := f) (k := k) (by rw [hfk.out]; exact decide_eq_true hyx))
          go_wp2
          go_region
          all_goals
            go_wp2_with (at_builtin; refine push64 rfl (.tmp 33) (.tmp 35) rfl _ w5.heap.size A' n c' (M.selTo f k) (k : Int) rfl rfl hod hzr hn2 ?_; intro A9 c9 w9 ho9 hb9)
            rw [← hs.out] at ho9
            have hb10 := Lib.hid (hbd.out.trans hb9.out)
            go_roundw
            case rel => exact ⟨k + 1, n + 1, A9, c9, by omega, by go_num, rfl, ho9, hb10⟩
            case measure => simp [intOf]; omega
        · have hs := M.selTo_miss (f := f) (k := k) (by rw [hfk.out]; exact decide_eq_false hyx)
          rw [← hs] at hod
          clear hs
          go_wp2
          go_region
          all_goals
            go_wp2
            go_roundw
            case rel => exact ⟨k + 1, n, A', c', by omega, by go_num, rfl, hod, hbd⟩
            case measure => simp [intOf]; omega
      · obtain rfl : k = l.length - 1 := by omega
        have hki : ¬ (((l.length - 1 : Nat) : Int) + 1 < (l.length : Int)) := by omega
        have ho' := Lib.hid (own_mono ho.out hz5)
        have hB6 := Lib.hid (btr hB5.out hbr.out)
        clear f0r
        subst hn
        go_wp2
        go_ret2
        exact ⟨_, _, rfl, ho'.out, hB6.out⟩
  · have hF : F_BreaksOf xs l = ([], r) := by rw [← hr.out]; exact M.ocond_no (by rw [hr.out]; exact h0)
    have h01 : (r != 0) = true := by simpa using h0
    rw [hF]
    clear hF
    go_enter Try.func45, Try.ntmps45
    go_wp2_with fail
    rw [← hW]
    clear hW
    refine HC.out.mono ?_
    rintro e w5 ⟨rfl, hb5⟩
    have hB5 := Lib.hid (btr hB0.out hb5)
    go_wp2
    go_ret2
    exact ⟨none, 0, rfl, own64_nil _ _, hB5.out⟩
end Go.Proofs.Ytgnhmhfianmckaa
