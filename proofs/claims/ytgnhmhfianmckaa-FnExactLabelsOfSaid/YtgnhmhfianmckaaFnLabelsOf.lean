/- LabelsOf, the program's and the model's: the labels of a growing order, or a code. -/
import Derived.Test.YtgnhmhfianmckaaOrdSteps
namespace Go.Proofs.Ytgnhmhfianmckaa
open Go.RowKit

noncomputable def F_LabelsOf (xs l : List Int) : List Int × Int := M.ocond xs l (M.labs xs.length l)
theorem F_LabelsOf_len (xs l : List Int) : (F_LabelsOf xs l).1.length ≤ 1048576 := by
  by_cases h : M.gcode xs l = 0
  · rw [F_LabelsOf, M.ocond_yes h]
    have := M.tree_len (M.gcode_zero h).1
    show (M.labs xs.length l).length ≤ _
    rw [M.labs, M.labTo_len]
    omega
  · rw [F_LabelsOf, M.ocond_no h]; simp

set_option maxHeartbeats 4000000 in
set_option maxRecDepth 100000 in
theorem impl_LabelsOf : GivesOL 40 F_LabelsOf := by
  intro A A2 xs l c c2 w hx hl hcc hcc2 h h2
  obtain ⟨W, hW⟩ : ∃ W, W = w.alloc (.cells #[.slice A xs.length c] 28) := ⟨_, rfl⟩
  have cT : W.cell? ⟨w.heap.size, 0, none⟩ = some (.slice A xs.length c) := by rw [hW]; simp [go_sem]
  have hB0 : Hid (Below w.heap.size w W) := by rw [hW]; exact bal (b0 w) _
  have H1 : Hid (Ints W W.heap.size A xs) := by rw [hW]; exact h.al _
  have H2 : Hid (Ints W W.heap.size A2 l) := by rw [hW]; exact h2.al _
  obtain ⟨r, hr⟩ : ∃ r, Hid (M.gcode xs l = r) := ⟨_, rfl⟩
  have hO : ∀ X, Hid (Below W.heap.size W X) → Calls Try.prog 72 #[] X fun e w' => ∃ g, e = .returned (.slice (some ⟨g, 0, none⟩) 3 3) ∧ Hid (StepsIn w' g 3) ∧ Hid (Below W.heap.size W w') := fun X hX =>
    (orderSteps X).mono fun e w' ⟨g, he, hs, hb⟩ => ⟨g, he, hs, btr hX.out hb⟩
  have hC : ∀ g X, Hid (Below W.heap.size W X) → Hid (StepsIn X g 3) → Calls Try.prog 56 #[.agg #[.slice A xs.length c, .slice A2 l.length c2], .slice (some ⟨g, 0, none⟩) 3 3] X fun e w' => e = .returned (.int .i64 r) ∧ Hid (Below W.heap.size W w') := fun g X hX hs =>
    (codeAll A A2 xs l c c2 g X hx hcc (Lib.hid (H1.out.be hX.out)) (Lib.hid (H2.out.be hX.out)) hs r hr).mono fun e w' ⟨he, hb⟩ => ⟨he, btr hX.out hb⟩
  have HO := Lib.hid hO
  have HC := Lib.hid hC
  clear hO hC h h2
  have K0 : Hid (Below W.heap.size W W.drew) := (Below.refl _ _).drew
  have e0 : W.drew.cell? ⟨w.heap.size, 0, none⟩ = some (.slice A xs.length c) := cT
  by_cases h0 : r = 0
  · subst h0
    have hz := M.gcode_zero hr.out
    have Ht := Lib.hid hz.1
    have hlen := (M.tree_len Ht.out).2
    have Ho := Lib.hid hz.2.1
    have hll : Hid (l.length = xs.length) := (M.isOrd_iff.1 Ho.out).1
    have hF : F_LabelsOf xs l = (M.labs xs.length l, 0) := M.ocond_yes hr.out
    rw [hF]
    have HL := Lib.hid (fun X (hX : Below W.heap.size W X) => labelsIn A2 l xs.length c2 X hlen Ho hll (H2.out.be hX))
    rw [← hll.out] at HL
    obtain ⟨R, hR⟩ : ∃ R, Hid (M.labs xs.length l = R) := ⟨_, rfl⟩
    have hRl : Hid (R.length = l.length) := by show _ = _; rw [← hR.out, M.labs, M.labTo_len, hll.out]
    have HL2 : Hid (∀ X, Below W.heap.size W X → Calls Try.prog 79 #[.slice A2 l.length c2] X fun e w' => e = .returned (.slice (some ⟨X.heap.size, 0, none⟩) l.length l.length) ∧ Own64 w' X.heap.size (.slice (some ⟨X.heap.size, 0, none⟩) l.length l.length) R ∧ Below X.heap.size X w') := by
      intro X hX
      have := HL.out X hX
      rw [show M.labs l.length l = R by rw [← hR.out, hll.out]] at this
      exact this
    rw [hR.out, show (R, (0 : Int)).1 = R from rfl, show (R, (0 : Int)).2 = 0 from rfl, hRl.out]
    clear hz hF hll HL hr hR Ho H1 H2
    go_enter Try.func40, Try.ntmps40
    go_wp2_with fail
    rw [← hW]
    clear hW
    go_region_held3 (fun w' => w'.cell? ⟨w.heap.size, 0, none⟩ = some (.slice A xs.length c) ∧ Hid (Below W.heap.size W w')) (first | exact ⟨e0, K0⟩ | exact ⟨cell_be cT (Hid.out (by assumption)), by assumption⟩) (first | (go_at_call 72; refine (HO.out _ (by assumption)).mono ?_; rintro e w4 ⟨g4, rfl, hs4, hb4⟩) | (go_at_call 56; refine (HC.out _ _ (by assumption) (by assumption)).mono ?_; rintro e w5 ⟨rfl, hb5⟩))
    have hB5 := Lib.hid (btr hB0.out hb5.out)
    have HL5 := Lib.hid (HL2.out w5 hb5.out)
    clear HO HC K0 e0 hb4 hs4 HL2
    go_wp2_with fail
    refine HL5.out.mono ?_
    rintro e w6 ⟨rfl, ho, hb⟩
    have Ho6 := Lib.hid (own_mono ho hB5.out.size)
    have hB6 := Lib.hid (btr hB5.out hb)
    clear ho hb HL5
    go_wp2
    go_ret2
    exact ⟨_, _, rfl, Ho6.out, hB6.out⟩
  · have hF : F_LabelsOf xs l = ([], r) := by rw [← hr.out]; exact M.ocond_no (by rw [hr.out]; exact h0)
    have h01 : (r != 0) = true := by simpa using h0
    rw [hF]
    clear hF
    go_enter Try.func40, Try.ntmps40
    go_wp2_with fail
    rw [← hW]
    clear hW
    go_region_held3 (fun w' => w'.cell? ⟨w.heap.size, 0, none⟩ = some (.slice A xs.length c) ∧ Hid (Below W.heap.size W w')) (first | exact ⟨e0, K0⟩ | exact ⟨cell_be cT (Hid.out (by assumption)), by assumption⟩) (first | (go_at_call 72; refine (HO.out _ (by assumption)).mono ?_; rintro e w4 ⟨g4, rfl, hs4, hb4⟩) | (go_at_call 56; refine (HC.out _ _ (by assumption) (by assumption)).mono ?_; rintro e w5 ⟨rfl, hb5⟩))
    have hB5 := Lib.hid (btr hB0.out hb5.out)
    clear HO HC K0 e0 hb4 hs4
    go_wp2
    go_ret2
    exact ⟨none, 0, rfl, own64_nil _ _, hB5.out⟩

set_option maxHeartbeats 4000000 in
set_option maxRecDepth 100000 in
theorem spec_LabelsOf : GivesOL 39 F_LabelsOf := by
  intro A A2 xs l c c2 w hx hl hcc hcc2 h h2
  have hB0 := Lib.hid (bal (b0 w) (.cells #[.slice A xs.length c] 28))
  obtain ⟨r, hr⟩ : ∃ r, Hid (M.gcode xs l = r) := ⟨_, rfl⟩
  have hC := l09Code A A2 xs l c c2 (w.alloc (.cells #[.slice A xs.length c] 28)) hx hl (h.al _) (h2.al _)
  rw [hr.out] at hC
  have HC := Lib.hid hC
  have H2 := Lib.hid h2
  clear hC h h2
  by_cases h0 : r = 0
  · subst h0
    have hz := M.gcode_zero hr.out
    have hlen := (M.tree_len hz.1).2
    have Ho := Lib.hid hz.2.1
    have hll : l.length = xs.length := (M.isOrd_iff.1 Ho.out).1
    have hF : F_LabelsOf xs l = (M.labs l.length l, 0) := by rw [hll]; exact M.ocond_yes hr.out
    rw [hF]
    rw [← hll] at hlen Ho
    obtain ⟨n, hn⟩ : ∃ n, Hid (l.length = n) := ⟨_, rfl⟩
    rw [hn.out] at hlen Ho ⊢
    rw [hn.out] at HC
    rw [show (M.labs n l, (0 : Int)).1.length = n by rw [M.labs, M.labTo_len]]
    have hmk := fun W => run_make_row' (P := Try.prog) (w := W) 22 2 (.int .i64 0) 8 Try.underlying22 info64 rfl .i64 .i64 n (by omega) (by omega)
    clear hz hF hll hr hx hl hcc hcc2
    go_enter Try.func39, Try.ntmps39
    go_wp2_with fail
    refine HC.out.mono ?_
    rintro e w1 ⟨rfl, hb⟩
    have hB1 := Lib.hid (btr hB0.out hb)
    have hmk1 := hmk w1
    have Hm := Lib.hid (own64_made (w := w1) (B := w.heap.size) (n := n) hB1.out.size (by unfold maxLen; omega))
    rw [← M.labTo_zero n l] at Hm
    have hB2 := Lib.hid (bal hB1.out (.cells (madeCells #[.int .i64 0] n) 2))
    have hz1 : w.heap.size ≤ w1.heap.size := hB1.out.size
    clear hb hmk hB0 HC hB1
    go_wp2
    clear hmk1
    generalize w1.heap.size = g at Hm hz1 ⊢
    go_loopw [8] (fun qi wr => ∃ (k : Nat), k ≤ n ∧ qi = .int .i64 (k : Int) ∧ Hid (Own64 wr w.heap.size (.slice (some ⟨g, 0, none⟩) n n) (M.labTo n l k)) ∧ Hid (Below w.heap.size w wr)) (fun qi _ => n - (intOf qi).toNat)
    case atStart => exact ⟨0, Nat.zero_le _, rfl, Hm, hB2⟩
    case round =>
      obtain ⟨k, hk, rfl, ho1, hbr⟩ := hrel
      clear Hm hB2
      by_cases hlt : k < n
      · obtain ⟨b, off, x, rfl, hbB, g1, hX⟩ := (H2.out.below hbr.out (Nat.le_refl _)).at_ (k := k) (by rw [hn.out]; exact hlt)
        have hr := (M.isOrd_iff.1 Ho.out).2.2 x (List.mem_of_getElem? hX.out)
        obtain ⟨v, rfl⟩ := Int.eq_ofNat_of_zero_le hr.1
        have hv : v < n := by omega
        have hv0 : (0 : Int) ≤ (v : Int) := by omega
        have hv1 : (v : Int) < (n : Int) := hr.2
        have hki : (k : Int) < (n : Int) := by omega
        have hk0 : (0 : Int) ≤ (k : Int) := by omega
        have hs := Lib.hid (M.labTo_step Ho.out hX.out)
        have hset := Lib.hid (own64_set ho1.out (M.labTo_len n l k) v (k : Int))
        rw [hs.out] at hset
        obtain ⟨y, hy⟩ : ∃ y, (M.labTo n l k)[v]? = some y := ⟨_, List.getElem?_eq_getElem (by rw [M.labTo_len]; exact hv)⟩
        obtain ⟨c3, f3, _, hw3⟩ := own64_cell ho1.out (M.labTo_len n l k) hy
        have hb2 := Lib.hid (below_setCell hbr.out hz1 (k := v) (.int .i64 (k : Int)))
        clear hX hs hr hy
        go_wp2
        go_roundw
        case rel => exact ⟨k + 1, by omega, by go_num, hset, hb2⟩
        case measure => simp [intOf]; omega
      · obtain rfl : k = n := by omega
        have hge : ¬ (k : Int) < (k : Int) := by omega
        have hR : Hid (M.labTo k l k = M.labs k l) := by show _ = _; rw [M.labs, hn.out]
        rw [hR.out] at ho1
        clear hR
        go_wp2
        go_ret2
        exact ⟨_, _, rfl, ho1.out, hbr.out⟩
  · have hF : F_LabelsOf xs l = ([], r) := by rw [← hr.out]; exact M.ocond_no (by rw [hr.out]; exact h0)
    have h01 : (r != 0) = true := by simpa using h0
    rw [hF]
    clear hF
    go_enter Try.func39, Try.ntmps39
    go_wp2_with fail
    refine HC.out.mono ?_
    rintro e w1 ⟨rfl, hb⟩
    have hB1 := Lib.hid (btr hB0.out hb)
    go_wp2
    go_ret2
    exact ⟨none, 0, rfl, own64_nil _ _, hB1.out⟩
end Go.Proofs.Ytgnhmhfianmckaa
