/- FreePlaces, the program's and the model's: the free places of a growing order, or a code. -/
import Derived.Test.YtgnhmhfianmckaaSel
namespace Go.Proofs.Ytgnhmhfianmckaa
open Go.RowKit

noncomputable def F_FreePlaces (xs l : List Int) : List Int × Int := M.ocond xs l (M.selTo (M.freeAt (M.parents xs) l) (xs.length - 1))
theorem F_FreePlaces_len (xs l : List Int) : (F_FreePlaces xs l).1.length ≤ 1048576 := by
  by_cases h : M.gcode xs l = 0
  · rw [F_FreePlaces, M.ocond_yes h]
    have := M.tree_len (M.gcode_zero h).1
    have h2 := M.selTo_len (M.freeAt (M.parents xs) l) (xs.length - 1)
    show (M.selTo _ _).length ≤ _
    omega
  · rw [F_FreePlaces, M.ocond_no h]; simp

set_option maxHeartbeats 4000000 in
set_option maxRecDepth 100000 in
theorem impl_FreePlaces : GivesOL 42 F_FreePlaces := by
  intro A A2 xs l c c2 w hx hl hcc hcc2 h h2
  obtain ⟨W, hW⟩ : ∃ W, W = (w.alloc (.cells #[.slice A xs.length c] 28)).alloc (.cells #[.slice A xs.length c, .slice A2 l.length c2] 54) := ⟨_, rfl⟩
  obtain ⟨f0, f1⟩ := order_cells (w.alloc (.cells #[.slice A xs.length c] 28)) (.slice A xs.length c) (.slice A2 l.length c2) 54
  rw [World.size_alloc] at f0 f1
  have hB0 : Hid (Below w.heap.size w W) := by rw [hW]; exact bal (bal (b0 w) _) _
  have H1 : Hid (Ints W W.heap.size A xs) := by rw [hW]; exact (h.al _).al _
  have H2 : Hid (Ints W W.heap.size A2 l) := by rw [hW]; exact (h2.al _).al _
  rw [← hW] at f0 f1
  obtain ⟨r, hr⟩ : ∃ r, Hid (M.gcode xs l = r) := ⟨_, rfl⟩
  have hO : ∀ X, Hid (Below W.heap.size W X) → Calls Try.prog 72 #[] X fun e w' => ∃ g, e = .returned (.slice (some ⟨g, 0, none⟩) 3 3) ∧ Hid (StepsIn w' g 3) ∧ Hid (Below W.heap.size W w') := fun X hX =>
    (orderSteps X).mono fun e w' ⟨g, he, hs, hb⟩ => ⟨g, he, hs, btr hX.out hb⟩
  have hC : ∀ g X, Hid (Below W.heap.size W X) → Hid (StepsIn X g 3) → Calls Try.prog 56 #[.agg #[.slice A xs.length c, .slice A2 l.length c2], .slice (some ⟨g, 0, none⟩) 3 3] X fun e w' => e = .returned (.int .i64 r) ∧ Hid (Below W.heap.size W w') := fun g X hX hs =>
    (codeAll A A2 xs l c c2 g X hx hcc (Lib.hid (H1.out.be hX.out)) (Lib.hid (H2.out.be hX.out)) hs r hr).mono fun e w' ⟨he, hb⟩ => ⟨he, btr hX.out hb⟩
  have HO := Lib.hid hO
  have HC := Lib.hid hC
  clear hO hC h h2
  have K0 : Hid (Below W.heap.size W W.drew) := (Below.refl _ _).drew
  have e0 : W.drew.cell? ⟨w.heap.size + 1, 0, none⟩ = some (.slice A xs.length c) := f0
  have e1 : W.drew.cell? ⟨w.heap.size + 1, 1, none⟩ = some (.slice A2 l.length c2) := f1
  by_cases h0 : r = 0
  · subst h0
    have hz := M.gcode_zero hr.out
    have Ht := Lib.hid hz.1
    have hlen := M.tree_len Ht.out
    have Ho := Lib.hid hz.2.1
    have hll : l.length = xs.length := (M.isOrd_iff.1 Ho.out).1
    obtain ⟨f, hf⟩ : ∃ f, Hid (M.freeAt (M.parents xs) l = f) := ⟨_, rfl⟩
    have hF : F_FreePlaces xs l = (M.selTo f (l.length - 1), 0) := by rw [hll, ← hf.out]; exact M.ocond_yes hr.out
    rw [hF]
    have HA := Lib.hid (fun (i : Nat) X (hi : i + 1 < xs.length) (hX : Below W.heap.size W X) => areFree A A2 xs l c c2 xs.length i X rfl hcc.1 hcc.2 Ht Ho hi (Lib.hid (H1.out.be hX)) (Lib.hid (H2.out.be hX)))
    rw [← hll] at HA
    have HA2 : Hid (∀ (i : Nat) X, i + 1 < l.length → Below W.heap.size W X → Calls Try.prog 81 #[.agg #[.slice A xs.length c, .slice A2 l.length c2], .int .i64 (i : Int)] X fun e w' => e = .returned (.bool (f i)) ∧ Below X.heap.size X w') := by
      intro i X hi hX
      have := HA.out i X hi hX
      rw [← hf.out, ← hll]
      exact this
    have hn1 : 1 ≤ l.length := by omega
    have hn24 : l.length ≤ 24 := by omega
    have hwr : IntKind.i64.wrap ((l.length : Int) - 1) = (l.length : Int) - 1 := IntWalk.i64_in _ (by omega)
    clear hz hF hll HA hr hf H1 H2
    go_enter Try.func42, Try.ntmps42
    go_wp2_with fail
    rw [← hW]
    clear hW
    go_region_held3 (fun w' => w'.cell? ⟨w.heap.size + 1, 0, none⟩ = some (.slice A xs.length c) ∧ w'.cell? ⟨w.heap.size + 1, 1, none⟩ = some (.slice A2 l.length c2) ∧ Hid (Below W.heap.size W w')) (first | exact ⟨e0, e1, K0⟩ | exact ⟨cellOf_be f0 (Hid.out (by assumption)), cellOf_be f1 (Hid.out (by assumption)), by assumption⟩) (first | (go_at_call 72; refine (HO.out _ (by assumption)).mono ?_; rintro e w4 ⟨g4, rfl, hs4, hb4⟩) | (go_at_call 56; refine (HC.out _ _ (by assumption) (by assumption)).mono ?_; rintro e w5 ⟨rfl, hb5⟩))
    have hB5 := Lib.hid (btr hB0.out hb5.out)
    have hz5 : w.heap.size ≤ w5.heap.size := hB5.out.size
    have hst : Hid (Own64 w5 w5.heap.size (.slice none 0 0) (M.selTo f 0)) := own64_nil _ _
    clear HO HC K0 e0 e1 hb4 hs4
    go_wp2
    go_loopw [8, 9, 22] (fun q _ i wr => ∃ (k n : Nat) (A' : Option Addr) (c' : Nat), k ≤ l.length - 1 ∧ i = .int .i64 (k : Int) ∧ q = .slice A' n c' ∧ Hid (Own64 wr w5.heap.size (.slice A' n c') (M.selTo f k)) ∧ Hid (Below w5.heap.size w5 wr)) (fun _ _ i _ => l.length - (intOf i).toNat)
    case atStart => exact ⟨0, 0, none, 0, Nat.zero_le _, rfl, rfl, hst, Below.refl _ _⟩
    case round =>
      obtain ⟨k, n, A', c', hk, rfl, rfl, ho, hbr⟩ := hrel
      clear hst
      have hn := own64_len ho.out
      have hsl := M.selTo_len f k
      have hbW := Lib.hid (btr hb5.out hbr.out)
      have f0r := cellOf_be f0 hbW.out
      have f1r := cellOf_be f1 hbW.out
      by_cases hlt : k + 1 < l.length
      · have hki : (k : Int) < (l.length : Int) - 1 := by omega
        have HAk := Lib.hid (HA2.out k wr hlt hbW.out)
        have hn2 : n ≤ 1000000 := by omega
        obtain ⟨b, hb⟩ : ∃ b, Hid (f k = b) := ⟨_, rfl⟩
        rw [hb.out] at HAk
        clear hn hsl
        go_wp2_with fail
        refine HAk.out.mono ?_
        rintro e w7 ⟨rfl, hb7⟩
        have hb8 := Lib.hid (btr hbr.out hb7)
        have ho7 := Lib.hid (own_be ho.out hb7)
        have hz7 : w5.heap.size ≤ w7.heap.size := hb8.out.size
        clear hb7 ho HAk f0r f1r
        cases b
        · have hs := M.selTo_miss hb.out
          rw [← hs] at ho7
          clear hs
          go_wp2
          go_roundw
          case rel => exact ⟨k + 1, n, A', c', by omega, by go_num, rfl, ho7, hb8⟩
          case measure => simp [intOf]; omega
        · have hs := Lib.hid (M.selTo_hit hb.out)
          go_wp2_with (at_builtin; refine push64 rfl (.tmp 28) (.tmp 30) rfl w7 w5.heap.size A' n c' (M.selTo f k) (k : Int) rfl rfl ho7 hz7 hn2 ?_; intro A9 c9 w9 ho9 hb9)
          rw [← hs.out] at ho9
          have hb10 := Lib.hid (hb8.out.trans hb9.out)
          go_roundw
          case rel => exact ⟨k + 1, n + 1, A9, c9, by omega, by go_num, rfl, ho9, hb10⟩
          case measure => simp [intOf]; omega
      · obtain rfl : k = l.length - 1 := by omega
        have hki : ¬ (((l.length - 1 : Nat) : Int) < (l.length : Int) - 1) := by omega
        have ho' := Lib.hid (own_mono ho.out hz5)
        have hB6 := Lib.hid (btr hB5.out hbr.out)
        clear f0r f1r
        subst hn
        go_wp2
        go_ret2
        exact ⟨_, _, rfl, ho'.out, hB6.out⟩
  · have hF : F_FreePlaces xs l = ([], r) := by rw [← hr.out]; exact M.ocond_no (by rw [hr.out]; exact h0)
    have h01 : (r != 0) = true := by simpa using h0
    rw [hF]
    clear hF
    go_enter Try.func42, Try.ntmps42
    go_wp2_with fail
    rw [← hW]
    clear hW
    go_region_held3 (fun w' => w'.cell? ⟨w.heap.size + 1, 0, none⟩ = some (.slice A xs.length c) ∧ w'.cell? ⟨w.heap.size + 1, 1, none⟩ = some (.slice A2 l.length c2) ∧ Hid (Below W.heap.size W w')) (first | exact ⟨e0, e1, K0⟩ | exact ⟨cellOf_be f0 (Hid.out (by assumption)), cellOf_be f1 (Hid.out (by assumption)), by assumption⟩) (first | (go_at_call 72; refine (HO.out _ (by assumption)).mono ?_; rintro e w4 ⟨g4, rfl, hs4, hb4⟩) | (go_at_call 56; refine (HC.out _ _ (by assumption) (by assumption)).mono ?_; rintro e w5 ⟨rfl, hb5⟩))
    have hB5 := Lib.hid (btr hB0.out hb5.out)
    clear HO HC K0 e0 e1 hb4 hs4
    go_wp2
    go_ret2
    exact ⟨none, 0, rfl, own64_nil _ _, hB5.out⟩

set_option maxHeartbeats 4000000 in
set_option maxRecDepth 100000 in
theorem spec_FreePlaces : GivesOL 41 F_FreePlaces := by
  intro A A2 xs l c c2 w hx hl hcc hcc2 h h2
  obtain ⟨W, hW⟩ : ∃ W, W = w.alloc (.cells #[.slice A xs.length c] 28) := ⟨_, rfl⟩
  have cT : W.cell? ⟨w.heap.size, 0, none⟩ = some (.slice A xs.length c) := by rw [hW]; simp [go_sem]
  have hB0 : Hid (Below w.heap.size w W) := by rw [hW]; exact bal (b0 w) _
  have H1 : Hid (Ints W W.heap.size A xs) := by rw [hW]; exact h.al _
  have H2 : Hid (Ints W W.heap.size A2 l) := by rw [hW]; exact h2.al _
  obtain ⟨r, hr⟩ : ∃ r, Hid (M.gcode xs l = r) := ⟨_, rfl⟩
  have hC := l09Code A A2 xs l c c2 W hx hl H1.out H2.out
  rw [hr.out] at hC
  have HC := Lib.hid hC
  clear hC h h2
  by_cases h0 : r = 0
  · subst h0
    have hz := M.gcode_zero hr.out
    have Ht := Lib.hid hz.1
    have hlen := M.tree_len Ht.out
    have Ho := Lib.hid hz.2.1
    have hll : l.length = xs.length := (M.isOrd_iff.1 Ho.out).1
    obtain ⟨f, hf⟩ : ∃ f, Hid (M.freeAt (M.parents xs) l = f) := ⟨_, rfl⟩
    have hF : F_FreePlaces xs l = (M.selTo f (l.length - 1), 0) := by rw [hll, ← hf.out]; exact M.ocond_yes hr.out
    rw [hF]
    have HA := Lib.hid (fun (i : Nat) X (hi : i + 1 < xs.length) (hX : Below W.heap.size W X) => l09Free A A2 xs l c c2 xs.length i X rfl Ht Ho hi (Lib.hid (H1.out.be hX)) (Lib.hid (H2.out.be hX)))
    have HA2 : Hid (∀ (i : Nat) X, i + 1 < l.length → Below W.heap.size W X → Calls Try.prog 80 #[.agg #[.slice A xs.length c], .slice A2 l.length c2, .int .i64 (i : Int)] X fun e w' => e = .returned (.bool (f i)) ∧ Below X.heap.size X w') := by
      intro i X hi hX
      have := HA.out i X (by rw [← hll]; exact hi) hX
      rw [← hf.out, hll]
      exact this
    have hn1 : 1 ≤ l.length := by omega
    have hn24 : l.length ≤ 24 := by omega
    clear hz hF hll HA hr hf H1 H2
    go_enter Try.func41, Try.ntmps41
    go_wp2_with fail
    rw [← hW]
    clear hW
    refine HC.out.mono ?_
    rintro e w5 ⟨rfl, hb5⟩
    have hB5 := Lib.hid (btr hB0.out hb5)
    have hz5 : w.heap.size ≤ w5.heap.size := hB5.out.size
    have hst : Hid (Own64 (w5.alloc (.cells #[] 2)) w5.heap.size (.slice (some ⟨w5.heap.size, 0, none⟩) 0 0) (M.selTo f 0)) := own64_empty (Nat.le_refl _)
    have hb0' := Lib.hid (bal (b0 w5) (.cells #[] 2))
    have Hb5 := Lib.hid hb5
    clear HC hb5
    go_wp2
    go_loopw [7, 8] (fun q i wr => ∃ (k n : Nat) (A' : Option Addr) (c' : Nat), k ≤ l.length - 1 ∧ i = .int .i64 (k : Int) ∧ q = .slice A' n c' ∧ Hid (Own64 wr w5.heap.size (.slice A' n c') (M.selTo f k)) ∧ Hid (Below w5.heap.size w5 wr)) (fun _ i _ => l.length - (intOf i).toNat)
    case atStart => exact ⟨0, 0, _, 0, Nat.zero_le _, rfl, rfl, hst, hb0'⟩
    case round =>
      obtain ⟨k, n, A', c', hk, rfl, rfl, ho, hbr⟩ := hrel
      clear hst hb0'
      have hn := own64_len ho.out
      have hsl := M.selTo_len f k
      have hbW := Lib.hid (btr Hb5.out hbr.out)
      have f0r := cell_be cT hbW.out
      have hwr : IntKind.i64.wrap ((k : Int) + 1) = (k : Int) + 1 := IntWalk.i64_in _ (by omega)
      by_cases hlt : k + 1 < l.length
      · have hki : (k : Int) + 1 < (l.length : Int) := by omega
        have HAk := Lib.hid (HA2.out k wr hlt hbW.out)
        have hn2 : n ≤ 1000000 := by omega
        obtain ⟨b, hb⟩ : ∃ b, Hid (f k = b) := ⟨_, rfl⟩
        rw [hb.out] at HAk
        clear hn hsl
        go_wp2_with fail
        refine HAk.out.mono ?_
        rintro e w7 ⟨rfl, hb7⟩
        have hb8 := Lib.hid (btr hbr.out hb7)
        have ho7 := Lib.hid (own_be ho.out hb7)
        have hz7 : w5.heap.size ≤ w7.heap.size := hb8.out.size
        clear hb7 ho HAk f0r
        cases b
        · have hs := M.selTo_miss hb.out
          rw [← hs] at ho7
          clear hs
          go_wp2
          go_roundw
          case rel => exact ⟨k + 1, n, A', c', by omega, by go_num, rfl, ho7, hb8⟩
          case measure => simp [intOf]; omega
        · have hs := Lib.hid (M.selTo_hit hb.out)
          go_wp2_with (at_builtin; refine push64 rfl (.tmp 27) (.tmp 29) rfl w7 w5.heap.size A' n c' (M.selTo f k) (k : Int) rfl rfl ho7 hz7 hn2 ?_; intro A9 c9 w9 ho9 hb9)
          rw [← hs.out] at ho9
          have hb10 := Lib.hid (hb8.out.trans hb9.out)
          go_roundw
          case rel => exact ⟨k + 1, n + 1, A9, c9, by omega, by go_num, rfl, ho9, hb10⟩
          case measure => simp [intOf]; omega
      · obtain rfl : k = l.length - 1 := by omega
        have hki : ¬ (((l.length - 1 : Nat) : Int) + 1 < (l.length : Int)) := by omega
        have ho' := Lib.hid (own_mono ho.out hz5)
        have hB6 := Lib.hid (btr hB5.out hbr.out)
        clear f0r
        subst hn
        go_wp2
        go_ret2
        exact ⟨_, _, rfl, ho'.out, hB6.out⟩
  · have hF : F_FreePlaces xs l = ([], r) := by rw [← hr.out]; exact M.ocond_no (by rw [hr.out]; exact h0)
    have h01 : (r != 0) = true := by simpa using h0
    rw [hF]
    clear hF
    go_enter Try.func41, Try.ntmps41
    go_wp2_with fail
    rw [← hW]
    clear hW
    refine HC.out.mono ?_
    rintro e w5 ⟨rfl, hb5⟩
    have hB5 := Lib.hid (btr hB0.out hb5)
    go_wp2
    go_ret2
    exact ⟨none, 0, rfl, own64_nil _ _, hB5.out⟩
end Go.Proofs.Ytgnhmhfianmckaa
