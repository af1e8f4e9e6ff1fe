/- AncestorOf, the program's and the model's: the node some steps above a node, or a code. -/
import Derived.Test.YtamnilpmdccgoaaWayIn
import Derived.Test.YtamnilpmdccgoaaParentsIn
import Derived.Test.YtamnilpmdccgoaaHeavy
import Derived.Test.YtamnilpmdccgoaaFirst
namespace Go.Proofs.Ytamnilpmdccgoaa
open Go.RowKit

set_option maxHeartbeats 4000000 in
set_option maxRecDepth 100000 in
theorem impl_AncestorOf : GivesNum2 34 M.ancestorOf := by
  intro A xs c v k w hx hcc h
  obtain ⟨r, hr⟩ : ∃ r, Hid (M.code xs [v] = r) := ⟨_, rfl⟩
  have hc := codeOf A (some ⟨w.heap.size + 1, 0, none⟩) xs [v] c 1 ((w.alloc (.cells #[.slice A xs.length c] 28)).alloc (.cells #[.int .i64 v] 2)) (by omega) (by simp) ((h.al _).al _) (by have := ints_new (w.alloc (.cells #[.slice A xs.length c] 28)) #[.int .i64 v] [v] rfl; simpa using this) r hr
  simp only [List.length_cons, List.length_nil, Nat.zero_add] at hc
  have HC := Lib.hid hc
  clear hc
  by_cases h0 : r = 0
  · subst h0
    by_cases hk : 0 ≤ k ∧ k ≤ 24
    · have hn := M.code_node hr.out
      have Ht := Lib.hid (M.code_tree hr.out)
      have hlen := (M.tree_len Ht.out).2
      obtain ⟨v, rfl⟩ := Int.eq_ofNat_of_zero_le hn.1
      obtain ⟨k, rfl⟩ := Int.eq_ofNat_of_zero_le hk.1
      have hvl : v < xs.length := by simpa using hn.2.1
      have hpos : 0 < xs.length := by omega
      have hk2 : k ≤ 24 := by omega
      have hwl := M.way_len Ht.out (M.pars_ex Ht.out) hvl hpos
      have hF1 := Lib.hid (fun hw => M.ancestorOf_none hr.out hk2 hw)
      have hF2 := Lib.hid (fun a hw => M.ancestorOf_some (a := a) hr.out hk2 hw)
      have HI : Hid ((decide ((0 : Int) ≤ (k : Int)) && decide ((k : Int) ≤ 24)) = true) := by show _ = _; simp; omega
      clear hn hk
      go_enter Try.func34, Try.ntmps34
      go_wp2_with fail
      refine HC.out.mono ?_
      rintro e w1 ⟨rfl, hb⟩
      have hB := Lib.hid (btr (bal (bal (b0 w) _) _) hb)
      have HcellA := Lib.hid (show w1.cell? ⟨w.heap.size, 0, none⟩ = some (.slice A xs.length c) from cell_be (cell_al (by simp) _) hb)
      have h1 := Lib.hid (((h.al _).al _).be hb)
      clear hb h HC
      have hcA := HcellA.out
      go_wp2_with (first | (go_at_call 83; refine (withinAny _ _ _ _ true HI).mono ?_; rintro e w' ⟨rfl, rfl⟩) | fail)
      refine ((callsIn_wide (n := 5)).1 (parentsIn_in A xs c _ hcc.1 hcc.2 Ht h1.out)).mono ?_
      rintro e w2 ⟨A', c', ps, rfl, hok, ho, hb⟩
      have hB2 := Lib.hid (btr hB.out hb)
      have z2 := hB2.out.size
      have HW := Lib.hid (wayIn A' xs ps c' v 0 w2 Ht hok hvl hpos (Lib.hid (ints_of_own64 ho)))
      clear ho hb hok hcA
      go_wp2_with fail
      refine HW.out.mono ?_
      rintro e w3 ⟨A3, c3, rfl, ho3, hb3⟩
      have hB3 := Lib.hid (btr hB2.out hb3)
      have Ho3 := Lib.hid (ints_of_own64 ho3)
      clear hb3 HW ho3
      generalize hW : M.way xs v 0 = W at *
      by_cases hkl : W.length ≤ k
      · have hF := Lib.hid (hF1.out hkl)
        have hge : (W.length : Int) ≤ (k : Int) := by omega
        clear hF1 hF2
        go_wp2
        go_ret2
        exact ⟨by rw [hF.out]; rfl, hB3.out⟩
      · obtain ⟨b, off, a, rfl, hbB, g, hX⟩ := Ho3.out.at_ (k := k) (by omega)
        have hF := Lib.hid (hF2.out a hX.out)
        have hlt : (k : Int) < (W.length : Int) := by omega
        have hk0 : (0 : Int) ≤ (k : Int) := by omega
        clear hF1 hF2 hX
        go_wp2
        go_ret2
        exact ⟨by rw [hF.out]; rfl, hB3.out⟩
    · rw [M.ancestorOf_range hr.out hk]
      have HI : Hid ((decide ((0 : Int) ≤ k) && decide (k ≤ 24)) = false) := by show _ = _; simp; omega
      go_enter Try.func34, Try.ntmps34
      go_wp2_with fail
      refine HC.out.mono ?_
      rintro e w1 ⟨rfl, hb⟩
      have hB := Lib.hid (btr (bal (bal (b0 w) _) _) hb)
      clear hb h HC
      go_wp2_with (go_at_call 83; refine (withinAny _ _ _ _ false HI).mono ?_; rintro e w' ⟨rfl, rfl⟩)
      go_ret2
      exact ⟨rfl, hB.out⟩
  · rw [M.ancestorOf_no (by rw [hr.out]; exact h0), hr.out]
    have hq : (r != 0) = true := by simp [h0]
    clear h0
    go_enter Try.func34, Try.ntmps34
    go_wp2_with fail
    refine HC.out.mono ?_
    rintro e w1 ⟨rfl, hb⟩
    have hB := btr (bal (bal (b0 w) _) _) hb
    go_wp2
    go_ret2
    exact ⟨rfl, hB⟩

set_option maxHeartbeats 4000000 in
set_option maxRecDepth 100000 in
theorem spec_AncestorOf : GivesNum2 33 M.ancestorOf := by
  intro A xs c v k w hx hcc h
  obtain ⟨r, hr⟩ : ∃ r, Hid (M.code xs [v] = r) := ⟨_, rfl⟩
  have hc := l01Nodes A (some ⟨w.heap.size + 1, 0, none⟩) xs [v] c 1 ((w.alloc (.cells #[.slice A xs.length c] 28)).alloc (.cells #[.int .i64 v] 2)) (by omega) (by simp) ((h.al _).al _) (by have := ints_new (w.alloc (.cells #[.slice A xs.length c] 28)) #[.int .i64 v] [v] rfl; simpa using this) r hr
  simp only [List.length_cons, List.length_nil, Nat.zero_add] at hc
  have HC := Lib.hid hc
  clear hc
  by_cases h0 : r = 0
  · subst h0
    have hq0 : ((0 : Int) == 0) = true := rfl
    by_cases hk : 0 ≤ k ∧ k ≤ 24
    · have hn := M.code_node hr.out
      have Ht := Lib.hid (M.code_tree hr.out)
      have hlen := (M.tree_len Ht.out).2
      obtain ⟨v, rfl⟩ := Int.eq_ofNat_of_zero_le hn.1
      obtain ⟨k, rfl⟩ := Int.eq_ofNat_of_zero_le hk.1
      have hvl : v < xs.length := by simpa using hn.2.1
      have hpos : 0 < xs.length := by omega
      have hk2 : k ≤ 24 := by omega
      have hF1 := Lib.hid (fun hw => M.ancestorOf_none hr.out hk2 hw)
      have hF2 := Lib.hid (fun a hw => M.ancestorOf_some (a := a) hr.out hk2 hw)
      have HI : Hid ((decide ((0 : Int) ≤ (k : Int)) && decide ((k : Int) ≤ 24)) = true) := by show _ = _; simp; omega
      clear hn hk
      go_enter Try.func33, Try.ntmps33
      go_wp2_with fail
      refine HC.out.mono ?_
      rintro e w1 ⟨rfl, hb⟩
      have hB := Lib.hid (btr (bal (bal (b0 w) _) _) hb)
      have HcellA := Lib.hid (show w1.cell? ⟨w.heap.size, 0, none⟩ = some (.slice A xs.length c) from cell_be (cell_al (by simp) _) hb)
      have h1 := Lib.hid (((h.al _).al _).be hb)
      clear hb h HC
      have hcA := HcellA.out
      go_wp2_with (first | (go_at_call 81; refine (inAny _ _ _ _ true HI).mono ?_; rintro e w' ⟨rfl, rfl⟩) | fail)
      refine (l01Parents A xs c _ Ht h1.out).mono ?_
      rintro e w2 ⟨A', c', ps, rfl, hok, ho, hb⟩
      have hB2 := Lib.hid (btr hB.out hb)
      have z2 := hB2.out.size
      have Ho := Lib.hid (ints_of_own64 ho)
      have hA0 := Lib.hid (M.anc_zero Ht.out hok.out hvl)
      clear ho hb hcA
      go_wp2
      go_loopw [1, 2] (fun qv qk wr => ∃ (a j : Nat), j ≤ k ∧ a < xs.length ∧ qv = .int .i64 (a : Int) ∧ qk = .int .i64 ((k : Int) - (j : Int)) ∧ Hid (M.Anc ps (M.way xs v 0) j a) ∧ w2 = wr) (fun _ qk _ => (intOf qk).toNat)
      case atStart => exact ⟨v, 0, Nat.zero_le _, hvl, rfl, by go_num, hA0, rfl⟩
      case round =>
        obtain ⟨a, j, hjk, hal, rfl, rfl, hA, rfl⟩ := hrel
        clear hA0
        by_cases hlt : j < k
        · have hpl : ps.length = xs.length := hok.out.1
          obtain ⟨pb, off, x, rfl, hpb, g, hX⟩ := Ho.out.at_ (k := a) (by omega)
          have ha0 : (0 : Int) ≤ (a : Int) := by omega
          have hal' : (a : Int) < (xs.length : Int) := by omega
          have hkj : (0 : Int) < (k : Int) - (j : Int) := by omega
          rcases Nat.eq_zero_or_pos a with hz | hz
          · subst hz
            have hx0 := hok.out.2.1
            rw [hX.out] at hx0
            injection hx0 with hx0
            subst hx0
            have hl := M.anc_root hA.out
            have hF := Lib.hid (hF1.out (by omega))
            have g0 : w2.cell? ⟨pb, off, none⟩ = some (.int .i64 (-1)) := by simpa using g
            clear hF1 hF2 hX hA g
            go_wp2
            go_ret2
            exact ⟨by rw [hF.out]; rfl, hB2.out⟩
          · obtain ⟨p, hp1, hp2, _⟩ := M.par_has Ht.out hok.out hz hal
            rw [hX.out] at hp1
            injection hp1 with hp1
            subst hp1
            have hA2 := Lib.hid (M.anc_step Ht.out hok.out hz hal hX.out hA.out)
            have hnn : ¬ (p : Int) < 0 := by omega
            clear hX hA
            go_wp2
            go_roundw
            case rel => exact ⟨p, j + 1, by omega, by omega, rfl, by go_num, hA2, trivial⟩
            case measure => simp [intOf]; omega
        · obtain rfl : j = k := by omega
          have hF := Lib.hid (hF2.out _ (M.anc_at Ht.out hok.out hal hA.out))
          have hkj : ¬ (0 : Int) < (j : Int) - (j : Int) := by omega
          clear hF1 hF2
          go_wp2
          go_ret2
          exact ⟨by rw [hF.out]; rfl, hB2.out⟩
    · rw [M.ancestorOf_range hr.out hk]
      have HI : Hid ((decide ((0 : Int) ≤ k) && decide (k ≤ 24)) = false) := by show _ = _; simp; omega
      go_enter Try.func33, Try.ntmps33
      go_wp2_with fail
      refine HC.out.mono ?_
      rintro e w1 ⟨rfl, hb⟩
      have hB := Lib.hid (btr (bal (bal (b0 w) _) _) hb)
      clear hb h HC
      go_wp2_with (go_at_call 81; refine (inAny _ _ _ _ false HI).mono ?_; rintro e w' ⟨rfl, rfl⟩)
      go_ret2
      exact ⟨rfl, hB.out⟩
  · rw [M.ancestorOf_no (by rw [hr.out]; exact h0), hr.out]
    have hq : (r == 0) = false := by simp [h0]
    have hq2 : (r != 0) = true := by simp [h0]
    clear h0
    go_enter Try.func33, Try.ntmps33
    go_wp2_with fail
    refine HC.out.mono ?_
    rintro e w1 ⟨rfl, hb⟩
    have hB := btr (bal (bal (b0 w) _) _) hb
    go_wp2
    go_ret2
    exact ⟨rfl, hB⟩
end Go.Proofs.Ytamnilpmdccgoaa
