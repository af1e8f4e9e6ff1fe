/- WayBetween, the program's and the model's: the nodes on the way, or a code. -/
import Derived.Test.YtbnnlifpldgcfaaWayIn
import Derived.Test.YtbnnlifpldgcfaaParentsIn
import Derived.Test.YtbnnlifpldgcfaaGives2
namespace Go.Proofs.Ytbnnlifpldgcfaa
open Go.RowKit

noncomputable def F_WayBetween (xs : List Int) (v u : Int) : List Int × Int := M.wayBetween xs v u
theorem F_WayBetween_len (xs : List Int) (v u : Int) : (F_WayBetween xs v u).1.length ≤ 1048576 := by
  by_cases h : M.code xs [v, u] = 0
  · have hn1 := M.code_node h
    have hn2 := M.code_node hn1.2.2
    have ht := M.code_tree h
    have hw : (M.wayBetween xs v u).1 = M.way xs v.toNat u.toNat := by simp [M.wayBetween, h]
    rw [F_WayBetween, hw]
    by_cases hE : ∃ ps, M.ParsOK xs ps
    · have := M.way_len ht hE hn1.2.1 hn2.2.1; omega
    · have hp : M.parents xs = [] := by rw [M.parents, dif_neg hE]
      have hup : ∀ (k m a : Nat), (M.up [] m k a).length ≤ k := by
        intro k
        induction k with
        | zero => intro m a; simp [M.up]
        | succ k ih => intro m a; rw [M.up]; split; · simp
                       · have := ih m ([][a]?.getD 0 : Int).toNat; simp only [List.length_cons]; omega
      rw [M.way, hp]
      have h1 := hup v.toNat (M.meet xs v.toNat u.toNat) v.toNat
      have h2 := hup u.toNat (M.meet xs v.toNat u.toNat) u.toNat
      have h3 := (M.tree_len ht).2
      have h4 := hn1.2.1
      have h5 := hn2.2.1
      simp only [List.length_append, List.length_singleton, List.length_reverse, M.upTo]
      omega
  · rw [F_WayBetween, M.wayBetween_no h]; simp

set_option maxHeartbeats 4000000 in
set_option maxRecDepth 100000 in
theorem impl_WayBetween : GivesList2 30 F_WayBetween := by
  intro A xs c v u w hx hcc h
  obtain ⟨r, hr⟩ : ∃ r, Hid (M.code xs [v, u] = r) := ⟨_, rfl⟩
  have hc := codeOf A (some ⟨w.heap.size + 1, 0, none⟩) xs [v, u] c 2 ((w.alloc (.cells #[.slice A xs.length c] 24)).alloc (.cells #[.int .i64 v, .int .i64 u] 2)) (by omega) (by simp) ((h.al _).al _) (by have := ints_new (w.alloc (.cells #[.slice A xs.length c] 24)) #[.int .i64 v, .int .i64 u] [v, u] rfl; simpa using this) r hr
  simp only [List.length_cons, List.length_nil, Nat.zero_add, Nat.reduceAdd] at hc
  have HC := Lib.hid hc
  clear hc
  by_cases h0 : r = 0
  · subst h0
    have hn1 := M.code_node hr.out
    have hn2 := M.code_node hn1.2.2
    have Ht := Lib.hid (M.code_tree hr.out)
    have hlen := (M.tree_len Ht.out).2
    obtain ⟨v, rfl⟩ := Int.eq_ofNat_of_zero_le hn1.1
    obtain ⟨u, rfl⟩ := Int.eq_ofNat_of_zero_le hn2.1
    have hvl : v < xs.length := by simpa using hn1.2.1
    have hul : u < xs.length := by simpa using hn2.2.1
    have hF : F_WayBetween xs (v : Int) (u : Int) = (M.way xs v u, 0) := M.wayBetween_yes hr.out
    rw [hF]
    clear hF hn1 hn2
    go_enter Try.func30, Try.ntmps30
    go_wp2_with fail
    refine HC.out.mono ?_
    rintro e w1 ⟨rfl, hb⟩
    have hB := Lib.hid (btr (bal (bal (b0 w) _) _) hb)
    have HcellA := Lib.hid (show w1.cell? ⟨w.heap.size, 0, none⟩ = some (.slice A xs.length c) from cell_be (cell_al (by simp) _) hb)
    have hcA := HcellA.out
    have h1 := Lib.hid (((h.al _).al _).be hb)
    clear hb h HC
    go_wp2_with fail
    refine ((callsIn_wide (n := 5)).1 (parentsIn_in A xs c _ hcc.1 hcc.2 Ht h1.out)).mono ?_
    rintro e w2 ⟨A', c', ps, rfl, hok, ho, hb⟩
    have hB2 := Lib.hid (btr hB.out hb)
    have z2 := hB2.out.size
    have HW := Lib.hid (wayIn A' xs ps c' v u w2 Ht (Lib.hid hok) hvl hul (Lib.hid (ints_of_own64 (hok.1 ▸ ho))))
    clear ho hb hok hcA
    go_wp2_with fail
    refine HW.out.mono ?_
    rintro e w3 ⟨A3, c3, rfl, ho3, hb3⟩
    have hB3 := Lib.hid (btr hB2.out hb3)
    have Ho3 := Lib.hid (own_mono ho3 z2)
    clear ho3 hb3 HW
    go_wp2
    go_ret2
    exact ⟨A3, c3, rfl, Ho3.out, hB3.out⟩
  · have hF : F_WayBetween xs v u = ([], r) := by rw [F_WayBetween, M.wayBetween_no (by rw [hr.out]; exact h0), hr.out]
    rw [hF]
    have hq : (r != 0) = true := by simp [h0]
    clear hF h0
    go_enter Try.func30, Try.ntmps30
    go_wp2_with fail
    refine HC.out.mono ?_
    rintro e w1 ⟨rfl, hb⟩
    have hB := btr (bal (bal (b0 w) _) _) hb
    go_wp2
    go_ret2
    exact ⟨none, 0, rfl, own64_nil _ _, hB⟩

set_option maxHeartbeats 4000000 in
set_option maxRecDepth 100000 in
theorem spec_WayBetween : GivesList2 29 F_WayBetween := by
  intro A xs c v u w hx hcc h
  obtain ⟨r, hr⟩ : ∃ r, Hid (M.code xs [v, u] = r) := ⟨_, rfl⟩
  have hc := l01Nodes A (some ⟨w.heap.size + 1, 0, none⟩) xs [v, u] c 2 ((w.alloc (.cells #[.slice A xs.length c] 24)).alloc (.cells #[.int .i64 v, .int .i64 u] 2)) (by omega) (by simp) ((h.al _).al _) (by have := ints_new (w.alloc (.cells #[.slice A xs.length c] 24)) #[.int .i64 v, .int .i64 u] [v, u] rfl; simpa using this) r hr
  simp only [List.length_cons, List.length_nil, Nat.zero_add, Nat.reduceAdd] at hc
  have HC := Lib.hid hc
  clear hc
  by_cases h0 : r = 0
  · subst h0
    have hn1 := M.code_node hr.out
    have hn2 := M.code_node hn1.2.2
    have Ht := Lib.hid (M.code_tree hr.out)
    obtain ⟨v, rfl⟩ := Int.eq_ofNat_of_zero_le hn1.1
    obtain ⟨u, rfl⟩ := Int.eq_ofNat_of_zero_le hn2.1
    have hvl : v < xs.length := by simpa using hn1.2.1
    have hul : u < xs.length := by simpa using hn2.2.1
    have hF : F_WayBetween xs (v : Int) (u : Int) = (M.way xs v u, 0) := M.wayBetween_yes hr.out
    rw [hF]
    clear hF hn1 hn2
    go_enter Try.func29, Try.ntmps29
    go_wp2_with fail
    refine HC.out.mono ?_
    rintro e w1 ⟨rfl, hb⟩
    have hB := Lib.hid (btr (bal (bal (b0 w) _) _) hb)
    have hcell : w1.cell? ⟨w.heap.size, 0, none⟩ = some (.slice A xs.length c) := cell_be (cell_al (by simp) _) hb
    have h1 := Lib.hid (((h.al _).al _).be hb)
    have z1 := hB.out.size
    clear hb h HC
    go_wp2_with fail
    refine (l05Way A xs c v u _ Ht hvl hul h1).mono ?_
    rintro e w2 ⟨A3, c3, rfl, ho3, hb3⟩
    have hB3 := Lib.hid (btr hB.out hb3)
    have Ho3 := Lib.hid (own_mono ho3 z1)
    clear ho3 hb3
    go_wp2
    go_ret2
    exact ⟨A3, c3, rfl, Ho3.out, hB3.out⟩
  · have hF : F_WayBetween xs v u = ([], r) := by rw [F_WayBetween, M.wayBetween_no (by rw [hr.out]; exact h0), hr.out]
    rw [hF]
    have hq : (r != 0) = true := by simp [h0]
    clear hF h0
    go_enter Try.func29, Try.ntmps29
    go_wp2_with fail
    refine HC.out.mono ?_
    rintro e w1 ⟨rfl, hb⟩
    have hB := btr (bal (bal (b0 w) _) _) hb
    go_wp2
    go_ret2
    exact ⟨none, 0, rfl, own64_nil _ _, hB⟩
end Go.Proofs.Ytbnnlifpldgcfaa
