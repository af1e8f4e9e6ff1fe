/- ChildrenOf, the program's and the model's: the children of a node, or a code. -/
import Derived.Test.YtemfaginhipihaaKids
import Derived.Test.YtemfaginhipihaaNodes
namespace Go.Proofs.Ytemfaginhipihaa
open Go.RowKit

/-- what a function of a tree and a number that hands back a list and a code must do, as F says -/
def GivesList1 (f : Nat) (F : List Int → Int → List Int × Int) : Prop :=
  ∀ (A : Option Addr) (xs : List Int) (c : Nat) (v : Int) (w : World), xs.length ≤ 1048576 → xs.length ≤ c ∧ c ≤ 1000000000000 → Ints w w.heap.size A xs →
    Calls Try.prog f #[.agg #[.slice A xs.length c], .int .i64 v] w fun e w' => ∃ A' c', e = .returned (.tuple #[.slice A' (F xs v).1.length c', .int .i64 (F xs v).2]) ∧
      Own64 w' w.heap.size (.slice A' (F xs v).1.length c') (F xs v).1 ∧ Below w.heap.size w w'

def F_ChildrenOf : List Int → Int → List Int × Int := M.childrenOf
theorem F_ChildrenOf_len (xs : List Int) (v : Int) : (F_ChildrenOf xs v).1.length ≤ 1048576 := by
  by_cases h : M.code xs [v] = 0
  · obtain ⟨h0, h1, _⟩ := M.code_node h
    obtain ⟨n, rfl⟩ := Int.eq_ofNat_of_zero_le h0
    obtain ⟨d, hd, hd2⟩ := M.tree_degN (M.code_tree h) h1
    simp only [Int.toNat_natCast] at hd
    simp only [F_ChildrenOf]
    rw [M.childrenOf_yes h hd, M.childs_length]
    omega
  · simp only [F_ChildrenOf]
    rw [M.childrenOf_no h]
    simp

set_option maxHeartbeats 1000000 in
theorem impl_ChildrenOf : GivesList1 38 F_ChildrenOf := by
  intro A xs c v w hx hcc h
  obtain ⟨r, hr⟩ : ∃ r, Hid (M.code xs [v] = r) := ⟨_, rfl⟩
  have hc := codeOf A (some ⟨w.heap.size + 1, 0, none⟩) xs [v] c 1 ((w.alloc (.cells #[.slice A xs.length c] 26)).alloc (.cells #[.int .i64 v] 2)) (by omega) (by simp) ((h.al _).al _) (by have := ints_new (w.alloc (.cells #[.slice A xs.length c] 26)) #[.int .i64 v] [v] rfl; simpa using this) r hr
  simp only [List.length_cons, List.length_nil, Nat.zero_add] at hc
  have HC := Lib.hid hc
  clear hc
  by_cases h0 : r = 0
  · subst h0
    have hn := M.code_node hr.out
    have ht := M.code_tree hr.out
    have hlen := (M.tree_len ht).2
    obtain ⟨n, rfl⟩ := Int.eq_ofNat_of_zero_le hn.1
    obtain ⟨d, hd, hd2⟩ := M.tree_degN ht hn.2.1
    simp only [Int.toNat_natCast] at hd
    have hF : F_ChildrenOf xs n = (M.childs xs n d, 0) := M.childrenOf_yes hr.out hd
    have Hd := Lib.hid hd
    have Ht := Lib.hid ht
    rw [hF]
    clear hF hn ht hd
    have hl := Lib.hid (M.childs_length xs n d)
    go_enter Try.func38, Try.ntmps38
    go_wp2_with fail
    refine HC.out.mono ?_
    rintro e w1 ⟨rfl, hb⟩
    have hB := btr (bal (bal (b0 w) _) _) hb
    have hcell : w1.cell? ⟨w.heap.size, 0, none⟩ = some (.slice A xs.length c) := cell_be (cell_al (by simp) _) hb
    have h1 := Lib.hid (((h.al _).al _).be hb)
    have z1 := hB.size
    clear hb h HC
    go_wp2_with fail
    refine (childrenIn A xs c n d _ hlen hcc.1 hcc.2 Ht Hd h1.out).mono ?_
    rintro e w2 ⟨A', c', rfl, ho, hb⟩
    have hB2 := btr hB hb
    have Ho := Lib.hid ho
    clear ho hb
    go_wp2
    go_ret2
    rw [hl.out]
    exact ⟨A', c', rfl, own_mono Ho.out z1, hB2⟩
  · have hF : F_ChildrenOf xs v = ([], r) := by rw [← hr.out]; exact M.childrenOf_no (by rw [hr.out]; exact h0)
    rw [hF]
    have hq : (r != 0) = true := by simp [h0]
    clear hF h0
    go_enter Try.func38, Try.ntmps38
    go_wp2_with fail
    refine HC.out.mono ?_
    rintro e w1 ⟨rfl, hb⟩
    have hB := btr (bal (bal (b0 w) _) _) hb
    go_wp2
    go_ret2
    exact ⟨none, 0, rfl, own64_nil _ _, hB⟩

set_option maxHeartbeats 1000000 in
theorem spec_ChildrenOf : GivesList1 41 F_ChildrenOf := by
  intro A xs c v w hx hcc h
  obtain ⟨r, hr⟩ : ∃ r, Hid (M.code xs [v] = r) := ⟨_, rfl⟩
  have hc := l01Nodes A (some ⟨w.heap.size + 1, 0, none⟩) xs [v] c 1 ((w.alloc (.cells #[.slice A xs.length c] 26)).alloc (.cells #[.int .i64 v] 2)) (by omega) (by simp) ((h.al _).al _) (by have := ints_new (w.alloc (.cells #[.slice A xs.length c] 26)) #[.int .i64 v] [v] rfl; simpa using this) r hr
  simp only [List.length_cons, List.length_nil, Nat.zero_add] at hc
  have HC := Lib.hid hc
  clear hc
  by_cases h0 : r = 0
  · subst h0
    have hn := M.code_node hr.out
    have ht := M.code_tree hr.out
    have hlen := (M.tree_len ht).2
    obtain ⟨n, rfl⟩ := Int.eq_ofNat_of_zero_le hn.1
    obtain ⟨d, hd, hd2⟩ := M.tree_degN ht hn.2.1
    simp only [Int.toNat_natCast] at hd
    have hF : F_ChildrenOf xs n = (M.childs xs n d, 0) := M.childrenOf_yes hr.out hd
    have Hd := Lib.hid hd
    have Ht := Lib.hid ht
    rw [hF]
    clear hF hn ht hd
    have hl := Lib.hid (M.childs_length xs n d)
    go_enter Try.func41, Try.ntmps41
    go_wp2_with fail
    refine HC.out.mono ?_
    rintro e w1 ⟨rfl, hb⟩
    have hB := btr (bal (bal (b0 w) _) _) hb
    have hcell : w1.cell? ⟨w.heap.size, 0, none⟩ = some (.slice A xs.length c) := cell_be (cell_al (by simp) _) hb
    have h1 := Lib.hid (((h.al _).al _).be hb)
    have z1 := hB.size
    clear hb h HC
    go_wp2_with fail
    refine (l01Children A xs c n d _ hlen Ht Hd h1.out).mono ?_
    rintro e w2 ⟨A', c', rfl, ho, hb⟩
    have hB2 := btr hB hb
    have Ho := Lib.hid ho
    clear ho hb
    go_wp2
    go_ret2
    rw [hl.out]
    exact ⟨A', c', rfl, own_mono Ho.out z1, hB2⟩
  · have hF : F_ChildrenOf xs v = ([], r) := by rw [← hr.out]; exact M.childrenOf_no (by rw [hr.out]; exact h0)
    rw [hF]
    have hq : (r != 0) = true := by simp [h0]
    clear hF h0
    go_enter Try.func41, Try.ntmps41
    go_wp2_with fail
    refine HC.out.mono ?_
    rintro e w1 ⟨rfl, hb⟩
    have hB := btr (bal (bal (b0 w) _) _) hb
    go_wp2
    go_ret2
    exact ⟨none, 0, rfl, own64_nil _ _, hB⟩
end Go.Proofs.Ytemfaginhipihaa
