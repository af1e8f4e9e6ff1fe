/- IsBelow, the program's and the model's: is a node in the subtree of another one. -/
import Derived.Test.YtemfaginhipihabNodes
namespace Go.Proofs.Ytemfaginhipihab
open Go.RowKit

set_option maxHeartbeats 1000000 in
theorem isIn (A : Option Addr) (xs : List Int) (c : Nat) (v u : Int) (w : World) (hx : xs.length ≤ 24) (hc : xs.length ≤ c) (hc' : c ≤ 1000000000000) (hu0 : 0 ≤ u) (hu : u.toNat < xs.length) (hk : Hid (M.ok 1 (xs.drop u.toNat))) (h : Ints w w.heap.size A xs) (b : Bool) (hb : Hid (M.below xs v u = b)) :
    Calls Try.prog 68 #[.slice A xs.length c, .int .i64 v, .int .i64 u] w fun e w' => e = .returned (.bool b) ∧ w = w' := by
  obtain ⟨n, rfl⟩ := Int.eq_ofNat_of_zero_le hu0
  simp only [Int.toNat_natCast] at hu hk
  by_cases hv : (n : Int) ≤ v
  · obtain ⟨S, hS⟩ : ∃ S, Hid (M.span 1 (xs.drop n) = S) := ⟨_, rfl⟩
    have hS2 : S ≤ 24 := by have h1 := M.span_le (xs.drop n) 1; have h2 : (xs.drop n).length ≤ xs.length := by simp
                            have h3 := hS.out; omega
    have hb' : b = decide (v < (n : Int) + (S : Int)) := by rw [← hb.out, ← hS.out]; simp [M.below, hv]
    clear hb
    subst hb'
    go_enter Try.func68, Try.ntmps68
    go_wp2_with (go_at_call 58; refine (sizeAt A xs c n S _ hS hx hc hc' hk h).mono ?_; rintro e w' ⟨rfl, rfl⟩)
    go_ret
    exact ⟨rfl, rfl⟩
  · have hb' : b = false := by rw [← hb.out]; simp [M.below, hv]
    have hd : decide ((n : Int) ≤ v) = false := decide_eq_false hv
    clear hb
    subst hb'
    go_enter Try.func68, Try.ntmps68
    go_wp2
    go_ret
    exact ⟨rfl, rfl⟩

/-- what a function of a tree and two numbers that hands back a bool and a code must do, as F says -/
def GivesBool2 (f : Nat) (F : List Int → Int → Int → Bool × Int) : Prop :=
  ∀ (A : Option Addr) (xs : List Int) (c : Nat) (v u : Int) (w : World), xs.length ≤ 1048576 → xs.length ≤ c ∧ c ≤ 1000000000000 → Ints w w.heap.size A xs →
    Calls Try.prog f #[.agg #[.slice A xs.length c], .int .i64 v, .int .i64 u] w fun e w' => e = .returned (.tuple #[.bool (F xs v u).1, .int .i64 (F xs v u).2]) ∧ Below w.heap.size w w'

set_option maxHeartbeats 1000000 in
theorem impl_IsBelow : GivesBool2 39 M.isBelow := by
  intro A xs c v u w hx hcc h
  obtain ⟨r, hr⟩ : ∃ r, Hid (M.code xs [v, u] = r) := ⟨_, rfl⟩
  have hc := codeOf A (some ⟨w.heap.size + 1, 0, none⟩) xs [v, u] c 2 ((w.alloc (.cells #[.slice A xs.length c] 26)).alloc (.cells #[.int .i64 v, .int .i64 u] 2)) (by omega) (by simp) ((h.al _).al _) (by have := ints_new (w.alloc (.cells #[.slice A xs.length c] 26)) #[.int .i64 v, .int .i64 u] [v, u] rfl; simpa using this) r hr
  simp only [List.length_cons, List.length_nil, Nat.zero_add, Nat.reduceAdd] at hc
  have HC := Lib.hid hc
  clear hc
  by_cases h0 : r = 0
  · subst h0
    have hF := M.isBelow_yes hr.out
    have hn1 := M.code_node hr.out
    have hn2 := M.code_node hn1.2.2
    have ht := M.code_tree hr.out
    have hlen := M.tree_len ht
    have hk := Lib.hid (M.tree_ok ht hn2.2.1)
    have hu0 := hn2.1
    have hu1 := hn2.2.1
    rw [hF]
    clear hF hn1 hn2 ht
    obtain ⟨bb, hbb⟩ : ∃ b, Hid (M.below xs v u = b) := ⟨_, rfl⟩
    go_enter Try.func39, Try.ntmps39
    go_wp2_with fail
    refine HC.out.mono ?_
    rintro e w1 ⟨rfl, hb⟩
    have hB := btr (bal (bal (b0 w) _) _) hb
    have hcell : w1.cell? ⟨w.heap.size, 0, none⟩ = some (.slice A xs.length c) := cell_be (cell_al (by simp) _) hb
    have h1 := Lib.hid (((h.al _).al _).be hb)
    clear hb h HC
    go_wp2_with (go_at_call 68; refine (isIn A xs c v u _ hlen.2 hcc.1 hcc.2 hu0 hu1 hk h1.out bb hbb).mono ?_; rintro e w' ⟨rfl, rfl⟩)
    go_ret2
    exact ⟨by rw [hbb.out]; rfl, hB⟩
  · have hF := M.isBelow_no (xs := xs) (v := v) (u := u) (by rw [hr.out]; exact h0)
    rw [hr.out] at hF
    rw [hF]
    have hq : (r != 0) = true := by simp [h0]
    clear hF h0
    go_enter Try.func39, Try.ntmps39
    go_wp2_with fail
    refine HC.out.mono ?_
    rintro e w1 ⟨rfl, hb⟩
    have hB := btr (bal (bal (b0 w) _) _) hb
    go_wp2
    go_ret2
    exact ⟨rfl, hB⟩

set_option maxHeartbeats 1000000 in
theorem spec_IsBelow : GivesBool2 38 M.isBelow := by
  intro A xs c v u w hx hcc h
  obtain ⟨r, hr⟩ : ∃ r, Hid (M.code xs [v, u] = r) := ⟨_, rfl⟩
  have hc := l01Nodes A (some ⟨w.heap.size + 1, 0, none⟩) xs [v, u] c 2 ((w.alloc (.cells #[.slice A xs.length c] 26)).alloc (.cells #[.int .i64 v, .int .i64 u] 2)) (by omega) (by simp) ((h.al _).al _) (by have := ints_new (w.alloc (.cells #[.slice A xs.length c] 26)) #[.int .i64 v, .int .i64 u] [v, u] rfl; simpa using this) r hr
  simp only [List.length_cons, List.length_nil, Nat.zero_add, Nat.reduceAdd] at hc
  have HC := Lib.hid hc
  clear hc
  by_cases h0 : r = 0
  · subst h0
    have hF := M.isBelow_yes hr.out
    have hn1 := M.code_node hr.out
    have hn2 := M.code_node hn1.2.2
    have ht := M.code_tree hr.out
    have hlen := M.tree_len ht
    have hk := M.tree_ok ht hn2.2.1
    have hu0 := hn2.1
    have hu1 := hn2.2.1
    rw [hF]
    clear hF hn1 hn2 ht
    obtain ⟨n, rfl⟩ := Int.eq_ofNat_of_zero_le hu0
    simp only [Int.toNat_natCast] at hu1 hk
    have Hk := Lib.hid hk
    clear hk
    have hbelow : M.below xs v (n : Int) = (decide ((n : Int) ≤ v) && decide (v < (n : Int) + (M.span 1 (xs.drop n) : Int))) := by simp [M.below]
    rw [hbelow]
    clear hbelow
    obtain ⟨E, hE⟩ : ∃ E, Hid (n + M.span 1 (xs.drop n) = E) := ⟨_, rfl⟩
    have hEe : (n : Int) + (M.span 1 (xs.drop n) : Int) = (E : Int) := by have := hE.out; omega
    rw [hEe]
    have hE2 : E ≤ 48 := by have h1 := M.span_le (xs.drop n) 1; have h2 : (xs.drop n).length ≤ xs.length := by simp
                            have h3 := hlen.2; omega
    clear hEe
    by_cases hv : (n : Int) ≤ v
    · have hv1 : decide ((n : Int) ≤ v) = true := decide_eq_true hv
      rw [show (decide ((n : Int) ≤ v) && decide (v < (E : Int))) = decide (v < (E : Int)) by rw [hv1]; rfl]
      go_enter Try.func38, Try.ntmps38
      go_wp2_with fail
      refine HC.out.mono ?_
      rintro e w1 ⟨rfl, hb⟩
      have hB := btr (bal (bal (b0 w) _) _) hb
      have hcell : w1.cell? ⟨w.heap.size, 0, none⟩ = some (.slice A xs.length c) := cell_be (cell_al (by simp) _) hb
      have h1 := Lib.hid (((h.al _).al _).be hb)
      clear hb h HC
      go_wp2_with fail
      refine (l01End A xs c n E _ hE hlen.2 Hk h1.out).mono ?_
      rintro e w2 ⟨rfl, hb⟩
      have hB2 := btr hB hb
      clear hb
      go_wp2
      go_ret2
      exact ⟨rfl, hB2⟩
    · have hv1 : decide ((n : Int) ≤ v) = false := decide_eq_false hv
      rw [show (decide ((n : Int) ≤ v) && decide (v < (E : Int))) = false by rw [hv1]; rfl]
      go_enter Try.func38, Try.ntmps38
      go_wp2_with fail
      refine HC.out.mono ?_
      rintro e w1 ⟨rfl, hb⟩
      have hB := btr (bal (bal (b0 w) _) _) hb
      clear hb h HC
      go_wp2
      go_ret2
      exact ⟨rfl, hB⟩
  · have hF := M.isBelow_no (xs := xs) (v := v) (u := u) (by rw [hr.out]; exact h0)
    rw [hr.out] at hF
    rw [hF]
    have hq : (r != 0) = true := by simp [h0]
    clear hF h0
    go_enter Try.func38, Try.ntmps38
    go_wp2_with fail
    refine HC.out.mono ?_
    rintro e w1 ⟨rfl, hb⟩
    have hB := btr (bal (bal (b0 w) _) _) hb
    go_wp2
    go_ret2
    exact ⟨rfl, hB⟩
end Go.Proofs.Ytemfaginhipihab
