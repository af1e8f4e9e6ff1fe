/- IsBelow, the program's and the model's: is a node in the subtree of another one. -/
import Derived.Test.YtdgcjkgbglofbaaMgFnHeavyPaths2
import Derived.Laws.BitsLemmas
namespace Go.Proofs.Ytdgcjkgbglofbaa
open Go.RowKit

set_option maxHeartbeats 1000000 in
theorem isIn (A : Option Addr) (xs : List Int) (c : Nat) (v u : Int) (w : World) (hx : xs.length ≤ 24) (hc : xs.length ≤ c) (hc' : c ≤ 9223372036854775807) (hu0 : 0 ≤ u) (hu : u.toNat < xs.length) (hk : Hid (M.ok 1 (xs.drop u.toNat))) (h : Ints w w.heap.size A xs) (b : Bool) (hb : Hid (M.below xs v u = b)) :
    Calls Try.prog 203 #[.slice A xs.length c, .int .i64 v, .int .i64 u] w fun e w' => e = .returned (.bool b) ∧ w = w' := by
  obtain ⟨n, rfl⟩ := Int.eq_ofNat_of_zero_le hu0
  simp only [Int.toNat_natCast] at hu hk
  by_cases hv : (n : Int) ≤ v
  · obtain ⟨S, hS⟩ : ∃ S, Hid (M.span 1 (xs.drop n) = S) := ⟨_, rfl⟩
    have hS2 : S ≤ 24 := by have h1 := M.span_le (xs.drop n) 1; have h2 : (xs.drop n).length ≤ xs.length := by simp
                            have h3 := hS.out; omega
    have hb' : b = decide (v < (n : Int) + (S : Int)) := by rw [← hb.out, ← hS.out]; simp [M.below, hv]
    clear hb
    subst hb'
    go_enter Try.func203, Try.ntmps203
    go_wp2_with (go_at_call 167; refine (sizeAt A xs c n S _ hS hx hc hc' hk h).mono ?_; rintro e w' ⟨rfl, rfl⟩)
    go_ret
    exact ⟨rfl, rfl⟩
  · have hb' : b = false := by rw [← hb.out]; simp [M.below, hv]
    have hd : decide ((n : Int) ≤ v) = false := decide_eq_false hv
    clear hb
    subst hb'
    go_enter Try.func203, Try.ntmps203
    go_wp2
    go_ret
    exact ⟨rfl, rfl⟩

/-- what a function of a tree and two numbers that hands back a bool and a code must do, as F says -/
def GivesBool2 (f : Nat) (F : List Int → Int → Int → Bool × Int) : Prop :=
  ∀ (A : Option Addr) (xs : List Int) (c : Nat) (v u : Int) (w : World), xs.length ≤ 1048576 → xs.length ≤ c ∧ c ≤ 9223372036854775807 → Ints w w.heap.size A xs →
    Calls Try.prog f #[.agg #[.slice A xs.length c], .int .i64 v, .int .i64 u] w fun e w' => e = .returned (.tuple #[.bool (F xs v u).1, .int .i64 (F xs v u).2]) ∧ Below w.heap.size w w'

set_option maxHeartbeats 1000000 in
theorem impl_IsBelow : GivesBool2 60 M.isBelow := by
  intro A xs c v u w hx hcc h
  obtain ⟨r, hr⟩ : ∃ r, Hid (M.code xs [v, u] = r) := ⟨_, rfl⟩
  have hc := codeOf A (some ⟨w.heap.size + 1, 0, none⟩) xs [v, u] c 2 ((w.alloc (.cells #[.slice A xs.length c] 26)).alloc (.cells #[.int .i64 v, .int .i64 u] 2)) (by omega) (by simp) ((h.al _).al _) (by have := ints_new (w.alloc (.cells #[.slice A xs.length c] 26)) #[.int .i64 v, .int .i64 u] [v, u] rfl; simpa using this) r hr
  simp only [List.length_cons, List.length_nil, Nat.zero_add, Nat.reduceAdd] at hc
  have HC := Lib.hid hc
  clear hc
  by_cases h0 : r = 0
  · subst h0
    have hF := M.isBelow_yes hr.out
    have hn1 := M.code_node hr.out
    have hn2 := M.code_node hn1.2.2
    have ht := M.code_tree hr.out
    have hlen := M.tree_len ht
    have hk := Lib.hid (M.tree_ok ht hn2.2.1)
    have hu0 := hn2.1
    have hu1 := hn2.2.1
    rw [hF]
    clear hF hn1 hn2 ht
    obtain ⟨bb, hbb⟩ : ∃ b, Hid (M.below xs v u = b) := ⟨_, rfl⟩
    go_enter Try.func60, Try.ntmps60
    go_wp2_with fail
    refine HC.out.mono ?_
    rintro e w1 ⟨rfl, hb⟩
    have hB := btr (bal (bal (b0 w) _) _) hb
    have hcell : w1.cell? ⟨w.heap.size, 0, none⟩ = some (.slice A xs.length c) := cell_be (cell_al (by simp) _) hb
    have h1 := Lib.hid (((h.al _).al _).be hb)
    clear hb h HC
    go_wp2_with (go_at_call 203; refine (isIn A xs c v u _ hlen.2 hcc.1 (by omega) hu0 hu1 hk h1.out bb hbb).mono ?_; rintro e w' ⟨rfl, rfl⟩)
    go_ret2
    exact ⟨by rw [hbb.out]; rfl, hB⟩
  · have hF := M.isBelow_no (xs := xs) (v := v) (u := u) (by rw [hr.out]; exact h0)
    rw [hr.out] at hF
    rw [hF]
    have hq : (r != 0) = true := by simp [h0]
    clear hF h0
    go_enter Try.func60, Try.ntmps60
    go_wp2_with fail
    refine HC.out.mono ?_
    rintro e w1 ⟨rfl, hb⟩
    have hB := btr (bal (bal (b0 w) _) _) hb
    go_wp2
    go_ret2
    exact ⟨rfl, hB⟩

set_option maxHeartbeats 1000000 in
theorem spec_IsBelow : GivesBool2 75 M.isBelow := by
  intro A xs c v u w hx hcc h
  obtain ⟨r, hr⟩ : ∃ r, Hid (M.code xs [v, u] = r) := ⟨_, rfl⟩
  have hc := l01Nodes A (some ⟨w.heap.size + 1, 0, none⟩) xs [v, u] c 2 ((w.alloc (.cells #[.slice A xs.length c] 26)).alloc (.cells #[.int .i64 v, .int .i64 u] 2)) (by omega) (by simp) ((h.al _).al _) (by have := ints_new (w.alloc (.cells #[.slice A xs.length c] 26)) #[.int .i64 v, .int .i64 u] [v, u] rfl; simpa using this) r hr
  simp only [List.length_cons, List.length_nil, Nat.zero_add, Nat.reduceAdd] at hc
  have HC := Lib.hid hc
  clear hc
  by_cases h0 : r = 0
  · subst h0
    have hF := M.isBelow_yes hr.out
    have hn1 := M.code_node hr.out
    have hn2 := M.code_node hn1.2.2
    have ht := M.code_tree hr.out
    have hlen := M.tree_len ht
    have hk := M.tree_ok ht hn2.2.1
    have hu0 := hn2.1
    have hu1 := hn2.2.1
    rw [hF]
    clear hF hn1 hn2 ht
    obtain ⟨n, rfl⟩ := Int.eq_ofNat_of_zero_le hu0
    simp only [Int.toNat_natCast] at hu1 hk
    have Hk := Lib.hid hk
    clear hk
    have hbelow : M.below xs v (n : Int) = (decide ((n : Int) ≤ v) && decide (v < (n : Int) + (M.span 1 (xs.drop n) : Int))) := by simp [M.below]
    rw [hbelow]
    clear hbelow
    obtain ⟨E, hE⟩ : ∃ E, Hid (n + M.span 1 (xs.drop n) = E) := ⟨_, rfl⟩
    have hEe : (n : Int) + (M.span 1 (xs.drop n) : Int) = (E : Int) := by have := hE.out; omega
    rw [hEe]
    have hE2 : E ≤ 48 := by have h1 := M.span_le (xs.drop n) 1; have h2 : (xs.drop n).length ≤ xs.length := by simp
                            have h3 := hlen.2; omega
    clear hEe
    by_cases hv : (n : Int) ≤ v
    · have hv1 : decide ((n : Int) ≤ v) = true := decide_eq_true hv
      rw [show (decide ((n : Int) ≤ v) && decide (v < (E : Int))) = decide (v < (E : Int)) by rw [hv1]; rfl]
      go_enter Try.func75, Try.ntmps75
      go_wp2_with fail
      refine HC.out.mono ?_
      rintro e w1 ⟨rfl, hb⟩
      have hB := btr (bal (bal (b0 w) _) _) hb
      have hcell : w1.cell? ⟨w.heap.size, 0, none⟩ = some (.slice A xs.length c) := cell_be (cell_al (by simp) _) hb
      have h1 := Lib.hid (((h.al _).al _).be hb)
      clear hb h HC
      go_wp2_with fail
      refine (l01End A xs c n E _ hE hlen.2 Hk h1.out).mono ?_
      rintro e w2 ⟨rfl, hb⟩
      have hB2 := btr hB hb
      clear hb
      go_wp2
      go_ret2
      exact ⟨rfl, hB2⟩
    · have hv1 : decide ((n : Int) ≤ v) = false := decide_eq_false hv
      rw [show (decide ((n : Int) ≤ v) && decide (v < (E : Int))) = false by rw [hv1]; rfl]
      go_enter Try.func75, Try.ntmps75
      go_wp2_with fail
      refine HC.out.mono ?_
      rintro e w1 ⟨rfl, hb⟩
      have hB := btr (bal (bal (b0 w) _) _) hb
      clear hb h HC
      go_wp2
      go_ret2
      exact ⟨rfl, hB⟩
  · have hF := M.isBelow_no (xs := xs) (v := v) (u := u) (by rw [hr.out]; exact h0)
    rw [hr.out] at hF
    rw [hF]
    have hq : (r != 0) = true := by simp [h0]
    clear hF h0
    go_enter Try.func75, Try.ntmps75
    go_wp2_with fail
    refine HC.out.mono ?_
    rintro e w1 ⟨rfl, hb⟩
    have hB := btr (bal (bal (b0 w) _) _) hb
    go_wp2
    go_ret2
    exact ⟨rfl, hB⟩
end Go.Proofs.Ytdgcjkgbglofbaa

/- MeetOf, the program's and the model's: the deepest node that has both nodes below it, or a code. -/
namespace Go.Proofs.Ytdgcjkgbglofbaa
open Go.RowKit

namespace M
def meetOf (xs : List Int) (v u : Int) : Int × Int := if code xs [v, u] = 0 then ((meet xs v.toNat u.toNat : Int), 0) else (0, code xs [v, u])
theorem meetOf_yes {xs : List Int} {v u : Nat} (h : code xs [(v : Int), (u : Int)] = 0) : meetOf xs v u = ((meet xs v u : Int), 0) := by simp [meetOf, h]
theorem meetOf_no {xs : List Int} {v u : Int} (h : code xs [v, u] ≠ 0) : meetOf xs v u = (0, code xs [v, u]) := by simp [meetOf, h]
theorem below_bel (xs : List Int) (v u : Nat) : below xs (v : Int) (u : Int) = bel xs v u := by
  have e1 : decide ((u : Int) ≤ (v : Int)) = decide (u ≤ v) := decide_eq_decide.2 (by omega)
  have e2 : decide ((v : Int) < (u : Int) + (span 1 (xs.drop u) : Int)) = decide (v < u + span 1 (xs.drop u)) := decide_eq_decide.2 (by omega)
  simp only [below, bel, fin, Int.toNat_natCast]
  rw [e1, e2, Bool.eq_iff_iff]
  simp only [Bool.and_eq_true, decide_eq_true_eq]
  exact ⟨fun h => ⟨h.1, decide_eq_true h.2⟩, fun h => ⟨h.1, of_decide_eq_true h.2⟩⟩
theorem bel_root {xs : List Int} (ht : isTree xs = true) {v : Nat} (hv : v < xs.length) : bel xs v 0 = true := bel_iff.2 ⟨Nat.zero_le _, by rw [fin_root ht]; exact hv⟩
end M

/-- what a function of a tree and two numbers that hands back a number and a code must do, as F says -/
def GivesNum2 (f : Nat) (F : List Int → Int → Int → Int × Int) : Prop :=
  ∀ (A : Option Addr) (xs : List Int) (c : Nat) (v u : Int) (w : World), xs.length ≤ 1048576 → xs.length ≤ c ∧ c ≤ 9223372036854775807 → Ints w w.heap.size A xs →
    Calls Try.prog f #[.agg #[.slice A xs.length c], .int .i64 v, .int .i64 u] w fun e w' => e = .returned (.tuple #[.int .i64 (F xs v u).1, .int .i64 (F xs v u).2]) ∧ Below w.heap.size w w'

set_option maxHeartbeats 4000000 in
set_option maxRecDepth 100000 in
theorem impl_MeetOf : GivesNum2 58 M.meetOf := by
  intro A xs c v u w hx hcc h
  obtain ⟨r, hr⟩ : ∃ r, Hid (M.code xs [v, u] = r) := ⟨_, rfl⟩
  have hc := codeOf A (some ⟨w.heap.size + 1, 0, none⟩) xs [v, u] c 2 ((w.alloc (.cells #[.slice A xs.length c] 26)).alloc (.cells #[.int .i64 v, .int .i64 u] 2)) (by omega) (by simp) ((h.al _).al _) (by have := ints_new (w.alloc (.cells #[.slice A xs.length c] 26)) #[.int .i64 v, .int .i64 u] [v, u] rfl; simpa using this) r hr
  simp only [List.length_cons, List.length_nil, Nat.zero_add, Nat.reduceAdd] at hc
  have HC := Lib.hid hc
  clear hc
  by_cases h0 : r = 0
  · subst h0
    have hn1 := M.code_node hr.out
    have hn2 := M.code_node hn1.2.2
    have Ht := Lib.hid (M.code_tree hr.out)
    have hlen := (M.tree_len Ht.out).2
    obtain ⟨v, rfl⟩ := Int.eq_ofNat_of_zero_le hn1.1
    obtain ⟨u, rfl⟩ := Int.eq_ofNat_of_zero_le hn2.1
    have hvl : v < xs.length := by simpa using hn1.2.1
    have hul : u < xs.length := by simpa using hn2.2.1
    have hF := M.meetOf_yes hr.out
    rw [hF]
    clear hF hn1 hn2
    obtain ⟨R, hR⟩ : ∃ R, Hid (M.meetDown xs v u (min v u) = R) := ⟨_, rfl⟩
    have hR' : M.meet xs v u = R := hR.out
    rw [hR']
    clear hR'
    have hmn : min (v : Int) (u : Int) = ((min v u : Nat) : Int) := by omega
    go_enter Try.func58, Try.ntmps58
    go_wp2_with fail
    refine HC.out.mono ?_
    rintro e w1 ⟨rfl, hb⟩
    have hB := Lib.hid (btr (bal (bal (b0 w) _) _) hb)
    have HcellA := Lib.hid (show w1.cell? ⟨w.heap.size, 0, none⟩ = some (.slice A xs.length c) from cell_be (cell_al (by simp) _) hb)
    have h1 := Lib.hid (((h.al _).al _).be hb)
    clear hb h HC
    go_wp2
    all_goals
      go_loopw [9] (fun q wr => ∃ m : Nat, m ≤ min v u ∧ q = .int .i64 m ∧ Hid (M.meetDown xs v u m = R) ∧ Hid (Below w1.heap.size w1 wr)) (fun q _ => (intOf q).toNat)
      case atStart => exact ⟨min v u, Nat.le_refl _, by congr 1; omega, hR, b0 w1⟩
      case round =>
        obtain ⟨m, hm, rfl, hmd, hbr⟩ := hrel
        have hcr := cell_be HcellA.out hbr.out
        have hml : m < xs.length := by omega
        have Hk := Lib.hid (M.tree_ok Ht.out hml)
        have I1 := Lib.hid (h1.out.be hbr.out)
        have hm0 : (0 : Int) ≤ (m : Int) := by omega
        have hml' : (m : Int).toNat < xs.length := by simpa using hml
        have Hk' : Hid (M.ok 1 (xs.drop (m : Int).toNat)) := by simpa using Hk
        obtain ⟨b1, hb1⟩ : ∃ b, Hid (M.bel xs v m = b) := ⟨_, rfl⟩
        obtain ⟨b2, hb2⟩ : ∃ b, Hid (M.bel xs u m = b) := ⟨_, rfl⟩
        have hbb1 : Hid (M.below xs (v : Int) (m : Int) = b1) := (M.below_bel xs v m).trans hb1.out
        have hbb2 : Hid (M.below xs (u : Int) (m : Int) = b2) := (M.below_bel xs u m).trans hb2.out
        have hz : Hid (¬ (b1 = true ∧ b2 = true) → 0 < m) := fun hn => by
          rcases Nat.eq_zero_or_pos m with e | e
          · subst e
            exact absurd ⟨hb1.out.symm.trans (M.bel_root Ht.out hvl), hb2.out.symm.trans (M.bel_root Ht.out hul)⟩ hn
          · exact e
        go_wp2_with fail
        refine (isIn A xs c v m _ hlen hcc.1 hcc.2 hm0 hml' Hk' I1.out b1 hbb1).mono ?_
        rintro e w' ⟨rfl, rfl⟩
        cases b1
        · have hmp := hz.out (by simp)
          obtain ⟨m, rfl⟩ : ∃ m', m = m' + 1 := ⟨m - 1, by omega⟩
          have hmiss := Lib.hid (M.meetDown_miss (xs := xs) (v := v) (w := u) (u := m) (by rw [hb1.out]; rfl))
          go_wp2
          go_roundw
          case rel => exact ⟨m, by omega, by go_num, hmiss.out.symm.trans hmd.out, hbr⟩
          case measure => simp [intOf]
        · go_wp2_with fail
          refine (isIn A xs c u m _ hlen hcc.1 hcc.2 hm0 hml' Hk' I1.out b2 hbb2).mono ?_
          rintro e w' ⟨rfl, rfl⟩
          cases b2
          · have hmp := hz.out (by simp)
            obtain ⟨m, rfl⟩ : ∃ m', m = m' + 1 := ⟨m - 1, by omega⟩
            have hmiss := Lib.hid (M.meetDown_miss (xs := xs) (v := v) (w := u) (u := m) (by rw [hb2.out]; simp))
            go_wp2
            go_roundw
            case rel => exact ⟨m, by omega, by go_num, hmiss.out.symm.trans hmd.out, hbr⟩
            case measure => simp [intOf]
          · have hit := M.meetDown_hit (xs := xs) (v := v) (w := u) (u := m) (by rw [hb1.out, hb2.out]; rfl)
            have hRm := Lib.hid (hit.symm.trans hmd.out)
            clear hit
            go_wp2
            go_ret2
            obtain rfl : m = R := hRm.out
            exact ⟨rfl, btr hB.out hbr.out⟩
  · have hF := M.meetOf_no (xs := xs) (v := v) (u := u) (by rw [hr.out]; exact h0)
    rw [hr.out] at hF
    rw [hF]
    have hq : (r != 0) = true := by simp [h0]
    clear hF h0
    go_enter Try.func58, Try.ntmps58
    go_wp2_with fail
    refine HC.out.mono ?_
    rintro e w1 ⟨rfl, hb⟩
    have hB := btr (bal (bal (b0 w) _) _) hb
    go_wp2
    go_ret2
    exact ⟨rfl, hB⟩

set_option maxHeartbeats 4000000 in
set_option maxRecDepth 100000 in
theorem l01Meet (A : Option Addr) (xs : List Int) (c v u R : Nat) (w : World) (ht : Hid (M.isTree xs = true)) (hvl : v < xs.length) (hul : u < xs.length) (hR : Hid (M.meet xs v u = R)) (h : Ints w w.heap.size A xs) :
    Calls Try.prog 204 #[.agg #[.slice A xs.length c], .int .i64 v, .int .i64 u] w fun e w' => e = .returned (.int .i64 R) ∧ Below w.heap.size w w' := by
  have hlen := (M.tree_len ht.out).2
  have hst := Lib.hid (M.meet_start (xs := xs) (v := v) (w := u) hvl)
  go_enter Try.func204, Try.ntmps204
  go_wp2_with fail
  refine (l01Parents A xs c _ ht (h.al _)).mono ?_
  rintro e w1 ⟨A', c', ps, rfl, hok, ho, hb⟩
  have hB := Lib.hid (btr (bal (b0 w) _) hb)
  have HcellA := Lib.hid (show w1.cell? ⟨w.heap.size, 0, none⟩ = some (.slice A xs.length c) from cell_be (by simp) hb)
  have h1 := Lib.hid ((h.al _).be hb)
  have Ho := Lib.hid ho
  obtain ⟨g, rfl⟩ : ∃ g, A' = some ⟨g, 0, none⟩ := by
    rcases ho.2 with ⟨h0, _⟩ | ⟨g, cap, cur, hv, _⟩
    · injection h0 with _ e _; omega
    · injection hv with e1; exact ⟨g, e1⟩
  clear hb h ho
  go_wp2
  go_loopw [8] (fun q wr => ∃ a : Nat, a < xs.length ∧ q = .int .i64 a ∧ Hid (M.bel xs v a = true) ∧ Hid (M.meet xs v u ≤ a) ∧ Hid (Below w1.heap.size w1 wr)) (fun q _ => (intOf q).toNat)
  case atStart => exact ⟨v, hvl, rfl, hst.out.1, hst.out.2, b0 w1⟩
  case round =>
    obtain ⟨a, hal, rfl, hbv, hma, hbr⟩ := hrel
    have hcr := cell_be HcellA.out hbr.out
    have Hk := Lib.hid (M.tree_ok ht.out hal)
    have I1 := Lib.hid (h1.out.be hbr.out)
    have Or := Lib.hid (own_be Ho.out hbr.out)
    have hpar : Hid (M.bel xs u a = false → ∃ p : Nat, ps[a]? = some (p : Int) ∧ p < a ∧ M.bel xs v p = true ∧ M.meet xs v u ≤ p) := fun hf => by
      have ha0 : 0 < a := by
        rcases Nat.eq_zero_or_pos a with e | e
        · subst e
          rw [M.bel_root ht.out hul] at hf
          cases hf
        · exact e
      obtain ⟨p, hp⟩ := M.kid_has ht.out ha0 hal
      have hs := M.meet_step ht.out hvl hul hbv.out hf hma.out hp
      exact ⟨p, hok.out.2.2 p a hp, (M.kid_bounds ht.out hp).1, hs.1, hs.2⟩
    by_cases hua : u < a
    · have hd : decide ((u : Int) < (a : Int)) = true := decide_eq_true (by omega)
      have hbf : M.bel xs u a = false := Bool.eq_false_iff.2 fun e => by have := M.bel_iff.1 e; omega
      obtain ⟨p, hp1, hp2, hp3, hp4⟩ := hpar.out hbf
      have gp := (own64_cell Or.out hok.out.1 hp1).1
      have Hp3 := Lib.hid hp3
      have Hp4 := Lib.hid hp4
      clear hbf hp1 hp3 hp4
      go_wp2
      go_roundw
      case rel => exact ⟨p, by omega, rfl, Hp3, Hp4, hbr⟩
      case measure => simp [intOf]; omega
    · have hd : decide ((u : Int) < (a : Int)) = false := decide_eq_false (by omega)
      obtain ⟨E, hE⟩ : ∃ E, Hid (a + M.span 1 (xs.drop a) = E) := ⟨_, rfl⟩
      have hE2 : E ≤ 48 := by have h1 := M.span_le (xs.drop a) 1; have h2 : (xs.drop a).length ≤ xs.length := by simp
                              have h3 := hE.out; omega
      go_wp2_with fail
      refine (l01End A xs c a E _ hE hlen Hk I1.out).mono ?_
      rintro e w2 ⟨rfl, hb⟩
      have hb2 := Lib.hid (btr hbr.out hb)
      have Or2 := Lib.hid (own_be Or.out hb)
      clear hb hcr
      by_cases hue : E ≤ u
      · have hd2 : decide ((E : Int) ≤ (u : Int)) = true := decide_eq_true (by omega)
        have hbf : M.bel xs u a = false := Bool.eq_false_iff.2 fun e => by
          have h1 := hE.out
          have h2 := M.bel_iff.1 e
          simp only [M.fin] at h2
          omega
        obtain ⟨p, hp1, hp2, hp3, hp4⟩ := hpar.out hbf
        have gp := (own64_cell Or2.out hok.out.1 hp1).1
        have Hp3 := Lib.hid hp3
        have Hp4 := Lib.hid hp4
        clear hbf hp1 hp3 hp4
        go_wp2
        go_roundw
        case rel => exact ⟨p, by omega, rfl, Hp3, Hp4, hb2⟩
        case measure => simp [intOf]; omega
      · have hd2 : decide ((E : Int) ≤ (u : Int)) = false := decide_eq_false (by omega)
        have hbt : M.bel xs u a = true := M.bel_iff.2 (by have := hE.out; simp only [M.fin]; omega)
        have hRa := Lib.hid ((M.meet_stop hbv.out hbt hma.out).trans hR.out)
        clear hbt
        go_wp2
        go_ret
        obtain rfl : a = R := hRa.out
        exact ⟨rfl, btr hB.out hb2.out⟩

set_option maxHeartbeats 1000000 in
theorem spec_MeetOf : GivesNum2 59 M.meetOf := by
  intro A xs c v u w hx hcc h
  obtain ⟨r, hr⟩ : ∃ r, Hid (M.code xs [v, u] = r) := ⟨_, rfl⟩
  have hc := l01Nodes A (some ⟨w.heap.size + 1, 0, none⟩) xs [v, u] c 2 ((w.alloc (.cells #[.slice A xs.length c] 26)).alloc (.cells #[.int .i64 v, .int .i64 u] 2)) (by omega) (by simp) ((h.al _).al _) (by have := ints_new (w.alloc (.cells #[.slice A xs.length c] 26)) #[.int .i64 v, .int .i64 u] [v, u] rfl; simpa using this) r hr
  simp only [List.length_cons, List.length_nil, Nat.zero_add, Nat.reduceAdd] at hc
  have HC := Lib.hid hc
  clear hc
  by_cases h0 : r = 0
  · subst h0
    have hn1 := M.code_node hr.out
    have hn2 := M.code_node hn1.2.2
    have Ht := Lib.hid (M.code_tree hr.out)
    obtain ⟨v, rfl⟩ := Int.eq_ofNat_of_zero_le hn1.1
    obtain ⟨u, rfl⟩ := Int.eq_ofNat_of_zero_le hn2.1
    have hvl : v < xs.length := by simpa using hn1.2.1
    have hul : u < xs.length := by simpa using hn2.2.1
    have hF := M.meetOf_yes hr.out
    rw [hF]
    clear hF hn1 hn2
    obtain ⟨R, hR⟩ : ∃ R, Hid (M.meet xs v u = R) := ⟨_, rfl⟩
    rw [hR.out]
    go_enter Try.func59, Try.ntmps59
    go_wp2_with fail
    refine HC.out.mono ?_
    rintro e w1 ⟨rfl, hb⟩
    have hB := Lib.hid (btr (bal (bal (b0 w) _) _) hb)
    have hcell : w1.cell? ⟨w.heap.size, 0, none⟩ = some (.slice A xs.length c) := cell_be (cell_al (by simp) _) hb
    have h1 := Lib.hid (((h.al _).al _).be hb)
    clear hb h HC
    go_wp2_with fail
    refine (l01Meet A xs c v u R _ Ht hvl hul hR h1.out).mono ?_
    rintro e w2 ⟨rfl, hb⟩
    have hB2 := Lib.hid (btr hB.out hb)
    clear hb
    go_wp2
    go_ret2
    exact ⟨rfl, hB2.out⟩
  · have hF := M.meetOf_no (xs := xs) (v := v) (u := u) (by rw [hr.out]; exact h0)
    rw [hr.out] at hF
    rw [hF]
    have hq : (r != 0) = true := by simp [h0]
    clear hF h0
    go_enter Try.func59, Try.ntmps59
    go_wp2_with fail
    refine HC.out.mono ?_
    rintro e w1 ⟨rfl, hb⟩
    have hB := btr (bal (bal (b0 w) _) _) hb
    go_wp2
    go_ret2
    exact ⟨rfl, hB⟩
end Go.Proofs.Ytdgcjkgbglofbaa

/- wayIn and l05Way: the nodes on the way between two nodes; distanceIn. -/
namespace Go.Proofs.Ytdgcjkgbglofbaa
open Go.RowKit

namespace M
theorem climb_acc {xs ps : List Int} (ht : isTree xs = true) (hp : ParsOK xs ps) {v m a : Nat} {acc : List Int} (hv : v < xs.length) (hm : bel xs v m = true) (h : Climb xs ps v m a acc) : acc.length ≤ 23 := by
  have h1 := climb_len ht hp hv hm
  have h2 := (tree_len ht).2
  have h3 := congrArg List.length h.2.2.2
  rw [List.length_append] at h3
  omega
def threeOf (l : List Int) (m : Int) (r : List Int) (j : Nat) : List Int := if j = 0 then l else if j = 1 then [m] else r
theorem threeOf_cat (l : List Int) (m : Int) (r : List Int) : catTo (threeOf l m r) 3 = l ++ [m] ++ r := by simp [catTo, threeOf]
end M

theorem two_grown {w w' : World} {B n c : Nat} {A : Option Addr} {v1 : Value} {xs ys zs : List Int} (h : Two w B v1 (.slice A n c) xs ys) (ho : Own64 w' B (.slice A n c) zs) (hg : w.grownBy w' (Value.slice A n c).ownBlock) : Two w' B v1 (.slice A n c) xs zs := by
  refine ⟨h.1.kept hg ?_, ho, h.2.2⟩
  cases hv : v1.ownBlock with
  | none => exact .inl rfl
  | some k => exact .inr fun e => h.2.2 k hv e.symm

set_option maxHeartbeats 4000000 in
set_option maxRecDepth 100000 in
theorem wayIn (A : Option Addr) (xs ps : List Int) (c v u : Nat) (w : World) (ht : Hid (M.isTree xs = true)) (hp : Hid (M.ParsOK xs ps)) (hvl : v < xs.length) (hul : u < xs.length) (h : Hid (Ints w w.heap.size A ps)) :
    Calls Try.prog 235 #[.slice A xs.length c, .int .i64 v, .int .i64 u] w fun e w' => ∃ A' c', e = .returned (.slice A' (M.way xs v u).length c') ∧ Own64 w' w.heap.size (.slice A' (M.way xs v u).length c') (M.way xs v u) ∧ Below w.heap.size w w' := by
  have hlen := (M.tree_len ht.out).2
  obtain ⟨m, hm⟩ : ∃ m, Hid (M.meet xs v u = m) := ⟨_, rfl⟩
  have hmb := M.meet_bel ht.out hvl hul
  rw [hm.out] at hmb
  have hbv := Lib.hid hmb.1
  have hbu := Lib.hid hmb.2
  have hst1 := Lib.hid (M.climb_start (ps := ps) hvl hbv.out)
  have hst2 := Lib.hid (M.climb_start (ps := ps) hul hbu.out)
  have hT0 : Hid (Two w w.heap.size (.slice none 0 0) (.slice none 0 0) [] []) := ⟨own64_nil _ _, own64_nil _ _, fun b h => by cases h⟩
  clear hmb
  go_enter Try.func235, Try.ntmps235
  go_wp2
  go_loopw [1, 2, 7, 8] (fun qv qu q1 q2 wr => ∃ (a b n1 c1 n2 c2 : Nat) (l r : List Int) (A1 A2 : Option Addr), a < xs.length ∧ b < xs.length ∧ qv = .int .i64 a ∧ qu = .int .i64 b ∧ q1 = .slice A1 n1 c1 ∧ q2 = .slice A2 n2 c2 ∧ Hid (M.Climb xs ps v m a l) ∧ Hid (M.Climb xs ps u m b r) ∧ Hid (Two wr w.heap.size (.slice A1 n1 c1) (.slice A2 n2 c2) l r) ∧ Hid (Below w.heap.size w wr)) (fun qv qu _ _ _ => (intOf qv).toNat + (intOf qu).toNat)
  case atStart => exact ⟨v, u, 0, 0, 0, 0, [], [], none, none, hvl, hul, rfl, rfl, rfl, rfl, hst1, hst2, hT0, b0 w⟩
  case round =>
    obtain ⟨a, b, n1, c1, n2, c2, l, r, A1, A2, hal, hbl, rfl, rfl, rfl, rfl, hl, hr, hT, hbr⟩ := hrel
    clear hst1 hst2 hT0
    have hn1 : n1 ≤ 23 := by rw [hT.out.shape.1]; exact M.climb_acc ht.out hp.out hvl hbv.out hl.out
    have hn2 : n2 ≤ 23 := by rw [hT.out.symm.shape.1]; exact M.climb_acc ht.out hp.out hul hbu.out hr.out
    rcases Nat.lt_trichotomy a b with hab | hab | hab
    · have hmlt : m < b := by have := hm.out; subst this; exact M.climb_right hl.out hr.out hab
      obtain ⟨p, hp1, hp2, hp3⟩ := M.climb_step ht.out hp.out hbu.out hr.out hmlt
      have hq1 : ((a : Int) != (b : Int)) = true := by simp; omega
      have hq2 : ¬ (b : Int) < (a : Int) := by omega
      have Hp3 := Lib.hid hp3
      obtain ⟨pb, off, rfl, hpb, hpc⟩ := h.out.below hbr.out (Nat.le_refl _) (by have := (List.getElem?_eq_some_iff.1 hp1).1; omega)
      have gp := hpc b _ hp1
      have zr := hbr.out.size
      have hT2 := Lib.hid hT.out.symm
      clear hpc hp1 hp3 hr hT hab
      go_wp2_with (at_builtin; refine pushTwo rfl (.tmp 23) (.tmp 25) rfl wr w.heap.size A2 n2 c2 (.slice A1 n1 c1) r l (b : Int) rfl wr.heap.size rfl rfl hT2 zr (by omega) ?_; intro A4 c4 w4 ht4 hb4; have gp4 := (hb4.out.cell (p := ⟨pb, off + b, none⟩) (by omega)).trans gp)
      have hbr4 : Hid (Below w.heap.size w w4) := hbr.out.trans hb4.out
      have hT4 := Lib.hid ht4.out.symm
      clear hT2 ht4
      go_roundw
      case rel => exact ⟨a, p, n1, c1, n2 + 1, c4, l, r ++ [(b : Int)], A1, A4, hal, by omega, rfl, rfl, rfl, rfl, hl, Hp3, hT4, hbr4⟩
      case measure => simp [intOf]; omega
    · subst hab
      have hma := M.climb_meet (xs := xs) (ps := ps) (v := v) (w := u) (a := a) (l := l) (r := r) (by rw [hm.out]; exact hl.out) (by rw [hm.out]; exact hr.out)
      rw [hm.out] at hma
      subst hma
      have hq1 : ((a : Int) != (a : Int)) = false := by simp
      have hway := Lib.hid (M.way_mk ht.out hp.out hm.out hl.out hr.out)
      have hll : l.length ≤ 23 := M.climb_acc ht.out hp.out hvl hbv.out hl.out
      have hrl : r.length ≤ 23 := M.climb_acc ht.out hp.out hul hbu.out hr.out
      have zr := hbr.out.size
      have e1 := Lib.hid hT.out.shape.1
      have e2 := Lib.hid hT.out.symm.shape.1
      have HT := hT
      clear hl hr hT h
      go_wp2_with fail
      refine (slicesReverse A2 n2 c2 w.heap.size r wr (Lib.hid e2.out.symm) (by omega) (Lib.hid HT.out.2.1)).mono ?_
      rintro e w1 ⟨⟨uu, rfl⟩, ho1, hg1⟩
      have hT1 := Lib.hid (two_grown HT.out ho1.out hg1.out)
      have hB1 : Hid (Below w.heap.size w w1) := hbr.out.grown hg1.out zr (fun k hk => (HT.out.2.1.lt k hk).1)
      have z1 := hB1.out.size
      clear HT ho1 hg1 hbr
      have hP : Hid (Parts ((w1.alloc (.cells #[.int .i64 (a : Int)] 2)).alloc (.cells #[.slice A1 n1 c1, .slice (some ⟨w1.heap.size, 0, none⟩) 1 1, .slice A2 n2 c2] 24)) (w1.heap.size + 1) 3 (M.threeOf l a r.reverse)) := by
        have i1 := ints_of_own64 hT1.out.1
        have i2 := ints_of_own64 hT1.out.2.1
        intro j hj
        match j, hj with
        | 0, _ => exact ⟨A1, c1, (by show _ = some (Value.slice A1 l.length c1); rw [← e1.out]; simp [go_sem]), (i1.al _).al _, own64_z hT1.out.1⟩
        | 1, _ => exact ⟨some ⟨w1.heap.size, 0, none⟩, 1, (by show _ = some (Value.slice _ 1 1); simp [go_sem]), (by have := (ints_new w1 #[.int .i64 (a : Int)] [(a : Int)] rfl).al (.cells #[.slice A1 n1 c1, .slice (some ⟨w1.heap.size, 0, none⟩) 1 1, .slice A2 n2 c2] 24); simpa [M.threeOf] using this), fun e => by cases e⟩
        | 2, _ => exact ⟨A2, c2, (by show _ = some (Value.slice A2 r.reverse.length c2); rw [List.length_reverse, ← e2.out]; simp [go_sem]), (by have := (i2.al (.cells #[.int .i64 (a : Int)] 2)).al (.cells #[.slice A1 n1 c1, .slice (some ⟨w1.heap.size, 0, none⟩) 1 1, .slice A2 n2 c2] 24); simpa [M.threeOf] using this), own64_z hT1.out.2.1⟩
      have hX : Hid (∀ j, j < 3 → (M.threeOf l a r.reverse j).length ≤ 24) := fun j _ => by
        simp only [M.threeOf]
        split
        · omega
        · split
          · simp
          · rw [List.length_reverse]; omega
      have hcat : Hid (M.catTo (M.threeOf l a r.reverse) 3 = M.way xs v u) := by show _ = _; rw [M.threeOf_cat]; exact hway.out
      have hB3 := Lib.hid (bal (bal hB1.out (.cells #[.int .i64 (a : Int)] 2)) (.cells #[.slice A1 n1 c1, .slice (some ⟨w1.heap.size, 0, none⟩) 1 1, .slice A2 n2 c2] 24))
      clear hway e1 e2 hT1 hll hrl
      go_wp2_with fail
      have HC := concat (w1.heap.size + 1) 3 (M.threeOf l a r.reverse) _ (by omega) hX (by simp) hP
      rw [hcat.out] at HC
      refine HC.mono ?_
      rintro e w5 ⟨A5, c5, n5, rfl, ho5, hb5⟩
      have e5 := own64_len ho5
      subst e5
      have hB5 := Lib.hid (btr hB3.out hb5)
      have Ho5 := Lib.hid (own_mono (base' := w.heap.size) ho5 (by simp; omega))
      clear HC ho5 hb5 hP hX hcat
      go_wp2
      go_ret
      exact ⟨A5, c5, rfl, Ho5.out, hB5.out⟩
    · have hmlt : m < a := by have := hm.out; subst this; exact M.climb_left hl.out hr.out hab
      obtain ⟨p, hp1, hp2, hp3⟩ := M.climb_step ht.out hp.out hbv.out hl.out hmlt
      have hq1 : ((a : Int) != (b : Int)) = true := by simp; omega
      have hq2 : (b : Int) < (a : Int) := by omega
      have Hp3 := Lib.hid hp3
      obtain ⟨pb, off, rfl, hpb, hpc⟩ := h.out.below hbr.out (Nat.le_refl _) (by have := (List.getElem?_eq_some_iff.1 hp1).1; omega)
      have gp := hpc a _ hp1
      have zr := hbr.out.size
      clear hpc hp1 hp3 hl hab
      go_wp2_with (at_builtin; refine pushTwo rfl (.tmp 15) (.tmp 17) rfl wr w.heap.size A1 n1 c1 (.slice A2 n2 c2) l r (a : Int) rfl wr.heap.size rfl rfl hT zr (by omega) ?_; intro A4 c4 w4 ht4 hb4; have gp4 := (hb4.out.cell (p := ⟨pb, off + a, none⟩) (by omega)).trans gp)
      have hbr4 : Hid (Below w.heap.size w w4) := hbr.out.trans hb4.out
      clear hT
      go_roundw
      case rel => exact ⟨p, b, n1 + 1, c4, n2, c2, l ++ [(a : Int)], r, A4, A2, by omega, hbl, rfl, rfl, rfl, rfl, Hp3, hr, ht4, hbr4⟩
      case measure => simp [intOf]; omega

end Go.Proofs.Ytdgcjkgbglofbaa

/- What functions of a tree and one number must do, as F says: to a number and a code, to two numbers and a code. -/
namespace Go.Proofs.Ytdgcjkgbglofbaa
open Go.RowKit

/-- a tree and a number to a number and a code -/
def GivesNum1 (f : Nat) (F : List Int → Int → Int × Int) : Prop :=
  ∀ (A : Option Addr) (xs : List Int) (c : Nat) (v : Int) (w : World), xs.length ≤ 1048576 → xs.length ≤ c ∧ c ≤ 9223372036854775807 → Ints w w.heap.size A xs →
    Calls Try.prog f #[.agg #[.slice A xs.length c], .int .i64 v] w fun e w' => e = .returned (.tuple #[.int .i64 (F xs v).1, .int .i64 (F xs v).2]) ∧ Below w.heap.size w w'
/-- a tree and a number to two numbers and a code -/
def GivesPair1 (f : Nat) (F : List Int → Int → Int × Int × Int) : Prop :=
  ∀ (A : Option Addr) (xs : List Int) (c : Nat) (v : Int) (w : World), xs.length ≤ 1048576 → xs.length ≤ c ∧ c ≤ 9223372036854775807 → Ints w w.heap.size A xs →
    Calls Try.prog f #[.agg #[.slice A xs.length c], .int .i64 v] w fun e w' => e = .returned (.tuple #[.int .i64 (F xs v).1, .int .i64 (F xs v).2.1, .int .i64 (F xs v).2.2]) ∧ Below w.heap.size w w'
end Go.Proofs.Ytdgcjkgbglofbaa

/- The length and the capacity of a row of the call's own. -/
namespace Go.Proofs.Ytdgcjkgbglofbaa
open Go.RowKit

theorem own_caps {w : World} {B n c : Nat} {A : Option Addr} {zs : List Int} (h : Own64 w B (.slice A n c) zs) : n ≤ c ∧ c ≤ 9223372036854775807 := by
  rcases h.2 with ⟨e, _⟩ | ⟨g, cap, cur, hv, _, _, h4, h5, _⟩
  · injection e with e1 e2 e3; omega
  · injection hv with e1 e2 e3
    subst e3
    unfold maxLen at h5
    omega
end Go.Proofs.Ytdgcjkgbglofbaa

/- LightSteps, the program's and the model's: how many light nodes are on the way from the root, or a code. -/
namespace Go.Proofs.Ytdgcjkgbglofbaa
open Go.RowKit

/-- what is left of a list behind its first numbers, as a slice -/
theorem ints_drop {w : World} {A : Option Addr} {zs : List Int} {b off k : Nat} (h : Ints w w.heap.size A zs) (hA : A = some ⟨b, off, none⟩) (A' : Option Addr) (hA' : k < zs.length → A' = some ⟨b, off + k, none⟩) : Ints w w.heap.size A' (zs.drop k) := fun hz => by
  rw [List.length_drop] at hz
  obtain ⟨b', off', e, hb', hc'⟩ := h (by omega)
  rw [hA] at e
  injection e with e; injection e with e1 e2
  subst e1 e2
  exact ⟨b, off + k, hA' (by omega), hb', fun j x hx => by rw [Nat.add_assoc]; exact hc' _ _ (by rwa [List.getElem?_drop] at hx)⟩

set_option maxHeartbeats 4000000 in
set_option maxRecDepth 100000 in
theorem impl_LightSteps : GivesNum1 115 M.lightSteps := by
  intro A xs c v w hx hcc h
  obtain ⟨r, hr⟩ : ∃ r, Hid (M.code xs [v] = r) := ⟨_, rfl⟩
  have hc := codeOf A (some ⟨w.heap.size + 1, 0, none⟩) xs [v] c 1 ((w.alloc (.cells #[.slice A xs.length c] 26)).alloc (.cells #[.int .i64 v] 2)) (by omega) (by simp) ((h.al _).al _) (by have := ints_new (w.alloc (.cells #[.slice A xs.length c] 26)) #[.int .i64 v] [v] rfl; simpa using this) r hr
  simp only [List.length_cons, List.length_nil, Nat.zero_add] at hc
  have HC := Lib.hid hc
  clear hc
  by_cases h0 : r = 0
  · subst h0
    have hn := M.code_node hr.out
    have Ht := Lib.hid (M.code_tree hr.out)
    have hlen := (M.tree_len Ht.out).2
    obtain ⟨v, rfl⟩ := Int.eq_ofNat_of_zero_le hn.1
    have hvl : v < xs.length := by simpa using hn.2.1
    have hpos : 0 < xs.length := by omega
    rw [M.lightSteps_yes hr.out]
    have hwl := M.way_len Ht.out (M.pars_ex Ht.out) hpos hvl
    obtain ⟨L, hL⟩ : ∃ L, Hid (M.lights xs v = L) := ⟨_, rfl⟩
    rw [hL.out]
    obtain ⟨W, hW⟩ : ∃ W, Hid (M.way xs 0 v = W) := ⟨_, rfl⟩
    have hLW : Hid (M.lightIn xs (W.drop 1) = L) := by show _ = _; rw [← hL.out, M.lights, hW.out]
    rw [hW.out] at hwl
    clear hn
    go_enter Try.func115, Try.ntmps115
    go_wp2_with fail
    refine HC.out.mono ?_
    rintro e w1 ⟨rfl, hb⟩
    have hB := Lib.hid (btr (bal (bal (b0 w) _) _) hb)
    have HcellA := Lib.hid (show w1.cell? ⟨w.heap.size, 0, none⟩ = some (.slice A xs.length c) from cell_be (cell_al (by simp) _) hb)
    have hcA := HcellA.out
    have h1 := Lib.hid (((h.al _).al _).be hb)
    clear hb h HC
    go_wp2_with fail
    refine (heavyIn A xs c _ hcc.1 hcc.2 Ht h1).mono ?_
    rintro e w2 ⟨Ah, ch, rfl, hoh, hb⟩
    have hB2 := Lib.hid (btr hB.out hb)
    have hcA2 := cell_be HcellA.out hb
    have HcA2 := Lib.hid hcA2
    have h2 := Lib.hid (h1.out.be hb)
    have hH2 := Lib.hid (ints_of_own64 hoh.out)
    clear hb hcA hoh
    go_wp2_with fail
    refine ((callsIn_wide (n := 5)).1 (parentsIn_in A xs c _ hcc.1 hcc.2 Ht h2.out)).mono ?_
    rintro e w3 ⟨A', c', ps, rfl, hok, ho, hb⟩
    have hB3 := Lib.hid (btr hB2.out hb)
    have hH3 := Lib.hid (hH2.out.be hb)
    have HW := wayIn A' xs ps c' 0 v w3 Ht hok hpos hvl (Lib.hid (ints_of_own64 ho))
    rw [hW.out] at HW
    have HW := Lib.hid HW
    clear ho hb hok hcA2
    go_wp2_with fail
    refine HW.out.mono ?_
    rintro e w4 ⟨A4, c4, rfl, ho4, hb4⟩
    have hB4 := Lib.hid (btr hB3.out hb4)
    have hH4 := Lib.hid (hH3.out.be hb4)
    have Hcap := Lib.hid (own_caps ho4)
    have H4 := Lib.hid (ints_of_own64 ho4)
    obtain ⟨b, off, eA, _, _⟩ := H4.out (by omega)
    subst eA
    have Hdr := Lib.hid (fun A' hA' => ints_drop (k := 1) H4.out rfl A' hA')
    have hDl : Hid ((W.drop 1).length = W.length - 1) := List.length_drop ..
    have hst : Hid (M.lightIn xs ((W.drop 1).take 0) = 0) := rfl
    have hc41 : 1 ≤ c4 := by have := Hcap.out; omega
    clear hb4 HW ho4 H4
    go_wp2
    all_goals
      first | subst h | (have hcq := Lib.hid h; clear h)
      go_loopw [8, 10, 28] (fun q _ i wr => ∃ k : Nat, k ≤ W.length - 1 ∧ i = .int .i64 (k : Int) ∧ q = .int .i64 (M.lightIn xs ((W.drop 1).take k)) ∧ w4 = wr) (fun _ _ i _ => W.length - 1 - (intOf i).toNat)
      case atStart => exact ⟨0, Nat.zero_le _, rfl, by rw [hst.out], rfl⟩
      case round =>
        obtain ⟨k, hk, rfl, rfl, rfl⟩ := hrel
        clear hst
        by_cases hlt : k < W.length - 1
        · first
            | (exfalso; have := Hcap.out; omega)
            | (obtain ⟨b', off', x, e', hbB, g, hX⟩ := (Hdr.out (some ⟨b, off + 1, none⟩) (fun _ => rfl)).at_ (k := k) (by rw [hDl.out]; exact hlt)
               injection e' with e'; injection e' with e1 e2
               subst e1 e2
               have hki : (k : Int) < ((W.length - 1 : Nat) : Int) := by omega
               have hk0 : (0 : Int) ≤ (k : Int) := by omega
               have hlb := M.lightIn_bounds xs ((W.drop 1).take k)
               have hlk : ((W.drop 1).take k).length ≤ k := by simp; omega
               obtain ⟨y, hy⟩ : ∃ y, M.lightIn xs ((W.drop 1).take k) = y := ⟨_, rfl⟩
               have hhit := Lib.hid (fun hm => (M.lightIn_take_hit (xs := xs) hX.out hm).trans hy)
               have hmiss := Lib.hid (fun hm => (M.lightIn_take_miss (xs := xs) hX.out hm).trans (congrArg (· + 1) hy))
               rw [hy] at hlb ⊢
               have hyb : 0 ≤ y ∧ y ≤ 48 := by omega
               clear hX hy hlb hlk
               by_cases hm : x ∈ M.heavy xs
               · have hb1 : Hid (decide (x ∈ M.heavy xs) = true) := decide_eq_true hm
                 have hy2 := Lib.hid (hhit.out hm)
                 clear hhit hmiss hm
                 go_wp2_with (go_at_call 231; refine (containsIs Ah (M.heavy xs) xs.length ch x _ (M.heavy_len xs) (by omega) hH4 true hb1).mono ?_; rintro e w' ⟨rfl, rfl⟩)
                 go_roundw
                 case rel => exact ⟨k + 1, by omega, by go_num, by rw [hy2.out], trivial⟩
                 case measure => simp [intOf]; omega
               · have hb1 : Hid (decide (x ∈ M.heavy xs) = false) := decide_eq_false hm
                 have hy2 := Lib.hid (hmiss.out hm)
                 clear hhit hmiss hm
                 go_wp2_with (go_at_call 231; refine (containsIs Ah (M.heavy xs) xs.length ch x _ (M.heavy_len xs) (by omega) hH4 false hb1).mono ?_; rintro e w' ⟨rfl, rfl⟩)
                 go_roundw
                 case rel => exact ⟨k + 1, by omega, by go_num, by rw [hy2.out], trivial⟩
                 case measure => simp [intOf]; omega)
        · obtain rfl : k = W.length - 1 := by omega
          have he : Hid (M.lightIn xs ((W.drop 1).take (W.length - 1)) = L) := by show _ = _; rw [List.take_of_length_le (by rw [hDl.out]; exact Nat.le_refl _)]; exact hLW.out
          go_wp2
          go_ret2
          exact ⟨by rw [he.out]; rfl, hB4.out⟩
  · rw [M.lightSteps_no (by rw [hr.out]; exact h0), hr.out]
    have hq : (r != 0) = true := by simp [h0]
    clear h0
    go_enter Try.func115, Try.ntmps115
    go_wp2_with fail
    refine HC.out.mono ?_
    rintro e w1 ⟨rfl, hb⟩
    have hB := btr (bal (bal (b0 w) _) _) hb
    go_wp2
    go_ret2
    exact ⟨rfl, hB⟩

set_option maxHeartbeats 4000000 in
set_option maxRecDepth 100000 in
theorem spec_LightSteps : GivesNum1 116 M.lightSteps := by
  intro A xs c v w hx hcc h
  obtain ⟨r, hr⟩ : ∃ r, Hid (M.code xs [v] = r) := ⟨_, rfl⟩
  have hc := l01Nodes A (some ⟨w.heap.size + 1, 0, none⟩) xs [v] c 1 ((w.alloc (.cells #[.slice A xs.length c] 26)).alloc (.cells #[.int .i64 v] 2)) (by omega) (by simp) ((h.al _).al _) (by have := ints_new (w.alloc (.cells #[.slice A xs.length c] 26)) #[.int .i64 v] [v] rfl; simpa using this) r hr
  simp only [List.length_cons, List.length_nil, Nat.zero_add] at hc
  have HC := Lib.hid hc
  clear hc
  by_cases h0 : r = 0
  · subst h0
    have hn := M.code_node hr.out
    have Ht := Lib.hid (M.code_tree hr.out)
    have hlen := (M.tree_len Ht.out).2
    obtain ⟨v, rfl⟩ := Int.eq_ofNat_of_zero_le hn.1
    have hvl : v < xs.length := by simpa using hn.2.1
    rw [M.lightSteps_yes hr.out]
    obtain ⟨L, hL⟩ : ∃ L, Hid (M.lights xs v = L) := ⟨_, rfl⟩
    rw [hL.out]
    clear hn
    go_enter Try.func116, Try.ntmps116
    go_wp2_with fail
    refine HC.out.mono ?_
    rintro e w1 ⟨rfl, hb⟩
    have hB := Lib.hid (btr (bal (bal (b0 w) _) _) hb)
    have hcA : w1.cell? ⟨w.heap.size, 0, none⟩ = some (.slice A xs.length c) := cell_be (cell_al (by simp) _) hb
    have h1 := Lib.hid (((h.al _).al _).be hb)
    clear hb h HC
    have hP : ∀ W, Hid (Below w1.heap.size w1 W) → Calls Try.prog 172 #[.agg #[.slice A xs.length c]] W fun e w' => ∃ A' c' ps, e = .returned (.slice A' xs.length c') ∧ Hid (M.ParsOK xs ps) ∧ Hid (Ints w' w'.heap.size A' ps) ∧ Hid (Below w1.heap.size w1 w') ∧ Hid (Below W.heap.size W w') := fun W hW =>
      (l01Parents A xs c W Ht (h1.out.be hW.out)).mono fun e w' ⟨A', c', ps, he, hok, ho, hb⟩ => ⟨A', c', ps, he, hok, ints_of_own64 ho, btr hW.out hb, hb⟩
    have hH : ∀ W, Hid (Below w1.heap.size w1 W) → Calls Try.prog 232 #[.agg #[.slice A xs.length c]] W fun e w' => ∃ A' c', e = .returned (.slice A' xs.length c') ∧ Hid (Ints w' w'.heap.size A' (M.heavy xs)) ∧ Hid (Below w1.heap.size w1 w') ∧ Hid (Below W.heap.size W w') := fun W hW =>
      (l08Heavy A xs c W Ht (h1.out.be hW.out)).mono fun e w' ⟨A', c', he, ho, hb⟩ => ⟨A', c', he, ints_of_own64 ho.out, btr hW.out hb, hb⟩
    have HP := Lib.hid hP
    have HH := Lib.hid hH
    have HcA := Lib.hid hcA
    have K0 : Hid (Below w1.heap.size w1 w1.drew) := (Below.refl _ _).drew
    have cA0 : w1.drew.cell? ⟨w.heap.size, 0, none⟩ = some (.slice A xs.length c) := hcA
    clear hP hH
    go_wp2
    go_region_held3 (fun w' => w'.cell? ⟨w.heap.size, 0, none⟩ = some (.slice A xs.length c) ∧ Hid (Below w1.heap.size w1 w')) (first | exact ⟨cA0, K0⟩ | exact ⟨(cell_be HcA.out (Hid.out (by assumption))), by assumption⟩) (first | (go_at_call 172; refine (HP.out _ (by assumption)).mono ?_; rintro e w7 ⟨A7, c7, ps, rfl, hok, ho7, hb7, hc7⟩) | (go_at_call 232; refine (HH.out _ (by assumption)).mono ?_; rintro e w8 ⟨A8, c8, rfl, ho8, hb8, hc8⟩))
    have h7 : Hid (Ints w8 w8.heap.size A7 ps) := ho7.out.be hc8.out
    have hB8 : Hid (Below w.heap.size w w8) := btr hB.out hb8.out
    have hst : Hid (0 + M.lightIn xs (M.upTo ps 0 v) = L) := by show _ = _; rw [← hL.out, M.lights_up Ht.out hok.out hvl, Int.zero_add]
    have hul := M.upTo_len Ht.out hok.out hvl
    clear HP HH HcA K0 cA0 ho7 hb7 hc7 hb8 hc8 hcA
    go_wp2
    go_loopw [1, 9] (fun qv qc wr => ∃ (a : Nat) (y : Int), a < xs.length ∧ 0 ≤ y ∧ y + (a : Int) ≤ 24 ∧ qv = .int .i64 (a : Int) ∧ qc = .int .i64 y ∧ Hid (y + M.lightIn xs (M.upTo ps 0 a) = L) ∧ w8 = wr) (fun qv _ _ => (intOf qv).toNat)
    case atStart => exact ⟨v, 0, hvl, by omega, by omega, rfl, rfl, hst, rfl⟩
    case round =>
      obtain ⟨a, y, hal, hy0, hya, rfl, rfl, hL2, rfl⟩ := hrel
      clear hst
      by_cases ha : 0 < a
      · obtain ⟨p, hq, hpa, _⟩ := M.par_has Ht.out hok.out ha hal
        have hs := Lib.hid (M.lightIn_step Ht.out hok.out ha hal hq)
        obtain ⟨pb, po, z, rfl, hpb, g, hX⟩ := h7.out.at_ (k := a) (by rw [hok.out.1]; exact hal)
        have hX2 := hX.out
        rw [hq] at hX2
        injection hX2 with hX2
        subst hX2
        have ha0 : (0 : Int) < (a : Int) := by omega
        have ha1 : (0 : Int) ≤ (a : Int) := by omega
        have hax : (a : Int) < (xs.length : Int) := by omega
        obtain ⟨b, hb⟩ : ∃ b, Hid (M.isHeavy xs a = b) := ⟨_, rfl⟩
        rw [hb.out] at hs
        have HLt := Lib.hid (l08Light (some ⟨pb, po, none⟩) A8 xs ps c7 c8 a w8 Ht hok hal h7 ho8 b hb)
        clear hX hq hb
        cases b
        · have hn2 : Hid (y + 1 + M.lightIn xs (M.upTo ps 0 p) = L) := by have h1 := hs.out; have h2 := hL2.out; show _ = _; simp at h1; omega
          clear hs hL2
          go_wp2_with (go_at_call 233; refine HLt.out.mono ?_; rintro e w' ⟨rfl, rfl⟩)
          go_roundw
          case rel => exact ⟨p, y + 1, by omega, by omega, by omega, rfl, by go_num, hn2, trivial⟩
          case measure => simp [intOf]; omega
        · have hn2 : Hid (y + M.lightIn xs (M.upTo ps 0 p) = L) := by have h1 := hs.out; have h2 := hL2.out; show _ = _; simp at h1; omega
          clear hs hL2
          go_wp2_with (go_at_call 233; refine HLt.out.mono ?_; rintro e w' ⟨rfl, rfl⟩)
          go_roundw
          case rel => exact ⟨p, y, by omega, by omega, by omega, rfl, rfl, hn2, trivial⟩
          case measure => simp [intOf]; omega
      · obtain rfl : a = 0 := by omega
        have he : Hid (y = L) := by have := hL2.out; rw [M.lightIn_root, Int.add_zero] at this; exact this
        clear hL2
        go_wp2
        go_ret2
        exact ⟨by rw [he.out]; rfl, hB8.out⟩
  · rw [M.lightSteps_no (by rw [hr.out]; exact h0), hr.out]
    have hq : (r != 0) = true := by simp [h0]
    clear h0
    go_enter Try.func116, Try.ntmps116
    go_wp2_with fail
    refine HC.out.mono ?_
    rintro e w1 ⟨rfl, hb⟩
    have hB := btr (bal (bal (b0 w) _) _) hb
    go_wp2
    go_ret2
    exact ⟨rfl, hB⟩
end Go.Proofs.Ytdgcjkgbglofbaa

/- IntervalOf, the program's and the model's: the first and the last node of a subtree, or a code. -/
namespace Go.Proofs.Ytdgcjkgbglofbaa
open Go.RowKit

set_option maxHeartbeats 1000000 in
theorem impl_IntervalOf : GivesPair1 117 M.intervalOf := by
  intro A xs c v w hx hcc h
  obtain ⟨r, hr⟩ : ∃ r, Hid (M.code xs [v] = r) := ⟨_, rfl⟩
  have hc := codeOf A (some ⟨w.heap.size + 1, 0, none⟩) xs [v] c 1 ((w.alloc (.cells #[.slice A xs.length c] 26)).alloc (.cells #[.int .i64 v] 2)) (by omega) (by simp) ((h.al _).al _) (by have := ints_new (w.alloc (.cells #[.slice A xs.length c] 26)) #[.int .i64 v] [v] rfl; simpa using this) r hr
  simp only [List.length_cons, List.length_nil, Nat.zero_add] at hc
  have HC := Lib.hid hc
  clear hc
  by_cases h0 : r = 0
  · subst h0
    have hn := M.code_node hr.out
    have ht := M.code_tree hr.out
    have hlen := (M.tree_len ht).2
    obtain ⟨n, rfl⟩ := Int.eq_ofNat_of_zero_le hn.1
    have hv : n < xs.length := by simpa using hn.2.1
    have hk := Lib.hid (M.tree_ok ht hv)
    obtain ⟨S, hS⟩ : ∃ S, Hid (M.span 1 (xs.drop n) = S) := ⟨_, rfl⟩
    have hSb : 1 ≤ S ∧ S ≤ 24 := by
      have h1 := M.span_le (xs.drop n) 1
      have h2 := M.span_pos hv
      have h3 := hS.out
      simp only [List.length_drop] at h1
      omega
    rw [M.intervalOf_yes hr.out, hS.out]
    have hw1 : IntKind.i64.wrap ((n : Int) + (S : Int)) = (n : Int) + (S : Int) := IntWalk.i64_in _ (by omega)
    have hw2 : IntKind.i64.wrap ((n : Int) + (S : Int) - 1) = (n : Int) + (S : Int) - 1 := IntWalk.i64_in _ (by omega)
    clear hn ht
    go_enter Try.func117, Try.ntmps117
    go_wp2_with fail
    refine HC.out.mono ?_
    rintro e w1 ⟨rfl, hb⟩
    have hB := Lib.hid (btr (bal (bal (b0 w) _) _) hb)
    have hcell : w1.cell? ⟨w.heap.size, 0, none⟩ = some (.slice A xs.length c) := cell_be (cell_al (by simp) _) hb
    have h1 := Lib.hid (((h.al _).al _).be hb)
    clear hb h HC
    go_wp2_with (go_at_call 167; refine (sizeAt A xs c n S _ hS hlen hcc.1 (by omega) hk h1.out).mono ?_; rintro e w' ⟨rfl, rfl⟩)
    go_ret3
    exact ⟨rfl, hB.out⟩
  · rw [M.intervalOf_no (by rw [hr.out]; exact h0), hr.out]
    have hq : (r != 0) = true := by simp [h0]
    clear h0
    go_enter Try.func117, Try.ntmps117
    go_wp2_with fail
    refine HC.out.mono ?_
    rintro e w1 ⟨rfl, hb⟩
    have hB := btr (bal (bal (b0 w) _) _) hb
    go_wp2
    go_ret3
    exact ⟨rfl, hB⟩

set_option maxHeartbeats 1000000 in
theorem spec_IntervalOf : GivesPair1 118 M.intervalOf := by
  intro A xs c v w hx hcc h
  obtain ⟨r, hr⟩ : ∃ r, Hid (M.code xs [v] = r) := ⟨_, rfl⟩
  have hc := l01Nodes A (some ⟨w.heap.size + 1, 0, none⟩) xs [v] c 1 ((w.alloc (.cells #[.slice A xs.length c] 26)).alloc (.cells #[.int .i64 v] 2)) (by omega) (by simp) ((h.al _).al _) (by have := ints_new (w.alloc (.cells #[.slice A xs.length c] 26)) #[.int .i64 v] [v] rfl; simpa using this) r hr
  simp only [List.length_cons, List.length_nil, Nat.zero_add] at hc
  have HC := Lib.hid hc
  clear hc
  by_cases h0 : r = 0
  · subst h0
    have hn := M.code_node hr.out
    have ht := M.code_tree hr.out
    have hlen := (M.tree_len ht).2
    obtain ⟨n, rfl⟩ := Int.eq_ofNat_of_zero_le hn.1
    have hv : n < xs.length := by simpa using hn.2.1
    have hk := Lib.hid (M.tree_ok ht hv)
    obtain ⟨E, hE⟩ : ∃ E, Hid (n + M.span 1 (xs.drop n) = E) := ⟨_, rfl⟩
    have hEb : 1 ≤ E ∧ E ≤ 48 := by
      have h1 := M.span_le (xs.drop n) 1
      have h2 := M.span_pos hv
      have h3 := hE.out
      simp only [List.length_drop] at h1
      omega
    have hF : (n : Int) + (M.span 1 (xs.drop n) : Int) - 1 = (E : Int) - 1 := by have := hE.out; omega
    rw [M.intervalOf_yes hr.out, hF]
    have hw1 : IntKind.i64.wrap ((E : Int) - 1) = (E : Int) - 1 := IntWalk.i64_in _ (by omega)
    clear hn ht hF
    go_enter Try.func118, Try.ntmps118
    go_wp2_with fail
    refine HC.out.mono ?_
    rintro e w1 ⟨rfl, hb⟩
    have hB := Lib.hid (btr (bal (bal (b0 w) _) _) hb)
    have hcell : w1.cell? ⟨w.heap.size, 0, none⟩ = some (.slice A xs.length c) := cell_be (cell_al (by simp) _) hb
    have h1 := Lib.hid (((h.al _).al _).be hb)
    clear hb h HC
    go_wp2_with fail
    refine (l01End A xs c n E _ hE hlen hk h1.out).mono ?_
    rintro e w2 ⟨rfl, hb2⟩
    have hB2 := Lib.hid (btr hB.out hb2)
    clear hb2
    go_wp2
    go_ret3
    exact ⟨rfl, hB2.out⟩
  · rw [M.intervalOf_no (by rw [hr.out]; exact h0), hr.out]
    have hq : (r != 0) = true := by simp [h0]
    clear h0
    go_enter Try.func118, Try.ntmps118
    go_wp2_with fail
    refine HC.out.mono ?_
    rintro e w1 ⟨rfl, hb⟩
    have hB := btr (bal (bal (b0 w) _) _) hb
    go_wp2
    go_ret3
    exact ⟨rfl, hB⟩
end Go.Proofs.Ytdgcjkgbglofbaa

/- copies of slices: l01Own, slices.Clone, l01Make. -/
namespace Go.Proofs.Ytdgcjkgbglofbaa
open Go.RowKit

set_option maxHeartbeats 400000 in
theorem l01Own (A : Option Addr) (xs : List Int) (m c : Nat) (w : World) (hm : Hid (xs.length = m)) (hx : m ≤ 1000000) (hz : Hid (A = none → c = 0)) (h : Hid (Ints w w.heap.size A xs)) :
    Calls Try.prog 207 #[.slice A m c] w fun e w' => ∃ A' c', e = .returned (.slice A' m c') ∧ Own64 w' w.heap.size (.slice A' m c') xs ∧ Below w.heap.size w w' := by
  have hs : Hid (Own64 (w.alloc (.cells #[] 2)) w.heap.size (.slice (some ⟨w.heap.size, 0, none⟩) 0 0) []) := own64_empty (Nat.le_refl _)
  have hi : Hid (Ints (w.alloc (.cells #[] 2)) (w.alloc (.cells #[] 2)).heap.size A xs) := h.out.al _
  have hB : w.heap.size ≤ (w.alloc (.cells #[] 2)).heap.size := by simp
  go_enter Try.func207, Try.ntmps207
  go_wp2_with (at_builtin; refine appendInts rfl (.tmp 3) (.tmp 4) rfl _ w.heap.size (some ⟨w.heap.size, 0, none⟩) 0 0 [] A m c xs rfl rfl hs hi hm hz hB (Nat.zero_le _) hx ?_; intro A2 c2 w2 ho2 hb2)
  go_ret
  exact ⟨A2, c2, by simp, by have := ho2.out; simpa using this, ((Below.refl _ _).alloc (Nat.le_refl _) _).trans hb2.out⟩

set_option maxHeartbeats 400000 in
set_option maxRecDepth 100000 in
theorem clone (ad : Addr) (xs : List Int) (m c : Nat) (w : World) (hm : Hid (xs.length = m)) (hx : m ≤ 1000000) (h : Hid (Ints w w.heap.size (some ad) xs)) :
    Calls Try.prog 194 #[.slice (some ad) m c] w fun e w' => ∃ A' c', e = .returned (.slice A' m c') ∧ Own64 w' w.heap.size (.slice A' m c') xs ∧ Below w.heap.size w w' := by
  have hs : Hid (Own64 (w.alloc (.cells #[] 2)) w.heap.size (.slice (some ⟨w.heap.size, 0, none⟩) 0 0) []) := own64_empty (Nat.le_refl _)
  have hi : Hid (Ints (w.alloc (.cells #[] 2)) (w.alloc (.cells #[] 2)).heap.size (some ad) xs) := h.out.al _
  have hB : w.heap.size ≤ (w.alloc (.cells #[] 2)).heap.size := by simp
  have hz : Hid ((some ad : Option Addr) = none → c = 0) := fun e => by cases e
  have heq := fun W => Lib.run_eql_slice_nil (P := Try.prog) W 24 2 (some ad) m c 0 0 Try.underlying24
  go_enter Try.func194, Try.ntmps194
  go_wp2_with (at_builtin; refine appendInts rfl (.tmp 5) (.tmp 6) rfl _ w.heap.size (some ⟨w.heap.size, 0, none⟩) 0 0 [] (some ad) m c xs rfl rfl hs hi hm hz hB (Nat.zero_le _) hx ?_; intro A2 c2 w2 ho2 hb2)
  go_ret
  exact ⟨A2, c2, by simp, by have := ho2.out; simpa using this, ((Below.refl _ _).alloc (Nat.le_refl _) _).trans hb2.out⟩

set_option maxHeartbeats 400000 in
theorem l01Make (A : Option Addr) (xs : List Int) (m c : Nat) (w : World) (hm : Hid (xs.length = m)) (hx : m ≤ 1000000) (hz : Hid (A = none → c = 0)) (h : Hid (Ints w w.heap.size A xs)) :
    Calls Try.prog 271 #[.slice A m c] w fun e w' => ∃ A' c', e = .returned (.agg #[.slice A' m c']) ∧ Own64 w' w.heap.size (.slice A' m c') xs ∧ Below w.heap.size w w' := by
  go_enter Try.func271, Try.ntmps271
  go_wp2_with fail
  refine (l01Own A xs m c _ hm hx hz (h.out.al _)).mono ?_
  rintro e w1 ⟨A', c', rfl, ho, hb⟩
  obtain ⟨hc, hf⟩ := bcell hb
  have hB := btr (bal (b0 w) _) hb
  have Ho := Lib.hid (own_mono (base' := w.heap.size + 1) ho (by simp))
  clear ho
  go_wp2
  refine bodyPost_ret (v := .agg #[.slice A' m c']) (by simp [results, Try.results271, go_sem, hc]) rfl ?_
  exact ⟨A', c', rfl, own_mono (own_far Ho.out (Nat.lt_succ_self _) _) (Nat.le_succ _), below_setCell hB (Nat.le_refl _) _⟩
end Go.Proofs.Ytdgcjkgbglofbaa

/- appendFirst: the first list of so many trees, appended; tests of ranges. -/
namespace Go.Proofs.Ytdgcjkgbglofbaa
open Go.RowKit

namespace M
def firstTo (m t i : Nat) : List Int := (List.range m).map fun j => if t ≤ j + 1 ∧ j < i then 1 else 0
/-- so many trees of so many nodes together, the first list: all but the last one are single nodes, and the last one is a path -/
def firstL (m t : Nat) : List Int := firstTo m t (m - 1)
theorem firstTo_len (m t i : Nat) : (firstTo m t i).length = m := by simp [firstTo]
theorem firstL_len (m t : Nat) : (firstL m t).length = m := firstTo_len _ _ _
theorem firstTo_start (m t : Nat) (ht : 1 ≤ t) : firstTo m t (t - 1) = List.replicate m 0 := by
  apply List.ext_getElem?
  intro j
  simp only [firstTo, List.getElem?_map, List.getElem?_replicate]
  by_cases hj : j < m
  · rw [List.getElem?_range hj, if_pos hj]
    simp only [Option.map_some]
    rw [if_neg (by omega)]
  · rw [List.getElem?_eq_none (by simp; omega), if_neg hj]; rfl
theorem firstTo_step (m t i : Nat) (h1 : t ≤ i + 1) : (firstTo m t i).set i 1 = firstTo m t (i + 1) := by
  apply List.ext_getElem?
  intro j
  by_cases hj : j < m
  · by_cases hji : i = j
    · subst hji
      rw [List.getElem?_set_self (by rw [firstTo_len]; exact hj)]
      simp only [firstTo, List.getElem?_map]
      rw [List.getElem?_range hj]
      simp only [Option.map_some]
      rw [if_pos (by omega)]
    · rw [List.getElem?_set_ne hji]
      simp only [firstTo, List.getElem?_map]
      rw [List.getElem?_range hj]
      simp only [Option.map_some]
      congr 1
      by_cases h3 : t ≤ j + 1 ∧ j < i
      · rw [if_pos h3, if_pos (by omega)]
      · rw [if_neg h3, if_neg (by omega)]
  · rw [List.getElem?_eq_none (by simp [firstTo_len]; omega), List.getElem?_eq_none (by rw [firstTo_len]; omega)]
theorem firstTo_end {m t i : Nat} (h1 : t ≤ i + 1) (h2 : m ≤ i + 1) (h3 : i < m ∨ i = t - 1) (ht : 1 ≤ t) : firstTo m t i = firstL m t := by
  rcases Nat.lt_or_ge i m with h4 | h4
  · obtain rfl : i = m - 1 := by omega
    rfl
  · have e : i = t - 1 := by omega
    subst e
    rw [firstTo_start m t ht]
    apply List.ext_getElem?
    intro j
    simp only [firstL, firstTo, List.getElem?_map, List.getElem?_replicate]
    by_cases hj : j < m
    · rw [List.getElem?_range hj, if_pos hj]
      simp only [Option.map_some]
      rw [if_neg (by omega)]
    · rw [List.getElem?_eq_none (by simp; omega), if_neg hj]; rfl
theorem firstTo_at {m t i : Nat} (h : i < m) : ∃ y, (firstTo m t i)[i]? = some y := ⟨_, List.getElem?_eq_getElem (by rw [firstTo_len]; exact h)⟩
end M

theorem withinAny (n lo hi : Int) (w : World) (b : Bool) (hb : Hid ((decide (lo ≤ n) && decide (n ≤ hi)) = b)) :
    Calls Try.prog 216 #[.int .i64 n, .int .i64 lo, .int .i64 hi] w fun e w' => e = .returned (.bool b) ∧ w = w' := by
  by_cases h : lo ≤ n
  · have hb' : b = decide (n ≤ hi) := by rw [← hb.out]; simp [h]
    clear hb
    subst hb'
    go_enter Try.func216, Try.ntmps216
    go_wp2
    go_ret
    exact ⟨rfl, rfl⟩
  · have hb' : b = false := by rw [← hb.out]; simp; intro h'; exact absurd h' h
    have hd : decide (lo ≤ n) = false := decide_eq_false h
    clear hb
    subst hb'
    go_enter Try.func216, Try.ntmps216
    go_wp2
    go_ret
    exact ⟨rfl, rfl⟩

theorem l02Whole (n : Int) (w : World) (b : Bool) (hb : Hid ((decide (1 ≤ n) && decide (n ≤ 24)) = b)) :
    Calls Try.prog 217 #[.int .i64 n] w fun e w' => e = .returned (.bool b) ∧ w = w' := by
  go_enter Try.func217, Try.ntmps217
  go_wp2_with (go_at_call 229; refine (inAny _ _ _ _ b hb).mono ?_; rintro e w8 ⟨rfl, rfl⟩)
  go_ret
  exact ⟨rfl, rfl⟩

set_option maxRecDepth 100000 in
set_option maxHeartbeats 1000000 in
theorem appendFirst (A : Option Addr) (n c : Nat) (zs : List Int) (m t : Nat) (w : World) (B : Nat) (hm1 : 1 ≤ m) (hm : m ≤ 24) (ht1 : 1 ≤ t) (ht : t ≤ 100) (hn : n ≤ 1000) (hown : Hid (Own64 w B (.slice A n c) zs)) (hB : B ≤ w.heap.size) :
    Calls Try.prog 218 #[.slice A n c, .int .i64 m, .int .i64 t] w fun e w' => ∃ A' c', e = .returned (.slice A' (n + m) c') ∧ Own64 w' B (.slice A' (n + m) c') (zs ++ M.firstL m t) ∧ Below B w w' := by
  have hmk := run_make_row' (P := Try.prog) 24 2 (.int .i64 0) 8 Try.underlying24 info64 rfl .i64 .i64 m (by omega) (by omega)
  have ht2 : Hid (Two (w.alloc (.cells (madeCells #[.int .i64 0] m) 2)) B (.slice (some ⟨w.heap.size, 0, none⟩) m m) (.slice A n c) (M.firstTo m t (t - 1)) zs) := by
    rw [M.firstTo_start m t ht1]
    exact ⟨own_mono (own64_made (w := w) (B := w.heap.size) (n := m) (Nat.le_refl _) (by unfold maxLen; omega)) hB, hown.out.alloc _, fun b e e2 => by
      have e1 : b = w.heap.size := by injection e with e; exact e.symm
      have := (World.ownsRow.lt hown.out b e2).2
      omega⟩
  have hb0 : Hid (Below B w (w.alloc (.cells (madeCells #[.int .i64 0] m) 2))) := (Below.refl _ _).alloc hB _
  clear hown
  go_enter Try.func218, Try.ntmps218
  go_wp2
  clear hmk
  go_loopw [8] (fun i wr => ∃ (k : Nat), t ≤ k + 1 ∧ (k < m ∨ k = t - 1) ∧ i = .int .i64 k ∧ Hid (Two wr B (.slice (some ⟨w.heap.size, 0, none⟩) m m) (.slice A n c) (M.firstTo m t k) zs) ∧ Hid (Below B w wr)) (fun i _ => 200 - (intOf i).toNat)
  case atStart => exact ⟨t - 1, by omega, .inr rfl, by go_num, ht2, hb0⟩
  case round =>
    obtain ⟨k, hk1, hk2, rfl, ho, hbr⟩ := hrel
    clear ht2 hb0
    by_cases hlt : k + 1 < m
    · obtain ⟨y, hy⟩ := M.firstTo_at (m := m) (t := t) (i := k) (by omega)
      obtain ⟨c1, c2, _, _⟩ := own64_cell ho.out.1 (M.firstTo_len _ _ _) hy
      have hset := ho.out.set (M.firstTo_len _ _ _) k 1
      rw [M.firstTo_step m t k hk1] at hset
      have hset := Lib.hid hset
      have hlt2 : (k : Int) < (m : Int) - 1 := by omega
      clear hy ho
      go_wp2
      go_roundw
      case rel => exact ⟨k + 1, by omega, .inl (by omega), by go_num, hset, below_setCell hbr.out hB _⟩
      case measure => simp [intOf]; omega
    · have he := Lib.hid (M.firstTo_end (m := m) (t := t) (i := k) hk1 (by omega) hk2 ht1)
      have hge : ¬ (k : Int) < (m : Int) - 1 := by omega
      have hO := Lib.hid ho.out.2.1
      have hI : Hid (Ints wr wr.heap.size (some ⟨w.heap.size, 0, none⟩) (M.firstTo m t k)) := ints_of_own64 ho.out.1
      have hml : Hid ((M.firstTo m t k).length = m) := M.firstTo_len _ _ _
      have hz : Hid ((some ⟨w.heap.size, 0, none⟩ : Option Addr) = none → m = 0) := fun e => by cases e
      have hBr : B ≤ wr.heap.size := Nat.le_trans hB hbr.out.size
      have hn' : n ≤ 1000000 := by omega
      have hm' : m ≤ 1000000 := by omega
      go_wp2_with (at_builtin; refine appendInts rfl (.tmp 22) (.tmp 23) rfl wr B A n c zs (some ⟨w.heap.size, 0, none⟩) m m (M.firstTo m t k) rfl rfl hO hI hml hz hBr hn' hm' ?_; intro A2 c2 w2 ho2 hb2)
      go_ret
      exact ⟨A2, c2, rfl, by rw [← he.out]; exact ho2.out, hbr.out.trans hb2.out⟩
end Go.Proofs.Ytdgcjkgbglofbaa

/- AncestorOf, the program's and the model's: the node some steps above a node, or a code. -/
namespace Go.Proofs.Ytdgcjkgbglofbaa
open Go.RowKit

set_option maxHeartbeats 4000000 in
set_option maxRecDepth 100000 in
theorem impl_AncestorOf : GivesNum2 120 M.ancestorOf := by
  intro A xs c v k w hx hcc h
  obtain ⟨r, hr⟩ : ∃ r, Hid (M.code xs [v] = r) := ⟨_, rfl⟩
  have hc := codeOf A (some ⟨w.heap.size + 1, 0, none⟩) xs [v] c 1 ((w.alloc (.cells #[.slice A xs.length c] 26)).alloc (.cells #[.int .i64 v] 2)) (by omega) (by simp) ((h.al _).al _) (by have := ints_new (w.alloc (.cells #[.slice A xs.length c] 26)) #[.int .i64 v] [v] rfl; simpa using this) r hr
  simp only [List.length_cons, List.length_nil, Nat.zero_add] at hc
  have HC := Lib.hid hc
  clear hc
  by_cases h0 : r = 0
  · subst h0
    by_cases hk : 0 ≤ k ∧ k ≤ 24
    · have hn := M.code_node hr.out
      have Ht := Lib.hid (M.code_tree hr.out)
      have hlen := (M.tree_len Ht.out).2
      obtain ⟨v, rfl⟩ := Int.eq_ofNat_of_zero_le hn.1
      obtain ⟨k, rfl⟩ := Int.eq_ofNat_of_zero_le hk.1
      have hvl : v < xs.length := by simpa using hn.2.1
      have hpos : 0 < xs.length := by omega
      have hk2 : k ≤ 24 := by omega
      have hwl := M.way_len Ht.out (M.pars_ex Ht.out) hvl hpos
      have hF1 := Lib.hid (fun hw => M.ancestorOf_none hr.out hk2 hw)
      have hF2 := Lib.hid (fun a hw => M.ancestorOf_some (a := a) hr.out hk2 hw)
      have HI : Hid ((decide ((0 : Int) ≤ (k : Int)) && decide ((k : Int) ≤ 24)) = true) := by show _ = _; simp; omega
      clear hn hk
      go_enter Try.func120, Try.ntmps120
      go_wp2_with fail
      refine HC.out.mono ?_
      rintro e w1 ⟨rfl, hb⟩
      have hB := Lib.hid (btr (bal (bal (b0 w) _) _) hb)
      have HcellA := Lib.hid (show w1.cell? ⟨w.heap.size, 0, none⟩ = some (.slice A xs.length c) from cell_be (cell_al (by simp) _) hb)
      have h1 := Lib.hid (((h.al _).al _).be hb)
      clear hb h HC
      have hcA := HcellA.out
      go_wp2_with (first | (go_at_call 216; refine (withinAny _ _ _ _ true HI).mono ?_; rintro e w' ⟨rfl, rfl⟩) | fail)
      refine ((callsIn_wide (n := 5)).1 (parentsIn_in A xs c _ hcc.1 hcc.2 Ht h1.out)).mono ?_
      rintro e w2 ⟨A', c', ps, rfl, hok, ho, hb⟩
      have hB2 := Lib.hid (btr hB.out hb)
      have z2 := hB2.out.size
      have HW := Lib.hid (wayIn A' xs ps c' v 0 w2 Ht hok hvl hpos (Lib.hid (ints_of_own64 ho)))
      clear ho hb hok hcA
      go_wp2_with fail
      refine HW.out.mono ?_
      rintro e w3 ⟨A3, c3, rfl, ho3, hb3⟩
      have hB3 := Lib.hid (btr hB2.out hb3)
      have Ho3 := Lib.hid (ints_of_own64 ho3)
      clear hb3 HW ho3
      generalize hW : M.way xs v 0 = W at *
      by_cases hkl : W.length ≤ k
      · have hF := Lib.hid (hF1.out hkl)
        have hge : (W.length : Int) ≤ (k : Int) := by omega
        clear hF1 hF2
        go_wp2
        go_ret2
        exact ⟨by rw [hF.out]; rfl, hB3.out⟩
      · obtain ⟨b, off, a, rfl, hbB, g, hX⟩ := Ho3.out.at_ (k := k) (by omega)
        have hF := Lib.hid (hF2.out a hX.out)
        have hlt : (k : Int) < (W.length : Int) := by omega
        have hk0 : (0 : Int) ≤ (k : Int) := by omega
        clear hF1 hF2 hX
        go_wp2
        go_ret2
        exact ⟨by rw [hF.out]; rfl, hB3.out⟩
    · rw [M.ancestorOf_range hr.out hk]
      have HI : Hid ((decide ((0 : Int) ≤ k) && decide (k ≤ 24)) = false) := by show _ = _; simp; omega
      go_enter Try.func120, Try.ntmps120
      go_wp2_with fail
      refine HC.out.mono ?_
      rintro e w1 ⟨rfl, hb⟩
      have hB := Lib.hid (btr (bal (bal (b0 w) _) _) hb)
      clear hb h HC
      go_wp2_with (go_at_call 216; refine (withinAny _ _ _ _ false HI).mono ?_; rintro e w' ⟨rfl, rfl⟩)
      go_ret2
      exact ⟨rfl, hB.out⟩
  · rw [M.ancestorOf_no (by rw [hr.out]; exact h0), hr.out]
    have hq : (r != 0) = true := by simp [h0]
    clear h0
    go_enter Try.func120, Try.ntmps120
    go_wp2_with fail
    refine HC.out.mono ?_
    rintro e w1 ⟨rfl, hb⟩
    have hB := btr (bal (bal (b0 w) _) _) hb
    go_wp2
    go_ret2
    exact ⟨rfl, hB⟩

set_option maxHeartbeats 4000000 in
set_option maxRecDepth 100000 in
theorem spec_AncestorOf : GivesNum2 121 M.ancestorOf := by
  intro A xs c v k w hx hcc h
  obtain ⟨r, hr⟩ : ∃ r, Hid (M.code xs [v] = r) := ⟨_, rfl⟩
  have hc := l01Nodes A (some ⟨w.heap.size + 1, 0, none⟩) xs [v] c 1 ((w.alloc (.cells #[.slice A xs.length c] 26)).alloc (.cells #[.int .i64 v] 2)) (by omega) (by simp) ((h.al _).al _) (by have := ints_new (w.alloc (.cells #[.slice A xs.length c] 26)) #[.int .i64 v] [v] rfl; simpa using this) r hr
  simp only [List.length_cons, List.length_nil, Nat.zero_add] at hc
  have HC := Lib.hid hc
  clear hc
  by_cases h0 : r = 0
  · subst h0
    have hq0 : ((0 : Int) == 0) = true := rfl
    by_cases hk : 0 ≤ k ∧ k ≤ 24
    · have hn := M.code_node hr.out
      have Ht := Lib.hid (M.code_tree hr.out)
      have hlen := (M.tree_len Ht.out).2
      obtain ⟨v, rfl⟩ := Int.eq_ofNat_of_zero_le hn.1
      obtain ⟨k, rfl⟩ := Int.eq_ofNat_of_zero_le hk.1
      have hvl : v < xs.length := by simpa using hn.2.1
      have hpos : 0 < xs.length := by omega
      have hk2 : k ≤ 24 := by omega
      have hF1 := Lib.hid (fun hw => M.ancestorOf_none hr.out hk2 hw)
      have hF2 := Lib.hid (fun a hw => M.ancestorOf_some (a := a) hr.out hk2 hw)
      have HI : Hid ((decide ((0 : Int) ≤ (k : Int)) && decide ((k : Int) ≤ 24)) = true) := by show _ = _; simp; omega
      clear hn hk
      go_enter Try.func121, Try.ntmps121
      go_wp2_with fail
      refine HC.out.mono ?_
      rintro e w1 ⟨rfl, hb⟩
      have hB := Lib.hid (btr (bal (bal (b0 w) _) _) hb)
      have HcellA := Lib.hid (show w1.cell? ⟨w.heap.size, 0, none⟩ = some (.slice A xs.length c) from cell_be (cell_al (by simp) _) hb)
      have h1 := Lib.hid (((h.al _).al _).be hb)
      clear hb h HC
      have hcA := HcellA.out
      go_wp2_with (first | (go_at_call 229; refine (inAny _ _ _ _ true HI).mono ?_; rintro e w' ⟨rfl, rfl⟩) | fail)
      refine (l01Parents A xs c _ Ht h1.out).mono ?_
      rintro e w2 ⟨A', c', ps, rfl, hok, ho, hb⟩
      have hB2 := Lib.hid (btr hB.out hb)
      have z2 := hB2.out.size
      have Ho := Lib.hid (ints_of_own64 ho)
      have hA0 := Lib.hid (M.anc_zero Ht.out hok.out hvl)
      clear ho hb hcA
      go_wp2
      go_loopw [1, 2] (fun qv qk wr => ∃ (a j : Nat), j ≤ k ∧ a < xs.length ∧ qv = .int .i64 (a : Int) ∧ qk = .int .i64 ((k : Int) - (j : Int)) ∧ Hid (M.Anc ps (M.way xs v 0) j a) ∧ w2 = wr) (fun _ qk _ => (intOf qk).toNat)
      case atStart => exact ⟨v, 0, Nat.zero_le _, hvl, rfl, by go_num, hA0, rfl⟩
      case round =>
        obtain ⟨a, j, hjk, hal, rfl, rfl, hA, rfl⟩ := hrel
        clear hA0
        by_cases hlt : j < k
        · have hpl : ps.length = xs.length := hok.out.1
          obtain ⟨pb, off, x, rfl, hpb, g, hX⟩ := Ho.out.at_ (k := a) (by omega)
          have ha0 : (0 : Int) ≤ (a : Int) := by omega
          have hal' : (a : Int) < (xs.length : Int) := by omega
          have hkj : (0 : Int) < (k : Int) - (j : Int) := by omega
          rcases Nat.eq_zero_or_pos a with hz | hz
          · subst hz
            have hx0 := hok.out.2.1
            rw [hX.out] at hx0
            injection hx0 with hx0
            subst hx0
            have hl := M.anc_root hA.out
            have hF := Lib.hid (hF1.out (by omega))
            have g0 : w2.cell? ⟨pb, off, none⟩ = some (.int .i64 (-1)) := by simpa using g
            clear hF1 hF2 hX hA g
            go_wp2
            go_ret2
            exact ⟨by rw [hF.out]; rfl, hB2.out⟩
          · obtain ⟨p, hp1, hp2, _⟩ := M.par_has Ht.out hok.out hz hal
            rw [hX.out] at hp1
            injection hp1 with hp1
            subst hp1
            have hA2 := Lib.hid (M.anc_step Ht.out hok.out hz hal hX.out hA.out)
            have hnn : ¬ (p : Int) < 0 := by omega
            clear hX hA
            go_wp2
            go_roundw
            case rel => exact ⟨p, j + 1, by omega, by omega, rfl, by go_num, hA2, trivial⟩
            case measure => simp [intOf]; omega
        · obtain rfl : j = k := by omega
          have hF := Lib.hid (hF2.out _ (M.anc_at Ht.out hok.out hal hA.out))
          have hkj : ¬ (0 : Int) < (j : Int) - (j : Int) := by omega
          clear hF1 hF2
          go_wp2
          go_ret2
          exact ⟨by rw [hF.out]; rfl, hB2.out⟩
    · rw [M.ancestorOf_range hr.out hk]
      have HI : Hid ((decide ((0 : Int) ≤ k) && decide (k ≤ 24)) = false) := by show _ = _; simp; omega
      go_enter Try.func121, Try.ntmps121
      go_wp2_with fail
      refine HC.out.mono ?_
      rintro e w1 ⟨rfl, hb⟩
      have hB := Lib.hid (btr (bal (bal (b0 w) _) _) hb)
      clear hb h HC
      go_wp2_with (go_at_call 229; refine (inAny _ _ _ _ false HI).mono ?_; rintro e w' ⟨rfl, rfl⟩)
      go_ret2
      exact ⟨rfl, hB.out⟩
  · rw [M.ancestorOf_no (by rw [hr.out]; exact h0), hr.out]
    have hq : (r == 0) = false := by simp [h0]
    have hq2 : (r != 0) = true := by simp [h0]
    clear h0
    go_enter Try.func121, Try.ntmps121
    go_wp2_with fail
    refine HC.out.mono ?_
    rintro e w1 ⟨rfl, hb⟩
    have hB := btr (bal (bal (b0 w) _) _) hb
    go_wp2
    go_ret2
    exact ⟨rfl, hB⟩
end Go.Proofs.Ytdgcjkgbglofbaa

/- SizesOf, the program's and the model's: the sizes of all subtrees. -/
namespace Go.Proofs.Ytdgcjkgbglofbaa
open Go.RowKit

def F_SizesOf (xs : List Int) : List Int × Int := M.cond xs (M.sizes xs xs.length)
theorem F_SizesOf_len (xs : List Int) : (F_SizesOf xs).1.length ≤ 1048576 := by
  cases ht : M.isTree xs
  · simp [F_SizesOf, M.cond_no ht]
  · have h1 := M.tree_len ht
    have h2 := Nat.le_of_eq (M.sizes_len xs xs.length)
    simp only [F_SizesOf, M.cond_yes ht]
    omega

set_option maxHeartbeats 2000000 in
theorem spec_SizesOf : GivesList 20 F_SizesOf := by
  intro A xs c w hx hcc h
  have hc := specIs A xs c (w.alloc (.cells #[.slice A xs.length c] 26)) (by omega) (h.al _)
  cases ht : M.isTree xs
  · rw [ht] at hc
    have HC := Lib.hid hc
    have hF : F_SizesOf xs = ([], 1) := M.cond_no ht
    rw [hF]
    clear hc ht hF
    go_enter Try.func20, Try.ntmps20
    go_wp2_with fail
    refine HC.out.mono ?_
    rintro e w1 ⟨rfl, hb⟩
    have hB := btr (bal (b0 w) _) hb
    go_wp2
    go_ret2
    exact ⟨none, 0, rfl, own64_nil _ _, hB⟩
  · have Ht := Lib.hid ht
    rw [ht] at hc
    have HC := Lib.hid hc
    have hF : F_SizesOf xs = (M.sizes xs xs.length, 0) := M.cond_yes ht
    have hlen := M.tree_len ht
    rw [hF]
    clear hc ht hF
    go_enter Try.func20, Try.ntmps20
    go_wp2_with fail
    refine HC.out.mono ?_
    rintro e w1 ⟨rfl, hb⟩
    have hB := btr (bal (b0 w) _) hb
    have hcell : w1.cell? ⟨w.heap.size, 0, none⟩ = some (.slice A xs.length c) := cell_be (by simp) hb
    have h1 := (h.al _).be hb
    have z1 := hB.size
    have HcellA := Lib.hid hcell
    clear hb h HC
    go_wp2
    go_loopw [4, 5] (fun q i wr => ∃ (k : Nat) (A' : Option Addr) (n c' : Nat), k ≤ xs.length ∧ i = .int .i64 k ∧ q = .slice A' n c' ∧ Hid (Own64 wr w1.heap.size (.slice A' n c') (M.sizes xs k)) ∧ Hid (Below w1.heap.size w1 wr)) (fun _ i _ => xs.length - (intOf i).toNat)
    case atStart => exact ⟨0, _, _, _, Nat.zero_le _, rfl, rfl, own64_empty (Nat.le_refl _), bal (b0 w1) _⟩
    case round =>
      obtain ⟨k, A', n, c', hk, rfl, rfl, ho, hbr⟩ := hrel
      have hcr := cell_be HcellA.out hbr.out
      have hnr : n ≤ 1000000 := by have h1 := own64_len ho.out; have h2 := M.sizes_len xs k; omega
      clear hcell
      by_cases hlt : k < xs.length
      · go_wp2_with fail
        refine (l01N A xs.length c _).mono ?_
        rintro e wn ⟨rfl, hb⟩
        have hbn := Lib.hid (btr hbr.out hb)
        have hon := Lib.hid (own_be ho.out hb)
        have hcn := cell_be HcellA.out hbn.out
        have hkk := Lib.hid (M.tree_ok Ht.out hlt)
        clear hb ho hbr hcr
        obtain ⟨E, hE⟩ : ∃ E, Hid (k + M.span 1 (xs.drop k) = E) := ⟨_, rfl⟩
        have hE1 : E ≤ 48 ∧ k ≤ E := by
          have h1 := M.span_le (xs.drop k) 1
          have h2 : (xs.drop k).length ≤ xs.length := by simp
          have h3 := hE.out
          have h4 := hlen.2
          omega
        obtain ⟨hE2, hE3⟩ := hE1
        have hl : Hid (M.sizes xs (k + 1) = M.sizes xs k ++ [(E : Int) - (k : Int)]) := by
          show _ = _
          rw [M.sizes_succ, ← hE.out]
          congr 2
          omega
        go_wp2_with fail
        refine (l01End A xs c k E _ hE hlen.2 hkk (h1.be hbn.out)).mono ?_
        rintro e we ⟨rfl, hb⟩
        have hbe := Lib.hid (btr hbn.out hb)
        have hoe := Lib.hid (own_be hon.out hb)
        have hB1 := hbe.out.size
        clear hb hon hbn hcn h1 hE hkk
        go_wp2_with (at_builtin; refine push64 rfl (.tmp 16) (.tmp 22) rfl we w1.heap.size A' n c' (M.sizes xs k) ((E : Int) - (k : Int)) rfl rfl hoe hB1 hnr ?_; intro A2 c2 w2 ho2 hb2)
        go_roundw
        case rel => exact ⟨k + 1, A2, _, c2, by omega, by go_num, rfl, own64_eq ho2.out hl.out.symm, hbe.out.trans hb2.out⟩
        case measure => simp [intOf]; omega
      · obtain rfl : k = xs.length := by omega
        go_wp2_with fail
        refine (l01N A xs.length c _).mono ?_
        rintro e wn ⟨rfl, hb⟩
        have hbn := Lib.hid (btr hbr.out hb)
        have hon := Lib.hid (own_be ho.out hb)
        clear hb ho hbr hcr h1
        go_wp2
        go_ret2
        have hn := own64_len hon.out
        subst hn
        exact ⟨A', c', rfl, own_mono hon.out z1, btr hB hbn.out⟩


set_option maxHeartbeats 2000000 in
theorem impl_SizesOf : GivesList 19 F_SizesOf := by
  intro A xs c w hx hcc h
  have hc := codeOf0 A xs c (w.alloc (.cells #[.slice A xs.length c] 26)) (by omega) (h.al _) _ rfl
  cases ht : M.isTree xs
  · rw [ht] at hc
    have HC := Lib.hid hc
    have hF : F_SizesOf xs = ([], 1) := M.cond_no ht
    rw [hF]
    clear hc ht hF
    go_enter Try.func19, Try.ntmps19
    go_wp2_with fail
    refine HC.out.mono ?_
    rintro e w1 ⟨rfl, hb⟩
    have hB := btr (bal (b0 w) _) hb
    go_wp2
    go_ret2
    exact ⟨none, 0, rfl, own64_nil _ _, hB⟩
  · have Ht := Lib.hid ht
    rw [ht] at hc
    have HC := Lib.hid hc
    have hF : F_SizesOf xs = (M.sizes xs xs.length, 0) := M.cond_yes ht
    have hlen := M.tree_len ht
    rw [hF]
    clear hc ht hF
    have hmk := run_make_row' (P := Try.prog) 24 2 (.int .i64 0) 8 Try.underlying24 info64 rfl .i64 .i64 xs.length (by omega) (by omega)
    go_enter Try.func19, Try.ntmps19
    go_wp2_with fail
    refine HC.out.mono ?_
    rintro e w1 ⟨rfl, hb⟩
    have hB := btr (bal (b0 w) _) hb
    have hcell : w1.cell? ⟨w.heap.size, 0, none⟩ = some (.slice A xs.length c) := cell_be (by simp) hb
    have h1 := (h.al _).be hb
    have z1 := hB.size
    have HcellA := Lib.hid hcell
    have hstart := own64_made (w := w1) (B := w1.heap.size) (n := xs.length) (Nat.le_refl _) (by unfold maxLen; omega)
    have Hstart := Lib.hid hstart
    clear hb h HC hstart
    go_wp2
    clear hcell hmk
    go_loopw [6, 18] (fun _ i wr => ∃ (k : Nat) (ys : List Int), k ≤ xs.length ∧ i = .int .i64 k ∧ Hid (ys.length = xs.length) ∧ Hid (ys.take k = (M.sizes xs xs.length).take k) ∧
        Hid (Own64 wr w1.heap.size (.slice (some ⟨w1.heap.size, 0, none⟩) xs.length xs.length) ys) ∧ Hid (Below w1.heap.size w1 wr)) (fun _ i _ => xs.length - (intOf i).toNat)
    case atStart => exact ⟨0, List.replicate xs.length 0, Nat.zero_le _, rfl, by simp [Hid], rfl, Hstart.out, bal (b0 w1) _⟩
    case round =>
      obtain ⟨k, ys, hk, rfl, hly, he, ho, hbr⟩ := hrel
      clear Hstart
      by_cases hlt : k < xs.length
      · have hcr := cell_be HcellA.out hbr.out
        have hkk := Lib.hid (M.tree_ok Ht.out hlt)
        have hly' : ys.length = xs.length := hly
        obtain ⟨c1, c2, c3, c4⟩ := own64_cell ho.out hly' (k := k) (x := ys[k]) (List.getElem?_eq_getElem (by omega))
        obtain ⟨S, hS⟩ : ∃ S, Hid (M.span 1 (xs.drop k) = S) := ⟨_, rfl⟩
        have hat := M.sizes_at xs hlt
        rw [hS.out] at hat
        have hs := take_set_succ (by show ys.length = _; rw [M.sizes_len]; exact hly') hat he
        have ho2 : Hid (Own64 _ _ _ _) := own64_set ho.out hly' k S
        generalize ys[k] = y at c1
        have h2 := Lib.hid (h1.be hbr.out)
        clear hly' hat h1 he ho
        go_wp2_with (go_at_call 167; refine (sizeAt A xs c k S _ hS hlen.2 hcc.1 hcc.2 hkk h2.out).mono ?_; rintro e w' ⟨rfl, rfl⟩)
        go_roundw
        case rel => exact ⟨k + 1, ys.set k S, by omega, by go_num, by simp [Hid]; exact hly.out, hs, ho2, below_setCell hbr.out (Nat.le_refl _) _⟩
        case measure => simp [intOf]; omega
      · obtain rfl : k = xs.length := by omega
        have hys : ys = M.sizes xs xs.length := by
          have h1 := he.out
          rw [← hly.out, List.take_length, hly.out, List.take_of_length_le (Nat.le_of_eq (M.sizes_len xs xs.length))] at h1
          exact h1
        have Hs := Lib.hid hys
        have hn := Lib.hid (M.sizes_len xs xs.length)
        clear hys h1
        go_wp2
        go_ret2
        rw [hn.out]
        exact ⟨_, _, rfl, own_mono (own64_eq ho.out Hs.out) z1, btr hB hbr.out⟩
end Go.Proofs.Ytdgcjkgbglofbaa

/- The source of the model's draws in memory: a box with the code's bytes, a place and a hash; the next number that it hands out. -/
namespace Go.Proofs.Ytdgcjkgbglofbaa
open Go.RowKit

/-- The slice value '.slice A zs.length c' reads as the bytes zs, below block B. -/
def Byts (w : World) (B : Nat) (A : Option Addr) (zs : List Int) : Prop :=
  0 < zs.length → ∃ b off, A = some ⟨b, off, none⟩ ∧ b < B ∧ ∀ j x, zs[j]? = some x → w.cell? ⟨b, off + j, none⟩ = some (.int .u8 x)
theorem Byts.keep {w w' : World} {B : Nat} {A : Option Addr} {zs : List Int} (h : Byts w B A zs) (hk : ∀ p : Addr, p.block < B → w'.cell? p = w.cell? p) : Byts w' B A zs := fun hn => by
  obtain ⟨b, off, e, hb, hc⟩ := h hn
  exact ⟨b, off, e, hb, fun j x hx => (hk ⟨b, off + j, none⟩ hb).trans (hc j x hx)⟩
theorem Byts.more {w : World} {B B' : Nat} {A : Option Addr} {zs : List Int} (h : Byts w B A zs) (hB : B ≤ B') : Byts w B' A zs := fun hn => by
  obtain ⟨b, off, e, hb, hc⟩ := h hn
  exact ⟨b, off, e, by omega, hc⟩
theorem Byts.below {w w' : World} {B B' : Nat} {A : Option Addr} {zs : List Int} (h : Byts w B A zs) (hb : Below B' w w') (hB : B ≤ B') : Byts w' B A zs :=
  h.keep fun p hp => hb.cell (p := p) (by omega)
theorem Byts.be {w w' : World} {A : Option Addr} {zs : List Int} (h : Byts w w.heap.size A zs) (hb : Below w.heap.size w w') : Byts w' w'.heap.size A zs :=
  (h.below hb (Nat.le_refl _)).more hb.size
/-- a box with the bytes zs, the place k and the hash h -/
def SrcBox (w : World) (g : Nat) (A : Option Addr) (zs : List Int) (c k : Nat) (h : Int) : Prop :=
  w.heap[g]? = some (.cells #[.slice A zs.length c, .int .i64 (k : Int), .int .u64 h] 221 (0, 0))
/-- a source of draws in block g, over bytes below block B -/
def Src (w : World) (B g : Nat) : Prop :=
  B ≤ g ∧ ∃ (A : Option Addr) (zs : List Int) (c k : Nat) (h : Int), SrcBox w g A zs c k h ∧ k ≤ zs.length ∧ zs.length ≤ c ∧ c ≤ 9223372036854775807 ∧ (∀ x ∈ zs, 0 ≤ x ∧ x ≤ 255) ∧ Byts w B A zs ∧ (0 ≤ h ∧ h ≤ 18446744073709551615)
theorem SrcBox.cells {w : World} {g : Nat} {A : Option Addr} {zs : List Int} {c k : Nat} {h : Int} (hb : SrcBox w g A zs c k h) :
    (w.cell? ⟨g, 0, none⟩ = some (.slice A zs.length c) ∧ w.cell? ⟨g, 1, none⟩ = some (.int .i64 (k : Int)) ∧ w.cell? ⟨g, 2, none⟩ = some (.int .u64 h)) ∧ w.frozen? ⟨g, 1, none⟩ = false ∧ w.frozen? ⟨g, 2, none⟩ = false ∧ g < w.heap.size := by
  have hb' : w.heap[g]? = _ := hb
  refine ⟨⟨?_, ?_, ?_⟩, ?_, ?_, (Array.getElem?_eq_some_iff.1 hb').1⟩ <;> simp [World.cell?, World.frozen?, hb']
theorem src_set {w : World} {X i T : Nat} {cs : Array Value} {p : Nat × Nat} (h : w.heap[X]? = some (.cells cs T p)) (u : Value) : (w.setCell ⟨X, i, none⟩ u).heap[X]? = some (.cells (cs.setIfInBounds i u) T p) := by
  simp [World.setCell, Array.getElem?_modify, h]
theorem src_grown (w : World) (X i : Nat) (u : Value) : w.grownBy (w.setCell ⟨X, i, none⟩ u) (some X) :=
  ⟨rfl, rfl, rfl, by simp, fun k _ hne => heap_setCell_other _ _ _ _ (fun e => hne (by rw [e]))⟩
theorem src_tr {a b c : World} {r : Option Nat} (h : a.grownBy b r) (k : b.grownBy c r) : a.grownBy c r :=
  ⟨k.os.trans h.os, k.tape.trans h.tape, k.output.trans h.output, Nat.le_trans h.size k.size, fun j hj hne => (k.block j (Nat.lt_of_lt_of_le hj h.size) hne).trans (h.block j hj hne)⟩
theorem src_drewN {a b : World} {r : Option Nat} (h : a.grownBy b r) (n : Nat) : a.grownBy (b.drewN n) r := ⟨h.os, h.tape, h.output, h.size, h.block⟩
theorem SrcBox.hash {w : World} {g : Nat} {A : Option Addr} {zs : List Int} {c k : Nat} {h : Int} (hb : SrcBox w g A zs c k h) (h' : Int) : SrcBox (w.setCell ⟨g, 2, none⟩ (.int .u64 h')) g A zs c k h' := src_set hb _
theorem SrcBox.step {w : World} {g : Nat} {A : Option Addr} {zs : List Int} {c k : Nat} {h : Int} (hb : SrcBox w g A zs c k h) (k' : Nat) : SrcBox (w.setCell ⟨g, 1, none⟩ (.int .i64 (k' : Int))) g A zs c k' h := src_set hb _
theorem grown_far {w w' : World} {g B : Nat} {A : Option Addr} {zs : List Int} (h : Byts w B A zs) (hg : w.grownBy w' (some g)) (hB : B ≤ g) : Byts w' B A zs := fun hn => by
  obtain ⟨b, off, e, hb, hc⟩ := h hn
  exact ⟨b, off, e, hb, fun j x hx => hg.cell (hc j x hx) (by show some b ≠ some g; intro e; injection e; omega)⟩
theorem Src.lt {w : World} {B g : Nat} (h : Src w B g) : g < w.heap.size := by
  obtain ⟨_, _, _, _, _, _, h, _⟩ := h
  exact h.cells.2.2.2
theorem Src.be {w w' : World} {B g : Nat} (h : Src w B g) (hb : Below w.heap.size w w') : Src w' B g := by
  have hl := h.lt
  obtain ⟨h0, A, zs, c, k, h1, h2, h3, h4, h5, h6, h7, h8⟩ := h
  exact ⟨h0, A, zs, c, k, h1, (hb.block g hl).trans h2, h3, h4, h5, h6, h7.below hb (by omega), h8⟩
/-- what else is made does not matter -/
theorem Src.kept {w w' : World} {B g : Nat} {row : Option Nat} (h : Src w B g) (hg : w.grownBy w' row) (hr : ∀ k, row = some k → B ≤ k ∧ k ≠ g) : Src w' B g := by
  have hl := h.lt
  obtain ⟨h0, A, zs, c, k, h1, h2, h3, h4, h5, h6, h7, h8⟩ := h
  refine ⟨h0, A, zs, c, k, h1, (hg.block g hl (fun e => (hr g e.symm).2 rfl)).trans h2, h3, h4, h5, h6, fun hn => ?_, h8⟩
  obtain ⟨b, off, e, hb, hc⟩ := h7 hn
  exact ⟨b, off, e, hb, fun j x hx => hg.cell (hc j x hx) (fun e => by have := (hr b e.symm).1; omega)⟩
end Go.Proofs.Ytdgcjkgbglofbaa

/- The next number that the model's source of draws hands out: from 0 to n - 1. -/
namespace Go.Proofs.Ytdgcjkgbglofbaa
open Go.RowKit

theorem wraps_u63 (n : Int) (h₀ : 0 ≤ n) (h₁ : n < 2 ^ 63) : IntKind.u64.wrap n = n := by rw [IntKind.wrap_u64]; omega
theorem draw_bits (H : Int) (h0 : 0 ≤ H) (h1 : H ≤ 18446744073709551615) : ∃ x : Int, wrap64 (bits BinOp.and IntKind.u64 (H / 8589934592) 16777215) = x ∧ 0 ≤ x ∧ x ≤ 16777215 := by
  have h := bits_mask .u64 63 (by decide) wraps_u63 24 (by decide) (H / 8589934592) (by omega) (by omega)
  have e : ((2 : Int) ^ 24 - 1) = 16777215 := by decide
  have e2 : ((2 : Int) ^ 24) = 16777216 := by decide
  rw [e, e2] at h
  rw [h, IntWalk.wrap64_in _ (by omega)]
  exact ⟨_, rfl, by omega, by omega⟩
theorem u64_range (n : Int) : 0 ≤ IntKind.u64.wrap n ∧ IntKind.u64.wrap n ≤ 18446744073709551615 := by rw [IntKind.wrap_u64]; omega

set_option maxRecDepth 100000 in
set_option maxHeartbeats 4000000 in
theorem l01Next (n : Int) (w : World) (B g : Nat) (hn : n ≤ 9223372036854775807) (hS : Hid (Src w B g)) :
    Calls Try.prog 186 #[.pointer (some ⟨g, 0, none⟩), .int .i64 n] w fun e w' => ∃ r : Int, e = .returned (.int .i64 r) ∧ (0 ≤ r ∧ (r < n ∨ r = 0)) ∧ Hid (Src w' B g) ∧ Hid (w.grownBy w' (some g)) := by
  obtain ⟨h0, A, zs, c, k, h, hbx, hk, hzc, hc, hz, hby, hh⟩ := hS.out
  obtain ⟨⟨c0, c1, c2⟩, f1, f2, hl⟩ := hbx.cells
  by_cases hn1 : n < 1
  · go_enter Try.func186, Try.ntmps186
    go_wp2
    go_ret
    exact ⟨0, rfl, ⟨by omega, .inr rfl⟩, hS, Lib.hid (World.grownBy.refl w _)⟩
  · have Hbx := Lib.hid hbx
    have Hby := Lib.hid hby
    have Hz := Lib.hid hz
    clear hbx hby hz
    go_enter Try.func186, Try.ntmps186
    go_wp2
    obtain ⟨H, hH⟩ : ∃ H, IntKind.u64.wrap (IntKind.u64.wrap (h * 6364136223846793005) + 1442695040888963407) = H := ⟨_, rfl⟩
    have hHr := u64_range (IntKind.u64.wrap (h * 6364136223846793005) + 1442695040888963407)
    rw [hH] at hHr ⊢
    obtain ⟨x, hx, hx0, hx1⟩ := draw_bits H hHr.1 hHr.2
    rw [hx]
    have Hb1 := Lib.hid (Hbx.out.hash H)
    have hg1 : Hid (w.grownBy (w.setCell ⟨g, 2, none⟩ (.int .u64 H)) (some g)) := src_grown w g 2 _
    have Hy1 : Hid (Byts (w.setCell ⟨g, 2, none⟩ (.int .u64 H)) B A zs) := grown_far Hby.out hg1.out h0
    clear hH hx c0 c1 c2 f1 f2 Hbx Hby
    generalize w.setCell ⟨g, 2, none⟩ (.int .u64 H) = W at Hb1 hg1 Hy1 ⊢
    obtain ⟨⟨c0, c1, c2⟩, f1, f2, hl1⟩ := Hb1.out.cells
    have hk0 : (0 : Int) ≤ (k : Int) := by omega
    by_cases hkz : k < zs.length
    · have hkz' : (k : Int) < (zs.length : Int) := by omega
      obtain ⟨b, off, rfl, hbB, hcell⟩ := Hy1.out (by omega)
      have hy := List.getElem?_eq_getElem hkz
      have hyr := Hz.out _ (List.mem_of_getElem? hy)
      generalize zs[k] = y at hy hyr
      have hcy := hcell k y hy
      have hw1 : IntKind.i64.wrap (x + y) = x + y := IntWalk.i64_in _ (by omega)
      have hw2 : IntKind.i64.wrap ((k : Int) + 1) = ((k + 1 : Nat) : Int) := by rw [IntWalk.i64_in _ (by omega)]; omega
      clear hcell hy
      go_quiet (fail)
      go_wp2
      go_quiet (fail)
      go_wp2
      go_ret
      refine ⟨_, rfl, ⟨Int.emod_nonneg _ (by omega), .inl (Int.emod_lt_of_pos _ (by omega))⟩, Lib.hid ⟨h0, _, zs, c, k + 1, H, SrcBox.step (show SrcBox _ g _ zs c k H from Hb1.out) (k + 1), by omega, hzc, hc, Hz.out, ?_, hHr⟩, ?_⟩
      · exact grown_far Hy1.out (src_tr (src_drewN (World.grownBy.refl W (some g)) _) (src_grown _ g 1 _)) h0
      · exact src_tr (src_drewN hg1.out _) (src_grown _ g 1 _)
    · have hkz' : ¬ (k : Int) < (zs.length : Int) := by omega
      go_quiet (fail)
      go_wp2
      go_ret
      exact ⟨_, rfl, ⟨Int.emod_nonneg _ (by omega), .inl (Int.emod_lt_of_pos _ (by omega))⟩, Lib.hid ⟨h0, A, zs, c, k, H, Hb1.out, hk, hzc, hc, Hz.out, Hy1.out, hHr⟩, Lib.hid (src_drewN hg1.out _)⟩
end Go.Proofs.Ytdgcjkgbglofbaa

/- One of some numbers that are told; a number near a range: the model's draws. -/
namespace Go.Proofs.Ytdgcjkgbglofbaa
open Go.RowKit

/-- a list whose cells do not lie in block g -/
def Off (w : World) (g : Nat) (A : Option Addr) (xs : List Int) : Prop :=
  ∃ b off, A = some ⟨b, off, none⟩ ∧ b ≠ g ∧ ∀ j x, xs[j]? = some x → w.cell? ⟨b, off + j, none⟩ = some (.int .i64 x)

set_option maxRecDepth 100000 in
set_option maxHeartbeats 4000000 in
theorem l01Pick (A : Option Addr) (xs : List Int) (n c : Nat) (w : World) (B g : Nat) (hn : Hid (xs.length = n)) (h1 : 1 ≤ n) (h2 : n ≤ 1000) (hI : Hid (Off w g A xs)) (hS : Hid (Src w B g)) :
    Calls Try.prog 209 #[.pointer (some ⟨g, 0, none⟩), .slice A n c] w fun e w' => ∃ r : Int, e = .returned (.int .i64 r) ∧ Hid (r ∈ xs) ∧ Hid (Src w' B g) ∧ Hid (w.grownBy w' (some g)) := by
  go_enter Try.func209, Try.ntmps209
  go_wp2_with fail
  refine (l01Next (n : Int) w B g (by omega) hS).mono ?_
  rintro e w1 ⟨r, rfl, ⟨hr0, hr1⟩, hS1, hg1⟩
  obtain ⟨k, rfl⟩ := Int.eq_ofNat_of_zero_le hr0
  have hk : k < n := by omega
  obtain ⟨b, off, rfl, hb, hcell⟩ := hI.out
  have hx := List.getElem?_eq_getElem (l := xs) (show k < xs.length by rw [hn.out]; exact hk)
  have hm := Lib.hid (List.mem_of_getElem? hx)
  have hcl := hg1.out.cell (hcell k _ hx) (by simp; exact hb)
  generalize xs[k]'_ = x at hm hcl
  clear hcell hx
  go_wp2
  go_ret
  exact ⟨x, rfl, hm, hS1, hg1⟩

theorem off_new (w : World) (g : Nat) (hg : g < w.heap.size) (xs : List Int) : Off (w.alloc (.cells (xs.map (Value.int .i64)).toArray 2)) g (some ⟨w.heap.size, 0, none⟩) xs :=
  ⟨w.heap.size, 0, rfl, by omega, fun j x hx => by
    rw [Nat.zero_add, World.cell?_alloc_new]
    simp [hx]⟩
end Go.Proofs.Ytdgcjkgbglofbaa

/- Drawn trees: a node of a tree gets one child more, a leaf at the end. Mathematics. -/
namespace Go.Proofs.Ytdgcjkgbglofbaa
namespace M
theorem isGo_snoc0 : ∀ (l : List Int) (o : Int), 0 ≤ o → isGo o l = true → isGo (o + 1) (l ++ [0]) = true := by
  intro l
  induction l with
  | nil =>
    intro o _ h
    simp [isGo] at h
    subst h
    rfl
  | cons d r ih =>
    intro o ho h
    have hp := isGo_pos _ _ h ho (by simp)
    simp only [isGo] at h
    split at h
    · cases h
    · rename_i hc
      simp at hc
      rw [List.cons_append, isGo, if_neg (by simp [hc.2.1, hc.2.2]; omega), show o + 1 - 1 + d = (o - 1 + d) + 1 by omega]
      exact ih _ (by omega) h
theorem isGo_inc : ∀ (l : List Int) (o : Int) (v : Nat) (x : Int), 0 ≤ o → isGo o l = true → l[v]? = some x → x + 1 ≤ 24 → isGo o (l.set v (x + 1) ++ [0]) = true := by
  intro l
  induction l with
  | nil => intro o v x _ _ hx; simp at hx
  | cons d r ih =>
    intro o v x ho h hx h24
    have hp := isGo_pos _ _ h ho (by simp)
    simp only [isGo] at h
    split at h
    · cases h
    · rename_i hc
      simp at hc
      cases v with
      | zero =>
        simp at hx
        subst hx
        rw [List.set_cons_zero, List.cons_append, isGo, if_neg (by simp; omega), show o - 1 + (d + 1) = (o - 1 + d) + 1 by omega]
        exact isGo_snoc0 _ _ (by omega) h
      | succ v =>
        simp at hx
        rw [List.set_cons_succ, List.cons_append, isGo, if_neg (by simp [hc.2.1, hc.2.2]; omega)]
        exact ih _ v x (by omega) h hx h24
theorem tree_degl {xs : List Int} (h : isTree xs = true) {v : Nat} {x : Int} (hx : xs[v]? = some x) : 0 ≤ x ∧ x + 1 ≤ xs.length := by
  have hv := (List.getElem?_eq_some_iff.1 hx).1
  obtain ⟨s, _, h1, h2⟩ := isGo_drop (tree_go h) v (by omega)
  have hs := h2 hv
  rw [drop_at hx, isGo] at h1
  split at h1
  · cases h1
  · rename_i hc
    simp at hc
    refine ⟨hc.2.1, ?_⟩
    rcases Int.lt_or_le ((xs.drop (v + 1)).length : Int) (s - 1 + x) with hb | hb
    · rw [isGo_big _ _ hb] at h1; cases h1
    · rw [List.length_drop] at hb; omega
theorem tree_inc {xs : List Int} (h : isTree xs = true) (hl : xs.length < 24) {v : Nat} {x : Int} (hx : xs[v]? = some x) : isTree (xs.set v (x + 1) ++ [0]) = true := by
  have := tree_degl h hx
  have hn := tree_len h
  simp only [isTree, Bool.and_eq_true, decide_eq_true_eq, List.length_append, List.length_set, List.length_singleton]
  exact ⟨⟨by omega, by omega⟩, isGo_inc _ _ _ _ (by omega) (tree_go h) hx (by omega)⟩
theorem tree_one : isTree [0] = true := rfl
end M
end Go.Proofs.Ytdgcjkgbglofbaa

/- A drawn tree of n nodes: the model's draw. -/
namespace Go.Proofs.Ytdgcjkgbglofbaa
open Go.RowKit

theorem own64_lit1 {w : World} {B : Nat} (x : Int) (hB : B ≤ w.heap.size) : Own64 (w.alloc (.cells #[.int .i64 x] 2)) B (.slice (some ⟨w.heap.size, 0, none⟩) 1 1) [x] := by
  have h := World.ownsRow_lit (e := 2) (size := 1) w #[.int .i64 x] 1 hB (by simp [maxLen]) (by simp)
  simpa [Own64] using h
/-- rows above a base that lies above g: other blocks than g are kept -/
theorem own_src {w w' : World} {base e size n g : Nat} {v : Value} {xs : List Value} (h : w.ownsRow base e size v n xs) (hg : w.grownBy w' (some g)) (hb : g < base) : w'.ownsRow base e size v n xs :=
  own_grown h hg (fun k e => by injection e with e; exact .inl (by omega))
theorem two_src {w w' : World} {base g : Nat} {v1 v2 : Value} {xs ys : List Int} (h : Two w base v1 v2 xs ys) (hg : w.grownBy w' (some g)) (hb : g < base) : Two w' base v1 v2 xs ys :=
  ⟨own_src h.1 hg hb, own_src h.2.1 hg hb, h.2.2⟩
theorem ints_take9 {w : World} {B : Nat} {A : Option Addr} {xs : List Int} (k : Nat) (h : Ints w B A xs) : Ints w B A (xs.take k) := fun hn => by
  rw [List.length_take] at hn
  obtain ⟨b, off, e, hb, hc⟩ := h (by omega)
  refine ⟨b, off, e, hb, fun j x hx => hc j x ?_⟩
  have := (List.getElem?_eq_some_iff.1 hx).1
  rw [List.length_take] at this
  rwa [List.getElem?_take_of_lt (by omega)] at hx
theorem two_beS {w w' : World} {B : Nat} {v1 v2 : Value} {xs ys : List Int} (h : Two w B v1 v2 xs ys) (hb : Below w.heap.size w w') : Two w' B v1 v2 xs ys :=
  ⟨own_below h.1 hb (Nat.le_refl _), own_below h.2.1 hb (Nat.le_refl _), h.2.2⟩
/-- what is only made above the start's blocks -/
theorem src_trans {a b c : World} {D g : Nat} (h : a.grownBy b (some g)) (k : Below D b c) (hD : a.heap.size ≤ D) : a.grownBy c (some g) :=
  ⟨k.os.trans h.os, k.tape.trans h.tape, k.output.trans h.output, Nat.le_trans h.size k.size, fun j hj hne => (k.block j (by omega)).trans (h.block j hj hne)⟩
theorem src_keep {b c : World} {B D g : Nat} (h : Src b B g) (k : Below D b c) (hg : g < D) : Src c B g := by
  obtain ⟨h0, A, zs, cc, kk, h1, h2, h3, h4, h5, h6, h7, h8⟩ := h
  exact ⟨h0, A, zs, cc, kk, h1, (k.block g hg).trans h2, h3, h4, h5, h6, h7.below k (by omega), h8⟩
theorem src_of {a b : World} {r : Option Nat} (h : Below a.heap.size a b) : a.grownBy b r := ⟨h.os, h.tape, h.output, h.size, fun j hj _ => h.block j hj⟩

set_option maxRecDepth 100000 in
set_option maxHeartbeats 8000000 in
theorem l01DrawOf (n : Nat) (w : World) (B g : Nat) (hn1 : 1 ≤ n) (hn : n ≤ 24) (hS : Hid (Src w B g)) :
    Calls Try.prog 205 #[.pointer (some ⟨g, 0, none⟩), .int .i64 (n : Int)] w fun e w' => ∃ A' c' ds, e = .returned (.agg #[.slice A' n c']) ∧ Hid (ds.length = n) ∧ Hid (M.isTree ds = true) ∧ Hid (Own64 w' w.heap.size (.slice A' n c') ds) ∧ Hid (Src w' B g) ∧ Hid (w.grownBy w' (some g)) := by
  have hgl := hS.out.lt
  -- the worlds of the start
  obtain ⟨W3, hW3⟩ : ∃ W3, W3 = ((w.alloc (.cells #[.slice none 0 0] 26)).alloc (.cells #[.int .i64 0] 2)).alloc (.cells #[.int .i64 0] 2) := ⟨_, rfl⟩
  have hz3 : W3.heap.size = w.heap.size + 1 + 1 + 1 := by rw [hW3]; simp
  have hb3 : Below w.heap.size w W3 := by rw [hW3]; exact bal (bal (bal (b0 w) _) _) _
  have hS3 := Lib.hid ((hS.out.be hb3).be (bal (b0 W3) (.cells #[.int .i64 1, .int .i64 2, .int .i64 4, .int .i64 30] 2)))
  have hO := Lib.hid (off_new W3 g (by omega) [1, 2, 4, 30])
  simp only [List.map_cons, List.map_nil] at hO
  have hT : Two W3 (w.heap.size + 1) (.slice (some ⟨w.heap.size + 1, 0, none⟩) 1 1) (.slice (some ⟨w.heap.size + 1 + 1, 0, none⟩) 1 1) [0] [0] := by
    rw [hW3]
    have e1 : (w.alloc (.cells #[.slice none 0 0] 26)).heap.size = w.heap.size + 1 := by simp
    have e2 : ((w.alloc (.cells #[.slice none 0 0] 26)).alloc (.cells #[.int .i64 0] 2)).heap.size = w.heap.size + 1 + 1 := by simp
    have h1 := own64_lit1 (w := w.alloc (.cells #[.slice none 0 0] 26)) (B := w.heap.size + 1) 0 (by omega)
    have h2 := own64_lit1 (w := (w.alloc (.cells #[.slice none 0 0] 26)).alloc (.cells #[.int .i64 0] 2)) (B := w.heap.size + 1) 0 (by omega)
    rw [e1] at h1
    rw [e2] at h2
    exact ⟨h1.alloc _, h2, fun b hb => by simp [Value.ownBlock] at hb ⊢; omega⟩
  have hres0 : W3.heap[w.heap.size]? = some (.cells #[.slice none 0 0] 26 (0, 0)) := by
    rw [hW3]
    exact (Below.heap_alloc _ _ _ (by simp; omega)).trans ((Below.heap_alloc _ _ _ (by simp)).trans (heap_alloc_new w _))
  go_enter Try.func205, Try.ntmps205
  go_wp2_with fail
  rw [← hW3]
  rw [hz3] at hO
  refine (l01Pick (some ⟨w.heap.size + 1 + 1 + 1, 0, none⟩) [1, 2, 4, 30] 4 4 _ B g rfl (by omega) (by omega) hO hS3).mono ?_
  rintro e w1 ⟨dp, rfl, hdp, hS1, hg1⟩
  have hdpr : 1 ≤ dp ∧ dp ≤ 30 := by
    have := hdp.out
    simp only [List.mem_cons, List.not_mem_nil, or_false] at this
    omega
  have hb4 : Hid (Below w.heap.size w (W3.alloc (.cells #[.int .i64 1, .int .i64 2, .int .i64 4, .int .i64 30] 2))) := bal hb3 _
  have hT1 := Lib.hid (two_src (two_beS hT (bal (b0 W3) (.cells #[.int .i64 1, .int .i64 2, .int .i64 4, .int .i64 30] 2))) hg1.out (show g < w.heap.size + 1 by omega))
  have hg01 : Hid (w.grownBy w1 (some g)) := src_tr (src_of hb4.out) hg1.out
  have hres1 : Hid (w1.heap[w.heap.size]? = some (.cells #[.slice none 0 0] 26 (0, 0))) :=
    (hg1.out.block w.heap.size (by simp; omega) (fun e => by injection e; omega)).trans ((Below.heap_alloc _ _ _ (Array.getElem?_eq_some_iff.1 hres0).1).trans hres0)
  clear hT hres0 hb3 hS3 hO hg1 hb4 hdp
  go_wp2
  go_loopw [5, 6, 8] (fun q1 q2 vi wr => ∃ (v n2 c1 c2 : Nat) (A1 A2 : Option Addr) (ds ws : List Int), 1 ≤ v ∧ v ≤ n ∧ vi = .int .i64 (v : Int) ∧ q1 = .slice A1 v c1 ∧ q2 = .slice A2 n2 c2 ∧ (1 ≤ n2 ∧ n2 ≤ v) ∧
      Hid (Two wr (w.heap.size + 1) (.slice A1 v c1) (.slice A2 n2 c2) ds ws) ∧ Hid (ds.length = v ∧ M.isTree ds = true) ∧ Hid (∀ x ∈ ws, 0 ≤ x ∧ x < (v : Int)) ∧ Hid (Src wr B g) ∧ Hid (w.grownBy wr (some g)) ∧
      Hid (wr.heap[w.heap.size]? = some (.cells #[.slice none 0 0] 26 (0, 0)))) (fun _ _ vi _ => n - (intOf vi).toNat)
  case atStart => exact ⟨1, 1, 1, 1, _, _, [0], [0], by omega, hn1, rfl, rfl, rfl, by omega, hT1, ⟨rfl, rfl⟩, fun x hx => by simp at hx; omega, hS1, hg01, hres1⟩
  case round =>
    clear hT1 hS1 hg01 hres1
    obtain ⟨v, n2, c1, c2, A1, A2, ds, ws, hv1, hvn, rfl, rfl, rfl, hn2, hT1, hds, hws, hSr, hgr, hres⟩ := hrel
    by_cases hlt : v < n
    · have hlt' : (v : Int) < (n : Int) := by omega
      have hwn : IntKind.i64.wrap ((n2 : Int) - 1) = ((n2 - 1 : Nat) : Int) := by rw [IntWalk.i64_in _ (by omega)]; omega
      rename World => V
      go_wp2
      go_loopw [9] (fun ai wr => ∃ a : Nat, a < n2 ∧ ai = .int .i64 (a : Int) ∧ Hid (Src wr B g) ∧ Hid (V.grownBy wr (some g))) (fun ai _ => (intOf ai).toNat)
      case atStart => exact ⟨n2 - 1, by omega, rfl, hSr, World.grownBy.refl _ _⟩
      case round =>
        clear hSr
        obtain ⟨a, ha, rfl, hS2, hV⟩ := hrel
        rename World => V2
        by_cases ha0 : 0 < a
        · have ha0' : (0 : Int) < (a : Int) := by omega
          have hwa1 : IntKind.i64.wrap ((a : Int) - 1) = ((a - 1 : Nat) : Int) := by rw [IntWalk.i64_in _ (by omega)]; omega
          go_wp2_with fail
          refine (l01Next dp V2 B g (by omega) hS2).mono ?_
          rintro e V3 ⟨r, rfl, ⟨hr0, hr1⟩, hS3, hV3⟩
          replace hV := Lib.hid (src_tr hV.out hV3.out)
          replace hS2 := hS3
          clear hS3 hV3
          by_cases hr : r = 0
          · subst hr
            go_wp2
            go_roundw
            case rel => exact ⟨a - 1, by omega, rfl, hS2, hV⟩
            case measure => simp [intOf]; omega
          · have hrb : (r == 0) = false := by simp [hr]
            rename World => V2
            have hV2 := hV.out
            have hT2 := Lib.hid (two_src hT1.out hV2 (show g < w.heap.size + 1 by omega))
            have hg2 : Hid (w.grownBy V2 (some g)) := src_tr hgr.out hV2
            have hres2 : Hid (V2.heap[w.heap.size]? = some (.cells #[.slice none 0 0] 26 (0, 0))) := (hV2.block w.heap.size (by have := hgr.out.size; have := (Array.getElem?_eq_some_iff.1 hres.out).1; omega) (fun e => by injection e; omega)).trans hres.out
            have hx := List.getElem?_eq_getElem (l := ws) (show a < ws.length by rw [← own64_len hT2.out.2.1]; exact ha)
            have hxr := hws.out _ (List.mem_of_getElem? hx)
            generalize ws[a]'_ = x at hx hxr
            obtain ⟨p, rfl⟩ := Int.eq_ofNat_of_zero_le hxr.1
            have hpv : p < v := by omega
            have hdl := hds.out.1
            have hd := List.getElem?_eq_getElem (l := ds) (show p < ds.length by omega)
            generalize ds[p]'_ = d0 at hd
            have hdg := M.tree_degl hds.out.2 hd
            have hinc := Lib.hid (M.tree_inc hds.out.2 (by omega) hd)
            obtain ⟨g1, rfl⟩ := hT2.out.shape.2 (by omega)
            obtain ⟨g2, rfl⟩ := hT2.out.symm.shape.2 (by omega)
            have hwl : ws.length = n2 := (own64_len hT2.out.2.1).symm
            have c2' := (own64_cell hT2.out.2.1 hwl hx).1
            obtain ⟨c1', f1', hg1lo, hg1hi⟩ := own64_cell hT2.out.1 hdl hd
            have hcap2 := hT2.out.symm.cap
            have hcap2' : (a : Int) + 1 ≤ (c2 : Int) := by omega
            have hset := Lib.hid (hT2.out.set hdl p (d0 + 1))
            have hapart : g1 ≠ g2 := fun e => hT2.out.2.2 g1 rfl (by rw [e]; rfl)
            have hbs : Hid (Below (w.heap.size + 1) V2 (V2.setCell ⟨g1, p, none⟩ (.int .i64 (d0 + 1)))) := below_setCell (Below.refl _ _) hg1lo _
            have hwd : IntKind.i64.wrap (d0 + 1) = d0 + 1 := IntWalk.i64_in _ (by omega)
            have hwa : IntKind.i64.wrap ((a : Int) + 1) = ((a + 1 : Nat) : Int) := by rw [IntWalk.i64_in _ (by omega)]; omega
            have hwv : IntKind.i64.wrap ((v : Int) + 1) = ((v + 1 : Nat) : Int) := by rw [IntWalk.i64_in _ (by omega)]; omega
            have hV2s : Hid (w.heap.size + 1 ≤ (V2.setCell ⟨g1, p, none⟩ (.int .i64 (d0 + 1))).heap.size) := by show _ ≤ _; have := hset.out.1.lt g1 rfl; omega
            have hIt := Lib.hid (ints_take9 (a + 1) (ints_of_own64 hset.out.2.1))
            have hOwn := fun (W : World) (hW : W = V2.setCell ⟨g1, p, none⟩ (.int .i64 (d0 + 1))) => l01Own (some ⟨g2, 0, none⟩) (ws.take (a + 1)) (a + 1) c2 W (Lib.hid (by rw [List.length_take]; omega)) (by omega) (Lib.hid (fun e => by cases e)) (Lib.hid (hW ▸ hIt.out))
            have HOwn := Lib.hid hOwn
            have Hws := Lib.hid (show ∀ x ∈ ws.take (a + 1) ++ [(v : Int)], 0 ≤ x ∧ x < ((v + 1 : Nat) : Int) from fun x hx => by
              rcases List.mem_append.1 hx with h | h
              · have := hws.out x (List.mem_of_mem_take h); omega
              · simp at h; omega)
            have hvl : v ≤ 1000000 := by omega
            have hal : a + 1 ≤ 1000000 := by omega
            have hds' := Lib.hid (show (ds.set p (d0 + 1) ++ [(0 : Int)]).length = v + 1 by simp; omega)
            clear hOwn hws hds hx hd hT1 hwl hIt hV2
            go_wp2_with (first | (go_at_call 207; refine (HOwn.out _ rfl).mono ?_; rintro e w3 ⟨A3, c3, rfl, ho3, hb3⟩; have hB3 : w.heap.size + 1 ≤ w3.heap.size := Nat.le_trans hV2s.out hb3.size; have hT3 : Hid (Two w3 (w.heap.size + 1) (.slice A3 (a + 1) c3) (.slice (some ⟨g1, 0, none⟩) v c1) (ws.take (a + 1)) (ds.set p (d0 + 1))) := Lib.hid ⟨own_mono ho3 hV2s.out, own_below hset.out.1 hb3 (Nat.le_refl _), fun b hb hb2 => by have h1 := (ho3.lt b hb).1; have h2 := (hset.out.1.lt b hb2).2; omega⟩; have Hb3 := Lib.hid hb3; clear ho3 hb3) | (at_builtin; refine pushTwo rfl (.tmp 46) (.tmp 48) rfl w3 (w.heap.size + 1) A3 (a + 1) c3 (.slice (some ⟨g1, 0, none⟩) v c1) (ws.take (a + 1)) (ds.set p (d0 + 1)) (v : Int) rfl _ rfl rfl hT3 hB3 hal ?_; intro A4 c4 w4 ht4 hb4; have hT4 := Lib.hid ht4.out.symm; have hB4 := Nat.le_trans hB3 hb4.out.size) | (at_builtin; refine pushTwo rfl (.tmp 50) (.tmp 51) rfl w4 (w.heap.size + 1) (some ⟨g1, 0, none⟩) v c1 (.slice A4 (a + 1 + 1) c4) (ds.set p (d0 + 1)) (ws.take (a + 1) ++ [(v : Int)]) 0 rfl _ rfl rfl hT4 hB4 hvl ?_; intro A5 c5 w5 ht5 hb5))
            have hbb := (hbs.out.trans (Hb3.out.mono hV2s.out)).trans (hb4.out.trans hb5.out)
            have hgf := Lib.hid (src_trans hg2.out hbb (by omega))
            have hSf := Lib.hid (src_keep hS2.out hbb (by omega))
            have hrf := Lib.hid ((hbb.block w.heap.size (by omega)).trans hres2.out)
            go_roundw
            case rel => exact ⟨v + 1, a + 1 + 1, c5, c4, A5, A4, _, _, by omega, by omega, by go_num, rfl, rfl, ⟨by omega, by omega⟩, ht5, ⟨hds'.out, hinc.out⟩, Hws, hSf, hgf, hrf⟩
            case measure => simp [intOf]; omega
        · have hna : ¬ (0 : Int) < (a : Int) := by omega
          have hV2 := hV.out
          have hT2 := Lib.hid (two_src hT1.out hV2 (show g < w.heap.size + 1 by omega))
          have hg2 : Hid (w.grownBy V2 (some g)) := src_tr hgr.out hV2
          have hres2 : Hid (V2.heap[w.heap.size]? = some (.cells #[.slice none 0 0] 26 (0, 0))) := (hV2.block w.heap.size (by have := hgr.out.size; have := (Array.getElem?_eq_some_iff.1 hres.out).1; omega) (fun e => by injection e; omega)).trans hres.out
          have hx := List.getElem?_eq_getElem (l := ws) (show a < ws.length by rw [← own64_len hT2.out.2.1]; exact ha)
          have hxr := hws.out _ (List.mem_of_getElem? hx)
          generalize ws[a]'_ = x at hx hxr
          obtain ⟨p, rfl⟩ := Int.eq_ofNat_of_zero_le hxr.1
          have hpv : p < v := by omega
          have hdl := hds.out.1
          have hd := List.getElem?_eq_getElem (l := ds) (show p < ds.length by omega)
          generalize ds[p]'_ = d0 at hd
          have hdg := M.tree_degl hds.out.2 hd
          have hinc := Lib.hid (M.tree_inc hds.out.2 (by omega) hd)
          obtain ⟨g1, rfl⟩ := hT2.out.shape.2 (by omega)
          obtain ⟨g2, rfl⟩ := hT2.out.symm.shape.2 (by omega)
          have hwl : ws.length = n2 := (own64_len hT2.out.2.1).symm
          have c2' := (own64_cell hT2.out.2.1 hwl hx).1
          obtain ⟨c1', f1', hg1lo, hg1hi⟩ := own64_cell hT2.out.1 hdl hd
          have hcap2 := hT2.out.symm.cap
          have hcap2' : (a : Int) + 1 ≤ (c2 : Int) := by omega
          have hset := Lib.hid (hT2.out.set hdl p (d0 + 1))
          have hapart : g1 ≠ g2 := fun e => hT2.out.2.2 g1 rfl (by rw [e]; rfl)
          have hbs : Hid (Below (w.heap.size + 1) V2 (V2.setCell ⟨g1, p, none⟩ (.int .i64 (d0 + 1)))) := below_setCell (Below.refl _ _) hg1lo _
          have hwd : IntKind.i64.wrap (d0 + 1) = d0 + 1 := IntWalk.i64_in _ (by omega)
          have hwa : IntKind.i64.wrap ((a : Int) + 1) = ((a + 1 : Nat) : Int) := by rw [IntWalk.i64_in _ (by omega)]; omega
          have hwv : IntKind.i64.wrap ((v : Int) + 1) = ((v + 1 : Nat) : Int) := by rw [IntWalk.i64_in _ (by omega)]; omega
          have hV2s : Hid (w.heap.size + 1 ≤ (V2.setCell ⟨g1, p, none⟩ (.int .i64 (d0 + 1))).heap.size) := by show _ ≤ _; have := hset.out.1.lt g1 rfl; omega
          have hIt := Lib.hid (ints_take9 (a + 1) (ints_of_own64 hset.out.2.1))
          have hOwn := fun (W : World) (hW : W = V2.setCell ⟨g1, p, none⟩ (.int .i64 (d0 + 1))) => l01Own (some ⟨g2, 0, none⟩) (ws.take (a + 1)) (a + 1) c2 W (Lib.hid (by rw [List.length_take]; omega)) (by omega) (Lib.hid (fun e => by cases e)) (Lib.hid (hW ▸ hIt.out))
          have HOwn := Lib.hid hOwn
          have Hws := Lib.hid (show ∀ x ∈ ws.take (a + 1) ++ [(v : Int)], 0 ≤ x ∧ x < ((v + 1 : Nat) : Int) from fun x hx => by
            rcases List.mem_append.1 hx with h | h
            · have := hws.out x (List.mem_of_mem_take h); omega
            · simp at h; omega)
          have hvl : v ≤ 1000000 := by omega
          have hal : a + 1 ≤ 1000000 := by omega
          have hds' := Lib.hid (show (ds.set p (d0 + 1) ++ [(0 : Int)]).length = v + 1 by simp; omega)
          clear hOwn hws hds hx hd hT1 hwl hIt hV2
          go_wp2_with (first | (go_at_call 207; refine (HOwn.out _ rfl).mono ?_; rintro e w3 ⟨A3, c3, rfl, ho3, hb3⟩; have hB3 : w.heap.size + 1 ≤ w3.heap.size := Nat.le_trans hV2s.out hb3.size; have hT3 : Hid (Two w3 (w.heap.size + 1) (.slice A3 (a + 1) c3) (.slice (some ⟨g1, 0, none⟩) v c1) (ws.take (a + 1)) (ds.set p (d0 + 1))) := Lib.hid ⟨own_mono ho3 hV2s.out, own_below hset.out.1 hb3 (Nat.le_refl _), fun b hb hb2 => by have h1 := (ho3.lt b hb).1; have h2 := (hset.out.1.lt b hb2).2; omega⟩; have Hb3 := Lib.hid hb3; clear ho3 hb3) | (at_builtin; refine pushTwo rfl (.tmp 46) (.tmp 48) rfl w3 (w.heap.size + 1) A3 (a + 1) c3 (.slice (some ⟨g1, 0, none⟩) v c1) (ws.take (a + 1)) (ds.set p (d0 + 1)) (v : Int) rfl _ rfl rfl hT3 hB3 hal ?_; intro A4 c4 w4 ht4 hb4; have hT4 := Lib.hid ht4.out.symm; have hB4 := Nat.le_trans hB3 hb4.out.size) | (at_builtin; refine pushTwo rfl (.tmp 50) (.tmp 51) rfl w4 (w.heap.size + 1) (some ⟨g1, 0, none⟩) v c1 (.slice A4 (a + 1 + 1) c4) (ds.set p (d0 + 1)) (ws.take (a + 1) ++ [(v : Int)]) 0 rfl _ rfl rfl hT4 hB4 hvl ?_; intro A5 c5 w5 ht5 hb5))
          have hbb := (hbs.out.trans (Hb3.out.mono hV2s.out)).trans (hb4.out.trans hb5.out)
          have hgf := Lib.hid (src_trans hg2.out hbb (by omega))
          have hSf := Lib.hid (src_keep hS2.out hbb (by omega))
          have hrf := Lib.hid ((hbb.block w.heap.size (by omega)).trans hres2.out)
          go_roundw
          case rel => exact ⟨v + 1, a + 1 + 1, c5, c4, A5, A4, _, _, by omega, by omega, by go_num, rfl, rfl, ⟨by omega, by omega⟩, ht5, ⟨hds'.out, hinc.out⟩, Hws, hSf, hgf, hrf⟩
          case measure => simp [intOf]; omega
    · obtain rfl : v = n := by omega
      have hge : ¬ (v : Int) < (v : Int) := by omega
      have hrc := cell_of_one hres.out
      have hrf := free_of_one hres.out
      rename World => V
      go_wp2
      refine bodyPost_ret (v := .agg #[.slice A1 v c1]) (by simp [results, Try.results205, go_sem, hrc]) rfl ?_
      exact ⟨A1, c1, rfl, ds, hds.out.1, hds.out.2, own_mono (own_far hT1.out.1 (by omega) _) (by omega), hSr.out.kept (src_grown V w.heap.size 0 _) (fun k e => by injection e with e; have := hS.out.1; omega), src_trans hgr.out (below_setCell (Below.refl w.heap.size V) (Nat.le_refl _) _) (Nat.le_refl _)⟩
end Go.Proofs.Ytdgcjkgbglofbaa

/- JoinTrees, the program's and the model's: the tree with the trees of a list below its root, or a code. -/
namespace Go.Proofs.Ytdgcjkgbglofbaa
open Go.RowKit

namespace M
def joinP (zss : List (List Int)) (k : Nat) : List Int := (zss.length : Int) :: (zss.take k).flatten
theorem joinP_zero (zss : List (List Int)) : joinP zss 0 = [(zss.length : Int)] := by simp [joinP]
theorem joinP_succ {zss : List (List Int)} {k : Nat} {zs : List Int} (h : zss[k]? = some zs) : joinP zss (k + 1) = joinP zss k ++ zs := by
  simp [joinP, List.take_add_one, h]
theorem flat_len (l : List (List Int)) : l.flatten.length = tot l := by
  induction l with
  | nil => rfl
  | cons x r ih => simp only [List.flatten_cons, List.length_append, tot, ih]
theorem joinP_len (zss : List (List Int)) (k : Nat) : (joinP zss k).length = 1 + tot (zss.take k) := by simp only [joinP, List.length_cons, flat_len]; omega
end M

def F_JoinTrees (zss : List (List Int)) : List Int × Int := if ∀ zs ∈ zss, M.isTree zs = true then (if 1 + M.tot zss ≤ 24 then (M.joinP zss zss.length, 0) else ([], 3)) else ([], 1)
theorem F_JoinTrees_len (zss : List (List Int)) : (F_JoinTrees zss).1.length ≤ 1048576 := by
  rw [F_JoinTrees]
  split
  · split
    · show (M.joinP _ _).length ≤ _
      rw [M.joinP_len, List.take_length]
      omega
    · simp
  · simp

/-- a list of trees to a tree and a code -/
def GivesJoin (f : Nat) (F : List (List Int) → List Int × Int) : Prop :=
  ∀ (A : Option Addr) (zss : List (List Int)) (n c : Nat) (w : World), Hid (zss.length = n) → n ≤ 1048576 → Hid (∀ zs ∈ zss, zs.length ≤ 1048576) → Hid (Trees w A zss) →
    Calls Try.prog f #[.slice A n c] w fun e w' => ∃ A' c', e = .returned (.tuple #[.agg #[.slice A' (F zss).1.length c'], .int .i64 (F zss).2]) ∧ Own64 w' w.heap.size (.slice A' (F zss).1.length c') (F zss).1 ∧ Below w.heap.size w w'

theorem Trees.be' {w w' : World} {A : Option Addr} {zss : List (List Int)} (h : Trees w A zss) (hb : Below w.heap.size w w') : Trees w' A zss := h.be hb
theorem res_box (w : World) (o : Obj) : Hid ((w.alloc o).heap[w.heap.size]? = some o) := World.alloc_heap_new w o

set_option maxRecDepth 100000 in
set_option maxHeartbeats 4000000 in
theorem l01Join (A : Option Addr) (zss : List (List Int)) (n c : Nat) (w : World) (hn : Hid (zss.length = n)) (hn' : n ≤ 1048576) (ht : Hid (∀ zs ∈ zss, M.isTree zs = true)) (h : Hid (Trees w A zss)) :
    Calls Try.prog 206 #[.slice A n c] w fun e w' =>
      (1 + M.tot zss ≤ 24 → ∃ A' c', e = .returned (.tuple #[.agg #[.slice A' (M.joinP zss n).length c'], .bool true]) ∧ Own64 w' w.heap.size (.slice A' (M.joinP zss n).length c') (M.joinP zss n) ∧ Below w.heap.size w w') ∧
      (¬ 1 + M.tot zss ≤ 24 → e = .returned (.tuple #[.agg #[.slice none 0 0], .bool false]) ∧ Below w.heap.size w w') := by
  obtain ⟨W, hW⟩ : ∃ W, (w.alloc (.cells #[.slice none 0 0] 26)).alloc (.cells #[.int .i64 (n : Int)] 2) = W := ⟨_, rfl⟩
  have hWs : W.heap.size = w.heap.size + 1 + 1 := by rw [← hW]; simp
  have hR : Hid (W.heap[w.heap.size]? = some (.cells #[.slice none 0 0] 26 (0, 0))) := by rw [← hW]; exact (Below.heap_alloc _ _ _ (by simp)).trans (World.alloc_heap_new w _)
  have hst : Hid (Own64 W (w.heap.size + 1) (.slice (some ⟨w.heap.size + 1, 0, none⟩) 1 1) (M.joinP zss 0)) := by
    rw [← hW, M.joinP_zero, hn.out]
    have := World.ownsRow_lit (e := 2) (size := 1) (w.alloc (.cells #[.slice none 0 0] 26)) #[.int .i64 (n : Int)] 1 (Nat.le_refl _) (by simp [maxLen]) (by simp)
    simpa [Hid, Own64] using this
  have hBW : Hid (Below w.heap.size w W) := by rw [← hW]; exact bal (bal (b0 w) _) _
  have HW := Lib.hid hW
  clear hW
  go_enter Try.func206, Try.ntmps206
  go_wp2
  rw [HW.out]
  go_loopw [4, 5] (fun q i wr => ∃ (k m : Nat) (A' : Option Addr) (c' : Nat), k ≤ n ∧ i = .int .i64 (k : Int) ∧ q = .slice A' m c' ∧ Hid (m = 1 + M.tot (zss.take k)) ∧ (k = 0 ∨ m ≤ 24) ∧ m ≤ 24 ∧ Hid (Own64 wr (w.heap.size + 1) (.slice A' m c') (M.joinP zss k)) ∧ Hid (wr.heap[w.heap.size]? = some (.cells #[.slice none 0 0] 26 (0, 0))) ∧ Hid (Below w.heap.size w wr)) (fun _ i _ => n - (intOf i).toNat)
  case atStart => exact ⟨0, 1, _, 1, Nat.zero_le _, rfl, rfl, by simp [M.tot, Hid], .inl rfl, by omega, hst, hR, hBW⟩
  case round =>
    obtain ⟨k, m, A', c', hk, rfl, rfl, hm, _, hm24, ho, hres, hb⟩ := hrel
    clear hst hR hBW HW
    have hzr := hb.out.size
    have hzr2 := lt_of_block hres.out
    by_cases hlt : k < n
    · have hki : (k : Int) < (n : Int) := by omega
      have hk0 : (0 : Int) ≤ (k : Int) := by omega
      have hkz : k < zss.length := by rw [hn.out]; exact hlt
      have hat : zss[k]? = some zss[k] := List.getElem?_eq_getElem hkz
      have htk := ht.out _ (List.mem_of_getElem? hat)
      have hts := Lib.hid (M.tot_take hat)
      have hj := Lib.hid (M.joinP_succ hat)
      have hle := M.tot_take_le zss (k + 1)
      generalize zss[k] = zs at hat htk hts hj
      have hzl := M.tree_len htk
      obtain ⟨b, rfl, hbl, hc⟩ := h.out (by omega)
      obtain ⟨A1, c1, h1, h2⟩ := hc k zs hat
      have hcl : wr.cell? ⟨b, k, none⟩ = some (.slice A1 zs.length c1) := (hb.out.cell (p := ⟨b, k, none⟩) hbl).trans h1
      have hi1 : Hid (Ints wr wr.heap.size A1 zs) := h2.be hb.out
      obtain ⟨b1, off1, rfl, _⟩ := hi1.out (by omega)
      obtain ⟨L, hL⟩ : ∃ L, Hid (zs.length = L) := ⟨_, rfl⟩
      rw [hL.out] at hcl hts hzl
      clear hc h1 h2 hat hbl htk hkz
      by_cases hbig : m + L ≤ 24
      · have hbig2 : ¬ (24 : Int) < ((m + L : Nat) : Int) := by omega
        go_wp2_with (at_builtin; refine appendInts rfl (.tmp 15) (.tmp 20) rfl _ (w.heap.size + 1) A' m c' (M.joinP zss k) (some ⟨b1, off1, none⟩) L c1 zs rfl rfl ho hi1 hL (fun e => by cases e) (by omega) (by omega) (by omega) ?_; intro A2 c2 w2 ho2 hb2; have hbig3 := hbig2)
        have hres2 : Hid (w2.heap[w.heap.size]? = some (.cells #[.slice none 0 0] 26 (0, 0))) := (hb2.out.block _ (Nat.lt_succ_self _)).trans hres.out
        have hb3 : Hid (Below w.heap.size w w2) := hb.out.trans (hb2.out.mono (Nat.le_succ _))
        rw [← hj.out] at ho2
        have hm2 : Hid (m + L = 1 + M.tot (zss.take (k + 1))) := by show _ = _; rw [hts.out, hm.out]; omega
        clear ho hres hb hi1 hb2
        go_roundw
        case rel => exact ⟨k + 1, m + L, A2, c2, by omega, by go_num, rfl, hm2, .inr hbig, hbig, ho2, hres2, hb3⟩
        case measure => simp [intOf]; omega
      · have hbig2 : (24 : Int) < ((m + L : Nat) : Int) := by omega
        have hno : ¬ 1 + M.tot zss ≤ 24 := by have := hm.out; rw [hts.out] at hle; omega
        go_wp2_with (at_builtin; refine appendInts rfl (.tmp 15) (.tmp 20) rfl _ (w.heap.size + 1) A' m c' (M.joinP zss k) (some ⟨b1, off1, none⟩) L c1 zs rfl rfl ho hi1 hL (fun e => by cases e) (by omega) (by omega) (by omega) ?_; intro A2 c2 w2 ho2 hb2; have hbig3 := hbig2; have hres2 := (hb2.out.block w.heap.size (Nat.lt_succ_self _)).trans hres.out; have hr2 := cell_of_one hres2; have hf2 := free_of_one hres2)
        have hb3 : Below w.heap.size w w2 := hb.out.trans (hb2.out.mono (Nat.le_succ _))
        have e1 := (Boxed.set (.slice none 0 0) hres2).cell
        refine bodyPost_ret (v := .tuple #[.agg #[.slice none 0 0], .bool false]) (by simp [results, Try.results206, go_sem, e1]) rfl ?_
        exact ⟨fun e => absurd e hno, fun _ => ⟨rfl, below_setCell hb3 (Nat.le_refl _) _⟩⟩
    · obtain rfl : k = n := by omega
      have hge : ¬ (k : Int) < (k : Int) := by omega
      have htot : M.tot (zss.take k) = M.tot zss := by rw [List.take_of_length_le (by rw [hn.out]; exact Nat.le_refl _)]
      have hyes : Hid (1 + M.tot zss ≤ 24) := by show _ ≤ _; have := hm.out; rw [htot] at this; omega
      have hml : Hid ((M.joinP zss k).length = m) := by show _ = _; rw [M.joinP_len]; exact hm.out.symm
      have hr2 := cell_of_one hres.out
      have hf2 := free_of_one hres.out
      clear htot
      go_wp2
      have e1 := (Boxed.set (.slice A' m c') hres.out).cell
      refine bodyPost_ret (v := .tuple #[.agg #[.slice A' m c'], .bool true]) (by simp [results, Try.results206, go_sem, e1]) rfl ?_
      refine ⟨fun _ => ⟨A', c', ?_, ?_, below_setCell hb.out (Nat.le_refl _) _⟩, fun e => absurd hyes.out (by omega)⟩
      · rw [hml.out]
      · rw [hml.out]; exact own_mono (own_far ho.out (Nat.lt_succ_self _) _) (Nat.le_succ _)

theorem F_join_bad {zss : List (List Int)} {zs : List Int} (h : zs ∈ zss) (ht : M.isTree zs = false) : F_JoinTrees zss = ([], 1) := by
  rw [F_JoinTrees, if_neg]
  intro h'
  rw [h' zs h] at ht
  cases ht
theorem F_join_yes {zss : List (List Int)} (h : ∀ zs ∈ zss, M.isTree zs = true) (h2 : 1 + M.tot zss ≤ 24) : F_JoinTrees zss = (M.joinP zss zss.length, 0) := by rw [F_JoinTrees, if_pos h, if_pos h2]
theorem F_join_no {zss : List (List Int)} (h : ∀ zs ∈ zss, M.isTree zs = true) (h2 : ¬ 1 + M.tot zss ≤ 24) : F_JoinTrees zss = ([], 3) := by rw [F_JoinTrees, if_pos h, if_neg h2]
theorem all_take {zss : List (List Int)} {n : Nat} (hn : zss.length = n) (h : ∀ j zs, j < n → zss[j]? = some zs → M.isTree zs = true) : ∀ zs ∈ zss, M.isTree zs = true := fun zs hz => by
  obtain ⟨j, hj⟩ := List.getElem?_of_mem hz
  exact h j zs (by rw [← hn]; exact (List.getElem?_eq_some_iff.1 hj).1) hj

set_option maxRecDepth 100000 in
set_option maxHeartbeats 4000000 in
theorem spec_JoinTrees : GivesJoin 63 F_JoinTrees := by
  intro A zss n c w hn hn' hz h
  obtain ⟨W, hW⟩ : ∃ W, w.alloc (.cells #[.slice none 0 0] 26) = W := ⟨_, rfl⟩
  have hWs : W.heap.size = w.heap.size + 1 := by rw [← hW]; simp
  have hR : Hid (W.heap[w.heap.size]? = some (.cells #[.slice none 0 0] 26 (0, 0))) := by rw [← hW]; exact World.alloc_heap_new w _
  have hBW : Hid (Below w.heap.size w W) := by rw [← hW]; exact bal (b0 w) _
  have HW := Lib.hid hW
  clear hW
  go_enter Try.func63, Try.ntmps63
  go_wp2
  rw [HW.out]
  go_loopw [4] (fun i wr => ∃ (k : Nat), k ≤ n ∧ i = .int .i64 (k : Int) ∧ Hid (∀ j zs, j < k → zss[j]? = some zs → M.isTree zs = true) ∧ Hid (wr.heap[w.heap.size]? = some (.cells #[.slice none 0 0] 26 (0, 0))) ∧ Hid (Below w.heap.size w wr)) (fun i _ => n - (intOf i).toNat)
  case atStart => exact ⟨0, Nat.zero_le _, rfl, fun j zs hj => by omega, hR, hBW⟩
  case round =>
    obtain ⟨k, hk, rfl, hall, hres, hb⟩ := hrel
    clear hR hBW HW
    have hzr := lt_of_block hres.out
    by_cases hlt : k < n
    · have hki : (k : Int) < (n : Int) := by omega
      have hk0 : (0 : Int) ≤ (k : Int) := by omega
      have hkz : k < zss.length := by rw [hn.out]; exact hlt
      have hat : zss[k]? = some zss[k] := List.getElem?_eq_getElem hkz
      have hzk := hz.out _ (List.mem_of_getElem? hat)
      generalize zss[k] = zs at hat hzk
      obtain ⟨b, rfl, hbl, hc⟩ := h.out (by omega)
      obtain ⟨A1, c1, h1, h2⟩ := hc k zs hat
      have hcl : wr.cell? ⟨b, k, none⟩ = some (.slice A1 zs.length c1) := (hb.out.cell (p := ⟨b, k, none⟩) hbl).trans h1
      have HIs := Lib.hid (specIs A1 zs c1 wr (by omega) (h2.be hb.out))
      have Hat := Lib.hid hat
      clear hc h1 h2 hat hbl hkz
      cases ht : M.isTree zs
      · rw [ht] at HIs
        have hF := Lib.hid (F_join_bad (List.mem_of_getElem? Hat.out) ht)
        clear ht
        go_wp2_with fail
        refine HIs.out.mono ?_
        rintro e w7 ⟨rfl, hb7⟩
        have hres7 := (hb7.block w.heap.size hzr).trans hres.out
        have hr2 := cell_of_one hres7
        have hf2 := free_of_one hres7
        have hB := Lib.hid (btr hb.out hb7)
        clear hb7 hcl
        go_wp2
        have e1 := (Boxed.set (.slice none 0 0) hres7).cell
        refine bodyPost_ret (v := .tuple #[.agg #[.slice none 0 0], .int .i64 1]) (by simp [results, Try.results63, go_sem, e1]) rfl ?_
        rw [hF.out]
        exact ⟨none, 0, rfl, own64_nil _ _, below_setCell hB.out (Nat.le_refl _) _⟩
      · rw [ht] at HIs
        have hall2 : Hid (∀ j zs', j < k + 1 → zss[j]? = some zs' → M.isTree zs' = true) := fun j zs' hj hz' => by
          rcases Nat.lt_or_ge j k with h5 | h5
          · exact hall.out j zs' h5 hz'
          · obtain rfl : j = k := by omega
            rw [Hat.out] at hz'
            injection hz' with hz'
            rw [← hz']
            exact ht
        clear ht
        go_wp2_with fail
        refine HIs.out.mono ?_
        rintro e w7 ⟨rfl, hb7⟩
        have hres7 := Lib.hid ((hb7.block w.heap.size hzr).trans hres.out)
        have hB := Lib.hid (btr hb.out hb7)
        clear hb7 hcl hall hres hb HIs
        go_wp2
        go_roundw
        case rel => exact ⟨k + 1, by omega, by go_num, hall2, hres7, hB⟩
        case measure => simp [intOf]; omega
    · obtain rfl : k = n := by omega
      have hge : ¬ (k : Int) < (k : Int) := by omega
      have hA := Lib.hid (all_take hn.out hall.out)
      have hJ := Lib.hid (l01Join A zss k c wr hn hn' hA (h.out.be' hb.out))
      clear hall
      go_wp2_with fail
      refine hJ.out.mono ?_
      rintro e w7 ⟨hp1, hp2⟩
      by_cases hsm : 1 + M.tot zss ≤ 24
      · obtain ⟨A7, c7, rfl, ho7, hb7⟩ := hp1 hsm
        have hF := Lib.hid (F_join_yes hA.out hsm)
        rw [hn.out] at hF
        obtain ⟨J, hJe⟩ : ∃ J, Hid (M.joinP zss k = J) := ⟨_, rfl⟩
        rw [hJe.out] at hF ho7 ⊢
        have hres7 := (hb7.block w.heap.size hzr).trans hres.out
        have hres8 : (w7.alloc (.cells #[.slice A7 J.length c7] 26)).heap[w.heap.size]? = some (.cells #[.slice none 0 0] 26 (0, 0)) := (Below.heap_alloc _ _ _ (lt_of_block hres7)).trans hres7
        have hr2 := cell_of_one hres8
        have hf2 := free_of_one hres8
        have hB := Lib.hid (bal (btr hb.out hb7) (.cells #[.slice A7 J.length c7] 26))
        have Ho7 := Lib.hid (ho7.alloc (.cells #[.slice A7 J.length c7] 26))
        clear hb7 ho7 hp1 hp2 hsm
        go_wp2
        have e1 := (Boxed.set (.slice A7 J.length c7) hres8).cell
        refine bodyPost_ret (v := .tuple #[.agg #[.slice A7 J.length c7], .int .i64 0]) (by simp [results, Try.results63, go_sem, e1]) rfl ?_
        rw [hF.out]
        exact ⟨A7, c7, rfl, own_mono (own_far Ho7.out hzr _) (by omega), below_setCell hB.out (Nat.le_refl _) _⟩
      · obtain ⟨rfl, hb7⟩ := hp2 hsm
        have hF := Lib.hid (F_join_no hA.out hsm)
        have hres7 := (hb7.block w.heap.size hzr).trans hres.out
        have hres8 : (w7.alloc (.cells #[.slice none 0 0] 26)).heap[w.heap.size]? = some (.cells #[.slice none 0 0] 26 (0, 0)) := (Below.heap_alloc _ _ _ (lt_of_block hres7)).trans hres7
        have hr2 := cell_of_one hres8
        have hf2 := free_of_one hres8
        have hB := Lib.hid (bal (btr hb.out hb7) (.cells #[.slice none 0 0] 26))
        clear hb7 hp1 hp2 hsm
        go_wp2
        have e1 := (Boxed.set (.slice none 0 0) hres8).cell
        refine bodyPost_ret (v := .tuple #[.agg #[.slice none 0 0], .int .i64 3]) (by simp [results, Try.results63, go_sem, e1]) rfl ?_
        rw [hF.out]
        exact ⟨none, 0, rfl, own64_nil _ _, below_setCell hB.out (Nat.le_refl _) _⟩

set_option maxRecDepth 100000 in
set_option maxHeartbeats 4000000 in
theorem impl_JoinTrees : GivesJoin 62 F_JoinTrees := by
  intro A zss n c w hn hn' hz h
  obtain ⟨W, hW⟩ : ∃ W, w.alloc (.cells #[.slice none 0 0] 26) = W := ⟨_, rfl⟩
  have hWs : W.heap.size = w.heap.size + 1 := by rw [← hW]; simp
  have hR : Hid (W.heap[w.heap.size]? = some (.cells #[.slice none 0 0] 26 (0, 0))) := by rw [← hW]; exact World.alloc_heap_new w _
  have hBW : Hid (Below w.heap.size w W) := by rw [← hW]; exact bal (b0 w) _
  have HW := Lib.hid hW
  clear hW
  go_enter Try.func62, Try.ntmps62
  go_wp2
  rw [HW.out]
  go_loopw [4, 12] (fun q i wr => ∃ (k : Nat), k ≤ n ∧ i = .int .i64 (k : Int) ∧ q = .int .i64 (1 + (M.tot (zss.take k) : Int)) ∧ Hid (∀ j zs, j < k → zss[j]? = some zs → M.isTree zs = true) ∧ Hid (M.tot (zss.take k) ≤ 24 * k) ∧ Hid (wr.heap[w.heap.size]? = some (.cells #[.slice none 0 0] 26 (0, 0))) ∧ Hid (Below w.heap.size w wr)) (fun _ i _ => n - (intOf i).toNat)
  case atStart => exact ⟨0, Nat.zero_le _, rfl, by simp [M.tot], fun j zs hj => by omega, by simp [M.tot, Hid], hR, hBW⟩
  case round =>
    obtain ⟨k, hk, rfl, rfl, hall, htl, hres, hb⟩ := hrel
    clear hR hBW HW
    have hzr := lt_of_block hres.out
    by_cases hlt : k < n
    · have hki : (k : Int) < (n : Int) := by omega
      have hk0 : (0 : Int) ≤ (k : Int) := by omega
      have hkz : k < zss.length := by rw [hn.out]; exact hlt
      have hat : zss[k]? = some zss[k] := List.getElem?_eq_getElem hkz
      have hzk := hz.out _ (List.mem_of_getElem? hat)
      have hts := Lib.hid (M.tot_take hat)
      generalize zss[k] = zs at hat hzk hts
      obtain ⟨b, rfl, hbl, hc⟩ := h.out (by omega)
      obtain ⟨A1, c1, h1, h2⟩ := hc k zs hat
      have hcl : wr.cell? ⟨b, k, none⟩ = some (.slice A1 zs.length c1) := (hb.out.cell (p := ⟨b, k, none⟩) hbl).trans h1
      have HIs := Lib.hid (implIsTree A1 zs c1 (wr.alloc (.cells #[.slice A1 zs.length c1] 26)) (by omega) ((h2.be hb.out).al _))
      have hres1 : Hid ((wr.alloc (.cells #[.slice A1 zs.length c1] 26)).heap[w.heap.size]? = some (.cells #[.slice none 0 0] 26 (0, 0))) := (Below.heap_alloc _ _ _ hzr).trans hres.out
      have hbx : Hid (Boxed (wr.alloc (.cells #[.slice A1 zs.length c1] 26)) wr.heap.size 26 (.slice A1 zs.length c1)) := Boxed.new _ _ _
      have Hat := Lib.hid hat
      clear hc h1 h2 hat hbl hkz
      cases ht : M.isTree zs
      · rw [ht] at HIs
        have hF := Lib.hid (F_join_bad (List.mem_of_getElem? Hat.out) ht)
        clear ht
        go_wp2_with fail
        refine HIs.out.mono ?_
        rintro e w7 ⟨rfl, hb7⟩
        have hres7 := (hb7.block w.heap.size (lt_of_block hres1.out)).trans hres1.out
        have hr2 := cell_of_one hres7
        have hf2 := free_of_one hres7
        have hB := Lib.hid (btr (bal hb.out _) hb7)
        clear hb7 hcl
        go_wp2
        have e1 := (Boxed.set (.slice none 0 0) hres7).cell
        refine bodyPost_ret (v := .tuple #[.agg #[.slice none 0 0], .int .i64 1]) (by simp [results, Try.results62, go_sem, e1]) rfl ?_
        rw [hF.out]
        exact ⟨none, 0, rfl, own64_nil _ _, below_setCell hB.out (Nat.le_refl _) _⟩
      · rw [ht] at HIs
        have hall2 : Hid (∀ j zs', j < k + 1 → zss[j]? = some zs' → M.isTree zs' = true) := fun j zs' hj hz' => by
          rcases Nat.lt_or_ge j k with h5 | h5
          · exact hall.out j zs' h5 hz'
          · obtain rfl : j = k := by omega
            rw [Hat.out] at hz'
            injection hz' with hz'
            rw [← hz']
            exact ht
        have hz24 := (M.tree_len ht).2
        obtain ⟨t, ht'⟩ : ∃ t, Hid (M.tot (zss.take k) = t) := ⟨_, rfl⟩
        rw [ht'.out] at hts htl ⊢
        have htl' := htl.out
        have htl2 : Hid (M.tot (zss.take (k + 1)) ≤ 24 * (k + 1)) := by show _ ≤ _; rw [hts.out]; omega
        clear ht
        go_wp2_with fail
        refine HIs.out.mono ?_
        rintro e w7 ⟨rfl, hb7⟩
        have hres7 := Lib.hid ((hb7.block w.heap.size (lt_of_block hres1.out)).trans hres1.out)
        have hB := Lib.hid (btr (bal hb.out _) hb7)
        have cB := (show Boxed w7 wr.heap.size 26 (.slice A1 zs.length c1) from (hb7.block _ hbx.out.lt).trans hbx.out).cell
        clear hb7 hcl hall hres hb HIs hres1 hbx
        go_wp2
        go_roundw
        case rel => exact ⟨k + 1, by omega, by go_num, by rw [hts.out]; go_num, hall2, htl2, hres7, hB⟩
        case measure => simp [intOf]; omega
    · obtain rfl : k = n := by omega
      have hge : ¬ (k : Int) < (k : Int) := by omega
      have hA := Lib.hid (all_take hn.out hall.out)
      have htot : Hid (M.tot (zss.take k) = M.tot zss) := by show _ = _; rw [List.take_of_length_le (by rw [hn.out]; exact Nat.le_refl _)]
      rw [htot.out] at htl ⊢
      by_cases hsm : 1 + M.tot zss ≤ 24
      · have hF := Lib.hid (F_join_yes hA.out hsm)
        rw [hn.out] at hF
        have hsm2 : ¬ (24 : Int) < 1 + (M.tot zss : Int) := by omega
        have hst : Hid (Own64 (wr.alloc (.cells #[.int .i64 (k : Int)] 2)) wr.heap.size (.slice (some ⟨wr.heap.size, 0, none⟩) 1 1) (M.joinP zss 0)) := by
          rw [M.joinP_zero, hn.out]
          have := World.ownsRow_lit (e := 2) (size := 1) wr #[.int .i64 (k : Int)] 1 (Nat.le_refl _) (by simp [maxLen]) (by simp)
          simpa [Hid, Own64] using this
        have hres1 : Hid ((wr.alloc (.cells #[.int .i64 (k : Int)] 2)).heap[w.heap.size]? = some (.cells #[.slice none 0 0] 26 (0, 0))) := (Below.heap_alloc _ _ _ hzr).trans hres.out
        have hb1 : Hid (Below w.heap.size w (wr.alloc (.cells #[.int .i64 (k : Int)] 2))) := bal hb.out _
        have Hsm := Lib.hid hsm
        have hzn : zss.length = k := hn.out
        have hzs0 : wr.heap.size ≤ (wr.alloc (.cells #[.int .i64 (k : Int)] 2)).heap.size := by simp
        obtain ⟨B0, hB0⟩ : ∃ B0, Hid (wr.heap.size = B0) := ⟨_, rfl⟩
        obtain ⟨v0, hv0⟩ : ∃ v0, Hid (Value.slice (some ⟨wr.heap.size, 0, none⟩) 1 1 = v0) := ⟨_, rfl⟩
        have hst2 : Hid (Own64 (wr.alloc (.cells #[.int .i64 (k : Int)] 2)) B0 (.slice (some ⟨wr.heap.size, 0, none⟩) 1 1) (M.joinP zss 0)) := by rw [← hB0.out]; exact hst
        rw [hB0.out] at hzr hzs0
        clear hsm hall hres hb hst hv0
        go_wp2
        go_loopw [7, 34] (fun q i wx => ∃ (j : Nat) (A' : Option Addr) (c' m : Nat), j ≤ k ∧ i = .int .i64 (j : Int) ∧ q = .slice A' m c' ∧ Hid (m = 1 + M.tot (zss.take j)) ∧ m ≤ 24 ∧ Hid (Own64 wx B0 (.slice A' m c') (M.joinP zss j)) ∧ Hid (wx.heap[w.heap.size]? = some (.cells #[.slice none 0 0] 26 (0, 0))) ∧ B0 ≤ wx.heap.size ∧ Hid (Below w.heap.size w wx)) (fun _ i _ => k - (intOf i).toNat)
        case atStart => exact ⟨0, _, 1, 1, Nat.zero_le _, rfl, rfl, by simp [M.tot, Hid], by omega, hst2, hres1, hzs0, hb1⟩
        case round =>
          obtain ⟨j, A', c', m, hj, rfl, rfl, hm, hm24, ho, hres, hzx, hb⟩ := hrel
          clear hst2 hres1 hb1 hzs0
          have hsm := Hsm.out
          by_cases hlt2 : j < k
          · have hji : (j : Int) < (k : Int) := by omega
            have hj0 : (0 : Int) ≤ (j : Int) := by omega
            have hjz : j < zss.length := by omega
            have hat : zss[j]? = some zss[j] := List.getElem?_eq_getElem hjz
            have htk := hA.out _ (List.mem_of_getElem? hat)
            have hts := Lib.hid (M.tot_take hat)
            have hjj := Lib.hid (M.joinP_succ hat)
            have hle := M.tot_take_le zss (j + 1)
            generalize zss[j] = zs at hat htk hts hjj
            have hzl := M.tree_len htk
            obtain ⟨b, rfl, hbl, hc⟩ := h.out (by omega)
            obtain ⟨A1, c1, h1, h2⟩ := hc j zs hat
            obtain ⟨L, hL⟩ : ∃ L, Hid (zs.length = L) := ⟨_, rfl⟩
            have hcl := (hb.out.cell (p := ⟨b, j, none⟩) hbl).trans h1
            rw [hL.out] at hcl hts hzl
            obtain ⟨b1, off1, rfl, _⟩ := h2 (by have := hL.out; omega)
            have hi1 : Hid (Ints (wr.alloc (.cells #[.slice (some ⟨b1, off1, none⟩) L c1] 26)) (wr.alloc (.cells #[.slice (some ⟨b1, off1, none⟩) L c1] 26)).heap.size (some ⟨b1, off1, none⟩) zs) := (h2.be hb.out).al _
            have ho1 : Hid (Own64 (wr.alloc (.cells #[.slice (some ⟨b1, off1, none⟩) L c1] 26)) B0 (.slice A' m c') (M.joinP zss j)) := ho.out.alloc _
            have hzx1 : B0 ≤ (wr.alloc (.cells #[.slice (some ⟨b1, off1, none⟩) L c1] 26)).heap.size := by simp; omega
            have hres1 : Hid ((wr.alloc (.cells #[.slice (some ⟨b1, off1, none⟩) L c1] 26)).heap[w.heap.size]? = some (.cells #[.slice none 0 0] 26 (0, 0))) := (Below.heap_alloc _ _ _ (lt_of_block hres.out)).trans hres.out
            have hb1 : Hid (Below w.heap.size w (wr.alloc (.cells #[.slice (some ⟨b1, off1, none⟩) L c1] 26))) := bal hb.out _
            have hm2 : Hid (m + L = 1 + M.tot (zss.take (j + 1))) := by show _ = _; rw [hts.out, hm.out]; omega
            have hml : m + L ≤ 24 := by have := hm2.out; omega
            clear hc h1 h2 hat hbl htk hjz ho hres hb hm hsm hle hsm2
            go_wp2_with (at_builtin; refine appendInts rfl (.tmp 38) (.tmp 40) rfl _ B0 A' m c' (M.joinP zss j) (some ⟨b1, off1, none⟩) L c1 zs rfl rfl ho1 hi1 hL (fun e => by cases e) hzx1 (by omega) (by omega) ?_; intro A2 c2 w2 ho2 hb2)
            have hres2 : Hid (w2.heap[w.heap.size]? = some (.cells #[.slice none 0 0] 26 (0, 0))) := (hb2.out.block _ hzr).trans hres1.out
            have hb3 : Hid (Below w.heap.size w w2) := hb1.out.trans (hb2.out.mono (by omega))
            have hzx2 : B0 ≤ w2.heap.size := Nat.le_trans hzx1 hb2.out.size
            rw [← hjj.out] at ho2
            clear ho1 hres1 hb1 hi1 hb2 hzx1
            go_roundw
            case rel => exact ⟨j + 1, A2, c2, m + L, by omega, by go_num, rfl, hm2, hml, ho2, hres2, hzx2, hb3⟩
            case measure => simp [intOf]; omega
          · obtain rfl : j = k := by omega
            have hge2 : ¬ (j : Int) < (j : Int) := by omega
            have hJl : Hid ((M.joinP zss j).length = m) := by show _ = _; rw [M.joinP_len]; exact hm.out.symm
            have hr2 := cell_of_one hres.out
            have hf2 := free_of_one hres.out
            go_wp2
            have e1 := (Boxed.set (.slice A' m c') hres.out).cell
            refine bodyPost_ret (v := .tuple #[.agg #[.slice A' m c'], .int .i64 0]) (by simp [results, Try.results62, go_sem, e1]) rfl ?_
            rw [hF.out]
            show ∃ A'' c'', Ending.returned (.tuple #[.agg #[.slice A' m c'], .int .i64 0]) = .returned (.tuple #[.agg #[.slice A'' (M.joinP zss j).length c''], .int .i64 0]) ∧ Own64 _ _ (.slice A'' (M.joinP zss j).length c'') (M.joinP zss j) ∧ _
            rw [hJl.out]
            exact ⟨A', c', rfl, own_mono (own_far ho.out hzr _) (by omega), below_setCell hb.out (Nat.le_refl _) _⟩
      · have hF := Lib.hid (F_join_no hA.out hsm)
        have hsm2 : (24 : Int) < 1 + (M.tot zss : Int) := by omega
        have hr2 := cell_of_one hres.out
        have hf2 := free_of_one hres.out
        clear hsm
        go_wp2
        have e1 := (Boxed.set (.slice none 0 0) hres.out).cell
        refine bodyPost_ret (v := .tuple #[.agg #[.slice none 0 0], .int .i64 3]) (by simp [results, Try.results62, go_sem, e1]) rfl ?_
        rw [hF.out]
        exact ⟨none, 0, rfl, own64_nil _ _, below_setCell hb.out (Nat.le_refl _) _⟩
end Go.Proofs.Ytdgcjkgbglofbaa

/- Texts of trees: the mathematics. No program is named here. -/
namespace Go.Proofs.Ytdgcjkgbglofbaa.M
theorem go_span : ∀ (l : List Int) (o : Int), 0 ≤ o → ok o l → isGo o (l.take (span o l)) = true := by
  intro l
  induction l with
  | nil => intro o h0 h; simp only [ok] at h; simp [span, isGo]; omega
  | cons d r ih =>
    intro o h0 h
    by_cases ho : o ≤ 0
    · rw [span_stop ho]; simp [isGo]; omega
    · rcases h with h | ⟨h1, h2, h3⟩
      · omega
      · rw [span, if_neg ho, List.take_succ_cons, isGo, if_neg (by simp [h1, h2]; omega)]
        exact ih _ (by omega) h3
theorem sub_tree {xs : List Int} (h : isTree xs = true) {v : Nat} (hv : v < xs.length) : isTree (sub xs v) = true := by
  have h1 := go_span _ 1 (by omega) (tree_ok h hv)
  have h2 := span_pos hv
  have h3 := end_le (xs := xs) (v := v) (by omega)
  have h4 := (tree_len h).2
  simp only [isTree, Bool.and_eq_true, decide_eq_true_eq, sub_length]
  exact ⟨⟨h2, by omega⟩, h1⟩
/-- the text of a tree, f levels deep at most -/
def textL : Nat → List Int → ByteArray
  | 0, _ => ByteArray.empty
  | f + 1, xs => (List.range (xs[0]?.getD 0).toNat).foldl (fun a i => a ++ textL f (sub xs (kidAt xs 0 i))) (ByteArray.mk #[40]) ++ ByteArray.mk #[41]
/-- that of the first k children, with what opens it -/
def textK (f : Nat) (xs : List Int) (k : Nat) : ByteArray := (List.range k).foldl (fun a i => a ++ textL f (sub xs (kidAt xs 0 i))) (ByteArray.mk #[40])
theorem textK_zero (f : Nat) (xs : List Int) : textK f xs 0 = ByteArray.mk #[40] := rfl
theorem textK_succ (f : Nat) (xs : List Int) (k : Nat) : textK f xs (k + 1) = textK f xs k ++ textL f (sub xs (kidAt xs 0 k)) := by simp [textK, List.range_succ, List.foldl_append]
theorem textL_at {f : Nat} {xs : List Int} {d : Nat} (h : xs[0]? = some (d : Int)) : textL (f + 1) xs = textK f xs d ++ ByteArray.mk #[41] := by rw [textL, h]; rfl
/-- the subtrees below the root end the list -/
theorem kids_all {xs : List Int} (ht : isTree xs = true) {d : Nat} (hd : xs[0]? = some (d : Int)) : kidAt xs 0 d = xs.length := by
  have h := kid_due ht hd d (by omega)
  have h2 : due xs 0 = 1 := by simp [due, bal]
  rcases Nat.lt_or_ge (kidAt xs 0 d) xs.length with h3 | h3
  · have := due_pos ht h3; omega
  · omega
theorem sub_short {xs : List Int} (ht : isTree xs = true) {d : Nat} (hd : xs[0]? = some (d : Int)) {i : Nat} (hi : i < d) : (sub xs (kidAt xs 0 i)).length < xs.length := by
  have h1 := (kid_due ht hd i (by omega)).2.2
  have h2 := kid_lt ht hd (i := i) (by omega)
  have h3 := end_le (xs := xs) (v := kidAt xs 0 i) (by omega)
  rw [sub_length]; omega
theorem open_size : (ByteArray.mk #[40]).size = 1 := by decide
theorem close_size : (ByteArray.mk #[41]).size = 1 := by decide
theorem textL_size : ∀ (f : Nat) (xs : List Int), isTree xs = true → xs.length ≤ f → (textL f xs).size = 2 * xs.length := by
  intro f
  induction f with
  | zero => intro xs ht h; have := (tree_len ht).1; omega
  | succ f ih =>
    intro xs ht hf
    have hl := tree_len ht
    obtain ⟨d, hd, _⟩ := tree_degN ht (v := 0) (by omega)
    have hK : ∀ k, k ≤ d → (textK f xs k).size + 1 = 2 * kidAt xs 0 k := by
      intro k
      induction k with
      | zero => intro _; rw [textK_zero, open_size]; simp [kidAt]
      | succ k ihk =>
        intro hk
        have h1 := sub_short ht hd (i := k) (by omega)
        have h2 := kid_lt ht hd (i := k) (by omega)
        rw [textK_succ, ByteArray.size_append, ih _ (sub_tree ht h2) (by omega), sub_length]
        have := ihk (by omega)
        simp only [kidAt]
        omega
    have h1 := hK d (Nat.le_refl _)
    rw [kids_all ht hd] at h1
    rw [textL_at hd, ByteArray.size_append, close_size]
    omega
theorem textK_size {f : Nat} {xs : List Int} (ht : isTree xs = true) (hf : xs.length ≤ f + 1) {d : Nat} (hd : xs[0]? = some (d : Int)) : ∀ k, k ≤ d → (textK f xs k).size + 1 = 2 * kidAt xs 0 k := by
  intro k
  induction k with
  | zero => intro _; rw [textK_zero, open_size]; simp [kidAt]
  | succ k ihk =>
    intro hk
    have h1 := sub_short ht hd (i := k) (by omega)
    have h2 := kid_lt ht hd (i := k) (by omega)
    rw [textK_succ, ByteArray.size_append, textL_size f _ (sub_tree ht h2) (by omega), sub_length]
    have := ihk (by omega)
    simp only [kidAt]
    omega
end Go.Proofs.Ytdgcjkgbglofbaa.M

/- Trees come back from their texts: the mathematics. No program is named here. -/
namespace Go.Proofs.Ytdgcjkgbglofbaa.M
def bytes (s : ByteArray) : List Int := s.data.toList.map fun b => (b.toNat : Int)
theorem bytes_append (a b : ByteArray) : bytes (a ++ b) = bytes a ++ bytes b := by simp [bytes]
theorem bytes_open : bytes (ByteArray.mk #[40]) = [40] := by decide
theorem bytes_close : bytes (ByteArray.mk #[41]) = [41] := by decide
theorem bytes_length (s : ByteArray) : (bytes s).length = s.size := by simp [bytes]
theorem prun_cons {ds st ds' st' r : List Int} {c : Int} (hs : pstep ds st c = some (ds', st')) : prun ds st (c :: r) = prun ds' st' r := by rw [prun, hs]
/-- what the text of a tree does to a state with an open node p, and to the beginning -/
def ReadAt (T : ByteArray) (xs : List Int) : Prop :=
  ∀ (rest : List Int), (∀ (ds st : List Int) (p : Nat) (x : Int), ds[p]? = some x → prun ds (st ++ [(p : Int)]) (bytes T ++ rest) = prun (ds.set p (x + 1) ++ xs) (st ++ [(p : Int)]) rest) ∧ prun [] [] (bytes T ++ rest) = prun xs [] rest
theorem read_inner {f : Nat} {xs : List Int} {d : Nat} (ht : isTree xs = true) (hd : xs[0]? = some (d : Int)) (ih : ∀ k, k < d → ReadAt (textL f (sub xs (kidAt xs 0 k))) (sub xs (kidAt xs 0 k))) (dn st : List Int) :
    ∀ k, k ≤ d → ∃ B, bytes (textK f xs k) = 40 :: B ∧ ∀ rest, prun (dn ++ [0]) (st ++ [(dn.length : Int)]) (B ++ rest) = prun (dn ++ ((k : Int) :: (xs.drop 1).take (kidAt xs 0 k - 1))) (st ++ [(dn.length : Int)]) rest := by
  intro k
  induction k with
  | zero =>
    intro _
    exact ⟨[], by rw [textK_zero, bytes_open], fun rest => by simp [kidAt]⟩
  | succ k ihk =>
    intro hk
    obtain ⟨B, h1, h2⟩ := ihk (by omega)
    refine ⟨B ++ bytes (textL f (sub xs (kidAt xs 0 k))), by rw [textK_succ, bytes_append, h1]; rfl, fun rest => ?_⟩
    rw [List.append_assoc, h2]
    have h3 := (kid_due ht hd k (by omega)).2.2
    rw [((ih k (by omega)) rest).1 _ st dn.length k (by simp)]
    congr 1
    have e : (xs.drop 1).take (kidAt xs 0 (k + 1) - 1) = (xs.drop 1).take (kidAt xs 0 k - 1) ++ sub xs (kidAt xs 0 k) := by
      rw [kidAt, show kidAt xs 0 k + span 1 (xs.drop (kidAt xs 0 k)) - 1 = (kidAt xs 0 k - 1) + span 1 (xs.drop (kidAt xs 0 k)) by omega, List.take_add, List.drop_drop, show 1 + (kidAt xs 0 k - 1) = kidAt xs 0 k by omega]
      rfl
    rw [e]
    simp
theorem text_read : ∀ (f : Nat) (xs : List Int), isTree xs = true → xs.length ≤ f → ReadAt (textL f xs) xs := by
  intro f
  induction f with
  | zero => intro xs ht h; have := (tree_len ht).1; omega
  | succ f ih =>
    intro xs ht hf rest
    have hl := tree_len ht
    obtain ⟨d, hd, _⟩ := tree_degN ht (v := 0) (by omega)
    have hin := fun dn st => read_inner (f := f) ht hd (fun k hk => ih _ (sub_tree ht (kid_lt ht hd (i := k) (by omega))) (by have := sub_short ht hd hk; omega)) dn st d (Nat.le_refl _)
    have hxs : (d : Int) :: (xs.drop 1).take (kidAt xs 0 d - 1) = xs := by
      rw [kids_all ht hd, List.take_of_length_le (by simp)]
      exact (drop_at hd).symm
    have hb : ∀ B, bytes (textK f xs d) = 40 :: B → bytes (textL (f + 1) xs) ++ rest = 40 :: (B ++ (41 :: rest)) := fun B hB => by
      rw [textL_at hd, bytes_append, hB, bytes_close]; simp
    refine ⟨fun ds st p x hx => ?_, ?_⟩
    · obtain ⟨B, h1, h2⟩ := hin (ds.set p (x + 1)) (st ++ [(p : Int)])
      have hs := pstep_open (ds := ds) (st := st ++ [(p : Int)]) (p := (p : Int)) (d := x) (by simp) (by simpa using hx)
      rw [Int.toNat_natCast] at hs
      rw [hb B h1, prun_cons hs, show (ds.length : Int) = ((ds.set p (x + 1)).length : Int) by simp, h2, hxs, prun_cons (pstep_close (by simp))]
      simp
    · obtain ⟨B, h1, h2⟩ := hin [] []
      have h3 := h2 (41 :: rest)
      simp only [List.nil_append, List.length_nil] at h3
      rw [hb B h1, prun_cons pstep_first]
      rw [show ((0 : Nat) : Int) = 0 from rfl] at h3
      rw [h3, hxs, prun_cons (pstep_close (by simp))]
      rfl
theorem text_back {f : Nat} {xs : List Int} (ht : isTree xs = true) (hf : xs.length ≤ f) : prun [] [] (bytes (textL f xs)) = some (xs, []) := by
  have := (text_read f xs ht hf []).2
  simpa [prun] using this
theorem text_parse {f : Nat} {xs : List Int} (ht : isTree xs = true) (hf : xs.length ≤ f) : parse (bytes (textL f xs)) = (xs, 0) := by
  have h1 := textL_size f xs ht hf
  have h2 := tree_len ht
  refine parse_done (by rw [bytes_length]; omega) (text_back ht hf) (fun e => ?_)
  subst e
  simp at h2
theorem text_inj {f g : Nat} {xs ys : List Int} (ht : isTree xs = true) (hf : xs.length ≤ f) (hu : isTree ys = true) (hg : ys.length ≤ g) (h : textL f xs = textL g ys) : xs = ys := by
  have h1 := text_back ht hf
  rw [h, text_back hu hg] at h1
  injection h1 with h1
  injection h1 with h1
  exact h1.symm
end Go.Proofs.Ytdgcjkgbglofbaa.M

/- Mirrored trees: the mathematics. No program is named here. -/
namespace Go.Proofs.Ytdgcjkgbglofbaa.M
/-- the mirrored tree, f levels deep at most -/
def mirL : Nat → List Int → List Int
  | 0, _ => []
  | f + 1, xs => (xs[0]?.getD 0) :: (List.range (xs[0]?.getD 0).toNat).flatMap fun j => mirL f (sub xs (kidAt xs 0 ((xs[0]?.getD 0).toNat - 1 - j)))
/-- what has come when k children, from the last one on, have been taken -/
def mirK (f : Nat) (xs : List Int) (d k : Nat) : List Int := (d : Int) :: (List.range k).flatMap fun j => mirL f (sub xs (kidAt xs 0 (d - 1 - j)))
theorem mirK_zero (f : Nat) (xs : List Int) (d : Nat) : mirK f xs d 0 = [(d : Int)] := rfl
theorem mirK_succ (f : Nat) (xs : List Int) (d k : Nat) : mirK f xs d (k + 1) = mirK f xs d k ++ mirL f (sub xs (kidAt xs 0 (d - 1 - k))) := by simp [mirK, List.range_succ]
theorem mirL_at {f : Nat} {xs : List Int} {d : Nat} (h : xs[0]? = some (d : Int)) : mirL (f + 1) xs = mirK f xs d d := by rw [mirL, h]; rfl
theorem mirK_len {f : Nat} {xs : List Int} (ih : ∀ ys, isTree ys = true → ys.length ≤ f → (mirL f ys).length = ys.length) (ht : isTree xs = true) (hf : xs.length ≤ f + 1) {d : Nat} (hd : xs[0]? = some (d : Int)) : ∀ k, k ≤ d → (mirK f xs d k).length + kidAt xs 0 (d - k) = xs.length + 1 := by
  intro k
  induction k with
  | zero => intro _; rw [mirK_zero, Nat.sub_zero, kids_all ht hd]; simp; omega
  | succ k ihk =>
    intro hk
    have h1 := sub_short ht hd (i := d - 1 - k) (by omega)
    have h2 := kid_lt ht hd (i := d - 1 - k) (by omega)
    have h3 := ihk (by omega)
    rw [mirK_succ, List.length_append, ih _ (sub_tree ht h2) (by omega), sub_length]
    have e : kidAt xs 0 (d - k) = kidAt xs 0 (d - 1 - k) + span 1 (xs.drop (kidAt xs 0 (d - 1 - k))) := by
      rw [show d - k = (d - 1 - k) + 1 by omega, kidAt]
    rw [show d - (k + 1) = d - 1 - k by omega]
    omega
theorem mirL_len : ∀ (f : Nat) (xs : List Int), isTree xs = true → xs.length ≤ f → (mirL f xs).length = xs.length := by
  intro f
  induction f with
  | zero => intro xs ht h; have := (tree_len ht).1; omega
  | succ f ih =>
    intro xs ht hf
    have hl := tree_len ht
    obtain ⟨d, hd, _⟩ := tree_degN ht (v := 0) (by omega)
    have := mirK_len ih ht hf hd d (Nat.le_refl _)
    rw [Nat.sub_self, kidAt] at this
    rw [mirL_at hd]
    omega
theorem mirK_le {f : Nat} {xs : List Int} (ht : isTree xs = true) (hf : xs.length ≤ f + 1) {d : Nat} (hd : xs[0]? = some (d : Int)) {k : Nat} (hk : k ≤ d) : (mirK f xs d k).length ≤ 24 := by
  have h1 := mirK_len (fun ys => mirL_len f ys) ht hf hd k hk
  have h2 := tree_len ht
  have h3 : 1 ≤ kidAt xs 0 (d - k) := (kid_due ht hd (d - k) (by omega)).2.2
  omega
/-- more levels than nodes change nothing -/
theorem mirL_fuel : ∀ (f g : Nat) (xs : List Int), isTree xs = true → xs.length ≤ f → xs.length ≤ g → mirL f xs = mirL g xs := by
  intro f
  induction f with
  | zero => intro g xs ht h _; have := (tree_len ht).1; omega
  | succ f ih =>
    intro g xs ht hf hg
    have hl := tree_len ht
    obtain ⟨d, hd, _⟩ := tree_degN ht (v := 0) (by omega)
    obtain ⟨g, rfl⟩ : ∃ g', g = g' + 1 := ⟨g - 1, by omega⟩
    have hK : ∀ k, k ≤ d → mirK f xs d k = mirK g xs d k := by
      intro k
      induction k with
      | zero => intro _; rfl
      | succ k ihk =>
        intro hk
        have h1 := sub_short ht hd (i := d - 1 - k) (by omega)
        have h2 := kid_lt ht hd (i := d - 1 - k) (by omega)
        rw [mirK_succ, mirK_succ, ihk (by omega), ih g _ (sub_tree ht h2) (by omega) (by omega)]
    rw [mirL_at hd, mirL_at hd, hK d (Nat.le_refl _)]
theorem mirL_all {xs : List Int} (ht : isTree xs = true) {d : Nat} (hd : xs[0]? = some (d : Int)) : mirL 24 xs = mirK 24 xs d d := by
  rw [← mirL_at hd]
  exact mirL_fuel 24 25 xs ht (tree_len ht).2 (by have := (tree_len ht).2; omega)
end Go.Proofs.Ytdgcjkgbglofbaa.M

/- What a list grows, by the model's walk: degrees and labels in preorder. Mathematics. -/
namespace Go.Proofs.Ytdgcjkgbglofbaa
namespace M
theorem flat_congr {α β : Type} {f g : α → List β} : ∀ {l : List α}, (∀ i ∈ l, f i = g i) → l.flatMap f = l.flatMap g
  | [], _ => rfl
  | a :: l, h => by rw [List.flatMap_cons, List.flatMap_cons, h a (List.mem_cons_self ..), flat_congr fun i hi => h i (List.mem_cons_of_mem _ hi)]
theorem filter_congr9 {α β : Type} {f g : α → Option β} : ∀ {l : List α}, (∀ i ∈ l, f i = g i) → l.filterMap f = l.filterMap g
  | [], _ => rfl
  | a :: l, h => by rw [List.filterMap_cons, List.filterMap_cons, h a (List.mem_cons_self ..), filter_congr9 fun i hi => h i (List.mem_cons_of_mem _ hi)]
/-- the labels that a list puts right below label j -/
def kidsOf (l : List Int) (j : Nat) : List Nat := (List.range l.length).filterMap fun i => if l[i]? = some (j : Int) then some (i + 1) else none
/-- degrees and labels of what a list grows from label j on -/
def walkF (l : List Int) : Nat → Nat → List Int × List Int
  | 0, j => ([0], [(j : Int)])
  | f + 1, j => (((kidsOf l j).length : Int) :: (kidsOf l j).flatMap fun i => (walkF l f i).1, (j : Int) :: (kidsOf l j).flatMap fun i => (walkF l f i).2)
theorem mem_kids {l : List Int} {j i : Nat} : i ∈ kidsOf l j ↔ ∃ k, i = k + 1 ∧ l[k]? = some (j : Int) := by
  rw [kidsOf, List.mem_filterMap]
  constructor
  · rintro ⟨k, _, h⟩
    split at h
    · injection h with h; exact ⟨k, h.symm, by assumption⟩
    · cases h
  · rintro ⟨k, rfl, h⟩
    exact ⟨k, List.mem_range.2 (List.getElem?_eq_some_iff.1 h).1, by rw [if_pos h]⟩
/-- a list that grows a tree: each number is at most its place -/
def Grows (l : List Int) : Prop := ∀ (k : Nat) (x : Int), l[k]? = some x → 0 ≤ x ∧ x ≤ (k : Int)
theorem kids_above {l : List Int} (h : Grows l) {j i : Nat} (hi : i ∈ kidsOf l j) : j < i ∧ i ≤ l.length := by
  obtain ⟨k, rfl, hk⟩ := mem_kids.1 hi
  have := (h k _ hk).2
  have := (List.getElem?_eq_some_iff.1 hk).1
  omega
theorem kids_snoc (l : List Int) (x : Int) (j : Nat) : kidsOf (l ++ [x]) j = kidsOf l j ++ (if x = (j : Int) then [l.length + 1] else []) := by
  rw [kidsOf, List.length_append, List.length_singleton, List.range_succ, List.filterMap_append]
  congr 1
  · rw [kidsOf]
    refine filter_congr9 fun i hi => ?_
    rw [List.getElem?_append_left (List.mem_range.1 hi)]
  · rw [List.filterMap_cons, List.getElem?_append_right (Nat.le_refl _), Nat.sub_self]
    by_cases hx : x = (j : Int)
    · simp [hx]
    · simp [hx]
theorem kids_end {l : List Int} (h : Grows l) : kidsOf l l.length = [] :=
  List.eq_nil_iff_forall_not_mem.2 fun i hi => by have := kids_above h hi; omega
theorem walk_fuel {l : List Int} (h : Grows l) : ∀ (f g j : Nat), j ≤ l.length → l.length ≤ j + f → l.length ≤ j + g → walkF l f j = walkF l g j := by
  intro f
  induction f with
  | zero =>
    intro g j hj h1 _
    obtain rfl : j = l.length := by omega
    cases g with
    | zero => rfl
    | succ g => rw [walkF, walkF, kids_end h]; rfl
  | succ f ih =>
    intro g j hj h1 h2
    cases g with
    | zero =>
      obtain rfl : j = l.length := by omega
      rw [walkF, walkF, kids_end h]; rfl
    | succ g =>
      have he : ∀ i ∈ kidsOf l j, walkF l f i = walkF l g i := fun i hi => by
        have := kids_above h hi
        exact ih g i this.2 (by omega) (by omega)
      rw [walkF, walkF]
      congr 1
      · exact congrArg _ (flat_congr fun i hi => by rw [he i hi])
      · exact congrArg _ (flat_congr fun i hi => by rw [he i hi])
/-- what a list grows from label j on -/
def W (l : List Int) (j : Nat) : List Int × List Int := walkF l (l.length - j) j
theorem W_eq {l : List Int} (h : Grows l) {j : Nat} (hj : j ≤ l.length) : W l j = (((kidsOf l j).length : Int) :: (kidsOf l j).flatMap fun i => (W l i).1, (j : Int) :: (kidsOf l j).flatMap fun i => (W l i).2) := by
  by_cases e : j = l.length
  · subst e
    rw [W, Nat.sub_self, walkF, kids_end h]; rfl
  · obtain ⟨f, hf⟩ : ∃ f, l.length - j = f + 1 := ⟨l.length - j - 1, by omega⟩
    have he : ∀ i ∈ kidsOf l j, walkF l f i = W l i := fun i hi => by
      have := kids_above h hi
      exact walk_fuel h f (l.length - i) i this.2 (by omega) (by omega)
    rw [W, hf, walkF]
    congr 1
    · exact congrArg _ (flat_congr fun i hi => by rw [he i hi])
    · exact congrArg _ (flat_congr fun i hi => by rw [he i hi])
theorem W_induct {P : Nat → Prop} {n : Nat} (h : ∀ j, j ≤ n → (∀ i, j < i → i ≤ n → P i) → P j) : ∀ j, j ≤ n → P j := by
  have : ∀ d j, j ≤ n → n ≤ j + d → P j := by
    intro d
    induction d with
    | zero => intro j hj hd; exact h j hj fun i h1 h2 => by omega
    | succ d ih => intro j hj hd; exact h j hj fun i h1 h2 => ih i h2 (by omega)
  exact fun j hj => this n j hj (by omega)
theorem mem_W {l : List Int} (h : Grows l) {j : Nat} (hj : j ≤ l.length) {q : Int} : q ∈ (W l j).2 ↔ q = j ∨ ∃ i ∈ kidsOf l j, q ∈ (W l i).2 := by
  rw [W_eq h hj, List.mem_cons, List.mem_flatMap]
/-- labels are at least the root's -/
theorem W_ge {l : List Int} (h : Grows l) : ∀ j, j ≤ l.length → ∀ q ∈ (W l j).2, (j : Int) ≤ q ∧ q ≤ l.length := by
  refine W_induct fun j hj ih q hq => ?_
  rcases (mem_W h hj).1 hq with rfl | ⟨i, hi, hq⟩
  · omega
  · have := kids_above h hi
    have := ih i this.1 this.2 q hq
    omega
/-- what is below one is below what is above it -/
theorem W_up {l : List Int} (h : Grows l) : ∀ j, j ≤ l.length → ∀ q : Nat, (q : Int) ∈ (W l j).2 → q = j ∨ ∃ m : Nat, q ∈ kidsOf l m ∧ (m : Int) ∈ (W l j).2 := by
  refine W_induct fun j hj ih q hq => ?_
  rcases (mem_W h hj).1 hq with e | ⟨i, hi, hq⟩
  · exact .inl (by omega)
  · have hk := kids_above h hi
    rcases ih i hk.1 hk.2 q hq with e | ⟨m, h1, h2⟩
    · subst e
      exact .inr ⟨j, hi, (mem_W h hj).2 (.inl rfl)⟩
    · exact .inr ⟨m, h1, (mem_W h hj).2 (.inr ⟨i, hi, h2⟩)⟩
theorem kids_one {l : List Int} {m m' q : Nat} (h : q ∈ kidsOf l m) (h' : q ∈ kidsOf l m') : m = m' := by
  obtain ⟨k, rfl, hk⟩ := mem_kids.1 h
  obtain ⟨k', e, hk'⟩ := mem_kids.1 h'
  obtain rfl : k = k' := by omega
  rw [hk] at hk'
  injection hk' with hk'
  omega
/-- the children's labels are apart -/
theorem W_apart {l : List Int} (h : Grows l) {j i i' : Nat} (hi : i ∈ kidsOf l j) (hi' : i' ∈ kidsOf l j) : ∀ q : Nat, (q : Int) ∈ (W l i).2 → (q : Int) ∈ (W l i').2 → i = i' := by
  intro q
  induction q using Nat.strongRecOn with
  | _ q ih =>
    intro h1 h2
    have k1 := kids_above h hi
    have k2 := kids_above h hi'
    rcases W_up h i k1.2 q h1 with e | ⟨m, a1, a2⟩
    · rcases W_up h i' k2.2 q h2 with e' | ⟨m, b1, b2⟩
      · omega
      · subst e
        obtain rfl := kids_one hi b1
        have := (W_ge h i' k2.2 _ b2).1
        omega
    · rcases W_up h i' k2.2 q h2 with e' | ⟨m', b1, b2⟩
      · subst e'
        obtain rfl := kids_one hi' a1
        have := (W_ge h i k1.2 _ a2).1
        omega
      · obtain rfl := kids_one a1 b1
        exact ih m (kids_above h a1).1 a2 b2
theorem kids_lt (l : List Int) (j : Nat) : (kidsOf l j).Pairwise (· < ·) := by
  rw [kidsOf, List.pairwise_filterMap]
  refine List.pairwise_lt_range.imp fun {a a'} h b hb b' hb' => ?_
  split at hb
  · split at hb'
    · injection hb with hb
      injection hb' with hb'
      omega
    · cases hb'
  · cases hb
theorem grows_snoc {l : List Int} (h : Grows l) {p : Nat} (hp : p ≤ l.length) : Grows (l ++ [(p : Int)]) := fun k x hx => by
  rcases Nat.lt_or_ge k l.length with hk | hk
  · rw [List.getElem?_append_left hk] at hx; exact h k x hx
  · rw [List.getElem?_append_right hk] at hx
    have := (List.getElem?_eq_some_iff.1 hx).1
    simp at this
    rw [show k - l.length = 0 by omega] at hx
    injection hx with hx
    omega
theorem flat_lenW {α : Type} {f g : α → List Int} : ∀ {l : List α}, (∀ i ∈ l, (f i).length = (g i).length) → (l.flatMap f).length = (l.flatMap g).length
  | [], _ => rfl
  | a :: l, h => by rw [List.flatMap_cons, List.flatMap_cons, List.length_append, List.length_append, h a (List.mem_cons_self ..), flat_lenW fun i hi => h i (List.mem_cons_of_mem _ hi)]
theorem W_len {l : List Int} (h : Grows l) : ∀ j, j ≤ l.length → (W l j).1.length = (W l j).2.length := by
  refine W_induct fun j hj ih => ?_
  rw [W_eq h hj]
  show _ + 1 = _ + 1
  rw [flat_lenW fun i hi => ih i (kids_above h hi).1 (kids_above h hi).2]
def bump : List Int → List Int
  | [] => []
  | d :: r => (d + 1) :: r
theorem bump_app {x : List Int} (h : x ≠ []) (y : List Int) : bump (x ++ y) = bump x ++ y := by
  cases x with
  | nil => exact absurd rfl h
  | cons a x => rfl
theorem W_new {l : List Int} (h : Grows l) {p : Nat} (hp : p ≤ l.length) : W (l ++ [(p : Int)]) (l.length + 1) = ([0], [((l.length + 1 : Nat) : Int)]) := by
  have hl : (l ++ [(p : Int)]).length = l.length + 1 := by simp
  have h' := grows_snoc h hp
  have := kids_end h'
  rw [hl] at this
  rw [W_eq h' (by rw [hl]; exact Nat.le_refl _), this]; rfl
/-- one number more: one child more, the last one, below the label that is told -/
theorem W_step {l : List Int} (h : Grows l) {p : Nat} (hp : p ≤ l.length) : ∀ j, j ≤ l.length →
    ((p : Int) ∉ (W l j).2 → W (l ++ [(p : Int)]) j = W l j) ∧
    ((p : Int) ∈ (W l j).2 → ∃ a b c d, (W l j).2 = a ++ (W l p).2 ++ b ∧ (W l j).1 = c ++ (W l p).1 ++ d ∧ c.length = a.length ∧
      (W (l ++ [(p : Int)]) j).2 = a ++ (W l p).2 ++ [((l.length + 1 : Nat) : Int)] ++ b ∧ (W (l ++ [(p : Int)]) j).1 = c ++ bump (W l p).1 ++ [0] ++ d) := by
  have h' := grows_snoc h hp
  have hl : (l ++ [(p : Int)]).length = l.length + 1 := by simp
  refine W_induct fun j hj ih => ?_
  have e' := W_eq h' (j := j) (by rw [hl]; omega)
  have e := W_eq h hj
  rw [kids_snoc] at e'
  by_cases hpj : p = j
  · subst hpj
    refine ⟨fun hn => absurd ((mem_W h hj).2 (.inl rfl)) hn, fun _ => ⟨[], [], [], [], by simp, by simp, rfl, ?_, ?_⟩⟩
    all_goals
      have hs : ∀ i ∈ kidsOf l p, W (l ++ [(p : Int)]) i = W l i := fun i hi => by
        have hk := kids_above h hi
        refine (ih i hk.1 hk.2).1 fun hm => ?_
        have := (W_ge h i hk.2 _ hm).1
        omega
      rw [e', e, if_pos rfl, List.flatMap_append, List.flatMap_append]
      simp only [List.flatMap_singleton, W_new h hp]
    · rw [flat_congr fun i hi => by rw [hs i hi]]; simp
    · rw [flat_congr fun i hi => by rw [hs i hi]]; simp [bump]
  · rw [if_neg (fun e => hpj (by omega)), List.append_nil] at e'
    constructor
    · intro hn
      have hs : ∀ i ∈ kidsOf l j, W (l ++ [(p : Int)]) i = W l i := fun i hi => by
        have hk := kids_above h hi
        exact (ih i hk.1 hk.2).1 fun hm => hn ((mem_W h hj).2 (.inr ⟨i, hi, hm⟩))
      rw [e', e, flat_congr fun i hi => by rw [hs i hi], flat_congr (f := fun i => (W (l ++ [(p : Int)]) i).2) fun i hi => by rw [hs i hi]]
    · intro hm
      rcases (mem_W h hj).1 hm with e0 | ⟨i, hi, hmi⟩
      · exact absurd (by omega) hpj
      · have hk := kids_above h hi
        obtain ⟨a, b, c, d, h1, h2, h3, h4, h5⟩ := (ih i hk.1 hk.2).2 hmi
        obtain ⟨s, t, hst⟩ := List.append_of_mem hi
        have hlt := kids_lt l j
        rw [hst] at hlt
        have hne : ∀ i' ∈ s ++ t, i' ≠ i := fun i' hi' => by
          rw [List.pairwise_append] at hlt
          obtain ⟨_, h2, h3⟩ := hlt
          rw [List.pairwise_cons] at h2
          rcases List.mem_append.1 hi' with hs | ht
          · have := h3 i' hs i (List.mem_cons_self ..); omega
          · have := h2.1 i' ht; omega
        have hs : ∀ i' ∈ s ++ t, W (l ++ [(p : Int)]) i' = W l i' := fun i' hi' => by
          have hin : i' ∈ kidsOf l j := by
            rw [hst]
            rcases List.mem_append.1 hi' with hs | ht
            · exact List.mem_append_left _ hs
            · exact List.mem_append_right _ (List.mem_cons_of_mem _ ht)
          have hk' := kids_above h hin
          exact (ih i' hk'.1 hk'.2).1 fun hm' => hne i' hi' (W_apart h hin hi p hm' hmi)
        have hs1 : ∀ f : List Int × List Int → List Int, (s.flatMap fun i => f (W (l ++ [(p : Int)]) i)) = s.flatMap fun i => f (W l i) := fun f => flat_congr fun i hi => by rw [hs i (List.mem_append_left _ hi)]
        have hs2 : ∀ f : List Int × List Int → List Int, (t.flatMap fun i => f (W (l ++ [(p : Int)]) i)) = t.flatMap fun i => f (W l i) := fun f => flat_congr fun i hi => by rw [hs i (List.mem_append_right _ hi)]
        refine ⟨(j : Int) :: (s.flatMap fun i => (W l i).2) ++ a, b ++ (t.flatMap fun i => (W l i).2), ((kidsOf l j).length : Int) :: (s.flatMap fun i => (W l i).1) ++ c, d ++ (t.flatMap fun i => (W l i).1), ?_, ?_, ?_, ?_, ?_⟩
        · rw [e]
          show (j : Int) :: ((kidsOf l j).flatMap fun i => (W l i).2) = _
          rw [hst, List.flatMap_append, List.flatMap_cons, h1]; simp
        · rw [e]
          show ((kidsOf l j).length : Int) :: ((kidsOf l j).flatMap fun i => (W l i).1) = _
          rw [hst, List.flatMap_append, List.flatMap_cons, h2]; simp
        · have : (s.flatMap fun i => (W l i).1).length = (s.flatMap fun i => (W l i).2).length := flat_lenW fun i' hi' => by
            have hk' := kids_above h (show i' ∈ kidsOf l j by rw [hst]; exact List.mem_append_left _ hi')
            exact W_len h i' hk'.2
          simp only [List.cons_append, List.length_cons, List.length_append, this, h3]
        · rw [e']
          show (j : Int) :: ((kidsOf l j).flatMap fun i => (W (l ++ [(p : Int)]) i).2) = _
          rw [hst, List.flatMap_append, List.flatMap_cons, h4, hs1 (·.2), hs2 (·.2)]; simp
        · rw [e']
          show ((kidsOf l j).length : Int) :: ((kidsOf l j).flatMap fun i => (W (l ++ [(p : Int)]) i).1) = _
          rw [hst, List.flatMap_append, List.flatMap_cons, h5, hs1 (·.1), hs2 (·.1)]; simp
theorem W_self {l : List Int} (h : Grows l) {j : Nat} (hj : j ≤ l.length) : (j : Int) ∈ (W l j).2 := (mem_W h hj).2 (.inl rfl)
theorem W_down {l : List Int} (h : Grows l) {m q : Nat} (hq : q ∈ kidsOf l m) : ∀ j, j ≤ l.length → (m : Int) ∈ (W l j).2 → (q : Int) ∈ (W l j).2 := by
  refine W_induct fun j hj ih hm => ?_
  rcases (mem_W h hj).1 hm with e | ⟨i, hi, hm⟩
  · obtain rfl : m = j := by omega
    exact (mem_W h hj).2 (.inr ⟨q, hq, W_self h (kids_above h hq).2⟩)
  · have hk := kids_above h hi
    exact (mem_W h hj).2 (.inr ⟨i, hi, ih i hk.1 hk.2 hm⟩)
/-- all labels come -/
theorem W_all {l : List Int} (h : Grows l) (q : Nat) : q ≤ l.length → (q : Int) ∈ (W l 0).2 := by
  induction q using Nat.strongRecOn with
  | _ q ih =>
    intro hq
    cases q with
    | zero => exact W_self h (Nat.zero_le _)
    | succ k =>
      have hx := List.getElem?_eq_getElem (l := l) (show k < l.length by omega)
      have hg := h k _ hx
      obtain ⟨m, hm⟩ := Int.eq_ofNat_of_zero_le hg.1
      rw [hm] at hx hg
      exact W_down h (mem_kids.2 ⟨k, rfl, hx⟩) 0 (Nat.zero_le _) (ih m (by omega) (by omega))
/-- each label comes once -/
theorem W_nodup {l : List Int} (h : Grows l) : ∀ j, j ≤ l.length → (W l j).2.Nodup := by
  refine W_induct fun j hj ih => ?_
  rw [W_eq h hj]
  show ((j : Int) :: _).Nodup
  rw [List.nodup_cons]
  constructor
  · intro hm
    obtain ⟨i, hi, hm⟩ := List.mem_flatMap.1 hm
    have hk := kids_above h hi
    have := (W_ge h i hk.2 _ hm).1
    omega
  · refine List.pairwise_flatMap.2 ⟨fun i hi => ih i (kids_above h hi).1 (kids_above h hi).2, ?_⟩
    refine (List.Pairwise.and_mem.1 (kids_lt l j)).imp fun {a b} ⟨ha, hb, hab⟩ x hx y hy e => ?_
    subst e
    have hka := kids_above h ha
    obtain ⟨q, rfl⟩ := Int.eq_ofNat_of_zero_le (show 0 ≤ x by have := (W_ge h a hka.2 _ hx).1; omega)
    have := W_apart h ha hb q hx hy
    omega
/-- where an element stands behind one that is put in -/
theorem idx_ins {u v : List Int} {x z : Int} (hz : x ≠ z) : (u ++ [z] ++ v).idxOf x = if u.length ≤ (u ++ v).idxOf x then (u ++ v).idxOf x + 1 else (u ++ v).idxOf x := by
  have e1 : (u ++ v).idxOf x = if x ∈ u then u.idxOf x else v.idxOf x + u.length := List.idxOf_append
  have e2 : (u ++ ([z] ++ v)).idxOf x = if x ∈ u then u.idxOf x else ([z] ++ v).idxOf x + u.length := List.idxOf_append
  rw [List.append_assoc, e1, e2]
  by_cases h : x ∈ u
  · have := List.idxOf_lt_length_of_mem h
    rw [if_pos h, if_pos h, if_neg (by omega)]
  · have hzx : (z == x) = false := beq_eq_false_iff_ne.2 (Ne.symm hz)
    rw [if_neg h, if_neg h, if_pos (by omega), List.singleton_append, List.idxOf_cons, hzx]
    simp only [cond_false]
    omega
end M
end Go.Proofs.Ytdgcjkgbglofbaa

/- What a list grows is a tree, and what grows from a label is the part below its node. Mathematics. -/
namespace Go.Proofs.Ytdgcjkgbglofbaa
namespace M
theorem go_app : ∀ (t : List Int) (o o' : Int) (r : List Int), 0 ≤ o → 0 ≤ o' → isGo o t = true → isGo (o + o') (t ++ r) = isGo o' r := by
  intro t
  induction t with
  | nil =>
    intro o o' r _ _ h
    simp [isGo] at h
    subst h
    rw [Int.zero_add]; rfl
  | cons d t ih =>
    intro o o' r ho ho' h
    have hp := isGo_pos _ _ h ho (by simp)
    simp only [isGo] at h
    split at h
    · cases h
    · rename_i hc
      simp at hc
      rw [List.cons_append, isGo, if_neg (by simp [hc.2.1, hc.2.2]; omega), show o + o' - 1 + d = (o - 1 + d) + o' by omega]
      exact ih _ _ _ (by omega) ho' h
theorem go_flat {f : Nat → List Int} : ∀ {ks : List Nat}, (∀ i ∈ ks, isGo 1 (f i) = true) → isGo (ks.length : Int) (ks.flatMap f) = true
  | [], _ => rfl
  | a :: ks, h => by
    rw [List.flatMap_cons, List.length_cons, show ((ks.length + 1 : Nat) : Int) = 1 + (ks.length : Int) by omega, go_app _ 1 _ _ (by omega) (by omega) (h a (List.mem_cons_self ..))]
    exact go_flat fun i hi => h i (List.mem_cons_of_mem _ hi)
theorem span_app : ∀ (t : List Int) (o : Int) (d : List Int), 0 ≤ o → isGo o t = true → span o (t ++ d) = t.length := by
  intro t
  induction t with
  | nil =>
    intro o d _ h
    simp [isGo] at h
    subst h
    exact span_stop (Int.le_refl _) _
  | cons x t ih =>
    intro o d ho h
    have hp := isGo_pos _ _ h ho (by simp)
    simp only [isGo] at h
    split at h
    · cases h
    · rename_i hc
      simp at hc
      rw [List.cons_append, span, if_neg (by omega), ih _ _ (by omega) h]; rfl
theorem kids_few (l : List Int) (j : Nat) : (kidsOf l j).length ≤ l.length := by
  rw [kidsOf]
  have := List.length_filterMap_le (fun i => if l[i]? = some (j : Int) then some (i + 1) else none) (List.range l.length)
  simpa using this
theorem W_go {l : List Int} (h : Grows l) (hl : l.length ≤ 24) : ∀ j, j ≤ l.length → isGo 1 (W l j).1 = true := by
  refine W_induct fun j hj ih => ?_
  rw [W_eq h hj]
  have := kids_few l j
  show isGo 1 (((kidsOf l j).length : Int) :: _) = true
  rw [isGo, if_neg (by simp; omega), show (1 : Int) - 1 + ((kidsOf l j).length : Int) = ((kidsOf l j).length : Int) by omega]
  exact go_flat fun i hi => ih i (kids_above h hi).1 (kids_above h hi).2
theorem perm_len : ∀ (n : Nat) (zs : List Int), zs.Nodup → (∀ x : Int, x ∈ zs ↔ 0 ≤ x ∧ x < (n : Int)) → zs.length = n := by
  intro n
  induction n with
  | zero =>
    intro zs _ h
    cases zs with
    | nil => rfl
    | cons a zs => have := (h a).1 (List.mem_cons_self ..); omega
  | succ n ih =>
    intro zs hd h
    have hm : (n : Int) ∈ zs := (h n).2 ⟨by omega, by omega⟩
    have h1 := List.length_erase_of_mem hm
    have h2 := ih (zs.erase n) (hd.erase _) (fun x => by
      rw [hd.mem_erase_iff, h x]
      constructor
      · rintro ⟨a, b⟩; omega
      · rintro ⟨a, b⟩; exact ⟨by omega, by omega⟩)
    have := List.length_pos_of_mem hm
    omega
theorem W_count {l : List Int} (h : Grows l) : (W l 0).2.length = l.length + 1 :=
  perm_len _ _ (W_nodup h 0 (Nat.zero_le _)) fun x => by
    constructor
    · intro hx
      have := W_ge h 0 (Nat.zero_le _) x hx
      omega
    · rintro ⟨h0, h1⟩
      obtain ⟨q, rfl⟩ := Int.eq_ofNat_of_zero_le h0
      exact W_all h q (by omega)
theorem W_tree {l : List Int} (h : Grows l) (hl : l.length ≤ 23) : isTree (W l 0).1 = true := by
  have h1 := W_len h 0 (Nat.zero_le _)
  have h2 := W_count h
  simp only [isTree, Bool.and_eq_true, decide_eq_true_eq]
  exact ⟨⟨by omega, by omega⟩, W_go h (by omega) 0 (Nat.zero_le _)⟩
theorem grows_take {l : List Int} (h : Grows l) (k : Nat) : Grows (l.take k) := fun i x hx => by
  refine h i x ?_
  have hl := (List.getElem?_eq_some_iff.1 hx).1
  rw [List.length_take] at hl
  rwa [List.getElem?_take_of_lt (by omega)] at hx
/-- where a label stands -/
def pos (l : List Int) (j : Nat) : Nat := (W l 0).2.idxOf (j : Int)
theorem pos_lt {l : List Int} (h : Grows l) {j : Nat} (hj : j ≤ l.length) : pos l j < l.length + 1 := by
  rw [← W_count h]; exact List.idxOf_lt_length_of_mem (W_all h j hj)
/-- one number more, told by degrees and places -/
theorem W_put {l : List Int} (h : Grows l) (hl : l.length ≤ 23) {p : Nat} (hp : p ≤ l.length) :
    ∃ c x r d : List Int, ∃ t : Int, (W l 0).1 = c ++ (t :: r) ++ d ∧ c.length = pos l p ∧ span 1 ((W l 0).1.drop (pos l p)) = r.length + 1 ∧ (W l 0).1[pos l p]? = some t ∧
      (W (l ++ [(p : Int)]) 0).1 = c ++ ((t + 1) :: r) ++ [0] ++ d ∧ x = [] ∧
      pos (l ++ [(p : Int)]) (l.length + 1) = pos l p + (r.length + 1) ∧
      (∀ j, j ≤ l.length → pos (l ++ [(p : Int)]) j = if pos l p + (r.length + 1) ≤ pos l j then pos l j + 1 else pos l j) := by
  obtain ⟨a, b, c, d, h1, h2, h3, h4, h5⟩ := (W_step h hp 0 (Nat.zero_le _)).2 (W_all h p hp)
  have hn := W_nodup h 0 (Nat.zero_le _)
  have hgo := W_go h (by omega) p hp
  have hlen := W_len h p hp
  have hself : ∃ s, (W l p).2 = (p : Int) :: s := ⟨_, by rw [W_eq h hp]⟩
  obtain ⟨s, hs⟩ := hself
  obtain ⟨t, r, htr⟩ : ∃ t r, (W l p).1 = t :: r := ⟨_, _, by rw [W_eq h hp]⟩
  have hpos : pos l p = a.length := by
    rw [pos, h1, hs, List.append_assoc, List.idxOf_append, if_neg, List.cons_append, List.idxOf_cons_self, Nat.zero_add]
    intro hm
    rw [h1, hs, List.append_assoc, List.nodup_append] at hn
    exact hn.2.2 _ hm _ (by simp) rfl
  have hbump : bump (W l p).1 = (t + 1) :: r := by rw [htr]; rfl
  have hsl : (W l p).2.length = r.length + 1 := by rw [← hlen, htr]; rfl
  rw [htr] at h2 h5 hgo
  refine ⟨c, [], r, d, t, h2, by rw [hpos, h3], ?_, ?_, ?_, rfl, ?_, ?_⟩
  · rw [hpos, ← h3, h2, List.append_assoc, List.drop_left, span_app _ _ _ (by omega) hgo]; rfl
  · rw [hpos, ← h3, h2, List.append_assoc, List.getElem?_append_right (Nat.le_refl _), Nat.sub_self]; rfl
  · rw [h5]; rfl
  · rw [pos, h4, List.append_assoc, List.idxOf_append, if_neg, List.singleton_append, List.idxOf_cons_self, Nat.zero_add, List.length_append, hsl, hpos]
    intro hm
    have hm' : ((l.length + 1 : Nat) : Int) ∈ (W l 0).2 := by rw [h1]; exact List.mem_append_left _ hm
    have := W_ge h 0 (Nat.zero_le _) _ hm'
    omega
  · intro j hj
    have := idx_ins (u := a ++ (W l p).2) (v := b) (x := (j : Int)) (z := ((l.length + 1 : Nat) : Int)) (by omega)
    rw [pos, h4, this, List.length_append, hsl, ← h1, hpos]
    rfl
end M
end Go.Proofs.Ytdgcjkgbglofbaa

/- A tree that is mirrored twice is the tree. Mathematics. -/
namespace Go.Proofs.Ytdgcjkgbglofbaa
namespace M
theorem go_split : ∀ (l : List Int) (o k : Int), 0 ≤ o → 0 ≤ k → isGo (o + k) l = true → isGo o (l.take (span o l)) = true ∧ isGo k (l.drop (span o l)) = true := by
  intro l
  induction l with
  | nil =>
    intro o k ho hk h
    simp [isGo] at h
    simp only [span, List.take_nil, List.drop_nil, isGo]
    constructor <;> simp <;> omega
  | cons d r ih =>
    intro o k ho hk h
    rcases Int.lt_or_le 0 o with h0 | h0
    · simp only [isGo] at h
      split at h
      · cases h
      · rename_i hc
        simp at hc
        rw [show o + k - 1 + d = (o - 1 + d) + k by omega] at h
        have := ih (o - 1 + d) k (by omega) hk h
        rw [span, if_neg (by omega), List.take_succ_cons, List.drop_succ_cons]
        refine ⟨?_, this.2⟩
        rw [isGo, if_neg (by simp [hc.2.1, hc.2.2]; omega)]
        exact this.1
    · obtain rfl : o = 0 := by omega
      rw [span_stop (Int.le_refl _)]
      refine ⟨rfl, ?_⟩
      rw [Int.zero_add] at h
      exact h
theorem go_list : ∀ (k : Nat) (l : List Int), isGo (k : Int) l = true → ∃ ts : List (List Int), ts.length = k ∧ (∀ t ∈ ts, isGo 1 t = true) ∧ l = ts.flatten := by
  intro k
  induction k with
  | zero =>
    intro l h
    refine ⟨[], rfl, fun t ht => by simp at ht, ?_⟩
    cases l with
    | nil => rfl
    | cons d r => simp [isGo] at h
  | succ k ih =>
    intro l h
    rw [show ((k + 1 : Nat) : Int) = 1 + (k : Int) by omega] at h
    obtain ⟨h1, h2⟩ := go_split l 1 k (by omega) (by omega) h
    obtain ⟨ts, e1, e2, e3⟩ := ih _ h2
    refine ⟨l.take (span 1 l) :: ts, by simp [e1], fun t ht => ?_, ?_⟩
    · rcases List.mem_cons.1 ht with rfl | ht
      · exact h1
      · exact e2 t ht
    · rw [List.flatten_cons, ← e3, List.take_append_drop]
/-- a tree has trees below its root -/
theorem go_tree {xs : List Int} (h : isGo 1 xs = true) : ∃ ts : List (List Int), (∀ t ∈ ts, isGo 1 t = true) ∧ xs = (ts.length : Int) :: ts.flatten ∧ ts.length ≤ 24 := by
  cases xs with
  | nil => simp [isGo] at h
  | cons d r =>
    simp only [isGo] at h
    split at h
    · cases h
    · rename_i hc
      simp at hc
      rw [show (1 : Int) - 1 + d = d by omega] at h
      obtain ⟨k, rfl⟩ := Int.eq_ofNat_of_zero_le hc.1
      obtain ⟨ts, e1, e2, e3⟩ := go_list k r h
      exact ⟨ts, e2, by rw [e1, ← e3], by omega⟩
theorem go_mk {ts : List (List Int)} (h : ∀ t ∈ ts, isGo 1 t = true) (hl : ts.length ≤ 24) : isGo 1 ((ts.length : Int) :: ts.flatten) = true := by
  rw [isGo, if_neg (by simp; omega), show (1 : Int) - 1 + (ts.length : Int) = (ts.length : Int) by omega]
  have : ∀ ts : List (List Int), (∀ t ∈ ts, isGo 1 t = true) → isGo (ts.length : Int) ts.flatten = true := by
    intro ts
    induction ts with
    | nil => intro _; rfl
    | cons a ts ih =>
      intro h
      rw [List.flatten_cons, List.length_cons, show ((ts.length + 1 : Nat) : Int) = 1 + (ts.length : Int) by omega, go_app _ 1 _ _ (by omega) (by omega) (h a (List.mem_cons_self ..))]
      exact ih fun t ht => h t (List.mem_cons_of_mem _ ht)
  exact this ts h
theorem kid_mk {ts : List (List Int)} (h : ∀ t ∈ ts, isGo 1 t = true) : ∀ i, i ≤ ts.length → kidAt ((ts.length : Int) :: ts.flatten) 0 i = 1 + (ts.take i).flatten.length ∧
    ((ts.length : Int) :: ts.flatten).drop (1 + (ts.take i).flatten.length) = (ts.drop i).flatten := by
  have hd : ∀ i, ((ts.length : Int) :: ts.flatten).drop (1 + (ts.take i).flatten.length) = (ts.drop i).flatten := fun i => by
    rw [Nat.add_comm, List.drop_succ_cons]
    have : ts.flatten = (ts.take i).flatten ++ (ts.drop i).flatten := by rw [← List.flatten_append, List.take_append_drop]
    rw [this, List.drop_left]
  intro i
  induction i with
  | zero => intro _; exact ⟨by simp [kidAt], hd 0⟩
  | succ i ih =>
    intro hi
    obtain ⟨h1, h2⟩ := ih (by omega)
    refine ⟨?_, hd _⟩
    rw [kidAt, h1, h2, List.drop_eq_getElem_cons (show i < ts.length by omega), List.flatten_cons, span_app _ _ _ (by omega) (h _ (List.getElem_mem _)), List.take_succ_eq_append_getElem (by omega), List.flatten_append, List.length_append]
    simp
    omega
theorem sub_mk {ts : List (List Int)} (h : ∀ t ∈ ts, isGo 1 t = true) {i : Nat} (hi : i < ts.length) : sub ((ts.length : Int) :: ts.flatten) (kidAt ((ts.length : Int) :: ts.flatten) 0 i) = ts[i] := by
  obtain ⟨h1, h2⟩ := kid_mk h i (by omega)
  rw [sub, h1, h2, List.drop_eq_getElem_cons hi, List.flatten_cons, span_app _ _ _ (by omega) (h _ (List.getElem_mem _)), List.take_left]
theorem mir_mk (f : Nat) {ts : List (List Int)} (h : ∀ t ∈ ts, isGo 1 t = true) : mirL (f + 1) ((ts.length : Int) :: ts.flatten) = (ts.length : Int) :: (ts.reverse.map (mirL f)).flatten := by
  rw [mirL_at (d := ts.length) rfl, mirK, List.flatMap_def]
  congr 2
  apply List.ext_getElem
  · simp
  · intro j h1 h2
    simp only [List.length_map, List.length_range] at h1
    simp only [List.getElem_map, List.getElem_range, List.getElem_reverse]
    rw [sub_mk h (show ts.length - 1 - j < ts.length by omega)]
theorem len_mem {ts : List (List Int)} {t : List Int} (h : t ∈ ts) : t.length ≤ ts.flatten.length := by
  induction ts with
  | nil => simp at h
  | cons a ts ih =>
    rw [List.flatten_cons, List.length_append]
    rcases List.mem_cons.1 h with rfl | h
    · omega
    · have := ih h; omega
theorem mir_two : ∀ (f : Nat) (xs : List Int), isGo 1 xs = true → xs.length ≤ f → isGo 1 (mirL f xs) = true ∧ mirL f (mirL f xs) = xs := by
  intro f
  induction f with
  | zero =>
    intro xs h hl
    obtain rfl : xs = [] := List.eq_nil_of_length_eq_zero (by omega)
    simp [isGo] at h
  | succ f ih =>
    intro xs h hl
    obtain ⟨ts, h1, h2, h3⟩ := go_tree h
    subst h2
    rw [mir_mk f h1]
    have hlen : ∀ t ∈ ts, t.length ≤ f := fun t ht => by
      have := len_mem ht
      simp only [List.length_cons] at hl
      omega
    have hu : ∀ u ∈ ts.reverse.map (mirL f), isGo 1 u = true := fun u hu => by
      obtain ⟨t, ht, rfl⟩ := List.mem_map.1 hu
      have ht := List.mem_reverse.1 ht
      exact (ih t (h1 t ht) (hlen t ht)).1
    have hul : (ts.reverse.map (mirL f)).length = ts.length := by simp
    have e : (ts.length : Int) = ((ts.reverse.map (mirL f)).length : Int) := by rw [hul]
    rw [e]
    refine ⟨go_mk hu (by rw [hul]; exact h3), ?_⟩
    rw [mir_mk f hu, ← List.map_reverse, List.reverse_reverse, List.map_map]
    have : ∀ t ∈ ts, (mirL f ∘ mirL f) t = id t := fun t ht => (ih t (h1 t ht) (hlen t ht)).2
    rw [List.map_congr_left this, List.map_id, hul]
theorem mir_back {xs : List Int} (ht : isTree xs = true) : isTree (mirL 24 xs) = true ∧ mirL 24 (mirL 24 xs) = xs := by
  have hl := tree_len ht
  have h := mir_two 24 xs (tree_go ht) hl.2
  have hm := mirL_len 24 xs ht hl.2
  refine ⟨?_, h.2⟩
  simp only [isTree, Bool.and_eq_true, decide_eq_true_eq, hm]
  exact ⟨hl, h.1⟩
end M
end Go.Proofs.Ytdgcjkgbglofbaa
