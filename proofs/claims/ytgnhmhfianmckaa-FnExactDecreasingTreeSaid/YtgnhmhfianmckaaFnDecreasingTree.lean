/- DecreasingTree, the program's and the model's: the text of the decreasing binary tree of a list, or a code. -/
import Derived.Test.YtgnhmhfianmckaaDecSp
import Derived.Test.YtgnhmhfianmckaaGives
namespace Go.Proofs.Ytgnhmhfianmckaa
open Go.RowKit

namespace M
theorem nodup_zero (l : List Int) : (l.take 0).Nodup := by simp
theorem nodup_step {l : List Int} {k : Nat} {x : Int} (h : (l.take k).Nodup) (hx : l[k]? = some x) (hm : x ∉ l.take k) : (l.take (k + 1)).Nodup := by
  rw [take_add_one hx]
  refine List.nodup_append.2 ⟨h, by simp, fun y hy z hz e => ?_⟩
  simp only [List.mem_singleton] at hz
  subst hz; subst e
  exact hm hy
theorem nodup_not {l : List Int} {k : Nat} {x : Int} (hx : l[k]? = some x) (h : x ∈ l.take k) : ¬ l.Nodup := fun hn => by
  have e : l = l.take k ++ l.drop k := (List.take_append_drop k l).symm
  rw [e] at hn
  exact (List.nodup_append.1 hn).2.2 x h x (List.mem_of_getElem? (i := 0) (by rw [List.getElem?_drop]; simpa using hx)) rfl
theorem mem_take_iff {l : List Int} {k : Nat} {x : Int} : x ∈ l.take k ↔ ∃ j, j < k ∧ l[j]? = some x := by
  rw [List.mem_iff_getElem?]
  constructor
  · rintro ⟨j, hj⟩
    have h1 := (List.getElem?_eq_some_iff.1 hj).1
    rw [List.length_take] at h1
    rw [List.getElem?_take_of_lt (by omega)] at hj
    exact ⟨j, by omega, hj⟩
  · rintro ⟨j, hj, h⟩
    exact ⟨j, by rw [List.getElem?_take_of_lt hj]; exact h⟩
end M
def F_DecreasingTree (l : List Int) : ByteArray × Int := if l.length ≤ 23 ∧ l.Nodup then (M.dec 24 l, 0) else (⟨#[]⟩, 2)
theorem F_Dec_yes {l : List Int} (h : l.length ≤ 23) (h2 : l.Nodup) : F_DecreasingTree l = (M.dec 24 l, 0) := by rw [F_DecreasingTree, if_pos ⟨h, h2⟩]
theorem F_Dec_no {l : List Int} (h : ¬ (l.length ≤ 23 ∧ l.Nodup)) : F_DecreasingTree l = (⟨#[]⟩, 2) := by rw [F_DecreasingTree, if_neg h]

/-- numbers of a list to a text and a code -/
def GivesTextI (f : Nat) (F : List Int → ByteArray × Int) : Prop :=
  ∀ (A : Option Addr) (xs : List Int) (c : Nat) (w : World), xs.length ≤ 1048576 → xs.length ≤ c ∧ c ≤ 1000000000000 → Ints w w.heap.size A xs →
    Calls Try.prog f #[.slice A xs.length c] w fun e w' => e = .returned (.tuple #[.string (F xs).1, .int .i64 (F xs).2]) ∧ Below w.heap.size w w'

set_option maxHeartbeats 4000000 in
set_option maxRecDepth 100000 in
theorem impl_DecreasingTree : GivesTextI 53 F_DecreasingTree := by
  intro A l c w hx hcc h
  obtain ⟨n, hn⟩ : ∃ n, Hid (l.length = n) := ⟨_, rfl⟩
  rw [hn.out] at hx hcc ⊢
  by_cases h23 : n ≤ 23
  · have hd : ¬ (23 : Int) < (n : Int) := by omega
    have Hh := Lib.hid h
    have hyes := Lib.hid (fun h2 => F_Dec_yes (l := l) (by rw [hn.out]; exact h23) h2)
    have hno := Lib.hid (fun (h2 : ¬ l.Nodup) => F_Dec_no (l := l) (fun h => h2 h.2))
    have hst := Lib.hid (M.nodup_zero l)
    generalize F_DecreasingTree l = F at hyes hno ⊢
    clear h
    go_enter Try.func53, Try.ntmps53
    go_wp2
    go_loopw [4, 5, 11] (fun _ _ i wr => ∃ (k : Nat), k ≤ n ∧ i = .int .i64 (k : Int) ∧ Hid ((l.take k).Nodup) ∧ Hid (Below w.heap.size w wr)) (fun _ _ i _ => n - (intOf i).toNat)
    case atStart => exact ⟨0, Nat.zero_le _, rfl, hst, Below.refl _ _⟩
    case round =>
      obtain ⟨k, hk, rfl, hT, hbr⟩ := hrel
      clear hst
      by_cases hlt : k < n
      · obtain ⟨b, off, x, rfl, hbl, g1, hX⟩ := (Hh.out.be hbr.out).at_ (k := k) (by rw [hn.out]; exact hlt)
        have hki : (k : Int) < (n : Int) := by omega
        have hk0 : (0 : Int) ≤ (k : Int) := by omega
        have hkc : (k : Int) ≤ (c : Int) := by omega
        obtain ⟨q, hq⟩ : ∃ q, Hid (decide (x ∈ l.take k) = q) := ⟨_, rfl⟩
        have HC := Lib.hid (containsIs (some ⟨b, off, none⟩) (l.take k) k c x wr (by show _ = _; rw [List.length_take, hn.out]; omega) (by omega) (Lib.hid (ints_take k (Hh.out.be hbr.out))) q hq)
        cases q
        · have hs := Lib.hid (M.nodup_step hT.out hX.out (of_decide_eq_false hq.out))
          clear hX hT
          go_wp2_with fail
          refine HC.out.mono ?_
          rintro e w' ⟨rfl, rfl⟩
          go_wp2
          go_roundw
          case rel => exact ⟨k + 1, by omega, by go_num, hs, hbr⟩
          case measure => simp [intOf]; omega
        · have hF := hno.out (M.nodup_not hX.out (of_decide_eq_true hq.out))
          subst hF
          clear hX hT hno hyes
          go_wp2_with fail
          refine HC.out.mono ?_
          rintro e w' ⟨rfl, rfl⟩
          go_wp2
          go_ret2
          exact ⟨rfl, hbr.out⟩
      · obtain rfl : k = n := by omega
        have hge : ¬ (k : Int) < (k : Int) := by omega
        have hF := hyes.out (by have := hT.out; rw [← hn.out, List.take_length] at this; exact this)
        subst hF
        have HD := Lib.hid (decreasingOf 24 A l k c wr hn (by omega) (by omega) hcc (Lib.hid (Hh.out.be hbr.out)))
        clear hno hyes hT
        go_wp2_with fail
        refine HD.out.mono ?_
        rintro e w3 ⟨rfl, hb⟩
        have hB := Lib.hid (btr hbr.out hb)
        go_wp2
        go_ret2
        exact ⟨rfl, hB.out⟩
  · rw [F_Dec_no (l := l) (fun h => h23 (by rw [← hn.out]; exact h.1))]
    have hd : (23 : Int) < (n : Int) := by omega
    go_enter Try.func53, Try.ntmps53
    go_wp2
    go_ret2
    exact ⟨rfl, Below.refl _ _⟩

set_option maxHeartbeats 4000000 in
set_option maxRecDepth 100000 in
theorem spec_DecreasingTree : GivesTextI 52 F_DecreasingTree := by
  intro A l c w hx hcc h
  obtain ⟨n, hn⟩ : ∃ n, Hid (l.length = n) := ⟨_, rfl⟩
  rw [hn.out] at hx hcc ⊢
  by_cases h23 : n ≤ 23
  · have hd : ¬ (23 : Int) < (n : Int) := by omega
    have Hh := Lib.hid h
    have hyes := Lib.hid (fun h2 => F_Dec_yes (l := l) (by rw [hn.out]; exact h23) h2)
    have hno := Lib.hid (fun (h2 : ¬ l.Nodup) => F_Dec_no (l := l) (fun h => h2 h.2))
    have hst := Lib.hid (M.nodup_zero l)
    generalize F_DecreasingTree l = F at hyes hno ⊢
    clear h
    go_enter Try.func52, Try.ntmps52
    go_wp2
    go_loopw [4, 5] (fun i _ wr => ∃ (k : Nat), k ≤ n ∧ i = .int .i64 (k : Int) ∧ Hid ((l.take k).Nodup) ∧ Hid (Below w.heap.size w wr)) (fun i _ _ => n - (intOf i).toNat)
    case atStart => exact ⟨0, Nat.zero_le _, rfl, hst, Below.refl _ _⟩
    case round =>
      obtain ⟨k, hk, rfl, hT, hbr⟩ := hrel
      clear hst
      by_cases hlt : k < n
      · have hki : (k : Int) < (n : Int) := by omega
        have hk0 : (0 : Int) ≤ (k : Int) := by omega
        have hst2 : Hid (∀ (j : Nat) y, j < 0 → l[j]? = some y → l[k]? ≠ some y) := fun j y hj => by omega
        go_wp2
        go_loopw [5] (fun i ws => ∃ (j : Nat), j ≤ k ∧ i = .int .i64 (j : Int) ∧ Hid (∀ (i : Nat) y, i < j → l[i]? = some y → l[k]? ≠ some y) ∧ Hid (Below w.heap.size w ws)) (fun i _ => k - (intOf i).toNat)
        case atStart => exact ⟨0, Nat.zero_le _, rfl, hst2, hbr⟩
        case round =>
          obtain ⟨j, hj, rfl, hD, hb2⟩ := hrel
          clear hst2 hbr
          by_cases hjk : j < k
          · obtain ⟨b, off, x, rfl, hbl, g1, hX⟩ := (Hh.out.be hb2.out).at_ (k := k) (by rw [hn.out]; exact hlt)
            obtain ⟨b', off', y, e, hbl', g2, hY⟩ := (Hh.out.be hb2.out).at_ (k := j) (by rw [hn.out]; omega)
            injection e with e
            injection e with e1 e2
            subst e1; subst e2
            have hji : (j : Int) < (k : Int) := by omega
            have hj0 : (0 : Int) ≤ (j : Int) := by omega
            have hjn : (j : Int) < (n : Int) := by omega
            have hbd := Lib.hid hb2.out.drew
            by_cases hxy : x = y
            · have hF := hno.out (M.nodup_not hX.out (M.mem_take_iff.2 ⟨j, hjk, by rw [hY.out, hxy]⟩))
              subst hF
              subst hxy
              clear hX hY hT hno hyes hD
              go_wp2
              go_region
              all_goals
                go_wp2
                go_ret2
                exact ⟨rfl, hbd.out⟩
            · have hxe : (x == y) = false := beq_eq_false_iff_ne.2 hxy
              have hs : Hid (∀ (i : Nat) z, i < j + 1 → l[i]? = some z → l[k]? ≠ some z) := fun i z hi hz e => by
                rcases Nat.lt_or_ge i j with h1 | h1
                · exact hD.out i z h1 hz e
                · obtain rfl : i = j := by omega
                  rw [hY.out] at hz
                  rw [hX.out] at e
                  injection hz with hz
                  injection e with e
                  omega
              clear hX hY hT hno hyes hD
              go_wp2
              go_region
              all_goals
                go_wp2
                go_roundw
                case rel => exact ⟨j + 1, by omega, by go_num, hs, hbd⟩
                case measure => simp [intOf]; omega
          · obtain rfl : j = k := by omega
            have hge : ¬ (j : Int) < (j : Int) := by omega
            obtain ⟨x, hX⟩ : ∃ x, Hid (l[j]? = some x) := ⟨_, Lib.hid (List.getElem?_eq_getElem (by rw [hn.out]; exact hlt))⟩
            have hs := Lib.hid (M.nodup_step hT.out hX.out (fun h => by
              obtain ⟨i, hi, hix⟩ := M.mem_take_iff.1 h
              exact hD.out i x hi hix hX.out))
            clear hX hT hno hyes hD
            go_wp2
            go_roundw
            case rel => exact ⟨j + 1, by omega, by go_num, hs, hb2⟩
            case measure => simp [intOf]; omega
      · obtain rfl : k = n := by omega
        have hge : ¬ (k : Int) < (k : Int) := by omega
        have hF := hyes.out (by have := hT.out; rw [← hn.out, List.take_length] at this; exact this)
        subst hF
        have HD := Lib.hid (l09Decreasing 24 A l k c wr hn (by omega) (by omega) hcc (Lib.hid (Hh.out.be hbr.out)))
        clear hno hyes hT
        go_wp2_with fail
        refine HD.out.mono ?_
        rintro e w3 ⟨rfl, hb⟩
        have hB := Lib.hid (btr hbr.out hb)
        go_wp2
        go_ret2
        exact ⟨rfl, hB.out⟩
  · rw [F_Dec_no (l := l) (fun h => h23 (by rw [← hn.out]; exact h.1))]
    have hd : (23 : Int) < (n : Int) := by omega
    go_enter Try.func52, Try.ntmps52
    go_wp2
    go_ret2
    exact ⟨rfl, Below.refl _ _⟩
end Go.Proofs.Ytgnhmhfianmckaa
