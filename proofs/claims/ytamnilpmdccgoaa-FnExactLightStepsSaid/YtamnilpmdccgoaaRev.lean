/- slices.Reverse: a row of the call's own is turned round in place. -/
import Derived.Test.YtamnilpmdccgoaaLeast
import Derived.Test.YtamnilpmdccgoaaTwo
import Derived.Test.YtamnilpmdccgoaaTree
import Derived.BigRegion
namespace Go.Proofs.Ytamnilpmdccgoaa
open Go.RowKit

namespace M
/-- the row with the first i and the last i numbers exchanged -/
def revRow (zs : List Int) (i : Nat) : List Int := rowOf zs.length fun j => if j < i ∨ zs.length - i ≤ j then zs[zs.length - 1 - j]?.getD 0 else zs[j]?.getD 0
theorem revRow_len (zs : List Int) (i : Nat) : (revRow zs i).length = zs.length := rowOf_len _ _
theorem revRow_zero (zs : List Int) : revRow zs 0 = zs := by
  apply List.ext_getElem?
  intro j
  by_cases hj : j < zs.length
  · rw [revRow, rowOf_at _ hj, if_neg (by omega), List.getElem?_eq_getElem hj]; rfl
  · rw [List.getElem?_eq_none (by rw [revRow_len]; omega), List.getElem?_eq_none (by omega)]
theorem revRow_low {zs : List Int} {i : Nat} {x : Int} (h : i + i + 1 < zs.length) (hx : zs[i]? = some x) : (revRow zs i)[i]? = some x := by
  rw [revRow, rowOf_at _ (by omega), if_neg (by omega), hx]; rfl
theorem revRow_high {zs : List Int} {i : Nat} {x : Int} (h : i + i + 1 < zs.length) (hx : zs[zs.length - 1 - i]? = some x) : (revRow zs i)[zs.length - 1 - i]? = some x := by
  rw [revRow, rowOf_at _ (by omega), if_neg (by omega), hx]; rfl
theorem revRow_step {zs : List Int} {i : Nat} {x y : Int} (h : i + i + 1 < zs.length) (hx : zs[i]? = some x) (hy : zs[zs.length - 1 - i]? = some y) : ((revRow zs i).set i y).set (zs.length - 1 - i) x = revRow zs (i + 1) := by
  rw [revRow, rowOf_set, rowOf_set]
  refine rowOf_congr fun j hj => ?_
  by_cases h1 : j = zs.length - 1 - i
  · rw [if_pos h1, if_pos (by omega), show zs.length - 1 - j = i by omega, hx]; rfl
  · rw [if_neg h1]
    by_cases h2 : j = i
    · rw [if_pos h2, if_pos (by omega), h2, hy]; rfl
    · rw [if_neg h2]
      by_cases h3 : j < i ∨ zs.length - i ≤ j
      · rw [if_pos h3, if_pos (by omega)]
      · rw [if_neg h3, if_neg (by omega)]
theorem revRow_end {zs : List Int} {i : Nat} (h : zs.length ≤ i + i + 1) : revRow zs i = zs.reverse := by
  apply List.ext_getElem?
  intro j
  by_cases hj : j < zs.length
  · rw [revRow, rowOf_at _ hj, List.getElem?_reverse hj]
    have e1 : zs[zs.length - 1 - j]? = some zs[zs.length - 1 - j] := List.getElem?_eq_getElem (by omega)
    by_cases h3 : j < i ∨ zs.length - i ≤ j
    · rw [if_pos h3, e1]; rfl
    · rw [if_neg h3, show zs.length - 1 - j = j by omega, List.getElem?_eq_getElem hj]; rfl
  · rw [List.getElem?_eq_none (by rw [revRow_len]; omega), List.getElem?_eq_none (by simp; omega)]
end M

theorem grown_drew {w w' : World} {row : Option Nat} (h : w.grownBy w' row) : w.grownBy w'.drew row := ⟨h.os, h.tape, h.output, h.size, h.block⟩

set_option maxHeartbeats 2000000 in
set_option maxRecDepth 100000 in
theorem slicesReverse (A : Option Addr) (n c B : Nat) (zs : List Int) (w : World) (hn : Hid (zs.length = n)) (hn1 : n ≤ 1000) (ho : Hid (Own64 w B (.slice A n c) zs)) :
    Calls Try.prog 128 #[.slice A n c] w fun e w' => (∃ u, e = .returned u) ∧ Hid (Own64 w' B (.slice A n c) zs.reverse) ∧ Hid (w.grownBy w' (Value.slice A n c).ownBlock) := by
  rcases Nat.eq_zero_or_pos n with h0 | h0
  · subst h0
    have e : zs = [] := List.eq_nil_of_length_eq_zero hn.out
    subst e
    go_enter Try.func128, Try.ntmps128
    go_wp2
    refine wp_loop_rounds 1 ?_
    rw [rounds_succ]
    go_wp2
    refine bodyPost_end (results_none rfl _ _ _) rfl ?_
    exact ⟨⟨_, rfl⟩, ho, World.grownBy.refl _ _⟩
  · obtain ⟨g, rfl⟩ : ∃ g, A = some ⟨g, 0, none⟩ := by
      rcases ho.out.2 with ⟨h, _⟩ | ⟨g, _, _, h, _⟩
      · injection h with _ e _; omega
      · injection h with h; exact ⟨g, h⟩
    have ho0 : Hid (Own64 w B (.slice (some ⟨g, 0, none⟩) n c) (M.revRow zs 0)) := by rw [M.revRow_zero]; exact ho
    have e0 : IntKind.i64.wrap ((n : Int) - 1) = (n : Int) - 1 := IntWalk.i64_in _ (by omega)
    clear ho
    go_enter Try.func128, Try.ntmps128
    go_wp2
    go_loopw [2, 3] (fun p q wr => ∃ i : Nat, i ≤ n ∧ p = .int .i64 i ∧ q = .int .i64 ((n : Int) - 1 - i) ∧ Hid (Own64 wr B (.slice (some ⟨g, 0, none⟩) n c) (M.revRow zs i)) ∧ Hid (w.grownBy wr (some g))) (fun p _ _ => n - (intOf p).toNat)
    case atStart => exact ⟨0, Nat.zero_le _, rfl, by simp, ho0, World.grownBy.refl _ _⟩
    case round =>
      obtain ⟨i, hi, rfl, rfl, ho, hg⟩ := hrel
      clear ho0
      by_cases hlt : i + i + 1 < n
      · have hlt2 : (i : Int) < (n : Int) - 1 - (i : Int) := by omega
        have hz : i + i + 1 < zs.length := by rw [hn.out]; exact hlt
        obtain ⟨x, hx⟩ : ∃ x, zs[i]? = some x := ⟨_, List.getElem?_eq_getElem (by omega)⟩
        obtain ⟨y, hy⟩ : ∃ y, zs[zs.length - 1 - i]? = some y := ⟨_, List.getElem?_eq_getElem (by omega)⟩
        obtain ⟨K, hK⟩ : ∃ K : Nat, zs.length - 1 - i = K := ⟨_, rfl⟩
        have eK : (n : Int) - 1 - (i : Int) = (K : Int) := by have := hn.out; omega
        have hl1 := M.revRow_low hz hx
        have hl2 := M.revRow_high hz hy
        have hs := Lib.hid (M.revRow_step hz hx hy)
        rw [hK] at hl2 hs hy
        rw [eK] at hlt2 ⊢
        have hrl : (M.revRow zs i).length = n := by rw [M.revRow_len]; exact hn.out
        obtain ⟨c1, f1, _, _⟩ := own64_cell ho.out hrl hl1
        obtain ⟨c2, f2, _, _⟩ := own64_cell ho.out hrl hl2
        have hkn : (K : Int) < (n : Int) := by have := hn.out; omega
        have hin : (i : Int) < (n : Int) := by omega
        have hset := own64_set (own64_set ho.out hrl i y) (by rw [List.length_set]; exact hrl) K x
        rw [hs.out] at hset
        have Hset := Lib.hid hset
        have Hg2 := Lib.hid (grown_set (grown_set hg.out i (.int .i64 y)) K (.int .i64 x))
        have hne : i ≠ K := by have := hn.out; omega
        clear hset hs hl1 hl2 hx hy ho hg hrl
        go_wp2
        go_region
        all_goals (go_wp2)
        all_goals (go_roundw)
        case rel => exact ⟨i + 1, by omega, by go_num, by go_num, Hset, grown_drew Hg2.out⟩
        case measure => simp [intOf]; omega
      · have hlt2 : ¬ (i : Int) < (n : Int) - 1 - (i : Int) := by omega
        have e := M.revRow_end (zs := zs) (i := i) (by rw [hn.out]; omega)
        rw [e] at ho
        go_wp2
        refine bodyPost_end (results_none rfl _ _ _) rfl ?_
        exact ⟨⟨_, rfl⟩, ho, hg⟩
end Go.Proofs.Ytamnilpmdccgoaa
