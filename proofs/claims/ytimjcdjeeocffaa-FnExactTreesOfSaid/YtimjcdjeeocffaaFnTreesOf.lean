/- TreesOf, the program's and the model's: all trees of n nodes, or a code. -/
import Derived.Test.YtimjcdjeeocffaaBehind
import Derived.Test.YtimjcdjeeocffaaWoodsIn
import Derived.Test.YtimjcdjeeocffaaUnTree
import Derived.Test.YtimjcdjeeocffaaFnFirstTree
namespace Go.Proofs.Ytimjcdjeeocffaa
open Go.RowKit Go.Shelf Go.Maps

namespace M
/-- the first k trees of n nodes -/
def firstT (n k : Nat) : List (List Int) := (List.range k).map (unrank n 1)
theorem firstT_len (n k : Nat) : (firstT n k).length = k := by simp [firstT]
theorem firstT_succ (n k : Nat) : firstT n (k + 1) = firstT n k ++ [unrank n 1 k] := by simp [firstT, List.range_succ]
theorem L_7 {n : Nat} (hn1 : 1 ≤ n) (hn : n ≤ 7) : 1 ≤ L n 1 ∧ L n 1 ≤ 8192 := by
  have h1 := L_le n 1 hn1
  have h2 : 2 ^ (2 * n - 1) ≤ 2 ^ 13 := Nat.pow_le_pow_right (by omega) (by omega)
  have h3 : (2 : Nat) ^ 13 = 8192 := by decide
  have h4 := rk_lt (firstL n 1) 1 (firstL_go n 1 (by omega) hn1).1
  rw [firstL_len] at h4
  omega
theorem firstT_small {n k : Nat} (hn : n ≤ 24) : ∀ zs ∈ firstT n k, zs.length ≤ 24 := by
  intro zs h
  simp only [firstT, List.mem_map] at h
  obtain ⟨r, _, rfl⟩ := h
  rw [unrank_len]
  exact hn
end M

def F_TreesOf (n : Int) : List (List Int) × Int := if 1 ≤ n ∧ n ≤ 24 then (if n ≤ 7 then (M.firstT n.toNat (M.L n.toNat 1), 0) else ([], 3)) else ([], 2)

/-- a number to a list of trees and a code -/
def GivesTreesN (f : Nat) (F : Int → List (List Int) × Int) : Prop :=
  ∀ (n : Int) (w : World), -9223372036854775808 ≤ n → n ≤ 9223372036854775807 →
    Calls Try.prog f #[.int .i64 n] w fun e w' => ∃ A' c' hs, e = .returned (.tuple #[.slice A' (F n).1.length c', .int .i64 (F n).2]) ∧ Woods w' w.heap.size (.slice A' (F n).1.length c') hs (F n).1 ∧ Below w.heap.size w w'

set_option maxRecDepth 100000 in
set_option maxHeartbeats 4000000 in
theorem spec_TreesOf : GivesTreesN 83 F_TreesOf := by
  intro n w _ _
  obtain ⟨b, hb⟩ : ∃ b, Hid ((decide ((1 : Int) ≤ n) && decide (n ≤ 24)) = b) := ⟨_, rfl⟩
  cases b
  · have hF : F_TreesOf n = ([], 2) := if_neg (by have := hb.out; simp at this; omega)
    rw [hF]
    clear hF
    go_enter Try.func83, Try.ntmps83
    go_wp2_with (go_at_call 169; refine (l02Whole _ _ _ hb).mono ?_; rintro e w' ⟨rfl, rfl⟩)
    go_ret2
    exact ⟨none, 0, [], rfl, woods_nil _ _, Below.refl _ _⟩
  · have h12 := hb.out
    simp only [Bool.and_eq_true, decide_eq_true_eq] at h12
    obtain ⟨n, rfl⟩ := Int.eq_ofNat_of_zero_le (show 0 ≤ n by omega)
    by_cases h7 : (n : Int) ≤ 7
    · have hF : F_TreesOf n = (M.firstT n (M.L n 1), 0) := by rw [F_TreesOf, if_pos h12, if_pos h7]; rfl
      have hn1 : 1 ≤ n := by omega
      have hn7 : ¬ (7 : Int) < (n : Int) := by omega
      have hL := M.L_7 hn1 (by omega)
      have hTr := fun (r : Nat) (W : World) (hr : (r : Int) ≤ 9223372036854775807) => l02Tree n r W hn1 (by omega) hr
      obtain ⟨Ln, hLe⟩ : ∃ Ln, Hid (M.L n 1 = Ln) := ⟨_, rfl⟩
      rw [hLe.out] at hF hL hTr
      rw [hF, M.firstT_len]
      have HTr := Lib.hid hTr
      have hst : Hid (Woods (w.alloc (.cells #[] 26)) w.heap.size (.slice (some ⟨w.heap.size, 0, none⟩) 0 0) [] (M.firstT n 0)) := woods_empty (Nat.le_refl _)
      have hb0 : Hid (Below w.heap.size w (w.alloc (.cells #[] 26))) := bal (b0 w) _
      clear hF h7 h12 hTr
      go_enter Try.func83, Try.ntmps83
      go_wp2_with (go_at_call 169; refine (l02Whole _ _ _ hb).mono ?_; rintro e w' ⟨rfl, rfl⟩)
      simp only [show decide ((7 : Int) < (n : Int)) = false from decide_eq_false (by omega)]
      go_loopw [4, 5] (fun q i wr => ∃ (k : Nat) (A' : Option Addr) (c' : Nat) (hs : List Hdr), k ≤ Ln ∧ i = .int .i64 (k : Int) ∧ q = .slice A' k c' ∧ Hid (Woods wr w.heap.size (.slice A' k c') hs (M.firstT n k)) ∧ Hid (Below w.heap.size w wr)) (fun _ i _ => Ln + 1 - (intOf i).toNat)
      case atStart => exact ⟨0, _, 0, [], Nat.zero_le _, rfl, rfl, hst, hb0⟩
      case round =>
        obtain ⟨k, A', c', hs, hk, rfl, rfl, hW, hbr⟩ := hrel
        have hzr := hbr.out.size
        clear hst hb0
        have HK := Lib.hid (HTr.out k wr (by omega))
        by_cases hlt : k < Ln
        · have hun : M.unTree n k = M.unrank n 1 k := by rw [M.unTree, hLe.out, if_pos hlt]
          have hul := M.unrank_len n 1 k
          rw [hun, decide_eq_true hlt] at HK
          have hsc := Lib.hid (M.firstT_succ n k)
          clear hun
          generalize M.unrank n 1 k = U at *
          subst hul
          go_wp2_with fail
          refine HK.out.mono ?_
          rintro e w2 ⟨A2, c2, rfl, ho2, hb2⟩
          obtain ⟨g2, rfl⟩ : ∃ g, A2 = some ⟨g, 0, none⟩ := by
            rcases ho2.2 with ⟨_, h0⟩ | ⟨g, cap, cur, hv, _⟩
            · omega
            · injection hv with e1; exact ⟨g, e1⟩
          have hg2 := (World.ownsRow.lt ho2 g2 rfl).1
          have hW2 : Hid (Woods (w2.alloc (.cells #[.slice (some ⟨g2, 0, none⟩) U.length c2] 26)) w.heap.size (.slice A' k c') hs (M.firstT U.length k)) := (hW.out.be hb2).alloc _
          have ho2' : Hid (Own64 (w2.alloc (.cells #[.slice (some ⟨g2, 0, none⟩) U.length c2] 26)) w.heap.size (hdr (g2, U.length, c2)) U) := own_mono (ho2.alloc _) hzr
          have hne : Hid ((Value.slice A' k c').ownBlock ≠ some (g2, U.length, c2).1) := fun e => by have := (World.ownsRow.lt hW.out.row _ e).2; simp only at this; omega
          have hfr : Hid (∀ h' ∈ hs, h'.1 ≠ (g2, U.length, c2).1) := fun h' hh e => by have := (hW.out.lt hh).2; simp only at e; omega
          have hB2 : w.heap.size ≤ (w2.alloc (.cells #[.slice (some ⟨g2, 0, none⟩) U.length c2] 26)).heap.size := by have := hb2.size; simp; omega
          have hb2' : Hid (Below w.heap.size w (w2.alloc (.cells #[.slice (some ⟨g2, 0, none⟩) U.length c2] 26))) := bal (btr hbr.out hb2) _
          clear ho2 hb2 hW hbr HK hg2
          go_wp2_with (at_builtin; refine pushTree rfl (.tmp 27) (.tmp 29) rfl _ w.heap.size A' k c' hs _ (g2, U.length, c2) U rfl (by simp only [World.size_alloc]; rfl) hW2 ho2' hne hfr hB2 (by omega) ?_; intro A3 c3 w3 hW3 hb3)
          have hb3' : Hid (Below w.heap.size w w3) := hb2'.out.trans hb3.out
          rw [← hsc.out] at hW3
          clear hW2 ho2' hne hfr hB2 hb2' hb3
          go_roundw
          case rel => exact ⟨k + 1, A3, c3, _, by omega, by go_num, rfl, hW3, hb3'⟩
          case measure => simp [intOf]; omega
        · obtain rfl : k = Ln := by omega
          have hun : M.unTree n k = [] := by rw [M.unTree, hLe.out, if_neg hlt]
          rw [hun, decide_eq_false hlt] at HK
          clear hun
          go_wp2_with fail
          refine HK.out.mono ?_
          rintro e w2 ⟨A2, c2, rfl, _, hb2⟩
          have hW2 : Hid (Woods (w2.alloc (.cells #[.slice A2 ([] : List Int).length c2] 26)) w.heap.size (.slice A' k c') hs (M.firstT n k)) := (hW.out.be hb2).alloc _
          have hb2' : Hid (Below w.heap.size w (w2.alloc (.cells #[.slice A2 ([] : List Int).length c2] 26))) := bal (btr hbr.out hb2) _
          clear hb2 hW hbr HK
          go_wp2
          go_ret2
          exact ⟨A', c', hs, rfl, hW2.out, hb2'.out⟩
    · have hF : F_TreesOf n = ([], 3) := by rw [F_TreesOf, if_pos h12, if_neg h7]
      have hn7 : (7 : Int) < (n : Int) := by omega
      rw [hF]
      clear hF h7 h12
      go_enter Try.func83, Try.ntmps83
      go_wp2_with (go_at_call 169; refine (l02Whole _ _ _ hb).mono ?_; rintro e w' ⟨rfl, rfl⟩)
      go_ret2
      exact ⟨none, 0, [], rfl, woods_nil _ _, Below.refl _ _⟩
end Go.Proofs.Ytimjcdjeeocffaa
