/- HeightOf, the program's and the model's: the greatest depth, or a code. -/
import Derived.Test.YtbnnlifpldgcfaaDepthsIn
import Derived.Test.YtbnnlifpldgcfaaSpecDepths
import Derived.Test.YtbnnlifpldgcfaaMax
namespace Go.Proofs.Ytbnnlifpldgcfaa
open Go.RowKit

noncomputable def F_HeightOf (xs : List Int) : Int × Int := if M.isTree xs then (M.maxTo (M.depths xs) xs.length, 0) else (0, 1)

set_option maxHeartbeats 2000000 in
theorem l01Height (A : Option Addr) (xs : List Int) (c : Nat) (w : World) (ht : Hid (M.isTree xs = true)) (h : Ints w w.heap.size A xs) :
    Calls Try.prog 56 #[.agg #[.slice A xs.length c]] w fun e w' => e = .returned (.int .i64 (M.maxTo (M.depths xs) xs.length)) ∧ Below w.heap.size w w' := by
  have hl24 := (M.tree_len ht.out).2
  have hl1 := (M.tree_len ht.out).1
  go_enter Try.func56, Try.ntmps56
  go_wp2_with fail
  refine (l01Depths A xs c _ ht (h.al _)).mono ?_
  rintro e w2 ⟨A', c', ds, rfl, hok, ho, hb⟩
  have hB2 := Lib.hid (btr (bal (b0 w) _) hb)
  have hdl := Lib.hid hok.out.1
  have He := Lib.hid (M.depths_eq ht.out hok.out)
  have hI := Lib.hid (ints_of_own64 ho)
  clear ho hb h
  go_wp2
  go_loop [4, 5] (fun m i => ∃ (k : Nat) (y : Int), k ≤ xs.length ∧ i = .int .i64 k ∧ m = .int .i64 y ∧ Hid (M.maxTo ds k = y)) (fun _ i => xs.length - (intOf i).toNat)
  case atStart => exact ⟨0, 0, Nat.zero_le _, rfl, rfl, rfl⟩
  case round =>
    obtain ⟨k, y, hk, rfl, rfl, hy⟩ := hrel
    by_cases hlt : k < xs.length
    · obtain ⟨b, off, x, rfl, hbB, g, hX⟩ := hI.out.at_ (k := k) (by rw [hdl.out]; exact hlt)
      have hs : Hid (M.maxTo ds (k + 1) = if y < x then x else y) := M.maxTo_step hX.out hy.out
      go_wp2
      all_goals
        go_round
        case rel => exact ⟨k + 1, _, by omega, by go_num, rfl, hs⟩
        case measure => simp [intOf]; omega
    · obtain rfl : k = xs.length := by omega
      go_wp2
      go_ret
      exact ⟨by rw [He.out, hy.out]; rfl, hB2.out⟩

end Go.Proofs.Ytbnnlifpldgcfaa
