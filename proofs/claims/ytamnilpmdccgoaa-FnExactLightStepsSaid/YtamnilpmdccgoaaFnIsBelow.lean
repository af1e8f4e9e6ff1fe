/- IsBelow, the program's and the model's: is a node in the subtree of another one. -/
import Derived.Test.YtamnilpmdccgoaaNodes
namespace Go.Proofs.Ytamnilpmdccgoaa
open Go.RowKit

set_option maxHeartbeats 1000000 in
theorem isIn (A : Option Addr) (xs : List Int) (c : Nat) (v u : Int) (w : World) (hx : xs.length ≤ 24) (hc : xs.length ≤ c) (hc' : c ≤ 9223372036854775807) (hu0 : 0 ≤ u) (hu : u.toNat < xs.length) (hk : Hid (M.ok 1 (xs.drop u.toNat))) (h : Ints w w.heap.size A xs) (b : Bool) (hb : Hid (M.below xs v u = b)) :
    Calls Try.prog 143 #[.slice A xs.length c, .int .i64 v, .int .i64 u] w fun e w' => e = .returned (.bool b) ∧ w = w' := by
  obtain ⟨n, rfl⟩ := Int.eq_ofNat_of_zero_le hu0
  simp only [Int.toNat_natCast] at hu hk
  by_cases hv : (n : Int) ≤ v
  · obtain ⟨S, hS⟩ : ∃ S, Hid (M.span 1 (xs.drop n) = S) := ⟨_, rfl⟩
    have hS2 : S ≤ 24 := by have h1 := M.span_le (xs.drop n) 1; have h2 : (xs.drop n).length ≤ xs.length := by simp
                            have h3 := hS.out; omega
    have hb' : b = decide (v < (n : Int) + (S : Int)) := by rw [← hb.out, ← hS.out]; simp [M.below, hv]
    clear hb
    subst hb'
    go_enter Try.func143, Try.ntmps143
    go_wp2_with (go_at_call 80; refine (sizeAt A xs c n S _ hS hx hc hc' hk h).mono ?_; rintro e w' ⟨rfl, rfl⟩)
    go_ret
    exact ⟨rfl, rfl⟩
  · have hb' : b = false := by rw [← hb.out]; simp [M.below, hv]
    have hd : decide ((n : Int) ≤ v) = false := decide_eq_false hv
    clear hb
    subst hb'
    go_enter Try.func143, Try.ntmps143
    go_wp2
    go_ret
    exact ⟨rfl, rfl⟩

/-- what a function of a tree and two numbers that hands back a bool and a code must do, as F says -/
def GivesBool2 (f : Nat) (F : List Int → Int → Int → Bool × Int) : Prop :=
  ∀ (A : Option Addr) (xs : List Int) (c : Nat) (v u : Int) (w : World), xs.length ≤ 1048576 → xs.length ≤ c ∧ c ≤ 1000000000000 → Ints w w.heap.size A xs →
    Calls Try.prog f #[.agg #[.slice A xs.length c], .int .i64 v, .int .i64 u] w fun e w' => e = .returned (.tuple #[.bool (F xs v u).1, .int .i64 (F xs v u).2]) ∧ Below w.heap.size w w'

end Go.Proofs.Ytamnilpmdccgoaa
