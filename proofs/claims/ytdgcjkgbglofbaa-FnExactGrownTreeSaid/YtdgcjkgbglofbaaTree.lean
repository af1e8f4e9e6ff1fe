/- The walks of the laws' own helpers over trees (structs of one slice): szTree, toTree, eqTree, markTree, heldTree. No conditions but lengths. -/
import Derived.Test.YtdgcjkgbglofbaaSl
import Derived.Maps.AppendAt
namespace Go.Proofs.Ytdgcjkgbglofbaa
open Go.RowKit

theorem bcell {W w1 : World} (hb : Below W.heap.size W w1) : (∀ b o, b < W.heap.size → w1.cell? ⟨b, o, none⟩ = W.cell? ⟨b, o, none⟩) ∧ (∀ b o, b < W.heap.size → w1.frozen? ⟨b, o, none⟩ = W.frozen? ⟨b, o, none⟩) :=
  ⟨fun b o h => hb.cell (p := ⟨b, o, none⟩) h, fun b o h => hb.frozen (p := ⟨b, o, none⟩) h⟩

theorem szTree (A : Option Addr) (n c : Nat) (left : Int) (w : World) (hn : n ≤ 9223372036854775807) (hl : left ≤ 1048576) (hl0 : 0 ≤ left) :
    Calls Try.prog 131 #[.agg #[.slice A n c], .int .i64 left] w fun e w' => e = .returned (.int .i64 (if left - n < 0 then -1 else left - n)) ∧ Below w.heap.size w w' := by
  by_cases h : left - (n : Int) < 0
  · go_enter Try.func131, Try.ntmps131
    go_wp2_with (go_at_call 236; refine (szInts _ _ _ _ _ hn hl hl0).mono ?_; rintro e w' ⟨rfl, rfl⟩)
    go_ret
    exact ⟨rfl, (Below.refl _ _).alloc (Nat.le_refl _) _⟩
  · go_enter Try.func131, Try.ntmps131
    go_wp2_with (go_at_call 236; refine (szInts _ _ _ _ _ hn hl hl0).mono ?_; rintro e w' ⟨rfl, rfl⟩)
    go_ret
    exact ⟨rfl, (Below.refl _ _).alloc (Nat.le_refl _) _⟩

set_option maxHeartbeats 400000 in
theorem toTree (A : Option Addr) (xs : List Int) (c : Nat) (w : World) (hx : xs.length ≤ 1000000000000) (h : Ints w w.heap.size A xs) :
    Calls Try.prog 133 #[.agg #[.slice A xs.length c]] w fun e w' => ∃ g, e = .returned (.agg #[.slice (some ⟨g, 0, none⟩) xs.length xs.length]) ∧
      Own64 w' w.heap.size (.slice (some ⟨g, 0, none⟩) xs.length xs.length) xs ∧ Below w.heap.size w w' := by
  go_enter Try.func133, Try.ntmps133
  go_wp2_with fail
  refine (toInts A xs c _ hx (((h.al _).al _).al _)).mono ?_
  rintro e w1 ⟨g, rfl, ho, hb⟩
  obtain ⟨hc, hf⟩ := bcell hb
  have hB := btr (bal (bal (bal (b0 w) _) _) _) hb
  have ho' : Own64 w1 (w.heap.size + 3) (.slice (some ⟨g, 0, none⟩) xs.length xs.length) xs := own_mono ho (by simp)
  clear ho h
  go_wp2
  refine bodyPost_ret (v := .agg #[.slice (some ⟨g, 0, none⟩) xs.length xs.length]) (by simp [results, Try.results133, go_sem, hc]) rfl ?_
  exact ⟨g, rfl, own_mono (own_far (own_far ho' (by omega) _) (by omega) _) (by omega), below_setCell (below_setCell hB (by omega) _) (by omega) _⟩

set_option maxHeartbeats 400000 in
theorem eqTree (A A' : Option Addr) (xs ys : List Int) (c c' : Nat) (w : World) (hy : ys.length ≤ 1000000000000000)
    (h : Ints w w.heap.size A xs) (h' : Ints w w.heap.size A' ys) :
    Calls Try.prog 136 #[.agg #[.slice A xs.length c], .agg #[.slice A' ys.length c']] w fun e w' => e = .returned (.bool (decide (xs = ys))) ∧ Below w.heap.size w w' := by
  have C := eqInts A A' xs ys c c' _ hy ((h.al (.cells #[.slice A xs.length c] 26)).al (.cells #[.slice A' ys.length c'] 26)) ((h'.al _).al _)
  generalize decide (xs = ys) = d at C ⊢
  have HC := Lib.hid C
  clear C
  cases d
  all_goals
    go_enter Try.func136, Try.ntmps136
    go_wp2_with fail
    refine HC.out.mono ?_
    rintro e w1 ⟨rfl, hb⟩
    have hB := btr (bal (bal (b0 w) _) _) hb
    go_wp2
    go_ret
    exact ⟨rfl, hB⟩

set_option maxHeartbeats 400000 in
theorem markTree (A : Option Addr) (n c : Nat) (zs : List Int) (m : Int) (B : Nat) (w : World) (hn : zs.length = n) (hn' : n ≤ 1000000000000) (hm : 0 ≤ m) (hm' : m ≤ 1000000000000) (ho : Own64 w B (.slice A n c) zs) :
    Calls Try.prog 137 #[.agg #[.slice A n c], .int .i64 m] w fun e w' => e = .returned (.int .i64 (m + n)) ∧ Own64 w' B (.slice A n c) (marks m n) ∧ w.grownBy w' (Value.slice A n c).ownBlock := by
  have Hn := Lib.hid hn
  clear hn
  go_enter Try.func137, Try.ntmps137
  go_wp2_with fail
  refine (markInts A n c zs m B _ Hn.out hn' hm hm' (ho.alloc _)).mono ?_
  rintro e w1 ⟨rfl, ho1, hg⟩
  go_wp2
  go_ret
  exact ⟨rfl, ho1, (World.grownBy_alloc w _ _).trans hg⟩

set_option maxHeartbeats 400000 in
theorem heldTree (A : Option Addr) (n c : Nat) (m : Int) (w : World) (hn' : n ≤ 1000000000000) (hm : 0 ≤ m) (hm' : m ≤ 1000000000000) (h : Ints w w.heap.size A (marks m n)) :
    Calls Try.prog 156 #[.agg #[.slice A n c], .int .i64 m] w fun e w' => e = .returned (.int .i64 (m + n)) ∧ Below w.heap.size w w' := by
  go_enter Try.func156, Try.ntmps156
  go_wp2_with (go_at_call 130; refine (heldInts A n c m _ hn' hm hm' (h.al _)).mono ?_; rintro e w' ⟨rfl, rfl⟩)
  go_ret
  exact ⟨rfl, (Below.refl _ _).alloc (Nat.le_refl _) _⟩

theorem own_shape {w : World} {B e : Nat} {v : Value} {n : Nat} {zs : List Value} (h : w.ownsRow B e 1 v n zs) : ∃ A c, v = .slice A n c := by
  rcases h.2 with ⟨rfl, rfl⟩ | ⟨g, cap, _, rfl, _⟩
  · exact ⟨none, 0, rfl⟩
  · exact ⟨_, _, rfl⟩

/-- a step that keeps all that was there: what a law knows of its own memory stays -/
theorem own_be {w w' : World} {base e size n : Nat} {v : Value} {xs : List Value} (h : w.ownsRow base e size v n xs) (hb : Below w.heap.size w w') : w'.ownsRow base e size v n xs := own_below h hb (Nat.le_refl _)

theorem cell_be {w w' : World} {b : Nat} {v : Value} (h : w.cell? ⟨b, 0, none⟩ = some v) (hb : Below w.heap.size w w') : w'.cell? ⟨b, 0, none⟩ = some v :=
  ((bcell hb).1 _ _ (World.block_lt_of_cell? _ _ h)).trans h

theorem cell_grown {w w' : World} {b : Nat} {v : Value} {row : Option Nat} (h : w.cell? ⟨b, 0, none⟩ = some v) (hb : w.grownBy w' row) (hne : ∀ k, row = some k → k ≠ b) : w'.cell? ⟨b, 0, none⟩ = some v :=
  hb.cell h (fun e => hne b e.symm rfl)

theorem own_grown {w w' : World} {base e size n : Nat} {v : Value} {xs : List Value} {row : Option Nat} (h : w.ownsRow base e size v n xs) (hb : w.grownBy w' row) (hne : ∀ k, row = some k → k < base ∨ w.heap.size ≤ k) : w'.ownsRow base e size v n xs := by
  refine h.kept hb ?_
  cases hv : v.ownBlock with
  | none => exact .inl rfl
  | some k =>
    refine .inr fun e => ?_
    have h1 := h.lt k hv
    have h2 := hne k e.symm
    omega

theorem below_grown {a w w' : World} {row : Option Nat} (h : Below a.heap.size a w) (hb : w.grownBy w' row) (hne : ∀ k, row = some k → a.heap.size ≤ k) : Below a.heap.size a w' :=
  h.grown hb h.size hne

theorem eqIntsT (A A' : Option Addr) (xs : List Int) (c c' : Nat) (w : World) (hy : xs.length ≤ 1000000000000000)
    (h : Ints w w.heap.size A xs) (h' : Ints w w.heap.size A' xs) :
    Calls Try.prog 126 #[.slice A xs.length c, .slice A' xs.length c'] w fun e w' => e = .returned (.bool true) ∧ Below w.heap.size w w' :=
  (eqInts A A' xs xs c c' w hy h h').mono fun _ _ ⟨he, hb⟩ => ⟨by rw [he]; simp, hb⟩

theorem eqTreeT (A A' : Option Addr) (xs : List Int) (c c' : Nat) (w : World) (hy : xs.length ≤ 1000000000000000)
    (h : Ints w w.heap.size A xs) (h' : Ints w w.heap.size A' xs) :
    Calls Try.prog 136 #[.agg #[.slice A xs.length c], .agg #[.slice A' xs.length c']] w fun e w' => e = .returned (.bool true) ∧ Below w.heap.size w w' :=
  (eqTree A A' xs xs c c' w hy h h').mono fun _ _ ⟨he, hb⟩ => ⟨by rw [he]; simp, hb⟩

/-- what a function of a tree that hands back a list and a code must do, as F says -/
def GivesList (f : Nat) (F : List Int → List Int × Int) : Prop :=
  ∀ (A : Option Addr) (xs : List Int) (c : Nat) (w : World), xs.length ≤ 1048576 → xs.length ≤ c ∧ c ≤ 9223372036854775807 → Ints w w.heap.size A xs →
    Calls Try.prog f #[.agg #[.slice A xs.length c]] w fun e w' => ∃ A' c', e = .returned (.tuple #[.slice A' (F xs).1.length c', .int .i64 (F xs).2]) ∧
      Own64 w' w.heap.size (.slice A' (F xs).1.length c') (F xs).1 ∧ Below w.heap.size w w'
end Go.Proofs.Ytdgcjkgbglofbaa
