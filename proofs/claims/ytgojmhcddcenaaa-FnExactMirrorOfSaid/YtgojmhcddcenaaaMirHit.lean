/- mirrored: what it must do; where the text of the tree is known. -/
import Derived.Test.YtgojmhcddcenaaaMemoText
import Derived.Test.YtgojmhcddcenaaaTextIn
import Derived.Test.YtgojmhcddcenaaaNewBox
import Derived.Test.YtgojmhcddcenaaaBackK
import Derived.Test.YtgojmhcddcenaaaKids

namespace Go.Proofs.Ytgojmhcddcenaaa
open Go.RowKit Go.Shelf Go.Maps
attribute [local go_sem] Oper.semAt_some

/-- what mirrored leaves: the mirrored tree's row, in no block that No holds; the map with no more than the tree's nodes of new texts; nothing else is written -/
def Mirrored (w : World) (b B : Nat) (No : Nat → Prop) (N : Nat) (xs : List Int) (e : Ending) (w' : World) : Prop :=
  ∃ g n c', e = .returned (.slice (some ⟨g, 0, none⟩) n c') ∧ Hid (Own64 w' B (.slice (some ⟨g, 0, none⟩) n c') (M.mirL 24 xs)) ∧ Hid (¬ No g) ∧ Hid (Known w' b B No (N + xs.length)) ∧ Hid (w.grownBy w' (some b))

/-- what mirrored must do with trees of at most f nodes -/
def MirAt (f : Nat) : Prop := ∀ (A : Option Addr) (xs : List Int) (c : Nat) (w : World) (b B : Nat) (No : Nat → Prop) (N : Nat), Hid (M.isTree xs = true) → xs.length ≤ f → xs.length ≤ c → c ≤ 1000000000000 → Hid (Ints w w.heap.size A xs) →
  Hid (Known w b B No N) → N + xs.length ≤ 1000 → b < B → B ≤ w.heap.size → Hid (∀ g, No g → g < w.heap.size) →
  Calls Try.prog 16 #[.slice A xs.length c, .map (some b)] w fun e w' => Mirrored w b B No N xs e w'

theorem grown_be {w w' : World} (h : Below w.heap.size w w') (row : Option Nat) : w.grownBy w' row := ⟨h.os, h.tape, h.output, h.size, fun k hk _ => h.block k hk⟩

theorem Known.be {w w' : World} {b B N : Nat} {No : Nat → Prop} (h : Known w b B No N) (hb : Below w.heap.size w w') : Known w' b B No N := h.kept (grown_be hb none) (by simp) (fun k e => by cases e)

theorem Known.upto {w : World} {b B N N' : Nat} {No : Nat → Prop} (h : Known w b B No N) (hN : N ≤ N') : Known w b B No N' :=
  let ⟨D, h1, h2, h3⟩ := h
  ⟨D, h1, by omega, h3⟩

set_option maxRecDepth 100000 in
set_option maxHeartbeats 4000000 in
theorem mirrored_hit (A : Option Addr) (xs : List Int) (c : Nat) (w : World) (b B : Nat) (No : Nat → Prop) (N : Nat) (D : DataW Unit) (ht : Hid (M.isTree xs = true)) (hcl : xs.length ≤ c) (hcu : c ≤ 1000000000000) (hI : Hid (Ints w w.heap.size A xs))
    (hKn : Hid (Known w b B No N)) (hown : Hid (w.ownsMap Try.prog 9 hdrE b (Maps.size D) D))
    (hh : has D (kt (M.textL 24 xs)) = true) (hg : Hid (∃ g n c, (∀ z, D.atKey (kt (M.textL 24 xs)) z = hdrD g n c) ∧ Own64 w B (.slice (some ⟨g, 0, none⟩) n c) (M.mirL 24 xs) ∧ ¬ No g)) :
    CallsIn Fence.wide 5 Try.prog 16 #[.slice A xs.length c, .map (some b)] w fun e w' => Mirrored w b B No N xs e w' := by
  obtain ⟨g, n, c2, k1, k2, k3⟩ := hg.out
  have hx := (M.tree_len ht.out).2
  have K1 := Lib.hid k1
  have HT : Hid (∀ W', Ints W' W'.heap.size A xs → Calls Try.prog 25 #[.slice A xs.length c] W' fun e w' => e = .returned (.string (M.textL 24 xs)) ∧ Hid (Below W'.heap.size W' w')) := fun W' hW' => textOf A xs c W' 24 ht hx hcl hcu hW'
  have hkey : keyOf Try.prog 9 (.string (M.textL 24 xs)) = some (kt (M.textL 24 xs)) := keyOf_kt (by have := M.textL_size 24 xs ht.out hx; unfold maxLen; omega)
  have Hkey := Lib.hid hkey
  have HH := Lib.hid hh
  clear k1 hh hkey hg
  generalize M.textL 24 xs = T at *
  refine callsIn_of_wp_marks Try.func16 rfl trivial ?_ rfl
  simp only [Try.ntmps16, List.size_toArray, List.length_cons, List.length_nil, Nat.reduceAdd, Nat.reduceSub, Array.replicate_succ, Array.replicate_zero, List.push_toArray, List.append_toArray, List.nil_append, List.cons_append]
  have bG0 := Boxed.new w 22 (.slice A xs.length c)
  have bM0 := Boxed.new (w.alloc (.cells #[.slice A xs.length c] 22)) 39 (.map (some b))
  simp only [World.size_alloc] at bM0
  have BG := Lib.hid (bG0.alloc (.cells #[.map (some b)] 39))
  have BM := Lib.hid bM0
  have HI0 := Lib.hid ((hI.out.al (.cells #[.slice A xs.length c] 22)).al (.cells #[.map (some b)] 39))
  have HW0 : Hid (Below w.heap.size w ((w.alloc (.cells #[.slice A xs.length c] 22)).alloc (.cells #[.map (some b)] 39))) := bal (bal (b0 w) _) _
  clear bG0 bM0
  gi_wp2_with (first | (refine ⟨trivial, ?_⟩; gi_at_call 25; refine (callsIn_wide.2 (HT.out _ HI0.out)).mono ?_; rintro e w1 ⟨rfl, hb1⟩; have cG := (boxKeep BG.out hb1.out).cell; have cM := (boxKeep BM.out hb1.out).cell; have HW1 : Hid (Below w.heap.size w w1) := btr HW0.out hb1.out) | (gi_at_lookup; refine wpListIn_lookup_own_ok _ rfl _ _ 39 rfl 9 22 keyedT Try.underlying39 hdrE (zeroRow _) .nil [] rfl b (Maps.size D) D rfl (hown.out.kept (grown_be HW1.out none) (by simp)) _ _ rfl Hkey.out ?_; intro v ps hv; rw [K1.out] at hv; have hv := hdrE_inv hv; subst hv; rw [HH.out]))
  refine ⟨_, results_tmp rfl _ _ _, ?_⟩
  exact ⟨g, n, c2, rfl, own_be k2 HW1.out, k3, (hKn.out.be HW1.out).upto (by omega), grown_be HW1.out _⟩
end Go.Proofs.Ytgojmhcddcenaaa
