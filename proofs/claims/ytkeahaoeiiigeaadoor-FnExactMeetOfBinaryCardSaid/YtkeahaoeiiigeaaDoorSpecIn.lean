/- The model's l03Vector and l03Inner. -/
import Derived.Test.YtkeahaoeiiigeaaDoorCol
import Derived.Test.YtkeahaoeiiigeaaDoorPush
namespace Go.Proofs.YtkeahaoeiiigeaaDoor
open Go.RowKit

set_option maxRecDepth 100000 in
set_option maxHeartbeats 4000000 in
theorem l03Vector : ∀ (f : Nat) (t : M.Bin) (w : World), t.n ≤ f → t.n ≤ 1000 → Calls Tryd.prog 64 #[.string t.str] w fun e w' => ∃ A n c, e = .returned (.slice A n c) ∧ Hid (Own64 w' w.heap.size (.slice A n c) t.vec) ∧ Hid (Below w.heap.size w w') := by
  intro f
  induction f with
  | zero =>
    intro t w ht _
    cases t with
    | node l r => simp only [M.Bin.n] at ht; omega
    | nil =>
      have hq : (M.Bin.nil.str.toList == [48]) = true := str_nil .nil
      have ho : Hid (Own64 (w.alloc (.cells #[] 2)) w.heap.size (.slice (some ⟨w.heap.size, 0, none⟩) 0 0) []) := own64_empty (Nat.le_refl _)
      generalize M.Bin.nil.str = S at *
      go_enter Tryd.func64, Tryd.ntmps64
      go_wp2
      go_ret
      exact ⟨_, _, _, rfl, ho, Lib.hid (bal (b0 w) _)⟩
  | succ f ih =>
    intro t w ht ht2
    cases t with
    | nil => exact ih .nil w (by simp [M.Bin.n]) ht2
    | node l r =>
      simp only [M.Bin.n] at ht ht2
      have hq : ((M.Bin.node l r).str.toList == [48]) = false := str_nil (.node l r)
      have hP := Lib.hid (l03Sides l r w (by omega))
      have hIl := fun W => Lib.hid (ih l W (by omega) (by omega))
      have hIr := fun W => Lib.hid (ih r W (by omega) (by omega))
      have hN := fun W => Lib.hid (l03N r W (by omega))
      have hv1 := Lib.hid l.vec_len
      have hv2 := Lib.hid r.vec_len
      have hV : Hid ((M.Bin.node l r).vec = (l.vec ++ [(r.n : Int)]) ++ r.vec) := by
        show _ = _
        simp [M.Bin.vec]
      have hrn : (r.n : Int) ≤ 1000 := by omega
      generalize (M.Bin.node l r).str = S at *
      generalize l.str = SL at *
      generalize r.str = SR at *
      clear ih
      go_enter Tryd.func64, Tryd.ntmps64
      go_wp2_with (first | (go_at_call 48; refine hP.out.mono ?_; rintro e w2 ⟨rfl, hb2⟩) | (go_at_call_of 64 (Value.string SL); refine (hIl _).out.mono ?_; rintro e w3 ⟨A1, n1, c1, rfl, ho1, hb3⟩; have hn1 := Lib.hid ((own64_len ho1.out).trans hv1.out)) | (go_at_call 51; refine (hN _).out.mono ?_; rintro e w' ⟨rfl, hw⟩; subst hw) | (at_builtin; refine push64 rfl (.tmp 14) (.tmp 17) rfl _ w2.heap.size A1 n1 c1 l.vec (r.n : Int) rfl rfl ho1 hb3.out.size (by have := hn1.out; omega) ?_; intro A4 c4 w4 ho4 hb4) | (go_at_call 64; refine (hIr _).out.mono ?_; rintro e w5 ⟨A5, n5, c5, rfl, ho5, hb5⟩; have hn5 := Lib.hid ((own64_len ho5.out).trans hv2.out)) | (at_builtin; refine appendInts rfl (.tmp 18) (.tmp 20) rfl w5 w2.heap.size A4 (n1 + 1) c4 (l.vec ++ [(r.n : Int)]) A5 n5 c5 r.vec rfl rfl (own_be ho4.out hb5.out) (ints_of_own64 ho5.out) (own64_len ho5.out).symm (own64_z ho5.out) (by have := hb5.out.size; have := hb4.out.size; have := hb3.out.size; omega) (by have := hn1.out; omega) (by have := hn5.out; omega) ?_; intro A6 c6 w6 ho6 hb6))
      go_ret
      refine ⟨_, _, _, rfl, ?_, ?_⟩
      · rw [hV.out]
        exact own_mono ho6.out hb2.out.size
      · have z3 := hb3.out.size
        have z4 := hb4.out.size
        exact btr hb2.out (((hb3.out.trans hb4.out).trans (hb5.out.mono (by omega))).trans hb6.out)

set_option maxRecDepth 100000 in
set_option maxHeartbeats 4000000 in
theorem l03Inner : ∀ (f : Nat) (t : M.Bin) (k : Nat) (w : World), t.n ≤ f → t.n ≤ 1000 → k + t.n ≤ 100000 → Calls Tryd.prog 56 #[.string t.str, .int .i64 (k : Int)] w fun e w' => ∃ A n c, e = .returned (.slice A n c) ∧ Hid (Own64 w' w.heap.size (.slice A n c) (t.inner k)) ∧ Hid (Below w.heap.size w w') := by
  intro f
  induction f with
  | zero =>
    intro t k w ht _ _
    cases t with
    | node l r => simp only [M.Bin.n] at ht; omega
    | nil =>
      have hq : (M.Bin.nil.str.toList == [48]) = true := str_nil .nil
      have ho : Hid (Own64 (w.alloc (.cells #[] 2)) w.heap.size (.slice (some ⟨w.heap.size, 0, none⟩) 0 0) []) := own64_empty (Nat.le_refl _)
      generalize M.Bin.nil.str = S at *
      go_enter Tryd.func56, Tryd.ntmps56
      go_wp2
      go_ret
      exact ⟨_, _, _, rfl, ho, Lib.hid (bal (b0 w) _)⟩
  | succ f ih =>
    intro t k w ht ht2 hk
    cases t with
    | nil => exact ih .nil k w (by simp [M.Bin.n]) ht2 hk
    | node l r =>
      simp only [M.Bin.n] at ht ht2 hk
      have hq : ((M.Bin.node l r).str.toList == [48]) = false := str_nil (.node l r)
      have hP := Lib.hid (l03Sides l r w (by omega))
      have hIl := fun W => Lib.hid (ih l (k + 1) W (by omega) (by omega) (by omega))
      have hIr := fun W => Lib.hid (ih r (k + 1 + l.n) W (by omega) (by omega) (by omega))
      have hN := fun W => Lib.hid (l03N l W (by omega))
      have hv1 := Lib.hid (l.inner_len (k + 1))
      have hv2 := Lib.hid (r.inner_len (k + 1 + l.n))
      have hV : Hid ((M.Bin.node l r).inner k = (l.inner (k + 1) ++ [(k : Int)]) ++ r.inner (k + 1 + l.n)) := by
        show _ = _
        simp [M.Bin.inner]
      have hk1 : (k : Int) ≤ 100000 := by omega
      have hk2 : (k : Int) + 1 + (l.n : Int) ≤ 200000 := by omega
      have hk3 : (l.n : Int) ≤ 1000 := by omega
      have ek : ((k + 1 : Nat) : Int) = (k : Int) + 1 := by omega
      have ek2 : ((k + 1 + l.n : Nat) : Int) = (k : Int) + 1 + (l.n : Int) := by omega
      rw [ek] at hIl
      rw [ek2] at hIr
      generalize (M.Bin.node l r).str = S at *
      generalize l.str = SL at *
      generalize r.str = SR at *
      clear ih ek ek2
      go_enter Tryd.func56, Tryd.ntmps56
      go_wp2_with (first | (go_at_call 48; refine hP.out.mono ?_; rintro e w2 ⟨rfl, hb2⟩) | (go_at_call_of 56 (Value.string SL); refine (hIl _).out.mono ?_; rintro e w3 ⟨A1, n1, c1, rfl, ho1, hb3⟩; have hn1 := Lib.hid ((own64_len ho1.out).trans hv1.out)) | (go_at_call 51; refine (hN _).out.mono ?_; rintro e w' ⟨rfl, hw⟩; subst hw) | (at_builtin; refine push64 rfl (.tmp 19) (.tmp 21) rfl _ w2.heap.size A1 n1 c1 (l.inner (k + 1)) (k : Int) rfl rfl ho1 hb3.out.size (by have := hn1.out; omega) ?_; intro A4 c4 w4 ho4 hb4) | (go_at_call 56; refine (hIr _).out.mono ?_; rintro e w5 ⟨A5, n5, c5, rfl, ho5, hb5⟩; have hn5 := Lib.hid ((own64_len ho5.out).trans hv2.out)) | (at_builtin; refine appendInts rfl (.tmp 23) (.tmp 30) rfl w5 w2.heap.size A4 (n1 + 1) c4 (l.inner (k + 1) ++ [(k : Int)]) A5 n5 c5 (r.inner (k + 1 + l.n)) rfl rfl (own_be ho4.out hb5.out) (ints_of_own64 ho5.out) (own64_len ho5.out).symm (own64_z ho5.out) (by have := hb5.out.size; have := hb4.out.size; have := hb3.out.size; omega) (by have := hn1.out; omega) (by have := hn5.out; omega) ?_; intro A6 c6 w6 ho6 hb6))
      go_ret
      refine ⟨_, _, _, rfl, ?_, ?_⟩
      · rw [hV.out]
        exact own_mono ho6.out hb2.out.size
      · have z3 := hb3.out.size
        have z4 := hb4.out.size
        exact btr hb2.out (((hb3.out.trans hb4.out).trans (hb5.out.mono (by omega))).trans hb6.out)
end Go.Proofs.YtkeahaoeiiigeaaDoor
