/- IsMoreGeneral, the program's and the model's. -/
import Derived.Test.YtbdmmeoelagdcaaMtS
import Derived.Test.YtbdmmeoelagdcaaFnIsPattern
namespace Go.Proofs.Ytbdmmeoelagdcaa
open Go.RowKit

def F_IsMoreGeneral (s u : ByteArray) : Bool × Int := if M.isPat s.data.toList && M.isPat u.data.toList then ((M.mt s.data.toList u.data.toList).isSome, 0) else (false, 6)
theorem pat_both {s u : ByteArray} (h : (M.isPat s.data.toList && M.isPat u.data.toList) = true) : M.both s.data.toList u.data.toList ∧ s.size ≤ 60 ∧ u.size ≤ 60 := by
  rw [Bool.and_eq_true] at h
  have h1 := M.isPat_iff.1 h.1
  have h2 := M.isPat_iff.1 h.2
  exact ⟨.inl ⟨h1.2.1, h2.2.1⟩, by rw [Lib.size_eq]; exact h1.1, by rw [Lib.size_eq]; exact h2.1⟩

set_option maxRecDepth 100000 in
set_option maxHeartbeats 2000000 in
theorem impl_IsMoreGeneral : GivesPB 42 F_IsMoreGeneral := by
  intro s u w hs hu
  have hA : Hid (∀ W, Calls Try.prog 19 #[.string s] W fun e w' => e = .returned (.bool (M.isPat s.data.toList)) ∧ Hid (Below W.heap.size W w')) := fun W => impl_IsPattern s W hs
  have hB : Hid (∀ W, Calls Try.prog 19 #[.string u] W fun e w' => e = .returned (.bool (M.isPat u.data.toList)) ∧ Hid (Below W.heap.size W w')) := fun W => impl_IsPattern u W hu
  have hF : Hid (F_IsMoreGeneral s u = if M.isPat s.data.toList && M.isPat u.data.toList then ((M.mt s.data.toList u.data.toList).isSome, 0) else (false, 6)) := rfl
  have hC : Hid ((M.isPat s.data.toList && M.isPat u.data.toList) = true → ∀ W, Calls Try.prog 78 #[.string s, .string u] W fun e w' => ∃ (A : Option Addr) (n c : Nat), e = .returned (.tuple #[.slice A n c, .bool (M.mt s.data.toList u.data.toList).isSome]) ∧ Hid (Below W.heap.size W w')) := fun h W => by
    obtain ⟨_, h1, h2⟩ := pat_both h
    exact (piecesAtLetters s u W (by omega) (by omega)).mono fun e w' ⟨A, n, c, h1, h2, _⟩ => ⟨A, n, c, h1, h2⟩
  rw [hF.out]
  clear hF
  generalize M.mt s.data.toList u.data.toList = R at *
  generalize M.isPat s.data.toList = b1 at *
  generalize M.isPat u.data.toList = b2 at *
  cases b1
  · go_enter Try.func42, Try.ntmps42
    go_wp2_with (go_at_call_of 19 (Value.string s); refine (hA.out _).mono ?_; rintro e w1 ⟨rfl, hb1⟩)
    go_ret2
    exact ⟨rfl, hb1⟩
  · cases b2
    · go_enter Try.func42, Try.ntmps42
      go_wp2_with fail
      refine (hA.out _).mono ?_
      rintro e w1 ⟨rfl, hb1⟩
      go_wp2_with fail
      refine (hB.out _).mono ?_
      rintro e w2 ⟨rfl, hb2⟩
      have hb3 := Lib.hid (btr hb1.out hb2.out)
      clear hb1 hb2
      go_wp2
      go_ret2
      exact ⟨rfl, hb3⟩
    · have hC' := fun W => Lib.hid (hC.out rfl W)
      rw [Bool.and_true, if_pos rfl]
      go_enter Try.func42, Try.ntmps42
      go_wp2_with fail
      refine (hA.out _).mono ?_
      rintro e w1 ⟨rfl, hb1⟩
      go_wp2_with fail
      refine (hB.out _).mono ?_
      rintro e w2 ⟨rfl, hb2⟩
      go_wp2_with fail
      refine (hC' _).out.mono ?_
      rintro e w3 ⟨A, n, c, rfl, hb3⟩
      have hb4 := Lib.hid (btr hb1.out (btr hb2.out hb3.out))
      clear hb1 hb2 hb3
      go_wp2
      go_ret2
      exact ⟨rfl, hb4⟩

set_option maxRecDepth 100000 in
set_option maxHeartbeats 2000000 in
theorem spec_IsMoreGeneral : GivesPB 41 F_IsMoreGeneral := by
  intro s u w hs hu
  have hA : Hid (∀ W, Calls Try.prog 65 #[.string s] W fun e w' => e = .returned (.bool (M.isPat s.data.toList)) ∧ Hid (Below W.heap.size W w')) := fun W => l04Is s W hs
  have hB : Hid (∀ W, Calls Try.prog 65 #[.string u] W fun e w' => e = .returned (.bool (M.isPat u.data.toList)) ∧ Hid (Below W.heap.size W w')) := fun W => l04Is u W hu
  have hF : Hid (F_IsMoreGeneral s u = if M.isPat s.data.toList && M.isPat u.data.toList then ((M.mt s.data.toList u.data.toList).isSome, 0) else (false, 6)) := rfl
  have hC : Hid ((M.isPat s.data.toList && M.isPat u.data.toList) = true → ∀ W, Calls Try.prog 70 #[.string s, .string u] W fun e w' => ∃ (A : Option Addr) (n c : Nat), e = .returned (.tuple #[.slice A n c, .bool (M.mt s.data.toList u.data.toList).isSome]) ∧ Hid (Below W.heap.size W w')) := fun h W => by
    obtain ⟨h0, h1, h2⟩ := pat_both h
    exact (l04Match s u W (by omega) (by omega) (Lib.hid h0)).mono fun e w' ⟨A, n, c, h1, h2, _⟩ => ⟨A, n, c, h1, h2⟩
  rw [hF.out]
  clear hF
  generalize M.mt s.data.toList u.data.toList = R at *
  generalize M.isPat s.data.toList = b1 at *
  generalize M.isPat u.data.toList = b2 at *
  cases b1
  · go_enter Try.func41, Try.ntmps41
    go_wp2_with (go_at_call_of 65 (Value.string s); refine (hA.out _).mono ?_; rintro e w1 ⟨rfl, hb1⟩)
    go_ret2
    exact ⟨rfl, hb1⟩
  · cases b2
    · go_enter Try.func41, Try.ntmps41
      go_wp2_with fail
      refine (hA.out _).mono ?_
      rintro e w1 ⟨rfl, hb1⟩
      go_wp2_with fail
      refine (hB.out _).mono ?_
      rintro e w2 ⟨rfl, hb2⟩
      have hb3 := Lib.hid (btr hb1.out hb2.out)
      clear hb1 hb2
      go_wp2
      go_ret2
      exact ⟨rfl, hb3⟩
    · have hC' := fun W => Lib.hid (hC.out rfl W)
      rw [Bool.and_true, if_pos rfl]
      go_enter Try.func41, Try.ntmps41
      go_wp2_with fail
      refine (hA.out _).mono ?_
      rintro e w1 ⟨rfl, hb1⟩
      go_wp2_with fail
      refine (hB.out _).mono ?_
      rintro e w2 ⟨rfl, hb2⟩
      go_wp2_with fail
      refine (hC' _).out.mono ?_
      rintro e w3 ⟨A, n, c, rfl, hb3⟩
      have hb4 := Lib.hid (btr hb1.out (btr hb2.out hb3.out))
      clear hb1 hb2 hb3
      go_wp2
      go_ret2
      exact ⟨rfl, hb4⟩
end Go.Proofs.Ytbdmmeoelagdcaa
