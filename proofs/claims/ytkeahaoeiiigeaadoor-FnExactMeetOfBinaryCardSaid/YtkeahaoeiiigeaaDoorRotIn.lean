/- Where parts begin: beginOfPart, l03Place; numbers in a range. -/
import Derived.Test.YtkeahaoeiiigeaaDoorVisitI
namespace Go.Proofs.YtkeahaoeiiigeaaDoor
open Go.RowKit

theorem withinB (x lo hi : Int) (w : World) : Calls Tryd.prog 69 #[.int .i64 x, .int .i64 lo, .int .i64 hi] w fun e w' => e = .returned (.bool (decide (lo ≤ x) && decide (x ≤ hi))) ∧ w' = w := by
  by_cases h1 : lo ≤ x
  · by_cases h2 : x ≤ hi
    · rw [decide_eq_true h1, decide_eq_true h2]
      go_enter Tryd.func69, Tryd.ntmps69
      go_wp2
      go_ret
      exact ⟨rfl, rfl⟩
    · rw [decide_eq_true h1, decide_eq_false h2]
      go_enter Tryd.func69, Tryd.ntmps69
      go_wp2
      go_ret
      exact ⟨rfl, rfl⟩
  · rw [decide_eq_false h1]
    go_enter Tryd.func69, Tryd.ntmps69
    go_wp2
    go_ret
    exact ⟨rfl, rfl⟩
theorem l01In (x lo hi : Int) (w : World) : Calls Tryd.prog 66 #[.int .i64 x, .int .i64 lo, .int .i64 hi] w fun e w' => e = .returned (.bool (decide (lo ≤ x) && decide (x ≤ hi))) ∧ w' = w := by
  by_cases h1 : lo ≤ x
  · by_cases h2 : x ≤ hi
    · rw [decide_eq_true h1, decide_eq_true h2]
      go_enter Tryd.func66, Tryd.ntmps66
      go_wp2
      go_ret
      exact ⟨rfl, rfl⟩
    · rw [decide_eq_true h1, decide_eq_false h2]
      go_enter Tryd.func66, Tryd.ntmps66
      go_wp2
      go_ret
      exact ⟨rfl, rfl⟩
  · rw [decide_eq_false h1]
    go_enter Tryd.func66, Tryd.ntmps66
    go_wp2
    go_ret
    exact ⟨rfl, rfl⟩

/-- where the byte 49 stands first -/
theorem indexOne (s : ByteArray) (w : World) (h : 0 < M.ones s.data.toList) : Calls Tryd.prog 107 #[.string s, .int .u8 49] w fun e w' => e = .returned (.int .i64 (M.place s.data.toList 0 : Int)) ∧ w' = w := by
  have := Tryd.strings_IndexByte s 49 w
  rw [show (49 : Int).toNat.toUInt8 = 49 from rfl, M.place_first _ h] at this
  exact this
theorem drop_str (s : ByteArray) (k : Nat) : s.extract k s.size = M.bs (s.data.toList.drop k) := by
  rw [Lib.extract_eq, Lib.size_eq, List.take_of_length_le (by rw [List.length_drop]; omega)]
  rfl

set_option maxRecDepth 100000 in
set_option maxHeartbeats 2000000 in
theorem beginOfPart (s : ByteArray) (i : Nat) (w : World) (hs : s.size ≤ 1000) (hi : i < M.ones s.data.toList) : Calls Tryd.prog 101 #[.string s, .int .i64 (i : Int)] w fun e w' => e = .returned (.int .i64 (M.place s.data.toList i : Int)) ∧ w' = w := by
  have H0 := fun W => Lib.hid (indexOne s W (by omega))
  have hN : Hid (∀ j, j < i → M.place s.data.toList (j + 1) = M.place s.data.toList j + 1 + M.place (s.data.toList.drop (M.place s.data.toList j + 1)) 0 ∧ 0 < M.ones (s.data.toList.drop (M.place s.data.toList j + 1)) ∧ M.place s.data.toList j < s.size) := fun j hj => by
    have h1 := M.ones_drop s.data.toList j (by omega)
    have h2 := M.place_lt (l := s.data.toList) (i := j) (by omega)
    rw [← Lib.size_eq] at h2
    exact ⟨M.place_next _ _ (by omega), by omega, h2⟩
  have hD : Hid (∀ k, s.extract k s.size = M.bs (s.data.toList.drop k)) := drop_str s
  have hi' : i ≤ 1000 := by
    have := M.place_lt (l := s.data.toList) (i := i) hi
    have h2 : M.ones s.data.toList ≤ s.data.toList.length := by
      have : ∀ l : List UInt8, M.ones l ≤ l.length := fun l => by
        induction l with
        | nil => simp [M.ones]
        | cons c r ih => rw [M.ones]; split <;> simp <;> omega
      exact this _
    rw [← Lib.size_eq] at h2
    omega
  clear hi
  generalize s.data.toList = L at *
  go_enter Tryd.func101, Tryd.ntmps101
  go_wp2_with (go_at_call 107; refine (H0 _).out.mono ?_; rintro e w' ⟨rfl, hw⟩; subst hw)
  go_loopw [5, 9] (fun qb qj wr => ∃ (j : Nat), j ≤ i ∧ qj = .int .i64 (j : Int) ∧ qb = .int .i64 (M.place L j : Int) ∧ wr = w') (fun _ qj _ => i - (intOf qj).toNat)
  case atStart => exact ⟨0, Nat.zero_le _, rfl, rfl, rfl⟩
  case round =>
    obtain ⟨j, hj, rfl, rfl, rfl⟩ := hrel
    by_cases hlt : j < i
    · have hji : (j : Int) < (i : Int) := by omega
      obtain ⟨n1, n2, n3⟩ := hN.out j hlt
      have N1 := Lib.hid n1
      have hI := Lib.hid (indexOne (s.extract (M.place L j + 1) s.size) wr (by rw [hD.out, M.bs_data]; exact n2))
      rw [hD.out, M.bs_data, ← hD.out] at hI
      have q1 : (M.place L j : Int) < (s.size : Int) := by omega
      have q2 : (0 : Int) ≤ (M.place L j : Int) := by omega
      have hq3 : M.place (L.drop (M.place L j + 1)) 0 < 1000 := by
        have := M.place_lt (l := L.drop (M.place L j + 1)) (i := 0) n2
        rw [List.length_drop] at this
        have h4 := hD.out 0
        have h5 := congrArg ByteArray.size h4
        rw [M.bs_size, List.drop_zero, ByteArray.size_extract] at h5
        omega
      clear n1 n2 hN hD H0
      generalize M.place (L.drop (M.place L j + 1)) 0 = z at *
      obtain ⟨P, hP⟩ : ∃ P, M.place L j = P := ⟨_, rfl⟩
      rw [hP] at N1 hI q1 q2 n3 ⊢
      have hsl : ∀ W, (Instr.slice 9 (.string s) (some (.int .i64 ((P : Int) + 1))) none none).run Tryd.prog W = .ok (.string (s.extract (P + 1) s.size)) W := fun W => by
        have := run_slice_string_l (P := Tryd.prog) W 9 s Tryd.underlying9 .i64 ((P : Int) + 1) (by omega) (by omega)
        rw [show ((P : Int) + 1).toNat = P + 1 by omega] at this
        exact this
      clear hP
      go_wp2_with (go_at_call 107; refine hI.out.mono ?_; rintro e w' ⟨rfl, hw⟩; subst hw)
      go_roundw
      case rel => exact ⟨j + 1, by omega, by go_num, by rw [N1.out]; go_num, trivial⟩
      case measure => simp [intOf]; omega
    · obtain rfl : j = i := by omega
      go_wp2
      go_ret
      exact ⟨rfl, rfl⟩

set_option maxRecDepth 100000 in
set_option maxHeartbeats 2000000 in
theorem l03Place (s : ByteArray) (i : Nat) (w : World) (hs : s.size ≤ 1000) (hi : i < M.ones s.data.toList) (hi2 : i ≤ 1000) : Calls Tryd.prog 84 #[.string s, .int .i64 (i : Int)] w fun e w' => e = .returned (.int .i64 (M.place s.data.toList i : Int)) ∧ w' = w := by
  have hb : Hid (∀ k (h : k < s.size), s.data.toList.drop k = s[k] :: s.data.toList.drop (k + 1)) := fun k h => byte_at s h
  have hle : Hid (s.data.toList.length = s.size) := (Lib.size_eq s).symm
  obtain ⟨P, hP⟩ : ∃ P, M.place s.data.toList i = P := ⟨_, rfl⟩
  have hP' := Lib.hid hP
  have hi' := Lib.hid hi
  rw [hP]
  clear hP hi
  generalize s.data.toList = L at *
  go_enter Tryd.func84, Tryd.ntmps84
  go_wp2
  go_loopw [1, 5] (fun qi qa wr => ∃ (j k : Nat), j ≤ 1000 ∧ k ≤ s.size ∧ qi = .int .i64 (j : Int) ∧ qa = .int .i64 (k : Int) ∧ wr = w ∧ Hid (j < M.ones (L.drop k)) ∧ Hid (k + M.place (L.drop k) j = P)) (fun _ qa _ => s.size - (intOf qa).toNat)
  case atStart => exact ⟨i, 0, hi2, Nat.zero_le _, rfl, rfl, rfl, by rw [List.drop_zero]; exact hi', by rw [List.drop_zero, Nat.zero_add]; exact hP'⟩
  case round =>
    obtain ⟨j, k, hj, hk, rfl, rfl, rfl, ho, hp⟩ := hrel
    have hlt : k < s.size := by
      rcases Nat.lt_or_ge k s.size with h | h
      · exact h
      · have := ho.out
        rw [List.drop_of_length_le (by rw [hle.out]; exact h)] at this
        simp [M.ones] at this
    have hki : (k : Int) < (s.size : Int) := by omega
    have hb1 := Lib.hid (hb.out k hlt)
    by_cases h49 : s[k] = 49
    · have e49 : (s[k].toNat : Int) = 49 := by rw [h49]; rfl
      rw [hb1.out, h49] at ho hp
      cases j with
      | zero =>
        have h1 := Lib.hid (show k = P by have := hp.out; rw [M.place_0] at this; exact this)
        clear hb hb1 ho hp h49
        go_wp2
        go_ret
        rw [h1.out]
        exact ⟨rfl, rfl⟩
      | succ j =>
        have h1 : Hid (j < M.ones (L.drop (k + 1))) := by have := ho.out; rw [M.ones, if_pos rfl] at this; show _ < _; omega
        have h2 : Hid (k + 1 + M.place (L.drop (k + 1)) j = P) := by have := hp.out; rw [M.place_1] at this; show _ = _; omega
        have hjn : (((j + 1 : Nat) : Int) == 0) = false := beq_eq_false_iff_ne.2 (by omega)
        clear hb hb1 ho hp h49
        go_wp2
        go_roundw
        case rel => exact ⟨j, k + 1, by omega, by omega, by go_num, by go_num, trivial, h1, h2⟩
        case measure => simp [intOf]; omega
    · have q49 : ((s[k].toNat : Int) == 49) = false := beq_eq_false_iff_ne.2 (fun e => h49 (UInt8.toNat_inj.1 (by have : (49 : UInt8).toNat = 49 := rfl; omega)))
      rw [hb1.out] at ho hp
      have h1 : Hid (j < M.ones (L.drop (k + 1))) := by have := ho.out; rw [M.ones, if_neg h49] at this; exact this
      have h2 : Hid (k + 1 + M.place (L.drop (k + 1)) j = P) := by have := hp.out; rw [M.place_x h49] at this; show _ = _; omega
      clear hb hb1 ho hp h49
      go_wp2
      go_roundw
      case rel => exact ⟨j, k + 1, by omega, by omega, by go_num, by go_num, trivial, h1, h2⟩
      case measure => simp [intOf]; omega
end Go.Proofs.YtkeahaoeiiigeaaDoor
