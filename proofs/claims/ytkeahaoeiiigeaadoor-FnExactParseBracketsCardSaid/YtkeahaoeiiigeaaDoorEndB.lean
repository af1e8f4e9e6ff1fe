/- The model's reader of binary trees: l03End, l03Is. -/
import Derived.Test.YtkeahaoeiiigeaaDoorCodeB
namespace Go.Proofs.YtkeahaoeiiigeaaDoor
open Go.RowKit

/-- the place behind the part that begins at a place -/
def endAt (l : List UInt8) (k : Nat) : Int := match M.after (l.drop k) 1 with | some r => ((l.length - r.length : Nat) : Int) | none => -1
theorem byte_at (s : ByteArray) {k : Nat} (h : k < s.size) : s.data.toList.drop k = s[k] :: s.data.toList.drop (k + 1) := by
  have h2 : k < s.data.toList.length := by rw [← Lib.size_eq]; exact h
  rw [List.drop_eq_getElem_cons h2]
  congr 1

set_option maxRecDepth 100000 in
set_option maxHeartbeats 2000000 in
theorem l03End (s : ByteArray) (j : Nat) (w : World) (hs : s.size ≤ 1048576) (hj : j ≤ s.size) :
    Calls Tryd.prog 80 #[.string s, .int .i64 (j : Int)] w fun e w' => e = .returned (.int .i64 (endAt s.data.toList j)) ∧ w' = w := by
  have hb : Hid (∀ k (h : k < s.size), s.data.toList.drop k = s[k] :: s.data.toList.drop (k + 1)) := fun k h => byte_at s h
  have hle : Hid (s.data.toList.length = s.size) := (Lib.size_eq s).symm
  obtain ⟨R, hR⟩ : ∃ R, M.after (s.data.toList.drop j) 1 = R := ⟨_, rfl⟩
  obtain ⟨E, hE⟩ : ∃ E, endAt s.data.toList j = E := ⟨_, rfl⟩
  have hE0 : Hid (R = none → E = -1) := fun e => by rw [← hE, endAt, hR, e]
  have hE1 : Hid (∀ k, R = some (s.data.toList.drop k) → k ≤ s.size → E = (k : Int)) := fun k e h => by
    rw [← hE, endAt, hR, e]
    show (((s.data.toList.length - (s.data.toList.drop k).length : Nat)) : Int) = k
    rw [List.length_drop, hle.out]; omega
  have h0 : Hid (M.after (s.data.toList.drop j) 1 = R) := hR
  have hj' := Lib.hid hj
  rw [hE]
  clear hR hE
  generalize s.data.toList = L at *
  go_enter Tryd.func80, Tryd.ntmps80
  go_wp2
  go_loopw [1, 5] (fun qa qo wr => ∃ (o k : Nat), j ≤ k ∧ k ≤ s.size ∧ qo = .int .i64 (o : Int) ∧ qa = .int .i64 (k : Int) ∧ wr = w ∧ o ≤ k + 1 ∧ Hid (M.after (L.drop k) o = R)) (fun qa _ _ => s.size - (intOf qa).toNat)
  case atStart => exact ⟨1, j, Nat.le_refl _, hj'.out, rfl, rfl, rfl, by omega, h0⟩
  case round =>
    obtain ⟨o, k, hjk, hk, rfl, rfl, rfl, ho, ha⟩ := hrel
    by_cases ho0 : 0 < o
    · have hoi : (0 : Int) < (o : Int) := by omega
      obtain ⟨m, rfl⟩ : ∃ m, o = m + 1 := ⟨o - 1, by omega⟩
      by_cases hlt : k < s.size
      · have hb1 := Lib.hid (hb.out k hlt)
        have hki : ¬ s.size ≤ k := by omega
        have hx : Hid (∀ c : UInt8, s[k] ≠ c → (s[k].toNat : Int) ≠ (c.toNat : Int)) := fun c h e => h (UInt8.toNat_inj.1 (by omega))
        by_cases h48 : s[k] = 48
        · have h1 := Lib.hid (show M.after (L.drop (k + 1)) m = R by rw [← ha.out, hb1.out, h48, M.after_0])
          have e48 : (s[k].toNat : Int) = 48 := by rw [h48]; rfl
          clear hE0 hE1 hb ha hb1 h0 hx h48
          go_wp2
          go_roundw
          case rel => exact ⟨m, k + 1, by omega, by omega, by go_num, by go_num, trivial, by omega, h1⟩
          case measure => simp [intOf]; omega
        · have q48 : ((s[k].toNat : Int) != 48) = true := by simpa using hx.out 48 h48
          by_cases h49 : s[k] = 49
          · have h1 := Lib.hid (show M.after (L.drop (k + 1)) (m + 2) = R by rw [← ha.out, hb1.out, h49, M.after_1])
            have e49 : (s[k].toNat : Int) = 49 := by rw [h49]; rfl
            clear hE0 hE1 hb ha hb1 h0 hx h48 h49
            go_wp2
            go_roundw
            case rel => exact ⟨m + 2, k + 1, by omega, by omega, by go_num, by go_num, trivial, by omega, h1⟩
            case measure => simp [intOf]; omega
          · have h1 := Lib.hid (hE0.out (by rw [← ha.out, hb1.out, M.after_x _ _ h48 h49]))
            have q49 : ((s[k].toNat : Int) != 49) = true := by simpa using hx.out 49 h49
            clear hE0 hE1 hb ha hb1 h0 hx h48 h49
            go_wp2
            go_ret
            rw [h1.out]
            exact ⟨rfl, rfl⟩
      · obtain rfl : k = s.size := by omega
        have h1 := Lib.hid (hE0.out (by rw [← ha.out, List.drop_of_length_le (by rw [hle.out]; omega)]; rfl))
        clear hE0 hE1 hb ha h0
        go_wp2
        go_ret
        rw [h1.out]
        exact ⟨rfl, rfl⟩
    · obtain rfl : o = 0 := by omega
      have h1 := Lib.hid (hE1.out k (by rw [← ha.out, M.after_zero]) hk)
      clear hE0 hE1 hb ha h0
      go_wp2
      go_ret
      rw [h1.out]
      exact ⟨rfl, rfl⟩

theorem endAt_is (s : ByteArray) : (endAt s.data.toList 0 == (s.size : Int)) = (M.after s.data.toList 1 == some []) := by
  have hz : s.data.toList.length = s.size := (Lib.size_eq s).symm
  rw [endAt, List.drop_zero]
  cases h : M.after s.data.toList 1 with
  | none =>
    have h1 : ((-1 : Int) == (s.size : Int)) = false := beq_eq_false_iff_ne.2 (by omega)
    show ((-1 : Int) == (s.size : Int)) = _
    rw [h1]
    rfl
  | some r =>
    have hl := M.after_len h
    rw [hz] at hl
    show (((s.data.toList.length - r.length : Nat) : Int) == (s.size : Int)) = _
    rw [hz]
    cases r with
    | nil => simp
    | cons c r =>
      simp only [List.length_cons] at hl
      have h1 : (((s.size - (c :: r).length : Nat) : Int) == (s.size : Int)) = false := beq_eq_false_iff_ne.2 (by simp only [List.length_cons]; omega)
      rw [h1]
      rfl

set_option maxRecDepth 100000 in
theorem l03Is (s : ByteArray) (w : World) (hs : s.size ≤ 1048576) : Calls Tryd.prog 46 #[.string s] w fun e w' => e = .returned (.bool (okB s)) ∧ w' = w := by
  by_cases h47 : s.size ≤ 47
  · have hi : (s.size : Int) ≤ 47 := by omega
    have hE := Lib.hid (l03End s 0 w hs (Nat.zero_le _))
    have hk : Hid (okB s = (endAt s.data.toList 0 == (s.size : Int))) := by
      show _ = _
      rw [endAt_is, okB, M.isBin, ← Lib.size_eq, decide_eq_true h47, Bool.true_and]
    rw [hk.out]
    generalize endAt s.data.toList 0 = z at *
    go_enter Tryd.func46, Tryd.ntmps46
    go_wp2_with (go_at_call 80; refine hE.out.mono ?_; rintro e w' ⟨rfl, hw⟩; subst hw)
    go_ret
    exact ⟨rfl, rfl⟩
  · have hi : ¬ (s.size : Int) ≤ 47 := by omega
    rw [okB_long (by omega)]
    go_enter Tryd.func46, Tryd.ntmps46
    go_wp2
    go_ret
    exact ⟨rfl, rfl⟩
end Go.Proofs.YtkeahaoeiiigeaaDoor
