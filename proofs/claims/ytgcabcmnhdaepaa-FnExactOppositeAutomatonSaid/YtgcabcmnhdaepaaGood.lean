/- Is a state good: slices.Index, slices.Contains, isGood, the program's; l06Good, the model's. -/
import Derived.Test.YtgcabcmnhdaepaaAuto
namespace Go.Proofs.Ytgcabcmnhdaepaa
open Go.RowKit

theorem not_mem_succ {gs : List Int} {s x : Int} {k : Nat} (h : s ∉ gs.take k) (hx : gs[k]? = some x) (hne : x ≠ s) : s ∉ gs.take (k + 1) := by
  rw [List.take_add_one, hx]
  intro hm
  rcases List.mem_append.1 hm with h1 | h1
  · exact h h1
  · simp at h1
    exact hne h1.symm

/-- does a place tell that s is one of the numbers -/
def IsAt (r s : Int) (gs : List Int) : Prop := decide (0 ≤ r) = decide (s ∈ gs)

set_option maxHeartbeats 1000000 in
theorem slicesIndex (A : Option Addr) (gs : List Int) (g c : Nat) (s : Int) (w : World) (hg : Hid (gs.length = g)) (hg' : g ≤ 1048576) (h : Hid (Ints w w.heap.size A gs)) :
    Calls Try.prog 148 #[.slice A g c, .int .i64 s] w fun e w' => ∃ r : Int, e = .returned (.int .i64 r) ∧ Hid (IsAt r s gs) ∧ w = w' := by
  go_enter Try.func148, Try.ntmps148
  go_wp2
  go_loopw [8] (fun i wr => ∃ k : Nat, k ≤ g ∧ i = .int .i64 (k : Int) ∧ w = wr ∧ Hid (s ∉ gs.take k)) (fun i _ => g - (intOf i).toNat)
  case atStart => exact ⟨0, Nat.zero_le _, rfl, rfl, by simp [Hid]⟩
  case round =>
    obtain ⟨k, hk, rfl, rfl, hn⟩ := hrel
    by_cases hlt : k < g
    · have hki : (k : Int) < (g : Int) := by omega
      have hk0 : (0 : Int) ≤ (k : Int) := by omega
      obtain ⟨b, off, x, rfl, hbB, hc, hX⟩ := h.out.at_ (k := k) (by rw [hg.out]; exact hlt)
      by_cases hxs : s = x
      · subst hxs
        have hin : Hid (IsAt (k : Int) s gs) := by
          show decide (0 ≤ (k : Int)) = decide (s ∈ gs)
          rw [decide_eq_true (List.mem_of_getElem? hX.out), decide_eq_true hk0]
        clear hn hX
        go_wp2
        go_ret
        exact ⟨_, rfl, hin, rfl⟩
      · have hb : (s == x) = false := by simpa using hxs
        have hn2 : Hid (s ∉ gs.take (k + 1)) := not_mem_succ hn.out hX.out (fun e => hxs e.symm)
        clear hxs hn hX
        go_wp2
        go_roundw
        case rel => exact ⟨k + 1, by omega, by go_num, trivial, hn2⟩
        case measure => simp [intOf]; omega
    · obtain rfl : k = g := by omega
      have hge : ¬ (k : Int) < (k : Int) := by omega
      have hout : Hid (IsAt (-1) s gs) := by
        show decide ((0 : Int) ≤ -1) = decide (s ∈ gs)
        have := hn.out
        rw [List.take_of_length_le (by rw [hg.out]; exact Nat.le_refl _)] at this
        rw [decide_eq_false this]; rfl
      clear hn
      go_wp2
      go_ret
      exact ⟨_, rfl, hout, rfl⟩

theorem slicesContains (A : Option Addr) (gs : List Int) (g c : Nat) (s : Int) (w : World) (hg : Hid (gs.length = g)) (hg' : g ≤ 1048576) (h : Hid (Ints w w.heap.size A gs)) (b : Bool) (hb : Hid (decide (s ∈ gs) = b)) :
    Calls Try.prog 117 #[.slice A g c, .int .i64 s] w fun e w' => e = .returned (.bool b) ∧ w = w' := by
  go_enter Try.func117, Try.ntmps117
  go_wp2_with fail
  refine (slicesIndex A gs g c s w hg hg' h).mono ?_
  rintro e w' ⟨r, rfl, hr, rfl⟩
  have hd : decide ((0 : Int) ≤ r) = b := hr.out.trans hb.out
  clear hr
  cases b
  · go_wp2
    go_ret
    exact ⟨rfl, rfl⟩
  · go_wp2
    go_ret
    exact ⟨rfl, rfl⟩

theorem isGood (st : Int) (As Ag : Option Addr) (gs : List Int) (m cm g cg : Nat) (s : Int) (w : World) (hg : Hid (gs.length = g)) (hg' : g ≤ 1048576) (h : Hid (Ints w w.heap.size Ag gs)) (b : Bool) (hb : Hid (decide (s ∈ gs) = b)) :
    Calls Try.prog 74 #[.agg #[.int .i64 st, .slice As m cm, .slice Ag g cg], .int .i64 s] w fun e w' => e = .returned (.bool b) ∧ Hid (Below w.heap.size w w') := by
  go_enter Try.func74, Try.ntmps74
  go_wp2_with fail
  refine (slicesContains Ag gs g cg s _ hg hg' (Lib.hid (h.out.al _)) b hb).mono ?_
  rintro e w' ⟨rfl, rfl⟩
  go_wp2
  go_ret
  exact ⟨rfl, bal (b0 w) _⟩

set_option maxHeartbeats 1000000 in
theorem l06Good (st : Int) (As Ag : Option Addr) (gs : List Int) (m cm g cg : Nat) (s : Int) (w : World) (hg : Hid (gs.length = g)) (hg' : g ≤ 1048576) (h : Hid (Ints w w.heap.size Ag gs)) (b : Bool) (hb : Hid (decide (s ∈ gs) = b)) :
    Calls Try.prog 70 #[.agg #[.int .i64 st, .slice As m cm, .slice Ag g cg], .int .i64 s] w fun e w' => e = .returned (.bool b) ∧ Hid (Below w.heap.size w w') := by
  go_enter Try.func70, Try.ntmps70
  go_wp2
  have hB := Lib.hid (bal (b0 w) (.cells #[.int .i64 st, .slice As m cm, .slice Ag g cg] 27))
  have hI := Lib.hid (h.out.al (.cells #[.int .i64 st, .slice As m cm, .slice Ag g cg] 27))
  obtain ⟨W, hW⟩ : ∃ W, W = w.alloc (.cells #[.int .i64 st, .slice As m cm, .slice Ag g cg] 27) := ⟨_, rfl⟩
  have c2 : W.cell? ⟨w.heap.size, 2, none⟩ = some (.slice Ag g cg) := by rw [hW]; simp [go_sem]
  rw [← hW] at hB hI ⊢
  clear hW
  go_loopw [5] (fun i wr => ∃ k : Nat, k ≤ g ∧ i = .int .i64 (k : Int) ∧ W = wr ∧ Hid (s ∉ gs.take k)) (fun i _ => g - (intOf i).toNat)
  case atStart => exact ⟨0, Nat.zero_le _, rfl, rfl, by simp [Hid]⟩
  case round =>
    obtain ⟨k, hk, rfl, rfl, hn⟩ := hrel
    by_cases hlt : k < g
    · have hki : (k : Int) < (g : Int) := by omega
      have hk0 : (0 : Int) ≤ (k : Int) := by omega
      obtain ⟨b', off, x, rfl, hbB, hc, hX⟩ := hI.out.at_ (k := k) (by rw [hg.out]; exact hlt)
      by_cases hxs : x = s
      · subst hxs
        have hF : b = true := hb.out.symm.trans (decide_eq_true (List.mem_of_getElem? hX.out))
        subst hF
        clear hn hX
        go_wp2
        go_ret
        exact ⟨rfl, hB⟩
      · have hbb : (x == s) = false := by simpa using hxs
        have hn2 : Hid (s ∉ gs.take (k + 1)) := not_mem_succ hn.out hX.out hxs
        clear hxs hn hX
        go_wp2
        go_roundw
        case rel => exact ⟨k + 1, by omega, by go_num, trivial, hn2⟩
        case measure => simp [intOf]; omega
    · obtain rfl : k = g := by omega
      have hge : ¬ (k : Int) < (k : Int) := by omega
      have hF : b = false := by
        have := hn.out
        rw [List.take_of_length_le (by rw [hg.out]; exact Nat.le_refl _)] at this
        rw [← hb.out, decide_eq_false this]
      subst hF
      clear hn
      go_wp2
      go_ret
      exact ⟨rfl, hB⟩
end Go.Proofs.Ytgcabcmnhdaepaa
