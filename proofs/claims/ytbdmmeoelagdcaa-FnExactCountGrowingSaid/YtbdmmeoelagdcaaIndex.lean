/- slices.Index: the first place of a number. -/
import Derived.Test.YtbdmmeoelagdcaaDraw
import Derived.Test.YtbdmmeoelagdcaaPush
import Derived.LoopTactic
namespace Go.Proofs.Ytbdmmeoelagdcaa
open Go.RowKit

namespace M
theorem nextOf_mem (l : List Int) (x : Int) : ∀ (m k : Nat), k + m = l.length → decide (0 ≤ nextOf l x k m) = decide (x ∈ l.drop k) := by
  intro m
  induction m with
  | zero => intro k h; rw [List.drop_of_length_le (by omega)]; simp [nextOf]
  | succ m ih =>
    intro k h
    obtain ⟨y, hy⟩ : ∃ y, l[k]? = some y := ⟨_, List.getElem?_eq_getElem (by omega)⟩
    by_cases hyx : y = x
    · subst hyx
      rw [nextOf_hit hy, drop_at hy, decide_eq_true (by omega), decide_eq_true List.mem_cons_self]
    · rw [nextOf_miss hy hyx, ih (k + 1) (by omega), drop_at hy]
      have e : (x ∈ y :: l.drop (k + 1)) = (x ∈ l.drop (k + 1)) := by
        rw [List.mem_cons]
        exact propext ⟨fun h => h.resolve_left (fun e => hyx e.symm), .inr⟩
      simp only [e]
theorem idxOf_mem (l : List Int) (x : Int) : decide (0 ≤ idxOf l x) = decide (x ∈ l) := by
  have := nextOf_mem l x l.length 0 (by omega)
  rw [List.drop_zero] at this
  exact this
end M

set_option maxHeartbeats 1000000 in
theorem indexFirst (A : Option Addr) (gs : List Int) (g c : Nat) (s : Int) (w : World) (hg : Hid (gs.length = g)) (hg' : g ≤ 1048576) (h : Hid (Ints w w.heap.size A gs)) (r : Int) (hr : Hid (M.idxOf gs s = r)) :
    Calls Try.prog 170 #[.slice A g c, .int .i64 s] w fun e w' => e = .returned (.int .i64 r) ∧ w = w' := by
  have h0 : Hid (M.nextOf gs s 0 (g - 0) = r) := by show _ = _; rw [← hr.out, M.idxOf, hg.out]; rfl
  clear hr
  go_enter Try.func170, Try.ntmps170
  go_wp2
  go_loopw [8] (fun i wr => ∃ k : Nat, k ≤ g ∧ i = .int .i64 (k : Int) ∧ w = wr ∧ Hid (M.nextOf gs s k (g - k) = r)) (fun i _ => g - (intOf i).toNat)
  case atStart => exact ⟨0, Nat.zero_le _, rfl, rfl, h0⟩
  case round =>
    obtain ⟨k, hk, rfl, rfl, hn⟩ := hrel
    clear h0
    by_cases hlt : k < g
    · have hki : (k : Int) < (g : Int) := by omega
      have hk0 : (0 : Int) ≤ (k : Int) := by omega
      obtain ⟨b, off, x, rfl, hbB, hc, hX⟩ := h.out.at_ (k := k) (by rw [hg.out]; exact hlt)
      have hm : g - k = g - (k + 1) + 1 := by omega
      by_cases hxs : s = x
      · subst hxs
        have hin : Hid ((k : Int) = r) := by show _ = _; rw [← hn.out, hm, M.nextOf_hit hX.out]
        clear hn hX hm
        go_wp2
        go_ret
        exact ⟨by rw [← hin.out]; rfl, rfl⟩
      · have hb : (s == x) = false := by simpa using hxs
        have hn2 : Hid (M.nextOf gs s (k + 1) (g - (k + 1)) = r) := by show _ = _; rw [← hn.out, hm, M.nextOf_miss hX.out (fun e => hxs e.symm)]
        clear hxs hn hX hm
        go_wp2
        go_roundw
        case rel => exact ⟨k + 1, by omega, by go_num, trivial, hn2⟩
        case measure => simp [intOf]; omega
    · obtain rfl : k = g := by omega
      have hge : ¬ (k : Int) < (k : Int) := by omega
      have hout : Hid (-1 = r) := by show _ = _; rw [← hn.out, Nat.sub_self]; rfl
      clear hn
      go_wp2
      go_ret
      exact ⟨by rw [← hout.out]; rfl, rfl⟩

theorem containsIs (A : Option Addr) (gs : List Int) (g c : Nat) (s : Int) (w : World) (hg : Hid (gs.length = g)) (hg' : g ≤ 1048576) (h : Hid (Ints w w.heap.size A gs)) (b : Bool) (hb : Hid (decide (s ∈ gs) = b)) :
    Calls Try.prog 149 #[.slice A g c, .int .i64 s] w fun e w' => e = .returned (.bool b) ∧ w = w' := by
  obtain ⟨r, hr⟩ : ∃ r, Hid (M.idxOf gs s = r) := ⟨_, rfl⟩
  have hd : decide ((0 : Int) ≤ r) = b := by rw [← hr.out, M.idxOf_mem, hb.out]
  go_enter Try.func149, Try.ntmps149
  go_wp2_with fail
  refine (indexFirst A gs g c s w hg hg' h r hr).mono ?_
  rintro e w' ⟨rfl, rfl⟩
  clear hr hb
  cases b
  · go_wp2
    go_ret
    exact ⟨rfl, rfl⟩
  · go_wp2
    go_ret
    exact ⟨rfl, rfl⟩
end Go.Proofs.Ytbdmmeoelagdcaa
