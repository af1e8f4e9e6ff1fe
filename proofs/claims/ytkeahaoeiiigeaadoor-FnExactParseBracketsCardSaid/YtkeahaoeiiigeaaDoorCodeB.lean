/- codeOfBinary: the code for texts that have to be those of binary trees. -/
import Derived.Test.YtkeahaoeiiigeaaDoorDoor
namespace Go.Proofs.YtkeahaoeiiigeaaDoor
open Go.RowKit

/-- what a reader behind the door comes to: its end, or a panic with the error -/
def readEnd (p : Addr) (ok : Bool) (W : World) (e : Ending) (w' : World) : Prop :=
  e = (if ok then .returned (.tuple #[]) else .panicked [{ v := errV p, recovered := false }]) ∧ w' = W

/-- whether a text is that of a binary tree -/
def okB (s : ByteArray) : Bool := M.isBin s.data.toList
theorem okB_long {s : ByteArray} (h : 47 < s.size) : okB s = false := by
  rw [okB, M.isBin, ← Lib.size_eq, decide_eq_false (by omega)]
  rfl
theorem okB_bad {s : ByteArray} (h : M.after s.data.toList 1 = none) : okB s = false := by
  rw [okB, M.isBin, h]
  simp
theorem okB_rest {s : ByteArray} {r : List UInt8} (h : M.after s.data.toList 1 = some r) (hs : s.size ≤ 47) : okB s = r.isEmpty := by
  rw [okB, M.isBin, h, ← Lib.size_eq, decide_eq_true hs]
  cases r <;> rfl
theorem bs_empty (r : List UInt8) : ((M.bs r).toList == []) = r.isEmpty := by
  rw [Lib.toList_data, M.bs_data]
  cases r <;> rfl

set_option maxRecDepth 100000 in
set_option maxHeartbeats 1000000 in
theorem readTexts (p : Addr) (b g n : Nat) (ss : List ByteArray) (W : World) (hb : W.cell? ⟨b, 0, none⟩ = some (.slice (some ⟨g, 0, none⟩) n n)) (hn : Hid (ss.length = n)) (hn2 : n ≤ 1000) (hcells : Hid (∀ k s, ss[k]? = some s → W.cell? ⟨g, k, none⟩ = some (.string s)))
    (hc : W.cell? ⟨0, 0, none⟩ = some (errV p)) :
    Calls Tryd.prog 81 #[.pointer (some ⟨b, 0, none⟩)] W (readEnd p (ss.all okB) W) := by
  have hdone : Hid (∀ (k : Nat) (s : ByteArray), (ss.take k).all okB = true → ss[k]? = some s → okB s = true → (ss.take (k + 1)).all okB = true) := fun k s h1 h2 h3 => by
    rw [List.take_add_one, List.all_append, h1, h2]
    simp [h3]
  have hbad : Hid (∀ (k : Nat) (s : ByteArray), ss[k]? = some s → okB s = false → readEnd p (ss.all okB) W (.panicked [{ v := errV p, recovered := false }]) W) := fun k s h2 h3 => by
    have : ss.all okB = false := List.all_eq_false.2 ⟨s, List.mem_of_getElem? h2, by rw [h3]; decide⟩
    rw [this]
    exact ⟨rfl, rfl⟩
  have hend : Hid ((ss.take n).all okB = true → readEnd p (ss.all okB) W (.returned (.tuple #[])) W) := fun h => by
    rw [← hn.out, List.take_length] at h
    rw [h]
    exact ⟨rfl, rfl⟩
  have hcE := Lib.hid hc
  rw [errV] at hc hbad
  generalize readEnd p (ss.all okB) W = E at *
  go_enter Tryd.func81, Tryd.ntmps81
  go_wp2
  go_loopw [5] (fun qi wr => ∃ (k : Nat), k ≤ n ∧ qi = .int .i64 (k : Int) ∧ wr = W ∧ Hid ((ss.take k).all okB = true)) (fun qi _ => n - (intOf qi).toNat)
  case atStart => exact ⟨0, Nat.zero_le _, rfl, rfl, by simp [Hid]⟩
  case round =>
    obtain ⟨k, hk, rfl, rfl, ho⟩ := hrel
    by_cases hlt : k < n
    · have hki : (k : Int) < (n : Int) := by omega
      have hs : Hid (ss[k]? = some (ss[k]'(by have := hn.out; omega))) := List.getElem?_eq_getElem _
      generalize ss[k]'(by have := hn.out; omega) = s at hs
      have hg := hcells.out k s hs.out
      by_cases h47 : 47 < s.size
      · have h47i : (47 : Int) < (s.size : Int) := by omega
        have hE := Lib.hid (hbad.out k s hs.out (okB_long h47))
        clear hbad hdone hend hcells
        go_wp2_with fail
        exact ⟨rfl, hE.out⟩
      · have h47i : ¬ (47 : Int) < (s.size : Int) := by omega
        have hB := Lib.hid (behindPart p s.size s wr (Nat.le_refl _) hcE.out)
        cases ha : M.after s.data.toList 1 with
        | none =>
          have hE := Lib.hid (hbad.out k s hs.out (okB_bad ha))
          have K1 : Hid (Calls Tryd.prog 82 #[.string s] wr fun e w' => e = .panicked [{ v := errV p, recovered := false }] ∧ w' = wr) := by
            have := hB.out
            unfold behindEnd at this
            rw [ha] at this
            exact this
          clear hbad hdone hend hcells hB ha
          go_wp2_with (go_at_call 82; with_reducible refine K1.out.mono ?_; rintro e w' ⟨rfl, hw⟩; subst hw)
          exact ⟨rfl, hE.out⟩
        | some r =>
          have K1 : Hid (Calls Tryd.prog 82 #[.string s] wr fun e w' => e = .returned (.string (M.bs r)) ∧ w' = wr) := by
            have := hB.out
            unfold behindEnd at this
            rw [ha] at this
            exact this
          have ho2 := okB_rest ha (by omega)
          have hz := bs_empty r
          generalize M.bs r = R at *
          cases hr : r.isEmpty
          · rw [hr] at ho2 hz
            have hE := Lib.hid (hbad.out k s hs.out ho2)
            clear hbad hdone hend hcells hB ha ho2 hr
            go_wp2_with (go_at_call 82; with_reducible refine K1.out.mono ?_; rintro e w' ⟨rfl, hw⟩; subst hw)
            exact ⟨rfl, hE.out⟩
          · rw [hr] at ho2 hz
            have hN := Lib.hid (hdone.out k s ho.out hs.out ho2)
            clear hbad hdone hend hcells hB ha ho2 hr
            go_wp2_with (go_at_call 82; with_reducible refine K1.out.mono ?_; rintro e w' ⟨rfl, hw⟩; subst hw)
            go_roundw
            case rel => exact ⟨k + 1, by omega, by go_num, trivial, hN⟩
            case measure => simp [intOf]; omega
    · obtain rfl : k = n := by omega
      have hE := Lib.hid (hend.out ho.out)
      clear hbad hdone hend hcells
      go_wp2
      go_end0
      exact hE.out

theorem nil_neq_nil (w : World) : (binOp .neq 65 .nilIface .nilIface).run Tryd.prog w = .ok (.bool false) w := by kernel_rfl
theorem err_neq_nil (p : Addr) (w : World) : (binOp .neq 65 (.iface 105 (.pointer (some p))) .nilIface).run Tryd.prog w = .ok (.bool true) w := by kernel_rfl

set_option maxRecDepth 100000 in
set_option maxHeartbeats 1000000 in
theorem doorTexts (p : Addr) (b : Nat) (ok : Bool) (w : World) (hr : Hid (Calls Tryd.prog 81 #[.pointer (some ⟨b, 0, none⟩)] (w.alloc (.cells #[.nilIface] 65)) (readEnd p ok (w.alloc (.cells #[.nilIface] 65))))) :
    Calls Tryd.prog 71 #[.func (.func 81) #[] #[.pointer (some ⟨b, 0, none⟩)]] w fun e w' => e = .returned (if ok then .nilIface else errV p) ∧ Hid (Below w.heap.size w w') := by
  have hmf : ∀ (fn : Fn) (first cap : Array Value) (w : World), (Instr.makeFunc fn first cap).run Tryd.prog w = .ok (.func fn first cap) w := fun _ _ _ _ => rfl
  cases ok
  · go_enter_defers Tryd.func71, Tryd.ntmps71
    go_wp2_with (go_at_call 81; refine hr.out.mono ?_; rintro e w' ⟨rfl, hw⟩; subst hw)
    refine leaves_cons (f := 90) (args := #[.pointer (some ⟨w.heap.size, 0, none⟩)]) (by simp) (by simp [go_sem]) ?_
    refine (catch_panicking ⟨w.heap.size, 0, none⟩ p [] _ ?_ ?_).mono ?_
    · simp [go_sem]
    · simp [go_sem]
    rintro e u' w'' ⟨rfl, rfl, rfl⟩
    have hB : Hid (Below w.heap.size w (w.alloc (.cells #[errV p] 65))) := bal (b0 w) _
    simp [Leaves, settle, results, Tryd.results71, go_sem]
    exact hB
  · go_enter_defers Tryd.func71, Tryd.ntmps71
    go_wp2_with (go_at_call 81; refine hr.out.mono ?_; rintro e w' ⟨rfl, hw⟩; subst hw)
    refine leaves_cons (f := 90) (args := #[.pointer (some ⟨w.heap.size, 0, none⟩)]) (by simp) (by simp [go_sem]) ?_
    refine (catch_idle ⟨w.heap.size, 0, none⟩ _).mono ?_
    rintro e u' w'' ⟨rfl, rfl, rfl⟩
    have hB : Hid (Below w.heap.size w (w.alloc (.cells #[.nilIface] 65))) := bal (b0 w) _
    simp [Leaves, settle, results, Tryd.results71, go_sem]
    exact hB

/-- what has been laid, stays -/
theorem cell_up {w w' : World} (h : Below w.heap.size w w') {a : Addr} {v : Value} (hc : w.cell? a = some v) : w'.cell? a = some v := (h.cell (World.block_lt_of_cell? _ _ hc)).trans hc

set_option maxRecDepth 100000 in
set_option maxHeartbeats 1000000 in
theorem codeOfBinary (p : Addr) (g n : Nat) (ss : List ByteArray) (w : World) (hn : ss.length = n) (hn2 : n ≤ 1000) (hcells : ∀ k s, ss[k]? = some s → w.cell? ⟨g, k, none⟩ = some (.string s))
    (hc : w.cell? ⟨0, 0, none⟩ = some (errV p)) :
    Calls Tryd.prog 47 #[.slice (some ⟨g, 0, none⟩) n n] w fun e w' => e = .returned (.int .i64 (if ss.all okB then 0 else 1)) ∧ Hid (Below w.heap.size w w') := by
  obtain ⟨W, hW⟩ : ∃ W, (w.alloc (.cells #[.slice (some ⟨g, 0, none⟩) n n] 74)).alloc (.cells #[.nilIface] 65) = W := ⟨_, rfl⟩
  have hB : Below w.heap.size w W := by rw [← hW]; exact bal (bal (b0 w) _) _
  have hbx : W.cell? ⟨w.heap.size, 0, none⟩ = some (.slice (some ⟨g, 0, none⟩) n n) := by rw [← hW]; exact cell_al (by simp) _
  have hr := readTexts p w.heap.size g n ss W hbx hn hn2 (fun k s h => cell_up hB (hcells k s h)) (cell_up hB hc)
  rw [← hW] at hr
  have hD := Lib.hid (doorTexts p w.heap.size (ss.all okB) (w.alloc (.cells #[.slice (some ⟨g, 0, none⟩) n n] 74)) (Lib.hid hr))
  have hmf : ∀ (fn : Fn) (first cap : Array Value) (w : World), (Instr.makeFunc fn first cap).run Tryd.prog w = .ok (.func fn first cap) w := fun _ _ _ _ => rfl
  have h1 := nil_neq_nil
  have h2 := err_neq_nil p
  have hB1 := Lib.hid (bal (b0 w) (.cells #[.slice (some ⟨g, 0, none⟩) n n] 74))
  clear hr hW hB hbx hcells hc
  generalize ss.all okB = ok at *
  cases ok
  · go_enter Tryd.func47, Tryd.ntmps47
    go_wp2_with (go_at_call 71; refine hD.out.mono ?_; rintro e w2 ⟨rfl, hb⟩; simp only [errV])
    go_ret
    exact ⟨rfl, Lib.hid (btr hB1.out hb.out)⟩
  · go_enter Tryd.func47, Tryd.ntmps47
    go_wp2_with (go_at_call 71; refine hD.out.mono ?_; rintro e w2 ⟨rfl, hb⟩)
    go_ret
    exact ⟨rfl, Lib.hid (btr hB1.out hb.out)⟩
end Go.Proofs.YtkeahaoeiiigeaaDoor
