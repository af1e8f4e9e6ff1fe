/- The reader of vectors behind the door, and the numbers outside. -/
import Derived.Test.YtkeahaoeiiigeaaDoorVecIn

namespace Go.Proofs.YtkeahaoeiiigeaaDoor
open Go.RowKit

/-- a number that no vector has -/
def outB (x : Int) : Bool := !(decide (0 ≤ x) && decide (x ≤ 23))
def M.anyOut (xs : List Int) : Bool := xs.any outB
theorem M.anyOut_hit {xs : List Int} {k : Nat} {x : Int} (h : xs[k]? = some x) (hx : outB x = true) : M.anyOut xs = true :=
  List.any_eq_true.2 ⟨x, List.mem_of_getElem? h, hx⟩
theorem M.anyOut_take {xs : List Int} {k : Nat} {x : Int} (h : xs[k]? = some x) (hx : outB x = false) (hg : M.anyOut (xs.take k) = false) : M.anyOut (xs.take (k + 1)) = false := by
  rw [List.take_add_one, h, M.anyOut, List.any_append]
  rw [M.anyOut] at hg
  rw [hg]
  simp [hx]
theorem M.anyOut_no {xs : List Int} (h : M.anyOut xs = false) : ∀ x ∈ xs, 0 ≤ x ∧ x ≤ 23 := fun x hx => by
  have := (List.any_eq_false.1 h) x hx
  simpa [outB] using this

theorem isOutside (x : Int) (w : World) : Calls Tryd.prog 68 #[.int .i64 x] w fun e w' => e = .returned (.bool (outB x)) ∧ w = w' := by
  have hI := Lib.hid (withinB x 0 23 w)
  rw [outB]
  generalize (decide (0 ≤ x) && decide (x ≤ 23)) = b at *
  go_enter Tryd.func68, Tryd.ntmps68
  go_wp2_with (go_at_call 69; refine hI.out.mono ?_; rintro e w' ⟨rfl, rfl⟩)
  go_ret
  exact ⟨rfl, rfl⟩

set_option maxHeartbeats 1000000 in
theorem containsOut (A : Option Addr) (xs : List Int) (c : Nat) (w : World) (hx : xs.length ≤ 1000000000) (h : Ints w w.heap.size A xs) (r : Bool) (hr : Hid (M.anyOut xs = r)) :
    Calls Tryd.prog 70 #[.slice A xs.length c, .func (.func 68) #[] #[]] w fun e w' => e = .returned (.bool r) ∧ w = w' := by
  have hI : Calls Tryd.prog 89 #[.slice A xs.length c, .func (.func 68) #[] #[]] w fun e w' => (∃ j : Int, e = .returned (.int .i64 j) ∧ decide (0 ≤ j) = r) ∧ w = w' := by
    go_enter Tryd.func89, Tryd.ntmps89
    go_wp2
    go_loop [5, 8] (fun _ i => ∃ (k : Nat), k ≤ xs.length ∧ i = .int .i64 k ∧ Hid (M.anyOut (xs.take k) = false)) (fun _ i => xs.length - (intOf i).toNat)
    case atStart => exact ⟨0, Nat.zero_le _, rfl, by simp [Hid, M.anyOut]⟩
    case round =>
      obtain ⟨k, hk, rfl, hg⟩ := hrel
      by_cases hlt : k < xs.length
      · obtain ⟨b, off, x, rfl, hbB, g, hX⟩ := h.at_ hlt
        clear h
        have hO := fun W => Lib.hid (isOutside x W)
        cases ho : outB x
        · have hs := Lib.hid (M.anyOut_take hX.out ho hg.out)
          rw [ho] at hO
          go_wp2_with (go_at_call 68; refine (hO _).out.mono ?_; rintro e w' ⟨rfl, rfl⟩)
          go_round
          case rel => exact ⟨k + 1, by omega, by go_num, hs⟩
          case measure => simp [intOf]; omega
        · have hrr : Hid (r = true) := by show _ = _; rw [← hr.out]; exact M.anyOut_hit hX.out ho
          rw [ho] at hO
          go_wp2_with (go_at_call 68; refine (hO _).out.mono ?_; rintro e w' ⟨rfl, rfl⟩)
          go_ret
          exact ⟨⟨k, rfl, by rw [hrr.out]; simp⟩, rfl⟩
      · obtain rfl : k = xs.length := by omega
        have hrr : Hid (r = false) := by show _ = _; rw [← hr.out, ← hg.out, List.take_length]
        go_wp2
        go_ret
        exact ⟨⟨-1, rfl, by rw [hrr.out]; simp⟩, rfl⟩
  have HI := Lib.hid hI
  clear hI
  go_enter Tryd.func70, Tryd.ntmps70
  go_wp2_with fail
  refine HI.out.mono ?_
  rintro e w' ⟨⟨j, rfl, hj⟩, rfl⟩
  have Hj := Lib.hid hj
  clear hj
  go_wp2
  go_ret
  exact ⟨by rw [← Hj.out]; rfl, rfl⟩

/-- what the reader behind the door comes to: the text laid down, or a panic with the error -/
def readV (p : Addr) (r : Option M.Bin) (bt : Nat) (W : World) (e : Ending) (w' : World) : Prop :=
  match r with
  | some t => e = .returned (.tuple #[]) ∧ ∃ wa, Hid (Below W.heap.size W wa) ∧ w' = wa.setCell ⟨bt, 0, none⟩ (.string t.str)
  | none => e = .panicked [{ v := errV p, recovered := false }] ∧ Hid (Below W.heap.size W w')

set_option maxRecDepth 100000 in
set_option maxHeartbeats 1000000 in
theorem readVector (p : Addr) (bl bt : Nat) (A : Option Addr) (xs : List Int) (n c : Nat) (W : World) (hb : W.cell? ⟨bl, 0, none⟩ = some (.slice A n c)) (ht : W.cell? ⟨bt, 0, none⟩ = some (.string ⟨#[]⟩)) (hz : W.frozen? ⟨bt, 0, none⟩ = false)
    (hT : Hid (Calls Tryd.prog 73 #[.slice A n c] W (vecEnd p (ofV xs) W))) :
    Calls Tryd.prog 72 #[.pointer (some ⟨bl, 0, none⟩), .pointer (some ⟨bt, 0, none⟩)] W (readV p (ofV xs) bt W) := by
  have HT := Lib.hid ht
  have HZ := Lib.hid hz
  cases hv : ofV xs with
  | none =>
    rw [hv] at hT
    clear ht hz hv
    go_enter Tryd.func72, Tryd.ntmps72
    go_wp2_with (go_at_call 73; refine hT.out.mono ?_; rintro e w' ⟨rfl, hw⟩)
    exact ⟨rfl, rfl, hw⟩
  | some t =>
    rw [hv] at hT
    clear ht hz hv
    go_enter Tryd.func72, Tryd.ntmps72
    go_wp2_with (go_at_call 73; refine hT.out.mono ?_; rintro e w' ⟨rfl, hw⟩; have h1 := cell_up hw.out HT.out; have h2 := (hw.out.frozen (World.block_lt_of_cell? _ _ HT.out)).trans HZ.out)
    go_end0
    exact ⟨rfl, w', hw, rfl⟩

/-- what the door comes to -/
def doorEnd (p : Addr) (r : Option M.Bin) (bt : Nat) (w : World) (e : Ending) (w' : World) : Prop :=
  match r with
  | some t => e = .returned .nilIface ∧ w'.cell? ⟨bt, 0, none⟩ = some (.string t.str) ∧ Hid (Below bt w w')
  | none => e = .returned (errV p) ∧ Hid (Below w.heap.size w w')

set_option maxRecDepth 100000 in
set_option maxHeartbeats 1000000 in
theorem doorVector (p : Addr) (bl bt : Nat) (r : Option M.Bin) (w : World) (hbt : w.cell? ⟨bt, 0, none⟩ = some (.string ⟨#[]⟩)) (hr : Hid (Calls Tryd.prog 72 #[.pointer (some ⟨bl, 0, none⟩), .pointer (some ⟨bt, 0, none⟩)] (w.alloc (.cells #[.nilIface] 65)) (readV p r bt (w.alloc (.cells #[.nilIface] 65))))) :
    Calls Tryd.prog 71 #[.func (.func 72) #[] #[.pointer (some ⟨bl, 0, none⟩), .pointer (some ⟨bt, 0, none⟩)]] w (doorEnd p r bt w) := by
  have hmf : ∀ (fn : Fn) (first cap : Array Value) (w : World), (Instr.makeFunc fn first cap).run Tryd.prog w = .ok (.func fn first cap) w := fun _ _ _ _ => rfl
  have hB : Hid (Below w.heap.size w (w.alloc (.cells #[.nilIface] 65))) := bal (b0 w) _
  have hW : Hid ((w.alloc (.cells #[.nilIface] 65)).cell? ⟨w.heap.size, 0, none⟩ = some .nilIface) := by simp [Hid, go_sem]
  have hZ : Hid ((w.alloc (.cells #[.nilIface] 65)).frozen? ⟨w.heap.size, 0, none⟩ = false) := by simp [Hid, go_sem]
  obtain ⟨E, hE0⟩ : ∃ E, doorEnd p r bt w = E := ⟨_, rfl⟩
  rw [hE0]
  have HE := Lib.hid hE0
  clear hE0
  cases r
  · go_enter_defers Tryd.func71, Tryd.ntmps71
    go_wp2_with (go_at_call 72; refine hr.out.mono ?_; rintro e w' ⟨rfl, hw⟩)
    refine leaves_cons (f := 90) (args := #[.pointer (some ⟨w.heap.size, 0, none⟩)]) (by simp) (by simp [go_sem]) ?_
    have h1 := cell_up hw.out hW.out
    have h2 := (hw.out.frozen (World.block_lt_of_cell? _ _ hW.out)).trans hZ.out
    refine (catch_panicking ⟨w.heap.size, 0, none⟩ p [] _ h1 h2).mono ?_
    rintro e u' w'' ⟨rfl, rfl, rfl⟩
    have hE : Hid (Below w.heap.size w (w'.setCell ⟨w.heap.size, 0, none⟩ (errV p))) := below_setCell (btr hB.out hw.out) (Nat.le_refl _) _
    simp [Leaves, settle, results, Tryd.results71, go_sem, h1]
    rw [← HE.out]
    exact ⟨rfl, hE⟩
  · rename_i t
    have hlt : bt < w.heap.size := World.block_lt_of_cell? _ _ hbt
    have hT : Hid ((w.alloc (.cells #[.nilIface] 65)).cell? ⟨bt, 0, none⟩ = some (.string ⟨#[]⟩)) := cell_up hB.out hbt
    have hne : ¬ w.heap.size = bt := by omega
    have hne2 : ¬ bt = w.heap.size := by omega
    clear hbt
    go_enter_defers Tryd.func71, Tryd.ntmps71
    go_wp2_with (go_at_call 72; refine hr.out.mono ?_; rintro e w' ⟨rfl, wa, hw, rfl⟩; have h1 := cell_up hw.out hW.out; have h2 := (hw.out.frozen (World.block_lt_of_cell? _ _ hW.out)).trans hZ.out; have h3 := cell_up hw.out hT.out)
    refine leaves_cons (f := 90) (args := #[.pointer (some ⟨w.heap.size, 0, none⟩)]) (by simp) (by simp [go_sem]) ?_
    refine (catch_idle ⟨w.heap.size, 0, none⟩ _).mono ?_
    rintro e u' w'' ⟨rfl, rfl, rfl⟩
    have hE : Hid (Below bt w ((wa.setCell ⟨bt, 0, none⟩ (.string t.str)).setCell ⟨w.heap.size, 0, none⟩ .nilIface)) := below_setCell (below_setCell ((btr hB.out hw.out).mono (by omega)) (Nat.le_refl _) _) (by omega) _
    have hC : Hid (((wa.setCell ⟨bt, 0, none⟩ (.string t.str)).setCell ⟨w.heap.size, 0, none⟩ .nilIface).cell? ⟨bt, 0, none⟩ = some (.string t.str)) := by simp [Hid, go_sem, h3]
    simp [Leaves, settle, results, Tryd.results71, go_sem, h1]
    rw [← HE.out]
    exact ⟨rfl, hC.out, hE⟩
end Go.Proofs.YtkeahaoeiiigeaaDoor
