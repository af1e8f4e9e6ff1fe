/- BinaryOfVector, the program's and the model's. -/
import Derived.Test.YtkeahaoeiiigeaaDoorVecB
import Derived.Test.YtkeahaoeiiigeaaDoorSpecVec
namespace Go.Proofs.YtkeahaoeiiigeaaDoor
open Go.RowKit

noncomputable def F_BinaryOfVector (xs : List Int) : ByteArray × Int :=
  if 23 < xs.length ∨ M.anyOut xs = true then (⟨#[]⟩, 2) else match ofV xs with | some t => (t.str, 0) | none => (⟨#[]⟩, 4)
theorem F_BinaryOfVector_range {xs : List Int} (h : 23 < xs.length ∨ M.anyOut xs = true) : F_BinaryOfVector xs = (⟨#[]⟩, 2) := if_pos h
theorem F_BinaryOfVector_some {xs : List Int} (h : xs.length ≤ 23) (h2 : M.anyOut xs = false) {t : M.Bin} (ht : ofV xs = some t) : F_BinaryOfVector xs = (t.str, 0) := by
  rw [F_BinaryOfVector, if_neg (by rw [h2]; simp; omega), ht]
theorem F_BinaryOfVector_none {xs : List Int} (h : xs.length ≤ 23) (h2 : M.anyOut xs = false) (ht : ofV xs = none) : F_BinaryOfVector xs = (⟨#[]⟩, 4) := by
  rw [F_BinaryOfVector, if_neg (by rw [h2]; simp; omega), ht]

/-- what a function of a list of numbers that hands back a text and a code must do -/
def GivesV (f : Nat) (F : List Int → ByteArray × Int) : Prop :=
  ∀ (p : Addr) (A : Option Addr) (xs : List Int) (c : Nat) (w : World), xs.length ≤ 1048576 → xs.length ≤ c ∧ c ≤ 9223372036854775807 → Ints w w.heap.size A xs → w.cell? ⟨1, 0, none⟩ = some (errV p) →
    Calls Tryd.prog f #[.slice A xs.length c] w fun e w' => e = .returned (.tuple #[.string (F xs).1, .int .i64 (F xs).2]) ∧ Hid (Below w.heap.size w w')

set_option maxRecDepth 100000 in
set_option maxHeartbeats 4000000 in
theorem impl_BinaryOfVector : GivesV 37 F_BinaryOfVector := by
  intro p A xs c w hx hcc hI hc
  have hB1 := Lib.hid (bal (b0 w) (.cells #[.slice A xs.length c] 29))
  have hc1 : Hid ((w.alloc (.cells #[.slice A xs.length c] 29)).cell? ⟨1, 0, none⟩ = some (errV p)) := cell_up hB1.out hc
  have hI1 : Hid (Ints (w.alloc (.cells #[.slice A xs.length c] 29)) (w.alloc (.cells #[.slice A xs.length c] 29)).heap.size A xs) := hI.al _
  by_cases hl : xs.length ≤ 23
  · have hl1 : ¬ (23 : Int) < (xs.length : Int) := by omega
    have hO := Lib.hid (containsOut A xs c (w.alloc (.cells #[.slice A xs.length c] 29)) (by omega) hI1.out _ (Lib.hid rfl))
    cases ho : M.anyOut xs
    · rw [ho] at hO
      have hq := Lib.hid (M.anyOut_no ho)
      have hmf : ∀ (fn : Fn) (first cap : Array Value) (w : World), (Instr.makeFunc fn first cap).run Tryd.prog w = .ok (.func fn first cap) w := fun _ _ _ _ => rfl
      obtain ⟨W, hW⟩ : ∃ W, (w.alloc (.cells #[.slice A xs.length c] 29)).alloc (.cells #[.string ⟨#[]⟩] 9) = W := ⟨_, rfl⟩
      have hB2 : Hid (Below w.heap.size w W) := by rw [← hW]; exact bal hB1.out _
      have hbl : W.cell? ⟨w.heap.size, 0, none⟩ = some (.slice A xs.length c) := by rw [← hW]; exact cell_al (by simp) _
      have hbt : W.cell? ⟨w.heap.size + 1, 0, none⟩ = some (.string ⟨#[]⟩) := by rw [← hW]; simp [go_sem]
      have hzt : W.frozen? ⟨w.heap.size + 1, 0, none⟩ = false := by rw [← hW]; simp [go_sem]
      have hB3 : Below W.heap.size W (W.alloc (.cells #[.nilIface] 65)) := bal (b0 W) _
      have hT := Lib.hid (textOfVector p (xs.length + 1) A xs xs.length c (W.alloc (.cells #[.nilIface] 65)) (Lib.hid rfl) (by omega) hl hcc.1 hcc.2 hq (Lib.hid ((hI.be hB2.out).be hB3)) (Lib.hid (cell_up hB3 (cell_up hB2.out hc))))
      have hR := Lib.hid (readVector p w.heap.size (w.heap.size + 1) A xs xs.length c _ (cell_up hB3 hbl) (cell_up hB3 hbt) ((hB3.frozen (World.block_lt_of_cell? _ _ hbt)).trans hzt) hT)
      have hD := Lib.hid (doorVector p w.heap.size (w.heap.size + 1) (ofV xs) W hbt hR)
      clear hT hR hB3 hbl hbt hzt
      rw [← hW] at hD hB2
      cases hv : ofV xs with
      | none =>
        rw [F_BinaryOfVector_none hl ho hv]
        rw [hv] at hD
        have h2 := err_neq_nil p
        clear hv ho hq hW hI hc hI1 hc1
        generalize xs.length = n at *
        go_enter Tryd.func37, Tryd.ntmps37
        go_wp2_with (first | (go_at_call 70; refine hO.out.mono ?_; rintro e w' ⟨rfl, rfl⟩) | (go_at_call 71; refine hD.out.mono ?_; rintro e w2 ⟨rfl, hb⟩; simp only [errV]))
        go_ret2
        exact ⟨rfl, Lib.hid (btr hB2.out hb.out)⟩
      | some t =>
        rw [F_BinaryOfVector_some hl ho hv]
        rw [hv] at hD
        have h1 := nil_neq_nil
        clear hv ho hq hW hI hc hI1 hc1
        generalize xs.length = n at *
        go_enter Tryd.func37, Tryd.ntmps37
        go_wp2_with (first | (go_at_call 70; refine hO.out.mono ?_; rintro e w' ⟨rfl, rfl⟩) | (go_at_call 71; refine hD.out.mono ?_; rintro e w2 ⟨rfl, hcell, hb⟩))
        go_ret2
        exact ⟨rfl, Lib.hid (hB2.out.trans (hb.out.mono (Nat.le_succ _)))⟩
    · rw [F_BinaryOfVector_range (.inr ho)]
      rw [ho] at hO
      clear ho hI hc hc1 hI1
      generalize xs.length = n at *
      go_enter Tryd.func37, Tryd.ntmps37
      go_wp2_with (go_at_call 70; refine hO.out.mono ?_; rintro e w' ⟨rfl, rfl⟩)
      go_ret2
      exact ⟨rfl, hB1⟩
  · have hl1 : (23 : Int) < (xs.length : Int) := by omega
    rw [F_BinaryOfVector_range (.inl (by omega))]
    clear hI hc hc1 hI1
    generalize xs.length = n at *
    go_enter Tryd.func37, Tryd.ntmps37
    go_wp2
    go_ret2
    exact ⟨rfl, hB1⟩

set_option maxRecDepth 100000 in
set_option maxHeartbeats 4000000 in
theorem spec_BinaryOfVector : GivesV 35 F_BinaryOfVector := by
  intro p A xs c w hx hcc hI _
  by_cases hl : xs.length ≤ 23
  · have hl1 : ¬ (23 : Int) < (xs.length : Int) := by omega
    have HI := Lib.hid hI
    obtain ⟨n, hn0⟩ : ∃ n, xs.length = n := ⟨_, rfl⟩
    have hn := Lib.hid hn0
    rw [hn0] at hl1 hl hcc ⊢
    have hR : Hid (∀ (k : Nat) (x : Int), xs[k]? = some x → outB x = true → F_BinaryOfVector xs = (⟨#[]⟩, 2)) := fun k x h1 h2 => F_BinaryOfVector_range (.inr (M.anyOut_hit h1 h2))
    have hG : Hid (M.anyOut xs = false → Calls Tryd.prog 67 #[.slice A n c] w (ofEnd (ofV xs) n w) ∧ F_BinaryOfVector xs = (match ofV xs with | some t => (t.str, 0) | none => (⟨#[]⟩, 4))) := fun h =>
      ⟨l03Of (n + 1) A xs n c w hn (by omega) hl hcc.1 hcc.2 (Lib.hid (M.anyOut_no h)) HI, by rw [F_BinaryOfVector, if_neg (by rw [h]; simp; omega)]⟩
    have hO := fun x W => Lib.hid (l01In x 0 23 W)
    have hno0 : Hid (M.anyOut (xs.take 0) = false) := by simp [Hid, M.anyOut]
    generalize F_BinaryOfVector xs = R at *
    clear hI hx hn0
    go_enter Tryd.func35, Tryd.ntmps35
    go_wp2
    go_loopw [4] (fun qi wr => ∃ (k : Nat), k ≤ n ∧ qi = .int .i64 (k : Int) ∧ wr = w ∧ Hid (M.anyOut (xs.take k) = false)) (fun qi _ => n - (intOf qi).toNat)
    case atStart => exact ⟨0, Nat.zero_le _, rfl, rfl, hno0⟩
    case round =>
      obtain ⟨k, hk, rfl, rfl, hg⟩ := hrel
      by_cases hlt : k < n
      · have hki : (k : Int) < (n : Int) := by omega
        obtain ⟨b, off, x, rfl, hbB, g, hX⟩ := HI.out.at_ (by have := hn.out; omega : k < xs.length)
        have hOx := hO x
        cases ho : outB x
        · have hs := Lib.hid (M.anyOut_take hX.out ho hg.out)
          have hb : (decide (0 ≤ x) && decide (x ≤ 23)) = true := by rw [outB] at ho; simpa using ho
          rw [hb] at hOx
          clear ho hb hO hR hG hX
          go_wp2_with (go_at_call 66; refine (hOx _).out.mono ?_; rintro e w' ⟨rfl, hw⟩; have hw' := hw.symm; subst hw')
          go_roundw
          case rel => exact ⟨k + 1, by omega, by go_num, trivial, hs⟩
          case measure => simp [intOf]; omega
        · have hE := hR.out k x hX.out ho
          have hb : (decide (0 ≤ x) && decide (x ≤ 23)) = false := by
            rw [outB] at ho
            cases h : (decide (0 ≤ x) && decide (x ≤ 23))
            · rfl
            · rw [h] at ho; cases ho
          rw [hb] at hOx
          clear ho hb hO hR hG hX
          subst hE
          go_wp2_with (go_at_call 66; refine (hOx _).out.mono ?_; rintro e w' ⟨rfl, hw⟩; have hw' := hw.symm; subst hw')
          go_ret2
          exact ⟨rfl, Lib.hid (b0 _)⟩
      · obtain rfl : k = n := by omega
        obtain ⟨hC, hF⟩ := hG.out (by have := hg.out; rwa [← hn.out, List.take_length] at this)
        have HC := Lib.hid hC
        clear hC hO hR hG hg
        cases hv : ofV xs with
        | none =>
          rw [hv] at HC hF
          subst hF
          clear hv
          go_wp2_with (go_at_call 67; refine HC.out.mono ?_; rintro e w' ⟨⟨S, rfl, _, _⟩, hw⟩; have hw' := hw.symm; subst hw')
          go_ret2
          exact ⟨rfl, Lib.hid (b0 _)⟩
        | some t =>
          rw [hv] at HC hF
          subst hF
          clear hv
          go_wp2_with (go_at_call 67; refine HC.out.mono ?_; rintro e w' ⟨⟨S, rfl, _, hS⟩, hw⟩; have hw' := hw.symm; subst hw'; have hS' := hS t rfl; subst hS')
          go_ret2
          exact ⟨rfl, Lib.hid (b0 _)⟩
  · have hl1 : (23 : Int) < (xs.length : Int) := by omega
    rw [F_BinaryOfVector_range (.inl (by omega))]
    clear hI
    generalize xs.length = n at *
    go_enter Tryd.func35, Tryd.ntmps35
    go_wp2
    go_ret2
    exact ⟨rfl, Lib.hid (b0 _)⟩
end Go.Proofs.YtkeahaoeiiigeaaDoor
