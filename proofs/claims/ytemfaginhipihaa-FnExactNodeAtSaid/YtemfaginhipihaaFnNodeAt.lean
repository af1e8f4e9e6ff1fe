/- NodeAt, the program's and the model's: the node with an address, or a code. -/
import Derived.Test.YtemfaginhipihaaKids
import Derived.Test.YtemfaginhipihaaNodes
namespace Go.Proofs.Ytemfaginhipihaa
open Go.RowKit

theorem isNegative (x : Int) (w : World) : Calls Try.prog 117 #[.int .i64 x] w fun e w' => e = .returned (.bool (decide (x < 0))) ∧ w = w' := by
  go_enter Try.func117, Try.ntmps117
  go_wp2
  go_ret
  exact ⟨rfl, rfl⟩

set_option maxHeartbeats 1000000 in
theorem containsNeg (A : Option Addr) (xs : List Int) (c : Nat) (w : World) (hx : xs.length ≤ 1000000000) (h : Ints w w.heap.size A xs) (r : Bool) (hr : Hid (M.anyNeg xs = r)) :
    Calls Try.prog 116 #[.slice A xs.length c, .func (.func 117) #[] #[]] w fun e w' => e = .returned (.bool r) ∧ w = w' := by
  have hI : Calls Try.prog 135 #[.slice A xs.length c, .func (.func 117) #[] #[]] w fun e w' => (∃ j : Int, e = .returned (.int .i64 j) ∧ decide (0 ≤ j) = r) ∧ w = w' := by
    go_enter Try.func135, Try.ntmps135
    go_wp2
    go_loop [5, 8] (fun _ i => ∃ (k : Nat), k ≤ xs.length ∧ i = .int .i64 k ∧ Hid (M.anyNeg (xs.take k) = false)) (fun _ i => xs.length - (intOf i).toNat)
    case atStart => exact ⟨0, Nat.zero_le _, rfl, by simp [Hid, M.anyNeg]⟩
    case round =>
      obtain ⟨k, hk, rfl, hg⟩ := hrel
      by_cases hlt : k < xs.length
      · obtain ⟨b, off, x, rfl, hbB, g, hX⟩ := h.at_ hlt
        clear h
        by_cases hv0 : x < 0
        · have hd0 : decide (x < 0) = true := decide_eq_true hv0
          have hrr : Hid (r = true) := by show _ = _; rw [← hr.out]; exact M.anyNeg_hit hX.out hv0
          clear hv0
          go_wp2_with (go_at_call 117; refine (isNegative x _).mono ?_; rintro e w' ⟨rfl, rfl⟩)
          go_ret
          exact ⟨⟨k, rfl, by rw [hrr.out]; simp⟩, rfl⟩
        · have hd0 : decide (x < 0) = false := decide_eq_false hv0
          have hs := Lib.hid (M.anyNeg_take hX.out (by omega) hg.out)
          clear hv0
          go_wp2_with (go_at_call 117; refine (isNegative x _).mono ?_; rintro e w' ⟨rfl, rfl⟩)
          go_round
          case rel => exact ⟨k + 1, by omega, by go_num, hs⟩
          case measure => simp [intOf]; omega
      · obtain rfl : k = xs.length := by omega
        have hrr : Hid (r = false) := by show _ = _; rw [← hr.out, ← hg.out, List.take_length]
        go_wp2
        go_ret
        exact ⟨⟨-1, rfl, by rw [hrr.out]; simp⟩, rfl⟩
  have HI := Lib.hid hI
  clear hI
  go_enter Try.func116, Try.ntmps116
  go_wp2_with fail
  refine HI.out.mono ?_
  rintro e w' ⟨⟨j, rfl, hj⟩, rfl⟩
  have Hj := Lib.hid hj
  clear hj
  go_wp2
  go_ret
  exact ⟨by rw [← Hj.out]; rfl, rfl⟩

/-- what a function of a tree and an address that hands back a number and a code must do -/
def GivesNode (f : Nat) : Prop :=
  ∀ (A A2 : Option Addr) (xs l : List Int) (c c2 : Nat) (w : World), xs.length ≤ 1048576 → l.length ≤ 1048576 → xs.length ≤ c ∧ c ≤ 1000000000000 → Ints w w.heap.size A xs → Ints w w.heap.size A2 l →
    Calls Try.prog f #[.agg #[.slice A xs.length c], .slice A2 l.length c2] w fun e w' => e = .returned (.tuple #[.int .i64 (M.nodeAt xs l).1, .int .i64 (M.nodeAt xs l).2]) ∧ Below w.heap.size w w'

set_option maxHeartbeats 4000000 in
theorem impl_NodeAt : GivesNode 50 := by
  intro A A2 xs l c c2 w hx hl hcc h h2
  have hc := codeOf0 A xs c (w.alloc (.cells #[.slice A xs.length c] 26)) (by omega) (h.al _) _ rfl
  cases ht : M.isTree xs
  · rw [ht] at hc
    have HC := Lib.hid hc
    rw [M.nodeAt_no ht]
    clear hc ht
    go_enter Try.func50, Try.ntmps50
    go_wp2_with fail
    refine HC.out.mono ?_
    rintro e w1 ⟨rfl, hb⟩
    have hB := btr (bal (b0 w) _) hb
    go_wp2
    go_ret2
    exact ⟨rfl, hB⟩
  · have Ht := Lib.hid ht
    rw [ht] at hc
    have HC := Lib.hid hc
    have hlen := M.tree_len ht
    by_cases hl24 : 24 < l.length
    · rw [M.nodeAt_range ht (.inl hl24)]
      clear hc ht
      have hl24' : (24 : Int) < (l.length : Int) := by omega
      go_enter Try.func50, Try.ntmps50
      go_wp2_with fail
      refine HC.out.mono ?_
      rintro e w1 ⟨rfl, hb⟩
      have hB := btr (bal (b0 w) _) hb
      go_wp2
      go_ret2
      exact ⟨rfl, hB⟩
    · have hl24' : decide ((24 : Int) < (l.length : Int)) = false := decide_eq_false (by omega)
      obtain ⟨an, han⟩ : ∃ an, Hid (M.anyNeg l = an) := ⟨_, rfl⟩
      have hfin : Hid (an = false → M.nodeAt xs l = (match M.nodeGo xs 0 l with | none => (0, 4) | some v => ((v : Int), 0))) := fun e => M.nodeAt_go ht (by omega) (by rw [han.out]; exact e)
      have hfin2 : Hid (an = true → M.nodeAt xs l = (0, 2)) := fun e => M.nodeAt_range ht (.inr (by rw [han.out]; exact e))
      clear hc ht
      generalize M.nodeAt xs l = R at hfin hfin2 ⊢
      have hl25 : l.length ≤ 24 := by omega
      clear hl24
      go_enter Try.func50, Try.ntmps50
      go_wp2_with fail
      refine HC.out.mono ?_
      rintro e w1 ⟨rfl, hb⟩
      have hB := Lib.hid (btr (bal (b0 w) _) hb)
      have hcell : w1.cell? ⟨w.heap.size, 0, none⟩ = some (.slice A xs.length c) := cell_be (by simp) hb
      have h1 := Lib.hid ((h.al _).be hb)
      have h3 := Lib.hid ((h2.al _).be hb)
      clear hb h h2 HC
      have HcellA := Lib.hid hcell
      go_wp2_with fail
      refine (containsNeg A2 l c2 _ (by omega) h3.out an han).mono ?_
      rintro e w' ⟨rfl, rfl⟩
      cases an
      · have hR := hfin.out rfl
        have HR := Lib.hid hR
        clear hR hfin hfin2
        go_wp2
        clear hcell
        go_loopw [7, 9, 24] (fun q _ i wr => ∃ (k v : Nat), k ≤ l.length ∧ v < xs.length ∧ i = .int .i64 k ∧ q = .int .i64 v ∧ Hid (M.nodeGo xs 0 l = M.nodeGo xs v (l.drop k)) ∧ Hid (Below w1.heap.size w1 wr)) (fun _ _ i _ => l.length - (intOf i).toNat)
        case atStart => exact ⟨0, 0, Nat.zero_le _, by omega, rfl, rfl, rfl, b0 w1⟩
        case round =>
          obtain ⟨k, v, hk, hv, rfl, rfl, hg, hbr⟩ := hrel
          by_cases hlt : k < l.length
          · obtain ⟨b2, off2, a, rfl, hbB2, g2, hX⟩ := (h3.out.be hbr.out).at_ hlt
            obtain ⟨d, hd, hd24⟩ := M.tree_degN Ht.out hv
            have hI := Lib.hid (h1.out.be hbr.out)
            obtain ⟨b, off, e1, hbB, hcs⟩ := h1.out.be hbr.out (by omega)
            have g1 := hcs v _ hd
            have hcr := cell_be HcellA.out hbr.out
            subst e1
            have Hd := Lib.hid hd
            have ha0 : 0 ≤ a := M.anyNeg_no han.out hX.out
            clear hcs hd
            by_cases had : (d : Int) ≤ a
            · have hs := Lib.hid (hg.out.trans (M.nodeGo_miss hX.out Hd.out had))
              go_wp2_with fail
              go_ret2
              exact ⟨by rw [HR.out, hs.out]; rfl, btr hB.out hbr.out⟩
            · obtain ⟨m, rfl⟩ := Int.eq_ofNat_of_zero_le ha0
              have hmd : m < d := by omega
              have hs := Lib.hid (hg.out.trans (M.nodeGo_step hX.out Hd.out (by omega)))
              have hkl := M.kid_lt Ht.out Hd.out (i := m) (by omega)
              have hat := Lib.hid (M.childs_at xs v hmd)
              simp only [Int.toNat_natCast] at hs
              have had' : (m : Int) < (d : Int) := by omega
              clear had
              go_wp2_with fail
              refine (childrenIn _ xs c v d _ hlen.2 hcc.1 hcc.2 Ht Hd hI.out).mono ?_
              rintro e w2 ⟨A3, c3, rfl, ho, hb⟩
              have hb2 := Lib.hid (btr hbr.out hb)
              obtain ⟨b3, off3, y, rfl, hbB3, g3, hY⟩ := (ints_of_own64 ho).at_ (k := m) (by rw [M.childs_length]; exact hmd)
              have hy : y = (M.kidAt xs v m : Int) := by have h4 := hY.out; rw [hat.out] at h4; injection h4 with h4; exact h4.symm
              subst hy
              clear hb ho
              go_wp2
              go_roundw
              case rel => exact ⟨k + 1, M.kidAt xs v m, by omega, hkl, by go_num, rfl, hs, hb2⟩
              case measure => simp [intOf]; omega
          · obtain rfl : k = l.length := by omega
            have hs := hg.out
            rw [List.drop_length] at hs
            have Hs : Hid (M.nodeGo xs 0 l = some v) := hs
            clear hs hg
            go_wp2
            go_ret2
            exact ⟨by rw [HR.out, Hs.out]; rfl, btr hB.out hbr.out⟩
      · have hR := hfin2.out rfl
        subst hR
        go_wp2
        go_ret2
        exact ⟨rfl, hB.out⟩

set_option maxHeartbeats 4000000 in
theorem spec_NodeAt : GivesNode 68 := by
  intro A A2 xs l c c2 w hx hl hcc h h2
  have hc := specIs A xs c (w.alloc (.cells #[.slice A xs.length c] 26)) (by omega) (h.al _)
  cases ht : M.isTree xs
  · rw [ht] at hc
    have HC := Lib.hid hc
    rw [M.nodeAt_no ht]
    clear hc ht
    go_enter Try.func68, Try.ntmps68
    go_wp2_with fail
    refine HC.out.mono ?_
    rintro e w1 ⟨rfl, hb⟩
    have hB := btr (bal (b0 w) _) hb
    go_wp2
    go_ret2
    exact ⟨rfl, hB⟩
  · have Ht := Lib.hid ht
    rw [ht] at hc
    have HC := Lib.hid hc
    have hlen := M.tree_len ht
    have hr1 : Hid (M.anyNeg l = true → M.nodeAt xs l = (0, 2)) := fun e => M.nodeAt_range ht (.inr e)
    have hr2 : Hid (24 < l.length → M.nodeAt xs l = (0, 2)) := fun e => M.nodeAt_range ht (.inl e)
    have hr3 : Hid (l.length ≤ 24 → M.anyNeg l = false → M.nodeAt xs l = (match M.nodeGo xs 0 l with | none => (0, 4) | some v => ((v : Int), 0))) := fun e e' => M.nodeAt_go ht e e'
    clear hc ht
    generalize M.nodeAt xs l = R at hr1 hr2 hr3 ⊢
    go_enter Try.func68, Try.ntmps68
    go_wp2_with fail
    refine HC.out.mono ?_
    rintro e w1 ⟨rfl, hb⟩
    have hB := Lib.hid (btr (bal (b0 w) _) hb)
    have hcell : w1.cell? ⟨w.heap.size, 0, none⟩ = some (.slice A xs.length c) := cell_be (by simp) hb
    have h1 := Lib.hid ((h.al _).be hb)
    have h3 := Lib.hid ((h2.al _).be hb)
    clear hb h h2 HC
    have HcellA := Lib.hid hcell
    go_wp2
    clear hcell
    go_loop [6] (fun i => ∃ (k : Nat), k ≤ l.length ∧ i = .int .i64 k ∧ Hid (M.anyNeg (l.take k) = false)) (fun i => l.length - (intOf i).toNat)
    case atStart => exact ⟨0, Nat.zero_le _, rfl, by simp [Hid, M.anyNeg]⟩
    case round =>
      obtain ⟨k, hk, rfl, hg⟩ := hrel
      by_cases hlt : k < l.length
      · obtain ⟨b2, off2, a, rfl, hbB2, g2, hX⟩ := h3.out.at_ hlt
        clear h3
        by_cases ha : a < 0
        · have hR := hr1.out (M.anyNeg_hit hX.out ha)
          subst hR
          clear hr1 hr2 hr3
          go_wp2
          go_ret2
          exact ⟨rfl, hB.out⟩
        · have hd0 : decide (a < 0) = false := decide_eq_false ha
          have hs := Lib.hid (M.anyNeg_take hX.out (by omega) hg.out)
          have ha' : 0 ≤ a := by omega
          clear ha
          go_wp2
          go_round
          case rel => exact ⟨k + 1, by omega, by go_num, hs⟩
          case measure => simp [intOf]; omega
      · obtain rfl : k = l.length := by omega
        have han : Hid (M.anyNeg l = false) := by have := hg.out; rw [List.take_length] at this; exact this
        clear hg
        by_cases hl24 : 24 < l.length
        · have hR := hr2.out hl24
          subst hR
          have hl24' : (24 : Int) < (l.length : Int) := by omega
          clear hr1 hr2 hr3
          go_wp2
          go_ret2
          exact ⟨rfl, hB.out⟩
        · have HR := Lib.hid (hr3.out (by omega) han.out)
          have hl24' : decide ((24 : Int) < (l.length : Int)) = false := decide_eq_false (by omega)
          have hl25 : l.length ≤ 24 := by omega
          clear hr1 hr2 hr3 hl24
          go_wp2
          go_loopw [7, 8, 9] (fun q i _ wr => ∃ (k v : Nat), k ≤ l.length ∧ v < xs.length ∧ i = .int .i64 k ∧ q = .int .i64 v ∧ Hid (M.nodeGo xs 0 l = M.nodeGo xs v (l.drop k)) ∧ Hid (Below w1.heap.size w1 wr)) (fun _ i _ _ => l.length - (intOf i).toNat)
          case atStart => exact ⟨0, 0, Nat.zero_le _, by omega, rfl, rfl, rfl, b0 w1⟩
          case round =>
            obtain ⟨k, v, hk, hv, rfl, rfl, hg, hbr⟩ := hrel
            by_cases hlt : k < l.length
            · obtain ⟨d, hd, hd24⟩ := M.tree_degN Ht.out hv
              have hI := Lib.hid (h1.out.be hbr.out)
              have hcr := cell_be HcellA.out hbr.out
              have Hd := Lib.hid hd
              clear hd
              go_wp2_with fail
              refine (l01Children _ xs c v d _ hlen.2 Ht Hd hI.out).mono ?_
              rintro e w2 ⟨A3, c3, rfl, ho, hb⟩
              have hb2 := Lib.hid (btr hbr.out hb)
              obtain ⟨b2, off2, a, rfl, hbB2, g2, hX⟩ := (h3.out.be hb2.out).at_ hlt
              have ha0 : 0 ≤ a := M.anyNeg_no han.out hX.out
              have Ho := Lib.hid ho
              clear hb ho hI hcr
              by_cases had : (d : Int) ≤ a
              · have hs := Lib.hid (hg.out.trans (M.nodeGo_miss hX.out Hd.out had))
                go_wp2
                go_ret2
                exact ⟨by rw [HR.out, hs.out]; rfl, btr hB.out hb2.out⟩
              · obtain ⟨m, rfl⟩ := Int.eq_ofNat_of_zero_le ha0
                have hmd : m < d := by omega
                have hs := Lib.hid (hg.out.trans (M.nodeGo_step hX.out Hd.out (by omega)))
                have hkl := M.kid_lt Ht.out Hd.out (i := m) (by omega)
                have hat := Lib.hid (M.childs_at xs v hmd)
                simp only [Int.toNat_natCast] at hs
                have had' : (m : Int) < (d : Int) := by omega
                clear had
                obtain ⟨b3, off3, y, rfl, hbB3, g3, hY⟩ := (ints_of_own64 Ho.out).at_ (k := m) (by rw [M.childs_length]; exact hmd)
                have hy : y = (M.kidAt xs v m : Int) := by have h4 := hY.out; rw [hat.out] at h4; injection h4 with h4; exact h4.symm
                subst hy
                go_wp2
                go_roundw
                case rel => exact ⟨k + 1, M.kidAt xs v m, by omega, hkl, by go_num, rfl, hs, hb2⟩
                case measure => simp [intOf]; omega
            · obtain rfl : k = l.length := by omega
              have hs := hg.out
              rw [List.drop_length] at hs
              have Hs : Hid (M.nodeGo xs 0 l = some v) := hs
              clear hs hg
              go_wp2
              go_ret2
              exact ⟨by rw [HR.out, Hs.out]; rfl, btr hB.out hbr.out⟩
end Go.Proofs.Ytemfaginhipihaa
