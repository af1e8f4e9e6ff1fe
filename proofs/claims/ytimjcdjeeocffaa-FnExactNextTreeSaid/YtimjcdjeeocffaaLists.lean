/- lists: the number of lists of so many trees that have so many nodes together, with a map of what is known. -/
import Derived.Test.YtimjcdjeeocffaaKeptLists
import Derived.Outline
namespace Go.Proofs.Ytimjcdjeeocffaa
open Go.RowKit Go.Maps Go.WideMaps

theorem oneIf (y : Bool) (w : World) : Calls Try.prog 196 #[.bool y] w fun e w' => e = .returned (.int .i64 (if y then 1 else 0)) ∧ w = w' := by
  cases y
  · go_enter Try.func196, Try.ntmps196
    go_wp2
    go_ret
    exact ⟨rfl, rfl⟩
  · go_enter Try.func196, Try.ntmps196
    go_wp2
    go_ret
    exact ⟨rfl, rfl⟩

/-- what lists does at nodes n, whatever the number of trees -/
def ListsAt (b n : Nat) : Prop := ∀ (t : Nat) (W : World), t ≤ 1000 → Hid (Memo M.L W b) →
  Calls Try.prog 170 #[.map (some b), .int .i64 (n : Int), .int .i64 (t : Int)] W fun e W' => e = .returned (.int .i64 (M.L n t : Int)) ∧ Hid (Memo M.L W' b) ∧ Hid (W.grownBy W' (some b))

set_option maxHeartbeats 1000000 in
set_option maxRecDepth 100000 in
/-- the closure: the sum over the degrees of the first node -/
theorem lists1 (b m s Bn Bt Bw : Nat) (hs : s ≤ m) (hm : m + 1 ≤ 30) (ih : Hid (ListsAt b m)) (W : World) (hM : Hid (Memo M.L W b))
    (hn : Hid (W.cell? ⟨Bn, 0, none⟩ = some (.int .i64 ((m : Int) + 1)))) (ht : Hid (W.cell? ⟨Bt, 0, none⟩ = some (.int .i64 ((s : Int) + 1)))) (hw : Hid (W.cell? ⟨Bw, 0, none⟩ = some (.map (some b)))) (hbn : b ≠ Bn) (hbt : b ≠ Bt) (hbw : b ≠ Bw) :
    Calls Try.prog 198 #[.pointer (some ⟨Bn, 0, none⟩), .pointer (some ⟨Bt, 0, none⟩), .pointer (some ⟨Bw, 0, none⟩)] W fun e W' => e = .returned (.int .i64 (M.L (m + 1) (s + 1) : Int)) ∧ Hid (Memo M.L W' b) ∧ Hid (W.grownBy W' (some b)) := by
  have hLe : Hid (M.L (m + 1) (s + 1) = M.sumTo (fun d => M.L m (s + d)) (m + 1 - (s + 1) + 1)) := M.L_rec (by omega) (by omega)
  have hsm : ∀ k, k ≤ m - s + 1 → M.sumTo (fun d => M.L m (s + d)) k ≤ 1152921504606846976 := fun k hk => M.Lsum_small (n := m + 1) (t := s + 1) (j := k) (by omega) (by omega) (by omega) (by omega)
  have Hsm := Lib.hid hsm
  have c1 := hn.out
  have c2 := ht.out
  clear hsm
  go_enter Try.func198, Try.ntmps198
  go_wp2
  clear c1 c2
  go_loopw [4, 5, 10] (fun q _ i wr => ∃ (k y : Nat), k ≤ m - s + 1 ∧ i = .int .i64 k ∧ q = .int .i64 (y : Int) ∧ Hid (M.sumTo (fun d => M.L m (s + d)) k = y) ∧ Hid (Memo M.L wr b) ∧ Hid (W.grownBy wr (some b))) (fun _ _ i _ => 40 - (intOf i).toNat)
  case atStart => exact ⟨0, 0, Nat.zero_le _, rfl, rfl, rfl, hM, World.grownBy.refl _ _⟩
  case round =>
    obtain ⟨k, y, hk, rfl, rfl, hy, hMr, hg⟩ := hrel
    have c1 := hg.out.cell hn.out (fun e => hbn (by injection e with e; exact e.symm))
    have c2 := hg.out.cell ht.out (fun e => hbt (by injection e with e; exact e.symm))
    have c3 := hg.out.cell hw.out (fun e => hbw (by injection e with e; exact e.symm))
    have hy1 := Hsm.out k hk
    rw [hy.out] at hy1
    by_cases hlt : k < m - s + 1
    · have hlt2 : (k : Int) < (m : Int) + 1 - ((s : Int) + 1) + 1 := by omega
      have hc := ih.out (s + k) wr (by omega) hMr
      rw [Int.natCast_add] at hc
      have hsum : Hid (M.sumTo (fun d => M.L m (s + d)) (k + 1) = y + M.L m (s + k)) := by show _ = _; rw [M.sumTo, hy.out]
      have hy2 := Hsm.out (k + 1) (by omega)
      rw [hsum.out] at hy2
      generalize M.L m (s + k) = z at hc hsum hy2
      have hc := Lib.hid hc
      go_wp2_with fail
      refine hc.out.mono ?_
      rintro e w2 ⟨rfl, hM2, hg2⟩
      have hgt := Lib.hid (hg.out.trans hg2.out)
      have hs2 : Hid (M.sumTo (fun d => M.L m (s + d)) (k + 1) = y + z) := hsum
      clear hc hsum hg hMr
      go_wp2
      go_roundw
      case rel => exact ⟨k + 1, y + z, by omega, by go_num, by go_num, hs2, hM2, hgt⟩
      case measure => simp [intOf]; omega
    · have hge : ¬ (k : Int) < (m : Int) + 1 - ((s : Int) + 1) + 1 := by omega
      have he : Hid (M.L (m + 1) (s + 1) = y) := by
        show _ = _
        rw [hLe.out]
        have e1 : m + 1 - (s + 1) + 1 = k := by omega
        rw [e1, hy.out]
      go_wp2
      go_ret
      exact ⟨by rw [he.out]; rfl, hMr, hg⟩

set_option maxHeartbeats 1000000 in
set_option maxRecDepth 100000 in
theorem lists_base (b n t : Nat) (W : World) (hn : n ≤ 1000) (ht : t ≤ 1000) (h : n < t ∨ t = 0) (hM : Hid (Memo M.L W b)) :
    Calls Try.prog 170 #[.map (some b), .int .i64 (n : Int), .int .i64 (t : Int)] W fun e W' => e = .returned (.int .i64 (M.L n t : Int)) ∧ Hid (Memo M.L W' b) ∧ Hid (W.grownBy W' (some b)) := by
  have hM3 : Hid (Memo M.L (((W.alloc (.cells #[.map (some b)] 126)).alloc (.cells #[.int .i64 (n : Int)] 2)).alloc (.cells #[.int .i64 (t : Int)] 2)) b) := ((hM.out.alloc _).alloc _).alloc _
  have hg3 : Hid (W.grownBy (((W.alloc (.cells #[.map (some b)] 126)).alloc (.cells #[.int .i64 (n : Int)] 2)).alloc (.cells #[.int .i64 (t : Int)] 2)) (some b)) := ((World.grownBy_alloc W _ _).trans (World.grownBy_alloc _ _ _)).trans (World.grownBy_alloc _ _ _)
  have hL := M.L_base h
  by_cases h1 : n < t
  · have hL : Hid (M.L n t = 0) := by show _ = _; rw [hL, if_neg (by omega)]
    have h2 : (n : Int) < (t : Int) := by omega
    have hq : ((n : Int) == (t : Int)) = false := by simp; omega
    rw [hL.out]
    clear h h1
    go_enter Try.func170, Try.ntmps170
    go_wp2_with (go_at_call 196; refine (oneIf _ _).mono ?_; rintro e w' ⟨rfl, rfl⟩)
    go_ret
    exact ⟨rfl, hM3, hg3⟩
  · obtain rfl : t = 0 := by omega
    have h2 : ¬ (n : Int) < ((0 : Nat) : Int) := by omega
    rcases Nat.eq_zero_or_pos n with h0 | h0
    · subst h0
      rw [hL]
      clear h h1 hL
      go_enter Try.func170, Try.ntmps170
      go_wp2_with (go_at_call 196; refine (oneIf _ _).mono ?_; rintro e w' ⟨rfl, rfl⟩)
      go_ret
      exact ⟨rfl, hM3, hg3⟩
    · have hL : Hid (M.L n 0 = 0) := by show _ = _; rw [hL, if_neg (by omega)]
      have hq : ((n : Int) == 0) = false := by simp; omega
      have h2 : ¬ (n : Int) < 0 := by omega
      rw [hL.out]
      clear h h1
      go_enter Try.func170, Try.ntmps170
      go_wp2_with (go_at_call 196; refine (oneIf _ _).mono ?_; rintro e w' ⟨rfl, rfl⟩)
      go_ret
      exact ⟨rfl, hM3, hg3⟩

set_option maxHeartbeats 1000000 in
set_option maxRecDepth 100000 in
theorem lists_step (b m s : Nat) (W : World) (hm : m + 1 ≤ 30) (hs : s ≤ m) (ih : Hid (ListsAt b m)) (hM : Hid (Memo M.L W b)) :
    Calls Try.prog 170 #[.map (some b), .int .i64 ((m : Int) + 1), .int .i64 ((s : Int) + 1)] W fun e W' => e = .returned (.int .i64 (M.L (m + 1) (s + 1) : Int)) ∧ Hid (Memo M.L W' b) ∧ Hid (W.grownBy W' (some b)) := by
  have hbW := hM.out.lt
  have hM3 : Hid (Memo M.L (((W.alloc (.cells #[.map (some b)] 126)).alloc (.cells #[.int .i64 ((m : Int) + 1)] 2)).alloc (.cells #[.int .i64 ((s : Int) + 1)] 2)) b) := ((hM.out.alloc _).alloc _).alloc _
  have hg3 : Hid (W.grownBy (((W.alloc (.cells #[.map (some b)] 126)).alloc (.cells #[.int .i64 ((m : Int) + 1)] 2)).alloc (.cells #[.int .i64 ((s : Int) + 1)] 2)) (some b)) := ((World.grownBy_alloc W _ _).trans (World.grownBy_alloc _ _ _)).trans (World.grownBy_alloc _ _ _)
  have k0 : Hid ((((W.alloc (.cells #[.map (some b)] 126)).alloc (.cells #[.int .i64 ((m : Int) + 1)] 2)).alloc (.cells #[.int .i64 ((s : Int) + 1)] 2)).cell? ⟨W.heap.size, 0, none⟩ = some (.map (some b))) := cell_al (cell_al (by simp) _) _
  have k1 : Hid ((((W.alloc (.cells #[.map (some b)] 126)).alloc (.cells #[.int .i64 ((m : Int) + 1)] 2)).alloc (.cells #[.int .i64 ((s : Int) + 1)] 2)).cell? ⟨W.heap.size + 1, 0, none⟩ = some (.int .i64 ((m : Int) + 1))) := cell_al (by simp) _
  have k2 : Hid ((((W.alloc (.cells #[.map (some b)] 126)).alloc (.cells #[.int .i64 ((m : Int) + 1)] 2)).alloc (.cells #[.int .i64 ((s : Int) + 1)] 2)).cell? ⟨W.heap.size + 1 + 1, 0, none⟩ = some (.int .i64 ((s : Int) + 1))) := by
    have := World.cell?_alloc_new ((W.alloc (.cells #[.map (some b)] 126)).alloc (.cells #[.int .i64 ((m : Int) + 1)] 2)) #[.int .i64 ((s : Int) + 1)] 2 0
    exact Lib.hid (by simpa using this)
  obtain ⟨W3, hW3⟩ : ∃ W3, W3 = (((W.alloc (.cells #[.map (some b)] 126)).alloc (.cells #[.int .i64 ((m : Int) + 1)] 2)).alloc (.cells #[.int .i64 ((s : Int) + 1)] 2)) := ⟨_, rfl⟩
  have hcount : Hid (∀ W', Hid (Memo M.L W' b) → Hid (W3.grownBy W' (some b)) → Calls Try.prog 198 #[.pointer (some ⟨W.heap.size + 1, 0, none⟩), .pointer (some ⟨W.heap.size + 1 + 1, 0, none⟩), .pointer (some ⟨W.heap.size, 0, none⟩)] W' fun e W'' => e = .returned (.int .i64 (M.L (m + 1) (s + 1) : Int)) ∧ Hid (Memo M.L W'' b) ∧ Hid (W'.grownBy W'' (some b))) := fun W' hM' hg' =>
    lists1 b m s (W.heap.size + 1) (W.heap.size + 1 + 1) W.heap.size hs hm ih W' hM'
      (hg'.out.cell (hW3 ▸ k1.out) (fun e => by injection e with e; simp at e; omega)) (hg'.out.cell (hW3 ▸ k2.out) (fun e => by injection e with e; simp at e; omega)) (hg'.out.cell (hW3 ▸ k0.out) (fun e => by injection e with e; simp at e; omega)) (by omega) (by omega) (by omega)
  have hk := keptlists b (m + 1) (s + 1) ⟨W.heap.size + 1, 0, none⟩ ⟨W.heap.size + 1 + 1, 0, none⟩ ⟨W.heap.size, 0, none⟩ W3 (by omega) (by omega) (M.L_small (by omega)) (hW3 ▸ hM3) hcount
  have e1 : ((m + 1 : Nat) : Int) = (m : Int) + 1 := by omega
  have e2 : ((s + 1 : Nat) : Int) = (s : Int) + 1 := by omega
  rw [e1, e2, hW3] at hk
  have HK := Lib.hid hk
  have h1 : ¬ (m : Int) + 1 < (s : Int) + 1 := by omega
  have h2 : ((s : Int) + 1 == 0) = false := by simp; omega
  clear hk e1 e2 hcount hW3 k0 k1 k2 hM3
  go_enter Try.func170, Try.ntmps170
  go_wp2_with fail
  refine HK.out.mono ?_
  rintro e w2 ⟨rfl, hM2, hg2⟩
  have hgt := Lib.hid (hg3.out.trans hg2.out)
  go_wp2
  go_ret
  exact ⟨rfl, hM2, hgt⟩

theorem listsAt (b : Nat) : ∀ n : Nat, n ≤ 30 → ListsAt b n := by
  intro n
  induction n with
  | zero =>
    intro _ t W ht hM
    exact lists_base b 0 t W (by omega) ht (by omega) hM
  | succ m ih =>
    intro hm t W ht hM
    by_cases h : m + 1 < t ∨ t = 0
    · exact lists_base b (m + 1) t W (by omega) ht h hM
    · obtain ⟨s, rfl⟩ : ∃ s, t = s + 1 := ⟨t - 1, by omega⟩
      have := lists_step b m s W hm (by omega) (ih (by omega)) hM
      have e1 : ((m + 1 : Nat) : Int) = (m : Int) + 1 := by omega
      have e2 : ((s + 1 : Nat) : Int) = (s : Int) + 1 := by omega
      rw [e1, e2]
      exact this
end Go.Proofs.Ytimjcdjeeocffaa
