/- listsWithin, treesWithin: numbers by heights, with a map of what is known. -/
import Derived.Test.YtdaghbfejcjknabKeptWithin
import Derived.Test.YtdaghbfejcjknabForest
import Derived.Test.YtdaghbfejcjknabLists
import Derived.Deep.RegionHeld3
namespace Go.Proofs.Ytdaghbfejcjknab
open Go.RowKit Go.Maps Go.WideMaps

/-- what the map keeps: by nodes and height -/
def Fk (n j : Nat) : Nat := M.Fo (j + 1) n

/-- what listsWithin does at a height (as the program tells it: hi is that number, and levels the number of levels) -/
def WithinAt (b levels : Nat) (hi : Int) (n : Nat) : Prop := ∀ (W : World), Hid (Memo Fk W b) →
  Calls Try.prog 92 #[.map (some b), .int .i64 (n : Int), .int .i64 hi] W fun e W' => e = .returned (.int .i64 (M.Fo levels n : Int)) ∧ Hid (Memo Fk W' b) ∧ Hid (W.grownBy W' (some b))

set_option maxHeartbeats 1000000 in
set_option maxRecDepth 100000 in
/-- no nodes, or a height below 0 -/
theorem within_base (b levels n : Nat) (hi : Int) (W : World) (hn : n ≤ 1000) (hh : -1 ≤ hi ∧ hi ≤ 1000) (h : n = 0 ∨ (hi = -1 ∧ levels = 0)) (hM : Hid (Memo Fk W b)) :
    Calls Try.prog 92 #[.map (some b), .int .i64 (n : Int), .int .i64 hi] W fun e W' => e = .returned (.int .i64 (M.Fo levels n : Int)) ∧ Hid (Memo Fk W' b) ∧ Hid (W.grownBy W' (some b)) := by
  have hM3 : Hid (Memo Fk (((W.alloc (.cells #[.map (some b)] 68)).alloc (.cells #[.int .i64 (n : Int)] 2)).alloc (.cells #[.int .i64 hi] 2)) b) := ((hM.out.alloc _).alloc _).alloc _
  have hg3 : Hid (W.grownBy (((W.alloc (.cells #[.map (some b)] 68)).alloc (.cells #[.int .i64 (n : Int)] 2)).alloc (.cells #[.int .i64 hi] 2)) (some b)) := ((World.grownBy_alloc W _ _).trans (World.grownBy_alloc _ _ _)).trans (World.grownBy_alloc _ _ _)
  rcases Nat.eq_zero_or_pos n with h0 | h0
  · subst h0
    rw [M.Fo_none]
    clear h
    go_enter Try.func92, Try.ntmps92
    go_wp2_with (go_at_call 88; refine (oneIf _ _).mono ?_; rintro e w' ⟨rfl, rfl⟩)
    go_ret
    exact ⟨rfl, hM3, hg3⟩
  · obtain ⟨rfl, rfl⟩ : hi = -1 ∧ levels = 0 := by omega
    rw [M.Fo_zero h0]
    have hq : ((n : Int) == 0) = false := by simp; omega
    clear h
    go_enter Try.func92, Try.ntmps92
    go_wp2_with (go_at_call 88; refine (oneIf _ _).mono ?_; rintro e w' ⟨rfl, rfl⟩)
    go_ret
    exact ⟨rfl, hM3, hg3⟩

set_option maxHeartbeats 1000000 in
set_option maxRecDepth 100000 in
/-- treesWithin at a height of at least 0, out of listsWithin at the height below -/
theorem treesWithin_at (b m levels : Nat) (hi hi1 : Int) (W : World) (hm : m ≤ 1000) (hh : 0 ≤ hi ∧ hi ≤ 1000) (he : hi - 1 = hi1) (ih : Hid (WithinAt b levels hi1 m)) (hM : Hid (Memo Fk W b)) :
    Calls Try.prog 73 #[.map (some b), .int .i64 ((m : Int) + 1), .int .i64 hi] W fun e W' => e = .returned (.int .i64 (M.Fo levels m : Int)) ∧ Hid (Memo Fk W' b) ∧ Hid (W.grownBy W' (some b)) := by
  subst he
  have hc := Lib.hid (ih.out W hM)
  have h0 : ¬ hi < 0 := by omega
  have h1 := hh.1
  have h2 := hh.2
  clear ih hh
  go_enter Try.func73, Try.ntmps73
  go_wp2_with fail
  refine hc.out.mono ?_
  rintro e w2 ⟨rfl, hM2, hg2⟩
  clear hc
  go_wp2
  go_ret
  exact ⟨rfl, hM2, hg2⟩

theorem treesWithin_neg (b n : Nat) (W : World) (hM : Hid (Memo Fk W b)) :
    Calls Try.prog 73 #[.map (some b), .int .i64 (n : Int), .int .i64 (-1)] W fun e W' => e = .returned (.int .i64 0) ∧ Hid (Memo Fk W' b) ∧ Hid (W.grownBy W' (some b)) := by
  go_enter Try.func73, Try.ntmps73
  go_wp2
  go_ret
  exact ⟨rfl, hM, World.grownBy.refl _ _⟩

set_option maxHeartbeats 2000000 in
set_option maxRecDepth 100000 in
/-- the closure: the sum over the nodes of the first tree -/
theorem within1 (b m j Bn Bw Bh : Nat) (hm : m + 1 ≤ 30) (hj : j ≤ 30) (ihl : Hid (∀ x, x ≤ m → WithinAt b j ((j : Int) - 1) x)) (ihs : Hid (∀ x, x ≤ m → WithinAt b (j + 1) (j : Int) x)) (W : World) (hM : Hid (Memo Fk W b))
    (hn : Hid (W.cell? ⟨Bn, 0, none⟩ = some (.int .i64 ((m : Int) + 1)))) (hw : Hid (W.cell? ⟨Bw, 0, none⟩ = some (.map (some b)))) (hh : Hid (W.cell? ⟨Bh, 0, none⟩ = some (.int .i64 (j : Int)))) (hbn : b ≠ Bn) (hbw : b ≠ Bw) (hbh : b ≠ Bh) :
    Calls Try.prog 100 #[.pointer (some ⟨Bn, 0, none⟩), .pointer (some ⟨Bw, 0, none⟩), .pointer (some ⟨Bh, 0, none⟩)] W fun e W' => e = .returned (.int .i64 (M.Fo (j + 1) (m + 1) : Int)) ∧ Hid (Memo Fk W' b) ∧ Hid (W.grownBy W' (some b)) := by
  have hLe : Hid (M.Fo (j + 1) (m + 1) = M.sumTo (fun x => M.Fo j x * M.Fo (j + 1) (m - x)) (m + 1)) := M.Fo_succ j m
  have hsm : ∀ k, k ≤ m + 1 → M.sumTo (fun x => M.Fo j x * M.Fo (j + 1) (m - x)) k ≤ 10000000000000000 := fun k hk => M.Fosum_small (by omega) hk
  have Hsm := Lib.hid hsm
  clear hsm
  go_enter Try.func100, Try.ntmps100
  go_wp2
  go_loopw [4, 5] (fun q i wr => ∃ (k y : Nat), k ≤ m + 1 ∧ i = .int .i64 ((k : Int) + 1) ∧ q = .int .i64 (y : Int) ∧ Hid (M.sumTo (fun x => M.Fo j x * M.Fo (j + 1) (m - x)) k = y) ∧ Hid (Memo Fk wr b) ∧ Hid (W.grownBy wr (some b))) (fun _ i _ => 40 - (intOf i).toNat)
  case atStart => exact ⟨0, 0, Nat.zero_le _, rfl, rfl, rfl, hM, World.grownBy.refl _ _⟩
  case round =>
    obtain ⟨k, y, hk, rfl, rfl, hy, hMr, hg⟩ := hrel
    have c1 := hg.out.cell hn.out (fun e => hbn (by injection e with e; exact e.symm))
    have c2 := hg.out.cell hw.out (fun e => hbw (by injection e with e; exact e.symm))
    have c3 := hg.out.cell hh.out (fun e => hbh (by injection e with e; exact e.symm))
    have hy1 := Hsm.out k hk
    rw [hy.out] at hy1
    by_cases hlt : k < m + 1
    · have hlt2 : (k : Int) + 1 ≤ (m : Int) + 1 := by omega
      obtain ⟨d, hd⟩ : ∃ d, Hid (m - k = d) := ⟨_, rfl⟩
      have hsum : Hid (M.sumTo (fun x => M.Fo j x * M.Fo (j + 1) (m - x)) (k + 1) = y + M.Fo j k * M.Fo (j + 1) d) := by show _ = _; rw [M.sumTo, hy.out, hd.out]
      have hy2 := Hsm.out (k + 1) (by omega)
      rw [hsum.out] at hy2
      have hT : ∀ W', Hid (Memo Fk W' b) → Hid (W.grownBy W' (some b)) → Calls Try.prog 73 #[.map (some b), .int .i64 ((k : Int) + 1), .int .i64 (j : Int)] W' fun e w' => e = .returned (.int .i64 (M.Fo j k : Int)) ∧ Hid (Memo Fk w' b) ∧ Hid (W.grownBy w' (some b)) := fun W' hM' hg' =>
        (treesWithin_at b k j (j : Int) ((j : Int) - 1) W' (by omega) (by omega) rfl (ihl.out k (by omega)) hM').mono fun e w' ⟨he, h1, h2⟩ => ⟨he, h1, hg'.out.trans h2.out⟩
      have hL : ∀ W', Hid (Memo Fk W' b) → Hid (W.grownBy W' (some b)) → Calls Try.prog 92 #[.map (some b), .int .i64 (d : Int), .int .i64 (j : Int)] W' fun e w' => e = .returned (.int .i64 (M.Fo (j + 1) d : Int)) ∧ Hid (Memo Fk w' b) ∧ Hid (W.grownBy w' (some b)) := fun W' hM' hg' =>
        (ihs.out d (by have := hd.out; omega) W' hM').mono fun e w' ⟨he, h1, h2⟩ => ⟨he, h1, hg'.out.trans h2.out⟩
      generalize M.Fo j k = a at *
      generalize M.Fo (j + 1) d = z at *
      obtain ⟨az, haz⟩ : ∃ az, Hid (a * z = az) := ⟨_, rfl⟩
      rw [haz.out] at hsum hy2
      have hmul : ((a : Int) * (z : Int)) = (az : Int) := by rw [← haz.out]; exact (Int.natCast_mul a z).symm
      have hw1 : IntKind.i64.wrap ((a : Int) * (z : Int)) = (az : Int) := by rw [hmul]; exact IntWalk.i64_in _ (by omega)
      have hw2 : IntKind.i64.wrap ((y : Int) + (az : Int)) = (y : Int) + (az : Int) := IntWalk.i64_in _ (by omega)
      have hw3 : IntKind.i64.wrap ((m : Int) + 1 - ((k : Int) + 1)) = (d : Int) := by rw [IntWalk.i64_in _ (by omega)]; have := hd.out; omega
      have HT := Lib.hid hT
      have HL := Lib.hid hL
      have hS : ∀ W', Hid (Memo Fk W' b) → Hid (W.grownBy W' (some b)) → W'.cell? ⟨Bn, 0, none⟩ = some (.int .i64 ((m : Int) + 1)) ∧ W'.cell? ⟨Bw, 0, none⟩ = some (.map (some b)) ∧ W'.cell? ⟨Bh, 0, none⟩ = some (.int .i64 (j : Int)) := fun W' _ hg' =>
        ⟨hg'.out.cell hn.out (fun e => hbn (by injection e with e; exact e.symm)), hg'.out.cell hw.out (fun e => hbw (by injection e with e; exact e.symm)), hg'.out.cell hh.out (fun e => hbh (by injection e with e; exact e.symm))⟩
      have HS := Lib.hid hS
      clear hT hL hS hmul
      go_wp2
      have k1 : wr.drew.cell? ⟨Bn, 0, none⟩ = some (.int .i64 ((m : Int) + 1)) := c1
      have k2 : wr.drew.cell? ⟨Bw, 0, none⟩ = some (.map (some b)) := c2
      have k3 : wr.drew.cell? ⟨Bh, 0, none⟩ = some (.int .i64 (j : Int)) := c3
      have k4 : Hid (Memo Fk wr.drew b) := hMr.out
      have k5 : Hid (W.grownBy wr.drew (some b)) := ⟨hg.out.os, hg.out.tape, hg.out.output, hg.out.size, hg.out.block⟩
      clear c1 c2 c3
      go_region_held3 (fun w' => w'.cell? ⟨Bn, 0, none⟩ = some (.int .i64 ((m : Int) + 1)) ∧ w'.cell? ⟨Bw, 0, none⟩ = some (.map (some b)) ∧ w'.cell? ⟨Bh, 0, none⟩ = some (.int .i64 (j : Int)) ∧ Hid (Memo Fk w' b) ∧ Hid (W.grownBy w' (some b))) (first | exact ⟨k1, k2, k3, k4, k5⟩ | exact ⟨(HS.out _ (by assumption) (by assumption)).1, (HS.out _ (by assumption) (by assumption)).2.1, (HS.out _ (by assumption) (by assumption)).2.2, by assumption, by assumption⟩) (first | (go_at_call 73; refine (HT.out _ (by assumption) (by assumption)).mono ?_; rintro e w7 ⟨rfl, hM7, hg7⟩) | (go_at_call 92; refine (HL.out _ (by assumption) (by assumption)).mono ?_; rintro e w8 ⟨rfl, hM8, hg8⟩))
      clear HT HL HS k1 k2 k3 k4 k5 hM7 hg7 hMr hg
      go_wp2
      go_roundw
      case rel => exact ⟨k + 1, y + az, by omega, by go_num, by go_num, hsum, hM8, hg8⟩
      case measure => simp [intOf]; omega
    · obtain rfl : k = m + 1 := by omega
      have hge : ¬ ((m + 1 : Nat) : Int) + 1 ≤ (m : Int) + 1 := by omega
      have he : Hid (M.Fo (j + 1) (m + 1) = y) := hLe.out.trans hy.out
      go_wp2
      go_ret
      exact ⟨by rw [he.out]; rfl, hMr, hg⟩

set_option maxHeartbeats 1000000 in
set_option maxRecDepth 100000 in
theorem within_step (b m j : Nat) (W : World) (hm : m + 1 ≤ 30) (hj : j ≤ 30) (ihl : Hid (∀ x, x ≤ m → WithinAt b j ((j : Int) - 1) x)) (ihs : Hid (∀ x, x ≤ m → WithinAt b (j + 1) (j : Int) x)) (hM : Hid (Memo Fk W b)) :
    Calls Try.prog 92 #[.map (some b), .int .i64 ((m : Int) + 1), .int .i64 (j : Int)] W fun e W' => e = .returned (.int .i64 (M.Fo (j + 1) (m + 1) : Int)) ∧ Hid (Memo Fk W' b) ∧ Hid (W.grownBy W' (some b)) := by
  have hbW := hM.out.lt
  have hM3 : Hid (Memo Fk (((W.alloc (.cells #[.map (some b)] 68)).alloc (.cells #[.int .i64 ((m : Int) + 1)] 2)).alloc (.cells #[.int .i64 (j : Int)] 2)) b) := ((hM.out.alloc _).alloc _).alloc _
  have hg3 : Hid (W.grownBy (((W.alloc (.cells #[.map (some b)] 68)).alloc (.cells #[.int .i64 ((m : Int) + 1)] 2)).alloc (.cells #[.int .i64 (j : Int)] 2)) (some b)) := ((World.grownBy_alloc W _ _).trans (World.grownBy_alloc _ _ _)).trans (World.grownBy_alloc _ _ _)
  have k0 : Hid ((((W.alloc (.cells #[.map (some b)] 68)).alloc (.cells #[.int .i64 ((m : Int) + 1)] 2)).alloc (.cells #[.int .i64 (j : Int)] 2)).cell? ⟨W.heap.size, 0, none⟩ = some (.map (some b))) := cell_al (cell_al (by simp) _) _
  have k1 : Hid ((((W.alloc (.cells #[.map (some b)] 68)).alloc (.cells #[.int .i64 ((m : Int) + 1)] 2)).alloc (.cells #[.int .i64 (j : Int)] 2)).cell? ⟨W.heap.size + 1, 0, none⟩ = some (.int .i64 ((m : Int) + 1))) := cell_al (by simp) _
  have k2 : Hid ((((W.alloc (.cells #[.map (some b)] 68)).alloc (.cells #[.int .i64 ((m : Int) + 1)] 2)).alloc (.cells #[.int .i64 (j : Int)] 2)).cell? ⟨W.heap.size + 1 + 1, 0, none⟩ = some (.int .i64 (j : Int))) := by
    have := World.cell?_alloc_new ((W.alloc (.cells #[.map (some b)] 68)).alloc (.cells #[.int .i64 ((m : Int) + 1)] 2)) #[.int .i64 (j : Int)] 2 0
    exact Lib.hid (by simpa using this)
  obtain ⟨W3, hW3⟩ : ∃ W3, W3 = (((W.alloc (.cells #[.map (some b)] 68)).alloc (.cells #[.int .i64 ((m : Int) + 1)] 2)).alloc (.cells #[.int .i64 (j : Int)] 2)) := ⟨_, rfl⟩
  have hcount : Hid (∀ W', Hid (Memo Fk W' b) → Hid (W3.grownBy W' (some b)) → Calls Try.prog 100 #[.pointer (some ⟨W.heap.size + 1, 0, none⟩), .pointer (some ⟨W.heap.size, 0, none⟩), .pointer (some ⟨W.heap.size + 1 + 1, 0, none⟩)] W' fun e W'' => e = .returned (.int .i64 (Fk (m + 1) j : Int)) ∧ Hid (Memo Fk W'' b) ∧ Hid (W'.grownBy W'' (some b))) := fun W' hM' hg' =>
    within1 b m j (W.heap.size + 1) W.heap.size (W.heap.size + 1 + 1) hm hj ihl ihs W' hM'
      (hg'.out.cell (hW3 ▸ k1.out) (fun e => by injection e with e; simp at e; omega)) (hg'.out.cell (hW3 ▸ k0.out) (fun e => by injection e with e; simp at e; omega)) (hg'.out.cell (hW3 ▸ k2.out) (fun e => by injection e with e; simp at e; omega)) (by omega) (by omega) (by omega)
  have hFs : Fk (m + 1) j ≤ 1152921504606846976 := Nat.le_trans (M.Fo_small (h := j + 1) (n := m + 1) hm) (by omega)
  have hk := keptlistsWithin b (m + 1) j ⟨W.heap.size + 1, 0, none⟩ ⟨W.heap.size, 0, none⟩ ⟨W.heap.size + 1 + 1, 0, none⟩ W3 (by omega) (by omega) hFs (hW3 ▸ hM3) hcount
  have e1 : ((m + 1 : Nat) : Int) = (m : Int) + 1 := by omega
  rw [e1, hW3] at hk
  have HK := Lib.hid hk
  have h1 : ¬ (j : Int) < 0 := by omega
  have h2 : ((m : Int) + 1 == 0) = false := by simp; omega
  clear hk e1 hcount hW3 k0 k1 k2 hM3
  go_enter Try.func92, Try.ntmps92
  go_wp2_with fail
  refine HK.out.mono ?_
  rintro e w2 ⟨rfl, hM2, hg2⟩
  have hgt := Lib.hid (hg3.out.trans hg2.out)
  go_wp2
  go_ret
  exact ⟨rfl, hM2, hgt⟩

theorem withinAt (b : Nat) : ∀ levels : Nat, levels ≤ 31 → ∀ n, n ≤ 30 → WithinAt b levels ((levels : Int) - 1) n := by
  intro levels
  induction levels with
  | zero =>
    intro _ n hn W hM
    exact within_base b 0 n _ W (by omega) (by omega) (.inr ⟨by omega, rfl⟩) hM
  | succ j ih =>
    intro hj n
    have ec : ((j + 1 : Nat) : Int) - 1 = (j : Int) := by omega
    rw [ec]
    induction n using Nat.strongRecOn with
    | _ n ihn =>
      intro hn W hM
      cases n with
      | zero => exact within_base b (j + 1) 0 _ W (by omega) (by omega) (.inl rfl) hM
      | succ m =>
        have := within_step b m j W hn (by omega) (fun x hx => ih (by omega) x (by omega)) (fun x hx => ihn x (by omega) (by omega)) hM
        have e1 : ((m + 1 : Nat) : Int) = (m : Int) + 1 := by omega
        rw [e1]
        exact this
end Go.Proofs.Ytdaghbfejcjknab
