/- listsByLeaves, treesByLeaves: numbers by leaves, with a map of what is known. -/
import Derived.Test.YtdaghbfejcjknabKeptLeaves
import Derived.Test.YtdaghbfejcjknabNar
import Derived.Test.YtdaghbfejcjknabLists
import Derived.Deep.RegionHeld3
namespace Go.Proofs.Ytdaghbfejcjknab
open Go.RowKit Go.Maps Go.WideMaps

def LeavesAt (b n : Nat) : Prop := ∀ (k : Nat) (W : World), k ≤ 1000 → Hid (Memo M.entG W b) →
  Calls Try.prog 91 #[.map (some b), .int .i64 (n : Int), .int .i64 (k : Int)] W fun e W' => e = .returned (.int .i64 (M.entG n k : Int)) ∧ Hid (Memo M.entG W' b) ∧ Hid (W.grownBy W' (some b))

set_option maxHeartbeats 1000000 in
set_option maxRecDepth 100000 in
theorem leaves_base (b n t : Nat) (W : World) (hn : n ≤ 29) (ht : t ≤ 1000) (h : n < t ∨ t = 0) (hM : Hid (Memo M.entG W b)) :
    Calls Try.prog 91 #[.map (some b), .int .i64 (n : Int), .int .i64 (t : Int)] W fun e W' => e = .returned (.int .i64 (M.entG n t : Int)) ∧ Hid (Memo M.entG W' b) ∧ Hid (W.grownBy W' (some b)) := by
  have hM3 : Hid (Memo M.entG (((W.alloc (.cells #[.map (some b)] 68)).alloc (.cells #[.int .i64 (n : Int)] 2)).alloc (.cells #[.int .i64 (t : Int)] 2)) b) := ((hM.out.alloc _).alloc _).alloc _
  have hg3 : Hid (W.grownBy (((W.alloc (.cells #[.map (some b)] 68)).alloc (.cells #[.int .i64 (n : Int)] 2)).alloc (.cells #[.int .i64 (t : Int)] 2)) (some b)) := ((World.grownBy_alloc W _ _).trans (World.grownBy_alloc _ _ _)).trans (World.grownBy_alloc _ _ _)
  have hL := M.G_base hn h
  by_cases h1 : n < t
  · have hL : Hid (M.entG n t = 0) := by show _ = _; rw [hL, if_neg (by omega)]
    have h2 : (n : Int) < (t : Int) := by omega
    have hq : ((n : Int) == (t : Int)) = false := by simp; omega
    rw [hL.out]
    clear h h1
    go_enter Try.func91, Try.ntmps91
    go_wp2_with (go_at_call 88; refine (oneIf _ _).mono ?_; rintro e w' ⟨rfl, rfl⟩)
    go_ret
    exact ⟨rfl, hM3, hg3⟩
  · obtain rfl : t = 0 := by omega
    rcases Nat.eq_zero_or_pos n with h0 | h0
    · subst h0
      rw [hL]
      clear h h1 hL
      go_enter Try.func91, Try.ntmps91
      go_wp2_with (go_at_call 88; refine (oneIf _ _).mono ?_; rintro e w' ⟨rfl, rfl⟩)
      go_ret
      exact ⟨rfl, hM3, hg3⟩
    · have hL : Hid (M.entG n 0 = 0) := by show _ = _; rw [hL, if_neg (by omega)]
      have hq : ((n : Int) == 0) = false := by simp; omega
      have h2 : ¬ (n : Int) < 0 := by omega
      rw [hL.out]
      clear h h1
      go_enter Try.func91, Try.ntmps91
      go_wp2_with (go_at_call 88; refine (oneIf _ _).mono ?_; rintro e w' ⟨rfl, rfl⟩)
      go_ret
      exact ⟨rfl, hM3, hg3⟩

set_option maxHeartbeats 1000000 in
set_option maxRecDepth 100000 in
theorem treesByLeaves_at (b m k : Nat) (W : World) (hm : m ≤ 29) (hk : k ≤ 1000) (ih : Hid (LeavesAt b m)) (hM : Hid (Memo M.entG W b)) :
    Calls Try.prog 71 #[.map (some b), .int .i64 ((m : Int) + 1), .int .i64 (k : Int)] W fun e W' => e = .returned (.int .i64 (M.Tl (m + 1) k : Int)) ∧ Hid (Memo M.entG W' b) ∧ Hid (W.grownBy W' (some b)) := by
  rcases Nat.eq_zero_or_pos m with h0 | h0
  · subst h0
    have hT : M.Tl (0 + 1) k = if k = 1 then 1 else 0 := rfl
    rw [hT]
    by_cases h1 : k = 1
    · subst h1
      go_enter Try.func71, Try.ntmps71
      go_wp2_with (go_at_call 88; refine (oneIf _ _).mono ?_; rintro e w' ⟨rfl, rfl⟩)
      go_ret
      exact ⟨rfl, hM, World.grownBy.refl _ _⟩
    · rw [if_neg h1]
      have hq : ((k : Int) == 1) = false := by simp; omega
      clear hT h1
      go_enter Try.func71, Try.ntmps71
      go_wp2_with (go_at_call 88; refine (oneIf _ _).mono ?_; rintro e w' ⟨rfl, rfl⟩)
      go_ret
      exact ⟨rfl, hM, World.grownBy.refl _ _⟩
  · have hT : M.Tl (m + 1) k = M.entG m k := by rw [M.Tl, if_neg (by omega)]; rfl
    rw [hT]
    have hq : ((m : Int) + 1 == 1) = false := by simp; omega
    have hc := Lib.hid (ih.out k W hk hM)
    clear hT
    go_enter Try.func71, Try.ntmps71
    go_wp2_with fail
    refine hc.out.mono ?_
    rintro e w2 ⟨rfl, hM2, hg2⟩
    clear hc
    go_wp2
    go_ret
    exact ⟨rfl, hM2, hg2⟩

/-- the sum over the leaves of a first tree of x + 1 nodes -/
def inn (m s x z : Nat) : Nat := M.sumTo (fun y => M.Tl (x + 1) (y + 1) * M.entG (m - x) (s - y)) z
def outn (m s x : Nat) : Nat := M.sumTo (fun x => inn m s x (min (x + 1) (s + 1))) x
theorem outn_small {m s x : Nat} (hm : m ≤ 28) (hs : s ≤ m) (hx : x ≤ m + 1) : outn m s x ≤ 10000000000000000 := by
  have h1 := M.sumTo_le (f := fun x => inn m s x (min (x + 1) (s + 1))) hx
  have h2 := M.G_small (m + 1) (s + 1)
  rw [M.G_rec hm hs] at h2
  exact Nat.le_trans h1 h2
theorem inn_small {m s x z : Nat} (hm : m ≤ 28) (hs : s ≤ m) (hx : x < m + 1) (hz : z ≤ min (x + 1) (s + 1)) : outn m s x + inn m s x z ≤ 10000000000000000 := by
  have h1 := outn_small hm hs (x := x + 1) (by omega)
  have h2 := M.sumTo_le (f := fun y => M.Tl (x + 1) (y + 1) * M.entG (m - x) (s - y)) hz
  simp only [outn, M.sumTo] at h1 ⊢
  simp only [inn] at h1 ⊢
  omega

set_option maxHeartbeats 4000000 in
set_option maxRecDepth 100000 in
theorem leaves1 (b m s Bn Bt Bw : Nat) (hs : s ≤ m) (hm : m ≤ 28) (ih : Hid (∀ x, x ≤ m → LeavesAt b x)) (W : World) (hM : Hid (Memo M.entG W b))
    (hn : Hid (W.cell? ⟨Bn, 0, none⟩ = some (.int .i64 ((m : Int) + 1)))) (ht : Hid (W.cell? ⟨Bt, 0, none⟩ = some (.int .i64 ((s : Int) + 1)))) (hw : Hid (W.cell? ⟨Bw, 0, none⟩ = some (.map (some b)))) (hbn : b ≠ Bn) (hbt : b ≠ Bt) (hbw : b ≠ Bw) :
    Calls Try.prog 99 #[.pointer (some ⟨Bn, 0, none⟩), .pointer (some ⟨Bt, 0, none⟩), .pointer (some ⟨Bw, 0, none⟩)] W fun e W' => e = .returned (.int .i64 (M.entG (m + 1) (s + 1) : Int)) ∧ Hid (Memo M.entG W' b) ∧ Hid (W.grownBy W' (some b)) := by
  have hLe : Hid (M.entG (m + 1) (s + 1) = outn m s (m + 1)) := M.G_rec hm hs
  go_enter Try.func99, Try.ntmps99
  go_wp2
  go_loopw [4, 5, 6] (fun q i _ wr => ∃ (x y : Nat), x ≤ m + 1 ∧ i = .int .i64 ((x : Int) + 1) ∧ q = .int .i64 (y : Int) ∧ Hid (outn m s x = y) ∧ Hid (Memo M.entG wr b) ∧ Hid (W.grownBy wr (some b))) (fun _ i _ _ => 40 - (intOf i).toNat)
  case atStart => exact ⟨0, 0, Nat.zero_le _, rfl, rfl, rfl, hM, World.grownBy.refl _ _⟩
  case round =>
    obtain ⟨x, y, hx, rfl, rfl, hy, hMr, hg⟩ := hrel
    have c1 := hg.out.cell hn.out (fun e => hbn (by injection e with e; exact e.symm))
    by_cases hlt : x < m + 1
    · have hlt2 : (x : Int) + 1 ≤ (m : Int) + 1 := by omega
      obtain ⟨d, hd⟩ : ∃ d, Hid (m - x = d) := ⟨_, rfl⟩
      have hmn := fun z hz => inn_small (x := x) (z := z) hm hs hlt hz
      rw [hy.out] at hmn
      have Hmn := Lib.hid hmn
      clear hmn
      go_wp2
      clear c1
      go_loopw [4, 6] (fun q i wr => ∃ (z y2 : Nat), z ≤ min (x + 1) (s + 1) ∧ i = .int .i64 ((z : Int) + 1) ∧ q = .int .i64 (y2 : Int) ∧ Hid (y + inn m s x z = y2) ∧ Hid (Memo M.entG wr b) ∧ Hid (W.grownBy wr (some b))) (fun _ i _ => 40 - (intOf i).toNat)
      case atStart => exact ⟨0, y, Nat.zero_le _, rfl, rfl, rfl, hMr, hg⟩
      case round =>
        obtain ⟨z, y2, hz, rfl, rfl, hy2, hMr, hg⟩ := hrel
        have c1 := hg.out.cell hn.out (fun e => hbn (by injection e with e; exact e.symm))
        have c2 := hg.out.cell ht.out (fun e => hbt (by injection e with e; exact e.symm))
        have c3 := hg.out.cell hw.out (fun e => hbw (by injection e with e; exact e.symm))
        have hb2 := Hmn.out z hz
        rw [hy2.out] at hb2
        by_cases hzl : z < min (x + 1) (s + 1)
        · have hz1 : (z : Int) + 1 ≤ (x : Int) + 1 := by omega
          have hz2 : (z : Int) + 1 ≤ (s : Int) + 1 := by omega
          obtain ⟨e, he⟩ : ∃ e, Hid (s - z = e) := ⟨_, rfl⟩
          have hsum : Hid (y + inn m s x (z + 1) = y2 + M.Tl (x + 1) (z + 1) * M.entG d e) := by
            show _ = _
            have := hy2.out
            rw [← hd.out, ← he.out]
            simp only [inn, M.sumTo] at this ⊢
            omega
          have hb3 := Hmn.out (z + 1) (by omega)
          rw [hsum.out] at hb3
          have hT : ∀ W', Hid (Memo M.entG W' b) → Hid (W.grownBy W' (some b)) → Calls Try.prog 71 #[.map (some b), .int .i64 ((x : Int) + 1), .int .i64 ((z : Int) + 1)] W' fun e w' => e = .returned (.int .i64 (M.Tl (x + 1) (z + 1) : Int)) ∧ Hid (Memo M.entG w' b) ∧ Hid (W.grownBy w' (some b)) := fun W' hM' hg' => by
            have := treesByLeaves_at b x (z + 1) W' (by omega) (by omega) (ih.out x (by omega)) hM'
            have ec : ((z + 1 : Nat) : Int) = (z : Int) + 1 := by omega
            rw [ec] at this
            exact this.mono fun e w' ⟨he, h1, h2⟩ => ⟨he, h1, hg'.out.trans h2.out⟩
          have hL : ∀ W', Hid (Memo M.entG W' b) → Hid (W.grownBy W' (some b)) → Calls Try.prog 91 #[.map (some b), .int .i64 (d : Int), .int .i64 (e : Int)] W' fun e' w' => e' = .returned (.int .i64 (M.entG d e : Int)) ∧ Hid (Memo M.entG w' b) ∧ Hid (W.grownBy w' (some b)) := fun W' hM' hg' =>
            (ih.out d (by have := hd.out; omega) e W' (by have := he.out; omega) hM').mono fun e w' ⟨he, h1, h2⟩ => ⟨he, h1, hg'.out.trans h2.out⟩
          generalize M.Tl (x + 1) (z + 1) = a at *
          generalize M.entG d e = u at *
          obtain ⟨au, hau⟩ : ∃ au, Hid (a * u = au) := ⟨_, rfl⟩
          rw [hau.out] at hsum hb3
          have hmul : ((a : Int) * (u : Int)) = (au : Int) := by rw [← hau.out]; exact (Int.natCast_mul a u).symm
          have hw1 : IntKind.i64.wrap ((a : Int) * (u : Int)) = (au : Int) := by rw [hmul]; exact IntWalk.i64_in _ (by omega)
          have hw2 : IntKind.i64.wrap ((y2 : Int) + (au : Int)) = (y2 : Int) + (au : Int) := IntWalk.i64_in _ (by omega)
          have hw3 : IntKind.i64.wrap ((m : Int) + 1 - ((x : Int) + 1)) = (d : Int) := by rw [IntWalk.i64_in _ (by omega)]; have := hd.out; omega
          have hw4 : IntKind.i64.wrap ((s : Int) + 1 - ((z : Int) + 1)) = (e : Int) := by rw [IntWalk.i64_in _ (by omega)]; have := he.out; omega
          have HT := Lib.hid hT
          have HL := Lib.hid hL
          have hS : ∀ W', Hid (Memo M.entG W' b) → Hid (W.grownBy W' (some b)) → W'.cell? ⟨Bn, 0, none⟩ = some (.int .i64 ((m : Int) + 1)) ∧ W'.cell? ⟨Bt, 0, none⟩ = some (.int .i64 ((s : Int) + 1)) ∧ W'.cell? ⟨Bw, 0, none⟩ = some (.map (some b)) := fun W' _ hg' =>
            ⟨hg'.out.cell hn.out (fun e => hbn (by injection e with e; exact e.symm)), hg'.out.cell ht.out (fun e => hbt (by injection e with e; exact e.symm)), hg'.out.cell hw.out (fun e => hbw (by injection e with e; exact e.symm))⟩
          have HS := Lib.hid hS
          clear hT hL hS hmul
          go_wp2
          all_goals
            have k1 : wr.drew.cell? ⟨Bn, 0, none⟩ = some (.int .i64 ((m : Int) + 1)) := c1
            have k2 : wr.drew.cell? ⟨Bt, 0, none⟩ = some (.int .i64 ((s : Int) + 1)) := c2
            have k3 : wr.drew.cell? ⟨Bw, 0, none⟩ = some (.map (some b)) := c3
            have k4 : Hid (Memo M.entG wr.drew b) := hMr.out
            have k5 : Hid (W.grownBy wr.drew (some b)) := ⟨hg.out.os, hg.out.tape, hg.out.output, hg.out.size, hg.out.block⟩
            clear c1 c2 c3
            go_region_held3 (fun w' => w'.cell? ⟨Bn, 0, none⟩ = some (.int .i64 ((m : Int) + 1)) ∧ w'.cell? ⟨Bt, 0, none⟩ = some (.int .i64 ((s : Int) + 1)) ∧ w'.cell? ⟨Bw, 0, none⟩ = some (.map (some b)) ∧ Hid (Memo M.entG w' b) ∧ Hid (W.grownBy w' (some b))) (first | exact ⟨k1, k2, k3, k4, k5⟩ | exact ⟨(HS.out _ (by assumption) (by assumption)).1, (HS.out _ (by assumption) (by assumption)).2.1, (HS.out _ (by assumption) (by assumption)).2.2, by assumption, by assumption⟩) (first | (go_at_call 71; refine (HT.out _ (by assumption) (by assumption)).mono ?_; rintro e w7 ⟨rfl, hM7, hg7⟩) | (go_at_call 91; refine (HL.out _ (by assumption) (by assumption)).mono ?_; rintro e w8 ⟨rfl, hM8, hg8⟩))
            clear HT HL HS k1 k2 k3 k4 k5 hM7 hg7 hMr hg
            go_wp2
            go_roundw
            case rel => exact ⟨z + 1, y2 + au, by omega, by go_num, by go_num, hsum, hM8, hg8⟩
            case measure => simp [intOf]; omega
        · have hfin : Hid (outn m s (x + 1) = y2) := by
            show _ = _
            have e : z = min (x + 1) (s + 1) := by omega
            have h1 := hy2.out
            have h2 := hy.out
            rw [e] at h1
            simp only [outn, M.sumTo] at h2 ⊢
            omega
          by_cases hxs : s < x
          · have hxs2 : (s : Int) + 1 < (x : Int) + 1 := by omega
            have hge : ¬ (z : Int) + 1 ≤ (s : Int) + 1 := by omega
            go_wp2
            all_goals
              go_roundw
              case rel => exact ⟨x + 1, y2, by omega, by go_num, rfl, hfin, hMr, hg⟩
              case measure => simp [intOf]; omega
          · have hxs2 : ¬ (s : Int) + 1 < (x : Int) + 1 := by omega
            have hge : ¬ (z : Int) + 1 ≤ (x : Int) + 1 := by omega
            go_wp2
            all_goals
              go_roundw
              case rel => exact ⟨x + 1, y2, by omega, by go_num, rfl, hfin, hMr, hg⟩
              case measure => simp [intOf]; omega
    · obtain rfl : x = m + 1 := by omega
      have hge : ¬ ((m + 1 : Nat) : Int) + 1 ≤ (m : Int) + 1 := by omega
      have he : Hid (M.entG (m + 1) (s + 1) = y) := hLe.out.trans hy.out
      go_wp2
      go_ret
      exact ⟨by rw [he.out]; rfl, hMr, hg⟩

set_option maxHeartbeats 1000000 in
set_option maxRecDepth 100000 in
theorem leaves_step (b m s : Nat) (W : World) (hm : m ≤ 28) (hs : s ≤ m) (ih : Hid (∀ x, x ≤ m → LeavesAt b x)) (hM : Hid (Memo M.entG W b)) :
    Calls Try.prog 91 #[.map (some b), .int .i64 ((m : Int) + 1), .int .i64 ((s : Int) + 1)] W fun e W' => e = .returned (.int .i64 (M.entG (m + 1) (s + 1) : Int)) ∧ Hid (Memo M.entG W' b) ∧ Hid (W.grownBy W' (some b)) := by
  have hbW := hM.out.lt
  have hM3 : Hid (Memo M.entG (((W.alloc (.cells #[.map (some b)] 68)).alloc (.cells #[.int .i64 ((m : Int) + 1)] 2)).alloc (.cells #[.int .i64 ((s : Int) + 1)] 2)) b) := ((hM.out.alloc _).alloc _).alloc _
  have hg3 : Hid (W.grownBy (((W.alloc (.cells #[.map (some b)] 68)).alloc (.cells #[.int .i64 ((m : Int) + 1)] 2)).alloc (.cells #[.int .i64 ((s : Int) + 1)] 2)) (some b)) := ((World.grownBy_alloc W _ _).trans (World.grownBy_alloc _ _ _)).trans (World.grownBy_alloc _ _ _)
  have k0 : Hid ((((W.alloc (.cells #[.map (some b)] 68)).alloc (.cells #[.int .i64 ((m : Int) + 1)] 2)).alloc (.cells #[.int .i64 ((s : Int) + 1)] 2)).cell? ⟨W.heap.size, 0, none⟩ = some (.map (some b))) := cell_al (cell_al (by simp) _) _
  have k1 : Hid ((((W.alloc (.cells #[.map (some b)] 68)).alloc (.cells #[.int .i64 ((m : Int) + 1)] 2)).alloc (.cells #[.int .i64 ((s : Int) + 1)] 2)).cell? ⟨W.heap.size + 1, 0, none⟩ = some (.int .i64 ((m : Int) + 1))) := cell_al (by simp) _
  have k2 : Hid ((((W.alloc (.cells #[.map (some b)] 68)).alloc (.cells #[.int .i64 ((m : Int) + 1)] 2)).alloc (.cells #[.int .i64 ((s : Int) + 1)] 2)).cell? ⟨W.heap.size + 1 + 1, 0, none⟩ = some (.int .i64 ((s : Int) + 1))) := by
    have := World.cell?_alloc_new ((W.alloc (.cells #[.map (some b)] 68)).alloc (.cells #[.int .i64 ((m : Int) + 1)] 2)) #[.int .i64 ((s : Int) + 1)] 2 0
    exact Lib.hid (by simpa using this)
  obtain ⟨W3, hW3⟩ : ∃ W3, W3 = (((W.alloc (.cells #[.map (some b)] 68)).alloc (.cells #[.int .i64 ((m : Int) + 1)] 2)).alloc (.cells #[.int .i64 ((s : Int) + 1)] 2)) := ⟨_, rfl⟩
  have hcount : Hid (∀ W', Hid (Memo M.entG W' b) → Hid (W3.grownBy W' (some b)) → Calls Try.prog 99 #[.pointer (some ⟨W.heap.size + 1, 0, none⟩), .pointer (some ⟨W.heap.size + 1 + 1, 0, none⟩), .pointer (some ⟨W.heap.size, 0, none⟩)] W' fun e W'' => e = .returned (.int .i64 (M.entG (m + 1) (s + 1) : Int)) ∧ Hid (Memo M.entG W'' b) ∧ Hid (W'.grownBy W'' (some b))) := fun W' hM' hg' =>
    leaves1 b m s (W.heap.size + 1) (W.heap.size + 1 + 1) W.heap.size hs hm ih W' hM'
      (hg'.out.cell (hW3 ▸ k1.out) (fun e => by injection e with e; simp at e; omega)) (hg'.out.cell (hW3 ▸ k2.out) (fun e => by injection e with e; simp at e; omega)) (hg'.out.cell (hW3 ▸ k0.out) (fun e => by injection e with e; simp at e; omega)) (by omega) (by omega) (by omega)
  have hk := keptlistsByLeaves b (m + 1) (s + 1) ⟨W.heap.size + 1, 0, none⟩ ⟨W.heap.size + 1 + 1, 0, none⟩ ⟨W.heap.size, 0, none⟩ W3 (by omega) (by omega) (Nat.le_trans (M.G_small _ _) (by omega)) (hW3 ▸ hM3) hcount
  have e1 : ((m + 1 : Nat) : Int) = (m : Int) + 1 := by omega
  have e2 : ((s + 1 : Nat) : Int) = (s : Int) + 1 := by omega
  rw [e1, e2, hW3] at hk
  have HK := Lib.hid hk
  have h1 : ¬ (m : Int) + 1 < (s : Int) + 1 := by omega
  have h2 : ((s : Int) + 1 == 0) = false := by simp; omega
  clear hk e1 e2 hcount hW3 k0 k1 k2 hM3
  go_enter Try.func91, Try.ntmps91
  go_wp2_with fail
  refine HK.out.mono ?_
  rintro e w2 ⟨rfl, hM2, hg2⟩
  have hgt := Lib.hid (hg3.out.trans hg2.out)
  go_wp2
  go_ret
  exact ⟨rfl, hM2, hgt⟩

theorem leavesAt (b : Nat) : ∀ n : Nat, n ≤ 29 → LeavesAt b n := by
  intro n
  induction n using Nat.strongRecOn with
  | _ n ih =>
    intro hn t W ht hM
    by_cases h : n < t ∨ t = 0
    · exact leaves_base b n t W hn ht h hM
    · obtain ⟨s, rfl⟩ : ∃ s, t = s + 1 := ⟨t - 1, by omega⟩
      obtain ⟨m, rfl⟩ : ∃ m, n = m + 1 := ⟨n - 1, by omega⟩
      have := leaves_step b m s W (by omega) (by omega) (fun x hx => ih x (by omega) (by omega)) hM
      have e1 : ((m + 1 : Nat) : Int) = (m : Int) + 1 := by omega
      have e2 : ((s + 1 : Nat) : Int) = (s : Int) + 1 := by omega
      rw [e1, e2]
      exact this
end Go.Proofs.Ytdaghbfejcjknab
