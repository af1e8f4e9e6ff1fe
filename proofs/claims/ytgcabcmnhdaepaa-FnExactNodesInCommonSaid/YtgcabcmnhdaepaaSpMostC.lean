/- l07Most and l07Common, and the model's functions over nodes in common. -/
import Derived.Test.YtgcabcmnhdaepaaSpMost
namespace Go.Proofs.Ytgcabcmnhdaepaa
open Go.RowKit

theorem grown_setc {a w : World} {g k : Nat} (h : a.grownBy w (some g)) (u : Value) : a.grownBy (w.setCell ⟨g, k, none⟩ u) (some g) :=
  ⟨h.os, h.tape, h.output, by simpa [World.setCell] using h.size, fun i hi hne => (Below.heap_setCell w ⟨g, k, none⟩ u i (fun e => hne (by rw [e]))).trans (h.block i hi hne)⟩

set_option maxHeartbeats 40000000 in
set_option maxRecDepth 100000 in
theorem l07Most_step (xs ys : List Int) (n m N g1 g2 gK c1 c2 N0 a b c d r : Nat) (P0 P1 : Value) (W : World) (hn : Hid (xs.length = n)) (hm : Hid (ys.length = m)) (hn24 : n ≤ 24) (hm24 : m ≤ 24) (hNe : Hid (N = (n + 1) * (n + 1) * (m + 1) * (m + 1))) (ht : Hid (M.isTree xs = true)) (hu : Hid (M.isTree ys = true)) (ih : Hid (MostS xs ys n m N g1 g2 gK c1 c2 P0 P1 N0)) (hN : (b - a) + (d - c) ≤ N0 + 1)
    (hab : a < b) (hbn : b ≤ n) (hcd : c < d) (hdm : d ≤ m) (hC1 : Hid (M.Closed (M.szAt xs) a b)) (hC2 : Hid (M.Closed (M.szAt ys) c d))
    (h1 : Hid (FrC W g1 (M.flTo xs n))) (h2 : Hid (FrC W g2 (M.flTo ys m))) (hK : Hid (KTab W gK (n + 1) (m + 1) (Lm xs ys))) (hKl : Hid (gK < W.heap.size)) (hg1 : g1 ≠ gK) (hg2 : g2 ≠ gK) (hr : Hid (Lm xs ys a b c d = r)) :
    Calls Try.prog 138 #[.agg #[P0, P1, .slice (some ⟨gK, 0, none⟩) N N], .slice (some ⟨g1, 0, none⟩) n c1, .slice (some ⟨g2, 0, none⟩) m c2, .int .i64 (a : Int), .int .i64 (b : Int), .int .i64 (c : Int), .int .i64 (d : Int)] W fun e W' => e = .returned (.int .i64 (r : Int)) ∧ Hid (KTab W' gK (n + 1) (m + 1) (Lm xs ys)) ∧ Hid (W.grownBy W' (some gK)) := by
  obtain ⟨b1, hb1⟩ : ∃ b1, b - 1 = b1 := ⟨_, rfl⟩
  obtain ⟨d1, hd1⟩ : ∃ d1, d - 1 = d1 := ⟨_, rfl⟩
  have hs1 := hC1.out b1 (by omega) (by omega)
  have hs2 := hC2.out d1 (by omega) (by omega)
  obtain ⟨p, hp⟩ : ∃ p, p + M.szAt xs b1 = b := ⟨b - M.szAt xs b1, by omega⟩
  obtain ⟨q, hq⟩ : ∃ q, q + M.szAt ys d1 = d := ⟨d - M.szAt ys d1, by omega⟩
  obtain ⟨r1, hr1⟩ : ∃ r1, Hid (Lm xs ys p b1 q d1 = r1) := ⟨_, rfl⟩
  obtain ⟨r2, hr2⟩ : ∃ r2, Hid (Lm xs ys a p c q = r2) := ⟨_, rfl⟩
  obtain ⟨r3, hr3⟩ : ∃ r3, Hid (Lm xs ys a b1 c d = r3) := ⟨_, rfl⟩
  obtain ⟨r4, hr4⟩ : ∃ r4, Hid (Lm xs ys a b c d1 = r4) := ⟨_, rfl⟩
  have hmax : Hid (r = max (1 + r1 + r2) (max r3 r4)) := by
    show _ = _
    have h := hr.out
    rw [Lm, M.most_step (p := p) (q := q) hab hcd (by rw [hb1]; omega) (by rw [hd1]; omega), hb1, hd1] at h
    rw [← h, ← hr1.out, ← hr2.out, ← hr3.out, ← hr4.out]
    rfl
  have hrb : r ≤ 24 := by have := (M.most_bd (M.szAt xs) (M.szAt ys) a b c d).1; have h := hr.out; rw [Lm] at h; omega
  obtain ⟨t, htm⟩ : ∃ t, t = max r3 r4 := ⟨_, rfl⟩
  have HT := Lib.hid htm
  have Hmax := Lib.hid hmax.out
  -- the place
  obtain ⟨y1, hy1⟩ : ∃ y1, Hid (a * (n + 1) = y1) := ⟨_, rfl⟩
  obtain ⟨y2, hy2⟩ : ∃ y2, Hid ((y1 + b) * (m + 1) = y2) := ⟨_, rfl⟩
  obtain ⟨y3, hy3⟩ : ∃ y3, Hid ((y2 + c) * (m + 1) = y3) := ⟨_, rfl⟩
  obtain ⟨E, hE⟩ : ∃ E, Hid (y3 + d = E) := ⟨_, rfl⟩
  have hEe : M.enc (n + 1) (m + 1) a b c d = E := by rw [M.enc, hy1.out, hy2.out, hy3.out, hE.out]
  have hEN : E < N := by rw [hNe.out, ← hEe]; exact M.enc_lt (by omega) (by omega) (by omega) (by omega)
  have hN25 : N ≤ 390625 := by rw [hNe.out]; exact (M.cells_le (by omega) (by omega)).2.2
  have hyE : y3 + d ≤ 390625 := by rw [hE.out]; omega
  have hy2' : y2 ≤ y3 := by have := hy3.out; have h : (y2 + c) * 1 ≤ (y2 + c) * (m + 1) := Nat.mul_le_mul_left _ (by omega); omega
  have hy1' : y1 ≤ y2 := by have := hy2.out; have h : (y1 + b) * 1 ≤ (y1 + b) * (m + 1) := Nat.mul_le_mul_left _ (by omega); omega
  have ea1 : IntKind.i64.wrap ((n : Int) + 1) = (n : Int) + 1 := IntWalk.i64_in _ (by omega)
  have ea2 : IntKind.i64.wrap ((m : Int) + 1) = (m : Int) + 1 := IntWalk.i64_in _ (by omega)
  have em1 : IntKind.i64.wrap ((a : Int) * ((n : Int) + 1)) = (y1 : Int) := by rw [show (a : Int) * ((n : Int) + 1) = (y1 : Int) by rw [← hy1.out]; push_cast; rfl]; exact IntWalk.i64_in _ (by omega)
  have es1 : IntKind.i64.wrap ((y1 : Int) + (b : Int)) = (y1 : Int) + (b : Int) := IntWalk.i64_in _ (by omega)
  have em2 : IntKind.i64.wrap (((y1 : Int) + (b : Int)) * ((m : Int) + 1)) = (y2 : Int) := by rw [show ((y1 : Int) + (b : Int)) * ((m : Int) + 1) = (y2 : Int) by rw [← hy2.out]; push_cast; rfl]; exact IntWalk.i64_in _ (by omega)
  have es2 : IntKind.i64.wrap ((y2 : Int) + (c : Int)) = (y2 : Int) + (c : Int) := IntWalk.i64_in _ (by omega)
  have em3 : IntKind.i64.wrap (((y2 : Int) + (c : Int)) * ((m : Int) + 1)) = (y3 : Int) := by rw [show ((y2 : Int) + (c : Int)) * ((m : Int) + 1) = (y3 : Int) by rw [← hy3.out]; push_cast; rfl]; exact IntWalk.i64_in _ (by omega)
  have es3 : IntKind.i64.wrap ((y3 : Int) + (d : Int)) = (E : Int) := by rw [IntWalk.i64_in _ (by omega)]; have := hE.out; omega
  have i1 : (0 : Int) ≤ (E : Int) := by omega
  have i2 : (E : Int) < (N : Int) := by omega
  have hqa : ((a : Int) == (b : Int)) = false := by simp; omega
  have hqc : ((c : Int) == (d : Int)) = false := by simp; omega
  have eb : IntKind.i64.wrap ((b : Int) - 1) = (b1 : Int) := by rw [IntWalk.i64_in _ (by omega)]; omega
  have ed : IntKind.i64.wrap ((d : Int) - 1) = (d1 : Int) := by rw [IntWalk.i64_in _ (by omega)]; omega
  -- memory
  obtain ⟨W1, hW1⟩ : ∃ W1, W1 = W.alloc (.cells #[P0, P1, .slice (some ⟨gK, 0, none⟩) N N] 149) := ⟨_, rfl⟩
  have hB1 : Hid (Below W.heap.size W W1) := by subst hW1; exact bal (b0 W) _
  have x0 : W1.cell? ⟨W.heap.size, 0, none⟩ = some P0 := by subst hW1; simp [go_sem]
  have x1 : W1.cell? ⟨W.heap.size, 1, none⟩ = some P1 := by subst hW1; simp [go_sem]
  have x2 : W1.cell? ⟨W.heap.size, 2, none⟩ = some (.slice (some ⟨gK, 0, none⟩) N N) := by subst hW1; simp [go_sem]
  have hKl' := hKl.out
  have hgW : Hid (W.grownBy W1 (some gK)) := grownS hB1.out
  have hK1 : Hid (KTab W1 gK (n + 1) (m + 1) (Lm xs ys)) := hK.out.be hKl.out hB1.out
  have HS : Hid (∀ w', Hid (W1.grownBy w' (some gK)) → w'.cell? ⟨W.heap.size, 0, none⟩ = some P0 ∧ w'.cell? ⟨W.heap.size, 1, none⟩ = some P1 ∧ w'.cell? ⟨W.heap.size, 2, none⟩ = some (.slice (some ⟨gK, 0, none⟩) N N)) := fun w' hg =>
    ⟨hg.out.cell x0 (fun e => by injection e with e; have e' : W.heap.size = gK := e; omega), hg.out.cell x1 (fun e => by injection e with e; have e' : W.heap.size = gK := e; omega), hg.out.cell x2 (fun e => by injection e with e; have e' : W.heap.size = gK := e; omega)⟩
  have HF1 : Hid (∀ w', Hid (W1.grownBy w' (some gK)) → Hid (FrC w' g1 (M.flTo xs n)) ∧ Hid (FrC w' g2 (M.flTo ys m)) ∧ Hid (gK < w'.heap.size)) := fun w' hg => ⟨(h1.out.be hB1.out).grown hg.out hg1, (h2.out.be hB1.out).grown hg.out hg2, (show gK < _ by have := hg.out.size; have := hB1.out.size; omega)⟩
  have HM3 : Hid (∀ w', Hid (KTab w' gK (n + 1) (m + 1) (Lm xs ys)) → Hid (W1.grownBy w' (some gK)) → Calls Try.prog 138 #[.agg #[P0, P1, .slice (some ⟨gK, 0, none⟩) N N], .slice (some ⟨g1, 0, none⟩) n c1, .slice (some ⟨g2, 0, none⟩) m c2, .int .i64 (a : Int), .int .i64 (b1 : Int), .int .i64 (c : Int), .int .i64 (d : Int)] w' fun e w'' => e = .returned (.int .i64 (r3 : Int)) ∧ Hid (KTab w'' gK (n + 1) (m + 1) (Lm xs ys)) ∧ Hid (W1.grownBy w'' (some gK))) := fun w' hk hg => by
    obtain ⟨e1, e2, e3⟩ := HF1.out w' hg
    exact (ih.out a b1 c d r3 w' (by omega) (by omega) (by omega) (by omega) hdm (M.closed_less hC1.out (by omega)) hC2 e1 e2 hk e3 hr3).mono fun e w'' ⟨he, f1, f2⟩ => ⟨he, f1, hg.out.trans f2.out⟩
  have HM4 : Hid (∀ w', Hid (KTab w' gK (n + 1) (m + 1) (Lm xs ys)) → Hid (W1.grownBy w' (some gK)) → Calls Try.prog 138 #[.agg #[P0, P1, .slice (some ⟨gK, 0, none⟩) N N], .slice (some ⟨g1, 0, none⟩) n c1, .slice (some ⟨g2, 0, none⟩) m c2, .int .i64 (a : Int), .int .i64 (b : Int), .int .i64 (c : Int), .int .i64 (d1 : Int)] w' fun e w'' => e = .returned (.int .i64 (r4 : Int)) ∧ Hid (KTab w'' gK (n + 1) (m + 1) (Lm xs ys)) ∧ Hid (W1.grownBy w'' (some gK))) := fun w' hk hg => by
    obtain ⟨e1, e2, e3⟩ := HF1.out w' hg
    exact (ih.out a b c d1 r4 w' (by omega) (by omega) hbn (by omega) (by omega) hC1 (M.closed_less hC2.out (by omega)) e1 e2 hk e3 hr4).mono fun e w'' ⟨he, f1, f2⟩ => ⟨he, f1, hg.out.trans f2.out⟩
  have HP : Hid (∀ w', Hid (KTab w' gK (n + 1) (m + 1) (Lm xs ys)) → Hid (W1.grownBy w' (some gK)) → Calls Try.prog 160 #[.agg #[P0, P1, .slice (some ⟨gK, 0, none⟩) N N], .slice (some ⟨g1, 0, none⟩) n c1, .slice (some ⟨g2, 0, none⟩) m c2, .int .i64 (a : Int), .int .i64 (b : Int), .int .i64 (c : Int), .int .i64 (d : Int)] w' fun e w'' => e = .returned (.int .i64 (1 + (r1 : Int) + (r2 : Int))) ∧ Hid (KTab w'' gK (n + 1) (m + 1) (Lm xs ys)) ∧ Hid (W1.grownBy w'' (some gK))) := fun w' hk hg => by
    obtain ⟨e1, e2, e3⟩ := HF1.out w' hg
    exact (l07Paired xs ys n m N g1 g2 gK c1 c2 N0 a b c d p q b1 d1 r1 r2 P0 P1 w' hn hm hn24 hm24 ht hu ih hN hab hbn hcd hdm hC1 hC2 hb1 hd1 hp hq e1 e2 hk e3 hg1 hg2 hr1 hr2).mono fun e w'' ⟨he, f1, f2⟩ => ⟨he, f1, hg.out.trans f2.out⟩
  obtain ⟨v, kv, kf, kL, kl, ku⟩ := hK.out a b c d (by omega) (by omega) (by omega) (by omega)
  rw [hEe] at kv kf
  have hrL : Hid (Lm xs ys a b c d = r) := hr
  have HEe := Lib.hid hEe
  have HW1 := Lib.hid hW1
  have HkL := Lib.hid kL
  clear hW1 x0 x1 hs1 hs2 ih hr1 hr2 hr3 hr4 hC1 hC2 hp hq hb1 hd1 h1 h2 hK ht hu hy1 hy2 hy3 hE hEe hEN hN25 hyE hNe hmax htm hn hm kL hy1' hy2'
  by_cases hv : v < 0
  · have hvd : ¬ (0 : Int) ≤ v := by omega
    go_enter Try.func138, Try.ntmps138
    go_wp2
    rw [← HW1.out]
    clear HW1 kv kf hKl'
    have K0 : Hid (KTab W1.drew gK (n + 1) (m + 1) (Lm xs ys)) := hK1
    have G0 : Hid (W1.grownBy W1.drew (some gK)) := grownS (b0 W1).drew
    go_cut [17, 18] (fun s17 s18 wx => s17 = .int .i64 (E : Int) ∧ s18 = .int .i64 (t : Int) ∧ Hid (KTab wx gK (n + 1) (m + 1) (Lm xs ys)) ∧ Hid (W1.grownBy wx (some gK)))
    case first =>
      go_region_held3 (fun w' => w'.cell? ⟨W.heap.size, 0, none⟩ = some P0 ∧ w'.cell? ⟨W.heap.size, 1, none⟩ = some P1 ∧ w'.cell? ⟨W.heap.size, 2, none⟩ = some (.slice (some ⟨gK, 0, none⟩) N N) ∧ Hid (KTab w' gK (n + 1) (m + 1) (Lm xs ys)) ∧ Hid (W1.grownBy w' (some gK))) (first | exact ⟨(HS.out _ G0).1, (HS.out _ G0).2.1, (HS.out _ G0).2.2, K0, G0⟩ | exact ⟨(HS.out _ (by assumption)).1, (HS.out _ (by assumption)).2.1, (HS.out _ (by assumption)).2.2, by assumption, by assumption⟩) (first | (go_at_call_of 138 b1; refine (HM3.out _ (by assumption) (by assumption)).mono ?_; rintro e wa ⟨rfl, hKa, hga⟩) | (go_at_call_of 138 d1; refine (HM4.out _ (by assumption) (by assumption)).mono ?_; rintro e wb ⟨rfl, hKb, hgb⟩))
      all_goals (go_wp2_with fail)
      all_goals (go_meet)
      all_goals
        have hT := HT.out
        refine ⟨rfl, ?_, by assumption, by assumption⟩
        first | rw [show t = r4 by omega] | rw [show t = r3 by omega]
    case rest =>
      obtain ⟨rfl, rfl, hK2, hG2⟩ := hcut
      obtain ⟨y0', y1', y2'⟩ := HS.out _ hG2
      go_wp2_with fail
      refine (HP.out _ hK2 hG2).mono ?_
      rintro e w5 ⟨rfl, hK5, hG5⟩
      obtain ⟨v5, kv5, kf5, _⟩ := hK5.out a b c d (by omega) (by omega) (by omega) (by omega)
      rw [HEe.out] at kv5 kf5
      obtain ⟨z0, z1, z2⟩ := HS.out _ hG5
      have e8a : IntKind.i8.wrap (t : Int) = (t : Int) := IntWalk.i8_in _ (by have := HT.out; have := Hmax.out; omega)
      have e8b : IntKind.i8.wrap (1 + (r1 : Int) + (r2 : Int)) = 1 + (r1 : Int) + (r2 : Int) := IntWalk.i8_in _ (by have := Hmax.out; omega)
      have hset := Lib.hid (KTab.set hK5.out (a := a) (b := b) (c := c) (d := d) (by omega) (by omega) (by omega) (by omega) (by rw [hrL.out]; omega))
      rw [hrL.out, HEe.out] at hset
      clear y0' y1' y2' hK2 hG2
      go_wp2
      all_goals
        have hT := HT.out
        have hX := Hmax.out
        go_ret
        refine ⟨?_, ?_, ?_⟩
        · first | rw [show r = t by omega]; rfl | (rw [show (r : Int) = 1 + (r1 : Int) + (r2 : Int) by omega]; rfl)
        · have h := hset.out
          first | (rw [show r = t by omega] at h; exact h) | (rw [show (r : Int) = 1 + (r1 : Int) + (r2 : Int) by omega] at h; exact h)
        · exact hgW.out.trans (grown_setc hG5.out _)
  · have hv0 : (0 : Int) ≤ v := by omega
    have hvr : v = (r : Int) := by rw [HkL.out hv0, hrL.out]
    subst hvr
    have ec : IntKind.i64.wrap (r : Int) = (r : Int) := IntWalk.i64_in _ (by omega)
    go_enter Try.func138, Try.ntmps138
    go_wp2
    go_ret
    rw [← HW1.out]
    exact ⟨rfl, hK1, hgW⟩

set_option maxRecDepth 100000 in
theorem l07Most_base (n m N gK c1 c2 a b c d : Nat) (A1 A2 : Option Addr) (P0 P1 : Value) (L : Nat → Nat → Nat → Nat → Nat) (W : World) (h : a = b ∨ c = d) (hK : Hid (KTab W gK (n + 1) (m + 1) L)) (hKl : Hid (gK < W.heap.size)) :
    Calls Try.prog 138 #[.agg #[P0, P1, .slice (some ⟨gK, 0, none⟩) N N], .slice A1 n c1, .slice A2 m c2, .int .i64 (a : Int), .int .i64 (b : Int), .int .i64 (c : Int), .int .i64 (d : Int)] W fun e W' => e = .returned (.int .i64 0) ∧ Hid (KTab W' gK (n + 1) (m + 1) L) ∧ Hid (W.grownBy W' (some gK)) := by
  obtain ⟨W1, hW1⟩ : ∃ W1, W1 = W.alloc (.cells #[P0, P1, .slice (some ⟨gK, 0, none⟩) N N] 149) := ⟨_, rfl⟩
  have hB1 : Hid (Below W.heap.size W W1) := by subst hW1; exact bal (b0 W) _
  have hK1 : Hid (KTab W1 gK (n + 1) (m + 1) L) := hK.out.be hKl.out hB1.out
  have hg1 : Hid (W.grownBy W1 (some gK)) := grownS hB1.out
  have HW := Lib.hid hW1
  clear hW1
  by_cases h0 : a = b
  · subst h0
    clear h
    go_enter Try.func138, Try.ntmps138
    go_wp2
    go_ret
    rw [← HW.out]
    exact ⟨rfl, hK1, hg1⟩
  · obtain rfl : c = d := by omega
    have hq : ((a : Int) == (b : Int)) = false := by simp; omega
    clear h h0
    go_enter Try.func138, Try.ntmps138
    go_wp2
    go_ret
    rw [← HW.out]
    exact ⟨rfl, hK1, hg1⟩

theorem mostS (xs ys : List Int) (n m N g1 g2 gK c1 c2 : Nat) (P0 P1 : Value) (hn : Hid (xs.length = n)) (hm : Hid (ys.length = m)) (hn24 : n ≤ 24) (hm24 : m ≤ 24) (hNe : Hid (N = (n + 1) * (n + 1) * (m + 1) * (m + 1))) (ht : Hid (M.isTree xs = true)) (hu : Hid (M.isTree ys = true)) (hg1 : g1 ≠ gK) (hg2 : g2 ≠ gK) : ∀ N0, MostS xs ys n m N g1 g2 gK c1 c2 P0 P1 N0 := by
  intro N0
  induction N0 with
  | zero =>
    intro a b c d r W hN hab hbn hcd hdm hC1 hC2 h1 h2 hK hKl hr
    have e : r = 0 := by rw [← hr.out, Lm, M.most_zero (by omega)]
    subst e
    exact l07Most_base n m N gK c1 c2 a b c d _ _ P0 P1 _ W (by omega) hK hKl
  | succ N0 ih =>
    intro a b c d r W hN hab hbn hcd hdm hC1 hC2 h1 h2 hK hKl hr
    by_cases h0 : a = b ∨ c = d
    · have e : r = 0 := by rw [← hr.out, Lm, M.most_zero (by omega)]
      subst e
      exact l07Most_base n m N gK c1 c2 a b c d _ _ P0 P1 _ W h0 hK hKl
    · exact l07Most_step xs ys n m N g1 g2 gK c1 c2 N0 a b c d r P0 P1 W hn hm hn24 hm24 hNe ht hu ih hN (by omega) hbn (by omega) hdm hC1 hC2 h1 h2 hK hKl hg1 hg2 hr

end Go.Proofs.Ytgcabcmnhdaepaa
