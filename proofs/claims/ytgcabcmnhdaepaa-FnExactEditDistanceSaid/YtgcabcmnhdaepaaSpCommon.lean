/- l07Common: the nodes in common of two trees, as the model finds them. -/
import Derived.Test.YtgcabcmnhdaepaaSpMostC
namespace Go.Proofs.Ytgcabcmnhdaepaa
open Go.RowKit

theorem frc_of {w : World} {B n c : Nat} {A : Option Addr} {zs : List Int} (h : Own64 w B (.slice A n c) zs) (hn : 0 < zs.length) : ∃ g, A = some ⟨g, 0, none⟩ ∧ B ≤ g ∧ FrC w g zs := by
  have hl := own64_len h
  subst hl
  obtain ⟨g, rfl⟩ := own64_bk h hn
  exact ⟨g, rfl, (h.lt g rfl).1, (h.lt g rfl).2, fun j x hj => (own64_cell h rfl hj).1⟩

set_option maxHeartbeats 40000000 in
set_option maxRecDepth 100000 in
theorem l07Common (A A2 : Option Addr) (xs ys : List Int) (n m c c2 r : Nat) (w : World) (hn : Hid (xs.length = n)) (hm : Hid (ys.length = m)) (ht : Hid (M.isTree xs = true)) (hu : Hid (M.isTree ys = true)) (h : Hid (Ints w w.heap.size A xs)) (h2 : Hid (Ints w w.heap.size A2 ys)) (hr : Hid (Lm xs ys 0 n 0 m = r)) :
    Calls Try.prog 103 #[.agg #[.slice A n c], .agg #[.slice A2 m c2]] w fun e w' => e = .returned (.int .i64 (r : Int)) ∧ Hid (Below w.heap.size w w') := by
  have hx1 := (M.tree_len ht.out).1
  have hy1 := (M.tree_len hu.out).1
  have hx := (M.tree_len ht.out).2
  have hy := (M.tree_len hu.out).2
  rw [hn.out] at hx1 hx
  rw [hm.out] at hy1 hy
  obtain ⟨W, hW⟩ : ∃ W, W = (w.alloc (.cells #[.slice A n c] 44)).alloc (.cells #[.slice A2 m c2] 44) := ⟨_, rfl⟩
  have C1 : W.cell? ⟨w.heap.size, 0, none⟩ = some (.slice A n c) := by subst hW; simp [go_sem]
  have C2 : W.cell? ⟨w.heap.size + 1, 0, none⟩ = some (.slice A2 m c2) := by subst hW; simp [go_sem]
  have hBW : Hid (Below w.heap.size w W) := by subst hW; exact bal (bal (b0 w) _) _
  have I1 : Hid (Ints W W.heap.size A xs) := h.out.be hBW.out
  have I2 : Hid (Ints W W.heap.size A2 ys) := h2.out.be hBW.out
  have HS : Hid (∀ w', Hid (Below W.heap.size W w') → w'.cell? ⟨w.heap.size, 0, none⟩ = some (.slice A n c) ∧ w'.cell? ⟨w.heap.size + 1, 0, none⟩ = some (.slice A2 m c2)) := fun w' hb => ⟨cellB hb.out C1, cellB hb.out C2⟩
  have HNew : Hid (∀ w', Hid (Below W.heap.size W w') → Calls Try.prog 139 #[.agg #[.slice A n c], .agg #[.slice A2 m c2]] w' fun e w'' => ∃ gK N, e = .returned (.agg #[.slice A n c, .slice A2 m c2, .slice (some ⟨gK, 0, none⟩) N N]) ∧ Hid (N = (n + 1) * (n + 1) * (m + 1) * (m + 1)) ∧ Hid (KTab w'' gK (n + 1) (m + 1) (Lm xs ys) ∧ gK < w''.heap.size) ∧ Hid (W.heap.size ≤ gK) ∧ Hid (Below W.heap.size W w'')) := fun w' hb =>
    (l07New A A2 n m c c2 (Lm xs ys) w' hx hy).mono fun e w'' ⟨gK, N, he, e1, e2, e4, e3, hb2⟩ => ⟨gK, N, he, e1, ⟨e2.out, e3.out⟩, (show W.heap.size ≤ gK by have := hb.out.size; have := e4.out; omega), btr hb.out hb2.out⟩
  have HF1 : Hid (∀ w' gK, Hid (Below W.heap.size W w') → Hid (KTab w' gK (n + 1) (m + 1) (Lm xs ys) ∧ gK < w'.heap.size) → Calls Try.prog 140 #[.agg #[.slice A n c]] w' fun e w'' => ∃ g1 d1, e = .returned (.slice (some ⟨g1, 0, none⟩) n d1) ∧ Hid (g1 ≠ gK) ∧ Hid (FrC w'' g1 (M.flTo xs n)) ∧ Hid (KTab w'' gK (n + 1) (m + 1) (Lm xs ys) ∧ gK < w''.heap.size) ∧ Hid (Below W.heap.size W w'')) := fun w' gK hb hk => by
    have hl := l07Firsts A xs c w' (by rw [hn.out]; exact hx) ht (Lib.hid (I1.out.be hb.out))
    rw [hn.out] at hl
    exact hl.mono fun e w'' ⟨A', c', he, ho, hb2⟩ => by
      obtain ⟨g1, rfl, hg, hf⟩ := frc_of ho.out (by rw [M.flTo_len]; omega)
      have hz := hb2.out.size
      exact ⟨g1, c', he, (show g1 ≠ gK by have := hk.out.2; omega), hf, ⟨hk.out.1.be hk.out.2 hb2.out, by have := hk.out.2; omega⟩, btr hb.out hb2.out⟩
  have HF2 : Hid (∀ w' gK g1, Hid (Below W.heap.size W w') → Hid (FrC w' g1 (M.flTo xs n)) → Hid (KTab w' gK (n + 1) (m + 1) (Lm xs ys) ∧ gK < w'.heap.size) → Calls Try.prog 140 #[.agg #[.slice A2 m c2]] w' fun e w'' => ∃ g2 d2, e = .returned (.slice (some ⟨g2, 0, none⟩) m d2) ∧ Hid (g2 ≠ gK) ∧ Hid (FrC w'' g1 (M.flTo xs n)) ∧ Hid (FrC w'' g2 (M.flTo ys m)) ∧ Hid (KTab w'' gK (n + 1) (m + 1) (Lm xs ys) ∧ gK < w''.heap.size) ∧ Hid (Below W.heap.size W w'')) := fun w' gK g1 hb hf1 hk => by
    have hl := l07Firsts A2 ys c2 w' (by rw [hm.out]; exact hy) hu (Lib.hid (I2.out.be hb.out))
    rw [hm.out] at hl
    exact hl.mono fun e w'' ⟨A', c', he, ho, hb2⟩ => by
      obtain ⟨g2, rfl, hg, hf⟩ := frc_of ho.out (by rw [M.flTo_len]; omega)
      have hz := hb2.out.size
      exact ⟨g2, c', he, (show g2 ≠ gK by have := hk.out.2; omega), hf1.out.be hb2.out, hf, ⟨hk.out.1.be hk.out.2 hb2.out, by have := hk.out.2; omega⟩, btr hb.out hb2.out⟩
  have HN : Hid (∀ w' gK g1 g2 (A' : Option Addr) (k k' : Nat), Hid (Below W.heap.size W w') → Hid (FrC w' g1 (M.flTo xs n)) → Hid (FrC w' g2 (M.flTo ys m)) → Hid (KTab w' gK (n + 1) (m + 1) (Lm xs ys) ∧ gK < w'.heap.size) → Calls Try.prog 93 #[.agg #[.slice A' k k']] w' fun e w'' => e = .returned (.int .i64 k) ∧ Hid (FrC w'' g1 (M.flTo xs n)) ∧ Hid (FrC w'' g2 (M.flTo ys m)) ∧ Hid (KTab w'' gK (n + 1) (m + 1) (Lm xs ys) ∧ gK < w''.heap.size) ∧ Hid (Below W.heap.size W w'')) := fun w' gK g1 g2 A' k k' hb hf1 hf2 hk =>
    (l01N A' k k' w').mono fun e w'' ⟨he, hb2⟩ => ⟨he, hf1.out.be hb2, hf2.out.be hb2, ⟨hk.out.1.be hk.out.2 hb2, by have := hb2.size; have := hk.out.2; omega⟩, btr hb.out hb2⟩
  have hc1 : Hid (M.Closed (M.szAt xs) 0 n) := by rw [← hn.out]; exact M.closed_all ht.out
  have hc2 : Hid (M.Closed (M.szAt ys) 0 m) := by rw [← hm.out]; exact M.closed_all hu.out
  have HM : Hid (∀ (w' : World) (gK g1 g2 N d1 d2 : Nat), Hid (N = (n + 1) * (n + 1) * (m + 1) * (m + 1)) → Hid (g1 ≠ gK) → Hid (g2 ≠ gK) → Hid (Below W.heap.size W w') → Hid (FrC w' g1 (M.flTo xs n)) → Hid (FrC w' g2 (M.flTo ys m)) → Hid (KTab w' gK (n + 1) (m + 1) (Lm xs ys) ∧ gK < w'.heap.size) → Hid (W.heap.size ≤ gK) → Calls Try.prog 138 #[.agg #[.slice A n c, .slice A2 m c2, .slice (some ⟨gK, 0, none⟩) N N], .slice (some ⟨g1, 0, none⟩) n d1, .slice (some ⟨g2, 0, none⟩) m d2, .int .i64 0, .int .i64 (n : Int), .int .i64 0, .int .i64 (m : Int)] w' fun e w'' => e = .returned (.int .i64 (r : Int)) ∧ Hid (Below W.heap.size W w'')) := fun w' gK g1 g2 N d1 d2 hNe hg1 hg2 hb hf1 hf2 hk hge => by
    have := mostS xs ys n m N g1 g2 gK d1 d2 (.slice A n c) (.slice A2 m c2) hn hm hx hy hNe ht hu hg1.out hg2.out (n + m) 0 n 0 m r w' (by omega) (by omega) (by omega) (by omega) (by omega) hc1 hc2 hf1 hf2 hk.out.1 hk.out.2 hr
    rw [show ((0 : Nat) : Int) = 0 from rfl] at this
    exact this.mono fun e w'' ⟨he, _, hg⟩ => ⟨he, hb.out.grown hg.out hb.out.size (fun k e => by injection e with e; have := hge.out; omega)⟩
  have K0 : Hid (Below W.heap.size W W.drew) := (b0 W).drew
  have HW := Lib.hid hW
  clear hW h h2 C1 C2 hr hc1 hc2 I1 I2
  go_enter Try.func103, Try.ntmps103
  go_wp2
  rw [← HW.out]
  clear HW
  go_region_held3 (fun w' => w'.cell? ⟨w.heap.size, 0, none⟩ = some (.slice A n c) ∧ w'.cell? ⟨w.heap.size + 1, 0, none⟩ = some (.slice A2 m c2) ∧ Hid (Below W.heap.size W w')) (first | exact ⟨(HS.out _ K0).1, (HS.out _ K0).2, K0⟩ | exact ⟨(HS.out _ (by assumption)).1, (HS.out _ (by assumption)).2, by assumption⟩) (first | (go_at_call 139; refine (HNew.out _ K0).mono ?_; rintro e wa ⟨gK, N, rfl, hNe, hka, hza, hba⟩) | (go_at_call_of 140 c; refine (HF1.out _ gK hba hka).mono ?_; rintro e wb ⟨g1, d1, rfl, hg1, hfb, hkb, hbb⟩) | (go_at_call_of 140 c2; refine (HF2.out _ gK g1 hbb hfb hkb).mono ?_; rintro e wc ⟨g2, d2, rfl, hg2, hfc, hhc, hkc, hbc⟩) | (go_at_call_of 93 c; refine (HN.out _ gK g1 g2 _ _ _ hbc hfc hhc hkc).mono ?_; rintro e wd ⟨rfl, hfd, hhd, hkd, hbd⟩) | (go_at_call_of 93 c2; refine (HN.out _ gK g1 g2 _ _ _ hbd hfd hhd hkd).mono ?_; rintro e we ⟨rfl, hfe, hhe, hke, hbe⟩) | (go_at_call 138; refine (HM.out _ gK g1 g2 N d1 d2 hNe hg1 hg2 hbe hfe hhe hke hza).mono ?_; rintro e wf ⟨rfl, hbf⟩))
  all_goals
    go_wp2
    go_ret
    exact ⟨rfl, btr hBW.out (by assumption : Hid (Below W.heap.size W wf)).out⟩
end Go.Proofs.Ytgcabcmnhdaepaa
