/- The model's search for the most pairs: l07Paired and l07Most. -/
import Derived.Test.YtgcabcmnhdaepaaSpTab
namespace Go.Proofs.Ytgcabcmnhdaepaa
open Go.RowKit

/-- block g holds the numbers zs -/
def FrC (w : World) (g : Nat) (zs : List Int) : Prop := g < w.heap.size ∧ ∀ j x, zs[j]? = some x → w.cell? ⟨g, j, none⟩ = some (.int .i64 x)
theorem FrC.grown {w w' : World} {g k : Nat} {zs : List Int} (h : FrC w g zs) (hg : w.grownBy w' (some k)) (hne : g ≠ k) : FrC w' g zs := ⟨Nat.lt_of_lt_of_le h.1 hg.size, fun j x hj => hg.cell (h.2 j x hj) (fun e => hne (by injection e))⟩
theorem FrC.be {w w' : World} {g : Nat} {zs : List Int} (h : FrC w g zs) (hb : Below w.heap.size w w') : FrC w' g zs := ⟨Nat.lt_of_lt_of_le h.1 hb.size, fun j x hj => cellB hb (h.2 j x hj)⟩
theorem grownS {w w' : World} {r : Option Nat} (h : Below w.heap.size w w') : w.grownBy w' r := ⟨h.os, h.tape, h.output, h.size, fun j hj _ => h.block j hj⟩
def Lm (xs ys : List Int) (a b c d : Nat) : Nat := M.most (M.szAt xs) (M.szAt ys) a b c d

/-- what l07Most must do at parts of at most N0 nodes together -/
def MostS (xs ys : List Int) (n m N g1 g2 gK c1 c2 : Nat) (P0 P1 : Value) (N0 : Nat) : Prop := ∀ (a b c d r : Nat) (W : World), (b - a) + (d - c) ≤ N0 → a ≤ b → b ≤ n → c ≤ d → d ≤ m → Hid (M.Closed (M.szAt xs) a b) → Hid (M.Closed (M.szAt ys) c d) →
  Hid (FrC W g1 (M.flTo xs n)) → Hid (FrC W g2 (M.flTo ys m)) → Hid (KTab W gK (n + 1) (m + 1) (Lm xs ys)) → Hid (gK < W.heap.size) → Hid (Lm xs ys a b c d = r) →
  Calls Try.prog 138 #[.agg #[P0, P1, .slice (some ⟨gK, 0, none⟩) N N], .slice (some ⟨g1, 0, none⟩) n c1, .slice (some ⟨g2, 0, none⟩) m c2, .int .i64 (a : Int), .int .i64 (b : Int), .int .i64 (c : Int), .int .i64 (d : Int)] W fun e W' => e = .returned (.int .i64 (r : Int)) ∧ Hid (KTab W' gK (n + 1) (m + 1) (Lm xs ys)) ∧ Hid (W.grownBy W' (some gK))

set_option maxHeartbeats 40000000 in
set_option maxRecDepth 100000 in
theorem l07Paired (xs ys : List Int) (n m N g1 g2 gK c1 c2 N0 a b c d p q b1 d1 r1 r2 : Nat) (P0 P1 : Value) (W : World) (hn : Hid (xs.length = n)) (hm : Hid (ys.length = m)) (hn24 : n ≤ 24) (hm24 : m ≤ 24) (ht : Hid (M.isTree xs = true)) (hu : Hid (M.isTree ys = true)) (ih : Hid (MostS xs ys n m N g1 g2 gK c1 c2 P0 P1 N0)) (hN : (b - a) + (d - c) ≤ N0 + 1)
    (hab : a < b) (hbn : b ≤ n) (hcd : c < d) (hdm : d ≤ m) (hC1 : Hid (M.Closed (M.szAt xs) a b)) (hC2 : Hid (M.Closed (M.szAt ys) c d)) (hb1 : b - 1 = b1) (hd1 : d - 1 = d1) (hp : p + M.szAt xs b1 = b) (hq : q + M.szAt ys d1 = d)
    (h1 : Hid (FrC W g1 (M.flTo xs n))) (h2 : Hid (FrC W g2 (M.flTo ys m))) (hK : Hid (KTab W gK (n + 1) (m + 1) (Lm xs ys))) (hKl : Hid (gK < W.heap.size)) (hg1 : g1 ≠ gK) (hg2 : g2 ≠ gK)
    (hr1 : Hid (Lm xs ys p b1 q d1 = r1)) (hr2 : Hid (Lm xs ys a p c q = r2)) :
    Calls Try.prog 160 #[.agg #[P0, P1, .slice (some ⟨gK, 0, none⟩) N N], .slice (some ⟨g1, 0, none⟩) n c1, .slice (some ⟨g2, 0, none⟩) m c2, .int .i64 (a : Int), .int .i64 (b : Int), .int .i64 (c : Int), .int .i64 (d : Int)] W fun e W' => e = .returned (.int .i64 (1 + (r1 : Int) + (r2 : Int))) ∧ Hid (KTab W' gK (n + 1) (m + 1) (Lm xs ys)) ∧ Hid (W.grownBy W' (some gK)) := by
  have hs1 := hC1.out b1 (by omega) (by omega)
  have hs2 := hC2.out d1 (by omega) (by omega)
  have hx1 := M.flTo_at xs (n := n) (k := b1) (by omega)
  have hx2 := M.flTo_at ys (n := m) (k := d1) (by omega)
  have k1 : W.cell? ⟨g1, b1, none⟩ = some (.int .i64 (p : Int)) := by rw [h1.out.2 b1 _ hx1]; congr 2; omega
  have k2 : W.cell? ⟨g2, d1, none⟩ = some (.int .i64 (q : Int)) := by rw [h2.out.2 d1 _ hx2]; congr 2; omega
  have hcb1 : Hid (M.Closed (M.szAt xs) p b1) := by
    have := M.closed_below ht.out hC1.out hab (by rw [hn.out]; exact hbn)
    rw [hb1, show b - M.szAt xs b1 = p by omega] at this
    exact this
  have hcb2 : Hid (M.Closed (M.szAt ys) q d1) := by
    have := M.closed_below hu.out hC2.out hcd (by rw [hm.out]; exact hdm)
    rw [hd1, show d - M.szAt ys d1 = q by omega] at this
    exact this
  have hca1 : Hid (M.Closed (M.szAt xs) a p) := M.closed_less hC1.out (by omega)
  have hca2 : Hid (M.Closed (M.szAt ys) c q) := M.closed_less hC2.out (by omega)
  have hl1 : r1 ≤ b1 - p := by have := (M.most_bd (M.szAt xs) (M.szAt ys) p b1 q d1).1; have h := hr1.out; rw [Lm] at h; omega
  have hl2 : r2 ≤ p - a := by have := (M.most_bd (M.szAt xs) (M.szAt ys) a p c q).1; have h := hr2.out; rw [Lm] at h; omega
  obtain ⟨W1, hW1⟩ : ∃ W1, W1 = W.alloc (.cells #[P0, P1, .slice (some ⟨gK, 0, none⟩) N N] 149) := ⟨_, rfl⟩
  have hB1 : Hid (Below W.heap.size W W1) := by subst hW1; exact bal (b0 W) _
  have x0 : W1.cell? ⟨W.heap.size, 0, none⟩ = some P0 := by subst hW1; simp [go_sem]
  have x1 : W1.cell? ⟨W.heap.size, 1, none⟩ = some P1 := by subst hW1; simp [go_sem]
  have x2 : W1.cell? ⟨W.heap.size, 2, none⟩ = some (.slice (some ⟨gK, 0, none⟩) N N) := by subst hW1; simp [go_sem]
  have hKl' := hKl.out
  have hgW : Hid (W.grownBy W1 (some gK)) := grownS hB1.out
  have hK1 : Hid (KTab W1 gK (n + 1) (m + 1) (Lm xs ys)) := hK.out.be hKl.out hB1.out
  have HS : Hid (∀ w', Hid (W1.grownBy w' (some gK)) → w'.cell? ⟨W.heap.size, 0, none⟩ = some P0 ∧ w'.cell? ⟨W.heap.size, 1, none⟩ = some P1 ∧ w'.cell? ⟨W.heap.size, 2, none⟩ = some (.slice (some ⟨gK, 0, none⟩) N N)) := fun w' hg =>
    ⟨hg.out.cell x0 (fun e => by injection e with e; have e' : W.heap.size = gK := e; omega), hg.out.cell x1 (fun e => by injection e with e; have e' : W.heap.size = gK := e; omega), hg.out.cell x2 (fun e => by injection e with e; have e' : W.heap.size = gK := e; omega)⟩
  have HF1 : Hid (∀ w', Hid (W1.grownBy w' (some gK)) → Hid (FrC w' g1 (M.flTo xs n)) ∧ Hid (FrC w' g2 (M.flTo ys m)) ∧ Hid (gK < w'.heap.size)) := fun w' hg => ⟨(h1.out.be hB1.out).grown hg.out hg1, (h2.out.be hB1.out).grown hg.out hg2, (show gK < _ by have := hg.out.size; have := hB1.out.size; omega)⟩
  have HM1 : Hid (∀ w', Hid (KTab w' gK (n + 1) (m + 1) (Lm xs ys)) → Hid (W1.grownBy w' (some gK)) → Calls Try.prog 138 #[.agg #[P0, P1, .slice (some ⟨gK, 0, none⟩) N N], .slice (some ⟨g1, 0, none⟩) n c1, .slice (some ⟨g2, 0, none⟩) m c2, .int .i64 (p : Int), .int .i64 (b1 : Int), .int .i64 (q : Int), .int .i64 (d1 : Int)] w' fun e w'' => e = .returned (.int .i64 (r1 : Int)) ∧ Hid (KTab w'' gK (n + 1) (m + 1) (Lm xs ys)) ∧ Hid (W1.grownBy w'' (some gK))) := fun w' hk hg => by
    obtain ⟨e1, e2, e3⟩ := HF1.out w' hg
    exact (ih.out p b1 q d1 r1 w' (by omega) (by omega) (by omega) (by omega) (by omega) hcb1 hcb2 e1 e2 hk e3 hr1).mono fun e w'' ⟨he, f1, f2⟩ => ⟨he, f1, hg.out.trans f2.out⟩
  have HM2 : Hid (∀ w', Hid (KTab w' gK (n + 1) (m + 1) (Lm xs ys)) → Hid (W1.grownBy w' (some gK)) → Calls Try.prog 138 #[.agg #[P0, P1, .slice (some ⟨gK, 0, none⟩) N N], .slice (some ⟨g1, 0, none⟩) n c1, .slice (some ⟨g2, 0, none⟩) m c2, .int .i64 (a : Int), .int .i64 (p : Int), .int .i64 (c : Int), .int .i64 (q : Int)] w' fun e w'' => e = .returned (.int .i64 (r2 : Int)) ∧ Hid (KTab w'' gK (n + 1) (m + 1) (Lm xs ys)) ∧ Hid (W1.grownBy w'' (some gK))) := fun w' hk hg => by
    obtain ⟨e1, e2, e3⟩ := HF1.out w' hg
    exact (ih.out a p c q r2 w' (by omega) (by omega) (by omega) (by omega) (by omega) hca1 hca2 e1 e2 hk e3 hr2).mono fun e w'' ⟨he, f1, f2⟩ => ⟨he, f1, hg.out.trans f2.out⟩
  have j1 : W1.drew.cell? ⟨g1, b1, none⟩ = some (.int .i64 (p : Int)) := cellB hB1.out k1
  have j2 : W1.drew.cell? ⟨g2, d1, none⟩ = some (.int .i64 (q : Int)) := cellB hB1.out k2
  have eb : IntKind.i64.wrap ((b : Int) - 1) = (b1 : Int) := by rw [IntWalk.i64_in _ (by omega)]; omega
  have ed : IntKind.i64.wrap ((d : Int) - 1) = (d1 : Int) := by rw [IntWalk.i64_in _ (by omega)]; omega
  have i1 : (0 : Int) ≤ (b1 : Int) := by omega
  have i2 : (b1 : Int) < (n : Int) := by omega
  have i3 : (0 : Int) ≤ (d1 : Int) := by omega
  have i4 : (d1 : Int) < (m : Int) := by omega
  have l1 : ¬ (p : Int) < (a : Int) := by omega
  have l2 : ¬ (q : Int) < (c : Int) := by omega
  have l3 : ¬ p < a := by omega
  have l4 : ¬ q < c := by omega
  have ew1 : IntKind.i64.wrap (1 + (r1 : Int)) = 1 + (r1 : Int) := IntWalk.i64_in _ (by omega)
  have ew2 : IntKind.i64.wrap (1 + (r1 : Int) + (r2 : Int)) = 1 + (r1 : Int) + (r2 : Int) := IntWalk.i64_in _ (by omega)
  have HW1 := Lib.hid hW1
  clear hW1 x0 x1 x2 k1 k2 hx1 hx2 hs1 hs2 ih hr1 hr2 hcb1 hcb2 hca1 hca2 hC1 hC2 hp hq hb1 hd1 h1 h2 hK hl1 hl2 ht hu hn hm
  go_enter Try.func160, Try.ntmps160
  go_wp2
  rw [← HW1.out]
  clear HW1
  go_cut [15, 16] (fun s15 s16 wx => s15 = .int .i64 (p : Int) ∧ s16 = .int .i64 (q : Int) ∧ W1.drew = wx)
  case first =>
    go_region_held3 (fun w' => w'.cell? ⟨g1, b1, none⟩ = some (.int .i64 (p : Int)) ∧ w'.cell? ⟨g2, d1, none⟩ = some (.int .i64 (q : Int)) ∧ W1.drew = w') (first | exact ⟨j1, j2, rfl⟩) (first | fail)
    all_goals (go_wp2_with fail)
    all_goals (go_meet)
    all_goals exact ⟨rfl, rfl, rfl⟩
  case rest =>
    obtain ⟨rfl, rfl, hwc⟩ := hcut
    subst hwc
    have K0 : Hid (KTab W1.drew.drew gK (n + 1) (m + 1) (Lm xs ys)) := hK1
    have G0 : Hid (W1.grownBy W1.drew.drew (some gK)) := grownS ((b0 W1).drew.drew)
    clear j1 j2
    go_wp2
    go_region_held3 (fun w' => w'.cell? ⟨W.heap.size, 0, none⟩ = some P0 ∧ w'.cell? ⟨W.heap.size, 1, none⟩ = some P1 ∧ w'.cell? ⟨W.heap.size, 2, none⟩ = some (.slice (some ⟨gK, 0, none⟩) N N) ∧ Hid (KTab w' gK (n + 1) (m + 1) (Lm xs ys)) ∧ Hid (W1.grownBy w' (some gK))) (first | exact ⟨(HS.out _ G0).1, (HS.out _ G0).2.1, (HS.out _ G0).2.2, K0, G0⟩ | exact ⟨(HS.out _ (by assumption)).1, (HS.out _ (by assumption)).2.1, (HS.out _ (by assumption)).2.2, by assumption, by assumption⟩) (first | (go_at_call_of 138 b1; refine (HM1.out _ (by assumption) (by assumption)).mono ?_; rintro e wa ⟨rfl, hKa, hga⟩) | (go_at_call_of 138 a; refine (HM2.out _ (by assumption) (by assumption)).mono ?_; rintro e wb ⟨rfl, hKb, hgb⟩))
    all_goals
      go_wp2
      go_ret
      refine ⟨rfl, ?_, hgW.out.trans ?_⟩
      · assumption
      · exact Hid.out (by assumption)
end Go.Proofs.Ytgcabcmnhdaepaa
