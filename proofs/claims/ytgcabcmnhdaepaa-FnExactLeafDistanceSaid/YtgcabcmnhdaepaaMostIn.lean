/- mostWithRoots and the closure of most: the greatest number of pairs, out of those of smaller forests. -/
import Derived.Test.YtgcabcmnhdaepaaKeptMost
import Derived.Test.YtgcabcmnhdaepaaForIn
namespace Go.Proofs.Ytgcabcmnhdaepaa
open Go.RowKit Go.Maps Go.WideMaps

/-- the value is the forest of n nodes from the place a on, in block b -/
def IsFor (V : Value) (b a n : Nat) : Prop := ∃ c, V = .slice (some ⟨b, a * 2, none⟩) n c ∧ n ≤ c ∧ c ≤ 9223372036854775807
/-- what the map keeps, by numbers of nodes -/
def Lk (xs ys : List Int) (i j k l : Nat) : Nat := M.most (M.szAt xs) (M.szAt ys) (M.ix xs i) (M.ix xs j + 1) (M.ix ys k) (M.ix ys l + 1)
theorem grown_of_below {w w' : World} {r : Option Nat} (h : Below w.heap.size w w') : w.grownBy w' r := ⟨h.os, h.tape, h.output, h.size, fun j hj _ => h.block j hj⟩
theorem memo_below {L : Nat → Nat → Nat → Nat → Nat} {w w' : World} {b : Nat} (h : Memo L w b) (hb : Below w.heap.size w w') : Memo L w' b := h.kept (grown_of_below (r := none) hb) (by simp)
theorem memo_drew {L : Nat → Nat → Nat → Nat → Nat} {w : World} {b : Nat} (h : Memo L w b) : Memo L w.drew b := memo_below h (b0 w).drew
theorem grown_drew {w w' : World} {r : Option Nat} (h : w.grownBy w' r) : w.grownBy w'.drew r := h.trans (grown_of_below (b0 w').drew)

abbrev cmpV (b : Nat) : Value := .agg #[.func (.func 106) #[] #[], .map (some b)]

/-- what most must do at forests of at most N nodes together -/
def MostAt (xs ys : List Int) (bF bG b N : Nat) : Prop := ∀ (a n c m r : Nat) (V1 V2 : Value) (W : World), n + m ≤ N → a + n ≤ xs.length → c + m ≤ ys.length → Hid (M.Closed (M.szAt xs) a (a + n)) → Hid (M.Closed (M.szAt ys) c (c + m)) →
  Hid (IsFor V1 bF a n) → Hid (IsFor V2 bG c m) → Hid (For W bF xs) → Hid (For W bG ys) → Hid (Memo (Lk xs ys) W b) → Hid (M.most (M.szAt xs) (M.szAt ys) a (a + n) c (c + m) = r) →
  Calls Try.prog 142 #[cmpV b, V1, V2] W fun e W' => e = .returned (.int .i64 (r : Int)) ∧ Hid (Memo (Lk xs ys) W' b) ∧ Hid (W.grownBy W' (some b))

set_option maxHeartbeats 40000000 in
set_option maxRecDepth 100000 in
theorem mostWithRoots (xs ys : List Int) (bF bG b N a n c m p q n' m' r1 r2 : Nat) (V1 V2 : Value) (W : World) (hx : xs.length ≤ 24) (hy : ys.length ≤ 24) (ht : Hid (M.isTree xs = true)) (hu : Hid (M.isTree ys = true)) (ih : Hid (MostAt xs ys bF bG b N)) (hN : n + m ≤ N + 1)
    (hn : 0 < n) (hm : 0 < m) (han : a + n ≤ xs.length) (hcm : c + m ≤ ys.length) (hC1 : Hid (M.Closed (M.szAt xs) a (a + n))) (hC2 : Hid (M.Closed (M.szAt ys) c (c + m)))
    (hp : p + M.szAt xs (a + (n - 1)) = n) (hn' : p + n' = n - 1) (hq : q + M.szAt ys (c + (m - 1)) = m) (hm' : q + m' = m - 1)
    (h1 : Hid (IsFor V1 bF a n)) (h2 : Hid (IsFor V2 bG c m)) (hF : Hid (For W bF xs)) (hG : Hid (For W bG ys)) (hM : Hid (Memo (Lk xs ys) W b)) (hbF : b ≠ bF) (hbG : b ≠ bG)
    (hr1 : Hid (M.most (M.szAt xs) (M.szAt ys) (a + p) (a + p + n') (c + q) (c + q + m') = r1)) (hr2 : Hid (M.most (M.szAt xs) (M.szAt ys) a (a + p) c (c + q) = r2)) :
    Calls Try.prog 165 #[cmpV b, V1, V2] W fun e W' => e = .returned (.int .i64 (1 + (r1 : Int) + (r2 : Int))) ∧ Hid (Memo (Lk xs ys) W' b) ∧ Hid (W.grownBy W' (some b)) := by
  have hb1 : r1 ≤ n' := by have := (M.most_bd (M.szAt xs) (M.szAt ys) (a + p) (a + p + n') (c + q) (c + q + m')).1; rw [hr1.out] at this; omega
  have hb2 : r2 ≤ p := by have := (M.most_bd (M.szAt xs) (M.szAt ys) a (a + p) c (c + q)).1; rw [hr2.out] at this; omega
  have hs1 : 1 ≤ M.szAt xs (a + (n - 1)) := (hC1.out (a + (n - 1)) (by omega) (by omega)).1
  have hs2 : 1 ≤ M.szAt ys (c + (m - 1)) := (hC2.out (c + (m - 1)) (by omega) (by omega)).1
  obtain ⟨u, hu1, _⟩ := M.posts_at ht.out (j := a + (n - 1)) (by omega)
  obtain ⟨v, hv1, _⟩ := M.posts_at hu.out (j := c + (m - 1)) (by omega)
  have HU := Lib.hid hu1
  have HV := Lib.hid hv1
  have hcb1 : Hid (M.Closed (M.szAt xs) (a + p) (a + p + n')) := by
    have := M.closed_below ht.out hC1.out (by omega) (by omega)
    rw [show a + n - 1 = a + (n - 1) by omega, show a + n - M.szAt xs (a + (n - 1)) = a + p by omega, show a + (n - 1) = a + p + n' by omega] at this
    exact this
  have hcb2 : Hid (M.Closed (M.szAt ys) (c + q) (c + q + m')) := by
    have := M.closed_below hu.out hC2.out (by omega) (by omega)
    rw [show c + m - 1 = c + (m - 1) by omega, show c + m - M.szAt ys (c + (m - 1)) = c + q by omega, show c + (m - 1) = c + q + m' by omega] at this
    exact this
  have hca1 : Hid (M.Closed (M.szAt xs) a (a + p)) := M.closed_less hC1.out (by omega)
  have hca2 : Hid (M.Closed (M.szAt ys) c (c + q)) := M.closed_less hC2.out (by omega)
  obtain ⟨W1, hW1⟩ : ∃ W1, W1 = W.alloc (.cells #[.func (.func 106) #[] #[], .map (some b)] 154) := ⟨_, rfl⟩
  have hB1 : Hid (Below W.heap.size W W1) := by subst hW1; exact bal (b0 W) _
  have k0 : W1.cell? ⟨W.heap.size, 0, none⟩ = some (.func (.func 106) #[] #[]) := by subst hW1; simp [go_sem]
  have k1 : W1.cell? ⟨W.heap.size, 1, none⟩ = some (.map (some b)) := by subst hW1; simp [go_sem]
  have hbW := hM.out.lt
  have hM1 : Hid (Memo (Lk xs ys) W1.drew b) := memo_drew (memo_below hM.out hB1.out)
  have hg1 : Hid (W1.grownBy W1.drew (some b)) := grown_of_below (b0 W1).drew
  have hF1 : Hid (For W1 bF xs) := hF.out.be hB1.out
  have hG1 : Hid (For W1 bG ys) := hG.out.be hB1.out
  have hgW : Hid (W.grownBy W1 (some b)) := grown_of_below hB1.out
  have HS : Hid (∀ w', Hid (W1.grownBy w' (some b)) → w'.cell? ⟨W.heap.size, 0, none⟩ = some (.func (.func 106) #[] #[]) ∧ w'.cell? ⟨W.heap.size, 1, none⟩ = some (.map (some b))) := fun w' hg =>
    ⟨hg.out.cell k0 (fun e => by injection e with e; have e' : W.heap.size = b := e; omega), hg.out.cell k1 (fun e => by injection e with e; have e' : W.heap.size = b := e; omega)⟩
  have k00 : W1.drew.cell? ⟨W.heap.size, 0, none⟩ = some (.func (.func 106) #[] #[]) := k0
  have k10 : W1.drew.cell? ⟨W.heap.size, 1, none⟩ = some (.map (some b)) := k1
  have HB1 : Hid (∀ w', Hid (Memo (Lk xs ys) w' b) → Hid (W1.grownBy w' (some b)) → Calls Try.prog 192 #[V1] w' fun e w'' => ∃ V, e = .returned V ∧ Hid (IsFor V bF (a + p) n') ∧ Hid (Memo (Lk xs ys) w'' b) ∧ Hid (W1.grownBy w'' (some b))) := fun w' hM' hg' => by
    obtain ⟨cf, rfl, hc1, hc2⟩ := h1.out
    refine (below bF a n cf _ p n' xs u w' (Lib.hid (hF1.out.grown hg'.out hbF.symm)) hn (by omega) hc1 rfl HU hp hs1 hn').mono ?_
    rintro e w'' ⟨c', he, e1, e2, hb⟩
    exact ⟨_, he, ⟨c', rfl, e1, by omega⟩, memo_below hM'.out hb.out, hg'.out.trans (grown_of_below hb.out)⟩
  have HB2 : Hid (∀ w', Hid (Memo (Lk xs ys) w' b) → Hid (W1.grownBy w' (some b)) → Calls Try.prog 192 #[V2] w' fun e w'' => ∃ V, e = .returned V ∧ Hid (IsFor V bG (c + q) m') ∧ Hid (Memo (Lk xs ys) w'' b) ∧ Hid (W1.grownBy w'' (some b))) := fun w' hM' hg' => by
    obtain ⟨cf, rfl, hc1, hc2⟩ := h2.out
    refine (below bG c m cf _ q m' ys v w' (Lib.hid (hG1.out.grown hg'.out hbG.symm)) hm (by omega) hc1 rfl HV hq hs2 hm').mono ?_
    rintro e w'' ⟨c', he, e1, e2, hb⟩
    exact ⟨_, he, ⟨c', rfl, e1, by omega⟩, memo_below hM'.out hb.out, hg'.out.trans (grown_of_below hb.out)⟩
  have HA1 : Hid (∀ w', Hid (Memo (Lk xs ys) w' b) → Hid (W1.grownBy w' (some b)) → Calls Try.prog 113 #[V1] w' fun e w'' => ∃ V, e = .returned V ∧ Hid (IsFor V bF a p) ∧ Hid (Memo (Lk xs ys) w'' b) ∧ Hid (W1.grownBy w'' (some b))) := fun w' hM' hg' => by
    obtain ⟨cf, rfl, hc1, hc2⟩ := h1.out
    refine (ahead bF a n cf _ p xs u w' (Lib.hid (hF1.out.grown hg'.out hbF.symm)) hn (by omega) hc1 rfl HU hp).mono ?_
    rintro e w'' ⟨he, hb⟩
    exact ⟨_, he, ⟨cf, rfl, by omega, hc2⟩, memo_below hM'.out hb.out, hg'.out.trans (grown_of_below hb.out)⟩
  have HA2 : Hid (∀ w', Hid (Memo (Lk xs ys) w' b) → Hid (W1.grownBy w' (some b)) → Calls Try.prog 113 #[V2] w' fun e w'' => ∃ V, e = .returned V ∧ Hid (IsFor V bG c q) ∧ Hid (Memo (Lk xs ys) w'' b) ∧ Hid (W1.grownBy w'' (some b))) := fun w' hM' hg' => by
    obtain ⟨cf, rfl, hc1, hc2⟩ := h2.out
    refine (ahead bG c m cf _ q ys v w' (Lib.hid (hG1.out.grown hg'.out hbG.symm)) hm (by omega) hc1 rfl HV hq).mono ?_
    rintro e w'' ⟨he, hb⟩
    exact ⟨_, he, ⟨cf, rfl, by omega, hc2⟩, memo_below hM'.out hb.out, hg'.out.trans (grown_of_below hb.out)⟩
  have HM1 : Hid (∀ w' Va Vb, Hid (Memo (Lk xs ys) w' b) → Hid (W1.grownBy w' (some b)) → Hid (IsFor Va bF (a + p) n') → Hid (IsFor Vb bG (c + q) m') → Calls Try.prog 142 #[cmpV b, Va, Vb] w' fun e w'' => e = .returned (.int .i64 (r1 : Int)) ∧ Hid (Memo (Lk xs ys) w'' b) ∧ Hid (W1.grownBy w'' (some b))) := fun w' Va Vb hM' hg' ha hb =>
    (ih.out (a + p) n' (c + q) m' r1 Va Vb w' (by omega) (by omega) (by omega) hcb1 hcb2 ha hb (Lib.hid (hF1.out.grown hg'.out hbF.symm)) (Lib.hid (hG1.out.grown hg'.out hbG.symm)) hM' hr1).mono fun e w'' ⟨he, e1, e2⟩ => ⟨he, e1, hg'.out.trans e2.out⟩
  have HM2 : Hid (∀ w' Va Vb, Hid (Memo (Lk xs ys) w' b) → Hid (W1.grownBy w' (some b)) → Hid (IsFor Va bF a p) → Hid (IsFor Vb bG c q) → Calls Try.prog 142 #[cmpV b, Va, Vb] w' fun e w'' => e = .returned (.int .i64 (r2 : Int)) ∧ Hid (Memo (Lk xs ys) w'' b) ∧ Hid (W1.grownBy w'' (some b))) := fun w' Va Vb hM' hg' ha hb =>
    (ih.out a p c q r2 Va Vb w' (by omega) (by omega) (by omega) hca1 hca2 ha hb (Lib.hid (hF1.out.grown hg'.out hbF.symm)) (Lib.hid (hG1.out.grown hg'.out hbG.symm)) hM' hr2).mono fun e w'' ⟨he, e1, e2⟩ => ⟨he, e1, hg'.out.trans e2.out⟩
  have ew1 : IntKind.i64.wrap (1 + (r1 : Int)) = 1 + (r1 : Int) := IntWalk.i64_in _ (by omega)
  have ew2 : IntKind.i64.wrap (1 + (r1 : Int) + (r2 : Int)) = 1 + (r1 : Int) + (r2 : Int) := IntWalk.i64_in _ (by omega)
  have HW1 := Lib.hid hW1
  clear hW1 k0 k1 hu1 hv1 ih hp hq hn' hm' hC1 hC2 hr1 hr2 hcb1 hcb2 hca1 hca2 h1 h2 hF hG hM hF1 hG1 hs1 hs2 hb1 hb2 ht hu HU HV
  go_enter Try.func165, Try.ntmps165
  go_wp2
  rw [← HW1.out]
  clear HW1
  go_region_held3 (fun w' => w'.cell? ⟨W.heap.size, 0, none⟩ = some (.func (.func 106) #[] #[]) ∧ w'.cell? ⟨W.heap.size, 1, none⟩ = some (.map (some b)) ∧ Hid (Memo (Lk xs ys) w' b) ∧ Hid (W1.grownBy w' (some b))) (first | exact ⟨k00, k10, hM1, hg1⟩ | exact ⟨(HS.out _ (by assumption)).1, (HS.out _ (by assumption)).2, by assumption, by assumption⟩) (first | (go_at_call_of 192 V1; refine (HB1.out _ (by assumption) (by assumption)).mono ?_; rintro e wa ⟨Va, rfl, hVa, hMa, hga⟩) | (go_at_call_of 192 V2; refine (HB2.out _ (by assumption) (by assumption)).mono ?_; rintro e wb ⟨Vb, rfl, hVb, hMb, hgb⟩) | (go_at_call_of 113 V1; refine (HA1.out _ (by assumption) (by assumption)).mono ?_; rintro e wc ⟨Vc, rfl, hVc, hMc, hgc⟩) | (go_at_call_of 113 V2; refine (HA2.out _ (by assumption) (by assumption)).mono ?_; rintro e wd ⟨Vd, rfl, hVd, hMd, hgd⟩) | (go_at_call_of 142 Va; refine (HM1.out _ Va Vb (by assumption) (by assumption) hVa hVb).mono ?_; rintro e we ⟨rfl, hMe, hge⟩) | (go_at_call_of 142 Vc; refine (HM2.out _ Vc Vd (by assumption) (by assumption) hVc hVd).mono ?_; rintro e wf ⟨rfl, hMf, hgf⟩))
  all_goals
    go_wp2
    go_ret
    refine ⟨rfl, ?_, hgW.out.trans ?_⟩
    · assumption
    · exact Hid.out (by assumption)
end Go.Proofs.Ytgcabcmnhdaepaa
