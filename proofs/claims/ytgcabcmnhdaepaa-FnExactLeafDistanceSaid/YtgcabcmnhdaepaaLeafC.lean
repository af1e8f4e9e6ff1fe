/- Leaves alone: the closure of most, and most: the greatest number of pairs for all forests. -/
import Derived.Test.YtgcabcmnhdaepaaLeafIn
namespace Go.Proofs.Ytgcabcmnhdaepaa.Leaf
open Go.RowKit Go.Maps Go.WideMaps

/-- the boxes that the closure has captured -/
structure Caps (W : World) (B0 B1 B2 b : Nat) (V1 V2 : Value) : Prop where
  c0 : W.cell? ⟨B0, 0, none⟩ = some (.func (.func 113) #[] #[])
  c1 : W.cell? ⟨B0, 1, none⟩ = some (.map (some b))
  c2 : W.cell? ⟨B1, 0, none⟩ = some V1
  c3 : W.cell? ⟨B2, 0, none⟩ = some V2
theorem Caps.grown {W W' : World} {B0 B1 B2 b : Nat} {V1 V2 : Value} (h : Caps W B0 B1 B2 b V1 V2) (hg : W.grownBy W' (some b)) (h0 : B0 ≠ b) (h1 : B1 ≠ b) (h2 : B2 ≠ b) : Caps W' B0 B1 B2 b V1 V2 :=
  ⟨hg.cell h.c0 (fun e => h0 (by injection e)), hg.cell h.c1 (fun e => h0 (by injection e)), hg.cell h.c2 (fun e => h1 (by injection e)), hg.cell h.c3 (fun e => h2 (by injection e))⟩

set_option maxHeartbeats 40000000 in
set_option maxRecDepth 100000 in
theorem most1 (xs ys : List Int) (bF bG b N a n c m r B0 B1 B2 : Nat) (V1 V2 : Value) (W : World) (hx : xs.length ≤ 24) (hy : ys.length ≤ 24) (ht : Hid (M.isTree xs = true)) (hu : Hid (M.isTree ys = true)) (ih : Hid (MostAt xs ys bF bG b N)) (hN : n + m ≤ N + 1)
    (hn : 0 < n) (hm : 0 < m) (han : a + n ≤ xs.length) (hcm : c + m ≤ ys.length) (hC1 : Hid (M.Closed (M.szAt xs) a (a + n))) (hC2 : Hid (M.Closed (M.szAt ys) c (c + m)))
    (h1 : Hid (IsFor V1 bF a n)) (h2 : Hid (IsFor V2 bG c m)) (hF : Hid (For W bF xs)) (hG : Hid (For W bG ys)) (hM : Hid (Memo (Lk xs ys) W b)) (hbF : b ≠ bF) (hbG : b ≠ bG)
    (hr : Hid (M.mostL (M.szAt xs) (M.szAt ys) a (a + n) c (c + m) = r)) (hc : Hid (Caps W B0 B1 B2 b V1 V2)) (hB0 : B0 ≠ b) (hB1 : B1 ≠ b) (hB2 : B2 ≠ b) :
    Calls Try.prog 164 #[.pointer (some ⟨B0, 0, none⟩), .pointer (some ⟨B1, 0, none⟩), .pointer (some ⟨B2, 0, none⟩)] W fun e W' => e = .returned (.int .i64 (r : Int)) ∧ Hid (Memo (Lk xs ys) W' b) ∧ Hid (W.grownBy W' (some b)) := by
  have hs1 := hC1.out (a + (n - 1)) (by omega) (by omega)
  have hs2 := hC2.out (c + (m - 1)) (by omega) (by omega)
  obtain ⟨p, hp⟩ : ∃ p, p + M.szAt xs (a + (n - 1)) = n := ⟨n - M.szAt xs (a + (n - 1)), by omega⟩
  obtain ⟨q, hq⟩ : ∃ q, q + M.szAt ys (c + (m - 1)) = m := ⟨m - M.szAt ys (c + (m - 1)), by omega⟩
  obtain ⟨n', hn'⟩ : ∃ n', p + n' = n - 1 := ⟨n - 1 - p, by omega⟩
  obtain ⟨m', hm'⟩ : ∃ m', q + m' = m - 1 := ⟨m - 1 - q, by omega⟩
  obtain ⟨r1, hr1⟩ : ∃ r1, Hid (M.mostL (M.szAt xs) (M.szAt ys) (a + p) (a + p + n') (c + q) (c + q + m') = r1) := ⟨_, rfl⟩
  obtain ⟨r2, hr2⟩ : ∃ r2, Hid (M.mostL (M.szAt xs) (M.szAt ys) a (a + p) c (c + q) = r2) := ⟨_, rfl⟩
  obtain ⟨r3, hr3⟩ : ∃ r3, Hid (M.mostL (M.szAt xs) (M.szAt ys) a (a + p) c (c + m) = r3) := ⟨_, rfl⟩
  obtain ⟨r4, hr4⟩ : ∃ r4, Hid (M.mostL (M.szAt xs) (M.szAt ys) a (a + n) c (c + q) = r4) := ⟨_, rfl⟩
  have hmax : Hid (r = max (1 + r1 + r2) (max r3 r4)) := by
    show _ = _
    rw [← hr.out, M.mostL_step (p := a + p) (q := c + q) (by omega) (by omega) (by rw [show a + n - 1 = a + (n - 1) by omega]; omega) (by rw [show c + m - 1 = c + (m - 1) by omega]; omega), show a + n - 1 = a + (n - 1) by omega, show c + m - 1 = c + (m - 1) by omega, hr2.out, hr3.out, hr4.out, ← hr1.out]
    rw [show a + p + n' = a + (n - 1) by omega, show c + q + m' = c + (m - 1) by omega]
  have hmx : ∀ w' : World, (Builtin.max_ #[2, 2, 2] 2 #[.int .i64 (1 + (r1 : Int) + (r2 : Int)), .int .i64 (r3 : Int), .int .i64 (r4 : Int)]).run Try.prog w' = .ok (.int .i64 (r : Int)) w' := fun w' => by
    have h := hmax.out
    simp only [Builtin.max_, Builtin.max2, List.foldlM_cons, List.foldlM_nil, Sem.run_bind, Sem.run_pure, Result.andThen_ok]
    congr 2
    split <;> split <;> omega
  have hM1 : Hid (Memo (Lk xs ys) W.drew b) := memo_drew hM.out
  have hg1 : Hid (W.grownBy W.drew (some b)) := grown_of_below (b0 W).drew
  have HS : Hid (∀ w', Hid (W.grownBy w' (some b)) → Caps w' B0 B1 B2 b V1 V2) := fun w' hg => hc.out.grown hg.out hB0 hB1 hB2
  obtain ⟨k0, k1, k2, k3⟩ := HS.out _ hg1
  have HR : Hid (∀ w', Hid (Memo (Lk xs ys) w' b) → Hid (W.grownBy w' (some b)) → Calls Try.prog 165 #[cmpV b, V1, V2] w' fun e w'' => e = .returned (.int .i64 (1 + (r1 : Int) + (r2 : Int))) ∧ Hid (Memo (Lk xs ys) w'' b) ∧ Hid (W.grownBy w'' (some b))) := fun w' hM' hg' =>
    (mostWithRoots xs ys bF bG b N a n c m p q n' m' r1 r2 V1 V2 w' hx hy ht hu ih hN hn hm han hcm hC1 hC2 hp hn' hq hm' h1 h2 (Lib.hid (hF.out.grown hg'.out hbF.symm)) (Lib.hid (hG.out.grown hg'.out hbG.symm)) hM' hbF hbG hr1 hr2).mono fun e w'' ⟨he, e1, e2⟩ => ⟨he, e1, hg'.out.trans e2.out⟩
  obtain ⟨u, hu1, _⟩ := M.posts_at ht.out (j := a + (n - 1)) (by omega)
  obtain ⟨v, hv1, _⟩ := M.posts_at hu.out (j := c + (m - 1)) (by omega)
  have HU := Lib.hid hu1
  have HV := Lib.hid hv1
  have HW1 : Hid (∀ w', Hid (Memo (Lk xs ys) w' b) → Hid (W.grownBy w' (some b)) → Calls Try.prog 113 #[V1] w' fun e w'' => ∃ V, e = .returned V ∧ Hid (IsFor V bF a p) ∧ Hid (Memo (Lk xs ys) w'' b) ∧ Hid (W.grownBy w'' (some b))) := fun w' hM' hg' => by
    obtain ⟨cf, rfl, hc1, hc2⟩ := h1.out
    refine (ahead bF a n cf _ p xs u w' (Lib.hid (hF.out.grown hg'.out hbF.symm)) hn (by omega) hc1 rfl HU hp).mono ?_
    rintro e w'' ⟨he, hb⟩
    exact ⟨_, he, ⟨cf, rfl, by omega, hc2⟩, memo_below hM'.out hb.out, hg'.out.trans (grown_of_below hb.out)⟩
  have HW2 : Hid (∀ w', Hid (Memo (Lk xs ys) w' b) → Hid (W.grownBy w' (some b)) → Calls Try.prog 113 #[V2] w' fun e w'' => ∃ V, e = .returned V ∧ Hid (IsFor V bG c q) ∧ Hid (Memo (Lk xs ys) w'' b) ∧ Hid (W.grownBy w'' (some b))) := fun w' hM' hg' => by
    obtain ⟨cg, rfl, hc1, hc2⟩ := h2.out
    refine (ahead bG c m cg _ q ys v w' (Lib.hid (hG.out.grown hg'.out hbG.symm)) hm (by omega) hc1 rfl HV hq).mono ?_
    rintro e w'' ⟨he, hb⟩
    exact ⟨_, he, ⟨cg, rfl, by omega, hc2⟩, memo_below hM'.out hb.out, hg'.out.trans (grown_of_below hb.out)⟩
  have HM3 : Hid (∀ w' Va, Hid (Memo (Lk xs ys) w' b) → Hid (W.grownBy w' (some b)) → Hid (IsFor Va bF a p) → Calls Try.prog 142 #[cmpV b, Va, V2] w' fun e w'' => e = .returned (.int .i64 (r3 : Int)) ∧ Hid (Memo (Lk xs ys) w'' b) ∧ Hid (W.grownBy w'' (some b))) := fun w' Va hM' hg' ha =>
    (ih.out a p c m r3 Va V2 w' (by omega) (by omega) hcm (M.closed_less hC1.out (by omega)) hC2 ha h2 (Lib.hid (hF.out.grown hg'.out hbF.symm)) (Lib.hid (hG.out.grown hg'.out hbG.symm)) hM' hr3).mono fun e w'' ⟨he, e1, e2⟩ => ⟨he, e1, hg'.out.trans e2.out⟩
  have HM4 : Hid (∀ w' Vb, Hid (Memo (Lk xs ys) w' b) → Hid (W.grownBy w' (some b)) → Hid (IsFor Vb bG c q) → Calls Try.prog 142 #[cmpV b, V1, Vb] w' fun e w'' => e = .returned (.int .i64 (r4 : Int)) ∧ Hid (Memo (Lk xs ys) w'' b) ∧ Hid (W.grownBy w'' (some b))) := fun w' Vb hM' hg' hb =>
    (ih.out a n c q r4 V1 Vb w' (by omega) han (by omega) hC1 (M.closed_less hC2.out (by omega)) h1 hb (Lib.hid (hF.out.grown hg'.out hbF.symm)) (Lib.hid (hG.out.grown hg'.out hbG.symm)) hM' hr4).mono fun e w'' ⟨he, e1, e2⟩ => ⟨he, e1, hg'.out.trans e2.out⟩
  clear hu1 hv1 HU HV
  clear hp hq hn' hm' hC1 hC2 hr hr1 hr2 hr3 hr4 h1 h2 hF hG hM hs1 hs2 ht hu hc ih
  go_enter Try.func164, Try.ntmps164
  go_wp2
  go_region_held3 (fun w' => w'.cell? ⟨B0, 0, none⟩ = some (.func (.func 113) #[] #[]) ∧ w'.cell? ⟨B0, 1, none⟩ = some (.map (some b)) ∧ w'.cell? ⟨B1, 0, none⟩ = some V1 ∧ w'.cell? ⟨B2, 0, none⟩ = some V2 ∧ Hid (Memo (Lk xs ys) w' b) ∧ Hid (W.grownBy w' (some b))) (first | exact ⟨k0, k1, k2, k3, hM1, hg1⟩ | exact ⟨(HS.out _ (by assumption)).c0, (HS.out _ (by assumption)).c1, (HS.out _ (by assumption)).c2, (HS.out _ (by assumption)).c3, by assumption, by assumption⟩) (first | (go_at_call 165; refine (HR.out _ (by assumption) (by assumption)).mono ?_; rintro e wa ⟨rfl, hMa, hga⟩) | (go_at_call_of 113 V1; refine (HW1.out _ (by assumption) (by assumption)).mono ?_; rintro e wb ⟨Va, rfl, hVa, hMb, hgb⟩) | (go_at_call_of 113 V2; refine (HW2.out _ (by assumption) (by assumption)).mono ?_; rintro e wc ⟨Vb, rfl, hVb, hMc, hgc⟩) | (go_at_call_of 142 Va; refine (HM3.out _ Va (by assumption) (by assumption) hVa).mono ?_; rintro e wd ⟨rfl, hMd, hgd⟩) | (go_at_call_of 142 Vb; refine (HM4.out _ Vb (by assumption) (by assumption) hVb).mono ?_; rintro e we ⟨rfl, hMe, hge⟩))
  all_goals
    go_wp2
    go_ret
    refine ⟨rfl, ?_, ?_⟩
    · assumption
    · assumption

/-- what most does where one forest has no nodes -/
theorem most_base (xs ys : List Int) (b n m c1 c2 : Nat) (A1 A2 : Option Addr) (W : World) (h : n = 0 ∨ m = 0) (hM : Hid (Memo (Lk xs ys) W b)) :
    Calls Try.prog 142 #[cmpV b, .slice A1 n c1, .slice A2 m c2] W fun e W' => e = .returned (.int .i64 0) ∧ Hid (Memo (Lk xs ys) W' b) ∧ Hid (W.grownBy W' (some b)) := by
  obtain ⟨W3, hW3⟩ : ∃ W3, W3 = ((W.alloc (.cells #[.func (.func 113) #[] #[], .map (some b)] 154)).alloc (.cells #[.slice A1 n c1] 120)).alloc (.cells #[.slice A2 m c2] 120) := ⟨_, rfl⟩
  have hB3 : Hid (Below W.heap.size W W3) := by subst hW3; exact bal (bal (bal (b0 W) _) _) _
  have hM3 : Hid (Memo (Lk xs ys) W3 b) := memo_below hM.out hB3.out
  have hg3 : Hid (W.grownBy W3 (some b)) := grown_of_below hB3.out
  have HW := Lib.hid hW3
  clear hW3
  rcases Nat.eq_zero_or_pos n with h0 | h0
  · subst h0
    clear h
    go_enter Try.func142, Try.ntmps142
    go_wp2
    go_ret
    rw [← HW.out]
    exact ⟨rfl, hM3, hg3⟩
  · obtain rfl : m = 0 := by omega
    have hq : ((n : Int) == 0) = false := by simp; omega
    clear h
    go_enter Try.func142, Try.ntmps142
    go_wp2
    go_ret
    rw [← HW.out]
    exact ⟨rfl, hM3, hg3⟩

set_option maxHeartbeats 40000000 in
set_option maxRecDepth 100000 in
theorem most_step (xs ys : List Int) (bF bG b N a n c m r cf cg : Nat) (W : World) (hx : xs.length ≤ 24) (hy : ys.length ≤ 24) (ht : Hid (M.isTree xs = true)) (hu : Hid (M.isTree ys = true)) (ih : Hid (MostAt xs ys bF bG b N)) (hN : n + m ≤ N + 1)
    (hn : 0 < n) (hm : 0 < m) (han : a + n ≤ xs.length) (hcm : c + m ≤ ys.length) (hC1 : Hid (M.Closed (M.szAt xs) a (a + n))) (hC2 : Hid (M.Closed (M.szAt ys) c (c + m))) (hcf : n ≤ cf ∧ cf ≤ 9223372036854775807) (hcg : m ≤ cg ∧ cg ≤ 9223372036854775807)
    (hF : Hid (For W bF xs)) (hG : Hid (For W bG ys)) (hM : Hid (Memo (Lk xs ys) W b)) (hbF : b ≠ bF) (hbG : b ≠ bG)
    (hr : Hid (M.mostL (M.szAt xs) (M.szAt ys) a (a + n) c (c + m) = r)) :
    Calls Try.prog 142 #[cmpV b, .slice (some ⟨bF, a * 2, none⟩) n cf, .slice (some ⟨bG, c * 2, none⟩) m cg] W fun e W' => e = .returned (.int .i64 (r : Int)) ∧ Hid (Memo (Lk xs ys) W' b) ∧ Hid (W.grownBy W' (some b)) := by
  obtain ⟨V1, hV1⟩ : ∃ V1, V1 = Value.slice (some ⟨bF, a * 2, none⟩) n cf := ⟨_, rfl⟩
  obtain ⟨V2, hV2⟩ : ∃ V2, V2 = Value.slice (some ⟨bG, c * 2, none⟩) m cg := ⟨_, rfl⟩
  have h1 : Hid (IsFor V1 bF a n) := ⟨cf, hV1, hcf.1, hcf.2⟩
  have h2 : Hid (IsFor V2 bG c m) := ⟨cg, hV2, hcg.1, hcg.2⟩
  obtain ⟨u0, hu0, hu0l⟩ := M.posts_at ht.out (j := a) (by omega)
  obtain ⟨u1, hu1, hu1l⟩ := M.posts_at ht.out (j := a + (n - 1)) (by omega)
  obtain ⟨v0, hv0, hv0l⟩ := M.posts_at hu.out (j := c) (by omega)
  obtain ⟨v1, hv1, hv1l⟩ := M.posts_at hu.out (j := c + (m - 1)) (by omega)
  have hLk : Hid (Lk xs ys u0 u1 v0 v1 = r) := by show _ = _; rw [Lk, M.ix_at ht.out hu0, M.ix_at ht.out hu1, M.ix_at hu.out hv0, M.ix_at hu.out hv1, show a + (n - 1) + 1 = a + n by omega, show c + (m - 1) + 1 = c + m by omega, hr.out]
  have hrb : r ≤ 24 := by have := (M.mostL_bd (M.szAt xs) (M.szAt ys) a (a + n) c (c + m)).1; rw [hr.out] at this; omega
  have HU0 := Lib.hid hu0
  have HU1 := Lib.hid hu1
  have HV0 := Lib.hid hv0
  have HV1 := Lib.hid hv1
  obtain ⟨W3, hW3⟩ : ∃ W3, W3 = ((W.alloc (.cells #[.func (.func 113) #[] #[], .map (some b)] 154)).alloc (.cells #[V1] 120)).alloc (.cells #[V2] 120) := ⟨_, rfl⟩
  have hB3 : Hid (Below W.heap.size W W3) := by subst hW3; exact bal (bal (bal (b0 W) _) _) _
  have hbW := hM.out.lt
  have hM3 : Hid (Memo (Lk xs ys) W3.drew b) := memo_drew (memo_below hM.out hB3.out)
  have hg3 : Hid (W3.grownBy W3.drew (some b)) := grown_of_below (b0 W3).drew
  have hgW : Hid (W.grownBy W3 (some b)) := grown_of_below hB3.out
  have hF3 : Hid (For W3 bF xs) := hF.out.be hB3.out
  have hG3 : Hid (For W3 bG ys) := hG.out.be hB3.out
  have hc3 : Hid (Caps W3 W.heap.size (W.heap.size + 1) (W.heap.size + 1 + 1) b V1 V2) := by
    subst hW3
    exact ⟨by simp [go_sem], by simp [go_sem], by simp [go_sem], by simp [go_sem]⟩
  have HS : Hid (∀ w', Hid (W3.grownBy w' (some b)) → Caps w' W.heap.size (W.heap.size + 1) (W.heap.size + 1 + 1) b V1 V2) := fun w' hg => hc3.out.grown hg.out (by omega) (by omega) (by omega)
  obtain ⟨k0, k1, k2, k3⟩ := HS.out _ hg3
  have HS1 : Hid (∀ w', Hid (Memo (Lk xs ys) w' b) → Hid (W3.grownBy w' (some b)) → Calls Try.prog 163 #[V1] w' fun e w'' => e = .returned (.agg #[.int .i64 (u0 : Int), .int .i64 (u1 : Int)]) ∧ Hid (Memo (Lk xs ys) w'' b) ∧ Hid (W3.grownBy w'' (some b))) := fun w' hM' hg' => by
    rw [hV1]
    exact (span bF a n cf (a + (n - 1)) xs u0 u1 w' (Lib.hid (hF3.out.grown hg'.out hbF.symm)) hn (by omega) rfl HU0 HU1).mono fun e w'' ⟨he, hb⟩ => ⟨he, memo_below hM'.out hb.out, hg'.out.trans (grown_of_below hb.out)⟩
  have HS2 : Hid (∀ w', Hid (Memo (Lk xs ys) w' b) → Hid (W3.grownBy w' (some b)) → Calls Try.prog 163 #[V2] w' fun e w'' => e = .returned (.agg #[.int .i64 (v0 : Int), .int .i64 (v1 : Int)]) ∧ Hid (Memo (Lk xs ys) w'' b) ∧ Hid (W3.grownBy w'' (some b))) := fun w' hM' hg' => by
    rw [hV2]
    exact (span bG c m cg (c + (m - 1)) ys v0 v1 w' (Lib.hid (hG3.out.grown hg'.out hbG.symm)) hm (by omega) rfl HV0 HV1).mono fun e w'' ⟨he, hb⟩ => ⟨he, memo_below hM'.out hb.out, hg'.out.trans (grown_of_below hb.out)⟩
  have HK : Hid (∀ w', Hid (Memo (Lk xs ys) w' b) → Hid (W3.grownBy w' (some b)) → Calls Try.prog 162 #[.map (some b), .agg #[.int .i64 (u0 : Int), .int .i64 (u1 : Int), .int .i64 (v0 : Int), .int .i64 (v1 : Int)], .func (.func 164) #[] #[.pointer (some ⟨W.heap.size, 0, none⟩), .pointer (some ⟨W.heap.size + 1, 0, none⟩), .pointer (some ⟨W.heap.size + 1 + 1, 0, none⟩)]] w' fun e w'' => e = .returned (.int .i64 (r : Int)) ∧ Hid (Memo (Lk xs ys) w'' b) ∧ Hid (W3.grownBy w'' (some b))) := fun w' hM' hg' => by
    have := keptMost (L := Lk xs ys) b u0 u1 v0 v1 ⟨W.heap.size, 0, none⟩ ⟨W.heap.size + 1, 0, none⟩ ⟨W.heap.size + 1 + 1, 0, none⟩ w' (by omega) (by omega) (by omega) (by omega) (by rw [hLk.out]; omega) hM' (fun W' hM2 hg2 => by
      have hgt : Hid (W3.grownBy W' (some b)) := hg'.out.trans hg2.out
      rw [hLk.out]
      exact most1 xs ys bF bG b N a n c m r W.heap.size (W.heap.size + 1) (W.heap.size + 1 + 1) V1 V2 W' hx hy ht hu ih hN hn hm han hcm hC1 hC2 h1 h2 (Lib.hid (hF3.out.grown hgt.out hbF.symm)) (Lib.hid (hG3.out.grown hgt.out hbG.symm)) hM2 hbF hbG hr (HS.out _ hgt) (by omega) (by omega) (by omega))
    rw [hLk.out] at this
    exact this.mono fun e w'' ⟨he, e1, e2⟩ => ⟨he, e1, hg'.out.trans e2.out⟩
  have hq1 : ((n : Int) == 0) = false := by simp; omega
  have hq2 : ((m : Int) == 0) = false := by simp; omega
  have HW3 := Lib.hid hW3
  have HV1e := Lib.hid hV1
  have HV2e := Lib.hid hV2
  clear hW3 hV1 hV2 hu0 hu1 hv0 hv1 hr ih hC1 hC2 h1 h2 hF hG hM hF3 hG3 hc3 ht hu hLk
  go_enter Try.func142, Try.ntmps142
  go_wp2
  rw [← HV1e.out, ← HV2e.out, ← HW3.out]
  clear HW3
  go_region_held3 (fun w' => w'.cell? ⟨W.heap.size, 1, none⟩ = some (.map (some b)) ∧ w'.cell? ⟨W.heap.size + 1, 0, none⟩ = some V1 ∧ w'.cell? ⟨W.heap.size + 1 + 1, 0, none⟩ = some V2 ∧ Hid (Memo (Lk xs ys) w' b) ∧ Hid (W3.grownBy w' (some b))) (first | exact ⟨k1, k2, k3, hM3, hg3⟩ | exact ⟨(HS.out _ (by assumption)).c1, (HS.out _ (by assumption)).c2, (HS.out _ (by assumption)).c3, by assumption, by assumption⟩) (first | (go_at_call_of 163 V1; refine (HS1.out _ (by assumption) (by assumption)).mono ?_; rintro e wa ⟨rfl, hMa, hga⟩) | (go_at_call_of 163 V2; refine (HS2.out _ (by assumption) (by assumption)).mono ?_; rintro e wb ⟨rfl, hMb, hgb⟩) | (go_at_call 162; refine (HK.out _ (by assumption) (by assumption)).mono ?_; rintro e wc ⟨rfl, hMc, hgc⟩))
  all_goals
    go_wp2
    go_ret
    refine ⟨rfl, ?_, hgW.out.trans ?_⟩
    · assumption
    · exact Hid.out (by assumption)

theorem mostAt (xs ys : List Int) (bF bG b : Nat) (hx : xs.length ≤ 24) (hy : ys.length ≤ 24) (ht : Hid (M.isTree xs = true)) (hu : Hid (M.isTree ys = true)) (hbF : b ≠ bF) (hbG : b ≠ bG) : ∀ N, MostAt xs ys bF bG b N := by
  intro N
  induction N with
  | zero =>
    intro a n c m r V1 V2 W hN han hcm hC1 hC2 h1 h2 hF hG hM hr
    obtain ⟨cf, rfl, _, _⟩ := h1.out
    obtain ⟨cg, rfl, _, _⟩ := h2.out
    have e : r = 0 := by rw [← hr.out, M.mostL_zero (by omega)]
    subst e
    exact most_base xs ys b n m cf cg _ _ W (by omega) hM
  | succ N ih =>
    intro a n c m r V1 V2 W hN han hcm hC1 hC2 h1 h2 hF hG hM hr
    obtain ⟨cf, rfl, hc1, hc2⟩ := h1.out
    obtain ⟨cg, rfl, hc3, hc4⟩ := h2.out
    by_cases h0 : n = 0 ∨ m = 0
    · have e : r = 0 := by rw [← hr.out, M.mostL_zero (by omega)]
      subst e
      exact most_base xs ys b n m cf cg _ _ W h0 hM
    · exact most_step xs ys bF bG b N a n c m r cf cg W hx hy ht hu ih hN (by omega) (by omega) han hcm hC1 hC2 ⟨hc1, hc2⟩ ⟨hc3, hc4⟩ hF hG hM hbF hbG hr
end Go.Proofs.Ytgcabcmnhdaepaa.Leaf
