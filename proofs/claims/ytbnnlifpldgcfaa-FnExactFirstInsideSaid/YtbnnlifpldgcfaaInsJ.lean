/- The iterator of listsInside, walked: every list by which t is inside u is handed over, in order. -/
import Derived.Test.YtbnnlifpldgcfaaInsI
import Derived.WalkMore
namespace Go.Proofs.Ytbnnlifpldgcfaa
open Go.RowKit Go.Shelf Go.Maps
attribute [local go_sem] Oper.semAt_some

theorem wpIn_scope_wide {n : Nat} {P : Program} {Q : Exit → Act → World → Prop} {a : Act} {w : World} {c : Code} (h : c.wpIn Fence.wide n P (Exit.noGoto Q) a w) : (Code.scope c).wpIn Fence.wide n P Q a w := wpIn_wide.2 (wp_scope_straight (wpIn_wide.1 h))

set_option maxHeartbeats 16000000 in
set_option maxRecDepth 100000 in
theorem ins1 (nn : Nat) (hnn : 1 ≤ nn) (l Bt Bu B D : Nat) (At Au : Option Addr) (xs us : List Int) (ct cu : Nat) (htx : Hid (M.isTree xs = true)) (htu : Hid (M.isTree us = true)) (hct : Hid (xs.length ≤ ct ∧ ct ≤ 1000000000000)) (hcu : Hid (us.length ≤ cu ∧ cu ≤ 1000000000000))
    (h1 : Bt ≠ D) (h2 : Bu ≠ D) (hDB : D < B) (hBt : Bt < B) (hBu : Bu < B) (J Jx : List Value → World → Prop) (W : World)
    (hJ : Hid (∀ s X Y r, J s X → X.grownBy Y r → (∀ k, r = some k → W.heap.size ≤ k) → J s Y))
    (hY : Hid (∀ pre x W1, J pre W1 → RowI us xs B pre x W1 → YieldAt Fence.wide (nn - 1) Try.prog l #[x] W1 fun e W' =>
      (e = .returned (.bool true) ∧ J (pre ++ [x]) W' ∧ KeepD D W1 W') ∨ (e = .returned (.bool false) ∧ Jx (pre ++ [x]) W')))
    (hC : Hid (InCtx D Bt Bu At Au xs us ct cu W)) (hB : B ≤ W.heap.size) (h0 : Hid (J [] W)) :
    CallsIn Fence.wide nn Try.prog 97 #[.func (.yield l) #[] #[], .pointer (some ⟨Bt, 0, none⟩), .pointer (some ⟨Bu, 0, none⟩)] W fun e W' => (∃ u, e = .returned u) ∧
      ((∃ ys, ys.length = (insideLists us xs).length ∧ J ys W') ∨ (∃ pre, True ∧ Jx pre W')) := by
  have hxl := (M.tree_len htx.out).2
  have hul := (M.tree_len htu.out).2
  have hDW : D ≤ W.heap.size := by omega
  obtain ⟨n, hn⟩ : ∃ n, Hid (xs.length = n) := ⟨_, rfl⟩
  obtain ⟨U, hU⟩ : ∃ U, Hid (us.length = U) := ⟨_, rfl⟩
  have HP : Hid (Calls Try.prog 63 #[.slice At n ct] W fun e w' => ∃ Ap cp ps, e = .returned (.slice Ap n cp) ∧ Hid (M.ParsOK xs ps) ∧ Own64 w' W.heap.size (.slice Ap n cp) ps ∧ Below W.heap.size W w') := by
    have := (callsIn_wide (n := 5)).1 (parentsIn_in At xs ct W hct.out.1 hct.out.2 htx (hC.out.2.2.1.more hDW))
    rw [hn.out] at this
    exact this
  have HCt : Hid (∀ W', InCtx D Bt Bu At Au xs us ct cu W' → W'.cell? ⟨Bt, 0, none⟩ = some (.slice At n ct) ∧ W'.cell? ⟨Bu, 0, none⟩ = some (.slice Au U cu)) := fun W' h => by
    have e1 := h.1.cell
    have e2 := h.2.1.cell
    rw [hn.out] at e1
    rw [hU.out] at e2
    exact ⟨e1, e2⟩
  have hcT := (HCt.out W hC.out).1
  have hcU := (HCt.out W hC.out).2
  rw [hn.out] at hxl
  rw [hU.out] at hul
  refine callsIn_of_wp Try.func97 rfl trivial ?_ rfl
  simp only [Try.ntmps97, List.size_toArray, List.length_cons, List.length_nil, Nat.reduceAdd, Nat.reduceSub, Array.replicate_succ, Array.replicate_zero, List.push_toArray, List.append_toArray, List.nil_append, List.cons_append]
  refine wpIn_scope_wide ?_
  gi_wp2_with (refine ⟨trivial, ?_⟩; gi_at_call 63; refine (callsIn_wide.2 HP.out).mono ?_; rintro e W1 ⟨Ap, cp, ps, rfl, hok, hop, hb1⟩)
  refine wpIn_label ?_
  have hJ1 := Lib.hid (hJ.out _ _ _ none h0.out (grownOf hb1) (fun k e => by cases e))
  have hC1 := Lib.hid (hC.out.be hb1 hDW)
  have hT1 : Hid (Two W1 W.heap.size (.slice none 0 0) (.slice Ap n cp) (nums []) ps) := ⟨own64_nil _ _, hop, fun b e => by cases e⟩
  have hf1 := Lib.hid (far_start (us := us) htx.out hok.out)
  have hz1 := Lib.hid hb1.size
  have hpl : Hid (ps.length = n) := hok.out.1.trans hn.out
  have hv1 : Hid (∀ x ∈ ([] : List Nat), x < us.length) := fun x h => by cases h
  clear hop hb1 HP h0 hC hcT hcU
  gi_wp2
  gi_loopw [5, 6, 7, 8] (fun q5 q6 _ _ wr => ∃ (pre : List Value) (l : List Nat) (m c f : Nat) (A : Option Addr), f ≤ U ∧ m ≤ n ∧ q5 = .slice A m c ∧ q6 = .int .i64 (f : Int) ∧ Hid (l.length = m) ∧ Hid (∀ x ∈ l, x < us.length) ∧ Hid (Far us xs ps pre.length l f) ∧ Hid (J pre wr) ∧ Hid (Two wr W.heap.size (.slice A m c) (.slice Ap n cp) (nums l) ps) ∧ Hid (InCtx D Bt Bu At Au xs us ct cu wr) ∧ Hid (W.heap.size ≤ wr.heap.size))
    (fun q5 q6 _ _ wr => M.ms U n ((numsOf wr q5).map Int.toNat) (intOf q6).toNat)
  case atStart => exact ⟨[], [], 0, 0, 0, none, Nat.zero_le _, Nat.zero_le _, rfl, rfl, rfl, hv1, hf1, hJ1, hT1, hC1, hz1⟩
  case round =>
    obtain ⟨pre, l, m, c, f, A, hf, hm, rfl, rfl, hlm, hlv, hfar, hJp, hT, hCx, hz⟩ := hrel
    clear hJ1 hC1 hT1 hf1 hz1 hv1
    obtain ⟨wo, rfl⟩ : ∃ wo : World, wo = wr := ⟨_, rfl⟩
    gi_wp2
    gi_loopw [5, 6, 7] (fun q5 q6 q7 wr => ∃ v q : Nat, f ≤ v ∧ v ≤ U ∧ q5 = .slice A m c ∧ q6 = .int .i64 (f : Int) ∧ q7 = .int .i64 (v : Int) ∧ wr = wo.drewN q ∧ Hid (M.cont us.length (folI us ps) xs.length l f = M.cont us.length (folI us ps) xs.length l v)) (fun _ _ q7 _ => U - (intOf q7).toNat)
    case atStart => exact ⟨f, 0, Nat.le_refl _, hf, rfl, rfl, rfl, rfl, Lib.hid rfl⟩
    case round =>
      obtain ⟨v, q, hfv, hvU, rfl, rfl, rfl, rfl, hcv⟩ := hrel
      have hb2 : Hid (Below wo.heap.size wo (wo.drewN q)) := below_drewN (Below.refl _ _) q
      have hCq := Lib.hid (hCx.out.be hb2.out (by have := hz.out; omega))
      have hcT := (HCt.out _ hCq.out).1
      have hcU := (HCt.out _ hCq.out).2
      by_cases hlt : v < U
      · have hvl : (v : Int) < (U : Int) := by omega
        have hDq : D ≤ (wo.drewN q).heap.size := Nat.le_trans hDW (Nat.le_trans hz.out hb2.out.size)
        have hIu := Lib.hid (hCq.out.2.2.2.more hDq)
        have hIl := Lib.hid (ints_of_own64 (own_be hT.out.1 hb2.out))
        have hIp := Lib.hid (ints_of_own64 (own_be hT.out.2.1 hb2.out))
        obtain ⟨b, hCF, hbf, hbt⟩ := canFollowB Au A Ap us ps l cu m c n cp U v (wo.drewN q) htu hcu hU hlm (Nat.le_trans hm hxl) hlv hpl hIu hIl hIp
        clear hIu hIl hIp hDq
        have HCF := Lib.hid hCF
        have Hbf := Lib.hid hbf
        have Hbt := Lib.hid hbt
        have hvx : v < us.length := by rw [hU.out]; exact hlt
        clear hCF hbf hbt
        cases b
        · have hskip : Hid (M.cont us.length (folI us ps) xs.length l f = M.cont us.length (folI us ps) xs.length l (v + 1)) := hcv.out.trans (M.cont_skip hvx (fun h => Hbf.out rfl (by rw [← hlm.out, ← hn.out]; exact h)))
          clear hcv Hbf Hbt
          gi_wp2_with (refine ⟨trivial, ?_⟩; gi_at_call 98; refine (callsIn_wide.2 HCF.out).mono ?_; rintro e w' ⟨rfl, q', rfl⟩)
          go_roundw
          case rel => exact ⟨v + 1, q + q', by omega, by omega, rfl, rfl, by go_num, rfl, hskip⟩
          case measure => simp [intOf]; omega
        · obtain ⟨hmn, hfo⟩ := Hbt.out rfl
          have hfar2 : Hid (Far us xs ps pre.length l v) := far_skip hfar.out hcv.out
          have hfo2 := Lib.hid hfo
          obtain ⟨m1, hm1⟩ : ∃ m1, Hid (m1 = m + 1) := ⟨_, rfl⟩
          have hvs2 : Hid (∀ x ∈ l ++ [v], x < us.length) := fun x hx => by
            rcases List.mem_append.1 hx with h | h
            · exact hlv.out x h
            · rw [List.mem_singleton] at h; subst h; exact hvx
          have hms : Hid (M.ms U n (l ++ [v]) (v + 1) < M.ms U n l f) := M.ms_push (by rw [hlm.out]; exact hmn) hfv hlt
          clear hcv Hbf Hbt hfo
          have hlm1 : Hid ((l ++ [v]).length = m1) := by show _ = _; rw [List.length_append, hlm.out, hm1.out]; rfl
          by_cases hmn1 : m1 = n
          · have hq : ((m1 : Int) == (n : Int)) = true := by simp [hmn1]
            have hit := Lib.hid (far_hit hfar2.out hvx (by rw [hlm.out, hn.out, ← hmn1, hm1.out]) hfo2.out)
            have Hmn := Lib.hid hmn1
            clear hmn1
            gi_wp2_with (first | (refine ⟨trivial, ?_⟩; gi_at_call 98; refine (callsIn_wide.2 HCF.out).mono ?_; rintro e w2 ⟨rfl, q', hw2⟩; have hbw : Hid (Below wo.heap.size wo w2) := (by rw [hw2]; exact below_drewN hb2.out _); clear hw2) | (gi_at_builtin; refine pushTwoIn rfl (.tmp 24) (.tmp 26) rfl w2 W.heap.size A m m1 c (.slice Ap n cp) (nums l) ps (v : Int) rfl _ rfl rfl (Lib.hid ⟨own_be hT.out.1 hbw.out, own_be hT.out.2.1 hbw.out, hT.out.2.2⟩) (Nat.le_trans hz.out hbw.out.size) (by omega) hm1.out ?_; intro A4 c4 w4 hT4 hg4; have hJ4 : J pre w4 := hJ.out _ _ _ _ (hJ.out _ _ _ none (hJ.out _ _ _ none hJp.out (grownOf hbw.out) (fun k e => by cases e)) (World.grownBy_alloc w2 _ none) (fun k e => by cases e)) hg4.out (fun k e => (hT.out.1.lt k e).1); have HJ4 := Lib.hid hJ4; have hC4 : Hid (InCtx D Bt Bu At Au xs us ct cu w4) := InCtx.grown (B := W.heap.size) ((hCx.out.be hbw.out (Nat.le_trans hDW hz.out)).be (bal (b0 w2) _) (Nat.le_trans hDW (Nat.le_trans hz.out hbw.out.size))) hg4.out (fun k e => (hT.out.1.lt k e).1) (by omega) (by omega) hDW (Nat.le_trans hDW (Nat.le_trans (Nat.le_trans hz.out hbw.out.size) (by simp))); have hcT4 := (HCt.out w4 hC4.out).1; rw [nums_snoc'] at hT4; have hz4 : Hid (W.heap.size ≤ w4.heap.size) := Nat.le_trans (Nat.le_trans hz.out hbw.out.size) (Nat.le_trans (by simp) hg4.out.size); clear hJ4; obtain ⟨g4, rfl⟩ := hT4.out.shape.2 (by have := hm1.out; omega); have hRow4 : RowI us xs B pre (.slice (some ⟨g4, 0, none⟩) m1 c4) w4 := ⟨l ++ [v], g4, c4, hit.out.1, by rw [hn.out, Hmn.out], own_mono hT4.out.1 hB⟩; obtain ⟨fn, tmps, assign, body, hy, hR⟩ := hY.out pre _ w4 HJ4.out hRow4))
            refine hR.mono ?_
            rintro e W3 (⟨rfl, hJ3, hk3⟩ | ⟨rfl, hJx3⟩)
            · have hT3 : Hid (Two W3 W.heap.size (.slice (some ⟨g4, 0, none⟩) m1 c4) (.slice Ap n cp) (nums (l ++ [v])) ps) := ⟨hk3.own hT4.out.1 (by omega), hk3.own hT4.out.2.1 (by omega), hT4.out.2.2⟩
              have hC3 : Hid (InCtx D Bt Bu At Au xs us ct cu W3) := hC4.out.keep hk3 h1 h2
              have hz3 : Hid (W.heap.size ≤ W3.heap.size) := Nat.le_trans hz4.out hk3.1
              have HJ3 := Lib.hid hJ3
              have hfar3 : Hid (Far us xs ps (pre ++ [Value.slice (some ⟨g4, 0, none⟩) m1 c4]).length (l ++ [v]) (v + 1)) := by rw [List.length_append]; exact hit.out.2
              clear hJ3 hk3 hy hcT4 hcT hcU
              gi_wp2
              go_roundw
              case rel => exact ⟨_, l ++ [v], m1, c4, v + 1, _, by omega, by have := Hmn.out; omega, rfl, by go_num, hlm1, hvs2, hfar3, HJ3, hT3, hC3, hz3⟩
              case measure =>
                rw [numsOf_own hT3.out.1, numsOf_own hT.out.1, toNats, toNats]
                simpa [intOf] using hms.out
            · gi_wp2
              rw [Exit.noGoto_ret]
              refine bodyPost_ret (results_none rfl _ _ _) rfl ?_
              exact ⟨⟨_, rfl⟩, .inr ⟨_, trivial, hJx3⟩⟩
          · have hq : ((m1 : Int) == (n : Int)) = false := by simp; omega
            have hfar3 : Hid (Far us xs ps pre.length (l ++ [v]) (v + 1)) := far_push hfar2.out hvx (by rw [hlm.out, hn.out]; have := hm1.out; omega) hfo2.out
            have hm1n : m1 ≤ n := by have := hm1.out; omega
            gi_wp2_with (first | (refine ⟨trivial, ?_⟩; gi_at_call 98; refine (callsIn_wide.2 HCF.out).mono ?_; rintro e w2 ⟨rfl, q', hw2⟩; have hbw : Hid (Below wo.heap.size wo w2) := (by rw [hw2]; exact below_drewN hb2.out _); clear hw2) | (gi_at_builtin; refine pushTwoIn rfl (.tmp 24) (.tmp 26) rfl w2 W.heap.size A m m1 c (.slice Ap n cp) (nums l) ps (v : Int) rfl _ rfl rfl (Lib.hid ⟨own_be hT.out.1 hbw.out, own_be hT.out.2.1 hbw.out, hT.out.2.2⟩) (Nat.le_trans hz.out hbw.out.size) (by omega) hm1.out ?_; intro A4 c4 w4 hT4 hg4; have hJ4 : J pre w4 := hJ.out _ _ _ _ (hJ.out _ _ _ none (hJ.out _ _ _ none hJp.out (grownOf hbw.out) (fun k e => by cases e)) (World.grownBy_alloc w2 _ none) (fun k e => by cases e)) hg4.out (fun k e => (hT.out.1.lt k e).1); have HJ4 := Lib.hid hJ4; have hC4 : Hid (InCtx D Bt Bu At Au xs us ct cu w4) := InCtx.grown (B := W.heap.size) ((hCx.out.be hbw.out (Nat.le_trans hDW hz.out)).be (bal (b0 w2) _) (Nat.le_trans hDW (Nat.le_trans hz.out hbw.out.size))) hg4.out (fun k e => (hT.out.1.lt k e).1) (by omega) (by omega) hDW (Nat.le_trans hDW (Nat.le_trans (Nat.le_trans hz.out hbw.out.size) (by simp))); have hcT4 := (HCt.out w4 hC4.out).1; rw [nums_snoc'] at hT4; have hz4 : Hid (W.heap.size ≤ w4.heap.size) := Nat.le_trans (Nat.le_trans hz.out hbw.out.size) (Nat.le_trans (by simp) hg4.out.size); clear hJ4))
            refine ⟨fun f h => (by cases h), ?_⟩
            clear hcT4 hcT hcU
            gi_wp2
            go_roundw
            case rel => exact ⟨pre, l ++ [v], m1, c4, v + 1, _, by omega, hm1n, rfl, by go_num, hlm1, hvs2, hfar3, HJ4, hT4, hC4, hz4⟩
            case measure =>
              rw [numsOf_own hT4.out.1, numsOf_own hT.out.1, toNats, toNats]
              simpa [intOf] using hms.out
      · obtain rfl : v = U := by omega
        have hvU2 : ¬ (v : Int) < (v : Int) := by omega
        have hfar2 : Hid (Far us xs ps pre.length l v) := far_skip hfar.out hcv.out
        have hJq : Hid (J pre (wo.drewN q)) := hJ.out _ _ _ none hJp.out (grownOf hb2.out) (fun k e => by cases e)
        have hTq : Hid (Two (wo.drewN q) W.heap.size (.slice A m c) (.slice Ap n cp) (nums l) ps) := ⟨own_be hT.out.1 hb2.out, own_be hT.out.2.1 hb2.out, hT.out.2.2⟩
        have hzq : Hid (W.heap.size ≤ (wo.drewN q).heap.size) := Nat.le_trans hz.out hb2.out.size
        rcases List.eq_nil_or_concat l with hl | ⟨l0, x, hl⟩
        · have hm0 : m = 0 := by rw [← hlm.out, hl]; rfl
          have hend : Hid ((insideLists us xs).length = pre.length) := by
            have := hfar2.out
            rw [hl] at this
            exact far_end this (by rw [hU.out]; exact Nat.le_refl _)
          subst hm0
          clear hl
          gi_wp2
          refine bodyPost_ret (results_none rfl _ _ _) rfl ?_
          exact ⟨⟨_, rfl⟩, .inl ⟨pre, hend.out.symm, hJq.out⟩⟩
        · rw [List.concat_eq_append] at hl
          subst hl
          obtain ⟨m0, hm0⟩ : ∃ m0, m = m0 + 1 := ⟨m - 1, by have := hlm.out; rw [List.length_append, List.length_singleton] at this; omega⟩
          have hl0 : Hid (l0.length = m0) := by have := hlm.out; rw [List.length_append, List.length_singleton] at this; show _ = _; omega
          have hxU : x < us.length := hlv.out x (by simp)
          have hxv : x < v := by rw [← hU.out]; exact hxU
          have hlv0 : Hid (∀ y ∈ l0, y < us.length) := fun y hy => hlv.out y (List.mem_append_left _ hy)
          have hfar3 : Hid (Far us xs ps pre.length l0 (x + 1)) := far_back hfar2.out (by rw [hU.out]; exact Nat.le_refl _)
          obtain ⟨g, rfl⟩ := hTq.out.shape.2 (by omega)
          have hat : (nums (l0 ++ [x]))[m0]? = some (x : Int) := by
            rw [nums_snoc, List.getElem?_append_right (by rw [nums_len, hl0.out]; exact Nat.le_refl _), nums_len, hl0.out, Nat.sub_self]; rfl
          have gx := (own64_cell hTq.out.1 hTq.out.shape.1.symm hat).1
          have gx2 : wo.cell? ⟨g, m0, none⟩ = some (.int .i64 (x : Int)) := gx
          have hcap := hTq.out.cap
          have hTn : Hid (Two (wo.drewN q) W.heap.size (.slice (some ⟨g, 0, none⟩) m0 c) (.slice Ap n cp) (nums l0) ps) := by
            have e : (nums (l0 ++ [x])).take m0 = nums l0 := by rw [nums_snoc, List.take_left' (by rw [nums_len]; exact hl0.out)]
            refine ⟨?_, hTq.out.2.1, fun b h1 h2 => hTq.out.2.2 b h1 h2⟩
            rw [← e]
            exact own64_takeI hTq.out.1 (by omega)
          have hms : Hid (M.ms v n l0 (x + 1) < M.ms v n (l0 ++ [x]) f) := M.ms_pop (by rw [hl0.out]; omega) hf
          have hq0 : ((m : Int) == 0) = false := by simp; omega
          have em : (m : Int) - 1 = (m0 : Int) := by omega
          have wx : IntKind.i64.wrap ((x : Int) + 1) = (x : Int) + 1 := IntWalk.i64_in _ (by omega)
          have hm0m : (m0 : Int) < (m : Int) := by omega
          have hm00 : (0 : Int) ≤ (m0 : Int) := by omega
          have hm0c : (m0 : Int) ≤ (c : Int) := by omega
          have hm0n : m0 ≤ n := by omega
          have Hm0 := Lib.hid hm0
          clear hat hcT hm0 hfar2 hlv
          gi_wp2
          refine wpIn_wide.2 ?_
          go_quiet (fail)
          gi_wp2
          go_roundw
          case rel => exact ⟨pre, l0, m0, c, x + 1, _, by omega, hm0n, rfl, by go_num, hl0, hlv0, hfar3, hJ.out _ _ _ none hJq.out (grownOf (below_drewN (Below.refl _ _) _)) (fun k e => by cases e), ⟨own_be hTn.out.1 (below_drewN (Below.refl _ _) _), own_be hTn.out.2.1 (below_drewN (Below.refl _ _) _), hTn.out.2.2⟩, hCq.out.be (below_drewN (Below.refl _ _) _) (by have := hzq.out; omega), hzq⟩
          case measure =>
            have e1 : numsOf _ _ = nums l0 := numsOf_own (own_be hTn.out.1 (below_drewN (Below.refl _ _) nq))
            rw [e1, numsOf_own hT.out.1, toNats, toNats]
            simpa [intOf] using hms.out
end Go.Proofs.Ytbnnlifpldgcfaa
