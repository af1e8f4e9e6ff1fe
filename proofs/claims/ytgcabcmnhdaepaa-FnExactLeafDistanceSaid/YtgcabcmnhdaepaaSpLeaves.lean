/- l07Leaves: the most nodes of two trees that stay if leaves alone are edited, the model's. -/
import Derived.Test.YtgcabcmnhdaepaaLeafSub
import Derived.Test.YtgcabcmnhdaepaaApp
import Derived.Test.YtgcabcmnhdaepaaCopy
import Derived.Test.YtgcabcmnhdaepaaKids
import Derived.Test.YtgcabcmnhdaepaaTree
import Derived.Test.YtgcabcmnhdaepaaForestOf
import Derived.Deep.RegionHeld3
import Derived.Deep.RegionLaw
namespace Go.Proofs.Ytgcabcmnhdaepaa
open Go.RowKit
namespace Leaf

/-- what l07Leaves must do at first trees of at most N nodes -/
def LeavesAt (N : Nat) : Prop := ∀ (A A2 : Option Addr) (xs ys : List Int) (n m c c2 r : Nat) (w : World), n ≤ N → Hid (M.isTree xs = true) → Hid (M.isTree ys = true) → Hid (xs.length = n) → Hid (ys.length = m) → n ≤ c → m ≤ c2 →
  Hid (Ints w w.heap.size A xs) → Hid (Ints w w.heap.size A2 ys) → Hid (M.lv xs ys = r) →
  Calls Try.prog 112 #[.agg #[.slice A n c], .agg #[.slice A2 m c2]] w fun e w' => e = .returned (.int .i64 (r : Int)) ∧ Hid (Below w.heap.size w w')

theorem one64 {w : World} {B : Nat} (hB : B ≤ w.heap.size) (x : Int) : Own64 (w.alloc (.cells #[.int .i64 x] 2)) B (.slice (some ⟨w.heap.size, 0, none⟩) 1 1) [x] := by
  exact ⟨by simp, .inr ⟨w.heap.size, 1, #[.int .i64 x], rfl, hB, heap_alloc_new w _, by simp, by simp [maxLen], by simp, by simp⟩⟩

/-- a tree's part as a list of its own -/
theorem partAt (A : Option Addr) (xs : List Int) (n c K S : Nat) (w : World) (ht : Hid (M.isTree xs = true)) (hn : Hid (xs.length = n)) (hc : n ≤ c) (hK : K < n) (hS : Hid ((M.sub xs K).length = S)) (h : Hid (Ints w w.heap.size A xs)) :
    Calls Try.prog 146 #[.agg #[.slice A n c], .int .i64 (K : Int)] w fun e w' => ∃ A' c', e = .returned (.agg #[.slice A' S c']) ∧ Hid (Ints w' w'.heap.size A' (M.sub xs K)) ∧ S ≤ c' ∧ Hid (Below w.heap.size w w') := by
  have hl := M.tree_len ht.out
  have hsub : Hid (K + M.span 1 (xs.drop K) = K + S) := by show _ = _; rw [← hS.out, M.sub_length]
  have := l01Subtree A xs c K (K + S) w hl.2 (by rw [hn.out]; exact hc) ht (by rw [hn.out]; exact hK) hsub h.out
  rw [Nat.add_sub_cancel_left, hn.out] at this
  refine this.mono ?_
  rintro e w' ⟨A', c', he, ho, hb⟩
  refine ⟨A', c', he, ints_of_own64 ho, ?_, hb⟩
  rcases ho.2 with ⟨e, _⟩ | ⟨g, cap, cur, hv, _, _, h4, _⟩
  · injection e with e1 e2 e3; omega
  · injection hv with e1 e2 e3; rw [hS.out] at *; omega

set_option maxHeartbeats 4000000 in
set_option maxRecDepth 100000 in
theorem leavesAt : ∀ N, LeavesAt N := by
  intro N
  induction N with
  | zero =>
    intro A A2 xs ys n m c c2 r w hN ht hu hn hm hc hc2 h h2 hr
    have := M.tree_len ht.out
    rw [hn.out] at this
    omega
  | succ N ih0 =>
    intro A A2 xs ys n m c c2 r w hN ht hu hn hm hc hc2 h h2 hr
    have ih := Lib.hid ih0
    clear ih0
    have hl1 := M.tree_len ht.out
    have hl2 := M.tree_len hu.out
    obtain ⟨d, hd, hd24⟩ := M.tree_degN ht.out (v := 0) (by omega)
    obtain ⟨e, he, he24⟩ := M.tree_degN hu.out (v := 0) (by omega)
    have Hd := Lib.hid hd
    have He := Lib.hid he
    clear hd he
    have hrow : Hid (r = 1 + M.lvRow xs ys d e) := by show _ = _; rw [← hr.out]; exact M.lv_rows ht.out hu.out Hd.out He.out
    have hrl : r ≤ 24 := by have := M.lv_le xs ys; rw [hr.out] at this; omega
    obtain ⟨E1, hE1⟩ : ∃ E1, e + 1 = E1 := ⟨_, rfl⟩
    obtain ⟨W, hW⟩ : ∃ W, W = (w.alloc (.cells #[.slice A n c] 44)).alloc (.cells #[.slice A2 m c2] 44) := ⟨_, rfl⟩
    have C1 : Hid (W.cell? ⟨w.heap.size, 0, none⟩ = some (.slice A n c)) := by subst hW; exact cell_al (by simp) _
    have C2 : Hid (W.cell? ⟨w.heap.size + 1, 0, none⟩ = some (.slice A2 m c2)) := by subst hW; exact World.cell?_alloc_at _ _ _ _ (by simp)
    have i1 : Hid (Ints W W.heap.size A xs) := by subst hW; exact (h.out.al _).al _
    have i2 : Hid (Ints W W.heap.size A2 ys) := by subst hW; exact (h2.out.al _).al _
    have hBW : Hid (Below w.heap.size w W) := by subst hW; exact bal (bal (b0 w) _) _
    have HC1 : Hid (∀ w', Hid (Below W.heap.size W w') → Calls Try.prog 131 #[.agg #[.slice A n c], .int .i64 0] w' fun e w'' => ∃ A' c', e = .returned (.slice A' d c') ∧ Hid (Own64 w'' W.heap.size (.slice A' d c') (M.childs xs 0 d)) ∧ Hid (Below w'.heap.size w' w'') ∧ Hid (Below W.heap.size W w'')) := fun w' hb => by
      have := l01Children A xs c 0 d w' hl1.2 ht Hd (i1.out.be hb.out)
      rw [hn.out, show ((0 : Nat) : Int) = 0 from rfl] at this
      exact this.mono fun e w'' ⟨A', c', e1, e2, e3⟩ => ⟨A', c', e1, own_mono e2 hb.out.size, e3, btr hb.out e3⟩
    have HC2 : Hid (∀ w', Hid (Below W.heap.size W w') → Calls Try.prog 131 #[.agg #[.slice A2 m c2], .int .i64 0] w' fun e' w'' => ∃ A' c', e' = .returned (.slice A' e c') ∧ Hid (Own64 w'' W.heap.size (.slice A' e c') (M.childs ys 0 e)) ∧ Hid (Below w'.heap.size w' w'') ∧ Hid (Below W.heap.size W w'')) := fun w' hb => by
      have := l01Children A2 ys c2 0 e w' hl2.2 hu He (i2.out.be hb.out)
      rw [hm.out, show ((0 : Nat) : Int) = 0 from rfl] at this
      exact this.mono fun e w'' ⟨A', c', e1, e2, e3⟩ => ⟨A', c', e1, own_mono e2 hb.out.size, e3, btr hb.out e3⟩
    have HS : Hid (∀ w', Hid (Below W.heap.size W w') → w'.cell? ⟨w.heap.size, 0, none⟩ = some (.slice A n c) ∧ w'.cell? ⟨w.heap.size + 1, 0, none⟩ = some (.slice A2 m c2)) := fun w' hb => ⟨cell_be C1.out hb.out, cell_be C2.out hb.out⟩
    have K0 : Hid (Below W.heap.size W W.drew) := (Below.refl _ _).drew
    obtain ⟨k1, k2⟩ := HS.out _ K0
    have hmk := run_make_row' (P := Try.prog) 23 2 (.int .i64 0) 8 Try.underlying23 info64 rfl .i64 .i64 E1 (by omega) (by omega)
    have he1 : (e : Int) + 1 = (E1 : Int) := by omega
    have HW := Lib.hid hW
    have HE1 := Lib.hid hE1
    have HL12 := Lib.hid (And.intro hl1 hl2)
    clear hW h h2 hr hE1 hl1 hl2
    go_enter Try.func112, Try.ntmps112
    go_wp2
    rw [← HW.out]
    clear HW
    go_region_held3 (fun w' => w'.cell? ⟨w.heap.size, 0, none⟩ = some (.slice A n c) ∧ w'.cell? ⟨w.heap.size + 1, 0, none⟩ = some (.slice A2 m c2) ∧ Hid (Below W.heap.size W w')) (first | exact ⟨k1, k2, K0⟩ | exact ⟨(HS.out _ (by assumption)).1, (HS.out _ (by assumption)).2, by assumption⟩) (first | (go_at_call_of 131 c; refine (HC1.out _ (by assumption)).mono ?_; rintro e wa ⟨A1, c1, rfl, hO1, hg1, hB1⟩) | (go_at_call_of 131 c2; refine (HC2.out _ (by assumption)).mono ?_; rintro e wb ⟨A3, c3, rfl, hO3, hg3, hB3⟩))
    have hO1' := Lib.hid (own_be hO1.out hg3.out)
    have hBb := Lib.hid (btr hBW.out hB3.out)
    obtain ⟨t1, t2⟩ := HS.out _ hB3
    have T1 := Lib.hid t1
    have T2 := Lib.hid t2
    have j1 := Lib.hid (i1.out.be hB3.out)
    have j2 := Lib.hid (i2.out.be hB3.out)
    clear hO1 hg1 hB1 hg3 hB3 hBW C1 C2 i1 i2 HC1 HC2 HS K0 k1 k2 t1 t2
    have h0 : Hid (Own64 (wb.alloc (.cells (madeCells #[.int .i64 0] E1) 2)) wb.heap.size (.slice (some ⟨wb.heap.size, 0, none⟩) E1 E1) (M.lvL xs ys 0 E1)) := by
      have := own64_made (w := wb) (B := wb.heap.size) (n := E1) (Nat.le_refl _) (by unfold maxLen; have := HE1.out; omega)
      show Own64 _ _ _ _
      rw [M.lvL_none]; exact this
    have hb0 : Hid (Below wb.heap.size wb (wb.alloc (.cells (madeCells #[.int .i64 0] E1) 2))) := bal (b0 wb) _
    go_wp2
    clear hmk
    go_loopw [7, 8, 9, 10, 11] (fun row i _ _ _ wr => ∃ (v : Nat) (R : Option Addr) (cR : Nat), v ≤ d ∧ i = .int .i64 (v : Int) ∧ row = .slice R E1 cR ∧ Hid (Own64 wr wb.heap.size (.slice R E1 cR) (M.lvL xs ys v E1)) ∧ Hid (Below wb.heap.size wb wr)) (fun _ i _ _ _ _ => d - (intOf i).toNat)
    case atStart => exact ⟨0, _, _, Nat.zero_le _, rfl, rfl, h0, hb0⟩
    case round =>
      obtain ⟨v, R, cR, hv, rfl, rfl, ho, hb⟩ := hrel
      clear h0 hb0
      obtain ⟨gR, rfl⟩ := own64_blk ho.out (by rw [M.lvL_len]; have := HE1.out; omega)
      by_cases hlt : v < d
      · obtain ⟨wo, rfl⟩ : ∃ wo : World, wo = wr := ⟨_, rfl⟩
        have hvd : (v : Int) < (d : Int) := by omega
        have hv0 : (0 : Int) ≤ (v : Int) := by omega
        obtain ⟨gA, rfl⟩ := own64_blk hO1'.out (by rw [M.childs_length]; omega)
        have h1 : Hid (Own64 (wo.alloc (.cells #[.int .i64 0] 2)) wo.heap.size (.slice (some ⟨wo.heap.size, 0, none⟩) 1 1) (M.lvL xs ys (v + 1) 1)) := by
          show Own64 _ _ _ _
          rw [M.lvL_one]; exact one64 (Nat.le_refl _) 0
        have hb1 : Hid (Below wo.heap.size wo (wo.alloc (.cells #[.int .i64 0] 2))) := bal (b0 wo) _
        go_wp2
        go_loopw [9, 10, 11] (fun nx k _ wr => ∃ (u l : Nat) (A' : Option Addr) (c' : Nat), u ≤ e ∧ l = u + 1 ∧ k = .int .i64 (u : Int) ∧ nx = .slice A' l c' ∧ Hid (Own64 wr wo.heap.size (.slice A' l c') (M.lvL xs ys (v + 1) l)) ∧ Hid (Below wo.heap.size wo wr)) (fun _ k _ _ => e - (intOf k).toNat)
        case atStart => exact ⟨0, 1, _, _, Nat.zero_le _, rfl, rfl, rfl, h1, hb1⟩
        case round =>
          obtain ⟨u, l, A', c', hu', hl, rfl, rfl, ho2, hb2⟩ := hrel
          clear h1 hb1
          by_cases hlu : u < e
          · have huE : u + 1 < E1 := by have := HE1.out; omega
            have hlx : Hid (l = u + 1) := hl
            have hl12 := HL12.out
            rw [hn.out, hm.out] at hl12
            have hdx := M.kid_lt ht.out Hd.out (i := v) (by omega)
            have hdy := M.kid_lt hu.out He.out (i := u) (by omega)
            have hst1 := Lib.hid (M.sub_tree ht.out hdx)
            have hst2 := Lib.hid (M.sub_tree hu.out hdy)
            have hsh1 := M.sub_short ht.out Hd.out hlt
            have hstep := Lib.hid (M.lvRow_step ht.out hu.out Hd.out He.out hlt hlu)
            obtain ⟨gB, rfl⟩ := own64_blk hO3.out (by rw [M.childs_length]; omega)
            obtain ⟨gN, rfl⟩ := own64_blk ho2.out (by rw [M.lvL_len]; omega)
            obtain ⟨f1, _, _, l1⟩ := own64_cell ho.out (M.lvL_len _ _ _ _) (M.lvL_at xs ys v (show u < E1 by omega))
            obtain ⟨f2, _, _, _⟩ := own64_cell ho.out (M.lvL_len _ _ _ _) (M.lvL_at xs ys v (show u + 1 < E1 by omega))
            obtain ⟨f3, _, _, l3⟩ := own64_cell ho2.out (M.lvL_len _ _ _ _) (M.lvL_at xs ys (v + 1) (show u < l by omega))
            obtain ⟨f4, _, _, l4⟩ := own64_cell hO1'.out (M.childs_length _ _ _) (M.childs_at xs 0 hlt)
            obtain ⟨f5, _, _, l5⟩ := own64_cell hO3.out (M.childs_length _ _ _) (M.childs_at ys 0 hlu)
            have hbw : Hid (Below wb.heap.size wb wr) := btr hb.out hb2.out
            have I1 := Lib.hid (j1.out.be hbw.out)
            have I2 := Lib.hid (j2.out.be hbw.out)
            have hq : Hid (M.lvL xs ys (v + 1) (l + 1) = M.lvL xs ys (v + 1) l ++ [(M.lvRow xs ys (v + 1) (u + 1) : Int)]) := by show _ = _; rw [M.lvL_succ, hl]
            have hbd1 := M.lvRow_le xs ys v u
            rw [hn.out] at hsh1 hdx
            rw [hm.out] at hdy
            obtain ⟨K, hK⟩ : ∃ K, K = M.kidAt xs 0 v := ⟨_, rfl⟩
            obtain ⟨J, hJ⟩ : ∃ J, J = M.kidAt ys 0 u := ⟨_, rfl⟩
            rw [← hK] at f4 hdx hst1 hsh1 hbd1 hstep
            rw [← hJ] at f5 hdy hst2 hstep
            obtain ⟨r1, hr1⟩ : ∃ r1, Hid (M.lv (M.sub xs K) (M.sub ys J) = r1) := ⟨_, rfl⟩
            have hr1b : r1 ≤ n := by have := M.lv_le (M.sub xs K) (M.sub ys J); rw [hr1.out] at this; omega
            obtain ⟨S, hS⟩ : ∃ S, Hid ((M.sub xs K).length = S) := ⟨_, rfl⟩
            obtain ⟨Z, hZ⟩ : ∃ Z, Hid ((M.sub ys J).length = Z) := ⟨_, rfl⟩
            rw [hS.out] at hsh1
            rw [hr1.out] at hstep
            have hyI : Hid ((M.lvRow xs ys (v + 1) (u + 1)) = max (M.lvRow xs ys v u + r1) (max (M.lvRow xs ys v (u + 1)) (M.lvRow xs ys (v + 1) u))) := hstep
            generalize M.lvRow xs ys (v + 1) (u + 1) = y at *
            generalize M.lvRow xs ys v u = y0 at *
            generalize M.lvRow xs ys v (u + 1) = y1 at *
            generalize M.lvRow xs ys (v + 1) u = y2 at *
            have hmx : ∀ w' : World, (Builtin.max_ #[2, 2, 2] 2 #[.int .i64 ((y0 : Int) + (r1 : Int)), .int .i64 (y1 : Int), .int .i64 (y2 : Int)]).run Try.prog w' = .ok (.int .i64 (y : Int)) w' := fun w' => by
              have h := hyI.out
              simp only [Builtin.max_, Builtin.max2, List.foldlM_cons, List.foldlM_nil, Sem.run_bind, Sem.run_pure, Result.andThen_ok]
              congr 2
              split <;> split <;> omega
            have hw1 : IntKind.i64.wrap ((y0 : Int) + (r1 : Int)) = (y0 : Int) + (r1 : Int) := IntWalk.i64_in _ (by omega)
            have q1 : (u : Int) < (e : Int) := by omega
            have q2 : (u : Int) < (E1 : Int) := by omega
            have q3 : (u : Int) + 1 < (E1 : Int) := by omega
            have q4 : (u : Int) < (l : Int) := by omega
            have q5 : (0 : Int) ≤ (u : Int) := by omega
            have HC : Hid (∀ w', Hid (Below wr.heap.size wr w') → (w'.cell? ⟨w.heap.size, 0, none⟩ = some (.slice A n c) ∧ w'.cell? ⟨w.heap.size + 1, 0, none⟩ = some (.slice A2 m c2)) ∧ w'.cell? ⟨gR, u, none⟩ = some (.int .i64 (y0 : Int)) ∧ w'.cell? ⟨gA, v, none⟩ = some (.int .i64 (K : Int)) ∧ w'.cell? ⟨gB, u, none⟩ = some (.int .i64 (J : Int)) ∧ w'.cell? ⟨gR, u + 1, none⟩ = some (.int .i64 (y1 : Int)) ∧ w'.cell? ⟨gN, u, none⟩ = some (.int .i64 (y2 : Int))) := fun w' hw' => by
              have b1 := btr hb2.out hw'.out
              have b2 := btr hbw.out hw'.out
              exact ⟨⟨cell_be T1.out b2, cell_be T2.out b2⟩, ((bcell b1).1 _ _ l1).trans f1, ((bcell b2).1 _ _ l4).trans f4, ((bcell b2).1 _ _ l5).trans f5, ((bcell b1).1 _ _ l1).trans f2, ((bcell hw'.out).1 _ _ l3).trans f3⟩
            have HP1 : Hid (∀ w', Hid (Below wr.heap.size wr w') → Calls Try.prog 146 #[.agg #[.slice A n c], .int .i64 (K : Int)] w' fun e w'' => ∃ A' c', e = .returned (.agg #[.slice A' S c']) ∧ Hid (Ints w'' w''.heap.size A' (M.sub xs K)) ∧ S ≤ c' ∧ Hid (Below w'.heap.size w' w'') ∧ Hid (Below wr.heap.size wr w'')) := fun w' hw' =>
              (partAt A xs n c K S w' ht hn hc hdx hS (Lib.hid (I1.out.be hw'.out))).mono fun e w'' ⟨A', c', e1, e2, e3, e4⟩ => ⟨A', c', e1, e2, e3, e4, btr hw'.out e4.out⟩
            have HP2 : Hid (∀ w', Hid (Below wr.heap.size wr w') → Calls Try.prog 146 #[.agg #[.slice A2 m c2], .int .i64 (J : Int)] w' fun e w'' => ∃ A' c', e = .returned (.agg #[.slice A' Z c']) ∧ Hid (Ints w'' w''.heap.size A' (M.sub ys J)) ∧ Z ≤ c' ∧ Hid (Below w'.heap.size w' w'') ∧ Hid (Below wr.heap.size wr w'')) := fun w' hw' =>
              (partAt A2 ys m c2 J Z w' hu hm hc2 hdy hZ (Lib.hid (I2.out.be hw'.out))).mono fun e w'' ⟨A', c', e1, e2, e3, e4⟩ => ⟨A', c', e1, e2, e3, e4, btr hw'.out e4.out⟩
            have HLv : Hid (∀ (A6 A7 : Option Addr) (c6 c7 : Nat) w', S ≤ c6 → Z ≤ c7 → Hid (Ints w' w'.heap.size A6 (M.sub xs K)) → Hid (Ints w' w'.heap.size A7 (M.sub ys J)) → Hid (Below wr.heap.size wr w') → Calls Try.prog 112 #[.agg #[.slice A6 S c6], .agg #[.slice A7 Z c7]] w' fun e w'' => e = .returned (.int .i64 (r1 : Int)) ∧ Hid (Below wr.heap.size wr w'')) := fun A6 A7 c6 c7 w' h6 h7 h8 h9 hw' =>
              (ih.out A6 A7 (M.sub xs K) (M.sub ys J) S Z c6 c7 r1 w' (by omega) hst1 hst2 hS hZ h6 h7 h8 h9 hr1).mono fun e w'' ⟨e1, e2⟩ => ⟨e1, btr hw'.out e2.out⟩
            have hlm : l ≤ 1000000 := by omega
            have hw2 : IntKind.i64.wrap ((u : Int) + 1) = (u : Int) + 1 := IntWalk.i64_in _ (by omega)
            have q6 : (0 : Int) ≤ (u : Int) + 1 := by omega
            have q7 : u + 1 < E1 := huE
            have K0 : Hid (Below wr.heap.size wr wr.drew) := (Below.refl _ _).drew
            obtain ⟨⟨a1, a2⟩, a3, a4, a5, _, _⟩ := HC.out _ K0
            have hzo := hb2.out.size
            clear f1 f2 f3 f4 f5 hst1 hst2 hstep hr1 hS hZ I1 I2 hK hJ hyI hdx hdy hsh1 hl12 hbd1 hO1' hO3 ih hl
            go_wp2
            go_region_held3 (fun w' => w'.cell? ⟨w.heap.size, 0, none⟩ = some (.slice A n c) ∧ w'.cell? ⟨w.heap.size + 1, 0, none⟩ = some (.slice A2 m c2) ∧ w'.cell? ⟨gR, u, none⟩ = some (.int .i64 (y0 : Int)) ∧ w'.cell? ⟨gA, v, none⟩ = some (.int .i64 (K : Int)) ∧ w'.cell? ⟨gB, u, none⟩ = some (.int .i64 (J : Int)) ∧ Hid (Below wr.heap.size wr w')) (first | exact ⟨a1, a2, a3, a4, a5, K0⟩ | exact ⟨(HC.out _ (by assumption)).1.1, (HC.out _ (by assumption)).1.2, (HC.out _ (by assumption)).2.1, (HC.out _ (by assumption)).2.2.1, (HC.out _ (by assumption)).2.2.2.1, by assumption⟩) (first | (go_at_call_of 146 c; refine (HP1.out _ (by assumption)).mono ?_; rintro e wa ⟨A6, c6, rfl, hi6, hc6, hg6, hB6⟩) | (go_at_call_of 146 c2; refine (HP2.out _ (by assumption)).mono ?_; rintro e wq ⟨A7, c7, rfl, hi7, hc7, hg7, hB7⟩) | (go_at_call 112; refine (HLv.out _ _ _ _ _ hc6 hc7 (Lib.hid (hi6.out.be hg7.out)) hi7 (by assumption)).mono ?_; rintro e wc ⟨rfl, hBC⟩))
            clear a1 a2 a3 a4 a5 K0 HP1 HP2 HLv
            have KC : Hid (Below wr.heap.size wr wc.drew) := hBC.out.drew
            obtain ⟨_, _, _, _, a6, a7⟩ := HC.out _ KC
            have HA : Hid (∀ o, (wc.drew.alloc o).cell? ⟨gR, u + 1, none⟩ = some (.int .i64 (y1 : Int)) ∧ (wc.drew.alloc o).cell? ⟨gN, u, none⟩ = some (.int .i64 (y2 : Int)) ∧ Hid (Below wr.heap.size wr (wc.drew.alloc o)) ∧ Hid (Own64 (wc.drew.alloc o) wo.heap.size (.slice (some ⟨gN, 0, none⟩) l c') (M.lvL xs ys (v + 1) l)) ∧ wo.heap.size ≤ (wc.drew.alloc o).heap.size) := fun o => by
              have hx := HC.out _ (bal KC.out o)
              exact ⟨hx.2.2.2.2.1, hx.2.2.2.2.2, bal KC.out o, own_be ho2.out (bal KC.out o), by have := (bal KC.out o).size; omega⟩
            go_wp2
            go_region_law (refine stepInts rfl (.tmp 51) (.tmp 63) rfl _ wo.heap.size (some ⟨gN, 0, none⟩) l c' (M.lvL xs ys (v + 1) l) (some ⟨wc.heap.size, 0, none⟩) 1 1 [(y : Int)] rfl rfl (HA.out _).2.2.2.1 (Lib.hid (ints_of_own64 (one64 (w := wc.drew) (B := wc.drew.heap.size) (Nat.le_refl _) (y : Int)))) rfl (fun e => by cases e) (HA.out _).2.2.2.2 hlm (by omega) ?_; intro A8 c8 w8 ho8 hb8)
            all_goals
              go_wp2
              go_roundw
              case rel => exact ⟨u + 1, l + 1, A8, c8, by omega, by have := hlx.out; omega, by go_num, rfl, by rw [hq.out]; exact ho8, (btr hb2.out (HA.out _).2.2.1.out).trans hb8.out⟩
              case measure => simp [intOf]; omega
          · obtain rfl : u = e := by omega
            have hlE : l = E1 := by have := HE1.out; omega
            subst hlE
            have hzz := hb.out.size
            go_wp2
            go_roundw
            case rel => exact ⟨v + 1, A', c', by omega, by go_num, rfl, own_mono ho2.out hzz, btr hb.out hb2.out⟩
            case measure => simp [intOf]; omega
      · obtain rfl : v = d := by omega
        have hE1' := HE1.out
        obtain ⟨f1, _, _, _⟩ := own64_cell ho.out (M.lvL_len _ _ _ _) (M.lvL_at xs ys v (show e < E1 by omega))
        have hr' : Hid (1 + (M.lvRow xs ys v e : Int) = (r : Int)) := by show _ = _; rw [hrow.out]; omega
        generalize M.lvRow xs ys v e = y at *
        have e0 : (0 : Int) ≤ (e : Int) := by omega
        have e2 : (e : Int) < (E1 : Int) := by omega
        have e3 : IntKind.i64.wrap (1 + (y : Int)) = 1 + (y : Int) := IntWalk.i64_in _ (by have := hr'.out; omega)
        clear hrow
        go_wp2
        go_ret
        exact ⟨by rw [hr'.out]; rfl, btr hBb.out hb.out⟩
end Leaf
end Go.Proofs.Ytgcabcmnhdaepaa
