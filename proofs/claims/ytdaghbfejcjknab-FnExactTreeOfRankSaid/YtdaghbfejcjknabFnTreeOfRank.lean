/- TreeOfRank, the program's and the model's: the tree of a rank, or a code. -/
import Derived.Test.YtdaghbfejcjknabUnTree
import Derived.Test.YtdaghbfejcjknabTable
import Derived.Test.YtdaghbfejcjknabLists
import Derived.Test.YtdaghbfejcjknabFirst
import Derived.Test.YtdaghbfejcjknabGives
namespace Go.Proofs.Ytdaghbfejcjknab
open Go.RowKit

def F_TreeOfRank (n r : Int) : List Int × Int := if (1 ≤ n ∧ n ≤ 24) ∧ 0 ≤ r then (if r.toNat < M.L n.toNat 1 then (M.unrank n.toNat 1 r.toNat, 0) else ([], 4)) else ([], 2)
theorem F_TreeOfRank_len (n r : Int) : (F_TreeOfRank n r).1.length ≤ 1048576 := by
  rw [F_TreeOfRank]
  split
  · split
    · show (M.unrank _ _ _).length ≤ _; rw [M.unrank_len]; omega
    · simp
  · simp

set_option maxHeartbeats 4000000 in
set_option maxRecDepth 100000 in
theorem impl_TreeOfRank : GivesTreeN2 29 F_TreeOfRank := by
  intro n r w _ _ _ hr63
  obtain ⟨b, hb⟩ : ∃ b, Hid ((decide ((1 : Int) ≤ n) && decide (n ≤ 24)) = b) := ⟨_, rfl⟩
  have hmm := @run_makeMap Try.prog
  cases b
  · have hF : F_TreeOfRank n r = ([], 2) := if_neg (by have := hb.out; simp at this; omega)
    rw [hF]
    clear hF
    go_enter Try.func29, Try.ntmps29
    go_wp2_with (go_at_call 54; refine (withinAny _ _ _ _ _ hb).mono ?_; rintro e w' ⟨rfl, rfl⟩)
    refine bodyPost_ret (v := .tuple #[.agg #[.slice none 0 0], .int .i64 2]) (by simp [results, Try.results29, go_sem]) rfl ?_
    exact ⟨none, 0, rfl, own64_nil _ _, (Below.refl _ _).alloc (Nat.le_refl _) _⟩
  · have h12 := hb.out
    simp only [Bool.and_eq_true, decide_eq_true_eq] at h12
    obtain ⟨n, rfl⟩ := Int.eq_ofNat_of_zero_le (show 0 ≤ n by omega)
    by_cases hr0 : r < 0
    · have hF : F_TreeOfRank n r = ([], 2) := if_neg (by omega)
      rw [hF]
      clear hF
      go_enter Try.func29, Try.ntmps29
      go_wp2_with (go_at_call 54; refine (withinAny _ _ _ _ _ hb).mono ?_; rintro e w' ⟨rfl, rfl⟩)
      refine bodyPost_ret (v := .tuple #[.agg #[.slice none 0 0], .int .i64 2]) (by simp [results, Try.results29, go_sem]) rfl ?_
      exact ⟨none, 0, rfl, own64_nil _ _, (Below.refl _ _).alloc (Nat.le_refl _) _⟩
    · obtain ⟨r, rfl⟩ := Int.eq_ofNat_of_zero_le (show 0 ≤ r by omega)
      have hn1 : 1 ≤ n := by omega
      have hn : n ≤ 24 := by omega
      have hF : Hid (F_TreeOfRank n r = if r < M.L n 1 then (M.unrank n 1 r, 0) else ([], 4)) := if_pos ⟨h12, by omega⟩
      have hmk := run_make_row' (P := Try.prog) 22 2 (.int .i64 0) 8 Try.underlying22 info64 rfl .i64 .i64 n (by omega) (by omega)
      have hc := Lib.hid (listsAt (w.heap.size + 1) n (by omega) 1 ((w.alloc (.cells #[.slice none 0 0] 24)).alloc (.map #[] 0)) (by omega) (Lib.hid (by simpa using Memo.new M.L (w.alloc (.cells #[.slice none 0 0] 24)))))
      have hLn := M.L_24 (n := n) (t := 1) hn
      have hr1 : ¬ (r : Int) < 0 := by omega
      obtain ⟨Ln, hLe⟩ : ∃ Ln, Hid (M.L n 1 = Ln) := ⟨_, rfl⟩
      rw [hLe.out] at hF hc hLn
      by_cases hlt : r < Ln
      · have hFe : F_TreeOfRank n r = (M.unrank n 1 r, 0) := hF.out.trans (if_pos hlt)
        have hU := Lib.hid (M.un_start (n := n) (r := r) (by rw [hLe.out]; exact hlt))
        have hUl : Hid ((M.unrank n 1 r).length = n) := M.unrank_len _ _ _
        have hge : ¬ (Ln : Int) ≤ (r : Int) := by omega
        rw [hFe]
        show Calls _ _ _ _ fun e w' => ∃ A' c', e = .returned (.tuple #[.agg #[.slice A' (M.unrank n 1 r).length c'], .int .i64 0]) ∧ Own64 w' w.heap.size (.slice A' (M.unrank n 1 r).length c') (M.unrank n 1 r) ∧ _
        rw [hUl.out]
        generalize M.unrank n 1 r = U at *
        clear hFe hF h12 hr0
        go_enter Try.func29, Try.ntmps29
        go_wp2_with (go_at_call 54; refine (withinAny _ _ _ _ _ hb).mono ?_; rintro e w' ⟨rfl, rfl⟩)
        refine hc.out.mono ?_
        rintro e w2 ⟨rfl, hM, hg⟩
        have hB : Hid (Below (w.heap.size + 1) (w.alloc (.cells #[.slice none 0 0] 24)) w2) := ((Below.refl _ _).alloc (by simp) _).grown hg.out (by simp) (fun k e => by injection e with e; omega)
        have hz2 : w.heap.size + 1 < w2.heap.size := hM.out.lt
        have Hmk := Lib.hid hmk
        have hst : Hid (Own64 (w2.alloc (.cells (madeCells #[.int .i64 0] n) 2)) w2.heap.size (.slice (some ⟨w2.heap.size, 0, none⟩) n n) ([] ++ List.replicate (n - 0) 0)) := own64_made (w := w2) (B := w2.heap.size) (n := n) (Nat.le_refl _) (by unfold maxLen; omega)
        have hM2 : Hid (Memo M.L (w2.alloc (.cells (madeCells #[.int .i64 0] n) 2)) (w.heap.size + 1)) := hM.out.alloc _
        have hb2 : Hid (Below (w.heap.size + 1) (w.alloc (.cells #[.slice none 0 0] 24)) (w2.alloc (.cells (madeCells #[.int .i64 0] n) 2))) := hB.out.alloc (by omega) _
        have hsz2 : Hid (w2.heap.size < (w2.alloc (.cells (madeCells #[.int .i64 0] n) 2)).heap.size) := by show _ < _; simp
        clear hmm hc hM hg hmk
        have hmk := Hmk.out
        go_wp2
        clear hmk Hmk
        simp only [show decide (Ln ≤ r) = false from decide_eq_false (by omega)]
        go_loopw [1, 8, 9, 10, 30] (fun s1 s8 _ _ i wr => ∃ (v o q : Nat) (pre : List Int), v ≤ n ∧ i = .int .i64 (v : Int) ∧ s1 = .int .i64 (q : Int) ∧ s8 = .int .i64 (o : Int) ∧ (q : Int) ≤ (r : Int) ∧ Hid (M.UnAt n U v o q pre) ∧ Hid (Own64 wr w2.heap.size (.slice (some ⟨w2.heap.size, 0, none⟩) n n) (pre ++ List.replicate (n - v) 0)) ∧ Hid (Memo M.L wr (w.heap.size + 1)) ∧ Hid (Below (w.heap.size + 1) (w.alloc (.cells #[.slice none 0 0] 24)) wr)) (fun _ _ _ _ i _ => n - (intOf i).toNat)
        case atStart => exact ⟨0, 1, r, [], Nat.zero_le _, rfl, rfl, rfl, Int.le_refl _, hU, hst, hM2, hb2⟩
        case round =>
          obtain ⟨v, o, q, pre, hv, rfl, rfl, rfl, hqr, hu, hro, hM, hbr⟩ := hrel
          clear hst hM2 hb2 hU
          by_cases hvn : v < n
          · have hvn2 : (v : Int) < (n : Int) := by omega
            have hop := M.un_open hu.out hvn
            obtain ⟨l, hl⟩ : ∃ l, Hid (n - v - 1 = l) := ⟨_, rfl⟩
            obtain ⟨p, hp⟩ : ∃ p, Hid (o - 1 = p) := ⟨_, rfl⟩
            have hl2 : (n : Int) - 1 - (v : Int) = (l : Int) := by have := hl.out; omega
            have hp2 : (o : Int) - 1 = (p : Int) := by have := hp.out; omega
            have hpl : p ≤ l := by have := hl.out; have := hp.out; omega
            have hl23 : l ≤ 23 := by have := hl.out; omega
            have hQ : Hid (q < M.L (l + 1) (p + 1)) := by
              show _ < _
              have h3 := hu.out.2.2
              have e1 : n - v = l + 1 := by have := hl.out; omega
              have e2 : o = p + 1 := by have := hp.out; omega
              rw [e1, e2] at h3
              exact h3
            have hrow : Hid (Own64 wr w2.heap.size (.slice (some ⟨w2.heap.size, 0, none⟩) n n) (pre ++ ((0 : Nat) : Int) :: List.replicate (n - v - 1) 0)) := by
              have e : List.replicate (n - v) (0 : Int) = ((0 : Nat) : Int) :: List.replicate (n - v - 1) 0 := by
                have e1 : n - v = (n - v - 1) + 1 := by omega
                rw [e1, List.replicate_succ]; rfl
              rw [← e]; exact hro.out
            have hpre := hu.out.1
            have Hpre := Lib.hid hpre
            have hqn : (q : Int) ≤ 281474976710656 := by omega
            clear hop hro hpre
            go_wp2_with fail
            obtain ⟨wo, rfl⟩ : ∃ wo : World, wo = wr := ⟨_, rfl⟩
            go_loopw [1, 8] (fun s1 s8 wr => ∃ (d k : Nat), s1 = .int .i64 (k : Int) ∧ s8 = .int .i64 ((p : Int) + (d : Int)) ∧ d ≤ l - p ∧ Hid (M.DigAt l p q d k) ∧ Hid (Own64 wr w2.heap.size (.slice (some ⟨w2.heap.size, 0, none⟩) n n) (pre ++ (d : Int) :: List.replicate (n - v - 1) 0)) ∧ Hid (Memo M.L wr (w.heap.size + 1)) ∧ Hid (Below (w.heap.size + 1) (w.alloc (.cells #[.slice none 0 0] 24)) wr)) (fun _ s8 _ => 60 - (intOf s8).toNat)
            case atStart => exact ⟨0, q, rfl, by go_num, Nat.zero_le _, M.dig_start _ _ _, hrow, hM, hbr⟩
            case round =>
              obtain ⟨d, k, rfl, rfl, hd, hD, hro, hM, hbr⟩ := hrel
              clear hrow
              have hDs := hD.out.2
              have hkq : k ≤ q := by omega
              have hd23 : d ≤ 23 := by omega
              have hc := listsAt (w.heap.size + 1) l (by omega) (p + d) wr (by omega) hM
              rw [Int.natCast_add] at hc
              have hLl := M.L_24 (n := l) (t := p + d) (by omega)
              obtain ⟨z, hz⟩ : ∃ z, Hid (M.L l (p + d) = z) := ⟨_, rfl⟩
              rw [hz.out] at hc hLl
              have HC := Lib.hid hc
              have hlen : Hid ((pre ++ (d : Int) :: List.replicate (n - v - 1) 0).length = n) := by show _ = _; simp [Hpre.out]; omega
              clear hc hDs
              by_cases hzk : z ≤ k
              · have hD2 : Hid (M.DigAt l p q (d + 1) (k - z)) := by have := M.dig_step (by omega) hD.out (by rw [hz.out]; exact hzk); rw [hz.out] at this; exact this
                have hd2 : d + 1 ≤ l - p := M.dig_le hpl hQ.out hD2.out
                have hge : (z : Int) ≤ (k : Int) := by omega
                go_wp2_with fail
                refine HC.out.mono ?_
                rintro e w3 ⟨rfl, hM3, hg3⟩
                have hro3 : Hid (Own64 w3 w2.heap.size (.slice (some ⟨w2.heap.size, 0, none⟩) n n) (pre ++ (d : Int) :: List.replicate (n - v - 1) 0)) := hro.out.kept hg3.out (.inr (by simp [Value.ownBlock]; omega))
                have hb3 : Hid (Below (w.heap.size + 1) (w.alloc (.cells #[.slice none 0 0] 24)) w3) := hbr.out.grown hg3.out (by have := hbr.out.size; simpa using this) (fun k e => by injection e with e; omega)
                have hc := listsAt (w.heap.size + 1) l (by omega) (p + d) w3 (by omega) hM3
                rw [Int.natCast_add, hz.out] at hc
                have HC := Lib.hid hc
                clear hc hM hro hbr hM3 hg3
                go_wp2_with fail
                refine HC.out.mono ?_
                rintro e w4 ⟨rfl, hM4, hg4⟩
                have hro4 : Hid (Own64 w4 w2.heap.size (.slice (some ⟨w2.heap.size, 0, none⟩) n n) (pre ++ (d : Int) :: List.replicate (n - v - 1) 0)) := hro3.out.kept hg4.out (.inr (by simp [Value.ownBlock]; omega))
                have hb4 : Hid (Below (w.heap.size + 1) (w.alloc (.cells #[.slice none 0 0] 24)) w4) := hb3.out.grown hg4.out (by have := hb3.out.size; simpa using this) (fun k e => by injection e with e; omega)
                obtain ⟨c1, c2, _, _⟩ := own64_cell hro4.out hlen.out (k := v) (x := (d : Int)) (by have := M.at_mid pre (d : Int) (List.replicate (n - v - 1) 0); rw [Hpre.out] at this; exact this)
                have hset := own64_set hro4.out hlen.out v ((d : Int) + 1)
                have hms := M.set_mid pre (d : Int) ((d : Int) + 1) (List.replicate (n - v - 1) 0)
                rw [Hpre.out] at hms
                rw [hms] at hset
                have hset := Lib.hid hset
                have hM5 : Hid (Memo M.L (w4.setCell ⟨w2.heap.size, v, none⟩ (.int .i64 ((d : Int) + 1))) (w.heap.size + 1)) := hM4.out.kept (grown_set (World.grownBy.refl w4 (some w2.heap.size)) v _) (fun e => by injection e with e; omega)
                have hb5 : Hid (Below (w.heap.size + 1) (w.alloc (.cells #[.slice none 0 0] 24)) (w4.setCell ⟨w2.heap.size, v, none⟩ (.int .i64 ((d : Int) + 1)))) := below_setCell hb4.out (by omega) _
                clear hms hro4 hb4 hb3 hM4 hg4 hro3 hlen
                go_wp2
                go_roundw
                case rel => exact ⟨d + 1, k - z, by go_num, by go_num, hd2, hD2, hset, hM5, hb5⟩
                case measure => simp [intOf]; omega
              · have hst := Lib.hid (M.dig_stop (l := l) (p := p) (R := q) (d := d) (r := k) (by omega) hD.out (by rw [hz.out]; omega))
                have hge : ¬ (z : Int) ≤ (k : Int) := by omega
                have hu2 : Hid (M.UnAt n U (v + 1) (p + d) k (pre ++ [(d : Int)])) := by
                  have := M.un_step (d := d) (r' := k) hu.out hvn (by rw [hl.out, hp.out]; exact hst.out) (by rw [hl.out, hp.out, hz.out]; omega)
                  rw [hp.out] at this
                  exact this
                have hrow2 : Hid (Own64 wr w2.heap.size (.slice (some ⟨w2.heap.size, 0, none⟩) n n) ((pre ++ [(d : Int)]) ++ List.replicate (n - (v + 1)) 0)) := by
                  have e1 : (pre ++ [(d : Int)]) ++ List.replicate (n - (v + 1)) 0 = pre ++ (d : Int) :: List.replicate (n - v - 1) 0 := by rw [List.append_assoc]; rfl
                  rw [e1]; exact hro.out
                go_wp2_with fail
                refine HC.out.mono ?_
                rintro e w3 ⟨rfl, hM3, hg3⟩
                have hro3 : Hid (Own64 w3 w2.heap.size (.slice (some ⟨w2.heap.size, 0, none⟩) n n) ((pre ++ [(d : Int)]) ++ List.replicate (n - (v + 1)) 0)) := hrow2.out.kept hg3.out (.inr (by simp [Value.ownBlock]; omega))
                have hb3 : Hid (Below (w.heap.size + 1) (w.alloc (.cells #[.slice none 0 0] 24)) w3) := hbr.out.grown hg3.out (by have := hbr.out.size; simpa using this) (fun k e => by injection e with e; omega)
                clear hM hro hbr hg3 hrow2 HC
                go_wp2
                go_roundw
                case rel => exact ⟨v + 1, p + d, k, pre ++ [(d : Int)], by omega, by go_num, rfl, by go_num, by omega, hu2, hro3, hM3, hb3⟩
                case measure => simp [intOf]; omega
          · obtain rfl : v = n := by omega
            have hge2 : ¬ (v : Int) < (v : Int) := by omega
            have hpre := M.un_end hu.out
            subst hpre
            have cR : wr.cell? ⟨w.heap.size, 0, none⟩ = some (.slice none 0 0) := (hbr.out.cell (p := ⟨w.heap.size, 0, none⟩) (by simp)).trans (by simp)
            have fR : wr.frozen? ⟨w.heap.size, 0, none⟩ = false := (hbr.out.frozen (p := ⟨w.heap.size, 0, none⟩) (by simp)).trans (by simp)
            have hroU : Hid (Own64 wr w2.heap.size (.slice (some ⟨w2.heap.size, 0, none⟩) v v) pre) := by have := hro.out; rw [Nat.sub_self, List.replicate_zero, List.append_nil] at this; exact this
            have hbF : Hid (Below w.heap.size w wr) := (bal (b0 w) _).trans (hbr.out.mono (by omega))
            clear hM hu hro
            go_wp2
            refine bodyPost_ret (v := .tuple #[.agg #[.slice (some ⟨w2.heap.size, 0, none⟩) v v], .int .i64 0]) (by simp [results, Try.results29, go_sem, cR]) rfl ?_
            exact ⟨_, _, rfl, own_mono (own_far hroU.out (by omega) _) (by omega), below_setCell hbF.out (Nat.le_refl _) _⟩
      · have hFe : F_TreeOfRank n r = ([], 4) := hF.out.trans (if_neg hlt)
        have hge : (Ln : Int) ≤ (r : Int) := by omega
        rw [hFe]
        clear hFe hF h12 hr0
        go_enter Try.func29, Try.ntmps29
        go_wp2_with (go_at_call 54; refine (withinAny _ _ _ _ _ hb).mono ?_; rintro e w' ⟨rfl, rfl⟩)
        refine hc.out.mono ?_
        rintro e w2 ⟨rfl, hM, hg⟩
        have hB : Hid (Below (w.heap.size + 1) (w.alloc (.cells #[.slice none 0 0] 24)) w2) := ((Below.refl _ _).alloc (by simp) _).grown hg.out (by simp) (fun k e => by injection e with e; omega)
        have cR : w2.cell? ⟨w.heap.size, 0, none⟩ = some (.slice none 0 0) := (hB.out.cell (p := ⟨w.heap.size, 0, none⟩) (by simp)).trans (by simp)
        have fR : w2.frozen? ⟨w.heap.size, 0, none⟩ = false := (hB.out.frozen (p := ⟨w.heap.size, 0, none⟩) (by simp)).trans (by simp)
        have hbF : Hid (Below w.heap.size w w2) := (bal (b0 w) _).trans (hB.out.mono (by omega))
        clear hmm hc hM hg hmk
        go_wp2
        refine bodyPost_ret (v := .tuple #[.agg #[.slice none 0 0], .int .i64 4]) (by simp [results, Try.results29, go_sem, cR]) rfl ?_
        exact ⟨none, 0, rfl, own64_nil _ _, below_setCell hbF.out (Nat.le_refl _) _⟩

set_option maxHeartbeats 4000000 in
set_option maxRecDepth 100000 in
theorem spec_TreeOfRank : GivesTreeN2 28 F_TreeOfRank := by
  intro n r w _ _ _ hr63
  obtain ⟨b, hb⟩ : ∃ b, Hid ((decide ((1 : Int) ≤ n) && decide (n ≤ 24)) = b) := ⟨_, rfl⟩
  cases b
  · have hF : F_TreeOfRank n r = ([], 2) := if_neg (by have := hb.out; simp at this; omega)
    rw [hF]
    clear hF
    go_enter Try.func28, Try.ntmps28
    go_wp2_with (go_at_call 53; refine (l02Whole _ _ _ hb).mono ?_; rintro e w' ⟨rfl, rfl⟩)
    refine bodyPost_ret (v := .tuple #[.agg #[.slice none 0 0], .int .i64 2]) (by simp [results, Try.results28, go_sem]) rfl ?_
    exact ⟨none, 0, rfl, own64_nil _ _, (Below.refl _ _).alloc (Nat.le_refl _) _⟩
  · have h12 := hb.out
    simp only [Bool.and_eq_true, decide_eq_true_eq] at h12
    obtain ⟨n, rfl⟩ := Int.eq_ofNat_of_zero_le (show 0 ≤ n by omega)
    by_cases hr0 : r < 0
    · have hF : F_TreeOfRank n r = ([], 2) := if_neg (by omega)
      rw [hF]
      clear hF
      go_enter Try.func28, Try.ntmps28
      go_wp2_with (go_at_call 53; refine (l02Whole _ _ _ hb).mono ?_; rintro e w' ⟨rfl, rfl⟩)
      refine bodyPost_ret (v := .tuple #[.agg #[.slice none 0 0], .int .i64 2]) (by simp [results, Try.results28, go_sem]) rfl ?_
      exact ⟨none, 0, rfl, own64_nil _ _, (Below.refl _ _).alloc (Nat.le_refl _) _⟩
    · obtain ⟨r, rfl⟩ := Int.eq_ofNat_of_zero_le (show 0 ≤ r by omega)
      have hn1 : 1 ≤ n := by omega
      have hn : n ≤ 24 := by omega
      have hF : Hid (F_TreeOfRank n r = if r < M.L n 1 then (M.unrank n 1 r, 0) else ([], 4)) := if_pos ⟨h12, by omega⟩
      have hT := Lib.hid (l02Tree n r (w.alloc (.cells #[.slice none 0 0] 24)) hn1 hn hr63)
      rw [World.size_alloc] at hT
      have hr1 : ¬ (r : Int) < 0 := by omega
      have hUn : Hid (M.unTree n r = if r < M.L n 1 then M.unrank n 1 r else []) := rfl
      generalize M.unTree n r = U at *
      generalize M.L n 1 = Ln at *
      by_cases hlt : r < Ln
      · have hFe : F_TreeOfRank n r = (U, 0) := by rw [hF.out, if_pos hlt, hUn.out, if_pos hlt]
        rw [decide_eq_true hlt] at hT
        rw [hFe]
        clear hFe hF h12 hr0 hUn
        go_enter Try.func28, Try.ntmps28
        go_wp2_with (go_at_call 53; refine (l02Whole _ _ _ hb).mono ?_; rintro e w' ⟨rfl, rfl⟩)
        refine hT.out.mono ?_
        rintro e w2 ⟨A', c', rfl, hro, hb2⟩
        have hbx : Hid (Below (w.heap.size + 1) (w.alloc (.cells #[.slice none 0 0] 24)) w2) := hb2
        have hz2 : w.heap.size + 1 ≤ w2.heap.size := by have := hbx.out.size; simpa using this
        have hro2 : Hid (Own64 (w2.alloc (.cells #[.slice A' U.length c'] 24)) (w.heap.size + 1) (.slice A' U.length c') U) := hro.alloc _
        have cR : (w2.alloc (.cells #[.slice A' U.length c'] 24)).cell? ⟨w.heap.size, 0, none⟩ = some (.slice none 0 0) := cell_al ((hbx.out.cell (p := ⟨w.heap.size, 0, none⟩) (by simp)).trans (by simp)) _
        have fR : (w2.alloc (.cells #[.slice A' U.length c'] 24)).frozen? ⟨w.heap.size, 0, none⟩ = false := ((hbx.out.alloc hz2 _).frozen (p := ⟨w.heap.size, 0, none⟩) (by simp)).trans (by simp)
        have hbF : Hid (Below w.heap.size w (w2.alloc (.cells #[.slice A' U.length c'] 24))) := ((bal (b0 w) _).trans (hbx.out.mono (by omega))).alloc (by omega) _
        clear hT hro hb2 hbx
        go_wp2
        refine bodyPost_ret (v := .tuple #[.agg #[.slice A' U.length c'], .int .i64 0]) (by simp [results, Try.results28, go_sem, cR]) rfl ?_
        exact ⟨_, _, rfl, own_mono (own_far hro2.out (by omega) _) (by omega), below_setCell hbF.out (Nat.le_refl _) _⟩
      · have hFe : F_TreeOfRank n r = ([], 4) := by rw [hF.out, if_neg hlt]
        rw [decide_eq_false hlt] at hT
        rw [hFe]
        clear hFe hF h12 hr0 hUn
        go_enter Try.func28, Try.ntmps28
        go_wp2_with (go_at_call 53; refine (l02Whole _ _ _ hb).mono ?_; rintro e w' ⟨rfl, rfl⟩)
        refine hT.out.mono ?_
        rintro e w2 ⟨A', c', rfl, hro, hb2⟩
        have hbx : Hid (Below (w.heap.size + 1) (w.alloc (.cells #[.slice none 0 0] 24)) w2) := hb2
        have hz2 : w.heap.size + 1 ≤ w2.heap.size := by have := hbx.out.size; simpa using this
        have cR : (w2.alloc (.cells #[.slice A' U.length c'] 24)).cell? ⟨w.heap.size, 0, none⟩ = some (.slice none 0 0) := cell_al ((hbx.out.cell (p := ⟨w.heap.size, 0, none⟩) (by simp)).trans (by simp)) _
        have fR : (w2.alloc (.cells #[.slice A' U.length c'] 24)).frozen? ⟨w.heap.size, 0, none⟩ = false := ((hbx.out.alloc hz2 _).frozen (p := ⟨w.heap.size, 0, none⟩) (by simp)).trans (by simp)
        have hbF : Hid (Below w.heap.size w (w2.alloc (.cells #[.slice A' U.length c'] 24))) := ((bal (b0 w) _).trans (hbx.out.mono (by omega))).alloc (by omega) _
        clear hT hro hb2 hbx
        go_wp2
        refine bodyPost_ret (v := .tuple #[.agg #[.slice none 0 0], .int .i64 4]) (by simp [results, Try.results28, go_sem, cR]) rfl ?_
        exact ⟨none, 0, rfl, own64_nil _ _, below_setCell hbF.out (Nat.le_refl _) _⟩
end Go.Proofs.Ytdaghbfejcjknab
