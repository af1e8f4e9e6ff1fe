/- PutIn, the program's: the degrees with a node put in; the tree, or a code. -/
import Derived.Test.YtdgcjkgbglofbaaImPutIn
namespace Go.Proofs.Ytdgcjkgbglofbaa
open Go.RowKit

/-- the three parts -/
def three (xs : List Int) (E : Nat) (k : Int) : Nat → List Int
  | 0 => xs.take E
  | 1 => [k]
  | _ => xs.drop E

theorem parts_three {w : World} {b off c E c2 : Nat} {k : Int} {A2 : Option Addr} {xs : List Int} (h : Ints w w.heap.size (some ⟨b, off, none⟩) xs) (hE : E ≤ xs.length) (hA : A2 = some ⟨b, off + E, none⟩ ∨ (E = xs.length ∧ ∃ a, A2 = some a)) :
    Parts ((w.alloc (.cells #[.int .i64 k] 2)).alloc (.cells #[.slice (some ⟨b, off, none⟩) E c, .slice (some ⟨w.heap.size, 0, none⟩) 1 1, .slice A2 (xs.length - E) c2] 24)) (w.heap.size + 1) 3 (three xs E k) := by
  intro j hj
  have h1 := h.al (.cells #[.int .i64 k] 2)
  have h2 := h1.al (.cells #[.slice (some ⟨b, off, none⟩) E c, .slice (some ⟨w.heap.size, 0, none⟩) 1 1, .slice A2 (xs.length - E) c2] 24)
  match j, hj with
  | 0, _ =>
    refine ⟨some ⟨b, off, none⟩, c, ?_, ?_, fun e => by cases e⟩
    · have e : (three xs E k 0).length = E := by simp only [three, List.length_take]; omega
      rw [e]; simp [go_sem]
    · have := ints_sub h2 0 E
      simpa [three] using this
  | 1, _ =>
    refine ⟨some ⟨w.heap.size, 0, none⟩, 1, ?_, ?_, fun e => by cases e⟩
    · simp [go_sem, three]
    · have := (ints_new w #[.int .i64 k] [k] rfl).al (.cells #[.slice (some ⟨b, off, none⟩) E c, .slice (some ⟨w.heap.size, 0, none⟩) 1 1, .slice A2 (xs.length - E) c2] 24)
      exact this
  | 2, _ =>
    refine ⟨A2, c2, ?_, ?_, fun e => by rcases hA with rfl | ⟨_, a, rfl⟩ <;> cases e⟩
    · have e : (three xs E k 2).length = xs.length - E := by simp only [three, List.length_drop]
      rw [e]
      simp [go_sem]
    · rcases hA with rfl | ⟨rfl, _⟩
      · have := ints_sub h2 E (xs.length - E)
        have e : (xs.drop E).take (xs.length - E) = xs.drop E := List.take_of_length_le (by simp)
        rw [e] at this
        exact this
      · have e : three xs xs.length k 2 = [] := by simp [three]
        rw [e]
        exact Ints.nil_ _ _ _

set_option maxHeartbeats 4000000 in
set_option maxRecDepth 100000 in
theorem puttingIn_made (b off : Nat) (xs : List Int) (c v i k : Nat) (w : World) (hlen : xs.length < 24) (hcl : xs.length ≤ c) (hcu : c ≤ 9223372036854775807) (Ht : Hid (M.isTree xs = true)) (hvl : v < xs.length) (hid : i + k ≤ M.deg xs v) (h : Hid (Ints w w.heap.size (some ⟨b, off, none⟩) xs)) :
    Calls Try.prog 318 #[.agg #[.int .i64 (v : Int), .int .i64 (i : Int), .int .i64 (k : Int)], .slice (some ⟨b, off, none⟩) xs.length c] w fun e w' => ∃ A' c' n, e = .returned (.slice A' n c') ∧ Hid (Own64 w' w.heap.size (.slice A' n c') (M.putIn xs v i k)) ∧ Hid (Below w.heap.size w w') := by
  obtain ⟨d, hd, hd24⟩ := M.tree_degN Ht.out hvl
  have hdg := M.deg_at hd
  rw [hdg] at hid
  obtain ⟨hEv, hEn⟩ := M.putAt_gt Ht.out hvl (i := i)
  obtain ⟨E, hE⟩ : ∃ E, Hid (M.putAt xs v i = E) := ⟨_, rfl⟩
  rw [hE.out] at hEv hEn
  have hto : Hid (M.putIn xs v i k = (M.putL xs v i (k : Int)).set v ((d : Int) + (1 - (k : Int)))) := by show _ = _; rw [M.putIn, hdg]; congr 1; omega
  have hla : Hid ((M.putL xs v i (k : Int))[v]? = some (d : Int)) := M.putL_at hd (by rw [hE.out]; exact hEv)
  have hll : Hid ((M.putL xs v i (k : Int)).length = xs.length + 1) := M.putL_len (by rw [hE.out]; exact hEn)
  have hle : Hid (M.putL xs v i (k : Int) = M.catTo (three xs E (k : Int)) 3) := by show _ = _; rw [M.putL, hE.out]; simp [M.catTo, three]
  obtain ⟨s, hs⟩ : ∃ s, Hid (M.span 1 (xs.drop v) = s) := ⟨_, rfl⟩
  have hsl := M.end_le (xs := xs) (v := v) (by omega)
  rw [hs.out] at hsl
  obtain ⟨W, hW⟩ : ∃ W, W = w.alloc (.cells #[.int .i64 (v : Int), .int .i64 (i : Int), .int .i64 (k : Int)] 178) := ⟨_, rfl⟩
  have X1 : Hid (Box3 W w.heap.size (v : Int) (i : Int) (k : Int)) := by subst hW; exact ⟨by simp [go_sem], by simp [go_sem], by simp [go_sem]⟩
  have hBW : Hid (Below w.heap.size w W) := by subst hW; exact bal (b0 w) _
  have hI : Hid (Ints W W.heap.size (some ⟨b, off, none⟩) xs) := h.out.be hBW.out
  obtain ⟨hbB, hcv⟩ : b < W.heap.size ∧ ∀ j x, xs[j]? = some x → W.cell? ⟨b, off + j, none⟩ = some (.int .i64 x) := by
    obtain ⟨b', off', e, h1, h2⟩ := hI.out (by omega)
    injection e with e
    injection e with e1 e2
    subst e1; subst e2
    exact ⟨h1, h2⟩
  have hdc := hcv v _ hd
  have HS : Hid (∀ w', Hid (Below W.heap.size W w') → w'.cell? ⟨w.heap.size, 0, none⟩ = some (.int .i64 (v : Int)) ∧ w'.cell? ⟨w.heap.size, 1, none⟩ = some (.int .i64 (i : Int)) ∧ w'.cell? ⟨w.heap.size, 2, none⟩ = some (.int .i64 (k : Int)) ∧ w'.cell? ⟨b, off + v, none⟩ = some (.int .i64 (d : Int))) := fun w' hb => ⟨(X1.out.be hb.out).c0, (X1.out.be hb.out).c1, (X1.out.be hb.out).c2, ((bcell hb.out).1 _ _ hbB).trans hdc⟩
  have HSz : Hid (∀ w', Hid (Below W.heap.size W w') → Calls Try.prog 167 #[.slice (some ⟨b, off, none⟩) xs.length c, .int .i64 (v : Int)] w' fun e w'' => e = .returned (.int .i64 (s : Int)) ∧ Hid (Below W.heap.size W w'')) := fun w' hb =>
    (sizeAt _ xs c v s w' hs (by omega) hcl (by omega) (Lib.hid (M.tree_ok Ht.out hvl)) (hI.out.be hb.out)).mono fun e w'' ⟨he, hw⟩ => ⟨he, hw ▸ hb⟩
  have HKd : Hid (i < d → ∀ w', Hid (Below W.heap.size W w') → Calls Try.prog 177 #[.slice (some ⟨b, off, none⟩) xs.length c, .int .i64 (v : Int)] w' fun e w'' => ∃ g c', e = .returned (.slice (some ⟨g, 0, none⟩) d c') ∧ Hid (w''.cell? ⟨g, i, none⟩ = some (.int .i64 (E : Int))) ∧ Hid (Below W.heap.size W w'')) := fun hid' w' hb =>
    (childrenIn _ xs c v d w' (by omega) hcl (by omega) Ht hd (hI.out.be hb.out)).mono fun e w'' ⟨A', c', he, ho, hb2⟩ => by
      obtain ⟨g, rfl⟩ := own64_at ho (by rw [M.childs_length]; omega)
      refine ⟨g, c', he, ?_, btr hb.out hb2⟩
      have := (own64_cell ho (M.childs_length _ _ _) (M.childs_at xs v hid')).1
      rw [show M.kidAt xs v i = E by rw [← hE.out, M.putAt, hdg, if_pos hid']] at this
      exact this
  have hXl : Hid (∀ j, j < 3 → (three xs E (k : Int) j).length ≤ 24) := fun j hj => by
    match j, hj with
    | 0, _ => simp only [three, List.length_take]; omega
    | 1, _ => simp [three]
    | 2, _ => simp only [three, List.length_drop]; omega
  have hcat : Hid (∀ (A2 : Option Addr) (c2 : Nat), (A2 = some ⟨b, off + E, none⟩ ∨ (E = xs.length ∧ ∃ a, A2 = some a)) → ∀ W', Hid (Below W.heap.size W W') → Calls Try.prog 192 #[.slice (some ⟨W'.heap.size + 1, 0, none⟩) 3 3] ((W'.alloc (.cells #[.int .i64 (k : Int)] 2)).alloc (.cells #[.slice (some ⟨b, off, none⟩) E c, .slice (some ⟨W'.heap.size, 0, none⟩) 1 1, .slice A2 (xs.length - E) c2] 24)) fun e w' => ∃ A' c' n, e = .returned (.slice A' n c') ∧ Hid (Own64 w' W.heap.size (.slice A' n c') (M.putL xs v i (k : Int))) ∧ Hid (Below W.heap.size W w')) := fun A2 c2 hA2 W' hW' => by
    have hz := hW'.out.size
    have hp := parts_three (c := c) (c2 := c2) (k := (k : Int)) (hI.out.be hW'.out) hEn hA2
    refine (concat (W'.heap.size + 1) 3 (three xs E (k : Int)) _ (by omega) hXl (by simp) hp).mono ?_
    rintro e w' ⟨A', c', n, he, ho, hb⟩
    exact ⟨A', c', n, he, by rw [hle.out]; exact own_mono ho (by simp; omega), btr hW'.out ((bal (bal (b0 W') _) _).trans (hb.mono (by simp; omega)))⟩
  have K0 : Hid (Below W.heap.size W W.drew) := (b0 W).drew
  have ea : IntKind.i64.wrap ((v : Int) + (s : Int)) = (v : Int) + (s : Int) := IntWalk.i64_in _ (by omega)
  have v0 : (0 : Int) ≤ (v : Int) := by omega
  have v1 : (v : Int) < (xs.length : Int) := by omega
  have hEs : Hid (¬ i < d → (v : Int) + (s : Int) = (E : Int)) := fun hn => by have h1 := hE.out; rw [M.putAt, hdg, if_neg hn] at h1; simp only [M.fin] at h1; rw [hs.out] at h1; omega
  have HW := Lib.hid hW
  have Hla := hla
  rw [hto.out]
  clear hW h hcv hdc hd hdg hs
  go_enter Try.func318, Try.ntmps318
  go_wp2
  rw [← HW.out]
  clear HW
  go_cut [5] (fun s5 wx => s5 = .int .i64 ((v : Int) + (s : Int)) ∧ Hid (Below W.heap.size W wx))
  case first =>
    go_region_held3 (fun w' => w'.cell? ⟨w.heap.size, 0, none⟩ = some (.int .i64 (v : Int)) ∧ Hid (Below W.heap.size W w')) (first | exact ⟨(HS.out _ K0).1, K0⟩ | exact ⟨(HS.out _ (by assumption)).1, by assumption⟩) (first | (go_at_call 167; refine (HSz.out _ (by assumption)).mono ?_; rintro e wa ⟨rfl, hba⟩))
    all_goals (go_wp2_with fail)
    all_goals (go_meet)
    all_goals exact ⟨rfl, by assumption⟩
  case rest =>
    obtain ⟨rfl, hb1⟩ := hcut
    have hb1d : Hid (Below W.heap.size W wc.drew) := hb1.out.drew
    obtain ⟨bq, hbq⟩ : ∃ bq, Hid (decide (i < d) = bq) := ⟨_, rfl⟩
    go_wp2
    go_cut [5, 21] (fun s5 s21 wx => s5 = .int .i64 ((v : Int) + (s : Int)) ∧ s21 = .bool bq ∧ Hid (Below W.heap.size W wx))
    case first =>
      cases bq
      · have hid2 : ¬ (i : Int) < (d : Int) := by have := hbq.out; simp at this; omega
        go_region_held3 (fun w' => w'.cell? ⟨w.heap.size, 0, none⟩ = some (.int .i64 (v : Int)) ∧ w'.cell? ⟨w.heap.size, 1, none⟩ = some (.int .i64 (i : Int)) ∧ w'.cell? ⟨b, off + v, none⟩ = some (.int .i64 (d : Int)) ∧ wc.drew = w') (first | exact ⟨(HS.out _ hb1d).1, (HS.out _ hb1d).2.1, (HS.out _ hb1d).2.2.2, rfl⟩) (first | fail)
        go_wp2_with fail
        go_meet
        exact ⟨rfl, rfl, hb1d⟩
      · have hid2 : (i : Int) < (d : Int) := by have := hbq.out; simp at this; omega
        go_region_held3 (fun w' => w'.cell? ⟨w.heap.size, 0, none⟩ = some (.int .i64 (v : Int)) ∧ w'.cell? ⟨w.heap.size, 1, none⟩ = some (.int .i64 (i : Int)) ∧ w'.cell? ⟨b, off + v, none⟩ = some (.int .i64 (d : Int)) ∧ wc.drew = w') (first | exact ⟨(HS.out _ hb1d).1, (HS.out _ hb1d).2.1, (HS.out _ hb1d).2.2.2, rfl⟩) (first | fail)
        go_wp2_with fail
        go_meet
        exact ⟨rfl, rfl, hb1d⟩
    case rest =>
    obtain ⟨rfl, rfl, hb2⟩ := hcut
    clear hb1 hb1d
    have hb2d : Hid (Below W.heap.size W wc.drew) := hb2.out.drew
    rename_i hKK
    refine hKK _ _ ?_
    go_cut [5] (fun s5 wx => s5 = .int .i64 (E : Int) ∧ Hid (Below W.heap.size W wx))
    case first =>
      cases bq
      · have hEE := hEs.out (by have := hbq.out; simp at this; omega)
        go_wp2_with fail
        go_meet
        exact ⟨by rw [hEE], hb2⟩
      · have hid' : i < d := by have := hbq.out; simpa using this
        have hid2 : (i : Int) < (d : Int) := by omega
        have i0 : (0 : Int) ≤ (i : Int) := by omega
        have HK := Lib.hid (HKd.out hid' _ hb2d)
        obtain ⟨q0, q1, q2, q3⟩ := HS.out _ hb2d
        clear HKd hEs hid'
        go_wp2_with fail
        go_region_with (go_at_call 177; refine HK.out.mono ?_; rintro e w7 ⟨g7, c7, rfl, hc7, hb7⟩; have hc7' := hc7.out; obtain ⟨t0, t1, t2, t3⟩ := HS.out _ hb7)
        all_goals (go_wp2_with fail)
        all_goals (go_meet)
        all_goals exact ⟨rfl, by assumption⟩
    case rest =>
      clear hb2d hb2
      obtain ⟨rfl, hb2⟩ := hcut
      clear HKd hEs HSz
      have hb2d : Hid (Below W.heap.size W wc.drew) := hb2.out.drew
      have e0 : (0 : Int) ≤ (E : Int) := by omega
      have e1 : (E : Int) ≤ (c : Int) := by omega
      have e2 : (E : Int) ≤ (xs.length : Int) := by omega
      go_wp2
      go_cut [6] (fun s6 wx => ∃ (A7 : Option Addr) (c7 n7 : Nat), s6 = .slice A7 n7 c7 ∧ Hid (Own64 wx W.heap.size (.slice A7 n7 c7) (M.putL xs v i (k : Int))) ∧ Hid (Below W.heap.size W wx))
      case first =>
        rcases Nat.lt_or_ge E c with hEc | hEc
        · have hne : ¬ c = E := by omega
          have HCat := Lib.hid (hcat.out (some ⟨b, off + E, none⟩) (c - E) (.inl rfl) _ hb2d)
          clear hcat hEc
          go_region_held3 (fun w' => w'.cell? ⟨w.heap.size, 2, none⟩ = some (.int .i64 (k : Int)) ∧ Hid (Below W.heap.size W w')) (first | exact ⟨(HS.out _ hb2d).2.2.1, hb2d⟩ | exact ⟨(HS.out _ (bal hb2.out _).drew).2.2.1, (bal hb2.out _).drew⟩ | exact ⟨(HS.out _ (bal (bal hb2.out _) _).drew).2.2.1, (bal (bal hb2.out _) _).drew⟩ | exact ⟨(HS.out _ (by assumption)).2.2.1, by assumption⟩) (first | (go_at_call 192; refine HCat.out.mono ?_; rintro e w7 ⟨A7, c7, n7, rfl, ho7, hb7⟩))
          all_goals (go_wp2_with fail)
          all_goals (go_meet)
          all_goals exact ⟨_, _, _, rfl, ho7, hb7⟩
        · have hEq : c = E := by omega
          have hEl : E = xs.length := by omega
          have HCat := Lib.hid (hcat.out (some ⟨b, off, none⟩) 0 (.inr ⟨hEl, _, rfl⟩) _ hb2d)
          subst hEq
          have Hzl := Lib.hid hEl
          clear hcat hEc hcl hEl e1
          go_region_held3 (fun w' => w'.cell? ⟨w.heap.size, 2, none⟩ = some (.int .i64 (k : Int)) ∧ Hid (Below W.heap.size W w')) (first | exact ⟨(HS.out _ hb2d).2.2.1, hb2d⟩ | exact ⟨(HS.out _ (bal hb2.out _).drew).2.2.1, (bal hb2.out _).drew⟩ | exact ⟨(HS.out _ (bal (bal hb2.out _) _).drew).2.2.1, (bal (bal hb2.out _) _).drew⟩ | exact ⟨(HS.out _ (by assumption)).2.2.1, by assumption⟩) (first | (go_at_call 192; refine HCat.out.mono ?_; rintro e w7 ⟨A7, c7, n7, rfl, ho7, hb7⟩))
          all_goals (go_wp2_with fail)
          all_goals (go_meet)
          all_goals exact ⟨_, _, _, rfl, ho7, hb7⟩
      case rest =>
        clear hb2d hb2
        obtain ⟨A7, c7, n7, rfl, ho7, hb7⟩ := hcut
        have hnl := Lib.hid (own64_len ho7.out)
        obtain ⟨g7, rfl⟩ := own64_at ho7.out (by rw [hll.out]; omega)
        have hbd : Hid (Below W.heap.size W wc.drew) := hb7.out.drew
        obtain ⟨q0, q1, q2, q3⟩ := HS.out _ hbd
        obtain ⟨d1, d2, d3, d4⟩ := own64_cell ho7.out hnl.out.symm hla.out
        have d1' : wc.drew.cell? ⟨g7, v, none⟩ = some (.int .i64 (d : Int)) := d1
        have d2' : wc.drew.frozen? ⟨g7, v, none⟩ = false := d2
        have hp7 : (v : Int) < (n7 : Int) := by have := hnl.out; have := hll.out; omega
        have hset := Lib.hid (own64_set (show Own64 wc.drew W.heap.size _ _ from ho7.out) hnl.out.symm v ((d : Int) + (1 - (k : Int))))
        have ew1 : IntKind.i64.wrap (1 - (k : Int)) = 1 - (k : Int) := IntWalk.i64_in _ (by omega)
        have ew2 : IntKind.i64.wrap ((d : Int) + (1 - (k : Int))) = (d : Int) + (1 - (k : Int)) := IntWalk.i64_in _ (by omega)
        have hBf := Lib.hid (below_setCell hbd.out d3 (g := g7) (k := v) (.int .i64 ((d : Int) + (1 - (k : Int)))))
        have hBf2 : Hid (Below w.heap.size w ((wc.drew).setCell ⟨g7, v, none⟩ (.int .i64 ((d : Int) + (1 - (k : Int)))))) := btr hBW.out hBf.out
        have hz := hBW.out.size
        clear d1 d2 ho7 hb7 hcat q1 q3 hBf
        go_wp2
        go_region
        all_goals
          go_wp2
          go_ret
          have hnl2 := hnl.out
          subst hnl2
          exact ⟨_, _, _, rfl, own_mono (base' := w.heap.size) hset.out hz, hBf2⟩

end Go.Proofs.Ytdgcjkgbglofbaa
