/- l09Growing and l09Code: whether a list of all nodes is a growing order, and the code, as the model says it. Written by genq.py. -/
import Derived.Test.YtbdmmeoelagdcaaOrderIn
import Derived.Test.YtbdmmeoelagdcaaStateCode
namespace Go.Proofs.Ytbdmmeoelagdcaa
open Go.RowKit

set_option maxHeartbeats 4000000 in
set_option maxRecDepth 100000 in
theorem l09Growing (A A2 : Option Addr) (xs l : List Int) (n c c2 : Nat) (w : World) (hn : Hid (xs.length = n)) (ht : Hid (M.isTree xs = true)) (ho : Hid (M.isOrd n l = true)) (h : Ints w w.heap.size A xs) (h2 : Ints w w.heap.size A2 l) (r : Bool) (hr : Hid (M.grows (M.parents xs) l = r)) :
    Calls Try.prog 153 #[.agg #[.slice A n c], .slice A2 n c2] w fun e w' => e = .returned (.bool r) ∧ Below w.heap.size w w' := by
  have hxl := M.tree_len ht.out
  rw [hn.out] at hxl
  have h24 := hxl.2
  have h1 := hxl.1
  have Hl := Lib.hid (M.isOrd_iff.1 ho.out).1
  have hmk := fun W => run_make_row' (P := Try.prog) (w := W) 134 4 (.bool false) 1 Try.underlying134 infoB rfl .i64 .i64 n (by omega) (by omega)
  have cT0 : Hid ((w.alloc (.cells #[.slice A n c] 29)).cell? ⟨w.heap.size, 0, none⟩ = some (.slice A n c)) := by simp [Hid, go_sem]
  have hB0 := Lib.hid (bal (b0 w) (.cells #[.slice A n c] 29))
  have H1 := Lib.hid (h.al (.cells #[.slice A n c] 29))
  have H2 := Lib.hid h2
  obtain ⟨W, hW⟩ : ∃ W, W = w.alloc (.cells #[.slice A n c] 29) := ⟨_, rfl⟩
  rw [← hW] at cT0 hB0 H1
  have hP : ∀ X, Hid (Below W.heap.size W X) → Calls Try.prog 154 #[.agg #[.slice A n c]] X fun e w' => ∃ A' c' ps, e = .returned (.slice A' n c') ∧ Hid (M.ParsOK xs ps) ∧ Hid (Ints w' w'.heap.size A' ps) ∧ Hid (Below W.heap.size W w') := fun X hX => by
    have := l01Parents A xs c X ht (H1.out.be hX.out)
    rw [hn.out] at this
    exact this.mono fun e w' ⟨A', c', ps, he, hk, ho, hb⟩ => ⟨A', c', ps, he, hk, ints_of_own64 ho, btr hX.out hb⟩
  have HP := Lib.hid hP
  clear h h2 hxl hP
  go_enter Try.func153, Try.ntmps153
  go_wp2_with fail
  rw [← hW]
  clear hW
  have K0 : Hid (Below W.heap.size W W.drew) := (Below.refl _ _).drew
  have u0 : W.drew.cell? ⟨w.heap.size, 0, none⟩ = some (.slice A n c) := cT0.out
  refine wp_region_held_drew (S := (fun w' => w'.cell? ⟨w.heap.size, 0, none⟩ = some (.slice A n c) ∧ Hid (Below W.heap.size W w'))) (by kernel_rfl) (by exact ⟨u0, K0⟩) (fun hHeld0 => ?_)
  refine anyTake 0 (some 9) (.agg #[.slice A n c]) rfl rfl (by kernel_rfl) (by kernel_rfl) (by kernel_rfl) (fun _ _ _ h => h) (by rfl) (by intro w hSw; (try dsimp only at hSw); go_simp) (by assumption) ?_
  try simp only [Act.put, List.setIfInBounds_toArray, List.set_cons_zero, List.set_cons_succ]
  refine anyTake 2 (some 11) (.agg #[.slice A n c]) rfl rfl (by kernel_rfl) (by kernel_rfl) (by kernel_rfl) (fun _ _ _ h => h) (by rfl) (by intro w hSw; (try dsimp only at hSw); go_simp) (by assumption) ?_
  try simp only [Act.put, List.setIfInBounds_toArray, List.set_cons_zero, List.set_cons_succ]
  refine wpAnyH_ready (rs := [1]) (by kernel_rfl) (by simp) ?_
  refine AllReadyH.cons rfl (fun K hK => ?_) AllReadyH.nil
  go_simp
  go_at_call 154
  refine (HP.out _ (by exact hHeld0.2)).mono ?_
  rintro e w3 ⟨A3, c3, ps, rfl, hok, hI3, hb3⟩
  go_wp2_with fail
  refine hK.out _ _ (by exact ⟨cell_be cT0.out (Hid.out (by assumption)), by assumption⟩) (fun hHeld => ?_)
  clear hK K
  try simp only [Act.put, List.setIfInBounds_toArray, List.set_cons_zero, List.set_cons_succ]
  clear hHeld0
  have hHeld0 := hHeld
  clear hHeld
  refine wpAnyH_ready (rs := [3]) (by kernel_rfl) (by simp) ?_
  refine AllReadyH.cons rfl (fun K hK => ?_) AllReadyH.nil
  go_simp
  go_at_call 133
  refine (l01N A n c _).mono ?_
  rintro e w4 ⟨rfl, hb4⟩
  have hb4' : Hid (Below W.heap.size W w4) := btr hb3.out hb4
  go_wp2_with fail
  refine hK.out _ _ (by exact ⟨cell_be cT0.out (Hid.out (by assumption)), by assumption⟩) (fun hHeld => ?_)
  clear hK K
  try simp only [Act.put, List.setIfInBounds_toArray, List.set_cons_zero, List.set_cons_succ]
  clear hHeld0
  have hHeld0 := hHeld
  clear hHeld
  refine anyTake 5 (some 5) (.slice A3 n c3) rfl rfl (by kernel_rfl) (by kernel_rfl) (by kernel_rfl) (fun _ _ _ h => h) (by rfl) (by intro w hSw; (try dsimp only at hSw); go_simp) (by assumption) ?_
  try simp only [Act.put, List.setIfInBounds_toArray, List.set_cons_zero, List.set_cons_succ]
  have hPz : Hid (ps[0]? = some (-1 : Int)) := hok.out.2.1
  have hmk4 := hmk w4
  refine wpAnyH_ready (rs := [4]) (by kernel_rfl) (by simp) ?_
  refine AllReadyH.cons rfl (fun K hK => ?_) AllReadyH.nil
  go_simp
  have hb5' : Hid (Below W.heap.size W (w4.alloc (.cells (madeCells #[.bool false] n) 4))) := bal hb4'.out _
  refine hK.out _ _ ⟨cell_be cT0.out (Hid.out hb5'), hb5'⟩ (fun hHeld => ?_)
  clear hK K
  try simp only [Act.put, List.setIfInBounds_toArray, List.set_cons_zero, List.set_cons_succ]
  clear hHeld0
  have hHeld0 := hHeld
  clear hHeld
  refine anyTake 6 (some 6) (.slice (some ⟨w4.heap.size, 0, none⟩) n n) rfl rfl (by kernel_rfl) (by kernel_rfl) (by kernel_rfl) (fun _ _ _ h => h) (by rfl) (by intro w hSw; (try dsimp only at hSw); go_simp) (by assumption) ?_
  try simp only [Act.put, List.setIfInBounds_toArray, List.set_cons_zero, List.set_cons_succ]
  refine wpAnyH_done (by kernel_rfl) ?_ _
  have hpar := Lib.hid (M.parents_of ht.out hok.out)
  rw [hn.out] at hpar
  have hps := Lib.hid (M.parents_eq ht.out hok.out)
  rw [hps.out] at hr
  have hpl : Hid (ps.length = n) := by show _ = _; rw [hok.out.1, hn.out]
  have HI := Lib.hid (hI3.out.be hb4)
  have hBW := Lib.hid (btr hB0.out (btr hb3.out hb4))
  have hzz : w.heap.size ≤ w4.heap.size := hBW.out.size
  have Hm := Lib.hid (ownB_made (w := w4) (B := w.heap.size) (n := n) hzz (by unfold maxLen; omega))
  rw [show List.replicate n false = M.metRow n l 0 from (M.metRow_zero n l).symm] at Hm
  have hb5 := Lib.hid (bal (b0 w4) (.cells (madeCells #[.bool false] n) 4))
  have hst : Hid (M.GrowTo ps l 0) := M.growTo_zero ps l
  clear cT0 hB0 H1 HP K0 u0 hHeld0 hb3 hb4 hI3 hok hps hmk hmk4
  go_wp2
  obtain ⟨g, hg⟩ : ∃ g, g = w4.heap.size := ⟨_, rfl⟩
  rw [← hg] at Hm ⊢
  have hgz : w4.heap.size ≤ g := Nat.le_of_eq hg.symm
  clear hg
  go_loopw [7, 8] (fun qi _ wr => ∃ (k : Nat), k ≤ n ∧ qi = .int .i64 (k : Int) ∧ Hid (M.GrowTo ps l k) ∧ Hid (OwnB wr w.heap.size (.slice (some ⟨g, 0, none⟩) n n) (M.metRow n l k)) ∧ Hid (Below w4.heap.size w4 wr)) (fun qi _ _ => n - (intOf qi).toNat)
  case atStart => exact ⟨0, Nat.zero_le _, rfl, hst, Hm, hb5⟩
  case round =>
    obtain ⟨k, hk, rfl, hT, hm, hbr⟩ := hrel
    clear hst Hm hb5
    by_cases hlt : k < n
    · have hbw := Lib.hid (btr hBW.out hbr.out)
      obtain ⟨b, off, x, rfl, hbl, g1, hX⟩ := (H2.out.below hbw.out (Nat.le_refl _)).at_ (k := k) (by rw [Hl.out]; exact hlt)
      have hx := (M.isOrd_iff.1 ho.out).2.2 x (List.mem_of_getElem? hX.out)
      obtain ⟨v, rfl⟩ := Int.eq_ofNat_of_zero_le hx.1
      have hvn : v < n := by omega
      obtain ⟨pb, po, p, rfl, hpb, g2, hPv⟩ := (HI.out.be hbr.out).at_ (k := v) (by rw [hpl.out]; exact hvn)
      have hpp : Hid (M.parOf ps (v : Int) = p) := by have := M.par_at hpar.out hvn; rw [hPv.out] at this; injection this with this; exact this.symm
      have hki : (k : Int) < (n : Int) := by omega
      have hk0 : (0 : Int) ≤ (k : Int) := by omega
      have hv0 : (0 : Int) ≤ (v : Int) := by omega
      have hvi : (v : Int) < (n : Int) := by omega
      have hp24 : -1 ≤ p ∧ p < (n : Int) := by
        rcases Nat.eq_zero_or_pos v with e | e
        · subst e
          have h0 := hpar.out.2.1
          have := hpp.out
          have h3 : M.parOf ps ((0 : Nat) : Int) = M.parOf ps 0 := rfl
          have h4 : ps[0]? = some (-1 : Int) := hPz.out
          rw [hPv.out] at h4
          injection h4 with h4
          omega
        · have := hpar.out.2.2 v e hvn
          rw [hpp.out] at this
          omega
      have hmv := M.metRow_at (l := l) (k := k) hvn
      obtain ⟨m1, m2, hgb, hgl⟩ := ownB_cell hm.out (M.metRow_len n l k) hmv
      have hms := Lib.hid (M.metRow_step (n := n) hX.out)
      have hset := Lib.hid (ownB_set hm.out (M.metRow_len n l k) v true)
      rw [hms.out] at hset
      have hbS := Lib.hid (below_setCell hbr.out hgz (k := v) (.bool true))
      clear hmv hPv hms
      by_cases hp0 : p < 0
      · have hs := Lib.hid (M.growTo_step hT.out hX.out (.inl (by rw [hpp.out]; exact hp0)))
        have hd : decide ((0 : Int) ≤ p) = false := decide_eq_false (by omega)
        have hd1 : ¬ (0 : Int) ≤ p := by omega
        clear hT hm hX hx
        go_wp2
        go_roundw
        case rel => exact ⟨k + 1, by omega, by go_num, hs, hset, hbS⟩
        case measure => simp [intOf]; omega
      · have hd : (0 : Int) ≤ p := by omega
        obtain ⟨u, rfl⟩ := Int.eq_ofNat_of_zero_le hd
        have hun : u < n := by omega
        have hui : (u : Int) < (n : Int) := by omega
        obtain ⟨q, hq⟩ : ∃ q, Hid (decide ((u : Int) ∈ l.take k) = q) := ⟨_, rfl⟩
        have hmu := M.metRow_at (l := l) (k := k) hun
        rw [hq.out] at hmu
        obtain ⟨n1, n2, _, _⟩ := ownB_cell hm.out (M.metRow_len n l k) hmu
        clear hmu hp0
        cases q
        · have hni : (u : Int) ∉ l.take k := of_decide_eq_false hq.out
          have hR : r = false := by rw [← hr.out]; exact M.grows_not hX.out (by rw [hpp.out]; exact hd) (by rw [hpp.out]; exact hni)
          subst hR
          clear hT hm hX hx hni hset hbS
          go_wp2
          go_ret
          exact ⟨rfl, hbw.out⟩
        · have hs := Lib.hid (M.growTo_step hT.out hX.out (.inr (by rw [hpp.out]; exact of_decide_eq_true hq.out)))
          clear hT hm hX hx
          go_wp2
          go_roundw
          case rel => exact ⟨k + 1, by omega, by go_num, hs, hset, hbS⟩
          case measure => simp [intOf]; omega
    · obtain rfl : k = n := by omega
      have hge : ¬ (k : Int) < (k : Int) := by omega
      have hR : r = true := by rw [← hr.out]; exact M.grows_iff.2 (by rw [Hl.out]; exact hT.out)
      subst hR
      go_wp2
      go_ret
      exact ⟨rfl, btr hBW.out hbr.out⟩
end Go.Proofs.Ytbdmmeoelagdcaa
