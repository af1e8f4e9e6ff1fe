/- l09Next: the nodes that can come next, as the model finds them. Written by genn.py. -/
import Derived.Test.YtgnhmhfianmckaaGrowingIn
import Derived.Test.YtgnhmhfianmckaaPushK
namespace Go.Proofs.Ytgnhmhfianmckaa
open Go.RowKit

set_option maxHeartbeats 8000000 in
set_option maxRecDepth 100000 in
theorem l09Next (A A2 : Option Addr) (xs b : List Int) (n c L c2 : Nat) (w : World) (hn : Hid (xs.length = n)) (ht : Hid (M.isTree xs = true)) (hbg : Hid (M.Bgn n (M.parents xs) b)) (hL : Hid (b.length = L)) (h : Ints w w.heap.size A xs) (h2 : Ints w w.heap.size A2 b) :
    Calls Try.prog 70 #[.agg #[.slice A n c], .slice A2 L c2] w fun e w' => ∃ A' m c', e = .returned (.slice A' m c') ∧ Own64 w' w.heap.size (.slice A' m c') (M.rdyTo (M.parents xs) b n) ∧ Below w.heap.size w w' := by
  have hxl := M.tree_len ht.out
  rw [hn.out] at hxl
  have h24 := hxl.2
  have h1 := hxl.1
  have hLn : L ≤ n := by rw [← hL.out]; exact M.bgn_len hbg.out
  have hmk := fun W => run_make_row' (P := Try.prog) (w := W) 92 4 (.bool false) 1 Try.underlying92 infoB rfl .i64 .i64 n (by omega) (by omega)
  have cT0 : Hid ((w.alloc (.cells #[.slice A n c] 28)).cell? ⟨w.heap.size, 0, none⟩ = some (.slice A n c)) := by simp [Hid, go_sem]
  have hB0 := Lib.hid (bal (b0 w) (.cells #[.slice A n c] 28))
  have H1 := Lib.hid (h.al (.cells #[.slice A n c] 28))
  have H2 := Lib.hid h2
  have hzW : w.heap.size < (w.alloc (.cells #[.slice A n c] 28)).heap.size := by simp
  obtain ⟨W, hW⟩ : ∃ W, W = w.alloc (.cells #[.slice A n c] 28) := ⟨_, rfl⟩
  rw [← hW] at cT0 hB0 H1 hzW
  have hP : ∀ X, Hid (Below W.heap.size W X) → Calls Try.prog 89 #[.agg #[.slice A n c]] X fun e w' => ∃ pb c' ps, e = .returned (.slice (some ⟨pb, 0, none⟩) n c') ∧ Hid (M.ParsOK xs ps) ∧ Hid (Own64 w' X.heap.size (.slice (some ⟨pb, 0, none⟩) n c') ps) ∧ X.heap.size ≤ pb ∧ pb < w'.heap.size ∧ Below X.heap.size X w' := fun X hX => by
    have := l01Parents A xs c X ht (H1.out.be hX.out)
    rw [hn.out] at this
    refine this.mono fun e w' ⟨A', c', ps, he, hk, ho, hb⟩ => ?_
    have hpl : ps.length = n := by rw [hk.out.1, hn.out]
    obtain ⟨pb, rfl⟩ : ∃ pb, A' = some ⟨pb, 0, none⟩ := by
      rcases ho.2 with ⟨q1, q2⟩ | ⟨pb, cap, cur, hv, _⟩
      · rw [hpl] at q2; omega
      · injection hv with q1; exact ⟨pb, q1⟩
    have hlt := World.ownsRow.lt ho pb rfl
    exact ⟨pb, c', ps, he, hk, ho, hlt.1, hlt.2, hb⟩
  have HP := Lib.hid hP
  clear h h2 hxl hP
  go_enter Try.func70, Try.ntmps70
  go_wp2_with fail
  rw [← hW]
  clear hW
  have B : Hid (Below W.heap.size W W.drew) := (Below.refl _ _).drew
  have u0 : W.drew.cell? ⟨w.heap.size, 0, none⟩ = some (.slice A n c) := cT0.out
  refine wp_region_held_drew (S := (fun w' => w'.cell? ⟨w.heap.size, 0, none⟩ = some (.slice A n c) ∧ Hid (Below W.heap.size W w'))) (by kernel_rfl) (by exact ⟨u0, B⟩) (fun hHeld0 => ?_)
  refine anyTake 0 (some 10) (.agg #[.slice A n c]) rfl rfl (by kernel_rfl) (by kernel_rfl) (by kernel_rfl) (fun _ _ _ h => h) (by rfl) (by intro w hSw; (try dsimp only at hSw); go_simp) (by assumption) ?_
  try simp only [Act.put, List.setIfInBounds_toArray, List.set_cons_zero, List.set_cons_succ]
  refine anyTake 2 (some 12) (.agg #[.slice A n c]) rfl rfl (by kernel_rfl) (by kernel_rfl) (by kernel_rfl) (fun _ _ _ h => h) (by rfl) (by intro w hSw; (try dsimp only at hSw); go_simp) (by assumption) ?_
  try simp only [Act.put, List.setIfInBounds_toArray, List.set_cons_zero, List.set_cons_succ]
  refine wpAnyH_ready (rs := [1, 5]) (by kernel_rfl) (by simp) ?_
  refine AllReadyH.cons rfl (fun K hK => ?_) (AllReadyH.cons rfl (fun K hK => ?_) AllReadyH.nil)
  go_simp
  go_at_call 89
  refine (HP.out _ B).mono ?_
  rintro e x1 ⟨pb, c3, ps, rfl, hok, Hp, hp1, hp2, hb⟩
  go_wp2_with fail
  replace B : Hid (Below W.heap.size W x1) := btr B.out hb
  refine hK.out _ _ (by exact ⟨cell_be cT0.out B.out, B⟩) (fun hHeld => ?_)
  clear hK K
  try simp only [Act.put, List.setIfInBounds_toArray, List.set_cons_zero, List.set_cons_succ]
  replace Hp : Hid (Own64 x1 w.heap.size (.slice (some ⟨pb, 0, none⟩) n c3) ps) := own_mono Hp.out (by have : W.drew.heap.size = W.heap.size := rfl; omega)
  have zX : W.heap.size ≤ x1.heap.size := B.out.size
  have hpX : pb < x1.heap.size := hp2
  clear hp2 hb
  clear hHeld0
  have hHeld0 := hHeld
  clear hHeld
  refine wpAnyH_ready (rs := [3, 5]) (by kernel_rfl) (by simp) ?_
  refine AllReadyH.cons rfl (fun K hK => ?_) (AllReadyH.cons rfl (fun K hK => ?_) AllReadyH.nil)
  go_simp
  go_at_call 77
  refine (l01N A n c _).mono ?_
  rintro e x2 ⟨rfl, hb⟩
  go_wp2_with fail
  replace B : Hid (Below W.heap.size W x2) := btr B.out hb
  refine hK.out _ _ (by exact ⟨cell_be cT0.out B.out, B⟩) (fun hHeld => ?_)
  clear hK K
  try simp only [Act.put, List.setIfInBounds_toArray, List.set_cons_zero, List.set_cons_succ]
  replace Hp : Hid (Own64 x2 w.heap.size (.slice (some ⟨pb, 0, none⟩) n c3) ps) := own_be Hp.out hb
  replace zX : W.heap.size ≤ x2.heap.size := B.out.size
  replace hpX : pb < x2.heap.size := by have := hb.size; omega
  clear hb
  clear hHeld0
  have hHeld0 := hHeld
  clear hHeld
  refine anyTake 6 (some 5) (.slice (some ⟨pb, 0, none⟩) n c3) rfl rfl (by kernel_rfl) (by kernel_rfl) (by kernel_rfl) (fun _ _ _ h => h) (by rfl) (by intro w hSw; (try dsimp only at hSw); go_simp) (by assumption) ?_
  try simp only [Act.put, List.setIfInBounds_toArray, List.set_cons_zero, List.set_cons_succ]
  refine wpAnyH_ready (rs := [4, 5]) (by kernel_rfl) (by simp) ?_
  refine AllReadyH.cons rfl (fun K hK => ?_) (AllReadyH.cons rfl (fun K hK => ?_) AllReadyH.nil)
  have hmkX := hmk x2
  go_simp
  have hb := bal (b0 (x2)) (.cells (madeCells #[.bool false] n) 4)
  replace B : Hid (Below W.heap.size W ((x2).alloc (.cells (madeCells #[.bool false] n) 4))) := bal B.out _
  refine hK.out _ _ (by exact ⟨cell_be cT0.out B.out, B⟩) (fun hHeld => ?_)
  clear hK K
  try simp only [Act.put, List.setIfInBounds_toArray, List.set_cons_zero, List.set_cons_succ]
  have Hm : Hid (OwnB ((x2).alloc (.cells (madeCells #[.bool false] n) 4)) w.heap.size (.slice (some ⟨(x2).heap.size, 0, none⟩) n n) (List.replicate n false)) := ownB_made (by omega) (by unfold maxLen; omega)
  clear hmkX
  replace Hp : Hid (Own64 ((x2).alloc (.cells (madeCells #[.bool false] n) 4)) w.heap.size (.slice (some ⟨pb, 0, none⟩) n c3) ps) := own_be Hp.out hb
  have hsz : ((x2).alloc (.cells (madeCells #[.bool false] n) 4)).heap.size = (x2).heap.size + 1 := by simp
  obtain ⟨g, hg⟩ : ∃ g, (x2).heap.size = g := ⟨_, rfl⟩
  rw [hg] at Hm ⊢
  have hgX : g < ((x2).alloc (.cells (madeCells #[.bool false] n) 4)).heap.size := by omega
  have hpg' : pb < g := by omega
  have hWg : W.heap.size ≤ g := by omega
  replace hpX : pb < ((x2).alloc (.cells (madeCells #[.bool false] n) 4)).heap.size := by omega
  replace zX : W.heap.size ≤ ((x2).alloc (.cells (madeCells #[.bool false] n) 4)).heap.size := B.out.size
  clear hb hsz hg
  generalize ((x2).alloc (.cells (madeCells #[.bool false] n) 4)) = x3 at *
  clear hHeld0
  have hHeld0 := hHeld
  clear hHeld
  refine anyTake 7 (some 6) (.slice (some ⟨g, 0, none⟩) n n) rfl rfl (by kernel_rfl) (by kernel_rfl) (by kernel_rfl) (fun _ _ _ h => h) (by rfl) (by intro w hSw; (try dsimp only at hSw); go_simp) (by assumption) ?_
  try simp only [Act.put, List.setIfInBounds_toArray, List.set_cons_zero, List.set_cons_succ]
  refine wpAnyH_ready (rs := [5]) (by kernel_rfl) (by simp) ?_
  refine AllReadyH.cons rfl (fun K hK => ?_) AllReadyH.nil
  go_simp
  have hb := bal (b0 (x3)) (.cells #[] 2)
  replace B : Hid (Below W.heap.size W ((x3).alloc (.cells #[] 2))) := bal B.out _
  refine hK.out _ _ (by exact ⟨cell_be cT0.out B.out, B⟩) (fun hHeld => ?_)
  clear hK K
  try simp only [Act.put, List.setIfInBounds_toArray, List.set_cons_zero, List.set_cons_succ]
  have Ho : Hid (Own64 ((x3).alloc (.cells #[] 2)) w.heap.size (.slice (some ⟨(x3).heap.size, 0, none⟩) 0 0) []) := own64_empty (by omega)
  replace Hm : Hid (OwnB ((x3).alloc (.cells #[] 2)) w.heap.size (.slice (some ⟨g, 0, none⟩) n n) (List.replicate n false)) := own_be Hm.out hb
  replace Hp : Hid (Own64 ((x3).alloc (.cells #[] 2)) w.heap.size (.slice (some ⟨pb, 0, none⟩) n c3) ps) := own_be Hp.out hb
  have hsz : ((x3).alloc (.cells #[] 2)).heap.size = (x3).heap.size + 1 := by simp
  obtain ⟨o, ho⟩ : ∃ g, (x3).heap.size = g := ⟨_, rfl⟩
  rw [ho] at Ho ⊢
  have hoX : o < ((x3).alloc (.cells #[] 2)).heap.size := by omega
  have hWo : W.heap.size ≤ o := by omega
  have hog : g < o := by omega
  replace hgX : g < ((x3).alloc (.cells #[] 2)).heap.size := by omega
  have hopb : pb < o := by omega
  replace hpX : pb < ((x3).alloc (.cells #[] 2)).heap.size := by omega
  replace zX : W.heap.size ≤ ((x3).alloc (.cells #[] 2)).heap.size := B.out.size
  clear hb hsz ho
  generalize ((x3).alloc (.cells #[] 2)) = x4 at *
  clear hHeld0
  have hHeld0 := hHeld
  clear hHeld
  refine anyTake 8 (some 7) (.slice (some ⟨o, 0, none⟩) 0 0) rfl rfl (by kernel_rfl) (by kernel_rfl) (by kernel_rfl) (fun _ _ _ h => h) (by rfl) (by intro w hSw; (try dsimp only at hSw); go_simp) (by assumption) ?_
  try simp only [Act.put, List.setIfInBounds_toArray, List.set_cons_zero, List.set_cons_succ]
  refine wpAnyH_done (by kernel_rfl) ?_ _
  obtain ⟨X, hX⟩ : ∃ X, X = x4 := ⟨_, rfl⟩
  subst hX
  clear hHeld0
  rotate_left 1
  go_simp
  have hb := bal (b0 (x2)) (.cells #[] 2)
  replace B : Hid (Below W.heap.size W ((x2).alloc (.cells #[] 2))) := bal B.out _
  refine hK.out _ _ (by exact ⟨cell_be cT0.out B.out, B⟩) (fun hHeld => ?_)
  clear hK K
  try simp only [Act.put, List.setIfInBounds_toArray, List.set_cons_zero, List.set_cons_succ]
  have Ho : Hid (Own64 ((x2).alloc (.cells #[] 2)) w.heap.size (.slice (some ⟨(x2).heap.size, 0, none⟩) 0 0) []) := own64_empty (by omega)
  replace Hp : Hid (Own64 ((x2).alloc (.cells #[] 2)) w.heap.size (.slice (some ⟨pb, 0, none⟩) n c3) ps) := own_be Hp.out hb
  have hsz : ((x2).alloc (.cells #[] 2)).heap.size = (x2).heap.size + 1 := by simp
  obtain ⟨o, ho⟩ : ∃ g, (x2).heap.size = g := ⟨_, rfl⟩
  rw [ho] at Ho ⊢
  have hoX : o < ((x2).alloc (.cells #[] 2)).heap.size := by omega
  have hWo : W.heap.size ≤ o := by omega
  have hopb : pb < o := by omega
  replace hpX : pb < ((x2).alloc (.cells #[] 2)).heap.size := by omega
  replace zX : W.heap.size ≤ ((x2).alloc (.cells #[] 2)).heap.size := B.out.size
  clear hb hsz ho
  generalize ((x2).alloc (.cells #[] 2)) = x5 at *
  clear hHeld0
  have hHeld0 := hHeld
  clear hHeld
  refine wpAnyH_ready (rs := [4]) (by kernel_rfl) (by simp) ?_
  refine AllReadyH.cons rfl (fun K hK => ?_) AllReadyH.nil
  have hmkX := hmk x5
  go_simp
  have hb := bal (b0 (x5)) (.cells (madeCells #[.bool false] n) 4)
  replace B : Hid (Below W.heap.size W ((x5).alloc (.cells (madeCells #[.bool false] n) 4))) := bal B.out _
  refine hK.out _ _ (by exact ⟨cell_be cT0.out B.out, B⟩) (fun hHeld => ?_)
  clear hK K
  try simp only [Act.put, List.setIfInBounds_toArray, List.set_cons_zero, List.set_cons_succ]
  have Hm : Hid (OwnB ((x5).alloc (.cells (madeCells #[.bool false] n) 4)) w.heap.size (.slice (some ⟨(x5).heap.size, 0, none⟩) n n) (List.replicate n false)) := ownB_made (by omega) (by unfold maxLen; omega)
  clear hmkX
  replace Ho : Hid (Own64 ((x5).alloc (.cells (madeCells #[.bool false] n) 4)) w.heap.size (.slice (some ⟨o, 0, none⟩) 0 0) []) := own_be Ho.out hb
  replace Hp : Hid (Own64 ((x5).alloc (.cells (madeCells #[.bool false] n) 4)) w.heap.size (.slice (some ⟨pb, 0, none⟩) n c3) ps) := own_be Hp.out hb
  have hsz : ((x5).alloc (.cells (madeCells #[.bool false] n) 4)).heap.size = (x5).heap.size + 1 := by simp
  obtain ⟨g, hg⟩ : ∃ g, (x5).heap.size = g := ⟨_, rfl⟩
  rw [hg] at Hm ⊢
  have hgX : g < ((x5).alloc (.cells (madeCells #[.bool false] n) 4)).heap.size := by omega
  have hpg' : pb < g := by omega
  have hWg : W.heap.size ≤ g := by omega
  have hog : o < g := by omega
  replace hoX : o < ((x5).alloc (.cells (madeCells #[.bool false] n) 4)).heap.size := by omega
  replace hpX : pb < ((x5).alloc (.cells (madeCells #[.bool false] n) 4)).heap.size := by omega
  replace zX : W.heap.size ≤ ((x5).alloc (.cells (madeCells #[.bool false] n) 4)).heap.size := B.out.size
  clear hb hsz hg
  generalize ((x5).alloc (.cells (madeCells #[.bool false] n) 4)) = x6 at *
  clear hHeld0
  have hHeld0 := hHeld
  clear hHeld
  refine anyTake 7 (some 6) (.slice (some ⟨g, 0, none⟩) n n) rfl rfl (by kernel_rfl) (by kernel_rfl) (by kernel_rfl) (fun _ _ _ h => h) (by rfl) (by intro w hSw; (try dsimp only at hSw); go_simp) (by assumption) ?_
  try simp only [Act.put, List.setIfInBounds_toArray, List.set_cons_zero, List.set_cons_succ]
  refine anyTake 8 (some 7) (.slice (some ⟨o, 0, none⟩) 0 0) rfl rfl (by kernel_rfl) (by kernel_rfl) (by kernel_rfl) (fun _ _ _ h => h) (by rfl) (by intro w hSw; (try dsimp only at hSw); go_simp) (by assumption) ?_
  try simp only [Act.put, List.setIfInBounds_toArray, List.set_cons_zero, List.set_cons_succ]
  refine wpAnyH_done (by kernel_rfl) ?_ _
  obtain ⟨X, hX⟩ : ∃ X, X = x6 := ⟨_, rfl⟩
  subst hX
  clear hHeld0
  rotate_left 1
  go_simp
  have hb := bal (b0 (x1)) (.cells #[] 2)
  replace B : Hid (Below W.heap.size W ((x1).alloc (.cells #[] 2))) := bal B.out _
  refine hK.out _ _ (by exact ⟨cell_be cT0.out B.out, B⟩) (fun hHeld => ?_)
  clear hK K
  try simp only [Act.put, List.setIfInBounds_toArray, List.set_cons_zero, List.set_cons_succ]
  have Ho : Hid (Own64 ((x1).alloc (.cells #[] 2)) w.heap.size (.slice (some ⟨(x1).heap.size, 0, none⟩) 0 0) []) := own64_empty (by omega)
  replace Hp : Hid (Own64 ((x1).alloc (.cells #[] 2)) w.heap.size (.slice (some ⟨pb, 0, none⟩) n c3) ps) := own_be Hp.out hb
  have hsz : ((x1).alloc (.cells #[] 2)).heap.size = (x1).heap.size + 1 := by simp
  obtain ⟨o, ho⟩ : ∃ g, (x1).heap.size = g := ⟨_, rfl⟩
  rw [ho] at Ho ⊢
  have hoX : o < ((x1).alloc (.cells #[] 2)).heap.size := by omega
  have hWo : W.heap.size ≤ o := by omega
  have hopb : pb < o := by omega
  replace hpX : pb < ((x1).alloc (.cells #[] 2)).heap.size := by omega
  replace zX : W.heap.size ≤ ((x1).alloc (.cells #[] 2)).heap.size := B.out.size
  clear hb hsz ho
  generalize ((x1).alloc (.cells #[] 2)) = x7 at *
  clear hHeld0
  have hHeld0 := hHeld
  clear hHeld
  refine wpAnyH_ready (rs := [3]) (by kernel_rfl) (by simp) ?_
  refine AllReadyH.cons rfl (fun K hK => ?_) AllReadyH.nil
  go_simp
  go_at_call 77
  refine (l01N A n c _).mono ?_
  rintro e x8 ⟨rfl, hb⟩
  go_wp2_with fail
  replace B : Hid (Below W.heap.size W x8) := btr B.out hb
  refine hK.out _ _ (by exact ⟨cell_be cT0.out B.out, B⟩) (fun hHeld => ?_)
  clear hK K
  try simp only [Act.put, List.setIfInBounds_toArray, List.set_cons_zero, List.set_cons_succ]
  replace Hp : Hid (Own64 x8 w.heap.size (.slice (some ⟨pb, 0, none⟩) n c3) ps) := own_be Hp.out hb
  replace Ho : Hid (Own64 x8 w.heap.size (.slice (some ⟨o, 0, none⟩) 0 0) []) := own_be Ho.out hb
  replace hoX : o < x8.heap.size := by have := hb.size; omega
  replace zX : W.heap.size ≤ x8.heap.size := B.out.size
  replace hpX : pb < x8.heap.size := by have := hb.size; omega
  clear hb
  clear hHeld0
  have hHeld0 := hHeld
  clear hHeld
  refine anyTake 6 (some 5) (.slice (some ⟨pb, 0, none⟩) n c3) rfl rfl (by kernel_rfl) (by kernel_rfl) (by kernel_rfl) (fun _ _ _ h => h) (by rfl) (by intro w hSw; (try dsimp only at hSw); go_simp) (by assumption) ?_
  try simp only [Act.put, List.setIfInBounds_toArray, List.set_cons_zero, List.set_cons_succ]
  refine wpAnyH_ready (rs := [4]) (by kernel_rfl) (by simp) ?_
  refine AllReadyH.cons rfl (fun K hK => ?_) AllReadyH.nil
  have hmkX := hmk x8
  go_simp
  have hb := bal (b0 (x8)) (.cells (madeCells #[.bool false] n) 4)
  replace B : Hid (Below W.heap.size W ((x8).alloc (.cells (madeCells #[.bool false] n) 4))) := bal B.out _
  refine hK.out _ _ (by exact ⟨cell_be cT0.out B.out, B⟩) (fun hHeld => ?_)
  clear hK K
  try simp only [Act.put, List.setIfInBounds_toArray, List.set_cons_zero, List.set_cons_succ]
  have Hm : Hid (OwnB ((x8).alloc (.cells (madeCells #[.bool false] n) 4)) w.heap.size (.slice (some ⟨(x8).heap.size, 0, none⟩) n n) (List.replicate n false)) := ownB_made (by omega) (by unfold maxLen; omega)
  clear hmkX
  replace Ho : Hid (Own64 ((x8).alloc (.cells (madeCells #[.bool false] n) 4)) w.heap.size (.slice (some ⟨o, 0, none⟩) 0 0) []) := own_be Ho.out hb
  replace Hp : Hid (Own64 ((x8).alloc (.cells (madeCells #[.bool false] n) 4)) w.heap.size (.slice (some ⟨pb, 0, none⟩) n c3) ps) := own_be Hp.out hb
  have hsz : ((x8).alloc (.cells (madeCells #[.bool false] n) 4)).heap.size = (x8).heap.size + 1 := by simp
  obtain ⟨g, hg⟩ : ∃ g, (x8).heap.size = g := ⟨_, rfl⟩
  rw [hg] at Hm ⊢
  have hgX : g < ((x8).alloc (.cells (madeCells #[.bool false] n) 4)).heap.size := by omega
  have hpg' : pb < g := by omega
  have hWg : W.heap.size ≤ g := by omega
  have hog : o < g := by omega
  replace hoX : o < ((x8).alloc (.cells (madeCells #[.bool false] n) 4)).heap.size := by omega
  replace hpX : pb < ((x8).alloc (.cells (madeCells #[.bool false] n) 4)).heap.size := by omega
  replace zX : W.heap.size ≤ ((x8).alloc (.cells (madeCells #[.bool false] n) 4)).heap.size := B.out.size
  clear hb hsz hg
  generalize ((x8).alloc (.cells (madeCells #[.bool false] n) 4)) = x9 at *
  clear hHeld0
  have hHeld0 := hHeld
  clear hHeld
  refine anyTake 7 (some 6) (.slice (some ⟨g, 0, none⟩) n n) rfl rfl (by kernel_rfl) (by kernel_rfl) (by kernel_rfl) (fun _ _ _ h => h) (by rfl) (by intro w hSw; (try dsimp only at hSw); go_simp) (by assumption) ?_
  try simp only [Act.put, List.setIfInBounds_toArray, List.set_cons_zero, List.set_cons_succ]
  refine anyTake 8 (some 7) (.slice (some ⟨o, 0, none⟩) 0 0) rfl rfl (by kernel_rfl) (by kernel_rfl) (by kernel_rfl) (fun _ _ _ h => h) (by rfl) (by intro w hSw; (try dsimp only at hSw); go_simp) (by assumption) ?_
  try simp only [Act.put, List.setIfInBounds_toArray, List.set_cons_zero, List.set_cons_succ]
  refine wpAnyH_done (by kernel_rfl) ?_ _
  obtain ⟨X, hX⟩ : ∃ X, X = x9 := ⟨_, rfl⟩
  subst hX
  clear hHeld0
  rotate_left 1
  go_simp
  have hb := bal (b0 (W.drew)) (.cells #[] 2)
  replace B : Hid (Below W.heap.size W ((W.alloc (.cells #[] 2)).drew)) := bal B.out _
  refine hK.out _ _ (by exact ⟨cell_be cT0.out B.out, B⟩) (fun hHeld => ?_)
  clear hK K
  try simp only [Act.put, List.setIfInBounds_toArray, List.set_cons_zero, List.set_cons_succ]
  have Ho : Hid (Own64 ((W.alloc (.cells #[] 2)).drew) w.heap.size (.slice (some ⟨W.heap.size, 0, none⟩) 0 0) []) := own64_empty (by have : W.drew.heap.size = W.heap.size := rfl; omega)
  have hsz : ((W.alloc (.cells #[] 2)).drew).heap.size = W.heap.size + 1 := by simp
  have hoX : W.heap.size < ((W.alloc (.cells #[] 2)).drew).heap.size := by omega
  have hWo : W.heap.size ≤ W.heap.size := by omega
  have zX : W.heap.size ≤ ((W.alloc (.cells #[] 2)).drew).heap.size := B.out.size
  clear hb hsz
  generalize ((W.alloc (.cells #[] 2)).drew) = x10 at *
  clear hHeld0
  have hHeld0 := hHeld
  clear hHeld
  refine wpAnyH_ready (rs := [1]) (by kernel_rfl) (by simp) ?_
  refine AllReadyH.cons rfl (fun K hK => ?_) AllReadyH.nil
  go_simp
  go_at_call 89
  refine (HP.out _ B).mono ?_
  rintro e x11 ⟨pb, c3, ps, rfl, hok, Hp, hp1, hp2, hb⟩
  go_wp2_with fail
  replace B : Hid (Below W.heap.size W x11) := btr B.out hb
  refine hK.out _ _ (by exact ⟨cell_be cT0.out B.out, B⟩) (fun hHeld => ?_)
  clear hK K
  try simp only [Act.put, List.setIfInBounds_toArray, List.set_cons_zero, List.set_cons_succ]
  replace Hp : Hid (Own64 x11 w.heap.size (.slice (some ⟨pb, 0, none⟩) n c3) ps) := own_mono Hp.out (by have := zX; omega)
  replace Ho : Hid (Own64 x11 w.heap.size (.slice (some ⟨W.heap.size, 0, none⟩) 0 0) []) := own_be Ho.out hb
  have hopb : W.heap.size < pb := by omega
  replace hoX : W.heap.size < x11.heap.size := by have := hb.size; omega
  have zX : W.heap.size ≤ x11.heap.size := B.out.size
  have hpX : pb < x11.heap.size := hp2
  clear hp2 hb
  clear hHeld0
  have hHeld0 := hHeld
  clear hHeld
  refine wpAnyH_ready (rs := [3]) (by kernel_rfl) (by simp) ?_
  refine AllReadyH.cons rfl (fun K hK => ?_) AllReadyH.nil
  go_simp
  go_at_call 77
  refine (l01N A n c _).mono ?_
  rintro e x12 ⟨rfl, hb⟩
  go_wp2_with fail
  replace B : Hid (Below W.heap.size W x12) := btr B.out hb
  refine hK.out _ _ (by exact ⟨cell_be cT0.out B.out, B⟩) (fun hHeld => ?_)
  clear hK K
  try simp only [Act.put, List.setIfInBounds_toArray, List.set_cons_zero, List.set_cons_succ]
  replace Hp : Hid (Own64 x12 w.heap.size (.slice (some ⟨pb, 0, none⟩) n c3) ps) := own_be Hp.out hb
  replace Ho : Hid (Own64 x12 w.heap.size (.slice (some ⟨W.heap.size, 0, none⟩) 0 0) []) := own_be Ho.out hb
  replace hoX : W.heap.size < x12.heap.size := by have := hb.size; omega
  replace zX : W.heap.size ≤ x12.heap.size := B.out.size
  replace hpX : pb < x12.heap.size := by have := hb.size; omega
  clear hb
  clear hHeld0
  have hHeld0 := hHeld
  clear hHeld
  refine anyTake 6 (some 5) (.slice (some ⟨pb, 0, none⟩) n c3) rfl rfl (by kernel_rfl) (by kernel_rfl) (by kernel_rfl) (fun _ _ _ h => h) (by rfl) (by intro w hSw; (try dsimp only at hSw); go_simp) (by assumption) ?_
  try simp only [Act.put, List.setIfInBounds_toArray, List.set_cons_zero, List.set_cons_succ]
  refine wpAnyH_ready (rs := [4]) (by kernel_rfl) (by simp) ?_
  refine AllReadyH.cons rfl (fun K hK => ?_) AllReadyH.nil
  have hmkX := hmk x12
  go_simp
  have hb := bal (b0 (x12)) (.cells (madeCells #[.bool false] n) 4)
  replace B : Hid (Below W.heap.size W ((x12).alloc (.cells (madeCells #[.bool false] n) 4))) := bal B.out _
  refine hK.out _ _ (by exact ⟨cell_be cT0.out B.out, B⟩) (fun hHeld => ?_)
  clear hK K
  try simp only [Act.put, List.setIfInBounds_toArray, List.set_cons_zero, List.set_cons_succ]
  have Hm : Hid (OwnB ((x12).alloc (.cells (madeCells #[.bool false] n) 4)) w.heap.size (.slice (some ⟨(x12).heap.size, 0, none⟩) n n) (List.replicate n false)) := ownB_made (by omega) (by unfold maxLen; omega)
  clear hmkX
  replace Ho : Hid (Own64 ((x12).alloc (.cells (madeCells #[.bool false] n) 4)) w.heap.size (.slice (some ⟨W.heap.size, 0, none⟩) 0 0) []) := own_be Ho.out hb
  replace Hp : Hid (Own64 ((x12).alloc (.cells (madeCells #[.bool false] n) 4)) w.heap.size (.slice (some ⟨pb, 0, none⟩) n c3) ps) := own_be Hp.out hb
  have hsz : ((x12).alloc (.cells (madeCells #[.bool false] n) 4)).heap.size = (x12).heap.size + 1 := by simp
  obtain ⟨g, hg⟩ : ∃ g, (x12).heap.size = g := ⟨_, rfl⟩
  rw [hg] at Hm ⊢
  have hgX : g < ((x12).alloc (.cells (madeCells #[.bool false] n) 4)).heap.size := by omega
  have hpg' : pb < g := by omega
  have hWg : W.heap.size ≤ g := by omega
  have hog : W.heap.size < g := by omega
  replace hoX : W.heap.size < ((x12).alloc (.cells (madeCells #[.bool false] n) 4)).heap.size := by omega
  replace hpX : pb < ((x12).alloc (.cells (madeCells #[.bool false] n) 4)).heap.size := by omega
  replace zX : W.heap.size ≤ ((x12).alloc (.cells (madeCells #[.bool false] n) 4)).heap.size := B.out.size
  clear hb hsz hg
  generalize ((x12).alloc (.cells (madeCells #[.bool false] n) 4)) = x13 at *
  clear hHeld0
  have hHeld0 := hHeld
  clear hHeld
  refine anyTake 7 (some 6) (.slice (some ⟨g, 0, none⟩) n n) rfl rfl (by kernel_rfl) (by kernel_rfl) (by kernel_rfl) (fun _ _ _ h => h) (by rfl) (by intro w hSw; (try dsimp only at hSw); go_simp) (by assumption) ?_
  try simp only [Act.put, List.setIfInBounds_toArray, List.set_cons_zero, List.set_cons_succ]
  refine anyTake 8 (some 7) (.slice (some ⟨W.heap.size, 0, none⟩) 0 0) rfl rfl (by kernel_rfl) (by kernel_rfl) (by kernel_rfl) (fun _ _ _ h => h) (by rfl) (by intro w hSw; (try dsimp only at hSw); go_simp) (by assumption) ?_
  try simp only [Act.put, List.setIfInBounds_toArray, List.set_cons_zero, List.set_cons_succ]
  refine wpAnyH_done (by kernel_rfl) ?_ _
  obtain ⟨X, hX⟩ : ∃ X, X = x13 := ⟨_, rfl⟩
  subst hX
  clear hHeld0
  obtain ⟨o, hoE⟩ : ∃ o, o = W.heap.size := ⟨_, rfl⟩
  rw [← hoE] at Ho hopb hog hoX ⊢
  replace hWo : W.heap.size ≤ o := by omega
  clear hoE
  rotate_left 1
  all_goals
    have hpar := Lib.hid (M.parents_of ht.out hok.out)
    rw [hn.out] at hpar
    have hps := Lib.hid (M.parents_eq ht.out hok.out)
    have hpl : Hid (ps.length = n) := by show _ = _; rw [hok.out.1, hn.out]
    rw [hps.out] at hbg
    rw [show List.replicate n false = M.metRow n b 0 from (M.metRow_zero n b).symm] at Hm
    have hBX := Lib.hid (btr hB0.out B.out)
    have hcT := Lib.hid (cell_be cT0.out B.out)
    have hgo : g ≠ o := by omega
    have hpo : pb ≠ o := by omega
    have hpg : pb ≠ g := by omega
    have hwo : w.heap.size < o := by omega
    have hwg : w.heap.size < g := by omega
    have Ho1 := Lib.hid (own_mono (base' := w.heap.size) Ho.out (by omega))
    have hzX := hBX.out.size
    clear cT0 hB0 HP u0 B hok hmk Ho
    go_wp2
    -- the first loop: which are there
    go_loopw [8] (fun qi wr => ∃ (k : Nat), k ≤ L ∧ qi = .int .i64 (k : Int) ∧ Hid (OwnB wr w.heap.size (.slice (some ⟨g, 0, none⟩) n n) (M.metRow n b k)) ∧ Hid (Own64 wr w.heap.size (.slice (some ⟨pb, 0, none⟩) n c3) ps) ∧ Hid (Own64 wr w.heap.size (.slice (some ⟨o, 0, none⟩) 0 0) []) ∧ Hid (wr.cell? ⟨w.heap.size, 0, none⟩ = some (.slice A n c)) ∧ Hid (Below w.heap.size w wr)) (fun qi _ => L - (intOf qi).toNat)
    case atStart => exact ⟨0, Nat.zero_le _, rfl, Hm, Hp, Ho1, hcT, hBX⟩
    case round =>
      obtain ⟨k, hk, rfl, hm, hp, ho, hc, hbr⟩ := hrel
      clear Hm Hp Ho1 hcT hBX
      by_cases hlt : k < L
      · obtain ⟨ob, off, x, rfl, hbl, g1, hX⟩ := (H2.out.below hbr.out (Nat.le_refl _)).at_ (k := k) (by rw [hL.out]; exact hlt)
        have hx := hbg.out.2.1 x (List.mem_of_getElem? hX.out)
        obtain ⟨v, rfl⟩ := Int.eq_ofNat_of_zero_le hx.1
        have hvn : v < n := by omega
        have hki : (k : Int) < (L : Int) := by omega
        have hk0 : (0 : Int) ≤ (k : Int) := by omega
        have hv0 : (0 : Int) ≤ (v : Int) := by omega
        have hvi : (v : Int) < (n : Int) := by omega
        have hmv := M.metRow_at (l := b) (k := k) hvn
        obtain ⟨m1, m2, _, hgl⟩ := ownB_cell hm.out (M.metRow_len n b k) hmv
        have hms := Lib.hid (M.metRow_step (n := n) hX.out)
        have hset := Lib.hid (ownB_set hm.out (M.metRow_len n b k) v true)
        rw [hms.out] at hset
        have hp2 : Hid (Own64 (wr.setCell ⟨g, v, none⟩ (.bool true)) w.heap.size (.slice (some ⟨pb, 0, none⟩) n c3) ps) := ownsRow_setCell_other hp.out (a := ⟨g, v, none⟩) (fun e => by injection e with e; exact hpg e) _
        have ho2 : Hid (Own64 (wr.setCell ⟨g, v, none⟩ (.bool true)) w.heap.size (.slice (some ⟨o, 0, none⟩) 0 0) []) := ownsRow_setCell_other ho.out (a := ⟨g, v, none⟩) (fun e => by injection e with e; exact hgo e.symm) _
        have hc2 := Lib.hid ((World.cell?_setCell_other wr (a := ⟨g, v, none⟩) (b := ⟨w.heap.size, 0, none⟩) (v := .bool true) (by intro e; injection e with e1; omega)).trans hc.out)
        have hb2 := Lib.hid (below_setCell hbr.out (Nat.le_of_lt hwg) (k := v) (.bool true))
        clear hm hp ho hc hmv hms hX
        go_wp2
        go_roundw
        case rel => exact ⟨k + 1, by omega, by go_num, hset, hp2, ho2, hc2, hb2⟩
        case measure => simp [intOf]; omega
      · obtain rfl : k = L := by omega
        have hge : ¬ (k : Int) < (k : Int) := by omega
        have hst : Hid (Own64 wr w.heap.size (.slice (some ⟨o, 0, none⟩) 0 0) (M.rdyTo ps b 0)) := ho
        have hcl : Hid (∀ q, (Value.slice (some ⟨o, 0, none⟩) 0 0).ownBlock = some q → q ≠ g ∧ q ≠ pb ∧ w.heap.size < q) := fun q hq => by injection hq with hq; have hq' : o = q := hq; omega
        have hgX : g < wr.heap.size := (ownB_cell hm.out (M.metRow_len n b k) (M.metRow_at (l := b) (k := k) h1)).2.2.2
        have hpX : pb < wr.heap.size := (World.ownsRow.lt hp.out pb rfl).2
        have Hge := Lib.hid hge
        clear ho hlt hk
        go_wp2
        go_loopw [7, 9] (fun q i ws => ∃ (j m : Nat) (A' : Option Addr) (c' : Nat), j ≤ n ∧ i = .int .i64 (j : Int) ∧ q = .slice A' m c' ∧ Hid (Own64 ws w.heap.size (.slice A' m c') (M.rdyTo ps b j)) ∧ Hid (∀ q, (Value.slice A' m c').ownBlock = some q → q ≠ g ∧ q ≠ pb ∧ w.heap.size < q) ∧ Hid (OwnB ws w.heap.size (.slice (some ⟨g, 0, none⟩) n n) (M.metRow n b k)) ∧ Hid (Own64 ws w.heap.size (.slice (some ⟨pb, 0, none⟩) n c3) ps) ∧ Hid (ws.cell? ⟨w.heap.size, 0, none⟩ = some (.slice A n c)) ∧ Hid (Below w.heap.size w ws)) (fun _ i _ => n - (intOf i).toNat)
        case atStart => exact ⟨0, 0, _, 0, Nat.zero_le _, rfl, rfl, hst, hcl, hm, hp, hc, hbr⟩
        case round =>
          obtain ⟨j, m, A', c', hj, rfl, rfl, hr, hd, hm2, hp2, hc2, hb2⟩ := hrel
          clear hst hcl hm hp hc hbr
          have hml := own64_len hr.out
          have hrl := M.rdyTo_len ps b j
          have hm1 : m ≤ 1000000 := by omega
          have cc := hc2.out
          clear hml hrl
          by_cases hjn : j < n
          · have hji : (j : Int) < (n : Int) := by omega
            have hj0 : (0 : Int) ≤ (j : Int) := by omega
            go_wp2_with fail
            refine (l01N A n c _).mono ?_
            rintro e w7 ⟨rfl, hb7⟩
            have hr7 := Lib.hid (own_be hr.out hb7)
            have hm7 := Lib.hid (own_be hm2.out hb7)
            have hp7 := Lib.hid (own_be hp2.out hb7)
            have hc7 := Lib.hid (cell_be hc2.out hb7)
            have hb8 := Lib.hid (btr hb2.out hb7)
            have hmj := M.metRow_at (l := b) (k := k) hjn
            obtain ⟨m1, m2, _, hgl⟩ := ownB_cell hm7.out (M.metRow_len n b k) hmj
            have hkb : b.take k = b := by rw [← hL.out, List.take_length]
            rw [hkb] at m1
            have hpj := M.par_at hpar.out hjn
            obtain ⟨n1, n2, _, hpl2⟩ := own64_cell hp7.out hpl.out hpj
            have hgl2 := Lib.hid hgl
            clear hr hm2 hp2 hc2 hb2 hb7 cc hmj hkb hpj
            by_cases hjb : (j : Int) ∈ b
            · rw [decide_eq_true hjb] at m1
              have hs := M.rdyTo_miss (ps := ps) (b := b) (k := j) (decide_eq_false fun h => h.1 hjb)
              rw [← hs] at hr7
              clear hs hjb
              go_wp2
              go_roundw
              case rel => exact ⟨j + 1, m, A', c', by omega, by go_num, rfl, hr7, hd, hm7, hp7, hc7, hb8⟩
              case measure => simp [intOf]; omega
            · rw [decide_eq_false hjb] at m1
              by_cases hj1 : j = 0
              · subst hj1
                have hs := Lib.hid (M.rdyTo_hit (ps := ps) (b := b) (k := 0) (decide_eq_true ⟨hjb, .inl rfl⟩))
                have hz7 : w.heap.size ≤ w7.heap.size := hb8.out.size
                clear hjb
                go_wp2_with (at_builtin; refine push64K rfl (.tmp 52) (.tmp 54) rfl w7 w.heap.size A' m c' (M.rdyTo ps b 0) ((0 : Nat) : Int) rfl _ rfl rfl hr7 hz7 hm1 ?_; intro A9 c9 w9 ho9 hg9 hq9)
                rw [← hs.out] at ho9
                have hne : ∀ q, (Value.slice A' m c').ownBlock = some q → q ≠ g ∧ q ≠ pb ∧ w.heap.size < q := hd.out
                have hm9 := Lib.hid (((own_be hm7.out (bal (b0 w7) _)).kept hg9.out (.inr (fun e => (hne g e.symm).1 rfl))))
                have hp9 := Lib.hid (((own_be hp7.out (bal (b0 w7) _)).kept hg9.out (.inr (fun e => (hne pb e.symm).2.1 rfl))))
                have hc9 := Lib.hid (cell_grown (cell_al hc7.out _) hg9.out (fun q hq => Nat.ne_of_gt (hne q hq).2.2))
                have hb9 := Lib.hid (below_grown (bal hb8.out _) hg9.out (fun q hq => Nat.le_of_lt (hne q hq).2.2))
                have hz8 : (w7.alloc (.cells #[.int .i64 ((0 : Nat) : Int)] 2)).heap.size = w7.heap.size + 1 := by simp
                have hpz : pb < w7.heap.size := hpl2
                have hd9 : Hid (∀ q, (Value.slice A9 (m + 1) c9).ownBlock = some q → q ≠ g ∧ q ≠ pb ∧ w.heap.size < q) := fun q hq => by
                  rcases hq9.out with e | e
                  · exact hne q (e ▸ hq)
                  · rw [hq] at e
                    injection e with e
                    have := hgl2.out
                    omega
                clear hne
                go_roundw
                case rel => exact ⟨1, m + 1, A9, c9, by omega, by go_num, rfl, ho9, hd9, hm9, hp9, hc9, hb9⟩
                case measure => simp [intOf]; omega
              · obtain ⟨p1, p2⟩ := hpar.out.2.2 j (by omega) hjn
                obtain ⟨u, hu⟩ := Int.eq_ofNat_of_zero_le p1
                rw [hu] at n1 p2
                have hun : u < n := by omega
                have hu0 : (0 : Int) ≤ (u : Int) := by omega
                have hui : (u : Int) < (n : Int) := by omega
                have hj2 : ((j : Int) == 0) = false := by simp; omega
                have hmu := M.metRow_at (l := b) (k := k) hun
                obtain ⟨m3, m4, _, _⟩ := ownB_cell hm7.out (M.metRow_len n b k) hmu
                have hkb : b.take k = b := by rw [← hL.out, List.take_length]
                rw [hkb] at m3
                have Hu := Lib.hid hu
                clear hmu hkb hu p1
                by_cases hub : (u : Int) ∈ b
                · rw [decide_eq_true hub] at m3
                  have hs := Lib.hid (M.rdyTo_hit (ps := ps) (b := b) (k := j) (decide_eq_true ⟨hjb, .inr (by rw [Hu.out]; exact hub)⟩))
                  have hz7 : w.heap.size ≤ w7.heap.size := hb8.out.size
                  clear hjb hub
                  go_wp2_with (at_builtin; refine push64K rfl (.tmp 52) (.tmp 54) rfl w7 w.heap.size A' m c' (M.rdyTo ps b j) (j : Int) rfl _ rfl rfl hr7 hz7 hm1 ?_; intro A9 c9 w9 ho9 hg9 hq9)
                  rw [← hs.out] at ho9
                  have hne : ∀ q, (Value.slice A' m c').ownBlock = some q → q ≠ g ∧ q ≠ pb ∧ w.heap.size < q := hd.out
                  have hm9 := Lib.hid (((own_be hm7.out (bal (b0 w7) _)).kept hg9.out (.inr (fun e => (hne g e.symm).1 rfl))))
                  have hp9 := Lib.hid (((own_be hp7.out (bal (b0 w7) _)).kept hg9.out (.inr (fun e => (hne pb e.symm).2.1 rfl))))
                  have hc9 := Lib.hid (cell_grown (cell_al hc7.out _) hg9.out (fun q hq => Nat.ne_of_gt (hne q hq).2.2))
                  have hb9 := Lib.hid (below_grown (bal hb8.out _) hg9.out (fun q hq => Nat.le_of_lt (hne q hq).2.2))
                  have hz8 : (w7.alloc (.cells #[.int .i64 (j : Int)] 2)).heap.size = w7.heap.size + 1 := by simp
                  have hpz : pb < w7.heap.size := hpl2
                  have hd9 : Hid (∀ q, (Value.slice A9 (m + 1) c9).ownBlock = some q → q ≠ g ∧ q ≠ pb ∧ w.heap.size < q) := fun q hq => by
                    rcases hq9.out with e | e
                    · exact hne q (e ▸ hq)
                    · rw [hq] at e
                      injection e with e
                      have := hgl2.out
                      omega
                  clear hne
                  go_roundw
                  case rel => exact ⟨j + 1, m + 1, A9, c9, by omega, by go_num, rfl, ho9, hd9, hm9, hp9, hc9, hb9⟩
                  case measure => simp [intOf]; omega
                · rw [decide_eq_false hub] at m3
                  have hs := M.rdyTo_miss (ps := ps) (b := b) (k := j) (decide_eq_false fun h => by
                    rcases h.2 with e | e
                    · exact hj1 e
                    · rw [Hu.out] at e; exact hub e)
                  rw [← hs] at hr7
                  clear hs hjb hub
                  go_wp2
                  go_roundw
                  case rel => exact ⟨j + 1, m, A', c', by omega, by go_num, rfl, hr7, hd, hm7, hp7, hc7, hb8⟩
                  case measure => simp [intOf]; omega
          · obtain rfl : j = n := by omega
            have hge2 : ¬ (j : Int) < (j : Int) := by omega
            go_wp2_with fail
            refine (l01N A j c _).mono ?_
            rintro e w7 ⟨rfl, hb7⟩
            have hr7 := Lib.hid (own_be hr.out hb7)
            have hb8 := Lib.hid (btr hb2.out hb7)
            go_wp2
            go_ret
            exact ⟨A', m, c', rfl, by rw [hps.out]; exact hr7.out, hb8.out⟩
end Go.Proofs.Ytgnhmhfianmckaa
