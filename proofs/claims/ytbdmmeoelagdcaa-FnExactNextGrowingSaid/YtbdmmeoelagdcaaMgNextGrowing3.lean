/- l09Next: the nodes that can come next, as the model finds them. Written by genn.py. -/
import Derived.Test.YtbdmmeoelagdcaaMgNextGrowing2
import Derived.Maps.OwnIn
import Derived.OrdersIn
namespace Go.Proofs.Ytbdmmeoelagdcaa
open Go.RowKit

set_option maxHeartbeats 8000000 in
set_option maxRecDepth 100000 in
theorem l09Next (A A2 : Option Addr) (xs b : List Int) (n c L c2 : Nat) (w : World) (hn : Hid (xs.length = n)) (ht : Hid (M.isTree xs = true)) (hbg : Hid (M.Bgn n (M.parents xs) b)) (hL : Hid (b.length = L)) (h : Ints w w.heap.size A xs) (h2 : Ints w w.heap.size A2 b) :
    Calls Try.prog 115 #[.agg #[.slice A n c], .slice A2 L c2] w fun e w' => ∃ A' m c', e = .returned (.slice A' m c') ∧ Own64 w' w.heap.size (.slice A' m c') (M.rdyTo (M.parents xs) b n) ∧ Below w.heap.size w w' := by
  have hxl := M.tree_len ht.out
  rw [hn.out] at hxl
  have h24 := hxl.2
  have h1 := hxl.1
  have hLn : L ≤ n := by rw [← hL.out]; exact M.bgn_len hbg.out
  have hmk := fun W => run_make_row' (P := Try.prog) (w := W) 134 4 (.bool false) 1 Try.underlying134 infoB rfl .i64 .i64 n (by omega) (by omega)
  have cT0 : Hid ((w.alloc (.cells #[.slice A n c] 29)).cell? ⟨w.heap.size, 0, none⟩ = some (.slice A n c)) := by simp [Hid, go_sem]
  have hB0 := Lib.hid (bal (b0 w) (.cells #[.slice A n c] 29))
  have H1 := Lib.hid (h.al (.cells #[.slice A n c] 29))
  have H2 := Lib.hid h2
  have hzW : w.heap.size < (w.alloc (.cells #[.slice A n c] 29)).heap.size := by simp
  obtain ⟨W, hW⟩ : ∃ W, W = w.alloc (.cells #[.slice A n c] 29) := ⟨_, rfl⟩
  rw [← hW] at cT0 hB0 H1 hzW
  have hP : ∀ X, Hid (Below W.heap.size W X) → Calls Try.prog 154 #[.agg #[.slice A n c]] X fun e w' => ∃ pb c' ps, e = .returned (.slice (some ⟨pb, 0, none⟩) n c') ∧ Hid (M.ParsOK xs ps) ∧ Hid (Own64 w' X.heap.size (.slice (some ⟨pb, 0, none⟩) n c') ps) ∧ X.heap.size ≤ pb ∧ pb < w'.heap.size ∧ Below X.heap.size X w' := fun X hX => by
    have := l01Parents A xs c X ht (H1.out.be hX.out)
    rw [hn.out] at this
    refine this.mono fun e w' ⟨A', c', ps, he, hk, ho, hb⟩ => ?_
    have hpl : ps.length = n := by rw [hk.out.1, hn.out]
    obtain ⟨pb, rfl⟩ : ∃ pb, A' = some ⟨pb, 0, none⟩ := by
      rcases ho.2 with ⟨q1, q2⟩ | ⟨pb, cap, cur, hv, _⟩
      · rw [hpl] at q2; omega
      · injection hv with q1; exact ⟨pb, q1⟩
    have hlt := World.ownsRow.lt ho pb rfl
    exact ⟨pb, c', ps, he, hk, ho, hlt.1, hlt.2, hb⟩
  have HP := Lib.hid hP
  clear h h2 hxl hP
  go_enter Try.func115, Try.ntmps115
  go_wp2_with fail
  rw [← hW]
  clear hW
  have B : Hid (Below W.heap.size W W.drew) := (Below.refl _ _).drew
  have u0 : W.drew.cell? ⟨w.heap.size, 0, none⟩ = some (.slice A n c) := cT0.out
  refine wp_region_held_drew (S := (fun w' => w'.cell? ⟨w.heap.size, 0, none⟩ = some (.slice A n c) ∧ Hid (Below W.heap.size W w'))) (by kernel_rfl) (by exact ⟨u0, B⟩) (fun hHeld0 => ?_)
  refine anyTake 0 (some 10) (.agg #[.slice A n c]) rfl rfl (by kernel_rfl) (by kernel_rfl) (by kernel_rfl) (fun _ _ _ h => h) (by rfl) (by intro w hSw; (try dsimp only at hSw); go_simp) (by assumption) ?_
  try simp only [Act.put, List.setIfInBounds_toArray, List.set_cons_zero, List.set_cons_succ]
  refine anyTake 2 (some 12) (.agg #[.slice A n c]) rfl rfl (by kernel_rfl) (by kernel_rfl) (by kernel_rfl) (fun _ _ _ h => h) (by rfl) (by intro w hSw; (try dsimp only at hSw); go_simp) (by assumption) ?_
  try simp only [Act.put, List.setIfInBounds_toArray, List.set_cons_zero, List.set_cons_succ]
  refine wpAnyH_ready (rs := [1, 5]) (by kernel_rfl) (by simp) ?_
  refine AllReadyH.cons rfl (fun K hK => ?_) (AllReadyH.cons rfl (fun K hK => ?_) AllReadyH.nil)
  go_simp
  go_at_call 154
  refine (HP.out _ B).mono ?_
  rintro e x1 ⟨pb, c3, ps, rfl, hok, Hp, hp1, hp2, hb⟩
  go_wp2_with fail
  replace B : Hid (Below W.heap.size W x1) := btr B.out hb
  refine hK.out _ _ (by exact ⟨cell_be cT0.out B.out, B⟩) (fun hHeld => ?_)
  clear hK K
  try simp only [Act.put, List.setIfInBounds_toArray, List.set_cons_zero, List.set_cons_succ]
  replace Hp : Hid (Own64 x1 w.heap.size (.slice (some ⟨pb, 0, none⟩) n c3) ps) := own_mono Hp.out (by have : W.drew.heap.size = W.heap.size := rfl; omega)
  have zX : W.heap.size ≤ x1.heap.size := B.out.size
  have hpX : pb < x1.heap.size := hp2
  clear hp2 hb
  clear hHeld0
  have hHeld0 := hHeld
  clear hHeld
  refine wpAnyH_ready (rs := [3, 5]) (by kernel_rfl) (by simp) ?_
  refine AllReadyH.cons rfl (fun K hK => ?_) (AllReadyH.cons rfl (fun K hK => ?_) AllReadyH.nil)
  go_simp
  go_at_call 133
  refine (l01N A n c _).mono ?_
  rintro e x2 ⟨rfl, hb⟩
  go_wp2_with fail
  replace B : Hid (Below W.heap.size W x2) := btr B.out hb
  refine hK.out _ _ (by exact ⟨cell_be cT0.out B.out, B⟩) (fun hHeld => ?_)
  clear hK K
  try simp only [Act.put, List.setIfInBounds_toArray, List.set_cons_zero, List.set_cons_succ]
  replace Hp : Hid (Own64 x2 w.heap.size (.slice (some ⟨pb, 0, none⟩) n c3) ps) := own_be Hp.out hb
  replace zX : W.heap.size ≤ x2.heap.size := B.out.size
  replace hpX : pb < x2.heap.size := by have := hb.size; omega
  clear hb
  clear hHeld0
  have hHeld0 := hHeld
  clear hHeld
  refine anyTake 6 (some 5) (.slice (some ⟨pb, 0, none⟩) n c3) rfl rfl (by kernel_rfl) (by kernel_rfl) (by kernel_rfl) (fun _ _ _ h => h) (by rfl) (by intro w hSw; (try dsimp only at hSw); go_simp) (by assumption) ?_
  try simp only [Act.put, List.setIfInBounds_toArray, List.set_cons_zero, List.set_cons_succ]
  refine wpAnyH_ready (rs := [4, 5]) (by kernel_rfl) (by simp) ?_
  refine AllReadyH.cons rfl (fun K hK => ?_) (AllReadyH.cons rfl (fun K hK => ?_) AllReadyH.nil)
  have hmkX := hmk x2
  go_simp
  have hb := bal (b0 (x2)) (.cells (madeCells #[.bool false] n) 4)
  replace B : Hid (Below W.heap.size W ((x2).alloc (.cells (madeCells #[.bool false] n) 4))) := bal B.out _
  refine hK.out _ _ (by exact ⟨cell_be cT0.out B.out, B⟩) (fun hHeld => ?_)
  clear hK K
  try simp only [Act.put, List.setIfInBounds_toArray, List.set_cons_zero, List.set_cons_succ]
  have Hm : Hid (OwnB ((x2).alloc (.cells (madeCells #[.bool false] n) 4)) w.heap.size (.slice (some ⟨(x2).heap.size, 0, none⟩) n n) (List.replicate n false)) := ownB_made (by omega) (by unfold maxLen; omega)
  clear hmkX
  replace Hp : Hid (Own64 ((x2).alloc (.cells (madeCells #[.bool false] n) 4)) w.heap.size (.slice (some ⟨pb, 0, none⟩) n c3) ps) := own_be Hp.out hb
  have hsz : ((x2).alloc (.cells (madeCells #[.bool false] n) 4)).heap.size = (x2).heap.size + 1 := by simp
  obtain ⟨g, hg⟩ : ∃ g, (x2).heap.size = g := ⟨_, rfl⟩
  rw [hg] at Hm ⊢
  have hgX : g < ((x2).alloc (.cells (madeCells #[.bool false] n) 4)).heap.size := by omega
  have hpg' : pb < g := by omega
  have hWg : W.heap.size ≤ g := by omega
  replace hpX : pb < ((x2).alloc (.cells (madeCells #[.bool false] n) 4)).heap.size := by omega
  replace zX : W.heap.size ≤ ((x2).alloc (.cells (madeCells #[.bool false] n) 4)).heap.size := B.out.size
  clear hb hsz hg
  generalize ((x2).alloc (.cells (madeCells #[.bool false] n) 4)) = x3 at *
  clear hHeld0
  have hHeld0 := hHeld
  clear hHeld
  refine anyTake 7 (some 6) (.slice (some ⟨g, 0, none⟩) n n) rfl rfl (by kernel_rfl) (by kernel_rfl) (by kernel_rfl) (fun _ _ _ h => h) (by rfl) (by intro w hSw; (try dsimp only at hSw); go_simp) (by assumption) ?_
  try simp only [Act.put, List.setIfInBounds_toArray, List.set_cons_zero, List.set_cons_succ]
  refine wpAnyH_ready (rs := [5]) (by kernel_rfl) (by simp) ?_
  refine AllReadyH.cons rfl (fun K hK => ?_) AllReadyH.nil
  go_simp
  have hb := bal (b0 (x3)) (.cells #[] 2)
  replace B : Hid (Below W.heap.size W ((x3).alloc (.cells #[] 2))) := bal B.out _
  refine hK.out _ _ (by exact ⟨cell_be cT0.out B.out, B⟩) (fun hHeld => ?_)
  clear hK K
  try simp only [Act.put, List.setIfInBounds_toArray, List.set_cons_zero, List.set_cons_succ]
  have Ho : Hid (Own64 ((x3).alloc (.cells #[] 2)) w.heap.size (.slice (some ⟨(x3).heap.size, 0, none⟩) 0 0) []) := own64_empty (by omega)
  replace Hm : Hid (OwnB ((x3).alloc (.cells #[] 2)) w.heap.size (.slice (some ⟨g, 0, none⟩) n n) (List.replicate n false)) := own_be Hm.out hb
  replace Hp : Hid (Own64 ((x3).alloc (.cells #[] 2)) w.heap.size (.slice (some ⟨pb, 0, none⟩) n c3) ps) := own_be Hp.out hb
  have hsz : ((x3).alloc (.cells #[] 2)).heap.size = (x3).heap.size + 1 := by simp
  obtain ⟨o, ho⟩ : ∃ g, (x3).heap.size = g := ⟨_, rfl⟩
  rw [ho] at Ho ⊢
  have hoX : o < ((x3).alloc (.cells #[] 2)).heap.size := by omega
  have hWo : W.heap.size ≤ o := by omega
  have hog : g < o := by omega
  replace hgX : g < ((x3).alloc (.cells #[] 2)).heap.size := by omega
  have hopb : pb < o := by omega
  replace hpX : pb < ((x3).alloc (.cells #[] 2)).heap.size := by omega
  replace zX : W.heap.size ≤ ((x3).alloc (.cells #[] 2)).heap.size := B.out.size
  clear hb hsz ho
  generalize ((x3).alloc (.cells #[] 2)) = x4 at *
  clear hHeld0
  have hHeld0 := hHeld
  clear hHeld
  refine anyTake 8 (some 7) (.slice (some ⟨o, 0, none⟩) 0 0) rfl rfl (by kernel_rfl) (by kernel_rfl) (by kernel_rfl) (fun _ _ _ h => h) (by rfl) (by intro w hSw; (try dsimp only at hSw); go_simp) (by assumption) ?_
  try simp only [Act.put, List.setIfInBounds_toArray, List.set_cons_zero, List.set_cons_succ]
  refine wpAnyH_done (by kernel_rfl) ?_ _
  obtain ⟨X, hX⟩ : ∃ X, X = x4 := ⟨_, rfl⟩
  subst hX
  clear hHeld0
  rotate_left 1
  go_simp
  have hb := bal (b0 (x2)) (.cells #[] 2)
  replace B : Hid (Below W.heap.size W ((x2).alloc (.cells #[] 2))) := bal B.out _
  refine hK.out _ _ (by exact ⟨cell_be cT0.out B.out, B⟩) (fun hHeld => ?_)
  clear hK K
  try simp only [Act.put, List.setIfInBounds_toArray, List.set_cons_zero, List.set_cons_succ]
  have Ho : Hid (Own64 ((x2).alloc (.cells #[] 2)) w.heap.size (.slice (some ⟨(x2).heap.size, 0, none⟩) 0 0) []) := own64_empty (by omega)
  replace Hp : Hid (Own64 ((x2).alloc (.cells #[] 2)) w.heap.size (.slice (some ⟨pb, 0, none⟩) n c3) ps) := own_be Hp.out hb
  have hsz : ((x2).alloc (.cells #[] 2)).heap.size = (x2).heap.size + 1 := by simp
  obtain ⟨o, ho⟩ : ∃ g, (x2).heap.size = g := ⟨_, rfl⟩
  rw [ho] at Ho ⊢
  have hoX : o < ((x2).alloc (.cells #[] 2)).heap.size := by omega
  have hWo : W.heap.size ≤ o := by omega
  have hopb : pb < o := by omega
  replace hpX : pb < ((x2).alloc (.cells #[] 2)).heap.size := by omega
  replace zX : W.heap.size ≤ ((x2).alloc (.cells #[] 2)).heap.size := B.out.size
  clear hb hsz ho
  generalize ((x2).alloc (.cells #[] 2)) = x5 at *
  clear hHeld0
  have hHeld0 := hHeld
  clear hHeld
  refine wpAnyH_ready (rs := [4]) (by kernel_rfl) (by simp) ?_
  refine AllReadyH.cons rfl (fun K hK => ?_) AllReadyH.nil
  have hmkX := hmk x5
  go_simp
  have hb := bal (b0 (x5)) (.cells (madeCells #[.bool false] n) 4)
  replace B : Hid (Below W.heap.size W ((x5).alloc (.cells (madeCells #[.bool false] n) 4))) := bal B.out _
  refine hK.out _ _ (by exact ⟨cell_be cT0.out B.out, B⟩) (fun hHeld => ?_)
  clear hK K
  try simp only [Act.put, List.setIfInBounds_toArray, List.set_cons_zero, List.set_cons_succ]
  have Hm : Hid (OwnB ((x5).alloc (.cells (madeCells #[.bool false] n) 4)) w.heap.size (.slice (some ⟨(x5).heap.size, 0, none⟩) n n) (List.replicate n false)) := ownB_made (by omega) (by unfold maxLen; omega)
  clear hmkX
  replace Ho : Hid (Own64 ((x5).alloc (.cells (madeCells #[.bool false] n) 4)) w.heap.size (.slice (some ⟨o, 0, none⟩) 0 0) []) := own_be Ho.out hb
  replace Hp : Hid (Own64 ((x5).alloc (.cells (madeCells #[.bool false] n) 4)) w.heap.size (.slice (some ⟨pb, 0, none⟩) n c3) ps) := own_be Hp.out hb
  have hsz : ((x5).alloc (.cells (madeCells #[.bool false] n) 4)).heap.size = (x5).heap.size + 1 := by simp
  obtain ⟨g, hg⟩ : ∃ g, (x5).heap.size = g := ⟨_, rfl⟩
  rw [hg] at Hm ⊢
  have hgX : g < ((x5).alloc (.cells (madeCells #[.bool false] n) 4)).heap.size := by omega
  have hpg' : pb < g := by omega
  have hWg : W.heap.size ≤ g := by omega
  have hog : o < g := by omega
  replace hoX : o < ((x5).alloc (.cells (madeCells #[.bool false] n) 4)).heap.size := by omega
  replace hpX : pb < ((x5).alloc (.cells (madeCells #[.bool false] n) 4)).heap.size := by omega
  replace zX : W.heap.size ≤ ((x5).alloc (.cells (madeCells #[.bool false] n) 4)).heap.size := B.out.size
  clear hb hsz hg
  generalize ((x5).alloc (.cells (madeCells #[.bool false] n) 4)) = x6 at *
  clear hHeld0
  have hHeld0 := hHeld
  clear hHeld
  refine anyTake 7 (some 6) (.slice (some ⟨g, 0, none⟩) n n) rfl rfl (by kernel_rfl) (by kernel_rfl) (by kernel_rfl) (fun _ _ _ h => h) (by rfl) (by intro w hSw; (try dsimp only at hSw); go_simp) (by assumption) ?_
  try simp only [Act.put, List.setIfInBounds_toArray, List.set_cons_zero, List.set_cons_succ]
  refine anyTake 8 (some 7) (.slice (some ⟨o, 0, none⟩) 0 0) rfl rfl (by kernel_rfl) (by kernel_rfl) (by kernel_rfl) (fun _ _ _ h => h) (by rfl) (by intro w hSw; (try dsimp only at hSw); go_simp) (by assumption) ?_
  try simp only [Act.put, List.setIfInBounds_toArray, List.set_cons_zero, List.set_cons_succ]
  refine wpAnyH_done (by kernel_rfl) ?_ _
  obtain ⟨X, hX⟩ : ∃ X, X = x6 := ⟨_, rfl⟩
  subst hX
  clear hHeld0
  rotate_left 1
  go_simp
  have hb := bal (b0 (x1)) (.cells #[] 2)
  replace B : Hid (Below W.heap.size W ((x1).alloc (.cells #[] 2))) := bal B.out _
  refine hK.out _ _ (by exact ⟨cell_be cT0.out B.out, B⟩) (fun hHeld => ?_)
  clear hK K
  try simp only [Act.put, List.setIfInBounds_toArray, List.set_cons_zero, List.set_cons_succ]
  have Ho : Hid (Own64 ((x1).alloc (.cells #[] 2)) w.heap.size (.slice (some ⟨(x1).heap.size, 0, none⟩) 0 0) []) := own64_empty (by omega)
  replace Hp : Hid (Own64 ((x1).alloc (.cells #[] 2)) w.heap.size (.slice (some ⟨pb, 0, none⟩) n c3) ps) := own_be Hp.out hb
  have hsz : ((x1).alloc (.cells #[] 2)).heap.size = (x1).heap.size + 1 := by simp
  obtain ⟨o, ho⟩ : ∃ g, (x1).heap.size = g := ⟨_, rfl⟩
  rw [ho] at Ho ⊢
  have hoX : o < ((x1).alloc (.cells #[] 2)).heap.size := by omega
  have hWo : W.heap.size ≤ o := by omega
  have hopb : pb < o := by omega
  replace hpX : pb < ((x1).alloc (.cells #[] 2)).heap.size := by omega
  replace zX : W.heap.size ≤ ((x1).alloc (.cells #[] 2)).heap.size := B.out.size
  clear hb hsz ho
  generalize ((x1).alloc (.cells #[] 2)) = x7 at *
  clear hHeld0
  have hHeld0 := hHeld
  clear hHeld
  refine wpAnyH_ready (rs := [3]) (by kernel_rfl) (by simp) ?_
  refine AllReadyH.cons rfl (fun K hK => ?_) AllReadyH.nil
  go_simp
  go_at_call 133
  refine (l01N A n c _).mono ?_
  rintro e x8 ⟨rfl, hb⟩
  go_wp2_with fail
  replace B : Hid (Below W.heap.size W x8) := btr B.out hb
  refine hK.out _ _ (by exact ⟨cell_be cT0.out B.out, B⟩) (fun hHeld => ?_)
  clear hK K
  try simp only [Act.put, List.setIfInBounds_toArray, List.set_cons_zero, List.set_cons_succ]
  replace Hp : Hid (Own64 x8 w.heap.size (.slice (some ⟨pb, 0, none⟩) n c3) ps) := own_be Hp.out hb
  replace Ho : Hid (Own64 x8 w.heap.size (.slice (some ⟨o, 0, none⟩) 0 0) []) := own_be Ho.out hb
  replace hoX : o < x8.heap.size := by have := hb.size; omega
  replace zX : W.heap.size ≤ x8.heap.size := B.out.size
  replace hpX : pb < x8.heap.size := by have := hb.size; omega
  clear hb
  clear hHeld0
  have hHeld0 := hHeld
  clear hHeld
  refine anyTake 6 (some 5) (.slice (some ⟨pb, 0, none⟩) n c3) rfl rfl (by kernel_rfl) (by kernel_rfl) (by kernel_rfl) (fun _ _ _ h => h) (by rfl) (by intro w hSw; (try dsimp only at hSw); go_simp) (by assumption) ?_
  try simp only [Act.put, List.setIfInBounds_toArray, List.set_cons_zero, List.set_cons_succ]
  refine wpAnyH_ready (rs := [4]) (by kernel_rfl) (by simp) ?_
  refine AllReadyH.cons rfl (fun K hK => ?_) AllReadyH.nil
  have hmkX := hmk x8
  go_simp
  have hb := bal (b0 (x8)) (.cells (madeCells #[.bool false] n) 4)
  replace B : Hid (Below W.heap.size W ((x8).alloc (.cells (madeCells #[.bool false] n) 4))) := bal B.out _
  refine hK.out _ _ (by exact ⟨cell_be cT0.out B.out, B⟩) (fun hHeld => ?_)
  clear hK K
  try simp only [Act.put, List.setIfInBounds_toArray, List.set_cons_zero, List.set_cons_succ]
  have Hm : Hid (OwnB ((x8).alloc (.cells (madeCells #[.bool false] n) 4)) w.heap.size (.slice (some ⟨(x8).heap.size, 0, none⟩) n n) (List.replicate n false)) := ownB_made (by omega) (by unfold maxLen; omega)
  clear hmkX
  replace Ho : Hid (Own64 ((x8).alloc (.cells (madeCells #[.bool false] n) 4)) w.heap.size (.slice (some ⟨o, 0, none⟩) 0 0) []) := own_be Ho.out hb
  replace Hp : Hid (Own64 ((x8).alloc (.cells (madeCells #[.bool false] n) 4)) w.heap.size (.slice (some ⟨pb, 0, none⟩) n c3) ps) := own_be Hp.out hb
  have hsz : ((x8).alloc (.cells (madeCells #[.bool false] n) 4)).heap.size = (x8).heap.size + 1 := by simp
  obtain ⟨g, hg⟩ : ∃ g, (x8).heap.size = g := ⟨_, rfl⟩
  rw [hg] at Hm ⊢
  have hgX : g < ((x8).alloc (.cells (madeCells #[.bool false] n) 4)).heap.size := by omega
  have hpg' : pb < g := by omega
  have hWg : W.heap.size ≤ g := by omega
  have hog : o < g := by omega
  replace hoX : o < ((x8).alloc (.cells (madeCells #[.bool false] n) 4)).heap.size := by omega
  replace hpX : pb < ((x8).alloc (.cells (madeCells #[.bool false] n) 4)).heap.size := by omega
  replace zX : W.heap.size ≤ ((x8).alloc (.cells (madeCells #[.bool false] n) 4)).heap.size := B.out.size
  clear hb hsz hg
  generalize ((x8).alloc (.cells (madeCells #[.bool false] n) 4)) = x9 at *
  clear hHeld0
  have hHeld0 := hHeld
  clear hHeld
  refine anyTake 7 (some 6) (.slice (some ⟨g, 0, none⟩) n n) rfl rfl (by kernel_rfl) (by kernel_rfl) (by kernel_rfl) (fun _ _ _ h => h) (by rfl) (by intro w hSw; (try dsimp only at hSw); go_simp) (by assumption) ?_
  try simp only [Act.put, List.setIfInBounds_toArray, List.set_cons_zero, List.set_cons_succ]
  refine anyTake 8 (some 7) (.slice (some ⟨o, 0, none⟩) 0 0) rfl rfl (by kernel_rfl) (by kernel_rfl) (by kernel_rfl) (fun _ _ _ h => h) (by rfl) (by intro w hSw; (try dsimp only at hSw); go_simp) (by assumption) ?_
  try simp only [Act.put, List.setIfInBounds_toArray, List.set_cons_zero, List.set_cons_succ]
  refine wpAnyH_done (by kernel_rfl) ?_ _
  obtain ⟨X, hX⟩ : ∃ X, X = x9 := ⟨_, rfl⟩
  subst hX
  clear hHeld0
  rotate_left 1
  go_simp
  have hb := bal (b0 (W.drew)) (.cells #[] 2)
  replace B : Hid (Below W.heap.size W ((W.alloc (.cells #[] 2)).drew)) := bal B.out _
  refine hK.out _ _ (by exact ⟨cell_be cT0.out B.out, B⟩) (fun hHeld => ?_)
  clear hK K
  try simp only [Act.put, List.setIfInBounds_toArray, List.set_cons_zero, List.set_cons_succ]
  have Ho : Hid (Own64 ((W.alloc (.cells #[] 2)).drew) w.heap.size (.slice (some ⟨W.heap.size, 0, none⟩) 0 0) []) := own64_empty (by have : W.drew.heap.size = W.heap.size := rfl; omega)
  have hsz : ((W.alloc (.cells #[] 2)).drew).heap.size = W.heap.size + 1 := by simp
  have hoX : W.heap.size < ((W.alloc (.cells #[] 2)).drew).heap.size := by omega
  have hWo : W.heap.size ≤ W.heap.size := by omega
  have zX : W.heap.size ≤ ((W.alloc (.cells #[] 2)).drew).heap.size := B.out.size
  clear hb hsz
  generalize ((W.alloc (.cells #[] 2)).drew) = x10 at *
  clear hHeld0
  have hHeld0 := hHeld
  clear hHeld
  refine wpAnyH_ready (rs := [1]) (by kernel_rfl) (by simp) ?_
  refine AllReadyH.cons rfl (fun K hK => ?_) AllReadyH.nil
  go_simp
  go_at_call 154
  refine (HP.out _ B).mono ?_
  rintro e x11 ⟨pb, c3, ps, rfl, hok, Hp, hp1, hp2, hb⟩
  go_wp2_with fail
  replace B : Hid (Below W.heap.size W x11) := btr B.out hb
  refine hK.out _ _ (by exact ⟨cell_be cT0.out B.out, B⟩) (fun hHeld => ?_)
  clear hK K
  try simp only [Act.put, List.setIfInBounds_toArray, List.set_cons_zero, List.set_cons_succ]
  replace Hp : Hid (Own64 x11 w.heap.size (.slice (some ⟨pb, 0, none⟩) n c3) ps) := own_mono Hp.out (by have := zX; omega)
  replace Ho : Hid (Own64 x11 w.heap.size (.slice (some ⟨W.heap.size, 0, none⟩) 0 0) []) := own_be Ho.out hb
  have hopb : W.heap.size < pb := by omega
  replace hoX : W.heap.size < x11.heap.size := by have := hb.size; omega
  have zX : W.heap.size ≤ x11.heap.size := B.out.size
  have hpX : pb < x11.heap.size := hp2
  clear hp2 hb
  clear hHeld0
  have hHeld0 := hHeld
  clear hHeld
  refine wpAnyH_ready (rs := [3]) (by kernel_rfl) (by simp) ?_
  refine AllReadyH.cons rfl (fun K hK => ?_) AllReadyH.nil
  go_simp
  go_at_call 133
  refine (l01N A n c _).mono ?_
  rintro e x12 ⟨rfl, hb⟩
  go_wp2_with fail
  replace B : Hid (Below W.heap.size W x12) := btr B.out hb
  refine hK.out _ _ (by exact ⟨cell_be cT0.out B.out, B⟩) (fun hHeld => ?_)
  clear hK K
  try simp only [Act.put, List.setIfInBounds_toArray, List.set_cons_zero, List.set_cons_succ]
  replace Hp : Hid (Own64 x12 w.heap.size (.slice (some ⟨pb, 0, none⟩) n c3) ps) := own_be Hp.out hb
  replace Ho : Hid (Own64 x12 w.heap.size (.slice (some ⟨W.heap.size, 0, none⟩) 0 0) []) := own_be Ho.out hb
  replace hoX : W.heap.size < x12.heap.size := by have := hb.size; omega
  replace zX : W.heap.size ≤ x12.heap.size := B.out.size
  replace hpX : pb < x12.heap.size := by have := hb.size; omega
  clear hb
  clear hHeld0
  have hHeld0 := hHeld
  clear hHeld
  refine anyTake 6 (some 5) (.slice (some ⟨pb, 0, none⟩) n c3) rfl rfl (by kernel_rfl) (by kernel_rfl) (by kernel_rfl) (fun _ _ _ h => h) (by rfl) (by intro w hSw; (try dsimp only at hSw); go_simp) (by assumption) ?_
  try simp only [Act.put, List.setIfInBounds_toArray, List.set_cons_zero, List.set_cons_succ]
  refine wpAnyH_ready (rs := [4]) (by kernel_rfl) (by simp) ?_
  refine AllReadyH.cons rfl (fun K hK => ?_) AllReadyH.nil
  have hmkX := hmk x12
  go_simp
  have hb := bal (b0 (x12)) (.cells (madeCells #[.bool false] n) 4)
  replace B : Hid (Below W.heap.size W ((x12).alloc (.cells (madeCells #[.bool false] n) 4))) := bal B.out _
  refine hK.out _ _ (by exact ⟨cell_be cT0.out B.out, B⟩) (fun hHeld => ?_)
  clear hK K
  try simp only [Act.put, List.setIfInBounds_toArray, List.set_cons_zero, List.set_cons_succ]
  have Hm : Hid (OwnB ((x12).alloc (.cells (madeCells #[.bool false] n) 4)) w.heap.size (.slice (some ⟨(x12).heap.size, 0, none⟩) n n) (List.replicate n false)) := ownB_made (by omega) (by unfold maxLen; omega)
  clear hmkX
  replace Ho : Hid (Own64 ((x12).alloc (.cells (madeCells #[.bool false] n) 4)) w.heap.size (.slice (some ⟨W.heap.size, 0, none⟩) 0 0) []) := own_be Ho.out hb
  replace Hp : Hid (Own64 ((x12).alloc (.cells (madeCells #[.bool false] n) 4)) w.heap.size (.slice (some ⟨pb, 0, none⟩) n c3) ps) := own_be Hp.out hb
  have hsz : ((x12).alloc (.cells (madeCells #[.bool false] n) 4)).heap.size = (x12).heap.size + 1 := by simp
  obtain ⟨g, hg⟩ : ∃ g, (x12).heap.size = g := ⟨_, rfl⟩
  rw [hg] at Hm ⊢
  have hgX : g < ((x12).alloc (.cells (madeCells #[.bool false] n) 4)).heap.size := by omega
  have hpg' : pb < g := by omega
  have hWg : W.heap.size ≤ g := by omega
  have hog : W.heap.size < g := by omega
  replace hoX : W.heap.size < ((x12).alloc (.cells (madeCells #[.bool false] n) 4)).heap.size := by omega
  replace hpX : pb < ((x12).alloc (.cells (madeCells #[.bool false] n) 4)).heap.size := by omega
  replace zX : W.heap.size ≤ ((x12).alloc (.cells (madeCells #[.bool false] n) 4)).heap.size := B.out.size
  clear hb hsz hg
  generalize ((x12).alloc (.cells (madeCells #[.bool false] n) 4)) = x13 at *
  clear hHeld0
  have hHeld0 := hHeld
  clear hHeld
  refine anyTake 7 (some 6) (.slice (some ⟨g, 0, none⟩) n n) rfl rfl (by kernel_rfl) (by kernel_rfl) (by kernel_rfl) (fun _ _ _ h => h) (by rfl) (by intro w hSw; (try dsimp only at hSw); go_simp) (by assumption) ?_
  try simp only [Act.put, List.setIfInBounds_toArray, List.set_cons_zero, List.set_cons_succ]
  refine anyTake 8 (some 7) (.slice (some ⟨W.heap.size, 0, none⟩) 0 0) rfl rfl (by kernel_rfl) (by kernel_rfl) (by kernel_rfl) (fun _ _ _ h => h) (by rfl) (by intro w hSw; (try dsimp only at hSw); go_simp) (by assumption) ?_
  try simp only [Act.put, List.setIfInBounds_toArray, List.set_cons_zero, List.set_cons_succ]
  refine wpAnyH_done (by kernel_rfl) ?_ _
  obtain ⟨X, hX⟩ : ∃ X, X = x13 := ⟨_, rfl⟩
  subst hX
  clear hHeld0
  obtain ⟨o, hoE⟩ : ∃ o, o = W.heap.size := ⟨_, rfl⟩
  rw [← hoE] at Ho hopb hog hoX ⊢
  replace hWo : W.heap.size ≤ o := by omega
  clear hoE
  rotate_left 1
  all_goals
    have hpar := Lib.hid (M.parents_of ht.out hok.out)
    rw [hn.out] at hpar
    have hps := Lib.hid (M.parents_eq ht.out hok.out)
    have hpl : Hid (ps.length = n) := by show _ = _; rw [hok.out.1, hn.out]
    rw [hps.out] at hbg
    rw [show List.replicate n false = M.metRow n b 0 from (M.metRow_zero n b).symm] at Hm
    have hBX := Lib.hid (btr hB0.out B.out)
    have hcT := Lib.hid (cell_be cT0.out B.out)
    have hgo : g ≠ o := by omega
    have hpo : pb ≠ o := by omega
    have hpg : pb ≠ g := by omega
    have hwo : w.heap.size < o := by omega
    have hwg : w.heap.size < g := by omega
    have Ho1 := Lib.hid (own_mono (base' := w.heap.size) Ho.out (by omega))
    have hzX := hBX.out.size
    clear cT0 hB0 HP u0 B hok hmk Ho
    go_wp2
    -- the first loop: which are there
    go_loopw [8] (fun qi wr => ∃ (k : Nat), k ≤ L ∧ qi = .int .i64 (k : Int) ∧ Hid (OwnB wr w.heap.size (.slice (some ⟨g, 0, none⟩) n n) (M.metRow n b k)) ∧ Hid (Own64 wr w.heap.size (.slice (some ⟨pb, 0, none⟩) n c3) ps) ∧ Hid (Own64 wr w.heap.size (.slice (some ⟨o, 0, none⟩) 0 0) []) ∧ Hid (wr.cell? ⟨w.heap.size, 0, none⟩ = some (.slice A n c)) ∧ Hid (Below w.heap.size w wr)) (fun qi _ => L - (intOf qi).toNat)
    case atStart => exact ⟨0, Nat.zero_le _, rfl, Hm, Hp, Ho1, hcT, hBX⟩
    case round =>
      obtain ⟨k, hk, rfl, hm, hp, ho, hc, hbr⟩ := hrel
      clear Hm Hp Ho1 hcT hBX
      by_cases hlt : k < L
      · obtain ⟨ob, off, x, rfl, hbl, g1, hX⟩ := (H2.out.below hbr.out (Nat.le_refl _)).at_ (k := k) (by rw [hL.out]; exact hlt)
        have hx := hbg.out.2.1 x (List.mem_of_getElem? hX.out)
        obtain ⟨v, rfl⟩ := Int.eq_ofNat_of_zero_le hx.1
        have hvn : v < n := by omega
        have hki : (k : Int) < (L : Int) := by omega
        have hk0 : (0 : Int) ≤ (k : Int) := by omega
        have hv0 : (0 : Int) ≤ (v : Int) := by omega
        have hvi : (v : Int) < (n : Int) := by omega
        have hmv := M.metRow_at (l := b) (k := k) hvn
        obtain ⟨m1, m2, _, hgl⟩ := ownB_cell hm.out (M.metRow_len n b k) hmv
        have hms := Lib.hid (M.metRow_step (n := n) hX.out)
        have hset := Lib.hid (ownB_set hm.out (M.metRow_len n b k) v true)
        rw [hms.out] at hset
        have hp2 : Hid (Own64 (wr.setCell ⟨g, v, none⟩ (.bool true)) w.heap.size (.slice (some ⟨pb, 0, none⟩) n c3) ps) := ownsRow_setCell_other hp.out (a := ⟨g, v, none⟩) (fun e => by injection e with e; exact hpg e) _
        have ho2 : Hid (Own64 (wr.setCell ⟨g, v, none⟩ (.bool true)) w.heap.size (.slice (some ⟨o, 0, none⟩) 0 0) []) := ownsRow_setCell_other ho.out (a := ⟨g, v, none⟩) (fun e => by injection e with e; exact hgo e.symm) _
        have hc2 := Lib.hid ((World.cell?_setCell_other wr (a := ⟨g, v, none⟩) (b := ⟨w.heap.size, 0, none⟩) (v := .bool true) (by intro e; injection e with e1; omega)).trans hc.out)
        have hb2 := Lib.hid (below_setCell hbr.out (Nat.le_of_lt hwg) (k := v) (.bool true))
        clear hm hp ho hc hmv hms hX
        go_wp2
        go_roundw
        case rel => exact ⟨k + 1, by omega, by go_num, hset, hp2, ho2, hc2, hb2⟩
        case measure => simp [intOf]; omega
      · obtain rfl : k = L := by omega
        have hge : ¬ (k : Int) < (k : Int) := by omega
        have hst : Hid (Own64 wr w.heap.size (.slice (some ⟨o, 0, none⟩) 0 0) (M.rdyTo ps b 0)) := ho
        have hcl : Hid (∀ q, (Value.slice (some ⟨o, 0, none⟩) 0 0).ownBlock = some q → q ≠ g ∧ q ≠ pb ∧ w.heap.size < q) := fun q hq => by injection hq with hq; have hq' : o = q := hq; omega
        have hgX : g < wr.heap.size := (ownB_cell hm.out (M.metRow_len n b k) (M.metRow_at (l := b) (k := k) h1)).2.2.2
        have hpX : pb < wr.heap.size := (World.ownsRow.lt hp.out pb rfl).2
        have Hge := Lib.hid hge
        clear ho hlt hk
        go_wp2
        go_loopw [7, 9] (fun q i ws => ∃ (j m : Nat) (A' : Option Addr) (c' : Nat), j ≤ n ∧ i = .int .i64 (j : Int) ∧ q = .slice A' m c' ∧ Hid (Own64 ws w.heap.size (.slice A' m c') (M.rdyTo ps b j)) ∧ Hid (∀ q, (Value.slice A' m c').ownBlock = some q → q ≠ g ∧ q ≠ pb ∧ w.heap.size < q) ∧ Hid (OwnB ws w.heap.size (.slice (some ⟨g, 0, none⟩) n n) (M.metRow n b k)) ∧ Hid (Own64 ws w.heap.size (.slice (some ⟨pb, 0, none⟩) n c3) ps) ∧ Hid (ws.cell? ⟨w.heap.size, 0, none⟩ = some (.slice A n c)) ∧ Hid (Below w.heap.size w ws)) (fun _ i _ => n - (intOf i).toNat)
        case atStart => exact ⟨0, 0, _, 0, Nat.zero_le _, rfl, rfl, hst, hcl, hm, hp, hc, hbr⟩
        case round =>
          obtain ⟨j, m, A', c', hj, rfl, rfl, hr, hd, hm2, hp2, hc2, hb2⟩ := hrel
          clear hst hcl hm hp hc hbr
          have hml := own64_len hr.out
          have hrl := M.rdyTo_len ps b j
          have hm1 : m ≤ 1000000 := by omega
          have cc := hc2.out
          clear hml hrl
          by_cases hjn : j < n
          · have hji : (j : Int) < (n : Int) := by omega
            have hj0 : (0 : Int) ≤ (j : Int) := by omega
            go_wp2_with fail
            refine (l01N A n c _).mono ?_
            rintro e w7 ⟨rfl, hb7⟩
            have hr7 := Lib.hid (own_be hr.out hb7)
            have hm7 := Lib.hid (own_be hm2.out hb7)
            have hp7 := Lib.hid (own_be hp2.out hb7)
            have hc7 := Lib.hid (cell_be hc2.out hb7)
            have hb8 := Lib.hid (btr hb2.out hb7)
            have hmj := M.metRow_at (l := b) (k := k) hjn
            obtain ⟨m1, m2, _, hgl⟩ := ownB_cell hm7.out (M.metRow_len n b k) hmj
            have hkb : b.take k = b := by rw [← hL.out, List.take_length]
            rw [hkb] at m1
            have hpj := M.par_at hpar.out hjn
            obtain ⟨n1, n2, _, hpl2⟩ := own64_cell hp7.out hpl.out hpj
            have hgl2 := Lib.hid hgl
            clear hr hm2 hp2 hc2 hb2 hb7 cc hmj hkb hpj
            by_cases hjb : (j : Int) ∈ b
            · rw [decide_eq_true hjb] at m1
              have hs := M.rdyTo_miss (ps := ps) (b := b) (k := j) (decide_eq_false fun h => h.1 hjb)
              rw [← hs] at hr7
              clear hs hjb
              go_wp2
              go_roundw
              case rel => exact ⟨j + 1, m, A', c', by omega, by go_num, rfl, hr7, hd, hm7, hp7, hc7, hb8⟩
              case measure => simp [intOf]; omega
            · rw [decide_eq_false hjb] at m1
              by_cases hj1 : j = 0
              · subst hj1
                have hs := Lib.hid (M.rdyTo_hit (ps := ps) (b := b) (k := 0) (decide_eq_true ⟨hjb, .inl rfl⟩))
                have hz7 : w.heap.size ≤ w7.heap.size := hb8.out.size
                clear hjb
                go_wp2_with (at_builtin; refine push64K rfl (.tmp 52) (.tmp 54) rfl w7 w.heap.size A' m c' (M.rdyTo ps b 0) ((0 : Nat) : Int) rfl _ rfl rfl hr7 hz7 hm1 ?_; intro A9 c9 w9 ho9 hg9 hq9)
                rw [← hs.out] at ho9
                have hne : ∀ q, (Value.slice A' m c').ownBlock = some q → q ≠ g ∧ q ≠ pb ∧ w.heap.size < q := hd.out
                have hm9 := Lib.hid (((own_be hm7.out (bal (b0 w7) _)).kept hg9.out (.inr (fun e => (hne g e.symm).1 rfl))))
                have hp9 := Lib.hid (((own_be hp7.out (bal (b0 w7) _)).kept hg9.out (.inr (fun e => (hne pb e.symm).2.1 rfl))))
                have hc9 := Lib.hid (cell_grown (cell_al hc7.out _) hg9.out (fun q hq => Nat.ne_of_gt (hne q hq).2.2))
                have hb9 := Lib.hid (below_grown (bal hb8.out _) hg9.out (fun q hq => Nat.le_of_lt (hne q hq).2.2))
                have hz8 : (w7.alloc (.cells #[.int .i64 ((0 : Nat) : Int)] 2)).heap.size = w7.heap.size + 1 := by simp
                have hpz : pb < w7.heap.size := hpl2
                have hd9 : Hid (∀ q, (Value.slice A9 (m + 1) c9).ownBlock = some q → q ≠ g ∧ q ≠ pb ∧ w.heap.size < q) := fun q hq => by
                  rcases hq9.out with e | e
                  · exact hne q (e ▸ hq)
                  · rw [hq] at e
                    injection e with e
                    have := hgl2.out
                    omega
                clear hne
                go_roundw
                case rel => exact ⟨1, m + 1, A9, c9, by omega, by go_num, rfl, ho9, hd9, hm9, hp9, hc9, hb9⟩
                case measure => simp [intOf]; omega
              · obtain ⟨p1, p2⟩ := hpar.out.2.2 j (by omega) hjn
                obtain ⟨u, hu⟩ := Int.eq_ofNat_of_zero_le p1
                rw [hu] at n1 p2
                have hun : u < n := by omega
                have hu0 : (0 : Int) ≤ (u : Int) := by omega
                have hui : (u : Int) < (n : Int) := by omega
                have hj2 : ((j : Int) == 0) = false := by simp; omega
                have hmu := M.metRow_at (l := b) (k := k) hun
                obtain ⟨m3, m4, _, _⟩ := ownB_cell hm7.out (M.metRow_len n b k) hmu
                have hkb : b.take k = b := by rw [← hL.out, List.take_length]
                rw [hkb] at m3
                have Hu := Lib.hid hu
                clear hmu hkb hu p1
                by_cases hub : (u : Int) ∈ b
                · rw [decide_eq_true hub] at m3
                  have hs := Lib.hid (M.rdyTo_hit (ps := ps) (b := b) (k := j) (decide_eq_true ⟨hjb, .inr (by rw [Hu.out]; exact hub)⟩))
                  have hz7 : w.heap.size ≤ w7.heap.size := hb8.out.size
                  clear hjb hub
                  go_wp2_with (at_builtin; refine push64K rfl (.tmp 52) (.tmp 54) rfl w7 w.heap.size A' m c' (M.rdyTo ps b j) (j : Int) rfl _ rfl rfl hr7 hz7 hm1 ?_; intro A9 c9 w9 ho9 hg9 hq9)
                  rw [← hs.out] at ho9
                  have hne : ∀ q, (Value.slice A' m c').ownBlock = some q → q ≠ g ∧ q ≠ pb ∧ w.heap.size < q := hd.out
                  have hm9 := Lib.hid (((own_be hm7.out (bal (b0 w7) _)).kept hg9.out (.inr (fun e => (hne g e.symm).1 rfl))))
                  have hp9 := Lib.hid (((own_be hp7.out (bal (b0 w7) _)).kept hg9.out (.inr (fun e => (hne pb e.symm).2.1 rfl))))
                  have hc9 := Lib.hid (cell_grown (cell_al hc7.out _) hg9.out (fun q hq => Nat.ne_of_gt (hne q hq).2.2))
                  have hb9 := Lib.hid (below_grown (bal hb8.out _) hg9.out (fun q hq => Nat.le_of_lt (hne q hq).2.2))
                  have hz8 : (w7.alloc (.cells #[.int .i64 (j : Int)] 2)).heap.size = w7.heap.size + 1 := by simp
                  have hpz : pb < w7.heap.size := hpl2
                  have hd9 : Hid (∀ q, (Value.slice A9 (m + 1) c9).ownBlock = some q → q ≠ g ∧ q ≠ pb ∧ w.heap.size < q) := fun q hq => by
                    rcases hq9.out with e | e
                    · exact hne q (e ▸ hq)
                    · rw [hq] at e
                      injection e with e
                      have := hgl2.out
                      omega
                  clear hne
                  go_roundw
                  case rel => exact ⟨j + 1, m + 1, A9, c9, by omega, by go_num, rfl, ho9, hd9, hm9, hp9, hc9, hb9⟩
                  case measure => simp [intOf]; omega
                · rw [decide_eq_false hub] at m3
                  have hs := M.rdyTo_miss (ps := ps) (b := b) (k := j) (decide_eq_false fun h => by
                    rcases h.2 with e | e
                    · exact hj1 e
                    · rw [Hu.out] at e; exact hub e)
                  rw [← hs] at hr7
                  clear hs hjb hub
                  go_wp2
                  go_roundw
                  case rel => exact ⟨j + 1, m, A', c', by omega, by go_num, rfl, hr7, hd, hm7, hp7, hc7, hb8⟩
                  case measure => simp [intOf]; omega
          · obtain rfl : j = n := by omega
            have hge2 : ¬ (j : Int) < (j : Int) := by omega
            go_wp2_with fail
            refine (l01N A j c _).mono ?_
            rintro e w7 ⟨rfl, hb7⟩
            have hr7 := Lib.hid (own_be hr.out hb7)
            have hb8 := Lib.hid (btr hb2.out hb7)
            go_wp2
            go_ret
            exact ⟨A', m, c', rfl, by rw [hps.out]; exact hr7.out, hb8.out⟩
end Go.Proofs.Ytbdmmeoelagdcaa

/- copies of slices: l01Own, slices.Clone, l01Make. -/
namespace Go.Proofs.Ytbdmmeoelagdcaa
open Go.RowKit

set_option maxHeartbeats 400000 in
theorem l01Own (A : Option Addr) (xs : List Int) (m c : Nat) (w : World) (hm : Hid (xs.length = m)) (hx : m ≤ 1000000) (hz : Hid (A = none → c = 0)) (h : Hid (Ints w w.heap.size A xs)) :
    Calls Try.prog 117 #[.slice A m c] w fun e w' => ∃ A' c', e = .returned (.slice A' m c') ∧ Own64 w' w.heap.size (.slice A' m c') xs ∧ Below w.heap.size w w' := by
  have hs : Hid (Own64 (w.alloc (.cells #[] 2)) w.heap.size (.slice (some ⟨w.heap.size, 0, none⟩) 0 0) []) := own64_empty (Nat.le_refl _)
  have hi : Hid (Ints (w.alloc (.cells #[] 2)) (w.alloc (.cells #[] 2)).heap.size A xs) := h.out.al _
  have hB : w.heap.size ≤ (w.alloc (.cells #[] 2)).heap.size := by simp
  go_enter Try.func117, Try.ntmps117
  go_wp2_with (at_builtin; refine appendInts rfl (.tmp 3) (.tmp 4) rfl _ w.heap.size (some ⟨w.heap.size, 0, none⟩) 0 0 [] A m c xs rfl rfl hs hi hm hz hB (Nat.zero_le _) hx ?_; intro A2 c2 w2 ho2 hb2)
  go_ret
  exact ⟨A2, c2, by simp, by have := ho2.out; simpa using this, ((Below.refl _ _).alloc (Nat.le_refl _) _).trans hb2.out⟩

set_option maxHeartbeats 400000 in
set_option maxRecDepth 100000 in
theorem clone (ad : Addr) (xs : List Int) (m c : Nat) (w : World) (hm : Hid (xs.length = m)) (hx : m ≤ 1000000) (h : Hid (Ints w w.heap.size (some ad) xs)) :
    Calls Try.prog 164 #[.slice (some ad) m c] w fun e w' => ∃ A' c', e = .returned (.slice A' m c') ∧ Own64 w' w.heap.size (.slice A' m c') xs ∧ Below w.heap.size w w' := by
  have hs : Hid (Own64 (w.alloc (.cells #[] 2)) w.heap.size (.slice (some ⟨w.heap.size, 0, none⟩) 0 0) []) := own64_empty (Nat.le_refl _)
  have hi : Hid (Ints (w.alloc (.cells #[] 2)) (w.alloc (.cells #[] 2)).heap.size (some ad) xs) := h.out.al _
  have hB : w.heap.size ≤ (w.alloc (.cells #[] 2)).heap.size := by simp
  have hz : Hid ((some ad : Option Addr) = none → c = 0) := fun e => by cases e
  have heq := fun W => Lib.run_eql_slice_nil (P := Try.prog) W 23 2 (some ad) m c 0 0 Try.underlying23
  go_enter Try.func164, Try.ntmps164
  go_wp2_with (at_builtin; refine appendInts rfl (.tmp 5) (.tmp 6) rfl _ w.heap.size (some ⟨w.heap.size, 0, none⟩) 0 0 [] (some ad) m c xs rfl rfl hs hi hm hz hB (Nat.zero_le _) hx ?_; intro A2 c2 w2 ho2 hb2)
  go_ret
  exact ⟨A2, c2, by simp, by have := ho2.out; simpa using this, ((Below.refl _ _).alloc (Nat.le_refl _) _).trans hb2.out⟩

set_option maxHeartbeats 400000 in
theorem l01Make (A : Option Addr) (xs : List Int) (m c : Nat) (w : World) (hm : Hid (xs.length = m)) (hx : m ≤ 1000000) (hz : Hid (A = none → c = 0)) (h : Hid (Ints w w.heap.size A xs)) :
    Calls Try.prog 130 #[.slice A m c] w fun e w' => ∃ A' c', e = .returned (.agg #[.slice A' m c']) ∧ Own64 w' w.heap.size (.slice A' m c') xs ∧ Below w.heap.size w w' := by
  go_enter Try.func130, Try.ntmps130
  go_wp2_with fail
  refine (l01Own A xs m c _ hm hx hz (h.out.al _)).mono ?_
  rintro e w1 ⟨A', c', rfl, ho, hb⟩
  obtain ⟨hc, hf⟩ := bcell hb
  have hB := btr (bal (b0 w) _) hb
  have Ho := Lib.hid (own_mono (base' := w.heap.size + 1) ho (by simp))
  clear ho
  go_wp2
  refine bodyPost_ret (v := .agg #[.slice A' m c']) (by simp [results, Try.results130, go_sem, hc]) rfl ?_
  exact ⟨A', c', rfl, own_mono (own_far Ho.out (Nat.lt_succ_self _) _) (Nat.le_succ _), below_setCell hB (Nat.le_refl _) _⟩
end Go.Proofs.Ytbdmmeoelagdcaa

/- l09Fill: the beginning of a growing order gone on with, as the model does it. -/
namespace Go.Proofs.Ytbdmmeoelagdcaa
open Go.RowKit

namespace M
/-- what is to come out, told from what is there -/
theorem fill_go {least : Bool} {n : Nat} {ps b R : List Int} (hp : Parents n ps) (hb : Bgn n ps b) (h : fill least n ps (n - b.length) b = R) (hl : b.length < n) :
    ∃ x, x ∈ rdyTo ps b n ∧ (rdyTo ps b n)[if least then 0 else (rdyTo ps b n).length - 1]? = some x ∧ Bgn n ps (b ++ [x]) ∧ fill least n ps (n - (b ++ [x]).length) (b ++ [x]) = R := by
  have hne := rdy_some hp hl
  obtain ⟨j, hj, h1, h2⟩ := pick_at (least := least) hne
  refine ⟨_, pick_mem hne, by rw [← h2]; exact h1, bgn_step hp hb (pick_mem hne), ?_⟩
  rw [← h, fill_step hl]
end M

set_option maxHeartbeats 8000000 in
set_option maxRecDepth 100000 in
theorem l09Fill (least : Bool) (A A2 : Option Addr) (xs b : List Int) (n c L c2 : Nat) (w : World) (hn : Hid (xs.length = n)) (ht : Hid (M.isTree xs = true)) (hpar : Hid (M.Parents n (M.parents xs))) (hbg : Hid (M.Bgn n (M.parents xs) b)) (hL : Hid (b.length = L)) (hz2 : Hid (A2 = none → c2 = 0)) (h : Hid (Ints w w.heap.size A xs)) (h2 : Hid (Ints w w.heap.size A2 b)) :
    Calls Try.prog 116 #[.agg #[.slice A n c], .slice A2 L c2, .bool least] w fun e w' => ∃ A' c', e = .returned (.slice A' n c') ∧ Own64 w' w.heap.size (.slice A' n c') (M.fill least n (M.parents xs) (n - b.length) b) ∧ Below w.heap.size w w' := by
  have hxl := M.tree_len ht.out
  rw [hn.out] at hxl
  have h24 := hxl.2
  have hLn : L ≤ n := by rw [← hL.out]; exact M.bgn_len hbg.out
  have hB0 := Lib.hid (bal (b0 w) (.cells #[.slice A n c] 29))
  have H1 := Lib.hid (h.out.al (.cells #[.slice A n c] 29))
  have H2 := Lib.hid (h2.out.al (.cells #[.slice A n c] 29))
  have cT0 : Hid ((w.alloc (.cells #[.slice A n c] 29)).cell? ⟨w.heap.size, 0, none⟩ = some (.slice A n c)) := by simp [Hid, go_sem]
  have hzW : (w.alloc (.cells #[.slice A n c] 29)).heap.size = w.heap.size + 1 := by simp
  obtain ⟨W, hW⟩ : ∃ W, W = w.alloc (.cells #[.slice A n c] 29) := ⟨_, rfl⟩
  rw [← hW] at cT0 hB0 H1 H2 hzW
  obtain ⟨R, hR⟩ : ∃ R, Hid (M.fill least n (M.parents xs) (n - b.length) b = R) := ⟨_, rfl⟩
  rw [hR.out]
  have hRl : Hid (R.length = n) := by show _ = _; rw [← hR.out, M.fill_len, hL.out]; omega
  have HO := Lib.hid (l01Own A2 b L c2 W hL (by omega) hz2 H2)
  have hNx : ∀ bb A3 m c3 X, Hid (M.Bgn n (M.parents xs) bb) → Hid (bb.length = m) → Below W.heap.size W X → Ints X X.heap.size A3 bb → Calls Try.prog 115 #[.agg #[.slice A n c], .slice A3 m c3] X fun e w' => ∃ A' m' c', e = .returned (.slice A' m' c') ∧ Own64 w' X.heap.size (.slice A' m' c') (M.rdyTo (M.parents xs) bb n) ∧ Below X.heap.size X w' := fun bb A3 m c3 X hb hm hX hI =>
    l09Next A A3 xs bb n c m c3 X hn ht hb hm (H1.out.be hX) hI
  have HN := Lib.hid hNx
  clear h h2 hNx hxl
  go_enter Try.func116, Try.ntmps116
  go_wp2_with fail
  rw [← hW]
  clear hW
  refine HO.out.mono ?_
  rintro e w1 ⟨A1, c1, rfl, ho, hb⟩
  have Ho1 := Lib.hid ho
  have hb1 := Lib.hid hb
  clear ho hb HO H2
  go_wp2
  go_loopw [7, 8] (fun q _ wr => ∃ (bb : List Int) (A' : Option Addr) (m c' : Nat), m ≤ n ∧ q = .slice A' m c' ∧ Hid (bb.length = m) ∧ Hid (M.Bgn n (M.parents xs) bb) ∧ Hid (M.fill least n (M.parents xs) (n - bb.length) bb = R) ∧ Hid (Own64 wr W.heap.size (.slice A' m c') bb) ∧ Hid (Below W.heap.size W wr)) (fun q _ _ => n - (match q with | .slice _ m _ => m | _ => 0))
  case atStart => exact ⟨b, A1, L, c1, hLn, rfl, hL, hbg, hR, Ho1, hb1⟩
  case round =>
    obtain ⟨bb, A', m, c', hm, rfl, hbl, hbb, hfr, ho, hbr⟩ := hrel
    clear Ho1 hb1
    have cc := cell_be cT0.out hbr.out
    have hBw := Lib.hid (btr hB0.out hbr.out)
    go_wp2_with fail
    refine (l01N A n c _).mono ?_
    rintro e w3 ⟨rfl, hb3⟩
    have cc3 := cell_be cc hb3
    have ho3 := Lib.hid (own_be ho.out hb3)
    have hbr3 := Lib.hid (btr hbr.out hb3)
    clear cc hb3 ho hbr
    by_cases hlt : m < n
    · have hmi : (m : Int) < (n : Int) := by omega
      obtain ⟨x, hx1, hx2, hx3, hx4⟩ := M.fill_go hpar.out hbb.out hfr.out (by rw [hbl.out]; exact hlt)
      have hrl := M.rdyTo_len (M.parents xs) bb n
      obtain ⟨r, hr⟩ : ∃ r, Hid (M.rdyTo (M.parents xs) bb n = r) := ⟨_, rfl⟩
      have HNx := HN.out bb A' m c' w3 hbb hbl hbr3.out (ints_of_own64 ho3.out)
      rw [hr.out] at HNx hx1 hx2 hrl
      have HNx' := Lib.hid HNx
      have Hx2 := Lib.hid hx2
      have Hx3 := Lib.hid hx3
      have Hx4 := Lib.hid hx4
      have hrpos : 1 ≤ r.length := by have := List.length_pos_of_mem hx1; omega
      clear hx1 hx2 hx3 hx4 HNx hfr hbb
      go_wp2_with fail
      refine HNx'.out.mono ?_
      rintro e w4 ⟨A4, m4, c4, rfl, ho4, hb4⟩
      have hm4 := own64_len ho4
      have hI4 := ints_of_own64 ho4
      have ho5 := Lib.hid (own_be ho3.out hb4)
      have hbr5 := Lib.hid (btr hbr3.out hb4)
      have hz5 : W.heap.size ≤ w4.heap.size := hbr5.out.size
      have hm1 : m ≤ 1000000 := by omega
      cases least
      · obtain ⟨pb, po, y, rfl, hpb, g1, hY⟩ := hI4.at_ (k := r.length - 1) (by omega)
        have hyx : y = x := by have := Hx2.out; rw [if_neg (by decide)] at this; rw [hY.out] at this; injection this
        subst hyx
        subst hm4
        have hwm : IntKind.i64.wrap ((r.length : Int) - 1) = (r.length : Int) - 1 := IntWalk.i64_in _ (by omega)
        have hr0 : (0 : Int) ≤ (r.length : Int) - 1 := by omega
        have hr1 : (r.length : Int) - 1 < (r.length : Int) := by omega
        have hton : ((r.length : Int) - 1).toNat = r.length - 1 := by omega
        clear ho4 hb4 hI4 HNx' ho3 hbr3 hY Hx2
        go_wp2_with (at_builtin; refine push64 rfl (.tmp 26) (.tmp 33) rfl w4 W.heap.size A' m c' bb y rfl rfl ho5 hz5 hm1 ?_; intro A9 c9 w9 ho9 hb9)
        have hb10 := Lib.hid (hbr5.out.trans hb9.out)
        go_roundw
        case rel => exact ⟨bb ++ [y], A9, m + 1, c9, by omega, rfl, by show _ = _; rw [List.length_append, hbl.out]; rfl, Hx3, Hx4, ho9, hb10⟩
        case measure => simp; omega
      · obtain ⟨pb, po, y, rfl, hpb, g1, hY⟩ := hI4.at_ (k := 0) (by omega)
        have hyx : y = x := by have := Hx2.out; rw [if_pos rfl] at this; rw [hY.out] at this; injection this
        subst hyx
        rw [Nat.add_zero] at g1
        have hm40 : 0 < m4 := by omega
        have hm41 : (0 : Int) < (m4 : Int) := by omega
        have Hm4 := Lib.hid hm4
        clear ho4 hb4 hI4 HNx' ho3 hbr3 hY Hx2 hm4
        go_wp2_with (at_builtin; refine push64 rfl (.tmp 20) (.tmp 24) rfl w4 W.heap.size A' m c' bb y rfl rfl ho5 hz5 hm1 ?_; intro A9 c9 w9 ho9 hb9)
        have hb10 := Lib.hid (hbr5.out.trans hb9.out)
        go_roundw
        case rel => exact ⟨bb ++ [y], A9, m + 1, c9, by omega, rfl, by show _ = _; rw [List.length_append, hbl.out]; rfl, Hx3, Hx4, ho9, hb10⟩
        case measure => simp; omega
    · obtain rfl : m = n := by omega
      have hge : ¬ (m : Int) < (m : Int) := by omega
      have hE : Hid (bb = R) := by show _ = _; rw [← hfr.out]; exact (M.fill_done hbl.out).symm
      have hB3 := Lib.hid (btr hB0.out hbr3.out)
      have hzz : w.heap.size ≤ W.heap.size := by omega
      have ho6 : Hid (Own64 w3 w.heap.size (.slice A' m c') R) := by rw [← hE.out]; exact own_mono ho3.out hzz
      clear hE
      go_wp2
      go_ret
      exact ⟨A', c', rfl, ho6.out, hB3.out⟩
end Go.Proofs.Ytbdmmeoelagdcaa

/- codeBy: the code of the first step that finds something wrong. -/
namespace Go.Proofs.Ytbdmmeoelagdcaa
open Go.RowKit

namespace M
def firstCode : List Int → Int
  | [] => 0
  | r :: t => if r = 0 then firstCode t else r
theorem firstCode_drop {cs : List Int} {k : Nat} {r : Int} (h : cs[k]? = some r) : firstCode (cs.drop k) = if r = 0 then firstCode (cs.drop (k + 1)) else r := by
  obtain ⟨h1, h2⟩ := List.getElem?_eq_some_iff.1 h
  rw [List.drop_eq_getElem_cons h1, h2]; rfl
end M

def isStep (f : Nat) : Prop := f = 111 ∨ f = 155 ∨ f = 156 ∨ f = 112

set_option maxHeartbeats 4000000 in
set_option maxRecDepth 100000 in
theorem codeBy (A A2 : Option Addr) (n c m c2 g len cap : Nat) (fs : List Nat) (cs : List Int) (w : World) (h4 : len ≤ 4) (hlen : Hid (fs.length = len)) (hcl : Hid (cs.length = len)) (hg : g < w.heap.size) (hcells : Hid (∀ j f, fs[j]? = some f → w.cell? ⟨g, j, none⟩ = some (.func (.func f) #[] #[]))) (hfs : Hid (∀ f ∈ fs, isStep f))
    (H : Hid (∀ j f r, fs[j]? = some f → cs[j]? = some r → (∀ i : Nat, i < j → cs[i]? = some (0 : Int)) → ∀ X, Hid (Below w.heap.size w X) → Calls Try.prog f #[.agg #[.slice A n c, .slice A2 m c2]] X fun e w' => e = .returned (.int .i64 r) ∧ Below X.heap.size X w')) (r : Int) (hr : Hid (M.firstCode cs = r)) :
    Calls Try.prog 110 #[.agg #[.slice A n c, .slice A2 m c2], .slice (some ⟨g, 0, none⟩) len cap] w fun e w' => e = .returned (.int .i64 r) ∧ Below w.heap.size w w' := by
  obtain ⟨d0, d1⟩ := order_cells w (.slice A n c) (.slice A2 m c2) 118
  have hB0 := Lib.hid (bal (b0 w) (.cells #[.slice A n c, .slice A2 m c2] 118))
  obtain ⟨W, hW⟩ : ∃ W, W = w.alloc (.cells #[.slice A n c, .slice A2 m c2] 118) := ⟨_, rfl⟩
  rw [← hW] at d0 d1 hB0
  have hst : Hid (M.firstCode (cs.drop 0) = r) := by rw [List.drop_zero]; exact hr
  have hst2 : Hid (∀ i : Nat, i < 0 → cs[i]? = some (0 : Int)) := fun i hi => by omega
  clear hr
  go_enter Try.func110, Try.ntmps110
  go_wp2
  rw [← hW]
  clear hW
  go_loopw [6, 7, 10] (fun _ _ i wr => ∃ (k : Nat), k ≤ len ∧ i = .int .i64 (k : Int) ∧ Hid (M.firstCode (cs.drop k) = r) ∧ Hid (∀ i : Nat, i < k → cs[i]? = some (0 : Int)) ∧ Hid (Below W.heap.size W wr)) (fun _ _ i _ => len - (intOf i).toNat)
  case atStart => exact ⟨0, Nat.zero_le _, rfl, hst, hst2, Below.refl _ _⟩
  case round =>
    obtain ⟨k, hk, rfl, hF, hZ, hbr⟩ := hrel
    clear hst hst2
    have c0 := cellOf_be d0 hbr.out
    have c1 := cellOf_be d1 hbr.out
    by_cases hlt : k < len
    · obtain ⟨f, hf⟩ : ∃ f, fs[k]? = some f := ⟨_, List.getElem?_eq_getElem (by rw [hlen.out]; exact hlt)⟩
      obtain ⟨q, hq⟩ : ∃ q, cs[k]? = some q := ⟨_, List.getElem?_eq_getElem (by rw [hcl.out]; exact hlt)⟩
      have hbw := btr hB0.out hbr.out
      have cf : wr.cell? ⟨g, k, none⟩ = some (.func (.func f) #[] #[]) := (hbw.cell (p := ⟨g, k, none⟩) hg).trans (hcells.out k f hf)
      have hfd := M.firstCode_drop hq
      rw [hF.out] at hfd
      have HC := Lib.hid (H.out k f q hf hq hZ.out wr hbw)
      have hki : (k : Int) < (len : Int) := by omega
      have hk0 : (0 : Int) ≤ (k : Int) := by omega
      have hstep := hfs.out f (List.mem_of_getElem? hf)
      have Hq := Lib.hid hq
      by_cases hq0 : q = 0
      · subst hq0
        have hF2 : Hid (M.firstCode (cs.drop (k + 1)) = r) := by rw [if_pos rfl] at hfd; exact hfd.symm
        have hZ2 : Hid (∀ i : Nat, i < k + 1 → cs[i]? = some (0 : Int)) := fun i hi => by
          rcases Nat.lt_or_ge i k with h | h
          · exact hZ.out i h
          · obtain rfl : i = k := by omega
            exact Hq.out
        clear hfd hf hq hbw hF hZ
        rcases hstep with e | e | e | e
        all_goals
          subst e
          go_wp2_with fail
          refine HC.out.mono ?_
          rintro e w3 ⟨rfl, hb⟩
          have hb3 := Lib.hid (btr hbr.out hb)
          clear hb HC cf
          go_wp2
          go_roundw
          case rel => exact ⟨k + 1, by omega, by go_num, hF2, hZ2, hb3⟩
          case measure => simp [intOf]; omega
      · have hqr : q = r := by rw [if_neg hq0] at hfd; exact hfd.symm
        have hq1 : (q != 0) = true := by simpa using hq0
        subst hqr
        clear hfd hf hq hbw hF hZ
        rcases hstep with e | e | e | e
        all_goals
          subst e
          go_wp2_with fail
          refine HC.out.mono ?_
          rintro e w3 ⟨rfl, hb⟩
          have hb3 := Lib.hid (btr hbr.out hb)
          clear hb HC cf
          go_wp2
          go_ret
          exact ⟨rfl, btr hB0.out hb3.out⟩
    · obtain rfl : k = len := by omega
      have hge : ¬ (k : Int) < (k : Int) := by omega
      have hR : (0 : Int) = r := by rw [← hF.out, List.drop_of_length_le (by rw [hcl.out]; exact Nat.le_refl _)]; rfl
      subst hR
      go_wp2
      go_ret
      exact ⟨rfl, btr hB0.out hbr.out⟩

namespace M
/-- the codes of the checks of a tree, a list of all its nodes, and a growing order -/
noncomputable def codes3 (xs l : List Int) : List Int := [if isTree xs then 0 else 1, if isOrd xs.length l then 0 else 2, if grows (parents xs) l then 0 else 5]
def gcode2 (xs l : List Int) : Int := if isTree xs then (if isOrd xs.length l then 0 else 2) else 1
noncomputable def gcode (xs l : List Int) : Int := if gcode2 xs l = 0 then (if grows (parents xs) l then 0 else 5) else gcode2 xs l
theorem gcode2_first (xs l : List Int) : firstCode ((codes3 xs l).take 2) = gcode2 xs l := by
  simp only [codes3, gcode2, List.take, firstCode]
  cases isTree xs <;> cases isOrd xs.length l <;> simp
theorem gcode_first (xs l : List Int) : firstCode (codes3 xs l) = gcode xs l := by
  simp only [codes3, gcode, gcode2, firstCode]
  rcases Bool.eq_false_or_eq_true (isTree xs) with ht | ht <;> rcases Bool.eq_false_or_eq_true (isOrd xs.length l) with ho | ho <;> rcases Bool.eq_false_or_eq_true (grows (parents xs) l) with hg | hg <;> simp [ht, ho, hg]
theorem gcode2_zero {xs l : List Int} (h : gcode2 xs l = 0) : isTree xs = true ∧ isOrd xs.length l = true := by
  simp only [gcode2] at h
  cases ht : isTree xs <;> cases ho : isOrd xs.length l <;> simp [ht, ho] at h ⊢
theorem gcode_zero {xs l : List Int} (h : gcode xs l = 0) : isTree xs = true ∧ isOrd xs.length l = true ∧ grows (parents xs) l = true := by
  simp only [gcode] at h
  by_cases h2 : gcode2 xs l = 0
  · rw [if_pos h2] at h
    obtain ⟨a, b⟩ := gcode2_zero h2
    refine ⟨a, b, ?_⟩
    cases hg : grows (parents xs) l
    · rw [hg] at h; simp at h
    · rfl
  · rw [if_neg h2] at h; exact absurd h h2
end M
def steps3 : List Nat := [111, 155, 156]

theorem steps3_hold (A A2 : Option Addr) (xs l : List Int) (c c2 : Nat) (w : World) (hx : xs.length ≤ 1048576) (hcc : xs.length ≤ c ∧ c ≤ 1000000000000) (h : Hid (Ints w w.heap.size A xs)) (h2 : Hid (Ints w w.heap.size A2 l)) :
    ∀ j f r, steps3[j]? = some f → (M.codes3 xs l)[j]? = some r → (∀ i : Nat, i < j → (M.codes3 xs l)[i]? = some (0 : Int)) → ∀ X, Hid (Below w.heap.size w X) → Calls Try.prog f #[.agg #[.slice A xs.length c, .slice A2 l.length c2]] X fun e w' => e = .returned (.int .i64 r) ∧ Below X.heap.size X w' := by
  intro j f r hf hr hz X hX
  have hT : 0 < j → M.isTree xs = true := fun hj => by
    have := hz 0 hj
    simp only [M.codes3, List.getElem?_cons_zero, Option.some.injEq] at this
    cases ht : M.isTree xs
    · rw [ht] at this; simp at this
    · rfl
  have hO : 1 < j → M.isOrd xs.length l = true := fun hj => by
    have := hz 1 hj
    simp only [M.codes3, List.getElem?_cons_succ, List.getElem?_cons_zero, Option.some.injEq] at this
    cases ht : M.isOrd xs.length l
    · rw [ht] at this; simp at this
    · rfl
  match j with
  | 0 =>
    simp only [steps3, M.codes3, List.getElem?_cons_zero, Option.some.injEq] at hf hr
    subst hf
    exact treeCode A A2 xs c l.length c2 X (by omega) (h.out.be hX.out) r hr
  | 1 =>
    simp only [steps3, M.codes3, List.getElem?_cons_succ, List.getElem?_cons_zero, Option.some.injEq] at hf hr
    subst hf
    have hl := M.tree_len (hT (by omega))
    exact listCode A A2 l c c2 xs.length X hl.1 hl.2 (h2.out.be hX.out) r hr
  | 2 =>
    simp only [steps3, M.codes3, List.getElem?_cons_succ, List.getElem?_cons_zero, Option.some.injEq] at hf hr
    subst hf
    have ho := hO (by omega)
    have hl := (M.isOrd_iff.1 ho).1
    have := stateCode A A2 xs l c c2 xs.length X rfl hcc.1 hcc.2 (hT (by omega)) ho (h.out.be hX.out) (h2.out.be hX.out) r hr
    rw [hl]
    exact this
  | j + 3 => simp [steps3] at hf

/-- the codes of two or of all three steps, the list of the steps lying in memory -/
theorem codeThree (A A2 : Option Addr) (xs l : List Int) (c c2 g len : Nat) (w : World) (hx : xs.length ≤ 1048576) (hcc : xs.length ≤ c ∧ c ≤ 1000000000000) (h : Hid (Ints w w.heap.size A xs)) (h2 : Hid (Ints w w.heap.size A2 l)) (hl : len = 2 ∨ len = 3) (hg : g < w.heap.size)
    (hcells : Hid (∀ j f, (steps3.take len)[j]? = some f → w.cell? ⟨g, j, none⟩ = some (.func (.func f) #[] #[]))) (r : Int) (hr : Hid (M.firstCode ((M.codes3 xs l).take len) = r)) :
    Calls Try.prog 110 #[.agg #[.slice A xs.length c, .slice A2 l.length c2], .slice (some ⟨g, 0, none⟩) len len] w fun e w' => e = .returned (.int .i64 r) ∧ Below w.heap.size w w' := by
  refine codeBy A A2 xs.length c l.length c2 g len len (steps3.take len) ((M.codes3 xs l).take len) w (by omega) ?_ ?_ hg hcells ?_ ?_ r hr
  · rcases hl with e | e <;> subst e <;> rfl
  · rcases hl with e | e <;> subst e <;> rfl
  · intro f hf
    have := List.mem_of_mem_take hf
    simp only [steps3, List.mem_cons, List.not_mem_nil, or_false] at this
    rcases this with e | e | e
    · exact .inl e
    · exact .inr (.inl e)
    · exact .inr (.inr (.inl e))
  · intro j f q hf hq hz X hX
    have hj : j < len := by
      have := (List.getElem?_eq_some_iff.1 hf).1
      rw [List.length_take] at this
      omega
    rw [List.getElem?_take_of_lt hj] at hf hq
    exact steps3_hold A A2 xs l c c2 w hx hcc h h2 j f q hf hq (fun i hi => by have := hz i hi; rwa [List.getElem?_take_of_lt (by omega)] at this) X hX
end Go.Proofs.Ytbdmmeoelagdcaa

/- l09Code: the code of a tree and a growing order, as the model says it. -/
namespace Go.Proofs.Ytbdmmeoelagdcaa
open Go.RowKit

namespace M
theorem gcode_t {xs l : List Int} (h : isTree xs = false) : gcode xs l = 1 ∧ gcode2 xs l = 1 := by simp [gcode, gcode2, h]
theorem gcode_o {xs l : List Int} (h : isTree xs = true) (ho : isOrd xs.length l = false) : gcode xs l = 2 ∧ gcode2 xs l = 2 := by simp [gcode, gcode2, h, ho]
theorem gcode_g {xs l : List Int} (h : isTree xs = true) (ho : isOrd xs.length l = true) : gcode xs l = (if grows (parents xs) l then 0 else 5) ∧ gcode2 xs l = 0 := by simp [gcode, gcode2, h, ho]
end M

set_option maxHeartbeats 4000000 in
set_option maxRecDepth 100000 in
theorem l09Code (A A2 : Option Addr) (xs l : List Int) (c c2 : Nat) (w : World) (hx : xs.length ≤ 1048576) (hl : l.length ≤ 1048576) (h : Ints w w.heap.size A xs) (h2 : Ints w w.heap.size A2 l) :
    Calls Try.prog 114 #[.agg #[.slice A xs.length c], .slice A2 l.length c2] w fun e w' => e = .returned (.int .i64 (M.gcode xs l)) ∧ Below w.heap.size w w' := by
  have cT0 : Hid ((w.alloc (.cells #[.slice A xs.length c] 29)).cell? ⟨w.heap.size, 0, none⟩ = some (.slice A xs.length c)) := by simp [Hid, go_sem]
  have hB0 := Lib.hid (bal (b0 w) (.cells #[.slice A xs.length c] 29))
  have hI1 := specIs A xs c (w.alloc (.cells #[.slice A xs.length c] 29)) (by omega) (h.al _)
  cases ht : M.isTree xs
  · rw [(M.gcode_t ht).1]
    rw [ht] at hI1
    have HI := Lib.hid hI1
    clear hI1 ht h h2
    go_enter Try.func114, Try.ntmps114
    go_wp2_with fail
    refine HI.out.mono ?_
    rintro e w1 ⟨rfl, hb⟩
    have hB1 := Lib.hid (btr hB0.out hb)
    go_wp2
    go_ret
    exact ⟨rfl, hB1.out⟩
  · rw [ht] at hI1
    have HI := Lib.hid hI1
    have Ht := Lib.hid ht
    have hlen := M.tree_len ht
    have hO := fun W (hb : Below w.heap.size w W) => l09Order A A2 l xs.length c l.length c2 W hlen.2 rfl hl (h2.be hb)
    have Ha := Lib.hid h
    have Hb := Lib.hid h2
    obtain ⟨q, hq⟩ : ∃ q, Hid (M.isOrd xs.length l = q) := ⟨_, rfl⟩
    rw [hq.out] at hO
    have HO := Lib.hid hO
    clear hI1 ht h h2 hO
    cases q
    · rw [(M.gcode_o Ht.out hq.out).1]
      go_enter Try.func114, Try.ntmps114
      go_wp2_with fail
      refine HI.out.mono ?_
      rintro e w1 ⟨rfl, hb⟩
      have hB1 := Lib.hid (btr hB0.out hb)
      have cT1 := cell_be cT0.out hb
      clear hb HI
      go_wp2_with fail
      refine (HO.out _ hB1.out).mono ?_
      rintro e w2 ⟨rfl, hb⟩
      have hB2 := Lib.hid (btr hB1.out hb)
      go_wp2
      go_ret
      exact ⟨rfl, hB2.out⟩
    · rw [(M.gcode_g Ht.out hq.out).1]
      obtain ⟨r, hr⟩ : ∃ r, Hid (M.grows (M.parents xs) l = r) := ⟨_, rfl⟩
      have hll := (M.isOrd_iff.1 hq.out).1
      have hG := fun W (hb : Below w.heap.size w W) => l09Growing A A2 xs l xs.length c c2 W rfl Ht hq (Ha.out.be hb) (Hb.out.be hb) r hr
      rw [← hll] at hG
      have hG' : ∀ W, Below w.heap.size w W → Calls Try.prog 153 #[.agg #[.slice A xs.length c], .slice A2 l.length c2] W fun e w' => e = .returned (.bool r) ∧ Below W.heap.size W w' := by rw [← hll]; exact hG
      have HG := Lib.hid hG'
      rw [hr.out]
      clear hll hG hG'
      go_enter Try.func114, Try.ntmps114
      go_wp2_with fail
      refine HI.out.mono ?_
      rintro e w1 ⟨rfl, hb⟩
      have hB1 := Lib.hid (btr hB0.out hb)
      have cT1 := cell_be cT0.out hb
      clear hb HI
      go_wp2_with fail
      refine (HO.out _ hB1.out).mono ?_
      rintro e w2 ⟨rfl, hb⟩
      have hB2 := Lib.hid (btr hB1.out hb)
      have cT2 := cell_be cT1 hb
      clear hb HO
      go_wp2_with fail
      refine (HG.out _ hB2.out).mono ?_
      rintro e w3 ⟨rfl, hb⟩
      have hB3 := Lib.hid (btr hB2.out hb)
      clear hb HG
      cases r
      · go_wp2
        go_ret
        exact ⟨rfl, hB3.out⟩
      · go_wp2
        go_ret
        exact ⟨rfl, hB3.out⟩
end Go.Proofs.Ytbdmmeoelagdcaa

/- orderSteps; the code of a growing order by all its steps, or by the first two, as a contract for any world. -/
namespace Go.Proofs.Ytbdmmeoelagdcaa
open Go.RowKit

/-- the first ones of the three steps lie in a block -/
def StepsIn (W : World) (g len : Nat) : Prop := g < W.heap.size ∧ ∀ j f, (steps3.take len)[j]? = some f → W.cell? ⟨g, j, none⟩ = some (.func (.func f) #[] #[])

theorem orderSteps (w : World) : Calls Try.prog 118 #[] w fun e w' => ∃ g, e = .returned (.slice (some ⟨g, 0, none⟩) 3 3) ∧ Hid (StepsIn w' g 3) ∧ Below w.heap.size w w' := by
  have hS : Hid (StepsIn (w.alloc (.cells #[.func (.func 111) #[] #[], .func (.func 155) #[] #[], .func (.func 156) #[] #[]] 150)) w.heap.size 3) := by
    refine ⟨by simp, fun j f hf => ?_⟩
    rw [World.cell?_alloc_new]
    match j with
    | 0 => simp [steps3] at hf; subst hf; rfl
    | 1 => simp [steps3] at hf; subst hf; rfl
    | 2 => simp [steps3] at hf; subst hf; rfl
    | j + 3 => simp [steps3] at hf
  have hb := bal (b0 w) (.cells #[.func (.func 111) #[] #[], .func (.func 155) #[] #[], .func (.func 156) #[] #[]] 150)
  go_enter Try.func118, Try.ntmps118
  go_wp2
  go_ret
  exact ⟨_, rfl, hS, hb⟩

theorem steps2_in (w : World) : StepsIn (w.alloc (.cells #[.func (.func 111) #[] #[], .func (.func 155) #[] #[]] 150)) w.heap.size 2 := by
  refine ⟨by simp, fun j f hf => ?_⟩
  rw [World.cell?_alloc_new]
  match j with
  | 0 => simp [steps3] at hf; subst hf; rfl
  | 1 => simp [steps3] at hf; subst hf; rfl
  | j + 2 => simp [steps3] at hf

/-- all three steps -/
theorem codeAll (A A2 : Option Addr) (xs l : List Int) (c c2 g : Nat) (w : World) (hx : xs.length ≤ 1048576) (hcc : xs.length ≤ c ∧ c ≤ 1000000000000) (h : Hid (Ints w w.heap.size A xs)) (h2 : Hid (Ints w w.heap.size A2 l)) (hs : Hid (StepsIn w g 3)) (r : Int) (hr : Hid (M.gcode xs l = r)) :
    Calls Try.prog 110 #[.agg #[.slice A xs.length c, .slice A2 l.length c2], .slice (some ⟨g, 0, none⟩) 3 3] w fun e w' => e = .returned (.int .i64 r) ∧ Below w.heap.size w w' :=
  codeThree A A2 xs l c c2 g 3 w hx hcc h h2 (.inr rfl) hs.out.1 hs.out.2 r (by rw [← hr.out]; exact M.gcode_first xs l)
/-- the first two steps -/
theorem codeTwo (A A2 : Option Addr) (xs l : List Int) (c c2 g : Nat) (w : World) (hx : xs.length ≤ 1048576) (hcc : xs.length ≤ c ∧ c ≤ 1000000000000) (h : Hid (Ints w w.heap.size A xs)) (h2 : Hid (Ints w w.heap.size A2 l)) (hs : Hid (StepsIn w g 2)) (r : Int) (hr : Hid (M.gcode2 xs l = r)) :
    Calls Try.prog 110 #[.agg #[.slice A xs.length c, .slice A2 l.length c2], .slice (some ⟨g, 0, none⟩) 2 2] w fun e w' => e = .returned (.int .i64 r) ∧ Below w.heap.size w w' :=
  codeThree A A2 xs l c c2 g 2 w hx hcc h h2 (.inl rfl) hs.out.1 hs.out.2 r (by rw [← hr.out]; exact M.gcode2_first xs l)

namespace M
noncomputable def ocond (xs l R : List Int) : List Int × Int := if gcode xs l = 0 then (R, 0) else ([], gcode xs l)
theorem ocond_yes {xs l R : List Int} (h : gcode xs l = 0) : ocond xs l R = (R, 0) := by rw [ocond, if_pos h]
theorem ocond_no {xs l R : List Int} (h : gcode xs l ≠ 0) : ocond xs l R = ([], gcode xs l) := by rw [ocond, if_neg h]
end M
end Go.Proofs.Ytbdmmeoelagdcaa

/- Each tree has a row of parents: mathematics. -/
namespace Go.Proofs.Ytbdmmeoelagdcaa
namespace M
open Classical in
theorem pars_ex9 {xs : List Int} (ht : isTree xs = true) : ∃ ps, ParsOK xs ps := by
  have hl := tree_len ht
  refine ⟨(List.range xs.length).map fun i => if h : ∃ p, IsKid xs p i then (h.choose : Int) else -1, by simp, ?_, fun p c h => ?_⟩
  · have h0 : ¬ ∃ p, IsKid xs p 0 := fun ⟨p, h⟩ => by have := kid_bounds ht h; omega
    rw [List.getElem?_map, List.getElem?_range (by omega)]
    simp only [Option.map_some, dif_neg h0]
  · have hb := kid_bounds ht h
    have hx : ∃ p, IsKid xs p c := ⟨p, h⟩
    rw [List.getElem?_map, List.getElem?_range hb.2.2]
    simp only [Option.map_some, dif_pos hx]
    rw [kid_unique ht hx.choose_spec h]
theorem parents_tree {xs : List Int} (ht : isTree xs = true) : Parents xs.length (parents xs) := by
  obtain ⟨ps, hp⟩ := pars_ex9 ht
  rw [parents_eq ht hp]
  exact parents_of ht hp
end M
end Go.Proofs.Ytbdmmeoelagdcaa

/- NextGrowing, the model's: the growing order next to a growing order, or a code. -/
namespace Go.Proofs.Ytbdmmeoelagdcaa
open Go.RowKit

noncomputable def F_NextGrowing (xs l : List Int) : List Int × Int := if M.gcode xs l = 0 then M.nextAns (M.nextTo xs.length (M.parents xs) l xs.length) else ([], M.gcode xs l)
theorem F_NextGrowing_yes {xs l : List Int} (h : M.gcode xs l = 0) : F_NextGrowing xs l = M.nextAns (M.nextTo xs.length (M.parents xs) l xs.length) := by rw [F_NextGrowing, if_pos h]
theorem F_NextGrowing_no {xs l : List Int} (h : M.gcode xs l ≠ 0) : F_NextGrowing xs l = ([], M.gcode xs l) := by rw [F_NextGrowing, if_neg h]
theorem F_NextGrowing_len (xs l : List Int) : (F_NextGrowing xs l).1.length ≤ 1048576 := by
  by_cases h : M.gcode xs l = 0
  · rw [F_NextGrowing_yes h]
    have hz := M.gcode_zero h
    have hlen := M.tree_len hz.1
    cases hR : M.nextTo xs.length (M.parents xs) l xs.length with
    | none => exact Nat.zero_le _
    | some R =>
      have := M.nextTo_len xs.length (by have := (M.isOrd_iff.1 hz.2.1).1; omega) (M.isOrd_iff.1 hz.2.1).1 hR
      show R.length ≤ _
      omega
  · rw [F_NextGrowing_no h]; simp
theorem low_cell9 {w w' : World} {B g k : Nat} {v : Value} (h : w.cell? ⟨g, k, none⟩ = some v) (hb : Below B w w') (hlt : g < B) : w'.cell? ⟨g, k, none⟩ = some v := (hb.cell (p := ⟨g, k, none⟩) hlt).trans h
theorem own64_one9 {w : World} {B : Nat} (hB : B ≤ w.heap.size) (x : Int) : Own64 (w.alloc (.cells #[.int .i64 x] 2)) B (.slice (some ⟨w.heap.size, 0, none⟩) 1 1) [x] :=
  ⟨by simp, .inr ⟨w.heap.size, 1, #[.int .i64 x], rfl, hB, World.alloc_heap_new w _, by simp, by simp [maxLen], by simp, by simp⟩⟩
theorem take_ints9 {w : World} {B : Nat} {A : Option Addr} {l : List Int} (h : Ints w B A l) (k : Nat) : Ints w B A (l.take k) := fun hk => by
  obtain ⟨b, off, e, hb, hc⟩ := h (by have := List.length_take_le k l; rw [List.length_take] at hk; omega)
  exact ⟨b, off, e, hb, fun j x hj => hc j x (by
    rw [List.getElem?_take] at hj
    split at hj
    · exact hj
    · cases hj)⟩

set_option maxHeartbeats 8000000 in
set_option maxRecDepth 100000 in
theorem spec_NextGrowing : GivesOL 62 F_NextGrowing := by
  intro A A2 xs l c c2 w hx hl hcc hcc2 h h2
  obtain ⟨W, hW⟩ : ∃ W, W = w.alloc (.cells #[.slice A xs.length c] 29) := ⟨_, rfl⟩
  have cT : W.cell? ⟨w.heap.size, 0, none⟩ = some (.slice A xs.length c) := by rw [hW]; simp [go_sem]
  have hB0 : Hid (Below w.heap.size w W) := by rw [hW]; exact bal (b0 w) _
  have H1 : Hid (Ints W W.heap.size A xs) := by rw [hW]; exact h.al _
  have H2 : Hid (Ints W W.heap.size A2 l) := by rw [hW]; exact h2.al _
  obtain ⟨r, hr⟩ : ∃ r, Hid (M.gcode xs l = r) := ⟨_, rfl⟩
  have hC := l09Code A A2 xs l c c2 W hx hl H1.out H2.out
  rw [hr.out] at hC
  have HC := Lib.hid hC
  clear hC h h2
  by_cases h0 : r = 0
  · subst h0
    have hz := M.gcode_zero hr.out
    have Ht := Lib.hid hz.1
    have hlen := M.tree_len Ht.out
    have hll : l.length = xs.length := (M.isOrd_iff.1 hz.2.1).1
    have hBgn := Lib.hid (M.ord_bgn hz.2.1 hz.2.2)
    have hpar : Hid (M.Parents xs.length (M.parents xs)) := by
      obtain ⟨ps, hp⟩ := M.pars_ex9 Ht.out
      show M.Parents _ _
      rw [M.parents_eq Ht.out hp]
      exact M.parents_of Ht.out hp
    obtain ⟨R, hR⟩ : ∃ R, Hid (M.nextTo xs.length (M.parents xs) l xs.length = R) := ⟨_, rfl⟩
    have hF : F_NextGrowing xs l = M.nextAns R := by rw [← hR.out]; exact F_NextGrowing_yes hr.out
    rw [hF]
    clear hF hz
    obtain ⟨n, hn⟩ : ∃ n, Hid (xs.length = n) := ⟨_, rfl⟩
    have hln : Hid (l.length = n) := by show _ = _; rw [hll, hn.out]
    rw [hn.out] at hlen hBgn hpar hR cT HC hcc hW ⊢
    rw [hln.out] at HC hcc2 ⊢
    obtain ⟨b, off, rfl, hbl, hcs⟩ := H2.out (by rw [hln.out]; omega)
    have hcs' : Hid (∀ X, Below W.heap.size W X → ∀ j x, l[j]? = some x → X.cell? ⟨b, off + j, none⟩ = some (.int .i64 x)) := fun X hX j x hj => (hX.cell (p := ⟨b, off + j, none⟩) hbl).trans (hcs j x hj)
    have HN : Hid (∀ k X, k ≤ n → Below W.heap.size W X → Calls Try.prog 115 #[.agg #[.slice A n c], .slice (some ⟨b, off, none⟩) k c2] X fun e w' => ∃ A' m c', e = .returned (.slice A' m c') ∧ Own64 w' X.heap.size (.slice A' m c') (M.rdyTo (M.parents xs) (l.take k) n) ∧ Below X.heap.size X w') := fun k X hk hX =>
      l09Next A (some ⟨b, off, none⟩) xs (l.take k) n c k c2 X hn Ht (Lib.hid (M.bgn_take hBgn.out k)) (by show _ = _; rw [List.length_take, hln.out]; omega) (H1.out.be hX) (take_ints9 (H2.out.be hX) k)
    have HO : Hid (∀ k X, k ≤ n → Below W.heap.size W X → Calls Try.prog 117 #[.slice (some ⟨b, off, none⟩) k c2] X fun e w' => ∃ A' c', e = .returned (.slice A' k c') ∧ Hid (Own64 w' X.heap.size (.slice A' k c') (l.take k)) ∧ Below X.heap.size X w') := fun k X hk hX =>
      (l01Own (some ⟨b, off, none⟩) (l.take k) k c2 X (by show _ = _; rw [List.length_take, hln.out]; omega) (by omega) (by intro e; cases e) (Lib.hid (take_ints9 (H2.out.be hX) k))).mono fun e w' ⟨A', c', he, ho, hb⟩ => ⟨A', c', he, ho, hb⟩
    have HFl : Hid (∀ k x A3 c3 X, k < n → x ∈ M.rdyTo (M.parents xs) (l.take k) n → Below W.heap.size W X → Hid (Own64 X W.heap.size (.slice A3 (k + 1) c3) (l.take k ++ [x])) → Calls Try.prog 116 #[.agg #[.slice A n c], .slice A3 (k + 1) c3, .bool true] X fun e w' => ∃ A' c', e = .returned (.slice A' n c') ∧ Own64 w' X.heap.size (.slice A' n c') (M.fill true n (M.parents xs) (n - (l.take k ++ [x]).length) (l.take k ++ [x])) ∧ Below X.heap.size X w') := fun k x A3 c3 X hk hm hX ho =>
      l09Fill true A A3 xs (l.take k ++ [x]) n c (k + 1) c3 X hn Ht hpar (Lib.hid (M.bgn_step hpar.out (M.bgn_take hBgn.out k) hm)) (by show _ = _; rw [List.length_append, List.length_take, hln.out, List.length_singleton]; omega) (Lib.hid (own64_z ho.out)) (Lib.hid (H1.out.be hX)) (Lib.hid (ints_of_own64 ho.out))
    clear hr hcs H1 H2
    go_enter Try.func62, Try.ntmps62
    go_wp2_with fail
    rw [← hW]
    clear hW
    refine HC.out.mono ?_
    rintro e w5 ⟨rfl, hb5⟩
    have hB5 := Lib.hid (btr hB0.out hb5)
    have hBW5 := Lib.hid hb5
    have hzW : w.heap.size ≤ W.heap.size := hB0.out.size
    clear HC hb5
    have hn1 : IntKind.i64.wrap ((n : Int) - 1) = (n : Int) - 1 := IntWalk.i64_in _ (by omega)
    go_wp2
    go_loopw [7] (fun i wr => ∃ k : Nat, k ≤ n ∧ i = .int .i64 ((k : Int) - 1) ∧ Hid (M.nextTo n (M.parents xs) l k = R) ∧ Hid (Below W.heap.size W wr)) (fun i _ => (intOf i + 1).toNat)
    case atStart => exact ⟨n, Nat.le_refl _, rfl, hR, hBW5⟩
    case round =>
      obtain ⟨k1, hk, rfl, hRk, hbw⟩ := hrel
      clear hBW5 hB5 hR
      rcases k1 with _ | k
      · have hge : ¬ (0 : Int) ≤ ((0 : Nat) : Int) - 1 := by omega
        have hR0 : R = none := hRk.out.symm
        subst hR0
        have hB := Lib.hid (btr hB0.out hbw.out)
        go_wp2
        go_ret2
        exact ⟨none, 0, rfl, own64_nil _ _, hB.out⟩
      · obtain ⟨v, hv⟩ : ∃ v, l[k]? = some v := ⟨_, List.getElem?_eq_getElem (by rw [hln.out]; omega)⟩
        have hki : (((k + 1 : Nat) : Int) - 1) = (k : Int) := by omega
        rw [hki]
        have hk0 : (0 : Int) ≤ (k : Int) := by omega
        have hkn : (k : Int) ≤ (n : Int) := by omega
        have hkc : (k : Int) ≤ (c2 : Int) := by omega
        have cc := cell_be cT hbw.out
        obtain ⟨rr, hrr⟩ : ∃ rr, Hid (M.rdyTo (M.parents xs) (l.take k) n = rr) := ⟨_, rfl⟩
        have HNk := Lib.hid (HN.out k)
        rw [hrr.out] at HNk
        have B : Hid (Below W.heap.size W wr.drew) := hbw.out.drew
        go_wp2
        go_region_held3 (fun w' => w'.cell? ⟨w.heap.size, 0, none⟩ = some (.slice A n c)) (first | exact cc | exact cell_be (w := wr.drew) cc hb6.out) (first | (go_at_call 115; refine (HNk.out _ (by omega) B.out).mono ?_; rintro e w6 ⟨A6, m, c6, rfl, ho6, hb6'⟩; have hb6 := Lib.hid hb6'; have Ho6 := Lib.hid ho6; clear ho6 hb6'))
        have hrl := M.rdyTo_len (M.parents xs) (l.take k) n
        rw [hrr.out] at hrl
        have hm := own64_len Ho6.out
        have hzr : W.heap.size ≤ wr.drew.heap.size := B.out.size
        have ho6 := Lib.hid (own_mono Ho6.out hzr)
        have hb6w := Lib.hid (btr B.out hb6.out)
        have hst : Hid (M.firstOver (rr.take 0) v = none) := M.over_zero _ _
        have hm24 : m ≤ 24 := by omega
        have Hm := Lib.hid hm
        have hln2 := hcs'.out
        clear hm hrl hbw hb6 Ho6 B cc HNk
        go_wp2
        go_loopw [9] (fun qj ws => ∃ j : Nat, j ≤ m ∧ qj = .int .i64 (j : Int) ∧ Hid (M.firstOver (rr.take j) v = none) ∧ Hid (Own64 ws W.heap.size (.slice A6 m c6) rr) ∧ Hid (Below W.heap.size W ws)) (fun qj _ => m - (intOf qj).toNat)
        case atStart => exact ⟨0, Nat.zero_le _, rfl, hst, ho6, hb6w⟩
        case round =>
          clear hst ho6 hb6w
          obtain ⟨j, hj, rfl, hfo, ho, hbs⟩ := hrel
          by_cases hjm : j < m
          · have hjm2 : j < rr.length := by rw [← Hm.out]; exact hjm
            obtain ⟨x, hx⟩ : ∃ x, rr[j]? = some x := ⟨_, List.getElem?_eq_getElem hjm2⟩
            obtain ⟨g6, hA6⟩ : ∃ g, A6 = some ⟨g, 0, none⟩ := by
              rcases ho.out.2 with ⟨h0, _⟩ | ⟨g, cap, cur, hvv, _⟩
              · injection h0 with _ e _; omega
              · injection hvv with e1; exact ⟨g, e1⟩
            subst hA6
            obtain ⟨p1, p2, p3, p4⟩ := own64_cell ho.out Hm.out.symm hx
            have q1 := hln2 wr hbs.out k v hv
            have hji : (j : Int) < (m : Int) := by omega
            have hj0 : (0 : Int) ≤ (j : Int) := by omega
            have hkn2 : (k : Int) < (n : Int) := by omega
            have cc := cell_be cT hbs.out
            by_cases hvx : v < x
            · have hov := M.over_hit hfo.out hx hvx
              have hmem : x ∈ M.rdyTo (M.parents xs) (l.take k) n := by rw [hrr.out]; exact M.over_mem hov
              have hRR : R = some (M.fill true n (M.parents xs) (n - (l.take k ++ [x]).length) (l.take k ++ [x])) := by rw [← hRk.out]; exact M.nextTo_hit hv (by rw [hrr.out]; exact hov)
              have HFk := Lib.hid (fun A3 c3 X => HFl.out k x A3 c3 X (by omega) hmem)
              have HOk := Lib.hid (HO.out k)
              clear hov hmem hx hv hln2
              obtain ⟨Y, hY⟩ : ∃ Y, Y = M.fill true n (M.parents xs) (n - (l.take k ++ [x]).length) (l.take k ++ [x]) := ⟨_, rfl⟩
              rw [← hY] at hRR HFk
              have hYl : Hid (Y.length = n) := by
                show _ = _
                rw [hY, M.fill_len]
                simp only [List.length_append, List.length_take, List.length_singleton]
                have := hln.out
                omega
              clear hY
              subst hRR
              go_wp2
              go_region
              go_wp2
              obtain ⟨Z0, hZ0⟩ : ∃ Z0, Z0 = wr.drew := ⟨_, rfl⟩
              have SZ : Z0.drew.cell? ⟨w.heap.size, 0, none⟩ = some (.slice A n c) ∧ Z0.drew.cell? ⟨g6, j, none⟩ = some (.int .i64 x) := by rw [hZ0]; exact ⟨cc, p1⟩
              have hbZ : Below W.heap.size W Z0.drew := by rw [hZ0]; exact hbs.out.drew.drew
              have hbZA : Below W.heap.size W (Z0.drew.alloc (.cells #[.int .i64 x] 2)) := hbZ.alloc hbZ.size _
              have SZA : (Z0.drew.alloc (.cells #[.int .i64 x] 2)).cell? ⟨w.heap.size, 0, none⟩ = some (.slice A n c) ∧ (Z0.drew.alloc (.cells #[.int .i64 x] 2)).cell? ⟨g6, j, none⟩ = some (.int .i64 x) := ⟨cell_al SZ.1 _, cellOf_al SZ.2 _⟩
              have hzZ : W.heap.size ≤ Z0.drew.heap.size := hbZ.size
              have hgZ : g6 < Z0.drew.heap.size := World.block_lt_of_cell? _ _ SZ.2
              have hwZ : w.heap.size < Z0.drew.heap.size := World.block_lt_of_cell? _ _ SZ.1
              rw [← hZ0]
              clear hZ0 cc p1 p2 p4 q1 ho hbs
              go_region_held3 (fun X => X.cell? ⟨w.heap.size, 0, none⟩ = some (.slice A n c) ∧ X.cell? ⟨g6, j, none⟩ = some (.int .i64 x)) (first | exact SZ | exact SZA | exact S7 | exact S7a | exact S8 | exact S9) (first | (refine stepInts rfl (.tmp 47) (.tmp 52) rfl _ Z0.drew.heap.size A7 k c7 (l.take k) _ 1 1 [x] rfl rfl (by first | exact hoA | exact hoB) (by first | exact hiA | exact hiB) rfl (fun e => by cases e) (by first | exact h7 | exact h7a) (by omega) (by omega) ?_; intro A8 c8 w8 ho8 hb8; have S8 : w8.cell? ⟨w.heap.size, 0, none⟩ = some (.slice A n c) ∧ w8.cell? ⟨g6, j, none⟩ = some (.int .i64 x) := (by first | exact ⟨low_cell9 S7a.1 hb8.out hwZ, low_cell9 S7a.2 hb8.out hgZ⟩ | exact ⟨low_cell9 S7.1 hb8.out hwZ, low_cell9 S7.2 hb8.out hgZ⟩); have hbW8 : Below W.heap.size W w8 := (by first | exact (hbW7.alloc hbW7.size _).trans (hb8.out.mono hzZ) | exact hbW7.trans (hb8.out.mono hzZ))) | (go_at_call 117; refine (HOk.out _ (by omega) (by first | exact hbZ | exact hbZA)).mono ?_; rintro e w7 ⟨A7, c7, rfl, ho7, hb7⟩; have S7 : w7.cell? ⟨w.heap.size, 0, none⟩ = some (.slice A n c) ∧ w7.cell? ⟨g6, j, none⟩ = some (.int .i64 x) := (by first | exact ⟨cellOf_be SZ.1 hb7, cellOf_be SZ.2 hb7⟩ | exact ⟨cellOf_be SZA.1 hb7, cellOf_be SZA.2 hb7⟩); have S7a := (show (w7.alloc (.cells #[.int .i64 x] 2)).cell? ⟨w.heap.size, 0, none⟩ = some (.slice A n c) ∧ (w7.alloc (.cells #[.int .i64 x] 2)).cell? ⟨g6, j, none⟩ = some (.int .i64 x) from ⟨cellOf_al S7.1 _, cellOf_al S7.2 _⟩); have hbW7 : Below W.heap.size W w7 := (by first | exact btr hbZ hb7 | exact btr hbZA hb7); have h7 : Z0.drew.heap.size ≤ w7.heap.size := (by have := hb7.size; first | exact this | (simp at this; exact Nat.le_of_succ_le this)); have h7a : Z0.drew.heap.size ≤ (w7.alloc (.cells #[.int .i64 x] 2)).heap.size := (by simp; exact Nat.le_succ_of_le h7); have hoB : Hid (Own64 w7 Z0.drew.heap.size (.slice A7 k c7) (l.take k)) := Lib.hid (own_mono ho7.out (by simp)); have hoA : Hid (Own64 (w7.alloc (.cells #[.int .i64 x] 2)) Z0.drew.heap.size (.slice A7 k c7) (l.take k)) := Lib.hid (own_be hoB.out (bal (b0 w7) _)); have hiA : Hid (Ints (w7.alloc (.cells #[.int .i64 x] 2)) (w7.alloc (.cells #[.int .i64 x] 2)).heap.size (some ⟨w7.heap.size, 0, none⟩) [x]) := Lib.hid (ints_of_own64 (own64_one9 (Nat.le_refl _) x)); (first | (have hiB : Hid (Ints w7 w7.heap.size (some ⟨Z0.drew.heap.size, 0, none⟩) [x]) := Lib.hid (ints_of_own64 (own_be (own64_one9 (w := Z0.drew) (Nat.le_refl _) x) hb7))) | skip)) | (go_at_call 116; refine (HFk.out _ _ _ hbW8 (Lib.hid (own_mono ho8.out hzZ))).mono ?_; rintro e w9 ⟨A9, c9, rfl, ho9, hb9⟩; have S9 : w9.cell? ⟨w.heap.size, 0, none⟩ = some (.slice A n c) ∧ w9.cell? ⟨g6, j, none⟩ = some (.int .i64 x) := ⟨cellOf_be S8.1 hb9, cellOf_be S8.2 hb9⟩; have hB9 : Below w.heap.size w w9 := btr hB0.out (btr hbW8 hb9); have ho9' : Own64 w9 w.heap.size (.slice A9 n c9) Y := own_mono ho9 (Nat.le_trans hzW hbW8.size)))
              all_goals
                have HB9 := Lib.hid hB9
                have HO9 := Lib.hid ho9'
                clear S7 S7a S8 S9 h7 h7a hoA hoB hiA hb7 hb8 ho7 ho8 hbW7 hbW8 hB9 ho9' ho9 hb9
                go_wp2
                go_ret2
                refine ⟨A9, c9, ?_, ?_, HB9.out⟩
                · rw [show (M.nextAns (some Y)).1.length = n from hYl.out]
                  rfl
                · rw [show (M.nextAns (some Y)).1.length = n from hYl.out]
                  exact HO9.out
            · have hs := Lib.hid (M.over_step hfo.out hx hvx)
              clear hx hv hln2
              go_wp2
              go_region
              go_wp2
              go_roundw
              case rel => exact ⟨j + 1, by omega, by go_num, hs, ho.out, hbs.out.drew⟩
              case measure => (simp [intOf]; omega)
          · obtain rfl : j = m := by omega
            have hjm2 : ¬ (j : Int) < (j : Int) := by omega
            have hnone : Hid (M.nextTo n (M.parents xs) l k = R) := by
              show _ = _
              rw [← hRk.out]
              refine (M.nextTo_miss hv ?_).symm
              rw [hrr.out]
              have := hfo.out
              rw [Hm.out] at this
              exact M.over_end this
            clear hv hln2
            go_wp2
            go_roundw
            case rel => exact ⟨k, by omega, by go_num, hnone, hbs⟩
            case measure => simp [intOf]
  · have hF : F_NextGrowing xs l = ([], r) := by rw [← hr.out]; exact F_NextGrowing_no (by rw [hr.out]; exact h0)
    have h01 : (r != 0) = true := by simpa using h0
    rw [hF]
    clear hF
    go_enter Try.func62, Try.ntmps62
    go_wp2_with fail
    rw [← hW]
    clear hW
    refine HC.out.mono ?_
    rintro e w5 ⟨rfl, hb5⟩
    have hB5 := Lib.hid (btr hB0.out hb5)
    go_wp2
    go_ret2
    exact ⟨none, 0, rfl, own64_nil _ _, hB5.out⟩
end Go.Proofs.Ytbdmmeoelagdcaa

/- with: a beginning with a node at the next place, as a new list. Written by genw9.py. -/
namespace Go.Proofs.Ytbdmmeoelagdcaa
open Go.RowKit

namespace M
def pair2 (b : List Int) (v : Int) (j : Nat) : List Int := if j = 0 then b else [v]
theorem catTo_pair2 (b : List Int) (v : Int) : catTo (pair2 b v) 2 = b ++ [v] := by simp [catTo, pair2]
end M

theorem own64_one' {w : World} {B : Nat} (hB : B ≤ w.heap.size) (x : Int) : Own64 (w.alloc (.cells #[.int .i64 x] 2)) B (.slice (some ⟨w.heap.size, 0, none⟩) 1 1) [x] := by
  exact ⟨by simp, .inr ⟨w.heap.size, 1, #[.int .i64 x], rfl, hB, World.alloc_heap_new w _, by simp, by simp [maxLen], by simp, by simp⟩⟩

set_option maxHeartbeats 4000000 in
set_option maxRecDepth 100000 in
theorem withNode (A A2 : Option Addr) (b : List Int) (n c L c2 : Nat) (v : Int) (w : World) (hL : Hid (b.length = L)) (h24 : L ≤ 24) (hz2 : Hid (A2 = none → c2 = 0)) (h2 : Hid (Ints w w.heap.size A2 b)) :
    Calls Try.prog 121 #[.agg #[.slice A n c, .slice A2 L c2], .int .i64 v] w fun e w' => ∃ g c', e = .returned (.agg #[.slice A n c, .slice (some ⟨g, 0, none⟩) (L + 1) c']) ∧ Own64 w' w.heap.size (.slice (some ⟨g, 0, none⟩) (L + 1) c') (b ++ [v]) ∧ Below w.heap.size w w' := by
  obtain ⟨d0, d1⟩ := order_cells w (.slice A n c) (.slice A2 L c2) 118
  have hB0 := Lib.hid (bal (bal (b0 w) (.cells #[.slice A n c, .slice A2 L c2] 118)) (.cells #[.slice none 0 0, .slice none 0 0] 118))
  have d0' := cellOf_al d0 (.cells #[.slice none 0 0, .slice none 0 0] 118)
  have d1' := cellOf_al d1 (.cells #[.slice none 0 0, .slice none 0 0] 118)
  obtain ⟨z0, z1⟩ := order_cells (w.alloc (.cells #[.slice A n c, .slice A2 L c2] 118)) (.slice none 0 0) (.slice none 0 0) 118
  rw [World.size_alloc] at z0 z1
  have H2 := Lib.hid ((h2.out.al (.cells #[.slice A n c, .slice A2 L c2] 118)).al (.cells #[.slice none 0 0, .slice none 0 0] 118))
  obtain ⟨W, hW⟩ : ∃ W, W = (w.alloc (.cells #[.slice A n c, .slice A2 L c2] 118)).alloc (.cells #[.slice none 0 0, .slice none 0 0] 118) := ⟨_, rfl⟩
  have hzW : Hid (W.heap.size = w.heap.size + 1 + 1) := by show _ = _; rw [hW]; simp
  have zh : Hid (W.heap[w.heap.size + 1]? = some (.cells #[.slice none 0 0, .slice none 0 0] 118 (0, 0))) := by
    have := World.alloc_heap_new (w.alloc (.cells #[.slice A n c, .slice A2 L c2] 118)) (.cells #[.slice none 0 0, .slice none 0 0] 118)
    rw [World.size_alloc] at this
    rw [hW]; exact this
  rw [← hW] at d0' d1' z0 z1 H2 hB0
  clear d0 d1 h2
  go_enter Try.func121, Try.ntmps121
  go_wp2_with fail
  rw [← hW]
  clear hW
  have K0 : Hid (Below W.heap.size W W.drew) := (Below.refl _ _).drew
  have e0 : W.drew.cell? ⟨w.heap.size, 0, none⟩ = some (.slice A n c) := d0'
  have e1 : W.drew.cell? ⟨w.heap.size, 1, none⟩ = some (.slice A2 L c2) := d1'
  refine wp_region_held_drew (S := (fun w' => w'.cell? ⟨w.heap.size, 0, none⟩ = some (.slice A n c) ∧ w'.cell? ⟨w.heap.size, 1, none⟩ = some (.slice A2 L c2))) (by kernel_rfl) (by exact ⟨e0, e1⟩) (fun hHeld0 => ?_)
  refine anyTake 0 (some 5) (.pointer (some ⟨w.heap.size, 0, none⟩)) rfl rfl (by kernel_rfl) (by kernel_rfl) (by kernel_rfl) (fun _ _ _ h => h) (by rfl) (by intro w hSw; (try dsimp only at hSw); go_simp) (by assumption) ?_
  try simp only [Act.put, List.setIfInBounds_toArray, List.set_cons_zero, List.set_cons_succ]
  refine anyTake 1 (some 6) (.agg #[.slice A n c]) rfl rfl (by kernel_rfl) (by kernel_rfl) (by kernel_rfl) (fun _ _ _ h => h) (by rfl) (by intro w hSw; (try dsimp only at hSw); go_simp) (by assumption) ?_
  try simp only [Act.put, List.setIfInBounds_toArray, List.set_cons_zero, List.set_cons_succ]
  refine anyTake 2 (some 7) (.pointer (some ⟨w.heap.size, 1, none⟩)) rfl rfl (by kernel_rfl) (by kernel_rfl) (by kernel_rfl) (fun _ _ _ h => h) (by rfl) (by intro w hSw; (try dsimp only at hSw); go_simp) (by assumption) ?_
  try simp only [Act.put, List.setIfInBounds_toArray, List.set_cons_zero, List.set_cons_succ]
  refine anyTake 3 (some 8) (.slice A2 L c2) rfl rfl (by kernel_rfl) (by kernel_rfl) (by kernel_rfl) (fun _ _ _ h => h) (by rfl) (by intro w hSw; (try dsimp only at hSw); go_simp) (by assumption) ?_
  try simp only [Act.put, List.setIfInBounds_toArray, List.set_cons_zero, List.set_cons_succ]
  refine anyTake 4 (some 9) (.int .i64 v) rfl rfl (by kernel_rfl) (by kernel_rfl) (by kernel_rfl) (fun _ _ _ h => h) (by rfl) (by intro w hSw; (try dsimp only at hSw); go_simp) (by assumption) ?_
  try simp only [Act.put, List.setIfInBounds_toArray, List.set_cons_zero, List.set_cons_succ]
  refine wpAnyH_ready (rs := [5]) (by kernel_rfl) (by simp) ?_
  refine AllReadyH.cons rfl (fun K hK => ?_) AllReadyH.nil
  go_simp
  have B1 : Hid (Below W.heap.size W (W.alloc (.cells #[.int .i64 v] 2)).drew) := (bal (b0 W) _).drew
  refine hK.out _ _ (by exact ⟨cellOf_be d0' (Hid.out B1), cellOf_be d1' (Hid.out B1)⟩) (fun hHeld => ?_)
  clear hK K
  try simp only [Act.put, List.setIfInBounds_toArray, List.set_cons_zero, List.set_cons_succ]
  clear hHeld0
  have hHeld0 := hHeld
  clear hHeld
  refine wpAnyH_ready (rs := [6]) (by kernel_rfl) (by simp) ?_
  refine AllReadyH.cons rfl (fun K hK => ?_) AllReadyH.nil
  go_simp
  have B2 : Hid (Below W.heap.size W ((W.alloc (.cells #[.int .i64 v] 2)).alloc (.cells #[.slice A2 L c2, .slice (some ⟨W.heap.size, 0, none⟩) 1 1] 23)).drew) := (bal (bal (b0 W) _) _).drew
  refine hK.out _ _ (by exact ⟨cellOf_be d0' (Hid.out B2), cellOf_be d1' (Hid.out B2)⟩) (fun hHeld => ?_)
  clear hK K
  try simp only [Act.put, List.setIfInBounds_toArray, List.set_cons_zero, List.set_cons_succ]
  clear hHeld0
  have hHeld0 := hHeld
  clear hHeld
  have hz2' : ((W.alloc (.cells #[.int .i64 v] 2)).alloc (.cells #[.slice A2 L c2, .slice (some ⟨W.heap.size, 0, none⟩) 1 1] 23)).heap.size = W.heap.size + 1 + 1 := by simp
  have HP : Hid (Parts ((W.alloc (.cells #[.int .i64 v] 2)).alloc (.cells #[.slice A2 L c2, .slice (some ⟨W.heap.size, 0, none⟩) 1 1] 23)).drew (W.heap.size + 1) 2 (M.pair2 b v)) := fun j hj => by
    have hq0 := World.cell?_alloc_new (W.alloc (.cells #[.int .i64 v] 2)) #[.slice A2 L c2, .slice (some ⟨W.heap.size, 0, none⟩) 1 1] 23 0
    have hq1 := World.cell?_alloc_new (W.alloc (.cells #[.int .i64 v] 2)) #[.slice A2 L c2, .slice (some ⟨W.heap.size, 0, none⟩) 1 1] 23 1
    rw [World.size_alloc] at hq0 hq1
    match j, hj with
    | 0, _ => exact ⟨A2, c2, by show ((W.alloc (.cells #[.int .i64 v] 2)).alloc (.cells #[.slice A2 L c2, .slice (some ⟨W.heap.size, 0, none⟩) 1 1] 23)).cell? _ = _; rw [hq0]; simp [M.pair2, hL.out], by have := (H2.out.al (.cells #[.int .i64 v] 2)).al (.cells #[.slice A2 L c2, .slice (some ⟨W.heap.size, 0, none⟩) 1 1] 23); have h9 : Ints ((W.alloc (.cells #[.int .i64 v] 2)).alloc (.cells #[.slice A2 L c2, .slice (some ⟨W.heap.size, 0, none⟩) 1 1] 23)).drew ((W.alloc (.cells #[.int .i64 v] 2)).alloc (.cells #[.slice A2 L c2, .slice (some ⟨W.heap.size, 0, none⟩) 1 1] 23)).drew.heap.size A2 b := this; simpa [M.pair2] using h9, by simpa using hz2.out⟩
    | 1, _ => exact ⟨some ⟨W.heap.size, 0, none⟩, 1, by show ((W.alloc (.cells #[.int .i64 v] 2)).alloc (.cells #[.slice A2 L c2, .slice (some ⟨W.heap.size, 0, none⟩) 1 1] 23)).cell? _ = _; rw [hq1]; simp [M.pair2], by
        have := ((ints_of_own64 (own64_one' (w := W) (B := 0) (Nat.zero_le _) v)).al (.cells #[.slice A2 L c2, .slice (some ⟨W.heap.size, 0, none⟩) 1 1] 23)); have h9 : Ints ((W.alloc (.cells #[.int .i64 v] 2)).alloc (.cells #[.slice A2 L c2, .slice (some ⟨W.heap.size, 0, none⟩) 1 1] 23)).drew ((W.alloc (.cells #[.int .i64 v] 2)).alloc (.cells #[.slice A2 L c2, .slice (some ⟨W.heap.size, 0, none⟩) 1 1] 23)).drew.heap.size (some ⟨W.heap.size, 0, none⟩) [v] := this; simpa [M.pair2] using h9, fun e => by cases e⟩
  have HLen : Hid (∀ j, j < 2 → (M.pair2 b v j).length ≤ 24) := fun j hj => by
    match j, hj with
    | 0, _ => simp only [M.pair2]; have := hL.out; simp; omega
    | 1, _ => simp [M.pair2]
  have HC := Lib.hid (concat (W.heap.size + 1) 2 (M.pair2 b v) ((W.alloc (.cells #[.int .i64 v] 2)).alloc (.cells #[.slice A2 L c2, .slice (some ⟨W.heap.size, 0, none⟩) 1 1] 23)).drew (by omega) HLen (by show _ < ((W.alloc (.cells #[.int .i64 v] 2)).alloc (.cells #[.slice A2 L c2, .slice (some ⟨W.heap.size, 0, none⟩) 1 1] 23)).heap.size; omega) HP)
  clear HP HLen
  refine wpAnyH_ready (rs := [7]) (by kernel_rfl) (by simp) ?_
  refine AllReadyH.cons rfl (fun K hK => ?_) AllReadyH.nil
  go_simp
  go_at_call 159
  refine HC.out.mono ?_
  rintro e w5 ⟨A5, c5, n5, rfl, ho5, hb5⟩
  go_wp2_with fail
  rw [M.catTo_pair2] at ho5
  have hn5 : n5 = L + 1 := by have := own64_len ho5; rw [List.length_append, hL.out] at this; exact this
  subst hn5
  obtain ⟨g5, rfl⟩ : ∃ g5, A5 = some ⟨g5, 0, none⟩ := by
    rcases ho5.2 with ⟨q1, q2⟩ | ⟨g5, cap, cur, hv, _⟩
    · simp at q2
    · injection hv with q1; exact ⟨g5, q1⟩
  have B3 : Hid (Below W.heap.size W w5) := btr B2.out hb5
  have Ho5 : Hid (Own64 w5 W.heap.size (.slice (some ⟨g5, 0, none⟩) (L + 1) c5) (b ++ [v])) := own_mono ho5 (by show _ ≤ ((W.alloc (.cells #[.int .i64 v] 2)).alloc (.cells #[.slice A2 L c2, .slice (some ⟨W.heap.size, 0, none⟩) 1 1] 23)).heap.size; omega)
  clear ho5 hb5 HC
  refine hK.out _ _ (by exact ⟨cellOf_be d0' (Hid.out B3), cellOf_be d1' (Hid.out B3)⟩) (fun hHeld => ?_)
  clear hK K
  try simp only [Act.put, List.setIfInBounds_toArray, List.set_cons_zero, List.set_cons_succ]
  clear hHeld0
  have hHeld0 := hHeld
  clear hHeld
  refine anyTake 8 (some 13) (.agg #[.slice A n c, .slice (some ⟨g5, 0, none⟩) (L + 1) c5]) rfl rfl (by kernel_rfl) (by kernel_rfl) (by kernel_rfl) (fun _ _ _ h => h) (by rfl) (by intro w hSw; (try dsimp only at hSw); go_simp) (by assumption) ?_
  try simp only [Act.put, List.setIfInBounds_toArray, List.set_cons_zero, List.set_cons_succ]
  have y0 := cellOf_be z0 B3.out
  have y1 := cellOf_be z1 B3.out
  have zh5 : w5.heap[w.heap.size + 1]? = some (.cells #[.slice none 0 0, .slice none 0 0] 118 (0, 0)) := (B3.out.block _ (by have := hzW.out; omega)).trans zh.out
  have q0 : w5.frozen? ⟨w.heap.size + 1, 0, none⟩ = false := by simp [World.frozen?, zh5]
  have q1 : w5.frozen? ⟨w.heap.size + 1, 1, none⟩ = false := by simp [World.frozen?, zh5]
  have q2 : (w5.setCell ⟨w.heap.size + 1, 0, none⟩ (.slice A n c)).frozen? ⟨w.heap.size + 1, 1, none⟩ = false := by rw [World.frozen?_setCell]; exact q1
  have e5 := cellOf_be d0' B3.out
  have e6 := cellOf_be d1' B3.out
  have hzz := hzW.out
  have hgb := (World.ownsRow.lt Ho5.out g5 rfl).1
  have hB5 := Lib.hid (btr hB0.out B3.out)
  have hF5 : Hid (Below w.heap.size w ((w5.setCell ⟨w.heap.size + 1, 0, none⟩ (.slice A n c)).setCell ⟨w.heap.size + 1, 1, none⟩ (.slice (some ⟨g5, 0, none⟩) (L + 1) c5))) := below_setCell (below_setCell hB5.out (by omega) _) (by omega) _
  have hO5 : Hid (Own64 ((w5.setCell ⟨w.heap.size + 1, 0, none⟩ (.slice A n c)).setCell ⟨w.heap.size + 1, 1, none⟩ (.slice (some ⟨g5, 0, none⟩) (L + 1) c5)) W.heap.size (.slice (some ⟨g5, 0, none⟩) (L + 1) c5) (b ++ [v])) := own_far (own_far Ho5.out (by omega) _) (by omega) _
  have p0 : ((w5.setCell ⟨w.heap.size + 1, 0, none⟩ (.slice A n c)).setCell ⟨w.heap.size + 1, 1, none⟩ (.slice (some ⟨g5, 0, none⟩) (L + 1) c5)).cell? ⟨w.heap.size + 1, 0, none⟩ = some (.slice A n c) := (World.cell?_setCell_other _ _ _ _ (by intro e; injection e with e1 e2; omega)).trans (World.cell?_setCell_same _ _ _ y0)
  have p1 : ((w5.setCell ⟨w.heap.size + 1, 0, none⟩ (.slice A n c)).setCell ⟨w.heap.size + 1, 1, none⟩ (.slice (some ⟨g5, 0, none⟩) (L + 1) c5)).cell? ⟨w.heap.size + 1, 1, none⟩ = some (.slice (some ⟨g5, 0, none⟩) (L + 1) c5) := World.cell?_setCell_same _ _ _ ((World.cell?_setCell_other _ _ _ _ (by intro e; injection e with e1 e2; omega)).trans y1)
  have s0 : ((w5.setCell ⟨w.heap.size + 1, 0, none⟩ (.slice A n c)).setCell ⟨w.heap.size + 1, 1, none⟩ (.slice (some ⟨g5, 0, none⟩) (L + 1) c5)).cell? ⟨w.heap.size, 0, none⟩ = some (.slice A n c) := (World.cell?_setCell_other _ _ _ _ (by intro e; injection e with e1; omega)).trans ((World.cell?_setCell_other _ _ _ _ (by intro e; injection e with e1; omega)).trans e5)
  have s1 : ((w5.setCell ⟨w.heap.size + 1, 0, none⟩ (.slice A n c)).setCell ⟨w.heap.size + 1, 1, none⟩ (.slice (some ⟨g5, 0, none⟩) (L + 1) c5)).cell? ⟨w.heap.size, 1, none⟩ = some (.slice A2 L c2) := (World.cell?_setCell_other _ _ _ _ (by intro e; injection e with e1; omega)).trans ((World.cell?_setCell_other _ _ _ _ (by intro e; injection e with e1; omega)).trans e6)
  have HF5 := hF5
  clear hzz
  refine wpAnyH_ready (rs := [9]) (by kernel_rfl) (by simp) ?_
  refine AllReadyH.cons rfl (fun K hK => ?_) AllReadyH.nil
  go_simp
  refine hK.out _ _ ⟨s0, s1⟩ (fun hHeld => ?_)
  clear hK K hHeld
  refine wpAnyH_done (by kernel_rfl) ?_ _
  clear y0 y1 q0 q1 q2 s0 s1 e5 e6 hHeld0 z0 z1 zh5
  go_wp2_with fail
  refine bodyPost_ret (v := .agg #[.slice A n c, .slice (some ⟨g5, 0, none⟩) (L + 1) c5]) (by simp [results, Try.results121, go_sem, p0, p1]) rfl ?_
  exact ⟨g5, c5, rfl, own_mono hO5.out (by have := hzW.out; omega), hF5.out⟩
end Go.Proofs.Ytbdmmeoelagdcaa

/- slices.Index: the first place of a number. -/
namespace Go.Proofs.Ytbdmmeoelagdcaa
open Go.RowKit

namespace M
theorem nextOf_mem (l : List Int) (x : Int) : ∀ (m k : Nat), k + m = l.length → decide (0 ≤ nextOf l x k m) = decide (x ∈ l.drop k) := by
  intro m
  induction m with
  | zero => intro k h; rw [List.drop_of_length_le (by omega)]; simp [nextOf]
  | succ m ih =>
    intro k h
    obtain ⟨y, hy⟩ : ∃ y, l[k]? = some y := ⟨_, List.getElem?_eq_getElem (by omega)⟩
    by_cases hyx : y = x
    · subst hyx
      rw [nextOf_hit hy, drop_at hy, decide_eq_true (by omega), decide_eq_true List.mem_cons_self]
    · rw [nextOf_miss hy hyx, ih (k + 1) (by omega), drop_at hy]
      have e : (x ∈ y :: l.drop (k + 1)) = (x ∈ l.drop (k + 1)) := by
        rw [List.mem_cons]
        exact propext ⟨fun h => h.resolve_left (fun e => hyx e.symm), .inr⟩
      simp only [e]
theorem idxOf_mem (l : List Int) (x : Int) : decide (0 ≤ idxOf l x) = decide (x ∈ l) := by
  have := nextOf_mem l x l.length 0 (by omega)
  rw [List.drop_zero] at this
  exact this
end M

set_option maxHeartbeats 1000000 in
theorem indexFirst (A : Option Addr) (gs : List Int) (g c : Nat) (s : Int) (w : World) (hg : Hid (gs.length = g)) (hg' : g ≤ 1048576) (h : Hid (Ints w w.heap.size A gs)) (r : Int) (hr : Hid (M.idxOf gs s = r)) :
    Calls Try.prog 170 #[.slice A g c, .int .i64 s] w fun e w' => e = .returned (.int .i64 r) ∧ w = w' := by
  have h0 : Hid (M.nextOf gs s 0 (g - 0) = r) := by show _ = _; rw [← hr.out, M.idxOf, hg.out]; rfl
  clear hr
  go_enter Try.func170, Try.ntmps170
  go_wp2
  go_loopw [8] (fun i wr => ∃ k : Nat, k ≤ g ∧ i = .int .i64 (k : Int) ∧ w = wr ∧ Hid (M.nextOf gs s k (g - k) = r)) (fun i _ => g - (intOf i).toNat)
  case atStart => exact ⟨0, Nat.zero_le _, rfl, rfl, h0⟩
  case round =>
    obtain ⟨k, hk, rfl, rfl, hn⟩ := hrel
    clear h0
    by_cases hlt : k < g
    · have hki : (k : Int) < (g : Int) := by omega
      have hk0 : (0 : Int) ≤ (k : Int) := by omega
      obtain ⟨b, off, x, rfl, hbB, hc, hX⟩ := h.out.at_ (k := k) (by rw [hg.out]; exact hlt)
      have hm : g - k = g - (k + 1) + 1 := by omega
      by_cases hxs : s = x
      · subst hxs
        have hin : Hid ((k : Int) = r) := by show _ = _; rw [← hn.out, hm, M.nextOf_hit hX.out]
        clear hn hX hm
        go_wp2
        go_ret
        exact ⟨by rw [← hin.out]; rfl, rfl⟩
      · have hb : (s == x) = false := by simpa using hxs
        have hn2 : Hid (M.nextOf gs s (k + 1) (g - (k + 1)) = r) := by show _ = _; rw [← hn.out, hm, M.nextOf_miss hX.out (fun e => hxs e.symm)]
        clear hxs hn hX hm
        go_wp2
        go_roundw
        case rel => exact ⟨k + 1, by omega, by go_num, trivial, hn2⟩
        case measure => simp [intOf]; omega
    · obtain rfl : k = g := by omega
      have hge : ¬ (k : Int) < (k : Int) := by omega
      have hout : Hid (-1 = r) := by show _ = _; rw [← hn.out, Nat.sub_self]; rfl
      clear hn
      go_wp2
      go_ret
      exact ⟨by rw [← hout.out]; rfl, rfl⟩

theorem containsIs (A : Option Addr) (gs : List Int) (g c : Nat) (s : Int) (w : World) (hg : Hid (gs.length = g)) (hg' : g ≤ 1048576) (h : Hid (Ints w w.heap.size A gs)) (b : Bool) (hb : Hid (decide (s ∈ gs) = b)) :
    Calls Try.prog 149 #[.slice A g c, .int .i64 s] w fun e w' => e = .returned (.bool b) ∧ w = w' := by
  obtain ⟨r, hr⟩ : ∃ r, Hid (M.idxOf gs s = r) := ⟨_, rfl⟩
  have hd : decide ((0 : Int) ≤ r) = b := by rw [← hr.out, M.idxOf_mem, hb.out]
  go_enter Try.func149, Try.ntmps149
  go_wp2_with fail
  refine (indexFirst A gs g c s w hg hg' h r hr).mono ?_
  rintro e w' ⟨rfl, rfl⟩
  clear hr hb
  cases b
  · go_wp2
    go_ret
    exact ⟨rfl, rfl⟩
  · go_wp2
    go_ret
    exact ⟨rfl, rfl⟩
end Go.Proofs.Ytbdmmeoelagdcaa

/- ready: the nodes that can come next, as the program finds them; slices.Max and slices.Min of an ascending list. -/
namespace Go.Proofs.Ytbdmmeoelagdcaa
open Go.RowKit

namespace M
theorem rdy_nil {n : Nat} {ps : List Int} (h : 1 ≤ n) : rdyTo ps [] n = [0] := by
  have h1 : ∀ m, rdyTo ps [] (1 + m) = [0] := by
    intro m
    induction m with
    | zero => exact rdyTo_hit (ps := ps) (b := []) (k := 0) (decide_eq_true ⟨by simp, .inl rfl⟩)
    | succ m ih =>
      have : rdyB ps [] (1 + m) = false := decide_eq_false fun h => by
        rcases h.2 with e | e
        · omega
        · simp at e
      rw [show 1 + (m + 1) = (1 + m) + 1 by omega, rdyTo_miss this, ih]
  have := h1 (n - 1)
  rwa [show 1 + (n - 1) = n by omega] at this
theorem rdyB_code {n : Nat} {ps b : List Int} (hp : Parents n ps) (hb : Bgn n ps b) (hne : b ≠ []) {v : Nat} (hv : v < n) : rdyB ps b v = (decide (parOf ps (v : Int) ∈ b) && !decide ((v : Int) ∈ b)) := by
  have h0 := bgn_root hp hb hne
  rcases Nat.eq_zero_or_pos v with e | e
  · subst e
    have h1 : ¬ parOf ps ((0 : Nat) : Int) ∈ b := fun h => by
      have := (hb.2.1 _ h).1
      have h2 := hp.2.1
      have h3 : parOf ps ((0 : Nat) : Int) = parOf ps 0 := rfl
      omega
    rw [decide_eq_false h1, Bool.false_and]
    exact decide_eq_false fun h => h.1 h0
  · by_cases h1 : parOf ps (v : Int) ∈ b
    · rw [decide_eq_true h1, Bool.true_and]
      by_cases h2 : (v : Int) ∈ b
      · rw [decide_eq_true h2]; exact decide_eq_false fun h => h.1 h2
      · rw [decide_eq_false h2]; exact decide_eq_true ⟨h2, .inr h1⟩
    · rw [decide_eq_false h1, Bool.false_and]
      exact decide_eq_false fun h => by
        rcases h.2 with e2 | e2
        · omega
        · exact h1 e2
theorem asc_at {r : List Int} (h : r.Pairwise (· < ·)) {i j : Nat} {x y : Int} (hij : i < j) (hx : r[i]? = some x) (hy : r[j]? = some y) : x < y := by
  obtain ⟨h1, h2⟩ := List.getElem?_eq_some_iff.1 hx
  obtain ⟨h3, h4⟩ := List.getElem?_eq_some_iff.1 hy
  have := List.pairwise_iff_getElem.1 h i j h1 h3 hij
  rw [h2, h4] at this
  exact this
end M

set_option maxHeartbeats 2000000 in
theorem pickMin (A : Option Addr) (xs : List Int) (n c : Nat) (w : World) (hn : Hid (xs.length = n)) (hx : n ≤ 1000000) (hpos : 0 < n) (hasc : Hid (xs.Pairwise (· < ·))) (h : Hid (Ints w w.heap.size A xs)) :
    Calls Try.prog 123 #[.slice A n c] w fun e w' => e = .returned (.int .i64 (M.pick true xs)) ∧ w = w' := by
  obtain ⟨x0, hx0⟩ : ∃ x, Hid (xs[0]? = some x) := ⟨_, Lib.hid (List.getElem?_eq_getElem (by rw [hn.out]; exact hpos))⟩
  obtain ⟨b, off, rfl, hbB, hcells⟩ := h.out (by rw [hn.out]; exact hpos)
  have c0 : w.cell? ⟨b, off, none⟩ = some (.int .i64 x0) := by simpa using hcells 0 _ hx0.out
  have Hcells := Lib.hid hcells
  have hl1 : 1 ≤ n := hpos
  have hd1 : ¬ (n : Int) < 1 := by omega
  have he : Hid (M.pick true xs = x0) := by show _ = _; simp [M.pick, hx0.out]
  clear hcells
  go_enter Try.func123, Try.ntmps123
  go_wp2
  go_loop [3, 4] (fun m i => ∃ (k : Nat), 1 ≤ k ∧ k ≤ n ∧ i = .int .i64 k ∧ m = .int .i64 x0) (fun _ i => n - (intOf i).toNat)
  case atStart => exact ⟨1, Nat.le_refl _, hl1, rfl, rfl⟩
  case round =>
    obtain ⟨k, hk1, hk, rfl, rfl⟩ := hrel
    clear c0
    by_cases hlt : k < n
    · obtain ⟨x, hX⟩ : ∃ x, Hid (xs[k]? = some x) := ⟨_, List.getElem?_eq_getElem (by rw [hn.out]; exact hlt)⟩
      have g := Hcells.out k _ hX.out
      have hyx : x0 < x := M.asc_at hasc.out (by omega) hx0.out hX.out
      go_wp2
      all_goals
        go_round
        case rel => exact ⟨k + 1, by omega, by omega, by go_num, by (first | rfl | (congr 1; omega))⟩
        case measure => simp [intOf]; omega
    · obtain rfl : k = n := by omega
      go_wp2
      go_ret
      exact ⟨by rw [he.out]; rfl, rfl⟩

set_option maxHeartbeats 4000000 in
set_option maxRecDepth 100000 in
theorem ready (A A2 : Option Addr) (xs b : List Int) (n c L c2 : Nat) (w : World) (hn : Hid (xs.length = n)) (hc1 : n ≤ c) (hc2 : c ≤ 1000000000000) (ht : Hid (M.isTree xs = true)) (hpar : Hid (M.Parents n (M.parents xs))) (hbg : Hid (M.Bgn n (M.parents xs) b)) (hL : Hid (b.length = L)) (h : Hid (Ints w w.heap.size A xs)) (h2 : Hid (Ints w w.heap.size A2 b)) :
    Calls Try.prog 120 #[.agg #[.slice A n c, .slice A2 L c2]] w fun e w' => ∃ A' m c', e = .returned (.slice A' m c') ∧ Own64 w' w.heap.size (.slice A' m c') (M.rdyTo (M.parents xs) b n) ∧ Below w.heap.size w w' := by
  have hxl := M.tree_len ht.out
  rw [hn.out] at hxl
  have h24 := hxl.2
  have h1 := hxl.1
  have hLn : L ≤ n := by rw [← hL.out]; exact M.bgn_len hbg.out
  obtain ⟨d0, d1⟩ := order_cells w (.slice A n c) (.slice A2 L c2) 118
  have hB0 := Lib.hid (bal (b0 w) (.cells #[.slice A n c, .slice A2 L c2] 118))
  have H1 := Lib.hid (h.out.al (.cells #[.slice A n c, .slice A2 L c2] 118))
  have H2 := Lib.hid (h2.out.al (.cells #[.slice A n c, .slice A2 L c2] 118))
  have hzW : w.heap.size < (w.alloc (.cells #[.slice A n c, .slice A2 L c2] 118)).heap.size := by simp
  obtain ⟨W, hW⟩ : ∃ W, W = w.alloc (.cells #[.slice A n c, .slice A2 L c2] 118) := ⟨_, rfl⟩
  by_cases hL0 : L = 0
  · have hb0 : b = [] := List.length_eq_zero_iff.1 (by rw [hL.out]; exact hL0)
    have hR : M.rdyTo (M.parents xs) b n = [0] := by rw [hb0]; exact M.rdy_nil h1
    subst hL0
    rw [hR]
    have ho : Hid (Own64 (W.alloc (.cells #[.int .i64 0] 2)) w.heap.size (.slice (some ⟨W.heap.size, 0, none⟩) 1 1) [0]) := own64_one' (by rw [hW]; omega) 0
    have hB1 : Hid (Below w.heap.size w (W.alloc (.cells #[.int .i64 0] 2))) := by rw [hW]; exact bal hB0.out _
    have HW := Lib.hid hW
    clear hR hb0 hbg hW h h2 H1 H2
    go_enter Try.func120, Try.ntmps120
    go_wp2
    go_ret
    rw [HW.out] at ho hB1
    simp only [World.size_alloc] at ho
    exact ⟨some ⟨w.heap.size + 1, 0, none⟩, 1, 1, rfl, ho.out, hB1.out⟩
  · have hne : b ≠ [] := fun e => hL0 (by rw [← hL.out, e]; rfl)
    have hLe : ((L : Int) == 0) = false := by simp; omega
    rw [← hW] at d0 d1 hB0 H1 H2 hzW
    have hcode := Lib.hid (fun v (hv : v < n) => M.rdyB_code hpar.out hbg.out hne hv)
    have HP := Lib.hid ((callsIn_wide (n := 5)).1 (parentsIn_in A xs c W (by rw [hn.out]; exact hc1) hc2 ht H1.out))
    rw [hn.out] at HP
    clear h h2 H1 hbg hne
    go_enter Try.func120, Try.ntmps120
    go_wp2_with fail
    rw [← hW]
    clear hW
    refine HP.out.mono ?_
    rintro e w3 ⟨A3, c3, ps, rfl, hok, ho, hb⟩
    have hps := Lib.hid (M.parents_eq ht.out hok.out)
    rw [hps.out] at hcode hpar
    have hpl : Hid (ps.length = n) := by show _ = _; rw [hok.out.1, hn.out]
    have Hp := Lib.hid (ints_of_own64 ho)
    have hB3 := Lib.hid (btr hB0.out hb)
    have hbW3 := Lib.hid hb
    have hz3 : w.heap.size ≤ w3.heap.size := hB3.out.size
    have hst : Hid (Own64 w3 w3.heap.size (.slice none 0 0) (M.rdyTo ps b 0)) := own64_nil _ _
    clear ho hb HP hok hB0
    go_wp2
    go_loopw [3, 4, 5, 16] (fun q _ _ i wr => ∃ (k m : Nat) (A' : Option Addr) (c' : Nat), k ≤ n ∧ i = .int .i64 (k : Int) ∧ q = .slice A' m c' ∧ Hid (Own64 wr w3.heap.size (.slice A' m c') (M.rdyTo ps b k)) ∧ Hid (Below w3.heap.size w3 wr)) (fun _ _ _ i _ => n - (intOf i).toNat)
    case atStart => exact ⟨0, 0, none, 0, Nat.zero_le _, rfl, rfl, hst, Below.refl _ _⟩
    case round =>
      obtain ⟨k, m, A', c', hk, rfl, rfl, hr, hbr⟩ := hrel
      clear hst
      have hml := own64_len hr.out
      have hrl := M.rdyTo_len ps b k
      have hm1 : m ≤ 1000000 := by omega
      have hbW := Lib.hid (btr hbW3.out hbr.out)
      have f0 := cellOf_be d0 hbW.out
      have f1 := cellOf_be d1 hbW.out
      have hI2 := Lib.hid (H2.out.be hbW.out)
      have hzr : w3.heap.size ≤ wr.heap.size := hbr.out.size
      clear hml hrl
      by_cases hkn : k < n
      · obtain ⟨pb, po, p, rfl, hpb, g1, hX⟩ := (Hp.out.be hbr.out).at_ (k := k) (by rw [hpl.out]; exact hkn)
        have hpp : Hid (M.parOf ps (k : Int) = p) := by have := M.par_at hpar.out hkn; rw [hX.out] at this; injection this with this; exact this.symm
        have hck := hcode.out k hkn
        rw [hpp.out] at hck
        obtain ⟨q1, hq1⟩ : ∃ q, Hid (decide (p ∈ b) = q) := ⟨_, rfl⟩
        obtain ⟨q2, hq2⟩ : ∃ q, Hid (decide ((k : Int) ∈ b) = q) := ⟨_, rfl⟩
        rw [hq1.out, hq2.out] at hck
        have Hck := Lib.hid hck
        have hki : (k : Int) < (n : Int) := by omega
        have hk0 : (0 : Int) ≤ (k : Int) := by omega
        have HC1 := Lib.hid (containsIs A2 b L c2 p wr hL (by omega) hI2 q1 hq1)
        have HC2 := Lib.hid (containsIs A2 b L c2 (k : Int) wr hL (by omega) hI2 q2 hq2)
        clear hX hpp hck
        cases q1
        · have hs := M.rdyTo_miss Hck.out
          rw [← hs] at hr
          clear hs
          go_wp2_with fail
          refine HC1.out.mono ?_
          rintro e w' ⟨rfl, rfl⟩
          go_wp2
          go_roundw
          case rel => exact ⟨k + 1, m, A', c', by omega, by go_num, rfl, hr, hbr⟩
          case measure => simp [intOf]; omega
        · cases q2
          · have hs := Lib.hid (M.rdyTo_hit Hck.out)
            go_wp2_with fail
            refine HC1.out.mono ?_
            rintro e w' ⟨rfl, rfl⟩
            go_wp2_with fail
            refine HC2.out.mono ?_
            rintro e w' ⟨rfl, rfl⟩
            go_wp2_with (at_builtin; refine push64 rfl (.tmp 32) (.tmp 34) rfl wr w3.heap.size A' m c' (M.rdyTo ps b k) (k : Int) rfl rfl hr hzr hm1 ?_; intro A9 c9 w9 ho9 hb9)
            rw [← hs.out] at ho9
            have hb10 := Lib.hid (hbr.out.trans hb9.out)
            go_roundw
            case rel => exact ⟨k + 1, m + 1, A9, c9, by omega, by go_num, rfl, ho9, hb10⟩
            case measure => simp [intOf]; omega
          · have hs := M.rdyTo_miss Hck.out
            rw [← hs] at hr
            clear hs
            go_wp2_with fail
            refine HC1.out.mono ?_
            rintro e w' ⟨rfl, rfl⟩
            go_wp2_with fail
            refine HC2.out.mono ?_
            rintro e w' ⟨rfl, rfl⟩
            go_wp2
            go_roundw
            case rel => exact ⟨k + 1, m, A', c', by omega, by go_num, rfl, hr, hbr⟩
            case measure => simp [intOf]; omega
      · obtain rfl : k = n := by omega
        have hge : ¬ (k : Int) < (k : Int) := by omega
        have ho6 := Lib.hid (own_mono hr.out hz3)
        have hB6 := Lib.hid (btr hB3.out hbr.out)
        clear f0 f1
        go_wp2
        go_ret
        exact ⟨A', m, c', rfl, by rw [hps.out]; exact ho6.out, hB6.out⟩
end Go.Proofs.Ytbdmmeoelagdcaa

/- What completedBy's walks share. Written by genc9.py. -/
namespace Go.Proofs.Ytbdmmeoelagdcaa
open Go.RowKit

namespace M
/-- what is to come out, told from what is there -/
theorem fill_on {least : Bool} {n : Nat} {ps b R : List Int} (hp : Parents n ps) (hb : Bgn n ps b) (h : fill least n ps (n - b.length) b = R) (hl : b.length < n) :
    0 < (rdyTo ps b n).length ∧ Bgn n ps (b ++ [pick least (rdyTo ps b n)]) ∧ fill least n ps (n - (b ++ [pick least (rdyTo ps b n)]).length) (b ++ [pick least (rdyTo ps b n)]) = R := by
  have hne := rdy_some hp hl
  exact ⟨List.length_pos_iff.2 hne, bgn_step hp hb (pick_mem hne), by rw [← h, fill_step hl]⟩
end M

theorem frozen_be {w w' : World} {g k : Nat} (h : w.frozen? ⟨g, k, none⟩ = false) (hg : g < w.heap.size) (hb : Below w.heap.size w w') : w'.frozen? ⟨g, k, none⟩ = false := by
  have := hb.block g hg
  simp only [World.frozen?, this] at h ⊢
  exact h
/-- how many nodes are there, as the box tells -/
def roomIn (n g : Nat) (w : World) : Nat := match w.cell? ⟨g, 1, none⟩ with | some (.slice _ m _) => n - m | _ => 0
theorem roomIn_at {n g m c : Nat} {A : Option Addr} {w : World} (h : w.cell? ⟨g, 1, none⟩ = some (.slice A m c)) : roomIn n g w = n - m := by rw [roomIn, h]

end Go.Proofs.Ytbdmmeoelagdcaa

/- completedBy with slices.Min: a beginning of a growing order gone on with, in memory. Written by genc9.py. -/
namespace Go.Proofs.Ytbdmmeoelagdcaa
open Go.RowKit

set_option maxHeartbeats 8000000 in
set_option maxRecDepth 100000 in
theorem completedMin (A A2 : Option Addr) (xs b : List Int) (n c L c2 : Nat) (w : World) (hn : Hid (xs.length = n)) (hc1 : n ≤ c) (hc2 : c ≤ 1000000000000) (ht : Hid (M.isTree xs = true)) (hpar : Hid (M.Parents n (M.parents xs))) (hbg : Hid (M.Bgn n (M.parents xs) b)) (hL : Hid (b.length = L)) (B₀ : Nat) (hB₀ : B₀ ≤ w.heap.size) (h : Hid (Ints w w.heap.size A xs)) (h2 : Hid (Own64 w B₀ (.slice A2 L c2) b)) :
    Calls Try.prog 122 #[.agg #[.slice A n c, .slice A2 L c2], .func (.func 123) #[] #[]] w fun e w' => ∃ A' c', e = .returned (.slice A' n c') ∧ Own64 w' B₀ (.slice A' n c') (M.fill true n (M.parents xs) (n - b.length) b) ∧ Below w.heap.size w w' := by
  have hxl := M.tree_len ht.out
  rw [hn.out] at hxl
  have h24 := hxl.2
  have hLn : L ≤ n := by rw [← hL.out]; exact M.bgn_len hbg.out
  obtain ⟨d0, d1⟩ := order_cells w (.slice A n c) (.slice A2 L c2) 118
  have zh : Hid ((w.alloc (.cells #[.slice A n c, .slice A2 L c2] 118)).heap[w.heap.size]? = some (.cells #[.slice A n c, .slice A2 L c2] 118 (0, 0))) := World.alloc_heap_new w _
  have q0 : Hid ((w.alloc (.cells #[.slice A n c, .slice A2 L c2] 118)).frozen? ⟨w.heap.size, 0, none⟩ = false) := by show _ = _; simp only [World.frozen?, zh.out]; simp
  have q1 : Hid ((w.alloc (.cells #[.slice A n c, .slice A2 L c2] 118)).frozen? ⟨w.heap.size, 1, none⟩ = false) := by show _ = _; simp only [World.frozen?, zh.out]; simp
  have hB0 := Lib.hid (bal (b0 w) (.cells #[.slice A n c, .slice A2 L c2] 118))
  have H1 := Lib.hid (h.out.al (.cells #[.slice A n c, .slice A2 L c2] 118))
  have HI00 := Lib.hid h.out
  have HI0 : Hid (Ints (w.alloc (.cells #[.slice A n c, .slice A2 L c2] 118)) w.heap.size A xs) := h.out.alloc (Nat.le_refl _) _
  have Ho : Hid (Own64 (w.alloc (.cells #[.slice A n c, .slice A2 L c2] 118)) B₀ (.slice A2 L c2) b) := h2.out.alloc _
  have hne0 : Hid (∀ k, (Value.slice A2 L c2).ownBlock = some k → k ≠ w.heap.size) := fun k hk => by have := (World.ownsRow.lt h2.out k hk).2; omega
  have hzW : (w.alloc (.cells #[.slice A n c, .slice A2 L c2] 118)).heap.size = w.heap.size + 1 := by simp
  obtain ⟨R, hR⟩ : ∃ R, Hid (M.fill true n (M.parents xs) (n - b.length) b = R) := ⟨_, rfl⟩
  rw [hR.out]
  obtain ⟨W, hW⟩ : ∃ W, W = w.alloc (.cells #[.slice A n c, .slice A2 L c2] 118) := ⟨_, rfl⟩
  rw [← hW] at d0 d1 q0 q1 hB0 H1 Ho hzW HI0
  have D0 := Lib.hid d0
  have D1 := Lib.hid d1
  clear h h2 hxl zh d0 d1
  go_enter Try.func122, Try.ntmps122
  go_wp2
  rw [← hW]
  clear hW
  go_loopw [] (fun wr => ∃ (bb : List Int) (A' : Option Addr) (m c' : Nat), m ≤ n ∧ Hid (bb.length = m) ∧ Hid (M.Bgn n (M.parents xs) bb) ∧ Hid (M.fill true n (M.parents xs) (n - bb.length) bb = R) ∧ Hid (Own64 wr B₀ (.slice A' m c') bb) ∧ Hid (∀ k, (Value.slice A' m c').ownBlock = some k → k ≠ w.heap.size) ∧
      Hid (wr.cell? ⟨w.heap.size, 0, none⟩ = some (.slice A n c)) ∧ Hid (wr.cell? ⟨w.heap.size, 1, none⟩ = some (.slice A' m c')) ∧ Hid (wr.frozen? ⟨w.heap.size, 0, none⟩ = false) ∧ Hid (wr.frozen? ⟨w.heap.size, 1, none⟩ = false) ∧ Hid (Ints wr w.heap.size A xs) ∧ Hid (Below w.heap.size w wr)) (fun wr => roomIn n w.heap.size wr)
  case atStart => exact ⟨b, A2, L, c2, hLn, hL, hbg, hR, Ho, hne0, D0, D1, q0, q1, HI0, hB0⟩
  case round =>
    obtain ⟨bb, A', m, c', hm, hbl, hbb, hfr, ho, hne, hc0, hc1', hq0, hq1, hI, hbr⟩ := hrel
    clear Ho hne0 D0 D1 q0 q1 hB0
    have cc0 := hc0.out
    have cc1 := hc1'.out
    have hzr : w.heap.size < wr.heap.size := World.block_lt_of_cell? _ _ cc0
    by_cases hlt : m < n
    · have hmi : (m : Int) < (n : Int) := by omega
      obtain ⟨hpos, hx3, hx4⟩ := M.fill_on hpar.out hbb.out hfr.out (by rw [hbl.out]; exact hlt)
      have hrl := M.rdyTo_len (M.parents xs) bb n
      have hasc := Lib.hid (M.rdyTo_asc (M.parents xs) bb n)
      have HRd := Lib.hid (ready A A' xs bb n c m c' wr.drew hn hc1 hc2 ht hpar hbb hbl (Lib.hid (hI.out.more (Nat.le_of_lt hzr))) (Lib.hid (ints_of_own64 ho.out)))
      obtain ⟨r, hr⟩ : ∃ r, Hid (M.rdyTo (M.parents xs) bb n = r) := ⟨_, rfl⟩
      rw [hr.out] at HRd hpos hx3 hx4 hrl hasc
      obtain ⟨x, hx⟩ : ∃ x, Hid (M.pick true r = x) := ⟨_, rfl⟩
      rw [hx.out] at hx3 hx4
      have Hx3 := Lib.hid hx3
      have Hx4 := Lib.hid hx4
      have hz2 : Hid (A' = none → c' = 0) := fun e => by
        subst e
        rcases ho.out.2 with ⟨h1, _⟩ | ⟨g, cap, cur, hv, _⟩
        · injection h1
        · cases hv
      have hm24 : m ≤ 24 := by omega
      have e0 : wr.drew.cell? ⟨w.heap.size, 0, none⟩ = some (.slice A n c) := cc0
      have e1 : wr.drew.cell? ⟨w.heap.size, 1, none⟩ = some (.slice A' m c') := cc1
      have hzd : wr.drew.heap.size = wr.heap.size := rfl
      have Hzd := Lib.hid hzd
      clear hx3 hx4 hzd
      go_wp2
      refine wp_region_held_drew (S := (fun _ => True)) (by kernel_rfl) trivial (fun hHeld0 => ?_)
      refine anyTake 1 (some 14) (.func (.func 123) #[] #[]) rfl rfl (by kernel_rfl) (by kernel_rfl) (by kernel_rfl) (fun _ _ _ h => h) (by rfl) (by intro w hSw; (try dsimp only at hSw); go_simp) (by assumption) ?_
      try simp only [Act.put, List.setIfInBounds_toArray, List.set_cons_zero, List.set_cons_succ]
      refine wpAnyH_ready (rs := [0, 2]) (by kernel_rfl) (by simp) ?_
      refine AllReadyH.cons rfl (fun K hK => ?_) (AllReadyH.cons rfl (fun K hK => ?_) AllReadyH.nil)
      · go_simp
        refine hK.out _ _ trivial (fun _ => ?_)
        clear hK K
        try simp only [Act.put, List.setIfInBounds_toArray, List.set_cons_zero, List.set_cons_succ]
        refine wpAnyH_ready (rs := [2]) (by kernel_rfl) (by simp) ?_
        refine AllReadyH.cons rfl (fun K hK => ?_) AllReadyH.nil
        go_simp
        refine hK.out _ _ trivial (fun _ => ?_)
        clear hK K
        try simp only [Act.put, List.setIfInBounds_toArray, List.set_cons_zero, List.set_cons_succ]
        refine wpAnyH_ready (rs := [3]) (by kernel_rfl) (by simp) ?_
        refine AllReadyH.cons rfl (fun K hK => ?_) AllReadyH.nil
        go_simp
        go_at_call 120
        refine HRd.out.mono ?_
        rintro e w4 ⟨A4, m4, c4, rfl, ho4, hb4⟩
        go_wp2_with fail
        have hm4 := Lib.hid (own64_len ho4)
        have hb4' : Below wr.heap.size wr w4 := btr (show Below wr.heap.size wr wr.drew from (Below.refl _ _).drew) hb4
        have k0 := cellOf_be cc0 hb4'
        have k1 := cellOf_be cc1 hb4'
        have HPk := Lib.hid (pickMin A4 r m4 c4 w4 (Lib.hid hm4.out.symm) (by have := hm4.out; omega) (by have := hm4.out; omega) hasc (Lib.hid (ints_of_own64 ho4)))
        rw [hx.out] at HPk
        have ho5 := Lib.hid (own_be (h := ho.out) hb4')
        have HWi := Lib.hid (withNode A A' bb n c m c' x w4 hbl hm24 hz2 (Lib.hid (ints_of_own64 ho5.out)))
        refine hK.out _ _ trivial (fun _ => ?_)
        clear hK K
        try simp only [Act.put, List.setIfInBounds_toArray, List.set_cons_zero, List.set_cons_succ]
        refine wpAnyH_ready (rs := [4]) (by kernel_rfl) (by simp) ?_
        refine AllReadyH.cons rfl (fun K hK => ?_) AllReadyH.nil
        go_simp
        go_at_call 123
        refine HPk.out.mono ?_
        rintro e w' ⟨rfl, rfl⟩
        go_wp2_with fail
        refine hK.out _ _ trivial (fun _ => ?_)
        clear hK K
        try simp only [Act.put, List.setIfInBounds_toArray, List.set_cons_zero, List.set_cons_succ]
        refine wpAnyH_ready (rs := [5]) (by kernel_rfl) (by simp) ?_
        refine AllReadyH.cons rfl (fun K hK => ?_) AllReadyH.nil
        go_simp
        go_at_call 121
        refine HWi.out.mono ?_
        rintro e w6 ⟨g6, c6, rfl, ho6, hb6⟩
        go_wp2_with fail
        have hb6' : Below wr.heap.size wr w6 := btr hb4' hb6
        have y0 := cellOf_be cc0 hb6'
        have y1 := cellOf_be cc1 hb6'
        have f0 := frozen_be hq0.out hzr hb6'
        have f1 := frozen_be hq1.out hzr hb6'
        have f2 : (w6.setCell ⟨w.heap.size, 0, none⟩ (.slice A n c)).frozen? ⟨w.heap.size, 1, none⟩ = false := by rw [World.frozen?_setCell]; exact f1
        have hg6 := (World.ownsRow.lt ho6 g6 rfl).1
        have hz4 : wr.heap.size ≤ w4.heap.size := hb4'.size
        have hgw : w.heap.size < g6 := by omega
        have hF9 : Hid (Below w.heap.size w ((w6.setCell ⟨w.heap.size, 0, none⟩ (.slice A n c)).setCell ⟨w.heap.size, 1, none⟩ (.slice (some ⟨g6, 0, none⟩) (m + 1) c6))) := below_setCell (below_setCell (btr hbr.out hb6') (Nat.le_refl _) _) (Nat.le_refl _) _
        have ho9 : Hid (Own64 ((w6.setCell ⟨w.heap.size, 0, none⟩ (.slice A n c)).setCell ⟨w.heap.size, 1, none⟩ (.slice (some ⟨g6, 0, none⟩) (m + 1) c6)) B₀ (.slice (some ⟨g6, 0, none⟩) (m + 1) c6) (bb ++ [x])) := own_mono (own_far (own_far ho6 (by omega) _) (by omega) _) (by omega)
        have hne9 : Hid (∀ k, (Value.slice (some ⟨g6, 0, none⟩) (m + 1) c6).ownBlock = some k → k ≠ w.heap.size) := fun k hk => by injection hk with hk; have e9 : g6 = k := hk; omega
        have p0 : ((w6.setCell ⟨w.heap.size, 0, none⟩ (.slice A n c)).setCell ⟨w.heap.size, 1, none⟩ (.slice (some ⟨g6, 0, none⟩) (m + 1) c6)).cell? ⟨w.heap.size, 0, none⟩ = some (.slice A n c) := (World.cell?_setCell_other _ _ _ _ (by intro e; injection e with e1 e2; omega)).trans (World.cell?_setCell_same _ _ _ y0)
        have p1 : ((w6.setCell ⟨w.heap.size, 0, none⟩ (.slice A n c)).setCell ⟨w.heap.size, 1, none⟩ (.slice (some ⟨g6, 0, none⟩) (m + 1) c6)).cell? ⟨w.heap.size, 1, none⟩ = some (.slice (some ⟨g6, 0, none⟩) (m + 1) c6) := World.cell?_setCell_same _ _ _ ((World.cell?_setCell_other _ _ _ _ (by intro e; injection e with e1 e2; omega)).trans y1)
        have qf0 : ((w6.setCell ⟨w.heap.size, 0, none⟩ (.slice A n c)).setCell ⟨w.heap.size, 1, none⟩ (.slice (some ⟨g6, 0, none⟩) (m + 1) c6)).frozen? ⟨w.heap.size, 0, none⟩ = false := by rw [World.frozen?_setCell, World.frozen?_setCell]; exact f0
        have qf1 : ((w6.setCell ⟨w.heap.size, 0, none⟩ (.slice A n c)).setCell ⟨w.heap.size, 1, none⟩ (.slice (some ⟨g6, 0, none⟩) (m + 1) c6)).frozen? ⟨w.heap.size, 1, none⟩ = false := by rw [World.frozen?_setCell, World.frozen?_setCell]; exact f1
        have hI9 : Hid (Ints ((w6.setCell ⟨w.heap.size, 0, none⟩ (.slice A n c)).setCell ⟨w.heap.size, 1, none⟩ (.slice (some ⟨g6, 0, none⟩) (m + 1) c6)) w.heap.size A xs) := HI00.out.keep fun p hp => hF9.out.cell hp
        refine hK.out _ _ trivial (fun _ => ?_)
        clear hK K
        try simp only [Act.put, List.setIfInBounds_toArray, List.set_cons_zero, List.set_cons_succ]
        refine wpAnyH_ready (rs := [6]) (by kernel_rfl) (by simp) ?_
        refine AllReadyH.cons rfl (fun K hK => ?_) AllReadyH.nil
        go_simp
        refine hK.out _ _ trivial (fun _ => ?_)
        clear hK K
        try simp only [Act.put, List.setIfInBounds_toArray, List.set_cons_zero, List.set_cons_succ]
        refine wpAnyH_done (by kernel_rfl) ?_ _
        clear y0 y1 f0 f1 f2 hHeld0
        go_roundw
        case rel => exact ⟨_, _, _, _, _, _, _, _, _, _, _, _, _, _, ⟨bb ++ [x], some ⟨g6, 0, none⟩, m + 1, c6, by omega, by show _ = _; rw [List.length_append, hbl.out]; rfl, Hx3, Hx4, ho9, hne9, Lib.hid p0, Lib.hid p1, Lib.hid qf0, Lib.hid qf1, hI9, hF9⟩, rfl⟩
        case measure => rw [roomIn_at p1, roomIn_at cc1]; omega
      · go_simp
        refine hK.out _ _ trivial (fun _ => ?_)
        clear hK K
        try simp only [Act.put, List.setIfInBounds_toArray, List.set_cons_zero, List.set_cons_succ]
        refine wpAnyH_ready (rs := [0, 3]) (by kernel_rfl) (by simp) ?_
        refine AllReadyH.cons rfl (fun K hK => ?_) (AllReadyH.cons rfl (fun K hK => ?_) AllReadyH.nil)
        · go_simp
          refine hK.out _ _ trivial (fun _ => ?_)
          clear hK K
          try simp only [Act.put, List.setIfInBounds_toArray, List.set_cons_zero, List.set_cons_succ]
          refine wpAnyH_ready (rs := [3]) (by kernel_rfl) (by simp) ?_
          refine AllReadyH.cons rfl (fun K hK => ?_) AllReadyH.nil
          go_simp
          go_at_call 120
          refine HRd.out.mono ?_
          rintro e w4 ⟨A4, m4, c4, rfl, ho4, hb4⟩
          go_wp2_with fail
          have hm4 := Lib.hid (own64_len ho4)
          have hb4' : Below wr.heap.size wr w4 := btr (show Below wr.heap.size wr wr.drew from (Below.refl _ _).drew) hb4
          have k0 := cellOf_be cc0 hb4'
          have k1 := cellOf_be cc1 hb4'
          have HPk := Lib.hid (pickMin A4 r m4 c4 w4 (Lib.hid hm4.out.symm) (by have := hm4.out; omega) (by have := hm4.out; omega) hasc (Lib.hid (ints_of_own64 ho4)))
          rw [hx.out] at HPk
          have ho5 := Lib.hid (own_be (h := ho.out) hb4')
          have HWi := Lib.hid (withNode A A' bb n c m c' x w4 hbl hm24 hz2 (Lib.hid (ints_of_own64 ho5.out)))
          refine hK.out _ _ trivial (fun _ => ?_)
          clear hK K
          try simp only [Act.put, List.setIfInBounds_toArray, List.set_cons_zero, List.set_cons_succ]
          refine wpAnyH_ready (rs := [4]) (by kernel_rfl) (by simp) ?_
          refine AllReadyH.cons rfl (fun K hK => ?_) AllReadyH.nil
          go_simp
          go_at_call 123
          refine HPk.out.mono ?_
          rintro e w' ⟨rfl, rfl⟩
          go_wp2_with fail
          refine hK.out _ _ trivial (fun _ => ?_)
          clear hK K
          try simp only [Act.put, List.setIfInBounds_toArray, List.set_cons_zero, List.set_cons_succ]
          refine wpAnyH_ready (rs := [5]) (by kernel_rfl) (by simp) ?_
          refine AllReadyH.cons rfl (fun K hK => ?_) AllReadyH.nil
          go_simp
          go_at_call 121
          refine HWi.out.mono ?_
          rintro e w6 ⟨g6, c6, rfl, ho6, hb6⟩
          go_wp2_with fail
          have hb6' : Below wr.heap.size wr w6 := btr hb4' hb6
          have y0 := cellOf_be cc0 hb6'
          have y1 := cellOf_be cc1 hb6'
          have f0 := frozen_be hq0.out hzr hb6'
          have f1 := frozen_be hq1.out hzr hb6'
          have f2 : (w6.setCell ⟨w.heap.size, 0, none⟩ (.slice A n c)).frozen? ⟨w.heap.size, 1, none⟩ = false := by rw [World.frozen?_setCell]; exact f1
          have hg6 := (World.ownsRow.lt ho6 g6 rfl).1
          have hz4 : wr.heap.size ≤ w4.heap.size := hb4'.size
          have hgw : w.heap.size < g6 := by omega
          have hF9 : Hid (Below w.heap.size w ((w6.setCell ⟨w.heap.size, 0, none⟩ (.slice A n c)).setCell ⟨w.heap.size, 1, none⟩ (.slice (some ⟨g6, 0, none⟩) (m + 1) c6))) := below_setCell (below_setCell (btr hbr.out hb6') (Nat.le_refl _) _) (Nat.le_refl _) _
          have ho9 : Hid (Own64 ((w6.setCell ⟨w.heap.size, 0, none⟩ (.slice A n c)).setCell ⟨w.heap.size, 1, none⟩ (.slice (some ⟨g6, 0, none⟩) (m + 1) c6)) B₀ (.slice (some ⟨g6, 0, none⟩) (m + 1) c6) (bb ++ [x])) := own_mono (own_far (own_far ho6 (by omega) _) (by omega) _) (by omega)
          have hne9 : Hid (∀ k, (Value.slice (some ⟨g6, 0, none⟩) (m + 1) c6).ownBlock = some k → k ≠ w.heap.size) := fun k hk => by injection hk with hk; have e9 : g6 = k := hk; omega
          have p0 : ((w6.setCell ⟨w.heap.size, 0, none⟩ (.slice A n c)).setCell ⟨w.heap.size, 1, none⟩ (.slice (some ⟨g6, 0, none⟩) (m + 1) c6)).cell? ⟨w.heap.size, 0, none⟩ = some (.slice A n c) := (World.cell?_setCell_other _ _ _ _ (by intro e; injection e with e1 e2; omega)).trans (World.cell?_setCell_same _ _ _ y0)
          have p1 : ((w6.setCell ⟨w.heap.size, 0, none⟩ (.slice A n c)).setCell ⟨w.heap.size, 1, none⟩ (.slice (some ⟨g6, 0, none⟩) (m + 1) c6)).cell? ⟨w.heap.size, 1, none⟩ = some (.slice (some ⟨g6, 0, none⟩) (m + 1) c6) := World.cell?_setCell_same _ _ _ ((World.cell?_setCell_other _ _ _ _ (by intro e; injection e with e1 e2; omega)).trans y1)
          have qf0 : ((w6.setCell ⟨w.heap.size, 0, none⟩ (.slice A n c)).setCell ⟨w.heap.size, 1, none⟩ (.slice (some ⟨g6, 0, none⟩) (m + 1) c6)).frozen? ⟨w.heap.size, 0, none⟩ = false := by rw [World.frozen?_setCell, World.frozen?_setCell]; exact f0
          have qf1 : ((w6.setCell ⟨w.heap.size, 0, none⟩ (.slice A n c)).setCell ⟨w.heap.size, 1, none⟩ (.slice (some ⟨g6, 0, none⟩) (m + 1) c6)).frozen? ⟨w.heap.size, 1, none⟩ = false := by rw [World.frozen?_setCell, World.frozen?_setCell]; exact f1
          have hI9 : Hid (Ints ((w6.setCell ⟨w.heap.size, 0, none⟩ (.slice A n c)).setCell ⟨w.heap.size, 1, none⟩ (.slice (some ⟨g6, 0, none⟩) (m + 1) c6)) w.heap.size A xs) := HI00.out.keep fun p hp => hF9.out.cell hp
          refine hK.out _ _ trivial (fun _ => ?_)
          clear hK K
          try simp only [Act.put, List.setIfInBounds_toArray, List.set_cons_zero, List.set_cons_succ]
          refine wpAnyH_ready (rs := [6]) (by kernel_rfl) (by simp) ?_
          refine AllReadyH.cons rfl (fun K hK => ?_) AllReadyH.nil
          go_simp
          refine hK.out _ _ trivial (fun _ => ?_)
          clear hK K
          try simp only [Act.put, List.setIfInBounds_toArray, List.set_cons_zero, List.set_cons_succ]
          refine wpAnyH_done (by kernel_rfl) ?_ _
          clear y0 y1 f0 f1 f2 hHeld0
          go_roundw
          case rel => exact ⟨_, _, _, _, _, _, _, _, _, _, _, _, _, _, ⟨bb ++ [x], some ⟨g6, 0, none⟩, m + 1, c6, by omega, by show _ = _; rw [List.length_append, hbl.out]; rfl, Hx3, Hx4, ho9, hne9, Lib.hid p0, Lib.hid p1, Lib.hid qf0, Lib.hid qf1, hI9, hF9⟩, rfl⟩
          case measure => rw [roomIn_at p1, roomIn_at cc1]; omega
        · go_simp
          go_at_call 120
          refine HRd.out.mono ?_
          rintro e w4 ⟨A4, m4, c4, rfl, ho4, hb4⟩
          go_wp2_with fail
          have hm4 := Lib.hid (own64_len ho4)
          have hb4' : Below wr.heap.size wr w4 := btr (show Below wr.heap.size wr wr.drew from (Below.refl _ _).drew) hb4
          have k0 := cellOf_be cc0 hb4'
          have k1 := cellOf_be cc1 hb4'
          have HPk := Lib.hid (pickMin A4 r m4 c4 w4 (Lib.hid hm4.out.symm) (by have := hm4.out; omega) (by have := hm4.out; omega) hasc (Lib.hid (ints_of_own64 ho4)))
          rw [hx.out] at HPk
          have ho5 := Lib.hid (own_be (h := ho.out) hb4')
          have HWi := Lib.hid (withNode A A' bb n c m c' x w4 hbl hm24 hz2 (Lib.hid (ints_of_own64 ho5.out)))
          refine hK.out _ _ trivial (fun _ => ?_)
          clear hK K
          try simp only [Act.put, List.setIfInBounds_toArray, List.set_cons_zero, List.set_cons_succ]
          refine wpAnyH_ready (rs := [0, 4]) (by kernel_rfl) (by simp) ?_
          refine AllReadyH.cons rfl (fun K hK => ?_) (AllReadyH.cons rfl (fun K hK => ?_) AllReadyH.nil)
          · go_simp
            refine hK.out _ _ trivial (fun _ => ?_)
            clear hK K
            try simp only [Act.put, List.setIfInBounds_toArray, List.set_cons_zero, List.set_cons_succ]
            refine wpAnyH_ready (rs := [4]) (by kernel_rfl) (by simp) ?_
            refine AllReadyH.cons rfl (fun K hK => ?_) AllReadyH.nil
            go_simp
            go_at_call 123
            refine HPk.out.mono ?_
            rintro e w' ⟨rfl, rfl⟩
            go_wp2_with fail
            refine hK.out _ _ trivial (fun _ => ?_)
            clear hK K
            try simp only [Act.put, List.setIfInBounds_toArray, List.set_cons_zero, List.set_cons_succ]
            refine wpAnyH_ready (rs := [5]) (by kernel_rfl) (by simp) ?_
            refine AllReadyH.cons rfl (fun K hK => ?_) AllReadyH.nil
            go_simp
            go_at_call 121
            refine HWi.out.mono ?_
            rintro e w6 ⟨g6, c6, rfl, ho6, hb6⟩
            go_wp2_with fail
            have hb6' : Below wr.heap.size wr w6 := btr hb4' hb6
            have y0 := cellOf_be cc0 hb6'
            have y1 := cellOf_be cc1 hb6'
            have f0 := frozen_be hq0.out hzr hb6'
            have f1 := frozen_be hq1.out hzr hb6'
            have f2 : (w6.setCell ⟨w.heap.size, 0, none⟩ (.slice A n c)).frozen? ⟨w.heap.size, 1, none⟩ = false := by rw [World.frozen?_setCell]; exact f1
            have hg6 := (World.ownsRow.lt ho6 g6 rfl).1
            have hz4 : wr.heap.size ≤ w4.heap.size := hb4'.size
            have hgw : w.heap.size < g6 := by omega
            have hF9 : Hid (Below w.heap.size w ((w6.setCell ⟨w.heap.size, 0, none⟩ (.slice A n c)).setCell ⟨w.heap.size, 1, none⟩ (.slice (some ⟨g6, 0, none⟩) (m + 1) c6))) := below_setCell (below_setCell (btr hbr.out hb6') (Nat.le_refl _) _) (Nat.le_refl _) _
            have ho9 : Hid (Own64 ((w6.setCell ⟨w.heap.size, 0, none⟩ (.slice A n c)).setCell ⟨w.heap.size, 1, none⟩ (.slice (some ⟨g6, 0, none⟩) (m + 1) c6)) B₀ (.slice (some ⟨g6, 0, none⟩) (m + 1) c6) (bb ++ [x])) := own_mono (own_far (own_far ho6 (by omega) _) (by omega) _) (by omega)
            have hne9 : Hid (∀ k, (Value.slice (some ⟨g6, 0, none⟩) (m + 1) c6).ownBlock = some k → k ≠ w.heap.size) := fun k hk => by injection hk with hk; have e9 : g6 = k := hk; omega
            have p0 : ((w6.setCell ⟨w.heap.size, 0, none⟩ (.slice A n c)).setCell ⟨w.heap.size, 1, none⟩ (.slice (some ⟨g6, 0, none⟩) (m + 1) c6)).cell? ⟨w.heap.size, 0, none⟩ = some (.slice A n c) := (World.cell?_setCell_other _ _ _ _ (by intro e; injection e with e1 e2; omega)).trans (World.cell?_setCell_same _ _ _ y0)
            have p1 : ((w6.setCell ⟨w.heap.size, 0, none⟩ (.slice A n c)).setCell ⟨w.heap.size, 1, none⟩ (.slice (some ⟨g6, 0, none⟩) (m + 1) c6)).cell? ⟨w.heap.size, 1, none⟩ = some (.slice (some ⟨g6, 0, none⟩) (m + 1) c6) := World.cell?_setCell_same _ _ _ ((World.cell?_setCell_other _ _ _ _ (by intro e; injection e with e1 e2; omega)).trans y1)
            have qf0 : ((w6.setCell ⟨w.heap.size, 0, none⟩ (.slice A n c)).setCell ⟨w.heap.size, 1, none⟩ (.slice (some ⟨g6, 0, none⟩) (m + 1) c6)).frozen? ⟨w.heap.size, 0, none⟩ = false := by rw [World.frozen?_setCell, World.frozen?_setCell]; exact f0
            have qf1 : ((w6.setCell ⟨w.heap.size, 0, none⟩ (.slice A n c)).setCell ⟨w.heap.size, 1, none⟩ (.slice (some ⟨g6, 0, none⟩) (m + 1) c6)).frozen? ⟨w.heap.size, 1, none⟩ = false := by rw [World.frozen?_setCell, World.frozen?_setCell]; exact f1
            have hI9 : Hid (Ints ((w6.setCell ⟨w.heap.size, 0, none⟩ (.slice A n c)).setCell ⟨w.heap.size, 1, none⟩ (.slice (some ⟨g6, 0, none⟩) (m + 1) c6)) w.heap.size A xs) := HI00.out.keep fun p hp => hF9.out.cell hp
            refine hK.out _ _ trivial (fun _ => ?_)
            clear hK K
            try simp only [Act.put, List.setIfInBounds_toArray, List.set_cons_zero, List.set_cons_succ]
            refine wpAnyH_ready (rs := [6]) (by kernel_rfl) (by simp) ?_
            refine AllReadyH.cons rfl (fun K hK => ?_) AllReadyH.nil
            go_simp
            refine hK.out _ _ trivial (fun _ => ?_)
            clear hK K
            try simp only [Act.put, List.setIfInBounds_toArray, List.set_cons_zero, List.set_cons_succ]
            refine wpAnyH_done (by kernel_rfl) ?_ _
            clear y0 y1 f0 f1 f2 hHeld0
            go_roundw
            case rel => exact ⟨_, _, _, _, _, _, _, _, _, _, _, _, _, _, ⟨bb ++ [x], some ⟨g6, 0, none⟩, m + 1, c6, by omega, by show _ = _; rw [List.length_append, hbl.out]; rfl, Hx3, Hx4, ho9, hne9, Lib.hid p0, Lib.hid p1, Lib.hid qf0, Lib.hid qf1, hI9, hF9⟩, rfl⟩
            case measure => rw [roomIn_at p1, roomIn_at cc1]; omega
          · go_simp
            go_at_call 123
            refine HPk.out.mono ?_
            rintro e w' ⟨rfl, rfl⟩
            go_wp2_with fail
            refine hK.out _ _ trivial (fun _ => ?_)
            clear hK K
            try simp only [Act.put, List.setIfInBounds_toArray, List.set_cons_zero, List.set_cons_succ]
            refine wpAnyH_ready (rs := [0]) (by kernel_rfl) (by simp) ?_
            refine AllReadyH.cons rfl (fun K hK => ?_) AllReadyH.nil
            go_simp
            refine hK.out _ _ trivial (fun _ => ?_)
            clear hK K
            try simp only [Act.put, List.setIfInBounds_toArray, List.set_cons_zero, List.set_cons_succ]
            refine wpAnyH_ready (rs := [5]) (by kernel_rfl) (by simp) ?_
            refine AllReadyH.cons rfl (fun K hK => ?_) AllReadyH.nil
            go_simp
            go_at_call 121
            refine HWi.out.mono ?_
            rintro e w6 ⟨g6, c6, rfl, ho6, hb6⟩
            go_wp2_with fail
            have hb6' : Below wr.heap.size wr w6 := btr hb4' hb6
            have y0 := cellOf_be cc0 hb6'
            have y1 := cellOf_be cc1 hb6'
            have f0 := frozen_be hq0.out hzr hb6'
            have f1 := frozen_be hq1.out hzr hb6'
            have f2 : (w6.setCell ⟨w.heap.size, 0, none⟩ (.slice A n c)).frozen? ⟨w.heap.size, 1, none⟩ = false := by rw [World.frozen?_setCell]; exact f1
            have hg6 := (World.ownsRow.lt ho6 g6 rfl).1
            have hz4 : wr.heap.size ≤ w4.heap.size := hb4'.size
            have hgw : w.heap.size < g6 := by omega
            have hF9 : Hid (Below w.heap.size w ((w6.setCell ⟨w.heap.size, 0, none⟩ (.slice A n c)).setCell ⟨w.heap.size, 1, none⟩ (.slice (some ⟨g6, 0, none⟩) (m + 1) c6))) := below_setCell (below_setCell (btr hbr.out hb6') (Nat.le_refl _) _) (Nat.le_refl _) _
            have ho9 : Hid (Own64 ((w6.setCell ⟨w.heap.size, 0, none⟩ (.slice A n c)).setCell ⟨w.heap.size, 1, none⟩ (.slice (some ⟨g6, 0, none⟩) (m + 1) c6)) B₀ (.slice (some ⟨g6, 0, none⟩) (m + 1) c6) (bb ++ [x])) := own_mono (own_far (own_far ho6 (by omega) _) (by omega) _) (by omega)
            have hne9 : Hid (∀ k, (Value.slice (some ⟨g6, 0, none⟩) (m + 1) c6).ownBlock = some k → k ≠ w.heap.size) := fun k hk => by injection hk with hk; have e9 : g6 = k := hk; omega
            have p0 : ((w6.setCell ⟨w.heap.size, 0, none⟩ (.slice A n c)).setCell ⟨w.heap.size, 1, none⟩ (.slice (some ⟨g6, 0, none⟩) (m + 1) c6)).cell? ⟨w.heap.size, 0, none⟩ = some (.slice A n c) := (World.cell?_setCell_other _ _ _ _ (by intro e; injection e with e1 e2; omega)).trans (World.cell?_setCell_same _ _ _ y0)
            have p1 : ((w6.setCell ⟨w.heap.size, 0, none⟩ (.slice A n c)).setCell ⟨w.heap.size, 1, none⟩ (.slice (some ⟨g6, 0, none⟩) (m + 1) c6)).cell? ⟨w.heap.size, 1, none⟩ = some (.slice (some ⟨g6, 0, none⟩) (m + 1) c6) := World.cell?_setCell_same _ _ _ ((World.cell?_setCell_other _ _ _ _ (by intro e; injection e with e1 e2; omega)).trans y1)
            have qf0 : ((w6.setCell ⟨w.heap.size, 0, none⟩ (.slice A n c)).setCell ⟨w.heap.size, 1, none⟩ (.slice (some ⟨g6, 0, none⟩) (m + 1) c6)).frozen? ⟨w.heap.size, 0, none⟩ = false := by rw [World.frozen?_setCell, World.frozen?_setCell]; exact f0
            have qf1 : ((w6.setCell ⟨w.heap.size, 0, none⟩ (.slice A n c)).setCell ⟨w.heap.size, 1, none⟩ (.slice (some ⟨g6, 0, none⟩) (m + 1) c6)).frozen? ⟨w.heap.size, 1, none⟩ = false := by rw [World.frozen?_setCell, World.frozen?_setCell]; exact f1
            have hI9 : Hid (Ints ((w6.setCell ⟨w.heap.size, 0, none⟩ (.slice A n c)).setCell ⟨w.heap.size, 1, none⟩ (.slice (some ⟨g6, 0, none⟩) (m + 1) c6)) w.heap.size A xs) := HI00.out.keep fun p hp => hF9.out.cell hp
            refine hK.out _ _ trivial (fun _ => ?_)
            clear hK K
            try simp only [Act.put, List.setIfInBounds_toArray, List.set_cons_zero, List.set_cons_succ]
            refine wpAnyH_ready (rs := [6]) (by kernel_rfl) (by simp) ?_
            refine AllReadyH.cons rfl (fun K hK => ?_) AllReadyH.nil
            go_simp
            refine hK.out _ _ trivial (fun _ => ?_)
            clear hK K
            try simp only [Act.put, List.setIfInBounds_toArray, List.set_cons_zero, List.set_cons_succ]
            refine wpAnyH_done (by kernel_rfl) ?_ _
            clear y0 y1 f0 f1 f2 hHeld0
            go_roundw
            case rel => exact ⟨_, _, _, _, _, _, _, _, _, _, _, _, _, _, ⟨bb ++ [x], some ⟨g6, 0, none⟩, m + 1, c6, by omega, by show _ = _; rw [List.length_append, hbl.out]; rfl, Hx3, Hx4, ho9, hne9, Lib.hid p0, Lib.hid p1, Lib.hid qf0, Lib.hid qf1, hI9, hF9⟩, rfl⟩
            case measure => rw [roomIn_at p1, roomIn_at cc1]; omega
    · obtain rfl : m = n := by omega
      have hge : ¬ (m : Int) < (m : Int) := by omega
      have hE : Hid (bb = R) := by show _ = _; rw [← hfr.out]; exact (M.fill_done hbl.out).symm
      rw [hE.out] at ho
      clear hE
      go_wp2
      go_ret
      exact ⟨A', c', rfl, ho.out, hbr.out⟩
end Go.Proofs.Ytbdmmeoelagdcaa

/- A range over a function whose elements lie in memory: what the iterator has laid ahead of a round (C) is told to the body. No program is named here. -/
namespace Go.Proofs.Ytbdmmeoelagdcaa
open Go.RowKit

section
variable {F : Fence} {n : Nat} {P : Program}

/-- the contract of an iterator that lays its elements in memory: C pre x W: what can be said of x, in W, when it is handed over -/
def SeqRows {α : Type} (F : Fence) (n : Nat) (P : Program) (g : Nat) (lb : Array Value) (encs : α → Array Value) (C : List α → α → World → Prop) (Kp : World → World → Prop) (S Sp : List α → Prop) (w : World) : Prop :=
  ∀ (l : Nat) (J Jx : List α → World → Prop) (W : World), Below w.heap.size w W →
    (∀ s X Y, J s X → X.grownBy Y none → J s Y) →
    (∀ s X Y, Jx s X → X.grownBy Y none → Jx s Y) →
    (∀ pre x W1, J pre W1 → C pre x W1 → YieldAt F (n - 1) P l (encs x) W1 fun e W' =>
      (e = .returned (.bool true) ∧ J (pre ++ [x]) W' ∧ Kp W1 W') ∨ (e = .returned (.bool false) ∧ Jx (pre ++ [x]) W')) →
    J [] W →
    CallsIn F n P g (#[.func (.yield l) #[] #[]] ++ lb) W fun e W' => (∃ v, e = .returned v) ∧ ((∃ ys, S ys ∧ J ys W') ∨ (∃ pre, Sp pre ∧ Jx pre W'))

/-- the two blocks of a loop's book-keeping: the mark's at D, the record's behind it -/
def Books (D : Nat) (r : Loop) (W : World) : Prop := W.heap[D + 1]? = some (.loop r) ∧ W.heap[D]? = some (.deferred (some []))

theorem Books.turn {D : Nat} {r r' : Loop} {W : World} (h : Books D r W) : Books D r' (W.putObj (D + 1) (.loop r')) :=
  ⟨World.putObj_heap_same (Array.getElem?_eq_some_iff.1 h.1).1, (World.putObj_heap_other (by omega)).trans h.2⟩
theorem Books.grown {D : Nat} {r : Loop} {W W' : World} (h : Books D r W) (hg : W.grownBy W' none) : Books D r W' :=
  ⟨(hg.block _ (Array.getElem?_eq_some_iff.1 h.1).1 (by simp)).trans h.1, (hg.block _ (Array.getElem?_eq_some_iff.1 h.2).1 (by simp)).trans h.2⟩
theorem Books.from {D : Nat} {r : Loop} {W W' : World} (h : Books D r W) (hk : KeepsFrom D W W') : Books D r W' :=
  ⟨hk.same _ _ (by omega) h.1 rfl, hk.same _ _ (Nat.le_refl _) h.2 rfl⟩

theorem wpIn_rangeRows {α : Type} {g : Operand} {ps : Array Tmp} {assign body : Code} {Q : Exit → Act → World → Prop} {a : Act} {w : World}
    (hro : F.round = none) (h1 : 1 ≤ n) {gf : Nat} {lb : Array Value} (hg : a.eval g = .func (.func gf) #[] lb) (hFg : F.fn gf) (eg : ∀ args w, (callFunc gf args).run P w = .ok (.enter gf args) w)
    {encs : α → Array Value} {C : List α → α → World → Prop} {Kp : World → World → Prop} {S Sp : List α → Prop} {w0 : World} (hseq : SeqRows F (n - 1) P gf lb encs C Kp S Sp w0) (hb0 : Below w0.heap.size w0 w)
    (hKt : ∀ {X Y Z : World}, Kp X Y → Kp Y Z → Kp X Z) (hKb : ∀ (W : World) (r r' : Loop), W.heap[w.heap.size + 1]? = some (.loop r) → Kp W (W.putObj (w.heap.size + 1) (.loop r'))) (hps : ∀ x, (encs x).size = ps.size)
    (I : List α → World → Prop) (Ix : Code → List α → World → Prop) (hI : OwnFrom w.heap.size I) (hIx : ∀ c, OwnFrom w.heap.size (Ix c)) (hC : OwnFrom w.heap.size (fun (s : List α × α) W => C s.1 s.2 W)) (h0 : I [] w) (a₁ : α → Act)
    (hassign : ∀ (l : Nat) (x : α) (W : World) (K : Act → World → Prop), K (a₁ x) W →
      assign.wpIn (F.inRound l) (n - 1 - 1) P (Exit.then K (fun _ _ _ => False)) { tmps := (ps.zip (encs x)).foldl (fun t (p, v) => t.setIfInBounds p v) a.tmps, defers := [] } W)
    (hbody : ∀ (l : Nat) (pre : List α) (x : α) (W : World), I pre W → C pre x W → body.wpIn (F.inRound l) (n - 1 - 1) P (ownPostG w.heap.size Kp I Ix (pre ++ [x]) W) (a₁ x) W)
    (hdone : ∀ (D : Nat) (xs : List α) (W : World), w.heap.size ≤ D → S xs → I xs W → W.heap[D]? = some (.deferred (some [])) → Q .normal { a with defers := { target := .collected D, args := #[] } :: a.defers } W)
    (hstop : ∀ (D : Nat) (c : Code) (pre : List α) (W : World), w.heap.size ≤ D → Sp pre → Ix c pre W → W.heap[D]? = some (.deferred (some [])) → c.wpIn F n P Q { a with defers := { target := .collected D, args := #[] } :: a.defers } W) :
    (Code.rangeFunc g ps assign body).wpIn F n P Q a w := by
  refine wpIn_rangeFunc fun fn hfn => ?_
  rw [hro]
  obtain ⟨D, hD⟩ : ∃ D, w.heap.size = D := ⟨_, rfl⟩
  obtain ⟨R, hR⟩ : ∃ R : LoopState → Option Code → Loop, R = fun st pe => { state := st, pending := pe, fn, tmps := a.tmps, params := ps, assign, body, defers := D } := ⟨_, rfl⟩
  have hgr : w.grownBy ((w.alloc (.deferred (some []))).alloc (.loop (R .ready none))) none := (World.grownBy_alloc w _ none).trans (World.grownBy_alloc _ _ none)
  have hbk : Books D (R .ready none) ((w.alloc (.deferred (some []))).alloc (.loop (R .ready none))) := by
    refine ⟨?_, (Below.heap_alloc _ _ _ (by rw [← hD]; simp)).trans (by rw [← hD]; exact World.alloc_heap_new w _)⟩
    have := World.alloc_heap_new (w.alloc (.deferred (some []))) (.loop (R .ready none))
    rwa [World.size_alloc, hD] at this
  have hbW : Below w0.heap.size w0 ((w.alloc (.deferred (some []))).alloc (.loop (R .ready none))) := hb0.trans (((Below.refl w.heap.size w).grown hgr (Nat.le_refl _) (fun k e => by cases e)).mono hb0.size)
  have hent := run_enterLoop_outer (P := P) (w := w) fn a.tmps ps assign body
  rw [hD] at hent hI hIx hC hbody hdone hstop hKb
  have hi1 : I [] ((w.alloc (.deferred (some []))).alloc (.loop (R .ready none))) := hI _ _ _ _ h0 hgr (fun k e => by cases e)
  generalize hW1 : (w.alloc (.deferred (some []))).alloc (.loop (R .ready none)) = W1 at *
  refine ⟨D + 1, [{ target := .collected D, args := #[] }], W1, { target := .fn (.func gf) lb, args := #[.func (.yield (D + 1)) #[] #[]] }, W1, gf, #[.func (.yield (D + 1)) #[] #[]] ++ lb, W1, ?_, ?_, ?_, ?_, fun _ => h1, ?_⟩
  · rw [hent, ← hW1, hR]
  · simp only [resolve, hg]
    simp [go_sem]
  · intro f' hf'
    simp [Target.leads] at hf'
    rw [← hf']
    exact hFg
  · simp [invoke, go_sem, eg]
  refine (hseq (D + 1) (fun pre W => I pre W ∧ Books D (R .ready none) W) (fun pre W => ∃ c, Ix c pre W ∧ Books D (R .done (some c)) W) W1 hbW
    (fun s X Y h hg => ⟨hI _ _ _ _ h.1 hg (fun k e => by cases e), h.2.grown hg⟩) (fun s X Y ⟨c, h, hk⟩ hg => ⟨c, hIx c _ _ _ _ h hg (fun k e => by cases e), hk.grown hg⟩) ?_ ⟨hi1, hbk⟩).mono ?_
  · -- one round
    rintro pre x W ⟨hi, hk⟩ hc
    have hy := run_yield (P := P) (args := encs x) hk.1 (by rw [hR]; exact hps x)
    refine ⟨fn, _, assign, body, by rw [hR] at hy; exact hy, roundIn_of_wpIn hfn (hassign _ x W _ ⟨_, run_beginRound hk.1 (by rw [hR]), ?_⟩)⟩
    have hk2 := hk.turn (r' := { R .ready none with state := .busy })
    refine wpIn_mono (hbody _ pre x _ (hI.putObj _ hi (by omega) hk.1 rfl) (hC.putObj (s := (pre, x)) _ hc (by omega) hk.1 rfl)) ?_
    have fin : ∀ (jump : Option Code) (W3 : World), KeepsFrom D (W.putObj (D + 1) (.loop { R .ready none with state := .busy })) W3 →
        (Instr.endRound (D + 1) jump).run P W3 = .ok (.bool jump.isNone) (W3.putObj (D + 1) (.loop (R (if jump.isNone then .ready else .done) jump))) ∧ Books D { R .ready none with state := .busy } W3 := fun jump W3 h3 => by
      have h4 := hk2.from h3
      have := run_endRound (P := P) jump h4.1
      rw [hR] at this ⊢
      exact ⟨this, by rw [hR] at h4; exact h4⟩
    have hKs : Kp W (W.putObj (D + 1) (.loop { R .ready none with state := .busy })) := hKb _ _ _ hk.1
    intro e a3 W3 hp
    cases e with
    | normal =>
      obtain ⟨p1, p2, p3⟩ := hp
      obtain ⟨q1, q2⟩ := fin none W3 p1
      exact ⟨_, _, q1, .inl ⟨rfl, ⟨hI.putObj _ p3 (by omega) q2.1 rfl, q2.turn⟩, hKt (hKt hKs p2) (hKb _ _ _ q2.1)⟩⟩
    | ret =>
      obtain ⟨p1, p3⟩ := hp
      obtain ⟨q1, q2⟩ := fin (some .ret) W3 p1
      exact ⟨_, _, q1, .inr ⟨rfl, .ret, (hIx _).putObj _ p3 (by omega) q2.1 rfl, q2.turn⟩⟩
    | exit id =>
      obtain ⟨p1, p3⟩ := hp
      obtain ⟨q1, q2⟩ := fin (some (.exit id)) W3 p1
      exact ⟨_, _, q1, .inr ⟨rfl, .exit id, (hIx _).putObj _ p3 (by omega) q2.1 rfl, q2.turn⟩⟩
    | goto t =>
      obtain ⟨p1, p3⟩ := hp
      obtain ⟨q1, q2⟩ := fin (some (.goto t)) W3 p1
      exact ⟨_, _, q1, .inr ⟨rfl, .goto t, (hIx _).putObj _ p3 (by omega) q2.1 rfl, q2.turn⟩⟩
    | panic ch => exact hp.elim
    | outgrown => exact hp.elim
  · -- behind the iterator
    rintro e W2 ⟨⟨v, rfl⟩, (⟨xs, hS, hi, hk⟩ | ⟨pre, hSp, c, hi, hk⟩)⟩
    · have hr := run_endLoop (P := P) hk.1 (by rw [hR]; simp)
      refine ⟨none, _, by rw [hR] at hr; exact hr, hdone D xs _ (Nat.le_refl _) hS (hI.putObj _ hi (by omega) hk.1 rfl) ((World.putObj_heap_other (by omega)).trans hk.2)⟩
    · have hr := run_endLoop (P := P) hk.1 (by rw [hR]; simp)
      refine ⟨some c, _, by rw [hR] at hr; exact hr, hstop D c pre _ (Nat.le_refl _) hSp ((hIx c).putObj _ hi (by omega) hk.1 rfl) ((World.putObj_heap_other (by omega)).trans hk.2)⟩
end
end Go.Proofs.Ytbdmmeoelagdcaa

/- slices.Backward: the iterator over the indices and the elements of a slice from its end, for every loop body that keeps what lay below a block and the box of the slice. -/
namespace Go.Proofs.Ytbdmmeoelagdcaa
open Go.RowKit Go.Shelf
attribute [local go_sem] Oper.semAt_some

set_option maxRecDepth 100000 in
set_option maxHeartbeats 2000000 in
theorem back1 (encs : Nat → Array Value) (n : Nat) (hn : 1 ≤ n) (l Bd n₀ : Nat) (A : Option Addr) (xs : List Int) (c : Nat) (hx : xs.length ≤ 1000)
    (hmk : Hid (∀ k v (x : Int), k + 1 + v = xs.length → xs[v]? = some x → encs k = #[.int .i64 (v : Int), .int .i64 x])) (J Jx : List Nat → World → Prop)
    (hY : ∀ pre x W, J pre W → (pre = List.range x ∧ x < xs.length) → YieldAt Fence.wide (n - 1) Try.prog l (encs x) W fun e W' =>
      (e = .returned (.bool true) ∧ J (pre ++ [x]) W' ∧ KeepK n₀ Bd W W') ∨ (e = .returned (.bool false) ∧ Jx (pre ++ [x]) W'))
    (W : World) (hBd : Boxed W Bd 23 (.slice A xs.length c)) (hI : Ints W n₀ A xs) (_ : n₀ ≤ W.heap.size) (h0 : J [] W) :
    CallsIn Fence.wide n Try.prog 157 #[.func (.yield l) #[] #[], .pointer (some ⟨Bd, 0, none⟩)] W fun e W' => (∃ u, e = .returned u) ∧
      ((∃ ys, ys = List.range xs.length ∧ J ys W') ∨ (∃ pre, True ∧ Jx pre W')) := by
  have hcd := hBd.cell
  have HBd := Lib.hid hBd
  have HI := Lib.hid hI
  obtain ⟨m, hm⟩ : ∃ m, Hid (xs.length = m) := ⟨_, rfl⟩
  rw [hm.out] at hx hmk hY hcd HBd ⊢
  clear hI hBd
  refine callsIn_of_wp Try.func157 rfl trivial ?_ rfl
  simp only [Try.ntmps157, List.size_toArray, List.length_cons, List.length_nil, Nat.reduceAdd, Nat.reduceSub, Array.replicate_succ, Array.replicate_zero, List.push_toArray, List.append_toArray, List.nil_append, List.cons_append]
  gi_wp2
  gi_loopw [3] (fun i wr => ∃ k : Nat, k ≤ m ∧ i = .int .i64 ((m : Int) - 1 - (k : Int)) ∧ J (List.range k) wr ∧ Hid (KeepK n₀ Bd W wr))
    (fun i _ => (intOf i + 1).toNat)
  case atStart => exact ⟨0, Nat.zero_le _, by simp, h0, ⟨Below.refl _ _, rfl⟩⟩
  case round =>
    obtain ⟨k, hk, rfl, hJs, hnx⟩ := hrel
    clear hcd
    by_cases hlt : k < m
    · obtain ⟨v, hv⟩ : ∃ v : Nat, k + 1 + v = m := ⟨m - 1 - k, by omega⟩
      have hv2 : (m : Int) - 1 - (k : Int) = (v : Int) := by omega
      have hvm : (v : Int) < (m : Int) := by omega
      have hv0 : (0 : Int) ≤ (v : Int) := by omega
      obtain ⟨x, hX⟩ : ∃ x, xs[v]? = some x := ⟨_, List.getElem?_eq_getElem (by have := hm.out; omega)⟩
      have hYk := hY _ k wr hJs ⟨rfl, hlt⟩
      rw [hmk.out k v x hv hX] at hYk
      obtain ⟨fn, tmps, assign, body, hy, hR⟩ := hYk
      have hbd1 : Boxed wr Bd 23 (.slice A m c) := hnx.out.2.trans HBd.out
      have hc1 := hbd1.cell
      obtain ⟨b, off, rfl, hbB, hcells⟩ := (HI.out.below hnx.out.1 (Nat.le_refl _)) (by have := hm.out; omega)
      have hc0 := hcells v x hX
      rw [hv2]
      clear hbd1 hcells hX hbB hJs
      gi_wp2
      refine hR.mono ?_
      rintro e W3 (⟨rfl, hJ3, hk3⟩ | ⟨rfl, hJx3⟩)
      · have hk4 : Hid (KeepK n₀ Bd W W3) := hnx.out.t hk3
        have hv3 : (v : Int) - 1 = (m : Int) - 1 - ((k + 1 : Nat) : Int) := by omega
        clear hk3 hy hc1 hc0
        gi_wp2
        go_roundw
        case rel => exact ⟨k + 1, by omega, by go_num, by rw [List.range_succ]; exact hJ3, hk4⟩
        case measure => simp [intOf]; omega
      · gi_wp2
        refine bodyPost_ret (results_none rfl _ _ _) rfl ?_
        exact ⟨⟨_, rfl⟩, .inr ⟨_, trivial, hJx3⟩⟩
    · obtain rfl : k = m := by omega
      have hv2 : (k : Int) - 1 - (k : Int) = -1 := by omega
      rw [hv2]
      gi_wp2
      go_end0
      exact ⟨⟨_, rfl⟩, .inl ⟨_, rfl, hJs⟩⟩

set_option maxHeartbeats 1000000 in
/-- slices.Backward: the argument is boxed; the function value captures the box -/
theorem backIn (n : Nat) (A : Option Addr) (m c : Nat) (w : World) :
    CallsIn Fence.wide n Try.prog 119 #[.slice A m c] w fun e w' => e = .returned (.func (.func 157) #[] #[.pointer (some ⟨w.heap.size, 0, none⟩)]) ∧
      w' = w.alloc (.cells #[.slice A m c] 23) := by
  refine callsIn_of_wp Try.func119 rfl trivial ?_ rfl
  simp only [Try.ntmps119, List.size_toArray, List.length_cons, List.length_nil, Nat.reduceAdd, Nat.reduceSub, Array.replicate_succ, Array.replicate_zero, List.push_toArray, List.append_toArray, List.nil_append, List.cons_append]
  gi_wp2
  go_ret
  exact ⟨rfl, rfl⟩

/-- what a range over a slice from its end gives: all elements, in order, or a beginning where a round has said 'no more' -/
theorem back_rows (encs : Nat → Array Value) (n : Nat) (hn : 1 ≤ n) (Bd n₀ : Nat) (A : Option Addr) (xs : List Int) (c : Nat) (hx : xs.length ≤ 1000)
    (hmk : ∀ k v (x : Int), k + 1 + v = xs.length → xs[v]? = some x → encs k = #[.int .i64 (v : Int), .int .i64 x]) (w : World) (hBd : Boxed w Bd 23 (.slice A xs.length c)) (hI : Ints w n₀ A xs) (hn0 : n₀ ≤ w.heap.size) :
    SeqRows Fence.wide n Try.prog 157 #[.pointer (some ⟨Bd, 0, none⟩)] encs (fun pre x _ => pre = List.range x ∧ x < xs.length) (KeepK n₀ Bd)
      (fun ys => ys = List.range xs.length) (fun _ => True) w := fun l J Jx W hW _ _ hY h0 =>
  back1 encs n hn l Bd n₀ A xs c hx hmk J Jx hY W ((hW.block Bd hBd.lt).trans hBd) (hI.below hW hn0) (Nat.le_trans hn0 hW.size) h0
end Go.Proofs.Ytbdmmeoelagdcaa

/- Addresses, their mathematics: the place of the child toward a node, again and again. No program is named here. -/
namespace Go.Proofs.Ytbdmmeoelagdcaa.M
/-- the last of the first k places whose child is not behind v -/
def lastP (xs : List Int) (a v : Nat) : Nat → Nat
  | 0 => 0
  | k + 1 => if kidAt xs a k ≤ v then k else lastP xs a v k
theorem lastP_hit {xs : List Int} {a v k : Nat} (h : kidAt xs a k ≤ v) : lastP xs a v (k + 1) = k := by rw [lastP, if_pos h]
theorem lastP_miss {xs : List Int} {a v k : Nat} (h : v < kidAt xs a k) : ∀ j, k ≤ j → lastP xs a v j = lastP xs a v k := by
  intro j
  induction j with
  | zero => intro hj; obtain rfl : k = 0 := by omega
            rfl
  | succ j ih =>
    intro hj
    rcases Nat.lt_or_ge k (j + 1) with h1 | h1
    · have := kid_le (xs := xs) (v := a) (i := k) (j := j) (by omega)
      rw [lastP, if_neg (by omega), ih (by omega)]
    · obtain rfl : k = j + 1 := by omega
      rfl
/-- the number of children -/
def deg (xs : List Int) (a : Nat) : Nat := (xs[a]?.getD 0).toNat
theorem deg_at {xs : List Int} {a d : Nat} (h : xs[a]? = some (d : Int)) : deg xs a = d := by simp [deg, h]
def place (xs : List Int) (a v : Nat) : Nat := lastP xs a v (deg xs a)
theorem place_is {xs : List Int} {a v d j : Nat} (hd : xs[a]? = some (d : Int)) (hj : j < d) (h1 : kidAt xs a j ≤ v) (h2 : v < kidAt xs a (j + 1)) : place xs a v = j := by
  rw [place, deg_at hd]
  rcases Nat.lt_or_ge (j + 1) d with h3 | h3
  · rw [lastP_miss h2 d (by omega), lastP_hit h1]
  · obtain rfl : d = j + 1 := by omega
    exact lastP_hit h1
/-- there is one: a is above v, and is not v -/
theorem place_at {xs : List Int} (ht : isTree xs = true) {a v : Nat} (h1 : a < v) (h2 : v < fin xs a) (hv : v < xs.length) : ∃ d : Nat, xs[a]? = some (d : Int) ∧ d ≤ 24 ∧ place xs a v < d ∧ kidAt xs a (place xs a v) ≤ v ∧ v < kidAt xs a (place xs a v + 1) := by
  obtain ⟨d, hd, h24⟩ := tree_degN ht (v := a) (by omega)
  have he := kid_end ht hd
  obtain ⟨j, hj, hj1, hj2⟩ := kid_tile (xs := xs) h1 d (by simp only [fin] at h2; omega)
  have hp := place_is hd hj hj1 hj2
  exact ⟨d, hd, h24, by omega, by rw [hp]; exact hj1, by rw [hp]; exact hj2⟩
def next (xs : List Int) (a v : Nat) : Nat := kidAt xs a (place xs a v)
theorem next_ok {xs : List Int} (ht : isTree xs = true) {a v : Nat} (h1 : a < v) (h2 : v < fin xs a) (hv : v < xs.length) : a < next xs a v ∧ next xs a v ≤ v ∧ v < fin xs (next xs a v) := by
  obtain ⟨d, hd, _, hp, h3, h4⟩ := place_at ht h1 h2 hv
  exact ⟨(kid_due ht hd _ (by omega)).2.2, h3, by simp only [kidAt] at h4; exact h4⟩
def addrGo (xs : List Int) (v : Nat) : Nat → Nat → List Int
  | 0, _ => []
  | f + 1, a => if a = v then [] else (place xs a v : Int) :: addrGo xs v f (next xs a v)
theorem addrGo_len (xs : List Int) (v : Nat) : ∀ f a, (addrGo xs v f a).length ≤ f := by
  intro f
  induction f with
  | zero => intro a; exact Nat.le_refl _
  | succ f ih =>
    intro a
    rw [addrGo]
    split
    · simp
    · simp only [List.length_cons]; have := ih (next xs a v); omega
def address (xs : List Int) (v : Nat) : List Int := addrGo xs v xs.length 0
/-- the walk down: what has come, and where it stands -/
def AddrAt (xs : List Int) (v a : Nat) (pre R : List Int) : Prop := a ≤ v ∧ v < fin xs a ∧ pre.length ≤ a ∧ ∃ f, v - a ≤ f ∧ pre ++ addrGo xs v f a = R
theorem addr_start {xs : List Int} (ht : isTree xs = true) {v : Nat} (hv : v < xs.length) : AddrAt xs v 0 [] (address xs v) :=
  ⟨Nat.zero_le _, by rw [fin_root ht]; exact hv, Nat.le_refl _, xs.length, by omega, rfl⟩
theorem addr_end {xs : List Int} {v : Nat} {pre R : List Int} (h : AddrAt xs v v pre R) : pre = R := by
  obtain ⟨_, _, _, f, _, h⟩ := h
  cases f with
  | zero => simpa [addrGo] using h
  | succ f => simpa [addrGo] using h
theorem addr_step {xs : List Int} (ht : isTree xs = true) {v a : Nat} {pre R : List Int} (hv : v < xs.length) (h : AddrAt xs v a pre R) (hn : a ≠ v) : AddrAt xs v (next xs a v) (pre ++ [(place xs a v : Int)]) R := by
  obtain ⟨h1, h2, h3, f, hf, h⟩ := h
  obtain ⟨k1, k2, k3⟩ := next_ok ht (a := a) (v := v) (by omega) h2 hv
  cases f with
  | zero => omega
  | succ f =>
    rw [addrGo, if_neg hn] at h
    exact ⟨k2, k3, by simp; omega, f, by omega, by rw [List.append_assoc]; exact h⟩
end Go.Proofs.Ytbdmmeoelagdcaa.M

/- Postorder: the mathematics, and appendPostorder (a call of itself in the body of a range over a function). -/
namespace Go.Proofs.Ytbdmmeoelagdcaa
open Go.RowKit Go.Shelf Go.Maps
attribute [local go_sem] Oper.semAt_some

namespace M
/-- the nodes of v's subtree in postorder, f levels deep at most -/
def postGo (xs : List Int) : Nat → Nat → List Int
  | 0, _ => []
  | f + 1, v => ((List.range (deg xs v)).flatMap fun i => postGo xs f (kidAt xs v i)) ++ [(v : Int)]
/-- those of the first k children -/
def postK (xs : List Int) (f v k : Nat) : List Int := (List.range k).flatMap fun i => postGo xs f (kidAt xs v i)
theorem postK_succ (xs : List Int) (f v k : Nat) : postK xs f v (k + 1) = postK xs f v k ++ postGo xs f (kidAt xs v k) := by simp [postK, List.range_succ]
theorem postGo_at {xs : List Int} {f v d : Nat} (h : xs[v]? = some (d : Int)) : postGo xs (f + 1) v = postK xs f v d ++ [(v : Int)] := by rw [postGo, deg_at h]; rfl
theorem postGo_len {xs : List Int} (ht : isTree xs = true) : ∀ f v, v < xs.length → 24 - v ≤ f → (postGo xs f v).length = span 1 (xs.drop v) := by
  intro f
  induction f with
  | zero => intro v hv h; have := (tree_len ht).2; omega
  | succ f ih =>
    intro v hv hf
    obtain ⟨d, hd, _⟩ := tree_degN ht hv
    have hK : ∀ k, k ≤ d → (postK xs f v k).length + (v + 1) = kidAt xs v k := by
      intro k
      induction k with
      | zero => intro _; simp [postK, kidAt]
      | succ k ihk =>
        intro hk
        have hkl := kid_lt ht hd (i := k) (by omega)
        have hkv := (kid_due ht hd k (by omega)).2.2
        rw [postK_succ, List.length_append, ih _ hkl (by omega)]
        have := ihk (by omega)
        simp only [kidAt]
        omega
    have h1 := hK d (Nat.le_refl _)
    have h2 := kid_end ht hd
    rw [postGo_at hd, List.length_append, List.length_singleton]
    omega
theorem postGo_le {xs : List Int} (ht : isTree xs = true) {f v : Nat} (hv : v < xs.length) (hf : 24 - v ≤ f) : (postGo xs f v).length ≤ 24 := by
  rw [postGo_len ht f v hv hf]
  have := span_le (xs.drop v) 1
  have := (tree_len ht).2
  simp at *
  omega
end M

/-- a child, whatever the place -/
def kidO (xs : List Int) (v d x : Nat) : Nat := M.kidAt xs v (min x (d - 1))
theorem kidO_at (xs : List Int) {v d x : Nat} (h : x < d) : kidO xs v d x = M.kidAt xs v x := by rw [kidO, show min x (d - 1) = x by omega]

theorem grown_trans {X Y Z : World} {r1 r2 : Option Nat} (h : X.grownBy Y r1) (k : Y.grownBy Z r2) (hr : ∀ g, r2 = some g → some g = r1 ∨ X.heap.size ≤ g) : X.grownBy Z r1 :=
  ⟨k.os.trans h.os, k.tape.trans h.tape, k.output.trans h.output, Nat.le_trans h.size k.size, fun j hj hne =>
    (k.block j (Nat.lt_of_lt_of_le hj h.size) (fun e => by
      rcases hr j e.symm with h1 | h1
      · exact hne h1
      · omega)).trans (h.block j hj hne)⟩
theorem row_cells {W : World} {base e size k : Nat} {v : Value} {xs : List Value} (h : W.ownsRow base e size v k xs) (j : Nat) (o : Obj) (hj : v.ownBlock = some j) (ho : W.heap[j]? = some o) : o.isCells = true := by
  rcases h.2 with ⟨rfl, _⟩ | ⟨g, cap, cur, rfl, _, hg, _⟩
  · simp [Value.ownBlock] at hj
  · obtain rfl : g = j := by simpa [Value.ownBlock] using hj
    rw [hg] at ho
    cases ho
    rfl
theorem row_kept {W W' : World} {base e size k B : Nat} {v : Value} {xs : List Value} {row : Option Nat} (h : W.ownsRow base e size v k xs) (hg : W.grownBy W' row) (hr : ∀ r, row = some r → B ≤ r ∧ ∃ o : Obj, W.heap[r]? = some o ∧ o.isCells = false) : W'.ownsRow base e size v k xs := by
  refine h.kept hg ?_
  cases hv : v.ownBlock with
  | none => exact .inl rfl
  | some g =>
    refine .inr fun e' => ?_
    obtain ⟨_, o, ho, hc⟩ := hr g e'.symm
    rw [row_cells h g o hv ho] at hc
    cases hc

end Go.Proofs.Ytbdmmeoelagdcaa

/- A region that draws its order, in a round of a range over a function at the wide fence: what is shown of it outside of rounds serves there. No program is named here. -/
namespace Go.Proofs.Ytbdmmeoelagdcaa
open Go.RowKit

section
variable {P : Program} {ops : Array Oper} {Q : Exit → Act → World → Prop} {md : Region.Mode} {l n : Nat}

/-- no defer and no row stands among the operations -/
def NoDefer (ops : Array Oper) : Prop := ∀ (i : Nat) (o : Oper), ops[i]? = some o → ∀ c, o.op ≠ .defer c

theorem op_round {o : Oper} (hd : ∀ c, o.op ≠ .defer c) {a : Act} {w : World} {K : Act → World → Prop} (h : o.wp P a w K Q) : o.wpIn (Fence.wide.inRound l) n P a w K Q := by
  refine ⟨fun _ _ => trivial, ?_⟩
  rw [Oper.semAt_eq _ _ _ hd]
  unfold Oper.wp at h
  generalize (execOp a.eval o).run P w = r at h ⊢
  cases r with
  | ok x w' =>
    cases x <;> first | exact h | exact ⟨(fun e => by cases e), CallsIn.inRound l (callsIn_wide.2 h)⟩ | exact ⟨(fun e => by cases e), fun c cs _ => let ⟨v, w'', r, s⟩ := h c cs; ⟨v, w'', r, stepsIn_wide.2 s⟩⟩ | exact False.elim h
  | halt x w' =>
    cases x <;> first | exact h | exact False.elim h

theorem any_round (hd : NoDefer ops) (hQ : ¬ LetsOut Q) : ∀ (fuel : Nat) (listed : Array Bool) (a : Act) (w : World), wpAny P md ops Q fuel listed a w → wpAnyIn (Fence.wide.inRound l) n P md ops Q fuel listed a w := by
  intro fuel
  induction fuel with
  | zero => intro listed a w h; exact h
  | succ fuel ih =>
    intro listed a w h
    refine ⟨h.1, fun i hi => ?_⟩
    have h2 := h.2 i hi
    unfold wpOp at h2
    unfold wpOpIn
    cases ho : ops[i]? with
    | none => rw [ho] at h2; exact ih _ _ _ h2
    | some o =>
      rw [ho] at h2
      dsimp only at h2 ⊢
      split at h2
      · rename_i hw
        rw [if_pos hw]
        rcases h2 with h2 | ⟨_, h2⟩
        · exact op_round (hd i o ho) (Oper.wp_mono (fun a w => ih _ a w) h2)
        · exact absurd h2 hQ
      · rename_i hw
        rw [if_neg hw]
        exact ⟨fun _ _ => trivial, ih _ _ _ h2⟩

/-- the region in a round, held: S is shown once, of the world behind the draw -/
theorem region_round {id : Nat} {a : Act} {w : World} {S : World → Prop} (hm : P.follows .mixedOrders = true) (hd : NoDefer ops) (hQ : ¬ LetsOut Q)
    (h : wpAnyH P .any ops Q S ops.size (Array.replicate ops.size false) a w.drew) : (Code.region id ops true).wpIn (Fence.wide.inRound l) n P Q a w :=
  wpIn_region_any hm (any_round hd hQ _ _ _ _ (wpAny_of_held _ _ _ _ h))

def noDeferB (ops : Array Oper) : Bool := ops.toList.all fun o => match o.op with
  | .defer _ => false
  | _ => true
theorem noDefer_of (h : noDeferB ops = true) : NoDefer ops := fun i o hi c hc => by
  have h1 := List.all_eq_true.1 h o (Array.mem_toList_iff.2 (Array.mem_of_getElem? hi))
  simp [hc] at h1

/-- all operations but the last ones read quietly; those end the region in one order -/
theorem region_round_tail {id : Nat} {a : Act} {w : World} {ls : List Oper} (k : Nat) (hm : P.follows .mixedOrders = true) (hB : Region.lexTailB .any ls.toArray k = true) (hd : noDeferB ls.toArray = true) (hQ : ¬ LetsOut Q)
    (h : wpStill P ls.toArray { w with drawn := w.drawn + 1 } (fun a' => wpList P ls.toArray Q (ls.drop k) a' { w with drawn := w.drawn + 1 }) (ls.take k) a) : (Code.region id ls.toArray true).wpIn (Fence.wide.inRound l) n P Q a w := by
  simp only [Region.lexTailB, Bool.and_eq_true, decide_eq_true_eq] at hB
  obtain ⟨⟨⟨⟨hsel, hn⟩, hs⟩, hc⟩, hlex⟩ := hB
  have hn' : k < ls.length := by simpa using hn
  have htl : (ls.take k).length = k := by simp; omega
  have hdl : (ls.drop k).length = ls.toArray.size - k := by simp
  have inv0 : HeadInv .any ls.toArray k (Array.replicate ls.toArray.size false) :=
    ⟨by simp, fun j oj _ hl => (by rw [getD_replicate_false] at hl; cases hl), fun t _ ht => getD_in (by simpa using ht) (getD_replicate_false _ _)⟩
  have H := wpAnyL_lex (md := .any) (g := ls.toArray.size - k) hsel hs hc hn (ls.take k) 0 _ a (fun j hj => by
    have hj' : j < k := by rw [htl] at hj; exact hj
    simp [hj']) (by simpa using htl) inv0 (by rw [htl]; exact hlex) h
  refine wpIn_region_any hm (any_round (noDefer_of hd) hQ _ _ _ _ ?_)
  have := wpAny_of_head (Q' := Q) (g := ls.toArray.size - k) (fun listed a' hL => by
    have := wpAny_of_seq (md := .any) (Q' := Q) (ls.drop k) k listed a' { w with drawn := w.drawn + 1 } (fun j => by simp [List.getElem?_drop]) (by rw [hdl]; exact hL.1) hL.2
    rwa [hdl] at this) _ _ _ H
  rw [htl, show k + (ls.toArray.size - k) = ls.toArray.size by omega] at this
  exact this
end
end Go.Proofs.Ytbdmmeoelagdcaa

/- NextGrowing, the program's: a range over an order from its end, with a return in it. -/
namespace Go.Proofs.Ytbdmmeoelagdcaa
open Go.RowKit Go.Shelf Go.Maps
attribute [local go_sem] Oper.semAt_some

theorem keepsOthers_be9 {W W' : World} (h : Below W.heap.size W W') : KeepsOthers W W' := ⟨h.size, fun k _ hk _ => (h.block k (Array.getElem?_eq_some_iff.1 hk).1).trans hk⟩
theorem keepK_turn9 {n₀ Bd D : Nat} (hn : n₀ ≤ D) (hB : Bd < D) (W : World) (o o' : Obj) (h : W.heap[D + 1]? = some o) : KeepK n₀ Bd W (W.putObj (D + 1) o') := by
  have hl := (Array.getElem?_eq_some_iff.1 h).1
  exact ⟨(Below.refl n₀ W).grown (grownBy_putObj' W (D + 1) o') (by omega) (fun k e => by injection e with e; omega), (grownBy_putObj' W (D + 1) o').block Bd (by omega) (fun e => by injection e with e; omega)⟩
theorem boxed_be9 {W W' : World} {B : Nat} {t : TypeId} {v : Value} (h : Boxed W B t v) (hb : Below W.heap.size W W') : Boxed W' B t v := (hb.block B h.lt).trans h
/-- what NextGrowing hands back -/
def NextQ (w : World) (P : List Int × Int) (e : Ending) (w' : World) : Prop :=
  ∃ A' c', e = .returned (.tuple #[.slice A' P.1.length c', .int .i64 P.2]) ∧ Own64 w' w.heap.size (.slice A' P.1.length c') P.1 ∧ Below w.heap.size w w'

set_option maxRecDepth 100000 in
set_option maxHeartbeats 8000000 in
theorem nextGrowing_in (A A2 : Option Addr) (xs l : List Int) (c c2 : Nat) (w : World) (hx : xs.length ≤ 1048576) (hcc : xs.length ≤ c ∧ c ≤ 1000000000000) (hcc2 : l.length ≤ c2 ∧ c2 ≤ 1000000000000) (h : Hid (Ints w w.heap.size A xs)) (h2 : Hid (Ints w w.heap.size A2 l)) :
    CallsIn Fence.wide 5 Try.prog 64 #[.agg #[.slice A xs.length c], .slice A2 l.length c2] w fun e w' => NextQ w (F_NextGrowing xs l) e w' := by
  obtain ⟨n, hn⟩ : ∃ n, Hid (xs.length = n) := ⟨_, rfl⟩
  obtain ⟨m, hm⟩ : ∃ m, Hid (l.length = m) := ⟨_, rfl⟩
  rw [hn.out] at hcc ⊢
  rw [hm.out] at hcc2 ⊢
  obtain ⟨W, hW⟩ : ∃ W, W = (((w.alloc (.cells #[.slice A n c] 29)).alloc (.cells #[.slice A2 m c2] 23)).alloc (.cells #[.slice none 0 0] 23)).alloc (.cells #[.int .i64 0] 2) := ⟨_, rfl⟩
  have bT : Boxed W w.heap.size 29 (.slice A n c) := by rw [hW]; exact (((Boxed.new w _ _).alloc _).alloc _).alloc _
  have bO : Boxed W (w.heap.size + 1) 23 (.slice A2 m c2) := by
    rw [hW]
    have := Boxed.new (w.alloc (.cells #[.slice A n c] 29)) 23 (.slice A2 m c2)
    rw [World.size_alloc] at this
    exact (this.alloc _).alloc _
  have bR : Boxed W (w.heap.size + 1 + 1) 23 (.slice none 0 0) := by
    rw [hW]
    have := Boxed.new ((w.alloc (.cells #[.slice A n c] 29)).alloc (.cells #[.slice A2 m c2] 23)) 23 (.slice none 0 0)
    rw [World.size_alloc, World.size_alloc] at this
    exact this.alloc _
  have bC : Boxed W (w.heap.size + 1 + 1 + 1) 2 (.int .i64 0) := by
    rw [hW]
    have := Boxed.new (((w.alloc (.cells #[.slice A n c] 29)).alloc (.cells #[.slice A2 m c2] 23)).alloc (.cells #[.slice none 0 0] 23)) 2 (.int .i64 0)
    rw [World.size_alloc, World.size_alloc, World.size_alloc] at this
    exact this
  have hsz : w.heap.size + 1 + 1 + 1 < W.heap.size := by rw [hW]; simp
  have hB0 : Hid (Below w.heap.size w W) := by rw [hW]; exact bal (bal (bal (bal (b0 w) _) _) _) _
  have H1 : Hid (Ints W W.heap.size A xs) := Lib.hid (h.out.be hB0.out)
  have H2 : Hid (Ints W W.heap.size A2 l) := Lib.hid (h2.out.be hB0.out)
  obtain ⟨r, hr⟩ : ∃ r, Hid (M.gcode xs l = r) := ⟨_, rfl⟩
  have HO : Hid (∀ X, Hid (Below W.heap.size W X) → Calls Try.prog 118 #[] X fun e w' => ∃ g, e = .returned (.slice (some ⟨g, 0, none⟩) 3 3) ∧ Hid (StepsIn w' g 3) ∧ Hid (Below W.heap.size W w')) := fun X hX =>
    (orderSteps X).mono fun e w' ⟨g, he, hs, hb⟩ => ⟨g, he, hs, btr hX.out hb⟩
  have HC : Hid (∀ g X, Hid (Below W.heap.size W X) → Hid (StepsIn X g 3) → Calls Try.prog 110 #[.agg #[.slice A n c, .slice A2 m c2], .slice (some ⟨g, 0, none⟩) 3 3] X fun e w' => e = .returned (.int .i64 r) ∧ Hid (Below W.heap.size W w')) := fun g X hX hs => by
    have := codeAll A A2 xs l c c2 g X hx (by rw [hn.out]; exact hcc) (Lib.hid (H1.out.be hX.out)) (Lib.hid (H2.out.be hX.out)) hs r hr
    rw [hn.out, hm.out] at this
    exact this.mono fun e w' ⟨he, hb⟩ => ⟨he, btr hX.out hb⟩
  obtain ⟨P, hP⟩ : ∃ P, F_NextGrowing xs l = P := ⟨_, rfl⟩
  rw [hP]
  have hmix : Try.prog.follows .mixedOrders = true := by kernel_rfl
  have K0 : Hid (Below W.heap.size W W.drew) := (Below.refl _ _).drew
  have cT := bT.cell
  have cO := bO.cell
  have e0 : W.drew.cell? ⟨w.heap.size, 0, none⟩ = some (.slice A n c) ∧ W.drew.cell? ⟨w.heap.size + 1, 0, none⟩ = some (.slice A2 m c2) := ⟨cT, cO⟩
  have BT := Lib.hid bT
  have BO := Lib.hid bO
  have BR := Lib.hid bR
  have BC := Lib.hid bC
  clear h h2 bT bO bR bC
  refine callsIn_of_wp_marks Try.func64 rfl trivial ?_ rfl
  simp only [Try.ntmps64, List.size_toArray, List.length_cons, List.length_nil, Nat.reduceAdd, Nat.reduceSub, Array.replicate_succ, Array.replicate_zero, List.push_toArray, List.append_toArray, List.nil_append, List.cons_append]
  gi_wp2
  rw [← hW]
  clear hW
  refine wpIn_wide.2 ?_
  go_region_held3 (fun w' => (w'.cell? ⟨w.heap.size, 0, none⟩ = some (.slice A n c) ∧ w'.cell? ⟨w.heap.size + 1, 0, none⟩ = some (.slice A2 m c2)) ∧ Hid (Below W.heap.size W w')) (first | exact ⟨e0, K0⟩ | exact ⟨⟨cell_be cT (Hid.out (by assumption)), cell_be cO (Hid.out (by assumption))⟩, by assumption⟩) (first | (go_at_call 118; refine (HO.out _ (by assumption)).mono ?_; rintro e w4 ⟨g4, rfl, hs4, hb4⟩) | (go_at_call 110; refine (HC.out _ _ (by assumption) (by assumption)).mono ?_; rintro e w5 ⟨rfl, hb5⟩))
  replace BT := Lib.hid (boxed_be9 BT.out hb5.out)
  replace BO := Lib.hid (boxed_be9 BO.out hb5.out)
  replace BR := Lib.hid (boxed_be9 BR.out hb5.out)
  replace BC := Lib.hid (boxed_be9 BC.out hb5.out)
  have hB5 := Lib.hid (btr hB0.out hb5.out)
  have hz5 := hb5.out.size
  clear HO HC K0 e0 hb4 hs4 cT cO
  have cR := BR.out.cell
  have fR := BR.out.frozen
  have cC := BC.out.cell
  have fC := BC.out.frozen
  have cO := BO.out.cell
  by_cases h0 : r = 0
  · subst h0
    rw [F_NextGrowing_yes hr.out] at hP
    have hz := M.gcode_zero hr.out
    have Ht := Lib.hid hz.1
    have hlen := M.tree_len Ht.out
    have hll : l.length = xs.length := (M.isOrd_iff.1 hz.2.1).1
    have hBgn := Lib.hid (M.ord_bgn hz.2.1 hz.2.2)
    have hpar : Hid (M.Parents xs.length (M.parents xs)) := by
      obtain ⟨ps, hp⟩ := M.pars_ex9 Ht.out
      show M.Parents _ _
      rw [M.parents_eq Ht.out hp]
      exact M.parents_of Ht.out hp
    have hmn : n = m := by rw [← hn.out, ← hm.out, hll]
    subst hmn
    have hln := hm
    obtain ⟨b, off, rfl, hbl, hcs⟩ := H2.out (by rw [hll]; omega)
    rw [hn.out] at hlen hBgn hpar hP
    clear hr hz hll hcs hbl
    gi_wp2_with (refine ⟨trivial, ?_⟩; gi_at_call 119; refine (backIn 4 (some ⟨b, off, none⟩) n c2 _).mono ?_; rintro e w' ⟨rfl, rfl⟩)
    obtain ⟨V0, hV0⟩ : ∃ V0, V0 = w5.alloc (.cells #[.slice (some ⟨b, off, none⟩) n c2] 23) := ⟨_, rfl⟩
    have bB : Boxed V0 w5.heap.size 23 (.slice (some ⟨b, off, none⟩) n c2) := by rw [hV0]; exact Boxed.new _ _ _
    have hsV : V0.heap.size = w5.heap.size + 1 := by rw [hV0]; simp
    have hBV : Below w.heap.size w V0 := by rw [hV0]; exact bal hB5.out _
    have hWV : Below W.heap.size W V0 := by rw [hV0]; exact bal hb5.out _
    replace BT : Boxed V0 w.heap.size 29 (.slice A n c) := by rw [hV0]; exact BT.out.alloc _
    replace BO : Boxed V0 (w.heap.size + 1) 23 (.slice (some ⟨b, off, none⟩) n c2) := by rw [hV0]; exact BO.out.alloc _
    replace BR : Boxed V0 (w.heap.size + 1 + 1) 23 (.slice none 0 0) := by rw [hV0]; exact BR.out.alloc _
    replace BC : Boxed V0 (w.heap.size + 1 + 1 + 1) 2 (.int .i64 0) := by rw [hV0]; exact BC.out.alloc _
    have HIl : Ints V0 W.heap.size (some ⟨b, off, none⟩) l := H2.out.below hWV (Nat.le_refl _)
    rw [← hV0]
    clear hV0 cR fR cC fC cO
    obtain ⟨Bb, hBb⟩ : ∃ Bb, w5.heap.size = Bb := ⟨_, rfl⟩
    rw [hBb] at bB hsV hz5 ⊢
    clear hBb
    have h15 : 1 ≤ 5 := by omega
    obtain ⟨R, hR⟩ : ∃ R, Hid (M.nextTo n (M.parents xs) l n = R) := ⟨_, rfl⟩
    rw [hR.out] at hP
    have hIl : Ints V0 W.heap.size (some ⟨b, off, none⟩) l := HIl
    have hbk := back_rows (fun k => #[.int .i64 ((n - 1 - k : Nat) : Int), .int .i64 (l[n - 1 - k]?.getD 0)]) 4 (by omega) Bb W.heap.size (some ⟨b, off, none⟩) l c2 (by rw [hln.out]; omega) (fun k v x hk hv => by rw [hln.out] at hk; rw [show n - 1 - k = v by omega, hv]; rfl) V0 (by rw [hln.out]; exact bB) HIl (by omega)
    rw [hln.out] at hbk
    refine wpIn_rangeRows rfl h15 (gf := 157) (lb := #[.pointer (some ⟨Bb, 0, none⟩)]) rfl trivial (enters_of Try.func157 (by kernel_rfl) rfl) hbk (Below.refl _ _) (fun h k => h.t k)
      (fun W r r' h => by rw [hsV] at h ⊢; exact keepK_turn9 (by omega) (by omega) W (.loop r) (.loop r') h) (fun _ => rfl)
      (fun pre X => (pre = List.range pre.length → pre.length ≤ n → M.nextTo n (M.parents xs) l (n - pre.length) = R) ∧ Boxed X w.heap.size 29 (.slice A n c) ∧ Boxed X (w.heap.size + 1) 23 (.slice (some ⟨b, off, none⟩) n c2) ∧ Boxed X (w.heap.size + 1 + 1) 23 (.slice none 0 0) ∧ Boxed X (w.heap.size + 1 + 1 + 1) 2 (.int .i64 0) ∧ Boxed X Bb 23 (.slice (some ⟨b, off, none⟩) n c2) ∧ Below W.heap.size W X)
      (fun cc _ X => cc = .ret ∧ ∃ Y A9 c9, R = some Y ∧ Hid (Y.length = n) ∧ Boxed X (w.heap.size + 1 + 1) 23 (.slice A9 n c9) ∧ Boxed X (w.heap.size + 1 + 1 + 1) 2 (.int .i64 0) ∧ Own64 X W.heap.size (.slice A9 n c9) Y ∧ Below w.heap.size w X)
      ?keep ?keepx ?third ?start
      (fun x => { tmps := #[.agg #[.slice A n c], .slice (some ⟨b, off, none⟩) n c2, .pointer (some ⟨w.heap.size, 0, none⟩), .pointer (some ⟨w.heap.size + 1, 0, none⟩), .pointer (some ⟨w.heap.size + 1 + 1, 0, none⟩), .pointer (some ⟨w.heap.size + 1 + 1 + 1, 0, none⟩), .int .i64 0, .int .i64 ((n - 1 - x : Nat) : Int), .int .i64 (l[n - 1 - x]?.getD 0), undef, undef, undef, .agg #[.slice A n c], .slice (some ⟨b, off, none⟩) n c2, .agg #[.slice A n c, .slice (some ⟨b, off, none⟩) n c2], .slice (some ⟨g4, 0, none⟩) 3 3, .int .i64 0, .int .i64 0, .bool false, undef, .slice (some ⟨b, off, none⟩) n c2, .func (.func 157) #[] #[.pointer (some ⟨Bb, 0, none⟩)], .int .i64 ((n - 1 - x : Nat) : Int), .int .i64 (l[n - 1 - x]?.getD 0), undef, undef, undef, undef, undef, undef, undef, undef, undef, undef, undef, undef, undef, undef, undef, undef, undef, undef, undef, undef], defers := [] }) ?assign ?body ?done ?stop
    case keep =>
      rintro pre X Y r' ⟨h0, h1, h2, h3, h4, h5, h6⟩ hg hr
      exact ⟨h0, h1.kept hg (fun e => by have := (hr _ e.symm).1; omega), h2.kept hg (fun e => by have := (hr _ e.symm).1; omega), h3.kept hg (fun e => by have := (hr _ e.symm).1; omega), h4.kept hg (fun e => by have := (hr _ e.symm).1; omega), h5.kept hg (fun e => by have := (hr _ e.symm).1; omega), h6.grown hg h6.size (fun k e => by have := (hr _ e).1; omega)⟩
    case keepx =>
      rintro cc pre X Y r' ⟨h1, Y9, A9, c9, h2, h3, h4, h5, h6, h7⟩ hg hr
      exact ⟨h1, Y9, A9, c9, h2, h3, h4.kept hg (fun e => by have := (hr _ e.symm).1; omega), h5.kept hg (fun e => by have := (hr _ e.symm).1; omega), row_kept h6 hg hr, h7.grown hg h7.size (fun k e => by have := (hr _ e).1; omega)⟩
    case third => exact fun _ _ _ _ h _ _ => h
    case start => exact ⟨fun _ _ => by simpa using hR.out, BT, BO, BR, BC, bB, hWV⟩
    case assign =>
      intro l' x X K hK
      gi_wp2
      exact hK
    case body =>
      rintro l' pre x X ⟨h0, h1, h2, h3, h4, h5, h6⟩ ⟨hpre, hlt⟩
      subst hpre
      have hRk := h0 (by simp) (by simp; omega)
      rw [List.length_range] at hRk
      obtain ⟨k, hk⟩ : ∃ k, k + 1 + x = n := ⟨n - 1 - x, by omega⟩
      obtain ⟨y, hy⟩ : ∃ y, l[k]? = some y := ⟨_, List.getElem?_eq_getElem (by rw [hln.out]; omega)⟩
      rw [show n - x = k + 1 by omega] at hRk
      rw [show n - 1 - x = k by omega, hy, Option.getD_some]
      have hXs := h6.size
      have hBbX := h5.lt
      have hk0 : (0 : Int) ≤ (k : Int) := by omega
      have hkc : (k : Int) ≤ (c2 : Int) := by omega
      have hkn : (k : Int) ≤ (n : Int) := by omega
      have c1 := h1.cell
      have c2' := h2.cell
      have S0 : X.drew.cell? ⟨w.heap.size, 0, none⟩ = some (.slice A n c) ∧ X.drew.cell? ⟨w.heap.size + 1, 0, none⟩ = some (.slice (some ⟨b, off, none⟩) n c2) := ⟨c1, c2'⟩
      have S1 : (X.drew.alloc (.cells #[.slice none 0 0, .slice none 0 0] 118)).cell? ⟨w.heap.size, 0, none⟩ = some (.slice A n c) ∧ (X.drew.alloc (.cells #[.slice none 0 0, .slice none 0 0] 118)).cell? ⟨w.heap.size + 1, 0, none⟩ = some (.slice (some ⟨b, off, none⟩) n c2) := ⟨cell_al S0.1 _, cell_al S0.2 _⟩
      gi_wp2
      refine region_round (S := fun w' => w'.cell? ⟨w.heap.size, 0, none⟩ = some (.slice A n c) ∧ w'.cell? ⟨w.heap.size + 1, 0, none⟩ = some (.slice (some ⟨b, off, none⟩) n c2)) hmix (noDefer_of (by kernel_rfl)) (fun ⟨_, _, h⟩ => h) ?_
      refine anyTake 0 (some 24) (.agg #[.slice A n c]) rfl rfl (by kernel_rfl) (by kernel_rfl) (by kernel_rfl) (fun _ _ _ h => h) (by rfl) (by intro w hSw; (try dsimp only at hSw); go_simp) S0 ?_
      try simp only [Act.put, List.setIfInBounds_toArray, List.set_cons_zero, List.set_cons_succ]
      refine anyTake 1 (some 25) (.slice (some ⟨b, off, none⟩) n c2) rfl rfl (by kernel_rfl) (by kernel_rfl) (by kernel_rfl) (fun _ _ _ h => h) (by rfl) (by intro w hSw; (try dsimp only at hSw); go_simp) S0 ?_
      try simp only [Act.put, List.setIfInBounds_toArray, List.set_cons_zero, List.set_cons_succ]
      refine anyTake 2 (some 26) (.int .i64 (k : Int)) rfl rfl (by kernel_rfl) (by kernel_rfl) (by kernel_rfl) (fun _ _ _ h => h) (by rfl) (by intro w hSw; (try dsimp only at hSw); go_simp) S0 ?_
      try simp only [Act.put, List.setIfInBounds_toArray, List.set_cons_zero, List.set_cons_succ]
      refine anyTake 3 (some 27) (.slice (some ⟨b, off, none⟩) k c2) rfl rfl (by kernel_rfl) (by kernel_rfl) (by kernel_rfl) (fun _ _ _ h => h) (by rfl) (by intro w hSw; (try dsimp only at hSw); go_simp) S0 ?_
      try simp only [Act.put, List.setIfInBounds_toArray, List.set_cons_zero, List.set_cons_succ]
      refine anyTake 4 (some 28) (.agg #[.slice A n c, .slice (some ⟨b, off, none⟩) k c2]) rfl rfl (by kernel_rfl) (by kernel_rfl) (by kernel_rfl) (fun _ _ _ h => h) (by rfl) (by intro w hSw; (try dsimp only at hSw); go_simp) S0 ?_
      try simp only [Act.put, List.setIfInBounds_toArray, List.set_cons_zero, List.set_cons_succ]
      refine wpAnyH_ready (rs := [5]) (by kernel_rfl) (by simp) ?_
      refine AllReadyH.cons rfl (fun K hK => ?_) AllReadyH.nil
      go_simp
      refine hK.out _ _ (by exact S1) (fun hHeld => ?_)
      clear hK K hHeld
      try simp only [Act.put, List.setIfInBounds_toArray, List.set_cons_zero, List.set_cons_succ]
      refine wpAnyH_ready (rs := [6]) (by kernel_rfl) (by simp) ?_
      refine AllReadyH.cons rfl (fun K hK => ?_) AllReadyH.nil
      go_simp
      obtain ⟨d0, d1⟩ := order_cells X (.slice A n c) (.slice (some ⟨b, off, none⟩) k c2) 118
      have S2 : (X.alloc (.cells #[.slice A n c, .slice (some ⟨b, off, none⟩) k c2] 118)).drew.cell? ⟨w.heap.size, 0, none⟩ = some (.slice A n c) ∧ (X.alloc (.cells #[.slice A n c, .slice (some ⟨b, off, none⟩) k c2] 118)).drew.cell? ⟨w.heap.size + 1, 0, none⟩ = some (.slice (some ⟨b, off, none⟩) n c2) := ⟨cell_al c1 _, cell_al c2' _⟩
      refine hK.out _ _ (by exact S2) (fun hHeld => ?_)
      clear hK K hHeld
      try simp only [Act.put, List.setIfInBounds_toArray, List.set_cons_zero, List.set_cons_succ]
      refine wpAnyH_done (by kernel_rfl) ?_ _
      obtain ⟨Z, hZ⟩ : ∃ Z, Z = (X.alloc (.cells #[.slice A n c, .slice (some ⟨b, off, none⟩) k c2] 118)).drew := ⟨_, rfl⟩
      have e0 : Z.cell? ⟨X.heap.size, 0, none⟩ = some (.slice A n c) := by rw [hZ]; exact d0
      have e1 : Z.cell? ⟨X.heap.size, 1, none⟩ = some (.slice (some ⟨b, off, none⟩) k c2) := by rw [hZ]; exact d1
      have hbX : Below X.heap.size X Z := by rw [hZ]; exact (bal (b0 X) _).drew
      rw [← hZ]
      clear hZ S0 S1 S2 d0 d1 c1 c2'
      have hbZ : Below W.heap.size W Z := btr h6 hbX
      have hkl : Hid ((l.take k).length = k) := by show _ = _; rw [List.length_take, hln.out]; omega
      have hI1 : Hid (Ints Z Z.heap.size A xs) := Lib.hid (H1.out.be hbZ)
      have hI2 : Hid (Ints Z Z.heap.size (some ⟨b, off, none⟩) (l.take k)) := Lib.hid (take_ints9 (H2.out.be hbZ) k)
      have HRd := Lib.hid (ready A (some ⟨b, off, none⟩) xs (l.take k) n c k c2 Z hn hcc.1 hcc.2 Ht hpar (Lib.hid (M.bgn_take hBgn.out k)) hkl hI1 hI2)
      obtain ⟨rr, hrr⟩ : ∃ rr, Hid (M.rdyTo (M.parents xs) (l.take k) n = rr) := ⟨_, rfl⟩
      rw [hrr.out] at HRd
      gi_wp2_with (refine ⟨trivial, ?_⟩; gi_at_call 120; refine (CallsIn.inRound l' (callsIn_wide.2 HRd.out)).mono ?_; rintro e w6 ⟨A6, m6, c6, rfl, ho6, hb6⟩)
      have hrl := M.rdyTo_len (M.parents xs) (l.take k) n
      rw [hrr.out] at hrl
      have hm6 := own64_len ho6
      have Hm6 := Lib.hid hm6
      have hm24 : m6 ≤ 24 := by omega
      have Ho6 := Lib.hid ho6
      have hb6' : Below X.heap.size X w6 := hbX.trans (hb6.mono hbX.size)
      have e0' := cellOf_be e0 hb6
      have e1' := cellOf_be e1 hb6
      have hzX6 : X.heap.size ≤ w6.heap.size := hb6'.size
      have hst : Hid (M.firstOver (rr.take 0) y = none) := M.over_zero _ _
      clear hrl hm6 ho6 hb6 HRd e0 e1
      gi_wp2
      gi_loopw [32] (fun qj ws => ∃ j : Nat, j ≤ m6 ∧ qj = .int .i64 (j : Int) ∧ Hid (M.firstOver (rr.take j) y = none) ∧ ws = w6) (fun qj _ => m6 - (intOf qj).toNat)
      case atStart => exact ⟨0, Nat.zero_le _, rfl, hst, rfl⟩
      case round =>
        clear hst
        obtain ⟨j, hj, rfl, hfo, rfl⟩ := hrel
        by_cases hjm : j < m6
        · obtain ⟨z, hz⟩ : ∃ z, rr[j]? = some z := ⟨_, List.getElem?_eq_getElem (by rw [← Hm6.out]; exact hjm)⟩
          obtain ⟨g6, hA6⟩ : ∃ g, A6 = some ⟨g, 0, none⟩ := by
            rcases Ho6.out.2 with ⟨h0, _⟩ | ⟨g, cap, cur, hvv, _⟩
            · injection h0 with _ e _; omega
            · injection hvv with e1; exact ⟨g, e1⟩
          subst hA6
          obtain ⟨p1, p2, p3, p4⟩ := own64_cell Ho6.out Hm6.out.symm hz
          have hji : (j : Int) < (m6 : Int) := by omega
          have hj0 : (0 : Int) ≤ (j : Int) := by omega
          by_cases hyz : y < z
          · have hov := M.over_hit hfo.out hz hyz
            have hmem : z ∈ M.rdyTo (M.parents xs) (l.take k) n := by rw [hrr.out]; exact M.over_mem hov
            have hRR : R = some (M.fill true n (M.parents xs) (n - (l.take k ++ [z]).length) (l.take k ++ [z])) := by rw [← hRk]; exact M.nextTo_hit hy (by rw [hrr.out]; exact hov)
            have hYl : Hid ((M.fill true n (M.parents xs) (n - (l.take k ++ [z]).length) (l.take k ++ [z])).length = n) := by
              show _ = _
              rw [M.fill_len, List.length_append, hkl.out, List.length_singleton]
              omega
            have hbg2 : Hid (M.Bgn n (M.parents xs) (l.take k ++ [z])) := Lib.hid (M.bgn_step hpar.out (M.bgn_take hBgn.out k) hmem)
            have hkl2 : Hid ((l.take k ++ [z]).length = k + 1) := by show _ = _; rw [List.length_append, hkl.out]; rfl
            have hWi := Lib.hid (withNode A (some ⟨b, off, none⟩) (l.take k) n c k c2 z wr hkl (by omega) (by intro e; cases e) (Lib.hid (take_ints9 (H2.out.be (btr h6 hb6')) k)))
            have hDo : Hid (∀ g c9 X9, Below wr.heap.size wr X9 → Own64 X9 wr.heap.size (.slice (some ⟨g, 0, none⟩) (k + 1) c9) (l.take k ++ [z]) → Calls Try.prog 122 #[.agg #[.slice A n c, .slice (some ⟨g, 0, none⟩) (k + 1) c9], .func (.func 123) #[] #[]] X9 fun e w' => ∃ A' c', e = .returned (.slice A' n c') ∧ Own64 w' wr.heap.size (.slice A' n c') (M.fill true n (M.parents xs) (n - (l.take k ++ [z]).length) (l.take k ++ [z])) ∧ Below X9.heap.size X9 w') := fun g c9 X9 hX9 ho9 =>
              completedMin A (some ⟨g, 0, none⟩) xs (l.take k ++ [z]) n c (k + 1) c9 X9 hn hcc.1 hcc.2 Ht hpar hbg2 hkl2 wr.heap.size hX9.size (Lib.hid (H1.out.be (btr (btr h6 hb6') hX9))) (Lib.hid ho9)
            clear hov hmem hz hbg2 hkl2
            generalize (M.fill true n (M.parents xs) (n - (l.take k ++ [z]).length) (l.take k ++ [z])) = Y at *
            subst hRR
            gi_wp2_with (first | (refine ⟨trivial, ?_⟩; gi_at_call 121; refine (CallsIn.inRound l' (callsIn_wide.2 hWi.out)).mono ?_; rintro e w7 ⟨g7, c7, rfl, ho7, hb7⟩) | (refine ⟨trivial, ?_⟩; gi_at_call 122; refine (CallsIn.inRound l' (callsIn_wide.2 (hDo.out _ _ _ hb7 ho7))).mono ?_; rintro e w8 ⟨A8, c8, rfl, ho8, hb8⟩; have hb9 : Below X.heap.size X w8 := btr (btr hb6' hb7) hb8; have hR8 := boxed_be9 h3 hb9; have hC8 := boxed_be9 h4 hb9; have r1 := hR8.cell; have r2 := hR8.frozen; have r3 := hC8.cell; have r4 := hC8.frozen))
            refine ⟨(((keepsOthers_be9 hb9).trans (KeepsOthers.setCell _ _ _)).trans (KeepsOthers.setCell _ _ _)).from _, rfl, Y, A8, c8, rfl, hYl, ?_, ?_, ?_, ?_⟩
            · exact (hR8.set _).other (B' := w.heap.size + 1 + 1 + 1) (by omega) _
            · exact (hC8.other (B' := w.heap.size + 1 + 1) (by omega) _).set _
            · exact own_mono (own_far (own_far ho8 (by omega) _) (by omega) _) (by omega)
            · exact below_setCell (below_setCell (btr (btr hB0.out h6) hb9) (by omega) _) (by omega) _
          · have hs := Lib.hid (M.over_step hfo.out hz hyz)
            clear hz
            gi_wp2
            go_roundw
            case rel => exact ⟨j + 1, by omega, by go_num, hs, trivial⟩
            case measure => simp [intOf]; omega
        · obtain rfl : j = m6 := by omega
          have hjm2 : ¬ (j : Int) < (j : Int) := by omega
          have hnone : M.nextTo n (M.parents xs) l k = R := by
            rw [← hRk]
            refine (M.nextTo_miss hy ?_).symm
            rw [hrr.out]
            have := hfo.out
            rw [Hm6.out] at this
            exact M.over_end this
          have HN := Lib.hid hnone
          have HB6 := Lib.hid hb6'
          clear hnone hy hfo
          gi_wp2
          refine ⟨(keepsOthers_be9 HB6.out).from _, ⟨HB6.out.mono (by omega), HB6.out.block _ (by omega)⟩, ⟨fun _ _ => ?_, boxed_be9 h1 HB6.out, boxed_be9 h2 HB6.out, boxed_be9 h3 HB6.out, boxed_be9 h4 HB6.out, boxed_be9 h5 HB6.out, btr h6 HB6.out⟩⟩
          rw [List.length_append, List.length_range, List.length_singleton, show n - (x + 1) = k by omega]
          exact HN.out
    case done =>
      rintro D ys X hD rfl ⟨h0, h1, h2, h3, h4, h5, h6⟩ hK
      have hRn : R = none := by
        have := h0 (by simp) (by simp)
        simp only [List.length_range, Nat.sub_self] at this
        exact this.symm
      rw [hRn] at hP
      subst hP
      have c3 := h3.cell
      have f3 := h3.frozen
      have c4 := h4.cell
      have f4 := h4.frozen
      have HK := Lib.hid hK
      have H6 := Lib.hid h6
      have H3 := Lib.hid h3
      have H4 := Lib.hid h4
      have hB6 := Lib.hid (btr hB0.out h6)
      clear h0 h1 h2 h3 h4 h5 h6 hK
      gi_wp2
      have hne1 : D ≠ w.heap.size + 1 + 1 := by omega
      have hne2 : D ≠ w.heap.size + 1 + 1 + 1 := by omega
      have hKD : ((X.setCell ⟨w.heap.size + 1 + 1, 0, none⟩ (.slice none 0 0)).setCell ⟨w.heap.size + 1 + 1 + 1, 0, none⟩ (.int .i64 4)).heap[D]? = some (.deferred (some [])) := (Below.heap_setCell _ ⟨w.heap.size + 1 + 1 + 1, 0, none⟩ (.int .i64 4) D hne2).trans ((Below.heap_setCell X ⟨w.heap.size + 1 + 1, 0, none⟩ (.slice none 0 0) D hne1).trans HK.out)
      have hR1 := (((H3.out.set (.slice none 0 0)).other (B' := w.heap.size + 1 + 1 + 1) (by omega) (.int .i64 4)).kept (grownBy_putObj' _ D (.deferred none)) (fun e => by injection e with e; omega)).cell
      have hR2 := (((H4.out.other (B' := w.heap.size + 1 + 1) (by omega) (.slice none 0 0)).set (.int .i64 4)).kept (grownBy_putObj' _ D (.deferred none)) (fun e => by injection e with e; omega)).cell
      refine ⟨by simp, .inl ⟨_, _, rfl, run_takeDeferred hKD, ?_⟩⟩
      refine ⟨.tuple #[.slice none 0 0, .int .i64 4], by simp [results, Try.results64, go_sem, hR1, hR2], ?_⟩
      exact ⟨none, 0, rfl, own64_nil _ _, (below_setCell (below_setCell hB6.out (by omega) _) (by omega) _).trans (belowK_b (w := w) (Nat.le_refl _) _ D _ _ (by omega) hKD rfl rfl)⟩
    case stop =>
      rintro D cc pre X hD _ ⟨rfl, Y, A9, c9, h2, h3, h4, h5, h6, h7⟩ hK
      rw [h2] at hP
      subst hP
      have c4 := h4.cell
      have c5 := h5.cell
      gi_wp2
      have hR1 := (h4.kept (grownBy_putObj' X D (.deferred none)) (fun e => by injection e with e; omega)).cell
      have hR2 := (h5.kept (grownBy_putObj' X D (.deferred none)) (fun e => by injection e with e; omega)).cell
      refine ⟨by simp, .inl ⟨_, _, rfl, run_takeDeferred hK, ?_⟩⟩
      refine ⟨.tuple #[.slice A9 n c9, .int .i64 0], by simp [results, Try.results64, go_sem, hR1, hR2], ?_⟩
      have hY : (M.nextAns (some Y)).1.length = n := h3.out
      refine ⟨A9, c9, by rw [hY]; rfl, ?_, h7.trans (belowK_b (w := w) (Nat.le_refl _) X D _ _ (by omega) hK rfl rfl)⟩
      rw [hY]
      exact own_mono (ownsRow_putObj h6 _ hK rfl) (by omega)
  · have h01 : (r != 0) = true := by simpa using h0
    rw [F_NextGrowing_no (by rw [hr.out]; exact h0), hr.out] at hP
    subst hP
    gi_wp2
    have hR1 := ((BR.out.set (.slice none 0 0)).other (B' := w.heap.size + 1 + 1 + 1) (by omega) (.int .i64 r)).cell
    have hR2 := ((BC.out.other (B' := w.heap.size + 1 + 1) (by omega) (.slice none 0 0)).set (.int .i64 r)).cell
    refine ⟨.tuple #[.slice none 0 0, .int .i64 r], by simp [results, Try.results64, go_sem, hR1, hR2], ?_⟩
    exact ⟨none, 0, rfl, own64_nil _ _, below_setCell (below_setCell hB5.out (by omega) _) (by omega) _⟩
theorem impl_NextGrowing : GivesOL 64 F_NextGrowing := fun A A2 xs l c c2 w hx _ hcc hcc2 h h2 =>
  (callsIn_wide (n := 5)).1 (nextGrowing_in A A2 xs l c c2 w hx hcc hcc2 (Lib.hid h) (Lib.hid h2))
end Go.Proofs.Ytbdmmeoelagdcaa

/- NextGrowing, the program's and the model's. -/
