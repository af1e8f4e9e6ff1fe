/- MirrorOf, the program's: a tree mirrored, with a map of the texts that are known. -/
import Derived.Test.YtgojmhcddcenaaaMirMiss
namespace Go.Proofs.Ytgojmhcddcenaaa
open Go.RowKit Go.Shelf Go.Maps

theorem mirrored : ∀ f, MirAt f := by
  intro f
  induction f with
  | zero => intro A xs c w b B No N ht hf; have := (M.tree_len ht.out).1; omega
  | succ f ih =>
    intro A xs c w b B No N ht hf hcl hcu hI hKn hN hbB hBw hNo
    obtain ⟨D, o1, o2, o3⟩ := hKn.out
    refine (callsIn_wide (n := 5)).1 ?_
    cases hh : has D (kt (M.textL 24 xs))
    · obtain ⟨d, hd, _⟩ := M.tree_degN ht.out (v := 0) (by have := (M.tree_len ht.out).1; omega)
      exact mirrored_miss f (Lib.hid ih) A xs c d w b B No N D ht hf hcl hcu (Lib.hid hd) hI hKn hN hbB hBw hNo (Lib.hid o1) hh
    · exact mirrored_hit A xs c w b B No N D ht hcl hcu hI hKn (Lib.hid o1) hh (Lib.hid (o3 xs ht.out hh))

set_option maxRecDepth 100000 in
set_option maxHeartbeats 4000000 in
theorem impl_MirrorOf : GivesTree 7 F_MirrorOf := by
  intro A xs c w hx hcc h
  obtain ⟨W, hW⟩ : ∃ W, (w.alloc (.cells #[.slice A xs.length c] 26)).alloc (.cells #[.slice none 0 0] 26) = W := ⟨_, rfl⟩
  have hWs : W.heap.size = w.heap.size + 1 + 1 := by rw [← hW]; simp
  have C1 : Hid (W.cell? ⟨w.heap.size, 0, none⟩ = some (.slice A xs.length c)) := by rw [← hW]; exact cell_al (by simp) _
  have R : Hid (Boxed W (w.heap.size + 1) 26 (.slice none 0 0)) := by
    rw [← hW]
    have := Boxed.new (w.alloc (.cells #[.slice A xs.length c] 26)) 26 (.slice none 0 0)
    simpa [Hid] using this
  have BW : Hid (Below w.heap.size w W) := by rw [← hW]; exact bal (bal (b0 w) _) _
  have I1 : Hid (Ints W W.heap.size A xs) := by rw [← hW]; exact (h.al _).al _
  have hct := C1.out
  cases ht : M.isTree xs
  · have hc := Lib.hid (codeOf0 A xs c W (by omega) I1.out 1 (by rw [ht]; rfl))
    have hF := Lib.hid (show F_MirrorOf xs = ([], 1) from M.cond_no ht)
    clear ht h
    go_enter Try.func7, Try.ntmps7
    go_wp2_with fail
    refine hc.out.mono ?_
    rintro e w1 ⟨rfl, hb⟩
    have hres1 : Boxed w1 (w.heap.size + 1) 26 (.slice none 0 0) := (hb.block (w.heap.size + 1) (by omega)).trans R.out
    have B1 := Lib.hid (btr BW.out hb)
    have c1 := hres1.cell
    have f1 := hres1.frozen
    clear hb hc hct
    go_wp2
    have e1 := (Boxed.set (.slice none 0 0) hres1).cell
    refine bodyPost_ret (v := .tuple #[.agg #[.slice none 0 0], .int .i64 1]) (by simp [results, Try.results7, go_sem, e1]) rfl ?_
    rw [hF.out]
    exact ⟨none, 0, rfl, own64_nil _ _, below_setCell B1.out (by omega) _⟩
  · have hc := Lib.hid (codeOf0 A xs c W (by omega) I1.out 0 (by rw [ht]; rfl))
    have Ht := Lib.hid ht
    have hl := M.tree_len ht
    have hml := Lib.hid (M.mirL_len 24 xs ht hl.2)
    have hF := Lib.hid (show F_MirrorOf xs = (M.mirL 24 xs, 0) from M.cond_yes ht)
    clear ht h
    go_enter Try.func7, Try.ntmps7
    go_wp2_with fail
    refine hc.out.mono ?_
    rintro e w1 ⟨rfl, hb⟩
    have B1 := Lib.hid hb
    have ct1 := cell_be C1.out hb
    have HM := Lib.hid (mirrored 24 A xs c (w1.alloc (.map #[] 0)) w1.heap.size (w1.heap.size + 1) (fun _ => False) 0 Ht hl.2 hcc.1 hcc.2 (Lib.hid ((I1.out.be hb).al _)) (Lib.hid (Known.new w1 _ _)) (by omega) (by omega) (by simp) (Lib.hid (fun g e => e.elim)))
    have hb0 : Hid (Below w1.heap.size w1 (w1.alloc (.map #[] 0))) := bal (b0 w1) _
    have R1 : Hid (Boxed w1 (w.heap.size + 1) 26 (.slice none 0 0)) := (hb.block (w.heap.size + 1) (by omega)).trans R.out
    have hzw : w.heap.size + 1 + 1 ≤ w1.heap.size := by have := hb.size; omega
    have hmm := @run_makeMap Try.prog
    clear hb hc hct
    go_wp2_with fail
    refine HM.out.mono ?_
    rintro e w2 ⟨g, n2, c2, rfl, ho2, hno, hk2, hg2⟩
    have hres2 : Boxed w2 (w.heap.size + 1) 26 (.slice none 0 0) := (R1.out.alloc _).kept hg2.out (fun e => by injection e with e; omega)
    have B2 : Hid (Below w.heap.size w w2) := (btr (btr BW.out B1.out) hb0.out).grown hg2.out (by simp; omega) (fun k e => by injection e with e; omega)
    have c1 := hres2.cell
    have f1 := hres2.frozen
    have hn2 := Lib.hid (own64_len ho2.out)
    clear hk2 HM ct1 hmm
    go_wp2
    have e1 := (Boxed.set (.slice (some ⟨g, 0, none⟩) n2 c2) hres2).cell
    refine bodyPost_ret (v := .tuple #[.agg #[.slice (some ⟨g, 0, none⟩) n2 c2], .int .i64 0]) (by simp [results, Try.results7, go_sem, e1]) rfl ?_
    rw [hF.out]
    have hn3 := hn2.out
    subst hn3
    exact ⟨some ⟨g, 0, none⟩, c2, rfl, own_mono (own_far ho2.out (by omega) _) (by omega), below_setCell B2.out (by omega) _⟩
end Go.Proofs.Ytgojmhcddcenaaa
