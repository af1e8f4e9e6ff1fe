/- l01Mirror: the model's mirrored tree; MirrorOf, the model's. -/
import Derived.Test.YtgojmhcddcenaaaMir
import Derived.Test.YtgojmhcddcenaaaCopy
import Derived.Test.YtgojmhcddcenaaaFnPostorderOf
import Derived.Deep.DeepCutAuto
import Derived.BigRegion
import Derived.Outline
import Derived.OneCell
import Derived.Deep.RegionHeld3
namespace Go.Proofs.Ytgojmhcddcenaaa
open Go.RowKit

def F_MirrorOf (xs : List Int) : List Int × Int := M.cond xs (M.mirL 24 xs)
theorem F_MirrorOf_len (xs : List Int) : (F_MirrorOf xs).1.length ≤ 1048576 := by
  cases ht : M.isTree xs
  · rw [F_MirrorOf, M.cond_no ht]; simp
  · rw [F_MirrorOf, M.cond_yes ht]
    have h1 := M.mirL_len 24 xs ht (M.tree_len ht).2
    have h2 := (M.tree_len ht).2
    show (M.mirL 24 xs).length ≤ _
    omega

/-- what the model's mirrored tree must be for trees of at most f nodes -/
def MirOf (f : Nat) : Prop := ∀ (A : Option Addr) (xs : List Int) (c : Nat) (w : World), Hid (M.isTree xs = true) → xs.length ≤ f → xs.length ≤ c → Hid (Ints w w.heap.size A xs) →
  Calls Try.prog 13 #[.agg #[.slice A xs.length c]] w fun e w' => ∃ A' c' n', e = .returned (.agg #[.slice A' n' c']) ∧ Hid (Own64 w' w.heap.size (.slice A' n' c') (M.mirL f xs)) ∧ Hid (Below w.heap.size w w')

theorem fieldTree (A : Option Addr) (n c : Nat) (w : World) : (Instr.field 26 (.agg #[.slice A n c]) 0).run Try.prog w = .ok (.slice A n c) w := by kernel_rfl

theorem own_one {W : World} {B : Nat} (hB : B ≤ W.heap.size) (d : Nat) : Own64 (W.alloc (.cells #[.int .i64 (d : Int)] 2)) B (.slice (some ⟨W.heap.size, 0, none⟩) 1 1) [(d : Int)] := by
  have := World.ownsRow_lit (e := 2) (size := 1) W #[.int .i64 (d : Int)] 1 hB (by simp [maxLen]) (by simp)
  simpa [Own64] using this

set_option maxRecDepth 100000 in
set_option maxHeartbeats 8000000 in
theorem l01Mirror_step (f : Nat) (ih : Hid (MirOf f)) : MirOf (f + 1) := by
  intro A xs c w ht hf hcl h
  have hx := (M.tree_len ht.out).2
  obtain ⟨d, hd0, hd24⟩ := M.tree_degN ht.out (v := 0) (by have := (M.tree_len ht.out).1; omega)
  have hd := Lib.hid hd0
  obtain ⟨b, off, rfl, hbB, hcells⟩ := h.out (by have := (M.tree_len ht.out).1; omega)
  obtain ⟨W, hW⟩ : ∃ W, (w.alloc (.cells #[.slice (some ⟨b, off, none⟩) xs.length c] 26)).alloc (.cells #[.slice none 0 0] 26) = W := ⟨_, rfl⟩
  have hWs : W.heap.size = w.heap.size + 1 + 1 := by rw [← hW]; simp
  have C1 : Hid (W.cell? ⟨w.heap.size, 0, none⟩ = some (.slice (some ⟨b, off, none⟩) xs.length c)) := by rw [← hW]; exact cell_al (by simp) _
  have R : Hid (W.heap[w.heap.size + 1]? = some (.cells #[.slice none 0 0] 26 (0, 0))) := by
    rw [← hW]
    have := World.alloc_heap_new (w.alloc (.cells #[.slice (some ⟨b, off, none⟩) xs.length c] 26)) (.cells #[.slice none 0 0] 26)
    simpa [Hid] using this
  have BW : Hid (Below w.heap.size w W) := by rw [← hW]; exact bal (bal (b0 w) _) _
  have I1 : Hid (Ints W W.heap.size (some ⟨b, off, none⟩) xs) := by rw [← hW]; exact (h.out.al _).al _
  have c0 : W.cell? ⟨b, off, none⟩ = some (.int .i64 (d : Int)) := by
    have := hcells 0 _ hd0
    rw [Nat.add_zero] at this
    exact (BW.out.cell (p := ⟨b, off, none⟩) hbB).trans this
  have HCh := Lib.hid (fun W' (hW' : Hid (Below W.heap.size W W')) => l01Children (some ⟨b, off, none⟩) xs c 0 d W' hx ht hd (I1.out.be hW'.out))
  have hct := C1.out
  have HW := Lib.hid hW
  clear hcells hd0 h hW
  go_enter Try.func13, Try.ntmps13
  go_upto_region 1 with fail
  rw [HW.out]
  go_cut [3, 4] (fun s3 s4 wx => ∃ (g3 c4 : Nat) (A4 : Option Addr), s3 = .slice (some ⟨g3, 0, none⟩) 1 1 ∧ s4 = .slice A4 d c4 ∧ Hid (Two wx W.heap.size (.slice (some ⟨g3, 0, none⟩) 1 1) (.slice A4 d c4) [(d : Int)] (M.childs xs 0 d)) ∧ Hid (Below W.heap.size W wx))
  case first =>
    have K0 : Hid (Below W.heap.size W W.drew) := (Below.refl _ _).drew
    have hbW : b < W.heap.size := by omega
    have hx0 : (0 : Int) < (xs.length : Int) := by have := (M.tree_len ht.out).1; omega
    have hx1 : 0 < xs.length := (M.tree_len ht.out).1
    have hx2 : ¬ xs = [] := List.ne_nil_of_length_pos hx1
    have HC : Hid (∀ W', Hid (Below W.heap.size W W') → W'.cell? ⟨w.heap.size, 0, none⟩ = some (.slice (some ⟨b, off, none⟩) xs.length c) ∧ W'.cell? ⟨b, off, none⟩ = some (.int .i64 (d : Int))) := fun W' hW' => ⟨cell_be C1.out hW'.out, (hW'.out.cell (p := ⟨b, off, none⟩) hbW).trans c0⟩
    obtain ⟨d1, d2⟩ := HC.out _ K0
    have HK : Hid (∀ W', Hid (Below W.heap.size W W') → W'.cell? ⟨w.heap.size, 0, none⟩ = some (.slice (some ⟨b, off, none⟩) xs.length c) ∧ W'.cell? ⟨b, off, none⟩ = some (.int .i64 (d : Int)) ∧ Hid (Below W.heap.size W W')) := fun W' hW' => ⟨(HC.out W' hW').1, (HC.out W' hW').2, hW'⟩
    have ne1 := World.new_ne _ _ d1
    have ne2 := World.new_ne _ _ d2
    go_region_held3 (fun w' => w'.cell? ⟨w.heap.size, 0, none⟩ = some (.slice (some ⟨b, off, none⟩) xs.length c) ∧ w'.cell? ⟨b, off, none⟩ = some (.int .i64 (d : Int)) ∧ Hid (Below W.heap.size W w')) (first | exact ⟨d1, d2, K0⟩ | exact HK.out _ (by assumption) | exact HK.out _ (bal K0.out _) | exact HK.out _ (bal hB7.out _)) (first | (go_at_call 22; refine (HCh.out _ (by first | exact K0 | exact bal K0.out _)).mono ?_; rintro e w7 ⟨A7, c7, rfl, ho7, hb7⟩; have hB7 : Hid (Below W.heap.size W w7) := (by first | exact btr K0.out hb7 | exact btr (bal K0.out _) hb7)))
    all_goals (go_wp2_with fail)
    all_goals (go_meet)
    all_goals have z7 := hB7.out.size
    · have hz : W.heap.size + 1 ≤ w7.heap.size := by have := hb7.size; rw [← World.size_alloc W (.cells #[.int .i64 (d : Int)] 2)]; exact this
      have h1 : Own64 w7 W.heap.size (.slice (some ⟨W.heap.size, 0, none⟩) 1 1) [(d : Int)] := own_be (w := (W.alloc (.cells #[.int .i64 (d : Int)] 2)).drew) (own_one (Nat.le_refl _) d) hb7
      have hlo : ∀ q, (Value.slice A7 d c7).ownBlock = some q → W.heap.size + 1 ≤ q := fun q e => by
        have := (World.ownsRow.lt ho7 q e).1
        rw [← World.size_alloc W (.cells #[.int .i64 (d : Int)] 2)]
        exact this
      have h2 : Own64 w7 W.heap.size (.slice A7 d c7) (M.childs xs 0 d) := own_mono ho7 (by show W.heap.size ≤ (W.alloc (.cells #[.int .i64 (d : Int)] 2)).heap.size; simp)
      rw [← hWs]
      exact ⟨W.heap.size, c7, A7, rfl, rfl, ⟨h1, h2, fun q e e2 => by
        have e1 : q = W.heap.size := by injection e with e; exact e.symm
        have := hlo q e2
        omega⟩, hB7⟩
    all_goals exact ⟨w7.heap.size, c7, A7, rfl, rfl, ⟨own_one z7 d, own_mono (ho7.alloc _) (by first | exact Nat.le_refl _ | (simp; done) | (simp; omega)), fun q e e2 => by
        have e1 : q = w7.heap.size := by injection e with e; exact e.symm
        have := (World.ownsRow.lt ho7 q e2).2
        omega⟩, bal hB7.out _⟩
  case rest =>
    obtain ⟨g3, c4, A4, rfl, rfl, ht2, hbx⟩ := hcut
    clear c0 hct HCh HW
    go_wp2
    go_loopw [3, 5] (fun q i wr => ∃ (k n : Nat) (A' : Option Addr) (c' : Nat), k ≤ d ∧ i = .int .i64 ((d : Int) - 1 - (k : Int)) ∧ q = .slice A' n c' ∧ n ≤ 24 ∧ Hid (Two wr W.heap.size (.slice A' n c') (.slice A4 d c4) (M.mirK f xs d k) (M.childs xs 0 d)) ∧ Hid (Below W.heap.size W wr)) (fun _ i _ => (intOf i + 1).toNat)
    case atStart => exact ⟨0, 1, _, 1, Nat.zero_le _, by simp, rfl, by omega, by rw [M.mirK_zero]; exact ht2, hbx⟩
    case round =>
      obtain ⟨k, n, A', c', hk, rfl, rfl, hn, htw, hbr⟩ := hrel
      have hzr := hbr.out.size
      clear ht2 hbx
      by_cases hlt : k < d
      · obtain ⟨v, hv⟩ : ∃ v, k + 1 + v = d := ⟨d - 1 - k, by omega⟩
        have hv2 : (d : Int) - 1 - (k : Int) = (v : Int) := by omega
        have hvd : (v : Int) < (d : Int) := by omega
        have hv0 : (0 : Int) ≤ (v : Int) := by omega
        obtain ⟨g4, rfl⟩ := htw.out.symm.shape.2 (by omega)
        have hkl := M.kid_lt ht.out hd.out (i := v) (by omega)
        have hks := M.sub_short ht.out hd.out (i := v) (by omega)
        have hst := M.sub_tree ht.out hkl
        have hpk := Lib.hid (M.mirK_succ f xs d k)
        rw [show d - 1 - k = v by omega] at hpk
        have hle := M.mirK_le ht.out hf hd.out (k := k + 1) (by omega)
        have hat := Lib.hid (M.childs_at xs 0 (show v < d by omega))
        have hTl := M.mirL_len f _ hst (by omega)
        rw [hpk.out, List.length_append, hTl] at hle
        rw [hv2]
        generalize M.kidAt xs 0 v = C at *
        obtain ⟨S, hS⟩ : ∃ S, Hid ((M.sub xs C).length = S) := ⟨_, rfl⟩
        rw [hS.out] at hle hks hTl
        have hnS : n + S ≤ 24 := by have := own64_len htw.out.1; omega
        clear hle
        have hsub : Hid (C + M.span 1 (xs.drop C) = C + S) := by show _ = _; rw [← hS.out, M.sub_length]
        obtain ⟨g, hfz, _, hgl⟩ := own64_cell htw.out.2.1 (M.childs_length xs 0 d) hat.out
        have hct := cell_be C1.out hbr.out
        have hK0 : Hid (Below wr.heap.size wr wr.drew) := (Below.refl _ _).drew
        have HSub : Hid (∀ W', Hid (Below wr.heap.size wr W') → Calls Try.prog 23 #[.agg #[.slice (some ⟨b, off, none⟩) xs.length c], .int .i64 (C : Int)] W' fun e w' => ∃ A' c', e = .returned (.agg #[.slice A' S c']) ∧ Hid (Own64 w' wr.heap.size (.slice A' S c') (M.sub xs C)) ∧ Hid (Below wr.heap.size wr w')) := fun W' hW' => by
          have := l01Subtree (some ⟨b, off, none⟩) xs c C (C + S) W' hx hcl ht hkl hsub ((I1.out.be hbr.out).be hW'.out)
          rw [Nat.add_sub_cancel_left] at this
          exact this.mono fun e w' ⟨A', c', he, ho, hb⟩ => ⟨A', c', he, own_mono ho hW'.out.size, btr hW'.out hb⟩
        have HMir : Hid (∀ (A' : Option Addr) (c' : Nat) W', Hid (Below wr.heap.size wr W') → Hid (Own64 W' wr.heap.size (.slice A' S c') (M.sub xs C)) → Calls Try.prog 13 #[.agg #[.slice A' S c']] W' fun e w' => ∃ A2 c2 n2, e = .returned (.agg #[.slice A2 n2 c2]) ∧ Hid (Own64 w' wr.heap.size (.slice A2 n2 c2) (M.mirL f (M.sub xs C))) ∧ Hid (Below wr.heap.size wr w')) := fun A' c' W' hW' ho => by
          have hcap : S ≤ c' := by
            rcases ho.out.2 with ⟨e, _⟩ | ⟨g, cap, cur, hv, _, _, h4, _⟩
            · injection e with e1 e2 e3; omega
            · injection hv with e1 e2 e3; rw [hS.out] at *; omega
          have := ih.out A' (M.sub xs C) c' W' (Lib.hid hst) (by rw [hS.out]; omega) (by rw [hS.out]; exact hcap) (ints_of_own64 ho.out)
          rw [hS.out] at this
          exact this.mono fun e w' ⟨A2, c2, n2, he, ho2, hb⟩ => ⟨A2, c2, n2, he, own_mono ho2.out hW'.out.size, btr hW'.out hb.out⟩
        have g0 : wr.drew.cell? ⟨g4, v, none⟩ = some (.int .i64 (C : Int)) := g
        have hct0 : wr.drew.cell? ⟨w.heap.size, 0, none⟩ = some (.slice (some ⟨b, off, none⟩) xs.length c) := hct
        have HC2 : Hid (∀ W', Hid (Below wr.heap.size wr W') → W'.cell? ⟨w.heap.size, 0, none⟩ = some (.slice (some ⟨b, off, none⟩) xs.length c) ∧ W'.cell? ⟨g4, v, none⟩ = some (.int .i64 (C : Int))) := fun W' hW' => ⟨cell_be hct hW'.out, (hW'.out.cell (p := ⟨g4, v, none⟩) hgl).trans g⟩
        have hne4 : Hid ((Value.slice A' n c').ownBlock ≠ some g4) := fun e => htw.out.2.2 g4 e rfl
        have hneT : Hid ((Value.slice A' n c').ownBlock ≠ some w.heap.size) := fun e => by have := (World.ownsRow.lt htw.out.1 _ e).1; omega
        have hTl2 := Lib.hid hTl
        generalize M.mirL f (M.sub xs C) = T at *
        have hfld := fieldTree
        clear hfz hsub hat hst hTl
        go_wp2
        go_region_held3 (fun w' => w'.cell? ⟨w.heap.size, 0, none⟩ = some (.slice (some ⟨b, off, none⟩) xs.length c) ∧ w'.cell? ⟨g4, v, none⟩ = some (.int .i64 (C : Int))) (first | exact ⟨hct0, g0⟩ | exact ⟨ct9, cg9⟩ | exact HC2.out _ (by assumption)) (first | (go_at_call 23; refine (HSub.out _ hK0).mono ?_; rintro e w6 ⟨A6, c6, rfl, ho6, hb6⟩) | (go_at_call 13; refine (HMir.out _ _ _ hb6 ho6).mono ?_; rintro e w7 ⟨A7, c7, n7, rfl, ho7, hb7⟩; have ho17 : Hid (Own64 w7 W.heap.size (.slice A' n c') (M.mirK f xs d k)) := own_be htw.out.1 hb7.out; have hm7 : Hid (T.length = n7) := (own64_len ho7.out).symm; have hz7 := Lib.hid (own64_z ho7.out); have hi7 : Hid (Ints w7 w7.heap.size A7 T) := ints_of_own64 ho7.out; have zz7 := hb7.out.size) | (refine stepIntsG rfl (.tmp 20) (.tmp 28) rfl _ W.heap.size A' n c' (M.mirK f xs d k) A7 n7 c7 T rfl rfl ho17 hi7 hm7 hz7 (by omega) (by omega) (by rw [← hm7.out, hTl2.out]; omega) ?_; intro A9 c9 w9 ho9 hg9 hat9; have ct9 : w9.cell? ⟨w.heap.size, 0, none⟩ = some (.slice (some ⟨b, off, none⟩) xs.length c) := (World.cell?_of_block (hg9.out.block w.heap.size (by omega) (fun e => hneT.out e.symm))).trans (HC2.out _ hb7).1; have cg9 : w9.cell? ⟨g4, v, none⟩ = some (.int .i64 (C : Int)) := (World.cell?_of_block (hg9.out.block g4 (by omega) (fun e => hne4.out e.symm))).trans (HC2.out _ hb7).2))
        have hch9 : Own64 w9 W.heap.size (.slice (some ⟨g4, 0, none⟩) d c4) (M.childs xs 0 d) := (own_be htw.out.2.1 hb7.out).kept hg9.out (.inr (fun e => hne4.out e.symm))
        have htw9 : Hid (Two w9 W.heap.size (.slice A9 (n + n7) c9) (.slice (some ⟨g4, 0, none⟩) d c4) (M.mirK f xs d (k + 1)) (M.childs xs 0 d)) := by
          refine ⟨by rw [hpk.out]; exact ho9.out, hch9, fun q e e2 => ?_⟩
          have e3 : g4 = q := by injection e2
          rcases hat9.out with e4 | e4
          · exact hne4.out (by rw [← e4, e, e3])
          · have e5 := e.symm.trans e4
            injection e5 with e5
            omega
        have hb9 : Hid (Below W.heap.size W w9) := (btr hbr.out (hb7.out.mono (Nat.le_refl _))).grown hg9.out (by omega) (fun j e => (World.ownsRow.lt htw.out.1 j e).1)
        have hn9 : n + n7 ≤ 24 := by rw [← hm7.out, hTl2.out]; omega
        have hv3 : (v : Int) - 1 = (d : Int) - 1 - ((k + 1 : Nat) : Int) := by omega
        clear ct9 cg9 ho17 hm7 hz7 hi7 hat9 ho9 hg9 HC2 HSub HMir hct0 g0 hct
        go_wp2
        go_roundw
        case rel => exact ⟨k + 1, n + n7, A9, c9, by omega, by go_num, rfl, hn9, htw9, hb9⟩
        case measure => simp [intOf]; omega
      · obtain rfl : k = d := by omega
        have hv2 : (k : Int) - 1 - (k : Int) = -1 := by omega
        have hpo := Lib.hid (M.mirL_at (f := f) hd.out)
        have hres : Hid (wr.heap[w.heap.size + 1]? = some (.cells #[.slice none 0 0] 26 (0, 0))) := (hbr.out.block _ (by omega)).trans R.out
        have hr2 := cell_of_one hres.out
        have hf2 := free_of_one hres.out
        have ho : Hid (Own64 wr W.heap.size (.slice A' n c') (M.mirK f xs k k)) := htw.out.1
        have hB := Lib.hid (btr BW.out hbr.out)
        clear htw
        rw [hv2]
        go_wp2
        have e1 := (Boxed.set (.slice A' n c') hres.out).cell
        refine bodyPost_ret (v := .agg #[.slice A' n c']) (by simp [results, Try.results13, go_sem, e1]) rfl ?_
        refine ⟨A', c', n, rfl, ?_, below_setCell hB.out (by omega) _⟩
        show Own64 _ _ _ _
        rw [hpo.out]
        exact own_mono (own_far ho.out (by omega) _) (by omega)

theorem l01Mirror : ∀ f, MirOf f := by
  intro f
  induction f with
  | zero => intro A xs c w ht hf; have := (M.tree_len ht.out).1; omega
  | succ f ih => exact l01Mirror_step f (Lib.hid ih)

set_option maxRecDepth 100000 in
set_option maxHeartbeats 2000000 in
theorem spec_MirrorOf : GivesTree 5 F_MirrorOf := by
  intro A xs c w hx hcc h
  obtain ⟨W, hW⟩ : ∃ W, (w.alloc (.cells #[.slice A xs.length c] 26)).alloc (.cells #[.slice none 0 0] 26) = W := ⟨_, rfl⟩
  have hWs : W.heap.size = w.heap.size + 1 + 1 := by rw [← hW]; simp
  have C1 : Hid (W.cell? ⟨w.heap.size, 0, none⟩ = some (.slice A xs.length c)) := by rw [← hW]; exact cell_al (by simp) _
  have R : Hid (W.heap[w.heap.size + 1]? = some (.cells #[.slice none 0 0] 26 (0, 0))) := by
    rw [← hW]
    have := World.alloc_heap_new (w.alloc (.cells #[.slice A xs.length c] 26)) (.cells #[.slice none 0 0] 26)
    simpa [Hid] using this
  have BW : Hid (Below w.heap.size w W) := by rw [← hW]; exact bal (bal (b0 w) _) _
  have I1 : Hid (Ints W W.heap.size A xs) := by rw [← hW]; exact (h.al _).al _
  have hc := Lib.hid (specIs A xs c W (by omega) I1.out)
  have hct := C1.out
  cases ht : M.isTree xs
  · rw [ht] at hc
    have hF := Lib.hid (show F_MirrorOf xs = ([], 1) from M.cond_no ht)
    clear ht h
    go_enter Try.func5, Try.ntmps5
    go_wp2_with fail
    refine hc.out.mono ?_
    rintro e w1 ⟨rfl, hb⟩
    have hres1 := (hb.block (w.heap.size + 1) (by omega)).trans R.out
    have B1 := Lib.hid (btr BW.out hb)
    have c1 := cell_of_one hres1
    have f1 := free_of_one hres1
    clear hb hc hct
    go_wp2
    have e1 := (Boxed.set (.slice none 0 0) hres1).cell
    refine bodyPost_ret (v := .tuple #[.agg #[.slice none 0 0], .int .i64 1]) (by simp [results, Try.results5, go_sem, e1]) rfl ?_
    rw [hF.out]
    exact ⟨none, 0, rfl, own64_nil _ _, below_setCell B1.out (by omega) _⟩
  · rw [ht] at hc
    have Ht := Lib.hid ht
    have hl := M.tree_len ht
    have hml := Lib.hid (M.mirL_len 24 xs ht hl.2)
    have hF := Lib.hid (show F_MirrorOf xs = (M.mirL 24 xs, 0) from M.cond_yes ht)
    clear ht h
    go_enter Try.func5, Try.ntmps5
    go_wp2_with fail
    refine hc.out.mono ?_
    rintro e w1 ⟨rfl, hb⟩
    have B1 := Lib.hid hb
    have ct1 := cell_be C1.out hb
    have HM := Lib.hid (l01Mirror 24 A xs c w1 Ht hl.2 hcc.1 (I1.out.be hb))
    clear hb hc hct
    go_wp2_with fail
    refine HM.out.mono ?_
    rintro e w2 ⟨A2, c2, n2, rfl, ho2, hb2⟩
    have hres2 := ((btr B1.out hb2.out).block (w.heap.size + 1) (by omega)).trans R.out
    have B2 := Lib.hid (btr BW.out (btr B1.out hb2.out))
    have c1 := cell_of_one hres2
    have f1 := free_of_one hres2
    have hn2 := Lib.hid (own64_len ho2.out)
    have z1 := B1.out.size
    clear hb2 HM ct1
    go_wp2
    have e1 := (Boxed.set (.slice A2 n2 c2) hres2).cell
    refine bodyPost_ret (v := .tuple #[.agg #[.slice A2 n2 c2], .int .i64 0]) (by simp [results, Try.results5, go_sem, e1]) rfl ?_
    rw [hF.out]
    have hn3 := hn2.out
    subst hn3
    exact ⟨A2, c2, rfl, own_mono (own_far ho2.out (by omega) _) (by omega), below_setCell B2.out (by omega) _⟩
end Go.Proofs.Ytgojmhcddcenaaa
