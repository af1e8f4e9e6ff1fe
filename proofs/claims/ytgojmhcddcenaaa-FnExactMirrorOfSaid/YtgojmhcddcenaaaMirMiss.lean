/- mirrored: where the text of the tree is not known. -/
import Derived.Test.YtgojmhcddcenaaaMirRound
namespace Go.Proofs.Ytgojmhcddcenaaa
open Go.RowKit Go.Shelf Go.Maps
attribute [local go_sem] Oper.semAt_some
/-- append, closed: the walk does not lay it open -/
@[irreducible] def appOp (ts : Array TypeId) (t : TypeId) (args : Array Value) : Sem Value := Builtin.append_ ts t args
theorem appOp_eq (ts : Array TypeId) (t : TypeId) (args : Array Value) : Builtin.append_ ts t args = appOp ts t args := by unfold appOp; rfl
attribute [local go_sem ↓] appOp_eq

set_option maxRecDepth 100000 in
set_option maxHeartbeats 4000000 in
theorem mirrored_miss (f : Nat) (ih : Hid (MirAt f)) (A : Option Addr) (xs : List Int) (c d : Nat) (w : World) (b B : Nat) (No : Nat → Prop) (N : Nat) (D : DataW Unit) (ht : Hid (M.isTree xs = true)) (hf : xs.length ≤ f + 1) (hcl : xs.length ≤ c) (hcu : c ≤ 1000000000000) (hd : Hid (xs[0]? = some (d : Int))) (hI : Hid (Ints w w.heap.size A xs))
    (hKn : Hid (Known w b B No N)) (hN : N + xs.length ≤ 1000) (hbB : b < B) (hBw : B ≤ w.heap.size) (hNo : Hid (∀ g, No g → g < w.heap.size)) (hown : Hid (w.ownsMap Try.prog 9 hdrE b (Maps.size D) D))
    (hh : has D (kt (M.textL 24 xs)) = false) :
    CallsIn Fence.wide 5 Try.prog 16 #[.slice A xs.length c, .map (some b)] w fun e w' => Mirrored w b B No N xs e w' := by
  have hx := (M.tree_len ht.out).2
  have hx1 := (M.tree_len ht.out).1
  have hx0 : (0 : Int) < (xs.length : Int) := by omega
  have hd24 : d ≤ 24 := by have := (M.tree_deg ht.out hd.out).2; omega
  have HT : Hid (∀ W', Ints W' W'.heap.size A xs → Calls Try.prog 25 #[.slice A xs.length c] W' fun e w' => e = .returned (.string (M.textL 24 xs)) ∧ Hid (Below W'.heap.size W' w')) := fun W' hW' => textOf A xs c W' 24 ht hx hcl hcu hW'
  have HC : Hid (∀ W', Ints W' W'.heap.size A xs → Calls Try.prog 27 #[.slice A xs.length c, .int .i64 0] W' fun e w' => ∃ A' c', e = .returned (.slice A' d c') ∧ Own64 w' W'.heap.size (.slice A' d c') (M.childs xs 0 d) ∧ Below W'.heap.size W' w') := fun W' hW' => childrenIn A xs c 0 d W' hx hcl hcu ht hd hW'
  obtain ⟨a0, off, rfl, ha0, hcells⟩ := hI.out hx1
  have hc0 : w.cell? ⟨a0, off, none⟩ = some (.int .i64 (d : Int)) := hcells 0 _ hd.out
  have Hc0 := Lib.hid hc0
  have Hkey : Hid (keyOf Try.prog 9 (.string (M.textL 24 xs)) = some (kt (M.textL 24 xs))) := keyOf_kt (by have := M.textL_size 24 xs ht.out hx; unfold maxLen; omega)
  have HH := Lib.hid hh
  obtain ⟨T, hT⟩ : ∃ T, Hid (M.textL 24 xs = T) := ⟨_, rfl⟩
  rw [hT.out] at HT Hkey HH
  clear hh hcells hc0
  refine callsIn_of_wp_marks Try.func16 rfl trivial ?_ rfl
  simp only [Try.ntmps16, List.size_toArray, List.length_cons, List.length_nil, Nat.reduceAdd, Nat.reduceSub, Array.replicate_succ, Array.replicate_zero, List.push_toArray, List.append_toArray, List.nil_append, List.cons_append]
  have bG0 := Boxed.new w 22 (.slice (some ⟨a0, off, none⟩) xs.length c)
  have bM0 := Boxed.new (w.alloc (.cells #[.slice (some ⟨a0, off, none⟩) xs.length c] 22)) 39 (.map (some b))
  simp only [World.size_alloc] at bM0
  have BG := Lib.hid (bG0.alloc (.cells #[.map (some b)] 39))
  have BM := Lib.hid bM0
  have HI0 := Lib.hid ((hI.out.al (.cells #[.slice (some ⟨a0, off, none⟩) xs.length c] 22)).al (.cells #[.map (some b)] 39))
  have HW0 : Hid (Below w.heap.size w ((w.alloc (.cells #[.slice (some ⟨a0, off, none⟩) xs.length c] 22)).alloc (.cells #[.map (some b)] 39))) := bal (bal (b0 w) _) _
  clear bG0 bM0
  gi_wp2_with (first | (refine ⟨trivial, ?_⟩; gi_at_call 25; refine (callsIn_wide.2 (HT.out _ HI0.out)).mono ?_; rintro e w1 ⟨rfl, hb1⟩; have cG := (boxKeep BG.out hb1.out).cell; have cM := (boxKeep BM.out hb1.out).cell; have HW1 : Hid (Below w.heap.size w w1) := btr HW0.out hb1.out; have cA := (HW1.out.cell (p := ⟨a0, off, none⟩) ha0).trans Hc0.out; have cG2 : ((w1.alloc (.cells #[.int .i64 (d : Int)] 2)).alloc (.cells #[.slice (some ⟨w1.heap.size, 0, none⟩) 1 1] 22)).cell? ⟨w.heap.size, 0, none⟩ = some (.slice (some ⟨a0, off, none⟩) xs.length c) := (((boxKeep BG.out hb1.out).alloc _).alloc _).cell; have HI2 := Lib.hid (((HI0.out.be hb1.out).al (.cells #[.int .i64 (d : Int)] 2)).al (.cells #[.slice (some ⟨w1.heap.size, 0, none⟩) 1 1] 22))) | (gi_at_lookup; refine wpListIn_lookup_own_ok _ rfl _ _ 39 rfl 9 22 keyedT Try.underlying39 hdrE (zeroRow _) .nil [] rfl b (Maps.size D) D rfl (hown.out.kept (grown_be HW1.out none) (by simp)) _ _ rfl Hkey.out ?_; intro v ps hv; rw [HH.out]; clear hv) | (refine ⟨trivial, ?_⟩; gi_at_call 27; refine (callsIn_wide.2 (HC.out _ HI2.out)).mono ?_; rintro e w3 ⟨A4, c4, rfl, ho4, hb4⟩; have Ho4 := Lib.hid ho4; have Hb4 := Lib.hid hb4; clear ho4 hb4) | (refine ⟨trivial, ?_⟩; gi_at_call 26; refine (backIn 4 A4 d c4 _).mono ?_; rintro e w' ⟨rfl, rfl⟩))
  have hs1 : w.heap.size + 1 + 1 ≤ w1.heap.size := by have := hb1.out.size; simpa using this
  have hs3 : w1.heap.size + 1 + 1 ≤ w3.heap.size := by have := Hb4.out.size; simpa using this
  obtain ⟨W0, hW0⟩ : ∃ W0, w3.alloc (.cells #[.slice A4 d c4] 22) = W0 := ⟨_, rfl⟩
  have hsz : W0.heap.size = w3.heap.size + 1 := by rw [← hW0]; simp
  have hA4 : ∀ ad, A4 = some ad → w1.heap.size + 1 + 1 ≤ ad.block ∧ ad.block < w3.heap.size := fun ad e => by
    have := World.ownsRow.lt Ho4.out ad.block (by rw [e]; rfl)
    simpa using this
  have HG0 : Hid (w1.grownBy W0 (some b)) := by
    rw [← hW0]
    have h2 := (World.grownBy_alloc w1 (.cells #[.int .i64 (d : Int)] 2) (some b)).trans (World.grownBy_alloc _ (.cells #[.slice (some ⟨w1.heap.size, 0, none⟩) 1 1] 22) (some b))
    exact (h2.trans (grown_be Hb4.out _)).trans (World.grownBy_alloc _ _ _)
  have BR0 : Boxed W0 (w1.heap.size + 1) 22 (.slice (some ⟨w1.heap.size, 0, none⟩) 1 1) := by
    rw [← hW0]
    have := Boxed.new (w1.alloc (.cells #[.int .i64 (d : Int)] 2)) 22 (.slice (some ⟨w1.heap.size, 0, none⟩) 1 1)
    simp only [World.size_alloc] at this
    exact (boxKeep this Hb4.out).alloc _
  have RR0 : Own64 W0 w1.heap.size (.slice (some ⟨w1.heap.size, 0, none⟩) 1 1) (M.mirK f xs d 0) := by
    rw [← hW0]
    exact (own_be ((own_one (Nat.le_refl _) d).alloc _) Hb4.out).alloc _
  have BD0 : Boxed W0 w3.heap.size 22 (.slice A4 d c4) := by rw [← hW0]; exact Boxed.new _ _ _
  have IC0 : Ints W0 w3.heap.size A4 (M.childs xs 0 d) := by rw [← hW0]; exact (ints_of_own64 Ho4.out).alloc (Nat.le_refl _) _
  have KN0 : Known W0 b B (fun z => No z ∨ z = w1.heap.size) (N + (1 - 1)) := by
    rw [← hW0]
    have k1 := (hKn.out.be HW1.out).more (Nat.le_refl w1.heap.size)
    exact (((k1.alloc _).alloc _).be Hb4.out).alloc _
  rw [hW0]
  have hchl := M.childs_length xs 0 d
  have hseq := back_rowsK (fun k => #[.int .i64 ((d - 1 - k : Nat) : Int), .int .i64 ((M.childs xs 0 d)[d - 1 - k]?.getD 0)]) 4 (by omega) w3.heap.size w3.heap.size A4 (M.childs xs 0 d) c4 (by omega) (fun k v x hk hv => by rw [hchl] at hk; rw [show d - 1 - k = v by omega, hv]; rfl) W0 (KeepA w3.heap.size A4) KeepA.r KeepA.t
    (fun W W' hb hk => ⟨by rw [hchl]; exact hk.1.trans ((hb.block _ (by omega)).trans BD0), hk.ints (IC0.below hb (by omega))⟩)
  rw [hchl] at hseq
  have Hseq := Lib.hid hseq
  have hh0 : Inv f w1 W0.heap.size (w1.heap.size + 1) w1.heap.size b B No N xs d 0 W0 := fun _ => ⟨_, _, _, BR0, RR0, KN0, HG0.out, .inl rfl, Nat.le_refl _⟩
  have h15 : 1 ≤ 5 := by omega
  refine wpIn_rangeRows rfl h15 (gf := 32) (lb := #[.pointer (some ⟨w3.heap.size, 0, none⟩)]) rfl trivial (enters_of Try.func32 (by kernel_rfl) rfl)
    hseq (Below.refl _ _) KeepA.t
    (fun W r r' h => by rw [hsz] at h ⊢; exact KeepA.g (grownBy_putObj' W _ _) (by have := (Array.getElem?_eq_some_iff.1 h).1; omega) (fun e => by injection e with e; omega) (fun ad e => ⟨by have := (hA4 ad e).2; have := (Array.getElem?_eq_some_iff.1 h).1; omega, fun e2 => by injection e2 with e2; have := (hA4 ad e).2; omega⟩)) (fun _ => rfl)
    (fun pre W => Inv f w1 W0.heap.size (w1.heap.size + 1) w1.heap.size b B No N xs d pre.length W)
    (fun _ _ _ => False)
    (fun pre X Y r' hi hg hr => hi.own hg hr (by omega) (by omega) (by omega))
    (fun _ _ _ _ _ h _ _ => h)
    (fun _ _ _ _ h _ _ => h)
    hh0
    (fun x => { tmps := #[.slice (some ⟨a0, off, none⟩) xs.length c, .map (some b), .pointer (some ⟨w.heap.size, 0, none⟩), .pointer (some ⟨w.heap.size + 1, 0, none⟩), .slice none 0 0, .string T, v, .bool false, .pointer (some ⟨w1.heap.size + 1, 0, none⟩), undef, .int .i64 ((M.childs xs 0 d)[d - 1 - x]?.getD 0), .slice (some ⟨a0, off, none⟩) xs.length c, .string T, .tuple #[v, .bool false], .map (some b), .string T, .tuple #[v, .bool false], v, .bool false, .bool false, undef, .slice (some ⟨a0, off, none⟩) xs.length c, .pointer (some ⟨a0, off, none⟩), .int .i64 (d : Int), .slice (some ⟨w1.heap.size, 0, none⟩) 1 1, .slice (some ⟨a0, off, none⟩) xs.length c, .slice A4 d c4, .func (.func 32) #[] #[.pointer (some ⟨w3.heap.size, 0, none⟩)], .int .i64 ((d - 1 - x : Nat) : Int), .int .i64 ((M.childs xs 0 d)[d - 1 - x]?.getD 0), undef, undef, undef, undef, undef, undef, undef, undef, undef, undef, undef], defers := [] }) ?assign ?body ?done ?stop
  case assign =>
    intro l x W K hK
    gi_wp2
    exact hK
  case body =>
    rintro l pre x W hinv ⟨hpre, hlt⟩
    subst hpre
    rw [List.length_range] at hinv
    obtain ⟨g, n, c', r1, r2, r3, r4, r5, r6⟩ := hinv (by omega)
    obtain ⟨u, hu⟩ : ∃ u, u + 1 + x = d := ⟨d - 1 - x, by omega⟩
    have hud : u < d := by omega
    rw [show d - 1 - x = u by omega, M.childs_at xs 0 hud, Option.getD_some]
    have hCl := M.kid_lt ht.out hd.out (i := u) (by omega)
    have hCs := M.sub_short ht.out hd.out (i := u) hud
    have hst := Lib.hid (M.sub_tree ht.out hCl)
    have hpk := Lib.hid (M.mirK_succ f xs d x)
    rw [show d - 1 - x = u by omega] at hpk
    have hle := M.mirK_len (fun ys => M.mirL_len f ys) ht.out hf hd.out (x + 1) (by omega)
    have hle2 := M.mirK_le ht.out hf hd.out (k := x + 1) (by omega)
    generalize M.kidAt xs 0 u = C at *
    have hTl := M.mirL_len f _ hst.out (by omega)
    have hmf := M.mirL_fuel f 24 _ hst.out (by omega) (by omega)
    rw [hpk.out, List.length_append, hTl, ← own64_len r2] at hle hle2
    have hn1 : 1 ≤ n := by rw [own64_len r2]; simp [M.mirK]
    obtain ⟨S, hS⟩ : ∃ S, Hid ((M.sub xs C).length = S) := ⟨_, rfl⟩
    rw [hS.out] at hle hle2 hCs hTl
    obtain ⟨T2, hT2⟩ : ∃ T2, Hid (M.mirL f (M.sub xs C) = T2) := ⟨_, rfl⟩
    rw [hmf] at hT2
    rw [hmf, hT2.out] at hpk hTl
    have hWs : w1.heap.size ≤ W.heap.size := r4.size
    have hbm : Hid (∃ o : Obj, w1.heap[b]? = some o ∧ o.isCells = false) := by
      obtain ⟨es, clock, hb, _⟩ := hown.out.kept (grown_be HW1.out none) (by simp)
      exact ⟨_, hb, rfl⟩
    have hIW : Hid (Ints W W.heap.size (some ⟨a0, off, none⟩) xs) := fun hz => by
      obtain ⟨b', off', e, hb, hc⟩ := (hI.out.be HW1.out) hz
      exact ⟨b', off', e, by omega, fun j y hy => cell_kept (hc j y hy) r4 (fun r e => by injection e with e; rw [← e]; exact hbm.out)⟩
    have BG1 : Boxed W w.heap.size 22 (.slice (some ⟨a0, off, none⟩) xs.length c) := (boxKeep BG.out hb1.out).kept r4 (fun e => by injection e with e; omega)
    have BM1 : Boxed W (w.heap.size + 1) 39 (.map (some b)) := (boxKeep BM.out hb1.out).kept r4 (fun e => by injection e with e; omega)
    have HP : Hid (∀ W', Hid (Below W.heap.size W W') → Calls Try.prog 28 #[.slice (some ⟨a0, off, none⟩) xs.length c, .int .i64 (C : Int)] W' fun e w' => e = .returned (.slice (some ⟨a0, off + C, none⟩) S S) ∧ W' = w') := fun W' hW' =>
      (partAt _ xs c C (C + S) W' (by show _ = _; rw [← hS.out, M.sub_length]) hx hcl hcu (Lib.hid (M.tree_ok ht.out hCl)) (hIW.out.be hW'.out)).mono fun e w' ⟨⟨b', off', hA, he⟩, hw⟩ => ⟨by
        injection hA with hA
        injection hA with e1 e2
        rw [he, Nat.add_sub_cancel_left, e1, e2], hw⟩
    have HX : Hid (∀ W', Hid (Below W.heap.size W W') → Calls Try.prog 16 #[.slice (some ⟨a0, off + C, none⟩) S S, .map (some b)] W' fun e w' => ∃ g7 n7 c7, e = .returned (.slice (some ⟨g7, 0, none⟩) n7 c7) ∧ Hid (Own64 w' B (.slice (some ⟨g7, 0, none⟩) n7 c7) T2) ∧ Hid (¬ (No g7 ∨ g7 = g)) ∧ Hid (Known w' b B (fun z => No z ∨ z = g) (N + (n - 1) + S)) ∧ Hid (W.grownBy w' (some b))) := fun W' hW' => by
      have hsW := hW'.out.size
      have hgl := World.ownsRow.lt r2 g rfl
      have := ih.out (some ⟨a0, off + C, none⟩) (M.sub xs C) S W' b B (fun z => No z ∨ z = g) (N + (n - 1)) hst (by have := hS.out; omega) (by have := hS.out; omega) (by omega) (ints_sub (hIW.out.be hW'.out) C _) (r3.be hW'.out) (by have := hS.out; omega) hbB (by omega) (fun z e => by
        rcases e with e | e
        · have := hNo.out z e; omega
        · omega)
      rw [hS.out] at this
      refine this.mono ?_
      rintro e w' ⟨g7, n7, c7, q1, q2, q3, q4, q5⟩
      rw [hT2.out] at q2
      rw [hS.out] at q4
      exact ⟨g7, n7, c7, q1, q2, q3, q4, (grown_be hW'.out _).trans q5.out⟩
    have HB : Hid (∀ W', Hid (W.grownBy W' (some b)) → Boxed W' (w1.heap.size + 1) 22 (.slice (some ⟨g, 0, none⟩) n c') ∧ Own64 W' w1.heap.size (.slice (some ⟨g, 0, none⟩) n c') (M.mirK f xs d x)) := fun W' hW' => ⟨r1.kept hW'.out (fun e => by injection e with e; omega), r2.kept hW'.out (.inr (fun e => by have := (World.ownsRow.lt r2 _ e).1; omega))⟩
    have c1' := r1.cell
    have c2' := BG1.cell
    have c3' := BM1.cell
    have hmix : Try.prog.follows .mixedOrders = true := by kernel_rfl
    have R3 := Lib.hid r3
    have R4 := Lib.hid r4
    have hgl := World.ownsRow.lt r2 g rfl
    clear r1 r2 r3 r4 BG1 BM1 hmf
    obtain ⟨i0, hi0, hz0, hz1, hz2⟩ := info_parts info64
    gi_wp2
    gi_region_with_o (first | (refine ⟨trivial, ?_⟩; gi_at_call 28; refine (CallsIn.inRound l (callsIn_wide.2 (HP.out _ ((Below.refl _ _).drew)))).mono ?_; rintro e W1 ⟨rfl, rfl⟩) | (refine ⟨trivial, ?_⟩; gi_at_call 16; refine (CallsIn.inRound l (callsIn_wide.2 (HX.out _ ((Below.refl _ _).drew)))).mono ?_; rintro e w7 ⟨g7, n7, c7, rfl, ho7, hno7, hk7, hg7⟩; have k1 := (HB.out _ hg7).1.cell; have hn7 := Lib.hid (own64_len ho7.out); obtain ⟨g8, c8, w8, hrun, ho8, hg8, hat8⟩ := app_run w7 w1.heap.size B g n c' g7 n7 c7 _ _ (HB.out _ hg7).2 ho7.out (by rw [hn7.out]; omega) hn1 (Nat.le_trans hWs hg7.out.size); have B8 : Hid (Boxed w8 (w1.heap.size + 1) 22 (.slice (some ⟨g, 0, none⟩) n c')) := (HB.out _ hg7).1.kept hg8.out (fun e => by injection e with e; omega); have k8 := B8.out.cell; have f8 := B8.out.frozen; have hrA := hrun.out; rw [appOp_eq] at hrA))
    all_goals
      have he := mir_round (c7 := c7) (g7 := g7) hsz (by omega) (by have := BG.out.lt; omega) rfl hA4 r6 R4.out r5 hgl hn1 hg7.out hg8.out (HB.out _ hg7).1 (HB.out _ hg7).2 B8.out ho8.out hat8.out hk7.out (hn7.out.trans hTl) hpk.out ⟨rfl, rfl⟩
      refine ⟨he.1, he.2.1, ?_⟩
      show Inv f w1 W0.heap.size (w1.heap.size + 1) w1.heap.size b B No N xs d (List.range x ++ [x]).length _
      rw [List.length_append, List.length_range]
      exact he.2.2
  case done =>
    rintro DD ys W hD rfl hinv hK
    rw [hsz] at hD
    rw [List.length_range] at hinv
    obtain ⟨g, n, c', r1, r2, r3, r4, r5, r6⟩ := hinv (Nat.le_refl _)
    have hn := own64_len r2
    have hmir : M.mirK f xs d d = M.mirL 24 xs := by rw [← M.mirL_at hd.out]; exact M.mirL_fuel _ _ _ ht.out hf hx
    rw [hmir] at r2 hn
    rw [M.mirL_len 24 xs ht.out hx] at hn
    subst hn
    have hgl := World.ownsRow.lt r2 g rfl
    obtain ⟨D', o1, o2, o3⟩ := r3
    have BM1 : Hid (Boxed W (w.heap.size + 1) 39 (.map (some b))) := (boxKeep BM.out hb1.out).kept r4 (fun e => by injection e with e; omega)
    have c1 := r1.cell
    have c2 := BM1.out.cell
    have HK := Lib.hid hK
    have R1 := Lib.hid r1
    have R2 := Lib.hid r2
    have R4 := Lib.hid r4
    have O1 := Lib.hid o1
    have O3 := Lib.hid o3
    have hmx : Maps.size D' < maxLen := by unfold maxLen; omega
    have Hmx := Lib.hid hmx
    clear hK r1 r2 r4 o1 o3 hmx
    gi_wp2_with (gi_at_mapUpdate; go_loud (refine wpListIn_mapUpdate_own _ rfl _ _ _ 39 rfl 9 22 keyedT Try.underlying39 hdrE b (Maps.size D') D' rfl O1.out Hmx.out _ _ (kt T) rfl rfl Hkey.out (hdrD g xs.length c') [] (hdrE_mk g xs.length c') ?_; intro w4 hown4 hg4; have c4 := (R1.out.kept hg4 (by intro e; injection e with e; omega)).cell))
    have hKD : w4.heap[DD]? = some (.deferred (some [])) := (hg4.block DD (Array.getElem?_eq_some_iff.1 HK.out).1 (fun e => by injection e with e; omega)).trans HK.out
    have hR2 : Own64 W B (.slice (some ⟨g, 0, none⟩) xs.length c') (M.mirL 24 xs) := own_mono R2.out (by omega)
    have hmap : ∀ v zs, Own64 W B v zs → v.ownBlock ≠ some b := fun v zs ho e => by have := (World.ownsRow.lt ho _ e).1; omega
    have hno : ¬ No g := fun e => by have := hNo.out g e; omega
    rw [← hT.out] at hown4
    have hput := Known.put (O1.out.tidy keyedT) o2 ht.out (fun ys hy hh => by obtain ⟨g', n', c2, k1, k2, k3⟩ := O3.out ys hy hh; exact ⟨g', n', c2, k1, k2, fun e => k3 (.inl e)⟩) hR2 hno hown4 hg4 hmap
    rw [show N + (xs.length - 1) + 1 = N + xs.length by omega] at hput
    refine ⟨by simp, .inl ⟨_, _, rfl, run_takeDeferred hKD, ?_⟩⟩
    refine ⟨_, results_tmp rfl _ _ _, ?_⟩
    refine ⟨g, xs.length, c', rfl, ownsRow_putObj (hR2.kept hg4 (.inr (hmap _ _ hR2))) _ hKD rfl, hno, hput.non (Q := DD) (grownBy_putObj' w4 DD _) (fun e => by injection e with e; omega) (fun r e => ?_), ?_⟩
    · injection e with e
      subst e
      exact ⟨Nat.le_refl _, _, hKD, rfl⟩
    · exact grown_trans ((grown_be HW1.out (some b)).trans (R4.out.trans hg4)) (grownBy_putObj' w4 DD _) (fun z e => .inr (by injection e with e; omega))
  case stop =>
    rintro D cc pre W _ _ h _
    exact h.elim
end Go.Proofs.Ytgojmhcddcenaaa
