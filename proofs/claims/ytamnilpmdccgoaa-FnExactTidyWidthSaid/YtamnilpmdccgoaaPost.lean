/- Postorder: the mathematics, and appendPostorder (a call of itself in the body of a range over a function). -/
import Derived.Test.YtamnilpmdccgoaaKids
import Derived.Test.YtamnilpmdccgoaaAddr
import Derived.Maps.OwnIn
namespace Go.Proofs.Ytamnilpmdccgoaa
open Go.RowKit Go.Shelf Go.Maps
attribute [local go_sem] Oper.semAt_some

namespace M
/-- the nodes of v's subtree in postorder, f levels deep at most -/
def postGo (xs : List Int) : Nat → Nat → List Int
  | 0, _ => []
  | f + 1, v => ((List.range (deg xs v)).flatMap fun i => postGo xs f (kidAt xs v i)) ++ [(v : Int)]
/-- those of the first k children -/
def postK (xs : List Int) (f v k : Nat) : List Int := (List.range k).flatMap fun i => postGo xs f (kidAt xs v i)
theorem postK_succ (xs : List Int) (f v k : Nat) : postK xs f v (k + 1) = postK xs f v k ++ postGo xs f (kidAt xs v k) := by simp [postK, List.range_succ]
theorem postGo_at {xs : List Int} {f v d : Nat} (h : xs[v]? = some (d : Int)) : postGo xs (f + 1) v = postK xs f v d ++ [(v : Int)] := by rw [postGo, deg_at h]; rfl
theorem postGo_len {xs : List Int} (ht : isTree xs = true) : ∀ f v, v < xs.length → 24 - v ≤ f → (postGo xs f v).length = span 1 (xs.drop v) := by
  intro f
  induction f with
  | zero => intro v hv h; have := (tree_len ht).2; omega
  | succ f ih =>
    intro v hv hf
    obtain ⟨d, hd, _⟩ := tree_degN ht hv
    have hK : ∀ k, k ≤ d → (postK xs f v k).length + (v + 1) = kidAt xs v k := by
      intro k
      induction k with
      | zero => intro _; simp [postK, kidAt]
      | succ k ihk =>
        intro hk
        have hkl := kid_lt ht hd (i := k) (by omega)
        have hkv := (kid_due ht hd k (by omega)).2.2
        rw [postK_succ, List.length_append, ih _ hkl (by omega)]
        have := ihk (by omega)
        simp only [kidAt]
        omega
    have h1 := hK d (Nat.le_refl _)
    have h2 := kid_end ht hd
    rw [postGo_at hd, List.length_append, List.length_singleton]
    omega
theorem postGo_le {xs : List Int} (ht : isTree xs = true) {f v : Nat} (hv : v < xs.length) (hf : 24 - v ≤ f) : (postGo xs f v).length ≤ 24 := by
  rw [postGo_len ht f v hv hf]
  have := span_le (xs.drop v) 1
  have := (tree_len ht).2
  simp at *
  omega
end M

/-- a child, whatever the place -/
def kidO (xs : List Int) (v d x : Nat) : Nat := M.kidAt xs v (min x (d - 1))
theorem kidO_at (xs : List Int) {v d x : Nat} (h : x < d) : kidO xs v d x = M.kidAt xs v x := by rw [kidO, show min x (d - 1) = x by omega]

theorem grown_trans {X Y Z : World} {r1 r2 : Option Nat} (h : X.grownBy Y r1) (k : Y.grownBy Z r2) (hr : ∀ g, r2 = some g → some g = r1 ∨ X.heap.size ≤ g) : X.grownBy Z r1 :=
  ⟨k.os.trans h.os, k.tape.trans h.tape, k.output.trans h.output, Nat.le_trans h.size k.size, fun j hj hne =>
    (k.block j (Nat.lt_of_lt_of_le hj h.size) (fun e => by
      rcases hr j e.symm with h1 | h1
      · exact hne h1
      · omega)).trans (h.block j hj hne)⟩
theorem row_cells {W : World} {base e size k : Nat} {v : Value} {xs : List Value} (h : W.ownsRow base e size v k xs) (j : Nat) (o : Obj) (hj : v.ownBlock = some j) (ho : W.heap[j]? = some o) : o.isCells = true := by
  rcases h.2 with ⟨rfl, _⟩ | ⟨g, cap, cur, rfl, _, hg, _⟩
  · simp [Value.ownBlock] at hj
  · obtain rfl : g = j := by simpa [Value.ownBlock] using hj
    rw [hg] at ho
    cases ho
    rfl
theorem row_kept {W W' : World} {base e size k B : Nat} {v : Value} {xs : List Value} {row : Option Nat} (h : W.ownsRow base e size v k xs) (hg : W.grownBy W' row) (hr : ∀ r, row = some r → B ≤ r ∧ ∃ o : Obj, W.heap[r]? = some o ∧ o.isCells = false) : W'.ownsRow base e size v k xs := by
  refine h.kept hg ?_
  cases hv : v.ownBlock with
  | none => exact .inl rfl
  | some g =>
    refine .inr fun e' => ?_
    obtain ⟨_, o, ho, hc⟩ := hr g e'.symm
    rw [row_cells h g o hv ho] at hc
    cases hc

/-- what a call must do with a row that it takes over -/
def PostAt (A : Option Addr) (xs : List Int) (c B f v : Nat) : Prop :=
  ∀ (U : Option Addr) (n c' : Nat) (zs : List Int) (W : World), n ≤ 600 * (v + 1) → Hid (Own64 W B (.slice U n c') zs) → Hid (Ints W B A xs) → B ≤ W.heap.size →
    Calls Try.prog 141 #[.slice U n c', .slice A xs.length c, .int .i64 (v : Int)] W fun e w' => ∃ U2 c2 n2, e = .returned (.slice U2 n2 c2) ∧ Hid (Own64 w' B (.slice U2 n2 c2) (zs ++ M.postGo xs f v)) ∧
      Hid (W.grownBy w' (Value.slice U n c').ownBlock) ∧ Hid (∀ g, (Value.slice U2 n2 c2).ownBlock = some g → some g = (Value.slice U n c').ownBlock ∨ W.heap.size ≤ g)

set_option maxRecDepth 100000 in
set_option maxHeartbeats 4000000 in
theorem appendPost_step (A : Option Addr) (xs : List Int) (c B f v d : Nat) (hx : xs.length ≤ 24) (hcl : xs.length ≤ c) (hcu : c ≤ 1000000000000) (ht : Hid (M.isTree xs = true)) (hd : Hid (xs[v]? = some (d : Int))) (hf : 24 - v ≤ f + 1)
    (ih : Hid (∀ C, v < C → C < xs.length → PostAt A xs c B f C)) (U : Option Addr) (n c' : Nat) (zs : List Int) (w : World) (hn : n ≤ 600 * (v + 1)) (hown : Hid (Own64 w B (.slice U n c') zs)) (hI : Hid (Ints w B A xs)) (hBw : B ≤ w.heap.size) :
    CallsIn Fence.wide 5 Try.prog 141 #[.slice U n c', .slice A xs.length c, .int .i64 (v : Int)] w fun e w' => ∃ U2 c2 n2, e = .returned (.slice U2 n2 c2) ∧ Hid (Own64 w' B (.slice U2 n2 c2) (zs ++ M.postGo xs (f + 1) v)) ∧
      Hid (w.grownBy w' (Value.slice U n c').ownBlock) ∧ Hid (∀ g, (Value.slice U2 n2 c2).ownBlock = some g → some g = (Value.slice U n c').ownBlock ∨ w.heap.size ≤ g) := by
  obtain ⟨i0, hi0, hz0, hz1, hz2⟩ := info_parts info64
  have hd24 : d ≤ 24 := by have := (M.tree_deg ht.out hd.out).2; omega
  have hv : v < xs.length := (List.getElem?_eq_some_iff.1 hd.out).1
  obtain ⟨row, hrow⟩ : ∃ row, (Value.slice U n c').ownBlock = row := ⟨_, rfl⟩
  rw [hrow]
  refine callsIn_of_wp_marks Try.func141 rfl trivial ?_ rfl
  simp only [Try.ntmps141, List.size_toArray, List.length_cons, List.length_nil, Nat.reduceAdd, Nat.reduceSub, Array.replicate_succ, Array.replicate_zero, List.push_toArray, List.append_toArray, List.nil_append, List.cons_append]
  gi_wp2_with (refine ⟨trivial, ?_⟩; gi_at_call 130; refine (eachIn 4 A xs.length c v _).mono ?_; rintro e w' ⟨rfl, rfl⟩)
  have bO0 := Boxed.new w 22 (.slice U n c')
  have bG0 := Boxed.new (w.alloc (.cells #[.slice U n c'] 22)) 22 (.slice A xs.length c)
  have bD0 := Boxed.new ((w.alloc (.cells #[.slice U n c'] 22)).alloc (.cells #[.slice A xs.length c] 22)) 22 (.slice A xs.length c)
  have bA0 := Boxed.new (((w.alloc (.cells #[.slice U n c'] 22)).alloc (.cells #[.slice A xs.length c] 22)).alloc (.cells #[.slice A xs.length c] 22)) 2 (.int .i64 (v : Int))
  simp only [World.size_alloc] at bG0 bD0 bA0
  have bO := ((bO0.alloc (.cells #[.slice A xs.length c] 22)).alloc (.cells #[.slice A xs.length c] 22)).alloc (.cells #[.int .i64 (v : Int)] 2)
  have bG := (bG0.alloc (.cells #[.slice A xs.length c] 22)).alloc (.cells #[.int .i64 (v : Int)] 2)
  have bD := bD0.alloc (.cells #[.int .i64 (v : Int)] 2)
  have hg0 : w.grownBy ((((w.alloc (.cells #[.slice U n c'] 22)).alloc (.cells #[.slice A xs.length c] 22)).alloc (.cells #[.slice A xs.length c] 22)).alloc (.cells #[.int .i64 (v : Int)] 2)) row :=
    (((World.grownBy_alloc w _ _).trans (World.grownBy_alloc _ _ _)).trans (World.grownBy_alloc _ _ _)).trans (World.grownBy_alloc _ _ _)
  have hr0 : Own64 ((((w.alloc (.cells #[.slice U n c'] 22)).alloc (.cells #[.slice A xs.length c] 22)).alloc (.cells #[.slice A xs.length c] 22)).alloc (.cells #[.int .i64 (v : Int)] 2)) B (.slice U n c') zs :=
    (((hown.out.alloc _).alloc _).alloc _).alloc _
  obtain ⟨W0, hW0⟩ : ∃ W0, W0 = ((((w.alloc (.cells #[.slice U n c'] 22)).alloc (.cells #[.slice A xs.length c] 22)).alloc (.cells #[.slice A xs.length c] 22)).alloc (.cells #[.int .i64 (v : Int)] 2)) := ⟨_, rfl⟩
  have hsz : W0.heap.size = w.heap.size + 1 + 1 + 1 + 1 := by rw [hW0]; simp
  rw [← hW0] at bO bG bD bA0 hg0 hr0 ⊢
  clear hW0 bO0 bG0 bD0
  have hrowB : Hid (∀ k, row = some k → B ≤ k ∧ k < w.heap.size) := fun k e => World.ownsRow.lt hown.out k (hrow.trans e)
  have hnz : Hid (n = zs.length) := own64_len hown.out
  have hb0 : Below B w W0 := (Below.refl B w).grown hg0 hBw (fun k e => (hrowB.out k e).1)
  have hKb := KeepK.b (n₀ := B) (Bd := w.heap.size + 1 + 1) (w := W0) (by omega) (by omega)
  have h15 : 1 ≤ 5 := by omega
  refine wpIn_rangeFunc_ownG (α := Nat) rfl h15 (gf := 158) (lb := #[.pointer (some ⟨w.heap.size + 1 + 1 + 1, 0, none⟩), .pointer (some ⟨w.heap.size + 1 + 1, 0, none⟩)]) rfl trivial (enters_of Try.func158 (by kernel_rfl) rfl)
    (each_stopsF (fun i => i) (fun x => #[.int .i64 (x : Int), .int .i64 (kidO xs v d x : Int)]) 4 (by omega) (w.heap.size + 1 + 1 + 1) (w.heap.size + 1 + 1) B A xs c v d hx hcl (by omega) ht hd (fun k hk => by rw [kidO_at xs hk]) W0 bA0.cell bD (hI.out.below hb0 (Nat.le_refl _)) (by omega)) (fun h k => h.t k) hKb (Below.refl _ _) (fun _ => rfl)
    (fun pre W => (∃ (u : Value) (ys : List Int), Boxed W w.heap.size 22 u ∧ Own64 W B u ys ∧ (pre = List.range pre.length → pre.length ≤ d → ys = zs ++ M.postK xs f v pre.length) ∧ ys.length ≤ n + 24 * pre.length ∧ ∀ g, u.ownBlock = some g → some g = row ∨ w.heap.size ≤ g) ∧
      Boxed W (w.heap.size + 1) 22 (.slice A xs.length c) ∧ Boxed W (w.heap.size + 1 + 1) 22 (.slice A xs.length c) ∧ w.grownBy W row)
    (fun _ _ _ => False)
    (fun pre X Y r' ⟨⟨u, ys, h1, h2, h3, h4, h5⟩, h6, h7, h8⟩ hg hr =>
      ⟨⟨u, ys, h1.kept hg (fun e => by have := (hr _ e.symm).1; omega), row_kept h2 hg hr, h3, h4, h5⟩, h6.kept hg (fun e => by have := (hr _ e.symm).1; omega), h7.kept hg (fun e => by have := (hr _ e.symm).1; omega), grown_trans h8 hg (fun g e => .inr (by have := (hr g e).1; omega))⟩)
    (fun _ _ _ _ _ hs _ _ => hs)
    ⟨⟨_, zs, bO, hr0, fun _ _ => by simp [M.postK], by simp [hnz.out], fun g e => .inl (by rw [← hrow]; exact e.symm)⟩, bG, bD, hg0⟩
    (fun x => { tmps := #[.slice U n c', .slice A xs.length c, .int .i64 (v : Int), .pointer (some ⟨w.heap.size, 0, none⟩), .pointer (some ⟨w.heap.size + 1, 0, none⟩), undef, .slice none 0 0, undef, .int .i64 (kidO xs v d x : Int), .slice A xs.length c, .int .i64 (v : Int), .func (.func 158) #[] #[.pointer (some ⟨w.heap.size + 1 + 1 + 1, 0, none⟩), .pointer (some ⟨w.heap.size + 1 + 1, 0, none⟩)], .int .i64 (x : Int), .int .i64 (kidO xs v d x : Int), undef, undef, undef, undef, undef, undef, undef, undef], defers := [] }) ?assign ?body ?done ?stop
  case assign =>
    intro l x W K hK
    gi_wp2
    exact hK
  case body =>
    rintro l pre x W ⟨⟨u, ys, h1, h2, h3, h4, h5⟩, h6, h7, h8⟩ hlt
    obtain ⟨U1, c1, hu⟩ := own_shape h2
    have hmin : min x (d - 1) < d := by omega
    have hCl : kidO xs v d x < xs.length := M.kid_lt ht.out hd.out (i := min x (d - 1)) (by omega)
    have hCv : v < kidO xs v d x := (M.kid_due ht.out hd.out (min x (d - 1)) (by omega)).2.2
    have hWsz := h8.size
    have hbW : Below B w W := (Below.refl B w).grown h8 hBw (fun k e => (hrowB.out k e).1)
    have hCall := Lib.hid (ih.out _ hCv hCl U1 ys.length c1 ys W (by omega) (hu ▸ h2) (hI.out.below hbW (Nat.le_refl _)) (by omega))
    have hlenC := M.postGo_le ht.out (f := f) hCl (by omega)
    have hkey : Hid (pre ++ [x] = List.range (pre ++ [x]).length → (pre ++ [x]).length ≤ d → ys ++ M.postGo xs f (kidO xs v d x) = zs ++ M.postK xs f v (pre ++ [x]).length) := fun e hd' => by
      simp only [List.length_append, List.length_cons, List.length_nil, Nat.zero_add] at e hd' ⊢
      rw [List.range_succ] at e
      obtain ⟨e1, e2⟩ := List.append_inj' e rfl
      injection e2 with e2
      rw [h3 e1 (by omega), M.postK_succ, List.append_assoc, ← kidO_at xs (by omega), ← e2]
    subst hu
    have c1' := h1.cell
    have c2' := h6.cell
    generalize kidO xs v d x = C at *
    gi_wp2_with (refine ⟨trivial, ?_⟩; gi_at_call 141; refine (CallsIn.inRound l (callsIn_wide.2 hCall.out)).mono ?_; rintro e W1 ⟨U2, c2, n2, rfl, ho2, hg2, hfr⟩; have hv1 := h1.kept hg2.out (h1.not_row (by decide) h2); have cv1 := hv1.cell; have fv1 := hv1.frozen)
    have hKO : KeepsOthers W (W1.setCell ⟨w.heap.size, 0, none⟩ (.slice U2 n2 c2)) := (KeepsOthers.of_grownBy hg2.out (fun j o ej hj => row_cells h2 j o ej hj)).trans (KeepsOthers.setCell _ _ _)
    have k6 : Boxed (W1.setCell ⟨w.heap.size, 0, none⟩ (.slice U2 n2 c2)) (w.heap.size + 1) 22 (.slice A xs.length c) := (h6.kept hg2.out (h6.not_row (by decide) h2)).other (by omega) _
    have k7 : Boxed (W1.setCell ⟨w.heap.size, 0, none⟩ (.slice U2 n2 c2)) (w.heap.size + 1 + 1) 22 (.slice A xs.length c) := (h7.kept hg2.out (h7.not_row (by decide) h2)).other (by omega) _
    have kB : Below B W (W1.setCell ⟨w.heap.size, 0, none⟩ (.slice U2 n2 c2)) := below_setCell ((Below.refl B W).grown hg2.out (by omega) (fun k e => (World.ownsRow.lt h2 k e).1)) hBw _
    have kO : Own64 (W1.setCell ⟨w.heap.size, 0, none⟩ (.slice U2 n2 c2)) B (.slice U2 n2 c2) (ys ++ M.postGo xs f C) := ho2.out.kept (grownBy_setCell' W1 w.heap.size _) (.inr (hv1.not_row (by decide) ho2.out).symm)
    have kG : w.grownBy (W1.setCell ⟨w.heap.size, 0, none⟩ (.slice U2 n2 c2)) row := grown_trans (grown_trans h8 hg2.out h5) (grownBy_setCell' W1 w.heap.size _) (fun g e => .inr (by injection e with e; omega))
    refine ⟨hKO.from _, ⟨kB, k7.trans (show W.heap[_]? = _ from h7).symm⟩, ⟨_, _, hv1.set _, kO, hkey.out, ?_, fun g e => ?_⟩, k6, k7, kG⟩
    · simp only [List.length_append, List.length_cons, List.length_nil]
      omega
    · rcases hfr.out g e with e1 | e1
      · exact h5 g e1.symm
      · exact .inr (by omega)
  case done =>
    rintro D ys0 W hD rfl ⟨⟨u, ys, h1, h2, h3, h4, h5⟩, h6, h7, h8⟩ hK
    have hys := h3 (by simp) (by simp)
    simp only [List.length_range, List.map_id'] at hys h4
    have hpo : Hid (zs ++ M.postGo xs (f + 1) v = ys ++ [(v : Int)]) := by show _ = _; rw [M.postGo_at hd.out, hys, List.append_assoc]
    obtain ⟨U1, c1, hu⟩ := own_shape h2
    subst hu
    have hWsz := h8.size
    have c1' := h1.cell
    have hyl : ys.length ≤ 100000 := by omega
    have hrowc := Lib.hid (fun j o ej hj => row_cells (h2.alloc (.cells #[.int .i64 (v : Int)] 2)) j o ej hj)
    have HK := Lib.hid hK
    have H8 := Lib.hid h8
    have H5 := Lib.hid h5
    clear hys h3 h1 h6 h7 hK h8 h5
    gi_wp2_with (gi_at_builtin; refine wpListIn_append_own_at _ rfl _ _ 22 rfl B 2 i0 (.int .i64 0) 1 8 Try.underlying22 hi0 hz0 hz1 hz2 rfl (by decide) _ _ _ rfl (h2.alloc _) ⟨W.heap.size, 0, none⟩ 1 1 [.int .i64 (v : Int)] rfl rfl (cell_one_new _ _ _) (by simp [Value.oneCell']) (by unfold maxLen; omega) (by omega) (by simp; omega) ?_; intro v' w1 hown' hgrow _ hat; obtain ⟨g', cap', rfl⟩ := ownsRow_succ hown')
    have hK1 : w1.heap[D]? = some (.deferred (some [])) := (KeepsOthers.of_grownBy hgrow hrowc.out).same D _ ((Below.heap_alloc _ _ _ (Array.getElem?_eq_some_iff.1 HK.out).1).trans HK.out) rfl
    have kG : w.grownBy (w1.putObj D (.deferred none)) row := grown_trans (grown_trans (grown_trans H8.out (World.grownBy_alloc W _ none) (fun g e => by cases e)) hgrow H5.out) (grownBy_putObj' w1 D _) (fun g e => .inr (by injection e with e; omega))
    refine ⟨by simp, .inl ⟨_, _, rfl, run_takeDeferred hK1, ?_⟩⟩
    refine ⟨_, results_tmp rfl _ _ _, some ⟨g', 0, none⟩, cap', ys.length + 1, rfl, ?_, kG, fun g e => ?_⟩
    · show Own64 _ _ _ _
      rw [hpo.out]
      have := ownsRow_putObj hown' (.deferred none) hK1 rfl
      simpa [Own64] using this
    · rcases hat with e1 | e1
      · exact H5.out g (e1.symm.trans e)
      · have e2 := e.symm.trans e1
        injection e2 with e2
        refine .inr ?_
        simp at e2
        omega
  case stop =>
    rintro D cc pre W _ _ h _
    exact h.elim

theorem appendPost (A : Option Addr) (xs : List Int) (c B : Nat) (hx : xs.length ≤ 24) (hcl : xs.length ≤ c) (hcu : c ≤ 1000000000000) (ht : Hid (M.isTree xs = true)) : ∀ f v, v < xs.length → 24 - v ≤ f → PostAt A xs c B f v := by
  intro f
  induction f with
  | zero => intro v hv h; omega
  | succ f ih =>
    intro v hv hf U n c' zs W hn hown hI hB
    obtain ⟨d, hd, _⟩ := M.tree_degN ht.out hv
    exact (callsIn_wide (n := 5)).1 (appendPost_step A xs c B f v d hx hcl hcu ht hd hf (fun C hC hCl => ih C hCl (by omega)) U n c' zs W hn hown hI hB)
end Go.Proofs.Ytamnilpmdccgoaa
