/- nextDegrees: the next tree in a row of its own, or nil (a range over a slice from its end, with a return in it). -/
import Derived.Test.YtimjcdjeeocffaaBack
import Derived.Test.YtimjcdjeeocffaaNext
import Derived.Test.YtimjcdjeeocffaaClone
import Derived.Test.YtimjcdjeeocffaaCopy
import Derived.Test.YtimjcdjeeocffaaPost
import Derived.Maps.AppendAt
namespace Go.Proofs.Ytimjcdjeeocffaa
open Go.RowKit Go.Shelf Go.Maps
attribute [local go_sem] Oper.semAt_some

theorem keepsOthers_be {W W' : World} (h : Below W.heap.size W W') : KeepsOthers W W' := ⟨h.size, fun k _ hk _ => (h.block k (Array.getElem?_eq_some_iff.1 hk).1).trans hk⟩
theorem keepK_turn {n₀ Bd D : Nat} (hn : n₀ ≤ D) (hB : Bd < D) (W : World) (o o' : Obj) (h : W.heap[D + 1]? = some o) : KeepK n₀ Bd W (W.putObj (D + 1) o') := by
  have hl := (Array.getElem?_eq_some_iff.1 h).1
  exact ⟨(Below.refl n₀ W).grown (grownBy_putObj' W (D + 1) o') (by omega) (fun k e => by injection e with e; omega), (grownBy_putObj' W (D + 1) o').block Bd (by omega) (fun e => by injection e with e; omega)⟩

/-- what nextDegrees hands back -/
def IsNext (w : World) (B : Nat) (xs : List Int) (e : Ending) (w' : World) : Prop :=
  match M.nextF 1 xs with
  | some ys => ∃ g c', e = .returned (.slice (some ⟨g, 0, none⟩) ys.length c') ∧ Own64 w' B (.slice (some ⟨g, 0, none⟩) ys.length c') ys ∧ Below B w w'
  | none => e = .returned (.slice none 0 0) ∧ Below B w w'

set_option maxRecDepth 100000 in
set_option maxHeartbeats 8000000 in
theorem nextDegrees_in (A : Option Addr) (xs : List Int) (c : Nat) (w : World) (ht : Hid (M.isTree xs = true)) (hcl : xs.length ≤ c) (hcu : c ≤ 9223372036854775807) (hI : Hid (Ints w w.heap.size A xs)) :
    CallsIn Fence.wide 5 Try.prog 195 #[.slice A xs.length c] w fun e w' => IsNext w w.heap.size xs e w' := by
  obtain ⟨i0, hi0, hz0, hz1, hz2⟩ := info_parts info64
  have hx := (M.tree_len ht.out).2
  have hx1 := (M.tree_len ht.out).1
  obtain ⟨b, off, rfl, _⟩ := hI.out (by omega)
  refine callsIn_of_wp_marks Try.func195 rfl trivial ?_ rfl
  simp only [Try.ntmps195, List.size_toArray, List.length_cons, List.length_nil, Nat.reduceAdd, Nat.reduceSub, Array.replicate_succ, Array.replicate_zero, List.push_toArray, List.append_toArray, List.nil_append, List.cons_append]
  gi_wp2_with (refine ⟨trivial, ?_⟩; gi_at_call 185; refine (backIn 4 (some ⟨b, off, none⟩) xs.length c _).mono ?_; rintro e w' ⟨rfl, rfl⟩)
  have bG0 := Boxed.new w 22 (.slice (some ⟨b, off, none⟩) xs.length c)
  have bR0 := Boxed.new (w.alloc (.cells #[.slice (some ⟨b, off, none⟩) xs.length c] 22)) 22 (.slice none 0 0)
  have bM0 := Boxed.new ((w.alloc (.cells #[.slice (some ⟨b, off, none⟩) xs.length c] 22)).alloc (.cells #[.slice none 0 0] 22)) 2 (.int .i64 0)
  have bD0 := Boxed.new (((w.alloc (.cells #[.slice (some ⟨b, off, none⟩) xs.length c] 22)).alloc (.cells #[.slice none 0 0] 22)).alloc (.cells #[.int .i64 0] 2)) 22 (.slice (some ⟨b, off, none⟩) xs.length c)
  simp only [World.size_alloc] at bR0 bM0 bD0
  have bG := ((bG0.alloc (.cells #[.slice none 0 0] 22)).alloc (.cells #[.int .i64 0] 2)).alloc (.cells #[.slice (some ⟨b, off, none⟩) xs.length c] 22)
  have bR := (bR0.alloc (.cells #[.int .i64 0] 2)).alloc (.cells #[.slice (some ⟨b, off, none⟩) xs.length c] 22)
  have bM := bM0.alloc (.cells #[.slice (some ⟨b, off, none⟩) xs.length c] 22)
  have hB0 := bal (bal (bal (bal (b0 w) (.cells #[.slice (some ⟨b, off, none⟩) xs.length c] 22)) (.cells #[.slice none 0 0] 22)) (.cells #[.int .i64 0] 2)) (.cells #[.slice (some ⟨b, off, none⟩) xs.length c] 22)
  obtain ⟨W0, hW0⟩ : ∃ W0, W0 = ((((w.alloc (.cells #[.slice (some ⟨b, off, none⟩) xs.length c] 22)).alloc (.cells #[.slice none 0 0] 22)).alloc (.cells #[.int .i64 0] 2)).alloc (.cells #[.slice (some ⟨b, off, none⟩) xs.length c] 22)) := ⟨_, rfl⟩
  have hsz : W0.heap.size = w.heap.size + 1 + 1 + 1 + 1 := by rw [hW0]; simp
  rw [← hW0] at bG bR bM bD0 hB0 ⊢
  clear hW0 bG0 bR0 bM0
  have h15 : 1 ≤ 5 := by omega
  have hend := M.next_end (xs := xs)
  have hdue := M.due_end_N ht.out
  refine wpIn_rangeRows rfl h15 (gf := 201) (lb := #[.pointer (some ⟨w.heap.size + 1 + 1 + 1, 0, none⟩)]) rfl trivial (enters_of Try.func201 (by kernel_rfl) rfl)
    (back_rows (fun k => #[.int .i64 ((xs.length - 1 - k : Nat) : Int), .int .i64 (xs[xs.length - 1 - k]?.getD 0)]) 4 (by omega) (w.heap.size + 1 + 1 + 1) w.heap.size (some ⟨b, off, none⟩) xs c (by omega) (fun k v x hk hv => by rw [show xs.length - 1 - k = v by omega, hv]; rfl) W0 bD0 (hI.out.below hB0 (Nat.le_refl _)) (by omega)) (Below.refl _ _) (fun h k => h.t k)
    (fun W r r' h => by rw [hsz] at h ⊢; exact keepK_turn (by omega) (by omega) W (.loop r) (.loop r') h) (fun _ => rfl)
    (fun pre W => (∃ m : Nat, Boxed W (w.heap.size + 1 + 1) 2 (.int .i64 (m : Int)) ∧ (pre = List.range pre.length → pre.length ≤ xs.length → m = M.dueN xs (xs.length - pre.length) ∧ M.nextF (M.dueN xs (xs.length - pre.length)) (xs.drop (xs.length - pre.length)) = none)) ∧
      Boxed W w.heap.size 22 (.slice (some ⟨b, off, none⟩) xs.length c) ∧ Boxed W (w.heap.size + 1) 22 (.slice none 0 0) ∧ Boxed W (w.heap.size + 1 + 1 + 1) 22 (.slice (some ⟨b, off, none⟩) xs.length c) ∧ Below w.heap.size w W)
    (fun cc _ W => cc = .ret ∧ ∃ ys g c', M.nextF 1 xs = some ys ∧ Boxed W (w.heap.size + 1) 22 (.slice (some ⟨g, 0, none⟩) ys.length c') ∧ Own64 W (w.heap.size + 1 + 1) (.slice (some ⟨g, 0, none⟩) ys.length c') ys ∧ Below w.heap.size w W)
    (fun pre X Y r' ⟨⟨m, h1, h2⟩, h3, h4, h5, h6⟩ hg hr =>
      ⟨⟨m, h1.kept hg (fun e => by have := (hr _ e.symm).1; omega), h2⟩, h3.kept hg (fun e => by have := (hr _ e.symm).1; omega), h4.kept hg (fun e => by have := (hr _ e.symm).1; omega), h5.kept hg (fun e => by have := (hr _ e.symm).1; omega), h6.grown hg h6.size (fun k e => by have := (hr _ e).1; omega)⟩)
    (fun cc pre X Y r' ⟨h1, ys, g, c', h2, h3, h4, h5⟩ hg hr => ⟨h1, ys, g, c', h2, h3.kept hg (fun e => by have := (hr _ e.symm).1; omega), row_kept h4 hg hr, h5.grown hg h5.size (fun k e => by have := (hr _ e).1; omega)⟩)
    (fun _ _ _ _ h _ _ => h)
    ⟨⟨0, bM, fun _ _ => ⟨by simp [hdue], by simpa using hend⟩⟩, bG, bR, bD0, hB0⟩
    (fun x => { tmps := #[.slice (some ⟨b, off, none⟩) xs.length c, .pointer (some ⟨w.heap.size, 0, none⟩), .pointer (some ⟨w.heap.size + 1, 0, none⟩), .pointer (some ⟨w.heap.size + 1 + 1, 0, none⟩), .int .i64 ((xs.length - 1 - x : Nat) : Int), .int .i64 (xs[xs.length - 1 - x]?.getD 0), undef, undef, .slice (some ⟨b, off, none⟩) xs.length c, .func (.func 201) #[] #[.pointer (some ⟨w.heap.size + 1 + 1 + 1, 0, none⟩)], .int .i64 ((xs.length - 1 - x : Nat) : Int), .int .i64 (xs[xs.length - 1 - x]?.getD 0), undef, undef, undef, undef, undef, undef, undef, undef, undef, undef, undef, undef, undef, undef, undef, undef, undef, undef, undef, undef, undef, undef, undef, undef, undef], defers := [] }) ?assign ?body ?done ?stop
  case assign =>
    intro l x W K hK
    gi_wp2
    exact hK
  case body =>
    rintro l pre x W ⟨⟨m, h1, h2⟩, h3, h4, h5, h6⟩ ⟨hpre, hlt⟩
    subst hpre
    obtain ⟨hm, hnone⟩ := h2 (by simp) (by simp; omega)
    rw [List.length_range] at hm hnone
    obtain ⟨v, hv⟩ : ∃ v, v + 1 + x = xs.length := ⟨xs.length - 1 - x, by omega⟩
    obtain ⟨d, hd, hd24⟩ := M.tree_degN ht.out (v := v) (by omega)
    rw [show xs.length - x = v + 1 by omega] at hm hnone
    have hmle := M.due_left ht.out (v := v + 1)
    have hdv := M.dueN_succ ht.out hd
    have hdp := M.dueN_pos ht.out (v := v) (by omega)
    rw [show xs.length - 1 - x = v by omega, hd, Option.getD_some]
    have hWsz := h6.size
    have hleft : (xs.length : Int) - 1 - (v : Int) = (x : Int) := by omega
    have c1 := h1.cell
    have c3 := h3.cell
    by_cases hmx : m < x
    · have hmx2 : (m : Int) < (x : Int) := by omega
      have hhit := M.next_hit ht.out hd hnone (by omega)
      rw [show xs.length - 1 - v = x by omega, ← hm] at hhit
      have Hhit := Lib.hid hhit
      have hvc : (v : Int) ≤ (c : Int) := by omega
      have hv0 : (0 : Int) ≤ (v : Int) := by omega
      obtain ⟨T, hT⟩ : ∃ T, Hid (xs.take v = T) := ⟨_, rfl⟩
      have hTl : Hid (T.length = v) := by show _ = _; rw [← hT.out, List.length_take]; omega
      have hIT : Hid (Ints W W.heap.size (some ⟨b, off, none⟩) T) := by
        have := ints_sub ((hI.out.below h6 (Nat.le_refl _)).more hWsz) 0 v
        rw [← hT.out]
        simpa [Hid] using this
      have HCl := Lib.hid (clone ⟨b, off, none⟩ T v c W hTl (by omega) hIT)
      have HAF : Hid (∀ (A : Option Addr) (n c' : Nat) (zs : List Int) (W' : World), n ≤ 1000 → Hid (Own64 W' W.heap.size (.slice A n c') zs) → W.heap.size ≤ W'.heap.size → Calls Try.prog 173 #[.slice A n c', .int .i64 (x : Int), .int .i64 ((m : Int) + 1)] W' fun e w' => ∃ A' c'', e = .returned (.slice A' (n + x) c'') ∧ Own64 w' W.heap.size (.slice A' (n + x) c'') (zs ++ M.firstL x (m + 1)) ∧ Below W.heap.size W' w') := fun A n c' zs W' hn ho hB => by
        have := appendFirst A n c' zs x (m + 1) W' W.heap.size (by omega) (by omega) (by omega) (by omega) hn ho hB
        rw [show ((m + 1 : Nat) : Int) = (m : Int) + 1 by omega] at this
        exact this
      clear hhit hmle hdv hdp hnone h2 hm hIT
      gi_wp2_with (first | (refine ⟨trivial, ?_⟩; gi_at_call 152; refine (CallsIn.inRound l (callsIn_wide.2 HCl.out)).mono ?_; rintro e W1 ⟨A1, c1', rfl, ho1, hb1⟩; have zb1 := hb1.size; have hT1 := hTl.out) | (gi_at_builtin; refine wpListIn_append_own _ rfl _ _ 22 rfl W.heap.size 2 i0 (.int .i64 0) 1 8 Try.underlying22 hi0 hz0 hz1 hz2 rfl (by decide) _ _ _ rfl (ho1.alloc _) ⟨W1.heap.size, 0, none⟩ 1 1 [.int .i64 ((d : Int) + 1)] rfl rfl (cell_one_new _ _ _) (by simp [Value.oneCell']) (by unfold maxLen; omega) (by omega) (by simp; omega) ?_; intro v' W2 hown2 hg2 _; obtain ⟨g2, c2, rfl⟩ := ownsRow_succ hown2; have hb2 : Hid (Below W.heap.size W W2) := (hb1.alloc zb1 _).grown hg2 (by simp; omega) (fun k e => (World.ownsRow.lt ho1 k e).1); have zb2 := hb2.out.size; have cM2 := (show Boxed W2 (w.heap.size + 1 + 1) 2 (.int .i64 (m : Int)) from (hb2.out.block _ h1.lt).trans h1).cell; have ho2 : Hid (Own64 W2 W.heap.size (.slice (some ⟨g2, 0, none⟩) (v + 1) c2) (T ++ [(d : Int) + 1])) := (by show Own64 _ _ _ _; unfold Own64; rw [List.length_append, List.map_append, hTl.out]; rw [hTl.out] at hown2; exact hown2)) | (refine ⟨trivial, ?_⟩; gi_at_call 173; refine (CallsIn.inRound l (callsIn_wide.2 (HAF.out _ _ _ _ _ (by omega) ho2 zb2))).mono ?_; rintro e W3 ⟨A3, c3, rfl, ho3, hb3⟩; have hb4 : Hid (Below W.heap.size W W3) := hb2.out.trans hb3; have bR3 : Hid (Boxed W3 (w.heap.size + 1) 22 (.slice none 0 0)) := (hb4.out.block _ h4.lt).trans h4; have cR3 := bR3.out.cell; have fR3 := bR3.out.frozen))
      have hys : Hid ((T ++ [(d : Int) + 1] ++ M.firstL x (m + 1)).length = xs.length) := by show _ = _; rw [List.length_append, List.length_append, hTl.out, M.firstL_len]; exact hv
      have z1 := h1.lt
      rw [hv] at ho3
      obtain ⟨g3, rfl⟩ : ∃ g, A3 = some ⟨g, 0, none⟩ := by
        rcases ho3.2 with ⟨h0, _⟩ | ⟨g, cap, cur, hvv, _⟩
        · injection h0 with _ e _; omega
        · injection hvv with e1; exact ⟨g, e1⟩
      have hN : M.nextF 1 xs = some (T ++ [(d : Int) + 1] ++ M.firstL x (m + 1)) := by rw [← hT.out]; exact Hhit.out
      refine ⟨((keepsOthers_be hb4.out).trans (KeepsOthers.setCell _ _ _)).from _, rfl, _, g3, c3, hN, ?_, ?_, ?_⟩
      · rw [hys.out]; exact bR3.out.set _
      · rw [hys.out]; exact own_mono (own_far ho3 (by omega) _) (by omega)
      · exact h6.trans (below_setCell (hb4.out.mono hWsz) (by omega) _)
    · have hmx2 : ¬ (m : Int) < (x : Int) := by omega
      have hmiss := Lib.hid (M.next_miss ht.out hd hnone (by omega))
      obtain ⟨m', hm'⟩ : ∃ m', M.dueN xs v = m' := ⟨_, rfl⟩
      have hmm : (m : Int) + (1 - (d : Int)) = (m' : Int) := by omega
      have hm24 : (m' : Int) ≤ 24 := by have := M.due_left ht.out (v := v); omega
      have hwr : IntKind.i64.wrap (m' : Int) = (m' : Int) := IntWalk.i64_in _ (by omega)
      have f1 := h1.frozen
      have HM := Lib.hid hm'
      clear hmle hdv hdp hnone h2 hm hm'
      gi_wp2
      try rw [IntWalk.wrap64_in _ (by omega)]
      have k1 : Below w.heap.size W (W.setCell ⟨w.heap.size + 1 + 1, 0, none⟩ (.int .i64 (m' : Int))) := below_setCell (Below.refl _ _) (by omega) _
      have k5 : Boxed (W.setCell ⟨w.heap.size + 1 + 1, 0, none⟩ (.int .i64 (m' : Int))) (w.heap.size + 1 + 1 + 1) 22 (.slice (some ⟨b, off, none⟩) xs.length c) := h5.other (by omega) _
      refine ⟨(KeepsOthers.setCell W _ _).from _, ⟨k1, k5.trans (show W.heap[_]? = _ from h5).symm⟩, ⟨m', h1.set _, fun _ _ => ?_⟩, h3.other (by omega) _, h4.other (by omega) _, k5, h6.trans k1⟩
      rw [List.length_append, List.length_range, List.length_singleton, show xs.length - (x + 1) = v by omega]
      exact ⟨HM.out.symm, hmiss.out⟩
  case done =>
    rintro D ys W hD rfl ⟨⟨m, h1, h2⟩, h3, h4, h5, h6⟩ hK
    have hn : Hid (M.nextF 1 xs = none) := by
      have := (h2 (by simp) (by simp)).2
      simp only [List.length_range, Nat.sub_self, List.drop_zero] at this
      rw [M.dueN_zero] at this
      exact this
    have c1 := h4.cell
    have f1 := h4.frozen
    have HK := Lib.hid hK
    have H6 := Lib.hid h6
    have H4 := Lib.hid h4
    clear h1 h2 h3 h4 h5 h6 hK
    gi_wp2
    have hne : D ≠ w.heap.size + 1 := by omega
    have hKD : (W.setCell ⟨w.heap.size + 1, 0, none⟩ (.slice none 0 0)).heap[D]? = some (.deferred (some [])) := (Below.heap_setCell W ⟨w.heap.size + 1, 0, none⟩ (.slice none 0 0) D hne).trans HK.out
    have hR := ((H4.out.set (.slice none 0 0)).kept (grownBy_putObj' _ D (.deferred none)) (fun e => by injection e with e; omega)).cell
    refine ⟨by simp, .inl ⟨_, _, rfl, run_takeDeferred hKD, ?_⟩⟩
    refine ⟨.slice none 0 0, by simp [results, Try.results195, go_sem, hR], ?_⟩
    unfold IsNext
    rw [hn.out]
    exact ⟨rfl, (below_setCell H6.out (by omega) _).trans (belowK_b (w := w) (Nat.le_refl _) _ D _ _ (by omega) hKD rfl rfl)⟩
  case stop =>
    rintro D cc pre W hD _ ⟨rfl, ys, g, c', h2, h3, h4, h5⟩ hK
    have c1 := h3.cell
    gi_wp2
    have hR := (h3.kept (grownBy_putObj' W D (.deferred none)) (fun e => by injection e with e; omega)).cell
    refine ⟨by simp, .inl ⟨_, _, rfl, run_takeDeferred hK, ?_⟩⟩
    refine ⟨.slice (some ⟨g, 0, none⟩) ys.length c', by simp [results, Try.results195, go_sem, hR], ?_⟩
    unfold IsNext
    rw [h2]
    exact ⟨g, c', rfl, own_mono (ownsRow_putObj h4 _ hK rfl) (by omega), h5.trans (belowK_b (w := w) (Nat.le_refl _) W D _ _ (by omega) hK rfl rfl)⟩

theorem nextDegrees (A : Option Addr) (xs : List Int) (c : Nat) (w : World) (ht : Hid (M.isTree xs = true)) (hcl : xs.length ≤ c) (hcu : c ≤ 9223372036854775807) (hI : Hid (Ints w w.heap.size A xs)) :
    Calls Try.prog 195 #[.slice A xs.length c] w fun e w' => IsNext w w.heap.size xs e w' :=
  (callsIn_wide (n := 5)).1 (nextDegrees_in A xs c w ht hcl hcu hI)
end Go.Proofs.Ytimjcdjeeocffaa
