/- childrenIn: the children of a node in a row of its own; l01Children: the same. -/
import Derived.Test.YtdgcjkgbglofbaaEach
import Derived.Maps.AppendAt
namespace Go.Proofs.Ytdgcjkgbglofbaa
open Go.RowKit Go.Shelf
attribute [local go_sem] Oper.semAt_some

/-- the children, as numbers -/
def kidsI (pre : List (Nat × Nat)) : List Int := pre.map fun x => (x.2 : Int)
theorem kidsI_snoc (pre : List (Nat × Nat)) (x : Nat × Nat) : kidsI (pre ++ [x]) = kidsI pre ++ [(x.2 : Int)] := by simp [kidsI]
theorem kidsI_length (pre : List (Nat × Nat)) : (kidsI pre).length = pre.length := by simp [kidsI]

theorem keepK_appended {W w1 : World} {n₀ B Bd : Nat} {tmp : Obj} {v v' : Value} {u : Value} {n : Nat} {xs : List Value} (hB : Below n₀ W (w1.setCell ⟨B, 0, none⟩ v')) (hgrow : (W.alloc tmp).grownBy w1 v.ownBlock)
    (hrow : W.ownsRow n₀ 2 1 v n xs) (hd : Boxed W Bd 24 u) (hne : Bd ≠ B) : KeepK n₀ Bd W (w1.setCell ⟨B, 0, none⟩ v') := by
  have h1 : Boxed w1 Bd 24 u := (hd.alloc tmp).kept hgrow (hd.not_row (by decide) hrow)
  exact ⟨hB, (show Boxed _ Bd _ u from h1.other hne v').trans (show W.heap[Bd]? = _ from hd).symm⟩

set_option maxRecDepth 100000 in
set_option maxHeartbeats 2000000 in
theorem childrenIn_in (A : Option Addr) (xs : List Int) (c v d : Nat) (w : World) (hx : xs.length ≤ 24) (hcl : xs.length ≤ c) (hcu : c ≤ 9223372036854775807) (ht : Hid (M.isTree xs = true)) (hd : Hid (xs[v]? = some (d : Int))) (hI : Ints w w.heap.size A xs) :
    CallsIn Fence.wide 5 Try.prog 177 #[.slice A xs.length c, .int .i64 v] w fun e w' => ∃ u, e = .returned u ∧ w'.ownsRow w.heap.size 2 1 u (kidsI (kids xs v d)).length ((kidsI (kids xs v d)).map (Value.int .i64)) ∧ Below w.heap.size w w' := by
  obtain ⟨i0, hi0, hz0, hz1, hz2⟩ := info_parts info64
  have hd24 : d ≤ 24 := by have := (M.tree_deg ht.out hd.out).2; omega
  refine callsIn_of_wp_marks Try.func177 rfl trivial ?_ rfl
  simp only [Try.ntmps177, List.size_toArray, List.length_cons, List.length_nil, Nat.reduceAdd, Nat.reduceSub, Array.replicate_succ, Array.replicate_zero, List.push_toArray, List.append_toArray, List.nil_append, List.cons_append]
  gi_wp2_with (refine ⟨trivial, ?_⟩; gi_at_call 275; refine (eachIn 4 A xs.length c v _).mono ?_; rintro e w' ⟨rfl, rfl⟩)
  have bO := Boxed.new w 24 (.slice none 0 0)
  have bD := Boxed.new (w.alloc (.cells #[.slice none 0 0] 24)) 24 (.slice A xs.length c)
  have bV := Boxed.new ((w.alloc (.cells #[.slice none 0 0] 24)).alloc (.cells #[.slice A xs.length c] 24)) 2 (.int .i64 v)
  simp only [World.size_alloc] at bD bV
  have hB0 := bal (bal (bal (b0 w) (.cells #[.slice none 0 0] 24)) (.cells #[.slice A xs.length c] 24)) (.cells #[.int .i64 v] 2)
  have hKb := KeepK.b (n₀ := w.heap.size) (Bd := w.heap.size + 1) (w := ((w.alloc (.cells #[.slice none 0 0] 24)).alloc (.cells #[.slice A xs.length c] 24)).alloc (.cells #[.int .i64 v] 2)) (by simp; omega) (by simp)
  have h15 : 1 ≤ 5 := by omega
  refine wpIn_rangeFunc_ownG (α := Nat × Nat) rfl h15 (gf := 332) (lb := #[.pointer (some ⟨w.heap.size + 2, 0, none⟩), .pointer (some ⟨w.heap.size + 1, 0, none⟩)]) rfl trivial (enters_of Try.func332 (by kernel_rfl) rfl)
    (each_stops 4 (by omega) (w.heap.size + 2) (w.heap.size + 1) w.heap.size A xs c v d hx hcl hcu ht hd _ bV.cell (bD.alloc _) (hI.below hB0 (Nat.le_refl _)) (by simp; omega)) (fun h k => h.t k) hKb (Below.refl _ _) (fun _ => rfl)
    (fun pre W => (∃ u, Boxed W w.heap.size 24 u ∧ W.ownsRow w.heap.size 2 1 u (kidsI pre).length ((kidsI pre).map (Value.int .i64)) ∧ True) ∧ Boxed W (w.heap.size + 1) 24 (.slice A xs.length c) ∧ Below w.heap.size w W)
    (fun _ _ _ => False)
    (OwnFrom.and (Own.from (holdsRow_own w.heap.size w.heap.size 24 2 1 (fun pre => (kidsI pre).length) (fun pre => (kidsI pre).map (Value.int .i64)) (fun _ _ => True)) _) (OwnFrom.and (Own.from (boxed_own (w.heap.size + 1) 24 (fun _ => .slice A xs.length c)) _) (ownFrom_below (Nat.le_refl _) (by simp; omega))))
    (fun _ _ _ _ _ hs _ _ => hs)
    ⟨⟨_, (bO.alloc _).alloc _, World.ownsRow_nil _ _ _ _, trivial⟩, bD.alloc _, hB0⟩
    (fun x => { tmps := #[.slice A xs.length c, .int .i64 v, undef, undef, .slice none 0 0, .pointer (some ⟨w.heap.size, 0, none⟩), undef, .int .i64 (x.2 : Int), .slice A xs.length c, .int .i64 v, .func (.func 332) #[] #[.pointer (some ⟨w.heap.size + 2, 0, none⟩), .pointer (some ⟨w.heap.size + 1, 0, none⟩)], .int .i64 (x.1 : Int), .int .i64 (x.2 : Int), undef, undef, undef, undef, undef], defers := [] }) ?assign ?body ?done ?stop
  case assign =>
    intro l x W K hK
    gi_wp2
    exact hK
  case body =>
    rintro l pre x W ⟨⟨u, hu, hrow, _⟩, hbd, hB⟩ hlt
    have hc := hu.cell
    have hpl := kidsI_length pre
    have hpl2 : (kidsI pre).length ≤ 24 := by omega
    clear hpl
    gi_wp2_with (gi_at_builtin; refine wpListIn_append_own _ rfl _ _ 24 rfl w.heap.size 2 i0 (.int .i64 0) 1 8 Try.underlying24 hi0 hz0 hz1 hz2 rfl (by decide) _ _ _ rfl (hrow.alloc _) ⟨W.heap.size, 0, none⟩ 1 1 [.int .i64 (x.2 : Int)] rfl rfl (cell_one_new _ _ _) (by simp [Value.oneCell']) (by unfold maxLen; omega) (by omega) (by have := hB.size; simp; omega) ?_; intro v' w1 hown' hgrow _; obtain ⟨g', cap', rfl⟩ := ownsRow_succ hown'; obtain ⟨hv1, hv2, hr2, hk2, hb2⟩ := hu.appended (by decide) hrow hB.size (Nat.le_refl _) hown' hgrow; have hc1 := hv1.cell; have hf1 := hv1.frozen)
    have hkk := keepK_appended hb2 hgrow hrow hbd (by omega)
    exact ⟨hk2.from _, hkk, ⟨_, hv2, by rw [kidsI_snoc]; simpa using hr2, trivial⟩, hkk.2.trans hbd, hB.trans hb2⟩
  case done =>
    rintro D ys W hD rfl ⟨⟨u, hu, hrow, _⟩, hbd, hB⟩ hK
    have hc := hu.cell
    gi_wp2
    refine ⟨by simp, .inl ⟨_, _, rfl, run_takeDeferred hK, ?_⟩⟩
    exact ⟨_, results_tmp rfl _ _ _, u, rfl, ownsRow_putObj hrow _ hK rfl, hB.trans (belowK_b (w := w) (Nat.le_refl _) W D _ _ (by simp at hD; omega) hK rfl rfl)⟩
  case stop =>
    rintro D c pre W _ _ h _
    exact h.elim

theorem kidsI_kids (xs : List Int) (v k : Nat) : kidsI (kids xs v k) = M.childs xs v k := by simp [kidsI, kids, M.childs]

theorem childrenIn (A : Option Addr) (xs : List Int) (c v d : Nat) (w : World) (hx : xs.length ≤ 24) (hcl : xs.length ≤ c) (hcu : c ≤ 9223372036854775807) (ht : Hid (M.isTree xs = true)) (hd : Hid (xs[v]? = some (d : Int))) (hI : Ints w w.heap.size A xs) :
    Calls Try.prog 177 #[.slice A xs.length c, .int .i64 v] w fun e w' => ∃ A' c', e = .returned (.slice A' d c') ∧ Own64 w' w.heap.size (.slice A' d c') (M.childs xs v d) ∧ Below w.heap.size w w' := by
  refine ((callsIn_wide (n := 5)).1 (childrenIn_in A xs c v d w hx hcl hcu ht hd hI)).mono ?_
  rintro e w' ⟨u, rfl, ho, hb⟩
  rw [kidsI_kids, M.childs_length] at ho
  obtain ⟨A', c', rfl⟩ := own_shape ho
  exact ⟨A', c', rfl, by unfold Own64; rw [M.childs_length]; exact ho, hb⟩

set_option maxHeartbeats 2000000 in
theorem l01Children (A : Option Addr) (xs : List Int) (c v d : Nat) (w : World) (hx : xs.length ≤ 24) (ht : Hid (M.isTree xs = true)) (hd : Hid (xs[v]? = some (d : Int))) (h : Ints w w.heap.size A xs) :
    Calls Try.prog 178 #[.agg #[.slice A xs.length c], .int .i64 v] w fun e w' => ∃ A' c', e = .returned (.slice A' d c') ∧ Own64 w' w.heap.size (.slice A' d c') (M.childs xs v d) ∧ Below w.heap.size w w' := by
  have hv : v < xs.length := (List.getElem?_eq_some_iff.1 hd.out).1
  have hd24 : d ≤ 24 := by have := (M.tree_deg ht.out hd.out).2; omega
  have Hh := Lib.hid h
  obtain ⟨b, off, rfl, hbB, hcells⟩ := h (by omega)
  have hc0 := hcells v _ hd.out
  clear hcells
  go_enter Try.func178, Try.ntmps178
  go_wp2
  go_loopw [5, 6, 7] (fun q at_ i wr => ∃ (k : Nat) (A' : Option Addr) (n c' : Nat), k ≤ d ∧ i = .int .i64 ((d : Int) - k) ∧ at_ = .int .i64 (M.kidAt xs v k) ∧ q = .slice A' n c' ∧ Hid (Own64 wr (w.heap.size + 1) (.slice A' n c') (M.childs xs v k)) ∧ Hid (Below (w.heap.size + 1) (w.alloc (.cells #[.slice (some ⟨b, off, none⟩) xs.length c] 26)) wr)) (fun _ _ i _ => (intOf i).toNat)
  case atStart => exact ⟨0, some ⟨w.heap.size + 1, 0, none⟩, 0, 0, Nat.zero_le _, by go_num, by simp [M.kidAt], rfl, by have := own64_empty (w := w.alloc (.cells #[.slice (some ⟨b, off, none⟩) xs.length c] 26)) (B := w.heap.size + 1) (by simp); exact Lib.hid (by simpa [M.childs] using this), (Below.refl _ _).alloc (by simp) _⟩
  case round =>
    obtain ⟨k, A', n, c', hk, rfl, rfl, rfl, ho, hbr⟩ := hrel
    have hnr : n ≤ 1000000 := by have h1 := own64_len ho.out; rw [M.childs_length] at h1; omega
    clear hc0
    have hB1 := hbr.out.size
    by_cases hlt : k < d
    · have hkl := M.kid_lt ht.out hd.out (i := k) (by omega)
      have hok := Lib.hid (M.tree_ok ht.out hkl)
      have hsp := M.span_le (xs.drop (M.kidAt xs v k)) 1
      have hsp2 : (xs.drop (M.kidAt xs v k)).length ≤ xs.length := by simp
      obtain ⟨C2, hC2e⟩ : ∃ C2, Hid (M.kidAt xs v (k + 1) = C2) := ⟨_, rfl⟩
      have hks : Hid (M.kidAt xs v k + M.span 1 (xs.drop (M.kidAt xs v k)) = C2) := hC2e
      have hcs := Lib.hid (M.childs_succ xs v k)
      generalize M.kidAt xs v k = C at *
      have hC2 : C2 ≤ 48 := by have := hks.out; omega
      clear hsp hsp2
      have hB2 : w.heap.size + 1 ≤ wr.heap.size := by simpa using hB1
      have HbB := Lib.hid hbB
      clear hB1 hbB
      go_wp2_with (at_builtin; refine push64 rfl (.tmp 20) (.tmp 22) rfl wr (w.heap.size + 1) A' n c' (M.childs xs v k) (C : Int) rfl rfl ho hB2 hnr ?_; intro A2 c2 w2 ho2 hb2; have hb3 := Lib.hid (hbr.out.trans hb2.out); have hcell2 := (hb3.out.cell (p := ⟨w.heap.size, 0, none⟩) (Nat.lt_succ_self _)).trans (World.cell?_alloc_new w #[.slice (some ⟨b, off, none⟩) xs.length c] 26 0))
      have hsz2 : w.heap.size ≤ w2.heap.size := by have := hb3.out.size; simp at this; omega
      have hI2 := Lib.hid (((Hh.out.alloc (Nat.le_refl _) (.cells #[.slice (some ⟨b, off, none⟩) xs.length c] 26)).below hb3.out (Nat.le_succ _)).more hsz2)
      refine (l01End _ xs c C C2 _ hks hx hok hI2.out).mono ?_
      rintro e w3 ⟨rfl, hb⟩
      have hb4 := Lib.hid (hb3.out.trans (hb.mono (by have := hb3.out.size; simp at this; omega)))
      have ho4 := Lib.hid (own_be (own64_eq ho2.out hcs.out.symm) hb)
      clear hb
      go_wp2
      go_roundw
      case rel => exact ⟨k + 1, A2, _, c2, by omega, by go_num, by rw [hC2e.out], rfl, ho4, hb4⟩
      case measure => simp [intOf]; omega
    · obtain rfl : k = d := by omega
      go_wp2
      go_ret
      have hn := own64_len ho.out
      rw [M.childs_length] at hn
      subst hn
      exact ⟨A', c', rfl, own_mono ho.out (by omega), (bal (b0 w) _).trans (hbr.out.mono (by omega))⟩
end Go.Proofs.Ytdgcjkgbglofbaa
