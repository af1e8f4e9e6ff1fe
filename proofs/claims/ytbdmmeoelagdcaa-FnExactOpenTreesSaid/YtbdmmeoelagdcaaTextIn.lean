/- textOf: the text of a tree (a call of itself in the body of a range over a function). -/
import Derived.Test.YtbdmmeoelagdcaaText
import Derived.Test.YtbdmmeoelagdcaaPost
import Derived.Test.YtbdmmeoelagdcaaCopy
import Derived.Shelf.RegionOpen
namespace Go.Proofs.Ytbdmmeoelagdcaa
open Go.RowKit Go.Shelf Go.Maps
attribute [local go_sem] Oper.semAt_some

theorem keepsOthers_below {W W' : World} (h : Below W.heap.size W W') : KeepsOthers W W' := ⟨h.size, fun k _ hk _ => (h.block k (Array.getElem?_eq_some_iff.1 hk).1).trans hk⟩

/-- what textOf must do with trees of at most f nodes -/
def TextAt (f : Nat) : Prop := ∀ (A : Option Addr) (xs : List Int) (c : Nat) (w : World), Hid (M.isTree xs = true) → xs.length ≤ f → xs.length ≤ c → c ≤ 9223372036854775807 → Hid (Ints w w.heap.size A xs) →
  Calls Try.prog 79 #[.slice A xs.length c] w fun e w' => e = .returned (.string (M.textL f xs)) ∧ Hid (Below w.heap.size w w')

set_option maxRecDepth 100000 in
set_option maxHeartbeats 4000000 in
theorem textOf_step (f : Nat) (ih : Hid (TextAt f)) (A : Option Addr) (xs : List Int) (c d : Nat) (w : World) (ht : Hid (M.isTree xs = true)) (hf : xs.length ≤ f + 1) (hcl : xs.length ≤ c) (hcu : c ≤ 9223372036854775807) (hd : Hid (xs[0]? = some (d : Int))) (hI : Hid (Ints w w.heap.size A xs)) :
    CallsIn Fence.wide 5 Try.prog 79 #[.slice A xs.length c] w fun e w' => e = .returned (.string (M.textL (f + 1) xs)) ∧ Hid (Below w.heap.size w w') := by
  have hx := (M.tree_len ht.out).2
  have hd24 : d ≤ 24 := by have := (M.tree_deg ht.out hd.out).2; omega
  obtain ⟨b, off, rfl, _⟩ := hI.out (by have := (M.tree_len ht.out).1; omega)
  refine callsIn_of_wp_marks Try.func79 rfl trivial ?_ rfl
  simp only [Try.ntmps79, List.size_toArray, List.length_cons, List.length_nil, Nat.reduceAdd, Nat.reduceSub, Array.replicate_succ, Array.replicate_zero, List.push_toArray, List.append_toArray, List.nil_append, List.cons_append]
  gi_wp2_with (refine ⟨trivial, ?_⟩; gi_at_call 135; refine (eachIn 4 (some ⟨b, off, none⟩) xs.length c 0 _).mono ?_; rintro e w' ⟨rfl, rfl⟩)
  have bG0 := Boxed.new w 23 (.slice (some ⟨b, off, none⟩) xs.length c)
  have bT0 := Boxed.new (w.alloc (.cells #[.slice (some ⟨b, off, none⟩) xs.length c] 23)) 9 (.string ⟨#[40]⟩)
  have bD0 := Boxed.new ((w.alloc (.cells #[.slice (some ⟨b, off, none⟩) xs.length c] 23)).alloc (.cells #[.string ⟨#[40]⟩] 9)) 23 (.slice (some ⟨b, off, none⟩) xs.length c)
  have bA0 := Boxed.new (((w.alloc (.cells #[.slice (some ⟨b, off, none⟩) xs.length c] 23)).alloc (.cells #[.string ⟨#[40]⟩] 9)).alloc (.cells #[.slice (some ⟨b, off, none⟩) xs.length c] 23)) 2 (.int .i64 0)
  simp only [World.size_alloc] at bT0 bD0 bA0
  have bG := ((bG0.alloc (.cells #[.string ⟨#[40]⟩] 9)).alloc (.cells #[.slice (some ⟨b, off, none⟩) xs.length c] 23)).alloc (.cells #[.int .i64 0] 2)
  have bT := (bT0.alloc (.cells #[.slice (some ⟨b, off, none⟩) xs.length c] 23)).alloc (.cells #[.int .i64 0] 2)
  have bD := bD0.alloc (.cells #[.int .i64 0] 2)
  have hB0 := bal (bal (bal (bal (b0 w) (.cells #[.slice (some ⟨b, off, none⟩) xs.length c] 23)) (.cells #[.string ⟨#[40]⟩] 9)) (.cells #[.slice (some ⟨b, off, none⟩) xs.length c] 23)) (.cells #[.int .i64 0] 2)
  obtain ⟨W0, hW0⟩ : ∃ W0, W0 = ((((w.alloc (.cells #[.slice (some ⟨b, off, none⟩) xs.length c] 23)).alloc (.cells #[.string ⟨#[40]⟩] 9)).alloc (.cells #[.slice (some ⟨b, off, none⟩) xs.length c] 23)).alloc (.cells #[.int .i64 0] 2)) := ⟨_, rfl⟩
  have hsz : W0.heap.size = w.heap.size + 1 + 1 + 1 + 1 := by rw [hW0]; simp
  rw [← hW0] at bG bT bD bA0 hB0 ⊢
  clear hW0 bG0 bT0 bD0
  have hKb := KeepK.b (n₀ := w.heap.size) (Bd := w.heap.size + 1 + 1) (w := W0) (by omega) (by omega)
  have h15 : 1 ≤ 5 := by omega
  refine wpIn_rangeFunc_ownG (α := Nat) rfl h15 (gf := 162) (lb := #[.pointer (some ⟨w.heap.size + 1 + 1 + 1, 0, none⟩), .pointer (some ⟨w.heap.size + 1 + 1, 0, none⟩)]) rfl trivial (enters_of Try.func162 (by kernel_rfl) rfl)
    (each_stopsF (fun i => i) (fun x => #[.int .i64 (x : Int), .int .i64 (kidO xs 0 d x : Int)]) 4 (by omega) (w.heap.size + 1 + 1 + 1) (w.heap.size + 1 + 1) w.heap.size (some ⟨b, off, none⟩) xs c 0 d hx hcl hcu ht hd (fun k hk => by rw [kidO_at xs hk]) W0 bA0.cell bD (hI.out.below hB0 (Nat.le_refl _)) (by omega)) (fun h k => h.t k) hKb (Below.refl _ _) (fun _ => rfl)
    (fun pre W => (∃ s : ByteArray, Boxed W (w.heap.size + 1) 9 (.string s) ∧ (pre = List.range pre.length → pre.length ≤ d → s = M.textK f xs pre.length) ∧ s.size ≤ 1 + 50 * pre.length) ∧
      Boxed W w.heap.size 23 (.slice (some ⟨b, off, none⟩) xs.length c) ∧ Boxed W (w.heap.size + 1 + 1) 23 (.slice (some ⟨b, off, none⟩) xs.length c) ∧ Below w.heap.size w W)
    (fun _ _ _ => False)
    (fun pre X Y r' ⟨⟨s, h1, h2, h3⟩, h6, h7, h8⟩ hg hr =>
      ⟨⟨s, h1.kept hg (fun e => by have := (hr _ e.symm).1; omega), h2, h3⟩, h6.kept hg (fun e => by have := (hr _ e.symm).1; omega), h7.kept hg (fun e => by have := (hr _ e.symm).1; omega), h8.grown hg h8.size (fun k e => by have := (hr _ e).1; omega)⟩)
    (fun _ _ _ _ _ hs _ _ => hs)
    ⟨⟨_, bT, fun _ _ => rfl, by decide⟩, bG, bD, hB0⟩
    (fun x => { tmps := #[.slice (some ⟨b, off, none⟩) xs.length c, .pointer (some ⟨w.heap.size, 0, none⟩), .string ⟨#[]⟩, .pointer (some ⟨w.heap.size + 1, 0, none⟩), undef, .int .i64 (kidO xs 0 d x : Int), .slice (some ⟨b, off, none⟩) xs.length c, .func (.func 162) #[] #[.pointer (some ⟨w.heap.size + 1 + 1 + 1, 0, none⟩), .pointer (some ⟨w.heap.size + 1 + 1, 0, none⟩)], .int .i64 (x : Int), .int .i64 (kidO xs 0 d x : Int), undef, undef, undef, undef, undef, undef, undef, undef], defers := [] }) ?assign ?body ?done ?stop
  case assign =>
    intro l x W K hK
    gi_wp2
    exact hK
  case body =>
    rintro l pre x W ⟨⟨s, h1, h2, h3⟩, h6, h7, h8⟩ hlt
    have hmin : min x (d - 1) < d := by omega
    have hCl : kidO xs 0 d x < xs.length := M.kid_lt ht.out hd.out (i := min x (d - 1)) (by omega)
    have hCs : (M.sub xs (kidO xs 0 d x)).length < xs.length := M.sub_short ht.out hd.out (i := min x (d - 1)) hmin
    have hWsz := h8.size
    have hkey : Hid (pre ++ [x] = List.range (pre ++ [x]).length → (pre ++ [x]).length ≤ d → s ++ M.textL f (M.sub xs (kidO xs 0 d x)) = M.textK f xs (pre ++ [x]).length) := fun e hd' => by
      simp only [List.length_append, List.length_cons, List.length_nil, Nat.zero_add] at e hd' ⊢
      rw [List.range_succ] at e
      obtain ⟨e1, e2⟩ := List.append_inj' e rfl
      injection e2 with e2
      rw [h2 e1 (by omega), M.textK_succ, ← kidO_at xs (by omega), ← e2]
    generalize kidO xs 0 d x = C at *
    have hW : Hid (Ints W W.heap.size (some ⟨b, off, none⟩) xs) := (hI.out.below h8 (Nat.le_refl _)).more hWsz
    obtain ⟨S, hS⟩ : ∃ S, Hid ((M.sub xs C).length = S) := ⟨_, rfl⟩
    obtain ⟨T, hT⟩ : ∃ T, Hid (M.textL f (M.sub xs C) = T) := ⟨_, rfl⟩
    rw [hT.out] at hkey
    have HP : Hid (∀ W', Hid (Below W.heap.size W W') → Calls Try.prog 80 #[.slice (some ⟨b, off, none⟩) xs.length c, .int .i64 (C : Int)] W' fun e w' => e = .returned (.slice (some ⟨b, off + C, none⟩) S S) ∧ W' = w') := fun W' hW' =>
      (partAt _ xs c C (C + S) W' (by show _ = _; rw [← hS.out, M.sub_length]) hx hcl hcu (Lib.hid (M.tree_ok ht.out hCl)) (hW.out.be hW'.out)).mono fun e w' ⟨⟨b', off', hA, he⟩, hw⟩ => ⟨by
        injection hA with hA
        injection hA with e1 e2
        rw [he, Nat.add_sub_cancel_left, e1, e2], hw⟩
    have HX : Hid (∀ W', Hid (Below W.heap.size W W') → Calls Try.prog 79 #[.slice (some ⟨b, off + C, none⟩) S S] W' fun e w' => e = .returned (.string T) ∧ Hid (Below W.heap.size W w')) := fun W' hW' => by
      have := ih.out (some ⟨b, off + C, none⟩) (M.sub xs C) S W' (Lib.hid (M.sub_tree ht.out hCl)) (by omega) (by have := hS.out; omega) (by have := hS.out; omega) (ints_sub (hW.out.be hW'.out) C _)
      rw [hS.out, hT.out] at this
      exact this.mono fun e w' ⟨he, hb⟩ => ⟨he, hW'.out.trans (hb.out.mono hW'.out.size)⟩
    have HB : Hid (∀ W', Hid (Below W.heap.size W W') → Boxed W' (w.heap.size + 1) 9 (.string s) ∧ Boxed W' w.heap.size 23 (.slice (some ⟨b, off, none⟩) xs.length c)) := fun W' hW' => ⟨(hW'.out.block _ h1.lt).trans h1, (hW'.out.block _ h6.lt).trans h6⟩
    have c1' := h1.cell
    have c2' := h6.cell
    have hTs : T.size ≤ 50 := by have := M.textL_size f _ (M.sub_tree ht.out hCl) (by omega); rw [hT.out] at this; omega
    have hsT : ¬ 9223372036854775807 < s.size + T.size := by omega
    have hmix : Try.prog.follows .mixedOrders = true := by kernel_rfl
    clear hT hS h2
    gi_wp2
    gi_region_with_o (first | (refine ⟨trivial, ?_⟩; gi_at_call 80; refine (CallsIn.inRound l (callsIn_wide.2 (HP.out _ ((Below.refl _ _).drew)))).mono ?_; rintro e W1 ⟨rfl, rfl⟩) | (refine ⟨trivial, ?_⟩; gi_at_call 79; refine (CallsIn.inRound l (callsIn_wide.2 (HX.out _ ((Below.refl _ _).drew)))).mono ?_; rintro e W2 ⟨rfl, hb2⟩; have k1 := (HB.out _ hb2).1.cell; have f1 := (HB.out _ hb2).1.frozen))
    all_goals
      have h7b : Boxed W2 (w.heap.size + 1 + 1) 23 (.slice (some ⟨b, off, none⟩) xs.length c) := (hb2.out.block _ h7.lt).trans h7
      have k7 : Boxed (W2.setCell ⟨w.heap.size + 1, 0, none⟩ (.string (s ++ T))) (w.heap.size + 1 + 1) 23 (.slice (some ⟨b, off, none⟩) xs.length c) := h7b.other (by omega) _
      have kB : Below w.heap.size W (W2.setCell ⟨w.heap.size + 1, 0, none⟩ (.string (s ++ T))) := below_setCell (hb2.out.mono hWsz) (by omega) _
      refine ⟨((keepsOthers_below hb2.out).trans (KeepsOthers.setCell _ _ _)).from _, ⟨kB, k7.trans (show W.heap[_]? = _ from h7).symm⟩, ⟨_, (HB.out _ hb2).1.set _, hkey.out, ?_⟩, (HB.out _ hb2).2.other (by omega) _, k7, h8.trans kB⟩
      simp only [ByteArray.size_append, List.length_append, List.length_cons, List.length_nil]
      omega
  case done =>
    rintro D ys0 W hD rfl ⟨⟨s, h1, h2, h3⟩, h6, h7, h8⟩ hK
    have hs := h2 (by simp) (by simp)
    simp only [List.length_range, List.map_id'] at hs
    have hpo : Hid (M.textL (f + 1) xs = s ++ ⟨#[41]⟩) := by show _ = _; rw [M.textL_at hd.out, hs]
    have c1' := h1.cell
    have HK := Lib.hid hK
    have H8 := Lib.hid h8
    have hs1 : ¬ 9223372036854775807 < s.size + 1 := by simp at h3; omega
    clear hs h1 h2 h3 h6 h7 hK h8
    gi_wp2
    refine ⟨by simp, .inl ⟨_, _, rfl, run_takeDeferred HK.out, ?_⟩⟩
    refine ⟨_, results_tmp rfl _ _ _, ?_, H8.out.trans (belowK_b (w := w) (Nat.le_refl _) W D _ _ (by omega) HK.out rfl rfl)⟩
    rw [hpo.out]
    rfl
  case stop =>
    rintro D cc pre W _ _ h _
    exact h.elim

theorem textOf (A : Option Addr) (xs : List Int) (c : Nat) (w : World) (f : Nat) (ht : Hid (M.isTree xs = true)) (hf : xs.length ≤ f) (hcl : xs.length ≤ c) (hcu : c ≤ 9223372036854775807) (hI : Hid (Ints w w.heap.size A xs)) :
    Calls Try.prog 79 #[.slice A xs.length c] w fun e w' => e = .returned (.string (M.textL f xs)) ∧ Hid (Below w.heap.size w w') := by
  have h : ∀ f, TextAt f := by
    intro f
    induction f with
    | zero => intro A xs c w ht hf; have := (M.tree_len ht.out).1; omega
    | succ f ih =>
      intro A xs c w ht hf hcl hcu hI
      obtain ⟨d, hd, _⟩ := M.tree_degN ht.out (v := 0) (by have := (M.tree_len ht.out).1; omega)
      exact (callsIn_wide (n := 5)).1 (textOf_step f (Lib.hid ih) A xs c d w ht hf hcl hcu hd hI)
  exact h f A xs c w ht hf hcl hcu hI
end Go.Proofs.Ytbdmmeoelagdcaa
