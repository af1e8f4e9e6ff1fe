/- Postorder: the mathematics, and appendPostorder (a call of itself in the body of a range over a function). -/
import Derived.Test.YtmhpobgfgimfcaaMgFirstAvoiding3
import Derived.Maps.OwnIn
import Derived.Shelf.RegionOpen
namespace Go.Proofs.Ytmhpobgfgimfcaa
open Go.RowKit Go.Shelf Go.Maps
attribute [local go_sem] Oper.semAt_some

namespace M
/-- the nodes of v's subtree in postorder, f levels deep at most -/
def postGo (xs : List Int) : Nat → Nat → List Int
  | 0, _ => []
  | f + 1, v => ((List.range (deg xs v)).flatMap fun i => postGo xs f (kidAt xs v i)) ++ [(v : Int)]
/-- those of the first k children -/
def postK (xs : List Int) (f v k : Nat) : List Int := (List.range k).flatMap fun i => postGo xs f (kidAt xs v i)
theorem postK_succ (xs : List Int) (f v k : Nat) : postK xs f v (k + 1) = postK xs f v k ++ postGo xs f (kidAt xs v k) := by simp [postK, List.range_succ]
theorem postGo_at {xs : List Int} {f v d : Nat} (h : xs[v]? = some (d : Int)) : postGo xs (f + 1) v = postK xs f v d ++ [(v : Int)] := by rw [postGo, deg_at h]; rfl
theorem postGo_len {xs : List Int} (ht : isTree xs = true) : ∀ f v, v < xs.length → 24 - v ≤ f → (postGo xs f v).length = span 1 (xs.drop v) := by
  intro f
  induction f with
  | zero => intro v hv h; have := (tree_len ht).2; omega
  | succ f ih =>
    intro v hv hf
    obtain ⟨d, hd, _⟩ := tree_degN ht hv
    have hK : ∀ k, k ≤ d → (postK xs f v k).length + (v + 1) = kidAt xs v k := by
      intro k
      induction k with
      | zero => intro _; simp [postK, kidAt]
      | succ k ihk =>
        intro hk
        have hkl := kid_lt ht hd (i := k) (by omega)
        have hkv := (kid_due ht hd k (by omega)).2.2
        rw [postK_succ, List.length_append, ih _ hkl (by omega)]
        have := ihk (by omega)
        simp only [kidAt]
        omega
    have h1 := hK d (Nat.le_refl _)
    have h2 := kid_end ht hd
    rw [postGo_at hd, List.length_append, List.length_singleton]
    omega
theorem postGo_le {xs : List Int} (ht : isTree xs = true) {f v : Nat} (hv : v < xs.length) (hf : 24 - v ≤ f) : (postGo xs f v).length ≤ 24 := by
  rw [postGo_len ht f v hv hf]
  have := span_le (xs.drop v) 1
  have := (tree_len ht).2
  simp at *
  omega
end M

/-- a child, whatever the place -/
def kidO (xs : List Int) (v d x : Nat) : Nat := M.kidAt xs v (min x (d - 1))
theorem kidO_at (xs : List Int) {v d x : Nat} (h : x < d) : kidO xs v d x = M.kidAt xs v x := by rw [kidO, show min x (d - 1) = x by omega]

theorem grown_trans {X Y Z : World} {r1 r2 : Option Nat} (h : X.grownBy Y r1) (k : Y.grownBy Z r2) (hr : ∀ g, r2 = some g → some g = r1 ∨ X.heap.size ≤ g) : X.grownBy Z r1 :=
  ⟨k.os.trans h.os, k.tape.trans h.tape, k.output.trans h.output, Nat.le_trans h.size k.size, fun j hj hne =>
    (k.block j (Nat.lt_of_lt_of_le hj h.size) (fun e => by
      rcases hr j e.symm with h1 | h1
      · exact hne h1
      · omega)).trans (h.block j hj hne)⟩
theorem row_cells {W : World} {base e size k : Nat} {v : Value} {xs : List Value} (h : W.ownsRow base e size v k xs) (j : Nat) (o : Obj) (hj : v.ownBlock = some j) (ho : W.heap[j]? = some o) : o.isCells = true := by
  rcases h.2 with ⟨rfl, _⟩ | ⟨g, cap, cur, rfl, _, hg, _⟩
  · simp [Value.ownBlock] at hj
  · obtain rfl : g = j := by simpa [Value.ownBlock] using hj
    rw [hg] at ho
    cases ho
    rfl
theorem row_kept {W W' : World} {base e size k B : Nat} {v : Value} {xs : List Value} {row : Option Nat} (h : W.ownsRow base e size v k xs) (hg : W.grownBy W' row) (hr : ∀ r, row = some r → B ≤ r ∧ ∃ o : Obj, W.heap[r]? = some o ∧ o.isCells = false) : W'.ownsRow base e size v k xs := by
  refine h.kept hg ?_
  cases hv : v.ownBlock with
  | none => exact .inl rfl
  | some g =>
    refine .inr fun e' => ?_
    obtain ⟨_, o, ho, hc⟩ := hr g e'.symm
    rw [row_cells h g o hv ho] at hc
    cases hc

end Go.Proofs.Ytmhpobgfgimfcaa

/- textOf: the text of a tree (a call of itself in the body of a range over a function). -/
namespace Go.Proofs.Ytmhpobgfgimfcaa
open Go.RowKit Go.Shelf Go.Maps
attribute [local go_sem] Oper.semAt_some

theorem keepsOthers_below {W W' : World} (h : Below W.heap.size W W') : KeepsOthers W W' := ⟨h.size, fun k _ hk _ => (h.block k (Array.getElem?_eq_some_iff.1 hk).1).trans hk⟩

/-- what textOf must do with trees of at most f nodes -/
def TextAt (f : Nat) : Prop := ∀ (A : Option Addr) (xs : List Int) (c : Nat) (w : World), Hid (M.isTree xs = true) → xs.length ≤ f → xs.length ≤ c → c ≤ 9223372036854775807 → Hid (Ints w w.heap.size A xs) →
  Calls Try.prog 70 #[.slice A xs.length c] w fun e w' => e = .returned (.string (M.textL f xs)) ∧ Hid (Below w.heap.size w w')

set_option maxRecDepth 100000 in
set_option maxHeartbeats 4000000 in
theorem textOf_step (f : Nat) (ih : Hid (TextAt f)) (A : Option Addr) (xs : List Int) (c d : Nat) (w : World) (ht : Hid (M.isTree xs = true)) (hf : xs.length ≤ f + 1) (hcl : xs.length ≤ c) (hcu : c ≤ 9223372036854775807) (hd : Hid (xs[0]? = some (d : Int))) (hI : Hid (Ints w w.heap.size A xs)) :
    CallsIn Fence.wide 5 Try.prog 70 #[.slice A xs.length c] w fun e w' => e = .returned (.string (M.textL (f + 1) xs)) ∧ Hid (Below w.heap.size w w') := by
  have hx := (M.tree_len ht.out).2
  have hd24 : d ≤ 24 := by have := (M.tree_deg ht.out hd.out).2; omega
  obtain ⟨b, off, rfl, _⟩ := hI.out (by have := (M.tree_len ht.out).1; omega)
  refine callsIn_of_wp_marks Try.func70 rfl trivial ?_ rfl
  simp only [Try.ntmps70, List.size_toArray, List.length_cons, List.length_nil, Nat.reduceAdd, Nat.reduceSub, Array.replicate_succ, Array.replicate_zero, List.push_toArray, List.append_toArray, List.nil_append, List.cons_append]
  gi_wp2_with (refine ⟨trivial, ?_⟩; gi_at_call 114; refine (eachIn 4 (some ⟨b, off, none⟩) xs.length c 0 _).mono ?_; rintro e w' ⟨rfl, rfl⟩)
  have bG0 := Boxed.new w 23 (.slice (some ⟨b, off, none⟩) xs.length c)
  have bT0 := Boxed.new (w.alloc (.cells #[.slice (some ⟨b, off, none⟩) xs.length c] 23)) 9 (.string ⟨#[40]⟩)
  have bD0 := Boxed.new ((w.alloc (.cells #[.slice (some ⟨b, off, none⟩) xs.length c] 23)).alloc (.cells #[.string ⟨#[40]⟩] 9)) 23 (.slice (some ⟨b, off, none⟩) xs.length c)
  have bA0 := Boxed.new (((w.alloc (.cells #[.slice (some ⟨b, off, none⟩) xs.length c] 23)).alloc (.cells #[.string ⟨#[40]⟩] 9)).alloc (.cells #[.slice (some ⟨b, off, none⟩) xs.length c] 23)) 2 (.int .i64 0)
  simp only [World.size_alloc] at bT0 bD0 bA0
  have bG := ((bG0.alloc (.cells #[.string ⟨#[40]⟩] 9)).alloc (.cells #[.slice (some ⟨b, off, none⟩) xs.length c] 23)).alloc (.cells #[.int .i64 0] 2)
  have bT := (bT0.alloc (.cells #[.slice (some ⟨b, off, none⟩) xs.length c] 23)).alloc (.cells #[.int .i64 0] 2)
  have bD := bD0.alloc (.cells #[.int .i64 0] 2)
  have hB0 := bal (bal (bal (bal (b0 w) (.cells #[.slice (some ⟨b, off, none⟩) xs.length c] 23)) (.cells #[.string ⟨#[40]⟩] 9)) (.cells #[.slice (some ⟨b, off, none⟩) xs.length c] 23)) (.cells #[.int .i64 0] 2)
  obtain ⟨W0, hW0⟩ : ∃ W0, W0 = ((((w.alloc (.cells #[.slice (some ⟨b, off, none⟩) xs.length c] 23)).alloc (.cells #[.string ⟨#[40]⟩] 9)).alloc (.cells #[.slice (some ⟨b, off, none⟩) xs.length c] 23)).alloc (.cells #[.int .i64 0] 2)) := ⟨_, rfl⟩
  have hsz : W0.heap.size = w.heap.size + 1 + 1 + 1 + 1 := by rw [hW0]; simp
  rw [← hW0] at bG bT bD bA0 hB0 ⊢
  clear hW0 bG0 bT0 bD0
  have hKb := KeepK.b (n₀ := w.heap.size) (Bd := w.heap.size + 1 + 1) (w := W0) (by omega) (by omega)
  have h15 : 1 ≤ 5 := by omega
  refine wpIn_rangeFunc_ownG (α := Nat) rfl h15 (gf := 131) (lb := #[.pointer (some ⟨w.heap.size + 1 + 1 + 1, 0, none⟩), .pointer (some ⟨w.heap.size + 1 + 1, 0, none⟩)]) rfl trivial (enters_of Try.func131 (by kernel_rfl) rfl)
    (each_stopsF (fun i => i) (fun x => #[.int .i64 (x : Int), .int .i64 (kidO xs 0 d x : Int)]) 4 (by omega) (w.heap.size + 1 + 1 + 1) (w.heap.size + 1 + 1) w.heap.size (some ⟨b, off, none⟩) xs c 0 d hx hcl hcu ht hd (fun k hk => by rw [kidO_at xs hk]) W0 bA0.cell bD (hI.out.below hB0 (Nat.le_refl _)) (by omega)) (fun h k => h.t k) hKb (Below.refl _ _) (fun _ => rfl)
    (fun pre W => (∃ s : ByteArray, Boxed W (w.heap.size + 1) 9 (.string s) ∧ (pre = List.range pre.length → pre.length ≤ d → s = M.textK f xs pre.length) ∧ s.size ≤ 1 + 50 * pre.length) ∧
      Boxed W w.heap.size 23 (.slice (some ⟨b, off, none⟩) xs.length c) ∧ Boxed W (w.heap.size + 1 + 1) 23 (.slice (some ⟨b, off, none⟩) xs.length c) ∧ Below w.heap.size w W)
    (fun _ _ _ => False)
    (fun pre X Y r' ⟨⟨s, h1, h2, h3⟩, h6, h7, h8⟩ hg hr =>
      ⟨⟨s, h1.kept hg (fun e => by have := (hr _ e.symm).1; omega), h2, h3⟩, h6.kept hg (fun e => by have := (hr _ e.symm).1; omega), h7.kept hg (fun e => by have := (hr _ e.symm).1; omega), h8.grown hg h8.size (fun k e => by have := (hr _ e).1; omega)⟩)
    (fun _ _ _ _ _ hs _ _ => hs)
    ⟨⟨_, bT, fun _ _ => rfl, by decide⟩, bG, bD, hB0⟩
    (fun x => { tmps := #[.slice (some ⟨b, off, none⟩) xs.length c, .pointer (some ⟨w.heap.size, 0, none⟩), .string ⟨#[]⟩, .pointer (some ⟨w.heap.size + 1, 0, none⟩), undef, .int .i64 (kidO xs 0 d x : Int), .slice (some ⟨b, off, none⟩) xs.length c, .func (.func 131) #[] #[.pointer (some ⟨w.heap.size + 1 + 1 + 1, 0, none⟩), .pointer (some ⟨w.heap.size + 1 + 1, 0, none⟩)], .int .i64 (x : Int), .int .i64 (kidO xs 0 d x : Int), undef, undef, undef, undef, undef, undef, undef, undef], defers := [] }) ?assign ?body ?done ?stop
  case assign =>
    intro l x W K hK
    gi_wp2
    exact hK
  case body =>
    rintro l pre x W ⟨⟨s, h1, h2, h3⟩, h6, h7, h8⟩ hlt
    have hmin : min x (d - 1) < d := by omega
    have hCl : kidO xs 0 d x < xs.length := M.kid_lt ht.out hd.out (i := min x (d - 1)) (by omega)
    have hCs : (M.sub xs (kidO xs 0 d x)).length < xs.length := M.sub_short ht.out hd.out (i := min x (d - 1)) hmin
    have hWsz := h8.size
    have hkey : Hid (pre ++ [x] = List.range (pre ++ [x]).length → (pre ++ [x]).length ≤ d → s ++ M.textL f (M.sub xs (kidO xs 0 d x)) = M.textK f xs (pre ++ [x]).length) := fun e hd' => by
      simp only [List.length_append, List.length_cons, List.length_nil, Nat.zero_add] at e hd' ⊢
      rw [List.range_succ] at e
      obtain ⟨e1, e2⟩ := List.append_inj' e rfl
      injection e2 with e2
      rw [h2 e1 (by omega), M.textK_succ, ← kidO_at xs (by omega), ← e2]
    generalize kidO xs 0 d x = C at *
    have hW : Hid (Ints W W.heap.size (some ⟨b, off, none⟩) xs) := (hI.out.below h8 (Nat.le_refl _)).more hWsz
    obtain ⟨S, hS⟩ : ∃ S, Hid ((M.sub xs C).length = S) := ⟨_, rfl⟩
    obtain ⟨T, hT⟩ : ∃ T, Hid (M.textL f (M.sub xs C) = T) := ⟨_, rfl⟩
    rw [hT.out] at hkey
    have HP : Hid (∀ W', Hid (Below W.heap.size W W') → Calls Try.prog 71 #[.slice (some ⟨b, off, none⟩) xs.length c, .int .i64 (C : Int)] W' fun e w' => e = .returned (.slice (some ⟨b, off + C, none⟩) S S) ∧ W' = w') := fun W' hW' =>
      (partAt _ xs c C (C + S) W' (by show _ = _; rw [← hS.out, M.sub_length]) hx hcl hcu (Lib.hid (M.tree_ok ht.out hCl)) (hW.out.be hW'.out)).mono fun e w' ⟨⟨b', off', hA, he⟩, hw⟩ => ⟨by
        injection hA with hA
        injection hA with e1 e2
        rw [he, Nat.add_sub_cancel_left, e1, e2], hw⟩
    have HX : Hid (∀ W', Hid (Below W.heap.size W W') → Calls Try.prog 70 #[.slice (some ⟨b, off + C, none⟩) S S] W' fun e w' => e = .returned (.string T) ∧ Hid (Below W.heap.size W w')) := fun W' hW' => by
      have := ih.out (some ⟨b, off + C, none⟩) (M.sub xs C) S W' (Lib.hid (M.sub_tree ht.out hCl)) (by omega) (by have := hS.out; omega) (by have := hS.out; omega) (ints_sub (hW.out.be hW'.out) C _)
      rw [hS.out, hT.out] at this
      exact this.mono fun e w' ⟨he, hb⟩ => ⟨he, hW'.out.trans (hb.out.mono hW'.out.size)⟩
    have HB : Hid (∀ W', Hid (Below W.heap.size W W') → Boxed W' (w.heap.size + 1) 9 (.string s) ∧ Boxed W' w.heap.size 23 (.slice (some ⟨b, off, none⟩) xs.length c)) := fun W' hW' => ⟨(hW'.out.block _ h1.lt).trans h1, (hW'.out.block _ h6.lt).trans h6⟩
    have c1' := h1.cell
    have c2' := h6.cell
    have hTs : T.size ≤ 50 := by have := M.textL_size f _ (M.sub_tree ht.out hCl) (by omega); rw [hT.out] at this; omega
    have hsT : ¬ 9223372036854775807 < s.size + T.size := by omega
    have hmix : Try.prog.follows .mixedOrders = true := by kernel_rfl
    clear hT hS h2
    gi_wp2
    gi_region_with_o (first | (refine ⟨trivial, ?_⟩; gi_at_call 71; refine (CallsIn.inRound l (callsIn_wide.2 (HP.out _ ((Below.refl _ _).drew)))).mono ?_; rintro e W1 ⟨rfl, rfl⟩) | (refine ⟨trivial, ?_⟩; gi_at_call 70; refine (CallsIn.inRound l (callsIn_wide.2 (HX.out _ ((Below.refl _ _).drew)))).mono ?_; rintro e W2 ⟨rfl, hb2⟩; have k1 := (HB.out _ hb2).1.cell; have f1 := (HB.out _ hb2).1.frozen))
    all_goals
      have h7b : Boxed W2 (w.heap.size + 1 + 1) 23 (.slice (some ⟨b, off, none⟩) xs.length c) := (hb2.out.block _ h7.lt).trans h7
      have k7 : Boxed (W2.setCell ⟨w.heap.size + 1, 0, none⟩ (.string (s ++ T))) (w.heap.size + 1 + 1) 23 (.slice (some ⟨b, off, none⟩) xs.length c) := h7b.other (by omega) _
      have kB : Below w.heap.size W (W2.setCell ⟨w.heap.size + 1, 0, none⟩ (.string (s ++ T))) := below_setCell (hb2.out.mono hWsz) (by omega) _
      refine ⟨((keepsOthers_below hb2.out).trans (KeepsOthers.setCell _ _ _)).from _, ⟨kB, k7.trans (show W.heap[_]? = _ from h7).symm⟩, ⟨_, (HB.out _ hb2).1.set _, hkey.out, ?_⟩, (HB.out _ hb2).2.other (by omega) _, k7, h8.trans kB⟩
      simp only [ByteArray.size_append, List.length_append, List.length_cons, List.length_nil]
      omega
  case done =>
    rintro D ys0 W hD rfl ⟨⟨s, h1, h2, h3⟩, h6, h7, h8⟩ hK
    have hs := h2 (by simp) (by simp)
    simp only [List.length_range, List.map_id'] at hs
    have hpo : Hid (M.textL (f + 1) xs = s ++ ⟨#[41]⟩) := by show _ = _; rw [M.textL_at hd.out, hs]
    have c1' := h1.cell
    have HK := Lib.hid hK
    have H8 := Lib.hid h8
    have hs1 : ¬ 9223372036854775807 < s.size + 1 := by simp at h3; omega
    clear hs h1 h2 h3 h6 h7 hK h8
    gi_wp2
    refine ⟨by simp, .inl ⟨_, _, rfl, run_takeDeferred HK.out, ?_⟩⟩
    refine ⟨_, results_tmp rfl _ _ _, ?_, H8.out.trans (belowK_b (w := w) (Nat.le_refl _) W D _ _ (by omega) HK.out rfl rfl)⟩
    rw [hpo.out]
    rfl
  case stop =>
    rintro D cc pre W _ _ h _
    exact h.elim

theorem textOf (A : Option Addr) (xs : List Int) (c : Nat) (w : World) (f : Nat) (ht : Hid (M.isTree xs = true)) (hf : xs.length ≤ f) (hcl : xs.length ≤ c) (hcu : c ≤ 9223372036854775807) (hI : Hid (Ints w w.heap.size A xs)) :
    Calls Try.prog 70 #[.slice A xs.length c] w fun e w' => e = .returned (.string (M.textL f xs)) ∧ Hid (Below w.heap.size w w') := by
  have h : ∀ f, TextAt f := by
    intro f
    induction f with
    | zero => intro A xs c w ht hf; have := (M.tree_len ht.out).1; omega
    | succ f ih =>
      intro A xs c w ht hf hcl hcu hI
      obtain ⟨d, hd, _⟩ := M.tree_degN ht.out (v := 0) (by have := (M.tree_len ht.out).1; omega)
      exact (callsIn_wide (n := 5)).1 (textOf_step f (Lib.hid ih) A xs c d w ht hf hcl hcu hd hI)
  exact h f A xs c w ht hf hcl hcu hI
end Go.Proofs.Ytmhpobgfgimfcaa

/- The code of a tree, a pattern and nodes; whether a pattern matches at a node. -/
namespace Go.Proofs.Ytmhpobgfgimfcaa
open Go.RowKit

/-- texts of trees are read as pieces -/
theorem M.text_close : ∀ (f : Nat) (xs : List Int), M.isTree xs = true → xs.length ≤ f → ∀ (r : List UInt8), (∀ o, M.close ((M.textL f xs).data.toList ++ r) (o + 1) = M.close r (o + 1)) ∧ M.piece ((M.textL f xs).data.toList ++ r) = some r := by
  intro f
  induction f with
  | zero => intro xs ht h; have := (M.tree_len ht).1; omega
  | succ f ih =>
    intro xs ht hf r
    have hl := M.tree_len ht
    obtain ⟨d, hd, _⟩ := M.tree_degN ht (v := 0) (by omega)
    have hK : ∀ k, k ≤ d → ∃ q, (M.textK f xs k).data.toList = 40 :: q ∧ ∀ (r : List UInt8) o, M.close (q ++ r) (o + 1) = M.close r (o + 1) := by
      intro k
      induction k with
      | zero => intro _; exact ⟨[], by rw [M.textK_zero], fun r o => rfl⟩
      | succ k ihk =>
        intro hk
        obtain ⟨q, h1, h2⟩ := ihk (by omega)
        have h3 := M.sub_short ht hd (i := k) (by omega)
        have h4 := M.kid_lt ht hd (i := k) (by omega)
        refine ⟨q ++ (M.textL f (M.sub xs (M.kidAt xs 0 k))).data.toList, ?_, fun r o => ?_⟩
        · rw [M.textK_succ, ByteArray.data_append, Array.toList_append, h1]; rfl
        · rw [List.append_assoc, h2, (ih _ (M.sub_tree ht h4) (by omega) r).1]
    obtain ⟨q, h1, h2⟩ := hK d (Nat.le_refl _)
    have ht2 : (M.textL (f + 1) xs).data.toList ++ r = 40 :: (q ++ (41 :: r)) := by
      rw [M.textL_at hd, ByteArray.data_append, Array.toList_append, h1]
      simp
    rw [ht2]
    exact ⟨fun o => by rw [M.close_open, h2, M.close_shut], by rw [M.piece_open, h2, M.close_shut, M.close_zero]⟩
theorem M.text_piece {f : Nat} {xs : List Int} (ht : M.isTree xs = true) (hf : xs.length ≤ f) : M.piece (M.textL f xs).data.toList = some [] := by
  have := (M.text_close f xs ht hf []).2
  rwa [List.append_nil] at this

/-- the code of a tree, a pattern and nodes -/
def codeP (xs : List Int) (b : Bool) (ns : List Int) : Int := if M.isTree xs then (if b then M.code xs ns else 6) else 1
theorem codeP_zero {xs : List Int} {b : Bool} {ns : List Int} (h : codeP xs b ns = 0) : M.isTree xs = true ∧ b = true ∧ M.code xs ns = 0 := by
  rw [codeP] at h
  cases ht : M.isTree xs
  · rw [ht] at h; simp at h
  · cases b
    · rw [ht] at h; simp at h
    · rw [ht] at h; simpa using h
theorem code_range {xs ns : List Int} (ht : M.isTree xs = true) : M.code xs ns = 0 ∨ M.code xs ns = 2 := by
  rw [M.code, if_pos ht]
  generalize (xs.length : Int) = n
  induction ns with
  | nil => exact .inl rfl
  | cons v r ih =>
    rw [M.codeGo]
    split
    · exact .inr rfl
    · exact ih

set_option maxHeartbeats 1000000 in
theorem codeOfMatch (A An : Option Addr) (xs ns : List Int) (c cn : Nat) (p : ByteArray) (w : World) (hx : xs.length ≤ 1000000000000) (hns : ns.length ≤ 1000) (hp : p.size ≤ 1048576) (h : Ints w w.heap.size A xs) (hn : Ints w w.heap.size An ns) :
    Calls Try.prog 64 #[.agg #[.slice A xs.length c], .string p, .slice An ns.length cn] w fun e w' => e = .returned (.int .i64 (codeP xs (M.isPat p.data.toList) ns)) ∧ Hid (Below w.heap.size w w') := by
  have hT := Lib.hid (implIsTree A xs c (w.alloc (.cells #[.slice A xs.length c] 29)) hx (h.al _))
  have hP : Hid (∀ W, Calls Try.prog 17 #[.string p] W fun e w' => e = .returned (.bool (M.isPat p.data.toList)) ∧ Hid (Below W.heap.size W w')) := fun W => impl_IsPattern p W hp
  have hC : Hid (∀ W, Below w.heap.size w W → Calls Try.prog 101 #[.agg #[.slice A xs.length c], .slice An ns.length cn] W fun e w' => e = .returned (.int .i64 (M.code xs ns)) ∧ Below W.heap.size W w') := fun W hb => codeOf A An xs ns c cn W hx hns (h.be hb) (hn.be hb) _ rfl
  rw [codeP]
  generalize M.isPat p.data.toList = b at *
  generalize M.code xs ns = r at *
  generalize M.isTree xs = t at *
  clear h hn
  cases t
  · go_enter Try.func64, Try.ntmps64
    go_wp2_with fail
    refine hT.out.mono ?_
    rintro e w1 ⟨rfl, hb1⟩
    have hB := Lib.hid (btr (bal (b0 w) _) hb1)
    go_wp2
    go_ret
    exact ⟨rfl, hB⟩
  · cases b
    · go_enter Try.func64, Try.ntmps64
      go_wp2_with fail
      refine hT.out.mono ?_
      rintro e w1 ⟨rfl, hb1⟩
      have hB := Lib.hid (btr (bal (b0 w) _) hb1)
      clear hb1
      go_wp2_with fail
      refine (hP.out _).mono ?_
      rintro e w2 ⟨rfl, hb2⟩
      have hB2 := Lib.hid (btr hB.out hb2.out)
      go_wp2
      go_ret
      exact ⟨rfl, hB2⟩
    · go_enter Try.func64, Try.ntmps64
      go_wp2_with fail
      refine hT.out.mono ?_
      rintro e w1 ⟨rfl, hb1⟩
      have hB := Lib.hid (btr (bal (b0 w) _) hb1)
      have hcell : w1.cell? ⟨w.heap.size, 0, none⟩ = some (.slice A xs.length c) := cell_be (by simp) hb1
      clear hb1
      go_wp2_with fail
      refine (hP.out _).mono ?_
      rintro e w2 ⟨rfl, hb2⟩
      have hB2 := Lib.hid (btr hB.out hb2.out)
      have hcell2 := cell_be hcell hb2.out
      clear hb2 hB hcell
      go_wp2_with fail
      refine (hC.out _ hB2.out).mono ?_
      rintro e w3 ⟨rfl, hb3⟩
      have hB3 := Lib.hid (btr hB2.out hb3)
      go_wp2
      go_ret
      exact ⟨rfl, hB3⟩

set_option maxHeartbeats 1000000 in
theorem l04Code (A An : Option Addr) (xs ns : List Int) (c cn : Nat) (p : ByteArray) (w : World) (hx : xs.length ≤ 1000000000000) (hns : ns.length ≤ 1000) (hp : p.size ≤ 1048576) (h : Ints w w.heap.size A xs) (hn : Ints w w.heap.size An ns) :
    Calls Try.prog 60 #[.agg #[.slice A xs.length c], .string p, .slice An ns.length cn] w fun e w' => e = .returned (.int .i64 (codeP xs (M.isPat p.data.toList) ns)) ∧ Hid (Below w.heap.size w w') := by
  obtain ⟨r, hr⟩ : ∃ r, Hid (M.code xs ns = r) := ⟨_, rfl⟩
  have hC := Lib.hid (l01Nodes A An xs ns c cn (w.alloc (.cells #[.slice A xs.length c] 29)) hx hns (h.al _) (hn.al _) r hr)
  have hP : Hid (∀ W, Calls Try.prog 56 #[.string p] W fun e w' => e = .returned (.bool (M.isPat p.data.toList)) ∧ Hid (Below W.heap.size W w')) := fun W => l04Is p W hp
  rw [codeP, hr.out]
  generalize M.isPat p.data.toList = b at *
  clear h hn
  cases ht : M.isTree xs
  · have h1 : r = 1 := by rw [← hr.out, M.code, ht]; rfl
    subst h1
    go_enter Try.func60, Try.ntmps60
    go_wp2_with fail
    refine hC.out.mono ?_
    rintro e w1 ⟨rfl, hb1⟩
    have hB := Lib.hid (btr (bal (b0 w) _) hb1)
    go_wp2
    go_ret
    exact ⟨rfl, hB⟩
  · have h2 : (r != 1) = true := by
      rcases code_range (ns := ns) ht with h | h
      · rw [hr.out] at h; rw [h]; rfl
      · rw [hr.out] at h; rw [h]; rfl
    clear ht hr
    go_enter Try.func60, Try.ntmps60
    go_wp2_with fail
    refine hC.out.mono ?_
    rintro e w1 ⟨rfl, hb1⟩
    have hB := Lib.hid (btr (bal (b0 w) _) hb1)
    clear hb1
    cases b
    · go_wp2_with fail
      refine (hP.out _).mono ?_
      rintro e w2 ⟨rfl, hb2⟩
      have hB2 := Lib.hid (btr hB.out hb2.out)
      go_wp2
      go_ret
      exact ⟨rfl, hB2⟩
    · go_wp2_with fail
      refine (hP.out _).mono ?_
      rintro e w2 ⟨rfl, hb2⟩
      have hB2 := Lib.hid (btr hB.out hb2.out)
      go_wp2
      go_ret
      exact ⟨rfl, hB2⟩

/-- what a pattern has at its letters at a node, if it matches there -/
def atNode (P : List UInt8) (xs : List Int) (v : Nat) : Option (List (List UInt8)) := M.mt P (M.textL 24 (M.sub xs v)).data.toList
set_option maxRecDepth 100000 in
set_option maxHeartbeats 1000000 in
theorem matchesAt (A : Option Addr) (xs : List Int) (c v : Nat) (p : ByteArray) (w : World) (ht : Hid (M.isTree xs = true)) (hv : v < xs.length) (hcl : xs.length ≤ c) (hcu : c ≤ 9223372036854775807) (hp : p.size ≤ 60) (h : Hid (Ints w w.heap.size A xs)) :
    Calls Try.prog 65 #[.slice A xs.length c, .int .i64 (v : Int), .string p] w fun e w' => e = .returned (.bool (atNode p.data.toList xs v).isSome) ∧ Hid (Below w.heap.size w w') := by
  have hx := (M.tree_len ht.out).2
  obtain ⟨b, off, rfl, hbB, _⟩ := h.out (by omega)
  obtain ⟨E, hE⟩ : ∃ E, Hid (v + M.span 1 (xs.drop v) = E) := ⟨_, rfl⟩
  have hsl : (M.sub xs v).length = E - v := by rw [M.sub_length]; have := hE.out; omega
  have hst := M.sub_tree ht.out hv
  have hse := M.end_le (xs := xs) (v := v) (by omega)
  have hs24 : (M.sub xs v).length ≤ 24 := by have := (M.tree_len hst).2; exact this
  have hPa := Lib.hid (partAt (some ⟨b, off, none⟩) xs c v E w hE hx hcl hcu (Lib.hid (M.tree_ok ht.out hv)) h.out)
  have hTx : Hid (Calls Try.prog 70 #[.slice (some ⟨b, off + v, none⟩) (E - v) (E - v)] w fun e w' => e = .returned (.string (M.textL 24 (M.sub xs v))) ∧ Hid (Below w.heap.size w w')) := by
    have := textOf (some ⟨b, off + v, none⟩) (M.sub xs v) (E - v) w 24 (Lib.hid hst) hs24 (by omega) (by omega) (Lib.hid (ints_sub h.out v _))
    rwa [hsl] at this
  have hts : (M.textL 24 (M.sub xs v)).size ≤ 48 := by rw [M.textL_size 24 _ hst hs24]; omega
  have hMt : Hid (∀ W, Calls Try.prog 69 #[.string p, .string (M.textL 24 (M.sub xs v))] W fun e w' => ∃ (A : Option Addr) (n c : Nat), e = .returned (.tuple #[.slice A n c, .bool (atNode p.data.toList xs v).isSome]) ∧ Hid (Below W.heap.size W w')) := fun W =>
    (piecesAtLetters p _ W (by omega) (by omega)).mono fun e w' ⟨A, n, c, h1, h2, _⟩ => ⟨A, n, c, h1, h2⟩
  generalize atNode p.data.toList xs v = R at *
  clear hts hs24 hst hsl
  generalize M.textL 24 (M.sub xs v) = T at *
  clear h
  go_enter Try.func65, Try.ntmps65
  go_wp2_with fail
  refine hPa.out.mono ?_
  rintro e w1 ⟨⟨b', off', hA, rfl⟩, rfl⟩
  injection hA with hA
  injection hA with e1 e2
  subst e1 e2
  go_wp2_with fail
  refine hTx.out.mono ?_
  rintro e w2 ⟨rfl, hb2⟩
  go_wp2_with fail
  refine (hMt.out _).mono ?_
  rintro e w3 ⟨A3, n3, c3, rfl, hb3⟩
  have hB := Lib.hid (btr hb2.out hb3.out)
  go_wp2
  go_ret
  exact ⟨rfl, hB⟩
end Go.Proofs.Ytmhpobgfgimfcaa

/- TreeText, the program's and the model's: the text of a tree, or a code. -/
namespace Go.Proofs.Ytmhpobgfgimfcaa
open Go.RowKit

def F_TreeText (xs : List Int) : ByteArray × Int := if M.isTree xs then (M.textL 24 xs, 0) else (⟨#[]⟩, 1)
theorem own_cap {w : World} {B n c : Nat} {A : Option Addr} {zs : List Int} (h : Own64 w B (.slice A n c) zs) : n ≤ c := by
  rcases h.2 with ⟨e, _⟩ | ⟨g, cap, cur, hv, _, _, h4, _⟩
  · injection e with e1 e2 e3; omega
  · injection hv with e1 e2 e3; omega

/-- what the model's text must be for trees of at most f nodes -/
def TextOf (f : Nat) : Prop := ∀ (A : Option Addr) (xs : List Int) (c : Nat) (w : World), Hid (M.isTree xs = true) → xs.length ≤ f → xs.length ≤ c → Hid (Ints w w.heap.size A xs) →
  Calls Try.prog 62 #[.agg #[.slice A xs.length c]] w fun e w' => e = .returned (.string (M.textL f xs)) ∧ Hid (Below w.heap.size w w')

set_option maxRecDepth 100000 in
set_option maxHeartbeats 4000000 in
theorem l01Text_step (f : Nat) (ih : Hid (TextOf f)) : TextOf (f + 1) := by
  intro A xs c w ht hf hcl h
  have hx := (M.tree_len ht.out).2
  obtain ⟨d, hd0, hd24⟩ := M.tree_degN ht.out (v := 0) (by have := (M.tree_len ht.out).1; omega)
  have hd := Lib.hid hd0
  obtain ⟨Wb, hWb⟩ : ∃ Wb, w.alloc (.cells #[.slice A xs.length c] 29) = Wb := ⟨_, rfl⟩
  have hWs : Wb.heap.size = w.heap.size + 1 := by rw [← hWb]; simp
  have Hct : Hid (Wb.cell? ⟨w.heap.size, 0, none⟩ = some (.slice A xs.length c)) := by rw [← hWb]; simp [Hid]
  have hIb : Hid (Ints Wb Wb.heap.size A xs) := by rw [← hWb]; exact h.out.al _
  have hBb : Hid (Below w.heap.size w Wb) := by rw [← hWb]; exact bal (b0 w) _
  have hch := Lib.hid (l01Children A xs c 0 d Wb hx ht hd hIb.out)
  have hct := Hct.out
  clear hd0
  go_enter Try.func62, Try.ntmps62
  go_wp2_with fail
  refine hch.out.mono ?_
  rintro e w2 ⟨A3, c3, rfl, hok, hb2⟩
  have Hok := Lib.hid hok
  have hbW2 := Lib.hid hb2
  clear hch hct hWb h hok hb2
  go_wp2
  go_loopw [3, 5] (fun q i wr => ∃ (k : Nat), k ≤ d ∧ i = .int .i64 (k : Int) ∧ q = .string (M.textK f xs k) ∧ Hid (Own64 wr Wb.heap.size (.slice A3 d c3) (M.childs xs 0 d)) ∧ Hid (Below Wb.heap.size Wb wr)) (fun _ i _ => d - (intOf i).toNat)
  case atStart => exact ⟨0, Nat.zero_le _, rfl, rfl, Hok, hbW2⟩
  case round =>
    obtain ⟨k, hk, rfl, rfl, hrow, hbr⟩ := hrel
    have hzr := hbr.out.size
    clear Hok hbW2
    by_cases hlt : k < d
    · have hkd : (k : Int) < (d : Int) := by omega
      have hki0 : (0 : Int) ≤ (k : Int) := by omega
      obtain ⟨g3, rfl⟩ : ∃ g3, A3 = some ⟨g3, 0, none⟩ := by
        rcases hrow.out.2 with ⟨_, h0⟩ | ⟨g, cap, cur, hv, _⟩
        · rw [M.childs_length] at h0; omega
        · injection hv with e1; exact ⟨g, e1⟩
      have hkl := M.kid_lt ht.out hd.out (i := k) (by omega)
      have hks := M.sub_short ht.out hd.out hlt
      have hpk := Lib.hid (M.textK_succ f xs k)
      have hpz := M.textK_size ht.out hf hd.out k (by omega)
      have hTz := M.textL_size f _ (M.sub_tree ht.out hkl) (by omega)
      have hat := Lib.hid (M.childs_at xs 0 hlt)
      generalize M.kidAt xs 0 k = C at *
      obtain ⟨P, hP⟩ : ∃ P, M.textK f xs k = P := ⟨_, rfl⟩
      obtain ⟨T, hT⟩ : ∃ T, Hid (M.textL f (M.sub xs C) = T) := ⟨_, rfl⟩
      obtain ⟨S, hS⟩ : ∃ S, Hid ((M.sub xs C).length = S) := ⟨_, rfl⟩
      rw [hP] at hpz hpk ⊢
      rw [hT.out] at hpk hTz
      rw [hS.out] at hTz hks
      have hsz : ¬ 9223372036854775807 < P.size + T.size := by omega
      have hsub : Hid (C + M.span 1 (xs.drop C) = C + S) := by show _ = _; rw [← hS.out, M.sub_length]
      obtain ⟨g, hfz, _, hgl⟩ := own64_cell hrow.out (M.childs_length xs 0 d) hat.out
      have hct := cell_be Hct.out hbr.out
      have hK0 : Hid (Below wr.heap.size wr wr.drew) := (Below.refl _ _).drew
      have g0 : wr.drew.cell? ⟨g3, k, none⟩ = some (.int .i64 (C : Int)) := g
      have hct0 : wr.drew.cell? ⟨w.heap.size, 0, none⟩ = some (.slice A xs.length c) := hct
      have HSub : Hid (∀ W', Hid (Below wr.heap.size wr W') → Calls Try.prog 63 #[.agg #[.slice A xs.length c], .int .i64 (C : Int)] W' fun e w' => ∃ A' c', e = .returned (.agg #[.slice A' S c']) ∧ Hid (Own64 w' wr.heap.size (.slice A' S c') (M.sub xs C)) ∧ Hid (Below wr.heap.size wr w')) := fun W' hW' => by
        have := l01Subtree A xs c C (C + S) W' hx hcl ht hkl hsub ((hIb.out.be hbr.out).be hW'.out)
        rw [Nat.add_sub_cancel_left] at this
        exact this.mono fun e w' ⟨A', c', he, ho, hb⟩ => ⟨A', c', he, own_mono ho hW'.out.size, btr hW'.out hb⟩
      have HTx : Hid (∀ (A' : Option Addr) (c' : Nat) W', Hid (Below wr.heap.size wr W') → Hid (Own64 W' wr.heap.size (.slice A' S c') (M.sub xs C)) → Calls Try.prog 62 #[.agg #[.slice A' S c']] W' fun e w' => e = .returned (.string T) ∧ Hid (Below wr.heap.size wr w')) := fun A' c' W' hW' ho => by
        have := ih.out A' (M.sub xs C) c' W' (Lib.hid (M.sub_tree ht.out hkl)) (by rw [hS.out]; omega) (by rw [hS.out]; exact own_cap ho.out) (ints_of_own64 ho.out)
        rw [hS.out, hT.out] at this
        exact this.mono fun e w' ⟨he, hb⟩ => ⟨he, btr hW'.out hb.out⟩
      have HC2 : Hid (∀ W', Hid (Below wr.heap.size wr W') → W'.cell? ⟨w.heap.size, 0, none⟩ = some (.slice A xs.length c) ∧ W'.cell? ⟨g3, k, none⟩ = some (.int .i64 (C : Int))) := fun W' hW' => ⟨cell_be hct hW'.out, (hW'.out.cell (p := ⟨g3, k, none⟩) hgl).trans g⟩
      clear hP hT hS hsub hfz hks hTz hpz hkl
      go_wp2
      go_region_held3 (fun w' => w'.cell? ⟨w.heap.size, 0, none⟩ = some (.slice A xs.length c) ∧ w'.cell? ⟨g3, k, none⟩ = some (.int .i64 (C : Int))) (first | exact ⟨hct0, g0⟩ | exact HC2.out _ (by assumption)) (first | (go_at_call 63; refine (HSub.out _ hK0).mono ?_; rintro e w7 ⟨A7, c7, rfl, ho7, hb7⟩) | (go_at_call 62; refine (HTx.out _ _ _ hb7 ho7).mono ?_; rintro e w8 ⟨rfl, hb8⟩))
      have hrow8 : Hid (Own64 w8 Wb.heap.size (.slice (some ⟨g3, 0, none⟩) d c3) (M.childs xs 0 d)) := own_be hrow.out hb8.out
      have hb9 : Hid (Below Wb.heap.size Wb w8) := btr hbr.out hb8.out
      clear HSub HTx HC2 g0 hct0 g hct hK0 hb7 ho7 hrow hbr
      go_wp2
      go_roundw
      case rel => exact ⟨k + 1, by omega, by go_num, by rw [hpk.out], hrow8, hb9⟩
      case measure => simp [intOf]; omega
    · obtain rfl : k = d := by omega
      have hpo : Hid (M.textL (f + 1) xs = M.textK f xs k ++ ⟨#[41]⟩) := M.textL_at hd.out
      have hfin := Lib.hid (btr hBb.out hbr.out)
      have hge : ¬ (k : Int) < (k : Int) := by omega
      have hsz1 : ¬ 9223372036854775807 < (M.textK f xs k).size + 1 := by have := M.textK_size ht.out hf hd.out k (by omega); have := M.kids_all ht.out hd.out; omega
      generalize M.textK f xs k = P at *
      go_wp2
      go_ret
      exact ⟨by rw [hpo.out]; rfl, hfin⟩

theorem l01Text : ∀ f, TextOf f := by
  intro f
  induction f with
  | zero => intro A xs c w ht hf; have := (M.tree_len ht.out).1; omega
  | succ f ih => exact l01Text_step f (Lib.hid ih)

end Go.Proofs.Ytmhpobgfgimfcaa

/- MatchesAt, the program's and the model's. -/
namespace Go.Proofs.Ytmhpobgfgimfcaa
open Go.RowKit

def F_MatchesAt (xs : List Int) (v : Int) (p : ByteArray) : Bool × Int := if codeP xs (M.isPat p.data.toList) [v] = 0 then ((atNode p.data.toList xs v.toNat).isSome, 0) else (false, codeP xs (M.isPat p.data.toList) [v])
theorem F_MatchesAt_yes {xs : List Int} {v : Int} {p : ByteArray} (h : codeP xs (M.isPat p.data.toList) [v] = 0) : F_MatchesAt xs v p = ((atNode p.data.toList xs v.toNat).isSome, 0) := if_pos h
theorem F_MatchesAt_no {xs : List Int} {v : Int} {p : ByteArray} (h : codeP xs (M.isPat p.data.toList) [v] ≠ 0) : F_MatchesAt xs v p = (false, codeP xs (M.isPat p.data.toList) [v]) := if_neg h
/-- a tree, a number and a text to a bool and a code -/
def GivesTNS (f : Nat) (F : List Int → Int → ByteArray → Bool × Int) : Prop :=
  ∀ (A : Option Addr) (xs : List Int) (c : Nat) (v : Int) (p : ByteArray) (w : World), xs.length ≤ 1048576 → xs.length ≤ c ∧ c ≤ 1000000000000 → p.size ≤ 1048576 → Ints w w.heap.size A xs →
    Calls Try.prog f #[.agg #[.slice A xs.length c], .int .i64 v, .string p] w fun e w' => e = .returned (.tuple #[.bool (F xs v p).1, .int .i64 (F xs v p).2]) ∧ Below w.heap.size w w'
theorem pat_60 {p : ByteArray} (h : M.isPat p.data.toList = true) : p.size ≤ 60 := by rw [Lib.size_eq]; exact (M.isPat_iff.1 h).1

set_option maxRecDepth 100000 in
set_option maxHeartbeats 2000000 in
theorem impl_MatchesAt : GivesTNS 21 F_MatchesAt := by
  intro A xs c v p w hx hcc hp h
  have hC := Lib.hid (codeOfMatch A (some ⟨w.heap.size + 1, 0, none⟩) xs [v] c 1 p ((w.alloc (.cells #[.slice A xs.length c] 29)).alloc (.cells #[.int .i64 v] 2)) (by omega) (by simp) hp ((h.al _).al _) (by have := ints_new (w.alloc (.cells #[.slice A xs.length c] 29)) #[.int .i64 v] [v] rfl; simpa using this))
  simp only [List.length_cons, List.length_nil, Nat.zero_add] at hC
  obtain ⟨r, hr⟩ : ∃ r, Hid (codeP xs (M.isPat p.data.toList) [v] = r) := ⟨_, rfl⟩
  rw [hr.out] at hC
  by_cases h0 : r = 0
  · subst h0
    obtain ⟨ht, hpt, hcd⟩ := codeP_zero hr.out
    have hn := M.code_node hcd
    have hp6 := pat_60 hpt
    rw [F_MatchesAt_yes hr.out]
    obtain ⟨n, rfl⟩ := Int.eq_ofNat_of_zero_le hn.1
    have hnl : n < xs.length := by simpa using hn.2.1
    have hM : Hid (∀ W, Below w.heap.size w W → Calls Try.prog 65 #[.slice A xs.length c, .int .i64 (n : Int), .string p] W fun e w' => e = .returned (.bool (atNode p.data.toList xs n).isSome) ∧ Hid (Below W.heap.size W w')) := fun W hb =>
      matchesAt A xs c n p W (Lib.hid ht) hnl hcc.1 (by omega) hp6 (Lib.hid (h.be hb))
    simp only [Int.toNat_natCast]
    generalize (atNode p.data.toList xs n).isSome = b at *
    clear hr hn hcd ht hpt h
    go_enter Try.func21, Try.ntmps21
    go_wp2_with fail
    refine hC.out.mono ?_
    rintro e w1 ⟨rfl, hb⟩
    have hB := Lib.hid (btr (bal (bal (b0 w) _) _) hb.out)
    have hcell : w1.cell? ⟨w.heap.size, 0, none⟩ = some (.slice A xs.length c) := cell_be (cell_al (by simp) _) hb.out
    clear hb hC
    go_wp2_with fail
    refine (hM.out _ hB.out).mono ?_
    rintro e w2 ⟨rfl, hb2⟩
    have hB2 := btr hB.out hb2.out
    go_wp2
    go_ret2
    exact ⟨rfl, hB2⟩
  · rw [F_MatchesAt_no (by rw [hr.out]; exact h0), hr.out]
    have hq : (r != 0) = true := by simp [h0]
    clear hr h0 h
    go_enter Try.func21, Try.ntmps21
    go_wp2_with fail
    refine hC.out.mono ?_
    rintro e w1 ⟨rfl, hb⟩
    have hB := btr (bal (bal (b0 w) _) _) hb.out
    go_wp2
    go_ret2
    exact ⟨rfl, hB⟩

/-- the text at a node, as the model has it -/
theorem textAtNode (A : Option Addr) (xs : List Int) (c v : Nat) (w : World) (ht : Hid (M.isTree xs = true)) (hv : v < xs.length) (hcl : xs.length ≤ c) (h : Hid (Ints w w.heap.size A xs)) :
    Calls Try.prog 63 #[.agg #[.slice A xs.length c], .int .i64 (v : Int)] w fun e w' => ∃ A' n' c', e = .returned (.agg #[.slice A' n' c']) ∧ Hid (Below w.heap.size w w') ∧
      Hid (∀ W, Below w'.heap.size w' W → Calls Try.prog 62 #[.agg #[.slice A' n' c']] W fun e w2 => e = .returned (.string (M.textL 24 (M.sub xs v))) ∧ Hid (Below W.heap.size W w2)) := by
  have hx := (M.tree_len ht.out).2
  obtain ⟨E, hE⟩ : ∃ E, Hid (v + M.span 1 (xs.drop v) = E) := ⟨_, rfl⟩
  have hsl : (M.sub xs v).length = E - v := by rw [M.sub_length]; have := hE.out; omega
  have hst := M.sub_tree ht.out hv
  have hs24 := (M.tree_len hst).2
  refine (l01Subtree A xs c v E w hx hcl ht hv hE h.out).mono ?_
  rintro e w1 ⟨A', c', rfl, ho, hb⟩
  refine ⟨A', E - v, c', rfl, hb, fun W hbW => ?_⟩
  have hcap := own_cap ho
  have := l01Text 24 A' (M.sub xs v) c' W (Lib.hid hst) hs24 (by omega) (Lib.hid ((ints_of_own64 ho).be hbW))
  rwa [hsl] at this
theorem match_at (xs : List Int) (v : Nat) (p : ByteArray) (W : World) (ht : M.isTree xs = true) (hv : v < xs.length) (hpt : M.isPat p.data.toList = true) :
    Calls Try.prog 61 #[.string p, .string (M.textL 24 (M.sub xs v))] W (MtQ (atNode p.data.toList xs v) W) := by
  have hst := M.sub_tree ht hv
  have hs24 := (M.tree_len hst).2
  have hp6 := pat_60 hpt
  exact l04Match p _ W (by omega) (by rw [M.textL_size 24 _ hst hs24]; omega) (Lib.hid (.inl ⟨(M.isPat_iff.1 hpt).2.1, M.text_piece hst hs24⟩))

set_option maxRecDepth 100000 in
set_option maxHeartbeats 2000000 in
theorem spec_MatchesAt : GivesTNS 19 F_MatchesAt := by
  intro A xs c v p w hx hcc hp h
  have hC := Lib.hid (l04Code A (some ⟨w.heap.size + 1, 0, none⟩) xs [v] c 1 p ((w.alloc (.cells #[.slice A xs.length c] 29)).alloc (.cells #[.int .i64 v] 2)) (by omega) (by simp) hp ((h.al _).al _) (by have := ints_new (w.alloc (.cells #[.slice A xs.length c] 29)) #[.int .i64 v] [v] rfl; simpa using this))
  simp only [List.length_cons, List.length_nil, Nat.zero_add] at hC
  obtain ⟨r, hr⟩ : ∃ r, Hid (codeP xs (M.isPat p.data.toList) [v] = r) := ⟨_, rfl⟩
  rw [hr.out] at hC
  by_cases h0 : r = 0
  · subst h0
    obtain ⟨ht, hpt, hcd⟩ := codeP_zero hr.out
    have hn := M.code_node hcd
    rw [F_MatchesAt_yes hr.out]
    obtain ⟨n, rfl⟩ := Int.eq_ofNat_of_zero_le hn.1
    have hnl : n < xs.length := by simpa using hn.2.1
    have hT := fun W (hb : Below w.heap.size w W) => Lib.hid (textAtNode A xs c n W (Lib.hid ht) hnl hcc.1 (Lib.hid (h.be hb)))
    have hM : Hid (∀ W, Calls Try.prog 61 #[.string p, .string (M.textL 24 (M.sub xs n))] W fun e w' => ∃ (A : Option Addr) (n' c : Nat), e = .returned (.tuple #[.slice A n' c, .bool (atNode p.data.toList xs n).isSome]) ∧ Hid (Below W.heap.size W w')) := fun W =>
      (match_at xs n p W ht hnl hpt).mono fun e w' ⟨A, n, c, h1, h2, _⟩ => ⟨A, n, c, h1, h2⟩
    simp only [Int.toNat_natCast]
    generalize (atNode p.data.toList xs n).isSome = b at *
    generalize M.textL 24 (M.sub xs n) = T at *
    clear hr hn hcd ht hpt h
    go_enter Try.func19, Try.ntmps19
    go_wp2_with fail
    refine hC.out.mono ?_
    rintro e w1 ⟨rfl, hb⟩
    have hB := Lib.hid (btr (bal (bal (b0 w) _) _) hb.out)
    have hcell : w1.cell? ⟨w.heap.size, 0, none⟩ = some (.slice A xs.length c) := cell_be (cell_al (by simp) _) hb.out
    clear hb hC
    go_wp2_with fail
    refine (hT _ hB.out).out.mono ?_
    rintro e w2 ⟨A2, n2, c2, rfl, hb2, hT2⟩
    go_wp2_with fail
    refine (hT2.out _ (b0 _)).mono ?_
    rintro e w3 ⟨rfl, hb3⟩
    go_wp2_with fail
    refine (hM.out _).mono ?_
    rintro e w4 ⟨A4, n4, c4, rfl, hb4⟩
    have hB2 := btr hB.out (btr hb2.out (btr hb3.out hb4.out))
    go_wp2
    go_ret2
    exact ⟨rfl, hB2⟩
  · rw [F_MatchesAt_no (by rw [hr.out]; exact h0), hr.out]
    have hq : (r != 0) = true := by simp [h0]
    clear hr h0 h
    go_enter Try.func19, Try.ntmps19
    go_wp2_with fail
    refine hC.out.mono ?_
    rintro e w1 ⟨rfl, hb⟩
    have hB := btr (bal (bal (b0 w) _) _) hb.out
    go_wp2
    go_ret2
    exact ⟨rfl, hB⟩
end Go.Proofs.Ytmhpobgfgimfcaa

/- All nodes at which a pattern matches: matchedIn and the model's loop. -/
namespace Go.Proofs.Ytmhpobgfgimfcaa
open Go.RowKit

/-- the nodes below k at which a pattern matches -/
def hits (P : List UInt8) (xs : List Int) : Nat → List Int
  | 0 => []
  | k + 1 => hits P xs k ++ (if (atNode P xs k).isSome then [(k : Int)] else [])
theorem hits_len (P : List UInt8) (xs : List Int) : ∀ k, (hits P xs k).length ≤ k := by
  intro k
  induction k with
  | zero => simp [hits]
  | succ k ih => simp only [hits, List.length_append]; split <;> simp <;> omega
theorem hits_hit {P : List UInt8} {xs : List Int} {k : Nat} (h : (atNode P xs k).isSome = true) : hits P xs (k + 1) = hits P xs k ++ [(k : Int)] := by rw [hits, if_pos h]
theorem hits_miss {P : List UInt8} {xs : List Int} {k : Nat} (h : (atNode P xs k).isSome = false) : hits P xs (k + 1) = hits P xs k := by rw [hits, if_neg (by rw [h]; decide), List.append_nil]

set_option maxRecDepth 100000 in
set_option maxHeartbeats 2000000 in
theorem matchedIn (A : Option Addr) (xs : List Int) (c : Nat) (p : ByteArray) (w : World) (ht : Hid (M.isTree xs = true)) (hcl : xs.length ≤ c) (hcu : c ≤ 9223372036854775807) (hp : p.size ≤ 60) (h : Hid (Ints w w.heap.size A xs)) :
    Calls Try.prog 67 #[.slice A xs.length c, .string p] w fun e w' => ∃ A' c', e = .returned (.slice A' (hits p.data.toList xs xs.length).length c') ∧ Hid (Own64 w' w.heap.size (.slice A' (hits p.data.toList xs xs.length).length c') (hits p.data.toList xs xs.length)) ∧ Hid (Below w.heap.size w w') := by
  have hx := Lib.hid (M.tree_len ht.out)
  have hM : Hid (∀ k W, k < xs.length → Below w.heap.size w W → Calls Try.prog 65 #[.slice A xs.length c, .int .i64 (k : Int), .string p] W fun e w' => e = .returned (.bool (atNode p.data.toList xs k).isSome) ∧ Hid (Below W.heap.size W w')) := fun k W hk hb =>
    matchesAt A xs c k p W ht hk hcl hcu hp (Lib.hid (h.out.be hb))
  have hb00 := Lib.hid (b0 w)
  have ho00 := Lib.hid (own64_nil w w.heap.size)
  have hst : Hid (hits p.data.toList xs 0 = []) := rfl
  have hx24 := hx.out.2
  generalize p.data.toList = P at *
  clear h ht
  go_enter Try.func67, Try.ntmps67
  go_wp2
  go_loopw [5, 9] (fun q i wr => ∃ (k : Nat) (A' : Option Addr) (n c' : Nat), k ≤ xs.length ∧ i = .int .i64 k ∧ q = .slice A' n c' ∧ Hid (Own64 wr w.heap.size (.slice A' n c') (hits P xs k)) ∧ Hid (Below w.heap.size w wr)) (fun _ i _ => xs.length - (intOf i).toNat)
  case atStart => exact ⟨0, none, 0, 0, Nat.zero_le _, rfl, rfl, own64_eq ho00.out hst.out.symm, hb00⟩
  case round =>
    obtain ⟨k, A', n, c', hk, rfl, rfl, ho, hbr⟩ := hrel
    have hnr : n ≤ 1000000 := by have h1 := own64_len ho.out; have h2 := hits_len P xs k; omega
    by_cases hlt : k < xs.length
    · have hki : (k : Int) < (xs.length : Int) := by omega
      have hC := Lib.hid (hM.out k wr hlt hbr.out)
      have hB1 := hbr.out.size
      clear hM
      cases hb : (atNode P xs k).isSome
      · have hl := Lib.hid (hits_miss hb)
        rw [hb] at hC
        clear hb
        go_wp2_with (go_at_call 65; refine hC.out.mono ?_; rintro e w2 ⟨rfl, hb2⟩)
        have ho2 := Lib.hid (own64_eq (own_be ho.out hb2.out) hl.out.symm)
        have hb3 := Lib.hid (btr hbr.out hb2.out)
        go_roundw
        case rel => exact ⟨k + 1, A', n, c', by omega, by go_num, rfl, ho2, hb3⟩
        case measure => simp [intOf]; omega
      · have hl := Lib.hid (hits_hit hb)
        rw [hb] at hC
        clear hb
        go_wp2_with fail
        refine hC.out.mono ?_
        rintro e w2 ⟨rfl, hb2⟩
        have ho2 := Lib.hid (own_be ho.out hb2.out)
        have hb3 := Lib.hid (btr hbr.out hb2.out)
        have hB3 := hb3.out.size
        go_wp2_with (at_builtin; refine push64 rfl (.tmp 16) (.tmp 18) rfl w2 w.heap.size A' n c' (hits P xs k) k rfl rfl ho2 hB3 hnr ?_; intro A3 c3 w3 ho3 hb4)
        go_roundw
        case rel => exact ⟨k + 1, A3, _, c3, by omega, by go_num, rfl, own64_eq ho3.out hl.out.symm, hb3.out.trans hb4.out⟩
        case measure => simp [intOf]; omega
    · obtain rfl : k = xs.length := by omega
      have hn := own64_len ho.out
      subst hn
      clear hM
      go_wp2
      go_ret
      exact ⟨A', c', rfl, ho, hbr⟩

set_option maxRecDepth 100000 in
set_option maxHeartbeats 4000000 in
theorem l04Nodes (A : Option Addr) (xs : List Int) (c : Nat) (p : ByteArray) (w : World) (ht : Hid (M.isTree xs = true)) (hcl : xs.length ≤ c) (hpt : Hid (M.isPat p.data.toList = true)) (h : Hid (Ints w w.heap.size A xs)) :
    Calls Try.prog 66 #[.agg #[.slice A xs.length c], .string p] w fun e w' => ∃ A' c', e = .returned (.slice A' (hits p.data.toList xs xs.length).length c') ∧ Hid (Own64 w' w.heap.size (.slice A' (hits p.data.toList xs xs.length).length c') (hits p.data.toList xs xs.length)) ∧ Hid (Below w.heap.size w w') := by
  have hx := Lib.hid (M.tree_len ht.out)
  have hT : Hid (∀ k W, k < xs.length → Below w.heap.size w W → Calls Try.prog 63 #[.agg #[.slice A xs.length c], .int .i64 (k : Int)] W fun e w' => ∃ A' n' c', e = .returned (.agg #[.slice A' n' c']) ∧ Hid (Below W.heap.size W w') ∧
      Hid (∀ W2, Below w'.heap.size w' W2 → Calls Try.prog 62 #[.agg #[.slice A' n' c']] W2 fun e w2 => e = .returned (.string (M.textL 24 (M.sub xs k))) ∧ Hid (Below W2.heap.size W2 w2))) := fun k W hk hb => textAtNode A xs c k W ht hk hcl (Lib.hid (h.out.be hb))
  have hM : Hid (∀ k W, k < xs.length → Calls Try.prog 61 #[.string p, .string (M.textL 24 (M.sub xs k))] W fun e w' => ∃ (A : Option Addr) (n' c : Nat), e = .returned (.tuple #[.slice A n' c, .bool (atNode p.data.toList xs k).isSome]) ∧ Hid (Below W.heap.size W w')) := fun k W hk =>
    (match_at xs k p W ht.out hk hpt.out).mono fun e w' ⟨A, n, c, h1, h2, _⟩ => ⟨A, n, c, h1, h2⟩
  have hb00 := Lib.hid (bal (bal (b0 w) (.cells #[.slice A xs.length c] 29)) (.cells #[] 2))
  have ho00 : Hid (Own64 ((w.alloc (.cells #[.slice A xs.length c] 29)).alloc (.cells #[] 2)) (w.heap.size + 1) (.slice (some ⟨w.heap.size + 1, 0, none⟩) 0 0) (hits p.data.toList xs 0)) := by
    have := own64_empty (w := w.alloc (.cells #[.slice A xs.length c] 29)) (B := w.heap.size + 1) (by simp)
    simpa [Hid, hits] using this
  have hx24 := hx.out.2
  generalize p.data.toList = P at *
  clear h ht hpt
  go_enter Try.func66, Try.ntmps66
  go_wp2
  go_loopw [5, 6] (fun q i wr => ∃ (k : Nat) (A' : Option Addr) (n c' : Nat), k ≤ xs.length ∧ i = .int .i64 k ∧ q = .slice A' n c' ∧ Hid (Own64 wr (w.heap.size + 1) (.slice A' n c') (hits P xs k)) ∧ Hid (Below w.heap.size w wr) ∧ wr.cell? ⟨w.heap.size, 0, none⟩ = some (.slice A xs.length c)) (fun _ i _ => xs.length - (intOf i).toNat)
  case atStart => exact ⟨0, _, 0, 0, Nat.zero_le _, rfl, rfl, ho00, hb00, cell_al (by simp) _⟩
  case round =>
    obtain ⟨k, A', n, c', hk, rfl, rfl, ho, hbr, hcr⟩ := hrel
    clear ho00 hb00
    have hnr : n ≤ 1000000 := by have h1 := own64_len ho.out; have h2 := hits_len P xs k; omega
    by_cases hlt : k < xs.length
    · have hki : (k : Int) < (xs.length : Int) := by omega
      go_wp2_with fail
      refine (l01N A xs.length c _).mono ?_
      rintro e wn ⟨rfl, hb⟩
      have hbn := Lib.hid (btr hbr.out hb)
      have hon := Lib.hid (own_be ho.out hb)
      have hcn := cell_be hcr hb
      clear hb ho hbr hcr
      go_wp2_with fail
      refine (hT.out k _ hlt hbn.out).mono ?_
      rintro e w2 ⟨A2, n2, c2, rfl, hb2, hT2⟩
      have hcn2 := cell_be hcn hb2.out
      go_wp2_with fail
      refine (hT2.out _ (b0 _)).mono ?_
      rintro e w3 ⟨rfl, hb3⟩
      have hcn3 := cell_be hcn2 hb3.out
      have hM4 := Lib.hid (hM.out k w3 hlt)
      have hb5 := Lib.hid (btr hbn.out (btr hb2.out hb3.out))
      have ho5 := Lib.hid (own_be hon.out (btr hb2.out hb3.out))
      clear hb2 hT2 hb3 hon hbn hcn hcn2 hT hM
      cases hb : (atNode P xs k).isSome
      · have hl := Lib.hid (hits_miss hb)
        rw [hb] at hM4
        clear hb
        go_wp2_with fail
        refine hM4.out.mono ?_
        rintro e w4 ⟨A4, n4, c4, rfl, hb4⟩
        have hcn4 := cell_be hcn3 hb4.out
        have ho2 := Lib.hid (own64_eq (own_be ho5.out hb4.out) hl.out.symm)
        have hb6 := Lib.hid (btr hb5.out hb4.out)
        clear hb4 hb5 ho5 hcn3 hM4 hl
        go_wp2
        go_roundw
        case rel => exact ⟨k + 1, A', n, c', by omega, by go_num, rfl, ho2, hb6, hcn4⟩
        case measure => simp [intOf]; omega
      · have hl := Lib.hid (hits_hit hb)
        rw [hb] at hM4
        clear hb
        go_wp2_with fail
        refine hM4.out.mono ?_
        rintro e w4 ⟨A4, n4, c4, rfl, hb4⟩
        have hcn4 := cell_be hcn3 hb4.out
        have ho2 := Lib.hid (own_be ho5.out hb4.out)
        have hb6 := Lib.hid (btr hb5.out hb4.out)
        have hB3 : w.heap.size + 1 ≤ w4.heap.size := World.block_lt_of_cell? _ _ hcn4
        clear hb4 hb5 ho5 hcn3 hM4
        go_wp2_with (at_builtin; refine push64 rfl (.tmp 26) (.tmp 28) rfl w4 (w.heap.size + 1) A' n c' (hits P xs k) k rfl rfl ho2 hB3 hnr ?_; intro A3 c3 w5 ho3 hb7)
        have hcn5 : w5.cell? ⟨w.heap.size, 0, none⟩ = some (.slice A xs.length c) := (hb7.out.cell (p := ⟨w.heap.size, 0, none⟩) (Nat.lt_succ_self _)).trans hcn4
        go_roundw
        case rel => exact ⟨k + 1, A3, _, c3, by omega, by go_num, rfl, own64_eq ho3.out hl.out.symm, hb6.out.trans (hb7.out.mono (Nat.le_succ _)), hcn5⟩
        case measure => simp [intOf]; omega
    · obtain rfl : k = xs.length := by omega
      have hn := own64_len ho.out
      subst hn
      clear hM hT
      go_wp2_with fail
      refine (l01N A xs.length c _).mono ?_
      rintro e wn ⟨rfl, hb⟩
      have hbn := Lib.hid (btr hbr.out hb)
      have hon := Lib.hid (own_be ho.out hb)
      clear hb ho hbr hcr
      go_wp2
      go_ret
      exact ⟨A', c', rfl, Lib.hid (own_mono hon.out (Nat.le_succ _)), hbn⟩
end Go.Proofs.Ytmhpobgfgimfcaa

/- The trees in which a pattern matches nowhere, the model's: l04Avoiding, l04Few. -/
namespace Go.Proofs.Ytmhpobgfgimfcaa
open Go.RowKit

/-- does a pattern match nowhere in a tree -/
def av (P : List UInt8) (xs : List Int) : Bool := (hits P xs xs.length).length == 0
theorem zip_snd {α β : Type} : ∀ (a : List α) (b : List β), a.length = b.length → (a.zip b).map Prod.snd = b
  | [], [], _ => rfl
  | x :: a, y :: b, h => by rw [List.zip_cons_cons, List.map_cons, zip_snd a b (by simpa using h)]
  | [], _ :: _, h => by simp at h
  | _ :: _, [], h => by simp at h
theorem zip_fst {α β : Type} : ∀ (a : List α) (b : List β), a.length = b.length → (a.zip b).map Prod.fst = a
  | [], [], _ => rfl
  | x :: a, y :: b, h => by rw [List.zip_cons_cons, List.map_cons, zip_fst a b (by simpa using h)]
  | [], _ :: _, h => by simp at h
  | _ :: _, [], h => by simp at h
/-- the headers of those trees, below k, of which f holds -/
def pick (f : List Int → Bool) (hs : List Hdr) (zss : List (List Int)) (k : Nat) : List (Hdr × List Int) := ((hs.zip zss).take k).filter fun x => f x.2
theorem pick_zero (f : List Int → Bool) (hs : List Hdr) (zss : List (List Int)) : pick f hs zss 0 = [] := by simp [pick]
theorem pick_len (f : List Int → Bool) (hs : List Hdr) (zss : List (List Int)) (k : Nat) : (pick f hs zss k).length ≤ k := by
  have h1 := List.length_filter_le (fun x : Hdr × List Int => f x.2) ((hs.zip zss).take k)
  rw [List.length_take] at h1
  unfold pick
  omega
theorem pick_succ {f : List Int → Bool} {hs : List Hdr} {zss : List (List Int)} {k : Nat} {h : Hdr} {zs : List Int} (h1 : hs[k]? = some h) (h2 : zss[k]? = some zs) : pick f hs zss (k + 1) = pick f hs zss k ++ if f zs then [(h, zs)] else [] := by
  have hz : (hs.zip zss)[k]? = some (h, zs) := by rw [List.getElem?_zip_eq_some]; exact ⟨h1, h2⟩
  rw [pick, pick, List.take_add_one, hz, List.filter_append]
  congr 1
  show List.filter (fun x : Hdr × List Int => f x.2) [(h, zs)] = _
  cases hf : f zs <;> simp [hf]
theorem pick_all {f : List Int → Bool} {hs : List Hdr} {zss : List (List Int)} {k : Nat} (hl : hs.length = zss.length) (hk : zss.length ≤ k) : (pick f hs zss k).map Prod.snd = zss.filter f := by
  rw [pick, List.take_of_length_le (by rw [List.length_zip]; omega)]
  have h1 := zip_snd hs zss hl
  generalize hs.zip zss = Z at *
  subst h1
  rw [List.filter_map]
  rfl
theorem Woods.picked {w : World} {B k : Nat} {v v' : Value} {hs : List Hdr} {zss : List (List Int)} {f : List Int → Bool} (h : Woods w B v hs zss) (hk : zss.length ≤ k)
    (hown : w.ownsRow B 29 1 v' ((pick f hs zss k).map Prod.fst).length (((pick f hs zss k).map Prod.fst).map hdr)) : Woods w B v' ((pick f hs zss k).map Prod.fst) (zss.filter f) := by
  have hall := pick_all (f := f) h.len hk
  refine ⟨hown, by rw [← hall, List.length_map, List.length_map], fun i h' zs hi hz => ?_, fun i j a b hi hj hij => ?_⟩
  · rw [← hall, List.getElem?_map] at hz
    rw [List.getElem?_map] at hi
    cases hx : (pick f hs zss k)[i]? with
    | none => rw [hx] at hi; cases hi
    | some x =>
      rw [hx] at hi hz
      injection hi with hi
      injection hz with hz
      have hm := List.mem_of_getElem? hx
      have hm2 := List.mem_of_mem_take (List.mem_filter.1 hm).1
      obtain ⟨q, hq⟩ := List.getElem?_of_mem hm2
      rw [List.getElem?_zip_eq_some] at hq
      rw [← hi, ← hz]
      exact h.each q _ _ hq.1 hq.2
  · have hp : hs.Pairwise fun a b => a.1 ≠ b.1 := by
      rw [List.pairwise_iff_getElem]
      intro i j hi hj hij
      exact h.apart i j _ _ (List.getElem?_eq_getElem hi) (List.getElem?_eq_getElem hj) (by omega)
    have hs2 : ((pick f hs zss k).map Prod.fst).Sublist hs := by
      have h1 : (pick f hs zss k).Sublist (hs.zip zss) := List.filter_sublist.trans (List.take_sublist _ _)
      have h2 := h1.map Prod.fst
      rwa [zip_fst hs zss h.len] at h2
    have hp2 := hp.sublist hs2
    rw [List.pairwise_iff_getElem] at hp2
    obtain ⟨hi1, hi2⟩ := List.getElem?_eq_some_iff.1 hi
    obtain ⟨hj1, hj2⟩ := List.getElem?_eq_some_iff.1 hj
    rcases Nat.lt_or_gt_of_ne hij with h' | h'
    · rw [← hi2, ← hj2]; exact hp2 i j hi1 hj1 h'
    · rw [← hi2, ← hj2]; exact fun e => hp2 j i hj1 hi1 h' e.symm

set_option maxRecDepth 100000 in
/-- append of one header -/
theorem pushHdr {ops : Array Oper} {rest : List Oper} {o : Oper} {a : Act} {Q : Exit → Act → World → Prop} (hgd : o.guard = none) (s x : Operand)
    (ho : o.op = .call { callee := .builtin .append, args := #[s, x], argTypes := #[39, 39] }) (w : World) (B : Nat) (A : Option Addr) (n c : Nat) (hs : List Hdr) (h0 : Hdr)
    (hs0 : a.eval s = .slice A n c) (hx : a.eval x = .slice (some ⟨w.heap.size, 0, none⟩) 1 1) (hn : Hid (hs.length = n)) (hW : Hid (w.ownsRow B 29 1 (.slice A n c) hs.length (hs.map hdr))) (hB : B ≤ w.heap.size) (hlen : n ≤ 1000000)
    (h : ∀ A' c' w', Hid (w'.ownsRow B 29 1 (.slice A' (n + 1) c') (hs ++ [h0]).length ((hs ++ [h0]).map hdr)) → Hid (Below B w w') → wpList Try.prog ops Q rest (a.put o.dst (.slice A' (n + 1) c')) w') :
    wpList Try.prog ops Q (o :: rest) a (w.alloc (.cells #[hdr h0] 29)) := by
  obtain ⟨i0, hi0, hz0, hz1, hz2⟩ := info_parts infoTree
  have hn := hn.out
  have hlt : ∀ k, (Value.slice A n c).ownBlock = some k → B ≤ k ∧ k < w.heap.size := fun k hk => World.ownsRow.lt hW.out k hk
  have hown : (w.alloc (.cells #[hdr h0] 29)).ownsRow B 29 1 (.slice A n c) hs.length (hs.map hdr) := own_be hW.out (bal (b0 w) _)
  refine wpList_append_own_at _ hgd s x 39 ho B 29 i0 (.agg #[.slice none 0 0]) 1 24 Try.underlying39 hi0 hz0 hz1 hz2 rfl (by decide) _ hs.length (hs.map hdr) hs0 hown ⟨w.heap.size, 0, none⟩ 1 1 [hdr h0] hx rfl (cell_one_new _ _ _) ?_ ?_ ?_ ?_ ?_
  · intro u hu; simp at hu; subst hu; rfl
  · unfold maxLen; omega
  · omega
  · simp; omega
  · intro v' w1 hown1 hg1 _ _
    obtain ⟨A', c', rfl⟩ : ∃ A' c', v' = .slice A' (hs.length + 1) c' := own_shape hown1
    have hres : w1.ownsRow B 29 1 (.slice A' (hs.length + 1) c') (hs ++ [h0]).length ((hs ++ [h0]).map hdr) := by
      rw [List.length_append, List.length_singleton, List.map_append]; exact hown1
    rw [hn] at hres ⊢
    exact h A' c' w1 hres (((Below.refl B w).alloc hB _).grown hg1 (by simp; omega) (fun k hk => (hlt k hk).1))

set_option maxRecDepth 100000 in
set_option maxHeartbeats 4000000 in
theorem l04Avoiding (n : Nat) (p : ByteArray) (w : World) (hn1 : 1 ≤ n) (hn : n ≤ 8) (hpt : Hid (M.isPat p.data.toList = true)) (htr : Hid (∀ zs ∈ M.suff n 1, M.isTree zs = true)) :
    Calls Try.prog 85 #[.int .i64 (n : Int), .string p] w fun e w' => ∃ A c' hs, e = .returned (.slice A ((M.suff n 1).filter (av p.data.toList)).length c') ∧ Hid (Woods w' w.heap.size (.slice A ((M.suff n 1).filter (av p.data.toList)).length c') hs ((M.suff n 1).filter (av p.data.toList))) ∧ Hid (Below w.heap.size w w') := by
  have hA := Lib.hid (l01All n w hn1 hn)
  have hL8 := M.L_8 (n := n) (t := 1) hn
  have hSl : Hid ((M.suff n 1).length = M.L n 1) := M.suff_len n 1
  have hN : Hid (∀ (A : Option Addr) (xs : List Int) (c : Nat) (W : World), xs ∈ M.suff n 1 → xs.length ≤ c → Hid (Ints W W.heap.size A xs) → Calls Try.prog 66 #[.agg #[.slice A xs.length c], .string p] W fun e w' => ∃ A' c' m, e = .returned (.slice A' m c') ∧ ((m : Int) == 0) = av p.data.toList xs ∧ Hid (Below W.heap.size W w')) := fun A xs c W hm hcl hI =>
    (l04Nodes A xs c p W (Lib.hid (htr.out xs hm)) hcl hpt hI).mono fun e w' ⟨A', c', h1, _, h2⟩ => ⟨A', c', _, h1, by rw [av]; generalize (hits p.data.toList xs xs.length).length = m; cases m <;> simp <;> omega, h2⟩
  generalize av p.data.toList = f at *
  generalize M.suff n 1 = S at *
  generalize M.L n 1 = N at *
  clear hpt htr
  go_enter Try.func85, Try.ntmps85
  go_wp2_with fail
  refine hA.out.mono ?_
  rintro e w1 ⟨g, c1, hs, rfl, hW, hb1⟩
  have hB1 := Lib.hid (bal hb1.out (.cells #[] 29))
  have hs1 : Hid ((w1.alloc (.cells #[] 29)).ownsRow w1.heap.size 29 1 (.slice (some ⟨w1.heap.size, 0, none⟩) 0 0) ((pick f hs S 0).map Prod.fst).length (((pick f hs S 0).map Prod.fst).map hdr)) := by
    rw [pick_zero]
    exact World.ownsRow_made (e := 29) (size := 1) w1 #[] 0 (Nat.le_refl _) (by simp [maxLen]) (by simp)
  have hbb := Lib.hid (bal (b0 w1) (.cells #[] 29))
  have hz1 := hb1.out.size
  have Hb1 := Lib.hid hb1.out
  clear hA hb1 hB1
  go_wp2
  go_loopw [6, 7] (fun q i wr => ∃ (k m : Nat) (A' : Option Addr) (c' : Nat), k ≤ N ∧ m ≤ k ∧ i = .int .i64 (k : Int) ∧ q = .slice A' m c' ∧ Hid (((pick f hs S k).map Prod.fst).length = m) ∧ Hid (wr.ownsRow w1.heap.size 29 1 (.slice A' m c') ((pick f hs S k).map Prod.fst).length (((pick f hs S k).map Prod.fst).map hdr)) ∧ Hid (Below w1.heap.size w1 wr)) (fun _ i _ => N - (intOf i).toNat)
  case atStart => exact ⟨0, 0, _, 0, by omega, by omega, rfl, rfl, by rw [pick_zero]; rfl, hs1, hbb⟩
  case round =>
    obtain ⟨k, m, A', c', hk, hmk, rfl, rfl, hm, hO, hb⟩ := hrel
    clear hs1 hbb
    by_cases hlt : k < N
    · have hki : (k : Int) < (N : Int) := by omega
      have hk0 : (0 : Int) ≤ (k : Int) := by omega
      have hkS : k < S.length := by rw [hSl.out]; exact hlt
      have hat : S[k]? = some S[k] := List.getElem?_eq_getElem hkS
      have hmS := List.mem_of_getElem? hat
      obtain ⟨h', hh, ho, hhl⟩ := hW.out.at_ hat
      have hsucc := pick_succ (f := f) hh hat
      generalize S[k] = zs at hat hmS ho hhl hsucc
      have hcl := hW.out.cell hh
      obtain ⟨g', m', c2⟩ := h'
      simp only at hhl
      subst hhl
      have hgl := (World.ownsRow.lt hW.out.row g rfl).2
      have hcl' : ∀ W, Below w1.heap.size w1 W → W.cell? ⟨g, k, none⟩ = some (.slice (some ⟨g', 0, none⟩) zs.length c2) := fun W h => (h.cell (p := ⟨g, k, none⟩) hgl).trans hcl
      have hI : Hid (Ints wr wr.heap.size (some ⟨g', 0, none⟩) zs) := ints_of_own64 (own_be ho hb.out)
      have hNo := Lib.hid (hN.out (some ⟨g', 0, none⟩) zs c2 wr hmS (own_cap ho) hI)
      have hc0 := hcl' wr hb.out
      have Hcl := Lib.hid hcl'
      clear hcl hat hmS ho hh hN hcl' hI
      cases hf : f zs
      · have hp : Hid (pick f hs S (k + 1) = pick f hs S k) := by show _ = _; rw [hsucc, hf]; simp
        rw [hf] at hNo
        clear hsucc hf
        go_wp2_with fail
        refine hNo.out.mono ?_
        rintro e w2 ⟨A2, c3, m2, rfl, hm2, hb2⟩
        have hO2 := Lib.hid (own_be hO.out hb2.out)
        have hB2 := Lib.hid (btr hb.out hb2.out)
        clear hb hb2 hO hNo hc0
        go_wp2
        rw [← hp.out] at hO2 hm
        go_roundw
        case rel => exact ⟨k + 1, m, A', c', by omega, by omega, by go_num, rfl, hm, hO2, hB2⟩
        case measure => simp [intOf]; omega
      · have hp : Hid (((pick f hs S (k + 1)).map Prod.fst) = (pick f hs S k).map Prod.fst ++ [(g', zs.length, c2)]) := by show _ = _; rw [hsucc, hf]; simp
        rw [hf] at hNo
        clear hsucc hf
        go_wp2_with fail
        refine hNo.out.mono ?_
        rintro e w2 ⟨A2, c3, m2, rfl, hm2, hb2⟩
        have hO2 := Lib.hid (own_be hO.out hb2.out)
        have hB2 := Lib.hid (btr hb.out hb2.out)
        have hc2 := Hcl.out w2 hB2.out
        have hz2 := hB2.out.size
        clear hb hb2 hO hNo hc0
        go_wp2_with (at_builtin; refine pushHdr rfl (.tmp 25) (.tmp 30) rfl _ w1.heap.size A' m c' _ (g', zs.length, c2) rfl rfl hm hO2 hz2 (by omega) ?_; intro A3 c4 w3 hO3 hb3)
        rw [← hp.out] at hO3
        have hm3 : Hid (((pick f hs S (k + 1)).map Prod.fst).length = m + 1) := by show _ = _; rw [hp.out, List.length_append, hm.out]; rfl
        have hB3 : Hid (Below w1.heap.size w1 w3) := hB2.out.trans hb3.out
        clear hB2 hb3 hO2 hm
        go_roundw
        case rel => exact ⟨k + 1, m + 1, A3, c4, by omega, by omega, by go_num, rfl, hm3, hO3, hB3⟩
        case measure => simp [intOf]; omega
    · obtain rfl : k = N := by omega
      have hge : ¬ (k : Int) < (k : Int) := by omega
      have hWf : Hid (Woods wr w.heap.size (.slice A' m c') ((pick f hs S k).map Prod.fst) (S.filter f)) := (hW.out.be hb.out).picked (by rw [hSl.out]; exact Nat.le_refl _) (own_mono hO.out hz1)
      have hml : m = (S.filter f).length := hWf.out.shape.1
      have hBz : Hid (Below w.heap.size w wr) := btr Hb1.out hb.out
      clear hW hO hm hN hb
      subst hml
      go_wp2
      go_ret
      exact ⟨A', c', rfl, ⟨_, hWf⟩, hBz⟩
end Go.Proofs.Ytmhpobgfgimfcaa

/- All trees of so many nodes by their ranks, one behind the other: the mathematics. -/
namespace Go.Proofs.Ytmhpobgfgimfcaa.M
theorem start_tree {n : Nat} (hn1 : 1 ≤ n) (hn : n ≤ 24) : isTree (firstL n 1) = true := by
  rw [isTree_is (by rw [firstL_len]; exact hn1) (by rw [firstL_len]; exact hn)]
  exact (firstL_go n 1 (by omega) hn1).1
theorem start_unrank {n : Nat} (hn1 : 1 ≤ n) : unrank n 1 0 = firstL n 1 := by
  have h1 := firstL_go n 1 (by omega) hn1
  have := unrank_rk _ 1 h1.1
  rw [h1.2, firstL_len] at this
  exact this
theorem step_unrank {xs : List Int} (ht : isTree xs = true) : nextF 1 xs = if rk 1 xs + 1 < L xs.length 1 then some (unrank xs.length 1 (rk 1 xs + 1)) else none := by
  have h := next_rk xs 1 (tree_len ht).2 (tree_go ht)
  cases hn : nextF 1 xs with
  | none =>
    rw [hn] at h
    simp only at h
    rw [if_neg (by omega)]
  | some ys =>
    rw [hn] at h
    obtain ⟨h1, h2, h3⟩ := h
    have h4 := rk_lt ys 1 h1
    have h5 := unrank_rk ys 1 h1
    rw [h2, h3] at h4 h5
    rw [if_pos h4, h5]
theorem unrank_tree {n : Nat} (hn1 : 1 ≤ n) (hn : n ≤ 24) : ∀ r, r < L n 1 → isTree (unrank n 1 r) = true ∧ rk 1 (unrank n 1 r) = r := by
  intro r
  induction r with
  | zero =>
    intro _
    rw [start_unrank hn1]
    exact ⟨start_tree hn1 hn, (firstL_go n 1 (by omega) hn1).2⟩
  | succ r ih =>
    intro h
    obtain ⟨i1, i2⟩ := ih (by omega)
    have h1 := step_unrank i1
    rw [i2, unrank_len, if_pos h] at h1
    have h2 := next_rk _ 1 (tree_len i1).2 (tree_go i1)
    rw [h1] at h2
    exact ⟨(next_tree i1 h1).1, by rw [h2.2.2, i2]⟩
theorem unrank_next {n r : Nat} (hn1 : 1 ≤ n) (hn : n ≤ 24) (hr : r < L n 1) : nextF 1 (unrank n 1 r) = if r + 1 < L n 1 then some (unrank n 1 (r + 1)) else none := by
  obtain ⟨i1, i2⟩ := unrank_tree hn1 hn r hr
  have h1 := step_unrank i1
  rwa [i2, unrank_len] at h1
theorem suff_tree {n : Nat} (hn1 : 1 ≤ n) (hn : n ≤ 24) : ∀ zs ∈ suff n 1, isTree zs = true := fun zs h => by
  obtain ⟨r, hr, rfl⟩ := List.mem_map.1 h
  exact (unrank_tree hn1 hn r (List.mem_range.1 hr)).1
theorem suff_at {n r : Nat} (hr : r < L n 1) : (suff n 1)[r]? = some (unrank n 1 r) := by
  rw [suff, List.getElem?_map, List.getElem?_range hr]; rfl
theorem L_pos {n : Nat} (hn1 : 1 ≤ n) : 1 ≤ L n 1 := by
  have h4 := rk_lt (firstL n 1) 1 (firstL_go n 1 (by omega) hn1).1
  rw [firstL_len] at h4
  omega
end Go.Proofs.Ytmhpobgfgimfcaa.M

/- CountAvoiding and FirstAvoiding, the model's; the codes of both. -/
namespace Go.Proofs.Ytmhpobgfgimfcaa
open Go.RowKit

def codeA (n : Int) (b : Bool) : Int := if b then (if 1 ≤ n ∧ n ≤ 8 then 0 else 2) else 6
theorem codeA_zero {n : Int} {b : Bool} (h : codeA n b = 0) : b = true ∧ 1 ≤ n ∧ n ≤ 8 := by
  rw [codeA] at h
  cases b
  · simp at h
  · rw [if_pos rfl] at h
    split at h
    · rename_i h1; exact ⟨rfl, h1⟩
    · cases h

theorem l04Few (n : Int) (p : ByteArray) (w : World) (hp : p.size ≤ 1048576) :
    Calls Try.prog 84 #[.int .i64 n, .string p] w fun e w' => e = .returned (.int .i64 (codeA n (M.isPat p.data.toList))) ∧ Hid (Below w.heap.size w w') := by
  have hP := Lib.hid (l04Is p w hp)
  obtain ⟨b, hb⟩ : ∃ b, Hid ((decide ((1 : Int) ≤ n) && decide (n ≤ 8)) = b) := ⟨_, rfl⟩
  have hI := fun W => Lib.hid (inAny n 1 8 W b hb)
  rw [codeA]
  generalize M.isPat p.data.toList = t at *
  cases t
  · go_enter Try.func84, Try.ntmps84
    go_wp2_with fail
    refine hP.out.mono ?_
    rintro e w1 ⟨rfl, hb1⟩
    go_wp2
    go_ret
    exact ⟨rfl, hb1⟩
  · cases b
    · have hne : ¬ (1 ≤ n ∧ n ≤ 8) := by have := hb.out; simp at this; omega
      rw [if_pos rfl, if_neg hne]
      clear hne hb
      go_enter Try.func84, Try.ntmps84
      go_wp2_with fail
      refine hP.out.mono ?_
      rintro e w1 ⟨rfl, hb1⟩
      go_wp2_with (go_at_call 88; refine (hI _).out.mono ?_; rintro e w' ⟨rfl, rfl⟩)
      go_ret
      exact ⟨rfl, hb1⟩
    · have hne : 1 ≤ n ∧ n ≤ 8 := by have := hb.out; simp at this; omega
      rw [if_pos rfl, if_pos hne]
      clear hne hb
      go_enter Try.func84, Try.ntmps84
      go_wp2_with fail
      refine hP.out.mono ?_
      rintro e w1 ⟨rfl, hb1⟩
      go_wp2_with (go_at_call 88; refine (hI _).out.mono ?_; rintro e w' ⟨rfl, rfl⟩)
      go_ret
      exact ⟨rfl, hb1⟩
theorem codeOfAvoiding (n : Int) (p : ByteArray) (w : World) (hp : p.size ≤ 1048576) :
    Calls Try.prog 86 #[.int .i64 n, .string p] w fun e w' => e = .returned (.int .i64 (codeA n (M.isPat p.data.toList))) ∧ Hid (Below w.heap.size w w') := by
  have hP := Lib.hid (impl_IsPattern p w hp)
  rw [F_IsPattern] at hP
  obtain ⟨b, hb⟩ : ∃ b, Hid ((decide ((1 : Int) ≤ n) && decide (n ≤ 8)) = b) := ⟨_, rfl⟩
  have hI := fun W => Lib.hid (withinAny n 1 8 W b hb)
  rw [codeA]
  generalize M.isPat p.data.toList = t at *
  cases t
  · go_enter Try.func86, Try.ntmps86
    go_wp2_with fail
    refine hP.out.mono ?_
    rintro e w1 ⟨rfl, hb1⟩
    go_wp2
    go_ret
    exact ⟨rfl, hb1⟩
  · cases b
    · have hne : ¬ (1 ≤ n ∧ n ≤ 8) := by have := hb.out; simp at this; omega
      rw [if_pos rfl, if_neg hne]
      clear hne hb
      go_enter Try.func86, Try.ntmps86
      go_wp2_with fail
      refine hP.out.mono ?_
      rintro e w1 ⟨rfl, hb1⟩
      go_wp2_with (go_at_call 117; refine (hI _).out.mono ?_; rintro e w' ⟨rfl, rfl⟩)
      go_ret
      exact ⟨rfl, hb1⟩
    · have hne : 1 ≤ n ∧ n ≤ 8 := by have := hb.out; simp at this; omega
      rw [if_pos rfl, if_pos hne]
      clear hne hb
      go_enter Try.func86, Try.ntmps86
      go_wp2_with fail
      refine hP.out.mono ?_
      rintro e w1 ⟨rfl, hb1⟩
      go_wp2_with (go_at_call 117; refine (hI _).out.mono ?_; rintro e w' ⟨rfl, rfl⟩)
      go_ret
      exact ⟨rfl, hb1⟩

/-- the trees of n nodes in which a pattern matches nowhere -/
def avs (n : Nat) (p : ByteArray) : List (List Int) := (M.suff n 1).filter (av p.data.toList)
theorem avs_len {n : Nat} (hn : n ≤ 8) (p : ByteArray) : (avs n p).length ≤ 65536 := by
  have h1 := List.length_filter_le (av p.data.toList) (M.suff n 1)
  rw [M.suff_len] at h1
  exact Nat.le_trans h1 (M.L_8 hn)
theorem avs_each {n : Nat} {p : ByteArray} : ∀ zs ∈ avs n p, zs.length = n := fun zs h => M.suff_each zs (List.mem_filter.1 h).1
def F_CountAvoiding (n : Int) (p : ByteArray) : Int × Int := if codeA n (M.isPat p.data.toList) = 0 then (((avs n.toNat p).length : Int), 0) else (0, codeA n (M.isPat p.data.toList))
theorem F_CountA_yes {n : Int} {p : ByteArray} (h : codeA n (M.isPat p.data.toList) = 0) : F_CountAvoiding n p = (((avs n.toNat p).length : Int), 0) := if_pos h
theorem F_CountA_no {n : Int} {p : ByteArray} (h : codeA n (M.isPat p.data.toList) ≠ 0) : F_CountAvoiding n p = (0, codeA n (M.isPat p.data.toList)) := if_neg h
def firstOf (V : List (List Int)) : List Int × Int := match V with | [] => ([], 4) | x :: _ => (x, 0)
def F_FirstAvoiding (n : Int) (p : ByteArray) : List Int × Int := if codeA n (M.isPat p.data.toList) = 0 then firstOf (avs n.toNat p) else ([], codeA n (M.isPat p.data.toList))
theorem F_FirstA_yes {n : Int} {p : ByteArray} (h : codeA n (M.isPat p.data.toList) = 0) : F_FirstAvoiding n p = firstOf (avs n.toNat p) := if_pos h
theorem F_FirstA_no {n : Int} {p : ByteArray} (h : codeA n (M.isPat p.data.toList) ≠ 0) : F_FirstAvoiding n p = ([], codeA n (M.isPat p.data.toList)) := if_neg h
theorem F_FirstAvoiding_len (n : Int) (p : ByteArray) : (F_FirstAvoiding n p).1.length ≤ 1048576 := by
  by_cases h : codeA n (M.isPat p.data.toList) = 0
  · rw [F_FirstA_yes h]
    obtain ⟨_, h1, h2⟩ := codeA_zero h
    cases hV : avs n.toNat p with
    | nil => simp [firstOf]
    | cons x r =>
      have := avs_each (n := n.toNat) (p := p) x (by rw [hV]; exact List.mem_cons_self ..)
      show x.length ≤ _
      omega
  · rw [F_FirstA_no h]; simp
/-- a number and a text to two numbers -/
def GivesNSN (f : Nat) (F : Int → ByteArray → Int × Int) : Prop :=
  ∀ (n : Int) (p : ByteArray) (w : World), p.size ≤ 1048576 → Calls Try.prog f #[.int .i64 n, .string p] w fun e w' => e = .returned (.tuple #[.int .i64 (F n p).1, .int .i64 (F n p).2]) ∧ Below w.heap.size w w'
/-- a number and a text to a tree and a code -/
def GivesNST (f : Nat) (F : Int → ByteArray → List Int × Int) : Prop :=
  ∀ (n : Int) (p : ByteArray) (w : World), p.size ≤ 1048576 → Calls Try.prog f #[.int .i64 n, .string p] w fun e w' => ∃ A' c', e = .returned (.tuple #[.agg #[.slice A' (F n p).1.length c'], .int .i64 (F n p).2]) ∧ Own64 w' w.heap.size (.slice A' (F n p).1.length c') (F n p).1 ∧ Below w.heap.size w w'

set_option maxRecDepth 100000 in
set_option maxHeartbeats 2000000 in
theorem spec_CountAvoiding : GivesNSN 43 F_CountAvoiding := by
  intro n p w hp
  have hC := Lib.hid (l04Few n p w hp)
  obtain ⟨r, hr⟩ : ∃ r, Hid (codeA n (M.isPat p.data.toList) = r) := ⟨_, rfl⟩
  rw [hr.out] at hC
  by_cases h0 : r = 0
  · subst h0
    obtain ⟨hpt, h1, h8⟩ := codeA_zero hr.out
    rw [F_CountA_yes hr.out]
    obtain ⟨m, rfl⟩ := Int.eq_ofNat_of_zero_le (show 0 ≤ n by omega)
    simp only [Int.toNat_natCast]
    have hA := Lib.hid (fun W => l04Avoiding m p W (by omega) (by omega) (Lib.hid hpt) (Lib.hid (M.suff_tree (by omega) (by omega))))
    have hl := avs_len (n := m) (by omega) p
    unfold avs at hl ⊢
    generalize ((M.suff m 1).filter (av p.data.toList)) = V at *
    clear hr hpt
    go_enter Try.func43, Try.ntmps43
    go_wp2_with fail
    refine hC.out.mono ?_
    rintro e w1 ⟨rfl, hb1⟩
    go_wp2_with fail
    refine (hA.out _).mono ?_
    rintro e w2 ⟨A2, c2, hs, rfl, _, hb2⟩
    have hB := btr hb1.out hb2.out
    go_wp2
    go_ret2
    exact ⟨rfl, hB⟩
  · rw [F_CountA_no (by rw [hr.out]; exact h0), hr.out]
    have hq : (r != 0) = true := by simp [h0]
    clear hr h0
    go_enter Try.func43, Try.ntmps43
    go_wp2_with fail
    refine hC.out.mono ?_
    rintro e w1 ⟨rfl, hb1⟩
    have hB := hb1.out
    go_wp2
    go_ret2
    exact ⟨rfl, hB⟩

set_option maxRecDepth 100000 in
set_option maxHeartbeats 2000000 in
theorem spec_FirstAvoiding : GivesNST 45 F_FirstAvoiding := by
  intro n p w hp
  obtain ⟨W, hW⟩ : ∃ W, w.alloc (.cells #[.slice none 0 0] 29) = W := ⟨_, rfl⟩
  have hWs : W.heap.size = w.heap.size + 1 := by rw [← hW]; simp
  have hR : Hid (W.heap[w.heap.size]? = some (.cells #[.slice none 0 0] 29 (0, 0))) := by rw [← hW]; exact World.alloc_heap_new w _
  have hBW : Hid (Below w.heap.size w W) := by rw [← hW]; exact bal (b0 w) _
  have hC := Lib.hid (l04Few n p W hp)
  obtain ⟨r, hr⟩ : ∃ r, Hid (codeA n (M.isPat p.data.toList) = r) := ⟨_, rfl⟩
  rw [hr.out] at hC
  have HW := Lib.hid hW
  clear hW
  by_cases h0 : r = 0
  · subst h0
    obtain ⟨hpt, h1, h8⟩ := codeA_zero hr.out
    rw [F_FirstA_yes hr.out]
    obtain ⟨m, rfl⟩ := Int.eq_ofNat_of_zero_le (show 0 ≤ n by omega)
    simp only [Int.toNat_natCast]
    have hA := Lib.hid (fun W => l04Avoiding m p W (by omega) (by omega) (Lib.hid hpt) (Lib.hid (M.suff_tree (by omega) (by omega))))
    have hl := avs_len (n := m) (by omega) p
    unfold avs at hl ⊢
    generalize ((M.suff m 1).filter (av p.data.toList)) = V at *
    clear hr hpt
    cases V with
    | nil =>
      rw [show firstOf [] = ([], 4) from rfl]
      go_enter Try.func45, Try.ntmps45
      go_wp2_with fail
      rw [HW.out]
      refine hC.out.mono ?_
      rintro e w1 ⟨rfl, hb1⟩
      have hres1 := Lib.hid ((hb1.out.block w.heap.size (lt_of_block hR.out)).trans hR.out)
      have hB1 := Lib.hid (btr hBW.out hb1.out)
      clear hb1
      go_wp2_with fail
      refine (hA.out _).mono ?_
      rintro e w2 ⟨A2, c2, hs, rfl, _, hb2⟩
      have hres2 := (hb2.out.block w.heap.size (lt_of_block hres1.out)).trans hres1.out
      have hr2 := cell_of_one hres2
      have hf2 := free_of_one hres2
      have hB2 := Lib.hid (btr hB1.out hb2.out)
      clear hb2
      go_wp2
      have e1 := (Boxed.set (.slice none 0 0) hres2).cell
      refine bodyPost_ret (v := .tuple #[.agg #[.slice none 0 0], .int .i64 4]) (by simp [results, Try.results45, go_sem, e1]) rfl ?_
      exact ⟨none, 0, rfl, own64_nil _ _, below_setCell hB2.out (Nat.le_refl _) _⟩
    | cons x V =>
      rw [show firstOf (x :: V) = (x, 0) from rfl]
      have hln : (((x :: V).length : Int) == 0) = false := beq_eq_false_iff_ne.2 (by simp; omega)
      have hlp : (0 : Int) < ((x :: V).length : Int) := by simp
      obtain ⟨N, hN⟩ : ∃ N, Hid ((x :: V).length = N) := ⟨_, rfl⟩
      rw [hN.out] at hln hlp hl hA
      go_enter Try.func45, Try.ntmps45
      go_wp2_with fail
      rw [HW.out]
      refine hC.out.mono ?_
      rintro e w1 ⟨rfl, hb1⟩
      have hres1 := Lib.hid ((hb1.out.block w.heap.size (lt_of_block hR.out)).trans hR.out)
      have hB1 := Lib.hid (btr hBW.out hb1.out)
      clear hb1
      go_wp2_with fail
      refine (hA.out _).mono ?_
      rintro e w2 ⟨A2, c2, hs, rfl, hWd, hb2⟩
      obtain ⟨g, rfl⟩ := hWd.out.shape.2 (by omega)
      obtain ⟨h', hh, ho, hhl⟩ := hWd.out.at_ (k := 0) (zs := x) rfl
      have hcl := hWd.out.cell hh
      obtain ⟨g', m', c'⟩ := h'
      simp only at hhl
      subst hhl
      have hz1 := lt_of_block hres1.out
      have hz2 := hB1.out.size
      have hres2 := (hb2.out.block w.heap.size hz1).trans hres1.out
      have hr2 := cell_of_one hres2
      have hf2 := free_of_one hres2
      have hB2 := Lib.hid (btr hB1.out hb2.out)
      have Ho := Lib.hid ho
      clear hb2 hWd ho hh
      go_wp2
      have e1 := (Boxed.set (.slice (some ⟨g', 0, none⟩) x.length c') hres2).cell
      refine bodyPost_ret (v := .tuple #[.agg #[.slice (some ⟨g', 0, none⟩) x.length c'], .int .i64 0]) (by simp [results, Try.results45, go_sem, e1]) rfl ?_
      exact ⟨_, _, rfl, own_mono (own_far Ho.out hz1 _) hz2, below_setCell hB2.out (Nat.le_refl _) _⟩
  · rw [F_FirstA_no (by rw [hr.out]; exact h0), hr.out]
    have hq : (r != 0) = true := by simp [h0]
    clear hr h0
    go_enter Try.func45, Try.ntmps45
    go_wp2_with fail
    rw [HW.out]
    refine hC.out.mono ?_
    rintro e w1 ⟨rfl, hb1⟩
    have hres1 := (hb1.out.block w.heap.size (lt_of_block hR.out)).trans hR.out
    have hr2 := cell_of_one hres1
    have hf2 := free_of_one hres1
    have hB1 := Lib.hid (btr hBW.out hb1.out)
    clear hb1
    go_wp2
    have e1 := (Boxed.set (.slice none 0 0) hres1).cell
    refine bodyPost_ret (v := .tuple #[.agg #[.slice none 0 0], .int .i64 r]) (by simp [results, Try.results45, go_sem, e1]) rfl ?_
    exact ⟨none, 0, rfl, own64_nil _ _, below_setCell hB1.out (Nat.le_refl _) _⟩
end Go.Proofs.Ytmhpobgfgimfcaa

/- The walk of the law FnExactFirstAvoiding, from the contracts of the program's function and of the model's: it returns true, and writes into nothing that was there. -/
namespace Go.Proofs.Ytmhpobgfgimfcaa
open Go.RowKit

set_option maxHeartbeats 4000000 in
set_option maxRecDepth 100000 in
theorem lawFirstAvoiding (F0 : Int → ByteArray → List Int × Int) (hS0 : Hid (GivesNST 45 F0)) (hI0 : Hid (GivesNST 46 F0)) (hF : ∀ (n : Int) (p : ByteArray), (F0 n p).1.length ≤ 1048576)
    (n : Int) (p : ByteArray) (w : World) (_hn0 : -9223372036854775808 ≤ n) (_hn1 : n ≤ 9223372036854775807) :
    Calls Try.prog 11 #[.int .i64 n, .string p] w fun e w' => e = .returned (.bool true) ∧ Below w.heap.size w w' := by
  by_cases hp : p.size ≤ 1048576
  case neg =>
    have hp1 : (1048576 : Int) < (p.size : Int) := by omega
    go_enter Try.func11, Try.ntmps11
    go_wp2
    go_ret
    exact ⟨rfl, b0 w⟩
  have hp1 : ¬ (1048576 : Int) < (p.size : Int) := by omega
  have hf := hF n p
  have hS := Lib.hid (fun W => hS0.out n p W hp)
  have hI := Lib.hid (fun W => hI0.out n p W hp)
  clear hF hS0 hI0
  generalize F0 n p = R at *
  go_enter Try.func11, Try.ntmps11
  go_wp2_with fail
  refine (hS.out _).mono ?_
  rintro e w1 ⟨Aw, cw, rfl, ow, hb⟩
  have B := Lib.hid hb
  have z1 := hb.size
  have Bw := Lib.hid (World.ownsRow.lt ow)
  have Ow := Lib.hid ow
  clear hb ow
  go_wp2_with fail
  -- g0
  refine (hI.out _).mono ?_
  rintro e w5 ⟨Ag, cg, rfl, og, hb⟩
  replace B := Lib.hid (btr (bal B.out _) hb)
  have cW : w5.cell? ⟨w1.heap.size, 0, none⟩ = some (.slice Aw R.1.length cw) := cell_be (by simp) hb
  replace Ow := Lib.hid (own_be (Ow.out.alloc _) hb)
  have Bg := Lib.hid (World.ownsRow.lt og)
  have Gx : Hid (∀ k, (Value.slice Ag R.1.length cg).ownBlock = some k → w1.heap.size < k ∧ k < w5.heap.size) := fun k hk => by have := Bg.out k hk; simp only [World.size_alloc] at this; omega
  have Og := Lib.hid (own_mono (base' := w1.heap.size + 1) og (by simp))
  have z5 : w1.heap.size < w5.heap.size := World.block_lt_of_cell? _ _ cW
  have Wl : Hid (∀ k, (Value.slice Aw R.1.length cw).ownBlock = some k → w.heap.size ≤ k ∧ k < w1.heap.size) := Bw
  clear hb og Bg Bw
  have cW' := cell_al cW (.cells #[.slice Ag R.1.length cg] 29)
  have iG := Lib.hid ((ints_of_own64 Og.out).al (.cells #[.slice Ag R.1.length cg] 29))
  have iW := Lib.hid ((ints_of_own64 Ow.out).al (.cells #[.slice Ag R.1.length cg] 29))
  go_wp2_with fail
  refine (eqTreeT _ _ _ _ _ _ (by omega) iG.out iW.out).mono ?_
  rintro e w6 ⟨rfl, hb⟩
  replace B := Lib.hid (btr (bal B.out _) hb)
  replace cW := cell_be cW' hb
  have cG : w6.cell? ⟨w5.heap.size, 0, none⟩ = some (.slice Ag R.1.length cg) := cell_be (by simp) hb
  replace Ow := Lib.hid (own_be (Ow.out.alloc _) hb)
  replace Og := Lib.hid (own_be (Og.out.alloc _) hb)
  clear hb cW' iG iW
  -- the result is marked
  go_wp2_with fail
  refine (markTree _ _ cg R.1 1 _ _ rfl (by omega) (by omega) (by omega) Og.out).mono ?_
  rintro e w11 ⟨rfl, og, hg⟩
  replace B := Lib.hid (below_grown B.out hg (fun k e => by have := Gx.out k e; omega))
  replace cW := cell_grown cW hg (fun k e => by have := Gx.out k e; omega)
  replace cG := cell_grown cG hg (fun k e => by have := Gx.out k e; omega)
  replace Ow := Lib.hid (Ow.out.kept hg (by
    cases hv : (Value.slice Aw R.1.length cw).ownBlock with
    | none => exact .inl rfl
    | some k => exact .inr fun e => by have h1 := Wl.out k hv; have h2 := Gx.out k e.symm; omega))
  replace Og := Lib.hid (own_mono (base' := 0) og (Nat.zero_le _))
  clear hg og
  go_wp2_with fail
  refine (heldTree _ _ cg 1 _ (by omega) (by omega) (by omega) (ints_of_own64 Og.out)).mono ?_
  rintro e w12 ⟨rfl, hb⟩
  replace B := Lib.hid (btr B.out hb)
  replace cW := cell_be cW hb
  replace cG := cell_be cG hb
  replace Ow := Lib.hid (own_be Ow.out hb)
  replace Og := Lib.hid (own_be Og.out hb)
  clear hb
  go_wp2_with fail
  -- once more
  refine (hI.out _).mono ?_
  rintro e w14 ⟨Ah, ch, rfl, oh, hb⟩
  replace B := Lib.hid (btr B.out hb)
  replace cW := cell_be cW hb
  replace cG := cell_be cG hb
  replace Ow := Lib.hid (own_be Ow.out hb)
  replace Og := Lib.hid (own_be Og.out hb)
  have Oh := Lib.hid oh
  clear hb oh
  have cW' := cell_al cW (.cells #[.slice Ah R.1.length ch] 29)
  have cG' := cell_al cG (.cells #[.slice Ah R.1.length ch] 29)
  have iH := Lib.hid ((ints_of_own64 Oh.out).al (.cells #[.slice Ah R.1.length ch] 29))
  have iW := Lib.hid ((ints_of_own64 Ow.out).al (.cells #[.slice Ah R.1.length ch] 29))
  go_wp2_with fail
  refine (eqTreeT _ _ _ _ _ _ (by omega) iH.out iW.out).mono ?_
  rintro e w15 ⟨rfl, hb⟩
  replace B := Lib.hid (btr (bal B.out _) hb)
  replace cG := cell_be cG' hb
  replace Og := Lib.hid (own_be (Og.out.alloc _) hb)
  clear hb Oh Ow cW cW' cG' iH iW
  go_wp2_with fail
  refine (heldTree _ _ cg 1 _ (by omega) (by omega) (by omega) (ints_of_own64 Og.out)).mono ?_
  rintro e w16 ⟨rfl, hb⟩
  replace B := Lib.hid (btr B.out hb)
  clear hb
  go_wp2
  go_ret
  exact ⟨rfl, B.out⟩
end Go.Proofs.Ytmhpobgfgimfcaa

/- A range over a function whose elements lie in memory: what the iterator has laid ahead of a round (C) is told to the body. No program is named here. -/
namespace Go.Proofs.Ytmhpobgfgimfcaa
open Go.RowKit

section
variable {F : Fence} {n : Nat} {P : Program}

/-- the contract of an iterator that lays its elements in memory: C pre x W: what can be said of x, in W, when it is handed over -/
def SeqRows {α : Type} (F : Fence) (n : Nat) (P : Program) (g : Nat) (lb : Array Value) (encs : α → Array Value) (C : List α → α → World → Prop) (Kp : World → World → Prop) (S Sp : List α → Prop) (w : World) : Prop :=
  ∀ (l : Nat) (J Jx : List α → World → Prop) (W : World), Below w.heap.size w W →
    (∀ s X Y, J s X → X.grownBy Y none → J s Y) →
    (∀ s X Y, Jx s X → X.grownBy Y none → Jx s Y) →
    (∀ pre x W1, J pre W1 → C pre x W1 → YieldAt F (n - 1) P l (encs x) W1 fun e W' =>
      (e = .returned (.bool true) ∧ J (pre ++ [x]) W' ∧ Kp W1 W') ∨ (e = .returned (.bool false) ∧ Jx (pre ++ [x]) W')) →
    J [] W →
    CallsIn F n P g (#[.func (.yield l) #[] #[]] ++ lb) W fun e W' => (∃ v, e = .returned v) ∧ ((∃ ys, S ys ∧ J ys W') ∨ (∃ pre, Sp pre ∧ Jx pre W'))

/-- the two blocks of a loop's book-keeping: the mark's at D, the record's behind it -/
def Books (D : Nat) (r : Loop) (W : World) : Prop := W.heap[D + 1]? = some (.loop r) ∧ W.heap[D]? = some (.deferred (some []))

theorem Books.turn {D : Nat} {r r' : Loop} {W : World} (h : Books D r W) : Books D r' (W.putObj (D + 1) (.loop r')) :=
  ⟨World.putObj_heap_same (Array.getElem?_eq_some_iff.1 h.1).1, (World.putObj_heap_other (by omega)).trans h.2⟩
theorem Books.grown {D : Nat} {r : Loop} {W W' : World} (h : Books D r W) (hg : W.grownBy W' none) : Books D r W' :=
  ⟨(hg.block _ (Array.getElem?_eq_some_iff.1 h.1).1 (by simp)).trans h.1, (hg.block _ (Array.getElem?_eq_some_iff.1 h.2).1 (by simp)).trans h.2⟩
theorem Books.from {D : Nat} {r : Loop} {W W' : World} (h : Books D r W) (hk : KeepsFrom D W W') : Books D r W' :=
  ⟨hk.same _ _ (by omega) h.1 rfl, hk.same _ _ (Nat.le_refl _) h.2 rfl⟩

theorem wpIn_rangeRows {α : Type} {g : Operand} {ps : Array Tmp} {assign body : Code} {Q : Exit → Act → World → Prop} {a : Act} {w : World}
    (hro : F.round = none) (h1 : 1 ≤ n) {gf : Nat} {lb : Array Value} (hg : a.eval g = .func (.func gf) #[] lb) (hFg : F.fn gf) (eg : ∀ args w, (callFunc gf args).run P w = .ok (.enter gf args) w)
    {encs : α → Array Value} {C : List α → α → World → Prop} {Kp : World → World → Prop} {S Sp : List α → Prop} {w0 : World} (hseq : SeqRows F (n - 1) P gf lb encs C Kp S Sp w0) (hb0 : Below w0.heap.size w0 w)
    (hKt : ∀ {X Y Z : World}, Kp X Y → Kp Y Z → Kp X Z) (hKb : ∀ (W : World) (r r' : Loop), W.heap[w.heap.size + 1]? = some (.loop r) → Kp W (W.putObj (w.heap.size + 1) (.loop r'))) (hps : ∀ x, (encs x).size = ps.size)
    (I : List α → World → Prop) (Ix : Code → List α → World → Prop) (hI : OwnFrom w.heap.size I) (hIx : ∀ c, OwnFrom w.heap.size (Ix c)) (hC : OwnFrom w.heap.size (fun (s : List α × α) W => C s.1 s.2 W)) (h0 : I [] w) (a₁ : α → Act)
    (hassign : ∀ (l : Nat) (x : α) (W : World) (K : Act → World → Prop), K (a₁ x) W →
      assign.wpIn (F.inRound l) (n - 1 - 1) P (Exit.then K (fun _ _ _ => False)) { tmps := (ps.zip (encs x)).foldl (fun t (p, v) => t.setIfInBounds p v) a.tmps, defers := [] } W)
    (hbody : ∀ (l : Nat) (pre : List α) (x : α) (W : World), I pre W → C pre x W → body.wpIn (F.inRound l) (n - 1 - 1) P (ownPostG w.heap.size Kp I Ix (pre ++ [x]) W) (a₁ x) W)
    (hdone : ∀ (D : Nat) (xs : List α) (W : World), w.heap.size ≤ D → S xs → I xs W → W.heap[D]? = some (.deferred (some [])) → Q .normal { a with defers := { target := .collected D, args := #[] } :: a.defers } W)
    (hstop : ∀ (D : Nat) (c : Code) (pre : List α) (W : World), w.heap.size ≤ D → Sp pre → Ix c pre W → W.heap[D]? = some (.deferred (some [])) → c.wpIn F n P Q { a with defers := { target := .collected D, args := #[] } :: a.defers } W) :
    (Code.rangeFunc g ps assign body).wpIn F n P Q a w := by
  refine wpIn_rangeFunc fun fn hfn => ?_
  rw [hro]
  obtain ⟨D, hD⟩ : ∃ D, w.heap.size = D := ⟨_, rfl⟩
  obtain ⟨R, hR⟩ : ∃ R : LoopState → Option Code → Loop, R = fun st pe => { state := st, pending := pe, fn, tmps := a.tmps, params := ps, assign, body, defers := D } := ⟨_, rfl⟩
  have hgr : w.grownBy ((w.alloc (.deferred (some []))).alloc (.loop (R .ready none))) none := (World.grownBy_alloc w _ none).trans (World.grownBy_alloc _ _ none)
  have hbk : Books D (R .ready none) ((w.alloc (.deferred (some []))).alloc (.loop (R .ready none))) := by
    refine ⟨?_, (Below.heap_alloc _ _ _ (by rw [← hD]; simp)).trans (by rw [← hD]; exact World.alloc_heap_new w _)⟩
    have := World.alloc_heap_new (w.alloc (.deferred (some []))) (.loop (R .ready none))
    rwa [World.size_alloc, hD] at this
  have hbW : Below w0.heap.size w0 ((w.alloc (.deferred (some []))).alloc (.loop (R .ready none))) := hb0.trans (((Below.refl w.heap.size w).grown hgr (Nat.le_refl _) (fun k e => by cases e)).mono hb0.size)
  have hent := run_enterLoop_outer (P := P) (w := w) fn a.tmps ps assign body
  rw [hD] at hent hI hIx hC hbody hdone hstop hKb
  have hi1 : I [] ((w.alloc (.deferred (some []))).alloc (.loop (R .ready none))) := hI _ _ _ _ h0 hgr (fun k e => by cases e)
  generalize hW1 : (w.alloc (.deferred (some []))).alloc (.loop (R .ready none)) = W1 at *
  refine ⟨D + 1, [{ target := .collected D, args := #[] }], W1, { target := .fn (.func gf) lb, args := #[.func (.yield (D + 1)) #[] #[]] }, W1, gf, #[.func (.yield (D + 1)) #[] #[]] ++ lb, W1, ?_, ?_, ?_, ?_, fun _ => h1, ?_⟩
  · rw [hent, ← hW1, hR]
  · simp only [resolve, hg]
    simp [go_sem]
  · intro f' hf'
    simp [Target.leads] at hf'
    rw [← hf']
    exact hFg
  · simp [invoke, go_sem, eg]
  refine (hseq (D + 1) (fun pre W => I pre W ∧ Books D (R .ready none) W) (fun pre W => ∃ c, Ix c pre W ∧ Books D (R .done (some c)) W) W1 hbW
    (fun s X Y h hg => ⟨hI _ _ _ _ h.1 hg (fun k e => by cases e), h.2.grown hg⟩) (fun s X Y ⟨c, h, hk⟩ hg => ⟨c, hIx c _ _ _ _ h hg (fun k e => by cases e), hk.grown hg⟩) ?_ ⟨hi1, hbk⟩).mono ?_
  · -- one round
    rintro pre x W ⟨hi, hk⟩ hc
    have hy := run_yield (P := P) (args := encs x) hk.1 (by rw [hR]; exact hps x)
    refine ⟨fn, _, assign, body, by rw [hR] at hy; exact hy, roundIn_of_wpIn hfn (hassign _ x W _ ⟨_, run_beginRound hk.1 (by rw [hR]), ?_⟩)⟩
    have hk2 := hk.turn (r' := { R .ready none with state := .busy })
    refine wpIn_mono (hbody _ pre x _ (hI.putObj _ hi (by omega) hk.1 rfl) (hC.putObj (s := (pre, x)) _ hc (by omega) hk.1 rfl)) ?_
    have fin : ∀ (jump : Option Code) (W3 : World), KeepsFrom D (W.putObj (D + 1) (.loop { R .ready none with state := .busy })) W3 →
        (Instr.endRound (D + 1) jump).run P W3 = .ok (.bool jump.isNone) (W3.putObj (D + 1) (.loop (R (if jump.isNone then .ready else .done) jump))) ∧ Books D { R .ready none with state := .busy } W3 := fun jump W3 h3 => by
      have h4 := hk2.from h3
      have := run_endRound (P := P) jump h4.1
      rw [hR] at this ⊢
      exact ⟨this, by rw [hR] at h4; exact h4⟩
    have hKs : Kp W (W.putObj (D + 1) (.loop { R .ready none with state := .busy })) := hKb _ _ _ hk.1
    intro e a3 W3 hp
    cases e with
    | normal =>
      obtain ⟨p1, p2, p3⟩ := hp
      obtain ⟨q1, q2⟩ := fin none W3 p1
      exact ⟨_, _, q1, .inl ⟨rfl, ⟨hI.putObj _ p3 (by omega) q2.1 rfl, q2.turn⟩, hKt (hKt hKs p2) (hKb _ _ _ q2.1)⟩⟩
    | ret =>
      obtain ⟨p1, p3⟩ := hp
      obtain ⟨q1, q2⟩ := fin (some .ret) W3 p1
      exact ⟨_, _, q1, .inr ⟨rfl, .ret, (hIx _).putObj _ p3 (by omega) q2.1 rfl, q2.turn⟩⟩
    | exit id =>
      obtain ⟨p1, p3⟩ := hp
      obtain ⟨q1, q2⟩ := fin (some (.exit id)) W3 p1
      exact ⟨_, _, q1, .inr ⟨rfl, .exit id, (hIx _).putObj _ p3 (by omega) q2.1 rfl, q2.turn⟩⟩
    | goto t =>
      obtain ⟨p1, p3⟩ := hp
      obtain ⟨q1, q2⟩ := fin (some (.goto t)) W3 p1
      exact ⟨_, _, q1, .inr ⟨rfl, .goto t, (hIx _).putObj _ p3 (by omega) q2.1 rfl, q2.turn⟩⟩
    | panic ch => exact hp.elim
    | outgrown => exact hp.elim
  · -- behind the iterator
    rintro e W2 ⟨⟨v, rfl⟩, (⟨xs, hS, hi, hk⟩ | ⟨pre, hSp, c, hi, hk⟩)⟩
    · have hr := run_endLoop (P := P) hk.1 (by rw [hR]; simp)
      refine ⟨none, _, by rw [hR] at hr; exact hr, hdone D xs _ (Nat.le_refl _) hS (hI.putObj _ hi (by omega) hk.1 rfl) ((World.putObj_heap_other (by omega)).trans hk.2)⟩
    · have hr := run_endLoop (P := P) hk.1 (by rw [hR]; simp)
      refine ⟨some c, _, by rw [hR] at hr; exact hr, hstop D c pre _ (Nat.le_refl _) hSp ((hIx c).putObj _ hi (by omega) hk.1 rfl) ((World.putObj_heap_other (by omega)).trans hk.2)⟩
end
end Go.Proofs.Ytmhpobgfgimfcaa

/- slices.Backward: the iterator over the indices and the elements of a slice from its end, for every loop body that keeps what lay below a block and the box of the slice. -/
namespace Go.Proofs.Ytmhpobgfgimfcaa
open Go.RowKit Go.Shelf
attribute [local go_sem] Oper.semAt_some

set_option maxRecDepth 100000 in
set_option maxHeartbeats 2000000 in
theorem back1 (encs : Nat → Array Value) (n : Nat) (hn : 1 ≤ n) (l Bd n₀ : Nat) (A : Option Addr) (xs : List Int) (c : Nat) (hx : xs.length ≤ 1000)
    (hmk : Hid (∀ k v (x : Int), k + 1 + v = xs.length → xs[v]? = some x → encs k = #[.int .i64 (v : Int), .int .i64 x])) (J Jx : List Nat → World → Prop)
    (hY : ∀ pre x W, J pre W → (pre = List.range x ∧ x < xs.length) → YieldAt Fence.wide (n - 1) Try.prog l (encs x) W fun e W' =>
      (e = .returned (.bool true) ∧ J (pre ++ [x]) W' ∧ KeepK n₀ Bd W W') ∨ (e = .returned (.bool false) ∧ Jx (pre ++ [x]) W'))
    (W : World) (hBd : Boxed W Bd 23 (.slice A xs.length c)) (hI : Ints W n₀ A xs) (_ : n₀ ≤ W.heap.size) (h0 : J [] W) :
    CallsIn Fence.wide n Try.prog 143 #[.func (.yield l) #[] #[], .pointer (some ⟨Bd, 0, none⟩)] W fun e W' => (∃ u, e = .returned u) ∧
      ((∃ ys, ys = List.range xs.length ∧ J ys W') ∨ (∃ pre, True ∧ Jx pre W')) := by
  have hcd := hBd.cell
  have HBd := Lib.hid hBd
  have HI := Lib.hid hI
  obtain ⟨m, hm⟩ : ∃ m, Hid (xs.length = m) := ⟨_, rfl⟩
  rw [hm.out] at hx hmk hY hcd HBd ⊢
  clear hI hBd
  refine callsIn_of_wp Try.func143 rfl trivial ?_ rfl
  simp only [Try.ntmps143, List.size_toArray, List.length_cons, List.length_nil, Nat.reduceAdd, Nat.reduceSub, Array.replicate_succ, Array.replicate_zero, List.push_toArray, List.append_toArray, List.nil_append, List.cons_append]
  gi_wp2
  gi_loopw [3] (fun i wr => ∃ k : Nat, k ≤ m ∧ i = .int .i64 ((m : Int) - 1 - (k : Int)) ∧ J (List.range k) wr ∧ Hid (KeepK n₀ Bd W wr))
    (fun i _ => (intOf i + 1).toNat)
  case atStart => exact ⟨0, Nat.zero_le _, by simp, h0, ⟨Below.refl _ _, rfl⟩⟩
  case round =>
    obtain ⟨k, hk, rfl, hJs, hnx⟩ := hrel
    clear hcd
    by_cases hlt : k < m
    · obtain ⟨v, hv⟩ : ∃ v : Nat, k + 1 + v = m := ⟨m - 1 - k, by omega⟩
      have hv2 : (m : Int) - 1 - (k : Int) = (v : Int) := by omega
      have hvm : (v : Int) < (m : Int) := by omega
      have hv0 : (0 : Int) ≤ (v : Int) := by omega
      obtain ⟨x, hX⟩ : ∃ x, xs[v]? = some x := ⟨_, List.getElem?_eq_getElem (by have := hm.out; omega)⟩
      have hYk := hY _ k wr hJs ⟨rfl, hlt⟩
      rw [hmk.out k v x hv hX] at hYk
      obtain ⟨fn, tmps, assign, body, hy, hR⟩ := hYk
      have hbd1 : Boxed wr Bd 23 (.slice A m c) := hnx.out.2.trans HBd.out
      have hc1 := hbd1.cell
      obtain ⟨b, off, rfl, hbB, hcells⟩ := (HI.out.below hnx.out.1 (Nat.le_refl _)) (by have := hm.out; omega)
      have hc0 := hcells v x hX
      rw [hv2]
      clear hbd1 hcells hX hbB hJs
      gi_wp2
      refine hR.mono ?_
      rintro e W3 (⟨rfl, hJ3, hk3⟩ | ⟨rfl, hJx3⟩)
      · have hk4 : Hid (KeepK n₀ Bd W W3) := hnx.out.t hk3
        have hv3 : (v : Int) - 1 = (m : Int) - 1 - ((k + 1 : Nat) : Int) := by omega
        clear hk3 hy hc1 hc0
        gi_wp2
        go_roundw
        case rel => exact ⟨k + 1, by omega, by go_num, by rw [List.range_succ]; exact hJ3, hk4⟩
        case measure => simp [intOf]; omega
      · gi_wp2
        refine bodyPost_ret (results_none rfl _ _ _) rfl ?_
        exact ⟨⟨_, rfl⟩, .inr ⟨_, trivial, hJx3⟩⟩
    · obtain rfl : k = m := by omega
      have hv2 : (k : Int) - 1 - (k : Int) = -1 := by omega
      rw [hv2]
      gi_wp2
      go_end0
      exact ⟨⟨_, rfl⟩, .inl ⟨_, rfl, hJs⟩⟩

set_option maxHeartbeats 1000000 in
/-- slices.Backward: the argument is boxed; the function value captures the box -/
theorem backIn (n : Nat) (A : Option Addr) (m c : Nat) (w : World) :
    CallsIn Fence.wide n Try.prog 134 #[.slice A m c] w fun e w' => e = .returned (.func (.func 143) #[] #[.pointer (some ⟨w.heap.size, 0, none⟩)]) ∧
      w' = w.alloc (.cells #[.slice A m c] 23) := by
  refine callsIn_of_wp Try.func134 rfl trivial ?_ rfl
  simp only [Try.ntmps134, List.size_toArray, List.length_cons, List.length_nil, Nat.reduceAdd, Nat.reduceSub, Array.replicate_succ, Array.replicate_zero, List.push_toArray, List.append_toArray, List.nil_append, List.cons_append]
  gi_wp2
  go_ret
  exact ⟨rfl, rfl⟩

/-- what a range over a slice from its end gives: all elements, in order, or a beginning where a round has said 'no more' -/
theorem back_rows (encs : Nat → Array Value) (n : Nat) (hn : 1 ≤ n) (Bd n₀ : Nat) (A : Option Addr) (xs : List Int) (c : Nat) (hx : xs.length ≤ 1000)
    (hmk : ∀ k v (x : Int), k + 1 + v = xs.length → xs[v]? = some x → encs k = #[.int .i64 (v : Int), .int .i64 x]) (w : World) (hBd : Boxed w Bd 23 (.slice A xs.length c)) (hI : Ints w n₀ A xs) (hn0 : n₀ ≤ w.heap.size) :
    SeqRows Fence.wide n Try.prog 143 #[.pointer (some ⟨Bd, 0, none⟩)] encs (fun pre x _ => pre = List.range x ∧ x < xs.length) (KeepK n₀ Bd)
      (fun ys => ys = List.range xs.length) (fun _ => True) w := fun l J Jx W hW _ _ hY h0 =>
  back1 encs n hn l Bd n₀ A xs c hx hmk J Jx hY W ((hW.block Bd hBd.lt).trans hBd) (hI.below hW hn0) (Nat.le_trans hn0 hW.size) h0
end Go.Proofs.Ytmhpobgfgimfcaa

/- nextDegrees: the next tree in a row of its own, or nil (a range over a slice from its end, with a return in it). -/
namespace Go.Proofs.Ytmhpobgfgimfcaa
open Go.RowKit Go.Shelf Go.Maps
attribute [local go_sem] Oper.semAt_some

theorem keepsOthers_be {W W' : World} (h : Below W.heap.size W W') : KeepsOthers W W' := ⟨h.size, fun k _ hk _ => (h.block k (Array.getElem?_eq_some_iff.1 hk).1).trans hk⟩
theorem keepK_turn {n₀ Bd D : Nat} (hn : n₀ ≤ D) (hB : Bd < D) (W : World) (o o' : Obj) (h : W.heap[D + 1]? = some o) : KeepK n₀ Bd W (W.putObj (D + 1) o') := by
  have hl := (Array.getElem?_eq_some_iff.1 h).1
  exact ⟨(Below.refl n₀ W).grown (grownBy_putObj' W (D + 1) o') (by omega) (fun k e => by injection e with e; omega), (grownBy_putObj' W (D + 1) o').block Bd (by omega) (fun e => by injection e with e; omega)⟩

/-- what nextDegrees hands back -/
def IsNext (w : World) (B : Nat) (xs : List Int) (e : Ending) (w' : World) : Prop :=
  match M.nextF 1 xs with
  | some ys => ∃ g c', e = .returned (.slice (some ⟨g, 0, none⟩) ys.length c') ∧ Own64 w' B (.slice (some ⟨g, 0, none⟩) ys.length c') ys ∧ Below B w w'
  | none => e = .returned (.slice none 0 0) ∧ Below B w w'

set_option maxRecDepth 100000 in
set_option maxHeartbeats 8000000 in
theorem nextDegrees_in (A : Option Addr) (xs : List Int) (c : Nat) (w : World) (ht : Hid (M.isTree xs = true)) (hcl : xs.length ≤ c) (hcu : c ≤ 9223372036854775807) (hI : Hid (Ints w w.heap.size A xs)) :
    CallsIn Fence.wide 5 Try.prog 120 #[.slice A xs.length c] w fun e w' => IsNext w w.heap.size xs e w' := by
  obtain ⟨i0, hi0, hz0, hz1, hz2⟩ := info_parts info64
  have hx := (M.tree_len ht.out).2
  have hx1 := (M.tree_len ht.out).1
  obtain ⟨b, off, rfl, _⟩ := hI.out (by omega)
  refine callsIn_of_wp_marks Try.func120 rfl trivial ?_ rfl
  simp only [Try.ntmps120, List.size_toArray, List.length_cons, List.length_nil, Nat.reduceAdd, Nat.reduceSub, Array.replicate_succ, Array.replicate_zero, List.push_toArray, List.append_toArray, List.nil_append, List.cons_append]
  gi_wp2_with (refine ⟨trivial, ?_⟩; gi_at_call 134; refine (backIn 4 (some ⟨b, off, none⟩) xs.length c _).mono ?_; rintro e w' ⟨rfl, rfl⟩)
  have bG0 := Boxed.new w 23 (.slice (some ⟨b, off, none⟩) xs.length c)
  have bR0 := Boxed.new (w.alloc (.cells #[.slice (some ⟨b, off, none⟩) xs.length c] 23)) 23 (.slice none 0 0)
  have bM0 := Boxed.new ((w.alloc (.cells #[.slice (some ⟨b, off, none⟩) xs.length c] 23)).alloc (.cells #[.slice none 0 0] 23)) 2 (.int .i64 0)
  have bD0 := Boxed.new (((w.alloc (.cells #[.slice (some ⟨b, off, none⟩) xs.length c] 23)).alloc (.cells #[.slice none 0 0] 23)).alloc (.cells #[.int .i64 0] 2)) 23 (.slice (some ⟨b, off, none⟩) xs.length c)
  simp only [World.size_alloc] at bR0 bM0 bD0
  have bG := ((bG0.alloc (.cells #[.slice none 0 0] 23)).alloc (.cells #[.int .i64 0] 2)).alloc (.cells #[.slice (some ⟨b, off, none⟩) xs.length c] 23)
  have bR := (bR0.alloc (.cells #[.int .i64 0] 2)).alloc (.cells #[.slice (some ⟨b, off, none⟩) xs.length c] 23)
  have bM := bM0.alloc (.cells #[.slice (some ⟨b, off, none⟩) xs.length c] 23)
  have hB0 := bal (bal (bal (bal (b0 w) (.cells #[.slice (some ⟨b, off, none⟩) xs.length c] 23)) (.cells #[.slice none 0 0] 23)) (.cells #[.int .i64 0] 2)) (.cells #[.slice (some ⟨b, off, none⟩) xs.length c] 23)
  obtain ⟨W0, hW0⟩ : ∃ W0, W0 = ((((w.alloc (.cells #[.slice (some ⟨b, off, none⟩) xs.length c] 23)).alloc (.cells #[.slice none 0 0] 23)).alloc (.cells #[.int .i64 0] 2)).alloc (.cells #[.slice (some ⟨b, off, none⟩) xs.length c] 23)) := ⟨_, rfl⟩
  have hsz : W0.heap.size = w.heap.size + 1 + 1 + 1 + 1 := by rw [hW0]; simp
  rw [← hW0] at bG bR bM bD0 hB0 ⊢
  clear hW0 bG0 bR0 bM0
  have h15 : 1 ≤ 5 := by omega
  have hend := M.next_end (xs := xs)
  have hdue := M.due_end_N ht.out
  refine wpIn_rangeRows rfl h15 (gf := 143) (lb := #[.pointer (some ⟨w.heap.size + 1 + 1 + 1, 0, none⟩)]) rfl trivial (enters_of Try.func143 (by kernel_rfl) rfl)
    (back_rows (fun k => #[.int .i64 ((xs.length - 1 - k : Nat) : Int), .int .i64 (xs[xs.length - 1 - k]?.getD 0)]) 4 (by omega) (w.heap.size + 1 + 1 + 1) w.heap.size (some ⟨b, off, none⟩) xs c (by omega) (fun k v x hk hv => by rw [show xs.length - 1 - k = v by omega, hv]; rfl) W0 bD0 (hI.out.below hB0 (Nat.le_refl _)) (by omega)) (Below.refl _ _) (fun h k => h.t k)
    (fun W r r' h => by rw [hsz] at h ⊢; exact keepK_turn (by omega) (by omega) W (.loop r) (.loop r') h) (fun _ => rfl)
    (fun pre W => (∃ m : Nat, Boxed W (w.heap.size + 1 + 1) 2 (.int .i64 (m : Int)) ∧ (pre = List.range pre.length → pre.length ≤ xs.length → m = M.dueN xs (xs.length - pre.length) ∧ M.nextF (M.dueN xs (xs.length - pre.length)) (xs.drop (xs.length - pre.length)) = none)) ∧
      Boxed W w.heap.size 23 (.slice (some ⟨b, off, none⟩) xs.length c) ∧ Boxed W (w.heap.size + 1) 23 (.slice none 0 0) ∧ Boxed W (w.heap.size + 1 + 1 + 1) 23 (.slice (some ⟨b, off, none⟩) xs.length c) ∧ Below w.heap.size w W)
    (fun cc _ W => cc = .ret ∧ ∃ ys g c', M.nextF 1 xs = some ys ∧ Boxed W (w.heap.size + 1) 23 (.slice (some ⟨g, 0, none⟩) ys.length c') ∧ Own64 W (w.heap.size + 1 + 1) (.slice (some ⟨g, 0, none⟩) ys.length c') ys ∧ Below w.heap.size w W)
    (fun pre X Y r' ⟨⟨m, h1, h2⟩, h3, h4, h5, h6⟩ hg hr =>
      ⟨⟨m, h1.kept hg (fun e => by have := (hr _ e.symm).1; omega), h2⟩, h3.kept hg (fun e => by have := (hr _ e.symm).1; omega), h4.kept hg (fun e => by have := (hr _ e.symm).1; omega), h5.kept hg (fun e => by have := (hr _ e.symm).1; omega), h6.grown hg h6.size (fun k e => by have := (hr _ e).1; omega)⟩)
    (fun cc pre X Y r' ⟨h1, ys, g, c', h2, h3, h4, h5⟩ hg hr => ⟨h1, ys, g, c', h2, h3.kept hg (fun e => by have := (hr _ e.symm).1; omega), row_kept h4 hg hr, h5.grown hg h5.size (fun k e => by have := (hr _ e).1; omega)⟩)
    (fun _ _ _ _ h _ _ => h)
    ⟨⟨0, bM, fun _ _ => ⟨by simp [hdue], by simpa using hend⟩⟩, bG, bR, bD0, hB0⟩
    (fun x => { tmps := #[.slice (some ⟨b, off, none⟩) xs.length c, .pointer (some ⟨w.heap.size, 0, none⟩), .pointer (some ⟨w.heap.size + 1, 0, none⟩), .pointer (some ⟨w.heap.size + 1 + 1, 0, none⟩), .int .i64 ((xs.length - 1 - x : Nat) : Int), .int .i64 (xs[xs.length - 1 - x]?.getD 0), undef, undef, .slice (some ⟨b, off, none⟩) xs.length c, .func (.func 143) #[] #[.pointer (some ⟨w.heap.size + 1 + 1 + 1, 0, none⟩)], .int .i64 ((xs.length - 1 - x : Nat) : Int), .int .i64 (xs[xs.length - 1 - x]?.getD 0), undef, undef, undef, undef, undef, undef, undef, undef, undef, undef, undef, undef, undef, undef, undef, undef, undef, undef, undef, undef, undef, undef, undef, undef, undef], defers := [] }) ?assign ?body ?done ?stop
  case assign =>
    intro l x W K hK
    gi_wp2
    exact hK
  case body =>
    rintro l pre x W ⟨⟨m, h1, h2⟩, h3, h4, h5, h6⟩ ⟨hpre, hlt⟩
    subst hpre
    obtain ⟨hm, hnone⟩ := h2 (by simp) (by simp; omega)
    rw [List.length_range] at hm hnone
    obtain ⟨v, hv⟩ : ∃ v, v + 1 + x = xs.length := ⟨xs.length - 1 - x, by omega⟩
    obtain ⟨d, hd, hd24⟩ := M.tree_degN ht.out (v := v) (by omega)
    rw [show xs.length - x = v + 1 by omega] at hm hnone
    have hmle := M.due_left ht.out (v := v + 1)
    have hdv := M.dueN_succ ht.out hd
    have hdp := M.dueN_pos ht.out (v := v) (by omega)
    rw [show xs.length - 1 - x = v by omega, hd, Option.getD_some]
    have hWsz := h6.size
    have hleft : (xs.length : Int) - 1 - (v : Int) = (x : Int) := by omega
    have c1 := h1.cell
    have c3 := h3.cell
    by_cases hmx : m < x
    · have hmx2 : (m : Int) < (x : Int) := by omega
      have hhit := M.next_hit ht.out hd hnone (by omega)
      rw [show xs.length - 1 - v = x by omega, ← hm] at hhit
      have Hhit := Lib.hid hhit
      have hvc : (v : Int) ≤ (c : Int) := by omega
      have hv0 : (0 : Int) ≤ (v : Int) := by omega
      obtain ⟨T, hT⟩ : ∃ T, Hid (xs.take v = T) := ⟨_, rfl⟩
      have hTl : Hid (T.length = v) := by show _ = _; rw [← hT.out, List.length_take]; omega
      have hIT : Hid (Ints W W.heap.size (some ⟨b, off, none⟩) T) := by
        have := ints_sub ((hI.out.below h6 (Nat.le_refl _)).more hWsz) 0 v
        rw [← hT.out]
        simpa [Hid] using this
      have HCl := Lib.hid (clone ⟨b, off, none⟩ T v c W hTl (by omega) hIT)
      have HAF : Hid (∀ (A : Option Addr) (n c' : Nat) (zs : List Int) (W' : World), n ≤ 1000 → Hid (Own64 W' W.heap.size (.slice A n c') zs) → W.heap.size ≤ W'.heap.size → Calls Try.prog 119 #[.slice A n c', .int .i64 (x : Int), .int .i64 ((m : Int) + 1)] W' fun e w' => ∃ A' c'', e = .returned (.slice A' (n + x) c'') ∧ Own64 w' W.heap.size (.slice A' (n + x) c'') (zs ++ M.firstL x (m + 1)) ∧ Below W.heap.size W' w') := fun A n c' zs W' hn ho hB => by
        have := appendFirst A n c' zs x (m + 1) W' W.heap.size (by omega) (by omega) (by omega) (by omega) hn ho hB
        rw [show ((m + 1 : Nat) : Int) = (m : Int) + 1 by omega] at this
        exact this
      clear hhit hmle hdv hdp hnone h2 hm hIT
      gi_wp2_with (first | (refine ⟨trivial, ?_⟩; gi_at_call 98; refine (CallsIn.inRound l (callsIn_wide.2 HCl.out)).mono ?_; rintro e W1 ⟨A1, c1', rfl, ho1, hb1⟩; have zb1 := hb1.size; have hT1 := hTl.out) | (gi_at_builtin; refine wpListIn_append_own _ rfl _ _ 23 rfl W.heap.size 2 i0 (.int .i64 0) 1 8 Try.underlying23 hi0 hz0 hz1 hz2 rfl (by decide) _ _ _ rfl (ho1.alloc _) ⟨W1.heap.size, 0, none⟩ 1 1 [.int .i64 ((d : Int) + 1)] rfl rfl (cell_one_new _ _ _) (by simp [Value.oneCell']) (by unfold maxLen; omega) (by omega) (by simp; omega) ?_; intro v' W2 hown2 hg2 _; obtain ⟨g2, c2, rfl⟩ := ownsRow_succ hown2; have hb2 : Hid (Below W.heap.size W W2) := (hb1.alloc zb1 _).grown hg2 (by simp; omega) (fun k e => (World.ownsRow.lt ho1 k e).1); have zb2 := hb2.out.size; have cM2 := (show Boxed W2 (w.heap.size + 1 + 1) 2 (.int .i64 (m : Int)) from (hb2.out.block _ h1.lt).trans h1).cell; have ho2 : Hid (Own64 W2 W.heap.size (.slice (some ⟨g2, 0, none⟩) (v + 1) c2) (T ++ [(d : Int) + 1])) := (by show Own64 _ _ _ _; unfold Own64; rw [List.length_append, List.map_append, hTl.out]; rw [hTl.out] at hown2; exact hown2)) | (refine ⟨trivial, ?_⟩; gi_at_call 119; refine (CallsIn.inRound l (callsIn_wide.2 (HAF.out _ _ _ _ _ (by omega) ho2 zb2))).mono ?_; rintro e W3 ⟨A3, c3, rfl, ho3, hb3⟩; have hb4 : Hid (Below W.heap.size W W3) := hb2.out.trans hb3; have bR3 : Hid (Boxed W3 (w.heap.size + 1) 23 (.slice none 0 0)) := (hb4.out.block _ h4.lt).trans h4; have cR3 := bR3.out.cell; have fR3 := bR3.out.frozen))
      have hys : Hid ((T ++ [(d : Int) + 1] ++ M.firstL x (m + 1)).length = xs.length) := by show _ = _; rw [List.length_append, List.length_append, hTl.out, M.firstL_len]; exact hv
      have z1 := h1.lt
      rw [hv] at ho3
      obtain ⟨g3, rfl⟩ : ∃ g, A3 = some ⟨g, 0, none⟩ := by
        rcases ho3.2 with ⟨h0, _⟩ | ⟨g, cap, cur, hvv, _⟩
        · injection h0 with _ e _; omega
        · injection hvv with e1; exact ⟨g, e1⟩
      have hN : M.nextF 1 xs = some (T ++ [(d : Int) + 1] ++ M.firstL x (m + 1)) := by rw [← hT.out]; exact Hhit.out
      refine ⟨((keepsOthers_be hb4.out).trans (KeepsOthers.setCell _ _ _)).from _, rfl, _, g3, c3, hN, ?_, ?_, ?_⟩
      · rw [hys.out]; exact bR3.out.set _
      · rw [hys.out]; exact own_mono (own_far ho3 (by omega) _) (by omega)
      · exact h6.trans (below_setCell (hb4.out.mono hWsz) (by omega) _)
    · have hmx2 : ¬ (m : Int) < (x : Int) := by omega
      have hmiss := Lib.hid (M.next_miss ht.out hd hnone (by omega))
      obtain ⟨m', hm'⟩ : ∃ m', M.dueN xs v = m' := ⟨_, rfl⟩
      have hmm : (m : Int) + (1 - (d : Int)) = (m' : Int) := by omega
      have hm24 : (m' : Int) ≤ 24 := by have := M.due_left ht.out (v := v); omega
      have hwr : IntKind.i64.wrap (m' : Int) = (m' : Int) := IntWalk.i64_in _ (by omega)
      have f1 := h1.frozen
      have HM := Lib.hid hm'
      clear hmle hdv hdp hnone h2 hm hm'
      gi_wp2
      try rw [IntWalk.wrap64_in _ (by omega)]
      have k1 : Below w.heap.size W (W.setCell ⟨w.heap.size + 1 + 1, 0, none⟩ (.int .i64 (m' : Int))) := below_setCell (Below.refl _ _) (by omega) _
      have k5 : Boxed (W.setCell ⟨w.heap.size + 1 + 1, 0, none⟩ (.int .i64 (m' : Int))) (w.heap.size + 1 + 1 + 1) 23 (.slice (some ⟨b, off, none⟩) xs.length c) := h5.other (by omega) _
      refine ⟨(KeepsOthers.setCell W _ _).from _, ⟨k1, k5.trans (show W.heap[_]? = _ from h5).symm⟩, ⟨m', h1.set _, fun _ _ => ?_⟩, h3.other (by omega) _, h4.other (by omega) _, k5, h6.trans k1⟩
      rw [List.length_append, List.length_range, List.length_singleton, show xs.length - (x + 1) = v by omega]
      exact ⟨HM.out.symm, hmiss.out⟩
  case done =>
    rintro D ys W hD rfl ⟨⟨m, h1, h2⟩, h3, h4, h5, h6⟩ hK
    have hn : Hid (M.nextF 1 xs = none) := by
      have := (h2 (by simp) (by simp)).2
      simp only [List.length_range, Nat.sub_self, List.drop_zero] at this
      rw [M.dueN_zero] at this
      exact this
    have c1 := h4.cell
    have f1 := h4.frozen
    have HK := Lib.hid hK
    have H6 := Lib.hid h6
    have H4 := Lib.hid h4
    clear h1 h2 h3 h4 h5 h6 hK
    gi_wp2
    have hne : D ≠ w.heap.size + 1 := by omega
    have hKD : (W.setCell ⟨w.heap.size + 1, 0, none⟩ (.slice none 0 0)).heap[D]? = some (.deferred (some [])) := (Below.heap_setCell W ⟨w.heap.size + 1, 0, none⟩ (.slice none 0 0) D hne).trans HK.out
    have hR := ((H4.out.set (.slice none 0 0)).kept (grownBy_putObj' _ D (.deferred none)) (fun e => by injection e with e; omega)).cell
    refine ⟨by simp, .inl ⟨_, _, rfl, run_takeDeferred hKD, ?_⟩⟩
    refine ⟨.slice none 0 0, by simp [results, Try.results120, go_sem, hR], ?_⟩
    unfold IsNext
    rw [hn.out]
    exact ⟨rfl, (below_setCell H6.out (by omega) _).trans (belowK_b (w := w) (Nat.le_refl _) _ D _ _ (by omega) hKD rfl rfl)⟩
  case stop =>
    rintro D cc pre W hD _ ⟨rfl, ys, g, c', h2, h3, h4, h5⟩ hK
    have c1 := h3.cell
    gi_wp2
    have hR := (h3.kept (grownBy_putObj' W D (.deferred none)) (fun e => by injection e with e; omega)).cell
    refine ⟨by simp, .inl ⟨_, _, rfl, run_takeDeferred hK, ?_⟩⟩
    refine ⟨.slice (some ⟨g, 0, none⟩) ys.length c', by simp [results, Try.results120, go_sem, hR], ?_⟩
    unfold IsNext
    rw [h2]
    exact ⟨g, c', rfl, own_mono (ownsRow_putObj h4 _ hK rfl) (by omega), h5.trans (belowK_b (w := w) (Nat.le_refl _) W D _ _ (by omega) hK rfl rfl)⟩

theorem nextDegrees (A : Option Addr) (xs : List Int) (c : Nat) (w : World) (ht : Hid (M.isTree xs = true)) (hcl : xs.length ≤ c) (hcu : c ≤ 9223372036854775807) (hI : Hid (Ints w w.heap.size A xs)) :
    Calls Try.prog 120 #[.slice A xs.length c] w fun e w' => IsNext w w.heap.size xs e w' :=
  (callsIn_wide (n := 5)).1 (nextDegrees_in A xs c w ht hcl hcu hI)
end Go.Proofs.Ytmhpobgfgimfcaa
