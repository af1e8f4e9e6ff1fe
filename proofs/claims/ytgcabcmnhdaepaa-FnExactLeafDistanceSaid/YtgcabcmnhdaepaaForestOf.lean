/- forestOf: the nodes in postorder with the sizes of their subtrees, in memory of its own; comparisonBy, inCommonBy, distanceBy. -/
import Derived.Test.YtgcabcmnhdaepaaMostC
import Derived.Test.YtgcabcmnhdaepaaEnd
import Derived.Carry
namespace Go.Proofs.Ytgcabcmnhdaepaa
open Go.RowKit Go.Maps Go.WideMaps

theorem infoNode : (Try.prog.info? 161).map (fun i => (i.zero, i.size, i.bytes)) = some (some (.agg #[.int .i64 0, .int .i64 0]), 2, 16) := by kernel_rfl

namespace M
/-- nodes with sizes, as the cells of a row -/
def pairCells (l : List (Int × Int)) : List Value := l.flatMap fun x => [.int .i64 x.1, .int .i64 x.2]
theorem pairCells_len (l : List (Int × Int)) : (pairCells l).length = l.length * 2 := by
  induction l with
  | nil => rfl
  | cons x r ih => simp only [pairCells, List.flatMap_cons, List.length_append, List.length_cons, List.length_nil] at ih ⊢; omega
theorem pairCells_snoc (l : List (Int × Int)) (x : Int × Int) : pairCells (l ++ [x]) = pairCells l ++ [.int .i64 x.1, .int .i64 x.2] := by simp [pairCells]
theorem pairCells_at : ∀ (l : List (Int × Int)) (j : Nat) (x : Int × Int), l[j]? = some x → (pairCells l)[j * 2]? = some (.int .i64 x.1) ∧ (pairCells l)[j * 2 + 1]? = some (.int .i64 x.2) := by
  intro l
  induction l with
  | nil => intro j x h; simp at h
  | cons y r ih =>
    intro j x h
    cases j with
    | zero =>
      simp at h
      subst h
      simp [pairCells]
    | succ j =>
      have h' : r[j]? = some x := by simpa using h
      obtain ⟨h1, h2⟩ := ih j x h'
      have e : pairCells (y :: r) = [.int .i64 y.1, .int .i64 y.2] ++ pairCells r := by simp [pairCells]
      rw [e, show (j + 1) * 2 = j * 2 + 2 by omega]
      exact ⟨by rw [List.getElem?_append_right (by simp)]; simpa using h1, by rw [List.getElem?_append_right (by simp <;> omega)]; simpa using h2⟩
/-- the first k nodes of postorder with their sizes -/
def postPairs (xs : List Int) (k : Nat) : List (Int × Int) := ((posts xs).take k).map fun v => (v, (sz xs v : Int))
theorem postPairs_succ {xs : List Int} {k : Nat} {v : Int} (h : (posts xs)[k]? = some v) : postPairs xs (k + 1) = postPairs xs k ++ [(v, (sz xs v : Int))] := by
  rw [postPairs, List.take_add_one, h]
  simp [postPairs]
theorem postPairs_len {xs : List Int} {k : Nat} (h : k ≤ (posts xs).length) : (postPairs xs k).length = k := by rw [postPairs, List.length_map, List.length_take]; omega
theorem postPairs_at {xs : List Int} {j : Nat} {v : Int} (h : (posts xs)[j]? = some v) : (postPairs xs (posts xs).length)[j]? = some (v, (szAt xs j : Int)) := by
  rw [postPairs, List.take_length, List.getElem?_map, h, szAt_at h]
  rfl
end M

/-- a row of nodes with sizes -/
abbrev OwnF (w : World) (B : Nat) (v : Value) (l : List (Int × Int)) : Prop := w.ownsRow B 161 2 v l.length (M.pairCells l)

theorem pushF {ops : Array Oper} {rest : List Oper} {o : Oper} {a : Act} {Q : Exit → Act → World → Prop} (hgd : o.guard = none) (s x : Operand)
    (ho : o.op = .call { callee := .builtin .append, args := #[s, x], argTypes := #[120, 120] }) (w : World) (B : Nat) (A : Option Addr) (n c : Nat) (l : List (Int × Int)) (y z : Int)
    (hs : a.eval s = .slice A n c) (hx : a.eval x = .slice (some ⟨w.heap.size, 0, none⟩) 1 1) (hown : Hid (OwnF w B (.slice A n c) l)) (hn : Hid (l.length = n)) (hB : B ≤ w.heap.size) (hlen : n ≤ 1000000)
    (h : ∀ A' c' w', Hid (OwnF w' B (.slice A' (n + 1) c') (l ++ [(y, z)])) → Hid (Below B w w') → wpList Try.prog ops Q rest (a.put o.dst (.slice A' (n + 1) c')) w') :
    wpList Try.prog ops Q (o :: rest) a (w.alloc (.cells #[.int .i64 y, .int .i64 z] 161)) := by
  obtain ⟨i0, hi0, hz0, hz1, hz2⟩ := info_parts infoNode
  have hown := hown.out
  have hn := hn.out
  subst hn
  refine wpList_append_own _ hgd s x 120 ho B 161 i0 (.agg #[.int .i64 0, .int .i64 0]) 2 16 Try.underlying120 hi0 hz0 hz1 hz2 rfl (by decide) _ l.length (M.pairCells l) hs (hown.alloc _) ⟨w.heap.size, 0, none⟩ 1 1 [.int .i64 y, .int .i64 z] hx rfl ?_ ?_ ?_ ?_ ?_ ?_
  · intro j u hj
    match j, hj with
    | 0, hj => simp at hj; subst hj; simp [Addr.add]
    | 1, hj => simp at hj; subst hj; simp [Addr.add]
  · intro u hu
    simp at hu
    rcases hu with rfl | rfl <;> rfl
  · unfold maxLen; omega
  · omega
  · simp; omega
  · intro v' w1 hown1 hg1 _
    obtain ⟨A, c, rfl⟩ : ∃ A c, v' = .slice A (l.length + 1) c := by
      rcases hown1.2 with ⟨rfl, h0⟩ | ⟨g, cap, _, rfl, _⟩
      · omega
      · exact ⟨_, _, rfl⟩
    refine h A c w1 ?_ ?_
    · show OwnF _ _ _ _
      unfold OwnF
      rw [M.pairCells_snoc, List.length_append]
      exact hown1
    · exact ((Below.refl B w).alloc hB _).grown hg1 (by simp; omega) (fun k hk => (hown.lt k hk).1)

theorem for_of_own {w : World} {B n c : Nat} {A : Option Addr} {xs : List Int} (h : OwnF w B (.slice A n c) (M.postPairs xs (M.posts xs).length)) (hp : 0 < (M.posts xs).length) :
    ∃ g, A = some ⟨g, 0, none⟩ ∧ B ≤ g ∧ n = (M.posts xs).length ∧ n ≤ c ∧ c ≤ 9223372036854775807 ∧ For w g xs := by
  have hl := M.postPairs_len (xs := xs) (Nat.le_refl _)
  rcases h.2 with ⟨e, h0⟩ | ⟨g, cap, cur, hv, hg, hh, hc1, hc2, _⟩
  · omega
  · injection hv with e1 e2 e3
    subst e1; subst e3
    rw [hl] at e2
    subst e2
    have hc2' : c ≤ 9223372036854775807 := by unfold maxLen at hc2; omega
    refine ⟨g, rfl, hg, rfl, by omega, hc2', (Array.getElem?_eq_some_iff.1 hh).1, fun j v hj => ?_⟩
    have hjl := (List.getElem?_eq_some_iff.1 hj).1
    obtain ⟨p1, p2⟩ := M.pairCells_at _ j _ (M.postPairs_at hj)
    have h' : w.ownsRow B 161 2 (.slice (some ⟨g, 0, none⟩) (M.postPairs xs (M.posts xs).length).length c) (M.postPairs xs (M.posts xs).length).length (M.pairCells (M.postPairs xs (M.posts xs).length)) := by have h2 := h; unfold OwnF at h2; rw [hl] at h2 ⊢; exact h2
    exact ⟨(World.ownsRow.cellAt h' (j * 2) (by rw [hl]; omega)).trans p1, (World.ownsRow.cellAt h' (j * 2 + 1) (by rw [hl]; omega)).trans p2⟩

theorem own64_blk {w : World} {B n c : Nat} {A : Option Addr} {zs : List Int} (h : Own64 w B (.slice A n c) zs) (hn : 0 < zs.length) : ∃ g, A = some ⟨g, 0, none⟩ := by
  have hl := own64_len h
  rcases h.2 with ⟨h0, _⟩ | ⟨g, cap, cur, hv, _⟩
  · injection h0 with _ e _; omega
  · injection hv with e1; exact ⟨g, e1⟩

set_option maxHeartbeats 2000000 in
set_option maxRecDepth 100000 in
theorem forestOf (A : Option Addr) (xs : List Int) (c : Nat) (w : World) (hx : xs.length ≤ 24) (hcl : xs.length ≤ c) (hcu : c ≤ 1000000000000) (ht : Hid (M.isTree xs = true)) (h : Hid (Ints w w.heap.size A xs)) :
    Calls Try.prog 143 #[.slice A xs.length c] w fun e w' => ∃ V g, e = .returned V ∧ Hid (IsFor V g 0 xs.length) ∧ Hid (For w' g xs) ∧ Hid (w.heap.size ≤ g) ∧ Hid (Below w.heap.size w w') := by
  have hl1 := (M.tree_len ht.out).1
  have hpl := M.posts_len ht.out
  have HP := Lib.hid (appendPost A xs c w.heap.size hx hcl hcu ht 24 0 (by omega) (by omega) none 0 0 [] w (by omega) (own64_nil _ _) h (Nat.le_refl _))
  obtain ⟨n, hn⟩ : ∃ n, Hid (xs.length = n) := ⟨_, rfl⟩
  have hn24 : n ≤ 24 := by rw [← hn.out]; exact hx
  have hn1 : 0 < n := by rw [← hn.out]; exact hl1
  have HPl : Hid ((M.posts xs).length = n) := hpl.trans hn.out
  go_enter Try.func143, Try.ntmps143
  go_wp2_with fail
  refine HP.out.mono ?_
  rintro e w1 ⟨A7, c7, n7, rfl, ho, hg1, _⟩
  have hB1 : Hid (Below w.heap.size w w1) := (Below.refl _ _).grown hg1.out (Nat.le_refl _) (fun k e => by cases e)
  have hI1 := Lib.hid (h.out.be hB1.out)
  have hop : Hid (Own64 w1 w.heap.size (.slice A7 n7 c7) (M.posts xs)) := by have := ho.out; rwa [List.nil_append] at this
  have hn7 : n7 = n := by have := own64_len hop.out; rw [HPl.out] at this; exact this
  subst hn7
  obtain ⟨g7, rfl⟩ := own64_blk hop.out (by rw [HPl.out]; exact hn1)
  clear ho hg1 HP
  go_wp2
  go_loopw [3, 9] (fun s3 i wr => ∃ (k : Nat) (A3 : Option Addr) (c3 : Nat), k ≤ n7 ∧ i = .int .i64 (k : Int) ∧ s3 = .slice A3 k c3 ∧ Hid (OwnF wr w1.heap.size (.slice A3 k c3) (M.postPairs xs k)) ∧ Hid (Below w1.heap.size w1 wr)) (fun _ i _ => n7 - (intOf i).toNat)
  case atStart => exact ⟨0, none, 0, Nat.zero_le _, rfl, rfl, World.ownsRow_nil _ _ _ _, b0 w1⟩
  case round =>
    obtain ⟨k, A3, c3, hk, rfl, rfl, ho3, hbr⟩ := hrel
    by_cases hlt : k < n7
    · have hlt2 : (k : Int) < (n7 : Int) := by omega
      obtain ⟨u, hu, hul⟩ := M.posts_at ht.out (j := k) (by rw [hn.out]; exact hlt)
      have hcell : wr.cell? ⟨g7, k, none⟩ = some (.int .i64 (u : Int)) := (own64_cell (own_be hop.out hbr.out) HPl.out hu).1
      obtain ⟨s, hs⟩ : ∃ s, Hid (M.span 1 (xs.drop u) = s) := ⟨_, rfl⟩
      have hsz : M.sz xs (u : Int) = s := by rw [M.sz, Int.toNat_natCast]; exact hs.out
      have hnext : Hid (M.postPairs xs (k + 1) = M.postPairs xs k ++ [((u : Int), (s : Int))]) := by show _ = _; rw [M.postPairs_succ hu, hsz]
      have hlk : Hid ((M.postPairs xs k).length = k) := M.postPairs_len (by rw [HPl.out]; exact hk)
      have HSz := Lib.hid (sizeAt A xs c u s wr hs hx hcl (by omega) (Lib.hid (M.tree_ok ht.out hul)) (hI1.out.be hbr.out))
      have hzr := hbr.out.size
      clear hu hul hsz
      go_wp2_with fail
      refine HSz.out.mono ?_
      rintro e w' ⟨rfl, rfl⟩
      clear HSz
      go_wp2_with (at_builtin; refine pushF rfl (.tmp 13) (.tmp 19) rfl wr w1.heap.size A3 k c3 (M.postPairs xs k) (u : Int) (s : Int) rfl rfl ho3 hlk hzr (by omega) ?_; intro A4 c4 w4 ho4 hb4)
      go_roundw
      case rel => exact ⟨k + 1, A4, c4, by omega, by go_num, rfl, by rw [hnext.out]; exact ho4, hbr.out.trans hb4.out⟩
      case measure => simp [intOf]; omega
    · obtain rfl : k = n7 := by omega
      have hge : ¬ (k : Int) < (k : Int) := by omega
      obtain ⟨g, hA, hg, _, e2, e3, hF⟩ := for_of_own (xs := xs) (by rw [HPl.out]; exact ho3.out) (by rw [HPl.out]; exact hn1)
      subst hA
      have hzz := hB1.out.size
      have HF := Lib.hid hF
      clear hF
      go_wp2
      go_ret
      exact ⟨.slice (some ⟨g, 0, none⟩) xs.length c3, rfl, g, ⟨c3, by rw [Nat.zero_mul], by rw [hn.out]; exact e2, e3⟩, HF, (show w.heap.size ≤ g by omega), btr hB1.out hbr.out⟩

set_option maxRecDepth 100000 in
theorem comparisonBy (L : Nat → Nat → Nat → Nat → Nat) (w : World) :
    Calls Try.prog 141 #[.func (.func 106) #[] #[]] w fun e w' => ∃ b, e = .returned (cmpV b) ∧ Hid (Memo L w' b) ∧ Hid (w.heap.size ≤ b) ∧ Hid (b < w'.heap.size) ∧ Hid (Below w.heap.size w w') := by
  have hmm := @run_makeMap Try.prog
  have c0 : ((w.alloc (.cells #[.nilFunc, .map none] 154)).alloc (.map #[] 0)).cell? ⟨w.heap.size, 0, none⟩ = some .nilFunc := by simp [go_sem]
  have f0 : ((w.alloc (.cells #[.nilFunc, .map none] 154)).alloc (.map #[] 0)).frozen? ⟨w.heap.size, 0, none⟩ = false := by simp [go_sem]
  have hst : (store ⟨w.heap.size, 0, none⟩ (.func (.func 106) #[] #[])).run Try.prog ((w.alloc (.cells #[.nilFunc, .map none] 154)).alloc (.map #[] 0)) = .ok () (((w.alloc (.cells #[.nilFunc, .map none] 154)).alloc (.map #[] 0)).setCell ⟨w.heap.size, 0, none⟩ (.func (.func 106) #[] #[])) := by
    rw [run_store _ _ _ _ _ rfl]
    simp [c0, f0]
  clear c0 f0
  go_enter Try.func141, Try.ntmps141
  go_wp2
  refine bodyPost_ret (v := cmpV (w.heap.size + 1)) (by simp [results, Try.results141, go_sem]) rfl ?_
  refine ⟨w.heap.size + 1, rfl, ?_, (show w.heap.size ≤ w.heap.size + 1 by omega), (show w.heap.size + 1 < _ by simp), bal (bal (b0 w) _) _⟩
  have hM := Memo.new L (w.alloc (.cells #[.func (.func 106) #[] #[], .map (some (w.heap.size + 1))] 154))
  rw [World.size_alloc] at hM
  exact hM

/-- the nodes in common of two trees -/
def com (xs ys : List Int) : Nat := M.most (M.szAt xs) (M.szAt ys) 0 xs.length 0 ys.length
theorem com_le (xs ys : List Int) : com xs ys ≤ xs.length ∧ com xs ys ≤ ys.length := by have := M.most_bd (M.szAt xs) (M.szAt ys) 0 xs.length 0 ys.length; simp only [com]; omega

set_option maxHeartbeats 2000000 in
set_option maxRecDepth 100000 in
theorem inCommonBy (A A2 : Option Addr) (xs ys : List Int) (c c2 r : Nat) (w : World) (hx : xs.length ≤ 24) (hy : ys.length ≤ 24) (hcc : xs.length ≤ c ∧ c ≤ 1000000000000) (hcc2 : ys.length ≤ c2 ∧ c2 ≤ 1000000000000) (ht : Hid (M.isTree xs = true)) (hu : Hid (M.isTree ys = true)) (h : Hid (Ints w w.heap.size A xs)) (h2 : Hid (Ints w w.heap.size A2 ys)) (hr : Hid (com xs ys = r)) :
    Calls Try.prog 107 #[.func (.func 106) #[] #[], .slice A xs.length c, .slice A2 ys.length c2] w fun e w' => e = .returned (.int .i64 (r : Int)) ∧ Hid (Below w.heap.size w w') := by
  have HC := Lib.hid (comparisonBy (Lk xs ys) w)
  have HF1 : Hid (∀ w', Hid (Below w.heap.size w w') → Calls Try.prog 143 #[.slice A xs.length c] w' fun e w'' => ∃ V g, e = .returned V ∧ Hid (IsFor V g 0 xs.length) ∧ Hid (For w'' g xs) ∧ Hid (w'.heap.size ≤ g) ∧ Hid (Below w'.heap.size w' w'')) := fun w' hb => forestOf A xs c w' hx hcc.1 hcc.2 ht (Lib.hid (h.out.be hb.out))
  have HF2 : Hid (∀ w', Hid (Below w.heap.size w w') → Calls Try.prog 143 #[.slice A2 ys.length c2] w' fun e w'' => ∃ V g, e = .returned V ∧ Hid (IsFor V g 0 ys.length) ∧ Hid (For w'' g ys) ∧ Hid (w'.heap.size ≤ g) ∧ Hid (Below w'.heap.size w' w'')) := fun w' hb => forestOf A2 ys c2 w' hy hcc2.1 hcc2.2 hu (Lib.hid (h2.out.be hb.out))
  have HM : Hid (∀ (w' : World) (b bF bG : Nat) (V1 V2 : Value), b ≠ bF → b ≠ bG → Hid (IsFor V1 bF 0 xs.length) → Hid (IsFor V2 bG 0 ys.length) → Hid (For w' bF xs) → Hid (For w' bG ys) → Hid (Memo (Lk xs ys) w' b) → Calls Try.prog 142 #[cmpV b, V1, V2] w' fun e W' => e = .returned (.int .i64 (r : Int)) ∧ Hid (Memo (Lk xs ys) W' b) ∧ Hid (w'.grownBy W' (some b))) := fun w' b bF bG V1 V2 h1 h2 hv1 hv2 hf hg hm =>
    mostAt xs ys bF bG b hx hy ht hu h1 h2 (xs.length + ys.length) 0 xs.length 0 ys.length r V1 V2 w' (Nat.le_refl _) (by omega) (by omega) (by rw [Nat.zero_add]; exact M.closed_all ht.out) (by rw [Nat.zero_add]; exact M.closed_all hu.out) hv1 hv2 hf hg hm (by rw [Nat.zero_add, Nat.zero_add]; exact hr)
  clear hr h h2
  go_enter Try.func107, Try.ntmps107
  go_wp2_with fail
  refine HC.out.mono ?_
  rintro e w1 ⟨b, rfl, hM1, hb1, hb1l, hB1⟩
  have hb1' := hb1.out
  have hb2' := hb1l.out
  clear HC
  go_wp2_with fail
  refine (HF1.out _ hB1).mono ?_
  rintro e w2 ⟨V1, bF, rfl, hV1, hF2, hgF, hB2⟩
  have hM2 := Lib.hid (memo_below hM1.out hB2.out)
  have hBt2 := Lib.hid (btr hB1.out hB2.out)
  have hgF' := hgF.out
  have hzF := hF2.out.1
  clear HF1 hM1
  go_wp2_with fail
  refine (HF2.out _ hBt2).mono ?_
  rintro e w3 ⟨V2, bG, rfl, hV2, hG3, hgG, hB3⟩
  have hM3 := Lib.hid (memo_below hM2.out hB3.out)
  have hF3 := Lib.hid (hF2.out.be hB3.out)
  have hBt3 := Lib.hid (btr hBt2.out hB3.out)
  have hgG' := hgG.out
  have hz2 := hB2.out.size
  clear HF2 hM2
  go_wp2_with fail
  refine (HM.out w3 b bF bG V1 V2 (by omega) (by omega) hV1 hV2 hF3 hG3 hM3).mono ?_
  rintro e w4 ⟨rfl, _, hg4⟩
  go_wp2
  go_ret
  exact ⟨rfl, hBt3.out.grown hg4.out hBt3.out.size (fun k e => by injection e with e; omega)⟩

set_option maxRecDepth 100000 in
theorem distanceBy (A A2 : Option Addr) (xs ys : List Int) (c c2 r : Nat) (w : World) (hx : xs.length ≤ 24) (hy : ys.length ≤ 24) (hcc : xs.length ≤ c ∧ c ≤ 1000000000000) (hcc2 : ys.length ≤ c2 ∧ c2 ≤ 1000000000000) (ht : Hid (M.isTree xs = true)) (hu : Hid (M.isTree ys = true)) (h : Hid (Ints w w.heap.size A xs)) (h2 : Hid (Ints w w.heap.size A2 ys)) (hr : Hid (com xs ys = r)) :
    Calls Try.prog 105 #[.func (.func 106) #[] #[], .slice A xs.length c, .slice A2 ys.length c2] w fun e w' => e = .returned (.int .i64 ((xs.length : Int) + (ys.length : Int) - 2 * (r : Int))) ∧ Hid (Below w.heap.size w w') := by
  have HC := Lib.hid (inCommonBy A A2 xs ys c c2 r w hx hy hcc hcc2 ht hu h h2 hr)
  have hrl := (com_le xs ys).1
  rw [hr.out] at hrl
  have e1 : IntKind.i64.wrap ((xs.length : Int) + (ys.length : Int)) = (xs.length : Int) + (ys.length : Int) := IntWalk.i64_in _ (by omega)
  have e2 : IntKind.i64.wrap (2 * (r : Int)) = 2 * (r : Int) := IntWalk.i64_in _ (by omega)
  have e3 : IntKind.i64.wrap ((xs.length : Int) + (ys.length : Int) - 2 * (r : Int)) = (xs.length : Int) + (ys.length : Int) - 2 * (r : Int) := IntWalk.i64_in _ (by omega)
  clear hr h h2
  go_enter Try.func105, Try.ntmps105
  go_wp2_with fail
  refine HC.out.mono ?_
  rintro e w1 ⟨rfl, hB1⟩
  go_wp2
  go_ret
  exact ⟨rfl, hB1⟩
end Go.Proofs.Ytgcabcmnhdaepaa
