/- parentsIn: the program's row of parents: a range over a function inside a loop. -/
import Derived.Test.YtkcldfliiagloaaMgRankOfGrowing1
import Derived.Laws.CopyOwn
import Derived.Deep.RegionLaw
import Derived.Laws.AppendOwnNone
import Derived.Lib.AppendZeros
import Derived.RangeFuncRecord
import Derived.WalkSpells
import Derived.StillTailTactics
import Derived.Laws.Cover3
import Derived.Deep.MidRow
import Derived.Shelf.SortM.Plain
import Derived.Test.YtkcldfliiagloaaProg
import Derived.Sort.OwnSortedInts
namespace Go.Proofs.Ytkcldfliiagloaa
open Go.RowKit Go.Shelf
attribute [local go_sem] Oper.semAt_some

/-- the marks that the rounds' loops have left on the activation: the newest first -/
def Marks (B : Nat) (W : World) : Nat → List Deferred → Prop
  | _, [] => True
  | hi, d :: ds => ∃ D, d = { target := .collected D, args := #[] } ∧ D < hi ∧ B ≤ D ∧ W.heap[D]? = some (.deferred (some [])) ∧ Marks B W D ds
theorem Marks.keep {B : Nat} {W W' : World} : ∀ {ds : List Deferred} {hi : Nat}, Marks B W hi ds → (∀ D, B ≤ D → D < hi → W.heap[D]? = some (.deferred (some [])) → W'.heap[D]? = W.heap[D]?) → Marks B W' hi ds := by
  intro ds
  induction ds with
  | nil => intro hi _ _; trivial
  | cons d ds ih =>
    intro hi ⟨D, e, h1, h2, h3, h4⟩ hk
    exact ⟨D, e, h1, h2, (hk D h2 h1 h3).trans h3, ih h4 fun D' h5 h6 h7 => hk D' h5 (by omega) h7⟩
theorem Marks.mono {B : Nat} {W : World} {ds : List Deferred} {hi hi' : Nat} (h : Marks B W hi ds) (hl : hi ≤ hi') : Marks B W hi' ds := by
  cases ds with
  | nil => trivial
  | cons d ds => obtain ⟨D, e, h1, h2⟩ := h; exact ⟨D, e, by omega, h2⟩
theorem leaves_marks {B : Nat} {F : Fence} {n : Nat} {P : Program} {fn : Func} {tmps : Array Value} {R : Ending → World → Prop} (Pp : World → Prop)
    (hP : ∀ W D, B ≤ D → W.heap[D]? = some (.deferred (some [])) → Pp W → Pp (W.putObj D (.deferred none))) (hend : ∀ W, Pp W → LeavesIn F n P fn tmps R [] .returning W) :
    ∀ (ds : List Deferred) (hi : Nat) (W : World), Marks B W hi ds → Pp W → LeavesInM F n P fn tmps R ds .returning W := by
  intro ds
  induction ds with
  | nil => intro hi W _ h; exact hend W h
  | cons d ds ih =>
    intro hi W ⟨D, e, h1, h2, h3, h4⟩ h
    subst e
    refine ⟨by simp, .inl ⟨_, _, rfl, run_takeDeferred h3, ?_⟩⟩
    refine ih D _ (h4.keep fun D' h5 h6 h7 => ?_) (hP W D h2 h3 h)
    exact (grownBy_putObj' W D _).block D' (Array.getElem?_eq_some_iff.1 h7).1 (fun e => by cases e; omega)

/-- the child at a place, and a node within the list where there is no such place -/
def kidOr (xs : List Int) (v d x : Nat) : Nat := if x < d then M.kidAt xs v x else v

set_option maxRecDepth 100000 in
set_option maxHeartbeats 4000000 in
theorem parentsIn_in (A : Option Addr) (xs : List Int) (c : Nat) (w : World) (hcl : xs.length ≤ c) (hcu : c ≤ 1000000000000) (ht : Hid (M.isTree xs = true)) (hI : Ints w w.heap.size A xs) :
    CallsIn Fence.wide 5 Try.prog 106 #[.slice A xs.length c] w fun e w' => ∃ A' c' ps, e = .returned (.slice A' xs.length c') ∧ Hid (M.ParsOK xs ps) ∧ Own64 w' w.heap.size (.slice A' xs.length c') ps ∧ Below w.heap.size w w' := by
  have hlen := M.tree_len ht.out
  have hx := hlen.2
  have hpos : 0 < xs.length := by omega
  have hmk := run_make_row' (P := Try.prog) 22 2 (.int .i64 0) 8 Try.underlying22 info64 rfl .i64 .i64 xs.length (by omega) (by omega)
  have Hstart := Lib.hid (own64_made (w := w) (B := w.heap.size) (n := xs.length) (Nat.le_refl _) (by unfold maxLen; omega))
  obtain ⟨c1, c2, _, _⟩ := own64_cell Hstart.out (by simp) (k := 0) (x := 0) (by simp [hpos])
  have c3 := cell_al c1 (.cells #[.slice (some ⟨w.heap.size, 0, none⟩) xs.length xs.length] 22)
  have ho0 := Lib.hid (own64_made_set (w := w) (B := w.heap.size) (n := xs.length) (Nat.le_refl _) (by unfold maxLen; omega) (-1))
  have hp0 := Lib.hid (M.partP_start ht.out)
  have bR := Lib.hid (Boxed.new (w.alloc (.cells ((madeCells #[.int .i64 0] xs.length).setIfInBounds 0 (.int .i64 (-1))) 2)) 22 (.slice (some ⟨w.heap.size, 0, none⟩) xs.length xs.length))
  have hB0 := Lib.hid (bal (bal (b0 w) (.cells ((madeCells #[.int .i64 0] xs.length).setIfInBounds 0 (.int .i64 (-1))) 2)) (.cells #[.slice (some ⟨w.heap.size, 0, none⟩) xs.length xs.length] 22))
  refine callsIn_of_wp_marks Try.func106 rfl trivial ?_ rfl
  simp only [Try.ntmps106, List.size_toArray, List.length_cons, List.length_nil, Nat.reduceAdd, Nat.reduceSub, Array.replicate_succ, Array.replicate_zero, List.push_toArray, List.append_toArray, List.nil_append, List.cons_append]
  gi_wp2
  clear hmk c1 c2 c3
  refine wpIn_loop (fun a' wr => ∃ (k : Nat) (ps : List Int) (u4 u15 u16 u17 u18 u19 u26 : Value) (ds : List Deferred), (k ≤ xs.length ∧ Hid (M.PartP xs k 0 ps) ∧ Hid (Own64 wr w.heap.size (.slice (some ⟨w.heap.size, 0, none⟩) xs.length xs.length) ps) ∧
      Hid (Boxed wr (w.heap.size + 1) 22 (.slice (some ⟨w.heap.size, 0, none⟩) xs.length xs.length)) ∧ Hid (Below w.heap.size w wr) ∧ Hid (Marks (w.heap.size + 2) wr wr.heap.size ds)) ∧
      a' = { tmps := #[.slice A xs.length c, undef, .slice none 0 0, .pointer (some ⟨w.heap.size + 1, 0, none⟩), u4, undef, undef, .slice A xs.length c, .int .i64 xs.length, .slice (some ⟨w.heap.size, 0, none⟩) xs.length xs.length, .slice (some ⟨w.heap.size, 0, none⟩) xs.length xs.length,
        .pointer (some ⟨w.heap.size, 0, none⟩), .slice A xs.length c, .int .i64 xs.length, .int .i64 k, u15, u16, u17, u18, u19, undef, undef, undef, undef, undef, undef, u26, undef], defers := ds })
    (fun a' _ => xs.length - (intOf (a'.tmps.getD 14 undef)).toNat) ?_ ?_
  · exact ⟨0, _, _, _, _, _, _, _, _, [], ⟨Nat.zero_le _, hp0, own_be ho0.out ((Below.refl _ _).alloc (Nat.le_refl _) _), Lib.hid (by simpa using bR.out), hB0, trivial⟩, rfl⟩
  · rintro _ wr ⟨k, ps, u4, u15, u16, u17, u18, u19, u26, ds, ⟨hk, hp, ho, hbx, hbr, hmks⟩, rfl⟩
    clear hp0 ho0 bR hB0 Hstart
    by_cases hlt : k < xs.length
    · obtain ⟨d, hd, hd2⟩ := M.tree_degN ht.out hlt
      have Hd := Lib.hid hd
      gi_wp2_with (refine ⟨trivial, ?_⟩; gi_at_call 172; refine (eachIn 4 A xs.length c k _).mono ?_; rintro e w' ⟨rfl, rfl⟩)
      have bV := Boxed.new wr 2 (.int .i64 k)
      have bD := Boxed.new (wr.alloc (.cells #[.int .i64 k] 2)) 22 (.slice A xs.length c)
      have bW := Boxed.new ((wr.alloc (.cells #[.int .i64 k] 2)).alloc (.cells #[.slice A xs.length c] 22)) 2 (.int .i64 k)
      simp only [World.size_alloc] at bD bW
      have hz1 := hbr.out.size
      have hz2 := hbx.out.lt
      have hB0 := bal (bal (bal hbr.out (.cells #[.int .i64 k] 2)) (.cells #[.slice A xs.length c] 22)) (.cells #[.int .i64 k] 2)
      have hKb := KeepK.b (n₀ := w.heap.size) (Bd := wr.heap.size + 1) (w := ((wr.alloc (.cells #[.int .i64 k] 2)).alloc (.cells #[.slice A xs.length c] 22)).alloc (.cells #[.int .i64 k] 2)) (by simp; omega) (by simp)
      have h15 : 1 ≤ 5 := by omega
      have hK : ∀ x, kidOr xs k d x < xs.length := fun x => by
        unfold kidOr
        split
        · exact M.kid_lt ht.out Hd.out (by omega)
        · exact hlt
      refine wpIn_rangeFunc_ownG (α := Nat) rfl h15 (gf := 225) (lb := #[.pointer (some ⟨wr.heap.size + 2, 0, none⟩), .pointer (some ⟨wr.heap.size + 1, 0, none⟩)]) rfl trivial (enters_of Try.func225 (by kernel_rfl) rfl)
        (each_stopsF (fun i => i) (fun x => #[.int .i64 (x : Int), .int .i64 (kidOr xs k d x : Int)]) 4 (by omega) (wr.heap.size + 2) (wr.heap.size + 1) w.heap.size A xs c k d hx hcl (by omega) ht Hd (fun i hi => by simp [kidOr, hi]) _ bW.cell (bD.alloc _) (hI.below hB0 (Nat.le_refl _)) (by simp; omega)) (fun h k => h.t k) hKb (Below.refl _ _) (fun _ => rfl)
        (fun pre W => ∃ ps, (ps.length = xs.length ∧ (pre = List.range pre.length → pre.length ≤ d → M.PartP xs k pre.length ps)) ∧ Own64 W w.heap.size (.slice (some ⟨w.heap.size, 0, none⟩) xs.length xs.length) ps ∧
          Boxed W (w.heap.size + 1) 22 (.slice (some ⟨w.heap.size, 0, none⟩) xs.length xs.length) ∧ Boxed W wr.heap.size 2 (.int .i64 k) ∧ Below w.heap.size w W ∧ Marks (w.heap.size + 2) W wr.heap.size ds)
        (fun _ _ _ => False)
        (fun s X Y row hs hg hr => by
          obtain ⟨ps, h1, h2, h3, h4, h5, h6⟩ := hs
          have hne : ∀ r, row = some r → wr.heap.size + 3 ≤ r := fun r e => by have := (hr r e).1; simp at this; omega
          exact ⟨ps, h1, h2.kept hg (.inr fun e => by have := hne w.heap.size e.symm; omega), h3.kept hg (fun e => by have := hne _ e.symm; omega), h4.kept hg (fun e => by have := hne _ e.symm; omega), h5.grown hg h5.size (fun r e => by have := hne _ e; omega),
            h6.keep fun D _ hD hD3 => hg.block D (Array.getElem?_eq_some_iff.1 hD3).1 (fun e => by have := hne _ e.symm; omega)⟩)
        (fun _ _ _ _ _ hs _ _ => hs)
        ⟨ps, ⟨hp.out.1, fun _ _ => hp.out⟩, ((ho.out.alloc _).alloc _).alloc _, ((hbx.out.alloc _).alloc _).alloc _, (bV.alloc _).alloc _, hB0, hmks.out.keep fun D _ hD hD3 => by
          have h1 := Below.heap_alloc wr (.cells #[.int .i64 k] 2) D hD
          have h2 := Below.heap_alloc (wr.alloc (.cells #[.int .i64 k] 2)) (.cells #[.slice A xs.length c] 22) D (by simp; omega)
          have h3 := Below.heap_alloc ((wr.alloc (.cells #[.int .i64 k] 2)).alloc (.cells #[.slice A xs.length c] 22)) (.cells #[.int .i64 k] 2) D (by simp; omega)
          exact h3.trans (h2.trans h1)⟩
        (fun x => { tmps := #[.slice A xs.length c, undef, .slice none 0 0, .pointer (some ⟨w.heap.size + 1, 0, none⟩), .pointer (some ⟨wr.heap.size, 0, none⟩), undef, .int .i64 (kidOr xs k d x : Int), .slice A xs.length c, .int .i64 xs.length, .slice (some ⟨w.heap.size, 0, none⟩) xs.length xs.length, .slice (some ⟨w.heap.size, 0, none⟩) xs.length xs.length,
          .pointer (some ⟨w.heap.size, 0, none⟩), .slice A xs.length c, .int .i64 xs.length, .int .i64 k, .bool true, .int .i64 k, .slice A xs.length c, .int .i64 k, .func (.func 225) #[] #[.pointer (some ⟨wr.heap.size + 2, 0, none⟩), .pointer (some ⟨wr.heap.size + 1, 0, none⟩)], .int .i64 (x : Int), .int .i64 (kidOr xs k d x : Int), undef, undef, undef, undef, u26, undef], defers := [] }) ?assign ?body ?done ?stop
      case assign =>
        intro l x W K hK
        gi_wp2
        exact hK
      case body =>
        rintro l pre x W ⟨ps, ⟨hl, hpp⟩, h2, h3, h4, h5, h6⟩ hpl
        have hkx := hK x
        have c3 := h3.cell
        have c4 := h4.cell
        obtain ⟨c1, c2, _, _⟩ := own64_cell h2 hl (k := kidOr xs k d x) (x := ps[kidOr xs k d x]'(by omega)) (List.getElem?_eq_getElem (by omega))
        generalize ps[kidOr xs k d x]'(by omega) = y at c1
        have hnext : Hid (pre ++ [x] = List.range (pre ++ [x]).length → (pre ++ [x]).length ≤ d → M.PartP xs k (pre ++ [x]).length (ps.set (kidOr xs k d x) (k : Int))) := fun e hd' => by
          simp only [List.length_append, List.length_cons, List.length_nil, Nat.zero_add] at e hd' ⊢
          rw [List.range_succ] at e
          obtain ⟨e1, e2⟩ := List.append_inj' e rfl
          injection e2 with e2
          have h7 := M.partP_step ht.out (hpp e1 (by omega)) Hd.out (by omega)
          have e3 : kidOr xs k d x = M.kidAt xs k pre.length := by rw [e2]; simp only [kidOr]; rw [if_pos (by omega)]
          rw [e3]
          exact h7
        have hset := Lib.hid (own64_set h2 hl (kidOr xs k d x) (k : Int))
        have hl2 : Hid ((ps.set (kidOr xs k d x) (k : Int)).length = xs.length) := by show _ = _; simpa using hl
        clear hpp
        generalize kidOr xs k d x = C at *
        gi_wp2
        have hkk : KeepK w.heap.size (wr.heap.size + 1) W (W.setCell ⟨w.heap.size, C, none⟩ (.int .i64 k)) := ⟨below_setCell (Below.refl _ _) (Nat.le_refl _) _, heap_setCell_other _ _ _ _ (show wr.heap.size + 1 ≠ w.heap.size by omega)⟩
        exact ⟨(KeepsOthers.setCell W _ _).from _, hkk, _, ⟨hl2.out, hnext.out⟩, hset.out, (heap_setCell_other _ _ _ _ (show w.heap.size + 1 ≠ w.heap.size by omega)).trans h3, (heap_setCell_other _ _ _ _ (show wr.heap.size ≠ w.heap.size by omega)).trans h4, below_setCell h5 (Nat.le_refl _) _, h6.keep fun D hD _ _ => heap_setCell_other _ _ _ _ (show D ≠ w.heap.size by omega)⟩
      case done =>
        rintro D ys W hD rfl ⟨ps, ⟨hl, hpp⟩, h2, h3, h4, h5, h6⟩ hKd
        have hnx0 := hpp (by simp) (by simp)
        simp only [List.length_map, List.length_range] at hnx0
        have hnx := Lib.hid (M.partP_next hnx0 Hd.out)
        clear hnx0 hpp
        have hDl := (Array.getElem?_eq_some_iff.1 hKd).1
        simp at hD
        gi_wp2
        refine ⟨⟨k + 1, ps, _, _, _, _, _, _, _, { target := .collected D, args := #[] } :: ds, ⟨by omega, hnx, h2, h3, h5, (show Marks _ _ _ _ from ⟨D, rfl, hDl, by omega, hKd, h6.mono (by omega)⟩)⟩, rfl⟩, ?_⟩
        simp [intOf]
        omega
      case stop =>
        rintro D c pre W _ _ h _
        exact h.elim
    · obtain rfl : k = xs.length := by omega
      have hok := Lib.hid (M.partP_done ht.out hp.out)
      have hc := hbx.out.cell
      clear hp
      gi_wp2
      refine leaves_marks (B := w.heap.size + 2) (fun W => Own64 W w.heap.size (.slice (some ⟨w.heap.size, 0, none⟩) xs.length xs.length) ps ∧ Below w.heap.size w W) (fun W D hD h3 h => ⟨ownsRow_putObj h.1 _ h3 rfl, h.2.trans ((Below.refl _ W).grown (grownBy_putObj' W D _) h.2.size (fun k e => by cases e; omega))⟩) (fun W h => ?_) ds _ _ hmks.out ⟨ho.out, hbr.out⟩
      exact ⟨_, results_tmp rfl _ _ _, _, _, ps, rfl, hok, h.1, h.2⟩
end Go.Proofs.Ytkcldfliiagloaa

/- ParentsOf, the program's and the model's: the parents, or a code. -/
namespace Go.Proofs.Ytkcldfliiagloaa
open Go.RowKit

namespace M
theorem parsOK_unique {xs ps qs : List Int} (ht : isTree xs = true) (h : ParsOK xs ps) (h' : ParsOK xs qs) : ps = qs := by
  refine List.ext_getElem? fun i => ?_
  rcases Nat.lt_or_ge i xs.length with hi | hi
  · rcases Nat.eq_zero_or_pos i with h0 | h0
    · subst h0; rw [h.2.1, h'.2.1]
    · obtain ⟨p, hp⟩ := kid_has ht h0 hi
      rw [h.2.2 p i hp, h'.2.2 p i hp]
  · rw [List.getElem?_eq_none (by rw [h.1]; exact hi), List.getElem?_eq_none (by rw [h'.1]; exact hi)]
open Classical in
noncomputable def parents (xs : List Int) : List Int := if h : ∃ ps, ParsOK xs ps then h.choose else []
theorem parents_eq {xs ps : List Int} (ht : isTree xs = true) (h : ParsOK xs ps) : parents xs = ps := by
  have hx : ∃ ps, ParsOK xs ps := ⟨ps, h⟩
  rw [parents, dif_pos hx]
  exact parsOK_unique ht hx.choose_spec h
theorem parents_len {xs : List Int} : (parents xs).length ≤ xs.length := by
  rw [parents]
  split
  · rename_i h; exact Nat.le_of_eq h.choose_spec.1
  · exact Nat.zero_le _
end M

noncomputable def F_ParentsOf (xs : List Int) : List Int × Int := M.cond xs (M.parents xs)
theorem F_ParentsOf_len (xs : List Int) : (F_ParentsOf xs).1.length ≤ 1048576 := by
  cases ht : M.isTree xs
  · rw [F_ParentsOf, M.cond_no ht]; simp
  · rw [F_ParentsOf, M.cond_yes ht]
    have h1 := M.parents_len (xs := xs)
    have h2 := (M.tree_len ht).2
    show (M.parents xs).length ≤ _
    omega

end Go.Proofs.Ytkcldfliiagloaa

/- Depths, their mathematics: what a row of depths must say, that there is one such row at most, and the steps by which both programs make it. -/
namespace Go.Proofs.Ytkcldfliiagloaa.M
/-- ds is the row of depths -/
def DepsOK (xs ds : List Int) : Prop := ds.length = xs.length ∧ ds[0]? = some 0 ∧ ∀ p c, IsKid xs p c → ∃ x, ds[p]? = some x ∧ ds[c]? = some (x + 1)
/-- the children of the nodes below k, and the first j of k's, have theirs -/
def PartD (xs : List Int) (k j : Nat) (ds : List Int) : Prop :=
  ds.length = xs.length ∧ ds[0]? = some 0 ∧ (∀ p c, p < k → IsKid xs p c → ∃ x, ds[p]? = some x ∧ ds[c]? = some (x + 1)) ∧ (∀ i, i < j → ∃ x, ds[k]? = some x ∧ ds[kidAt xs k i]? = some (x + 1))
theorem partD_start {xs : List Int} (ht : isTree xs = true) : PartD xs 0 0 (List.replicate xs.length (0 : Int)) := by
  have := (tree_len ht).1
  refine ⟨by simp, ?_, fun p c h => by omega, fun i h => by omega⟩
  rw [List.getElem?_replicate, if_pos (by omega)]
theorem partD_step {xs ds : List Int} {k j d : Nat} {y : Int} (ht : isTree xs = true) (h : PartD xs k j ds) (hd : xs[k]? = some (d : Int)) (hj : j < d) (hy : ds[k]? = some y) : PartD xs k (j + 1) (ds.set (kidAt xs k j) (y + 1)) := by
  obtain ⟨h1, h2, h3, h4⟩ := h
  have hkid : IsKid xs k (kidAt xs k j) := ⟨d, j, hd, hj, rfl⟩
  have hb := kid_bounds ht hkid
  refine ⟨by simp [h1], ?_, fun p c hp hc => ?_, fun i hi => ?_⟩
  · rw [List.getElem?_set_ne (by omega)]; exact h2
  · have hne : kidAt xs k j ≠ c := fun e => by
      subst e
      have := kid_unique ht hc hkid
      omega
    rw [List.getElem?_set_ne hne, List.getElem?_set_ne (by omega)]
    exact h3 p c hp hc
  · rw [List.getElem?_set_ne (show kidAt xs k j ≠ k by omega)]
    rcases Nat.lt_or_ge i j with h5 | h5
    · have h6 := kid_le (xs := xs) (v := k) (i := i + 1) (j := j) (by omega)
      have h7 := kid_lt ht hd (i := i) (by omega)
      have h8 := span_pos h7
      simp only [kidAt] at h6
      rw [List.getElem?_set_ne (show kidAt xs k j ≠ kidAt xs k i by omega)]
      exact h4 i h5
    · obtain rfl : i = j := by omega
      rw [List.getElem?_set_self (by omega)]
      exact ⟨y, hy, rfl⟩
theorem partD_next {xs ds : List Int} {k d : Nat} (h : PartD xs k d ds) (hd : xs[k]? = some (d : Int)) : PartD xs (k + 1) 0 ds := by
  obtain ⟨h1, h2, h3, h4⟩ := h
  refine ⟨h1, h2, fun p c hp hc => ?_, fun i h => by omega⟩
  rcases Nat.lt_or_ge p k with h5 | h5
  · exact h3 p c h5 hc
  · obtain rfl : p = k := by omega
    obtain ⟨d', i, hd', hi, rfl⟩ := hc
    rw [hd] at hd'
    injection hd' with hd'
    exact h4 i (by omega)
theorem partD_done {xs ds : List Int} (ht : isTree xs = true) (h : PartD xs xs.length 0 ds) : DepsOK xs ds :=
  ⟨h.1, h.2.1, fun p c hc => h.2.2.1 p c (by have := kid_bounds ht hc; omega) hc⟩

/-- the model's loop: the nodes below v have their depths -/
def PartE (xs : List Int) (v : Nat) (ds : List Int) : Prop := ds.length = xs.length ∧ ds[0]? = some 0 ∧ ∀ p c, c < v → IsKid xs p c → ∃ x, ds[p]? = some x ∧ ds[c]? = some (x + 1)
theorem partE_start {xs : List Int} (ht : isTree xs = true) : PartE xs 1 (List.replicate xs.length (0 : Int)) := by
  have := (tree_len ht).1
  refine ⟨by simp, ?_, fun p c h hc => by have := kid_bounds ht hc; omega⟩
  rw [List.getElem?_replicate, if_pos (by omega)]
theorem partE_step {xs ds : List Int} {v p : Nat} {y : Int} (ht : isTree xs = true) (h : PartE xs v ds) (hv0 : 0 < v) (hv : v < xs.length) (hp : IsKid xs p v) (hy : ds[p]? = some y) : PartE xs (v + 1) (ds.set v (y + 1)) := by
  obtain ⟨h1, h2, h3⟩ := h
  refine ⟨by simp [h1], ?_, fun q c hc hq => ?_⟩
  · rw [List.getElem?_set_ne (by omega)]; exact h2
  · have hb := kid_bounds ht hq
    rcases Nat.lt_or_ge c v with h5 | h5
    · rw [List.getElem?_set_ne (by omega), List.getElem?_set_ne (by omega)]
      exact h3 q c h5 hq
    · obtain rfl : c = v := by omega
      obtain rfl := kid_unique ht hq hp
      rw [List.getElem?_set_ne (by omega), List.getElem?_set_self (by omega)]
      exact ⟨y, hy, rfl⟩
theorem partE_done {xs ds : List Int} (ht : isTree xs = true) (h : PartE xs xs.length ds) : DepsOK xs ds :=
  ⟨h.1, h.2.1, fun p c hc => h.2.2 p c (by have := kid_bounds ht hc; omega) hc⟩

theorem depsOK_unique {xs ds es : List Int} (ht : isTree xs = true) (h : DepsOK xs ds) (h' : DepsOK xs es) : ds = es := by
  have key : ∀ (n i : Nat), i < n → i < xs.length → ds[i]? = es[i]? := by
    intro n
    induction n with
    | zero => intro i hi; omega
    | succ n ih =>
      intro i hi hx
      rcases Nat.eq_zero_or_pos i with h0 | h0
      · subst h0; rw [h.2.1, h'.2.1]
      · obtain ⟨p, hp⟩ := kid_has ht h0 hx
        have hb := kid_bounds ht hp
        obtain ⟨x, hx1, hx2⟩ := h.2.2 p i hp
        obtain ⟨y, hy1, hy2⟩ := h'.2.2 p i hp
        have := ih p (by omega) (by omega)
        rw [hx1, hy1] at this
        injection this with this
        rw [hx2, hy2, this]
  refine List.ext_getElem? fun i => ?_
  rcases Nat.lt_or_ge i xs.length with hi | hi
  · exact key (i + 1) i (by omega) hi
  · rw [List.getElem?_eq_none (by rw [h.1]; exact hi), List.getElem?_eq_none (by rw [h'.1]; exact hi)]
/-- a depth is not negative, and not more than the node -/
theorem depsOK_le {xs ds : List Int} (ht : isTree xs = true) (h : DepsOK xs ds) : ∀ (n i : Nat) (x : Int), i < n → ds[i]? = some x → 0 ≤ x ∧ x ≤ i := by
  intro n
  induction n with
  | zero => intro i x hi; omega
  | succ n ih =>
    intro i x hi hx
    have hil := (List.getElem?_eq_some_iff.1 hx).1
    rcases Nat.eq_zero_or_pos i with h0 | h0
    · subst h0
      rw [h.2.1] at hx
      injection hx with hx
      omega
    · obtain ⟨p, hp⟩ := kid_has ht h0 (by rw [← h.1]; exact hil)
      have hb := kid_bounds ht hp
      obtain ⟨y, hy1, hy2⟩ := h.2.2 p i hp
      have := ih p y (by omega) hy1
      rw [hx] at hy2
      injection hy2 with hy2
      omega
open Classical in
noncomputable def depths (xs : List Int) : List Int := if h : ∃ ds, DepsOK xs ds then h.choose else []
theorem depths_eq {xs ds : List Int} (ht : isTree xs = true) (h : DepsOK xs ds) : depths xs = ds := by
  have hx : ∃ ds, DepsOK xs ds := ⟨ds, h⟩
  rw [depths, dif_pos hx]
  exact depsOK_unique ht hx.choose_spec h
theorem depths_len {xs : List Int} : (depths xs).length ≤ xs.length := by
  rw [depths]
  split
  · rename_i h; exact Nat.le_of_eq h.choose_spec.1
  · exact Nat.zero_le _
end Go.Proofs.Ytkcldfliiagloaa.M

/- Ways between two nodes, their mathematics: both go up to the meet; how long they are; least places of a list; sums. No program is named here. -/
namespace Go.Proofs.Ytkcldfliiagloaa
namespace M
/-- the nodes on the way up from v to m, without m -/
def up (ps : List Int) (m : Nat) : Nat → Nat → List Int
  | 0, _ => []
  | k + 1, v => if v ≤ m then [] else (v : Int) :: up ps m k (ps[v]?.getD 0).toNat
theorem up_end (ps : List Int) {m v : Nat} (h : v ≤ m) : ∀ k, up ps m k v = []
  | 0 => rfl
  | k + 1 => by rw [up, if_pos h]
theorem par_has {xs ps : List Int} (ht : isTree xs = true) (hp : ParsOK xs ps) {v : Nat} (h0 : 0 < v) (hv : v < xs.length) : ∃ p : Nat, ps[v]? = some (p : Int) ∧ p < v ∧ IsKid xs p v := by
  obtain ⟨p, h⟩ := kid_has ht h0 hv
  exact ⟨p, hp.2.2 p v h, (kid_bounds ht h).1, h⟩
theorem up_fuel {xs ps : List Int} (ht : isTree xs = true) (hp : ParsOK xs ps) {m : Nat} : ∀ {k k' v : Nat}, v < xs.length → v ≤ k → v ≤ k' → up ps m k v = up ps m k' v := by
  intro k
  induction k with
  | zero => intro k' v _ h _; obtain rfl : v = 0 := by omega
            rw [up_end ps (Nat.zero_le _), up_end ps (Nat.zero_le _)]
  | succ k ih =>
    intro k' v hv h h'
    by_cases hm : v ≤ m
    · rw [up_end ps hm, up_end ps hm]
    · cases k' with
      | zero => omega
      | succ k' =>
        rw [up, up, if_neg hm, if_neg hm]
        obtain ⟨p, h1, h2, _⟩ := par_has ht hp (show 0 < v by omega) hv
        rw [h1]
        simp only [Option.getD_some, Int.toNat_natCast]
        rw [ih (k' := k') (by omega) (by omega) (by omega)]
def upTo (ps : List Int) (m v : Nat) : List Int := up ps m v v
theorem upTo_end (ps : List Int) {m v : Nat} (h : v ≤ m) : upTo ps m v = [] := up_end ps h v
theorem upTo_step {xs ps : List Int} (ht : isTree xs = true) (hp : ParsOK xs ps) {m v p : Nat} (hm : m < v) (hv : v < xs.length) (hq : ps[v]? = some (p : Int)) : upTo ps m v = (v : Int) :: upTo ps m p := by
  obtain ⟨p', h1, h2, _⟩ := par_has ht hp (show 0 < v by omega) hv
  rw [hq] at h1
  injection h1 with h1
  obtain ⟨k, hk⟩ : ∃ k, v = k + 1 := ⟨v - 1, by omega⟩
  rw [upTo, hk, up, if_neg (by omega), ← hk, hq]
  simp only [Option.getD_some, Int.toNat_natCast]
  rw [upTo, up_fuel ht hp (k := k) (k' := p) (by omega) (by omega) (by omega)]
/-- a node a above v (or v) and not above m, with the nodes that have been met -/
def Climb (xs ps : List Int) (v m a : Nat) (acc : List Int) : Prop := a < xs.length ∧ bel xs v a = true ∧ m ≤ a ∧ acc ++ upTo ps m a = upTo ps m v
theorem climb_start {xs ps : List Int} {v m : Nat} (hv : v < xs.length) (hm : bel xs v m = true) : Climb xs ps v m v [] :=
  ⟨hv, bel_iff.2 ⟨Nat.le_refl _, fin_gt hv⟩, (bel_iff.1 hm).1, rfl⟩
theorem climb_step {xs ps : List Int} (ht : isTree xs = true) (hp : ParsOK xs ps) {v m a : Nat} {acc : List Int} (hm : bel xs v m = true) (h : Climb xs ps v m a acc) (hlt : m < a) :
    ∃ p : Nat, ps[a]? = some (p : Int) ∧ p < a ∧ Climb xs ps v m p (acc ++ [(a : Int)]) := by
  obtain ⟨h1, h2, h3, h4⟩ := h
  obtain ⟨p, hp1, hp2, hp3⟩ := par_has ht hp (show 0 < a by omega) h1
  have b1 := bel_iff.1 h2
  have bm := bel_iff.1 hm
  have hb := kid_bounds ht hp3
  have hn := nest ht (v := p) (q := a) (by omega) (by omega) hb.2.1
  refine ⟨p, hp1, hp2, by omega, bel_iff.2 (by omega), kid_up ht hp3 hlt (by omega), ?_⟩
  rw [List.append_assoc, List.singleton_append, ← upTo_step ht hp hlt h1 hp1]
  exact h4
theorem climb_end {xs ps : List Int} {v m : Nat} {acc : List Int} (h : Climb xs ps v m m acc) : acc = upTo ps m v := by
  have := h.2.2.2
  rwa [upTo_end ps (Nat.le_refl m), List.append_nil] at this
theorem meet_bel {xs : List Int} (ht : isTree xs = true) {v w : Nat} (hv : v < xs.length) (hw : w < xs.length) : bel xs v (meet xs v w) = true ∧ bel xs w (meet xs v w) = true := meetDown_bel ht hv hw _
theorem meet_lt {xs : List Int} {v w : Nat} (hv : v < xs.length) : meet xs v w < xs.length := by
  have := meetDown_le xs v w (min v w)
  simp only [meet]
  omega
/-- both climb: they meet at the meet alone -/
theorem climb_meet {xs ps : List Int} {v w a : Nat} {l r : List Int} (h1 : Climb xs ps v (meet xs v w) a l) (h2 : Climb xs ps w (meet xs v w) a r) : a = meet xs v w :=
  meet_stop h1.2.1 h2.2.1 h1.2.2.1
/-- the one with the greater number is not at the meet -/
theorem climb_left {xs ps : List Int} {v w a b : Nat} {l r : List Int} (_h1 : Climb xs ps v (meet xs v w) a l) (h2 : Climb xs ps w (meet xs v w) b r) (h : b < a) : meet xs v w < a := by
  have := h2.2.2.1; omega
theorem climb_right {xs ps : List Int} {v w a b : Nat} {l r : List Int} (h1 : Climb xs ps v (meet xs v w) a l) (_h2 : Climb xs ps w (meet xs v w) b r) (h : a < b) : meet xs v w < b := by
  have := h1.2.2.1; omega
theorem climb_len {xs ps : List Int} (ht : isTree xs = true) (hp : ParsOK xs ps) {m : Nat} : ∀ {v : Nat}, v < xs.length → bel xs v m = true → (upTo ps m v).length ≤ v - m := by
  intro v
  induction v using Nat.strongRecOn with
  | _ v ih =>
    intro hv hb
    have b1 := bel_iff.1 hb
    by_cases hm : m < v
    · obtain ⟨p, h1, h2, h3⟩ := par_has ht hp (show 0 < v by omega) hv
      have hk := kid_up ht h3 hm b1.2
      rw [upTo_step ht hp hm hv h1, List.length_cons]
      have := ih p h2 (by omega) (bel_iff.2 (by omega))
      omega
    · rw [upTo_end ps (by omega)]; simp
/-- the depths tell how long a way up is -/
theorem up_depth {xs ps ds : List Int} (ht : isTree xs = true) (hp : ParsOK xs ps) (hd : DepsOK xs ds) {m : Nat} {y : Int} (hm : ds[m]? = some y) : ∀ {v : Nat} {x : Int}, v < xs.length → bel xs v m = true → ds[v]? = some x → x = y + (upTo ps m v).length := by
  intro v
  induction v using Nat.strongRecOn with
  | _ v ih =>
    intro x hv hb hx
    have b1 := bel_iff.1 hb
    by_cases hmv : m < v
    · obtain ⟨p, h1, h2, h3⟩ := par_has ht hp (show 0 < v by omega) hv
      have hk := kid_up ht h3 hmv b1.2
      obtain ⟨z, hz1, hz2⟩ := hd.2.2 p v h3
      have := ih p h2 (by omega) (bel_iff.2 (by omega)) hz1
      rw [hx] at hz2
      injection hz2 with hz2
      rw [upTo_step ht hp hmv hv h1, List.length_cons]
      omega
    · obtain rfl : v = m := by omega
      rw [upTo_end ps (Nat.le_refl _)]
      rw [hm] at hx
      injection hx with hx
      simp; omega
open Classical in
theorem pars_ex {xs : List Int} (ht : isTree xs = true) : ∃ ps, ParsOK xs ps := by
  have hl := tree_len ht
  refine ⟨(List.range xs.length).map fun i => if h : ∃ p, IsKid xs p i then (h.choose : Int) else -1, by simp, ?_, fun p c h => ?_⟩
  · have h0 : ¬ ∃ p, IsKid xs p 0 := fun ⟨p, h⟩ => by have := kid_bounds ht h; omega
    rw [List.getElem?_map, List.getElem?_range (by omega)]
    simp only [Option.map_some, dif_neg h0]
  · have hb := kid_bounds ht h
    have hx : ∃ p, IsKid xs p c := ⟨p, h⟩
    rw [List.getElem?_map, List.getElem?_range hb.2.2]
    simp only [Option.map_some, dif_pos hx]
    rw [kid_unique ht hx.choose_spec h]
/-- the way from v to w -/
noncomputable def way (xs : List Int) (v w : Nat) : List Int := upTo (parents xs) (meet xs v w) v ++ [(meet xs v w : Int)] ++ (upTo (parents xs) (meet xs v w) w).reverse
theorem way_mk {xs ps : List Int} (ht : isTree xs = true) (hp : ParsOK xs ps) {v w : Nat} {l r : List Int} {m : Nat} (hm : meet xs v w = m) (hl : Climb xs ps v m m l) (hr : Climb xs ps w m m r) : l ++ [(m : Int)] ++ r.reverse = way xs v w := by
  rw [way, hm, parents_eq ht hp, climb_end hl, climb_end hr]
theorem way_len {xs : List Int} (ht : isTree xs = true) (hE : ∃ ps, ParsOK xs ps) {v w : Nat} (hv : v < xs.length) (hw : w < xs.length) : 1 ≤ (way xs v w).length ∧ (way xs v w).length ≤ 47 := by
  obtain ⟨ps, hp⟩ := hE
  have hm := meet_bel ht hv hw
  have h1 := climb_len ht hp hv hm.1
  have h2 := climb_len ht hp hw hm.2
  have h3 := (tree_len ht).2
  rw [way, parents_eq ht hp]
  simp only [List.length_append, List.length_singleton, List.length_reverse]
  omega
noncomputable def dist (xs : List Int) (v w : Nat) : Nat := (way xs v w).length - 1
theorem dist_le {xs : List Int} (ht : isTree xs = true) (hE : ∃ ps, ParsOK xs ps) {v w : Nat} (hv : v < xs.length) (hw : w < xs.length) : dist xs v w ≤ 46 := by
  have := way_len ht hE hv hw
  simp only [dist]; omega
theorem dist_depths {xs ps ds : List Int} (ht : isTree xs = true) (hp : ParsOK xs ps) (hd : DepsOK xs ds) {v w : Nat} {x y z : Int} (hv : v < xs.length) (hw : w < xs.length) (hx : ds[v]? = some x) (hy : ds[w]? = some y) (hz : ds[meet xs v w]? = some z) :
    (dist xs v w : Int) = x + y - 2 * z := by
  have hm := meet_bel ht hv hw
  have h1 := up_depth ht hp hd hz hv hm.1 hx
  have h2 := up_depth ht hp hd hz hw hm.2 hy
  simp only [dist, way, parents_eq ht hp, List.length_append, List.length_singleton, List.length_reverse]
  omega
noncomputable def wayBetween (xs : List Int) (v w : Int) : List Int × Int := if code xs [v, w] = 0 then (way xs v.toNat w.toNat, 0) else ([], code xs [v, w])
theorem wayBetween_yes {xs : List Int} {v w : Nat} (h : code xs [(v : Int), (w : Int)] = 0) : wayBetween xs v w = (way xs v w, 0) := by simp [wayBetween, h]
theorem wayBetween_no {xs : List Int} {v w : Int} (h : code xs [v, w] ≠ 0) : wayBetween xs v w = ([], code xs [v, w]) := by simp [wayBetween, h]
noncomputable def stepsBetween (xs : List Int) (v w : Int) : Int × Int := if code xs [v, w] = 0 then ((dist xs v.toNat w.toNat : Int), 0) else (0, code xs [v, w])
theorem stepsBetween_yes {xs : List Int} {v w : Nat} (h : code xs [(v : Int), (w : Int)] = 0) : stepsBetween xs v w = ((dist xs v w : Int), 0) := by simp [stepsBetween, h]
theorem stepsBetween_no {xs : List Int} {v w : Int} (h : code xs [v, w] ≠ 0) : stepsBetween xs v w = (0, code xs [v, w]) := by simp [stepsBetween, h]
end M
end Go.Proofs.Ytkcldfliiagloaa

/- slices.Max over numbers of at least 0. -/

namespace Go.Proofs.Ytkcldfliiagloaa
open Go.RowKit

namespace M
/-- the greatest of the first k numbers, and of 0 -/
def maxTo (xs : List Int) : Nat → Int
  | 0 => 0
  | k + 1 => if maxTo xs k ≤ xs[k]?.getD 0 then xs[k]?.getD 0 else maxTo xs k
theorem maxTo_hit {xs : List Int} {k : Nat} {x : Int} (h : xs[k]? = some x) (hx : maxTo xs k ≤ x) : maxTo xs (k + 1) = x := by simp [maxTo, h, hx]
theorem maxTo_miss {xs : List Int} {k : Nat} {x : Int} (h : xs[k]? = some x) (hx : x < maxTo xs k) : maxTo xs (k + 1) = maxTo xs k := by
  rw [maxTo, h, if_neg (by simp; omega)]
theorem maxTo_step {xs : List Int} {k : Nat} {x y : Int} (h : xs[k]? = some x) (hy : maxTo xs k = y) : maxTo xs (k + 1) = if y < x then x else y := by
  simp only [maxTo, h, Option.getD_some, hy]
  split <;> split <;> omega
theorem maxTo_pos (xs : List Int) : ∀ k, 0 ≤ maxTo xs k := by
  intro k
  induction k with
  | zero => exact Int.le_refl _
  | succ k ih => simp only [maxTo]; split <;> omega
theorem maxTo_le {xs : List Int} {b : Int} (hb : 0 ≤ b) (h : ∀ x ∈ xs, x ≤ b) : ∀ k, maxTo xs k ≤ b := by
  intro k
  induction k with
  | zero => exact hb
  | succ k ih =>
    simp only [maxTo]
    split
    · rcases hx : xs[k]? with _ | x
      · simpa using hb
      · simpa using h x (List.mem_of_getElem? hx)
    · exact ih
theorem maxTo_ge {xs : List Int} {j : Nat} {x : Int} (h : xs[j]? = some x) : ∀ k, j < k → x ≤ maxTo xs k := by
  intro k
  induction k with
  | zero => intro h; omega
  | succ k ih =>
    intro hj
    rcases Nat.lt_or_ge j k with h1 | h1
    · have := ih h1
      simp only [maxTo]
      split <;> omega
    · obtain rfl : j = k := by omega
      simp only [maxTo, h, Option.getD_some]
      split <;> omega
end M

set_option maxHeartbeats 1000000 in
theorem slicesMax (A : Option Addr) (xs : List Int) (c : Nat) (w : World) (hx : xs.length ≤ 1000000) (hpos : 0 < xs.length) (h0 : Hid (∀ x ∈ xs, 0 ≤ x)) (h : Ints w w.heap.size A xs) (r : Int) (hr : Hid (M.maxTo xs xs.length = r)) :
    Calls Try.prog 145 #[.slice A xs.length c] w fun e w' => e = .returned (.int .i64 r) ∧ w = w' := by
  obtain ⟨x0, hx0⟩ : ∃ x, xs[0]? = some x := ⟨_, List.getElem?_eq_getElem hpos⟩
  have hm1 : M.maxTo xs 1 = x0 := M.maxTo_hit hx0 (by simp only [M.maxTo]; exact h0.out x0 (List.mem_of_getElem? hx0))
  have Hm1 := Lib.hid hm1
  obtain ⟨b, off, rfl, hbB, hcells⟩ := h hpos
  have c0 : w.cell? ⟨b, off, none⟩ = some (.int .i64 x0) := by simpa using hcells 0 _ hx0
  have Hcells := Lib.hid hcells
  clear hcells hm1 hx0
  have hl1 : 1 ≤ xs.length := hpos
  have hd1 : ¬ (xs.length : Int) < 1 := by omega
  go_enter Try.func145, Try.ntmps145
  go_wp2
  go_loop [3, 4] (fun m i => ∃ (k : Nat) (y : Int), 1 ≤ k ∧ k ≤ xs.length ∧ i = .int .i64 k ∧ m = .int .i64 y ∧ Hid (M.maxTo xs k = y)) (fun _ i => xs.length - (intOf i).toNat)
  case atStart => exact ⟨1, x0, Nat.le_refl _, hl1, rfl, rfl, Hm1⟩
  case round =>
    obtain ⟨k, y, hk1, hk, rfl, rfl, hy⟩ := hrel
    clear c0
    by_cases hlt : k < xs.length
    · obtain ⟨x, hX⟩ : ∃ x, xs[k]? = some x := ⟨_, List.getElem?_eq_getElem hlt⟩
      have g := Hcells.out k _ hX
      have hs : Hid (M.maxTo xs (k + 1) = if y < x then x else y) := M.maxTo_step hX hy.out
      have hs2 : Hid (M.maxTo xs (k + 1) = max y x) := by
        show _ = _
        rw [hs.out]
        split <;> omega
      clear hX
      go_wp2
      all_goals
        go_round
        case rel => first | exact ⟨k + 1, _, by omega, by omega, by go_num, rfl, hs⟩ | exact ⟨k + 1, _, by omega, by omega, by go_num, rfl, hs2⟩
        case measure => simp [intOf]; omega
    · obtain rfl : k = xs.length := by omega
      have he : Hid (y = r) := hy.out.symm.trans hr.out
      go_wp2
      go_ret
      exact ⟨by rw [← he.out]; rfl, rfl⟩
end Go.Proofs.Ytkcldfliiagloaa

/- Least numbers of a list and their places; rows made by a function of places; reaches as greatest distances; sums of distances: the mathematics. No program is named here. -/
namespace Go.Proofs.Ytkcldfliiagloaa
namespace M
/-- a row by a function of places -/
def rowOf (n : Nat) (f : Nat → Int) : List Int := (List.range n).map f
theorem rowOf_len (n : Nat) (f : Nat → Int) : (rowOf n f).length = n := by simp [rowOf]
theorem rowOf_at {n i : Nat} (f : Nat → Int) (h : i < n) : (rowOf n f)[i]? = some (f i) := by simp [rowOf, h]
theorem rowOf_succ (n : Nat) (f : Nat → Int) : rowOf (n + 1) f = rowOf n f ++ [f n] := by simp [rowOf, List.range_succ]
theorem rowOf_congr {n : Nat} {f g : Nat → Int} (h : ∀ i, i < n → f i = g i) : rowOf n f = rowOf n g := by
  apply List.ext_getElem?
  intro i
  by_cases hi : i < n
  · rw [rowOf_at f hi, rowOf_at g hi, h i hi]
  · rw [List.getElem?_eq_none (by rw [rowOf_len]; omega), List.getElem?_eq_none (by rw [rowOf_len]; omega)]
theorem rowOf_set {n k : Nat} (f : Nat → Int) (x : Int) : (rowOf n f).set k x = rowOf n (fun i => if i = k then x else f i) := by
  apply List.ext_getElem?
  intro i
  by_cases hi : i < n
  · rw [rowOf_at _ hi]
    by_cases hk : k = i
    · subst hk; rw [List.getElem?_set_self (by rw [rowOf_len]; exact hi), if_pos rfl]
    · rw [List.getElem?_set_ne hk, rowOf_at f hi, if_neg (fun e => hk e.symm)]
  · rw [List.getElem?_eq_none (by rw [List.length_set, rowOf_len]; omega), List.getElem?_eq_none (by rw [rowOf_len]; omega)]
theorem rowOf_zero (n : Nat) : rowOf n (fun _ => 0) = List.replicate n 0 := by
  apply List.ext_getElem?
  intro i
  rw [List.getElem?_replicate]
  by_cases hi : i < n
  · rw [rowOf_at _ hi, if_pos hi]
  · rw [if_neg hi, List.getElem?_eq_none (by rw [rowOf_len]; omega)]
/-- the least of the first k numbers, for 1 or more of them -/
def minTo (xs : List Int) : Nat → Int
  | 0 => 0
  | k + 1 => if k = 0 then xs[0]?.getD 0 else min (minTo xs k) (xs[k]?.getD 0)
theorem minTo_one {xs : List Int} {x : Int} (h : xs[0]? = some x) : minTo xs 1 = x := by simp [minTo, h]
theorem minTo_step {xs : List Int} {k : Nat} {x y : Int} (h : xs[k]? = some x) (hk : 1 ≤ k) (hy : minTo xs k = y) : minTo xs (k + 1) = min y x := by
  rw [minTo, if_neg (by omega), h, hy]; rfl
theorem minTo_le {xs : List Int} {j : Nat} {x : Int} (h : xs[j]? = some x) : ∀ k, j < k → minTo xs k ≤ x := by
  intro k
  induction k with
  | zero => intro h; omega
  | succ k ih =>
    intro hj
    rw [minTo]
    by_cases h0 : k = 0
    · subst h0
      obtain rfl : j = 0 := by omega
      rw [if_pos rfl, h]; exact Int.le_refl _
    · rw [if_neg h0]
      by_cases h1 : j < k
      · have := ih h1; omega
      · obtain rfl : j = k := by omega
        rw [h]
        simp only [Option.getD_some]
        omega
/-- the places below k at which m stands -/
def atTo (xs : List Int) (m : Int) : Nat → List Int
  | 0 => []
  | k + 1 => atTo xs m k ++ (if xs[k]? = some m then [(k : Int)] else [])
theorem atTo_hit {xs : List Int} {m : Int} {k : Nat} (h : xs[k]? = some m) : atTo xs m (k + 1) = atTo xs m k ++ [(k : Int)] := by simp [atTo, h]
theorem atTo_miss {xs : List Int} {m x : Int} {k : Nat} (h : xs[k]? = some x) (hx : x ≠ m) : atTo xs m (k + 1) = atTo xs m k := by simp [atTo, h, hx]
theorem atTo_len (xs : List Int) (m : Int) : ∀ k, (atTo xs m k).length ≤ k := by
  intro k
  induction k with
  | zero => simp [atTo]
  | succ k ih => simp only [atTo, List.length_append]; split <;> simp <;> omega
theorem atTo_none {xs : List Int} {m : Int} : ∀ {k : Nat}, (∀ j x, j < k → xs[j]? = some x → x ≠ m) → atTo xs m k = [] := by
  intro k
  induction k with
  | zero => intro _; rfl
  | succ k ih =>
    intro h
    rw [atTo, ih fun j x hj => h j x (by omega), if_neg fun e => h k m (by omega) e rfl]; rfl
/-- the places of the least numbers among the first k -/
def least (xs : List Int) (k : Nat) : List Int := atTo xs (minTo xs k) k
theorem least_len (xs : List Int) (k : Nat) : (least xs k).length ≤ k := atTo_len _ _ _
theorem least_less {xs : List Int} {k : Nat} {x : Int} (h : xs[k]? = some x) (hk : 1 ≤ k) (hx : x < minTo xs k) : least xs (k + 1) = [(k : Int)] ∧ minTo xs (k + 1) = x := by
  have hm : minTo xs (k + 1) = x := by rw [minTo_step h hk rfl]; omega
  refine ⟨?_, hm⟩
  rw [least, hm, atTo_hit h, atTo_none fun j y hj hy e => ?_]
  · rfl
  · have := minTo_le hy k hj; omega
theorem least_same {xs : List Int} {k : Nat} {x : Int} (h : xs[k]? = some x) (hk : 1 ≤ k) (hx : x = minTo xs k) : least xs (k + 1) = least xs k ++ [(k : Int)] ∧ minTo xs (k + 1) = x := by
  have hm : minTo xs (k + 1) = x := by rw [minTo_step h hk rfl]; omega
  refine ⟨?_, hm⟩
  rw [least, hm, atTo_hit h, least, hx]
theorem least_more {xs : List Int} {k : Nat} {x : Int} (h : xs[k]? = some x) (hk : 1 ≤ k) (hx : minTo xs k < x) : least xs (k + 1) = least xs k ∧ minTo xs (k + 1) = minTo xs k := by
  have hm : minTo xs (k + 1) = minTo xs k := by rw [minTo_step h hk rfl]; omega
  refine ⟨?_, hm⟩
  rw [least, hm, atTo_miss h (by omega), least]
theorem least_one {xs : List Int} {x : Int} (h : xs[0]? = some x) : least xs 1 = [0] ∧ minTo xs 1 = x := by
  refine ⟨?_, minTo_one h⟩
  rw [least, minTo_one h, atTo_hit h]; rfl
/-- the first of the least places is one of them -/
theorem atTo_head {xs : List Int} {m : Int} : ∀ {k : Nat} {a : Int}, (atTo xs m k)[0]? = some a → ∃ j : Nat, a = (j : Int) ∧ j < k ∧ xs[j]? = some m := by
  intro k
  induction k with
  | zero => intro a h; simp [atTo] at h
  | succ k ih =>
    intro a h
    rw [atTo] at h
    by_cases hl : 0 < (atTo xs m k).length
    · rw [List.getElem?_append_left hl] at h
      obtain ⟨j, h1, h2, h3⟩ := ih h
      exact ⟨j, h1, by omega, h3⟩
    · have : atTo xs m k = [] := List.eq_nil_of_length_eq_zero (by omega)
      rw [this, List.nil_append] at h
      split at h
      · rename_i hx
        simp at h
        exact ⟨k, h.symm, by omega, hx⟩
      · simp at h
theorem least_pos {xs : List Int} : ∀ {k : Nat}, 1 ≤ k → k ≤ xs.length → 1 ≤ (least xs k).length := by
  intro k
  induction k with
  | zero => intro h; omega
  | succ k ih =>
    intro _ hk
    have hx : xs[k]? = some xs[k] := List.getElem?_eq_getElem (by omega)
    by_cases h0 : k = 0
    · subst h0; rw [(least_one hx).1]; simp
    · rcases Int.lt_trichotomy xs[k] (minTo xs k) with h | h | h
      · rw [(least_less hx (by omega) h).1]; simp
      · rw [(least_same hx (by omega) h).1]; simp
      · rw [(least_more hx (by omega) h).1]; exact ih (by omega) (by omega)

/-- the distances of a node -/
noncomputable def distRow (xs : List Int) (v : Nat) : List Int := rowOf xs.length fun w => (dist xs v w : Int)
theorem distRow_len (xs : List Int) (v : Nat) : (distRow xs v).length = xs.length := rowOf_len _ _
theorem distRow_at (xs : List Int) (v : Nat) {w : Nat} (h : w < xs.length) : (distRow xs v)[w]? = some (dist xs v w : Int) := rowOf_at _ h
noncomputable def reach (xs : List Int) (v : Nat) : Int := maxTo (distRow xs v) xs.length
noncomputable def reaches (xs : List Int) : List Int := rowOf xs.length (reach xs)
theorem reaches_len (xs : List Int) : (reaches xs).length = xs.length := rowOf_len _ _
/-- the reaches while they are made: those of the nodes below v are there, that of v over the first k nodes -/
noncomputable def reachRow (xs : List Int) (v k : Nat) : List Int := rowOf xs.length fun i => if i < v then reach xs i else if i = v then maxTo (distRow xs v) k else 0
theorem reachRow_len (xs : List Int) (v k : Nat) : (reachRow xs v k).length = xs.length := rowOf_len _ _
theorem reachRow_zero (xs : List Int) : reachRow xs 0 0 = List.replicate xs.length 0 := by
  rw [← rowOf_zero]
  refine rowOf_congr fun i hi => ?_
  rw [if_neg (by omega)]
  split <;> rfl
theorem reachRow_at (xs : List Int) {v : Nat} (k : Nat) (h : v < xs.length) : (reachRow xs v k)[v]? = some (maxTo (distRow xs v) k) := by
  rw [reachRow, rowOf_at _ h, if_neg (by omega), if_pos rfl]
theorem reachRow_step {xs : List Int} {v k : Nat} {x : Int} (h : maxTo (distRow xs v) (k + 1) = x) : (reachRow xs v k).set v x = reachRow xs v (k + 1) := by
  rw [reachRow, rowOf_set]
  refine rowOf_congr fun i hi => ?_
  by_cases h1 : i = v
  · subst h1; rw [if_pos rfl, if_neg (by omega), if_pos rfl, h]
  · rw [if_neg h1, if_neg h1, if_neg h1]
theorem reachRow_next {xs : List Int} {v : Nat} : reachRow xs v xs.length = reachRow xs (v + 1) 0 := by
  refine rowOf_congr fun i hi => ?_
  by_cases h1 : i < v
  · rw [if_pos h1, if_pos (by omega)]
  · by_cases h2 : i = v
    · subst h2; rw [if_neg (by omega), if_pos rfl, if_pos (by omega)]; rfl
    · rw [if_neg h1, if_neg h2, if_neg (by omega)]
      split <;> rfl
theorem reachRow_end {xs : List Int} {k : Nat} : reachRow xs xs.length k = reaches xs := by
  refine rowOf_congr fun i hi => ?_
  rw [if_pos hi]
theorem reach_le {xs : List Int} (ht : isTree xs = true) (hE : ∃ ps, ParsOK xs ps) {v : Nat} (hv : v < xs.length) (k : Nat) : 0 ≤ maxTo (distRow xs v) k ∧ maxTo (distRow xs v) k ≤ 46 := by
  refine ⟨maxTo_pos _ _, maxTo_le (by omega) (fun x hx => ?_) k⟩
  obtain ⟨i, hi⟩ := List.getElem?_of_mem hx
  have hl : i < xs.length := by have := (List.getElem?_eq_some_iff.1 hi).1; rwa [distRow_len] at this
  rw [distRow_at xs v hl] at hi
  injection hi with hi
  have := dist_le ht hE hv hl
  omega
/-- the sum of the distances of v to the first k nodes -/
noncomputable def sumRow (xs : List Int) (v : Nat) : Nat → Nat
  | 0 => 0
  | k + 1 => sumRow xs v k + dist xs v k
/-- the sum of the distances of all two nodes below v -/
noncomputable def sumTo (xs : List Int) : Nat → Nat
  | 0 => 0
  | v + 1 => sumTo xs v + sumRow xs v v
theorem sumRow_le {xs : List Int} (ht : isTree xs = true) (hE : ∃ ps, ParsOK xs ps) {v : Nat} (hv : v < xs.length) : ∀ {k : Nat}, k ≤ xs.length → sumRow xs v k ≤ 46 * k := by
  intro k
  induction k with
  | zero => intro _; simp [sumRow]
  | succ k ih => intro hk; have h1 := ih (by omega); have h2 := dist_le ht hE hv (w := k) (by omega); simp only [sumRow]; omega
theorem sumTo_le {xs : List Int} (ht : isTree xs = true) (hE : ∃ ps, ParsOK xs ps) : ∀ {v : Nat}, v ≤ xs.length → sumTo xs v ≤ 1104 * v := by
  have hl := (tree_len ht).2
  intro v
  induction v with
  | zero => intro _; simp [sumTo]
  | succ v ih => intro hv; have h1 := ih (by omega); have h2 := sumRow_le ht hE (v := v) (by omega) (k := v) (by omega); simp only [sumTo]; omega
end M
end Go.Proofs.Ytkcldfliiagloaa

/- Heavy children, heavy paths, light steps, intervals and ancestors: their mathematics. No program is named here. -/
namespace Go.Proofs.Ytkcldfliiagloaa
namespace M
/-- the heavy one among the first k children of a node, and its size -/
def hvTo (xs : List Int) (v : Nat) : Nat → Int × Int
  | 0 => (-1, 0)
  | k + 1 => if (hvTo xs v k).2 < (span 1 (xs.drop (kidAt xs v k)) : Int) then ((kidAt xs v k : Int), (span 1 (xs.drop (kidAt xs v k)) : Int)) else hvTo xs v k
theorem hvTo_hit {xs : List Int} {v k C S : Nat} {h s : Int} (hk : hvTo xs v k = (h, s)) (hC : kidAt xs v k = C) (hS : span 1 (xs.drop C) = S) (hlt : s < (S : Int)) : hvTo xs v (k + 1) = ((C : Int), (S : Int)) := by
  simp only [hvTo, hk, hC, hS]
  rw [if_pos hlt]
theorem hvTo_miss {xs : List Int} {v k C S : Nat} {h s : Int} (hk : hvTo xs v k = (h, s)) (hC : kidAt xs v k = C) (hS : span 1 (xs.drop C) = S) (hlt : ¬ s < (S : Int)) : hvTo xs v (k + 1) = (h, s) := by
  simp only [hvTo, hk, hC, hS]
  rw [if_neg hlt]
theorem hvTo_kid (xs : List Int) (v : Nat) : ∀ k, (k = 0 ∧ hvTo xs v k = (-1, 0)) ∨ (1 ≤ k ∧ ((hvTo xs v k).2 = 0 → (hvTo xs v k).1 = -1) ∧ 0 ≤ (hvTo xs v k).2 ∧ ((hvTo xs v k).1 = -1 ∨ ∃ i, i < k ∧ (hvTo xs v k).1 = (kidAt xs v i : Int))) := by
  intro k
  induction k with
  | zero => exact .inl ⟨rfl, rfl⟩
  | succ k ih =>
    refine .inr ⟨by omega, ?_⟩
    have h0 : ((hvTo xs v k).2 = 0 → (hvTo xs v k).1 = -1) ∧ 0 ≤ (hvTo xs v k).2 ∧ ((hvTo xs v k).1 = -1 ∨ ∃ i, i < k ∧ (hvTo xs v k).1 = (kidAt xs v i : Int)) := by
      rcases ih with ⟨rfl, h⟩ | h
      · rw [h]; exact ⟨fun _ => rfl, by decide, .inl rfl⟩
      · exact h.2
    rw [hvTo]
    split
    · rename_i hlt
      refine ⟨fun h => ?_, by omega, .inr ⟨k, by omega, rfl⟩⟩
      have := h0.2.1
      simp only at h
      omega
    · refine ⟨h0.1, h0.2.1, ?_⟩
      rcases h0.2.2 with h | ⟨i, hi, h⟩
      · exact .inl h
      · exact .inr ⟨i, by omega, h⟩
theorem hvTo_bounds {xs : List Int} (hx : xs.length ≤ 24) (v : Nat) : ∀ k, 0 ≤ (hvTo xs v k).2 ∧ (hvTo xs v k).2 ≤ 24 := by
  intro k
  induction k with
  | zero => simp [hvTo]
  | succ k ih =>
    rw [hvTo]
    split
    · have := span_le (xs.drop (kidAt xs v k)) 1
      simp only [List.length_drop] at this
      simp only
      omega
    · exact ih
/-- the heavy child of a node, -1 for a leaf -/
def hvAt (xs : List Int) (v : Nat) : Int := (hvTo xs v (xs[v]?.getD 0).toNat).1
theorem hvAt_eq {xs : List Int} {v d : Nat} (hd : xs[v]? = some (d : Int)) : hvAt xs v = (hvTo xs v d).1 := by simp [hvAt, hd]
theorem hvAt_kid {xs : List Int} (ht : isTree xs = true) {v : Nat} (hv : v < xs.length) : hvAt xs v = -1 ∨ ∃ c : Nat, hvAt xs v = (c : Int) ∧ IsKid xs v c := by
  obtain ⟨d, hd, _⟩ := tree_degN ht hv
  rw [hvAt_eq hd]
  rcases hvTo_kid xs v d with ⟨_, h⟩ | ⟨_, _, _, h | ⟨i, hi, h⟩⟩
  · rw [h]; exact .inl rfl
  · exact .inl h
  · exact .inr ⟨_, h, d, i, hd, hi, rfl⟩
theorem hvAt_lt {xs : List Int} (ht : isTree xs = true) {v : Nat} (hv : v < xs.length) : hvAt xs v = -1 ∨ ∃ c : Nat, hvAt xs v = (c : Int) ∧ v < c ∧ c < xs.length := by
  rcases hvAt_kid ht hv with h | ⟨c, h, hk⟩
  · exact .inl h
  · have := kid_bounds ht hk
    exact .inr ⟨c, h, this.1, this.2.2⟩
/-- the heavy children of all nodes -/
def heavy (xs : List Int) : List Int := rowOf xs.length (hvAt xs)
theorem heavy_len (xs : List Int) : (heavy xs).length = xs.length := rowOf_len _ _
theorem heavy_at (xs : List Int) {v : Nat} (h : v < xs.length) : (heavy xs)[v]? = some (hvAt xs v) := rowOf_at _ h
/-- is a node a heavy child -/
def isHeavy (xs : List Int) (v : Nat) : Bool := decide ((v : Int) ∈ heavy xs)
theorem isHeavy_mem (xs : List Int) (v : Nat) : decide ((v : Int) ∈ heavy xs) = isHeavy xs v := rfl
theorem isHeavy_root {xs : List Int} (ht : isTree xs = true) : isHeavy xs 0 = false := by
  refine decide_eq_false fun hm => ?_
  simp only [heavy, rowOf, List.mem_map, List.mem_range] at hm
  obtain ⟨p, hp, h⟩ := hm
  rcases hvAt_lt ht hp with h1 | ⟨c, h1, h2, _⟩ <;> omega
theorem isHeavy_par {xs ps : List Int} (ht : isTree xs = true) (hp : ParsOK xs ps) {v p : Nat} (hv : v < xs.length) (hq : ps[v]? = some (p : Int)) : isHeavy xs v = decide (hvAt xs p = (v : Int)) := by
  have h0 : 0 < v := by
    rcases Nat.eq_zero_or_pos v with h | h
    · subst h; rw [hp.2.1] at hq; injection hq with hq; omega
    · exact h
  obtain ⟨p', h1, h2, hk⟩ := par_has ht hp h0 hv
  rw [hq] at h1
  injection h1 with h1
  obtain rfl : p = p' := by omega
  simp only [isHeavy]
  rw [Bool.eq_iff_iff]
  simp only [decide_eq_true_eq]
  constructor
  · intro hm
    simp only [heavy, rowOf, List.mem_map, List.mem_range] at hm
    obtain ⟨q, hq1, h⟩ := hm
    rcases hvAt_kid ht hq1 with h3 | ⟨c, h3, hk3⟩
    · omega
    · obtain rfl : c = v := by omega
      have := kid_unique ht hk hk3
      subst this
      exact h
  · intro h
    rw [← h]
    exact List.mem_of_getElem? (heavy_at xs (show p < xs.length by omega))
/-- the heavy path from a node down -/
def hvDown (xs : List Int) : Nat → Nat → List Int
  | 0, _ => []
  | k + 1, v => (v : Int) :: (if 0 ≤ hvAt xs v then hvDown xs k (hvAt xs v).toNat else [])
theorem hvDown_fuel {xs : List Int} (ht : isTree xs = true) : ∀ {k k' v : Nat}, v < xs.length → xs.length ≤ v + k → xs.length ≤ v + k' → hvDown xs k v = hvDown xs k' v := by
  intro k
  induction k with
  | zero => intro k' v h h1; omega
  | succ k ih =>
    intro k' v h h1 h2
    cases k' with
    | zero => omega
    | succ k' =>
      simp only [hvDown]
      rcases hvAt_lt ht h with h3 | ⟨c, h3, h4, h5⟩
      · rw [h3]; rfl
      · rw [h3]
        simp only [Int.toNat_natCast]
        rw [ih h5 (by omega) (k' := k') (by omega)]
def hvPath (xs : List Int) (v : Nat) : List Int := hvDown xs xs.length v
theorem hvPath_end {xs : List Int} {v : Nat} (hv : v < xs.length) (h : hvAt xs v = -1) : hvPath xs v = [(v : Int)] := by
  obtain ⟨n, hn⟩ : ∃ n, xs.length = n + 1 := ⟨xs.length - 1, by omega⟩
  rw [hvPath, hn, hvDown, h]; rfl
theorem hvPath_step {xs : List Int} (ht : isTree xs = true) {v c : Nat} (hv : v < xs.length) (h : hvAt xs v = (c : Int)) : hvPath xs v = (v : Int) :: hvPath xs c := by
  rcases hvAt_lt ht hv with h3 | ⟨c', h3, h4, h5⟩
  · omega
  · obtain rfl : c = c' := by omega
    obtain ⟨n, hn⟩ : ∃ n, xs.length = n + 1 := ⟨xs.length - 1, by omega⟩
    rw [hvPath, hn, hvDown, h, if_pos (by omega), Int.toNat_natCast, hvPath, hvDown_fuel ht (k := n) (k' := xs.length) h5 (by omega) (by omega)]
theorem hvPath_len {xs : List Int} (ht : isTree xs = true) : ∀ (k : Nat) {v : Nat}, v < xs.length → xs.length ≤ v + k → (hvPath xs v).length + v ≤ xs.length := by
  intro k
  induction k with
  | zero => intro v h h1; omega
  | succ k ih =>
    intro v h h1
    rcases hvAt_lt ht h with h3 | ⟨c, h3, h4, h5⟩
    · rw [hvPath_end h h3]; simp; omega
    · rw [hvPath_step ht h h3]
      have := ih h5 (by omega)
      simp only [List.length_cons]
      omega
theorem hvPath_le {xs : List Int} (ht : isTree xs = true) {v : Nat} (hv : v < xs.length) : (hvPath xs v).length ≤ 24 := by
  have := hvPath_len ht xs.length hv (by omega)
  have := (tree_len ht).2
  omega
/-- the heavy paths from the tops among the first k nodes -/
def hvPaths (xs : List Int) : Nat → List (List Int)
  | 0 => []
  | k + 1 => if isHeavy xs k then hvPaths xs k else hvPaths xs k ++ [hvPath xs k]
theorem hvPaths_hit {xs : List Int} {k : Nat} (h : isHeavy xs k = true) : hvPaths xs (k + 1) = hvPaths xs k := by rw [hvPaths, if_pos h]
theorem hvPaths_miss {xs : List Int} {k : Nat} (h : isHeavy xs k = false) : hvPaths xs (k + 1) = hvPaths xs k ++ [hvPath xs k] := by rw [hvPaths, if_neg (by simp [h])]
theorem hvPaths_len (xs : List Int) : ∀ k, (hvPaths xs k).length ≤ k := by
  intro k
  induction k with
  | zero => simp [hvPaths]
  | succ k ih =>
    rw [hvPaths]
    split
    · omega
    · simp only [List.length_append, List.length_cons, List.length_nil]; omega
def heavyPaths (xs : List Int) : List (List Int) × Int := if isTree xs then (hvPaths xs xs.length, 0) else ([], 1)
theorem heavyPaths_yes {xs : List Int} (h : isTree xs = true) : heavyPaths xs = (hvPaths xs xs.length, 0) := by simp [heavyPaths, h]
theorem heavyPaths_no {xs : List Int} (h : isTree xs = false) : heavyPaths xs = ([], 1) := by simp [heavyPaths, h]
/-- how many of a list are not heavy -/
def lightIn (xs : List Int) : List Int → Int
  | [] => 0
  | v :: r => (if v ∈ heavy xs then 0 else 1) + lightIn xs r
theorem lightIn_append (xs l r : List Int) : lightIn xs (l ++ r) = lightIn xs l + lightIn xs r := by
  induction l with
  | nil => simp [lightIn]
  | cons v l ih => simp only [List.cons_append, lightIn, ih]; omega
theorem lightIn_reverse (xs l : List Int) : lightIn xs l.reverse = lightIn xs l := by
  induction l with
  | nil => rfl
  | cons v l ih => simp only [List.reverse_cons, lightIn_append, ih, lightIn]; omega
theorem lightIn_bounds (xs : List Int) : ∀ l, 0 ≤ lightIn xs l ∧ lightIn xs l ≤ l.length := by
  intro l
  induction l with
  | nil => simp [lightIn]
  | cons v l ih => simp only [lightIn, List.length_cons]; split <;> omega
theorem lightIn_take_hit {xs l : List Int} {k : Nat} {v : Int} (h : l[k]? = some v) (hv : v ∈ heavy xs) : lightIn xs (l.take (k + 1)) = lightIn xs (l.take k) := by
  obtain ⟨hk, rfl⟩ := List.getElem?_eq_some_iff.1 h
  rw [List.take_succ_eq_append_getElem hk, lightIn_append, lightIn, if_pos hv, lightIn]; omega
theorem lightIn_take_miss {xs l : List Int} {k : Nat} {v : Int} (h : l[k]? = some v) (hv : v ∉ heavy xs) : lightIn xs (l.take (k + 1)) = lightIn xs (l.take k) + 1 := by
  obtain ⟨hk, rfl⟩ := List.getElem?_eq_some_iff.1 h
  rw [List.take_succ_eq_append_getElem hk, lightIn_append, lightIn, if_neg hv, lightIn]; omega
theorem meet_root {xs : List Int} (v : Nat) : meet xs 0 v = 0 := by
  have := meetDown_le xs 0 v (min 0 v)
  rw [Nat.zero_min] at this
  simp only [meet, Nat.zero_min]; omega
theorem meet_root' {xs : List Int} (v : Nat) : meet xs v 0 = 0 := by
  have := meetDown_le xs v 0 (min v 0)
  rw [Nat.min_zero] at this
  simp only [meet, Nat.min_zero]; omega
theorem climb_top {xs ps : List Int} (ht : isTree xs = true) {v : Nat} (hv : v < xs.length) : Climb xs ps v 0 0 (upTo ps 0 v) :=
  ⟨by omega, bel_iff.2 ⟨Nat.zero_le _, by rw [fin_root ht]; exact hv⟩, Nat.le_refl _, by rw [upTo_end ps (Nat.le_refl 0), List.append_nil]⟩
theorem way_up {xs ps : List Int} (ht : isTree xs = true) (hp : ParsOK xs ps) {v : Nat} (hv : v < xs.length) : way xs v 0 = upTo ps 0 v ++ [0] := by
  have := way_mk ht hp (meet_root' v) (climb_top (ps := ps) ht hv) (climb_top (ps := ps) ht (v := 0) (by omega))
  rw [upTo_end ps (Nat.le_refl 0)] at this
  simpa using this.symm
theorem way_down {xs ps : List Int} (ht : isTree xs = true) (hp : ParsOK xs ps) {v : Nat} (hv : v < xs.length) : way xs 0 v = (0 : Int) :: (upTo ps 0 v).reverse := by
  have := way_mk ht hp (meet_root v) (climb_top (ps := ps) ht (v := 0) (by omega)) (climb_top (ps := ps) ht hv)
  rw [upTo_end ps (Nat.le_refl 0)] at this
  simpa using this.symm
/-- how many light nodes are on the way from the root, without the root -/
noncomputable def lights (xs : List Int) (v : Nat) : Int := lightIn xs ((way xs 0 v).drop 1)
theorem lights_up {xs ps : List Int} (ht : isTree xs = true) (hp : ParsOK xs ps) {v : Nat} (hv : v < xs.length) : lights xs v = lightIn xs (upTo ps 0 v) := by
  rw [lights, way_down ht hp hv]
  simp only [List.drop_succ_cons, List.drop_zero]
  exact lightIn_reverse _ _
theorem upTo_len {xs ps : List Int} (ht : isTree xs = true) (hp : ParsOK xs ps) {v : Nat} (hv : v < xs.length) : (upTo ps 0 v).length ≤ v :=
  climb_len ht hp hv (bel_iff.2 ⟨Nat.zero_le _, by rw [fin_root ht]; exact hv⟩)
theorem lightIn_root (xs ps : List Int) : lightIn xs (upTo ps 0 0) = 0 := by rw [upTo_end ps (Nat.le_refl 0)]; rfl
theorem lightIn_step {xs ps : List Int} (ht : isTree xs = true) (hp : ParsOK xs ps) {v p : Nat} (h0 : 0 < v) (hv : v < xs.length) (hq : ps[v]? = some (p : Int)) : lightIn xs (upTo ps 0 v) = (if isHeavy xs v then 0 else 1) + lightIn xs (upTo ps 0 p) := by
  rw [upTo_step ht hp h0 hv hq, lightIn]
  simp [isHeavy]
noncomputable def lightSteps (xs : List Int) (v : Int) : Int × Int := if code xs [v] = 0 then (lights xs v.toNat, 0) else (0, code xs [v])
theorem lightSteps_yes {xs : List Int} {v : Nat} (h : code xs [(v : Int)] = 0) : lightSteps xs v = (lights xs v, 0) := by simp [lightSteps, h]
theorem lightSteps_no {xs : List Int} {v : Int} (h : code xs [v] ≠ 0) : lightSteps xs v = (0, code xs [v]) := by simp [lightSteps, h]
/-- the nodes of the interval of a node, and a code -/
def intervalOf (xs : List Int) (v : Int) : Int × Int × Int := if code xs [v] = 0 then (v, v + (span 1 (xs.drop v.toNat) : Int) - 1, 0) else (0, 0, code xs [v])
theorem intervalOf_yes {xs : List Int} {v : Nat} (h : code xs [(v : Int)] = 0) : intervalOf xs v = ((v : Int), (v : Int) + (span 1 (xs.drop v) : Int) - 1, 0) := by simp [intervalOf, h]
theorem intervalOf_no {xs : List Int} {v : Int} (h : code xs [v] ≠ 0) : intervalOf xs v = (0, 0, code xs [v]) := by simp [intervalOf, h]
/-- the ancestor of k steps, and a code -/
noncomputable def ancestorOf (xs : List Int) (v k : Int) : Int × Int :=
  if code xs [v] = 0 then (if 0 ≤ k ∧ k ≤ 24 then (match (way xs v.toNat 0)[k.toNat]? with | none => (0, 4) | some a => (a, 0)) else (0, 2)) else (0, code xs [v])
theorem ancestorOf_no {xs : List Int} {v k : Int} (h : code xs [v] ≠ 0) : ancestorOf xs v k = (0, code xs [v]) := by simp [ancestorOf, h]
theorem ancestorOf_range {xs : List Int} {v k : Int} (h : code xs [v] = 0) (hk : ¬ (0 ≤ k ∧ k ≤ 24)) : ancestorOf xs v k = (0, 2) := by rw [ancestorOf, if_pos h, if_neg hk]
theorem ancestorOf_none {xs : List Int} {v k : Nat} (h : code xs [(v : Int)] = 0) (hk : k ≤ 24) (hw : (way xs v 0).length ≤ k) : ancestorOf xs v k = (0, 4) := by
  rw [ancestorOf, if_pos h, if_pos (by omega), Int.toNat_natCast, Int.toNat_natCast, List.getElem?_eq_none hw]
theorem ancestorOf_some {xs : List Int} {v k : Nat} {a : Int} (h : code xs [(v : Int)] = 0) (hk : k ≤ 24) (hw : (way xs v 0)[k]? = some a) : ancestorOf xs v k = (a, 0) := by
  rw [ancestorOf, if_pos h, if_pos (by omega), Int.toNat_natCast, Int.toNat_natCast, hw]
/-- the model's steps: behind j of k steps -/
def Anc (ps : List Int) (l : List Int) (j a : Nat) : Prop := l.drop j = upTo ps 0 a ++ [0]
theorem anc_at {ps l : List Int} {xs : List Int} (ht : isTree xs = true) (hp : ParsOK xs ps) {j a : Nat} (ha : a < xs.length) (h : Anc ps l j a) : l[j]? = some (a : Int) := by
  have e : l[j]? = (l.drop j)[0]? := by rw [List.getElem?_drop]; simp
  rw [e, h]
  rcases Nat.eq_zero_or_pos a with h0 | h0
  · subst h0; rw [upTo_end ps (Nat.le_refl 0)]; rfl
  · obtain ⟨p, h1, _, _⟩ := par_has ht hp h0 ha
    rw [upTo_step ht hp h0 ha h1]; rfl
theorem anc_step {xs ps l : List Int} (ht : isTree xs = true) (hp : ParsOK xs ps) {j a p : Nat} (h0 : 0 < a) (ha : a < xs.length) (hq : ps[a]? = some (p : Int)) (h : Anc ps l j a) : Anc ps l (j + 1) p := by
  have e : l.drop (j + 1) = (l.drop j).drop 1 := by rw [List.drop_drop]
  rw [Anc, e, h, upTo_step ht hp h0 ha hq]; rfl
theorem anc_root {ps l : List Int} {j : Nat} (h : Anc ps l j 0) : l.length ≤ j + 1 := by
  have := congrArg List.length h
  rw [upTo_end ps (Nat.le_refl 0)] at this
  simp only [List.length_drop, List.nil_append, List.length_cons, List.length_nil] at this
  omega
theorem anc_zero {xs ps : List Int} (ht : isTree xs = true) (hp : ParsOK xs ps) {v : Nat} (hv : v < xs.length) : Anc ps (way xs v 0) 0 v := by
  rw [Anc, List.drop_zero]; exact way_up ht hp hv
end M
end Go.Proofs.Ytkcldfliiagloaa

/- Nodes beside each other and the even drawing: their mathematics. No program is named here. -/
namespace Go.Proofs.Ytkcldfliiagloaa
namespace M
/-- the first place from k on, of m more places, that holds x; -1 if there is none -/
def nextOf (ds : List Int) (x : Int) : Nat → Nat → Int
  | _, 0 => -1
  | k, m + 1 => if ds[k]? = some x then (k : Int) else nextOf ds x (k + 1) m
theorem nextOf_hit {ds : List Int} {x : Int} {k m : Nat} (h : ds[k]? = some x) : nextOf ds x k (m + 1) = (k : Int) := by rw [nextOf, if_pos h]
theorem nextOf_miss {ds : List Int} {x y : Int} {k m : Nat} (h : ds[k]? = some y) (hne : y ≠ x) : nextOf ds x k (m + 1) = nextOf ds x (k + 1) m := by
  rw [nextOf, if_neg (by rw [h]; intro e; injection e with e; exact hne e)]
theorem nextOf_none {ds : List Int} {x : Int} : ∀ (m k : Nat), (∀ j y, k ≤ j → j < k + m → ds[j]? = some y → y ≠ x) → nextOf ds x k m = -1 := by
  intro m
  induction m with
  | zero => intro k _; rfl
  | succ m ih =>
    intro k h
    rw [nextOf, if_neg (fun e => h k x (Nat.le_refl _) (by omega) e rfl)]
    exact ih (k + 1) fun j y h1 h2 h3 => h j y (by omega) (by omega) h3
theorem nextOf_first {ds : List Int} {x : Int} : ∀ (m k j : Nat), k ≤ j → j < k + m → ds[j]? = some x → (∀ i y, k ≤ i → i < j → ds[i]? = some y → y ≠ x) → nextOf ds x k m = (j : Int) := by
  intro m
  induction m with
  | zero => intro k j h1 h2; omega
  | succ m ih =>
    intro k j h1 h2 h3 h4
    rcases Nat.lt_or_ge k j with hk | hk
    · rw [nextOf, if_neg (fun e => h4 k x (Nat.le_refl _) hk e rfl)]
      exact ih (k + 1) j (by omega) (by omega) h3 fun i y h5 h6 h7 => h4 i y (by omega) h6 h7
    · obtain rfl : k = j := by omega
      exact nextOf_hit h3
/-- the node beside v -/
def besideAt (ds : List Int) (v : Nat) : Int := nextOf ds (ds[v]?.getD 0) (v + 1) (ds.length - (v + 1))
theorem besideAt_eq {ds : List Int} {v n : Nat} {x : Int} (h : ds[v]? = some x) (hn : ds.length = n) : besideAt ds v = nextOf ds x (v + 1) (n - (v + 1)) := by simp [besideAt, h, hn]
/-- the model's loop, from the back: the next node found among those from k on -/
def BesTo (ds : List Int) (x : Int) (k : Nat) (r : Int) : Prop := r = nextOf ds x k (ds.length - k)
theorem besTo_end {ds : List Int} {x : Int} {n : Nat} (hn : ds.length = n) : BesTo ds x n (-1) := by subst hn; simp [BesTo, nextOf]
theorem besTo_hit {ds : List Int} {x : Int} {k : Nat} (h : ds[k]? = some x) : BesTo ds x k (k : Int) := by
  have hk := (List.getElem?_eq_some_iff.1 h).1
  obtain ⟨m, hm⟩ : ∃ m, ds.length - k = m + 1 := ⟨ds.length - k - 1, by omega⟩
  rw [BesTo, hm, nextOf_hit h]
theorem besTo_miss {ds : List Int} {x y r : Int} {k : Nat} (h : ds[k]? = some y) (hne : y ≠ x) (hr : BesTo ds x (k + 1) r) : BesTo ds x k r := by
  have hk := (List.getElem?_eq_some_iff.1 h).1
  obtain ⟨m, hm⟩ : ∃ m, ds.length - k = m + 1 := ⟨ds.length - k - 1, by omega⟩
  rw [BesTo] at hr ⊢
  rw [hm, nextOf_miss h hne, hr]
  congr 1; omega
/-- beside each other: all nodes -/
def besides (ds : List Int) : List Int := rowOf ds.length (besideAt ds)
theorem besides_len (ds : List Int) : (besides ds).length = ds.length := rowOf_len _ _

/-- the program's row of the nodes beside the first k nodes, 0 elsewhere -/
def besRow (ds : List Int) (k : Nat) : List Int := rowOf ds.length fun i => if i < k then besideAt ds i else 0
theorem besRow_len (ds : List Int) (k : Nat) : (besRow ds k).length = ds.length := rowOf_len _ _
theorem besRow_zero (ds : List Int) : besRow ds 0 = List.replicate ds.length 0 := by
  rw [← rowOf_zero]
  exact rowOf_congr fun i _ => if_neg (by omega)
theorem besRow_set {ds : List Int} {k : Nat} {y : Int} (hy : besideAt ds k = y) : (besRow ds k).set k y = besRow ds (k + 1) := by
  rw [besRow, rowOf_set]
  refine rowOf_congr fun i _ => ?_
  by_cases e : i = k
  · subst e; rw [if_pos rfl, if_pos (by omega), hy]
  · rw [if_neg e]
    by_cases h : i < k
    · rw [if_pos h, if_pos (by omega)]
    · rw [if_neg h, if_neg (by omega)]
theorem besRow_end (ds : List Int) : besRow ds ds.length = besides ds := rowOf_congr fun _ h => if_pos h
theorem besRow_at {ds : List Int} (k : Nat) {i : Nat} (h : i < ds.length) : ∃ y, (besRow ds k)[i]? = some y := ⟨_, rowOf_at _ h⟩
/-- the model's row -/
def besL (ds : List Int) (k : Nat) : List Int := rowOf k (besideAt ds)
theorem besL_succ {ds : List Int} {k : Nat} {y : Int} (hy : besideAt ds k = y) : besL ds (k + 1) = besL ds k ++ [y] := by rw [besL, rowOf_succ, hy]; rfl
theorem besL_len (ds : List Int) (k : Nat) : (besL ds k).length = k := rowOf_len _ _
theorem besL_end (ds : List Int) : besL ds ds.length = besides ds := rfl
/-- the place of the first x in a list, -1 if there is none -/
def idxOf (l : List Int) (x : Int) : Int := nextOf l x 0 l.length
theorem nextOf_range (ds : List Int) (x : Int) : ∀ (m k : Nat), nextOf ds x k m = -1 ∨ ((k : Int) ≤ nextOf ds x k m ∧ nextOf ds x k m < (k : Int) + m) := by
  intro m
  induction m with
  | zero => intro k; exact .inl rfl
  | succ m ih =>
    intro k
    rw [nextOf]
    split
    · right; omega
    · rcases ih (k + 1) with h | h
      · exact .inl h
      · right; omega
theorem nextOf_drop (ds : List Int) (x : Int) (b : Nat) : ∀ (m k : Nat), nextOf ds x (b + k) m = (if nextOf (ds.drop b) x k m = -1 then -1 else (b : Int) + nextOf (ds.drop b) x k m) := by
  intro m
  induction m with
  | zero => intro k; rfl
  | succ m ih =>
    intro k
    rw [nextOf, nextOf, List.getElem?_drop]
    split
    · rw [if_neg (by omega)]; omega
    · exact ih (k + 1)
theorem beside_idx {ds : List Int} {v n : Nat} {x : Int} (h : ds[v]? = some x) (hn : ds.length = n) : besideAt ds v = (if 0 ≤ idxOf (ds.drop (v + 1)) x then (v : Int) + 1 + idxOf (ds.drop (v + 1)) x else -1) := by
  have e := nextOf_drop ds x (v + 1) (n - (v + 1)) 0
  rw [Nat.add_zero] at e
  rw [besideAt_eq h hn, e]
  have e2 : idxOf (ds.drop (v + 1)) x = nextOf (ds.drop (v + 1)) x 0 (n - (v + 1)) := by rw [idxOf, List.length_drop, hn]
  rw [e2]
  rcases nextOf_range (ds.drop (v + 1)) x (n - (v + 1)) 0 with h1 | h1
  · rw [h1]; rfl
  · rw [if_neg (by omega), if_pos (by omega)]; omega
theorem idxOf_range (l : List Int) (x : Int) : -1 ≤ idxOf l x ∧ idxOf l x < (l.length : Int) + 1 := by
  rcases nextOf_range l x l.length 0 with h | h
  · rw [idxOf, h]; omega
  · rw [idxOf]; omega

/-- half of a number, downwards -/
def half (n : Int) : Int := n / 2
theorem half_neg {n : Int} (_ : n < 0) : -((1 - n) / 2) = half n := by simp only [half]; omega
theorem half_pos {n : Int} (_ : 0 ≤ n) : n / 2 = half n := rfl
theorem half_shift (n : Int) : n.shiftRight 1 = half n := by
  rw [half]
  exact Int.shiftRight_eq_div_pow n 1
theorem half_bounds {n a b : Int} (h1 : 2 * a ≤ n) (h2 : n ≤ 2 * b) : a ≤ half n ∧ half n ≤ b := by simp only [half]; omega

/-- the columns of the leaves among the first k nodes, 0 elsewhere, and the next column -/
def evL (xs : List Int) : Nat → Int
  | 0 => 0
  | k + 1 => evL xs k + (if xs[k]? = some 0 then 2 else 0)
def evLeafRow (xs : List Int) (k : Nat) : List Int := rowOf xs.length fun i => if i < k ∧ xs[i]? = some 0 then evL xs i else 0
theorem evL_bounds (xs : List Int) : ∀ k, 0 ≤ evL xs k ∧ evL xs k ≤ 2 * k := by
  intro k
  induction k with
  | zero => simp [evL]
  | succ k ih => rw [evL]; split <;> omega
theorem evLeaf_zero (xs : List Int) : evLeafRow xs 0 = List.replicate xs.length 0 := by
  rw [← rowOf_zero]
  exact rowOf_congr fun i _ => if_neg (by omega)
theorem evLeaf_len (xs : List Int) (k : Nat) : (evLeafRow xs k).length = xs.length := rowOf_len _ _
theorem evLeaf_hit {xs : List Int} {k : Nat} {y : Int} (h : xs[k]? = some 0) (hy : evL xs k = y) : (evLeafRow xs k).set k y = evLeafRow xs (k + 1) ∧ evL xs (k + 1) = y + 2 := by
  refine ⟨?_, by rw [evL, if_pos h, hy]⟩
  rw [evLeafRow, rowOf_set]
  refine rowOf_congr fun i hi => ?_
  by_cases e : i = k
  · subst e; rw [if_pos rfl, if_pos ⟨by omega, h⟩, hy]
  · rw [if_neg e]
    by_cases hk : i < k ∧ xs[i]? = some 0
    · rw [if_pos hk, if_pos ⟨by omega, hk.2⟩]
    · rw [if_neg hk, if_neg (fun h' => hk ⟨by omega, h'.2⟩)]
theorem evLeaf_miss {xs : List Int} {k : Nat} {x : Int} (h : xs[k]? = some x) (hx : x ≠ 0) : evLeafRow xs k = evLeafRow xs (k + 1) ∧ evL xs (k + 1) = evL xs k := by
  have hne : ¬ xs[k]? = some 0 := by rw [h]; intro e; injection e with e; exact hx e
  refine ⟨rowOf_congr fun i hi => ?_, by rw [evL, if_neg hne]; omega⟩
  by_cases hk : i < k ∧ xs[i]? = some 0
  · rw [if_pos hk, if_pos ⟨by omega, hk.2⟩]
  · rw [if_neg hk, if_neg]
    rintro ⟨h1, h2⟩
    have e : i ≠ k := fun e => by subst e; exact hne h2
    exact hk ⟨by omega, h2⟩
/-- the even drawing, from the last node back to the node k -/
def evRow (xs : List Int) : Nat → List Int
  | 0 => evLeafRow xs xs.length
  | m + 1 => let r := evRow xs m; let v := xs.length - (m + 1)
             match (xs[v]?.getD 0).toNat with
             | 0 => r
             | d + 1 => r.set v (half (r[kidAt xs v 0]?.getD 0 + r[kidAt xs v d]?.getD 0))
theorem evRow_len (xs : List Int) : ∀ m, (evRow xs m).length = xs.length := by
  intro m
  induction m with
  | zero => exact evLeaf_len _ _
  | succ m ih => simp only [evRow]; split <;> simp [ih]
theorem evRow_leaf {xs : List Int} {m v : Nat} (hv : xs.length = v + (m + 1)) (hd : xs[v]? = some 0) : evRow xs (m + 1) = evRow xs m := by
  have e : xs.length - (m + 1) = v := by omega
  simp [evRow, e, hd]
theorem evRow_node {xs : List Int} {m v d : Nat} {x y : Int} (hv : xs.length = v + (m + 1)) (hd : xs[v]? = some ((d + 1 : Nat) : Int)) (hx : (evRow xs m)[kidAt xs v 0]? = some x) (hy : (evRow xs m)[kidAt xs v d]? = some y) :
    evRow xs (m + 1) = (evRow xs m).set v (half (x + y)) := by
  have e : xs.length - (m + 1) = v := by omega
  simp only [evRow, e, hd, Option.getD_some, Int.toNat_natCast, hx, hy]
theorem evRow_bounds {xs : List Int} (hx : xs.length ≤ 24) : ∀ m, ∀ z ∈ evRow xs m, 0 ≤ z ∧ z ≤ 48 := by
  intro m
  induction m with
  | zero =>
    intro z hz
    simp only [evRow, evLeafRow, rowOf, List.mem_map, List.mem_range] at hz
    obtain ⟨i, hi, h⟩ := hz
    have := evL_bounds xs i
    split at h <;> omega
  | succ m ih =>
    intro z hz
    simp only [evRow] at hz
    split at hz
    · exact ih z hz
    · rename_i d _
      rcases List.mem_or_eq_of_mem_set hz with h | h
      · exact ih z h
      · have hg : ∀ j : Nat, 0 ≤ (evRow xs m)[j]?.getD 0 ∧ (evRow xs m)[j]?.getD 0 ≤ 48 := fun j => by
          cases e : (evRow xs m)[j]? with
          | none => simp
          | some y => exact ih y (List.mem_of_getElem? e)
        have h1 := hg (kidAt xs (xs.length - (m + 1)) 0)
        have h2 := hg (kidAt xs (xs.length - (m + 1)) d)
        subst h
        exact half_bounds (by omega) (by omega)
def evens (xs : List Int) : List Int := evRow xs xs.length
theorem evens_len (xs : List Int) : (evens xs).length = xs.length := evRow_len _ _
end M
end Go.Proofs.Ytkcldfliiagloaa

/- slices.Repeat of one number, 24 times. -/
namespace Go.Proofs.Ytkcldfliiagloaa
open Go.RowKit

namespace M
/-- n times x, then zeros up to 24 -/
def repRow (x : Int) (n : Nat) : List Int := List.replicate n x ++ List.replicate (24 - n) 0
theorem repRow_len {x : Int} {n : Nat} (h : n ≤ 24) : (repRow x n).length = 24 := by simp [repRow]; omega
theorem repRow_end (x : Int) : repRow x 24 = List.replicate 24 x := by simp [repRow]
end M
def repVals (x : Int) (n : Nat) : List Value := (M.repRow x n).map (Value.int .i64)
theorem repVals_len {x : Int} {n : Nat} (h : n ≤ 24) : (repVals x n).length = 24 := by rw [repVals, List.length_map, M.repRow_len h]
theorem rep_splice (x : Int) {n m : Nat} (h : n + m ≤ 24) : splice (repVals x n) n (List.replicate m (Value.int .i64 x)) = repVals x (n + m) := by
  have e : List.replicate (24 - n) (0 : Int) = List.replicate m 0 ++ List.replicate (24 - (n + m)) 0 := by rw [List.replicate_append_replicate]; congr 1; omega
  simp only [splice, repVals, M.repRow, List.map_append, List.map_replicate, List.length_replicate]
  rw [List.take_left' (by simp), ← List.append_assoc, List.replicate_append_replicate]
  congr 1
  rw [List.drop_append, List.drop_of_length_le (by simp), List.nil_append]
  simp only [List.length_replicate, List.drop_replicate]
  congr 1; omega

set_option maxHeartbeats 1000000 in
theorem bitsMul (w : World) : Calls Try.prog 207 #[.int .u64 1, .int .u64 24] w fun e w' => e = .returned (.tuple #[.int .u64 0, .int .u64 24]) ∧ w' = w := by
  have h1 : bits BinOp.and IntKind.u64 1 4294967295 = 1 := by kernel_rfl
  have h2 : bits BinOp.and IntKind.u64 24 4294967295 = 24 := by kernel_rfl
  have h3 : bits BinOp.and IntKind.u64 0 4294967295 = 0 := by kernel_rfl
  have h4 : IntKind.u64.wrap 24 = 24 := by kernel_rfl
  have h5 : IntKind.u64.wrap 0 = 0 := by kernel_rfl
  go_enter Try.func207, Try.ntmps207
  go_wp2
  go_ret2
  exact ⟨rfl, rfl⟩

theorem addr_add (g o j : Nat) : (⟨g, o, none⟩ : Addr).add j = ⟨g, o + j, none⟩ := by unfold Addr.add; split <;> simp_all

set_option maxRecDepth 100000 in
/-- a copy of m numbers x behind the first n ones -/
theorem copyRep (x : Int) {w0 W : World} {B g n m dL dC sL sC : Nat} {b o : Nat} (hrow : W.heap[g]? = some (.cells (repVals x n).toArray 2 (0, 0))) (hnm : n + m ≤ 24) (hm : m = Nat.min sL dL) (hsrc : ∀ j, j < m → W.cell? ⟨b, o + j, none⟩ = some (.int .i64 x)) (hb : Below B w0 W) (hB : B ≤ g) :
    ∃ w5, (Builtin.copy_ #[22, 22] 3 #[.slice (some ⟨g, n, none⟩) dL dC, .slice (some ⟨b, o, none⟩) sL sC]).run Try.prog W = .ok (goInt m) w5 ∧ Hid (w5.heap[g]? = some (.cells (repVals x (n + m)).toArray 2 (0, 0))) ∧ Hid (Below B w0 w5) := by
  have h := run_copy_row (P := Try.prog) W 22 22 3 2 g n dL dC ⟨b, o, none⟩ sL sC (repVals x n).toArray 2 (List.replicate m (Value.int .i64 x)) Try.underlying22 rfl hrow (by simpa using hm) (fun j v hv => by
    obtain ⟨h1, h2⟩ := List.getElem?_eq_some_iff.1 hv
    rw [List.getElem_replicate] at h2
    subst h2
    rw [addr_add]
    exact hsrc j (by simpa using h1)) (by rw [List.size_toArray, repVals_len (by omega), List.length_replicate]; exact hnm) (fun v hv => by have := List.eq_of_mem_replicate hv; subst this; rfl)
  rw [List.length_replicate] at h
  refine ⟨_, h, ?_, below_setRow hb hB _⟩
  have h2 := setRow_heap W g _ ((repVals x n).toArray.toList.take n ++ List.replicate m (Value.int .i64 x) ++ (repVals x n).toArray.toList.drop (n + m)).toArray 2 _ hrow
  show _ = _
  rw [h2]
  have h3 := rep_splice x hnm
  simp only [splice, List.length_replicate] at h3
  rw [← h3]
  simp

theorem repCell {x : Int} {W : World} {g n j : Nat} (hrow : W.heap[g]? = some (.cells (repVals x n).toArray 2 (0, 0))) (hj : j < n) : W.cell? ⟨g, j, none⟩ = some (.int .i64 x) := by
  simp only [World.cell?, hrow]
  simp [repVals, M.repRow]
  rw [List.getElem?_append_left (by simpa using hj), List.getElem?_replicate, if_pos hj]

set_option maxHeartbeats 4000000 in
set_option maxRecDepth 100000 in
theorem repeat24 (s : Nat) (x : Int) (w : World) (hs : w.cell? ⟨s, 0, none⟩ = some (.int .i64 x)) :
    Calls Try.prog 173 #[.slice (some ⟨s, 0, none⟩) 1 1, .int .i64 24] w fun e w' => e = .returned (.slice (some ⟨w.heap.size, 0, none⟩) 24 24) ∧ Hid (w'.heap[w.heap.size]? = some (.cells (repVals x 24).toArray 2 (0, 0))) ∧ Hid (Below w.heap.size w w') := by
  have hmk : ∀ w : World, Sem.run Try.prog (Instr.makeSlice 22 (.int .i64 24) (.int .i64 24)) w = .ok (.slice (some ⟨w.heap.size, 0, none⟩) 24 24) (w.alloc (.cells (madeCells #[.int .i64 0] 24) 2)) := run_make_row' (P := Try.prog) 22 2 (.int .i64 0) 8 Try.underlying22 info64 rfl .i64 .i64 24 (by omega) (by omega)
  have hrow : (w.alloc (.cells (madeCells #[.int .i64 0] 24) 2)).heap[w.heap.size]? = some (.cells (repVals x 0).toArray 2 (0, 0)) := by
    have e : madeCells #[Value.int .i64 0] 24 = (repVals x 0).toArray := Array.ext' (by rw [toList_madeCells_one]; simp [repVals, M.repRow])
    rw [World.alloc_heap_new, e]
  have hcs : (w.alloc (.cells (madeCells #[.int .i64 0] 24) 2)).cell? ⟨s, 0, none⟩ = some (.int .i64 x) := cell_al hs _
  have hcs0 : ∀ j, j < 1 → (w.alloc (.cells (madeCells #[.int .i64 0] 24) 2)).cell? ⟨s, 0 + j, none⟩ = some (.int .i64 x) := fun j hj => by
    obtain rfl : j = 0 := by omega
    exact hcs
  obtain ⟨w5, hrun1, hr5, hb5⟩ := copyRep x (n := 0) (m := 1) (dL := 24) (dC := 24) (sL := 1) (sC := 1) (b := s) (o := 0) hrow (by omega) rfl hcs0 (bal (b0 w) _) (Nat.le_refl _)
  clear hrow hcs hs hcs0
  go_enter Try.func173, Try.ntmps173
  go_wp2_with (go_at_call 207; refine (bitsMul _).mono ?_; rintro e w' ⟨rfl, hw⟩; have hw' := hw.symm; subst hw')
  clear hrun1 hmk
  go_loopw [8] (fun q wr => ∃ n : Nat, 1 ≤ n ∧ n ≤ 24 ∧ q = .int .i64 (n : Int) ∧ Hid (wr.heap[w.heap.size]? = some (.cells (repVals x n).toArray 2 (0, 0))) ∧ Hid (Below w.heap.size w wr)) (fun q _ => 24 - (intOf q).toNat)
  case atStart => exact ⟨1, by omega, by omega, rfl, hr5, hb5⟩
  case round =>
    obtain ⟨n, hn1, hn2, rfl, hr, hb⟩ := hrel
    clear hr5 hb5
    by_cases hlt : n < 24
    · have hni : (n : Int) < 24 := by omega
      have hn0 : (0 : Int) ≤ (n : Int) := by omega
      have hne : ¬ 24 = n := by omega
      obtain ⟨m, hm⟩ : ∃ m, m = Nat.min n (24 - n) := ⟨_, rfl⟩
      have hm1 : 1 ≤ m ∧ n + m ≤ 24 := by rw [hm]; simp only [Nat.min_def]; split <;> omega
      obtain ⟨w6, hrun, hr6, hb6⟩ := copyRep x (W := wr.drew) (n := n) (m := m) (dL := 24 - n) (dC := 24 - n) (sL := n) (sC := 24) (b := w.heap.size) (o := 0) hr.out (by omega) hm (fun j hj => by rw [Nat.zero_add]; exact repCell hr.out (by rw [hm] at hj; have h9 : Nat.min n (24 - n) ≤ n := Nat.min_le_left _ _; omega)) hb.out.drew (Nat.le_refl _)
      have Hm := Lib.hid hm
      have hw1 : IntKind.i64.wrap ((n : Int) + (m : Int)) = ((n + m : Nat) : Int) := by rw [show (n : Int) + (m : Int) = ((n + m : Nat) : Int) by omega]; exact IntWalk.i64_in _ (by omega)
      clear hm hr hb
      go_wp2
      go_region
      all_goals
        go_roundw
        case rel => refine ⟨_, _, _, _, _, _, _, _, _, _, _, _, _, _, ⟨n + m, by omega, by omega, ?_, hr6, hb6⟩, rfl⟩; go_num
        case measure => simp [intOf]; omega
    · obtain rfl : n = 24 := by omega
      go_wp2
      go_ret
      exact ⟨rfl, hr, hb⟩
end Go.Proofs.Ytkcldfliiagloaa

/- append of a whole slice to a row of the call's own. -/
namespace Go.Proofs.Ytkcldfliiagloaa
open Go.RowKit

set_option maxRecDepth 100000 in
theorem appendInts {ops : Array Oper} {rest : List Oper} {o : Oper} {a : Act} {Q : Exit → Act → World → Prop} (hgd : o.guard = none) (s x : Operand)
    (ho : o.op = .call { callee := .builtin .append, args := #[s, x], argTypes := #[22, 22] }) (w : World) (B : Nat) (A : Option Addr) (n c : Nat) (zs : List Int) (A2 : Option Addr) (m c2 : Nat) (ys : List Int)
    (hs : a.eval s = .slice A n c) (hx : a.eval x = .slice A2 m c2) (hown : Hid (Own64 w B (.slice A n c) zs)) (hsrc : Hid (Ints w w.heap.size A2 ys)) (hm : Hid (ys.length = m)) (hz : Hid (A2 = none → c2 = 0)) (hB : B ≤ w.heap.size) (hlen : n ≤ 1000000) (hlen2 : m ≤ 1000000)
    (h : ∀ A' c' w', Hid (Own64 w' B (.slice A' (n + m) c') (zs ++ ys)) → Hid (Below B w w') → wpList Try.prog ops Q rest (a.put o.dst (.slice A' (n + m) c')) w') :
    wpList Try.prog ops Q (o :: rest) a w := by
  obtain ⟨i0, hi0, hz0, hz1, hz2⟩ := info_parts info64
  have hown := hown.out
  have hn := own64_len hown
  subst hn
  have hm := hm.out
  subst hm
  rcases A2 with _ | ad
  · have hy : ys = [] := by
      rcases Nat.eq_zero_or_pos ys.length with h0 | h0
      · exact List.eq_nil_of_length_eq_zero h0
      · obtain ⟨_, _, e, _⟩ := hsrc.out h0
        cases e
    subst hy
    have hc2 := hz.out rfl
    subst hc2
    refine wpList_append_own_none hgd s x 22 ho B 2 i0 1 Try.underlying22 hi0 _ zs.length (zs.map (Value.int .i64)) hs hown hx ?_
    have := h A c w (by simpa using Lib.hid hown) (Below.refl _ _)
    simpa using this
  · refine wpList_append_own _ hgd s x 22 ho B 2 i0 (.int .i64 0) 1 8 Try.underlying22 hi0 hz0 hz1 hz2 rfl (by decide) _ zs.length (zs.map (Value.int .i64)) hs hown ad ys.length c2 (ys.map (Value.int .i64)) hx (by simp) ?_ ?_ ?_ ?_ hB ?_
    · intro j u hj
      rw [List.getElem?_map] at hj
      obtain ⟨y, hy, rfl⟩ := Option.map_eq_some_iff.1 hj
      obtain ⟨b, off, e, _, hc⟩ := hsrc.out (by have := (List.getElem?_eq_some_iff.1 hy).1; omega)
      injection e with e
      subst e
      have ha : (⟨b, off, none⟩ : Addr).add j = ⟨b, off + j, none⟩ := by unfold Addr.add; split <;> simp_all
      rw [ha]
      exact hc j y hy
    · intro u hu
      obtain ⟨y, _, rfl⟩ := List.mem_map.1 hu
      rfl
    · unfold maxLen; omega
    · omega
    · intro v' w1 hown1 hg1 _
      obtain ⟨A', c', rfl⟩ : ∃ A' c', v' = .slice A' (zs.length + ys.length) c' := own_shape hown1
      refine h A' c' w1 ?_ ?_
      · show Own64 _ _ _ _
        unfold Own64
        rw [List.length_append, List.map_append]
        exact hown1
      · exact (Below.refl B w).grown hg1 hB (fun k hk => (hown.lt k hk).1)

theorem own64_z {w : World} {B n c : Nat} {A : Option Addr} {zs : List Int} (h : Own64 w B (.slice A n c) zs) : A = none → c = 0 := by
  intro e
  subst e
  rcases h.2 with ⟨h1, _⟩ | ⟨g, cap, cur, hv, _⟩
  · injection h1
  · cases hv

set_option maxRecDepth 100000 in
/-- the same at a step of a region that draws its order -/
theorem stepInts {ops : Array Oper} {o : Oper} {a : Act} {K : Act → World → Prop} {Q : Exit → Act → World → Prop} {E : Prop} (hgd : o.guard = none) (s x : Operand)
    (ho : o.op = .call { callee := .builtin .append, args := #[s, x], argTypes := #[22, 22] }) (w : World) (B : Nat) (A : Option Addr) (n c : Nat) (zs : List Int) (A2 : Option Addr) (m c2 : Nat) (ys : List Int)
    (hs : a.eval s = .slice A n c) (hx : a.eval x = .slice A2 m c2) (hown : Hid (Own64 w B (.slice A n c) zs)) (hsrc : Hid (Ints w w.heap.size A2 ys)) (hm : Hid (ys.length = m)) (hz : Hid (A2 = none → c2 = 0)) (hB : B ≤ w.heap.size) (hlen : n ≤ 1000000) (hlen2 : m ≤ 1000000)
    (h : ∀ A' c' w', Hid (Own64 w' B (.slice A' (n + m) c') (zs ++ ys)) → Hid (Below B w w') → K (a.put o.dst (.slice A' (n + m) c')) w') :
    if Region.wanted o (yielded ops a.tmps) = true then Oper.wp Try.prog o a w K Q else E := by
  have hw : Region.wanted o (yielded ops a.tmps) = true := by simp [Region.wanted, hgd]
  rw [if_pos hw]
  obtain ⟨i0, hi0, hz0, hz1, hz2⟩ := info_parts info64
  have hown := hown.out
  have hn := own64_len hown
  subst hn
  have hm := hm.out
  subst hm
  rcases A2 with _ | ad
  · have hy : ys = [] := by
      rcases Nat.eq_zero_or_pos ys.length with h0 | h0
      · exact List.eq_nil_of_length_eq_zero h0
      · obtain ⟨_, _, e, _⟩ := hsrc.out h0
        cases e
    subst hy
    have hc2 := hz.out rfl
    subst hc2
    have hrun := run_append_owned_none (P := Try.prog) (w := w) B 22 o.type 2 i0 1 Try.underlying22 hi0 _ zs.length (zs.map (Value.int .i64)) hown
    have := h A c w (by simpa using Lib.hid hown) (Below.refl _ _)
    simp only [List.length_nil] at hx
    unfold Oper.wp execOp
    simp only [ho, resolve, invoke, builtin, Sem.run_bind, Sem.run_pure, Result.andThen_ok, List.map_toArray, List.map_cons, List.map_nil, hs, hx, hrun]
    exact this
  · obtain ⟨v', w1, hr, hown1, hg1, _⟩ := run_append_own (P := Try.prog) (w := w) B 22 o.type 2 i0 (.int .i64 0) 1 8 Try.underlying22 hi0 hz0 hz1 hz2 rfl (by decide) _ zs.length (zs.map (Value.int .i64)) hown ad ys.length c2 (ys.map (Value.int .i64)) (by simp)
      (by
        intro j u hj
        rw [List.getElem?_map] at hj
        obtain ⟨y, hy, rfl⟩ := Option.map_eq_some_iff.1 hj
        obtain ⟨b, off, e, _, hc⟩ := hsrc.out (by have := (List.getElem?_eq_some_iff.1 hy).1; omega)
        injection e with e
        subst e
        have ha : (⟨b, off, none⟩ : Addr).add j = ⟨b, off + j, none⟩ := by unfold Addr.add; split <;> simp_all
        rw [ha]
        exact hc j y hy)
      (by
        intro u hu
        obtain ⟨y, _, rfl⟩ := List.mem_map.1 hu
        rfl) (by unfold maxLen; omega) (by omega) hB
    obtain ⟨A', c', rfl⟩ : ∃ A' c', v' = .slice A' (zs.length + ys.length) c' := own_shape hown1
    have := h A' c' w1 (by
        show Own64 _ _ _ _
        unfold Own64
        rw [List.length_append, List.map_append]
        exact hown1) ((Below.refl B w).grown hg1 hB (fun k hk => (hown.lt k hk).1))
    unfold Oper.wp execOp
    simp only [ho, resolve, invoke, builtin, Sem.run_bind, Sem.run_pure, Result.andThen_ok, List.map_toArray, List.map_cons, List.map_nil, hs, hx, hr]
    exact this
end Go.Proofs.Ytkcldfliiagloaa

/- slices.Grow of nil and slices.Concat: the parts one after the other, in a row of its own. -/
namespace Go.Proofs.Ytkcldfliiagloaa
open Go.RowKit

namespace M
def catTo (X : Nat → List Int) : Nat → List Int
  | 0 => []
  | k + 1 => catTo X k ++ X k
theorem catTo_len (X : Nat → List Int) {k : Nat} (h : ∀ j, j < k → (X j).length ≤ 24) : (catTo X k).length ≤ 24 * k := by
  induction k with
  | zero => simp [catTo]
  | succ k ih =>
    have := ih fun j hj => h j (by omega)
    have := h k (by omega)
    simp only [catTo, List.length_append]
    omega
end M

set_option maxHeartbeats 1000000 in
set_option maxRecDepth 100000 in
theorem growNil (n : Nat) (w : World) (hn1 : 1 ≤ n) (hn : n ≤ 1000) :
    Calls Try.prog 224 #[.slice none 0 0, .int .i64 (n : Int)] w fun e w' => ∃ A' c', e = .returned (.slice A' 0 c') ∧ Own64 w' w.heap.size (.slice A' 0 c') [] ∧ Below w.heap.size w w' := by
  obtain ⟨i0, hi0, hz0, hz1, hz2⟩ := info_parts info64
  have hr : ∀ ty, _ := fun ty => Lib.run_append_nil_zeros (P := Try.prog) w 22 3 ty 2 i0 (.int .i64 0) .i64 .i64 Try.underlying22 Try.underlying3 hi0 hz0 n (by omega) (by omega) (by omega) (by rw [hz2]; omega)
  have hG : n ≤ grownCap w n 0 2 := grownCap_ge w _ _ _
  have hG2 : grownCap w n 0 2 ≤ maxLen := grownCap_le_maxLen w n 0 2 (by unfold maxLen; omega)
  generalize grownCap w n 0 2 = G at *
  have hG3 : G ≤ 9223372036854775807 := by unfold maxLen at hG2; omega
  have ho : Hid (Own64 (w.drew.alloc (.cells (Builtin.zeroCells (Value.int .i64 0).cells n ++ Builtin.zeroCells (Value.int .i64 0).cells (G - n)) 2)) w.heap.size (.slice (some ⟨w.heap.size, 0, none⟩) 0 G) []) := by
    refine ⟨by simp, .inr ⟨w.heap.size, G, _, by simp, Nat.le_refl _, World.alloc_heap_new w.drew _, by simp, hG2, ?_, by simp⟩⟩
    simp [Builtin.zeroCells, Value.cells]
    omega
  have hb : Hid (Below w.heap.size w (w.drew.alloc (.cells (Builtin.zeroCells (Value.int .i64 0).cells n ++ Builtin.zeroCells (Value.int .i64 0).cells (G - n)) 2))) := (Below.refl _ _).drew.alloc (Nat.le_refl _) _
  go_enter Try.func224, Try.ntmps224
  go_wp2_with (at_builtin; refine Lib.wpList_append_run _ rfl _ _ _ _ rfl _ _ rfl rfl _ _ (hr _) ?_)
  go_ret
  exact ⟨_, _, rfl, ho.out, hb.out⟩

/-- block g holds k slices: slice j reads X j -/
def Parts (w : World) (g k : Nat) (X : Nat → List Int) : Prop := ∀ j, j < k → ∃ A c, w.cell? ⟨g, j, none⟩ = some (.slice A (X j).length c) ∧ Ints w w.heap.size A (X j) ∧ (A = none → c = 0)
theorem Parts.be {w w' : World} {g k : Nat} {X : Nat → List Int} (h : Parts w g k X) (hg : g < w.heap.size) (hb : Below w.heap.size w w') : Parts w' g k X := fun j hj => by
  obtain ⟨A, c, h1, h2, h3⟩ := h j hj
  exact ⟨A, c, (hb.cell (p := ⟨g, j, none⟩) hg).trans h1, h2.be hb, h3⟩

set_option maxHeartbeats 2000000 in
set_option maxRecDepth 100000 in
theorem concat (g k : Nat) (X : Nat → List Int) (w : World) (hk : k ≤ 3) (hX : Hid (∀ j, j < k → (X j).length ≤ 24)) (hg : g < w.heap.size) (hP : Hid (Parts w g k X)) :
    Calls Try.prog 169 #[.slice (some ⟨g, 0, none⟩) k k] w fun e w' => ∃ A' c' n, e = .returned (.slice A' n c') ∧ Own64 w' w.heap.size (.slice A' n c') (M.catTo X k) ∧ Below w.heap.size w w' := by
  go_enter Try.func169, Try.ntmps169
  go_wp2
  go_loop [3, 5, 11] (fun s3 _ i => ∃ (j y : Nat), j ≤ k ∧ i = .int .i64 (j : Int) ∧ s3 = .int .i64 (y : Int) ∧ Hid ((M.catTo X j).length = y)) (fun _ _ i => k - (intOf i).toNat)
  case atStart => exact ⟨0, 0, Nat.zero_le _, rfl, rfl, rfl⟩
  case round =>
    obtain ⟨j, y, hj, rfl, rfl, hy⟩ := hrel
    have hyl := M.catTo_len X (k := j) fun i hi => hX.out i (by omega)
    rw [hy.out] at hyl
    by_cases hlt : j < k
    · have hlt2 : (j : Int) < (k : Int) := by omega
      obtain ⟨A, c, k1, k2, k3⟩ := hP.out j hlt
      have hxl := hX.out j hlt
      have hs : Hid ((M.catTo X (j + 1)).length = y + (X j).length) := by show _ = _; rw [M.catTo, List.length_append, hy.out]
      obtain ⟨m, hm⟩ : ∃ m, Hid ((X j).length = m) := ⟨_, rfl⟩
      rw [hm.out] at k1 hxl hs
      have hs2 : ¬ (y : Int) + (m : Int) < 0 := by omega
      clear k2 k3
      go_wp2
      go_round
      case rel => exact ⟨j + 1, y + m, by omega, by go_num, by go_num, hs⟩
      case measure => simp [intOf]; omega
    · obtain rfl : j = k := by omega
      have hge : ¬ (j : Int) < (j : Int) := by omega
      have hG : Hid (∃ _ : Unit, Calls Try.prog 224 #[.slice none 0 0, .int .i64 (y : Int)] w fun e w' => ∃ A' c', e = .returned (.slice A' 0 c') ∧ Own64 w' w.heap.size (.slice A' 0 c') [] ∧ Below w.heap.size w w') := by
        rcases Nat.eq_zero_or_pos y with h0 | h0
        · subst h0
          refine ⟨(), ?_⟩
          go_enter Try.func224, Try.ntmps224
          go_wp2
          go_ret
          exact ⟨none, 0, rfl, own64_nil _ _, Below.refl _ _⟩
        · exact ⟨(), growNil y w h0 (by omega)⟩
      obtain ⟨_, hG⟩ := hG.out
      have HG := Lib.hid hG
      clear hG
      go_wp2_with fail
      refine HG.out.mono ?_
      rintro e w1 ⟨A1, c1, rfl, ho1, hb1⟩
      have Ho1 := Lib.hid ho1
      have Hb1 := Lib.hid hb1
      clear ho1 hb1 HG
      go_wp2
      go_loopw [6, 8, 27] (fun q _ i wr => ∃ (t n : Nat) (A' : Option Addr) (c' : Nat), t ≤ j ∧ i = .int .i64 (t : Int) ∧ q = .slice A' n c' ∧ n ≤ 1000 ∧ Hid (Own64 wr w.heap.size (.slice A' n c') (M.catTo X t)) ∧ Hid (Below w.heap.size w wr)) (fun _ _ i _ => j - (intOf i).toNat)
      case atStart => exact ⟨0, 0, A1, c1, Nat.zero_le _, rfl, rfl, by omega, Ho1, Hb1⟩
      case round =>
        obtain ⟨t, n, A', c', ht, rfl, rfl, hn, ho, hbr⟩ := hrel
        clear Ho1 Hb1
        by_cases htj : t < j
        · have htj2 : (t : Int) < (j : Int) := by omega
          obtain ⟨A, c, k1, k2, k3⟩ := (hP.out.be hg hbr.out) t htj
          have hxl := hX.out t htj
          have hzr := hbr.out.size
          obtain ⟨m, hm⟩ : ∃ m, Hid ((X t).length = m) := ⟨_, rfl⟩
          have hsrc := Lib.hid k2
          have hz := Lib.hid k3
          rw [hm.out] at k1 hxl
          have hnt : n ≤ 72 := by
            have h5 := own64_len ho.out
            have h6 := M.catTo_len X (k := t) fun i hi => hX.out i (by omega)
            omega
          clear k2 k3
          go_wp2_with (at_builtin; refine appendInts rfl (.tmp 31) (.tmp 32) rfl wr w.heap.size A' n c' (M.catTo X t) A m c (X t) rfl rfl ho hsrc hm hz hzr (by omega) (by omega) ?_; intro A3 c3 w3 ho3 hb3)
          go_roundw
          case rel => exact ⟨t + 1, n + m, A3, c3, by omega, by go_num, rfl, by omega, ho3, hbr.out.trans hb3.out⟩
          case measure => simp [intOf]; omega
        · obtain rfl : t = j := by omega
          have hge3 : ¬ (t : Int) < (t : Int) := by omega
          go_wp2
          go_ret
          exact ⟨A', c', n, rfl, ho.out, hbr.out⟩
end Go.Proofs.Ytkcldfliiagloaa

/- arrangementOf: a list of at most 24 numbers as an array, filled up with -1. -/
namespace Go.Proofs.Ytkcldfliiagloaa
open Go.RowKit

namespace M
def arr (l : List Int) : List Int := (l ++ List.replicate 24 (-1)).take 24
theorem arr_len (l : List Int) : (arr l).length = 24 := by simp [arr]
theorem arr_inj {l k : List Int} (h : l.length = k.length) (hl : l.length ≤ 24) : arr l = arr k ↔ l = k := by
  constructor
  · intro e
    have e2 : (arr l).take l.length = (arr k).take k.length := by rw [e, h]
    simpa [arr, List.take_take, Nat.min_eq_left hl, Nat.min_eq_left (h ▸ hl)] using e2
  · intro e; rw [e]
def cat2 (l : List Int) (j : Nat) : List Int := if j = 0 then l else List.replicate 24 (-1)
theorem catTo_cat2 (l : List Int) : catTo (cat2 l) 2 = l ++ List.replicate 24 (-1) := by simp [catTo, cat2]
end M

theorem below_cells' {B b : Nat} {a : World} (hb : B ≤ b) : ∀ (vs : List Value) (o : Nat) {w : World}, Below B a w → Below B a (w.setCells b o vs)
  | [], _, _, h => h
  | v :: r, o, _, h => below_cells' hb r (o + 1) (below_setCell h hb v)
theorem own_repVals' {w : World} {B g : Nat} {x : Int} (hB : B ≤ g) (h : w.heap[g]? = some (.cells (repVals x 24).toArray 2 (0, 0))) : Own64 w B (.slice (some ⟨g, 0, none⟩) 24 24) (List.replicate 24 x) := by
  have e : repVals x 24 = (List.replicate 24 x).map (Value.int .i64) := by rw [repVals, M.repRow_end]
  refine ⟨by simp, .inr ⟨g, 24, _, by simp, hB, h, by simp, by unfold maxLen; omega, ?_, ?_⟩⟩
  · rw [List.size_toArray, repVals_len (by omega)]
  · rw [e]; simp

set_option maxHeartbeats 4000000 in
set_option maxRecDepth 100000 in
theorem arrangementOf (A : Option Addr) (l : List Int) (n c : Nat) (w : World) (hn : n ≤ 24) (hl : Hid (l.length = n)) (hz : Hid (A = none → c = 0)) (h : Ints w w.heap.size A l) :
    Calls Try.prog 107 #[.slice A n c] w fun e w' => e = .returned (.agg ((M.arr l).map (Value.int .i64)).toArray) ∧ Below w.heap.size w w' := by
  have H := Lib.hid h
  clear h
  go_enter Try.func107, Try.ntmps107
  go_wp2_with fail
  obtain ⟨X, hX⟩ : ∃ X, X = ((w.alloc (.cells #[.int .i64 0, .int .i64 0, .int .i64 0, .int .i64 0, .int .i64 0, .int .i64 0, .int .i64 0, .int .i64 0, .int .i64 0, .int .i64 0, .int .i64 0, .int .i64 0, .int .i64 0, .int .i64 0, .int .i64 0, .int .i64 0, .int .i64 0, .int .i64 0, .int .i64 0, .int .i64 0, .int .i64 0, .int .i64 0, .int .i64 0, .int .i64 0] 113)).alloc (.cells #[.int .i64 (-1)] 2)) := ⟨_, rfl⟩
  have hX0 : (w.alloc (.cells #[.int .i64 0, .int .i64 0, .int .i64 0, .int .i64 0, .int .i64 0, .int .i64 0, .int .i64 0, .int .i64 0, .int .i64 0, .int .i64 0, .int .i64 0, .int .i64 0, .int .i64 0, .int .i64 0, .int .i64 0, .int .i64 0, .int .i64 0, .int .i64 0, .int .i64 0, .int .i64 0, .int .i64 0, .int .i64 0, .int .i64 0, .int .i64 0] 113)).heap.size = w.heap.size + 1 := by simp
  have hXs : X.heap.size = w.heap.size + 1 + 1 := by rw [hX]; simp
  have cX : X.cell? ⟨w.heap.size + 1, 0, none⟩ = some (.int .i64 (-1)) := by
    have := World.cell?_alloc_new (w.alloc (.cells #[.int .i64 0, .int .i64 0, .int .i64 0, .int .i64 0, .int .i64 0, .int .i64 0, .int .i64 0, .int .i64 0, .int .i64 0, .int .i64 0, .int .i64 0, .int .i64 0, .int .i64 0, .int .i64 0, .int .i64 0, .int .i64 0, .int .i64 0, .int .i64 0, .int .i64 0, .int .i64 0, .int .i64 0, .int .i64 0, .int .i64 0, .int .i64 0] 113)) #[.int .i64 (-1)] 2 0
    rw [hX0] at this
    rw [hX, this]; rfl
  have hz3 : X.heap[w.heap.size]? = some (.cells (List.replicate 24 (Value.int .i64 0)).toArray 113 (0, 0)) := by
    rw [hX, Below.heap_alloc _ _ _ (by rw [hX0]; omega)]
    exact World.alloc_heap_new w _
  have hBX : Hid (Below w.heap.size w X) := by rw [hX]; exact bal (bal (b0 w) _) _
  have HX := Lib.hid ((H.out.al (.cells #[.int .i64 0, .int .i64 0, .int .i64 0, .int .i64 0, .int .i64 0, .int .i64 0, .int .i64 0, .int .i64 0, .int .i64 0, .int .i64 0, .int .i64 0, .int .i64 0, .int .i64 0, .int .i64 0, .int .i64 0, .int .i64 0, .int .i64 0, .int .i64 0, .int .i64 0, .int .i64 0, .int .i64 0, .int .i64 0, .int .i64 0, .int .i64 0] 113)).al (.cells #[.int .i64 (-1)] 2))
  rw [← hX] at HX ⊢
  clear hX hX0 H
  refine (repeat24 (w.heap.size + 1) (-1) X cX).mono ?_
  rintro e W3 ⟨rfl, hr3, hb3⟩
  have ho3 : Hid (Own64 W3 w.heap.size (.slice (some ⟨X.heap.size, 0, none⟩) 24 24) (List.replicate 24 (-1))) := own_repVals' (by omega) hr3.out
  have hB3 : Hid (Below w.heap.size w W3) := hBX.out.trans (hb3.out.mono (by omega))
  have HL3 := Lib.hid (HX.out.be hb3.out)
  have hX3 := (Array.getElem?_eq_some_iff.1 hr3.out).1
  have hz4 : Hid (W3.heap[w.heap.size]? = some (.cells (List.replicate 24 (Value.int .i64 0)).toArray 113 (0, 0))) := (hb3.out.block _ (by omega)).trans hz3
  obtain ⟨g, hg⟩ : ∃ g, X.heap.size = g := ⟨_, rfl⟩
  rw [hg] at ho3 hX3 ⊢
  have hgw : w.heap.size + 1 + 1 = g := by omega
  clear hr3 hb3 hXs cX hz3 hBX HX hg
  have HP : Hid (Parts (W3.alloc (.cells #[.slice A n c, .slice (some ⟨g, 0, none⟩) 24 24] 22)) W3.heap.size 2 (M.cat2 l)) := fun j hj => by
    match j, hj with
    | 0, _ => exact ⟨A, c, by have := World.cell?_alloc_new W3 #[.slice A n c, .slice (some ⟨g, 0, none⟩) 24 24] 22 0; rw [this]; simp [M.cat2, hl.out], by simpa [M.cat2] using HL3.out.al _, by simpa using hz.out⟩
    | 1, _ => exact ⟨some ⟨g, 0, none⟩, 24, by have := World.cell?_alloc_new W3 #[.slice A n c, .slice (some ⟨g, 0, none⟩) 24 24] 22 1; rw [this]; simp [M.cat2], by simpa [M.cat2] using (ints_of_own64 ho3.out).al _, fun e => by cases e⟩
  have HLen : Hid (∀ j, j < 2 → (M.cat2 l j).length ≤ 24) := fun j hj => by
    match j, hj with
    | 0, _ => simp only [M.cat2]; have := hl.out; simp; omega
    | 1, _ => simp [M.cat2]
  have HC := Lib.hid (concat W3.heap.size 2 (M.cat2 l) (W3.alloc (.cells #[.slice A n c, .slice (some ⟨g, 0, none⟩) 24 24] 22)) (by omega) HLen (by simp) HP)
  have hB4 := Lib.hid (bal hB3.out (.cells #[.slice A n c, .slice (some ⟨g, 0, none⟩) 24 24] 22))
  have hz5 : Hid ((W3.alloc (.cells #[.slice A n c, .slice (some ⟨g, 0, none⟩) 24 24] 22)).heap[w.heap.size]? = some (.cells (List.replicate 24 (Value.int .i64 0)).toArray 113 (0, 0))) := (Below.heap_alloc _ _ _ (by omega)).trans hz4.out
  clear HP HLen HL3 ho3 hz4
  go_wp2_with fail
  refine HC.out.mono ?_
  rintro e W5 ⟨A5, c5, n5, rfl, ho5, hb5⟩
  have hW3 : (W3.alloc (.cells #[.slice A n c, .slice (some ⟨g, 0, none⟩) 24 24] 22)).heap.size = W3.heap.size + 1 := by simp
  rw [M.catTo_cat2] at ho5
  have hn5 := own64_len ho5
  have hl5 : (l ++ List.replicate 24 (-1)).length = n + 24 := by simp [hl.out]
  obtain ⟨g5, e5⟩ : ∃ g5, A5 = some ⟨g5, 0, none⟩ := by
    rcases ho5.2 with ⟨h1, h2⟩ | ⟨g5, cap, cur, hv, _⟩
    · simp at h2
    · injection hv with h1; exact ⟨g5, h1⟩
  subst e5
  have Ho5 := Lib.hid ho5
  have hB5 := Lib.hid (hB4.out.trans (hb5.mono (by omega)))
  have hz6 : Hid (W5.heap[w.heap.size]? = some (.cells (List.replicate 24 (Value.int .i64 0)).toArray 113 (0, 0))) := (hb5.block _ (by omega)).trans hz5.out
  have h24 : 24 ≤ n5 := by omega
  have hrunA := run_arrayAt (P := Try.prog) (w := W5) 113 2 24 (some ⟨g5, 0, none⟩) n5 c5 Try.underlying113 h24
  have hc : W5.rangeAt g5 0 ((M.arr l).map (Value.int .i64)) := fun j v hv => by
    rw [List.getElem?_map] at hv
    cases hj : (M.arr l)[j]? with
    | none => rw [hj] at hv; cases hv
    | some y =>
      rw [hj] at hv
      injection hv with hv
      subst hv
      rw [Nat.zero_add]
      have hj24 : j < 24 := by have := (List.getElem?_eq_some_iff.1 hj).1; rw [M.arr_len] at this; exact this
      refine (own64_cell Ho5.out hn5.symm (k := j) (x := y) ?_).1
      rw [M.arr, List.getElem?_take_of_lt hj24] at hj
      exact hj
  have hi : (Try.prog.info? 113).map (·.size) = some ((M.arr l).map (Value.int .i64)).length := by rw [List.length_map, M.arr_len]; kernel_rfl
  have hi2 : (Try.prog.info? 113).map (·.size) = some ((M.arr l).map (Value.int .i64)).toArray.size := by rw [List.size_toArray]; exact hi
  have hth : W5.there w.heap.size 0 ((M.arr l).map (Value.int .i64)).toArray.size := fun j hj => by
    rw [List.size_toArray, List.length_map, M.arr_len] at hj
    simp [World.cell?, World.frozen?, hz6.out, hj]
  have h1 : ((M.arr l).map (Value.int .i64)).toArray.all (·.oneCell') = true := all_oneCell_toArray (fun v hv => by obtain ⟨x, _, rfl⟩ := List.mem_map.1 hv; rfl)
  have Hc := Lib.hid hc
  have Hth := Lib.hid hth
  have H1 := Lib.hid h1
  have Hi := Lib.hid hi
  have Hi2 := Lib.hid hi2
  clear hc hth h1 hi hi2 ho5 hb5 hn5 hl5 HC hW3
  go_wp2_with (first | (refine wpList_load_mid rfl 113 (.tmp 8) rfl g5 0 rfl _ _ Hc.out Try.underlying113 rfl Hi.out ?_) | (refine wpList_store_mid rfl 113 (.tmp 2) (.tmp 9) rfl w.heap.size 0 _ rfl rfl Hth.out Hi2.out H1.out ?_))
  have hlr := run_loadVar_mid (P := Try.prog) (W5.setCells w.heap.size 0 ((M.arr l).map (Value.int .i64))) w.heap.size 0 113 ((M.arr l).map (Value.int .i64)) _ (World.rangeAt_setCells_same _ _ _ _ (by simpa using Hth.out)) Try.underlying113 rfl Hi.out
  refine bodyPost_ret (v := .agg ((M.arr l).map (Value.int .i64)).toArray) (by simp [results, Try.results107, Act.put, asAddr, hlr]) rfl ?_
  exact ⟨rfl, hB5.out.trans (below_cells' (Nat.le_refl _) _ _ (Below.refl _ _))⟩
end Go.Proofs.Ytkcldfliiagloaa

/- Two arrangements compared: the model's inequality of arrays of 24 numbers. -/
namespace Go.Proofs.Ytkcldfliiagloaa
open Go.RowKit

theorem run_part64 (xs : List Int) (i : Nat) (x : Int) (hx : xs[i]? = some x) (w : World) : (part 2 (xs.map (Value.int .i64)).toArray (i * 1)).run Try.prog w = .ok (.int .i64 x) w := by
  have hag : (isAgg 2).run Try.prog w = .ok false w := Try.isAgg2 w
  have h : (xs.map (Value.int .i64)).toArray[i * 1]? = some (.int .i64 x) := by simp [hx]
  simp only [part, Sem.run_bind, hag, Result.andThen_ok, Bool.false_eq_true, if_false, h]
  rfl

theorem run_arr_loop (d : Nat) (xs ys : List Int) (hx : xs.length = 24) (hy : ys.length = 24) (w : World) :
    (Op.equalIn (d + 2) 113 (.agg (xs.map (Value.int .i64)).toArray) (.agg (ys.map (Value.int .i64)).toArray)).run Try.prog w = .ok (decide (xs = ys)) w := by
  have ht := Try.underlying113
  have he := Try.underlying2
  have hsz : (sizeOf 2).run Try.prog w = .ok 1 w := Try.sizeOf2 w
  rw [Op.equalIn]
  simp only [Sem.run_bind, run_underlying ht, Result.andThen_ok, hsz]
  rw [Std.Legacy.Range.forIn_eq_forIn_range']
  have key : ∀ m s, s + m = 24 → Sem.run Try.prog
            (forIn (List.range' s m 1) (none, ()) fun i (__s : Option Bool × Unit) => do
              let __do_lift ← part 2 (List.map (Value.int IntKind.i64) xs).toArray (i * 1)
              let __do_lift_1 ← part 2 (List.map (Value.int IntKind.i64) ys).toArray (i * 1)
              let __do_lift ← Op.equalIn (d + 1) 2 __do_lift __do_lift_1
              if (!__do_lift) = true then pure (ForInStep.done (some false, ())) else pure (ForInStep.yield (none, ())))
            w = .ok (if xs.drop s = ys.drop s then (none, ()) else (some false, ())) w := by
    intro m
    induction m with
    | zero =>
      intro s hs
      rw [List.drop_of_length_le (by omega), List.drop_of_length_le (by omega)]
      simp
    | succ m ih =>
      intro s hs
      have h1 : xs[s]? = some xs[s] := List.getElem?_eq_getElem (by omega)
      have h2 : ys[s]? = some ys[s] := List.getElem?_eq_getElem (by omega)
      rw [List.range'_succ]
      simp only [List.forIn_cons, Sem.run_bind, run_part64 xs s _ h1, run_part64 ys s _ h2, Result.andThen_ok, run_equalIn_int w d _ _ _ _ _ he]
      rw [List.drop_eq_getElem_cons (i := s) (by omega), List.drop_eq_getElem_cons (i := s) (by omega)]
      by_cases h : xs[s] = ys[s]
      · rw [h]
        simp only [beq_self_eq_true, Bool.not_true, Bool.false_eq_true, if_false, Sem.run_pure, Result.andThen_ok, List.cons.injEq, true_and]
        exact ih (s + 1) (by omega)
      · have hb : (xs[s] == ys[s]) = false := beq_eq_false_iff_ne.2 h
        simp only [hb, Bool.not_false, if_true, Sem.run_pure, Result.andThen_ok, List.cons.injEq, h, false_and, if_false]
  have := key 24 0 rfl
  simp only [List.drop_zero] at this
  have e24 : (List.range' ([:24] : Std.Legacy.Range).start ([:24] : Std.Legacy.Range).size ([:24] : Std.Legacy.Range).step) = List.range' 0 24 1 := by decide
  rw [e24, this]
  by_cases h : xs = ys
  · simp [h]
  · simp [h]

theorem arr_eql (l k : List Int) (w : World) :
    Sem.run Try.prog (Op.equalIn 10000 113 (.agg ((M.arr l).map (Value.int .i64)).toArray) (.agg ((M.arr k).map (Value.int .i64)).toArray)) w = .ok (decide (M.arr l = M.arr k)) w :=
  run_arr_loop 9998 (M.arr l) (M.arr k) (M.arr_len l) (M.arr_len k) w

theorem arr_guard : Try.prog.eqGuardType Try.prog.depth 113 = false := by kernel_rfl
end Go.Proofs.Ytkcldfliiagloaa

/- The contract of slices.Sort at int64, laid at this program. No conditions but those that it states. -/
namespace Go.Proofs
open Go.Shelf
def Try.laysSlM5_f193_ren : Go.Shelf.Ren := ⟨fun | 5 => 193 | 8 => 233 | 7 => 235 | 19 => 261 | 20 => 262 | 10 => 264 | 11 => 265 | 12 => 266 | 13 => 267 | 14 => 268 | 15 => 269 | 16 => 270 | 17 => 271 | 18 => 272 | 30 => 281 | 31 => 277 | 32 => 278 | 33 => 282 | 34 => 283 | 35 => 263 | 40 => 285 | n => n, fun | 23 => 22 | 25 => 2 | 3 => 3 | 32 => 224 | 22 => 22 | 0 => 0 | 44 => 256 | 46 => 232 | 4 => 4 | 36 => 269 | 35 => 268 | 41 => 273 | 5 => 5 | 9 => 9 | 53 => 285 | 57 => 289 | 63 => 293 | 64 => 294 | n => n, fun | n => n⟩
theorem Try.laysSlM5_f193 : Go.Proofs.SlLaysM.n5 Try.prog Try.laysSlM5_f193_ren := {
  mixed := by kernel_rfl
  f5 := ⟨Try.f193.name, by decide, Try.func193.trans (congrArg some (by kernel_rfl))⟩
  f7 := ⟨Try.f235.name, by decide, Try.func235.trans (congrArg some (by kernel_rfl))⟩
  f8 := Try.func233.trans (congrArg some (by kernel_rfl))
  f10 := ⟨Try.f264.name, by decide, Try.func264.trans (congrArg some (by kernel_rfl))⟩
  f11 := ⟨Try.f265.name, by decide, Try.func265.trans (congrArg some (by kernel_rfl))⟩
  f12 := ⟨Try.f266.name, by decide, Try.func266.trans (congrArg some (by kernel_rfl))⟩
  f13 := ⟨Try.f267.name, by decide, Try.func267.trans (congrArg some (by kernel_rfl))⟩
  f14 := ⟨Try.f268.name, by decide, Try.func268.trans (congrArg some (by kernel_rfl))⟩
  f15 := ⟨Try.f269.name, by decide, Try.func269.trans (congrArg some (by kernel_rfl))⟩
  f16 := ⟨Try.f270.name, by decide, Try.func270.trans (congrArg some (by kernel_rfl))⟩
  f17 := ⟨Try.f271.name, by decide, Try.func271.trans (congrArg some (by kernel_rfl))⟩
  f18 := ⟨Try.f272.name, by decide, Try.func272.trans (congrArg some (by kernel_rfl))⟩
  f19 := Try.func261.trans (congrArg some (by kernel_rfl))
  f20 := Try.func262.trans (congrArg some (by kernel_rfl))
  f30 := ⟨Try.f281.name, by decide, Try.func281.trans (congrArg some (by kernel_rfl))⟩
  f31 := Try.func277.trans (congrArg some (by kernel_rfl))
  f32 := Try.func278.trans (congrArg some (by kernel_rfl))
  f33 := ⟨Try.f282.name, by decide, Try.func282.trans (congrArg some (by kernel_rfl))⟩
  f34 := ⟨Try.f283.name, by decide, Try.func283.trans (congrArg some (by kernel_rfl))⟩
  f35 := ⟨Try.f263.name, by decide, Try.func263.trans (congrArg some (by kernel_rfl))⟩
  f40 := ⟨Try.f285.name, by decide, Try.func285.trans (congrArg some (by kernel_rfl))⟩
  t0 := Try.underlying0
  a0 := Try.isAgg0
  z0 := Try.sizeOf0
  v0 := Try.zeroValue0
  t3 := Try.underlying3
  a3 := Try.isAgg3
  z3 := Try.sizeOf3
  v3 := Try.zeroValue3
  t4 := Try.underlying4
  a4 := Try.isAgg4
  z4 := Try.sizeOf4
  v4 := Try.zeroValue4
  t5 := Try.underlying5
  a5 := Try.isAgg5
  z5 := Try.sizeOf5
  v5 := Try.zeroValue5
  t9 := Try.underlying9
  a9 := Try.isAgg9
  z9 := Try.sizeOf9
  v9 := Try.zeroValue9
  t22 := Try.underlying22
  a22 := Try.isAgg22
  z22 := Try.sizeOf22
  v22 := Try.zeroValue22
  t23 := Try.underlying22
  a23 := Try.isAgg22
  z23 := Try.sizeOf22
  v23 := Try.zeroValue22
  t25 := Try.underlying2
  a25 := Try.isAgg2
  z25 := Try.sizeOf2
  v25 := Try.zeroValue2
  t32 := Try.underlying224
  a32 := Try.isAgg224
  z32 := Try.sizeOf224
  v32 := Try.zeroValue224
  t35 := Try.underlying268
  a35 := Try.isAgg268
  z35 := Try.sizeOf268
  v35 := Try.zeroValue268
  t36 := Try.underlying269
  a36 := Try.isAgg269
  z36 := Try.sizeOf269
  v36 := Try.zeroValue269
  t41 := Try.underlying273
  a41 := Try.isAgg273
  z41 := Try.sizeOf273
  v41 := Try.zeroValue273
  t44 := Try.underlying256
  a44 := Try.isAgg256
  z44 := Try.sizeOf256
  v44 := Try.zeroValue256
  t46 := Try.underlying232
  a46 := Try.isAgg232
  z46 := Try.sizeOf232
  v46 := Try.zeroValue232
  t53 := Try.underlying285
  a53 := Try.isAgg285
  z53 := Try.sizeOf285
  v53 := Try.zeroValue285
  t57 := Try.underlying289
  a57 := Try.isAgg289
  z57 := Try.sizeOf289
  v57 := Try.zeroValue289
  t63 := Try.underlying293
  a63 := Try.isAgg293
  z63 := Try.sizeOf293
  v63 := Try.zeroValue293
  t64 := Try.underlying294
  a64 := Try.isAgg294
  z64 := Try.sizeOf294
  v64 := Try.zeroValue294 }
open Go.Sort Go.RowKit in
theorem Try.sort64 (blk off cap : Nat) (zs : List Int) (w : World) (hH : Holds (Value.int .i64) w blk off zs.toArray) (hblk : blk < w.heap.size) (hsz : zs.length < 4611686018427387904) :
    Calls Try.prog 193 #[.slice (some ⟨blk, off, none⟩) zs.length cap] w fun e w' =>
      e = .returned (.tuple #[]) ∧ ∃ n os, w' = grow (putRow (Value.int .i64) (Sort.ahead w n) blk off (zs.mergeSort fun x y => decide (x ≤ y)).toArray) os := AnyM.slices_Sort_int Try.laysSlM5_f193 blk off cap zs w hH hblk hsz
end Go.Proofs

/- slices.Sorted of slices.Values: a list in ascending order, in a row of its own. -/
namespace Go.Proofs.Ytkcldfliiagloaa
open Go.RowKit Go.Shelf
attribute [local go_sem] Oper.semAt_some

/-- the numbers that have come behind k rounds -/
def atOr (zs : List Int) (k : Nat) : Int := zs[k]?.getD 0
theorem range_at (zs : List Int) : (List.range zs.length).map (atOr zs) = zs := by
  refine List.ext_getElem? fun i => ?_
  rcases Nat.lt_or_ge i zs.length with h | h
  · simp [atOr, h]
  · rw [List.getElem?_eq_none (by simp; exact h), List.getElem?_eq_none h]

set_option maxRecDepth 100000 in
set_option maxHeartbeats 2000000 in
theorem values1 (n : Nat) (hn : 1 ≤ n) (l Bd n₀ : Nat) (A : Option Addr) (zs : List Int) (c m : Nat) (hm : Hid (zs.length = m)) (hx : m ≤ 24) (J Jx : List Int → World → Prop)
    (hY : ∀ pre x W, J pre W → pre.length < m → YieldAt Fence.wide (n - 1) Try.prog l #[.int .i64 x] W fun e W' =>
      (e = .returned (.bool true) ∧ J (pre ++ [x]) W' ∧ KeepK n₀ Bd W W') ∨ (e = .returned (.bool false) ∧ Jx (pre ++ [x]) W'))
    (W : World) (hBd : Boxed W Bd 22 (.slice A m c)) (hI : Ints W n₀ A zs) (_hn0 : n₀ ≤ W.heap.size) (h0 : J [] W) :
    CallsIn Fence.wide n Try.prog 252 #[.func (.yield l) #[] #[], .pointer (some ⟨Bd, 0, none⟩)] W fun e W' => (∃ u, e = .returned u) ∧
      ((∃ ys, ys = (List.range m).map (atOr zs) ∧ J ys W') ∨ (∃ pre, (∃ k, k ≤ m ∧ pre = (List.range k).map (atOr zs)) ∧ Jx pre W')) := by
  have hcd := hBd.cell
  have HI := Lib.hid hI
  clear hI hBd
  refine callsIn_of_wp Try.func252 rfl trivial ?_ rfl
  simp only [Try.ntmps252, List.size_toArray, List.length_cons, List.length_nil, Nat.reduceAdd, Nat.reduceSub, Array.replicate_succ, Array.replicate_zero, List.push_toArray, List.append_toArray, List.nil_append, List.cons_append]
  gi_wp2
  gi_loopw [4, 7] (fun _ i wr => ∃ k : Nat, k ≤ m ∧ i = .int .i64 (k : Int) ∧ J ((List.range k).map (atOr zs)) wr ∧ Hid (KeepK n₀ Bd W wr))
    (fun _ i _ => m - (intOf i).toNat)
  case atStart => exact ⟨0, Nat.zero_le _, rfl, h0, ⟨Below.refl _ _, rfl⟩⟩
  case round =>
    obtain ⟨k, hk, rfl, hJs, hnx⟩ := hrel
    clear hcd
    by_cases hlt : k < m
    · have hYk := hY _ (atOr zs k) wr hJs (by simpa using hlt)
      obtain ⟨fn, tmps, assign, body, hy, hR⟩ := hYk
      obtain ⟨b, off, x, rfl, hbB, g1, hX⟩ := (HI.out.below hnx.out.1 (Nat.le_refl _)).at_ (k := k) (by rw [hm.out]; exact hlt)
      have hax : atOr zs k = x := by rw [atOr, hX.out]; rfl
      rw [hax] at hR hy
      have hki : (k : Int) < (m : Int) := by omega
      have hk0 : (0 : Int) ≤ (k : Int) := by omega
      have Hax := Lib.hid hax
      clear hX hax
      gi_wp2
      refine hR.mono ?_
      rintro e W3 (⟨rfl, hJ3, hk3⟩ | ⟨rfl, hJx3⟩)
      · have hk4 : Hid (KeepK n₀ Bd W W3) := hnx.out.t hk3
        clear hk3
        gi_wp2
        go_roundw
        case rel => exact ⟨k + 1, by omega, by go_num, by rw [List.range_succ, List.map_append]; show J (_ ++ [atOr zs k]) _; rw [Hax.out]; exact hJ3, hk4⟩
        case measure => simp [intOf]; omega
      · gi_wp2
        refine bodyPost_ret (results_none rfl _ _ _) rfl ?_
        exact ⟨⟨_, rfl⟩, .inr ⟨_, ⟨k + 1, by omega, by rw [List.range_succ, List.map_append]; show _ = _ ++ [atOr zs k]; rw [Hax.out]⟩, hJx3⟩⟩
    · obtain rfl : k = m := by omega
      gi_wp2
      go_end0
      exact ⟨⟨_, rfl⟩, .inl ⟨_, rfl, hJs⟩⟩

theorem values_stops (n : Nat) (hn : 1 ≤ n) (Bd n₀ : Nat) (A : Option Addr) (zs : List Int) (c m : Nat) (hm : Hid (zs.length = m)) (hx : m ≤ 24)
    (w : World) (hBd : Boxed w Bd 22 (.slice A m c)) (hI : Ints w n₀ A zs) (hn0 : n₀ ≤ w.heap.size) :
    SeqStopsK Fence.wide n Try.prog 252 #[.pointer (some ⟨Bd, 0, none⟩)] (fun x : Int => #[Value.int .i64 x]) (KeepK n₀ Bd)
      (fun ys => ys = (List.range m).map (atOr zs)) (fun pre => ∃ k, k ≤ m ∧ pre = (List.range k).map (atOr zs)) m w := fun l J Jx W hW _ _ hY h0 =>
  values1 n hn l Bd n₀ A zs c m hm hx J Jx hY W ((hW.block Bd hBd.lt).trans hBd) (hI.below hW hn0) (Nat.le_trans hn0 hW.size) h0

set_option maxRecDepth 100000 in
set_option maxHeartbeats 2000000 in
theorem appendSeq_in (Bd : Nat) (A : Option Addr) (zs : List Int) (c m : Nat) (w : World) (hm : Hid (zs.length = m)) (hx : m ≤ 24) (hBd : Boxed w Bd 22 (.slice A m c)) (hI : Ints w w.heap.size A zs) :
    CallsIn Fence.wide 5 Try.prog 275 #[.slice none 0 0, .func (.func 252) #[] #[.pointer (some ⟨Bd, 0, none⟩)]] w fun e w' => ∃ u, e = .returned u ∧ w'.ownsRow w.heap.size 2 1 u zs.length (zs.map (Value.int .i64)) ∧ Below w.heap.size w w' := by
  obtain ⟨i0, hi0, hz0, hz1, hz2⟩ := info_parts info64
  have hlB := hBd.lt
  refine callsIn_of_wp_marks Try.func275 rfl trivial ?_ rfl
  simp only [Try.ntmps275, List.size_toArray, List.length_cons, List.length_nil, Nat.reduceAdd, Nat.reduceSub, Array.replicate_succ, Array.replicate_zero, List.push_toArray, List.append_toArray, List.nil_append, List.cons_append]
  gi_wp2
  have bO := Boxed.new w 22 (.slice none 0 0)
  have bD := hBd.alloc (.cells #[.slice none 0 0] 22)
  have hB0 := bal (b0 w) (.cells #[.slice none 0 0] 22)
  have hKb := KeepK.b (n₀ := w.heap.size) (Bd := Bd) (w := (w.alloc (.cells #[.slice none 0 0] 22))) (by simp) (by simp; omega)
  have h15 : 1 ≤ 5 := by omega
  refine wpIn_rangeFunc_ownG (α := Int) rfl h15 (gf := 252) (lb := #[.pointer (some ⟨Bd, 0, none⟩)]) rfl trivial (enters_of Try.func252 (by kernel_rfl) rfl)
    (values_stops 4 (by omega) Bd w.heap.size A zs c m hm hx _ bD (hI.below hB0 (Nat.le_refl _)) (by simp)) (fun h k => h.t k) hKb (Below.refl _ _) (fun _ => rfl)
    (fun pre W => (∃ u, Boxed W w.heap.size 22 u ∧ W.ownsRow w.heap.size 2 1 u pre.length (pre.map (Value.int .i64)) ∧ True) ∧ Boxed W Bd 22 (.slice A m c) ∧ Below w.heap.size w W)
    (fun _ _ _ => False)
    (OwnFrom.and (Own.from (holdsRow_own w.heap.size w.heap.size 22 2 1 (fun pre : List Int => pre.length) (fun pre => pre.map (Value.int .i64)) (fun _ _ => True)) _) (OwnFrom.and (Own.from (boxed_own Bd 22 (fun _ => .slice A m c)) _) (ownFrom_below (Nat.le_refl _) (by simp))))
    (fun _ _ _ _ _ hs _ _ => hs)
    ⟨⟨_, bO, World.ownsRow_nil _ _ _ _, trivial⟩, bD, hB0⟩
    (fun x => { tmps := #[.slice none 0 0, .func (.func 252) #[] #[.pointer (some ⟨Bd, 0, none⟩)], .pointer (some ⟨w.heap.size, 0, none⟩), undef, .slice none 0 0, .int .i64 x, .func (.func 252) #[] #[.pointer (some ⟨Bd, 0, none⟩)], .int .i64 x, undef, undef, undef, undef, undef], defers := [] }) ?assign ?body ?done ?stop
  case assign =>
    intro l x W K hK
    gi_wp2
    exact hK
  case body =>
    rintro l pre x W ⟨⟨u, hu, hrow, _⟩, hbd, hB⟩ hlt
    have hc := hu.cell
    have hpl2 : pre.length ≤ 24 := by omega
    gi_wp2_with (gi_at_builtin; refine wpListIn_append_own _ rfl _ _ 22 rfl w.heap.size 2 i0 (.int .i64 0) 1 8 Try.underlying22 hi0 hz0 hz1 hz2 rfl (by decide) _ _ _ rfl (hrow.alloc _) ⟨W.heap.size, 0, none⟩ 1 1 [.int .i64 x] rfl rfl (cell_one_new _ _ _) (by simp [Value.oneCell']) (by unfold maxLen; omega) (by omega) (by have := hB.size; simp; omega) ?_; intro v' w1 hown' hgrow _; obtain ⟨g', cap', rfl⟩ := ownsRow_succ hown'; obtain ⟨hv1, hv2, hr2, hk2, hb2⟩ := hu.appended (by decide) hrow hB.size (Nat.le_refl _) hown' hgrow; have hc1 := hv1.cell; have hf1 := hv1.frozen)
    have hkk := keepK_appended hb2 hgrow hrow hbd (by omega)
    exact ⟨hk2.from _, hkk, ⟨_, hv2, by simpa using hr2, trivial⟩, hkk.2.trans hbd, hB.trans hb2⟩
  case done =>
    rintro D ys W hD rfl ⟨⟨u, hu, hrow, _⟩, hbd, hB⟩ hK
    have hc := hu.cell
    rw [← hm.out, range_at] at hrow
    gi_wp2
    refine ⟨by simp, .inl ⟨_, _, rfl, run_takeDeferred hK, ?_⟩⟩
    exact ⟨_, results_tmp rfl _ _ _, u, rfl, ownsRow_putObj hrow _ hK rfl, hB.trans (belowK_b (w := w) (Nat.le_refl _) W D _ _ (by simp at hD; omega) hK rfl rfl)⟩
  case stop =>
    rintro D c pre W _ _ h _
    exact h.elim

set_option maxHeartbeats 1000000 in
theorem valuesOf (A : Option Addr) (m c : Nat) (w : World) :
    Calls Try.prog 222 #[.slice A m c] w fun e w' => e = .returned (.func (.func 252) #[] #[.pointer (some ⟨w.heap.size, 0, none⟩)]) ∧ w' = w.alloc (.cells #[.slice A m c] 22) := by
  go_enter Try.func222, Try.ntmps222
  go_wp2
  go_ret
  exact ⟨rfl, rfl⟩

set_option maxHeartbeats 1000000 in
theorem collectOf (Bd : Nat) (A : Option Addr) (zs : List Int) (c m : Nat) (w : World) (hm : Hid (zs.length = m)) (hx : m ≤ 24) (hBd : Boxed w Bd 22 (.slice A m c)) (hI : Ints w w.heap.size A zs) :
    Calls Try.prog 251 #[.func (.func 252) #[] #[.pointer (some ⟨Bd, 0, none⟩)]] w fun e w' => ∃ A' c', e = .returned (.slice A' m c') ∧ Own64 w' w.heap.size (.slice A' m c') zs ∧ Below w.heap.size w w' := by
  have HA := Lib.hid ((callsIn_wide (n := 5)).1 (appendSeq_in Bd A zs c m w hm hx hBd hI))
  go_enter Try.func251, Try.ntmps251
  go_wp2_with fail
  refine HA.out.mono ?_
  rintro e w1 ⟨u, rfl, ho, hb⟩
  obtain ⟨A', c', rfl⟩ := own_shape ho
  rw [hm.out] at ho ⊢
  have Ho : Hid (Own64 w1 w.heap.size (.slice A' m c') zs) := by show Own64 _ _ _ _; unfold Own64; rw [hm.out]; exact ho
  clear ho
  go_wp2
  go_ret
  exact ⟨A', c', rfl, Ho.out, hb⟩

set_option maxHeartbeats 1000000 in
theorem sortedOf (Bd : Nat) (A : Option Addr) (zs : List Int) (c m : Nat) (w : World) (hm : Hid (zs.length = m)) (hx : m ≤ 24) (h1 : 1 ≤ m) (hBd : Boxed w Bd 22 (.slice A m c)) (hI : Ints w w.heap.size A zs) :
    Calls Try.prog 221 #[.func (.func 252) #[] #[.pointer (some ⟨Bd, 0, none⟩)]] w fun e w' => ∃ g c', e = .returned (.slice (some ⟨g, 0, none⟩) m c') ∧ Own64 w' w.heap.size (.slice (some ⟨g, 0, none⟩) m c') (M.sorted zs) ∧ Below w.heap.size w w' := by
  have HA := Lib.hid (collectOf Bd A zs c m w hm hx hBd hI)
  go_enter Try.func221, Try.ntmps221
  go_wp2_with fail
  refine HA.out.mono ?_
  rintro e w1 ⟨A', c', rfl, ho, hb⟩
  have hS : Hid (∃ g, A' = some ⟨g, 0, none⟩ ∧ Calls Try.prog 193 #[.slice A' m c'] w1 fun e w' => e = .returned (.tuple #[]) ∧ Own64 w' w.heap.size (.slice A' m c') (M.sorted zs) ∧ Below w.heap.size w w') := by
    rcases ho.2 with ⟨h2, h3⟩ | ⟨g, cap, cur, hv, hg, hh, k1, k2, k3, k4⟩
    · exfalso; rw [hm.out] at h3; omega
    · injection hv with e1 e2 e3
      subst e1
      subst e3
      have hlt := (Array.getElem?_eq_some_iff.1 hh).1
      refine ⟨g, rfl, ?_⟩
      have hc := Try.sort64 g 0 c' zs w1 (holds_of_blockI hh (by rw [Nat.mul_one] at k4; exact k4)) hlt (by rw [hm.out]; omega)
      rw [hm.out] at hc
      refine hc.mono ?_
      rintro e w2 ⟨rfl, n, os, rfl⟩
      refine ⟨rfl, ?_, hb.grown (grownBy_sortedI _) hb.size (fun k hk => by cases hk; exact hg)⟩
      have hr := ownsRow_sortedI (n := n) (os := os) (ss := zs) (ts := M.sorted zs) (M.sorted_len zs) hg hh k1 k2 k3
      unfold Own64
      rw [M.sorted_len]
      rw [hm.out] at hr ⊢
      exact hr
  obtain ⟨g, rfl, hS⟩ := hS.out
  have HS := Lib.hid hS
  clear hS ho
  go_wp2_with fail
  refine HS.out.mono ?_
  rintro e w2 ⟨rfl, ho2, hb2⟩
  have Ho2 := Lib.hid ho2
  clear ho2
  go_wp2
  go_ret
  exact ⟨g, c', rfl, Ho2.out, hb2⟩
end Go.Proofs.Ytkcldfliiagloaa

/- listCode: whether a list has all nodes, each once. -/
namespace Go.Proofs.Ytkcldfliiagloaa
open Go.RowKit
attribute [local go_sem] arr_eql

theorem cellOf_be {w w' : World} {g k : Nat} {v : Value} (h : w.cell? ⟨g, k, none⟩ = some v) (hb : Below w.heap.size w w') : w'.cell? ⟨g, k, none⟩ = some v :=
  (hb.cell (p := ⟨g, k, none⟩) (World.block_lt_of_cell? _ _ h)).trans h
theorem cellOf_al {w : World} {g k : Nat} {v : Value} (h : w.cell? ⟨g, k, none⟩ = some v) (o : Obj) : (w.alloc o).cell? ⟨g, k, none⟩ = some v :=
  (World.cell?_alloc_lt w o ⟨g, k, none⟩ (World.block_lt_of_cell? _ _ h)).trans h
theorem order_cells (w : World) (u v : Value) (t : TypeId) : (w.alloc (.cells #[u, v] t)).cell? ⟨w.heap.size, 0, none⟩ = some u ∧ (w.alloc (.cells #[u, v] t)).cell? ⟨w.heap.size, 1, none⟩ = some v :=
  ⟨by have := World.cell?_alloc_new w #[u, v] t 0; rw [this]; rfl, by have := World.cell?_alloc_new w #[u, v] t 1; rw [this]; rfl⟩

set_option maxHeartbeats 4000000 in
set_option maxRecDepth 100000 in
theorem listCode (A A2 : Option Addr) (l : List Int) (c c2 n : Nat) (w : World) (h1 : 1 ≤ n) (h24 : n ≤ 24) (h2 : Ints w w.heap.size A2 l) (r : Int) (hr : Hid ((if M.isOrd n l then 0 else 2) = r)) :
    Calls Try.prog 167 #[.agg #[.slice A n c, .slice A2 l.length c2]] w fun e w' => e = .returned (.int .i64 r) ∧ Below w.heap.size w w' := by
  obtain ⟨d0, d1⟩ := order_cells w (.slice A n c) (.slice A2 l.length c2) 96
  have hB0 := Lib.hid (bal (b0 w) (.cells #[.slice A n c, .slice A2 l.length c2] 96))
  by_cases hln : l.length = n
  · have H2 := Lib.hid (h2.al (.cells #[.slice A n c, .slice A2 l.length c2] 96))
    have Hl := Lib.hid hln
    have hne : ((l.length : Int) != (n : Int)) = false := by rw [hln]; simp
    have hs : Hid ((if M.sorted l = M.iota n then 0 else 2) = r) := by
      show _ = _
      rw [← hr.out]
      by_cases e : M.isOrd n l = true
      · rw [if_pos ((M.sorted_iff hln).2 e), if_pos e]
      · rw [if_neg (fun h => e ((M.sorted_iff hln).1 h)), if_neg e]
    have hae : Hid (decide (M.arr (M.sorted l) = M.arr (M.iota n)) = decide (M.sorted l = M.iota n)) := by
      have := M.arr_inj (l := M.sorted l) (k := M.iota n) (by rw [M.sorted_len, M.iota_len, hln]) (by rw [M.sorted_len]; omega)
      show decide _ = decide _
      simp [this]
    rw [hln] at d0 d1 hB0 H2 hne ⊢
    clear hln hr h2
    obtain ⟨W, hW⟩ : ∃ W, W = w.alloc (.cells #[.slice A n c, .slice A2 n c2] 96) := ⟨_, rfl⟩
    go_enter Try.func167, Try.ntmps167
    go_wp2_with fail
    rw [← hW] at d0 d1 hB0 H2 ⊢
    clear hW
    refine (valuesOf A2 n c2 _).mono ?_
    rintro e w1 ⟨rfl, rfl⟩
    have bV := Boxed.new W 22 (.slice A2 n c2)
    have HS := Lib.hid (sortedOf W.heap.size A2 l c2 n (W.alloc (.cells #[.slice A2 n c2] 22)) Hl h24 h1 bV (H2.out.al _))
    have hB1 := Lib.hid (bal hB0.out (.cells #[.slice A2 n c2] 22))
    have d0' := cellOf_al d0 (.cells #[.slice A2 n c2] 22)
    have d1' := cellOf_al d1 (.cells #[.slice A2 n c2] 22)
    clear d0 d1 hB0 bV
    go_wp2_with fail
    refine HS.out.mono ?_
    rintro e w3 ⟨g, c', rfl, ho, hb⟩
    have d0 := cellOf_be d0' hb
    have d1 := cellOf_be d1' hb
    have hB3 := Lib.hid (btr hB1.out hb)
    have Ho := Lib.hid ho
    have hsl : Hid ((M.sorted l).length = n) := by show _ = _; rw [M.sorted_len, Hl.out]
    clear d0' d1' hB1 HS hb ho H2
    go_wp2
    have hA1 : ∀ X, Hid (Below w3.heap.size w3 X) → Calls Try.prog 107 #[.slice (some ⟨g, 0, none⟩) n c'] X fun e w' => e = .returned (.agg ((M.arr (M.sorted l)).map (Value.int .i64)).toArray) ∧ Hid (Below w3.heap.size w3 w') := fun X hX =>
      (arrangementOf (some ⟨g, 0, none⟩) (M.sorted l) n c' X h24 hsl (Lib.hid (fun e => by cases e)) ((ints_of_own64 Ho.out).be hX.out)).mono fun e w' ⟨he, hb⟩ => ⟨he, btr hX.out hb⟩
    have hN : ∀ X, Hid (Below w3.heap.size w3 X) → Calls Try.prog 223 #[.agg #[.slice A n c]] X fun e w' => ∃ A', e = .returned (.slice A' n n) ∧ Hid (Own64 w' X.heap.size (.slice A' n n) (M.iota n)) ∧ Hid (Below w3.heap.size w3 w') := fun X hX =>
      (nodesOf A n c X h24).mono fun e w' ⟨A', he, ho, hb⟩ => ⟨A', he, ho, btr hX.out hb⟩
    have hA2 : ∀ A' B X, Hid (Below w3.heap.size w3 X) → Hid (Own64 X B (.slice A' n n) (M.iota n)) → Calls Try.prog 107 #[.slice A' n n] X fun e w' => e = .returned (.agg ((M.arr (M.iota n)).map (Value.int .i64)).toArray) ∧ Hid (Below w3.heap.size w3 w') := fun A' B X hX ho =>
      (arrangementOf A' (M.iota n) n n X h24 (M.iota_len n) (Lib.hid (fun e => by
        subst e
        rcases ho.out.2 with ⟨h1, h2⟩ | ⟨g, cap, cur, hv, _⟩
        · rw [M.iota_len] at h2; omega
        · cases hv)) (ints_of_own64 ho.out)).mono fun e w' ⟨he, hb⟩ => ⟨he, btr hX.out hb⟩
    have HA1 := Lib.hid hA1
    have HN := Lib.hid hN
    have HA2 := Lib.hid hA2
    clear hA1 hN hA2 Ho hsl
    have K0 : Hid (Below w3.heap.size w3 w3.drew) := (Below.refl _ _).drew
    have e0 : w3.drew.cell? ⟨w.heap.size, 0, none⟩ = some (.slice A n c) := d0
    have e1 : w3.drew.cell? ⟨w.heap.size, 1, none⟩ = some (.slice A2 n c2) := d1
    have hg83 := arr_guard
    go_region_held3 (fun w' => w'.cell? ⟨w.heap.size, 0, none⟩ = some (.slice A n c) ∧ Hid (Below w3.heap.size w3 w')) (first | exact ⟨e0, K0⟩ | exact ⟨cellOf_be d0 (Hid.out (by assumption)), by assumption⟩) (first | (go_at_call 223; refine (HN.out _ (by assumption)).mono ?_; rintro e w4 ⟨A4, rfl, ho4, hb4⟩) | (go_at_call_of 107 (c'); refine (HA1.out _ (by assumption)).mono ?_; rintro e w5 ⟨rfl, hb5⟩) | (go_at_call 107; refine (HA2.out _ _ _ (by assumption) (by assumption)).mono ?_; rintro e w6 ⟨rfl, hb6⟩))
    have hb := Lib.hid (btr hB3.out hb6.out)
    rw [hae.out]
    clear HA1 HN HA2 K0 e0 e1 hg83 hb4 hb5 ho4 d0 d1 hae
    by_cases hS : M.sorted l = M.iota n
    · have hR : r = 0 := by rw [← hs.out, if_pos hS]
      rw [decide_eq_true hS]
      subst hR
      clear hS hs
      go_wp2
      go_ret
      exact ⟨rfl, hb.out⟩
    · have hR : r = 2 := by rw [← hs.out, if_neg hS]
      rw [decide_eq_false hS]
      subst hR
      clear hS hs
      go_wp2
      go_ret
      exact ⟨rfl, hb.out⟩
  · have hne : ((l.length : Int) != (n : Int)) = true := by simp; omega
    have hR : r = 2 := by rw [← hr.out, M.isOrd_len hln]; rfl
    subst hR
    clear hr h2
    go_enter Try.func167, Try.ntmps167
    go_wp2
    go_ret
    exact ⟨rfl, hB0.out⟩
end Go.Proofs.Ytkcldfliiagloaa

/- What can come next behind the first nodes of a growing order, and orders that are gone on with: mathematics. No conditions. -/
namespace Go.Proofs.Ytkcldfliiagloaa.M

/-- the nodes that can come next, ascending -/
def rdyB (ps b : List Int) (v : Nat) : Bool := decide ((v : Int) ∉ b ∧ (v = 0 ∨ parOf ps (v : Int) ∈ b))
def rdyTo (ps b : List Int) (k : Nat) : List Int := ((List.range k).filter (rdyB ps b)).map fun v : Nat => (v : Int)
theorem rdyTo_zero (ps b : List Int) : rdyTo ps b 0 = [] := rfl
theorem rdyTo_hit {ps b : List Int} {k : Nat} (h : rdyB ps b k = true) : rdyTo ps b (k + 1) = rdyTo ps b k ++ [(k : Int)] := by simp [rdyTo, List.range_succ, h]
theorem rdyTo_miss {ps b : List Int} {k : Nat} (h : rdyB ps b k = false) : rdyTo ps b (k + 1) = rdyTo ps b k := by simp [rdyTo, List.range_succ, h]
theorem rdyTo_len (ps b : List Int) (k : Nat) : (rdyTo ps b k).length ≤ k := by
  rw [rdyTo, List.length_map]
  exact Nat.le_trans (List.length_filter_le _ _) (by simp)
theorem mem_rdyTo {ps b : List Int} {k : Nat} {x : Int} : x ∈ rdyTo ps b k ↔ ∃ v : Nat, x = (v : Int) ∧ v < k ∧ rdyB ps b v = true := by
  simp only [rdyTo, List.mem_map, List.mem_filter, List.mem_range]
  constructor
  · rintro ⟨a, ⟨h1, h2⟩, rfl⟩; exact ⟨a, rfl, h1, h2⟩
  · rintro ⟨a, rfl, h1, h2⟩; exact ⟨a, ⟨h1, h2⟩, rfl⟩
theorem rdyTo_asc (ps b : List Int) (k : Nat) : (rdyTo ps b k).Pairwise (· < ·) := by
  refine List.pairwise_map.2 ?_
  refine ((List.pairwise_lt_range (n := k)).filter _).imp ?_
  intro a b h
  omega

/-- the rows of parents that trees have -/
def Parents (n : Nat) (ps : List Int) : Prop := ps.length = n ∧ parOf ps 0 < 0 ∧ ∀ v : Nat, 1 ≤ v → v < n → 0 ≤ parOf ps (v : Int) ∧ parOf ps (v : Int) < (v : Int)
/-- the beginning of a growing order -/
def Bgn (n : Nat) (ps b : List Int) : Prop := b.Nodup ∧ (∀ x ∈ b, 0 ≤ x ∧ x < (n : Int)) ∧ GrowTo ps b b.length
theorem bgn_nil (n : Nat) (ps : List Int) : Bgn n ps [] := ⟨by simp, by simp, growTo_zero _ _⟩
theorem bgn_root {n : Nat} {ps b : List Int} (hp : Parents n ps) (h : Bgn n ps b) (hb : b ≠ []) : (0 : Int) ∈ b := by
  obtain ⟨_, h2, h3⟩ := h
  obtain ⟨y, r, rfl⟩ := List.exists_cons_of_ne_nil hb
  rcases h3 0 y (by simp) rfl with h4 | h4
  · have hy := h2 y (by simp)
    obtain ⟨v, rfl⟩ := Int.eq_ofNat_of_zero_le hy.1
    rcases Nat.eq_zero_or_pos v with e | e
    · subst e; simp
    · have := hp.2.2 v e (by omega); omega
  · simp at h4
theorem bgn_step {n : Nat} {ps b : List Int} (hp : Parents n ps) (h : Bgn n ps b) {x : Int} (hx : x ∈ rdyTo ps b n) : Bgn n ps (b ++ [x]) := by
  obtain ⟨v, rfl, hv, hr⟩ := mem_rdyTo.1 hx
  obtain ⟨h1, h2, h3⟩ := h
  obtain ⟨r1, r2⟩ := of_decide_eq_true hr
  refine ⟨List.nodup_append.2 ⟨h1, by simp, fun y hy z hz e => ?_⟩, fun y hy => ?_, fun i y hi hy => ?_⟩
  · simp only [List.mem_singleton] at hz
    subst hz; subst e; exact r1 hy
  · rcases List.mem_append.1 hy with h | h
    · exact h2 y h
    · simp only [List.mem_singleton] at h; subst h; omega
  · rcases Nat.lt_or_ge i b.length with h5 | h5
    · rw [List.getElem?_append_left h5] at hy
      rw [List.take_append_of_le_length (by omega)]
      exact h3 i y h5 hy
    · simp only [List.length_append, List.length_singleton] at hi
      obtain rfl : i = b.length := by omega
      rw [List.getElem?_append_right (Nat.le_refl _)] at hy
      simp only [Nat.sub_self, List.getElem?_cons_zero] at hy
      injection hy with hy
      subst hy
      rw [List.take_append_of_le_length (Nat.le_refl _), List.take_length]
      rcases r2 with e | e
      · subst e; exact .inl hp.2.1
      · exact .inr e
theorem bgn_take {n : Nat} {ps l : List Int} (h : Bgn n ps l) (k : Nat) : Bgn n ps (l.take k) := by
  obtain ⟨h1, h2, h3⟩ := h
  refine ⟨h1.sublist (List.take_sublist _ _), fun x hx => h2 x (List.mem_of_mem_take hx), fun i y hi hy => ?_⟩
  rw [List.length_take] at hi
  rw [List.getElem?_take_of_lt (by omega)] at hy
  rw [List.take_take, Nat.min_eq_left (by omega)]
  exact h3 i y (by omega) hy
theorem nodup_len {n : Nat} {b : List Int} (h1 : b.Nodup) (h2 : ∀ x ∈ b, 0 ≤ x ∧ x < (n : Int)) : b.length ≤ n := by
  rcases Nat.lt_or_ge n b.length with h3 | h3
  · exfalso
    have hp := sorted_perm b
    have hs : (sorted b).Pairwise (fun a b => decide (a ≤ b) = true) := List.pairwise_mergeSort (le := fun x y => decide (x ≤ y)) (fun a b c h1 h2 => by simp at *; omega) (fun a b => by simp; omega) b
    have hn : (sorted b).Nodup := hp.symm.nodup h1
    have hq : (sorted b).Pairwise (· < ·) := by
      have := hs.and hn
      exact this.imp fun {a b} h => by have h3 := of_decide_eq_true h.1; have h4 := h.2; omega
    have hl := sorted_len b
    obtain ⟨x, hx⟩ : ∃ x, (sorted b)[0]? = some x := ⟨_, List.getElem?_eq_getElem (by omega)⟩
    have h4 := asc_up (sorted b) n hq (fun x hx => (h2 x (hp.mem_iff.1 hx)).2) 0 x hx
    have h5 := (h2 x (hp.mem_iff.1 (List.mem_of_getElem? hx))).1
    omega
  · exact h3
theorem bgn_len {n : Nat} {ps b : List Int} (h : Bgn n ps b) : b.length ≤ n := nodup_len h.1 h.2.1
theorem all_len : ∀ (n : Nat) (b : List Int), (∀ v : Nat, v < n → (v : Int) ∈ b) → n ≤ b.length := by
  intro n
  induction n with
  | zero => intro b _; omega
  | succ n ih =>
    intro b h
    have h1 := h n (by omega)
    have h2 := ih (b.erase (n : Int)) fun v hv => (List.mem_erase_of_ne (by omega)).2 (h v (by omega))
    rw [List.length_erase_of_mem h1] at h2
    have := List.length_pos_of_mem h1
    omega
theorem bgn_ord {n : Nat} {ps b : List Int} (h : Bgn n ps b) (hl : b.length = n) : isOrd n b = true := isOrd_iff.2 ⟨hl, h.1, h.2.1⟩
theorem ord_bgn {n : Nat} {ps l : List Int} (h : isOrd n l = true) (hg : grows ps l = true) : Bgn n ps l := ⟨(isOrd_iff.1 h).2.1, (isOrd_iff.1 h).2.2, grows_iff.1 hg⟩
/-- there is a node to come if not all are there -/
theorem rdy_least {n : Nat} {ps b : List Int} (hp : Parents n ps) : ∀ k, k ≤ n → (∀ v : Nat, v < k → (v : Int) ∈ b) ∨ rdyTo ps b k ≠ [] := by
  intro k
  induction k with
  | zero => intro _; exact .inl fun v h => by omega
  | succ k ih =>
    intro hk
    rcases ih (by omega) with h | h
    · by_cases hb : (k : Int) ∈ b
      · refine .inl fun v hv => ?_
        rcases Nat.lt_or_ge v k with h1 | h1
        · exact h v h1
        · obtain rfl : v = k := by omega
          exact hb
      · refine .inr ?_
        have : rdyB ps b k = true := by
          refine decide_eq_true ⟨hb, ?_⟩
          rcases Nat.eq_zero_or_pos k with e | e
          · exact .inl e
          · obtain ⟨a, c⟩ := hp.2.2 k e (by omega)
            have := h (parOf ps (k : Int)).toNat (by omega)
            rw [Int.toNat_of_nonneg a] at this
            exact .inr this
        rw [rdyTo_hit this]
        simp
    · refine .inr ?_
      cases hb : rdyB ps b k
      · rw [rdyTo_miss hb]; exact h
      · rw [rdyTo_hit hb]; simp
theorem rdy_some {n : Nat} {ps b : List Int} (hp : Parents n ps) (hl : b.length < n) : rdyTo ps b n ≠ [] := by
  rcases rdy_least (b := b) hp n (Nat.le_refl _) with h | h
  · exfalso
    have := all_len n b h
    omega
  · exact h

/-- the first nodes gone on with, m more ones: by the least or by the greatest of those that can come next -/
def pick (least : Bool) (r : List Int) : Int := if least then r[0]?.getD 0 else r[r.length - 1]?.getD 0
def fill (least : Bool) (n : Nat) (ps : List Int) : Nat → List Int → List Int
  | 0, b => b
  | m + 1, b => fill least n ps m (b ++ [pick least (rdyTo ps b n)])
theorem pick_at {least : Bool} {r : List Int} (h : r ≠ []) : ∃ j, j < r.length ∧ r[j]? = some (pick least r) ∧ j = if least then 0 else r.length - 1 := by
  have hl : 0 < r.length := List.length_pos_iff.2 h
  cases least
  · refine ⟨r.length - 1, by omega, ?_, rfl⟩
    simp only [pick]
    rw [List.getElem?_eq_getElem (by omega)]
    simp
  · refine ⟨0, hl, ?_, rfl⟩
    simp only [pick]
    rw [List.getElem?_eq_getElem hl]
    simp
theorem pick_mem {least : Bool} {r : List Int} (h : r ≠ []) : pick least r ∈ r := by
  obtain ⟨j, _, h2, _⟩ := pick_at (least := least) h
  exact List.mem_of_getElem? h2
theorem fill_step {least : Bool} {n : Nat} {ps b : List Int} (h : b.length < n) : fill least n ps (n - b.length) b = fill least n ps (n - (b ++ [pick least (rdyTo ps b n)]).length) (b ++ [pick least (rdyTo ps b n)]) := by
  rw [show n - b.length = (n - (b ++ [pick least (rdyTo ps b n)]).length) + 1 by simp only [List.length_append, List.length_singleton]; omega]
  rfl
theorem fill_done {least : Bool} {n : Nat} {ps b : List Int} (h : b.length = n) : fill least n ps (n - b.length) b = b := by rw [h, Nat.sub_self]; rfl
theorem fill_len {least : Bool} {n : Nat} {ps : List Int} : ∀ m (b : List Int), (fill least n ps m b).length = b.length + m := by
  intro m
  induction m with
  | zero => intro b; rfl
  | succ m ih => intro b; rw [fill, ih]; simp only [List.length_append, List.length_singleton]; omega
/-- the least ones from the beginning on are all nodes in their order -/
theorem iota_succ (k : Nat) : iota (k + 1) = iota k ++ [(k : Int)] := by simp [iota, List.range_succ]
theorem rdy_iota {n k : Nat} {ps : List Int} (hp : Parents n ps) (h : k < n) : pick true (rdyTo ps (iota k) n) = (k : Int) := by
  have h0 : ∀ j, j ≤ k → rdyTo ps (iota k) j = [] := by
    intro j
    induction j with
    | zero => intro _; rfl
    | succ j ih =>
      intro hj
      have : rdyB ps (iota k) j = false := decide_eq_false fun h => h.1 (mem_iota.2 (by omega))
      rw [rdyTo_miss this, ih (by omega)]
  have h1 : rdyB ps (iota k) k = true := by
    refine decide_eq_true ⟨fun h => by have := mem_iota.1 h; omega, ?_⟩
    rcases Nat.eq_zero_or_pos k with e | e
    · exact .inl e
    · have := hp.2.2 k e h
      exact .inr (mem_iota.2 this)
  have h2 : ∀ m, ∃ r, rdyTo ps (iota k) (k + 1 + m) = (k : Int) :: r := by
    intro m
    induction m with
    | zero => exact ⟨[], by rw [Nat.add_zero, rdyTo_hit h1, h0 k (Nat.le_refl _)]; rfl⟩
    | succ m ih =>
      obtain ⟨r, hr⟩ := ih
      rw [show k + 1 + (m + 1) = k + 1 + m + 1 by omega]
      cases hb : rdyB ps (iota k) (k + 1 + m)
      · exact ⟨r, by rw [rdyTo_miss hb, hr]⟩
      · exact ⟨r ++ [((k + 1 + m : Nat) : Int)], by rw [rdyTo_hit hb, hr]; rfl⟩
  obtain ⟨r, hr⟩ := h2 (n - (k + 1))
  rw [show k + 1 + (n - (k + 1)) = n by omega] at hr
  rw [hr]
  simp [pick]
theorem fill_iota {n : Nat} {ps : List Int} (hp : Parents n ps) : ∀ m k, k + m = n → fill true n ps m (iota k) = iota n := by
  intro m
  induction m with
  | zero => intro k h; obtain rfl : k = n := by omega
            rfl
  | succ m ih =>
    intro k h
    rw [fill, rdy_iota hp (by omega), ← iota_succ]
    exact ih (k + 1) (by omega)
end Go.Proofs.Ytkcldfliiagloaa.M

/- stateCode: whether each node comes behind its parent. -/
namespace Go.Proofs.Ytkcldfliiagloaa
open Go.RowKit

namespace M
theorem parents_of {xs ps : List Int} (ht : isTree xs = true) (hp : ParsOK xs ps) : Parents xs.length ps := by
  refine ⟨hp.1, ?_, fun v h1 h2 => ?_⟩
  · rw [parOf, show (0 : Int).toNat = 0 from rfl, hp.2.1]; decide
  · obtain ⟨p, hk⟩ := kid_has ht (c := v) (by omega) h2
    have hb := kid_bounds ht hk
    rw [parOf, Int.toNat_natCast, hp.2.2 p v hk]
    simp only [Option.getD_some]
    omega
theorem labOK_start (n : Nat) (ps l : List Int) : LabOK n ps l 1 := fun v h1 h2 _ => by omega
theorem labOK_step {n : Nat} {ps l : List Int} {k : Nat} (h : LabOK n ps l k) (hk : l.idxOf (parOf ps (k : Int)) ≤ l.idxOf (k : Int)) : LabOK n ps l (k + 1) := fun v h1 h2 h3 => by
  rcases Nat.lt_or_ge v k with h4 | h4
  · exact h v h1 h4 h3
  · obtain rfl : v = k := by omega
    exact hk
theorem par_at {n : Nat} {ps : List Int} (h : Parents n ps) {v : Nat} (hv : v < n) : ps[v]? = some (parOf ps (v : Int)) := by
  have h1 : v < ps.length := by rw [h.1]; exact hv
  rw [parOf, Int.toNat_natCast, List.getElem?_eq_getElem h1]; rfl
end M

set_option maxHeartbeats 4000000 in
set_option maxRecDepth 100000 in
theorem stateCode (A A2 : Option Addr) (xs l : List Int) (c c2 n : Nat) (w : World) (hn : Hid (xs.length = n)) (hc1 : n ≤ c) (hc2 : c ≤ 1000000000000) (ht : Hid (M.isTree xs = true)) (ho : Hid (M.isOrd n l = true)) (h : Ints w w.heap.size A xs) (h2 : Ints w w.heap.size A2 l) (r : Int) (hr : Hid ((if M.grows (M.parents xs) l then 0 else 5) = r)) :
    Calls Try.prog 168 #[.agg #[.slice A n c, .slice A2 n c2]] w fun e w' => e = .returned (.int .i64 r) ∧ Below w.heap.size w w' := by
  have hxl := M.tree_len ht.out
  rw [hn.out] at hxl
  have h24 := hxl.2
  have h1 := hxl.1
  have Hl := Lib.hid (M.isOrd_iff.1 ho.out).1
  obtain ⟨d0, d1⟩ := order_cells w (.slice A n c) (.slice A2 n c2) 96
  have hB0 := Lib.hid (bal (b0 w) (.cells #[.slice A n c, .slice A2 n c2] 96))
  obtain ⟨W, hW⟩ : ∃ W, W = w.alloc (.cells #[.slice A n c, .slice A2 n c2] 96) := ⟨_, rfl⟩
  have H1 := Lib.hid (h.al (.cells #[.slice A n c, .slice A2 n c2] 96))
  have H2 := Lib.hid (h2.al (.cells #[.slice A n c, .slice A2 n c2] 96))
  rw [← hW] at d0 d1 hB0 H1 H2
  have hL : ∀ X, Hid (Below W.heap.size W X) → Calls Try.prog 105 #[.slice A2 n c2] X fun e w' => ∃ g, e = .returned (.slice (some ⟨g, 0, none⟩) n n) ∧ Hid (Own64 w' W.heap.size (.slice (some ⟨g, 0, none⟩) n n) (M.labs n l)) ∧ Hid (Below W.heap.size W w') := fun X hX =>
    (labelsIn A2 l n c2 X h24 ho Hl (H2.out.be hX.out)).mono fun e w' ⟨he, ho, hb⟩ => ⟨_, he, own_mono ho hX.out.size, btr hX.out hb⟩
  have hP : ∀ X, Hid (Below W.heap.size W X) → Calls Try.prog 106 #[.slice A n c] X fun e w' => ∃ A' c' ps, e = .returned (.slice A' n c') ∧ Hid (M.ParsOK xs ps) ∧ Hid (Own64 w' W.heap.size (.slice A' n c') ps) ∧ Hid (Below X.heap.size X w') ∧ Hid (Below W.heap.size W w') := fun X hX => by
    have := (callsIn_wide (n := 5)).1 (parentsIn_in A xs c X (by rw [hn.out]; exact hc1) hc2 ht (H1.out.be hX.out))
    rw [hn.out] at this
    exact this.mono fun e w' ⟨A', c', ps, he, hk, ho, hb⟩ => ⟨A', c', ps, he, hk, own_mono ho hX.out.size, hb, btr hX.out hb⟩
  have HL := Lib.hid hL
  have HP := Lib.hid hP
  clear hL hP h h2 hxl
  go_enter Try.func168, Try.ntmps168
  go_wp2_with fail
  rw [← hW]
  clear hW
  have K0 : Hid (Below W.heap.size W W.drew) := (Below.refl _ _).drew
  have e0 : W.drew.cell? ⟨w.heap.size, 0, none⟩ = some (.slice A n c) := d0
  have e1 : W.drew.cell? ⟨w.heap.size, 1, none⟩ = some (.slice A2 n c2) := d1
  go_region_held3 (fun w' => w'.cell? ⟨w.heap.size, 0, none⟩ = some (.slice A n c) ∧ w'.cell? ⟨w.heap.size, 1, none⟩ = some (.slice A2 n c2) ∧ Hid (Below W.heap.size W w')) (first | exact ⟨e0, e1, K0⟩ | exact ⟨cellOf_be d0 (Hid.out (by assumption)), cellOf_be d1 (Hid.out (by assumption)), by assumption⟩) (first | (go_at_call 105; refine (HL.out _ (by assumption)).mono ?_; rintro e w4 ⟨g4, rfl, ho4, hb4⟩) | (go_at_call 106; refine (HP.out _ (by assumption)).mono ?_; rintro e w5 ⟨A5, c5, ps, rfl, hok, ho5, hbX, hb5⟩))
  have hpar := Lib.hid (M.parents_of ht.out hok.out)
  rw [hn.out] at hpar
  have hps := Lib.hid (M.parents_eq ht.out hok.out)
  have Hg := Lib.hid (own_be ho4.out hbX.out)
  have Hp := Lib.hid (ints_of_own64 ho5.out)
  have hpl : Hid (ps.length = n) := by show _ = _; rw [hok.out.1, hn.out]
  have hB := Lib.hid (btr hB0.out hb5.out)
  have hst := Lib.hid (M.labOK_start n ps l)
  rw [hps.out] at hr
  clear HL HP K0 e0 e1 hb4 hb5 hbX ho4 ho5 d0 d1 H1 H2 hB0 hok hps
  go_wp2
  go_loopw [5] (fun i wr => ∃ (k : Nat), 1 ≤ k ∧ k ≤ n ∧ i = .int .i64 (k : Int) ∧ Hid (M.LabOK n ps l k) ∧ Hid (Below w5.heap.size w5 wr)) (fun i _ => n - (intOf i).toNat)
  case atStart => exact ⟨1, Nat.le_refl _, h1, rfl, hst, Below.refl _ _⟩
  case round =>
    obtain ⟨k, hk1, hk, rfl, hlab, hbr⟩ := hrel
    clear hst
    by_cases hlt : k < n
    · obtain ⟨pb, po, p, e5, hpb, g1, hX⟩ := (Hp.out.be hbr.out).at_ (k := k) (by rw [hpl.out]; exact hlt)
      subst e5
      have hpp : p = M.parOf ps (k : Int) := by have := M.par_at hpar.out hlt; rw [hX.out] at this; injection this
      obtain ⟨q1, q2⟩ := hpar.out.2.2 k hk1 hlt
      rw [← hpp] at q1 q2
      obtain ⟨u, rfl⟩ := Int.eq_ofNat_of_zero_le q1
      have hun : u < n := by omega
      have ck := (own64_cell (own_be Hg.out hbr.out) (by rw [M.labs, M.labTo_len]) (M.labs_at ho.out hlt)).1
      have cu := (own64_cell (own_be Hg.out hbr.out) (by rw [M.labs, M.labTo_len]) (M.labs_at ho.out hun)).1
      have Hpp := Lib.hid hpp
      have hki : (k : Int) < (n : Int) := by omega
      have hk0 : (0 : Int) ≤ (k : Int) := by omega
      have hui : (u : Int) < (n : Int) := by omega
      have hu0 : (0 : Int) ≤ (u : Int) := by omega
      have hbd := Lib.hid hbr.out.drew
      obtain ⟨a, ha⟩ : ∃ a, Hid (l.idxOf (k : Int) = a) := ⟨_, rfl⟩
      obtain ⟨b, hb⟩ : ∃ b, Hid (l.idxOf (u : Int) = b) := ⟨_, rfl⟩
      rw [ha.out] at ck
      rw [hb.out] at cu
      clear hX hpp q1 q2
      by_cases hab : a < b
      · have hR : r = 5 := by
          rw [← hr.out, if_neg]
          intro hg
          have := (M.grows_lab ho.out hpar.out.2.2 hpar.out.2.1).1 hg k hk1 hlt hlt
          rw [← Hpp.out, ha.out, hb.out] at this
          omega
        have hab' : (a : Int) < (b : Int) := by omega
        subst hR
        go_wp2
        go_region
        all_goals
          go_wp2
          go_ret
          exact ⟨rfl, btr hB.out hbd.out⟩
      · have hs := Lib.hid (M.labOK_step hlab.out (by rw [← Hpp.out, ha.out, hb.out]; omega))
        have hab' : ¬ (a : Int) < (b : Int) := by omega
        go_wp2
        go_region
        all_goals
          go_wp2
          go_roundw
          case rel => exact ⟨k + 1, by omega, by omega, by go_num, hs, hbd⟩
          case measure => simp [intOf]; omega
    · obtain rfl : k = n := by omega
      have hR : r = 0 := by
        rw [← hr.out, if_pos ((M.grows_lab ho.out hpar.out.2.2 hpar.out.2.1).2 hlab.out)]
      subst hR
      have hge : ¬ (k : Int) < (k : Int) := by omega
      go_wp2
      go_ret
      exact ⟨rfl, btr hB.out hbr.out⟩
end Go.Proofs.Ytkcldfliiagloaa

/- l09Growing and l09Code: whether a list of all nodes is a growing order, and the code, as the model says it. Written by genq.py. -/
namespace Go.Proofs.Ytkcldfliiagloaa
open Go.RowKit

set_option maxHeartbeats 4000000 in
set_option maxRecDepth 100000 in
theorem l09Growing (A A2 : Option Addr) (xs l : List Int) (n c c2 : Nat) (w : World) (hn : Hid (xs.length = n)) (ht : Hid (M.isTree xs = true)) (ho : Hid (M.isOrd n l = true)) (h : Ints w w.heap.size A xs) (h2 : Ints w w.heap.size A2 l) (r : Bool) (hr : Hid (M.grows (M.parents xs) l = r)) :
    Calls Try.prog 166 #[.agg #[.slice A n c], .slice A2 n c2] w fun e w' => e = .returned (.bool r) ∧ Below w.heap.size w w' := by
  have hxl := M.tree_len ht.out
  rw [hn.out] at hxl
  have h24 := hxl.2
  have h1 := hxl.1
  have Hl := Lib.hid (M.isOrd_iff.1 ho.out).1
  have hmk := fun W => run_make_row' (P := Try.prog) (w := W) 91 4 (.bool false) 1 Try.underlying91 infoB rfl .i64 .i64 n (by omega) (by omega)
  have cT0 : Hid ((w.alloc (.cells #[.slice A n c] 28)).cell? ⟨w.heap.size, 0, none⟩ = some (.slice A n c)) := by simp [Hid, go_sem]
  have hB0 := Lib.hid (bal (b0 w) (.cells #[.slice A n c] 28))
  have H1 := Lib.hid (h.al (.cells #[.slice A n c] 28))
  have H2 := Lib.hid h2
  obtain ⟨W, hW⟩ : ∃ W, W = w.alloc (.cells #[.slice A n c] 28) := ⟨_, rfl⟩
  rw [← hW] at cT0 hB0 H1
  have hP : ∀ X, Hid (Below W.heap.size W X) → Calls Try.prog 103 #[.agg #[.slice A n c]] X fun e w' => ∃ A' c' ps, e = .returned (.slice A' n c') ∧ Hid (M.ParsOK xs ps) ∧ Hid (Ints w' w'.heap.size A' ps) ∧ Hid (Below W.heap.size W w') := fun X hX => by
    have := l01Parents A xs c X ht (H1.out.be hX.out)
    rw [hn.out] at this
    exact this.mono fun e w' ⟨A', c', ps, he, hk, ho, hb⟩ => ⟨A', c', ps, he, hk, ints_of_own64 ho, btr hX.out hb⟩
  have HP := Lib.hid hP
  clear h h2 hxl hP
  go_enter Try.func166, Try.ntmps166
  go_wp2_with fail
  rw [← hW]
  clear hW
  have K0 : Hid (Below W.heap.size W W.drew) := (Below.refl _ _).drew
  have u0 : W.drew.cell? ⟨w.heap.size, 0, none⟩ = some (.slice A n c) := cT0.out
  refine wp_region_held_drew (S := (fun w' => w'.cell? ⟨w.heap.size, 0, none⟩ = some (.slice A n c) ∧ Hid (Below W.heap.size W w'))) (by kernel_rfl) (by exact ⟨u0, K0⟩) (fun hHeld0 => ?_)
  refine anyTake 0 (some 9) (.agg #[.slice A n c]) rfl rfl (by kernel_rfl) (by kernel_rfl) (by kernel_rfl) (fun _ _ _ h => h) (by rfl) (by intro w hSw; (try dsimp only at hSw); go_simp) (by assumption) ?_
  try simp only [Act.put, List.setIfInBounds_toArray, List.set_cons_zero, List.set_cons_succ]
  refine anyTake 2 (some 11) (.agg #[.slice A n c]) rfl rfl (by kernel_rfl) (by kernel_rfl) (by kernel_rfl) (fun _ _ _ h => h) (by rfl) (by intro w hSw; (try dsimp only at hSw); go_simp) (by assumption) ?_
  try simp only [Act.put, List.setIfInBounds_toArray, List.set_cons_zero, List.set_cons_succ]
  refine wpAnyH_ready (rs := [1]) (by kernel_rfl) (by simp) ?_
  refine AllReadyH.cons rfl (fun K hK => ?_) AllReadyH.nil
  go_simp
  go_at_call 103
  refine (HP.out _ (by exact hHeld0.2)).mono ?_
  rintro e w3 ⟨A3, c3, ps, rfl, hok, hI3, hb3⟩
  go_wp2_with fail
  refine hK.out _ _ (by exact ⟨cell_be cT0.out (Hid.out (by assumption)), by assumption⟩) (fun hHeld => ?_)
  clear hK K
  try simp only [Act.put, List.setIfInBounds_toArray, List.set_cons_zero, List.set_cons_succ]
  clear hHeld0
  have hHeld0 := hHeld
  clear hHeld
  refine wpAnyH_ready (rs := [3]) (by kernel_rfl) (by simp) ?_
  refine AllReadyH.cons rfl (fun K hK => ?_) AllReadyH.nil
  go_simp
  go_at_call 96
  refine (l01N A n c _).mono ?_
  rintro e w4 ⟨rfl, hb4⟩
  have hb4' : Hid (Below W.heap.size W w4) := btr hb3.out hb4
  go_wp2_with fail
  refine hK.out _ _ (by exact ⟨cell_be cT0.out (Hid.out (by assumption)), by assumption⟩) (fun hHeld => ?_)
  clear hK K
  try simp only [Act.put, List.setIfInBounds_toArray, List.set_cons_zero, List.set_cons_succ]
  clear hHeld0
  have hHeld0 := hHeld
  clear hHeld
  refine anyTake 5 (some 5) (.slice A3 n c3) rfl rfl (by kernel_rfl) (by kernel_rfl) (by kernel_rfl) (fun _ _ _ h => h) (by rfl) (by intro w hSw; (try dsimp only at hSw); go_simp) (by assumption) ?_
  try simp only [Act.put, List.setIfInBounds_toArray, List.set_cons_zero, List.set_cons_succ]
  have hPz : Hid (ps[0]? = some (-1 : Int)) := hok.out.2.1
  have hmk4 := hmk w4
  refine wpAnyH_ready (rs := [4]) (by kernel_rfl) (by simp) ?_
  refine AllReadyH.cons rfl (fun K hK => ?_) AllReadyH.nil
  go_simp
  have hb5' : Hid (Below W.heap.size W (w4.alloc (.cells (madeCells #[.bool false] n) 4))) := bal hb4'.out _
  refine hK.out _ _ ⟨cell_be cT0.out (Hid.out hb5'), hb5'⟩ (fun hHeld => ?_)
  clear hK K
  try simp only [Act.put, List.setIfInBounds_toArray, List.set_cons_zero, List.set_cons_succ]
  clear hHeld0
  have hHeld0 := hHeld
  clear hHeld
  refine anyTake 6 (some 6) (.slice (some ⟨w4.heap.size, 0, none⟩) n n) rfl rfl (by kernel_rfl) (by kernel_rfl) (by kernel_rfl) (fun _ _ _ h => h) (by rfl) (by intro w hSw; (try dsimp only at hSw); go_simp) (by assumption) ?_
  try simp only [Act.put, List.setIfInBounds_toArray, List.set_cons_zero, List.set_cons_succ]
  refine wpAnyH_done (by kernel_rfl) ?_ _
  have hpar := Lib.hid (M.parents_of ht.out hok.out)
  rw [hn.out] at hpar
  have hps := Lib.hid (M.parents_eq ht.out hok.out)
  rw [hps.out] at hr
  have hpl : Hid (ps.length = n) := by show _ = _; rw [hok.out.1, hn.out]
  have HI := Lib.hid (hI3.out.be hb4)
  have hBW := Lib.hid (btr hB0.out (btr hb3.out hb4))
  have hzz : w.heap.size ≤ w4.heap.size := hBW.out.size
  have Hm := Lib.hid (ownB_made (w := w4) (B := w.heap.size) (n := n) hzz (by unfold maxLen; omega))
  rw [show List.replicate n false = M.metRow n l 0 from (M.metRow_zero n l).symm] at Hm
  have hb5 := Lib.hid (bal (b0 w4) (.cells (madeCells #[.bool false] n) 4))
  have hst : Hid (M.GrowTo ps l 0) := M.growTo_zero ps l
  clear cT0 hB0 H1 HP K0 u0 hHeld0 hb3 hb4 hI3 hok hps hmk hmk4
  go_wp2
  obtain ⟨g, hg⟩ : ∃ g, g = w4.heap.size := ⟨_, rfl⟩
  rw [← hg] at Hm ⊢
  have hgz : w4.heap.size ≤ g := Nat.le_of_eq hg.symm
  clear hg
  go_loopw [7, 8] (fun qi _ wr => ∃ (k : Nat), k ≤ n ∧ qi = .int .i64 (k : Int) ∧ Hid (M.GrowTo ps l k) ∧ Hid (OwnB wr w.heap.size (.slice (some ⟨g, 0, none⟩) n n) (M.metRow n l k)) ∧ Hid (Below w4.heap.size w4 wr)) (fun qi _ _ => n - (intOf qi).toNat)
  case atStart => exact ⟨0, Nat.zero_le _, rfl, hst, Hm, hb5⟩
  case round =>
    obtain ⟨k, hk, rfl, hT, hm, hbr⟩ := hrel
    clear hst Hm hb5
    by_cases hlt : k < n
    · have hbw := Lib.hid (btr hBW.out hbr.out)
      obtain ⟨b, off, x, rfl, hbl, g1, hX⟩ := (H2.out.below hbw.out (Nat.le_refl _)).at_ (k := k) (by rw [Hl.out]; exact hlt)
      have hx := (M.isOrd_iff.1 ho.out).2.2 x (List.mem_of_getElem? hX.out)
      obtain ⟨v, rfl⟩ := Int.eq_ofNat_of_zero_le hx.1
      have hvn : v < n := by omega
      obtain ⟨pb, po, p, rfl, hpb, g2, hPv⟩ := (HI.out.be hbr.out).at_ (k := v) (by rw [hpl.out]; exact hvn)
      have hpp : Hid (M.parOf ps (v : Int) = p) := by have := M.par_at hpar.out hvn; rw [hPv.out] at this; injection this with this; exact this.symm
      have hki : (k : Int) < (n : Int) := by omega
      have hk0 : (0 : Int) ≤ (k : Int) := by omega
      have hv0 : (0 : Int) ≤ (v : Int) := by omega
      have hvi : (v : Int) < (n : Int) := by omega
      have hp24 : -1 ≤ p ∧ p < (n : Int) := by
        rcases Nat.eq_zero_or_pos v with e | e
        · subst e
          have h0 := hpar.out.2.1
          have := hpp.out
          have h3 : M.parOf ps ((0 : Nat) : Int) = M.parOf ps 0 := rfl
          have h4 : ps[0]? = some (-1 : Int) := hPz.out
          rw [hPv.out] at h4
          injection h4 with h4
          omega
        · have := hpar.out.2.2 v e hvn
          rw [hpp.out] at this
          omega
      have hmv := M.metRow_at (l := l) (k := k) hvn
      obtain ⟨m1, m2, hgb, hgl⟩ := ownB_cell hm.out (M.metRow_len n l k) hmv
      have hms := Lib.hid (M.metRow_step (n := n) hX.out)
      have hset := Lib.hid (ownB_set hm.out (M.metRow_len n l k) v true)
      rw [hms.out] at hset
      have hbS := Lib.hid (below_setCell hbr.out hgz (k := v) (.bool true))
      clear hmv hPv hms
      by_cases hp0 : p < 0
      · have hs := Lib.hid (M.growTo_step hT.out hX.out (.inl (by rw [hpp.out]; exact hp0)))
        have hd : decide ((0 : Int) ≤ p) = false := decide_eq_false (by omega)
        have hd1 : ¬ (0 : Int) ≤ p := by omega
        clear hT hm hX hx
        go_wp2
        go_roundw
        case rel => exact ⟨k + 1, by omega, by go_num, hs, hset, hbS⟩
        case measure => simp [intOf]; omega
      · have hd : (0 : Int) ≤ p := by omega
        obtain ⟨u, rfl⟩ := Int.eq_ofNat_of_zero_le hd
        have hun : u < n := by omega
        have hui : (u : Int) < (n : Int) := by omega
        obtain ⟨q, hq⟩ : ∃ q, Hid (decide ((u : Int) ∈ l.take k) = q) := ⟨_, rfl⟩
        have hmu := M.metRow_at (l := l) (k := k) hun
        rw [hq.out] at hmu
        obtain ⟨n1, n2, _, _⟩ := ownB_cell hm.out (M.metRow_len n l k) hmu
        clear hmu hp0
        cases q
        · have hni : (u : Int) ∉ l.take k := of_decide_eq_false hq.out
          have hR : r = false := by rw [← hr.out]; exact M.grows_not hX.out (by rw [hpp.out]; exact hd) (by rw [hpp.out]; exact hni)
          subst hR
          clear hT hm hX hx hni hset hbS
          go_wp2
          go_ret
          exact ⟨rfl, hbw.out⟩
        · have hs := Lib.hid (M.growTo_step hT.out hX.out (.inr (by rw [hpp.out]; exact of_decide_eq_true hq.out)))
          clear hT hm hX hx
          go_wp2
          go_roundw
          case rel => exact ⟨k + 1, by omega, by go_num, hs, hset, hbS⟩
          case measure => simp [intOf]; omega
    · obtain rfl : k = n := by omega
      have hge : ¬ (k : Int) < (k : Int) := by omega
      have hR : r = true := by rw [← hr.out]; exact M.grows_iff.2 (by rw [Hl.out]; exact hT.out)
      subst hR
      go_wp2
      go_ret
      exact ⟨rfl, btr hBW.out hbr.out⟩
end Go.Proofs.Ytkcldfliiagloaa

/- codeBy: the code of the first step that finds something wrong. -/
namespace Go.Proofs.Ytkcldfliiagloaa
open Go.RowKit

namespace M
def firstCode : List Int → Int
  | [] => 0
  | r :: t => if r = 0 then firstCode t else r
theorem firstCode_drop {cs : List Int} {k : Nat} {r : Int} (h : cs[k]? = some r) : firstCode (cs.drop k) = if r = 0 then firstCode (cs.drop (k + 1)) else r := by
  obtain ⟨h1, h2⟩ := List.getElem?_eq_some_iff.1 h
  rw [List.drop_eq_getElem_cons h1, h2]; rfl
end M

def isStep (f : Nat) : Prop := f = 97 ∨ f = 167 ∨ f = 168 ∨ f = 91

set_option maxHeartbeats 4000000 in
set_option maxRecDepth 100000 in
theorem codeBy (A A2 : Option Addr) (n c m c2 g len cap : Nat) (fs : List Nat) (cs : List Int) (w : World) (h4 : len ≤ 4) (hlen : Hid (fs.length = len)) (hcl : Hid (cs.length = len)) (hg : g < w.heap.size) (hcells : Hid (∀ j f, fs[j]? = some f → w.cell? ⟨g, j, none⟩ = some (.func (.func f) #[] #[]))) (hfs : Hid (∀ f ∈ fs, isStep f))
    (H : Hid (∀ j f r, fs[j]? = some f → cs[j]? = some r → (∀ i : Nat, i < j → cs[i]? = some (0 : Int)) → ∀ X, Hid (Below w.heap.size w X) → Calls Try.prog f #[.agg #[.slice A n c, .slice A2 m c2]] X fun e w' => e = .returned (.int .i64 r) ∧ Below X.heap.size X w')) (r : Int) (hr : Hid (M.firstCode cs = r)) :
    Calls Try.prog 89 #[.agg #[.slice A n c, .slice A2 m c2], .slice (some ⟨g, 0, none⟩) len cap] w fun e w' => e = .returned (.int .i64 r) ∧ Below w.heap.size w w' := by
  obtain ⟨d0, d1⟩ := order_cells w (.slice A n c) (.slice A2 m c2) 96
  have hB0 := Lib.hid (bal (b0 w) (.cells #[.slice A n c, .slice A2 m c2] 96))
  obtain ⟨W, hW⟩ : ∃ W, W = w.alloc (.cells #[.slice A n c, .slice A2 m c2] 96) := ⟨_, rfl⟩
  rw [← hW] at d0 d1 hB0
  have hst : Hid (M.firstCode (cs.drop 0) = r) := by rw [List.drop_zero]; exact hr
  have hst2 : Hid (∀ i : Nat, i < 0 → cs[i]? = some (0 : Int)) := fun i hi => by omega
  clear hr
  go_enter Try.func89, Try.ntmps89
  go_wp2
  rw [← hW]
  clear hW
  go_loopw [6, 7, 10] (fun _ _ i wr => ∃ (k : Nat), k ≤ len ∧ i = .int .i64 (k : Int) ∧ Hid (M.firstCode (cs.drop k) = r) ∧ Hid (∀ i : Nat, i < k → cs[i]? = some (0 : Int)) ∧ Hid (Below W.heap.size W wr)) (fun _ _ i _ => len - (intOf i).toNat)
  case atStart => exact ⟨0, Nat.zero_le _, rfl, hst, hst2, Below.refl _ _⟩
  case round =>
    obtain ⟨k, hk, rfl, hF, hZ, hbr⟩ := hrel
    clear hst hst2
    have c0 := cellOf_be d0 hbr.out
    have c1 := cellOf_be d1 hbr.out
    by_cases hlt : k < len
    · obtain ⟨f, hf⟩ : ∃ f, fs[k]? = some f := ⟨_, List.getElem?_eq_getElem (by rw [hlen.out]; exact hlt)⟩
      obtain ⟨q, hq⟩ : ∃ q, cs[k]? = some q := ⟨_, List.getElem?_eq_getElem (by rw [hcl.out]; exact hlt)⟩
      have hbw := btr hB0.out hbr.out
      have cf : wr.cell? ⟨g, k, none⟩ = some (.func (.func f) #[] #[]) := (hbw.cell (p := ⟨g, k, none⟩) hg).trans (hcells.out k f hf)
      have hfd := M.firstCode_drop hq
      rw [hF.out] at hfd
      have HC := Lib.hid (H.out k f q hf hq hZ.out wr hbw)
      have hki : (k : Int) < (len : Int) := by omega
      have hk0 : (0 : Int) ≤ (k : Int) := by omega
      have hstep := hfs.out f (List.mem_of_getElem? hf)
      have Hq := Lib.hid hq
      by_cases hq0 : q = 0
      · subst hq0
        have hF2 : Hid (M.firstCode (cs.drop (k + 1)) = r) := by rw [if_pos rfl] at hfd; exact hfd.symm
        have hZ2 : Hid (∀ i : Nat, i < k + 1 → cs[i]? = some (0 : Int)) := fun i hi => by
          rcases Nat.lt_or_ge i k with h | h
          · exact hZ.out i h
          · obtain rfl : i = k := by omega
            exact Hq.out
        clear hfd hf hq hbw hF hZ
        rcases hstep with e | e | e | e
        all_goals
          subst e
          go_wp2_with fail
          refine HC.out.mono ?_
          rintro e w3 ⟨rfl, hb⟩
          have hb3 := Lib.hid (btr hbr.out hb)
          clear hb HC cf
          go_wp2
          go_roundw
          case rel => exact ⟨k + 1, by omega, by go_num, hF2, hZ2, hb3⟩
          case measure => simp [intOf]; omega
      · have hqr : q = r := by rw [if_neg hq0] at hfd; exact hfd.symm
        have hq1 : (q != 0) = true := by simpa using hq0
        subst hqr
        clear hfd hf hq hbw hF hZ
        rcases hstep with e | e | e | e
        all_goals
          subst e
          go_wp2_with fail
          refine HC.out.mono ?_
          rintro e w3 ⟨rfl, hb⟩
          have hb3 := Lib.hid (btr hbr.out hb)
          clear hb HC cf
          go_wp2
          go_ret
          exact ⟨rfl, btr hB0.out hb3.out⟩
    · obtain rfl : k = len := by omega
      have hge : ¬ (k : Int) < (k : Int) := by omega
      have hR : (0 : Int) = r := by rw [← hF.out, List.drop_of_length_le (by rw [hcl.out]; exact Nat.le_refl _)]; rfl
      subst hR
      go_wp2
      go_ret
      exact ⟨rfl, btr hB0.out hbr.out⟩

namespace M
/-- the codes of the checks of a tree, a list of all its nodes, and a growing order -/
noncomputable def codes3 (xs l : List Int) : List Int := [if isTree xs then 0 else 1, if isOrd xs.length l then 0 else 2, if grows (parents xs) l then 0 else 5]
def gcode2 (xs l : List Int) : Int := if isTree xs then (if isOrd xs.length l then 0 else 2) else 1
noncomputable def gcode (xs l : List Int) : Int := if gcode2 xs l = 0 then (if grows (parents xs) l then 0 else 5) else gcode2 xs l
theorem gcode2_first (xs l : List Int) : firstCode ((codes3 xs l).take 2) = gcode2 xs l := by
  simp only [codes3, gcode2, List.take, firstCode]
  cases isTree xs <;> cases isOrd xs.length l <;> simp
theorem gcode_first (xs l : List Int) : firstCode (codes3 xs l) = gcode xs l := by
  simp only [codes3, gcode, gcode2, firstCode]
  rcases Bool.eq_false_or_eq_true (isTree xs) with ht | ht <;> rcases Bool.eq_false_or_eq_true (isOrd xs.length l) with ho | ho <;> rcases Bool.eq_false_or_eq_true (grows (parents xs) l) with hg | hg <;> simp [ht, ho, hg]
theorem gcode2_zero {xs l : List Int} (h : gcode2 xs l = 0) : isTree xs = true ∧ isOrd xs.length l = true := by
  simp only [gcode2] at h
  cases ht : isTree xs <;> cases ho : isOrd xs.length l <;> simp [ht, ho] at h ⊢
theorem gcode_zero {xs l : List Int} (h : gcode xs l = 0) : isTree xs = true ∧ isOrd xs.length l = true ∧ grows (parents xs) l = true := by
  simp only [gcode] at h
  by_cases h2 : gcode2 xs l = 0
  · rw [if_pos h2] at h
    obtain ⟨a, b⟩ := gcode2_zero h2
    refine ⟨a, b, ?_⟩
    cases hg : grows (parents xs) l
    · rw [hg] at h; simp at h
    · rfl
  · rw [if_neg h2] at h; exact absurd h h2
end M
def steps3 : List Nat := [97, 167, 168]

theorem steps3_hold (A A2 : Option Addr) (xs l : List Int) (c c2 : Nat) (w : World) (hx : xs.length ≤ 1048576) (hcc : xs.length ≤ c ∧ c ≤ 1000000000000) (h : Hid (Ints w w.heap.size A xs)) (h2 : Hid (Ints w w.heap.size A2 l)) :
    ∀ j f r, steps3[j]? = some f → (M.codes3 xs l)[j]? = some r → (∀ i : Nat, i < j → (M.codes3 xs l)[i]? = some (0 : Int)) → ∀ X, Hid (Below w.heap.size w X) → Calls Try.prog f #[.agg #[.slice A xs.length c, .slice A2 l.length c2]] X fun e w' => e = .returned (.int .i64 r) ∧ Below X.heap.size X w' := by
  intro j f r hf hr hz X hX
  have hT : 0 < j → M.isTree xs = true := fun hj => by
    have := hz 0 hj
    simp only [M.codes3, List.getElem?_cons_zero, Option.some.injEq] at this
    cases ht : M.isTree xs
    · rw [ht] at this; simp at this
    · rfl
  have hO : 1 < j → M.isOrd xs.length l = true := fun hj => by
    have := hz 1 hj
    simp only [M.codes3, List.getElem?_cons_succ, List.getElem?_cons_zero, Option.some.injEq] at this
    cases ht : M.isOrd xs.length l
    · rw [ht] at this; simp at this
    · rfl
  match j with
  | 0 =>
    simp only [steps3, M.codes3, List.getElem?_cons_zero, Option.some.injEq] at hf hr
    subst hf
    exact treeCode A A2 xs c l.length c2 X (by omega) (h.out.be hX.out) r hr
  | 1 =>
    simp only [steps3, M.codes3, List.getElem?_cons_succ, List.getElem?_cons_zero, Option.some.injEq] at hf hr
    subst hf
    have hl := M.tree_len (hT (by omega))
    exact listCode A A2 l c c2 xs.length X hl.1 hl.2 (h2.out.be hX.out) r hr
  | 2 =>
    simp only [steps3, M.codes3, List.getElem?_cons_succ, List.getElem?_cons_zero, Option.some.injEq] at hf hr
    subst hf
    have ho := hO (by omega)
    have hl := (M.isOrd_iff.1 ho).1
    have := stateCode A A2 xs l c c2 xs.length X rfl hcc.1 hcc.2 (hT (by omega)) ho (h.out.be hX.out) (h2.out.be hX.out) r hr
    rw [hl]
    exact this
  | j + 3 => simp [steps3] at hf

/-- the codes of two or of all three steps, the list of the steps lying in memory -/
theorem codeThree (A A2 : Option Addr) (xs l : List Int) (c c2 g len : Nat) (w : World) (hx : xs.length ≤ 1048576) (hcc : xs.length ≤ c ∧ c ≤ 1000000000000) (h : Hid (Ints w w.heap.size A xs)) (h2 : Hid (Ints w w.heap.size A2 l)) (hl : len = 2 ∨ len = 3) (hg : g < w.heap.size)
    (hcells : Hid (∀ j f, (steps3.take len)[j]? = some f → w.cell? ⟨g, j, none⟩ = some (.func (.func f) #[] #[]))) (r : Int) (hr : Hid (M.firstCode ((M.codes3 xs l).take len) = r)) :
    Calls Try.prog 89 #[.agg #[.slice A xs.length c, .slice A2 l.length c2], .slice (some ⟨g, 0, none⟩) len len] w fun e w' => e = .returned (.int .i64 r) ∧ Below w.heap.size w w' := by
  refine codeBy A A2 xs.length c l.length c2 g len len (steps3.take len) ((M.codes3 xs l).take len) w (by omega) ?_ ?_ hg hcells ?_ ?_ r hr
  · rcases hl with e | e <;> subst e <;> rfl
  · rcases hl with e | e <;> subst e <;> rfl
  · intro f hf
    have := List.mem_of_mem_take hf
    simp only [steps3, List.mem_cons, List.not_mem_nil, or_false] at this
    rcases this with e | e | e
    · exact .inl e
    · exact .inr (.inl e)
    · exact .inr (.inr (.inl e))
  · intro j f q hf hq hz X hX
    have hj : j < len := by
      have := (List.getElem?_eq_some_iff.1 hf).1
      rw [List.length_take] at this
      omega
    rw [List.getElem?_take_of_lt hj] at hf hq
    exact steps3_hold A A2 xs l c c2 w hx hcc h h2 j f q hf hq (fun i hi => by have := hz i hi; rwa [List.getElem?_take_of_lt (by omega)] at this) X hX
end Go.Proofs.Ytkcldfliiagloaa

/- l09Code: the code of a tree and a growing order, as the model says it. -/
namespace Go.Proofs.Ytkcldfliiagloaa
open Go.RowKit

namespace M
theorem gcode_t {xs l : List Int} (h : isTree xs = false) : gcode xs l = 1 ∧ gcode2 xs l = 1 := by simp [gcode, gcode2, h]
theorem gcode_o {xs l : List Int} (h : isTree xs = true) (ho : isOrd xs.length l = false) : gcode xs l = 2 ∧ gcode2 xs l = 2 := by simp [gcode, gcode2, h, ho]
theorem gcode_g {xs l : List Int} (h : isTree xs = true) (ho : isOrd xs.length l = true) : gcode xs l = (if grows (parents xs) l then 0 else 5) ∧ gcode2 xs l = 0 := by simp [gcode, gcode2, h, ho]
end M

set_option maxHeartbeats 4000000 in
set_option maxRecDepth 100000 in
theorem l09Code (A A2 : Option Addr) (xs l : List Int) (c c2 : Nat) (w : World) (hx : xs.length ≤ 1048576) (hl : l.length ≤ 1048576) (h : Ints w w.heap.size A xs) (h2 : Ints w w.heap.size A2 l) :
    Calls Try.prog 84 #[.agg #[.slice A xs.length c], .slice A2 l.length c2] w fun e w' => e = .returned (.int .i64 (M.gcode xs l)) ∧ Below w.heap.size w w' := by
  have cT0 : Hid ((w.alloc (.cells #[.slice A xs.length c] 28)).cell? ⟨w.heap.size, 0, none⟩ = some (.slice A xs.length c)) := by simp [Hid, go_sem]
  have hB0 := Lib.hid (bal (b0 w) (.cells #[.slice A xs.length c] 28))
  have hI1 := specIs A xs c (w.alloc (.cells #[.slice A xs.length c] 28)) (by omega) (h.al _)
  cases ht : M.isTree xs
  · rw [(M.gcode_t ht).1]
    rw [ht] at hI1
    have HI := Lib.hid hI1
    clear hI1 ht h h2
    go_enter Try.func84, Try.ntmps84
    go_wp2_with fail
    refine HI.out.mono ?_
    rintro e w1 ⟨rfl, hb⟩
    have hB1 := Lib.hid (btr hB0.out hb)
    go_wp2
    go_ret
    exact ⟨rfl, hB1.out⟩
  · rw [ht] at hI1
    have HI := Lib.hid hI1
    have Ht := Lib.hid ht
    have hlen := M.tree_len ht
    have hO := fun W (hb : Below w.heap.size w W) => l09Order A A2 l xs.length c l.length c2 W hlen.2 rfl hl (h2.be hb)
    have Ha := Lib.hid h
    have Hb := Lib.hid h2
    obtain ⟨q, hq⟩ : ∃ q, Hid (M.isOrd xs.length l = q) := ⟨_, rfl⟩
    rw [hq.out] at hO
    have HO := Lib.hid hO
    clear hI1 ht h h2 hO
    cases q
    · rw [(M.gcode_o Ht.out hq.out).1]
      go_enter Try.func84, Try.ntmps84
      go_wp2_with fail
      refine HI.out.mono ?_
      rintro e w1 ⟨rfl, hb⟩
      have hB1 := Lib.hid (btr hB0.out hb)
      have cT1 := cell_be cT0.out hb
      clear hb HI
      go_wp2_with fail
      refine (HO.out _ hB1.out).mono ?_
      rintro e w2 ⟨rfl, hb⟩
      have hB2 := Lib.hid (btr hB1.out hb)
      go_wp2
      go_ret
      exact ⟨rfl, hB2.out⟩
    · rw [(M.gcode_g Ht.out hq.out).1]
      obtain ⟨r, hr⟩ : ∃ r, Hid (M.grows (M.parents xs) l = r) := ⟨_, rfl⟩
      have hll := (M.isOrd_iff.1 hq.out).1
      have hG := fun W (hb : Below w.heap.size w W) => l09Growing A A2 xs l xs.length c c2 W rfl Ht hq (Ha.out.be hb) (Hb.out.be hb) r hr
      rw [← hll] at hG
      have hG' : ∀ W, Below w.heap.size w W → Calls Try.prog 166 #[.agg #[.slice A xs.length c], .slice A2 l.length c2] W fun e w' => e = .returned (.bool r) ∧ Below W.heap.size W w' := by rw [← hll]; exact hG
      have HG := Lib.hid hG'
      rw [hr.out]
      clear hll hG hG'
      go_enter Try.func84, Try.ntmps84
      go_wp2_with fail
      refine HI.out.mono ?_
      rintro e w1 ⟨rfl, hb⟩
      have hB1 := Lib.hid (btr hB0.out hb)
      have cT1 := cell_be cT0.out hb
      clear hb HI
      go_wp2_with fail
      refine (HO.out _ hB1.out).mono ?_
      rintro e w2 ⟨rfl, hb⟩
      have hB2 := Lib.hid (btr hB1.out hb)
      have cT2 := cell_be cT1 hb
      clear hb HO
      go_wp2_with fail
      refine (HG.out _ hB2.out).mono ?_
      rintro e w3 ⟨rfl, hb⟩
      have hB3 := Lib.hid (btr hB2.out hb)
      clear hb HG
      cases r
      · go_wp2
        go_ret
        exact ⟨rfl, hB3.out⟩
      · go_wp2
        go_ret
        exact ⟨rfl, hB3.out⟩
end Go.Proofs.Ytkcldfliiagloaa

/- orderSteps; the code of a growing order by all its steps, or by the first two, as a contract for any world. -/
namespace Go.Proofs.Ytkcldfliiagloaa
open Go.RowKit

/-- the first ones of the three steps lie in a block -/
def StepsIn (W : World) (g len : Nat) : Prop := g < W.heap.size ∧ ∀ j f, (steps3.take len)[j]? = some f → W.cell? ⟨g, j, none⟩ = some (.func (.func f) #[] #[])

theorem orderSteps (w : World) : Calls Try.prog 90 #[] w fun e w' => ∃ g, e = .returned (.slice (some ⟨g, 0, none⟩) 3 3) ∧ Hid (StepsIn w' g 3) ∧ Below w.heap.size w w' := by
  have hS : Hid (StepsIn (w.alloc (.cells #[.func (.func 97) #[] #[], .func (.func 167) #[] #[], .func (.func 168) #[] #[]] 180)) w.heap.size 3) := by
    refine ⟨by simp, fun j f hf => ?_⟩
    rw [World.cell?_alloc_new]
    match j with
    | 0 => simp [steps3] at hf; subst hf; rfl
    | 1 => simp [steps3] at hf; subst hf; rfl
    | 2 => simp [steps3] at hf; subst hf; rfl
    | j + 3 => simp [steps3] at hf
  have hb := bal (b0 w) (.cells #[.func (.func 97) #[] #[], .func (.func 167) #[] #[], .func (.func 168) #[] #[]] 180)
  go_enter Try.func90, Try.ntmps90
  go_wp2
  go_ret
  exact ⟨_, rfl, hS, hb⟩

theorem steps2_in (w : World) : StepsIn (w.alloc (.cells #[.func (.func 97) #[] #[], .func (.func 167) #[] #[]] 180)) w.heap.size 2 := by
  refine ⟨by simp, fun j f hf => ?_⟩
  rw [World.cell?_alloc_new]
  match j with
  | 0 => simp [steps3] at hf; subst hf; rfl
  | 1 => simp [steps3] at hf; subst hf; rfl
  | j + 2 => simp [steps3] at hf

/-- all three steps -/
theorem codeAll (A A2 : Option Addr) (xs l : List Int) (c c2 g : Nat) (w : World) (hx : xs.length ≤ 1048576) (hcc : xs.length ≤ c ∧ c ≤ 1000000000000) (h : Hid (Ints w w.heap.size A xs)) (h2 : Hid (Ints w w.heap.size A2 l)) (hs : Hid (StepsIn w g 3)) (r : Int) (hr : Hid (M.gcode xs l = r)) :
    Calls Try.prog 89 #[.agg #[.slice A xs.length c, .slice A2 l.length c2], .slice (some ⟨g, 0, none⟩) 3 3] w fun e w' => e = .returned (.int .i64 r) ∧ Below w.heap.size w w' :=
  codeThree A A2 xs l c c2 g 3 w hx hcc h h2 (.inr rfl) hs.out.1 hs.out.2 r (by rw [← hr.out]; exact M.gcode_first xs l)
/-- the first two steps -/
theorem codeTwo (A A2 : Option Addr) (xs l : List Int) (c c2 g : Nat) (w : World) (hx : xs.length ≤ 1048576) (hcc : xs.length ≤ c ∧ c ≤ 1000000000000) (h : Hid (Ints w w.heap.size A xs)) (h2 : Hid (Ints w w.heap.size A2 l)) (hs : Hid (StepsIn w g 2)) (r : Int) (hr : Hid (M.gcode2 xs l = r)) :
    Calls Try.prog 89 #[.agg #[.slice A xs.length c, .slice A2 l.length c2], .slice (some ⟨g, 0, none⟩) 2 2] w fun e w' => e = .returned (.int .i64 r) ∧ Below w.heap.size w w' :=
  codeThree A A2 xs l c c2 g 2 w hx hcc h h2 (.inl rfl) hs.out.1 hs.out.2 r (by rw [← hr.out]; exact M.gcode2_first xs l)

namespace M
noncomputable def ocond (xs l R : List Int) : List Int × Int := if gcode xs l = 0 then (R, 0) else ([], gcode xs l)
theorem ocond_yes {xs l R : List Int} (h : gcode xs l = 0) : ocond xs l R = (R, 0) := by rw [ocond, if_pos h]
theorem ocond_no {xs l R : List Int} (h : gcode xs l ≠ 0) : ocond xs l R = ([], gcode xs l) := by rw [ocond, if_neg h]
end M
end Go.Proofs.Ytkcldfliiagloaa

/- limitCode, and l09Few: whether a tree has few nodes. -/
namespace Go.Proofs.Ytkcldfliiagloaa
open Go.RowKit

namespace M
def fewCode (xs : List Int) : Int := if isTree xs then (if xs.length ≤ 20 then 0 else 3) else 1
def codesF (xs : List Int) : List Int := [if isTree xs then 0 else 1, if xs.length ≤ 20 then 0 else 3]
theorem codesF_first (xs : List Int) : firstCode (codesF xs) = fewCode xs := by
  simp only [codesF, fewCode, firstCode]
  cases isTree xs <;> by_cases h : xs.length ≤ 20 <;> simp [h]
theorem fewCode_zero {xs : List Int} (h : fewCode xs = 0) : isTree xs = true ∧ xs.length ≤ 20 := by
  simp only [fewCode] at h
  cases ht : isTree xs
  · rw [ht] at h; simp at h
  · rw [ht] at h
    by_cases h2 : xs.length ≤ 20
    · exact ⟨rfl, h2⟩
    · simp [h2] at h
end M
set_option maxHeartbeats 1000000 in
theorem limitCode (A A2 : Option Addr) (n c n2 c2 : Nat) (w : World) (r : Int) (hr : Hid ((if n ≤ 20 then 0 else 3) = r)) :
    Calls Try.prog 91 #[.agg #[.slice A n c, .slice A2 n2 c2]] w fun e w' => e = .returned (.int .i64 r) ∧ Below w.heap.size w w' := by
  have hB := Lib.hid (bal (b0 w) (.cells #[.slice A n c, .slice A2 n2 c2] 96))
  obtain ⟨d0, d1⟩ := order_cells w (.slice A n c) (.slice A2 n2 c2) 96
  by_cases h : n ≤ 20
  · have hi : ¬ (20 : Int) < (n : Int) := by omega
    have hR : r = 0 := by rw [← hr.out, if_pos h]
    subst hR
    clear hr
    go_enter Try.func91, Try.ntmps91
    go_wp2
    go_ret
    exact ⟨rfl, hB.out⟩
  · have hi : (20 : Int) < (n : Int) := by omega
    have hR : r = 3 := by rw [← hr.out, if_neg h]
    subst hR
    clear hr
    go_enter Try.func91, Try.ntmps91
    go_wp2
    go_ret
    exact ⟨rfl, hB.out⟩

set_option maxHeartbeats 2000000 in
set_option maxRecDepth 100000 in
theorem l09Few (A : Option Addr) (xs : List Int) (c : Nat) (w : World) (hx : xs.length ≤ 1048576) (h : Ints w w.heap.size A xs) (r : Int) (hr : Hid (M.fewCode xs = r)) :
    Calls Try.prog 85 #[.agg #[.slice A xs.length c]] w fun e w' => e = .returned (.int .i64 r) ∧ Below w.heap.size w w' := by
  have cT0 : Hid ((w.alloc (.cells #[.slice A xs.length c] 28)).cell? ⟨w.heap.size, 0, none⟩ = some (.slice A xs.length c)) := by simp [Hid, go_sem]
  have hB0 := Lib.hid (bal (b0 w) (.cells #[.slice A xs.length c] 28))
  have hI1 := specIs A xs c (w.alloc (.cells #[.slice A xs.length c] 28)) (by omega) (h.al _)
  cases ht : M.isTree xs
  · have hr1 : r = 1 := by rw [← hr.out, M.fewCode, ht]; rfl
    subst hr1
    rw [ht] at hI1
    have HI := Lib.hid hI1
    clear hI1 ht h hr
    go_enter Try.func85, Try.ntmps85
    go_wp2_with fail
    refine HI.out.mono ?_
    rintro e w1 ⟨rfl, hb⟩
    have hB1 := Lib.hid (btr hB0.out hb)
    go_wp2
    go_ret
    exact ⟨rfl, hB1.out⟩
  · have hr1 : Hid ((if xs.length ≤ 20 then 0 else 3) = r) := by show _ = _; rw [← hr.out, M.fewCode, ht]; rfl
    rw [ht] at hI1
    have HI := Lib.hid hI1
    have HN := fun W => Lib.hid (l01N A xs.length c W)
    generalize xs.length = n at *
    clear hI1 ht h hr
    by_cases h20 : n ≤ 20
    · have hi : ¬ (20 : Int) < (n : Int) := by omega
      have hr2 : r = 0 := by rw [← hr1.out, if_pos h20]
      subst hr2
      go_enter Try.func85, Try.ntmps85
      go_wp2_with fail
      refine HI.out.mono ?_
      rintro e w1 ⟨rfl, hb⟩
      have hB1 := Lib.hid (btr hB0.out hb)
      have cT1 := cell_be cT0.out hb
      clear hb HI
      go_wp2_with fail
      refine (HN _).out.mono ?_
      rintro e w2 ⟨rfl, hb⟩
      have hB2 := Lib.hid (btr hB1.out hb)
      go_wp2
      go_ret
      exact ⟨rfl, hB2.out⟩
    · have hi : (20 : Int) < (n : Int) := by omega
      have hr2 : r = 3 := by rw [← hr1.out, if_neg h20]
      subst hr2
      go_enter Try.func85, Try.ntmps85
      go_wp2_with fail
      refine HI.out.mono ?_
      rintro e w1 ⟨rfl, hb⟩
      have hB1 := Lib.hid (btr hB0.out hb)
      have cT1 := cell_be cT0.out hb
      clear hb HI
      go_wp2_with fail
      refine (HN _).out.mono ?_
      rintro e w2 ⟨rfl, hb⟩
      have hB2 := Lib.hid (btr hB1.out hb)
      go_wp2
      go_ret
      exact ⟨rfl, hB2.out⟩

end Go.Proofs.Ytkcldfliiagloaa

/- The four steps that check a growing order of few nodes: the list of them in memory, appended to, and the code of the first one that finds something wrong. -/
namespace Go.Proofs.Ytkcldfliiagloaa
open Go.RowKit

namespace M
/-- the code of a tree, a growing order and few nodes -/
noncomputable def gcodeR (xs l : List Int) : Int := if gcode xs l = 0 then (if xs.length ≤ 20 then 0 else 3) else gcode xs l
noncomputable def codes4 (xs l : List Int) : List Int := codes3 xs l ++ [if xs.length ≤ 20 then 0 else 3]
theorem firstCode_app (a : List Int) (x : Int) : firstCode (a ++ [x]) = if firstCode a = 0 then x else firstCode a := by
  induction a with
  | nil =>
    show (if x = 0 then (0 : Int) else x) = if (0 : Int) = 0 then x else 0
    by_cases h : x = 0 <;> simp [h]
  | cons y r ih =>
    show (if y = 0 then firstCode (r ++ [x]) else y) = if (if y = 0 then firstCode r else y) = 0 then x else (if y = 0 then firstCode r else y)
    by_cases h : y = 0
    · simp only [if_pos h]; exact ih
    · simp only [if_neg h]
theorem gcodeR_first (xs l : List Int) : firstCode (codes4 xs l) = gcodeR xs l := by rw [codes4, firstCode_app, gcode_first, gcodeR]
theorem gcodeR_zero {xs l : List Int} (h : gcodeR xs l = 0) : gcode xs l = 0 ∧ xs.length ≤ 20 := by
  rw [gcodeR] at h
  by_cases h1 : gcode xs l = 0
  · rw [if_pos h1] at h
    by_cases h2 : xs.length ≤ 20
    · exact ⟨h1, h2⟩
    · rw [if_neg h2] at h; cases h
  · rw [if_neg h1] at h; exact absurd h h1
end M
def steps4 : List Nat := steps3 ++ [91]
def funcV (f : Nat) : Value := .func (.func f) #[] #[]
/-- the slice value v owns a row of steps -/
abbrev OwnF (w : World) (B : Nat) (v : Value) (fs : List Nat) : Prop := w.ownsRow B 180 1 v fs.length (fs.map funcV)
theorem infoF : (Try.prog.info? 180).map (fun i => (i.zero, i.size, i.bytes)) = some (some .nilFunc, 1, 8) := by kernel_rfl

theorem orderStepsF (w : World) : Calls Try.prog 90 #[] w fun e w' => ∃ g, e = .returned (.slice (some ⟨g, 0, none⟩) 3 3) ∧ OwnF w' w.heap.size (.slice (some ⟨g, 0, none⟩) 3 3) steps3 ∧ Below w.heap.size w w' := by
  have hS : Hid (OwnF (w.alloc (.cells #[.func (.func 97) #[] #[], .func (.func 167) #[] #[], .func (.func 168) #[] #[]] 180)) w.heap.size (.slice (some ⟨w.heap.size, 0, none⟩) 3 3) steps3) := by
    have := World.ownsRow_lit (base := w.heap.size) (e := 180) (size := 1) w #[.func (.func 97) #[] #[], .func (.func 167) #[] #[], .func (.func 168) #[] #[]] 3 (Nat.le_refl _) (by decide) rfl
    exact this
  have hb := bal (b0 w) (.cells #[.func (.func 97) #[] #[], .func (.func 167) #[] #[], .func (.func 168) #[] #[]] 180)
  go_enter Try.func90, Try.ntmps90
  go_wp2
  go_ret
  exact ⟨_, rfl, hS.out, hb⟩

/-- append of one step, at a step of a region that draws its order -/
theorem stepF {ops : Array Oper} {o : Oper} {a : Act} {K : Act → World → Prop} {Q : Exit → Act → World → Prop} {E : Prop} (hgd : o.guard = none) (s x : Operand)
    (ho : o.op = .call { callee := .builtin .append, args := #[s, x], argTypes := #[98, 98] }) (w : World) (B : Nat) (A : Option Addr) (n c : Nat) (fs : List Nat) (g f : Nat)
    (hs : a.eval s = .slice A n c) (hx : a.eval x = .slice (some ⟨g, 0, none⟩) 1 1) (hown : Hid (OwnF w B (.slice A n c) fs)) (hn : Hid (fs.length = n)) (hsrc : Hid (w.cell? ⟨g, 0, none⟩ = some (funcV f))) (hB : B ≤ w.heap.size) (hlen : n ≤ 1000)
    (h : ∀ g' c' w', Hid (OwnF w' B (.slice (some ⟨g', 0, none⟩) (n + 1) c') (fs ++ [f])) → Hid (Below B w w') → K (a.put o.dst (.slice (some ⟨g', 0, none⟩) (n + 1) c')) w') :
    if Region.wanted o (yielded ops a.tmps) = true then Oper.wp Try.prog o a w K Q else E := by
  have hw : Region.wanted o (yielded ops a.tmps) = true := by simp [Region.wanted, hgd]
  rw [if_pos hw]
  obtain ⟨i0, hi0, hz0, hz1, hz2⟩ := info_parts infoF
  have hown := hown.out
  obtain ⟨v', w1, hr, hown1, hg1, _⟩ := run_append_own (P := Try.prog) (w := w) B 98 o.type 180 i0 .nilFunc 1 8 Try.underlying98 hi0 hz0 hz1 hz2 rfl (by decide) _ fs.length (fs.map funcV) hown ⟨g, 0, none⟩ 1 1 [funcV f] (by simp)
    (by
      intro j u hj
      match j, hj with
      | 0, hj => simp at hj; subst hj; simpa [Addr.add] using hsrc.out)
    (by intro u hu; simp at hu; subst hu; rfl) (by have := hn.out; unfold maxLen; omega) (by have := hn.out; omega) hB
  obtain ⟨g', c', rfl⟩ : ∃ g' c', v' = .slice (some ⟨g', 0, none⟩) (fs.length + 1) c' := by
    rcases hown1.2 with ⟨_, h0⟩ | ⟨g', cap, cur, hv, _⟩
    · omega
    · exact ⟨g', cap, hv⟩
  rw [hn.out] at hr
  have := h g' c' w1 (by
      show OwnF _ _ _ _
      unfold OwnF
      rw [List.length_append, List.map_append, List.length_singleton]
      rw [hn.out] at hown1 ⊢
      exact hown1) ((Below.refl B w).grown hg1 hB (fun k hk => (hown.lt k hk).1))
  unfold Oper.wp execOp
  simp only [ho, resolve, invoke, builtin, Sem.run_bind, Sem.run_pure, Result.andThen_ok, List.map_toArray, List.map_cons, List.map_nil, hs, hx, hr]
  exact this

/-- the code of all four steps -/
theorem codeFour (A A2 : Option Addr) (xs l : List Int) (c c2 g k : Nat) (w : World) (hx : xs.length ≤ 1048576) (hcc : xs.length ≤ c ∧ c ≤ 1000000000000) (h : Hid (Ints w w.heap.size A xs)) (h2 : Hid (Ints w w.heap.size A2 l)) (B : Nat) (hF : Hid (OwnF w B (.slice (some ⟨g, 0, none⟩) 4 k) steps4)) (r : Int) (hr : Hid (M.gcodeR xs l = r)) :
    Calls Try.prog 89 #[.agg #[.slice A xs.length c, .slice A2 l.length c2], .slice (some ⟨g, 0, none⟩) 4 k] w fun e w' => e = .returned (.int .i64 r) ∧ Below w.heap.size w w' := by
  refine codeBy A A2 xs.length c l.length c2 g 4 k steps4 (M.codes4 xs l) w (by omega) rfl rfl (World.ownsRow.lt hF.out g rfl).2 ?_ ?_ ?_ r (by rw [← hr.out]; exact M.gcodeR_first xs l)
  · intro j f hf
    have hj : j < 4 := (List.getElem?_eq_some_iff.1 hf).1
    have := World.ownsRow.cellAt hF.out j (by omega)
    rw [this, List.getElem?_map, hf]
    rfl
  · intro f hf
    simp only [steps4, steps3, List.cons_append, List.nil_append, List.mem_cons, List.not_mem_nil, or_false] at hf
    exact hf
  · intro j f q hf hq hz X hX
    rcases Nat.lt_or_ge j 3 with hj | hj
    · have h3 : steps3[j]? = some f := by rw [steps4, List.getElem?_append_left (by exact hj)] at hf; exact hf
      have h4 : (M.codes3 xs l)[j]? = some q := by rw [M.codes4, List.getElem?_append_left (by exact hj)] at hq; exact hq
      exact steps3_hold A A2 xs l c c2 w hx hcc h h2 j f q h3 h4 (fun i hi => by have := hz i hi; rw [M.codes4, List.getElem?_append_left (by show i < 3; omega)] at this; exact this) X hX
    · match j, hj with
      | 3, _ =>
        have hf' : some 91 = some f := hf
        have hq' : some (if xs.length ≤ 20 then (0 : Int) else 3) = some q := hq
        injection hf' with hf'
        injection hq' with hq'
        subst hf'
        exact limitCode A A2 xs.length c l.length c2 X q (Lib.hid hq')
      | j + 4, _ => simp [steps4, steps3] at hf
end Go.Proofs.Ytkcldfliiagloaa
