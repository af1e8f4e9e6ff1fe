/- parentsIn: the program's row of parents: a range over a function inside a loop. -/
import Derived.Test.YtdgcjkgbglofbaaParents
namespace Go.Proofs.Ytdgcjkgbglofbaa
open Go.RowKit Go.Shelf
attribute [local go_sem] Oper.semAt_some

/-- the marks that the rounds' loops have left on the activation: the newest first -/
def Marks (B : Nat) (W : World) : Nat → List Deferred → Prop
  | _, [] => True
  | hi, d :: ds => ∃ D, d = { target := .collected D, args := #[] } ∧ D < hi ∧ B ≤ D ∧ W.heap[D]? = some (.deferred (some [])) ∧ Marks B W D ds
theorem Marks.keep {B : Nat} {W W' : World} : ∀ {ds : List Deferred} {hi : Nat}, Marks B W hi ds → (∀ D, B ≤ D → D < hi → W.heap[D]? = some (.deferred (some [])) → W'.heap[D]? = W.heap[D]?) → Marks B W' hi ds := by
  intro ds
  induction ds with
  | nil => intro hi _ _; trivial
  | cons d ds ih =>
    intro hi ⟨D, e, h1, h2, h3, h4⟩ hk
    exact ⟨D, e, h1, h2, (hk D h2 h1 h3).trans h3, ih h4 fun D' h5 h6 h7 => hk D' h5 (by omega) h7⟩
theorem Marks.mono {B : Nat} {W : World} {ds : List Deferred} {hi hi' : Nat} (h : Marks B W hi ds) (hl : hi ≤ hi') : Marks B W hi' ds := by
  cases ds with
  | nil => trivial
  | cons d ds => obtain ⟨D, e, h1, h2⟩ := h; exact ⟨D, e, by omega, h2⟩
theorem leaves_marks {B : Nat} {F : Fence} {n : Nat} {P : Program} {fn : Func} {tmps : Array Value} {R : Ending → World → Prop} (Pp : World → Prop)
    (hP : ∀ W D, B ≤ D → W.heap[D]? = some (.deferred (some [])) → Pp W → Pp (W.putObj D (.deferred none))) (hend : ∀ W, Pp W → LeavesIn F n P fn tmps R [] .returning W) :
    ∀ (ds : List Deferred) (hi : Nat) (W : World), Marks B W hi ds → Pp W → LeavesInM F n P fn tmps R ds .returning W := by
  intro ds
  induction ds with
  | nil => intro hi W _ h; exact hend W h
  | cons d ds ih =>
    intro hi W ⟨D, e, h1, h2, h3, h4⟩ h
    subst e
    refine ⟨by simp, .inl ⟨_, _, rfl, run_takeDeferred h3, ?_⟩⟩
    refine ih D _ (h4.keep fun D' h5 h6 h7 => ?_) (hP W D h2 h3 h)
    exact (grownBy_putObj' W D _).block D' (Array.getElem?_eq_some_iff.1 h7).1 (fun e => by cases e; omega)

/-- the child at a place, and a node within the list where there is no such place -/
def kidOr (xs : List Int) (v d x : Nat) : Nat := if x < d then M.kidAt xs v x else v

set_option maxRecDepth 100000 in
set_option maxHeartbeats 4000000 in
theorem parentsIn_in (A : Option Addr) (xs : List Int) (c : Nat) (w : World) (hcl : xs.length ≤ c) (hcu : c ≤ 9223372036854775807) (ht : Hid (M.isTree xs = true)) (hI : Ints w w.heap.size A xs) :
    CallsIn Fence.wide 5 Try.prog 171 #[.slice A xs.length c] w fun e w' => ∃ A' c' ps, e = .returned (.slice A' xs.length c') ∧ Hid (M.ParsOK xs ps) ∧ Own64 w' w.heap.size (.slice A' xs.length c') ps ∧ Below w.heap.size w w' := by
  have hlen := M.tree_len ht.out
  have hx := hlen.2
  have hpos : 0 < xs.length := by omega
  have hmk := run_make_row' (P := Try.prog) 24 2 (.int .i64 0) 8 Try.underlying24 info64 rfl .i64 .i64 xs.length (by omega) (by omega)
  have Hstart := Lib.hid (own64_made (w := w) (B := w.heap.size) (n := xs.length) (Nat.le_refl _) (by unfold maxLen; omega))
  obtain ⟨c1, c2, _, _⟩ := own64_cell Hstart.out (by simp) (k := 0) (x := 0) (by simp [hpos])
  have c3 := cell_al c1 (.cells #[.slice (some ⟨w.heap.size, 0, none⟩) xs.length xs.length] 24)
  have ho0 := Lib.hid (own64_made_set (w := w) (B := w.heap.size) (n := xs.length) (Nat.le_refl _) (by unfold maxLen; omega) (-1))
  have hp0 := Lib.hid (M.partP_start ht.out)
  have bR := Lib.hid (Boxed.new (w.alloc (.cells ((madeCells #[.int .i64 0] xs.length).setIfInBounds 0 (.int .i64 (-1))) 2)) 24 (.slice (some ⟨w.heap.size, 0, none⟩) xs.length xs.length))
  have hB0 := Lib.hid (bal (bal (b0 w) (.cells ((madeCells #[.int .i64 0] xs.length).setIfInBounds 0 (.int .i64 (-1))) 2)) (.cells #[.slice (some ⟨w.heap.size, 0, none⟩) xs.length xs.length] 24))
  refine callsIn_of_wp_marks Try.func171 rfl trivial ?_ rfl
  simp only [Try.ntmps171, List.size_toArray, List.length_cons, List.length_nil, Nat.reduceAdd, Nat.reduceSub, Array.replicate_succ, Array.replicate_zero, List.push_toArray, List.append_toArray, List.nil_append, List.cons_append]
  gi_wp2
  clear hmk c1 c2 c3
  refine wpIn_loop (fun a' wr => ∃ (k : Nat) (ps : List Int) (u4 u15 u16 u17 u18 u19 u26 : Value) (ds : List Deferred), (k ≤ xs.length ∧ Hid (M.PartP xs k 0 ps) ∧ Hid (Own64 wr w.heap.size (.slice (some ⟨w.heap.size, 0, none⟩) xs.length xs.length) ps) ∧
      Hid (Boxed wr (w.heap.size + 1) 24 (.slice (some ⟨w.heap.size, 0, none⟩) xs.length xs.length)) ∧ Hid (Below w.heap.size w wr) ∧ Hid (Marks (w.heap.size + 2) wr wr.heap.size ds)) ∧
      a' = { tmps := #[.slice A xs.length c, undef, .slice none 0 0, .pointer (some ⟨w.heap.size + 1, 0, none⟩), u4, undef, undef, .slice A xs.length c, .int .i64 xs.length, .slice (some ⟨w.heap.size, 0, none⟩) xs.length xs.length, .slice (some ⟨w.heap.size, 0, none⟩) xs.length xs.length,
        .pointer (some ⟨w.heap.size, 0, none⟩), .slice A xs.length c, .int .i64 xs.length, .int .i64 k, u15, u16, u17, u18, u19, undef, undef, undef, undef, undef, undef, u26, undef], defers := ds })
    (fun a' _ => xs.length - (intOf (a'.tmps.getD 14 undef)).toNat) ?_ ?_
  · exact ⟨0, _, _, _, _, _, _, _, _, [], ⟨Nat.zero_le _, hp0, own_be ho0.out ((Below.refl _ _).alloc (Nat.le_refl _) _), Lib.hid (by simpa using bR.out), hB0, trivial⟩, rfl⟩
  · rintro _ wr ⟨k, ps, u4, u15, u16, u17, u18, u19, u26, ds, ⟨hk, hp, ho, hbx, hbr, hmks⟩, rfl⟩
    clear hp0 ho0 bR hB0 Hstart
    by_cases hlt : k < xs.length
    · obtain ⟨d, hd, hd2⟩ := M.tree_degN ht.out hlt
      have Hd := Lib.hid hd
      gi_wp2_with (refine ⟨trivial, ?_⟩; gi_at_call 275; refine (eachIn 4 A xs.length c k _).mono ?_; rintro e w' ⟨rfl, rfl⟩)
      have bV := Boxed.new wr 2 (.int .i64 k)
      have bD := Boxed.new (wr.alloc (.cells #[.int .i64 k] 2)) 24 (.slice A xs.length c)
      have bW := Boxed.new ((wr.alloc (.cells #[.int .i64 k] 2)).alloc (.cells #[.slice A xs.length c] 24)) 2 (.int .i64 k)
      simp only [World.size_alloc] at bD bW
      have hz1 := hbr.out.size
      have hz2 := hbx.out.lt
      have hB0 := bal (bal (bal hbr.out (.cells #[.int .i64 k] 2)) (.cells #[.slice A xs.length c] 24)) (.cells #[.int .i64 k] 2)
      have hKb := KeepK.b (n₀ := w.heap.size) (Bd := wr.heap.size + 1) (w := ((wr.alloc (.cells #[.int .i64 k] 2)).alloc (.cells #[.slice A xs.length c] 24)).alloc (.cells #[.int .i64 k] 2)) (by simp; omega) (by simp)
      have h15 : 1 ≤ 5 := by omega
      have hK : ∀ x, kidOr xs k d x < xs.length := fun x => by
        unfold kidOr
        split
        · exact M.kid_lt ht.out Hd.out (by omega)
        · exact hlt
      refine wpIn_rangeFunc_ownG (α := Nat) rfl h15 (gf := 332) (lb := #[.pointer (some ⟨wr.heap.size + 2, 0, none⟩), .pointer (some ⟨wr.heap.size + 1, 0, none⟩)]) rfl trivial (enters_of Try.func332 (by kernel_rfl) rfl)
        (each_stopsF (fun i => i) (fun x => #[.int .i64 (x : Int), .int .i64 (kidOr xs k d x : Int)]) 4 (by omega) (wr.heap.size + 2) (wr.heap.size + 1) w.heap.size A xs c k d hx hcl (by omega) ht Hd (fun i hi => by simp [kidOr, hi]) _ bW.cell (bD.alloc _) (hI.below hB0 (Nat.le_refl _)) (by simp; omega)) (fun h k => h.t k) hKb (Below.refl _ _) (fun _ => rfl)
        (fun pre W => ∃ ps, (ps.length = xs.length ∧ (pre = List.range pre.length → pre.length ≤ d → M.PartP xs k pre.length ps)) ∧ Own64 W w.heap.size (.slice (some ⟨w.heap.size, 0, none⟩) xs.length xs.length) ps ∧
          Boxed W (w.heap.size + 1) 24 (.slice (some ⟨w.heap.size, 0, none⟩) xs.length xs.length) ∧ Boxed W wr.heap.size 2 (.int .i64 k) ∧ Below w.heap.size w W ∧ Marks (w.heap.size + 2) W wr.heap.size ds)
        (fun _ _ _ => False)
        (fun s X Y row hs hg hr => by
          obtain ⟨ps, h1, h2, h3, h4, h5, h6⟩ := hs
          have hne : ∀ r, row = some r → wr.heap.size + 3 ≤ r := fun r e => by have := (hr r e).1; simp at this; omega
          exact ⟨ps, h1, h2.kept hg (.inr fun e => by have := hne w.heap.size e.symm; omega), h3.kept hg (fun e => by have := hne _ e.symm; omega), h4.kept hg (fun e => by have := hne _ e.symm; omega), h5.grown hg h5.size (fun r e => by have := hne _ e; omega),
            h6.keep fun D _ hD hD3 => hg.block D (Array.getElem?_eq_some_iff.1 hD3).1 (fun e => by have := hne _ e.symm; omega)⟩)
        (fun _ _ _ _ _ hs _ _ => hs)
        ⟨ps, ⟨hp.out.1, fun _ _ => hp.out⟩, ((ho.out.alloc _).alloc _).alloc _, ((hbx.out.alloc _).alloc _).alloc _, (bV.alloc _).alloc _, hB0, hmks.out.keep fun D _ hD hD3 => by
          have h1 := Below.heap_alloc wr (.cells #[.int .i64 k] 2) D hD
          have h2 := Below.heap_alloc (wr.alloc (.cells #[.int .i64 k] 2)) (.cells #[.slice A xs.length c] 24) D (by simp; omega)
          have h3 := Below.heap_alloc ((wr.alloc (.cells #[.int .i64 k] 2)).alloc (.cells #[.slice A xs.length c] 24)) (.cells #[.int .i64 k] 2) D (by simp; omega)
          exact h3.trans (h2.trans h1)⟩
        (fun x => { tmps := #[.slice A xs.length c, undef, .slice none 0 0, .pointer (some ⟨w.heap.size + 1, 0, none⟩), .pointer (some ⟨wr.heap.size, 0, none⟩), undef, .int .i64 (kidOr xs k d x : Int), .slice A xs.length c, .int .i64 xs.length, .slice (some ⟨w.heap.size, 0, none⟩) xs.length xs.length, .slice (some ⟨w.heap.size, 0, none⟩) xs.length xs.length,
          .pointer (some ⟨w.heap.size, 0, none⟩), .slice A xs.length c, .int .i64 xs.length, .int .i64 k, .bool true, .int .i64 k, .slice A xs.length c, .int .i64 k, .func (.func 332) #[] #[.pointer (some ⟨wr.heap.size + 2, 0, none⟩), .pointer (some ⟨wr.heap.size + 1, 0, none⟩)], .int .i64 (x : Int), .int .i64 (kidOr xs k d x : Int), undef, undef, undef, undef, u26, undef], defers := [] }) ?assign ?body ?done ?stop
      case assign =>
        intro l x W K hK
        gi_wp2
        exact hK
      case body =>
        rintro l pre x W ⟨ps, ⟨hl, hpp⟩, h2, h3, h4, h5, h6⟩ hpl
        have hkx := hK x
        have c3 := h3.cell
        have c4 := h4.cell
        obtain ⟨c1, c2, _, _⟩ := own64_cell h2 hl (k := kidOr xs k d x) (x := ps[kidOr xs k d x]'(by omega)) (List.getElem?_eq_getElem (by omega))
        generalize ps[kidOr xs k d x]'(by omega) = y at c1
        have hnext : Hid (pre ++ [x] = List.range (pre ++ [x]).length → (pre ++ [x]).length ≤ d → M.PartP xs k (pre ++ [x]).length (ps.set (kidOr xs k d x) (k : Int))) := fun e hd' => by
          simp only [List.length_append, List.length_cons, List.length_nil, Nat.zero_add] at e hd' ⊢
          rw [List.range_succ] at e
          obtain ⟨e1, e2⟩ := List.append_inj' e rfl
          injection e2 with e2
          have h7 := M.partP_step ht.out (hpp e1 (by omega)) Hd.out (by omega)
          have e3 : kidOr xs k d x = M.kidAt xs k pre.length := by rw [e2]; simp only [kidOr]; rw [if_pos (by omega)]
          rw [e3]
          exact h7
        have hset := Lib.hid (own64_set h2 hl (kidOr xs k d x) (k : Int))
        have hl2 : Hid ((ps.set (kidOr xs k d x) (k : Int)).length = xs.length) := by show _ = _; simpa using hl
        clear hpp
        generalize kidOr xs k d x = C at *
        gi_wp2
        have hkk : KeepK w.heap.size (wr.heap.size + 1) W (W.setCell ⟨w.heap.size, C, none⟩ (.int .i64 k)) := ⟨below_setCell (Below.refl _ _) (Nat.le_refl _) _, heap_setCell_other _ _ _ _ (show wr.heap.size + 1 ≠ w.heap.size by omega)⟩
        exact ⟨(KeepsOthers.setCell W _ _).from _, hkk, _, ⟨hl2.out, hnext.out⟩, hset.out, (heap_setCell_other _ _ _ _ (show w.heap.size + 1 ≠ w.heap.size by omega)).trans h3, (heap_setCell_other _ _ _ _ (show wr.heap.size ≠ w.heap.size by omega)).trans h4, below_setCell h5 (Nat.le_refl _) _, h6.keep fun D hD _ _ => heap_setCell_other _ _ _ _ (show D ≠ w.heap.size by omega)⟩
      case done =>
        rintro D ys W hD rfl ⟨ps, ⟨hl, hpp⟩, h2, h3, h4, h5, h6⟩ hKd
        have hnx0 := hpp (by simp) (by simp)
        simp only [List.length_map, List.length_range] at hnx0
        have hnx := Lib.hid (M.partP_next hnx0 Hd.out)
        clear hnx0 hpp
        have hDl := (Array.getElem?_eq_some_iff.1 hKd).1
        simp at hD
        gi_wp2
        refine ⟨⟨k + 1, ps, _, _, _, _, _, _, _, { target := .collected D, args := #[] } :: ds, ⟨by omega, hnx, h2, h3, h5, (show Marks _ _ _ _ from ⟨D, rfl, hDl, by omega, hKd, h6.mono (by omega)⟩)⟩, rfl⟩, ?_⟩
        simp [intOf]
        omega
      case stop =>
        rintro D c pre W _ _ h _
        exact h.elim
    · obtain rfl : k = xs.length := by omega
      have hok := Lib.hid (M.partP_done ht.out hp.out)
      have hc := hbx.out.cell
      clear hp
      gi_wp2
      refine leaves_marks (B := w.heap.size + 2) (fun W => Own64 W w.heap.size (.slice (some ⟨w.heap.size, 0, none⟩) xs.length xs.length) ps ∧ Below w.heap.size w W) (fun W D hD h3 h => ⟨ownsRow_putObj h.1 _ h3 rfl, h.2.trans ((Below.refl _ W).grown (grownBy_putObj' W D _) h.2.size (fun k e => by cases e; omega))⟩) (fun W h => ?_) ds _ _ hmks.out ⟨ho.out, hbr.out⟩
      exact ⟨_, results_tmp rfl _ _ _, _, _, ps, rfl, hok, h.1, h.2⟩
end Go.Proofs.Ytdgcjkgbglofbaa
