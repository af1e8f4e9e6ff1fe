/- statesIn: the states of a tree's nodes, the program's: a range over the children in a range over the nodes from the end. -/
import Derived.Test.YtcipafjibkclcaaStatesSp
import Derived.Test.YtcipafjibkclcaaBackAny
import Derived.Test.YtcipafjibkclcaaRound
import Derived.Test.YtcipafjibkclcaaPost
import Derived.StillTailTactics
namespace Go.Proofs.Ytcipafjibkclcaa
open Go.RowKit Go.Shelf Go.Maps
attribute [local go_sem] Oper.semAt_some

theorem BoxA.kept {w w' : World} {b : Nat} {st : Int} {As Ag : Option Addr} {m cm g cg : Nat} {row : Option Nat} (h : BoxA w b st As m cm Ag g cg) (hg : w.grownBy w' row) (hr : some b ≠ row) : BoxA w' b st As m cm Ag g cg := ⟨hg.cell h.1 hr, hg.cell h.2.1 hr, hg.cell h.2.2 hr⟩
theorem KeepR.grown {b off m Bd : Nat} {X Y : World} {row : Option Nat} (hg : X.grownBy Y row) (hb : some b ≠ row) (hB : some Bd ≠ row) (hl : Bd < X.heap.size) : KeepR b off m Bd X Y :=
  ⟨fun _ _ ⟨x, hx⟩ => ⟨x, hg.cell hx hb⟩, hg.block Bd hl hB⟩

/-- what a round finds -/
structure StI (w : World) (st : Int) (As Ag : Option Addr) (m cm g cg : Nat) (A : Option Addr) (n c : Nat) (W : World) (R : List Int) : Prop where
  len : R.length = n
  rng : ∀ x ∈ R, M.InRange m x
  own : Own64 W w.heap.size (.slice (some ⟨w.heap.size + 1 + 1, 0, none⟩) n n) R
  bA : BoxA W w.heap.size st As m cm Ag g cg
  bD : Boxed W (w.heap.size + 1) 22 (.slice A n c)
  bS : Boxed W (w.heap.size + 1 + 1 + 1) 22 (.slice (some ⟨w.heap.size + 1 + 1, 0, none⟩) n n)
  bB : Boxed W (w.heap.size + 1 + 1 + 1 + 1) 22 (.slice (some ⟨w.heap.size + 1 + 1, 0, none⟩) n n)
  be : Below w.heap.size w W
section
variable {w : World} {st : Int} {As Ag : Option Addr} {m cm g cg : Nat} {A : Option Addr} {n c : Nat} {W W' : World} {R : List Int}
theorem StI.kept {row : Option Nat} (h : StI w st As Ag m cm g cg A n c W R) (hg : W.grownBy W' row) (hr : ∀ r, row = some r → w.heap.size + 5 ≤ r) : StI w st As Ag m cm g cg A n c W' R where
  len := h.len
  rng := h.rng
  own := h.own.kept hg (.inr fun e => by have h2 := hr (w.heap.size + 1 + 1) e.symm; omega)
  bA := h.bA.kept hg (fun e => by have := hr _ e.symm; omega)
  bD := h.bD.kept hg (fun e => by have := hr _ e.symm; omega)
  bS := h.bS.kept hg (fun e => by have := hr _ e.symm; omega)
  bB := h.bB.kept hg (fun e => by have := hr _ e.symm; omega)
  be := h.be.grown hg h.be.size (fun k e => by have := hr _ e; omega)
theorem StI.set {v : Nat} {x : Int} (h : StI w st As Ag m cm g cg A n c W R) (hx : M.InRange m x) : StI w st As Ag m cm g cg A n c (W.setCell ⟨w.heap.size + 1 + 1, v, none⟩ (.int .i64 x)) (R.set v x) where
  len := by rw [List.length_set]; exact h.len
  rng := fun y hy => by
    rcases List.mem_or_eq_of_mem_set hy with h1 | rfl
    · exact h.rng y h1
    · exact hx
  own := own64_set h.own h.len v x
  bA := h.bA.kept (grown_set (World.grownBy.refl W (some (w.heap.size + 1 + 1))) v _) (fun e => by injection e with e; omega)
  bD := (heap_setCell_other _ _ _ _ (show w.heap.size + 1 ≠ w.heap.size + 1 + 1 by omega)).trans h.bD
  bS := (heap_setCell_other _ _ _ _ (show w.heap.size + 1 + 1 + 1 ≠ w.heap.size + 1 + 1 by omega)).trans h.bS
  bB := (heap_setCell_other _ _ _ _ (show w.heap.size + 1 + 1 + 1 + 1 ≠ w.heap.size + 1 + 1 by omega)).trans h.bB
  be := below_setCell h.be (by omega) _
theorem StI.drew (h : StI w st As Ag m cm g cg A n c W R) : StI w st As Ag m cm g cg A n c W.drew R := ⟨h.len, h.rng, h.own, h.bA, h.bD, h.bS, h.bB, h.be.drew⟩
theorem StI.nums (h : StI w st As Ag m cm g cg A n c W R) : NumsAt (w.heap.size + 1 + 1) 0 n W := fun j hj => by
  have hl := h.len
  exact ⟨R[j], by rw [Nat.zero_add]; exact (own64_cell h.own h.len (List.getElem?_eq_getElem (by omega))).1⟩
theorem StI.at_ (h : StI w st As Ag m cm g cg A n c W R) {v : Nat} (hv : v < n) : ∃ s : Nat, R[v]? = some (s : Int) ∧ s < m ∧ W.cell? ⟨w.heap.size + 1 + 1, v, none⟩ = some (.int .i64 (s : Int)) ∧ W.frozen? ⟨w.heap.size + 1 + 1, v, none⟩ = false := by
  have hl := h.len
  have h1 := List.getElem?_eq_getElem (l := R) (i := v) (by omega)
  obtain ⟨h2, h3⟩ := h.rng _ (List.getElem_mem (l := R) (n := v) (by omega))
  obtain ⟨s, hs⟩ := Int.eq_ofNat_of_zero_le h2
  obtain ⟨c1, c2, _, _⟩ := own64_cell h.own h.len h1
  rw [hs] at h1 h3 c1
  exact ⟨s, h1, by omega, c1, c2⟩
end

set_option maxRecDepth 100000 in
set_option maxHeartbeats 8000000 in
theorem statesIn_in (st : Int) (As Ag : Option Addr) (Ss : List (List Int)) (gs : List Int) (m cm g cg : Nat) (A : Option Addr) (xs : List Int) (c : Nat) (w : World) (hA : Hid (M.IsA st Ss gs m)) (hR : Hid (RowsL w As Ss)) (ht : Hid (M.isTree xs = true)) (hcl : xs.length ≤ c) (hcu : c ≤ 9223372036854775807) (hI : Hid (Ints w w.heap.size A xs)) :
    CallsIn Fence.wide 5 Try.prog 76 #[.agg #[.int .i64 st, .slice As m cm, .slice Ag g cg], .slice A xs.length c] w fun e w' => e = .returned (.slice (some ⟨w.heap.size + 1 + 1, 0, none⟩) xs.length xs.length) ∧ Own64 w' w.heap.size (.slice (some ⟨w.heap.size + 1 + 1, 0, none⟩) xs.length xs.length) (M.states Ss st xs) ∧ Below w.heap.size w w' := by
  have hx := (M.tree_len ht.out).2
  have hx1 := (M.tree_len ht.out).1
  have hm9 := hA.out.le
  have hst0 := hA.out.st0
  have hst1 := hA.out.st1
  obtain ⟨n, hn⟩ : ∃ n, Hid (xs.length = n) := ⟨_, rfl⟩
  have hn24 : n ≤ 24 := by have := hn.out; omega
  have hn1 : 1 ≤ n := by have := hn.out; omega
  have hmk := run_make_row' (P := Try.prog) 22 2 (.int .i64 0) 8 Try.underlying22 info64 rfl .i64 .i64 n (by omega) (by omega)
  have hIs : Hid (∀ W, Below w.heap.size w W → Ints W w.heap.size A xs) := fun W hW => hI.out.below hW (Nat.le_refl _)
  rw [hn.out] at hcl ⊢
  refine callsIn_of_wp_marks Try.func76 rfl trivial ?_ rfl
  simp only [Try.ntmps76, List.size_toArray, List.length_cons, List.length_nil, Nat.reduceAdd, Nat.reduceSub, Array.replicate_succ, Array.replicate_zero, List.push_toArray, List.append_toArray, List.nil_append, List.cons_append]
  gi_wp2_with (refine ⟨trivial, ?_⟩; gi_at_call 110; refine (backIn 4 (some ⟨w.heap.size + 1 + 1, 0, none⟩) n n _).mono ?_; rintro e w' ⟨rfl, rfl⟩)
  obtain ⟨W0, hW0⟩ : ∃ W0, W0 = (((((w.alloc (.cells #[.int .i64 st, .slice As m cm, .slice Ag g cg] 40)).alloc (.cells #[.slice A n c] 22)).alloc (.cells (madeCells #[.int .i64 0] n) 2)).alloc (.cells #[.slice (some ⟨w.heap.size + 1 + 1, 0, none⟩) n n] 22)).alloc (.cells #[.slice (some ⟨w.heap.size + 1 + 1, 0, none⟩) n n] 22)) := ⟨_, rfl⟩
  have hsz : W0.heap.size = w.heap.size + 1 + 1 + 1 + 1 + 1 := by rw [hW0]; simp
  have hS0 : StI w st As Ag m cm g cg A n c W0 (M.rowOf n (M.stF Ss st xs 0)) := by
    have hB2 : Below w.heap.size w ((w.alloc (.cells #[.int .i64 st, .slice As m cm, .slice Ag g cg] 40)).alloc (.cells #[.slice A n c] 22)) := bal (bal (b0 w) _) _
    have hz2 : ((w.alloc (.cells #[.int .i64 st, .slice As m cm, .slice Ag g cg] 40)).alloc (.cells #[.slice A n c] 22)).heap.size = w.heap.size + 1 + 1 := by simp
    have ho := own64_made (w := (w.alloc (.cells #[.int .i64 st, .slice As m cm, .slice Ag g cg] 40)).alloc (.cells #[.slice A n c] 22)) (B := w.heap.size) (n := n) (by omega) (by unfold maxLen; omega)
    rw [hz2] at ho
    have hD := Boxed.new (w.alloc (.cells #[.int .i64 st, .slice As m cm, .slice Ag g cg] 40)) 22 (.slice A n c)
    have hSb := Boxed.new (((w.alloc (.cells #[.int .i64 st, .slice As m cm, .slice Ag g cg] 40)).alloc (.cells #[.slice A n c] 22)).alloc (.cells (madeCells #[.int .i64 0] n) 2)) 22 (.slice (some ⟨w.heap.size + 1 + 1, 0, none⟩) n n)
    have hBb := Boxed.new ((((w.alloc (.cells #[.int .i64 st, .slice As m cm, .slice Ag g cg] 40)).alloc (.cells #[.slice A n c] 22)).alloc (.cells (madeCells #[.int .i64 0] n) 2)).alloc (.cells #[.slice (some ⟨w.heap.size + 1 + 1, 0, none⟩) n n] 22)) 22 (.slice (some ⟨w.heap.size + 1 + 1, 0, none⟩) n n)
    simp only [World.size_alloc] at hD hSb hBb
    rw [hW0]
    refine ⟨M.rowOf_len _ _, fun x hx => ?_, ?_, ((((BoxA.new _ _ _ _ _ _ _ _ _).al _).al _).al _).al _, ((hD.alloc _).alloc _).alloc _, hSb.alloc _, hBb, bal (bal (bal hB2 _) _) _⟩
    · obtain ⟨j, hj, rfl⟩ := List.mem_map.1 hx
      exact ⟨Int.le_refl _, by show (0 : Int) < _; omega⟩
    · have e : M.rowOf n (M.stF Ss st xs 0) = List.replicate n 0 := M.rowOf_zero n
      rw [e]
      exact (ho.alloc _).alloc _
  rw [← hW0]
  clear hW0 hmk
  have h15 : 1 ≤ 5 := by omega
  refine wpIn_rangeFunc_ownH (α := Nat × Int) rfl h15 (gf := 133) (lb := #[.pointer (some ⟨w.heap.size + 1 + 1 + 1 + 1, 0, none⟩)]) rfl trivial (enters_of Try.func133 (by kernel_rfl) rfl)
    (back_any 4 (by omega) (w.heap.size + 1 + 1 + 1 + 1) (w.heap.size + 1 + 1) 0 n n (by omega) W0 hS0.bB hS0.nums) (fun h k => h.t k) (KeepR.b (by omega) (by omega)) (Below.refl _ _) (fun _ => rfl)
    (fun pre W => ∃ R, StI w st As Ag m cm g cg A n c W R ∧ (pre.map Prod.fst = List.range pre.length → pre.length ≤ n → R = M.rowOf n (M.stF Ss st xs pre.length)))
    (fun _ _ _ => False)
    (fun pre X Y row ⟨R, h1, h2⟩ hg hr => ⟨R, h1.kept hg (fun r e => by have := (hr r e).1; omega), h2⟩)
    (fun _ _ _ _ _ hs _ _ => hs)
    ⟨_, hS0, fun _ _ => rfl⟩
    (fun x a' W => ∃ Bx, w.heap.size + 1 + 1 + 1 + 1 < Bx ∧ Boxed W Bx 3 (.int .i64 ((n - 1 - x.1 : Nat) : Int)) ∧ a' = { tmps := #[.agg #[.int .i64 st, .slice As m cm, .slice Ag g cg], .slice A n c, .pointer (some ⟨w.heap.size, 0, none⟩), .pointer (some ⟨w.heap.size + 1, 0, none⟩), .slice none 0 0, .pointer (some ⟨w.heap.size + 1 + 1 + 1, 0, none⟩), .pointer (some ⟨Bx, 0, none⟩), undef, undef, .slice A n c, .int .i64 (n : Int), .slice (some ⟨w.heap.size + 1 + 1, 0, none⟩) n n, .slice (some ⟨w.heap.size + 1 + 1, 0, none⟩) n n, .func (.func 133) #[] #[.pointer (some ⟨w.heap.size + 1 + 1 + 1 + 1, 0, none⟩)], .int .i64 ((n - 1 - x.1 : Nat) : Int), .int .i64 x.2, undef, undef, undef, undef, undef, undef, undef, undef, undef, undef, undef, undef, undef, undef, undef, undef, undef, undef, undef, undef, undef, undef, undef, undef, undef, undef, undef, undef], defers := [] })
    (fun x a' _ X Y row hs hg hr => by obtain ⟨Bx, h1, h2, h3⟩ := hs; exact ⟨Bx, h1, boxed_own Bx 3 (fun (_ : Unit) => Value.int .i64 ((n - 1 - x.1 : Nat) : Int)) () X Y row h2 hg (fun r e => (hr r e).2), h3⟩)
    ?assign ?body ?done ?stop
  case assign =>
    rintro l pre x W K ⟨R, h1, h2⟩ hK
    have hl := h1.bB.lt
    have hl2 := (World.ownsRow.lt h1.own (w.heap.size + 1 + 1) rfl).2
    gi_wp2
    exact hK _ _ ((KeepsOthers.alloc _ _).from _) (KeepR.grown (World.grownBy_alloc W _ none) (by simp) (by simp) hl) ⟨R, h1.kept (World.grownBy_alloc W _ none) (fun r e => by cases e), h2⟩ ⟨W.heap.size, hl, Boxed.new W 3 _, rfl⟩
  case body =>
    rintro l pre x a' W hl ⟨r, hr⟩ ⟨R, h1, h2⟩ ⟨Bx, hBx, bX, rfl⟩ hlt
    obtain ⟨v, hv⟩ : ∃ v, n - 1 - x.1 = v := ⟨_, rfl⟩
    have hvn : v < n := by omega
    rw [hv] at bX ⊢
    obtain ⟨d, hd, hd24⟩ := M.tree_degN ht.out (v := v) (by have := hn.out; omega)
    have Hd := Lib.hid hd
    obtain ⟨y0, hy0, _, cv, fv⟩ := h1.at_ hvn
    have hvi : (v : Int) < (n : Int) := by omega
    have hv0 : (0 : Int) ≤ (v : Int) := by omega
    have cS := h1.bS.cell
    have cX := bX.cell
    obtain ⟨cA0, cA1, cA2⟩ := h1.bA
    have cD := (h1.set (v := v) (x := st) ⟨hst0, hst1⟩).bD.cell
    have cX2 := (show Boxed (W.setCell ⟨w.heap.size + 1 + 1, v, none⟩ (.int .i64 st)) Bx 3 _ from (heap_setCell_other _ _ _ _ (show Bx ≠ w.heap.size + 1 + 1 by omega)).trans bX).cell
    have HX := Lib.hid bX
    have H1 := Lib.hid h1
    have H2 := Lib.hid h2
    have Hr := Lib.hid hr
    clear hd hy0 bX h1 h2 hr
    gi_wp2_with (refine ⟨trivial, ?_⟩; gi_at_call 111; refine (CallsIn.inRound l (eachIn 2 A n c v _)).mono ?_; rintro e w' ⟨rfl, rfl⟩)
    clear cS cX cA0 cA1 cA2 cD cX2 cv fv
    have hz4 : (W.setCell ⟨w.heap.size + 1 + 1, v, none⟩ (.int .i64 st)).heap.size = W.heap.size := by simp
    have hS4 := H1.out.set (v := v) (x := st) ⟨hst0, hst1⟩
    have hX4 : Boxed (W.setCell ⟨w.heap.size + 1 + 1, v, none⟩ (.int .i64 st)) Bx 3 (.int .i64 (v : Int)) := (heap_setCell_other _ _ _ _ (show Bx ≠ w.heap.size + 1 + 1 by omega)).trans HX.out
    have hg4 : W.grownBy (W.setCell ⟨w.heap.size + 1 + 1, v, none⟩ (.int .i64 st)) (some (w.heap.size + 1 + 1)) := grown_set (World.grownBy.refl W _) v _
    have hr4 : (W.setCell ⟨w.heap.size + 1 + 1, v, none⟩ (.int .i64 st)).heap[l]? = some (.loop r) := (heap_setCell_other _ _ _ _ (show l ≠ w.heap.size + 1 + 1 by omega)).trans Hr.out
    have hk4 : KeepsFrom W0.heap.size W (W.setCell ⟨w.heap.size + 1 + 1, v, none⟩ (.int .i64 st)) := (KeepsOthers.setCell _ _ _).from _
    have hq4 : KeepR (w.heap.size + 1 + 1) 0 n (w.heap.size + 1 + 1 + 1 + 1) W (W.setCell ⟨w.heap.size + 1 + 1, v, none⟩ (.int .i64 st)) := ⟨fun j hj _ => hS4.nums j hj, hS4.bB.trans (show W.heap[_]? = _ from H1.out.bB).symm⟩
    have hWs := H1.out.bB.lt
    have hbx := HX.out.lt
    have b1n := Boxed.new (W.setCell ⟨w.heap.size + 1 + 1, v, none⟩ (.int .i64 st)) 22 (.slice A n c)
    have b2n := Boxed.new ((W.setCell ⟨w.heap.size + 1 + 1, v, none⟩ (.int .i64 st)).alloc (.cells #[.slice A n c] 22)) 2 (.int .i64 (v : Int))
    simp only [World.size_alloc, hz4] at b1n b2n
    obtain ⟨W4, hW4⟩ : ∃ W4, W4 = W.setCell ⟨w.heap.size + 1 + 1, v, none⟩ (.int .i64 st) := ⟨_, rfl⟩
    rw [← hW4] at hz4 hS4 hX4 hg4 hr4 hk4 hq4 b1n b2n ⊢
    have hg5 : W4.grownBy ((W4.alloc (.cells #[.slice A n c] 22)).alloc (.cells #[.int .i64 (v : Int)] 2)) none := (World.grownBy_alloc W4 _ none).trans (World.grownBy_alloc _ _ none)
    obtain ⟨W5, hW5⟩ : ∃ W5, W5 = (W4.alloc (.cells #[.slice A n c] 22)).alloc (.cells #[.int .i64 (v : Int)] 2) := ⟨_, rfl⟩
    have hz5 : W5.heap.size = W.heap.size + 1 + 1 := by rw [hW5]; simp [hz4]
    have b1 := b1n.alloc (.cells #[.int .i64 (v : Int)] 2)
    have hk5 : KeepsFrom W0.heap.size W4 ((W4.alloc (.cells #[.slice A n c] 22)).alloc (.cells #[.int .i64 (v : Int)] 2)) := ((KeepsOthers.alloc _ _).trans (KeepsOthers.alloc _ _)).from _
    rw [← hW5] at hg5 b1 b2n hk5 ⊢
    clear hW5 hW4 b1n
    have hS5 := hS4.kept hg5 (fun r e => by cases e)
    have hX5 := hX4.kept hg5 (by simp)
    have hr5 : W5.heap[l]? = some (.loop r) := (hg5.block l (by have := (Array.getElem?_eq_some_iff.1 hr4).1; exact this) (by simp)).trans hr4
    have hq5 := hq4.t (KeepR.grown hg5 (by simp) (by simp) (by omega))
    have hkk5 := hk4.trans hk5
    have hKb := KeepK.b (n₀ := w.heap.size) (Bd := W.heap.size) (w := W5) (by omega) (by omega)
    have hI5 : Ints W5 w.heap.size A xs := hIs.out W5 hS5.be
    have h13 : 1 ≤ 5 - 1 - 1 := by omega
    clear hg4 hg5 hr4 hk4 hq4 hS4 hX4 hk5
    refine wpIn_rangeFunc_ownN (α := Nat) (l₀ := l) (r₀ := r) rfl hr5 h13 (gf := 134) (lb := #[.pointer (some ⟨W.heap.size + 1, 0, none⟩), .pointer (some ⟨W.heap.size, 0, none⟩)]) rfl trivial (enters_of Try.func134 (by kernel_rfl) rfl)
      ((each_stopsF (fun i => i) (fun y => #[.int .i64 (y : Int), .int .i64 (kidO xs v d y : Int)]) 2 (by omega) (W.heap.size + 1) W.heap.size w.heap.size A xs c v d hx (by rw [hn.out]; exact hcl) hcu ht Hd (fun k hk => by rw [kidO_at xs hk]) W5 b2n.cell (by rw [hn.out]; exact b1) hI5 (by omega)).inRound l) (fun h k => h.t k) hKb (Below.refl _ _) (fun _ => rfl)
      (fun pre' W' => ∃ R', StI w st As Ag m cm g cg A n c W' R' ∧ (pre.map Prod.fst = List.range pre.length → pre.length + 1 + v = n → pre' = List.range pre'.length → pre'.length ≤ d → R' = M.rowOf n (M.midF Ss st xs pre.length v pre'.length)) ∧ Boxed W' Bx 3 (.int .i64 (v : Int)) ∧ Boxed W' W.heap.size 22 (.slice A n c) ∧ KeepR (w.heap.size + 1 + 1) 0 n (w.heap.size + 1 + 1 + 1 + 1) W W' ∧ KeepsFrom W0.heap.size W W')
      (fun _ _ _ => False)
      (fun pre' X Y row ⟨R', k1, k2, k3, k4, k5, k6⟩ hg hr => ⟨R', k1.kept hg (fun r e => by have := (hr r e).1; omega), k2, k3.kept hg (fun e => by have := (hr _ e.symm).1; omega), k4.kept hg (fun e => by have := (hr _ e.symm).1; omega), k5.t (KeepR.grown hg (fun e => by have := (hr _ e.symm).1; omega) (fun e => by have := (hr _ e.symm).1; omega) k1.bB.lt), ownFrom_keepsFrom (B := W0.heap.size) (B' := W5.heap.size) (w₀ := W) (by omega) () X Y row k6 hg hr⟩)
      (fun _ _ _ _ _ hs _ _ => hs)
      ⟨_, hS5, fun hp hv2 _ _ => by
        rw [H2.out hp (by omega)]
        have := M.mid_zero Ss st xs pre.length v
        rw [hn.out] at this
        exact this, hX5, b1, hq5, hkk5⟩
      (fun y a'' _ => a'' = { tmps := #[.agg #[.int .i64 st, .slice As m cm, .slice Ag g cg], .slice A n c, .pointer (some ⟨w.heap.size, 0, none⟩), .pointer (some ⟨w.heap.size + 1, 0, none⟩), .slice none 0 0, .pointer (some ⟨w.heap.size + 1 + 1 + 1, 0, none⟩), .pointer (some ⟨Bx, 0, none⟩), undef, .int .i64 (kidO xs v d y : Int), .slice A n c, .int .i64 (n : Int), .slice (some ⟨w.heap.size + 1 + 1, 0, none⟩) n n, .slice (some ⟨w.heap.size + 1 + 1, 0, none⟩) n n, .func (.func 133) #[] #[.pointer (some ⟨w.heap.size + 1 + 1 + 1 + 1, 0, none⟩)], .int .i64 (v : Int), .int .i64 x.2, .slice (some ⟨w.heap.size + 1 + 1, 0, none⟩) n n, .int .i64 (v : Int), .pointer (some ⟨w.heap.size, 0, none⟩), .int .i64 st, .pointer (some ⟨w.heap.size + 1 + 1, v, none⟩), .slice A n c, .int .i64 (v : Int), .func (.func 134) #[] #[.pointer (some ⟨W.heap.size + 1, 0, none⟩), .pointer (some ⟨W.heap.size, 0, none⟩)], .int .i64 (y : Int), .int .i64 (kidO xs v d y : Int), undef, undef, undef, undef, undef, undef, undef, undef, undef, undef, undef, undef, undef, undef, undef, undef, undef, undef], defers := [] })
      (fun _ _ _ _ _ _ hs _ _ => hs)
      ?assign2 ?body2 ?done2 ?stop2
    case assign2 =>
      rintro l2 pre' y W' K hi hK
      gi_wp2
      exact hK _ _ (KeepsFrom.refl _ _) ⟨Below.refl _ _, rfl⟩ hi rfl
    case body2 =>
      rintro l2 pre' y a'' W' _ _ ⟨R', k1, k2, k3, k4, k5, k6⟩ rfl _
      obtain ⟨u, hu⟩ : ∃ u, Hid (kidO xs v d y = u) := ⟨_, rfl⟩
      have hun : u < n := by rw [← hu.out, ← hn.out]; exact M.kid_lt ht.out Hd.out (i := min y (d - 1)) (by omega)
      have hkey : ∀ z : Int, (∀ s q : Nat, R'[v]? = some (s : Int) → R'[u]? = some (q : Int) → M.stp Ss s q = z) → pre.map Prod.fst = List.range pre.length → pre.length + 1 + v = n → pre' ++ [y] = List.range (pre' ++ [y]).length → (pre' ++ [y]).length ≤ d → R'.set v z = M.rowOf n (M.midF Ss st xs pre.length v (pre' ++ [y]).length) := fun z hz hp hv2 e he => by
        rw [List.length_append, List.length_singleton] at e he ⊢
        rw [List.range_succ] at e
        obtain ⟨e1, e2⟩ := List.append_inj' e rfl
        have e3 : y = pre'.length := by simpa using e2
        have hR' := k2 hp hv2 e1 (by omega)
        obtain ⟨s', q', f1, f2, _, _, f3⟩ := M.mid_at hA.out ht.out (k := pre.length) (v := v) (d := d) (i := pre'.length) (by rw [hn.out]; exact hv2) Hd.out (by omega)
        rw [hn.out] at f1 f2
        have huk : u = M.kidAt xs v pre'.length := by rw [← hu.out, e3, kidO_at xs (by omega)]
        have hz2 := hz s' q' (by rw [hR']; exact f1) (by rw [hR', huk]; exact f2)
        have := M.mid_step Ss st xs pre.length v pre'.length (f3.trans hz2)
        rw [hn.out] at this
        rw [hR']
        exact this
      obtain ⟨s, r1, hs, cs, fs⟩ := k1.at_ hvn
      obtain ⟨q, r2, hq, cq, _⟩ := k1.at_ hun
      obtain ⟨bb, off, b1, off1, c1, z, rfl, hbl, hbl1, f1, f2, hz1, hz2, hz3⟩ := step_cells hA.out (hR.out.be k1.be) hs hq
      have hK := Lib.hid (hkey z (fun s' q' g1 g2 => by rw [r1] at g1; rw [r2] at g2; injection g1 with g1; injection g2 with g2; rw [← g1, ← g2]; exact hz1))
      have hset := Lib.hid (k1.set (v := v) (x := z) ⟨hz2, hz3⟩).drew
      have hk3 : Hid (Boxed (W'.setCell ⟨w.heap.size + 1 + 1, v, none⟩ (.int .i64 z)).drew Bx 3 (.int .i64 (v : Int))) := (heap_setCell_other _ _ _ _ (show Bx ≠ w.heap.size + 1 + 1 by omega)).trans k3
      have hk4 : Hid (Boxed (W'.setCell ⟨w.heap.size + 1 + 1, v, none⟩ (.int .i64 z)).drew W.heap.size 22 (.slice A n c)) := (heap_setCell_other _ _ _ _ (show W.heap.size ≠ w.heap.size + 1 + 1 by omega)).trans k4
      have hq' : Hid (KeepR (w.heap.size + 1 + 1) 0 n (w.heap.size + 1 + 1 + 1 + 1) W' (W'.setCell ⟨w.heap.size + 1 + 1, v, none⟩ (.int .i64 z)).drew) := ⟨fun j hj _ => hset.out.nums j hj, hset.out.bB.trans (show W'.heap[_]? = _ from k1.bB).symm⟩
      have hq5' : Hid (KeepR (w.heap.size + 1 + 1) 0 n (w.heap.size + 1 + 1 + 1 + 1) W (W'.setCell ⟨w.heap.size + 1 + 1, v, none⟩ (.int .i64 z)).drew) := k5.t hq'.out
      have hf : ∀ B, KeepsFrom B W' (W'.setCell ⟨w.heap.size + 1 + 1, v, none⟩ (.int .i64 z)).drew := fun B => ((KeepsOthers.setCell W' _ _).trans (KeepsOthers.drew _)).from B
      have hF := Lib.hid hf
      have hK6 := Lib.hid (k6.trans (hf W0.heap.size))
      have hKK : Hid (KeepK w.heap.size W.heap.size W' (W'.setCell ⟨w.heap.size + 1 + 1, v, none⟩ (.int .i64 z)).drew) := ⟨(below_setCell (Below.refl _ _) (by omega) _).drew, hk4.out.trans (show W'.heap[_]? = _ from k4).symm⟩
      have cS := k1.bS.cell
      have cX := k3.cell
      have cA1 := k1.bA.2.1
      rw [hu.out]
      have hsm : (s : Int) < (m : Int) := by omega
      have hqm : (q : Int) < (m : Int) := by omega
      have hs0 : (0 : Int) ≤ (s : Int) := by omega
      have hq0 : (0 : Int) ≤ (q : Int) := by omega
      have hu0 : (0 : Int) ≤ (u : Int) := by omega
      have huN : (u : Int) < (n : Int) := by omega
      clear hkey hz1 r1 r2 hf k1 k2 k3 k4 k5 k6 hbl hbl1
      gi_wp2
      refine region_round_tail 17 (by kernel_rfl) (by kernel_rfl) (by kernel_rfl) (fun ⟨_, _, h⟩ => h) ?_
      simp only [List.take_succ_cons, List.take_zero, List.drop_succ_cons, List.drop_zero]
      repeat still_step
      try refine wpStill_nil ?_
      go_wp2
      exact ⟨hF.out _, hKK.out, _, hset.out, hK.out, hk3.out, hk4.out, hq5'.out, hK6.out⟩
    case done2 =>
      rintro ys' W' rfl ⟨R', k1, k2, k3, k4, k5, k6⟩
      gi_wp2
      refine ⟨k6, k5, R', k1, fun hp hl2 => ?_⟩
      rw [List.map_append, List.length_append, List.length_singleton, List.range_succ] at hp
      obtain ⟨e1, e2⟩ := List.append_inj' hp rfl
      have e3 : x.1 = pre.length := by simpa using e2
      have hv2 : pre.length + 1 + v = n := by omega
      rw [k2 e1 hv2 (by simp) (by simp)]
      have := M.mid_end (Ss := Ss) (st := st) (xs := xs) (k := pre.length) (v := v) (d := d) (by rw [hn.out]; exact hv2) Hd.out
      rw [hn.out] at this
      rw [List.length_append, List.length_singleton, ← this]
      simp
    case stop2 =>
      rintro cc pre' W' _ h
      exact h.elim
  case done =>
    rintro D zs W hD hzs ⟨R, h1, h2⟩ hK
    have hlz : zs.length = n := by have := congrArg List.length hzs; simpa using this
    have hRR := h2 (by rw [hlz]; exact hzs) (by omega)
    rw [hlz] at hRR
    have hst2 : M.states Ss st xs = R := by rw [hRR, M.states, hn.out]
    have cS := h1.bS.cell
    have ho := Lib.hid h1.own
    have hB := Lib.hid h1.be
    have Hst := Lib.hid hst2
    clear h1 h2 hRR hst2
    gi_wp2
    refine ⟨by simp, .inl ⟨_, _, rfl, run_takeDeferred hK, ?_⟩⟩
    refine ⟨_, results_tmp rfl _ _ _, rfl, ?_, hB.out.trans (belowK_b (w := w) (Nat.le_refl _) W D _ _ (by omega) hK rfl rfl)⟩
    rw [Hst.out]
    exact ownsRow_putObj ho.out _ hK rfl
  case stop =>
    rintro D cc pre W _ _ h _
    exact h.elim
end Go.Proofs.Ytcipafjibkclcaa
