/- evenIn: the columns of the even drawing, the program's. -/
import Derived.Test.YtamnilpmdccgoaaEvenIn
import Derived.Test.YtamnilpmdccgoaaBackAny
import Derived.Test.YtamnilpmdccgoaaRound
import Derived.Test.YtamnilpmdccgoaaKids
import Derived.Test.YtamnilpmdccgoaaPost
import Derived.StillTailTactics
import Derived.Shelf.RegionOpen
namespace Go.Proofs.Ytamnilpmdccgoaa
open Go.RowKit Go.Shelf Go.Maps
attribute [local go_sem] Oper.semAt_some

theorem boxed_rowE {W : World} {B g k : Nat} {t : TypeId} {v : Value} (h : Boxed W B t v) (hne : B ≠ g) (u : Value) : Boxed (W.setCell ⟨g, k, none⟩ u) B t v := (heap_setCell_other _ _ _ _ hne).trans h
theorem boxed_be {W W' : World} {B : Nat} {t : TypeId} {v : Value} (h : Boxed W B t v) (hb : Below W.heap.size W W') : Boxed W' B t v := (hb.block B h.lt).trans h
theorem keepsFrom_be {B : Nat} {W W' : World} (hb : Below W.heap.size W W') : KeepsFrom B W W' := ⟨hb.size, fun k _ _ hk _ => (hb.block k (Array.getElem?_eq_some_iff.1 hk).1).trans hk⟩

theorem takeE {P : Program} {ops : Array Oper} {Q : Exit → Act → World → Prop} {md : Region.Mode} {S : World → Prop} {oi : Oper} {fuel : Nat} {listed : Array Bool} {a : Act} {w : World} (i : Nat) (d : Option Tmp) (v : Value) (hi : ops[i]? = some oi) (hd : oi.dst = d)
    (hs : Region.noSelect ops = true) (hf : Region.free md ops listed i = true) (hr : (Region.ready md ops listed).contains i = true)
    (hQ : ∀ c a w, Q (.panic c) (a.put d v) w → Q (.panic c) a w) (hw : Region.wanted oi (yielded ops a.tmps) = true) (hy : ∀ w, S w → (execOp a.eval oi).run P w = .ok (.value v) w) (hS : S w)
    (h : wpAnyH P md ops Q S fuel (listed.setIfInBounds i true) (a.put d v) w) : wpAnyH P md ops Q S (fuel + 1) listed a w := by
  subst hd; exact wpAnyH_take hi hs hf hr hQ (.inl ⟨hw, hy⟩) hS h

/-- what a round finds: a row of small numbers, its box, the box of the degrees -/
structure EvI (w : World) (A : Option Addr) (n c : Nat) (W : World) (lo hi : Int) (R : List Int) : Prop where
  len : R.length = n
  rng : ∀ x ∈ R, lo ≤ x ∧ x ≤ hi
  own : Own64 W w.heap.size (.slice (some ⟨w.heap.size + 1, 0, none⟩) n n) R
  bG : Boxed W w.heap.size 22 (.slice A n c)
  bR : Boxed W (w.heap.size + 1 + 1) 22 (.slice (some ⟨w.heap.size + 1, 0, none⟩) n n)
  be : Below w.heap.size w W
section
variable {w : World} {A : Option Addr} {n c : Nat} {W W' : World} {lo hi : Int} {R : List Int}
theorem EvI.kept {row : Option Nat} (h : EvI w A n c W lo hi R) (hg : W.grownBy W' row) (hr : ∀ r, row = some r → w.heap.size + 3 ≤ r) : EvI w A n c W' lo hi R where
  len := h.len
  rng := h.rng
  own := h.own.kept hg (.inr fun e => by have h2 := hr (w.heap.size + 1) e.symm; omega)
  bG := h.bG.kept hg (fun e => by have := hr _ e.symm; omega)
  bR := h.bR.kept hg (fun e => by have := hr _ e.symm; omega)
  be := h.be.grown hg h.be.size (fun k e => by have := hr _ e; omega)
theorem EvI.below (h : EvI w A n c W lo hi R) (hb : Below W.heap.size W W') : EvI w A n c W' lo hi R := ⟨h.len, h.rng, own_be h.own hb, boxed_be h.bG hb, boxed_be h.bR hb, h.be.trans (hb.mono h.be.size)⟩
theorem EvI.set {v : Nat} {x : Int} (h : EvI w A n c W lo hi R) (h0 : lo ≤ x) (h1 : x ≤ hi) : EvI w A n c (W.setCell ⟨w.heap.size + 1, v, none⟩ (.int .i64 x)) lo hi (R.set v x) where
  len := by rw [List.length_set]; exact h.len
  rng := fun y hy => by
    rcases List.mem_or_eq_of_mem_set hy with h2 | rfl
    · exact h.rng y h2
    · exact ⟨h0, h1⟩
  own := own64_set h.own h.len v x
  bG := boxed_rowE h.bG (by omega) _
  bR := boxed_rowE h.bR (by omega) _
  be := below_setCell h.be (by omega) _
theorem EvI.at_ (h : EvI w A n c W lo hi R) {v : Nat} (hv : v < n) : ∃ x, R[v]? = some x ∧ lo ≤ x ∧ x ≤ hi ∧ W.cell? ⟨w.heap.size + 1, v, none⟩ = some (.int .i64 x) ∧ W.frozen? ⟨w.heap.size + 1, v, none⟩ = false ∧ w.heap.size + 1 < W.heap.size := by
  have hl := h.len
  have h1 := List.getElem?_eq_getElem (l := R) (i := v) (by omega)
  obtain ⟨h2, h3⟩ := h.rng _ (List.getElem_mem (l := R) (n := v) (by omega))
  obtain ⟨c1, c2, _, c3⟩ := own64_cell h.own h.len h1
  exact ⟨_, h1, h2, h3, c1, c2, c3⟩
end
theorem evI_start (w : World) (A : Option Addr) (n c : Nat) (hn : n ≤ 1000) : EvI w A n c (((w.alloc (.cells #[.slice A n c] 22)).alloc (.cells (madeCells #[.int .i64 0] n) 2)).alloc (.cells #[.slice (some ⟨w.heap.size + 1, 0, none⟩) n n] 22)) 0 48 (List.replicate n 0) := by
  have ho := own64_made (w := w.alloc (.cells #[.slice A n c] 22)) (B := w.heap.size) (n := n) (by simp) (by unfold maxLen; omega)
  have bR := Boxed.new ((w.alloc (.cells #[.slice A n c] 22)).alloc (.cells (madeCells #[.int .i64 0] n) 2)) 22 (.slice (some ⟨w.heap.size + 1, 0, none⟩) n n)
  simp only [World.size_alloc] at ho bR
  exact ⟨by simp, fun x hx => by have := List.eq_of_mem_replicate hx; omega, ho.alloc _, ((Boxed.new w _ _).alloc _).alloc _, bR, bal (bal (bal (b0 w) _) _) _⟩

set_option maxRecDepth 100000 in
set_option maxHeartbeats 8000000 in
theorem evenIn_in (A : Option Addr) (xs : List Int) (c : Nat) (w : World) (hcl : xs.length ≤ c) (hcu : c ≤ 1000000000000) (ht : Hid (M.isTree xs = true)) (hI : Hid (Ints w w.heap.size A xs)) :
    CallsIn Fence.wide 5 Try.prog 74 #[.slice A xs.length c] w fun e w' => ∃ A' c', e = .returned (.slice A' xs.length c') ∧ Hid (Own64 w' w.heap.size (.slice A' xs.length c') (M.evens xs)) ∧ Below w.heap.size w w' := by
  have hlen := M.tree_len ht.out
  have hx := hlen.2
  have hmk := run_make_row' (P := Try.prog) 22 2 (.int .i64 0) 8 Try.underlying22 info64 rfl .i64 .i64 xs.length (by omega) (by omega)
  obtain ⟨b, off, rfl, hbB, hcells⟩ := hI.out (by omega)
  have Hcells := Lib.hid hcells
  have hS0 : Hid (EvI w (some ⟨b, off, none⟩) xs.length c (((w.alloc (.cells #[.slice (some ⟨b, off, none⟩) xs.length c] 22)).alloc (.cells (madeCells #[.int .i64 0] xs.length) 2)).alloc (.cells #[.slice (some ⟨w.heap.size + 1, 0, none⟩) xs.length xs.length] 22)) 0 48 (M.evLeafRow xs 0)) := by
    rw [M.evLeaf_zero]; exact evI_start w _ xs.length c (by omega)
  clear hcells
  refine callsIn_of_wp_marks Try.func74 rfl trivial ?_ rfl
  simp only [Try.ntmps74, List.size_toArray, List.length_cons, List.length_nil, Nat.reduceAdd, Nat.reduceSub, Array.replicate_succ, Array.replicate_zero, List.push_toArray, List.append_toArray, List.nil_append, List.cons_append]
  gi_wp2
  clear hmk
  gi_loopw [4, 5, 6, 14] (fun q _ _ i wr => ∃ (k : Nat) (y : Int), k ≤ xs.length ∧ i = .int .i64 (k : Int) ∧ q = .int .i64 y ∧ Hid (M.evL xs k = y) ∧ Hid (EvI w (some ⟨b, off, none⟩) xs.length c wr 0 48 (M.evLeafRow xs k))) (fun _ _ _ i _ => xs.length - (intOf i).toNat)
  case atStart => exact ⟨0, 0, Nat.zero_le _, rfl, rfl, rfl, hS0⟩
  case round =>
    obtain ⟨k, y, hk, rfl, rfl, hy, hS⟩ := hrel
    clear hS0
    by_cases hlt : k < xs.length
    · obtain ⟨x, hX⟩ : ∃ x, xs[k]? = some x := ⟨_, List.getElem?_eq_getElem hlt⟩
      have g := (hS.out.be.cell (p := ⟨b, off + k, none⟩) hbB).trans (Hcells.out k _ hX)
      have hyb := M.evL_bounds xs k
      rw [hy.out] at hyb
      have hkn : (k : Int) < (xs.length : Int) := by omega
      have hk0 : (0 : Int) ≤ (k : Int) := by omega
      obtain ⟨z, hz, _, _, c1, f1, _⟩ := hS.out.at_ hlt
      have cR := hS.out.bR.cell
      clear hz
      by_cases hx0 : x = 0
      · have hq : (x == 0) = true := by simp [hx0]
        obtain ⟨hs1, hs2⟩ := M.evLeaf_hit (hx0 ▸ hX) hy.out
        have hset := hS.out.set (v := k) (x := y) (by omega) (by omega)
        rw [hs1] at hset
        have Hset := Lib.hid hset
        have Hs2 := Lib.hid hs2
        clear hset hs1 hs2 hX hx0
        gi_wp2
        go_roundw
        case rel => exact ⟨k + 1, y + 2, by omega, by go_num, rfl, Hs2, Hset⟩
        case measure => simp [intOf]; omega
      · have hq : (x == 0) = false := by simp [hx0]
        obtain ⟨hs1, hs2⟩ := M.evLeaf_miss hX hx0
        rw [hs1] at hS
        rw [hy.out] at hs2
        have Hs2 := Lib.hid hs2
        clear hs1 hs2 hX hx0
        gi_wp2
        go_roundw
        case rel => exact ⟨k + 1, y, by omega, by go_num, rfl, Hs2, hS⟩
        case measure => simp [intOf]; omega
    · obtain rfl : k = xs.length := by omega
      have cG := hS.out.bG.cell
      gi_wp2_with (refine ⟨trivial, ?_⟩; gi_at_call 119; refine (backIn 4 (some ⟨b, off, none⟩) xs.length c _).mono ?_; rintro e w' ⟨rfl, rfl⟩)
      have bB := Boxed.new wr 22 (.slice (some ⟨b, off, none⟩) xs.length c)
      have hzr := hS.out.bR.lt
      have hS1 := hS.out.below (bal (b0 wr) (.cells #[.slice (some ⟨b, off, none⟩) xs.length c] 22))
      obtain ⟨W0, hW0⟩ : ∃ W0, W0 = wr.alloc (.cells #[.slice (some ⟨b, off, none⟩) xs.length c] 22) := ⟨_, rfl⟩
      have hsz : W0.heap.size = wr.heap.size + 1 := by rw [hW0]; simp
      have hwB := hS.out.be.size
      rw [← hW0] at bB hS1 ⊢
      clear hW0 cG hS hy
      obtain ⟨Bb, hBb⟩ : ∃ Bb, wr.heap.size = Bb := ⟨_, rfl⟩
      rw [hBb] at hzr hsz bB hwB ⊢
      clear hBb
      have hN0 : NumsAt b off xs.length W0 := fun j hj => ⟨xs[j], (hS1.be.cell (p := ⟨b, off + j, none⟩) hbB).trans (Hcells.out j _ (List.getElem?_eq_getElem hj))⟩
      have h15 : 1 ≤ 5 := by omega
      refine wpIn_rangeFunc_ownG (α := Nat × Int) rfl h15 (gf := 154) (lb := #[.pointer (some ⟨Bb, 0, none⟩)]) rfl trivial (enters_of Try.func154 (by kernel_rfl) rfl)
        (back_any 4 (by omega) Bb b off xs.length c (by omega) W0 bB hN0) (fun h k => h.t k) (KeepR.b (by omega) (by omega)) (Below.refl _ _) (fun _ => rfl)
        (fun pre W => ∃ R, EvI w (some ⟨b, off, none⟩) xs.length c W 0 48 R ∧ Boxed W Bb 22 (.slice (some ⟨b, off, none⟩) xs.length c) ∧ (pre.map Prod.fst = List.range pre.length → pre.length ≤ xs.length → R = M.evRow xs pre.length))
        (fun _ _ _ => False)
        (fun pre X Y row ⟨R, h1, h2, h3⟩ hg hr => ⟨R, h1.kept hg (fun r e => by have := (hr r e).1; omega), h2.kept hg (fun e => by have := (hr _ e.symm).1; omega), h3⟩)
        (fun _ _ _ _ _ hs _ _ => hs)
        ⟨_, hS1, bB, fun _ _ => rfl⟩
        (fun x => { tmps := #[.slice (some ⟨b, off, none⟩) xs.length c, .pointer (some ⟨w.heap.size, 0, none⟩), .slice none 0 0, .pointer (some ⟨w.heap.size + 1 + 1, 0, none⟩), .int .i64 y, u5, u6, .int .i64 ((xs.length - 1 - x.1 : Nat) : Int), undef, .slice (some ⟨b, off, none⟩) xs.length c, .int .i64 xs.length, .slice (some ⟨w.heap.size + 1, 0, none⟩) xs.length xs.length, .slice (some ⟨b, off, none⟩) xs.length c, .int .i64 xs.length, .int .i64 xs.length, .bool false, u16, u17, u18, u19, u20, u21, u22, u23, u24, u25, u26, u27, .slice (some ⟨b, off, none⟩) xs.length c, .func (.func 154) #[] #[.pointer (some ⟨Bb, 0, none⟩)], .int .i64 ((xs.length - 1 - x.1 : Nat) : Int), .int .i64 x.2, undef, undef, undef, undef, undef, undef, undef, undef, undef, undef, undef, undef, undef], defers := [] }) ?assign ?body ?done ?stop
      case assign =>
        intro l x W K hK
        gi_wp2
        exact hK
      case body =>
        rintro l pre x W ⟨R, h1, h2, h3⟩ hlt
        obtain ⟨v, hv⟩ : ∃ v, xs.length - 1 - x.1 = v := ⟨_, rfl⟩
        have hvn : v < xs.length := by omega
        rw [hv]
        obtain ⟨d, hd, hd24⟩ := M.tree_degN ht.out hvn
        have Hd := Lib.hid hd
        have hkey : ∀ z : Int, (∀ e : Nat, d = e + 1 → ∃ x y, R[M.kidAt xs v 0]? = some x ∧ R[M.kidAt xs v e]? = some y ∧ z = M.half (x + y)) → (pre ++ [x]).map Prod.fst = List.range (pre ++ [x]).length → (pre ++ [x]).length ≤ xs.length → (if d = 0 then R else R.set v z) = M.evRow xs (pre ++ [x]).length := fun z hz hp hl => by
          rw [List.map_append, List.length_append, List.length_singleton, List.range_succ] at hp
          obtain ⟨e1, e2⟩ := List.append_inj' hp rfl
          have e3 : x.1 = pre.length := by simpa using e2
          rw [List.length_append, List.length_singleton] at hl ⊢
          have hR := h3 e1 (by omega)
          have hvm : xs.length = v + (pre.length + 1) := by omega
          cases d with
          | zero => rw [if_pos rfl, hR, M.evRow_leaf hvm hd]
          | succ e =>
            obtain ⟨x', y', k1, k2, k3⟩ := hz e rfl
            rw [hR] at k1 k2
            rw [if_neg (by omega), hR, k3, M.evRow_node hvm hd k1 k2]
        have cG := h1.bG.cell
        have hIW : Ints W W.heap.size (some ⟨b, off, none⟩) xs := (hI.out.be h1.be)
        have HC := Lib.hid (childrenIn (some ⟨b, off, none⟩) xs c v d W hx hcl (by omega) ht Hd hIW)
        have H1 := Lib.hid h1
        have H2 := Lib.hid h2
        have hkR : Hid (∀ W', Below W.heap.size W W' → KeepR b off xs.length Bb W W') := fun W' hb => ⟨fun j _ ⟨z, hz⟩ => ⟨z, (hb.cell (p := ⟨b, off + j, none⟩) (by have := World.block_lt_of_cell? _ _ hz; exact this)).trans hz⟩, hb.block Bb h2.lt⟩
        clear hd h1 h2 h3 hIW
        rcases Nat.eq_zero_or_pos d with h0 | h0
        · subst h0
          have hk0 := Lib.hid (hkey 0 (fun e he => by omega))
          rw [if_pos rfl] at hk0
          clear hkey
          gi_wp2_with (refine ⟨trivial, ?_⟩; gi_at_call 120; refine (CallsIn.inRound l (callsIn_wide.2 HC.out)).mono ?_; rintro e W2 ⟨Ac, cc, rfl, ho, hb⟩)
          exact ⟨keepsFrom_be hb, hkR.out W2 hb, R, H1.out.below hb, boxed_be H2.out hb, hk0.out⟩
        · obtain ⟨e, rfl⟩ : ∃ e, d = e + 1 := ⟨d - 1, by omega⟩
          have hp1 := M.kid_lt ht.out Hd.out (i := 0) (by omega)
          have hq1 := M.kid_lt ht.out Hd.out (i := e) (by omega)
          obtain ⟨x1, r1, b1, b2, _⟩ := H1.out.at_ hp1
          obtain ⟨y1, r2, b3, b4, _⟩ := H1.out.at_ hq1
          have hhb := M.half_bounds (n := x1 + y1) (a := 0) (b := 48) (by omega) (by omega)
          have hzz : ∀ e' : Nat, e + 1 = e' + 1 → ∃ x y, R[M.kidAt xs v 0]? = some x ∧ R[M.kidAt xs v e']? = some y ∧ M.half (x1 + y1) = M.half (x + y) := fun e' he => by
            obtain rfl : e = e' := by omega
            exact ⟨x1, y1, r1, r2, rfl⟩
          have hk0 := Lib.hid (hkey (M.half (x1 + y1)) hzz)
          rw [if_neg (by omega)] at hk0
          have hde : (0 : Int) < ((e + 1 : Nat) : Int) := by omega
          have hd1 : Hid ((M.childs xs v (e + 1))[0]? = some (M.kidAt xs v 0 : Int)) := M.childs_at xs v (by omega)
          have hd2 : Hid ((M.childs xs v (e + 1))[e + 1 - 1]? = some (M.kidAt xs v e : Int)) := M.childs_at xs v (by omega)
          have hcl2 : Hid ((M.childs xs v (e + 1)).length = e + 1) := M.childs_length xs v _
          have hRl : Hid (R.length = xs.length) := H1.out.len
          have R1 := Lib.hid r1
          have R2 := Lib.hid r2
          obtain ⟨d', hd'⟩ : ∃ d', d' = e + 1 := ⟨_, rfl⟩
          rw [← hd'] at HC hd1 hd2 hcl2 hde
          have hdB : 0 < d' ∧ d' ≤ 1000 := by omega
          clear hkey r1 r2 hd' hzz
          gi_wp2_with (refine ⟨trivial, ?_⟩; gi_at_call 120; refine (CallsIn.inRound l (callsIn_wide.2 HC.out)).mono ?_; rintro e W2 ⟨Ac, cc, rfl, ho, hb⟩)
          have S2 := H1.out.below hb
          have cR0 : W2.drew.cell? ⟨w.heap.size + 1 + 1, 0, none⟩ = some (.slice (some ⟨w.heap.size + 1, 0, none⟩) xs.length xs.length) := S2.bR.cell
          obtain ⟨z0, _, _, _, cv, fv, _⟩ := S2.at_ hvn
          have hO2 : Hid (Ints W2.drew W2.drew.heap.size (some ⟨w.heap.size + 1, 0, none⟩) R) := ints_of_own64 S2.own
          have hC2 : Hid (Ints W2.drew W2.drew.heap.size Ac (M.childs xs v d')) := ints_of_own64 ho
          have HA := Lib.hid (columnAbove (some ⟨w.heap.size + 1, 0, none⟩) Ac R (M.childs xs v d') xs.length xs.length d' cc _ _ x1 y1 W2.drew (by omega) hdB.1 hdB.2 hO2 hC2 hRl hcl2 hd1 hd2 R1 R2 (by omega) (by omega) (by omega) (by omega))
          have hFin : Hid (∀ k, KeepsFrom W0.heap.size W ((W2.drewN k).setCell ⟨w.heap.size + 1, v, none⟩ (.int .i64 (M.half (x1 + y1)))) ∧ KeepR b off xs.length Bb W ((W2.drewN k).setCell ⟨w.heap.size + 1, v, none⟩ (.int .i64 (M.half (x1 + y1)))) ∧ EvI w (some ⟨b, off, none⟩) xs.length c ((W2.drewN k).setCell ⟨w.heap.size + 1, v, none⟩ (.int .i64 (M.half (x1 + y1)))) 0 48 (R.set v (M.half (x1 + y1))) ∧ Boxed ((W2.drewN k).setCell ⟨w.heap.size + 1, v, none⟩ (.int .i64 (M.half (x1 + y1)))) Bb 22 (.slice (some ⟨b, off, none⟩) xs.length c)) := fun k => by
            have hb3 : Below W.heap.size W (W2.drewN k) := below_drewN hb k
            refine ⟨(keepsFrom_be hb3).trans ((KeepsOthers.setCell _ _ _).from _), (hkR.out _ hb3).t ⟨fun j _ ⟨z, hz⟩ => ⟨z, ((below_setCell (Below.refl w.heap.size _) (by omega) _).cell (p := ⟨b, off + j, none⟩) hbB).trans hz⟩, heap_setCell_other _ _ _ _ (show Bb ≠ w.heap.size + 1 by omega)⟩, (H1.out.below hb3).set hhb.1 hhb.2, boxed_rowE (boxed_be H2.out hb3) (by omega) _⟩
          have hvi : (v : Int) < (xs.length : Int) := by omega
          have hv0 : (0 : Int) ≤ (v : Int) := by omega
          have hmix : Try.prog.follows .mixedOrders = true := by kernel_rfl
          clear hO2 hC2 HC S2 hb ho
          generalize M.half (x1 + y1) = Z at *
          refine region_round (S := fun w' => w'.cell? ⟨w.heap.size + 1 + 1, 0, none⟩ = some (.slice (some ⟨w.heap.size + 1, 0, none⟩) xs.length xs.length)) hmix (noDefer_of (by kernel_rfl)) (fun ⟨_, _, h⟩ => h) ?_
          have hH0 := cR0
          refine takeE 0 (some 38) (.slice (some ⟨w.heap.size + 1, 0, none⟩) xs.length xs.length) rfl rfl (by kernel_rfl) (by kernel_rfl) (by kernel_rfl) (fun _ _ _ h => h) (by rfl) (by intro w hSw; (try dsimp only at hSw); go_simp) (by assumption) ?_
          try simp only [Act.put, List.setIfInBounds_toArray, List.set_cons_zero, List.set_cons_succ]
          refine takeE 1 (some 39) (.int .i64 (v : Int)) rfl rfl (by kernel_rfl) (by kernel_rfl) (by kernel_rfl) (fun _ _ _ h => h) (by rfl) (by intro w hSw; (try dsimp only at hSw); go_simp) (by assumption) ?_
          try simp only [Act.put, List.setIfInBounds_toArray, List.set_cons_zero, List.set_cons_succ]
          refine takeE 2 (some 40) (.slice (some ⟨w.heap.size + 1, 0, none⟩) xs.length xs.length) rfl rfl (by kernel_rfl) (by kernel_rfl) (by kernel_rfl) (fun _ _ _ h => h) (by rfl) (by intro w hSw; (try dsimp only at hSw); go_simp) (by assumption) ?_
          try simp only [Act.put, List.setIfInBounds_toArray, List.set_cons_zero, List.set_cons_succ]
          refine takeE 3 (some 41) (.slice Ac d' cc) rfl rfl (by kernel_rfl) (by kernel_rfl) (by kernel_rfl) (fun _ _ _ h => h) (by rfl) (by intro w hSw; (try dsimp only at hSw); go_simp) (by assumption) ?_
          try simp only [Act.put, List.setIfInBounds_toArray, List.set_cons_zero, List.set_cons_succ]
          refine wpAnyH_ready (rs := [4]) (by kernel_rfl) (by simp) ?_
          refine AllReadyH.cons rfl (fun K hK => ?_) AllReadyH.nil
          go_simp
          go_at_call 121
          refine HA.out.mono ?_
          rintro e W3 ⟨rfl, kk, rfl⟩
          go_wp2_with fail
          have hH1 : (W2.drew.drewN kk).cell? ⟨w.heap.size + 1 + 1, 0, none⟩ = some (.slice (some ⟨w.heap.size + 1, 0, none⟩) xs.length xs.length) := cR0
          have cv3 : (W2.drew.drewN kk).cell? ⟨w.heap.size + 1, v, none⟩ = some (.int .i64 z0) := cv
          have fv3 : (W2.drew.drewN kk).frozen? ⟨w.heap.size + 1, v, none⟩ = false := fv
          refine hK.out _ _ hH1 (fun hHeld => ?_)
          clear hK K hHeld
          try simp only [Act.put, List.setIfInBounds_toArray, List.set_cons_zero, List.set_cons_succ]
          refine takeE 5 (some 43) (.pointer (some ⟨w.heap.size + 1, v, none⟩)) rfl rfl (by kernel_rfl) (by kernel_rfl) (by kernel_rfl) (fun _ _ _ h => h) (by rfl) (by intro w hSw; (try dsimp only at hSw); go_simp) (by assumption) ?_
          try simp only [Act.put, List.setIfInBounds_toArray, List.set_cons_zero, List.set_cons_succ]
          refine wpAnyH_ready (rs := [6]) (by kernel_rfl) (by simp) ?_
          refine AllReadyH.cons rfl (fun K hK => ?_) AllReadyH.nil
          go_simp
          refine hK.out _ _ ?_ (fun hHeld => ?_)
          · exact (World.cell?_setCell_far _ _ _ _ (show w.heap.size + 1 ≠ w.heap.size + 1 + 1 by omega)).trans hH1
          clear hK K hHeld
          refine wpAnyH_done (by kernel_rfl) ?_ _
          go_wp2
          exact ⟨(hFin.out (1 + kk)).1, (hFin.out (1 + kk)).2.1, _, (hFin.out (1 + kk)).2.2.1, (hFin.out (1 + kk)).2.2.2, hk0.out⟩
      case done =>
        rintro D zs W hD hzs ⟨R, h1, h2, h3⟩ hK
        have hlz : zs.length = xs.length := by have := congrArg List.length hzs; simpa using this
        have hRR := h3 (by rw [hlz]; exact hzs) (by omega)
        rw [hlz] at hRR
        subst hRR
        have cR := h1.bR.cell
        have HK := Lib.hid hK
        have ho := Lib.hid h1.own
        have hB := Lib.hid h1.be
        clear h1 h2 h3 hK
        gi_wp2
        refine ⟨by simp, .inl ⟨_, _, rfl, run_takeDeferred HK.out, ?_⟩⟩
        exact ⟨_, results_tmp rfl _ _ _, _, _, rfl, ownsRow_putObj ho.out _ HK.out rfl, hB.out.trans (belowK_b (w := w) (Nat.le_refl _) W D _ _ (by omega) HK.out rfl rfl)⟩
      case stop =>
        rintro D cc pre W _ _ h _
        exact h.elim
end Go.Proofs.Ytamnilpmdccgoaa
