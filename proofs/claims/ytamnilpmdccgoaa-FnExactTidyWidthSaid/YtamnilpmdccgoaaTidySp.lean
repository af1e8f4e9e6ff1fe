/- l08Tidy: the columns of a subtree drawn alone, the model's. -/
import Derived.Test.YtamnilpmdccgoaaByTo
import Derived.Test.YtamnilpmdccgoaaTidyAux
import Derived.Test.YtamnilpmdccgoaaKids
import Derived.Maps.AppendAt
import Derived.Test.YtamnilpmdccgoaaEvenIn
import Derived.StillTailTactics
import Derived.Deep.RegionHeld3
namespace Go.Proofs.Ytamnilpmdccgoaa
open Go.RowKit

namespace M
theorem putBy_step {l own : List Int} {b : Nat} {y z : Int} (h : own[b]? = some y) : l ++ (own.take b).map (· + z) ++ [y + z] = l ++ (own.take (b + 1)).map (· + z) := by
  rw [List.take_add_one, h]
  simp
end M

theorem one64T {w : World} {B : Nat} (hB : B ≤ w.heap.size) (x : Int) : Own64 (w.alloc (.cells #[.int .i64 x] 2)) B (.slice (some ⟨w.heap.size, 0, none⟩) 1 1) [x] :=
  ⟨by simp, .inr ⟨w.heap.size, 1, #[.int .i64 x], rfl, hB, heap_alloc_new w _, by simp, by simp [maxLen], by simp, by simp⟩⟩
theorem grown_beS {w w' : World} (h : Below w.heap.size w w') (row : Option Nat) : w.grownBy w' row := ⟨h.os, h.tape, h.output, h.size, fun k hk _ => h.block k hk⟩
theorem grown_two {a b c : World} {g0 g : Nat} (h : a.grownBy b (some g0)) (k : b.grownBy c (some g)) (hb : g = g0 ∨ a.heap.size ≤ g) : a.grownBy c (some g0) :=
  ⟨k.os.trans h.os, k.tape.trans h.tape, k.output.trans h.output, Nat.le_trans h.size k.size, fun i hi hne => (k.block i (Nat.lt_of_lt_of_le hi h.size) (fun e => by injection e with e; rcases hb with hb | hb <;> first | exact hne (by rw [e, hb]) | omega)).trans (h.block i hi hne)⟩
theorem grown_cell {a b : World} {g0 : Nat} (h : a.grownBy b (some g0)) {p : Addr} {u : Value} (hc : a.cell? p = some u) (hne : p.block ≠ g0) : b.cell? p = some u :=
  (World.cell?_of_block (h.block p.block (World.block_lt_of_cell? _ _ hc) (fun e => by injection e with e; exact hne e))).trans hc
theorem ints_grown {a b : World} {g0 n : Nat} {A : Option Addr} {zs : List Int} (h : Ints a n A zs) (hg : a.grownBy b (some g0)) (hn : n ≤ g0) : Ints b n A zs := fun hz => by
  obtain ⟨b', off', e, hb, hc⟩ := h hz
  exact ⟨b', off', e, hb, fun j x hx => grown_cell hg (hc j x hx) (by show b' ≠ g0; omega)⟩
theorem own_headS {w : World} {B n c : Nat} {A : Option Addr} {zs : List Int} (h : Own64 w B (.slice A n c) zs) (hz : 0 < n) : ∃ g, A = some ⟨g, 0, none⟩ ∧ B ≤ g ∧ g < w.heap.size := by
  have hl := own64_len h
  rcases h.2 with ⟨e, h0⟩ | ⟨g, cap, cur, hv, _⟩
  · omega
  · injection hv with e1
    subst e1
    exact ⟨g, rfl, World.ownsRow.lt h g rfl⟩

theorem push64T {ops : Array Oper} {rest : List Oper} {o : Oper} {a : Act} {Q : Exit → Act → World → Prop} (hgd : o.guard = none) (s x : Operand)
    (ho : o.op = .call { callee := .builtin .append, args := #[s, x], argTypes := #[22, 22] }) (w : World) (B : Nat) (A : Option Addr) (n c : Nat) (zs : List Int) (y : Int)
    (hs : a.eval s = .slice A n c) (N : Nat) (hx : a.eval x = .slice (some ⟨N, 0, none⟩) 1 1) (hN : N = w.heap.size) (hown : Hid (Own64 w B (.slice A n c) zs)) (hB : B ≤ w.heap.size) (hlen : n ≤ 1000000)
    (h : ∀ A' c' w', Hid (Own64 w' B (.slice A' (n + 1) c') (zs ++ [y])) → Hid ((w.alloc (.cells #[.int .i64 y] 2)).grownBy w' (Value.slice A n c).ownBlock) → Hid ((Value.slice A' (n + 1) c').ownBlock = (Value.slice A n c).ownBlock ∨ (Value.slice A' (n + 1) c').ownBlock = some (w.alloc (.cells #[.int .i64 y] 2)).heap.size) → wpList Try.prog ops Q rest (a.put o.dst (.slice A' (n + 1) c')) w') :
    wpList Try.prog ops Q (o :: rest) a (w.alloc (.cells #[.int .i64 y] 2)) := by
  subst hN
  obtain ⟨i0, hi0, hz0, hz1, hz2⟩ := info_parts info64
  have hown := hown.out
  have hn := own64_len hown
  subst hn
  refine wpList_append_own_at _ hgd s x 22 ho B 2 i0 (.int .i64 0) 1 8 Try.underlying22 hi0 hz0 hz1 hz2 rfl (by decide) _ zs.length (zs.map (Value.int .i64)) hs (hown.alloc _) ⟨w.heap.size, 0, none⟩ 1 1 [.int .i64 y] hx rfl ?_ ?_ ?_ ?_ ?_ ?_
  · intro j u hj
    match j, hj with
    | 0, hj => simp at hj; subst hj; simp [Addr.add]
  · intro u hu; simp at hu; subst hu; rfl
  · unfold maxLen; omega
  · omega
  · simp; omega
  · intro v' w1 hown1 hg1 _ hwh
    obtain ⟨A, c, rfl⟩ : ∃ A c, v' = .slice A (zs.length + 1) c := own_shape hown1
    refine h A c w1 ?_ hg1 hwh
    have e : (zs ++ [y]).length = zs.length + 1 := by simp
    show Own64 _ _ _ _
    unfold Own64
    rw [e]
    simpa using hown1

def TidySp (xs ds : List Int) (A Ad : Option Addr) (c cd v : Nat) (w : World) : Prop :=
  Calls Try.prog 122 #[.agg #[.slice A xs.length c], .slice Ad xs.length cd, .int .i64 (v : Int)] w fun e w' => ∃ A' l c', e = .returned (.slice A' l c') ∧ Hid (Own64 w' w.heap.size (.slice A' l c') (M.td xs ds v)) ∧ Hid (Below w.heap.size w w')

set_option maxHeartbeats 8000000 in
set_option maxRecDepth 100000 in
theorem l08Tidy (xs ds : List Int) (ht : Hid (M.isTree xs = true)) (hD : Hid (M.DepsOK xs ds)) (A Ad : Option Addr) (c cd : Nat) : ∀ (f v : Nat) (w : World), v < xs.length → xs.length ≤ v + f → Hid (Ints w w.heap.size A xs) → Hid (Ints w w.heap.size Ad ds) → TidySp xs ds A Ad c cd v w := by
  intro f
  induction f with
  | zero => intro v w h h1; omega
  | succ f ih =>
    intro v w hv hf h hd0
    have IH := Lib.hid ih
    clear ih
    have hlen := M.tree_len ht.out
    obtain ⟨d, hd, hd24⟩ := M.tree_degN ht.out hv
    have Hd := Lib.hid hd
    clear hd
    obtain ⟨W0, hW0⟩ : ∃ W0, W0 = (w.alloc (.cells #[.slice A xs.length c] 28)).alloc (.cells #[.int .i64 0] 2) := ⟨_, rfl⟩
    have hi1 : Hid (Ints W0 w.heap.size A xs) := by rw [hW0]; exact (h.out.alloc (Nat.le_refl _) _).alloc (by simp) _
    have hi2 : Hid (Ints W0 w.heap.size Ad ds) := by rw [hW0]; exact (hd0.out.alloc (Nat.le_refl _) _).alloc (by simp) _
    have hB0 : Hid (Below w.heap.size w W0) := by rw [hW0]; exact bal (bal (b0 w) _) _
    have hz0 : w.heap.size + 1 + 1 = W0.heap.size := by rw [hW0]; simp
    have hcA : Hid (W0.cell? ⟨w.heap.size, 0, none⟩ = some (.slice A xs.length c)) := by rw [hW0]; exact cell_al (by simp) _
    have ho0 : Hid (Own64 W0 (w.heap.size + 1) (.slice (some ⟨w.heap.size + 1, 0, none⟩) 1 1) (0 :: M.tdP xs ds v 0)) := by
      have := one64T (w := w.alloc (.cells #[.slice A xs.length c] 28)) (B := w.heap.size + 1) (by simp) 0
      rw [hW0]
      simpa [Hid, M.tdP_zero] using this
    have HW := Lib.hid hW0
    clear hW0 h hd0
    unfold TidySp
    go_enter Try.func122, Try.ntmps122
    go_wp2_with fail
    rw [← HW.out]
    clear HW
    refine (l01Children A xs c v d _ hlen.2 ht Hd (hi1.out.more (by omega))).mono ?_
    rintro e w1 ⟨Ac, cc, rfl, hoc, hb1⟩
    have hg1 : Hid (w1.grownBy w1 (some (w.heap.size + 1))) := grown_beS (Below.refl _ _) _
    have z1 := hb1.size
    have j1 := Lib.hid (hi1.out.below hb1 (by omega))
    have j2 := Lib.hid (hi2.out.below hb1 (by omega))
    have hcA1 := Lib.hid (cell_be hcA.out hb1)
    have HIc := Lib.hid (ints_of_own64 hoc)
    have Hoc := Lib.hid hoc
    have hBw1 := Lib.hid (btr hB0.out hb1)
    have ho1 := Lib.hid (own_be ho0.out hb1)
    clear hoc hb1 ho0 hi1 hi2 hB0 hcA
    go_wp2
    go_loopw [7, 9, 10, 11, 12, 13, 14, 15, 16] (fun out i _ _ _ _ _ _ _ wr => ∃ (j g l co : Nat), j ≤ d ∧ i = .int .i64 (j : Int) ∧ out = .slice (some ⟨g, 0, none⟩) l co ∧ (g = w.heap.size + 1 ∨ w1.heap.size ≤ g) ∧ Hid (Own64 wr (w.heap.size + 1) (.slice (some ⟨g, 0, none⟩) l co) (0 :: M.tdP xs ds v j)) ∧ Hid (w1.grownBy wr (some (w.heap.size + 1)))) (fun _ i _ _ _ _ _ _ _ _ => d - (intOf i).toNat)
    case atStart => exact ⟨0, w.heap.size + 1, 1, 1, Nat.zero_le _, rfl, rfl, .inl rfl, ho1, hg1⟩
    case round =>
      obtain ⟨j, g, l, co, hj, rfl, rfl, hgg, ho, hg⟩ := hrel
      clear ho1 hg1
      have hll := own64_len ho.out
      rw [List.length_cons] at hll
      by_cases hlt : j < d
      · have hkl := M.kid_lt ht.out Hd.out (i := j) (by omega)
        have hch := M.childs_at xs v hlt
        obtain ⟨p, hp⟩ : ∃ p, M.kidAt xs v j = p := ⟨_, rfl⟩
        have hby := M.tdP_succ xs ds v j
        have hpl := (M.tdP_good ht.out hD.out Hd.out (j := j) hj).1
        have hpa := fun x hx => M.tdP_abs ht.out hD.out Hd.out (j := j) hj (x := x) hx
        have hbb := M.by_abs ht.out hD.out Hd.out hlt
        rw [hp] at hkl hch hby hpl hbb
        have hta := fun x hx => M.td_abs ht.out hD.out hkl (x := x) hx
        have htl := (M.td_good ht.out hD.out hkl).1
        have hts := M.span_le (xs.drop p) 1
        have htp := M.span_pos hkl
        rw [List.length_drop] at hts
        have hvp : v < p := by omega
        obtain ⟨cb, coff, kx, rfl, hcb, gk, hkx⟩ := HIc.out.at_ (k := j) (by rw [M.childs_length]; exact hlt)
        have hkx2 := hkx.out
        rw [hch] at hkx2
        injection hkx2 with hkx2
        subst hkx2
        obtain ⟨gc, hgc, hgc1, hgc2⟩ := own_headS Hoc.out (by omega)
        injection hgc with hgc
        injection hgc with hgc hco
        subst hgc hco
        have gk2 := grown_cell hg.out gk (by show cb ≠ _; omega)
        have gA := grown_cell hg.out hcA1.out (by show w.heap.size ≠ _; omega)
        have i1 := Lib.hid (ints_grown j1.out hg.out (by omega))
        have i2 := Lib.hid (ints_grown j2.out hg.out (by omega))
        have zr := hg.out.size
        rw [Nat.zero_add] at gk2
        have hD1 : ∀ i, i < xs.length → ∃ e, ds[i]? = some e := fun i hi => ⟨_, List.getElem?_eq_getElem (by rw [hD.out.1]; exact hi)⟩
        have HT : Hid (∀ w', Hid (Below wr.heap.size wr w') → Calls Try.prog 122 #[.agg #[.slice A xs.length c], .slice Ad xs.length cd, .int .i64 (p : Int)] w' fun e w'' => ∃ g3 l3 c3, e = .returned (.slice (some ⟨g3, 0, none⟩) l3 c3) ∧ Hid (Own64 w'' wr.heap.size (.slice (some ⟨g3, 0, none⟩) l3 c3) (M.td xs ds p)) ∧ Hid (Below wr.heap.size wr w'')) := fun w' hw' => by
          refine (IH.out p w' hkl (by omega) ((i1.out.more (by omega)).be hw'.out) ((i2.out.more (by omega)).be hw'.out)).mono ?_
          rintro e w'' ⟨A3, l3, c3, rfl, q1, q2⟩
          obtain ⟨g3, rfl, _, _⟩ := own_headS q1.out (by have := own64_len q1.out; omega)
          exact ⟨g3, l3, c3, rfl, own_mono q1.out hw'.out.size, btr hw'.out q2.out⟩
        have HC1 : Hid (∀ w', Hid (Below wr.heap.size wr w') → w'.cell? ⟨w.heap.size, 0, none⟩ = some (.slice A xs.length c) ∧ w'.cell? ⟨cb, j, none⟩ = some (.int .i64 (p : Int))) := fun w' hw' => ⟨(hw'.out.cell (p := ⟨w.heap.size, 0, none⟩) (by show w.heap.size < _; omega)).trans gA, (hw'.out.cell (p := ⟨cb, j, none⟩) (by show cb < _; omega)).trans gk2⟩
        have K0 : Hid (Below wr.heap.size wr wr.drew) := (Below.refl _ _).drew
        obtain ⟨k1, k2⟩ := HC1.out _ K0
        have hjd : (j : Int) < (d : Int) := by omega
        have hj0 : (0 : Int) ≤ (j : Int) := by omega
        have Hpa := Lib.hid hpa
        have Hta := Lib.hid hta
        have Hby := Lib.hid hby
        have Hbb := Lib.hid hbb
        have HD1 := Lib.hid hD1
        have Hpl := Lib.hid hpl
        clear hpa hta hby hbb hD1 gk gA gk2 hch hp HIc
        have Hll := Lib.hid hll
        have Htl := Lib.hid htl
        clear hll htl
        generalize M.tdP xs ds v j = P at *
        generalize M.td xs ds p = own at *
        go_wp2
        go_region_held3 (fun w' => w'.cell? ⟨w.heap.size, 0, none⟩ = some (.slice A xs.length c) ∧ w'.cell? ⟨cb, j, none⟩ = some (.int .i64 (p : Int)) ∧ Hid (Below wr.heap.size wr w')) (first | exact ⟨k1, k2, K0⟩ | exact ⟨(HC1.out _ (by assumption)).1, (HC1.out _ (by assumption)).2, by assumption⟩) (first | (go_at_call 122; refine (HT.out _ (by assumption)).mono ?_; rintro e w3 ⟨g3, l3, c3, rfl, ho3, hB3⟩))
        have hl3 : Hid (own.length = l3) := (own64_len ho3.out).symm
        have ho4 : Hid (Own64 w3 (w.heap.size + 1) (.slice (some ⟨g, 0, none⟩) l co) (0 :: P)) := own_be ho.out hB3.out
        have hg3 : Hid (w1.grownBy w3 (some (w.heap.size + 1))) := grown_two hg.out (grown_beS hB3.out none |> fun h => ⟨h.os, h.tape, h.output, h.size, fun k hk _ => h.block k hk (by simp)⟩) (.inl rfl)
        have ck := (HC1.out _ hB3).2
        have i3 := Lib.hid ((i2.out.more (B' := wr.heap.size) (by omega)).below hB3.out (Nat.le_refl _))
        have zw3 := hB3.out.size
        have hgl : g < wr.heap.size := (World.ownsRow.lt ho.out g rfl).2
        have hg3l := World.ownsRow.lt ho3.out g3 rfl
        have hst : Hid (M.ByTo ds (v + 1) p P own 0 0 true 0) := M.by_start _ _ _ _ _
        obtain ⟨bD, oD, xD, rfl, hbD, _, _⟩ := i3.out.at_ (k := 0) (by rw [hD.out.1]; omega)
        have hcD := Lib.hid (fun (k : Nat) (x : Int) (hk : ds[k]? = some x) => (show w3.cell? ⟨bD, oD + k, none⟩ = some (.int .i64 x) from by
          obtain ⟨b', o', e, _, h'⟩ := i3.out (by rw [hD.out.1]; omega)
          injection e with e
          injection e with e1 e2
          rw [e1, e2]; exact h' k x hk))
        clear k1 k2 K0 HT HC1 ho hB3 hg IH
        go_wp2
        go_loopw [11, 12, 13, 14, 15] (fun by_ fi a _ _ wr' => ∃ (a0 a1 q : Nat) (fb : Bool) (z : Int), a1 ≤ l ∧ Hid (a1 = a0 + 1) ∧ a = .int .i64 (a1 : Int) ∧ fi = .bool fb ∧ by_ = .int .i64 z ∧ wr' = w3.drewN q ∧ Hid (M.ByTo ds (v + 1) p P own a0 0 fb z)) (fun _ _ a _ _ _ => l + 1 - (intOf a).toNat)
        case atStart => exact ⟨0, 1, 0, true, 0, by have := Hll.out; omega, rfl, rfl, rfl, rfl, rfl, hst⟩
        case round =>
          obtain ⟨a0, a1, q, fb, z, ha0, ha1, rfl, rfl, rfl, rfl, hby⟩ := hrel
          clear hst
          have hlm : l ≤ 25 := by have := Hll.out; have := Hpl.out; omega
          by_cases hla : a1 < l
          · have hla1 : (a1 : Int) < (l : Int) := by omega
            have hwa : IntKind.i64.wrap ((a1 : Int) + 1) = ((a1 + 1 : Nat) : Int) := by rw [IntWalk.i64_in _ (by omega)]; omega
            go_wp2
            go_loopw [11, 12, 14, 15] (fun by_ fi b _ wr' => ∃ (b0 q' : Nat) (fb : Bool) (z : Int), b0 ≤ l3 ∧ b = .int .i64 (b0 : Int) ∧ fi = .bool fb ∧ by_ = .int .i64 z ∧ wr' = w3.drewN q' ∧ Hid (M.ByTo ds (v + 1) p P own a0 b0 fb z)) (fun _ _ b _ _ => l3 - (intOf b).toNat)
            case atStart => exact ⟨0, q, fb, z, Nat.zero_le _, rfl, rfl, rfl, rfl, hby⟩
            case round =>
              clear hby
              obtain ⟨b0, q', fb', z', hb0, rfl, rfl, rfl, rfl, hby⟩ := hrel
              by_cases hlb : b0 < l3
              · have hlb1 : (b0 : Int) < (l3 : Int) := by omega
                have hl3m : l3 ≤ 25 := by have h1 := Htl.out; have h2 := hl3.out; omega
                have hwb : IntKind.i64.wrap ((b0 : Int) + 1) = ((b0 + 1 : Nat) : Int) := by rw [IntWalk.i64_in _ (by omega)]; omega
                have hA := ha1.out
                have hLl := Hll.out
                have hPl := Hpl.out
                have hT := Htl.out
                have hL3 := hl3.out
                obtain ⟨e1, he1⟩ := HD1.out (v + 1 + a0) (by omega)
                obtain ⟨e2, he2⟩ := HD1.out (p + b0) (by omega)
                obtain ⟨x, hx⟩ : ∃ x, P[a0]? = some x := ⟨_, List.getElem?_eq_getElem (by omega)⟩
                obtain ⟨y, hy⟩ : ∃ y, own[b0]? = some y := ⟨_, List.getElem?_eq_getElem (by omega)⟩
                have hxb := Hpa.out x (List.mem_of_getElem? hx)
                have hyb := Hta.out y (List.mem_of_getElem? hy)
                have c1 := hcD.out _ _ he1
                have c2 := hcD.out _ _ he2
                have c3' := (own64_cell ho4.out (by rw [List.length_cons]; exact hLl.symm) (k := a1) (x := x) (by rw [hA]; exact hx)).1
                have c4 := (own64_cell ho3.out hL3 hy).1
                have va : IntKind.i64.wrap ((v : Int) + (a1 : Int)) = ((v + 1 + a0 : Nat) : Int) := by rw [IntWalk.i64_in _ (by omega)]; omega
                have pb : IntKind.i64.wrap ((p : Int) + (b0 : Int)) = ((p + b0 : Nat) : Int) := by rw [IntWalk.i64_in _ (by omega)]; omega
                have hn1 : v + 1 + a0 < xs.length := by omega
                have hn2 : p + b0 < xs.length := by omega
                obtain ⟨n1, hN1⟩ : ∃ n1, v + 1 + a0 = n1 := ⟨_, rfl⟩
                obtain ⟨n2, hN2⟩ : ∃ n2, p + b0 = n2 := ⟨_, rfl⟩
                rw [hN1] at va c1 hn1
                rw [hN2] at pb c2 hn2
                have h1i : (n1 : Int) < (xs.length : Int) := by omega
                have h2i : (n2 : Int) < (xs.length : Int) := by omega
                have h3i : (0 : Int) ≤ (n1 : Int) := by omega
                have h4i : (0 : Int) ≤ (n2 : Int) := by omega
                have hw3 : IntKind.i64.wrap (x + 2) = x + 2 := IntWalk.i64_in _ (by omega)
                have hw4 : IntKind.i64.wrap (x + 2 - y) = x + 2 - y := IntWalk.i64_in _ (by omega)
                have b0i : (0 : Int) ≤ (b0 : Int) := by omega
                have a1i : (0 : Int) ≤ (a1 : Int) := by omega
                by_cases hee : e1 = e2
                · have hq : (e1 != e2) = false := by simp [hee]
                  cases fb'
                  · by_cases hgt : z' < x + 2 - y
                    · have hbn := Lib.hid (M.by_new hby.out he1 (hee ▸ he2) hx hy (.inr hgt))
                      clear hby hee he1 he2 hx hy hN1 hN2 hA hLl hPl hT hL3
                      go_wp2
                      go_quiet (fail)
                      go_wp2
                      go_quiet (fail)
                      go_wp2
                      go_roundw
                      case rel => exact ⟨b0 + 1, _, false, x + 2 - y, by omega, by go_num, rfl, rfl, rfl, hbn⟩
                      case measure => simp [intOf]; omega
                    · have hbn := Lib.hid (M.by_old hby.out hx hy (by omega))
                      clear hby hee he1 he2 hx hy hN1 hN2 hA hLl hPl hT hL3
                      go_wp2
                      go_quiet (fail)
                      go_wp2
                      go_quiet (fail)
                      go_wp2
                      go_roundw
                      case rel => exact ⟨b0 + 1, _, false, z', by omega, by go_num, rfl, rfl, rfl, hbn⟩
                      case measure => simp [intOf]; omega
                  · have hbn := Lib.hid (M.by_new hby.out he1 (hee ▸ he2) hx hy (.inl rfl))
                    clear hby hee he1 he2 hx hy hN1 hN2 hA hLl hPl hT hL3
                    go_wp2
                    go_quiet (fail)
                    go_wp2
                    go_quiet (fail)
                    go_wp2
                    go_roundw
                    case rel => exact ⟨b0 + 1, _, false, x + 2 - y, by omega, by go_num, rfl, rfl, rfl, hbn⟩
                    case measure => simp [intOf]; omega
                · have hq : (e1 != e2) = true := by simp [hee]
                  have hbn := Lib.hid (M.by_skip hby.out he1 he2 hee)
                  clear hby hee he1 he2 hx hy hN1 hN2 hA hLl hPl hT hL3
                  go_wp2
                  go_quiet (fail)
                  go_wp2
                  go_roundw
                  case rel => exact ⟨b0 + 1, _, fb', z', by omega, by go_num, rfl, rfl, rfl, hbn⟩
                  case measure => simp [intOf]; omega
              · obtain rfl : b0 = l3 := by omega
                have hby2 : Hid (M.ByTo ds (v + 1) p P own (a0 + 1) 0 fb' z') := M.by_row (by rw [hl3.out]; exact hby.out)
                go_wp2
                go_roundw
                case rel => exact ⟨a0 + 1, a1 + 1, q', fb', z', by omega, by have := ha1.out; show _ = _; omega, by go_num, rfl, rfl, rfl, hby2⟩
                case measure => simp [intOf]; omega
          · obtain rfl : a1 = l := by omega
            have hz : Hid (M.byOf ds (v + 1) p P own = z) := by
              have h1 := hby.out
              rw [show a0 = P.length by have := ha1.out; have := Hll.out; omega] at h1
              exact M.by_end h1
            have hbq : Hid (Below w3.heap.size w3 (w3.drewN q)) := below_drewN (Below.refl _ _) q
            have ho5 : Hid (Own64 (w3.drewN q) (w.heap.size + 1) (.slice (some ⟨g, 0, none⟩) a1 co) (0 :: P ++ (own.take 0).map (· + z))) := by
              rw [List.take_zero, List.map_nil, List.append_nil]; exact own_be ho4.out hbq.out
            have hg5 : Hid ((w3.drewN q).grownBy (w3.drewN q) (some g)) := grown_beS (Below.refl _ _) _
            have ho3q : Hid (Own64 (w3.drewN q) wr.heap.size (.slice (some ⟨g3, 0, none⟩) l3 c3) own) := own_be ho3.out hbq.out
            have hg3q : Hid (w1.grownBy (w3.drewN q) (some (w.heap.size + 1))) := grown_two hg3.out (grown_beS hbq.out _) (.inl rfl)
            have hzw : Hid (w3.heap.size ≤ (w3.drewN q).heap.size) := hbq.out.size
            have hzb : -94 ≤ z ∧ z ≤ 94 := by have := Hbb.out; rw [hz.out] at this; exact this
            clear hby ho3 ho4 hbq hg3 hcD i3
            go_wp2
            generalize w3.drewN q = w4 at *
            obtain ⟨wo, rfl⟩ : ∃ wo : World, wo = wr := ⟨_, rfl⟩
            go_loopw [7, 16] (fun out b wr => ∃ (b0 g' l' c' : Nat), b0 ≤ l3 ∧ b = .int .i64 (b0 : Int) ∧ out = .slice (some ⟨g', 0, none⟩) l' c' ∧ Hid (l' = a1 + b0) ∧ (g' = g ∨ w4.heap.size ≤ g') ∧ Hid (Own64 wr (w.heap.size + 1) (.slice (some ⟨g', 0, none⟩) l' c') (0 :: P ++ (own.take b0).map (· + z))) ∧ Hid (w4.grownBy wr (some g))) (fun _ b _ => l3 - (intOf b).toNat)
            case atStart => exact ⟨0, g, a1, co, Nat.zero_le _, rfl, rfl, rfl, .inl rfl, ho5, hg5⟩
            case round =>
              obtain ⟨b0, g', l', c', hb0, rfl, rfl, hl', hgg', ho6, hg6⟩ := hrel
              clear ho5 hg5
              by_cases hlb : b0 < l3
              · have hlb1 : (b0 : Int) < (l3 : Int) := by omega
                have b0i : (0 : Int) ≤ (b0 : Int) := by omega
                obtain ⟨y, hy⟩ : ∃ y, own[b0]? = some y := ⟨_, List.getElem?_eq_getElem (by have := hl3.out; omega)⟩
                have hyb := Hta.out y (List.mem_of_getElem? hy)
                have c4 := grown_cell hg6.out (own64_cell ho3q.out hl3.out hy).1 (by show g3 ≠ g; omega)
                have hw5 : IntKind.i64.wrap (y + z) = y + z := IntWalk.i64_in _ (by omega)
                have hl3m : l3 ≤ 25 := by have h1 := Htl.out; have h2 := hl3.out; omega
                have hwb : IntKind.i64.wrap ((b0 : Int) + 1) = ((b0 + 1 : Nat) : Int) := by rw [IntWalk.i64_in _ (by omega)]; omega
                have hstep := Lib.hid (M.putBy_step (l := 0 :: P) (z := z) hy)
                have z6 := hg6.out.size
                have hgl' := World.ownsRow.lt ho6.out g' rfl
                have hlm' : l' ≤ 1000000 := by have h1 := hl'.out; have h2 := hl3.out; have := Htl.out; omega
                clear hy
                go_wp2_with (at_builtin; refine push64T rfl (.tmp 85) (.tmp 92) rfl wr (w.heap.size + 1) (some ⟨g', 0, none⟩) l' c' _ (y + z) rfl _ rfl rfl ho6 (by omega) hlm' ?_; intro A5 c5 w5 ho5 hg5 hw6)
                obtain ⟨g5, rfl, hg51, hg52⟩ := own_headS ho5.out (by omega)
                rw [hstep.out] at ho5
                have hg7 : Hid (w4.grownBy w5 (some g)) := grown_two hg6.out (g := g') (⟨hg5.out.os, hg5.out.tape, hg5.out.output, by have := hg5.out.size; simp at this; omega, fun k hk hne => (hg5.out.block k (by simp; omega) hne).trans (Below.heap_alloc _ _ _ hk)⟩) hgg'
                have hgg5 : g5 = g ∨ w4.heap.size ≤ g5 := by
                  rcases hw6.out with h1 | h1
                  · have h2 : g5 = g' := by injection h1
                    omega
                  · have h2 : g5 = (wr.alloc (.cells #[.int .i64 (y + z)] 2)).heap.size := by injection h1
                    rw [World.size_alloc] at h2
                    omega
                have hl5 : Hid (l' + 1 = a1 + (b0 + 1)) := by have := hl'.out; show _ = _; omega
                go_roundw
                case rel => exact ⟨b0 + 1, g5, l' + 1, c5, by omega, by go_num, rfl, hl5, hgg5, ho5, hg7⟩
                case measure => simp [intOf]; omega
              · obtain rfl : b0 = l3 := by omega
                have hfin : Hid (Own64 wr (w.heap.size + 1) (.slice (some ⟨g', 0, none⟩) l' c') (0 :: M.tdP xs ds v (j + 1))) := by
                  have h1 := ho6.out
                  rw [List.take_of_length_le (by rw [hl3.out]; exact Nat.le_refl _)] at h1
                  rw [Hby.out, hz.out]
                  exact h1
                have hg8 : Hid (w1.grownBy wr (some (w.heap.size + 1))) := grown_two hg3q.out hg6.out hgg
                have hgg8 : g' = w.heap.size + 1 ∨ w1.heap.size ≤ g' := by have := hg3q.out.size; omega
                go_wp2
                go_roundw
                case rel => exact ⟨j + 1, g', l', c', by omega, by go_num, rfl, hgg8, hfin, hg8⟩
                case measure => simp [intOf]; omega
      · obtain rfl : j = d := by omega
        have hBw : Hid (Below w.heap.size w wr) := hBw1.out.grown hg.out (by omega) (fun k e => by injection e with e; omega)
        have hteq := M.td_eq (ds := ds) ht.out Hd.out
        rcases Nat.eq_zero_or_pos j with h0 | h0
        · subst h0
          have hte : Hid (0 :: M.tdP xs ds v 0 = M.td xs ds v) := by show _ = _; rw [hteq]; rfl
          clear hteq
          rw [hte.out] at ho
          go_wp2
          go_ret
          exact ⟨_, _, _, rfl, own_mono ho.out (by omega), hBw⟩
        · obtain ⟨e, he⟩ : ∃ e, j = e + 1 := ⟨j - 1, by omega⟩
          have hej : e < j := by omega
          have hpg := M.tdP_good ht.out hD.out Hd.out (j := j) (Nat.le_refl _)
          have hp0 := (hpg.2.1 h0).1
          have hpl := hpg.1
          have hkl := M.kid_lt ht.out Hd.out (i := e) (by omega)
          have hkd := (M.kid_due ht.out Hd.out e (by omega)).2.2
          have hks := M.span_pos hkl
          have hKe : M.kidAt xs v j = M.kidAt xs v e + M.span 1 (xs.drop (M.kidAt xs v e)) := by rw [he]; rfl
          have hch := M.childs_at xs v hej
          have hpa := fun x hx => M.tdP_abs ht.out hD.out Hd.out (j := j) (Nat.le_refl _) (x := x) hx
          rw [he, M.tdRoot, ← he] at hteq
          obtain ⟨K, hK⟩ : ∃ K, M.kidAt xs v e = K := ⟨_, rfl⟩
          rw [hK] at hkl hkd hks hKe hch hteq
          obtain ⟨x, hx⟩ : ∃ x, (M.tdP xs ds v j)[0]? = some x := ⟨_, List.getElem?_eq_getElem hp0⟩
          obtain ⟨y, hy⟩ : ∃ y, (M.tdP xs ds v j)[K - (v + 1)]? = some y := ⟨_, List.getElem?_eq_getElem (by omega)⟩
          have hxb := hpa x (List.mem_of_getElem? hx)
          have hyb := hpa y (List.mem_of_getElem? hy)
          have hte : Hid ((0 :: M.tdP xs ds v j).set 0 (M.half (x + y)) = M.td xs ds v) := by show _ = _; rw [hteq, hx, hy]; rfl
          obtain ⟨kv, hkv⟩ : ∃ kv, K - v = kv := ⟨_, rfl⟩
          have hLl : (0 :: M.tdP xs ds v j).length = l := by rw [List.length_cons]; exact hll.symm
          have c1 := (own64_cell ho.out hLl (k := 1) (x := x) hx).1
          have c2 := (own64_cell ho.out hLl (k := kv) (x := y) (by rw [show kv = (K - (v + 1)) + 1 by omega]; exact hy)).1
          obtain ⟨c0, f0, _, lg⟩ := own64_cell ho.out hLl (k := 0) (x := 0) rfl
          have hset := Lib.hid (own64_set ho.out hLl 0 (M.half (x + y)))
          obtain ⟨cb, coff, kx, rfl, hcb, gk, hkx⟩ := HIc.out.at_ (k := e) (by rw [M.childs_length]; exact hej)
          have hkx2 := hkx.out
          rw [hch] at hkx2
          injection hkx2 with hkx2
          subst hkx2
          obtain ⟨gc, hgc, hgc1, hgc2⟩ := own_headS Hoc.out h0
          injection hgc with hgc
          injection hgc with hgc hco
          subst hgc hco
          have gk2 := grown_cell hg.out gk (by show cb ≠ _; omega)
          rw [Nat.zero_add] at gk2
          have HH := Lib.hid (fun W => l08Half (x + y) W (by omega) (by omega))
          have hw1 : IntKind.i64.wrap ((j : Int) - 1) = (e : Int) := by rw [IntWalk.i64_in _ (by omega)]; omega
          have hw2 : IntKind.i64.wrap ((K : Int) - (v : Int)) = (kv : Int) := by rw [IntWalk.i64_in _ (by omega)]; omega
          have hw3 : IntKind.i64.wrap (x + y) = x + y := IntWalk.i64_in _ (by omega)
          have q1 : (e : Int) < (j : Int) := by omega
          have q2 : (0 : Int) ≤ (e : Int) := by omega
          have q3 : (0 : Int) < (j : Int) := by omega
          have q4 : (kv : Int) < (l : Int) := by omega
          have q5 : (0 : Int) ≤ (kv : Int) := by omega
          have q6 : (1 : Int) < (l : Int) := by omega
          have q7 : (0 : Int) < (l : Int) := by omega
          have q8 : 0 < l := by omega
          have hBf : Hid (Below w.heap.size w (wr.setCell ⟨g, 0, none⟩ (.int .i64 (M.half (x + y))))) := below_setCell hBw.out (by omega) _
          rw [hte.out] at hset
          have zA : w.heap.size ≤ w.heap.size + 1 := by omega
          clear hteq hte hx hy hpa hKe hch hkx gk HIc hll hLl hK hkv hpg hp0 hpl he j1 j2 hcA1 hg ho
          generalize M.half (x + y) = Z at *
          go_wp2
          go_still_tail 18, (by kernel_rfl)
          still_call ((HH.out _).mono fun _ _ ⟨a, b⟩ => ⟨a, b.symm⟩)
          repeat still_step
          try refine wpStill_nil ?_
          go_wp2
          go_ret
          exact ⟨_, _, _, rfl, own_mono hset.out zA, hBf.out.drew⟩
end Go.Proofs.Ytamnilpmdccgoaa
