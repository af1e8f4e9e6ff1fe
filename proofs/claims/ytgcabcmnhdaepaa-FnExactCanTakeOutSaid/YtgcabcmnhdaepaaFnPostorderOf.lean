/- PostorderOf, the program's and the model's: the nodes in postorder, or a code. -/
import Derived.Test.YtgcabcmnhdaepaaPost
import Derived.Test.YtgcabcmnhdaepaaTwo
import Derived.Test.YtgcabcmnhdaepaaApp
import Derived.Test.YtgcabcmnhdaepaaGives
import Derived.Deep.RegionHeld3
import Derived.Maps.AppendAt
import Derived.Laws.AppendOwnNone
namespace Go.Proofs.Ytgcabcmnhdaepaa
open Go.RowKit

def F_PostorderOf (xs : List Int) : List Int × Int := M.cond xs (M.postGo xs 24 0)
theorem F_PostorderOf_len (xs : List Int) : (F_PostorderOf xs).1.length ≤ 1048576 := by
  cases ht : M.isTree xs
  · rw [F_PostorderOf, M.cond_no ht]; simp
  · rw [F_PostorderOf, M.cond_yes ht]
    have h1 := M.postGo_le ht (f := 24) (v := 0) (by have := (M.tree_len ht).1; omega) (by omega)
    show (M.postGo xs 24 0).length ≤ _
    omega

set_option maxRecDepth 100000 in
/-- append of a slice at a step of a region that draws its order; the row's block, and all other blocks, are told of -/
theorem stepIntsG {ops : Array Oper} {o : Oper} {a : Act} {K : Act → World → Prop} {Q : Exit → Act → World → Prop} {E : Prop} (hgd : o.guard = none) (s x : Operand)
    (ho : o.op = .call { callee := .builtin .append, args := #[s, x], argTypes := #[23, 23] }) (w : World) (B : Nat) (A : Option Addr) (n c : Nat) (zs : List Int) (A2 : Option Addr) (m c2 : Nat) (ys : List Int)
    (hs : a.eval s = .slice A n c) (hx : a.eval x = .slice A2 m c2) (hown : Hid (Own64 w B (.slice A n c) zs)) (hsrc : Hid (Ints w w.heap.size A2 ys)) (hm : Hid (ys.length = m)) (hz : Hid (A2 = none → c2 = 0)) (hB : B ≤ w.heap.size) (hlen : n ≤ 1000000) (hlen2 : m ≤ 1000000)
    (h : ∀ A' c' w', Hid (Own64 w' B (.slice A' (n + m) c') (zs ++ ys)) → Hid (w.grownBy w' (Value.slice A n c).ownBlock) → Hid ((Value.slice A' (n + m) c').ownBlock = (Value.slice A n c).ownBlock ∨ (Value.slice A' (n + m) c').ownBlock = some w.heap.size) → K (a.put o.dst (.slice A' (n + m) c')) w') :
    if Region.wanted o (yielded ops a.tmps) = true then Oper.wp Try.prog o a w K Q else E := by
  have hw : Region.wanted o (yielded ops a.tmps) = true := by simp [Region.wanted, hgd]
  rw [if_pos hw]
  obtain ⟨i0, hi0, hz0, hz1, hz2⟩ := info_parts info64
  have hown := hown.out
  have hn := own64_len hown
  subst hn
  have hm := hm.out
  subst hm
  rcases A2 with _ | ad
  · have hy : ys = [] := by
      rcases Nat.eq_zero_or_pos ys.length with h0 | h0
      · exact List.eq_nil_of_length_eq_zero h0
      · obtain ⟨_, _, e, _⟩ := hsrc.out h0
        cases e
    subst hy
    have hc2 := hz.out rfl
    subst hc2
    have hrun := run_append_owned_none (P := Try.prog) (w := w) B 23 o.type 2 i0 1 Try.underlying23 hi0 _ zs.length (zs.map (Value.int .i64)) hown
    have := h A c w (by simpa using Lib.hid hown) (World.grownBy.refl _ _) (.inl rfl)
    simp only [List.length_nil] at hx
    unfold Oper.wp execOp
    simp only [ho, resolve, invoke, builtin, Sem.run_bind, Sem.run_pure, Result.andThen_ok, List.map_toArray, List.map_cons, List.map_nil, hs, hx, hrun]
    exact this
  · obtain ⟨v', w1, hr, hown1, hg1, _, hat⟩ := run_append_own_at (P := Try.prog) w B 23 o.type 2 i0 (.int .i64 0) 1 8 Try.underlying23 hi0 hz0 hz1 hz2 rfl (by decide) _ zs.length (zs.map (Value.int .i64)) hown ad ys.length c2 (ys.map (Value.int .i64)) (by simp)
      (by
        intro j u hj
        rw [List.getElem?_map] at hj
        obtain ⟨y, hy, rfl⟩ := Option.map_eq_some_iff.1 hj
        obtain ⟨b, off, e, _, hc⟩ := hsrc.out (by have := (List.getElem?_eq_some_iff.1 hy).1; omega)
        injection e with e
        subst e
        have ha : (⟨b, off, none⟩ : Addr).add j = ⟨b, off + j, none⟩ := by unfold Addr.add; split <;> simp_all
        rw [ha]
        exact hc j y hy)
      (by
        intro u hu
        obtain ⟨y, _, rfl⟩ := List.mem_map.1 hu
        rfl) (by unfold maxLen; omega) (by omega) hB
    obtain ⟨A', c', rfl⟩ : ∃ A' c', v' = .slice A' (zs.length + ys.length) c' := own_shape hown1
    have := h A' c' w1 (by
        show Own64 _ _ _ _
        unfold Own64
        rw [List.length_append, List.map_append]
        exact hown1) hg1 hat
    unfold Oper.wp execOp
    simp only [ho, resolve, invoke, builtin, Sem.run_bind, Sem.run_pure, Result.andThen_ok, List.map_toArray, List.map_cons, List.map_nil, hs, hx, hr]
    exact this

/-- what the model's walk does at a node -/
def PostOf (A : Option Addr) (xs : List Int) (c f v : Nat) : Prop :=
  ∀ W : World, Hid (Ints W W.heap.size A xs) → Calls Try.prog 161 #[.agg #[.slice A xs.length c], .int .i64 (v : Int)] W fun e w' => ∃ A' c' n', e = .returned (.slice A' n' c') ∧ Hid (Own64 w' W.heap.size (.slice A' n' c') (M.postGo xs f v)) ∧ Hid (Below W.heap.size W w')

set_option maxRecDepth 100000 in
set_option maxHeartbeats 4000000 in
theorem l01Post_step (A : Option Addr) (xs : List Int) (c f v d : Nat) (hx : xs.length ≤ 24) (ht : Hid (M.isTree xs = true)) (hd : Hid (xs[v]? = some (d : Int))) (hf : 24 - v ≤ f + 1)
    (ih : Hid (∀ C, v < C → C < xs.length → PostOf A xs c f C)) : PostOf A xs c (f + 1) v := by
  intro w h
  have hd24 : d ≤ 24 := by have := (M.tree_deg ht.out hd.out).2; omega
  have hv : v < xs.length := (List.getElem?_eq_some_iff.1 hd.out).1
  obtain ⟨Wb, hWb⟩ : ∃ Wb, w.alloc (.cells #[.slice A xs.length c] 44) = Wb := ⟨_, rfl⟩
  have hWs : Wb.heap.size = w.heap.size + 1 := by rw [← hWb]; simp
  have Hct : Hid (Wb.cell? ⟨w.heap.size, 0, none⟩ = some (.slice A xs.length c)) := by rw [← hWb]; simp [Hid]
  have hIb : Hid (Ints Wb Wb.heap.size A xs) := by rw [← hWb]; exact h.out.al _
  have hBb : Hid (Below w.heap.size w Wb) := by rw [← hWb]; exact bal (b0 w) _
  have hst : Hid (Own64 (Wb.alloc (.cells #[] 2)) Wb.heap.size (.slice (some ⟨w.heap.size + 1, 0, none⟩) 0 0) []) := by rw [← hWs]; exact own64_empty (Nat.le_refl _)
  have hch := Lib.hid (l01Children A xs c v d (Wb.alloc (.cells #[] 2)) hx ht hd (hIb.out.al _))
  have hbb : Hid (Below Wb.heap.size Wb (Wb.alloc (.cells #[] 2))) := bal (b0 Wb) _
  have hct := cell_al Hct.out (.cells #[] 2)
  have hct1 := Hct.out
  go_enter Try.func161, Try.ntmps161
  go_wp2_with fail
  refine hch.out.mono ?_
  rintro e w2 ⟨A3, c3, rfl, hok, hb2⟩
  have z0 : Wb.heap.size ≤ w2.heap.size := Nat.le_trans (by simp) hb2.size
  have hdis : Hid (∀ b, (Value.slice (some ⟨w.heap.size + 1, 0, none⟩) 0 0).ownBlock = some b → (Value.slice A3 d c3).ownBlock ≠ some b) := fun b e e2 => by
    have k1 := (World.ownsRow.lt hst.out b e).2
    have k2 := (World.ownsRow.lt hok b e2).1
    omega
  have ht2 : Hid (Two w2 Wb.heap.size (.slice (some ⟨w.heap.size + 1, 0, none⟩) 0 0) (.slice A3 d c3) [] (M.childs xs v d)) := ⟨own_be hst.out hb2, own_mono hok (by simp), hdis.out⟩
  have hbW2 : Hid (Below Wb.heap.size Wb w2) := btr hbb.out hb2
  clear hst hok hb2 hdis hbb hch hct hct1 hWb h
  go_wp2
  go_loopw [5, 7] (fun q i wr => ∃ (k n : Nat) (A' : Option Addr) (c' : Nat), k ≤ d ∧ i = .int .i64 (k : Int) ∧ q = .slice A' n c' ∧ n ≤ 24 * k ∧ Hid (Two wr Wb.heap.size (.slice A' n c') (.slice A3 d c3) (M.postK xs f v k) (M.childs xs v d)) ∧ Hid (Below Wb.heap.size Wb wr)) (fun _ i _ => d - (intOf i).toNat)
  case atStart => exact ⟨0, 0, _, 0, Nat.zero_le _, rfl, rfl, by omega, ht2, hbW2⟩
  case round =>
    obtain ⟨k, n, A', c', hk, rfl, rfl, hn, htw, hbr⟩ := hrel
    have hzr := hbr.out.size
    clear ht2 hbW2
    by_cases hlt : k < d
    · have hkd : (k : Int) < (d : Int) := by omega
      have hki0 : (0 : Int) ≤ (k : Int) := by omega
      obtain ⟨g3, rfl⟩ := htw.out.symm.shape.2 (by omega)
      have hkl := M.kid_lt ht.out hd.out (i := k) (by omega)
      have hkv := (M.kid_due ht.out hd.out k (by omega)).2.2
      have hpk := Lib.hid (M.postK_succ xs f v k)
      have hat := Lib.hid (M.childs_at xs v hlt)
      have hle := M.postGo_le ht.out (f := f) hkl (by omega)
      have hP := ih.out _ hkv hkl
      generalize M.kidAt xs v k = C at *
      obtain ⟨g, hfz, _, hgl⟩ := own64_cell htw.out.2.1 (M.childs_length xs v d) hat.out
      have hct := cell_be Hct.out hbr.out
      have hK0 : Hid (Below wr.heap.size wr wr.drew) := (Below.refl _ _).drew
      have g0 : wr.drew.cell? ⟨g3, k, none⟩ = some (.int .i64 (C : Int)) := g
      have hct0 : wr.drew.cell? ⟨w.heap.size, 0, none⟩ = some (.slice A xs.length c) := hct
      have HP : Hid (Calls Try.prog 161 #[.agg #[.slice A xs.length c], .int .i64 (C : Int)] wr.drew fun e w' => ∃ A' c' n', e = .returned (.slice A' n' c') ∧ Hid (Own64 w' wr.heap.size (.slice A' n' c') (M.postGo xs f C)) ∧ Hid (Below wr.heap.size wr w')) :=
        (hP wr.drew (hIb.out.be (btr hbr.out hK0.out))).mono fun e w' ⟨A', c', n', he, ho, hb⟩ => ⟨A', c', n', he, ho, btr hK0.out hb.out⟩
      have hcl : w.heap.size < wr.heap.size := by omega
      have hne3 : Hid ((Value.slice A' n c').ownBlock ≠ some g3) := fun e => htw.out.2.2 g3 e rfl
      have hneT : Hid ((Value.slice A' n c').ownBlock ≠ some w.heap.size) := fun e => by have := (World.ownsRow.lt htw.out.1 _ e).1; omega
      clear hP g hfz hct hkl hkv
      go_wp2
      go_region_held3 (fun w' => w'.cell? ⟨w.heap.size, 0, none⟩ = some (.slice A xs.length c) ∧ w'.cell? ⟨g3, k, none⟩ = some (.int .i64 (C : Int))) (first | exact ⟨hct0, g0⟩ | exact ⟨ct9, cg9⟩ | exact ⟨ct7, cg7⟩) (first | (go_at_call 161; refine HP.out.mono ?_; rintro e w7 ⟨A7, c7, n7, rfl, ho7, hb7⟩; have ct7 : w7.cell? ⟨w.heap.size, 0, none⟩ = some (.slice A xs.length c) := (hb7.out.cell (p := ⟨w.heap.size, 0, none⟩) hcl).trans hct0; have cg7 : w7.cell? ⟨g3, k, none⟩ = some (.int .i64 (C : Int)) := (hb7.out.cell (p := ⟨g3, k, none⟩) hgl).trans g0; have ho17 : Hid (Own64 w7 Wb.heap.size (.slice A' n c') (M.postK xs f v k)) := own_be htw.out.1 hb7.out; have hm7 : Hid ((M.postGo xs f C).length = n7) := (own64_len ho7.out).symm; have hz7 := Lib.hid (own64_z ho7.out); have hi7 : Hid (Ints w7 w7.heap.size A7 (M.postGo xs f C)) := ints_of_own64 ho7.out; have zz7 := hb7.out.size) | (refine stepIntsG rfl (.tmp 18) (.tmp 24) rfl _ Wb.heap.size A' n c' (M.postK xs f v k) A7 n7 c7 (M.postGo xs f C) rfl rfl ho17 hi7 hm7 hz7 (by omega) (by omega) (by rw [← hm7.out]; omega) ?_; intro A9 c9 w9 ho9 hg9 hat9; have ct9 : w9.cell? ⟨w.heap.size, 0, none⟩ = some (.slice A xs.length c) := (World.cell?_of_block (hg9.out.block w.heap.size (by omega) (fun e => hneT.out e.symm))).trans ct7; have cg9 : w9.cell? ⟨g3, k, none⟩ = some (.int .i64 (C : Int)) := (World.cell?_of_block (hg9.out.block g3 (by omega) (fun e => hne3.out e.symm))).trans cg7))
      have hch9 : Own64 w9 Wb.heap.size (.slice (some ⟨g3, 0, none⟩) d c3) (M.childs xs v d) := (own_be htw.out.2.1 hb7.out).kept hg9.out (.inr (fun e => hne3.out e.symm))
      have htw9 : Hid (Two w9 Wb.heap.size (.slice A9 (n + n7) c9) (.slice (some ⟨g3, 0, none⟩) d c3) (M.postK xs f v (k + 1)) (M.childs xs v d)) := by
        refine ⟨by rw [hpk.out]; exact ho9.out, hch9, fun b e e2 => ?_⟩
        have e3 : g3 = b := by injection e2
        rcases hat9.out with e4 | e4
        · exact hne3.out (by rw [← e4, e, e3])
        · have e5 := e.symm.trans e4
          injection e5 with e5
          omega
      have hb9 : Hid (Below Wb.heap.size Wb w9) := (btr hbr.out (hb7.out.mono (Nat.le_refl _))).grown hg9.out (by omega) (fun j e => (World.ownsRow.lt htw.out.1 j e).1)
      have hn9 : n + n7 ≤ 24 * (k + 1) := by rw [← hm7.out]; omega
      clear ct9 cg9 ct7 cg7 ho17 hm7 hz7 hi7 hat9 ho9 hg9
      go_wp2
      go_roundw
      case rel => exact ⟨k + 1, n + n7, A9, c9, by omega, by go_num, rfl, hn9, htw9, hb9⟩
      case measure => simp [intOf]; omega
    · obtain rfl : k = d := by omega
      have hge : ¬ (k : Int) < (k : Int) := by omega
      have hpo := Lib.hid (M.postGo_at (f := f) hd.out)
      have ho : Hid (Own64 wr Wb.heap.size (.slice A' n c') (M.postK xs f v k)) := htw.out.1
      clear htw
      go_wp2_with (at_builtin; refine push64 rfl (.tmp 26) (.tmp 28) rfl wr Wb.heap.size A' n c' (M.postK xs f v k) (v : Int) rfl rfl ho hzr (by omega) ?_; intro A2 c2 w3 ho2 hb3)
      go_ret
      exact ⟨A2, c2, n + 1, rfl, by rw [hpo.out]; exact own_mono ho2.out (by omega), btr hBb.out (hbr.out.trans hb3.out)⟩

theorem l01Post (A : Option Addr) (xs : List Int) (c : Nat) (hx : xs.length ≤ 24) (ht : Hid (M.isTree xs = true)) : ∀ f v, v < xs.length → 24 - v ≤ f → PostOf A xs c f v := by
  intro f
  induction f with
  | zero => intro v hv h; omega
  | succ f ih =>
    intro v hv hf
    obtain ⟨d, hd, _⟩ := M.tree_degN ht.out hv
    exact l01Post_step A xs c f v d hx ht hd hf (fun C hC hCl => ih C hCl (by omega))

end Go.Proofs.Ytgcabcmnhdaepaa
