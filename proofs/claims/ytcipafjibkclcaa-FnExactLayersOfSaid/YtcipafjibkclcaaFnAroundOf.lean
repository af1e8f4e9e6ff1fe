/- AroundOf, the program's and the model's: the neighbours of a node, or a code. -/
import Derived.Test.YtcipafjibkclcaaAroundIn
import Derived.Test.YtcipafjibkclcaaNodes
import Derived.Test.YtcipafjibkclcaaGives
namespace Go.Proofs.Ytcipafjibkclcaa
open Go.RowKit

noncomputable def F_AroundOf (xs : List Int) (v : Int) : List Int × Int := if M.code xs [v] = 0 then (M.aroundOf xs v.toNat, 0) else ([], M.code xs [v])
theorem F_Around_no {xs : List Int} {v : Int} (h : M.code xs [v] ≠ 0) : F_AroundOf xs v = ([], M.code xs [v]) := if_neg h
theorem F_Around_yes {xs : List Int} {v : Nat} (h : M.code xs [(v : Int)] = 0) : F_AroundOf xs v = (M.aroundOf xs v, 0) := if_pos h
theorem F_AroundOf_len (xs : List Int) (v : Int) : (F_AroundOf xs v).1.length ≤ 1048576 := by
  by_cases h : M.code xs [v] = 0
  · obtain ⟨h0, h1, _⟩ := M.code_node h
    obtain ⟨n, rfl⟩ := Int.eq_ofNat_of_zero_le h0
    rw [F_Around_yes h]
    have : (M.aroundOf xs n).length ≤ 25 := M.around_len (M.code_tree h)
    show (M.aroundOf xs n).length ≤ _
    omega
  · rw [F_Around_no h]
    exact Nat.zero_le _

set_option maxHeartbeats 4000000 in
set_option maxRecDepth 100000 in
theorem l05Around (A : Option Addr) (xs : List Int) (c v d : Nat) (w : World) (ht : Hid (M.isTree xs = true)) (hd : Hid (xs[v]? = some (d : Int))) (h : Hid (Ints w w.heap.size A xs)) :
    Calls Try.prog 61 #[.agg #[.slice A xs.length c], .int .i64 v] w fun e w' => ∃ A' c', e = .returned (.slice A' (M.aroundOf xs v).length c') ∧ Own64 w' w.heap.size (.slice A' (M.aroundOf xs v).length c') (M.aroundOf xs v) ∧ Below w.heap.size w w' := by
  have hv : v < xs.length := (List.getElem?_eq_some_iff.1 hd.out).1
  have hl := (M.tree_len ht.out).2
  have hd24 : d ≤ 24 := by have := (M.tree_deg ht.out hd.out).2; omega
  have h1 := Lib.hid (h.out.al (.cells #[.slice A xs.length c] 28))
  obtain ⟨n, hn⟩ : ∃ n, Hid (xs.length = n) := ⟨_, rfl⟩
  have hCh := Lib.hid (l01Children A xs c v d _ hl ht hd h1.out)
  have hP : Hid (∀ W, Hid (Below (w.alloc (.cells #[.slice A xs.length c] 28)).heap.size (w.alloc (.cells #[.slice A xs.length c] 28)) W) → Calls Try.prog 107 #[.agg #[.slice A xs.length c]] W fun e w' => ∃ A' c' ps, e = .returned (.slice A' xs.length c') ∧ Hid (M.ParsOK xs ps) ∧ Hid (Own64 w' W.heap.size (.slice A' xs.length c') ps) ∧ Hid (Below W.heap.size W w')) := fun W hW => (l01Parents A xs c W ht (h1.out.be hW.out)).mono fun e w' ⟨A', c', ps, e1, e2, e3, e4⟩ => ⟨A', c', ps, e1, e2, e3, e4⟩
  rw [hn.out] at hCh hP hl hv ⊢
  clear h h1
  rcases Nat.eq_zero_or_pos v with hv0 | hv0
  · subst hv0
    have hr := M.around_root hd.out
    have hrl : (M.aroundOf xs 0).length = d := by rw [hr, M.childs_length]
    rw [hrl, hr]
    clear hr hrl
    go_enter Try.func61, Try.ntmps61
    go_wp2_with fail
    refine hCh.out.mono ?_
    rintro e w1 ⟨A1, c1, rfl, ho1, hb1⟩
    have HB := Lib.hid (btr (bal (b0 w) _) hb1)
    have Ho := Lib.hid (own_mono (base' := w.heap.size) ho1 (by simp))
    clear ho1 hb1
    go_wp2
    go_ret
    exact ⟨A1, c1, rfl, Ho.out, HB.out⟩
  · have hvp : (0 : Int) < (v : Int) := by omega
    have hvn : (v : Int) < (n : Int) := by omega
    have hv0' : (0 : Int) ≤ (v : Int) := by omega
    go_enter Try.func61, Try.ntmps61
    go_wp2_with fail
    refine hCh.out.mono ?_
    rintro e w1 ⟨A1, c1, rfl, ho1, hb1⟩
    have HB := Lib.hid (btr (bal (b0 w) _) hb1)
    have cA : w1.cell? ⟨w.heap.size, 0, none⟩ = some (.slice A n c) := cell_be (by simp) hb1
    have hPw := Lib.hid (hP.out w1 hb1)
    have Ho := Lib.hid (own_mono (base' := w.heap.size) ho1 (by simp))
    clear ho1 hb1
    go_wp2_with fail
    refine hPw.out.mono ?_
    rintro e w2 ⟨A2, c2, ps, rfl, hok, hop, hb2⟩
    have hpl : ps.length = n := hok.out.1.trans hn.out
    obtain ⟨gp, rfl⟩ : ∃ g, A2 = some ⟨g, 0, none⟩ := by
      rcases hop.out.2 with ⟨h0, _⟩ | ⟨g, cap, cur, hv, _⟩
      · injection h0 with _ e _; omega
      · injection hv with e1; exact ⟨g, e1⟩
    obtain ⟨x, hx⟩ : ∃ x, ps[v]? = some x := ⟨_, List.getElem?_eq_getElem (by omega)⟩
    have cP := (own64_cell hop.out hpl hx).1
    have HB2 := Lib.hid (btr HB.out hb2.out)
    have z2 := HB2.out.size
    have Ho2 := Lib.hid (own_be Ho.out hb2.out)
    have hr := Lib.hid (M.around_step ht.out hok.out hd.out hv0 hx)
    have hrl : Hid ((M.aroundOf xs v).length = d + 1) := by
      show _ = _
      rw [hr.out, List.length_append, M.childs_length]; rfl
    clear hop hb2 Ho HB hPw hP hCh cA hx
    go_wp2_with (at_builtin; refine push64N rfl (.tmp 11) (.tmp 17) rfl w2 w.heap.size A1 d c1 (M.childs xs v d) x rfl _ rfl rfl Ho2 z2 (by omega) ?_; intro A4 c4 w4 ho4 hb4)
    go_ret
    rw [hrl.out, hr.out]
    exact ⟨A4, c4, rfl, ho4.out, HB2.out.trans hb4.out⟩

end Go.Proofs.Ytcipafjibkclcaa
