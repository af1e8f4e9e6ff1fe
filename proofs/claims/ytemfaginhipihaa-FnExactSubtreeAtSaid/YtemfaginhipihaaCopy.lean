/- append of a whole slice to a row of the call's own; copies of slices: l01Own, slices.Clone, l01Make. -/
import Derived.Test.YtemfaginhipihaaNodes
import Derived.Laws.AppendOwnNone
import Derived.WalkSpells
import Derived.RangeFuncRecord
namespace Go.Proofs.Ytemfaginhipihaa
open Go.RowKit

set_option maxRecDepth 100000 in
theorem appendInts {ops : Array Oper} {rest : List Oper} {o : Oper} {a : Act} {Q : Exit → Act → World → Prop} (hgd : o.guard = none) (s x : Operand)
    (ho : o.op = .call { callee := .builtin .append, args := #[s, x], argTypes := #[24, 24] }) (w : World) (B : Nat) (A : Option Addr) (n c : Nat) (zs : List Int) (A2 : Option Addr) (m c2 : Nat) (ys : List Int)
    (hs : a.eval s = .slice A n c) (hx : a.eval x = .slice A2 m c2) (hown : Hid (Own64 w B (.slice A n c) zs)) (hsrc : Hid (Ints w w.heap.size A2 ys)) (hm : Hid (ys.length = m)) (hz : Hid (A2 = none → c2 = 0)) (hB : B ≤ w.heap.size) (hlen : n ≤ 1000000) (hlen2 : m ≤ 1000000)
    (h : ∀ A' c' w', Hid (Own64 w' B (.slice A' (n + m) c') (zs ++ ys)) → Hid (Below B w w') → wpList Try.prog ops Q rest (a.put o.dst (.slice A' (n + m) c')) w') :
    wpList Try.prog ops Q (o :: rest) a w := by
  obtain ⟨i0, hi0, hz0, hz1, hz2⟩ := info_parts info64
  have hown := hown.out
  have hn := own64_len hown
  subst hn
  have hm := hm.out
  subst hm
  rcases A2 with _ | ad
  · have hy : ys = [] := by
      rcases Nat.eq_zero_or_pos ys.length with h0 | h0
      · exact List.eq_nil_of_length_eq_zero h0
      · obtain ⟨_, _, e, _⟩ := hsrc.out h0
        cases e
    subst hy
    have hc2 := hz.out rfl
    subst hc2
    refine wpList_append_own_none hgd s x 24 ho B 2 i0 1 Try.underlying24 hi0 _ zs.length (zs.map (Value.int .i64)) hs hown hx ?_
    have := h A c w (by simpa using Lib.hid hown) (Below.refl _ _)
    simpa using this
  · refine wpList_append_own _ hgd s x 24 ho B 2 i0 (.int .i64 0) 1 8 Try.underlying24 hi0 hz0 hz1 hz2 rfl (by decide) _ zs.length (zs.map (Value.int .i64)) hs hown ad ys.length c2 (ys.map (Value.int .i64)) hx (by simp) ?_ ?_ ?_ ?_ hB ?_
    · intro j u hj
      rw [List.getElem?_map] at hj
      obtain ⟨y, hy, rfl⟩ := Option.map_eq_some_iff.1 hj
      obtain ⟨b, off, e, _, hc⟩ := hsrc.out (by have := (List.getElem?_eq_some_iff.1 hy).1; omega)
      injection e with e
      subst e
      have ha : (⟨b, off, none⟩ : Addr).add j = ⟨b, off + j, none⟩ := by unfold Addr.add; split <;> simp_all
      rw [ha]
      exact hc j y hy
    · intro u hu
      obtain ⟨y, _, rfl⟩ := List.mem_map.1 hu
      rfl
    · unfold maxLen; omega
    · omega
    · intro v' w1 hown1 hg1 _
      obtain ⟨A', c', rfl⟩ : ∃ A' c', v' = .slice A' (zs.length + ys.length) c' := own_shape hown1
      refine h A' c' w1 ?_ ?_
      · show Own64 _ _ _ _
        unfold Own64
        rw [List.length_append, List.map_append]
        exact hown1
      · exact (Below.refl B w).grown hg1 hB (fun k hk => (hown.lt k hk).1)

theorem own64_z {w : World} {B n c : Nat} {A : Option Addr} {zs : List Int} (h : Own64 w B (.slice A n c) zs) : A = none → c = 0 := by
  intro e
  subst e
  rcases h.2 with ⟨h1, _⟩ | ⟨g, cap, cur, hv, _⟩
  · injection h1
  · cases hv

set_option maxHeartbeats 400000 in
theorem l01Own (A : Option Addr) (xs : List Int) (m c : Nat) (w : World) (hm : Hid (xs.length = m)) (hx : m ≤ 1000000) (hz : Hid (A = none → c = 0)) (h : Hid (Ints w w.heap.size A xs)) :
    Calls Try.prog 126 #[.slice A m c] w fun e w' => ∃ A' c', e = .returned (.slice A' m c') ∧ Own64 w' w.heap.size (.slice A' m c') xs ∧ Below w.heap.size w w' := by
  have hs : Hid (Own64 (w.alloc (.cells #[] 2)) w.heap.size (.slice (some ⟨w.heap.size, 0, none⟩) 0 0) []) := own64_empty (Nat.le_refl _)
  have hi : Hid (Ints (w.alloc (.cells #[] 2)) (w.alloc (.cells #[] 2)).heap.size A xs) := h.out.al _
  have hB : w.heap.size ≤ (w.alloc (.cells #[] 2)).heap.size := by simp
  go_enter Try.func126, Try.ntmps126
  go_wp2_with (at_builtin; refine appendInts rfl (.tmp 3) (.tmp 4) rfl _ w.heap.size (some ⟨w.heap.size, 0, none⟩) 0 0 [] A m c xs rfl rfl hs hi hm hz hB (Nat.zero_le _) hx ?_; intro A2 c2 w2 ho2 hb2)
  go_ret
  exact ⟨A2, c2, by simp, by have := ho2.out; simpa using this, ((Below.refl _ _).alloc (Nat.le_refl _) _).trans hb2.out⟩

set_option maxHeartbeats 400000 in
set_option maxRecDepth 100000 in
theorem clone (ad : Addr) (xs : List Int) (m c : Nat) (w : World) (hm : Hid (xs.length = m)) (hx : m ≤ 1000000) (h : Hid (Ints w w.heap.size (some ad) xs)) :
    Calls Try.prog 113 #[.slice (some ad) m c] w fun e w' => ∃ A' c', e = .returned (.slice A' m c') ∧ Own64 w' w.heap.size (.slice A' m c') xs ∧ Below w.heap.size w w' := by
  have hs : Hid (Own64 (w.alloc (.cells #[] 2)) w.heap.size (.slice (some ⟨w.heap.size, 0, none⟩) 0 0) []) := own64_empty (Nat.le_refl _)
  have hi : Hid (Ints (w.alloc (.cells #[] 2)) (w.alloc (.cells #[] 2)).heap.size (some ad) xs) := h.out.al _
  have hB : w.heap.size ≤ (w.alloc (.cells #[] 2)).heap.size := by simp
  have hz : Hid ((some ad : Option Addr) = none → c = 0) := fun e => by cases e
  have heq := fun W => Lib.run_eql_slice_nil (P := Try.prog) W 24 2 (some ad) m c 0 0 Try.underlying24
  go_enter Try.func113, Try.ntmps113
  go_wp2_with (at_builtin; refine appendInts rfl (.tmp 5) (.tmp 6) rfl _ w.heap.size (some ⟨w.heap.size, 0, none⟩) 0 0 [] (some ad) m c xs rfl rfl hs hi hm hz hB (Nat.zero_le _) hx ?_; intro A2 c2 w2 ho2 hb2)
  go_ret
  exact ⟨A2, c2, by simp, by have := ho2.out; simpa using this, ((Below.refl _ _).alloc (Nat.le_refl _) _).trans hb2.out⟩

set_option maxHeartbeats 400000 in
theorem l01Make (A : Option Addr) (xs : List Int) (m c : Nat) (w : World) (hm : Hid (xs.length = m)) (hx : m ≤ 1000000) (hz : Hid (A = none → c = 0)) (h : Hid (Ints w w.heap.size A xs)) :
    Calls Try.prog 139 #[.slice A m c] w fun e w' => ∃ A' c', e = .returned (.agg #[.slice A' m c']) ∧ Own64 w' w.heap.size (.slice A' m c') xs ∧ Below w.heap.size w w' := by
  go_enter Try.func139, Try.ntmps139
  go_wp2_with fail
  refine (l01Own A xs m c _ hm hx hz (h.out.al _)).mono ?_
  rintro e w1 ⟨A', c', rfl, ho, hb⟩
  obtain ⟨hc, hf⟩ := bcell hb
  have hB := btr (bal (b0 w) _) hb
  have Ho := Lib.hid (own_mono (base' := w.heap.size + 1) ho (by simp))
  clear ho
  go_wp2
  refine bodyPost_ret (v := .agg #[.slice A' m c']) (by simp [results, Try.results139, go_sem, hc]) rfl ?_
  exact ⟨A', c', rfl, own_mono (own_far Ho.out (Nat.lt_succ_self _) _) (Nat.le_succ _), below_setCell hB (Nat.le_refl _) _⟩

theorem ints_sub {w : World} {B b off : Nat} {xs : List Int} (h : Ints w B (some ⟨b, off, none⟩) xs) (v m : Nat) : Ints w B (some ⟨b, off + v, none⟩) ((xs.drop v).take m) := fun hpos => by
  have hl : 0 < xs.length := by simp only [List.length_take, List.length_drop] at hpos; omega
  obtain ⟨b', off', e, hb, hc⟩ := h hl
  injection e with e
  injection e with e1 e2
  subst e1
  subst e2
  refine ⟨b, off + v, rfl, hb, fun j x hj => ?_⟩
  rw [List.getElem?_take] at hj
  split at hj
  · rw [List.getElem?_drop] at hj
    rw [Nat.add_assoc]
    exact hc _ _ hj
  · cases hj

set_option maxHeartbeats 1000000 in
set_option maxRecDepth 100000 in
theorem l01Subtree (A : Option Addr) (xs : List Int) (c v E : Nat) (w : World) (hx : xs.length ≤ 24) (hcl : xs.length ≤ c) (ht : Hid (M.isTree xs = true)) (hv : v < xs.length) (hE : Hid (v + M.span 1 (xs.drop v) = E)) (h : Ints w w.heap.size A xs) :
    Calls Try.prog 129 #[.agg #[.slice A xs.length c], .int .i64 v] w fun e w' => ∃ A' c', e = .returned (.agg #[.slice A' (E - v) c']) ∧ Own64 w' w.heap.size (.slice A' (E - v) c') (M.sub xs v) ∧ Below w.heap.size w w' := by
  obtain ⟨b, off, rfl, hbB, hcells⟩ := h (by omega)
  have Hh := Lib.hid h
  have hok := Lib.hid (M.tree_ok ht.out hv)
  have hEn := M.end_le (xs := xs) (v := v) (by omega)
  rw [hE.out] at hEn
  have hvE0 : v ≤ E := by have := hE.out; omega
  have hsl : Hid ((M.sub xs v).length = E - v) := by show _ = _; rw [M.sub_length]; have := hE.out; omega
  clear hcells h
  go_enter Try.func129, Try.ntmps129
  go_wp2
  obtain ⟨W, hW⟩ : ∃ W, W = (w.alloc (.cells #[.slice (some ⟨b, off, none⟩) xs.length c] 26)).alloc (.cells #[.slice none 0 0] 26) := ⟨_, rfl⟩
  have hcell : W.cell? ⟨w.heap.size, 0, none⟩ = some (.slice (some ⟨b, off, none⟩) xs.length c) := by subst hW; exact cell_al (by simp) _
  have hres : W.heap[w.heap.size + 1]? = some (.cells #[.slice none 0 0] 26 (0, 0)) := by subst hW; have := World.alloc_heap_new (w.alloc (.cells #[.slice (some ⟨b, off, none⟩) xs.length c] 26)) (.cells #[.slice none 0 0] 26); simpa using this
  have hIW := Lib.hid (((Hh.out.al (.cells #[.slice (some ⟨b, off, none⟩) xs.length c] 26)).al (.cells #[.slice none 0 0] 26)))
  have hBW := bal (bal (b0 w) (.cells #[.slice (some ⟨b, off, none⟩) xs.length c] 26)) (.cells #[.slice none 0 0] 26)
  rw [← hW] at hIW hBW ⊢
  have HBW := Lib.hid hBW
  have hWs : w.heap.size + 1 < W.heap.size := lt_of_block hres
  have Hres := Lib.hid hres
  clear hW hBW hres
  have hvE : (v : Int) ≤ (E : Int) := by omega
  have hEc : (E : Int) ≤ (c : Int) := by omega
  have hv0 : (0 : Int) ≤ (v : Int) := by omega
  have hvc : ¬ c = v := by omega
  have hK0 : Hid (Below (w.heap.size + 1) W W.drew) := (Below.refl _ _).drew
  have hK1 : Hid (Below W.heap.size W W.drew) := (Below.refl _ _).drew
  have hcell0 : W.drew.cell? ⟨w.heap.size, 0, none⟩ = some (.slice (some ⟨b, off, none⟩) xs.length c) := hcell
  have hEnd : ∀ W', Hid (Below W.heap.size W W') → Calls Try.prog 89 #[.agg #[.slice (some ⟨b, off, none⟩) xs.length c], .int .i64 v] W' fun e w' => e = .returned (.int .i64 E) ∧ Hid (Below W.heap.size W w') := fun W' hW' =>
    (l01End _ xs c v E W' hE hx hok (hIW.out.be hW'.out)).mono fun e w' ⟨he, hb⟩ => ⟨he, btr hW'.out hb⟩
  have HEnd := Lib.hid hEnd
  have hMake : ∀ W', Hid (Below W.heap.size W W') → Calls Try.prog 139 #[.slice (some ⟨b, off + v, none⟩) (E - v) (c - v)] W' fun e w' => ∃ A' c', e = .returned (.agg #[.slice A' (E - v) c']) ∧ Hid (Own64 w' W.heap.size (.slice A' (E - v) c') (M.sub xs v)) ∧ Hid (Below W.heap.size W w') := fun W' hW' => by
    have hi : Hid (Ints W' W'.heap.size (some ⟨b, off + v, none⟩) (M.sub xs v)) := (ints_sub (hIW.out.be hW'.out) v (M.span 1 (xs.drop v)))
    exact (l01Make _ (M.sub xs v) (E - v) (c - v) W' hsl (by omega) (fun e => by cases e) hi).mono fun e w' ⟨A', c', he, ho, hb⟩ => ⟨A', c', he, own_mono ho hW'.out.size, btr hW'.out hb⟩
  have HMake := Lib.hid hMake
  have hR : ∀ W', Hid (Below W.heap.size W W') → W'.cell? ⟨w.heap.size + 1, 0, none⟩ = some (.slice none 0 0) ∧ W'.frozen? ⟨w.heap.size + 1, 0, none⟩ = false := fun W' hW' => by
    have h1 := (hW'.out.block (w.heap.size + 1) hWs).trans Hres.out
    exact ⟨cell_of_one h1, free_of_one h1⟩
  have HR := Lib.hid hR
  have hS : ∀ W', Hid (Below W.heap.size W W') → W'.cell? ⟨w.heap.size, 0, none⟩ = some (.slice (some ⟨b, off, none⟩) xs.length c) ∧ Hid (Below (w.heap.size + 1) W W') := fun W' hW' => ⟨cell_be hcell hW'.out, hW'.out.mono (by omega)⟩
  have HS := Lib.hid hS
  clear hMake hEnd hR hS hcell
  go_region_held3 (fun w' => w'.cell? ⟨w.heap.size, 0, none⟩ = some (.slice (some ⟨b, off, none⟩) xs.length c) ∧ Hid (Below (w.heap.size + 1) W w')) (first | exact ⟨hcell0, hK0⟩ | exact HS.out _ (by assumption) | exact ⟨(World.cell?_setCell_other _ _ _ _ (by simp)).trans (HS.out _ (by assumption)).1, below_setCell (HS.out _ (by assumption)).2.out (Nat.le_refl _) _⟩) (first | (go_at_call 89; refine (HEnd.out _ (by assumption)).mono ?_; rintro e w7 ⟨rfl, hb7⟩) | (go_at_call 139; refine (HMake.out _ (by assumption)).mono ?_; rintro e w8 ⟨A8, c8, rfl, ho8, hb8⟩; obtain ⟨hr8, hf8⟩ := HR.out _ hb8))
  clear HS HR HMake HEnd hcell0 hK0 hK1
  go_wp2
  refine bodyPost_ret (v := .agg #[.slice A8 (E - v) c8]) (by simp [results, Try.results129, go_sem, hr8]) rfl ?_
  exact ⟨A8, c8, rfl, own_mono (own_far ho8.out hWs _) (by omega), below_setCell (btr HBW.out hb8.out) (by omega) _⟩

/-- what a function of a tree and a number that hands back a tree and a code must do, as F says -/
def GivesTree1 (f : Nat) (F : List Int → Int → List Int × Int) : Prop :=
  ∀ (A : Option Addr) (xs : List Int) (c : Nat) (v : Int) (w : World), xs.length ≤ 1048576 → xs.length ≤ c ∧ c ≤ 1000000000000 → Ints w w.heap.size A xs →
    Calls Try.prog f #[.agg #[.slice A xs.length c], .int .i64 v] w fun e w' => ∃ A' c', e = .returned (.tuple #[.agg #[.slice A' (F xs v).1.length c'], .int .i64 (F xs v).2]) ∧
      Own64 w' w.heap.size (.slice A' (F xs v).1.length c') (F xs v).1 ∧ Below w.heap.size w w'
end Go.Proofs.Ytemfaginhipihaa
