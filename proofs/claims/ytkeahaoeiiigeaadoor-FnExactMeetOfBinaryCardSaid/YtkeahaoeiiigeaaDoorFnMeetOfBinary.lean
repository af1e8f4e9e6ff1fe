/- MeetOfBinary, the program's and the model's. -/
import Derived.Test.YtkeahaoeiiigeaaDoorFnIsAtMost
import Derived.Test.YtkeahaoeiiigeaaDoorFnBinaryOfVector
namespace Go.Proofs.YtkeahaoeiiigeaaDoor
open Go.RowKit

/-- the list half-way: the lesser numbers up to a place, behind it those of the first list -/
def mixed (a b : List Int) (k : Nat) : List Int := (M.meet a b).take k ++ a.drop k
theorem mixed_zero (a b : List Int) : mixed a b 0 = a := by simp [mixed]
theorem mixed_all {a b : List Int} {n : Nat} (ha : a.length = n) (hb : b.length = n) : mixed a b n = M.meet a b := by
  have h : (M.meet a b).length = n := (M.meet_len (by omega)).trans ha
  rw [mixed, ← h, List.take_length, h, ← ha, List.drop_length, List.append_nil]
theorem mixed_at {a b : List Int} {k n : Nat} {x : Int} (ha : a.length = n) (hb : b.length = n) (hk : k < n) (hx : a[k]? = some x) : (mixed a b k)[k]? = some x := by
  have h : (M.meet a b).length = n := (M.meet_len (by omega)).trans ha
  have hl : ((M.meet a b).take k).length = k := by rw [List.length_take]; omega
  rw [mixed, List.getElem?_append_right (by omega), hl, Nat.sub_self, List.getElem?_drop, Nat.add_zero, hx]
theorem mixed_set {a b : List Int} {k n : Nat} {x y : Int} (ha : a.length = n) (hb : b.length = n) (hk : k < n) (hx : a[k]? = some x) (hy : b[k]? = some y) : (mixed a b k).set k (min x y) = mixed a b (k + 1) := by
  have h : (M.meet a b).length = n := (M.meet_len (by omega)).trans ha
  have hl : ((M.meet a b).take k).length = k := by rw [List.length_take]; omega
  have hd : a.drop k = x :: a.drop (k + 1) := by
    obtain ⟨hk2, rfl⟩ := List.getElem?_eq_some_iff.1 hx
    exact List.drop_eq_getElem_cons hk2
  have hm : (M.meet a b)[k]? = some (min x y) := by rw [M.meet, List.getElem?_zipWith, hx, hy]
  rw [mixed, mixed, List.set_append_right _ _ (by omega), hl, Nat.sub_self, hd, List.set_cons_zero, List.take_add_one, hm]
  simp
theorem mixed_len {a b : List Int} {k n : Nat} (ha : a.length = n) (hb : b.length = n) (hk : k ≤ n) : (mixed a b k).length = n := by
  have h : (M.meet a b).length = n := (M.meet_len (by omega)).trans ha
  rw [mixed, List.length_append, List.length_take, List.length_drop]
  omega

/-- the text of the meet -/
noncomputable def F_MeetOfBinary (s u : ByteArray) : ByteArray × Int :=
  if codeTwo s u = 0 then F_BinaryOfVector (M.meet (treeOf s).vec (treeOf u).vec) else (⟨#[]⟩, codeTwo s u)
theorem good_out {l : List Int} (h : M.good l) (hl : l.length ≤ 23) : M.anyOut l = false := by
  rw [M.anyOut, List.any_eq_false]
  intro x hx
  obtain ⟨i, hi⟩ := List.mem_iff_getElem?.1 hx
  obtain ⟨h1, h2, _⟩ := h i x hi
  have := (List.getElem?_eq_some_iff.1 hi).1
  simp [outB]
  omega
theorem ofV_good {l : List Int} (h : M.good l) : ∃ t, ofV l = some t := M.ofVec_good _ _ (by omega) h

/-- what a function of two texts that reads both variables must do -/
def GivesM (f : Nat) (F : ByteArray → ByteArray → ByteArray × Int) : Prop := ∀ (p q : Addr) (s u : ByteArray) (w : World), s.size ≤ 1048576 → u.size ≤ 1048576 → w.cell? ⟨0, 0, none⟩ = some (errV p) → w.cell? ⟨1, 0, none⟩ = some (errV q) →
  Calls Tryd.prog f #[.string s, .string u] w fun e w' => e = .returned (.tuple #[.string (F s u).1, .int .i64 (F s u).2]) ∧ Hid (Below w.heap.size w w')

theorem own_at2 {w : World} {B n c k : Nat} {A : Option Addr} {zs : List Int} {x : Int} (h : Own64 w B (.slice A n c) zs) (hx : zs[k]? = some x) : ∃ g, A = some ⟨g, 0, none⟩ ∧ w.cell? ⟨g, k, none⟩ = some (.int .i64 x) ∧ w.frozen? ⟨g, k, none⟩ = false ∧ B ≤ g ∧ g < w.heap.size := by
  obtain ⟨g, rfl, _, _⟩ := own_at h hx
  exact ⟨g, rfl, own64_cell h (own64_len h).symm hx⟩

theorem own_cap {w : World} {B n c : Nat} {A : Option Addr} {l : List Int} (h : Own64 w B (.slice A n c) l) : n ≤ c ∧ c ≤ 9223372036854775807 := by
  have hl := own64_len h
  rcases h.2 with ⟨h1, h2⟩ | ⟨g, cap, cur, hv, _, _, h3, h4, _⟩
  · injection h1 with e1 e2 e3; omega
  · injection hv with e1 e2 e3
    subst e3
    simp only [maxLen] at h4
    omega

set_option maxRecDepth 100000 in
set_option maxHeartbeats 4000000 in
theorem impl_MeetOfBinary : GivesM 41 F_MeetOfBinary := by
  intro p q s u w hs hu hc hc2
  have hC := Lib.hid (codeOfTwo p s u w hc)
  have HC := Lib.hid hc
  have HC2 := Lib.hid hc2
  by_cases h0 : codeTwo s u = 0
  · rw [h0] at hC
    obtain ⟨t, v, rfl, rfl, ht, hv⟩ := codeTwo_zero h0
    have hF : F_MeetOfBinary t.str v.str = F_BinaryOfVector (M.meet t.vec v.vec) := by rw [F_MeetOfBinary, if_pos h0, treeOf_str, treeOf_str]
    rw [hF]
    have hT := fun W h => Lib.hid (vectorOf p t W (by omega) h)
    have hV := fun W h => Lib.hid (vectorOf p v W (by omega) h)
    have lt := Lib.hid t.vec_len
    have lv : Hid (v.vec.length = t.n) := v.vec_len.trans hv
    have hR : Hid (∀ A c W, (M.meet t.vec v.vec).length ≤ c ∧ c ≤ 9223372036854775807 → Ints W W.heap.size A (M.meet t.vec v.vec) → W.cell? ⟨1, 0, none⟩ = some (errV q) → Calls Tryd.prog 37 #[.slice A t.n c] W fun e w' => e = .returned (.tuple #[.string (F_BinaryOfVector (M.meet t.vec v.vec)).1, .int .i64 (F_BinaryOfVector (M.meet t.vec v.vec)).2]) ∧ Hid (Below W.heap.size W w')) := fun A c W h1 h2 h3 => by
      have hl : (M.meet t.vec v.vec).length = t.n := (M.meet_len (by rw [lt.out, lv.out])).trans lt.out
      have := impl_BinaryOfVector q A (M.meet t.vec v.vec) c W (by omega) h1 h2 h3
      rwa [hl] at this
    have hcap : Hid (∀ (w : World) B (A : Option Addr) c (l : List Int), Own64 w B (.slice A t.n c) l → t.n ≤ c ∧ c ≤ 9223372036854775807) := fun w B A c l h => by
      exact own_cap h
    clear hF h0 hc hv hc2
    generalize F_BinaryOfVector (M.meet t.vec v.vec) = R at *
    generalize v.str = S2 at *
    generalize t.str = S1 at *
    generalize t.vec = T at *
    generalize v.vec = V at *
    generalize t.n = N at *
    rw [lv.out] at hV
    rw [lt.out] at hT
    go_enter Tryd.func41, Tryd.ntmps41
    go_wp2_with (first | (go_at_call 75; refine hC.out.mono ?_; rintro e w1 ⟨rfl, hb1⟩) | (go_at_call_of 65 (Value.string S1); refine (hT _ (cell_up hb1.out HC.out)).out.mono ?_; rintro e w2 ⟨A2, c2, rfl, ho2, hb2⟩) | (go_at_call 65; refine (hV _ (cell_up hb2.out (cell_up hb1.out HC.out))).out.mono ?_; rintro e w3 ⟨A3, c3, rfl, ho3, hb3⟩))
    have hB := Lib.hid (btr hb1.out (btr hb2.out hb3.out))
    have ho2' := Lib.hid (own_be ho2.out hb3.out)
    have hz2 := Lib.hid (Nat.le_trans hb1.out.size hb2.out.size)
    have hz1 := Lib.hid hb1.out.size
    have hc2 := Lib.hid HC2.out
    have hA2 : Hid (∀ g, A2 = some ⟨g, 0, none⟩ → g < w2.heap.size) := fun g e => by
      have h := ho2.out
      rw [e] at h
      exact (World.ownsRow.lt h g rfl).2
    have hww := Lib.hid (Nat.le_trans hb1.out.size hb2.out.size)
    clear hT hV HC hC hb1 hb2 hb3 ho2 HC2
    go_loopw [21] (fun qi wr => ∃ (k : Nat), k ≤ N ∧ qi = .int .i64 (k : Int) ∧ Hid (Below w.heap.size w wr) ∧ Hid (Own64 wr w1.heap.size (.slice A2 N c2) (mixed T V k)) ∧ Hid (Own64 wr w2.heap.size (.slice A3 N c3) V)) (fun qi _ => N - (intOf qi).toNat)
    case atStart => exact ⟨0, Nat.zero_le _, rfl, hB, by rw [mixed_zero]; exact ho2', ho3⟩
    case round =>
      obtain ⟨k, hk, rfl, hbr, hoT, hoV⟩ := hrel
      by_cases hlt : k < N
      · have hki : (k : Int) < (N : Int) := by omega
        have hx : Hid (T[k]? = some (T[k]'(by have := lt.out; omega))) := List.getElem?_eq_getElem _
        have hy : Hid (V[k]? = some (V[k]'(by have := lv.out; omega))) := List.getElem?_eq_getElem _
        generalize T[k]'(by have := lt.out; omega) = x at hx
        generalize V[k]'(by have := lv.out; omega) = y at hy
        obtain ⟨g2, rfl, k2, z2, l2, u2⟩ := own_at2 hoT.out (mixed_at lt.out lv.out hlt hx.out)
        obtain ⟨g3, rfl, k3, z3, l3, u3⟩ := own_at2 hoV.out hy.out
        have hlt2 := hA2.out g2 rfl
        have hne : ¬ g2 = g3 := by omega
        have hne2 : ¬ g3 = g2 := by omega
        have hbN : Hid (Below w.heap.size w (wr.setCell ⟨g2, k, none⟩ (.int .i64 (min x y)))) := below_setCell hbr.out (Nat.le_trans hz1.out l2) _
        have hoN : Hid (Own64 (wr.setCell ⟨g2, k, none⟩ (.int .i64 (min x y))) w1.heap.size (.slice (some ⟨g2, 0, none⟩) N c2) (mixed T V (k + 1))) := by
          have := own64_set hoT.out (mixed_len lt.out lv.out (Nat.le_of_lt hlt)) k (min x y)
          rwa [mixed_set lt.out lv.out hlt hx.out hy.out] at this
        have hoV2 : Hid (Own64 (wr.setCell ⟨g2, k, none⟩ (.int .i64 (min x y))) w2.heap.size (.slice (some ⟨g3, 0, none⟩) N c3) V) := own_far hoV.out hlt2 _
        clear hoT hoV hbr hR hcap
        go_wp2
        go_roundw
        case rel => exact ⟨k + 1, by omega, by go_num, hbN, hoN, hoV2⟩
        case measure => simp [intOf]; omega
      · obtain rfl : k = N := by omega
        have hoT' := hoT.out
        rw [mixed_all lt.out lv.out] at hoT'
        have hE := Lib.hid (hR.out A2 c2 wr (by rw [(M.meet_len (by rw [lt.out, lv.out])).trans lt.out]; exact hcap.out _ _ _ _ _ hoT') (ints_of_own64 hoT') (cell_up hbr.out hc2.out))
        clear hR hcap hoT hoT' hoV
        go_wp2_with (go_at_call 37; refine hE.out.mono ?_; rintro e w9 ⟨rfl, hb9⟩)
        go_ret2
        exact ⟨rfl, Lib.hid (btr hbr.out hb9.out)⟩
  · have hF : F_MeetOfBinary s u = (⟨#[]⟩, codeTwo s u) := by rw [F_MeetOfBinary, if_neg h0]
    rw [hF]
    have hne : (codeTwo s u != 0) = true := bne_iff_ne.2 h0
    clear hF h0 hc HC hc2 HC2
    generalize codeTwo s u = z at *
    go_enter Tryd.func41, Tryd.ntmps41
    go_wp2_with (go_at_call 75; refine hC.out.mono ?_; rintro e w1 ⟨rfl, hb1⟩)
    go_ret2
    exact ⟨rfl, hb1⟩

set_option maxRecDepth 100000 in
set_option maxHeartbeats 4000000 in
theorem spec_MeetOfBinary : GivesM 40 F_MeetOfBinary := by
  intro p q s u w hs hu _ _
  have hC := Lib.hid (l03Both s u w hs hu)
  by_cases h0 : codeTwo s u = 0
  · rw [h0] at hC
    obtain ⟨t, v, rfl, rfl, ht, hv⟩ := codeTwo_zero h0
    have hgood := M.meet_good (a := t.vec) (b := v.vec) (by rw [t.vec_len, v.vec_len, hv]) (M.vec_good t) (M.vec_good v)
    have hml : (M.meet t.vec v.vec).length = t.n := (M.meet_len (by rw [t.vec_len, v.vec_len, hv])).trans t.vec_len
    obtain ⟨m, hm⟩ := ofV_good hgood
    have hF : F_MeetOfBinary t.str v.str = (m.str, 0) := by rw [F_MeetOfBinary, if_pos h0, treeOf_str, treeOf_str, F_BinaryOfVector_some (by omega) (good_out hgood (by omega)) hm]
    rw [hF]
    have hT := fun W => Lib.hid (l03Vector t.n t W (Nat.le_refl _) (by omega))
    have hV := fun W => Lib.hid (l03Vector v.n v W (Nat.le_refl _) (by omega))
    have lt := Lib.hid t.vec_len
    have lv : Hid (v.vec.length = t.n) := v.vec_len.trans hv
    have hR : Hid (∀ (N : Nat) A c W, N = t.n → N ≤ c → c ≤ 9223372036854775807 → Ints W W.heap.size A (M.meet t.vec v.vec) → Calls Tryd.prog 67 #[.slice A N c] W (ofEnd (some m) N W)) := fun N A c W e h1 h2 h3 => by
      subst e
      have := l03Of (t.n + 1) A (M.meet t.vec v.vec) t.n c W (Lib.hid hml) (by omega) ht h1 h2 (Lib.hid (M.anyOut_no (good_out hgood (by omega)))) (Lib.hid h3)
      rwa [hm] at this
    have hcap : Hid (∀ (w : World) B (A : Option Addr) n c (l : List Int), Own64 w B (.slice A n c) l → n ≤ c ∧ c ≤ 9223372036854775807) := fun w B A n c l h => own_cap h
    clear hF h0 hv hgood hml hm
    generalize v.str = S2 at *
    generalize t.str = S1 at *
    generalize t.vec = T at *
    generalize v.vec = V at *
    generalize t.n = N at *
    go_enter Tryd.func40, Tryd.ntmps40
    go_wp2_with (first | (go_at_call 74; refine hC.out.mono ?_; rintro e w' ⟨rfl, hw⟩; have hw' := hw.symm; subst hw') | (go_at_call_of 64 (Value.string S1); refine (hT _).out.mono ?_; rintro e w2 ⟨A2, n2, c2, rfl, ho2, hb2⟩; have hn2 := (own64_len ho2.out).trans lt.out; subst hn2) | (go_at_call 64; refine (hV _).out.mono ?_; rintro e w3 ⟨A3, n3, c3, rfl, ho3, hb3⟩))
    have hB := Lib.hid (btr hb2.out hb3.out)
    have ho2' := Lib.hid (own_be ho2.out hb3.out)
    have hn3 := Lib.hid ((own64_len ho3.out).trans lv.out)
    have hA2 : Hid (∀ g, A2 = some ⟨g, 0, none⟩ → g < w2.heap.size) := fun g e => by
      have h := ho2.out
      rw [e] at h
      exact (World.ownsRow.lt h g rfl).2
    clear hT hV hC hb2 hb3 ho2
    go_loopw [9] (fun qi wr => ∃ (k : Nat), k ≤ n2 ∧ qi = .int .i64 (k : Int) ∧ Hid (Below w.heap.size w wr) ∧ Hid (Own64 wr w.heap.size (.slice A2 n2 c2) (mixed T V k)) ∧ Hid (Own64 wr w2.heap.size (.slice A3 n3 c3) V)) (fun qi _ => n2 - (intOf qi).toNat)
    case atStart => exact ⟨0, Nat.zero_le _, rfl, hB, by rw [mixed_zero]; exact ho2', ho3⟩
    case round =>
      obtain ⟨k, hk, rfl, hbr, hoT, hoV⟩ := hrel
      by_cases hlt : k < n2
      · have hki : (k : Int) < (n2 : Int) := by omega
        have hkj : (k : Int) < (n3 : Int) := by have := hn3.out; omega
        have hk0 : (0 : Int) ≤ (k : Int) := by omega
        have hx : Hid (T[k]? = some (T[k]'(by have := lt.out; omega))) := List.getElem?_eq_getElem _
        have hy : Hid (V[k]? = some (V[k]'(by have := lv.out; omega))) := List.getElem?_eq_getElem _
        generalize T[k]'(by have := lt.out; omega) = x at hx
        generalize V[k]'(by have := lv.out; omega) = y at hy
        obtain ⟨g2, rfl, k2, z2, l2, u2⟩ := own_at2 (w := wr.drew) hoT.out (mixed_at lt.out lv.out hlt hx.out)
        obtain ⟨g3, rfl, k3, z3, l3, u3⟩ := own_at2 (w := wr.drew) hoV.out hy.out
        have hlt2 := hA2.out g2 rfl
        have hne : ¬ g2 = g3 := by omega
        have hne2 : ¬ g3 = g2 := by omega
        have hbN : Hid (Below w.heap.size w (wr.drew.setCell ⟨g2, k, none⟩ (.int .i64 (min x y)))) := below_setCell hbr.out.drew l2 _
        have hoN : Hid (Own64 (wr.drew.setCell ⟨g2, k, none⟩ (.int .i64 (min x y))) w.heap.size (.slice (some ⟨g2, 0, none⟩) n2 c2) (mixed T V (k + 1))) := by
          have := own64_set (w := wr.drew) hoT.out (mixed_len lt.out lv.out (Nat.le_of_lt hlt)) k (min x y)
          rwa [mixed_set lt.out lv.out hlt hx.out hy.out] at this
        have hoV2 : Hid (Own64 (wr.drew.setCell ⟨g2, k, none⟩ (.int .i64 (min x y))) w2.heap.size (.slice (some ⟨g3, 0, none⟩) n3 c3) V) := own_far (w := wr.drew) hoV.out hlt2 _
        clear hoT hoV hbr hR hcap
        go_wp2
        go_region
        go_wp2
        go_roundw
        case rel => exact ⟨k + 1, by omega, by go_num, hbN, hoN, hoV2⟩
        case measure => simp [intOf]; omega
      · obtain rfl : k = n2 := by omega
        have hoT' := hoT.out
        rw [mixed_all lt.out lv.out] at hoT'
        obtain ⟨q1, q2⟩ := hcap.out _ _ _ _ _ _ hoT'
        have hE := Lib.hid (hR.out k A2 c2 wr rfl q1 q2 (ints_of_own64 hoT'))
        clear hR hcap hoT hoT' hoV
        go_wp2_with (go_at_call 67; refine hE.out.mono ?_; rintro e w' ⟨⟨S, rfl, _, hS⟩, hw⟩; have hw' := hw.symm; subst hw'; have hS' := hS _ rfl; subst hS')
        go_ret2
        exact ⟨rfl, hbr⟩
  · have hF : F_MeetOfBinary s u = (⟨#[]⟩, codeTwo s u) := by rw [F_MeetOfBinary, if_neg h0]
    rw [hF]
    have hne : (codeTwo s u != 0) = true := bne_iff_ne.2 h0
    clear hF h0
    generalize codeTwo s u = z at *
    go_enter Tryd.func40, Tryd.ntmps40
    go_wp2_with (go_at_call 74; refine hC.out.mono ?_; rintro e w' ⟨rfl, hw⟩; subst hw)
    go_ret2
    exact ⟨rfl, Lib.hid (b0 _)⟩
end Go.Proofs.YtkeahaoeiiigeaaDoor
