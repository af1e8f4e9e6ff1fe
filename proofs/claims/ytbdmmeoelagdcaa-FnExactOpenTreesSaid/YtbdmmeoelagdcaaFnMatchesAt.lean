/- MatchesAt, the program's and the model's. -/
import Derived.Test.YtbdmmeoelagdcaaPCode
import Derived.Test.YtbdmmeoelagdcaaFnTreeText
namespace Go.Proofs.Ytbdmmeoelagdcaa
open Go.RowKit

def F_MatchesAt (xs : List Int) (v : Int) (p : ByteArray) : Bool × Int := if codeP xs (M.isPat p.data.toList) [v] = 0 then ((atNode p.data.toList xs v.toNat).isSome, 0) else (false, codeP xs (M.isPat p.data.toList) [v])
theorem F_MatchesAt_yes {xs : List Int} {v : Int} {p : ByteArray} (h : codeP xs (M.isPat p.data.toList) [v] = 0) : F_MatchesAt xs v p = ((atNode p.data.toList xs v.toNat).isSome, 0) := if_pos h
theorem F_MatchesAt_no {xs : List Int} {v : Int} {p : ByteArray} (h : codeP xs (M.isPat p.data.toList) [v] ≠ 0) : F_MatchesAt xs v p = (false, codeP xs (M.isPat p.data.toList) [v]) := if_neg h
/-- a tree, a number and a text to a bool and a code -/
def GivesTNS (f : Nat) (F : List Int → Int → ByteArray → Bool × Int) : Prop :=
  ∀ (A : Option Addr) (xs : List Int) (c : Nat) (v : Int) (p : ByteArray) (w : World), xs.length ≤ 1048576 → xs.length ≤ c ∧ c ≤ 1000000000000 → p.size ≤ 1048576 → Ints w w.heap.size A xs →
    Calls Try.prog f #[.agg #[.slice A xs.length c], .int .i64 v, .string p] w fun e w' => e = .returned (.tuple #[.bool (F xs v p).1, .int .i64 (F xs v p).2]) ∧ Below w.heap.size w w'
theorem pat_60 {p : ByteArray} (h : M.isPat p.data.toList = true) : p.size ≤ 60 := by rw [Lib.size_eq]; exact (M.isPat_iff.1 h).1

set_option maxRecDepth 100000 in
set_option maxHeartbeats 2000000 in
theorem impl_MatchesAt : GivesTNS 23 F_MatchesAt := by
  intro A xs c v p w hx hcc hp h
  have hC := Lib.hid (codeOfMatch A (some ⟨w.heap.size + 1, 0, none⟩) xs [v] c 1 p ((w.alloc (.cells #[.slice A xs.length c] 29)).alloc (.cells #[.int .i64 v] 2)) (by omega) (by simp) hp ((h.al _).al _) (by have := ints_new (w.alloc (.cells #[.slice A xs.length c] 29)) #[.int .i64 v] [v] rfl; simpa using this))
  simp only [List.length_cons, List.length_nil, Nat.zero_add] at hC
  obtain ⟨r, hr⟩ : ∃ r, Hid (codeP xs (M.isPat p.data.toList) [v] = r) := ⟨_, rfl⟩
  rw [hr.out] at hC
  by_cases h0 : r = 0
  · subst h0
    obtain ⟨ht, hpt, hcd⟩ := codeP_zero hr.out
    have hn := M.code_node hcd
    have hp6 := pat_60 hpt
    rw [F_MatchesAt_yes hr.out]
    obtain ⟨n, rfl⟩ := Int.eq_ofNat_of_zero_le hn.1
    have hnl : n < xs.length := by simpa using hn.2.1
    have hM : Hid (∀ W, Below w.heap.size w W → Calls Try.prog 74 #[.slice A xs.length c, .int .i64 (n : Int), .string p] W fun e w' => e = .returned (.bool (atNode p.data.toList xs n).isSome) ∧ Hid (Below W.heap.size W w')) := fun W hb =>
      matchesAt A xs c n p W (Lib.hid ht) hnl hcc.1 (by omega) hp6 (Lib.hid (h.be hb))
    simp only [Int.toNat_natCast]
    generalize (atNode p.data.toList xs n).isSome = b at *
    clear hr hn hcd ht hpt h
    go_enter Try.func23, Try.ntmps23
    go_wp2_with fail
    refine hC.out.mono ?_
    rintro e w1 ⟨rfl, hb⟩
    have hB := Lib.hid (btr (bal (bal (b0 w) _) _) hb.out)
    have hcell : w1.cell? ⟨w.heap.size, 0, none⟩ = some (.slice A xs.length c) := cell_be (cell_al (by simp) _) hb.out
    clear hb hC
    go_wp2_with fail
    refine (hM.out _ hB.out).mono ?_
    rintro e w2 ⟨rfl, hb2⟩
    have hB2 := btr hB.out hb2.out
    go_wp2
    go_ret2
    exact ⟨rfl, hB2⟩
  · rw [F_MatchesAt_no (by rw [hr.out]; exact h0), hr.out]
    have hq : (r != 0) = true := by simp [h0]
    clear hr h0 h
    go_enter Try.func23, Try.ntmps23
    go_wp2_with fail
    refine hC.out.mono ?_
    rintro e w1 ⟨rfl, hb⟩
    have hB := btr (bal (bal (b0 w) _) _) hb.out
    go_wp2
    go_ret2
    exact ⟨rfl, hB⟩

/-- the text at a node, as the model has it -/
theorem textAtNode (A : Option Addr) (xs : List Int) (c v : Nat) (w : World) (ht : Hid (M.isTree xs = true)) (hv : v < xs.length) (hcl : xs.length ≤ c) (h : Hid (Ints w w.heap.size A xs)) :
    Calls Try.prog 72 #[.agg #[.slice A xs.length c], .int .i64 (v : Int)] w fun e w' => ∃ A' n' c', e = .returned (.agg #[.slice A' n' c']) ∧ Hid (Below w.heap.size w w') ∧
      Hid (∀ W, Below w'.heap.size w' W → Calls Try.prog 71 #[.agg #[.slice A' n' c']] W fun e w2 => e = .returned (.string (M.textL 24 (M.sub xs v))) ∧ Hid (Below W.heap.size W w2)) := by
  have hx := (M.tree_len ht.out).2
  obtain ⟨E, hE⟩ : ∃ E, Hid (v + M.span 1 (xs.drop v) = E) := ⟨_, rfl⟩
  have hsl : (M.sub xs v).length = E - v := by rw [M.sub_length]; have := hE.out; omega
  have hst := M.sub_tree ht.out hv
  have hs24 := (M.tree_len hst).2
  refine (l01Subtree A xs c v E w hx hcl ht hv hE h.out).mono ?_
  rintro e w1 ⟨A', c', rfl, ho, hb⟩
  refine ⟨A', E - v, c', rfl, hb, fun W hbW => ?_⟩
  have hcap := own_cap ho
  have := l01Text 24 A' (M.sub xs v) c' W (Lib.hid hst) hs24 (by omega) (Lib.hid ((ints_of_own64 ho).be hbW))
  rwa [hsl] at this
theorem match_at (xs : List Int) (v : Nat) (p : ByteArray) (W : World) (ht : M.isTree xs = true) (hv : v < xs.length) (hpt : M.isPat p.data.toList = true) :
    Calls Try.prog 70 #[.string p, .string (M.textL 24 (M.sub xs v))] W (MtQ (atNode p.data.toList xs v) W) := by
  have hst := M.sub_tree ht hv
  have hs24 := (M.tree_len hst).2
  have hp6 := pat_60 hpt
  exact l04Match p _ W (by omega) (by rw [M.textL_size 24 _ hst hs24]; omega) (Lib.hid (.inl ⟨(M.isPat_iff.1 hpt).2.1, M.text_piece hst hs24⟩))

set_option maxRecDepth 100000 in
set_option maxHeartbeats 2000000 in
theorem spec_MatchesAt : GivesTNS 21 F_MatchesAt := by
  intro A xs c v p w hx hcc hp h
  have hC := Lib.hid (l04Code A (some ⟨w.heap.size + 1, 0, none⟩) xs [v] c 1 p ((w.alloc (.cells #[.slice A xs.length c] 29)).alloc (.cells #[.int .i64 v] 2)) (by omega) (by simp) hp ((h.al _).al _) (by have := ints_new (w.alloc (.cells #[.slice A xs.length c] 29)) #[.int .i64 v] [v] rfl; simpa using this))
  simp only [List.length_cons, List.length_nil, Nat.zero_add] at hC
  obtain ⟨r, hr⟩ : ∃ r, Hid (codeP xs (M.isPat p.data.toList) [v] = r) := ⟨_, rfl⟩
  rw [hr.out] at hC
  by_cases h0 : r = 0
  · subst h0
    obtain ⟨ht, hpt, hcd⟩ := codeP_zero hr.out
    have hn := M.code_node hcd
    rw [F_MatchesAt_yes hr.out]
    obtain ⟨n, rfl⟩ := Int.eq_ofNat_of_zero_le hn.1
    have hnl : n < xs.length := by simpa using hn.2.1
    have hT := fun W (hb : Below w.heap.size w W) => Lib.hid (textAtNode A xs c n W (Lib.hid ht) hnl hcc.1 (Lib.hid (h.be hb)))
    have hM : Hid (∀ W, Calls Try.prog 70 #[.string p, .string (M.textL 24 (M.sub xs n))] W fun e w' => ∃ (A : Option Addr) (n' c : Nat), e = .returned (.tuple #[.slice A n' c, .bool (atNode p.data.toList xs n).isSome]) ∧ Hid (Below W.heap.size W w')) := fun W =>
      (match_at xs n p W ht hnl hpt).mono fun e w' ⟨A, n, c, h1, h2, _⟩ => ⟨A, n, c, h1, h2⟩
    simp only [Int.toNat_natCast]
    generalize (atNode p.data.toList xs n).isSome = b at *
    generalize M.textL 24 (M.sub xs n) = T at *
    clear hr hn hcd ht hpt h
    go_enter Try.func21, Try.ntmps21
    go_wp2_with fail
    refine hC.out.mono ?_
    rintro e w1 ⟨rfl, hb⟩
    have hB := Lib.hid (btr (bal (bal (b0 w) _) _) hb.out)
    have hcell : w1.cell? ⟨w.heap.size, 0, none⟩ = some (.slice A xs.length c) := cell_be (cell_al (by simp) _) hb.out
    clear hb hC
    go_wp2_with fail
    refine (hT _ hB.out).out.mono ?_
    rintro e w2 ⟨A2, n2, c2, rfl, hb2, hT2⟩
    go_wp2_with fail
    refine (hT2.out _ (b0 _)).mono ?_
    rintro e w3 ⟨rfl, hb3⟩
    go_wp2_with fail
    refine (hM.out _).mono ?_
    rintro e w4 ⟨A4, n4, c4, rfl, hb4⟩
    have hB2 := btr hB.out (btr hb2.out (btr hb3.out hb4.out))
    go_wp2
    go_ret2
    exact ⟨rfl, hB2⟩
  · rw [F_MatchesAt_no (by rw [hr.out]; exact h0), hr.out]
    have hq : (r != 0) = true := by simp [h0]
    clear hr h0 h
    go_enter Try.func21, Try.ntmps21
    go_wp2_with fail
    refine hC.out.mono ?_
    rintro e w1 ⟨rfl, hb⟩
    have hB := btr (bal (bal (b0 w) _) _) hb.out
    go_wp2
    go_ret2
    exact ⟨rfl, hB⟩
end Go.Proofs.Ytbdmmeoelagdcaa
