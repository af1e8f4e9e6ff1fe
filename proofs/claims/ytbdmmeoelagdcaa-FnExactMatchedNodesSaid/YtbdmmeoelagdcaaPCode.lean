/- The code of a tree, a pattern and nodes; whether a pattern matches at a node. -/
import Derived.Test.YtbdmmeoelagdcaaMtS
import Derived.Test.YtbdmmeoelagdcaaFnIsPattern
import Derived.Test.YtbdmmeoelagdcaaCopy
import Derived.Test.YtbdmmeoelagdcaaTextIn
import Derived.Test.YtbdmmeoelagdcaaNodes
namespace Go.Proofs.Ytbdmmeoelagdcaa
open Go.RowKit

/-- texts of trees are read as pieces -/
theorem M.text_close : ∀ (f : Nat) (xs : List Int), M.isTree xs = true → xs.length ≤ f → ∀ (r : List UInt8), (∀ o, M.close ((M.textL f xs).data.toList ++ r) (o + 1) = M.close r (o + 1)) ∧ M.piece ((M.textL f xs).data.toList ++ r) = some r := by
  intro f
  induction f with
  | zero => intro xs ht h; have := (M.tree_len ht).1; omega
  | succ f ih =>
    intro xs ht hf r
    have hl := M.tree_len ht
    obtain ⟨d, hd, _⟩ := M.tree_degN ht (v := 0) (by omega)
    have hK : ∀ k, k ≤ d → ∃ q, (M.textK f xs k).data.toList = 40 :: q ∧ ∀ (r : List UInt8) o, M.close (q ++ r) (o + 1) = M.close r (o + 1) := by
      intro k
      induction k with
      | zero => intro _; exact ⟨[], by rw [M.textK_zero], fun r o => rfl⟩
      | succ k ihk =>
        intro hk
        obtain ⟨q, h1, h2⟩ := ihk (by omega)
        have h3 := M.sub_short ht hd (i := k) (by omega)
        have h4 := M.kid_lt ht hd (i := k) (by omega)
        refine ⟨q ++ (M.textL f (M.sub xs (M.kidAt xs 0 k))).data.toList, ?_, fun r o => ?_⟩
        · rw [M.textK_succ, ByteArray.data_append, Array.toList_append, h1]; rfl
        · rw [List.append_assoc, h2, (ih _ (M.sub_tree ht h4) (by omega) r).1]
    obtain ⟨q, h1, h2⟩ := hK d (Nat.le_refl _)
    have ht2 : (M.textL (f + 1) xs).data.toList ++ r = 40 :: (q ++ (41 :: r)) := by
      rw [M.textL_at hd, ByteArray.data_append, Array.toList_append, h1]
      simp
    rw [ht2]
    exact ⟨fun o => by rw [M.close_open, h2, M.close_shut], by rw [M.piece_open, h2, M.close_shut, M.close_zero]⟩
theorem M.text_piece {f : Nat} {xs : List Int} (ht : M.isTree xs = true) (hf : xs.length ≤ f) : M.piece (M.textL f xs).data.toList = some [] := by
  have := (M.text_close f xs ht hf []).2
  rwa [List.append_nil] at this

/-- the code of a tree, a pattern and nodes -/
def codeP (xs : List Int) (b : Bool) (ns : List Int) : Int := if M.isTree xs then (if b then M.code xs ns else 6) else 1
theorem codeP_zero {xs : List Int} {b : Bool} {ns : List Int} (h : codeP xs b ns = 0) : M.isTree xs = true ∧ b = true ∧ M.code xs ns = 0 := by
  rw [codeP] at h
  cases ht : M.isTree xs
  · rw [ht] at h; simp at h
  · cases b
    · rw [ht] at h; simp at h
    · rw [ht] at h; simpa using h
theorem code_range {xs ns : List Int} (ht : M.isTree xs = true) : M.code xs ns = 0 ∨ M.code xs ns = 2 := by
  rw [M.code, if_pos ht]
  generalize (xs.length : Int) = n
  induction ns with
  | nil => exact .inl rfl
  | cons v r ih =>
    rw [M.codeGo]
    split
    · exact .inr rfl
    · exact ih

set_option maxHeartbeats 1000000 in
theorem codeOfMatch (A An : Option Addr) (xs ns : List Int) (c cn : Nat) (p : ByteArray) (w : World) (hx : xs.length ≤ 1000000000000) (hns : ns.length ≤ 1000) (hp : p.size ≤ 1048576) (h : Ints w w.heap.size A xs) (hn : Ints w w.heap.size An ns) :
    Calls Try.prog 73 #[.agg #[.slice A xs.length c], .string p, .slice An ns.length cn] w fun e w' => e = .returned (.int .i64 (codeP xs (M.isPat p.data.toList) ns)) ∧ Hid (Below w.heap.size w w') := by
  have hT := Lib.hid (implIsTree A xs c (w.alloc (.cells #[.slice A xs.length c] 29)) hx (h.al _))
  have hP : Hid (∀ W, Calls Try.prog 19 #[.string p] W fun e w' => e = .returned (.bool (M.isPat p.data.toList)) ∧ Hid (Below W.heap.size W w')) := fun W => impl_IsPattern p W hp
  have hC : Hid (∀ W, Below w.heap.size w W → Calls Try.prog 132 #[.agg #[.slice A xs.length c], .slice An ns.length cn] W fun e w' => e = .returned (.int .i64 (M.code xs ns)) ∧ Below W.heap.size W w') := fun W hb => codeOf A An xs ns c cn W hx hns (h.be hb) (hn.be hb) _ rfl
  rw [codeP]
  generalize M.isPat p.data.toList = b at *
  generalize M.code xs ns = r at *
  generalize M.isTree xs = t at *
  clear h hn
  cases t
  · go_enter Try.func73, Try.ntmps73
    go_wp2_with fail
    refine hT.out.mono ?_
    rintro e w1 ⟨rfl, hb1⟩
    have hB := Lib.hid (btr (bal (b0 w) _) hb1)
    go_wp2
    go_ret
    exact ⟨rfl, hB⟩
  · cases b
    · go_enter Try.func73, Try.ntmps73
      go_wp2_with fail
      refine hT.out.mono ?_
      rintro e w1 ⟨rfl, hb1⟩
      have hB := Lib.hid (btr (bal (b0 w) _) hb1)
      clear hb1
      go_wp2_with fail
      refine (hP.out _).mono ?_
      rintro e w2 ⟨rfl, hb2⟩
      have hB2 := Lib.hid (btr hB.out hb2.out)
      go_wp2
      go_ret
      exact ⟨rfl, hB2⟩
    · go_enter Try.func73, Try.ntmps73
      go_wp2_with fail
      refine hT.out.mono ?_
      rintro e w1 ⟨rfl, hb1⟩
      have hB := Lib.hid (btr (bal (b0 w) _) hb1)
      have hcell : w1.cell? ⟨w.heap.size, 0, none⟩ = some (.slice A xs.length c) := cell_be (by simp) hb1
      clear hb1
      go_wp2_with fail
      refine (hP.out _).mono ?_
      rintro e w2 ⟨rfl, hb2⟩
      have hB2 := Lib.hid (btr hB.out hb2.out)
      have hcell2 := cell_be hcell hb2.out
      clear hb2 hB hcell
      go_wp2_with fail
      refine (hC.out _ hB2.out).mono ?_
      rintro e w3 ⟨rfl, hb3⟩
      have hB3 := Lib.hid (btr hB2.out hb3)
      go_wp2
      go_ret
      exact ⟨rfl, hB3⟩

set_option maxHeartbeats 1000000 in
theorem l04Code (A An : Option Addr) (xs ns : List Int) (c cn : Nat) (p : ByteArray) (w : World) (hx : xs.length ≤ 1000000000000) (hns : ns.length ≤ 1000) (hp : p.size ≤ 1048576) (h : Ints w w.heap.size A xs) (hn : Ints w w.heap.size An ns) :
    Calls Try.prog 69 #[.agg #[.slice A xs.length c], .string p, .slice An ns.length cn] w fun e w' => e = .returned (.int .i64 (codeP xs (M.isPat p.data.toList) ns)) ∧ Hid (Below w.heap.size w w') := by
  obtain ⟨r, hr⟩ : ∃ r, Hid (M.code xs ns = r) := ⟨_, rfl⟩
  have hC := Lib.hid (l01Nodes A An xs ns c cn (w.alloc (.cells #[.slice A xs.length c] 29)) hx hns (h.al _) (hn.al _) r hr)
  have hP : Hid (∀ W, Calls Try.prog 65 #[.string p] W fun e w' => e = .returned (.bool (M.isPat p.data.toList)) ∧ Hid (Below W.heap.size W w')) := fun W => l04Is p W hp
  rw [codeP, hr.out]
  generalize M.isPat p.data.toList = b at *
  clear h hn
  cases ht : M.isTree xs
  · have h1 : r = 1 := by rw [← hr.out, M.code, ht]; rfl
    subst h1
    go_enter Try.func69, Try.ntmps69
    go_wp2_with fail
    refine hC.out.mono ?_
    rintro e w1 ⟨rfl, hb1⟩
    have hB := Lib.hid (btr (bal (b0 w) _) hb1)
    go_wp2
    go_ret
    exact ⟨rfl, hB⟩
  · have h2 : (r != 1) = true := by
      rcases code_range (ns := ns) ht with h | h
      · rw [hr.out] at h; rw [h]; rfl
      · rw [hr.out] at h; rw [h]; rfl
    clear ht hr
    go_enter Try.func69, Try.ntmps69
    go_wp2_with fail
    refine hC.out.mono ?_
    rintro e w1 ⟨rfl, hb1⟩
    have hB := Lib.hid (btr (bal (b0 w) _) hb1)
    clear hb1
    cases b
    · go_wp2_with fail
      refine (hP.out _).mono ?_
      rintro e w2 ⟨rfl, hb2⟩
      have hB2 := Lib.hid (btr hB.out hb2.out)
      go_wp2
      go_ret
      exact ⟨rfl, hB2⟩
    · go_wp2_with fail
      refine (hP.out _).mono ?_
      rintro e w2 ⟨rfl, hb2⟩
      have hB2 := Lib.hid (btr hB.out hb2.out)
      go_wp2
      go_ret
      exact ⟨rfl, hB2⟩

/-- what a pattern has at its letters at a node, if it matches there -/
def atNode (P : List UInt8) (xs : List Int) (v : Nat) : Option (List (List UInt8)) := M.mt P (M.textL 24 (M.sub xs v)).data.toList
set_option maxRecDepth 100000 in
set_option maxHeartbeats 1000000 in
theorem matchesAt (A : Option Addr) (xs : List Int) (c v : Nat) (p : ByteArray) (w : World) (ht : Hid (M.isTree xs = true)) (hv : v < xs.length) (hcl : xs.length ≤ c) (hcu : c ≤ 9223372036854775807) (hp : p.size ≤ 60) (h : Hid (Ints w w.heap.size A xs)) :
    Calls Try.prog 74 #[.slice A xs.length c, .int .i64 (v : Int), .string p] w fun e w' => e = .returned (.bool (atNode p.data.toList xs v).isSome) ∧ Hid (Below w.heap.size w w') := by
  have hx := (M.tree_len ht.out).2
  obtain ⟨b, off, rfl, hbB, _⟩ := h.out (by omega)
  obtain ⟨E, hE⟩ : ∃ E, Hid (v + M.span 1 (xs.drop v) = E) := ⟨_, rfl⟩
  have hsl : (M.sub xs v).length = E - v := by rw [M.sub_length]; have := hE.out; omega
  have hst := M.sub_tree ht.out hv
  have hse := M.end_le (xs := xs) (v := v) (by omega)
  have hs24 : (M.sub xs v).length ≤ 24 := by have := (M.tree_len hst).2; exact this
  have hPa := Lib.hid (partAt (some ⟨b, off, none⟩) xs c v E w hE hx hcl hcu (Lib.hid (M.tree_ok ht.out hv)) h.out)
  have hTx : Hid (Calls Try.prog 79 #[.slice (some ⟨b, off + v, none⟩) (E - v) (E - v)] w fun e w' => e = .returned (.string (M.textL 24 (M.sub xs v))) ∧ Hid (Below w.heap.size w w')) := by
    have := textOf (some ⟨b, off + v, none⟩) (M.sub xs v) (E - v) w 24 (Lib.hid hst) hs24 (by omega) (by omega) (Lib.hid (ints_sub h.out v _))
    rwa [hsl] at this
  have hts : (M.textL 24 (M.sub xs v)).size ≤ 48 := by rw [M.textL_size 24 _ hst hs24]; omega
  have hMt : Hid (∀ W, Calls Try.prog 78 #[.string p, .string (M.textL 24 (M.sub xs v))] W fun e w' => ∃ (A : Option Addr) (n c : Nat), e = .returned (.tuple #[.slice A n c, .bool (atNode p.data.toList xs v).isSome]) ∧ Hid (Below W.heap.size W w')) := fun W =>
    (piecesAtLetters p _ W (by omega) (by omega)).mono fun e w' ⟨A, n, c, h1, h2, _⟩ => ⟨A, n, c, h1, h2⟩
  generalize atNode p.data.toList xs v = R at *
  clear hts hs24 hst hsl
  generalize M.textL 24 (M.sub xs v) = T at *
  clear h
  go_enter Try.func74, Try.ntmps74
  go_wp2_with fail
  refine hPa.out.mono ?_
  rintro e w1 ⟨⟨b', off', hA, rfl⟩, rfl⟩
  injection hA with hA
  injection hA with e1 e2
  subst e1 e2
  go_wp2_with fail
  refine hTx.out.mono ?_
  rintro e w2 ⟨rfl, hb2⟩
  go_wp2_with fail
  refine (hMt.out _).mono ?_
  rintro e w3 ⟨A3, n3, c3, rfl, hb3⟩
  have hB := Lib.hid (btr hb2.out hb3.out)
  go_wp2
  go_ret
  exact ⟨rfl, hB⟩
end Go.Proofs.Ytbdmmeoelagdcaa
