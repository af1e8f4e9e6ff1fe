/- The code of a tree, a pattern and nodes; whether a pattern matches at a node. -/
import Derived.Test.YtbdmmeoelagdcaaMgFillPattern2
import Derived.JoinedOf
namespace Go.Proofs.Ytbdmmeoelagdcaa
open Go.RowKit

/-- texts of trees are read as pieces -/
theorem M.text_close : ∀ (f : Nat) (xs : List Int), M.isTree xs = true → xs.length ≤ f → ∀ (r : List UInt8), (∀ o, M.close ((M.textL f xs).data.toList ++ r) (o + 1) = M.close r (o + 1)) ∧ M.piece ((M.textL f xs).data.toList ++ r) = some r := by
  intro f
  induction f with
  | zero => intro xs ht h; have := (M.tree_len ht).1; omega
  | succ f ih =>
    intro xs ht hf r
    have hl := M.tree_len ht
    obtain ⟨d, hd, _⟩ := M.tree_degN ht (v := 0) (by omega)
    have hK : ∀ k, k ≤ d → ∃ q, (M.textK f xs k).data.toList = 40 :: q ∧ ∀ (r : List UInt8) o, M.close (q ++ r) (o + 1) = M.close r (o + 1) := by
      intro k
      induction k with
      | zero => intro _; exact ⟨[], by rw [M.textK_zero], fun r o => rfl⟩
      | succ k ihk =>
        intro hk
        obtain ⟨q, h1, h2⟩ := ihk (by omega)
        have h3 := M.sub_short ht hd (i := k) (by omega)
        have h4 := M.kid_lt ht hd (i := k) (by omega)
        refine ⟨q ++ (M.textL f (M.sub xs (M.kidAt xs 0 k))).data.toList, ?_, fun r o => ?_⟩
        · rw [M.textK_succ, ByteArray.data_append, Array.toList_append, h1]; rfl
        · rw [List.append_assoc, h2, (ih _ (M.sub_tree ht h4) (by omega) r).1]
    obtain ⟨q, h1, h2⟩ := hK d (Nat.le_refl _)
    have ht2 : (M.textL (f + 1) xs).data.toList ++ r = 40 :: (q ++ (41 :: r)) := by
      rw [M.textL_at hd, ByteArray.data_append, Array.toList_append, h1]
      simp
    rw [ht2]
    exact ⟨fun o => by rw [M.close_open, h2, M.close_shut], by rw [M.piece_open, h2, M.close_shut, M.close_zero]⟩
theorem M.text_piece {f : Nat} {xs : List Int} (ht : M.isTree xs = true) (hf : xs.length ≤ f) : M.piece (M.textL f xs).data.toList = some [] := by
  have := (M.text_close f xs ht hf []).2
  rwa [List.append_nil] at this

/-- the code of a tree, a pattern and nodes -/
def codeP (xs : List Int) (b : Bool) (ns : List Int) : Int := if M.isTree xs then (if b then M.code xs ns else 6) else 1
theorem codeP_zero {xs : List Int} {b : Bool} {ns : List Int} (h : codeP xs b ns = 0) : M.isTree xs = true ∧ b = true ∧ M.code xs ns = 0 := by
  rw [codeP] at h
  cases ht : M.isTree xs
  · rw [ht] at h; simp at h
  · cases b
    · rw [ht] at h; simp at h
    · rw [ht] at h; simpa using h
theorem code_range {xs ns : List Int} (ht : M.isTree xs = true) : M.code xs ns = 0 ∨ M.code xs ns = 2 := by
  rw [M.code, if_pos ht]
  generalize (xs.length : Int) = n
  induction ns with
  | nil => exact .inl rfl
  | cons v r ih =>
    rw [M.codeGo]
    split
    · exact .inr rfl
    · exact ih

set_option maxHeartbeats 1000000 in
theorem codeOfMatch (A An : Option Addr) (xs ns : List Int) (c cn : Nat) (p : ByteArray) (w : World) (hx : xs.length ≤ 1000000000000) (hns : ns.length ≤ 1000) (hp : p.size ≤ 1048576) (h : Ints w w.heap.size A xs) (hn : Ints w w.heap.size An ns) :
    Calls Try.prog 73 #[.agg #[.slice A xs.length c], .string p, .slice An ns.length cn] w fun e w' => e = .returned (.int .i64 (codeP xs (M.isPat p.data.toList) ns)) ∧ Hid (Below w.heap.size w w') := by
  have hT := Lib.hid (implIsTree A xs c (w.alloc (.cells #[.slice A xs.length c] 29)) hx (h.al _))
  have hP : Hid (∀ W, Calls Try.prog 19 #[.string p] W fun e w' => e = .returned (.bool (M.isPat p.data.toList)) ∧ Hid (Below W.heap.size W w')) := fun W => impl_IsPattern p W hp
  have hC : Hid (∀ W, Below w.heap.size w W → Calls Try.prog 132 #[.agg #[.slice A xs.length c], .slice An ns.length cn] W fun e w' => e = .returned (.int .i64 (M.code xs ns)) ∧ Below W.heap.size W w') := fun W hb => codeOf A An xs ns c cn W hx hns (h.be hb) (hn.be hb) _ rfl
  rw [codeP]
  generalize M.isPat p.data.toList = b at *
  generalize M.code xs ns = r at *
  generalize M.isTree xs = t at *
  clear h hn
  cases t
  · go_enter Try.func73, Try.ntmps73
    go_wp2_with fail
    refine hT.out.mono ?_
    rintro e w1 ⟨rfl, hb1⟩
    have hB := Lib.hid (btr (bal (b0 w) _) hb1)
    go_wp2
    go_ret
    exact ⟨rfl, hB⟩
  · cases b
    · go_enter Try.func73, Try.ntmps73
      go_wp2_with fail
      refine hT.out.mono ?_
      rintro e w1 ⟨rfl, hb1⟩
      have hB := Lib.hid (btr (bal (b0 w) _) hb1)
      clear hb1
      go_wp2_with fail
      refine (hP.out _).mono ?_
      rintro e w2 ⟨rfl, hb2⟩
      have hB2 := Lib.hid (btr hB.out hb2.out)
      go_wp2
      go_ret
      exact ⟨rfl, hB2⟩
    · go_enter Try.func73, Try.ntmps73
      go_wp2_with fail
      refine hT.out.mono ?_
      rintro e w1 ⟨rfl, hb1⟩
      have hB := Lib.hid (btr (bal (b0 w) _) hb1)
      have hcell : w1.cell? ⟨w.heap.size, 0, none⟩ = some (.slice A xs.length c) := cell_be (by simp) hb1
      clear hb1
      go_wp2_with fail
      refine (hP.out _).mono ?_
      rintro e w2 ⟨rfl, hb2⟩
      have hB2 := Lib.hid (btr hB.out hb2.out)
      have hcell2 := cell_be hcell hb2.out
      clear hb2 hB hcell
      go_wp2_with fail
      refine (hC.out _ hB2.out).mono ?_
      rintro e w3 ⟨rfl, hb3⟩
      have hB3 := Lib.hid (btr hB2.out hb3)
      go_wp2
      go_ret
      exact ⟨rfl, hB3⟩

set_option maxHeartbeats 1000000 in
theorem l04Code (A An : Option Addr) (xs ns : List Int) (c cn : Nat) (p : ByteArray) (w : World) (hx : xs.length ≤ 1000000000000) (hns : ns.length ≤ 1000) (hp : p.size ≤ 1048576) (h : Ints w w.heap.size A xs) (hn : Ints w w.heap.size An ns) :
    Calls Try.prog 69 #[.agg #[.slice A xs.length c], .string p, .slice An ns.length cn] w fun e w' => e = .returned (.int .i64 (codeP xs (M.isPat p.data.toList) ns)) ∧ Hid (Below w.heap.size w w') := by
  obtain ⟨r, hr⟩ : ∃ r, Hid (M.code xs ns = r) := ⟨_, rfl⟩
  have hC := Lib.hid (l01Nodes A An xs ns c cn (w.alloc (.cells #[.slice A xs.length c] 29)) hx hns (h.al _) (hn.al _) r hr)
  have hP : Hid (∀ W, Calls Try.prog 65 #[.string p] W fun e w' => e = .returned (.bool (M.isPat p.data.toList)) ∧ Hid (Below W.heap.size W w')) := fun W => l04Is p W hp
  rw [codeP, hr.out]
  generalize M.isPat p.data.toList = b at *
  clear h hn
  cases ht : M.isTree xs
  · have h1 : r = 1 := by rw [← hr.out, M.code, ht]; rfl
    subst h1
    go_enter Try.func69, Try.ntmps69
    go_wp2_with fail
    refine hC.out.mono ?_
    rintro e w1 ⟨rfl, hb1⟩
    have hB := Lib.hid (btr (bal (b0 w) _) hb1)
    go_wp2
    go_ret
    exact ⟨rfl, hB⟩
  · have h2 : (r != 1) = true := by
      rcases code_range (ns := ns) ht with h | h
      · rw [hr.out] at h; rw [h]; rfl
      · rw [hr.out] at h; rw [h]; rfl
    clear ht hr
    go_enter Try.func69, Try.ntmps69
    go_wp2_with fail
    refine hC.out.mono ?_
    rintro e w1 ⟨rfl, hb1⟩
    have hB := Lib.hid (btr (bal (b0 w) _) hb1)
    clear hb1
    cases b
    · go_wp2_with fail
      refine (hP.out _).mono ?_
      rintro e w2 ⟨rfl, hb2⟩
      have hB2 := Lib.hid (btr hB.out hb2.out)
      go_wp2
      go_ret
      exact ⟨rfl, hB2⟩
    · go_wp2_with fail
      refine (hP.out _).mono ?_
      rintro e w2 ⟨rfl, hb2⟩
      have hB2 := Lib.hid (btr hB.out hb2.out)
      go_wp2
      go_ret
      exact ⟨rfl, hB2⟩

/-- what a pattern has at its letters at a node, if it matches there -/
def atNode (P : List UInt8) (xs : List Int) (v : Nat) : Option (List (List UInt8)) := M.mt P (M.textL 24 (M.sub xs v)).data.toList
set_option maxRecDepth 100000 in
set_option maxHeartbeats 1000000 in
theorem matchesAt (A : Option Addr) (xs : List Int) (c v : Nat) (p : ByteArray) (w : World) (ht : Hid (M.isTree xs = true)) (hv : v < xs.length) (hcl : xs.length ≤ c) (hcu : c ≤ 9223372036854775807) (hp : p.size ≤ 60) (h : Hid (Ints w w.heap.size A xs)) :
    Calls Try.prog 74 #[.slice A xs.length c, .int .i64 (v : Int), .string p] w fun e w' => e = .returned (.bool (atNode p.data.toList xs v).isSome) ∧ Hid (Below w.heap.size w w') := by
  have hx := (M.tree_len ht.out).2
  obtain ⟨b, off, rfl, hbB, _⟩ := h.out (by omega)
  obtain ⟨E, hE⟩ : ∃ E, Hid (v + M.span 1 (xs.drop v) = E) := ⟨_, rfl⟩
  have hsl : (M.sub xs v).length = E - v := by rw [M.sub_length]; have := hE.out; omega
  have hst := M.sub_tree ht.out hv
  have hse := M.end_le (xs := xs) (v := v) (by omega)
  have hs24 : (M.sub xs v).length ≤ 24 := by have := (M.tree_len hst).2; exact this
  have hPa := Lib.hid (partAt (some ⟨b, off, none⟩) xs c v E w hE hx hcl hcu (Lib.hid (M.tree_ok ht.out hv)) h.out)
  have hTx : Hid (Calls Try.prog 79 #[.slice (some ⟨b, off + v, none⟩) (E - v) (E - v)] w fun e w' => e = .returned (.string (M.textL 24 (M.sub xs v))) ∧ Hid (Below w.heap.size w w')) := by
    have := textOf (some ⟨b, off + v, none⟩) (M.sub xs v) (E - v) w 24 (Lib.hid hst) hs24 (by omega) (by omega) (Lib.hid (ints_sub h.out v _))
    rwa [hsl] at this
  have hts : (M.textL 24 (M.sub xs v)).size ≤ 48 := by rw [M.textL_size 24 _ hst hs24]; omega
  have hMt : Hid (∀ W, Calls Try.prog 78 #[.string p, .string (M.textL 24 (M.sub xs v))] W fun e w' => ∃ (A : Option Addr) (n c : Nat), e = .returned (.tuple #[.slice A n c, .bool (atNode p.data.toList xs v).isSome]) ∧ Hid (Below W.heap.size W w')) := fun W =>
    (piecesAtLetters p _ W (by omega) (by omega)).mono fun e w' ⟨A, n, c, h1, h2, _⟩ => ⟨A, n, c, h1, h2⟩
  generalize atNode p.data.toList xs v = R at *
  clear hts hs24 hst hsl
  generalize M.textL 24 (M.sub xs v) = T at *
  clear h
  go_enter Try.func74, Try.ntmps74
  go_wp2_with fail
  refine hPa.out.mono ?_
  rintro e w1 ⟨⟨b', off', hA, rfl⟩, rfl⟩
  injection hA with hA
  injection hA with e1 e2
  subst e1 e2
  go_wp2_with fail
  refine hTx.out.mono ?_
  rintro e w2 ⟨rfl, hb2⟩
  go_wp2_with fail
  refine (hMt.out _).mono ?_
  rintro e w3 ⟨A3, n3, c3, rfl, hb3⟩
  have hB := Lib.hid (btr hb2.out hb3.out)
  go_wp2
  go_ret
  exact ⟨rfl, hB⟩
end Go.Proofs.Ytbdmmeoelagdcaa

/- The tree with a text; texts of trees are whole pieces of brackets. -/
namespace Go.Proofs.Ytbdmmeoelagdcaa
open Go.RowKit

theorem M.text_isB : ∀ (f : Nat) (xs : List Int), M.isTree xs = true → xs.length ≤ f → ∀ c ∈ (M.textL f xs).data.toList, M.isB c := by
  intro f
  induction f with
  | zero => intro xs ht h; have := (M.tree_len ht).1; omega
  | succ f ih =>
    intro xs ht hf
    have hl := M.tree_len ht
    obtain ⟨d, hd, _⟩ := M.tree_degN ht (v := 0) (by omega)
    have hK : ∀ k, k ≤ d → ∀ c ∈ (M.textK f xs k).data.toList, M.isB c := by
      intro k
      induction k with
      | zero => intro _ c hc; rw [M.textK_zero] at hc; rw [List.mem_singleton.1 hc]; exact .inl rfl
      | succ k ihk =>
        intro hk c hc
        have h3 := M.sub_short ht hd (i := k) (by omega)
        have h4 := M.kid_lt ht hd (i := k) (by omega)
        rw [M.textK_succ, ByteArray.data_append, Array.toList_append] at hc
        rcases List.mem_append.1 hc with hc | hc
        · exact ihk (by omega) c hc
        · exact ih _ (M.sub_tree ht h4) (by omega) c hc
    intro c hc
    rw [M.textL_at hd, ByteArray.data_append, Array.toList_append] at hc
    rcases List.mem_append.1 hc with hc | hc
    · exact hK d (Nat.le_refl _) c hc
    · rw [List.mem_singleton.1 hc]; exact .inr rfl
/-- the tree with a text -/
def treeAt (Y : List UInt8) : List Int := (M.parse (M.toI Y)).1
/-- the text of a tree, as bytes -/
def txt (xs : List Int) : List UInt8 := (M.textL 24 xs).data.toList
theorem txt_whole {xs : List Int} (ht : M.isTree xs = true) : M.Whole (txt xs) :=
  ⟨M.text_piece ht (M.tree_len ht).2, fun r o => (M.text_close 24 xs ht (M.tree_len ht).2 r).1 o, M.text_isB 24 xs ht (M.tree_len ht).2⟩
theorem txt_len {xs : List Int} (ht : M.isTree xs = true) : (txt xs).length = 2 * xs.length := by
  have := M.textL_size 24 xs ht (M.tree_len ht).2
  rw [Lib.size_eq] at this
  exact this
end Go.Proofs.Ytbdmmeoelagdcaa

/- Two rows of the call's own that share no block: append to one, a store into one, one made shorter. -/
namespace Go.Proofs.Ytbdmmeoelagdcaa
open Go.RowKit

def Two (w : World) (B : Nat) (v1 v2 : Value) (xs ys : List Int) : Prop :=
  Own64 w B v1 xs ∧ Own64 w B v2 ys ∧ ∀ b, v1.ownBlock = some b → v2.ownBlock ≠ some b
theorem Two.symm {w : World} {B : Nat} {v1 v2 : Value} {xs ys : List Int} (h : Two w B v1 v2 xs ys) : Two w B v2 v1 ys xs := ⟨h.2.1, h.1, fun b h2 h1 => h.2.2 b h1 h2⟩
theorem Two.eq {w : World} {B : Nat} {v1 v2 : Value} {xs ys xs' ys' : List Int} (h : Two w B v1 v2 xs ys) (e : xs = xs') (e' : ys = ys') : Two w B v1 v2 xs' ys' := by subst e; subst e'; exact h
theorem Two.set {w : World} {B g n c : Nat} {v2 : Value} {xs ys : List Int} (h : Two w B (.slice (some ⟨g, 0, none⟩) n c) v2 xs ys) (hn : xs.length = n) (k : Nat) (x : Int) :
    Two (w.setCell ⟨g, k, none⟩ (.int .i64 x)) B (.slice (some ⟨g, 0, none⟩) n c) v2 (xs.set k x) ys :=
  ⟨own64_set h.1 hn k x, ownsRow_setCell_other h.2.1 (a := ⟨g, k, none⟩) (h.2.2 g rfl) _, h.2.2⟩
theorem Two.pop {w : World} {B n c : Nat} {A : Option Addr} {v1 : Value} {xs ys : List Int} (h : Two w B v1 (.slice A n c) xs ys) (hn : 0 < n) : Two w B v1 (.slice A (n - 1) c) xs ys.dropLast := by
  obtain ⟨h1, h2, h3⟩ := h
  refine ⟨h1, ?_, fun b hb => by
    have := h3 b hb
    rcases A with _ | a
    · simp [Value.ownBlock]
    · exact this⟩
  have hl := own64_len h2
  rcases h2.2 with ⟨h0, _⟩ | ⟨g, cap, cur, hv, hg, hh, hnc, hcm, hcs, ht⟩
  · injection h0 with _ e _; omega
  · injection hv with e1 e2 e3
    subst e1
    subst e3
    refine ⟨by simp, .inr ⟨g, c, cur, by rw [hl, List.length_dropLast], hg, hh, ?_, hcm, hcs, ?_⟩⟩
    · rw [List.length_dropLast]; omega
    · have hlen : (ys.map (Value.int .i64)).length = ys.length := by simp
      rw [List.length_dropLast, List.map_dropLast, List.dropLast_eq_take, hlen, ← ht, List.take_take]
      congr 1
      omega
theorem Two.shape {w : World} {B n c : Nat} {A : Option Addr} {v2 : Value} {xs ys : List Int} (h : Two w B (.slice A n c) v2 xs ys) : n = xs.length ∧ (0 < n → ∃ g, A = some ⟨g, 0, none⟩) := by
  have hl := own64_len h.1
  refine ⟨hl, fun hn => ?_⟩
  rcases h.1.2 with ⟨h0, _⟩ | ⟨g, cap, cur, hv, _⟩
  · injection h0 with _ e _; omega
  · injection hv with e1; exact ⟨g, e1⟩
theorem Two.cap {w : World} {B n c : Nat} {A : Option Addr} {v2 : Value} {xs ys : List Int} (h : Two w B (.slice A n c) v2 xs ys) : n ≤ c := by
  rcases h.1.2 with ⟨h0, _⟩ | ⟨g, cap, cur, hv, _, _, hnc, _⟩
  · injection h0 with _ e e'; omega
  · injection hv with _ e e'; omega

set_option maxRecDepth 100000 in
theorem pushTwo {ops : Array Oper} {rest : List Oper} {o : Oper} {a : Act} {Q : Exit → Act → World → Prop} (hgd : o.guard = none) (s x : Operand)
    (ho : o.op = .call { callee := .builtin .append, args := #[s, x], argTypes := #[23, 23] }) (w : World) (B : Nat) (A : Option Addr) (n c : Nat) (v2 : Value) (zs ys : List Int) (y : Int)
    (hs : a.eval s = .slice A n c) (N : Nat) (hx : a.eval x = .slice (some ⟨N, 0, none⟩) 1 1) (hN : N = w.heap.size) (ht : Hid (Two w B (.slice A n c) v2 zs ys)) (hB : B ≤ w.heap.size) (hlen : n ≤ 1000000)
    (h : ∀ A' c' w', Hid (Two w' B (.slice A' (n + 1) c') v2 (zs ++ [y]) ys) → Hid (Below B w w') → wpList Try.prog ops Q rest (a.put o.dst (.slice A' (n + 1) c')) w') :
    wpList Try.prog ops Q (o :: rest) a (w.alloc (.cells #[.int .i64 y] 2)) := by
  obtain ⟨i0, hi0, hz0, hz1, hz2⟩ := info_parts info64
  obtain ⟨hown, hown2, hdis⟩ := ht.out
  have hn := own64_len hown
  subst hn
  subst hN
  refine wpList_append_own_at _ hgd s x 23 ho B 2 i0 (.int .i64 0) 1 8 Try.underlying23 hi0 hz0 hz1 hz2 rfl (by decide) _ zs.length (zs.map (Value.int .i64)) hs (hown.alloc _) ⟨w.heap.size, 0, none⟩ 1 1 [.int .i64 y] hx rfl ?_ ?_ ?_ ?_ ?_ ?_
  · intro j u hj
    match j, hj with
    | 0, hj => simp at hj; subst hj; simp [Addr.add]
  · intro u hu; simp at hu; subst hu; rfl
  · unfold maxLen; omega
  · omega
  · simp; omega
  · intro v' w1 hown1 hg1 _ hat
    obtain ⟨A', c', rfl⟩ : ∃ A' c', v' = .slice A' (zs.length + 1) c' := own_shape hown1
    refine h A' c' w1 ⟨?_, ?_, ?_⟩ ?_
    · have e : (zs ++ [y]).length = zs.length + 1 := by simp
      unfold Own64
      rw [e]
      simpa using hown1
    · refine (hown2.alloc _).kept hg1 ?_
      cases hv : v2.ownBlock with
      | none => exact .inl rfl
      | some k => exact .inr fun e => hdis k e.symm hv
    · intro b hb hb2
      rcases hat with e | e
      · exact hdis b (e ▸ hb) hb2
      · have h1 := hown2.lt b hb2
        rw [hb] at e
        injection e with e
        simp at e
        omega
    · exact ((Below.refl B w).alloc hB _).grown hg1 (by simp; omega) (fun k hk => (hown.lt k hk).1)
end Go.Proofs.Ytbdmmeoelagdcaa

/- TreeText, the program's and the model's: the text of a tree, or a code. -/
namespace Go.Proofs.Ytbdmmeoelagdcaa
open Go.RowKit

def F_TreeText (xs : List Int) : ByteArray × Int := if M.isTree xs then (M.textL 24 xs, 0) else (⟨#[]⟩, 1)
theorem own_cap {w : World} {B n c : Nat} {A : Option Addr} {zs : List Int} (h : Own64 w B (.slice A n c) zs) : n ≤ c := by
  rcases h.2 with ⟨e, _⟩ | ⟨g, cap, cur, hv, _, _, h4, _⟩
  · injection e with e1 e2 e3; omega
  · injection hv with e1 e2 e3; omega

/-- what the model's text must be for trees of at most f nodes -/
def TextOf (f : Nat) : Prop := ∀ (A : Option Addr) (xs : List Int) (c : Nat) (w : World), Hid (M.isTree xs = true) → xs.length ≤ f → xs.length ≤ c → Hid (Ints w w.heap.size A xs) →
  Calls Try.prog 71 #[.agg #[.slice A xs.length c]] w fun e w' => e = .returned (.string (M.textL f xs)) ∧ Hid (Below w.heap.size w w')

set_option maxRecDepth 100000 in
set_option maxHeartbeats 4000000 in
theorem l01Text_step (f : Nat) (ih : Hid (TextOf f)) : TextOf (f + 1) := by
  intro A xs c w ht hf hcl h
  have hx := (M.tree_len ht.out).2
  obtain ⟨d, hd0, hd24⟩ := M.tree_degN ht.out (v := 0) (by have := (M.tree_len ht.out).1; omega)
  have hd := Lib.hid hd0
  obtain ⟨Wb, hWb⟩ : ∃ Wb, w.alloc (.cells #[.slice A xs.length c] 29) = Wb := ⟨_, rfl⟩
  have hWs : Wb.heap.size = w.heap.size + 1 := by rw [← hWb]; simp
  have Hct : Hid (Wb.cell? ⟨w.heap.size, 0, none⟩ = some (.slice A xs.length c)) := by rw [← hWb]; simp [Hid]
  have hIb : Hid (Ints Wb Wb.heap.size A xs) := by rw [← hWb]; exact h.out.al _
  have hBb : Hid (Below w.heap.size w Wb) := by rw [← hWb]; exact bal (b0 w) _
  have hch := Lib.hid (l01Children A xs c 0 d Wb hx ht hd hIb.out)
  have hct := Hct.out
  clear hd0
  go_enter Try.func71, Try.ntmps71
  go_wp2_with fail
  refine hch.out.mono ?_
  rintro e w2 ⟨A3, c3, rfl, hok, hb2⟩
  have Hok := Lib.hid hok
  have hbW2 := Lib.hid hb2
  clear hch hct hWb h hok hb2
  go_wp2
  go_loopw [3, 5] (fun q i wr => ∃ (k : Nat), k ≤ d ∧ i = .int .i64 (k : Int) ∧ q = .string (M.textK f xs k) ∧ Hid (Own64 wr Wb.heap.size (.slice A3 d c3) (M.childs xs 0 d)) ∧ Hid (Below Wb.heap.size Wb wr)) (fun _ i _ => d - (intOf i).toNat)
  case atStart => exact ⟨0, Nat.zero_le _, rfl, rfl, Hok, hbW2⟩
  case round =>
    obtain ⟨k, hk, rfl, rfl, hrow, hbr⟩ := hrel
    have hzr := hbr.out.size
    clear Hok hbW2
    by_cases hlt : k < d
    · have hkd : (k : Int) < (d : Int) := by omega
      have hki0 : (0 : Int) ≤ (k : Int) := by omega
      obtain ⟨g3, rfl⟩ : ∃ g3, A3 = some ⟨g3, 0, none⟩ := by
        rcases hrow.out.2 with ⟨_, h0⟩ | ⟨g, cap, cur, hv, _⟩
        · rw [M.childs_length] at h0; omega
        · injection hv with e1; exact ⟨g, e1⟩
      have hkl := M.kid_lt ht.out hd.out (i := k) (by omega)
      have hks := M.sub_short ht.out hd.out hlt
      have hpk := Lib.hid (M.textK_succ f xs k)
      have hpz := M.textK_size ht.out hf hd.out k (by omega)
      have hTz := M.textL_size f _ (M.sub_tree ht.out hkl) (by omega)
      have hat := Lib.hid (M.childs_at xs 0 hlt)
      generalize M.kidAt xs 0 k = C at *
      obtain ⟨P, hP⟩ : ∃ P, M.textK f xs k = P := ⟨_, rfl⟩
      obtain ⟨T, hT⟩ : ∃ T, Hid (M.textL f (M.sub xs C) = T) := ⟨_, rfl⟩
      obtain ⟨S, hS⟩ : ∃ S, Hid ((M.sub xs C).length = S) := ⟨_, rfl⟩
      rw [hP] at hpz hpk ⊢
      rw [hT.out] at hpk hTz
      rw [hS.out] at hTz hks
      have hsz : ¬ 9223372036854775807 < P.size + T.size := by omega
      have hsub : Hid (C + M.span 1 (xs.drop C) = C + S) := by show _ = _; rw [← hS.out, M.sub_length]
      obtain ⟨g, hfz, _, hgl⟩ := own64_cell hrow.out (M.childs_length xs 0 d) hat.out
      have hct := cell_be Hct.out hbr.out
      have hK0 : Hid (Below wr.heap.size wr wr.drew) := (Below.refl _ _).drew
      have g0 : wr.drew.cell? ⟨g3, k, none⟩ = some (.int .i64 (C : Int)) := g
      have hct0 : wr.drew.cell? ⟨w.heap.size, 0, none⟩ = some (.slice A xs.length c) := hct
      have HSub : Hid (∀ W', Hid (Below wr.heap.size wr W') → Calls Try.prog 72 #[.agg #[.slice A xs.length c], .int .i64 (C : Int)] W' fun e w' => ∃ A' c', e = .returned (.agg #[.slice A' S c']) ∧ Hid (Own64 w' wr.heap.size (.slice A' S c') (M.sub xs C)) ∧ Hid (Below wr.heap.size wr w')) := fun W' hW' => by
        have := l01Subtree A xs c C (C + S) W' hx hcl ht hkl hsub ((hIb.out.be hbr.out).be hW'.out)
        rw [Nat.add_sub_cancel_left] at this
        exact this.mono fun e w' ⟨A', c', he, ho, hb⟩ => ⟨A', c', he, own_mono ho hW'.out.size, btr hW'.out hb⟩
      have HTx : Hid (∀ (A' : Option Addr) (c' : Nat) W', Hid (Below wr.heap.size wr W') → Hid (Own64 W' wr.heap.size (.slice A' S c') (M.sub xs C)) → Calls Try.prog 71 #[.agg #[.slice A' S c']] W' fun e w' => e = .returned (.string T) ∧ Hid (Below wr.heap.size wr w')) := fun A' c' W' hW' ho => by
        have := ih.out A' (M.sub xs C) c' W' (Lib.hid (M.sub_tree ht.out hkl)) (by rw [hS.out]; omega) (by rw [hS.out]; exact own_cap ho.out) (ints_of_own64 ho.out)
        rw [hS.out, hT.out] at this
        exact this.mono fun e w' ⟨he, hb⟩ => ⟨he, btr hW'.out hb.out⟩
      have HC2 : Hid (∀ W', Hid (Below wr.heap.size wr W') → W'.cell? ⟨w.heap.size, 0, none⟩ = some (.slice A xs.length c) ∧ W'.cell? ⟨g3, k, none⟩ = some (.int .i64 (C : Int))) := fun W' hW' => ⟨cell_be hct hW'.out, (hW'.out.cell (p := ⟨g3, k, none⟩) hgl).trans g⟩
      clear hP hT hS hsub hfz hks hTz hpz hkl
      go_wp2
      go_region_held3 (fun w' => w'.cell? ⟨w.heap.size, 0, none⟩ = some (.slice A xs.length c) ∧ w'.cell? ⟨g3, k, none⟩ = some (.int .i64 (C : Int))) (first | exact ⟨hct0, g0⟩ | exact HC2.out _ (by assumption)) (first | (go_at_call 72; refine (HSub.out _ hK0).mono ?_; rintro e w7 ⟨A7, c7, rfl, ho7, hb7⟩) | (go_at_call 71; refine (HTx.out _ _ _ hb7 ho7).mono ?_; rintro e w8 ⟨rfl, hb8⟩))
      have hrow8 : Hid (Own64 w8 Wb.heap.size (.slice (some ⟨g3, 0, none⟩) d c3) (M.childs xs 0 d)) := own_be hrow.out hb8.out
      have hb9 : Hid (Below Wb.heap.size Wb w8) := btr hbr.out hb8.out
      clear HSub HTx HC2 g0 hct0 g hct hK0 hb7 ho7 hrow hbr
      go_wp2
      go_roundw
      case rel => exact ⟨k + 1, by omega, by go_num, by rw [hpk.out], hrow8, hb9⟩
      case measure => simp [intOf]; omega
    · obtain rfl : k = d := by omega
      have hpo : Hid (M.textL (f + 1) xs = M.textK f xs k ++ ⟨#[41]⟩) := M.textL_at hd.out
      have hfin := Lib.hid (btr hBb.out hbr.out)
      have hge : ¬ (k : Int) < (k : Int) := by omega
      have hsz1 : ¬ 9223372036854775807 < (M.textK f xs k).size + 1 := by have := M.textK_size ht.out hf hd.out k (by omega); have := M.kids_all ht.out hd.out; omega
      generalize M.textK f xs k = P at *
      go_wp2
      go_ret
      exact ⟨by rw [hpo.out]; rfl, hfin⟩

theorem l01Text : ∀ f, TextOf f := by
  intro f
  induction f with
  | zero => intro A xs c w ht hf; have := (M.tree_len ht.out).1; omega
  | succ f ih => exact l01Text_step f (Lib.hid ih)

end Go.Proofs.Ytbdmmeoelagdcaa

/- MatchesAt, the program's and the model's. -/
namespace Go.Proofs.Ytbdmmeoelagdcaa
open Go.RowKit

def F_MatchesAt (xs : List Int) (v : Int) (p : ByteArray) : Bool × Int := if codeP xs (M.isPat p.data.toList) [v] = 0 then ((atNode p.data.toList xs v.toNat).isSome, 0) else (false, codeP xs (M.isPat p.data.toList) [v])
theorem F_MatchesAt_yes {xs : List Int} {v : Int} {p : ByteArray} (h : codeP xs (M.isPat p.data.toList) [v] = 0) : F_MatchesAt xs v p = ((atNode p.data.toList xs v.toNat).isSome, 0) := if_pos h
theorem F_MatchesAt_no {xs : List Int} {v : Int} {p : ByteArray} (h : codeP xs (M.isPat p.data.toList) [v] ≠ 0) : F_MatchesAt xs v p = (false, codeP xs (M.isPat p.data.toList) [v]) := if_neg h
/-- a tree, a number and a text to a bool and a code -/
def GivesTNS (f : Nat) (F : List Int → Int → ByteArray → Bool × Int) : Prop :=
  ∀ (A : Option Addr) (xs : List Int) (c : Nat) (v : Int) (p : ByteArray) (w : World), xs.length ≤ 1048576 → xs.length ≤ c ∧ c ≤ 1000000000000 → p.size ≤ 1048576 → Ints w w.heap.size A xs →
    Calls Try.prog f #[.agg #[.slice A xs.length c], .int .i64 v, .string p] w fun e w' => e = .returned (.tuple #[.bool (F xs v p).1, .int .i64 (F xs v p).2]) ∧ Below w.heap.size w w'
theorem pat_60 {p : ByteArray} (h : M.isPat p.data.toList = true) : p.size ≤ 60 := by rw [Lib.size_eq]; exact (M.isPat_iff.1 h).1

set_option maxRecDepth 100000 in
set_option maxHeartbeats 2000000 in
theorem impl_MatchesAt : GivesTNS 23 F_MatchesAt := by
  intro A xs c v p w hx hcc hp h
  have hC := Lib.hid (codeOfMatch A (some ⟨w.heap.size + 1, 0, none⟩) xs [v] c 1 p ((w.alloc (.cells #[.slice A xs.length c] 29)).alloc (.cells #[.int .i64 v] 2)) (by omega) (by simp) hp ((h.al _).al _) (by have := ints_new (w.alloc (.cells #[.slice A xs.length c] 29)) #[.int .i64 v] [v] rfl; simpa using this))
  simp only [List.length_cons, List.length_nil, Nat.zero_add] at hC
  obtain ⟨r, hr⟩ : ∃ r, Hid (codeP xs (M.isPat p.data.toList) [v] = r) := ⟨_, rfl⟩
  rw [hr.out] at hC
  by_cases h0 : r = 0
  · subst h0
    obtain ⟨ht, hpt, hcd⟩ := codeP_zero hr.out
    have hn := M.code_node hcd
    have hp6 := pat_60 hpt
    rw [F_MatchesAt_yes hr.out]
    obtain ⟨n, rfl⟩ := Int.eq_ofNat_of_zero_le hn.1
    have hnl : n < xs.length := by simpa using hn.2.1
    have hM : Hid (∀ W, Below w.heap.size w W → Calls Try.prog 74 #[.slice A xs.length c, .int .i64 (n : Int), .string p] W fun e w' => e = .returned (.bool (atNode p.data.toList xs n).isSome) ∧ Hid (Below W.heap.size W w')) := fun W hb =>
      matchesAt A xs c n p W (Lib.hid ht) hnl hcc.1 (by omega) hp6 (Lib.hid (h.be hb))
    simp only [Int.toNat_natCast]
    generalize (atNode p.data.toList xs n).isSome = b at *
    clear hr hn hcd ht hpt h
    go_enter Try.func23, Try.ntmps23
    go_wp2_with fail
    refine hC.out.mono ?_
    rintro e w1 ⟨rfl, hb⟩
    have hB := Lib.hid (btr (bal (bal (b0 w) _) _) hb.out)
    have hcell : w1.cell? ⟨w.heap.size, 0, none⟩ = some (.slice A xs.length c) := cell_be (cell_al (by simp) _) hb.out
    clear hb hC
    go_wp2_with fail
    refine (hM.out _ hB.out).mono ?_
    rintro e w2 ⟨rfl, hb2⟩
    have hB2 := btr hB.out hb2.out
    go_wp2
    go_ret2
    exact ⟨rfl, hB2⟩
  · rw [F_MatchesAt_no (by rw [hr.out]; exact h0), hr.out]
    have hq : (r != 0) = true := by simp [h0]
    clear hr h0 h
    go_enter Try.func23, Try.ntmps23
    go_wp2_with fail
    refine hC.out.mono ?_
    rintro e w1 ⟨rfl, hb⟩
    have hB := btr (bal (bal (b0 w) _) _) hb.out
    go_wp2
    go_ret2
    exact ⟨rfl, hB⟩

/-- the text at a node, as the model has it -/
theorem textAtNode (A : Option Addr) (xs : List Int) (c v : Nat) (w : World) (ht : Hid (M.isTree xs = true)) (hv : v < xs.length) (hcl : xs.length ≤ c) (h : Hid (Ints w w.heap.size A xs)) :
    Calls Try.prog 72 #[.agg #[.slice A xs.length c], .int .i64 (v : Int)] w fun e w' => ∃ A' n' c', e = .returned (.agg #[.slice A' n' c']) ∧ Hid (Below w.heap.size w w') ∧
      Hid (∀ W, Below w'.heap.size w' W → Calls Try.prog 71 #[.agg #[.slice A' n' c']] W fun e w2 => e = .returned (.string (M.textL 24 (M.sub xs v))) ∧ Hid (Below W.heap.size W w2)) := by
  have hx := (M.tree_len ht.out).2
  obtain ⟨E, hE⟩ : ∃ E, Hid (v + M.span 1 (xs.drop v) = E) := ⟨_, rfl⟩
  have hsl : (M.sub xs v).length = E - v := by rw [M.sub_length]; have := hE.out; omega
  have hst := M.sub_tree ht.out hv
  have hs24 := (M.tree_len hst).2
  refine (l01Subtree A xs c v E w hx hcl ht hv hE h.out).mono ?_
  rintro e w1 ⟨A', c', rfl, ho, hb⟩
  refine ⟨A', E - v, c', rfl, hb, fun W hbW => ?_⟩
  have hcap := own_cap ho
  have := l01Text 24 A' (M.sub xs v) c' W (Lib.hid hst) hs24 (by omega) (Lib.hid ((ints_of_own64 ho).be hbW))
  rwa [hsl] at this
theorem match_at (xs : List Int) (v : Nat) (p : ByteArray) (W : World) (ht : M.isTree xs = true) (hv : v < xs.length) (hpt : M.isPat p.data.toList = true) :
    Calls Try.prog 70 #[.string p, .string (M.textL 24 (M.sub xs v))] W (MtQ (atNode p.data.toList xs v) W) := by
  have hst := M.sub_tree ht hv
  have hs24 := (M.tree_len hst).2
  have hp6 := pat_60 hpt
  exact l04Match p _ W (by omega) (by rw [M.textL_size 24 _ hst hs24]; omega) (Lib.hid (.inl ⟨(M.isPat_iff.1 hpt).2.1, M.text_piece hst hs24⟩))

set_option maxRecDepth 100000 in
set_option maxHeartbeats 2000000 in
theorem spec_MatchesAt : GivesTNS 21 F_MatchesAt := by
  intro A xs c v p w hx hcc hp h
  have hC := Lib.hid (l04Code A (some ⟨w.heap.size + 1, 0, none⟩) xs [v] c 1 p ((w.alloc (.cells #[.slice A xs.length c] 29)).alloc (.cells #[.int .i64 v] 2)) (by omega) (by simp) hp ((h.al _).al _) (by have := ints_new (w.alloc (.cells #[.slice A xs.length c] 29)) #[.int .i64 v] [v] rfl; simpa using this))
  simp only [List.length_cons, List.length_nil, Nat.zero_add] at hC
  obtain ⟨r, hr⟩ : ∃ r, Hid (codeP xs (M.isPat p.data.toList) [v] = r) := ⟨_, rfl⟩
  rw [hr.out] at hC
  by_cases h0 : r = 0
  · subst h0
    obtain ⟨ht, hpt, hcd⟩ := codeP_zero hr.out
    have hn := M.code_node hcd
    rw [F_MatchesAt_yes hr.out]
    obtain ⟨n, rfl⟩ := Int.eq_ofNat_of_zero_le hn.1
    have hnl : n < xs.length := by simpa using hn.2.1
    have hT := fun W (hb : Below w.heap.size w W) => Lib.hid (textAtNode A xs c n W (Lib.hid ht) hnl hcc.1 (Lib.hid (h.be hb)))
    have hM : Hid (∀ W, Calls Try.prog 70 #[.string p, .string (M.textL 24 (M.sub xs n))] W fun e w' => ∃ (A : Option Addr) (n' c : Nat), e = .returned (.tuple #[.slice A n' c, .bool (atNode p.data.toList xs n).isSome]) ∧ Hid (Below W.heap.size W w')) := fun W =>
      (match_at xs n p W ht hnl hpt).mono fun e w' ⟨A, n, c, h1, h2, _⟩ => ⟨A, n, c, h1, h2⟩
    simp only [Int.toNat_natCast]
    generalize (atNode p.data.toList xs n).isSome = b at *
    generalize M.textL 24 (M.sub xs n) = T at *
    clear hr hn hcd ht hpt h
    go_enter Try.func21, Try.ntmps21
    go_wp2_with fail
    refine hC.out.mono ?_
    rintro e w1 ⟨rfl, hb⟩
    have hB := Lib.hid (btr (bal (bal (b0 w) _) _) hb.out)
    have hcell : w1.cell? ⟨w.heap.size, 0, none⟩ = some (.slice A xs.length c) := cell_be (cell_al (by simp) _) hb.out
    clear hb hC
    go_wp2_with fail
    refine (hT _ hB.out).out.mono ?_
    rintro e w2 ⟨A2, n2, c2, rfl, hb2, hT2⟩
    go_wp2_with fail
    refine (hT2.out _ (b0 _)).mono ?_
    rintro e w3 ⟨rfl, hb3⟩
    go_wp2_with fail
    refine (hM.out _).mono ?_
    rintro e w4 ⟨A4, n4, c4, rfl, hb4⟩
    have hB2 := btr hB.out (btr hb2.out (btr hb3.out hb4.out))
    go_wp2
    go_ret2
    exact ⟨rfl, hB2⟩
  · rw [F_MatchesAt_no (by rw [hr.out]; exact h0), hr.out]
    have hq : (r != 0) = true := by simp [h0]
    clear hr h0 h
    go_enter Try.func21, Try.ntmps21
    go_wp2_with fail
    refine hC.out.mono ?_
    rintro e w1 ⟨rfl, hb⟩
    have hB := btr (bal (bal (b0 w) _) _) hb.out
    go_wp2
    go_ret2
    exact ⟨rfl, hB⟩
end Go.Proofs.Ytbdmmeoelagdcaa

/- Patterns filled with texts: l04Letters, filledText, l04Fill. -/
namespace Go.Proofs.Ytbdmmeoelagdcaa
open Go.RowKit

set_option maxRecDepth 100000 in
set_option maxHeartbeats 2000000 in
theorem l04Letters (s : ByteArray) (w : World) (hs : s.size ≤ 1000000) (hok : Hid (∀ c ∈ s.data.toList, M.okP c)) :
    Calls Try.prog 83 #[.string s] w fun e w' => e = .returned (.int .i64 (M.numL s.data.toList : Int)) ∧ Hid (Below w.heap.size w w') := by
  have hL : Hid (s.data.toList.length = s.size) := (Lib.size_eq s).symm
  have hat : Hid (∀ k (h : k < s.size), s.data.toList[k]? = some s[k]) := fun k h => by
    rw [← List.head?_drop, byte_here s h]; rfl
  have hst : Hid (M.numL (s.data.toList.take 0) = 0) := rfl
  have hb0 := Lib.hid (b0 w)
  generalize s.data.toList = L at *
  go_enter Try.func83, Try.ntmps83
  go_wp2
  go_loopw [3, 4] (fun qc qi wr => ∃ (k n : Nat), k ≤ s.size ∧ n ≤ k ∧ qi = .int .i64 (k : Int) ∧ qc = .int .i64 (n : Int) ∧ Hid (Below w.heap.size w wr) ∧ Hid (M.numL (L.take k) = n)) (fun _ qi _ => s.size - (intOf qi).toNat)
  case atStart => exact ⟨0, 0, by omega, by omega, rfl, rfl, hb0, hst⟩
  case round =>
    obtain ⟨k, n, hk, hn, rfl, rfl, hB, hN⟩ := hrel
    clear hb0
    by_cases hlt : k < s.size
    · have hki : (k : Int) < (s.size : Int) := by omega
      have hx := M.numL_take (hat.out k hlt)
      rw [hN.out] at hx
      have hkind := hok.out _ (List.mem_of_getElem? (hat.out k hlt))
      cases hc : M.isL s[k]
      · rw [hc] at hx
        have hx2 : Hid (M.numL (L.take (k + 1)) = n) := hx
        clear hat hx hN hst hok
        rcases hkind with h | h | h
        · rw [hc] at h; cases h
        · have e40 : ((s[k].toNat : Int) != 40) = false := by rw [h]; rfl
          clear hc h
          go_wp2
          go_roundw
          case rel => exact ⟨k + 1, n, by omega, by omega, by go_num, rfl, hB, hx2⟩
          case measure => simp [intOf]; omega
        · have e40 : ((s[k].toNat : Int) != 40) = true := by rw [h]; rfl
          have e41 : ((s[k].toNat : Int) != 41) = false := by rw [h]; rfl
          clear hc h
          go_wp2
          go_roundw
          case rel => exact ⟨k + 1, n, by omega, by omega, by go_num, rfl, hB, hx2⟩
          case measure => simp [intOf]; omega
      · rw [hc] at hx
        have hx2 : Hid (M.numL (L.take (k + 1)) = n + 1) := hx
        have e40 : ((s[k].toNat : Int) != 40) = true := ne_byte (M.ne_open hc)
        have e41 : ((s[k].toNat : Int) != 41) = true := ne_byte (M.ne_shut hc)
        clear hat hx hN hc hst hok hkind
        go_wp2
        go_roundw
        case rel => exact ⟨k + 1, n + 1, by omega, by omega, by go_num, by go_num, hB, hx2⟩
        case measure => simp [intOf]; omega
    · obtain rfl : k = s.size := by omega
      have hx : M.numL L = n := by rw [← hN.out, List.take_of_length_le (by have := hL.out; omega)]
      clear hat hok
      go_wp2
      go_ret
      exact ⟨by rw [hx]; rfl, hB⟩

/-- the trees of an argument, with their capacities -/
def TreesC (w : World) (A : Option Addr) (zss : List (List Int)) : Prop :=
  0 < zss.length → ∃ b, A = some ⟨b, 0, none⟩ ∧ b < w.heap.size ∧ ∀ (k : Nat) (zs : List Int), zss[k]? = some zs → ∃ A' c', zs.length ≤ c' ∧ c' ≤ 9223372036854775807 ∧ w.cell? ⟨b, k, none⟩ = some (.slice A' zs.length c') ∧ Ints w w.heap.size A' zs
theorem TreesC.trees {w : World} {A : Option Addr} {zss : List (List Int)} (h : TreesC w A zss) : Trees w A zss := fun hp => by
  obtain ⟨b, h1, h2, h3⟩ := h hp
  refine ⟨b, h1, h2, fun k zs hk => ?_⟩
  obtain ⟨A', c', _, _, h4, h5⟩ := h3 k zs hk
  exact ⟨A', c', h4, h5⟩
theorem TreesC.be {w w' : World} {A : Option Addr} {zss : List (List Int)} (h : TreesC w A zss) (hb : Below w.heap.size w w') : TreesC w' A zss := fun hp => by
  obtain ⟨b, rfl, hlt, hk⟩ := h hp
  refine ⟨b, rfl, Nat.lt_of_lt_of_le hlt hb.size, fun k zs hz => ?_⟩
  obtain ⟨A', c', h3, h4, h1, h2⟩ := hk k zs hz
  exact ⟨A', c', h3, h4, (hb.cell (p := ⟨b, k, none⟩) hlt).trans h1, h2.be hb⟩
theorem Woods.treesC {w : World} {B n c : Nat} {A : Option Addr} {hs : List Hdr} {zss : List (List Int)} (h : Woods w B (.slice A n c) hs zss) : TreesC w A zss := fun hp => by
  obtain ⟨h1, h2⟩ := h.shape
  obtain ⟨g, rfl⟩ := h2 (by omega)
  refine ⟨g, rfl, (World.ownsRow.lt h.row g rfl).2, fun k zs hk => ?_⟩
  obtain ⟨h', hk', ho, hl⟩ := h.at_ hk
  have hc := h.cell hk'
  obtain ⟨g', m, c'⟩ := h'
  simp only at hl
  subst hl
  have := own_caps ho
  exact ⟨_, _, this.1, this.2, hc, ints_of_own64 ho⟩

set_option maxRecDepth 100000 in
set_option maxHeartbeats 4000000 in
theorem filledText (p : ByteArray) (A : Option Addr) (zss : List (List Int)) (n c : Nat) (w : World) (hp : p.size ≤ 60) (hn : Hid (zss.length = n)) (hcn : n ≤ c) (hcu : c ≤ 9223372036854775807) (hnum : Hid (M.nL p.data.toList = n)) (ht : Hid (∀ zs ∈ zss, M.isTree zs = true)) (h : Hid (TreesC w A zss)) :
    Calls Try.prog 89 #[.string p, .slice A n c] w fun e w' => e = .returned (.string (M.bs (M.fillT p.data.toList (zss.map txt)))) ∧ Hid (Below w.heap.size w w') := by
  have hL : Hid (p.data.toList.length = p.size) := (Lib.size_eq p).symm
  have hby : Hid (∀ k (h : k < p.size), p.data.toList.drop k = p[k] :: p.data.toList.drop (k + 1)) := fun _ h => byte_here p h
  have hcut : Hid (∀ (k : Nat) (h : k < p.size) (W : World), (Instr.slice 9 (.string p) (some (.int .i64 (k : Int))) (some (.int .i64 ((k : Int) + 1))) none).run Try.prog W = .ok (.string (M.bs [p[k]])) W) := fun k h W => by
    have := run_slice_string (P := Try.prog) W 9 p .i64 .i64 (k : Int) ((k : Int) + 1) Try.underlying9 (by omega) (by omega) (by omega)
    rw [this, show ((k : Int)).toNat = k by omega, show ((k : Int) + 1).toNat = k + 1 by omega, cut_one p h]
  have hIs : Hid (∀ c W, Calls Try.prog 98 #[.int .u8 ((c : UInt8).toNat : Int)] W fun e w' => e = .returned (.bool (M.isL c)) ∧ w' = W) := isLetter
  obtain ⟨R, hR⟩ : ∃ R, M.fillT p.data.toList (zss.map txt) = R := ⟨_, rfl⟩
  rw [hR]
  have hst : Hid ((⟨#[]⟩ : ByteArray).data.toList ++ M.fillT (p.data.toList.drop 0) ((zss.drop 0).map txt) = R) := by simpa [Hid] using hR
  have hnum0 : Hid (M.nL (p.data.toList.drop 0) = n) := hnum
  have hA0 : Hid (0 < n → ∃ b, A = some ⟨b, 0, none⟩ ∧ A = some (⟨b, 0, none⟩ : Addr)) := fun h0 => by
    obtain ⟨b, hb, _⟩ := h.out (by rw [hn.out]; exact h0)
    exact ⟨b, hb, hb⟩
  have hb0 := Lib.hid (b0 w)
  clear hR hnum
  generalize p.data.toList = P at *
  go_enter Try.func89, Try.ntmps89
  go_wp2
  go_loopw [1, 5, 9] (fun ql qu qi wr => ∃ (k j m cc : Nat) (A' : Option Addr) (u : ByteArray), k ≤ p.size ∧ qi = .int .i64 (k : Int) ∧ qu = .string u ∧ u.size ≤ 48 * k ∧ ql = .slice A' m cc ∧ j + m = n ∧ m ≤ cc ∧ cc ≤ 9223372036854775807 ∧ Hid (j < n → ∃ b, A = some ⟨b, 0, none⟩ ∧ A' = some ⟨b, j, none⟩) ∧ Hid (M.nL (P.drop k) = m) ∧ Hid (u.data.toList ++ M.fillT (P.drop k) ((zss.drop j).map txt) = R) ∧ Hid (Below w.heap.size w wr)) (fun _ _ qi _ => p.size - (intOf qi).toNat)
  case atStart => exact ⟨0, 0, n, c, A, ⟨#[]⟩, by omega, rfl, rfl, by decide, rfl, by omega, hcn, hcu, hA0, hnum0, hst, hb0⟩
  case round =>
    obtain ⟨k, j, m, cc, A', u, hk, rfl, rfl, hu, rfl, hjm, hmc, hcc, hA, hnm, hT, hB⟩ := hrel
    clear hst hnum0 hA0 hb0
    by_cases hlt : k < p.size
    · have hki : (k : Int) < (p.size : Int) := by omega
      have hd := Lib.hid (hby.out k hlt)
      have hsl := hcut.out k hlt
      have hIK := fun W => Lib.hid (hIs.out p[k] W)
      cases hc : M.isL p[k]
      · rw [hc] at hIK
        have hZs : (M.bs [p[k]]).size = 1 := by rw [M.bs_size]; rfl
        have hsz : ¬ 9223372036854775807 < u.size + (M.bs [p[k]]).size := by omega
        have hT' : Hid ((u ++ M.bs [p[k]]).data.toList ++ M.fillT (P.drop (k + 1)) ((zss.drop j).map txt) = R) := by
          show _ = _
          rw [← hT.out, hd.out, M.fillT_other hc, ByteArray.data_append, Array.toList_append, M.bs_data, List.append_assoc]; rfl
        have hnm' : Hid (M.nL (P.drop (k + 1)) = m) := by
          show _ = _
          rw [← hnm.out, hd.out, M.nL_other hc]
        have hus : Hid ((u ++ M.bs [p[k]]).size ≤ 48 * (k + 1)) := by show _ ≤ _; rw [ByteArray.size_append]; omega
        clear hd hby hcut hIs hc hT hnm hZs
        generalize M.bs [p[k]] = Z at *
        go_wp2_with (go_at_call 98; refine (hIK _).out.mono ?_; rintro e w' ⟨rfl, hw⟩; subst hw)
        go_roundw
        case rel => exact ⟨k + 1, j, m, cc, A', _, by omega, by go_num, rfl, hus.out, rfl, hjm, hmc, hcc, hA, hnm', hT', hB⟩
        case measure => simp [intOf]; omega
      · rw [hc] at hIK
        have hm1 : 0 < m := by have := hnm.out; rw [hd.out, M.nL_let hc] at this; omega
        have hjn : j < n := by omega
        obtain ⟨b, hAb, hAj⟩ := hA.out hjn
        subst hAj
        obtain ⟨b', hAb', hbl, hcells⟩ := h.out (by rw [hn.out]; omega)
        have hbb : b = b' := by rw [hAb] at hAb'; injection hAb' with e; injection e
        subst hbb
        have hjz : j < zss.length := by rw [hn.out]; exact hjn
        have hat : zss[j]? = some zss[j] := List.getElem?_eq_getElem hjz
        have htj := ht.out _ (List.mem_of_getElem? hat)
        have hdr : (zss.drop j).map txt = txt zss[j] :: (zss.drop (j + 1)).map txt := by rw [List.drop_eq_getElem_cons hjz, List.map_cons]
        obtain ⟨A1, c1, h3, h4, h1, h2⟩ := hcells j _ hat
        generalize zss[j] = zs at hat htj hdr h1 h2 h3 h4
        have hcl : wr.cell? ⟨b, j, none⟩ = some (.slice A1 zs.length c1) := (hB.out.cell (p := ⟨b, j, none⟩) hbl).trans h1
        have hz24 := (M.tree_len htj).2
        have hTx : Hid (Calls Try.prog 79 #[.slice A1 zs.length c1] wr fun e w' => e = .returned (.string (M.textL 24 zs)) ∧ Hid (Below wr.heap.size wr w')) := textOf A1 zs c1 wr 24 (Lib.hid htj) hz24 h3 h4 (Lib.hid (h2.be hB.out))
        have hZs : (M.textL 24 zs).size ≤ 48 := by rw [M.textL_size 24 _ htj hz24]; omega
        have hsz : ¬ 9223372036854775807 < u.size + (M.textL 24 zs).size := by omega
        have hT' : Hid ((u ++ M.textL 24 zs).data.toList ++ M.fillT (P.drop (k + 1)) ((zss.drop (j + 1)).map txt) = R) := by
          show _ = _
          rw [← hT.out, hd.out, hdr, M.fillT_let hc, ByteArray.data_append, Array.toList_append, List.append_assoc]; rfl
        have hnm' : Hid (M.nL (P.drop (k + 1)) = m - 1) := by
          show _ = _
          have := hnm.out
          rw [hd.out, M.nL_let hc] at this
          omega
        have hus : Hid ((u ++ M.textL 24 zs).size ≤ 48 * (k + 1)) := by show _ ≤ _; rw [ByteArray.size_append]; omega
        have hm1i : (0 : Int) < (m : Int) := by omega
        have hm2i : (1 : Int) ≤ (m : Int) := by omega
        have hmi : (m : Int) ≤ (cc : Int) := by omega
        clear hd hby hcut hIs hc hT hnm hcells hAb' hat htj hdr h1 h2 hsl hZs hz24
        generalize M.textL 24 zs = Z at *
        by_cases hc1 : cc = 1
        · have hA' : Hid (j + 1 < n → ∃ b', A = some ⟨b', 0, none⟩ ∧ (some ⟨b, j, none⟩ : Option Addr) = some ⟨b', j + 1, none⟩) := fun h => by omega
          subst hc1
          obtain rfl : m = 1 := by omega
          go_wp2_with fail
          refine (hIK _).out.mono ?_
          rintro e w' ⟨rfl, hw⟩
          subst hw
          go_wp2_with fail
          refine hTx.out.mono ?_
          rintro e w2 ⟨rfl, hb2⟩
          have hB2 := Lib.hid (btr hB.out hb2.out)
          clear hb2 hB hTx hcl
          go_wp2
          go_roundw
          case rel => exact ⟨k + 1, j + 1, 0, _, _, _, by omega, by go_num, rfl, hus.out, rfl, by omega, by omega, by omega, hA', hnm', hT', hB2⟩
          case measure => simp [intOf]; omega
        · have hA' : Hid (j + 1 < n → ∃ b', A = some ⟨b', 0, none⟩ ∧ (some ⟨b, j + 1, none⟩ : Option Addr) = some ⟨b', j + 1, none⟩) := fun h => ⟨b, hAb, rfl⟩
          go_wp2_with fail
          refine (hIK _).out.mono ?_
          rintro e w' ⟨rfl, hw⟩
          subst hw
          go_wp2_with fail
          refine hTx.out.mono ?_
          rintro e w2 ⟨rfl, hb2⟩
          have hB2 := Lib.hid (btr hB.out hb2.out)
          clear hb2 hB hTx hcl
          go_wp2
          go_roundw
          case rel => exact ⟨k + 1, j + 1, m - 1, _, _, _, by omega, by go_num, rfl, hus.out, rfl, by omega, by omega, by omega, hA', hnm', hT', hB2⟩
          case measure => simp [intOf]; omega
    · obtain rfl : k = p.size := by omega
      have hR1 : Hid (M.bs R = u) := by
        show _ = _
        rw [← hT.out, List.drop_of_length_le (by have := hL.out; omega)]
        show M.bs (u.data.toList ++ []) = u
        rw [List.append_nil]; rfl
      clear hT hby hcut hIs
      go_wp2
      go_ret
      exact ⟨by rw [hR1.out]; rfl, hB⟩

set_option maxRecDepth 100000 in
set_option maxHeartbeats 4000000 in
theorem l04Fill (p : ByteArray) (A : Option Addr) (ts : List (List UInt8)) (n c : Nat) (w : World) (hp : p.size ≤ 60) (hok : Hid (∀ c ∈ p.data.toList, M.okP c)) (hn : Hid (ts.length = n)) (hnum : Hid (M.nL p.data.toList = n)) (h48 : Hid (∀ Y ∈ ts, Y.length ≤ 48)) (h : Hid (OwnS w 0 (.slice A n c) (ts.map M.bs))) :
    Calls Try.prog 84 #[.string p, .slice A n c] w fun e w' => e = .returned (.string (M.bs (M.fillT p.data.toList ts))) ∧ Hid (Below w.heap.size w w') := by
  have hL : Hid (p.data.toList.length = p.size) := (Lib.size_eq p).symm
  have hby : Hid (∀ k (h : k < p.size), p.data.toList.drop k = p[k] :: p.data.toList.drop (k + 1)) := fun _ h => byte_here p h
  have hat : Hid (∀ k (h : k < p.size), p.data.toList[k]? = some p[k]) := fun k h => by
    rw [← List.head?_drop, byte_here p h]; rfl
  have hcut : Hid (∀ (k : Nat) (h : k < p.size) (W : World), (Instr.slice 9 (.string p) (some (.int .i64 (k : Int))) (some (.int .i64 ((k : Int) + 1))) none).run Try.prog W = .ok (.string (M.bs [p[k]])) W) := fun k h W => by
    have := run_slice_string (P := Try.prog) W 9 p .i64 .i64 (k : Int) ((k : Int) + 1) Try.underlying9 (by omega) (by omega) (by omega)
    rw [this, show ((k : Int)).toNat = k by omega, show ((k : Int) + 1).toNat = k + 1 by omega, cut_one p h]
  obtain ⟨R, hR⟩ : ∃ R, M.fillT p.data.toList ts = R := ⟨_, rfl⟩
  rw [hR]
  have hst : Hid ((⟨#[]⟩ : ByteArray).data.toList ++ M.fillT (p.data.toList.drop 0) (ts.drop 0) = R) := by simpa [Hid] using hR
  have hnum0 : Hid (M.nL (p.data.toList.drop 0) = n - 0) := hnum
  have hb0 := Lib.hid (b0 w)
  have hn60 : n ≤ 60 := by have h1 := hnum.out; have h2 := M.nL_le p.data.toList; have h3 := hL.out; omega
  clear hR hnum
  generalize p.data.toList = P at *
  go_enter Try.func84, Try.ntmps84
  go_wp2
  go_loopw [5, 6, 7] (fun qu qa qi wr => ∃ (k j : Nat) (u : ByteArray), k ≤ p.size ∧ qi = .int .i64 (k : Int) ∧ qu = .string u ∧ u.size ≤ 48 * k ∧ qa = .int .i64 (j : Int) ∧ j ≤ n ∧ Hid (M.nL (P.drop k) = n - j) ∧ Hid (u.data.toList ++ M.fillT (P.drop k) (ts.drop j) = R) ∧ Hid (Below w.heap.size w wr)) (fun _ _ qi _ => p.size - (intOf qi).toNat)
  case atStart => exact ⟨0, 0, ⟨#[]⟩, by omega, rfl, rfl, by decide, rfl, by omega, hnum0, hst, hb0⟩
  case round =>
    obtain ⟨k, j, u, hk, rfl, rfl, hu, rfl, hjn, hnm, hT, hB⟩ := hrel
    clear hst hnum0 hb0
    by_cases hlt : k < p.size
    · have hki : (k : Int) < (p.size : Int) := by omega
      have hd := Lib.hid (hby.out k hlt)
      have hsl := hcut.out k hlt
      have hkind := hok.out _ (List.mem_of_getElem? (hat.out k hlt))
      cases hc : M.isL p[k]
      · have hZs : (M.bs [p[k]]).size = 1 := by rw [M.bs_size]; rfl
        have hsz : ¬ 9223372036854775807 < u.size + (M.bs [p[k]]).size := by omega
        have hT' : Hid ((u ++ M.bs [p[k]]).data.toList ++ M.fillT (P.drop (k + 1)) (ts.drop j) = R) := by
          show _ = _
          rw [← hT.out, hd.out, M.fillT_other hc, ByteArray.data_append, Array.toList_append, M.bs_data, List.append_assoc]; rfl
        have hnm' : Hid (M.nL (P.drop (k + 1)) = n - j) := by
          show _ = _
          rw [← hnm.out, hd.out, M.nL_other hc]
        have hus : Hid ((u ++ M.bs [p[k]]).size ≤ 48 * (k + 1)) := by show _ ≤ _; rw [ByteArray.size_append]; omega
        clear hd hby hcut hT hnm hZs hat hok
        generalize M.bs [p[k]] = Z at *
        rcases hkind with h | h | h
        · rw [hc] at h; cases h
        · have e40 : ((p[k].toNat : Int) == 40) = true := by rw [h]; rfl
          clear hc h
          go_wp2
          go_roundw
          case rel => exact ⟨k + 1, j, _, by omega, by go_num, rfl, hus.out, rfl, hjn, hnm', hT', hB⟩
          case measure => simp [intOf]; omega
        · have e40 : ((p[k].toNat : Int) == 40) = false := by rw [h]; rfl
          have e41 : ((p[k].toNat : Int) == 41) = true := by rw [h]; rfl
          clear hc h
          go_wp2
          go_roundw
          case rel => exact ⟨k + 1, j, _, by omega, by go_num, rfl, hus.out, rfl, hjn, hnm', hT', hB⟩
          case measure => simp [intOf]; omega
      · have e40 : ((p[k].toNat : Int) == 40) = false := beq_eq_false_iff_ne.2 (by simpa using ne_byte (M.ne_open hc))
        have e41 : ((p[k].toNat : Int) == 41) = false := beq_eq_false_iff_ne.2 (by simpa using ne_byte (M.ne_shut hc))
        have hm1 : 0 < n - j := by have := hnm.out; rw [hd.out, M.nL_let hc] at this; omega
        have hjz : j < ts.length := by rw [hn.out]; omega
        have hatj : ts[j]? = some ts[j] := List.getElem?_eq_getElem hjz
        have hYl := h48.out _ (List.mem_of_getElem? hatj)
        have hdr : ts.drop j = ts[j] :: ts.drop (j + 1) := List.drop_eq_getElem_cons hjz
        generalize ts[j] = Y at hatj hYl hdr
        obtain ⟨g, rfl, hcl, hgl⟩ := ownS_cell h.out (k := j) (x := M.bs Y) (by rw [List.getElem?_map, hatj]; rfl)
        have hcl' : ∀ m, (wr.drewN m).cell? ⟨g, j, none⟩ = some (.string (M.bs Y)) := fun m => (hB.out.cell (p := ⟨g, j, none⟩) hgl).trans hcl
        have hcl0 : wr.cell? ⟨g, j, none⟩ = some (.string (M.bs Y)) := hcl' 0
        have hji : (j : Int) < (n : Int) := by omega
        have hj0 : (0 : Int) ≤ (j : Int) := by omega
        have hZs : (M.bs Y).size ≤ 48 := by rw [M.bs_size]; exact hYl
        have hsz : ¬ 9223372036854775807 < u.size + (M.bs Y).size := by omega
        have hT' : Hid ((u ++ M.bs Y).data.toList ++ M.fillT (P.drop (k + 1)) (ts.drop (j + 1)) = R) := by
          show _ = _
          rw [← hT.out, hd.out, hdr, M.fillT_let hc, ByteArray.data_append, Array.toList_append, M.bs_data, List.append_assoc]
        have hnm' : Hid (M.nL (P.drop (k + 1)) = n - (j + 1)) := by
          show _ = _
          have := hnm.out
          rw [hd.out, M.nL_let hc] at this
          omega
        have hus : Hid ((u ++ M.bs Y).size ≤ 48 * (k + 1)) := by show _ ≤ _; rw [ByteArray.size_append]; omega
        clear hd hby hcut hc hT hnm hatj hdr hsl hZs hat hok hkind hcl h
        generalize M.bs Y = Z at *
        go_wp2
        go_roundw
        case rel => exact ⟨k + 1, j + 1, _, by omega, by go_num, rfl, hus.out, by go_num, by omega, hnm', hT', hB⟩
        case measure => simp [intOf]; omega
    · obtain rfl : k = p.size := by omega
      have hR1 : Hid (M.bs R = u) := by
        show _ = _
        rw [← hT.out, List.drop_of_length_le (by have := hL.out; omega)]
        show M.bs (u.data.toList ++ []) = u
        rw [List.append_nil]; rfl
      clear hT hby hcut hok hat
      go_wp2
      go_ret
      exact ⟨by rw [hR1.out]; rfl, hB⟩
end Go.Proofs.Ytbdmmeoelagdcaa

/- ParseTree, the program's and the model's: the tree with a text, or a code. -/
namespace Go.Proofs.Ytbdmmeoelagdcaa
open Go.RowKit

/-- the bytes of a string, as numbers -/
def bytesOf (s : ByteArray) : List Int := s.data.toList.map fun b => (b.toNat : Int)
theorem bytesOf_length (s : ByteArray) : (bytesOf s).length = s.size := by simp [bytesOf]
theorem bytesOf_at (s : ByteArray) {k : Nat} (h : k < s.size) : (bytesOf s)[k]? = some (s[k].toNat : Int) := by
  have h' : k < s.data.toList.length := by simpa using h
  simp only [bytesOf, List.getElem?_map, List.getElem?_eq_getElem h']
  rfl

/-- what a function of a text that hands back a tree and a code must do -/
def GivesParse (f : Nat) : Prop :=
  ∀ (s : ByteArray) (w : World), s.size ≤ 1048576 →
    Calls Try.prog f #[.string s] w fun e w' => ∃ A' c', e = .returned (.tuple #[.agg #[.slice A' (M.parse (bytesOf s)).1.length c'], .int .i64 (M.parse (bytesOf s)).2]) ∧
      Own64 w' w.heap.size (.slice A' (M.parse (bytesOf s)).1.length c') (M.parse (bytesOf s)).1 ∧ Below w.heap.size w w'

theorem two_nil (w : World) (B : Nat) : Two w B (.slice none 0 0) (.slice none 0 0) [] [] := ⟨own64_nil _ _, own64_nil _ _, fun b h => by simp [Value.ownBlock] at h⟩

theorem parse_nil : M.parse (bytesOf ByteArray.empty) = ([], 6) := by simp [bytesOf, M.parse, M.prun]

set_option maxHeartbeats 8000000 in
set_option maxRecDepth 100000 in
theorem impl_ParseTree : GivesParse 81 := by
  intro s w hs
  have hB0 := Lib.hid (bal (b0 w) (.cells #[.slice none 0 0] 29))
  have hres : Hid ((w.alloc (.cells #[.slice none 0 0] 29)).heap[w.heap.size]? = some (.cells #[.slice none 0 0] 29 (0, 0))) := heap_alloc_new w _
  by_cases h0 : s.size = 0
  · obtain rfl : s = ByteArray.empty := by simpa using h0
    rw [parse_nil]
    clear h0
    go_enter Try.func81, Try.ntmps81
    go_wp2
    refine bodyPost_ret (v := .tuple #[.agg #[.slice none 0 0], .int .i64 6]) (by simp [results, Try.results81, go_sem]) rfl ?_
    exact ⟨none, 0, rfl, own64_nil _ _, hB0.out⟩
  · have hne : s.toList.isEmpty = false := by
      cases h : s.toList.isEmpty
      · rfl
      · refine absurd ?_ h0
        rw [ByteArray.toList_eq] at h
        have h' : s.data.toList = [] := by simpa using h
        have : s.data.toList.length = 0 := by rw [h']; rfl
        simpa using this
    have hbl := Lib.hid (bytesOf_length s)
    have hlong : Hid (48 < s.size → M.parse (bytesOf s) = ([], 6)) := fun e => M.parse_long (by rw [hbl.out]; exact e)
    have hfail : Hid (M.prun [] [] (bytesOf s) = none → M.parse (bytesOf s) = ([], 6)) := fun e => M.parse_fail e
    have hopen : Hid (∀ ds st, M.prun [] [] (bytesOf s) = some (ds, st) → 0 < st.length → M.parse (bytesOf s) = ([], 6)) := fun ds st e h => M.parse_open e h
    have hdone : Hid (∀ ds, s.size ≤ 48 → M.prun [] [] (bytesOf s) = some (ds, []) → ds ≠ [] → M.parse (bytesOf s) = (ds, 0)) := fun ds h e h' => M.parse_done (by rw [hbl.out]; exact h) e h'
    have hat : Hid (∀ k (h : k < s.size), (bytesOf s)[k]? = some ((s[k]'h).toNat : Int)) := fun k h => bytesOf_at s h
    have hprn : Hid (M.prun [] [] ((bytesOf s).drop 0) = M.prun [] [] (bytesOf s)) := by rfl
    generalize bytesOf s = L at *
    generalize hR : M.parse L = R at *
    generalize hP : M.prun [] [] L = P at *
    clear hR hP
    by_cases h48 : 48 < s.size
    · have hR := hlong.out h48
      subst hR
      have h48' : (48 : Int) < (s.size : Int) := by omega
      clear h0 hlong hfail hopen hdone hat hprn hbl
      go_enter Try.func81, Try.ntmps81
      go_wp2
      refine bodyPost_ret (v := .tuple #[.agg #[.slice none 0 0], .int .i64 6]) (by simp [results, Try.results81, go_sem]) rfl ?_
      exact ⟨none, 0, rfl, own64_nil _ _, hB0.out⟩
    · have h48' : ¬ (48 : Int) < (s.size : Int) := by omega
      have h49 : s.size ≤ 48 := by omega
      have hpos : 0 < s.size := by omega
      clear h0 hlong h48
      go_enter Try.func81, Try.ntmps81
      go_wp2
      go_loopw [4, 5, 6, 7, 18] (fun q1 q2 _ _ i wr => ∃ (k : Nat) (A1 : Option Addr) (n1 c1 : Nat) (A2 : Option Addr) (n2 c2 : Nat) (ds st : List Int), k ≤ s.size ∧ i = .int .i64 k ∧ q1 = .slice A1 n1 c1 ∧ q2 = .slice A2 n2 c2 ∧
          Hid (Two wr (w.heap.size + 1) (.slice A1 n1 c1) (.slice A2 n2 c2) ds st) ∧ Hid (M.prun ds st (L.drop k) = P) ∧ Hid (M.pgood k ds st) ∧ Hid (0 < k → ds ≠ []) ∧ Hid (Below (w.heap.size + 1) (w.alloc (.cells #[.slice none 0 0] 29)) wr)) (fun _ _ _ _ i _ => s.size - (intOf i).toNat)
      case atStart => exact ⟨0, none, 0, 0, none, 0, 0, [], [], Nat.zero_le _, rfl, rfl, rfl, two_nil _ _, hprn, M.pgood_nil, fun h => absurd h (by omega), Below.refl _ _⟩
      case round =>
        obtain ⟨k, A1, n1, c1, A2, n2, c2, ds, st, hk, rfl, rfl, rfl, ht, hg, hgood, hnz, hbr⟩ := hrel
        have hsh1 := ht.out.shape
        have hsh2 := ht.out.symm.shape
        have hn1 := hsh1.1
        have hn2 := hsh2.1
        have hp := hgood.out
        have hn1k : n1 ≤ 48 := by have := hp.1; omega
        have hn2k : n2 ≤ 48 := by have := hp.2.1; omega
        have hrr := (hbr.out.block w.heap.size (Nat.lt_succ_self _)).trans hres.out
        have hrc : wr.cell? ⟨w.heap.size, 0, none⟩ = some (.slice none 0 0) := cell_of_one hrr
        have hrf : wr.frozen? ⟨w.heap.size, 0, none⟩ = false := free_of_one hrr
        have hBw : Hid (Below w.heap.size w wr) := hB0.out.trans (hbr.out.mono (Nat.le_succ _))
        have hBsz := hbr.out.size
        simp only [World.size_alloc] at hBsz
        have Hn1 := Lib.hid hn1
        have Hn2 := Lib.hid hn2
        clear hrr hp hn1 hn2
        by_cases hlt : k < s.size
        · have hX := Lib.hid (hat.out k hlt)
          have hx0 : (0 : Int) ≤ (s[k].toNat : Int) := by omega
          by_cases hst : 0 < n2
          · -- a node is open
            obtain ⟨g2, rfl⟩ := hsh2.2 hst
            have hstl : 0 < st.length := by rw [← Hn2.out]; exact hst
            have hl0 : (0 : Int) ≤ (n2 : Int) - 1 := by omega
            have hl1 : ¬ (n2 : Int) - 1 < 0 := by omega
            have hlf : decide ((n2 : Int) - 1 < 0) = false := decide_eq_false hl1
            by_cases h40 : (s[k].toNat : Int) = 40
            · have hq : ((s[k].toNat : Int) == 40) = true := by simp [h40]
              -- the open node and its degree
              have hp : Hid (st[st.length - 1]? = some st[st.length - 1]) := List.getElem?_eq_getElem (by omega)
              obtain ⟨p0, hp0⟩ : ∃ p, st[st.length - 1] = p := ⟨_, rfl⟩
              rw [hp0] at hp
              have hpin := hgood.out.2.2.1 p0 (hp0 ▸ List.getElem_mem _)
              obtain ⟨p, rfl⟩ := Int.eq_ofNat_of_zero_le hpin.1
              have hpd : p < ds.length := by simpa using hpin.2
              have hd : Hid (ds[p]? = some ds[p]) := List.getElem?_eq_getElem hpd
              obtain ⟨d0, hd0⟩ : ∃ d, ds[p] = d := ⟨_, rfl⟩
              rw [hd0] at hd
              have hdr := hgood.out.2.2.2 d0 (hd0 ▸ List.getElem_mem _)
              have hd1 := hdr.1
              have hd2 := hdr.2
              have hpn : p < n1 := by rw [Hn1.out]; exact hpd
              obtain ⟨g1, rfl⟩ := hsh1.2 (by omega)
              have e2 : st.length - 1 = n2 - 1 := by rw [← Hn2.out]
              have gp := (own64_cell ht.out.2.1 Hn2.out.symm (k := n2 - 1) (x := (p : Int)) (by rw [← e2]; exact hp.out)).1
              obtain ⟨gd, gf, _, _⟩ := own64_cell ht.out.1 Hn1.out.symm (k := p) (x := d0) hd.out
              have hstep := Lib.hid (M.prun_step hX.out (by rw [h40]; exact M.pstep_open hp.out (by simpa using hd.out)))
              have hgood2 := Lib.hid (M.pgood_open (p := (p : Int)) hgood.out (by simpa using hd.out))
              simp only [Int.toNat_natCast] at hstep hgood2
              have hpl : p ≤ 48 := by omega
              have hset := Lib.hid (ht.out.set Hn1.out.symm p (d0 + 1))
              have hcast : ((n2 : Int) - 1).toNat = n2 - 1 := by omega
              clear hp0 hpin hd0 hdr e2 h40 hsh1 hsh2
              have hset' := Lib.hid hset.out.symm
              have hBs : w.heap.size + 1 ≤ (wr.setCell ⟨g1, p, none⟩ (.int .i64 (d0 + 1))).heap.size := by simpa using hBsz
              have hn1m : n1 ≤ 1000000 := by omega
              have hn2m : n2 ≤ 1000000 := by omega
              go_wp2_with (first | (at_builtin; refine pushTwo rfl (.tmp 48) (.tmp 51) rfl (wr.setCell ⟨g1, p, none⟩ (.int .i64 (d0 + 1))) (w.heap.size + 1) (some ⟨g2, 0, none⟩) n2 c2 (.slice (some ⟨g1, 0, none⟩) n1 c1) st (ds.set p (d0 + 1)) (n1 : Int) rfl _ rfl (by simp) hset' hBs hn2m ?_; intro A3 c3 w3 ht3 hb3; have ht3' := Lib.hid ht3.out.symm; have hB3 := Nat.le_trans hBs hb3.out.size) | (at_builtin; refine pushTwo rfl (.tmp 53) (.tmp 54) rfl w3 (w.heap.size + 1) (some ⟨g1, 0, none⟩) n1 c1 (.slice A3 (n2 + 1) c3) (ds.set p (d0 + 1)) (st ++ [(n1 : Int)]) 0 rfl _ rfl rfl ht3' hB3 hn1m ?_; intro A4 c4 w4 ht4 hb4))
              go_roundw
              case rel => exact ⟨k + 1, A4, _, c4, A3, _, c3, _, _, by omega, by go_num, rfl, rfl, ht4.out.eq rfl (by rw [Hn1.out]), hstep.out.symm.trans hg.out, hgood2, fun _ => by simp, ((below_setCell hbr.out (by have := ht.out.1.lt g1 rfl; omega) _).trans hb3.out).trans hb4.out⟩
              case measure => simp [intOf]; omega
            · have hq : ((s[k].toNat : Int) == 40) = false := by simp [h40]
              by_cases h41 : (s[k].toNat : Int) = 41
              · have hq2 : ((s[k].toNat : Int) == 41) = true := by simp [h41]
                have hstep := Lib.hid (M.prun_step hX.out (by rw [h41]; exact M.pstep_close (ds := ds) hstl))
                have hgood2 := Lib.hid (M.pgood_close hgood.out)
                have hpop := Lib.hid (ht.out.pop hst)
                have hcast : ((n2 : Int) - 1).toNat = n2 - 1 := by omega
                have hcap0 := ht.out.symm.cap
                have hnz0 := Lib.hid (show ds ≠ [] from fun e => by have := hgood.out.2.1; rw [e] at this; simp only [List.length_nil] at this; omega)
                have hcap : (n2 : Int) - 1 ≤ (c2 : Int) := by omega
                clear h40 h41 hsh1 hsh2
                go_wp2
                go_roundw
                case rel => exact ⟨k + 1, A1, n1, c1, some ⟨g2, 0, none⟩, n2 - 1, c2, _, _, by omega, by go_num, rfl, rfl, hpop, hstep.out.symm.trans hg.out, hgood2, fun _ => hnz0.out, hbr⟩
                case measure => simp [intOf]; omega
              · have hq2 : ((s[k].toNat : Int) == 41) = false := by simp [h41]
                have hR := hfail.out (hg.out.symm.trans (M.prun_fail hX.out (M.pstep_other h40 h41)))
                subst hR
                clear h40 h41 hsh1 hsh2 hg hgood hnz hfail hopen hdone
                go_wp2
                refine bodyPost_ret (v := .tuple #[.agg #[.slice none 0 0], .int .i64 6]) (by simp [results, Try.results81, go_sem, hrc]) rfl ?_
                exact ⟨none, 0, rfl, own64_nil _ _, below_setCell hBw.out (Nat.le_refl _) _⟩
          · -- no node is open
            have hn20 : n2 = 0 := by omega
            subst hn20
            have hst0 : st = [] := List.eq_nil_of_length_eq_zero Hn2.out.symm
            subst hst0
            by_cases hk0 : 0 < k
            · have hki : (0 : Int) < (k : Int) := by omega
              have hR := hfail.out (hg.out.symm.trans (M.prun_fail hX.out (M.pstep_none (.inl (hnz.out hk0)))))
              subst hR
              clear hsh1 hsh2 hg hgood hnz hfail hopen hdone hst hk0
              go_wp2
              refine bodyPost_ret (v := .tuple #[.agg #[.slice none 0 0], .int .i64 6]) (by simp [results, Try.results81, go_sem, hrc]) rfl ?_
              exact ⟨none, 0, rfl, own64_nil _ _, below_setCell hBw.out (Nat.le_refl _) _⟩
            · obtain rfl : k = 0 := by omega
              have hds0 : ds = [] := List.eq_nil_of_length_eq_zero (by have := hgood.out.1; omega)
              subst hds0
              have hn10 : n1 = 0 := Hn1.out
              subst hn10
              by_cases h40 : (s[0].toNat : Int) = 40
              · have hq : ((s[0].toNat : Int) == 40) = true := by simp [h40]
                have hstep := Lib.hid (M.prun_step hX.out (by rw [h40]; exact M.pstep_first))
                have hgood2 := Lib.hid M.pgood_first
                have hset' := Lib.hid ht.out.symm
                have hBs : w.heap.size + 1 ≤ wr.heap.size := hBsz
                clear h40 hsh1 hsh2 hst hk0
                go_wp2_with (first | (at_builtin; refine pushTwo rfl (.tmp 48) (.tmp 51) rfl wr (w.heap.size + 1) A2 0 c2 (.slice A1 0 c1) [] [] 0 rfl _ rfl (by simp) hset' hBs (by omega) ?_; intro A3 c3 w3 ht3 hb3; have ht3' := Lib.hid ht3.out.symm; have hB3 := Nat.le_trans hBs hb3.out.size) | (at_builtin; refine pushTwo rfl (.tmp 53) (.tmp 54) rfl w3 (w.heap.size + 1) A1 0 c1 (.slice A3 (0 + 1) c3) [] [0] 0 rfl _ rfl rfl ht3' hB3 (by omega) ?_; intro A4 c4 w4 ht4 hb4))
                go_roundw
                case rel => exact ⟨1, A4, _, c4, A3, _, c3, _, _, by omega, rfl, rfl, rfl, ht4.out.symm.symm, hstep.out.symm.trans hg.out, hgood2, fun _ => by simp, (hbr.out.trans hb3.out).trans hb4.out⟩
                case measure => simp [intOf]; omega
              · have hq : ((s[0].toNat : Int) == 40) = false := by simp [h40]
                have hR := hfail.out (hg.out.symm.trans (M.prun_fail hX.out (M.pstep_none (.inr h40))))
                subst hR
                clear hsh1 hsh2 hg hgood hnz hfail hopen hdone hst hk0 h40
                go_wp2
                all_goals refine bodyPost_ret (v := .tuple #[.agg #[.slice none 0 0], .int .i64 6]) (by simp [results, Try.results81, go_sem, hrc]) rfl ?_
                all_goals exact ⟨none, 0, rfl, own64_nil _ _, below_setCell hBw.out (Nat.le_refl _) _⟩
        · obtain rfl : k = s.size := by omega
          have hgf : Hid (P = some (ds, st)) := by
            have := hg.out
            rw [List.drop_of_length_le (by rw [hbl.out]; omega)] at this
            exact this.symm
          by_cases hst : 0 < n2
          · have hR := hopen.out ds st hgf.out (by rw [← Hn2.out]; exact hst)
            subst hR
            clear hsh1 hsh2 hg hgood hnz hfail hopen hdone
            go_wp2
            refine bodyPost_ret (v := .tuple #[.agg #[.slice none 0 0], .int .i64 6]) (by simp [results, Try.results81, go_sem, hrc]) rfl ?_
            exact ⟨none, 0, rfl, own64_nil _ _, below_setCell hBw.out (Nat.le_refl _) _⟩
          · have hn20 : n2 = 0 := by omega
            subst hn20
            have hst0 : st = [] := List.eq_nil_of_length_eq_zero Hn2.out.symm
            subst hst0
            have hR := hdone.out ds h49 hgf.out (hnz.out hpos)
            subst hR
            have hnn := Hn1.out
            subst hnn
            clear hsh1 hsh2 hg hgood hnz hfail hopen hdone hst
            go_wp2
            refine bodyPost_ret (v := .tuple #[.agg #[.slice A1 ds.length c1], .int .i64 0]) (by simp [results, Try.results81, go_sem, hrc]) rfl ?_
            exact ⟨A1, c1, rfl, own_mono (own_far ht.out.1 (Nat.lt_succ_self _) _) (Nat.le_succ _), below_setCell hBw.out (Nat.le_refl _) _⟩
end Go.Proofs.Ytbdmmeoelagdcaa

/- ParseTree, the model's. -/
namespace Go.Proofs.Ytbdmmeoelagdcaa
open Go.RowKit

/-- what the model's reader of a text must do -/
def GivesRead (f : Nat) : Prop :=
  ∀ (s : ByteArray) (w : World), s.size ≤ 1048576 →
    Calls Try.prog f #[.string s] w fun e w' => ∃ A' c', e = .returned (.tuple #[.agg #[.slice A' (M.parse (bytesOf s)).1.length c'], .bool ((M.parse (bytesOf s)).2 == 0)]) ∧
      Own64 w' w.heap.size (.slice A' (M.parse (bytesOf s)).1.length c') (M.parse (bytesOf s)).1 ∧ Below w.heap.size w w'

theorem two_empty (w : World) (t : TypeId) : Two (((w.alloc (.cells #[.slice none 0 0] t)).alloc (.cells #[] 2)).alloc (.cells #[] 2)) (w.heap.size + 1)
    (.slice (some ⟨w.heap.size + 1, 0, none⟩) 0 0) (.slice (some ⟨w.heap.size + 2, 0, none⟩) 0 0) [] [] := by
  have h1 := own64_empty (w := w.alloc (.cells #[.slice none 0 0] t)) (B := w.heap.size + 1) (by simp)
  have h2 := own64_empty (w := (w.alloc (.cells #[.slice none 0 0] t)).alloc (.cells #[] 2)) (B := w.heap.size + 1) (by simp)
  simp only [World.size_alloc] at h1 h2
  exact ⟨h1.alloc _, h2, fun b h h' => by simp [Value.ownBlock] at h h'; omega⟩

set_option maxHeartbeats 8000000 in
set_option maxRecDepth 100000 in
theorem spec_Read : GivesRead 77 := by
  intro s w hs
  have hB0 := Lib.hid (bal (b0 w) (.cells #[.slice none 0 0] 29))
  have hres : Hid ((w.alloc (.cells #[.slice none 0 0] 29)).heap[w.heap.size]? = some (.cells #[.slice none 0 0] 29 (0, 0))) := heap_alloc_new w _
  have hbl := Lib.hid (bytesOf_length s)
  have hlong : Hid (48 < s.size → M.parse (bytesOf s) = ([], 6)) := fun e => M.parse_long (by rw [hbl.out]; exact e)
  have hfail : Hid (M.prun [] [] (bytesOf s) = none → M.parse (bytesOf s) = ([], 6)) := fun e => M.parse_fail e
  have hopen : Hid (∀ ds st, M.prun [] [] (bytesOf s) = some (ds, st) → 0 < st.length → M.parse (bytesOf s) = ([], 6)) := fun ds st e h => M.parse_open e h
  have hempty : Hid (M.prun [] [] (bytesOf s) = some ([], []) → M.parse (bytesOf s) = ([], 6)) := fun e => M.parse_empty e
  have hdone : Hid (∀ ds, s.size ≤ 48 → M.prun [] [] (bytesOf s) = some (ds, []) → ds ≠ [] → M.parse (bytesOf s) = (ds, 0)) := fun ds h e h' => M.parse_done (by rw [hbl.out]; exact h) e h'
  have hat : Hid (∀ k (h : k < s.size), (bytesOf s)[k]? = some ((s[k]'h).toNat : Int)) := fun k h => bytesOf_at s h
  have hprn : Hid (M.prun [] [] ((bytesOf s).drop 0) = M.prun [] [] (bytesOf s)) := by rfl
  generalize bytesOf s = L at *
  generalize hR : M.parse L = R at *
  generalize hP : M.prun [] [] L = P at *
  clear hR hP
  by_cases h48 : 48 < s.size
  · have hR := hlong.out h48
    subst hR
    have h48' : (48 : Int) < (s.size : Int) := by omega
    clear hlong hfail hopen hempty hdone hat hprn hbl
    go_enter Try.func77, Try.ntmps77
    go_wp2
    refine bodyPost_ret (v := .tuple #[.agg #[.slice none 0 0], .bool false]) (by simp [results, Try.results77, go_sem]) rfl ?_
    exact ⟨none, 0, rfl, own64_nil _ _, hB0.out⟩
  · have h48' : ¬ (48 : Int) < (s.size : Int) := by omega
    have h49 : s.size ≤ 48 := by omega
    have htwo := Lib.hid (two_empty w 29)
    clear hlong h48
    · go_enter Try.func77, Try.ntmps77
      go_wp2
      go_loopw [4, 5, 6] (fun q1 q2 i wr => ∃ (k : Nat) (A1 : Option Addr) (n1 c1 : Nat) (A2 : Option Addr) (n2 c2 : Nat) (ds st : List Int), k ≤ s.size ∧ i = .int .i64 k ∧ q1 = .slice A1 n1 c1 ∧ q2 = .slice A2 n2 c2 ∧
          Hid (Two wr (w.heap.size + 1) (.slice A1 n1 c1) (.slice A2 n2 c2) ds st) ∧ Hid (M.prun ds st (L.drop k) = P) ∧ Hid (M.pgood k ds st) ∧ Hid (0 < k → ds ≠ []) ∧ Hid (Below (w.heap.size + 1) (w.alloc (.cells #[.slice none 0 0] 29)) wr)) (fun _ _ i _ => s.size - (intOf i).toNat)
      case atStart => exact ⟨0, _, 0, 0, _, 0, 0, [], [], Nat.zero_le _, rfl, rfl, rfl, htwo, hprn, M.pgood_nil, fun h => absurd h (by omega), ((Below.refl _ _).alloc (by simp) _).alloc (by simp) _⟩
      case round =>
        obtain ⟨k, A1, n1, c1, A2, n2, c2, ds, st, hk, rfl, rfl, rfl, ht, hg, hgood, hnz, hbr⟩ := hrel
        have hsh1 := ht.out.shape
        have hsh2 := ht.out.symm.shape
        have hn1 := hsh1.1
        have hn2 := hsh2.1
        have hp := hgood.out
        have hn1k : n1 ≤ 48 := by have := hp.1; omega
        have hn2k : n2 ≤ 48 := by have := hp.2.1; omega
        have hrr := (hbr.out.block w.heap.size (Nat.lt_succ_self _)).trans hres.out
        have hrc : wr.cell? ⟨w.heap.size, 0, none⟩ = some (.slice none 0 0) := cell_of_one hrr
        have hrf : wr.frozen? ⟨w.heap.size, 0, none⟩ = false := free_of_one hrr
        have hBw : Hid (Below w.heap.size w wr) := hB0.out.trans (hbr.out.mono (Nat.le_succ _))
        have hBsz := hbr.out.size
        simp only [World.size_alloc] at hBsz
        have Hn1 := Lib.hid hn1
        have Hn2 := Lib.hid hn2
        clear hrr hp hn1 hn2
        by_cases hlt : k < s.size
        · have hX := Lib.hid (hat.out k hlt)
          have hx0 : (0 : Int) ≤ (s[k].toNat : Int) := by omega
          by_cases hst : 0 < n2
          · -- a node is open
            obtain ⟨g2, rfl⟩ := hsh2.2 hst
            have hstl : 0 < st.length := by rw [← Hn2.out]; exact hst
            have hl0 : (0 : Int) ≤ (n2 : Int) - 1 := by omega
            have hl1 : ¬ (n2 : Int) - 1 < 0 := by omega
            have hlf : decide ((n2 : Int) - 1 < 0) = false := decide_eq_false hl1
            by_cases h40 : (s[k].toNat : Int) = 40
            · have hq : ((s[k].toNat : Int) == 40) = true := by simp [h40]
              -- the open node and its degree
              have hp : Hid (st[st.length - 1]? = some st[st.length - 1]) := List.getElem?_eq_getElem (by omega)
              obtain ⟨p0, hp0⟩ : ∃ p, st[st.length - 1] = p := ⟨_, rfl⟩
              rw [hp0] at hp
              have hpin := hgood.out.2.2.1 p0 (hp0 ▸ List.getElem_mem _)
              obtain ⟨p, rfl⟩ := Int.eq_ofNat_of_zero_le hpin.1
              have hpd : p < ds.length := by simpa using hpin.2
              have hd : Hid (ds[p]? = some ds[p]) := List.getElem?_eq_getElem hpd
              obtain ⟨d0, hd0⟩ : ∃ d, ds[p] = d := ⟨_, rfl⟩
              rw [hd0] at hd
              have hdr := hgood.out.2.2.2 d0 (hd0 ▸ List.getElem_mem _)
              have hd1 := hdr.1
              have hd2 := hdr.2
              have hpn : p < n1 := by rw [Hn1.out]; exact hpd
              obtain ⟨g1, rfl⟩ := hsh1.2 (by omega)
              have e2 : st.length - 1 = n2 - 1 := by rw [← Hn2.out]
              have gp := (own64_cell ht.out.2.1 Hn2.out.symm (k := n2 - 1) (x := (p : Int)) (by rw [← e2]; exact hp.out)).1
              obtain ⟨gd, gf, _, _⟩ := own64_cell ht.out.1 Hn1.out.symm (k := p) (x := d0) hd.out
              have hstep := Lib.hid (M.prun_step hX.out (by rw [h40]; exact M.pstep_open hp.out (by simpa using hd.out)))
              have hgood2 := Lib.hid (M.pgood_open (p := (p : Int)) hgood.out (by simpa using hd.out))
              simp only [Int.toNat_natCast] at hstep hgood2
              have hpl : p ≤ 48 := by omega
              have hset := Lib.hid (ht.out.set Hn1.out.symm p (d0 + 1))
              have hcast : ((n2 : Int) - 1).toNat = n2 - 1 := by omega
              clear hp0 hpin hd0 hdr e2 h40 hsh1 hsh2
              have hset' := Lib.hid hset.out.symm
              have hBs : w.heap.size + 1 ≤ (wr.setCell ⟨g1, p, none⟩ (.int .i64 (d0 + 1))).heap.size := by simpa using hBsz
              have hn1m : n1 ≤ 1000000 := by omega
              have hn2m : n2 ≤ 1000000 := by omega
              go_wp2_with (first | (at_builtin; refine pushTwo rfl (.tmp 49) (.tmp 52) rfl (wr.setCell ⟨g1, p, none⟩ (.int .i64 (d0 + 1))) (w.heap.size + 1) (some ⟨g2, 0, none⟩) n2 c2 (.slice (some ⟨g1, 0, none⟩) n1 c1) st (ds.set p (d0 + 1)) (n1 : Int) rfl _ rfl (by simp) hset' hBs hn2m ?_; intro A3 c3 w3 ht3 hb3; have ht3' := Lib.hid ht3.out.symm; have hB3 := Nat.le_trans hBs hb3.out.size) | (at_builtin; refine pushTwo rfl (.tmp 54) (.tmp 55) rfl w3 (w.heap.size + 1) (some ⟨g1, 0, none⟩) n1 c1 (.slice A3 (n2 + 1) c3) (ds.set p (d0 + 1)) (st ++ [(n1 : Int)]) 0 rfl _ rfl rfl ht3' hB3 hn1m ?_; intro A4 c4 w4 ht4 hb4))
              go_roundw
              case rel => exact ⟨k + 1, A4, _, c4, A3, _, c3, _, _, by omega, by go_num, rfl, rfl, ht4.out.eq rfl (by rw [Hn1.out]), hstep.out.symm.trans hg.out, hgood2, fun _ => by simp, ((below_setCell hbr.out (by have := ht.out.1.lt g1 rfl; omega) _).trans hb3.out).trans hb4.out⟩
              case measure => simp [intOf]; omega
            · have hq : ((s[k].toNat : Int) == 40) = false := by simp [h40]
              by_cases h41 : (s[k].toNat : Int) = 41
              · have hq2 : ((s[k].toNat : Int) == 41) = true := by simp [h41]
                have hstep := Lib.hid (M.prun_step hX.out (by rw [h41]; exact M.pstep_close (ds := ds) hstl))
                have hgood2 := Lib.hid (M.pgood_close hgood.out)
                have hpop := Lib.hid (ht.out.pop hst)
                have hcast : ((n2 : Int) - 1).toNat = n2 - 1 := by omega
                have hcap0 := ht.out.symm.cap
                have hnz0 := Lib.hid (show ds ≠ [] from fun e => by have := hgood.out.2.1; rw [e] at this; simp only [List.length_nil] at this; omega)
                have hcap : (n2 : Int) - 1 ≤ (c2 : Int) := by omega
                clear h40 h41 hsh1 hsh2
                go_wp2
                go_roundw
                case rel => exact ⟨k + 1, A1, n1, c1, some ⟨g2, 0, none⟩, n2 - 1, c2, _, _, by omega, by go_num, rfl, rfl, hpop, hstep.out.symm.trans hg.out, hgood2, fun _ => hnz0.out, hbr⟩
                case measure => simp [intOf]; omega
              · have hq2 : ((s[k].toNat : Int) == 41) = false := by simp [h41]
                have hR := hfail.out (hg.out.symm.trans (M.prun_fail hX.out (M.pstep_other h40 h41)))
                subst hR
                clear h40 h41 hsh1 hsh2 hg hgood hnz hfail hopen hdone
                go_wp2
                refine bodyPost_ret (v := .tuple #[.agg #[.slice none 0 0], .bool false]) (by simp [results, Try.results77, go_sem, hrc]) rfl ?_
                exact ⟨none, 0, rfl, own64_nil _ _, below_setCell hBw.out (Nat.le_refl _) _⟩
          · -- no node is open
            have hn20 : n2 = 0 := by omega
            subst hn20
            have hst0 : st = [] := List.eq_nil_of_length_eq_zero Hn2.out.symm
            subst hst0
            by_cases hk0 : 0 < k
            · have hnd := hnz.out hk0
              have hn1p : 0 < n1 := by rw [Hn1.out]; exact List.length_pos_iff.2 hnd
              have hq1 : ((n1 : Int) == 0) = false := by simp; omega
              have hR := hfail.out (hg.out.symm.trans (M.prun_fail hX.out (M.pstep_none (.inl hnd))))
              subst hR
              clear hsh1 hsh2 hg hgood hnz hfail hopen hdone hst hk0 hnd
              go_wp2
              all_goals refine bodyPost_ret (v := .tuple #[.agg #[.slice none 0 0], .bool false]) (by simp [results, Try.results77, go_sem, hrc]) rfl ?_
              all_goals exact ⟨none, 0, rfl, own64_nil _ _, below_setCell hBw.out (Nat.le_refl _) _⟩
            · obtain rfl : k = 0 := by omega
              have hds0 : ds = [] := List.eq_nil_of_length_eq_zero (by have := hgood.out.1; omega)
              subst hds0
              have hn10 : n1 = 0 := Hn1.out
              subst hn10
              by_cases h40 : (s[0].toNat : Int) = 40
              · have hq : ((s[0].toNat : Int) == 40) = true := by simp [h40]
                have hstep := Lib.hid (M.prun_step hX.out (by rw [h40]; exact M.pstep_first))
                have hgood2 := Lib.hid M.pgood_first
                have hset' := Lib.hid ht.out.symm
                have hBs : w.heap.size + 1 ≤ wr.heap.size := hBsz
                clear h40 hsh1 hsh2 hst hk0
                go_wp2_with (first | (at_builtin; refine pushTwo rfl (.tmp 49) (.tmp 52) rfl wr (w.heap.size + 1) A2 0 c2 (.slice A1 0 c1) [] [] 0 rfl _ rfl (by simp) hset' hBs (by omega) ?_; intro A3 c3 w3 ht3 hb3; have ht3' := Lib.hid ht3.out.symm; have hB3 := Nat.le_trans hBs hb3.out.size) | (at_builtin; refine pushTwo rfl (.tmp 54) (.tmp 55) rfl w3 (w.heap.size + 1) A1 0 c1 (.slice A3 (0 + 1) c3) [] [0] 0 rfl _ rfl rfl ht3' hB3 (by omega) ?_; intro A4 c4 w4 ht4 hb4))
                go_roundw
                case rel => exact ⟨1, A4, _, c4, A3, _, c3, _, _, by omega, rfl, rfl, rfl, ht4.out.symm.symm, hstep.out.symm.trans hg.out, hgood2, fun _ => by simp, (hbr.out.trans hb3.out).trans hb4.out⟩
                case measure => simp [intOf]; omega
              · have hq : ((s[0].toNat : Int) == 40) = false := by simp [h40]
                have hR := hfail.out (hg.out.symm.trans (M.prun_fail hX.out (M.pstep_none (.inr h40))))
                subst hR
                clear hsh1 hsh2 hg hgood hnz hfail hopen hdone hst hk0 h40
                go_wp2
                all_goals refine bodyPost_ret (v := .tuple #[.agg #[.slice none 0 0], .bool false]) (by simp [results, Try.results77, go_sem, hrc]) rfl ?_
                all_goals exact ⟨none, 0, rfl, own64_nil _ _, below_setCell hBw.out (Nat.le_refl _) _⟩
        · obtain rfl : k = s.size := by omega
          have hgf : Hid (P = some (ds, st)) := by
            have := hg.out
            rw [List.drop_of_length_le (by rw [hbl.out]; omega)] at this
            exact this.symm
          by_cases hst : 0 < n2
          · have hR := hopen.out ds st hgf.out (by rw [← Hn2.out]; exact hst)
            subst hR
            clear hsh1 hsh2 hg hgood hnz hfail hopen hdone
            go_wp2
            refine bodyPost_ret (v := .tuple #[.agg #[.slice none 0 0], .bool false]) (by simp [results, Try.results77, go_sem, hrc]) rfl ?_
            exact ⟨none, 0, rfl, own64_nil _ _, below_setCell hBw.out (Nat.le_refl _) _⟩
          · have hn20 : n2 = 0 := by omega
            subst hn20
            have hst0 : st = [] := List.eq_nil_of_length_eq_zero Hn2.out.symm
            subst hst0
            by_cases hn10 : n1 = 0
            · subst hn10
              have hds0 : ds = [] := List.eq_nil_of_length_eq_zero Hn1.out.symm
              subst hds0
              have hR := hempty.out hgf.out
              subst hR
              clear hsh1 hsh2 hg hgood hnz hfail hopen hempty hdone hst
              go_wp2
              refine bodyPost_ret (v := .tuple #[.agg #[.slice none 0 0], .bool false]) (by simp [results, Try.results77, go_sem, hrc]) rfl ?_
              exact ⟨none, 0, rfl, own64_nil _ _, below_setCell hBw.out (Nat.le_refl _) _⟩
            have hR := hdone.out ds h49 hgf.out (fun e => hn10 (by rw [Hn1.out, e]; rfl))
            subst hR
            have hq1 : ((n1 : Int) == 0) = false := by simp; omega
            have hnn := Hn1.out
            subst hnn
            clear hsh1 hsh2 hg hgood hnz hfail hopen hempty hdone hst hn10
            go_wp2
            refine bodyPost_ret (v := .tuple #[.agg #[.slice A1 ds.length c1], .bool true]) (by simp [results, Try.results77, go_sem, hrc]) rfl ?_
            exact ⟨A1, c1, rfl, own_mono (own_far ht.out.1 (Nat.lt_succ_self _) _) (Nat.le_succ _), below_setCell hBw.out (Nat.le_refl _) _⟩

theorem M.parse_or (l : List Int) : M.parse l = ([], 6) ∨ (M.parse l).2 = 0 := by
  simp only [M.parse]
  split
  · exact .inl rfl
  · split
    · split
      · exact .inl rfl
      · exact .inr rfl
    · exact .inl rfl

end Go.Proofs.Ytbdmmeoelagdcaa

/- FillPattern, the program's and the model's: the tree that comes if a pattern is filled with trees. -/
namespace Go.Proofs.Ytbdmmeoelagdcaa
open Go.RowKit

def anyBad (zss : List (List Int)) : Bool := zss.any fun zs => !M.isTree zs
theorem anyBad_hit {zss : List (List Int)} {k : Nat} {zs : List Int} (h : zss[k]? = some zs) (hx : M.isTree zs = false) : anyBad zss = true :=
  List.any_eq_true.2 ⟨zs, List.mem_of_getElem? h, by rw [hx]; rfl⟩
theorem anyBad_take {zss : List (List Int)} {k : Nat} {zs : List Int} (h : zss[k]? = some zs) (hx : M.isTree zs = true) (hg : anyBad (zss.take k) = false) : anyBad (zss.take (k + 1)) = false := by
  rw [List.take_add_one, h, anyBad, List.any_append]
  rw [anyBad] at hg
  rw [hg]
  simp [hx]
theorem anyBad_no {zss : List (List Int)} (h : anyBad zss = false) : ∀ zs ∈ zss, M.isTree zs = true := fun x hx => by
  have := (List.any_eq_false.1 h) x hx
  simpa using this
/-- the code of a pattern and trees, and the tree -/
def F_FillPattern (p : ByteArray) (zss : List (List Int)) : List Int × Int :=
  if anyBad zss then ([], 1) else if M.isPat p.data.toList then (if M.numL p.data.toList = zss.length then (if 48 < (M.fillT p.data.toList (zss.map txt)).length then ([], 3) else (treeAt (M.fillT p.data.toList (zss.map txt)), 0)) else ([], 2)) else ([], 6)
theorem F_Fill_bad {p : ByteArray} {zss : List (List Int)} (h : anyBad zss = true) : F_FillPattern p zss = ([], 1) := by rw [F_FillPattern, if_pos h]
theorem F_Fill_pat {p : ByteArray} {zss : List (List Int)} (h : anyBad zss = false) (h1 : M.isPat p.data.toList = false) : F_FillPattern p zss = ([], 6) := by rw [F_FillPattern, if_neg (by simp [h]), if_neg (by simp [h1])]
theorem F_Fill_num {p : ByteArray} {zss : List (List Int)} (h : anyBad zss = false) (h1 : M.isPat p.data.toList = true) (h2 : M.numL p.data.toList ≠ zss.length) : F_FillPattern p zss = ([], 2) := by rw [F_FillPattern, if_neg (by simp [h]), if_pos h1, if_neg h2]
theorem F_Fill_long {p : ByteArray} {zss : List (List Int)} (h : anyBad zss = false) (h1 : M.isPat p.data.toList = true) (h2 : M.numL p.data.toList = zss.length) (h3 : 48 < (M.fillT p.data.toList (zss.map txt)).length) : F_FillPattern p zss = ([], 3) := by rw [F_FillPattern, if_neg (by simp [h]), if_pos h1, if_pos h2, if_pos h3]
theorem F_Fill_yes {p : ByteArray} {zss : List (List Int)} (h : anyBad zss = false) (h1 : M.isPat p.data.toList = true) (h2 : M.numL p.data.toList = zss.length) (h3 : ¬ 48 < (M.fillT p.data.toList (zss.map txt)).length) : F_FillPattern p zss = (treeAt (M.fillT p.data.toList (zss.map txt)), 0) := by rw [F_FillPattern, if_neg (by simp [h]), if_pos h1, if_pos h2, if_neg h3]
theorem fill_facts {p : ByteArray} {zss : List (List Int)} (h : anyBad zss = false) (h1 : M.isPat p.data.toList = true) (h2 : M.numL p.data.toList = zss.length) :
    (∀ c ∈ p.data.toList, M.okP c) ∧ (M.fillT p.data.toList (zss.map txt)).length ≤ 48 * 60 ∧ (¬ 48 < (M.fillT p.data.toList (zss.map txt)).length → (M.parse (M.toI (M.fillT p.data.toList (zss.map txt)))).2 = 0 ∧ treeAt (M.fillT p.data.toList (zss.map txt)) ≠ [] ∧ (treeAt (M.fillT p.data.toList (zss.map txt))).length ≤ 48) := by
  have hp := (M.isPat_iff.1 h1).2.1
  have h60 := (M.isPat_iff.1 h1).1
  have hbad := anyBad_no h
  have ht : ∀ Y ∈ zss.map txt, M.Whole Y := fun Y hY => by
    obtain ⟨zs, hz, rfl⟩ := List.mem_map.1 hY
    exact txt_whole (hbad zs hz)
  have hl : ∀ Y ∈ zss.map txt, Y.length ≤ 48 := fun Y hY => by
    obtain ⟨zs, hz, rfl⟩ := List.mem_map.1 hY
    rw [txt_len (hbad zs hz)]
    have := (M.tree_len (hbad zs hz)).2
    omega
  obtain ⟨a, b⟩ := M.fill_piece hp (ts := zss.map txt) (by rw [List.length_map]; exact h2) ht
  have hfl := M.fill_len p.data.toList (zss.map txt) hl
  exact ⟨M.piece_ok hp, by omega, fun h3 => M.piece_parse b a (by omega)⟩
theorem F_FillPattern_len (p : ByteArray) (zss : List (List Int)) : (F_FillPattern p zss).1.length ≤ 48 := by
  cases hb : anyBad zss
  · cases hp : M.isPat p.data.toList
    · rw [F_Fill_pat hb hp]; simp
    · by_cases hn : M.numL p.data.toList = zss.length
      · by_cases h3 : 48 < (M.fillT p.data.toList (zss.map txt)).length
        · rw [F_Fill_long hb hp hn h3]; simp
        · rw [F_Fill_yes hb hp hn h3]
          exact ((fill_facts hb hp hn).2.2 h3).2.2
      · rw [F_Fill_num hb hp hn]; simp
  · rw [F_Fill_bad hb]; simp
/-- a text and a list of trees to a tree and a code -/
def GivesFill (f : Nat) (F : ByteArray → List (List Int) → List Int × Int) : Prop :=
  ∀ (p : ByteArray) (A : Option Addr) (zss : List (List Int)) (n c : Nat) (w : World), Hid (zss.length = n) → n ≤ 1048576 → n ≤ c → c ≤ 9223372036854775807 → p.size ≤ 1048576 → Hid (∀ zs ∈ zss, zs.length ≤ 1048576) → Hid (TreesC w A zss) →
    Calls Try.prog f #[.string p, .slice A n c] w fun e w' => ∃ A' c', e = .returned (.tuple #[.agg #[.slice A' (F p zss).1.length c'], .int .i64 (F p zss).2]) ∧ Own64 w' w.heap.size (.slice A' (F p zss).1.length c') (F p zss).1 ∧ Below w.heap.size w w'

theorem notTree (A : Option Addr) (xs : List Int) (c : Nat) (w : World) (hx : xs.length ≤ 1000000000000) (h : Ints w w.heap.size A xs) :
    Calls Try.prog 85 #[.agg #[.slice A xs.length c]] w fun e w' => e = .returned (.bool (!M.isTree xs)) ∧ Below w.heap.size w w' := by
  have hI := Lib.hid (implIsTree A xs c (w.alloc (.cells #[.slice A xs.length c] 29)) hx (h.al _))
  generalize M.isTree xs = b at *
  go_enter Try.func85, Try.ntmps85
  go_wp2_with (go_at_call 86; refine hI.out.mono ?_; rintro e w' ⟨rfl, hb⟩)
  have hB := btr (bal (b0 w) _) hb
  go_ret
  exact ⟨rfl, hB⟩

set_option maxRecDepth 100000 in
set_option maxHeartbeats 2000000 in
theorem containsBad (A : Option Addr) (zss : List (List Int)) (n c : Nat) (w : World) (hn : Hid (zss.length = n)) (hn' : n ≤ 1048576) (hz : Hid (∀ zs ∈ zss, zs.length ≤ 1048576)) (h : Hid (Trees w A zss)) (r : Bool) (hr : Hid (anyBad zss = r)) :
    Calls Try.prog 87 #[.slice A n c, .func (.func 85) #[] #[]] w fun e w' => e = .returned (.bool r) ∧ Below w.heap.size w w' := by
  have hI : Calls Try.prog 137 #[.slice A n c, .func (.func 85) #[] #[]] w fun e w' => (∃ j : Int, e = .returned (.int .i64 j) ∧ decide (0 ≤ j) = r) ∧ Below w.heap.size w w' := by
    have hb0 := Lib.hid (b0 w)
    go_enter Try.func137, Try.ntmps137
    go_wp2
    go_loopw [8] (fun i wr => ∃ (k : Nat), k ≤ n ∧ i = .int .i64 k ∧ Hid (anyBad (zss.take k) = false) ∧ Hid (Below w.heap.size w wr)) (fun i _ => n - (intOf i).toNat)
    case atStart => exact ⟨0, Nat.zero_le _, rfl, by simp [Hid, anyBad], hb0⟩
    case round =>
      obtain ⟨k, hk, rfl, hg, hB⟩ := hrel
      clear hb0
      by_cases hlt : k < n
      · have hki : (k : Int) < (n : Int) := by omega
        have hk0 : (0 : Int) ≤ (k : Int) := by omega
        have hkz : k < zss.length := by rw [hn.out]; exact hlt
        have hat : zss[k]? = some zss[k] := List.getElem?_eq_getElem hkz
        have hzk := hz.out _ (List.mem_of_getElem? hat)
        generalize zss[k] = zs at hat hzk
        obtain ⟨b, rfl, hbl, hc⟩ := h.out (by omega)
        obtain ⟨A1, c1, h1, h2⟩ := hc k zs hat
        have hcl : wr.cell? ⟨b, k, none⟩ = some (.slice A1 zs.length c1) := (hB.out.cell (p := ⟨b, k, none⟩) hbl).trans h1
        have hO := Lib.hid (notTree A1 zs c1 wr (by omega) (h2.be hB.out))
        cases ho : M.isTree zs
        · have hrr : Hid (r = true) := by show _ = _; rw [← hr.out]; exact anyBad_hit hat ho
          rw [ho] at hO
          clear hc h1 h2 hat hkz ho hg
          go_wp2_with (go_at_call 85; refine hO.out.mono ?_; rintro e w' ⟨rfl, hb2⟩)
          have hB2 := btr hB.out hb2
          go_ret
          exact ⟨⟨k, rfl, by rw [hrr.out]; simp⟩, hB2⟩
        · have hs := Lib.hid (anyBad_take hat ho hg.out)
          rw [ho] at hO
          clear hc h1 h2 hat hkz ho hg
          go_wp2_with (go_at_call 85; refine hO.out.mono ?_; rintro e w' ⟨rfl, hb2⟩)
          have hB2 := Lib.hid (btr hB.out hb2)
          go_roundw
          case rel => exact ⟨k + 1, by omega, by go_num, hs, hB2⟩
          case measure => simp [intOf]; omega
      · obtain rfl : k = n := by omega
        have hrr : Hid (r = false) := by show _ = _; rw [← hr.out, ← hg.out, List.take_of_length_le (by rw [hn.out]; exact Nat.le_refl _)]
        go_wp2
        go_ret
        exact ⟨⟨-1, rfl, by rw [hrr.out]; simp⟩, hB.out⟩
  have HI := Lib.hid hI
  clear hI
  go_enter Try.func87, Try.ntmps87
  go_wp2_with fail
  refine HI.out.mono ?_
  rintro e w' ⟨⟨j, rfl, hj⟩, hb⟩
  have Hj := Lib.hid hj
  clear hj
  go_wp2
  go_ret
  exact ⟨by rw [← Hj.out]; rfl, hb⟩

set_option maxRecDepth 100000 in
set_option maxHeartbeats 4000000 in
theorem impl_FillPattern : GivesFill 39 F_FillPattern := by
  intro p A zss n c w hn hn' hcn hcu hp hz h
  obtain ⟨W, hW⟩ : ∃ W, w.alloc (.cells #[.slice none 0 0] 29) = W := ⟨_, rfl⟩
  have hWs : W.heap.size = w.heap.size + 1 := by rw [← hW]; simp
  have hR : Hid (W.heap[w.heap.size]? = some (.cells #[.slice none 0 0] 29 (0, 0))) := by rw [← hW]; exact World.alloc_heap_new w _
  have hBW : Hid (Below w.heap.size w W) := by rw [← hW]; exact bal (b0 w) _
  obtain ⟨r, hr⟩ : ∃ r, Hid (anyBad zss = r) := ⟨_, rfl⟩
  have hCo := Lib.hid (containsBad A zss n c W hn hn' hz (Lib.hid (h.out.be hBW.out).trees) r hr)
  have hPt : Hid (∀ W, Calls Try.prog 19 #[.string p] W fun e w' => e = .returned (.bool (M.isPat p.data.toList)) ∧ Hid (Below W.heap.size W w')) := fun W => impl_IsPattern p W hp
  have HW := Lib.hid hW
  clear hW
  cases hb : r
  · subst hb
    cases hpt : M.isPat p.data.toList
    · rw [F_Fill_pat hr.out hpt]
      rw [hpt] at hPt
      clear hpt hr hz h
      go_enter Try.func39, Try.ntmps39
      go_wp2_with fail
      rw [HW.out]
      refine hCo.out.mono ?_
      rintro e w1 ⟨rfl, hb1⟩
      have hres1 := Lib.hid ((hb1.block w.heap.size (lt_of_block hR.out)).trans hR.out)
      have hB1 := Lib.hid (btr hBW.out hb1)
      clear hb1 hCo
      go_wp2_with fail
      refine (hPt.out _).mono ?_
      rintro e w2 ⟨rfl, hb2⟩
      have hres2 := (hb2.out.block w.heap.size (lt_of_block hres1.out)).trans hres1.out
      have hr2 := cell_of_one hres2
      have hf2 := free_of_one hres2
      have hB2 := Lib.hid (btr hB1.out hb2.out)
      clear hb2
      go_wp2
      have e1 := (Boxed.set (.slice none 0 0) hres2).cell
      refine bodyPost_ret (v := .tuple #[.agg #[.slice none 0 0], .int .i64 6]) (by simp [results, Try.results39, go_sem, e1]) rfl ?_
      exact ⟨none, 0, rfl, own64_nil _ _, below_setCell hB2.out (Nat.le_refl _) _⟩
    · rw [hpt] at hPt
      have hp6 := pat_60 hpt
      have hLt : Hid (∀ W, Calls Try.prog 88 #[.string p] W fun e w' => e = .returned (.int .i64 (M.numL p.data.toList : Int)) ∧ w' = W) := fun W => lettersIn p W (by omega)
      by_cases hnum : M.numL p.data.toList = zss.length
      · have hnum' := Lib.hid (hnum.trans hn.out)
        rw [hnum'.out] at hLt
        obtain ⟨hok, hlen, hyes⟩ := fill_facts hr.out hpt hnum
        have hFt : Hid (∀ W, Below w.heap.size w W → Calls Try.prog 89 #[.string p, .slice A n c] W fun e w' => e = .returned (.string (M.bs (M.fillT p.data.toList (zss.map txt)))) ∧ Hid (Below W.heap.size W w')) := fun W hb =>
          filledText p A zss n c W hp6 hn hcn hcu hnum' (Lib.hid (anyBad_no hr.out)) (Lib.hid (h.out.be hb))
        by_cases h48 : 48 < (M.fillT p.data.toList (zss.map txt)).length
        · rw [F_Fill_long hr.out hpt hnum h48]
          have hT48 : (48 : Int) < ((M.bs (M.fillT p.data.toList (zss.map txt))).size : Int) := by rw [M.bs_size]; omega
          clear hyes hok hlen hnum hpt hr hz h h48
          generalize M.bs (M.fillT p.data.toList (zss.map txt)) = T at *
          go_enter Try.func39, Try.ntmps39
          go_wp2_with fail
          rw [HW.out]
          refine hCo.out.mono ?_
          rintro e w1 ⟨rfl, hb1⟩
          have hres1 := Lib.hid ((hb1.block w.heap.size (lt_of_block hR.out)).trans hR.out)
          have hB1 := Lib.hid (btr hBW.out hb1)
          clear hb1 hCo
          go_wp2_with fail
          refine (hPt.out _).mono ?_
          rintro e w2 ⟨rfl, hb2⟩
          have hres2 := Lib.hid ((hb2.out.block w.heap.size (lt_of_block hres1.out)).trans hres1.out)
          have hB2 := Lib.hid (btr hB1.out hb2.out)
          clear hb2 hres1 hB1
          go_wp2_with fail
          refine (hLt.out _).mono ?_
          rintro e w' ⟨rfl, hw⟩
          subst hw
          go_wp2_with fail
          refine (hFt.out _ hB2.out).mono ?_
          rintro e w3 ⟨rfl, hb3⟩
          have hres3 := (hb3.out.block w.heap.size (lt_of_block hres2.out)).trans hres2.out
          have hr2 := cell_of_one hres3
          have hf2 := free_of_one hres3
          have hB3 := Lib.hid (btr hB2.out hb3.out)
          clear hb3 hFt
          go_wp2
          have e1 := (Boxed.set (.slice none 0 0) hres3).cell
          refine bodyPost_ret (v := .tuple #[.agg #[.slice none 0 0], .int .i64 3]) (by simp [results, Try.results39, go_sem, e1]) rfl ?_
          exact ⟨none, 0, rfl, own64_nil _ _, below_setCell hB3.out (Nat.le_refl _) _⟩
        · rw [F_Fill_yes hr.out hpt hnum h48]
          obtain ⟨hy1, hy2, hy3⟩ := hyes h48
          have hT48 : ¬ (48 : Int) < ((M.bs (M.fillT p.data.toList (zss.map txt))).size : Int) := by rw [M.bs_size]; omega
          have hPr : Hid (∀ W, Calls Try.prog 81 #[.string (M.bs (M.fillT p.data.toList (zss.map txt)))] W fun e w' => ∃ A' c', e = .returned (.tuple #[.agg #[.slice A' (treeAt (M.fillT p.data.toList (zss.map txt))).length c'], .int .i64 (M.parse (M.toI (M.fillT p.data.toList (zss.map txt)))).2]) ∧ Own64 w' W.heap.size (.slice A' (treeAt (M.fillT p.data.toList (zss.map txt))).length c') (treeAt (M.fillT p.data.toList (zss.map txt))) ∧ Below W.heap.size W w') := fun W => impl_ParseTree (M.bs (M.fillT p.data.toList (zss.map txt))) W (by rw [M.bs_size]; omega)
          rw [hy1] at hPr
          clear hok hlen hnum hpt hr hz h h48 hy1 hyes
          generalize M.bs (M.fillT p.data.toList (zss.map txt)) = T at *
          generalize treeAt (M.fillT p.data.toList (zss.map txt)) = Z at *
          go_enter Try.func39, Try.ntmps39
          go_wp2_with fail
          rw [HW.out]
          refine hCo.out.mono ?_
          rintro e w1 ⟨rfl, hb1⟩
          have hres1 := Lib.hid ((hb1.block w.heap.size (lt_of_block hR.out)).trans hR.out)
          have hB1 := Lib.hid (btr hBW.out hb1)
          clear hb1 hCo
          go_wp2_with fail
          refine (hPt.out _).mono ?_
          rintro e w2 ⟨rfl, hb2⟩
          have hres2 := Lib.hid ((hb2.out.block w.heap.size (lt_of_block hres1.out)).trans hres1.out)
          have hB2 := Lib.hid (btr hB1.out hb2.out)
          clear hb2 hres1 hB1
          go_wp2_with fail
          refine (hLt.out _).mono ?_
          rintro e w' ⟨rfl, hw⟩
          subst hw
          go_wp2_with fail
          refine (hFt.out _ hB2.out).mono ?_
          rintro e w3 ⟨rfl, hb3⟩
          have hres3 := Lib.hid ((hb3.out.block w.heap.size (lt_of_block hres2.out)).trans hres2.out)
          have hB3 := Lib.hid (btr hB2.out hb3.out)
          clear hb3 hFt hres2 hB2
          go_wp2_with fail
          refine (hPr.out _).mono ?_
          rintro e w4 ⟨A4, c4, rfl, ho4, hb4⟩
          have hres4 := (hb4.block w.heap.size (lt_of_block hres3.out)).trans hres3.out
          have hr2 := cell_of_one hres4
          have hf2 := free_of_one hres4
          have hB4 := Lib.hid (btr hB3.out hb4)
          have Ho4 := Lib.hid ho4
          have hlt4 := lt_of_block hres3.out
          have hle3 := hB3.out.size
          clear hb4 ho4 hPr
          go_wp2
          have e1 := (Boxed.set (.slice A4 Z.length c4) hres4).cell
          refine bodyPost_ret (v := .tuple #[.agg #[.slice A4 Z.length c4], .int .i64 0]) (by simp [results, Try.results39, go_sem, e1]) rfl ?_
          exact ⟨A4, c4, rfl, own_mono (own_far Ho4.out hlt4 _) hle3, below_setCell hB4.out (Nat.le_refl _) _⟩
      · rw [F_Fill_num hr.out hpt hnum]
        rw [hn.out] at hnum
        generalize M.numL p.data.toList = m at *
        have hne : ((m : Int) != (n : Int)) = true := bne_iff_ne.2 (by omega)
        clear hpt hr hz h hnum
        go_enter Try.func39, Try.ntmps39
        go_wp2_with fail
        rw [HW.out]
        refine hCo.out.mono ?_
        rintro e w1 ⟨rfl, hb1⟩
        have hres1 := Lib.hid ((hb1.block w.heap.size (lt_of_block hR.out)).trans hR.out)
        have hB1 := Lib.hid (btr hBW.out hb1)
        clear hb1 hCo
        go_wp2_with fail
        refine (hPt.out _).mono ?_
        rintro e w2 ⟨rfl, hb2⟩
        have hres2 := (hb2.out.block w.heap.size (lt_of_block hres1.out)).trans hres1.out
        have hr2 := cell_of_one hres2
        have hf2 := free_of_one hres2
        have hB2 := Lib.hid (btr hB1.out hb2.out)
        clear hb2 hres1 hB1
        go_wp2_with fail
        refine (hLt.out _).mono ?_
        rintro e w' ⟨rfl, hw⟩
        subst hw
        go_wp2
        have e1 := (Boxed.set (.slice none 0 0) hres2).cell
        refine bodyPost_ret (v := .tuple #[.agg #[.slice none 0 0], .int .i64 2]) (by simp [results, Try.results39, go_sem, e1]) rfl ?_
        exact ⟨none, 0, rfl, own64_nil _ _, below_setCell hB2.out (Nat.le_refl _) _⟩
  · subst hb
    rw [F_Fill_bad hr.out]
    clear hr hz h hPt
    go_enter Try.func39, Try.ntmps39
    go_wp2_with fail
    rw [HW.out]
    refine hCo.out.mono ?_
    rintro e w1 ⟨rfl, hb1⟩
    have hres1 := (hb1.block w.heap.size (lt_of_block hR.out)).trans hR.out
    have hr2 := cell_of_one hres1
    have hf2 := free_of_one hres1
    have hB1 := Lib.hid (btr hBW.out hb1)
    clear hb1 hCo
    go_wp2
    have e1 := (Boxed.set (.slice none 0 0) hres1).cell
    refine bodyPost_ret (v := .tuple #[.agg #[.slice none 0 0], .int .i64 1]) (by simp [results, Try.results39, go_sem, e1]) rfl ?_
    exact ⟨none, 0, rfl, own64_nil _ _, below_setCell hB1.out (Nat.le_refl _) _⟩

set_option maxRecDepth 100000 in
set_option maxHeartbeats 4000000 in
theorem spec_FillPattern : GivesFill 37 F_FillPattern := by
  intro p A zss n c w hn hn' hcn hcu hp hz h
  obtain ⟨W, hW⟩ : ∃ W, w.alloc (.cells #[.slice none 0 0] 29) = W := ⟨_, rfl⟩
  have hWs : W.heap.size = w.heap.size + 1 := by rw [← hW]; simp
  have hR : Hid (W.heap[w.heap.size]? = some (.cells #[.slice none 0 0] 29 (0, 0))) := by rw [← hW]; exact World.alloc_heap_new w _
  have hBW : Hid (Below w.heap.size w W) := by rw [← hW]; exact bal (b0 w) _
  have hPt : Hid (∀ W, Calls Try.prog 65 #[.string p] W fun e w' => e = .returned (.bool (M.isPat p.data.toList)) ∧ Hid (Below W.heap.size W w')) := fun W => l04Is p W hp
  have HW := Lib.hid hW
  clear hW
  go_enter Try.func37, Try.ntmps37
  go_wp2
  rw [HW.out]
  go_loopw [6] (fun i wr => ∃ (k : Nat), k ≤ n ∧ i = .int .i64 (k : Int) ∧ Hid (anyBad (zss.take k) = false) ∧ Hid (wr.heap[w.heap.size]? = some (.cells #[.slice none 0 0] 29 (0, 0))) ∧ Hid (Below w.heap.size w wr)) (fun i _ => n - (intOf i).toNat)
  case atStart => exact ⟨0, Nat.zero_le _, rfl, by simp [Hid, anyBad], hR, hBW⟩
  case round =>
    obtain ⟨k, hk, rfl, hg, hres, hb⟩ := hrel
    clear hR hBW HW
    have hzr := lt_of_block hres.out
    by_cases hlt : k < n
    · have hki : (k : Int) < (n : Int) := by omega
      have hk0 : (0 : Int) ≤ (k : Int) := by omega
      have hkz : k < zss.length := by rw [hn.out]; exact hlt
      have hat : zss[k]? = some zss[k] := List.getElem?_eq_getElem hkz
      have hzk := hz.out _ (List.mem_of_getElem? hat)
      generalize zss[k] = zs at hat hzk
      obtain ⟨b, rfl, hbl, hc⟩ := h.out (by omega)
      obtain ⟨A1, c1, _, _, h1, h2⟩ := hc k zs hat
      have hcl : wr.cell? ⟨b, k, none⟩ = some (.slice A1 zs.length c1) := (hb.out.cell (p := ⟨b, k, none⟩) hbl).trans h1
      have HIs := Lib.hid (specIs A1 zs c1 wr (by omega) (h2.be hb.out))
      have Hat := Lib.hid hat
      clear hc h1 h2 hat hbl hkz
      cases ht : M.isTree zs
      · rw [ht] at HIs
        have hF := Lib.hid (F_Fill_bad (p := p) (anyBad_hit Hat.out ht))
        clear ht
        go_wp2_with fail
        refine HIs.out.mono ?_
        rintro e w7 ⟨rfl, hb7⟩
        have hres7 := (hb7.block w.heap.size hzr).trans hres.out
        have hr2 := cell_of_one hres7
        have hf2 := free_of_one hres7
        have hB := Lib.hid (btr hb.out hb7)
        clear hb7 hcl
        go_wp2
        have e1 := (Boxed.set (.slice none 0 0) hres7).cell
        refine bodyPost_ret (v := .tuple #[.agg #[.slice none 0 0], .int .i64 1]) (by simp [results, Try.results37, go_sem, e1]) rfl ?_
        rw [hF.out]
        exact ⟨none, 0, rfl, own64_nil _ _, below_setCell hB.out (Nat.le_refl _) _⟩
      · rw [ht] at HIs
        have hg2 := Lib.hid (anyBad_take Hat.out ht hg.out)
        clear ht
        go_wp2_with fail
        refine HIs.out.mono ?_
        rintro e w7 ⟨rfl, hb7⟩
        have hres7 := Lib.hid ((hb7.block w.heap.size hzr).trans hres.out)
        have hB := Lib.hid (btr hb.out hb7)
        clear hb7 hcl hres hb HIs hg
        go_wp2
        go_roundw
        case rel => exact ⟨k + 1, by omega, by go_num, hg2, hres7, hB⟩
        case measure => simp [intOf]; omega
    · obtain rfl : k = n := by omega
      have hge : ¬ (k : Int) < (k : Int) := by omega
      have hgood : Hid (anyBad zss = false) := by
        have := hg.out
        rwa [List.take_of_length_le (by rw [hn.out]; exact Nat.le_refl _)] at this
      clear hg
      cases hpt : M.isPat p.data.toList
      · have hF := Lib.hid (F_Fill_pat hgood.out hpt)
        rw [hpt] at hPt
        clear hpt h hz
        go_wp2_with fail
        refine (hPt.out _).mono ?_
        rintro e w7 ⟨rfl, hb7⟩
        have hres7 := (hb7.out.block w.heap.size hzr).trans hres.out
        have hr2 := cell_of_one hres7
        have hf2 := free_of_one hres7
        have hB := Lib.hid (btr hb.out hb7.out)
        clear hb7
        go_wp2
        have e1 := (Boxed.set (.slice none 0 0) hres7).cell
        refine bodyPost_ret (v := .tuple #[.agg #[.slice none 0 0], .int .i64 6]) (by simp [results, Try.results37, go_sem, e1]) rfl ?_
        rw [hF.out]
        exact ⟨none, 0, rfl, own64_nil _ _, below_setCell hB.out (Nat.le_refl _) _⟩
      · rw [hpt] at hPt
        have hp6 := pat_60 hpt
        have hok := M.piece_ok (M.isPat_iff.1 hpt).2.1
        have hLt : Hid (∀ W, Calls Try.prog 83 #[.string p] W fun e w' => e = .returned (.int .i64 (M.numL p.data.toList : Int)) ∧ Hid (Below W.heap.size W w')) := fun W => l04Letters p W (by omega) (Lib.hid hok)
        by_cases hnum : M.numL p.data.toList = zss.length
        · obtain ⟨_, hlen, hyes⟩ := fill_facts hgood.out hpt hnum
          have hnum' := Lib.hid (hnum.trans hn.out)
          have hbad := Lib.hid (anyBad_no hgood.out)
          have hk60 : k ≤ 60 := by have h1 := hnum'.out; have h2 : M.numL p.data.toList ≤ p.data.toList.length := M.nL_le _; have h3 := Lib.size_eq p; omega
          have hF48 := Lib.hid (fun h48 => F_Fill_long hgood.out hpt hnum h48)
          have hFy := Lib.hid (fun h48 => F_Fill_yes hgood.out hpt hnum h48)
          have hyes' := Lib.hid hyes
          have hFill : Hid (∀ A c W, Hid (OwnS W 0 (.slice A k c) ((zss.map txt).map M.bs)) → Calls Try.prog 84 #[.string p, .slice A k c] W fun e w' => e = .returned (.string (M.bs (M.fillT p.data.toList (zss.map txt)))) ∧ Hid (Below W.heap.size W w')) := fun A c W ho =>
            l04Fill p A (zss.map txt) k c W hp6 (Lib.hid hok) (by show _ = _; rw [List.length_map]; exact hn.out) hnum' (Lib.hid fun Y hY => by
              obtain ⟨zs, hz', rfl⟩ := List.mem_map.1 hY
              rw [txt_len (hbad.out zs hz')]
              have := (M.tree_len (hbad.out zs hz')).2
              omega) ho
          rw [hnum'.out] at hLt
          clear hpt hnum hyes hok hgood
          go_wp2_with fail
          refine (hPt.out _).mono ?_
          rintro e w2 ⟨rfl, hb2⟩
          have hres2 := Lib.hid ((hb2.out.block w.heap.size hzr).trans hres.out)
          have hB2 := Lib.hid (btr hb.out hb2.out)
          clear hb2 hres hb
          go_wp2_with fail
          refine (hLt.out _).mono ?_
          rintro e w3 ⟨rfl, hb3⟩
          have hres3 := Lib.hid ((hb3.out.block w.heap.size (lt_of_block hres2.out)).trans hres2.out)
          have hB3 := Lib.hid (btr hB2.out hb3.out)
          have ho3 := Lib.hid (ownS_empty (w := w3) (B := w3.heap.size) (Nat.le_refl _))
          have hres3' : Hid ((w3.alloc (.cells #[] 9)).heap[w.heap.size]? = some (.cells #[.slice none 0 0] 29 (0, 0))) := (Below.heap_alloc _ _ _ (lt_of_block hres3.out)).trans hres3.out
          have hB3' := Lib.hid (bal hB3.out (.cells #[] 9))
          have hz3 := lt_of_block hres3.out
          have hw3 := hB3.out.size
          clear hb3 hres2 hB2 hLt hPt
          go_wp2
          go_loopw [7, 8] (fun q i wr => ∃ (j : Nat) (A' : Option Addr) (c' : Nat), j ≤ k ∧ i = .int .i64 (j : Int) ∧ q = .slice A' j c' ∧ Hid (OwnS wr w3.heap.size (.slice A' j c') (((zss.take j).map txt).map M.bs)) ∧ Hid (wr.heap[w.heap.size]? = some (.cells #[.slice none 0 0] 29 (0, 0))) ∧ Hid (Below w.heap.size w wr) ∧ w3.heap.size ≤ wr.heap.size) (fun _ i _ => k - (intOf i).toNat)
          case atStart => exact ⟨0, _, 0, Nat.zero_le _, rfl, rfl, ho3, hres3', hB3', by simp⟩
          case round =>
            obtain ⟨j, A', c', hj, rfl, rfl, ho, hres, hb, hle⟩ := hrel
            clear ho3 hres3' hB3'
            have hzr := lt_of_block hres.out
            by_cases hlt : j < k
            · have hki : (j : Int) < (k : Int) := by omega
              have hk0 : (0 : Int) ≤ (j : Int) := by omega
              have hkz : j < zss.length := by rw [hn.out]; exact hlt
              have hat : zss[j]? = some zss[j] := List.getElem?_eq_getElem hkz
              have htj := hbad.out _ (List.mem_of_getElem? hat)
              have htk : Hid (((zss.take (j + 1)).map txt).map M.bs = ((zss.take j).map txt).map M.bs ++ [M.textL 24 zss[j]]) := by
                show _ = _
                rw [List.take_add_one, hat]
                simp only [Option.toList_some, List.map_append, List.map_cons, List.map_nil]
                rfl
              generalize zss[j] = zs at hat htj htk
              obtain ⟨b, rfl, hbl, hc⟩ := h.out (by omega)
              obtain ⟨A1, c1, h3, _, h1, h2⟩ := hc j zs hat
              have hcl : wr.cell? ⟨b, j, none⟩ = some (.slice A1 zs.length c1) := (hb.out.cell (p := ⟨b, j, none⟩) hbl).trans h1
              have hTx := Lib.hid (l01Text 24 A1 zs c1 wr (Lib.hid htj) (M.tree_len htj).2 h3 (Lib.hid (h2.be hb.out)))
              have hj6 : j ≤ 1000000 := by omega
              clear hc h1 h2 hat hbl hkz htj h3
              generalize M.textL 24 zs = T at *
              go_wp2_with fail
              refine hTx.out.mono ?_
              rintro e w7 ⟨rfl, hb7⟩
              have ho7 := Lib.hid (ownS_be ho.out hb7.out)
              have hres7 := Lib.hid ((hb7.out.block w.heap.size hzr).trans hres.out)
              have hB7 := Lib.hid (btr hb.out hb7.out)
              have hle7 : w3.heap.size ≤ w7.heap.size := Nat.le_trans hle hb7.out.size
              clear hb7 hres hb ho hTx hcl
              go_wp2_with (at_builtin; refine pushS rfl (.tmp 44) (.tmp 50) rfl _ w3.heap.size A' j c' (((zss.take j).map txt).map M.bs) T rfl rfl ho7 hle7 hj6 ?_; intro A2 c2 w8 ho8 hb8)
              rw [← htk.out] at ho8
              have hres8 : Hid (w8.heap[w.heap.size]? = some (.cells #[.slice none 0 0] 29 (0, 0))) := (hb8.out.block w.heap.size hz3).trans hres7.out
              have hB8 : Hid (Below w.heap.size w w8) := hB7.out.trans (hb8.out.mono hw3)
              have hle8 : w3.heap.size ≤ w8.heap.size := Nat.le_trans hle7 hb8.out.size
              clear hb8 hres7 hB7 ho7
              go_roundw
              case rel => exact ⟨j + 1, A2, c2, by omega, by go_num, rfl, ho8, hres8, hB8, hle8⟩
              case measure => simp [intOf]; omega
            · obtain rfl : j = k := by omega
              have hge : ¬ (j : Int) < (j : Int) := by omega
              have ho0 : Hid (OwnS wr 0 (.slice A' j c') ((zss.map txt).map M.bs)) := by
                have := own_mono (base' := 0) ho.out (Nat.zero_le _)
                rwa [List.take_of_length_le (by rw [hn.out]; exact Nat.le_refl _)] at this
              have HF := Lib.hid (hFill.out A' c' wr ho0)
              clear ho ho0 hFill h hz
              generalize M.fillT p.data.toList (zss.map txt) = T at *
              by_cases h48 : 48 < T.length
              · have hF := Lib.hid (hF48.out h48)
                have hT48 : (48 : Int) < ((M.bs T).size : Int) := by rw [M.bs_size]; omega
                clear hF48 hFy hyes' h48
                generalize M.bs T = S at *
                go_wp2_with fail
                refine HF.out.mono ?_
                rintro e w7 ⟨rfl, hb7⟩
                have hres7 := (hb7.out.block w.heap.size hzr).trans hres.out
                have hr2 := cell_of_one hres7
                have hf2 := free_of_one hres7
                have hB := Lib.hid (btr hb.out hb7.out)
                clear hb7
                go_wp2
                have e1 := (Boxed.set (.slice none 0 0) hres7).cell
                refine bodyPost_ret (v := .tuple #[.agg #[.slice none 0 0], .int .i64 3]) (by simp [results, Try.results37, go_sem, e1]) rfl ?_
                rw [hF.out]
                exact ⟨none, 0, rfl, own64_nil _ _, below_setCell hB.out (Nat.le_refl _) _⟩
              · have hF := Lib.hid (hFy.out h48)
                obtain ⟨hy1, hy2, hy3⟩ := hyes'.out h48
                have hT48 : ¬ (48 : Int) < ((M.bs T).size : Int) := by rw [M.bs_size]; omega
                have hPr : Hid (∀ W, Calls Try.prog 77 #[.string (M.bs T)] W fun e w' => ∃ A' c', e = .returned (.tuple #[.agg #[.slice A' (treeAt T).length c'], .bool ((M.parse (M.toI T)).2 == 0)]) ∧ Own64 w' W.heap.size (.slice A' (treeAt T).length c') (treeAt T) ∧ Below W.heap.size W w') := fun W => spec_Read (M.bs T) W (by rw [M.bs_size]; omega)
                rw [hy1] at hPr
                clear hF48 hFy hyes' h48 hy1
                generalize M.bs T = S at *
                generalize treeAt T = Z at *
                go_wp2_with fail
                refine HF.out.mono ?_
                rintro e w7 ⟨rfl, hb7⟩
                have hres7 := Lib.hid ((hb7.out.block w.heap.size hzr).trans hres.out)
                have hB7 := Lib.hid (btr hb.out hb7.out)
                clear hb7 hres hb HF
                go_wp2_with fail
                refine (hPr.out _).mono ?_
                rintro e w8 ⟨A8, c8, rfl, ho8, hb8⟩
                have hz8 := lt_of_block hres7.out
                have hz9 := hB7.out.size
                have hres8 : (w8.alloc (.cells #[.slice A8 Z.length c8] 29)).heap[w.heap.size]? = some (.cells #[.slice none 0 0] 29 (0, 0)) := (Below.heap_alloc _ _ _ (Nat.lt_of_lt_of_le hz8 hb8.size)).trans ((hb8.block w.heap.size hz8).trans hres7.out)
                have hr2 := cell_of_one hres8
                have hf2 := free_of_one hres8
                have hB8 := Lib.hid (bal (btr hB7.out hb8) (.cells #[.slice A8 Z.length c8] 29))
                have Ho8 := Lib.hid (ho8.alloc (.cells #[.slice A8 Z.length c8] 29))
                clear hb8 ho8 hPr
                go_wp2
                have e1 := (Boxed.set (.slice A8 Z.length c8) hres8).cell
                refine bodyPost_ret (v := .tuple #[.agg #[.slice A8 Z.length c8], .int .i64 0]) (by simp [results, Try.results37, go_sem, e1]) rfl ?_
                rw [hF.out]
                exact ⟨A8, c8, rfl, own_mono (own_far Ho8.out hz8 _) hz9, below_setCell hB8.out (Nat.le_refl _) _⟩
        · have hF := Lib.hid (F_Fill_num hgood.out hpt hnum)
          rw [hn.out] at hnum
          generalize M.numL p.data.toList = m at *
          have hne : ((m : Int) != (k : Int)) = true := bne_iff_ne.2 (by omega)
          clear hpt h hz hnum hok
          go_wp2_with fail
          refine (hPt.out _).mono ?_
          rintro e w7 ⟨rfl, hb7⟩
          have hres7 := Lib.hid ((hb7.out.block w.heap.size hzr).trans hres.out)
          have hB7 := Lib.hid (btr hb.out hb7.out)
          clear hb7
          go_wp2_with fail
          refine (hLt.out _).mono ?_
          rintro e w8 ⟨rfl, hb8⟩
          have hres8 := (hb8.out.block w.heap.size (lt_of_block hres7.out)).trans hres7.out
          have hr2 := cell_of_one hres8
          have hf2 := free_of_one hres8
          have hB := Lib.hid (btr hB7.out hb8.out)
          clear hb8
          go_wp2
          have e1 := (Boxed.set (.slice none 0 0) hres8).cell
          refine bodyPost_ret (v := .tuple #[.agg #[.slice none 0 0], .int .i64 2]) (by simp [results, Try.results37, go_sem, e1]) rfl ?_
          rw [hF.out]
          exact ⟨none, 0, rfl, own64_nil _ _, below_setCell hB.out (Nat.le_refl _) _⟩
end Go.Proofs.Ytbdmmeoelagdcaa

/- The walk of the law FnExactFillPattern, from the contracts of the program's function and of the model's: it returns true, and writes into nothing that was there. -/
namespace Go.Proofs.Ytbdmmeoelagdcaa
open Go.RowKit

theorem own_frame {w w' : World} {base e size n : Nat} {v : Value} {xs : List Value} {hs : List Hdr} (h : w.ownsRow base e size v n xs) (hf : ∀ j, j < w.heap.size → (∀ h' ∈ hs, h'.1 ≠ j) → w'.heap[j]? = w.heap[j]?) (hne : ∀ k, v.ownBlock = some k → ∀ h' ∈ hs, h'.1 ≠ k) : w'.ownsRow base e size v n xs := by
  refine ⟨h.1, ?_⟩
  rcases h.2 with h1 | ⟨g, cap, cur, hv, hb, hg, rest⟩
  · exact .inl h1
  · exact .inr ⟨g, cap, cur, hv, hb, (hf g (Array.getElem?_eq_some_iff.1 hg).1 (hne g (by rw [hv]; rfl))).trans hg, rest⟩
theorem cell_frame {w w' : World} {b : Nat} {v : Value} {hs : List Hdr} (h : w.cell? ⟨b, 0, none⟩ = some v) (hf : ∀ j, j < w.heap.size → (∀ h' ∈ hs, h'.1 ≠ j) → w'.heap[j]? = w.heap[j]?) (hne : ∀ h' ∈ hs, h'.1 ≠ b) : w'.cell? ⟨b, 0, none⟩ = some v :=
  (World.cell?_of_block (w := w) (a := ⟨b, 0, none⟩) (hf b (World.block_lt_of_cell? _ _ h) hne)).trans h

set_option maxHeartbeats 8000000 in
set_option maxRecDepth 100000 in
theorem lawFillPattern (F0 : ByteArray → List (List Int) → List Int × Int) (hS : Hid (GivesFill 37 F0)) (hI : Hid (GivesFill 39 F0)) (hF : ∀ p zss, (F0 p zss).1.length ≤ 48)
    (p : ByteArray) (A : Option Addr) (zss : List (List Int)) (n c : Nat) (w : World) (hn : Hid (zss.length = n)) (hn' : n ≤ 9223372036854775807) (h : Hid (TreesL w A zss)) :
    Calls Try.prog 7 #[.string p, .slice A n c] w fun e w' => e = .returned (.bool true) ∧ Below w.heap.size w w' := by
  by_cases hps : p.size ≤ 1048576
  case neg =>
    have hp1 : (1048576 : Int) < (p.size : Int) := by omega
    go_enter Try.func7, Try.ntmps7
    go_wp2
    go_ret
    exact ⟨rfl, b0 w⟩
  have hp1 : ¬ (1048576 : Int) < (p.size : Int) := by omega
  have HSz := Lib.hid (szTreeS A zss n c w hn hn' h)
  go_enter Try.func7, Try.ntmps7
  go_wp2_with fail
  refine HSz.out.mono ?_
  rintro e w1 ⟨r0, rfl, hp, hm, hb⟩
  have B := Lib.hid hb
  clear hb HSz
  by_cases hr0 : r0 < 0
  · obtain rfl := hm hr0
    clear hp hm hr0
    go_wp2
    go_ret
    exact ⟨rfl, B.out⟩
  · obtain ⟨hsum, _⟩ := hp (by omega)
    clear hp hm
    have hn1 : n ≤ 1048576 := by omega
    have hT : Hid (M.tot zss ≤ 2000000000) := (show _ ≤ _ by omega)
    have hz1 : Hid (∀ zs ∈ zss, zs.length ≤ 1048576) := fun zs hz => by have := M.tot_mem hz; omega
    have hz2 : Hid (∀ zs ∈ zss, zs.length ≤ 1000000000000) := fun zs hz => by have := M.tot_mem hz; omega
    have HS : Hid (∀ A' W, Hid (TreesC W A' zss) → Calls Try.prog 37 #[.string p, .slice A' n n] W fun e w' => ∃ A' c', e = .returned (.tuple #[.agg #[.slice A' (F0 p zss).1.length c'], .int .i64 (F0 p zss).2]) ∧ Own64 w' W.heap.size (.slice A' (F0 p zss).1.length c') (F0 p zss).1 ∧ Below W.heap.size W w') := fun A' W h' => hS.out p A' zss n n W hn hn1 (Nat.le_refl _) (by omega) hps hz1 h'
    have HI : Hid (∀ A' W, Hid (TreesC W A' zss) → Calls Try.prog 39 #[.string p, .slice A' n n] W fun e w' => ∃ A' c', e = .returned (.tuple #[.agg #[.slice A' (F0 p zss).1.length c'], .int .i64 (F0 p zss).2]) ∧ Own64 w' W.heap.size (.slice A' (F0 p zss).1.length c') (F0 p zss).1 ∧ Below W.heap.size W w') := fun A' W h' => hI.out p A' zss n n W hn hn1 (Nat.le_refl _) (by omega) hps hz1 h'
    have HT : Hid (∀ W, Hid (Below w.heap.size w W) → Calls Try.prog 38 #[.slice A n c] W fun e w' => ∃ g hs, e = .returned (.slice (some ⟨g, 0, none⟩) n n) ∧ Woods w' W.heap.size (.slice (some ⟨g, 0, none⟩) n n) hs zss ∧ Below W.heap.size W w') := fun W hW => toTreeS A zss n c W hn hn1 hz2 (h.out.be hW.out)
    have hf := hF p zss
    obtain ⟨t, ht⟩ : ∃ t, Hid (M.tot zss = t) := ⟨_, rfl⟩
    rw [ht.out] at hsum
    clear hS hI hF h hn'
    generalize F0 p zss = R at *
    obtain ⟨Z, r⟩ := R
    simp only at HS HI hf
    have hfz : Z.length ≤ 1000000000000000 := by omega
    go_wp2_with fail
    refine (HT.out _ B).mono ?_
    rintro e w2 ⟨g2, hs2, rfl, ow2, hb⟩
    replace B := Lib.hid (btr B.out hb)
    have Ow2 := Lib.hid ow2.treesC
    clear hb ow2
    go_wp2_with fail
    refine (HS.out _ _ Ow2).mono ?_
    rintro e w3 ⟨Aw, cw, rfl, ow, hb⟩
    have z03 : w.heap.size ≤ w3.heap.size := (btr B.out hb).size
    have Pw : Hid (∀ k, (Value.slice Aw Z.length cw).ownBlock = some k → k < w3.heap.size) := fun k e => (World.ownsRow.lt ow k e).2
    replace B := Lib.hid (bal (btr B.out hb) (.cells #[.slice Aw Z.length cw] 29))
    have Ow := Lib.hid (ow.alloc (.cells #[.slice Aw Z.length cw] 29))
    have cW := Lib.hid (Boxed.new w3 29 (.slice Aw Z.length cw)).cell
    clear hb ow Ow2 HS
    go_wp2_with fail
    -- x0
    refine (HT.out _ B).mono ?_
    rintro e w4 ⟨gx, hsx, rfl, ox, hb⟩
    have Hx : Hid (∀ h' ∈ hsx, w3.heap.size < h'.1 ∧ h'.1 < w4.heap.size) := fun h' hh => by have := ox.lt hh; simp only [World.size_alloc] at this; omega
    replace B := Lib.hid (btr B.out hb)
    replace cW := Lib.hid (cell_be cW.out hb)
    replace Ow := Lib.hid (own_be Ow.out hb)
    have Ox := Lib.hid (ox.mono (B' := w.heap.size) (by simp only [World.size_alloc]; omega))
    have z34 := hb.size
    simp only [World.size_alloc] at z34
    clear hb ox
    go_wp2_with fail
    -- g0
    refine (HI.out _ _ (Lib.hid Ox.out.treesC)).mono ?_
    rintro e w5 ⟨Ag, cg, rfl, og, hb⟩
    have z45 := hb.size
    have Gx : Hid (∀ k, (Value.slice Ag Z.length cg).ownBlock = some k → w4.heap.size ≤ k ∧ k < w5.heap.size) := fun k hk => World.ownsRow.lt og k hk
    replace B := Lib.hid (bal (btr B.out hb) (.cells #[.slice Ag Z.length cg] 29))
    replace cW := Lib.hid (cell_al (cell_be cW.out hb) (.cells #[.slice Ag Z.length cg] 29))
    replace Ow := Lib.hid ((own_be Ow.out hb).alloc (.cells #[.slice Ag Z.length cg] 29))
    replace Ox := Lib.hid ((Ox.out.be hb).alloc (.cells #[.slice Ag Z.length cg] 29))
    have Og := Lib.hid (og.alloc (.cells #[.slice Ag Z.length cg] 29))
    have cG := Lib.hid (Boxed.new w5 29 (.slice Ag Z.length cg)).cell
    have cW' := cW.out
    clear hb og
    go_wp2_with fail
    refine (eqTreeT _ _ Z _ _ _ hfz (ints_of_own64 Og.out) (ints_of_own64 Ow.out)).mono ?_
    rintro e w6 ⟨rfl, hb⟩
    have z56 := hb.size
    simp only [World.size_alloc] at z56
    replace B := Lib.hid (btr B.out hb)
    replace cW := Lib.hid (cell_be cW.out hb)
    replace cG := Lib.hid (cell_be cG.out hb)
    replace Ow := Lib.hid (own_be Ow.out hb)
    replace Ox := Lib.hid (Ox.out.be hb)
    replace Og := Lib.hid (own_be Og.out hb)
    clear hb cW'
    go_wp2_with fail
    -- x0 is as it was
    refine (HT.out _ B).mono ?_
    rintro e w7 ⟨gy, hsy, rfl, oy, hb⟩
    have z67 := hb.size
    replace B := Lib.hid (btr B.out hb)
    replace cW := Lib.hid (cell_be cW.out hb)
    replace cG := Lib.hid (cell_be cG.out hb)
    replace Ow := Lib.hid (own_be Ow.out hb)
    replace Ox := Lib.hid (Ox.out.be hb)
    replace Og := Lib.hid (own_be Og.out hb)
    have Oy := Lib.hid oy.trees
    clear hb oy
    go_wp2_with fail
    refine (eqTreeS _ _ zss n n n _ hn (by omega) hz2 Ox.out.trees Oy).mono ?_
    rintro e w8 ⟨rfl, hb⟩
    have z78 := hb.size
    replace B := Lib.hid (btr B.out hb)
    replace cW := Lib.hid (cell_be cW.out hb)
    replace cG := Lib.hid (cell_be cG.out hb)
    replace Ow := Lib.hid (own_be Ow.out hb)
    replace Ox := Lib.hid (Ox.out.be hb)
    replace Og := Lib.hid (own_be Og.out hb)
    clear hb Oy
    go_wp2_with fail
    -- the argument is marked
    have zB := B.out.size
    refine (markTreeS _ n n hsx zss 1 w.heap.size w8 hn (by omega) hT (by omega) (by omega) zB Ox).mono ?_
    rintro e w9 ⟨he, _, hb, hfr⟩
    rw [ht.out] at he
    subst he
    have z89 := hb.size
    replace B := Lib.hid (B.out.trans hb)
    replace cW := Lib.hid (cell_frame cW.out hfr (fun h' hh e => by have := Hx.out h' hh; omega))
    replace cG := Lib.hid (cell_frame cG.out hfr (fun h' hh e => by have := Hx.out h' hh; omega))
    replace Ow := Lib.hid (own_frame Ow.out hfr (fun k hk h' hh e => by have := Hx.out h' hh; have := Pw.out k hk; omega))
    replace Og := Lib.hid (own_frame Og.out hfr (fun k hk h' hh e => by have := Hx.out h' hh; have := Gx.out k hk; omega))
    have cW' := cW.out
    have cG' := cG.out
    have hkp : ¬ (1 : Int) + (t : Int) < 0 := by omega
    clear hb hfr Ox Hx
    go_wp2_with fail
    refine (eqTreeT _ _ Z _ _ _ hfz (ints_of_own64 Og.out) (ints_of_own64 Ow.out)).mono ?_
    rintro e w10 ⟨rfl, hb⟩
    have z910 := hb.size
    replace B := Lib.hid (btr B.out hb)
    replace cW := Lib.hid (cell_be cW.out hb)
    replace cG := Lib.hid (cell_be cG.out hb)
    replace Ow := Lib.hid (own_be Ow.out hb)
    replace Og := Lib.hid (own_be Og.out hb)
    have cG' := cG.out
    clear hb cW'
    -- the result is marked
    go_wp2_with fail
    refine (markTree _ _ cg Z 1 _ _ rfl (by omega) (by omega) (by omega) Og.out).mono ?_
    rintro e w11 ⟨rfl, og, hg⟩
    have z1011 := hg.size
    replace B := Lib.hid (below_grown B.out hg (fun k e => by have := Gx.out k e; omega))
    replace cW := Lib.hid (cell_grown cW.out hg (fun k e => by have := Gx.out k e; omega))
    replace cG := Lib.hid (cell_grown cG.out hg (fun k e => by have := Gx.out k e; omega))
    replace Ow := Lib.hid (Ow.out.kept hg (by
      cases hv : (Value.slice Aw Z.length cw).ownBlock with
      | none => exact .inl rfl
      | some k => exact .inr fun e => by have h1 := Pw.out k hv; have h2 := Gx.out k e.symm; omega))
    replace Og := Lib.hid (own_mono (base' := 0) og (Nat.zero_le _))
    have cG' := cG.out
    clear hg og Gx Pw
    go_wp2_with fail
    refine (heldTree _ _ cg 1 _ (by omega) (by omega) (by omega) (ints_of_own64 Og.out)).mono ?_
    rintro e w12 ⟨rfl, hb⟩
    replace B := Lib.hid (btr B.out hb)
    replace cW := Lib.hid (cell_be cW.out hb)
    replace cG := Lib.hid (cell_be cG.out hb)
    replace Ow := Lib.hid (own_be Ow.out hb)
    replace Og := Lib.hid (own_be Og.out hb)
    clear hb cG'
    go_wp2_with fail
    -- once more
    refine (HT.out _ B).mono ?_
    rintro e w13 ⟨gu, hsu, rfl, ou, hb⟩
    replace B := Lib.hid (btr B.out hb)
    replace cW := Lib.hid (cell_be cW.out hb)
    replace cG := Lib.hid (cell_be cG.out hb)
    replace Ow := Lib.hid (own_be Ow.out hb)
    replace Og := Lib.hid (own_be Og.out hb)
    have Ou := Lib.hid ou.treesC
    clear hb ou HT
    go_wp2_with fail
    refine (HI.out _ _ Ou).mono ?_
    rintro e w14 ⟨Ah, ch, rfl, oh, hb⟩
    replace B := Lib.hid (bal (btr B.out hb) (.cells #[.slice Ah Z.length ch] 29))
    replace cW := Lib.hid (cell_al (cell_be cW.out hb) (.cells #[.slice Ah Z.length ch] 29))
    replace cG := Lib.hid (cell_al (cell_be cG.out hb) (.cells #[.slice Ah Z.length ch] 29))
    replace Ow := Lib.hid ((own_be Ow.out hb).alloc (.cells #[.slice Ah Z.length ch] 29))
    replace Og := Lib.hid ((own_be Og.out hb).alloc (.cells #[.slice Ah Z.length ch] 29))
    have Oh := Lib.hid (oh.alloc (.cells #[.slice Ah Z.length ch] 29))
    have cW' := cW.out
    clear hb oh Ou HI
    go_wp2_with fail
    refine (eqTreeT _ _ Z _ _ _ hfz (ints_of_own64 Oh.out) (ints_of_own64 Ow.out)).mono ?_
    rintro e w15 ⟨rfl, hb⟩
    replace B := Lib.hid (btr B.out hb)
    replace cG := Lib.hid (cell_be cG.out hb)
    replace Og := Lib.hid (own_be Og.out hb)
    have cG' := cG.out
    clear hb cW cW' Ow Oh
    go_wp2_with fail
    refine (heldTree _ _ cg 1 _ (by omega) (by omega) (by omega) (ints_of_own64 Og.out)).mono ?_
    rintro e w16 ⟨rfl, hb⟩
    replace B := Lib.hid (btr B.out hb)
    clear hb cG cG' Og
    go_wp2
    go_ret
    exact ⟨rfl, B.out⟩
end Go.Proofs.Ytbdmmeoelagdcaa

/- What every row of this seat asks of the whole program, once: three facts on how the cut was made (each takes the kernel near a minute and 9 GB). -/
namespace Go.Proofs.Ytbdmmeoelagdcaa

set_option maxHeartbeats 4000000 in
theorem shut_mayEnter : Try.pinned.checked.prog.mayEnter = true := by kernel_rfl
set_option maxHeartbeats 4000000 in
theorem shut_lifts : (false == Try.pinned.checked.prog.liftsFinal) = true := by kernel_rfl
set_option maxHeartbeats 4000000 in
theorem shut_make : (Try.pinned.checked.prog.make == some .cut) = true := by kernel_rfl
end Go.Proofs.Ytbdmmeoelagdcaa
