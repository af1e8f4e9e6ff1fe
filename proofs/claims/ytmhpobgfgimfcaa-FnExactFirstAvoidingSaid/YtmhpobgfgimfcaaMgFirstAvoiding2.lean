/- Next trees, their mathematics: the last node that can take one child more takes it; the rank goes up by one. No program is named here. -/
import Derived.Test.YtmhpobgfgimfcaaMgFirstAvoiding1
import Derived.RangeFuncBox
import Derived.Deep.AppendLies
import Derived.Deep.RegionLaw
import Derived.Lib.Strings
import Derived.Shelf.Small.Strs
import Derived.Shelf.Strings.BuilderK
import Derived.Shelf.Strings.Count
import Derived.Shelf.LaysM
import Derived.Shelf.Strings.Prefix
import Derived.Test.YtmhpobgfgimfcaaProg
import Derived.Scope
import Derived.ScopeJumps
namespace Go.Proofs.Ytmhpobgfgimfcaa.M
/-- the rank of a list of o trees -/
def rk : Nat → List Int → Nat
  | _, [] => 0
  | o, d :: r => sumTo (fun x => L r.length (o - 1 + x)) d.toNat + rk (o - 1 + d.toNat) r
theorem go_long {o : Nat} {ds : List Int} (h : isGo (o : Int) ds = true) : o ≤ ds.length := by
  rcases Nat.lt_or_ge ds.length o with h1 | h1
  · rw [isGo_big ds o (by omega)] at h; cases h
  · exact h1
theorem go_cons {o : Nat} {d : Int} {r : List Int} (h : isGo (o : Int) (d :: r) = true) : ∃ (p e : Nat), o = p + 1 ∧ d = (e : Int) ∧ e ≤ 24 ∧ isGo ((p + e : Nat) : Int) r = true ∧ p + e ≤ r.length := by
  simp only [isGo] at h
  split at h
  · cases h
  · rename_i hc
    simp at hc
    have e1 : (o : Int) - 1 + d = ((o - 1 + d.toNat : Nat) : Int) := by omega
    rw [e1] at h
    exact ⟨o - 1, d.toNat, by omega, by omega, by omega, h, go_long h⟩
theorem rk_cons (p e : Nat) (r : List Int) : rk (p + 1) ((e : Int) :: r) = sumTo (fun x => L r.length (p + x)) e + rk (p + e) r := by simp [rk]
theorem rk_lt : ∀ (ds : List Int) (o : Nat), isGo (o : Int) ds = true → rk o ds < L ds.length o := by
  intro ds
  induction ds with
  | nil => intro o h; have := go_long h; obtain rfl : o = 0 := by simpa using this
           simp [rk, L]
  | cons d r ih =>
    intro o h
    obtain ⟨p, e, rfl, rfl, _, h2, h3⟩ := go_cons h
    have h4 := ih _ h2
    have h5 := sumTo_le (f := fun x => L r.length (p + x)) (j := e + 1) (k := r.length - p + 1) (by omega)
    rw [rk_cons, List.length_cons, dig_total (by omega)]
    simp only [sumTo] at h5 ⊢
    omega
theorem dig_at {l p d R R' : Nat} (hd : d ≤ 24) (hR : sumTo (fun x => L l (p + x)) d + R' = R) (hR' : R' < L l (p + d)) : digGo l p 30 R 0 = (d, R') := by
  have h : ∀ j, j ≤ d → ∃ r, DigAt l p R j r := by
    intro j
    induction j with
    | zero => intro _; exact ⟨R, dig_start l p R⟩
    | succ j ih =>
      intro hj
      obtain ⟨r, hr⟩ := ih (by omega)
      have h1 := sumTo_le (f := fun x => L l (p + x)) (j := j + 1) (k := d) (by omega)
      have h2 := hr.2
      refine ⟨_, dig_step (by omega) hr ?_⟩
      simp only [sumTo] at h1
      omega
  obtain ⟨r, hr⟩ := h d (Nat.le_refl _)
  obtain rfl : r = R' := by have := hr.2; omega
  exact dig_stop (by omega) hr hR'
theorem unrank_rk : ∀ (ds : List Int) (o : Nat), isGo (o : Int) ds = true → unrank ds.length o (rk o ds) = ds := by
  intro ds
  induction ds with
  | nil => intro o _; rfl
  | cons d r ih =>
    intro o h
    obtain ⟨p, e, rfl, rfl, h1, h2, _⟩ := go_cons h
    rw [List.length_cons, unrank, Nat.add_sub_cancel, dig_at (d := e) (R' := rk (p + e) r) h1 (rk_cons p e r).symm (rk_lt r _ h2), ih _ h2]
theorem firstL_zero {m t : Nat} (h : 2 ≤ t) : firstL (m + 1) t = 0 :: firstL m (t - 1) := by
  apply List.ext_getElem?
  intro j
  cases j with
  | zero => simp [firstL, firstTo]; omega
  | succ j =>
    rw [List.getElem?_cons_succ]
    simp only [firstL, firstTo, List.getElem?_map]
    by_cases hj : j < m
    · rw [List.getElem?_range hj, List.getElem?_range (by omega)]
      simp only [Option.map_some]
      congr 1
      by_cases h3 : t ≤ j + 1 + 1 ∧ j + 1 < m + 1 - 1
      · rw [if_pos h3, if_pos (by omega)]
      · rw [if_neg h3, if_neg (by omega)]
    · rw [List.getElem?_eq_none (by simp; omega), List.getElem?_eq_none (by simp; omega)]
      rfl
theorem firstL_path {m : Nat} (h : 1 ≤ m) : firstL (m + 1) 1 = 1 :: firstL m 1 := by
  apply List.ext_getElem?
  intro j
  cases j with
  | zero => simp [firstL, firstTo]; omega
  | succ j =>
    rw [List.getElem?_cons_succ]
    simp only [firstL, firstTo, List.getElem?_map]
    by_cases hj : j < m
    · rw [List.getElem?_range hj, List.getElem?_range (by omega)]
      simp only [Option.map_some]
      congr 1
      by_cases h3 : 1 ≤ j + 1 + 1 ∧ j + 1 < m + 1 - 1
      · rw [if_pos h3, if_pos (by omega)]
      · rw [if_neg h3, if_neg (by omega)]
    · rw [List.getElem?_eq_none (by simp; omega), List.getElem?_eq_none (by simp; omega)]
      rfl
theorem firstL_last : firstL 1 1 = [0] := by decide
theorem firstL_go : ∀ (m t : Nat), 1 ≤ t → t ≤ m → isGo (t : Int) (firstL m t) = true ∧ rk t (firstL m t) = 0 := by
  intro m
  induction m with
  | zero => intro t h1 h2; omega
  | succ m ih =>
    intro t h1 h2
    rcases Nat.lt_or_ge t 2 with h3 | h3
    · obtain rfl : t = 1 := by omega
      rcases Nat.eq_zero_or_pos m with h4 | h4
      · subst h4; rw [firstL_last]; decide
      · obtain ⟨i1, i2⟩ := ih 1 (by omega) (by omega)
        rw [firstL_path h4]
        refine ⟨?_, ?_⟩
        · rw [isGo, if_neg (by decide)]; exact i1
        · have := rk_cons 0 1 (firstL m 1)
          simp only [Nat.zero_add] at this
          rw [show (1 : Int) = ((1 : Nat) : Int) from rfl, this, i2, firstL_len]
          simp only [sumTo]
          rw [L_base (.inr (by omega)), if_neg (by omega)]
    · obtain ⟨i1, i2⟩ := ih (t - 1) (by omega) (by omega)
      rw [firstL_zero h3]
      refine ⟨?_, ?_⟩
      · rw [isGo, if_neg (by simp; omega), show (t : Int) - 1 + 0 = ((t - 1 : Nat) : Int) by omega]; exact i1
      · have := rk_cons (t - 1) 0 (firstL m (t - 1))
        rw [show t - 1 + 1 = t by omega] at this
        rw [show (0 : Int) = ((0 : Nat) : Int) from rfl, this, Nat.add_zero, i2]
        simp [sumTo]
/-- the next list of o trees -/
def nextF : Nat → List Int → Option (List Int)
  | _, [] => none
  | o, d :: r => match nextF (o - 1 + d.toNat) r with
    | some r' => some (d :: r')
    | none => if o - 1 + d.toNat < r.length then some ((d + 1) :: firstL r.length (o - 1 + d.toNat + 1)) else none
theorem next_rk : ∀ (ds : List Int) (o : Nat), ds.length ≤ 24 → isGo (o : Int) ds = true →
    match nextF o ds with
    | some ys => isGo (o : Int) ys = true ∧ ys.length = ds.length ∧ rk o ys = rk o ds + 1
    | none => rk o ds + 1 = L ds.length o := by
  intro ds
  induction ds with
  | nil => intro o _ h; have := go_long h; obtain rfl : o = 0 := by simpa using this
           simp [nextF, rk, L]
  | cons d r ih =>
    intro o hl h
    obtain ⟨p, e, rfl, rfl, h1, h2, h3⟩ := go_cons h
    have hi := ih _ (by simp only [List.length_cons] at hl; omega) h2
    have hcl : (r.length : Int) + 1 ≤ 24 := by simp only [List.length_cons] at hl; omega
    simp only [nextF, Int.toNat_natCast, Nat.add_sub_cancel]
    cases hn : nextF (p + e) r with
    | some r' =>
      rw [hn] at hi
      obtain ⟨i1, i2, i3⟩ := hi
      refine ⟨?_, by simp [i2], ?_⟩
      · rw [isGo, if_neg (by simp; omega), show ((p + 1 : Nat) : Int) - 1 + (e : Int) = ((p + e : Nat) : Int) by omega]; exact i1
      · rw [rk_cons, rk_cons, i2, i3]; omega
    | none =>
      rw [hn] at hi
      simp only at hi ⊢
      by_cases hlt : p + e < r.length
      · rw [if_pos hlt]
        obtain ⟨f1, f2⟩ := firstL_go r.length (p + e + 1) (by omega) (by omega)
        refine ⟨?_, by simp [firstL_len], ?_⟩
        · rw [isGo, if_neg (by simp; omega), show ((p + 1 : Nat) : Int) - 1 + ((e : Int) + 1) = ((p + e + 1 : Nat) : Int) by omega]; exact f1
        · rw [show (e : Int) + 1 = ((e + 1 : Nat) : Int) by omega, rk_cons, rk_cons, firstL_len, show p + (e + 1) = p + e + 1 by omega, f2]
          simp only [sumTo]
          omega
      · rw [if_neg hlt]
        show _ = L (r.length + 1) (p + 1)
        rw [dig_total (by omega), rk_cons, show r.length - p + 1 = e + 1 by omega]
        simp only [sumTo]
        omega
theorem rankTo_rk {xs : List Int} (ht : isTree xs = true) : ∀ v, v ≤ xs.length → rankTo xs v + rk (dueN xs v) (xs.drop v) = rk 1 xs := by
  intro v
  induction v with
  | zero => intro _; simp [rankTo, dueN_zero]
  | succ v ih =>
    intro hv
    obtain ⟨d, hd, _⟩ := tree_degN ht (v := v) (by omega)
    have h1 := ih (by omega)
    have h2 := dueN_pos ht (v := v) (by omega)
    rw [drop_at hd, show dueN xs v = (dueN xs v - 1) + 1 by omega, rk_cons] at h1
    rw [rankTo_at hd, dueN_succ ht hd]
    have e1 : (xs.drop (v + 1)).length = xs.length - v - 1 := by simp; omega
    rw [e1] at h1
    simp only [inR]
    omega
theorem rank_rk {xs : List Int} (ht : isTree xs = true) : rankTo xs xs.length = rk 1 xs := by
  have := rankTo_rk ht xs.length (Nat.le_refl _)
  rw [List.drop_length] at this
  simpa [rk] using this
/-- the next tree, or nothing -/
theorem next_un {xs : List Int} (ht : isTree xs = true) : unTree xs.length (rankTo xs xs.length + 1) = (nextF 1 xs).getD [] ∧ decide (rankTo xs xs.length + 1 < L xs.length 1) = (nextF 1 xs).isSome := by
  have h := next_rk xs 1 (tree_len ht).2 (tree_go ht)
  rw [rank_rk ht, unTree]
  cases hn : nextF 1 xs with
  | some ys =>
    rw [hn] at h
    obtain ⟨h1, h2, h3⟩ := h
    have h4 := rk_lt ys 1 h1
    have h5 := unrank_rk ys 1 h1
    rw [h2] at h4 h5
    rw [← h3, if_pos h4]
    exact ⟨h5, by simpa using h4⟩
  | none =>
    rw [hn] at h
    simp only at h
    rw [if_neg (by omega)]
    exact ⟨rfl, by simp; omega⟩
theorem next_tree {xs ys : List Int} (ht : isTree xs = true) (h : nextF 1 xs = some ys) : isTree ys = true ∧ ys.length = xs.length := by
  have h1 := next_rk xs 1 (tree_len ht).2 (tree_go ht)
  rw [h] at h1
  have h2 := tree_len ht
  refine ⟨?_, h1.2.1⟩
  rw [isTree_is (by omega) (by omega)]
  exact h1.1
/-- the way back over the nodes: those from v on can't take one child more -/
theorem next_end {xs : List Int} : nextF (dueN xs xs.length) (xs.drop xs.length) = none := by rw [List.drop_length]; rfl
theorem next_miss {xs : List Int} (ht : isTree xs = true) {v d : Nat} (hd : xs[v]? = some (d : Int)) (h : nextF (dueN xs (v + 1)) (xs.drop (v + 1)) = none) (hm : ¬ dueN xs (v + 1) < xs.length - 1 - v) : nextF (dueN xs v) (xs.drop v) = none := by
  rw [dueN_succ ht hd] at h hm
  rw [drop_at hd, nextF, Int.toNat_natCast, h]
  simp only
  rw [if_neg (by simp; omega)]
theorem next_pre {xs : List Int} (ht : isTree xs = true) : ∀ (v : Nat) (ys : List Int), v ≤ xs.length → nextF (dueN xs v) (xs.drop v) = some ys → nextF 1 xs = some (xs.take v ++ ys) := by
  intro v
  induction v with
  | zero => intro ys _ h; rw [dueN_zero] at h; simpa using h
  | succ v ih =>
    intro ys hv h
    obtain ⟨d, hd, _⟩ := tree_degN ht (v := v) (by omega)
    rw [dueN_succ ht hd] at h
    have h1 := ih ((d : Int) :: ys) (by omega) (by rw [drop_at hd, nextF, Int.toNat_natCast, h])
    rw [h1, List.take_add_one, hd]
    simp
theorem next_hit {xs : List Int} (ht : isTree xs = true) {v d : Nat} (hd : xs[v]? = some (d : Int)) (h : nextF (dueN xs (v + 1)) (xs.drop (v + 1)) = none) (hm : dueN xs (v + 1) < xs.length - 1 - v) : nextF 1 xs = some (xs.take v ++ [((d : Int) + 1)] ++ firstL (xs.length - 1 - v) (dueN xs (v + 1) + 1)) := by
  have hv := (List.getElem?_eq_some_iff.1 hd).1
  rw [List.append_assoc]
  refine next_pre ht v _ (by omega) ?_
  rw [dueN_succ ht hd] at h hm ⊢
  rw [drop_at hd, nextF, Int.toNat_natCast, h]
  simp only
  have e1 : (xs.drop (v + 1)).length = xs.length - 1 - v := by simp; omega
  rw [e1, if_pos hm]
  rfl
theorem due_end_N {xs : List Int} (ht : isTree xs = true) : dueN xs xs.length = 0 := by simp [dueN, due_end ht]
end Go.Proofs.Ytmhpobgfgimfcaa.M

/- All trees of so many nodes, in order, as a search over the next degree finds them: the mathematics. -/
namespace Go.Proofs.Ytmhpobgfgimfcaa.M
/-- the ends of degrees with l nodes left and o due, in order -/
def suff (l o : Nat) : List (List Int) := (List.range (L l o)).map fun r => unrank l o r
/-- those of them that begin with a degree below k -/
def suffTo (l p k : Nat) : List (List Int) := (List.range (sumTo (fun x => L l (p + x)) k)).map fun r => unrank (l + 1) (p + 1) r
theorem suffTo_zero (l p : Nat) : suffTo l p 0 = [] := by simp [suffTo, sumTo]
theorem suffTo_succ {l p k : Nat} (hk : k ≤ 24) : suffTo l p (k + 1) = suffTo l p k ++ (suff l (p + k)).map ((k : Int) :: ·) := by
  rw [suffTo, suffTo, suff]
  show ((List.range (sumTo (fun x => L l (p + x)) k + L l (p + k))).map _) = _
  rw [List.range_add, List.map_append, List.map_map, List.map_map]
  congr 1
  refine List.map_congr_left fun r hr => ?_
  have hr := List.mem_range.1 hr
  show unrank (l + 1) (p + 1) (sumTo (fun x => L l (p + x)) k + r) = (k : Int) :: unrank l (p + k) r
  rw [unrank]
  simp only [Nat.add_sub_cancel]
  rw [dig_at (l := l) (p := p) (d := k) (R' := r) hk rfl hr]
theorem suffTo_end {l p : Nat} (h : p ≤ l) : suffTo l p (l - p + 1) = suff (l + 1) (p + 1) := by rw [suffTo, suff, dig_total h]
theorem suff_zero : suff 0 0 = [[]] := by decide
theorem suff_none (l : Nat) : suff (l + 1) 0 = [] := by rw [suff, L_base (.inr rfl), if_neg (by omega)]; rfl
theorem suff_len (l o : Nat) : (suff l o).length = L l o := by simp [suff]
theorem suff_each {l o : Nat} : ∀ zs ∈ suff l o, zs.length = l := fun zs h => by
  obtain ⟨r, _, rfl⟩ := List.mem_map.1 h
  exact unrank_len l o r
theorem suffTo_len (l p k : Nat) : (suffTo l p k).length = sumTo (fun x => L l (p + x)) k := by simp [suffTo]
end Go.Proofs.Ytmhpobgfgimfcaa.M

/- A box made ahead of a call holds behind it. -/
namespace Go.Proofs.Ytmhpobgfgimfcaa
open Go.RowKit

theorem boxNew {X w1 : World} {v : Value} {t : TypeId} (hb : Below (X.alloc (.cells #[v] t)).heap.size (X.alloc (.cells #[v] t)) w1) : Boxed w1 X.heap.size t v :=
  (hb.block X.heap.size (by simp)).trans (World.alloc_heap_new X _)
theorem boxNewD {X w1 : World} {v : Value} {t : TypeId} (hb : Below (X.drew.alloc (.cells #[v] t)).heap.size (X.drew.alloc (.cells #[v] t)) w1) : Boxed w1 X.heap.size t v := boxNew (X := X.drew) hb
theorem boxKeep {W w1 : World} {b : Nat} {v : Value} {t : TypeId} (h : Boxed W b t v) (hb : Below W.heap.size W w1) : Boxed w1 b t v := (hb.block b h.lt).trans h
end Go.Proofs.Ytmhpobgfgimfcaa

/- Lists of trees in memory: a slice whose elements are trees, each with a row of its own; append of one; what the laws' helpers do with them. -/
namespace Go.Proofs.Ytmhpobgfgimfcaa
open Go.RowKit

theorem infoTree : (Try.prog.info? 29).map (fun i => (i.zero, i.size, i.bytes)) = some (some (.agg #[.slice none 0 0]), 1, 24) := by kernel_rfl

/-- a row's header: its block, its length, its capacity -/
abbrev Hdr := Nat × Nat × Nat
abbrev hdr (h : Hdr) : Value := .slice (some ⟨h.1, 0, none⟩) h.2.1 h.2.2

/-- the slice v has the trees zss, with the headers hs; all lies from block B on, and no two share memory -/
structure Woods (w : World) (B : Nat) (v : Value) (hs : List Hdr) (zss : List (List Int)) : Prop where
  row : w.ownsRow B 29 1 v hs.length (hs.map hdr)
  len : hs.length = zss.length
  each : ∀ (k : Nat) (h : Hdr) (zs : List Int), hs[k]? = some h → zss[k]? = some zs → Own64 w B (hdr h) zs
  apart : ∀ (i j : Nat) (h h' : Hdr), hs[i]? = some h → hs[j]? = some h' → i ≠ j → h.1 ≠ h'.1

theorem Woods.at_ {w : World} {B : Nat} {v : Value} {hs : List Hdr} {zss : List (List Int)} (h : Woods w B v hs zss) {k : Nat} {zs : List Int} (hk : zss[k]? = some zs) : ∃ h', hs[k]? = some h' ∧ Own64 w B (hdr h') zs ∧ h'.2.1 = zs.length := by
  have hl : k < hs.length := by rw [h.len]; exact (List.getElem?_eq_some_iff.1 hk).1
  have h1 := List.getElem?_eq_getElem hl
  have h2 := h.each k _ zs h1 hk
  exact ⟨_, h1, h2, own64_len h2⟩
theorem Woods.lt {w : World} {B : Nat} {v : Value} {hs : List Hdr} {zss : List (List Int)} (h : Woods w B v hs zss) {h' : Hdr} (hh : h' ∈ hs) : B ≤ h'.1 ∧ h'.1 < w.heap.size := by
  obtain ⟨k, hk⟩ := List.getElem?_of_mem hh
  have hl : k < zss.length := by rw [← h.len]; exact (List.getElem?_eq_some_iff.1 hk).1
  exact World.ownsRow.lt (h.each k h' _ hk (List.getElem?_eq_getElem hl)) h'.1 rfl
theorem Woods.cell {w : World} {B g n c : Nat} {hs : List Hdr} {zss : List (List Int)} (h : Woods w B (.slice (some ⟨g, 0, none⟩) n c) hs zss) {k : Nat} {h' : Hdr} (hk : hs[k]? = some h') : w.cell? ⟨g, k, none⟩ = some (hdr h') := by
  have := h.row.cells (g := g) rfl k (hdr h') (by simp [hk])
  have ha : (⟨g, 0, none⟩ : Addr).add k = ⟨g, k, none⟩ := by unfold Addr.add; split <;> simp_all
  rw [ha] at this
  exact this
theorem Woods.shape {w : World} {B n c : Nat} {A : Option Addr} {hs : List Hdr} {zss : List (List Int)} (h : Woods w B (.slice A n c) hs zss) : n = zss.length ∧ (0 < n → ∃ g, A = some ⟨g, 0, none⟩) := by
  have hl := h.len
  rcases h.row.2 with ⟨e, h0⟩ | ⟨g, cap, cur, hv, _⟩
  · injection e with e1 e2 e3
    exact ⟨by omega, fun hn => by omega⟩
  · injection hv with e1 e2 e3
    exact ⟨by omega, fun _ => ⟨g, e1⟩⟩
/-- the slice's block is none of the rows': they hold other things -/
theorem Woods.off {w : World} {B : Nat} {v : Value} {hs : List Hdr} {zss : List (List Int)} (h : Woods w B v hs zss) {h' : Hdr} (hh : h' ∈ hs) : v.ownBlock ≠ some h'.1 := by
  intro e
  obtain ⟨k, hk⟩ := List.getElem?_of_mem hh
  have hl : k < zss.length := by rw [← h.len]; exact (List.getElem?_eq_some_iff.1 hk).1
  have h1 := h.each k h' _ hk (List.getElem?_eq_getElem hl)
  rcases h.row.2 with ⟨e0, _⟩ | ⟨g, cap, cur, hv, _, hg, _⟩
  · rw [e0] at e; cases e
  · rcases h1.2 with ⟨e0, _⟩ | ⟨g', cap', cur', hv', _, hg', _⟩
    · cases e0
    · injection hv' with e1
      injection e1 with e1
      injection e1 with e1
      rw [hv] at e
      have e2 : g = h'.1 := by injection e
      rw [e2, e1, hg'] at hg
      injection hg with hg
      injection hg with _ hg
      exact absurd hg (by decide)
theorem Woods.kept {w w' : World} {B : Nat} {v : Value} {hs : List Hdr} {zss : List (List Int)} {row : Option Nat} (h : Woods w B v hs zss) (hg : w.grownBy w' row) (h1 : ∀ k, row = some k → v.ownBlock ≠ some k ∧ ∀ h' ∈ hs, h'.1 ≠ k) : Woods w' B v hs zss := by
  refine ⟨h.row.kept hg ?_, h.len, fun k h' zs hk hz => (h.each k h' zs hk hz).kept hg (.inr fun e => ?_), h.apart⟩
  · cases hv : v.ownBlock with
    | none => exact .inl rfl
    | some k => exact .inr fun e => (h1 k e.symm).1 hv
  · exact (h1 h'.1 e.symm).2 h' (List.mem_of_getElem? hk) rfl
theorem Woods.be {w w' : World} {B : Nat} {v : Value} {hs : List Hdr} {zss : List (List Int)} (h : Woods w B v hs zss) (hb : Below w.heap.size w w') : Woods w' B v hs zss :=
  ⟨own_be h.row hb, h.len, fun k h' zs hk hz => own_be (h.each k h' zs hk hz) hb, h.apart⟩
theorem Woods.alloc {w : World} {B : Nat} {v : Value} {hs : List Hdr} {zss : List (List Int)} (h : Woods w B v hs zss) (o : Obj) : Woods (w.alloc o) B v hs zss := h.be (bal (b0 w) o)
theorem Woods.mono {w : World} {B B' : Nat} {v : Value} {hs : List Hdr} {zss : List (List Int)} (h : Woods w B v hs zss) (hB : B' ≤ B) : Woods w B' v hs zss :=
  ⟨own_mono h.row hB, h.len, fun k h' zs hk hz => own_mono (h.each k h' zs hk hz) hB, h.apart⟩
theorem woods_empty {w : World} {B : Nat} (hB : B ≤ w.heap.size) : Woods (w.alloc (.cells #[] 29)) B (.slice (some ⟨w.heap.size, 0, none⟩) 0 0) [] [] :=
  ⟨World.ownsRow_made (e := 29) (size := 1) w #[] 0 hB (by simp [maxLen]) (by simp), rfl, fun k h zs hk => by simp at hk, fun i j h h' hi => by simp at hi⟩
theorem woods_nil (w : World) (B : Nat) : Woods w B (.slice none 0 0) [] [] :=
  ⟨World.ownsRow_nil _ _ _ _, rfl, fun k h zs hk => by simp at hk, fun i j h h' hi => by simp at hi⟩
theorem woods_one {w : World} {B : Nat} {h : Hdr} {zs : List Int} (hB : B ≤ w.heap.size) (ho : Own64 w B (hdr h) zs) : Woods (w.alloc (.cells #[hdr h] 29)) B (.slice (some ⟨w.heap.size, 0, none⟩) 1 1) [h] [zs] := by
  refine ⟨World.ownsRow_lit (e := 29) (size := 1) w #[hdr h] 1 hB (by simp [maxLen]) (by simp), rfl, fun k h' zs' hk hz => ?_, fun i j h1 h2 hi hj hij => ?_⟩
  · have hk0 : k = 0 := by have := (List.getElem?_eq_some_iff.1 hk).1; simp at this; exact this
    subst hk0
    injection hk with hk
    injection hz with hz
    subst hk
    subst hz
    exact ho.alloc _
  · have h1 := (List.getElem?_eq_some_iff.1 hi).1
    have h2 := (List.getElem?_eq_some_iff.1 hj).1
    simp at h1 h2
    omega
/-- behind an append of one tree -/
theorem woods_pushed {w w1 : World} {B : Nat} {v v' : Value} {hs : List Hdr} {zss : List (List Int)} {h0 : Hdr} {zs : List Int} (h : Woods w B v hs zss) (ho : Own64 w B (hdr h0) zs) (hne : v.ownBlock ≠ some h0.1) (hfr : ∀ h' ∈ hs, h'.1 ≠ h0.1) {o : Obj}
    (hown : w1.ownsRow B 29 1 v' (hs.length + 1) (hs.map hdr ++ [hdr h0])) (hg : (w.alloc o).grownBy w1 v.ownBlock) : Woods w1 B v' (hs ++ [h0]) (zss ++ [zs]) := by
  have hk0 : ∀ (h' : Hdr) (ys : List Int), Own64 w B (hdr h') ys → v.ownBlock ≠ some h'.1 → Own64 w1 B (hdr h') ys := fun h' ys ho' hv => (ho'.alloc _).kept hg (.inr fun e => hv e.symm)
  refine ⟨by rw [List.length_append, List.map_append]; exact hown, by rw [List.length_append, List.length_append, h.len]; rfl, fun k h' ys hk hy => ?_, fun i j h1 h2 hi hj hij => ?_⟩
  · rcases Nat.lt_or_ge k hs.length with hl | hl
    · rw [List.getElem?_append_left hl] at hk
      rw [List.getElem?_append_left (by rw [← h.len]; exact hl)] at hy
      exact hk0 h' ys (h.each k h' ys hk hy) (h.off (List.mem_of_getElem? hk))
    · rw [List.getElem?_append_right hl] at hk
      rw [List.getElem?_append_right (by rw [← h.len]; exact hl)] at hy
      have e1 : k - hs.length = 0 := by have := (List.getElem?_eq_some_iff.1 hk).1; simp at this; omega
      rw [e1] at hk
      rw [← h.len, e1] at hy
      injection hk with hk
      injection hy with hy
      subst hk
      subst hy
      exact hk0 h0 zs ho hne
  · have hsel : ∀ (k : Nat) (h' : Hdr), (hs ++ [h0])[k]? = some h' → (k < hs.length ∧ hs[k]? = some h') ∨ (k = hs.length ∧ h' = h0) := fun k h' hk => by
      rcases Nat.lt_or_ge k hs.length with hl | hl
      · rw [List.getElem?_append_left hl] at hk; exact .inl ⟨hl, hk⟩
      · rw [List.getElem?_append_right hl] at hk
        have e1 : k - hs.length = 0 := by have := (List.getElem?_eq_some_iff.1 hk).1; simp at this; omega
        rw [e1] at hk
        injection hk with hk
        exact .inr ⟨by omega, hk.symm⟩
    rcases hsel i h1 hi with ⟨a1, a2⟩ | ⟨a1, a2⟩ <;> rcases hsel j h2 hj with ⟨b1, b2⟩ | ⟨b1, b2⟩
    · exact h.apart i j h1 h2 a2 b2 hij
    · rw [b2]; exact hfr h1 (List.mem_of_getElem? a2)
    · rw [a2]; exact fun e => hfr h2 (List.mem_of_getElem? b2) e.symm
    · omega

/-- the trees of a slice, to be read -/
def Trees (w : World) (A : Option Addr) (zss : List (List Int)) : Prop :=
  0 < zss.length → ∃ b, A = some ⟨b, 0, none⟩ ∧ b < w.heap.size ∧ ∀ (k : Nat) (zs : List Int), zss[k]? = some zs → ∃ A' c', w.cell? ⟨b, k, none⟩ = some (.slice A' zs.length c') ∧ Ints w w.heap.size A' zs
theorem Woods.trees {w : World} {B n c : Nat} {A : Option Addr} {hs : List Hdr} {zss : List (List Int)} (h : Woods w B (.slice A n c) hs zss) : Trees w A zss := fun hp => by
  obtain ⟨h1, h2⟩ := h.shape
  obtain ⟨g, rfl⟩ := h2 (by omega)
  refine ⟨g, rfl, (World.ownsRow.lt h.row g rfl).2, fun k zs hk => ?_⟩
  obtain ⟨h', hk', ho, hl⟩ := h.at_ hk
  have hc := h.cell hk'
  obtain ⟨g', m, c'⟩ := h'
  simp only at hl
  subst hl
  exact ⟨_, _, hc, ints_of_own64 ho⟩
theorem Trees.be {w w' : World} {A : Option Addr} {zss : List (List Int)} (h : Trees w A zss) (hb : Below w.heap.size w w') : Trees w' A zss := fun hp => by
  obtain ⟨b, rfl, hlt, hk⟩ := h hp
  refine ⟨b, rfl, Nat.lt_of_lt_of_le hlt hb.size, fun k zs hz => ?_⟩
  obtain ⟨A', c', h1, h2⟩ := hk k zs hz
  exact ⟨A', c', (hb.cell (p := ⟨b, k, none⟩) hlt).trans h1, h2.be hb⟩
end Go.Proofs.Ytmhpobgfgimfcaa

/- Lists of trees: append of one; equal, marked, held. -/
namespace Go.Proofs.Ytmhpobgfgimfcaa
open Go.RowKit

set_option maxRecDepth 100000 in
theorem pushTree {ops : Array Oper} {rest : List Oper} {o : Oper} {a : Act} {Q : Exit → Act → World → Prop} (hgd : o.guard = none) (s x : Operand)
    (ho : o.op = .call { callee := .builtin .append, args := #[s, x], argTypes := #[39, 39] }) (w : World) (B : Nat) (A : Option Addr) (n c : Nat) (hs : List Hdr) (zss : List (List Int)) (h0 : Hdr) (zs : List Int)
    (hs0 : a.eval s = .slice A n c) (hx : a.eval x = .slice (some ⟨w.heap.size, 0, none⟩) 1 1) (hW : Hid (Woods w B (.slice A n c) hs zss)) (hrow : Hid (Own64 w B (hdr h0) zs)) (hne : Hid ((Value.slice A n c).ownBlock ≠ some h0.1)) (hfr : Hid (∀ h' ∈ hs, h'.1 ≠ h0.1)) (hB : B ≤ w.heap.size) (hlen : n ≤ 1000000)
    (h : ∀ A' c' w', Hid (Woods w' B (.slice A' (n + 1) c') (hs ++ [h0]) (zss ++ [zs])) → Hid (Below B w w') → wpList Try.prog ops Q rest (a.put o.dst (.slice A' (n + 1) c')) w') :
    wpList Try.prog ops Q (o :: rest) a (w.alloc (.cells #[hdr h0] 29)) := by
  obtain ⟨i0, hi0, hz0, hz1, hz2⟩ := info_parts infoTree
  have hn : hs.length = n := by rw [hW.out.len]; exact hW.out.shape.1.symm
  refine wpList_append_own_at _ hgd s x 39 ho B 29 i0 (.agg #[.slice none 0 0]) 1 24 Try.underlying39 hi0 hz0 hz1 hz2 rfl (by decide) _ hs.length (hs.map hdr) hs0 (hW.out.row.alloc _) ⟨w.heap.size, 0, none⟩ 1 1 [hdr h0] hx rfl (cell_one_new _ _ _) ?_ ?_ ?_ ?_ ?_
  · intro u hu; simp at hu; subst hu; rfl
  · unfold maxLen; omega
  · omega
  · simp; omega
  · intro v' w1 hown1 hg1 _ _
    obtain ⟨A', c', rfl⟩ : ∃ A' c', v' = .slice A' (hs.length + 1) c' := own_shape hown1
    have hres := woods_pushed hW.out hrow.out hne.out hfr.out hown1 hg1
    rw [hn] at hres ⊢
    exact h A' c' w1 hres (((Below.refl B w).alloc hB _).grown hg1 (by simp; omega) (fun k hk => (World.ownsRow.lt hW.out.row k hk).1))

set_option maxRecDepth 100000 in
set_option maxHeartbeats 2000000 in
theorem eqTreeS (A A' : Option Addr) (zss : List (List Int)) (n c c' : Nat) (w : World) (hn : Hid (zss.length = n)) (hn' : n ≤ 1000000000000) (hz : Hid (∀ zs ∈ zss, zs.length ≤ 1000000000000)) (h : Hid (Trees w A zss)) (h' : Hid (Trees w A' zss)) :
    Calls Try.prog 31 #[.slice A n c, .slice A' n c'] w fun e w' => e = .returned (.bool true) ∧ Below w.heap.size w w' := by
  have hne : ((n : Int) != (n : Int)) = false := by simp
  go_enter Try.func31, Try.ntmps31
  go_wp2
  go_loopw [5] (fun i wr => ∃ k : Nat, k ≤ n ∧ i = .int .i64 (k : Int) ∧ Hid (Below w.heap.size w wr)) (fun i _ => n - (intOf i).toNat)
  case atStart => exact ⟨0, Nat.zero_le _, rfl, b0 w⟩
  case round =>
    obtain ⟨k, hk, rfl, hb⟩ := hrel
    clear hne
    by_cases hlt : k < n
    · have hki : (k : Int) < (n : Int) := by omega
      have hk0 : (0 : Int) ≤ (k : Int) := by omega
      have hkz : k < zss.length := by rw [hn.out]; exact hlt
      have hat : zss[k]? = some zss[k] := List.getElem?_eq_getElem hkz
      have hzk := hz.out _ (List.mem_of_getElem? hat)
      generalize zss[k] = zs at hat hzk
      obtain ⟨b, rfl, hbl, hc⟩ := h.out (by omega)
      obtain ⟨b', rfl, hbl', hc'⟩ := h'.out (by omega)
      obtain ⟨A1, c1, h1, h2⟩ := hc k zs hat
      obtain ⟨A2, c2, h3, h4⟩ := hc' k zs hat
      have HC : Hid (∀ W', Hid (Below w.heap.size w W') → W'.cell? ⟨b, k, none⟩ = some (.slice A1 zs.length c1) ∧ W'.cell? ⟨b', k, none⟩ = some (.slice A2 zs.length c2)) := fun W' hW' => ⟨(hW'.out.cell (p := ⟨b, k, none⟩) hbl).trans h1, (hW'.out.cell (p := ⟨b', k, none⟩) hbl').trans h3⟩
      have HE : Hid (∀ W', Hid (Below w.heap.size w W') → Calls Try.prog 22 #[.agg #[.slice A1 zs.length c1], .agg #[.slice A2 zs.length c2]] W' fun e w' => e = .returned (.bool true) ∧ Hid (Below w.heap.size w w')) := fun W' hW' =>
        (eqTreeT A1 A2 zs c1 c2 W' (by omega) (h2.be hW'.out) (h4.be hW'.out)).mono fun e w' ⟨he, hb'⟩ => ⟨he, btr hW'.out hb'⟩
      have K0 : Hid (Below w.heap.size w wr.drew) := hb.out.drew
      obtain ⟨d1, d2⟩ := HC.out _ K0
      obtain ⟨e1, e2⟩ := HC.out _ hb
      clear hat hc hc' h1 h2 h3 h4 hbl hbl' hkz
      go_wp2
      go_region_held3 (fun w' => w'.cell? ⟨b, k, none⟩ = some (.slice A1 zs.length c1) ∧ w'.cell? ⟨b', k, none⟩ = some (.slice A2 zs.length c2)) (first | exact ⟨d1, d2⟩ | exact HC.out _ (by assumption)) (first | (go_at_call 22; refine (HE.out _ K0).mono ?_; rintro e w7 ⟨rfl, hb7⟩))
      clear d1 d2 e1 e2 K0 HE HC hb
      go_wp2
      go_roundw
      case rel => exact ⟨k + 1, by omega, by go_num, hb7⟩
      case measure => simp [intOf]; omega
    · obtain rfl : k = n := by omega
      have hge : ¬ (k : Int) < (k : Int) := by omega
      go_wp2
      go_ret
      exact ⟨rfl, hb.out⟩

namespace M
def tot : List (List Int) → Nat
  | [] => 0
  | zs :: r => zs.length + tot r
theorem tot_snoc (l : List (List Int)) (zs : List Int) : tot (l ++ [zs]) = tot l + zs.length := by
  induction l with
  | nil => simp [tot]
  | cons x r ih => simp only [List.cons_append, tot, ih]; omega
theorem tot_take {zss : List (List Int)} {k : Nat} {zs : List Int} (h : zss[k]? = some zs) : tot (zss.take (k + 1)) = tot (zss.take k) + zs.length := by
  rw [List.take_add_one, h, Option.toList_some, tot_snoc]
theorem tot_le {zss : List (List Int)} {b : Nat} (h : ∀ zs ∈ zss, zs.length ≤ b) : tot zss ≤ b * zss.length := by
  induction zss with
  | nil => exact Nat.zero_le _
  | cons x r ih =>
    have h1 := h x (by simp)
    have h2 := ih fun z hz => h z (by simp [hz])
    simp only [tot, List.length_cons, Nat.mul_add, Nat.mul_one]
    omega
theorem tot_mem {zss : List (List Int)} {zs : List Int} (h : zs ∈ zss) : zs.length ≤ tot zss := by
  induction zss with
  | nil => cases h
  | cons x r ih =>
    simp only [tot]
    rcases List.mem_cons.1 h with rfl | h
    · omega
    · have := ih h; omega
theorem tot_take_le (zss : List (List Int)) : ∀ k, tot (zss.take k) ≤ tot zss := by
  induction zss with
  | nil => intro k; simp [tot]
  | cons x r ih =>
    intro k
    cases k with
    | zero => simp [tot]
    | succ k => simp only [List.take_succ_cons, tot]; have := ih k; omega
/-- the first k rows are marked -/
def partM (m : Int) (zss : List (List Int)) (k : Nat) : List (List Int) := (List.range zss.length).map fun j => if j < k then marks (m + (tot (zss.take j) : Int)) (zss[j]?.getD []).length else zss[j]?.getD []
theorem partM_len (m : Int) (zss : List (List Int)) (k : Nat) : (partM m zss k).length = zss.length := by simp [partM]
theorem partM_zero (m : Int) (zss : List (List Int)) : partM m zss 0 = zss := by
  apply List.ext_getElem?
  intro j
  simp only [partM, List.getElem?_map]
  by_cases hj : j < zss.length
  · rw [List.getElem?_range hj]; simp [List.getElem?_eq_getElem hj]
  · rw [List.getElem?_eq_none (by simp; omega), List.getElem?_eq_none (by omega)]; rfl
theorem partM_lo {m : Int} {zss : List (List Int)} {k j : Nat} {zs : List Int} (h : zss[j]? = some zs) (hj : j < k) : (partM m zss k)[j]? = some (marks (m + (tot (zss.take j) : Int)) zs.length) := by
  have hl := (List.getElem?_eq_some_iff.1 h).1
  simp only [partM, List.getElem?_map, List.getElem?_range hl, Option.map_some, if_pos hj, h, Option.getD_some]
theorem partM_hi {m : Int} {zss : List (List Int)} {k j : Nat} {zs : List Int} (h : zss[j]? = some zs) (hj : ¬ j < k) : (partM m zss k)[j]? = some zs := by
  have hl := (List.getElem?_eq_some_iff.1 h).1
  simp only [partM, List.getElem?_map, List.getElem?_range hl, Option.map_some, if_neg hj, h, Option.getD_some]
theorem partM_other {m : Int} {zss : List (List Int)} {k j : Nat} (hj : j ≠ k) : (partM m zss (k + 1))[j]? = (partM m zss k)[j]? := by
  by_cases hl : j < zss.length
  · have h := List.getElem?_eq_getElem hl
    by_cases hjk : j < k
    · rw [partM_lo h hjk, partM_lo h (by omega)]
    · rw [partM_hi h hjk, partM_hi h (by omega)]
  · rw [List.getElem?_eq_none (by rw [partM_len]; omega), List.getElem?_eq_none (by rw [partM_len]; omega)]
end M

/-- behind a write into one row -/
theorem Woods.set {w w' : World} {B : Nat} {v : Value} {hs : List Hdr} {zss zss' : List (List Int)} {k : Nat} {h' : Hdr} {ys : List Int} (h : Woods w B v hs zss) (hk : hs[k]? = some h') (hl : zss'.length = zss.length) (ho : ∀ j, j ≠ k → zss'[j]? = zss[j]?) (hy : zss'[k]? = some ys)
    (hown : Own64 w' B (hdr h') ys) (hg : w.grownBy w' (some h'.1)) : Woods w' B v hs zss' := by
  refine ⟨h.row.kept hg (.inr (h.off (List.mem_of_getElem? hk))), by rw [hl]; exact h.len, fun j h2 zs hj hz => ?_, h.apart⟩
  by_cases hjk : j = k
  · subst hjk
    rw [hk] at hj
    rw [hy] at hz
    injection hj with hj
    injection hz with hz
    subst hj
    subst hz
    exact hown
  · rw [ho j hjk] at hz
    exact (h.each j h2 zs hj hz).kept hg (.inr fun e => h.apart j k h2 h' hj hk hjk (by injection e))

set_option maxRecDepth 100000 in
set_option maxHeartbeats 2000000 in
theorem markTreeS (A : Option Addr) (n c : Nat) (hs : List Hdr) (zss : List (List Int)) (m : Int) (B : Nat) (w : World) (hn : Hid (zss.length = n)) (hn' : n ≤ 100000000) (hT : Hid (M.tot zss ≤ 2000000000)) (hm : 0 ≤ m) (hm' : m ≤ 100000000000) (hB : B ≤ w.heap.size) (hW : Hid (Woods w B (.slice A n c) hs zss)) :
    Calls Try.prog 32 #[.slice A n c, .int .i64 m] w fun e w' => e = .returned (.int .i64 (m + (M.tot zss : Int))) ∧ Woods w' B (.slice A n c) hs (M.partM m zss n) ∧ Below B w w' ∧ (∀ j, j < w.heap.size → (∀ h' ∈ hs, h'.1 ≠ j) → w'.heap[j]? = w.heap[j]?) := by
  go_enter Try.func32, Try.ntmps32
  go_wp2
  go_loopw [1, 5] (fun q i wr => ∃ k : Nat, k ≤ n ∧ i = .int .i64 (k : Int) ∧ q = .int .i64 (m + (M.tot (zss.take k) : Int)) ∧ Hid (Woods wr B (.slice A n c) hs (M.partM m zss k)) ∧ Hid (Below B w wr) ∧ Hid (∀ j, j < w.heap.size → (∀ h' ∈ hs, h'.1 ≠ j) → wr.heap[j]? = w.heap[j]?)) (fun _ i _ => n - (intOf i).toNat)
  case atStart => exact ⟨0, Nat.zero_le _, rfl, by simp [M.tot], by rw [M.partM_zero]; exact hW, Below.refl _ _, fun _ _ _ => rfl⟩
  case round =>
    obtain ⟨k, hk, rfl, rfl, hWk, hb, hfr⟩ := hrel
    clear hW
    by_cases hlt : k < n
    · have hki : (k : Int) < (n : Int) := by omega
      have hk0 : (0 : Int) ≤ (k : Int) := by omega
      have hkz : k < zss.length := by rw [hn.out]; exact hlt
      have hat : zss[k]? = some zss[k] := List.getElem?_eq_getElem hkz
      have hzk := M.tot_mem (List.mem_of_getElem? hat)
      have hT2 := hT.out
      generalize zss[k] = zs at hat hzk
      have htk := M.tot_take_le zss k
      have hts := Lib.hid (M.tot_take hat)
      obtain ⟨t, ht⟩ : ∃ t, Hid (M.tot (zss.take k) = t) := ⟨_, rfl⟩
      rw [ht.out] at hts htk ⊢
      obtain ⟨g, hA⟩ := hWk.out.shape.2 (by omega)
      subst hA
      obtain ⟨h', hk', ho, hl⟩ := hWk.out.at_ (M.partM_hi (m := m) hat (Nat.lt_irrefl k))
      have hcl := hWk.out.cell hk'
      obtain ⟨g', mm, c'⟩ := h'
      simp only at hl hcl
      subst hl
      have HM := Lib.hid (markInts (some ⟨g', 0, none⟩) zs.length c' zs (m + (t : Int)) B wr rfl (by omega) (by omega) (by omega) ho)
      have Hat := Lib.hid hat
      have Hk' := Lib.hid hk'
      have hzr := hb.out.size
      clear hat hk' ho hkz
      go_wp2_with fail
      refine HM.out.mono ?_
      rintro e w7 ⟨rfl, ho7, hg7⟩
      have hW7 : Hid (Woods w7 B (.slice (some ⟨g, 0, none⟩) n c) hs (M.partM m zss (k + 1))) := by
        refine hWk.out.set Hk'.out (by rw [M.partM_len, M.partM_len]) (fun j hj => M.partM_other hj) (M.partM_lo Hat.out (Nat.lt_succ_self k)) ?_ hg7
        rw [ht.out]
        exact ho7
      have hb7 : Hid (Below B w w7) := hb.out.grown hg7 (by omega) (fun j e => by
        have h1 := (hWk.out.lt (List.mem_of_getElem? Hk'.out)).1
        have h2 : g' = j := by injection e
        simp only at h1
        omega)
      have hfr7 : Hid (∀ j, j < w.heap.size → (∀ h' ∈ hs, h'.1 ≠ j) → w7.heap[j]? = w.heap[j]?) := fun j hj hh => (hg7.block j (Nat.lt_of_lt_of_le hj hzr) (fun e => by
        have h2 : j = g' := by injection e
        exact hh _ (List.mem_of_getElem? Hk'.out) h2.symm)).trans (hfr.out j hj hh)
      clear HM ho7 hg7 hWk hb hcl hfr
      go_wp2
      go_roundw
      case rel => exact ⟨k + 1, by omega, by go_num, by rw [hts.out]; go_num, hW7, hb7, hfr7⟩
      case measure => simp [intOf]; omega
    · obtain rfl : k = n := by omega
      have hge : ¬ (k : Int) < (k : Int) := by omega
      have htot : Hid (M.tot (zss.take k) = M.tot zss) := by show _ = _; rw [List.take_of_length_le (by rw [hn.out]; exact Nat.le_refl _)]
      rw [htot.out]
      go_wp2
      go_ret
      exact ⟨rfl, hWk.out, hb.out, fun j hj hh => hfr.out j hj (fun h' hh' => hh h'.1 h'.2.1 h'.2.2 hh')⟩

set_option maxRecDepth 100000 in
set_option maxHeartbeats 2000000 in
theorem heldTreeS (A : Option Addr) (n c : Nat) (zss : List (List Int)) (m : Int) (w : World) (hn : Hid (zss.length = n)) (hn' : n ≤ 100000) (hz : Hid (∀ zs ∈ zss, zs.length ≤ 100000)) (hm : 0 ≤ m) (hm' : m ≤ 100000000000) (h : Hid (Trees w A (M.partM m zss n))) :
    Calls Try.prog 33 #[.slice A n c, .int .i64 m] w fun e w' => e = .returned (.int .i64 (m + (M.tot zss : Int))) ∧ Below w.heap.size w w' := by
  go_enter Try.func33, Try.ntmps33
  go_wp2
  go_loopw [1, 5] (fun q i wr => ∃ k : Nat, k ≤ n ∧ i = .int .i64 (k : Int) ∧ q = .int .i64 (m + (M.tot (zss.take k) : Int)) ∧ Hid (Below w.heap.size w wr)) (fun _ i _ => n - (intOf i).toNat)
  case atStart => exact ⟨0, Nat.zero_le _, rfl, by simp [M.tot], b0 w⟩
  case round =>
    obtain ⟨k, hk, rfl, rfl, hb⟩ := hrel
    by_cases hlt : k < n
    · have hki : (k : Int) < (n : Int) := by omega
      have hk0 : (0 : Int) ≤ (k : Int) := by omega
      have hkz : k < zss.length := by rw [hn.out]; exact hlt
      have hat : zss[k]? = some zss[k] := List.getElem?_eq_getElem hkz
      have hzk := hz.out _ (List.mem_of_getElem? hat)
      generalize zss[k] = zs at hat hzk
      have htk := M.tot_le (zss := zss.take k) (b := 100000) (fun z hz' => hz.out z (List.mem_of_mem_take hz'))
      have hkl : (zss.take k).length = k := by rw [List.length_take]; omega
      rw [hkl] at htk
      have hts := Lib.hid (M.tot_take hat)
      obtain ⟨t, ht⟩ : ∃ t, Hid (M.tot (zss.take k) = t) := ⟨_, rfl⟩
      have hpl := M.partM_lo (m := m) hat hlt
      rw [ht.out] at hts htk hpl ⊢
      obtain ⟨b, rfl, hbl, hc⟩ := h.out (by rw [M.partM_len]; omega)
      obtain ⟨A1, c1, h1, h2⟩ := hc k _ hpl
      rw [marks_length] at h1
      have hcl : wr.cell? ⟨b, k, none⟩ = some (.slice A1 zs.length c1) := (hb.out.cell (p := ⟨b, k, none⟩) hbl).trans h1
      have HM := Lib.hid (heldInts A1 zs.length c1 (m + (t : Int)) wr (by omega) (by omega) (by omega) (h2.be hb.out))
      have hpos : ¬ m + (t : Int) + (zs.length : Int) < 0 := by omega
      clear hat hkz hkl hc h1 h2 hpl
      go_wp2_with fail
      refine HM.out.mono ?_
      rintro e w7 ⟨rfl, rfl⟩
      go_wp2
      go_roundw
      case rel => exact ⟨k + 1, by omega, by go_num, by rw [hts.out]; go_num, hb⟩
      case measure => simp [intOf]; omega
    · obtain rfl : k = n := by omega
      have hge : ¬ (k : Int) < (k : Int) := by omega
      have htot : Hid (M.tot (zss.take k) = M.tot zss) := by show _ = _; rw [List.take_of_length_le (by rw [hn.out]; exact Nat.le_refl _)]
      rw [htot.out]
      go_wp2
      go_ret
      exact ⟨rfl, hb.out⟩
end Go.Proofs.Ytmhpobgfgimfcaa

/- Lists of trees: append of a whole list of trees. -/
namespace Go.Proofs.Ytmhpobgfgimfcaa
open Go.RowKit

theorem rows_other {w : World} {b1 b2 s1 s2 n1 n2 g : Nat} {e1 e2 : TypeId} {v1 v2 : Value} {x1 x2 : List Value} (h1 : w.ownsRow b1 e1 s1 v1 n1 x1) (h2 : w.ownsRow b2 e2 s2 v2 n2 x2) (hne : e1 ≠ e2) (k1 : v1.ownBlock = some g) : v2.ownBlock ≠ some g := by
  intro k2
  rcases h1.2 with ⟨e, _⟩ | ⟨g1, _, _, hv1, _, hg1, _⟩
  · rw [e] at k1; cases k1
  · rcases h2.2 with ⟨e, _⟩ | ⟨g2, _, _, hv2, _, hg2, _⟩
    · rw [e] at k2; cases k2
    · rw [hv1] at k1
      rw [hv2] at k2
      have a1 : g1 = g := by injection k1
      have a2 : g2 = g := by injection k2
      rw [a1] at hg1
      rw [a2, hg1] at hg2
      injection hg2 with hg2
      injection hg2 with _ hg2
      exact hne hg2
theorem woods_joined {w w1 : World} {B : Nat} {v v2 v' : Value} {hs hs2 : List Hdr} {zss zss2 : List (List Int)} (h : Woods w B v hs zss) (h2 : Woods w B v2 hs2 zss2) (hfr : ∀ a ∈ hs, ∀ b ∈ hs2, a.1 ≠ b.1)
    (hown : w1.ownsRow B 29 1 v' (hs.length + hs2.length) (hs.map hdr ++ hs2.map hdr)) (hg : w.grownBy w1 v.ownBlock) : Woods w1 B v' (hs ++ hs2) (zss ++ zss2) := by
  have hk0 : ∀ (h' : Hdr) (ys : List Int), Own64 w B (hdr h') ys → Own64 w1 B (hdr h') ys := fun h' ys ho' => by
    refine ho'.kept hg ?_
    cases hv : v.ownBlock with
    | none => exact .inr fun e => by cases e
    | some k =>
      exact .inr fun e => rows_other h.row ho' (by decide) hv e
  refine ⟨by rw [List.length_append, List.map_append]; exact hown, by rw [List.length_append, List.length_append, h.len, h2.len], fun k h' ys hk hy => ?_, fun i j a b hi hj hij => ?_⟩
  · rcases Nat.lt_or_ge k hs.length with hl | hl
    · rw [List.getElem?_append_left hl] at hk
      rw [List.getElem?_append_left (by rw [← h.len]; exact hl)] at hy
      exact hk0 h' ys (h.each k h' ys hk hy)
    · rw [List.getElem?_append_right hl] at hk
      rw [List.getElem?_append_right (by rw [← h.len]; exact hl), ← h.len] at hy
      exact hk0 h' ys (h2.each _ h' ys hk hy)
  · rcases Nat.lt_or_ge i hs.length with hl | hl <;> rcases Nat.lt_or_ge j hs.length with hm | hm
    · rw [List.getElem?_append_left hl] at hi
      rw [List.getElem?_append_left hm] at hj
      exact h.apart i j a b hi hj hij
    · rw [List.getElem?_append_left hl] at hi
      rw [List.getElem?_append_right hm] at hj
      exact hfr a (List.mem_of_getElem? hi) b (List.mem_of_getElem? hj)
    · rw [List.getElem?_append_right hl] at hi
      rw [List.getElem?_append_left hm] at hj
      exact fun e => hfr b (List.mem_of_getElem? hj) a (List.mem_of_getElem? hi) e.symm
    · rw [List.getElem?_append_right hl] at hi
      rw [List.getElem?_append_right hm] at hj
      exact h2.apart _ _ a b hi hj (by omega)

set_option maxRecDepth 100000 in
theorem appendTrees {ops : Array Oper} {rest : List Oper} {o : Oper} {a : Act} {Q : Exit → Act → World → Prop} (hgd : o.guard = none) (s x : Operand)
    (ho : o.op = .call { callee := .builtin .append, args := #[s, x], argTypes := #[39, 39] }) (w : World) (B B2 : Nat) (g n c g2 m c2 : Nat) (hs hs2 : List Hdr) (zss zss2 : List (List Int))
    (hs0 : a.eval s = .slice (some ⟨g, 0, none⟩) n c) (hx : a.eval x = .slice (some ⟨g2, 0, none⟩) m c2) (hW : Hid (Woods w B (.slice (some ⟨g, 0, none⟩) n c) hs zss)) (hW2 : Hid (Woods w B2 (.slice (some ⟨g2, 0, none⟩) m c2) hs2 zss2)) (hBB : B ≤ B2) (hfr : Hid (∀ h' ∈ hs, h'.1 < B2)) (hB : B ≤ w.heap.size) (hlen : n ≤ 1000000) (hlen2 : m ≤ 1000000)
    (h : ∀ g' c' w', Hid (Woods w' B (.slice (some ⟨g', 0, none⟩) (n + m) c') (hs ++ hs2) (zss ++ zss2)) → Hid (Below B w w') → wpList Try.prog ops Q rest (a.put o.dst (.slice (some ⟨g', 0, none⟩) (n + m) c')) w') :
    wpList Try.prog ops Q (o :: rest) a w := by
  obtain ⟨i0, hi0, hz0, hz1, hz2⟩ := info_parts infoTree
  have hn : hs.length = n := by rw [hW.out.len]; exact hW.out.shape.1.symm
  have hm : hs2.length = m := by rw [hW2.out.len]; exact hW2.out.shape.1.symm
  refine wpList_append_own_at _ hgd s x 39 ho B 29 i0 (.agg #[.slice none 0 0]) 1 24 Try.underlying39 hi0 hz0 hz1 hz2 rfl (by decide) _ hs.length (hs.map hdr) hs0 hW.out.row ⟨g2, 0, none⟩ m c2 (hs2.map hdr) hx (by simp [hm]) ?_ ?_ ?_ ?_ hB ?_
  · intro j u hj
    rw [List.getElem?_map] at hj
    obtain ⟨y, hy, rfl⟩ := Option.map_eq_some_iff.1 hj
    have ha : (⟨g2, 0, none⟩ : Addr).add j = ⟨g2, j, none⟩ := by unfold Addr.add; split <;> simp_all
    rw [ha]
    exact hW2.out.cell hy
  · intro u hu
    obtain ⟨y, _, rfl⟩ := List.mem_map.1 hu
    rfl
  · unfold maxLen; omega
  · omega
  · intro v' w1 hown1 hg1 hnil _
    obtain ⟨A', c', rfl⟩ : ∃ A' c', v' = .slice A' (hs.length + m) c' := own_shape hown1
    have hsome : ∃ g', A' = some ⟨g', 0, none⟩ := by
      rcases hown1.2 with ⟨e, _⟩ | ⟨g1, cap, cur, hv, _⟩
      · have := (hnil.1 e).1
        cases this
      · injection hv with e1
        exact ⟨g1, e1⟩
    obtain ⟨g', rfl⟩ := hsome
    rw [← hm] at hown1
    have hres := woods_joined hW.out (hW2.out.mono hBB) (fun a ha b hb e => by have h1 := hfr.out a ha; have h2 := (hW2.out.lt hb).1; omega) hown1 hg1
    rw [hm, hn] at hres
    rw [hn]
    exact h g' c' w1 hres ((Below.refl B w).grown hg1 hB (fun k hk => (World.ownsRow.lt hW.out.row k hk).1))

set_option maxRecDepth 100000 in
/-- the same at a step of a region that draws its order -/
theorem stepTrees {ops : Array Oper} {o : Oper} {a : Act} {K : Act → World → Prop} {Q : Exit → Act → World → Prop} {E : Prop} (hgd : o.guard = none) (s x : Operand)
    (ho : o.op = .call { callee := .builtin .append, args := #[s, x], argTypes := #[39, 39] }) (w : World) (B B2 : Nat) (g n c g2 m c2 : Nat) (hs hs2 : List Hdr) (zss zss2 : List (List Int))
    (hs0 : a.eval s = .slice (some ⟨g, 0, none⟩) n c) (hx : a.eval x = .slice (some ⟨g2, 0, none⟩) m c2) (hW : Hid (Woods w B (.slice (some ⟨g, 0, none⟩) n c) hs zss)) (hW2 : Hid (Woods w B2 (.slice (some ⟨g2, 0, none⟩) m c2) hs2 zss2)) (hBB : B ≤ B2) (hfr : Hid (∀ h' ∈ hs, h'.1 < B2)) (hB : B ≤ w.heap.size) (hlen : n ≤ 1000000) (hlen2 : m ≤ 1000000)
    (h : ∀ g' c' w', Hid (Woods w' B (.slice (some ⟨g', 0, none⟩) (n + m) c') (hs ++ hs2) (zss ++ zss2)) → Hid (Below B w w') → K (a.put o.dst (.slice (some ⟨g', 0, none⟩) (n + m) c')) w') :
    if Region.wanted o (yielded ops a.tmps) = true then Oper.wp Try.prog o a w K Q else E := by
  have hw : Region.wanted o (yielded ops a.tmps) = true := by simp [Region.wanted, hgd]
  rw [if_pos hw]
  obtain ⟨i0, hi0, hz0, hz1, hz2⟩ := info_parts infoTree
  have hn : hs.length = n := by rw [hW.out.len]; exact hW.out.shape.1.symm
  have hm : hs2.length = m := by rw [hW2.out.len]; exact hW2.out.shape.1.symm
  obtain ⟨v', w1, hr, hown1, hg1, hnil, _⟩ := run_append_own_at (P := Try.prog) w B 39 o.type 29 i0 (.agg #[.slice none 0 0]) 1 24 Try.underlying39 hi0 hz0 hz1 hz2 rfl (by decide) _ hs.length (hs.map hdr) hW.out.row ⟨g2, 0, none⟩ m c2 (hs2.map hdr) (by simp [hm])
    (by
      intro j u hj
      rw [List.getElem?_map] at hj
      obtain ⟨y, hy, rfl⟩ := Option.map_eq_some_iff.1 hj
      have ha : (⟨g2, 0, none⟩ : Addr).add j = ⟨g2, j, none⟩ := by unfold Addr.add; split <;> simp_all
      rw [ha]
      exact hW2.out.cell hy)
    (by
      intro u hu
      obtain ⟨y, _, rfl⟩ := List.mem_map.1 hu
      rfl) (by unfold maxLen; omega) (by omega) hB
  obtain ⟨A', c', rfl⟩ : ∃ A' c', v' = .slice A' (hs.length + m) c' := own_shape hown1
  have hsome : ∃ g', A' = some ⟨g', 0, none⟩ := by
    rcases hown1.2 with ⟨e, _⟩ | ⟨g1, cap, cur, hv, _⟩
    · have := (hnil.1 e).1
      cases this
    · injection hv with e1
      exact ⟨g1, e1⟩
  obtain ⟨g', rfl⟩ := hsome
  rw [← hm] at hown1
  have hres := woods_joined hW.out (hW2.out.mono hBB) (fun a ha b hb e => by have h1 := hfr.out a ha; have h2 := (hW2.out.lt hb).1; omega) hown1 hg1
  rw [hm, hn] at hres
  rw [hn] at hr
  have := h g' c' w1 hres ((Below.refl B w).grown hg1 hB (fun k hk => (World.ownsRow.lt hW.out.row k hk).1))
  unfold Oper.wp execOp
  simp only [ho, resolve, invoke, builtin, Sem.run_bind, Sem.run_pure, Result.andThen_ok, List.map_toArray, List.map_cons, List.map_nil, hs0, hx, hr]
  exact this
end Go.Proofs.Ytmhpobgfgimfcaa

/- Where a subtree ends: l01End, partAt, sizeAt: each stops within the list if the loop does. -/
namespace Go.Proofs.Ytmhpobgfgimfcaa
open Go.RowKit

set_option maxHeartbeats 1000000 in
theorem l01End (A : Option Addr) (xs : List Int) (c v E : Nat) (w : World) (hE : Hid (v + M.span 1 (xs.drop v) = E)) (hx : xs.length ≤ 24) (hk : Hid (M.ok 1 (xs.drop v))) (h : Ints w w.heap.size A xs) :
    Calls Try.prog 112 #[.agg #[.slice A xs.length c], .int .i64 v] w fun e w' => e = .returned (.int .i64 E) ∧ Below w.heap.size w w' := by
  have hv := M.ok_in (by omega) hk.out
  have hh := h.al (.cells #[.slice A xs.length c] 29)
  clear h
  go_enter Try.func112, Try.ntmps112
  go_wp2
  go_loop [1, 5] (fun i q => ∃ (k : Nat) (o : Int), v ≤ k ∧ k ≤ xs.length ∧ i = .int .i64 k ∧ q = .int .i64 o ∧ 0 ≤ o ∧ o ≤ 1 + 24 * k ∧ Hid (M.ok o (xs.drop k)) ∧ Hid (E = k + M.span o (xs.drop k))) (fun i _ => xs.length - (intOf i).toNat)
  case atStart => exact ⟨v, 1, Nat.le_refl _, by omega, rfl, rfl, by omega, by omega, hk, hE.out.symm⟩
  case round =>
    obtain ⟨k, o, hvk, hkn, rfl, rfl, ho0, ho1, hok, hs⟩ := hrel
    clear hk
    by_cases ho : 0 < o
    · have hlt := M.ok_in ho hok.out
      obtain ⟨b, off, x, rfl, hbB, g, hX⟩ := hh.at_ hlt
      have hst := M.ok_step hX.out ho hok.out
      have hx0 := hst.1
      have hx1 := hst.2.1
      have hok' := Lib.hid hst.2.2
      have hs' := Lib.hid (show E = (k + 1) + M.span (o - 1 + x) (xs.drop (k + 1)) by have h1 := M.span_step hX.out ho; have h2 := hs.out; omega)
      clear hst hh hok hs
      go_wp2
      go_round
      case rel => exact ⟨k + 1, o - 1 + x, by omega, by omega, by go_num, rfl, by omega, by omega, hok', hs'⟩
      case measure => simp [intOf]; omega
    · have hs' := hs.out
      rw [M.span_stop (o := o) (by omega) (xs.drop k), Nat.add_zero] at hs'
      have Hs : Hid (E = k) := hs'
      have ho' : o ≤ 0 := by omega
      clear hs hs' hh ho
      go_wp2
      go_ret
      exact ⟨by rw [Hs.out]; rfl, bal (b0 w) _⟩

set_option maxHeartbeats 1000000 in
theorem partAt (A : Option Addr) (xs : List Int) (c v E : Nat) (w : World) (hE : Hid (v + M.span 1 (xs.drop v) = E)) (hx : xs.length ≤ 24) (hc : xs.length ≤ c) (hc' : c ≤ 9223372036854775807) (hk : Hid (M.ok 1 (xs.drop v))) (h : Ints w w.heap.size A xs) :
    Calls Try.prog 71 #[.slice A xs.length c, .int .i64 v] w fun e w' => (∃ b off, A = some ⟨b, off, none⟩ ∧ e = .returned (.slice (some ⟨b, off + v, none⟩) (E - v) (E - v))) ∧ w = w' := by
  have hv := M.ok_in (by omega) hk.out
  obtain ⟨b, off, rfl, hbB, hcell⟩ := h (by omega)
  have Hcell := Lib.hid hcell
  clear h hcell
  go_enter Try.func71, Try.ntmps71
  go_wp2
  go_loop [5, 6] (fun i q => ∃ (k : Nat) (o : Int), v ≤ k ∧ k ≤ xs.length ∧ i = .int .i64 k ∧ q = .int .i64 o ∧ 0 ≤ o ∧ o ≤ 1 + 24 * k ∧ Hid (o = 0 → v < k) ∧ Hid (M.ok o (xs.drop k)) ∧ Hid (E = k + M.span o (xs.drop k))) (fun i _ => xs.length - (intOf i).toNat)
  case atStart => exact ⟨v, 1, Nat.le_refl _, by omega, rfl, rfl, by omega, by omega, by simp [Hid], hk, hE.out.symm⟩
  case round =>
    obtain ⟨k, o, hvk, hkn, rfl, rfl, ho0, ho1, hpos, hok, hs⟩ := hrel
    clear hk
    by_cases ho : 0 < o
    · have hlt := M.ok_in ho hok.out
      have hX : xs[k]? = some xs[k] := List.getElem?_eq_getElem hlt
      have g := Hcell.out k _ hX
      generalize xs[k] = x at hX g
      have hst := M.ok_step hX ho hok.out
      have hx0 := hst.1
      have hx1 := hst.2.1
      have hok' := Lib.hid hst.2.2
      have hs' := Lib.hid (show E = (k + 1) + M.span (o - 1 + x) (xs.drop (k + 1)) by have h1 := M.span_step hX ho; have h2 := hs.out; omega)
      have eo : o - 1 + x = o + (x - 1) := by omega
      rw [eo] at hok' hs'
      clear hst hok hs hX eo hpos
      go_wp2
      go_round
      case rel => exact ⟨k + 1, o + (x - 1), by omega, by omega, by go_num, rfl, by omega, by omega, fun _ => by omega, hok', hs'⟩
      case measure => simp [intOf]; omega
    · have hs' := hs.out
      have ho' : o ≤ 0 := by omega
      have hvk' : v < k := hpos.out (by omega)
      rw [M.span_stop (o := o) ho' (xs.drop k), Nat.add_zero] at hs'
      have Hs : Hid (E = k) := hs'
      have hvc : ¬ v = k := by omega
      have hkv : k - v ≠ 0 := by omega
      clear hs hs' ho
      go_wp2
      go_ret
      rw [Hs.out]
      first | exact ⟨⟨b, off, rfl, rfl⟩, rfl⟩ | exact ⟨⟨b, off, ⟨rfl, rfl⟩, rfl⟩, rfl⟩

theorem sizeAt (A : Option Addr) (xs : List Int) (c v S : Nat) (w : World) (hS : Hid (M.span 1 (xs.drop v) = S)) (hx : xs.length ≤ 24) (hc : xs.length ≤ c) (hc' : c ≤ 9223372036854775807) (hk : Hid (M.ok 1 (xs.drop v))) (h : Ints w w.heap.size A xs) :
    Calls Try.prog 132 #[.slice A xs.length c, .int .i64 v] w fun e w' => e = .returned (.int .i64 S) ∧ w = w' := by
  have hp := partAt A xs c v (v + S) w (by show _ = _; rw [hS.out]) hx hc hc' hk h
  rw [Nat.add_sub_cancel_left] at hp
  have HP := Lib.hid hp
  clear hp
  go_enter Try.func132, Try.ntmps132
  go_wp2_with fail
  refine HP.out.mono ?_
  rintro e w' ⟨⟨b, off, rfl, rfl⟩, rfl⟩
  go_wp2
  go_ret
  exact ⟨rfl, rfl⟩
end Go.Proofs.Ytmhpobgfgimfcaa

/- The code of a tree and of numbers that have to be its nodes: codeOf and l01Nodes return the same number. -/
namespace Go.Proofs.Ytmhpobgfgimfcaa
open Go.RowKit

set_option maxHeartbeats 1000000 in
theorem codeOf (A An : Option Addr) (xs ns : List Int) (c cn : Nat) (w : World) (hx : xs.length ≤ 1000000000000) (hns : ns.length ≤ 1000) (h : Ints w w.heap.size A xs) (hn : Ints w w.heap.size An ns) (r : Int) (hr : Hid (M.code xs ns = r)) :
    Calls Try.prog 101 #[.agg #[.slice A xs.length c], .slice An ns.length cn] w fun e w' => e = .returned (.int .i64 r) ∧ Below w.heap.size w w' := by
  have hc := implIsTree A xs c (w.alloc (.cells #[.slice A xs.length c] 29)) hx (h.al _)
  cases ht : M.isTree xs
  · rw [ht] at hc
    have HC := Lib.hid hc
    have hr' : r = 1 := by rw [← hr.out]; simp [M.code, ht]
    subst hr'
    clear hc ht hr h hn
    go_enter Try.func101, Try.ntmps101
    go_wp2_with fail
    refine HC.out.mono ?_
    rintro e w1 ⟨rfl, hb⟩
    have hB := btr (bal (b0 w) _) hb
    go_wp2
    go_ret
    exact ⟨rfl, hB⟩
  · rw [ht] at hc
    have HC := Lib.hid hc
    have hr' : Hid (M.codeGo xs.length ns = r) := by show _ = _; rw [← hr.out]; simp [M.code, ht]
    have hlen := (M.tree_len ht).2
    clear hc ht hr
    go_enter Try.func101, Try.ntmps101
    go_wp2_with fail
    refine HC.out.mono ?_
    rintro e w1 ⟨rfl, hb⟩
    have hB := btr (bal (b0 w) _) hb
    have hcell : w1.cell? ⟨w.heap.size, 0, none⟩ = some (.slice A xs.length c) := cell_be (by simp) hb
    have h1 := (hn.al _).be hb
    clear hb h hn HC
    go_wp2
    go_loop [6, 12] (fun _ i => ∃ (k : Nat), k ≤ ns.length ∧ i = .int .i64 k ∧ Hid (M.codeGo xs.length (ns.drop k) = r)) (fun _ i => ns.length - (intOf i).toNat)
    case atStart => exact ⟨0, Nat.zero_le _, rfl, hr'⟩
    case round =>
      obtain ⟨k, hk, rfl, hg⟩ := hrel
      clear hr'
      by_cases hlt : k < ns.length
      · obtain ⟨b, off, v, rfl, hbB, g, hX⟩ := h1.at_ hlt
        clear h1
        by_cases hv0 : v < 0
        · have hs : Hid (r = 2) := hg.out.symm.trans (M.codeGo_hit hX.out (.inl hv0))
          go_wp2
          go_ret
          exact ⟨by rw [hs.out]; rfl, hB⟩
        · have hd0 : decide (v < 0) = false := decide_eq_false hv0
          have hv1 : 0 ≤ v := by omega
          by_cases hv2 : (xs.length : Int) ≤ v
          · have hs : Hid (r = 2) := hg.out.symm.trans (M.codeGo_hit hX.out (.inr hv2))
            clear hv0
            go_wp2
            go_ret
            exact ⟨by rw [hs.out]; rfl, hB⟩
          · have hs : Hid (M.codeGo xs.length (ns.drop (k + 1)) = r) := (M.codeGo_miss hX.out hv1 (by omega)).symm.trans hg.out
            have hd1 : decide ((xs.length : Int) ≤ v) = false := decide_eq_false hv2
            have hv3 : v < (xs.length : Int) := by omega
            clear hv0 hv2
            go_wp2
            go_round
            case rel => exact ⟨k + 1, by omega, by go_num, hs⟩
            case measure => simp [intOf]; omega
      · obtain rfl : k = ns.length := by omega
        have hs := hg.out
        rw [List.drop_length] at hs
        have Hs : Hid (r = 0) := hs.symm
        clear hs hg
        go_wp2
        go_ret
        exact ⟨by rw [Hs.out]; rfl, hB⟩

set_option maxHeartbeats 400000 in
set_option maxRecDepth 100000 in
theorem l01Nodes (A An : Option Addr) (xs ns : List Int) (c cn : Nat) (w : World) (hx : xs.length ≤ 1000000000000) (hns : ns.length ≤ 1000) (h : Ints w w.heap.size A xs) (hn : Ints w w.heap.size An ns) (r : Int) (hr : Hid (M.code xs ns = r)) :
    Calls Try.prog 109 #[.agg #[.slice A xs.length c], .slice An ns.length cn] w fun e w' => e = .returned (.int .i64 r) ∧ Below w.heap.size w w' := by
  have hc := specIs A xs c (w.alloc (.cells #[.slice A xs.length c] 29)) hx (h.al _)
  cases ht : M.isTree xs
  · rw [ht] at hc
    have HC := Lib.hid hc
    have hr' : r = 1 := by rw [← hr.out]; simp [M.code, ht]
    subst hr'
    clear hc ht hr h hn
    go_enter Try.func109, Try.ntmps109
    go_wp2_with fail
    refine HC.out.mono ?_
    rintro e w1 ⟨rfl, hb⟩
    have hB := btr (bal (b0 w) _) hb
    go_wp2
    go_ret
    exact ⟨rfl, hB⟩
  · rw [ht] at hc
    have HC := Lib.hid hc
    have hr' : Hid (M.codeGo xs.length ns = r) := by show _ = _; rw [← hr.out]; simp [M.code, ht]
    have hlen := (M.tree_len ht).2
    clear hc ht hr
    go_enter Try.func109, Try.ntmps109
    go_wp2_with fail
    refine HC.out.mono ?_
    rintro e w1 ⟨rfl, hb⟩
    have hB := btr (bal (b0 w) _) hb
    have hcell : w1.cell? ⟨w.heap.size, 0, none⟩ = some (.slice A xs.length c) := cell_be (by simp) hb
    have HcellA := Lib.hid hcell
    have h1 := (hn.al _).be hb
    clear hb h hn HC
    go_wp2
    clear hcell
    go_loopw [5] (fun i wr => ∃ (k : Nat), k ≤ ns.length ∧ i = .int .i64 k ∧ Hid (M.codeGo xs.length (ns.drop k) = r) ∧ Hid (Below w1.heap.size w1 wr)) (fun i _ => ns.length - (intOf i).toNat)
    case atStart => exact ⟨0, Nat.zero_le _, rfl, hr', b0 w1⟩
    case round =>
      obtain ⟨k, hk, rfl, hg, hbr⟩ := hrel
      clear hr'
      by_cases hlt : k < ns.length
      · obtain ⟨b, off, v, rfl, hbB, g, hX⟩ := (h1.be hbr.out).at_ hlt
        clear h1
        have hki : (k : Int) < (ns.length : Int) := by omega
        have hki0 : (0 : Int) ≤ (k : Int) := by omega
        have hcr := cell_be HcellA.out hbr.out
        have hN : ∀ W, Hid (Below wr.heap.size wr W) → Calls Try.prog 89 #[.agg #[.slice A xs.length c]] W fun e w' => e = .returned (.int .i64 xs.length) ∧ Hid (Below wr.heap.size wr w') := fun W hW =>
          (l01N A xs.length c W).mono fun e w' ⟨he, hb⟩ => ⟨he, btr hW.out hb⟩
        have HN := Lib.hid hN
        clear hN
        obtain ⟨bv, hbv⟩ : ∃ bv, Hid ((decide ((0 : Int) ≤ v) && decide (v ≤ (xs.length : Int) - 1)) = bv) := ⟨_, rfl⟩
        have hkeep : ∀ W, Hid (Below wr.heap.size wr W) → W.cell? ⟨b, off + k, none⟩ = some (.int .i64 v) ∧ W.cell? ⟨w.heap.size, 0, none⟩ = some (.slice A xs.length c) := fun W hW =>
          ⟨(hW.out.cell (p := ⟨b, off + k, none⟩) hbB).trans g, cell_be hcr hW.out⟩
        have HK := Lib.hid hkeep
        clear hkeep
        go_wp2
        have hK0 : Hid (Below wr.heap.size wr wr.drew) := (Below.refl _ _).drew
        have g0 : wr.drew.cell? ⟨b, off + k, none⟩ = some (.int .i64 v) := g
        have hcr0 : wr.drew.cell? ⟨w.heap.size, 0, none⟩ = some (.slice A xs.length c) := hcr
        have hwrap : IntKind.i64.wrap ((xs.length : Int) - 1) = (xs.length : Int) - 1 := IntWalk.i64_in _ (by omega)
        go_region_held3 (fun w' => w'.cell? ⟨b, off + k, none⟩ = some (.int .i64 v) ∧ w'.cell? ⟨w.heap.size, 0, none⟩ = some (.slice A xs.length c) ∧ Hid (Below wr.heap.size wr w')) (first | exact ⟨g0, hcr0, hK0⟩ | exact ⟨(HK.out _ (by assumption)).1, (HK.out _ (by assumption)).2, by assumption⟩) (first | (go_at_call 89; refine (HN.out _ (by assumption)).mono ?_; rintro e w7 ⟨rfl, hb7⟩) | (go_at_call 88; refine (inAny _ _ _ _ bv hbv).mono ?_; rintro e w8 ⟨rfl, rfl⟩))
        clear hwrap g0 hcr0 hK0 HN HK
        have hbw : Hid (Below w1.heap.size w1 w7) := btr hbr.out hb7.out
        cases bv
        · have hs : Hid (r = 2) := hg.out.symm.trans (M.codeGo_hit hX.out (by have := hbv.out; simp at this; omega))
          go_wp2
          go_ret
          exact ⟨by rw [hs.out]; rfl, btr hB hbw.out⟩
        · have hv := hbv.out
          simp only [Bool.and_eq_true, decide_eq_true_eq] at hv
          have hs : Hid (M.codeGo xs.length (ns.drop (k + 1)) = r) := (M.codeGo_miss hX.out hv.1 (by omega)).symm.trans hg.out
          clear hv
          go_wp2
          go_roundw
          case rel => exact ⟨k + 1, by omega, by go_num, hs, hbw⟩
          case measure => simp [intOf]; omega
      · obtain rfl : k = ns.length := by omega
        have hs := hg.out
        rw [List.drop_length] at hs
        have Hs : Hid (r = 0) := hs.symm
        clear hs hg
        go_wp2
        go_ret
        exact ⟨by rw [Hs.out]; rfl, btr hB hbr.out⟩

theorem ints_new (w : World) (cs : Array Value) (zs : List Int) (h : cs.toList = zs.map (Value.int .i64)) : Ints (w.alloc (.cells cs 2)) (w.alloc (.cells cs 2)).heap.size (some ⟨w.heap.size, 0, none⟩) zs := fun _ =>
  ⟨w.heap.size, 0, rfl, by simp, fun j x hx => by
    rw [Nat.zero_add, World.cell?_alloc_new]
    rw [← Array.getElem?_toList, h, List.getElem?_map, hx]
    rfl⟩
end Go.Proofs.Ytmhpobgfgimfcaa

/- the model's subtree. -/
namespace Go.Proofs.Ytmhpobgfgimfcaa
open Go.RowKit

theorem ints_sub {w : World} {B b off : Nat} {xs : List Int} (h : Ints w B (some ⟨b, off, none⟩) xs) (v m : Nat) : Ints w B (some ⟨b, off + v, none⟩) ((xs.drop v).take m) := fun hpos => by
  have hl : 0 < xs.length := by simp only [List.length_take, List.length_drop] at hpos; omega
  obtain ⟨b', off', e, hb, hc⟩ := h hl
  injection e with e
  injection e with e1 e2
  subst e1
  subst e2
  refine ⟨b, off + v, rfl, hb, fun j x hj => ?_⟩
  rw [List.getElem?_take] at hj
  split at hj
  · rw [List.getElem?_drop] at hj
    rw [Nat.add_assoc]
    exact hc _ _ hj
  · cases hj

set_option maxHeartbeats 1000000 in
set_option maxRecDepth 100000 in
theorem l01Subtree (A : Option Addr) (xs : List Int) (c v E : Nat) (w : World) (hx : xs.length ≤ 24) (hcl : xs.length ≤ c) (ht : Hid (M.isTree xs = true)) (hv : v < xs.length) (hE : Hid (v + M.span 1 (xs.drop v) = E)) (h : Ints w w.heap.size A xs) :
    Calls Try.prog 63 #[.agg #[.slice A xs.length c], .int .i64 v] w fun e w' => ∃ A' c', e = .returned (.agg #[.slice A' (E - v) c']) ∧ Own64 w' w.heap.size (.slice A' (E - v) c') (M.sub xs v) ∧ Below w.heap.size w w' := by
  obtain ⟨b, off, rfl, hbB, hcells⟩ := h (by omega)
  have Hh := Lib.hid h
  have hok := Lib.hid (M.tree_ok ht.out hv)
  have hEn := M.end_le (xs := xs) (v := v) (by omega)
  rw [hE.out] at hEn
  have hvE0 : v ≤ E := by have := hE.out; omega
  have hsl : Hid ((M.sub xs v).length = E - v) := by show _ = _; rw [M.sub_length]; have := hE.out; omega
  clear hcells h
  go_enter Try.func63, Try.ntmps63
  go_wp2
  obtain ⟨W, hW⟩ : ∃ W, W = (w.alloc (.cells #[.slice (some ⟨b, off, none⟩) xs.length c] 29)).alloc (.cells #[.slice none 0 0] 29) := ⟨_, rfl⟩
  have hcell : W.cell? ⟨w.heap.size, 0, none⟩ = some (.slice (some ⟨b, off, none⟩) xs.length c) := by subst hW; exact cell_al (by simp) _
  have hres : W.heap[w.heap.size + 1]? = some (.cells #[.slice none 0 0] 29 (0, 0)) := by subst hW; have := World.alloc_heap_new (w.alloc (.cells #[.slice (some ⟨b, off, none⟩) xs.length c] 29)) (.cells #[.slice none 0 0] 29); simpa using this
  have hIW := Lib.hid (((Hh.out.al (.cells #[.slice (some ⟨b, off, none⟩) xs.length c] 29)).al (.cells #[.slice none 0 0] 29)))
  have hBW := bal (bal (b0 w) (.cells #[.slice (some ⟨b, off, none⟩) xs.length c] 29)) (.cells #[.slice none 0 0] 29)
  rw [← hW] at hIW hBW ⊢
  have HBW := Lib.hid hBW
  have hWs : w.heap.size + 1 < W.heap.size := lt_of_block hres
  have Hres := Lib.hid hres
  clear hW hBW hres
  have hvE : (v : Int) ≤ (E : Int) := by omega
  have hEc : (E : Int) ≤ (c : Int) := by omega
  have hv0 : (0 : Int) ≤ (v : Int) := by omega
  have hvc : ¬ c = v := by omega
  have hK0 : Hid (Below (w.heap.size + 1) W W.drew) := (Below.refl _ _).drew
  have hK1 : Hid (Below W.heap.size W W.drew) := (Below.refl _ _).drew
  have hcell0 : W.drew.cell? ⟨w.heap.size, 0, none⟩ = some (.slice (some ⟨b, off, none⟩) xs.length c) := hcell
  have hEnd : ∀ W', Hid (Below W.heap.size W W') → Calls Try.prog 112 #[.agg #[.slice (some ⟨b, off, none⟩) xs.length c], .int .i64 v] W' fun e w' => e = .returned (.int .i64 E) ∧ Hid (Below W.heap.size W w') := fun W' hW' =>
    (l01End _ xs c v E W' hE hx hok (hIW.out.be hW'.out)).mono fun e w' ⟨he, hb⟩ => ⟨he, btr hW'.out hb⟩
  have HEnd := Lib.hid hEnd
  have hMake : ∀ W', Hid (Below W.heap.size W W') → Calls Try.prog 111 #[.slice (some ⟨b, off + v, none⟩) (E - v) (c - v)] W' fun e w' => ∃ A' c', e = .returned (.agg #[.slice A' (E - v) c']) ∧ Hid (Own64 w' W.heap.size (.slice A' (E - v) c') (M.sub xs v)) ∧ Hid (Below W.heap.size W w') := fun W' hW' => by
    have hi : Hid (Ints W' W'.heap.size (some ⟨b, off + v, none⟩) (M.sub xs v)) := (ints_sub (hIW.out.be hW'.out) v (M.span 1 (xs.drop v)))
    exact (l01Make _ (M.sub xs v) (E - v) (c - v) W' hsl (by omega) (fun e => by cases e) hi).mono fun e w' ⟨A', c', he, ho, hb⟩ => ⟨A', c', he, own_mono ho hW'.out.size, btr hW'.out hb⟩
  have HMake := Lib.hid hMake
  have hR : ∀ W', Hid (Below W.heap.size W W') → W'.cell? ⟨w.heap.size + 1, 0, none⟩ = some (.slice none 0 0) ∧ W'.frozen? ⟨w.heap.size + 1, 0, none⟩ = false := fun W' hW' => by
    have h1 := (hW'.out.block (w.heap.size + 1) hWs).trans Hres.out
    exact ⟨cell_of_one h1, free_of_one h1⟩
  have HR := Lib.hid hR
  have hS : ∀ W', Hid (Below W.heap.size W W') → W'.cell? ⟨w.heap.size, 0, none⟩ = some (.slice (some ⟨b, off, none⟩) xs.length c) ∧ Hid (Below (w.heap.size + 1) W W') := fun W' hW' => ⟨cell_be hcell hW'.out, hW'.out.mono (by omega)⟩
  have HS := Lib.hid hS
  clear hMake hEnd hR hS hcell
  go_region_held3 (fun w' => w'.cell? ⟨w.heap.size, 0, none⟩ = some (.slice (some ⟨b, off, none⟩) xs.length c) ∧ Hid (Below (w.heap.size + 1) W w')) (first | exact ⟨hcell0, hK0⟩ | exact HS.out _ (by assumption) | exact ⟨(World.cell?_setCell_other _ _ _ _ (by simp)).trans (HS.out _ (by assumption)).1, below_setCell (HS.out _ (by assumption)).2.out (Nat.le_refl _) _⟩) (first | (go_at_call 112; refine (HEnd.out _ (by assumption)).mono ?_; rintro e w7 ⟨rfl, hb7⟩) | (go_at_call 111; refine (HMake.out _ (by assumption)).mono ?_; rintro e w8 ⟨A8, c8, rfl, ho8, hb8⟩; obtain ⟨hr8, hf8⟩ := HR.out _ hb8))
  clear HS HR HMake HEnd hcell0 hK0 hK1
  go_wp2
  refine bodyPost_ret (v := .agg #[.slice A8 (E - v) c8]) (by simp [results, Try.results63, go_sem, hr8]) rfl ?_
  exact ⟨A8, c8, rfl, own_mono (own_far ho8.out hWs _) (by omega), below_setCell (btr HBW.out hb8.out) (by omega) _⟩
end Go.Proofs.Ytmhpobgfgimfcaa

/- All trees of so many nodes, the model's: l01Go, l01All. -/
namespace Go.Proofs.Ytmhpobgfgimfcaa
open Go.RowKit

theorem M.L_8 {n t : Nat} (hn : n ≤ 8) : M.L n t ≤ 65536 := by
  by_cases h : t ≤ n
  · have h1 := M.L_le n t h
    have h2 : 2 ^ (2 * n - t) ≤ 2 ^ 16 := Nat.pow_le_pow_right (by omega) (by omega)
    have h3 : (2 : Nat) ^ 16 = 65536 := by decide
    omega
  · rw [M.L_base (.inl (by omega))]
    split <;> omega
theorem own_some {w : World} {B n c : Nat} {A : Option Addr} {zs : List Int} (h : Own64 w B (.slice A n c) zs) (hz : 0 < n) : ∃ g, A = some ⟨g, 0, none⟩ := by
  rcases h.2 with ⟨e, h0⟩ | ⟨g, cap, cur, hv, _⟩
  · injection e with e1 e2 e3; omega
  · injection hv with e1
    exact ⟨g, e1⟩
/-- what l01Go must do with l nodes left -/
def GoAt (l : Nat) : Prop := ∀ (A : Option Addr) (xs : List Int) (m c o : Nat) (w : World), Hid (xs.length = m) → l + m ≤ 100 → 1 ≤ l + m → Hid (A = none → c = 0) → (l = 0 ∧ o = 0 ∨ 1 ≤ o ∧ o ≤ l) → l ≤ 8 → Hid (Ints w w.heap.size A xs) →
  Calls Try.prog 133 #[.slice A m c, .int .i64 (o : Int), .int .i64 (l : Int)] w fun e w' => ∃ g c' hs, e = .returned (.slice (some ⟨g, 0, none⟩) (M.L l o) c') ∧ Hid (Woods w' w.heap.size (.slice (some ⟨g, 0, none⟩) (M.L l o) c') hs ((M.suff l o).map (xs ++ ·))) ∧ Hid (Below w.heap.size w w')

set_option maxRecDepth 100000 in
set_option maxHeartbeats 2000000 in
theorem l01Go_zero : GoAt 0 := by
  intro A xs m c o w hm hm1 h1m hz ho hl hI
  have ho0 : o = 0 := by omega
  subst ho0
  have hM := Lib.hid (l01Make A xs m c w hm (by omega) hz hI)
  rw [show M.L 0 0 = 1 from rfl, M.suff_zero, show [([] : List Int)].map (xs ++ ·) = [xs] by simp]
  clear hI
  go_enter Try.func133, Try.ntmps133
  go_wp2_with fail
  refine hM.out.mono ?_
  rintro e w1 ⟨A1, c1, rfl, ho1, hb1⟩
  obtain ⟨g, rfl⟩ := own_some ho1 (by omega)
  have hW := woods_one (h := (g, m, c1)) (zs := xs) hb1.size ho1
  have hB := bal hb1 (.cells #[.slice (some ⟨g, 0, none⟩) m c1] 29)
  go_wp2
  go_ret
  exact ⟨_, _, _, rfl, hW, hB⟩

set_option maxRecDepth 100000 in
set_option maxHeartbeats 4000000 in
theorem l01Go_step (l : Nat) (ih : Hid (GoAt l)) : GoAt (l + 1) := by
  intro A xs m c o w hm hm1 h1m hz ho hl hI
  obtain ⟨p, rfl⟩ : ∃ p, o = p + 1 := ⟨o - 1, by omega⟩
  have hpl : p ≤ l := by omega
  have hL8 := M.L_8 (n := l + 1) (t := p + 1) hl
  have hend := Lib.hid (M.suffTo_end hpl)
  have hlenk : Hid (∀ k, k ≤ l - p + 1 → (M.suffTo l p k).length ≤ 65536) := fun k hk => by
    rw [M.suffTo_len]
    have h1 := M.sumTo_le (f := fun x => M.L l (p + x)) hk
    rw [← M.dig_total hpl] at h1
    omega
  have hW0 : Hid (Woods (w.alloc (.cells #[] 29)) w.heap.size (.slice (some ⟨w.heap.size, 0, none⟩) 0 0) [] ((M.suffTo l p 0).map (xs ++ ·))) := by
    rw [M.suffTo_zero]; exact woods_empty (Nat.le_refl _)
  have hB0 := Lib.hid (bal (b0 w) (.cells #[] 29))
  have e1 : ((p + 1 : Nat) : Int) = (p : Int) + 1 := by omega
  have e2 : ((l + 1 : Nat) : Int) = (l : Int) + 1 := by omega
  have hl0 : (((l : Int) + 1) == 0) = false := beq_eq_false_iff_ne.2 (by omega)
  have wp1 : IntKind.i64.wrap ((p : Int) + 1 - 1) = (p : Int) := by rw [IntWalk.i64_in _ (by omega)]; omega
  have wl1 : IntKind.i64.wrap ((l : Int) + 1 - 1) = (l : Int) := by rw [IntWalk.i64_in _ (by omega)]; omega
  rw [e1, e2]
  go_enter Try.func133, Try.ntmps133
  go_wp2
  go_loopw [7, 8] (fun q i wr => ∃ (d n g c' : Nat) (hs : List Hdr), d ≤ l - p + 1 ∧ i = .int .i64 (d : Int) ∧ q = .slice (some ⟨g, 0, none⟩) n c' ∧ Hid (Woods wr w.heap.size (.slice (some ⟨g, 0, none⟩) n c') hs ((M.suffTo l p d).map (xs ++ ·))) ∧ Hid (Below w.heap.size w wr)) (fun _ i _ => l - p + 1 - (intOf i).toNat)
  case atStart => exact ⟨0, 0, _, 0, [], by omega, rfl, rfl, hW0, hB0⟩
  case round =>
    obtain ⟨d, n, g, c', hs, hd, rfl, rfl, hW, hB⟩ := hrel
    clear hW0 hB0
    have wd : IntKind.i64.wrap ((p : Int) + (d : Int)) = (p : Int) + (d : Int) := IntWalk.i64_in _ (by omega)
    have hn : Hid (n = (M.suffTo l p d).length) := by have := hW.out.shape.1; rwa [List.length_map] at this
    have hn6 : n ≤ 65536 := by rw [hn.out]; exact hlenk.out d hd
    by_cases hlt : p + d ≤ l
    · have hle : ¬ (l : Int) < (p : Int) + (d : Int) := by omega
      by_cases h0 : p + d = 0 ∧ 0 < l
      · obtain ⟨l', rfl⟩ : ∃ l', l = l' + 1 := ⟨l - 1, by omega⟩
        have hp0 : p = 0 := by omega
        have hd0 : d = 0 := by omega
        subst hp0 hd0
        have hW2 : Hid (Woods wr w.heap.size (.slice (some ⟨g, 0, none⟩) n c') hs ((M.suffTo (l' + 1) 0 (0 + 1)).map (xs ++ ·))) := by
          rw [M.suffTo_succ (by omega), M.suff_none, List.map_nil, List.append_nil]
          exact hW
        clear hW hend hlenk ih hI
        go_wp2
        go_roundw
        case rel => exact ⟨1, n, g, c', hs, by omega, by first | rfl | go_num, rfl, hW2, hB⟩
        case measure => simp [intOf]
      · have hk0 : (((p : Int) + (d : Int)) == 0 && decide ((1 : Int) < (l : Int) + 1)) = false := by
          rw [Bool.and_eq_false_iff]
          by_cases h : p + d = 0
          · exact .inr (decide_eq_false (by omega))
          · exact .inl (beq_eq_false_iff_ne.2 (by omega))
        have hOwn := Lib.hid (fun W (hb : Below w.heap.size w W) => l01Own A xs m c W hm (by omega) hz (Lib.hid (hI.out.be hb)))
        have hRec := Lib.hid (fun A' c' W h1 h2 h3 => ih.out A' (xs ++ [(d : Int)]) (m + 1) c' (p + d) W h1 (by omega) (by omega) h2 (by omega) (by omega) h3)
        have hjoin : Hid ((M.suffTo l p (d + 1)).map (xs ++ ·) = (M.suffTo l p d).map (xs ++ ·) ++ (M.suff l (p + d)).map ((xs ++ [(d : Int)]) ++ ·)) := by
          show _ = _
          rw [M.suffTo_succ (by omega), List.map_append, List.map_map]
          congr 1
          refine List.map_congr_left fun zs _ => ?_
          show xs ++ ((d : Int) :: zs) = (xs ++ [(d : Int)]) ++ zs
          simp
        have hLl : M.L l (p + d) ≤ 65536 := M.L_8 (by omega)
        have e3 : ((p + d : Nat) : Int) = (p : Int) + (d : Int) := by omega
        simp only [e3] at hRec
        have hfr := Lib.hid (fun h' (hh : h' ∈ hs) => (hW.out.lt hh).2)
        have hzr := hB.out.size
        generalize M.L l (p + d) = Lr at *
        clear hend hlenk ih hI
        have hrest : Calls Try.prog 124 #[.slice A m c] wr fun e w' => ∃ A' c', e = .returned (.slice A' m c') ∧ Hid (Own64 w' wr.heap.size (.slice A' m c') xs) ∧ Hid (Below wr.heap.size wr w') := (hOwn.out wr hB.out).mono fun e w' ⟨A', c', h1, h2, h3⟩ => ⟨A', c', h1, h2, h3⟩
        have HO := Lib.hid hrest
        clear hOwn hrest
        have hguard : (((p : Int) + (d : Int)) == 0) = false ∨ ((((p : Int) + (d : Int)) == 0) = true ∧ ¬ (1 : Int) < (l : Int) + 1) := by
          by_cases h : p + d = 0
          · exact .inr ⟨beq_iff_eq.2 (by omega), by omega⟩
          · exact .inl (beq_eq_false_iff_ne.2 (by omega))
        rcases hguard with hne | ⟨hne, hl1⟩
        all_goals
          go_wp2_with fail
          refine HO.out.mono ?_
          rintro e w2 ⟨A1, c1, rfl, ho1, hb1⟩
          have hz2 : wr.heap.size ≤ w2.heap.size := hb1.out.size
          have hm6 : m ≤ 1000000 := by omega
          go_wp2_with (at_builtin; refine push64 rfl (.tmp 35) (.tmp 37) rfl _ wr.heap.size A1 m c1 xs (d : Int) rfl rfl ho1 hz2 hm6 ?_; intro A3 c3 w3 ho3 hb3)
          have hB3 : Hid (Below wr.heap.size wr w3) := hb1.out.trans hb3.out
          have hlen3 : Hid ((xs ++ [(d : Int)]).length = m + 1) := by show _ = _; rw [List.length_append, List.length_singleton, hm.out]
          have HR := Lib.hid (hRec.out A3 c3 w3 hlen3 (Lib.hid (own64_z ho3.out)) (Lib.hid (ints_of_own64 ho3.out)))
          clear hb1 hb3 ho1 ho3 hRec HO
          refine HR.out.mono ?_
          rintro e w4 ⟨g4, c4, hs4, rfl, ho4, hb4⟩
          have hW4 : Hid (Woods w4 w.heap.size (.slice (some ⟨g, 0, none⟩) n c') hs ((M.suffTo l p d).map (xs ++ ·))) := (hW.out.be hB3.out).be hb4.out
          have hB4 := Lib.hid (btr (btr hB.out hB3.out) hb4.out)
          have hz3 := hB3.out.size
          have hz4 := hB4.out.size
          have hfr3 : Hid (∀ h' ∈ hs, h'.1 < w3.heap.size) := fun h' hh => by have := hfr.out h' hh; omega
          clear HR hB3 hb4 hW hB hfr
          go_wp2_with (at_builtin; refine appendTrees rfl (.tmp 33) (.tmp 45) rfl _ w.heap.size w3.heap.size g n c' g4 Lr c4 hs hs4 _ _ rfl rfl hW4 ho4 (by omega) hfr3 hz4 (by omega) (by omega) ?_; intro g5 c5 w5 hW5 hb5)
          rw [← hjoin.out] at hW5
          have hB5 : Hid (Below w.heap.size w w5) := hB4.out.trans hb5.out
          clear hb5 hB4 hW4 ho4
          go_roundw
          case rel => exact ⟨d + 1, n + Lr, g5, c5, _, by omega, by go_num, rfl, hW5, hB5⟩
          case measure => simp [intOf]; omega
    · have hle : (l : Int) < (p : Int) + (d : Int) := by omega
      obtain rfl : d = l - p + 1 := by omega
      rw [hend.out] at hW hn
      rw [M.suff_len] at hn
      have hnn := hn.out
      subst hnn
      clear hend hlenk ih hI
      go_wp2
      go_ret
      exact ⟨g, c', rfl, ⟨hs, hW⟩, hB⟩
theorem l01Go : ∀ l, GoAt l
  | 0 => l01Go_zero
  | l + 1 => l01Go_step l (Lib.hid (l01Go l))

set_option maxRecDepth 100000 in
theorem l01All (n : Nat) (w : World) (hn1 : 1 ≤ n) (hn : n ≤ 8) : Calls Try.prog 116 #[.int .i64 (n : Int)] w fun e w' => ∃ g c' hs, e = .returned (.slice (some ⟨g, 0, none⟩) (M.L n 1) c') ∧ Hid (Woods w' w.heap.size (.slice (some ⟨g, 0, none⟩) (M.L n 1) c') hs (M.suff n 1)) ∧ Hid (Below w.heap.size w w') := by
  have H := Lib.hid (l01Go n (some ⟨w.heap.size, 0, none⟩) [] 0 0 1 (w.alloc (.cells #[] 2)) rfl (by omega) (by omega) (fun e => by cases e) (.inr ⟨by omega, hn1⟩) hn (Ints.nil_ _ _ _))
  have e1 : (M.suff n 1).map (([] : List Int) ++ ·) = M.suff n 1 := by simp
  rw [e1] at H
  generalize M.suff n 1 = S at *
  generalize M.L n 1 = L at *
  go_enter Try.func116, Try.ntmps116
  go_wp2_with fail
  refine H.out.mono ?_
  rintro e w1 ⟨g, c1, hs, rfl, hW, hb⟩
  have hW1 := Lib.hid (hW.out.mono (B' := w.heap.size) (by simp))
  have hB1 := Lib.hid (btr (bal (b0 w) _) hb.out)
  go_wp2
  go_ret
  exact ⟨g, c1, hs, rfl, hW1, hB1⟩
end Go.Proofs.Ytmhpobgfgimfcaa

/- Binary trees and their texts of digits: the mathematics. No program is named here. -/
namespace Go.Proofs.Ytmhpobgfgimfcaa.M
/-- a text by its bytes -/
def bs (l : List UInt8) : ByteArray := ⟨l.toArray⟩
theorem bs_self (s : ByteArray) : bs s.data.toList = s := rfl
theorem bs_data (l : List UInt8) : (bs l).data.toList = l := rfl
theorem bs_size (l : List UInt8) : (bs l).size = l.length := rfl
theorem bs_append (a b : List UInt8) : bs a ++ bs b = bs (a ++ b) := by
  apply ByteArray.ext
  rw [ByteArray.data_append]
  simp [bs]
theorem bs_extract (l : List UInt8) (a b : Nat) : (bs l).extract a b = bs ((l.drop a).take (b - a)) := by
  apply ByteArray.ext
  rw [ByteArray.data_extract]
  simp [bs, List.extract_eq_take_drop]
theorem bs_inj {a b : List UInt8} (h : bs a = bs b) : a = b := by
  have := congrArg (fun s => s.data.toList) h
  exact this
inductive Bin where
  | nil : Bin
  | node (l r : Bin) : Bin

/-- the number of nodes -/
def Bin.n : Bin → Nat
  | .nil => 0
  | .node l r => l.n + r.n + 1
/-- the text of digits -/
def Bin.txt : Bin → List UInt8
  | .nil => [48]
  | .node l r => 49 :: (l.txt ++ r.txt)
theorem Bin.txt_len : ∀ t : Bin, t.txt.length = 2 * t.n + 1
  | .nil => rfl
  | .node l r => by simp only [Bin.txt, Bin.n, List.length_cons, List.length_append, l.txt_len, r.txt_len]; omega
/-- what stands behind o parts -/
def after : List UInt8 → Nat → Option (List UInt8)
  | l, 0 => some l
  | [], _ + 1 => none
  | c :: r, o + 1 => if c = 48 then after r o else if c = 49 then after r (o + 2) else none
theorem after_zero (l : List UInt8) : after l 0 = some l := by cases l <;> rfl
theorem after_nil (o : Nat) : after [] (o + 1) = none := rfl
theorem after_0 (r : List UInt8) (o : Nat) : after (48 :: r) (o + 1) = after r o := by rw [after, if_pos rfl]
theorem after_1 (r : List UInt8) (o : Nat) : after (49 :: r) (o + 1) = after r (o + 2) := by rw [after, if_neg (by decide), if_pos rfl]
theorem after_x {c : UInt8} (r : List UInt8) (o : Nat) (h : c ≠ 48) (h' : c ≠ 49) : after (c :: r) (o + 1) = none := by rw [after, if_neg h, if_neg h']
theorem after_txt : ∀ (t : Bin) (r : List UInt8) (o : Nat), after (t.txt ++ r) (o + 1) = after r o
  | .nil, r, o => after_0 r o
  | .node a b, r, o => by
    rw [Bin.txt, List.cons_append, after_1, List.append_assoc, after_txt a, after_txt b]
theorem after_inv : ∀ (m : Nat) (l : List UInt8) (o : Nat) (r : List UInt8), l.length ≤ m → after l (o + 1) = some r → ∃ (t : Bin) (l' : List UInt8), l = t.txt ++ l' ∧ after l' o = some r := by
  intro m
  induction m with
  | zero =>
    intro l o r h e
    obtain rfl : l = [] := List.eq_nil_of_length_eq_zero (by omega)
    rw [after_nil] at e
    cases e
  | succ m ih =>
    intro l o r h e
    cases l with
    | nil => rw [after_nil] at e; cases e
    | cons c l =>
      simp only [List.length_cons] at h
      by_cases h0 : c = 48
      · subst h0; rw [after_0] at e; exact ⟨.nil, l, rfl, e⟩
      · by_cases h1 : c = 49
        · subst h1
          rw [after_1] at e
          obtain ⟨a, l1, rfl, e1⟩ := ih l (o + 1) r (by omega) e
          obtain ⟨b, l2, rfl, e2⟩ := ih l1 o r (by simp only [List.length_append] at h; omega) e1
          exact ⟨.node a b, l2, by simp [Bin.txt], e2⟩
        · rw [after_x _ _ h0 h1] at e; cases e
theorem after_one {l r : List UInt8} (h : after l 1 = some r) : ∃ t : Bin, l = t.txt ++ r := by
  obtain ⟨t, l', e, e'⟩ := after_inv _ l 0 r (Nat.le_refl _) h
  rw [after_zero] at e'
  injection e' with e'
  exact ⟨t, e' ▸ e⟩
theorem after_two (l : List UInt8) : after l 2 = (after l 1).bind fun r => after r 1 := by
  cases h : after l 1 with
  | some r =>
    obtain ⟨t, rfl⟩ := after_one h
    rw [after_txt]; rfl
  | none =>
    show _ = none
    cases h2 : after l 2 with
    | none => rfl
    | some r =>
      obtain ⟨t, l', rfl, _⟩ := after_inv _ l 1 r (Nat.le_refl _) h2
      rw [after_txt, after_zero] at h
      cases h
theorem after_len {l r : List UInt8} (h : after l 1 = some r) : r.length < l.length := by
  obtain ⟨t, rfl⟩ := after_one h
  have := t.txt_len
  simp only [List.length_append]
  omega
theorem after_self (t : Bin) : after t.txt 1 = some [] := by
  have := after_txt t [] 0
  rwa [List.append_nil, after_zero] at this
theorem txt_inj {a b : Bin} : ∀ {r s : List UInt8}, a.txt ++ r = b.txt ++ s → a = b ∧ r = s := by
  induction a generalizing b with
  | nil =>
    intro r s h
    cases b with
    | nil => simp only [Bin.txt, List.cons_append, List.nil_append, List.cons.injEq] at h; exact ⟨rfl, h.2⟩
    | node c d => simp only [Bin.txt, List.cons_append, List.cons.injEq] at h; exact absurd h.1 (by decide)
  | node l r ihl ihr =>
    intro r' s h
    cases b with
    | nil => simp only [Bin.txt, List.cons_append, List.cons.injEq] at h; exact absurd h.1 (by decide)
    | node c d =>
      simp only [Bin.txt, List.cons_append, List.cons.injEq, true_and, List.append_assoc] at h
      obtain ⟨e1, h1⟩ := ihl h
      obtain ⟨e2, h2⟩ := ihr h1
      exact ⟨by rw [e1, e2], h2⟩
/-- whether the bytes are those of the text of a binary tree -/
def isBin (l : List UInt8) : Bool := decide (l.length ≤ 47) && (after l 1 == some [])
theorem isBin_txt {t : Bin} (h : t.n ≤ 23) : isBin t.txt = true := by
  have := t.txt_len
  simp only [isBin, after_self, Bool.and_eq_true, decide_eq_true_eq, beq_self_eq_true, and_true]
  omega
theorem isBin_inv {l : List UInt8} (h : isBin l = true) : ∃ t : Bin, l = t.txt ∧ t.n ≤ 23 := by
  simp only [isBin, Bool.and_eq_true, decide_eq_true_eq, beq_iff_eq] at h
  obtain ⟨t, e⟩ := after_one h.2
  rw [List.append_nil] at e
  have := t.txt_len
  exact ⟨t, e, by rw [← e] at this; omega⟩
/-- the parts that are still to come at a place of a text -/
theorem after_place : ∀ (k : Nat) (l : List UInt8) (o : Nat) (r : List UInt8), after l o = some r → k + r.length < l.length → ∃ o', after (l.drop k) (o' + 1) = some r := by
  intro k
  induction k with
  | zero =>
    intro l o r h hk
    cases o with
    | zero => rw [after_zero] at h; injection h with h; subst h; omega
    | succ o => exact ⟨o, h⟩
  | succ k ih =>
    intro l o r h hk
    cases o with
    | zero => rw [after_zero] at h; injection h with h; subst h; omega
    | succ o =>
      cases l with
      | nil => rw [after_nil] at h; cases h
      | cons c l =>
        simp only [List.length_cons] at hk
        rw [List.drop_succ_cons]
        by_cases h0 : c = 48
        · subst h0; rw [after_0] at h; exact ih l o r h (by omega)
        · by_cases h1 : c = 49
          · subst h1; rw [after_1] at h; exact ih l (o + 2) r h (by omega)
          · rw [after_x _ _ h0 h1] at h; cases h
end Go.Proofs.Ytmhpobgfgimfcaa.M

/- Patterns and their texts: the mathematics. No program is named here. -/
namespace Go.Proofs.Ytmhpobgfgimfcaa.M
/-- a letter of patterns -/
def isL (c : UInt8) : Bool := decide (97 ≤ c.toNat) && decide (c.toNat ≤ 104)
theorem isL_iff {c : UInt8} : isL c = true ↔ 97 ≤ c.toNat ∧ c.toNat ≤ 104 := by simp [isL]
theorem isL_40 : isL 40 = false := by decide
theorem isL_41 : isL 41 = false := by decide
/-- what stands behind all that o brackets hold open -/
def close : List UInt8 → Nat → Option (List UInt8)
  | l, 0 => some l
  | [], _ + 1 => none
  | c :: r, o + 1 => if c = 41 then close r o else if isL c then close r (o + 1) else if c = 40 then close r (o + 2) else none
/-- what stands behind the piece that begins a text -/
def piece : List UInt8 → Option (List UInt8)
  | [] => none
  | c :: r => if isL c then some r else if c = 40 then close r 1 else none
theorem close_zero (l : List UInt8) : close l 0 = some l := by cases l <;> rfl
theorem close_nil (o : Nat) : close [] (o + 1) = none := rfl
theorem close_shut (r : List UInt8) (o : Nat) : close (41 :: r) (o + 1) = close r o := by rw [close, if_pos rfl]
theorem ne_shut {c : UInt8} (h : isL c = true) : c ≠ 41 := fun e => by rw [e] at h; cases h
theorem ne_open {c : UInt8} (h : isL c = true) : c ≠ 40 := fun e => by rw [e] at h; cases h
theorem close_let {c : UInt8} (h : isL c = true) (r : List UInt8) (o : Nat) : close (c :: r) (o + 1) = close r (o + 1) := by rw [close, if_neg (ne_shut h), if_pos h]
theorem close_open (r : List UInt8) (o : Nat) : close (40 :: r) (o + 1) = close r (o + 2) := by rw [close, if_neg (by decide), if_neg (by decide), if_pos rfl]
theorem close_bad {c : UInt8} (h : isL c = false) (h1 : c ≠ 40) (h2 : c ≠ 41) (r : List UInt8) (o : Nat) : close (c :: r) (o + 1) = none := by rw [close, if_neg h2, if_neg (by simp [h]), if_neg h1]
theorem piece_let {c : UInt8} (h : isL c = true) (r : List UInt8) : piece (c :: r) = some r := by rw [piece, if_pos h]
theorem piece_open (r : List UInt8) : piece (40 :: r) = close r 1 := by rw [piece, if_neg (by decide), if_pos rfl]
theorem piece_bad {c : UInt8} (h : isL c = false) (h1 : c ≠ 40) (r : List UInt8) : piece (c :: r) = none := by rw [piece, if_neg (by simp [h]), if_neg h1]
theorem piece_shut (r : List UInt8) : piece (41 :: r) = none := piece_bad (by decide) (by decide) r
theorem close_drop : ∀ (l : List UInt8) (o : Nat) (r : List UInt8), close l o = some r → r.length + o ≤ l.length ∧ l.drop (l.length - r.length) = r := by
  intro l
  induction l with
  | nil => intro o r h; cases o with
    | zero => rw [close_zero] at h; injection h with h; subst h; simp
    | succ o => rw [close_nil] at h; cases h
  | cons c l ih =>
    intro o r h
    have step : ∀ o', close l o' = some r → r.length + o' ≤ l.length ∧ (c :: l).drop ((c :: l).length - r.length) = r := fun o' h' => by
      obtain ⟨h1, h2⟩ := ih o' r h'
      refine ⟨h1, ?_⟩
      rw [List.length_cons, show l.length + 1 - r.length = (l.length - r.length) + 1 by omega, List.drop_succ_cons, h2]
    cases o with
    | zero => rw [close_zero] at h; injection h with h; subst h; simp
    | succ o =>
      rw [close] at h
      rw [List.length_cons] at *
      split at h
      · have := step o h; exact ⟨by omega, by simpa using this.2⟩
      · split at h
        · have := step (o + 1) h; exact ⟨by omega, by simpa using this.2⟩
        · split at h
          · have := step (o + 2) h; exact ⟨by omega, by simpa using this.2⟩
          · cases h
theorem piece_drop {l r : List UInt8} (h : piece l = some r) : r.length < l.length ∧ l.drop (l.length - r.length) = r := by
  cases l with
  | nil => cases h
  | cons c l =>
    have e : ∀ k : Nat, k ≤ l.length → (c :: l).drop ((c :: l).length - k) = l.drop (l.length - k) := fun k hk => by
      rw [List.length_cons, show l.length + 1 - k = (l.length - k) + 1 by omega, List.drop_succ_cons]
    rw [piece] at h
    split at h
    · injection h with h; subst h
      exact ⟨by simp, by rw [e _ (Nat.le_refl _)]; simp⟩
    · split at h
      · obtain ⟨h1, h2⟩ := close_drop _ _ _ h
        exact ⟨by simp; omega, by rw [e _ (by omega), h2]⟩
      · cases h
theorem piece_take {l r : List UInt8} (h : piece l = some r) : l.take (l.length - r.length) ++ r = l := by
  have := List.take_append_drop (l.length - r.length) l
  rwa [(piece_drop h).2] at this
theorem close_add : ∀ (l : List UInt8) (a b : Nat), close l (a + b) = (close l a).bind (close · b) := by
  intro l
  induction l with
  | nil => intro a b; cases a with
    | zero => rw [close_zero, Nat.zero_add]; rfl
    | succ a => rw [show a + 1 + b = (a + b) + 1 by omega, close_nil, close_nil]; rfl
  | cons c l ih =>
    intro a b
    cases a with
    | zero => rw [close_zero, Nat.zero_add]; rfl
    | succ a =>
      rw [show a + 1 + b = (a + b) + 1 by omega, close, close]
      split
      · exact ih a b
      · split
        · rw [show a + b + 1 = a + 1 + b by omega]; exact ih (a + 1) b
        · split
          · rw [show a + b + 2 = a + 2 + b by omega]; exact ih (a + 2) b
          · rfl
theorem close_piece {c : UInt8} (h : c ≠ 41) (r : List UInt8) (o : Nat) : close (c :: r) (o + 1) = (piece (c :: r)).bind (close · (o + 1)) := by
  rw [close, if_neg h, piece]
  split
  · rfl
  · split
    · rw [show o + 2 = 1 + (o + 1) by omega]; exact close_add r 1 (o + 1)
    · rfl

/-- the same, with letters that have stood -/
def closeU : List UInt8 → Nat → List Bool → Option (List UInt8 × List Bool)
  | l, 0, U => some (l, U)
  | [], _ + 1, _ => none
  | c :: r, o + 1, U => if c = 41 then closeU r o U else if isL c then (if U.getD (c.toNat - 97) true then none else closeU r (o + 1) (U.set (c.toNat - 97) true)) else if c = 40 then closeU r (o + 2) U else none
def pieceU : List UInt8 → List Bool → Option (List UInt8 × List Bool)
  | [], _ => none
  | c :: r, U => if isL c then (if U.getD (c.toNat - 97) true then none else some (r, U.set (c.toNat - 97) true)) else if c = 40 then closeU r 1 U else none
theorem closeU_zero (l : List UInt8) (U : List Bool) : closeU l 0 U = some (l, U) := by cases l <;> rfl
theorem closeU_nil (o : Nat) (U : List Bool) : closeU [] (o + 1) U = none := rfl
theorem closeU_shut (r : List UInt8) (o : Nat) (U : List Bool) : closeU (41 :: r) (o + 1) U = closeU r o U := by rw [closeU, if_pos rfl]
theorem pieceU_used {c : UInt8} (h : isL c = true) (r : List UInt8) {U : List Bool} (hu : U.getD (c.toNat - 97) true = true) : pieceU (c :: r) U = none := by rw [pieceU, if_pos h, if_pos hu]
theorem pieceU_let {c : UInt8} (h : isL c = true) (r : List UInt8) {U : List Bool} (hu : U.getD (c.toNat - 97) true = false) : pieceU (c :: r) U = some (r, U.set (c.toNat - 97) true) := by rw [pieceU, if_pos h, if_neg (by rw [hu]; decide)]
theorem pieceU_open (r : List UInt8) (U : List Bool) : pieceU (40 :: r) U = closeU r 1 U := by rw [pieceU, if_neg (by decide), if_pos rfl]
theorem pieceU_bad {c : UInt8} (h : isL c = false) (h1 : c ≠ 40) (r : List UInt8) (U : List Bool) : pieceU (c :: r) U = none := by rw [pieceU, if_neg (by simp [h]), if_neg h1]
theorem closeU_add : ∀ (l : List UInt8) (a b : Nat) (U : List Bool), closeU l (a + b) U = (closeU l a U).bind fun x => closeU x.1 b x.2 := by
  intro l
  induction l with
  | nil => intro a b U; cases a with
    | zero => rw [closeU_zero, Nat.zero_add]; rfl
    | succ a => rw [show a + 1 + b = (a + b) + 1 by omega, closeU_nil, closeU_nil]; rfl
  | cons c l ih =>
    intro a b U
    cases a with
    | zero => rw [closeU_zero, Nat.zero_add]; rfl
    | succ a =>
      rw [show a + 1 + b = (a + b) + 1 by omega, closeU, closeU]
      split
      · exact ih a b U
      · split
        · split
          · rfl
          · rw [show a + b + 1 = a + 1 + b by omega]; exact ih (a + 1) b _
        · split
          · rw [show a + b + 2 = a + 2 + b by omega]; exact ih (a + 2) b U
          · rfl
theorem closeU_piece {c : UInt8} (h : c ≠ 41) (r : List UInt8) (o : Nat) (U : List Bool) : closeU (c :: r) (o + 1) U = (pieceU (c :: r) U).bind fun x => closeU x.1 (o + 1) x.2 := by
  rw [closeU, if_neg h, pieceU]
  split
  · split <;> rfl
  · split
    · rw [show o + 2 = 1 + (o + 1) by omega]; exact closeU_add r 1 (o + 1) U
    · rfl
theorem closeU_len : ∀ (l : List UInt8) (o : Nat) (U : List Bool) (x : List UInt8 × List Bool), closeU l o U = some x → x.2.length = U.length ∧ x.1.length + o ≤ l.length ∧ l.drop (l.length - x.1.length) = x.1 := by
  intro l
  induction l with
  | nil => intro o U x h; cases o with
    | zero => rw [closeU_zero] at h; injection h with h; subst h; simp
    | succ o => rw [closeU_nil] at h; cases h
  | cons c l ih =>
    intro o U x h
    have step : ∀ o' (V : List Bool), V.length = U.length → closeU l o' V = some x → x.2.length = U.length ∧ x.1.length + o' ≤ l.length ∧ (c :: l).drop (l.length + 1 - x.1.length) = x.1 := fun o' V hV h' => by
      obtain ⟨h0, h1, h2⟩ := ih o' V x h'
      refine ⟨h0.trans hV, h1, ?_⟩
      rw [show l.length + 1 - x.1.length = (l.length - x.1.length) + 1 by omega, List.drop_succ_cons, h2]
    cases o with
    | zero => rw [closeU_zero] at h; injection h with h; subst h; simp
    | succ o =>
      rw [closeU] at h
      rw [List.length_cons]
      split at h
      · obtain ⟨a, b, c⟩ := step o U rfl h; exact ⟨a, by omega, c⟩
      · split at h
        · split at h
          · cases h
          · obtain ⟨a, b, c⟩ := step (o + 1) _ (by simp) h; exact ⟨a, by omega, c⟩
        · split at h
          · obtain ⟨a, b, c⟩ := step (o + 2) U rfl h; exact ⟨a, by omega, c⟩
          · cases h
theorem pieceU_len {l : List UInt8} {U : List Bool} {x : List UInt8 × List Bool} (h : pieceU l U = some x) : x.2.length = U.length ∧ x.1.length < l.length ∧ l.drop (l.length - x.1.length) = x.1 := by
  cases l with
  | nil => cases h
  | cons c l =>
    have e : ∀ k : Nat, k ≤ l.length → (c :: l).drop ((c :: l).length - k) = l.drop (l.length - k) := fun k hk => by
      rw [List.length_cons, show l.length + 1 - k = (l.length - k) + 1 by omega, List.drop_succ_cons]
    rw [pieceU] at h
    split at h
    · split at h
      · cases h
      · injection h with h; subst h
        exact ⟨by simp, by simp, by rw [e _ (Nat.le_refl _)]; simp⟩
    · split at h
      · obtain ⟨h0, h1, h2⟩ := closeU_len _ _ _ _ h
        exact ⟨h0, by simp; omega, by rw [e _ (by omega), h2]⟩
      · cases h
/-- how often the letter i stands in a text -/
def cntL (l : List UInt8) (i : Nat) : Nat := l.countP fun c => c.toNat == 97 + i
theorem cntL_nil (i : Nat) : cntL [] i = 0 := rfl
theorem cntL_cons (c : UInt8) (l : List UInt8) (i : Nat) : cntL (c :: l) i = cntL l i + (if c.toNat = 97 + i then 1 else 0) := by
  rw [cntL, cntL, List.countP_cons]
  by_cases h : c.toNat = 97 + i <;> simp [h]
theorem cntL_other {c : UInt8} (h : isL c = false) (l : List UInt8) {i : Nat} (hi : i < 8) : cntL (c :: l) i = cntL l i := by
  have : ¬ c.toNat = 97 + i := fun e => by simp [isL, e] at h; omega
  rw [cntL_cons, if_neg this]; omega
def usd (U : List Bool) (i : Nat) : Nat := if U.getD i true then 1 else 0
theorem usd_set (U : List Bool) (hU : U.length = 8) {k i : Nat} (hk : k < 8) (hi : i < 8) : usd (U.set k true) i = if i = k then 1 else usd U i := by
  have h2 : (U.set k true).getD i true = if i = k then true else U.getD i true := by
    rw [List.getD_eq_getElem?_getD, List.getD_eq_getElem?_getD, List.getElem?_set]
    by_cases h : k = i
    · subst h; simp [hU, hk]
    · rw [if_neg h, if_neg (fun e => h e.symm)]
  rw [usd, usd, h2]
  by_cases h : i = k
  · rw [if_pos h, if_pos h, if_pos rfl]
  · rw [if_neg h, if_neg h]
theorem closeU_iff : ∀ (l : List UInt8) (o : Nat) (U : List Bool), U.length = 8 → ((∃ V, closeU l o U = some ([], V)) ↔ (close l o = some [] ∧ ∀ i, i < 8 → cntL l i + usd U i ≤ 1)) := by
  intro l
  have hu1 : ∀ (U : List Bool) i, usd U i ≤ 1 := fun U i => by rw [usd]; split <;> omega
  induction l with
  | nil =>
    intro o U hU
    cases o with
    | zero =>
      rw [closeU_zero, close_zero]
      exact ⟨fun _ => ⟨rfl, fun i _ => (by rw [cntL_nil]; have := hu1 U i; omega)⟩, fun _ => ⟨U, rfl⟩⟩
    | succ o =>
      rw [closeU_nil, close_nil]
      exact ⟨fun ⟨_, h⟩ => (by cases h), fun ⟨h, _⟩ => by cases h⟩
  | cons c l ih =>
    intro o U hU
    cases o with
    | zero =>
      rw [closeU_zero, close_zero]
      exact ⟨fun ⟨_, h⟩ => (by injection h with h; injection h with h _; cases h), fun ⟨h, _⟩ => (by injection h with h; cases h)⟩
    | succ o =>
      by_cases h41 : c = 41
      · subst h41
        rw [closeU_shut, close_shut, ih o U hU]
        exact and_congr_right fun _ => forall_congr' fun i => forall_congr' fun hi => by rw [cntL_other (by decide) l hi]
      · cases hL : isL c
        · by_cases h40 : c = 40
          · subst h40
            rw [closeU, if_neg (by decide), if_neg (by decide), if_pos rfl, close_open, ih (o + 2) U hU]
            exact and_congr_right fun _ => forall_congr' fun i => forall_congr' fun hi => by rw [cntL_other (by decide) l hi]
          · rw [closeU, if_neg h41, if_neg (by simp [hL]), if_neg h40, close_bad hL h40 h41]
            exact ⟨fun ⟨_, h⟩ => (by cases h), fun ⟨h, _⟩ => by cases h⟩
        · have hk := isL_iff.1 hL
          rw [closeU, if_neg h41, if_pos hL, close_let hL]
          cases hb : U.getD (c.toNat - 97) true
          · rw [if_neg (by decide), ih (o + 1) _ (by simpa using hU)]
            have h0 : usd U (c.toNat - 97) = 0 := by rw [usd, hb]; rfl
            refine and_congr_right fun _ => forall_congr' fun i => forall_congr' fun hi => ?_
            rw [usd_set U hU (by omega) hi, cntL_cons]
            by_cases he : i = c.toNat - 97
            · have h2 : c.toNat = 97 + i := by omega
              rw [if_pos he, if_pos h2, he, h0]
            · rw [if_neg he, if_neg (by omega)]
              omega
          · rw [if_pos rfl]
            refine ⟨fun ⟨_, h⟩ => (by cases h), fun ⟨_, h⟩ => ?_⟩
            have := h (c.toNat - 97) (by omega)
            rw [cntL_cons, if_pos (by omega), usd, hb, if_pos rfl] at this
            omega
theorem pieceU_iff (l : List UInt8) (U : List Bool) (hU : U.length = 8) : (∃ V, pieceU l U = some ([], V)) ↔ (piece l = some [] ∧ ∀ i, i < 8 → cntL l i + usd U i ≤ 1) := by
  have hu1 : ∀ (U : List Bool) i, usd U i ≤ 1 := fun U i => by rw [usd]; split <;> omega
  cases l with
  | nil => exact ⟨fun ⟨_, h⟩ => (by cases h), fun ⟨h, _⟩ => by cases h⟩
  | cons c l =>
    cases hL : isL c
    · by_cases h40 : c = 40
      · subst h40
        rw [pieceU_open, piece_open, closeU_iff l 1 U hU]
        exact and_congr_right fun _ => forall_congr' fun i => forall_congr' fun hi => by rw [cntL_other (by decide) l hi]
      · rw [pieceU_bad hL h40, piece_bad hL h40]
        exact ⟨fun ⟨_, h⟩ => (by cases h), fun ⟨h, _⟩ => by cases h⟩
    · have hk := isL_iff.1 hL
      rw [piece_let hL]
      cases hb : U.getD (c.toNat - 97) true
      · rw [pieceU_let hL l hb]
        have h0 : usd U (c.toNat - 97) = 0 := by rw [usd, hb]; rfl
        constructor
        · rintro ⟨V, h⟩
          injection h with h
          injection h with h1 h2
          subst h1
          refine ⟨rfl, fun i hi => ?_⟩
          rw [cntL_cons, cntL_nil]
          split
          · have e : i = c.toNat - 97 := by omega
            rw [e, h0]; omega
          · have := hu1 U i; omega
        · rintro ⟨h, _⟩
          injection h with h
          subst h
          exact ⟨_, rfl⟩
      · rw [pieceU_used hL l hb]
        refine ⟨fun ⟨_, h⟩ => (by cases h), fun ⟨_, h⟩ => ?_⟩
        have := h (c.toNat - 97) (by omega)
        rw [cntL_cons, if_pos (by omega), usd, hb, if_pos rfl] at this
        omega
/-- whether a text is a pattern -/
def isPat (l : List UInt8) : Bool := decide (0 < l.length) && decide (l.length ≤ 60) && (piece l == some []) && ((List.range 8).all fun i => decide (cntL l i ≤ 1))
theorem isPat_iff {l : List UInt8} : isPat l = true ↔ l.length ≤ 60 ∧ piece l = some [] ∧ ∀ i, i < 8 → cntL l i ≤ 1 := by
  simp only [isPat, Bool.and_eq_true, decide_eq_true_eq, beq_iff_eq, List.all_eq_true, List.mem_range]
  exact ⟨fun ⟨⟨⟨_, b⟩, c⟩, d⟩ => ⟨b, c, d⟩, fun ⟨b, c, d⟩ => ⟨⟨⟨by have := (piece_drop c).1; simp at this; omega, b⟩, c⟩, d⟩⟩
theorem isPat_U {l : List UInt8} (h60 : l.length ≤ 60) : isPat l = true ↔ ∃ V, pieceU l (List.replicate 8 false) = some ([], V) := by
  rw [isPat_iff, pieceU_iff l _ (by simp)]
  have h : ∀ i, i < 8 → usd (List.replicate 8 false) i = 0 := by decide
  exact ⟨fun ⟨_, b, c⟩ => ⟨b, fun i hi => by rw [h i hi]; exact c i hi⟩, fun ⟨b, c⟩ => ⟨h60, b, fun i hi => by have := c i hi; rw [h i hi] at this; exact this⟩⟩

/-- what has to stand at the letters of a pattern, so that a text comes -/
def mt : List UInt8 → List UInt8 → Option (List (List UInt8))
  | [], _ => some []
  | c :: P, T => if isL c then (match piece T with | none => none | some r => (mt P r).map (T.take (T.length - r.length) :: ·)) else (match T with | [] => none | d :: T' => if d = c then mt P T' else none)
theorem mt_nil (T : List UInt8) : mt [] T = some [] := by rw [mt]
theorem mt_let {c : UInt8} (h : isL c = true) (P : List UInt8) {T r : List UInt8} (hr : piece T = some r) : mt (c :: P) T = (mt P r).map (T.take (T.length - r.length) :: ·) := by rw [mt.eq_def]; simp [h, hr]
theorem mt_none {c : UInt8} (h : isL c = true) (P : List UInt8) {T : List UInt8} (hr : piece T = none) : mt (c :: P) T = none := by rw [mt.eq_def]; simp [h, hr]
theorem mt_same {c : UInt8} (h : isL c = false) (P T : List UInt8) : mt (c :: P) (c :: T) = mt P T := by rw [mt.eq_def]; simp [h]
theorem mt_other {c d : UInt8} (h : isL c = false) (P T : List UInt8) (hd : d ≠ c) : mt (c :: P) (d :: T) = none := by rw [mt.eq_def]; simp [h, hd]
theorem mt_end {c : UInt8} (P : List UInt8) : mt (c :: P) [] = none := by rw [mt.eq_def]; cases h : isL c <;> simp [h, piece]
/-- both texts are read side by side -/
def both (P T : List UInt8) : Prop := (piece P = some [] ∧ piece T = some []) ∨ ∃ o, close P o = some [] ∧ close T o = some []
theorem both_end {T : List UInt8} (h : both [] T) : T = [] := by
  rcases h with ⟨h, _⟩ | ⟨o, h1, h2⟩
  · cases h
  · cases o with
    | zero => rw [close_zero] at h2; injection h2
    | succ o => rw [close_nil] at h1; cases h1
theorem both_more {c : UInt8} {P : List UInt8} (h : both (c :: P) []) : False := by
  rcases h with ⟨_, h⟩ | ⟨o, h1, h2⟩
  · cases h
  · cases o with
    | zero => rw [close_zero] at h1; injection h1 with h1; cases h1
    | succ o => rw [close_nil] at h2; cases h2
theorem both_kind {c : UInt8} {P T : List UInt8} (h : both (c :: P) T) : isL c = true ∨ c = 40 ∨ c = 41 := by
  cases hL : isL c
  · by_cases h0 : c = 40
    · exact .inr (.inl h0)
    · by_cases h1 : c = 41
      · exact .inr (.inr h1)
      · exfalso
        rcases h with ⟨h, _⟩ | ⟨o, h, _⟩
        · rw [piece_bad hL h0] at h; cases h
        · cases o with
          | zero => rw [close_zero] at h; injection h with h; cases h
          | succ o => rw [close_bad hL h0 h1] at h; cases h
  · exact .inl rfl
theorem both_let {c d : UInt8} {P T : List UInt8} (h : both (c :: P) (d :: T)) (hL : isL c = true) (hd : d ≠ 41) : ∃ r, piece (d :: T) = some r ∧ both P r := by
  rcases h with ⟨h1, h2⟩ | ⟨o, h1, h2⟩
  · rw [piece_let hL] at h1
    injection h1 with h1
    subst h1
    exact ⟨[], h2, .inr ⟨0, close_zero _, close_zero _⟩⟩
  · cases o with
    | zero => rw [close_zero] at h1; injection h1 with h1; cases h1
    | succ o =>
      rw [close_let hL] at h1
      rw [close_piece hd] at h2
      cases hp : piece (d :: T) with
      | none => rw [hp] at h2; cases h2
      | some r =>
        rw [hp] at h2
        exact ⟨r, rfl, .inr ⟨o + 1, h1, h2⟩⟩
theorem both_same {c : UInt8} {P T : List UInt8} (h : both (c :: P) (c :: T)) (hL : isL c = false) : both P T := by
  rcases h with ⟨h1, h2⟩ | ⟨o, h1, h2⟩
  · by_cases h0 : c = 40
    · subst h0
      rw [piece_open] at h1 h2
      exact .inr ⟨1, h1, h2⟩
    · rw [piece_bad hL h0] at h1; cases h1
  · cases o with
    | zero => rw [close_zero] at h1; injection h1 with h1; cases h1
    | succ o =>
      by_cases h0 : c = 41
      · subst h0
        rw [close_shut] at h1 h2
        exact .inr ⟨o, h1, h2⟩
      · by_cases h4 : c = 40
        · subst h4
          rw [close_open] at h1 h2
          exact .inr ⟨o + 2, h1, h2⟩
        · rw [close_bad hL h4 h0] at h1; cases h1
theorem mt_shut {c : UInt8} (hL : isL c = true) (P T : List UInt8) : mt (c :: P) (41 :: T) = none := mt_none hL P (piece_shut T)
end Go.Proofs.Ytmhpobgfgimfcaa.M

/- What functions of patterns must do, as F says. -/
namespace Go.Proofs.Ytmhpobgfgimfcaa
open Go.RowKit

/-- a text to a bool -/
def GivesP1 (f : Nat) (F : ByteArray → Bool) : Prop :=
  ∀ (s : ByteArray) (w : World), s.size ≤ 1048576 → Calls Try.prog f #[.string s] w fun e w' => e = .returned (.bool (F s)) ∧ Hid (Below w.heap.size w w')
/-- two texts to a bool and a code -/
def GivesPB (f : Nat) (F : ByteArray → ByteArray → Bool × Int) : Prop :=
  ∀ (s u : ByteArray) (w : World), s.size ≤ 1048576 → u.size ≤ 1048576 → Calls Try.prog f #[.string s, .string u] w fun e w' => e = .returned (.tuple #[.bool (F s u).1, .int .i64 (F s u).2]) ∧ Hid (Below w.heap.size w w')
/-- two texts to a text and a code -/
def GivesPS (f : Nat) (F : ByteArray → ByteArray → ByteArray × Int) : Prop :=
  ∀ (s u : ByteArray) (w : World), s.size ≤ 1048576 → u.size ≤ 1048576 → Calls Try.prog f #[.string s, .string u] w fun e w' => e = .returned (.tuple #[.string (F s u).1, .int .i64 (F s u).2]) ∧ Hid (Below w.heap.size w w')
end Go.Proofs.Ytmhpobgfgimfcaa

/- Contracts of three functions of the library, laid at this program: strings.IndexByte, stringslite.Clone, strings.Map. No conditions but those that each states. -/
namespace Go.Proofs
open Go.Shelf
def Try.lays137_ren : Go.Shelf.Ren := ⟨fun | 137 => 128 | 217 => 139 | 266 => 150 | n => n, fun | 9 => 9 | 5 => 5 | 3 => 3 | n => n, fun | n => n⟩
theorem Try.lays137 : Go.Proofs.Lays.n137 Try.prog Try.lays137_ren := {
  mixed := by kernel_rfl
  f137 := Try.func128.trans (congrArg some (by kernel_rfl))
  f217 := Try.func139.trans (congrArg some (by kernel_rfl))
  f266 := Try.func150.trans (congrArg some (by kernel_rfl))
  t3 := Try.underlying3
  a3 := Try.isAgg3
  z3 := Try.sizeOf3
  v3 := Try.zeroValue3
  t5 := Try.underlying5
  a5 := Try.isAgg5
  z5 := Try.sizeOf5
  v5 := Try.zeroValue5
  t9 := Try.underlying9
  a9 := Try.isAgg9
  z9 := Try.sizeOf9
  v9 := Try.zeroValue9 }
open Go.RowKit in
theorem Try.strings_IndexByte (s : ByteArray) (c : Int) (w : World) :
    Calls Try.prog 128 #[.string s, .int .u8 c] w fun e w' => e = .returned (.int .i64 (Lib.indexByte s.data.toList c.toNat.toUInt8)) ∧ w' = w := Any.strings_IndexByte Try.lays137 s c w
def Try.lays138_ren : Go.Shelf.Ren := ⟨fun | 138 => 58 | 195 => 106 | 218 => 107 | 143 => 108 | 219 => 129 | 217 => 139 | 225 => 140 | 224 => 141 | 267 => 142 | 266 => 150 | 314 => 151 | n => n, fun | 9 => 9 | 3 => 3 | 4 => 4 | 5 => 5 | 0 => 0 | 46 => 153 | 146 => 170 | 51 => 128 | n => n, fun | 1 => 0 | n => n⟩
theorem Try.lays138 : Go.Proofs.Lays.n138 Try.prog Try.lays138_ren := {
  mixed := by kernel_rfl
  f138 := Try.func58.trans (congrArg some (by kernel_rfl))
  f143 := Try.func108.trans (congrArg some (by kernel_rfl))
  f195 := Try.func106.trans (congrArg some (by kernel_rfl))
  f217 := Try.func139.trans (congrArg some (by kernel_rfl))
  f218 := Try.func107.trans (congrArg some (by kernel_rfl))
  f219 := Try.func129.trans (congrArg some (by kernel_rfl))
  f224 := Try.func141.trans (congrArg some (by kernel_rfl))
  f225 := Try.func140.trans (congrArg some (by kernel_rfl))
  f266 := Try.func150.trans (congrArg some (by kernel_rfl))
  f267 := Try.func142.trans (congrArg some (by kernel_rfl))
  f314 := Try.func151.trans (congrArg some (by kernel_rfl))
  t0 := Try.underlying0
  a0 := Try.isAgg0
  z0 := Try.sizeOf0
  v0 := Try.zeroValue0
  t3 := Try.underlying3
  a3 := Try.isAgg3
  z3 := Try.sizeOf3
  v3 := Try.zeroValue3
  t4 := Try.underlying4
  a4 := Try.isAgg4
  z4 := Try.sizeOf4
  v4 := Try.zeroValue4
  t5 := Try.underlying5
  a5 := Try.isAgg5
  z5 := Try.sizeOf5
  v5 := Try.zeroValue5
  t9 := Try.underlying9
  a9 := Try.isAgg9
  z9 := Try.sizeOf9
  v9 := Try.zeroValue9
  t46 := Try.underlying153
  a46 := Try.isAgg153
  z46 := Try.sizeOf153
  v46 := Try.zeroValue153
  t51 := Try.underlying128
  a51 := Try.isAgg128
  z51 := Try.sizeOf128
  v51 := Try.zeroValue128
  t146 := Try.underlying170
  a146 := Try.isAgg170
  z146 := Try.sizeOf170
  v146 := Try.zeroValue170
  g1 := by kernel_rfl }
open Go.RowKit Go.Lib in
theorem Try.strings_Count_one (s : ByteArray) (c : UInt8) (w : World) :
    Calls Try.prog 58 #[.string s, .string ⟨#[c]⟩] w fun e w' => e = .returned (.int .i64 (Lib.countByte s.data.toList c)) ∧ w' = w := Any.strings_Count_one Try.lays138 s c w
def Try.lays99_ren : Go.Shelf.Ren := ⟨fun | 99 => 113 | 206 => 130 | n => n, fun | 9 => 9 | 4 => 4 | 3 => 3 | n => n, fun | n => n⟩
theorem Try.lays99 : Go.Proofs.Lays.n99 Try.prog Try.lays99_ren := {
  mixed := by kernel_rfl
  f99 := Try.func113.trans (congrArg some (by kernel_rfl))
  f206 := Try.func130.trans (congrArg some (by kernel_rfl))
  t3 := Try.underlying3
  a3 := Try.isAgg3
  z3 := Try.sizeOf3
  v3 := Try.zeroValue3
  t4 := Try.underlying4
  a4 := Try.isAgg4
  z4 := Try.sizeOf4
  v4 := Try.zeroValue4
  t9 := Try.underlying9
  a9 := Try.isAgg9
  z9 := Try.sizeOf9
  v9 := Try.zeroValue9 }
open Go.RowKit Go.Lib in
theorem Try.strings_HasPrefix (s p : ByteArray) (w : World) :
    Calls Try.prog 113 #[.string s, .string p] w fun e w' => e = .returned (.bool (Lib.hasPrefix s.data.toList p.data.toList)) ∧ w' = w := Any.strings_HasPrefix Try.lays99 s p w
end Go.Proofs

/- isLetter: whether a byte is a letter of patterns. -/
namespace Go.Proofs.Ytmhpobgfgimfcaa
open Go.RowKit

theorem index_all : ∀ n : Fin 256, decide (0 ≤ Lib.indexByte [97, 98, 99, 100, 101, 102, 103, 104] (UInt8.ofNat n.1)) = (decide (97 ≤ n.1) && decide (n.1 ≤ 104)) := by decide +kernel
theorem index_isL (c : UInt8) : decide (0 ≤ Lib.indexByte [97, 98, 99, 100, 101, 102, 103, 104] c) = M.isL c := by
  have h := index_all ⟨c.toNat, c.toNat_lt⟩
  rw [M.isL]
  simpa using h
theorem isLetter (c : UInt8) (w : World) : Calls Try.prog 105 #[.int .u8 (c.toNat : Int)] w fun e w' => e = .returned (.bool (M.isL c)) ∧ w' = w := by
  have h := Try.strings_IndexByte ⟨#[97, 98, 99, 100, 101, 102, 103, 104]⟩ (c.toNat : Int) w
  have hc : ((c.toNat : Int)).toNat.toUInt8 = c := by simp
  rw [hc] at h
  have h2 := index_isL c
  have h3 : (⟨#[97, 98, 99, 100, 101, 102, 103, 104]⟩ : ByteArray).data.toList = [97, 98, 99, 100, 101, 102, 103, 104] := rfl
  rw [h3] at h
  rw [← h2]
  have H := Lib.hid h
  clear h h2 h3 hc
  generalize Lib.indexByte [97, 98, 99, 100, 101, 102, 103, 104] c = z at *
  go_enter Try.func105, Try.ntmps105
  go_wp2_with (go_at_call 128; refine H.out.mono ?_; rintro e w' ⟨rfl, hw⟩; subst hw)
  go_ret
  exact ⟨rfl, rfl⟩
end Go.Proofs.Ytmhpobgfgimfcaa

/- A scope in which the run jumps to labels, several of them: what holds at each jump, and a measure that each pass lowers. No program is named here. -/
namespace Go.Proofs.Ytmhpobgfgimfcaa
open Go

/-- as Q; by a goto to a label l: J l -/
def jumpsTo (J : Nat → Act → World → Prop) (Q : Exit → Act → World → Prop) : Exit → Act → World → Prop
  | .goto l, a, w => J l a w
  | e, a, w => Q e a w

theorem wp_scope_labels {P : Program} {a : Act} {w : World} {Q : Exit → Act → World → Prop} {c : Code} (J : Nat → Act → World → Prop) (μ : Nat → Act → World → Nat)
    (m : Nat) (first : c.wp P (jumpsTo (fun l a w => J l a w ∧ μ l a w < m) Q) a w)
    (pass : ∀ l a w, J l a w → ∃ rest, findLabel c l = some rest ∧ rest.wp P (jumpsTo (fun l' a' w' => J l' a' w' ∧ μ l' a' w' < μ l a w) Q) a w) : (Code.scope c).wp P Q a w := by
  intro b k cs
  have hg : ∀ l rest, findLabel c l = some rest → gotoIn l (.inScope c :: k) = some (.code rest :: .inScope c :: k) := fun l rest hf => by simp [gotoIn, hf]
  have key : ∀ n l a w rest, findLabel c l = some rest → μ l a w = n → J l a w → ∃ e a' w', Q e a' w' ∧ Arrives P (lone (b.at a (.code rest :: .inScope c :: k)) cs w) b k cs e a' w' := by
    intro n
    induction n using Nat.strongRecOn with
    | _ n ih =>
      intro l a w rest hf hn hJ
      obtain ⟨rest', hf', hp⟩ := pass l a w hJ
      rw [hf] at hf'
      injection hf' with hf'
      subst hf'
      obtain ⟨e, a₁, w₁, hq, harr⟩ := hp b (.inScope c :: k) cs
      cases e with
      | normal => exact ⟨.normal, a₁, w₁, hq, Steps.trans harr (.one step_inScope)⟩
      | exit id => exact ⟨.exit id, a₁, w₁, hq, fun k' hk => harr k' (by simp [exitTo, hk])⟩
      | goto l' =>
        obtain ⟨hJ', hlt⟩ := hq
        obtain ⟨r2, hf2, _⟩ := pass l' a₁ w₁ hJ'
        obtain ⟨e₂, a₂, w₂, hq₂, harr₂⟩ := ih _ (by omega) l' a₁ w₁ r2 hf2 rfl hJ'
        exact ⟨e₂, a₂, w₂, hq₂, .of_steps (harr _ (hg _ _ hf2)) harr₂⟩
      | ret => exact ⟨_, a₁, w₁, hq, harr⟩
      | panic ch => exact ⟨_, a₁, w₁, hq, harr⟩
      | outgrown => exact ⟨_, a₁, w₁, hq, harr⟩
  obtain ⟨e, a₁, w₁, hq, harr⟩ := first b (.inScope c :: k) cs
  cases e with
  | normal => exact ⟨.normal, a₁, w₁, hq, .head step_scope (Steps.trans harr (.one step_inScope))⟩
  | exit id => exact ⟨.exit id, a₁, w₁, hq, fun k' hk => .head step_scope (harr k' (by simp [exitTo, hk]))⟩
  | goto l' =>
    obtain ⟨r2, hf2, _⟩ := pass l' a₁ w₁ hq.1
    obtain ⟨e₂, a₂, w₂, hq₂, harr₂⟩ := key _ l' a₁ w₁ r2 hf2 rfl hq.1
    exact ⟨e₂, a₂, w₂, hq₂, .of_steps (.head step_scope (harr _ (hg _ _ hf2))) harr₂⟩
  | ret => exact ⟨_, a₁, w₁, hq, .of_steps (.one step_scope) harr⟩
  | panic ch => exact ⟨_, a₁, w₁, hq, .of_steps (.one step_scope) harr⟩
  | outgrown => exact ⟨_, a₁, w₁, hq, .of_steps (.one step_scope) harr⟩
end Go.Proofs.Ytmhpobgfgimfcaa
