/- Words for slices of int64 in memory, and small lemmas on worlds: what the walks of this seat share. No conditions. -/
import Derived.Test.YtdgcjkgbglofbaaRows
import Derived.WalkKit
import Derived.OwnWalk
import Derived.Lib.Hide
import Derived.Outline
import Derived.LoopTactic
import Derived.Deep.QuietTactic
import Derived.BigQuiet
import Derived.Deep.Draws
import Derived.Deep.OwnRows
import Derived.Maps.OwnSet
import Derived.Maps.OwnOps
import Derived.Maps.Views
import Derived.WideKeyPair
import Derived.Maps.AppendAt
import Derived.RangeFuncBox
import Derived.Deep.RegionHeld3
import Derived.Laws.AppendOwnNone
import Derived.WalkSpells
import Derived.RangeFuncRecord
namespace Go.Proofs.Ytdgcjkgbglofbaa
open Go.RowKit

/-- The slice value '.slice A zs.length c' reads as zs, below block B. -/
def Ints (w : World) (B : Nat) (A : Option Addr) (zs : List Int) : Prop :=
  0 < zs.length → ∃ b off, A = some ⟨b, off, none⟩ ∧ b < B ∧ ∀ j x, zs[j]? = some x → w.cell? ⟨b, off + j, none⟩ = some (.int .i64 x)

theorem Ints.nil_ (w : World) (B : Nat) (A : Option Addr) : Ints w B A [] := fun h => absurd h (by simp)

theorem Ints.at_ {w : World} {B : Nat} {A : Option Addr} {zs : List Int} (h : Ints w B A zs) {k : Nat} (hk : k < zs.length) :
    ∃ b off x, A = some ⟨b, off, none⟩ ∧ b < B ∧ w.cell? ⟨b, off + k, none⟩ = some (.int .i64 x) ∧ Hid (zs[k]? = some x) := by
  obtain ⟨b, off, e, hb, hc⟩ := h (by omega)
  exact ⟨b, off, zs[k], e, hb, hc k _ (List.getElem?_eq_getElem hk), List.getElem?_eq_getElem hk⟩

theorem Ints.keep {w w' : World} {B : Nat} {A : Option Addr} {zs : List Int} (h : Ints w B A zs) (hk : ∀ p : Addr, p.block < B → w'.cell? p = w.cell? p) : Ints w' B A zs := fun hn => by
  obtain ⟨b, off, e, hb, hc⟩ := h hn
  exact ⟨b, off, e, hb, fun j x hx => (hk ⟨b, off + j, none⟩ hb).trans (hc j x hx)⟩

theorem Ints.more {w : World} {B B' : Nat} {A : Option Addr} {zs : List Int} (h : Ints w B A zs) (hB : B ≤ B') : Ints w B' A zs := fun hn => by
  obtain ⟨b, off, e, hb, hc⟩ := h hn
  exact ⟨b, off, e, by omega, hc⟩

theorem Ints.below {w w' : World} {B B' : Nat} {A : Option Addr} {zs : List Int} (h : Ints w B A zs) (hb : Below B' w w') (hB : B ≤ B') : Ints w' B A zs :=
  h.keep fun p hp => hb.cell (p := p) (by omega)

theorem Ints.alloc {w : World} {B : Nat} {A : Option Addr} {zs : List Int} (h : Ints w B A zs) (hB : B ≤ w.heap.size) (o : Obj) : Ints (w.alloc o) B A zs :=
  h.keep fun p hp => World.cell?_alloc_lt w o p (by omega)

theorem Ints.al {w : World} {A : Option Addr} {zs : List Int} (h : Ints w w.heap.size A zs) (o : Obj) : Ints (w.alloc o) (w.alloc o).heap.size A zs :=
  (h.alloc (Nat.le_refl _) o).more (by simp)

theorem Ints.be {w w' : World} {A : Option Addr} {zs : List Int} (h : Ints w w.heap.size A zs) (hb : Below w.heap.size w w') : Ints w' w'.heap.size A zs :=
  (h.below hb (Nat.le_refl _)).more hb.size

theorem Ints.drewN {w : World} {B : Nat} {A : Option Addr} {zs : List Int} (h : Ints w B A zs) (n : Nat) : Ints (w.drewN n) B A zs := h

theorem below_drewN {B : Nat} {a w : World} (h : Below B a w) (n : Nat) : Below B a (w.drewN n) := ⟨h.os, h.tape, h.output, h.size, h.block⟩

theorem ints_of_own {w : World} {base e n c : Nat} {A : Option Addr} {zs : List Int} (h : w.ownsRow base e 1 (.slice A n c) n (zs.map (Value.int .i64))) : n = zs.length ∧ Ints w w.heap.size A zs := by
  have hn : n = zs.length := by have := h.1; simpa using this.symm
  refine ⟨hn, fun hz => ?_⟩
  rcases h.2 with ⟨_, h0⟩ | ⟨g, cap, cur, hv, _, hg, _⟩
  · omega
  · injection hv with h1 h2 h3
    subst h1
    refine ⟨g, 0, rfl, (Array.getElem?_eq_some_iff.1 hg).1, fun j x hx => ?_⟩
    have := h.cells (g := g) rfl j (.int .i64 x) (by simp [hx])
    have ha : (⟨g, 0, none⟩ : Addr).add j = ⟨g, j, none⟩ := by unfold Addr.add; split <;> simp_all
    rw [ha] at this
    rw [Nat.zero_add]
    exact this


/-- The element type of the slices: int64. -/
theorem info64 : (Try.prog.info? 2).map (fun i => (i.zero, i.size, i.bytes)) = some (some (.int .i64 0), 1, 8) := by kernel_rfl

/-- the slice value v owns a row that reads zs -/
abbrev Own64 (w : World) (B : Nat) (v : Value) (zs : List Int) : Prop := w.ownsRow B 2 1 v zs.length (zs.map (Value.int .i64))

theorem ints_of_own64 {w : World} {B n c : Nat} {A : Option Addr} {zs : List Int} (h : Own64 w B (.slice A n c) zs) : Ints w w.heap.size A zs := by
  have hn : n = zs.length := by
    rcases h.2 with ⟨h1, h2⟩ | ⟨g, cap, cur, hv, _⟩
    · injection h1 with _ h1 _; omega
    · injection hv
  subst hn
  exact (ints_of_own h).2

theorem cell_al {w : World} {b : Nat} {v : Value} (h : w.cell? ⟨b, 0, none⟩ = some v) (o : Obj) : (w.alloc o).cell? ⟨b, 0, none⟩ = some v :=
  (World.cell?_alloc_lt w o ⟨b, 0, none⟩ (World.block_lt_of_cell? _ _ h)).trans h

theorem own64_made {w : World} {B n : Nat} (hB : B ≤ w.heap.size) (hn : n ≤ maxLen) :
    Own64 (w.alloc (.cells (madeCells #[.int .i64 0] n) 2)) B (.slice (some ⟨w.heap.size, 0, none⟩) n n) (List.replicate n 0) := by
  have h := World.ownsRow_lit (e := 2) (size := 1) w (madeCells #[.int .i64 0] n) n hB hn (by simp [size_madeCells])
  rw [toList_madeCells_one] at h
  simpa [Own64] using h

theorem own64_set {w : World} {B g n c : Nat} {zs : List Int} (h : Own64 w B (.slice (some ⟨g, 0, none⟩) n c) zs) (hn : zs.length = n) (k : Nat) (x : Int) :
    Own64 (w.setCell ⟨g, k, none⟩ (.int .i64 x)) B (.slice (some ⟨g, 0, none⟩) n c) (zs.set k x) := by
  subst hn
  have := (World.ownsRow.stored h k (.int .i64 x)).1
  simpa [Own64, List.map_set] using this

theorem own64_cell {w : World} {B g n c : Nat} {zs : List Int} (h : Own64 w B (.slice (some ⟨g, 0, none⟩) n c) zs) (hn : zs.length = n) {k : Nat} {x : Int} (hx : zs[k]? = some x) :
    w.cell? ⟨g, k, none⟩ = some (.int .i64 x) ∧ w.frozen? ⟨g, k, none⟩ = false ∧ B ≤ g ∧ g < w.heap.size := by
  subst hn
  have hk : k < zs.length := (List.getElem?_eq_some_iff.1 hx).1
  have hl := World.ownsRow.lt h g rfl
  exact ⟨(World.ownsRow.cellAt h k (by omega)).trans (by simp [hx]), World.ownsRow.frozenAt h k, hl.1, hl.2⟩

theorem own_mono {w : World} {base base' e size n : Nat} {v : Value} {xs : List Value} (h : w.ownsRow base e size v n xs) (hB : base' ≤ base) : w.ownsRow base' e size v n xs := by
  refine ⟨h.1, ?_⟩
  rcases h.2 with h2 | ⟨g, cap, cur, hv, hg, r⟩
  · exact .inl h2
  · exact .inr ⟨g, cap, cur, hv, by omega, r⟩

theorem own_far {w : World} {base e size n g k : Nat} {v : Value} {xs : List Value} (h : w.ownsRow base e size v n xs) (hg : g < base) (u : Value) : (w.setCell ⟨g, k, none⟩ u).ownsRow base e size v n xs :=
  ownsRow_setCell_below h (a := ⟨g, k, none⟩) hg u

theorem own_below {w w' : World} {B base e size n : Nat} {v : Value} {xs : List Value} (h : w.ownsRow base e size v n xs) (hb : Below B w w') (hB : w.heap.size ≤ B) : w'.ownsRow base e size v n xs := by
  refine ⟨h.1, ?_⟩
  rcases h.2 with h2 | ⟨g, cap, cur, hv, hg, hh, r⟩
  · exact .inl h2
  · exact .inr ⟨g, cap, cur, hv, hg, (hb.block g (by have := (Array.getElem?_eq_some_iff.1 hh).1; omega)).trans hh, r⟩

/-- 'Below' from a world's own size on, with no side conditions: a new block, a call, a draw -/
theorem b0 (a : World) : Below a.heap.size a a := Below.refl _ _
theorem bal {a w : World} (h : Below a.heap.size a w) (o : Obj) : Below a.heap.size a (w.alloc o) := h.alloc h.size o
theorem btr {a W w : World} (h : Below a.heap.size a W) (k : Below W.heap.size W w) : Below a.heap.size a w := h.trans (k.mono h.size)

theorem below_setCell {B : Nat} {a w : World} (h : Below B a w) {g k : Nat} (hg : B ≤ g) (u : Value) : Below B a (w.setCell ⟨g, k, none⟩ u) := h.setCell (p := ⟨g, k, none⟩) hg u

end Go.Proofs.Ytdgcjkgbglofbaa

/- Numbers of lists of trees by nodes and trees: the recursion, and bounds. No program is named here. -/
namespace Go.Proofs.Ytdgcjkgbglofbaa.M
def sumTo (f : Nat → Nat) : Nat → Nat
  | 0 => 0
  | k + 1 => sumTo f k + f k
theorem sumTo_congr {f g : Nat → Nat} : ∀ {k : Nat}, (∀ i, i < k → f i = g i) → sumTo f k = sumTo g k := by
  intro k
  induction k with
  | zero => intro _; rfl
  | succ k ih => intro h; simp only [sumTo]; rw [ih fun i hi => h i (by omega), h k (by omega)]
theorem sumTo_le {f : Nat → Nat} {j : Nat} : ∀ {k : Nat}, j ≤ k → sumTo f j ≤ sumTo f k := by
  intro k
  induction k with
  | zero => intro h; obtain rfl : j = 0 := by omega
            exact Nat.le_refl _
  | succ k ih =>
    intro h
    rcases Nat.lt_or_ge j (k + 1) with h1 | h1
    · have := ih (by omega); simp only [sumTo]; omega
    · obtain rfl : j = k + 1 := by omega
      exact Nat.le_refl _
/-- the number of lists of t trees that have n nodes together -/
def L : Nat → Nat → Nat
  | 0, t => if t = 0 then 1 else 0
  | n + 1, t => if t = 0 ∨ n + 1 < t then 0 else sumTo (fun d => L n (t - 1 + d)) (n + 1 - t + 1)
theorem L_base {n t : Nat} (h : n < t ∨ t = 0) : L n t = if n = t then 1 else 0 := by
  cases n with
  | zero => simp only [L]; by_cases h0 : t = 0 <;> simp [h0]; omega
  | succ n => rw [L, if_pos (by omega), if_neg (by omega)]
theorem L_rec {n t : Nat} (h : t ≤ n) (h0 : 0 < t) : L n t = sumTo (fun d => L (n - 1) (t - 1 + d)) (n - t + 1) := by
  cases n with
  | zero => omega
  | succ n => rw [L, if_neg (by omega)]; rfl
theorem pow_split {K j : Nat} (h : j < K) : 2 ^ (K - j) = 2 ^ (K - 1 - j) + 2 ^ (K - 1 - j) := by
  have : K - j = (K - 1 - j) + 1 := by omega
  rw [this, Nat.pow_succ]; omega
theorem sum_pow {f : Nat → Nat} {K : Nat} : ∀ j, j ≤ K → (∀ d, d < j → f d ≤ 2 ^ (K - 1 - d)) → sumTo f j + 2 ^ (K - j) ≤ 2 ^ K := by
  intro j
  induction j with
  | zero => intro _ _; simp [sumTo]
  | succ j ih =>
    intro hj hf
    have h1 := ih (by omega) fun d hd => hf d (by omega)
    have h2 := hf j (by omega)
    have h3 := pow_split (K := K) (j := j) (by omega)
    have h4 : K - (j + 1) = K - 1 - j := by omega
    simp only [sumTo]
    rw [h4]
    omega
theorem L_le : ∀ (n t : Nat), t ≤ n → L n t ≤ 2 ^ (2 * n - t) := by
  intro n
  induction n with
  | zero => intro t ht; obtain rfl : t = 0 := by omega
            simp [L]
  | succ n ih =>
    intro t ht
    rcases Nat.eq_zero_or_pos t with h0 | h0
    · subst h0
      rw [L_base (.inr rfl), if_neg (by omega)]
      exact Nat.zero_le _
    · rw [L_rec ht h0]
      have := sum_pow (f := fun d => L n (t - 1 + d)) (K := 2 * (n + 1) - t) (n + 1 - t + 1) (by omega) (fun d hd => by
        have h1 := ih (t - 1 + d) (by omega)
        have h2 : 2 * n - (t - 1 + d) = 2 * (n + 1) - t - 1 - d := by omega
        rw [h2] at h1
        exact h1)
      exact Nat.le_trans (Nat.le_add_right _ _) this
/-- within 30 nodes everything fits -/
theorem L_small {n t : Nat} (hn : n ≤ 30) : L n t ≤ 1152921504606846976 := by
  rcases Nat.lt_or_ge n t with h | h
  · rw [L_base (.inl h)]; split <;> omega
  · have h1 := L_le n t h
    have h2 : 2 ^ (2 * n - t) ≤ 2 ^ 60 := Nat.pow_le_pow_right (by omega) (by omega)
    have h3 : (2 : Nat) ^ 60 = 1152921504606846976 := by decide
    omega
theorem Lsum_small {n t j : Nat} (hn : n ≤ 30) (ht : t ≤ n) (h0 : 0 < t) (hj : j ≤ n - t + 1) : sumTo (fun d => L (n - 1) (t - 1 + d)) j ≤ 1152921504606846976 := by
  have h1 := sumTo_le (f := fun d => L (n - 1) (t - 1 + d)) hj
  have h2 := L_small (n := n) (t := t) hn
  rw [L_rec ht h0] at h2
  omega
end Go.Proofs.Ytdgcjkgbglofbaa.M

/- The map that keeps numbers of ways by two numbers: what its block is good for, and the function that keeps them. -/
namespace Go.Proofs.Ytdgcjkgbglofbaa
open Go.RowKit Go.Maps Go.WideMaps

theorem arrK : ArrKey Try.prog 237 2 2 := ⟨Try.underlying237, by kernel_rfl, by kernel_rfl, by kernel_rfl⟩
theorem sizeK : ∃ m, Try.prog.types.size = m + 1 := ⟨Try.prog.types.size - 1, by kernel_rfl⟩
theorem keyedK : Keyed Try.prog 237 := Keyed.of_law arrK.law
theorem zeroI (w : World) : (zeroValue 2).run Try.prog w = .ok (.int .i64 0) w := by kernel_rfl

def kl (i j : Nat) : Lit := .string (keyBytes [.int .i64 (i : Int), .int .i64 (j : Int)])
theorem wfN {i : Nat} (h : i ≤ 1000000000000) : (Lit.int .i64 (i : Int)).wf = true := WalkArith.wf_i64 (by omega)
theorem keyOf_kl {i j : Nat} (hi : i ≤ 1000000000000) (hj : j ≤ 1000000000000) : keyOf Try.prog 237 (.agg #[.int .i64 (i : Int), .int .i64 (j : Int)]) = some (kl i j) :=
  keyOf_pair arrK Try.underlying2 sizeK (wfN hi) (wfN hj)
theorem kl_inj {i j i' j' : Nat} (hi : i ≤ 1000000000000) (hj : j ≤ 1000000000000) (hi' : i' ≤ 1000000000000) (hj' : j' ≤ 1000000000000) (h : kl i j = kl i' j') : i = i' ∧ j = j' := by
  have h1 := keyOf_kl hi hj
  have h2 := keyOf_kl hi' hj'
  rw [← h] at h2
  have := keyedK.inj h1 h2
  injection this with this
  injection this with this
  injection this with e1 e2
  injection e2 with e2 _
  injection e1 with _ e1
  injection e2 with _ e2
  omega
theorem kl_key {i j : Nat} (hi : i ≤ 1000000000000) (hj : j ≤ 1000000000000) : WideAt.IsKeyLit (kl i j) := keyedK.key (keyOf_kl hi hj)

namespace M
theorem filter_lt {α : Type} {p q : α → Bool} (h : ∀ x, q x = true → p x = true) : ∀ (l : List α) (x : α), x ∈ l → p x = true → q x = false → (l.filter q).length + 1 ≤ (l.filter p).length := by
  intro l
  induction l with
  | nil => intro x hx; cases hx
  | cons y r ih =>
    intro x hx hp hq
    have hle : ∀ r : List α, (r.filter q).length ≤ (r.filter p).length := by
      intro r
      induction r with
      | nil => exact Nat.le_refl _
      | cons z r ihr =>
        simp only [List.filter_cons]
        cases hqz : q z
        · cases p z <;> simp <;> omega
        · rw [h z hqz]; simp; omega
    simp only [List.filter_cons]
    rcases List.mem_cons.1 hx with rfl | hx
    · rw [hp, hq]
      have := hle r
      simp
      omega
    · have := ih x hx hp hq
      cases hqy : q y
      · cases p y <;> simp <;> omega
      · rw [h y hqy]; simp; omega
def pairs : List (Nat × Nat) := (List.range 32).flatMap fun i => (List.range 32).map fun j => (i, j)
theorem pairs_mem {i j : Nat} (hi : i < 32) (hj : j < 32) : (i, j) ∈ pairs := by
  simp only [pairs, List.mem_flatMap, List.mem_map, List.mem_range]
  exact ⟨i, hi, j, hj, rfl⟩
theorem pairs_bd {p : Nat × Nat} (h : p ∈ pairs) : p.1 < 32 ∧ p.2 < 32 := by
  simp only [pairs, List.mem_flatMap, List.mem_map, List.mem_range] at h
  obtain ⟨i, hi, j, hj, rfl⟩ := h
  exact ⟨hi, hj⟩
end M

def absent (D : DataW Unit) : Nat := (M.pairs.filter fun p => !has D (kl p.1 p.2)).length

/-- block b is a map that holds for each of its pairs the number that L says -/
def Memo (L : Nat → Nat → Nat) (w : World) (b : Nat) : Prop :=
  ∃ D : DataW Unit, w.ownsMap Try.prog 237 (plainElem Try.prog 2) b (Maps.size D) D ∧ (∀ i j : Nat, i < 32 → j < 32 → has D (kl i j) = true → ∀ z, D.atKey (kl i j) z = .lit (.int .i64 (L i j : Int))) ∧ Maps.size D + absent D ≤ 1024

theorem Memo.lt {L : Nat → Nat → Nat} {w : World} {b : Nat} (h : Memo L w b) : b < w.heap.size := by obtain ⟨D, h1, _⟩ := h; exact h1.lt
theorem Memo.kept {L : Nat → Nat → Nat} {w w' : World} {b : Nat} {row : Option Nat} (h : Memo L w b) (hg : w.grownBy w' row) (hne : some b ≠ row) : Memo L w' b := by
  obtain ⟨D, h1, h2, h3⟩ := h
  exact ⟨D, h1.kept hg hne, h2, h3⟩
theorem Memo.alloc {L : Nat → Nat → Nat} {w : World} {b : Nat} (h : Memo L w b) (o : Obj) : Memo L (w.alloc o) b := h.kept (World.grownBy_alloc w o none) (by simp)
theorem Memo.new (L : Nat → Nat → Nat) (w : World) : Memo L (w.alloc (.map #[] 0)) w.heap.size :=
  ⟨.map [], World.ownsMap_made _ _ _ _, fun i j _ _ h => by simp [has] at h, by
    have : absent (.map []) ≤ 1024 := Nat.le_trans (List.length_filter_le _ _) (by decide +kernel)
    simpa [Maps.size] using this⟩

theorem ownsMap_size {w : World} {k b n : Nat} {R : Value → Option (DataW Unit × List MemPlace)} {D : DataW Unit} (h : w.ownsMap Try.prog k R b n D) : w.ownsMap Try.prog k R b (Maps.size D) D := by
  obtain ⟨es, clock, hb, F, hs, hD⟩ := h
  refine ⟨es, clock, hb, F, ?_, hD⟩
  rw [hD]
  show es.size ≤ (List.foldr DataW.insert [] _).length
  rw [length_sorted]
  simp

theorem Memo.put {L : Nat → Nat → Nat} {w : World} {D : DataW Unit} {b i j n : Nat} (hi : i < 32) (hj : j < 32) (hT : Tidy D) (hv : ∀ i j : Nat, i < 32 → j < 32 → has D (kl i j) = true → ∀ z, D.atKey (kl i j) z = .lit (.int .i64 (L i j : Int))) (hs : Maps.size D + absent D ≤ 1024)
    (h : w.ownsMap Try.prog 237 (plainElem Try.prog 2) b n (D.put (kl i j) (.lit (.int .i64 (L i j : Int))))) : Memo L w b := by
  have hne : ∀ i' j' : Nat, i' < 32 → j' < 32 → (i', j') ≠ (i, j) → kl i' j' ≠ kl i j := fun i' j' h1 h2 h3 e => h3 (by obtain ⟨e1, e2⟩ := kl_inj (by omega) (by omega) (by omega) (by omega) e; rw [e1, e2])
  refine ⟨_, ownsMap_size h, fun i' j' h1 h2 hh z => ?_, ?_⟩
  · by_cases he : (i', j') = (i, j)
    · injection he with e1 e2
      subst e1
      subst e2
      exact atKey_put_same hT.isMap (kl_key (by omega) (by omega)) _ _
    · rw [has_put_other (hne i' j' h1 h2 he)] at hh
      rw [atKey_put_other (hne i' j' h1 h2 he)]
      exact hv i' j' h1 h2 hh z
  · rw [size_put hT]
    have hmono : ∀ p ∈ M.pairs, (!has (D.put (kl i j) (.lit (.int .i64 (L i j : Int)))) (kl p.1 p.2)) = true → (!has D (kl p.1 p.2)) = true := fun p hp hq => by
      obtain ⟨h1, h2⟩ := M.pairs_bd hp
      by_cases he : (p.1, p.2) = (i, j)
      · injection he with e1 e2
        rw [e1, e2, has_put_same hT.isMap (kl_key (by omega) (by omega))] at hq
        cases hq
      · rw [has_put_other (hne _ _ h1 h2 he)] at hq
        exact hq
    have habs : absent (D.put (kl i j) (.lit (.int .i64 (L i j : Int)))) = (M.pairs.filter fun p => (!has (D.put (kl i j) (.lit (.int .i64 (L i j : Int)))) (kl p.1 p.2)) && !has D (kl p.1 p.2)).length := by
      unfold absent
      congr 1
      apply List.filter_congr
      intro p hp
      cases hq : (!has (D.put (kl i j) (.lit (.int .i64 (L i j : Int)))) (kl p.1 p.2))
      · rfl
      · rw [hmono p hp hq]; rfl
    cases hh : has D (kl i j)
    · have := M.filter_lt (p := fun p : Nat × Nat => !has D (kl p.1 p.2)) (q := fun p => (!has (D.put (kl i j) (.lit (.int .i64 (L i j : Int)))) (kl p.1 p.2)) && !has D (kl p.1 p.2)) (fun x hx => by simp only [Bool.and_eq_true] at hx; exact hx.2) M.pairs (i, j) (M.pairs_mem hi hj) (by simp [hh]) (by simp [has_put_same hT.isMap (kl_key (i := i) (j := j) (by omega) (by omega))])
      rw [habs]
      unfold absent at hs
      simp only [Bool.false_eq_true, if_false]
      omega
    · have : absent (D.put (kl i j) (.lit (.int .i64 (L i j : Int)))) ≤ absent D := by
        rw [habs]
        unfold absent
        rw [← List.filter_filter]
        exact List.length_filter_le _ _
      simp only [if_true]
      omega
end Go.Proofs.Ytdgcjkgbglofbaa

/- kept, at the closure of listsByLeaves: a number that the map holds, or that is counted and put there. -/
namespace Go.Proofs.Ytdgcjkgbglofbaa
open Go.RowKit Go.Maps Go.WideMaps

set_option maxHeartbeats 1000000 in
set_option maxRecDepth 100000 in
theorem keptlistsByLeaves {L : Nat → Nat → Nat} (b i j : Nat) (p0 p1 p2 : Addr) (w : World) (hi : i < 32) (hj : j < 32) (hL : L i j ≤ 1152921504606846976) (hm : Hid (Memo L w b))
    (hcount : Hid (∀ W, Hid (Memo L W b) → Hid (w.grownBy W (some b)) → Calls Try.prog 335 #[.pointer (some p0), .pointer (some p1), .pointer (some p2)] W fun e W' => e = .returned (.int .i64 (L i j : Int)) ∧ Hid (Memo L W' b) ∧ Hid (W.grownBy W' (some b)))) :
    Calls Try.prog 283 #[.map (some b), .agg #[.int .i64 (i : Int), .int .i64 (j : Int)], .func (.func 335) #[] #[.pointer (some p0), .pointer (some p1), .pointer (some p2)]] w fun e w' => e = .returned (.int .i64 (L i j : Int)) ∧ Hid (Memo L w' b) ∧ Hid (w.grownBy w' (some b)) := by
  obtain ⟨D, h1, h2, h3⟩ := hm.out
  have hbw := h1.lt
  have hkey := keyOf_kl (i := i) (j := j) (by omega) (by omega)
  have hg0 : Hid (w.grownBy (w.alloc (.cells #[.int .i64 (i : Int), .int .i64 (j : Int)] 237)) (some b)) := World.grownBy_alloc w _ _
  have hm0 : Hid (Memo L (w.alloc (.cells #[.int .i64 (i : Int), .int .i64 (j : Int)] 237)) b) := hm.out.alloc _
  have hown := Lib.hid (h1.alloc (.cells #[.int .i64 (i : Int), .int .i64 (j : Int)] 237))
  have hkb : Hid ((w.alloc (.cells #[.int .i64 (i : Int), .int .i64 (j : Int)] 237)).heap[w.heap.size]? = some (.cells #[.int .i64 (i : Int), .int .i64 (j : Int)] 237 (0, 0))) := World.alloc_heap_new w _
  have H2 := Lib.hid h2
  have Hkey := Lib.hid hkey
  obtain ⟨y, hy⟩ : ∃ y, Hid (L i j = y) := ⟨_, rfl⟩
  rw [hy.out] at hL hcount ⊢
  clear h1 h2 hkey
  cases hh : has D (kl i j)
  · have hcw := Lib.hid (hcount.out _ hm0 hg0)
    have Hh := Lib.hid hh
    clear hh hcount
    go_enter Try.func283, Try.ntmps283
    go_wp2_with (first | (at_lookup; refine wpList_lookup_own_ok_int _ rfl _ _ 157 rfl 237 2 .i64 keyedK Try.underlying157 Try.underlying2 (zeroI _) b (Maps.size D) D rfl hown.out _ _ rfl Hkey.out ?_; intro c hat hwc; rw [Hh.out]) | fail)
    refine hcw.out.mono ?_
    rintro e W' ⟨rfl, hm1, hg1⟩
    obtain ⟨D1, h1, h2, h4⟩ := hm1.out
    have hT := Lib.hid (h1.tidy keyedK)
    have h2 := Lib.hid h2
    have hown1 := Lib.hid h1
    have hgt := Lib.hid (hg0.out.trans hg1.out)
    have hkb1 := Lib.hid ((hg1.out.block w.heap.size (by simp) (fun e => by injection e with e; omega)).trans hkb.out)
    obtain ⟨k0, k1⟩ : W'.cell? ⟨w.heap.size, 0, none⟩ = some (.int .i64 (i : Int)) ∧ W'.cell? ⟨w.heap.size, 1, none⟩ = some (.int .i64 (j : Int)) := by
      have := hkb1.out
      constructor <;> simp [World.cell?, this]
    have hn1 : Maps.size D1 < maxLen := by unfold maxLen; omega
    have hpe : Hid (plainElem (H := Unit) Try.prog 2 (.int .i64 (y : Int)) = some (.lit (.int .i64 (y : Int)), [])) := plainElem_int Try.underlying2 (WalkArith.wf_i64 (by omega))
    clear hcw hm1 hg1 hat hwc h1
    go_wp2_with (first | (at_mapUpdate; refine wpList_mapUpdate_own _ rfl _ _ _ 157 rfl 237 2 keyedK Try.underlying157 _ b (Maps.size D1) D1 rfl hown1.out hn1 _ _ _ rfl rfl Hkey.out _ [] hpe.out ?_; intro w1 hown2 hgrow) | fail)
    go_ret
    have hput : Hid (Memo L w1 b) := Memo.put hi hj hT.out h2.out h4 (by rw [hy.out]; exact hown2)
    exact ⟨rfl, hput, hgt.out.trans hgrow⟩
  · have hat : Hid (D.atKey (kl i j) (.lit (.int .i64 0)) = .lit (.int .i64 (y : Int))) := by show _ = _; rw [H2.out i j hi hj hh, hy.out]
    have Hh := Lib.hid hh
    clear hh hcount
    go_enter Try.func283, Try.ntmps283
    go_wp2_with (first | (at_lookup; refine wpList_lookup_own_ok_int _ rfl _ _ 157 rfl 237 2 .i64 keyedK Try.underlying157 Try.underlying2 (zeroI _) b (Maps.size D) D rfl hown.out _ _ rfl Hkey.out ?_; intro c hat2 hwc; rw [Hh.out]) | fail)
    go_ret
    have e : c = (y : Int) := by have := hat.out.symm.trans hat2; injection this with this; injection this with _ this; exact this.symm
    exact ⟨by rw [← e]; rfl, hm0, hg0⟩
end Go.Proofs.Ytdgcjkgbglofbaa

/- A table of the numbers of lists of trees by nodes and leaves, checked by the kernel against the recursion and the closed form. No program is named here. -/
namespace Go.Proofs.Ytdgcjkgbglofbaa.M
def tabG : List (List Nat) := [
  [1],
  [0, 1],
  [0, 1, 1],
  [0, 1, 3, 1],
  [0, 1, 6, 6, 1],
  [0, 1, 10, 20, 10, 1],
  [0, 1, 15, 50, 50, 15, 1],
  [0, 1, 21, 105, 175, 105, 21, 1],
  [0, 1, 28, 196, 490, 490, 196, 28, 1],
  [0, 1, 36, 336, 1176, 1764, 1176, 336, 36, 1],
  [0, 1, 45, 540, 2520, 5292, 5292, 2520, 540, 45, 1],
  [0, 1, 55, 825, 4950, 13860, 19404, 13860, 4950, 825, 55, 1],
  [0, 1, 66, 1210, 9075, 32670, 60984, 60984, 32670, 9075, 1210, 66, 1],
  [0, 1, 78, 1716, 15730, 70785, 169884, 226512, 169884, 70785, 15730, 1716, 78, 1],
  [0, 1, 91, 2366, 26026, 143143, 429429, 736164, 736164, 429429, 143143, 26026, 2366, 91, 1],
  [0, 1, 105, 3185, 41405, 273273, 1002001, 2147145, 2760615, 2147145, 1002001, 273273, 41405, 3185, 105, 1],
  [0, 1, 120, 4200, 63700, 496860, 2186184, 5725720, 9202050, 9202050, 5725720, 2186184, 496860, 63700, 4200, 120, 1],
  [0, 1, 136, 5440, 95200, 866320, 4504864, 14158144, 27810640, 34763300, 27810640, 14158144, 4504864, 866320, 95200, 5440, 136, 1],
  [0, 1, 153, 6936, 138720, 1456560, 8836464, 32821152, 77364144, 118195220, 118195220, 77364144, 32821152, 8836464, 1456560, 138720, 6936, 153, 1],
  [0, 1, 171, 8721, 197676, 2372112, 16604784, 71954064, 200443464, 367479684, 449141836, 367479684, 200443464, 71954064, 16604784, 2372112, 197676, 8721, 171, 1],
  [0, 1, 190, 10830, 276165, 3755844, 30046752, 150233760, 488259720, 1057896060, 1551580888, 1551580888, 1057896060, 488259720, 150233760, 30046752, 3755844, 276165, 10830, 190, 1],
  [0, 1, 210, 13300, 379050, 5799465, 52581816, 300467520, 1126753200, 2848181700, 4936848280, 5924217936, 4936848280, 2848181700, 1126753200, 300467520, 52581816, 5799465, 379050, 13300, 210, 1],
  [0, 1, 231, 16170, 512050, 8756055, 89311761, 578399976, 2478857040, 7229999700, 14620666060, 20734762776, 20734762776, 14620666060, 7229999700, 2478857040, 578399976, 89311761, 8756055, 512050, 16170, 231, 1],
  [0, 1, 253, 19481, 681835, 12954865, 147685461, 1075994073, 5226256926, 17420856420, 40648664980, 67255063876, 79483257308, 67255063876, 40648664980, 17420856420, 5226256926, 1075994073, 147685461, 12954865, 681835, 19481, 253, 1],
  [0, 1, 276, 23276, 896126, 18818646, 238369516, 1941008916, 10606227291, 40067969766, 106847919376, 203982391536, 281248448936, 281248448936, 203982391536, 106847919376, 40067969766, 10606227291, 1941008916, 238369516, 18818646, 896126, 23276, 276, 1],
  [0, 1, 300, 27600, 1163800, 26883780, 376372920, 3405278800, 20796524100, 88385227425, 267119798440, 582806832960, 927192688800, 1081724803600, 927192688800, 582806832960, 267119798440, 88385227425, 20796524100, 3405278800, 376372920, 26883780, 1163800, 27600, 300, 1],
  [0, 1, 325, 32500, 1495000, 37823500, 582481900, 5824819000, 39525557500, 187746398125, 638337753625, 1578435172600, 2869882132000, 3863302870000, 3863302870000, 2869882132000, 1578435172600, 638337753625, 187746398125, 39525557500, 5824819000, 582481900, 37823500, 1495000, 32500, 325, 1],
  [0, 1, 351, 38025, 1901250, 52474500, 885069900, 9735768900, 73018266750, 385374185625, 1464421905375, 4073755482225, 8394405236100, 12914469594000, 14901311070000, 12914469594000, 8394405236100, 4073755482225, 1464421905375, 385374185625, 73018266750, 9735768900, 885069900, 52474500, 1901250, 38025, 351, 1],
  [0, 1, 378, 44226, 2395575, 71867250, 1322357400, 15931258200, 131432880150, 766691800875, 3237143159250, 10064572367850, 23331508670925, 40680579221100, 53644719852000, 53644719852000, 40680579221100, 23331508670925, 10064572367850, 3237143159250, 766691800875, 131432880150, 15931258200, 1322357400, 71867250, 2395575, 44226, 378, 1],
  [0, 1, 406, 51156, 2992626, 97260345, 1945206900, 25565576400, 231003243900, 1482270815025, 6917263803450, 23896002230100, 61912369414350, 121443493851225, 181497968832600, 207426250094400, 181497968832600, 121443493851225, 61912369414350, 23896002230100, 6917263803450, 1482270815025, 231003243900, 25565576400, 1945206900, 97260345, 2992626, 51156, 406, 1]]
/-- lists of trees of n nodes and k leaves together -/
def entG (n k : Nat) : Nat := (tabG.getD n []).getD k 0
/-- trees of m nodes, at least 1, and k leaves -/
def Tl (m k : Nat) : Nat := if m = 1 then (if k = 1 then 1 else 0) else entG (m - 1) k
theorem chkG_len : ((List.range 30).all fun n => (tabG.getD n []).length == n + 1) = true := by decide +kernel
theorem chkG_zero : ((List.range 30).all fun n => entG n 0 == if n = 0 then 1 else 0) = true := by decide +kernel
theorem chkG_small : (tabG.all fun r => r.all fun x => decide (x ≤ 10000000000000000)) = true := by decide +kernel
theorem chkG_rec : ((List.range 29).all fun n => (List.range (n + 1)).all fun k => entG (n + 1) (k + 1) == sumTo (fun x => sumTo (fun y => Tl (x + 1) (y + 1) * entG (n - x) (k - y)) (min (x + 1) (k + 1))) (n + 1)) = true := by decide +kernel
theorem G_base {n k : Nat} (hn : n ≤ 29) (h : n < k ∨ k = 0) : entG n k = if n = k then 1 else 0 := by
  by_cases h0 : k = 0
  · subst h0
    have := List.all_eq_true.1 chkG_zero n (List.mem_range.2 (by omega))
    simpa using this
  · have h1 := List.all_eq_true.1 chkG_len n (List.mem_range.2 (by omega))
    have h2 : (tabG.getD n []).length = n + 1 := by simpa using h1
    rw [if_neg (by omega), entG, List.getD_eq_getElem?_getD, List.getElem?_eq_none (by omega)]
    rfl
theorem G_small (n k : Nat) : entG n k ≤ 10000000000000000 := by
  simp only [entG, List.getD_eq_getElem?_getD]
  rcases hr : tabG[n]? with _ | r
  · simp
  · simp only [Option.getD_some]
    rcases hx : r[k]? with _ | x
    · simp
    · simp only [Option.getD_some]
      have h1 := List.all_eq_true.1 chkG_small r (List.mem_of_getElem? hr)
      have h2 := List.all_eq_true.1 h1 x (List.mem_of_getElem? hx)
      simpa using h2
theorem G_rec {n k : Nat} (hn : n ≤ 28) (hk : k ≤ n) : entG (n + 1) (k + 1) = sumTo (fun x => sumTo (fun y => Tl (x + 1) (y + 1) * entG (n - x) (k - y)) (min (x + 1) (k + 1))) (n + 1) := by
  have h1 := List.all_eq_true.1 chkG_rec n (List.mem_range.2 (by omega))
  have h2 := List.all_eq_true.1 h1 k (List.mem_range.2 (by omega))
  simpa using h2
/-- of i things chosen one after the other -/
def chTo (n : Nat) : Nat → Nat
  | 0 => 1
  | i + 1 => chTo n i * (n - i) / (i + 1)
def ch (n : Nat) (k : Int) : Nat := if k < 0 ∨ (n : Int) < k then 0 else chTo n (min k.toNat (n - k.toNat))
theorem ch_small {n i : Nat} (hn : n ≤ 29) (hi : i ≤ 30) : chTo n i ≤ 100000000 := by
  have : ((List.range 30).all fun n => (List.range 31).all fun i => decide (chTo n i ≤ 100000000)) = true := by decide +kernel
  have h1 := List.all_eq_true.1 this n (List.mem_range.2 (by omega))
  have h2 := List.all_eq_true.1 h1 i (List.mem_range.2 (by omega))
  simpa using h2
theorem ch_leaves {m k : Nat} (h1 : 1 ≤ m) (hm : m ≤ 29) (hk : k ≤ 30) : ch m (k : Int) * ch m ((k : Int) - 1) / m = entG m k := by
  have : ((List.range 29).all fun m => (List.range 31).all fun k => ch (m + 1) (k : Int) * ch (m + 1) ((k : Int) - 1) / (m + 1) == entG (m + 1) k) = true := by decide +kernel
  obtain ⟨m, rfl⟩ : ∃ m', m = m' + 1 := ⟨m - 1, by omega⟩
  have h2 := List.all_eq_true.1 this m (List.mem_range.2 (by omega))
  have h3 := List.all_eq_true.1 h2 k (List.mem_range.2 (by omega))
  simpa using h3
end Go.Proofs.Ytdgcjkgbglofbaa.M

/- kept, at the closure of lists: a number that the map holds, or that is counted and put there. -/
namespace Go.Proofs.Ytdgcjkgbglofbaa
open Go.RowKit Go.Maps Go.WideMaps

set_option maxHeartbeats 1000000 in
set_option maxRecDepth 100000 in
theorem keptlists {L : Nat → Nat → Nat} (b i j : Nat) (p0 p1 p2 : Addr) (w : World) (hi : i < 32) (hj : j < 32) (hL : L i j ≤ 1152921504606846976) (hm : Hid (Memo L w b))
    (hcount : Hid (∀ W, Hid (Memo L W b) → Hid (w.grownBy W (some b)) → Calls Try.prog 284 #[.pointer (some p0), .pointer (some p1), .pointer (some p2)] W fun e W' => e = .returned (.int .i64 (L i j : Int)) ∧ Hid (Memo L W' b) ∧ Hid (W.grownBy W' (some b)))) :
    Calls Try.prog 283 #[.map (some b), .agg #[.int .i64 (i : Int), .int .i64 (j : Int)], .func (.func 284) #[] #[.pointer (some p0), .pointer (some p1), .pointer (some p2)]] w fun e w' => e = .returned (.int .i64 (L i j : Int)) ∧ Hid (Memo L w' b) ∧ Hid (w.grownBy w' (some b)) := by
  obtain ⟨D, h1, h2, h3⟩ := hm.out
  have hbw := h1.lt
  have hkey := keyOf_kl (i := i) (j := j) (by omega) (by omega)
  have hg0 : Hid (w.grownBy (w.alloc (.cells #[.int .i64 (i : Int), .int .i64 (j : Int)] 237)) (some b)) := World.grownBy_alloc w _ _
  have hm0 : Hid (Memo L (w.alloc (.cells #[.int .i64 (i : Int), .int .i64 (j : Int)] 237)) b) := hm.out.alloc _
  have hown := Lib.hid (h1.alloc (.cells #[.int .i64 (i : Int), .int .i64 (j : Int)] 237))
  have hkb : Hid ((w.alloc (.cells #[.int .i64 (i : Int), .int .i64 (j : Int)] 237)).heap[w.heap.size]? = some (.cells #[.int .i64 (i : Int), .int .i64 (j : Int)] 237 (0, 0))) := World.alloc_heap_new w _
  have H2 := Lib.hid h2
  have Hkey := Lib.hid hkey
  obtain ⟨y, hy⟩ : ∃ y, Hid (L i j = y) := ⟨_, rfl⟩
  rw [hy.out] at hL hcount ⊢
  clear h1 h2 hkey
  cases hh : has D (kl i j)
  · have hcw := Lib.hid (hcount.out _ hm0 hg0)
    have Hh := Lib.hid hh
    clear hh hcount
    go_enter Try.func283, Try.ntmps283
    go_wp2_with (first | (at_lookup; refine wpList_lookup_own_ok_int _ rfl _ _ 157 rfl 237 2 .i64 keyedK Try.underlying157 Try.underlying2 (zeroI _) b (Maps.size D) D rfl hown.out _ _ rfl Hkey.out ?_; intro c hat hwc; rw [Hh.out]) | fail)
    refine hcw.out.mono ?_
    rintro e W' ⟨rfl, hm1, hg1⟩
    obtain ⟨D1, h1, h2, h4⟩ := hm1.out
    have hT := Lib.hid (h1.tidy keyedK)
    have h2 := Lib.hid h2
    have hown1 := Lib.hid h1
    have hgt := Lib.hid (hg0.out.trans hg1.out)
    have hkb1 := Lib.hid ((hg1.out.block w.heap.size (by simp) (fun e => by injection e with e; omega)).trans hkb.out)
    obtain ⟨k0, k1⟩ : W'.cell? ⟨w.heap.size, 0, none⟩ = some (.int .i64 (i : Int)) ∧ W'.cell? ⟨w.heap.size, 1, none⟩ = some (.int .i64 (j : Int)) := by
      have := hkb1.out
      constructor <;> simp [World.cell?, this]
    have hn1 : Maps.size D1 < maxLen := by unfold maxLen; omega
    have hpe : Hid (plainElem (H := Unit) Try.prog 2 (.int .i64 (y : Int)) = some (.lit (.int .i64 (y : Int)), [])) := plainElem_int Try.underlying2 (WalkArith.wf_i64 (by omega))
    clear hcw hm1 hg1 hat hwc h1
    go_wp2_with (first | (at_mapUpdate; refine wpList_mapUpdate_own _ rfl _ _ _ 157 rfl 237 2 keyedK Try.underlying157 _ b (Maps.size D1) D1 rfl hown1.out hn1 _ _ _ rfl rfl Hkey.out _ [] hpe.out ?_; intro w1 hown2 hgrow) | fail)
    go_ret
    have hput : Hid (Memo L w1 b) := Memo.put hi hj hT.out h2.out h4 (by rw [hy.out]; exact hown2)
    exact ⟨rfl, hput, hgt.out.trans hgrow⟩
  · have hat : Hid (D.atKey (kl i j) (.lit (.int .i64 0)) = .lit (.int .i64 (y : Int))) := by show _ = _; rw [H2.out i j hi hj hh, hy.out]
    have Hh := Lib.hid hh
    clear hh hcount
    go_enter Try.func283, Try.ntmps283
    go_wp2_with (first | (at_lookup; refine wpList_lookup_own_ok_int _ rfl _ _ 157 rfl 237 2 .i64 keyedK Try.underlying157 Try.underlying2 (zeroI _) b (Maps.size D) D rfl hown.out _ _ rfl Hkey.out ?_; intro c hat2 hwc; rw [Hh.out]) | fail)
    go_ret
    have e : c = (y : Int) := by have := hat.out.symm.trans hat2; injection this with this; injection this with _ this; exact this.symm
    exact ⟨by rw [← e]; rfl, hm0, hg0⟩
end Go.Proofs.Ytdgcjkgbglofbaa

/- lists: the number of lists of so many trees that have so many nodes together, with a map of what is known. -/
namespace Go.Proofs.Ytdgcjkgbglofbaa
open Go.RowKit Go.Maps Go.WideMaps

theorem oneIf (y : Bool) (w : World) : Calls Try.prog 282 #[.bool y] w fun e w' => e = .returned (.int .i64 (if y then 1 else 0)) ∧ w = w' := by
  cases y
  · go_enter Try.func282, Try.ntmps282
    go_wp2
    go_ret
    exact ⟨rfl, rfl⟩
  · go_enter Try.func282, Try.ntmps282
    go_wp2
    go_ret
    exact ⟨rfl, rfl⟩

/-- what lists does at nodes n, whatever the number of trees -/
def ListsAt (b n : Nat) : Prop := ∀ (t : Nat) (W : World), t ≤ 1000 → Hid (Memo M.L W b) →
  Calls Try.prog 211 #[.map (some b), .int .i64 (n : Int), .int .i64 (t : Int)] W fun e W' => e = .returned (.int .i64 (M.L n t : Int)) ∧ Hid (Memo M.L W' b) ∧ Hid (W.grownBy W' (some b))

set_option maxHeartbeats 1000000 in
set_option maxRecDepth 100000 in
/-- the closure: the sum over the degrees of the first node -/
theorem lists1 (b m s Bn Bt Bw : Nat) (hs : s ≤ m) (hm : m + 1 ≤ 30) (ih : Hid (ListsAt b m)) (W : World) (hM : Hid (Memo M.L W b))
    (hn : Hid (W.cell? ⟨Bn, 0, none⟩ = some (.int .i64 ((m : Int) + 1)))) (ht : Hid (W.cell? ⟨Bt, 0, none⟩ = some (.int .i64 ((s : Int) + 1)))) (hw : Hid (W.cell? ⟨Bw, 0, none⟩ = some (.map (some b)))) (hbn : b ≠ Bn) (hbt : b ≠ Bt) (hbw : b ≠ Bw) :
    Calls Try.prog 284 #[.pointer (some ⟨Bn, 0, none⟩), .pointer (some ⟨Bt, 0, none⟩), .pointer (some ⟨Bw, 0, none⟩)] W fun e W' => e = .returned (.int .i64 (M.L (m + 1) (s + 1) : Int)) ∧ Hid (Memo M.L W' b) ∧ Hid (W.grownBy W' (some b)) := by
  have hLe : Hid (M.L (m + 1) (s + 1) = M.sumTo (fun d => M.L m (s + d)) (m + 1 - (s + 1) + 1)) := M.L_rec (by omega) (by omega)
  have hsm : ∀ k, k ≤ m - s + 1 → M.sumTo (fun d => M.L m (s + d)) k ≤ 1152921504606846976 := fun k hk => M.Lsum_small (n := m + 1) (t := s + 1) (j := k) (by omega) (by omega) (by omega) (by omega)
  have Hsm := Lib.hid hsm
  have c1 := hn.out
  have c2 := ht.out
  clear hsm
  go_enter Try.func284, Try.ntmps284
  go_wp2
  clear c1 c2
  go_loopw [4, 5, 10] (fun q _ i wr => ∃ (k y : Nat), k ≤ m - s + 1 ∧ i = .int .i64 k ∧ q = .int .i64 (y : Int) ∧ Hid (M.sumTo (fun d => M.L m (s + d)) k = y) ∧ Hid (Memo M.L wr b) ∧ Hid (W.grownBy wr (some b))) (fun _ _ i _ => 40 - (intOf i).toNat)
  case atStart => exact ⟨0, 0, Nat.zero_le _, rfl, rfl, rfl, hM, World.grownBy.refl _ _⟩
  case round =>
    obtain ⟨k, y, hk, rfl, rfl, hy, hMr, hg⟩ := hrel
    have c1 := hg.out.cell hn.out (fun e => hbn (by injection e with e; exact e.symm))
    have c2 := hg.out.cell ht.out (fun e => hbt (by injection e with e; exact e.symm))
    have c3 := hg.out.cell hw.out (fun e => hbw (by injection e with e; exact e.symm))
    have hy1 := Hsm.out k hk
    rw [hy.out] at hy1
    by_cases hlt : k < m - s + 1
    · have hlt2 : (k : Int) < (m : Int) + 1 - ((s : Int) + 1) + 1 := by omega
      have hc := ih.out (s + k) wr (by omega) hMr
      rw [Int.natCast_add] at hc
      have hsum : Hid (M.sumTo (fun d => M.L m (s + d)) (k + 1) = y + M.L m (s + k)) := by show _ = _; rw [M.sumTo, hy.out]
      have hy2 := Hsm.out (k + 1) (by omega)
      rw [hsum.out] at hy2
      generalize M.L m (s + k) = z at hc hsum hy2
      have hc := Lib.hid hc
      go_wp2_with fail
      refine hc.out.mono ?_
      rintro e w2 ⟨rfl, hM2, hg2⟩
      have hgt := Lib.hid (hg.out.trans hg2.out)
      have hs2 : Hid (M.sumTo (fun d => M.L m (s + d)) (k + 1) = y + z) := hsum
      clear hc hsum hg hMr
      go_wp2
      go_roundw
      case rel => exact ⟨k + 1, y + z, by omega, by go_num, by go_num, hs2, hM2, hgt⟩
      case measure => simp [intOf]; omega
    · have hge : ¬ (k : Int) < (m : Int) + 1 - ((s : Int) + 1) + 1 := by omega
      have he : Hid (M.L (m + 1) (s + 1) = y) := by
        show _ = _
        rw [hLe.out]
        have e1 : m + 1 - (s + 1) + 1 = k := by omega
        rw [e1, hy.out]
      go_wp2
      go_ret
      exact ⟨by rw [he.out]; rfl, hMr, hg⟩

set_option maxHeartbeats 1000000 in
set_option maxRecDepth 100000 in
theorem lists_base (b n t : Nat) (W : World) (hn : n ≤ 1000) (ht : t ≤ 1000) (h : n < t ∨ t = 0) (hM : Hid (Memo M.L W b)) :
    Calls Try.prog 211 #[.map (some b), .int .i64 (n : Int), .int .i64 (t : Int)] W fun e W' => e = .returned (.int .i64 (M.L n t : Int)) ∧ Hid (Memo M.L W' b) ∧ Hid (W.grownBy W' (some b)) := by
  have hM3 : Hid (Memo M.L (((W.alloc (.cells #[.map (some b)] 157)).alloc (.cells #[.int .i64 (n : Int)] 2)).alloc (.cells #[.int .i64 (t : Int)] 2)) b) := ((hM.out.alloc _).alloc _).alloc _
  have hg3 : Hid (W.grownBy (((W.alloc (.cells #[.map (some b)] 157)).alloc (.cells #[.int .i64 (n : Int)] 2)).alloc (.cells #[.int .i64 (t : Int)] 2)) (some b)) := ((World.grownBy_alloc W _ _).trans (World.grownBy_alloc _ _ _)).trans (World.grownBy_alloc _ _ _)
  have hL := M.L_base h
  by_cases h1 : n < t
  · have hL : Hid (M.L n t = 0) := by show _ = _; rw [hL, if_neg (by omega)]
    have h2 : (n : Int) < (t : Int) := by omega
    have hq : ((n : Int) == (t : Int)) = false := by simp; omega
    rw [hL.out]
    clear h h1
    go_enter Try.func211, Try.ntmps211
    go_wp2_with (go_at_call 282; refine (oneIf _ _).mono ?_; rintro e w' ⟨rfl, rfl⟩)
    go_ret
    exact ⟨rfl, hM3, hg3⟩
  · obtain rfl : t = 0 := by omega
    have h2 : ¬ (n : Int) < ((0 : Nat) : Int) := by omega
    rcases Nat.eq_zero_or_pos n with h0 | h0
    · subst h0
      rw [hL]
      clear h h1 hL
      go_enter Try.func211, Try.ntmps211
      go_wp2_with (go_at_call 282; refine (oneIf _ _).mono ?_; rintro e w' ⟨rfl, rfl⟩)
      go_ret
      exact ⟨rfl, hM3, hg3⟩
    · have hL : Hid (M.L n 0 = 0) := by show _ = _; rw [hL, if_neg (by omega)]
      have hq : ((n : Int) == 0) = false := by simp; omega
      have h2 : ¬ (n : Int) < 0 := by omega
      rw [hL.out]
      clear h h1
      go_enter Try.func211, Try.ntmps211
      go_wp2_with (go_at_call 282; refine (oneIf _ _).mono ?_; rintro e w' ⟨rfl, rfl⟩)
      go_ret
      exact ⟨rfl, hM3, hg3⟩

set_option maxHeartbeats 1000000 in
set_option maxRecDepth 100000 in
theorem lists_step (b m s : Nat) (W : World) (hm : m + 1 ≤ 30) (hs : s ≤ m) (ih : Hid (ListsAt b m)) (hM : Hid (Memo M.L W b)) :
    Calls Try.prog 211 #[.map (some b), .int .i64 ((m : Int) + 1), .int .i64 ((s : Int) + 1)] W fun e W' => e = .returned (.int .i64 (M.L (m + 1) (s + 1) : Int)) ∧ Hid (Memo M.L W' b) ∧ Hid (W.grownBy W' (some b)) := by
  have hbW := hM.out.lt
  have hM3 : Hid (Memo M.L (((W.alloc (.cells #[.map (some b)] 157)).alloc (.cells #[.int .i64 ((m : Int) + 1)] 2)).alloc (.cells #[.int .i64 ((s : Int) + 1)] 2)) b) := ((hM.out.alloc _).alloc _).alloc _
  have hg3 : Hid (W.grownBy (((W.alloc (.cells #[.map (some b)] 157)).alloc (.cells #[.int .i64 ((m : Int) + 1)] 2)).alloc (.cells #[.int .i64 ((s : Int) + 1)] 2)) (some b)) := ((World.grownBy_alloc W _ _).trans (World.grownBy_alloc _ _ _)).trans (World.grownBy_alloc _ _ _)
  have k0 : Hid ((((W.alloc (.cells #[.map (some b)] 157)).alloc (.cells #[.int .i64 ((m : Int) + 1)] 2)).alloc (.cells #[.int .i64 ((s : Int) + 1)] 2)).cell? ⟨W.heap.size, 0, none⟩ = some (.map (some b))) := cell_al (cell_al (by simp) _) _
  have k1 : Hid ((((W.alloc (.cells #[.map (some b)] 157)).alloc (.cells #[.int .i64 ((m : Int) + 1)] 2)).alloc (.cells #[.int .i64 ((s : Int) + 1)] 2)).cell? ⟨W.heap.size + 1, 0, none⟩ = some (.int .i64 ((m : Int) + 1))) := cell_al (by simp) _
  have k2 : Hid ((((W.alloc (.cells #[.map (some b)] 157)).alloc (.cells #[.int .i64 ((m : Int) + 1)] 2)).alloc (.cells #[.int .i64 ((s : Int) + 1)] 2)).cell? ⟨W.heap.size + 1 + 1, 0, none⟩ = some (.int .i64 ((s : Int) + 1))) := by
    have := World.cell?_alloc_new ((W.alloc (.cells #[.map (some b)] 157)).alloc (.cells #[.int .i64 ((m : Int) + 1)] 2)) #[.int .i64 ((s : Int) + 1)] 2 0
    exact Lib.hid (by simpa using this)
  obtain ⟨W3, hW3⟩ : ∃ W3, W3 = (((W.alloc (.cells #[.map (some b)] 157)).alloc (.cells #[.int .i64 ((m : Int) + 1)] 2)).alloc (.cells #[.int .i64 ((s : Int) + 1)] 2)) := ⟨_, rfl⟩
  have hcount : Hid (∀ W', Hid (Memo M.L W' b) → Hid (W3.grownBy W' (some b)) → Calls Try.prog 284 #[.pointer (some ⟨W.heap.size + 1, 0, none⟩), .pointer (some ⟨W.heap.size + 1 + 1, 0, none⟩), .pointer (some ⟨W.heap.size, 0, none⟩)] W' fun e W'' => e = .returned (.int .i64 (M.L (m + 1) (s + 1) : Int)) ∧ Hid (Memo M.L W'' b) ∧ Hid (W'.grownBy W'' (some b))) := fun W' hM' hg' =>
    lists1 b m s (W.heap.size + 1) (W.heap.size + 1 + 1) W.heap.size hs hm ih W' hM'
      (hg'.out.cell (hW3 ▸ k1.out) (fun e => by injection e with e; simp at e; omega)) (hg'.out.cell (hW3 ▸ k2.out) (fun e => by injection e with e; simp at e; omega)) (hg'.out.cell (hW3 ▸ k0.out) (fun e => by injection e with e; simp at e; omega)) (by omega) (by omega) (by omega)
  have hk := keptlists b (m + 1) (s + 1) ⟨W.heap.size + 1, 0, none⟩ ⟨W.heap.size + 1 + 1, 0, none⟩ ⟨W.heap.size, 0, none⟩ W3 (by omega) (by omega) (M.L_small (by omega)) (hW3 ▸ hM3) hcount
  have e1 : ((m + 1 : Nat) : Int) = (m : Int) + 1 := by omega
  have e2 : ((s + 1 : Nat) : Int) = (s : Int) + 1 := by omega
  rw [e1, e2, hW3] at hk
  have HK := Lib.hid hk
  have h1 : ¬ (m : Int) + 1 < (s : Int) + 1 := by omega
  have h2 : ((s : Int) + 1 == 0) = false := by simp; omega
  clear hk e1 e2 hcount hW3 k0 k1 k2 hM3
  go_enter Try.func211, Try.ntmps211
  go_wp2_with fail
  refine HK.out.mono ?_
  rintro e w2 ⟨rfl, hM2, hg2⟩
  have hgt := Lib.hid (hg3.out.trans hg2.out)
  go_wp2
  go_ret
  exact ⟨rfl, hM2, hgt⟩

theorem listsAt (b : Nat) : ∀ n : Nat, n ≤ 30 → ListsAt b n := by
  intro n
  induction n with
  | zero =>
    intro _ t W ht hM
    exact lists_base b 0 t W (by omega) ht (by omega) hM
  | succ m ih =>
    intro hm t W ht hM
    by_cases h : m + 1 < t ∨ t = 0
    · exact lists_base b (m + 1) t W (by omega) ht h hM
    · obtain ⟨s, rfl⟩ : ∃ s, t = s + 1 := ⟨t - 1, by omega⟩
      have := lists_step b m s W hm (by omega) (ih (by omega)) hM
      have e1 : ((m + 1 : Nat) : Int) = (m : Int) + 1 := by omega
      have e2 : ((s + 1 : Nat) : Int) = (s : Int) + 1 := by omega
      rw [e1, e2]
      exact this
end Go.Proofs.Ytdgcjkgbglofbaa

/- listsByLeaves, treesByLeaves: numbers by leaves, with a map of what is known. -/
namespace Go.Proofs.Ytdgcjkgbglofbaa
open Go.RowKit Go.Maps Go.WideMaps

def LeavesAt (b n : Nat) : Prop := ∀ (k : Nat) (W : World), k ≤ 1000 → Hid (Memo M.entG W b) →
  Calls Try.prog 288 #[.map (some b), .int .i64 (n : Int), .int .i64 (k : Int)] W fun e W' => e = .returned (.int .i64 (M.entG n k : Int)) ∧ Hid (Memo M.entG W' b) ∧ Hid (W.grownBy W' (some b))

set_option maxHeartbeats 1000000 in
set_option maxRecDepth 100000 in
theorem leaves_base (b n t : Nat) (W : World) (hn : n ≤ 29) (ht : t ≤ 1000) (h : n < t ∨ t = 0) (hM : Hid (Memo M.entG W b)) :
    Calls Try.prog 288 #[.map (some b), .int .i64 (n : Int), .int .i64 (t : Int)] W fun e W' => e = .returned (.int .i64 (M.entG n t : Int)) ∧ Hid (Memo M.entG W' b) ∧ Hid (W.grownBy W' (some b)) := by
  have hM3 : Hid (Memo M.entG (((W.alloc (.cells #[.map (some b)] 157)).alloc (.cells #[.int .i64 (n : Int)] 2)).alloc (.cells #[.int .i64 (t : Int)] 2)) b) := ((hM.out.alloc _).alloc _).alloc _
  have hg3 : Hid (W.grownBy (((W.alloc (.cells #[.map (some b)] 157)).alloc (.cells #[.int .i64 (n : Int)] 2)).alloc (.cells #[.int .i64 (t : Int)] 2)) (some b)) := ((World.grownBy_alloc W _ _).trans (World.grownBy_alloc _ _ _)).trans (World.grownBy_alloc _ _ _)
  have hL := M.G_base hn h
  by_cases h1 : n < t
  · have hL : Hid (M.entG n t = 0) := by show _ = _; rw [hL, if_neg (by omega)]
    have h2 : (n : Int) < (t : Int) := by omega
    have hq : ((n : Int) == (t : Int)) = false := by simp; omega
    rw [hL.out]
    clear h h1
    go_enter Try.func288, Try.ntmps288
    go_wp2_with (go_at_call 282; refine (oneIf _ _).mono ?_; rintro e w' ⟨rfl, rfl⟩)
    go_ret
    exact ⟨rfl, hM3, hg3⟩
  · obtain rfl : t = 0 := by omega
    rcases Nat.eq_zero_or_pos n with h0 | h0
    · subst h0
      rw [hL]
      clear h h1 hL
      go_enter Try.func288, Try.ntmps288
      go_wp2_with (go_at_call 282; refine (oneIf _ _).mono ?_; rintro e w' ⟨rfl, rfl⟩)
      go_ret
      exact ⟨rfl, hM3, hg3⟩
    · have hL : Hid (M.entG n 0 = 0) := by show _ = _; rw [hL, if_neg (by omega)]
      have hq : ((n : Int) == 0) = false := by simp; omega
      have h2 : ¬ (n : Int) < 0 := by omega
      rw [hL.out]
      clear h h1
      go_enter Try.func288, Try.ntmps288
      go_wp2_with (go_at_call 282; refine (oneIf _ _).mono ?_; rintro e w' ⟨rfl, rfl⟩)
      go_ret
      exact ⟨rfl, hM3, hg3⟩

set_option maxHeartbeats 1000000 in
set_option maxRecDepth 100000 in
theorem treesByLeaves_at (b m k : Nat) (W : World) (hm : m ≤ 29) (hk : k ≤ 1000) (ih : Hid (LeavesAt b m)) (hM : Hid (Memo M.entG W b)) :
    Calls Try.prog 221 #[.map (some b), .int .i64 ((m : Int) + 1), .int .i64 (k : Int)] W fun e W' => e = .returned (.int .i64 (M.Tl (m + 1) k : Int)) ∧ Hid (Memo M.entG W' b) ∧ Hid (W.grownBy W' (some b)) := by
  rcases Nat.eq_zero_or_pos m with h0 | h0
  · subst h0
    have hT : M.Tl (0 + 1) k = if k = 1 then 1 else 0 := rfl
    rw [hT]
    by_cases h1 : k = 1
    · subst h1
      go_enter Try.func221, Try.ntmps221
      go_wp2_with (go_at_call 282; refine (oneIf _ _).mono ?_; rintro e w' ⟨rfl, rfl⟩)
      go_ret
      exact ⟨rfl, hM, World.grownBy.refl _ _⟩
    · rw [if_neg h1]
      have hq : ((k : Int) == 1) = false := by simp; omega
      clear hT h1
      go_enter Try.func221, Try.ntmps221
      go_wp2_with (go_at_call 282; refine (oneIf _ _).mono ?_; rintro e w' ⟨rfl, rfl⟩)
      go_ret
      exact ⟨rfl, hM, World.grownBy.refl _ _⟩
  · have hT : M.Tl (m + 1) k = M.entG m k := by rw [M.Tl, if_neg (by omega)]; rfl
    rw [hT]
    have hq : ((m : Int) + 1 == 1) = false := by simp; omega
    have hc := Lib.hid (ih.out k W hk hM)
    clear hT
    go_enter Try.func221, Try.ntmps221
    go_wp2_with fail
    refine hc.out.mono ?_
    rintro e w2 ⟨rfl, hM2, hg2⟩
    clear hc
    go_wp2
    go_ret
    exact ⟨rfl, hM2, hg2⟩

/-- the sum over the leaves of a first tree of x + 1 nodes -/
def inn (m s x z : Nat) : Nat := M.sumTo (fun y => M.Tl (x + 1) (y + 1) * M.entG (m - x) (s - y)) z
def outn (m s x : Nat) : Nat := M.sumTo (fun x => inn m s x (min (x + 1) (s + 1))) x
theorem outn_small {m s x : Nat} (hm : m ≤ 28) (hs : s ≤ m) (hx : x ≤ m + 1) : outn m s x ≤ 10000000000000000 := by
  have h1 := M.sumTo_le (f := fun x => inn m s x (min (x + 1) (s + 1))) hx
  have h2 := M.G_small (m + 1) (s + 1)
  rw [M.G_rec hm hs] at h2
  exact Nat.le_trans h1 h2
theorem inn_small {m s x z : Nat} (hm : m ≤ 28) (hs : s ≤ m) (hx : x < m + 1) (hz : z ≤ min (x + 1) (s + 1)) : outn m s x + inn m s x z ≤ 10000000000000000 := by
  have h1 := outn_small hm hs (x := x + 1) (by omega)
  have h2 := M.sumTo_le (f := fun y => M.Tl (x + 1) (y + 1) * M.entG (m - x) (s - y)) hz
  simp only [outn, M.sumTo] at h1 ⊢
  simp only [inn] at h1 ⊢
  omega

set_option maxHeartbeats 4000000 in
set_option maxRecDepth 100000 in
theorem leaves1 (b m s Bn Bt Bw : Nat) (hs : s ≤ m) (hm : m ≤ 28) (ih : Hid (∀ x, x ≤ m → LeavesAt b x)) (W : World) (hM : Hid (Memo M.entG W b))
    (hn : Hid (W.cell? ⟨Bn, 0, none⟩ = some (.int .i64 ((m : Int) + 1)))) (ht : Hid (W.cell? ⟨Bt, 0, none⟩ = some (.int .i64 ((s : Int) + 1)))) (hw : Hid (W.cell? ⟨Bw, 0, none⟩ = some (.map (some b)))) (hbn : b ≠ Bn) (hbt : b ≠ Bt) (hbw : b ≠ Bw) :
    Calls Try.prog 335 #[.pointer (some ⟨Bn, 0, none⟩), .pointer (some ⟨Bt, 0, none⟩), .pointer (some ⟨Bw, 0, none⟩)] W fun e W' => e = .returned (.int .i64 (M.entG (m + 1) (s + 1) : Int)) ∧ Hid (Memo M.entG W' b) ∧ Hid (W.grownBy W' (some b)) := by
  have hLe : Hid (M.entG (m + 1) (s + 1) = outn m s (m + 1)) := M.G_rec hm hs
  go_enter Try.func335, Try.ntmps335
  go_wp2
  go_loopw [4, 5, 6] (fun q i _ wr => ∃ (x y : Nat), x ≤ m + 1 ∧ i = .int .i64 ((x : Int) + 1) ∧ q = .int .i64 (y : Int) ∧ Hid (outn m s x = y) ∧ Hid (Memo M.entG wr b) ∧ Hid (W.grownBy wr (some b))) (fun _ i _ _ => 40 - (intOf i).toNat)
  case atStart => exact ⟨0, 0, Nat.zero_le _, rfl, rfl, rfl, hM, World.grownBy.refl _ _⟩
  case round =>
    obtain ⟨x, y, hx, rfl, rfl, hy, hMr, hg⟩ := hrel
    have c1 := hg.out.cell hn.out (fun e => hbn (by injection e with e; exact e.symm))
    by_cases hlt : x < m + 1
    · have hlt2 : (x : Int) + 1 ≤ (m : Int) + 1 := by omega
      obtain ⟨d, hd⟩ : ∃ d, Hid (m - x = d) := ⟨_, rfl⟩
      have hmn := fun z hz => inn_small (x := x) (z := z) hm hs hlt hz
      rw [hy.out] at hmn
      have Hmn := Lib.hid hmn
      clear hmn
      go_wp2
      clear c1
      go_loopw [4, 6] (fun q i wr => ∃ (z y2 : Nat), z ≤ min (x + 1) (s + 1) ∧ i = .int .i64 ((z : Int) + 1) ∧ q = .int .i64 (y2 : Int) ∧ Hid (y + inn m s x z = y2) ∧ Hid (Memo M.entG wr b) ∧ Hid (W.grownBy wr (some b))) (fun _ i _ => 40 - (intOf i).toNat)
      case atStart => exact ⟨0, y, Nat.zero_le _, rfl, rfl, rfl, hMr, hg⟩
      case round =>
        obtain ⟨z, y2, hz, rfl, rfl, hy2, hMr, hg⟩ := hrel
        have c1 := hg.out.cell hn.out (fun e => hbn (by injection e with e; exact e.symm))
        have c2 := hg.out.cell ht.out (fun e => hbt (by injection e with e; exact e.symm))
        have c3 := hg.out.cell hw.out (fun e => hbw (by injection e with e; exact e.symm))
        have hb2 := Hmn.out z hz
        rw [hy2.out] at hb2
        by_cases hzl : z < min (x + 1) (s + 1)
        · have hz1 : (z : Int) + 1 ≤ (x : Int) + 1 := by omega
          have hz2 : (z : Int) + 1 ≤ (s : Int) + 1 := by omega
          obtain ⟨e, he⟩ : ∃ e, Hid (s - z = e) := ⟨_, rfl⟩
          have hsum : Hid (y + inn m s x (z + 1) = y2 + M.Tl (x + 1) (z + 1) * M.entG d e) := by
            show _ = _
            have := hy2.out
            rw [← hd.out, ← he.out]
            simp only [inn, M.sumTo] at this ⊢
            omega
          have hb3 := Hmn.out (z + 1) (by omega)
          rw [hsum.out] at hb3
          have hT : ∀ W', Hid (Memo M.entG W' b) → Hid (W.grownBy W' (some b)) → Calls Try.prog 221 #[.map (some b), .int .i64 ((x : Int) + 1), .int .i64 ((z : Int) + 1)] W' fun e w' => e = .returned (.int .i64 (M.Tl (x + 1) (z + 1) : Int)) ∧ Hid (Memo M.entG w' b) ∧ Hid (W.grownBy w' (some b)) := fun W' hM' hg' => by
            have := treesByLeaves_at b x (z + 1) W' (by omega) (by omega) (ih.out x (by omega)) hM'
            have ec : ((z + 1 : Nat) : Int) = (z : Int) + 1 := by omega
            rw [ec] at this
            exact this.mono fun e w' ⟨he, h1, h2⟩ => ⟨he, h1, hg'.out.trans h2.out⟩
          have hL : ∀ W', Hid (Memo M.entG W' b) → Hid (W.grownBy W' (some b)) → Calls Try.prog 288 #[.map (some b), .int .i64 (d : Int), .int .i64 (e : Int)] W' fun e' w' => e' = .returned (.int .i64 (M.entG d e : Int)) ∧ Hid (Memo M.entG w' b) ∧ Hid (W.grownBy w' (some b)) := fun W' hM' hg' =>
            (ih.out d (by have := hd.out; omega) e W' (by have := he.out; omega) hM').mono fun e w' ⟨he, h1, h2⟩ => ⟨he, h1, hg'.out.trans h2.out⟩
          generalize M.Tl (x + 1) (z + 1) = a at *
          generalize M.entG d e = u at *
          obtain ⟨au, hau⟩ : ∃ au, Hid (a * u = au) := ⟨_, rfl⟩
          rw [hau.out] at hsum hb3
          have hmul : ((a : Int) * (u : Int)) = (au : Int) := by rw [← hau.out]; exact (Int.natCast_mul a u).symm
          have hw1 : IntKind.i64.wrap ((a : Int) * (u : Int)) = (au : Int) := by rw [hmul]; exact IntWalk.i64_in _ (by omega)
          have hw2 : IntKind.i64.wrap ((y2 : Int) + (au : Int)) = (y2 : Int) + (au : Int) := IntWalk.i64_in _ (by omega)
          have hw3 : IntKind.i64.wrap ((m : Int) + 1 - ((x : Int) + 1)) = (d : Int) := by rw [IntWalk.i64_in _ (by omega)]; have := hd.out; omega
          have hw4 : IntKind.i64.wrap ((s : Int) + 1 - ((z : Int) + 1)) = (e : Int) := by rw [IntWalk.i64_in _ (by omega)]; have := he.out; omega
          have HT := Lib.hid hT
          have HL := Lib.hid hL
          have hS : ∀ W', Hid (Memo M.entG W' b) → Hid (W.grownBy W' (some b)) → W'.cell? ⟨Bn, 0, none⟩ = some (.int .i64 ((m : Int) + 1)) ∧ W'.cell? ⟨Bt, 0, none⟩ = some (.int .i64 ((s : Int) + 1)) ∧ W'.cell? ⟨Bw, 0, none⟩ = some (.map (some b)) := fun W' _ hg' =>
            ⟨hg'.out.cell hn.out (fun e => hbn (by injection e with e; exact e.symm)), hg'.out.cell ht.out (fun e => hbt (by injection e with e; exact e.symm)), hg'.out.cell hw.out (fun e => hbw (by injection e with e; exact e.symm))⟩
          have HS := Lib.hid hS
          clear hT hL hS hmul
          go_wp2
          all_goals
            have k1 : wr.drew.cell? ⟨Bn, 0, none⟩ = some (.int .i64 ((m : Int) + 1)) := c1
            have k2 : wr.drew.cell? ⟨Bt, 0, none⟩ = some (.int .i64 ((s : Int) + 1)) := c2
            have k3 : wr.drew.cell? ⟨Bw, 0, none⟩ = some (.map (some b)) := c3
            have k4 : Hid (Memo M.entG wr.drew b) := hMr.out
            have k5 : Hid (W.grownBy wr.drew (some b)) := ⟨hg.out.os, hg.out.tape, hg.out.output, hg.out.size, hg.out.block⟩
            clear c1 c2 c3
            go_region_held3 (fun w' => w'.cell? ⟨Bn, 0, none⟩ = some (.int .i64 ((m : Int) + 1)) ∧ w'.cell? ⟨Bt, 0, none⟩ = some (.int .i64 ((s : Int) + 1)) ∧ w'.cell? ⟨Bw, 0, none⟩ = some (.map (some b)) ∧ Hid (Memo M.entG w' b) ∧ Hid (W.grownBy w' (some b))) (first | exact ⟨k1, k2, k3, k4, k5⟩ | exact ⟨(HS.out _ (by assumption) (by assumption)).1, (HS.out _ (by assumption) (by assumption)).2.1, (HS.out _ (by assumption) (by assumption)).2.2, by assumption, by assumption⟩) (first | (go_at_call 221; refine (HT.out _ (by assumption) (by assumption)).mono ?_; rintro e w7 ⟨rfl, hM7, hg7⟩) | (go_at_call 288; refine (HL.out _ (by assumption) (by assumption)).mono ?_; rintro e w8 ⟨rfl, hM8, hg8⟩))
            clear HT HL HS k1 k2 k3 k4 k5 hM7 hg7 hMr hg
            go_wp2
            go_roundw
            case rel => exact ⟨z + 1, y2 + au, by omega, by go_num, by go_num, hsum, hM8, hg8⟩
            case measure => simp [intOf]; omega
        · have hfin : Hid (outn m s (x + 1) = y2) := by
            show _ = _
            have e : z = min (x + 1) (s + 1) := by omega
            have h1 := hy2.out
            have h2 := hy.out
            rw [e] at h1
            simp only [outn, M.sumTo] at h2 ⊢
            omega
          by_cases hxs : s < x
          · have hxs2 : (s : Int) + 1 < (x : Int) + 1 := by omega
            have hge : ¬ (z : Int) + 1 ≤ (s : Int) + 1 := by omega
            go_wp2
            all_goals
              go_roundw
              case rel => exact ⟨x + 1, y2, by omega, by go_num, rfl, hfin, hMr, hg⟩
              case measure => simp [intOf]; omega
          · have hxs2 : ¬ (s : Int) + 1 < (x : Int) + 1 := by omega
            have hge : ¬ (z : Int) + 1 ≤ (x : Int) + 1 := by omega
            go_wp2
            all_goals
              go_roundw
              case rel => exact ⟨x + 1, y2, by omega, by go_num, rfl, hfin, hMr, hg⟩
              case measure => simp [intOf]; omega
    · obtain rfl : x = m + 1 := by omega
      have hge : ¬ ((m + 1 : Nat) : Int) + 1 ≤ (m : Int) + 1 := by omega
      have he : Hid (M.entG (m + 1) (s + 1) = y) := hLe.out.trans hy.out
      go_wp2
      go_ret
      exact ⟨by rw [he.out]; rfl, hMr, hg⟩

set_option maxHeartbeats 1000000 in
set_option maxRecDepth 100000 in
theorem leaves_step (b m s : Nat) (W : World) (hm : m ≤ 28) (hs : s ≤ m) (ih : Hid (∀ x, x ≤ m → LeavesAt b x)) (hM : Hid (Memo M.entG W b)) :
    Calls Try.prog 288 #[.map (some b), .int .i64 ((m : Int) + 1), .int .i64 ((s : Int) + 1)] W fun e W' => e = .returned (.int .i64 (M.entG (m + 1) (s + 1) : Int)) ∧ Hid (Memo M.entG W' b) ∧ Hid (W.grownBy W' (some b)) := by
  have hbW := hM.out.lt
  have hM3 : Hid (Memo M.entG (((W.alloc (.cells #[.map (some b)] 157)).alloc (.cells #[.int .i64 ((m : Int) + 1)] 2)).alloc (.cells #[.int .i64 ((s : Int) + 1)] 2)) b) := ((hM.out.alloc _).alloc _).alloc _
  have hg3 : Hid (W.grownBy (((W.alloc (.cells #[.map (some b)] 157)).alloc (.cells #[.int .i64 ((m : Int) + 1)] 2)).alloc (.cells #[.int .i64 ((s : Int) + 1)] 2)) (some b)) := ((World.grownBy_alloc W _ _).trans (World.grownBy_alloc _ _ _)).trans (World.grownBy_alloc _ _ _)
  have k0 : Hid ((((W.alloc (.cells #[.map (some b)] 157)).alloc (.cells #[.int .i64 ((m : Int) + 1)] 2)).alloc (.cells #[.int .i64 ((s : Int) + 1)] 2)).cell? ⟨W.heap.size, 0, none⟩ = some (.map (some b))) := cell_al (cell_al (by simp) _) _
  have k1 : Hid ((((W.alloc (.cells #[.map (some b)] 157)).alloc (.cells #[.int .i64 ((m : Int) + 1)] 2)).alloc (.cells #[.int .i64 ((s : Int) + 1)] 2)).cell? ⟨W.heap.size + 1, 0, none⟩ = some (.int .i64 ((m : Int) + 1))) := cell_al (by simp) _
  have k2 : Hid ((((W.alloc (.cells #[.map (some b)] 157)).alloc (.cells #[.int .i64 ((m : Int) + 1)] 2)).alloc (.cells #[.int .i64 ((s : Int) + 1)] 2)).cell? ⟨W.heap.size + 1 + 1, 0, none⟩ = some (.int .i64 ((s : Int) + 1))) := by
    have := World.cell?_alloc_new ((W.alloc (.cells #[.map (some b)] 157)).alloc (.cells #[.int .i64 ((m : Int) + 1)] 2)) #[.int .i64 ((s : Int) + 1)] 2 0
    exact Lib.hid (by simpa using this)
  obtain ⟨W3, hW3⟩ : ∃ W3, W3 = (((W.alloc (.cells #[.map (some b)] 157)).alloc (.cells #[.int .i64 ((m : Int) + 1)] 2)).alloc (.cells #[.int .i64 ((s : Int) + 1)] 2)) := ⟨_, rfl⟩
  have hcount : Hid (∀ W', Hid (Memo M.entG W' b) → Hid (W3.grownBy W' (some b)) → Calls Try.prog 335 #[.pointer (some ⟨W.heap.size + 1, 0, none⟩), .pointer (some ⟨W.heap.size + 1 + 1, 0, none⟩), .pointer (some ⟨W.heap.size, 0, none⟩)] W' fun e W'' => e = .returned (.int .i64 (M.entG (m + 1) (s + 1) : Int)) ∧ Hid (Memo M.entG W'' b) ∧ Hid (W'.grownBy W'' (some b))) := fun W' hM' hg' =>
    leaves1 b m s (W.heap.size + 1) (W.heap.size + 1 + 1) W.heap.size hs hm ih W' hM'
      (hg'.out.cell (hW3 ▸ k1.out) (fun e => by injection e with e; simp at e; omega)) (hg'.out.cell (hW3 ▸ k2.out) (fun e => by injection e with e; simp at e; omega)) (hg'.out.cell (hW3 ▸ k0.out) (fun e => by injection e with e; simp at e; omega)) (by omega) (by omega) (by omega)
  have hk := keptlistsByLeaves b (m + 1) (s + 1) ⟨W.heap.size + 1, 0, none⟩ ⟨W.heap.size + 1 + 1, 0, none⟩ ⟨W.heap.size, 0, none⟩ W3 (by omega) (by omega) (Nat.le_trans (M.G_small _ _) (by omega)) (hW3 ▸ hM3) hcount
  have e1 : ((m + 1 : Nat) : Int) = (m : Int) + 1 := by omega
  have e2 : ((s + 1 : Nat) : Int) = (s : Int) + 1 := by omega
  rw [e1, e2, hW3] at hk
  have HK := Lib.hid hk
  have h1 : ¬ (m : Int) + 1 < (s : Int) + 1 := by omega
  have h2 : ((s : Int) + 1 == 0) = false := by simp; omega
  clear hk e1 e2 hcount hW3 k0 k1 k2 hM3
  go_enter Try.func288, Try.ntmps288
  go_wp2_with fail
  refine HK.out.mono ?_
  rintro e w2 ⟨rfl, hM2, hg2⟩
  have hgt := Lib.hid (hg3.out.trans hg2.out)
  go_wp2
  go_ret
  exact ⟨rfl, hM2, hgt⟩

theorem leavesAt (b : Nat) : ∀ n : Nat, n ≤ 29 → LeavesAt b n := by
  intro n
  induction n using Nat.strongRecOn with
  | _ n ih =>
    intro hn t W ht hM
    by_cases h : n < t ∨ t = 0
    · exact leaves_base b n t W hn ht h hM
    · obtain ⟨s, rfl⟩ : ∃ s, t = s + 1 := ⟨t - 1, by omega⟩
      obtain ⟨m, rfl⟩ : ∃ m, n = m + 1 := ⟨n - 1, by omega⟩
      have := leaves_step b m s W (by omega) (by omega) (fun x hx => ih x (by omega) (by omega)) hM
      have e1 : ((m + 1 : Nat) : Int) = (m : Int) + 1 := by omega
      have e2 : ((s + 1 : Nat) : Int) = (s : Int) + 1 := by omega
      rw [e1, e2]
      exact this
end Go.Proofs.Ytdgcjkgbglofbaa

/- l02Choose: the model's number of ways to choose. -/
namespace Go.Proofs.Ytdgcjkgbglofbaa
open Go.RowKit

set_option maxHeartbeats 1000000 in
theorem l02Choose (n : Nat) (k : Int) (w : World) (hn : n ≤ 29) (hk0 : -1000 ≤ k) (hk1 : k ≤ 1000) (r : Nat) (hr : Hid (M.ch n k = r)) :
    Calls Try.prog 223 #[.int .i64 (n : Int), .int .i64 k] w fun e w' => e = .returned (.int .i64 (r : Int)) ∧ w = w' := by
  by_cases h1 : k < 0
  · have he : Hid (r = 0) := by show _ = _; rw [← hr.out, M.ch, if_pos (.inl h1)]
    go_enter Try.func223, Try.ntmps223
    go_wp2
    go_ret
    exact ⟨by rw [he.out]; rfl, rfl⟩
  by_cases h2 : (n : Int) < k
  · have he : Hid (r = 0) := by show _ = _; rw [← hr.out, M.ch, if_pos (.inr h2)]
    go_enter Try.func223, Try.ntmps223
    go_wp2
    go_ret
    exact ⟨by rw [he.out]; rfl, rfl⟩
  obtain ⟨t, rfl⟩ := Int.eq_ofNat_of_zero_le (show 0 ≤ k by omega)
  have htn : t ≤ n := by omega
  have hr2 : Hid (M.chTo n (min t (n - t)) = r) := by
    show _ = _
    rw [← hr.out, M.ch, if_neg (by omega), Int.toNat_natCast]
  have h3 : ¬ (t : Int) < 0 := by omega
  have h4 : ¬ (n : Int) < (t : Int) := by omega
  clear hr h1 h2
  go_enter Try.func223, Try.ntmps223
  go_wp2
  go_loop [5, 6] (fun q i => ∃ (x a : Nat), x ≤ min t (n - t) ∧ i = .int .i64 ((x : Int) + 1) ∧ q = .int .i64 (a : Int) ∧ Hid (M.chTo n x = a)) (fun _ i => 60 - (intOf i).toNat)
  case atStart => exact ⟨0, 1, Nat.zero_le _, rfl, rfl, rfl⟩
  case round =>
    obtain ⟨x, a, hx, rfl, rfl, ha⟩ := hrel
    have hb := M.ch_small (n := n) (i := x) hn (by omega)
    rw [ha.out] at hb
    by_cases hxl : x < min t (n - t)
    · have hx1 : (x : Int) + 1 ≤ (t : Int) := by omega
      have hx2 : (x : Int) + 1 ≤ (n : Int) - (t : Int) := by omega
      obtain ⟨p, hp⟩ : ∃ p, Hid (a * (n - x) = p) := ⟨_, rfl⟩
      have hpb : p ≤ 3000000000 := by
        rw [← hp.out]
        have := Nat.mul_le_mul hb (show n - x ≤ 30 by omega)
        omega
      have hpe : (a : Int) * ((n : Int) - ((x : Int) + 1) + 1) = (p : Int) := by
        rw [← hp.out, Int.natCast_mul]
        congr 1
        omega
      obtain ⟨q, hq⟩ : ∃ q, Hid (p / (x + 1) = q) := ⟨_, rfl⟩
      have hqb : q ≤ 3000000000 := by rw [← hq.out]; exact Nat.le_trans (Nat.div_le_self _ _) hpb
      have hqe : (p : Int) / ((x : Int) + 1) = (q : Int) := by rw [← hq.out, Int.natCast_ediv]; rfl
      have hs : Hid (M.chTo n (x + 1) = q) := by show _ = _; rw [M.chTo, ha.out, hp.out, hq.out]
      go_wp2
      all_goals
        go_round
        case rel => exact ⟨x + 1, q, by omega, by go_num, rfl, hs⟩
        case measure => simp [intOf]; omega
    · have hxe : x = min t (n - t) := by omega
      have he : Hid (a = r) := by show _ = _; rw [← hr2.out, ← ha.out, hxe]
      clear hxe
      by_cases hm : (n : Int) - (t : Int) < (t : Int)
      · have hge : ¬ (x : Int) + 1 ≤ (n : Int) - (t : Int) := by omega
        go_wp2
        go_ret
        exact ⟨by rw [← he.out]; rfl, rfl⟩
      · have hge : ¬ (x : Int) + 1 ≤ (t : Int) := by omega
        go_wp2
        go_ret
        exact ⟨by rw [← he.out]; rfl, rfl⟩
end Go.Proofs.Ytdgcjkgbglofbaa

/- The walks of the laws' own helpers over slices of int64: szInt64S, eqInt64S, toInt64S, markInt64S, heldInt64S. No conditions but lengths. -/
namespace Go.Proofs.Ytdgcjkgbglofbaa
open Go.RowKit

theorem szInts (A : Option Addr) (n c : Nat) (left : Int) (w : World) (hn : n ≤ 9223372036854775807) (hl : left ≤ 1048576) (hl0 : 0 ≤ left) :
    Calls Try.prog 236 #[.slice A n c, .int .i64 left] w fun e w' => e = .returned (.int .i64 (if left - n < 0 then -1 else left - n)) ∧ w = w' := by
  by_cases h : left - (n : Int) < 0
  · go_enter Try.func236, Try.ntmps236
    go_wp2
    go_ret
    exact ⟨rfl, rfl⟩
  · go_enter Try.func236, Try.ntmps236
    go_wp2
    go_ret
    exact ⟨rfl, rfl⟩

theorem take_eq_succ {xs ys : List Int} {k : Nat} {x : Int} (hx : Hid (xs[k]? = some x)) (hy : Hid (ys[k]? = some x)) (h : Hid (xs.take k = ys.take k)) : Hid (xs.take (k + 1) = ys.take (k + 1)) := by
  have hx' : xs[k]? = some x := hx
  have hy' : ys[k]? = some x := hy
  have h' : xs.take k = ys.take k := h
  show xs.take (k + 1) = ys.take (k + 1)
  rw [List.take_add_one, List.take_add_one, h', hx', hy']
theorem ne_of_at {xs ys : List Int} {k : Nat} {x y : Int} (hx : Hid (xs[k]? = some x)) (hy : Hid (ys[k]? = some y)) (he : x ≠ y) : ¬ xs = ys := fun e => by
  have hx' : xs[k]? = some x := hx
  have hy' : ys[k]? = some y := hy
  rw [e, hy'] at hx'
  injection hx' with h
  exact he h.symm

set_option maxHeartbeats 400000 in
theorem eqInts (A A' : Option Addr) (xs ys : List Int) (c c' : Nat) (w : World) (hy : ys.length ≤ 1000000000000000)
    (h : Ints w w.heap.size A xs) (h' : Ints w w.heap.size A' ys) :
    Calls Try.prog 126 #[.slice A xs.length c, .slice A' ys.length c'] w fun e w' => e = .returned (.bool (decide (xs = ys))) ∧ Below w.heap.size w w' := by
  by_cases hl : xs.length = ys.length
  · have hl' : ((xs.length : Int) != (ys.length : Int)) = false := by simp [hl]
    have Hl := Lib.hid hl
    have hl1 : xs.length ≤ ys.length := by omega
    clear hl
    go_enter Try.func126, Try.ntmps126
    go_wp2
    go_loopw [5] (fun i wr => ∃ k : Nat, k ≤ xs.length ∧ i = .int .i64 k ∧ Hid (xs.take k = ys.take k) ∧ Below w.heap.size w wr) (fun i _ => xs.length - (intOf i).toNat)
    case atStart => exact ⟨0, Nat.zero_le _, rfl, rfl, Below.refl _ _⟩
    case round =>
      obtain ⟨k, hk, rfl, he, hb⟩ := hrel
      by_cases hlt : k < xs.length
      · obtain ⟨b, off, x, rfl, hbB, g, hX⟩ := (h.below hb (Nat.le_refl _)).at_ hlt
        obtain ⟨b', off', y, rfl, hbB', g', hY⟩ := (h'.below hb (Nat.le_refl _)).at_ (k := k) (by omega)
        clear h h'
        by_cases hq : x = y
        · subst hq
          have hs := take_eq_succ hX hY he
          go_wp2
          go_quiet (fail)
          go_wp2
          go_roundw
          case rel => exact ⟨k + 1, by omega, by go_num, hs, below_drewN hb _⟩
          case measure => simp [intOf]; omega
        · have hq' : (x != y) = true := by simp [hq]
          have hs := ne_of_at hX hY hq
          clear hq
          go_wp2
          go_quiet (fail)
          go_wp2
          go_ret
          exact ⟨by simp [hs], below_drewN hb _⟩
      · obtain rfl : k = xs.length := by omega
        have hs : xs = ys := by
          have := he.out
          rw [List.take_length, Hl.out, List.take_length] at this
          exact this
        have Hs := Lib.hid hs
        clear hs
        go_wp2
        go_ret
        exact ⟨by simp [Hs.out], hb⟩
  · have hl' : ((xs.length : Int) != (ys.length : Int)) = true := by simp; omega
    go_enter Try.func126, Try.ntmps126
    go_wp2
    go_ret
    refine ⟨?_, Below.refl _ _⟩
    have : ¬ xs = ys := fun e => hl (by rw [e])
    simp [this]

theorem take_set_succ {xs ys : List Int} {k : Nat} {x : Int} (hl : Hid (ys.length = xs.length)) (hx : Hid (xs[k]? = some x)) (h : Hid (ys.take k = xs.take k)) : Hid ((ys.set k x).take (k + 1) = xs.take (k + 1)) := by
  have hl' : ys.length = xs.length := hl
  have hx' : xs[k]? = some x := hx
  have h' : ys.take k = xs.take k := h
  have hk : k < ys.length := by rw [hl']; exact (List.getElem?_eq_some_iff.1 hx').1
  show (ys.set k x).take (k + 1) = xs.take (k + 1)
  rw [List.take_add_one, List.take_add_one, hx', List.getElem?_set_self hk, List.take_set_of_le (Nat.le_refl _), h']

set_option maxHeartbeats 400000 in
theorem toInts (A : Option Addr) (xs : List Int) (c : Nat) (w : World) (hx : xs.length ≤ 1000000000000) (h : Ints w w.heap.size A xs) :
    Calls Try.prog 154 #[.slice A xs.length c] w fun e w' => ∃ g, e = .returned (.slice (some ⟨g, 0, none⟩) xs.length xs.length) ∧
      Own64 w' w.heap.size (.slice (some ⟨g, 0, none⟩) xs.length xs.length) xs ∧ Below w.heap.size w w' := by
  have hmk := run_make_row' (P := Try.prog) 24 2 (.int .i64 0) 8 Try.underlying24 info64 rfl .i64 .i64 xs.length (by omega) (by omega)
  have hstart := own64_made (w := w) (B := w.heap.size) (n := xs.length) (Nat.le_refl _) (by unfold maxLen; omega)
  go_enter Try.func154, Try.ntmps154
  go_wp2
  clear hmk
  go_loopw [4] (fun i wr => ∃ (k : Nat) (ys : List Int), k ≤ xs.length ∧ i = .int .i64 k ∧ Hid (ys.length = xs.length) ∧ Hid (ys.take k = xs.take k) ∧
      Hid (Own64 wr w.heap.size (.slice (some ⟨w.heap.size, 0, none⟩) xs.length xs.length) ys) ∧ Below w.heap.size w wr) (fun i _ => xs.length - (intOf i).toNat)
  case atStart => exact ⟨0, List.replicate xs.length 0, Nat.zero_le _, rfl, by simp [Hid], rfl, hstart, (Below.refl _ _).alloc (Nat.le_refl _) _⟩
  case round =>
    obtain ⟨k, ys, hk, rfl, hly, he, ho, hb⟩ := hrel
    clear hstart
    by_cases hlt : k < xs.length
    · obtain ⟨b, off, x, rfl, hbB, g, hX⟩ := (h.below hb (Nat.le_refl _)).at_ hlt
      clear h
      have hly' : ys.length = xs.length := hly
      obtain ⟨c1, c2, c3, c4⟩ := own64_cell ho.out hly' (k := k) (x := ys[k]) (List.getElem?_eq_getElem (by omega))
      have hs := take_set_succ hly hX he
      have ho' : Hid (Own64 _ _ _ _) := own64_set ho.out hly' k x
      generalize ys[k] = y at c1
      clear hly'
      go_wp2
      go_roundw
      case rel => exact ⟨k + 1, ys.set k x, by omega, by go_num, by simp [Hid]; exact hly.out, hs, ho', below_setCell hb (Nat.le_refl _) _⟩
      case measure => simp [intOf]; omega
    · obtain rfl : k = xs.length := by omega
      have hys : ys = xs := by
        have := he.out
        rw [← hly.out, List.take_length, hly.out, List.take_length] at this
        exact this
      have Hs := Lib.hid hys
      clear hys
      go_wp2
      go_ret
      exact ⟨_, rfl, by rw [← Hs.out]; have := ho.out; rw [← hly.out] at this; exact this, hb⟩

/-- the marks that the laws write: k, k + 1, .. -/
def marks (k : Int) (n : Nat) : List Int := (List.range n).map fun (i : Nat) => k + (i : Int)
theorem marks_length (k : Int) (n : Nat) : (marks k n).length = n := by simp [marks]
theorem marks_at (k : Int) {n i : Nat} (h : i < n) : (marks k n)[i]? = some (k + i) := by simp [marks, h]

theorem take_marks_succ {ys : List Int} {k : Int} {n i : Nat} (hl : Hid (ys.length = n)) (hi : i < n) (h : Hid (ys.take i = (marks k n).take i)) : Hid ((ys.set i (k + i)).take (i + 1) = (marks k n).take (i + 1)) :=
  take_set_succ (xs := marks k n) (by show ys.length = _; rw [marks_length]; exact hl) (marks_at k hi) h

theorem grown_set {a w : World} {g : Nat} (h : a.grownBy w (some g)) (k : Nat) (u : Value) : a.grownBy (w.setCell ⟨g, k, none⟩ u) (some g) :=
  ⟨h.os, h.tape, h.output, by simpa [World.setCell] using h.size, fun i hi hne => (Below.heap_setCell w ⟨g, k, none⟩ u i (fun e => hne (by rw [e]))).trans (h.block i hi hne)⟩

set_option maxHeartbeats 400000 in
theorem markInts (A : Option Addr) (n c : Nat) (zs : List Int) (m : Int) (B : Nat) (w : World) (hn : zs.length = n) (hn' : n ≤ 1000000000000) (hm : 0 ≤ m) (hm' : m ≤ 1000000000000) (ho : Own64 w B (.slice A n c) zs) :
    Calls Try.prog 129 #[.slice A n c, .int .i64 m] w fun e w' => e = .returned (.int .i64 (m + n)) ∧ Own64 w' B (.slice A n c) (marks m n) ∧ w.grownBy w' (Value.slice A n c).ownBlock := by
  rcases Nat.eq_zero_or_pos n with h0 | h0
  · subst h0
    obtain rfl : zs = [] := List.eq_nil_of_length_eq_zero hn
    clear hn
    go_enter Try.func129, Try.ntmps129
    go_wp2
    refine wp_loop_rounds 1 ?_
    rw [rounds_succ]
    go_wp2
    go_ret
    exact ⟨by simp, by simpa [marks] using ho, World.grownBy.refl _ _⟩
  · obtain ⟨g, rfl⟩ : ∃ g, A = some ⟨g, 0, none⟩ := by
      rcases ho.2 with ⟨_, h⟩ | ⟨g, _, _, h, _⟩
      · omega
      · injection h with h; exact ⟨g, h⟩
    have Hn := Lib.hid hn
    clear hn
    go_enter Try.func129, Try.ntmps129
    go_wp2
    go_loopw [1, 5] (fun q i wr => ∃ (k : Nat) (ys : List Int), k ≤ n ∧ i = .int .i64 k ∧ q = .int .i64 (m + k) ∧ Hid (ys.length = n) ∧ Hid (ys.take k = (marks m n).take k) ∧
        Hid (Own64 wr B (.slice (some ⟨g, 0, none⟩) n c) ys) ∧ w.grownBy wr (some g)) (fun _ i _ => n - (intOf i).toNat)
    case atStart => exact ⟨0, zs, Nat.zero_le _, rfl, by simp, Hn, rfl, ho, World.grownBy.refl _ _⟩
    case round =>
      obtain ⟨k, ys, hk, rfl, rfl, hly, he, ho', hb⟩ := hrel
      clear ho
      by_cases hlt : k < n
      · have hly' : ys.length = n := hly
        obtain ⟨c1, c2, c3, c4⟩ := own64_cell ho'.out hly' (k := k) (x := ys[k]) (List.getElem?_eq_getElem (by omega))
        have hs := take_marks_succ hly hlt he
        have ho2 : Hid (Own64 _ _ _ _) := own64_set ho'.out hly' k (m + k)
        generalize ys[k] = y at c1
        clear hly'
        go_wp2
        go_roundw
        case rel => exact ⟨k + 1, ys.set k (m + k), by omega, by go_num, by go_num, by simp [Hid]; exact hly.out, hs, ho2, grown_set hb _ _⟩
        case measure => simp [intOf]; omega
      · obtain rfl : k = n := by omega
        have hys : ys = marks m k := by
          have h1 := he.out
          have h2 := hly.out
          rw [← h2, List.take_length, h2] at h1
          rw [h1, List.take_of_length_le (by rw [marks_length]; exact Nat.le_refl _)]
        have Hs := Lib.hid hys
        clear hys
        go_wp2
        go_ret
        exact ⟨rfl, by rw [← Hs.out]; exact ho'.out, hb⟩

set_option maxHeartbeats 400000 in
theorem heldInts (A : Option Addr) (n c : Nat) (m : Int) (w : World) (hn' : n ≤ 1000000000000) (hm : 0 ≤ m) (hm' : m ≤ 1000000000000) (h : Ints w w.heap.size A (marks m n)) :
    Calls Try.prog 130 #[.slice A n c, .int .i64 m] w fun e w' => e = .returned (.int .i64 (m + n)) ∧ w = w' := by
  go_enter Try.func130, Try.ntmps130
  go_wp2
  go_loop [1, 5] (fun q i => ∃ (k : Nat), k ≤ n ∧ i = .int .i64 k ∧ q = .int .i64 (m + k)) (fun _ i => n - (intOf i).toNat)
  case atStart => exact ⟨0, Nat.zero_le _, rfl, by simp⟩
  case round =>
    obtain ⟨k, hk, rfl, rfl⟩ := hrel
    by_cases hlt : k < n
    · obtain ⟨b, off, x, rfl, hbB, g, hX⟩ := h.at_ (k := k) (by rw [marks_length]; exact hlt)
      clear h
      obtain rfl : x = m + k := by
        have h1 := hX.out
        rw [marks_at m hlt] at h1
        injection h1 with h1
        exact h1.symm
      go_wp2
      go_round
      case rel => exact ⟨k + 1, by omega, by go_num, by go_num⟩
      case measure => simp [intOf]; omega
    · obtain rfl : k = n := by omega
      go_wp2
      go_ret
      exact ⟨rfl, rfl⟩
end Go.Proofs.Ytdgcjkgbglofbaa

/- The walks of the laws' own helpers over trees (structs of one slice): szTree, toTree, eqTree, markTree, heldTree. No conditions but lengths. -/
namespace Go.Proofs.Ytdgcjkgbglofbaa
open Go.RowKit

theorem bcell {W w1 : World} (hb : Below W.heap.size W w1) : (∀ b o, b < W.heap.size → w1.cell? ⟨b, o, none⟩ = W.cell? ⟨b, o, none⟩) ∧ (∀ b o, b < W.heap.size → w1.frozen? ⟨b, o, none⟩ = W.frozen? ⟨b, o, none⟩) :=
  ⟨fun b o h => hb.cell (p := ⟨b, o, none⟩) h, fun b o h => hb.frozen (p := ⟨b, o, none⟩) h⟩

theorem szTree (A : Option Addr) (n c : Nat) (left : Int) (w : World) (hn : n ≤ 9223372036854775807) (hl : left ≤ 1048576) (hl0 : 0 ≤ left) :
    Calls Try.prog 131 #[.agg #[.slice A n c], .int .i64 left] w fun e w' => e = .returned (.int .i64 (if left - n < 0 then -1 else left - n)) ∧ Below w.heap.size w w' := by
  by_cases h : left - (n : Int) < 0
  · go_enter Try.func131, Try.ntmps131
    go_wp2_with (go_at_call 236; refine (szInts _ _ _ _ _ hn hl hl0).mono ?_; rintro e w' ⟨rfl, rfl⟩)
    go_ret
    exact ⟨rfl, (Below.refl _ _).alloc (Nat.le_refl _) _⟩
  · go_enter Try.func131, Try.ntmps131
    go_wp2_with (go_at_call 236; refine (szInts _ _ _ _ _ hn hl hl0).mono ?_; rintro e w' ⟨rfl, rfl⟩)
    go_ret
    exact ⟨rfl, (Below.refl _ _).alloc (Nat.le_refl _) _⟩

set_option maxHeartbeats 400000 in
theorem toTree (A : Option Addr) (xs : List Int) (c : Nat) (w : World) (hx : xs.length ≤ 1000000000000) (h : Ints w w.heap.size A xs) :
    Calls Try.prog 133 #[.agg #[.slice A xs.length c]] w fun e w' => ∃ g, e = .returned (.agg #[.slice (some ⟨g, 0, none⟩) xs.length xs.length]) ∧
      Own64 w' w.heap.size (.slice (some ⟨g, 0, none⟩) xs.length xs.length) xs ∧ Below w.heap.size w w' := by
  go_enter Try.func133, Try.ntmps133
  go_wp2_with fail
  refine (toInts A xs c _ hx (((h.al _).al _).al _)).mono ?_
  rintro e w1 ⟨g, rfl, ho, hb⟩
  obtain ⟨hc, hf⟩ := bcell hb
  have hB := btr (bal (bal (bal (b0 w) _) _) _) hb
  have ho' : Own64 w1 (w.heap.size + 3) (.slice (some ⟨g, 0, none⟩) xs.length xs.length) xs := own_mono ho (by simp)
  clear ho h
  go_wp2
  refine bodyPost_ret (v := .agg #[.slice (some ⟨g, 0, none⟩) xs.length xs.length]) (by simp [results, Try.results133, go_sem, hc]) rfl ?_
  exact ⟨g, rfl, own_mono (own_far (own_far ho' (by omega) _) (by omega) _) (by omega), below_setCell (below_setCell hB (by omega) _) (by omega) _⟩

set_option maxHeartbeats 400000 in
theorem eqTree (A A' : Option Addr) (xs ys : List Int) (c c' : Nat) (w : World) (hy : ys.length ≤ 1000000000000000)
    (h : Ints w w.heap.size A xs) (h' : Ints w w.heap.size A' ys) :
    Calls Try.prog 136 #[.agg #[.slice A xs.length c], .agg #[.slice A' ys.length c']] w fun e w' => e = .returned (.bool (decide (xs = ys))) ∧ Below w.heap.size w w' := by
  have C := eqInts A A' xs ys c c' _ hy ((h.al (.cells #[.slice A xs.length c] 26)).al (.cells #[.slice A' ys.length c'] 26)) ((h'.al _).al _)
  generalize decide (xs = ys) = d at C ⊢
  have HC := Lib.hid C
  clear C
  cases d
  all_goals
    go_enter Try.func136, Try.ntmps136
    go_wp2_with fail
    refine HC.out.mono ?_
    rintro e w1 ⟨rfl, hb⟩
    have hB := btr (bal (bal (b0 w) _) _) hb
    go_wp2
    go_ret
    exact ⟨rfl, hB⟩

set_option maxHeartbeats 400000 in
theorem markTree (A : Option Addr) (n c : Nat) (zs : List Int) (m : Int) (B : Nat) (w : World) (hn : zs.length = n) (hn' : n ≤ 1000000000000) (hm : 0 ≤ m) (hm' : m ≤ 1000000000000) (ho : Own64 w B (.slice A n c) zs) :
    Calls Try.prog 137 #[.agg #[.slice A n c], .int .i64 m] w fun e w' => e = .returned (.int .i64 (m + n)) ∧ Own64 w' B (.slice A n c) (marks m n) ∧ w.grownBy w' (Value.slice A n c).ownBlock := by
  have Hn := Lib.hid hn
  clear hn
  go_enter Try.func137, Try.ntmps137
  go_wp2_with fail
  refine (markInts A n c zs m B _ Hn.out hn' hm hm' (ho.alloc _)).mono ?_
  rintro e w1 ⟨rfl, ho1, hg⟩
  go_wp2
  go_ret
  exact ⟨rfl, ho1, (World.grownBy_alloc w _ _).trans hg⟩

set_option maxHeartbeats 400000 in
theorem heldTree (A : Option Addr) (n c : Nat) (m : Int) (w : World) (hn' : n ≤ 1000000000000) (hm : 0 ≤ m) (hm' : m ≤ 1000000000000) (h : Ints w w.heap.size A (marks m n)) :
    Calls Try.prog 156 #[.agg #[.slice A n c], .int .i64 m] w fun e w' => e = .returned (.int .i64 (m + n)) ∧ Below w.heap.size w w' := by
  go_enter Try.func156, Try.ntmps156
  go_wp2_with (go_at_call 130; refine (heldInts A n c m _ hn' hm hm' (h.al _)).mono ?_; rintro e w' ⟨rfl, rfl⟩)
  go_ret
  exact ⟨rfl, (Below.refl _ _).alloc (Nat.le_refl _) _⟩

theorem own_shape {w : World} {B e : Nat} {v : Value} {n : Nat} {zs : List Value} (h : w.ownsRow B e 1 v n zs) : ∃ A c, v = .slice A n c := by
  rcases h.2 with ⟨rfl, rfl⟩ | ⟨g, cap, _, rfl, _⟩
  · exact ⟨none, 0, rfl⟩
  · exact ⟨_, _, rfl⟩

/-- a step that keeps all that was there: what a law knows of its own memory stays -/
theorem own_be {w w' : World} {base e size n : Nat} {v : Value} {xs : List Value} (h : w.ownsRow base e size v n xs) (hb : Below w.heap.size w w') : w'.ownsRow base e size v n xs := own_below h hb (Nat.le_refl _)

theorem cell_be {w w' : World} {b : Nat} {v : Value} (h : w.cell? ⟨b, 0, none⟩ = some v) (hb : Below w.heap.size w w') : w'.cell? ⟨b, 0, none⟩ = some v :=
  ((bcell hb).1 _ _ (World.block_lt_of_cell? _ _ h)).trans h

theorem cell_grown {w w' : World} {b : Nat} {v : Value} {row : Option Nat} (h : w.cell? ⟨b, 0, none⟩ = some v) (hb : w.grownBy w' row) (hne : ∀ k, row = some k → k ≠ b) : w'.cell? ⟨b, 0, none⟩ = some v :=
  hb.cell h (fun e => hne b e.symm rfl)

theorem own_grown {w w' : World} {base e size n : Nat} {v : Value} {xs : List Value} {row : Option Nat} (h : w.ownsRow base e size v n xs) (hb : w.grownBy w' row) (hne : ∀ k, row = some k → k < base ∨ w.heap.size ≤ k) : w'.ownsRow base e size v n xs := by
  refine h.kept hb ?_
  cases hv : v.ownBlock with
  | none => exact .inl rfl
  | some k =>
    refine .inr fun e => ?_
    have h1 := h.lt k hv
    have h2 := hne k e.symm
    omega

theorem below_grown {a w w' : World} {row : Option Nat} (h : Below a.heap.size a w) (hb : w.grownBy w' row) (hne : ∀ k, row = some k → a.heap.size ≤ k) : Below a.heap.size a w' :=
  h.grown hb h.size hne

theorem eqIntsT (A A' : Option Addr) (xs : List Int) (c c' : Nat) (w : World) (hy : xs.length ≤ 1000000000000000)
    (h : Ints w w.heap.size A xs) (h' : Ints w w.heap.size A' xs) :
    Calls Try.prog 126 #[.slice A xs.length c, .slice A' xs.length c'] w fun e w' => e = .returned (.bool true) ∧ Below w.heap.size w w' :=
  (eqInts A A' xs xs c c' w hy h h').mono fun _ _ ⟨he, hb⟩ => ⟨by rw [he]; simp, hb⟩

theorem eqTreeT (A A' : Option Addr) (xs : List Int) (c c' : Nat) (w : World) (hy : xs.length ≤ 1000000000000000)
    (h : Ints w w.heap.size A xs) (h' : Ints w w.heap.size A' xs) :
    Calls Try.prog 136 #[.agg #[.slice A xs.length c], .agg #[.slice A' xs.length c']] w fun e w' => e = .returned (.bool true) ∧ Below w.heap.size w w' :=
  (eqTree A A' xs xs c c' w hy h h').mono fun _ _ ⟨he, hb⟩ => ⟨by rw [he]; simp, hb⟩

/-- what a function of a tree that hands back a list and a code must do, as F says -/
def GivesList (f : Nat) (F : List Int → List Int × Int) : Prop :=
  ∀ (A : Option Addr) (xs : List Int) (c : Nat) (w : World), xs.length ≤ 1048576 → xs.length ≤ c ∧ c ≤ 9223372036854775807 → Ints w w.heap.size A xs →
    Calls Try.prog f #[.agg #[.slice A xs.length c]] w fun e w' => ∃ A' c', e = .returned (.tuple #[.slice A' (F xs).1.length c', .int .i64 (F xs).2]) ∧
      Own64 w' w.heap.size (.slice A' (F xs).1.length c') (F xs).1 ∧ Below w.heap.size w w'
end Go.Proofs.Ytdgcjkgbglofbaa

/- Plain facts on lists of degrees: when they are a tree, by the two loops. No program is named here. -/
namespace Go.Proofs.Ytdgcjkgbglofbaa.M
/-- the model's loop -/
def isGo : Int → List Int → Bool
  | o, [] => o == 0
  | o, d :: r => if o == 0 || !(decide (0 ≤ d) && decide (d ≤ 24)) then false else isGo (o - 1 + d) r
def isTree (ds : List Int) : Bool := decide (1 ≤ ds.length) && decide (ds.length ≤ 24) && isGo 1 ds
/-- the program's loop -/
def imGo (n : Int) : Int → List Int → Bool
  | m, [] => m == 0
  | m, d :: r => if m == 0 || decide (d < 0) || decide (n ≤ d) then false else imGo n (m + (d - 1)) r
theorem isGo_big : ∀ (r : List Int) (o : Int), (r.length : Int) < o → isGo o r = false := by
  intro r
  induction r with
  | nil => intro o h; simp [isGo] at h ⊢; omega
  | cons d r ih =>
    intro o h
    simp only [isGo]
    split
    · rfl
    · rename_i hc
      simp at hc
      simp only [List.length_cons] at h
      exact ih _ (by omega)
theorem im_is (n : Int) (hn : n ≤ 24) : ∀ (r : List Int) (o : Int), 0 ≤ o → (r.length : Int) ≤ n → imGo n o r = isGo o r := by
  intro r
  induction r with
  | nil => intro o _ _; rfl
  | cons d r ih =>
    intro o ho hl
    simp only [List.length_cons] at hl
    simp only [imGo, isGo]
    by_cases h0 : o = 0
    · simp [h0]
    by_cases h1 : d < 0
    · simp [h1, show ¬ 0 ≤ d by omega]
    by_cases h2 : n ≤ d
    · rw [if_pos (by simp [h2])]
      by_cases h3 : d ≤ 24
      · rw [if_neg (by simp [h0, h3]; omega), isGo_big _ _ (by omega)]
      · rw [if_pos (by simp; omega)]
    · rw [if_neg (by simp [h0]; omega), if_neg (by simp [h0]; omega), ih _ (by omega) (by omega)]
      congr 1; omega
theorem drop_at {xs : List Int} {k : Nat} {x : Int} (h : xs[k]? = some x) : xs.drop k = x :: xs.drop (k + 1) := by
  obtain ⟨hk, rfl⟩ := List.getElem?_eq_some_iff.1 h
  exact List.drop_eq_getElem_cons hk
theorem isGo_stop {xs : List Int} {k : Nat} {x o : Int} (h : xs[k]? = some x) (hs : (o == 0 || !(decide (0 ≤ x) && decide (x ≤ 24))) = true) : isGo o (xs.drop k) = false := by
  rw [drop_at h, isGo, if_pos hs]
theorem isGo_step {xs : List Int} {k : Nat} {x o : Int} (h : xs[k]? = some x) (h0 : o ≠ 0) (h1 : 0 ≤ x) (h2 : x ≤ 24) : isGo o (xs.drop k) = isGo (o - 1 + x) (xs.drop (k + 1)) := by
  rw [drop_at h, isGo, if_neg (by simp [h0, h1, h2])]
theorem imGo_stop {n : Int} {xs : List Int} {k : Nat} {x o : Int} (h : xs[k]? = some x) (hs : (o == 0 || decide (x < 0) || decide (n ≤ x)) = true) : imGo n o (xs.drop k) = false := by
  rw [drop_at h, imGo, if_pos hs]
theorem imGo_step {n : Int} {xs : List Int} {k : Nat} {x o : Int} (h : xs[k]? = some x) (h0 : o ≠ 0) (h1 : 0 ≤ x) (h2 : x < n) : imGo n o (xs.drop k) = imGo n (o + (x - 1)) (xs.drop (k + 1)) := by
  rw [drop_at h, imGo, if_neg (by simp [h0]; omega)]
theorem isTree_im {xs : List Int} (h : 1 ≤ xs.length) (h' : xs.length ≤ 24) : isTree xs = imGo xs.length 1 xs := by
  rw [im_is _ (by omega) _ _ (by omega) (by omega)]
  simp [isTree, h, h']
theorem isTree_is {xs : List Int} (h : 1 ≤ xs.length) (h' : xs.length ≤ 24) : isTree xs = isGo 1 xs := by simp [isTree, h, h']
theorem isTree_no {xs : List Int} (h : ¬ (1 ≤ xs.length ∧ xs.length ≤ 24)) : isTree xs = false := by
  simp only [isTree, Bool.and_eq_false_iff, decide_eq_false_iff_not]
  left; omega

/-- a list for a tree, nothing and the code 1 otherwise -/
def cond (xs l : List Int) : List Int × Int := if isTree xs then (l, 0) else ([], 1)
theorem cond_yes {xs l : List Int} (h : isTree xs = true) : cond xs l = (l, 0) := by simp [cond, h]
theorem cond_no {xs l : List Int} (h : isTree xs = false) : cond xs l = ([], 1) := by simp [cond, h]
theorem tree_len {xs : List Int} (h : isTree xs = true) : 1 ≤ xs.length ∧ xs.length ≤ 24 := by
  simp only [isTree, Bool.and_eq_true, decide_eq_true_eq] at h
  exact h.1
/-- the leaves among the first k nodes -/
def leaves (xs : List Int) : Nat → List Int
  | 0 => []
  | k + 1 => leaves xs k ++ (if xs[k]? = some 0 then [(k : Int)] else [])
theorem leaves_len (xs : List Int) : ∀ k, (leaves xs k).length ≤ k := by
  intro k
  induction k with
  | zero => simp [leaves]
  | succ k ih => simp only [leaves, List.length_append]; split <;> simp <;> omega
theorem leaves_hit {xs : List Int} {k : Nat} (h : xs[k]? = some 0) : leaves xs (k + 1) = leaves xs k ++ [(k : Int)] := by simp [leaves, h]
theorem leaves_miss {xs : List Int} {k : Nat} {x : Int} (h : xs[k]? = some x) (hx : x ≠ 0) : leaves xs (k + 1) = leaves xs k := by simp [leaves, h, hx]

/-- the loop from 'open' on stops within the list, over degrees in range -/
def ok : Int → List Int → Prop
  | o, [] => o ≤ 0
  | o, d :: r => o ≤ 0 ∨ (0 ≤ d ∧ d ≤ 24 ∧ ok (o - 1 + d) r)
/-- how many degrees it takes -/
def span : Int → List Int → Nat
  | _, [] => 0
  | o, d :: r => if o ≤ 0 then 0 else span (o - 1 + d) r + 1
theorem isGo_ok : ∀ (l : List Int) (o o' : Int), isGo o l = true → o' ≤ o → ok o' l := by
  intro l
  induction l with
  | nil => intro o o' h ho; simp [isGo] at h; simp only [ok]; omega
  | cons d r ih =>
    intro o o' h ho
    simp only [isGo] at h
    split at h
    · cases h
    · rename_i hc
      simp at hc
      by_cases h0 : o' ≤ 0
      · exact .inl h0
      · exact .inr ⟨hc.2.1, hc.2.2, ih _ _ h (by omega)⟩
theorem isGo_drop {xs : List Int} (h : isGo 1 xs = true) : ∀ v, v ≤ xs.length → ∃ s : Int, 0 ≤ s ∧ isGo s (xs.drop v) = true ∧ (v < xs.length → 1 ≤ s) := by
  intro v
  induction v with
  | zero => intro _; exact ⟨1, by omega, by simpa using h, fun _ => by omega⟩
  | succ v ih =>
    intro hv
    obtain ⟨s, h0, h1, h2⟩ := ih (by omega)
    have hx : xs[v]? = some xs[v] := List.getElem?_eq_getElem (by omega)
    rw [drop_at hx, isGo] at h1
    split at h1
    · cases h1
    · rename_i hc
      simp at hc
      refine ⟨_, ?_, h1, fun hv' => ?_⟩
      · omega
      · rw [drop_at (List.getElem?_eq_getElem hv'), isGo] at h1
        split at h1
        · cases h1
        · rename_i hc'
          simp at hc'
          omega
theorem tree_go {xs : List Int} (h : isTree xs = true) : isGo 1 xs = true := by
  simp only [isTree, Bool.and_eq_true, decide_eq_true_eq] at h
  exact h.2
theorem tree_ok {xs : List Int} (h : isTree xs = true) {v : Nat} (hv : v < xs.length) : ok 1 (xs.drop v) := by
  obtain ⟨s, _, h1, h2⟩ := isGo_drop (tree_go h) v (by omega)
  exact isGo_ok _ _ _ h1 (h2 hv)
theorem span_le : ∀ (l : List Int) (o : Int), span o l ≤ l.length := by
  intro l
  induction l with
  | nil => intro o; simp [span]
  | cons d r ih => intro o; simp only [span]; split <;> simp; exact ih _
theorem span_stop {o : Int} (h : o ≤ 0) (l : List Int) : span o l = 0 := by cases l <;> simp [span, h]
theorem span_step {xs : List Int} {k : Nat} {x o : Int} (h : xs[k]? = some x) (ho : 0 < o) : span o (xs.drop k) = span (o - 1 + x) (xs.drop (k + 1)) + 1 := by
  rw [drop_at h, span, if_neg (by omega)]
theorem ok_step {xs : List Int} {k : Nat} {x o : Int} (h : xs[k]? = some x) (ho : 0 < o) (hk : ok o (xs.drop k)) : 0 ≤ x ∧ x ≤ 24 ∧ ok (o - 1 + x) (xs.drop (k + 1)) := by
  rw [drop_at h] at hk
  rcases hk with hk | hk
  · omega
  · exact hk
theorem ok_in {xs : List Int} {k : Nat} {o : Int} (ho : 0 < o) (hk : ok o (xs.drop k)) : k < xs.length := by
  rcases Nat.lt_or_ge k xs.length with h | h
  · exact h
  · rw [List.drop_of_length_le h] at hk
    simp only [ok] at hk
    omega
/-- the sizes of the first k subtrees -/
def sizes (xs : List Int) (k : Nat) : List Int := (List.range k).map fun v => (span 1 (xs.drop v) : Int)
theorem sizes_len (xs : List Int) (k : Nat) : (sizes xs k).length = k := by simp [sizes]
theorem sizes_succ (xs : List Int) (k : Nat) : sizes xs (k + 1) = sizes xs k ++ [(span 1 (xs.drop k) : Int)] := by simp [sizes, List.range_succ]
theorem sizes_at (xs : List Int) {n k : Nat} (h : k < n) : (sizes xs n)[k]? = some (span 1 (xs.drop k) : Int) := by simp [sizes, h]

/-- the code of numbers that have to be nodes of a tree of n nodes -/
def codeGo (n : Int) : List Int → Int
  | [] => 0
  | v :: r => if v < 0 ∨ n ≤ v then 2 else codeGo n r
def code (xs ns : List Int) : Int := if isTree xs then codeGo xs.length ns else 1
theorem codeGo_hit {n : Int} {ns : List Int} {k : Nat} {v : Int} (h : ns[k]? = some v) (hv : v < 0 ∨ n ≤ v) : codeGo n (ns.drop k) = 2 := by rw [drop_at h, codeGo, if_pos hv]
theorem codeGo_miss {n : Int} {ns : List Int} {k : Nat} {v : Int} (h : ns[k]? = some v) (h0 : 0 ≤ v) (h1 : v < n) : codeGo n (ns.drop k) = codeGo n (ns.drop (k + 1)) := by rw [drop_at h, codeGo, if_neg (by omega)]

theorem code_tree {xs ns : List Int} (h : code xs ns = 0) : isTree xs = true := by
  cases ht : isTree xs
  · simp [code, ht] at h
  · rfl
theorem code_node {xs : List Int} {v : Int} {r : List Int} (h : code xs (v :: r) = 0) : 0 ≤ v ∧ v.toNat < xs.length ∧ code xs r = 0 := by
  have ht := code_tree h
  simp only [code, ht, if_true, codeGo] at h
  split at h
  · cases h
  · refine ⟨by omega, by omega, ?_⟩
    simp only [code, ht, if_true]
    exact h
/-- is v in the subtree of u -/
def below (xs : List Int) (v u : Int) : Bool := decide (u ≤ v) && decide (v < u + (span 1 (xs.drop u.toNat) : Int))
def isBelow (xs : List Int) (v u : Int) : Bool × Int := if code xs [v, u] = 0 then (below xs v u, 0) else (false, code xs [v, u])
theorem isBelow_yes {xs : List Int} {v u : Int} (h : code xs [v, u] = 0) : isBelow xs v u = (below xs v u, 0) := by simp [isBelow, h]
theorem isBelow_no {xs : List Int} {v u : Int} (h : code xs [v, u] ≠ 0) : isBelow xs v u = (false, code xs [v, u]) := by simp [isBelow, h]

/-- the i-th child of a node: the first stands behind the node, the next one behind the subtree of the one before it -/
def kidAt (xs : List Int) (v : Nat) : Nat → Nat
  | 0 => v + 1
  | i + 1 => kidAt xs v i + span 1 (xs.drop (kidAt xs v i))
/-- the sum of what is announced, less the nodes, over a piece of the list -/
def bal : List Int → Int
  | [] => 0
  | d :: r => (d - 1) + bal r
theorem bal_append (a b : List Int) : bal (a ++ b) = bal a + bal b := by
  induction a with
  | nil => simp [bal]
  | cons d r ih => simp only [List.cons_append, bal, ih]; omega
theorem isGo_bal : ∀ (l : List Int) (o : Int), isGo o l = true → o + bal l = 0 := by
  intro l
  induction l with
  | nil => intro o h; simp [isGo] at h; simp [bal, h]
  | cons d r ih =>
    intro o h
    simp only [isGo] at h
    split at h
    · cases h
    · have := ih _ h; simp only [bal]; omega
theorem isGo_pos : ∀ (l : List Int) (o : Int), isGo o l = true → 0 ≤ o → l ≠ [] → 1 ≤ o := by
  intro l o h h0 hl
  cases l with
  | nil => exact absurd rfl hl
  | cons d r =>
    simp only [isGo] at h
    split at h
    · cases h
    · rename_i hc; simp at hc; omega
theorem span_bal : ∀ (l : List Int) (o : Int), 0 ≤ o → ok o l → o + bal (l.take (span o l)) = 0 := by
  intro l
  induction l with
  | nil => intro o h0 h; simp only [ok] at h; simp [span, bal]; omega
  | cons d r ih =>
    intro o h0 h
    by_cases ho : o ≤ 0
    · rw [span_stop ho]; simp [bal]; omega
    · rcases h with h | ⟨h1, h2, h3⟩
      · omega
      · have := ih _ (by omega) h3
        rw [span, if_neg ho, List.take_succ_cons, bal]
        omega
/-- what is due ahead of node v -/
def due (xs : List Int) (v : Nat) : Int := 1 + bal (xs.take v)
theorem due_drop {xs : List Int} (h : isTree xs = true) (v : Nat) : due xs v + bal (xs.drop v) = 0 := by
  have h1 := isGo_bal _ _ (tree_go h)
  have h2 : bal xs = bal (xs.take v) + bal (xs.drop v) := by rw [← bal_append, List.take_append_drop]
  simp only [due]; omega
theorem due_pos {xs : List Int} (h : isTree xs = true) {v : Nat} (hv : v < xs.length) : 1 ≤ due xs v := by
  obtain ⟨s, h0, h1, h2⟩ := isGo_drop (tree_go h) v (by omega)
  have := isGo_bal _ _ h1
  have := due_drop h v
  have := h2 hv
  omega
theorem due_end {xs : List Int} (h : isTree xs = true) : due xs xs.length = 0 := by
  have := due_drop h xs.length
  simpa [bal] using this
theorem due_lt {xs : List Int} (h : isTree xs = true) {v : Nat} (hv : v ≤ xs.length) (hd : 1 ≤ due xs v) : v < xs.length := by
  rcases Nat.lt_or_eq_of_le hv with h1 | h1
  · exact h1
  · subst h1; have := due_end h; omega
theorem due_succ {xs : List Int} {v : Nat} {x : Int} (h : xs[v]? = some x) : due xs (v + 1) = due xs v + (x - 1) := by
  obtain ⟨hv, rfl⟩ := List.getElem?_eq_some_iff.1 h
  simp only [due]
  rw [List.take_succ_eq_append_getElem hv, bal_append]
  simp [bal]
  omega
theorem due_span {xs : List Int} (h : isTree xs = true) {v : Nat} (hv : v < xs.length) : due xs (v + span 1 (xs.drop v)) = due xs v - 1 := by
  have h1 := span_bal _ 1 (by omega) (tree_ok h hv)
  simp only [due]
  rw [List.take_add, bal_append]
  omega
theorem span_pos {xs : List Int} {v : Nat} (hv : v < xs.length) : 1 ≤ span 1 (xs.drop v) := by
  rw [drop_at (List.getElem?_eq_getElem hv), span, if_neg (by omega)]
  omega
theorem end_le {xs : List Int} {v : Nat} (hv : v ≤ xs.length) : v + span 1 (xs.drop v) ≤ xs.length := by
  have := span_le (xs.drop v) 1
  rw [List.length_drop] at this
  omega
theorem tree_deg {xs : List Int} (h : isTree xs = true) {v : Nat} {x : Int} (hx : xs[v]? = some x) : 0 ≤ x ∧ x ≤ 24 := by
  have hv := (List.getElem?_eq_some_iff.1 hx).1
  have := ok_step hx (by omega) (tree_ok h hv)
  exact ⟨this.1, this.2.1⟩
theorem kid_due {xs : List Int} (h : isTree xs = true) {v : Nat} {x : Int} (hx : xs[v]? = some x) : ∀ i : Nat, (i : Int) ≤ x → kidAt xs v i ≤ xs.length ∧ due xs (kidAt xs v i) = due xs v + (x - 1) - i ∧ v < kidAt xs v i := by
  have hv := (List.getElem?_eq_some_iff.1 hx).1
  have hd := due_pos h hv
  intro i
  induction i with
  | zero => intro _; exact ⟨by simp only [kidAt]; omega, by simp only [kidAt]; rw [due_succ hx]; omega, by simp only [kidAt]; omega⟩
  | succ i ih =>
    intro hi
    obtain ⟨h1, h2, h3⟩ := ih (by omega)
    have h4 : kidAt xs v i < xs.length := due_lt h h1 (by rw [h2]; omega)
    refine ⟨by simp only [kidAt]; exact end_le h1, ?_, by simp only [kidAt]; omega⟩
    simp only [kidAt]
    rw [due_span h h4, h2]
    omega
/-- a child lies within the tree -/
theorem kid_lt {xs : List Int} (h : isTree xs = true) {v : Nat} {x : Int} (hx : xs[v]? = some x) {i : Nat} (hi : (i : Int) < x) : kidAt xs v i < xs.length := by
  have hv := (List.getElem?_eq_some_iff.1 hx).1
  obtain ⟨h1, h2, _⟩ := kid_due h hx i (by omega)
  have := due_pos h hv
  exact due_lt h h1 (by rw [h2]; omega)

/-- the children of a node, as numbers -/
def childs (xs : List Int) (v k : Nat) : List Int := (List.range k).map fun i => (kidAt xs v i : Int)
theorem childs_succ (xs : List Int) (v k : Nat) : childs xs v (k + 1) = childs xs v k ++ [(kidAt xs v k : Int)] := by simp [childs, List.range_succ]
theorem childs_length (xs : List Int) (v k : Nat) : (childs xs v k).length = k := by simp [childs]
def childrenOf (xs : List Int) (v : Int) : List Int × Int := if code xs [v] = 0 then (childs xs v.toNat (xs[v.toNat]?.getD 0).toNat, 0) else ([], code xs [v])
theorem childrenOf_yes {xs : List Int} {v d : Nat} (h : code xs [(v : Int)] = 0) (hd : xs[v]? = some (d : Int)) : childrenOf xs v = (childs xs v d, 0) := by simp [childrenOf, h, hd]
theorem childrenOf_no {xs : List Int} {v : Int} (h : code xs [v] ≠ 0) : childrenOf xs v = ([], code xs [v]) := by simp [childrenOf, h]
theorem tree_degN {xs : List Int} (h : isTree xs = true) {v : Nat} (hv : v < xs.length) : ∃ d : Nat, xs[v]? = some (d : Int) ∧ d ≤ 24 := by
  have hx : xs[v]? = some xs[v] := List.getElem?_eq_getElem hv
  have := tree_deg h hx
  exact ⟨xs[v].toNat, by rw [hx]; congr 1; omega, by omega⟩

/-- the degrees of the subtree of a node -/
def sub (xs : List Int) (v : Nat) : List Int := (xs.drop v).take (span 1 (xs.drop v))
theorem sub_length {xs : List Int} (v : Nat) : (sub xs v).length = span 1 (xs.drop v) := by
  have := span_le (xs.drop v) 1
  simp only [sub, List.length_take]
  omega
def subtreeAt (xs : List Int) (v : Int) : List Int × Int := if code xs [v] = 0 then (sub xs v.toNat, 0) else ([], code xs [v])
theorem subtreeAt_yes {xs : List Int} {v : Nat} (h : code xs [(v : Int)] = 0) : subtreeAt xs v = (sub xs v, 0) := by simp [subtreeAt, h]
theorem subtreeAt_no {xs : List Int} {v : Int} (h : code xs [v] ≠ 0) : subtreeAt xs v = ([], code xs [v]) := by simp [subtreeAt, h]

/-- the way down by the places of an address -/
def nodeGo (xs : List Int) : Nat → List Int → Option Nat
  | v, [] => some v
  | v, a :: r => if xs[v]?.getD 0 ≤ a then none else nodeGo xs (kidAt xs v a.toNat) r
def anyNeg (l : List Int) : Bool := l.any fun x => decide (x < 0)
def nodeAt (xs l : List Int) : Int × Int :=
  if isTree xs = false then (0, 1) else if 24 < l.length ∨ anyNeg l = true then (0, 2) else match nodeGo xs 0 l with | none => (0, 4) | some v => ((v : Int), 0)
theorem nodeAt_no {xs l : List Int} (h : isTree xs = false) : nodeAt xs l = (0, 1) := by simp [nodeAt, h]
theorem nodeAt_range {xs l : List Int} (h : isTree xs = true) (h2 : 24 < l.length ∨ anyNeg l = true) : nodeAt xs l = (0, 2) := by simp only [nodeAt, h, if_pos h2]; simp
theorem nodeAt_go {xs l : List Int} (h : isTree xs = true) (h2 : l.length ≤ 24) (h3 : anyNeg l = false) : nodeAt xs l = (match nodeGo xs 0 l with | none => (0, 4) | some v => ((v : Int), 0)) := by
  simp only [nodeAt, h]
  rw [if_neg (by simp), if_neg (by simp [h3]; omega)]
theorem anyNeg_hit {l : List Int} {k : Nat} {x : Int} (h : l[k]? = some x) (hx : x < 0) : anyNeg l = true := by
  simp only [anyNeg, List.any_eq_true]
  obtain ⟨hk, rfl⟩ := List.getElem?_eq_some_iff.1 h
  exact ⟨_, List.getElem_mem hk, by simp [hx]⟩
theorem anyNeg_take {l : List Int} {k : Nat} {x : Int} (h : l[k]? = some x) (hx : 0 ≤ x) (ht : anyNeg (l.take k) = false) : anyNeg (l.take (k + 1)) = false := by
  obtain ⟨hk, rfl⟩ := List.getElem?_eq_some_iff.1 h
  rw [List.take_succ_eq_append_getElem hk, anyNeg, List.any_append]
  simp only [anyNeg] at ht
  simp [ht, hx]
theorem anyNeg_no {l : List Int} (h : anyNeg l = false) {k : Nat} {x : Int} (hx : l[k]? = some x) : 0 ≤ x := by
  rcases Int.lt_or_le x 0 with h1 | h1
  · have := anyNeg_hit hx h1; rw [h] at this; cases this
  · exact h1
theorem nodeGo_miss {xs l : List Int} {v k : Nat} {a : Int} {d : Nat} (h : l[k]? = some a) (hd : xs[v]? = some (d : Int)) (ha : (d : Int) ≤ a) : nodeGo xs v (l.drop k) = none := by
  rw [drop_at h, nodeGo, if_pos (by simp [hd, ha])]
theorem nodeGo_step {xs l : List Int} {v k : Nat} {a : Int} {d : Nat} (h : l[k]? = some a) (hd : xs[v]? = some (d : Int)) (ha : a < (d : Int)) : nodeGo xs v (l.drop k) = nodeGo xs (kidAt xs v a.toNat) (l.drop (k + 1)) := by
  rw [drop_at h, nodeGo, if_neg (by simp [hd]; omega)]
theorem childs_at (xs : List Int) (v : Nat) {k i : Nat} (h : i < k) : (childs xs v k)[i]? = some (kidAt xs v i : Int) := by simp [childs, h]

def cmpI (x y : Int) : Int := if x < y then -1 else if y < x then 1 else 0
/-- the order of lists of one length -/
def cmpL : List Int → List Int → Int
  | x :: r, y :: s => if x < y then -1 else if y < x then 1 else cmpL r s
  | _, _ => 0
theorem cmpI_lt {x y : Int} (h : x < y) : cmpI x y = -1 := by simp [cmpI, h]
theorem cmpI_gt {x y : Int} (h : y < x) : cmpI x y = 1 := by rw [cmpI, if_neg (by omega), if_pos h]
theorem cmpI_eq {x y : Int} (h : x = y) : cmpI x y = 0 := by rw [cmpI, if_neg (by omega), if_neg (by omega)]
theorem cmpL_lt {xs ys : List Int} {k : Nat} {x y : Int} (h : xs[k]? = some x) (h' : ys[k]? = some y) (hl : x < y) : cmpL (xs.drop k) (ys.drop k) = -1 := by
  rw [drop_at h, drop_at h', cmpL, if_pos hl]
theorem cmpL_gt {xs ys : List Int} {k : Nat} {x y : Int} (h : xs[k]? = some x) (h' : ys[k]? = some y) (hl : y < x) : cmpL (xs.drop k) (ys.drop k) = 1 := by
  rw [drop_at h, drop_at h', cmpL, if_neg (by omega), if_pos hl]
theorem cmpL_eq {xs ys : List Int} {k : Nat} {x y : Int} (h : xs[k]? = some x) (h' : ys[k]? = some y) (hl : x = y) : cmpL (xs.drop k) (ys.drop k) = cmpL (xs.drop (k + 1)) (ys.drop (k + 1)) := by
  rw [drop_at h, drop_at h', cmpL, if_neg (by omega), if_neg (by omega)]
theorem cmpL_end {xs ys : List Int} : cmpL (xs.drop xs.length) ys = 0 := by simp [cmpL]
theorem cmpL_swap : ∀ (xs ys : List Int), cmpL ys xs = - cmpL xs ys := by
  intro xs
  induction xs with
  | nil => intro ys; cases ys <;> simp [cmpL]
  | cons x r ih =>
    intro ys
    cases ys with
    | nil => simp [cmpL]
    | cons y s =>
      simp only [cmpL]
      by_cases h1 : x < y
      · rw [if_neg (by omega), if_pos h1, if_pos h1]; rfl
      · by_cases h2 : y < x
        · rw [if_pos h2, if_neg h1, if_pos h2]
        · rw [if_neg h2, if_neg h1, if_neg h1, if_neg h2]; exact ih s
theorem cmpL_range : ∀ (xs ys : List Int), cmpL xs ys = -1 ∨ cmpL xs ys = 0 ∨ cmpL xs ys = 1 := by
  intro xs
  induction xs with
  | nil => intro ys; cases ys <;> simp [cmpL]
  | cons x r ih =>
    intro ys
    cases ys with
    | nil => simp [cmpL]
    | cons y s => simp only [cmpL]; split; simp; split; simp; exact ih s
/-- the order of trees: by their numbers of nodes, then by their degrees -/
def cmpT (xs ys : List Int) : Int := if xs.length = ys.length then cmpL xs ys else cmpI xs.length ys.length
def compareTrees (xs ys : List Int) : Int × Int := if isTree xs = true ∧ isTree ys = true then (cmpT xs ys, 0) else (0, 1)
theorem compareTrees_yes {xs ys : List Int} (h : isTree xs = true) (h' : isTree ys = true) : compareTrees xs ys = (cmpT xs ys, 0) := by simp [compareTrees, h, h']
theorem compareTrees_no1 {xs ys : List Int} (h : isTree xs = false) : compareTrees xs ys = (0, 1) := by simp [compareTrees, h]
theorem compareTrees_no2 {xs ys : List Int} (h : isTree ys = false) : compareTrees xs ys = (0, 1) := by simp [compareTrees, h]
theorem cmpT_swap (xs ys : List Int) : cmpT ys xs = - cmpT xs ys := by
  simp only [cmpT]
  by_cases h : xs.length = ys.length
  · rw [if_pos h, if_pos h.symm, cmpL_swap]
  · rw [if_neg h, if_neg (fun e => h e.symm)]
    simp only [cmpI]
    by_cases h1 : (xs.length : Int) < ys.length
    · rw [if_neg (by omega), if_pos h1, if_pos h1]; rfl
    · rw [if_pos (by omega), if_neg h1, if_pos (by omega)]
theorem cmpT_range (xs ys : List Int) : cmpT xs ys = -1 ∨ cmpT xs ys = 0 ∨ cmpT xs ys = 1 := by
  simp only [cmpT]
  split
  · exact cmpL_range _ _
  · simp only [cmpI]; split; simp; split <;> simp

/-- one byte read: 'ds' the degrees so far, 'st' the nodes that are open -/
def pstep (ds st : List Int) (c : Int) : Option (List Int × List Int) :=
  if c = 40 then
    (if 0 < st.length then some ((ds.set (st[st.length - 1]?.getD 0).toNat ((ds[(st[st.length - 1]?.getD 0).toNat]?.getD 0) + 1)) ++ [0], st ++ [(ds.length : Int)])
     else if ds = [] then some ([0], [0]) else none)
  else if c = 41 then (if 0 < st.length then some (ds, st.dropLast) else none) else none
def prun : List Int → List Int → List Int → Option (List Int × List Int)
  | ds, st, [] => some (ds, st)
  | ds, st, c :: r => match pstep ds st c with | none => none | some (ds', st') => prun ds' st' r
def parse (l : List Int) : List Int × Int :=
  if 48 < l.length then ([], 6) else match prun [] [] l with | some (ds, []) => (if ds = [] then ([], 6) else (ds, 0)) | _ => ([], 6)
theorem prun_step {l ds st ds' st' : List Int} {k : Nat} {c : Int} (h : l[k]? = some c) (hs : pstep ds st c = some (ds', st')) : prun ds st (l.drop k) = prun ds' st' (l.drop (k + 1)) := by
  rw [drop_at h, prun, hs]
theorem prun_fail {l ds st : List Int} {k : Nat} {c : Int} (h : l[k]? = some c) (hs : pstep ds st c = none) : prun ds st (l.drop k) = none := by
  rw [drop_at h, prun, hs]
theorem parse_long {l : List Int} (h : 48 < l.length) : parse l = ([], 6) := by rw [parse, if_pos h]
theorem parse_fail {l : List Int} (h : prun [] [] l = none) : parse l = ([], 6) := by rw [parse, h]; split <;> rfl
theorem parse_open {l ds st : List Int} (h : prun [] [] l = some (ds, st)) (hs : 0 < st.length) : parse l = ([], 6) := by
  rw [parse, h]
  cases st with
  | nil => simp at hs
  | cons a r => split <;> rfl
theorem parse_empty {l : List Int} (h : prun [] [] l = some ([], [])) : parse l = ([], 6) := by rw [parse, h]; split <;> simp
theorem parse_done {l ds : List Int} (hl : l.length ≤ 48) (h : prun [] [] l = some (ds, [])) (hs : ds ≠ []) : parse l = (ds, 0) := by
  rw [parse, if_neg (by omega), h]
  simp [hs]
theorem pstep_open {ds st : List Int} {p : Int} {d : Int} (hp : st[st.length - 1]? = some p) (hd : ds[p.toNat]? = some d) : pstep ds st 40 = some (ds.set p.toNat (d + 1) ++ [0], st ++ [(ds.length : Int)]) := by
  have hl : 0 < st.length := by have := (List.getElem?_eq_some_iff.1 hp).1; omega
  simp [pstep, hl, hp, hd]
theorem pstep_first : pstep [] [] 40 = some ([0], [0]) := by simp [pstep]
theorem pstep_again {ds : List Int} (h : ds ≠ []) : pstep ds [] 40 = none := by simp [pstep, h]
theorem pstep_close {ds st : List Int} (h : 0 < st.length) : pstep ds st 41 = some (ds, st.dropLast) := by simp [pstep, h]
theorem pstep_none {ds : List Int} {c : Int} (h : ds ≠ [] ∨ c ≠ 40) : pstep ds [] c = none := by
  simp only [pstep]
  split
  · rename_i hc; rw [if_neg (by simp), if_neg (by rcases h with h | h; exact h; exact absurd hc h)]
  · split <;> simp
theorem pstep_other {ds st : List Int} {c : Int} (h : c ≠ 40) (h' : c ≠ 41) : pstep ds st c = none := by simp [pstep, h, h']
/-- what holds of a state: the open nodes are nodes; the degrees are small -/
def pgood (k : Nat) (ds st : List Int) : Prop :=
  ds.length ≤ k ∧ st.length ≤ ds.length ∧ (∀ p ∈ st, 0 ≤ p ∧ p.toNat < ds.length) ∧ (∀ d ∈ ds, 0 ≤ d ∧ d ≤ k)
theorem pgood_nil : pgood 0 [] [] := by simp [pgood]
theorem pgood_open {k : Nat} {ds st : List Int} {p d : Int} (h : pgood k ds st) (hd : ds[p.toNat]? = some d) : pgood (k + 1) (ds.set p.toNat (d + 1) ++ [0]) (st ++ [(ds.length : Int)]) := by
  obtain ⟨h1, h2, h3, h4⟩ := h
  refine ⟨by simp; omega, by simp; omega, fun q hq => ?_, fun e he => ?_⟩
  · simp only [List.length_append, List.length_set, List.length_cons, List.length_nil]
    rcases List.mem_append.1 hq with hq | hq
    · have := h3 q hq; omega
    · simp at hq; subst hq; simp
  · rcases List.mem_append.1 he with he | he
    · rcases List.mem_or_eq_of_mem_set he with he | he
      · have := h4 e he; omega
      · obtain ⟨hk, e1⟩ := List.getElem?_eq_some_iff.1 hd
        have := h4 d (e1 ▸ List.getElem_mem hk)
        omega
    · simp at he; subst he; omega
theorem pgood_first : pgood 1 [0] [0] := by simp [pgood]
theorem pgood_close {k : Nat} {ds st : List Int} (h : pgood k ds st) : pgood (k + 1) ds st.dropLast := by
  obtain ⟨h1, h2, h3, h4⟩ := h
  exact ⟨by omega, by simp; omega, fun q hq => h3 q ((List.dropLast_subset _) hq), fun e he => by have := h4 e he; omega⟩
end Go.Proofs.Ytdgcjkgbglofbaa.M

/- The walks of IsTree, the program's and the model's: both return the same Bool of the list of degrees. -/
namespace Go.Proofs.Ytdgcjkgbglofbaa
open Go.RowKit

theorem inAny (n lo hi : Int) (w : World) (b : Bool) (hb : Hid ((decide (lo ≤ n) && decide (n ≤ hi)) = b)) :
    Calls Try.prog 229 #[.int .i64 n, .int .i64 lo, .int .i64 hi] w fun e w' => e = .returned (.bool b) ∧ w = w' := by
  by_cases h : lo ≤ n
  · have hb' : b = decide (n ≤ hi) := by rw [← hb.out]; simp [h]
    clear hb
    subst hb'
    go_enter Try.func229, Try.ntmps229
    go_wp2
    go_ret
    exact ⟨rfl, rfl⟩
  · have hb' : b = false := by rw [← hb.out]; simp; intro h'; exact absurd h' h
    clear hb
    subst hb'
    have hd : decide (lo ≤ n) = false := decide_eq_false h
    go_enter Try.func229, Try.ntmps229
    go_wp2
    go_ret
    exact ⟨rfl, rfl⟩

theorem l01N (A : Option Addr) (n c : Nat) (w : World) : Calls Try.prog 169 #[.agg #[.slice A n c]] w fun e w' => e = .returned (.int .i64 n) ∧ Below w.heap.size w w' := by
  go_enter Try.func169, Try.ntmps169
  go_wp2
  go_ret
  exact ⟨rfl, bal (b0 w) _⟩

set_option maxHeartbeats 1000000 in
theorem specIs (A : Option Addr) (xs : List Int) (c : Nat) (w : World) (hx : xs.length ≤ 1000000000000) (h : Ints w w.heap.size A xs) :
    Calls Try.prog 168 #[.agg #[.slice A xs.length c]] w fun e w' => e = .returned (.bool (M.isTree xs)) ∧ Below w.heap.size w w' := by
  by_cases hn : 1 ≤ xs.length ∧ xs.length ≤ 24
  · have hd : Hid ((decide ((1 : Int) ≤ (xs.length : Int)) && decide ((xs.length : Int) ≤ 24)) = true) := by simp [Hid]; omega
    have ht := Lib.hid (M.isTree_is hn.1 hn.2)
    obtain ⟨hn1, hn2⟩ := hn
    go_enter Try.func168, Try.ntmps168
    go_wp2_with fail
    refine (l01N A xs.length c _).mono ?_
    rintro e w1 ⟨rfl, hb⟩
    obtain ⟨hc, hf⟩ := bcell hb
    have hB := btr (bal (b0 w) _) hb
    have h1 := (h.al (.cells #[.slice A xs.length c] 26)).be hb
    clear h
    have hsz : w.heap.size < w1.heap.size := by have := hb.size; simp at this; omega
    have hcell : w1.cell? ⟨w.heap.size, 0, none⟩ = some (.slice A xs.length c) := by rw [hc _ _ (by simp)]; simp
    clear hc hf hb
    go_wp2_with (go_at_call 229; refine (inAny _ _ _ _ _ hd).mono ?_; rintro e w' ⟨rfl, rfl⟩)
    go_loop [3, 4] (fun q i => ∃ (k : Nat) (o : Int), k ≤ xs.length ∧ i = .int .i64 k ∧ q = .int .i64 o ∧ 0 ≤ o ∧ o ≤ 1 + 24 * k ∧ Hid (M.isTree xs = M.isGo o (xs.drop k))) (fun _ i => xs.length - (intOf i).toNat)
    case atStart => exact ⟨0, 1, Nat.zero_le _, rfl, rfl, by omega, by omega, ht⟩
    case round =>
      obtain ⟨k, o, hk, rfl, rfl, ho0, ho1, hg⟩ := hrel
      clear ht
      by_cases hlt : k < xs.length
      · obtain ⟨b, off, x, rfl, hbB, g, hX⟩ := h1.at_ hlt
        clear h1
        by_cases ho : o = 0
        · subst ho
          have hs := Lib.hid (hg.out.trans (M.isGo_stop hX.out (by simp)))
          go_wp2_with fail
          go_ret
          exact ⟨by rw [hs.out]; rfl, hB⟩
        · have ho' : (o == 0) = false := by simp [ho]
          have ho2 : 1 ≤ o := by omega
          by_cases hr : 0 ≤ x ∧ x ≤ 24
          · obtain ⟨hr1, hr2⟩ := hr
            have hs := Lib.hid (hg.out.trans (M.isGo_step hX.out ho hr1 hr2))
            have hd2 : Hid ((decide (0 ≤ x) && decide (x ≤ 24)) = true) := by simp [Hid, hr1, hr2]
            clear ho
            go_wp2_with (go_at_call 229; refine (inAny _ _ _ _ _ hd2).mono ?_; rintro e w' ⟨rfl, rfl⟩)
            go_round
            case rel => exact ⟨k + 1, o - 1 + x, by omega, by go_num, rfl, by omega, by omega, hs⟩
            case measure => simp [intOf]; omega
          · have hd2 : Hid ((decide (0 ≤ x) && decide (x ≤ 24)) = false) := by simp [Hid]; omega
            have hs := Lib.hid (hg.out.trans (M.isGo_stop (o := o) hX.out (by rw [hd2.out]; simp)))
            clear ho
            go_wp2_with (go_at_call 229; refine (inAny _ _ _ _ _ hd2).mono ?_; rintro e w' ⟨rfl, rfl⟩)
            go_ret
            exact ⟨by rw [hs.out]; rfl, hB⟩
      · obtain rfl : k = xs.length := by omega
        have hs := hg.out
        rw [List.drop_length] at hs
        have Hs : Hid (M.isTree xs = (o == 0)) := hs
        clear hs hg
        go_wp2
        go_ret
        exact ⟨by rw [Hs.out]; rfl, hB⟩
  · have hd : Hid ((decide ((1 : Int) ≤ (xs.length : Int)) && decide ((xs.length : Int) ≤ 24)) = false) := by simp [Hid]; omega
    have ht := Lib.hid (M.isTree_no hn)
    clear hn
    go_enter Try.func168, Try.ntmps168
    go_wp2_with fail
    refine (l01N A xs.length c _).mono ?_
    rintro e w1 ⟨rfl, hb⟩
    have hB := btr (bal (b0 w) _) hb
    clear h
    go_wp2_with (go_at_call 229; refine (inAny _ _ _ _ _ hd).mono ?_; rintro e w' ⟨rfl, rfl⟩)
    go_ret
    exact ⟨by rw [ht.out]; rfl, hB⟩

set_option maxHeartbeats 1000000 in
theorem implIsTree (A : Option Addr) (xs : List Int) (c : Nat) (w : World) (hx : xs.length ≤ 1000000000000) (h : Ints w w.heap.size A xs) :
    Calls Try.prog 34 #[.agg #[.slice A xs.length c]] w fun e w' => e = .returned (.bool (M.isTree xs)) ∧ Below w.heap.size w w' := by
  by_cases hn : 1 ≤ xs.length
  · have hn' : ¬ ((xs.length : Int) < 1) := by omega
    have hd0 : decide ((xs.length : Int) < 1) = false := decide_eq_false hn'
    by_cases hn2 : xs.length ≤ 24
    · have ht := Lib.hid (M.isTree_im hn hn2)
      have hh := h.al (.cells #[.slice A xs.length c] 26)
      clear h
      go_enter Try.func34, Try.ntmps34
      go_wp2
      go_loop [4, 19] (fun q i => ∃ (k : Nat) (o : Int), k ≤ xs.length ∧ i = .int .i64 k ∧ q = .int .i64 o ∧ 0 ≤ o ∧ o ≤ 1 + 24 * k ∧ Hid (M.isTree xs = M.imGo xs.length o (xs.drop k))) (fun _ i => xs.length - (intOf i).toNat)
      case atStart => exact ⟨0, 1, Nat.zero_le _, rfl, rfl, by omega, by omega, ht⟩
      case round =>
        obtain ⟨k, o, hk, rfl, rfl, ho0, ho1, hg⟩ := hrel
        clear ht
        by_cases hlt : k < xs.length
        · obtain ⟨b, off, x, rfl, hbB, g, hX⟩ := hh.at_ hlt
          clear hh
          by_cases ho : o = 0
          · subst ho
            have hs := Lib.hid (hg.out.trans (M.imGo_stop hX.out (by simp)))
            go_wp2
            go_ret
            exact ⟨by rw [hs.out]; rfl, bal (b0 w) _⟩
          · have ho' : (o == 0) = false := by simp [ho]
            have ho2 : 1 ≤ o := by omega
            by_cases hr : x < 0
            · have hs := Lib.hid (hg.out.trans (M.imGo_stop (n := xs.length) (o := o) hX.out (by simp [hr])))
              clear ho
              go_wp2
              go_ret
              exact ⟨by rw [hs.out]; rfl, bal (b0 w) _⟩
            · have hr' : decide (x < 0) = false := decide_eq_false hr
              have hr0 : 0 ≤ x := by omega
              by_cases hr2 : (xs.length : Int) ≤ x
              · have hs := Lib.hid (hg.out.trans (M.imGo_stop (n := xs.length) (o := o) hX.out (by simp [hr2])))
                clear ho hr
                go_wp2
                go_ret
                exact ⟨by rw [hs.out]; rfl, bal (b0 w) _⟩
              · have hs := Lib.hid (hg.out.trans (M.imGo_step (n := xs.length) hX.out ho hr0 (by omega)))
                have hr3 : x < (xs.length : Int) := by omega
                have hr4 : decide ((xs.length : Int) ≤ x) = false := decide_eq_false hr2
                clear ho hr
                go_wp2
                go_round
                case rel => exact ⟨k + 1, o + (x - 1), by omega, by go_num, rfl, by omega, by omega, hs⟩
                case measure => simp [intOf]; omega
        · obtain rfl : k = xs.length := by omega
          have hs := hg.out
          rw [List.drop_length] at hs
          have Hs : Hid (M.isTree xs = (o == 0)) := hs
          clear hs hg
          go_wp2
          go_ret
          exact ⟨by rw [Hs.out]; rfl, bal (b0 w) _⟩
    · have ht := Lib.hid (M.isTree_no (xs := xs) (by omega))
      have hd1 : (24 : Int) < (xs.length : Int) := by omega
      go_enter Try.func34, Try.ntmps34
      go_wp2
      go_ret
      exact ⟨by rw [ht.out]; rfl, bal (b0 w) _⟩
  · have ht := Lib.hid (M.isTree_no (xs := xs) (by omega))
    have hd1 : (xs.length : Int) < 1 := by omega
    go_enter Try.func34, Try.ntmps34
    go_wp2
    go_ret
    exact ⟨by rw [ht.out]; rfl, bal (b0 w) _⟩
end Go.Proofs.Ytdgcjkgbglofbaa

/- append of one number to a row of the call's own; an empty row; the codes of trees and nodes. -/
namespace Go.Proofs.Ytdgcjkgbglofbaa
open Go.RowKit

theorem own64_len {w : World} {B n c : Nat} {A : Option Addr} {zs : List Int} (h : Own64 w B (.slice A n c) zs) : n = zs.length := by
  rcases h.2 with ⟨h1, h2⟩ | ⟨g, cap, cur, hv, _⟩
  · injection h1 with _ h1 _; omega
  · injection hv

theorem push64 {ops : Array Oper} {rest : List Oper} {o : Oper} {a : Act} {Q : Exit → Act → World → Prop} (hgd : o.guard = none) (s x : Operand)
    (ho : o.op = .call { callee := .builtin .append, args := #[s, x], argTypes := #[24, 24] }) (w : World) (B : Nat) (A : Option Addr) (n c : Nat) (zs : List Int) (y : Int)
    (hs : a.eval s = .slice A n c) (hx : a.eval x = .slice (some ⟨w.heap.size, 0, none⟩) 1 1) (hown : Hid (Own64 w B (.slice A n c) zs)) (hB : B ≤ w.heap.size) (hlen : n ≤ 1000000)
    (h : ∀ A' c' w', Hid (Own64 w' B (.slice A' (n + 1) c') (zs ++ [y])) → Hid (Below B w w') → wpList Try.prog ops Q rest (a.put o.dst (.slice A' (n + 1) c')) w') :
    wpList Try.prog ops Q (o :: rest) a (w.alloc (.cells #[.int .i64 y] 2)) := by
  obtain ⟨i0, hi0, hz0, hz1, hz2⟩ := info_parts info64
  have hown := hown.out
  have hn := own64_len hown
  subst hn
  refine wpList_append_own _ hgd s x 24 ho B 2 i0 (.int .i64 0) 1 8 Try.underlying24 hi0 hz0 hz1 hz2 rfl (by decide) _ zs.length (zs.map (Value.int .i64)) hs (hown.alloc _) ⟨w.heap.size, 0, none⟩ 1 1 [.int .i64 y] hx rfl ?_ ?_ ?_ ?_ ?_ ?_
  · intro j u hj
    match j, hj with
    | 0, hj => simp at hj; subst hj; simp [Addr.add]
  · intro u hu; simp at hu; subst hu; rfl
  · unfold maxLen; omega
  · omega
  · simp; omega
  · intro v' w1 hown1 hg1 _
    obtain ⟨A, c, rfl⟩ : ∃ A c, v' = .slice A (zs.length + 1) c := by
      rcases hown1.2 with ⟨rfl, h0⟩ | ⟨g, cap, _, rfl, _⟩
      · omega
      · exact ⟨_, _, rfl⟩
    refine h A c w1 ?_ ?_
    · have e : (zs ++ [y]).length = zs.length + 1 := by simp
      show Own64 _ _ _ _
      unfold Own64
      rw [e]
      simpa using hown1
    · exact ((Below.refl B w).alloc hB _).grown hg1 (by simp; omega) (fun k hk => (hown.lt k hk).1)

/-- '[]int64{}': a row of no numbers -/
theorem own64_empty {w : World} {B : Nat} (hB : B ≤ w.heap.size) : Own64 (w.alloc (.cells #[] 2)) B (.slice (some ⟨w.heap.size, 0, none⟩) 0 0) [] := by
  have := World.ownsRow_made (e := 2) (size := 1) w #[] 0 hB (by simp [maxLen]) (by simp)
  exact this

theorem own64_nil (w : World) (B : Nat) : Own64 w B (.slice none 0 0) [] := World.ownsRow_nil _ _ _ _

theorem own64_eq {w : World} {B : Nat} {v : Value} {zs ys : List Int} (h : Own64 w B v zs) (e : zs = ys) : Own64 w B v ys := e ▸ h

set_option maxHeartbeats 1000000 in
theorem codeOf0 (A : Option Addr) (xs : List Int) (c : Nat) (w : World) (hx : xs.length ≤ 1000000000000) (h : Ints w w.heap.size A xs) (r : Int) (hr : Hid ((if M.isTree xs then 0 else 1) = r)) :
    Calls Try.prog 166 #[.agg #[.slice A xs.length c], .slice none 0 0] w fun e w' => e = .returned (.int .i64 r) ∧ Below w.heap.size w w' := by
  cases ht : M.isTree xs
  all_goals
    rw [ht] at hr
    have hc := (implIsTree A xs c (w.alloc (.cells #[.slice A xs.length c] 26)) hx (h.al _))
    rw [ht] at hc
    have HC := Lib.hid hc
    obtain rfl := hr.out
    clear hc ht hr
    go_enter Try.func166, Try.ntmps166
    go_wp2_with fail
    refine HC.out.mono ?_
    rintro e w1 ⟨rfl, hb⟩
    have hB := btr (bal (b0 w) _) hb
    go_wp2
    first
      | (go_ret; exact ⟨rfl, hB⟩)
      | (refine wp_loop_rounds 1 ?_
         rw [rounds_succ]
         go_wp2
         go_ret
         exact ⟨rfl, hB⟩)
end Go.Proofs.Ytdgcjkgbglofbaa

/- append of a whole slice to a row of the call's own. -/
namespace Go.Proofs.Ytdgcjkgbglofbaa
open Go.RowKit

set_option maxRecDepth 100000 in
theorem appendInts {ops : Array Oper} {rest : List Oper} {o : Oper} {a : Act} {Q : Exit → Act → World → Prop} (hgd : o.guard = none) (s x : Operand)
    (ho : o.op = .call { callee := .builtin .append, args := #[s, x], argTypes := #[24, 24] }) (w : World) (B : Nat) (A : Option Addr) (n c : Nat) (zs : List Int) (A2 : Option Addr) (m c2 : Nat) (ys : List Int)
    (hs : a.eval s = .slice A n c) (hx : a.eval x = .slice A2 m c2) (hown : Hid (Own64 w B (.slice A n c) zs)) (hsrc : Hid (Ints w w.heap.size A2 ys)) (hm : Hid (ys.length = m)) (hz : Hid (A2 = none → c2 = 0)) (hB : B ≤ w.heap.size) (hlen : n ≤ 1000000) (hlen2 : m ≤ 1000000)
    (h : ∀ A' c' w', Hid (Own64 w' B (.slice A' (n + m) c') (zs ++ ys)) → Hid (Below B w w') → wpList Try.prog ops Q rest (a.put o.dst (.slice A' (n + m) c')) w') :
    wpList Try.prog ops Q (o :: rest) a w := by
  obtain ⟨i0, hi0, hz0, hz1, hz2⟩ := info_parts info64
  have hown := hown.out
  have hn := own64_len hown
  subst hn
  have hm := hm.out
  subst hm
  rcases A2 with _ | ad
  · have hy : ys = [] := by
      rcases Nat.eq_zero_or_pos ys.length with h0 | h0
      · exact List.eq_nil_of_length_eq_zero h0
      · obtain ⟨_, _, e, _⟩ := hsrc.out h0
        cases e
    subst hy
    have hc2 := hz.out rfl
    subst hc2
    refine wpList_append_own_none hgd s x 24 ho B 2 i0 1 Try.underlying24 hi0 _ zs.length (zs.map (Value.int .i64)) hs hown hx ?_
    have := h A c w (by simpa using Lib.hid hown) (Below.refl _ _)
    simpa using this
  · refine wpList_append_own _ hgd s x 24 ho B 2 i0 (.int .i64 0) 1 8 Try.underlying24 hi0 hz0 hz1 hz2 rfl (by decide) _ zs.length (zs.map (Value.int .i64)) hs hown ad ys.length c2 (ys.map (Value.int .i64)) hx (by simp) ?_ ?_ ?_ ?_ hB ?_
    · intro j u hj
      rw [List.getElem?_map] at hj
      obtain ⟨y, hy, rfl⟩ := Option.map_eq_some_iff.1 hj
      obtain ⟨b, off, e, _, hc⟩ := hsrc.out (by have := (List.getElem?_eq_some_iff.1 hy).1; omega)
      injection e with e
      subst e
      have ha : (⟨b, off, none⟩ : Addr).add j = ⟨b, off + j, none⟩ := by unfold Addr.add; split <;> simp_all
      rw [ha]
      exact hc j y hy
    · intro u hu
      obtain ⟨y, _, rfl⟩ := List.mem_map.1 hu
      rfl
    · unfold maxLen; omega
    · omega
    · intro v' w1 hown1 hg1 _
      obtain ⟨A', c', rfl⟩ : ∃ A' c', v' = .slice A' (zs.length + ys.length) c' := own_shape hown1
      refine h A' c' w1 ?_ ?_
      · show Own64 _ _ _ _
        unfold Own64
        rw [List.length_append, List.map_append]
        exact hown1
      · exact (Below.refl B w).grown hg1 hB (fun k hk => (hown.lt k hk).1)

theorem own64_z {w : World} {B n c : Nat} {A : Option Addr} {zs : List Int} (h : Own64 w B (.slice A n c) zs) : A = none → c = 0 := by
  intro e
  subst e
  rcases h.2 with ⟨h1, _⟩ | ⟨g, cap, cur, hv, _⟩
  · injection h1
  · cases hv

set_option maxRecDepth 100000 in
/-- the same at a step of a region that draws its order -/
theorem stepInts {ops : Array Oper} {o : Oper} {a : Act} {K : Act → World → Prop} {Q : Exit → Act → World → Prop} {E : Prop} (hgd : o.guard = none) (s x : Operand)
    (ho : o.op = .call { callee := .builtin .append, args := #[s, x], argTypes := #[24, 24] }) (w : World) (B : Nat) (A : Option Addr) (n c : Nat) (zs : List Int) (A2 : Option Addr) (m c2 : Nat) (ys : List Int)
    (hs : a.eval s = .slice A n c) (hx : a.eval x = .slice A2 m c2) (hown : Hid (Own64 w B (.slice A n c) zs)) (hsrc : Hid (Ints w w.heap.size A2 ys)) (hm : Hid (ys.length = m)) (hz : Hid (A2 = none → c2 = 0)) (hB : B ≤ w.heap.size) (hlen : n ≤ 1000000) (hlen2 : m ≤ 1000000)
    (h : ∀ A' c' w', Hid (Own64 w' B (.slice A' (n + m) c') (zs ++ ys)) → Hid (Below B w w') → K (a.put o.dst (.slice A' (n + m) c')) w') :
    if Region.wanted o (yielded ops a.tmps) = true then Oper.wp Try.prog o a w K Q else E := by
  have hw : Region.wanted o (yielded ops a.tmps) = true := by simp [Region.wanted, hgd]
  rw [if_pos hw]
  obtain ⟨i0, hi0, hz0, hz1, hz2⟩ := info_parts info64
  have hown := hown.out
  have hn := own64_len hown
  subst hn
  have hm := hm.out
  subst hm
  rcases A2 with _ | ad
  · have hy : ys = [] := by
      rcases Nat.eq_zero_or_pos ys.length with h0 | h0
      · exact List.eq_nil_of_length_eq_zero h0
      · obtain ⟨_, _, e, _⟩ := hsrc.out h0
        cases e
    subst hy
    have hc2 := hz.out rfl
    subst hc2
    have hrun := run_append_owned_none (P := Try.prog) (w := w) B 24 o.type 2 i0 1 Try.underlying24 hi0 _ zs.length (zs.map (Value.int .i64)) hown
    have := h A c w (by simpa using Lib.hid hown) (Below.refl _ _)
    simp only [List.length_nil] at hx
    unfold Oper.wp execOp
    simp only [ho, resolve, invoke, builtin, Sem.run_bind, Sem.run_pure, Result.andThen_ok, List.map_toArray, List.map_cons, List.map_nil, hs, hx, hrun]
    exact this
  · obtain ⟨v', w1, hr, hown1, hg1, _⟩ := run_append_own (P := Try.prog) (w := w) B 24 o.type 2 i0 (.int .i64 0) 1 8 Try.underlying24 hi0 hz0 hz1 hz2 rfl (by decide) _ zs.length (zs.map (Value.int .i64)) hown ad ys.length c2 (ys.map (Value.int .i64)) (by simp)
      (by
        intro j u hj
        rw [List.getElem?_map] at hj
        obtain ⟨y, hy, rfl⟩ := Option.map_eq_some_iff.1 hj
        obtain ⟨b, off, e, _, hc⟩ := hsrc.out (by have := (List.getElem?_eq_some_iff.1 hy).1; omega)
        injection e with e
        subst e
        have ha : (⟨b, off, none⟩ : Addr).add j = ⟨b, off + j, none⟩ := by unfold Addr.add; split <;> simp_all
        rw [ha]
        exact hc j y hy)
      (by
        intro u hu
        obtain ⟨y, _, rfl⟩ := List.mem_map.1 hu
        rfl) (by unfold maxLen; omega) (by omega) hB
    obtain ⟨A', c', rfl⟩ : ∃ A' c', v' = .slice A' (zs.length + ys.length) c' := own_shape hown1
    have := h A' c' w1 (by
        show Own64 _ _ _ _
        unfold Own64
        rw [List.length_append, List.map_append]
        exact hown1) ((Below.refl B w).grown hg1 hB (fun k hk => (hown.lt k hk).1))
    unfold Oper.wp execOp
    simp only [ho, resolve, invoke, builtin, Sem.run_bind, Sem.run_pure, Result.andThen_ok, List.map_toArray, List.map_cons, List.map_nil, hs, hx, hr]
    exact this
end Go.Proofs.Ytdgcjkgbglofbaa

/- copies of slices: l01Own, slices.Clone, l01Make. -/
namespace Go.Proofs.Ytdgcjkgbglofbaa
open Go.RowKit

set_option maxHeartbeats 400000 in
theorem l01Own (A : Option Addr) (xs : List Int) (m c : Nat) (w : World) (hm : Hid (xs.length = m)) (hx : m ≤ 1000000) (hz : Hid (A = none → c = 0)) (h : Hid (Ints w w.heap.size A xs)) :
    Calls Try.prog 207 #[.slice A m c] w fun e w' => ∃ A' c', e = .returned (.slice A' m c') ∧ Own64 w' w.heap.size (.slice A' m c') xs ∧ Below w.heap.size w w' := by
  have hs : Hid (Own64 (w.alloc (.cells #[] 2)) w.heap.size (.slice (some ⟨w.heap.size, 0, none⟩) 0 0) []) := own64_empty (Nat.le_refl _)
  have hi : Hid (Ints (w.alloc (.cells #[] 2)) (w.alloc (.cells #[] 2)).heap.size A xs) := h.out.al _
  have hB : w.heap.size ≤ (w.alloc (.cells #[] 2)).heap.size := by simp
  go_enter Try.func207, Try.ntmps207
  go_wp2_with (at_builtin; refine appendInts rfl (.tmp 3) (.tmp 4) rfl _ w.heap.size (some ⟨w.heap.size, 0, none⟩) 0 0 [] A m c xs rfl rfl hs hi hm hz hB (Nat.zero_le _) hx ?_; intro A2 c2 w2 ho2 hb2)
  go_ret
  exact ⟨A2, c2, by simp, by have := ho2.out; simpa using this, ((Below.refl _ _).alloc (Nat.le_refl _) _).trans hb2.out⟩

set_option maxHeartbeats 400000 in
set_option maxRecDepth 100000 in
theorem clone (ad : Addr) (xs : List Int) (m c : Nat) (w : World) (hm : Hid (xs.length = m)) (hx : m ≤ 1000000) (h : Hid (Ints w w.heap.size (some ad) xs)) :
    Calls Try.prog 194 #[.slice (some ad) m c] w fun e w' => ∃ A' c', e = .returned (.slice A' m c') ∧ Own64 w' w.heap.size (.slice A' m c') xs ∧ Below w.heap.size w w' := by
  have hs : Hid (Own64 (w.alloc (.cells #[] 2)) w.heap.size (.slice (some ⟨w.heap.size, 0, none⟩) 0 0) []) := own64_empty (Nat.le_refl _)
  have hi : Hid (Ints (w.alloc (.cells #[] 2)) (w.alloc (.cells #[] 2)).heap.size (some ad) xs) := h.out.al _
  have hB : w.heap.size ≤ (w.alloc (.cells #[] 2)).heap.size := by simp
  have hz : Hid ((some ad : Option Addr) = none → c = 0) := fun e => by cases e
  have heq := fun W => Lib.run_eql_slice_nil (P := Try.prog) W 24 2 (some ad) m c 0 0 Try.underlying24
  go_enter Try.func194, Try.ntmps194
  go_wp2_with (at_builtin; refine appendInts rfl (.tmp 5) (.tmp 6) rfl _ w.heap.size (some ⟨w.heap.size, 0, none⟩) 0 0 [] (some ad) m c xs rfl rfl hs hi hm hz hB (Nat.zero_le _) hx ?_; intro A2 c2 w2 ho2 hb2)
  go_ret
  exact ⟨A2, c2, by simp, by have := ho2.out; simpa using this, ((Below.refl _ _).alloc (Nat.le_refl _) _).trans hb2.out⟩

set_option maxHeartbeats 400000 in
theorem l01Make (A : Option Addr) (xs : List Int) (m c : Nat) (w : World) (hm : Hid (xs.length = m)) (hx : m ≤ 1000000) (hz : Hid (A = none → c = 0)) (h : Hid (Ints w w.heap.size A xs)) :
    Calls Try.prog 271 #[.slice A m c] w fun e w' => ∃ A' c', e = .returned (.agg #[.slice A' m c']) ∧ Own64 w' w.heap.size (.slice A' m c') xs ∧ Below w.heap.size w w' := by
  go_enter Try.func271, Try.ntmps271
  go_wp2_with fail
  refine (l01Own A xs m c _ hm hx hz (h.out.al _)).mono ?_
  rintro e w1 ⟨A', c', rfl, ho, hb⟩
  obtain ⟨hc, hf⟩ := bcell hb
  have hB := btr (bal (b0 w) _) hb
  have Ho := Lib.hid (own_mono (base' := w.heap.size + 1) ho (by simp))
  clear ho
  go_wp2
  refine bodyPost_ret (v := .agg #[.slice A' m c']) (by simp [results, Try.results271, go_sem, hc]) rfl ?_
  exact ⟨A', c', rfl, own_mono (own_far Ho.out (Nat.lt_succ_self _) _) (Nat.le_succ _), below_setCell hB (Nat.le_refl _) _⟩
end Go.Proofs.Ytdgcjkgbglofbaa

/- Two rows of the call's own that share no block: append to one, a store into one, one made shorter. -/
namespace Go.Proofs.Ytdgcjkgbglofbaa
open Go.RowKit

def Two (w : World) (B : Nat) (v1 v2 : Value) (xs ys : List Int) : Prop :=
  Own64 w B v1 xs ∧ Own64 w B v2 ys ∧ ∀ b, v1.ownBlock = some b → v2.ownBlock ≠ some b
theorem Two.symm {w : World} {B : Nat} {v1 v2 : Value} {xs ys : List Int} (h : Two w B v1 v2 xs ys) : Two w B v2 v1 ys xs := ⟨h.2.1, h.1, fun b h2 h1 => h.2.2 b h1 h2⟩
theorem Two.eq {w : World} {B : Nat} {v1 v2 : Value} {xs ys xs' ys' : List Int} (h : Two w B v1 v2 xs ys) (e : xs = xs') (e' : ys = ys') : Two w B v1 v2 xs' ys' := by subst e; subst e'; exact h
theorem Two.set {w : World} {B g n c : Nat} {v2 : Value} {xs ys : List Int} (h : Two w B (.slice (some ⟨g, 0, none⟩) n c) v2 xs ys) (hn : xs.length = n) (k : Nat) (x : Int) :
    Two (w.setCell ⟨g, k, none⟩ (.int .i64 x)) B (.slice (some ⟨g, 0, none⟩) n c) v2 (xs.set k x) ys :=
  ⟨own64_set h.1 hn k x, ownsRow_setCell_other h.2.1 (a := ⟨g, k, none⟩) (h.2.2 g rfl) _, h.2.2⟩
theorem Two.pop {w : World} {B n c : Nat} {A : Option Addr} {v1 : Value} {xs ys : List Int} (h : Two w B v1 (.slice A n c) xs ys) (hn : 0 < n) : Two w B v1 (.slice A (n - 1) c) xs ys.dropLast := by
  obtain ⟨h1, h2, h3⟩ := h
  refine ⟨h1, ?_, fun b hb => by
    have := h3 b hb
    rcases A with _ | a
    · simp [Value.ownBlock]
    · exact this⟩
  have hl := own64_len h2
  rcases h2.2 with ⟨h0, _⟩ | ⟨g, cap, cur, hv, hg, hh, hnc, hcm, hcs, ht⟩
  · injection h0 with _ e _; omega
  · injection hv with e1 e2 e3
    subst e1
    subst e3
    refine ⟨by simp, .inr ⟨g, c, cur, by rw [hl, List.length_dropLast], hg, hh, ?_, hcm, hcs, ?_⟩⟩
    · rw [List.length_dropLast]; omega
    · have hlen : (ys.map (Value.int .i64)).length = ys.length := by simp
      rw [List.length_dropLast, List.map_dropLast, List.dropLast_eq_take, hlen, ← ht, List.take_take]
      congr 1
      omega
theorem Two.shape {w : World} {B n c : Nat} {A : Option Addr} {v2 : Value} {xs ys : List Int} (h : Two w B (.slice A n c) v2 xs ys) : n = xs.length ∧ (0 < n → ∃ g, A = some ⟨g, 0, none⟩) := by
  have hl := own64_len h.1
  refine ⟨hl, fun hn => ?_⟩
  rcases h.1.2 with ⟨h0, _⟩ | ⟨g, cap, cur, hv, _⟩
  · injection h0 with _ e _; omega
  · injection hv with e1; exact ⟨g, e1⟩
theorem Two.cap {w : World} {B n c : Nat} {A : Option Addr} {v2 : Value} {xs ys : List Int} (h : Two w B (.slice A n c) v2 xs ys) : n ≤ c := by
  rcases h.1.2 with ⟨h0, _⟩ | ⟨g, cap, cur, hv, _, _, hnc, _⟩
  · injection h0 with _ e e'; omega
  · injection hv with _ e e'; omega

set_option maxRecDepth 100000 in
theorem pushTwo {ops : Array Oper} {rest : List Oper} {o : Oper} {a : Act} {Q : Exit → Act → World → Prop} (hgd : o.guard = none) (s x : Operand)
    (ho : o.op = .call { callee := .builtin .append, args := #[s, x], argTypes := #[24, 24] }) (w : World) (B : Nat) (A : Option Addr) (n c : Nat) (v2 : Value) (zs ys : List Int) (y : Int)
    (hs : a.eval s = .slice A n c) (N : Nat) (hx : a.eval x = .slice (some ⟨N, 0, none⟩) 1 1) (hN : N = w.heap.size) (ht : Hid (Two w B (.slice A n c) v2 zs ys)) (hB : B ≤ w.heap.size) (hlen : n ≤ 1000000)
    (h : ∀ A' c' w', Hid (Two w' B (.slice A' (n + 1) c') v2 (zs ++ [y]) ys) → Hid (Below B w w') → wpList Try.prog ops Q rest (a.put o.dst (.slice A' (n + 1) c')) w') :
    wpList Try.prog ops Q (o :: rest) a (w.alloc (.cells #[.int .i64 y] 2)) := by
  obtain ⟨i0, hi0, hz0, hz1, hz2⟩ := info_parts info64
  obtain ⟨hown, hown2, hdis⟩ := ht.out
  have hn := own64_len hown
  subst hn
  subst hN
  refine wpList_append_own_at _ hgd s x 24 ho B 2 i0 (.int .i64 0) 1 8 Try.underlying24 hi0 hz0 hz1 hz2 rfl (by decide) _ zs.length (zs.map (Value.int .i64)) hs (hown.alloc _) ⟨w.heap.size, 0, none⟩ 1 1 [.int .i64 y] hx rfl ?_ ?_ ?_ ?_ ?_ ?_
  · intro j u hj
    match j, hj with
    | 0, hj => simp at hj; subst hj; simp [Addr.add]
  · intro u hu; simp at hu; subst hu; rfl
  · unfold maxLen; omega
  · omega
  · simp; omega
  · intro v' w1 hown1 hg1 _ hat
    obtain ⟨A', c', rfl⟩ : ∃ A' c', v' = .slice A' (zs.length + 1) c' := own_shape hown1
    refine h A' c' w1 ⟨?_, ?_, ?_⟩ ?_
    · have e : (zs ++ [y]).length = zs.length + 1 := by simp
      unfold Own64
      rw [e]
      simpa using hown1
    · refine (hown2.alloc _).kept hg1 ?_
      cases hv : v2.ownBlock with
      | none => exact .inl rfl
      | some k => exact .inr fun e => hdis k e.symm hv
    · intro b hb hb2
      rcases hat with e | e
      · exact hdis b (e ▸ hb) hb2
      · have h1 := hown2.lt b hb2
        rw [hb] at e
        injection e with e
        simp at e
        omega
    · exact ((Below.refl B w).alloc hB _).grown hg1 (by simp; omega) (fun k hk => (hown.lt k hk).1)
end Go.Proofs.Ytdgcjkgbglofbaa

/- What functions of a tree, or of numbers, must do, as F says. -/
namespace Go.Proofs.Ytdgcjkgbglofbaa
open Go.RowKit

/-- a tree to a tree and a code -/
def GivesTree (f : Nat) (F : List Int → List Int × Int) : Prop :=
  ∀ (A : Option Addr) (xs : List Int) (c : Nat) (w : World), xs.length ≤ 1048576 → xs.length ≤ c ∧ c ≤ 9223372036854775807 → Ints w w.heap.size A xs →
    Calls Try.prog f #[.agg #[.slice A xs.length c]] w fun e w' => ∃ A' c', e = .returned (.tuple #[.agg #[.slice A' (F xs).1.length c'], .int .i64 (F xs).2]) ∧
      Own64 w' w.heap.size (.slice A' (F xs).1.length c') (F xs).1 ∧ Below w.heap.size w w'
/-- a tree to a number and a code -/
def GivesNum (f : Nat) (F : List Int → Int × Int) : Prop :=
  ∀ (A : Option Addr) (xs : List Int) (c : Nat) (w : World), xs.length ≤ 1048576 → xs.length ≤ c ∧ c ≤ 9223372036854775807 → Ints w w.heap.size A xs →
    Calls Try.prog f #[.agg #[.slice A xs.length c]] w fun e w' => e = .returned (.tuple #[.int .i64 (F xs).1, .int .i64 (F xs).2]) ∧ Below w.heap.size w w'
/-- what a function of a tree that hands back a text and a code must do, as F says -/
def GivesText (f : Nat) (F : List Int → ByteArray × Int) : Prop :=
  ∀ (A : Option Addr) (xs : List Int) (c : Nat) (w : World), xs.length ≤ 1048576 → xs.length ≤ c ∧ c ≤ 9223372036854775807 → Ints w w.heap.size A xs →
    Calls Try.prog f #[.agg #[.slice A xs.length c]] w fun e w' => e = .returned (.tuple #[.string (F xs).1, .int .i64 (F xs).2]) ∧ Below w.heap.size w w'
/-- a number to a tree and a code -/
def GivesTreeN1 (f : Nat) (F : Int → List Int × Int) : Prop :=
  ∀ (n : Int) (w : World), -9223372036854775808 ≤ n → n ≤ 9223372036854775807 →
    Calls Try.prog f #[.int .i64 n] w fun e w' => ∃ A' c', e = .returned (.tuple #[.agg #[.slice A' (F n).1.length c'], .int .i64 (F n).2]) ∧ Own64 w' w.heap.size (.slice A' (F n).1.length c') (F n).1 ∧ Below w.heap.size w w'
/-- two numbers to a tree and a code -/
def GivesTreeN2 (f : Nat) (F : Int → Int → List Int × Int) : Prop :=
  ∀ (n r : Int) (w : World), -9223372036854775808 ≤ n → n ≤ 9223372036854775807 → -9223372036854775808 ≤ r → r ≤ 9223372036854775807 →
    Calls Try.prog f #[.int .i64 n, .int .i64 r] w fun e w' => ∃ A' c', e = .returned (.tuple #[.agg #[.slice A' (F n r).1.length c'], .int .i64 (F n r).2]) ∧ Own64 w' w.heap.size (.slice A' (F n r).1.length c') (F n r).1 ∧ Below w.heap.size w w'
/-- a number to a number and a code -/
def GivesNumN1 (f : Nat) (F : Int → Int × Int) : Prop :=
  ∀ (n : Int) (w : World), -9223372036854775808 ≤ n → n ≤ 9223372036854775807 →
    Calls Try.prog f #[.int .i64 n] w fun e w' => e = .returned (.tuple #[.int .i64 (F n).1, .int .i64 (F n).2]) ∧ Below w.heap.size w w'
/-- two numbers to a number and a code -/
def GivesNumN2 (f : Nat) (F : Int → Int → Int × Int) : Prop :=
  ∀ (n r : Int) (w : World), -9223372036854775808 ≤ n → n ≤ 9223372036854775807 → -9223372036854775808 ≤ r → r ≤ 9223372036854775807 →
    Calls Try.prog f #[.int .i64 n, .int .i64 r] w fun e w' => e = .returned (.tuple #[.int .i64 (F n r).1, .int .i64 (F n r).2]) ∧ Below w.heap.size w w'
/-- numbers of a list to a number and a code -/
def GivesNumI (f : Nat) (F : List Int → Int × Int) : Prop :=
  ∀ (A : Option Addr) (xs : List Int) (c : Nat) (w : World), xs.length ≤ 1048576 → xs.length ≤ c ∧ c ≤ 9223372036854775807 → Ints w w.heap.size A xs → (∀ x ∈ xs, -9223372036854775808 ≤ x ∧ x ≤ 9223372036854775807) →
    Calls Try.prog f #[.slice A xs.length c] w fun e w' => e = .returned (.tuple #[.int .i64 (F xs).1, .int .i64 (F xs).2]) ∧ Below w.heap.size w w'
/-- what a function of a tree and a number that hands back a tree and a code must do, as F says -/
def GivesTree1 (f : Nat) (F : List Int → Int → List Int × Int) : Prop :=
  ∀ (A : Option Addr) (xs : List Int) (c : Nat) (v : Int) (w : World), xs.length ≤ 1048576 → xs.length ≤ c ∧ c ≤ 9223372036854775807 → Ints w w.heap.size A xs →
    Calls Try.prog f #[.agg #[.slice A xs.length c], .int .i64 v] w fun e w' => ∃ A' c', e = .returned (.tuple #[.agg #[.slice A' (F xs v).1.length c'], .int .i64 (F xs v).2]) ∧
      Own64 w' w.heap.size (.slice A' (F xs v).1.length c') (F xs v).1 ∧ Below w.heap.size w w'
/-- what a function of a tree and a number that hands back a list and a code must do, as F says -/
def GivesList1 (f : Nat) (F : List Int → Int → List Int × Int) : Prop :=
  ∀ (A : Option Addr) (xs : List Int) (c : Nat) (v : Int) (w : World), xs.length ≤ 1048576 → xs.length ≤ c ∧ c ≤ 9223372036854775807 → Ints w w.heap.size A xs →
    Calls Try.prog f #[.agg #[.slice A xs.length c], .int .i64 v] w fun e w' => ∃ A' c', e = .returned (.tuple #[.slice A' (F xs v).1.length c', .int .i64 (F xs v).2]) ∧
      Own64 w' w.heap.size (.slice A' (F xs v).1.length c') (F xs v).1 ∧ Below w.heap.size w w'
end Go.Proofs.Ytdgcjkgbglofbaa

/- appendFirst: the first list of so many trees, appended; tests of ranges. -/
namespace Go.Proofs.Ytdgcjkgbglofbaa
open Go.RowKit

namespace M
def firstTo (m t i : Nat) : List Int := (List.range m).map fun j => if t ≤ j + 1 ∧ j < i then 1 else 0
/-- so many trees of so many nodes together, the first list: all but the last one are single nodes, and the last one is a path -/
def firstL (m t : Nat) : List Int := firstTo m t (m - 1)
theorem firstTo_len (m t i : Nat) : (firstTo m t i).length = m := by simp [firstTo]
theorem firstL_len (m t : Nat) : (firstL m t).length = m := firstTo_len _ _ _
theorem firstTo_start (m t : Nat) (ht : 1 ≤ t) : firstTo m t (t - 1) = List.replicate m 0 := by
  apply List.ext_getElem?
  intro j
  simp only [firstTo, List.getElem?_map, List.getElem?_replicate]
  by_cases hj : j < m
  · rw [List.getElem?_range hj, if_pos hj]
    simp only [Option.map_some]
    rw [if_neg (by omega)]
  · rw [List.getElem?_eq_none (by simp; omega), if_neg hj]; rfl
theorem firstTo_step (m t i : Nat) (h1 : t ≤ i + 1) : (firstTo m t i).set i 1 = firstTo m t (i + 1) := by
  apply List.ext_getElem?
  intro j
  by_cases hj : j < m
  · by_cases hji : i = j
    · subst hji
      rw [List.getElem?_set_self (by rw [firstTo_len]; exact hj)]
      simp only [firstTo, List.getElem?_map]
      rw [List.getElem?_range hj]
      simp only [Option.map_some]
      rw [if_pos (by omega)]
    · rw [List.getElem?_set_ne hji]
      simp only [firstTo, List.getElem?_map]
      rw [List.getElem?_range hj]
      simp only [Option.map_some]
      congr 1
      by_cases h3 : t ≤ j + 1 ∧ j < i
      · rw [if_pos h3, if_pos (by omega)]
      · rw [if_neg h3, if_neg (by omega)]
  · rw [List.getElem?_eq_none (by simp [firstTo_len]; omega), List.getElem?_eq_none (by rw [firstTo_len]; omega)]
theorem firstTo_end {m t i : Nat} (h1 : t ≤ i + 1) (h2 : m ≤ i + 1) (h3 : i < m ∨ i = t - 1) (ht : 1 ≤ t) : firstTo m t i = firstL m t := by
  rcases Nat.lt_or_ge i m with h4 | h4
  · obtain rfl : i = m - 1 := by omega
    rfl
  · have e : i = t - 1 := by omega
    subst e
    rw [firstTo_start m t ht]
    apply List.ext_getElem?
    intro j
    simp only [firstL, firstTo, List.getElem?_map, List.getElem?_replicate]
    by_cases hj : j < m
    · rw [List.getElem?_range hj, if_pos hj]
      simp only [Option.map_some]
      rw [if_neg (by omega)]
    · rw [List.getElem?_eq_none (by simp; omega), if_neg hj]; rfl
theorem firstTo_at {m t i : Nat} (h : i < m) : ∃ y, (firstTo m t i)[i]? = some y := ⟨_, List.getElem?_eq_getElem (by rw [firstTo_len]; exact h)⟩
end M

theorem withinAny (n lo hi : Int) (w : World) (b : Bool) (hb : Hid ((decide (lo ≤ n) && decide (n ≤ hi)) = b)) :
    Calls Try.prog 216 #[.int .i64 n, .int .i64 lo, .int .i64 hi] w fun e w' => e = .returned (.bool b) ∧ w = w' := by
  by_cases h : lo ≤ n
  · have hb' : b = decide (n ≤ hi) := by rw [← hb.out]; simp [h]
    clear hb
    subst hb'
    go_enter Try.func216, Try.ntmps216
    go_wp2
    go_ret
    exact ⟨rfl, rfl⟩
  · have hb' : b = false := by rw [← hb.out]; simp; intro h'; exact absurd h' h
    have hd : decide (lo ≤ n) = false := decide_eq_false h
    clear hb
    subst hb'
    go_enter Try.func216, Try.ntmps216
    go_wp2
    go_ret
    exact ⟨rfl, rfl⟩

theorem l02Whole (n : Int) (w : World) (b : Bool) (hb : Hid ((decide (1 ≤ n) && decide (n ≤ 24)) = b)) :
    Calls Try.prog 217 #[.int .i64 n] w fun e w' => e = .returned (.bool b) ∧ w = w' := by
  go_enter Try.func217, Try.ntmps217
  go_wp2_with (go_at_call 229; refine (inAny _ _ _ _ b hb).mono ?_; rintro e w8 ⟨rfl, rfl⟩)
  go_ret
  exact ⟨rfl, rfl⟩

set_option maxRecDepth 100000 in
set_option maxHeartbeats 1000000 in
theorem appendFirst (A : Option Addr) (n c : Nat) (zs : List Int) (m t : Nat) (w : World) (B : Nat) (hm1 : 1 ≤ m) (hm : m ≤ 24) (ht1 : 1 ≤ t) (ht : t ≤ 100) (hn : n ≤ 1000) (hown : Hid (Own64 w B (.slice A n c) zs)) (hB : B ≤ w.heap.size) :
    Calls Try.prog 218 #[.slice A n c, .int .i64 m, .int .i64 t] w fun e w' => ∃ A' c', e = .returned (.slice A' (n + m) c') ∧ Own64 w' B (.slice A' (n + m) c') (zs ++ M.firstL m t) ∧ Below B w w' := by
  have hmk := run_make_row' (P := Try.prog) 24 2 (.int .i64 0) 8 Try.underlying24 info64 rfl .i64 .i64 m (by omega) (by omega)
  have ht2 : Hid (Two (w.alloc (.cells (madeCells #[.int .i64 0] m) 2)) B (.slice (some ⟨w.heap.size, 0, none⟩) m m) (.slice A n c) (M.firstTo m t (t - 1)) zs) := by
    rw [M.firstTo_start m t ht1]
    exact ⟨own_mono (own64_made (w := w) (B := w.heap.size) (n := m) (Nat.le_refl _) (by unfold maxLen; omega)) hB, hown.out.alloc _, fun b e e2 => by
      have e1 : b = w.heap.size := by injection e with e; exact e.symm
      have := (World.ownsRow.lt hown.out b e2).2
      omega⟩
  have hb0 : Hid (Below B w (w.alloc (.cells (madeCells #[.int .i64 0] m) 2))) := (Below.refl _ _).alloc hB _
  clear hown
  go_enter Try.func218, Try.ntmps218
  go_wp2
  clear hmk
  go_loopw [8] (fun i wr => ∃ (k : Nat), t ≤ k + 1 ∧ (k < m ∨ k = t - 1) ∧ i = .int .i64 k ∧ Hid (Two wr B (.slice (some ⟨w.heap.size, 0, none⟩) m m) (.slice A n c) (M.firstTo m t k) zs) ∧ Hid (Below B w wr)) (fun i _ => 200 - (intOf i).toNat)
  case atStart => exact ⟨t - 1, by omega, .inr rfl, by go_num, ht2, hb0⟩
  case round =>
    obtain ⟨k, hk1, hk2, rfl, ho, hbr⟩ := hrel
    clear ht2 hb0
    by_cases hlt : k + 1 < m
    · obtain ⟨y, hy⟩ := M.firstTo_at (m := m) (t := t) (i := k) (by omega)
      obtain ⟨c1, c2, _, _⟩ := own64_cell ho.out.1 (M.firstTo_len _ _ _) hy
      have hset := ho.out.set (M.firstTo_len _ _ _) k 1
      rw [M.firstTo_step m t k hk1] at hset
      have hset := Lib.hid hset
      have hlt2 : (k : Int) < (m : Int) - 1 := by omega
      clear hy ho
      go_wp2
      go_roundw
      case rel => exact ⟨k + 1, by omega, .inl (by omega), by go_num, hset, below_setCell hbr.out hB _⟩
      case measure => simp [intOf]; omega
    · have he := Lib.hid (M.firstTo_end (m := m) (t := t) (i := k) hk1 (by omega) hk2 ht1)
      have hge : ¬ (k : Int) < (m : Int) - 1 := by omega
      have hO := Lib.hid ho.out.2.1
      have hI : Hid (Ints wr wr.heap.size (some ⟨w.heap.size, 0, none⟩) (M.firstTo m t k)) := ints_of_own64 ho.out.1
      have hml : Hid ((M.firstTo m t k).length = m) := M.firstTo_len _ _ _
      have hz : Hid ((some ⟨w.heap.size, 0, none⟩ : Option Addr) = none → m = 0) := fun e => by cases e
      have hBr : B ≤ wr.heap.size := Nat.le_trans hB hbr.out.size
      have hn' : n ≤ 1000000 := by omega
      have hm' : m ≤ 1000000 := by omega
      go_wp2_with (at_builtin; refine appendInts rfl (.tmp 22) (.tmp 23) rfl wr B A n c zs (some ⟨w.heap.size, 0, none⟩) m m (M.firstTo m t k) rfl rfl hO hI hml hz hBr hn' hm' ?_; intro A2 c2 w2 ho2 hb2)
      go_ret
      exact ⟨A2, c2, rfl, by rw [← he.out]; exact ho2.out, hbr.out.trans hb2.out⟩
end Go.Proofs.Ytdgcjkgbglofbaa

/- tests of two numbers: of nodes and of something else. -/
namespace Go.Proofs.Ytdgcjkgbglofbaa
open Go.RowKit

theorem countedAny (n k : Int) (w : World) (b : Bool) (hb : Hid (((decide (1 ≤ n) && decide (n ≤ 30)) && (decide (0 ≤ k) && decide (k ≤ n))) = b)) :
    Calls Try.prog 220 #[.int .i64 n, .int .i64 k] w fun e w' => e = .returned (.bool b) ∧ w = w' := by
  obtain ⟨b1, hb1⟩ : ∃ b1, Hid ((decide (1 ≤ n) && decide (n ≤ 30)) = b1) := ⟨_, rfl⟩
  obtain ⟨b2, hb2⟩ : ∃ b2, Hid ((decide (0 ≤ k) && decide (k ≤ n)) = b2) := ⟨_, rfl⟩
  have hb' : b = (b1 && b2) := by rw [← hb.out, hb1.out, hb2.out]
  clear hb
  subst hb'
  cases b1
  · go_enter Try.func220, Try.ntmps220
    go_wp2_with (go_at_call 216; refine (withinAny _ _ _ _ _ hb1).mono ?_; rintro e w' ⟨rfl, rfl⟩)
    go_ret
    exact ⟨rfl, rfl⟩
  · go_enter Try.func220, Try.ntmps220
    go_wp2_with fail
    refine (withinAny _ _ _ _ _ hb1).mono ?_
    rintro e w' ⟨rfl, rfl⟩
    go_wp2_with fail
    refine (withinAny _ _ _ _ _ hb2).mono ?_
    rintro e w' ⟨rfl, rfl⟩
    go_wp2
    go_ret
    exact ⟨rfl, rfl⟩

theorem l02Numbers (n k : Int) (w : World) (b : Bool) (hb : Hid (((decide (1 ≤ n) && decide (n ≤ 30)) && (decide (0 ≤ k) && decide (k ≤ n))) = b)) :
    Calls Try.prog 222 #[.int .i64 n, .int .i64 k] w fun e w' => e = .returned (.bool b) ∧ w = w' := by
  obtain ⟨b1, hb1⟩ : ∃ b1, Hid ((decide (1 ≤ n) && decide (n ≤ 30)) = b1) := ⟨_, rfl⟩
  obtain ⟨b2, hb2⟩ : ∃ b2, Hid ((decide (0 ≤ k) && decide (k ≤ n)) = b2) := ⟨_, rfl⟩
  have hb' : b = (b1 && b2) := by rw [← hb.out, hb1.out, hb2.out]
  clear hb
  subst hb'
  cases b1
  · go_enter Try.func222, Try.ntmps222
    go_wp2_with (go_at_call 229; refine (inAny _ _ _ _ _ hb1).mono ?_; rintro e w' ⟨rfl, rfl⟩)
    go_ret
    exact ⟨rfl, rfl⟩
  · go_enter Try.func222, Try.ntmps222
    go_wp2_with fail
    refine (inAny _ _ _ _ _ hb1).mono ?_
    rintro e w' ⟨rfl, rfl⟩
    go_wp2_with fail
    refine (inAny _ _ _ _ _ hb2).mono ?_
    rintro e w' ⟨rfl, rfl⟩
    go_wp2
    go_ret
    exact ⟨rfl, rfl⟩
/-- what 'counted' says -/
theorem counted_iff {n k : Int} : ((decide (1 ≤ n) && decide (n ≤ 30)) && (decide (0 ≤ k) && decide (k ≤ n))) = true ↔ (1 ≤ n ∧ n ≤ 30) ∧ 0 ≤ k ∧ k ≤ n := by simp
end Go.Proofs.Ytdgcjkgbglofbaa

/- CountByLeaves, the program's and the model's: the number of trees by their leaves, or a code. -/
namespace Go.Proofs.Ytdgcjkgbglofbaa
open Go.RowKit

def F_CountByLeaves (n k : Int) : Int × Int := if (1 ≤ n ∧ n ≤ 30) ∧ 0 ≤ k ∧ k ≤ n then ((M.Tl n.toNat k.toNat : Int), 0) else (0, 2)

set_option maxHeartbeats 1000000 in
set_option maxRecDepth 100000 in
theorem impl_CountByLeaves : GivesNumN2 92 F_CountByLeaves := by
  intro n k w _ _ _ _
  obtain ⟨b, hb⟩ : ∃ b, Hid (((decide ((1 : Int) ≤ n) && decide (n ≤ 30)) && (decide (0 ≤ k) && decide (k ≤ n))) = b) := ⟨_, rfl⟩
  cases b
  · have hF : F_CountByLeaves n k = (0, 2) := if_neg (fun h => by have := counted_iff.2 h; rw [hb.out] at this; cases this)
    rw [hF]
    clear hF
    go_enter Try.func92, Try.ntmps92
    go_wp2_with (go_at_call 220; refine (countedAny _ _ _ _ hb).mono ?_; rintro e w' ⟨rfl, rfl⟩)
    go_ret2
    exact ⟨rfl, b0 _⟩
  · have h12 := counted_iff.1 hb.out
    obtain ⟨m, hm0⟩ := Int.eq_ofNat_of_zero_le (show 0 ≤ n - 1 by omega)
    obtain rfl : n = (m : Int) + 1 := by omega
    clear hm0
    obtain ⟨t, rfl⟩ := Int.eq_ofNat_of_zero_le (show 0 ≤ k by omega)
    have hF : F_CountByLeaves ((m : Int) + 1) t = ((M.Tl (m + 1) t : Int), 0) := by
      have e1 : ((m : Int) + 1).toNat = m + 1 := by omega
      rw [F_CountByLeaves, if_pos h12, e1, Int.toNat_natCast]
    have hm : m ≤ 29 := by omega
    have hc := Lib.hid (treesByLeaves_at w.heap.size m t (w.alloc (.map #[] 0)) (by omega) (by omega) (leavesAt w.heap.size m hm) (Memo.new M.entG w))
    have hmm := @run_makeMap Try.prog
    rw [hF]
    clear hF h12
    go_enter Try.func92, Try.ntmps92
    go_wp2_with (go_at_call 220; refine (countedAny _ _ _ _ hb).mono ?_; rintro e w' ⟨rfl, rfl⟩)
    refine hc.out.mono ?_
    rintro e w2 ⟨rfl, hM, hg⟩
    have hB : Hid (Below w.heap.size w w2) := (bal (b0 w) (.map #[] 0)).grown hg.out (by simp) (fun k e => by injection e with e; omega)
    clear hmm hc
    go_wp2
    go_ret2
    exact ⟨rfl, hB.out⟩

set_option maxHeartbeats 1000000 in
set_option maxRecDepth 100000 in
theorem spec_CountByLeaves : GivesNumN2 93 F_CountByLeaves := by
  intro n k w _ _ _ _
  obtain ⟨b, hb⟩ : ∃ b, Hid (((decide ((1 : Int) ≤ n) && decide (n ≤ 30)) && (decide (0 ≤ k) && decide (k ≤ n))) = b) := ⟨_, rfl⟩
  cases b
  · have hF : F_CountByLeaves n k = (0, 2) := if_neg (fun h => by have := counted_iff.2 h; rw [hb.out] at this; cases this)
    rw [hF]
    clear hF
    go_enter Try.func93, Try.ntmps93
    go_wp2_with (go_at_call 222; refine (l02Numbers _ _ _ _ hb).mono ?_; rintro e w' ⟨rfl, rfl⟩)
    go_ret2
    exact ⟨rfl, b0 _⟩
  · have h12 := counted_iff.1 hb.out
    obtain ⟨m, hm0⟩ := Int.eq_ofNat_of_zero_le (show 0 ≤ n - 1 by omega)
    obtain rfl : n = (m : Int) + 1 := by omega
    clear hm0
    obtain ⟨t, rfl⟩ := Int.eq_ofNat_of_zero_le (show 0 ≤ k by omega)
    have hF : F_CountByLeaves ((m : Int) + 1) t = ((M.Tl (m + 1) t : Int), 0) := by
      have e1 : ((m : Int) + 1).toNat = m + 1 := by omega
      rw [F_CountByLeaves, if_pos h12, e1, Int.toNat_natCast]
    have hm : m ≤ 29 := by omega
    have htm : t ≤ m + 1 := by omega
    rw [hF]
    clear hF h12
    rcases Nat.eq_zero_or_pos m with h0 | h0
    · subst h0
      have hT : Hid (M.Tl (0 + 1) t = t) := by
        show _ = _
        have e : M.Tl (0 + 1) t = if t = 1 then 1 else 0 := rfl
        rw [e]
        split <;> omega
      rw [hT.out]
      go_enter Try.func93, Try.ntmps93
      go_wp2_with (go_at_call 222; refine (l02Numbers _ _ _ _ hb).mono ?_; rintro e w' ⟨rfl, rfl⟩)
      go_ret2
      exact ⟨rfl, b0 _⟩
    · have hT : M.Tl (m + 1) t = M.entG m t := by rw [M.Tl, if_neg (by omega)]; rfl
      rw [hT, ← M.ch_leaves h0 hm (k := t) (by omega)]
      have ha : M.ch m (t : Int) ≤ 100000000 := by
        rw [M.ch]; split
        · omega
        · exact M.ch_small hm (by omega)
      have hb2 : M.ch m ((t : Int) - 1) ≤ 100000000 := by
        rw [M.ch]; split
        · omega
        · exact M.ch_small hm (by omega)
      have hc1 := l02Choose m (t : Int) w hm (by omega) (by omega) _ rfl
      have hc2 := l02Choose m ((t : Int) - 1) w hm (by omega) (by omega) _ rfl
      generalize M.ch m (t : Int) = a at *
      generalize M.ch m ((t : Int) - 1) = d at *
      obtain ⟨p, hp⟩ : ∃ p, Hid (a * d = p) := ⟨_, rfl⟩
      have hpb : p ≤ 10000000000000000 := by rw [← hp.out]; exact Nat.mul_le_mul ha hb2
      have hpe : (a : Int) * (d : Int) = (p : Int) := by rw [← hp.out, Int.natCast_mul]
      obtain ⟨q, hq⟩ : ∃ q, Hid (p / m = q) := ⟨_, rfl⟩
      have hqb : q ≤ 10000000000000000 := by rw [← hq.out]; exact Nat.le_trans (Nat.div_le_self _ _) hpb
      have hqe : (p : Int) / (m : Int) = (q : Int) := by rw [← hq.out, Int.natCast_ediv]
      rw [hp.out, hq.out]
      have HC1 := Lib.hid hc1
      have HC2 := Lib.hid hc2
      have hm1 : ((m : Int) + 1 == 1) = false := by simp; omega
      have hm2 : 1 ≤ (m : Int) := by omega
      clear hc1 hc2 hT
      go_enter Try.func93, Try.ntmps93
      go_wp2_with (go_at_call 222; refine (l02Numbers _ _ _ _ hb).mono ?_; rintro e w' ⟨rfl, rfl⟩)
      refine HC1.out.mono ?_
      rintro e w' ⟨rfl, rfl⟩
      go_wp2_with fail
      refine HC2.out.mono ?_
      rintro e w' ⟨rfl, rfl⟩
      go_wp2
      go_ret2
      exact ⟨rfl, b0 _⟩
end Go.Proofs.Ytdgcjkgbglofbaa

/- kept, at the closure of listsWithin: a number that the map holds, or that is counted and put there. -/
namespace Go.Proofs.Ytdgcjkgbglofbaa
open Go.RowKit Go.Maps Go.WideMaps

set_option maxHeartbeats 1000000 in
set_option maxRecDepth 100000 in
theorem keptlistsWithin {L : Nat → Nat → Nat} (b i j : Nat) (p0 p1 p2 : Addr) (w : World) (hi : i < 32) (hj : j < 32) (hL : L i j ≤ 1152921504606846976) (hm : Hid (Memo L w b))
    (hcount : Hid (∀ W, Hid (Memo L W b) → Hid (w.grownBy W (some b)) → Calls Try.prog 336 #[.pointer (some p0), .pointer (some p1), .pointer (some p2)] W fun e W' => e = .returned (.int .i64 (L i j : Int)) ∧ Hid (Memo L W' b) ∧ Hid (W.grownBy W' (some b)))) :
    Calls Try.prog 283 #[.map (some b), .agg #[.int .i64 (i : Int), .int .i64 (j : Int)], .func (.func 336) #[] #[.pointer (some p0), .pointer (some p1), .pointer (some p2)]] w fun e w' => e = .returned (.int .i64 (L i j : Int)) ∧ Hid (Memo L w' b) ∧ Hid (w.grownBy w' (some b)) := by
  obtain ⟨D, h1, h2, h3⟩ := hm.out
  have hbw := h1.lt
  have hkey := keyOf_kl (i := i) (j := j) (by omega) (by omega)
  have hg0 : Hid (w.grownBy (w.alloc (.cells #[.int .i64 (i : Int), .int .i64 (j : Int)] 237)) (some b)) := World.grownBy_alloc w _ _
  have hm0 : Hid (Memo L (w.alloc (.cells #[.int .i64 (i : Int), .int .i64 (j : Int)] 237)) b) := hm.out.alloc _
  have hown := Lib.hid (h1.alloc (.cells #[.int .i64 (i : Int), .int .i64 (j : Int)] 237))
  have hkb : Hid ((w.alloc (.cells #[.int .i64 (i : Int), .int .i64 (j : Int)] 237)).heap[w.heap.size]? = some (.cells #[.int .i64 (i : Int), .int .i64 (j : Int)] 237 (0, 0))) := World.alloc_heap_new w _
  have H2 := Lib.hid h2
  have Hkey := Lib.hid hkey
  obtain ⟨y, hy⟩ : ∃ y, Hid (L i j = y) := ⟨_, rfl⟩
  rw [hy.out] at hL hcount ⊢
  clear h1 h2 hkey
  cases hh : has D (kl i j)
  · have hcw := Lib.hid (hcount.out _ hm0 hg0)
    have Hh := Lib.hid hh
    clear hh hcount
    go_enter Try.func283, Try.ntmps283
    go_wp2_with (first | (at_lookup; refine wpList_lookup_own_ok_int _ rfl _ _ 157 rfl 237 2 .i64 keyedK Try.underlying157 Try.underlying2 (zeroI _) b (Maps.size D) D rfl hown.out _ _ rfl Hkey.out ?_; intro c hat hwc; rw [Hh.out]) | fail)
    refine hcw.out.mono ?_
    rintro e W' ⟨rfl, hm1, hg1⟩
    obtain ⟨D1, h1, h2, h4⟩ := hm1.out
    have hT := Lib.hid (h1.tidy keyedK)
    have h2 := Lib.hid h2
    have hown1 := Lib.hid h1
    have hgt := Lib.hid (hg0.out.trans hg1.out)
    have hkb1 := Lib.hid ((hg1.out.block w.heap.size (by simp) (fun e => by injection e with e; omega)).trans hkb.out)
    obtain ⟨k0, k1⟩ : W'.cell? ⟨w.heap.size, 0, none⟩ = some (.int .i64 (i : Int)) ∧ W'.cell? ⟨w.heap.size, 1, none⟩ = some (.int .i64 (j : Int)) := by
      have := hkb1.out
      constructor <;> simp [World.cell?, this]
    have hn1 : Maps.size D1 < maxLen := by unfold maxLen; omega
    have hpe : Hid (plainElem (H := Unit) Try.prog 2 (.int .i64 (y : Int)) = some (.lit (.int .i64 (y : Int)), [])) := plainElem_int Try.underlying2 (WalkArith.wf_i64 (by omega))
    clear hcw hm1 hg1 hat hwc h1
    go_wp2_with (first | (at_mapUpdate; refine wpList_mapUpdate_own _ rfl _ _ _ 157 rfl 237 2 keyedK Try.underlying157 _ b (Maps.size D1) D1 rfl hown1.out hn1 _ _ _ rfl rfl Hkey.out _ [] hpe.out ?_; intro w1 hown2 hgrow) | fail)
    go_ret
    have hput : Hid (Memo L w1 b) := Memo.put hi hj hT.out h2.out h4 (by rw [hy.out]; exact hown2)
    exact ⟨rfl, hput, hgt.out.trans hgrow⟩
  · have hat : Hid (D.atKey (kl i j) (.lit (.int .i64 0)) = .lit (.int .i64 (y : Int))) := by show _ = _; rw [H2.out i j hi hj hh, hy.out]
    have Hh := Lib.hid hh
    clear hh hcount
    go_enter Try.func283, Try.ntmps283
    go_wp2_with (first | (at_lookup; refine wpList_lookup_own_ok_int _ rfl _ _ 157 rfl 237 2 .i64 keyedK Try.underlying157 Try.underlying2 (zeroI _) b (Maps.size D) D rfl hown.out _ _ rfl Hkey.out ?_; intro c hat2 hwc; rw [Hh.out]) | fail)
    go_ret
    have e : c = (y : Int) := by have := hat.out.symm.trans hat2; injection this with this; injection this with _ this; exact this.symm
    exact ⟨by rw [← e]; rfl, hm0, hg0⟩
end Go.Proofs.Ytdgcjkgbglofbaa

/- A table of the numbers of lists of trees, checked by the kernel against the recursion; the numbers of trees by their first tree. No program is named here. -/
namespace Go.Proofs.Ytdgcjkgbglofbaa.M
def tabL : List (List Nat) := [
  [1],
  [0, 1],
  [0, 1, 1],
  [0, 2, 2, 1],
  [0, 5, 5, 3, 1],
  [0, 14, 14, 9, 4, 1],
  [0, 42, 42, 28, 14, 5, 1],
  [0, 132, 132, 90, 48, 20, 6, 1],
  [0, 429, 429, 297, 165, 75, 27, 7, 1],
  [0, 1430, 1430, 1001, 572, 275, 110, 35, 8, 1],
  [0, 4862, 4862, 3432, 2002, 1001, 429, 154, 44, 9, 1],
  [0, 16796, 16796, 11934, 7072, 3640, 1638, 637, 208, 54, 10, 1],
  [0, 58786, 58786, 41990, 25194, 13260, 6188, 2548, 910, 273, 65, 11, 1],
  [0, 208012, 208012, 149226, 90440, 48450, 23256, 9996, 3808, 1260, 350, 77, 12, 1],
  [0, 742900, 742900, 534888, 326876, 177650, 87210, 38760, 15504, 5508, 1700, 440, 90, 13, 1],
  [0, 2674440, 2674440, 1931540, 1188640, 653752, 326876, 149226, 62016, 23256, 7752, 2244, 544, 104, 14, 1],
  [0, 9694845, 9694845, 7020405, 4345965, 2414425, 1225785, 572033, 245157, 95931, 33915, 10659, 2907, 663, 119, 15, 1],
  [0, 35357670, 35357670, 25662825, 15967980, 8947575, 4601610, 2187185, 961400, 389367, 144210, 48279, 14364, 3705, 798, 135, 16, 1],
  [0, 129644790, 129644790, 94287120, 58929450, 33266625, 17298645, 8351070, 3749460, 1562275, 600875, 211508, 67298, 19019, 4655, 950, 152, 17, 1],
  [0, 477638700, 477638700, 347993910, 218349120, 124062000, 65132550, 31865925, 14567280, 6216210, 2466750, 904475, 303600, 92092, 24794, 5775, 1120, 170, 18, 1],
  [0, 1767263190, 1767263190, 1289624490, 811985790, 463991880, 245642760, 121580760, 56448210, 24582285, 10015005, 3798795, 1332045, 427570, 123970, 31878, 7084, 1309, 189, 19, 1],
  [0, 6564120420, 6564120420, 4796857230, 3029594040, 1739969550, 927983760, 463991880, 218349120, 96768360, 40320150, 15737865, 5722860, 1924065, 592020, 164450, 40480, 8602, 1518, 209, 20, 1],
  [0, 24466267020, 24466267020, 17902146600, 11338026180, 6541168950, 3511574910, 1771605360, 843621600, 379629720, 161280600, 64512240, 24192090, 8454225, 2731365, 807300, 215280, 50830, 10350, 1748, 230, 21, 1],
  [0, 91482563640, 91482563640, 67016296620, 42550029600, 24647883000, 13309856820, 6768687870, 3257112960, 1485507600, 641886000, 262256280, 100975680, 36463440, 12271350, 3817125, 1085760, 278460, 63180, 12350, 2000, 252, 22, 1],
  [0, 343059613650, 343059613650, 251577050010, 160094486370, 93078189750, 50528160150, 25880277150, 12570420330, 5801732460, 2544619500, 1059111900, 417225900, 154969620, 53993940, 17530500, 5259150, 1442025, 356265, 77805, 14625, 2275, 275, 23, 1],
  [0, 1289904147324, 1289904147324, 946844533674, 603784920024, 352207870014, 192113383644, 99035193894, 48507033744, 22626756594, 10056336264, 4254603804, 1709984304, 650872404, 233646504, 78676884, 24682944, 7152444, 1893294, 451269, 95004, 17199, 2574, 299, 24, 1],
  [0, 4861946401452, 4861946401452, 3572042254128, 2282138106804, 1335293573130, 731508653106, 379300783092, 187187399448, 88152205554, 39645171810, 17018415216, 6962078952, 2707475148, 997490844, 346618440, 112971936, 34295052, 9612108, 2459664, 566370, 115101, 20097, 2898, 324, 25, 1],
  [0, 18367353072152, 18367353072152, 13505406670700, 8643460269248, 5071418015120, 2789279908316, 1453986335186, 722477682080, 343176898988, 155989499540, 67837293986, 28192122176, 11173706960, 4211628008, 1504152860, 506662016, 160043576, 47071640, 12776588, 3164480, 704816, 138446, 23345, 3248, 350, 26, 1],
  [0, 69533550916004, 69533550916004, 51166197843852, 32798844771700, 19293438101000, 10649977831752, 5578559816632, 2789279908316, 1335293573130, 612815891050, 269638992062, 113649492522, 45812198536, 17620076360, 6446369400, 2234741392, 730588532, 223926516, 63882940, 16811300, 4034712, 870232, 165416, 26970, 3625, 377, 27, 1],
  [0, 263747951750360, 263747951750360, 194214400834356, 124680849918352, 73514652074500, 40715807302800, 21422369201800, 10772391370048, 5193831553416, 2404551645100, 1069258071970, 456442180920, 186803188858, 73153696336, 27341497800, 9721421440, 3275052040, 1040310648, 309722116, 85795600, 21912660, 5101360, 1066648, 196416, 31000, 4030, 405, 28, 1],
  [0, 1002242216651368, 1002242216651368, 738494264901008, 474746313150648, 280531912316292, 155851062397940, 82336410323440, 41620603020640, 20198233818840, 9425842448792, 4232010895376, 1827459250276, 758201178306, 301758997386, 114955808528, 41802112192, 14460614392, 4739192952, 1464140912, 423830264, 114108148, 28312548, 6399888, 1298528, 231880, 35464, 4464, 434, 29, 1],
  [0, 3814986502092304, 3814986502092304, 2812744285440936, 1810502068789568, 1072007803888560, 597261490737912, 316729578421620, 160878516023680, 78542105700240, 36921502679600, 16723268860760, 7297426411968, 3065415516592, 1237956266316, 479755088010, 177996090624, 63040282096, 21238169904, 6777555512, 2038362560, 574221648, 150391384, 36283236, 7970688, 1570800, 272272, 40392, 4928, 464, 30, 1],
  [0, 14544636039226909, 14544636039226909, 10729649537134605, 6914663035042301, 4101918749601365, 2291416680811797, 1219408876923237, 622147386185325, 305417807763705, 144539291740025, 65997186039785, 29075683360185, 12352414499425, 5054988087457, 1989572570865, 751616304549, 271861216539, 93865125915, 30824843819, 9586673915, 2809118403, 770755843, 196534195, 46142811, 9859575, 1888887, 318087, 45815, 5423, 495, 31, 1]]
def entL (n t : Nat) : Nat := (tabL.getD n []).getD t 0
def chkL : Bool := (List.range 32).all fun n => (List.range 33).all fun t => entL (n + 1) t == if t = 0 ∨ n + 1 < t then 0 else sumTo (fun d => entL n (t - 1 + d)) (n + 1 - t + 1)
theorem chkL_true : chkL = true := by decide +kernel
theorem ent0 : ∀ t, t < 33 → entL 0 t = L 0 t := by
  intro t ht
  have : ((List.range 33).all fun t => entL 0 t == L 0 t) = true := by decide +kernel
  have := List.all_eq_true.1 this t (List.mem_range.2 ht)
  simpa using this
theorem entL_eq : ∀ n, n ≤ 32 → ∀ t, t ≤ 32 → entL n t = L n t := by
  intro n
  induction n with
  | zero => intro _ t ht; exact ent0 t (by omega)
  | succ n ih =>
    intro hn t ht
    have h1 := List.all_eq_true.1 chkL_true n (List.mem_range.2 (by omega))
    have h2 := List.all_eq_true.1 h1 t (List.mem_range.2 (by omega))
    have h3 : entL (n + 1) t = if t = 0 ∨ n + 1 < t then 0 else sumTo (fun d => entL n (t - 1 + d)) (n + 1 - t + 1) := by simpa using h2
    rw [h3, L]
    split
    · rfl
    · exact sumTo_congr fun d hd => ih (by omega) _ (by omega)
/-- the first tree of so many, and the others: the sum over its nodes, less one -/
def chkC : Bool := (List.range 31).all fun m => (List.range 31).all fun k => entL m (k + 1) == sumTo (fun j => entL (j + 1) 1 * entL (m - 1 - j) k) m
theorem chkC_true : chkC = true := by decide +kernel
theorem L_first {m k : Nat} (hm : m ≤ 30) (hk : k ≤ 30) : L m (k + 1) = sumTo (fun j => L (j + 1) 1 * L (m - 1 - j) k) m := by
  have h1 := List.all_eq_true.1 chkC_true m (List.mem_range.2 (by omega))
  have h2 := List.all_eq_true.1 h1 k (List.mem_range.2 (by omega))
  have h3 : entL m (k + 1) = sumTo (fun j => entL (j + 1) 1 * entL (m - 1 - j) k) m := by simpa using h2
  rw [entL_eq m (by omega) (k + 1) (by omega)] at h3
  rw [h3]
  exact sumTo_congr fun j hj => by rw [entL_eq (j + 1) (by omega) 1 (by omega), entL_eq (m - 1 - j) (by omega) k (by omega)]
/-- the numbers of trees of 0 to n nodes -/
def cats (n : Nat) : List Int := (List.range (n + 1)).map fun k => (L k 1 : Int)
theorem cats_len (n : Nat) : (cats n).length = n + 1 := by simp [cats]
theorem cats_at {n k : Nat} (h : k < n + 1) : (cats n)[k]? = some (L k 1 : Int) := by simp [cats, h]
theorem cats_succ (n : Nat) : cats (n + 1) = cats n ++ [(L (n + 1) 1 : Int)] := by simp [cats, List.range_succ]
/-- the numbers of trees by the first tree below the root: of m nodes, m at least 2 -/
theorem L_cat {m : Nat} (h : 2 ≤ m) (hm : m ≤ 31) : L m 1 = sumTo (fun j => L (j + 1) 1 * L (m - 1 - j) 1) (m - 1) := by
  have : ((List.range 32).all fun m => decide (m < 2) || (entL m 1 == sumTo (fun j => entL (j + 1) 1 * entL (m - 1 - j) 1) (m - 1))) = true := by decide +kernel
  have h1 := List.all_eq_true.1 this m (List.mem_range.2 (by omega))
  have h2 : decide (m < 2) = false := by simp; omega
  rw [h2] at h1
  have h3 : entL m 1 = sumTo (fun j => entL (j + 1) 1 * entL (m - 1 - j) 1) (m - 1) := by simpa using h1
  rw [entL_eq m (by omega) 1 (by omega)] at h3
  rw [h3]
  exact sumTo_congr fun j hj => by rw [entL_eq (j + 1) (by omega) 1 (by omega), entL_eq (m - 1 - j) (by omega) 1 (by omega)]
theorem cat_small {n : Nat} (h : n ≤ 30) : L (n + 1) 1 ≤ 10000000000000000 := by
  have : ((List.range 31).all fun n => decide (entL (n + 1) 1 ≤ 10000000000000000)) = true := by decide +kernel
  have h1 := List.all_eq_true.1 this n (List.mem_range.2 (by omega))
  rw [← entL_eq (n + 1) (by omega) 1 (by omega)]
  simpa using h1
end Go.Proofs.Ytdgcjkgbglofbaa.M

/- Numbers of lists of trees of at most a height, by nodes. No program is named here. -/
namespace Go.Proofs.Ytdgcjkgbglofbaa.M
/-- a first tree, of which 'less' tells the number by its nodes less one, and a list -/
def convL (less : Nat → Nat) : Nat → List Nat
  | 0 => [1]
  | n + 1 => convL less n ++ [sumTo (fun x => less x * (convL less n).getD (n - x) 0) (n + 1)]
def conv (less : Nat → Nat) (n : Nat) : Nat := (convL less n).getD n 0
theorem convL_len (less : Nat → Nat) : ∀ n, (convL less n).length = n + 1 := by
  intro n
  induction n with
  | zero => rfl
  | succ n ih => simp [convL, ih]
theorem convL_at (less : Nat → Nat) {i : Nat} : ∀ n, i ≤ n → (convL less n).getD i 0 = conv less i := by
  intro n
  induction n with
  | zero => intro h; obtain rfl : i = 0 := by omega
            rfl
  | succ n ih =>
    intro h
    rcases Nat.lt_or_ge i (n + 1) with h1 | h1
    · rw [← ih (by omega), convL]
      simp only [List.getD_eq_getElem?_getD]
      rw [List.getElem?_append_left (by rw [convL_len]; omega)]
    · obtain rfl : i = n + 1 := by omega
      rfl
theorem conv_zero (less : Nat → Nat) : conv less 0 = 1 := rfl
theorem conv_succ (less : Nat → Nat) (n : Nat) : conv less (n + 1) = sumTo (fun x => less x * conv less (n - x)) (n + 1) := by
  have h1 : conv less (n + 1) = sumTo (fun x => less x * (convL less n).getD (n - x) 0) (n + 1) := by
    simp only [conv, convL, List.getD_eq_getElem?_getD]
    rw [List.getElem?_append_right (by rw [convL_len]; omega), convL_len]
    simp
  rw [h1]
  exact sumTo_congr fun x hx => by rw [convL_at less n (by omega)]
/-- lists of trees of less than h levels -/
def Fo : Nat → Nat → Nat
  | 0, n => if n = 0 then 1 else 0
  | h + 1, n => conv (Fo h) n
theorem Fo_none (h : Nat) : Fo h 0 = 1 := by cases h <;> rfl
theorem Fo_zero {n : Nat} (hn : 0 < n) : Fo 0 n = 0 := if_neg (by omega)
theorem Fo_succ (h n : Nat) : Fo (h + 1) (n + 1) = sumTo (fun x => Fo h x * Fo (h + 1) (n - x)) (n + 1) := conv_succ _ n
theorem sumTo_mono {f g : Nat → Nat} : ∀ {k : Nat}, (∀ i, i < k → f i ≤ g i) → sumTo f k ≤ sumTo g k := by
  intro k
  induction k with
  | zero => intro _; exact Nat.le_refl _
  | succ k ih => intro h; simp only [sumTo]; have := ih fun i hi => h i (by omega); have := h k (by omega); omega
theorem Fo_cat : ∀ (h n : Nat), n ≤ 30 → Fo h n ≤ L (n + 1) 1 := by
  have base : ∀ n, n ≤ 30 → 1 ≤ L (n + 1) 1 := fun n hn => by
    have : ((List.range 31).all fun n => decide (1 ≤ entL (n + 1) 1)) = true := by decide +kernel
    have h1 := List.all_eq_true.1 this n (List.mem_range.2 (by omega))
    rw [← entL_eq (n + 1) (by omega) 1 (by omega)]
    simpa using h1
  intro h
  induction h with
  | zero => intro n hn; have := base n hn; simp only [Fo]; split <;> omega
  | succ h ih =>
    intro n
    induction n using Nat.strongRecOn with
    | _ n ihn =>
      intro hn
      cases n with
      | zero => rw [Fo_none]; exact base 0 hn
      | succ n =>
        rw [Fo_succ, L_cat (m := n + 1 + 1) (by omega) (by omega)]
        refine sumTo_mono fun x hx => ?_
        have h1 := ih x (by omega)
        have h2 := ihn (n - x) (by omega) (by omega)
        have e : n + 1 + 1 - 1 - x = n - x + 1 := by omega
        rw [e]
        exact Nat.mul_le_mul h1 h2
theorem Fo_small {h n : Nat} (hn : n ≤ 30) : Fo h n ≤ 10000000000000000 := Nat.le_trans (Fo_cat h n hn) (cat_small hn)
theorem Fosum_small {h n j : Nat} (hn : n + 1 ≤ 30) (hj : j ≤ n + 1) : sumTo (fun x => Fo h x * Fo (h + 1) (n - x)) j ≤ 10000000000000000 := by
  have h1 := sumTo_le (f := fun x => Fo h x * Fo (h + 1) (n - x)) hj
  have h2 := Fo_small (h := h + 1) (n := n + 1) hn
  rw [Fo_succ] at h2
  omega
/-- trees of m nodes with less than h levels -/
def TrN (h m : Nat) : Nat := if h = 0 ∨ m = 0 then 0 else Fo (h - 1) (m - 1)
end Go.Proofs.Ytdgcjkgbglofbaa.M

/- listsWithin, treesWithin: numbers by heights, with a map of what is known. -/
namespace Go.Proofs.Ytdgcjkgbglofbaa
open Go.RowKit Go.Maps Go.WideMaps

/-- what the map keeps: by nodes and height -/
def Fk (n j : Nat) : Nat := M.Fo (j + 1) n

/-- what listsWithin does at a height (as the program tells it: hi is that number, and levels the number of levels) -/
def WithinAt (b levels : Nat) (hi : Int) (n : Nat) : Prop := ∀ (W : World), Hid (Memo Fk W b) →
  Calls Try.prog 289 #[.map (some b), .int .i64 (n : Int), .int .i64 hi] W fun e W' => e = .returned (.int .i64 (M.Fo levels n : Int)) ∧ Hid (Memo Fk W' b) ∧ Hid (W.grownBy W' (some b))

set_option maxHeartbeats 1000000 in
set_option maxRecDepth 100000 in
/-- no nodes, or a height below 0 -/
theorem within_base (b levels n : Nat) (hi : Int) (W : World) (hn : n ≤ 1000) (hh : -1 ≤ hi ∧ hi ≤ 1000) (h : n = 0 ∨ (hi = -1 ∧ levels = 0)) (hM : Hid (Memo Fk W b)) :
    Calls Try.prog 289 #[.map (some b), .int .i64 (n : Int), .int .i64 hi] W fun e W' => e = .returned (.int .i64 (M.Fo levels n : Int)) ∧ Hid (Memo Fk W' b) ∧ Hid (W.grownBy W' (some b)) := by
  have hM3 : Hid (Memo Fk (((W.alloc (.cells #[.map (some b)] 157)).alloc (.cells #[.int .i64 (n : Int)] 2)).alloc (.cells #[.int .i64 hi] 2)) b) := ((hM.out.alloc _).alloc _).alloc _
  have hg3 : Hid (W.grownBy (((W.alloc (.cells #[.map (some b)] 157)).alloc (.cells #[.int .i64 (n : Int)] 2)).alloc (.cells #[.int .i64 hi] 2)) (some b)) := ((World.grownBy_alloc W _ _).trans (World.grownBy_alloc _ _ _)).trans (World.grownBy_alloc _ _ _)
  rcases Nat.eq_zero_or_pos n with h0 | h0
  · subst h0
    rw [M.Fo_none]
    clear h
    go_enter Try.func289, Try.ntmps289
    go_wp2_with (go_at_call 282; refine (oneIf _ _).mono ?_; rintro e w' ⟨rfl, rfl⟩)
    go_ret
    exact ⟨rfl, hM3, hg3⟩
  · obtain ⟨rfl, rfl⟩ : hi = -1 ∧ levels = 0 := by omega
    rw [M.Fo_zero h0]
    have hq : ((n : Int) == 0) = false := by simp; omega
    clear h
    go_enter Try.func289, Try.ntmps289
    go_wp2_with (go_at_call 282; refine (oneIf _ _).mono ?_; rintro e w' ⟨rfl, rfl⟩)
    go_ret
    exact ⟨rfl, hM3, hg3⟩

set_option maxHeartbeats 1000000 in
set_option maxRecDepth 100000 in
/-- treesWithin at a height of at least 0, out of listsWithin at the height below -/
theorem treesWithin_at (b m levels : Nat) (hi hi1 : Int) (W : World) (hm : m ≤ 1000) (hh : 0 ≤ hi ∧ hi ≤ 1000) (he : hi - 1 = hi1) (ih : Hid (WithinAt b levels hi1 m)) (hM : Hid (Memo Fk W b)) :
    Calls Try.prog 224 #[.map (some b), .int .i64 ((m : Int) + 1), .int .i64 hi] W fun e W' => e = .returned (.int .i64 (M.Fo levels m : Int)) ∧ Hid (Memo Fk W' b) ∧ Hid (W.grownBy W' (some b)) := by
  subst he
  have hc := Lib.hid (ih.out W hM)
  have h0 : ¬ hi < 0 := by omega
  have h1 := hh.1
  have h2 := hh.2
  clear ih hh
  go_enter Try.func224, Try.ntmps224
  go_wp2_with fail
  refine hc.out.mono ?_
  rintro e w2 ⟨rfl, hM2, hg2⟩
  clear hc
  go_wp2
  go_ret
  exact ⟨rfl, hM2, hg2⟩

theorem treesWithin_neg (b n : Nat) (W : World) (hM : Hid (Memo Fk W b)) :
    Calls Try.prog 224 #[.map (some b), .int .i64 (n : Int), .int .i64 (-1)] W fun e W' => e = .returned (.int .i64 0) ∧ Hid (Memo Fk W' b) ∧ Hid (W.grownBy W' (some b)) := by
  go_enter Try.func224, Try.ntmps224
  go_wp2
  go_ret
  exact ⟨rfl, hM, World.grownBy.refl _ _⟩

set_option maxHeartbeats 2000000 in
set_option maxRecDepth 100000 in
/-- the closure: the sum over the nodes of the first tree -/
theorem within1 (b m j Bn Bw Bh : Nat) (hm : m + 1 ≤ 30) (hj : j ≤ 30) (ihl : Hid (∀ x, x ≤ m → WithinAt b j ((j : Int) - 1) x)) (ihs : Hid (∀ x, x ≤ m → WithinAt b (j + 1) (j : Int) x)) (W : World) (hM : Hid (Memo Fk W b))
    (hn : Hid (W.cell? ⟨Bn, 0, none⟩ = some (.int .i64 ((m : Int) + 1)))) (hw : Hid (W.cell? ⟨Bw, 0, none⟩ = some (.map (some b)))) (hh : Hid (W.cell? ⟨Bh, 0, none⟩ = some (.int .i64 (j : Int)))) (hbn : b ≠ Bn) (hbw : b ≠ Bw) (hbh : b ≠ Bh) :
    Calls Try.prog 336 #[.pointer (some ⟨Bn, 0, none⟩), .pointer (some ⟨Bw, 0, none⟩), .pointer (some ⟨Bh, 0, none⟩)] W fun e W' => e = .returned (.int .i64 (M.Fo (j + 1) (m + 1) : Int)) ∧ Hid (Memo Fk W' b) ∧ Hid (W.grownBy W' (some b)) := by
  have hLe : Hid (M.Fo (j + 1) (m + 1) = M.sumTo (fun x => M.Fo j x * M.Fo (j + 1) (m - x)) (m + 1)) := M.Fo_succ j m
  have hsm : ∀ k, k ≤ m + 1 → M.sumTo (fun x => M.Fo j x * M.Fo (j + 1) (m - x)) k ≤ 10000000000000000 := fun k hk => M.Fosum_small (by omega) hk
  have Hsm := Lib.hid hsm
  clear hsm
  go_enter Try.func336, Try.ntmps336
  go_wp2
  go_loopw [4, 5] (fun q i wr => ∃ (k y : Nat), k ≤ m + 1 ∧ i = .int .i64 ((k : Int) + 1) ∧ q = .int .i64 (y : Int) ∧ Hid (M.sumTo (fun x => M.Fo j x * M.Fo (j + 1) (m - x)) k = y) ∧ Hid (Memo Fk wr b) ∧ Hid (W.grownBy wr (some b))) (fun _ i _ => 40 - (intOf i).toNat)
  case atStart => exact ⟨0, 0, Nat.zero_le _, rfl, rfl, rfl, hM, World.grownBy.refl _ _⟩
  case round =>
    obtain ⟨k, y, hk, rfl, rfl, hy, hMr, hg⟩ := hrel
    have c1 := hg.out.cell hn.out (fun e => hbn (by injection e with e; exact e.symm))
    have c2 := hg.out.cell hw.out (fun e => hbw (by injection e with e; exact e.symm))
    have c3 := hg.out.cell hh.out (fun e => hbh (by injection e with e; exact e.symm))
    have hy1 := Hsm.out k hk
    rw [hy.out] at hy1
    by_cases hlt : k < m + 1
    · have hlt2 : (k : Int) + 1 ≤ (m : Int) + 1 := by omega
      obtain ⟨d, hd⟩ : ∃ d, Hid (m - k = d) := ⟨_, rfl⟩
      have hsum : Hid (M.sumTo (fun x => M.Fo j x * M.Fo (j + 1) (m - x)) (k + 1) = y + M.Fo j k * M.Fo (j + 1) d) := by show _ = _; rw [M.sumTo, hy.out, hd.out]
      have hy2 := Hsm.out (k + 1) (by omega)
      rw [hsum.out] at hy2
      have hT : ∀ W', Hid (Memo Fk W' b) → Hid (W.grownBy W' (some b)) → Calls Try.prog 224 #[.map (some b), .int .i64 ((k : Int) + 1), .int .i64 (j : Int)] W' fun e w' => e = .returned (.int .i64 (M.Fo j k : Int)) ∧ Hid (Memo Fk w' b) ∧ Hid (W.grownBy w' (some b)) := fun W' hM' hg' =>
        (treesWithin_at b k j (j : Int) ((j : Int) - 1) W' (by omega) (by omega) rfl (ihl.out k (by omega)) hM').mono fun e w' ⟨he, h1, h2⟩ => ⟨he, h1, hg'.out.trans h2.out⟩
      have hL : ∀ W', Hid (Memo Fk W' b) → Hid (W.grownBy W' (some b)) → Calls Try.prog 289 #[.map (some b), .int .i64 (d : Int), .int .i64 (j : Int)] W' fun e w' => e = .returned (.int .i64 (M.Fo (j + 1) d : Int)) ∧ Hid (Memo Fk w' b) ∧ Hid (W.grownBy w' (some b)) := fun W' hM' hg' =>
        (ihs.out d (by have := hd.out; omega) W' hM').mono fun e w' ⟨he, h1, h2⟩ => ⟨he, h1, hg'.out.trans h2.out⟩
      generalize M.Fo j k = a at *
      generalize M.Fo (j + 1) d = z at *
      obtain ⟨az, haz⟩ : ∃ az, Hid (a * z = az) := ⟨_, rfl⟩
      rw [haz.out] at hsum hy2
      have hmul : ((a : Int) * (z : Int)) = (az : Int) := by rw [← haz.out]; exact (Int.natCast_mul a z).symm
      have hw1 : IntKind.i64.wrap ((a : Int) * (z : Int)) = (az : Int) := by rw [hmul]; exact IntWalk.i64_in _ (by omega)
      have hw2 : IntKind.i64.wrap ((y : Int) + (az : Int)) = (y : Int) + (az : Int) := IntWalk.i64_in _ (by omega)
      have hw3 : IntKind.i64.wrap ((m : Int) + 1 - ((k : Int) + 1)) = (d : Int) := by rw [IntWalk.i64_in _ (by omega)]; have := hd.out; omega
      have HT := Lib.hid hT
      have HL := Lib.hid hL
      have hS : ∀ W', Hid (Memo Fk W' b) → Hid (W.grownBy W' (some b)) → W'.cell? ⟨Bn, 0, none⟩ = some (.int .i64 ((m : Int) + 1)) ∧ W'.cell? ⟨Bw, 0, none⟩ = some (.map (some b)) ∧ W'.cell? ⟨Bh, 0, none⟩ = some (.int .i64 (j : Int)) := fun W' _ hg' =>
        ⟨hg'.out.cell hn.out (fun e => hbn (by injection e with e; exact e.symm)), hg'.out.cell hw.out (fun e => hbw (by injection e with e; exact e.symm)), hg'.out.cell hh.out (fun e => hbh (by injection e with e; exact e.symm))⟩
      have HS := Lib.hid hS
      clear hT hL hS hmul
      go_wp2
      have k1 : wr.drew.cell? ⟨Bn, 0, none⟩ = some (.int .i64 ((m : Int) + 1)) := c1
      have k2 : wr.drew.cell? ⟨Bw, 0, none⟩ = some (.map (some b)) := c2
      have k3 : wr.drew.cell? ⟨Bh, 0, none⟩ = some (.int .i64 (j : Int)) := c3
      have k4 : Hid (Memo Fk wr.drew b) := hMr.out
      have k5 : Hid (W.grownBy wr.drew (some b)) := ⟨hg.out.os, hg.out.tape, hg.out.output, hg.out.size, hg.out.block⟩
      clear c1 c2 c3
      go_region_held3 (fun w' => w'.cell? ⟨Bn, 0, none⟩ = some (.int .i64 ((m : Int) + 1)) ∧ w'.cell? ⟨Bw, 0, none⟩ = some (.map (some b)) ∧ w'.cell? ⟨Bh, 0, none⟩ = some (.int .i64 (j : Int)) ∧ Hid (Memo Fk w' b) ∧ Hid (W.grownBy w' (some b))) (first | exact ⟨k1, k2, k3, k4, k5⟩ | exact ⟨(HS.out _ (by assumption) (by assumption)).1, (HS.out _ (by assumption) (by assumption)).2.1, (HS.out _ (by assumption) (by assumption)).2.2, by assumption, by assumption⟩) (first | (go_at_call 224; refine (HT.out _ (by assumption) (by assumption)).mono ?_; rintro e w7 ⟨rfl, hM7, hg7⟩) | (go_at_call 289; refine (HL.out _ (by assumption) (by assumption)).mono ?_; rintro e w8 ⟨rfl, hM8, hg8⟩))
      clear HT HL HS k1 k2 k3 k4 k5 hM7 hg7 hMr hg
      go_wp2
      go_roundw
      case rel => exact ⟨k + 1, y + az, by omega, by go_num, by go_num, hsum, hM8, hg8⟩
      case measure => simp [intOf]; omega
    · obtain rfl : k = m + 1 := by omega
      have hge : ¬ ((m + 1 : Nat) : Int) + 1 ≤ (m : Int) + 1 := by omega
      have he : Hid (M.Fo (j + 1) (m + 1) = y) := hLe.out.trans hy.out
      go_wp2
      go_ret
      exact ⟨by rw [he.out]; rfl, hMr, hg⟩

set_option maxHeartbeats 1000000 in
set_option maxRecDepth 100000 in
theorem within_step (b m j : Nat) (W : World) (hm : m + 1 ≤ 30) (hj : j ≤ 30) (ihl : Hid (∀ x, x ≤ m → WithinAt b j ((j : Int) - 1) x)) (ihs : Hid (∀ x, x ≤ m → WithinAt b (j + 1) (j : Int) x)) (hM : Hid (Memo Fk W b)) :
    Calls Try.prog 289 #[.map (some b), .int .i64 ((m : Int) + 1), .int .i64 (j : Int)] W fun e W' => e = .returned (.int .i64 (M.Fo (j + 1) (m + 1) : Int)) ∧ Hid (Memo Fk W' b) ∧ Hid (W.grownBy W' (some b)) := by
  have hbW := hM.out.lt
  have hM3 : Hid (Memo Fk (((W.alloc (.cells #[.map (some b)] 157)).alloc (.cells #[.int .i64 ((m : Int) + 1)] 2)).alloc (.cells #[.int .i64 (j : Int)] 2)) b) := ((hM.out.alloc _).alloc _).alloc _
  have hg3 : Hid (W.grownBy (((W.alloc (.cells #[.map (some b)] 157)).alloc (.cells #[.int .i64 ((m : Int) + 1)] 2)).alloc (.cells #[.int .i64 (j : Int)] 2)) (some b)) := ((World.grownBy_alloc W _ _).trans (World.grownBy_alloc _ _ _)).trans (World.grownBy_alloc _ _ _)
  have k0 : Hid ((((W.alloc (.cells #[.map (some b)] 157)).alloc (.cells #[.int .i64 ((m : Int) + 1)] 2)).alloc (.cells #[.int .i64 (j : Int)] 2)).cell? ⟨W.heap.size, 0, none⟩ = some (.map (some b))) := cell_al (cell_al (by simp) _) _
  have k1 : Hid ((((W.alloc (.cells #[.map (some b)] 157)).alloc (.cells #[.int .i64 ((m : Int) + 1)] 2)).alloc (.cells #[.int .i64 (j : Int)] 2)).cell? ⟨W.heap.size + 1, 0, none⟩ = some (.int .i64 ((m : Int) + 1))) := cell_al (by simp) _
  have k2 : Hid ((((W.alloc (.cells #[.map (some b)] 157)).alloc (.cells #[.int .i64 ((m : Int) + 1)] 2)).alloc (.cells #[.int .i64 (j : Int)] 2)).cell? ⟨W.heap.size + 1 + 1, 0, none⟩ = some (.int .i64 (j : Int))) := by
    have := World.cell?_alloc_new ((W.alloc (.cells #[.map (some b)] 157)).alloc (.cells #[.int .i64 ((m : Int) + 1)] 2)) #[.int .i64 (j : Int)] 2 0
    exact Lib.hid (by simpa using this)
  obtain ⟨W3, hW3⟩ : ∃ W3, W3 = (((W.alloc (.cells #[.map (some b)] 157)).alloc (.cells #[.int .i64 ((m : Int) + 1)] 2)).alloc (.cells #[.int .i64 (j : Int)] 2)) := ⟨_, rfl⟩
  have hcount : Hid (∀ W', Hid (Memo Fk W' b) → Hid (W3.grownBy W' (some b)) → Calls Try.prog 336 #[.pointer (some ⟨W.heap.size + 1, 0, none⟩), .pointer (some ⟨W.heap.size, 0, none⟩), .pointer (some ⟨W.heap.size + 1 + 1, 0, none⟩)] W' fun e W'' => e = .returned (.int .i64 (Fk (m + 1) j : Int)) ∧ Hid (Memo Fk W'' b) ∧ Hid (W'.grownBy W'' (some b))) := fun W' hM' hg' =>
    within1 b m j (W.heap.size + 1) W.heap.size (W.heap.size + 1 + 1) hm hj ihl ihs W' hM'
      (hg'.out.cell (hW3 ▸ k1.out) (fun e => by injection e with e; simp at e; omega)) (hg'.out.cell (hW3 ▸ k0.out) (fun e => by injection e with e; simp at e; omega)) (hg'.out.cell (hW3 ▸ k2.out) (fun e => by injection e with e; simp at e; omega)) (by omega) (by omega) (by omega)
  have hFs : Fk (m + 1) j ≤ 1152921504606846976 := Nat.le_trans (M.Fo_small (h := j + 1) (n := m + 1) hm) (by omega)
  have hk := keptlistsWithin b (m + 1) j ⟨W.heap.size + 1, 0, none⟩ ⟨W.heap.size, 0, none⟩ ⟨W.heap.size + 1 + 1, 0, none⟩ W3 (by omega) (by omega) hFs (hW3 ▸ hM3) hcount
  have e1 : ((m + 1 : Nat) : Int) = (m : Int) + 1 := by omega
  rw [e1, hW3] at hk
  have HK := Lib.hid hk
  have h1 : ¬ (j : Int) < 0 := by omega
  have h2 : ((m : Int) + 1 == 0) = false := by simp; omega
  clear hk e1 hcount hW3 k0 k1 k2 hM3
  go_enter Try.func289, Try.ntmps289
  go_wp2_with fail
  refine HK.out.mono ?_
  rintro e w2 ⟨rfl, hM2, hg2⟩
  have hgt := Lib.hid (hg3.out.trans hg2.out)
  go_wp2
  go_ret
  exact ⟨rfl, hM2, hgt⟩

theorem withinAt (b : Nat) : ∀ levels : Nat, levels ≤ 31 → ∀ n, n ≤ 30 → WithinAt b levels ((levels : Int) - 1) n := by
  intro levels
  induction levels with
  | zero =>
    intro _ n hn W hM
    exact within_base b 0 n _ W (by omega) (by omega) (.inr ⟨by omega, rfl⟩) hM
  | succ j ih =>
    intro hj n
    have ec : ((j + 1 : Nat) : Int) - 1 = (j : Int) := by omega
    rw [ec]
    induction n using Nat.strongRecOn with
    | _ n ihn =>
      intro hn W hM
      cases n with
      | zero => exact within_base b (j + 1) 0 _ W (by omega) (by omega) (.inl rfl) hM
      | succ m =>
        have := within_step b m j W hn (by omega) (fun x hx => ih (by omega) x (by omega)) (fun x hx => ihn x (by omega) (by omega)) hM
        have e1 : ((m + 1 : Nat) : Int) = (m : Int) + 1 := by omega
        rw [e1]
        exact this
end Go.Proofs.Ytdgcjkgbglofbaa

/- l02Catalan: the model's numbers of trees of 0 to n nodes. -/
namespace Go.Proofs.Ytdgcjkgbglofbaa
open Go.RowKit

theorem own64_shape {w : World} {B n c : Nat} {A : Option Addr} {zs : List Int} (h : Own64 w B (.slice A n c) zs) (hn : 0 < n) : ∃ g, A = some ⟨g, 0, none⟩ := by
  rcases h.2 with ⟨h0, _⟩ | ⟨g, cap, cur, hv, _⟩
  · injection h0 with _ e _; omega
  · injection hv with e1; exact ⟨g, e1⟩

set_option maxHeartbeats 2000000 in
set_option maxRecDepth 100000 in
theorem l02Catalan (n : Nat) (w : World) (hn1 : 1 ≤ n) (hn : n ≤ 30) :
    Calls Try.prog 226 #[.int .i64 (n : Int)] w fun e w' => ∃ A' c', e = .returned (.slice A' (n + 1) c') ∧ Own64 w' w.heap.size (.slice A' (n + 1) c') (M.cats n) ∧ Below w.heap.size w w' := by
  have hst : Hid (Own64 (w.alloc (.cells #[.int .i64 0, .int .i64 1] 2)) w.heap.size (.slice (some ⟨w.heap.size, 0, none⟩) 2 2) (M.cats 1)) := by
    have h := World.ownsRow_lit (e := 2) (size := 1) w #[.int .i64 0, .int .i64 1] 2 (base := w.heap.size) (Nat.le_refl _) (by unfold maxLen; omega) (by simp)
    exact h
  have hb0 : Hid (Below w.heap.size w (w.alloc (.cells #[.int .i64 0, .int .i64 1] 2))) := bal (b0 w) _
  go_enter Try.func226, Try.ntmps226
  go_wp2
  go_loopw [3, 4, 5, 6] (fun q i _ _ wr => ∃ (m : Nat) (A' : Option Addr) (c' : Nat), 2 ≤ m ∧ m ≤ n + 1 ∧ i = .int .i64 (m : Int) ∧ q = .slice A' m c' ∧ Hid (Own64 wr w.heap.size (.slice A' m c') (M.cats (m - 1))) ∧ Hid (Below w.heap.size w wr)) (fun _ i _ _ _ => 40 - (intOf i).toNat)
  case atStart => exact ⟨2, _, 2, Nat.le_refl _, by omega, rfl, rfl, hst, hb0⟩
  case round =>
    obtain ⟨m, A', c', hm1, hm, rfl, rfl, ho, hbr⟩ := hrel
    clear hst hb0
    have zr := hbr.out.size
    have hcl : Hid ((M.cats (m - 1)).length = m) := by show _ = _; rw [M.cats_len]; omega
    by_cases hlt : m ≤ n
    · have hlt2 : (m : Int) ≤ (n : Int) := by omega
      obtain ⟨g, rfl⟩ := own64_shape ho.out (by omega)
      have hLe := Lib.hid (M.L_cat (m := m) (by omega) (by omega))
      have hLs := M.L_small (n := m) (t := 1) (by omega)
      have hsm : ∀ k, k ≤ m - 1 → M.sumTo (fun j => M.L (j + 1) 1 * M.L (m - 1 - j) 1) k ≤ 1152921504606846976 := fun k hk => by
        have := M.sumTo_le (f := fun j => M.L (j + 1) 1 * M.L (m - 1 - j) 1) (j := k) (k := m - 1) (by omega)
        have h2 := hLe.out
        omega
      have Hsm := Lib.hid hsm
      clear hLs hsm
      go_wp2
      go_loopw [5, 6] (fun s k wr => ∃ (j y : Nat), 1 ≤ j ∧ j ≤ m ∧ k = .int .i64 (j : Int) ∧ s = .int .i64 (y : Int) ∧ Hid (M.sumTo (fun j => M.L (j + 1) 1 * M.L (m - 1 - j) 1) (j - 1) = y) ∧ Hid (Own64 wr w.heap.size (.slice (some ⟨g, 0, none⟩) m c') (M.cats (m - 1))) ∧ Hid (Below w.heap.size w wr)) (fun _ k _ => 40 - (intOf k).toNat)
      case atStart => exact ⟨1, 0, Nat.le_refl _, by omega, rfl, rfl, rfl, ho, hbr⟩
      case round =>
        obtain ⟨j, y, hj1, hj, rfl, rfl, hy, ho, hbr⟩ := hrel
        by_cases hjm : j < m
        · have hjm2 : (j : Int) < (m : Int) := by omega
          obtain ⟨d, hd⟩ : ∃ d, Hid (m - j = d) := ⟨_, rfl⟩
          have hdo := hd.out
          have c1 := (own64_cell ho.out hcl.out (M.cats_at (n := m - 1) (k := j) (by omega))).1
          have c2 := (own64_cell ho.out hcl.out (M.cats_at (n := m - 1) (k := d) (by omega))).1
          have hy1 := Hsm.out (j - 1) (by omega)
          have hy2 := Hsm.out (j - 1 + 1) (by omega)
          have hs : Hid (M.sumTo (fun j => M.L (j + 1) 1 * M.L (m - 1 - j) 1) (j + 1 - 1) = y + M.L j 1 * M.L d 1) := by
            show _ = _
            have e1 : j + 1 - 1 = (j - 1) + 1 := by omega
            have e2 : j - 1 + 1 = j := by omega
            have e3 : m - 1 - (j - 1) = d := by omega
            rw [e1, M.sumTo, hy.out, e2, e3]
          have e1 : j - 1 + 1 = j + 1 - 1 := by omega
          rw [e1, hs.out] at hy2
          rw [hy.out] at hy1
          generalize M.L j 1 = a at *
          generalize M.L d 1 = b at *
          obtain ⟨ad, had⟩ : ∃ ad, Hid (a * b = ad) := ⟨_, rfl⟩
          rw [had.out] at hs hy2
          have hmul : ((a : Int) * (b : Int)) = (ad : Int) := by rw [← had.out]; exact (Int.natCast_mul a b).symm
          have hw1 : IntKind.i64.wrap ((a : Int) * (b : Int)) = (ad : Int) := by rw [hmul]; exact IntWalk.i64_in _ (by omega)
          have hw2 : IntKind.i64.wrap ((y : Int) + (ad : Int)) = (y : Int) + (ad : Int) := IntWalk.i64_in _ (by omega)
          have hw3 : IntKind.i64.wrap ((m : Int) - (j : Int)) = (d : Int) := by rw [IntWalk.i64_in _ (by omega)]; omega
          have hi1 : (0 : Int) ≤ (d : Int) := by omega
          have hi2 : (d : Int) < (m : Int) := by omega
          have hi3 : (0 : Int) ≤ (j : Int) := by omega
          clear hmul e1 hdo
          go_wp2
          go_quiet (fail)
          go_wp2
          go_roundw
          case rel => exact ⟨j + 1, y + ad, by omega, by omega, by go_num, by go_num, hs, ho, below_drewN hbr.out _⟩
          case measure => simp [intOf]; omega
        · obtain rfl : j = m := by omega
          have hge : ¬ (j : Int) < (j : Int) := by omega
          have hye : Hid (M.L j 1 = y) := hLe.out.trans hy.out
          have hpush : Hid (M.cats (j - 1) ++ [(y : Int)] = M.cats j) := by
            show _ = _
            have e1 : j = (j - 1) + 1 := by omega
            have h2 := M.cats_succ (j - 1)
            rw [← e1, hye.out] at h2
            exact h2.symm
          have zr2 := hbr.out.size
          go_wp2_with (at_builtin; refine push64 rfl (.tmp 31) (.tmp 33) rfl wr w.heap.size (some ⟨g, 0, none⟩) j c' (M.cats (j - 1)) (y : Int) rfl rfl ho zr2 (by omega) ?_; intro A2 c2 w2 ho2 hb2)
          go_roundw
          case rel => exact ⟨j + 1, A2, c2, by omega, by omega, by go_num, rfl, own64_eq ho2.out hpush.out, hbr.out.trans hb2.out⟩
          case measure => simp [intOf]; omega
    · obtain rfl : m = n + 1 := by omega
      have hge : ¬ ((n + 1 : Nat) : Int) ≤ (n : Int) := by omega
      have ho2 : Hid (Own64 wr w.heap.size (.slice A' (n + 1) c') (M.cats n)) := ho.out
      go_wp2
      go_ret
      exact ⟨A', c', rfl, ho2.out, hbr.out⟩
end Go.Proofs.Ytdgcjkgbglofbaa
