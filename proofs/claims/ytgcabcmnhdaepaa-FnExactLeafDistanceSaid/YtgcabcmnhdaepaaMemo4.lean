/- The map that keeps numbers by four numbers (two spans): what its block is good for. -/
import Derived.Test.YtgcabcmnhdaepaaBase
import Derived.Maps.OwnSet
import Derived.Maps.OwnOps
import Derived.Maps.Views
import Derived.WideKeyPair
import Derived.DeepKeys3
import Derived.Maps.AppendAt
import Derived.RangeFuncBox
namespace Go.Proofs.Ytgcabcmnhdaepaa
open Go.RowKit Go.Maps Go.WideMaps

theorem lawS : KeyLaw Try.prog 180 := deep_law (m := 3) (by omega) (by kernel_rfl) (by kernel_rfl) (by kernel_rfl)
theorem keyedS : Keyed Try.prog 180 := Keyed.of_law lawS
theorem zeroI (w : World) : (zeroValue 2).run Try.prog w = .ok (.int .i64 0) w := by kernel_rfl

def k4 (a b c d : Nat) : Lit := .string (keyBytes [.int .i64 (a : Int), .int .i64 (b : Int), .int .i64 (c : Int), .int .i64 (d : Int)])
theorem wfN {i : Nat} (h : i ≤ 1000000000000) : (Lit.int .i64 (i : Int)).wf = true := WalkArith.wf_i64 (by omega)
theorem sizeS : ∃ m, Try.prog.types.size = m + 3 := ⟨Try.prog.types.size - 3, by kernel_rfl⟩
theorem keyTypeS : Try.prog.keyType 180 = true := by kernel_rfl
theorem cellsS2 : Try.prog.cellsOf 180 = 4 := by kernel_rfl
theorem cellsS1 : Try.prog.cellsOf 179 = 2 := by kernel_rfl
theorem cellsS0 : Try.prog.cellsOf 2 = 1 := by kernel_rfl
theorem lits1 (m : Nat) {a b : Nat} (ha : a ≤ 1000000000000) (hb : b ≤ 1000000000000) : Try.prog.keyLits (m + 2) 179 [.int .i64 (a : Int), .int .i64 (b : Int)] = some [.int .i64 (a : Int), .int .i64 (b : Int)] := by
  unfold Program.keyLits
  simp only [Try.underlying179]
  rw [if_pos ⟨by rw [cellsS1]; rfl, by decide +kernel⟩]
  simp [Program.keyLits, Try.underlying2, cellsS0, wfN ha, wfN hb]
theorem keyOf_k4 {a b c d : Nat} (ha : a ≤ 1000000000000) (hb : b ≤ 1000000000000) (hc : c ≤ 1000000000000) (hd : d ≤ 1000000000000) : keyOf Try.prog 180 (.agg #[.int .i64 (a : Int), .int .i64 (b : Int), .int .i64 (c : Int), .int .i64 (d : Int)]) = some (k4 a b c d) := by
  obtain ⟨m, hm⟩ := sizeS
  unfold keyOf
  simp only [Try.underlying180]
  rw [if_pos (by simp [keyTypeS, Value.formed, Try.underlying180, cellsS2]), hm]
  unfold Program.keyLits
  simp only [Try.underlying180, Value.cells]
  rw [if_pos (by rw [cellsS2]; rfl), show List.range 2 = [0, 1] from rfl, List.mapM_cons, List.mapM_cons, List.mapM_nil]
  simp only [cellsS1]
  simp [lits1 _ ha hb, lits1 _ hc hd, k4]
theorem k4_inj {a b c d a' b' c' d' : Nat} (ha : a ≤ 1000000000000) (hb : b ≤ 1000000000000) (hc : c ≤ 1000000000000) (hd : d ≤ 1000000000000) (ha' : a' ≤ 1000000000000) (hb' : b' ≤ 1000000000000) (hc' : c' ≤ 1000000000000) (hd' : d' ≤ 1000000000000) (h : k4 a b c d = k4 a' b' c' d') : a = a' ∧ b = b' ∧ c = c' ∧ d = d' := by
  have h1 := keyOf_k4 ha hb hc hd
  have h2 := keyOf_k4 ha' hb' hc' hd'
  rw [← h] at h2
  have := keyedS.inj h1 h2
  simp only [Value.agg.injEq, Array.mk.injEq, List.cons.injEq, Value.int.injEq, true_and, and_true] at this
  omega
theorem k4_key {a b c d : Nat} (ha : a ≤ 1000000000000) (hb : b ≤ 1000000000000) (hc : c ≤ 1000000000000) (hd : d ≤ 1000000000000) : WideAt.IsKeyLit (k4 a b c d) := keyedS.key (keyOf_k4 ha hb hc hd)

namespace M
theorem filter_lt {α : Type} {p q : α → Bool} (h : ∀ x, q x = true → p x = true) : ∀ (l : List α) (x : α), x ∈ l → p x = true → q x = false → (l.filter q).length + 1 ≤ (l.filter p).length := by
  intro l
  induction l with
  | nil => intro x hx; cases hx
  | cons y r ih =>
    intro x hx hp hq
    have hle : ∀ r : List α, (r.filter q).length ≤ (r.filter p).length := by
      intro r
      induction r with
      | nil => exact Nat.le_refl _
      | cons z r ihr =>
        simp only [List.filter_cons]
        cases hqz : q z
        · cases p z <;> simp <;> omega
        · rw [h z hqz]; simp; omega
    simp only [List.filter_cons]
    rcases List.mem_cons.1 hx with rfl | hx
    · rw [hp, hq]
      have := hle r
      simp
      omega
    · have := ih x hx hp hq
      cases hqy : q y
      · cases p y <;> simp <;> omega
      · rw [h y hqy]; simp; omega
/-- four numbers below 32 -/
def quads : List (Nat × Nat × Nat × Nat) := (List.range 32).flatMap fun a => (List.range 32).flatMap fun b => (List.range 32).flatMap fun c => (List.range 32).map fun d => (a, b, c, d)
theorem flatMap_len {α β : Type} (f : α → List β) (k : Nat) : ∀ l : List α, (∀ x ∈ l, (f x).length = k) → (l.flatMap f).length = l.length * k := by
  intro l
  induction l with
  | nil => intro _; simp
  | cons x r ih =>
    intro h
    rw [List.flatMap_cons, List.length_append, h x (by simp), ih fun y hy => h y (by simp [hy]), List.length_cons, Nat.add_mul]
    omega
theorem quads_len : quads.length = 1048576 := by
  rw [quads, flatMap_len _ 32768 _ fun a _ => flatMap_len _ 1024 _ fun b _ => flatMap_len _ 32 _ fun c _ => by simp]
  simp
theorem quads_mem {a b c d : Nat} (ha : a < 32) (hb : b < 32) (hc : c < 32) (hd : d < 32) : (a, b, c, d) ∈ quads := by
  simp only [quads, List.mem_flatMap, List.mem_map, List.mem_range]
  exact ⟨a, ha, b, hb, c, hc, d, hd, rfl⟩
theorem quads_bd {p : Nat × Nat × Nat × Nat} (h : p ∈ quads) : p.1 < 32 ∧ p.2.1 < 32 ∧ p.2.2.1 < 32 ∧ p.2.2.2 < 32 := by
  simp only [quads, List.mem_flatMap, List.mem_map, List.mem_range] at h
  obtain ⟨a, ha, b, hb, c, hc, d, hd, rfl⟩ := h
  exact ⟨ha, hb, hc, hd⟩
end M

def absent (D : DataW Unit) : Nat := (M.quads.filter fun p => !has D (k4 p.1 p.2.1 p.2.2.1 p.2.2.2)).length

/-- block b is a map that holds for each of its keys the number that L says -/
def Memo (L : Nat → Nat → Nat → Nat → Nat) (w : World) (b : Nat) : Prop :=
  ∃ D : DataW Unit, w.ownsMap Try.prog 180 (plainElem Try.prog 2) b (Maps.size D) D ∧ (∀ i j k l : Nat, i < 32 → j < 32 → k < 32 → l < 32 → has D (k4 i j k l) = true → ∀ z, D.atKey (k4 i j k l) z = .lit (.int .i64 (L i j k l : Int))) ∧ Maps.size D + absent D ≤ 1048576

theorem Memo.lt {L : Nat → Nat → Nat → Nat → Nat} {w : World} {b : Nat} (h : Memo L w b) : b < w.heap.size := by obtain ⟨D, h1, _⟩ := h; exact h1.lt
theorem Memo.kept {L : Nat → Nat → Nat → Nat → Nat} {w w' : World} {b : Nat} {row : Option Nat} (h : Memo L w b) (hg : w.grownBy w' row) (hne : some b ≠ row) : Memo L w' b := by
  obtain ⟨D, h1, h2, h3⟩ := h
  exact ⟨D, h1.kept hg hne, h2, h3⟩
theorem Memo.alloc {L : Nat → Nat → Nat → Nat → Nat} {w : World} {b : Nat} (h : Memo L w b) (o : Obj) : Memo L (w.alloc o) b := h.kept (World.grownBy_alloc w o none) (by simp)
theorem Memo.new (L : Nat → Nat → Nat → Nat → Nat) (w : World) : Memo L (w.alloc (.map #[] 0)) w.heap.size :=
  ⟨.map [], World.ownsMap_made _ _ _ _, fun i j k l _ _ _ _ h => by simp [has] at h, by
    have : absent (.map []) ≤ 1048576 := Nat.le_trans (List.length_filter_le _ _) (by rw [M.quads_len]; omega)
    have e : Maps.size (.map [] : DataW Unit) = 0 := rfl
    rw [e, Nat.zero_add]
    exact this⟩

theorem ownsMap_size {w : World} {k b n : Nat} {R : Value → Option (DataW Unit × List MemPlace)} {D : DataW Unit} (h : w.ownsMap Try.prog k R b n D) : w.ownsMap Try.prog k R b (Maps.size D) D := by
  obtain ⟨es, clock, hb, F, hs, hD⟩ := h
  refine ⟨es, clock, hb, F, ?_, hD⟩
  rw [hD]
  show es.size ≤ (List.foldr DataW.insert [] _).length
  rw [length_sorted]
  simp

theorem Memo.put {L : Nat → Nat → Nat → Nat → Nat} {w : World} {D : DataW Unit} {b i j k l n : Nat} (hi : i < 32) (hj : j < 32) (hk : k < 32) (hl : l < 32) (hT : Tidy D) (hv : ∀ i j k l : Nat, i < 32 → j < 32 → k < 32 → l < 32 → has D (k4 i j k l) = true → ∀ z, D.atKey (k4 i j k l) z = .lit (.int .i64 (L i j k l : Int))) (hs : Maps.size D + absent D ≤ 1048576)
    (h : w.ownsMap Try.prog 180 (plainElem Try.prog 2) b n (D.put (k4 i j k l) (.lit (.int .i64 (L i j k l : Int))))) : Memo L w b := by
  have hne : ∀ i' j' k' l' : Nat, i' < 32 → j' < 32 → k' < 32 → l' < 32 → (i', j', k', l') ≠ (i, j, k, l) → k4 i' j' k' l' ≠ k4 i j k l := fun i' j' k' l' h1 h2 h4 h5 h3 e => h3 (by obtain ⟨e1, e2, e3, e4⟩ := k4_inj (by omega) (by omega) (by omega) (by omega) (by omega) (by omega) (by omega) (by omega) e; rw [e1, e2, e3, e4])
  have hkey := k4_key (a := i) (b := j) (c := k) (d := l) (by omega) (by omega) (by omega) (by omega)
  refine ⟨_, ownsMap_size h, fun i' j' k' l' h1 h2 h4 h5 hh z => ?_, ?_⟩
  · by_cases he : (i', j', k', l') = (i, j, k, l)
    · simp only [Prod.mk.injEq] at he
      obtain ⟨rfl, rfl, rfl, rfl⟩ := he
      exact atKey_put_same hT.isMap hkey _ _
    · rw [has_put_other (hne i' j' k' l' h1 h2 h4 h5 he)] at hh
      rw [atKey_put_other (hne i' j' k' l' h1 h2 h4 h5 he)]
      exact hv i' j' k' l' h1 h2 h4 h5 hh z
  · rw [size_put hT]
    have hmono : ∀ p ∈ M.quads, (!has (D.put (k4 i j k l) (.lit (.int .i64 (L i j k l : Int)))) (k4 p.1 p.2.1 p.2.2.1 p.2.2.2)) = true → (!has D (k4 p.1 p.2.1 p.2.2.1 p.2.2.2)) = true := fun p hp hq => by
      obtain ⟨h1, h2, h4, h5⟩ := M.quads_bd hp
      by_cases he : (p.1, p.2.1, p.2.2.1, p.2.2.2) = (i, j, k, l)
      · simp only [Prod.mk.injEq] at he
        obtain ⟨e1, e2, e3, e4⟩ := he
        rw [e1, e2, e3, e4, has_put_same hT.isMap hkey] at hq
        cases hq
      · rw [has_put_other (hne _ _ _ _ h1 h2 h4 h5 he)] at hq
        exact hq
    have habs : absent (D.put (k4 i j k l) (.lit (.int .i64 (L i j k l : Int)))) = (M.quads.filter fun p => (!has (D.put (k4 i j k l) (.lit (.int .i64 (L i j k l : Int)))) (k4 p.1 p.2.1 p.2.2.1 p.2.2.2)) && !has D (k4 p.1 p.2.1 p.2.2.1 p.2.2.2)).length := by
      unfold absent
      congr 1
      apply List.filter_congr
      intro p hp
      cases hq : (!has (D.put (k4 i j k l) (.lit (.int .i64 (L i j k l : Int)))) (k4 p.1 p.2.1 p.2.2.1 p.2.2.2))
      · rfl
      · rw [hmono p hp hq]; rfl
    cases hh : has D (k4 i j k l)
    · have := M.filter_lt (p := fun p : Nat × Nat × Nat × Nat => !has D (k4 p.1 p.2.1 p.2.2.1 p.2.2.2)) (q := fun p => (!has (D.put (k4 i j k l) (.lit (.int .i64 (L i j k l : Int)))) (k4 p.1 p.2.1 p.2.2.1 p.2.2.2)) && !has D (k4 p.1 p.2.1 p.2.2.1 p.2.2.2)) (fun x hx => by simp only [Bool.and_eq_true] at hx; exact hx.2) M.quads (i, j, k, l) (M.quads_mem hi hj hk hl) (by simp [hh]) (by simp [has_put_same hT.isMap hkey])
      rw [habs]
      unfold absent at hs
      simp only [Bool.false_eq_true, if_false]
      omega
    · have : absent (D.put (k4 i j k l) (.lit (.int .i64 (L i j k l : Int)))) ≤ absent D := by
        rw [habs]
        unfold absent
        rw [← List.filter_filter]
        exact List.length_filter_le _ _
      simp only [if_true]
      omega
end Go.Proofs.Ytgcabcmnhdaepaa
