/- Tables in memory: a slice whose elements are slices of numbers, of any lengths, each owned, none in the table's block; read, append of one row, a row put in. -/
import Derived.Test.YtamnilpmdccgoaaGrid
import Derived.Test.YtamnilpmdccgoaaTree
namespace Go.Proofs.Ytamnilpmdccgoaa
open Go.RowKit

/-- the slice value v has the rows Rs, all from block B on -/
def Tab (w : World) (B : Nat) (v : Value) (Rs : List (List Int)) : Prop :=
  ∃ hs : List Value, hs.length = Rs.length ∧ w.ownsRow B 22 1 v hs.length hs ∧ ∀ (i : Nat) (h : Value) (R : List Int), hs[i]? = some h → Rs[i]? = some R → (∃ A c, h = .slice A R.length c) ∧ Own64 w B h R ∧ ∀ b, v.ownBlock = some b → h.ownBlock ≠ some b
theorem Tab.be {w w' : World} {B : Nat} {v : Value} {Rs : List (List Int)} (h : Tab w B v Rs) (hb : Below w.heap.size w w') : Tab w' B v Rs := by
  obtain ⟨hs, h1, h2, h3⟩ := h
  exact ⟨hs, h1, own_be h2 hb, fun i h R e1 e2 => ⟨(h3 i h R e1 e2).1, own_be (h3 i h R e1 e2).2.1 hb, (h3 i h R e1 e2).2.2⟩⟩
theorem Tab.mono {w : World} {B B' : Nat} {v : Value} {Rs : List (List Int)} (h : Tab w B v Rs) (hB : B' ≤ B) : Tab w B' v Rs := by
  obtain ⟨hs, h1, h2, h3⟩ := h
  exact ⟨hs, h1, own_mono h2 hB, fun i h R e1 e2 => ⟨(h3 i h R e1 e2).1, own_mono (h3 i h R e1 e2).2.1 hB, (h3 i h R e1 e2).2.2⟩⟩
theorem Tab.drew {w : World} {B : Nat} {v : Value} {Rs : List (List Int)} (h : Tab w B v Rs) : Tab w.drew B v Rs := h
theorem Tab.len {w : World} {B n c : Nat} {A : Option Addr} {Rs : List (List Int)} (h : Tab w B (.slice A n c) Rs) : n = Rs.length := by
  obtain ⟨hs, h1, h2, h3⟩ := h
  rcases h2.2 with ⟨h0, h4⟩ | ⟨g, cap, cur, hv, _⟩
  · injection h0 with _ e _; omega
  · injection hv with _ e _; omega
theorem Tab.some_ {w : World} {B n c : Nat} {A : Option Addr} {Rs : List (List Int)} (h : Tab w B (.slice A n c) Rs) (hn : 0 < n) : ∃ g, A = some ⟨g, 0, none⟩ := by
  obtain ⟨hs, h1, h2, h3⟩ := h
  rcases h2.2 with ⟨h0, h4⟩ | ⟨g, cap, cur, hv, _⟩
  · injection h0 with _ e _; omega
  · injection hv with e; exact ⟨g, e⟩
/-- a row: its header in the table, and what it reads -/
theorem Tab.at_ {w : World} {B G n c : Nat} {Rs : List (List Int)} (h : Tab w B (.slice (some ⟨G, 0, none⟩) n c) Rs) {i : Nat} {R : List Int} (hR : Rs[i]? = some R) :
    ∃ A c', w.cell? ⟨G, i, none⟩ = some (.slice A R.length c') ∧ Own64 w B (.slice A R.length c') R ∧ G < w.heap.size := by
  obtain ⟨hs, h1, h2, h3⟩ := h
  obtain ⟨v, hv⟩ : ∃ v, hs[i]? = some v := ⟨_, List.getElem?_eq_getElem (by have := (List.getElem?_eq_some_iff.1 hR).1; omega)⟩
  obtain ⟨⟨A, c', rfl⟩, ho, hne⟩ := h3 i v R hv hR
  refine ⟨A, c', ?_, ho, (World.ownsRow.lt h2 G rfl).2⟩
  have := h2.cells (g := G) rfl i _ hv
  have ha : (⟨G, 0, none⟩ : Addr).add i = ⟨G, i, none⟩ := by unfold Addr.add; split <;> simp_all
  rw [ha] at this
  exact this
theorem Tab.lt {w : World} {B : Nat} {v : Value} {Rs : List (List Int)} (h : Tab w B v Rs) {b : Nat} (hb : v.ownBlock = some b) : B ≤ b ∧ b < w.heap.size := by
  obtain ⟨hs, h1, h2, h3⟩ := h
  exact h2.lt b hb
theorem tab_empty {w : World} {B : Nat} (hB : B ≤ w.heap.size) : Tab (w.alloc (.cells #[] 22)) B (.slice (some ⟨w.heap.size, 0, none⟩) 0 0) [] :=
  ⟨[], rfl, World.ownsRow_made (e := 22) (size := 1) w #[] 0 hB (by simp [maxLen]) (by simp), fun i h R e => by simp at e⟩

set_option maxRecDepth 100000 in
theorem pushTab {ops : Array Oper} {rest : List Oper} {o : Oper} {a : Act} {Q : Exit → Act → World → Prop} (hgd : o.guard = none) (s x : Operand)
    (ho : o.op = .call { callee := .builtin .append, args := #[s, x], argTypes := #[42, 42] }) (w : World) (B : Nat) (A : Option Addr) (n c : Nat) (Rs : List (List Int)) (A1 : Option Addr) (m c1 : Nat) (R : List Int)
    (hs : a.eval s = .slice A n c) (N : Nat) (hx : a.eval x = .slice (some ⟨N, 0, none⟩) 1 1) (hN : N = w.heap.size) (ht : Hid (Tab w B (.slice A n c) Rs)) (hrow : Hid (Own64 w B (.slice A1 m c1) R)) (hm : Hid (R.length = m)) (hne : Hid (∀ b, (Value.slice A n c).ownBlock = some b → (Value.slice A1 m c1).ownBlock ≠ some b)) (hB : B ≤ w.heap.size) (hlen : n ≤ 1000000)
    (h : ∀ A' c' w', Hid (Tab w' B (.slice A' (n + 1) c') (Rs ++ [R])) → Hid (Below B w w') → wpList Try.prog ops Q rest (a.put o.dst (.slice A' (n + 1) c')) w') :
    wpList Try.prog ops Q (o :: rest) a (w.alloc (.cells #[.slice A1 m c1] 22)) := by
  obtain ⟨i0, hi0, hz0, hz1, hz2⟩ := info_parts infoRow
  have hnl := Tab.len ht.out
  obtain ⟨hs', h1, h2, h3⟩ := ht.out
  have hnh : hs'.length = n := by omega
  rw [hnh] at h2
  subst hN
  refine wpList_append_own_at _ hgd s x 42 ho B 22 i0 (.slice none 0 0) 1 24 Try.underlying42 hi0 hz0 hz1 hz2 rfl (by decide) _ n hs' hs (h2.alloc _) ⟨w.heap.size, 0, none⟩ 1 1 [.slice A1 m c1] hx rfl (cell_one_new _ _ _) ?_ ?_ ?_ ?_ ?_
  · intro u hu; simp at hu; subst hu; rfl
  · unfold maxLen; omega
  · omega
  · simp; omega
  · intro v' w1 hown1 hg1 _ hat
    obtain ⟨A', c', rfl⟩ : ∃ A' c', v' = .slice A' (n + 1) c' := own_shape hown1
    have hkeep : ∀ (q : Value) (l : List Int), (∃ A c, q = .slice A l.length c) → Own64 w B q l → (∀ b, (Value.slice A n c).ownBlock = some b → q.ownBlock ≠ some b) → Own64 w1 B q l ∧ ∀ b, (Value.slice A' (n + 1) c').ownBlock = some b → q.ownBlock ≠ some b := fun q l _ ho hq => by
      refine ⟨(ho.alloc _).kept hg1 ?_, fun b hb e => ?_⟩
      · cases hv : q.ownBlock with
        | none => exact .inl rfl
        | some k => exact .inr fun e => hq k e.symm hv
      · rcases hat with e1 | e1
        · exact hq b (e1 ▸ hb) e
        · have h4 := ho.lt b e
          rw [hb] at e1
          injection e1 with e1
          simp at e1
          omega
    refine h A' c' w1 ⟨hs' ++ [.slice A1 m c1], by simp [h1], by rw [List.length_append, hnh]; exact hown1, fun i q l hq hl => ?_⟩ ?_
    · rcases Nat.lt_or_ge i n with hi | hi
      · rw [List.getElem?_append_left (by omega)] at hq hl
        obtain ⟨a1, a2, a3⟩ := h3 i q l hq hl
        obtain ⟨b1, b2⟩ := hkeep q l a1 a2 a3
        exact ⟨a1, b1, b2⟩
      · rw [List.getElem?_append_right (by omega)] at hq hl
        have hi2 : i - hs'.length = 0 := by
          rcases Nat.eq_zero_or_pos (i - hs'.length) with e | e
          · exact e
          · rw [List.getElem?_eq_none (by simp; omega)] at hq; cases hq
        rw [hi2] at hq
        rw [show i - Rs.length = 0 by omega] at hl
        injection hq with hq
        injection hl with hl
        subst hq
        subst hl
        have hsh : ∃ A c, Value.slice A1 m c1 = .slice A R.length c := ⟨A1, c1, by rw [hm.out]⟩
        obtain ⟨b1, b2⟩ := hkeep _ R hsh hrow.out hne.out
        exact ⟨hsh, b1, b2⟩
    · exact ((Below.refl B w).alloc hB _).grown hg1 (by simp; omega) (fun k hk => (h2.lt k hk).1)
/-- a table of n rows of no numbers, just made -/
theorem tab_made {w : World} {B n : Nat} (hB : B ≤ w.heap.size) (hn : n ≤ maxLen) :
    Tab (w.alloc (.cells (madeCells #[.slice none 0 0] n) 22)) B (.slice (some ⟨w.heap.size, 0, none⟩) n n) (List.replicate n []) := by
  have h := World.ownsRow_lit (e := 22) (size := 1) w (madeCells #[.slice none 0 0] n) n hB hn (by simp [size_madeCells])
  rw [toList_madeCells_one] at h
  refine ⟨List.replicate n (.slice none 0 0), by simp, by simpa using h, fun i v R e1 e2 => ?_⟩
  rw [List.getElem?_replicate] at e1 e2
  split at e1
  · rename_i hi
    rw [if_pos hi] at e2
    injection e1 with e1
    injection e2 with e2
    subst e1
    subst e2
    exact ⟨⟨none, 0, rfl⟩, own64_nil _ _, fun b _ => by simp [Value.ownBlock]⟩
  · cases e1
/-- a row put in at place i -/
theorem Tab.set {w : World} {B G n c i : Nat} {Rs : List (List Int)} (h : Tab w B (.slice (some ⟨G, 0, none⟩) n c) Rs) {A1 : Option Addr} {c1 : Nat} {R : List Int} (ho : Own64 w B (.slice A1 R.length c1) R) (hne : ∀ b, (Value.slice A1 R.length c1).ownBlock = some b → b ≠ G) :
    Tab (w.setCell ⟨G, i, none⟩ (.slice A1 R.length c1)) B (.slice (some ⟨G, 0, none⟩) n c) (Rs.set i R) := by
  have hnl := Tab.len h
  obtain ⟨hs, h1, h2, h3⟩ := h
  have hnh : hs.length = n := by omega
  rw [hnh] at h2
  have hst := (World.ownsRow.stored h2 i (.slice A1 R.length c1)).1
  refine ⟨hs.set i (.slice A1 R.length c1), by simp [h1], by rw [List.length_set, hnh]; exact hst, fun j v l e1 e2 => ?_⟩
  by_cases hj : i = j
  · subst hj
    have hi : i < hs.length := by have := (List.getElem?_eq_some_iff.1 e1).1; simpa using this
    rw [List.getElem?_set_self hi] at e1
    rw [List.getElem?_set_self (by omega)] at e2
    injection e1 with e1
    injection e2 with e2
    subst e1
    subst e2
    refine ⟨⟨A1, c1, rfl⟩, ownsRow_setCell_other ho (a := ⟨G, i, none⟩) (fun e => hne G e rfl) _, fun b hb e => ?_⟩
    injection hb with hb
    simp at hb
    exact hne b e hb.symm
  · rw [List.getElem?_set_ne hj] at e1 e2
    obtain ⟨a1, a2, a3⟩ := h3 j v l e1 e2
    exact ⟨a1, ownsRow_setCell_other a2 (a := ⟨G, i, none⟩) (a3 G rfl) _, a3⟩
end Go.Proofs.Ytamnilpmdccgoaa
