/- Lists of trees in memory: a slice whose elements are trees, each with a row of its own; append of one; what the laws' helpers do with them. -/
import Derived.Test.YtbdmmeoelagdcaaTree
import Derived.Test.YtbdmmeoelagdcaaPush
import Derived.Test.YtbdmmeoelagdcaaNewBox
import Derived.Maps.AppendAt
import Derived.Deep.RegionHeld3
namespace Go.Proofs.Ytbdmmeoelagdcaa
open Go.RowKit

theorem infoTree : (Try.prog.info? 29).map (fun i => (i.zero, i.size, i.bytes)) = some (some (.agg #[.slice none 0 0]), 1, 24) := by kernel_rfl

/-- a row's header: its block, its length, its capacity -/
abbrev Hdr := Nat × Nat × Nat
abbrev hdr (h : Hdr) : Value := .slice (some ⟨h.1, 0, none⟩) h.2.1 h.2.2

/-- the slice v has the trees zss, with the headers hs; all lies from block B on, and no two share memory -/
structure Woods (w : World) (B : Nat) (v : Value) (hs : List Hdr) (zss : List (List Int)) : Prop where
  row : w.ownsRow B 29 1 v hs.length (hs.map hdr)
  len : hs.length = zss.length
  each : ∀ (k : Nat) (h : Hdr) (zs : List Int), hs[k]? = some h → zss[k]? = some zs → Own64 w B (hdr h) zs
  apart : ∀ (i j : Nat) (h h' : Hdr), hs[i]? = some h → hs[j]? = some h' → i ≠ j → h.1 ≠ h'.1

theorem Woods.at_ {w : World} {B : Nat} {v : Value} {hs : List Hdr} {zss : List (List Int)} (h : Woods w B v hs zss) {k : Nat} {zs : List Int} (hk : zss[k]? = some zs) : ∃ h', hs[k]? = some h' ∧ Own64 w B (hdr h') zs ∧ h'.2.1 = zs.length := by
  have hl : k < hs.length := by rw [h.len]; exact (List.getElem?_eq_some_iff.1 hk).1
  have h1 := List.getElem?_eq_getElem hl
  have h2 := h.each k _ zs h1 hk
  exact ⟨_, h1, h2, own64_len h2⟩
theorem Woods.lt {w : World} {B : Nat} {v : Value} {hs : List Hdr} {zss : List (List Int)} (h : Woods w B v hs zss) {h' : Hdr} (hh : h' ∈ hs) : B ≤ h'.1 ∧ h'.1 < w.heap.size := by
  obtain ⟨k, hk⟩ := List.getElem?_of_mem hh
  have hl : k < zss.length := by rw [← h.len]; exact (List.getElem?_eq_some_iff.1 hk).1
  exact World.ownsRow.lt (h.each k h' _ hk (List.getElem?_eq_getElem hl)) h'.1 rfl
theorem Woods.cell {w : World} {B g n c : Nat} {hs : List Hdr} {zss : List (List Int)} (h : Woods w B (.slice (some ⟨g, 0, none⟩) n c) hs zss) {k : Nat} {h' : Hdr} (hk : hs[k]? = some h') : w.cell? ⟨g, k, none⟩ = some (hdr h') := by
  have := h.row.cells (g := g) rfl k (hdr h') (by simp [hk])
  have ha : (⟨g, 0, none⟩ : Addr).add k = ⟨g, k, none⟩ := by unfold Addr.add; split <;> simp_all
  rw [ha] at this
  exact this
theorem Woods.shape {w : World} {B n c : Nat} {A : Option Addr} {hs : List Hdr} {zss : List (List Int)} (h : Woods w B (.slice A n c) hs zss) : n = zss.length ∧ (0 < n → ∃ g, A = some ⟨g, 0, none⟩) := by
  have hl := h.len
  rcases h.row.2 with ⟨e, h0⟩ | ⟨g, cap, cur, hv, _⟩
  · injection e with e1 e2 e3
    exact ⟨by omega, fun hn => by omega⟩
  · injection hv with e1 e2 e3
    exact ⟨by omega, fun _ => ⟨g, e1⟩⟩
/-- the slice's block is none of the rows': they hold other things -/
theorem Woods.off {w : World} {B : Nat} {v : Value} {hs : List Hdr} {zss : List (List Int)} (h : Woods w B v hs zss) {h' : Hdr} (hh : h' ∈ hs) : v.ownBlock ≠ some h'.1 := by
  intro e
  obtain ⟨k, hk⟩ := List.getElem?_of_mem hh
  have hl : k < zss.length := by rw [← h.len]; exact (List.getElem?_eq_some_iff.1 hk).1
  have h1 := h.each k h' _ hk (List.getElem?_eq_getElem hl)
  rcases h.row.2 with ⟨e0, _⟩ | ⟨g, cap, cur, hv, _, hg, _⟩
  · rw [e0] at e; cases e
  · rcases h1.2 with ⟨e0, _⟩ | ⟨g', cap', cur', hv', _, hg', _⟩
    · cases e0
    · injection hv' with e1
      injection e1 with e1
      injection e1 with e1
      rw [hv] at e
      have e2 : g = h'.1 := by injection e
      rw [e2, e1, hg'] at hg
      injection hg with hg
      injection hg with _ hg
      exact absurd hg (by decide)
theorem Woods.kept {w w' : World} {B : Nat} {v : Value} {hs : List Hdr} {zss : List (List Int)} {row : Option Nat} (h : Woods w B v hs zss) (hg : w.grownBy w' row) (h1 : ∀ k, row = some k → v.ownBlock ≠ some k ∧ ∀ h' ∈ hs, h'.1 ≠ k) : Woods w' B v hs zss := by
  refine ⟨h.row.kept hg ?_, h.len, fun k h' zs hk hz => (h.each k h' zs hk hz).kept hg (.inr fun e => ?_), h.apart⟩
  · cases hv : v.ownBlock with
    | none => exact .inl rfl
    | some k => exact .inr fun e => (h1 k e.symm).1 hv
  · exact (h1 h'.1 e.symm).2 h' (List.mem_of_getElem? hk) rfl
theorem Woods.be {w w' : World} {B : Nat} {v : Value} {hs : List Hdr} {zss : List (List Int)} (h : Woods w B v hs zss) (hb : Below w.heap.size w w') : Woods w' B v hs zss :=
  ⟨own_be h.row hb, h.len, fun k h' zs hk hz => own_be (h.each k h' zs hk hz) hb, h.apart⟩
theorem Woods.alloc {w : World} {B : Nat} {v : Value} {hs : List Hdr} {zss : List (List Int)} (h : Woods w B v hs zss) (o : Obj) : Woods (w.alloc o) B v hs zss := h.be (bal (b0 w) o)
theorem Woods.mono {w : World} {B B' : Nat} {v : Value} {hs : List Hdr} {zss : List (List Int)} (h : Woods w B v hs zss) (hB : B' ≤ B) : Woods w B' v hs zss :=
  ⟨own_mono h.row hB, h.len, fun k h' zs hk hz => own_mono (h.each k h' zs hk hz) hB, h.apart⟩
theorem woods_empty {w : World} {B : Nat} (hB : B ≤ w.heap.size) : Woods (w.alloc (.cells #[] 29)) B (.slice (some ⟨w.heap.size, 0, none⟩) 0 0) [] [] :=
  ⟨World.ownsRow_made (e := 29) (size := 1) w #[] 0 hB (by simp [maxLen]) (by simp), rfl, fun k h zs hk => by simp at hk, fun i j h h' hi => by simp at hi⟩
theorem woods_nil (w : World) (B : Nat) : Woods w B (.slice none 0 0) [] [] :=
  ⟨World.ownsRow_nil _ _ _ _, rfl, fun k h zs hk => by simp at hk, fun i j h h' hi => by simp at hi⟩
theorem woods_one {w : World} {B : Nat} {h : Hdr} {zs : List Int} (hB : B ≤ w.heap.size) (ho : Own64 w B (hdr h) zs) : Woods (w.alloc (.cells #[hdr h] 29)) B (.slice (some ⟨w.heap.size, 0, none⟩) 1 1) [h] [zs] := by
  refine ⟨World.ownsRow_lit (e := 29) (size := 1) w #[hdr h] 1 hB (by simp [maxLen]) (by simp), rfl, fun k h' zs' hk hz => ?_, fun i j h1 h2 hi hj hij => ?_⟩
  · have hk0 : k = 0 := by have := (List.getElem?_eq_some_iff.1 hk).1; simp at this; exact this
    subst hk0
    injection hk with hk
    injection hz with hz
    subst hk
    subst hz
    exact ho.alloc _
  · have h1 := (List.getElem?_eq_some_iff.1 hi).1
    have h2 := (List.getElem?_eq_some_iff.1 hj).1
    simp at h1 h2
    omega
/-- behind an append of one tree -/
theorem woods_pushed {w w1 : World} {B : Nat} {v v' : Value} {hs : List Hdr} {zss : List (List Int)} {h0 : Hdr} {zs : List Int} (h : Woods w B v hs zss) (ho : Own64 w B (hdr h0) zs) (hne : v.ownBlock ≠ some h0.1) (hfr : ∀ h' ∈ hs, h'.1 ≠ h0.1) {o : Obj}
    (hown : w1.ownsRow B 29 1 v' (hs.length + 1) (hs.map hdr ++ [hdr h0])) (hg : (w.alloc o).grownBy w1 v.ownBlock) : Woods w1 B v' (hs ++ [h0]) (zss ++ [zs]) := by
  have hk0 : ∀ (h' : Hdr) (ys : List Int), Own64 w B (hdr h') ys → v.ownBlock ≠ some h'.1 → Own64 w1 B (hdr h') ys := fun h' ys ho' hv => (ho'.alloc _).kept hg (.inr fun e => hv e.symm)
  refine ⟨by rw [List.length_append, List.map_append]; exact hown, by rw [List.length_append, List.length_append, h.len]; rfl, fun k h' ys hk hy => ?_, fun i j h1 h2 hi hj hij => ?_⟩
  · rcases Nat.lt_or_ge k hs.length with hl | hl
    · rw [List.getElem?_append_left hl] at hk
      rw [List.getElem?_append_left (by rw [← h.len]; exact hl)] at hy
      exact hk0 h' ys (h.each k h' ys hk hy) (h.off (List.mem_of_getElem? hk))
    · rw [List.getElem?_append_right hl] at hk
      rw [List.getElem?_append_right (by rw [← h.len]; exact hl)] at hy
      have e1 : k - hs.length = 0 := by have := (List.getElem?_eq_some_iff.1 hk).1; simp at this; omega
      rw [e1] at hk
      rw [← h.len, e1] at hy
      injection hk with hk
      injection hy with hy
      subst hk
      subst hy
      exact hk0 h0 zs ho hne
  · have hsel : ∀ (k : Nat) (h' : Hdr), (hs ++ [h0])[k]? = some h' → (k < hs.length ∧ hs[k]? = some h') ∨ (k = hs.length ∧ h' = h0) := fun k h' hk => by
      rcases Nat.lt_or_ge k hs.length with hl | hl
      · rw [List.getElem?_append_left hl] at hk; exact .inl ⟨hl, hk⟩
      · rw [List.getElem?_append_right hl] at hk
        have e1 : k - hs.length = 0 := by have := (List.getElem?_eq_some_iff.1 hk).1; simp at this; omega
        rw [e1] at hk
        injection hk with hk
        exact .inr ⟨by omega, hk.symm⟩
    rcases hsel i h1 hi with ⟨a1, a2⟩ | ⟨a1, a2⟩ <;> rcases hsel j h2 hj with ⟨b1, b2⟩ | ⟨b1, b2⟩
    · exact h.apart i j h1 h2 a2 b2 hij
    · rw [b2]; exact hfr h1 (List.mem_of_getElem? a2)
    · rw [a2]; exact fun e => hfr h2 (List.mem_of_getElem? b2) e.symm
    · omega

/-- the trees of a slice, to be read -/
def Trees (w : World) (A : Option Addr) (zss : List (List Int)) : Prop :=
  0 < zss.length → ∃ b, A = some ⟨b, 0, none⟩ ∧ b < w.heap.size ∧ ∀ (k : Nat) (zs : List Int), zss[k]? = some zs → ∃ A' c', w.cell? ⟨b, k, none⟩ = some (.slice A' zs.length c') ∧ Ints w w.heap.size A' zs
theorem Woods.trees {w : World} {B n c : Nat} {A : Option Addr} {hs : List Hdr} {zss : List (List Int)} (h : Woods w B (.slice A n c) hs zss) : Trees w A zss := fun hp => by
  obtain ⟨h1, h2⟩ := h.shape
  obtain ⟨g, rfl⟩ := h2 (by omega)
  refine ⟨g, rfl, (World.ownsRow.lt h.row g rfl).2, fun k zs hk => ?_⟩
  obtain ⟨h', hk', ho, hl⟩ := h.at_ hk
  have hc := h.cell hk'
  obtain ⟨g', m, c'⟩ := h'
  simp only at hl
  subst hl
  exact ⟨_, _, hc, ints_of_own64 ho⟩
theorem Trees.be {w w' : World} {A : Option Addr} {zss : List (List Int)} (h : Trees w A zss) (hb : Below w.heap.size w w') : Trees w' A zss := fun hp => by
  obtain ⟨b, rfl, hlt, hk⟩ := h hp
  refine ⟨b, rfl, Nat.lt_of_lt_of_le hlt hb.size, fun k zs hz => ?_⟩
  obtain ⟨A', c', h1, h2⟩ := hk k zs hz
  exact ⟨A', c', (hb.cell (p := ⟨b, k, none⟩) hlt).trans h1, h2.be hb⟩
end Go.Proofs.Ytbdmmeoelagdcaa
