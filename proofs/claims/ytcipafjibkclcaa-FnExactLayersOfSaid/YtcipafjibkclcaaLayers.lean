/- Layers, their mathematics: rounds of nodes with at most one neighbour left; the program's decrements are the numbers of neighbours left. No program is named here. -/
import Derived.Test.YtcipafjibkclcaaArr
namespace Go.Proofs.Ytcipafjibkclcaa
namespace M
/-- the neighbours left -/
def cnt (ar : Nat → List Nat) (R : Nat → Bool) (u : Nat) : Nat := (ar u).countP R
/-- one decrement: the numbers left and the nodes that have come down to one -/
structure EvInv (left0 : Nat → Int) (P : List Nat) (l : Nat → Int) (inn : List Nat) : Prop where
  left : ∀ x, l x = left0 x - (P.count x : Int)
  mem : ∀ x, x ∈ inn ↔ 2 ≤ left0 x ∧ left0 x - (P.count x : Int) ≤ 1
  nodup : inn.Nodup
theorem evInv_nil (left0 : Nat → Int) : EvInv left0 [] left0 [] :=
  ⟨fun x => by simp, fun x => by simp; omega, List.nodup_nil⟩
theorem count_snoc (P : List Nat) (u x : Nat) : (P ++ [u]).count x = P.count x + if u = x then 1 else 0 := by
  rw [List.count_append, List.count_singleton]
  by_cases h : u = x
  · subst h; simp
  · simp [h]
theorem EvInv.one {left0 : Nat → Int} {P : List Nat} {l : Nat → Int} {inn : List Nat} (h : EvInv left0 P l inn) {u : Nat} {l' : Nat → Int} (hu : l' u = l u - 1) (ho : ∀ x, x ≠ u → l' x = l x) (h1 : l u - 1 = 1) : EvInv left0 (P ++ [u]) l' (inn ++ [u]) := by
  have hl := h.left u
  have hm := h.mem u
  refine ⟨fun x => ?_, fun x => ?_, ?_⟩
  · rw [count_snoc]
    by_cases hx : u = x
    · subst hx; rw [if_pos rfl, hu]; omega
    · rw [if_neg hx, ho x (fun e => hx e.symm), h.left x]; omega
  · rw [count_snoc, List.mem_append, List.mem_singleton]
    by_cases hx : u = x
    · subst hx
      rw [if_pos rfl]
      constructor
      · intro _; exact ⟨by omega, by omega⟩
      · intro _; exact .inr rfl
    · rw [if_neg hx, Nat.add_zero, h.mem x]
      constructor
      · rintro (e | e)
        · exact e
        · exact absurd e.symm hx
      · exact .inl
  · refine List.nodup_append.2 ⟨h.nodup, by simp, fun a ha b hb e => ?_⟩
    rw [List.mem_singleton] at hb
    subst e
    subst hb
    have := hm.1 ha
    omega
theorem EvInv.other {left0 : Nat → Int} {P : List Nat} {l : Nat → Int} {inn : List Nat} (h : EvInv left0 P l inn) {u : Nat} {l' : Nat → Int} (hu : l' u = l u - 1) (ho : ∀ x, x ≠ u → l' x = l x) (h1 : l u - 1 ≠ 1) : EvInv left0 (P ++ [u]) l' inn := by
  have hl := h.left u
  refine ⟨fun x => ?_, fun x => ?_, h.nodup⟩
  · rw [count_snoc]
    by_cases hx : u = x
    · subst hx; rw [if_pos rfl, hu]; omega
    · rw [if_neg hx, ho x (fun e => hx e.symm), h.left x]; omega
  · rw [count_snoc, h.mem x]
    by_cases hx : u = x
    · subst hx
      rw [if_pos rfl]
      omega
    · rw [if_neg hx]; omega
/-- neighbours without doubles, and of each other -/
structure Graph (n : Nat) (ar : Nat → List Nat) : Prop where
  nodup : ∀ v, v < n → (ar v).Nodup
  lt : ∀ v, v < n → ∀ u ∈ ar v, u < n
  symm : ∀ v u, v < n → u < n → (u ∈ ar v ↔ v ∈ ar u)
theorem count_one {l : List Nat} (h : l.Nodup) (x : Nat) : l.count x = if x ∈ l then 1 else 0 := by
  induction l with
  | nil => simp
  | cons a l ih =>
    rw [List.nodup_cons] at h
    rw [List.count_cons, ih h.2]
    by_cases hx : x = a
    · subst hx
      rw [if_neg h.1]; simp
    · have hb : ¬ (a == x) = true := by simpa using fun e => hx e.symm
      by_cases hm : x ∈ l
      · simp only [hm, hb, if_true, List.mem_cons, or_true]; rfl
      · simp only [hm, hb, hx, if_false, List.mem_cons, or_false]; rfl
theorem countP_mem_cons {S : List Nat} {v : Nat} (hv : v ∉ S) : ∀ L : List Nat, L.countP (fun x => decide (x ∈ v :: S)) = L.count v + L.countP (fun x => decide (x ∈ S)) := by
  intro L
  induction L with
  | nil => simp
  | cons a L ih =>
    rw [List.countP_cons, List.countP_cons, List.count_cons, ih]
    by_cases ha : a = v
    · subst ha; simp [hv]; omega
    · simp [ha]; omega
theorem count_events {n : Nat} {ar : Nat → List Nat} (G : Graph n ar) {u : Nat} (hu : u < n) : ∀ {S : List Nat}, S.Nodup → (∀ v ∈ S, v < n) → (S.flatMap ar).count u = (ar u).countP (fun x => decide (x ∈ S)) := by
  intro S
  induction S with
  | nil => intro _ _; simp
  | cons v S ih =>
    intro hS hl
    rw [List.nodup_cons] at hS
    have hv := hl v List.mem_cons_self
    rw [List.flatMap_cons, List.count_append, ih hS.2 (fun x hx => hl x (List.mem_cons_of_mem _ hx)), countP_mem_cons hS.1]
    rw [count_one (G.nodup v hv), count_one (G.nodup u hu)]
    have := G.symm v u hv hu
    by_cases h : u ∈ ar v
    · rw [if_pos h, if_pos (this.1 h)]
    · rw [if_neg h, if_neg (fun e => h (this.2 e))]
theorem cnt_less {R : Nat → Bool} {S : List Nat} (hS : ∀ x ∈ S, R x = true) : ∀ L : List Nat, L.countP (fun x => R x && !decide (x ∈ S)) + L.countP (fun x => decide (x ∈ S)) = L.countP R := by
  intro L
  induction L with
  | nil => simp
  | cons a L ih =>
    rw [List.countP_cons, List.countP_cons, List.countP_cons, ← ih]
    by_cases ha : a ∈ S
    · simp [ha, hS a ha]; omega
    · cases hR : R a <;> simp [ha] <;> omega
/-- the state between two rounds: what is left, the nodes to be taken, and those that are taken -/
structure Round (n : Nat) (ar : Nat → List Nat) (R : Nat → Bool) (l : Nat → Int) (out : List Nat) : Prop where
  left : ∀ u, u < n → l u = (cnt ar R u : Int)
  nodup : out.Nodup
  mem : ∀ v, v ∈ out ↔ v < n ∧ R v = true ∧ cnt ar R v ≤ 1
  gone : ∀ u, u < n → R u = false → cnt ar R u ≤ 1
theorem round_step {n : Nat} {ar : Nat → List Nat} (G : Graph n ar) {R : Nat → Bool} {l l' : Nat → Int} {out inn : List Nat} (h : Round n ar R l out) (hE : EvInv l (out.flatMap ar) l' inn) (hin : ∀ x ∈ inn, x < n) :
    Round n ar (fun x => R x && !decide (x ∈ out)) l' inn := by
  have hR : ∀ x ∈ out, R x = true := fun x hx => ((h.mem x).1 hx).2.1
  have hlt : ∀ x ∈ out, x < n := fun x hx => ((h.mem x).1 hx).1
  have hc : ∀ u, u < n → cnt ar (fun x => R x && !decide (x ∈ out)) u + (out.flatMap ar).count u = cnt ar R u := fun u hu => by
    rw [count_events G hu h.nodup hlt]
    exact cnt_less hR (ar u)
  refine ⟨fun u hu => ?_, hE.nodup, fun v => ?_, fun u hu hg => ?_⟩
  · rw [hE.left u, h.left u hu]
    have := hc u hu
    omega
  · rw [hE.mem v]
    constructor
    · rintro ⟨h1, h2⟩
      have hv : v < n := hin v ((hE.mem v).2 ⟨h1, h2⟩)
      have h3 := hc v hv
      rw [h.left v hv] at h1 h2
      refine ⟨hv, ?_, by omega⟩
      have hr : R v = true := by
        cases hr : R v with
        | true => rfl
        | false => have := h.gone v hv hr; omega
      have ho : v ∉ out := fun ho => by have := ((h.mem v).1 ho).2.2; omega
      simp [hr, ho]
    · rintro ⟨hv, hr, hle⟩
      have h3 := hc v hv
      simp only [Bool.and_eq_true, Bool.not_eq_true', decide_eq_false_iff_not] at hr
      have : ¬ cnt ar R v ≤ 1 := fun hle => hr.2 ((h.mem v).2 ⟨hv, hr.1, hle⟩)
      rw [h.left v hv]
      omega
  · have h3 := hc u hu
    cases hr : R u with
    | false => have := h.gone u hu hr; omega
    | true =>
      have ho : u ∈ out := by
        rw [hr] at hg
        simpa using hg
      have := ((h.mem u).1 ho).2.2
      omega
theorem round_start {n : Nat} {ar : Nat → List Nat} {l : Nat → Int} {out : List Nat} (hl : ∀ u, u < n → l u = ((ar u).length : Int)) (hn : out.Nodup) (hm : ∀ v, v ∈ out ↔ v < n ∧ l v ≤ 1) : Round n ar (fun _ => true) l out := by
  have hc : ∀ u, cnt ar (fun _ => true) u = (ar u).length := fun u => by simp [cnt]
  refine ⟨fun u hu => by rw [hl u hu, hc], hn, fun v => ?_, fun u _ h => by cases h⟩
  rw [hm v, hc]
  constructor
  · rintro ⟨h1, h2⟩; have := hl v h1; exact ⟨h1, rfl, by omega⟩
  · rintro ⟨h1, _, h2⟩; have := hl v h1; exact ⟨h1, by omega⟩
end M
end Go.Proofs.Ytcipafjibkclcaa
