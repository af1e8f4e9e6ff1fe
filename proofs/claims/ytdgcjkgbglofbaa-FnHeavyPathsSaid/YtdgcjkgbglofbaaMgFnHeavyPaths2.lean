/- Light steps are few, and heavy paths have each node once. Mathematics. -/
import Derived.Test.YtdgcjkgbglofbaaMgFnHeavyPaths1
import Derived.Shelf.RegionOpen
import Derived.Deep.DeepCutAuto
import Derived.BigRegion
import Derived.Laws.AppendOwnNone
import Derived.Lib.AppendZeros
import Derived.RangeFuncRecord
import Derived.WalkSpells
namespace Go.Proofs.Ytdgcjkgbglofbaa
namespace M
theorem hvTo_max {xs : List Int} (ht : isTree xs = true) {v d : Nat} (hd : xs[v]? = some (d : Int)) : ∀ k, k ≤ d → (∀ i, i < k → (span 1 (xs.drop (kidAt xs v i)) : Int) ≤ (hvTo xs v k).2) ∧
    (0 < k → ∃ j, j < k ∧ (hvTo xs v k).1 = (kidAt xs v j : Int) ∧ (hvTo xs v k).2 = (span 1 (xs.drop (kidAt xs v j)) : Int)) := by
  intro k
  induction k with
  | zero => intro _; exact ⟨fun i hi => by omega, fun h => by omega⟩
  | succ k ih =>
    intro hk
    obtain ⟨h1, h2⟩ := ih (by omega)
    have hp := span_pos (kid_lt ht hd (i := k) (by omega))
    rw [hvTo]
    split
    · rename_i hlt
      refine ⟨fun i hi => ?_, fun _ => ⟨k, by omega, rfl, rfl⟩⟩
      rcases Nat.lt_or_ge i k with h | h
      · have := h1 i h; simp only; omega
      · obtain rfl : i = k := by omega
        exact Int.le_refl _
    · rename_i hlt
      have hk0 : 0 < k := by
        rcases Nat.eq_zero_or_pos k with rfl | h
        · simp only [hvTo] at hlt; omega
        · exact h
      refine ⟨fun i hi => ?_, fun _ => ?_⟩
      · rcases Nat.lt_or_ge i k with h | h
        · exact h1 i h
        · obtain rfl : i = k := by omega
          omega
      · obtain ⟨j, a, b, c⟩ := h2 hk0
        exact ⟨j, by omega, b, c⟩
theorem kid_two {xs : List Int} {v i j : Nat} (h : i < j) : kidAt xs v i + span 1 (xs.drop (kidAt xs v i)) ≤ kidAt xs v j := by
  have := kid_le (xs := xs) (v := v) (show i + 1 ≤ j by omega)
  rw [kidAt] at this
  exact this
theorem kid_first {xs : List Int} (v i : Nat) : v + 1 ≤ kidAt xs v i := kid_le (xs := xs) (v := v) (show 0 ≤ i by omega)
/-- a light child has at most half of what is below its parent -/
theorem light_half {xs : List Int} (ht : isTree xs = true) {p v : Nat} (hk : IsKid xs p v) (hl : hvAt xs p ≠ (v : Int)) : 2 * span 1 (xs.drop v) ≤ span 1 (xs.drop p) := by
  obtain ⟨d, i, hd, hi, hv⟩ := hk
  subst hv
  rw [hvAt_eq hd] at hl
  obtain ⟨h1, h2⟩ := hvTo_max ht hd d (Nat.le_refl _)
  obtain ⟨j, hj, e1, e2⟩ := h2 (by omega)
  have hs := h1 i hi
  rw [e2] at hs
  rw [e1] at hl
  have he := kid_end ht hd
  have hij : i ≠ j := fun e => hl (by rw [e])
  rcases Nat.lt_or_ge i j with h | h
  · have a := kid_two (xs := xs) (v := p) h
    have b := kid_two (xs := xs) (v := p) hj
    have c := kid_first (xs := xs) p i
    omega
  · have a := kid_two (xs := xs) (v := p) (show j < i by omega)
    have b := kid_two (xs := xs) (v := p) hi
    have c := kid_first (xs := xs) p j
    omega
theorem kid_half {xs : List Int} (ht : isTree xs = true) {p v : Nat} (hk : IsKid xs p v) : span 1 (xs.drop v) ≤ span 1 (xs.drop p) := by
  obtain ⟨d, i, hd, hi, hv⟩ := hk
  subst hv
  have he := kid_end ht hd
  have b := kid_two (xs := xs) (v := p) hi
  have c := kid_first (xs := xs) p i
  omega
theorem light_pow {xs ps : List Int} (ht : isTree xs = true) (hp : ParsOK xs ps) (v : Nat) : v < xs.length → ∃ k : Nat, lightIn xs (upTo ps 0 v) = (k : Int) ∧ 2 ^ k * span 1 (xs.drop v) ≤ xs.length := by
  induction v using Nat.strongRecOn with
  | _ v ih =>
    intro hv
    rcases Nat.eq_zero_or_pos v with rfl | h0
    · refine ⟨0, lightIn_root xs ps, ?_⟩
      have := fin_root ht
      simp only [fin] at this
      omega
    · obtain ⟨p, hq, hlt, hk⟩ := par_has ht hp h0 hv
      obtain ⟨k, h1, h2⟩ := ih p hlt (by omega)
      have hst := lightIn_step ht hp h0 hv hq
      rw [isHeavy_par ht hp hv hq] at hst
      by_cases hh : hvAt xs p = (v : Int)
      · rw [if_pos (decide_eq_true hh), h1] at hst
        exact ⟨k, by omega, Nat.le_trans (Nat.mul_le_mul_left _ (kid_half ht hk)) h2⟩
      · rw [if_neg (by simp [hh]), h1] at hst
        refine ⟨k + 1, by omega, Nat.le_trans ?_ h2⟩
        rw [Nat.pow_succ, Nat.mul_assoc]
        exact Nat.mul_le_mul_left _ (light_half ht hk hh)
theorem lights_pow {xs ps : List Int} (ht : isTree xs = true) (hp : ParsOK xs ps) {v : Nat} (hv : v < xs.length) : ∃ k : Nat, lights xs v = (k : Int) ∧ 2 ^ k ≤ xs.length ∧ k ≤ 4 := by
  obtain ⟨k, h1, h2⟩ := light_pow ht hp v hv
  have hs := span_pos hv
  have h3 : 2 ^ k ≤ xs.length := Nat.le_trans (by have := Nat.mul_le_mul_left (2 ^ k) hs; omega) h2
  refine ⟨k, by rw [lights_up ht hp hv, h1], h3, ?_⟩
  rcases Nat.lt_or_ge 4 k with h | h
  · have := Nat.pow_le_pow_right (show 0 < 2 by omega) (show 5 ≤ k by omega)
    have := (tree_len ht).2
    omega
  · exact h
/-- a heavy path goes from node to heavy child, to a leaf -/
theorem hvPath_at {xs : List Int} (ht : isTree xs = true) : ∀ (k : Nat) {v : Nat}, v < xs.length → xs.length ≤ v + k → ∀ (j : Nat) (x : Int), (hvPath xs v)[j]? = some x →
    ∃ u : Nat, x = (u : Int) ∧ v ≤ u ∧ u < xs.length ∧ (j + 1 = (hvPath xs v).length → hvAt xs u = -1) ∧ (∀ y, (hvPath xs v)[j + 1]? = some y → hvAt xs u = y) := by
  intro k
  induction k with
  | zero => intro v h h1; omega
  | succ k ih =>
    intro v h h1 j x hx
    rcases hvAt_lt ht h with h3 | ⟨c, h3, h4, h5⟩
    · rw [hvPath_end h h3] at hx ⊢
      cases j with
      | zero =>
        simp at hx
        exact ⟨v, by omega, Nat.le_refl _, h, fun _ => h3, fun y hy => by simp at hy⟩
      | succ j => simp at hx
    · rw [hvPath_step ht h h3] at hx ⊢
      cases j with
      | zero =>
        simp at hx
        refine ⟨v, by omega, Nat.le_refl _, h, fun e => ?_, fun y hy => ?_⟩
        · have : 0 < (hvPath xs c).length := by
            rcases hvAt_lt ht h5 with h6 | ⟨c', h6, _, _⟩
            · rw [hvPath_end h5 h6]; simp
            · rw [hvPath_step ht h5 h6]; simp
          simp at e
          rw [e] at this
          simp at this
        · rw [List.getElem?_cons_succ] at hy
          have : (hvPath xs c)[0]? = some (c : Int) := by
            rcases hvAt_lt ht h5 with h6 | ⟨c', h6, _, _⟩
            · rw [hvPath_end h5 h6]; simp
            · rw [hvPath_step ht h5 h6]; simp
          rw [this] at hy
          injection hy with hy
          omega
      | succ j =>
        rw [List.getElem?_cons_succ] at hx
        obtain ⟨u, e, h6, h7, h8, h9⟩ := ih h5 (by omega) j x hx
        refine ⟨u, e, by omega, h7, fun e => h8 (by simp at e; exact e), fun y hy => h9 y (by rw [List.getElem?_cons_succ] at hy; exact hy)⟩
theorem hvPath_head {xs : List Int} (ht : isTree xs = true) {v : Nat} (hv : v < xs.length) : (hvPath xs v)[0]? = some (v : Int) := by
  rcases hvAt_lt ht hv with h6 | ⟨c', h6, _, _⟩
  · rw [hvPath_end hv h6]; simp
  · rw [hvPath_step ht hv h6]; simp
theorem hvPath_mem {xs : List Int} (ht : isTree xs = true) {v : Nat} (hv : v < xs.length) {u : Nat} : (u : Int) ∈ hvPath xs v ↔ u = v ∨ ∃ p : Nat, p < xs.length ∧ (p : Int) ∈ hvPath xs v ∧ hvAt xs p = (u : Int) := by
  constructor
  · intro h
    obtain ⟨j, hj⟩ := List.getElem?_of_mem h
    cases j with
    | zero =>
      rw [hvPath_head ht hv] at hj
      injection hj with hj
      exact .inl (by omega)
    | succ j =>
      have hl := (List.getElem?_eq_some_iff.1 hj).1
      have hx := List.getElem?_eq_getElem (l := hvPath xs v) (show j < (hvPath xs v).length by omega)
      obtain ⟨p, e, _, h7, _, h9⟩ := hvPath_at ht xs.length hv (by omega) j _ hx
      refine .inr ⟨p, h7, ?_, h9 _ hj⟩
      rw [← e]; exact List.mem_of_getElem? hx
  · rintro (rfl | ⟨p, _, h, e⟩)
    · exact List.mem_of_getElem? (hvPath_head ht hv)
    · obtain ⟨j, hj⟩ := List.getElem?_of_mem h
      obtain ⟨q, e', _, h7, h8, h9⟩ := hvPath_at ht xs.length hv (by omega) j _ hj
      obtain rfl : q = p := by omega
      have hl := (List.getElem?_eq_some_iff.1 hj).1
      rcases Nat.lt_or_ge (j + 1) (hvPath xs v).length with h10 | h10
      · have hy := List.getElem?_eq_getElem h10
        have := h9 _ hy
        rw [e] at this
        rw [this]
        exact List.mem_of_getElem? hy
      · have := h8 (by omega)
        omega
theorem heavy_of {xs : List Int} {p u : Nat} (hp : p < xs.length) (h : hvAt xs p = (u : Int)) : isHeavy xs u = true :=
  decide_eq_true (h ▸ List.mem_of_getElem? (heavy_at xs hp))
theorem hvPath_apart {xs : List Int} (ht : isTree xs = true) {a b : Nat} (ha : a < xs.length) (hb : b < xs.length) (la : isHeavy xs a = false) (lb : isHeavy xs b = false) (u : Nat) : (u : Int) ∈ hvPath xs a → (u : Int) ∈ hvPath xs b → a = b := by
  induction u using Nat.strongRecOn with
  | _ u ih =>
    intro h1 h2
    rcases (hvPath_mem ht ha).1 h1 with e | ⟨p, hp, h3, h4⟩
    · rcases (hvPath_mem ht hb).1 h2 with e' | ⟨q, hq, h5, h6⟩
      · omega
      · have := heavy_of hq h6
        rw [e, la] at this; cases this
    · rcases (hvPath_mem ht hb).1 h2 with e' | ⟨q, hq, h5, h6⟩
      · have := heavy_of hp h4
        rw [e', lb] at this; cases this
      · have k1 : IsKid xs p u ∧ p < u := by
          rcases hvAt_kid ht hp with h | ⟨c, h, hk⟩
          · omega
          · obtain rfl : c = u := by omega
            exact ⟨hk, (kid_bounds ht hk).1⟩
        have k2 : IsKid xs q u := by
          rcases hvAt_kid ht hq with h | ⟨c, h, hk⟩
          · omega
          · obtain rfl : c = u := by omega
            exact hk
        obtain rfl := kid_unique ht k1.1 k2
        exact ih p k1.2 h3 h5
theorem hvPath_cover {xs : List Int} (ht : isTree xs = true) (u : Nat) : u < xs.length → ∃ a, a < xs.length ∧ isHeavy xs a = false ∧ (u : Int) ∈ hvPath xs a := by
  induction u using Nat.strongRecOn with
  | _ u ih =>
    intro hu
    cases hh : isHeavy xs u
    · exact ⟨u, hu, hh, (hvPath_mem ht hu).2 (.inl rfl)⟩
    · have hm := of_decide_eq_true hh
      obtain ⟨p, hp⟩ := List.getElem?_of_mem hm
      have hl := (List.getElem?_eq_some_iff.1 hp).1
      rw [heavy_len] at hl
      rw [heavy_at xs hl] at hp
      injection hp with hp
      have hlt : p < u := by
        rcases hvAt_lt ht hl with h | ⟨c, h, h1, _⟩
        · omega
        · omega
      obtain ⟨a, h1, h2, h3⟩ := ih p hlt hl
      exact ⟨a, h1, h2, (hvPath_mem ht h1).2 (.inr ⟨p, hl, h3, hp⟩)⟩
theorem hvPaths_mem {xs : List Int} {k : Nat} {zs : List Int} : zs ∈ hvPaths xs k ↔ ∃ a, a < k ∧ isHeavy xs a = false ∧ zs = hvPath xs a := by
  induction k with
  | zero => simp [hvPaths]
  | succ k ih =>
    rw [hvPaths]
    split
    · rename_i hh
      rw [ih]
      constructor
      · rintro ⟨a, h1, h2, h3⟩; exact ⟨a, by omega, h2, h3⟩
      · rintro ⟨a, h1, h2, h3⟩
        refine ⟨a, ?_, h2, h3⟩
        rcases Nat.lt_or_ge a k with h | h
        · exact h
        · obtain rfl : a = k := by omega
          rw [hh] at h2; cases h2
    · rename_i hh
      rw [List.mem_append, ih, List.mem_singleton]
      constructor
      · rintro (⟨a, h1, h2, h3⟩ | rfl)
        · exact ⟨a, by omega, h2, h3⟩
        · exact ⟨k, by omega, by simpa using hh, rfl⟩
      · rintro ⟨a, h1, h2, h3⟩
        rcases Nat.lt_or_ge a k with h | h
        · exact .inl ⟨a, h, h2, h3⟩
        · obtain rfl : a = k := by omega
          exact .inr h3
theorem hvPath_nodup {xs : List Int} (ht : isTree xs = true) : ∀ (k : Nat) {v : Nat}, v < xs.length → xs.length ≤ v + k → (hvPath xs v).Nodup := by
  intro k
  induction k with
  | zero => intro v h h1; omega
  | succ k ih =>
    intro v h h1
    rcases hvAt_lt ht h with h3 | ⟨c, h3, h4, h5⟩
    · rw [hvPath_end h h3]; simp
    · rw [hvPath_step ht h h3, List.nodup_cons]
      refine ⟨fun hm => ?_, ih h5 (by omega)⟩
      obtain ⟨j, hj⟩ := List.getElem?_of_mem hm
      obtain ⟨u, e, h6, _⟩ := hvPath_at ht xs.length h5 (by omega) j _ hj
      omega
theorem hvPaths_nodup {xs : List Int} (ht : isTree xs = true) : ∀ k, k ≤ xs.length → (hvPaths xs k).flatten.Nodup := by
  intro k
  induction k with
  | zero => intro _; simp [hvPaths]
  | succ k ih =>
    intro hk
    cases hh : isHeavy xs k
    · rw [hvPaths_miss hh, List.flatten_append, List.flatten_singleton, List.nodup_append]
      refine ⟨ih (by omega), hvPath_nodup ht xs.length (show k < xs.length by omega) (by omega), fun x hx y hy e => ?_⟩
      subst e
      obtain ⟨zs, hz, hxz⟩ := List.mem_flatten.1 hx
      obtain ⟨a, h1, h2, rfl⟩ := hvPaths_mem.1 hz
      obtain ⟨j, hj⟩ := List.getElem?_of_mem hy
      obtain ⟨u, e, _⟩ := hvPath_at ht xs.length (show k < xs.length by omega) (by omega) j _ hj
      subst e
      have := hvPath_apart ht (show a < xs.length by omega) (show k < xs.length by omega) h2 hh u hxz hy
      omega
    · rw [hvPaths_hit hh]; exact ih (by omega)
theorem hvPaths_all {xs : List Int} (ht : isTree xs = true) {u : Nat} (hu : u < xs.length) : (u : Int) ∈ (hvPaths xs xs.length).flatten := by
  obtain ⟨a, h1, h2, h3⟩ := hvPath_cover ht u hu
  exact List.mem_flatten.2 ⟨_, hvPaths_mem.2 ⟨a, h1, h2, rfl⟩, h3⟩
theorem anc_below {xs ps : List Int} (ht : isTree xs = true) (hp : ParsOK xs ps) {v : Nat} (hv : v < xs.length) : ∀ j, j < (way xs v 0).length → ∃ a : Nat, a < xs.length ∧ Anc ps (way xs v 0) j a ∧ a ≤ v ∧ v < fin xs a := by
  intro j
  induction j with
  | zero => intro _; exact ⟨v, hv, anc_zero ht hp hv, Nat.le_refl _, fin_gt hv⟩
  | succ j ih =>
    intro hj
    obtain ⟨a, h1, h2, h3, h4⟩ := ih (by omega)
    rcases Nat.eq_zero_or_pos a with rfl | h0
    · have := anc_root h2; omega
    · obtain ⟨p, hq, hlt, hk⟩ := par_has ht hp h0 h1
      have hb := kid_bounds ht hk
      have hn := nest ht (show p < xs.length by omega) (Nat.le_of_lt hb.1) hb.2.1
      exact ⟨p, by omega, anc_step ht hp h0 h1 hq h2, by omega, by omega⟩
/-- what stands above a node has it below itself -/
theorem anc_isBelow {xs ps : List Int} (ht : isTree xs = true) (hp : ParsOK xs ps) {v k a : Int} (h : ancestorOf xs v k = (a, 0)) : isBelow xs v a = (true, 0) := by
  have hc : code xs [v] = 0 := by
    by_cases hc : code xs [v] = 0
    · exact hc
    · rw [ancestorOf_no hc] at h
      injection h with _ h
  obtain ⟨h0, hv, _⟩ := code_node hc
  obtain ⟨vn, rfl⟩ := Int.eq_ofNat_of_zero_le h0
  simp only [Int.toNat_natCast] at hv
  by_cases hk : 0 ≤ k ∧ k ≤ 24
  · obtain ⟨kn, rfl⟩ := Int.eq_ofNat_of_zero_le hk.1
    rcases Nat.lt_or_ge kn (way xs vn 0).length with hw | hw
    · obtain ⟨b, h1, h2, h3, h4⟩ := anc_below ht hp hv kn hw
      have hat := anc_at ht hp h1 h2
      rw [ancestorOf_some hc (by omega) hat] at h
      injection h with h
      subst h
      have hcc : code xs [(vn : Int), (b : Int)] = 0 := by
        rw [code, if_pos ht, codeGo, if_neg (by omega), codeGo, if_neg (by omega)]; rfl
      have hb : below xs vn b = true := by
        rw [fin] at h4
        simp only [below, Int.toNat_natCast, Bool.and_eq_true, decide_eq_true_eq]
        omega
      rw [isBelow_yes hcc, hb]
    · rw [ancestorOf_none hc (by omega) hw] at h
      injection h with _ h
      cases h
  · rw [ancestorOf_range hc hk] at h
    injection h with _ h
    cases h
theorem anc_isBelow' {xs : List Int} {v k a : Int} (h : ancestorOf xs v k = (a, 0)) : isBelow xs v a = (true, 0) := by
  have hc : code xs [v] = 0 := by
    by_cases hc : code xs [v] = 0
    · exact hc
    · rw [ancestorOf_no hc] at h
      injection h with _ h
  obtain ⟨ps, hp⟩ := pars_ex (code_tree hc)
  exact anc_isBelow (code_tree hc) hp h
theorem light_facts {xs : List Int} {v L : Int} (h : lightSteps xs v = (L, 0)) : ∃ vn k S : Nat, v = (vn : Int) ∧ vn < xs.length ∧ isTree xs = true ∧ L = (k : Int) ∧ k ≤ 4 ∧ 2 ^ k ≤ xs.length ∧
    intervalOf xs v = ((vn : Int), (vn : Int) + (S : Int) - 1, 0) ∧ (sizes xs xs.length)[vn]? = some (S : Int) ∧ S ≤ 24 := by
  have hc : code xs [v] = 0 := by
    by_cases hc : code xs [v] = 0
    · exact hc
    · rw [lightSteps_no hc] at h
      injection h with _ h
  have ht := code_tree hc
  obtain ⟨h0, hv, _⟩ := code_node hc
  obtain ⟨vn, rfl⟩ := Int.eq_ofNat_of_zero_le h0
  simp only [Int.toNat_natCast] at hv
  obtain ⟨ps, hp⟩ := pars_ex ht
  obtain ⟨k, h1, h2, h3⟩ := lights_pow ht hp hv
  rw [lightSteps_yes hc] at h
  injection h with h
  have hs := span_le (xs.drop vn) 1
  rw [List.length_drop] at hs
  have := (tree_len ht).2
  exact ⟨vn, k, _, rfl, hv, ht, by omega, h3, h2, intervalOf_yes hc, sizes_at xs hv, by omega⟩
theorem flat_at {P : List (List Int)} {k j : Nat} {zs : List Int} {x : Int} (h : P[k]? = some zs) (hj : zs[j]? = some x) : P.flatten[(P.take k).flatten.length + j]? = some x := by
  obtain ⟨hk, rfl⟩ := List.getElem?_eq_some_iff.1 h
  have e : P.flatten = (P.take k).flatten ++ (P[k] ++ (P.drop (k + 1)).flatten) := by
    conv => lhs; rw [← List.take_append_drop k P, List.drop_eq_getElem_cons hk]
    rw [List.flatten_append, List.flatten_cons]
  rw [e, List.getElem?_append_right (by omega), Nat.add_sub_cancel_left, List.getElem?_append_left (List.getElem?_eq_some_iff.1 hj).1]
  exact hj
theorem flat_next {P : List (List Int)} {k : Nat} {zs : List Int} (h : P[k]? = some zs) : (P.take (k + 1)).flatten.length = (P.take k).flatten.length + zs.length := by
  obtain ⟨hk, rfl⟩ := List.getElem?_eq_some_iff.1 h
  rw [List.take_succ_eq_append_getElem hk, List.flatten_append, List.length_append]
  simp
theorem nodup_new {l : List Int} (h : l.Nodup) {k : Nat} {x : Int} (hx : l[k]? = some x) : x ∉ l.take k := by
  obtain ⟨hk, rfl⟩ := List.getElem?_eq_some_iff.1 hx
  intro hm
  have e : l = l.take k ++ l[k] :: l.drop (k + 1) := by rw [← List.drop_eq_getElem_cons hk, List.take_append_drop]
  rw [e, List.nodup_append] at h
  exact h.2.2 _ hm _ (List.mem_cons_self ..) rfl
/-- what the law asks of a heavy path -/
theorem path_facts {xs : List Int} (ht : isTree xs = true) {k : Nat} {zs : List Int} (h : (hvPaths xs xs.length)[k]? = some zs) :
    1 ≤ zs.length ∧ zs.length ≤ 24 ∧ ∀ j x, zs[j]? = some x → ∃ u : Nat, x = (u : Int) ∧ u < xs.length ∧ (j + 1 = zs.length → hvAt xs u = -1) ∧ (∀ y, zs[j + 1]? = some y → hvAt xs u = y) := by
  obtain ⟨a, h1, h2, rfl⟩ := hvPaths_mem.1 (List.mem_of_getElem? h)
  refine ⟨?_, hvPath_le ht h1, fun j x hx => ?_⟩
  · have := (List.getElem?_eq_some_iff.1 (hvPath_head ht h1)).1; omega
  · obtain ⟨u, e, _, h3, h4, h5⟩ := hvPath_at ht xs.length h1 (by omega) j x hx
    exact ⟨u, e, h3, h4, h5⟩
end M
end Go.Proofs.Ytdgcjkgbglofbaa

/- Rows of rows in memory: a slice whose elements are slices of numbers, each in a block of its own; append of one row. -/
namespace Go.Proofs.Ytdgcjkgbglofbaa
open Go.RowKit

theorem infoRow : (Try.prog.info? 24).map (fun i => (i.zero, i.size, i.bytes)) = some (some (.slice none 0 0), 1, 24) := by kernel_rfl

abbrev rowV (m : Nat) (g : Nat) : Value := .slice (some ⟨g, 0, none⟩) m m
/-- the slice value v has k rows of m numbers: row l is R l; all lies from block B on -/
def Grid (w : World) (B : Nat) (v : Value) (m : Nat) (R : Nat → List Int) (k : Nat) : Prop :=
  ∃ gs : List Nat, gs.length = k ∧ w.ownsRow B 24 1 v k (gs.map (rowV m)) ∧ ∀ (l g : Nat), gs[l]? = some g → (R l).length = m ∧ Own64 w B (rowV m g) (R l) ∧ v.ownBlock ≠ some g

theorem Grid.be {w w' : World} {B : Nat} {v : Value} {m k : Nat} {R : Nat → List Int} (h : Grid w B v m R k) (hb : Below w.heap.size w w') : Grid w' B v m R k := by
  obtain ⟨gs, h1, h2, h3⟩ := h
  exact ⟨gs, h1, own_be h2 hb, fun l g hg => ⟨(h3 l g hg).1, own_be (h3 l g hg).2.1 hb, (h3 l g hg).2.2⟩⟩
theorem Grid.mono {w : World} {B B' : Nat} {v : Value} {m k : Nat} {R : Nat → List Int} (h : Grid w B v m R k) (hB : B' ≤ B) : Grid w B' v m R k := by
  obtain ⟨gs, h1, h2, h3⟩ := h
  exact ⟨gs, h1, own_mono h2 hB, fun l g hg => ⟨(h3 l g hg).1, own_mono (h3 l g hg).2.1 hB, (h3 l g hg).2.2⟩⟩
theorem Grid.shape {w : World} {B : Nat} {v : Value} {m k : Nat} {R : Nat → List Int} (h : Grid w B v m R k) : ∃ A c, v = .slice A k c := by
  obtain ⟨gs, h1, h2, h3⟩ := h
  exact own_shape h2
theorem Grid.shape1 {w : World} {B : Nat} {A : Option Addr} {n c : Nat} {m k : Nat} {R : Nat → List Int} (h : Grid w B (.slice A n c) m R k) (hk : 0 < k) : n = k ∧ ∃ g, A = some ⟨g, 0, none⟩ := by
  obtain ⟨gs, h1, h2, h3⟩ := h
  rcases h2.2 with ⟨h0, h4⟩ | ⟨g, cap, cur, hv, _⟩
  · omega
  · injection hv with e1 e2; exact ⟨e2, g, e1⟩
/-- a cell: the row's value, and the number in it -/
theorem Grid.at_ {w : World} {B : Nat} {G n c : Nat} {m k : Nat} {R : Nat → List Int} (h : Grid w B (.slice (some ⟨G, 0, none⟩) n c) m R k) {l : Nat} (hl : l < k) :
    ∃ g, w.cell? ⟨G, l, none⟩ = some (rowV m g) ∧ ∀ (j : Nat) (x : Int), (R l)[j]? = some x → w.cell? ⟨g, j, none⟩ = some (.int .i64 x) := by
  obtain ⟨gs, h1, h2, h3⟩ := h
  obtain ⟨g, hg⟩ : ∃ g, gs[l]? = some g := ⟨_, List.getElem?_eq_getElem (by omega)⟩
  refine ⟨g, ?_, fun j x hx => (own64_cell (h3 l g hg).2.1 (h3 l g hg).1 hx).1⟩
  have := h2.cells (g := G) rfl l (rowV m g) (by simp [hg])
  have ha : (⟨G, 0, none⟩ : Addr).add l = ⟨G, l, none⟩ := by unfold Addr.add; split <;> simp_all
  rw [ha] at this
  exact this

theorem grid_empty {w : World} {B : Nat} (hB : B ≤ w.heap.size) (m : Nat) (R : Nat → List Int) : Grid (w.alloc (.cells #[] 24)) B (.slice (some ⟨w.heap.size, 0, none⟩) 0 0) m R 0 :=
  ⟨[], rfl, World.ownsRow_made (e := 24) (size := 1) w #[] 0 hB (by simp [maxLen]) (by simp), fun l g h => by simp at h⟩

set_option maxRecDepth 100000 in
theorem pushRow {ops : Array Oper} {rest : List Oper} {o : Oper} {a : Act} {Q : Exit → Act → World → Prop} (hgd : o.guard = none) (s x : Operand)
    (ho : o.op = .call { callee := .builtin .append, args := #[s, x], argTypes := #[74, 74] }) (w : World) (B : Nat) (A : Option Addr) (n c m : Nat) (R : Nat → List Int) (g : Nat)
    (hs : a.eval s = .slice A n c) (hx : a.eval x = .slice (some ⟨w.heap.size, 0, none⟩) 1 1) (ht : Hid (Grid w B (.slice A n c) m R n)) (hrow : Hid (Own64 w B (rowV m g) (R n))) (hm : (R n).length = m) (hne : Hid ((Value.slice A n c).ownBlock ≠ some g)) (hB : B ≤ w.heap.size) (hlen : n ≤ 1000000)
    (h : ∀ A' c' w', Hid (Grid w' B (.slice A' (n + 1) c') m R (n + 1)) → Hid (Below B w w') → wpList Try.prog ops Q rest (a.put o.dst (.slice A' (n + 1) c')) w') :
    wpList Try.prog ops Q (o :: rest) a (w.alloc (.cells #[rowV m g] 24)) := by
  obtain ⟨i0, hi0, hz0, hz1, hz2⟩ := info_parts infoRow
  obtain ⟨gs, h1, h2, h3⟩ := ht.out
  refine wpList_append_own_at _ hgd s x 74 ho B 24 i0 (.slice none 0 0) 1 24 Try.underlying74 hi0 hz0 hz1 hz2 rfl (by decide) _ n (gs.map (rowV m)) hs (h2.alloc _) ⟨w.heap.size, 0, none⟩ 1 1 [rowV m g] hx rfl (cell_one_new _ _ _) ?_ ?_ ?_ ?_ ?_
  · intro u hu; simp at hu; subst hu; rfl
  · unfold maxLen; omega
  · omega
  · simp; omega
  · intro v' w1 hown1 hg1 _ hat
    obtain ⟨A', c', rfl⟩ : ∃ A' c', v' = .slice A' (n + 1) c' := own_shape hown1
    have hkeep : ∀ (q : Nat) (l : List Int), Own64 w B (rowV m q) l → (Value.slice A n c).ownBlock ≠ some q → Own64 w1 B (rowV m q) l ∧ (Value.slice A' (n + 1) c').ownBlock ≠ some q := fun q l ho hq => by
      refine ⟨(ho.alloc _).kept hg1 (.inr fun e => hq e.symm), fun e => ?_⟩
      rcases hat with e1 | e1
      · exact hq (e1 ▸ e)
      · have h4 := ho.lt q rfl
        rw [e] at e1
        injection e1 with e1
        simp at e1
        omega
    refine h A' c' w1 ⟨gs ++ [g], by simp [h1], by rw [List.map_append]; exact hown1, fun l q hq => ?_⟩ ?_
    · rcases Nat.lt_or_ge l n with hl | hl
      · rw [List.getElem?_append_left (by omega)] at hq
        obtain ⟨a1, a2, a3⟩ := h3 l q hq
        obtain ⟨b1, b2⟩ := hkeep q _ a2 a3
        exact ⟨a1, b1, b2⟩
      · rw [List.getElem?_append_right (by omega), h1] at hq
        have hl2 : l - n = 0 := by
          rcases Nat.eq_zero_or_pos (l - n) with e | e
          · exact e
          · rw [List.getElem?_eq_none (by simp; omega)] at hq; cases hq
        rw [hl2] at hq
        injection hq with hq
        subst hq
        obtain rfl : l = n := by omega
        obtain ⟨b1, b2⟩ := hkeep g _ hrow.out hne.out
        exact ⟨hm, b1, b2⟩
    · exact ((Below.refl B w).alloc hB _).grown hg1 (by simp; omega) (fun k hk => (h2.lt k hk).1)
end Go.Proofs.Ytdgcjkgbglofbaa

/- Tables in memory: a slice whose elements are slices of numbers, of any lengths, each owned, none in the table's block; read, append of one row, a row put in. -/
namespace Go.Proofs.Ytdgcjkgbglofbaa
open Go.RowKit

/-- the slice value v has the rows Rs, all from block B on -/
def Tab (w : World) (B : Nat) (v : Value) (Rs : List (List Int)) : Prop :=
  ∃ hs : List Value, hs.length = Rs.length ∧ w.ownsRow B 24 1 v hs.length hs ∧ ∀ (i : Nat) (h : Value) (R : List Int), hs[i]? = some h → Rs[i]? = some R → (∃ A c, h = .slice A R.length c) ∧ Own64 w B h R ∧ ∀ b, v.ownBlock = some b → h.ownBlock ≠ some b
theorem Tab.be {w w' : World} {B : Nat} {v : Value} {Rs : List (List Int)} (h : Tab w B v Rs) (hb : Below w.heap.size w w') : Tab w' B v Rs := by
  obtain ⟨hs, h1, h2, h3⟩ := h
  exact ⟨hs, h1, own_be h2 hb, fun i h R e1 e2 => ⟨(h3 i h R e1 e2).1, own_be (h3 i h R e1 e2).2.1 hb, (h3 i h R e1 e2).2.2⟩⟩
theorem Tab.mono {w : World} {B B' : Nat} {v : Value} {Rs : List (List Int)} (h : Tab w B v Rs) (hB : B' ≤ B) : Tab w B' v Rs := by
  obtain ⟨hs, h1, h2, h3⟩ := h
  exact ⟨hs, h1, own_mono h2 hB, fun i h R e1 e2 => ⟨(h3 i h R e1 e2).1, own_mono (h3 i h R e1 e2).2.1 hB, (h3 i h R e1 e2).2.2⟩⟩
theorem Tab.drew {w : World} {B : Nat} {v : Value} {Rs : List (List Int)} (h : Tab w B v Rs) : Tab w.drew B v Rs := h
theorem Tab.len {w : World} {B n c : Nat} {A : Option Addr} {Rs : List (List Int)} (h : Tab w B (.slice A n c) Rs) : n = Rs.length := by
  obtain ⟨hs, h1, h2, h3⟩ := h
  rcases h2.2 with ⟨h0, h4⟩ | ⟨g, cap, cur, hv, _⟩
  · injection h0 with _ e _; omega
  · injection hv with _ e _; omega
theorem Tab.some_ {w : World} {B n c : Nat} {A : Option Addr} {Rs : List (List Int)} (h : Tab w B (.slice A n c) Rs) (hn : 0 < n) : ∃ g, A = some ⟨g, 0, none⟩ := by
  obtain ⟨hs, h1, h2, h3⟩ := h
  rcases h2.2 with ⟨h0, h4⟩ | ⟨g, cap, cur, hv, _⟩
  · injection h0 with _ e _; omega
  · injection hv with e; exact ⟨g, e⟩
/-- a row: its header in the table, and what it reads -/
theorem Tab.at_ {w : World} {B G n c : Nat} {Rs : List (List Int)} (h : Tab w B (.slice (some ⟨G, 0, none⟩) n c) Rs) {i : Nat} {R : List Int} (hR : Rs[i]? = some R) :
    ∃ A c', w.cell? ⟨G, i, none⟩ = some (.slice A R.length c') ∧ Own64 w B (.slice A R.length c') R ∧ G < w.heap.size := by
  obtain ⟨hs, h1, h2, h3⟩ := h
  obtain ⟨v, hv⟩ : ∃ v, hs[i]? = some v := ⟨_, List.getElem?_eq_getElem (by have := (List.getElem?_eq_some_iff.1 hR).1; omega)⟩
  obtain ⟨⟨A, c', rfl⟩, ho, hne⟩ := h3 i v R hv hR
  refine ⟨A, c', ?_, ho, (World.ownsRow.lt h2 G rfl).2⟩
  have := h2.cells (g := G) rfl i _ hv
  have ha : (⟨G, 0, none⟩ : Addr).add i = ⟨G, i, none⟩ := by unfold Addr.add; split <;> simp_all
  rw [ha] at this
  exact this
theorem Tab.lt {w : World} {B : Nat} {v : Value} {Rs : List (List Int)} (h : Tab w B v Rs) {b : Nat} (hb : v.ownBlock = some b) : B ≤ b ∧ b < w.heap.size := by
  obtain ⟨hs, h1, h2, h3⟩ := h
  exact h2.lt b hb
theorem tab_empty {w : World} {B : Nat} (hB : B ≤ w.heap.size) : Tab (w.alloc (.cells #[] 24)) B (.slice (some ⟨w.heap.size, 0, none⟩) 0 0) [] :=
  ⟨[], rfl, World.ownsRow_made (e := 24) (size := 1) w #[] 0 hB (by simp [maxLen]) (by simp), fun i h R e => by simp at e⟩

set_option maxRecDepth 100000 in
theorem pushTab {ops : Array Oper} {rest : List Oper} {o : Oper} {a : Act} {Q : Exit → Act → World → Prop} (hgd : o.guard = none) (s x : Operand)
    (ho : o.op = .call { callee := .builtin .append, args := #[s, x], argTypes := #[74, 74] }) (w : World) (B : Nat) (A : Option Addr) (n c : Nat) (Rs : List (List Int)) (A1 : Option Addr) (m c1 : Nat) (R : List Int)
    (hs : a.eval s = .slice A n c) (N : Nat) (hx : a.eval x = .slice (some ⟨N, 0, none⟩) 1 1) (hN : N = w.heap.size) (ht : Hid (Tab w B (.slice A n c) Rs)) (hrow : Hid (Own64 w B (.slice A1 m c1) R)) (hm : Hid (R.length = m)) (hne : Hid (∀ b, (Value.slice A n c).ownBlock = some b → (Value.slice A1 m c1).ownBlock ≠ some b)) (hB : B ≤ w.heap.size) (hlen : n ≤ 1000000)
    (h : ∀ A' c' w', Hid (Tab w' B (.slice A' (n + 1) c') (Rs ++ [R])) → Hid (Below B w w') → wpList Try.prog ops Q rest (a.put o.dst (.slice A' (n + 1) c')) w') :
    wpList Try.prog ops Q (o :: rest) a (w.alloc (.cells #[.slice A1 m c1] 24)) := by
  obtain ⟨i0, hi0, hz0, hz1, hz2⟩ := info_parts infoRow
  have hnl := Tab.len ht.out
  obtain ⟨hs', h1, h2, h3⟩ := ht.out
  have hnh : hs'.length = n := by omega
  rw [hnh] at h2
  subst hN
  refine wpList_append_own_at _ hgd s x 74 ho B 24 i0 (.slice none 0 0) 1 24 Try.underlying74 hi0 hz0 hz1 hz2 rfl (by decide) _ n hs' hs (h2.alloc _) ⟨w.heap.size, 0, none⟩ 1 1 [.slice A1 m c1] hx rfl (cell_one_new _ _ _) ?_ ?_ ?_ ?_ ?_
  · intro u hu; simp at hu; subst hu; rfl
  · unfold maxLen; omega
  · omega
  · simp; omega
  · intro v' w1 hown1 hg1 _ hat
    obtain ⟨A', c', rfl⟩ : ∃ A' c', v' = .slice A' (n + 1) c' := own_shape hown1
    have hkeep : ∀ (q : Value) (l : List Int), (∃ A c, q = .slice A l.length c) → Own64 w B q l → (∀ b, (Value.slice A n c).ownBlock = some b → q.ownBlock ≠ some b) → Own64 w1 B q l ∧ ∀ b, (Value.slice A' (n + 1) c').ownBlock = some b → q.ownBlock ≠ some b := fun q l _ ho hq => by
      refine ⟨(ho.alloc _).kept hg1 ?_, fun b hb e => ?_⟩
      · cases hv : q.ownBlock with
        | none => exact .inl rfl
        | some k => exact .inr fun e => hq k e.symm hv
      · rcases hat with e1 | e1
        · exact hq b (e1 ▸ hb) e
        · have h4 := ho.lt b e
          rw [hb] at e1
          injection e1 with e1
          simp at e1
          omega
    refine h A' c' w1 ⟨hs' ++ [.slice A1 m c1], by simp [h1], by rw [List.length_append, hnh]; exact hown1, fun i q l hq hl => ?_⟩ ?_
    · rcases Nat.lt_or_ge i n with hi | hi
      · rw [List.getElem?_append_left (by omega)] at hq hl
        obtain ⟨a1, a2, a3⟩ := h3 i q l hq hl
        obtain ⟨b1, b2⟩ := hkeep q l a1 a2 a3
        exact ⟨a1, b1, b2⟩
      · rw [List.getElem?_append_right (by omega)] at hq hl
        have hi2 : i - hs'.length = 0 := by
          rcases Nat.eq_zero_or_pos (i - hs'.length) with e | e
          · exact e
          · rw [List.getElem?_eq_none (by simp; omega)] at hq; cases hq
        rw [hi2] at hq
        rw [show i - Rs.length = 0 by omega] at hl
        injection hq with hq
        injection hl with hl
        subst hq
        subst hl
        have hsh : ∃ A c, Value.slice A1 m c1 = .slice A R.length c := ⟨A1, c1, by rw [hm.out]⟩
        obtain ⟨b1, b2⟩ := hkeep _ R hsh hrow.out hne.out
        exact ⟨hsh, b1, b2⟩
    · exact ((Below.refl B w).alloc hB _).grown hg1 (by simp; omega) (fun k hk => (h2.lt k hk).1)
/-- a table of n rows of no numbers, just made -/
theorem tab_made {w : World} {B n : Nat} (hB : B ≤ w.heap.size) (hn : n ≤ maxLen) :
    Tab (w.alloc (.cells (madeCells #[.slice none 0 0] n) 24)) B (.slice (some ⟨w.heap.size, 0, none⟩) n n) (List.replicate n []) := by
  have h := World.ownsRow_lit (e := 24) (size := 1) w (madeCells #[.slice none 0 0] n) n hB hn (by simp [size_madeCells])
  rw [toList_madeCells_one] at h
  refine ⟨List.replicate n (.slice none 0 0), by simp, by simpa using h, fun i v R e1 e2 => ?_⟩
  rw [List.getElem?_replicate] at e1 e2
  split at e1
  · rename_i hi
    rw [if_pos hi] at e2
    injection e1 with e1
    injection e2 with e2
    subst e1
    subst e2
    exact ⟨⟨none, 0, rfl⟩, own64_nil _ _, fun b _ => by simp [Value.ownBlock]⟩
  · cases e1
/-- a row put in at place i -/
theorem Tab.set {w : World} {B G n c i : Nat} {Rs : List (List Int)} (h : Tab w B (.slice (some ⟨G, 0, none⟩) n c) Rs) {A1 : Option Addr} {c1 : Nat} {R : List Int} (ho : Own64 w B (.slice A1 R.length c1) R) (hne : ∀ b, (Value.slice A1 R.length c1).ownBlock = some b → b ≠ G) :
    Tab (w.setCell ⟨G, i, none⟩ (.slice A1 R.length c1)) B (.slice (some ⟨G, 0, none⟩) n c) (Rs.set i R) := by
  have hnl := Tab.len h
  obtain ⟨hs, h1, h2, h3⟩ := h
  have hnh : hs.length = n := by omega
  rw [hnh] at h2
  have hst := (World.ownsRow.stored h2 i (.slice A1 R.length c1)).1
  refine ⟨hs.set i (.slice A1 R.length c1), by simp [h1], by rw [List.length_set, hnh]; exact hst, fun j v l e1 e2 => ?_⟩
  by_cases hj : i = j
  · subst hj
    have hi : i < hs.length := by have := (List.getElem?_eq_some_iff.1 e1).1; simpa using this
    rw [List.getElem?_set_self hi] at e1
    rw [List.getElem?_set_self (by omega)] at e2
    injection e1 with e1
    injection e2 with e2
    subst e1
    subst e2
    refine ⟨⟨A1, c1, rfl⟩, ownsRow_setCell_other ho (a := ⟨G, i, none⟩) (fun e => hne G e rfl) _, fun b hb e => ?_⟩
    injection hb with hb
    simp at hb
    exact hne b e hb.symm
  · rw [List.getElem?_set_ne hj] at e1 e2
    obtain ⟨a1, a2, a3⟩ := h3 j v l e1 e2
    exact ⟨a1, ownsRow_setCell_other a2 (a := ⟨G, i, none⟩) (a3 G rfl) _, a3⟩
end Go.Proofs.Ytdgcjkgbglofbaa

/- A box made ahead of a call holds behind it. -/
namespace Go.Proofs.Ytdgcjkgbglofbaa
open Go.RowKit

theorem boxNew {X w1 : World} {v : Value} {t : TypeId} (hb : Below (X.alloc (.cells #[v] t)).heap.size (X.alloc (.cells #[v] t)) w1) : Boxed w1 X.heap.size t v :=
  (hb.block X.heap.size (by simp)).trans (World.alloc_heap_new X _)
theorem boxNewD {X w1 : World} {v : Value} {t : TypeId} (hb : Below (X.drew.alloc (.cells #[v] t)).heap.size (X.drew.alloc (.cells #[v] t)) w1) : Boxed w1 X.heap.size t v := boxNew (X := X.drew) hb
theorem boxKeep {W w1 : World} {b : Nat} {v : Value} {t : TypeId} (h : Boxed W b t v) (hb : Below W.heap.size W w1) : Boxed w1 b t v := (hb.block b h.lt).trans h
end Go.Proofs.Ytdgcjkgbglofbaa

/- Lists of trees in memory: a slice whose elements are trees, each with a row of its own; append of one; what the laws' helpers do with them. -/
namespace Go.Proofs.Ytdgcjkgbglofbaa
open Go.RowKit

theorem infoTree : (Try.prog.info? 26).map (fun i => (i.zero, i.size, i.bytes)) = some (some (.agg #[.slice none 0 0]), 1, 24) := by kernel_rfl

/-- a row's header: its block, its length, its capacity -/
abbrev Hdr := Nat × Nat × Nat
abbrev hdr (h : Hdr) : Value := .slice (some ⟨h.1, 0, none⟩) h.2.1 h.2.2

/-- the slice v has the trees zss, with the headers hs; all lies from block B on, and no two share memory -/
structure Woods (w : World) (B : Nat) (v : Value) (hs : List Hdr) (zss : List (List Int)) : Prop where
  row : w.ownsRow B 26 1 v hs.length (hs.map hdr)
  len : hs.length = zss.length
  each : ∀ (k : Nat) (h : Hdr) (zs : List Int), hs[k]? = some h → zss[k]? = some zs → Own64 w B (hdr h) zs
  apart : ∀ (i j : Nat) (h h' : Hdr), hs[i]? = some h → hs[j]? = some h' → i ≠ j → h.1 ≠ h'.1

theorem Woods.at_ {w : World} {B : Nat} {v : Value} {hs : List Hdr} {zss : List (List Int)} (h : Woods w B v hs zss) {k : Nat} {zs : List Int} (hk : zss[k]? = some zs) : ∃ h', hs[k]? = some h' ∧ Own64 w B (hdr h') zs ∧ h'.2.1 = zs.length := by
  have hl : k < hs.length := by rw [h.len]; exact (List.getElem?_eq_some_iff.1 hk).1
  have h1 := List.getElem?_eq_getElem hl
  have h2 := h.each k _ zs h1 hk
  exact ⟨_, h1, h2, own64_len h2⟩
theorem Woods.lt {w : World} {B : Nat} {v : Value} {hs : List Hdr} {zss : List (List Int)} (h : Woods w B v hs zss) {h' : Hdr} (hh : h' ∈ hs) : B ≤ h'.1 ∧ h'.1 < w.heap.size := by
  obtain ⟨k, hk⟩ := List.getElem?_of_mem hh
  have hl : k < zss.length := by rw [← h.len]; exact (List.getElem?_eq_some_iff.1 hk).1
  exact World.ownsRow.lt (h.each k h' _ hk (List.getElem?_eq_getElem hl)) h'.1 rfl
theorem Woods.cell {w : World} {B g n c : Nat} {hs : List Hdr} {zss : List (List Int)} (h : Woods w B (.slice (some ⟨g, 0, none⟩) n c) hs zss) {k : Nat} {h' : Hdr} (hk : hs[k]? = some h') : w.cell? ⟨g, k, none⟩ = some (hdr h') := by
  have := h.row.cells (g := g) rfl k (hdr h') (by simp [hk])
  have ha : (⟨g, 0, none⟩ : Addr).add k = ⟨g, k, none⟩ := by unfold Addr.add; split <;> simp_all
  rw [ha] at this
  exact this
theorem Woods.shape {w : World} {B n c : Nat} {A : Option Addr} {hs : List Hdr} {zss : List (List Int)} (h : Woods w B (.slice A n c) hs zss) : n = zss.length ∧ (0 < n → ∃ g, A = some ⟨g, 0, none⟩) := by
  have hl := h.len
  rcases h.row.2 with ⟨e, h0⟩ | ⟨g, cap, cur, hv, _⟩
  · injection e with e1 e2 e3
    exact ⟨by omega, fun hn => by omega⟩
  · injection hv with e1 e2 e3
    exact ⟨by omega, fun _ => ⟨g, e1⟩⟩
/-- the slice's block is none of the rows': they hold other things -/
theorem Woods.off {w : World} {B : Nat} {v : Value} {hs : List Hdr} {zss : List (List Int)} (h : Woods w B v hs zss) {h' : Hdr} (hh : h' ∈ hs) : v.ownBlock ≠ some h'.1 := by
  intro e
  obtain ⟨k, hk⟩ := List.getElem?_of_mem hh
  have hl : k < zss.length := by rw [← h.len]; exact (List.getElem?_eq_some_iff.1 hk).1
  have h1 := h.each k h' _ hk (List.getElem?_eq_getElem hl)
  rcases h.row.2 with ⟨e0, _⟩ | ⟨g, cap, cur, hv, _, hg, _⟩
  · rw [e0] at e; cases e
  · rcases h1.2 with ⟨e0, _⟩ | ⟨g', cap', cur', hv', _, hg', _⟩
    · cases e0
    · injection hv' with e1
      injection e1 with e1
      injection e1 with e1
      rw [hv] at e
      have e2 : g = h'.1 := by injection e
      rw [e2, e1, hg'] at hg
      injection hg with hg
      injection hg with _ hg
      exact absurd hg (by decide)
theorem Woods.kept {w w' : World} {B : Nat} {v : Value} {hs : List Hdr} {zss : List (List Int)} {row : Option Nat} (h : Woods w B v hs zss) (hg : w.grownBy w' row) (h1 : ∀ k, row = some k → v.ownBlock ≠ some k ∧ ∀ h' ∈ hs, h'.1 ≠ k) : Woods w' B v hs zss := by
  refine ⟨h.row.kept hg ?_, h.len, fun k h' zs hk hz => (h.each k h' zs hk hz).kept hg (.inr fun e => ?_), h.apart⟩
  · cases hv : v.ownBlock with
    | none => exact .inl rfl
    | some k => exact .inr fun e => (h1 k e.symm).1 hv
  · exact (h1 h'.1 e.symm).2 h' (List.mem_of_getElem? hk) rfl
theorem Woods.be {w w' : World} {B : Nat} {v : Value} {hs : List Hdr} {zss : List (List Int)} (h : Woods w B v hs zss) (hb : Below w.heap.size w w') : Woods w' B v hs zss :=
  ⟨own_be h.row hb, h.len, fun k h' zs hk hz => own_be (h.each k h' zs hk hz) hb, h.apart⟩
theorem Woods.alloc {w : World} {B : Nat} {v : Value} {hs : List Hdr} {zss : List (List Int)} (h : Woods w B v hs zss) (o : Obj) : Woods (w.alloc o) B v hs zss := h.be (bal (b0 w) o)
theorem Woods.mono {w : World} {B B' : Nat} {v : Value} {hs : List Hdr} {zss : List (List Int)} (h : Woods w B v hs zss) (hB : B' ≤ B) : Woods w B' v hs zss :=
  ⟨own_mono h.row hB, h.len, fun k h' zs hk hz => own_mono (h.each k h' zs hk hz) hB, h.apart⟩
theorem woods_empty {w : World} {B : Nat} (hB : B ≤ w.heap.size) : Woods (w.alloc (.cells #[] 26)) B (.slice (some ⟨w.heap.size, 0, none⟩) 0 0) [] [] :=
  ⟨World.ownsRow_made (e := 26) (size := 1) w #[] 0 hB (by simp [maxLen]) (by simp), rfl, fun k h zs hk => by simp at hk, fun i j h h' hi => by simp at hi⟩
theorem woods_nil (w : World) (B : Nat) : Woods w B (.slice none 0 0) [] [] :=
  ⟨World.ownsRow_nil _ _ _ _, rfl, fun k h zs hk => by simp at hk, fun i j h h' hi => by simp at hi⟩
theorem woods_one {w : World} {B : Nat} {h : Hdr} {zs : List Int} (hB : B ≤ w.heap.size) (ho : Own64 w B (hdr h) zs) : Woods (w.alloc (.cells #[hdr h] 26)) B (.slice (some ⟨w.heap.size, 0, none⟩) 1 1) [h] [zs] := by
  refine ⟨World.ownsRow_lit (e := 26) (size := 1) w #[hdr h] 1 hB (by simp [maxLen]) (by simp), rfl, fun k h' zs' hk hz => ?_, fun i j h1 h2 hi hj hij => ?_⟩
  · have hk0 : k = 0 := by have := (List.getElem?_eq_some_iff.1 hk).1; simp at this; exact this
    subst hk0
    injection hk with hk
    injection hz with hz
    subst hk
    subst hz
    exact ho.alloc _
  · have h1 := (List.getElem?_eq_some_iff.1 hi).1
    have h2 := (List.getElem?_eq_some_iff.1 hj).1
    simp at h1 h2
    omega
/-- behind an append of one tree -/
theorem woods_pushed {w w1 : World} {B : Nat} {v v' : Value} {hs : List Hdr} {zss : List (List Int)} {h0 : Hdr} {zs : List Int} (h : Woods w B v hs zss) (ho : Own64 w B (hdr h0) zs) (hne : v.ownBlock ≠ some h0.1) (hfr : ∀ h' ∈ hs, h'.1 ≠ h0.1) {o : Obj}
    (hown : w1.ownsRow B 26 1 v' (hs.length + 1) (hs.map hdr ++ [hdr h0])) (hg : (w.alloc o).grownBy w1 v.ownBlock) : Woods w1 B v' (hs ++ [h0]) (zss ++ [zs]) := by
  have hk0 : ∀ (h' : Hdr) (ys : List Int), Own64 w B (hdr h') ys → v.ownBlock ≠ some h'.1 → Own64 w1 B (hdr h') ys := fun h' ys ho' hv => (ho'.alloc _).kept hg (.inr fun e => hv e.symm)
  refine ⟨by rw [List.length_append, List.map_append]; exact hown, by rw [List.length_append, List.length_append, h.len]; rfl, fun k h' ys hk hy => ?_, fun i j h1 h2 hi hj hij => ?_⟩
  · rcases Nat.lt_or_ge k hs.length with hl | hl
    · rw [List.getElem?_append_left hl] at hk
      rw [List.getElem?_append_left (by rw [← h.len]; exact hl)] at hy
      exact hk0 h' ys (h.each k h' ys hk hy) (h.off (List.mem_of_getElem? hk))
    · rw [List.getElem?_append_right hl] at hk
      rw [List.getElem?_append_right (by rw [← h.len]; exact hl)] at hy
      have e1 : k - hs.length = 0 := by have := (List.getElem?_eq_some_iff.1 hk).1; simp at this; omega
      rw [e1] at hk
      rw [← h.len, e1] at hy
      injection hk with hk
      injection hy with hy
      subst hk
      subst hy
      exact hk0 h0 zs ho hne
  · have hsel : ∀ (k : Nat) (h' : Hdr), (hs ++ [h0])[k]? = some h' → (k < hs.length ∧ hs[k]? = some h') ∨ (k = hs.length ∧ h' = h0) := fun k h' hk => by
      rcases Nat.lt_or_ge k hs.length with hl | hl
      · rw [List.getElem?_append_left hl] at hk; exact .inl ⟨hl, hk⟩
      · rw [List.getElem?_append_right hl] at hk
        have e1 : k - hs.length = 0 := by have := (List.getElem?_eq_some_iff.1 hk).1; simp at this; omega
        rw [e1] at hk
        injection hk with hk
        exact .inr ⟨by omega, hk.symm⟩
    rcases hsel i h1 hi with ⟨a1, a2⟩ | ⟨a1, a2⟩ <;> rcases hsel j h2 hj with ⟨b1, b2⟩ | ⟨b1, b2⟩
    · exact h.apart i j h1 h2 a2 b2 hij
    · rw [b2]; exact hfr h1 (List.mem_of_getElem? a2)
    · rw [a2]; exact fun e => hfr h2 (List.mem_of_getElem? b2) e.symm
    · omega

/-- the trees of a slice, to be read -/
def Trees (w : World) (A : Option Addr) (zss : List (List Int)) : Prop :=
  0 < zss.length → ∃ b, A = some ⟨b, 0, none⟩ ∧ b < w.heap.size ∧ ∀ (k : Nat) (zs : List Int), zss[k]? = some zs → ∃ A' c', w.cell? ⟨b, k, none⟩ = some (.slice A' zs.length c') ∧ Ints w w.heap.size A' zs
theorem Woods.trees {w : World} {B n c : Nat} {A : Option Addr} {hs : List Hdr} {zss : List (List Int)} (h : Woods w B (.slice A n c) hs zss) : Trees w A zss := fun hp => by
  obtain ⟨h1, h2⟩ := h.shape
  obtain ⟨g, rfl⟩ := h2 (by omega)
  refine ⟨g, rfl, (World.ownsRow.lt h.row g rfl).2, fun k zs hk => ?_⟩
  obtain ⟨h', hk', ho, hl⟩ := h.at_ hk
  have hc := h.cell hk'
  obtain ⟨g', m, c'⟩ := h'
  simp only at hl
  subst hl
  exact ⟨_, _, hc, ints_of_own64 ho⟩
theorem Trees.be {w w' : World} {A : Option Addr} {zss : List (List Int)} (h : Trees w A zss) (hb : Below w.heap.size w w') : Trees w' A zss := fun hp => by
  obtain ⟨b, rfl, hlt, hk⟩ := h hp
  refine ⟨b, rfl, Nat.lt_of_lt_of_le hlt hb.size, fun k zs hz => ?_⟩
  obtain ⟨A', c', h1, h2⟩ := hk k zs hz
  exact ⟨A', c', (hb.cell (p := ⟨b, k, none⟩) hlt).trans h1, h2.be hb⟩
end Go.Proofs.Ytdgcjkgbglofbaa

/- Rows of rows in memory: a slice whose elements are slices of numbers, each with a row of its own; append of one; what the laws' helpers do with them. -/
namespace Go.Proofs.Ytdgcjkgbglofbaa
open Go.RowKit



/-- the slice v has the trees zss, with the headers hs; all lies from block B on, and no two share memory -/
structure Rws (w : World) (B : Nat) (v : Value) (hs : List Hdr) (zss : List (List Int)) : Prop where
  row : w.ownsRow B 24 1 v hs.length (hs.map hdr)
  len : hs.length = zss.length
  each : ∀ (k : Nat) (h : Hdr) (zs : List Int), hs[k]? = some h → zss[k]? = some zs → Own64 w B (hdr h) zs
  apart : ∀ (i j : Nat) (h h' : Hdr), hs[i]? = some h → hs[j]? = some h' → i ≠ j → h.1 ≠ h'.1

theorem Rws.at_ {w : World} {B : Nat} {v : Value} {hs : List Hdr} {zss : List (List Int)} (h : Rws w B v hs zss) {k : Nat} {zs : List Int} (hk : zss[k]? = some zs) : ∃ h', hs[k]? = some h' ∧ Own64 w B (hdr h') zs ∧ h'.2.1 = zs.length := by
  have hl : k < hs.length := by rw [h.len]; exact (List.getElem?_eq_some_iff.1 hk).1
  have h1 := List.getElem?_eq_getElem hl
  have h2 := h.each k _ zs h1 hk
  exact ⟨_, h1, h2, own64_len h2⟩
theorem Rws.lt {w : World} {B : Nat} {v : Value} {hs : List Hdr} {zss : List (List Int)} (h : Rws w B v hs zss) {h' : Hdr} (hh : h' ∈ hs) : B ≤ h'.1 ∧ h'.1 < w.heap.size := by
  obtain ⟨k, hk⟩ := List.getElem?_of_mem hh
  have hl : k < zss.length := by rw [← h.len]; exact (List.getElem?_eq_some_iff.1 hk).1
  exact World.ownsRow.lt (h.each k h' _ hk (List.getElem?_eq_getElem hl)) h'.1 rfl
theorem Rws.cell {w : World} {B g n c : Nat} {hs : List Hdr} {zss : List (List Int)} (h : Rws w B (.slice (some ⟨g, 0, none⟩) n c) hs zss) {k : Nat} {h' : Hdr} (hk : hs[k]? = some h') : w.cell? ⟨g, k, none⟩ = some (hdr h') := by
  have := h.row.cells (g := g) rfl k (hdr h') (by simp [hk])
  have ha : (⟨g, 0, none⟩ : Addr).add k = ⟨g, k, none⟩ := by unfold Addr.add; split <;> simp_all
  rw [ha] at this
  exact this
theorem Rws.shape {w : World} {B n c : Nat} {A : Option Addr} {hs : List Hdr} {zss : List (List Int)} (h : Rws w B (.slice A n c) hs zss) : n = zss.length ∧ (0 < n → ∃ g, A = some ⟨g, 0, none⟩) := by
  have hl := h.len
  rcases h.row.2 with ⟨e, h0⟩ | ⟨g, cap, cur, hv, _⟩
  · injection e with e1 e2 e3
    exact ⟨by omega, fun hn => by omega⟩
  · injection hv with e1 e2 e3
    exact ⟨by omega, fun _ => ⟨g, e1⟩⟩
/-- the slice's block is none of the rows': they hold other things -/
theorem Rws.off {w : World} {B : Nat} {v : Value} {hs : List Hdr} {zss : List (List Int)} (h : Rws w B v hs zss) {h' : Hdr} (hh : h' ∈ hs) : v.ownBlock ≠ some h'.1 := by
  intro e
  obtain ⟨k, hk⟩ := List.getElem?_of_mem hh
  have hl : k < zss.length := by rw [← h.len]; exact (List.getElem?_eq_some_iff.1 hk).1
  have h1 := h.each k h' _ hk (List.getElem?_eq_getElem hl)
  rcases h.row.2 with ⟨e0, _⟩ | ⟨g, cap, cur, hv, _, hg, _⟩
  · rw [e0] at e; cases e
  · rcases h1.2 with ⟨e0, _⟩ | ⟨g', cap', cur', hv', _, hg', _⟩
    · cases e0
    · injection hv' with e1
      injection e1 with e1
      injection e1 with e1
      rw [hv] at e
      have e2 : g = h'.1 := by injection e
      rw [e2, e1, hg'] at hg
      injection hg with hg
      injection hg with _ hg
      exact absurd hg (by decide)
theorem Rws.kept {w w' : World} {B : Nat} {v : Value} {hs : List Hdr} {zss : List (List Int)} {row : Option Nat} (h : Rws w B v hs zss) (hg : w.grownBy w' row) (h1 : ∀ k, row = some k → v.ownBlock ≠ some k ∧ ∀ h' ∈ hs, h'.1 ≠ k) : Rws w' B v hs zss := by
  refine ⟨h.row.kept hg ?_, h.len, fun k h' zs hk hz => (h.each k h' zs hk hz).kept hg (.inr fun e => ?_), h.apart⟩
  · cases hv : v.ownBlock with
    | none => exact .inl rfl
    | some k => exact .inr fun e => (h1 k e.symm).1 hv
  · exact (h1 h'.1 e.symm).2 h' (List.mem_of_getElem? hk) rfl
theorem Rws.be {w w' : World} {B : Nat} {v : Value} {hs : List Hdr} {zss : List (List Int)} (h : Rws w B v hs zss) (hb : Below w.heap.size w w') : Rws w' B v hs zss :=
  ⟨own_be h.row hb, h.len, fun k h' zs hk hz => own_be (h.each k h' zs hk hz) hb, h.apart⟩
theorem Rws.alloc {w : World} {B : Nat} {v : Value} {hs : List Hdr} {zss : List (List Int)} (h : Rws w B v hs zss) (o : Obj) : Rws (w.alloc o) B v hs zss := h.be (bal (b0 w) o)
theorem Rws.mono {w : World} {B B' : Nat} {v : Value} {hs : List Hdr} {zss : List (List Int)} (h : Rws w B v hs zss) (hB : B' ≤ B) : Rws w B' v hs zss :=
  ⟨own_mono h.row hB, h.len, fun k h' zs hk hz => own_mono (h.each k h' zs hk hz) hB, h.apart⟩
theorem rws_empty {w : World} {B : Nat} (hB : B ≤ w.heap.size) : Rws (w.alloc (.cells #[] 24)) B (.slice (some ⟨w.heap.size, 0, none⟩) 0 0) [] [] :=
  ⟨World.ownsRow_made (e := 24) (size := 1) w #[] 0 hB (by simp [maxLen]) (by simp), rfl, fun k h zs hk => by simp at hk, fun i j h h' hi => by simp at hi⟩
theorem rws_nil (w : World) (B : Nat) : Rws w B (.slice none 0 0) [] [] :=
  ⟨World.ownsRow_nil _ _ _ _, rfl, fun k h zs hk => by simp at hk, fun i j h h' hi => by simp at hi⟩
theorem rws_one {w : World} {B : Nat} {h : Hdr} {zs : List Int} (hB : B ≤ w.heap.size) (ho : Own64 w B (hdr h) zs) : Rws (w.alloc (.cells #[hdr h] 24)) B (.slice (some ⟨w.heap.size, 0, none⟩) 1 1) [h] [zs] := by
  refine ⟨World.ownsRow_lit (e := 24) (size := 1) w #[hdr h] 1 hB (by simp [maxLen]) (by simp), rfl, fun k h' zs' hk hz => ?_, fun i j h1 h2 hi hj hij => ?_⟩
  · have hk0 : k = 0 := by have := (List.getElem?_eq_some_iff.1 hk).1; simp at this; exact this
    subst hk0
    injection hk with hk
    injection hz with hz
    subst hk
    subst hz
    exact ho.alloc _
  · have h1 := (List.getElem?_eq_some_iff.1 hi).1
    have h2 := (List.getElem?_eq_some_iff.1 hj).1
    simp at h1 h2
    omega
/-- behind an append of one tree -/
theorem rws_pushed {w w1 : World} {B : Nat} {v v' : Value} {hs : List Hdr} {zss : List (List Int)} {h0 : Hdr} {zs : List Int} (h : Rws w B v hs zss) (ho : Own64 w B (hdr h0) zs) (hne : v.ownBlock ≠ some h0.1) (hfr : ∀ h' ∈ hs, h'.1 ≠ h0.1) {o : Obj}
    (hown : w1.ownsRow B 24 1 v' (hs.length + 1) (hs.map hdr ++ [hdr h0])) (hg : (w.alloc o).grownBy w1 v.ownBlock) : Rws w1 B v' (hs ++ [h0]) (zss ++ [zs]) := by
  have hk0 : ∀ (h' : Hdr) (ys : List Int), Own64 w B (hdr h') ys → v.ownBlock ≠ some h'.1 → Own64 w1 B (hdr h') ys := fun h' ys ho' hv => (ho'.alloc _).kept hg (.inr fun e => hv e.symm)
  refine ⟨by rw [List.length_append, List.map_append]; exact hown, by rw [List.length_append, List.length_append, h.len]; rfl, fun k h' ys hk hy => ?_, fun i j h1 h2 hi hj hij => ?_⟩
  · rcases Nat.lt_or_ge k hs.length with hl | hl
    · rw [List.getElem?_append_left hl] at hk
      rw [List.getElem?_append_left (by rw [← h.len]; exact hl)] at hy
      exact hk0 h' ys (h.each k h' ys hk hy) (h.off (List.mem_of_getElem? hk))
    · rw [List.getElem?_append_right hl] at hk
      rw [List.getElem?_append_right (by rw [← h.len]; exact hl)] at hy
      have e1 : k - hs.length = 0 := by have := (List.getElem?_eq_some_iff.1 hk).1; simp at this; omega
      rw [e1] at hk
      rw [← h.len, e1] at hy
      injection hk with hk
      injection hy with hy
      subst hk
      subst hy
      exact hk0 h0 zs ho hne
  · have hsel : ∀ (k : Nat) (h' : Hdr), (hs ++ [h0])[k]? = some h' → (k < hs.length ∧ hs[k]? = some h') ∨ (k = hs.length ∧ h' = h0) := fun k h' hk => by
      rcases Nat.lt_or_ge k hs.length with hl | hl
      · rw [List.getElem?_append_left hl] at hk; exact .inl ⟨hl, hk⟩
      · rw [List.getElem?_append_right hl] at hk
        have e1 : k - hs.length = 0 := by have := (List.getElem?_eq_some_iff.1 hk).1; simp at this; omega
        rw [e1] at hk
        injection hk with hk
        exact .inr ⟨by omega, hk.symm⟩
    rcases hsel i h1 hi with ⟨a1, a2⟩ | ⟨a1, a2⟩ <;> rcases hsel j h2 hj with ⟨b1, b2⟩ | ⟨b1, b2⟩
    · exact h.apart i j h1 h2 a2 b2 hij
    · rw [b2]; exact hfr h1 (List.mem_of_getElem? a2)
    · rw [a2]; exact fun e => hfr h2 (List.mem_of_getElem? b2) e.symm
    · omega

/-- the trees of a slice, to be read -/
def Rows0 (w : World) (A : Option Addr) (zss : List (List Int)) : Prop :=
  0 < zss.length → ∃ b, A = some ⟨b, 0, none⟩ ∧ b < w.heap.size ∧ ∀ (k : Nat) (zs : List Int), zss[k]? = some zs → ∃ A' c', w.cell? ⟨b, k, none⟩ = some (.slice A' zs.length c') ∧ Ints w w.heap.size A' zs
theorem Rws.rows0 {w : World} {B n c : Nat} {A : Option Addr} {hs : List Hdr} {zss : List (List Int)} (h : Rws w B (.slice A n c) hs zss) : Rows0 w A zss := fun hp => by
  obtain ⟨h1, h2⟩ := h.shape
  obtain ⟨g, rfl⟩ := h2 (by omega)
  refine ⟨g, rfl, (World.ownsRow.lt h.row g rfl).2, fun k zs hk => ?_⟩
  obtain ⟨h', hk', ho, hl⟩ := h.at_ hk
  have hc := h.cell hk'
  obtain ⟨g', m, c'⟩ := h'
  simp only at hl
  subst hl
  exact ⟨_, _, hc, ints_of_own64 ho⟩
theorem Rows0.be {w w' : World} {A : Option Addr} {zss : List (List Int)} (h : Rows0 w A zss) (hb : Below w.heap.size w w') : Rows0 w' A zss := fun hp => by
  obtain ⟨b, rfl, hlt, hk⟩ := h hp
  refine ⟨b, rfl, Nat.lt_of_lt_of_le hlt hb.size, fun k zs hz => ?_⟩
  obtain ⟨A', c', h1, h2⟩ := hk k zs hz
  exact ⟨A', c', (hb.cell (p := ⟨b, k, none⟩) hlt).trans h1, h2.be hb⟩
end Go.Proofs.Ytdgcjkgbglofbaa

/- Lists of lists of numbers: how many numbers they have; rows that are marked. -/
namespace Go.Proofs.Ytdgcjkgbglofbaa
namespace M
def tot : List (List Int) → Nat
  | [] => 0
  | zs :: r => zs.length + tot r
theorem tot_snoc (l : List (List Int)) (zs : List Int) : tot (l ++ [zs]) = tot l + zs.length := by
  induction l with
  | nil => simp [tot]
  | cons x r ih => simp only [List.cons_append, tot, ih]; omega
theorem tot_take {zss : List (List Int)} {k : Nat} {zs : List Int} (h : zss[k]? = some zs) : tot (zss.take (k + 1)) = tot (zss.take k) + zs.length := by
  rw [List.take_add_one, h, Option.toList_some, tot_snoc]
theorem tot_le {zss : List (List Int)} {b : Nat} (h : ∀ zs ∈ zss, zs.length ≤ b) : tot zss ≤ b * zss.length := by
  induction zss with
  | nil => exact Nat.zero_le _
  | cons x r ih =>
    have h1 := h x (by simp)
    have h2 := ih fun z hz => h z (by simp [hz])
    simp only [tot, List.length_cons, Nat.mul_add, Nat.mul_one]
    omega
theorem tot_mem {zss : List (List Int)} {zs : List Int} (h : zs ∈ zss) : zs.length ≤ tot zss := by
  induction zss with
  | nil => cases h
  | cons x r ih =>
    simp only [tot]
    rcases List.mem_cons.1 h with rfl | h
    · omega
    · have := ih h; omega
theorem tot_take_le (zss : List (List Int)) : ∀ k, tot (zss.take k) ≤ tot zss := by
  induction zss with
  | nil => intro k; simp [tot]
  | cons x r ih =>
    intro k
    cases k with
    | zero => simp [tot]
    | succ k => simp only [List.take_succ_cons, tot]; have := ih k; omega
/-- the first k rows are marked -/
def partM (m : Int) (zss : List (List Int)) (k : Nat) : List (List Int) := (List.range zss.length).map fun j => if j < k then marks (m + (tot (zss.take j) : Int)) (zss[j]?.getD []).length else zss[j]?.getD []
theorem partM_len (m : Int) (zss : List (List Int)) (k : Nat) : (partM m zss k).length = zss.length := by simp [partM]
theorem partM_zero (m : Int) (zss : List (List Int)) : partM m zss 0 = zss := by
  apply List.ext_getElem?
  intro j
  simp only [partM, List.getElem?_map]
  by_cases hj : j < zss.length
  · rw [List.getElem?_range hj]; simp [List.getElem?_eq_getElem hj]
  · rw [List.getElem?_eq_none (by simp; omega), List.getElem?_eq_none (by omega)]; rfl
theorem partM_lo {m : Int} {zss : List (List Int)} {k j : Nat} {zs : List Int} (h : zss[j]? = some zs) (hj : j < k) : (partM m zss k)[j]? = some (marks (m + (tot (zss.take j) : Int)) zs.length) := by
  have hl := (List.getElem?_eq_some_iff.1 h).1
  simp only [partM, List.getElem?_map, List.getElem?_range hl, Option.map_some, if_pos hj, h, Option.getD_some]
theorem partM_hi {m : Int} {zss : List (List Int)} {k j : Nat} {zs : List Int} (h : zss[j]? = some zs) (hj : ¬ j < k) : (partM m zss k)[j]? = some zs := by
  have hl := (List.getElem?_eq_some_iff.1 h).1
  simp only [partM, List.getElem?_map, List.getElem?_range hl, Option.map_some, if_neg hj, h, Option.getD_some]
theorem partM_other {m : Int} {zss : List (List Int)} {k j : Nat} (hj : j ≠ k) : (partM m zss (k + 1))[j]? = (partM m zss k)[j]? := by
  by_cases hl : j < zss.length
  · have h := List.getElem?_eq_getElem hl
    by_cases hjk : j < k
    · rw [partM_lo h hjk, partM_lo h (by omega)]
    · rw [partM_hi h hjk, partM_hi h (by omega)]
  · rw [List.getElem?_eq_none (by rw [partM_len]; omega), List.getElem?_eq_none (by rw [partM_len]; omega)]
end M
end Go.Proofs.Ytdgcjkgbglofbaa

/- Lists of trees: append of one; equal, marked, held. -/
namespace Go.Proofs.Ytdgcjkgbglofbaa
open Go.RowKit

set_option maxRecDepth 100000 in
theorem pushRws {ops : Array Oper} {rest : List Oper} {o : Oper} {a : Act} {Q : Exit → Act → World → Prop} (hgd : o.guard = none) (s x : Operand)
    (ho : o.op = .call { callee := .builtin .append, args := #[s, x], argTypes := #[74, 74] }) (w : World) (B : Nat) (A : Option Addr) (n c : Nat) (hs : List Hdr) (zss : List (List Int)) (h0 : Hdr) (zs : List Int)
    (hs0 : a.eval s = .slice A n c) (hx : a.eval x = .slice (some ⟨w.heap.size, 0, none⟩) 1 1) (hW : Hid (Rws w B (.slice A n c) hs zss)) (hrow : Hid (Own64 w B (hdr h0) zs)) (hne : Hid ((Value.slice A n c).ownBlock ≠ some h0.1)) (hfr : Hid (∀ h' ∈ hs, h'.1 ≠ h0.1)) (hB : B ≤ w.heap.size) (hlen : n ≤ 1000000)
    (h : ∀ A' c' w', Hid (Rws w' B (.slice A' (n + 1) c') (hs ++ [h0]) (zss ++ [zs])) → Hid (Below B w w') → wpList Try.prog ops Q rest (a.put o.dst (.slice A' (n + 1) c')) w') :
    wpList Try.prog ops Q (o :: rest) a (w.alloc (.cells #[hdr h0] 24)) := by
  obtain ⟨i0, hi0, hz0, hz1, hz2⟩ := info_parts infoRow
  have hn : hs.length = n := by rw [hW.out.len]; exact hW.out.shape.1.symm
  refine wpList_append_own_at _ hgd s x 74 ho B 24 i0 (.slice none 0 0) 1 24 Try.underlying74 hi0 hz0 hz1 hz2 rfl (by decide) _ hs.length (hs.map hdr) hs0 (hW.out.row.alloc _) ⟨w.heap.size, 0, none⟩ 1 1 [hdr h0] hx rfl (cell_one_new _ _ _) ?_ ?_ ?_ ?_ ?_
  · intro u hu; simp at hu; subst hu; rfl
  · unfold maxLen; omega
  · omega
  · simp; omega
  · intro v' w1 hown1 hg1 _ _
    obtain ⟨A', c', rfl⟩ : ∃ A' c', v' = .slice A' (hs.length + 1) c' := own_shape hown1
    have hres := rws_pushed hW.out hrow.out hne.out hfr.out hown1 hg1
    rw [hn] at hres ⊢
    exact h A' c' w1 hres (((Below.refl B w).alloc hB _).grown hg1 (by simp; omega) (fun k hk => (World.ownsRow.lt hW.out.row k hk).1))

set_option maxRecDepth 100000 in
set_option maxHeartbeats 2000000 in
theorem eqInt64SS (A A' : Option Addr) (zss : List (List Int)) (n c c' : Nat) (w : World) (hn : Hid (zss.length = n)) (hn' : n ≤ 1000000000000) (hz : Hid (∀ zs ∈ zss, zs.length ≤ 1000000000000)) (h : Hid (Rows0 w A zss)) (h' : Hid (Rows0 w A' zss)) :
    Calls Try.prog 146 #[.slice A n c, .slice A' n c'] w fun e w' => e = .returned (.bool true) ∧ Below w.heap.size w w' := by
  have hne : ((n : Int) != (n : Int)) = false := by simp
  go_enter Try.func146, Try.ntmps146
  go_wp2
  go_loopw [5] (fun i wr => ∃ k : Nat, k ≤ n ∧ i = .int .i64 (k : Int) ∧ Hid (Below w.heap.size w wr)) (fun i _ => n - (intOf i).toNat)
  case atStart => exact ⟨0, Nat.zero_le _, rfl, b0 w⟩
  case round =>
    obtain ⟨k, hk, rfl, hb⟩ := hrel
    clear hne
    by_cases hlt : k < n
    · have hki : (k : Int) < (n : Int) := by omega
      have hk0 : (0 : Int) ≤ (k : Int) := by omega
      have hkz : k < zss.length := by rw [hn.out]; exact hlt
      have hat : zss[k]? = some zss[k] := List.getElem?_eq_getElem hkz
      have hzk := hz.out _ (List.mem_of_getElem? hat)
      generalize zss[k] = zs at hat hzk
      obtain ⟨b, rfl, hbl, hc⟩ := h.out (by omega)
      obtain ⟨b', rfl, hbl', hc'⟩ := h'.out (by omega)
      obtain ⟨A1, c1, h1, h2⟩ := hc k zs hat
      obtain ⟨A2, c2, h3, h4⟩ := hc' k zs hat
      have HC : Hid (∀ W', Hid (Below w.heap.size w W') → W'.cell? ⟨b, k, none⟩ = some (.slice A1 zs.length c1) ∧ W'.cell? ⟨b', k, none⟩ = some (.slice A2 zs.length c2)) := fun W' hW' => ⟨(hW'.out.cell (p := ⟨b, k, none⟩) hbl).trans h1, (hW'.out.cell (p := ⟨b', k, none⟩) hbl').trans h3⟩
      have HE : Hid (∀ W', Hid (Below w.heap.size w W') → Calls Try.prog 126 #[.slice A1 zs.length c1, .slice A2 zs.length c2] W' fun e w' => e = .returned (.bool true) ∧ Hid (Below w.heap.size w w')) := fun W' hW' =>
        (eqIntsT A1 A2 zs c1 c2 W' (by omega) (h2.be hW'.out) (h4.be hW'.out)).mono fun e w' ⟨he, hb'⟩ => ⟨he, btr hW'.out hb'⟩
      have K0 : Hid (Below w.heap.size w wr.drew) := hb.out.drew
      obtain ⟨d1, d2⟩ := HC.out _ K0
      obtain ⟨e1, e2⟩ := HC.out _ hb
      clear hat hc hc' h1 h2 h3 h4 hbl hbl' hkz
      go_wp2
      go_region_held3 (fun w' => w'.cell? ⟨b, k, none⟩ = some (.slice A1 zs.length c1) ∧ w'.cell? ⟨b', k, none⟩ = some (.slice A2 zs.length c2)) (first | exact ⟨d1, d2⟩ | exact HC.out _ (by assumption)) (first | (go_at_call 126; refine (HE.out _ K0).mono ?_; rintro e w7 ⟨rfl, hb7⟩))
      clear d1 d2 e1 e2 K0 HE HC hb
      go_wp2
      go_roundw
      case rel => exact ⟨k + 1, by omega, by go_num, hb7⟩
      case measure => simp [intOf]; omega
    · obtain rfl : k = n := by omega
      have hge : ¬ (k : Int) < (k : Int) := by omega
      go_wp2
      go_ret
      exact ⟨rfl, hb.out⟩


/-- behind a write into one row -/
theorem Rws.set {w w' : World} {B : Nat} {v : Value} {hs : List Hdr} {zss zss' : List (List Int)} {k : Nat} {h' : Hdr} {ys : List Int} (h : Rws w B v hs zss) (hk : hs[k]? = some h') (hl : zss'.length = zss.length) (ho : ∀ j, j ≠ k → zss'[j]? = zss[j]?) (hy : zss'[k]? = some ys)
    (hown : Own64 w' B (hdr h') ys) (hg : w.grownBy w' (some h'.1)) : Rws w' B v hs zss' := by
  refine ⟨h.row.kept hg (.inr (h.off (List.mem_of_getElem? hk))), by rw [hl]; exact h.len, fun j h2 zs hj hz => ?_, h.apart⟩
  by_cases hjk : j = k
  · subst hjk
    rw [hk] at hj
    rw [hy] at hz
    injection hj with hj
    injection hz with hz
    subst hj
    subst hz
    exact hown
  · rw [ho j hjk] at hz
    exact (h.each j h2 zs hj hz).kept hg (.inr fun e => h.apart j k h2 h' hj hk hjk (by injection e))

set_option maxRecDepth 100000 in
set_option maxHeartbeats 2000000 in
theorem markInt64SS (A : Option Addr) (n c : Nat) (hs : List Hdr) (zss : List (List Int)) (m : Int) (B : Nat) (w : World) (hn : Hid (zss.length = n)) (hn' : n ≤ 100000000) (hT : Hid (M.tot zss ≤ 2000000000)) (hm : 0 ≤ m) (hm' : m ≤ 100000000000) (hB : B ≤ w.heap.size) (hW : Hid (Rws w B (.slice A n c) hs zss)) :
    Calls Try.prog 149 #[.slice A n c, .int .i64 m] w fun e w' => e = .returned (.int .i64 (m + (M.tot zss : Int))) ∧ Rws w' B (.slice A n c) hs (M.partM m zss n) ∧ Below B w w' ∧ (∀ j, j < w.heap.size → (∀ h' ∈ hs, h'.1 ≠ j) → w'.heap[j]? = w.heap[j]?) := by
  go_enter Try.func149, Try.ntmps149
  go_wp2
  go_loopw [1, 5] (fun q i wr => ∃ k : Nat, k ≤ n ∧ i = .int .i64 (k : Int) ∧ q = .int .i64 (m + (M.tot (zss.take k) : Int)) ∧ Hid (Rws wr B (.slice A n c) hs (M.partM m zss k)) ∧ Hid (Below B w wr) ∧ Hid (∀ j, j < w.heap.size → (∀ h' ∈ hs, h'.1 ≠ j) → wr.heap[j]? = w.heap[j]?)) (fun _ i _ => n - (intOf i).toNat)
  case atStart => exact ⟨0, Nat.zero_le _, rfl, by simp [M.tot], by rw [M.partM_zero]; exact hW, Below.refl _ _, fun _ _ _ => rfl⟩
  case round =>
    obtain ⟨k, hk, rfl, rfl, hWk, hb, hfr⟩ := hrel
    clear hW
    by_cases hlt : k < n
    · have hki : (k : Int) < (n : Int) := by omega
      have hk0 : (0 : Int) ≤ (k : Int) := by omega
      have hkz : k < zss.length := by rw [hn.out]; exact hlt
      have hat : zss[k]? = some zss[k] := List.getElem?_eq_getElem hkz
      have hzk := M.tot_mem (List.mem_of_getElem? hat)
      have hT2 := hT.out
      generalize zss[k] = zs at hat hzk
      have htk := M.tot_take_le zss k
      have hts := Lib.hid (M.tot_take hat)
      obtain ⟨t, ht⟩ : ∃ t, Hid (M.tot (zss.take k) = t) := ⟨_, rfl⟩
      rw [ht.out] at hts htk ⊢
      obtain ⟨g, hA⟩ := hWk.out.shape.2 (by omega)
      subst hA
      obtain ⟨h', hk', ho, hl⟩ := hWk.out.at_ (M.partM_hi (m := m) hat (Nat.lt_irrefl k))
      have hcl := hWk.out.cell hk'
      obtain ⟨g', mm, c'⟩ := h'
      simp only at hl hcl
      subst hl
      have HM := Lib.hid (markInts (some ⟨g', 0, none⟩) zs.length c' zs (m + (t : Int)) B wr rfl (by omega) (by omega) (by omega) ho)
      have Hat := Lib.hid hat
      have Hk' := Lib.hid hk'
      have hzr := hb.out.size
      clear hat hk' ho hkz
      go_wp2_with fail
      refine HM.out.mono ?_
      rintro e w7 ⟨rfl, ho7, hg7⟩
      have hW7 : Hid (Rws w7 B (.slice (some ⟨g, 0, none⟩) n c) hs (M.partM m zss (k + 1))) := by
        refine hWk.out.set Hk'.out (by rw [M.partM_len, M.partM_len]) (fun j hj => M.partM_other hj) (M.partM_lo Hat.out (Nat.lt_succ_self k)) ?_ hg7
        rw [ht.out]
        exact ho7
      have hb7 : Hid (Below B w w7) := hb.out.grown hg7 (by omega) (fun j e => by
        have h1 := (hWk.out.lt (List.mem_of_getElem? Hk'.out)).1
        have h2 : g' = j := by injection e
        simp only at h1
        omega)
      have hfr7 : Hid (∀ j, j < w.heap.size → (∀ h' ∈ hs, h'.1 ≠ j) → w7.heap[j]? = w.heap[j]?) := fun j hj hh => (hg7.block j (Nat.lt_of_lt_of_le hj hzr) (fun e => by
        have h2 : j = g' := by injection e
        exact hh _ (List.mem_of_getElem? Hk'.out) h2.symm)).trans (hfr.out j hj hh)
      clear HM ho7 hg7 hWk hb hcl hfr
      go_wp2
      go_roundw
      case rel => exact ⟨k + 1, by omega, by go_num, by rw [hts.out]; go_num, hW7, hb7, hfr7⟩
      case measure => simp [intOf]; omega
    · obtain rfl : k = n := by omega
      have hge : ¬ (k : Int) < (k : Int) := by omega
      have htot : Hid (M.tot (zss.take k) = M.tot zss) := by show _ = _; rw [List.take_of_length_le (by rw [hn.out]; exact Nat.le_refl _)]
      rw [htot.out]
      go_wp2
      go_ret
      exact ⟨rfl, hWk.out, hb.out, fun j hj hh => hfr.out j hj (fun h' hh' => hh h'.1 h'.2.1 h'.2.2 hh')⟩

set_option maxRecDepth 100000 in
set_option maxHeartbeats 2000000 in
theorem heldInt64SS (A : Option Addr) (n c : Nat) (zss : List (List Int)) (m : Int) (w : World) (hn : Hid (zss.length = n)) (hn' : n ≤ 100000) (hz : Hid (∀ zs ∈ zss, zs.length ≤ 100000)) (hm : 0 ≤ m) (hm' : m ≤ 100000000000) (h : Hid (Rows0 w A (M.partM m zss n))) :
    Calls Try.prog 150 #[.slice A n c, .int .i64 m] w fun e w' => e = .returned (.int .i64 (m + (M.tot zss : Int))) ∧ Below w.heap.size w w' := by
  go_enter Try.func150, Try.ntmps150
  go_wp2
  go_loopw [1, 5] (fun q i wr => ∃ k : Nat, k ≤ n ∧ i = .int .i64 (k : Int) ∧ q = .int .i64 (m + (M.tot (zss.take k) : Int)) ∧ Hid (Below w.heap.size w wr)) (fun _ i _ => n - (intOf i).toNat)
  case atStart => exact ⟨0, Nat.zero_le _, rfl, by simp [M.tot], b0 w⟩
  case round =>
    obtain ⟨k, hk, rfl, rfl, hb⟩ := hrel
    by_cases hlt : k < n
    · have hki : (k : Int) < (n : Int) := by omega
      have hk0 : (0 : Int) ≤ (k : Int) := by omega
      have hkz : k < zss.length := by rw [hn.out]; exact hlt
      have hat : zss[k]? = some zss[k] := List.getElem?_eq_getElem hkz
      have hzk := hz.out _ (List.mem_of_getElem? hat)
      generalize zss[k] = zs at hat hzk
      have htk := M.tot_le (zss := zss.take k) (b := 100000) (fun z hz' => hz.out z (List.mem_of_mem_take hz'))
      have hkl : (zss.take k).length = k := by rw [List.length_take]; omega
      rw [hkl] at htk
      have hts := Lib.hid (M.tot_take hat)
      obtain ⟨t, ht⟩ : ∃ t, Hid (M.tot (zss.take k) = t) := ⟨_, rfl⟩
      have hpl := M.partM_lo (m := m) hat hlt
      rw [ht.out] at hts htk hpl ⊢
      obtain ⟨b, rfl, hbl, hc⟩ := h.out (by rw [M.partM_len]; omega)
      obtain ⟨A1, c1, h1, h2⟩ := hc k _ hpl
      rw [marks_length] at h1
      have hcl : wr.cell? ⟨b, k, none⟩ = some (.slice A1 zs.length c1) := (hb.out.cell (p := ⟨b, k, none⟩) hbl).trans h1
      have HM := Lib.hid (heldInts A1 zs.length c1 (m + (t : Int)) wr (by omega) (by omega) (by omega) (h2.be hb.out))
      have hpos : ¬ m + (t : Int) + (zs.length : Int) < 0 := by omega
      clear hat hkz hkl hc h1 h2 hpl
      go_wp2_with fail
      refine HM.out.mono ?_
      rintro e w7 ⟨rfl, rfl⟩
      go_wp2
      go_roundw
      case rel => exact ⟨k + 1, by omega, by go_num, by rw [hts.out]; go_num, hb⟩
      case measure => simp [intOf]; omega
    · obtain rfl : k = n := by omega
      have hge : ¬ (k : Int) < (k : Int) := by omega
      have htot : Hid (M.tot (zss.take k) = M.tot zss) := by show _ = _; rw [List.take_of_length_le (by rw [hn.out]; exact Nat.le_refl _)]
      rw [htot.out]
      go_wp2
      go_ret
      exact ⟨rfl, hb.out⟩
end Go.Proofs.Ytdgcjkgbglofbaa

/- Lists of trees: append of one; equal, marked, held. -/
namespace Go.Proofs.Ytdgcjkgbglofbaa
open Go.RowKit

set_option maxRecDepth 100000 in
theorem pushTree {ops : Array Oper} {rest : List Oper} {o : Oper} {a : Act} {Q : Exit → Act → World → Prop} (hgd : o.guard = none) (s x : Operand)
    (ho : o.op = .call { callee := .builtin .append, args := #[s, x], argTypes := #[56, 56] }) (w : World) (B : Nat) (A : Option Addr) (n c : Nat) (hs : List Hdr) (zss : List (List Int)) (h0 : Hdr) (zs : List Int)
    (hs0 : a.eval s = .slice A n c) (hx : a.eval x = .slice (some ⟨w.heap.size, 0, none⟩) 1 1) (hW : Hid (Woods w B (.slice A n c) hs zss)) (hrow : Hid (Own64 w B (hdr h0) zs)) (hne : Hid ((Value.slice A n c).ownBlock ≠ some h0.1)) (hfr : Hid (∀ h' ∈ hs, h'.1 ≠ h0.1)) (hB : B ≤ w.heap.size) (hlen : n ≤ 1000000)
    (h : ∀ A' c' w', Hid (Woods w' B (.slice A' (n + 1) c') (hs ++ [h0]) (zss ++ [zs])) → Hid (Below B w w') → wpList Try.prog ops Q rest (a.put o.dst (.slice A' (n + 1) c')) w') :
    wpList Try.prog ops Q (o :: rest) a (w.alloc (.cells #[hdr h0] 26)) := by
  obtain ⟨i0, hi0, hz0, hz1, hz2⟩ := info_parts infoTree
  have hn : hs.length = n := by rw [hW.out.len]; exact hW.out.shape.1.symm
  refine wpList_append_own_at _ hgd s x 56 ho B 26 i0 (.agg #[.slice none 0 0]) 1 24 Try.underlying56 hi0 hz0 hz1 hz2 rfl (by decide) _ hs.length (hs.map hdr) hs0 (hW.out.row.alloc _) ⟨w.heap.size, 0, none⟩ 1 1 [hdr h0] hx rfl (cell_one_new _ _ _) ?_ ?_ ?_ ?_ ?_
  · intro u hu; simp at hu; subst hu; rfl
  · unfold maxLen; omega
  · omega
  · simp; omega
  · intro v' w1 hown1 hg1 _ _
    obtain ⟨A', c', rfl⟩ : ∃ A' c', v' = .slice A' (hs.length + 1) c' := own_shape hown1
    have hres := woods_pushed hW.out hrow.out hne.out hfr.out hown1 hg1
    rw [hn] at hres ⊢
    exact h A' c' w1 hres (((Below.refl B w).alloc hB _).grown hg1 (by simp; omega) (fun k hk => (World.ownsRow.lt hW.out.row k hk).1))

set_option maxRecDepth 100000 in
set_option maxHeartbeats 2000000 in
theorem eqTreeS (A A' : Option Addr) (zss : List (List Int)) (n c c' : Nat) (w : World) (hn : Hid (zss.length = n)) (hn' : n ≤ 1000000000000) (hz : Hid (∀ zs ∈ zss, zs.length ≤ 1000000000000)) (h : Hid (Trees w A zss)) (h' : Hid (Trees w A' zss)) :
    Calls Try.prog 135 #[.slice A n c, .slice A' n c'] w fun e w' => e = .returned (.bool true) ∧ Below w.heap.size w w' := by
  have hne : ((n : Int) != (n : Int)) = false := by simp
  go_enter Try.func135, Try.ntmps135
  go_wp2
  go_loopw [5] (fun i wr => ∃ k : Nat, k ≤ n ∧ i = .int .i64 (k : Int) ∧ Hid (Below w.heap.size w wr)) (fun i _ => n - (intOf i).toNat)
  case atStart => exact ⟨0, Nat.zero_le _, rfl, b0 w⟩
  case round =>
    obtain ⟨k, hk, rfl, hb⟩ := hrel
    clear hne
    by_cases hlt : k < n
    · have hki : (k : Int) < (n : Int) := by omega
      have hk0 : (0 : Int) ≤ (k : Int) := by omega
      have hkz : k < zss.length := by rw [hn.out]; exact hlt
      have hat : zss[k]? = some zss[k] := List.getElem?_eq_getElem hkz
      have hzk := hz.out _ (List.mem_of_getElem? hat)
      generalize zss[k] = zs at hat hzk
      obtain ⟨b, rfl, hbl, hc⟩ := h.out (by omega)
      obtain ⟨b', rfl, hbl', hc'⟩ := h'.out (by omega)
      obtain ⟨A1, c1, h1, h2⟩ := hc k zs hat
      obtain ⟨A2, c2, h3, h4⟩ := hc' k zs hat
      have HC : Hid (∀ W', Hid (Below w.heap.size w W') → W'.cell? ⟨b, k, none⟩ = some (.slice A1 zs.length c1) ∧ W'.cell? ⟨b', k, none⟩ = some (.slice A2 zs.length c2)) := fun W' hW' => ⟨(hW'.out.cell (p := ⟨b, k, none⟩) hbl).trans h1, (hW'.out.cell (p := ⟨b', k, none⟩) hbl').trans h3⟩
      have HE : Hid (∀ W', Hid (Below w.heap.size w W') → Calls Try.prog 136 #[.agg #[.slice A1 zs.length c1], .agg #[.slice A2 zs.length c2]] W' fun e w' => e = .returned (.bool true) ∧ Hid (Below w.heap.size w w')) := fun W' hW' =>
        (eqTreeT A1 A2 zs c1 c2 W' (by omega) (h2.be hW'.out) (h4.be hW'.out)).mono fun e w' ⟨he, hb'⟩ => ⟨he, btr hW'.out hb'⟩
      have K0 : Hid (Below w.heap.size w wr.drew) := hb.out.drew
      obtain ⟨d1, d2⟩ := HC.out _ K0
      obtain ⟨e1, e2⟩ := HC.out _ hb
      clear hat hc hc' h1 h2 h3 h4 hbl hbl' hkz
      go_wp2
      go_region_held3 (fun w' => w'.cell? ⟨b, k, none⟩ = some (.slice A1 zs.length c1) ∧ w'.cell? ⟨b', k, none⟩ = some (.slice A2 zs.length c2)) (first | exact ⟨d1, d2⟩ | exact HC.out _ (by assumption)) (first | (go_at_call 136; refine (HE.out _ K0).mono ?_; rintro e w7 ⟨rfl, hb7⟩))
      clear d1 d2 e1 e2 K0 HE HC hb
      go_wp2
      go_roundw
      case rel => exact ⟨k + 1, by omega, by go_num, hb7⟩
      case measure => simp [intOf]; omega
    · obtain rfl : k = n := by omega
      have hge : ¬ (k : Int) < (k : Int) := by omega
      go_wp2
      go_ret
      exact ⟨rfl, hb.out⟩


/-- behind a write into one row -/
theorem Woods.set {w w' : World} {B : Nat} {v : Value} {hs : List Hdr} {zss zss' : List (List Int)} {k : Nat} {h' : Hdr} {ys : List Int} (h : Woods w B v hs zss) (hk : hs[k]? = some h') (hl : zss'.length = zss.length) (ho : ∀ j, j ≠ k → zss'[j]? = zss[j]?) (hy : zss'[k]? = some ys)
    (hown : Own64 w' B (hdr h') ys) (hg : w.grownBy w' (some h'.1)) : Woods w' B v hs zss' := by
  refine ⟨h.row.kept hg (.inr (h.off (List.mem_of_getElem? hk))), by rw [hl]; exact h.len, fun j h2 zs hj hz => ?_, h.apart⟩
  by_cases hjk : j = k
  · subst hjk
    rw [hk] at hj
    rw [hy] at hz
    injection hj with hj
    injection hz with hz
    subst hj
    subst hz
    exact hown
  · rw [ho j hjk] at hz
    exact (h.each j h2 zs hj hz).kept hg (.inr fun e => h.apart j k h2 h' hj hk hjk (by injection e))

set_option maxRecDepth 100000 in
set_option maxHeartbeats 2000000 in
theorem markTreeS (A : Option Addr) (n c : Nat) (hs : List Hdr) (zss : List (List Int)) (m : Int) (B : Nat) (w : World) (hn : Hid (zss.length = n)) (hn' : n ≤ 100000000) (hT : Hid (M.tot zss ≤ 2000000000)) (hm : 0 ≤ m) (hm' : m ≤ 100000000000) (hB : B ≤ w.heap.size) (hW : Hid (Woods w B (.slice A n c) hs zss)) :
    Calls Try.prog 138 #[.slice A n c, .int .i64 m] w fun e w' => e = .returned (.int .i64 (m + (M.tot zss : Int))) ∧ Woods w' B (.slice A n c) hs (M.partM m zss n) ∧ Below B w w' ∧ (∀ j, j < w.heap.size → (∀ h' ∈ hs, h'.1 ≠ j) → w'.heap[j]? = w.heap[j]?) := by
  go_enter Try.func138, Try.ntmps138
  go_wp2
  go_loopw [1, 5] (fun q i wr => ∃ k : Nat, k ≤ n ∧ i = .int .i64 (k : Int) ∧ q = .int .i64 (m + (M.tot (zss.take k) : Int)) ∧ Hid (Woods wr B (.slice A n c) hs (M.partM m zss k)) ∧ Hid (Below B w wr) ∧ Hid (∀ j, j < w.heap.size → (∀ h' ∈ hs, h'.1 ≠ j) → wr.heap[j]? = w.heap[j]?)) (fun _ i _ => n - (intOf i).toNat)
  case atStart => exact ⟨0, Nat.zero_le _, rfl, by simp [M.tot], by rw [M.partM_zero]; exact hW, Below.refl _ _, fun _ _ _ => rfl⟩
  case round =>
    obtain ⟨k, hk, rfl, rfl, hWk, hb, hfr⟩ := hrel
    clear hW
    by_cases hlt : k < n
    · have hki : (k : Int) < (n : Int) := by omega
      have hk0 : (0 : Int) ≤ (k : Int) := by omega
      have hkz : k < zss.length := by rw [hn.out]; exact hlt
      have hat : zss[k]? = some zss[k] := List.getElem?_eq_getElem hkz
      have hzk := M.tot_mem (List.mem_of_getElem? hat)
      have hT2 := hT.out
      generalize zss[k] = zs at hat hzk
      have htk := M.tot_take_le zss k
      have hts := Lib.hid (M.tot_take hat)
      obtain ⟨t, ht⟩ : ∃ t, Hid (M.tot (zss.take k) = t) := ⟨_, rfl⟩
      rw [ht.out] at hts htk ⊢
      obtain ⟨g, hA⟩ := hWk.out.shape.2 (by omega)
      subst hA
      obtain ⟨h', hk', ho, hl⟩ := hWk.out.at_ (M.partM_hi (m := m) hat (Nat.lt_irrefl k))
      have hcl := hWk.out.cell hk'
      obtain ⟨g', mm, c'⟩ := h'
      simp only at hl hcl
      subst hl
      have HM := Lib.hid (markInts (some ⟨g', 0, none⟩) zs.length c' zs (m + (t : Int)) B wr rfl (by omega) (by omega) (by omega) ho)
      have Hat := Lib.hid hat
      have Hk' := Lib.hid hk'
      have hzr := hb.out.size
      clear hat hk' ho hkz
      go_wp2_with fail
      refine HM.out.mono ?_
      rintro e w7 ⟨rfl, ho7, hg7⟩
      have hW7 : Hid (Woods w7 B (.slice (some ⟨g, 0, none⟩) n c) hs (M.partM m zss (k + 1))) := by
        refine hWk.out.set Hk'.out (by rw [M.partM_len, M.partM_len]) (fun j hj => M.partM_other hj) (M.partM_lo Hat.out (Nat.lt_succ_self k)) ?_ hg7
        rw [ht.out]
        exact ho7
      have hb7 : Hid (Below B w w7) := hb.out.grown hg7 (by omega) (fun j e => by
        have h1 := (hWk.out.lt (List.mem_of_getElem? Hk'.out)).1
        have h2 : g' = j := by injection e
        simp only at h1
        omega)
      have hfr7 : Hid (∀ j, j < w.heap.size → (∀ h' ∈ hs, h'.1 ≠ j) → w7.heap[j]? = w.heap[j]?) := fun j hj hh => (hg7.block j (Nat.lt_of_lt_of_le hj hzr) (fun e => by
        have h2 : j = g' := by injection e
        exact hh _ (List.mem_of_getElem? Hk'.out) h2.symm)).trans (hfr.out j hj hh)
      clear HM ho7 hg7 hWk hb hcl hfr
      go_wp2
      go_roundw
      case rel => exact ⟨k + 1, by omega, by go_num, by rw [hts.out]; go_num, hW7, hb7, hfr7⟩
      case measure => simp [intOf]; omega
    · obtain rfl : k = n := by omega
      have hge : ¬ (k : Int) < (k : Int) := by omega
      have htot : Hid (M.tot (zss.take k) = M.tot zss) := by show _ = _; rw [List.take_of_length_le (by rw [hn.out]; exact Nat.le_refl _)]
      rw [htot.out]
      go_wp2
      go_ret
      exact ⟨rfl, hWk.out, hb.out, fun j hj hh => hfr.out j hj (fun h' hh' => hh h'.1 h'.2.1 h'.2.2 hh')⟩

set_option maxRecDepth 100000 in
set_option maxHeartbeats 2000000 in
theorem heldTreeS (A : Option Addr) (n c : Nat) (zss : List (List Int)) (m : Int) (w : World) (hn : Hid (zss.length = n)) (hn' : n ≤ 100000) (hz : Hid (∀ zs ∈ zss, zs.length ≤ 100000)) (hm : 0 ≤ m) (hm' : m ≤ 100000000000) (h : Hid (Trees w A (M.partM m zss n))) :
    Calls Try.prog 139 #[.slice A n c, .int .i64 m] w fun e w' => e = .returned (.int .i64 (m + (M.tot zss : Int))) ∧ Below w.heap.size w w' := by
  go_enter Try.func139, Try.ntmps139
  go_wp2
  go_loopw [1, 5] (fun q i wr => ∃ k : Nat, k ≤ n ∧ i = .int .i64 (k : Int) ∧ q = .int .i64 (m + (M.tot (zss.take k) : Int)) ∧ Hid (Below w.heap.size w wr)) (fun _ i _ => n - (intOf i).toNat)
  case atStart => exact ⟨0, Nat.zero_le _, rfl, by simp [M.tot], b0 w⟩
  case round =>
    obtain ⟨k, hk, rfl, rfl, hb⟩ := hrel
    by_cases hlt : k < n
    · have hki : (k : Int) < (n : Int) := by omega
      have hk0 : (0 : Int) ≤ (k : Int) := by omega
      have hkz : k < zss.length := by rw [hn.out]; exact hlt
      have hat : zss[k]? = some zss[k] := List.getElem?_eq_getElem hkz
      have hzk := hz.out _ (List.mem_of_getElem? hat)
      generalize zss[k] = zs at hat hzk
      have htk := M.tot_le (zss := zss.take k) (b := 100000) (fun z hz' => hz.out z (List.mem_of_mem_take hz'))
      have hkl : (zss.take k).length = k := by rw [List.length_take]; omega
      rw [hkl] at htk
      have hts := Lib.hid (M.tot_take hat)
      obtain ⟨t, ht⟩ : ∃ t, Hid (M.tot (zss.take k) = t) := ⟨_, rfl⟩
      have hpl := M.partM_lo (m := m) hat hlt
      rw [ht.out] at hts htk hpl ⊢
      obtain ⟨b, rfl, hbl, hc⟩ := h.out (by rw [M.partM_len]; omega)
      obtain ⟨A1, c1, h1, h2⟩ := hc k _ hpl
      rw [marks_length] at h1
      have hcl : wr.cell? ⟨b, k, none⟩ = some (.slice A1 zs.length c1) := (hb.out.cell (p := ⟨b, k, none⟩) hbl).trans h1
      have HM := Lib.hid (heldInts A1 zs.length c1 (m + (t : Int)) wr (by omega) (by omega) (by omega) (h2.be hb.out))
      have hpos : ¬ m + (t : Int) + (zs.length : Int) < 0 := by omega
      clear hat hkz hkl hc h1 h2 hpl
      go_wp2_with fail
      refine HM.out.mono ?_
      rintro e w7 ⟨rfl, rfl⟩
      go_wp2
      go_roundw
      case rel => exact ⟨k + 1, by omega, by go_num, by rw [hts.out]; go_num, hb⟩
      case measure => simp [intOf]; omega
    · obtain rfl : k = n := by omega
      have hge : ¬ (k : Int) < (k : Int) := by omega
      have htot : Hid (M.tot (zss.take k) = M.tot zss) := by show _ = _; rw [List.take_of_length_le (by rw [hn.out]; exact Nat.le_refl _)]
      rw [htot.out]
      go_wp2
      go_ret
      exact ⟨rfl, hb.out⟩
end Go.Proofs.Ytdgcjkgbglofbaa

/- What functions of a tree, or of numbers, must do, as F says. -/
namespace Go.Proofs.Ytdgcjkgbglofbaa
open Go.RowKit

/-- a tree to a tree and a code -/
def GivesTree (f : Nat) (F : List Int → List Int × Int) : Prop :=
  ∀ (A : Option Addr) (xs : List Int) (c : Nat) (w : World), xs.length ≤ 1048576 → xs.length ≤ c ∧ c ≤ 9223372036854775807 → Ints w w.heap.size A xs →
    Calls Try.prog f #[.agg #[.slice A xs.length c]] w fun e w' => ∃ A' c', e = .returned (.tuple #[.agg #[.slice A' (F xs).1.length c'], .int .i64 (F xs).2]) ∧
      Own64 w' w.heap.size (.slice A' (F xs).1.length c') (F xs).1 ∧ Below w.heap.size w w'
/-- a tree to a number and a code -/
def GivesNum (f : Nat) (F : List Int → Int × Int) : Prop :=
  ∀ (A : Option Addr) (xs : List Int) (c : Nat) (w : World), xs.length ≤ 1048576 → xs.length ≤ c ∧ c ≤ 9223372036854775807 → Ints w w.heap.size A xs →
    Calls Try.prog f #[.agg #[.slice A xs.length c]] w fun e w' => e = .returned (.tuple #[.int .i64 (F xs).1, .int .i64 (F xs).2]) ∧ Below w.heap.size w w'
/-- what a function of a tree that hands back a text and a code must do, as F says -/
def GivesText (f : Nat) (F : List Int → ByteArray × Int) : Prop :=
  ∀ (A : Option Addr) (xs : List Int) (c : Nat) (w : World), xs.length ≤ 1048576 → xs.length ≤ c ∧ c ≤ 9223372036854775807 → Ints w w.heap.size A xs →
    Calls Try.prog f #[.agg #[.slice A xs.length c]] w fun e w' => e = .returned (.tuple #[.string (F xs).1, .int .i64 (F xs).2]) ∧ Below w.heap.size w w'
/-- a number to a tree and a code -/
def GivesTreeN1 (f : Nat) (F : Int → List Int × Int) : Prop :=
  ∀ (n : Int) (w : World), -9223372036854775808 ≤ n → n ≤ 9223372036854775807 →
    Calls Try.prog f #[.int .i64 n] w fun e w' => ∃ A' c', e = .returned (.tuple #[.agg #[.slice A' (F n).1.length c'], .int .i64 (F n).2]) ∧ Own64 w' w.heap.size (.slice A' (F n).1.length c') (F n).1 ∧ Below w.heap.size w w'
/-- two numbers to a tree and a code -/
def GivesTreeN2 (f : Nat) (F : Int → Int → List Int × Int) : Prop :=
  ∀ (n r : Int) (w : World), -9223372036854775808 ≤ n → n ≤ 9223372036854775807 → -9223372036854775808 ≤ r → r ≤ 9223372036854775807 →
    Calls Try.prog f #[.int .i64 n, .int .i64 r] w fun e w' => ∃ A' c', e = .returned (.tuple #[.agg #[.slice A' (F n r).1.length c'], .int .i64 (F n r).2]) ∧ Own64 w' w.heap.size (.slice A' (F n r).1.length c') (F n r).1 ∧ Below w.heap.size w w'
/-- a number to a number and a code -/
def GivesNumN1 (f : Nat) (F : Int → Int × Int) : Prop :=
  ∀ (n : Int) (w : World), -9223372036854775808 ≤ n → n ≤ 9223372036854775807 →
    Calls Try.prog f #[.int .i64 n] w fun e w' => e = .returned (.tuple #[.int .i64 (F n).1, .int .i64 (F n).2]) ∧ Below w.heap.size w w'
/-- two numbers to a number and a code -/
def GivesNumN2 (f : Nat) (F : Int → Int → Int × Int) : Prop :=
  ∀ (n r : Int) (w : World), -9223372036854775808 ≤ n → n ≤ 9223372036854775807 → -9223372036854775808 ≤ r → r ≤ 9223372036854775807 →
    Calls Try.prog f #[.int .i64 n, .int .i64 r] w fun e w' => e = .returned (.tuple #[.int .i64 (F n r).1, .int .i64 (F n r).2]) ∧ Below w.heap.size w w'
/-- numbers of a list to a number and a code -/
def GivesNumI (f : Nat) (F : List Int → Int × Int) : Prop :=
  ∀ (A : Option Addr) (xs : List Int) (c : Nat) (w : World), xs.length ≤ 1048576 → xs.length ≤ c ∧ c ≤ 9223372036854775807 → Ints w w.heap.size A xs → (∀ x ∈ xs, -9223372036854775808 ≤ x ∧ x ≤ 9223372036854775807) →
    Calls Try.prog f #[.slice A xs.length c] w fun e w' => e = .returned (.tuple #[.int .i64 (F xs).1, .int .i64 (F xs).2]) ∧ Below w.heap.size w w'
/-- what a function of a tree and a number that hands back a tree and a code must do, as F says -/
def GivesTree1 (f : Nat) (F : List Int → Int → List Int × Int) : Prop :=
  ∀ (A : Option Addr) (xs : List Int) (c : Nat) (v : Int) (w : World), xs.length ≤ 1048576 → xs.length ≤ c ∧ c ≤ 9223372036854775807 → Ints w w.heap.size A xs →
    Calls Try.prog f #[.agg #[.slice A xs.length c], .int .i64 v] w fun e w' => ∃ A' c', e = .returned (.tuple #[.agg #[.slice A' (F xs v).1.length c'], .int .i64 (F xs v).2]) ∧
      Own64 w' w.heap.size (.slice A' (F xs v).1.length c') (F xs v).1 ∧ Below w.heap.size w w'
/-- what a function of a tree and a number that hands back a list and a code must do, as F says -/
def GivesList1 (f : Nat) (F : List Int → Int → List Int × Int) : Prop :=
  ∀ (A : Option Addr) (xs : List Int) (c : Nat) (v : Int) (w : World), xs.length ≤ 1048576 → xs.length ≤ c ∧ c ≤ 9223372036854775807 → Ints w w.heap.size A xs →
    Calls Try.prog f #[.agg #[.slice A xs.length c], .int .i64 v] w fun e w' => ∃ A' c', e = .returned (.tuple #[.slice A' (F xs v).1.length c', .int .i64 (F xs v).2]) ∧
      Own64 w' w.heap.size (.slice A' (F xs v).1.length c') (F xs v).1 ∧ Below w.heap.size w w'
end Go.Proofs.Ytdgcjkgbglofbaa

/- What functions of a tree that hand back rows of rows, or lists of trees, and a code must do, as F says. -/
namespace Go.Proofs.Ytdgcjkgbglofbaa
open Go.RowKit

/-- a tree to rows of rows and a code -/
def GivesRows (f : Nat) (F : List Int → List (List Int) × Int) : Prop :=
  ∀ (A : Option Addr) (xs : List Int) (c : Nat) (w : World), xs.length ≤ 1048576 → xs.length ≤ c ∧ c ≤ 9223372036854775807 → Ints w w.heap.size A xs →
    Calls Try.prog f #[.agg #[.slice A xs.length c]] w fun e w' => ∃ A' c' hs, e = .returned (.tuple #[.slice A' (F xs).1.length c', .int .i64 (F xs).2]) ∧ Rws w' w.heap.size (.slice A' (F xs).1.length c') hs (F xs).1 ∧ Below w.heap.size w w'
/-- a tree to a list of trees and a code -/
def GivesTrees (f : Nat) (F : List Int → List (List Int) × Int) : Prop :=
  ∀ (A : Option Addr) (xs : List Int) (c : Nat) (w : World), xs.length ≤ 1048576 → xs.length ≤ c ∧ c ≤ 9223372036854775807 → Ints w w.heap.size A xs →
    Calls Try.prog f #[.agg #[.slice A xs.length c]] w fun e w' => ∃ A' c' hs, e = .returned (.tuple #[.slice A' (F xs).1.length c', .int .i64 (F xs).2]) ∧ Woods w' w.heap.size (.slice A' (F xs).1.length c') hs (F xs).1 ∧ Below w.heap.size w w'
end Go.Proofs.Ytdgcjkgbglofbaa

/- Append of one row to rows of rows, with what else is kept; rows of other elements lie in other blocks. -/
namespace Go.Proofs.Ytdgcjkgbglofbaa
open Go.RowKit

theorem grown_over {w w1 : World} {o : Obj} {r : Option Nat} (h : (w.alloc o).grownBy w1 r) : w.grownBy w1 r :=
  ⟨h.1, h.2, h.3, Nat.le_trans (by simp) h.size, fun k hk hne => (h.block k (by simp; omega) hne).trans (Below.heap_alloc w o k hk)⟩

/-- rows of other elements lie in other blocks -/
theorem own_off2 {w : World} {B B' e e' size size' n n' : Nat} {v v' : Value} {xs xs' : List Value} (h : w.ownsRow B e size v n xs) (h' : w.ownsRow B' e' size' v' n' xs') (he : e ≠ e') {k : Nat} (hk : v.ownBlock = some k) : v'.ownBlock ≠ some k := by
  intro hk'
  rcases h.2 with ⟨e0, _⟩ | ⟨g, cap, cur, hv, _, hg, _⟩
  · rw [e0] at hk; cases hk
  · rcases h'.2 with ⟨e0, _⟩ | ⟨g', cap', cur', hv', _, hg', _⟩
    · rw [e0] at hk'; cases hk'
    · rw [hv] at hk
      rw [hv'] at hk'
      have e1 : g = k := by injection hk
      have e2 : g' = k := by injection hk'
      rw [e1] at hg
      rw [e2, hg] at hg'
      injection hg' with hg'
      injection hg' with _ hg'
      exact he hg'
theorem cellK {W w1 : World} (hb : Below W.heap.size W w1) {b o : Nat} {v : Value} (h : W.cell? ⟨b, o, none⟩ = some v) : w1.cell? ⟨b, o, none⟩ = some v := ((bcell hb).1 _ _ (World.block_lt_of_cell? _ _ h)).trans h
theorem frozenK {W w1 : World} (hb : Below W.heap.size W w1) {b o : Nat} (hl : b < W.heap.size) (h : W.frozen? ⟨b, o, none⟩ = false) : w1.frozen? ⟨b, o, none⟩ = false := ((bcell hb).2 _ _ hl).trans h

set_option maxRecDepth 100000 in
theorem pushRwsG {ops : Array Oper} {rest : List Oper} {o : Oper} {a : Act} {Q : Exit → Act → World → Prop} (hgd : o.guard = none) (s x : Operand)
    (ho : o.op = .call { callee := .builtin .append, args := #[s, x], argTypes := #[74, 74] }) (w : World) (B : Nat) (A : Option Addr) (n c : Nat) (hs : List Hdr) (zss : List (List Int)) (h0 : Hdr) (zs : List Int)
    (hs0 : a.eval s = .slice A n c) (hx : a.eval x = .slice (some ⟨w.heap.size, 0, none⟩) 1 1) (hW : Hid (Rws w B (.slice A n c) hs zss)) (hrow : Hid (Own64 w B (hdr h0) zs)) (hne : Hid ((Value.slice A n c).ownBlock ≠ some h0.1)) (hfr : Hid (∀ h' ∈ hs, h'.1 ≠ h0.1)) (hB : B ≤ w.heap.size) (hlen : n ≤ 1000000)
    (h : ∀ A' c' w', Hid (Rws w' B (.slice A' (n + 1) c') (hs ++ [h0]) (zss ++ [zs])) → Hid (Below B w w') → Hid (w.grownBy w' (Value.slice A n c).ownBlock) → wpList Try.prog ops Q rest (a.put o.dst (.slice A' (n + 1) c')) w') :
    wpList Try.prog ops Q (o :: rest) a (w.alloc (.cells #[hdr h0] 24)) := by
  obtain ⟨i0, hi0, hz0, hz1, hz2⟩ := info_parts infoRow
  have hn : hs.length = n := by rw [hW.out.len]; exact hW.out.shape.1.symm
  refine wpList_append_own_at _ hgd s x 74 ho B 24 i0 (.slice none 0 0) 1 24 Try.underlying74 hi0 hz0 hz1 hz2 rfl (by decide) _ hs.length (hs.map hdr) hs0 (hW.out.row.alloc _) ⟨w.heap.size, 0, none⟩ 1 1 [hdr h0] hx rfl (cell_one_new _ _ _) ?_ ?_ ?_ ?_ ?_
  · intro u hu; simp at hu; subst hu; rfl
  · unfold maxLen; omega
  · omega
  · simp; omega
  · intro v' w1 hown1 hg1 _ _
    obtain ⟨A', c', rfl⟩ : ∃ A' c', v' = .slice A' (hs.length + 1) c' := own_shape hown1
    have hres := rws_pushed hW.out hrow.out hne.out hfr.out hown1 hg1
    rw [hn] at hres ⊢
    exact h A' c' w1 hres (((Below.refl B w).alloc hB _).grown hg1 (by simp; omega) (fun k hk => (World.ownsRow.lt hW.out.row k hk).1)) (grown_over hg1)


/-- a row of numbers stays as it is when rows of rows grow -/
theorem own_keepG {w w' : World} {B B' : Nat} {u v : Value} {zs : List Int} {hs : List Hdr} {zss : List (List Int)} (h : Own64 w B' u zs) (hW : Rws w B v hs zss) (hg : w.grownBy w' v.ownBlock) : Own64 w' B' u zs := by
  refine h.kept hg ?_
  cases hu : u.ownBlock with
  | none => exact .inl rfl
  | some k => exact .inr fun e => own_off2 h hW.row (by decide) hu e.symm
end Go.Proofs.Ytdgcjkgbglofbaa

/- heavyIn and l08Heavy: the heavy children of all nodes. -/
namespace Go.Proofs.Ytdgcjkgbglofbaa
open Go.RowKit Go.Shelf
attribute [local go_sem] Oper.semAt_some

theorem boxed_row {W : World} {B g k : Nat} {t : TypeId} {v : Value} (h : Boxed W B t v) (hne : B ≠ g) (u : Value) : Boxed (W.setCell ⟨g, k, none⟩ u) B t v := (heap_setCell_other _ _ _ _ hne).trans h

namespace M
/-- the program's row: the nodes below k have theirs, node k what y tells, the others 0 -/
def hvRow (xs : List Int) (k : Nat) : List Int := rowOf xs.length fun i => if i < k then hvAt xs i else 0
theorem hvRow_len (xs : List Int) (k : Nat) : (hvRow xs k).length = xs.length := rowOf_len _ _
theorem hvRow_zero (xs : List Int) : hvRow xs 0 = List.replicate xs.length 0 := by
  rw [← rowOf_zero]
  exact rowOf_congr fun i _ => if_neg (by omega)
theorem hvRow_set {xs : List Int} {k : Nat} {y : Int} (hy : hvAt xs k = y) : (hvRow xs k).set k y = hvRow xs (k + 1) := by
  rw [hvRow, rowOf_set]
  refine rowOf_congr fun i _ => ?_
  by_cases e : i = k
  · subst e; rw [if_pos rfl, if_pos (by omega), hy]
  · rw [if_neg e]
    by_cases h : i < k
    · rw [if_pos h, if_pos (by omega)]
    · rw [if_neg h, if_neg (by omega)]
theorem hvRow_end (xs : List Int) : hvRow xs xs.length = heavy xs := rowOf_congr fun _ h => if_pos h
theorem hvRow_at {xs : List Int} (k : Nat) {i : Nat} (h : i < xs.length) : ∃ y, (hvRow xs k)[i]? = some y := ⟨_, rowOf_at _ h⟩
def hvL (xs : List Int) (k : Nat) : List Int := rowOf k (hvAt xs)
theorem hvL_succ {xs : List Int} {k : Nat} {y : Int} (hy : hvAt xs k = y) : hvL xs (k + 1) = hvL xs k ++ [y] := by rw [hvL, rowOf_succ, hy]; rfl
theorem hvL_len (xs : List Int) (k : Nat) : (hvL xs k).length = k := rowOf_len _ _
end M

set_option maxRecDepth 100000 in
set_option maxHeartbeats 8000000 in
theorem heavyIn_in (A : Option Addr) (xs : List Int) (c : Nat) (w : World) (hcl : xs.length ≤ c) (hcu : c ≤ 9223372036854775807) (ht : Hid (M.isTree xs = true)) (hI : Hid (Ints w w.heap.size A xs)) :
    CallsIn Fence.wide 5 Try.prog 230 #[.slice A xs.length c] w fun e w' => ∃ A' c', e = .returned (.slice A' xs.length c') ∧ Hid (Own64 w' w.heap.size (.slice A' xs.length c') (M.heavy xs)) ∧ Below w.heap.size w w' := by
  have hlen := M.tree_len ht.out
  have hx := hlen.2
  have hpos : 0 < xs.length := by omega
  have hmk := run_make_row' (P := Try.prog) 24 2 (.int .i64 0) 8 Try.underlying24 info64 rfl .i64 .i64 xs.length (by omega) (by omega)
  have Hstart := Lib.hid (own64_made (w := w.alloc (.cells #[.slice A xs.length c] 24)) (B := w.heap.size) (n := xs.length) (by simp) (by unfold maxLen; omega))
  have bG := Lib.hid (((Boxed.new w 24 (.slice A xs.length c)).alloc (.cells (madeCells #[.int .i64 0] xs.length) 2)).alloc (.cells #[.slice (some ⟨w.heap.size + 1, 0, none⟩) xs.length xs.length] 24))
  have bR := Boxed.new ((w.alloc (.cells #[.slice A xs.length c] 24)).alloc (.cells (madeCells #[.int .i64 0] xs.length) 2)) 24 (.slice (some ⟨w.heap.size + 1, 0, none⟩) xs.length xs.length)
  simp only [World.size_alloc] at bR Hstart
  have bR := Lib.hid bR
  have hB0 := Lib.hid (bal (bal (bal (b0 w) (.cells #[.slice A xs.length c] 24)) (.cells (madeCells #[.int .i64 0] xs.length) 2)) (.cells #[.slice (some ⟨w.heap.size + 1, 0, none⟩) xs.length xs.length] 24))
  have HSz : Hid (∀ (C S : Nat) (W : World), Hid (M.span 1 (xs.drop C) = S) → C < xs.length → Hid (Below w.heap.size w W) → Calls Try.prog 167 #[.slice A xs.length c, .int .i64 (C : Int)] W fun e w' => e = .returned (.int .i64 S) ∧ W = w') := fun C S W hS hC hW =>
    sizeAt A xs c C S W hS hx hcl (by omega) (Lib.hid (M.tree_ok ht.out hC)) (hI.out.be hW.out)
  refine callsIn_of_wp_marks Try.func230 rfl trivial ?_ rfl
  simp only [Try.ntmps230, List.size_toArray, List.length_cons, List.length_nil, Nat.reduceAdd, Nat.reduceSub, Array.replicate_succ, Array.replicate_zero, List.push_toArray, List.append_toArray, List.nil_append, List.cons_append]
  gi_wp2
  clear hmk
  refine wpIn_loop (fun a' wr => ∃ (k : Nat) (u4 u5 u15 u16 u17 u18 u19 u20 u21 u22 u36 : Value) (ds : List Deferred), (k ≤ xs.length ∧ Hid (Own64 wr w.heap.size (.slice (some ⟨w.heap.size + 1, 0, none⟩) xs.length xs.length) (M.hvRow xs k)) ∧
      Hid (Boxed wr w.heap.size 24 (.slice A xs.length c)) ∧ Hid (Boxed wr (w.heap.size + 1 + 1) 24 (.slice (some ⟨w.heap.size + 1, 0, none⟩) xs.length xs.length)) ∧ Hid (Below w.heap.size w wr) ∧ Hid (Marks (w.heap.size + 3) wr wr.heap.size ds)) ∧
      a' = { tmps := #[.slice A xs.length c, .pointer (some ⟨w.heap.size, 0, none⟩), .slice none 0 0, .pointer (some ⟨w.heap.size + 1 + 1, 0, none⟩), u4, u5, undef, undef, undef, .slice A xs.length c, .int .i64 xs.length, .slice (some ⟨w.heap.size + 1, 0, none⟩) xs.length xs.length, .slice (some ⟨w.heap.size + 1, 0, none⟩) xs.length xs.length, .int .i64 xs.length, .int .i64 k, u15, u16, u17, u18, u19, u20, u21, u22, undef, undef, undef, undef, undef, undef, undef, undef, undef, undef, undef, undef, undef, u36, undef], defers := ds })
    (fun a' _ => xs.length - (intOf (a'.tmps.getD 14 undef)).toNat) ?_ ?_
  · exact ⟨0, _, _, _, _, _, _, _, _, _, _, _, [], ⟨Nat.zero_le _, by rw [M.hvRow_zero]; exact own_be Hstart.out ((Below.refl _ _).alloc (by simp) _), bG, bR, hB0, trivial⟩, rfl⟩
  · rintro _ wr ⟨k, u4, u5, u15, u16, u17, u18, u19, u20, u21, u22, u36, ds, ⟨hk, ho, hbg, hbx, hbr, hmks⟩, rfl⟩
    clear Hstart bR bG hB0
    by_cases hlt : k < xs.length
    · obtain ⟨d, hd, hd2⟩ := M.tree_degN ht.out hlt
      have Hd := Lib.hid hd
      obtain ⟨y, hy⟩ := M.hvRow_at (xs := xs) k (i := k) hlt
      have hrl : Hid ((M.hvRow xs k).length = xs.length) := M.hvRow_len _ _
      obtain ⟨c1, f1, _, hwr⟩ := own64_cell ho.out hrl.out hy
      have hs1 := Lib.hid (own64_set ho.out hrl.out k (-1))
      have cG := hbg.out.cell
      have cR := hbx.out.cell
      have hkn : (k : Int) < (xs.length : Int) := by omega
      have hk0 : (0 : Int) ≤ (k : Int) := by omega
      clear hy
      have cR1 := cell_al cR (.cells #[.int .i64 k] 3)
      have cG1 := cell_al cG (.cells #[.int .i64 k] 3)
      have hz2 := hbx.out.lt
      have hz0 := hbg.out.lt
      gi_wp2_with (refine ⟨trivial, ?_⟩; gi_at_call 275; refine (eachIn 4 A xs.length c k _).mono ?_; rintro e w' ⟨rfl, rfl⟩)
      obtain ⟨Y, hY⟩ : ∃ Y, Y = wr.setCell ⟨w.heap.size + 1, k, none⟩ (.int .i64 (-1)) := ⟨_, rfl⟩
      have hYs : Y.heap.size = wr.heap.size := by rw [hY]; simp
      have yO := hs1.out
      have yG : Boxed Y w.heap.size 24 (.slice A xs.length c) := by rw [hY]; exact boxed_row hbg.out (by omega) _
      have yR : Boxed Y (w.heap.size + 1 + 1) 24 (.slice (some ⟨w.heap.size + 1, 0, none⟩) xs.length xs.length) := by rw [hY]; exact boxed_row hbx.out (by omega) _
      have yB : Below w.heap.size w Y := by rw [hY]; exact below_setCell hbr.out (by omega) _
      have yM : Marks (w.heap.size + 3) Y wr.heap.size ds := by rw [hY]; exact hmks.out.keep fun D hD _ _ => heap_setCell_other _ _ _ _ (show D ≠ w.heap.size + 1 by omega)
      rw [← hY] at yO ⊢
      have bV := Boxed.new Y 3 (.int .i64 k)
      have bS := Boxed.new (Y.alloc (.cells #[.int .i64 k] 3)) 2 (.int .i64 0)
      have bD := Boxed.new ((Y.alloc (.cells #[.int .i64 k] 3)).alloc (.cells #[.int .i64 0] 2)) 24 (.slice A xs.length c)
      have bW := Boxed.new (((Y.alloc (.cells #[.int .i64 k] 3)).alloc (.cells #[.int .i64 0] 2)).alloc (.cells #[.slice A xs.length c] 24)) 2 (.int .i64 k)
      simp only [World.size_alloc, hYs] at bV bS bD bW
      have hBW := bal (bal (bal (bal yB (.cells #[.int .i64 k] 3)) (.cells #[.int .i64 0] 2)) (.cells #[.slice A xs.length c] 24)) (.cells #[.int .i64 k] 2)
      have bV := ((bV.alloc (.cells #[.int .i64 0] 2)).alloc (.cells #[.slice A xs.length c] 24)).alloc (.cells #[.int .i64 k] 2)
      have bS := (bS.alloc (.cells #[.slice A xs.length c] 24)).alloc (.cells #[.int .i64 k] 2)
      have bD := bD.alloc (.cells #[.int .i64 k] 2)
      have yG := (((yG.alloc (.cells #[.int .i64 k] 3)).alloc (.cells #[.int .i64 0] 2)).alloc (.cells #[.slice A xs.length c] 24)).alloc (.cells #[.int .i64 k] 2)
      have yR := (((yR.alloc (.cells #[.int .i64 k] 3)).alloc (.cells #[.int .i64 0] 2)).alloc (.cells #[.slice A xs.length c] 24)).alloc (.cells #[.int .i64 k] 2)
      have yO := (((yO.alloc (.cells #[.int .i64 k] 3)).alloc (.cells #[.int .i64 0] 2)).alloc (.cells #[.slice A xs.length c] 24)).alloc (.cells #[.int .i64 k] 2)
      have yM : Marks (w.heap.size + 3) ((((Y.alloc (.cells #[.int .i64 k] 3)).alloc (.cells #[.int .i64 0] 2)).alloc (.cells #[.slice A xs.length c] 24)).alloc (.cells #[.int .i64 k] 2)) wr.heap.size ds := yM.keep fun D _ hD hD3 => by
        have h1 := Below.heap_alloc Y (.cells #[.int .i64 k] 3) D (by omega)
        have h2 := Below.heap_alloc (Y.alloc (.cells #[.int .i64 k] 3)) (.cells #[.int .i64 0] 2) D (by simp; omega)
        have h3 := Below.heap_alloc ((Y.alloc (.cells #[.int .i64 k] 3)).alloc (.cells #[.int .i64 0] 2)) (.cells #[.slice A xs.length c] 24) D (by simp; omega)
        have h4 := Below.heap_alloc (((Y.alloc (.cells #[.int .i64 k] 3)).alloc (.cells #[.int .i64 0] 2)).alloc (.cells #[.slice A xs.length c] 24)) (.cells #[.int .i64 k] 2) D (by simp; omega)
        exact h4.trans (h3.trans (h2.trans h1))
      obtain ⟨W0, hW0⟩ : ∃ W0, W0 = ((((Y.alloc (.cells #[.int .i64 k] 3)).alloc (.cells #[.int .i64 0] 2)).alloc (.cells #[.slice A xs.length c] 24)).alloc (.cells #[.int .i64 k] 2)) := ⟨_, rfl⟩
      have hsz : W0.heap.size = wr.heap.size + 1 + 1 + 1 + 1 := by rw [hW0]; simp [hYs]
      rw [← hW0] at bV bS bD bW yG yR yO yM hBW ⊢
      clear hW0 hY cR1 cG1 cR cG c1 f1 ho hbg hbx hbr hmks hs1
      have hz1 := hBW.size
      have hKb := KeepK.b (n₀ := w.heap.size) (Bd := wr.heap.size + 1 + 1) (w := W0) (by omega) (by omega)
      have h15 : 1 ≤ 5 := by omega
      have hK : ∀ x, kidOr xs k d x < xs.length := fun x => by
        unfold kidOr
        split
        · exact M.kid_lt ht.out Hd.out (by omega)
        · exact hlt
      refine wpIn_rangeFunc_ownG (α := Nat) rfl h15 (gf := 332) (lb := #[.pointer (some ⟨wr.heap.size + 1 + 1 + 1, 0, none⟩), .pointer (some ⟨wr.heap.size + 1 + 1, 0, none⟩)]) rfl trivial (enters_of Try.func332 (by kernel_rfl) rfl)
        (each_stopsF (fun i => i) (fun x => #[.int .i64 (x : Int), .int .i64 (kidOr xs k d x : Int)]) 4 (by omega) (wr.heap.size + 1 + 1 + 1) (wr.heap.size + 1 + 1) w.heap.size A xs c k d hx hcl (by omega) ht Hd (fun i hi => by simp [kidOr, hi]) W0 bW.cell bD (hI.out.below hBW (Nat.le_refl _)) (by omega)) (fun h k => h.t k) hKb (Below.refl _ _) (fun _ => rfl)
        (fun pre W => ∃ h s : Int, (0 ≤ s ∧ s ≤ 24 ∧ (pre = List.range pre.length → pre.length ≤ d → M.hvTo xs k pre.length = (h, s))) ∧ Own64 W w.heap.size (.slice (some ⟨w.heap.size + 1, 0, none⟩) xs.length xs.length) ((M.hvRow xs k).set k h) ∧
          Boxed W (w.heap.size + 1 + 1) 24 (.slice (some ⟨w.heap.size + 1, 0, none⟩) xs.length xs.length) ∧ Boxed W w.heap.size 24 (.slice A xs.length c) ∧ Boxed W wr.heap.size 3 (.int .i64 k) ∧ Boxed W (wr.heap.size + 1) 2 (.int .i64 s) ∧ Below w.heap.size w W ∧ Marks (w.heap.size + 3) W wr.heap.size ds)
        (fun _ _ _ => False)
        (fun p X Z row hs hg hr => by
          obtain ⟨h, s, h1, h2, h3, h4, h5, h6, h7, h8⟩ := hs
          have hne : ∀ r, row = some r → wr.heap.size + 4 ≤ r := fun r e => by have := (hr r e).1; omega
          exact ⟨h, s, h1, h2.kept hg (.inr fun e => by have := hne (w.heap.size + 1) e.symm; omega), h3.kept hg (fun e => by have := hne _ e.symm; omega), h4.kept hg (fun e => by have := hne _ e.symm; omega), h5.kept hg (fun e => by have := hne _ e.symm; omega), h6.kept hg (fun e => by have := hne _ e.symm; omega), h7.grown hg h7.size (fun r e => by have := hne _ e; omega),
            h8.keep fun D _ hD hD3 => hg.block D (Array.getElem?_eq_some_iff.1 hD3).1 (fun e => by have := hne _ e.symm; omega)⟩)
        (fun _ _ _ _ _ hs _ _ => hs)
        ⟨-1, 0, ⟨by omega, by omega, fun _ _ => rfl⟩, yO, yR, yG, bV, bS, hBW, yM⟩
        (fun x => { tmps := #[.slice A xs.length c, .pointer (some ⟨w.heap.size, 0, none⟩), .slice none 0 0, .pointer (some ⟨w.heap.size + 1 + 1, 0, none⟩), .pointer (some ⟨wr.heap.size, 0, none⟩), .pointer (some ⟨wr.heap.size + 1, 0, none⟩), undef, .int .i64 (kidOr xs k d x : Int), undef, .slice A xs.length c, .int .i64 xs.length, .slice (some ⟨w.heap.size + 1, 0, none⟩) xs.length xs.length, .slice (some ⟨w.heap.size + 1, 0, none⟩) xs.length xs.length, .int .i64 xs.length, .int .i64 k, .bool true, .int .i64 k, .slice (some ⟨w.heap.size + 1, 0, none⟩) xs.length xs.length, .int .i64 k, .pointer (some ⟨w.heap.size + 1, k, none⟩), .slice A xs.length c, .int .i64 k, .func (.func 332) #[] #[.pointer (some ⟨wr.heap.size + 1 + 1 + 1, 0, none⟩), .pointer (some ⟨wr.heap.size + 1 + 1, 0, none⟩)], .int .i64 (x : Int), .int .i64 (kidOr xs k d x : Int), undef, undef, undef, undef, undef, undef, undef, undef, undef, undef, undef, u36, undef], defers := [] }) ?assign ?body ?done ?stop
      case assign =>
        intro l x W K hK
        gi_wp2
        exact hK
      case body =>
        rintro l pre x W ⟨h, s, ⟨hs0, hs1, hpp⟩, h2, h3, h4, h5, h6, h7, h8⟩ hpl
        have hCl := hK x
        obtain ⟨S, hS⟩ : ∃ S, Hid (M.span 1 (xs.drop (kidOr xs k d x)) = S) := ⟨_, rfl⟩
        have hS2 : S ≤ 24 := by have h1 := M.span_le (xs.drop (kidOr xs k d x)) 1; have h2 := hS.out; simp only [List.length_drop] at h1; omega
        have hnext : Hid (pre ++ [x] = List.range (pre ++ [x]).length → (pre ++ [x]).length ≤ d → (s < (S : Int) → M.hvTo xs k (pre ++ [x]).length = ((kidOr xs k d x : Int), (S : Int))) ∧ (¬ s < (S : Int) → M.hvTo xs k (pre ++ [x]).length = (h, s))) := fun e hd' => by
          simp only [List.length_append, List.length_cons, List.length_nil, Nat.zero_add] at e hd' ⊢
          rw [List.range_succ] at e
          obtain ⟨e1, e2⟩ := List.append_inj' e rfl
          injection e2 with e2
          have e3 : M.kidAt xs k pre.length = kidOr xs k d x := by rw [e2]; simp only [kidOr]; rw [if_pos (by omega)]
          exact ⟨fun hlt => M.hvTo_hit (hpp e1 (by omega)) e3 hS.out hlt, fun hlt => M.hvTo_miss (hpp e1 (by omega)) e3 hS.out hlt⟩
        have HS := Lib.hid (HSz.out (kidOr xs k d x) S W hS hCl h7)
        have hset := Lib.hid (own64_set h2 (by rw [List.length_set]; exact hrl.out) k (kidOr xs k d x : Int))
        obtain ⟨c1, f1, _, hwr2⟩ := own64_cell h2 (by rw [List.length_set]; exact hrl.out) (k := k) (x := h) (List.getElem?_set_self (by rw [hrl.out]; omega))
        have c3 := h3.cell
        have c4 := h4.cell
        have c5 := h5.cell
        have c6 := h6.cell
        have f6 := h6.frozen
        have H2 := Lib.hid h2
        have H3 := Lib.hid h3
        have H4 := Lib.hid h4
        have H5 := Lib.hid h5
        have H6 := Lib.hid h6
        have H7 := Lib.hid h7
        have H8 := Lib.hid h8
        rw [List.set_set] at hset
        generalize kidOr xs k d x = C at *
        clear hS hpp h2 h3 h4 h5 h6 h7 h8
        by_cases hsS : s < (S : Int)
        · have c6b : (W.setCell ⟨w.heap.size + 1, k, none⟩ (.int .i64 (C : Int))).cell? ⟨wr.heap.size + 1, 0, none⟩ = some (.int .i64 s) := (boxed_row (k := k) H6.out (show wr.heap.size + 1 ≠ w.heap.size + 1 by omega) (.int .i64 (C : Int))).cell
          have f6b : (W.setCell ⟨w.heap.size + 1, k, none⟩ (.int .i64 (C : Int))).frozen? ⟨wr.heap.size + 1, 0, none⟩ = false := (boxed_row (k := k) H6.out (show wr.heap.size + 1 ≠ w.heap.size + 1 by omega) (.int .i64 (C : Int))).frozen
          have hn2 := Lib.hid (fun e hd' => (hnext.out e hd').1 hsS)
          clear hnext
          gi_wp2_with (refine ⟨trivial, ?_⟩; gi_at_call 167; refine (CallsIn.inRound l (callsIn_wide.2 HS.out)).mono ?_; rintro e W1 ⟨rfl, rfl⟩)
          have k2 : KeepK w.heap.size (wr.heap.size + 1 + 1) W ((W.setCell ⟨w.heap.size + 1, k, none⟩ (.int .i64 (C : Int))).setCell ⟨wr.heap.size + 1, 0, none⟩ (.int .i64 (S : Int))) := ⟨below_setCell (below_setCell (Below.refl _ _) (by omega) _) (by omega) _, (heap_setCell_other _ _ _ _ (show wr.heap.size + 1 + 1 ≠ wr.heap.size + 1 by omega)).trans (heap_setCell_other _ _ _ _ (show wr.heap.size + 1 + 1 ≠ w.heap.size + 1 by omega))⟩
          refine ⟨((KeepsOthers.setCell W _ _).trans (KeepsOthers.setCell _ _ _)).from _, k2, (C : Int), (S : Int), ⟨by omega, by omega, hn2.out⟩, ownsRow_setCell_other hset.out (a := ⟨wr.heap.size + 1, 0, none⟩) (fun e => by injection e with e; have e' : w.heap.size + 1 = wr.heap.size + 1 := e; omega) _, boxed_row (boxed_row H3.out (by omega) _) (by omega) _, boxed_row (boxed_row H4.out (by omega) _) (by omega) _, boxed_row (boxed_row H5.out (by omega) _) (by omega) _, (boxed_row H6.out (by omega) _).set _, below_setCell (below_setCell H7.out (by omega) _) (by omega) _, H8.out.keep fun D hD hD2 _ => (heap_setCell_other _ _ _ _ (show D ≠ wr.heap.size + 1 by omega)).trans (heap_setCell_other _ _ _ _ (show D ≠ w.heap.size + 1 by omega))⟩
        · have hn2 := Lib.hid (fun e hd' => (hnext.out e hd').2 hsS)
          clear hnext hset
          gi_wp2_with (refine ⟨trivial, ?_⟩; gi_at_call 167; refine (CallsIn.inRound l (callsIn_wide.2 HS.out)).mono ?_; rintro e W1 ⟨rfl, rfl⟩)
          exact ⟨KeepsFrom.refl _ _, ⟨Below.refl _ _, rfl⟩, h, s, ⟨hs0, hs1, hn2.out⟩, H2.out, H3.out, H4.out, H5.out, H6.out, H7.out, H8.out⟩
      case done =>
        rintro D ys W hD rfl ⟨h, s, ⟨hs0, hs1, hpp⟩, h2, h3, h4, h5, h6, h7, h8⟩ hKd
        have hnx0 := hpp (by simp) (by simp)
        simp only [List.length_map, List.length_range] at hnx0
        have he : M.hvAt xs k = h := by rw [M.hvAt_eq Hd.out, hnx0]
        rw [M.hvRow_set he] at h2
        have H2 := Lib.hid h2
        have hDl := (Array.getElem?_eq_some_iff.1 hKd).1
        rw [hsz] at hD
        clear hpp hnx0 he h2
        gi_wp2
        refine ⟨⟨k + 1, _, _, _, _, _, _, _, _, _, _, _, { target := .collected D, args := #[] } :: ds, ⟨by omega, H2, h4, h3, h7, (show Marks _ _ _ _ from ⟨D, rfl, hDl, by omega, hKd, h8.mono (by omega)⟩)⟩, rfl⟩, ?_⟩
        simp [intOf]
        omega
      case stop =>
        rintro D c pre W _ _ h _
        exact h.elim
    · obtain rfl : k = xs.length := by omega
      have hc := hbx.out.cell
      have he : Hid (M.hvRow xs xs.length = M.heavy xs) := M.hvRow_end xs
      rw [he.out] at ho
      gi_wp2
      refine leaves_marks (B := w.heap.size + 3) (fun W => Own64 W w.heap.size (.slice (some ⟨w.heap.size + 1, 0, none⟩) xs.length xs.length) (M.heavy xs) ∧ Below w.heap.size w W) (fun W D hD h3 h => ⟨ownsRow_putObj h.1 _ h3 rfl, h.2.trans ((Below.refl _ W).grown (grownBy_putObj' W D _) h.2.size (fun k e => by cases e; omega))⟩) (fun W h => ?_) ds _ _ hmks.out ⟨ho.out, hbr.out⟩
      exact ⟨_, results_tmp rfl _ _ _, _, _, rfl, h.1, h.2⟩

theorem heavyIn (A : Option Addr) (xs : List Int) (c : Nat) (w : World) (hcl : xs.length ≤ c) (hcu : c ≤ 9223372036854775807) (ht : Hid (M.isTree xs = true)) (hI : Hid (Ints w w.heap.size A xs)) :
    Calls Try.prog 230 #[.slice A xs.length c] w fun e w' => ∃ A' c', e = .returned (.slice A' xs.length c') ∧ Hid (Own64 w' w.heap.size (.slice A' xs.length c') (M.heavy xs)) ∧ Below w.heap.size w w' :=
  (callsIn_wide (n := 5)).1 (heavyIn_in A xs c w hcl hcu ht hI)

set_option maxHeartbeats 4000000 in
set_option maxRecDepth 100000 in
theorem l08Heavy (A : Option Addr) (xs : List Int) (c : Nat) (w : World) (ht : Hid (M.isTree xs = true)) (h : Hid (Ints w w.heap.size A xs)) :
    Calls Try.prog 232 #[.agg #[.slice A xs.length c]] w fun e w' => ∃ A' c', e = .returned (.slice A' xs.length c') ∧ Hid (Own64 w' w.heap.size (.slice A' xs.length c') (M.heavy xs)) ∧ Below w.heap.size w w' := by
  have hlen := M.tree_len ht.out
  have hx := hlen.2
  have h0 : Hid (Own64 ((w.alloc (.cells #[.slice A xs.length c] 26)).alloc (.cells #[] 2)) (w.heap.size + 1) (.slice (some ⟨w.heap.size + 1, 0, none⟩) 0 0) (M.hvL xs 0)) := by
    have := own64_empty (w := w.alloc (.cells #[.slice A xs.length c] 26)) (B := w.heap.size + 1) (by simp)
    rw [World.size_alloc] at this
    exact this
  have hb0 : Hid (Below w.heap.size w ((w.alloc (.cells #[.slice A xs.length c] 26)).alloc (.cells #[] 2))) := bal (bal (b0 w) _) _
  have hcA : ((w.alloc (.cells #[.slice A xs.length c] 26)).alloc (.cells #[] 2)).cell? ⟨w.heap.size, 0, none⟩ = some (.slice A xs.length c) := cell_al (by simp) _
  have HcA0 := Lib.hid hcA
  clear hcA
  go_enter Try.func232, Try.ntmps232
  go_wp2
  go_loopw [3, 4, 5, 6, 7, 8, 9] (fun q i _ _ _ _ _ wr => ∃ (k : Nat) (A' : Option Addr) (n c' : Nat), k ≤ xs.length ∧ i = .int .i64 k ∧ q = .slice A' n c' ∧ Hid (Own64 wr (w.heap.size + 1) (.slice A' n c') (M.hvL xs k)) ∧ Hid (Below w.heap.size w wr) ∧ Hid (wr.cell? ⟨w.heap.size, 0, none⟩ = some (.slice A xs.length c)) ∧ w.heap.size + 1 ≤ wr.heap.size) (fun _ i _ _ _ _ _ _ => xs.length - (intOf i).toNat)
  case atStart => exact ⟨0, _, _, _, Nat.zero_le _, rfl, rfl, h0, hb0, HcA0, by simp⟩
  case round =>
    obtain ⟨k, A3, n, c3, hk, rfl, rfl, ho, hbr, HcA, hsz⟩ := hrel
    clear h0 hb0 HcA0
    have hnl : n = k := by have h1 := own64_len ho.out; rw [M.hvL_len] at h1; exact h1
    subst hnl
    have hcA := HcA.out
    by_cases hlt : n < xs.length
    · obtain ⟨d, hd, hd2⟩ := M.tree_degN ht.out hlt
      have Hd := Lib.hid hd
      have hkn : (n : Int) < (xs.length : Int) := by omega
      clear hd
      go_wp2_with fail
      refine (l01N A xs.length c _).mono ?_
      rintro e wn ⟨rfl, hb⟩
      have hbn := Lib.hid (btr hbr.out hb)
      have hon := Lib.hid (own_be ho.out hb)
      have HcN := Lib.hid (hb.cell (p := ⟨w.heap.size, 0, none⟩) (by show w.heap.size < _; omega) |>.trans HcA.out)
      have hsn := hb.size
      clear hb hcA
      have hcN := HcN.out
      go_wp2_with fail
      refine (l01Children A xs c n d _ hx ht Hd (h.out.be hbn.out)).mono ?_
      rintro e wk ⟨Ak, ck, rfl, hok, hb⟩
      have hbk := Lib.hid (btr hbn.out hb)
      have hok2 := Lib.hid (own_be hon.out hb)
      have HcK := Lib.hid (hb.cell (p := ⟨w.heap.size, 0, none⟩) (by show w.heap.size < _; omega) |>.trans HcN.out)
      have hsk := hb.size
      have Hk := Lib.hid (ints_of_own64 hok)
      clear hb hok hcN
      have hcK := HcK.out
      have hst : Hid (M.hvTo xs n 0 = (-1, 0)) := rfl
      go_wp2
      clear hcK
      go_loopw [6, 7, 8, 9] (fun qb qs qj _ wr => ∃ (j : Nat) (hh s : Int), j ≤ d ∧ qb = .int .i64 hh ∧ qs = .int .i64 s ∧ qj = .int .i64 (j : Int) ∧ 0 ≤ s ∧ s ≤ 24 ∧ Hid (M.hvTo xs n j = (hh, s)) ∧ Hid (Own64 wr (w.heap.size + 1) (.slice A3 n c3) (M.hvL xs n)) ∧ Hid (Below w.heap.size w wr) ∧ Hid (Below wk.heap.size wk wr)) (fun _ _ qj _ _ => d - (intOf qj).toNat)
      case atStart => exact ⟨0, -1, 0, Nat.zero_le _, rfl, rfl, rfl, by omega, by omega, hst, hok2, hbk, b0 wk⟩
      case round =>
        obtain ⟨j, hh, s, hj, rfl, rfl, rfl, hs0, hs1, hT, ho4, hb4, hbw⟩ := hrel
        clear hst
        have zr := hbw.out.size
        have HcR := Lib.hid (hbw.out.cell (p := ⟨w.heap.size, 0, none⟩) (by show w.heap.size < _; omega) |>.trans HcK.out)
        by_cases hjd : j < d
        · have hkl := M.kid_lt ht.out Hd.out (i := j) (by omega)
          have hok := Lib.hid (M.tree_ok ht.out hkl)
          obtain ⟨kb, ko, cv, rfl, hkb, g, hX⟩ := (Hk.out.be hbw.out).at_ (k := j) (by rw [M.childs_length]; exact hjd)
          have hcv := M.childs_at xs n (k := d) (i := j) hjd
          rw [hX.out] at hcv
          injection hcv with hcv
          obtain ⟨C, hC⟩ : ∃ C, Hid (M.kidAt xs n j = C) := ⟨_, rfl⟩
          rw [hC.out] at hcv hkl hok
          subst hcv
          obtain ⟨S, hS⟩ : ∃ S, Hid (M.span 1 (xs.drop C) = S) := ⟨_, rfl⟩
          have hS2 : S ≤ 24 ∧ C + S ≤ 48 := by have h1 := M.span_le (xs.drop C) 1; have h2 := hS.out; simp only [List.length_drop] at h1; omega
          obtain ⟨E, hE⟩ : ∃ E, Hid (C + M.span 1 (xs.drop C) = E) := ⟨_, rfl⟩
          have hES : (E : Int) - (C : Int) = (S : Int) := by have h1 := hE.out; have h2 := hS.out; omega
          have hhit := Lib.hid (fun hlt => M.hvTo_hit hT.out hC.out hS.out hlt)
          have hmiss := Lib.hid (fun hlt => M.hvTo_miss hT.out hC.out hS.out hlt)
          have hEn : ∀ W, Hid (Below wr.heap.size wr W) → Calls Try.prog 170 #[.agg #[.slice A xs.length c], .int .i64 (C : Int)] W fun e w' => e = .returned (.int .i64 (E : Int)) ∧ Hid (Below wr.heap.size wr w') := fun W hW =>
            (l01End A xs c C E W hE hx hok (h.out.be (hb4.out.trans (hW.out.mono hb4.out.size)))).mono fun e w' ⟨he, hb⟩ => ⟨he, btr hW.out hb⟩
          have HEn := Lib.hid hEn
          have hkeep : ∀ W, Hid (Below wr.heap.size wr W) → W.cell? ⟨w.heap.size, 0, none⟩ = some (.slice A xs.length c) ∧ W.cell? ⟨kb, ko + j, none⟩ = some (.int .i64 (C : Int)) := fun W hW =>
            ⟨(hW.out.cell (p := ⟨w.heap.size, 0, none⟩) (by show w.heap.size < _; omega)).trans HcR.out, (hW.out.cell (p := ⟨kb, ko + j, none⟩) hkb).trans g⟩
          have HKp := Lib.hid hkeep
          have hjd' : (j : Int) < (d : Int) := by omega
          have hj0 : (0 : Int) ≤ (j : Int) := by omega
          have hK0 : Hid (Below wr.heap.size wr wr.drew) := (Below.refl _ _).drew
          have g0 : wr.drew.cell? ⟨kb, ko + j, none⟩ = some (.int .i64 (C : Int)) := g
          have hc0 : wr.drew.cell? ⟨w.heap.size, 0, none⟩ = some (.slice A xs.length c) := HcR.out
          have hwrap : IntKind.i64.wrap ((E : Int) - (C : Int)) = (S : Int) := by rw [hES]; exact IntWalk.i64_in _ (by omega)
          clear hEn hkeep hX hT hC hS hE hES
          go_wp2
          go_region_held3 (fun w' => w'.cell? ⟨w.heap.size, 0, none⟩ = some (.slice A xs.length c) ∧ w'.cell? ⟨kb, ko + j, none⟩ = some (.int .i64 (C : Int)) ∧ Hid (Below wr.heap.size wr w')) (first | exact ⟨hc0, g0, hK0⟩ | exact ⟨(HKp.out _ (by assumption)).1, (HKp.out _ (by assumption)).2, by assumption⟩) (first | (go_at_call 170; refine (HEn.out _ (by assumption)).mono ?_; rintro e w7 ⟨rfl, hb7⟩))
          have g7 := (HKp.out _ hb7).2
          have ho7 := Lib.hid (own_be ho4.out hb7.out)
          have hb8 : Hid (Below w.heap.size w w7) := btr hb4.out hb7.out
          have hb9 : Hid (Below wk.heap.size wk w7) := btr hbw.out hb7.out
          clear HKp HEn g0 hc0 hK0 hwrap
          by_cases hsS : s < (S : Int)
          · have hT2 := Lib.hid (hhit.out (by omega))
            clear hhit hmiss
            go_wp2
            go_roundw
            case rel => exact ⟨j + 1, _, _, by omega, rfl, rfl, by go_num, by omega, by omega, hT2, ho7, hb8, hb9⟩
            case measure => simp [intOf]; omega
          · have hT2 := Lib.hid (hmiss.out (by omega))
            clear hhit hmiss
            go_wp2
            go_roundw
            case rel => exact ⟨j + 1, _, _, by omega, rfl, rfl, by go_num, by omega, by omega, hT2, ho7, hb8, hb9⟩
            case measure => simp [intOf]; omega
        · obtain rfl : j = d := by omega
          have hy : M.hvAt xs n = hh := by rw [M.hvAt_eq Hd.out, hT.out]
          have hs := Lib.hid (M.hvL_succ hy)
          have zr1 : w.heap.size + 1 ≤ wr.heap.size := by omega
          clear hT hy
          go_wp2_with (at_builtin; refine push64 rfl (.tmp 45) (.tmp 47) rfl wr (w.heap.size + 1) A3 n c3 (M.hvL xs n) hh rfl rfl ho4 zr1 (by omega) ?_; intro A5 c5 w5 ho5 hb5)
          have hc5 := (hb5.out.cell (p := ⟨w.heap.size, 0, none⟩) (by show w.heap.size < _; omega)).trans HcR.out
          have hs5 := hb5.out.size
          go_roundw
          case rel => exact ⟨n + 1, A5, n + 1, c5, by omega, by go_num, rfl, own64_eq ho5.out hs.out.symm, hb4.out.trans (hb5.out.mono (by omega)), hc5, by omega⟩
          case measure => simp [intOf]; omega
    · obtain rfl : n = xs.length := by omega
      have hge : ¬ (xs.length : Int) < (xs.length : Int) := by omega
      go_wp2_with fail
      refine (l01N A xs.length c _).mono ?_
      rintro e wn ⟨rfl, hb⟩
      have hbn := Lib.hid (btr hbr.out hb)
      have hon := Lib.hid (own_be ho.out hb)
      clear hb hcA
      go_wp2
      go_ret
      exact ⟨_, _, rfl, own_mono hon.out (by omega), hbn.out⟩
end Go.Proofs.Ytdgcjkgbglofbaa

/- l08Light: is a node the root, or no heavy child. -/
namespace Go.Proofs.Ytdgcjkgbglofbaa
open Go.RowKit

set_option maxHeartbeats 4000000 in
set_option maxRecDepth 100000 in
theorem l08Light (Ap Ah : Option Addr) (xs ps : List Int) (cp ch v : Nat) (w : World) (ht : Hid (M.isTree xs = true)) (hp : Hid (M.ParsOK xs ps)) (hv : v < xs.length) (h1 : Hid (Ints w w.heap.size Ap ps)) (h2 : Hid (Ints w w.heap.size Ah (M.heavy xs))) (b : Bool) (hb : Hid (M.isHeavy xs v = b)) :
    Calls Try.prog 233 #[.slice Ap xs.length cp, .slice Ah xs.length ch, .int .i64 (v : Int)] w fun e w' => e = .returned (.bool (!b)) ∧ w = w' := by
  have hx := (M.tree_len ht.out).2
  rcases Nat.eq_zero_or_pos v with h0 | h0
  · subst h0
    have hbf : b = false := by rw [← hb.out]; exact M.isHeavy_root ht.out
    subst hbf
    go_enter Try.func233, Try.ntmps233
    go_wp2
    go_ret
    exact ⟨rfl, rfl⟩
  · have hpl := hp.out.1
    obtain ⟨pb, po, x, rfl, hpb, gp, hX⟩ := h1.out.at_ (k := v) (by omega)
    obtain ⟨p, hq, hpv, _⟩ := M.par_has ht.out hp.out h0 hv
    have hX2 := hX.out
    rw [hq] at hX2
    injection hX2 with hX2
    subst hX2
    have hpx : p < xs.length := by omega
    obtain ⟨qb, qo, y, rfl, hqb, gq, hY⟩ := h2.out.at_ (k := p) (by rw [M.heavy_len]; exact hpx)
    have hY2 := hY.out
    rw [M.heavy_at xs hpx] at hY2
    injection hY2 with hY2
    have hbe : b = decide (y = (v : Int)) := by rw [← hb.out, M.isHeavy_par ht.out hp.out hv hq, hY2]
    have hv0 : ((v : Int) == 0) = false := by simp; omega
    have hvx : (v : Int) < (xs.length : Int) := by omega
    have hvn : (0 : Int) ≤ (v : Int) := by omega
    have hpx' : (p : Int) < (xs.length : Int) := by omega
    have hpn : (0 : Int) ≤ (p : Int) := by omega
    clear hX hY hq hb hY2 hpl
    by_cases hyv : y = (v : Int)
    · have hne : (y != (v : Int)) = false := by simp [hyv]
      have hbt : b = true := by rw [hbe]; exact decide_eq_true hyv
      subst hbt
      clear hbe hyv
      go_enter Try.func233, Try.ntmps233
      go_wp2
      go_ret
      exact ⟨rfl, rfl⟩
    · have hne : (y != (v : Int)) = true := by simp [hyv]
      have hbt : b = false := by rw [hbe]; exact decide_eq_false hyv
      subst hbt
      clear hbe hyv
      go_enter Try.func233, Try.ntmps233
      go_wp2
      go_ret
      exact ⟨rfl, rfl⟩
end Go.Proofs.Ytdgcjkgbglofbaa

/- Nodes beside each other and the even drawing: their mathematics. No program is named here. -/
namespace Go.Proofs.Ytdgcjkgbglofbaa
namespace M
/-- the first place from k on, of m more places, that holds x; -1 if there is none -/
def nextOf (ds : List Int) (x : Int) : Nat → Nat → Int
  | _, 0 => -1
  | k, m + 1 => if ds[k]? = some x then (k : Int) else nextOf ds x (k + 1) m
theorem nextOf_hit {ds : List Int} {x : Int} {k m : Nat} (h : ds[k]? = some x) : nextOf ds x k (m + 1) = (k : Int) := by rw [nextOf, if_pos h]
theorem nextOf_miss {ds : List Int} {x y : Int} {k m : Nat} (h : ds[k]? = some y) (hne : y ≠ x) : nextOf ds x k (m + 1) = nextOf ds x (k + 1) m := by
  rw [nextOf, if_neg (by rw [h]; intro e; injection e with e; exact hne e)]
theorem nextOf_none {ds : List Int} {x : Int} : ∀ (m k : Nat), (∀ j y, k ≤ j → j < k + m → ds[j]? = some y → y ≠ x) → nextOf ds x k m = -1 := by
  intro m
  induction m with
  | zero => intro k _; rfl
  | succ m ih =>
    intro k h
    rw [nextOf, if_neg (fun e => h k x (Nat.le_refl _) (by omega) e rfl)]
    exact ih (k + 1) fun j y h1 h2 h3 => h j y (by omega) (by omega) h3
theorem nextOf_first {ds : List Int} {x : Int} : ∀ (m k j : Nat), k ≤ j → j < k + m → ds[j]? = some x → (∀ i y, k ≤ i → i < j → ds[i]? = some y → y ≠ x) → nextOf ds x k m = (j : Int) := by
  intro m
  induction m with
  | zero => intro k j h1 h2; omega
  | succ m ih =>
    intro k j h1 h2 h3 h4
    rcases Nat.lt_or_ge k j with hk | hk
    · rw [nextOf, if_neg (fun e => h4 k x (Nat.le_refl _) hk e rfl)]
      exact ih (k + 1) j (by omega) (by omega) h3 fun i y h5 h6 h7 => h4 i y (by omega) h6 h7
    · obtain rfl : k = j := by omega
      exact nextOf_hit h3
/-- the node beside v -/
def besideAt (ds : List Int) (v : Nat) : Int := nextOf ds (ds[v]?.getD 0) (v + 1) (ds.length - (v + 1))
theorem besideAt_eq {ds : List Int} {v n : Nat} {x : Int} (h : ds[v]? = some x) (hn : ds.length = n) : besideAt ds v = nextOf ds x (v + 1) (n - (v + 1)) := by simp [besideAt, h, hn]
/-- the model's loop, from the back: the next node found among those from k on -/
def BesTo (ds : List Int) (x : Int) (k : Nat) (r : Int) : Prop := r = nextOf ds x k (ds.length - k)
theorem besTo_end {ds : List Int} {x : Int} {n : Nat} (hn : ds.length = n) : BesTo ds x n (-1) := by subst hn; simp [BesTo, nextOf]
theorem besTo_hit {ds : List Int} {x : Int} {k : Nat} (h : ds[k]? = some x) : BesTo ds x k (k : Int) := by
  have hk := (List.getElem?_eq_some_iff.1 h).1
  obtain ⟨m, hm⟩ : ∃ m, ds.length - k = m + 1 := ⟨ds.length - k - 1, by omega⟩
  rw [BesTo, hm, nextOf_hit h]
theorem besTo_miss {ds : List Int} {x y r : Int} {k : Nat} (h : ds[k]? = some y) (hne : y ≠ x) (hr : BesTo ds x (k + 1) r) : BesTo ds x k r := by
  have hk := (List.getElem?_eq_some_iff.1 h).1
  obtain ⟨m, hm⟩ : ∃ m, ds.length - k = m + 1 := ⟨ds.length - k - 1, by omega⟩
  rw [BesTo] at hr ⊢
  rw [hm, nextOf_miss h hne, hr]
  congr 1; omega
/-- beside each other: all nodes -/
def besides (ds : List Int) : List Int := rowOf ds.length (besideAt ds)
theorem besides_len (ds : List Int) : (besides ds).length = ds.length := rowOf_len _ _

/-- the program's row of the nodes beside the first k nodes, 0 elsewhere -/
def besRow (ds : List Int) (k : Nat) : List Int := rowOf ds.length fun i => if i < k then besideAt ds i else 0
theorem besRow_len (ds : List Int) (k : Nat) : (besRow ds k).length = ds.length := rowOf_len _ _
theorem besRow_zero (ds : List Int) : besRow ds 0 = List.replicate ds.length 0 := by
  rw [← rowOf_zero]
  exact rowOf_congr fun i _ => if_neg (by omega)
theorem besRow_set {ds : List Int} {k : Nat} {y : Int} (hy : besideAt ds k = y) : (besRow ds k).set k y = besRow ds (k + 1) := by
  rw [besRow, rowOf_set]
  refine rowOf_congr fun i _ => ?_
  by_cases e : i = k
  · subst e; rw [if_pos rfl, if_pos (by omega), hy]
  · rw [if_neg e]
    by_cases h : i < k
    · rw [if_pos h, if_pos (by omega)]
    · rw [if_neg h, if_neg (by omega)]
theorem besRow_end (ds : List Int) : besRow ds ds.length = besides ds := rowOf_congr fun _ h => if_pos h
theorem besRow_at {ds : List Int} (k : Nat) {i : Nat} (h : i < ds.length) : ∃ y, (besRow ds k)[i]? = some y := ⟨_, rowOf_at _ h⟩
/-- the model's row -/
def besL (ds : List Int) (k : Nat) : List Int := rowOf k (besideAt ds)
theorem besL_succ {ds : List Int} {k : Nat} {y : Int} (hy : besideAt ds k = y) : besL ds (k + 1) = besL ds k ++ [y] := by rw [besL, rowOf_succ, hy]; rfl
theorem besL_len (ds : List Int) (k : Nat) : (besL ds k).length = k := rowOf_len _ _
theorem besL_end (ds : List Int) : besL ds ds.length = besides ds := rfl
/-- the place of the first x in a list, -1 if there is none -/
def idxOf (l : List Int) (x : Int) : Int := nextOf l x 0 l.length
theorem nextOf_range (ds : List Int) (x : Int) : ∀ (m k : Nat), nextOf ds x k m = -1 ∨ ((k : Int) ≤ nextOf ds x k m ∧ nextOf ds x k m < (k : Int) + m) := by
  intro m
  induction m with
  | zero => intro k; exact .inl rfl
  | succ m ih =>
    intro k
    rw [nextOf]
    split
    · right; omega
    · rcases ih (k + 1) with h | h
      · exact .inl h
      · right; omega
theorem nextOf_drop (ds : List Int) (x : Int) (b : Nat) : ∀ (m k : Nat), nextOf ds x (b + k) m = (if nextOf (ds.drop b) x k m = -1 then -1 else (b : Int) + nextOf (ds.drop b) x k m) := by
  intro m
  induction m with
  | zero => intro k; rfl
  | succ m ih =>
    intro k
    rw [nextOf, nextOf, List.getElem?_drop]
    split
    · rw [if_neg (by omega)]; omega
    · exact ih (k + 1)
theorem beside_idx {ds : List Int} {v n : Nat} {x : Int} (h : ds[v]? = some x) (hn : ds.length = n) : besideAt ds v = (if 0 ≤ idxOf (ds.drop (v + 1)) x then (v : Int) + 1 + idxOf (ds.drop (v + 1)) x else -1) := by
  have e := nextOf_drop ds x (v + 1) (n - (v + 1)) 0
  rw [Nat.add_zero] at e
  rw [besideAt_eq h hn, e]
  have e2 : idxOf (ds.drop (v + 1)) x = nextOf (ds.drop (v + 1)) x 0 (n - (v + 1)) := by rw [idxOf, List.length_drop, hn]
  rw [e2]
  rcases nextOf_range (ds.drop (v + 1)) x (n - (v + 1)) 0 with h1 | h1
  · rw [h1]; rfl
  · rw [if_neg (by omega), if_pos (by omega)]; omega
theorem idxOf_range (l : List Int) (x : Int) : -1 ≤ idxOf l x ∧ idxOf l x < (l.length : Int) + 1 := by
  rcases nextOf_range l x l.length 0 with h | h
  · rw [idxOf, h]; omega
  · rw [idxOf]; omega

/-- half of a number, downwards -/
def half (n : Int) : Int := n / 2
theorem half_neg {n : Int} (_ : n < 0) : -((1 - n) / 2) = half n := by simp only [half]; omega
theorem half_pos {n : Int} (_ : 0 ≤ n) : n / 2 = half n := rfl
theorem half_shift (n : Int) : n.shiftRight 1 = half n := by
  rw [half]
  exact Int.shiftRight_eq_div_pow n 1
theorem half_bounds {n a b : Int} (h1 : 2 * a ≤ n) (h2 : n ≤ 2 * b) : a ≤ half n ∧ half n ≤ b := by simp only [half]; omega

/-- the columns of the leaves among the first k nodes, 0 elsewhere, and the next column -/
def evL (xs : List Int) : Nat → Int
  | 0 => 0
  | k + 1 => evL xs k + (if xs[k]? = some 0 then 2 else 0)
def evLeafRow (xs : List Int) (k : Nat) : List Int := rowOf xs.length fun i => if i < k ∧ xs[i]? = some 0 then evL xs i else 0
theorem evL_bounds (xs : List Int) : ∀ k, 0 ≤ evL xs k ∧ evL xs k ≤ 2 * k := by
  intro k
  induction k with
  | zero => simp [evL]
  | succ k ih => rw [evL]; split <;> omega
theorem evLeaf_zero (xs : List Int) : evLeafRow xs 0 = List.replicate xs.length 0 := by
  rw [← rowOf_zero]
  exact rowOf_congr fun i _ => if_neg (by omega)
theorem evLeaf_len (xs : List Int) (k : Nat) : (evLeafRow xs k).length = xs.length := rowOf_len _ _
theorem evLeaf_hit {xs : List Int} {k : Nat} {y : Int} (h : xs[k]? = some 0) (hy : evL xs k = y) : (evLeafRow xs k).set k y = evLeafRow xs (k + 1) ∧ evL xs (k + 1) = y + 2 := by
  refine ⟨?_, by rw [evL, if_pos h, hy]⟩
  rw [evLeafRow, rowOf_set]
  refine rowOf_congr fun i hi => ?_
  by_cases e : i = k
  · subst e; rw [if_pos rfl, if_pos ⟨by omega, h⟩, hy]
  · rw [if_neg e]
    by_cases hk : i < k ∧ xs[i]? = some 0
    · rw [if_pos hk, if_pos ⟨by omega, hk.2⟩]
    · rw [if_neg hk, if_neg (fun h' => hk ⟨by omega, h'.2⟩)]
theorem evLeaf_miss {xs : List Int} {k : Nat} {x : Int} (h : xs[k]? = some x) (hx : x ≠ 0) : evLeafRow xs k = evLeafRow xs (k + 1) ∧ evL xs (k + 1) = evL xs k := by
  have hne : ¬ xs[k]? = some 0 := by rw [h]; intro e; injection e with e; exact hx e
  refine ⟨rowOf_congr fun i hi => ?_, by rw [evL, if_neg hne]; omega⟩
  by_cases hk : i < k ∧ xs[i]? = some 0
  · rw [if_pos hk, if_pos ⟨by omega, hk.2⟩]
  · rw [if_neg hk, if_neg]
    rintro ⟨h1, h2⟩
    have e : i ≠ k := fun e => by subst e; exact hne h2
    exact hk ⟨by omega, h2⟩
/-- the even drawing, from the last node back to the node k -/
def evRow (xs : List Int) : Nat → List Int
  | 0 => evLeafRow xs xs.length
  | m + 1 => let r := evRow xs m; let v := xs.length - (m + 1)
             match (xs[v]?.getD 0).toNat with
             | 0 => r
             | d + 1 => r.set v (half (r[kidAt xs v 0]?.getD 0 + r[kidAt xs v d]?.getD 0))
theorem evRow_len (xs : List Int) : ∀ m, (evRow xs m).length = xs.length := by
  intro m
  induction m with
  | zero => exact evLeaf_len _ _
  | succ m ih => simp only [evRow]; split <;> simp [ih]
theorem evRow_leaf {xs : List Int} {m v : Nat} (hv : xs.length = v + (m + 1)) (hd : xs[v]? = some 0) : evRow xs (m + 1) = evRow xs m := by
  have e : xs.length - (m + 1) = v := by omega
  simp [evRow, e, hd]
theorem evRow_node {xs : List Int} {m v d : Nat} {x y : Int} (hv : xs.length = v + (m + 1)) (hd : xs[v]? = some ((d + 1 : Nat) : Int)) (hx : (evRow xs m)[kidAt xs v 0]? = some x) (hy : (evRow xs m)[kidAt xs v d]? = some y) :
    evRow xs (m + 1) = (evRow xs m).set v (half (x + y)) := by
  have e : xs.length - (m + 1) = v := by omega
  simp only [evRow, e, hd, Option.getD_some, Int.toNat_natCast, hx, hy]
theorem evRow_bounds {xs : List Int} (hx : xs.length ≤ 24) : ∀ m, ∀ z ∈ evRow xs m, 0 ≤ z ∧ z ≤ 48 := by
  intro m
  induction m with
  | zero =>
    intro z hz
    simp only [evRow, evLeafRow, rowOf, List.mem_map, List.mem_range] at hz
    obtain ⟨i, hi, h⟩ := hz
    have := evL_bounds xs i
    split at h <;> omega
  | succ m ih =>
    intro z hz
    simp only [evRow] at hz
    split at hz
    · exact ih z hz
    · rename_i d _
      rcases List.mem_or_eq_of_mem_set hz with h | h
      · exact ih z h
      · have hg : ∀ j : Nat, 0 ≤ (evRow xs m)[j]?.getD 0 ∧ (evRow xs m)[j]?.getD 0 ≤ 48 := fun j => by
          cases e : (evRow xs m)[j]? with
          | none => simp
          | some y => exact ih y (List.mem_of_getElem? e)
        have h1 := hg (kidAt xs (xs.length - (m + 1)) 0)
        have h2 := hg (kidAt xs (xs.length - (m + 1)) d)
        subst h
        exact half_bounds (by omega) (by omega)
def evens (xs : List Int) : List Int := evRow xs xs.length
theorem evens_len (xs : List Int) : (evens xs).length = xs.length := evRow_len _ _
end M
end Go.Proofs.Ytdgcjkgbglofbaa

/- slices.Index: the first place of a number. -/
namespace Go.Proofs.Ytdgcjkgbglofbaa
open Go.RowKit

namespace M
theorem nextOf_mem (l : List Int) (x : Int) : ∀ (m k : Nat), k + m = l.length → decide (0 ≤ nextOf l x k m) = decide (x ∈ l.drop k) := by
  intro m
  induction m with
  | zero => intro k h; rw [List.drop_of_length_le (by omega)]; simp [nextOf]
  | succ m ih =>
    intro k h
    obtain ⟨y, hy⟩ : ∃ y, l[k]? = some y := ⟨_, List.getElem?_eq_getElem (by omega)⟩
    by_cases hyx : y = x
    · subst hyx
      rw [nextOf_hit hy, drop_at hy, decide_eq_true (by omega), decide_eq_true List.mem_cons_self]
    · rw [nextOf_miss hy hyx, ih (k + 1) (by omega), drop_at hy]
      have e : (x ∈ y :: l.drop (k + 1)) = (x ∈ l.drop (k + 1)) := by
        rw [List.mem_cons]
        exact propext ⟨fun h => h.resolve_left (fun e => hyx e.symm), .inr⟩
      simp only [e]
theorem idxOf_mem (l : List Int) (x : Int) : decide (0 ≤ idxOf l x) = decide (x ∈ l) := by
  have := nextOf_mem l x l.length 0 (by omega)
  rw [List.drop_zero] at this
  exact this
end M

set_option maxHeartbeats 1000000 in
theorem indexFirst (A : Option Addr) (gs : List Int) (g c : Nat) (s : Int) (w : World) (hg : Hid (gs.length = g)) (hg' : g ≤ 1048576) (h : Hid (Ints w w.heap.size A gs)) (r : Int) (hr : Hid (M.idxOf gs s = r)) :
    Calls Try.prog 290 #[.slice A g c, .int .i64 s] w fun e w' => e = .returned (.int .i64 r) ∧ w = w' := by
  have h0 : Hid (M.nextOf gs s 0 (g - 0) = r) := by show _ = _; rw [← hr.out, M.idxOf, hg.out]; rfl
  clear hr
  go_enter Try.func290, Try.ntmps290
  go_wp2
  go_loopw [8] (fun i wr => ∃ k : Nat, k ≤ g ∧ i = .int .i64 (k : Int) ∧ w = wr ∧ Hid (M.nextOf gs s k (g - k) = r)) (fun i _ => g - (intOf i).toNat)
  case atStart => exact ⟨0, Nat.zero_le _, rfl, rfl, h0⟩
  case round =>
    obtain ⟨k, hk, rfl, rfl, hn⟩ := hrel
    clear h0
    by_cases hlt : k < g
    · have hki : (k : Int) < (g : Int) := by omega
      have hk0 : (0 : Int) ≤ (k : Int) := by omega
      obtain ⟨b, off, x, rfl, hbB, hc, hX⟩ := h.out.at_ (k := k) (by rw [hg.out]; exact hlt)
      have hm : g - k = g - (k + 1) + 1 := by omega
      by_cases hxs : s = x
      · subst hxs
        have hin : Hid ((k : Int) = r) := by show _ = _; rw [← hn.out, hm, M.nextOf_hit hX.out]
        clear hn hX hm
        go_wp2
        go_ret
        exact ⟨by rw [← hin.out]; rfl, rfl⟩
      · have hb : (s == x) = false := by simpa using hxs
        have hn2 : Hid (M.nextOf gs s (k + 1) (g - (k + 1)) = r) := by show _ = _; rw [← hn.out, hm, M.nextOf_miss hX.out (fun e => hxs e.symm)]
        clear hxs hn hX hm
        go_wp2
        go_roundw
        case rel => exact ⟨k + 1, by omega, by go_num, trivial, hn2⟩
        case measure => simp [intOf]; omega
    · obtain rfl : k = g := by omega
      have hge : ¬ (k : Int) < (k : Int) := by omega
      have hout : Hid (-1 = r) := by show _ = _; rw [← hn.out, Nat.sub_self]; rfl
      clear hn
      go_wp2
      go_ret
      exact ⟨by rw [← hout.out]; rfl, rfl⟩

theorem containsIs (A : Option Addr) (gs : List Int) (g c : Nat) (s : Int) (w : World) (hg : Hid (gs.length = g)) (hg' : g ≤ 1048576) (h : Hid (Ints w w.heap.size A gs)) (b : Bool) (hb : Hid (decide (s ∈ gs) = b)) :
    Calls Try.prog 231 #[.slice A g c, .int .i64 s] w fun e w' => e = .returned (.bool b) ∧ w = w' := by
  obtain ⟨r, hr⟩ : ∃ r, Hid (M.idxOf gs s = r) := ⟨_, rfl⟩
  have hd : decide ((0 : Int) ≤ r) = b := by rw [← hr.out, M.idxOf_mem, hb.out]
  go_enter Try.func231, Try.ntmps231
  go_wp2_with fail
  refine (indexFirst A gs g c s w hg hg' h r hr).mono ?_
  rintro e w' ⟨rfl, rfl⟩
  clear hr hb
  cases b
  · go_wp2
    go_ret
    exact ⟨rfl, rfl⟩
  · go_wp2
    go_ret
    exact ⟨rfl, rfl⟩
end Go.Proofs.Ytdgcjkgbglofbaa

/- HeavyPaths, the program's and the model's: all heavy paths, or a code. -/
namespace Go.Proofs.Ytdgcjkgbglofbaa
open Go.RowKit

namespace M
/-- the path from a node on, none behind a leaf -/
def hvRest (xs : List Int) (a : Int) : List Int := if 0 ≤ a then hvPath xs a.toNat else []
theorem hvPath_pos {xs : List Int} (ht : isTree xs = true) {v : Nat} (hv : v < xs.length) : (hvPath xs v).length = (hvPath xs v).length - 1 + 1 := by
  rcases hvAt_lt ht hv with h | ⟨c, h, _, _⟩
  · rw [hvPath_end hv h]; rfl
  · rw [hvPath_step ht hv h]; simp
/-- what is left to go -/
def hvM (n : Nat) (a : Int) : Nat := if a < 0 then 0 else ((n : Int) - a).toNat
theorem hvM_lt {n u : Nat} {y : Int} (hu : u < n) (h : y = -1 ∨ ∃ u' : Nat, y = (u' : Int) ∧ u < u') : hvM n y < hvM n (u : Int) := by
  simp only [hvM]
  rw [if_neg (show ¬ (u : Int) < 0 by omega)]
  rcases h with rfl | ⟨u', rfl, h1⟩
  · rw [if_pos (by omega)]; omega
  · rw [if_neg (by omega)]; omega
theorem hvRest_none (xs : List Int) : hvRest xs (-1) = [] := rfl
theorem hvRest_at (xs : List Int) (v : Nat) : hvRest xs (v : Int) = hvPath xs v := by simp [hvRest]
theorem hvRest_step {xs : List Int} (ht : isTree xs = true) {v : Nat} (hv : v < xs.length) : hvRest xs (v : Int) = (v : Int) :: hvRest xs (hvAt xs v) := by
  rw [hvRest_at]
  rcases hvAt_lt ht hv with h | ⟨c, h, _, _⟩
  · rw [hvPath_end hv h, h, hvRest_none]
  · rw [hvPath_step ht hv h, h, hvRest_at]
end M

theorem own_headR {w : World} {B n c : Nat} {A : Option Addr} {zs : List Int} (h : Own64 w B (.slice A n c) zs) (hz : 0 < n) : ∃ g, A = some ⟨g, 0, none⟩ ∧ B ≤ g ∧ g < w.heap.size := by
  have hl := own64_len h
  rcases h.2 with ⟨e, h0⟩ | ⟨g, cap, cur, hv, _⟩
  · omega
  · injection hv with e1
    subst e1
    exact ⟨g, rfl, World.ownsRow.lt h g rfl⟩

def F_HeavyPaths : List Int → List (List Int) × Int := M.heavyPaths
theorem hvPaths_small {xs : List Int} (ht : M.isTree xs = true) : ∀ k, k ≤ xs.length → ∀ zs ∈ M.hvPaths xs k, zs.length ≤ 24 := by
  intro k
  induction k with
  | zero => intro _ zs h; simp [M.hvPaths] at h
  | succ k ih =>
    intro hk zs h
    rw [M.hvPaths] at h
    split at h
    · exact ih (by omega) zs h
    · rcases List.mem_append.1 h with h | h
      · exact ih (by omega) zs h
      · simp at h
        subst h
        exact M.hvPath_le ht (by omega)
theorem F_HeavyPaths_len (xs : List Int) : (F_HeavyPaths xs).1.length ≤ 8192 ∧ ∀ zs ∈ (F_HeavyPaths xs).1, zs.length ≤ 24 := by
  cases ht : M.isTree xs
  · rw [F_HeavyPaths, M.heavyPaths_no ht]; simp
  · rw [F_HeavyPaths, M.heavyPaths_yes ht]
    have h2 := (M.tree_len ht).2
    have h3 := M.hvPaths_len xs xs.length
    exact ⟨by show (M.hvPaths xs xs.length).length ≤ _; omega, hvPaths_small ht _ (Nat.le_refl _)⟩

set_option maxHeartbeats 4000000 in
set_option maxRecDepth 100000 in
theorem impl_HeavyPaths : GivesRows 109 F_HeavyPaths := by
  intro A xs c w hx hcc h
  have hc := codeOf0 A xs c (w.alloc (.cells #[.slice A xs.length c] 26)) (by omega) (h.al _) _ rfl
  cases ht : M.isTree xs
  · rw [ht] at hc
    have HC := Lib.hid hc
    have hF : F_HeavyPaths xs = ([], 1) := M.heavyPaths_no ht
    rw [hF]
    clear hc ht hF
    go_enter Try.func109, Try.ntmps109
    go_wp2_with fail
    refine HC.out.mono ?_
    rintro e w1 ⟨rfl, hb⟩
    have hB := btr (bal (b0 w) _) hb
    go_wp2
    go_ret2
    exact ⟨none, 0, [], rfl, rws_nil _ _, hB⟩
  · rw [ht] at hc
    have HC := Lib.hid hc
    have hF : F_HeavyPaths xs = (M.hvPaths xs xs.length, 0) := M.heavyPaths_yes ht
    have Ht := Lib.hid ht
    have hlen := M.tree_len ht
    rw [hF]
    obtain ⟨Z, hZ⟩ : ∃ Z, Hid (M.hvPaths xs xs.length = Z) := ⟨_, rfl⟩
    rw [hZ.out]
    clear hc ht hF
    go_enter Try.func109, Try.ntmps109
    go_wp2_with fail
    refine HC.out.mono ?_
    rintro e w1 ⟨rfl, hb⟩
    have hB := Lib.hid (btr (bal (b0 w) _) hb)
    have hcell : w1.cell? ⟨w.heap.size, 0, none⟩ = some (.slice A xs.length c) := cell_be (by simp) hb
    have h1 := Lib.hid ((h.al _).be hb)
    have z1 := hB.out.size
    clear hb h HC
    go_wp2_with fail
    refine (heavyIn A xs c _ hcc.1 hcc.2 Ht h1).mono ?_
    rintro e w2 ⟨Ah, ch, rfl, ho, hb⟩
    have hB2 := Lib.hid (btr hB.out hb)
    have z2 := hB2.out.size
    have Hh := Lib.hid (ints_of_own64 ho.out)
    have h0 : Hid (Rws w2 w2.heap.size (.slice none 0 0) [] (M.hvPaths xs 0)) := rws_nil _ _
    have hb0 : Hid (Below w2.heap.size w2 w2) := b0 w2
    clear hb ho hcell h1
    go_wp2
    go_loopw [6, 7, 8, 9, 20] (fun q _ _ _ i wr => ∃ (k : Nat) (A' : Option Addr) (n c' : Nat) (hs : List Hdr), k ≤ xs.length ∧ i = .int .i64 (k : Int) ∧ q = .slice A' n c' ∧ Hid (Rws wr w2.heap.size (.slice A' n c') hs (M.hvPaths xs k)) ∧ Hid (Below w2.heap.size w2 wr)) (fun _ _ _ _ i _ => xs.length - (intOf i).toNat)
    case atStart => exact ⟨0, none, 0, 0, [], Nat.zero_le _, rfl, rfl, h0, hb0⟩
    case round =>
      obtain ⟨k, A', n, c', hs, hk, rfl, rfl, hW, hbr⟩ := hrel
      clear h0 hb0
      by_cases hlt : k < xs.length
      · have Hh2 := Lib.hid (Hh.out.be hbr.out)
        obtain ⟨b, hb⟩ : ∃ b, Hid (M.isHeavy xs k = b) := ⟨_, rfl⟩
        have hkn : (k : Int) < (xs.length : Int) := by omega
        have hnk : n ≤ k := by have h1 := hW.out.shape.1; have h2 := M.hvPaths_len xs k; omega
        cases b
        · have hs1 := Lib.hid (M.hvPaths_miss hb.out)
          have hst : Hid ([] ++ M.hvRest xs (k : Int) = M.hvPath xs k) := by show _ = _; rw [List.nil_append, M.hvRest_at]
          have hst0 : Hid (Own64 wr wr.heap.size (.slice none 0 0) []) := own64_nil _ _
          have hk24 := M.hvPath_le Ht.out hlt
          go_wp2_with (go_at_call 231; refine (containsIs Ah (M.heavy xs) xs.length ch (k : Int) _ (M.heavy_len xs) (by omega) Hh2 false hb).mono ?_; rintro e w' ⟨rfl, rfl⟩)
          obtain ⟨wo, rfl⟩ : ∃ wo : World, wo = wr := ⟨_, rfl⟩
          go_loopw [8, 9] (fun q qa wr => ∃ (a : Int) (pre : List Int) (A3 : Option Addr) (c3 : Nat), (a = -1 ∨ ∃ u : Nat, a = (u : Int) ∧ u < xs.length) ∧ qa = .int .i64 a ∧ q = .slice A3 pre.length c3 ∧ Hid (pre ++ M.hvRest xs a = M.hvPath xs k) ∧ Hid (Own64 wr wo.heap.size (.slice A3 pre.length c3) pre) ∧ Hid (Below wo.heap.size wo wr)) (fun _ qa _ => M.hvM xs.length (intOf qa))
          case atStart => exact ⟨(k : Int), [], none, 0, .inr ⟨k, rfl, hlt⟩, rfl, rfl, hst, hst0, b0 wo⟩
          case round =>
            obtain ⟨a, pre, A3, c3, ha, rfl, rfl, hpre, hop, hbo⟩ := hrel
            clear hst hst0
            have hpl : pre.length ≤ 24 := by have := congrArg List.length hpre.out; rw [List.length_append] at this; omega
            have zo := hbo.out.size
            rcases ha with rfl | ⟨u, rfl, hu⟩
            · have hpe : Hid (pre = M.hvPath xs k) := by have := hpre.out; rw [M.hvRest_none, List.append_nil] at this; exact this
              have hk1 : 0 < pre.length := by rw [hpe.out]; rw [M.hvPath_pos Ht.out hlt]; simp
              obtain ⟨g2, rfl, hg2, hg2'⟩ := own_headR hop.out hk1
              have hW2 : Hid (Rws wr w2.heap.size (.slice A' n c') hs (M.hvPaths xs k)) := hW.out.be hbo.out
              have zbo := hbr.out.size
              have hrow : Hid (Own64 wr w2.heap.size (hdr (g2, pre.length, c3)) pre) := own_mono hop.out zbo
              have hne : Hid ((Value.slice A' n c').ownBlock ≠ some (g2, pre.length, c3).1) := fun e => by have := (World.ownsRow.lt hW.out.row _ e).2; simp only at this; omega
              have hfr : Hid (∀ h' ∈ hs, h'.1 ≠ (g2, pre.length, c3).1) := fun h' hh e => by have := (hW.out.lt hh).2; simp only at e; omega
              have hB3 : w2.heap.size ≤ wr.heap.size := by omega
              have hbw : Hid (Below w2.heap.size w2 wr) := hbr.out.trans (hbo.out.mono zbo)
              clear hpre hop hbo
              go_wp2_with (at_builtin; refine pushRws rfl (.tmp 37) (.tmp 39) rfl wr w2.heap.size A' n c' hs _ (g2, pre.length, c3) pre rfl rfl hW2 hrow hne hfr hB3 (by omega) ?_; intro A5 c5 w5 hW5 hb5)
              have hW6 : Hid (Rws w5 w2.heap.size (.slice A5 (n + 1) c5) (hs ++ [(g2, pre.length, c3)]) (M.hvPaths xs (k + 1))) := by
                have := hW5.out
                rw [hpe.out] at this ⊢
                rw [hs1.out]; exact this
              have hb6 : Hid (Below w2.heap.size w2 w5) := hbw.out.trans hb5.out
              go_roundw
              case rel => exact ⟨k + 1, A5, n + 1, c5, _, by omega, by go_num, rfl, hW6, hb6⟩
              case measure => simp [intOf]; omega
            · obtain ⟨qb, qo, y, rfl, hbB, g, hX⟩ := Hh2.out.at_ (k := u) (by rw [M.heavy_len]; exact hu)
              have hX2 := hX.out
              rw [M.heavy_at xs hu] at hX2
              injection hX2 with hX2
              have hnx : Hid ((pre ++ [(u : Int)]) ++ M.hvRest xs y = M.hvPath xs k) := by
                show _ = _
                rw [← hpre.out, M.hvRest_step Ht.out hu, ← hX2, List.append_assoc]; rfl
              have hya : y = -1 ∨ ∃ u' : Nat, y = (u' : Int) ∧ u < u' ∧ u' < xs.length := by
                rw [← hX2]
                exact M.hvAt_lt Ht.out hu
              have hu0 : (0 : Int) ≤ (u : Int) := by omega
              have hux : (u : Int) < (xs.length : Int) := by omega
              have zbo := hbr.out.size
              clear hpre hX hX2
              go_wp2_with (at_builtin; refine push64 rfl (.tmp 33) (.tmp 35) rfl wr wo.heap.size A3 pre.length c3 pre (u : Int) rfl rfl hop zo (by omega) ?_; intro A5 c5 w5 ho5 hb5; have g5 : w5.cell? ⟨qb, qo + u, none⟩ = some (.int .i64 y) := (hb5.out.cell (p := ⟨qb, qo + u, none⟩) hbB).trans ((hbo.out.cell (p := ⟨qb, qo + u, none⟩) hbB).trans g))
              have hl5 : Hid ((pre ++ [(u : Int)]).length = pre.length + 1) := by show _ = _; simp
              rw [← hl5.out] at ho5
              have hb6 : Hid (Below wo.heap.size wo w5) := hbo.out.trans hb5.out
              have hya2 : y = -1 ∨ ∃ u' : Nat, y = (u' : Int) ∧ u' < xs.length := hya.imp id fun ⟨u', h1, _, h2⟩ => ⟨u', h1, h2⟩
              go_roundw
              case rel => exact ⟨y, pre ++ [(u : Int)], A5, c5, hya2, rfl, by rw [hl5.out], hnx, ho5, hb6⟩
              case measure =>
                show M.hvM xs.length y < M.hvM xs.length (u : Int)
                exact M.hvM_lt hu (hya.imp id fun ⟨u', h1, h2, h3⟩ => ⟨u', h1, h2⟩)
        · have hs1 := Lib.hid (M.hvPaths_hit hb.out)
          go_wp2_with (go_at_call 231; refine (containsIs Ah (M.heavy xs) xs.length ch (k : Int) _ (M.heavy_len xs) (by omega) Hh2 true hb).mono ?_; rintro e w' ⟨rfl, rfl⟩)
          go_roundw
          case rel => exact ⟨k + 1, A', n, c', hs, by omega, by go_num, rfl, by rw [hs1.out]; exact hW, hbr⟩
          case measure => simp [intOf]; omega
      · obtain rfl : k = xs.length := by omega
        rw [hZ.out] at hW
        have hn := hW.out.shape.1
        go_wp2
        go_ret2
        subst hn
        exact ⟨_, _, hs, rfl, hW.out.mono z2, hB2.out.trans (hbr.out.mono z2)⟩

set_option maxHeartbeats 4000000 in
set_option maxRecDepth 100000 in
theorem spec_HeavyPaths : GivesRows 110 F_HeavyPaths := by
  intro A xs c w hx hcc h
  have hc := specIs A xs c (w.alloc (.cells #[.slice A xs.length c] 26)) (by omega) (h.al _)
  cases ht : M.isTree xs
  · rw [ht] at hc
    have HC := Lib.hid hc
    have hF : F_HeavyPaths xs = ([], 1) := M.heavyPaths_no ht
    rw [hF]
    clear hc ht hF
    go_enter Try.func110, Try.ntmps110
    go_wp2_with fail
    refine HC.out.mono ?_
    rintro e w1 ⟨rfl, hb⟩
    have hB := btr (bal (b0 w) _) hb
    go_wp2
    go_ret2
    exact ⟨none, 0, [], rfl, rws_nil _ _, hB⟩
  · rw [ht] at hc
    have HC := Lib.hid hc
    have hF : F_HeavyPaths xs = (M.hvPaths xs xs.length, 0) := M.heavyPaths_yes ht
    have Ht := Lib.hid ht
    have hlen := M.tree_len ht
    rw [hF]
    obtain ⟨Z, hZ⟩ : ∃ Z, Hid (M.hvPaths xs xs.length = Z) := ⟨_, rfl⟩
    rw [hZ.out]
    clear hc ht hF
    go_enter Try.func110, Try.ntmps110
    go_wp2_with fail
    refine HC.out.mono ?_
    rintro e w1 ⟨rfl, hb⟩
    have hB := Lib.hid (btr (bal (b0 w) _) hb)
    have hcA : w1.cell? ⟨w.heap.size, 0, none⟩ = some (.slice A xs.length c) := cell_be (by simp) hb
    have h1 := Lib.hid ((h.al _).be hb)
    have z1 := hB.out.size
    clear hb h HC
    have hP : ∀ W, Hid (Below w1.heap.size w1 W) → Calls Try.prog 172 #[.agg #[.slice A xs.length c]] W fun e w' => ∃ A' c' ps, e = .returned (.slice A' xs.length c') ∧ Hid (M.ParsOK xs ps) ∧ Hid (Own64 w' 0 (.slice A' xs.length c') ps) ∧ Hid (Below w1.heap.size w1 w') ∧ Hid (Below W.heap.size W w') := fun W hW =>
      (l01Parents A xs c W Ht (h1.out.be hW.out)).mono fun e w' ⟨A', c', ps, he, hok, ho, hb⟩ => ⟨A', c', ps, he, hok, own_mono ho (Nat.zero_le _), btr hW.out hb, hb⟩
    have hH : ∀ W, Hid (Below w1.heap.size w1 W) → Calls Try.prog 232 #[.agg #[.slice A xs.length c]] W fun e w' => ∃ A' c', e = .returned (.slice A' xs.length c') ∧ Hid (Own64 w' 0 (.slice A' xs.length c') (M.heavy xs)) ∧ Hid (Below w1.heap.size w1 w') ∧ Hid (Below W.heap.size W w') := fun W hW =>
      (l08Heavy A xs c W Ht (h1.out.be hW.out)).mono fun e w' ⟨A', c', he, ho, hb⟩ => ⟨A', c', he, own_mono ho.out (Nat.zero_le _), btr hW.out hb, hb⟩
    have HP := Lib.hid hP
    have HH := Lib.hid hH
    have HcA := Lib.hid hcA
    have K0 : Hid (Below w1.heap.size w1 w1.drew) := (Below.refl _ _).drew
    have cA0 : w1.drew.cell? ⟨w.heap.size, 0, none⟩ = some (.slice A xs.length c) := hcA
    clear hP hH
    go_wp2
    go_cut [4, 5, 6] (fun s4 s5 s6 wx => ∃ (A7 : Option Addr) (c7 : Nat) (ps : List Int) (A8 : Option Addr) (c8 g : Nat), s4 = .slice A7 xs.length c7 ∧ s5 = .slice A8 xs.length c8 ∧ s6 = .slice (some ⟨g, 0, none⟩) 0 0 ∧ Hid (M.ParsOK xs ps) ∧ Hid (Own64 wx 0 (.slice A7 xs.length c7) ps) ∧ Hid (Own64 wx 0 (.slice A8 xs.length c8) (M.heavy xs)) ∧ Hid (Rws wx w1.heap.size (.slice (some ⟨g, 0, none⟩) 0 0) [] []) ∧ Hid (Below w1.heap.size w1 wx))
    case first =>
      go_region_held3 (fun w' => w'.cell? ⟨w.heap.size, 0, none⟩ = some (.slice A xs.length c) ∧ Hid (Below w1.heap.size w1 w')) (first | exact ⟨cA0, K0⟩ | exact ⟨cell_be HcA.out (Hid.out (by assumption)), by assumption⟩ | exact ⟨cell_al cA0 _, bal K0.out _⟩ | exact ⟨cell_al (cell_be HcA.out (Hid.out (by assumption))) _, bal (Hid.out (by assumption)) _⟩) (first | (go_at_call 172; refine (HP.out _ (by first | assumption | exact bal K0.out _)).mono ?_; rintro e w7 ⟨A7, c7, ps, rfl, hok, ho7, hb7, hc7⟩) | (go_at_call 232; refine (HH.out _ (by first | assumption | exact bal hb7.out _)).mono ?_; rintro e w8 ⟨A8, c8, rfl, ho8, hb8, hc8⟩))
      all_goals (go_wp2_with fail)
      all_goals (go_meet)
      all_goals first
        | exact ⟨A7, c7, ps, A8, c8, _, rfl, rfl, rfl, hok, (own_be ho7.out hc8.out).alloc _, ho8.out.alloc _, rws_empty hb8.out.size, bal hb8.out _⟩
        | exact ⟨A7, c7, ps, A8, c8, _, rfl, rfl, rfl, hok, own_be (ho7.out.alloc _) hc8.out, ho8, (rws_empty hb7.out.size).be hc8.out, hb8⟩
        | exact ⟨A7, c7, ps, A8, c8, _, rfl, rfl, rfl, hok, own_be ho7.out hc8.out, ho8, ((rws_empty K0.out.size).be hc7.out).be hc8.out, hb8⟩
    case rest =>
      obtain ⟨A7, c7, ps, A8, c8, g6, rfl, rfl, rfl, hok, h7, h8, hW0, hbc⟩ := hcut
      have hcell : wc.cell? ⟨w.heap.size, 0, none⟩ = some (.slice A xs.length c) := cell_be HcA.out hbc.out
      have h0 : Hid (Rws wc w1.heap.size (.slice (some ⟨g6, 0, none⟩) 0 0) [] (M.hvPaths xs 0)) := hW0
      have hb0 : Hid (Below wc.heap.size wc wc) := b0 wc
      have hcA0 := Lib.hid hcell
      have zc := hbc.out.size
      clear hcell hcA
      go_wp2
      go_loopw [6, 7, 8, 9] (fun q i _ _ wr => ∃ (k : Nat) (A' : Option Addr) (n c' : Nat) (hs : List Hdr), k ≤ xs.length ∧ i = .int .i64 (k : Int) ∧ q = .slice A' n c' ∧ Hid (Rws wr w1.heap.size (.slice A' n c') hs (M.hvPaths xs k)) ∧ Hid (Below w1.heap.size w1 wr) ∧ Hid (Own64 wr 0 (.slice A7 xs.length c7) ps) ∧ Hid (Own64 wr 0 (.slice A8 xs.length c8) (M.heavy xs))) (fun _ i _ _ _ => xs.length - (intOf i).toNat)
      case atStart => exact ⟨0, _, 0, 0, [], Nat.zero_le _, rfl, rfl, h0, hbc, h7, h8⟩
      case round =>
        obtain ⟨k, A', n, c', hs, hk, rfl, rfl, hW, hbr, h7, h8⟩ := hrel
        have hcA := cell_be HcA.out hbr.out
        clear h0 hb0 hW0 hcA0
        by_cases hlt : k < xs.length
        · obtain ⟨b, hb⟩ : ∃ b, Hid (M.isHeavy xs k = b) := ⟨_, rfl⟩
          have hkn : (k : Int) < (xs.length : Int) := by omega
          have hnk : n ≤ k := by have h1 := hW.out.shape.1; have h2 := M.hvPaths_len xs k; omega
          go_wp2_with fail
          refine (l01N A xs.length c _).mono ?_
          rintro e wn ⟨rfl, hbn⟩
          have hWn := Lib.hid (hW.out.be hbn)
          have hbrn := Lib.hid (btr hbr.out hbn)
          have o7n := Lib.hid (own_be h7.out hbn)
          have o8n := Lib.hid (own_be h8.out hbn)
          have h7n := Lib.hid (ints_of_own64 o7n.out)
          have h8n := Lib.hid (ints_of_own64 o8n.out)
          have HL := Lib.hid (l08Light A7 A8 xs ps c7 c8 k wn Ht hok hlt h7n h8n b hb)
          clear hbn hcA hW hbr h7 h8
          cases b
          · have hs1 := Lib.hid (M.hvPaths_miss hb.out)
            have hst : Hid ([] ++ M.hvRest xs (k : Int) = M.hvPath xs k) := by show _ = _; rw [List.nil_append, M.hvRest_at]
            have hst0 : Hid (Own64 (wn.alloc (.cells #[] 2)) wn.heap.size (.slice (some ⟨wn.heap.size, 0, none⟩) 0 0) []) := own64_empty (Nat.le_refl _)
            have hbst : Hid (Below wn.heap.size wn (wn.alloc (.cells #[] 2))) := bal (b0 wn) _
            have hk24 := M.hvPath_le Ht.out hlt
            go_wp2_with (go_at_call 233; refine HL.out.mono ?_; rintro e w' ⟨rfl, rfl⟩)
            go_loopw [8, 9] (fun q qa wr => ∃ (a : Int) (pre : List Int) (A3 : Option Addr) (c3 : Nat), (a = -1 ∨ ∃ u : Nat, a = (u : Int) ∧ u < xs.length) ∧ qa = .int .i64 a ∧ q = .slice A3 pre.length c3 ∧ Hid (pre ++ M.hvRest xs a = M.hvPath xs k) ∧ Hid (Own64 wr wn.heap.size (.slice A3 pre.length c3) pre) ∧ Hid (Below wn.heap.size wn wr)) (fun _ qa _ => M.hvM xs.length (intOf qa))
            case atStart => exact ⟨(k : Int), [], _, 0, .inr ⟨k, rfl, hlt⟩, rfl, rfl, hst, hst0, hbst⟩
            case round =>
              obtain ⟨a, pre, A3, c3, ha, rfl, rfl, hpre, hop, hbo⟩ := hrel
              clear hst hst0 hbst
              have hpl : pre.length ≤ 24 := by have := congrArg List.length hpre.out; rw [List.length_append] at this; omega
              have zo := hbo.out.size
              rcases ha with rfl | ⟨u, rfl, hu⟩
              · have hpe : Hid (pre = M.hvPath xs k) := by have := hpre.out; rw [M.hvRest_none, List.append_nil] at this; exact this
                have hk1 : 0 < pre.length := by rw [hpe.out]; rw [M.hvPath_pos Ht.out hlt]; simp
                obtain ⟨g2, rfl, hg2, hg2'⟩ := own_headR hop.out hk1
                have hW2 : Hid (Rws wr w1.heap.size (.slice A' n c') hs (M.hvPaths xs k)) := hWn.out.be hbo.out
                have zbo := hbrn.out.size
                have hrow : Hid (Own64 wr w1.heap.size (hdr (g2, pre.length, c3)) pre) := own_mono hop.out zbo
                have hne : Hid ((Value.slice A' n c').ownBlock ≠ some (g2, pre.length, c3).1) := fun e => by have := (World.ownsRow.lt hWn.out.row _ e).2; simp only at this; omega
                have hfr : Hid (∀ h' ∈ hs, h'.1 ≠ (g2, pre.length, c3).1) := fun h' hh e => by have := (hWn.out.lt hh).2; simp only at e; omega
                have hB3 : w1.heap.size ≤ wr.heap.size := by omega
                have hbw : Hid (Below w1.heap.size w1 wr) := btr hbrn.out hbo.out
                have h7r := Lib.hid (own_be o7n.out hbo.out)
                have h8r := Lib.hid (own_be o8n.out hbo.out)
                clear hpre hop hbo
                go_wp2_with (at_builtin; refine pushRwsG rfl (.tmp 41) (.tmp 43) rfl wr w1.heap.size A' n c' hs _ (g2, pre.length, c3) pre rfl rfl hW2 hrow hne hfr hB3 (by omega) ?_; intro A5 c5 w5 hW5 hb5 hg5)
                have h7w := Lib.hid (own_keepG h7r.out hW2.out hg5.out)
                have h8w := Lib.hid (own_keepG h8r.out hW2.out hg5.out)
                have hW6 : Hid (Rws w5 w1.heap.size (.slice A5 (n + 1) c5) (hs ++ [(g2, pre.length, c3)]) (M.hvPaths xs (k + 1))) := by
                  have := hW5.out
                  rw [hpe.out] at this ⊢
                  rw [hs1.out]; exact this
                have hb6 : Hid (Below w1.heap.size w1 w5) := hbw.out.trans hb5.out
                go_roundw
                case rel => exact ⟨k + 1, A5, n + 1, c5, _, by omega, by go_num, rfl, hW6, hb6, h7w, h8w⟩
                case measure => simp [intOf]; omega
              · obtain ⟨qb, qo, y, rfl, hbB, g, hX⟩ := h8n.out.at_ (k := u) (by rw [M.heavy_len]; exact hu)
                have hX2 := hX.out
                rw [M.heavy_at xs hu] at hX2
                injection hX2 with hX2
                have hnx : Hid ((pre ++ [(u : Int)]) ++ M.hvRest xs y = M.hvPath xs k) := by
                  show _ = _
                  rw [← hpre.out, M.hvRest_step Ht.out hu, ← hX2, List.append_assoc]; rfl
                have hya : y = -1 ∨ ∃ u' : Nat, y = (u' : Int) ∧ u < u' ∧ u' < xs.length := by
                  rw [← hX2]
                  exact M.hvAt_lt Ht.out hu
                have hu0 : (0 : Int) ≤ (u : Int) := by omega
                have hux : (u : Int) < (xs.length : Int) := by omega
                clear hpre hX hX2
                go_wp2_with (at_builtin; refine push64 rfl (.tmp 37) (.tmp 39) rfl wr wn.heap.size A3 pre.length c3 pre (u : Int) rfl rfl hop zo (by omega) ?_; intro A5 c5 w5 ho5 hb5; have g5 : w5.cell? ⟨qb, qo + u, none⟩ = some (.int .i64 y) := (hb5.out.cell (p := ⟨qb, qo + u, none⟩) hbB).trans ((hbo.out.cell (p := ⟨qb, qo + u, none⟩) hbB).trans g))
                have hl5 : Hid ((pre ++ [(u : Int)]).length = pre.length + 1) := by show _ = _; simp
                rw [← hl5.out] at ho5
                have hb6 : Hid (Below wn.heap.size wn w5) := hbo.out.trans hb5.out
                have hya2 : y = -1 ∨ ∃ u' : Nat, y = (u' : Int) ∧ u' < xs.length := hya.imp id fun ⟨u', h1, _, h2⟩ => ⟨u', h1, h2⟩
                go_roundw
                case rel => exact ⟨y, pre ++ [(u : Int)], A5, c5, hya2, rfl, by rw [hl5.out], hnx, ho5, hb6⟩
                case measure =>
                  show M.hvM xs.length y < M.hvM xs.length (u : Int)
                  exact M.hvM_lt hu (hya.imp id fun ⟨u', h1, h2, h3⟩ => ⟨u', h1, h2⟩)
          · have hs1 := Lib.hid (M.hvPaths_hit hb.out)
            go_wp2_with (go_at_call 233; refine HL.out.mono ?_; rintro e w' ⟨rfl, rfl⟩)
            go_roundw
            case rel => exact ⟨k + 1, A', n, c', hs, by omega, by go_num, rfl, by rw [hs1.out]; exact hWn, hbrn, o7n, o8n⟩
            case measure => simp [intOf]; omega
        · obtain rfl : k = xs.length := by omega
          rw [hZ.out] at hW
          have hn := hW.out.shape.1
          go_wp2_with fail
          refine (l01N A xs.length c _).mono ?_
          rintro e wn ⟨rfl, hbn⟩
          have hWn := Lib.hid (hW.out.be hbn)
          have hbrn := Lib.hid (btr hbr.out hbn)
          clear hbn hcA hW hbr h7 h8
          go_wp2
          go_ret2
          subst hn
          exact ⟨_, _, hs, rfl, hWn.out.mono z1, btr hB.out hbrn.out⟩
end Go.Proofs.Ytdgcjkgbglofbaa

/- HeavyChildren, the program's and the model's: the heavy children, or a code. -/
namespace Go.Proofs.Ytdgcjkgbglofbaa
open Go.RowKit

def F_HeavyChildren (xs : List Int) : List Int × Int := M.cond xs (M.heavy xs)
theorem F_HeavyChildren_len (xs : List Int) : (F_HeavyChildren xs).1.length ≤ 1048576 := by
  cases ht : M.isTree xs
  · rw [F_HeavyChildren, M.cond_no ht]; simp
  · rw [F_HeavyChildren, M.cond_yes ht]
    have h2 := (M.tree_len ht).2
    show (M.heavy xs).length ≤ _
    rw [M.heavy_len]
    omega

set_option maxHeartbeats 2000000 in
theorem impl_HeavyChildren : GivesList 112 F_HeavyChildren := by
  intro A xs c w hx hcc h
  have hc := codeOf0 A xs c (w.alloc (.cells #[.slice A xs.length c] 26)) (by omega) (h.al _) _ rfl
  cases ht : M.isTree xs
  · rw [ht] at hc
    have HC := Lib.hid hc
    have hF : F_HeavyChildren xs = ([], 1) := M.cond_no ht
    rw [hF]
    clear hc ht hF
    go_enter Try.func112, Try.ntmps112
    go_wp2_with fail
    refine HC.out.mono ?_
    rintro e w1 ⟨rfl, hb⟩
    have hB := btr (bal (b0 w) _) hb
    go_wp2
    go_ret2
    exact ⟨none, 0, rfl, own64_nil _ _, hB⟩
  · rw [ht] at hc
    have HC := Lib.hid hc
    have hF : F_HeavyChildren xs = (M.heavy xs, 0) := M.cond_yes ht
    have Ht := Lib.hid ht
    rw [hF]
    clear hc ht hF
    have hl := Lib.hid (M.heavy_len xs)
    go_enter Try.func112, Try.ntmps112
    go_wp2_with fail
    refine HC.out.mono ?_
    rintro e w1 ⟨rfl, hb⟩
    have hB := Lib.hid (btr (bal (b0 w) _) hb)
    have hcell : w1.cell? ⟨w.heap.size, 0, none⟩ = some (.slice A xs.length c) := cell_be (by simp) hb
    have h1 := Lib.hid ((h.al _).be hb)
    have z1 := hB.out.size
    clear hb h HC
    go_wp2_with fail
    refine (heavyIn A xs c _ hcc.1 hcc.2 Ht h1).mono ?_
    rintro e w2 ⟨A', c', rfl, ho, hb⟩
    have hB2 := Lib.hid (btr hB.out hb)
    clear hb
    go_wp2
    go_ret2
    rw [hl.out]
    exact ⟨A', c', rfl, own_mono ho.out z1, hB2.out⟩

set_option maxHeartbeats 2000000 in
theorem spec_HeavyChildren : GivesList 113 F_HeavyChildren := by
  intro A xs c w hx hcc h
  have hc := specIs A xs c (w.alloc (.cells #[.slice A xs.length c] 26)) (by omega) (h.al _)
  cases ht : M.isTree xs
  · rw [ht] at hc
    have HC := Lib.hid hc
    have hF : F_HeavyChildren xs = ([], 1) := M.cond_no ht
    rw [hF]
    clear hc ht hF
    go_enter Try.func113, Try.ntmps113
    go_wp2_with fail
    refine HC.out.mono ?_
    rintro e w1 ⟨rfl, hb⟩
    have hB := btr (bal (b0 w) _) hb
    go_wp2
    go_ret2
    exact ⟨none, 0, rfl, own64_nil _ _, hB⟩
  · rw [ht] at hc
    have HC := Lib.hid hc
    have hF : F_HeavyChildren xs = (M.heavy xs, 0) := M.cond_yes ht
    have Ht := Lib.hid ht
    rw [hF]
    clear hc ht hF
    have hl := Lib.hid (M.heavy_len xs)
    go_enter Try.func113, Try.ntmps113
    go_wp2_with fail
    refine HC.out.mono ?_
    rintro e w1 ⟨rfl, hb⟩
    have hB := Lib.hid (btr (bal (b0 w) _) hb)
    have hcell : w1.cell? ⟨w.heap.size, 0, none⟩ = some (.slice A xs.length c) := cell_be (by simp) hb
    have h1 := Lib.hid ((h.al _).be hb)
    have z1 := hB.out.size
    clear hb h HC
    go_wp2_with fail
    refine (l08Heavy A xs c _ Ht h1).mono ?_
    rintro e w2 ⟨A', c', rfl, ho, hb⟩
    have hB2 := Lib.hid (btr hB.out hb)
    clear hb
    go_wp2
    go_ret2
    rw [hl.out]
    exact ⟨A', c', rfl, own_mono ho.out z1, hB2.out⟩
end Go.Proofs.Ytdgcjkgbglofbaa

/- slices.Reverse: a row of the call's own is turned round in place. -/
namespace Go.Proofs.Ytdgcjkgbglofbaa
open Go.RowKit

namespace M
/-- the row with the first i and the last i numbers exchanged -/
def revRow (zs : List Int) (i : Nat) : List Int := rowOf zs.length fun j => if j < i ∨ zs.length - i ≤ j then zs[zs.length - 1 - j]?.getD 0 else zs[j]?.getD 0
theorem revRow_len (zs : List Int) (i : Nat) : (revRow zs i).length = zs.length := rowOf_len _ _
theorem revRow_zero (zs : List Int) : revRow zs 0 = zs := by
  apply List.ext_getElem?
  intro j
  by_cases hj : j < zs.length
  · rw [revRow, rowOf_at _ hj, if_neg (by omega), List.getElem?_eq_getElem hj]; rfl
  · rw [List.getElem?_eq_none (by rw [revRow_len]; omega), List.getElem?_eq_none (by omega)]
theorem revRow_low {zs : List Int} {i : Nat} {x : Int} (h : i + i + 1 < zs.length) (hx : zs[i]? = some x) : (revRow zs i)[i]? = some x := by
  rw [revRow, rowOf_at _ (by omega), if_neg (by omega), hx]; rfl
theorem revRow_high {zs : List Int} {i : Nat} {x : Int} (h : i + i + 1 < zs.length) (hx : zs[zs.length - 1 - i]? = some x) : (revRow zs i)[zs.length - 1 - i]? = some x := by
  rw [revRow, rowOf_at _ (by omega), if_neg (by omega), hx]; rfl
theorem revRow_step {zs : List Int} {i : Nat} {x y : Int} (h : i + i + 1 < zs.length) (hx : zs[i]? = some x) (hy : zs[zs.length - 1 - i]? = some y) : ((revRow zs i).set i y).set (zs.length - 1 - i) x = revRow zs (i + 1) := by
  rw [revRow, rowOf_set, rowOf_set]
  refine rowOf_congr fun j hj => ?_
  by_cases h1 : j = zs.length - 1 - i
  · rw [if_pos h1, if_pos (by omega), show zs.length - 1 - j = i by omega, hx]; rfl
  · rw [if_neg h1]
    by_cases h2 : j = i
    · rw [if_pos h2, if_pos (by omega), h2, hy]; rfl
    · rw [if_neg h2]
      by_cases h3 : j < i ∨ zs.length - i ≤ j
      · rw [if_pos h3, if_pos (by omega)]
      · rw [if_neg h3, if_neg (by omega)]
theorem revRow_end {zs : List Int} {i : Nat} (h : zs.length ≤ i + i + 1) : revRow zs i = zs.reverse := by
  apply List.ext_getElem?
  intro j
  by_cases hj : j < zs.length
  · rw [revRow, rowOf_at _ hj, List.getElem?_reverse hj]
    have e1 : zs[zs.length - 1 - j]? = some zs[zs.length - 1 - j] := List.getElem?_eq_getElem (by omega)
    by_cases h3 : j < i ∨ zs.length - i ≤ j
    · rw [if_pos h3, e1]; rfl
    · rw [if_neg h3, show zs.length - 1 - j = j by omega, List.getElem?_eq_getElem hj]; rfl
  · rw [List.getElem?_eq_none (by rw [revRow_len]; omega), List.getElem?_eq_none (by simp; omega)]
end M

theorem grown_drew {w w' : World} {row : Option Nat} (h : w.grownBy w' row) : w.grownBy w'.drew row := ⟨h.os, h.tape, h.output, h.size, h.block⟩

set_option maxHeartbeats 2000000 in
set_option maxRecDepth 100000 in
theorem slicesReverse (A : Option Addr) (n c B : Nat) (zs : List Int) (w : World) (hn : Hid (zs.length = n)) (hn1 : n ≤ 1000) (ho : Hid (Own64 w B (.slice A n c) zs)) :
    Calls Try.prog 291 #[.slice A n c] w fun e w' => (∃ u, e = .returned u) ∧ Hid (Own64 w' B (.slice A n c) zs.reverse) ∧ Hid (w.grownBy w' (Value.slice A n c).ownBlock) := by
  rcases Nat.eq_zero_or_pos n with h0 | h0
  · subst h0
    have e : zs = [] := List.eq_nil_of_length_eq_zero hn.out
    subst e
    go_enter Try.func291, Try.ntmps291
    go_wp2
    refine wp_loop_rounds 1 ?_
    rw [rounds_succ]
    go_wp2
    refine bodyPost_end (results_none rfl _ _ _) rfl ?_
    exact ⟨⟨_, rfl⟩, ho, World.grownBy.refl _ _⟩
  · obtain ⟨g, rfl⟩ : ∃ g, A = some ⟨g, 0, none⟩ := by
      rcases ho.out.2 with ⟨h, _⟩ | ⟨g, _, _, h, _⟩
      · injection h with _ e _; omega
      · injection h with h; exact ⟨g, h⟩
    have ho0 : Hid (Own64 w B (.slice (some ⟨g, 0, none⟩) n c) (M.revRow zs 0)) := by rw [M.revRow_zero]; exact ho
    have e0 : IntKind.i64.wrap ((n : Int) - 1) = (n : Int) - 1 := IntWalk.i64_in _ (by omega)
    clear ho
    go_enter Try.func291, Try.ntmps291
    go_wp2
    go_loopw [2, 3] (fun p q wr => ∃ i : Nat, i ≤ n ∧ p = .int .i64 i ∧ q = .int .i64 ((n : Int) - 1 - i) ∧ Hid (Own64 wr B (.slice (some ⟨g, 0, none⟩) n c) (M.revRow zs i)) ∧ Hid (w.grownBy wr (some g))) (fun p _ _ => n - (intOf p).toNat)
    case atStart => exact ⟨0, Nat.zero_le _, rfl, by simp, ho0, World.grownBy.refl _ _⟩
    case round =>
      obtain ⟨i, hi, rfl, rfl, ho, hg⟩ := hrel
      clear ho0
      by_cases hlt : i + i + 1 < n
      · have hlt2 : (i : Int) < (n : Int) - 1 - (i : Int) := by omega
        have hz : i + i + 1 < zs.length := by rw [hn.out]; exact hlt
        obtain ⟨x, hx⟩ : ∃ x, zs[i]? = some x := ⟨_, List.getElem?_eq_getElem (by omega)⟩
        obtain ⟨y, hy⟩ : ∃ y, zs[zs.length - 1 - i]? = some y := ⟨_, List.getElem?_eq_getElem (by omega)⟩
        obtain ⟨K, hK⟩ : ∃ K : Nat, zs.length - 1 - i = K := ⟨_, rfl⟩
        have eK : (n : Int) - 1 - (i : Int) = (K : Int) := by have := hn.out; omega
        have hl1 := M.revRow_low hz hx
        have hl2 := M.revRow_high hz hy
        have hs := Lib.hid (M.revRow_step hz hx hy)
        rw [hK] at hl2 hs hy
        rw [eK] at hlt2 ⊢
        have hrl : (M.revRow zs i).length = n := by rw [M.revRow_len]; exact hn.out
        obtain ⟨c1, f1, _, _⟩ := own64_cell ho.out hrl hl1
        obtain ⟨c2, f2, _, _⟩ := own64_cell ho.out hrl hl2
        have hkn : (K : Int) < (n : Int) := by have := hn.out; omega
        have hin : (i : Int) < (n : Int) := by omega
        have hset := own64_set (own64_set ho.out hrl i y) (by rw [List.length_set]; exact hrl) K x
        rw [hs.out] at hset
        have Hset := Lib.hid hset
        have Hg2 := Lib.hid (grown_set (grown_set hg.out i (.int .i64 y)) K (.int .i64 x))
        have hne : i ≠ K := by have := hn.out; omega
        clear hset hs hl1 hl2 hx hy ho hg hrl
        go_wp2
        go_region
        all_goals (go_wp2)
        all_goals (go_roundw)
        case rel => exact ⟨i + 1, by omega, by go_num, by go_num, Hset, grown_drew Hg2.out⟩
        case measure => simp [intOf]; omega
      · have hlt2 : ¬ (i : Int) < (n : Int) - 1 - (i : Int) := by omega
        have e := M.revRow_end (zs := zs) (i := i) (by rw [hn.out]; omega)
        rw [e] at ho
        go_wp2
        refine bodyPost_end (results_none rfl _ _ _) rfl ?_
        exact ⟨⟨_, rfl⟩, ho, hg⟩
end Go.Proofs.Ytdgcjkgbglofbaa

/- append of a whole slice to a row of the call's own. -/
namespace Go.Proofs.Ytdgcjkgbglofbaa
open Go.RowKit

set_option maxRecDepth 100000 in
theorem appendInts {ops : Array Oper} {rest : List Oper} {o : Oper} {a : Act} {Q : Exit → Act → World → Prop} (hgd : o.guard = none) (s x : Operand)
    (ho : o.op = .call { callee := .builtin .append, args := #[s, x], argTypes := #[24, 24] }) (w : World) (B : Nat) (A : Option Addr) (n c : Nat) (zs : List Int) (A2 : Option Addr) (m c2 : Nat) (ys : List Int)
    (hs : a.eval s = .slice A n c) (hx : a.eval x = .slice A2 m c2) (hown : Hid (Own64 w B (.slice A n c) zs)) (hsrc : Hid (Ints w w.heap.size A2 ys)) (hm : Hid (ys.length = m)) (hz : Hid (A2 = none → c2 = 0)) (hB : B ≤ w.heap.size) (hlen : n ≤ 1000000) (hlen2 : m ≤ 1000000)
    (h : ∀ A' c' w', Hid (Own64 w' B (.slice A' (n + m) c') (zs ++ ys)) → Hid (Below B w w') → wpList Try.prog ops Q rest (a.put o.dst (.slice A' (n + m) c')) w') :
    wpList Try.prog ops Q (o :: rest) a w := by
  obtain ⟨i0, hi0, hz0, hz1, hz2⟩ := info_parts info64
  have hown := hown.out
  have hn := own64_len hown
  subst hn
  have hm := hm.out
  subst hm
  rcases A2 with _ | ad
  · have hy : ys = [] := by
      rcases Nat.eq_zero_or_pos ys.length with h0 | h0
      · exact List.eq_nil_of_length_eq_zero h0
      · obtain ⟨_, _, e, _⟩ := hsrc.out h0
        cases e
    subst hy
    have hc2 := hz.out rfl
    subst hc2
    refine wpList_append_own_none hgd s x 24 ho B 2 i0 1 Try.underlying24 hi0 _ zs.length (zs.map (Value.int .i64)) hs hown hx ?_
    have := h A c w (by simpa using Lib.hid hown) (Below.refl _ _)
    simpa using this
  · refine wpList_append_own _ hgd s x 24 ho B 2 i0 (.int .i64 0) 1 8 Try.underlying24 hi0 hz0 hz1 hz2 rfl (by decide) _ zs.length (zs.map (Value.int .i64)) hs hown ad ys.length c2 (ys.map (Value.int .i64)) hx (by simp) ?_ ?_ ?_ ?_ hB ?_
    · intro j u hj
      rw [List.getElem?_map] at hj
      obtain ⟨y, hy, rfl⟩ := Option.map_eq_some_iff.1 hj
      obtain ⟨b, off, e, _, hc⟩ := hsrc.out (by have := (List.getElem?_eq_some_iff.1 hy).1; omega)
      injection e with e
      subst e
      have ha : (⟨b, off, none⟩ : Addr).add j = ⟨b, off + j, none⟩ := by unfold Addr.add; split <;> simp_all
      rw [ha]
      exact hc j y hy
    · intro u hu
      obtain ⟨y, _, rfl⟩ := List.mem_map.1 hu
      rfl
    · unfold maxLen; omega
    · omega
    · intro v' w1 hown1 hg1 _
      obtain ⟨A', c', rfl⟩ : ∃ A' c', v' = .slice A' (zs.length + ys.length) c' := own_shape hown1
      refine h A' c' w1 ?_ ?_
      · show Own64 _ _ _ _
        unfold Own64
        rw [List.length_append, List.map_append]
        exact hown1
      · exact (Below.refl B w).grown hg1 hB (fun k hk => (hown.lt k hk).1)

theorem own64_z {w : World} {B n c : Nat} {A : Option Addr} {zs : List Int} (h : Own64 w B (.slice A n c) zs) : A = none → c = 0 := by
  intro e
  subst e
  rcases h.2 with ⟨h1, _⟩ | ⟨g, cap, cur, hv, _⟩
  · injection h1
  · cases hv

set_option maxRecDepth 100000 in
/-- the same at a step of a region that draws its order -/
theorem stepInts {ops : Array Oper} {o : Oper} {a : Act} {K : Act → World → Prop} {Q : Exit → Act → World → Prop} {E : Prop} (hgd : o.guard = none) (s x : Operand)
    (ho : o.op = .call { callee := .builtin .append, args := #[s, x], argTypes := #[24, 24] }) (w : World) (B : Nat) (A : Option Addr) (n c : Nat) (zs : List Int) (A2 : Option Addr) (m c2 : Nat) (ys : List Int)
    (hs : a.eval s = .slice A n c) (hx : a.eval x = .slice A2 m c2) (hown : Hid (Own64 w B (.slice A n c) zs)) (hsrc : Hid (Ints w w.heap.size A2 ys)) (hm : Hid (ys.length = m)) (hz : Hid (A2 = none → c2 = 0)) (hB : B ≤ w.heap.size) (hlen : n ≤ 1000000) (hlen2 : m ≤ 1000000)
    (h : ∀ A' c' w', Hid (Own64 w' B (.slice A' (n + m) c') (zs ++ ys)) → Hid (Below B w w') → K (a.put o.dst (.slice A' (n + m) c')) w') :
    if Region.wanted o (yielded ops a.tmps) = true then Oper.wp Try.prog o a w K Q else E := by
  have hw : Region.wanted o (yielded ops a.tmps) = true := by simp [Region.wanted, hgd]
  rw [if_pos hw]
  obtain ⟨i0, hi0, hz0, hz1, hz2⟩ := info_parts info64
  have hown := hown.out
  have hn := own64_len hown
  subst hn
  have hm := hm.out
  subst hm
  rcases A2 with _ | ad
  · have hy : ys = [] := by
      rcases Nat.eq_zero_or_pos ys.length with h0 | h0
      · exact List.eq_nil_of_length_eq_zero h0
      · obtain ⟨_, _, e, _⟩ := hsrc.out h0
        cases e
    subst hy
    have hc2 := hz.out rfl
    subst hc2
    have hrun := run_append_owned_none (P := Try.prog) (w := w) B 24 o.type 2 i0 1 Try.underlying24 hi0 _ zs.length (zs.map (Value.int .i64)) hown
    have := h A c w (by simpa using Lib.hid hown) (Below.refl _ _)
    simp only [List.length_nil] at hx
    unfold Oper.wp execOp
    simp only [ho, resolve, invoke, builtin, Sem.run_bind, Sem.run_pure, Result.andThen_ok, List.map_toArray, List.map_cons, List.map_nil, hs, hx, hrun]
    exact this
  · obtain ⟨v', w1, hr, hown1, hg1, _⟩ := run_append_own (P := Try.prog) (w := w) B 24 o.type 2 i0 (.int .i64 0) 1 8 Try.underlying24 hi0 hz0 hz1 hz2 rfl (by decide) _ zs.length (zs.map (Value.int .i64)) hown ad ys.length c2 (ys.map (Value.int .i64)) (by simp)
      (by
        intro j u hj
        rw [List.getElem?_map] at hj
        obtain ⟨y, hy, rfl⟩ := Option.map_eq_some_iff.1 hj
        obtain ⟨b, off, e, _, hc⟩ := hsrc.out (by have := (List.getElem?_eq_some_iff.1 hy).1; omega)
        injection e with e
        subst e
        have ha : (⟨b, off, none⟩ : Addr).add j = ⟨b, off + j, none⟩ := by unfold Addr.add; split <;> simp_all
        rw [ha]
        exact hc j y hy)
      (by
        intro u hu
        obtain ⟨y, _, rfl⟩ := List.mem_map.1 hu
        rfl) (by unfold maxLen; omega) (by omega) hB
    obtain ⟨A', c', rfl⟩ : ∃ A' c', v' = .slice A' (zs.length + ys.length) c' := own_shape hown1
    have := h A' c' w1 (by
        show Own64 _ _ _ _
        unfold Own64
        rw [List.length_append, List.map_append]
        exact hown1) ((Below.refl B w).grown hg1 hB (fun k hk => (hown.lt k hk).1))
    unfold Oper.wp execOp
    simp only [ho, resolve, invoke, builtin, Sem.run_bind, Sem.run_pure, Result.andThen_ok, List.map_toArray, List.map_cons, List.map_nil, hs, hx, hr]
    exact this
end Go.Proofs.Ytdgcjkgbglofbaa

/- slices.Grow of nil and slices.Concat: the parts one after the other, in a row of its own. -/
namespace Go.Proofs.Ytdgcjkgbglofbaa
open Go.RowKit

namespace M
def catTo (X : Nat → List Int) : Nat → List Int
  | 0 => []
  | k + 1 => catTo X k ++ X k
theorem catTo_len (X : Nat → List Int) {k : Nat} (h : ∀ j, j < k → (X j).length ≤ 24) : (catTo X k).length ≤ 24 * k := by
  induction k with
  | zero => simp [catTo]
  | succ k ih =>
    have := ih fun j hj => h j (by omega)
    have := h k (by omega)
    simp only [catTo, List.length_append]
    omega
end M

set_option maxHeartbeats 1000000 in
set_option maxRecDepth 100000 in
theorem growNil (n : Nat) (w : World) (hn1 : 1 ≤ n) (hn : n ≤ 1000) :
    Calls Try.prog 277 #[.slice none 0 0, .int .i64 (n : Int)] w fun e w' => ∃ A' c', e = .returned (.slice A' 0 c') ∧ Own64 w' w.heap.size (.slice A' 0 c') [] ∧ Below w.heap.size w w' := by
  obtain ⟨i0, hi0, hz0, hz1, hz2⟩ := info_parts info64
  have hr : ∀ ty, _ := fun ty => Lib.run_append_nil_zeros (P := Try.prog) w 24 3 ty 2 i0 (.int .i64 0) .i64 .i64 Try.underlying24 Try.underlying3 hi0 hz0 n (by omega) (by omega) (by omega) (by rw [hz2]; omega)
  have hG : n ≤ grownCap w n 0 2 := grownCap_ge w _ _ _
  have hG2 : grownCap w n 0 2 ≤ maxLen := grownCap_le_maxLen w n 0 2 (by unfold maxLen; omega)
  generalize grownCap w n 0 2 = G at *
  have hG3 : G ≤ 9223372036854775807 := by unfold maxLen at hG2; omega
  have ho : Hid (Own64 (w.drew.alloc (.cells (Builtin.zeroCells (Value.int .i64 0).cells n ++ Builtin.zeroCells (Value.int .i64 0).cells (G - n)) 2)) w.heap.size (.slice (some ⟨w.heap.size, 0, none⟩) 0 G) []) := by
    refine ⟨by simp, .inr ⟨w.heap.size, G, _, by simp, Nat.le_refl _, World.alloc_heap_new w.drew _, by simp, hG2, ?_, by simp⟩⟩
    simp [Builtin.zeroCells, Value.cells]
    omega
  have hb : Hid (Below w.heap.size w (w.drew.alloc (.cells (Builtin.zeroCells (Value.int .i64 0).cells n ++ Builtin.zeroCells (Value.int .i64 0).cells (G - n)) 2))) := (Below.refl _ _).drew.alloc (Nat.le_refl _) _
  go_enter Try.func277, Try.ntmps277
  go_wp2_with (at_builtin; refine Lib.wpList_append_run _ rfl _ _ _ _ rfl _ _ rfl rfl _ _ (hr _) ?_)
  go_ret
  exact ⟨_, _, rfl, ho.out, hb.out⟩

/-- block g holds k slices: slice j reads X j -/
def Parts (w : World) (g k : Nat) (X : Nat → List Int) : Prop := ∀ j, j < k → ∃ A c, w.cell? ⟨g, j, none⟩ = some (.slice A (X j).length c) ∧ Ints w w.heap.size A (X j) ∧ (A = none → c = 0)
theorem Parts.be {w w' : World} {g k : Nat} {X : Nat → List Int} (h : Parts w g k X) (hg : g < w.heap.size) (hb : Below w.heap.size w w') : Parts w' g k X := fun j hj => by
  obtain ⟨A, c, h1, h2, h3⟩ := h j hj
  exact ⟨A, c, (hb.cell (p := ⟨g, j, none⟩) hg).trans h1, h2.be hb, h3⟩

set_option maxHeartbeats 2000000 in
set_option maxRecDepth 100000 in
theorem concat (g k : Nat) (X : Nat → List Int) (w : World) (hk : k ≤ 3) (hX : Hid (∀ j, j < k → (X j).length ≤ 24)) (hg : g < w.heap.size) (hP : Hid (Parts w g k X)) :
    Calls Try.prog 192 #[.slice (some ⟨g, 0, none⟩) k k] w fun e w' => ∃ A' c' n, e = .returned (.slice A' n c') ∧ Own64 w' w.heap.size (.slice A' n c') (M.catTo X k) ∧ Below w.heap.size w w' := by
  go_enter Try.func192, Try.ntmps192
  go_wp2
  go_loop [3, 5, 11] (fun s3 _ i => ∃ (j y : Nat), j ≤ k ∧ i = .int .i64 (j : Int) ∧ s3 = .int .i64 (y : Int) ∧ Hid ((M.catTo X j).length = y)) (fun _ _ i => k - (intOf i).toNat)
  case atStart => exact ⟨0, 0, Nat.zero_le _, rfl, rfl, rfl⟩
  case round =>
    obtain ⟨j, y, hj, rfl, rfl, hy⟩ := hrel
    have hyl := M.catTo_len X (k := j) fun i hi => hX.out i (by omega)
    rw [hy.out] at hyl
    by_cases hlt : j < k
    · have hlt2 : (j : Int) < (k : Int) := by omega
      obtain ⟨A, c, k1, k2, k3⟩ := hP.out j hlt
      have hxl := hX.out j hlt
      have hs : Hid ((M.catTo X (j + 1)).length = y + (X j).length) := by show _ = _; rw [M.catTo, List.length_append, hy.out]
      obtain ⟨m, hm⟩ : ∃ m, Hid ((X j).length = m) := ⟨_, rfl⟩
      rw [hm.out] at k1 hxl hs
      have hs2 : ¬ (y : Int) + (m : Int) < 0 := by omega
      clear k2 k3
      go_wp2
      go_round
      case rel => exact ⟨j + 1, y + m, by omega, by go_num, by go_num, hs⟩
      case measure => simp [intOf]; omega
    · obtain rfl : j = k := by omega
      have hge : ¬ (j : Int) < (j : Int) := by omega
      have hG : Hid (∃ _ : Unit, Calls Try.prog 277 #[.slice none 0 0, .int .i64 (y : Int)] w fun e w' => ∃ A' c', e = .returned (.slice A' 0 c') ∧ Own64 w' w.heap.size (.slice A' 0 c') [] ∧ Below w.heap.size w w') := by
        rcases Nat.eq_zero_or_pos y with h0 | h0
        · subst h0
          refine ⟨(), ?_⟩
          go_enter Try.func277, Try.ntmps277
          go_wp2
          go_ret
          exact ⟨none, 0, rfl, own64_nil _ _, Below.refl _ _⟩
        · exact ⟨(), growNil y w h0 (by omega)⟩
      obtain ⟨_, hG⟩ := hG.out
      have HG := Lib.hid hG
      clear hG
      go_wp2_with fail
      refine HG.out.mono ?_
      rintro e w1 ⟨A1, c1, rfl, ho1, hb1⟩
      have Ho1 := Lib.hid ho1
      have Hb1 := Lib.hid hb1
      clear ho1 hb1 HG
      go_wp2
      go_loopw [6, 8, 27] (fun q _ i wr => ∃ (t n : Nat) (A' : Option Addr) (c' : Nat), t ≤ j ∧ i = .int .i64 (t : Int) ∧ q = .slice A' n c' ∧ n ≤ 1000 ∧ Hid (Own64 wr w.heap.size (.slice A' n c') (M.catTo X t)) ∧ Hid (Below w.heap.size w wr)) (fun _ _ i _ => j - (intOf i).toNat)
      case atStart => exact ⟨0, 0, A1, c1, Nat.zero_le _, rfl, rfl, by omega, Ho1, Hb1⟩
      case round =>
        obtain ⟨t, n, A', c', ht, rfl, rfl, hn, ho, hbr⟩ := hrel
        clear Ho1 Hb1
        by_cases htj : t < j
        · have htj2 : (t : Int) < (j : Int) := by omega
          obtain ⟨A, c, k1, k2, k3⟩ := (hP.out.be hg hbr.out) t htj
          have hxl := hX.out t htj
          have hzr := hbr.out.size
          obtain ⟨m, hm⟩ : ∃ m, Hid ((X t).length = m) := ⟨_, rfl⟩
          have hsrc := Lib.hid k2
          have hz := Lib.hid k3
          rw [hm.out] at k1 hxl
          have hnt : n ≤ 72 := by
            have h5 := own64_len ho.out
            have h6 := M.catTo_len X (k := t) fun i hi => hX.out i (by omega)
            omega
          clear k2 k3
          go_wp2_with (at_builtin; refine appendInts rfl (.tmp 31) (.tmp 32) rfl wr w.heap.size A' n c' (M.catTo X t) A m c (X t) rfl rfl ho hsrc hm hz hzr (by omega) (by omega) ?_; intro A3 c3 w3 ho3 hb3)
          go_roundw
          case rel => exact ⟨t + 1, n + m, A3, c3, by omega, by go_num, rfl, by omega, ho3, hbr.out.trans hb3.out⟩
          case measure => simp [intOf]; omega
        · obtain rfl : t = j := by omega
          have hge3 : ¬ (t : Int) < (t : Int) := by omega
          go_wp2
          go_ret
          exact ⟨A', c', n, rfl, ho.out, hbr.out⟩
end Go.Proofs.Ytdgcjkgbglofbaa

/- The code of a tree and of numbers that have to be its nodes: codeOf and l01Nodes return the same number. -/
namespace Go.Proofs.Ytdgcjkgbglofbaa
open Go.RowKit

set_option maxHeartbeats 1000000 in
theorem codeOf (A An : Option Addr) (xs ns : List Int) (c cn : Nat) (w : World) (hx : xs.length ≤ 1000000000000) (hns : ns.length ≤ 1000) (h : Ints w w.heap.size A xs) (hn : Ints w w.heap.size An ns) (r : Int) (hr : Hid (M.code xs ns = r)) :
    Calls Try.prog 166 #[.agg #[.slice A xs.length c], .slice An ns.length cn] w fun e w' => e = .returned (.int .i64 r) ∧ Below w.heap.size w w' := by
  have hc := implIsTree A xs c (w.alloc (.cells #[.slice A xs.length c] 26)) hx (h.al _)
  cases ht : M.isTree xs
  · rw [ht] at hc
    have HC := Lib.hid hc
    have hr' : r = 1 := by rw [← hr.out]; simp [M.code, ht]
    subst hr'
    clear hc ht hr h hn
    go_enter Try.func166, Try.ntmps166
    go_wp2_with fail
    refine HC.out.mono ?_
    rintro e w1 ⟨rfl, hb⟩
    have hB := btr (bal (b0 w) _) hb
    go_wp2
    go_ret
    exact ⟨rfl, hB⟩
  · rw [ht] at hc
    have HC := Lib.hid hc
    have hr' : Hid (M.codeGo xs.length ns = r) := by show _ = _; rw [← hr.out]; simp [M.code, ht]
    have hlen := (M.tree_len ht).2
    clear hc ht hr
    go_enter Try.func166, Try.ntmps166
    go_wp2_with fail
    refine HC.out.mono ?_
    rintro e w1 ⟨rfl, hb⟩
    have hB := btr (bal (b0 w) _) hb
    have hcell : w1.cell? ⟨w.heap.size, 0, none⟩ = some (.slice A xs.length c) := cell_be (by simp) hb
    have h1 := (hn.al _).be hb
    clear hb h hn HC
    go_wp2
    go_loop [6, 12] (fun _ i => ∃ (k : Nat), k ≤ ns.length ∧ i = .int .i64 k ∧ Hid (M.codeGo xs.length (ns.drop k) = r)) (fun _ i => ns.length - (intOf i).toNat)
    case atStart => exact ⟨0, Nat.zero_le _, rfl, hr'⟩
    case round =>
      obtain ⟨k, hk, rfl, hg⟩ := hrel
      clear hr'
      by_cases hlt : k < ns.length
      · obtain ⟨b, off, v, rfl, hbB, g, hX⟩ := h1.at_ hlt
        clear h1
        by_cases hv0 : v < 0
        · have hs : Hid (r = 2) := hg.out.symm.trans (M.codeGo_hit hX.out (.inl hv0))
          go_wp2
          go_ret
          exact ⟨by rw [hs.out]; rfl, hB⟩
        · have hd0 : decide (v < 0) = false := decide_eq_false hv0
          have hv1 : 0 ≤ v := by omega
          by_cases hv2 : (xs.length : Int) ≤ v
          · have hs : Hid (r = 2) := hg.out.symm.trans (M.codeGo_hit hX.out (.inr hv2))
            clear hv0
            go_wp2
            go_ret
            exact ⟨by rw [hs.out]; rfl, hB⟩
          · have hs : Hid (M.codeGo xs.length (ns.drop (k + 1)) = r) := (M.codeGo_miss hX.out hv1 (by omega)).symm.trans hg.out
            have hd1 : decide ((xs.length : Int) ≤ v) = false := decide_eq_false hv2
            have hv3 : v < (xs.length : Int) := by omega
            clear hv0 hv2
            go_wp2
            go_round
            case rel => exact ⟨k + 1, by omega, by go_num, hs⟩
            case measure => simp [intOf]; omega
      · obtain rfl : k = ns.length := by omega
        have hs := hg.out
        rw [List.drop_length] at hs
        have Hs : Hid (r = 0) := hs.symm
        clear hs hg
        go_wp2
        go_ret
        exact ⟨by rw [Hs.out]; rfl, hB⟩

set_option maxHeartbeats 400000 in
set_option maxRecDepth 100000 in
theorem l01Nodes (A An : Option Addr) (xs ns : List Int) (c cn : Nat) (w : World) (hx : xs.length ≤ 1000000000000) (hns : ns.length ≤ 1000) (h : Ints w w.heap.size A xs) (hn : Ints w w.heap.size An ns) (r : Int) (hr : Hid (M.code xs ns = r)) :
    Calls Try.prog 183 #[.agg #[.slice A xs.length c], .slice An ns.length cn] w fun e w' => e = .returned (.int .i64 r) ∧ Below w.heap.size w w' := by
  have hc := specIs A xs c (w.alloc (.cells #[.slice A xs.length c] 26)) hx (h.al _)
  cases ht : M.isTree xs
  · rw [ht] at hc
    have HC := Lib.hid hc
    have hr' : r = 1 := by rw [← hr.out]; simp [M.code, ht]
    subst hr'
    clear hc ht hr h hn
    go_enter Try.func183, Try.ntmps183
    go_wp2_with fail
    refine HC.out.mono ?_
    rintro e w1 ⟨rfl, hb⟩
    have hB := btr (bal (b0 w) _) hb
    go_wp2
    go_ret
    exact ⟨rfl, hB⟩
  · rw [ht] at hc
    have HC := Lib.hid hc
    have hr' : Hid (M.codeGo xs.length ns = r) := by show _ = _; rw [← hr.out]; simp [M.code, ht]
    have hlen := (M.tree_len ht).2
    clear hc ht hr
    go_enter Try.func183, Try.ntmps183
    go_wp2_with fail
    refine HC.out.mono ?_
    rintro e w1 ⟨rfl, hb⟩
    have hB := btr (bal (b0 w) _) hb
    have hcell : w1.cell? ⟨w.heap.size, 0, none⟩ = some (.slice A xs.length c) := cell_be (by simp) hb
    have HcellA := Lib.hid hcell
    have h1 := (hn.al _).be hb
    clear hb h hn HC
    go_wp2
    clear hcell
    go_loopw [5] (fun i wr => ∃ (k : Nat), k ≤ ns.length ∧ i = .int .i64 k ∧ Hid (M.codeGo xs.length (ns.drop k) = r) ∧ Hid (Below w1.heap.size w1 wr)) (fun i _ => ns.length - (intOf i).toNat)
    case atStart => exact ⟨0, Nat.zero_le _, rfl, hr', b0 w1⟩
    case round =>
      obtain ⟨k, hk, rfl, hg, hbr⟩ := hrel
      clear hr'
      by_cases hlt : k < ns.length
      · obtain ⟨b, off, v, rfl, hbB, g, hX⟩ := (h1.be hbr.out).at_ hlt
        clear h1
        have hki : (k : Int) < (ns.length : Int) := by omega
        have hki0 : (0 : Int) ≤ (k : Int) := by omega
        have hcr := cell_be HcellA.out hbr.out
        have hN : ∀ W, Hid (Below wr.heap.size wr W) → Calls Try.prog 169 #[.agg #[.slice A xs.length c]] W fun e w' => e = .returned (.int .i64 xs.length) ∧ Hid (Below wr.heap.size wr w') := fun W hW =>
          (l01N A xs.length c W).mono fun e w' ⟨he, hb⟩ => ⟨he, btr hW.out hb⟩
        have HN := Lib.hid hN
        clear hN
        obtain ⟨bv, hbv⟩ : ∃ bv, Hid ((decide ((0 : Int) ≤ v) && decide (v ≤ (xs.length : Int) - 1)) = bv) := ⟨_, rfl⟩
        have hkeep : ∀ W, Hid (Below wr.heap.size wr W) → W.cell? ⟨b, off + k, none⟩ = some (.int .i64 v) ∧ W.cell? ⟨w.heap.size, 0, none⟩ = some (.slice A xs.length c) := fun W hW =>
          ⟨(hW.out.cell (p := ⟨b, off + k, none⟩) hbB).trans g, cell_be hcr hW.out⟩
        have HK := Lib.hid hkeep
        clear hkeep
        go_wp2
        have hK0 : Hid (Below wr.heap.size wr wr.drew) := (Below.refl _ _).drew
        have g0 : wr.drew.cell? ⟨b, off + k, none⟩ = some (.int .i64 v) := g
        have hcr0 : wr.drew.cell? ⟨w.heap.size, 0, none⟩ = some (.slice A xs.length c) := hcr
        have hwrap : IntKind.i64.wrap ((xs.length : Int) - 1) = (xs.length : Int) - 1 := IntWalk.i64_in _ (by omega)
        go_region_held3 (fun w' => w'.cell? ⟨b, off + k, none⟩ = some (.int .i64 v) ∧ w'.cell? ⟨w.heap.size, 0, none⟩ = some (.slice A xs.length c) ∧ Hid (Below wr.heap.size wr w')) (first | exact ⟨g0, hcr0, hK0⟩ | exact ⟨(HK.out _ (by assumption)).1, (HK.out _ (by assumption)).2, by assumption⟩) (first | (go_at_call 169; refine (HN.out _ (by assumption)).mono ?_; rintro e w7 ⟨rfl, hb7⟩) | (go_at_call 229; refine (inAny _ _ _ _ bv hbv).mono ?_; rintro e w8 ⟨rfl, rfl⟩))
        clear hwrap g0 hcr0 hK0 HN HK
        have hbw : Hid (Below w1.heap.size w1 w7) := btr hbr.out hb7.out
        cases bv
        · have hs : Hid (r = 2) := hg.out.symm.trans (M.codeGo_hit hX.out (by have := hbv.out; simp at this; omega))
          go_wp2
          go_ret
          exact ⟨by rw [hs.out]; rfl, btr hB hbw.out⟩
        · have hv := hbv.out
          simp only [Bool.and_eq_true, decide_eq_true_eq] at hv
          have hs : Hid (M.codeGo xs.length (ns.drop (k + 1)) = r) := (M.codeGo_miss hX.out hv.1 (by omega)).symm.trans hg.out
          clear hv
          go_wp2
          go_roundw
          case rel => exact ⟨k + 1, by omega, by go_num, hs, hbw⟩
          case measure => simp [intOf]; omega
      · obtain rfl : k = ns.length := by omega
        have hs := hg.out
        rw [List.drop_length] at hs
        have Hs : Hid (r = 0) := hs.symm
        clear hs hg
        go_wp2
        go_ret
        exact ⟨by rw [Hs.out]; rfl, btr hB hbr.out⟩

theorem ints_new (w : World) (cs : Array Value) (zs : List Int) (h : cs.toList = zs.map (Value.int .i64)) : Ints (w.alloc (.cells cs 2)) (w.alloc (.cells cs 2)).heap.size (some ⟨w.heap.size, 0, none⟩) zs := fun _ =>
  ⟨w.heap.size, 0, rfl, by simp, fun j x hx => by
    rw [Nat.zero_add, World.cell?_alloc_new]
    rw [← Array.getElem?_toList, h, List.getElem?_map, hx]
    rfl⟩
end Go.Proofs.Ytdgcjkgbglofbaa
