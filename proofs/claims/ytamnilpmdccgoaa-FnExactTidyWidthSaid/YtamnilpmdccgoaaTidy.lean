/- The tidy drawing, its mathematics: by how much a subtree is moved, the columns of a subtree alone, how wide they are, and the contours. No program is named here. -/
import Derived.Test.YtamnilpmdccgoaaDraw
namespace Go.Proofs.Ytamnilpmdccgoaa
namespace M
/-- two nodes of one depth: one of the drawing that begins at the node p, one of that at the node q -/
def PairAt (ds : List Int) (p q : Nat) (P own : List Int) (a b : Nat) (x y : Int) : Prop := P[a]? = some x ∧ own[b]? = some y ∧ ∃ e, ds[p + a]? = some e ∧ ds[q + b]? = some e
/-- r is the least number of steps by which the second drawing is moved -/
def IsBy (ds : List Int) (p q : Nat) (P own : List Int) (r : Int) : Prop :=
  (∃ a b x y, PairAt ds p q P own a b x y ∧ r = x + 2 - y) ∧ ∀ a b x y, PairAt ds p q P own a b x y → x + 2 - y ≤ r
theorem isBy_unique {ds : List Int} {p q : Nat} {P own : List Int} {r s : Int} (h : IsBy ds p q P own r) (k : IsBy ds p q P own s) : r = s := by
  obtain ⟨⟨a, b, x, y, h1, h2⟩, h3⟩ := h
  obtain ⟨⟨a', b', x', y', k1, k2⟩, k3⟩ := k
  have := h3 _ _ _ _ k1
  have := k3 _ _ _ _ h1
  omega
theorem max_exists (S : Int → Prop) (B : Int) (hB : ∀ r, S r → r ≤ B) : ∀ (n : Nat) (r : Int), (B - r).toNat ≤ n → S r → ∃ m, S m ∧ ∀ r, S r → r ≤ m := by
  intro n
  induction n with
  | zero =>
    intro r h hr
    exact ⟨r, hr, fun s hs => by have := hB s hs; omega⟩
  | succ n ih =>
    intro r h hr
    rcases Classical.em (∃ s, S s ∧ r < s) with ⟨s, hs, hlt⟩ | hno
    · exact ih s (by have := hB s hs; omega) hs
    · refine ⟨r, hr, fun s hs => ?_⟩
      by_cases h1 : r < s
      · exact absurd ⟨s, hs, h1⟩ hno
      · omega
/-- all within two bounds around 0 that are at most k apart -/
def Spread (l : List Int) (k : Int) : Prop := ∃ lo hi : Int, lo ≤ 0 ∧ 0 ≤ hi ∧ hi - lo ≤ k ∧ ∀ x ∈ l, lo ≤ x ∧ x ≤ hi
theorem Spread.mono {l : List Int} {k k' : Int} (h : Spread l k) (hk : k ≤ k') : Spread l k' := by
  obtain ⟨lo, hi, h1, h2, h3, h4⟩ := h
  exact ⟨lo, hi, h1, h2, by omega, h4⟩
theorem Spread.abs {l : List Int} {k : Int} (h : Spread l k) {x : Int} (hx : x ∈ l) : -k ≤ x ∧ x ≤ k := by
  obtain ⟨lo, hi, h1, h2, h3, h4⟩ := h
  have := h4 x hx
  omega
theorem isBy_exists {ds : List Int} {p q : Nat} {P own : List Int} {k m : Int} (hP : Spread P k) (hO : Spread own m) {a b : Nat} {x y : Int} (h : PairAt ds p q P own a b x y) : ∃ r, IsBy ds p q P own r := by
  obtain ⟨r, h1, h2⟩ := max_exists (fun r => ∃ a b x y, PairAt ds p q P own a b x y ∧ r = x + 2 - y) (k + 2 + m) (by
    rintro r ⟨a, b, x, y, ⟨h1, h2, _⟩, rfl⟩
    have := hP.abs (List.mem_of_getElem? h1)
    have := hO.abs (List.mem_of_getElem? h2)
    omega) _ (x + 2 - y) (Nat.le_refl _) ⟨a, b, x, y, h, rfl⟩
  exact ⟨r, h1, fun a b x y h => h2 _ ⟨a, b, x, y, h, rfl⟩⟩
theorem Spread.put {ds : List Int} {p q : Nat} {P own : List Int} {k m r : Int} (hP : Spread P k) (hO : Spread own m) (h : IsBy ds p q P own r) : Spread (P ++ own.map (· + r)) (k + m + 2) := by
  obtain ⟨⟨a, b, x, y, ⟨h1, h2, _⟩, rfl⟩, _⟩ := h
  obtain ⟨lo, hi, p1, p2, p3, p4⟩ := hP
  obtain ⟨lo', hi', o1, o2, o3, o4⟩ := hO
  have hx := p4 x (List.mem_of_getElem? h1)
  have hy := o4 y (List.mem_of_getElem? h2)
  refine ⟨min lo (lo' + (x + 2 - y)), max hi (hi' + (x + 2 - y)), by omega, by omega, by omega, fun z hz => ?_⟩
  rcases List.mem_append.1 hz with hz | hz
  · have := p4 z hz; omega
  · obtain ⟨u, hu, rfl⟩ := List.mem_map.1 hz
    have := o4 u hu; omega
theorem Spread.root {P : List Int} {k x y : Int} (hP : Spread P k) (hx : x ∈ P) (hy : y ∈ P) : Spread (half (x + y) :: P) k := by
  obtain ⟨lo, hi, p1, p2, p3, p4⟩ := hP
  refine ⟨lo, hi, p1, p2, p3, fun z hz => ?_⟩
  rcases List.mem_cons.1 hz with hz | hz
  · have := p4 x hx
    have := p4 y hy
    rw [hz]
    exact half_bounds (by omega) (by omega)
  · exact p4 z hz
/-- the steps: 0 where no two nodes have one depth -/
noncomputable def byOf (ds : List Int) (p q : Nat) (P own : List Int) : Int := open Classical in if h : ∃ r, IsBy ds p q P own r then h.choose else 0
theorem byOf_eq {ds : List Int} {p q : Nat} {P own : List Int} {r : Int} (h : IsBy ds p q P own r) : byOf ds p q P own = r := by
  have he : ∃ r, IsBy ds p q P own r := ⟨r, h⟩
  rw [byOf, dif_pos he]
  exact isBy_unique he.choose_spec h
theorem byOf_none {ds : List Int} {p q : Nat} (own : List Int) : byOf ds p q [] own = 0 := by
  rw [byOf, dif_neg]
  rintro ⟨r, ⟨a, b, x, y, ⟨h1, _⟩, _⟩, _⟩
  simp at h1
/-- the columns of the first j subtrees below a node, put side by side -/
noncomputable def tdKids (T : Nat → List Int) (xs ds : List Int) (v : Nat) : Nat → List Int
  | 0 => []
  | j + 1 => tdKids T xs ds v j ++ (T (kidAt xs v j)).map (· + byOf ds (v + 1) (kidAt xs v j) (tdKids T xs ds v j) (T (kidAt xs v j)))
def tdRoot (xs P : List Int) (v : Nat) : Nat → Int
  | 0 => 0
  | d + 1 => half (P[0]?.getD 0 + P[kidAt xs v d - (v + 1)]?.getD 0)
noncomputable def tdF (xs ds : List Int) : Nat → Nat → List Int
  | 0, _ => []
  | f + 1, v => let P := tdKids (tdF xs ds f) xs ds v (xs[v]?.getD 0).toNat; tdRoot xs P v (xs[v]?.getD 0).toNat :: P
theorem tdKids_congr {T T' : Nat → List Int} {xs ds : List Int} {v : Nat} : ∀ {j : Nat}, (∀ i, i < j → T (kidAt xs v i) = T' (kidAt xs v i)) → tdKids T xs ds v j = tdKids T' xs ds v j := by
  intro j
  induction j with
  | zero => intro _; rfl
  | succ j ih =>
    intro h
    rw [tdKids, tdKids, ih (fun i hi => h i (by omega)), h j (by omega)]
theorem tdF_fuel {xs ds : List Int} (ht : isTree xs = true) : ∀ {f g v : Nat}, v < xs.length → xs.length ≤ v + f → xs.length ≤ v + g → tdF xs ds f v = tdF xs ds g v := by
  intro f
  induction f with
  | zero => intro g v h h1; omega
  | succ f ih =>
    intro g v h h1 h2
    cases g with
    | zero => omega
    | succ g =>
      obtain ⟨d, hd, _⟩ := tree_degN ht h
      simp only [tdF, hd, Option.getD_some, Int.toNat_natCast]
      have e : tdKids (tdF xs ds f) xs ds v d = tdKids (tdF xs ds g) xs ds v d := tdKids_congr fun i hi => by
        have hb := kid_bounds ht (show IsKid xs v (kidAt xs v i) from ⟨d, i, hd, hi, rfl⟩)
        exact ih hb.2.2 (by omega) (by omega)
      rw [e]
/-- the columns of a subtree drawn alone -/
noncomputable def td (xs ds : List Int) (v : Nat) : List Int := tdF xs ds xs.length v
noncomputable def tdP (xs ds : List Int) (v j : Nat) : List Int := tdKids (td xs ds) xs ds v j
theorem td_eq {xs ds : List Int} (ht : isTree xs = true) {v d : Nat} (hd : xs[v]? = some (d : Int)) : td xs ds v = tdRoot xs (tdP xs ds v d) v d :: tdP xs ds v d := by
  have hv := (List.getElem?_eq_some_iff.1 hd).1
  obtain ⟨n, hn⟩ : ∃ n, xs.length = n + 1 := ⟨xs.length - 1, by omega⟩
  have e : tdKids (tdF xs ds n) xs ds v d = tdP xs ds v d := tdKids_congr fun i hi => by
    have hb := kid_bounds ht (show IsKid xs v (kidAt xs v i) from ⟨d, i, hd, hi, rfl⟩)
    exact tdF_fuel ht hb.2.2 (by omega) (by omega)
  rw [td, hn]
  simp only [tdF, hd, Option.getD_some, Int.toNat_natCast]
  rw [e]
theorem tdP_zero (xs ds : List Int) (v : Nat) : tdP xs ds v 0 = [] := rfl
theorem tdP_succ (xs ds : List Int) (v j : Nat) : tdP xs ds v (j + 1) = tdP xs ds v j ++ (td xs ds (kidAt xs v j)).map (· + byOf ds (v + 1) (kidAt xs v j) (tdP xs ds v j) (td xs ds (kidAt xs v j))) := rfl
theorem tdP_one (xs ds : List Int) (v : Nat) : tdP xs ds v 1 = td xs ds (kidAt xs v 0) := by
  rw [tdP_succ, tdP_zero, byOf_none]; simp
/-- how long, and how wide -/
def TdOK (xs ds : List Int) (v : Nat) : Prop := (td xs ds v).length = span 1 (xs.drop v) ∧ Spread (td xs ds v) (2 * ((td xs ds v).length : Int) - 2)
theorem td_pair {xs ds : List Int} (hD : DepsOK xs ds) {v d j : Nat} (hd : xs[v]? = some (d : Int)) (hj : j < d) (h0 : 0 < j) {P own : List Int} {x y : Int} (hP : P[0]? = some x) (hO : own[0]? = some y) : PairAt ds (v + 1) (kidAt xs v j) P own 0 0 x y := by
  obtain ⟨u, h1, h2⟩ := hD.2.2 v _ ⟨d, 0, hd, by omega, rfl⟩
  obtain ⟨u', h3, h4⟩ := hD.2.2 v _ ⟨d, j, hd, hj, rfl⟩
  rw [h1] at h3
  injection h3 with h3
  subst h3
  exact ⟨hP, hO, u + 1, h2, h4⟩
theorem tdP_ok {xs ds : List Int} (ht : isTree xs = true) (hD : DepsOK xs ds) {v d : Nat} (hd : xs[v]? = some (d : Int)) (hK : ∀ i, i < d → TdOK xs ds (kidAt xs v i)) :
    ∀ j, j ≤ d → (tdP xs ds v j).length + (v + 1) = kidAt xs v j ∧ (0 < j → 0 < (tdP xs ds v j).length ∧ Spread (tdP xs ds v j) (2 * ((tdP xs ds v j).length : Int) - 2)) ∧
      (0 < j → j < d → IsBy ds (v + 1) (kidAt xs v j) (tdP xs ds v j) (td xs ds (kidAt xs v j)) (byOf ds (v + 1) (kidAt xs v j) (tdP xs ds v j) (td xs ds (kidAt xs v j)))) := by
  have hby : ∀ j, j < d → 0 < j → 0 < (tdP xs ds v j).length → Spread (tdP xs ds v j) (2 * ((tdP xs ds v j).length : Int) - 2) → IsBy ds (v + 1) (kidAt xs v j) (tdP xs ds v j) (td xs ds (kidAt xs v j)) (byOf ds (v + 1) (kidAt xs v j) (tdP xs ds v j) (td xs ds (kidAt xs v j))) := by
    intro j hj h0 hl hs
    have hkl := kid_lt ht hd (i := j) (by omega)
    have hk := hK j hj
    have hsp := span_pos hkl
    obtain ⟨r, hr⟩ := isBy_exists hs hk.2 (td_pair hD hd hj h0 (List.getElem?_eq_getElem hl) (List.getElem?_eq_getElem (show 0 < (td xs ds (kidAt xs v j)).length by rw [hk.1]; omega)))
    rw [byOf_eq hr]
    exact hr
  intro j
  induction j with
  | zero => intro _; exact ⟨by simp [tdP_zero, kidAt], fun h => by omega, fun h => by omega⟩
  | succ j ih =>
    intro hj
    obtain ⟨i1, i2, i3⟩ := ih (by omega)
    have hkl := kid_lt ht hd (i := j) (by omega)
    have hsp := span_pos hkl
    have hk := hK j (by omega)
    have hlen : (tdP xs ds v (j + 1)).length = (tdP xs ds v j).length + (td xs ds (kidAt xs v j)).length := by rw [tdP_succ]; simp
    have h1 : (tdP xs ds v (j + 1)).length + (v + 1) = kidAt xs v (j + 1) := by rw [hlen, hk.1, kidAt]; omega
    have h2 : 0 < (tdP xs ds v (j + 1)).length ∧ Spread (tdP xs ds v (j + 1)) (2 * ((tdP xs ds v (j + 1)).length : Int) - 2) := by
      refine ⟨by rw [hlen, hk.1]; omega, ?_⟩
      rcases Nat.eq_zero_or_pos j with h0 | h0
      · subst h0
        rw [tdP_one]
        exact hk.2
      · have := Spread.put (i2 h0).2 hk.2 (i3 h0 (by omega))
        rw [hlen]
        rw [tdP_succ]
        exact this.mono (by omega)
    exact ⟨h1, fun _ => h2, fun h0 hlt => hby (j + 1) hlt h0 h2.1 h2.2⟩
theorem td_ok {xs ds : List Int} (ht : isTree xs = true) (hD : DepsOK xs ds) : ∀ (n : Nat) {v : Nat}, v < xs.length → xs.length ≤ v + n → TdOK xs ds v := by
  intro n
  induction n with
  | zero => intro v h h1; omega
  | succ n ih =>
    intro v h h1
    obtain ⟨d, hd, _⟩ := tree_degN ht h
    have hK : ∀ i, i < d → TdOK xs ds (kidAt xs v i) := fun i hi => by
      have hb := kid_bounds ht (show IsKid xs v (kidAt xs v i) from ⟨d, i, hd, hi, rfl⟩)
      exact ih hb.2.2 (by omega)
    obtain ⟨p1, p2, _⟩ := tdP_ok ht hD hd hK d (Nat.le_refl _)
    have he := kid_end ht hd
    have hlen : (td xs ds v).length = (tdP xs ds v d).length + 1 := by rw [td_eq ht hd]; rfl
    refine ⟨by rw [hlen]; omega, ?_⟩
    rw [hlen]
    rw [td_eq ht hd]
    cases d with
    | zero => exact ⟨0, 0, by omega, by omega, by rw [tdP_zero]; simp, fun x hx => by rw [tdP_zero] at hx; simp [tdRoot] at hx; omega⟩
    | succ d =>
      obtain ⟨p3, p4⟩ := p2 (by omega)
      have hb := kid_bounds ht (show IsKid xs v (kidAt xs v d) from ⟨d + 1, d, hd, by omega, rfl⟩)
      have hlt : kidAt xs v d - (v + 1) < (tdP xs ds v (d + 1)).length := by
        have := span_pos hb.2.2
        simp only [kidAt] at p1
        omega
      rw [tdRoot, List.getElem?_eq_getElem p3, List.getElem?_eq_getElem hlt]
      exact (p4.root (List.getElem_mem p3) (List.getElem_mem hlt)).mono (by omega)
theorem td_good {xs ds : List Int} (ht : isTree xs = true) (hD : DepsOK xs ds) {v : Nat} (hv : v < xs.length) : TdOK xs ds v := td_ok ht hD xs.length hv (by omega)
theorem tdP_good {xs ds : List Int} (ht : isTree xs = true) (hD : DepsOK xs ds) {v d : Nat} (hd : xs[v]? = some (d : Int)) {j : Nat} (hj : j ≤ d) : (tdP xs ds v j).length + (v + 1) = kidAt xs v j ∧ (0 < j → 0 < (tdP xs ds v j).length ∧ Spread (tdP xs ds v j) (2 * ((tdP xs ds v j).length : Int) - 2)) ∧
      (0 < j → j < d → IsBy ds (v + 1) (kidAt xs v j) (tdP xs ds v j) (td xs ds (kidAt xs v j)) (byOf ds (v + 1) (kidAt xs v j) (tdP xs ds v j) (td xs ds (kidAt xs v j)))) :=
  tdP_ok ht hD hd (fun i hi => td_good ht hD (kid_lt ht hd (by omega))) j hj
theorem td_abs {xs ds : List Int} (ht : isTree xs = true) (hD : DepsOK xs ds) {v : Nat} (hv : v < xs.length) {x : Int} (hx : x ∈ td xs ds v) : -46 ≤ x ∧ x ≤ 46 := by
  have h := td_good ht hD hv
  have h1 := h.2.abs hx
  have h2 := span_le (xs.drop v) 1
  have h3 := (tree_len ht).2
  have h4 := h.1
  simp only [List.length_drop] at h2
  omega
theorem tdP_abs {xs ds : List Int} (ht : isTree xs = true) (hD : DepsOK xs ds) {v d j : Nat} (hd : xs[v]? = some (d : Int)) (hj : j ≤ d) {x : Int} (hx : x ∈ tdP xs ds v j) : -46 ≤ x ∧ x ≤ 46 := by
  have h := tdP_good ht hD hd hj
  have h3 := (tree_len ht).2
  rcases Nat.eq_zero_or_pos j with h0 | h0
  · subst h0; rw [tdP_zero] at hx; simp at hx
  · have h1 := (h.2.1 h0).2.abs hx
    have h5 := (kid_due ht hd j (by omega)).1
    omega
theorem by_abs {xs ds : List Int} (ht : isTree xs = true) (hD : DepsOK xs ds) {v d j : Nat} (hd : xs[v]? = some (d : Int)) (hj : j < d) : -94 ≤ byOf ds (v + 1) (kidAt xs v j) (tdP xs ds v j) (td xs ds (kidAt xs v j)) ∧ byOf ds (v + 1) (kidAt xs v j) (tdP xs ds v j) (td xs ds (kidAt xs v j)) ≤ 94 := by
  rcases Nat.eq_zero_or_pos j with h0 | h0
  · subst h0; rw [tdP_zero, byOf_none]; omega
  · obtain ⟨⟨a, b, x, y, ⟨h1, h2, _⟩, h3⟩, _⟩ := (tdP_good ht hD hd (j := j) (by omega)).2.2 h0 hj
    have hkl := kid_lt ht hd (i := j) (by omega)
    have := tdP_abs ht hD hd (j := j) (by omega) (List.mem_of_getElem? h1)
    have := td_abs ht hD hkl (List.mem_of_getElem? h2)
    omega
/-- the columns of the subtrees that follow each other from a node on -/
noncomputable def fo (xs ds : List Int) : Nat → Nat → List Int
  | 0, _ => []
  | f + 1, v => if v < xs.length then td xs ds v ++ fo xs ds f (fin xs v) else []
theorem fo_end {xs ds : List Int} {v : Nat} (h : xs.length ≤ v) : ∀ f, fo xs ds f v = []
  | 0 => rfl
  | f + 1 => by rw [fo, if_neg (by omega)]
theorem fo_fuel {xs ds : List Int} : ∀ {f g v : Nat}, xs.length ≤ v + f → xs.length ≤ v + g → fo xs ds f v = fo xs ds g v := by
  intro f
  induction f with
  | zero => intro g v h1 _; rw [fo_end (by omega), fo_end (by omega)]
  | succ f ih =>
    intro g v h1 h2
    by_cases h : v < xs.length
    · cases g with
      | zero => omega
      | succ g =>
        have := fin_gt h
        rw [fo, fo, if_pos h, if_pos h, ih (g := g) (by omega) (by omega)]
    · rw [fo_end (by omega), fo_end (by omega)]
noncomputable def woods (xs ds : List Int) (v : Nat) : List Int := fo xs ds xs.length v
theorem woods_end {xs ds : List Int} {v : Nat} (h : xs.length ≤ v) : woods xs ds v = [] := fo_end h _
theorem woods_step {xs ds : List Int} {v : Nat} (h : v < xs.length) : woods xs ds v = td xs ds v ++ woods xs ds (fin xs v) := by
  obtain ⟨n, hn⟩ : ∃ n, xs.length = n + 1 := ⟨xs.length - 1, by omega⟩
  have := fin_gt h
  rw [woods, hn, fo, if_pos h, woods, fo_fuel (f := n) (g := xs.length) (by omega) (by omega)]
theorem woods_len {xs ds : List Int} (ht : isTree xs = true) (hD : DepsOK xs ds) : ∀ (n : Nat) {v : Nat}, v ≤ xs.length → xs.length ≤ v + n → (woods xs ds v).length + v = xs.length := by
  intro n
  induction n with
  | zero => intro v h h1; rw [woods_end (by omega)]; simp; omega
  | succ n ih =>
    intro v h h1
    rcases Nat.lt_or_ge v xs.length with h2 | h2
    · have h3 := fin_gt h2
      have h4 := fin_le (xs := xs) h
      have h5 := (td_good ht hD h2).1
      have := ih h4 (by omega)
      have e : fin xs v = v + span 1 (xs.drop v) := rfl
      rw [woods_step h2, List.length_append]
      omega
    · rw [woods_end h2]; simp; omega
/-- the row of the program when the nodes from v on are drawn, and when the first j subtrees below v have been put -/
noncomputable def tdRow (xs ds : List Int) (v : Nat) : List Int := List.replicate v 0 ++ woods xs ds v
noncomputable def tdMid (xs ds : List Int) (v j : Nat) : List Int := List.replicate (v + 1) 0 ++ tdP xs ds v j ++ woods xs ds (kidAt xs v j)
theorem tdRow_len {xs ds : List Int} (ht : isTree xs = true) (hD : DepsOK xs ds) {v : Nat} (hv : v ≤ xs.length) : (tdRow xs ds v).length = xs.length := by
  have := woods_len ht hD xs.length hv (by omega)
  simp only [tdRow, List.length_append, List.length_replicate]
  omega
theorem tdMid_len {xs ds : List Int} (ht : isTree xs = true) (hD : DepsOK xs ds) {v d j : Nat} (hd : xs[v]? = some (d : Int)) (hj : j ≤ d) : (tdMid xs ds v j).length = xs.length := by
  have h1 := (kid_due ht hd j (by omega)).1
  have h2 := woods_len ht hD xs.length h1 (by omega)
  have h3 := (tdP_good ht hD hd hj).1
  simp only [tdMid, List.length_append, List.length_replicate]
  omega
theorem tdRow_start (xs ds : List Int) : tdRow xs ds xs.length = List.replicate xs.length 0 := by rw [tdRow, woods_end (Nat.le_refl _), List.append_nil]
theorem tdRow_end {xs ds : List Int} (ht : isTree xs = true) : tdRow xs ds 0 = td xs ds 0 := by
  have := (tree_len ht).1
  rw [tdRow, woods_step (by omega), fin_root ht, woods_end (Nat.le_refl _)]; simp
theorem tdRow_leaf {xs ds : List Int} (ht : isTree xs = true) {v : Nat} (hd : xs[v]? = some 0) : tdRow xs ds (v + 1) = tdRow xs ds v := by
  have hv := (List.getElem?_eq_some_iff.1 hd).1
  have h1 := kid_end ht (v := v) (d := 0) hd
  have e : fin xs v = v + 1 := by simp only [fin]; simp only [kidAt] at h1; omega
  rw [tdRow, tdRow, woods_step hv, td_eq ht (d := 0) hd, tdP_zero, e, List.replicate_succ']
  simp [tdRoot]
theorem tdMid_one {xs ds : List Int} (ht : isTree xs = true) {v d : Nat} (hd : xs[v]? = some (d : Int)) (h0 : 0 < d) : tdMid xs ds v 1 = tdRow xs ds (v + 1) := by
  have hkl := kid_lt ht hd (i := 0) (by omega)
  have e : fin xs (kidAt xs v 0) = kidAt xs v 1 := rfl
  rw [tdMid, tdP_one, tdRow, List.append_assoc]
  have e0 : kidAt xs v 0 = v + 1 := rfl
  rw [e0] at hkl e ⊢
  rw [woods_step hkl, e]
/-- numbers in a piece of a list, increased -/
def bump (l : List Int) (off m : Nat) (s : Int) : List Int := l.take off ++ ((l.drop off).take m).map (· + s) ++ l.drop (off + m)
theorem bump_of {a b c : List Int} {off m : Nat} (s : Int) (ha : a.length = off) (hb : b.length = m) : bump (a ++ b ++ c) off m s = a ++ b.map (· + s) ++ c := by
  subst ha hb
  have e : a ++ b ++ c = a ++ (b ++ c) := List.append_assoc _ _ _
  have e2 : a.length + b.length = (a ++ b).length := by simp
  rw [bump]
  rw [e2, List.drop_left, e, List.take_left, List.drop_left, List.take_left]
theorem tdMid_step {xs ds : List Int} (ht : isTree xs = true) (hD : DepsOK xs ds) {v d j : Nat} (hd : xs[v]? = some (d : Int)) (hj : j < d) {r : Int} (hr : byOf ds (v + 1) (kidAt xs v j) (tdP xs ds v j) (td xs ds (kidAt xs v j)) = r) :
    bump (tdMid xs ds v j) (kidAt xs v j) (span 1 (xs.drop (kidAt xs v j))) r = tdMid xs ds v (j + 1) := by
  have hkl := kid_lt ht hd (i := j) (by omega)
  have h3 := (tdP_good ht hD hd (j := j) (by omega)).1
  have e : fin xs (kidAt xs v j) = kidAt xs v (j + 1) := rfl
  rw [tdMid, woods_step hkl, e, ← List.append_assoc, bump_of r (by simp only [List.length_append, List.length_replicate]; omega) (td_good ht hD hkl).1, tdMid, tdP_succ, hr]
  simp only [List.append_assoc]
theorem tdMid_at {xs ds : List Int} {v j i : Nat} {x : Int} (h : (tdP xs ds v j)[i]? = some x) : (tdMid xs ds v j)[v + 1 + i]? = some x := by
  have hi := (List.getElem?_eq_some_iff.1 h).1
  rw [tdMid, List.append_assoc, List.getElem?_append_right (by simp), List.getElem?_append_left (by simp; omega)]
  simpa using h
theorem tdMid_own {xs ds : List Int} (ht : isTree xs = true) (hD : DepsOK xs ds) {v d j i : Nat} (hd : xs[v]? = some (d : Int)) (hj : j < d) {x : Int} (h : (td xs ds (kidAt xs v j))[i]? = some x) : (tdMid xs ds v j)[kidAt xs v j + i]? = some x := by
  have hi := (List.getElem?_eq_some_iff.1 h).1
  have hkl := kid_lt ht hd (i := j) (by omega)
  have h3 := (tdP_good ht hD hd (j := j) (by omega)).1
  have hl : (List.replicate (v + 1) (0 : Int) ++ tdP xs ds v j).length = kidAt xs v j := by simp only [List.length_append, List.length_replicate]; omega
  rw [tdMid, List.getElem?_append_right (by omega), hl, woods_step hkl, List.getElem?_append_left (by omega)]
  rw [show kidAt xs v j + i - kidAt xs v j = i by omega]
  exact h
/-- what both ends of the children hold when all are put, and the row with the root -/
theorem tdMid_root {xs ds : List Int} (ht : isTree xs = true) (hD : DepsOK xs ds) {v d : Nat} (hd : xs[v]? = some ((d + 1 : Nat) : Int)) : ∃ x y : Int, (tdMid xs ds v (d + 1))[kidAt xs v 0]? = some x ∧ (tdMid xs ds v (d + 1))[kidAt xs v d]? = some y ∧ -46 ≤ x ∧ x ≤ 46 ∧ -46 ≤ y ∧ y ≤ 46 ∧
    (tdMid xs ds v (d + 1)).set v (half (x + y)) = tdRow xs ds v := by
  have hv := (List.getElem?_eq_some_iff.1 hd).1
  obtain ⟨p1, p2, _⟩ := tdP_good ht hD hd (j := d + 1) (Nat.le_refl _)
  obtain ⟨p3, _⟩ := p2 (by omega)
  have hb := kid_bounds ht (show IsKid xs v (kidAt xs v d) from ⟨d + 1, d, hd, by omega, rfl⟩)
  have hlt : kidAt xs v d - (v + 1) < (tdP xs ds v (d + 1)).length := by
    have := span_pos hb.2.2
    simp only [kidAt] at p1
    omega
  have hx := List.getElem?_eq_getElem p3
  have hy := List.getElem?_eq_getElem hlt
  have ax := tdP_abs ht hD hd (j := d + 1) (Nat.le_refl _) (List.mem_of_getElem? hx)
  have ay := tdP_abs ht hD hd (j := d + 1) (Nat.le_refl _) (List.mem_of_getElem? hy)
  refine ⟨_, _, tdMid_at hx, ?_, ax.1, ax.2, ay.1, ay.2, ?_⟩
  · have := tdMid_at hy
    rw [show v + 1 + (kidAt xs v d - (v + 1)) = kidAt xs v d by omega] at this
    exact this
  · have he := kid_end ht hd
    have e : fin xs v = kidAt xs v (d + 1) := by simp only [fin]; omega
    rw [tdMid, tdRow, woods_step hv, td_eq ht hd, e, tdRoot, hx, hy, List.replicate_succ']
    simp only [Option.getD_some, List.append_assoc]
    rw [List.set_append_right v _ (by simp)]
    simp
/-- the columns of the tidy drawing -/
noncomputable def tidy (xs ds : List Int) : List Int := (td xs ds 0).map (· + -(minTo (td xs ds 0) (td xs ds 0).length))
theorem tidy_len {xs ds : List Int} (ht : isTree xs = true) (hD : DepsOK xs ds) : (tidy xs ds).length = xs.length := by
  have h1 := (tree_len ht).1
  have h2 := (td_good ht hD (v := 0) (by omega)).1
  have h3 := fin_root ht
  simp only [fin] at h3
  rw [tidy, List.length_map]
  omega
theorem bump_all {l : List Int} (s : Int) : bump l 0 l.length s = l.map (· + s) := by simp [bump]
end M
end Go.Proofs.Ytamnilpmdccgoaa
