/- Ways between two nodes, their mathematics: both go up to the meet; how long they are; least places of a list; sums. No program is named here. -/
import Derived.Test.YtbdmmeoelagdcaaFnParentsOf
import Derived.Test.YtbdmmeoelagdcaaDep
namespace Go.Proofs.Ytbdmmeoelagdcaa
namespace M
/-- the nodes on the way up from v to m, without m -/
def up (ps : List Int) (m : Nat) : Nat → Nat → List Int
  | 0, _ => []
  | k + 1, v => if v ≤ m then [] else (v : Int) :: up ps m k (ps[v]?.getD 0).toNat
theorem up_end (ps : List Int) {m v : Nat} (h : v ≤ m) : ∀ k, up ps m k v = []
  | 0 => rfl
  | k + 1 => by rw [up, if_pos h]
theorem par_has {xs ps : List Int} (ht : isTree xs = true) (hp : ParsOK xs ps) {v : Nat} (h0 : 0 < v) (hv : v < xs.length) : ∃ p : Nat, ps[v]? = some (p : Int) ∧ p < v ∧ IsKid xs p v := by
  obtain ⟨p, h⟩ := kid_has ht h0 hv
  exact ⟨p, hp.2.2 p v h, (kid_bounds ht h).1, h⟩
theorem up_fuel {xs ps : List Int} (ht : isTree xs = true) (hp : ParsOK xs ps) {m : Nat} : ∀ {k k' v : Nat}, v < xs.length → v ≤ k → v ≤ k' → up ps m k v = up ps m k' v := by
  intro k
  induction k with
  | zero => intro k' v _ h _; obtain rfl : v = 0 := by omega
            rw [up_end ps (Nat.zero_le _), up_end ps (Nat.zero_le _)]
  | succ k ih =>
    intro k' v hv h h'
    by_cases hm : v ≤ m
    · rw [up_end ps hm, up_end ps hm]
    · cases k' with
      | zero => omega
      | succ k' =>
        rw [up, up, if_neg hm, if_neg hm]
        obtain ⟨p, h1, h2, _⟩ := par_has ht hp (show 0 < v by omega) hv
        rw [h1]
        simp only [Option.getD_some, Int.toNat_natCast]
        rw [ih (k' := k') (by omega) (by omega) (by omega)]
def upTo (ps : List Int) (m v : Nat) : List Int := up ps m v v
theorem upTo_end (ps : List Int) {m v : Nat} (h : v ≤ m) : upTo ps m v = [] := up_end ps h v
theorem upTo_step {xs ps : List Int} (ht : isTree xs = true) (hp : ParsOK xs ps) {m v p : Nat} (hm : m < v) (hv : v < xs.length) (hq : ps[v]? = some (p : Int)) : upTo ps m v = (v : Int) :: upTo ps m p := by
  obtain ⟨p', h1, h2, _⟩ := par_has ht hp (show 0 < v by omega) hv
  rw [hq] at h1
  injection h1 with h1
  obtain ⟨k, hk⟩ : ∃ k, v = k + 1 := ⟨v - 1, by omega⟩
  rw [upTo, hk, up, if_neg (by omega), ← hk, hq]
  simp only [Option.getD_some, Int.toNat_natCast]
  rw [upTo, up_fuel ht hp (k := k) (k' := p) (by omega) (by omega) (by omega)]
/-- a node a above v (or v) and not above m, with the nodes that have been met -/
def Climb (xs ps : List Int) (v m a : Nat) (acc : List Int) : Prop := a < xs.length ∧ bel xs v a = true ∧ m ≤ a ∧ acc ++ upTo ps m a = upTo ps m v
theorem climb_start {xs ps : List Int} {v m : Nat} (hv : v < xs.length) (hm : bel xs v m = true) : Climb xs ps v m v [] :=
  ⟨hv, bel_iff.2 ⟨Nat.le_refl _, fin_gt hv⟩, (bel_iff.1 hm).1, rfl⟩
theorem climb_step {xs ps : List Int} (ht : isTree xs = true) (hp : ParsOK xs ps) {v m a : Nat} {acc : List Int} (hm : bel xs v m = true) (h : Climb xs ps v m a acc) (hlt : m < a) :
    ∃ p : Nat, ps[a]? = some (p : Int) ∧ p < a ∧ Climb xs ps v m p (acc ++ [(a : Int)]) := by
  obtain ⟨h1, h2, h3, h4⟩ := h
  obtain ⟨p, hp1, hp2, hp3⟩ := par_has ht hp (show 0 < a by omega) h1
  have b1 := bel_iff.1 h2
  have bm := bel_iff.1 hm
  have hb := kid_bounds ht hp3
  have hn := nest ht (v := p) (q := a) (by omega) (by omega) hb.2.1
  refine ⟨p, hp1, hp2, by omega, bel_iff.2 (by omega), kid_up ht hp3 hlt (by omega), ?_⟩
  rw [List.append_assoc, List.singleton_append, ← upTo_step ht hp hlt h1 hp1]
  exact h4
theorem climb_end {xs ps : List Int} {v m : Nat} {acc : List Int} (h : Climb xs ps v m m acc) : acc = upTo ps m v := by
  have := h.2.2.2
  rwa [upTo_end ps (Nat.le_refl m), List.append_nil] at this
theorem meet_bel {xs : List Int} (ht : isTree xs = true) {v w : Nat} (hv : v < xs.length) (hw : w < xs.length) : bel xs v (meet xs v w) = true ∧ bel xs w (meet xs v w) = true := meetDown_bel ht hv hw _
theorem meet_lt {xs : List Int} {v w : Nat} (hv : v < xs.length) : meet xs v w < xs.length := by
  have := meetDown_le xs v w (min v w)
  simp only [meet]
  omega
/-- both climb: they meet at the meet alone -/
theorem climb_meet {xs ps : List Int} {v w a : Nat} {l r : List Int} (h1 : Climb xs ps v (meet xs v w) a l) (h2 : Climb xs ps w (meet xs v w) a r) : a = meet xs v w :=
  meet_stop h1.2.1 h2.2.1 h1.2.2.1
/-- the one with the greater number is not at the meet -/
theorem climb_left {xs ps : List Int} {v w a b : Nat} {l r : List Int} (_h1 : Climb xs ps v (meet xs v w) a l) (h2 : Climb xs ps w (meet xs v w) b r) (h : b < a) : meet xs v w < a := by
  have := h2.2.2.1; omega
theorem climb_right {xs ps : List Int} {v w a b : Nat} {l r : List Int} (h1 : Climb xs ps v (meet xs v w) a l) (_h2 : Climb xs ps w (meet xs v w) b r) (h : a < b) : meet xs v w < b := by
  have := h1.2.2.1; omega
theorem climb_len {xs ps : List Int} (ht : isTree xs = true) (hp : ParsOK xs ps) {m : Nat} : ∀ {v : Nat}, v < xs.length → bel xs v m = true → (upTo ps m v).length ≤ v - m := by
  intro v
  induction v using Nat.strongRecOn with
  | _ v ih =>
    intro hv hb
    have b1 := bel_iff.1 hb
    by_cases hm : m < v
    · obtain ⟨p, h1, h2, h3⟩ := par_has ht hp (show 0 < v by omega) hv
      have hk := kid_up ht h3 hm b1.2
      rw [upTo_step ht hp hm hv h1, List.length_cons]
      have := ih p h2 (by omega) (bel_iff.2 (by omega))
      omega
    · rw [upTo_end ps (by omega)]; simp
/-- the depths tell how long a way up is -/
theorem up_depth {xs ps ds : List Int} (ht : isTree xs = true) (hp : ParsOK xs ps) (hd : DepsOK xs ds) {m : Nat} {y : Int} (hm : ds[m]? = some y) : ∀ {v : Nat} {x : Int}, v < xs.length → bel xs v m = true → ds[v]? = some x → x = y + (upTo ps m v).length := by
  intro v
  induction v using Nat.strongRecOn with
  | _ v ih =>
    intro x hv hb hx
    have b1 := bel_iff.1 hb
    by_cases hmv : m < v
    · obtain ⟨p, h1, h2, h3⟩ := par_has ht hp (show 0 < v by omega) hv
      have hk := kid_up ht h3 hmv b1.2
      obtain ⟨z, hz1, hz2⟩ := hd.2.2 p v h3
      have := ih p h2 (by omega) (bel_iff.2 (by omega)) hz1
      rw [hx] at hz2
      injection hz2 with hz2
      rw [upTo_step ht hp hmv hv h1, List.length_cons]
      omega
    · obtain rfl : v = m := by omega
      rw [upTo_end ps (Nat.le_refl _)]
      rw [hm] at hx
      injection hx with hx
      simp; omega
open Classical in
theorem pars_ex {xs : List Int} (ht : isTree xs = true) : ∃ ps, ParsOK xs ps := by
  have hl := tree_len ht
  refine ⟨(List.range xs.length).map fun i => if h : ∃ p, IsKid xs p i then (h.choose : Int) else -1, by simp, ?_, fun p c h => ?_⟩
  · have h0 : ¬ ∃ p, IsKid xs p 0 := fun ⟨p, h⟩ => by have := kid_bounds ht h; omega
    rw [List.getElem?_map, List.getElem?_range (by omega)]
    simp only [Option.map_some, dif_neg h0]
  · have hb := kid_bounds ht h
    have hx : ∃ p, IsKid xs p c := ⟨p, h⟩
    rw [List.getElem?_map, List.getElem?_range hb.2.2]
    simp only [Option.map_some, dif_pos hx]
    rw [kid_unique ht hx.choose_spec h]
/-- the way from v to w -/
noncomputable def way (xs : List Int) (v w : Nat) : List Int := upTo (parents xs) (meet xs v w) v ++ [(meet xs v w : Int)] ++ (upTo (parents xs) (meet xs v w) w).reverse
theorem way_mk {xs ps : List Int} (ht : isTree xs = true) (hp : ParsOK xs ps) {v w : Nat} {l r : List Int} {m : Nat} (hm : meet xs v w = m) (hl : Climb xs ps v m m l) (hr : Climb xs ps w m m r) : l ++ [(m : Int)] ++ r.reverse = way xs v w := by
  rw [way, hm, parents_eq ht hp, climb_end hl, climb_end hr]
theorem way_len {xs : List Int} (ht : isTree xs = true) (hE : ∃ ps, ParsOK xs ps) {v w : Nat} (hv : v < xs.length) (hw : w < xs.length) : 1 ≤ (way xs v w).length ∧ (way xs v w).length ≤ 47 := by
  obtain ⟨ps, hp⟩ := hE
  have hm := meet_bel ht hv hw
  have h1 := climb_len ht hp hv hm.1
  have h2 := climb_len ht hp hw hm.2
  have h3 := (tree_len ht).2
  rw [way, parents_eq ht hp]
  simp only [List.length_append, List.length_singleton, List.length_reverse]
  omega
noncomputable def dist (xs : List Int) (v w : Nat) : Nat := (way xs v w).length - 1
theorem dist_le {xs : List Int} (ht : isTree xs = true) (hE : ∃ ps, ParsOK xs ps) {v w : Nat} (hv : v < xs.length) (hw : w < xs.length) : dist xs v w ≤ 46 := by
  have := way_len ht hE hv hw
  simp only [dist]; omega
theorem dist_depths {xs ps ds : List Int} (ht : isTree xs = true) (hp : ParsOK xs ps) (hd : DepsOK xs ds) {v w : Nat} {x y z : Int} (hv : v < xs.length) (hw : w < xs.length) (hx : ds[v]? = some x) (hy : ds[w]? = some y) (hz : ds[meet xs v w]? = some z) :
    (dist xs v w : Int) = x + y - 2 * z := by
  have hm := meet_bel ht hv hw
  have h1 := up_depth ht hp hd hz hv hm.1 hx
  have h2 := up_depth ht hp hd hz hw hm.2 hy
  simp only [dist, way, parents_eq ht hp, List.length_append, List.length_singleton, List.length_reverse]
  omega
noncomputable def wayBetween (xs : List Int) (v w : Int) : List Int × Int := if code xs [v, w] = 0 then (way xs v.toNat w.toNat, 0) else ([], code xs [v, w])
theorem wayBetween_yes {xs : List Int} {v w : Nat} (h : code xs [(v : Int), (w : Int)] = 0) : wayBetween xs v w = (way xs v w, 0) := by simp [wayBetween, h]
theorem wayBetween_no {xs : List Int} {v w : Int} (h : code xs [v, w] ≠ 0) : wayBetween xs v w = ([], code xs [v, w]) := by simp [wayBetween, h]
noncomputable def stepsBetween (xs : List Int) (v w : Int) : Int × Int := if code xs [v, w] = 0 then ((dist xs v.toNat w.toNat : Int), 0) else (0, code xs [v, w])
theorem stepsBetween_yes {xs : List Int} {v w : Nat} (h : code xs [(v : Int), (w : Int)] = 0) : stepsBetween xs v w = ((dist xs v w : Int), 0) := by simp [stepsBetween, h]
theorem stepsBetween_no {xs : List Int} {v w : Int} (h : code xs [v, w] ≠ 0) : stepsBetween xs v w = (0, code xs [v, w]) := by simp [stepsBetween, h]
end M
end Go.Proofs.Ytbdmmeoelagdcaa
