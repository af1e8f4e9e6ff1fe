/- listsInside: the iterator over the lists by which a tree is inside another: a search with a way back; the list that is handed over is changed afterwards. -/
import Derived.Test.YtbnnlifpldgcfaaInsF
import Derived.Test.YtbnnlifpldgcfaaCaps
import Derived.Test.YtbnnlifpldgcfaaRangeRows
import Derived.Test.YtbnnlifpldgcfaaEach
import Derived.Maps.AppendAt
import Derived.Sort.BigQuietIn
import Derived.Sort.QuietTacIn
namespace Go.Proofs.Ytbnnlifpldgcfaa
open Go.RowKit Go.Shelf Go.Maps
attribute [local go_sem] Oper.semAt_some

/-- the numbers of a row in memory -/
def numsOf (W : World) : Value → List Int
  | .slice (some a) m _ => (List.range m).map fun j => match W.cell? ⟨a.block, j, none⟩ with
    | some v => intOf v
    | none => 0
  | _ => []
theorem numsOf_own {W : World} {B n c : Nat} {A : Option Addr} {zs : List Int} (h : Own64 W B (.slice A n c) zs) : numsOf W (.slice A n c) = zs := by
  have hn := own64_len h
  rcases h.2 with ⟨h0, h1⟩ | ⟨g, _, _, hv, _⟩
  · injection h0 with e1 e2 e3
    subst e1
    exact (List.eq_nil_of_length_eq_zero (by omega)).symm
  · injection hv with e1 e2 e3
    subst e1
    subst hn
    apply List.ext_getElem?
    intro j
    simp only [numsOf, List.getElem?_map]
    by_cases hj : j < zs.length
    · rw [List.getElem?_range hj]
      obtain ⟨x, hx⟩ : ∃ x, zs[j]? = some x := ⟨_, List.getElem?_eq_getElem hj⟩
      have := (own64_cell h rfl hx).1
      simp only [Option.map_some]
      rw [this, hx]
      rfl
    · rw [List.getElem?_eq_none (by simp; omega), List.getElem?_eq_none (by omega)]; rfl
/-- what a round must keep: all cells but those of one block -/
def KeepD (D : Nat) (W W' : World) : Prop := W.heap.size ≤ W'.heap.size ∧ ∀ (j : Nat) (o : Obj), j ≠ D → W.heap[j]? = some o → o.isCells = true → W'.heap[j]? = some o
theorem KeepD.t {D : Nat} {X Y Z : World} (h : KeepD D X Y) (k : KeepD D Y Z) : KeepD D X Z := ⟨Nat.le_trans h.1 k.1, fun j o hj e hc => k.2 j o hj (h.2 j o hj e hc) hc⟩
theorem keepD_turn {D : Nat} {W : World} {l : Nat} {r r' : Loop} (h : W.heap[l]? = some (.loop r)) : KeepD D W (W.putObj l (.loop r')) :=
  ⟨(grownBy_putObj' W l _).size, fun j o _ hj hc => ((grownBy_putObj' W l _).block j (Array.getElem?_eq_some_iff.1 hj).1 (fun e => by
    injection e with e
    subst e
    rw [hj] at h
    injection h with h
    subst h
    cases hc)).trans hj⟩
theorem KeepD.own {D B : Nat} {W W' : World} (h : KeepD D W W') {v : Value} {zs : List Int} (ho : Own64 W B v zs) (hB : D < B) : Own64 W' B v zs := by
  refine ⟨ho.1, ?_⟩
  rcases ho.2 with h1 | ⟨g, cap, cur, h1, h2, h3, h4⟩
  · exact .inl h1
  · exact .inr ⟨g, cap, cur, h1, h2, h.2 g _ (by omega) h3 rfl, h4⟩
theorem KeepD.cell {D : Nat} {W W' : World} (h : KeepD D W W') {p : Addr} {v : Value} (hc : W.cell? p = some v) (hp : p.block ≠ D) : W'.cell? p = some v := by
  have hc' := hc
  unfold World.cell? at hc' ⊢
  cases ho : W.heap[p.block]? with
  | none => rw [ho] at hc'; cases hc'
  | some o =>
    cases o with
    | cells c e r => rw [h.2 _ _ hp ho rfl]; rw [ho] at hc'; exact hc'
    | _ => rw [ho] at hc'; cases hc'
theorem KeepD.ints {D b : Nat} {W W' : World} (h : KeepD D W W') {A : Option Addr} {zs : List Int} (hI : Ints W b A zs) (hD : b ≤ D) : Ints W' b A zs := fun hn => by
  obtain ⟨b', off, e, hb, hc⟩ := hI hn
  exact ⟨b', off, e, hb, fun j x hx => h.cell (hc j x hx) (show b' ≠ D by omega)⟩
theorem KeepD.boxed {D B : Nat} {W W' : World} (h : KeepD D W W') {t : TypeId} {v : Value} (hb : Boxed W B t v) (hB : B ≠ D) : Boxed W' B t v := h.2 B _ hB hb rfl
theorem keepD_below {D : Nat} {W W' : World} (h : Below W.heap.size W W') : KeepD D W W' := ⟨h.size, fun j _ _ hj _ => (h.block j (Array.getElem?_eq_some_iff.1 hj).1).trans hj⟩
/-- a round that writes nothing but a box -/
theorem keepD_box {D : Nat} {W : World} {v : Value} : KeepD D W (W.setCell ⟨D, 0, none⟩ v) :=
  ⟨by simp [World.setCell], fun j o hj e _ => (Below.heap_setCell W ⟨D, 0, none⟩ v j (fun e => hj (by rw [e]))).trans e⟩

/-- can v follow? a list that is full can't be followed -/
theorem canFollow_full (A An Ap : Option Addr) (n c m cn cp : Nat) (U : Nat) (v : Int) (w : World) (hnm : ¬ n < m) :
    Calls Try.prog 98 #[.slice Ap m cp, .slice A U c, .slice An n cn, .int .i64 v] w fun e w' => e = .returned (.bool false) ∧ ∃ q, w' = w.drewN q := by
  have h1 : ¬ (n : Int) < (m : Int) := by omega
  have hd : decide ((n : Int) < (m : Int)) = false := decide_eq_false h1
  go_enter Try.func98, Try.ntmps98
  go_wp2_with fail
  go_quiet (fail)
  go_wp2_with fail
  go_ret
  exact ⟨rfl, nq, rfl⟩

theorem cellsOfRow {W : World} {base e size k : Nat} {v : Value} {xs : List Value} (h : W.ownsRow base e size v k xs) (j : Nat) (o : Obj) (hj : v.ownBlock = some j) (ho : W.heap[j]? = some o) : o.isCells = true := by
  rcases h.2 with ⟨rfl, _⟩ | ⟨g, cap, cur, rfl, _, hg, _⟩
  · simp [Value.ownBlock] at hj
  · obtain rfl : g = j := by simpa [Value.ownBlock] using hj
    rw [hg] at ho
    cases ho
    rfl
theorem keptRow {W W' : World} {base e size k B : Nat} {v : Value} {xs : List Value} {row : Option Nat} (h : W.ownsRow base e size v k xs) (hg : W.grownBy W' row) (hr : ∀ r, row = some r → B ≤ r ∧ ∃ o : Obj, W.heap[r]? = some o ∧ o.isCells = false) : W'.ownsRow base e size v k xs := by
  refine h.kept hg ?_
  cases hv : v.ownBlock with
  | none => exact .inl rfl
  | some g =>
    refine .inr fun e' => ?_
    obtain ⟨_, o, ho, hc⟩ := hr g e'.symm
    rw [cellsOfRow h g o hv ho] at hc
    cases hc

/-- what is told of an element: it reads the next list -/
def RowI (us xs : List Int) (B : Nat) (pre : List Value) (x : Value) (W : World) : Prop :=
  ∃ (l : List Nat) (g c' : Nat), (insideLists us xs)[pre.length]? = some l ∧ x = .slice (some ⟨g, 0, none⟩) xs.length c' ∧ Own64 W B x (nums l)
theorem RowI.from (us xs : List Int) (B D : Nat) : OwnFrom D (fun (s : List Value × Value) W => RowI us xs B s.1 s.2 W) := fun _ _ _ _ ⟨l, g, c', h1, h2, h3⟩ hg hr => ⟨l, g, c', h1, h2, keptRow h3 hg hr⟩
end Go.Proofs.Ytbnnlifpldgcfaa
