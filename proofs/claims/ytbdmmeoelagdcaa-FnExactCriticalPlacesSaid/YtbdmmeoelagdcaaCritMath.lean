/- Critical places: where the texts of nodes begin, and what goes together. Mathematics, no conditions. -/
import Derived.Test.YtbdmmeoelagdcaaRuleMath
import Derived.Test.YtbdmmeoelagdcaaCom
import Derived.Test.YtbdmmeoelagdcaaPieceOf
namespace Go.Proofs.Ytbdmmeoelagdcaa
namespace M
theorem close_at : ∀ (l : List UInt8) (o : Nat), close l o = some [] → ∀ (k : Nat) (c : UInt8), l[k]? = some c → c ≠ 41 → ∃ r, piece (l.drop k) = some r := by
  intro l
  induction l with
  | nil => intro o _ k c h; simp at h
  | cons d t ih =>
    intro o h k c hk hc
    cases o with
    | zero => rw [close_zero] at h; injection h with h; cases h
    | succ o =>
      cases k with
      | zero =>
        simp only [List.getElem?_cons_zero] at hk
        injection hk with hk
        subst hk
        rw [close_piece hc] at h
        cases hp : piece (d :: t) with
        | none => rw [hp] at h; cases h
        | some r => exact ⟨r, by rw [List.drop_zero, hp]⟩
      | succ k =>
        simp only [List.getElem?_cons_succ] at hk
        rw [List.drop_succ_cons]
        by_cases h41 : d = 41
        · subst h41; rw [close_shut] at h; exact ih _ h k c hk hc
        · by_cases h40 : d = 40
          · subst h40; rw [close_open] at h; exact ih _ h k c hk hc
          · cases hl : isL d
            · rw [close_bad hl h40 h41] at h; cases h
            · rw [close_let hl] at h; exact ih _ h k c hk hc
theorem piece_at {l : List UInt8} (h : piece l = some []) {k : Nat} {c : UInt8} (hk : l[k]? = some c) (hc : c ≠ 41) : ∃ r, piece (l.drop k) = some r := by
  cases l with
  | nil => simp at hk
  | cons d t =>
    cases k with
    | zero => exact ⟨[], by rw [List.drop_zero, h]⟩
    | succ k =>
      simp only [List.getElem?_cons_succ] at hk
      rw [List.drop_succ_cons]
      by_cases h40 : d = 40
      · subst h40; rw [piece_open] at h; exact close_at _ _ h k c hk hc
      · cases hl : isL d
        · rw [piece_bad hl h40] at h; cases h
        · rw [piece_let hl] at h; injection h with h; subst h; simp at hk
theorem close_cut : ∀ (l : List UInt8) (o : Nat) (r : List UInt8), close l o = some r → close (l.take (l.length - r.length)) o = some [] := by
  intro l
  induction l with
  | nil =>
    intro o r h
    cases o with
    | zero => simp [close_zero]
    | succ o => rw [close_nil] at h; cases h
  | cons d t ih =>
    intro o r h
    cases o with
    | zero => rw [close_zero] at h; injection h with h; subst h; simp [close_zero]
    | succ o =>
      have key : ∀ o', close t o' = some r → close ((d :: t).take ((d :: t).length - r.length)) (o + 1) = close (d :: t.take (t.length - r.length)) (o + 1) := fun o' h' => by
        have := (close_drop _ _ _ h').1
        rw [List.length_cons, show t.length + 1 - r.length = (t.length - r.length) + 1 by omega, List.take_succ_cons]
      by_cases h41 : d = 41
      · subst h41; rw [close_shut] at h; rw [key _ h, close_shut]; exact ih _ _ h
      · by_cases h40 : d = 40
        · subst h40; rw [close_open] at h; rw [key _ h, close_open]; exact ih _ _ h
        · cases hl : isL d
          · rw [close_bad hl h40 h41] at h; cases h
          · rw [close_let hl] at h; rw [key _ h, close_let hl]; exact ih _ _ h
theorem piece_cut {l r : List UInt8} (h : piece l = some r) : piece (l.take (l.length - r.length)) = some [] := by
  cases l with
  | nil => cases h
  | cons d t =>
    by_cases h40 : d = 40
    · subst h40
      rw [piece_open] at h
      have := (close_drop _ _ _ h).1
      rw [List.length_cons, show t.length + 1 - r.length = (t.length - r.length) + 1 by omega, List.take_succ_cons, piece_open]
      exact close_cut _ _ _ h
    · cases hl : isL d
      · rw [piece_bad hl h40] at h; cases h
      · rw [piece_let hl] at h; injection h with h; subst h
        rw [List.length_cons, show t.length + 1 - t.length = 0 + 1 by omega, List.take_succ_cons, List.take_zero, piece_let hl]
theorem cnt_take_drop (l : List UInt8) (k m i : Nat) : cntL ((l.drop k).take m) i ≤ cntL l i := by
  simp only [cntL]
  exact List.Sublist.countP_le (List.Sublist.trans (List.take_sublist _ _) (List.drop_sublist _ _))
theorem pat_cut {l r : List UInt8} {k : Nat} (h : isPat l = true) (hr : piece (l.drop k) = some r) : isPat ((l.drop k).take ((l.drop k).length - r.length)) = true := by
  obtain ⟨h1, h2, h3⟩ := isPat_iff.1 h
  refine isPat_iff.2 ⟨?_, piece_cut hr, fun i hi => Nat.le_trans (cnt_take_drop _ _ _ _) (h3 i hi)⟩
  rw [List.length_take, List.length_drop]
  omega
theorem com1_some {P Q : List UInt8} {x : List UInt8 × List UInt8 × List UInt8} (h : com1 P Q = some x) : x.1 ≠ [] := by
  cases P with
  | nil => cases h
  | cons c P =>
    cases Q with
    | nil => cases h
    | cons d Q =>
      rw [com1] at h
      split at h
      · obtain ⟨r, hr, e⟩ := Option.map_eq_some_iff.1 h
        have := (piece_drop hr).1
        rw [← e]
        intro e2
        have := congrArg List.length e2
        simp only [List.length_take, List.length_nil] at this
        omega
      · split at h
        · obtain ⟨r, hr, e⟩ := Option.map_eq_some_iff.1 h
          have := (piece_drop hr).1
          rw [← e]
          intro e2
          have := congrArg List.length e2
          simp only [List.length_take, List.length_nil] at this
          omega
        · split at h
          · obtain ⟨r, hr, e⟩ := Option.map_eq_some_iff.1 h
            rw [← e]; simp
          · cases h
/-- the places of the nodes among the first k bytes -/
def plTo (m : List UInt8) (k : Nat) : List Int := ((List.range k).filter fun i => m[i]? == some 40).map fun i : Nat => (i : Int)
theorem plTo_hit {m : List UInt8} {k : Nat} (h : m[k]? = some 40) : plTo m (k + 1) = plTo m k ++ [(k : Int)] := by simp [plTo, List.range_succ, h]
theorem plTo_miss {m : List UInt8} {k : Nat} {c : UInt8} (h : m[k]? = some c) (hc : c ≠ 40) : plTo m (k + 1) = plTo m k := by simp [plTo, List.range_succ, h, hc]
theorem plTo_len (m : List UInt8) (k : Nat) : (plTo m k).length ≤ k := by
  rw [plTo, List.length_map]; exact Nat.le_trans (List.length_filter_le _ _) (by simp)
theorem mem_plTo {m : List UInt8} {k : Nat} {x : Int} (h : x ∈ plTo m k) : ∃ i : Nat, x = (i : Int) ∧ i < k ∧ m[i]? = some 40 := by
  obtain ⟨i, hi, e⟩ := List.mem_map.1 h
  rw [List.mem_filter, List.mem_range, beq_iff_eq] at hi
  exact ⟨i, e.symm, hi.1, hi.2⟩
/-- whether what begins at a place goes together with a text -/
def goT (l m : List UInt8) (x : Int) : Bool := (com1 l (M.pieceT (m.drop x.toNat))).isSome
/-- the critical places among the first k bytes -/
def crTo (l m : List UInt8) (k : Nat) : List Int := (plTo m k).filter (goT l m)
theorem crTo_len (l m : List UInt8) (k : Nat) : (crTo l m k).length ≤ k := Nat.le_trans (List.length_filter_le _ _) (plTo_len m k)
theorem crTo_miss {l m : List UInt8} {k : Nat} {c : UInt8} (h : m[k]? = some c) (hc : c ≠ 40) : crTo l m (k + 1) = crTo l m k := by rw [crTo, plTo_miss h hc]; rfl
theorem crTo_hit {l m : List UInt8} {k : Nat} (h : m[k]? = some 40) (hg : goT l m (k : Int) = true) : crTo l m (k + 1) = crTo l m k ++ [(k : Int)] := by rw [crTo, plTo_hit h, List.filter_append]; simp [crTo, hg]
theorem crTo_apart {l m : List UInt8} {k : Nat} (h : m[k]? = some 40) (hg : goT l m (k : Int) = false) : crTo l m (k + 1) = crTo l m k := by rw [crTo, plTo_hit h, List.filter_append]; simp [crTo, hg]
end M
end Go.Proofs.Ytbdmmeoelagdcaa
