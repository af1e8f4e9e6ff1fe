/- codeBy: the code of the first step that finds something wrong. -/
import Derived.Test.YtbdmmeoelagdcaaStateCode
namespace Go.Proofs.Ytbdmmeoelagdcaa
open Go.RowKit

namespace M
def firstCode : List Int → Int
  | [] => 0
  | r :: t => if r = 0 then firstCode t else r
theorem firstCode_drop {cs : List Int} {k : Nat} {r : Int} (h : cs[k]? = some r) : firstCode (cs.drop k) = if r = 0 then firstCode (cs.drop (k + 1)) else r := by
  obtain ⟨h1, h2⟩ := List.getElem?_eq_some_iff.1 h
  rw [List.drop_eq_getElem_cons h1, h2]; rfl
end M

def isStep (f : Nat) : Prop := f = 111 ∨ f = 155 ∨ f = 156 ∨ f = 112

set_option maxHeartbeats 4000000 in
set_option maxRecDepth 100000 in
theorem codeBy (A A2 : Option Addr) (n c m c2 g len cap : Nat) (fs : List Nat) (cs : List Int) (w : World) (h4 : len ≤ 4) (hlen : Hid (fs.length = len)) (hcl : Hid (cs.length = len)) (hg : g < w.heap.size) (hcells : Hid (∀ j f, fs[j]? = some f → w.cell? ⟨g, j, none⟩ = some (.func (.func f) #[] #[]))) (hfs : Hid (∀ f ∈ fs, isStep f))
    (H : Hid (∀ j f r, fs[j]? = some f → cs[j]? = some r → (∀ i : Nat, i < j → cs[i]? = some (0 : Int)) → ∀ X, Hid (Below w.heap.size w X) → Calls Try.prog f #[.agg #[.slice A n c, .slice A2 m c2]] X fun e w' => e = .returned (.int .i64 r) ∧ Below X.heap.size X w')) (r : Int) (hr : Hid (M.firstCode cs = r)) :
    Calls Try.prog 110 #[.agg #[.slice A n c, .slice A2 m c2], .slice (some ⟨g, 0, none⟩) len cap] w fun e w' => e = .returned (.int .i64 r) ∧ Below w.heap.size w w' := by
  obtain ⟨d0, d1⟩ := order_cells w (.slice A n c) (.slice A2 m c2) 118
  have hB0 := Lib.hid (bal (b0 w) (.cells #[.slice A n c, .slice A2 m c2] 118))
  obtain ⟨W, hW⟩ : ∃ W, W = w.alloc (.cells #[.slice A n c, .slice A2 m c2] 118) := ⟨_, rfl⟩
  rw [← hW] at d0 d1 hB0
  have hst : Hid (M.firstCode (cs.drop 0) = r) := by rw [List.drop_zero]; exact hr
  have hst2 : Hid (∀ i : Nat, i < 0 → cs[i]? = some (0 : Int)) := fun i hi => by omega
  clear hr
  go_enter Try.func110, Try.ntmps110
  go_wp2
  rw [← hW]
  clear hW
  go_loopw [6, 7, 10] (fun _ _ i wr => ∃ (k : Nat), k ≤ len ∧ i = .int .i64 (k : Int) ∧ Hid (M.firstCode (cs.drop k) = r) ∧ Hid (∀ i : Nat, i < k → cs[i]? = some (0 : Int)) ∧ Hid (Below W.heap.size W wr)) (fun _ _ i _ => len - (intOf i).toNat)
  case atStart => exact ⟨0, Nat.zero_le _, rfl, hst, hst2, Below.refl _ _⟩
  case round =>
    obtain ⟨k, hk, rfl, hF, hZ, hbr⟩ := hrel
    clear hst hst2
    have c0 := cellOf_be d0 hbr.out
    have c1 := cellOf_be d1 hbr.out
    by_cases hlt : k < len
    · obtain ⟨f, hf⟩ : ∃ f, fs[k]? = some f := ⟨_, List.getElem?_eq_getElem (by rw [hlen.out]; exact hlt)⟩
      obtain ⟨q, hq⟩ : ∃ q, cs[k]? = some q := ⟨_, List.getElem?_eq_getElem (by rw [hcl.out]; exact hlt)⟩
      have hbw := btr hB0.out hbr.out
      have cf : wr.cell? ⟨g, k, none⟩ = some (.func (.func f) #[] #[]) := (hbw.cell (p := ⟨g, k, none⟩) hg).trans (hcells.out k f hf)
      have hfd := M.firstCode_drop hq
      rw [hF.out] at hfd
      have HC := Lib.hid (H.out k f q hf hq hZ.out wr hbw)
      have hki : (k : Int) < (len : Int) := by omega
      have hk0 : (0 : Int) ≤ (k : Int) := by omega
      have hstep := hfs.out f (List.mem_of_getElem? hf)
      have Hq := Lib.hid hq
      by_cases hq0 : q = 0
      · subst hq0
        have hF2 : Hid (M.firstCode (cs.drop (k + 1)) = r) := by rw [if_pos rfl] at hfd; exact hfd.symm
        have hZ2 : Hid (∀ i : Nat, i < k + 1 → cs[i]? = some (0 : Int)) := fun i hi => by
          rcases Nat.lt_or_ge i k with h | h
          · exact hZ.out i h
          · obtain rfl : i = k := by omega
            exact Hq.out
        clear hfd hf hq hbw hF hZ
        rcases hstep with e | e | e | e
        all_goals
          subst e
          go_wp2_with fail
          refine HC.out.mono ?_
          rintro e w3 ⟨rfl, hb⟩
          have hb3 := Lib.hid (btr hbr.out hb)
          clear hb HC cf
          go_wp2
          go_roundw
          case rel => exact ⟨k + 1, by omega, by go_num, hF2, hZ2, hb3⟩
          case measure => simp [intOf]; omega
      · have hqr : q = r := by rw [if_neg hq0] at hfd; exact hfd.symm
        have hq1 : (q != 0) = true := by simpa using hq0
        subst hqr
        clear hfd hf hq hbw hF hZ
        rcases hstep with e | e | e | e
        all_goals
          subst e
          go_wp2_with fail
          refine HC.out.mono ?_
          rintro e w3 ⟨rfl, hb⟩
          have hb3 := Lib.hid (btr hbr.out hb)
          clear hb HC cf
          go_wp2
          go_ret
          exact ⟨rfl, btr hB0.out hb3.out⟩
    · obtain rfl : k = len := by omega
      have hge : ¬ (k : Int) < (k : Int) := by omega
      have hR : (0 : Int) = r := by rw [← hF.out, List.drop_of_length_le (by rw [hcl.out]; exact Nat.le_refl _)]; rfl
      subst hR
      go_wp2
      go_ret
      exact ⟨rfl, btr hB0.out hbr.out⟩

namespace M
/-- the codes of the checks of a tree, a list of all its nodes, and a growing order -/
noncomputable def codes3 (xs l : List Int) : List Int := [if isTree xs then 0 else 1, if isOrd xs.length l then 0 else 2, if grows (parents xs) l then 0 else 5]
def gcode2 (xs l : List Int) : Int := if isTree xs then (if isOrd xs.length l then 0 else 2) else 1
noncomputable def gcode (xs l : List Int) : Int := if gcode2 xs l = 0 then (if grows (parents xs) l then 0 else 5) else gcode2 xs l
theorem gcode2_first (xs l : List Int) : firstCode ((codes3 xs l).take 2) = gcode2 xs l := by
  simp only [codes3, gcode2, List.take, firstCode]
  cases isTree xs <;> cases isOrd xs.length l <;> simp
theorem gcode_first (xs l : List Int) : firstCode (codes3 xs l) = gcode xs l := by
  simp only [codes3, gcode, gcode2, firstCode]
  rcases Bool.eq_false_or_eq_true (isTree xs) with ht | ht <;> rcases Bool.eq_false_or_eq_true (isOrd xs.length l) with ho | ho <;> rcases Bool.eq_false_or_eq_true (grows (parents xs) l) with hg | hg <;> simp [ht, ho, hg]
theorem gcode2_zero {xs l : List Int} (h : gcode2 xs l = 0) : isTree xs = true ∧ isOrd xs.length l = true := by
  simp only [gcode2] at h
  cases ht : isTree xs <;> cases ho : isOrd xs.length l <;> simp [ht, ho] at h ⊢
theorem gcode_zero {xs l : List Int} (h : gcode xs l = 0) : isTree xs = true ∧ isOrd xs.length l = true ∧ grows (parents xs) l = true := by
  simp only [gcode] at h
  by_cases h2 : gcode2 xs l = 0
  · rw [if_pos h2] at h
    obtain ⟨a, b⟩ := gcode2_zero h2
    refine ⟨a, b, ?_⟩
    cases hg : grows (parents xs) l
    · rw [hg] at h; simp at h
    · rfl
  · rw [if_neg h2] at h; exact absurd h h2
end M
def steps3 : List Nat := [111, 155, 156]

theorem steps3_hold (A A2 : Option Addr) (xs l : List Int) (c c2 : Nat) (w : World) (hx : xs.length ≤ 1048576) (hcc : xs.length ≤ c ∧ c ≤ 1000000000000) (h : Hid (Ints w w.heap.size A xs)) (h2 : Hid (Ints w w.heap.size A2 l)) :
    ∀ j f r, steps3[j]? = some f → (M.codes3 xs l)[j]? = some r → (∀ i : Nat, i < j → (M.codes3 xs l)[i]? = some (0 : Int)) → ∀ X, Hid (Below w.heap.size w X) → Calls Try.prog f #[.agg #[.slice A xs.length c, .slice A2 l.length c2]] X fun e w' => e = .returned (.int .i64 r) ∧ Below X.heap.size X w' := by
  intro j f r hf hr hz X hX
  have hT : 0 < j → M.isTree xs = true := fun hj => by
    have := hz 0 hj
    simp only [M.codes3, List.getElem?_cons_zero, Option.some.injEq] at this
    cases ht : M.isTree xs
    · rw [ht] at this; simp at this
    · rfl
  have hO : 1 < j → M.isOrd xs.length l = true := fun hj => by
    have := hz 1 hj
    simp only [M.codes3, List.getElem?_cons_succ, List.getElem?_cons_zero, Option.some.injEq] at this
    cases ht : M.isOrd xs.length l
    · rw [ht] at this; simp at this
    · rfl
  match j with
  | 0 =>
    simp only [steps3, M.codes3, List.getElem?_cons_zero, Option.some.injEq] at hf hr
    subst hf
    exact treeCode A A2 xs c l.length c2 X (by omega) (h.out.be hX.out) r hr
  | 1 =>
    simp only [steps3, M.codes3, List.getElem?_cons_succ, List.getElem?_cons_zero, Option.some.injEq] at hf hr
    subst hf
    have hl := M.tree_len (hT (by omega))
    exact listCode A A2 l c c2 xs.length X hl.1 hl.2 (h2.out.be hX.out) r hr
  | 2 =>
    simp only [steps3, M.codes3, List.getElem?_cons_succ, List.getElem?_cons_zero, Option.some.injEq] at hf hr
    subst hf
    have ho := hO (by omega)
    have hl := (M.isOrd_iff.1 ho).1
    have := stateCode A A2 xs l c c2 xs.length X rfl hcc.1 hcc.2 (hT (by omega)) ho (h.out.be hX.out) (h2.out.be hX.out) r hr
    rw [hl]
    exact this
  | j + 3 => simp [steps3] at hf

/-- the codes of two or of all three steps, the list of the steps lying in memory -/
theorem codeThree (A A2 : Option Addr) (xs l : List Int) (c c2 g len : Nat) (w : World) (hx : xs.length ≤ 1048576) (hcc : xs.length ≤ c ∧ c ≤ 1000000000000) (h : Hid (Ints w w.heap.size A xs)) (h2 : Hid (Ints w w.heap.size A2 l)) (hl : len = 2 ∨ len = 3) (hg : g < w.heap.size)
    (hcells : Hid (∀ j f, (steps3.take len)[j]? = some f → w.cell? ⟨g, j, none⟩ = some (.func (.func f) #[] #[]))) (r : Int) (hr : Hid (M.firstCode ((M.codes3 xs l).take len) = r)) :
    Calls Try.prog 110 #[.agg #[.slice A xs.length c, .slice A2 l.length c2], .slice (some ⟨g, 0, none⟩) len len] w fun e w' => e = .returned (.int .i64 r) ∧ Below w.heap.size w w' := by
  refine codeBy A A2 xs.length c l.length c2 g len len (steps3.take len) ((M.codes3 xs l).take len) w (by omega) ?_ ?_ hg hcells ?_ ?_ r hr
  · rcases hl with e | e <;> subst e <;> rfl
  · rcases hl with e | e <;> subst e <;> rfl
  · intro f hf
    have := List.mem_of_mem_take hf
    simp only [steps3, List.mem_cons, List.not_mem_nil, or_false] at this
    rcases this with e | e | e
    · exact .inl e
    · exact .inr (.inl e)
    · exact .inr (.inr (.inl e))
  · intro j f q hf hq hz X hX
    have hj : j < len := by
      have := (List.getElem?_eq_some_iff.1 hf).1
      rw [List.length_take] at this
      omega
    rw [List.getElem?_take_of_lt hj] at hf hq
    exact steps3_hold A A2 xs l c c2 w hx hcc h h2 j f q hf hq (fun i hi => by have := hz i hi; rwa [List.getElem?_take_of_lt (by omega)] at this) X hX
end Go.Proofs.Ytbdmmeoelagdcaa
