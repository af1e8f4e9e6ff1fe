/- codeBy: the code of the first step that finds something wrong. -/
import Derived.Test.YtkcldfliiagloaaMgGrowingOfRank2
import Derived.ProofKit
import Derived.SizedLaws
import Derived.Lib.SmallJoins
import Derived.Deep.Slices
import Derived.Deep.Fields
import Derived.JoinedOf
namespace Go.Proofs.Ytkcldfliiagloaa
open Go.RowKit

namespace M
def firstCode : List Int → Int
  | [] => 0
  | r :: t => if r = 0 then firstCode t else r
theorem firstCode_drop {cs : List Int} {k : Nat} {r : Int} (h : cs[k]? = some r) : firstCode (cs.drop k) = if r = 0 then firstCode (cs.drop (k + 1)) else r := by
  obtain ⟨h1, h2⟩ := List.getElem?_eq_some_iff.1 h
  rw [List.drop_eq_getElem_cons h1, h2]; rfl
end M

def isStep (f : Nat) : Prop := f = 97 ∨ f = 167 ∨ f = 168 ∨ f = 91

set_option maxHeartbeats 4000000 in
set_option maxRecDepth 100000 in
theorem codeBy (A A2 : Option Addr) (n c m c2 g len cap : Nat) (fs : List Nat) (cs : List Int) (w : World) (h4 : len ≤ 4) (hlen : Hid (fs.length = len)) (hcl : Hid (cs.length = len)) (hg : g < w.heap.size) (hcells : Hid (∀ j f, fs[j]? = some f → w.cell? ⟨g, j, none⟩ = some (.func (.func f) #[] #[]))) (hfs : Hid (∀ f ∈ fs, isStep f))
    (H : Hid (∀ j f r, fs[j]? = some f → cs[j]? = some r → (∀ i : Nat, i < j → cs[i]? = some (0 : Int)) → ∀ X, Hid (Below w.heap.size w X) → Calls Try.prog f #[.agg #[.slice A n c, .slice A2 m c2]] X fun e w' => e = .returned (.int .i64 r) ∧ Below X.heap.size X w')) (r : Int) (hr : Hid (M.firstCode cs = r)) :
    Calls Try.prog 89 #[.agg #[.slice A n c, .slice A2 m c2], .slice (some ⟨g, 0, none⟩) len cap] w fun e w' => e = .returned (.int .i64 r) ∧ Below w.heap.size w w' := by
  obtain ⟨d0, d1⟩ := order_cells w (.slice A n c) (.slice A2 m c2) 96
  have hB0 := Lib.hid (bal (b0 w) (.cells #[.slice A n c, .slice A2 m c2] 96))
  obtain ⟨W, hW⟩ : ∃ W, W = w.alloc (.cells #[.slice A n c, .slice A2 m c2] 96) := ⟨_, rfl⟩
  rw [← hW] at d0 d1 hB0
  have hst : Hid (M.firstCode (cs.drop 0) = r) := by rw [List.drop_zero]; exact hr
  have hst2 : Hid (∀ i : Nat, i < 0 → cs[i]? = some (0 : Int)) := fun i hi => by omega
  clear hr
  go_enter Try.func89, Try.ntmps89
  go_wp2
  rw [← hW]
  clear hW
  go_loopw [6, 7, 10] (fun _ _ i wr => ∃ (k : Nat), k ≤ len ∧ i = .int .i64 (k : Int) ∧ Hid (M.firstCode (cs.drop k) = r) ∧ Hid (∀ i : Nat, i < k → cs[i]? = some (0 : Int)) ∧ Hid (Below W.heap.size W wr)) (fun _ _ i _ => len - (intOf i).toNat)
  case atStart => exact ⟨0, Nat.zero_le _, rfl, hst, hst2, Below.refl _ _⟩
  case round =>
    obtain ⟨k, hk, rfl, hF, hZ, hbr⟩ := hrel
    clear hst hst2
    have c0 := cellOf_be d0 hbr.out
    have c1 := cellOf_be d1 hbr.out
    by_cases hlt : k < len
    · obtain ⟨f, hf⟩ : ∃ f, fs[k]? = some f := ⟨_, List.getElem?_eq_getElem (by rw [hlen.out]; exact hlt)⟩
      obtain ⟨q, hq⟩ : ∃ q, cs[k]? = some q := ⟨_, List.getElem?_eq_getElem (by rw [hcl.out]; exact hlt)⟩
      have hbw := btr hB0.out hbr.out
      have cf : wr.cell? ⟨g, k, none⟩ = some (.func (.func f) #[] #[]) := (hbw.cell (p := ⟨g, k, none⟩) hg).trans (hcells.out k f hf)
      have hfd := M.firstCode_drop hq
      rw [hF.out] at hfd
      have HC := Lib.hid (H.out k f q hf hq hZ.out wr hbw)
      have hki : (k : Int) < (len : Int) := by omega
      have hk0 : (0 : Int) ≤ (k : Int) := by omega
      have hstep := hfs.out f (List.mem_of_getElem? hf)
      have Hq := Lib.hid hq
      by_cases hq0 : q = 0
      · subst hq0
        have hF2 : Hid (M.firstCode (cs.drop (k + 1)) = r) := by rw [if_pos rfl] at hfd; exact hfd.symm
        have hZ2 : Hid (∀ i : Nat, i < k + 1 → cs[i]? = some (0 : Int)) := fun i hi => by
          rcases Nat.lt_or_ge i k with h | h
          · exact hZ.out i h
          · obtain rfl : i = k := by omega
            exact Hq.out
        clear hfd hf hq hbw hF hZ
        rcases hstep with e | e | e | e
        all_goals
          subst e
          go_wp2_with fail
          refine HC.out.mono ?_
          rintro e w3 ⟨rfl, hb⟩
          have hb3 := Lib.hid (btr hbr.out hb)
          clear hb HC cf
          go_wp2
          go_roundw
          case rel => exact ⟨k + 1, by omega, by go_num, hF2, hZ2, hb3⟩
          case measure => simp [intOf]; omega
      · have hqr : q = r := by rw [if_neg hq0] at hfd; exact hfd.symm
        have hq1 : (q != 0) = true := by simpa using hq0
        subst hqr
        clear hfd hf hq hbw hF hZ
        rcases hstep with e | e | e | e
        all_goals
          subst e
          go_wp2_with fail
          refine HC.out.mono ?_
          rintro e w3 ⟨rfl, hb⟩
          have hb3 := Lib.hid (btr hbr.out hb)
          clear hb HC cf
          go_wp2
          go_ret
          exact ⟨rfl, btr hB0.out hb3.out⟩
    · obtain rfl : k = len := by omega
      have hge : ¬ (k : Int) < (k : Int) := by omega
      have hR : (0 : Int) = r := by rw [← hF.out, List.drop_of_length_le (by rw [hcl.out]; exact Nat.le_refl _)]; rfl
      subst hR
      go_wp2
      go_ret
      exact ⟨rfl, btr hB0.out hbr.out⟩

namespace M
/-- the codes of the checks of a tree, a list of all its nodes, and a growing order -/
noncomputable def codes3 (xs l : List Int) : List Int := [if isTree xs then 0 else 1, if isOrd xs.length l then 0 else 2, if grows (parents xs) l then 0 else 5]
def gcode2 (xs l : List Int) : Int := if isTree xs then (if isOrd xs.length l then 0 else 2) else 1
noncomputable def gcode (xs l : List Int) : Int := if gcode2 xs l = 0 then (if grows (parents xs) l then 0 else 5) else gcode2 xs l
theorem gcode2_first (xs l : List Int) : firstCode ((codes3 xs l).take 2) = gcode2 xs l := by
  simp only [codes3, gcode2, List.take, firstCode]
  cases isTree xs <;> cases isOrd xs.length l <;> simp
theorem gcode_first (xs l : List Int) : firstCode (codes3 xs l) = gcode xs l := by
  simp only [codes3, gcode, gcode2, firstCode]
  rcases Bool.eq_false_or_eq_true (isTree xs) with ht | ht <;> rcases Bool.eq_false_or_eq_true (isOrd xs.length l) with ho | ho <;> rcases Bool.eq_false_or_eq_true (grows (parents xs) l) with hg | hg <;> simp [ht, ho, hg]
theorem gcode2_zero {xs l : List Int} (h : gcode2 xs l = 0) : isTree xs = true ∧ isOrd xs.length l = true := by
  simp only [gcode2] at h
  cases ht : isTree xs <;> cases ho : isOrd xs.length l <;> simp [ht, ho] at h ⊢
theorem gcode_zero {xs l : List Int} (h : gcode xs l = 0) : isTree xs = true ∧ isOrd xs.length l = true ∧ grows (parents xs) l = true := by
  simp only [gcode] at h
  by_cases h2 : gcode2 xs l = 0
  · rw [if_pos h2] at h
    obtain ⟨a, b⟩ := gcode2_zero h2
    refine ⟨a, b, ?_⟩
    cases hg : grows (parents xs) l
    · rw [hg] at h; simp at h
    · rfl
  · rw [if_neg h2] at h; exact absurd h h2
end M
def steps3 : List Nat := [97, 167, 168]

theorem steps3_hold (A A2 : Option Addr) (xs l : List Int) (c c2 : Nat) (w : World) (hx : xs.length ≤ 1048576) (hcc : xs.length ≤ c ∧ c ≤ 1000000000000) (h : Hid (Ints w w.heap.size A xs)) (h2 : Hid (Ints w w.heap.size A2 l)) :
    ∀ j f r, steps3[j]? = some f → (M.codes3 xs l)[j]? = some r → (∀ i : Nat, i < j → (M.codes3 xs l)[i]? = some (0 : Int)) → ∀ X, Hid (Below w.heap.size w X) → Calls Try.prog f #[.agg #[.slice A xs.length c, .slice A2 l.length c2]] X fun e w' => e = .returned (.int .i64 r) ∧ Below X.heap.size X w' := by
  intro j f r hf hr hz X hX
  have hT : 0 < j → M.isTree xs = true := fun hj => by
    have := hz 0 hj
    simp only [M.codes3, List.getElem?_cons_zero, Option.some.injEq] at this
    cases ht : M.isTree xs
    · rw [ht] at this; simp at this
    · rfl
  have hO : 1 < j → M.isOrd xs.length l = true := fun hj => by
    have := hz 1 hj
    simp only [M.codes3, List.getElem?_cons_succ, List.getElem?_cons_zero, Option.some.injEq] at this
    cases ht : M.isOrd xs.length l
    · rw [ht] at this; simp at this
    · rfl
  match j with
  | 0 =>
    simp only [steps3, M.codes3, List.getElem?_cons_zero, Option.some.injEq] at hf hr
    subst hf
    exact treeCode A A2 xs c l.length c2 X (by omega) (h.out.be hX.out) r hr
  | 1 =>
    simp only [steps3, M.codes3, List.getElem?_cons_succ, List.getElem?_cons_zero, Option.some.injEq] at hf hr
    subst hf
    have hl := M.tree_len (hT (by omega))
    exact listCode A A2 l c c2 xs.length X hl.1 hl.2 (h2.out.be hX.out) r hr
  | 2 =>
    simp only [steps3, M.codes3, List.getElem?_cons_succ, List.getElem?_cons_zero, Option.some.injEq] at hf hr
    subst hf
    have ho := hO (by omega)
    have hl := (M.isOrd_iff.1 ho).1
    have := stateCode A A2 xs l c c2 xs.length X rfl hcc.1 hcc.2 (hT (by omega)) ho (h.out.be hX.out) (h2.out.be hX.out) r hr
    rw [hl]
    exact this
  | j + 3 => simp [steps3] at hf

/-- the codes of two or of all three steps, the list of the steps lying in memory -/
theorem codeThree (A A2 : Option Addr) (xs l : List Int) (c c2 g len : Nat) (w : World) (hx : xs.length ≤ 1048576) (hcc : xs.length ≤ c ∧ c ≤ 1000000000000) (h : Hid (Ints w w.heap.size A xs)) (h2 : Hid (Ints w w.heap.size A2 l)) (hl : len = 2 ∨ len = 3) (hg : g < w.heap.size)
    (hcells : Hid (∀ j f, (steps3.take len)[j]? = some f → w.cell? ⟨g, j, none⟩ = some (.func (.func f) #[] #[]))) (r : Int) (hr : Hid (M.firstCode ((M.codes3 xs l).take len) = r)) :
    Calls Try.prog 89 #[.agg #[.slice A xs.length c, .slice A2 l.length c2], .slice (some ⟨g, 0, none⟩) len len] w fun e w' => e = .returned (.int .i64 r) ∧ Below w.heap.size w w' := by
  refine codeBy A A2 xs.length c l.length c2 g len len (steps3.take len) ((M.codes3 xs l).take len) w (by omega) ?_ ?_ hg hcells ?_ ?_ r hr
  · rcases hl with e | e <;> subst e <;> rfl
  · rcases hl with e | e <;> subst e <;> rfl
  · intro f hf
    have := List.mem_of_mem_take hf
    simp only [steps3, List.mem_cons, List.not_mem_nil, or_false] at this
    rcases this with e | e | e
    · exact .inl e
    · exact .inr (.inl e)
    · exact .inr (.inr (.inl e))
  · intro j f q hf hq hz X hX
    have hj : j < len := by
      have := (List.getElem?_eq_some_iff.1 hf).1
      rw [List.length_take] at this
      omega
    rw [List.getElem?_take_of_lt hj] at hf hq
    exact steps3_hold A A2 xs l c c2 w hx hcc h h2 j f q hf hq (fun i hi => by have := hz i hi; rwa [List.getElem?_take_of_lt (by omega)] at this) X hX
end Go.Proofs.Ytkcldfliiagloaa

/- l09Order: whether a list has all nodes of a tree, each once, as the model says it. Written by geno.py. -/
namespace Go.Proofs.Ytkcldfliiagloaa
open Go.RowKit

set_option maxHeartbeats 4000000 in
set_option maxRecDepth 100000 in
theorem l09Order (A A2 : Option Addr) (l : List Int) (n c L c2 : Nat) (w : World) (h24 : n ≤ 24) (hL : Hid (l.length = L)) (hl : L ≤ 1048576) (h2 : Ints w w.heap.size A2 l) :
    Calls Try.prog 165 #[.agg #[.slice A n c], .slice A2 L c2] w fun e w' => e = .returned (.bool (M.isOrd n l)) ∧ Below w.heap.size w w' := by
  have hmk := fun W => run_make_row' (P := Try.prog) (w := W) 91 4 (.bool false) 1 Try.underlying91 infoB rfl .i64 .i64 n (by omega) (by omega)
  have cT0 : Hid ((w.alloc (.cells #[.slice A n c] 28)).cell? ⟨w.heap.size, 0, none⟩ = some (.slice A n c)) := by simp [Hid, go_sem]
  have hB0 := Lib.hid (bal (b0 w) (.cells #[.slice A n c] 28))
  have H2 := Lib.hid h2
  obtain ⟨R, hR⟩ : ∃ R, Hid (M.isOrd n l = R) := ⟨_, rfl⟩
  rw [hR.out]
  clear h2
  go_enter Try.func165, Try.ntmps165
  go_wp2_with fail
  refine (l01N A n c _).mono ?_
  rintro e w1 ⟨rfl, hb⟩
  have cT1 := Lib.hid (cell_be cT0.out hb)
  have hB1 := Lib.hid (btr hB0.out hb)
  have hmk1 := hmk w1
  have Hm := Lib.hid (ownB_made (w := w1) (B := w.heap.size) (n := n) hB1.out.size (by unfold maxLen; omega))
  rw [show List.replicate n false = M.metRow n l 0 from (M.metRow_zero n l).symm] at Hm
  have hB2 := Lib.hid (bal hB1.out (.cells (madeCells #[.bool false] n) 4))
  have cT2 := Lib.hid (cell_al cT1.out (.cells (madeCells #[.bool false] n) 4))
  have hzg : w.heap.size < w1.heap.size := (World.block_lt_of_cell? _ _ cT1.out)
  have hst : Hid (M.OrdTo n l 0) := M.ordTo_zero n l
  clear hb cT0 hB0 cT1 hB1 hmk
  go_wp2
  clear hmk1
  generalize w1.heap.size = g at Hm hzg ⊢
  go_loopw [6] (fun qi wr => ∃ (k : Nat), k ≤ L ∧ qi = .int .i64 (k : Int) ∧ Hid (M.OrdTo n l k) ∧ Hid (OwnB wr w.heap.size (.slice (some ⟨g, 0, none⟩) n n) (M.metRow n l k)) ∧ Hid (wr.cell? ⟨w.heap.size, 0, none⟩ = some (.slice A n c)) ∧ Hid (Below w.heap.size w wr)) (fun qi _ => L - (intOf qi).toNat)
  case atStart => exact ⟨0, Nat.zero_le _, rfl, hst, Hm, cT2, hB2⟩
  case round =>
    obtain ⟨k, hk, rfl, hT, hm, hcT, hbr⟩ := hrel
    clear hst Hm cT2 hB2
    by_cases hlt : k < L
    · obtain ⟨b, off, x, rfl, hbl, g1, hX⟩ := (H2.out.below hbr.out (Nat.le_refl _)).at_ (k := k) (by rw [hL.out]; exact hlt)
      have hki : (k : Int) < (L : Int) := by omega
      have hk0 : (0 : Int) ≤ (k : Int) := by omega
      have hblr : b < wr.heap.size := by have := hbr.out.size; omega
      have hN : ∀ W, Hid (Below wr.heap.size wr W) → Calls Try.prog 96 #[.agg #[.slice A n c]] W fun e w' => e = .returned (.int .i64 n) ∧ Hid (Below wr.heap.size wr w') := fun W hW =>
        (l01N A n c W).mono fun e w' ⟨he, hb⟩ => ⟨he, btr hW.out hb⟩
      have HN := Lib.hid hN
      clear hN
      have hwrap : IntKind.i64.wrap ((n : Int) - 1) = (n : Int) - 1 := IntWalk.i64_in _ (by omega)
      obtain ⟨bv, hbv⟩ : ∃ bv, Hid ((decide ((0 : Int) ≤ x) && decide (x ≤ (n : Int) - 1)) = bv) := ⟨_, rfl⟩
      have HcX : Hid (∀ W, Hid (Below wr.heap.size wr W) → W.cell? ⟨b, off + k, none⟩ = some (.int .i64 x)) := fun W hW => (hW.out.cell (p := ⟨b, off + k, none⟩) hblr).trans g1
      have HcT : Hid (∀ W, Hid (Below wr.heap.size wr W) → W.cell? ⟨w.heap.size, 0, none⟩ = some (.slice A n c)) := fun W hW => cell_be hcT.out hW.out
      have hK0 : Hid (Below wr.heap.size wr wr.drew) := (Below.refl _ _).drew
      have g0 : wr.drew.cell? ⟨b, off + k, none⟩ = some (.int .i64 x) := HcX.out _ hK0
      have u0 : wr.drew.cell? ⟨w.heap.size, 0, none⟩ = some (.slice A n c) := HcT.out _ hK0
      clear g1
      cases bv
      · have hbad : R = false := by
          rw [← hR.out]
          refine M.isOrd_out hX.out fun h => ?_
          have := hbv.out
          simp at this
          omega
        subst hbad
        clear hX hm hT
        go_wp2
        refine wp_region_held_drew (S := (fun w' => w'.cell? ⟨b, off + k, none⟩ = some (.int .i64 x) ∧ w'.cell? ⟨w.heap.size, 0, none⟩ = some (.slice A n c) ∧ Hid (Below wr.heap.size wr w'))) (by kernel_rfl) (by exact ⟨g0, u0, hK0⟩) (fun hHeld0 => ?_)
        refine anyTake 0 (some 16) (.slice (some ⟨b, off, none⟩) L c2) rfl rfl (by kernel_rfl) (by kernel_rfl) (by kernel_rfl) (fun _ _ _ h => h) (by rfl) (by intro w hSw; (try dsimp only at hSw); go_simp) (by assumption) ?_
        try simp only [Act.put, List.setIfInBounds_toArray, List.set_cons_zero, List.set_cons_succ]
        refine anyTake 1 (some 17) (.int .i64 ((k : Nat) : Int)) rfl rfl (by kernel_rfl) (by kernel_rfl) (by kernel_rfl) (fun _ _ _ h => h) (by rfl) (by intro w hSw; (try dsimp only at hSw); go_simp) (by assumption) ?_
        try simp only [Act.put, List.setIfInBounds_toArray, List.set_cons_zero, List.set_cons_succ]
        refine anyTake 2 (some 18) (.pointer (some ⟨b, off + k, none⟩)) rfl rfl (by kernel_rfl) (by kernel_rfl) (by kernel_rfl) (fun _ _ _ h => h) (by rfl) (by intro w hSw; (try dsimp only at hSw); go_simp) (by assumption) ?_
        try simp only [Act.put, List.setIfInBounds_toArray, List.set_cons_zero, List.set_cons_succ]
        refine anyTake 3 (some 19) (.int .i64 x) rfl rfl (by kernel_rfl) (by kernel_rfl) (by kernel_rfl) (fun _ _ _ h => h) (by rfl) (by intro w hSw; (try dsimp only at hSw); go_simp) (by assumption) ?_
        try simp only [Act.put, List.setIfInBounds_toArray, List.set_cons_zero, List.set_cons_succ]
        refine anyTake 4 (some 20) (.agg #[.slice A n c]) rfl rfl (by kernel_rfl) (by kernel_rfl) (by kernel_rfl) (fun _ _ _ h => h) (by rfl) (by intro w hSw; (try dsimp only at hSw); go_simp) (by assumption) ?_
        try simp only [Act.put, List.setIfInBounds_toArray, List.set_cons_zero, List.set_cons_succ]
        refine wpAnyH_ready (rs := [5]) (by kernel_rfl) (by simp) ?_
        refine AllReadyH.cons rfl (fun K hK => ?_) AllReadyH.nil
        go_simp
        go_at_call 96
        refine (HN.out _ (by exact hHeld0.2.2)).mono ?_
        rintro e w7 ⟨rfl, hb7⟩
        go_wp2_with fail
        refine hK.out _ _ (by exact ⟨HcX.out _ (by assumption), HcT.out _ (by assumption), by assumption⟩) (fun hHeld => ?_)
        clear hK K
        try simp only [Act.put, List.setIfInBounds_toArray, List.set_cons_zero, List.set_cons_succ]
        clear hHeld0
        have hHeld0 := hHeld
        clear hHeld
        refine anyTake 6 (some 22) (.int .i64 ((n : Int) - 1)) rfl rfl (by kernel_rfl) (by kernel_rfl) (by kernel_rfl) (fun _ _ _ h => h) (by rfl) (by intro w hSw; (try dsimp only at hSw); go_simp) (by assumption) ?_
        try simp only [Act.put, List.setIfInBounds_toArray, List.set_cons_zero, List.set_cons_succ]
        refine wpAnyH_ready (rs := [7]) (by kernel_rfl) (by simp) ?_
        refine AllReadyH.cons rfl (fun K hK => ?_) AllReadyH.nil
        go_simp
        go_at_call 99
        refine (inAny _ _ _ _ false hbv).mono ?_
        rintro e w8 ⟨rfl, rfl⟩
        go_wp2_with fail
        refine hK.out _ _ (by exact ⟨HcX.out _ (by assumption), HcT.out _ (by assumption), by assumption⟩) (fun hHeld => ?_)
        clear hK K
        try simp only [Act.put, List.setIfInBounds_toArray, List.set_cons_zero, List.set_cons_succ]
        clear hHeld0
        have hHeld0 := hHeld
        clear hHeld
        refine anyTake 8 (some 24) (.bool true) rfl rfl (by kernel_rfl) (by kernel_rfl) (by kernel_rfl) (fun _ _ _ h => h) (by rfl) (by intro w hSw; (try dsimp only at hSw); go_simp) (by assumption) ?_
        try simp only [Act.put, List.setIfInBounds_toArray, List.set_cons_zero, List.set_cons_succ]
        refine anyTake 9 (some 25) (.bool true) rfl rfl (by kernel_rfl) (by kernel_rfl) (by kernel_rfl) (fun _ _ _ h => h) (by rfl) (by intro w hSw; (try dsimp only at hSw); go_simp) (by assumption) ?_
        try simp only [Act.put, List.setIfInBounds_toArray, List.set_cons_zero, List.set_cons_succ]
        refine anySkip 10 (some 26) rfl rfl (by kernel_rfl) (by kernel_rfl) (by kernel_rfl) (fun _ _ _ h => h) (by rfl) (by assumption) ?_
        try simp only [Act.put, List.setIfInBounds_toArray, List.set_cons_zero, List.set_cons_succ]
        refine anySkip 11 (some 27) rfl rfl (by kernel_rfl) (by kernel_rfl) (by kernel_rfl) (fun _ _ _ h => h) (by rfl) (by assumption) ?_
        try simp only [Act.put, List.setIfInBounds_toArray, List.set_cons_zero, List.set_cons_succ]
        refine anySkip 12 (some 28) rfl rfl (by kernel_rfl) (by kernel_rfl) (by kernel_rfl) (fun _ _ _ h => h) (by rfl) (by assumption) ?_
        try simp only [Act.put, List.setIfInBounds_toArray, List.set_cons_zero, List.set_cons_succ]
        refine anySkip 13 (some 29) rfl rfl (by kernel_rfl) (by kernel_rfl) (by kernel_rfl) (fun _ _ _ h => h) (by rfl) (by assumption) ?_
        try simp only [Act.put, List.setIfInBounds_toArray, List.set_cons_zero, List.set_cons_succ]
        refine anySkip 14 (some 30) rfl rfl (by kernel_rfl) (by kernel_rfl) (by kernel_rfl) (fun _ _ _ h => h) (by rfl) (by assumption) ?_
        try simp only [Act.put, List.setIfInBounds_toArray, List.set_cons_zero, List.set_cons_succ]
        refine anySkip 15 (some 31) rfl rfl (by kernel_rfl) (by kernel_rfl) (by kernel_rfl) (fun _ _ _ h => h) (by rfl) (by assumption) ?_
        try simp only [Act.put, List.setIfInBounds_toArray, List.set_cons_zero, List.set_cons_succ]
        refine anySkip 16 (some 32) rfl rfl (by kernel_rfl) (by kernel_rfl) (by kernel_rfl) (fun _ _ _ h => h) (by rfl) (by assumption) ?_
        try simp only [Act.put, List.setIfInBounds_toArray, List.set_cons_zero, List.set_cons_succ]
        refine anyTake 17 (some 33) (.bool true) rfl rfl (by kernel_rfl) (by kernel_rfl) (by kernel_rfl) (fun _ _ _ h => h) (by rfl) (by intro w hSw; (try dsimp only at hSw); go_simp) (by assumption) ?_
        try simp only [Act.put, List.setIfInBounds_toArray, List.set_cons_zero, List.set_cons_succ]
        refine wpAnyH_done (by kernel_rfl) ?_ _
        have hB7 := Lib.hid (btr hbr.out hb7.out)
        go_wp2
        go_ret
        exact ⟨rfl, hB7.out⟩
      · have hx : 0 ≤ x ∧ x < (n : Int) := by
          have := hbv.out
          simp at this
          omega
        obtain ⟨v, rfl⟩ := Int.eq_ofNat_of_zero_le hx.1
        have hvn : v < n := by omega
        have hv0 : (0 : Int) ≤ (v : Int) := by omega
        have hvi : (v : Int) < (n : Int) := by omega
        obtain ⟨q, hq⟩ : ∃ q, Hid (decide ((v : Int) ∈ l.take k) = q) := ⟨_, rfl⟩
        have hmv := M.metRow_at (l := l) (k := k) hvn
        rw [hq.out] at hmv
        obtain ⟨m1, m2, _, hgl⟩ := ownB_cell hm.out (M.metRow_len n l k) hmv
        have HcM : Hid (∀ W, Hid (Below wr.heap.size wr W) → W.cell? ⟨g, v, none⟩ = some (.bool q)) := fun W hW => (hW.out.cell (p := ⟨g, v, none⟩) hgl).trans m1
        have v0 : wr.drew.cell? ⟨g, v, none⟩ = some (.bool q) := HcM.out _ hK0
        clear hmv m1 m2
        cases q
        · have hni : (v : Int) ∉ l.take k := of_decide_eq_false hq.out
          have hs := Lib.hid (M.ordTo_step hT.out hX.out hx.1 hx.2 hni)
          have hms := Lib.hid (M.metRow_step (n := n) hX.out)
          clear hT hni hX
          go_wp2
          refine wp_region_held_drew (S := (fun w' => w'.cell? ⟨b, off + k, none⟩ = some (.int .i64 (v : Int)) ∧ w'.cell? ⟨w.heap.size, 0, none⟩ = some (.slice A n c) ∧ w'.cell? ⟨g, v, none⟩ = some (.bool false) ∧ Hid (Below wr.heap.size wr w'))) (by kernel_rfl) (by exact ⟨g0, u0, v0, hK0⟩) (fun hHeld0 => ?_)
          refine anyTake 0 (some 16) (.slice (some ⟨b, off, none⟩) L c2) rfl rfl (by kernel_rfl) (by kernel_rfl) (by kernel_rfl) (fun _ _ _ h => h) (by rfl) (by intro w hSw; (try dsimp only at hSw); go_simp) (by assumption) ?_
          try simp only [Act.put, List.setIfInBounds_toArray, List.set_cons_zero, List.set_cons_succ]
          refine anyTake 1 (some 17) (.int .i64 ((k : Nat) : Int)) rfl rfl (by kernel_rfl) (by kernel_rfl) (by kernel_rfl) (fun _ _ _ h => h) (by rfl) (by intro w hSw; (try dsimp only at hSw); go_simp) (by assumption) ?_
          try simp only [Act.put, List.setIfInBounds_toArray, List.set_cons_zero, List.set_cons_succ]
          refine anyTake 2 (some 18) (.pointer (some ⟨b, off + k, none⟩)) rfl rfl (by kernel_rfl) (by kernel_rfl) (by kernel_rfl) (fun _ _ _ h => h) (by rfl) (by intro w hSw; (try dsimp only at hSw); go_simp) (by assumption) ?_
          try simp only [Act.put, List.setIfInBounds_toArray, List.set_cons_zero, List.set_cons_succ]
          refine anyTake 3 (some 19) (.int .i64 (v : Int)) rfl rfl (by kernel_rfl) (by kernel_rfl) (by kernel_rfl) (fun _ _ _ h => h) (by rfl) (by intro w hSw; (try dsimp only at hSw); go_simp) (by assumption) ?_
          try simp only [Act.put, List.setIfInBounds_toArray, List.set_cons_zero, List.set_cons_succ]
          refine anyTake 4 (some 20) (.agg #[.slice A n c]) rfl rfl (by kernel_rfl) (by kernel_rfl) (by kernel_rfl) (fun _ _ _ h => h) (by rfl) (by intro w hSw; (try dsimp only at hSw); go_simp) (by assumption) ?_
          try simp only [Act.put, List.setIfInBounds_toArray, List.set_cons_zero, List.set_cons_succ]
          refine wpAnyH_ready (rs := [5]) (by kernel_rfl) (by simp) ?_
          refine AllReadyH.cons rfl (fun K hK => ?_) AllReadyH.nil
          go_simp
          go_at_call 96
          refine (HN.out _ (by exact hHeld0.2.2.2)).mono ?_
          rintro e w7 ⟨rfl, hb7⟩
          go_wp2_with fail
          refine hK.out _ _ (by exact ⟨HcX.out _ (by assumption), HcT.out _ (by assumption), HcM.out _ (by assumption), by assumption⟩) (fun hHeld => ?_)
          clear hK K
          try simp only [Act.put, List.setIfInBounds_toArray, List.set_cons_zero, List.set_cons_succ]
          clear hHeld0
          have hHeld0 := hHeld
          clear hHeld
          refine anyTake 6 (some 22) (.int .i64 ((n : Int) - 1)) rfl rfl (by kernel_rfl) (by kernel_rfl) (by kernel_rfl) (fun _ _ _ h => h) (by rfl) (by intro w hSw; (try dsimp only at hSw); go_simp) (by assumption) ?_
          try simp only [Act.put, List.setIfInBounds_toArray, List.set_cons_zero, List.set_cons_succ]
          refine wpAnyH_ready (rs := [7]) (by kernel_rfl) (by simp) ?_
          refine AllReadyH.cons rfl (fun K hK => ?_) AllReadyH.nil
          go_simp
          go_at_call 99
          refine (inAny _ _ _ _ true hbv).mono ?_
          rintro e w8 ⟨rfl, rfl⟩
          go_wp2_with fail
          refine hK.out _ _ (by exact ⟨HcX.out _ (by assumption), HcT.out _ (by assumption), HcM.out _ (by assumption), by assumption⟩) (fun hHeld => ?_)
          clear hK K
          try simp only [Act.put, List.setIfInBounds_toArray, List.set_cons_zero, List.set_cons_succ]
          clear hHeld0
          have hHeld0 := hHeld
          clear hHeld
          refine anyTake 8 (some 24) (.bool false) rfl rfl (by kernel_rfl) (by kernel_rfl) (by kernel_rfl) (fun _ _ _ h => h) (by rfl) (by intro w hSw; (try dsimp only at hSw); go_simp) (by assumption) ?_
          try simp only [Act.put, List.setIfInBounds_toArray, List.set_cons_zero, List.set_cons_succ]
          refine anyTake 9 (some 25) (.bool false) rfl rfl (by kernel_rfl) (by kernel_rfl) (by kernel_rfl) (fun _ _ _ h => h) (by rfl) (by intro w hSw; (try dsimp only at hSw); go_simp) (by assumption) ?_
          try simp only [Act.put, List.setIfInBounds_toArray, List.set_cons_zero, List.set_cons_succ]
          refine anyTake 10 (some 26) (.slice (some ⟨g, 0, none⟩) n n) rfl rfl (by kernel_rfl) (by kernel_rfl) (by kernel_rfl) (fun _ _ _ h => h) (by rfl) (by intro w hSw; (try dsimp only at hSw); go_simp) (by assumption) ?_
          try simp only [Act.put, List.setIfInBounds_toArray, List.set_cons_zero, List.set_cons_succ]
          refine anyTake 11 (some 27) (.slice (some ⟨b, off, none⟩) L c2) rfl rfl (by kernel_rfl) (by kernel_rfl) (by kernel_rfl) (fun _ _ _ h => h) (by rfl) (by intro w hSw; (try dsimp only at hSw); go_simp) (by assumption) ?_
          try simp only [Act.put, List.setIfInBounds_toArray, List.set_cons_zero, List.set_cons_succ]
          refine anyTake 12 (some 28) (.int .i64 ((k : Nat) : Int)) rfl rfl (by kernel_rfl) (by kernel_rfl) (by kernel_rfl) (fun _ _ _ h => h) (by rfl) (by intro w hSw; (try dsimp only at hSw); go_simp) (by assumption) ?_
          try simp only [Act.put, List.setIfInBounds_toArray, List.set_cons_zero, List.set_cons_succ]
          refine anyTake 13 (some 29) (.pointer (some ⟨b, off + k, none⟩)) rfl rfl (by kernel_rfl) (by kernel_rfl) (by kernel_rfl) (fun _ _ _ h => h) (by rfl) (by intro w hSw; (try dsimp only at hSw); go_simp) (by assumption) ?_
          try simp only [Act.put, List.setIfInBounds_toArray, List.set_cons_zero, List.set_cons_succ]
          refine anyTake 14 (some 30) (.int .i64 (v : Int)) rfl rfl (by kernel_rfl) (by kernel_rfl) (by kernel_rfl) (fun _ _ _ h => h) (by rfl) (by intro w hSw; (try dsimp only at hSw); go_simp) (by assumption) ?_
          try simp only [Act.put, List.setIfInBounds_toArray, List.set_cons_zero, List.set_cons_succ]
          refine anyTake 15 (some 31) (.pointer (some ⟨g, v, none⟩)) rfl rfl (by kernel_rfl) (by kernel_rfl) (by kernel_rfl) (fun _ _ _ h => h) (by rfl) (by intro w hSw; (try dsimp only at hSw); go_simp) (by assumption) ?_
          try simp only [Act.put, List.setIfInBounds_toArray, List.set_cons_zero, List.set_cons_succ]
          refine anyTake 16 (some 32) (.bool false) rfl rfl (by kernel_rfl) (by kernel_rfl) (by kernel_rfl) (fun _ _ _ h => h) (by rfl) (by intro w hSw; (try dsimp only at hSw); go_simp) (by assumption) ?_
          try simp only [Act.put, List.setIfInBounds_toArray, List.set_cons_zero, List.set_cons_succ]
          refine anyTake 17 (some 33) (.bool false) rfl rfl (by kernel_rfl) (by kernel_rfl) (by kernel_rfl) (fun _ _ _ h => h) (by rfl) (by intro w hSw; (try dsimp only at hSw); go_simp) (by assumption) ?_
          try simp only [Act.put, List.setIfInBounds_toArray, List.set_cons_zero, List.set_cons_succ]
          refine wpAnyH_done (by kernel_rfl) ?_ _
          have hm7 := Lib.hid (own_be hm.out hb7.out)
          have hmv := M.metRow_at (l := l) (k := k) hvn
          obtain ⟨m1, m2, _, _⟩ := ownB_cell hm7.out (M.metRow_len n l k) hmv
          have hset := Lib.hid (ownB_set hm7.out (M.metRow_len n l k) v true)
          rw [hms.out] at hset
          have cT7 := Lib.hid ((World.cell?_setCell_other w7 (a := ⟨g, v, none⟩) (b := ⟨w.heap.size, 0, none⟩) (v := .bool true) (by intro e; injection e with e1; omega)).trans (HcT.out w7 hb7))
          have cX7 := HcX.out w7 hb7
          have hB7 := Lib.hid (below_setCell (btr hbr.out hb7.out) (Nat.le_of_lt hzg) (k := v) (.bool true))
          clear hK0 g0 u0 v0 HcX HcT HcM HN hm hmv hHeld0 hcT
          go_wp2
          go_roundw
          case rel => exact ⟨k + 1, by omega, by go_num, hs, hset, cT7, hB7⟩
          case measure => simp [intOf]; omega
        · have hni : (v : Int) ∈ l.take k := of_decide_eq_true hq.out
          have hbad : R = false := by rw [← hR.out]; exact M.isOrd_twice hX.out hni
          subst hbad
          clear hX hm hT hni
          go_wp2
          refine wp_region_held_drew (S := (fun w' => w'.cell? ⟨b, off + k, none⟩ = some (.int .i64 (v : Int)) ∧ w'.cell? ⟨w.heap.size, 0, none⟩ = some (.slice A n c) ∧ w'.cell? ⟨g, v, none⟩ = some (.bool true) ∧ Hid (Below wr.heap.size wr w'))) (by kernel_rfl) (by exact ⟨g0, u0, v0, hK0⟩) (fun hHeld0 => ?_)
          refine anyTake 0 (some 16) (.slice (some ⟨b, off, none⟩) L c2) rfl rfl (by kernel_rfl) (by kernel_rfl) (by kernel_rfl) (fun _ _ _ h => h) (by rfl) (by intro w hSw; (try dsimp only at hSw); go_simp) (by assumption) ?_
          try simp only [Act.put, List.setIfInBounds_toArray, List.set_cons_zero, List.set_cons_succ]
          refine anyTake 1 (some 17) (.int .i64 ((k : Nat) : Int)) rfl rfl (by kernel_rfl) (by kernel_rfl) (by kernel_rfl) (fun _ _ _ h => h) (by rfl) (by intro w hSw; (try dsimp only at hSw); go_simp) (by assumption) ?_
          try simp only [Act.put, List.setIfInBounds_toArray, List.set_cons_zero, List.set_cons_succ]
          refine anyTake 2 (some 18) (.pointer (some ⟨b, off + k, none⟩)) rfl rfl (by kernel_rfl) (by kernel_rfl) (by kernel_rfl) (fun _ _ _ h => h) (by rfl) (by intro w hSw; (try dsimp only at hSw); go_simp) (by assumption) ?_
          try simp only [Act.put, List.setIfInBounds_toArray, List.set_cons_zero, List.set_cons_succ]
          refine anyTake 3 (some 19) (.int .i64 (v : Int)) rfl rfl (by kernel_rfl) (by kernel_rfl) (by kernel_rfl) (fun _ _ _ h => h) (by rfl) (by intro w hSw; (try dsimp only at hSw); go_simp) (by assumption) ?_
          try simp only [Act.put, List.setIfInBounds_toArray, List.set_cons_zero, List.set_cons_succ]
          refine anyTake 4 (some 20) (.agg #[.slice A n c]) rfl rfl (by kernel_rfl) (by kernel_rfl) (by kernel_rfl) (fun _ _ _ h => h) (by rfl) (by intro w hSw; (try dsimp only at hSw); go_simp) (by assumption) ?_
          try simp only [Act.put, List.setIfInBounds_toArray, List.set_cons_zero, List.set_cons_succ]
          refine wpAnyH_ready (rs := [5]) (by kernel_rfl) (by simp) ?_
          refine AllReadyH.cons rfl (fun K hK => ?_) AllReadyH.nil
          go_simp
          go_at_call 96
          refine (HN.out _ (by exact hHeld0.2.2.2)).mono ?_
          rintro e w7 ⟨rfl, hb7⟩
          go_wp2_with fail
          refine hK.out _ _ (by exact ⟨HcX.out _ (by assumption), HcT.out _ (by assumption), HcM.out _ (by assumption), by assumption⟩) (fun hHeld => ?_)
          clear hK K
          try simp only [Act.put, List.setIfInBounds_toArray, List.set_cons_zero, List.set_cons_succ]
          clear hHeld0
          have hHeld0 := hHeld
          clear hHeld
          refine anyTake 6 (some 22) (.int .i64 ((n : Int) - 1)) rfl rfl (by kernel_rfl) (by kernel_rfl) (by kernel_rfl) (fun _ _ _ h => h) (by rfl) (by intro w hSw; (try dsimp only at hSw); go_simp) (by assumption) ?_
          try simp only [Act.put, List.setIfInBounds_toArray, List.set_cons_zero, List.set_cons_succ]
          refine wpAnyH_ready (rs := [7]) (by kernel_rfl) (by simp) ?_
          refine AllReadyH.cons rfl (fun K hK => ?_) AllReadyH.nil
          go_simp
          go_at_call 99
          refine (inAny _ _ _ _ true hbv).mono ?_
          rintro e w8 ⟨rfl, rfl⟩
          go_wp2_with fail
          refine hK.out _ _ (by exact ⟨HcX.out _ (by assumption), HcT.out _ (by assumption), HcM.out _ (by assumption), by assumption⟩) (fun hHeld => ?_)
          clear hK K
          try simp only [Act.put, List.setIfInBounds_toArray, List.set_cons_zero, List.set_cons_succ]
          clear hHeld0
          have hHeld0 := hHeld
          clear hHeld
          refine anyTake 8 (some 24) (.bool false) rfl rfl (by kernel_rfl) (by kernel_rfl) (by kernel_rfl) (fun _ _ _ h => h) (by rfl) (by intro w hSw; (try dsimp only at hSw); go_simp) (by assumption) ?_
          try simp only [Act.put, List.setIfInBounds_toArray, List.set_cons_zero, List.set_cons_succ]
          refine anyTake 9 (some 25) (.bool false) rfl rfl (by kernel_rfl) (by kernel_rfl) (by kernel_rfl) (fun _ _ _ h => h) (by rfl) (by intro w hSw; (try dsimp only at hSw); go_simp) (by assumption) ?_
          try simp only [Act.put, List.setIfInBounds_toArray, List.set_cons_zero, List.set_cons_succ]
          refine anyTake 10 (some 26) (.slice (some ⟨g, 0, none⟩) n n) rfl rfl (by kernel_rfl) (by kernel_rfl) (by kernel_rfl) (fun _ _ _ h => h) (by rfl) (by intro w hSw; (try dsimp only at hSw); go_simp) (by assumption) ?_
          try simp only [Act.put, List.setIfInBounds_toArray, List.set_cons_zero, List.set_cons_succ]
          refine anyTake 11 (some 27) (.slice (some ⟨b, off, none⟩) L c2) rfl rfl (by kernel_rfl) (by kernel_rfl) (by kernel_rfl) (fun _ _ _ h => h) (by rfl) (by intro w hSw; (try dsimp only at hSw); go_simp) (by assumption) ?_
          try simp only [Act.put, List.setIfInBounds_toArray, List.set_cons_zero, List.set_cons_succ]
          refine anyTake 12 (some 28) (.int .i64 ((k : Nat) : Int)) rfl rfl (by kernel_rfl) (by kernel_rfl) (by kernel_rfl) (fun _ _ _ h => h) (by rfl) (by intro w hSw; (try dsimp only at hSw); go_simp) (by assumption) ?_
          try simp only [Act.put, List.setIfInBounds_toArray, List.set_cons_zero, List.set_cons_succ]
          refine anyTake 13 (some 29) (.pointer (some ⟨b, off + k, none⟩)) rfl rfl (by kernel_rfl) (by kernel_rfl) (by kernel_rfl) (fun _ _ _ h => h) (by rfl) (by intro w hSw; (try dsimp only at hSw); go_simp) (by assumption) ?_
          try simp only [Act.put, List.setIfInBounds_toArray, List.set_cons_zero, List.set_cons_succ]
          refine anyTake 14 (some 30) (.int .i64 (v : Int)) rfl rfl (by kernel_rfl) (by kernel_rfl) (by kernel_rfl) (fun _ _ _ h => h) (by rfl) (by intro w hSw; (try dsimp only at hSw); go_simp) (by assumption) ?_
          try simp only [Act.put, List.setIfInBounds_toArray, List.set_cons_zero, List.set_cons_succ]
          refine anyTake 15 (some 31) (.pointer (some ⟨g, v, none⟩)) rfl rfl (by kernel_rfl) (by kernel_rfl) (by kernel_rfl) (fun _ _ _ h => h) (by rfl) (by intro w hSw; (try dsimp only at hSw); go_simp) (by assumption) ?_
          try simp only [Act.put, List.setIfInBounds_toArray, List.set_cons_zero, List.set_cons_succ]
          refine anyTake 16 (some 32) (.bool true) rfl rfl (by kernel_rfl) (by kernel_rfl) (by kernel_rfl) (fun _ _ _ h => h) (by rfl) (by intro w hSw; (try dsimp only at hSw); go_simp) (by assumption) ?_
          try simp only [Act.put, List.setIfInBounds_toArray, List.set_cons_zero, List.set_cons_succ]
          refine anyTake 17 (some 33) (.bool true) rfl rfl (by kernel_rfl) (by kernel_rfl) (by kernel_rfl) (fun _ _ _ h => h) (by rfl) (by intro w hSw; (try dsimp only at hSw); go_simp) (by assumption) ?_
          try simp only [Act.put, List.setIfInBounds_toArray, List.set_cons_zero, List.set_cons_succ]
          refine wpAnyH_done (by kernel_rfl) ?_ _
          have hB7 := Lib.hid (btr hbr.out hb7.out)
          go_wp2
          go_ret
          exact ⟨rfl, hB7.out⟩
    · obtain rfl : k = L := by omega
      have hge : ¬ (k : Int) < (k : Int) := by omega
      have hE := M.isOrd_end (n := n) (l := l) (by rw [hL.out]; exact hT.out)
      rw [hR.out, hL.out] at hE
      have cT3 := hcT.out
      clear hT hm
      have HE : Hid (R = decide (k = n)) := hE
      clear hE
      go_wp2_with fail
      refine (l01N A n c _).mono ?_
      rintro e w7 ⟨rfl, hb7⟩
      have hB7 := Lib.hid (btr hbr.out hb7)
      by_cases e : k = n
      · have hb : ((k : Int) == (n : Int)) = true := by simp [e]
        have hR1 : R = true := by rw [HE.out, decide_eq_true e]
        subst hR1
        clear e HE
        go_wp2
        go_ret
        exact ⟨rfl, hB7.out⟩
      · have hb : ((k : Int) == (n : Int)) = false := by simp; omega
        have hR1 : R = false := by rw [HE.out, decide_eq_false e]
        subst hR1
        clear e HE
        go_wp2
        go_ret
        exact ⟨rfl, hB7.out⟩
end Go.Proofs.Ytkcldfliiagloaa

/- l09Growing and l09Code: whether a list of all nodes is a growing order, and the code, as the model says it. Written by genq.py. -/
namespace Go.Proofs.Ytkcldfliiagloaa
open Go.RowKit

set_option maxHeartbeats 4000000 in
set_option maxRecDepth 100000 in
theorem l09Growing (A A2 : Option Addr) (xs l : List Int) (n c c2 : Nat) (w : World) (hn : Hid (xs.length = n)) (ht : Hid (M.isTree xs = true)) (ho : Hid (M.isOrd n l = true)) (h : Ints w w.heap.size A xs) (h2 : Ints w w.heap.size A2 l) (r : Bool) (hr : Hid (M.grows (M.parents xs) l = r)) :
    Calls Try.prog 166 #[.agg #[.slice A n c], .slice A2 n c2] w fun e w' => e = .returned (.bool r) ∧ Below w.heap.size w w' := by
  have hxl := M.tree_len ht.out
  rw [hn.out] at hxl
  have h24 := hxl.2
  have h1 := hxl.1
  have Hl := Lib.hid (M.isOrd_iff.1 ho.out).1
  have hmk := fun W => run_make_row' (P := Try.prog) (w := W) 91 4 (.bool false) 1 Try.underlying91 infoB rfl .i64 .i64 n (by omega) (by omega)
  have cT0 : Hid ((w.alloc (.cells #[.slice A n c] 28)).cell? ⟨w.heap.size, 0, none⟩ = some (.slice A n c)) := by simp [Hid, go_sem]
  have hB0 := Lib.hid (bal (b0 w) (.cells #[.slice A n c] 28))
  have H1 := Lib.hid (h.al (.cells #[.slice A n c] 28))
  have H2 := Lib.hid h2
  obtain ⟨W, hW⟩ : ∃ W, W = w.alloc (.cells #[.slice A n c] 28) := ⟨_, rfl⟩
  rw [← hW] at cT0 hB0 H1
  have hP : ∀ X, Hid (Below W.heap.size W X) → Calls Try.prog 103 #[.agg #[.slice A n c]] X fun e w' => ∃ A' c' ps, e = .returned (.slice A' n c') ∧ Hid (M.ParsOK xs ps) ∧ Hid (Ints w' w'.heap.size A' ps) ∧ Hid (Below W.heap.size W w') := fun X hX => by
    have := l01Parents A xs c X ht (H1.out.be hX.out)
    rw [hn.out] at this
    exact this.mono fun e w' ⟨A', c', ps, he, hk, ho, hb⟩ => ⟨A', c', ps, he, hk, ints_of_own64 ho, btr hX.out hb⟩
  have HP := Lib.hid hP
  clear h h2 hxl hP
  go_enter Try.func166, Try.ntmps166
  go_wp2_with fail
  rw [← hW]
  clear hW
  have K0 : Hid (Below W.heap.size W W.drew) := (Below.refl _ _).drew
  have u0 : W.drew.cell? ⟨w.heap.size, 0, none⟩ = some (.slice A n c) := cT0.out
  refine wp_region_held_drew (S := (fun w' => w'.cell? ⟨w.heap.size, 0, none⟩ = some (.slice A n c) ∧ Hid (Below W.heap.size W w'))) (by kernel_rfl) (by exact ⟨u0, K0⟩) (fun hHeld0 => ?_)
  refine anyTake 0 (some 9) (.agg #[.slice A n c]) rfl rfl (by kernel_rfl) (by kernel_rfl) (by kernel_rfl) (fun _ _ _ h => h) (by rfl) (by intro w hSw; (try dsimp only at hSw); go_simp) (by assumption) ?_
  try simp only [Act.put, List.setIfInBounds_toArray, List.set_cons_zero, List.set_cons_succ]
  refine anyTake 2 (some 11) (.agg #[.slice A n c]) rfl rfl (by kernel_rfl) (by kernel_rfl) (by kernel_rfl) (fun _ _ _ h => h) (by rfl) (by intro w hSw; (try dsimp only at hSw); go_simp) (by assumption) ?_
  try simp only [Act.put, List.setIfInBounds_toArray, List.set_cons_zero, List.set_cons_succ]
  refine wpAnyH_ready (rs := [1]) (by kernel_rfl) (by simp) ?_
  refine AllReadyH.cons rfl (fun K hK => ?_) AllReadyH.nil
  go_simp
  go_at_call 103
  refine (HP.out _ (by exact hHeld0.2)).mono ?_
  rintro e w3 ⟨A3, c3, ps, rfl, hok, hI3, hb3⟩
  go_wp2_with fail
  refine hK.out _ _ (by exact ⟨cell_be cT0.out (Hid.out (by assumption)), by assumption⟩) (fun hHeld => ?_)
  clear hK K
  try simp only [Act.put, List.setIfInBounds_toArray, List.set_cons_zero, List.set_cons_succ]
  clear hHeld0
  have hHeld0 := hHeld
  clear hHeld
  refine wpAnyH_ready (rs := [3]) (by kernel_rfl) (by simp) ?_
  refine AllReadyH.cons rfl (fun K hK => ?_) AllReadyH.nil
  go_simp
  go_at_call 96
  refine (l01N A n c _).mono ?_
  rintro e w4 ⟨rfl, hb4⟩
  have hb4' : Hid (Below W.heap.size W w4) := btr hb3.out hb4
  go_wp2_with fail
  refine hK.out _ _ (by exact ⟨cell_be cT0.out (Hid.out (by assumption)), by assumption⟩) (fun hHeld => ?_)
  clear hK K
  try simp only [Act.put, List.setIfInBounds_toArray, List.set_cons_zero, List.set_cons_succ]
  clear hHeld0
  have hHeld0 := hHeld
  clear hHeld
  refine anyTake 5 (some 5) (.slice A3 n c3) rfl rfl (by kernel_rfl) (by kernel_rfl) (by kernel_rfl) (fun _ _ _ h => h) (by rfl) (by intro w hSw; (try dsimp only at hSw); go_simp) (by assumption) ?_
  try simp only [Act.put, List.setIfInBounds_toArray, List.set_cons_zero, List.set_cons_succ]
  have hPz : Hid (ps[0]? = some (-1 : Int)) := hok.out.2.1
  have hmk4 := hmk w4
  refine wpAnyH_ready (rs := [4]) (by kernel_rfl) (by simp) ?_
  refine AllReadyH.cons rfl (fun K hK => ?_) AllReadyH.nil
  go_simp
  have hb5' : Hid (Below W.heap.size W (w4.alloc (.cells (madeCells #[.bool false] n) 4))) := bal hb4'.out _
  refine hK.out _ _ ⟨cell_be cT0.out (Hid.out hb5'), hb5'⟩ (fun hHeld => ?_)
  clear hK K
  try simp only [Act.put, List.setIfInBounds_toArray, List.set_cons_zero, List.set_cons_succ]
  clear hHeld0
  have hHeld0 := hHeld
  clear hHeld
  refine anyTake 6 (some 6) (.slice (some ⟨w4.heap.size, 0, none⟩) n n) rfl rfl (by kernel_rfl) (by kernel_rfl) (by kernel_rfl) (fun _ _ _ h => h) (by rfl) (by intro w hSw; (try dsimp only at hSw); go_simp) (by assumption) ?_
  try simp only [Act.put, List.setIfInBounds_toArray, List.set_cons_zero, List.set_cons_succ]
  refine wpAnyH_done (by kernel_rfl) ?_ _
  have hpar := Lib.hid (M.parents_of ht.out hok.out)
  rw [hn.out] at hpar
  have hps := Lib.hid (M.parents_eq ht.out hok.out)
  rw [hps.out] at hr
  have hpl : Hid (ps.length = n) := by show _ = _; rw [hok.out.1, hn.out]
  have HI := Lib.hid (hI3.out.be hb4)
  have hBW := Lib.hid (btr hB0.out (btr hb3.out hb4))
  have hzz : w.heap.size ≤ w4.heap.size := hBW.out.size
  have Hm := Lib.hid (ownB_made (w := w4) (B := w.heap.size) (n := n) hzz (by unfold maxLen; omega))
  rw [show List.replicate n false = M.metRow n l 0 from (M.metRow_zero n l).symm] at Hm
  have hb5 := Lib.hid (bal (b0 w4) (.cells (madeCells #[.bool false] n) 4))
  have hst : Hid (M.GrowTo ps l 0) := M.growTo_zero ps l
  clear cT0 hB0 H1 HP K0 u0 hHeld0 hb3 hb4 hI3 hok hps hmk hmk4
  go_wp2
  obtain ⟨g, hg⟩ : ∃ g, g = w4.heap.size := ⟨_, rfl⟩
  rw [← hg] at Hm ⊢
  have hgz : w4.heap.size ≤ g := Nat.le_of_eq hg.symm
  clear hg
  go_loopw [7, 8] (fun qi _ wr => ∃ (k : Nat), k ≤ n ∧ qi = .int .i64 (k : Int) ∧ Hid (M.GrowTo ps l k) ∧ Hid (OwnB wr w.heap.size (.slice (some ⟨g, 0, none⟩) n n) (M.metRow n l k)) ∧ Hid (Below w4.heap.size w4 wr)) (fun qi _ _ => n - (intOf qi).toNat)
  case atStart => exact ⟨0, Nat.zero_le _, rfl, hst, Hm, hb5⟩
  case round =>
    obtain ⟨k, hk, rfl, hT, hm, hbr⟩ := hrel
    clear hst Hm hb5
    by_cases hlt : k < n
    · have hbw := Lib.hid (btr hBW.out hbr.out)
      obtain ⟨b, off, x, rfl, hbl, g1, hX⟩ := (H2.out.below hbw.out (Nat.le_refl _)).at_ (k := k) (by rw [Hl.out]; exact hlt)
      have hx := (M.isOrd_iff.1 ho.out).2.2 x (List.mem_of_getElem? hX.out)
      obtain ⟨v, rfl⟩ := Int.eq_ofNat_of_zero_le hx.1
      have hvn : v < n := by omega
      obtain ⟨pb, po, p, rfl, hpb, g2, hPv⟩ := (HI.out.be hbr.out).at_ (k := v) (by rw [hpl.out]; exact hvn)
      have hpp : Hid (M.parOf ps (v : Int) = p) := by have := M.par_at hpar.out hvn; rw [hPv.out] at this; injection this with this; exact this.symm
      have hki : (k : Int) < (n : Int) := by omega
      have hk0 : (0 : Int) ≤ (k : Int) := by omega
      have hv0 : (0 : Int) ≤ (v : Int) := by omega
      have hvi : (v : Int) < (n : Int) := by omega
      have hp24 : -1 ≤ p ∧ p < (n : Int) := by
        rcases Nat.eq_zero_or_pos v with e | e
        · subst e
          have h0 := hpar.out.2.1
          have := hpp.out
          have h3 : M.parOf ps ((0 : Nat) : Int) = M.parOf ps 0 := rfl
          have h4 : ps[0]? = some (-1 : Int) := hPz.out
          rw [hPv.out] at h4
          injection h4 with h4
          omega
        · have := hpar.out.2.2 v e hvn
          rw [hpp.out] at this
          omega
      have hmv := M.metRow_at (l := l) (k := k) hvn
      obtain ⟨m1, m2, hgb, hgl⟩ := ownB_cell hm.out (M.metRow_len n l k) hmv
      have hms := Lib.hid (M.metRow_step (n := n) hX.out)
      have hset := Lib.hid (ownB_set hm.out (M.metRow_len n l k) v true)
      rw [hms.out] at hset
      have hbS := Lib.hid (below_setCell hbr.out hgz (k := v) (.bool true))
      clear hmv hPv hms
      by_cases hp0 : p < 0
      · have hs := Lib.hid (M.growTo_step hT.out hX.out (.inl (by rw [hpp.out]; exact hp0)))
        have hd : decide ((0 : Int) ≤ p) = false := decide_eq_false (by omega)
        have hd1 : ¬ (0 : Int) ≤ p := by omega
        clear hT hm hX hx
        go_wp2
        go_roundw
        case rel => exact ⟨k + 1, by omega, by go_num, hs, hset, hbS⟩
        case measure => simp [intOf]; omega
      · have hd : (0 : Int) ≤ p := by omega
        obtain ⟨u, rfl⟩ := Int.eq_ofNat_of_zero_le hd
        have hun : u < n := by omega
        have hui : (u : Int) < (n : Int) := by omega
        obtain ⟨q, hq⟩ : ∃ q, Hid (decide ((u : Int) ∈ l.take k) = q) := ⟨_, rfl⟩
        have hmu := M.metRow_at (l := l) (k := k) hun
        rw [hq.out] at hmu
        obtain ⟨n1, n2, _, _⟩ := ownB_cell hm.out (M.metRow_len n l k) hmu
        clear hmu hp0
        cases q
        · have hni : (u : Int) ∉ l.take k := of_decide_eq_false hq.out
          have hR : r = false := by rw [← hr.out]; exact M.grows_not hX.out (by rw [hpp.out]; exact hd) (by rw [hpp.out]; exact hni)
          subst hR
          clear hT hm hX hx hni hset hbS
          go_wp2
          go_ret
          exact ⟨rfl, hbw.out⟩
        · have hs := Lib.hid (M.growTo_step hT.out hX.out (.inr (by rw [hpp.out]; exact of_decide_eq_true hq.out)))
          clear hT hm hX hx
          go_wp2
          go_roundw
          case rel => exact ⟨k + 1, by omega, by go_num, hs, hset, hbS⟩
          case measure => simp [intOf]; omega
    · obtain rfl : k = n := by omega
      have hge : ¬ (k : Int) < (k : Int) := by omega
      have hR : r = true := by rw [← hr.out]; exact M.grows_iff.2 (by rw [Hl.out]; exact hT.out)
      subst hR
      go_wp2
      go_ret
      exact ⟨rfl, btr hBW.out hbr.out⟩
end Go.Proofs.Ytkcldfliiagloaa

/- l09Code: the code of a tree and a growing order, as the model says it. -/
namespace Go.Proofs.Ytkcldfliiagloaa
open Go.RowKit

namespace M
theorem gcode_t {xs l : List Int} (h : isTree xs = false) : gcode xs l = 1 ∧ gcode2 xs l = 1 := by simp [gcode, gcode2, h]
theorem gcode_o {xs l : List Int} (h : isTree xs = true) (ho : isOrd xs.length l = false) : gcode xs l = 2 ∧ gcode2 xs l = 2 := by simp [gcode, gcode2, h, ho]
theorem gcode_g {xs l : List Int} (h : isTree xs = true) (ho : isOrd xs.length l = true) : gcode xs l = (if grows (parents xs) l then 0 else 5) ∧ gcode2 xs l = 0 := by simp [gcode, gcode2, h, ho]
end M

set_option maxHeartbeats 4000000 in
set_option maxRecDepth 100000 in
theorem l09Code (A A2 : Option Addr) (xs l : List Int) (c c2 : Nat) (w : World) (hx : xs.length ≤ 1048576) (hl : l.length ≤ 1048576) (h : Ints w w.heap.size A xs) (h2 : Ints w w.heap.size A2 l) :
    Calls Try.prog 84 #[.agg #[.slice A xs.length c], .slice A2 l.length c2] w fun e w' => e = .returned (.int .i64 (M.gcode xs l)) ∧ Below w.heap.size w w' := by
  have cT0 : Hid ((w.alloc (.cells #[.slice A xs.length c] 28)).cell? ⟨w.heap.size, 0, none⟩ = some (.slice A xs.length c)) := by simp [Hid, go_sem]
  have hB0 := Lib.hid (bal (b0 w) (.cells #[.slice A xs.length c] 28))
  have hI1 := specIs A xs c (w.alloc (.cells #[.slice A xs.length c] 28)) (by omega) (h.al _)
  cases ht : M.isTree xs
  · rw [(M.gcode_t ht).1]
    rw [ht] at hI1
    have HI := Lib.hid hI1
    clear hI1 ht h h2
    go_enter Try.func84, Try.ntmps84
    go_wp2_with fail
    refine HI.out.mono ?_
    rintro e w1 ⟨rfl, hb⟩
    have hB1 := Lib.hid (btr hB0.out hb)
    go_wp2
    go_ret
    exact ⟨rfl, hB1.out⟩
  · rw [ht] at hI1
    have HI := Lib.hid hI1
    have Ht := Lib.hid ht
    have hlen := M.tree_len ht
    have hO := fun W (hb : Below w.heap.size w W) => l09Order A A2 l xs.length c l.length c2 W hlen.2 rfl hl (h2.be hb)
    have Ha := Lib.hid h
    have Hb := Lib.hid h2
    obtain ⟨q, hq⟩ : ∃ q, Hid (M.isOrd xs.length l = q) := ⟨_, rfl⟩
    rw [hq.out] at hO
    have HO := Lib.hid hO
    clear hI1 ht h h2 hO
    cases q
    · rw [(M.gcode_o Ht.out hq.out).1]
      go_enter Try.func84, Try.ntmps84
      go_wp2_with fail
      refine HI.out.mono ?_
      rintro e w1 ⟨rfl, hb⟩
      have hB1 := Lib.hid (btr hB0.out hb)
      have cT1 := cell_be cT0.out hb
      clear hb HI
      go_wp2_with fail
      refine (HO.out _ hB1.out).mono ?_
      rintro e w2 ⟨rfl, hb⟩
      have hB2 := Lib.hid (btr hB1.out hb)
      go_wp2
      go_ret
      exact ⟨rfl, hB2.out⟩
    · rw [(M.gcode_g Ht.out hq.out).1]
      obtain ⟨r, hr⟩ : ∃ r, Hid (M.grows (M.parents xs) l = r) := ⟨_, rfl⟩
      have hll := (M.isOrd_iff.1 hq.out).1
      have hG := fun W (hb : Below w.heap.size w W) => l09Growing A A2 xs l xs.length c c2 W rfl Ht hq (Ha.out.be hb) (Hb.out.be hb) r hr
      rw [← hll] at hG
      have hG' : ∀ W, Below w.heap.size w W → Calls Try.prog 166 #[.agg #[.slice A xs.length c], .slice A2 l.length c2] W fun e w' => e = .returned (.bool r) ∧ Below W.heap.size W w' := by rw [← hll]; exact hG
      have HG := Lib.hid hG'
      rw [hr.out]
      clear hll hG hG'
      go_enter Try.func84, Try.ntmps84
      go_wp2_with fail
      refine HI.out.mono ?_
      rintro e w1 ⟨rfl, hb⟩
      have hB1 := Lib.hid (btr hB0.out hb)
      have cT1 := cell_be cT0.out hb
      clear hb HI
      go_wp2_with fail
      refine (HO.out _ hB1.out).mono ?_
      rintro e w2 ⟨rfl, hb⟩
      have hB2 := Lib.hid (btr hB1.out hb)
      have cT2 := cell_be cT1 hb
      clear hb HO
      go_wp2_with fail
      refine (HG.out _ hB2.out).mono ?_
      rintro e w3 ⟨rfl, hb⟩
      have hB3 := Lib.hid (btr hB2.out hb)
      clear hb HG
      cases r
      · go_wp2
        go_ret
        exact ⟨rfl, hB3.out⟩
      · go_wp2
        go_ret
        exact ⟨rfl, hB3.out⟩
end Go.Proofs.Ytkcldfliiagloaa

/- limitCode, and l09Few: whether a tree has few nodes. -/
namespace Go.Proofs.Ytkcldfliiagloaa
open Go.RowKit

namespace M
def fewCode (xs : List Int) : Int := if isTree xs then (if xs.length ≤ 20 then 0 else 3) else 1
def codesF (xs : List Int) : List Int := [if isTree xs then 0 else 1, if xs.length ≤ 20 then 0 else 3]
theorem codesF_first (xs : List Int) : firstCode (codesF xs) = fewCode xs := by
  simp only [codesF, fewCode, firstCode]
  cases isTree xs <;> by_cases h : xs.length ≤ 20 <;> simp [h]
theorem fewCode_zero {xs : List Int} (h : fewCode xs = 0) : isTree xs = true ∧ xs.length ≤ 20 := by
  simp only [fewCode] at h
  cases ht : isTree xs
  · rw [ht] at h; simp at h
  · rw [ht] at h
    by_cases h2 : xs.length ≤ 20
    · exact ⟨rfl, h2⟩
    · simp [h2] at h
end M
set_option maxHeartbeats 1000000 in
theorem limitCode (A A2 : Option Addr) (n c n2 c2 : Nat) (w : World) (r : Int) (hr : Hid ((if n ≤ 20 then 0 else 3) = r)) :
    Calls Try.prog 91 #[.agg #[.slice A n c, .slice A2 n2 c2]] w fun e w' => e = .returned (.int .i64 r) ∧ Below w.heap.size w w' := by
  have hB := Lib.hid (bal (b0 w) (.cells #[.slice A n c, .slice A2 n2 c2] 96))
  obtain ⟨d0, d1⟩ := order_cells w (.slice A n c) (.slice A2 n2 c2) 96
  by_cases h : n ≤ 20
  · have hi : ¬ (20 : Int) < (n : Int) := by omega
    have hR : r = 0 := by rw [← hr.out, if_pos h]
    subst hR
    clear hr
    go_enter Try.func91, Try.ntmps91
    go_wp2
    go_ret
    exact ⟨rfl, hB.out⟩
  · have hi : (20 : Int) < (n : Int) := by omega
    have hR : r = 3 := by rw [← hr.out, if_neg h]
    subst hR
    clear hr
    go_enter Try.func91, Try.ntmps91
    go_wp2
    go_ret
    exact ⟨rfl, hB.out⟩

set_option maxHeartbeats 2000000 in
set_option maxRecDepth 100000 in
theorem l09Few (A : Option Addr) (xs : List Int) (c : Nat) (w : World) (hx : xs.length ≤ 1048576) (h : Ints w w.heap.size A xs) (r : Int) (hr : Hid (M.fewCode xs = r)) :
    Calls Try.prog 85 #[.agg #[.slice A xs.length c]] w fun e w' => e = .returned (.int .i64 r) ∧ Below w.heap.size w w' := by
  have cT0 : Hid ((w.alloc (.cells #[.slice A xs.length c] 28)).cell? ⟨w.heap.size, 0, none⟩ = some (.slice A xs.length c)) := by simp [Hid, go_sem]
  have hB0 := Lib.hid (bal (b0 w) (.cells #[.slice A xs.length c] 28))
  have hI1 := specIs A xs c (w.alloc (.cells #[.slice A xs.length c] 28)) (by omega) (h.al _)
  cases ht : M.isTree xs
  · have hr1 : r = 1 := by rw [← hr.out, M.fewCode, ht]; rfl
    subst hr1
    rw [ht] at hI1
    have HI := Lib.hid hI1
    clear hI1 ht h hr
    go_enter Try.func85, Try.ntmps85
    go_wp2_with fail
    refine HI.out.mono ?_
    rintro e w1 ⟨rfl, hb⟩
    have hB1 := Lib.hid (btr hB0.out hb)
    go_wp2
    go_ret
    exact ⟨rfl, hB1.out⟩
  · have hr1 : Hid ((if xs.length ≤ 20 then 0 else 3) = r) := by show _ = _; rw [← hr.out, M.fewCode, ht]; rfl
    rw [ht] at hI1
    have HI := Lib.hid hI1
    have HN := fun W => Lib.hid (l01N A xs.length c W)
    generalize xs.length = n at *
    clear hI1 ht h hr
    by_cases h20 : n ≤ 20
    · have hi : ¬ (20 : Int) < (n : Int) := by omega
      have hr2 : r = 0 := by rw [← hr1.out, if_pos h20]
      subst hr2
      go_enter Try.func85, Try.ntmps85
      go_wp2_with fail
      refine HI.out.mono ?_
      rintro e w1 ⟨rfl, hb⟩
      have hB1 := Lib.hid (btr hB0.out hb)
      have cT1 := cell_be cT0.out hb
      clear hb HI
      go_wp2_with fail
      refine (HN _).out.mono ?_
      rintro e w2 ⟨rfl, hb⟩
      have hB2 := Lib.hid (btr hB1.out hb)
      go_wp2
      go_ret
      exact ⟨rfl, hB2.out⟩
    · have hi : (20 : Int) < (n : Int) := by omega
      have hr2 : r = 3 := by rw [← hr1.out, if_neg h20]
      subst hr2
      go_enter Try.func85, Try.ntmps85
      go_wp2_with fail
      refine HI.out.mono ?_
      rintro e w1 ⟨rfl, hb⟩
      have hB1 := Lib.hid (btr hB0.out hb)
      have cT1 := cell_be cT0.out hb
      clear hb HI
      go_wp2_with fail
      refine (HN _).out.mono ?_
      rintro e w2 ⟨rfl, hb⟩
      have hB2 := Lib.hid (btr hB1.out hb)
      go_wp2
      go_ret
      exact ⟨rfl, hB2.out⟩

end Go.Proofs.Ytkcldfliiagloaa

/- Each tree has a row of parents: mathematics. -/
namespace Go.Proofs.Ytkcldfliiagloaa
namespace M
open Classical in
theorem pars_ex9 {xs : List Int} (ht : isTree xs = true) : ∃ ps, ParsOK xs ps := by
  have hl := tree_len ht
  refine ⟨(List.range xs.length).map fun i => if h : ∃ p, IsKid xs p i then (h.choose : Int) else -1, by simp, ?_, fun p c h => ?_⟩
  · have h0 : ¬ ∃ p, IsKid xs p 0 := fun ⟨p, h⟩ => by have := kid_bounds ht h; omega
    rw [List.getElem?_map, List.getElem?_range (by omega)]
    simp only [Option.map_some, dif_neg h0]
  · have hb := kid_bounds ht h
    have hx : ∃ p, IsKid xs p c := ⟨p, h⟩
    rw [List.getElem?_map, List.getElem?_range hb.2.2]
    simp only [Option.map_some, dif_pos hx]
    rw [kid_unique ht hx.choose_spec h]
theorem parents_tree {xs : List Int} (ht : isTree xs = true) : Parents xs.length (parents xs) := by
  obtain ⟨ps, hp⟩ := pars_ex9 ht
  rw [parents_eq ht hp]
  exact parents_of ht hp
end M
end Go.Proofs.Ytkcldfliiagloaa

/- GrowingOfRank, the program's: the growing order with a rank, or a code. -/
namespace Go.Proofs.Ytkcldfliiagloaa
open Go.RowKit

noncomputable def F_GrowingOfRank (xs : List Int) (k : Int) : List Int × Int :=
  if M.isTree xs then (if k < 0 then ([], 2) else if xs.length ≤ 20 then (if (M.waysN xs [] : Int) ≤ k then ([], 4) else (M.unR xs (M.parents xs) xs.length [] k.toNat, 0)) else ([], 3)) else ([], 1)
theorem F_GrowingOfRank_len (xs : List Int) (k : Int) : (F_GrowingOfRank xs k).1.length ≤ 1048576 := by
  rw [F_GrowingOfRank]
  cases ht : M.isTree xs
  · simp
  · simp only [if_true]
    by_cases h1 : k < 0
    · rw [if_pos h1]; simp
    · rw [if_neg h1]
      by_cases h2 : xs.length ≤ 20
      · rw [if_pos h2]
        by_cases h3 : (M.waysN xs [] : Int) ≤ k
        · rw [if_pos h3]; simp
        · rw [if_neg h3]
          show (M.unR _ _ _ _ _).length ≤ _
          rw [M.unR_len]
          simp; omega
      · rw [if_neg h2]; simp

set_option maxHeartbeats 8000000 in
set_option maxRecDepth 100000 in
theorem impl_GrowingOfRank : GivesList1 25 F_GrowingOfRank := by
  intro A xs c k w hx hcc h
  obtain ⟨f0, f1⟩ := order_cells (w.alloc (.cells #[.slice A xs.length c] 28)) (.slice A xs.length c) (.slice none 0 0) 96
  rw [World.size_alloc] at f0 f1
  obtain ⟨W, hW⟩ : ∃ W, W = (w.alloc (.cells #[.slice A xs.length c] 28)).alloc (.cells #[.slice A xs.length c, .slice none 0 0] 96) := ⟨_, rfl⟩
  have hB0 : Hid (Below w.heap.size w W) := by rw [hW]; exact bal (bal (b0 w) _) _
  have H1 : Hid (Ints W W.heap.size A xs) := by rw [hW]; exact (h.al _).al _
  rw [← hW] at f0 f1
  obtain ⟨P, hP⟩ : ∃ P, F_GrowingOfRank xs k = P := ⟨_, rfl⟩
  rw [hP]
  rw [F_GrowingOfRank] at hP
  obtain ⟨r, hr⟩ : ∃ r, Hid ((if M.isTree xs then (0 : Int) else 1) = r) := ⟨_, rfl⟩
  have HT := Lib.hid (treeCode A none xs c 0 0 W (by omega) H1.out r hr.out)
  obtain ⟨q, hq⟩ : ∃ q, Hid ((if xs.length ≤ 20 then (0 : Int) else 3) = q) := ⟨_, rfl⟩
  have HL := Lib.hid (fun X => limitCode A none xs.length c 0 0 X q hq)
  clear h
  cases ht : M.isTree xs
  · rw [ht] at hr hP
    have hr1 : r = 1 := hr.out.symm
    subst hr1
    simp only [Bool.false_eq_true, if_false] at hP
    subst hP
    clear HL hq hr ht
    go_enter Try.func25, Try.ntmps25
    go_wp2_with fail
    rw [← hW]
    clear hW
    refine HT.out.mono ?_
    rintro e w1 ⟨rfl, hb1⟩
    have hB1 := Lib.hid (btr hB0.out hb1)
    go_wp2
    go_ret2
    exact ⟨none, 0, rfl, own64_nil _ _, hB1.out⟩
  · rw [ht] at hr hP
    have hr0 : r = 0 := hr.out.symm
    subst hr0
    simp only [if_true] at hP
    have Ht := Lib.hid ht
    clear hr ht
    by_cases hk : k < 0
    · rw [if_pos hk] at hP
      subst hP
      clear HL hq
      go_enter Try.func25, Try.ntmps25
      go_wp2_with fail
      rw [← hW]
      clear hW
      refine HT.out.mono ?_
      rintro e w1 ⟨rfl, hb1⟩
      have hB1 := Lib.hid (btr hB0.out hb1)
      go_wp2
      go_ret2
      exact ⟨none, 0, rfl, own64_nil _ _, hB1.out⟩
    · rw [if_neg hk] at hP
      by_cases h20 : xs.length ≤ 20
      · rw [if_pos h20] at hP
        have hq0 : q = 0 := by rw [← hq.out, if_pos h20]
        subst hq0
        have hex : Hid (M.ParsOK xs (M.parents xs)) := by
          obtain ⟨ps, hp⟩ := M.pars_ex9 Ht.out
          show M.ParsOK _ _
          rw [M.parents_eq Ht.out hp]
          exact hp
        obtain ⟨R, hR⟩ : ∃ R, Hid (M.waysN xs [] = R) := ⟨_, rfl⟩
        have HWy := Lib.hid (fun X (hX : Below W.heap.size W X) => ways9 A none xs [] xs.length c 0 0 X rfl h20 hcc.1 hcc.2 Ht (M.bgn_nil _ _) rfl hex (Lib.hid (H1.out.be hX)) (Ints.nil_ _ _ _))
        rw [hR.out] at HWy hP
        by_cases hkR : (R : Int) ≤ k
        · rw [if_pos hkR] at hP
          subst hP
          clear hq
          go_enter Try.func25, Try.ntmps25
          go_wp2_with fail
          rw [← hW]
          clear hW
          refine HT.out.mono ?_
          rintro e w1 ⟨rfl, hb1⟩
          have hB1 := Lib.hid (btr hB0.out hb1)
          have hW1 := Lib.hid hb1
          have g0 := cellOf_be f0 hb1
          have g1 := cellOf_be f1 hb1
          clear hb1
          go_wp2_with fail
          refine (HL.out _).mono ?_
          rintro e w2 ⟨rfl, hb2⟩
          have hB2 := Lib.hid (btr hB1.out hb2)
          have hW2 := Lib.hid (btr hW1.out hb2)
          have g0 := cellOf_be g0 hb2
          have g1 := cellOf_be g1 hb2
          clear hb2
          go_wp2_with fail
          refine (HWy.out _ hW2.out).mono ?_
          rintro e w3 ⟨rfl, hb3⟩
          have hB3 := Lib.hid (btr hB2.out hb3)
          go_wp2
          go_ret2
          exact ⟨none, 0, rfl, own64_nil _ _, hB3.out⟩
        · rw [if_neg hkR] at hP
          obtain ⟨kn, rfl⟩ := Int.eq_ofNat_of_zero_le (by omega : 0 ≤ k)
          rw [Int.toNat_natCast] at hP
          have hkn : Hid (kn < M.waysN xs []) := by show _ < _; rw [hR.out]; omega
          have HTo := Lib.hid (fun X (hX : Below W.heap.size W X) => completedTo A xs xs.length c kn X rfl h20 hcc.1 hcc.2 Ht hex hkn (Lib.hid (H1.out.be hX)))
          have hUl := Lib.hid (show (M.unR xs (M.parents xs) xs.length [] kn).length = xs.length by rw [M.unR_len]; simp)
          subst hP
          clear hq
          go_enter Try.func25, Try.ntmps25
          go_wp2_with fail
          rw [← hW]
          clear hW
          refine HT.out.mono ?_
          rintro e w1 ⟨rfl, hb1⟩
          have hB1 := Lib.hid (btr hB0.out hb1)
          have hW1 := Lib.hid hb1
          have g0 := cellOf_be f0 hb1
          have g1 := cellOf_be f1 hb1
          clear hb1
          go_wp2_with fail
          refine (HL.out _).mono ?_
          rintro e w2 ⟨rfl, hb2⟩
          have hB2 := Lib.hid (btr hB1.out hb2)
          have hW2 := Lib.hid (btr hW1.out hb2)
          have g0 := cellOf_be g0 hb2
          have g1 := cellOf_be g1 hb2
          clear hb2
          go_wp2_with fail
          refine (HWy.out _ hW2.out).mono ?_
          rintro e w3 ⟨rfl, hb3⟩
          have hB3 := Lib.hid (btr hB2.out hb3)
          have hW3 := Lib.hid (btr hW2.out hb3)
          have g0 := cellOf_be g0 hb3
          have g1 := cellOf_be g1 hb3
          clear hb3
          go_wp2_with fail
          refine (HTo.out _ hW3.out).mono ?_
          rintro e w4 ⟨A4, c4, rfl, ho4, hb4⟩
          have hB4 := Lib.hid (btr hB3.out hb4)
          have ho5 := Lib.hid (own_mono ho4 hB3.out.size)
          clear ho4 hb4
          go_wp2
          go_ret2
          refine ⟨A4, c4, ?_, ?_, hB4.out⟩
          · show _ = Ending.returned (.tuple #[.slice A4 (M.unR xs (M.parents xs) xs.length [] kn).length c4, .int .i64 0])
            rw [hUl.out]; rfl
          · show Own64 _ _ (.slice A4 (M.unR xs (M.parents xs) xs.length [] kn).length c4) (M.unR xs (M.parents xs) xs.length [] kn)
            rw [hUl.out]; exact ho5.out
      · rw [if_neg h20] at hP
        have hq0 : q = 3 := by rw [← hq.out, if_neg h20]
        subst hq0
        subst hP
        clear hq
        go_enter Try.func25, Try.ntmps25
        go_wp2_with fail
        rw [← hW]
        clear hW
        refine HT.out.mono ?_
        rintro e w1 ⟨rfl, hb1⟩
        have hB1 := Lib.hid (btr hB0.out hb1)
        have g0 := cellOf_be f0 hb1
        have g1 := cellOf_be f1 hb1
        clear hb1
        go_wp2_with fail
        refine (HL.out _).mono ?_
        rintro e w2 ⟨rfl, hb2⟩
        have hB2 := Lib.hid (btr hB1.out hb2)
        go_wp2
        go_ret2
        exact ⟨none, 0, rfl, own64_nil _ _, hB2.out⟩
end Go.Proofs.Ytkcldfliiagloaa

/- A product divided by another one that divides it, step by step by common divisors: mathematics of the model's count. No conditions. -/
namespace Go.Proofs.Ytkcldfliiagloaa
namespace M
def prodL : List Nat → Nat
  | [] => 1
  | x :: r => x * prodL r
theorem prodL_append (a b : List Nat) : prodL (a ++ b) = prodL a * prodL b := by
  induction a with
  | nil => simp [prodL]
  | cons x r ih => simp only [List.cons_append, prodL, ih, Nat.mul_assoc]
theorem prodL_set : ∀ {l : List Nat} {k x y g : Nat}, l[k]? = some x → y * g = x → prodL (l.set k y) * g = prodL l := by
  intro l
  induction l with
  | nil => intro k x y g h; simp at h
  | cons z r ih =>
    intro k x y g h e
    cases k with
    | zero =>
      simp only [List.getElem?_cons_zero] at h
      injection h with h
      subst h
      simp only [List.set_cons_zero, prodL]
      rw [← e, Nat.mul_assoc, Nat.mul_assoc, Nat.mul_comm (prodL r)]
    | succ k =>
      simp only [List.getElem?_cons_succ] at h
      simp only [List.set_cons_succ, prodL]
      rw [Nat.mul_assoc, ih h e]
theorem dvd_prodL {l : List Nat} {k x : Nat} (h : l[k]? = some x) : x ∣ prodL l := by
  induction l generalizing k with
  | nil => simp at h
  | cons z r ih =>
    cases k with
    | zero =>
      simp only [List.getElem?_cons_zero] at h
      injection h with h
      subst h
      exact Nat.dvd_mul_right _ _
    | succ k =>
      simp only [List.getElem?_cons_succ] at h
      exact Nat.dvd_trans (ih h) (Nat.dvd_mul_left _ _)
theorem coprime_prodL {y : Nat} : ∀ {l : List Nat}, (∀ (k x : Nat), l[k]? = some x → Nat.gcd x y = 1) → Nat.gcd (prodL l) y = 1 := by
  intro l
  induction l with
  | nil => intro _; simp [prodL]
  | cons z r ih =>
    intro h
    have h1 := h 0 z rfl
    have h2 := ih fun k x hx => h (k + 1) x (by simpa using hx)
    simp only [prodL]
    exact Nat.Coprime.mul_left h1 h2
theorem prodL_one : ∀ {l : List Nat}, (∀ (k x : Nat), l[k]? = some x → x = 1) → prodL l = 1 := by
  intro l
  induction l with
  | nil => intro _; rfl
  | cons z r ih => intro h; rw [prodL, h 0 z rfl, ih fun k x hx => h (k + 1) x (by simpa using hx)]

/-- what the steps keep: tops and lows of F and P, divided by the same number -/
def Red (F P : Nat) (T B : List Nat) : Prop := 0 < F ∧ P ∣ F ∧ ∃ D, prodL T * D = F ∧ prodL B * D = P
theorem red_pos {F P : Nat} {T B : List Nat} (h : Red F P T B) {k x : Nat} (hx : T[k]? = some x) : 0 < x := by
  obtain ⟨h0, _, D, h1, _⟩ := h
  rcases Nat.eq_zero_or_pos x with e | e
  · subst e
    have := dvd_prodL hx
    rw [Nat.zero_dvd.1 this] at h1
    simp at h1
    omega
  · exact e
theorem red_lows {F P : Nat} {T B : List Nat} (h : Red F P T B) {k x : Nat} (hx : B[k]? = some x) : 0 < x := by
  obtain ⟨h0, hd, D, _, h2⟩ := h
  rcases Nat.eq_zero_or_pos x with e | e
  · subst e
    have := dvd_prodL hx
    rw [Nat.zero_dvd.1 this] at h2
    simp at h2
    rw [← h2] at hd
    have := Nat.zero_dvd.1 hd
    omega
  · exact e
theorem red_dvd {F P : Nat} {T B : List Nat} (h : Red F P T B) : prodL B ∣ prodL T := by
  obtain ⟨h0, hd, D, h1, h2⟩ := h
  have hD : 0 < D := by
    rcases Nat.eq_zero_or_pos D with e | e
    · subst e; simp at h1; omega
    · exact e
  rw [← h1, ← h2] at hd
  exact Nat.dvd_of_mul_dvd_mul_right hD hd
theorem red_step {F P : Nat} {T B : List Nat} (h : Red F P T B) {k i x y : Nat} (hx : T[k]? = some x) (hy : B[i]? = some y) : Red F P (T.set k (x / Nat.gcd x y)) (B.set i (y / Nat.gcd x y)) := by
  obtain ⟨h0, hd, D, h1, h2⟩ := h
  refine ⟨h0, hd, Nat.gcd x y * D, ?_, ?_⟩
  · rw [← Nat.mul_assoc, prodL_set hx (Nat.div_mul_cancel (Nat.gcd_dvd_left _ _)), h1]
  · rw [← Nat.mul_assoc, prodL_set hy (Nat.div_mul_cancel (Nat.gcd_dvd_right _ _)), h2]
/-- the first k tops have nothing in common with the low at i -/
def Apart (T B : List Nat) (i k : Nat) : Prop := ∀ (j x y : Nat), j < k → T[j]? = some x → B[i]? = some y → Nat.gcd x y = 1
theorem apart_zero (T B : List Nat) (i : Nat) : Apart T B i 0 := fun j x y h => by omega
theorem apart_step {T B : List Nat} {i k x y : Nat} (h : Apart T B i k) (hx : T[k]? = some x) (hy : B[i]? = some y) (hp : 0 < y) : Apart (T.set k (x / Nat.gcd x y)) (B.set i (y / Nat.gcd x y)) i (k + 1) := by
  intro j u v hj hu hv
  have hi : i < B.length := (List.getElem?_eq_some_iff.1 hy).1
  have hk : k < T.length := (List.getElem?_eq_some_iff.1 hx).1
  rw [List.getElem?_set_self hi] at hv
  injection hv with hv
  rcases Nat.lt_or_ge j k with h1 | h1
  · rw [List.getElem?_set_ne (by omega)] at hu
    have h2 := h j u y h1 hu hy
    have h3 : v ∣ y := ⟨Nat.gcd x y, by rw [← hv]; exact (Nat.div_mul_cancel (Nat.gcd_dvd_right _ _)).symm⟩
    exact Nat.Coprime.coprime_dvd_right h3 h2
  · obtain rfl : j = k := by omega
    rw [List.getElem?_set_self hk] at hu
    injection hu with hu
    subst hu; subst hv
    exact Nat.coprime_div_gcd_div_gcd (Nat.gcd_pos_of_pos_right _ hp)
/-- behind a round the low is 1 -/
theorem low_one {F P : Nat} {T B : List Nat} (h : Red F P T B) {i y : Nat} (hy : B[i]? = some y) (ha : Apart T B i T.length) : y = 1 := by
  have h1 : y ∣ prodL T := Nat.dvd_trans (dvd_prodL hy) (red_dvd h)
  have h2 : Nat.gcd (prodL T) y = 1 := coprime_prodL fun k x hx => ha k x y (List.getElem?_eq_some_iff.1 hx).1 hx hy
  have h3 : y ∣ Nat.gcd (prodL T) y := Nat.dvd_gcd h1 (Nat.dvd_refl _)
  rw [h2] at h3
  exact Nat.dvd_one.1 h3
/-- at the end the tops' product is the quotient -/
theorem red_end {F P : Nat} {T B : List Nat} (h : Red F P T B) (h1 : ∀ (i y : Nat), B[i]? = some y → y = 1) : prodL T = F / P ∧ prodL T ≤ F := by
  obtain ⟨h0, hd, D, h2, h3⟩ := h
  rw [prodL_one h1, Nat.one_mul] at h3
  subst h3
  have hD : 0 < D := by
    rcases Nat.eq_zero_or_pos D with e | e
    · subst e; simp at h2; omega
    · exact e
  refine ⟨?_, ?_⟩
  · rw [← h2, Nat.mul_div_cancel _ hD]
  · rw [← h2]; exact Nat.le_mul_of_pos_right _ hD
end M
end Go.Proofs.Ytkcldfliiagloaa

/- The rows that the model's count divides: the numbers from 1 on, and the sizes of the nodes that are to come. Mathematics, no conditions. -/
namespace Go.Proofs.Ytkcldfliiagloaa
namespace M
/-- a list of numbers as the program has it -/
def ints (l : List Nat) : List Int := l.map fun x : Nat => (x : Int)
theorem ints_len (l : List Nat) : (ints l).length = l.length := by simp [ints]
theorem ints_at {l : List Nat} {k x : Nat} (h : l[k]? = some x) : (ints l)[k]? = some (x : Int) := by simp [ints, h]
theorem ints_app (l : List Nat) (x : Nat) : ints (l ++ [x]) = ints l ++ [(x : Int)] := by simp [ints]
theorem ints_set (l : List Nat) (k x : Nat) : ints (l.set k x) = (ints l).set k (x : Int) := by simp [ints, List.map_set]
/-- the sizes of the nodes below k that are to come -/
def lowTo (xs b : List Int) : Nat → List Nat
  | 0 => []
  | k + 1 => if (k : Int) ∈ b then lowTo xs b k else lowTo xs b k ++ [sz xs k]
/-- the numbers from 1 on -/
def topOf (m : Nat) : List Nat := (List.range m).map (· + 1)
theorem topOf_len (m : Nat) : (topOf m).length = m := by simp [topOf]
theorem topOf_succ (m : Nat) : topOf (m + 1) = topOf m ++ [m + 1] := by simp [topOf, List.range_succ]
theorem topOf_prod (m : Nat) : prodL (topOf m) = facN m := by
  induction m with
  | zero => rfl
  | succ m ih => rw [topOf_succ, prodL_append, ih, facN, prodL, prodL, Nat.mul_one, Nat.mul_comm]
theorem lowTo_prod (xs b : List Int) (k : Nat) : prodL (lowTo xs b k) = prodTo xs b k := by
  induction k with
  | zero => rfl
  | succ k ih =>
    rw [lowTo, prodTo]
    split
    · exact ih
    · rw [prodL_append, ih, prodL, prodL, Nat.mul_one]
theorem lowTo_len (xs b : List Int) (k : Nat) : (lowTo xs b k).length = ((List.range k).filter fun v : Nat => decide ((v : Int) ∉ b)).length := by
  induction k with
  | zero => rfl
  | succ k ih =>
    rw [lowTo, List.range_succ, List.filter_append, List.length_append, ← ih]
    by_cases h : (k : Int) ∈ b
    · simp [h]
    · simp [h]
theorem lowTo_le (xs b : List Int) (k : Nat) : (lowTo xs b k).length ≤ k := by
  rw [lowTo_len]
  exact Nat.le_trans (List.length_filter_le _ _) (by simp)
theorem hit_len (n : Nat) : ∀ (b : List Int), b.Nodup → (∀ x ∈ b, 0 ≤ x ∧ x < (n : Int)) → ((List.range n).filter fun v : Nat => decide ((v : Int) ∉ b)).length + b.length = n := by
  intro b
  induction b with
  | nil =>
    intro _ _
    rw [List.filter_eq_self.2 (by intro a _; simp)]
    simp
  | cons x r ih =>
    intro hd hx
    have h1 := ih (List.nodup_cons.1 hd).2 fun y hy => hx y (List.mem_cons_of_mem _ hy)
    have h2 := hx x List.mem_cons_self
    obtain ⟨u, rfl⟩ := Int.eq_ofNat_of_zero_le h2.1
    have hu : u < n := by omega
    have hur : (u : Int) ∉ r := (List.nodup_cons.1 hd).1
    have key : ((List.range n).filter fun v : Nat => decide ((v : Int) ∉ r)).length = ((List.range n).filter fun v : Nat => decide ((v : Int) ∉ (u : Int) :: r)).length + 1 := by
      clear h1 ih hd hx h2
      induction n with
      | zero => omega
      | succ n ihn =>
        rw [List.range_succ, List.filter_append, List.filter_append, List.length_append, List.length_append]
        by_cases e : u = n
        · subst e
          have hs : ((List.range u).filter fun v : Nat => decide ((v : Int) ∉ (u : Int) :: r)) = ((List.range u).filter fun v : Nat => decide ((v : Int) ∉ r)) := by
            refine List.filter_congr fun v hv => ?_
            have hvu : v < u := List.mem_range.1 hv
            have : (v : Int) ≠ (u : Int) := by omega
            simp [this]
          rw [hs]
          simp [hur]
        · have hlt : u < n := by omega
          have := ihn hlt
          have hne : (n : Int) ≠ (u : Int) := by omega
          have h3 : ([n].filter fun v : Nat => decide ((v : Int) ∉ (u : Int) :: r)) = ([n].filter fun v : Nat => decide ((v : Int) ∉ r)) := by
            refine List.filter_congr fun v hv => ?_
            obtain rfl := List.mem_singleton.1 hv
            simp [hne]
          rw [h3]
          omega
    rw [List.length_cons]
    omega
theorem lowTo_all {n : Nat} {xs ps b : List Int} (hb : Bgn n ps b) : (lowTo xs b n).length + b.length = n := by
  rw [lowTo_len]
  exact hit_len n b hb.1 hb.2.1
/-- at the beginning nothing is divided -/
theorem red_start {xs ps b : List Int} (ht : isTree xs = true) (hp : ParsOK xs ps) (hb : Bgn xs.length ps b) : Red (facN (xs.length - b.length)) (prodTo xs b xs.length) (topOf (lowTo xs b xs.length).length) (lowTo xs b xs.length) := by
  have h1 := lowTo_all (xs := xs) hb
  have h2 := hook_dvd ht hp (xs.length - b.length) b hb (by omega)
  have h3 : (lowTo xs b xs.length).length = xs.length - b.length := by omega
  refine ⟨?_, h2, 1, ?_, ?_⟩
  · clear h1 h2 h3
    generalize xs.length - b.length = m
    induction m with
    | zero => decide
    | succ m ih => exact Nat.mul_pos (by omega) ih
  · rw [topOf_prod, h3, Nat.mul_one]
  · rw [lowTo_prod, Nat.mul_one]
theorem red_top_le {F P : Nat} {T B : List Nat} (h : Red F P T B) {k x : Nat} (hx : T[k]? = some x) : x ≤ F := by
  obtain ⟨h0, _, D, h1, _⟩ := h
  exact Nat.le_of_dvd h0 (h1 ▸ Nat.dvd_trans (dvd_prodL hx) (Nat.dvd_mul_right _ _))
theorem red_low_le {F P : Nat} {T B : List Nat} (h : Red F P T B) {k x : Nat} (hx : B[k]? = some x) : x ≤ F := by
  obtain ⟨h0, hd, D, _, h2⟩ := h
  exact Nat.le_of_dvd h0 (Nat.dvd_trans (h2 ▸ Nat.dvd_trans (dvd_prodL hx) (Nat.dvd_mul_right _ _)) hd)
theorem prodL_take_succ {l : List Nat} {k x : Nat} (h : l[k]? = some x) : prodL (l.take (k + 1)) = prodL (l.take k) * x := by
  rw [List.take_add_one, h, prodL_append]
  simp [prodL]
theorem prodL_take_le {l : List Nat} (hp : ∀ (i y : Nat), l[i]? = some y → 0 < y) (k : Nat) : prodL (l.take k) ≤ prodL l := by
  have h1 : prodL l = prodL (l.take k) * prodL (l.drop k) := by rw [← prodL_append, List.take_append_drop]
  have h2 : 0 < prodL (l.drop k) := by
    have : ∀ r : List Nat, (∀ (i y : Nat), r[i]? = some y → 0 < y) → 0 < prodL r := by
      intro r
      induction r with
      | nil => intro _; decide
      | cons z r ih => intro h; exact Nat.mul_pos (h 0 z rfl) (ih fun i y hy => h (i + 1) y (by simpa using hy))
    exact this _ fun i y hy => hp (k + i) y (by rw [List.getElem?_drop] at hy; exact hy)
  rw [h1]
  exact Nat.le_mul_of_pos_right _ h2
end M
end Go.Proofs.Ytkcldfliiagloaa

/- l09Count: the number of growing orders with a beginning, as the model divides step by step. -/
namespace Go.Proofs.Ytkcldfliiagloaa
open Go.RowKit

theorem Two.be {w w' : World} {B : Nat} {v1 v2 : Value} {xs ys : List Int} (h : Two w B v1 v2 xs ys) (hb : Below w.heap.size w w') : Two w' B v1 v2 xs ys := ⟨own_be h.1 hb, own_be h.2.1 hb, h.2.2⟩
theorem low9 {w w' : World} {B base e size n : Nat} {v : Value} {xs : List Value} (h : w.ownsRow base e size v n xs) (hb : Below B w w') (hlt : ∀ k, v.ownBlock = some k → k < B) : w'.ownsRow base e size v n xs := by
  obtain ⟨h1, h2⟩ := h
  refine ⟨h1, ?_⟩
  rcases h2 with h2 | ⟨g, cap, cur, hv, hg, hh, r⟩
  · exact .inl h2
  · refine .inr ⟨g, cap, cur, hv, hg, ?_, r⟩
    rw [hb.block g (hlt g (by rw [hv]; rfl))]
    exact hh
theorem two_head {w : World} {B n c : Nat} {A : Option Addr} {v2 : Value} {xs ys : List Int} (h : Two w B (.slice A n c) v2 xs ys) (hn : 0 < n) : ∃ g, A = some ⟨g, 0, none⟩ := (Two.shape h).2 hn
theorem cell_low {w w' : World} {B g k : Nat} {v : Value} (h : w.cell? ⟨g, k, none⟩ = some v) (hb : Below B w w') (hlt : g < B) : w'.cell? ⟨g, k, none⟩ = some v :=
  (hb.cell (p := ⟨g, k, none⟩) hlt).trans h
theorem M.gcd_step9 (a b : Nat) : Nat.gcd b (a % b) = Nat.gcd a b := by
  rw [Nat.gcd_comm b (a % b), ← Nat.gcd_rec, Nat.gcd_comm]

theorem M.sz_le9 (xs : List Int) (v : Nat) : M.sz xs v ≤ xs.length := by
  have h1 := M.span_le (xs.drop v) 1
  rw [List.length_drop] at h1
  have h2 : M.sz xs v = M.span 1 (xs.drop v) := rfl
  omega

set_option maxHeartbeats 8000000 in
set_option maxRecDepth 100000 in
theorem l09Count (A A2 : Option Addr) (xs b : List Int) (n c L c2 : Nat) (w : World) (hn : Hid (xs.length = n)) (h20 : n ≤ 20) (ht : Hid (M.isTree xs = true)) (hbg : Hid (M.Bgn n (M.parents xs) b)) (hL : Hid (b.length = L)) (hex : Hid (M.ParsOK xs (M.parents xs))) (h : Hid (Ints w w.heap.size A xs)) (h2 : Hid (Ints w w.heap.size A2 b)) :
    Calls Try.prog 87 #[.agg #[.slice A n c], .slice A2 L c2] w fun e w' => e = .returned (.int .i64 (M.waysN xs b : Int)) ∧ Below w.heap.size w w' := by
  have hLn : L ≤ n := by rw [← hL.out]; exact M.bgn_len hbg.out
  have hred : Hid (M.Red (M.facN (n - L)) (M.prodTo xs b n) (M.topOf (M.lowTo xs b n).length) (M.lowTo xs b n)) := by
    have := M.red_start ht.out hex.out (b := b) (by rw [hn.out]; exact hbg.out)
    rwa [hn.out, hL.out] at this
  have hle : ∀ j, (M.lowTo xs b j).length ≤ j := M.lowTo_le xs b
  have Hle := Lib.hid hle
  have hF := M.facN_20 (k := n - L) (by omega)
  have hW0 : M.waysN xs b = M.facN (n - L) / M.prodTo xs b n := by rw [M.waysN, hn.out, hL.out]
  rw [hW0]
  clear hW0 hle
  generalize M.facN (n - L) = F at *
  generalize hP : M.prodTo xs b n = P at *
  clear hP
  obtain ⟨Q9, hQ9⟩ : ∃ Q9, Hid (F / P = Q9) := ⟨_, rfl⟩
  rw [hQ9.out]
  have hmk := fun W => run_make_row' (P := Try.prog) (w := W) 91 4 (.bool false) 1 Try.underlying91 infoB rfl .i64 .i64 n (by omega) (by omega)
  have cT0 : Hid ((w.alloc (.cells #[.slice A n c] 28)).cell? ⟨w.heap.size, 0, none⟩ = some (.slice A n c)) := by simp [Hid, go_sem]
  have hB0 := Lib.hid (bal (b0 w) (.cells #[.slice A n c] 28))
  have H1 := Lib.hid (h.out.al (.cells #[.slice A n c] 28))
  have H2 := Lib.hid h2.out
  have hzW : (w.alloc (.cells #[.slice A n c] 28)).heap.size = w.heap.size + 1 := by simp
  obtain ⟨W, hW⟩ : ∃ W, W = w.alloc (.cells #[.slice A n c] 28) := ⟨_, rfl⟩
  rw [← hW] at cT0 hB0 H1 hzW
  have hE9 : ∀ (v S : Nat) X, v < n → M.sz xs v = S → Below W.heap.size W X → Calls Try.prog 160 #[.agg #[.slice A n c], .int .i64 (v : Int)] X fun e w' => e = .returned (.int .i64 ((v + S : Nat) : Int)) ∧ Below X.heap.size X w' := fun v S X hv hS hX => by
    have := l01End A xs c v (v + S) X (by show _ = _; rw [← hS]; rfl) (by rw [hn.out]; omega) (M.tree_ok ht.out (by rw [hn.out]; exact hv)) (H1.out.be hX)
    rwa [hn.out] at this
  have HE := Lib.hid hE9
  clear h h2 hE9
  go_enter Try.func87, Try.ntmps87
  go_wp2_with fail
  rw [← hW]
  clear hW
  refine (l01N A n c _).mono ?_
  rintro e w1 ⟨rfl, hb1⟩
  have hB1 := Lib.hid (btr hB0.out hb1)
  have hBW1 := Lib.hid hb1
  have cT1 := Lib.hid (cell_be cT0.out hb1)
  have hz1 := hb1.size
  have hmk1 := hmk w1
  have Hm : Hid (OwnB (w1.alloc (.cells (madeCells #[.bool false] n) 4)) w.heap.size (.slice (some ⟨w1.heap.size, 0, none⟩) n n) (List.replicate n false)) := ownB_made (by omega) (by unfold maxLen; omega)
  rw [show List.replicate n false = M.metRow n b 0 from (M.metRow_zero n b).symm] at Hm
  have hB2 := Lib.hid (bal hB1.out (.cells (madeCells #[.bool false] n) 4))
  have hBW2 := Lib.hid (bal hBW1.out (.cells (madeCells #[.bool false] n) 4))
  have cT2 := Lib.hid (cell_al cT1.out (.cells (madeCells #[.bool false] n) 4))
  have hgz : w.heap.size < w1.heap.size := by omega
  have hz2 : w1.heap.size < (w1.alloc (.cells (madeCells #[.bool false] n) 4)).heap.size := by simp
  clear hb1 cT0 hB0 hB1 hBW1 cT1 hz1
  obtain ⟨Y, hY⟩ : ∃ Y, Y = w1.alloc (.cells (madeCells #[.bool false] n) 4) := ⟨_, rfl⟩
  rw [← hY] at Hm hB2 hBW2 cT2 hz2 hmk1
  generalize hg : w1.heap.size = g at *
  go_wp2
  try rw [hg]
  rw [← hY]
  clear hmk hmk1 hY hg
  -- the first loop: which are there
  go_loopw [6] (fun qi wr => ∃ (k : Nat), k ≤ L ∧ qi = .int .i64 (k : Int) ∧ Hid (OwnB wr w.heap.size (.slice (some ⟨g, 0, none⟩) n n) (M.metRow n b k)) ∧ Hid (wr.cell? ⟨w.heap.size, 0, none⟩ = some (.slice A n c)) ∧ Hid (Below w.heap.size w wr) ∧ Hid (Below W.heap.size W wr)) (fun qi _ => L - (intOf qi).toNat)
  case atStart => exact ⟨0, Nat.zero_le _, rfl, Hm, cT2, hB2, hBW2⟩
  case round =>
    obtain ⟨k, hk, rfl, hm, hc, hbr, hbw⟩ := hrel
    clear Hm cT2 hB2 hBW2 hz2
    by_cases hlt : k < L
    · obtain ⟨ob, off, x, rfl, hbl, g1, hX⟩ := (H2.out.below hbr.out (Nat.le_refl _)).at_ (k := k) (by rw [hL.out]; exact hlt)
      have hx := hbg.out.2.1 x (List.mem_of_getElem? hX.out)
      obtain ⟨v, rfl⟩ := Int.eq_ofNat_of_zero_le hx.1
      have hvn : v < n := by omega
      have hki : (k : Int) < (L : Int) := by omega
      have hk0 : (0 : Int) ≤ (k : Int) := by omega
      have hv0 : (0 : Int) ≤ (v : Int) := by omega
      have hvi : (v : Int) < (n : Int) := by omega
      have hmv := M.metRow_at (l := b) (k := k) hvn
      obtain ⟨m1, m2, _, hgl⟩ := ownB_cell hm.out (M.metRow_len n b k) hmv
      have hms := Lib.hid (M.metRow_step (n := n) hX.out)
      have hset := Lib.hid (ownB_set hm.out (M.metRow_len n b k) v true)
      rw [hms.out] at hset
      have hc2 := Lib.hid ((World.cell?_setCell_other wr (a := ⟨g, v, none⟩) (b := ⟨w.heap.size, 0, none⟩) (v := .bool true) (by intro e; injection e with e1; omega)).trans hc.out)
      have hb2 := Lib.hid (below_setCell hbr.out (Nat.le_of_lt hgz) (k := v) (.bool true))
      have hb3 := Lib.hid (below_setCell hbw.out (by omega : W.heap.size ≤ g) (k := v) (.bool true))
      clear hm hc hmv hms hX hred HE Hle
      go_wp2
      go_roundw
      case rel => exact ⟨k + 1, by omega, by go_num, hset, hc2, hb2, hb3⟩
      case measure => simp [intOf]; omega
    · obtain rfl : k = L := by omega
      have hge : ¬ (k : Int) < (k : Int) := by omega
      have hkb : b.take k = b := by rw [← hL.out, List.take_length]
      obtain ⟨R, hR⟩ : ∃ R, M.metRow n b k = R := ⟨_, rfl⟩
      have hRat : Hid (∀ v, v < n → R[v]? = some (decide ((v : Int) ∈ b))) := fun v hv => by rw [← hR, M.metRow_at hv, hkb]
      have hRl : Hid (R.length = n) := by show _ = _; rw [← hR]; exact M.metRow_len _ _ _
      rw [hR] at hm
      have Hge := Lib.hid hge
      obtain ⟨G, hG⟩ : ∃ G, wr.heap.size = G := ⟨_, rfl⟩
      have HG := Lib.hid hG
      obtain ⟨V, hV⟩ : ∃ V, V = (wr.alloc (.cells #[] 2)).alloc (.cells #[] 2) := ⟨_, rfl⟩
      have hgX : g < G := by
        rcases Nat.lt_or_ge 0 n with h0 | h0
        · rw [← hG]; exact (ownB_cell hm.out hRl.out (hRat.out 0 h0)).2.2.2
        · have := M.tree_len ht.out; rw [hn.out] at this; omega
      have hT0 : Hid (Two V G (.slice (some ⟨G, 0, none⟩) 0 0) (.slice (some ⟨G + 1, 0, none⟩) 0 0) [] []) := by
        rw [hV, ← hG]
        refine ⟨own_be (own64_empty (Nat.le_refl _)) (bal (b0 _) _), ?_, fun q h1 h2 => by
          have e1 : wr.heap.size = q := by injection h1
          have e2 : wr.heap.size + 1 = q := by injection h2
          omega⟩
        · have := own64_empty (w := wr.alloc (.cells #[] 2)) (B := wr.heap.size) (by simp)
          simpa using this
      have hm2 : Hid (OwnB V w.heap.size (.slice (some ⟨g, 0, none⟩) n n) R) := by rw [hV]; exact own_be (own_be hm.out (bal (b0 _) _)) (bal (b0 _) _)
      have hc2 : Hid (V.cell? ⟨w.heap.size, 0, none⟩ = some (.slice A n c)) := by rw [hV]; exact cell_al (cell_al hc.out _) _
      have hb2 : Hid (Below w.heap.size w V) := by rw [hV]; exact bal (bal hbr.out _) _
      have hb3 : Hid (Below W.heap.size W V) := by rw [hV]; exact bal (bal hbw.out _) _
      have hzV : G ≤ V.heap.size := by rw [hV]; simp; omega
      have hwG : W.heap.size ≤ G := by rw [← hG]; exact hbw.out.size
      clear hm hc hbr hbw hlt hk hge hR hkb H2 hbg
      go_wp2
      rw [← hV]
      clear hV hG
      -- the second loop: the rows that grow
      have hst : Hid (Two V G (.slice (some ⟨G, 0, none⟩) 0 0) (.slice (some ⟨G + 1, 0, none⟩) 0 0) (M.ints (M.topOf (M.lowTo xs b 0).length)) (M.ints (M.lowTo xs b 0))) := hT0
      clear hT0
      go_loopw [7, 8, 9] (fun qt ql qi wr => ∃ (j m : Nat) (A1 A3 : Option Addr) (c1 c3 : Nat), j ≤ n ∧ qi = .int .i64 (j : Int) ∧ Hid ((M.lowTo xs b j).length = m) ∧ qt = .slice A1 m c1 ∧ ql = .slice A3 m c3 ∧ Hid (Two wr G (.slice A1 m c1) (.slice A3 m c3) (M.ints (M.topOf (M.lowTo xs b j).length)) (M.ints (M.lowTo xs b j))) ∧ Hid (OwnB wr w.heap.size (.slice (some ⟨g, 0, none⟩) n n) R) ∧ Hid (wr.cell? ⟨w.heap.size, 0, none⟩ = some (.slice A n c)) ∧ Hid (Below w.heap.size w wr) ∧ Hid (Below W.heap.size W wr) ∧ G ≤ wr.heap.size) (fun _ _ qi _ => n - (intOf qi).toNat)
      case atStart => exact ⟨0, 0, _, _, 0, 0, Nat.zero_le _, rfl, rfl, rfl, rfl, hst, hm2, hc2, hb2, hb3, hzV⟩
      case round =>
        obtain ⟨j, m, A1, A3, c1, c3, hj, rfl, hjm, rfl, rfl, hT, hm, hc, hbr, hbw, hzr⟩ := hrel
        clear hst hm2 hc2 hb2 hb3 hzV
        have hm20 : m ≤ 20 := by have := Hle.out j; rw [hjm.out] at this; omega
        have cc := hc.out
        by_cases hjn : j < n
        · have hji : (j : Int) < (n : Int) := by omega
          have hj0 : (0 : Int) ≤ (j : Int) := by omega
          have hRj := hRat.out j hjn
          go_wp2_with fail
          refine (l01N A n c _).mono ?_
          rintro e w7 ⟨rfl, hb7⟩
          have hT7 := Lib.hid (hT.out.be hb7)
          have hm7 := Lib.hid (own_be hm.out hb7)
          have hc7 := Lib.hid (cell_be hc.out hb7)
          have hbr7 := Lib.hid (btr hbr.out hb7)
          have hbw7 := Lib.hid (btr hbw.out hb7)
          have hz7 : G ≤ w7.heap.size := Nat.le_trans hzr hb7.size
          obtain ⟨m1, m2, _, _⟩ := ownB_cell hm7.out hRl.out hRj
          clear hT hm hc hbr hbw cc hb7 hRj hzr
          by_cases hjb : (j : Int) ∈ b
          · rw [decide_eq_true hjb] at m1
            have hs := Lib.hid (show M.lowTo xs b (j + 1) = M.lowTo xs b j by rw [M.lowTo, if_pos hjb])
            have hjm2 : Hid ((M.lowTo xs b (j + 1)).length = m) := by show _ = _; rw [hs.out]; exact hjm.out
            rw [← hs.out] at hT7
            clear hs hjb hjm
            go_wp2
            go_roundw
            case rel => exact ⟨j + 1, m, A1, A3, c1, c3, by omega, by go_num, hjm2, rfl, rfl, hT7, hm7, hc7, hbr7, hbw7, hz7⟩
            case measure => simp [intOf]; omega
          · rw [decide_eq_false hjb] at m1
            obtain ⟨S, hS⟩ : ∃ S, M.sz xs j = S := ⟨_, rfl⟩
            have hs := Lib.hid (show M.lowTo xs b (j + 1) = M.lowTo xs b j ++ [S] by rw [M.lowTo, if_neg hjb, hS])
            have hs2 : Hid (M.topOf (M.lowTo xs b (j + 1)).length = M.topOf (M.lowTo xs b j).length ++ [m + 1]) := by show _ = _; rw [hs.out, List.length_append, List.length_singleton, M.topOf_succ, hjm.out]
            have hjm2 : Hid ((M.lowTo xs b (j + 1)).length = m + 1) := by show _ = _; rw [hs.out, List.length_append, hjm.out]; rfl
            have hSb : S ≤ 24 := by
              rw [← hS]
              have := M.sz_le9 xs j
              rw [hn.out] at this
              omega
            obtain ⟨E, hE⟩ : ∃ E, Hid (j + S = E) := ⟨_, rfl⟩
            have hEe : (E : Int) - (j : Int) = (S : Int) := by have := hE.out; omega
            have hE24 : E ≤ 44 := by have := hE.out; omega
            have HEj := Lib.hid (fun X hX => HE.out j S X hjn hS hX)
            rw [hE.out] at HEj
            generalize M.lowTo xs b j = B0 at *
            generalize M.topOf B0.length = T0 at *
            clear hS hjb hjm hE
            have hBG : Hid (∀ X, Below w7.heap.size w7 X → True) := fun _ _ => trivial
            clear hBG
            go_wp2_with (first | (at_builtin; refine pushTwo rfl (.tmp 45) (.tmp 49) rfl w7 G A1 m c1 (.slice A3 m c3) (M.ints T0) (M.ints B0) ((m : Int) + 1) rfl _ rfl rfl hT7 hz7 (by omega) ?_; intro A8 c8 w8 hT8 hb8; have cc8 := cell_low hc7.out hb8.out (by omega)) | (go_at_call 160; refine (HEj.out _ (hbw7.out.trans (hb8.out.mono hwG))).mono ?_; rintro e w9 ⟨rfl, hb9⟩) | (at_builtin; refine pushTwo rfl (.tmp 51) (.tmp 57) rfl w9 G A3 m c3 (.slice A8 (m + 1) c8) (M.ints B0) (M.ints (T0 ++ [m + 1])) (S : Int) rfl _ rfl rfl (Lib.hid ((by have := hT8.out.be hb9; rw [M.ints_app]; exact this.symm))) (Nat.le_trans hz7 (Nat.le_trans hb8.out.size hb9.size)) (by omega) ?_; intro A10 c10 w10 hT10 hb10))
            have hT11 : Hid (Two w10 G (.slice A8 (m + 1) c8) (.slice A10 (m + 1) c10) (M.ints (M.topOf (M.lowTo xs b (j + 1)).length)) (M.ints (M.lowTo xs b (j + 1)))) := by
              show Two _ _ _ _ _ _
              rw [hs2.out, hs.out, M.ints_app B0]
              exact hT10.out.symm
            have hB11 : Hid (Below G w7 w10) := (hb8.out.trans (hb9.mono (Nat.le_trans hz7 hb8.out.size))).trans hb10.out
            have hm11 := Lib.hid (low9 hm7.out hB11.out (fun q hq => by have e : some g = some q := hq; injection e with e; omega))
            have hc11 := Lib.hid (cell_low hc7.out hB11.out (by omega))
            have hbr11 := Lib.hid (hbr7.out.trans (hB11.out.mono (by omega)))
            have hbw11 := Lib.hid (hbw7.out.trans (hB11.out.mono hwG))
            have hz11 : G ≤ w10.heap.size := Nat.le_trans hz7 hB11.out.size
            clear hT8 hb8 hb9 hT10 hb10 hB11 cc8 hm7 hc7 hbr7 hbw7 hT7
            go_roundw
            case rel => exact ⟨j + 1, m + 1, A8, A10, c8, c10, by omega, by go_num, hjm2, rfl, rfl, hT11, hm11, hc11, hbr11, hbw11, hz11⟩
            case measure => simp [intOf]; omega
        · obtain rfl : j = n := by omega
          have hjn0 : ¬ (j : Int) < (j : Int) := by omega
          obtain ⟨T0, B0, hT0, hB0, hred0⟩ : ∃ T0 B0, Hid (M.topOf (M.lowTo xs b j).length = T0) ∧ Hid (M.lowTo xs b j = B0) ∧ Hid (M.Red F P T0 B0) := ⟨_, _, rfl, rfl, hred⟩
          have hTl : Hid (T0.length = m) := by show _ = _; rw [← hT0.out, M.topOf_len]; exact hjm.out
          have hBl : Hid (B0.length = m) := by show _ = _; rw [← hB0.out]; exact hjm.out
          rw [hT0.out, hB0.out] at hT
          go_wp2_with fail
          refine (l01N A j c _).mono ?_
          rintro e w7 ⟨rfl, hb7⟩
          have hT7 := Lib.hid (hT.out.be hb7)
          have hbr7 := Lib.hid (btr hbr.out hb7)
          have hz7 : G ≤ w7.heap.size := Nat.le_trans hzr hb7.size
          have hGw : w.heap.size ≤ G := by omega
          clear hT hm hc hbr hbw cc hb7 hzr hjm HE hRat hRl Hle hred hT0 hB0 H1 hn ht hex hwG hgX hjn0
          go_wp2
          go_loopw [10] (fun qi wr => ∃ (i : Nat) (T B : List Nat), i ≤ m ∧ qi = .int .i64 (i : Int) ∧ Hid (T.length = m) ∧ Hid (B.length = m) ∧ Hid (M.Red F P T B) ∧ Hid (∀ (u y : Nat), u < i → B[u]? = some y → y = 1) ∧ Hid (Two wr G (.slice A1 m c1) (.slice A3 m c3) (M.ints T) (M.ints B)) ∧ Hid (Below w.heap.size w wr) ∧ G ≤ wr.heap.size) (fun qi _ => m - (intOf qi).toNat)
          case atStart => exact ⟨0, T0, B0, Nat.zero_le _, rfl, hTl, hBl, hred0, fun u y h => by omega, hT7, hbr7, hz7⟩
          case round =>
            obtain ⟨i, T, B, hi, rfl, hTl2, hBl2, hred2, hone, hT, hbr, hzr⟩ := hrel
            clear hTl hBl hred0 hT7 hbr7 hz7
            by_cases him : i < m
            · have hii : (i : Int) < (m : Int) := by omega
              obtain ⟨g1, rfl⟩ := two_head hT.out (by omega)
              obtain ⟨g3, rfl⟩ := two_head hT.out.symm (by omega)
              have hap : Hid (M.Apart T B i 0) := M.apart_zero T B i
              go_wp2
              go_loopw [11] (fun qk ws => ∃ (k : Nat) (T B : List Nat), k ≤ m ∧ qk = .int .i64 (k : Int) ∧ Hid (T.length = m) ∧ Hid (B.length = m) ∧ Hid (M.Red F P T B) ∧ Hid (∀ (u y : Nat), u < i → B[u]? = some y → y = 1) ∧ Hid (M.Apart T B i k) ∧ Hid (Two ws G (.slice (some ⟨g1, 0, none⟩) m c1) (.slice (some ⟨g3, 0, none⟩) m c3) (M.ints T) (M.ints B)) ∧ Hid (Below w.heap.size w ws) ∧ G ≤ ws.heap.size) (fun qk _ => m - (intOf qk).toNat)
              case atStart => exact ⟨0, T, B, Nat.zero_le _, rfl, hTl2, hBl2, hred2, hone, hap, hT, hbr, hzr⟩
              case round =>
                clear hTl2 hBl2 hred2 hone hap hT hbr hzr T B
                obtain ⟨k, T, B, hk, rfl, hTl, hBl, hred, hone, hap, hT, hbr, hzs⟩ := hrel
                obtain ⟨y, hy⟩ : ∃ y, B[i]? = some y := ⟨_, List.getElem?_eq_getElem (by rw [hBl.out]; exact him)⟩
                have hy0 := M.red_lows hred.out hy
                have hyF := M.red_low_le hred.out hy
                obtain ⟨q1, q2, q3, q4⟩ := own64_cell hT.out.2.1 ((M.ints_len B).trans hBl.out) (M.ints_at hy)
                by_cases hkm : k < m
                · have hki : (k : Int) < (m : Int) := by omega
                  by_cases hy1 : 1 < y
                  · have hyi : (1 : Int) < (y : Int) := by omega
                    obtain ⟨x, hx⟩ : ∃ x, T[k]? = some x := ⟨_, List.getElem?_eq_getElem (by rw [hTl.out]; exact hkm)⟩
                    have hx0 := M.red_pos hred.out hx
                    have hxF := M.red_top_le hred.out hx
                    obtain ⟨p1, p2, p3, p4⟩ := own64_cell hT.out.1 ((M.ints_len T).trans hTl.out) (M.ints_at hx)
                    have Hx := Lib.hid hx
                    have Hy := Lib.hid hy
                    clear hx hy
                    go_wp2
                    go_region
                    obtain ⟨Z, hZ⟩ : ∃ Z, Z = wr.drew := ⟨_, rfl⟩
                    have hTZ : Hid (Two Z G (.slice (some ⟨g1, 0, none⟩) m c1) (.slice (some ⟨g3, 0, none⟩) m c3) (M.ints T) (M.ints B)) := by rw [hZ]; exact hT.out
                    have hbZ : Hid (Below w.heap.size w Z) := by rw [hZ]; exact hbr.out.drew
                    have hzZ : G ≤ Z.heap.size := by rw [hZ]; exact hzs
                    rw [← hZ]
                    clear hZ hT hbr hzs p1 p2 p4 q1 q2 q4 hki
                    obtain ⟨D, hD⟩ : ∃ D, Hid (Nat.gcd x y = D) := ⟨_, rfl⟩
                    have hD0 : 0 < D := by rw [← hD.out]; exact Nat.gcd_pos_of_pos_left _ hx0
                    have hDx : D ≤ x := by rw [← hD.out]; exact Nat.gcd_le_left _ hx0
                    have hDi : ¬ (D : Int) = 0 := by omega
                    go_wp2
                    go_loopw [12, 13] (fun qa qb ws => ∃ (u v : Nat), qa = .int .i64 (u : Int) ∧ qb = .int .i64 (v : Int) ∧ 0 < u ∧ u ≤ F ∧ v ≤ F ∧ Hid (Nat.gcd u v = D) ∧ ws = Z) (fun _ qb _ => (intOf qb).toNat)
                    case atStart => exact ⟨x, y, rfl, rfl, hx0, hxF, hyF, hD, rfl⟩
                    case round =>
                      obtain ⟨u, v, rfl, rfl, hu0, huF, hvF, hg, rfl⟩ := hrel
                      by_cases hv0 : 0 < v
                      · have hvi : (0 : Int) < (v : Int) := by omega
                        have hvn : ¬ (v : Int) = 0 := by omega
                        obtain ⟨r, hr⟩ : ∃ r, Hid (u % v = r) := ⟨_, rfl⟩
                        have hrv : r < v := by rw [← hr.out]; exact Nat.mod_lt _ hv0
                        have hg2 : Hid (Nat.gcd v r = D) := by show _ = _; rw [← hr.out, M.gcd_step9]; exact hg.out
                        have hri : (u : Int) % (v : Int) = (r : Int) := by rw [← hr.out]; exact (Int.natCast_emod u v).symm
                        have hri9 : Hid (wrap64 ((u : Int) % (v : Int)) = (r : Int)) := by show _ = _; rw [hri]; exact IntWalk.wrap64_in _ ⟨by omega, by omega⟩
                        clear hg hr
                        go_wp2
                        go_roundw
                        case rel => exact ⟨v, r, rfl, by rw [hri], hv0, hvF, by omega, hg2, trivial⟩
                        case measure => rw [hri]; simp [intOf]; omega
                      · obtain rfl : v = 0 := by omega
                        have hvi : ¬ (0 : Int) < ((0 : Nat) : Int) := by omega
                        have hu : u = D := by rw [← hg.out, Nat.gcd_zero_right]
                        subst hu
                        obtain ⟨X, hX⟩ : ∃ X, Hid (x / u = X) := ⟨_, rfl⟩
                        obtain ⟨Y9, hY9⟩ : ∃ Y9, Hid (y / u = Y9) := ⟨_, rfl⟩
                        have hxq : (x : Int) / (u : Int) = (X : Int) := by rw [← hX.out]; exact (Int.natCast_ediv x u).symm
                        have hyq : (y : Int) / (u : Int) = (Y9 : Int) := by rw [← hY9.out]; exact (Int.natCast_ediv y u).symm
                        have hXx : X ≤ x := by rw [← hX.out]; exact Nat.div_le_self _ _
                        have hYy : Y9 ≤ y := by rw [← hY9.out]; exact Nat.div_le_self _ _
                        have hX9 : Hid (wrap64 ((x : Int) / (u : Int)) = (X : Int)) := by show _ = _; rw [hxq]; exact IntWalk.wrap64_in _ ⟨by omega, by omega⟩
                        have hY8 : Hid (wrap64 ((y : Int) / (u : Int)) = (Y9 : Int)) := by show _ = _; rw [hyq]; exact IntWalk.wrap64_in _ ⟨by omega, by omega⟩
                        have hst := Lib.hid (M.red_step hred.out Hx.out Hy.out)
                        have hap2 := Lib.hid (M.apart_step hap.out Hx.out Hy.out hy0)
                        rw [hD.out, hX.out, hY9.out] at hst hap2
                        have hone2 : Hid (∀ (u y : Nat), u < i → (B.set i Y9)[u]? = some y → y = 1) := fun u' y' hu' hy' => hone.out u' y' hu' (by rwa [List.getElem?_set_ne (by omega)] at hy')
                        have hs1 := hTZ.out.set ((M.ints_len T).trans hTl.out) k (X : Int)
                        rw [← M.ints_set] at hs1
                        have hs2 := hs1.symm.set ((M.ints_len B).trans hBl.out) i (Y9 : Int)
                        rw [← M.ints_set] at hs2
                        have hs3 := Lib.hid hs2.symm
                        obtain ⟨p1, p2, p3, p4⟩ := own64_cell hTZ.out.1 ((M.ints_len T).trans hTl.out) (M.ints_at Hx.out)
                        obtain ⟨q1, q2, q3, q4⟩ := own64_cell hs1.2.1 ((M.ints_len B).trans hBl.out) (M.ints_at Hy.out)
                        have hb8 := Lib.hid (below_setCell (below_setCell hbZ.out (by omega : w.heap.size ≤ g1) (k := k) (.int .i64 (X : Int))) (by omega : w.heap.size ≤ g3) (k := i) (.int .i64 (Y9 : Int)))
                        have hz8 : G ≤ ((wr.setCell ⟨g1, k, none⟩ (.int .i64 (X : Int))).setCell ⟨g3, i, none⟩ (.int .i64 (Y9 : Int))).heap.size := by simpa using hzZ
                        clear hs1 hs2 hTZ hbZ hred hap hone hg hD
                        go_wp2
                        go_roundw
                        case rel => exact ⟨k + 1, T.set k X, B.set i Y9, by omega, by go_num, by show _ = _; rw [List.length_set]; exact hTl.out, by show _ = _; rw [List.length_set]; exact hBl.out, hst, hone2, hap2, hs3, hb8, hz8⟩
                        case measure => simp [intOf]; omega
                  · have hyi : ¬ (1 : Int) < (y : Int) := by omega
                    have hy1' : y = 1 := by omega
                    have hone2 : Hid (∀ (u y : Nat), u < i + 1 → B[u]? = some y → y = 1) := fun u y' hu hy' => by
                      rcases Nat.lt_or_ge u i with h1 | h1
                      · exact hone.out u y' h1 hy'
                      · obtain rfl : u = i := by omega
                        rw [hy] at hy'; injection hy' with e; omega
                    clear hone hap hy hy1'
                    go_wp2
                    go_roundw
                    case rel => exact ⟨i + 1, T, B, by omega, by go_num, hTl, hBl, hred, hone2, hT, hbr, hzs⟩
                    case measure => simp [intOf]; omega
                · obtain rfl : k = m := by omega
                  have hki : ¬ (k : Int) < (k : Int) := by omega
                  have hy1' : y = 1 := M.low_one hred.out hy (by rw [hTl.out]; exact hap.out)
                  have hone2 : Hid (∀ (u y : Nat), u < i + 1 → B[u]? = some y → y = 1) := fun u y' hu hy' => by
                    rcases Nat.lt_or_ge u i with h1 | h1
                    · exact hone.out u y' h1 hy'
                    · obtain rfl : u = i := by omega
                      rw [hy] at hy'; injection hy' with e; omega
                  clear hone hap hy hy1'
                  go_wp2
                  go_roundw
                  case rel => exact ⟨i + 1, T, B, by omega, by go_num, hTl, hBl, hred, hone2, hT, hbr, hzs⟩
                  case measure => simp [intOf]; omega
            · obtain rfl : i = m := by omega
              have hge : ¬ (i : Int) < (i : Int) := by omega
              have hend := Lib.hid (M.red_end hred2.out (fun u y hy => hone.out u y (by have := (List.getElem?_eq_some_iff.1 hy).1; have := hBl2.out; omega) hy))
              have hpos := Lib.hid (fun u y (hy : T[u]? = some y) => M.red_pos hred2.out hy)
              have hst : Hid (M.prodL (T.take 0) = 1) := rfl
              clear hone hred2
              go_wp2
              go_loopw [15, 16] (fun qo qk ws => ∃ (k p : Nat), k ≤ i ∧ qk = .int .i64 (k : Int) ∧ qo = .int .i64 (p : Int) ∧ Hid (M.prodL (T.take k) = p) ∧ ws = wr) (fun _ qk _ => i - (intOf qk).toNat)
              case atStart => exact ⟨0, 1, Nat.zero_le _, rfl, rfl, hst, rfl⟩
              case round =>
                obtain ⟨k, p, hk, rfl, rfl, hp, rfl⟩ := hrel
                clear hst
                by_cases hki : k < i
                · have hkii : (k : Int) < (i : Int) := by omega
                  obtain ⟨g1, rfl⟩ := two_head hT.out (by omega)
                  obtain ⟨x, hx⟩ : ∃ x, T[k]? = some x := ⟨_, List.getElem?_eq_getElem (by rw [hTl2.out]; exact hki)⟩
                  obtain ⟨p1, p2, p3, p4⟩ := own64_cell hT.out.1 ((M.ints_len T).trans hTl2.out) (M.ints_at hx)
                  obtain ⟨r, hr⟩ : ∃ r, Hid (p * x = r) := ⟨_, rfl⟩
                  have hs : Hid (M.prodL (T.take (k + 1)) = r) := by show _ = _; rw [M.prodL_take_succ hx, hp.out, hr.out]
                  have hrF : r ≤ F := by
                    rw [← hs.out]
                    exact Nat.le_trans (M.prodL_take_le hpos.out (k + 1)) hend.out.2
                  have hmul : (p : Int) * (x : Int) = (r : Int) := by rw [← hr.out, Int.natCast_mul]
                  clear hx hp hr hend
                  go_wp2
                  go_roundw
                  case rel => exact ⟨k + 1, r, by omega, by go_num, rfl, hs, trivial⟩
                  case measure => simp [intOf]; omega
                · obtain rfl : k = i := by omega
                  have hkii : ¬ (k : Int) < (k : Int) := by omega
                  have hfin : Hid (Q9 = p) := by
                    show _ = _
                    rw [← hQ9.out, ← hend.out.1, ← hp.out, List.take_of_length_le (by rw [hTl2.out]; exact Nat.le_refl _)]
                  clear hend hp
                  go_wp2
                  go_ret
                  exact ⟨by rw [hfin.out]; rfl, hbr.out⟩
end Go.Proofs.Ytkcldfliiagloaa

/- append of one number to a row of the call's own, with what else is kept: no conditions. -/
namespace Go.Proofs.Ytkcldfliiagloaa
open Go.RowKit

/-- append of one number, with what else is kept -/
theorem push64K {ops : Array Oper} {rest : List Oper} {o : Oper} {a : Act} {Q : Exit → Act → World → Prop} (hgd : o.guard = none) (s x : Operand)
    (ho : o.op = .call { callee := .builtin .append, args := #[s, x], argTypes := #[22, 22] }) (w : World) (B : Nat) (A : Option Addr) (n c : Nat) (zs : List Int) (y : Int)
    (hs : a.eval s = .slice A n c) (N : Nat) (hx : a.eval x = .slice (some ⟨N, 0, none⟩) 1 1) (hN : N = w.heap.size) (hown : Hid (Own64 w B (.slice A n c) zs)) (hB : B ≤ w.heap.size) (hlen : n ≤ 1000000)
    (h : ∀ A' c' w', Hid (Own64 w' B (.slice A' (n + 1) c') (zs ++ [y])) → Hid ((w.alloc (.cells #[.int .i64 y] 2)).grownBy w' (Value.slice A n c).ownBlock) → Hid ((Value.slice A' (n + 1) c').ownBlock = (Value.slice A n c).ownBlock ∨ (Value.slice A' (n + 1) c').ownBlock = some (w.alloc (.cells #[.int .i64 y] 2)).heap.size) → wpList Try.prog ops Q rest (a.put o.dst (.slice A' (n + 1) c')) w') :
    wpList Try.prog ops Q (o :: rest) a (w.alloc (.cells #[.int .i64 y] 2)) := by
  subst hN
  obtain ⟨i0, hi0, hz0, hz1, hz2⟩ := info_parts info64
  have hown := hown.out
  have hn := own64_len hown
  subst hn
  refine wpList_append_own_at _ hgd s x 22 ho B 2 i0 (.int .i64 0) 1 8 Try.underlying22 hi0 hz0 hz1 hz2 rfl (by decide) _ zs.length (zs.map (Value.int .i64)) hs (hown.alloc _) ⟨w.heap.size, 0, none⟩ 1 1 [.int .i64 y] hx rfl ?_ ?_ ?_ ?_ ?_ ?_
  · intro j u hj
    match j, hj with
    | 0, hj => simp at hj; subst hj; simp [Addr.add]
  · intro u hu; simp at hu; subst hu; rfl
  · unfold maxLen; omega
  · omega
  · simp; omega
  · intro v' w1 hown1 hg1 _ hwh
    obtain ⟨A, c, rfl⟩ : ∃ A c, v' = .slice A (zs.length + 1) c := own_shape hown1
    refine h A c w1 ?_ hg1 hwh
    have e : (zs ++ [y]).length = zs.length + 1 := by simp
    show Own64 _ _ _ _
    unfold Own64
    rw [e]
    simpa using hown1

end Go.Proofs.Ytkcldfliiagloaa

/- l09Next: the nodes that can come next, as the model finds them. Written by genn.py. -/
namespace Go.Proofs.Ytkcldfliiagloaa
open Go.RowKit

set_option maxHeartbeats 8000000 in
set_option maxRecDepth 100000 in
theorem l09Next (A A2 : Option Addr) (xs b : List Int) (n c L c2 : Nat) (w : World) (hn : Hid (xs.length = n)) (ht : Hid (M.isTree xs = true)) (hbg : Hid (M.Bgn n (M.parents xs) b)) (hL : Hid (b.length = L)) (h : Ints w w.heap.size A xs) (h2 : Ints w w.heap.size A2 b) :
    Calls Try.prog 86 #[.agg #[.slice A n c], .slice A2 L c2] w fun e w' => ∃ A' m c', e = .returned (.slice A' m c') ∧ Own64 w' w.heap.size (.slice A' m c') (M.rdyTo (M.parents xs) b n) ∧ Below w.heap.size w w' := by
  have hxl := M.tree_len ht.out
  rw [hn.out] at hxl
  have h24 := hxl.2
  have h1 := hxl.1
  have hLn : L ≤ n := by rw [← hL.out]; exact M.bgn_len hbg.out
  have hmk := fun W => run_make_row' (P := Try.prog) (w := W) 91 4 (.bool false) 1 Try.underlying91 infoB rfl .i64 .i64 n (by omega) (by omega)
  have cT0 : Hid ((w.alloc (.cells #[.slice A n c] 28)).cell? ⟨w.heap.size, 0, none⟩ = some (.slice A n c)) := by simp [Hid, go_sem]
  have hB0 := Lib.hid (bal (b0 w) (.cells #[.slice A n c] 28))
  have H1 := Lib.hid (h.al (.cells #[.slice A n c] 28))
  have H2 := Lib.hid h2
  have hzW : w.heap.size < (w.alloc (.cells #[.slice A n c] 28)).heap.size := by simp
  obtain ⟨W, hW⟩ : ∃ W, W = w.alloc (.cells #[.slice A n c] 28) := ⟨_, rfl⟩
  rw [← hW] at cT0 hB0 H1 hzW
  have hP : ∀ X, Hid (Below W.heap.size W X) → Calls Try.prog 103 #[.agg #[.slice A n c]] X fun e w' => ∃ pb c' ps, e = .returned (.slice (some ⟨pb, 0, none⟩) n c') ∧ Hid (M.ParsOK xs ps) ∧ Hid (Own64 w' X.heap.size (.slice (some ⟨pb, 0, none⟩) n c') ps) ∧ X.heap.size ≤ pb ∧ pb < w'.heap.size ∧ Below X.heap.size X w' := fun X hX => by
    have := l01Parents A xs c X ht (H1.out.be hX.out)
    rw [hn.out] at this
    refine this.mono fun e w' ⟨A', c', ps, he, hk, ho, hb⟩ => ?_
    have hpl : ps.length = n := by rw [hk.out.1, hn.out]
    obtain ⟨pb, rfl⟩ : ∃ pb, A' = some ⟨pb, 0, none⟩ := by
      rcases ho.2 with ⟨q1, q2⟩ | ⟨pb, cap, cur, hv, _⟩
      · rw [hpl] at q2; omega
      · injection hv with q1; exact ⟨pb, q1⟩
    have hlt := World.ownsRow.lt ho pb rfl
    exact ⟨pb, c', ps, he, hk, ho, hlt.1, hlt.2, hb⟩
  have HP := Lib.hid hP
  clear h h2 hxl hP
  go_enter Try.func86, Try.ntmps86
  go_wp2_with fail
  rw [← hW]
  clear hW
  have B : Hid (Below W.heap.size W W.drew) := (Below.refl _ _).drew
  have u0 : W.drew.cell? ⟨w.heap.size, 0, none⟩ = some (.slice A n c) := cT0.out
  refine wp_region_held_drew (S := (fun w' => w'.cell? ⟨w.heap.size, 0, none⟩ = some (.slice A n c) ∧ Hid (Below W.heap.size W w'))) (by kernel_rfl) (by exact ⟨u0, B⟩) (fun hHeld0 => ?_)
  refine anyTake 0 (some 10) (.agg #[.slice A n c]) rfl rfl (by kernel_rfl) (by kernel_rfl) (by kernel_rfl) (fun _ _ _ h => h) (by rfl) (by intro w hSw; (try dsimp only at hSw); go_simp) (by assumption) ?_
  try simp only [Act.put, List.setIfInBounds_toArray, List.set_cons_zero, List.set_cons_succ]
  refine anyTake 2 (some 12) (.agg #[.slice A n c]) rfl rfl (by kernel_rfl) (by kernel_rfl) (by kernel_rfl) (fun _ _ _ h => h) (by rfl) (by intro w hSw; (try dsimp only at hSw); go_simp) (by assumption) ?_
  try simp only [Act.put, List.setIfInBounds_toArray, List.set_cons_zero, List.set_cons_succ]
  refine wpAnyH_ready (rs := [1, 5]) (by kernel_rfl) (by simp) ?_
  refine AllReadyH.cons rfl (fun K hK => ?_) (AllReadyH.cons rfl (fun K hK => ?_) AllReadyH.nil)
  go_simp
  go_at_call 103
  refine (HP.out _ B).mono ?_
  rintro e x1 ⟨pb, c3, ps, rfl, hok, Hp, hp1, hp2, hb⟩
  go_wp2_with fail
  replace B : Hid (Below W.heap.size W x1) := btr B.out hb
  refine hK.out _ _ (by exact ⟨cell_be cT0.out B.out, B⟩) (fun hHeld => ?_)
  clear hK K
  try simp only [Act.put, List.setIfInBounds_toArray, List.set_cons_zero, List.set_cons_succ]
  replace Hp : Hid (Own64 x1 w.heap.size (.slice (some ⟨pb, 0, none⟩) n c3) ps) := own_mono Hp.out (by have : W.drew.heap.size = W.heap.size := rfl; omega)
  have zX : W.heap.size ≤ x1.heap.size := B.out.size
  have hpX : pb < x1.heap.size := hp2
  clear hp2 hb
  clear hHeld0
  have hHeld0 := hHeld
  clear hHeld
  refine wpAnyH_ready (rs := [3, 5]) (by kernel_rfl) (by simp) ?_
  refine AllReadyH.cons rfl (fun K hK => ?_) (AllReadyH.cons rfl (fun K hK => ?_) AllReadyH.nil)
  go_simp
  go_at_call 96
  refine (l01N A n c _).mono ?_
  rintro e x2 ⟨rfl, hb⟩
  go_wp2_with fail
  replace B : Hid (Below W.heap.size W x2) := btr B.out hb
  refine hK.out _ _ (by exact ⟨cell_be cT0.out B.out, B⟩) (fun hHeld => ?_)
  clear hK K
  try simp only [Act.put, List.setIfInBounds_toArray, List.set_cons_zero, List.set_cons_succ]
  replace Hp : Hid (Own64 x2 w.heap.size (.slice (some ⟨pb, 0, none⟩) n c3) ps) := own_be Hp.out hb
  replace zX : W.heap.size ≤ x2.heap.size := B.out.size
  replace hpX : pb < x2.heap.size := by have := hb.size; omega
  clear hb
  clear hHeld0
  have hHeld0 := hHeld
  clear hHeld
  refine anyTake 6 (some 5) (.slice (some ⟨pb, 0, none⟩) n c3) rfl rfl (by kernel_rfl) (by kernel_rfl) (by kernel_rfl) (fun _ _ _ h => h) (by rfl) (by intro w hSw; (try dsimp only at hSw); go_simp) (by assumption) ?_
  try simp only [Act.put, List.setIfInBounds_toArray, List.set_cons_zero, List.set_cons_succ]
  refine wpAnyH_ready (rs := [4, 5]) (by kernel_rfl) (by simp) ?_
  refine AllReadyH.cons rfl (fun K hK => ?_) (AllReadyH.cons rfl (fun K hK => ?_) AllReadyH.nil)
  have hmkX := hmk x2
  go_simp
  have hb := bal (b0 (x2)) (.cells (madeCells #[.bool false] n) 4)
  replace B : Hid (Below W.heap.size W ((x2).alloc (.cells (madeCells #[.bool false] n) 4))) := bal B.out _
  refine hK.out _ _ (by exact ⟨cell_be cT0.out B.out, B⟩) (fun hHeld => ?_)
  clear hK K
  try simp only [Act.put, List.setIfInBounds_toArray, List.set_cons_zero, List.set_cons_succ]
  have Hm : Hid (OwnB ((x2).alloc (.cells (madeCells #[.bool false] n) 4)) w.heap.size (.slice (some ⟨(x2).heap.size, 0, none⟩) n n) (List.replicate n false)) := ownB_made (by omega) (by unfold maxLen; omega)
  clear hmkX
  replace Hp : Hid (Own64 ((x2).alloc (.cells (madeCells #[.bool false] n) 4)) w.heap.size (.slice (some ⟨pb, 0, none⟩) n c3) ps) := own_be Hp.out hb
  have hsz : ((x2).alloc (.cells (madeCells #[.bool false] n) 4)).heap.size = (x2).heap.size + 1 := by simp
  obtain ⟨g, hg⟩ : ∃ g, (x2).heap.size = g := ⟨_, rfl⟩
  rw [hg] at Hm ⊢
  have hgX : g < ((x2).alloc (.cells (madeCells #[.bool false] n) 4)).heap.size := by omega
  have hpg' : pb < g := by omega
  have hWg : W.heap.size ≤ g := by omega
  replace hpX : pb < ((x2).alloc (.cells (madeCells #[.bool false] n) 4)).heap.size := by omega
  replace zX : W.heap.size ≤ ((x2).alloc (.cells (madeCells #[.bool false] n) 4)).heap.size := B.out.size
  clear hb hsz hg
  generalize ((x2).alloc (.cells (madeCells #[.bool false] n) 4)) = x3 at *
  clear hHeld0
  have hHeld0 := hHeld
  clear hHeld
  refine anyTake 7 (some 6) (.slice (some ⟨g, 0, none⟩) n n) rfl rfl (by kernel_rfl) (by kernel_rfl) (by kernel_rfl) (fun _ _ _ h => h) (by rfl) (by intro w hSw; (try dsimp only at hSw); go_simp) (by assumption) ?_
  try simp only [Act.put, List.setIfInBounds_toArray, List.set_cons_zero, List.set_cons_succ]
  refine wpAnyH_ready (rs := [5]) (by kernel_rfl) (by simp) ?_
  refine AllReadyH.cons rfl (fun K hK => ?_) AllReadyH.nil
  go_simp
  have hb := bal (b0 (x3)) (.cells #[] 2)
  replace B : Hid (Below W.heap.size W ((x3).alloc (.cells #[] 2))) := bal B.out _
  refine hK.out _ _ (by exact ⟨cell_be cT0.out B.out, B⟩) (fun hHeld => ?_)
  clear hK K
  try simp only [Act.put, List.setIfInBounds_toArray, List.set_cons_zero, List.set_cons_succ]
  have Ho : Hid (Own64 ((x3).alloc (.cells #[] 2)) w.heap.size (.slice (some ⟨(x3).heap.size, 0, none⟩) 0 0) []) := own64_empty (by omega)
  replace Hm : Hid (OwnB ((x3).alloc (.cells #[] 2)) w.heap.size (.slice (some ⟨g, 0, none⟩) n n) (List.replicate n false)) := own_be Hm.out hb
  replace Hp : Hid (Own64 ((x3).alloc (.cells #[] 2)) w.heap.size (.slice (some ⟨pb, 0, none⟩) n c3) ps) := own_be Hp.out hb
  have hsz : ((x3).alloc (.cells #[] 2)).heap.size = (x3).heap.size + 1 := by simp
  obtain ⟨o, ho⟩ : ∃ g, (x3).heap.size = g := ⟨_, rfl⟩
  rw [ho] at Ho ⊢
  have hoX : o < ((x3).alloc (.cells #[] 2)).heap.size := by omega
  have hWo : W.heap.size ≤ o := by omega
  have hog : g < o := by omega
  replace hgX : g < ((x3).alloc (.cells #[] 2)).heap.size := by omega
  have hopb : pb < o := by omega
  replace hpX : pb < ((x3).alloc (.cells #[] 2)).heap.size := by omega
  replace zX : W.heap.size ≤ ((x3).alloc (.cells #[] 2)).heap.size := B.out.size
  clear hb hsz ho
  generalize ((x3).alloc (.cells #[] 2)) = x4 at *
  clear hHeld0
  have hHeld0 := hHeld
  clear hHeld
  refine anyTake 8 (some 7) (.slice (some ⟨o, 0, none⟩) 0 0) rfl rfl (by kernel_rfl) (by kernel_rfl) (by kernel_rfl) (fun _ _ _ h => h) (by rfl) (by intro w hSw; (try dsimp only at hSw); go_simp) (by assumption) ?_
  try simp only [Act.put, List.setIfInBounds_toArray, List.set_cons_zero, List.set_cons_succ]
  refine wpAnyH_done (by kernel_rfl) ?_ _
  obtain ⟨X, hX⟩ : ∃ X, X = x4 := ⟨_, rfl⟩
  subst hX
  clear hHeld0
  rotate_left 1
  go_simp
  have hb := bal (b0 (x2)) (.cells #[] 2)
  replace B : Hid (Below W.heap.size W ((x2).alloc (.cells #[] 2))) := bal B.out _
  refine hK.out _ _ (by exact ⟨cell_be cT0.out B.out, B⟩) (fun hHeld => ?_)
  clear hK K
  try simp only [Act.put, List.setIfInBounds_toArray, List.set_cons_zero, List.set_cons_succ]
  have Ho : Hid (Own64 ((x2).alloc (.cells #[] 2)) w.heap.size (.slice (some ⟨(x2).heap.size, 0, none⟩) 0 0) []) := own64_empty (by omega)
  replace Hp : Hid (Own64 ((x2).alloc (.cells #[] 2)) w.heap.size (.slice (some ⟨pb, 0, none⟩) n c3) ps) := own_be Hp.out hb
  have hsz : ((x2).alloc (.cells #[] 2)).heap.size = (x2).heap.size + 1 := by simp
  obtain ⟨o, ho⟩ : ∃ g, (x2).heap.size = g := ⟨_, rfl⟩
  rw [ho] at Ho ⊢
  have hoX : o < ((x2).alloc (.cells #[] 2)).heap.size := by omega
  have hWo : W.heap.size ≤ o := by omega
  have hopb : pb < o := by omega
  replace hpX : pb < ((x2).alloc (.cells #[] 2)).heap.size := by omega
  replace zX : W.heap.size ≤ ((x2).alloc (.cells #[] 2)).heap.size := B.out.size
  clear hb hsz ho
  generalize ((x2).alloc (.cells #[] 2)) = x5 at *
  clear hHeld0
  have hHeld0 := hHeld
  clear hHeld
  refine wpAnyH_ready (rs := [4]) (by kernel_rfl) (by simp) ?_
  refine AllReadyH.cons rfl (fun K hK => ?_) AllReadyH.nil
  have hmkX := hmk x5
  go_simp
  have hb := bal (b0 (x5)) (.cells (madeCells #[.bool false] n) 4)
  replace B : Hid (Below W.heap.size W ((x5).alloc (.cells (madeCells #[.bool false] n) 4))) := bal B.out _
  refine hK.out _ _ (by exact ⟨cell_be cT0.out B.out, B⟩) (fun hHeld => ?_)
  clear hK K
  try simp only [Act.put, List.setIfInBounds_toArray, List.set_cons_zero, List.set_cons_succ]
  have Hm : Hid (OwnB ((x5).alloc (.cells (madeCells #[.bool false] n) 4)) w.heap.size (.slice (some ⟨(x5).heap.size, 0, none⟩) n n) (List.replicate n false)) := ownB_made (by omega) (by unfold maxLen; omega)
  clear hmkX
  replace Ho : Hid (Own64 ((x5).alloc (.cells (madeCells #[.bool false] n) 4)) w.heap.size (.slice (some ⟨o, 0, none⟩) 0 0) []) := own_be Ho.out hb
  replace Hp : Hid (Own64 ((x5).alloc (.cells (madeCells #[.bool false] n) 4)) w.heap.size (.slice (some ⟨pb, 0, none⟩) n c3) ps) := own_be Hp.out hb
  have hsz : ((x5).alloc (.cells (madeCells #[.bool false] n) 4)).heap.size = (x5).heap.size + 1 := by simp
  obtain ⟨g, hg⟩ : ∃ g, (x5).heap.size = g := ⟨_, rfl⟩
  rw [hg] at Hm ⊢
  have hgX : g < ((x5).alloc (.cells (madeCells #[.bool false] n) 4)).heap.size := by omega
  have hpg' : pb < g := by omega
  have hWg : W.heap.size ≤ g := by omega
  have hog : o < g := by omega
  replace hoX : o < ((x5).alloc (.cells (madeCells #[.bool false] n) 4)).heap.size := by omega
  replace hpX : pb < ((x5).alloc (.cells (madeCells #[.bool false] n) 4)).heap.size := by omega
  replace zX : W.heap.size ≤ ((x5).alloc (.cells (madeCells #[.bool false] n) 4)).heap.size := B.out.size
  clear hb hsz hg
  generalize ((x5).alloc (.cells (madeCells #[.bool false] n) 4)) = x6 at *
  clear hHeld0
  have hHeld0 := hHeld
  clear hHeld
  refine anyTake 7 (some 6) (.slice (some ⟨g, 0, none⟩) n n) rfl rfl (by kernel_rfl) (by kernel_rfl) (by kernel_rfl) (fun _ _ _ h => h) (by rfl) (by intro w hSw; (try dsimp only at hSw); go_simp) (by assumption) ?_
  try simp only [Act.put, List.setIfInBounds_toArray, List.set_cons_zero, List.set_cons_succ]
  refine anyTake 8 (some 7) (.slice (some ⟨o, 0, none⟩) 0 0) rfl rfl (by kernel_rfl) (by kernel_rfl) (by kernel_rfl) (fun _ _ _ h => h) (by rfl) (by intro w hSw; (try dsimp only at hSw); go_simp) (by assumption) ?_
  try simp only [Act.put, List.setIfInBounds_toArray, List.set_cons_zero, List.set_cons_succ]
  refine wpAnyH_done (by kernel_rfl) ?_ _
  obtain ⟨X, hX⟩ : ∃ X, X = x6 := ⟨_, rfl⟩
  subst hX
  clear hHeld0
  rotate_left 1
  go_simp
  have hb := bal (b0 (x1)) (.cells #[] 2)
  replace B : Hid (Below W.heap.size W ((x1).alloc (.cells #[] 2))) := bal B.out _
  refine hK.out _ _ (by exact ⟨cell_be cT0.out B.out, B⟩) (fun hHeld => ?_)
  clear hK K
  try simp only [Act.put, List.setIfInBounds_toArray, List.set_cons_zero, List.set_cons_succ]
  have Ho : Hid (Own64 ((x1).alloc (.cells #[] 2)) w.heap.size (.slice (some ⟨(x1).heap.size, 0, none⟩) 0 0) []) := own64_empty (by omega)
  replace Hp : Hid (Own64 ((x1).alloc (.cells #[] 2)) w.heap.size (.slice (some ⟨pb, 0, none⟩) n c3) ps) := own_be Hp.out hb
  have hsz : ((x1).alloc (.cells #[] 2)).heap.size = (x1).heap.size + 1 := by simp
  obtain ⟨o, ho⟩ : ∃ g, (x1).heap.size = g := ⟨_, rfl⟩
  rw [ho] at Ho ⊢
  have hoX : o < ((x1).alloc (.cells #[] 2)).heap.size := by omega
  have hWo : W.heap.size ≤ o := by omega
  have hopb : pb < o := by omega
  replace hpX : pb < ((x1).alloc (.cells #[] 2)).heap.size := by omega
  replace zX : W.heap.size ≤ ((x1).alloc (.cells #[] 2)).heap.size := B.out.size
  clear hb hsz ho
  generalize ((x1).alloc (.cells #[] 2)) = x7 at *
  clear hHeld0
  have hHeld0 := hHeld
  clear hHeld
  refine wpAnyH_ready (rs := [3]) (by kernel_rfl) (by simp) ?_
  refine AllReadyH.cons rfl (fun K hK => ?_) AllReadyH.nil
  go_simp
  go_at_call 96
  refine (l01N A n c _).mono ?_
  rintro e x8 ⟨rfl, hb⟩
  go_wp2_with fail
  replace B : Hid (Below W.heap.size W x8) := btr B.out hb
  refine hK.out _ _ (by exact ⟨cell_be cT0.out B.out, B⟩) (fun hHeld => ?_)
  clear hK K
  try simp only [Act.put, List.setIfInBounds_toArray, List.set_cons_zero, List.set_cons_succ]
  replace Hp : Hid (Own64 x8 w.heap.size (.slice (some ⟨pb, 0, none⟩) n c3) ps) := own_be Hp.out hb
  replace Ho : Hid (Own64 x8 w.heap.size (.slice (some ⟨o, 0, none⟩) 0 0) []) := own_be Ho.out hb
  replace hoX : o < x8.heap.size := by have := hb.size; omega
  replace zX : W.heap.size ≤ x8.heap.size := B.out.size
  replace hpX : pb < x8.heap.size := by have := hb.size; omega
  clear hb
  clear hHeld0
  have hHeld0 := hHeld
  clear hHeld
  refine anyTake 6 (some 5) (.slice (some ⟨pb, 0, none⟩) n c3) rfl rfl (by kernel_rfl) (by kernel_rfl) (by kernel_rfl) (fun _ _ _ h => h) (by rfl) (by intro w hSw; (try dsimp only at hSw); go_simp) (by assumption) ?_
  try simp only [Act.put, List.setIfInBounds_toArray, List.set_cons_zero, List.set_cons_succ]
  refine wpAnyH_ready (rs := [4]) (by kernel_rfl) (by simp) ?_
  refine AllReadyH.cons rfl (fun K hK => ?_) AllReadyH.nil
  have hmkX := hmk x8
  go_simp
  have hb := bal (b0 (x8)) (.cells (madeCells #[.bool false] n) 4)
  replace B : Hid (Below W.heap.size W ((x8).alloc (.cells (madeCells #[.bool false] n) 4))) := bal B.out _
  refine hK.out _ _ (by exact ⟨cell_be cT0.out B.out, B⟩) (fun hHeld => ?_)
  clear hK K
  try simp only [Act.put, List.setIfInBounds_toArray, List.set_cons_zero, List.set_cons_succ]
  have Hm : Hid (OwnB ((x8).alloc (.cells (madeCells #[.bool false] n) 4)) w.heap.size (.slice (some ⟨(x8).heap.size, 0, none⟩) n n) (List.replicate n false)) := ownB_made (by omega) (by unfold maxLen; omega)
  clear hmkX
  replace Ho : Hid (Own64 ((x8).alloc (.cells (madeCells #[.bool false] n) 4)) w.heap.size (.slice (some ⟨o, 0, none⟩) 0 0) []) := own_be Ho.out hb
  replace Hp : Hid (Own64 ((x8).alloc (.cells (madeCells #[.bool false] n) 4)) w.heap.size (.slice (some ⟨pb, 0, none⟩) n c3) ps) := own_be Hp.out hb
  have hsz : ((x8).alloc (.cells (madeCells #[.bool false] n) 4)).heap.size = (x8).heap.size + 1 := by simp
  obtain ⟨g, hg⟩ : ∃ g, (x8).heap.size = g := ⟨_, rfl⟩
  rw [hg] at Hm ⊢
  have hgX : g < ((x8).alloc (.cells (madeCells #[.bool false] n) 4)).heap.size := by omega
  have hpg' : pb < g := by omega
  have hWg : W.heap.size ≤ g := by omega
  have hog : o < g := by omega
  replace hoX : o < ((x8).alloc (.cells (madeCells #[.bool false] n) 4)).heap.size := by omega
  replace hpX : pb < ((x8).alloc (.cells (madeCells #[.bool false] n) 4)).heap.size := by omega
  replace zX : W.heap.size ≤ ((x8).alloc (.cells (madeCells #[.bool false] n) 4)).heap.size := B.out.size
  clear hb hsz hg
  generalize ((x8).alloc (.cells (madeCells #[.bool false] n) 4)) = x9 at *
  clear hHeld0
  have hHeld0 := hHeld
  clear hHeld
  refine anyTake 7 (some 6) (.slice (some ⟨g, 0, none⟩) n n) rfl rfl (by kernel_rfl) (by kernel_rfl) (by kernel_rfl) (fun _ _ _ h => h) (by rfl) (by intro w hSw; (try dsimp only at hSw); go_simp) (by assumption) ?_
  try simp only [Act.put, List.setIfInBounds_toArray, List.set_cons_zero, List.set_cons_succ]
  refine anyTake 8 (some 7) (.slice (some ⟨o, 0, none⟩) 0 0) rfl rfl (by kernel_rfl) (by kernel_rfl) (by kernel_rfl) (fun _ _ _ h => h) (by rfl) (by intro w hSw; (try dsimp only at hSw); go_simp) (by assumption) ?_
  try simp only [Act.put, List.setIfInBounds_toArray, List.set_cons_zero, List.set_cons_succ]
  refine wpAnyH_done (by kernel_rfl) ?_ _
  obtain ⟨X, hX⟩ : ∃ X, X = x9 := ⟨_, rfl⟩
  subst hX
  clear hHeld0
  rotate_left 1
  go_simp
  have hb := bal (b0 (W.drew)) (.cells #[] 2)
  replace B : Hid (Below W.heap.size W ((W.alloc (.cells #[] 2)).drew)) := bal B.out _
  refine hK.out _ _ (by exact ⟨cell_be cT0.out B.out, B⟩) (fun hHeld => ?_)
  clear hK K
  try simp only [Act.put, List.setIfInBounds_toArray, List.set_cons_zero, List.set_cons_succ]
  have Ho : Hid (Own64 ((W.alloc (.cells #[] 2)).drew) w.heap.size (.slice (some ⟨W.heap.size, 0, none⟩) 0 0) []) := own64_empty (by have : W.drew.heap.size = W.heap.size := rfl; omega)
  have hsz : ((W.alloc (.cells #[] 2)).drew).heap.size = W.heap.size + 1 := by simp
  have hoX : W.heap.size < ((W.alloc (.cells #[] 2)).drew).heap.size := by omega
  have hWo : W.heap.size ≤ W.heap.size := by omega
  have zX : W.heap.size ≤ ((W.alloc (.cells #[] 2)).drew).heap.size := B.out.size
  clear hb hsz
  generalize ((W.alloc (.cells #[] 2)).drew) = x10 at *
  clear hHeld0
  have hHeld0 := hHeld
  clear hHeld
  refine wpAnyH_ready (rs := [1]) (by kernel_rfl) (by simp) ?_
  refine AllReadyH.cons rfl (fun K hK => ?_) AllReadyH.nil
  go_simp
  go_at_call 103
  refine (HP.out _ B).mono ?_
  rintro e x11 ⟨pb, c3, ps, rfl, hok, Hp, hp1, hp2, hb⟩
  go_wp2_with fail
  replace B : Hid (Below W.heap.size W x11) := btr B.out hb
  refine hK.out _ _ (by exact ⟨cell_be cT0.out B.out, B⟩) (fun hHeld => ?_)
  clear hK K
  try simp only [Act.put, List.setIfInBounds_toArray, List.set_cons_zero, List.set_cons_succ]
  replace Hp : Hid (Own64 x11 w.heap.size (.slice (some ⟨pb, 0, none⟩) n c3) ps) := own_mono Hp.out (by have := zX; omega)
  replace Ho : Hid (Own64 x11 w.heap.size (.slice (some ⟨W.heap.size, 0, none⟩) 0 0) []) := own_be Ho.out hb
  have hopb : W.heap.size < pb := by omega
  replace hoX : W.heap.size < x11.heap.size := by have := hb.size; omega
  have zX : W.heap.size ≤ x11.heap.size := B.out.size
  have hpX : pb < x11.heap.size := hp2
  clear hp2 hb
  clear hHeld0
  have hHeld0 := hHeld
  clear hHeld
  refine wpAnyH_ready (rs := [3]) (by kernel_rfl) (by simp) ?_
  refine AllReadyH.cons rfl (fun K hK => ?_) AllReadyH.nil
  go_simp
  go_at_call 96
  refine (l01N A n c _).mono ?_
  rintro e x12 ⟨rfl, hb⟩
  go_wp2_with fail
  replace B : Hid (Below W.heap.size W x12) := btr B.out hb
  refine hK.out _ _ (by exact ⟨cell_be cT0.out B.out, B⟩) (fun hHeld => ?_)
  clear hK K
  try simp only [Act.put, List.setIfInBounds_toArray, List.set_cons_zero, List.set_cons_succ]
  replace Hp : Hid (Own64 x12 w.heap.size (.slice (some ⟨pb, 0, none⟩) n c3) ps) := own_be Hp.out hb
  replace Ho : Hid (Own64 x12 w.heap.size (.slice (some ⟨W.heap.size, 0, none⟩) 0 0) []) := own_be Ho.out hb
  replace hoX : W.heap.size < x12.heap.size := by have := hb.size; omega
  replace zX : W.heap.size ≤ x12.heap.size := B.out.size
  replace hpX : pb < x12.heap.size := by have := hb.size; omega
  clear hb
  clear hHeld0
  have hHeld0 := hHeld
  clear hHeld
  refine anyTake 6 (some 5) (.slice (some ⟨pb, 0, none⟩) n c3) rfl rfl (by kernel_rfl) (by kernel_rfl) (by kernel_rfl) (fun _ _ _ h => h) (by rfl) (by intro w hSw; (try dsimp only at hSw); go_simp) (by assumption) ?_
  try simp only [Act.put, List.setIfInBounds_toArray, List.set_cons_zero, List.set_cons_succ]
  refine wpAnyH_ready (rs := [4]) (by kernel_rfl) (by simp) ?_
  refine AllReadyH.cons rfl (fun K hK => ?_) AllReadyH.nil
  have hmkX := hmk x12
  go_simp
  have hb := bal (b0 (x12)) (.cells (madeCells #[.bool false] n) 4)
  replace B : Hid (Below W.heap.size W ((x12).alloc (.cells (madeCells #[.bool false] n) 4))) := bal B.out _
  refine hK.out _ _ (by exact ⟨cell_be cT0.out B.out, B⟩) (fun hHeld => ?_)
  clear hK K
  try simp only [Act.put, List.setIfInBounds_toArray, List.set_cons_zero, List.set_cons_succ]
  have Hm : Hid (OwnB ((x12).alloc (.cells (madeCells #[.bool false] n) 4)) w.heap.size (.slice (some ⟨(x12).heap.size, 0, none⟩) n n) (List.replicate n false)) := ownB_made (by omega) (by unfold maxLen; omega)
  clear hmkX
  replace Ho : Hid (Own64 ((x12).alloc (.cells (madeCells #[.bool false] n) 4)) w.heap.size (.slice (some ⟨W.heap.size, 0, none⟩) 0 0) []) := own_be Ho.out hb
  replace Hp : Hid (Own64 ((x12).alloc (.cells (madeCells #[.bool false] n) 4)) w.heap.size (.slice (some ⟨pb, 0, none⟩) n c3) ps) := own_be Hp.out hb
  have hsz : ((x12).alloc (.cells (madeCells #[.bool false] n) 4)).heap.size = (x12).heap.size + 1 := by simp
  obtain ⟨g, hg⟩ : ∃ g, (x12).heap.size = g := ⟨_, rfl⟩
  rw [hg] at Hm ⊢
  have hgX : g < ((x12).alloc (.cells (madeCells #[.bool false] n) 4)).heap.size := by omega
  have hpg' : pb < g := by omega
  have hWg : W.heap.size ≤ g := by omega
  have hog : W.heap.size < g := by omega
  replace hoX : W.heap.size < ((x12).alloc (.cells (madeCells #[.bool false] n) 4)).heap.size := by omega
  replace hpX : pb < ((x12).alloc (.cells (madeCells #[.bool false] n) 4)).heap.size := by omega
  replace zX : W.heap.size ≤ ((x12).alloc (.cells (madeCells #[.bool false] n) 4)).heap.size := B.out.size
  clear hb hsz hg
  generalize ((x12).alloc (.cells (madeCells #[.bool false] n) 4)) = x13 at *
  clear hHeld0
  have hHeld0 := hHeld
  clear hHeld
  refine anyTake 7 (some 6) (.slice (some ⟨g, 0, none⟩) n n) rfl rfl (by kernel_rfl) (by kernel_rfl) (by kernel_rfl) (fun _ _ _ h => h) (by rfl) (by intro w hSw; (try dsimp only at hSw); go_simp) (by assumption) ?_
  try simp only [Act.put, List.setIfInBounds_toArray, List.set_cons_zero, List.set_cons_succ]
  refine anyTake 8 (some 7) (.slice (some ⟨W.heap.size, 0, none⟩) 0 0) rfl rfl (by kernel_rfl) (by kernel_rfl) (by kernel_rfl) (fun _ _ _ h => h) (by rfl) (by intro w hSw; (try dsimp only at hSw); go_simp) (by assumption) ?_
  try simp only [Act.put, List.setIfInBounds_toArray, List.set_cons_zero, List.set_cons_succ]
  refine wpAnyH_done (by kernel_rfl) ?_ _
  obtain ⟨X, hX⟩ : ∃ X, X = x13 := ⟨_, rfl⟩
  subst hX
  clear hHeld0
  obtain ⟨o, hoE⟩ : ∃ o, o = W.heap.size := ⟨_, rfl⟩
  rw [← hoE] at Ho hopb hog hoX ⊢
  replace hWo : W.heap.size ≤ o := by omega
  clear hoE
  rotate_left 1
  all_goals
    have hpar := Lib.hid (M.parents_of ht.out hok.out)
    rw [hn.out] at hpar
    have hps := Lib.hid (M.parents_eq ht.out hok.out)
    have hpl : Hid (ps.length = n) := by show _ = _; rw [hok.out.1, hn.out]
    rw [hps.out] at hbg
    rw [show List.replicate n false = M.metRow n b 0 from (M.metRow_zero n b).symm] at Hm
    have hBX := Lib.hid (btr hB0.out B.out)
    have hcT := Lib.hid (cell_be cT0.out B.out)
    have hgo : g ≠ o := by omega
    have hpo : pb ≠ o := by omega
    have hpg : pb ≠ g := by omega
    have hwo : w.heap.size < o := by omega
    have hwg : w.heap.size < g := by omega
    have Ho1 := Lib.hid (own_mono (base' := w.heap.size) Ho.out (by omega))
    have hzX := hBX.out.size
    clear cT0 hB0 HP u0 B hok hmk Ho
    go_wp2
    -- the first loop: which are there
    go_loopw [8] (fun qi wr => ∃ (k : Nat), k ≤ L ∧ qi = .int .i64 (k : Int) ∧ Hid (OwnB wr w.heap.size (.slice (some ⟨g, 0, none⟩) n n) (M.metRow n b k)) ∧ Hid (Own64 wr w.heap.size (.slice (some ⟨pb, 0, none⟩) n c3) ps) ∧ Hid (Own64 wr w.heap.size (.slice (some ⟨o, 0, none⟩) 0 0) []) ∧ Hid (wr.cell? ⟨w.heap.size, 0, none⟩ = some (.slice A n c)) ∧ Hid (Below w.heap.size w wr)) (fun qi _ => L - (intOf qi).toNat)
    case atStart => exact ⟨0, Nat.zero_le _, rfl, Hm, Hp, Ho1, hcT, hBX⟩
    case round =>
      obtain ⟨k, hk, rfl, hm, hp, ho, hc, hbr⟩ := hrel
      clear Hm Hp Ho1 hcT hBX
      by_cases hlt : k < L
      · obtain ⟨ob, off, x, rfl, hbl, g1, hX⟩ := (H2.out.below hbr.out (Nat.le_refl _)).at_ (k := k) (by rw [hL.out]; exact hlt)
        have hx := hbg.out.2.1 x (List.mem_of_getElem? hX.out)
        obtain ⟨v, rfl⟩ := Int.eq_ofNat_of_zero_le hx.1
        have hvn : v < n := by omega
        have hki : (k : Int) < (L : Int) := by omega
        have hk0 : (0 : Int) ≤ (k : Int) := by omega
        have hv0 : (0 : Int) ≤ (v : Int) := by omega
        have hvi : (v : Int) < (n : Int) := by omega
        have hmv := M.metRow_at (l := b) (k := k) hvn
        obtain ⟨m1, m2, _, hgl⟩ := ownB_cell hm.out (M.metRow_len n b k) hmv
        have hms := Lib.hid (M.metRow_step (n := n) hX.out)
        have hset := Lib.hid (ownB_set hm.out (M.metRow_len n b k) v true)
        rw [hms.out] at hset
        have hp2 : Hid (Own64 (wr.setCell ⟨g, v, none⟩ (.bool true)) w.heap.size (.slice (some ⟨pb, 0, none⟩) n c3) ps) := ownsRow_setCell_other hp.out (a := ⟨g, v, none⟩) (fun e => by injection e with e; exact hpg e) _
        have ho2 : Hid (Own64 (wr.setCell ⟨g, v, none⟩ (.bool true)) w.heap.size (.slice (some ⟨o, 0, none⟩) 0 0) []) := ownsRow_setCell_other ho.out (a := ⟨g, v, none⟩) (fun e => by injection e with e; exact hgo e.symm) _
        have hc2 := Lib.hid ((World.cell?_setCell_other wr (a := ⟨g, v, none⟩) (b := ⟨w.heap.size, 0, none⟩) (v := .bool true) (by intro e; injection e with e1; omega)).trans hc.out)
        have hb2 := Lib.hid (below_setCell hbr.out (Nat.le_of_lt hwg) (k := v) (.bool true))
        clear hm hp ho hc hmv hms hX
        go_wp2
        go_roundw
        case rel => exact ⟨k + 1, by omega, by go_num, hset, hp2, ho2, hc2, hb2⟩
        case measure => simp [intOf]; omega
      · obtain rfl : k = L := by omega
        have hge : ¬ (k : Int) < (k : Int) := by omega
        have hst : Hid (Own64 wr w.heap.size (.slice (some ⟨o, 0, none⟩) 0 0) (M.rdyTo ps b 0)) := ho
        have hcl : Hid (∀ q, (Value.slice (some ⟨o, 0, none⟩) 0 0).ownBlock = some q → q ≠ g ∧ q ≠ pb ∧ w.heap.size < q) := fun q hq => by injection hq with hq; have hq' : o = q := hq; omega
        have hgX : g < wr.heap.size := (ownB_cell hm.out (M.metRow_len n b k) (M.metRow_at (l := b) (k := k) h1)).2.2.2
        have hpX : pb < wr.heap.size := (World.ownsRow.lt hp.out pb rfl).2
        have Hge := Lib.hid hge
        clear ho hlt hk
        go_wp2
        go_loopw [7, 9] (fun q i ws => ∃ (j m : Nat) (A' : Option Addr) (c' : Nat), j ≤ n ∧ i = .int .i64 (j : Int) ∧ q = .slice A' m c' ∧ Hid (Own64 ws w.heap.size (.slice A' m c') (M.rdyTo ps b j)) ∧ Hid (∀ q, (Value.slice A' m c').ownBlock = some q → q ≠ g ∧ q ≠ pb ∧ w.heap.size < q) ∧ Hid (OwnB ws w.heap.size (.slice (some ⟨g, 0, none⟩) n n) (M.metRow n b k)) ∧ Hid (Own64 ws w.heap.size (.slice (some ⟨pb, 0, none⟩) n c3) ps) ∧ Hid (ws.cell? ⟨w.heap.size, 0, none⟩ = some (.slice A n c)) ∧ Hid (Below w.heap.size w ws)) (fun _ i _ => n - (intOf i).toNat)
        case atStart => exact ⟨0, 0, _, 0, Nat.zero_le _, rfl, rfl, hst, hcl, hm, hp, hc, hbr⟩
        case round =>
          obtain ⟨j, m, A', c', hj, rfl, rfl, hr, hd, hm2, hp2, hc2, hb2⟩ := hrel
          clear hst hcl hm hp hc hbr
          have hml := own64_len hr.out
          have hrl := M.rdyTo_len ps b j
          have hm1 : m ≤ 1000000 := by omega
          have cc := hc2.out
          clear hml hrl
          by_cases hjn : j < n
          · have hji : (j : Int) < (n : Int) := by omega
            have hj0 : (0 : Int) ≤ (j : Int) := by omega
            go_wp2_with fail
            refine (l01N A n c _).mono ?_
            rintro e w7 ⟨rfl, hb7⟩
            have hr7 := Lib.hid (own_be hr.out hb7)
            have hm7 := Lib.hid (own_be hm2.out hb7)
            have hp7 := Lib.hid (own_be hp2.out hb7)
            have hc7 := Lib.hid (cell_be hc2.out hb7)
            have hb8 := Lib.hid (btr hb2.out hb7)
            have hmj := M.metRow_at (l := b) (k := k) hjn
            obtain ⟨m1, m2, _, hgl⟩ := ownB_cell hm7.out (M.metRow_len n b k) hmj
            have hkb : b.take k = b := by rw [← hL.out, List.take_length]
            rw [hkb] at m1
            have hpj := M.par_at hpar.out hjn
            obtain ⟨n1, n2, _, hpl2⟩ := own64_cell hp7.out hpl.out hpj
            have hgl2 := Lib.hid hgl
            clear hr hm2 hp2 hc2 hb2 hb7 cc hmj hkb hpj
            by_cases hjb : (j : Int) ∈ b
            · rw [decide_eq_true hjb] at m1
              have hs := M.rdyTo_miss (ps := ps) (b := b) (k := j) (decide_eq_false fun h => h.1 hjb)
              rw [← hs] at hr7
              clear hs hjb
              go_wp2
              go_roundw
              case rel => exact ⟨j + 1, m, A', c', by omega, by go_num, rfl, hr7, hd, hm7, hp7, hc7, hb8⟩
              case measure => simp [intOf]; omega
            · rw [decide_eq_false hjb] at m1
              by_cases hj1 : j = 0
              · subst hj1
                have hs := Lib.hid (M.rdyTo_hit (ps := ps) (b := b) (k := 0) (decide_eq_true ⟨hjb, .inl rfl⟩))
                have hz7 : w.heap.size ≤ w7.heap.size := hb8.out.size
                clear hjb
                go_wp2_with (at_builtin; refine push64K rfl (.tmp 52) (.tmp 54) rfl w7 w.heap.size A' m c' (M.rdyTo ps b 0) ((0 : Nat) : Int) rfl _ rfl rfl hr7 hz7 hm1 ?_; intro A9 c9 w9 ho9 hg9 hq9)
                rw [← hs.out] at ho9
                have hne : ∀ q, (Value.slice A' m c').ownBlock = some q → q ≠ g ∧ q ≠ pb ∧ w.heap.size < q := hd.out
                have hm9 := Lib.hid (((own_be hm7.out (bal (b0 w7) _)).kept hg9.out (.inr (fun e => (hne g e.symm).1 rfl))))
                have hp9 := Lib.hid (((own_be hp7.out (bal (b0 w7) _)).kept hg9.out (.inr (fun e => (hne pb e.symm).2.1 rfl))))
                have hc9 := Lib.hid (cell_grown (cell_al hc7.out _) hg9.out (fun q hq => Nat.ne_of_gt (hne q hq).2.2))
                have hb9 := Lib.hid (below_grown (bal hb8.out _) hg9.out (fun q hq => Nat.le_of_lt (hne q hq).2.2))
                have hz8 : (w7.alloc (.cells #[.int .i64 ((0 : Nat) : Int)] 2)).heap.size = w7.heap.size + 1 := by simp
                have hpz : pb < w7.heap.size := hpl2
                have hd9 : Hid (∀ q, (Value.slice A9 (m + 1) c9).ownBlock = some q → q ≠ g ∧ q ≠ pb ∧ w.heap.size < q) := fun q hq => by
                  rcases hq9.out with e | e
                  · exact hne q (e ▸ hq)
                  · rw [hq] at e
                    injection e with e
                    have := hgl2.out
                    omega
                clear hne
                go_roundw
                case rel => exact ⟨1, m + 1, A9, c9, by omega, by go_num, rfl, ho9, hd9, hm9, hp9, hc9, hb9⟩
                case measure => simp [intOf]; omega
              · obtain ⟨p1, p2⟩ := hpar.out.2.2 j (by omega) hjn
                obtain ⟨u, hu⟩ := Int.eq_ofNat_of_zero_le p1
                rw [hu] at n1 p2
                have hun : u < n := by omega
                have hu0 : (0 : Int) ≤ (u : Int) := by omega
                have hui : (u : Int) < (n : Int) := by omega
                have hj2 : ((j : Int) == 0) = false := by simp; omega
                have hmu := M.metRow_at (l := b) (k := k) hun
                obtain ⟨m3, m4, _, _⟩ := ownB_cell hm7.out (M.metRow_len n b k) hmu
                have hkb : b.take k = b := by rw [← hL.out, List.take_length]
                rw [hkb] at m3
                have Hu := Lib.hid hu
                clear hmu hkb hu p1
                by_cases hub : (u : Int) ∈ b
                · rw [decide_eq_true hub] at m3
                  have hs := Lib.hid (M.rdyTo_hit (ps := ps) (b := b) (k := j) (decide_eq_true ⟨hjb, .inr (by rw [Hu.out]; exact hub)⟩))
                  have hz7 : w.heap.size ≤ w7.heap.size := hb8.out.size
                  clear hjb hub
                  go_wp2_with (at_builtin; refine push64K rfl (.tmp 52) (.tmp 54) rfl w7 w.heap.size A' m c' (M.rdyTo ps b j) (j : Int) rfl _ rfl rfl hr7 hz7 hm1 ?_; intro A9 c9 w9 ho9 hg9 hq9)
                  rw [← hs.out] at ho9
                  have hne : ∀ q, (Value.slice A' m c').ownBlock = some q → q ≠ g ∧ q ≠ pb ∧ w.heap.size < q := hd.out
                  have hm9 := Lib.hid (((own_be hm7.out (bal (b0 w7) _)).kept hg9.out (.inr (fun e => (hne g e.symm).1 rfl))))
                  have hp9 := Lib.hid (((own_be hp7.out (bal (b0 w7) _)).kept hg9.out (.inr (fun e => (hne pb e.symm).2.1 rfl))))
                  have hc9 := Lib.hid (cell_grown (cell_al hc7.out _) hg9.out (fun q hq => Nat.ne_of_gt (hne q hq).2.2))
                  have hb9 := Lib.hid (below_grown (bal hb8.out _) hg9.out (fun q hq => Nat.le_of_lt (hne q hq).2.2))
                  have hz8 : (w7.alloc (.cells #[.int .i64 (j : Int)] 2)).heap.size = w7.heap.size + 1 := by simp
                  have hpz : pb < w7.heap.size := hpl2
                  have hd9 : Hid (∀ q, (Value.slice A9 (m + 1) c9).ownBlock = some q → q ≠ g ∧ q ≠ pb ∧ w.heap.size < q) := fun q hq => by
                    rcases hq9.out with e | e
                    · exact hne q (e ▸ hq)
                    · rw [hq] at e
                      injection e with e
                      have := hgl2.out
                      omega
                  clear hne
                  go_roundw
                  case rel => exact ⟨j + 1, m + 1, A9, c9, by omega, by go_num, rfl, ho9, hd9, hm9, hp9, hc9, hb9⟩
                  case measure => simp [intOf]; omega
                · rw [decide_eq_false hub] at m3
                  have hs := M.rdyTo_miss (ps := ps) (b := b) (k := j) (decide_eq_false fun h => by
                    rcases h.2 with e | e
                    · exact hj1 e
                    · rw [Hu.out] at e; exact hub e)
                  rw [← hs] at hr7
                  clear hs hjb hub
                  go_wp2
                  go_roundw
                  case rel => exact ⟨j + 1, m, A', c', by omega, by go_num, rfl, hr7, hd, hm7, hp7, hc7, hb8⟩
                  case measure => simp [intOf]; omega
          · obtain rfl : j = n := by omega
            have hge2 : ¬ (j : Int) < (j : Int) := by omega
            go_wp2_with fail
            refine (l01N A j c _).mono ?_
            rintro e w7 ⟨rfl, hb7⟩
            have hr7 := Lib.hid (own_be hr.out hb7)
            have hb8 := Lib.hid (btr hb2.out hb7)
            go_wp2
            go_ret
            exact ⟨A', m, c', rfl, by rw [hps.out]; exact hr7.out, hb8.out⟩
end Go.Proofs.Ytkcldfliiagloaa

/- copies of slices: l01Own, slices.Clone, l01Make. -/
namespace Go.Proofs.Ytkcldfliiagloaa
open Go.RowKit

set_option maxHeartbeats 400000 in
theorem l01Own (A : Option Addr) (xs : List Int) (m c : Nat) (w : World) (hm : Hid (xs.length = m)) (hx : m ≤ 1000000) (hz : Hid (A = none → c = 0)) (h : Hid (Ints w w.heap.size A xs)) :
    Calls Try.prog 88 #[.slice A m c] w fun e w' => ∃ A' c', e = .returned (.slice A' m c') ∧ Own64 w' w.heap.size (.slice A' m c') xs ∧ Below w.heap.size w w' := by
  have hs : Hid (Own64 (w.alloc (.cells #[] 2)) w.heap.size (.slice (some ⟨w.heap.size, 0, none⟩) 0 0) []) := own64_empty (Nat.le_refl _)
  have hi : Hid (Ints (w.alloc (.cells #[] 2)) (w.alloc (.cells #[] 2)).heap.size A xs) := h.out.al _
  have hB : w.heap.size ≤ (w.alloc (.cells #[] 2)).heap.size := by simp
  go_enter Try.func88, Try.ntmps88
  go_wp2_with (at_builtin; refine appendInts rfl (.tmp 3) (.tmp 4) rfl _ w.heap.size (some ⟨w.heap.size, 0, none⟩) 0 0 [] A m c xs rfl rfl hs hi hm hz hB (Nat.zero_le _) hx ?_; intro A2 c2 w2 ho2 hb2)
  go_ret
  exact ⟨A2, c2, by simp, by have := ho2.out; simpa using this, ((Below.refl _ _).alloc (Nat.le_refl _) _).trans hb2.out⟩

set_option maxHeartbeats 400000 in
set_option maxRecDepth 100000 in
theorem clone (ad : Addr) (xs : List Int) (m c : Nat) (w : World) (hm : Hid (xs.length = m)) (hx : m ≤ 1000000) (h : Hid (Ints w w.heap.size (some ad) xs)) :
    Calls Try.prog 245 #[.slice (some ad) m c] w fun e w' => ∃ A' c', e = .returned (.slice A' m c') ∧ Own64 w' w.heap.size (.slice A' m c') xs ∧ Below w.heap.size w w' := by
  have hs : Hid (Own64 (w.alloc (.cells #[] 2)) w.heap.size (.slice (some ⟨w.heap.size, 0, none⟩) 0 0) []) := own64_empty (Nat.le_refl _)
  have hi : Hid (Ints (w.alloc (.cells #[] 2)) (w.alloc (.cells #[] 2)).heap.size (some ad) xs) := h.out.al _
  have hB : w.heap.size ≤ (w.alloc (.cells #[] 2)).heap.size := by simp
  have hz : Hid ((some ad : Option Addr) = none → c = 0) := fun e => by cases e
  have heq := fun W => Lib.run_eql_slice_nil (P := Try.prog) W 22 2 (some ad) m c 0 0 Try.underlying22
  go_enter Try.func245, Try.ntmps245
  go_wp2_with (at_builtin; refine appendInts rfl (.tmp 5) (.tmp 6) rfl _ w.heap.size (some ⟨w.heap.size, 0, none⟩) 0 0 [] (some ad) m c xs rfl rfl hs hi hm hz hB (Nat.zero_le _) hx ?_; intro A2 c2 w2 ho2 hb2)
  go_ret
  exact ⟨A2, c2, by simp, by have := ho2.out; simpa using this, ((Below.refl _ _).alloc (Nat.le_refl _) _).trans hb2.out⟩

set_option maxHeartbeats 400000 in
theorem l01Make (A : Option Addr) (xs : List Int) (m c : Nat) (w : World) (hm : Hid (xs.length = m)) (hx : m ≤ 1000000) (hz : Hid (A = none → c = 0)) (h : Hid (Ints w w.heap.size A xs)) :
    Calls Try.prog 274 #[.slice A m c] w fun e w' => ∃ A' c', e = .returned (.agg #[.slice A' m c']) ∧ Own64 w' w.heap.size (.slice A' m c') xs ∧ Below w.heap.size w w' := by
  go_enter Try.func274, Try.ntmps274
  go_wp2_with fail
  refine (l01Own A xs m c _ hm hx hz (h.out.al _)).mono ?_
  rintro e w1 ⟨A', c', rfl, ho, hb⟩
  obtain ⟨hc, hf⟩ := bcell hb
  have hB := btr (bal (b0 w) _) hb
  have Ho := Lib.hid (own_mono (base' := w.heap.size + 1) ho (by simp))
  clear ho
  go_wp2
  refine bodyPost_ret (v := .agg #[.slice A' m c']) (by simp [results, Try.results274, go_sem, hc]) rfl ?_
  exact ⟨A', c', rfl, own_mono (own_far Ho.out (Nat.lt_succ_self _) _) (Nat.le_succ _), below_setCell hB (Nat.le_refl _) _⟩
end Go.Proofs.Ytkcldfliiagloaa

/- GrowingOfRank, the model's. -/
namespace Go.Proofs.Ytkcldfliiagloaa
open Go.RowKit

/-- the length of a slice value -/
def lenV : Value → Nat
  | .slice _ m _ => m
  | _ => 0
theorem lenV_at (A : Option Addr) (m c : Nat) : lenV (.slice A m c) = m := rfl
theorem low_cell9 {w w' : World} {B g k : Nat} {v : Value} (h : w.cell? ⟨g, k, none⟩ = some v) (hb : Below B w w') (hlt : g < B) : w'.cell? ⟨g, k, none⟩ = some v := (hb.cell (p := ⟨g, k, none⟩) hlt).trans h
theorem own64_one9 {w : World} {B : Nat} (hB : B ≤ w.heap.size) (x : Int) : Own64 (w.alloc (.cells #[.int .i64 x] 2)) B (.slice (some ⟨w.heap.size, 0, none⟩) 1 1) [x] :=
  ⟨by simp, .inr ⟨w.heap.size, 1, #[.int .i64 x], rfl, hB, World.alloc_heap_new w _, by simp, by simp [maxLen], by simp, by simp⟩⟩

set_option maxHeartbeats 8000000 in
set_option maxRecDepth 100000 in
theorem spec_GrowingOfRank : GivesList1 24 F_GrowingOfRank := by
  intro A xs c k w hx hcc h
  obtain ⟨W, hW⟩ : ∃ W, W = w.alloc (.cells #[.slice A xs.length c] 28) := ⟨_, rfl⟩
  have cT : W.cell? ⟨w.heap.size, 0, none⟩ = some (.slice A xs.length c) := by rw [hW]; simp [go_sem]
  have hB0 : Hid (Below w.heap.size w W) := by rw [hW]; exact bal (b0 w) _
  have H1 : Hid (Ints W W.heap.size A xs) := by rw [hW]; exact h.al _
  obtain ⟨P, hP⟩ : ∃ P, F_GrowingOfRank xs k = P := ⟨_, rfl⟩
  rw [hP]
  rw [F_GrowingOfRank] at hP
  have hI1 := specIs A xs c W (by omega) H1.out
  have HN1 := fun X => Lib.hid (l01N A xs.length c X)
  clear h
  cases ht : M.isTree xs
  · rw [ht] at hI1 hP
    have HI := Lib.hid hI1
    simp only [Bool.false_eq_true, if_false] at hP
    subst hP
    clear hI1 ht
    go_enter Try.func24, Try.ntmps24
    go_wp2_with fail
    rw [← hW]
    clear hW
    refine HI.out.mono ?_
    rintro e w1 ⟨rfl, hb1⟩
    have hB1 := Lib.hid (btr hB0.out hb1)
    go_wp2
    go_ret2
    exact ⟨none, 0, rfl, own64_nil _ _, hB1.out⟩
  · rw [ht] at hI1 hP
    have HI := Lib.hid hI1
    simp only [if_true] at hP
    have Ht := Lib.hid ht
    clear hI1 ht
    by_cases hk : k < 0
    · rw [if_pos hk] at hP
      subst hP
      go_enter Try.func24, Try.ntmps24
      go_wp2_with fail
      rw [← hW]
      clear hW
      refine HI.out.mono ?_
      rintro e w1 ⟨rfl, hb1⟩
      have hB1 := Lib.hid (btr hB0.out hb1)
      go_wp2
      go_ret2
      exact ⟨none, 0, rfl, own64_nil _ _, hB1.out⟩
    · rw [if_neg hk] at hP
      by_cases h20 : xs.length ≤ 20
      · rw [if_pos h20] at hP
        have h20i : ¬ (20 : Int) < (xs.length : Int) := by omega
        have hex : Hid (M.ParsOK xs (M.parents xs)) := by
          obtain ⟨ps, hp⟩ := M.pars_ex9 Ht.out
          show M.ParsOK _ _
          rw [M.parents_eq Ht.out hp]
          exact hp
        obtain ⟨R0, hR0⟩ : ∃ R0, Hid (M.waysN xs [] = R0) := ⟨_, rfl⟩
        have HC0 := Lib.hid (fun X A2 c2 (hX : Below W.heap.size W X) => l09Count A A2 xs [] xs.length c 0 c2 X rfl h20 Ht (M.bgn_nil _ _) rfl hex (Lib.hid (H1.out.be hX)) (Lib.hid (fun hk => absurd hk (Nat.lt_irrefl 0))))
        rw [hR0.out] at HC0 hP
        by_cases hkR : (R0 : Int) ≤ k
        · rw [if_pos hkR] at hP
          subst hP
          go_enter Try.func24, Try.ntmps24
          go_wp2_with fail
          rw [← hW]
          clear hW
          refine HI.out.mono ?_
          rintro e w1 ⟨rfl, hb1⟩
          have hB1 := Lib.hid (btr hB0.out hb1)
          have hW1 := Lib.hid hb1
          have c1 := cell_be cT hb1
          clear hb1
          go_wp2_with fail
          refine (HN1 _).out.mono ?_
          rintro e w2 ⟨rfl, hb2⟩
          have hB2 := Lib.hid (btr hB1.out hb2)
          have hW2 := Lib.hid (btr hW1.out hb2)
          have c2 := cell_be c1 hb2
          clear hb2
          have hW3 := Lib.hid (bal hW2.out (.cells #[] 2))
          have hB3 := Lib.hid (bal hB2.out (.cells #[] 2))
          go_wp2_with fail
          refine (HC0.out _ _ _ hW3.out).mono ?_
          rintro e w4 ⟨rfl, hb4⟩
          have hB4 := Lib.hid (btr hB3.out hb4)
          go_wp2
          go_ret2
          exact ⟨none, 0, rfl, own64_nil _ _, hB4.out⟩
        · rw [if_neg hkR] at hP
          obtain ⟨kn, rfl⟩ := Int.eq_ofNat_of_zero_le (by omega : 0 ≤ k)
          rw [Int.toNat_natCast] at hP
          obtain ⟨n, hn⟩ : ∃ n, Hid (xs.length = n) := ⟨_, rfl⟩
          have hkn : Hid (kn < M.waysN xs []) := by show _ < _; rw [hR0.out]; omega
          have hxl := M.tree_len Ht.out
          have hpar : Hid (M.Parents xs.length (M.parents xs)) := Lib.hid (M.parents_of Ht.out hex.out)
          have hwl := Lib.hid (fun b => M.ways_le (xs := xs) (b := b) h20)
          obtain ⟨R, hR⟩ : ∃ R, Hid (M.unR xs (M.parents xs) xs.length [] kn = R) := ⟨_, rfl⟩
          have hUl : Hid (R.length = xs.length) := by show _ = _; rw [← hR.out, M.unR_len]; simp
          rw [hR.out] at hP
          have hst0 : Hid (M.unR xs (M.parents xs) (xs.length - ([] : List Int).length) [] kn = R) := hR
          have hbg0 : Hid (M.Bgn xs.length (M.parents xs) []) := M.bgn_nil _ _
          have hNx : Hid (∀ bb A3 m c3 X, M.Bgn xs.length (M.parents xs) bb → bb.length = m → Below W.heap.size W X → Ints X X.heap.size A3 bb → Calls Try.prog 86 #[.agg #[.slice A xs.length c], .slice A3 m c3] X fun e w' => ∃ A' m' c', e = .returned (.slice A' m' c') ∧ Own64 w' X.heap.size (.slice A' m' c') (M.rdyTo (M.parents xs) bb xs.length) ∧ Below X.heap.size X w') := fun bb A3 m c3 X hb hm hX hI =>
            l09Next A A3 xs bb xs.length c m c3 X rfl Ht (Lib.hid hb) (Lib.hid hm) (H1.out.be hX) hI
          have hCt : Hid (∀ bb W9 A3 m c3 X, M.Bgn xs.length (M.parents xs) bb → bb.length = m → M.waysN xs bb = W9 → Below W.heap.size W X → Ints X X.heap.size A3 bb → Calls Try.prog 87 #[.agg #[.slice A xs.length c], .slice A3 m c3] X fun e w' => e = .returned (.int .i64 (W9 : Int)) ∧ Below X.heap.size X w') := fun bb W9 A3 m c3 X hb hm hw hX hI => by
            have := l09Count A A3 xs bb xs.length c m c3 X rfl h20 Ht (Lib.hid hb) (Lib.hid hm) hex (Lib.hid (H1.out.be hX)) (Lib.hid hI)
            rwa [hw] at this
          subst hP
          clear H1 hR hn
          go_enter Try.func24, Try.ntmps24
          go_wp2_with fail
          rw [← hW]
          clear hW
          refine HI.out.mono ?_
          rintro e w1 ⟨rfl, hb1⟩
          have hB1 := Lib.hid (btr hB0.out hb1)
          have hW1 := Lib.hid hb1
          have c1 := cell_be cT hb1
          clear hb1
          go_wp2_with fail
          refine (HN1 _).out.mono ?_
          rintro e w2 ⟨rfl, hb2⟩
          have hW2 := Lib.hid (btr hW1.out hb2)
          have c2 := cell_be c1 hb2
          clear hb2 hB1
          have hW3 := Lib.hid (bal hW2.out (.cells #[] 2))
          go_wp2_with fail
          refine (HC0.out _ _ _ hW3.out).mono ?_
          rintro e w4 ⟨rfl, hb4⟩
          have hW4 := Lib.hid (btr hW3.out hb4)
          have hW5 := Lib.hid (bal hW4.out (.cells #[] 2))
          have ho5 : Hid (Own64 (w4.alloc (.cells #[] 2)) W.heap.size (.slice (some ⟨w4.heap.size, 0, none⟩) 0 0) []) := own64_empty hW4.out.size
          clear hb4 hW1 hW2 hW3 hW4 c1 c2 HC0 HI
          go_wp2
          simp only [show decide ((kn : Int) < 0) = false from decide_eq_false (by omega), show decide ((20 : Int) < (xs.length : Int)) = false from decide_eq_false (by omega), show decide (R0 ≤ kn) = false from decide_eq_false (by omega)]
          go_loopw [1, 6] (fun qr qo wr => ∃ (bb : List Int) (A' : Option Addr) (m c' kk : Nat), m ≤ xs.length ∧ qr = .int .i64 (kk : Int) ∧ qo = .slice A' m c' ∧ Hid (bb.length = m) ∧ Hid (M.Bgn xs.length (M.parents xs) bb) ∧ Hid (M.unR xs (M.parents xs) (xs.length - bb.length) bb kk = R) ∧ Hid (kk < M.waysN xs bb) ∧ Hid (Own64 wr W.heap.size (.slice A' m c') bb) ∧ Hid (Below W.heap.size W wr)) (fun _ qo _ => xs.length - lenV qo)
          case atStart => exact ⟨[], _, 0, 0, kn, Nat.zero_le _, rfl, rfl, rfl, hbg0, hst0, hkn, ho5, hW5⟩
          case round =>
            obtain ⟨bb, A', m, c', kk, hm, rfl, rfl, hbl, hbb, hun, hkw, ho, hbr⟩ := hrel
            clear ho5 hW5 hkn hst0 hbg0
            rename World => V
            have cc := cell_be cT hbr.out
            have hkb : kk ≤ 2432902008176640000 := by have := hwl.out bb; have := hkw.out; omega
            have hm24 : m ≤ 24 := by omega
            go_wp2_with fail
            refine (HN1 _).out.mono ?_
            rintro e w2 ⟨rfl, hb2⟩
            have hbr2 := Lib.hid (btr hbr.out hb2)
            have ho2 := Lib.hid (own_be ho.out hb2)
            have c2 := cell_be cT hbr2.out
            clear cc hb2 ho hbr
            by_cases hlt : m < xs.length
            · have hmi : (m : Int) < (xs.length : Int) := by omega
              have hsum := M.ways_sum Ht.out hex.out (b := bb) hbb.out (by rw [hbl.out]; exact hlt)
              have hrl := M.rdyTo_len (M.parents xs) bb xs.length
              have HNk := Lib.hid (hNx.out bb A' m c' w2 hbb.out hbl.out hbr2.out (ints_of_own64 ho2.out))
              obtain ⟨rr, hrr⟩ : ∃ rr, Hid (M.rdyTo (M.parents xs) bb xs.length = rr) := ⟨_, rfl⟩
              have hmemr : Hid (∀ x, x ∈ rr → x ∈ M.rdyTo (M.parents xs) bb xs.length) := fun x hx => by rw [hrr.out]; exact hx
              have hungo : Hid (∀ x kq, M.pickR xs bb rr kk = (x, kq) → M.unR xs (M.parents xs) (xs.length - (bb ++ [x]).length) (bb ++ [x]) kq = R) := fun x kq hp => by
                rw [← hun.out]
                exact (M.unR_go (xs := xs) (ps := M.parents xs) (b := bb) (k := kk) (x := x) (k' := kq) (by rw [hbl.out]; exact hlt) (by rw [hrr.out]; exact hp)).symm
              rw [hrr.out] at HNk hrl hsum
              have hst : Hid (M.pickR xs bb (rr.drop 0) kk = M.pickR xs bb rr kk) := rfl
              have hst2 : Hid (kk < M.sumL (fun x => M.waysN xs (bb ++ [x])) (rr.drop 0)) := by show _ < _; rw [List.drop_zero, hsum]; exact hkw.out
              have hz2 : Hid (A' = none → c' = 0) := Lib.hid (own64_z ho2.out)
              clear hsum hun
              go_wp2_with fail
              refine HNk.out.mono ?_
              rintro e w4 ⟨A4, m4, c4, rfl, ho4, hb4⟩
              have hm4 := Lib.hid (own64_len ho4)
              have Ho4 := Lib.hid ho4
              have hbr4 := Lib.hid (btr hbr2.out hb4)
              have Ho2 := Lib.hid (own_be ho2.out hb4)
              have hm4b : m4 ≤ 24 := by have := hm4.out; omega
              clear ho4 hb4 HNk hrl c2 ho2
              go_wp2
              go_loopw [1, 6, 8] (fun qr qo i ws => ∃ j kj : Nat, j ≤ m4 ∧ i = .int .i64 (j : Int) ∧ qr = .int .i64 (kj : Int) ∧ qo = .slice A' m c' ∧ Hid (M.pickR xs bb (rr.drop j) kj = M.pickR xs bb rr kk) ∧ Hid (kj < M.sumL (fun x => M.waysN xs (bb ++ [x])) (rr.drop j)) ∧ kj ≤ 2432902008176640000 ∧ Hid (Below w4.heap.size w4 ws)) (fun _ _ i _ => m4 - (intOf i).toNat)
              case atStart => exact ⟨0, kk, Nat.zero_le _, rfl, rfl, rfl, hst, hst2, hkb, b0 w4⟩
              case round =>
                clear hst hst2
                obtain ⟨j, kj, hj, rfl, rfl, rfl, hpk, hks, hkjb, hbs⟩ := hrel
                by_cases hjm : j < m4
                · obtain ⟨x, hx⟩ : ∃ x, rr[j]? = some x := ⟨_, List.getElem?_eq_getElem (by rw [← hm4.out]; exact hjm)⟩
                  obtain ⟨g4, hA4⟩ : ∃ g, A4 = some ⟨g, 0, none⟩ := by
                    rcases Ho4.out.2 with ⟨h0, _⟩ | ⟨g, cap, cur, hvv, _⟩
                    · injection h0 with _ e _; omega
                    · injection hvv with e1; exact ⟨g, e1⟩
                  subst hA4
                  obtain ⟨p1, p2, p3, p4⟩ := own64_cell (own_be Ho4.out hbs.out) hm4.out.symm hx
                  have hji : (j : Int) < (m4 : Int) := by omega
                  have hj0 : (0 : Int) ≤ (j : Int) := by omega
                  have hmem := hmemr.out x (List.mem_of_getElem? hx)
                  have hbg2 : Hid (M.Bgn xs.length (M.parents xs) (bb ++ [x])) := Lib.hid (M.bgn_step hpar.out hbb.out hmem)
                  have hkl2 : Hid ((bb ++ [x]).length = m + 1) := by show _ = _; rw [List.length_append, hbl.out]; rfl
                  obtain ⟨W9, hW9⟩ : ∃ W9, Hid (M.waysN xs (bb ++ [x]) = W9) := ⟨_, rfl⟩
                  have hW9b : W9 ≤ 2432902008176640000 := by rw [← hW9.out]; exact hwl.out _
                  have hOw := Lib.hid (own_be Ho2.out hbs.out)
                  have HOk : Hid (∀ X, Below wr.heap.size wr X → Calls Try.prog 88 #[.slice A' m c'] X fun e w' => ∃ A7 c7, e = .returned (.slice A7 m c7) ∧ Hid (Own64 w' X.heap.size (.slice A7 m c7) bb) ∧ Below X.heap.size X w') := fun X hX =>
                    (l01Own A' bb m c' X hbl (by omega) hz2 (Lib.hid (ints_of_own64 (own_be hOw.out hX)))).mono fun e w' ⟨A7, c7, he, ho, hb⟩ => ⟨A7, c7, he, ho, hb⟩
                  have hpkx := Lib.hid hx
                  have hbW := Lib.hid (btr hbr4.out hbs.out)
                  clear hx hmem
                  go_wp2
                  obtain ⟨Z0, hZ0⟩ : ∃ Z0, Z0 = wr := ⟨_, rfl⟩
                  have SZ : Z0.drew.cell? ⟨g4, j, none⟩ = some (.int .i64 x) := by rw [hZ0]; exact p1
                  have hbZ : Below wr.heap.size wr Z0.drew := by rw [hZ0]; exact (b0 wr).drew
                  have hbZA : Below wr.heap.size wr (Z0.drew.alloc (.cells #[.int .i64 x] 2)) := hbZ.alloc hbZ.size _
                  have SZA : (Z0.drew.alloc (.cells #[.int .i64 x] 2)).cell? ⟨g4, j, none⟩ = some (.int .i64 x) := cellOf_al SZ _
                  have hgZ : g4 < Z0.drew.heap.size := World.block_lt_of_cell? _ _ SZ
                  have HZ0 := Lib.hid hZ0
                  rw [← hZ0]
                  clear hZ0 p1 p2 p4
                  go_region_held3 (fun X => X.cell? ⟨g4, j, none⟩ = some (.int .i64 x)) (first | exact SZ | exact SZA | exact S7 | exact S7a | exact S8) (first | (refine stepInts rfl (.tmp 44) (.tmp 49) rfl _ Z0.drew.heap.size A7 m c7 bb _ 1 1 [x] rfl rfl (by first | exact hoA | exact hoB) (by first | exact hiA | exact hiB) rfl (fun e => by cases e) (by first | exact h7 | exact h7a) (by omega) (by omega) ?_; intro A8 c8 w8 ho8 hb8; have S8 : w8.cell? ⟨g4, j, none⟩ = some (.int .i64 x) := (by first | exact low_cell9 S7a hb8.out hgZ | exact low_cell9 S7 hb8.out hgZ); have hbW8 : Below Z0.drew.heap.size Z0.drew w8 := (by first | exact (bal hbW7 _).trans hb8.out | exact hbW7.trans hb8.out)) | (go_at_call 88; refine (HOk.out _ (by first | exact hbZ | exact hbZA)).mono ?_; rintro e w7 ⟨A7, c7, rfl, ho7, hb7⟩; have S7 : w7.cell? ⟨g4, j, none⟩ = some (.int .i64 x) := (by first | exact cellOf_be SZ hb7 | exact cellOf_be SZA hb7); have S7a := (show (w7.alloc (.cells #[.int .i64 x] 2)).cell? ⟨g4, j, none⟩ = some (.int .i64 x) from cellOf_al S7 _); have hbW7 : Below Z0.drew.heap.size Z0.drew w7 := (by first | exact hb7 | exact btr (bal (b0 Z0.drew) _) hb7); have h7 : Z0.drew.heap.size ≤ w7.heap.size := hbW7.size; have h7a : Z0.drew.heap.size ≤ (w7.alloc (.cells #[.int .i64 x] 2)).heap.size := (by simp; exact Nat.le_succ_of_le h7); have hoB : Hid (Own64 w7 Z0.drew.heap.size (.slice A7 m c7) bb) := Lib.hid (own_mono ho7.out (by simp)); have hoA : Hid (Own64 (w7.alloc (.cells #[.int .i64 x] 2)) Z0.drew.heap.size (.slice A7 m c7) bb) := Lib.hid (own_be hoB.out (bal (b0 w7) _)); have hiA : Hid (Ints (w7.alloc (.cells #[.int .i64 x] 2)) (w7.alloc (.cells #[.int .i64 x] 2)).heap.size (some ⟨w7.heap.size, 0, none⟩) [x]) := Lib.hid (ints_of_own64 (own64_one9 (Nat.le_refl _) x)); (first | (have hiB : Hid (Ints w7 w7.heap.size (some ⟨Z0.drew.heap.size, 0, none⟩) [x]) := Lib.hid (ints_of_own64 (own_be (own64_one9 (w := Z0.drew) (Nat.le_refl _) x) hb7))) | skip)))
                  all_goals
                    have hbV8 := Lib.hid (btr hbW.out (btr (show Below wr.heap.size wr Z0.drew from hbZ) hbW8))
                    have ho8' := Lib.hid (own_mono ho8.out (Nat.le_trans hbW.out.size hbZ.size))
                    have hI8 := Lib.hid (ints_of_own64 ho8.out)
                    have hbs8 := Lib.hid (btr hbs.out (btr (show Below wr.heap.size wr Z0.drew from hbZ) hbW8))
                    have c8' := cell_be cT hbV8.out
                    have HCw := Lib.hid (hCt.out (bb ++ [x]) W9 A8 (m + 1) c8 w8 hbg2.out hkl2.out hW9.out hbV8.out hI8.out)
                    clear S7 S7a S8 h7 h7a hoA hoB hiA hb7 hb8 ho7 ho8 hbW7 hbW8 SZ SZA hbZ hbZA hgZ
                    go_wp2_with fail
                    refine HCw.out.mono ?_
                    rintro e w11 ⟨rfl, hb11⟩
                    have hbV11 := Lib.hid (btr hbV8.out hb11)
                    have hbs11 := Lib.hid (btr hbs8.out hb11)
                    have ho11 := Lib.hid (own_be ho8'.out hb11)
                    clear hb11 c8' ho8' hbV8 hbs8 HCw hI8
                    by_cases hkw9 : kj < W9
                    · have hkwi : (kj : Int) < (W9 : Int) := by omega
                      have hun2 : Hid (M.unR xs (M.parents xs) (xs.length - (bb ++ [x]).length) (bb ++ [x]) kj = R) := hungo.out x kj (by
                        rw [← hpk.out]
                        exact M.pickR_hit hpkx.out (by rw [hW9.out]; exact hkw9))
                      have hkw2 : Hid (kj < M.waysN xs (bb ++ [x])) := by show _ < _; rw [hW9.out]; exact hkw9
                      go_wp2
                      go_roundw
                      case rel => exact ⟨bb ++ [x], A8, m + 1, c8, kj, by omega, rfl, rfl, hkl2, hbg2, hun2, hkw2, ho11, hbV11⟩
                      case measure =>
                        show xs.length - (m + 1) < xs.length - m
                        omega
                    · have hkwi : ¬ (kj : Int) < (W9 : Int) := by omega
                      have hpk2 : Hid (M.pickR xs bb (rr.drop (j + 1)) (kj - W9) = M.pickR xs bb rr kk) := by
                        show _ = _
                        rw [← hpk.out, M.pickR_miss hpkx.out (by rw [hW9.out]; exact hkw9), hW9.out]
                      have hks2 : Hid (kj - W9 < M.sumL (fun x => M.waysN xs (bb ++ [x])) (rr.drop (j + 1))) := by
                        show _ < _
                        have := hks.out
                        rw [M.sumL_drop hpkx.out, hW9.out] at this
                        omega
                      have hsub : (kj : Int) - (W9 : Int) = ((kj - W9 : Nat) : Int) := by omega
                      go_wp2
                      go_roundw
                      case rel => exact ⟨j + 1, kj - W9, by omega, by go_num, rfl, rfl, hpk2, hks2, by omega, hbs11⟩
                      case measure => simp [intOf]; omega
                · obtain rfl : j = m4 := by omega
                  exfalso
                  have := hks.out
                  rw [hm4.out, List.drop_length] at this
                  exact absurd this (Nat.not_lt_zero _)
            · obtain rfl : m = xs.length := by omega
              have hge : ¬ (xs.length : Int) < (xs.length : Int) := by omega
              have hE : Hid (bb = R) := by
                show _ = _
                rw [← hun.out]
                exact (M.unR_done (xs := xs) (ps := M.parents xs) (b := bb) (k := kk) hbl.out).symm
              have hB9 := Lib.hid (btr hB0.out hbr2.out)
              have ho6 : Hid (Own64 w2 w.heap.size (.slice A' xs.length c') R) := by rw [← hE.out]; exact own_mono ho2.out hB0.out.size
              clear hE ho2 hun c2
              go_wp2
              go_ret2
              refine ⟨A', c', ?_, ?_, hB9.out⟩
              · show _ = Ending.returned (.tuple #[.slice A' R.length c', .int .i64 0])
                rw [hUl.out]; rfl
              · show Own64 _ _ (.slice A' R.length c') R
                rw [hUl.out]; exact ho6.out
      · rw [if_neg h20] at hP
        have h20i : (20 : Int) < (xs.length : Int) := by omega
        subst hP
        go_enter Try.func24, Try.ntmps24
        go_wp2_with fail
        rw [← hW]
        clear hW
        refine HI.out.mono ?_
        rintro e w1 ⟨rfl, hb1⟩
        have hB1 := Lib.hid (btr hB0.out hb1)
        have c1 := cell_be cT hb1
        clear hb1
        go_wp2_with fail
        refine (HN1 _).out.mono ?_
        rintro e w2 ⟨rfl, hb2⟩
        have hB2 := Lib.hid (btr hB1.out hb2)
        go_wp2
        go_ret2
        exact ⟨none, 0, rfl, own64_nil _ _, hB2.out⟩
end Go.Proofs.Ytkcldfliiagloaa

/- An argument of type laws.Tree opened: its value, its numbers in memory. -/
namespace Go.Proofs.Ytkcldfliiagloaa
open Go.RowKit Go.Joins Go.ChangeShapes Go.WideShapes Go.ChangeAt Go.Deep

theorem own : ownKnob Try.prog.godebug = none := by kernel_rfl
theorem laidOut : laidOutB Try.prog = true := by kernel_rfl
theorem cells64 : Try.prog.cellsOf 2 = 1 := by kernel_rfl
theorem cellsTree : Try.prog.cellsOf 24 = 1 := by kernel_rfl

section
variable {H : Type} {enc : TypeId × Value → H} {P : Program} {w : World} {base : Nat} {spare : Nat → Bool} {held : Bool}
theorem open_agg1 {r : Reach} {b0 : Nat} {t : TypeId} {f0 : Field} {v : Value} {d : DataW H} {p : List MemPlace} (hs : P.underlying t = some (.struct #[f0])) (hone : oneCellFields P #[f0] = true) (hC : P.cellsOf t = 1)
    (hv : Value.okWide P w r b0 t v) (h : DataW.Trod enc P w base spare held t v d p) :
    ∃ (v0 : Value) (y0 : DataW H × List MemPlace) (n : Nat), v = .agg #[v0] ∧ d = .agg [y0.1] ∧ p = y0.2 ∧ DataW.trod enc P w base spare held n f0.type [v0] = some y0 := by
  obtain ⟨cs, rfl, hsz⟩ := okWide_struct hs hv
  obtain ⟨l⟩ := cs
  match l, hsz.trans hC with
  | [c0], _ =>
    obtain ⟨fuel, hf⟩ := h
    obtain ⟨xs, n, _, hx, _, hlen, hg⟩ := DataW.trod_struct hs hf
    obtain ⟨o0, k0⟩ := hone_of hone 0 f0 rfl
    match xs, hlen with
    | [y0], _ =>
      simp only [Prod.mk.injEq] at hx
      exact ⟨c0, y0, n, rfl, by simpa using hx.1, by simpa using hx.2, by simpa [Value.cells, o0, k0] using hg 0 f0 rfl⟩
end

/-- a slice of int64 as read, in this seat's words -/
theorem openInts {H : Type} {enc : TypeId × Value → H} {W : World} {fuel : Nat} {v : Value} {y : DataW H × List MemPlace}
    (h : DataW.trod enc Try.prog W 0 (fun _ => true) true fuel 22 [v] = some y) (hlt : ∀ x ∈ y.2, x.block < W.heap.size) :
    ∃ (A : Option Addr) (c : Nat) (xs : List Int), v = .slice A xs.length c ∧ xs.length ≤ 9223372036854775807 ∧ Ints W W.heap.size A xs ∧ ∀ x ∈ xs, -9223372036854775808 ≤ x ∧ x ≤ 9223372036854775807 := by
  rcases open_ints Try.underlying22 Try.underlying2 cells64 h with ⟨hcs, hx⟩ | ⟨a, len', cap', zs, hcs, _, hl, hm, hz, hx, hcell, hwz⟩
  · obtain rfl : v = .slice none 0 0 := by simpa using hcs
    exact ⟨none, 0, [], rfl, by simp, Ints.nil_ _ _ _, by simp⟩
  · obtain rfl : v = .slice (some a) len' cap' := by simpa using hcs
    simp only [if_true] at hz
    have hlz : len' ≤ zs.length := by omega
    have htl : (zs.take len').length = len' := by simp; omega
    subst hx
    refine ⟨some a, cap', zs.take len', by rw [htl], by rw [htl]; simp only [maxLen] at hm; omega, fun hpos => ?_, fun x hxm => ?_⟩
    · rw [htl] at hpos
      obtain ⟨b, off, spot⟩ := a
      have hspot : spot = none := by simpa [Addr.add] using World.cell?_spot (hcell 0 (by omega))
      subst hspot
      refine ⟨b, off, rfl, hlt (.cell b off) (MemPlace.mem_row.2 ⟨0, by omega, by simp⟩), fun j x hj => ?_⟩
      have hj' : j < zs.length := by
        have := (List.getElem?_eq_some_iff.1 hj).1
        rw [htl] at this
        omega
      have hj2 : zs[j]? = some x := by
        rw [List.getElem?_take] at hj
        split at hj
        · exact hj
        · cases hj
      rw [← add_plain, hcell j hj']
      simp [List.getD, hj2]
    · have := hwz x (List.mem_of_mem_take hxm)
      simpa [Lit.wf, IntKind.min, IntKind.max, IntKind.signed, IntKind.bits] using this

set_option maxRecDepth 100000 in
theorem openTree {H : Type} {enc : TypeId × Value → H} {W : World} {base : Nat} {v : Value} {d : DataW H} {p : List MemPlace} (hv : Value.okWide Try.prog W .any base 24 v)
    (h : DataW.Trod enc Try.prog W 0 (fun _ => true) true 24 v d p) (hlt : ∀ x ∈ p, x.block < W.heap.size) :
    ∃ (A : Option Addr) (c : Nat) (xs : List Int), v = .agg #[.slice A xs.length c] ∧ xs.length ≤ 9223372036854775807 ∧ Ints W W.heap.size A xs ∧ ∀ x ∈ xs, -9223372036854775808 ≤ x ∧ x ≤ 9223372036854775807 := by
  obtain ⟨v0, y0, n, rfl, rfl, rfl, hy⟩ := open_agg1 Try.underlying24 (by kernel_rfl) cellsTree hv h
  obtain ⟨A, c, xs, rfl, h1, h2, h3⟩ := openInts hy hlt
  exact ⟨A, c, xs, rfl, h1, h2, h3⟩
end Go.Proofs.Ytkcldfliiagloaa

/- What every row of this seat asks of the whole program, once: three facts on how the cut was made (each takes the kernel near a minute and 9 GB). -/
namespace Go.Proofs.Ytkcldfliiagloaa

set_option maxHeartbeats 4000000 in
theorem shut_mayEnter : Try.pinned.checked.prog.mayEnter = true := by kernel_rfl
set_option maxHeartbeats 4000000 in
theorem shut_lifts : (false == Try.pinned.checked.prog.liftsFinal) = true := by kernel_rfl
set_option maxHeartbeats 4000000 in
theorem shut_make : (Try.pinned.checked.prog.make == some .cut) = true := by kernel_rfl
end Go.Proofs.Ytkcldfliiagloaa
