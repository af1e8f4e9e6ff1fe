/- CountInside, the program's and the model's: the number of lists by which t is inside u, or a code. -/
import Derived.Test.YtbnnlifpldgcfaaInsK
import Derived.Test.YtbnnlifpldgcfaaInsM
import Derived.RangeFuncBox
namespace Go.Proofs.Ytbnnlifpldgcfaa
open Go.RowKit Go.Shelf Go.Maps
attribute [local go_sem] Oper.semAt_some

theorem insideLists_le {us xs : List Int} (h : us.length ≤ 12) : (insideLists us xs).length ≤ 4096 := by
  have h1 := List.length_filter_le (fun l => inB us (nums l) xs) (M.lists us.length xs.length [] 0)
  have h2 := M.lists_le (U := us.length) (m := xs.length) (vs := []) (a := 0) (Nat.zero_le _)
  have h3 : 2 ^ (us.length - 0) ≤ 2 ^ 12 := Nat.pow_le_pow_right (by omega) (by omega)
  have h4 : (2 : Nat) ^ 12 = 4096 := by decide
  have h5 : (insideLists us xs).length ≤ (M.lists us.length xs.length [] 0).length := h1
  omega
def F_CountInside (xs us : List Int) : Int × Int := if codeI xs us = 0 then (((insideLists us xs).length : Int), 0) else (0, codeI xs us)
theorem F_CountIn_yes {xs us : List Int} (h : codeI xs us = 0) : F_CountInside xs us = (((insideLists us xs).length : Int), 0) := if_pos h
theorem F_CountIn_no {xs us : List Int} (h : codeI xs us ≠ 0) : F_CountInside xs us = (0, codeI xs us) := if_neg h
/-- two trees to a number and a code -/
def GivesTTN (f : Nat) (F : List Int → List Int → Int × Int) : Prop :=
  ∀ (A B : Option Addr) (xs us : List Int) (c d : Nat) (w : World), xs.length ≤ 1048576 → us.length ≤ 1048576 → xs.length ≤ c ∧ c ≤ 1000000000000 → us.length ≤ d ∧ d ≤ 1000000000000 → Ints w w.heap.size A xs → Ints w w.heap.size B us →
    Calls Try.prog f #[.agg #[.slice A xs.length c], .agg #[.slice B us.length d]] w fun e w' => e = .returned (.tuple #[.int .i64 (F xs us).1, .int .i64 (F xs us).2]) ∧ Below w.heap.size w w'

set_option maxRecDepth 100000 in
set_option maxHeartbeats 8000000 in
theorem impl_CountInside_in (A B : Option Addr) (xs us : List Int) (c d : Nat) (w : World) (hc : Hid (xs.length ≤ c ∧ c ≤ 1000000000000)) (hd : Hid (us.length ≤ d ∧ d ≤ 1000000000000)) (hA : Hid (Ints w w.heap.size A xs)) (hB : Hid (Ints w w.heap.size B us)) (hC : Hid (codeI xs us = 0)) :
    CallsIn Fence.wide 5 Try.prog 50 #[.agg #[.slice A xs.length c], .agg #[.slice B us.length d]] w fun e w' => e = .returned (.tuple #[.int .i64 ((insideLists us xs).length : Int), .int .i64 0]) ∧ Below w.heap.size w w' := by
  obtain ⟨htx, htu, h12⟩ := codeI_zero hC.out
  have Htx := Lib.hid htx
  have Htu := Lib.hid htu
  have hle := insideLists_le (xs := xs) h12
  have hxl := (M.tree_len htx).2
  obtain ⟨W, hW⟩ : ∃ W, W = (w.alloc (.cells #[.slice A xs.length c] 24)).alloc (.cells #[.slice B us.length d] 24) := ⟨_, rfl⟩
  have cT : Hid (W.cell? ⟨w.heap.size, 0, none⟩ = some (.slice A xs.length c)) := by subst hW; exact cell_al (by simp) _
  have cU : Hid (W.cell? ⟨w.heap.size + 1, 0, none⟩ = some (.slice B us.length d)) := by subst hW; exact World.cell?_alloc_at _ _ _ _ (by simp)
  have hBW : Hid (Below w.heap.size w W) := by subst hW; exact bal (bal (b0 w) _) _
  have hcode := codeOfInside A B xs us c d W (by omega) (by omega) (Lib.hid (hA.out.be hBW.out)) (Lib.hid (hB.out.be hBW.out))
  rw [hC.out] at hcode
  have HC := Lib.hid hcode
  have HW := Lib.hid hW
  clear hcode hW hC htx htu h12
  refine callsIn_of_wp_marks Try.func50 rfl trivial ?_ rfl
  simp only [Try.ntmps50, List.size_toArray, List.length_cons, List.length_nil, Nat.reduceAdd, Nat.reduceSub, Array.replicate_succ, Array.replicate_zero, List.push_toArray, List.append_toArray, List.nil_append, List.cons_append]
  have cT1 := cT.out
  have cU1 := cU.out
  rw [HW.out] at cT1 cU1
  gi_wp2_with (first | (refine ⟨trivial, ?_⟩; gi_at_call 80; (try rw [← HW.out]); refine (callsIn_wide.2 HC.out).mono ?_; rintro e w1 ⟨rfl, hb1⟩; have hB1 : Hid (Below w.heap.size w w1) := btr hBW.out hb1.out; have cT2 := cell_be cT.out hb1.out; have cU2 := cell_be cU.out hb1.out; have cT3 := cell_al cT2 (.cells #[.int .i64 0] 2); have cU3 := cell_al cU2 (.cells #[.int .i64 0] 2)) | (refine ⟨trivial, ?_⟩; gi_at_call 81; refine (insIn _ A B _ c _ d _).mono ?_; rintro e w' ⟨rfl, rfl⟩))
  have hw1 : w.heap.size ≤ w1.heap.size := hB1.out.size
  have bQ0 := Boxed.new w1 2 (.int .i64 0)
  have bN0 := Boxed.new (w1.alloc (.cells #[.int .i64 0] 2)) 22 (.slice A xs.length c)
  have bP := Boxed.new ((w1.alloc (.cells #[.int .i64 0] 2)).alloc (.cells #[.slice A xs.length c] 22)) 22 (.slice B us.length d)
  have bQ := (bQ0.alloc (.cells #[.slice A xs.length c] 22)).alloc (.cells #[.slice B us.length d] 22)
  have bN := bN0.alloc (.cells #[.slice B us.length d] 22)
  have hB2 := bal (bal (bal hB1.out (.cells #[.int .i64 0] 2)) (.cells #[.slice A xs.length c] 22)) (.cells #[.slice B us.length d] 22)
  simp only [World.size_alloc] at bP bN
  obtain ⟨W0, hW0⟩ : ∃ W0, W0 = ((w1.alloc (.cells #[.int .i64 0] 2)).alloc (.cells #[.slice A xs.length c] 22)).alloc (.cells #[.slice B us.length d] 22) := ⟨_, rfl⟩
  obtain ⟨D, hdd⟩ : ∃ D, w1.heap.size = D := ⟨_, rfl⟩
  have hsz : W0.heap.size = D + 1 + 1 + 1 := by rw [hW0, ← hdd]; simp
  rw [← hW0] at bN bP bQ hB2 ⊢
  rw [hdd] at bN bP bQ hw1 ⊢
  have hI1 : Ints W0 D A xs := ((hA.out.below hB2 (Nat.le_refl _))).more hw1
  have hI2 : Ints W0 D B us := ((hB.out.below hB2 (Nat.le_refl _))).more hw1
  clear hW0 bQ0 bN0 hb1 cT1 cU1 cT2 cU2 cT3 cU3 HC HW hdd
  have h15 : 1 ≤ 5 := by omega
  refine wpIn_rangeRowsW (α := Value) rfl h15 (gf := 97) (lb := #[.pointer (some ⟨D + 1, 0, none⟩), .pointer (some ⟨D + 1 + 1, 0, none⟩)]) rfl trivial (enters_of Try.func97 (by kernel_rfl) rfl)
    (ins_rows 4 (by omega) (D + 1) (D + 1 + 1) (D + 1 + 1 + 1) D A B xs us c d Htx Htu hc hd (by omega) (by omega) (by omega) (by omega) (by omega) W0 ⟨bN, bP, hI1, hI2⟩ (by omega)) (Below.refl _ _) (fun h k => h.t k)
    (fun W r r' h => keepD_turn h) (fun _ => rfl)
    (fun pre W => Boxed W D 2 (.int .i64 (pre.length : Int)) ∧ Below w.heap.size w W)
    (fun _ _ _ => False)
    (fun pre X Y r' ⟨h1, h3⟩ hg hr => ⟨h1.kept hg (fun e => by have := (hr _ e.symm).1; omega), h3.grown hg h3.size (fun k e => by have := (hr _ e).1; omega)⟩)
    (fun pre X Y g ⟨h1, h3⟩ hg hr => ⟨h1.kept hg (fun e => by injection e with e; omega), h3.grown hg h3.size (fun k e => by injection e with e; omega)⟩)
    (fun _ _ _ _ _ hs _ _ => hs)
    (RowI.from _ _ _ _)
    ⟨bQ, hB2⟩
    (fun x => { tmps := #[.agg #[.slice A xs.length c], .agg #[.slice B us.length d], .pointer (some ⟨w.heap.size, 0, none⟩), .pointer (some ⟨w.heap.size + 1, 0, none⟩), .int .i64 0, .int .i64 0, .int .i64 0, .pointer (some ⟨D, 0, none⟩), .agg #[.slice A xs.length c], .agg #[.slice B us.length d], .int .i64 0, .int .i64 0, .bool false, undef, .pointer (some ⟨w.heap.size, 0, none⟩), .slice A xs.length c, .pointer (some ⟨w.heap.size + 1, 0, none⟩), .slice B us.length d, .func (.func 97) #[] #[.pointer (some ⟨D + 1, 0, none⟩), .pointer (some ⟨D + 1 + 1, 0, none⟩)], x, undef, undef, undef], defers := [] }) ?assign ?body ?done ?stop
  case assign =>
    intro l x W K hK
    gi_wp2
    simpa using hK
  case body =>
    rintro l pre x W ⟨h1, h3⟩ ⟨l', g, c', hk, rfl, _⟩
    have hl1 : pre.length < (insideLists us xs).length := (List.getElem?_eq_some_iff.1 hk).1
    have e3 : ((pre ++ [Value.slice (some ⟨g, 0, none⟩) xs.length c']).length : Int) = (pre.length : Int) + 1 := by simp
    generalize pre.length = m at *
    have c1 := h1.cell
    have f1 := h1.frozen
    have w1' : IntKind.i64.wrap ((m : Int) + 1) = (m : Int) + 1 := IntWalk.i64_in _ (by omega)
    clear hk
    gi_wp2
    refine ⟨(KeepsOthers.setCell W _ _).from _, keepD_box, ?_, below_setCell h3 (by omega) _⟩
    rw [e3]
    exact h1.set _
  case done =>
    rintro D' ys W hD hys ⟨h1, h3⟩ hK
    have c1 := h1.cell
    have HK := Lib.hid hK
    have hl : Hid (ys.length = (insideLists us xs).length) := hys
    clear hys hK
    rw [hl.out] at h1 c1
    gi_wp2
    refine ⟨by simp, .inl ⟨_, _, rfl, run_takeDeferred HK.out, ?_⟩⟩
    refine ⟨.tuple #[.int .i64 ((insideLists us xs).length : Int), .int .i64 0], by simp [results, Try.results50, go_sem], ?_⟩
    exact ⟨rfl, h3.trans (belowK_b (w := w) (Nat.le_refl _) W D' _ _ (by omega) HK.out rfl rfl)⟩
  case stop =>
    rintro D' cc pre W hD _ h hK
    exact h.elim

set_option maxRecDepth 100000 in
set_option maxHeartbeats 2000000 in
theorem impl_CountInside : GivesTTN 50 F_CountInside := by
  intro A B xs us c d w hx hu hcc hdd hA hB
  by_cases h0 : codeI xs us = 0
  · rw [F_CountIn_yes h0]
    exact (callsIn_wide (n := 5)).1 (impl_CountInside_in A B xs us c d w hcc hdd hA hB h0)
  · rw [F_CountIn_no h0]
    have hc := codeOfInside A B xs us c d ((w.alloc (.cells #[.slice A xs.length c] 24)).alloc (.cells #[.slice B us.length d] 24)) (by omega) (by omega) (Lib.hid ((hA.al _).al _)) (Lib.hid ((hB.al _).al _))
    have cT : ((w.alloc (.cells #[.slice A xs.length c] 24)).alloc (.cells #[.slice B us.length d] 24)).cell? ⟨w.heap.size, 0, none⟩ = some (.slice A xs.length c) := cell_al (by simp) _
    generalize codeI xs us = r at *
    have hq : (r != 0) = true := by simp [h0]
    have HC := Lib.hid hc
    clear hc h0
    go_enter Try.func50, Try.ntmps50
    go_wp2_with fail
    refine HC.out.mono ?_
    rintro e w1 ⟨rfl, hb⟩
    have hB := btr (bal (bal (b0 w) _) _) hb.out
    go_wp2
    go_ret2
    exact ⟨rfl, hB⟩

set_option maxRecDepth 100000 in
set_option maxHeartbeats 4000000 in
theorem spec_CountInside : GivesTTN 49 F_CountInside := by
  intro A B xs us c d w hx hu hcc hdd hA hB
  obtain ⟨W, hW⟩ : ∃ W, W = (w.alloc (.cells #[.slice A xs.length c] 24)).alloc (.cells #[.slice B us.length d] 24) := ⟨_, rfl⟩
  have cT : Hid (W.cell? ⟨w.heap.size, 0, none⟩ = some (.slice A xs.length c)) := by subst hW; exact cell_al (by simp) _
  have cU : Hid (W.cell? ⟨w.heap.size + 1, 0, none⟩ = some (.slice B us.length d)) := by subst hW; exact World.cell?_alloc_at _ _ _ _ (by simp)
  have hBW : Hid (Below w.heap.size w W) := by subst hW; exact bal (bal (b0 w) _) _
  have HC := Lib.hid (l04Both A B xs us c d W (by omega) (by omega) (Lib.hid (hA.be hBW.out)) (Lib.hid (hB.be hBW.out)))
  have HW := Lib.hid hW
  clear hW
  by_cases h0 : codeI xs us = 0
  · obtain ⟨htx, htu, h12⟩ := codeI_zero h0
    have hxl := (M.tree_len htx).2
    rw [F_CountIn_yes h0]
    rw [h0] at HC
    have HL := Lib.hid (fun (W' : World) (hb : Below w.heap.size w W') => l04Lists_all us xs (Lib.hid htu) h12 hxl xs.length A B (some ⟨W'.heap.size, 0, none⟩) c d 0 0 [] false (W'.alloc (.cells #[] 2)) (by simp) List.Pairwise.nil (fun x h => by cases h) rfl (Nat.le_refl _) (Lib.hid (fun h => by cases h)) (Lib.hid ((hA.be hb).al _)) (Lib.hid ((hB.be hb).al _)) (Lib.hid (Ints.nil_ _ _ _)))
    have hF : Hid (cntOf false ((M.lists us.length xs.length [] (nextOf [])).filter (okIn us xs)) = (insideLists us xs).length) := rfl
    generalize (M.lists us.length xs.length [] (nextOf [])).filter (okIn us xs) = F at *
    generalize (insideLists us xs).length = N at *
    clear h0 htx htu
    go_enter Try.func49, Try.ntmps49
    go_wp2_with fail
    rw [← HW.out]
    go_wp2_with fail
    refine HC.out.mono ?_
    rintro e w1 ⟨rfl, hb1⟩
    have hB1 := Lib.hid (btr hBW.out hb1.out)
    have cT2 := cell_be cT.out hb1.out
    have cU2 := cell_be cU.out hb1.out
    go_wp2_with fail
    refine (HL.out w1 hB1.out).mono ?_
    rintro e w2 ⟨A', m', c', rfl, _, hb2⟩
    have hB2 := Lib.hid (btr (bal hB1.out _) hb2.out)
    rw [hF.out]
    go_wp2
    go_ret2
    exact ⟨rfl, hB2.out⟩
  · rw [F_CountIn_no h0]
    generalize codeI xs us = r at *
    have hq : (r != 0) = true := by simp [h0]
    clear h0
    go_enter Try.func49, Try.ntmps49
    go_wp2_with fail
    rw [← HW.out]
    have cT2 := cT.out
    have cU2 := cU.out
    go_wp2_with fail
    refine HC.out.mono ?_
    rintro e w1 ⟨rfl, hb1⟩
    have hB1 := Lib.hid (btr hBW.out hb1.out)
    go_wp2
    go_ret2
    exact ⟨rfl, hB1.out⟩
end Go.Proofs.Ytbnnlifpldgcfaa
