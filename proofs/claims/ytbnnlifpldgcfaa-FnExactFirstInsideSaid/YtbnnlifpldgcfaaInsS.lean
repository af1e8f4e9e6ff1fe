/- Trees inside others by lists of nodes, the model's: l04Left, l01Same, l04Inside. -/
import Derived.Test.YtbnnlifpldgcfaaFnIsInsideBy
import Derived.Test.YtbnnlifpldgcfaaFnParseSpec
import Derived.Deep.RegionHeld3
namespace Go.Proofs.Ytbnnlifpldgcfaa
open Go.RowKit

/-- places as numbers -/
def nums (st : List Nat) : List Int := st.map fun (j : Nat) => (j : Int)
theorem nums_len (st : List Nat) : (nums st).length = st.length := by simp [nums]
theorem nums_snoc (st : List Nat) (j : Nat) : nums (st ++ [j]) = nums st ++ [(j : Int)] := by simp [nums]
theorem nums_pop (st : List Nat) (j : Nat) : (nums (st ++ [j])).dropLast = nums st := by rw [nums_snoc]; simp
theorem snoc_of {st : List Nat} (h : 0 < st.length) : ∃ st' j, st = st' ++ [j] := ⟨st.dropLast, st.getLast (List.length_pos_iff.1 h), (List.dropLast_concat_getLast _).symm⟩
/-- what l04Left finds -/
def leftOk (us vs : List Int) : Bool := (List.range vs.length).all fun i => i == 0 || M.pa us (nodeF vs) i != -1
theorem left_no {us vs : List Int} {i : Nat} (h0 : 0 < i) (hi : i < vs.length) (h : M.pa us (nodeF vs) i = -1) : leftOk us vs = false := by
  cases hl : leftOk us vs
  · rfl
  · have := List.all_eq_true.1 hl i (List.mem_range.2 hi)
    simp only [h, Bool.or_eq_true, beq_iff_eq, bne_self_eq_false, Bool.false_eq_true, or_false] at this
    omega
theorem left_yes {us vs : List Int} (h : ∀ i, 0 < i → i < vs.length → M.pa us (nodeF vs) i ≠ -1) : leftOk us vs = true := by
  refine List.all_eq_true.2 fun i hi => ?_
  rcases Nat.eq_zero_or_pos i with h0 | h0
  · rw [h0]; rfl
  · have := h i h0 (List.mem_range.1 hi)
    simp [this]
theorem inB_left {us vs xs : List Int} (h : vs.length = xs.length) : inB us vs xs = (leftOk us vs && (M.degs us (nodeF vs) vs.length == xs)) := by rw [inB, leftOk, h]
theorem degs_small {us : List Int} {f : Nat → Nat} {n : Nat} : ∀ x ∈ M.degs us f n, 0 ≤ x ∧ x ≤ n := fun x hx => by
  simp only [M.degs, List.mem_map] at hx
  obtain ⟨j, _, rfl⟩ := hx
  have := List.countP_le_length (p := fun q => M.pa us f q == (j : Int)) (l := List.range n)
  rw [List.length_range] at this
  omega

def lenV : Value → Nat
  | .slice _ n _ => n
  | _ => 0
def LeftQ (D : List Int) (R : Bool) (n : Nat) (w : World) (en : Ending) (w' : World) : Prop := ∃ A' m' c', en = .returned (.tuple #[.agg #[.slice A' m' c'], .bool R]) ∧ Hid (R = true → m' = n ∧ Ints w' w'.heap.size A' D) ∧ Hid (Below w.heap.size w w')
theorem leftQ_mk {D : List Int} {R : Bool} {n m' c' : Nat} {A' : Option Addr} {w w' : World} (h1 : R = true → m' = n ∧ Ints w' w'.heap.size A' D) (h2 : Below w.heap.size w w') : LeftQ D R n w (.returned (.tuple #[.agg #[.slice A' m' c'], .bool R])) w' := ⟨A', m', c', rfl, h1, h2⟩
def StkPre (us : List Int) (f : Nat → Nat) (k : Nat) (st : List Nat) : Prop := (k = 0 ∧ st = []) ∨ (0 < k ∧ st = M.stk us f (f (k - 1)) k)
theorem stkPre_at {us : List Int} {f : Nat → Nat} {k n : Nat} {st : List Nat} (h : StkPre us f k st) (hk : k < n) (hasc : ∀ i j, i < j → j < n → f i < f j) : M.StkAt us f k st := by
  rcases h with ⟨rfl, rfl⟩ | ⟨h0, rfl⟩
  · exact M.stk_start
  · obtain ⟨q, rfl⟩ : ∃ q, k = q + 1 := ⟨k - 1, by omega⟩
    exact M.stk_round fun j q h1 h2 => hasc j q h1 (by omega)
theorem two_start (w : World) (o : Value) : Two (((((w.alloc (.cells #[o] 24)).alloc (.cells #[.slice none 0 0] 24))).alloc (.cells #[] 2)).alloc (.cells #[] 2)) (w.heap.size + 1 + 1)
    (.slice (some ⟨w.heap.size + 1 + 1, 0, none⟩) 0 0) (.slice (some ⟨w.heap.size + 1 + 1 + 1, 0, none⟩) 0 0) [] [] := by
  have := two_empty (w.alloc (.cells #[o] 24)) 24
  simpa using this

set_option maxHeartbeats 8000000 in
set_option maxRecDepth 100000 in
theorem l04Left (B C : Option Addr) (us vs : List Int) (d n e : Nat) (w : World) (hu : Hid (M.isTree us = true)) (hn : Hid (vs.length = n)) (hn24 : n ≤ 24) (hne : n ≤ e) (hg : Hid (M.goodTo vs us.length vs.length = true)) (hB : Hid (Ints w w.heap.size B us)) (hC : Hid (Ints w w.heap.size C vs)) :
    Calls Try.prog 103 #[.agg #[.slice B us.length d], .slice C n e] w (LeftQ (M.degs us (nodeF vs) n) (leftOk us vs) n w) := by
  obtain ⟨W0, hW0⟩ : ∃ W0, (w.alloc (.cells #[.slice B us.length d] 24)).alloc (.cells #[.slice none 0 0] 24) = W0 := ⟨_, rfl⟩
  have htwo := two_start w (.slice B us.length d)
  rw [hW0] at htwo
  have htwo' := Lib.hid htwo
  have hz0 : W0.heap.size = w.heap.size + 1 + 1 := by rw [← hW0]; simp
  have cU : Hid (W0.cell? ⟨w.heap.size, 0, none⟩ = some (.slice B us.length d)) := by rw [← hW0]; exact cell_al (by simp) _
  have hR : Hid (W0.heap[w.heap.size + 1]? = some (.cells #[.slice none 0 0] 24 (0, 0))) := by
    rw [← hW0]
    have := World.alloc_heap_new (w.alloc (.cells #[.slice B us.length d] 24)) (.cells #[.slice none 0 0] 24)
    simpa [Hid] using this
  have hBW : Hid (Below w.heap.size w W0) := by rw [← hW0]; exact bal (bal (b0 w) _) _
  have hst0 : Hid (Below (w.heap.size + 1 + 1) W0 ((W0.alloc (.cells #[] 2)).alloc (.cells #[] 2))) := ((Below.refl _ _).alloc (by omega) _).alloc (by simp; omega) _
  have hu24 := (M.tree_len hu.out).2
  have hasc : Hid (∀ i j, i < j → j < n → nodeF vs i < nodeF vs j) := fun i j h1 h2 => node_asc hg.out i j h1 (by rw [hn.out]; exact h2)
  have hrng : Hid (∀ i x, vs[i]? = some x → x = (nodeF vs i : Int) ∧ nodeF vs i < us.length) := fun i x hx => by
    have := M.goodTo_range hg.out x (List.mem_of_getElem? hx)
    rw [nodeF_at hx]; omega
  have hNo : Hid (∀ i, 0 < i → i < n → M.pa us (nodeF vs) i = -1 → leftOk us vs = false) := fun i h0 hi h => left_no h0 (by rw [hn.out]; exact hi) h
  have hYes : Hid ((∀ i, 0 < i → i < n → M.pa us (nodeF vs) i ≠ -1) → leftOk us vs = true) := fun h => left_yes (by rw [hn.out]; exact h)
  have hEnd : Hid (∀ i W, i < n → Hid (Below w.heap.size w W) → Calls Try.prog 70 #[.agg #[.slice B us.length d], .int .i64 (nodeF vs i : Int)] W fun e w' => e = .returned (.int .i64 (M.fin us (nodeF vs i) : Int)) ∧ Hid (Below W.heap.size W w')) := fun i W hi hb => by
    obtain ⟨_, hlt⟩ := hrng.out i _ (List.getElem?_eq_getElem (by rw [hn.out]; exact hi))
    exact l01End B us d (nodeF vs i) (M.fin us (nodeF vs i)) W rfl hu24 (Lib.hid (M.tree_ok hu.out hlt)) (hB.out.be hb.out)
  have hfin : Hid (∀ i, M.fin us (nodeF vs i) ≤ 100000) := fun i => by
    by_cases h : nodeF vs i < us.length
    · have := M.fin_le (xs := us) (v := nodeF vs i) (by omega); omega
    · have h1 := M.span_le (us.drop (nodeF vs i)) 1
      rw [List.length_drop] at h1
      by_cases h2 : i < n
      · obtain ⟨_, hlt⟩ := hrng.out i _ (List.getElem?_eq_getElem (by rw [hn.out]; exact h2))
        omega
      · have h3 : vs[i]? = none := List.getElem?_eq_none (by rw [hn.out]; omega)
        have h4 : nodeF vs i = 0 := by rw [nodeF, h3]; rfl
        unfold M.fin
        omega
  have hdeg : Hid (∀ (k j : Nat) (y : Int), (M.degs us (nodeF vs) k ++ [0])[j]? = some y → 0 ≤ y ∧ y ≤ k) := fun k j y h => by
    have := List.mem_of_getElem? h
    rcases List.mem_append.1 this with h | h
    · exact degs_small y h
    · rw [List.mem_singleton.1 h]; omega
  obtain ⟨R, hRl⟩ : ∃ R, Hid (leftOk us vs = R) := ⟨_, rfl⟩
  rw [hRl.out] at hNo hYes ⊢
  have HW := Lib.hid hW0
  generalize nodeF vs = f at *
  clear hW0 htwo hB hRl hg
  go_enter Try.func103, Try.ntmps103
  go_wp2
  rw [HW.out]
  go_loopw [6, 7, 8] (fun q1 q2 qi wr => ∃ (k n2 c1 c2 : Nat) (A1 A2 : Option Addr) (st : List Nat), k ≤ n ∧ qi = .int .i64 (k : Int) ∧ q1 = .slice A1 k c1 ∧ q2 = .slice A2 n2 c2 ∧ n2 ≤ k ∧ Hid (st.length = n2) ∧ Hid (Two wr (w.heap.size + 1 + 1) (.slice A1 k c1) (.slice A2 n2 c2) (M.degs us f k) (nums st)) ∧ Hid (StkPre us f k st) ∧ Hid (∀ i, 0 < i → i < k → M.pa us f i ≠ -1) ∧ Hid (Below (w.heap.size + 1 + 1) W0 wr)) (fun _ _ qi _ => n - (intOf qi).toNat)
  case atStart => exact ⟨0, 0, 0, 0, _, _, [], Nat.zero_le _, rfl, rfl, rfl, by omega, rfl, htwo', .inl ⟨rfl, rfl⟩, fun i h1 h2 => by omega, hst0⟩
  case round =>
    obtain ⟨k, n2, c1, c2, A1, A2, st, hk, rfl, rfl, rfl, hn2, hsl, hT, hS, hpa, hb⟩ := hrel
    clear htwo' hst0 HW
    have hzr := hb.out.size
    rw [hz0] at hzr
    by_cases hlt : k < n
    · have hki : (k : Int) < (n : Int) := by omega
      have hk0 : (0 : Int) ≤ (k : Int) := by omega
      have hS2 := Lib.hid (stkPre_at hS.out hlt hasc.out)
      have hkm : k ≤ 1000000 := by omega
      have hkz : k < vs.length := by rw [hn.out]; exact hlt
      obtain ⟨b, off, rfl, hbl, hc⟩ := hC.out (by omega)
      have hce : Hid (∀ i, i < n → w.cell? ⟨b, off + i, none⟩ = some (.int .i64 (f i : Int))) := fun i hi => by
        have h1 : vs[i]? = some (vs[i]'(by rw [hn.out]; exact hi)) := List.getElem?_eq_getElem _
        rw [hc i _ h1, (hrng.out i _ h1).1]
      have hlo : Hid (∀ W, Below (w.heap.size + 1 + 1) W0 W → ∀ i, i < n → W.cell? ⟨b, off + i, none⟩ = some (.int .i64 (f i : Int))) := fun W hW i hi => ((hBW.out.trans (hW.mono (by omega))).cell (p := ⟨b, off + i, none⟩) hbl).trans (hce.out i hi)
      have hcu : Hid (∀ W, Below (w.heap.size + 1 + 1) W0 W → W.cell? ⟨w.heap.size, 0, none⟩ = some (.slice B us.length d)) := fun W hW => (hW.cell (p := ⟨w.heap.size, 0, none⟩) (by show w.heap.size < _; omega)).trans cU.out
      clear hc
      go_wp2_with (at_builtin; refine pushTwo rfl (.tmp 17) (.tmp 18) rfl wr (w.heap.size + 1 + 1) A1 k c1 (.slice A2 n2 c2) (M.degs us f k) (nums st) 0 rfl _ rfl rfl hT hzr hkm ?_; intro A3 c3 w3 ht3 hb3)
      have hb3' : Hid (Below (w.heap.size + 1 + 1) W0 w3) := hb.out.trans hb3.out
      clear hT hb hb3 hS hzr
      go_loopw [7] (fun q wr => ∃ (m : Nat) (s : List Nat), q = .slice A2 m c2 ∧ m ≤ k ∧ Hid (s.length = m) ∧ Hid (Two wr (w.heap.size + 1 + 1) (.slice A3 (k + 1) c3) (.slice A2 m c2) (M.degs us f k ++ [0]) (nums s)) ∧ Hid (M.StkAt us f k s) ∧ Hid (Below (w.heap.size + 1 + 1) W0 wr)) (fun q _ => lenV q)
      case atStart => exact ⟨n2, st, rfl, hn2, hsl, ht3, hS2, hb3'⟩
      case round =>
        obtain ⟨m, s, rfl, hm, hsl2, hT, hS3, hb⟩ := hrel
        clear ht3 hS2 hb3' hsl
        have hzr := hb.out.size
        rw [hz0] at hzr
        by_cases hm0 : m = 0
        · subst hm0
          have hs0 : s = [] := List.eq_nil_of_length_eq_zero hsl2.out
          subst hs0
          have hpk := M.stk_empty hS3.out
          have hg0 : decide ((0 : Int) < ((0 : Nat) : Int)) = false := rfl
          have hg1 : ((((0 : Nat) : Int)) == 0) = true := rfl
          by_cases hk00 : k = 0
          · subst hk00
            have hTz := Lib.hid hT.out.symm
            have hzrd : ∀ q, w.heap.size + 1 + 1 ≤ (wr.drewN q).heap.size := fun q => hzr
            have hfu : Hid (f 0 < us.length) := (hrng.out 0 _ (List.getElem?_eq_getElem hkz)).2
            have hd1 : Hid (M.degs us f (0 + 1) = M.degs us f 0 ++ [0]) := M.degs_new hpk
            have hs1 : Hid (M.stk us f (f 0) 1 = [0]) := M.stk_alone hfu.out
            clear hEnd hfin hdeg hNo hYes hlo hcu hT hpk hS3
            go_wp2
            go_quiet (fail)
            have hTq : Hid (Two (wr.drewN nq) (w.heap.size + 1 + 1) (.slice A2 0 c2) (.slice A3 (0 + 1) c3) (nums []) (M.degs us f 0 ++ [0])) := hTz
            have hbq : Hid (Below (w.heap.size + 1 + 1) W0 (wr.drewN nq)) := below_drewN hb.out _
            have hzq := hzrd nq
            clear hTz hb
            go_wp2_with (at_builtin; refine pushTwo rfl (.tmp 63) (.tmp 65) rfl (wr.drewN nq) (w.heap.size + 1 + 1) A2 0 c2 (.slice A3 (0 + 1) c3) (nums []) (M.degs us f 0 ++ [0]) 0 rfl _ rfl rfl hTq hzq (by omega) ?_; intro A4 c4 w4 ht4 hb4)
            go_roundw
            case rel => exact ⟨0 + 1, 0 + 1, c3, c4, A3, A4, [0], hlt, by go_num, rfl, rfl, by omega, rfl, by rw [hd1.out]; exact ht4.out.symm, .inr ⟨by omega, hs1.out.symm⟩, fun i h1 h2 => by omega, hbq.out.trans hb4.out⟩
            case measure => simp [intOf]; omega
          · have hk0' : (0 : Int) < (k : Int) := by omega
            have hR0 : R = false := hNo.out k (by omega) hlt hpk
            subst hR0
            have hres := (hb.out.block (w.heap.size + 1) (by omega)).trans hR.out
            have hfin2 : Hid (Below w.heap.size w wr) := hBW.out.trans (hb.out.mono (by omega))
            have Hres := Lib.hid hres
            clear hEnd hfin hdeg hNo hYes hlo hcu hT hpk hS3 hres hb
            go_wp2
            go_quiet (fail)
            have hr2 : (wr.drewN nq).cell? ⟨w.heap.size + 1, 0, none⟩ = some (.slice none 0 0) := cell_of_one Hres.out
            have hf2 : (wr.drewN nq).frozen? ⟨w.heap.size + 1, 0, none⟩ = false := free_of_one Hres.out
            go_wp2
            have e1 : ((wr.drewN nq).setCell ⟨w.heap.size + 1, 0, none⟩ (.slice none 0 0)).cell? ⟨w.heap.size + 1, 0, none⟩ = some (.slice none 0 0) := (Boxed.set (W := wr.drewN nq) (.slice none 0 0) Hres.out).cell
            refine bodyPost_ret (v := .tuple #[.agg #[.slice none 0 0], .bool false]) (by simp [results, Try.results103, go_sem, e1]) rfl ?_
            exact leftQ_mk (fun h => by cases h) (below_setCell (below_drewN hfin2.out _) (by omega) _)
        · have hmp : 0 < m := by omega
          obtain ⟨s', j, rfl⟩ := snoc_of (st := s) (by rw [hsl2.out]; exact hmp)
          have hsl3 : Hid (s'.length = m - 1) := by have := hsl2.out; rw [List.length_append, List.length_singleton] at this; show _ = _; omega
          have hjk := M.stk_lt hS3.out
          obtain ⟨g2, rfl⟩ := hT.out.symm.shape.2 hmp
          obtain ⟨g1, rfl⟩ := hT.out.shape.2 (by omega)
          have hg0 : decide ((0 : Int) < (m : Int)) = true := decide_eq_true (by omega)
          have hmi : (0 : Int) < (m : Int) := by omega
          have hl0 : (0 : Int) ≤ (m : Int) - 1 := by omega
          have hl1 : (m : Int) - 1 < (m : Int) := by omega
          have hl2 : (1 : Int) ≤ (m : Int) := by omega
          have hcast : ((m : Int) - 1).toNat = m - 1 := by omega
          have hw1 : IntKind.i64.wrap ((m : Int) - 1) = (m : Int) - 1 := IntWalk.i64_in _ (by omega)
          have hm1 : ((m : Int) == 0) = false := beq_eq_false_iff_ne.2 (by omega)
          have hjn : (j : Int) < (n : Int) := by omega
          have hj0 : (0 : Int) ≤ (j : Int) := by omega
          have htop : Hid ((nums (s' ++ [j]))[m - 1]? = some (j : Int)) := by
            show _ = _
            rw [nums_snoc, ← hsl3.out, ← nums_len, List.getElem?_append_right (Nat.le_refl _), Nat.sub_self]; rfl
          have hnl : (nums (s' ++ [j])).length = m := by rw [nums_len]; exact hsl2.out
          have hgt := own64_cell hT.out.2.1 hnl htop.out
          have ct := hgt.1
          have hg2l := hgt.2.2.2
          have cx := hlo.out wr hb.out k hlt
          have cj := hlo.out wr hb.out j (by omega)
          have cu := hcu.out wr hb.out
          have hzW := hb.out
          have HK : Hid (∀ W, Hid (Below wr.heap.size wr W) → W.cell? ⟨b, off + k, none⟩ = some (.int .i64 (f k : Int)) ∧ W.cell? ⟨b, off + j, none⟩ = some (.int .i64 (f j : Int)) ∧ W.cell? ⟨g2, m - 1, none⟩ = some (.int .i64 (j : Int)) ∧ W.cell? ⟨w.heap.size, 0, none⟩ = some (.slice B us.length d)) := fun W hW =>
            ⟨hlo.out W (hzW.trans (hW.out.mono (by omega))) k hlt, hlo.out W (hzW.trans (hW.out.mono (by omega))) j (by omega), (hW.out.cell (p := ⟨g2, m - 1, none⟩) hg2l).trans ct, hcu.out W (hzW.trans (hW.out.mono (by omega)))⟩
          have HE : Hid (∀ W, Hid (Below wr.heap.size wr W) → Calls Try.prog 70 #[.agg #[.slice B us.length d], .int .i64 (f j : Int)] W fun e w' => e = .returned (.int .i64 (M.fin us (f j) : Int)) ∧ Hid (Below wr.heap.size wr w')) := fun W hW =>
            (hEnd.out j W (by omega) (hBW.out.trans ((hzW.mono (by omega)).trans (hW.out.mono (by omega))))).mono fun e w' ⟨he, hb⟩ => ⟨he, btr hW.out hb.out⟩
          have hK0 : Hid (Below wr.heap.size wr wr.drew) := (Below.refl _ _).drew
          have g0 : wr.drew.cell? ⟨b, off + k, none⟩ = some (.int .i64 (f k : Int)) := cx
          have g3 : wr.drew.cell? ⟨b, off + j, none⟩ = some (.int .i64 (f j : Int)) := cj
          have g4 : wr.drew.cell? ⟨g2, m - 1, none⟩ = some (.int .i64 (j : Int)) := ct
          have g5 : wr.drew.cell? ⟨w.heap.size, 0, none⟩ = some (.slice B us.length d) := cu
          have hf1 := hfin.out j
          by_cases hEX : M.fin us (f j) ≤ f k
          · have hEXi : (M.fin us (f j) : Int) ≤ (f k : Int) := by omega
            have hpop := Lib.hid (M.stk_pop hS3.out hEX)
            have hcap0 := hT.out.symm.cap
            have hcap : (m : Int) - 1 ≤ (c2 : Int) := by omega
            generalize M.fin us (f j) = E at *
            clear hfin hdeg hNo hYes hcu hS3 hgt hEX htop
            go_wp2
            go_region_held3 (fun w' => w'.cell? ⟨b, off + k, none⟩ = some (.int .i64 (f k : Int)) ∧ w'.cell? ⟨b, off + j, none⟩ = some (.int .i64 (f j : Int)) ∧ w'.cell? ⟨g2, m - 1, none⟩ = some (.int .i64 (j : Int)) ∧ w'.cell? ⟨w.heap.size, 0, none⟩ = some (.slice B us.length d) ∧ Hid (Below wr.heap.size wr w')) (first | exact ⟨g0, g3, g4, g5, hK0⟩ | exact ⟨(HK.out _ (by assumption)).1, (HK.out _ (by assumption)).2.1, (HK.out _ (by assumption)).2.2.1, (HK.out _ (by assumption)).2.2.2, by assumption⟩) (first | (go_at_call 70; refine (HE.out _ (by assumption)).mono ?_; rintro e w7 ⟨rfl, hb7⟩))
            have hT7 : Hid (Two w7 (w.heap.size + 1 + 1) (.slice (some ⟨g1, 0, none⟩) (k + 1) c3) (.slice (some ⟨g2, 0, none⟩) (m - 1) c2) (M.degs us f k ++ [0]) (nums s')) := by
              have h1 : Two w7 (w.heap.size + 1 + 1) (.slice (some ⟨g1, 0, none⟩) (k + 1) c3) (.slice (some ⟨g2, 0, none⟩) m c2) (M.degs us f k ++ [0]) (nums (s' ++ [j])) := ⟨own_be hT.out.1 hb7.out, own_be hT.out.2.1 hb7.out, hT.out.2.2⟩
              have h2 := h1.pop hmp
              rwa [nums_pop] at h2
            have hB7 : Hid (Below (w.heap.size + 1 + 1) W0 w7) := hb.out.trans (hb7.out.mono (by omega))
            clear hT hb hb7 HK HE g0 g3 g4 g5 hK0 ct cx cj cu
            go_wp2
            go_roundw
            case rel => exact ⟨m - 1, s', rfl, by omega, hsl3, hT7, hpop, hB7⟩
            case measure => simp [lenV]; omega
          · have hEXi : ¬ (M.fin us (f j) : Int) ≤ (f k : Int) := by omega
            have hfd := M.stk_found hu.out (fun q hq => (hrng.out q _ (List.getElem?_eq_getElem (by rw [hn.out]; omega))).2) (fun a q h1 h2 => hasc.out a q h1 (by omega)) hS3.out (by omega)
            have hkp : (0 : Int) < (k : Int) := by omega
            obtain ⟨y, hy⟩ : ∃ y, (M.degs us f k ++ [0])[j]? = some y := ⟨_, List.getElem?_eq_getElem (by rw [List.length_append, M.degs_len]; omega)⟩
            have hyr := hdeg.out k j y hy
            have hyr0 := hyr.1
            have hyr1 := hyr.2
            have hdl : (M.degs us f k ++ [0]).length = k + 1 := by rw [List.length_append, M.degs_len]; rfl
            have hunder : Hid (M.degs us f (k + 1) = (M.degs us f k ++ [0]).set j (y + 1)) := by
              show _ = _
              rw [M.degs_under hfd.2.1 hfd.1]
              congr 2
              rw [List.getElem?_append_left (by rw [M.degs_len]; exact hfd.1)] at hy
              rw [hy]; rfl
            have hstk := Lib.hid hfd.2.2
            have hpaj := Lib.hid hfd.2.1
            have hjki : (j : Int) < (k : Int) + 1 := by omega
            have Hy := Lib.hid hy
            have hdll := Lib.hid hdl
            generalize M.fin us (f j) = E at *
            clear hfin hdeg hNo hYes hcu hS3 hgt hEX hfd hy hyr hdl
            go_wp2
            go_region_held3 (fun w' => w'.cell? ⟨b, off + k, none⟩ = some (.int .i64 (f k : Int)) ∧ w'.cell? ⟨b, off + j, none⟩ = some (.int .i64 (f j : Int)) ∧ w'.cell? ⟨g2, m - 1, none⟩ = some (.int .i64 (j : Int)) ∧ w'.cell? ⟨w.heap.size, 0, none⟩ = some (.slice B us.length d) ∧ Hid (Below wr.heap.size wr w')) (first | exact ⟨g0, g3, g4, g5, hK0⟩ | exact ⟨(HK.out _ (by assumption)).1, (HK.out _ (by assumption)).2.1, (HK.out _ (by assumption)).2.2.1, (HK.out _ (by assumption)).2.2.2, by assumption⟩) (first | (go_at_call 70; refine (HE.out _ (by assumption)).mono ?_; rintro e w7 ⟨rfl, hb7⟩))
            have hT7 : Hid (Two w7 (w.heap.size + 1 + 1) (.slice (some ⟨g1, 0, none⟩) (k + 1) c3) (.slice (some ⟨g2, 0, none⟩) m c2) (M.degs us f k ++ [0]) (nums (s' ++ [j]))) := ⟨own_be hT.out.1 hb7.out, own_be hT.out.2.1 hb7.out, hT.out.2.2⟩
            have hB7 : Hid (Below (w.heap.size + 1 + 1) W0 w7) := hb.out.trans (hb7.out.mono (by omega))
            have ct7 := (own64_cell hT7.out.2.1 hnl htop.out).1
            obtain ⟨cd7, fd7, gl7, _⟩ := own64_cell hT7.out.1 hdll.out Hy.out
            have hz7 : w.heap.size + 1 + 1 ≤ w7.heap.size := by have := hB7.out.size; omega
            have hset : Hid (Two (w7.setCell ⟨g1, j, none⟩ (.int .i64 (y + 1))) (w.heap.size + 1 + 1) (.slice (some ⟨g2, 0, none⟩) m c2) (.slice (some ⟨g1, 0, none⟩) (k + 1) c3) (nums (s' ++ [j])) ((M.degs us f k ++ [0]).set j (y + 1))) := (hT7.out.set hdll.out j (y + 1)).symm
            have hB8 : Hid (Below (w.heap.size + 1 + 1) W0 (w7.setCell ⟨g1, j, none⟩ (.int .i64 (y + 1)))) := below_setCell hB7.out (by omega) _
            have hz8 : w.heap.size + 1 + 1 ≤ (w7.setCell ⟨g1, j, none⟩ (.int .i64 (y + 1))).heap.size := by simpa using hz7
            have hm6 : m ≤ 1000000 := by omega
            clear hT hb hb7 HK HE g0 g3 g4 g5 hK0 ct cx cj cu hT7 hB7
            go_wp2_with (at_builtin; refine pushTwo rfl (.tmp 63) (.tmp 65) rfl (w7.setCell ⟨g1, j, none⟩ (.int .i64 (y + 1))) (w.heap.size + 1 + 1) (some ⟨g2, 0, none⟩) m c2 (.slice (some ⟨g1, 0, none⟩) (k + 1) c3) (nums (s' ++ [j])) ((M.degs us f k ++ [0]).set j (y + 1)) (k : Int) rfl _ rfl (by simp) hset hz8 hm6 ?_; intro A4 c4 w4 ht4 hb4)
            have hTn : Hid (Two w4 (w.heap.size + 1 + 1) (.slice (some ⟨g1, 0, none⟩) (k + 1) c3) (.slice A4 (m + 1) c4) (M.degs us f (k + 1)) (nums (s' ++ [j] ++ [k]))) := by
              rw [hunder.out, nums_snoc (s' ++ [j]) k]; exact ht4.out.symm
            have hpan : Hid (∀ i, 0 < i → i < k + 1 → M.pa us f i ≠ -1) := fun i h1 h2 => by
              rcases Nat.lt_or_ge i k with h | h
              · exact hpa.out i h1 h
              · have : i = k := by omega
                rw [this, hpaj.out]; omega
            have hsln : Hid ((s' ++ [j] ++ [k]).length = m + 1) := by show _ = _; rw [List.length_append, hsl2.out]; rfl
            have hbn : Hid (Below (w.heap.size + 1 + 1) W0 w4) := hB8.out.trans hb4.out
            clear ht4 hb4 hB8 hset hpa
            go_roundw
            case rel => exact ⟨k + 1, m + 1, c3, c4, _, A4, s' ++ [j] ++ [k], hlt, by go_num, rfl, rfl, by omega, hsln, hTn, .inr ⟨by omega, by rw [Nat.add_sub_cancel]; exact hstk.out.symm⟩, hpan, hbn⟩
            case measure => simp [intOf]; omega
    · obtain rfl : k = n := by omega
      have hge : ¬ (k : Int) < (k : Int) := by omega
      have hR1 : R = true := hYes.out hpa.out
      have hres := (hb.out.block (w.heap.size + 1) (by omega)).trans hR.out
      have hr2 := cell_of_one hres
      have hf2 := free_of_one hres
      have hfin2 : Hid (Below w.heap.size w wr) := hBW.out.trans (hb.out.mono (by omega))
      have hI := Lib.hid (own_mono (base' := w.heap.size + 1 + 1) hT.out.1 (Nat.le_refl _))
      subst hR1
      clear hNo hYes hEnd hfin hdeg hpa hS hT hrng hasc
      go_wp2
      have e1 := (Boxed.set (.slice A1 k c1) hres).cell
      refine bodyPost_ret (v := .tuple #[.agg #[.slice A1 k c1], .bool true]) (by simp [results, Try.results103, go_sem, e1]) rfl ?_
      exact leftQ_mk (fun _ => ⟨rfl, ints_of_own64 (own_far hI.out (by omega) _)⟩) (below_setCell hfin2.out (by omega) _)
end Go.Proofs.Ytbnnlifpldgcfaa
