/- MiddleNodes, the program's and the model's: the nodes with the least weight, or a code. -/
import Derived.Test.YtbnnlifpldgcfaaWeightIn
import Derived.Test.YtbnnlifpldgcfaaLeastIn
import Derived.Test.YtbnnlifpldgcfaaGives
import Derived.Test.YtbnnlifpldgcfaaKids
import Derived.Deep.RegionHeld3
namespace Go.Proofs.Ytbnnlifpldgcfaa
open Go.RowKit

noncomputable def M.middles (xs : List Int) : List Int := M.least (M.weights xs) xs.length
noncomputable def F_MiddleNodes (xs : List Int) : List Int × Int := M.cond xs (M.middles xs)
theorem F_MiddleNodes_len (xs : List Int) : (F_MiddleNodes xs).1.length ≤ 1048576 := by
  cases ht : M.isTree xs
  · rw [F_MiddleNodes, M.cond_no ht]; simp
  · rw [F_MiddleNodes, M.cond_yes ht]
    have h1 : (M.middles xs).length ≤ xs.length := M.least_len _ _
    have h2 := (M.tree_len ht).2
    show (M.middles xs).length ≤ _
    omega

theorem weightAt (A : Option Addr) (xs : List Int) (c v : Nat) (w : World) (hcl : xs.length ≤ c) (hcu : c ≤ 9223372036854775807) (ht : Hid (M.isTree xs = true)) (hv : v < xs.length) (hI : Hid (Ints w w.heap.size A xs)) :
    Calls Try.prog 72 #[.slice A xs.length c, .int .i64 v] w fun e w' => e = .returned (.int .i64 (M.weight xs v)) ∧ Hid (Below w.heap.size w w') := by
  obtain ⟨d, hd, _⟩ := M.tree_degN ht.out hv
  rw [M.weight_at hd]
  exact (callsIn_wide (n := 5)).1 (weightAt_in A xs c v d w hcl hcu ht hd hI)

set_option maxHeartbeats 2000000 in
set_option maxRecDepth 100000 in
theorem impl_MiddleNodes : GivesList 38 F_MiddleNodes := by
  intro A xs c w hx hcc h
  have hc := codeOf0 A xs c (w.alloc (.cells #[.slice A xs.length c] 24)) (by omega) (h.al _) _ rfl
  cases ht : M.isTree xs
  · rw [ht] at hc
    have HC := Lib.hid hc
    have hF : F_MiddleNodes xs = ([], 1) := M.cond_no ht
    rw [hF]
    clear hc ht hF
    go_enter Try.func38, Try.ntmps38
    go_wp2_with fail
    refine HC.out.mono ?_
    rintro e w1 ⟨rfl, hb⟩
    have hB := btr (bal (b0 w) _) hb
    go_wp2
    go_ret2
    exact ⟨none, 0, rfl, own64_nil _ _, hB⟩
  · rw [ht] at hc
    have HC := Lib.hid hc
    have hF : F_MiddleNodes xs = (M.middles xs, 0) := M.cond_yes ht
    have Ht := Lib.hid ht
    have hlen := M.tree_len ht
    rw [hF]
    clear hc ht hF
    go_enter Try.func38, Try.ntmps38
    go_wp2_with fail
    refine HC.out.mono ?_
    rintro e w1 ⟨rfl, hb⟩
    have hB := Lib.hid (btr (bal (b0 w) _) hb)
    have hcell : w1.cell? ⟨w.heap.size, 0, none⟩ = some (.slice A xs.length c) := cell_be (by simp) hb
    have h1 := Lib.hid ((h.al _).be hb)
    clear hb h HC
    have hmk := run_make_row' (P := Try.prog) 22 2 (.int .i64 0) 8 Try.underlying22 info64 rfl .i64 .i64 xs.length (by omega) (by omega)
    have h0 : Hid (Own64 (w1.alloc (.cells (madeCells #[.int .i64 0] xs.length) 2)) w1.heap.size (.slice (some ⟨w1.heap.size, 0, none⟩) xs.length xs.length) (M.weightRow xs 0)) := by
      have := own64_made (w := w1) (B := w1.heap.size) (n := xs.length) (Nat.le_refl _) (by unfold maxLen; omega)
      show Own64 _ _ _ _
      rw [M.weightRow_zero]; exact this
    have hb0 : Hid (Below w1.heap.size w1 (w1.alloc (.cells (madeCells #[.int .i64 0] xs.length) 2))) := bal (b0 w1) _
    obtain ⟨n, hn⟩ : ∃ n, Hid (xs.length = n) := ⟨_, rfl⟩
    have HWt : Hid (∀ (v : Nat) (W : World), v < n → Hid (Below w1.heap.size w1 W) → Calls Try.prog 72 #[.slice A n c, .int .i64 v] W fun e w' => e = .returned (.int .i64 (M.weight xs v)) ∧ Hid (Below W.heap.size W w')) := fun v W hv hW => by
      have := weightAt A xs c v W hcc.1 (by have := hcc.2; omega) Ht (by rw [hn.out]; exact hv) (h1.out.be hW.out)
      rw [hn.out] at this
      exact this
    have HC1 : Hid (∀ W, Hid (Below w1.heap.size w1 W) → W.cell? ⟨w.heap.size, 0, none⟩ = some (.slice A xs.length c)) := fun W hW => cell_be hcell hW.out
    rw [hn.out] at hmk h0 hb0 hlen hcell HC1 ⊢
    clear h1
    go_wp2
    clear hmk hcell
    go_loopw [6, 18] (fun _ i wr => ∃ (v : Nat), v ≤ n ∧ i = .int .i64 v ∧ Hid (Own64 wr w1.heap.size (.slice (some ⟨w1.heap.size, 0, none⟩) n n) (M.weightRow xs v)) ∧ Hid (Below w1.heap.size w1 wr)) (fun _ i _ => n - (intOf i).toNat)
    case atStart => exact ⟨0, Nat.zero_le _, rfl, h0, hb0⟩
    case round =>
      obtain ⟨v, hv, rfl, ho, hbr⟩ := hrel
      clear h0 hb0
      by_cases hlt : v < n
      · have hvx : v < xs.length := by rw [hn.out]; exact hlt
        have hrl : (M.weightRow xs v).length = n := by rw [M.weightRow_len]; exact hn.out
        have hvn : (v : Int) < (n : Int) := by omega
        have hv0 : (0 : Int) ≤ (v : Int) := by omega
        have cA := HC1.out _ hbr
        have hst := Lib.hid (M.weightRow_step (xs := xs) (k := v))
        have hat := M.weightRow_at xs hvx
        have Hat := Lib.hid hat
        have Hrl := Lib.hid hrl
        have HW := Lib.hid (HWt.out v wr hlt hbr)
        generalize M.weight xs v = y at *
        clear hat hrl
        go_wp2_with fail
        refine HW.out.mono ?_
        rintro e w2 ⟨rfl, hb2⟩
        have ho2 := Lib.hid (own_be ho.out hb2.out)
        obtain ⟨c1, f1, _, _⟩ := own64_cell ho2.out Hrl.out Hat.out
        have hset := Lib.hid (own64_set ho2.out Hrl.out v y)
        rw [hst.out] at hset
        have hbf : Hid (Below w1.heap.size w1 (w2.setCell ⟨w1.heap.size, v, none⟩ (.int .i64 y))) := below_setCell (btr hbr.out hb2.out) (Nat.le_refl _) _
        clear HW
        go_wp2
        go_roundw
        case rel => exact ⟨v + 1, by omega, by go_num, hset, hbf⟩
        case measure => simp [intOf]; omega
      · obtain rfl : v = n := by omega
        have hE : M.weightRow xs v = M.weights xs := by rw [← hn.out]; exact M.weightRow_end
        rw [hE] at ho
        have z1 := hbr.out.size
        have HL := Lib.hid (leastPlaces (some ⟨w1.heap.size, 0, none⟩) (M.weights xs) v v wr (Lib.hid ((M.weights_len xs).trans hn.out)) (by omega) (by omega) (Lib.hid (ints_of_own64 ho.out)))
        have hFm : Hid (M.middles xs = M.least (M.weights xs) v) := by show _ = _; rw [M.middles, hn.out]
        have zw := hB.out.size
        go_wp2_with fail
        refine HL.out.mono ?_
        rintro e w4 ⟨A4, c4, rfl, ho4, hb4⟩
        have hB4 := Lib.hid (btr (btr hB.out hbr.out) hb4.out)
        have Ho4 := Lib.hid (own_mono (base' := w.heap.size) ho4 (by omega))
        clear ho4 hb4 HL
        go_wp2
        go_ret2
        rw [hFm.out]
        exact ⟨A4, c4, rfl, Ho4.out, hB4.out⟩

set_option maxHeartbeats 2000000 in
set_option maxRecDepth 100000 in
theorem spec_MiddleNodes : GivesList 37 F_MiddleNodes := by
  intro A xs c w hx hcc h
  have hc := specIs A xs c (w.alloc (.cells #[.slice A xs.length c] 24)) (by omega) (h.al _)
  cases ht : M.isTree xs
  · rw [ht] at hc
    have HC := Lib.hid hc
    have hF : F_MiddleNodes xs = ([], 1) := M.cond_no ht
    rw [hF]
    clear hc ht hF
    go_enter Try.func37, Try.ntmps37
    go_wp2_with fail
    refine HC.out.mono ?_
    rintro e w1 ⟨rfl, hb⟩
    have hB := btr (bal (b0 w) _) hb
    go_wp2
    go_ret2
    exact ⟨none, 0, rfl, own64_nil _ _, hB⟩
  · rw [ht] at hc
    have HC := Lib.hid hc
    have hF : F_MiddleNodes xs = (M.middles xs, 0) := M.cond_yes ht
    have Ht := Lib.hid ht
    have hlen := M.tree_len ht
    rw [hF]
    clear hc ht hF
    go_enter Try.func37, Try.ntmps37
    go_wp2_with fail
    refine HC.out.mono ?_
    rintro e w1 ⟨rfl, hb⟩
    have hB2 := Lib.hid (btr (bal (b0 w) _) hb)
    have hcell : w1.cell? ⟨w.heap.size, 0, none⟩ = some (.slice A xs.length c) := cell_be (by simp) hb
    have h1 := Lib.hid ((h.al _).be hb)
    have z2 := hB2.out.size
    clear hb h HC
    obtain ⟨n, hn⟩ : ∃ n, Hid (xs.length = n) := ⟨_, rfl⟩
    have HN : Hid (∀ W, Calls Try.prog 69 #[.agg #[.slice A n c]] W fun e w' => e = .returned (.int .i64 (n : Int)) ∧ Hid (Below W.heap.size W w')) := fun W => l01N A n c W
    have HE : Hid (∀ (C E : Nat) (W : World), Hid (C + M.span 1 (xs.drop C) = E) → C < n → Hid (Below w1.heap.size w1 W) → Calls Try.prog 70 #[.agg #[.slice A n c], .int .i64 (C : Int)] W fun e w' => e = .returned (.int .i64 (E : Int)) ∧ Hid (Below W.heap.size W w')) := fun C E W hE hC hW => by
      have := l01End A xs c C E W hE hlen.2 (Lib.hid (M.tree_ok Ht.out (by rw [hn.out]; exact hC))) (h1.out.be hW.out)
      rw [hn.out] at this
      exact this
    have HCh : Hid (∀ (v d : Nat) (W : World), Hid (xs[v]? = some (d : Int)) → Hid (Below w1.heap.size w1 W) → Calls Try.prog 71 #[.agg #[.slice A n c], .int .i64 (v : Int)] W fun e w' => ∃ A' c', e = .returned (.slice A' d c') ∧ Hid (Own64 w' W.heap.size (.slice A' d c') (M.childs xs v d)) ∧ Hid (Below W.heap.size W w')) := fun v d W hd hW => by
      have := l01Children A xs c v d W hlen.2 Ht hd (h1.out.be hW.out)
      rw [hn.out] at this
      exact this.mono fun e w' ⟨A', c', e1, e3, e4⟩ => ⟨A', c', e1, e3, e4⟩
    have HC1 : Hid (∀ W, Hid (Below w1.heap.size w1 W) → W.cell? ⟨w.heap.size, 0, none⟩ = some (.slice A xs.length c)) := fun W hW => cell_be hcell hW.out
    have h0 : Hid (Own64 (w1.alloc (.cells #[] 2)) w1.heap.size (.slice (some ⟨w1.heap.size, 0, none⟩) 0 0) (M.rowOf 0 (M.weight xs))) := own64_empty (Nat.le_refl _)
    have hb0 : Hid (Below w1.heap.size w1 (w1.alloc (.cells #[] 2))) := bal (b0 w1) _
    rw [hn.out] at hlen hcell HC1 ⊢
    clear h1
    go_wp2
    clear hcell
    go_loopw [4, 5, 6, 7, 8] (fun q i _ _ _ wr => ∃ (v c' : Nat) (A' : Option Addr), v ≤ n ∧ i = .int .i64 v ∧ q = .slice A' v c' ∧ Hid (Own64 wr w1.heap.size (.slice A' v c') (M.rowOf v (M.weight xs))) ∧ Hid (Below w1.heap.size w1 wr)) (fun _ i _ _ _ _ => n - (intOf i).toNat)
    case atStart => exact ⟨0, 0, _, Nat.zero_le _, rfl, rfl, h0, hb0⟩
    case round =>
      obtain ⟨v, c', A', hv, rfl, rfl, ho, hbr⟩ := hrel
      clear h0 hb0
      have cA := HC1.out _ hbr
      by_cases hlt : v < n
      · go_wp2_with fail
        refine (HN.out _).mono ?_
        rintro e w2 ⟨rfl, hb2⟩
        have hB2' := Lib.hid (btr hbr.out hb2.out)
        have ho2 := Lib.hid (own_be ho.out hb2.out)
        have hvn : (v : Int) < (n : Int) := by omega
        have hvx : v < xs.length := by rw [hn.out]; exact hlt
        obtain ⟨d, hd, hd24⟩ := M.tree_degN Ht.out hvx
        have Hd := Lib.hid hd
        obtain ⟨E, hE⟩ : ∃ E, Hid (v + M.span 1 (xs.drop v) = E) := ⟨_, rfl⟩
        obtain ⟨y0, hy0⟩ : ∃ y, Hid (M.weightTo xs v 0 = y) := ⟨_, rfl⟩
        have hsp := M.span_le (xs.drop v) 1
        rw [List.length_drop] at hsp
        have hEv : (n : Int) - ((E : Int) - (v : Int)) = y0 := by
          rw [← hy0.out, M.weightTo, hn.out, ← hE.out]; omega
        have v1 : IntKind.i64.wrap ((E : Int) - (v : Int)) = (E : Int) - (v : Int) := IntWalk.i64_in _ (by have := hE.out; omega)
        have hyb := M.weightTo_le (xs := xs) (v := v) (by rw [hn.out]; exact hlen.2) (by omega) 0
        rw [hy0.out] at hyb
        have v2 : IntKind.i64.wrap ((n : Int) - ((E : Int) - (v : Int))) = y0 := by rw [hEv]; exact IntWalk.i64_in _ (by omega)
        clear hd hsp hEv hb2 hbr ho cA
        go_wp2_with fail
        have K0 : Hid (Below w1.heap.size w1 w2.drew) := hB2'.out.drew
        have c10 : w2.drew.cell? ⟨w.heap.size, 0, none⟩ = some (.slice A n c) := HC1.out _ K0
        have KD : Hid (Below w2.heap.size w2 w2.drew) := (Below.refl _ _).drew
        go_region_held3 (fun w' => w'.cell? ⟨w.heap.size, 0, none⟩ = some (.slice A n c) ∧ Hid (Below w1.heap.size w1 w')) (first | exact ⟨c10, K0⟩ | exact ⟨HC1.out _ (by assumption), by assumption⟩) (first | (go_at_call 69; refine (HN.out _).mono ?_; rintro e w3 ⟨rfl, hb3⟩; have hB3 : Hid (Below w1.heap.size w1 w3) := btr K0.out hb3.out; have hD3 : Hid (Below w2.heap.size w2 w3) := btr KD.out hb3.out) | (go_at_call 70; refine (HE.out v E _ hE hlt hB3).mono ?_; rintro e w4 ⟨rfl, hb4⟩; have hB4 : Hid (Below w1.heap.size w1 w4) := btr hB3.out hb4.out; have hD4 : Hid (Below w2.heap.size w2 w4) := btr hD3.out hb4.out) | (go_at_call 71; refine (HCh.out v d _ Hd hB4).mono ?_; rintro e w5 ⟨A5, c5, rfl, ho5, hb5⟩; have hB5 : Hid (Below w1.heap.size w1 w5) := btr hB4.out hb5.out; have hD5 : Hid (Below w2.heap.size w2 w5) := btr hD4.out hb5.out))
        have ho5w := Lib.hid (own_be ho2.out hD5.out)
        have z5 := hB5.out.size
        have Hch := Lib.hid (ints_of_own64 ho5.out)
        have Hy0 := hy0
        clear c10 K0 KD hb3 hb4 hb5 hB3 hB4 hD3 hD4 hD5 ho5 ho2 hB2' hE v1 v2 hyb
        go_wp2
        go_loopw [6, 8] (fun s i wr => ∃ (k : Nat), k ≤ d ∧ i = .int .i64 k ∧ s = .int .i64 (M.weightTo xs v k) ∧ Hid (Below w5.heap.size w5 wr)) (fun _ i _ => d - (intOf i).toNat)
        case atStart => exact ⟨0, Nat.zero_le _, rfl, by rw [hy0.out], Lib.hid (Below.refl _ _)⟩
        case round =>
          obtain ⟨k, hk, rfl, rfl, hbk⟩ := hrel
          have hBk := Lib.hid (btr hB5.out hbk.out)
          have cA := HC1.out _ hBk
          by_cases hkd : k < d
          · have hat : (M.childs xs v d)[k]? = some (M.kidAt xs v k : Int) := by simp [M.childs, hkd]
            have hCl : M.kidAt xs v k < n := by rw [← hn.out]; exact M.kid_lt Ht.out Hd.out (by omega)
            obtain ⟨b, off, rfl, hbl, hcc'⟩ := (Hch.out.be hbk.out) (by rw [M.childs_length]; omega)
            have ck := hcc' _ _ hat
            obtain ⟨E, hE⟩ : ∃ E, Hid (M.kidAt xs v k + M.span 1 (xs.drop (M.kidAt xs v k)) = E) := ⟨_, rfl⟩
            have hst := M.weightTo_step (xs := xs) (v := v) (k := k) rfl
            have hsp := M.span_le (xs.drop (M.kidAt xs v k)) 1
            rw [List.length_drop] at hsp
            have hES : ((M.span 1 (xs.drop (M.kidAt xs v k)) : Nat) : Int) = (E : Int) - (M.kidAt xs v k : Int) := by rw [← hE.out]; omega
            rw [hES] at hst
            have Hst := Lib.hid hst
            have HEk := Lib.hid (fun W hW => HE.out (M.kidAt xs v k) E W hE hCl hW)
            have v1 : IntKind.i64.wrap ((E : Int) - (M.kidAt xs v k : Int)) = (E : Int) - (M.kidAt xs v k : Int) := IntWalk.i64_in _ (by have := hE.out; omega)
            have hkn : (k : Int) < (d : Int) := by omega
            have hk0 : (0 : Int) ≤ (k : Int) := by omega
            have HCk : Hid (∀ W, Hid (Below wr.heap.size wr W) → W.cell? ⟨w.heap.size, 0, none⟩ = some (.slice A n c) ∧ W.cell? ⟨b, off + k, none⟩ = some (.int .i64 (M.kidAt xs v k : Int))) := fun W hW => ⟨HC1.out _ (btr hBk.out hW.out), (hW.out.cell (p := ⟨b, off + k, none⟩) hbl).trans ck⟩
            clear hst hsp hES hE hat hcc' ck cA
            generalize M.weightTo xs v k = y at *
            generalize M.kidAt xs v k = C at *
            go_wp2_with fail
            have K0 : Hid (Below wr.heap.size wr wr.drew) := (Below.refl _ _).drew
            have c10 := (HCk.out _ K0).1
            have c20 := (HCk.out _ K0).2
            go_region_held3 (fun w' => w'.cell? ⟨w.heap.size, 0, none⟩ = some (.slice A n c) ∧ w'.cell? ⟨b, off + k, none⟩ = some (.int .i64 (C : Int)) ∧ Hid (Below wr.heap.size wr w')) (first | exact ⟨c10, c20, K0⟩ | exact ⟨(HCk.out _ (by assumption)).1, (HCk.out _ (by assumption)).2, by assumption⟩) (first | (go_at_call 70; refine (HEk.out _ (btr hBk.out K0.out)).mono ?_; rintro e w6 ⟨rfl, hb6⟩; have hB6 : Hid (Below wr.heap.size wr w6) := btr K0.out hb6.out))
            have hbf := Lib.hid (btr hbk.out hB6.out)
            clear c10 c20 K0 hb6 hB6 HCk HEk
            go_wp2
            go_roundw
            case rel => exact ⟨k + 1, by omega, by go_num, by rw [Hst.out], hbf⟩
            case measure => simp [intOf]; omega
          · have hkd' : k = d := by omega
            obtain ⟨y, hy⟩ : ∃ y, Hid (M.weightTo xs v k = y) := ⟨_, rfl⟩
            have hy2 : Hid (M.weight xs v = y) := by show _ = _; rw [M.weight_at Hd.out, ← hkd']; exact hy.out
            have ho := Lib.hid (own_be ho5w.out hbk.out)
            have zo := hBk.out.size
            have hkn : ¬ (k : Int) < (d : Int) := by omega
            rw [hy.out]
            go_wp2_with (at_builtin; refine push64 rfl (.tmp 49) (.tmp 51) rfl wr w1.heap.size A' v c' (M.rowOf v (M.weight xs)) y rfl rfl ho zo (by omega) ?_; intro A3 c3 w8 ho8 hb8)
            rw [← hy2.out, ← M.rowOf_succ v (M.weight xs)] at ho8
            have hB8 : Hid (Below w1.heap.size w1 w8) := hBk.out.trans hb8.out
            go_roundw
            case rel => exact ⟨v + 1, c3, A3, by omega, by go_num, rfl, ho8, hB8⟩
            case measure => simp [intOf]; omega
      · obtain rfl : v = n := by omega
        have hR : Hid (M.rowOf v (M.weight xs) = M.weights xs) := by show _ = _; rw [M.weights, hn.out]
        rw [hR.out] at ho
        have z1 := hbr.out.size
        have hFm : Hid (M.middles xs = M.least (M.weights xs) v) := by show _ = _; rw [M.middles, hn.out]
        go_wp2_with fail
        refine (HN.out _).mono ?_
        rintro e w3 ⟨rfl, hb3⟩
        have ho3 := Lib.hid (own_be ho.out hb3.out)
        have hB3 := Lib.hid (btr (btr hB2.out hbr.out) hb3.out)
        have HL := Lib.hid (l05Least A' (M.weights xs) v c' w3 (Lib.hid ((M.weights_len xs).trans hn.out)) (by omega) (Lib.hid (ints_of_own64 ho3.out)))
        have z3 := hB3.out.size
        clear hb3 ho
        go_wp2_with fail
        refine HL.out.mono ?_
        rintro e w4 ⟨A4, c4, rfl, ho4, hb4⟩
        have hB4 := Lib.hid (btr hB3.out hb4.out)
        have Ho4 := Lib.hid (own_mono (base' := w.heap.size) ho4 z3)
        clear ho4 hb4 HL
        go_wp2
        go_ret2
        rw [hFm.out]
        exact ⟨A4, c4, rfl, Ho4.out, hB4.out⟩
end Go.Proofs.Ytbnnlifpldgcfaa
