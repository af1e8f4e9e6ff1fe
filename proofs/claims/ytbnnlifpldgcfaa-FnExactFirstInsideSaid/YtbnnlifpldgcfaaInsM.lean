/- l04Lists: a step. -/
import Derived.Test.YtbnnlifpldgcfaaInsL
import Derived.Test.YtbnnlifpldgcfaaStepPush
import Derived.Test.YtbnnlifpldgcfaaCaps
import Derived.Deep.DeepCutAuto
import Derived.BigRegion
import Derived.Outline
import Derived.Deep.RegionHeld3
namespace Go.Proofs.Ytbnnlifpldgcfaa
open Go.RowKit

theorem asc_snoc {l : List Nat} {a U D : Nat} (h1 : l.Pairwise (· < ·)) (_h2 : ∀ x ∈ l, x < U) (h : nextOf l = a) (hD : a ≤ D) : (l ++ [D]).Pairwise (· < ·) := by
  rw [List.pairwise_append]
  refine ⟨h1, List.pairwise_singleton _ _, fun x hx y hy => ?_⟩
  rw [List.mem_singleton] at hy
  subst hy
  rcases List.eq_nil_or_concat l with rfl | ⟨l', z, rfl⟩
  · cases hx
  · rw [List.concat_eq_append] at hx h1 h
    rw [nextOf_snoc] at h
    rcases List.mem_append.1 hx with hx | hx
    · have := (List.pairwise_append.1 h1).2.2 x hx z (List.mem_singleton.2 rfl); omega
    · rw [List.mem_singleton] at hx; omega

set_option maxHeartbeats 4000000 in
set_option maxRecDepth 100000 in
theorem l04Lists_step (us xs : List Int) (k : Nat) (hu12 : us.length ≤ 12) (hx : xs.length ≤ 24) (ih : Hid (ListsAt us xs k)) : ListsAt us xs (k + 1) := by
  intro A B C c d n e l one w hl h1 h2 hn hne hz hA hB hC
  obtain ⟨W0, hW0⟩ : ∃ W0, (w.alloc (.cells #[.slice A xs.length c] 24)).alloc (.cells #[.slice B us.length d] 24) = W0 := ⟨_, rfl⟩
  have cT : W0.cell? ⟨w.heap.size, 0, none⟩ = some (.slice A xs.length c) := by rw [← hW0]; exact cell_al (by simp) _
  have cU : W0.cell? ⟨w.heap.size + 1, 0, none⟩ = some (.slice B us.length d) := by rw [← hW0]; simp [go_sem]
  have hB0 : Hid (Below w.heap.size w W0) := by rw [← hW0]; exact bal (bal (b0 w) _) _
  have hnl := hn.out
  have hnx : n < xs.length := by omega
  have hni : (n : Int) < (xs.length : Int) := by omega
  have hne0 : ((n : Int) == (xs.length : Int)) = false := beq_eq_false_iff_ne.2 (by omega)
  have hnx0 : (n == xs.length) = false := beq_eq_false_iff_ne.2 (by omega)
  have hI1 := Lib.hid (hA.out.be hB0.out)
  have hI2 := Lib.hid (hB.out.be hB0.out)
  have hI3 := Lib.hid (hC.out.be hB0.out)
  obtain ⟨a, hna⟩ : ∃ a, Hid (nextOf l = a) := ⟨_, rfl⟩
  have ha : a ≤ us.length := by
    rw [← hna.out]
    rcases List.eq_nil_or_concat l with rfl | ⟨l', x, rfl⟩
    · exact Nat.zero_le _
    · rw [List.concat_eq_append, nextOf_snoc]
      exact h2 x (by simp)
  have hlast : Hid (0 < n → ∃ y : Int, (nums l)[n - 1]? = some y ∧ y + 1 = (a : Int)) := fun h0 => by
    rcases List.eq_nil_or_concat l with rfl | ⟨l', x, rfl⟩
    · simp at hnl; omega
    · rw [List.concat_eq_append] at hnl hna ⊢
      rw [nums_snoc]
      rw [List.length_append, List.length_singleton] at hnl
      refine ⟨(x : Int), ?_, ?_⟩
      · rw [← hnl, Nat.add_sub_cancel, List.getElem?_append_right (by rw [nums_len]; exact Nat.le_refl _), nums_len]; simp
      · rw [← hna.out, nextOf_snoc]; rfl
  have hzero : Hid (n = 0 → a = 0) := fun h0 => by
    rw [← hna.out]
    have : l = [] := List.length_eq_zero_iff.1 (by omega)
    rw [this]; rfl
  rw [hna.out]
  have HW := Lib.hid hW0
  have Hn := Lib.hid hnl
  have H1 := Lib.hid h1
  have H2 := Lib.hid h2
  have Hlk := Lib.hid hl
  clear hW0 hA hB hC h1 h2 hl hn hnl
  go_enter Try.func79, Try.ntmps79
  go_upto_region 6 with fail
  rw [HW.out]
  go_upto_if 29 with fail
  go_cut [10] (fun s10 wx => s10 = .int .i64 (a : Int) ∧ W0 = wx)
  case first =>
    by_cases h0 : n = 0
    · have ha0 := hzero.out h0
      subst h0 ha0
      go_wp2_with fail
      go_meet
      exact ⟨rfl, rfl⟩
    · have hp : (0 : Int) < (n : Int) := by omega
      have hp2 : 0 < n := by omega
      obtain ⟨y, hy, hya⟩ := hlast.out (by omega)
      obtain ⟨b, off, rfl, hbl, hc⟩ := hI3.out (by have := (List.getElem?_eq_some_iff.1 hy).1; omega)
      have c1 := hc _ _ hy
      have q0 : (0 : Int) ≤ (n : Int) - 1 := by omega
      have q1 : (n : Int) - 1 < (n : Int) := by omega
      have q2 : ((n : Int) - 1).toNat = n - 1 := by omega
      have q3 : IntKind.i64.wrap (y + 1) = (a : Int) := by rw [IntWalk.i64_in _ (by omega)]; exact hya
      have q4 : IntKind.i64.wrap ((n : Int) - 1) = (n : Int) - 1 := IntWalk.i64_in _ (by omega)
      clear hc hy hlast hzero
      go_wp2_with fail
      all_goals first | (go_meet; exact ⟨rfl, rfl⟩) | (exfalso; omega)
  case rest =>
    obtain ⟨rfl, rfl⟩ := hcut
    clear hlast hzero
    go_wp2
    go_loopw [11, 12, 13] (fun q11 q12 q13 wr => ∃ (D m' c' : Nat) (A' : Option Addr), a + D ≤ us.length ∧ q13 = .int .i64 ((a + D : Nat) : Int) ∧ q11 = .slice A' m' c' ∧ q12 = .int .i64 ((cntOf one ((M.listsTo us.length k l a D).filter (okIn us xs)) : Nat) : Int) ∧ Hid (one = true → (M.listsTo us.length k l a D).filter (okIn us xs) = []) ∧
        Hid (FirstAt ((M.listsTo us.length k l a D).filter (okIn us xs)) wr A' m') ∧ Hid (Below W0.heap.size W0 wr)) (fun _ _ i _ => us.length - (intOf i).toNat)
    case atStart => exact ⟨0, 0, 0, _, by omega, rfl, rfl, by rw [M.listsTo_zero]; simp [cntOf_nil], fun _ => rfl, firstAt_nil _ _ _, bal (b0 W0) (.cells #[] 2)⟩
    case round =>
      obtain ⟨D, m', c', A', hD, rfl, rfl, rfl, hone, hfirst, hb⟩ := hrel
      have hN := Lib.hid (fun W => l01N B us.length d W)
      have cU1 := cell_be cU hb.out
      by_cases hlt : a + D < us.length
      · have hlti : ((a + D : Nat) : Int) < (us.length : Int) := by omega
        go_wp2_with fail
        refine (hN.out _).mono ?_
        rintro en w1 ⟨rfl, hb1⟩
        have hB1 := Lib.hid (btr hb.out hb1)
        have cU2 := cell_be cU hB1.out
        have cT2 := cell_be cT hB1.out
        obtain ⟨G, hG⟩ : ∃ G, Hid ((M.lists us.length k (l ++ [a + D]) (nextOf (l ++ [a + D]))).filter (okIn us xs) = G) := ⟨_, rfl⟩
        have HK : Hid (∀ W', Hid (Below w1.heap.size w1 W') → W'.cell? ⟨w.heap.size, 0, none⟩ = some (.slice A xs.length c) ∧ W'.cell? ⟨w.heap.size + 1, 0, none⟩ = some (.slice B us.length d)) := fun W' hW' => ⟨cell_be cT2 hW'.out, cell_be cU2 hW'.out⟩
        have HO : Hid (∀ W', Hid (Below w1.heap.size w1 W') → Calls Try.prog 96 #[.slice C n e] W' fun e w' => ∃ A' c', e = .returned (.slice A' n c') ∧ Hid (Own64 w' W'.heap.size (.slice A' n c') (nums l)) ∧ Hid (Below W'.heap.size W' w')) := fun W' hW' =>
          (l01Own C (nums l) n e W' (Lib.hid (by rw [nums_len]; exact Hn.out)) (by omega) hz (Lib.hid ((hI3.out.be hB1.out).be hW'.out))).mono fun e w' ⟨A', c', h1, h2, h3⟩ => ⟨A', c', h1, h2, h3⟩
        have HR : Hid (∀ g c' (W' W'' : World), Hid (Below w1.heap.size w1 W') → Hid (Own64 W' W''.heap.size (.slice (some ⟨g, 0, none⟩) (n + 1) c') (nums l ++ [(a : Int) + (D : Int)])) → Calls Try.prog 79 #[.agg #[.slice A xs.length c], .agg #[.slice B us.length d], .slice (some ⟨g, 0, none⟩) (n + 1) c', .bool one] W' fun en w' => ∃ A2 m2 c2, en = .returned (.tuple #[.slice A2 m2 c2, .int .i64 ((cntOf one G : Nat) : Int)]) ∧ Hid (FirstAt G w' A2 m2) ∧ Hid (Below W'.heap.size W' w')) := fun g c' W' W'' hW' ho => by
          have h := ih.out A B (some ⟨g, 0, none⟩) c d (n + 1) c' (l ++ [a + D]) one W' (by have := Hlk.out; simp; omega) (asc_snoc H1.out H2.out hna.out (Nat.le_add_right a D)) (fun x hx => by
            rcases List.mem_append.1 hx with hx | hx
            · exact H2.out x hx
            · rw [List.mem_singleton] at hx; subst hx; exact hlt) (Lib.hid (by have := Hn.out; simp; omega)) (own_caps ho.out).1 (Lib.hid (fun h => by cases h)) (Lib.hid ((hI1.out.be hB1.out).be hW'.out)) (Lib.hid ((hI2.out.be hB1.out).be hW'.out)) (Lib.hid (by rw [nums_snoc, show ((a + D : Nat) : Int) = (a : Int) + (D : Int) from rfl]; exact ints_of_own64 ho.out))
          rw [hG.out] at h
          exact h.mono fun en w' ⟨A2, m2, c2, h1, h2, h3⟩ => ⟨A2, m2, c2, h1, h2, h3⟩
        clear hN cU1 hI1 hI2 hI3 ih H1 H2 Hlk
        go_upto_region 12 with fail
        go_cut [14, 15] (fun s14 s15 wx => ∃ (A2 : Option Addr) (m2 c2 : Nat), s14 = .slice A2 m2 c2 ∧ s15 = .int .i64 ((cntOf one G : Nat) : Int) ∧ Hid (FirstAt G wx A2 m2) ∧ Hid (Below w1.heap.size w1 wx))
        case first =>
          have K0 : Hid (Below w1.heap.size w1 w1.drew) := (Below.refl _ _).drew
          have c10 : w1.drew.cell? ⟨w.heap.size, 0, none⟩ = some (.slice A xs.length c) := (HK.out _ K0).1
          have c20 : w1.drew.cell? ⟨w.heap.size + 1, 0, none⟩ = some (.slice B us.length d) := (HK.out _ K0).2
          have HK3 : Hid (∀ W', Hid (Below w1.heap.size w1 W') → W'.cell? ⟨w.heap.size, 0, none⟩ = some (.slice A xs.length c) ∧ W'.cell? ⟨w.heap.size + 1, 0, none⟩ = some (.slice B us.length d) ∧ Hid (Below w1.heap.size w1 W')) := fun W' hW' => ⟨(HK.out W' hW').1, (HK.out W' hW').2, hW'⟩
          clear hfirst hone hb hB1
          go_region_held3 (fun w' => w'.cell? ⟨w.heap.size, 0, none⟩ = some (.slice A xs.length c) ∧ w'.cell? ⟨w.heap.size + 1, 0, none⟩ = some (.slice B us.length d) ∧ Hid (Below w1.heap.size w1 w')) (first | exact HK3.out _ K0 | exact HK3.out _ (by assumption) | exact HK3.out _ (bal K0.out _) | exact HK3.out _ (bal hB7.out _)) (first | (go_at_call 96; refine (HO.out _ (by first | exact K0 | exact bal K0.out _)).mono ?_; rintro e w7 ⟨A7, c7, rfl, ho7, hb7⟩; have hB7 : Hid (Below w1.heap.size w1 w7) := (by first | exact btr K0.out hb7.out | exact btr (bal K0.out _) hb7.out)) | (refine stepPush rfl (.tmp 49) (.tmp 51) rfl _ w1.heap.size A7 n c7 (nums l) ((a : Int) + (D : Int)) w7.heap.size (by rfl) (by rfl) (by first | (simp; done) | simp [go_sem]) (Lib.hid (own_mono (ho7.out.alloc _) (by first | exact Nat.le_refl _ | (simp; done) | (simp; omega)))) (by have := hB7.out.size; simp; omega) (by omega) ?_; intro g8 c8 w8 ho8 hb8; have hB8 : Hid (Below w1.heap.size w1 w8) := (bal hB7.out _).trans hb8.out) | (refine stepPush rfl (.tmp 49) (.tmp 51) rfl _ w1.heap.size A7 n c7 (nums l) ((a : Int) + (D : Int)) w1.heap.size (by rfl) (by rfl) (cell_be (by simp) hb7.out) (Lib.hid (own_mono ho7.out (by first | exact Nat.le_refl _ | (simp; done) | (simp; omega)))) hB7.out.size (by omega) ?_; intro g8 c8 w8 ho8 hb8; have hB8 : Hid (Below w1.heap.size w1 w8) := hB7.out.trans hb8.out) | (go_at_call 79; refine (HR.out _ _ _ w1 hB8 ho8).mono ?_; rintro e w9 ⟨A2, m2, c2, rfl, hf9, hb9⟩; have hB9 : Hid (Below w1.heap.size w1 w9) := btr hB8.out hb9.out))
          all_goals (go_wp2_with fail)
          all_goals (go_meet)
          all_goals exact ⟨A2, m2, c2, rfl, rfl, hf9, hB9⟩
        case rest =>
          obtain ⟨A2, m2, c2, rfl, rfl, hf2, hb2⟩ := hcut
          have hB2 := Lib.hid (btr hB1.out hb2.out)
          have hf0 := Lib.hid (firstAt_be (firstAt_be hfirst.out hb1) hb2.out)
          have hsucc : Hid ((M.listsTo us.length k l a (D + 1)).filter (okIn us xs) = (M.listsTo us.length k l a D).filter (okIn us xs) ++ G) := by
            show _ = _
            rw [M.listsTo_succ, List.filter_append, ← hG.out, nextOf_snoc]
          have hpre : Hid (∃ r, (M.lists us.length (k + 1) l a).filter (okIn us xs) = ((M.listsTo us.length k l a D).filter (okIn us xs) ++ G) ++ r) := by
            obtain ⟨r, hr⟩ := M.listsTo_pre (U := us.length) (m := k) (vs := l) (a := a) (d := D + 1) (by omega)
            exact ⟨r.filter (okIn us xs), by rw [hr, List.filter_append, hsucc.out]⟩
          have hlen : ((M.listsTo us.length k l a D).filter (okIn us xs) ++ G).length ≤ 4096 := by
            obtain ⟨r, hr⟩ := hpre.out
            have h1 : ((M.lists us.length (k + 1) l a).filter (okIn us xs)).length ≤ (M.lists us.length (k + 1) l a).length := List.length_filter_le _ _
            have h2 := M.lists_le (U := us.length) (m := k + 1) (vs := l) (a := a) ha
            have h3 : 2 ^ (us.length - a) ≤ 2 ^ 12 := Nat.pow_le_pow_right (by omega) (by omega)
            have h4 : (2 : Nat) ^ 12 = 4096 := by decide
            rw [hr, List.length_append] at h1
            omega
          have hreln : Hid (∀ (A3 : Option Addr) (m3 c3 x : Nat) wx, x = cntOf one ((M.listsTo us.length k l a D).filter (okIn us xs) ++ G) → (one = true → (M.listsTo us.length k l a D).filter (okIn us xs) ++ G = []) → FirstAt ((M.listsTo us.length k l a D).filter (okIn us xs) ++ G) wx A3 m3 → Below W0.heap.size W0 wx →
              x = cntOf one ((M.listsTo us.length k l a (D + 1)).filter (okIn us xs)) ∧ Hid (one = true → (M.listsTo us.length k l a (D + 1)).filter (okIn us xs) = []) ∧ Hid (FirstAt ((M.listsTo us.length k l a (D + 1)).filter (okIn us xs)) wx A3 m3) ∧ Hid (Below W0.heap.size W0 wx)) := fun A3 m3 c3 x wx h1 h2 h3 h4 => by
            rw [hsucc.out]; exact ⟨h1, h2, h3, h4⟩
          generalize (M.listsTo us.length k l a D).filter (okIn us xs) = F at *
          rw [List.length_append] at hlen
          have hcF := cntOf_le one F
          have hcG := cntOf_le one G
          clear hfirst hsucc hG hB1 hb2 hb1 hb HK HO HR
          have hone0 : Hid (one = true → cntOf one F = 0) := fun h => by rw [hone.out h]; exact cntOf_nil _
          generalize hcf : cntOf one F = cF at *
          generalize hcg : cntOf one G = cG at *
          have Hcf := Lib.hid hcf
          have Hcg := Lib.hid hcg
          have wv : IntKind.i64.wrap ((cF : Int) + (cG : Int)) = (cF : Int) + (cG : Int) := IntWalk.i64_in _ (by omega)
          have wn : IntKind.i64.wrap ((a : Int) + (D : Int) + 1) = (a : Int) + (D : Int) + 1 := IntWalk.i64_in _ (by omega)
          have lF : (cF : Int) ≤ 4096 := by omega
          have lG : (cG : Int) ≤ 4096 := by omega
          have kF : IntKind.i64.wrap (cF : Int) = (cF : Int) := IntWalk.i64_in _ (by omega)
          have kG : IntKind.i64.wrap (cG : Int) = (cG : Int) := IntWalk.i64_in _ (by omega)
          clear hcf hcg hlen
          by_cases hg : cG = 0
          · subst hg
            have hG0 : G = [] := cntOf_zero Hcg.out
            have hnx2 := hreln.out A' m' c' cF wc
            rw [hG0, List.append_nil] at hnx2
            have hnx3 := Lib.hid (hnx2 Hcf.out.symm hone.out hf0.out hB2.out)
            clear hnx2 hreln hf2 hf0 hone Hcf Hcg hpre
            cases one
            · go_wp2
              go_roundw
              case rel => exact ⟨D + 1, m', c', A', by omega, by go_num, rfl, (by rw [← hnx3.out.1] <;> first | rfl | go_num | simp), (fun h => (by first | (exact hnx3.out.2.1.out rfl) | (cases h; done))), hnx3.out.2.2⟩
              case measure => simp [intOf]; omega
            · have h0 := hone0.out rfl
              subst h0
              go_wp2
              go_roundw
              case rel => exact ⟨D + 1, m', c', A', by omega, by go_num, rfl, (by rw [← hnx3.out.1] <;> first | rfl | go_num | simp), (fun h => (by first | (exact hnx3.out.2.1.out rfl) | (cases h; done))), hnx3.out.2.2⟩
              case measure => simp [intOf]; omega
          · have hg0 : 0 < cG := by omega
            have hg1 : (0 : Int) < (cG : Int) := by omega
            have hGne : G ≠ [] := fun h => by rw [h, cntOf_nil] at Hcg; exact hg Hcg.out.symm
            by_cases hf : cF = 0
            · subst hf
              have hF0 : F = [] := cntOf_zero Hcf.out
              subst hF0
              rw [List.nil_append] at hreln hpre
              clear hf0 hone0 hone Hcf
              cases one
              · have hnx3 := Lib.hid (hreln.out A2 m2 c2 cG wc Hcg.out.symm (fun h => by cases h) hf2.out hB2.out)
                clear hreln hf2 Hcg hpre
                go_wp2
                go_roundw
                case rel => exact ⟨D + 1, m2, c2, A2, by omega, by go_num, rfl, (by rw [← hnx3.out.1] <;> first | rfl | go_num | simp), (fun h => (by first | (exact hnx3.out.2.1.out rfl) | (cases h; done))), hnx3.out.2.2⟩
                case measure => simp [intOf]; omega
              · clear hreln
                go_wp2
                go_ret2
                obtain ⟨r, hr⟩ := hpre.out
                rw [hr]
                have hc1 : cG = cntOf true (G ++ r) := by
                  rw [← Hcg.out] at hg0 ⊢
                  cases G with
                  | nil => exact absurd rfl hGne
                  | cons g G' => show min 1 (G'.length + 1) = min 1 ((g :: G') ++ r).length; simp
                exact listsQ_mk (by rw [← hc1] <;> first | rfl | go_num | simp) (firstAt_app hf2.out hGne) (btr hB0.out hB2.out)
            · cases one
              · have hnx3 := Lib.hid (hreln.out A' m' c' (cF + cG) wc (by rw [← Hcf.out, ← Hcg.out]; simp [cntOf]) (fun h => by cases h) (firstAt_app hf0.out (fun h => hf (by rw [← Hcf.out, h]; exact cntOf_nil _))) hB2.out)
                have hf1 : ((cF : Int) == 0) = false := beq_eq_false_iff_ne.2 (by omega)
                clear hreln hf2 Hcg Hcf hpre hf0 hone hone0
                go_wp2
                go_roundw
                case rel => exact ⟨D + 1, m', c', A', by omega, by go_num, rfl, (by rw [← hnx3.out.1] <;> first | rfl | go_num | simp), (fun h => (by first | (exact hnx3.out.2.1.out rfl) | (cases h; done))), hnx3.out.2.2⟩
                case measure => simp [intOf]; omega
              · exact absurd (hone0.out rfl) hf
      · have hge : ¬ ((a + D : Nat) : Int) < (us.length : Int) := by omega
        go_wp2_with fail
        refine (hN.out _).mono ?_
        rintro en w1 ⟨rfl, hb1⟩
        have hB1 := Lib.hid (btr hb.out hb1)
        have hall : Hid (M.listsTo us.length k l a D = M.lists us.length (k + 1) l a) := by
          show _ = _
          rw [← M.listsTo_all, show us.length - a = D by omega]
        rw [hall.out] at hfirst ⊢
        clear hall hone
        go_wp2
        go_ret2
        exact listsQ_mk rfl (firstAt_be hfirst.out hb1) (btr hB0.out hB1.out)

theorem l04Lists_all (us xs : List Int) (hu : Hid (M.isTree us = true)) (hu12 : us.length ≤ 12) (hx : xs.length ≤ 24) : ∀ k, ListsAt us xs k
  | 0 => l04Lists_zero us xs hu hx
  | k + 1 => l04Lists_step us xs k hu12 hx (Lib.hid (l04Lists_all us xs hu hu12 hx k))
end Go.Proofs.Ytbnnlifpldgcfaa
