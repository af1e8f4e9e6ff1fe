/- LightSteps, the program's and the model's: how many light nodes are on the way from the root, or a code. -/
import Derived.Test.YtamnilpmdccgoaaWayIn
import Derived.Test.YtamnilpmdccgoaaHeavyIn
import Derived.Test.YtamnilpmdccgoaaHvLight
import Derived.Test.YtamnilpmdccgoaaIndex
import Derived.Test.YtamnilpmdccgoaaGives8
import Derived.Test.YtamnilpmdccgoaaCaps
namespace Go.Proofs.Ytamnilpmdccgoaa
open Go.RowKit

/-- what is left of a list behind its first numbers, as a slice -/
theorem ints_drop {w : World} {A : Option Addr} {zs : List Int} {b off k : Nat} (h : Ints w w.heap.size A zs) (hA : A = some ⟨b, off, none⟩) (A' : Option Addr) (hA' : k < zs.length → A' = some ⟨b, off + k, none⟩) : Ints w w.heap.size A' (zs.drop k) := fun hz => by
  rw [List.length_drop] at hz
  obtain ⟨b', off', e, hb', hc'⟩ := h (by omega)
  rw [hA] at e
  injection e with e; injection e with e1 e2
  subst e1 e2
  exact ⟨b, off + k, hA' (by omega), hb', fun j x hx => by rw [Nat.add_assoc]; exact hc' _ _ (by rwa [List.getElem?_drop] at hx)⟩

set_option maxHeartbeats 4000000 in
set_option maxRecDepth 100000 in
theorem impl_LightSteps : GivesNum1 45 M.lightSteps := by
  intro A xs c v w hx hcc h
  obtain ⟨r, hr⟩ : ∃ r, Hid (M.code xs [v] = r) := ⟨_, rfl⟩
  have hc := codeOf A (some ⟨w.heap.size + 1, 0, none⟩) xs [v] c 1 ((w.alloc (.cells #[.slice A xs.length c] 28)).alloc (.cells #[.int .i64 v] 2)) (by omega) (by simp) ((h.al _).al _) (by have := ints_new (w.alloc (.cells #[.slice A xs.length c] 28)) #[.int .i64 v] [v] rfl; simpa using this) r hr
  simp only [List.length_cons, List.length_nil, Nat.zero_add] at hc
  have HC := Lib.hid hc
  clear hc
  by_cases h0 : r = 0
  · subst h0
    have hn := M.code_node hr.out
    have Ht := Lib.hid (M.code_tree hr.out)
    have hlen := (M.tree_len Ht.out).2
    obtain ⟨v, rfl⟩ := Int.eq_ofNat_of_zero_le hn.1
    have hvl : v < xs.length := by simpa using hn.2.1
    have hpos : 0 < xs.length := by omega
    rw [M.lightSteps_yes hr.out]
    have hwl := M.way_len Ht.out (M.pars_ex Ht.out) hpos hvl
    obtain ⟨L, hL⟩ : ∃ L, Hid (M.lights xs v = L) := ⟨_, rfl⟩
    rw [hL.out]
    obtain ⟨W, hW⟩ : ∃ W, Hid (M.way xs 0 v = W) := ⟨_, rfl⟩
    have hLW : Hid (M.lightIn xs (W.drop 1) = L) := by show _ = _; rw [← hL.out, M.lights, hW.out]
    rw [hW.out] at hwl
    clear hn
    go_enter Try.func45, Try.ntmps45
    go_wp2_with fail
    refine HC.out.mono ?_
    rintro e w1 ⟨rfl, hb⟩
    have hB := Lib.hid (btr (bal (bal (b0 w) _) _) hb)
    have HcellA := Lib.hid (show w1.cell? ⟨w.heap.size, 0, none⟩ = some (.slice A xs.length c) from cell_be (cell_al (by simp) _) hb)
    have hcA := HcellA.out
    have h1 := Lib.hid (((h.al _).al _).be hb)
    clear hb h HC
    go_wp2_with fail
    refine (heavyIn A xs c _ hcc.1 hcc.2 Ht h1).mono ?_
    rintro e w2 ⟨Ah, ch, rfl, hoh, hb⟩
    have hB2 := Lib.hid (btr hB.out hb)
    have hcA2 := cell_be HcellA.out hb
    have HcA2 := Lib.hid hcA2
    have h2 := Lib.hid (h1.out.be hb)
    have hH2 := Lib.hid (ints_of_own64 hoh.out)
    clear hb hcA hoh
    go_wp2_with fail
    refine ((callsIn_wide (n := 5)).1 (parentsIn_in A xs c _ hcc.1 hcc.2 Ht h2.out)).mono ?_
    rintro e w3 ⟨A', c', ps, rfl, hok, ho, hb⟩
    have hB3 := Lib.hid (btr hB2.out hb)
    have hH3 := Lib.hid (hH2.out.be hb)
    have HW := wayIn A' xs ps c' 0 v w3 Ht hok hpos hvl (Lib.hid (ints_of_own64 ho))
    rw [hW.out] at HW
    have HW := Lib.hid HW
    clear ho hb hok hcA2
    go_wp2_with fail
    refine HW.out.mono ?_
    rintro e w4 ⟨A4, c4, rfl, ho4, hb4⟩
    have hB4 := Lib.hid (btr hB3.out hb4)
    have hH4 := Lib.hid (hH3.out.be hb4)
    have Hcap := Lib.hid (own_caps ho4)
    have H4 := Lib.hid (ints_of_own64 ho4)
    obtain ⟨b, off, eA, _, _⟩ := H4.out (by omega)
    subst eA
    have Hdr := Lib.hid (fun A' hA' => ints_drop (k := 1) H4.out rfl A' hA')
    have hDl : Hid ((W.drop 1).length = W.length - 1) := List.length_drop ..
    have hst : Hid (M.lightIn xs ((W.drop 1).take 0) = 0) := rfl
    have hc41 : 1 ≤ c4 := by have := Hcap.out; omega
    clear hb4 HW ho4 H4
    go_wp2
    all_goals
      first | subst h | (have hcq := Lib.hid h; clear h)
      go_loopw [8, 10, 28] (fun q _ i wr => ∃ k : Nat, k ≤ W.length - 1 ∧ i = .int .i64 (k : Int) ∧ q = .int .i64 (M.lightIn xs ((W.drop 1).take k)) ∧ w4 = wr) (fun _ _ i _ => W.length - 1 - (intOf i).toNat)
      case atStart => exact ⟨0, Nat.zero_le _, rfl, by rw [hst.out], rfl⟩
      case round =>
        obtain ⟨k, hk, rfl, rfl, rfl⟩ := hrel
        clear hst
        by_cases hlt : k < W.length - 1
        · first
            | (exfalso; have := Hcap.out; omega)
            | (obtain ⟨b', off', x, e', hbB, g, hX⟩ := (Hdr.out (some ⟨b, off + 1, none⟩) (fun _ => rfl)).at_ (k := k) (by rw [hDl.out]; exact hlt)
               injection e' with e'; injection e' with e1 e2
               subst e1 e2
               have hki : (k : Int) < ((W.length - 1 : Nat) : Int) := by omega
               have hk0 : (0 : Int) ≤ (k : Int) := by omega
               have hlb := M.lightIn_bounds xs ((W.drop 1).take k)
               have hlk : ((W.drop 1).take k).length ≤ k := by simp; omega
               obtain ⟨y, hy⟩ : ∃ y, M.lightIn xs ((W.drop 1).take k) = y := ⟨_, rfl⟩
               have hhit := Lib.hid (fun hm => (M.lightIn_take_hit (xs := xs) hX.out hm).trans hy)
               have hmiss := Lib.hid (fun hm => (M.lightIn_take_miss (xs := xs) hX.out hm).trans (congrArg (· + 1) hy))
               rw [hy] at hlb ⊢
               have hyb : 0 ≤ y ∧ y ≤ 48 := by omega
               clear hX hy hlb hlk
               by_cases hm : x ∈ M.heavy xs
               · have hb1 : Hid (decide (x ∈ M.heavy xs) = true) := decide_eq_true hm
                 have hy2 := Lib.hid (hhit.out hm)
                 clear hhit hmiss hm
                 go_wp2_with (go_at_call 92; refine (containsIs Ah (M.heavy xs) xs.length ch x _ (M.heavy_len xs) (by omega) hH4 true hb1).mono ?_; rintro e w' ⟨rfl, rfl⟩)
                 go_roundw
                 case rel => exact ⟨k + 1, by omega, by go_num, by rw [hy2.out], trivial⟩
                 case measure => simp [intOf]; omega
               · have hb1 : Hid (decide (x ∈ M.heavy xs) = false) := decide_eq_false hm
                 have hy2 := Lib.hid (hmiss.out hm)
                 clear hhit hmiss hm
                 go_wp2_with (go_at_call 92; refine (containsIs Ah (M.heavy xs) xs.length ch x _ (M.heavy_len xs) (by omega) hH4 false hb1).mono ?_; rintro e w' ⟨rfl, rfl⟩)
                 go_roundw
                 case rel => exact ⟨k + 1, by omega, by go_num, by rw [hy2.out], trivial⟩
                 case measure => simp [intOf]; omega)
        · obtain rfl : k = W.length - 1 := by omega
          have he : Hid (M.lightIn xs ((W.drop 1).take (W.length - 1)) = L) := by show _ = _; rw [List.take_of_length_le (by rw [hDl.out]; exact Nat.le_refl _)]; exact hLW.out
          go_wp2
          go_ret2
          exact ⟨by rw [he.out]; rfl, hB4.out⟩
  · rw [M.lightSteps_no (by rw [hr.out]; exact h0), hr.out]
    have hq : (r != 0) = true := by simp [h0]
    clear h0
    go_enter Try.func45, Try.ntmps45
    go_wp2_with fail
    refine HC.out.mono ?_
    rintro e w1 ⟨rfl, hb⟩
    have hB := btr (bal (bal (b0 w) _) _) hb
    go_wp2
    go_ret2
    exact ⟨rfl, hB⟩

set_option maxHeartbeats 4000000 in
set_option maxRecDepth 100000 in
theorem spec_LightSteps : GivesNum1 44 M.lightSteps := by
  intro A xs c v w hx hcc h
  obtain ⟨r, hr⟩ : ∃ r, Hid (M.code xs [v] = r) := ⟨_, rfl⟩
  have hc := l01Nodes A (some ⟨w.heap.size + 1, 0, none⟩) xs [v] c 1 ((w.alloc (.cells #[.slice A xs.length c] 28)).alloc (.cells #[.int .i64 v] 2)) (by omega) (by simp) ((h.al _).al _) (by have := ints_new (w.alloc (.cells #[.slice A xs.length c] 28)) #[.int .i64 v] [v] rfl; simpa using this) r hr
  simp only [List.length_cons, List.length_nil, Nat.zero_add] at hc
  have HC := Lib.hid hc
  clear hc
  by_cases h0 : r = 0
  · subst h0
    have hn := M.code_node hr.out
    have Ht := Lib.hid (M.code_tree hr.out)
    have hlen := (M.tree_len Ht.out).2
    obtain ⟨v, rfl⟩ := Int.eq_ofNat_of_zero_le hn.1
    have hvl : v < xs.length := by simpa using hn.2.1
    rw [M.lightSteps_yes hr.out]
    obtain ⟨L, hL⟩ : ∃ L, Hid (M.lights xs v = L) := ⟨_, rfl⟩
    rw [hL.out]
    clear hn
    go_enter Try.func44, Try.ntmps44
    go_wp2_with fail
    refine HC.out.mono ?_
    rintro e w1 ⟨rfl, hb⟩
    have hB := Lib.hid (btr (bal (bal (b0 w) _) _) hb)
    have hcA : w1.cell? ⟨w.heap.size, 0, none⟩ = some (.slice A xs.length c) := cell_be (cell_al (by simp) _) hb
    have h1 := Lib.hid (((h.al _).al _).be hb)
    clear hb h HC
    have hP : ∀ W, Hid (Below w1.heap.size w1 W) → Calls Try.prog 82 #[.agg #[.slice A xs.length c]] W fun e w' => ∃ A' c' ps, e = .returned (.slice A' xs.length c') ∧ Hid (M.ParsOK xs ps) ∧ Hid (Ints w' w'.heap.size A' ps) ∧ Hid (Below w1.heap.size w1 w') ∧ Hid (Below W.heap.size W w') := fun W hW =>
      (l01Parents A xs c W Ht (h1.out.be hW.out)).mono fun e w' ⟨A', c', ps, he, hok, ho, hb⟩ => ⟨A', c', ps, he, hok, ints_of_own64 ho, btr hW.out hb, hb⟩
    have hH : ∀ W, Hid (Below w1.heap.size w1 W) → Calls Try.prog 89 #[.agg #[.slice A xs.length c]] W fun e w' => ∃ A' c', e = .returned (.slice A' xs.length c') ∧ Hid (Ints w' w'.heap.size A' (M.heavy xs)) ∧ Hid (Below w1.heap.size w1 w') ∧ Hid (Below W.heap.size W w') := fun W hW =>
      (l08Heavy A xs c W Ht (h1.out.be hW.out)).mono fun e w' ⟨A', c', he, ho, hb⟩ => ⟨A', c', he, ints_of_own64 ho.out, btr hW.out hb, hb⟩
    have HP := Lib.hid hP
    have HH := Lib.hid hH
    have HcA := Lib.hid hcA
    have K0 : Hid (Below w1.heap.size w1 w1.drew) := (Below.refl _ _).drew
    have cA0 : w1.drew.cell? ⟨w.heap.size, 0, none⟩ = some (.slice A xs.length c) := hcA
    clear hP hH
    go_wp2
    go_region_held3 (fun w' => w'.cell? ⟨w.heap.size, 0, none⟩ = some (.slice A xs.length c) ∧ Hid (Below w1.heap.size w1 w')) (first | exact ⟨cA0, K0⟩ | exact ⟨(cell_be HcA.out (Hid.out (by assumption))), by assumption⟩) (first | (go_at_call 82; refine (HP.out _ (by assumption)).mono ?_; rintro e w7 ⟨A7, c7, ps, rfl, hok, ho7, hb7, hc7⟩) | (go_at_call 89; refine (HH.out _ (by assumption)).mono ?_; rintro e w8 ⟨A8, c8, rfl, ho8, hb8, hc8⟩))
    have h7 : Hid (Ints w8 w8.heap.size A7 ps) := ho7.out.be hc8.out
    have hB8 : Hid (Below w.heap.size w w8) := btr hB.out hb8.out
    have hst : Hid (0 + M.lightIn xs (M.upTo ps 0 v) = L) := by show _ = _; rw [← hL.out, M.lights_up Ht.out hok.out hvl, Int.zero_add]
    have hul := M.upTo_len Ht.out hok.out hvl
    clear HP HH HcA K0 cA0 ho7 hb7 hc7 hb8 hc8 hcA
    go_wp2
    go_loopw [1, 9] (fun qv qc wr => ∃ (a : Nat) (y : Int), a < xs.length ∧ 0 ≤ y ∧ y + (a : Int) ≤ 24 ∧ qv = .int .i64 (a : Int) ∧ qc = .int .i64 y ∧ Hid (y + M.lightIn xs (M.upTo ps 0 a) = L) ∧ w8 = wr) (fun qv _ _ => (intOf qv).toNat)
    case atStart => exact ⟨v, 0, hvl, by omega, by omega, rfl, rfl, hst, rfl⟩
    case round =>
      obtain ⟨a, y, hal, hy0, hya, rfl, rfl, hL2, rfl⟩ := hrel
      clear hst
      by_cases ha : 0 < a
      · obtain ⟨p, hq, hpa, _⟩ := M.par_has Ht.out hok.out ha hal
        have hs := Lib.hid (M.lightIn_step Ht.out hok.out ha hal hq)
        obtain ⟨pb, po, z, rfl, hpb, g, hX⟩ := h7.out.at_ (k := a) (by rw [hok.out.1]; exact hal)
        have hX2 := hX.out
        rw [hq] at hX2
        injection hX2 with hX2
        subst hX2
        have ha0 : (0 : Int) < (a : Int) := by omega
        have ha1 : (0 : Int) ≤ (a : Int) := by omega
        have hax : (a : Int) < (xs.length : Int) := by omega
        obtain ⟨b, hb⟩ : ∃ b, Hid (M.isHeavy xs a = b) := ⟨_, rfl⟩
        rw [hb.out] at hs
        have HLt := Lib.hid (l08Light (some ⟨pb, po, none⟩) A8 xs ps c7 c8 a w8 Ht hok hal h7 ho8 b hb)
        clear hX hq hb
        cases b
        · have hn2 : Hid (y + 1 + M.lightIn xs (M.upTo ps 0 p) = L) := by have h1 := hs.out; have h2 := hL2.out; show _ = _; simp at h1; omega
          clear hs hL2
          go_wp2_with (go_at_call 91; refine HLt.out.mono ?_; rintro e w' ⟨rfl, rfl⟩)
          go_roundw
          case rel => exact ⟨p, y + 1, by omega, by omega, by omega, rfl, by go_num, hn2, trivial⟩
          case measure => simp [intOf]; omega
        · have hn2 : Hid (y + M.lightIn xs (M.upTo ps 0 p) = L) := by have h1 := hs.out; have h2 := hL2.out; show _ = _; simp at h1; omega
          clear hs hL2
          go_wp2_with (go_at_call 91; refine HLt.out.mono ?_; rintro e w' ⟨rfl, rfl⟩)
          go_roundw
          case rel => exact ⟨p, y, by omega, by omega, by omega, rfl, rfl, hn2, trivial⟩
          case measure => simp [intOf]; omega
      · obtain rfl : a = 0 := by omega
        have he : Hid (y = L) := by have := hL2.out; rw [M.lightIn_root, Int.add_zero] at this; exact this
        clear hL2
        go_wp2
        go_ret2
        exact ⟨by rw [he.out]; rfl, hB8.out⟩
  · rw [M.lightSteps_no (by rw [hr.out]; exact h0), hr.out]
    have hq : (r != 0) = true := by simp [h0]
    clear h0
    go_enter Try.func44, Try.ntmps44
    go_wp2_with fail
    refine HC.out.mono ?_
    rintro e w1 ⟨rfl, hb⟩
    have hB := btr (bal (bal (b0 w) _) _) hb
    go_wp2
    go_ret2
    exact ⟨rfl, hB⟩
end Go.Proofs.Ytamnilpmdccgoaa
