/- HeavyPaths, the program's and the model's: all heavy paths, or a code. -/
import Derived.Test.YtamnilpmdccgoaaGivesR
import Derived.Test.YtamnilpmdccgoaaPushG
import Derived.Test.YtamnilpmdccgoaaHeavyIn
import Derived.Test.YtamnilpmdccgoaaHvLight
import Derived.Test.YtamnilpmdccgoaaIndex
import Derived.Deep.DeepCutAuto
namespace Go.Proofs.Ytamnilpmdccgoaa
open Go.RowKit

namespace M
/-- the path from a node on, none behind a leaf -/
def hvRest (xs : List Int) (a : Int) : List Int := if 0 ≤ a then hvPath xs a.toNat else []
theorem hvPath_pos {xs : List Int} (ht : isTree xs = true) {v : Nat} (hv : v < xs.length) : (hvPath xs v).length = (hvPath xs v).length - 1 + 1 := by
  rcases hvAt_lt ht hv with h | ⟨c, h, _, _⟩
  · rw [hvPath_end hv h]; rfl
  · rw [hvPath_step ht hv h]; simp
/-- what is left to go -/
def hvM (n : Nat) (a : Int) : Nat := if a < 0 then 0 else ((n : Int) - a).toNat
theorem hvM_lt {n u : Nat} {y : Int} (hu : u < n) (h : y = -1 ∨ ∃ u' : Nat, y = (u' : Int) ∧ u < u') : hvM n y < hvM n (u : Int) := by
  simp only [hvM]
  rw [if_neg (show ¬ (u : Int) < 0 by omega)]
  rcases h with rfl | ⟨u', rfl, h1⟩
  · rw [if_pos (by omega)]; omega
  · rw [if_neg (by omega)]; omega
theorem hvRest_none (xs : List Int) : hvRest xs (-1) = [] := rfl
theorem hvRest_at (xs : List Int) (v : Nat) : hvRest xs (v : Int) = hvPath xs v := by simp [hvRest]
theorem hvRest_step {xs : List Int} (ht : isTree xs = true) {v : Nat} (hv : v < xs.length) : hvRest xs (v : Int) = (v : Int) :: hvRest xs (hvAt xs v) := by
  rw [hvRest_at]
  rcases hvAt_lt ht hv with h | ⟨c, h, _, _⟩
  · rw [hvPath_end hv h, h, hvRest_none]
  · rw [hvPath_step ht hv h, h, hvRest_at]
end M

theorem own_headR {w : World} {B n c : Nat} {A : Option Addr} {zs : List Int} (h : Own64 w B (.slice A n c) zs) (hz : 0 < n) : ∃ g, A = some ⟨g, 0, none⟩ ∧ B ≤ g ∧ g < w.heap.size := by
  have hl := own64_len h
  rcases h.2 with ⟨e, h0⟩ | ⟨g, cap, cur, hv, _⟩
  · omega
  · injection hv with e1
    subst e1
    exact ⟨g, rfl, World.ownsRow.lt h g rfl⟩

def F_HeavyPaths : List Int → List (List Int) × Int := M.heavyPaths
theorem hvPaths_small {xs : List Int} (ht : M.isTree xs = true) : ∀ k, k ≤ xs.length → ∀ zs ∈ M.hvPaths xs k, zs.length ≤ 24 := by
  intro k
  induction k with
  | zero => intro _ zs h; simp [M.hvPaths] at h
  | succ k ih =>
    intro hk zs h
    rw [M.hvPaths] at h
    split at h
    · exact ih (by omega) zs h
    · rcases List.mem_append.1 h with h | h
      · exact ih (by omega) zs h
      · simp at h
        subst h
        exact M.hvPath_le ht (by omega)
theorem F_HeavyPaths_len (xs : List Int) : (F_HeavyPaths xs).1.length ≤ 8192 ∧ ∀ zs ∈ (F_HeavyPaths xs).1, zs.length ≤ 24 := by
  cases ht : M.isTree xs
  · rw [F_HeavyPaths, M.heavyPaths_no ht]; simp
  · rw [F_HeavyPaths, M.heavyPaths_yes ht]
    have h2 := (M.tree_len ht).2
    have h3 := M.hvPaths_len xs xs.length
    exact ⟨by show (M.hvPaths xs xs.length).length ≤ _; omega, hvPaths_small ht _ (Nat.le_refl _)⟩

set_option maxHeartbeats 4000000 in
set_option maxRecDepth 100000 in
theorem impl_HeavyPaths : GivesRows 40 F_HeavyPaths := by
  intro A xs c w hx hcc h
  have hc := codeOf0 A xs c (w.alloc (.cells #[.slice A xs.length c] 28)) (by omega) (h.al _) _ rfl
  cases ht : M.isTree xs
  · rw [ht] at hc
    have HC := Lib.hid hc
    have hF : F_HeavyPaths xs = ([], 1) := M.heavyPaths_no ht
    rw [hF]
    clear hc ht hF
    go_enter Try.func40, Try.ntmps40
    go_wp2_with fail
    refine HC.out.mono ?_
    rintro e w1 ⟨rfl, hb⟩
    have hB := btr (bal (b0 w) _) hb
    go_wp2
    go_ret2
    exact ⟨none, 0, [], rfl, rws_nil _ _, hB⟩
  · rw [ht] at hc
    have HC := Lib.hid hc
    have hF : F_HeavyPaths xs = (M.hvPaths xs xs.length, 0) := M.heavyPaths_yes ht
    have Ht := Lib.hid ht
    have hlen := M.tree_len ht
    rw [hF]
    obtain ⟨Z, hZ⟩ : ∃ Z, Hid (M.hvPaths xs xs.length = Z) := ⟨_, rfl⟩
    rw [hZ.out]
    clear hc ht hF
    go_enter Try.func40, Try.ntmps40
    go_wp2_with fail
    refine HC.out.mono ?_
    rintro e w1 ⟨rfl, hb⟩
    have hB := Lib.hid (btr (bal (b0 w) _) hb)
    have hcell : w1.cell? ⟨w.heap.size, 0, none⟩ = some (.slice A xs.length c) := cell_be (by simp) hb
    have h1 := Lib.hid ((h.al _).be hb)
    have z1 := hB.out.size
    clear hb h HC
    go_wp2_with fail
    refine (heavyIn A xs c _ hcc.1 hcc.2 Ht h1).mono ?_
    rintro e w2 ⟨Ah, ch, rfl, ho, hb⟩
    have hB2 := Lib.hid (btr hB.out hb)
    have z2 := hB2.out.size
    have Hh := Lib.hid (ints_of_own64 ho.out)
    have h0 : Hid (Rws w2 w2.heap.size (.slice none 0 0) [] (M.hvPaths xs 0)) := rws_nil _ _
    have hb0 : Hid (Below w2.heap.size w2 w2) := b0 w2
    clear hb ho hcell h1
    go_wp2
    go_loopw [6, 7, 8, 9, 20] (fun q _ _ _ i wr => ∃ (k : Nat) (A' : Option Addr) (n c' : Nat) (hs : List Hdr), k ≤ xs.length ∧ i = .int .i64 (k : Int) ∧ q = .slice A' n c' ∧ Hid (Rws wr w2.heap.size (.slice A' n c') hs (M.hvPaths xs k)) ∧ Hid (Below w2.heap.size w2 wr)) (fun _ _ _ _ i _ => xs.length - (intOf i).toNat)
    case atStart => exact ⟨0, none, 0, 0, [], Nat.zero_le _, rfl, rfl, h0, hb0⟩
    case round =>
      obtain ⟨k, A', n, c', hs, hk, rfl, rfl, hW, hbr⟩ := hrel
      clear h0 hb0
      by_cases hlt : k < xs.length
      · have Hh2 := Lib.hid (Hh.out.be hbr.out)
        obtain ⟨b, hb⟩ : ∃ b, Hid (M.isHeavy xs k = b) := ⟨_, rfl⟩
        have hkn : (k : Int) < (xs.length : Int) := by omega
        have hnk : n ≤ k := by have h1 := hW.out.shape.1; have h2 := M.hvPaths_len xs k; omega
        cases b
        · have hs1 := Lib.hid (M.hvPaths_miss hb.out)
          have hst : Hid ([] ++ M.hvRest xs (k : Int) = M.hvPath xs k) := by show _ = _; rw [List.nil_append, M.hvRest_at]
          have hst0 : Hid (Own64 wr wr.heap.size (.slice none 0 0) []) := own64_nil _ _
          have hk24 := M.hvPath_le Ht.out hlt
          go_wp2_with (go_at_call 92; refine (containsIs Ah (M.heavy xs) xs.length ch (k : Int) _ (M.heavy_len xs) (by omega) Hh2 false hb).mono ?_; rintro e w' ⟨rfl, rfl⟩)
          obtain ⟨wo, rfl⟩ : ∃ wo : World, wo = wr := ⟨_, rfl⟩
          go_loopw [8, 9] (fun q qa wr => ∃ (a : Int) (pre : List Int) (A3 : Option Addr) (c3 : Nat), (a = -1 ∨ ∃ u : Nat, a = (u : Int) ∧ u < xs.length) ∧ qa = .int .i64 a ∧ q = .slice A3 pre.length c3 ∧ Hid (pre ++ M.hvRest xs a = M.hvPath xs k) ∧ Hid (Own64 wr wo.heap.size (.slice A3 pre.length c3) pre) ∧ Hid (Below wo.heap.size wo wr)) (fun _ qa _ => M.hvM xs.length (intOf qa))
          case atStart => exact ⟨(k : Int), [], none, 0, .inr ⟨k, rfl, hlt⟩, rfl, rfl, hst, hst0, b0 wo⟩
          case round =>
            obtain ⟨a, pre, A3, c3, ha, rfl, rfl, hpre, hop, hbo⟩ := hrel
            clear hst hst0
            have hpl : pre.length ≤ 24 := by have := congrArg List.length hpre.out; rw [List.length_append] at this; omega
            have zo := hbo.out.size
            rcases ha with rfl | ⟨u, rfl, hu⟩
            · have hpe : Hid (pre = M.hvPath xs k) := by have := hpre.out; rw [M.hvRest_none, List.append_nil] at this; exact this
              have hk1 : 0 < pre.length := by rw [hpe.out]; rw [M.hvPath_pos Ht.out hlt]; simp
              obtain ⟨g2, rfl, hg2, hg2'⟩ := own_headR hop.out hk1
              have hW2 : Hid (Rws wr w2.heap.size (.slice A' n c') hs (M.hvPaths xs k)) := hW.out.be hbo.out
              have zbo := hbr.out.size
              have hrow : Hid (Own64 wr w2.heap.size (hdr (g2, pre.length, c3)) pre) := own_mono hop.out zbo
              have hne : Hid ((Value.slice A' n c').ownBlock ≠ some (g2, pre.length, c3).1) := fun e => by have := (World.ownsRow.lt hW.out.row _ e).2; simp only at this; omega
              have hfr : Hid (∀ h' ∈ hs, h'.1 ≠ (g2, pre.length, c3).1) := fun h' hh e => by have := (hW.out.lt hh).2; simp only at e; omega
              have hB3 : w2.heap.size ≤ wr.heap.size := by omega
              have hbw : Hid (Below w2.heap.size w2 wr) := hbr.out.trans (hbo.out.mono zbo)
              clear hpre hop hbo
              go_wp2_with (at_builtin; refine pushRws rfl (.tmp 37) (.tmp 39) rfl wr w2.heap.size A' n c' hs _ (g2, pre.length, c3) pre rfl rfl hW2 hrow hne hfr hB3 (by omega) ?_; intro A5 c5 w5 hW5 hb5)
              have hW6 : Hid (Rws w5 w2.heap.size (.slice A5 (n + 1) c5) (hs ++ [(g2, pre.length, c3)]) (M.hvPaths xs (k + 1))) := by
                have := hW5.out
                rw [hpe.out] at this ⊢
                rw [hs1.out]; exact this
              have hb6 : Hid (Below w2.heap.size w2 w5) := hbw.out.trans hb5.out
              go_roundw
              case rel => exact ⟨k + 1, A5, n + 1, c5, _, by omega, by go_num, rfl, hW6, hb6⟩
              case measure => simp [intOf]; omega
            · obtain ⟨qb, qo, y, rfl, hbB, g, hX⟩ := Hh2.out.at_ (k := u) (by rw [M.heavy_len]; exact hu)
              have hX2 := hX.out
              rw [M.heavy_at xs hu] at hX2
              injection hX2 with hX2
              have hnx : Hid ((pre ++ [(u : Int)]) ++ M.hvRest xs y = M.hvPath xs k) := by
                show _ = _
                rw [← hpre.out, M.hvRest_step Ht.out hu, ← hX2, List.append_assoc]; rfl
              have hya : y = -1 ∨ ∃ u' : Nat, y = (u' : Int) ∧ u < u' ∧ u' < xs.length := by
                rw [← hX2]
                exact M.hvAt_lt Ht.out hu
              have hu0 : (0 : Int) ≤ (u : Int) := by omega
              have hux : (u : Int) < (xs.length : Int) := by omega
              have zbo := hbr.out.size
              clear hpre hX hX2
              go_wp2_with (at_builtin; refine push64 rfl (.tmp 33) (.tmp 35) rfl wr wo.heap.size A3 pre.length c3 pre (u : Int) rfl rfl hop zo (by omega) ?_; intro A5 c5 w5 ho5 hb5; have g5 : w5.cell? ⟨qb, qo + u, none⟩ = some (.int .i64 y) := (hb5.out.cell (p := ⟨qb, qo + u, none⟩) hbB).trans ((hbo.out.cell (p := ⟨qb, qo + u, none⟩) hbB).trans g))
              have hl5 : Hid ((pre ++ [(u : Int)]).length = pre.length + 1) := by show _ = _; simp
              rw [← hl5.out] at ho5
              have hb6 : Hid (Below wo.heap.size wo w5) := hbo.out.trans hb5.out
              have hya2 : y = -1 ∨ ∃ u' : Nat, y = (u' : Int) ∧ u' < xs.length := hya.imp id fun ⟨u', h1, _, h2⟩ => ⟨u', h1, h2⟩
              go_roundw
              case rel => exact ⟨y, pre ++ [(u : Int)], A5, c5, hya2, rfl, by rw [hl5.out], hnx, ho5, hb6⟩
              case measure =>
                show M.hvM xs.length y < M.hvM xs.length (u : Int)
                exact M.hvM_lt hu (hya.imp id fun ⟨u', h1, h2, h3⟩ => ⟨u', h1, h2⟩)
        · have hs1 := Lib.hid (M.hvPaths_hit hb.out)
          go_wp2_with (go_at_call 92; refine (containsIs Ah (M.heavy xs) xs.length ch (k : Int) _ (M.heavy_len xs) (by omega) Hh2 true hb).mono ?_; rintro e w' ⟨rfl, rfl⟩)
          go_roundw
          case rel => exact ⟨k + 1, A', n, c', hs, by omega, by go_num, rfl, by rw [hs1.out]; exact hW, hbr⟩
          case measure => simp [intOf]; omega
      · obtain rfl : k = xs.length := by omega
        rw [hZ.out] at hW
        have hn := hW.out.shape.1
        go_wp2
        go_ret2
        subst hn
        exact ⟨_, _, hs, rfl, hW.out.mono z2, hB2.out.trans (hbr.out.mono z2)⟩

set_option maxHeartbeats 4000000 in
set_option maxRecDepth 100000 in
theorem spec_HeavyPaths : GivesRows 39 F_HeavyPaths := by
  intro A xs c w hx hcc h
  have hc := specIs A xs c (w.alloc (.cells #[.slice A xs.length c] 28)) (by omega) (h.al _)
  cases ht : M.isTree xs
  · rw [ht] at hc
    have HC := Lib.hid hc
    have hF : F_HeavyPaths xs = ([], 1) := M.heavyPaths_no ht
    rw [hF]
    clear hc ht hF
    go_enter Try.func39, Try.ntmps39
    go_wp2_with fail
    refine HC.out.mono ?_
    rintro e w1 ⟨rfl, hb⟩
    have hB := btr (bal (b0 w) _) hb
    go_wp2
    go_ret2
    exact ⟨none, 0, [], rfl, rws_nil _ _, hB⟩
  · rw [ht] at hc
    have HC := Lib.hid hc
    have hF : F_HeavyPaths xs = (M.hvPaths xs xs.length, 0) := M.heavyPaths_yes ht
    have Ht := Lib.hid ht
    have hlen := M.tree_len ht
    rw [hF]
    obtain ⟨Z, hZ⟩ : ∃ Z, Hid (M.hvPaths xs xs.length = Z) := ⟨_, rfl⟩
    rw [hZ.out]
    clear hc ht hF
    go_enter Try.func39, Try.ntmps39
    go_wp2_with fail
    refine HC.out.mono ?_
    rintro e w1 ⟨rfl, hb⟩
    have hB := Lib.hid (btr (bal (b0 w) _) hb)
    have hcA : w1.cell? ⟨w.heap.size, 0, none⟩ = some (.slice A xs.length c) := cell_be (by simp) hb
    have h1 := Lib.hid ((h.al _).be hb)
    have z1 := hB.out.size
    clear hb h HC
    have hP : ∀ W, Hid (Below w1.heap.size w1 W) → Calls Try.prog 82 #[.agg #[.slice A xs.length c]] W fun e w' => ∃ A' c' ps, e = .returned (.slice A' xs.length c') ∧ Hid (M.ParsOK xs ps) ∧ Hid (Own64 w' 0 (.slice A' xs.length c') ps) ∧ Hid (Below w1.heap.size w1 w') ∧ Hid (Below W.heap.size W w') := fun W hW =>
      (l01Parents A xs c W Ht (h1.out.be hW.out)).mono fun e w' ⟨A', c', ps, he, hok, ho, hb⟩ => ⟨A', c', ps, he, hok, own_mono ho (Nat.zero_le _), btr hW.out hb, hb⟩
    have hH : ∀ W, Hid (Below w1.heap.size w1 W) → Calls Try.prog 89 #[.agg #[.slice A xs.length c]] W fun e w' => ∃ A' c', e = .returned (.slice A' xs.length c') ∧ Hid (Own64 w' 0 (.slice A' xs.length c') (M.heavy xs)) ∧ Hid (Below w1.heap.size w1 w') ∧ Hid (Below W.heap.size W w') := fun W hW =>
      (l08Heavy A xs c W Ht (h1.out.be hW.out)).mono fun e w' ⟨A', c', he, ho, hb⟩ => ⟨A', c', he, own_mono ho.out (Nat.zero_le _), btr hW.out hb, hb⟩
    have HP := Lib.hid hP
    have HH := Lib.hid hH
    have HcA := Lib.hid hcA
    have K0 : Hid (Below w1.heap.size w1 w1.drew) := (Below.refl _ _).drew
    have cA0 : w1.drew.cell? ⟨w.heap.size, 0, none⟩ = some (.slice A xs.length c) := hcA
    clear hP hH
    go_wp2
    go_cut [4, 5, 6] (fun s4 s5 s6 wx => ∃ (A7 : Option Addr) (c7 : Nat) (ps : List Int) (A8 : Option Addr) (c8 g : Nat), s4 = .slice A7 xs.length c7 ∧ s5 = .slice A8 xs.length c8 ∧ s6 = .slice (some ⟨g, 0, none⟩) 0 0 ∧ Hid (M.ParsOK xs ps) ∧ Hid (Own64 wx 0 (.slice A7 xs.length c7) ps) ∧ Hid (Own64 wx 0 (.slice A8 xs.length c8) (M.heavy xs)) ∧ Hid (Rws wx w1.heap.size (.slice (some ⟨g, 0, none⟩) 0 0) [] []) ∧ Hid (Below w1.heap.size w1 wx))
    case first =>
      go_region_held3 (fun w' => w'.cell? ⟨w.heap.size, 0, none⟩ = some (.slice A xs.length c) ∧ Hid (Below w1.heap.size w1 w')) (first | exact ⟨cA0, K0⟩ | exact ⟨cell_be HcA.out (Hid.out (by assumption)), by assumption⟩ | exact ⟨cell_al cA0 _, bal K0.out _⟩ | exact ⟨cell_al (cell_be HcA.out (Hid.out (by assumption))) _, bal (Hid.out (by assumption)) _⟩) (first | (go_at_call 82; refine (HP.out _ (by first | assumption | exact bal K0.out _)).mono ?_; rintro e w7 ⟨A7, c7, ps, rfl, hok, ho7, hb7, hc7⟩) | (go_at_call 89; refine (HH.out _ (by first | assumption | exact bal hb7.out _)).mono ?_; rintro e w8 ⟨A8, c8, rfl, ho8, hb8, hc8⟩))
      all_goals (go_wp2_with fail)
      all_goals (go_meet)
      all_goals first
        | exact ⟨A7, c7, ps, A8, c8, _, rfl, rfl, rfl, hok, (own_be ho7.out hc8.out).alloc _, ho8.out.alloc _, rws_empty hb8.out.size, bal hb8.out _⟩
        | exact ⟨A7, c7, ps, A8, c8, _, rfl, rfl, rfl, hok, own_be (ho7.out.alloc _) hc8.out, ho8, (rws_empty hb7.out.size).be hc8.out, hb8⟩
        | exact ⟨A7, c7, ps, A8, c8, _, rfl, rfl, rfl, hok, own_be ho7.out hc8.out, ho8, ((rws_empty K0.out.size).be hc7.out).be hc8.out, hb8⟩
    case rest =>
      obtain ⟨A7, c7, ps, A8, c8, g6, rfl, rfl, rfl, hok, h7, h8, hW0, hbc⟩ := hcut
      have hcell : wc.cell? ⟨w.heap.size, 0, none⟩ = some (.slice A xs.length c) := cell_be HcA.out hbc.out
      have h0 : Hid (Rws wc w1.heap.size (.slice (some ⟨g6, 0, none⟩) 0 0) [] (M.hvPaths xs 0)) := hW0
      have hb0 : Hid (Below wc.heap.size wc wc) := b0 wc
      have hcA0 := Lib.hid hcell
      have zc := hbc.out.size
      clear hcell hcA
      go_wp2
      go_loopw [6, 7, 8, 9] (fun q i _ _ wr => ∃ (k : Nat) (A' : Option Addr) (n c' : Nat) (hs : List Hdr), k ≤ xs.length ∧ i = .int .i64 (k : Int) ∧ q = .slice A' n c' ∧ Hid (Rws wr w1.heap.size (.slice A' n c') hs (M.hvPaths xs k)) ∧ Hid (Below w1.heap.size w1 wr) ∧ Hid (Own64 wr 0 (.slice A7 xs.length c7) ps) ∧ Hid (Own64 wr 0 (.slice A8 xs.length c8) (M.heavy xs))) (fun _ i _ _ _ => xs.length - (intOf i).toNat)
      case atStart => exact ⟨0, _, 0, 0, [], Nat.zero_le _, rfl, rfl, h0, hbc, h7, h8⟩
      case round =>
        obtain ⟨k, A', n, c', hs, hk, rfl, rfl, hW, hbr, h7, h8⟩ := hrel
        have hcA := cell_be HcA.out hbr.out
        clear h0 hb0 hW0 hcA0
        by_cases hlt : k < xs.length
        · obtain ⟨b, hb⟩ : ∃ b, Hid (M.isHeavy xs k = b) := ⟨_, rfl⟩
          have hkn : (k : Int) < (xs.length : Int) := by omega
          have hnk : n ≤ k := by have h1 := hW.out.shape.1; have h2 := M.hvPaths_len xs k; omega
          go_wp2_with fail
          refine (l01N A xs.length c _).mono ?_
          rintro e wn ⟨rfl, hbn⟩
          have hWn := Lib.hid (hW.out.be hbn)
          have hbrn := Lib.hid (btr hbr.out hbn)
          have o7n := Lib.hid (own_be h7.out hbn)
          have o8n := Lib.hid (own_be h8.out hbn)
          have h7n := Lib.hid (ints_of_own64 o7n.out)
          have h8n := Lib.hid (ints_of_own64 o8n.out)
          have HL := Lib.hid (l08Light A7 A8 xs ps c7 c8 k wn Ht hok hlt h7n h8n b hb)
          clear hbn hcA hW hbr h7 h8
          cases b
          · have hs1 := Lib.hid (M.hvPaths_miss hb.out)
            have hst : Hid ([] ++ M.hvRest xs (k : Int) = M.hvPath xs k) := by show _ = _; rw [List.nil_append, M.hvRest_at]
            have hst0 : Hid (Own64 (wn.alloc (.cells #[] 2)) wn.heap.size (.slice (some ⟨wn.heap.size, 0, none⟩) 0 0) []) := own64_empty (Nat.le_refl _)
            have hbst : Hid (Below wn.heap.size wn (wn.alloc (.cells #[] 2))) := bal (b0 wn) _
            have hk24 := M.hvPath_le Ht.out hlt
            go_wp2_with (go_at_call 91; refine HL.out.mono ?_; rintro e w' ⟨rfl, rfl⟩)
            go_loopw [8, 9] (fun q qa wr => ∃ (a : Int) (pre : List Int) (A3 : Option Addr) (c3 : Nat), (a = -1 ∨ ∃ u : Nat, a = (u : Int) ∧ u < xs.length) ∧ qa = .int .i64 a ∧ q = .slice A3 pre.length c3 ∧ Hid (pre ++ M.hvRest xs a = M.hvPath xs k) ∧ Hid (Own64 wr wn.heap.size (.slice A3 pre.length c3) pre) ∧ Hid (Below wn.heap.size wn wr)) (fun _ qa _ => M.hvM xs.length (intOf qa))
            case atStart => exact ⟨(k : Int), [], _, 0, .inr ⟨k, rfl, hlt⟩, rfl, rfl, hst, hst0, hbst⟩
            case round =>
              obtain ⟨a, pre, A3, c3, ha, rfl, rfl, hpre, hop, hbo⟩ := hrel
              clear hst hst0 hbst
              have hpl : pre.length ≤ 24 := by have := congrArg List.length hpre.out; rw [List.length_append] at this; omega
              have zo := hbo.out.size
              rcases ha with rfl | ⟨u, rfl, hu⟩
              · have hpe : Hid (pre = M.hvPath xs k) := by have := hpre.out; rw [M.hvRest_none, List.append_nil] at this; exact this
                have hk1 : 0 < pre.length := by rw [hpe.out]; rw [M.hvPath_pos Ht.out hlt]; simp
                obtain ⟨g2, rfl, hg2, hg2'⟩ := own_headR hop.out hk1
                have hW2 : Hid (Rws wr w1.heap.size (.slice A' n c') hs (M.hvPaths xs k)) := hWn.out.be hbo.out
                have zbo := hbrn.out.size
                have hrow : Hid (Own64 wr w1.heap.size (hdr (g2, pre.length, c3)) pre) := own_mono hop.out zbo
                have hne : Hid ((Value.slice A' n c').ownBlock ≠ some (g2, pre.length, c3).1) := fun e => by have := (World.ownsRow.lt hWn.out.row _ e).2; simp only at this; omega
                have hfr : Hid (∀ h' ∈ hs, h'.1 ≠ (g2, pre.length, c3).1) := fun h' hh e => by have := (hWn.out.lt hh).2; simp only at e; omega
                have hB3 : w1.heap.size ≤ wr.heap.size := by omega
                have hbw : Hid (Below w1.heap.size w1 wr) := btr hbrn.out hbo.out
                have h7r := Lib.hid (own_be o7n.out hbo.out)
                have h8r := Lib.hid (own_be o8n.out hbo.out)
                clear hpre hop hbo
                go_wp2_with (at_builtin; refine pushRwsG rfl (.tmp 41) (.tmp 43) rfl wr w1.heap.size A' n c' hs _ (g2, pre.length, c3) pre rfl rfl hW2 hrow hne hfr hB3 (by omega) ?_; intro A5 c5 w5 hW5 hb5 hg5)
                have h7w := Lib.hid (own_keepG h7r.out hW2.out hg5.out)
                have h8w := Lib.hid (own_keepG h8r.out hW2.out hg5.out)
                have hW6 : Hid (Rws w5 w1.heap.size (.slice A5 (n + 1) c5) (hs ++ [(g2, pre.length, c3)]) (M.hvPaths xs (k + 1))) := by
                  have := hW5.out
                  rw [hpe.out] at this ⊢
                  rw [hs1.out]; exact this
                have hb6 : Hid (Below w1.heap.size w1 w5) := hbw.out.trans hb5.out
                go_roundw
                case rel => exact ⟨k + 1, A5, n + 1, c5, _, by omega, by go_num, rfl, hW6, hb6, h7w, h8w⟩
                case measure => simp [intOf]; omega
              · obtain ⟨qb, qo, y, rfl, hbB, g, hX⟩ := h8n.out.at_ (k := u) (by rw [M.heavy_len]; exact hu)
                have hX2 := hX.out
                rw [M.heavy_at xs hu] at hX2
                injection hX2 with hX2
                have hnx : Hid ((pre ++ [(u : Int)]) ++ M.hvRest xs y = M.hvPath xs k) := by
                  show _ = _
                  rw [← hpre.out, M.hvRest_step Ht.out hu, ← hX2, List.append_assoc]; rfl
                have hya : y = -1 ∨ ∃ u' : Nat, y = (u' : Int) ∧ u < u' ∧ u' < xs.length := by
                  rw [← hX2]
                  exact M.hvAt_lt Ht.out hu
                have hu0 : (0 : Int) ≤ (u : Int) := by omega
                have hux : (u : Int) < (xs.length : Int) := by omega
                clear hpre hX hX2
                go_wp2_with (at_builtin; refine push64 rfl (.tmp 37) (.tmp 39) rfl wr wn.heap.size A3 pre.length c3 pre (u : Int) rfl rfl hop zo (by omega) ?_; intro A5 c5 w5 ho5 hb5; have g5 : w5.cell? ⟨qb, qo + u, none⟩ = some (.int .i64 y) := (hb5.out.cell (p := ⟨qb, qo + u, none⟩) hbB).trans ((hbo.out.cell (p := ⟨qb, qo + u, none⟩) hbB).trans g))
                have hl5 : Hid ((pre ++ [(u : Int)]).length = pre.length + 1) := by show _ = _; simp
                rw [← hl5.out] at ho5
                have hb6 : Hid (Below wn.heap.size wn w5) := hbo.out.trans hb5.out
                have hya2 : y = -1 ∨ ∃ u' : Nat, y = (u' : Int) ∧ u' < xs.length := hya.imp id fun ⟨u', h1, _, h2⟩ => ⟨u', h1, h2⟩
                go_roundw
                case rel => exact ⟨y, pre ++ [(u : Int)], A5, c5, hya2, rfl, by rw [hl5.out], hnx, ho5, hb6⟩
                case measure =>
                  show M.hvM xs.length y < M.hvM xs.length (u : Int)
                  exact M.hvM_lt hu (hya.imp id fun ⟨u', h1, h2, h3⟩ => ⟨u', h1, h2⟩)
          · have hs1 := Lib.hid (M.hvPaths_hit hb.out)
            go_wp2_with (go_at_call 91; refine HL.out.mono ?_; rintro e w' ⟨rfl, rfl⟩)
            go_roundw
            case rel => exact ⟨k + 1, A', n, c', hs, by omega, by go_num, rfl, by rw [hs1.out]; exact hWn, hbrn, o7n, o8n⟩
            case measure => simp [intOf]; omega
        · obtain rfl : k = xs.length := by omega
          rw [hZ.out] at hW
          have hn := hW.out.shape.1
          go_wp2_with fail
          refine (l01N A xs.length c _).mono ?_
          rintro e wn ⟨rfl, hbn⟩
          have hWn := Lib.hid (hW.out.be hbn)
          have hbrn := Lib.hid (btr hbr.out hbn)
          clear hbn hcA hW hbr h7 h8
          go_wp2
          go_ret2
          subst hn
          exact ⟨_, _, hs, rfl, hWn.out.mono z1, btr hB.out hbrn.out⟩
end Go.Proofs.Ytamnilpmdccgoaa
