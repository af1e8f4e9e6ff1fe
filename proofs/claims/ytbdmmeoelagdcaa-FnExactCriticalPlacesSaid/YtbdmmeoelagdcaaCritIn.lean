/- CriticalPlaces, the program's: the places of nodes, and those that go together with another text. -/
import Derived.Test.YtbdmmeoelagdcaaCritMath
import Derived.Test.YtbdmmeoelagdcaaRuleSp
import Derived.Test.YtbdmmeoelagdcaaComText
import Derived.Test.YtbdmmeoelagdcaaPush
namespace Go.Proofs.Ytbdmmeoelagdcaa
open Go.RowKit

noncomputable def F_Crit (l r m s : ByteArray) : List Int × Int := if M.isRule l.data.toList r.data.toList && M.isRule m.data.toList s.data.toList then (M.crTo l.data.toList m.data.toList m.size, 0) else ([], 6)
theorem F_Crit_yes {l r m s : ByteArray} (h : (M.isRule l.data.toList r.data.toList && M.isRule m.data.toList s.data.toList) = true) : F_Crit l r m s = (M.crTo l.data.toList m.data.toList m.size, 0) := by rw [F_Crit, if_pos h]
theorem F_Crit_no {l r m s : ByteArray} (h : (M.isRule l.data.toList r.data.toList && M.isRule m.data.toList s.data.toList) = false) : F_Crit l r m s = ([], 6) := by rw [F_Crit, if_neg (by rw [h]; decide)]
/-- two rules to a list and a code -/
def GivesRR (f : Nat) (F : ByteArray → ByteArray → ByteArray → ByteArray → List Int × Int) : Prop :=
  ∀ (l r m s : ByteArray) (w : World), l.size ≤ 1048576 → r.size ≤ 1048576 → m.size ≤ 1048576 → s.size ≤ 1048576 →
    Calls Try.prog f #[.agg #[.string l, .string r], .agg #[.string m, .string s]] w fun e w' => ∃ A' c', e = .returned (.tuple #[.slice A' (F l r m s).1.length c', .int .i64 (F l r m s).2]) ∧ Own64 w' w.heap.size (.slice A' (F l r m s).1.length c') (F l r m s).1 ∧ Below w.heap.size w w'

set_option maxHeartbeats 4000000 in
set_option maxRecDepth 100000 in
theorem placesOfNodes (m : ByteArray) (n : Nat) (w : World) (hn : Hid (m.size = n)) (h60 : n ≤ 60) :
    Calls Try.prog 106 #[.string m] w fun e w' => ∃ A' k c', e = .returned (.slice A' k c') ∧ Own64 w' w.heap.size (.slice A' k c') (M.plTo m.data.toList n) ∧ Below w.heap.size w w' := by
  have hL : Hid (m.data.toList.length = n) := by show _ = _; rw [← hn.out]; exact (Lib.size_eq m).symm
  have hat : Hid (∀ k (h : k < m.size), m.data.toList[k]? = some m[k]) := fun k h => List.getElem?_eq_getElem (by rw [hL.out, ← hn.out]; exact h)
  have hst : Hid (Own64 w w.heap.size (.slice none 0 0) (M.plTo m.data.toList 0)) := own64_nil _ _
  go_enter Try.func106, Try.ntmps106
  go_wp2
  go_loopw [3, 4, 7] (fun q _ i wr => ∃ (k u : Nat) (A' : Option Addr) (c' : Nat), k ≤ m.size ∧ i = .int .i64 (k : Int) ∧ q = .slice A' u c' ∧ Hid (Own64 wr w.heap.size (.slice A' u c') (M.plTo m.data.toList k)) ∧ Hid (Below w.heap.size w wr)) (fun _ _ i _ => m.size - (intOf i).toNat)
  case atStart => exact ⟨0, 0, none, 0, Nat.zero_le _, rfl, rfl, hst, b0 w⟩
  case round =>
    clear hst
    obtain ⟨k, u, A', c', hk, rfl, rfl, ho, hb⟩ := hrel
    have hu := own64_len ho.out
    have hpl := M.plTo_len m.data.toList k
    have hu1 : u ≤ 1000000 := by have := hn.out; omega
    have hz := hb.out.size
    have hk60 : k ≤ 60 := by have := hn.out; omega
    clear hu hpl
    by_cases hlt : k < m.size
    · have hki : (k : Int) < (m.size : Int) := by omega
      by_cases h40 : m[k] = 40
      · have e40 : ((m[k].toNat : Int) == 40) = true := by rw [h40]; rfl
        have hs := Lib.hid (M.plTo_hit (m := m.data.toList) (k := k) (by rw [hat.out k hlt, h40]))
        clear h40 hat
        go_wp2_with (at_builtin; refine push64 rfl (.tmp 14) (.tmp 16) rfl wr w.heap.size A' u c' (M.plTo m.data.toList k) (k : Int) rfl rfl ho hz hu1 ?_; intro A9 c9 w9 ho9 hb9)
        rw [← hs.out] at ho9
        have hb10 := Lib.hid (hb.out.trans hb9.out)
        go_roundw
        case rel => exact ⟨k + 1, u + 1, A9, c9, by omega, by go_num, rfl, ho9, hb10⟩
        case measure => simp [intOf]; omega
      · have e40 : ((m[k].toNat : Int) == 40) = false := by
          have := ne_byte h40
          simpa using this
        have hs := M.plTo_miss (hat.out k hlt) h40
        rw [← hs] at ho
        clear hs h40 hat
        go_wp2
        go_roundw
        case rel => exact ⟨k + 1, u, A', c', by omega, by go_num, rfl, ho, hb⟩
        case measure => simp [intOf]; omega
    · have hkn : k = n := by have := hn.out; omega
      have hki : ¬ (k : Int) < (m.size : Int) := by omega
      rw [hkn] at ho
      clear hkn
      go_wp2
      go_ret
      exact ⟨A', u, c', rfl, ho.out, hb.out⟩

set_option maxHeartbeats 8000000 in
set_option maxRecDepth 100000 in
theorem impl_CriticalPlaces : GivesRR 59 F_Crit := by
  intro l r m s w hl hr hm hs
  obtain ⟨d0, d1⟩ := rule_cells w l r
  obtain ⟨f0, f1⟩ := rule_cells (w.alloc (.cells #[.string l, .string r] 62)) m s
  rw [World.size_alloc] at f0 f1
  obtain ⟨W, hW⟩ : ∃ W, W = (w.alloc (.cells #[.string l, .string r] 62)).alloc (.cells #[.string m, .string s] 62) := ⟨_, rfl⟩
  have a0 : W.cell? ⟨w.heap.size, 0, none⟩ = some (.string l) := by rw [hW]; exact (World.cell?_alloc_lt _ _ _ (World.block_lt_of_cell? _ _ d0)).trans d0
  have a1 : W.cell? ⟨w.heap.size, 1, none⟩ = some (.string r) := by rw [hW]; exact (World.cell?_alloc_lt _ _ _ (World.block_lt_of_cell? _ _ d1)).trans d1
  rw [← hW] at f0 f1
  have hB0 : Hid (Below w.heap.size w W) := by rw [hW]; exact bal (bal (b0 w) _) _
  have HI1 := fun X => Lib.hid (impl_IsRule l r X hl hr)
  have HI2 := fun X => Lib.hid (impl_IsRule m s X hm hs)
  simp only [F_IsRule] at HI1 HI2
  have Hno := fun h => Lib.hid (@F_Crit_no l r m s h)
  have Hyes := fun h => Lib.hid (@F_Crit_yes l r m s h)
  clear d0 d1
  cases hq1 : M.isRule l.data.toList r.data.toList
  · rw [hq1] at HI1 Hno
    rw [(Hno rfl).out]
    clear Hno Hyes HI2 hq1
    go_enter Try.func59, Try.ntmps59
    go_wp2_with fail
    rw [← hW]
    clear hW
    refine (HI1 _).out.mono ?_
    rintro e w1 ⟨rfl, hb1⟩
    have hB1 := Lib.hid (btr hB0.out hb1)
    go_wp2
    go_ret2
    exact ⟨none, 0, rfl, own64_nil _ _, hB1.out⟩
  · rw [hq1] at HI1 Hno Hyes
    cases hq2 : M.isRule m.data.toList s.data.toList
    · rw [hq2] at HI2 Hno
      rw [(Hno rfl).out]
      clear Hno Hyes hq1 hq2
      go_enter Try.func59, Try.ntmps59
      go_wp2_with fail
      rw [← hW]
      clear hW
      refine (HI1 _).out.mono ?_
      rintro e w1 ⟨rfl, hb1⟩
      have hB1 := Lib.hid (btr hB0.out hb1)
      have f0' := cellR_be f0 hb1
      have f1' := cellR_be f1 hb1
      go_wp2_with fail
      refine (HI2 _).out.mono ?_
      rintro e w2 ⟨rfl, hb2⟩
      have hB2 := Lib.hid (btr hB1.out hb2)
      go_wp2
      go_ret2
      exact ⟨none, 0, rfl, own64_nil _ _, hB2.out⟩
    · rw [hq2] at HI2 Hyes
      obtain ⟨n, hn⟩ : ∃ n, Hid (m.size = n) := ⟨_, rfl⟩
      have hpl : M.isPat l.data.toList = true := by simp only [M.isRule, Bool.and_eq_true] at hq1; exact hq1.1.1
      have hpm : M.isPat m.data.toList = true := by simp only [M.isRule, Bool.and_eq_true] at hq2; exact hq2.1.1
      have hl60 : l.size ≤ 60 := by have := (M.isPat_iff.1 hpl).1; rw [Lib.size_eq]; exact this
      have hm60 : m.size ≤ 60 := by have := (M.isPat_iff.1 hpm).1; rw [Lib.size_eq]; exact this
      have hn60 : n ≤ 60 := by rw [← hn.out]; exact hm60
      have hF : F_Crit l r m s = (M.crTo l.data.toList m.data.toList n, 0) := by rw [(Hyes rfl).out, hn.out]
      rw [hF]
      have HPl := fun X => Lib.hid (placesOfNodes m n X hn hn60)
      have hLm : Hid (m.data.toList.length = n) := by show _ = _; rw [← hn.out]; exact (Lib.size_eq m).symm
      have hpc : Hid (∀ k : Nat, m.data.toList[k]? = some 40 → M.piece (M.pieceT (m.data.toList.drop k)) = some []) := fun k hk => by
        obtain ⟨rr, hrr⟩ := M.piece_at (M.isPat_iff.1 hpm).2.1 hk (by decide)
        rw [M.pieceT_some hrr]
        exact M.piece_cut hrr
      have hPo : Hid (∀ (k : Nat) X, Calls Try.prog 107 #[.string (M.bs (m.data.toList.drop k))] X fun e w' => e = .returned (.string (M.bs (M.pieceT (m.data.toList.drop k)))) ∧ w' = X) := fun k X => by
        have := pieceOf (M.bs (m.data.toList.drop k)) X (by rw [M.bs_size, List.length_drop, hLm.out]; omega)
        rwa [M.bs_data] at this
      have hCo : Hid (∀ (k : Nat) X, m.data.toList[k]? = some 40 → Calls Try.prog 91 #[.string l, .string (M.bs (M.pieceT (m.data.toList.drop k)))] X fun e w' => (∃ T : ByteArray, e = .returned (.string T) ∧ Hid ((T.toList != []) = M.goT l.data.toList m.data.toList (k : Int))) ∧ Below X.heap.size X w') := fun k X hk => by
        have hp := hpc.out k hk
        have := commonText l (M.bs (M.pieceT (m.data.toList.drop k))) X hl60 (by
          rw [M.bs_size]
          obtain ⟨rr, hrr⟩ := M.piece_at (M.isPat_iff.1 hpm).2.1 hk (by decide)
          rw [M.pieceT_some hrr, List.length_take, List.length_drop, hLm.out]
          omega) (M.isPat_iff.1 hpl).2.1 (by rw [M.bs_data]; exact hp)
        rw [M.bs_data] at this
        refine this.mono fun e w' ⟨he, hb⟩ => ⟨⟨_, he, ?_⟩, hb.out⟩
        show _ = _
        rw [M.goT, Int.toNat_natCast, Lib.toList_data, M.bs_data]
        cases hc : M.com1 l.data.toList (M.pieceT (m.data.toList.drop k)) with
        | none => rfl
        | some x =>
          have := M.com1_some hc
          simpa using this
      have hSl : Hid (∀ k : Nat, k ≤ n → ∀ X, (Instr.slice 9 (.string m) (some (.int .i64 (k : Int))) none none).run Try.prog X = .ok (.string (M.bs (m.data.toList.drop k))) X) := fun k hk X => by
        have := run_slice_string_l (P := Try.prog) X 9 m Try.underlying9 .i64 (k : Int) (by omega) (by have := hn.out; omega)
        rw [this, show ((k : Int)).toNat = k by omega, cut_from]
      clear Hno Hyes hq1 hq2 hF hpc hpl hpm hl60 hm60 hm
      go_enter Try.func59, Try.ntmps59
      go_wp2_with fail
      rw [← hW]
      clear hW
      refine (HI1 _).out.mono ?_
      rintro e w1 ⟨rfl, hb1⟩
      have hB1 := Lib.hid (btr hB0.out hb1)
      have a0' := cellR_be a0 hb1
      have f0' := cellR_be f0 hb1
      have f1' := cellR_be f1 hb1
      go_wp2_with fail
      refine (HI2 _).out.mono ?_
      rintro e w2 ⟨rfl, hb2⟩
      have hB2 := Lib.hid (btr hB1.out hb2)
      have a2 := cellR_be a0' hb2
      have f2 := cellR_be f0' hb2
      clear hb1 hb2 f1' f0' a0' HI1 HI2 a1 f1 a0 f0
      go_wp2_with fail
      refine (HPl _).out.mono ?_
      rintro e w3 ⟨A3, k3, c3, rfl, ho3, hb3⟩
      have hB3 := Lib.hid (btr hB2.out hb3)
      have a3 := Lib.hid (cellR_be a2 hb3)
      have f3 := Lib.hid (cellR_be f2 hb3)
      have Ho3 := Lib.hid ho3
      have hk3 := Lib.hid (own64_len ho3)
      have hk60 : k3 ≤ 60 := by have := hk3.out; have := M.plTo_len m.data.toList n; omega
      have hst : Hid (Own64 w3 w3.heap.size (.slice none 0 0) (((M.plTo m.data.toList n).take 0).filter (M.goT l.data.toList m.data.toList))) := own64_nil _ _
      clear ho3 hb3 a2 f2 HPl
      go_wp2
      go_loopw [6, 8, 21] (fun q _ i wr => ∃ (j u : Nat) (A' : Option Addr) (c' : Nat), j ≤ k3 ∧ i = .int .i64 (j : Int) ∧ q = .slice A' u c' ∧ Hid (Own64 wr w3.heap.size (.slice A' u c') (((M.plTo m.data.toList n).take j).filter (M.goT l.data.toList m.data.toList))) ∧ Hid (Below w3.heap.size w3 wr)) (fun _ _ i _ => k3 - (intOf i).toNat)
      case atStart => exact ⟨0, 0, none, 0, Nat.zero_le _, rfl, rfl, hst, b0 w3⟩
      case round =>
        clear hst
        obtain ⟨j, u, A', c', hj, rfl, rfl, ho, hb⟩ := hrel
        have hu := own64_len ho.out
        have hu1 : u ≤ 1000000 := by
          have h1 := List.length_filter_le (M.goT l.data.toList m.data.toList) ((M.plTo m.data.toList n).take j)
          rw [List.length_take] at h1
          omega
        clear hu
        by_cases hlt : j < k3
        · obtain ⟨x, hx⟩ : ∃ x, (M.plTo m.data.toList n)[j]? = some x := ⟨_, List.getElem?_eq_getElem (by rw [← hk3.out]; exact hlt)⟩
          obtain ⟨i, rfl, hin, h40⟩ := M.mem_plTo (List.mem_of_getElem? hx)
          obtain ⟨g3, hA3⟩ : ∃ g, A3 = some ⟨g, 0, none⟩ := by
            rcases Ho3.out.2 with ⟨h0, _⟩ | ⟨g, cap, cur, hvv, _⟩
            · injection h0 with _ e _; omega
            · injection hvv with e1; exact ⟨g, e1⟩
          subst hA3
          obtain ⟨p1, p2, p3, p4⟩ := own64_cell (own_be Ho3.out hb.out) hk3.out.symm hx
          have hji : (j : Int) < (k3 : Int) := by omega
          have hj0 : (0 : Int) ≤ (j : Int) := by omega
          have hin0 : (0 : Int) ≤ (i : Int) := by omega
          have ca := cellR_be a3.out hb.out
          have cf := cellR_be f3.out hb.out
          have hsl := hSl.out i (by omega)
          have HP := Lib.hid (hPo.out i)
          have HC := Lib.hid (fun X => hCo.out i X h40)
          have hfs : ((M.plTo m.data.toList n).take (j + 1)).filter (M.goT l.data.toList m.data.toList) = (((M.plTo m.data.toList n).take j).filter (M.goT l.data.toList m.data.toList)) ++ (if M.goT l.data.toList m.data.toList (i : Int) then [(i : Int)] else []) := by
            rw [List.take_add_one, hx, List.filter_append]
            cases hg : M.goT l.data.toList m.data.toList (i : Int) <;> simp [hg]
          generalize (((M.plTo m.data.toList n).take j).filter (M.goT l.data.toList m.data.toList)) = Fj at *
          generalize hFj2 : (((M.plTo m.data.toList n).take (j + 1)).filter (M.goT l.data.toList m.data.toList)) = Fj2 at *
          generalize M.goT l.data.toList m.data.toList (i : Int) = q at *
          generalize M.pieceT (m.data.toList.drop i) = PT at *
          generalize m.data.toList.drop i = DT at *
          have Hfs := Lib.hid hfs
          have HFj2 := Lib.hid hFj2
          have b9 : Hid (Below wr.heap.size wr wr.drew) := (b0 wr).drew
          clear hx h40 hfs hFj2 p2 p3 p4
          go_wp2
          go_region_held3 (fun X => (X.cell? ⟨w.heap.size, 0, none⟩ = some (.string l) ∧ X.cell? ⟨w.heap.size + 1, 0, none⟩ = some (.string m)) ∧ Hid (Below wr.heap.size wr X)) (first | exact ⟨⟨ca, cf⟩, b9⟩ | exact ⟨⟨cellR_be ca b8.out, cellR_be cf b8.out⟩, b8⟩) (first | (go_at_call 107; refine (HP.out _).mono ?_; rintro e w7 ⟨rfl, hw7⟩; subst hw7) | (go_at_call 91; refine (HC.out _).mono ?_; rintro e w8 ⟨⟨T8, rfl, hT8⟩, hb8⟩; have b8 : Hid (Below wr.heap.size wr w8) := b9.out.trans (hb8.mono b9.out.size)))
          have hb10 := Lib.hid (btr hb.out b8.out)
          have ho8 := Lib.hid (own_be ho.out b8.out)
          have hz8 : w3.heap.size ≤ w8.heap.size := hb10.out.size
          have ht8 : (!T8.toList.isEmpty) = q := by
            rw [← hT8.out]
            cases T8.toList <;> rfl
          rw [ht8]
          clear ht8 ho hb ca cf p1 hsl
          cases q
          · have hF : Hid (Fj2 = Fj) := by show _ = _; rw [Hfs.out]; simp
            rw [← hF.out] at ho8
            clear Hfs
            go_wp2
            go_roundw
            case rel => exact ⟨j + 1, u, A', c', by omega, by go_num, rfl, by rw [HFj2.out]; exact ho8, hb10⟩
            case measure => simp [intOf]; omega
          · have hF : Hid (Fj2 = Fj ++ [(i : Int)]) := by show _ = _; rw [Hfs.out]; simp
            clear Hfs
            go_wp2_with (at_builtin; refine push64 rfl (.tmp 34) (.tmp 36) rfl w8 w3.heap.size A' u c' Fj (i : Int) rfl rfl ho8 hz8 hu1 ?_; intro A9 c9 w9 ho9 hb9)
            rw [← hF.out] at ho9
            have hb11 := Lib.hid (hb10.out.trans hb9.out)
            go_roundw
            case rel => exact ⟨j + 1, u + 1, A9, c9, by omega, by go_num, rfl, by rw [HFj2.out]; exact ho9, hb11⟩
            case measure => simp [intOf]; omega
        · obtain rfl : j = k3 := by omega
          have hji : ¬ (j : Int) < (j : Int) := by omega
          have hfin : Hid (((M.plTo m.data.toList n).take j).filter (M.goT l.data.toList m.data.toList) = M.crTo l.data.toList m.data.toList n) := by
            show _ = _
            have := hk3.out
            rw [List.take_of_length_le (by omega)]
            rfl
          have hz3 := hB3.out.size
          have ho2 := Lib.hid (own_mono ho.out hz3)
          rw [hfin.out] at ho2
          have hul := Lib.hid (own64_len ho2.out)
          have hB4 := Lib.hid (btr hB3.out hb.out)
          clear hfin ho
          go_wp2
          go_ret2
          refine ⟨A', c', ?_, ?_, hB4.out⟩
          · show _ = Ending.returned (.tuple #[.slice A' (M.crTo l.data.toList m.data.toList n).length c', .int .i64 0])
            rw [← hul.out]; rfl
          · show Own64 _ _ (.slice A' (M.crTo l.data.toList m.data.toList n).length c') (M.crTo l.data.toList m.data.toList n)
            rw [← hul.out]; exact ho2.out
end Go.Proofs.Ytbdmmeoelagdcaa
