/- CriticalPlaces, the model's. -/
import Derived.Test.YtbdmmeoelagdcaaCritIn
import Derived.Test.YtbdmmeoelagdcaaFnCommonPattern
import Derived.Test.YtbdmmeoelagdcaaMtS
namespace Go.Proofs.Ytbdmmeoelagdcaa
open Go.RowKit

theorem F_Crit_len (l r m s : ByteArray) : (F_Crit l r m s).1.length ≤ 1048576 := by
  cases h : (M.isRule l.data.toList r.data.toList && M.isRule m.data.toList s.data.toList)
  · rw [F_Crit_no h]; simp
  · rw [F_Crit_yes h]
    have h2 : M.isPat m.data.toList = true := by simp only [M.isRule, Bool.and_eq_true] at h; exact h.2.1.1
    have := (M.isPat_iff.1 h2).1
    have h3 := M.crTo_len l.data.toList m.data.toList m.size
    rw [Lib.size_eq] at h3 ⊢
    show (M.crTo _ _ _).length ≤ _
    omega

set_option maxHeartbeats 8000000 in
set_option maxRecDepth 100000 in
theorem spec_CriticalPlaces : GivesRR 58 F_Crit := by
  intro l r m s w hl hr hm hs
  obtain ⟨d0, d1⟩ := rule_cells w l r
  obtain ⟨f0, f1⟩ := rule_cells (w.alloc (.cells #[.string l, .string r] 62)) m s
  rw [World.size_alloc] at f0 f1
  obtain ⟨W, hW⟩ : ∃ W, W = (w.alloc (.cells #[.string l, .string r] 62)).alloc (.cells #[.string m, .string s] 62) := ⟨_, rfl⟩
  have a0 : W.cell? ⟨w.heap.size, 0, none⟩ = some (.string l) := by rw [hW]; exact (World.cell?_alloc_lt _ _ _ (World.block_lt_of_cell? _ _ d0)).trans d0
  have a1 : W.cell? ⟨w.heap.size, 1, none⟩ = some (.string r) := by rw [hW]; exact (World.cell?_alloc_lt _ _ _ (World.block_lt_of_cell? _ _ d1)).trans d1
  rw [← hW] at f0 f1
  have hB0 : Hid (Below w.heap.size w W) := by rw [hW]; exact bal (bal (b0 w) _) _
  have HI1 := fun X => Lib.hid (l10Is l r X hl hr)
  have HI2 := fun X => Lib.hid (l10Is m s X hm hs)
  have Hno := fun h => Lib.hid (@F_Crit_no l r m s h)
  have Hyes := fun h => Lib.hid (@F_Crit_yes l r m s h)
  clear d0 d1
  cases hq1 : M.isRule l.data.toList r.data.toList
  · rw [hq1] at HI1 Hno
    rw [(Hno rfl).out]
    clear Hno Hyes HI2 hq1
    go_enter Try.func58, Try.ntmps58
    go_wp2_with fail
    rw [← hW]
    clear hW
    refine (HI1 _).out.mono ?_
    rintro e w1 ⟨rfl, hb1⟩
    have hB1 := Lib.hid (btr hB0.out hb1)
    go_wp2
    go_ret2
    exact ⟨none, 0, rfl, own64_nil _ _, hB1.out⟩
  · rw [hq1] at HI1 Hno Hyes
    cases hq2 : M.isRule m.data.toList s.data.toList
    · rw [hq2] at HI2 Hno
      rw [(Hno rfl).out]
      clear Hno Hyes hq1 hq2
      go_enter Try.func58, Try.ntmps58
      go_wp2_with fail
      rw [← hW]
      clear hW
      refine (HI1 _).out.mono ?_
      rintro e w1 ⟨rfl, hb1⟩
      have hB1 := Lib.hid (btr hB0.out hb1)
      have f0' := cellR_be f0 hb1
      have f1' := cellR_be f1 hb1
      go_wp2_with fail
      refine (HI2 _).out.mono ?_
      rintro e w2 ⟨rfl, hb2⟩
      have hB2 := Lib.hid (btr hB1.out hb2)
      go_wp2
      go_ret2
      exact ⟨none, 0, rfl, own64_nil _ _, hB2.out⟩
    · rw [hq2] at HI2 Hyes
      obtain ⟨n, hn⟩ : ∃ n, Hid (m.size = n) := ⟨_, rfl⟩
      have hpl : M.isPat l.data.toList = true := by simp only [M.isRule, Bool.and_eq_true] at hq1; exact hq1.1.1
      have hpm : M.isPat m.data.toList = true := by simp only [M.isRule, Bool.and_eq_true] at hq2; exact hq2.1.1
      have hm60 : m.size ≤ 60 := by have := (M.isPat_iff.1 hpm).1; rw [Lib.size_eq]; exact this
      have hn60 : n ≤ 60 := by rw [← hn.out]; exact hm60
      have hF : F_Crit l r m s = (M.crTo l.data.toList m.data.toList n, 0) := by rw [(Hyes rfl).out, hn.out]
      rw [hF]
      have hLm : Hid (m.data.toList.length = n) := by show _ = _; rw [← hn.out]; exact (Lib.size_eq m).symm
      have hat : Hid (∀ k (h : k < m.size), m.data.toList[k]? = some m[k]) := fun k h => List.getElem?_eq_getElem (by rw [hLm.out, ← hn.out]; exact h)
      have hpc : Hid (∀ k : Nat, m.data.toList[k]? = some 40 → ∃ E : Nat, k ≤ E ∧ E ≤ n ∧ (∀ X, Calls Try.prog 105 #[.string m, .int .i64 (k : Int)] X fun e w' => e = .returned (.int .i64 (E : Int)) ∧ w' = X) ∧
          (∀ X, (Instr.slice 9 (.string m) (some (.int .i64 (k : Int))) (some (.int .i64 (E : Int))) none).run Try.prog X = .ok (.string (M.bs (M.pieceT (m.data.toList.drop k)))) X) ∧
          (∀ X, Calls Try.prog 90 #[.string l, .string (M.bs (M.pieceT (m.data.toList.drop k))), .int .i64 0, .int .i64 0] X fun e w' => (∃ (T : ByteArray) (a b : Int), e = .returned (.tuple #[.string T, .int .i64 a, .int .i64 b, .bool (M.goT l.data.toList m.data.toList (k : Int))])) ∧ Below X.heap.size X w')) := fun k hk => by
        obtain ⟨rr, hrr⟩ := M.piece_at (M.isPat_iff.1 hpm).2.1 hk (by decide)
        have hkn : k < n := by have := (List.getElem?_eq_some_iff.1 hk).1; rw [hLm.out] at this; exact this
        have h1 := (M.piece_drop hrr).1
        rw [List.length_drop, hLm.out] at h1
        refine ⟨n - rr.length, by omega, by omega, fun X => ?_, fun X => ?_, fun X => ?_⟩
        · exact l04Behind m k (n - rr.length) rr X hm (by have := hn.out; omega) (Lib.hid hrr) (by show _ = _; rw [hn.out])
        · have := slice_at m (k : Int) ((n - rr.length : Nat) : Int) X (by omega) (by omega) (by have := hn.out; omega)
          rw [this, show ((k : Int)).toNat = k by omega, show (((n - rr.length : Nat) : Int)).toNat = n - rr.length by omega, Lib.extract_eq, M.pieceT_some hrr, List.length_drop, hLm.out, show n - rr.length - k = n - k - rr.length by omega]
          rfl
        · have := l04Common l (M.bs (M.pieceT (m.data.toList.drop k))) X (by
            rw [hpl, M.bs_data, M.pieceT_some hrr, M.pat_cut hpm hrr]; rfl)
          refine this.mono fun e w' hq => ?_
          obtain ⟨S, a, b, he, _, hb⟩ := hq
          rw [M.bs_data] at he
          exact ⟨⟨S, a, b, by rw [he, M.goT, Int.toNat_natCast]⟩, hb.out⟩
      clear Hno Hyes hq1 hq2 hF hpl hpm hm60 hm
      go_enter Try.func58, Try.ntmps58
      go_wp2_with fail
      rw [← hW]
      clear hW
      refine (HI1 _).out.mono ?_
      rintro e w1 ⟨rfl, hb1⟩
      have hB1 := Lib.hid (btr hB0.out hb1)
      have a0' := cellR_be a0 hb1
      have f0' := cellR_be f0 hb1
      have f1' := cellR_be f1 hb1
      go_wp2_with fail
      refine (HI2 _).out.mono ?_
      rintro e w2 ⟨rfl, hb2⟩
      have hB2 := Lib.hid (btr hB1.out hb2)
      have a2 := Lib.hid (cellR_be a0' hb2)
      have f2 := Lib.hid (cellR_be f0' hb2)
      have hst : Hid (Own64 (w2.alloc (.cells #[] 2)) w2.heap.size (.slice (some ⟨w2.heap.size, 0, none⟩) 0 0) (M.crTo l.data.toList m.data.toList 0)) := own64_empty (Nat.le_refl _)
      have hb0 := Lib.hid (bal (b0 w2) (.cells #[] 2))
      clear hb1 hb2 f1' f0' a0' HI1 HI2 a1 f1 a0 f0
      go_wp2
      go_loopw [6, 7] (fun q i wr => ∃ (k u : Nat) (A' : Option Addr) (c' : Nat), k ≤ m.size ∧ i = .int .i64 (k : Int) ∧ q = .slice A' u c' ∧ Hid (Own64 wr w2.heap.size (.slice A' u c') (M.crTo l.data.toList m.data.toList k)) ∧ Hid (Below w2.heap.size w2 wr)) (fun _ i _ => m.size - (intOf i).toNat)
      case atStart => exact ⟨0, 0, _, 0, Nat.zero_le _, rfl, rfl, hst, hb0⟩
      case round =>
        clear hst hb0
        obtain ⟨k, u, A', c', hk, rfl, rfl, ho, hb⟩ := hrel
        have hu := own64_len ho.out
        have hpl := M.crTo_len l.data.toList m.data.toList k
        have hu1 : u ≤ 1000000 := by have := hn.out; omega
        have hk60 : k ≤ 60 := by have := hn.out; omega
        have ca := cellR_be a2.out hb.out
        have cf := cellR_be f2.out hb.out
        clear hu hpl
        by_cases hlt : k < m.size
        · have hki : (k : Int) < (m.size : Int) := by omega
          by_cases h40 : m[k] = 40
          · have e40 : ((m[k].toNat : Int) != 40) = false := by rw [h40]; rfl
            have hmk : m.data.toList[k]? = some 40 := by rw [hat.out k hlt, h40]
            obtain ⟨E, hkE, hEn, HBe, hsl, HCo⟩ := hpc.out k hmk
            have hEm : (E : Int) ≤ (m.size : Int) := by have := hn.out; omega
            have HB := Lib.hid HBe
            have HC := Lib.hid HCo
            have hhit := Lib.hid (fun hg => M.crTo_hit (l := l.data.toList) hmk hg)
            have hapt := Lib.hid (fun hg => M.crTo_apart (l := l.data.toList) hmk hg)
            generalize M.pieceT (m.data.toList.drop k) = PT at *
            generalize M.goT l.data.toList m.data.toList (k : Int) = q at *
            clear h40 hmk HBe HCo
            go_wp2
            go_region_held3 (fun X => (X.cell? ⟨w.heap.size, 0, none⟩ = some (.string l) ∧ X.cell? ⟨w.heap.size + 1, 0, none⟩ = some (.string m))) (first | exact ⟨ca, cf⟩) (first | (go_at_call 105; refine (HB.out _).mono ?_; rintro e w7 ⟨rfl, hw7⟩; subst hw7))
            have ca2 : wr.drew.cell? ⟨w.heap.size, 0, none⟩ = some (.string l) := ca
            go_wp2_with fail
            refine (HC.out _).mono ?_
            rintro e w8 ⟨⟨T8, x8, y8, rfl⟩, hb8⟩
            have hb10 := Lib.hid (btr hb.out.drew hb8)
            have ho8 := Lib.hid (own_be (w := wr.drew) ho.out hb8)
            have hz8 : w2.heap.size ≤ w8.heap.size := hb10.out.size
            clear ho hb ca cf ca2 hb8 hsl
            cases q
            · have hF := Lib.hid (hapt.out rfl)
              rw [← hF.out] at ho8
              go_wp2
              go_roundw
              case rel => exact ⟨k + 1, u, A', c', by omega, by go_num, rfl, ho8, hb10⟩
              case measure => simp [intOf]; omega
            · have hF := Lib.hid (hhit.out rfl)
              go_wp2_with (at_builtin; refine push64 rfl (.tmp 52) (.tmp 54) rfl w8 w2.heap.size A' u c' (M.crTo l.data.toList m.data.toList k) (k : Int) rfl rfl ho8 hz8 hu1 ?_; intro A9 c9 w9 ho9 hb9)
              rw [← hF.out] at ho9
              have hb11 := Lib.hid (hb10.out.trans hb9.out)
              go_roundw
              case rel => exact ⟨k + 1, u + 1, A9, c9, by omega, by go_num, rfl, ho9, hb11⟩
              case measure => simp [intOf]; omega
          · have e40 : ((m[k].toNat : Int) != 40) = true := ne_byte h40
            have hs := M.crTo_miss (l := l.data.toList) (hat.out k hlt) h40
            rw [← hs] at ho
            clear hs h40 hat hpc
            go_wp2
            go_roundw
            case rel => exact ⟨k + 1, u, A', c', by omega, by go_num, rfl, ho, hb⟩
            case measure => simp [intOf]; omega
        · have hkn : k = n := by have := hn.out; omega
          have hki : ¬ (k : Int) < (m.size : Int) := by omega
          have hz3 := hB2.out.size
          have ho2 := Lib.hid (own_mono ho.out hz3)
          rw [hkn] at ho2
          have hul := Lib.hid (own64_len ho2.out)
          have hB4 := Lib.hid (btr hB2.out hb.out)
          clear hkn ho
          go_wp2
          go_ret2
          refine ⟨A', c', ?_, ?_, hB4.out⟩
          · show _ = Ending.returned (.tuple #[.slice A' (M.crTo l.data.toList m.data.toList n).length c', .int .i64 0])
            rw [← hul.out]; rfl
          · show Own64 _ _ (.slice A' (M.crTo l.data.toList m.data.toList n).length c') (M.crTo l.data.toList m.data.toList n)
            rw [← hul.out]; exact ho2.out
end Go.Proofs.Ytbdmmeoelagdcaa
