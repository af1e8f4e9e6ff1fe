/- The model's l01Split at '>'. -/
import Derived.Test.YtbdmmeoelagdcaaSplitMath
import Derived.Test.YtbdmmeoelagdcaaStrs
import Derived.Test.YtbdmmeoelagdcaaRuleSp
namespace Go.Proofs.Ytbdmmeoelagdcaa
open Go.RowKit

set_option maxHeartbeats 4000000 in
set_option maxRecDepth 100000 in
theorem l01SplitGt (t : ByteArray) (w : World) (ht : t.size ≤ 1048576) :
    Calls Try.prog 102 #[.string t, .int .u8 62] w fun e w' => ∃ A' c', e = .returned (.slice A' (M.cuts t).length c') ∧ Hid (OwnS w' w.heap.size (.slice A' (M.cuts t).length c') (M.cuts t)) ∧ Hid (Below w.heap.size w w') := by
  have hLt : Hid (t.data.toList.length = t.size) := (Lib.size_eq t).symm
  have hle := Lib.hid (M.cuts_le t)
  have hln := Lib.hid (M.cuts_len t)
  have h0 : Hid (M.cutsTo t 0 = ([], 0)) := rfl
  have hhit : Hid (∀ k (h : k < t.size), t[k] = 62 → M.cutsTo t (k + 1) = ((M.cutsTo t k).1 ++ [t.extract (M.cutsTo t k).2 k], k + 1)) := fun k h e => M.cuts_hit (by
    rw [List.getElem?_eq_getElem (by rw [hLt.out]; exact h)]; exact congrArg some e)
  have hmiss : Hid (∀ k (h : k < t.size), ¬ t[k] = 62 → M.cutsTo t (k + 1) = M.cutsTo t k) := fun k h e => M.cuts_miss (fun e2 => e (by
    rw [List.getElem?_eq_getElem (by rw [hLt.out]; exact h)] at e2
    injection e2))
  have hEnd : Hid (∀ xs q, M.cutsTo t t.size = (xs, q) → M.cuts t = xs ++ [t.extract q t.size]) := fun xs q h => by rw [M.cuts, h]
  obtain ⟨R, hR⟩ : ∃ R, M.cuts t = R := ⟨_, rfl⟩
  rw [hR] at hEnd ⊢
  clear hR
  have hSl : Hid (∀ i k : Nat, i ≤ k → k ≤ t.size → ∀ W, (Instr.slice 9 (.string t) (some (.int .i64 (i : Int))) (some (.int .i64 (k : Int))) none).run Try.prog W = .ok (.string (t.extract i k)) W) := fun i k hi hk W => by
    have := slice_at t i k W (by omega) (by omega) (by omega)
    rwa [show ((i : Int)).toNat = i by omega, show ((k : Int)).toNat = k by omega] at this
  generalize M.cutsTo t = G at *
  go_enter Try.func102, Try.ntmps102
  go_wp2
  have ho0 : Hid (OwnS (w.alloc (.cells #[] 9)) w.heap.size (.slice (some ⟨w.heap.size, 0, none⟩) 0 0) []) := Lib.hid (ownS_empty (Nat.le_refl _))
  have hB0 := Lib.hid (bal (b0 w) (.cells #[] 9))
  go_loopw [5, 6, 7] (fun qo qa qi wr => ∃ (xs : List ByteArray) (p k : Nat) (A : Option Addr) (m c : Nat), k ≤ t.size ∧ p ≤ k ∧ m ≤ k ∧ qi = .int .i64 (k : Int) ∧ qa = .int .i64 (p : Int) ∧ qo = .slice A m c ∧ Hid (G k = (xs, p)) ∧ Hid (xs.length = m) ∧ Hid (OwnS wr w.heap.size (.slice A m c) xs) ∧ Hid (Below w.heap.size w wr)) (fun _ _ qi _ => t.size - (intOf qi).toNat)
  case atStart => exact ⟨[], 0, 0, _, 0, 0, Nat.zero_le _, Nat.le_refl _, Nat.le_refl _, rfl, rfl, rfl, h0, rfl, ho0, hB0⟩
  case round =>
    clear h0 ho0 hB0
    obtain ⟨xs, p, k, A5, m, c, hk, hp, hm, rfl, rfl, rfl, hG, hxl, ho, hbw⟩ := hrel
    by_cases hlt : k < t.size
    · have hki : (k : Int) < (t.size : Int) := by omega
      by_cases h62 : t[k] = 62
      · have e62 : ((t[k].toNat : Int) == 62) = true := by rw [h62]; rfl
        have hs := hSl.out p k hp (by omega)
        have hG2 : Hid (G (k + 1) = (xs ++ [t.extract p k], k + 1)) := by
          show _ = _
          rw [hhit.out k hlt h62, hG.out]
        have hxl2 : Hid ((xs ++ [t.extract p k]).length = m + 1) := by show _ = _; rw [List.length_append, hxl.out]; rfl
        have hsz := hbw.out.size
        clear hhit hmiss hEnd hSl hG hxl hle hln h62 hLt
        go_wp2_with (refine pushS rfl (.tmp 20) (.tmp 25) rfl _ w.heap.size A5 m c xs (t.extract p k) rfl rfl ho hsz (by omega) ?_; intro A' c' w' ho' hb')
        have hB' := Lib.hid (hbw.out.trans hb'.out)
        clear ho hb' hbw hs
        go_roundw
        case rel => exact ⟨xs ++ [t.extract p k], k + 1, k + 1, A', m + 1, c', by omega, Nat.le_refl _, by omega, by go_num, by go_num, rfl, hG2, hxl2, ho', hB'⟩
        case measure => simp [intOf]; omega
      · have e62 : ((t[k].toNat : Int) == 62) = false := by
          have := ne_byte h62
          simpa using this
        have hG2 : Hid (G (k + 1) = (xs, p)) := by
          show _ = _
          rw [hmiss.out k hlt h62, hG.out]
        clear hhit hmiss hEnd hSl hG hle hln h62 hLt
        go_wp2
        go_roundw
        case rel => exact ⟨xs, p, k + 1, A5, m, c, by omega, by omega, by omega, by go_num, rfl, rfl, hG2, hxl, ho, hbw⟩
        case measure => simp [intOf]; omega
    · obtain rfl : k = t.size := by omega
      have hge : ¬ (t.size : Int) < (t.size : Int) := by omega
      have hE := Lib.hid (hEnd.out _ _ hG.out)
      have hs : ∀ W, (Instr.slice 9 (.string t) (some (.int .i64 (p : Int))) none none).run Try.prog W = .ok (.string (t.extract p t.size)) W := fun W => by
        have := run_slice_string_l (P := Try.prog) W 9 t Try.underlying9 .i64 (p : Int) (by omega) (by omega)
        rwa [show ((p : Int)).toNat = p by omega] at this
      have hsz := hbw.out.size
      have hRl : Hid (R.length = m + 1) := by show _ = _; rw [hE.out, List.length_append, hxl.out]; rfl
      clear hhit hmiss hEnd hSl hG hxl hle hln hLt
      go_wp2_with (refine pushS rfl (.tmp 29) (.tmp 33) rfl _ w.heap.size A5 m c xs (t.extract p t.size) rfl rfl ho hsz (by omega) ?_; intro A' c' w' ho' hb')
      have hB' := Lib.hid (hbw.out.trans hb'.out)
      go_ret
      refine ⟨A', c', ?_, ?_, hB'⟩
      · rw [hRl.out]; rfl
      · show OwnS _ _ _ _
        rw [hRl.out, hE.out]
        exact ho'.out
end Go.Proofs.Ytbdmmeoelagdcaa
