/- l10Right, l10Is: the model's reading of a rule. -/
import Derived.Test.YtbdmmeoelagdcaaFnIsRule
namespace Go.Proofs.Ytbdmmeoelagdcaa
open Go.RowKit

/-- the text that the model reads, as far as it is built -/
def bareTo (r : ByteArray) (k : Nat) : ByteArray := M.bs (M.bare (r.data.toList.take k))
theorem bareTo_zero (r : ByteArray) : bareTo r 0 = ⟨#[]⟩ := rfl
theorem take_snoc (r : ByteArray) {k : Nat} (h : k < r.size) : r.data.toList.take (k + 1) = r.data.toList.take k ++ [r[k]] := by
  have h2 : k < r.data.toList.length := by rw [← Lib.size_eq]; exact h
  rw [List.take_succ_eq_append_getElem h2]; rfl
theorem bareTo_br {r : ByteArray} {k : Nat} (h : k < r.size) (hc : r[k] = 40 ∨ r[k] = 41) : bareTo r (k + 1) = bareTo r k ++ ⟨#[r[k]]⟩ := by
  rw [bareTo, take_snoc r h, M.bare_snoc, if_pos hc, ← M.bs_append]; rfl
theorem bareTo_let {r : ByteArray} {k : Nat} (h : k < r.size) (hc : ¬ (r[k] = 40 ∨ r[k] = 41)) : bareTo r (k + 1) = bareTo r k ++ ⟨#[40, 41]⟩ := by
  rw [bareTo, take_snoc r h, M.bare_snoc, if_neg hc, ← M.bs_append]; rfl
theorem bareTo_size (r : ByteArray) (k : Nat) : (bareTo r k).size ≤ 2 * k := by
  rw [bareTo, M.bs_size]
  have := M.bare_len (r.data.toList.take k)
  rw [List.length_take] at this
  omega
theorem cut_oneR (r : ByteArray) {k : Nat} (h : k < r.size) : r.extract k (k + 1) = ⟨#[r[k]]⟩ := by
  refine ByteArray.ext ?_
  rw [ByteArray.data_extract]
  have hk : k < r.data.size := h
  refine Array.ext (by simp; omega) fun i h1 h2 => ?_
  have hi : i = 0 := by simp at h2; omega
  subst hi
  simp
  rfl

set_option maxRecDepth 100000 in
set_option maxHeartbeats 4000000 in
theorem l10Right (l r : ByteArray) (w : World) (hl : l.size ≤ 1048576) (hr : r.size ≤ 1048576) (hpat : Hid (M.isPat l.data.toList = true)) (hlen : Hid (1 < l.data.toList.length)) :
    Calls Try.prog 143 #[.string l, .string r] w fun e w' => e = .returned (.bool (M.isRight l.data.toList r.data.toList)) ∧ Below w.heap.size w w' := by
  have hLl : Hid (l.data.toList.length = l.size) := (Lib.size_eq l).symm
  have hLr : Hid (r.data.toList.length = r.size) := (Lib.size_eq r).symm
  by_cases h0 : r.size = 0
  · have hF : M.isRight l.data.toList r.data.toList = false := by
      rw [M.isRight, decide_eq_false (by rw [hLr.out]; omega : ¬ 0 < r.data.toList.length)]; simp
    have hi : (r.size : Int) < 1 := by omega
    rw [hF]
    clear hF
    go_enter Try.func143, Try.ntmps143
    go_wp2
    go_ret
    exact ⟨rfl, b0 w⟩
  · have hi : ¬ (r.size : Int) < 1 := by omega
    by_cases h60 : r.size ≤ 60
    · have hi6 : ¬ (60 : Int) < (r.size : Int) := by omega
      obtain ⟨m40, m41, hok, _⟩ := M.pat_long hpat.out hlen.out
      have hmodel := Lib.hid (fun U hk => M.right_model (r := r.data.toList) m40 m41 hok (by rw [hLr.out]; omega) (by rw [hLr.out]; exact h60) U hk)
      have hmiss := Lib.hid (fun hk => M.right_miss (l := l.data.toList) (r := r.data.toList) hk)
      obtain ⟨Q, hQ⟩ : ∃ Q, M.isRight l.data.toList r.data.toList = Q := ⟨_, rfl⟩
      rw [hQ] at hmodel hmiss ⊢
      clear hQ hok m40 m41
      have hst : Hid ((r.data.toList.take 0).all (M.known l.data.toList) = true) := rfl
      have hG0 : Hid (bareTo r 0 = ⟨#[]⟩) := rfl
      have hG1 := Lib.hid (fun k h h2 => @bareTo_br r k h h2)
      have hG2 := Lib.hid (fun k h h2 => @bareTo_let r k h h2)
      have hGs := Lib.hid (bareTo_size r)
      have hGe : Hid (bareTo r r.size = M.bs (M.bare r.data.toList)) := by show _ = _; rw [bareTo, ← hLr.out, List.take_length]
      have hSl : Hid (∀ k : Nat, ∀ h : k < r.size, ∀ W, (Instr.slice 9 (.string r) (some (.int .i64 (k : Int))) (some (.int .i64 ((k : Int) + 1))) none).run Try.prog W = .ok (.string ⟨#[r[k]]⟩) W) := fun k hk W => by
        have := slice_at r k ((k : Int) + 1) W (by omega) (by omega) (by omega)
        rw [this, show ((k : Int)).toNat = k by omega, show ((k : Int) + 1).toNat = k + 1 by omega, cut_oneR r hk]
      generalize bareTo r = G at *
      go_enter Try.func143, Try.ntmps143
      go_wp2
      go_loopw [5, 6] (fun qt qi wr => ∃ k : Nat, k ≤ r.size ∧ qi = .int .i64 (k : Int) ∧ qt = .string (G k) ∧ Hid ((r.data.toList.take k).all (M.known l.data.toList) = true) ∧ Hid (Below w.heap.size w wr)) (fun _ qi _ => r.size - (intOf qi).toNat)
      case atStart => exact ⟨0, Nat.zero_le _, rfl, by rw [hG0.out], hst, b0 w⟩
      case round =>
        clear hst
        obtain ⟨k, hk, rfl, rfl, hall, hbw⟩ := hrel
        by_cases hlt : k < r.size
        · have hki : (k : Int) < (r.size : Int) := by omega
          have hsl := hSl.out k hlt
          have hsz : ¬ 9223372036854775807 < (G k).size + 1 := by have := hGs.out k; omega
          have hsz2 : ¬ 9223372036854775807 < (G k).size + 2 := by have := hGs.out k; omega
          have hsnoc := take_snoc r hlt
          by_cases h40 : r[k] = 40
          · have e40 : ((r[k].toNat : Int) == 40) = true := by rw [h40]; rfl
            have hs := Lib.hid (hG1.out k hlt (.inl h40))
            have hall2 : Hid ((r.data.toList.take (k + 1)).all (M.known l.data.toList) = true) := by show _ = _; rw [hsnoc, List.all_append, hall.out, h40]; rfl
            clear hall hsnoc hmodel hmiss hG0 hG1 hG2 hGs hGe hSl h40
            go_wp2
            go_roundw
            case rel => exact ⟨k + 1, by omega, by go_num, by rw [hs.out], hall2, hbw⟩
            case measure => simp [intOf]; omega
          · have e40 : ((r[k].toNat : Int) == 40) = false := by
              have := ne_byte h40
              simpa using this
            by_cases h41 : r[k] = 41
            · have e41 : ((r[k].toNat : Int) == 41) = true := by rw [h41]; rfl
              have hs := Lib.hid (hG1.out k hlt (.inr h41))
              have hall2 : Hid ((r.data.toList.take (k + 1)).all (M.known l.data.toList) = true) := by show _ = _; rw [hsnoc, List.all_append, hall.out, h41]; rfl
              clear hall hsnoc hmodel hmiss hG0 hG1 hG2 hGs hGe hSl h40 h41
              go_wp2
              go_roundw
              case rel => exact ⟨k + 1, by omega, by go_num, by rw [hs.out], hall2, hbw⟩
              case measure => simp [intOf]; omega
            · have e41 : ((r[k].toNat : Int) == 41) = false := by
                have := ne_byte h41
                simpa using this
              have hs := Lib.hid (hG2.out k hlt (fun h => h.elim h40 h41))
              have hkn : Hid (M.known l.data.toList r[k] = l.data.toList.contains r[k]) := by
                show _ = _
                rw [M.known, beq_eq_false_iff_ne.2 h40, beq_eq_false_iff_ne.2 h41]; rfl
              have hall2 : Hid (l.data.toList.contains r[k] = true → (r.data.toList.take (k + 1)).all (M.known l.data.toList) = true) := fun h => by
                rw [hsnoc, List.all_append, hall.out, List.all_cons, hkn.out, h]; rfl
              have hout : Hid (l.data.toList.contains r[k] = false → Q = false) := fun h => hmiss.out (List.all_eq_false.2 ⟨r[k], by
                have : r.data.toList[k]? = some r[k] := List.getElem?_eq_getElem (by rw [hLr.out]; exact hlt)
                exact List.mem_of_getElem? this, by rw [hkn.out, h]; decide⟩)
              have hst2 : Hid (anyTo (fun c => c == r[k]) l.data.toList 0 = false) := rfl
              have hany : Hid (anyTo (fun c => c == r[k]) l.data.toList l.size = l.data.toList.contains r[k]) := by
                show _ = _
                rw [anyTo, ← hLl.out, List.take_length, Bool.eq_iff_iff, List.any_eq_true, List.contains_iff_mem]
                exact ⟨fun ⟨c, h1, h2⟩ => by rw [beq_iff_eq] at h2; rw [← h2]; exact h1, fun h => ⟨_, h, by simp⟩⟩
              have hany2 : Hid (∀ j (h : j < l.size), anyTo (fun c => c == r[k]) l.data.toList (j + 1) = (anyTo (fun c => c == r[k]) l.data.toList j || ((l[j].toNat : Int) == (r[k].toNat : Int)))) := fun j hj => by
                rw [anyTo_step (c := l[j]) (List.getElem?_eq_getElem (by rw [hLl.out]; exact hj))]
                congr 1
                rw [Bool.eq_iff_iff, beq_iff_eq, beq_iff_eq]
                exact ⟨fun e => by rw [e], fun e => UInt8.toNat_inj.1 (by omega)⟩
              generalize l.data.toList.contains r[k] = q at *
              generalize (anyTo (fun c => c == r[k]) l.data.toList) = T at *
              clear hall hsnoc hmodel hmiss hG0 hG1 hG2 hGs hGe hSl h40 h41 hkn
              go_wp2
              go_loopw [7, 8] (fun qa qj ws => ∃ (j : Nat) (u : Bool), j ≤ l.size ∧ qj = .int .i64 (j : Int) ∧ qa = .bool u ∧ Hid (T j = u) ∧ Hid (Below w.heap.size w ws)) (fun _ qj _ => l.size - (intOf qj).toNat)
              case atStart => exact ⟨0, false, Nat.zero_le _, rfl, rfl, hst2, hbw⟩
              case round =>
                clear hst2 hbw
                obtain ⟨j, u, hj, rfl, rfl, hT, hbs⟩ := hrel
                by_cases hjl : j < l.size
                · have hji : (j : Int) < (l.size : Int) := by omega
                  have hn := Lib.hid (hany2.out j hjl)
                  rw [hT.out] at hn
                  cases u
                  · rw [Bool.false_or] at hn
                    go_wp2
                    go_region
                    go_wp2
                    go_roundw
                    case rel => exact ⟨j + 1, _, by omega, by go_num, rfl, hn, hbs.out.drew⟩
                    case measure => (simp [intOf]; omega)
                  · rw [Bool.true_or] at hn
                    go_wp2
                    go_region
                    go_wp2
                    go_roundw
                    case rel => exact ⟨j + 1, true, by omega, by go_num, rfl, hn, hbs.out.drew⟩
                    case measure => (simp [intOf]; omega)
                · obtain rfl : j = l.size := by omega
                  have hju : ¬ ((l.size : Int) < (l.size : Int)) := by omega
                  have huq : q = u := by rw [← hany.out, hT.out]
                  subst huq
                  cases q
                  · have hQf := Lib.hid (hout.out rfl)
                    go_wp2
                    go_ret
                    exact ⟨by rw [hQf.out]; rfl, hbs.out⟩
                  · have hall3 := Lib.hid (hall2.out rfl)
                    go_wp2
                    go_roundw
                    case rel => exact ⟨k + 1, by omega, by go_num, by rw [hs.out], hall3, hbs⟩
                    case measure => (simp [intOf]; omega)
        · obtain rfl : k = r.size := by omega
          have hki : ¬ ((r.size : Int) < (r.size : Int)) := by omega
          have hallk : r.data.toList.all (M.known l.data.toList) = true := by
            have := hall.out
            rwa [← hLr.out, List.take_length] at this
          have hmd := hmodel.out (List.replicate 8 false) hallk
          obtain ⟨S, hS⟩ : ∃ S, G r.size = S := ⟨_, rfl⟩
          have hSb : S = M.bs (M.bare r.data.toList) := by rw [← hS]; exact hGe.out
          have hSz : S.size ≤ 120 := by rw [← hS]; have := hGs.out r.size; omega
          have hSl2 : Hid (S.data.toList = M.bare r.data.toList) := by show _ = _; rw [hSb, M.bs_data]
          rw [← hSl2.out] at hmd
          have hF : Q = (endOf S.size (M.pieceU S.data.toList (List.replicate 8 false)) == (S.size : Int)) := by
            rw [Bool.eq_iff_iff, hmd, beq_iff_eq]
            cases hp : M.pieceU S.data.toList (List.replicate 8 false) with
            | none => exact ⟨fun ⟨_, h⟩ => (by cases h), fun h => (by have h2 : (-1 : Int) = (S.size : Int) := h; omega)⟩
            | some x =>
              obtain ⟨rr, V⟩ := x
              have h1 := (M.pieceU_len hp).2.1
              rw [← Lib.size_eq] at h1
              simp only at h1
              constructor
              · rintro ⟨V', h⟩
                injection h with h
                injection h with h2 h3
                rw [h2]
                simp [endOf]
              · intro h
                have h2 : ((S.size - rr.length : Nat) : Int) = (S.size : Int) := h
                have h3 : rr = [] := List.eq_nil_of_length_eq_zero (by omega)
                exact ⟨V, by rw [h3]⟩
          obtain ⟨R, hR⟩ : ∃ R, M.pieceU S.data.toList (List.replicate 8 false) = R := ⟨_, rfl⟩
          obtain ⟨z, hz⟩ : ∃ z, endOf S.size R = z := ⟨_, rfl⟩
          have hC' : Hid (∀ g W, Hid (OwnB W g (.slice (some ⟨g, 0, none⟩) 8 8) (List.replicate 8 false)) → Calls Try.prog 124 #[.string S, .int .i64 0, .slice (some ⟨g, 0, none⟩) 8 8] W fun e w' => e = .returned (.int .i64 z) ∧ Hid (Below g W w')) := fun g W hO => by
            have := l04End S (by omega) (S.size + 1) 0 g (List.replicate 8 false) W (by omega) (by omega) (by simp [Hid]) hO
            rw [List.drop_zero, hR] at this
            exact this.mono fun e w' ⟨h1, h2, _⟩ => ⟨by rw [h1, hz], h2⟩
          rw [hR, hz] at hF
          have hO : Hid (OwnB (wr.alloc (.cells (madeCells #[.bool false] 8) 4)) wr.heap.size (.slice (some ⟨wr.heap.size, 0, none⟩) 8 8) (List.replicate 8 false)) := ownB_made (Nat.le_refl _) (by unfold maxLen; omega)
          have hCw := Lib.hid (hC'.out wr.heap.size _ hO)
          have hbw2 := Lib.hid (bal hbw.out (.cells (madeCells #[.bool false] 8) 4))
          have hzw := hbw.out.size
          have HF := Lib.hid hF
          have hmk : ∀ W, (Instr.makeSlice 134 (.int .i64 8) (.int .i64 8)).run Try.prog W = .ok (.slice (some ⟨W.heap.size, 0, none⟩) 8 8) (W.alloc (.cells (madeCells #[.bool false] 8) 4)) := run_make_row' (P := Try.prog) 134 4 (.bool false) 1 Try.underlying134 (by kernel_rfl) rfl .i64 .i64 8 (by omega) (by omega)
          rw [hS]
          clear hF hall hallk hmd hmodel hmiss hG0 hG1 hG2 hGs hGe hSl hSb hSl2 hC' hO hR hz hS
          go_wp2_with fail
          refine hCw.out.mono ?_
          rintro e w1 ⟨rfl, hb⟩
          have hB := Lib.hid (hbw2.out.trans (hb.out.mono hzw))
          clear hb
          go_wp2
          go_ret
          exact ⟨by rw [HF.out]; rfl, hB.out⟩
    · have hi6 : (60 : Int) < (r.size : Int) := by omega
      have hF : M.isRight l.data.toList r.data.toList = false := by
        rw [M.isRight, decide_eq_false (by rw [hLr.out]; omega : ¬ r.data.toList.length ≤ 60)]; simp
      rw [hF]
      clear hF
      go_enter Try.func143, Try.ntmps143
      go_wp2
      go_ret
      exact ⟨rfl, b0 w⟩

set_option maxRecDepth 100000 in
set_option maxHeartbeats 2000000 in
theorem l10Is (l r : ByteArray) (w : World) (hl : l.size ≤ 1048576) (hr : r.size ≤ 1048576) :
    Calls Try.prog 97 #[.agg #[.string l, .string r]] w fun e w' => e = .returned (.bool (M.isRule l.data.toList r.data.toList)) ∧ Below w.heap.size w w' := by
  have hLl : Hid (l.data.toList.length = l.size) := (Lib.size_eq l).symm
  obtain ⟨d0, d1⟩ := rule_cells w l r
  obtain ⟨W, hW⟩ : ∃ W, W = w.alloc (.cells #[.string l, .string r] 62) := ⟨_, rfl⟩
  rw [← hW] at d0 d1
  have hB0 : Hid (Below w.heap.size w W) := by rw [hW]; exact bal (b0 w) _
  have HP := l04Is l W hl
  obtain ⟨q, hq⟩ : ∃ q, M.isRule l.data.toList r.data.toList = q := ⟨_, rfl⟩
  rw [hq]
  rw [M.isRule] at hq
  cases hp : M.isPat l.data.toList
  · rw [hp, Bool.false_and, Bool.false_and] at hq
    subst hq
    rw [hp] at HP
    have HPW := Lib.hid HP
    clear HP hp
    go_enter Try.func97, Try.ntmps97
    go_wp2_with fail
    rw [← hW]
    clear hW
    refine HPW.out.mono ?_
    rintro e w1 ⟨rfl, hb1⟩
    have hB1 := Lib.hid (btr hB0.out hb1.out)
    go_wp2
    go_ret
    exact ⟨rfl, hB1.out⟩
  · rw [hp, Bool.true_and] at hq
    rw [hp] at HP
    have HPW := Lib.hid HP
    have Hp := Lib.hid hp
    clear HP hp
    by_cases hlen : 1 < l.data.toList.length
    · have hli : (1 : Int) < (l.size : Int) := by have := hLl.out; omega
      have Hlen := Lib.hid hlen
      rw [decide_eq_true hlen, Bool.true_and] at hq
      have HR : Hid (∀ X, Calls Try.prog 143 #[.string l, .string r] X fun e w' => e = .returned (.bool q) ∧ Below X.heap.size X w') := fun X => by
        have := l10Right l r X hl hr Hp Hlen
        rwa [hq] at this
      clear hq hlen
      go_enter Try.func97, Try.ntmps97
      go_wp2_with fail
      rw [← hW]
      clear hW
      refine HPW.out.mono ?_
      rintro e w1 ⟨rfl, hb1⟩
      have hB1 := Lib.hid (btr hB0.out hb1.out)
      have c0 := cellR_be d0 hb1.out
      have c1 := cellR_be d1 hb1.out
      go_wp2_with fail
      refine (HR.out _).mono ?_
      rintro e w2 ⟨rfl, hb2⟩
      have hB2 := Lib.hid (btr hB1.out hb2)
      go_wp2
      go_ret
      exact ⟨rfl, hB2.out⟩
    · have hli : ¬ (1 : Int) < (l.size : Int) := by have := hLl.out; omega
      rw [decide_eq_false hlen, Bool.false_and] at hq
      subst hq
      clear hlen
      go_enter Try.func97, Try.ntmps97
      go_wp2_with fail
      rw [← hW]
      clear hW
      refine HPW.out.mono ?_
      rintro e w1 ⟨rfl, hb1⟩
      have hB1 := Lib.hid (btr hB0.out hb1.out)
      have c0 := cellR_be d0 hb1.out
      have c1 := cellR_be d1 hb1.out
      go_wp2
      go_ret
      exact ⟨rfl, hB1.out⟩

theorem spec_IsRule : GivesRB 50 F_IsRule := by
  intro l r w hl hr
  obtain ⟨W, hW⟩ : ∃ W, W = w.alloc (.cells #[.string l, .string r] 62) := ⟨_, rfl⟩
  have hB0 : Hid (Below w.heap.size w W) := by rw [hW]; exact bal (b0 w) _
  have HI := Lib.hid (l10Is l r W hl hr)
  rw [F_IsRule]
  generalize M.isRule l.data.toList r.data.toList = q at *
  go_enter Try.func50, Try.ntmps50
  go_wp2_with fail
  rw [← hW]
  refine HI.out.mono ?_
  rintro e w1 ⟨rfl, hb⟩
  have hB := Lib.hid (btr hB0.out hb)
  go_wp2
  go_ret
  exact ⟨rfl, hB.out⟩
end Go.Proofs.Ytbdmmeoelagdcaa
