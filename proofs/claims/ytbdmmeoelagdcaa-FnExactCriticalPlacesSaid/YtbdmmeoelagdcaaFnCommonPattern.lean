/- CommonPattern, the program's and the model's. -/
import Derived.Test.YtbdmmeoelagdcaaNamed
import Derived.Test.YtbdmmeoelagdcaaComS
import Derived.Test.YtbdmmeoelagdcaaFnIsPattern
namespace Go.Proofs.Ytbdmmeoelagdcaa
open Go.RowKit

def comOf (s u : ByteArray) : ByteArray × Int := match M.com1 s.data.toList u.data.toList with
  | none => (⟨#[]⟩, 4)
  | some x => if x.1.length ≤ 60 ∧ M.numL x.1 ≤ 8 then (M.bs (M.nameFrom 0 x.1), 0) else (⟨#[]⟩, 3)
def F_CommonPattern (s u : ByteArray) : ByteArray × Int := if M.isPat s.data.toList && M.isPat u.data.toList then comOf s u else (⟨#[]⟩, 6)
theorem comOf_none {s u : ByteArray} (h : M.com1 s.data.toList u.data.toList = none) : comOf s u = (⟨#[]⟩, 4) := by rw [comOf, h]
theorem comOf_good {s u : ByteArray} {x : List UInt8 × List UInt8 × List UInt8} (h : M.com1 s.data.toList u.data.toList = some x) (h1 : x.1.length ≤ 60) (h2 : M.numL x.1 ≤ 8) : comOf s u = (M.bs (M.nameFrom 0 x.1), 0) := by
  rw [comOf, h]; exact if_pos ⟨h1, h2⟩
theorem comOf_bad {s u : ByteArray} {x : List UInt8 × List UInt8 × List UInt8} (h : M.com1 s.data.toList u.data.toList = some x) (h1 : ¬ (x.1.length ≤ 60 ∧ M.numL x.1 ≤ 8)) : comOf s u = (⟨#[]⟩, 3) := by
  rw [comOf, h]; exact if_neg h1
theorem two_pats {s u : ByteArray} (h : (M.isPat s.data.toList && M.isPat u.data.toList) = true) : M.piece s.data.toList = some [] ∧ M.piece u.data.toList = some [] ∧ s.size ≤ 60 ∧ u.size ≤ 60 := by
  rw [Bool.and_eq_true] at h
  have h1 := M.isPat_iff.1 h.1
  have h2 := M.isPat_iff.1 h.2
  exact ⟨h1.2.1, h2.2.1, by rw [Lib.size_eq]; exact h1.1, by rw [Lib.size_eq]; exact h2.1⟩

set_option maxRecDepth 100000 in
set_option maxHeartbeats 4000000 in
theorem impl_CommonPattern : GivesPS 44 F_CommonPattern := by
  intro s u w hs hu
  have hA : Hid (∀ W, Calls Try.prog 19 #[.string s] W fun e w' => e = .returned (.bool (M.isPat s.data.toList)) ∧ Hid (Below W.heap.size W w')) := fun W => impl_IsPattern s W hs
  have hB : Hid (∀ W, Calls Try.prog 19 #[.string u] W fun e w' => e = .returned (.bool (M.isPat u.data.toList)) ∧ Hid (Below W.heap.size W w')) := fun W => impl_IsPattern u W hu
  have hF : Hid (F_CommonPattern s u = if M.isPat s.data.toList && M.isPat u.data.toList then comOf s u else (⟨#[]⟩, 6)) := rfl
  have hC : Hid ((M.isPat s.data.toList && M.isPat u.data.toList) = true → ∀ W, Calls Try.prog 91 #[.string s, .string u] W fun e w' => e = .returned (.string (M.bs (((M.com1 s.data.toList u.data.toList).map fun x => x.1).getD []))) ∧ Hid (Below W.heap.size W w')) := fun h W => by
    obtain ⟨h1, h2, h3, h4⟩ := two_pats h
    exact commonText s u W h3 h4 h1 h2
  have hx : Hid ((M.isPat s.data.toList && M.isPat u.data.toList) = true → ∀ x, M.com1 s.data.toList u.data.toList = some x → x.1 ≠ [] ∧ x.1.length ≤ 120) := fun h x hx => by
    obtain ⟨h1, h2, h3, h4⟩ := two_pats h
    have := M.com1_len hx
    rw [← Lib.size_eq, ← Lib.size_eq] at this
    exact ⟨(M.com1_ok hx (M.piece_ok h1) (M.piece_ok h2)).1, by omega⟩
  rw [hF.out]
  clear hF
  cases b1 : M.isPat s.data.toList
  · rw [b1] at hA
    clear hB hC hx
    go_enter Try.func44, Try.ntmps44
    go_wp2_with (go_at_call_of 19 (Value.string s); refine (hA.out _).mono ?_; rintro e w1 ⟨rfl, hb1⟩)
    go_ret2
    exact ⟨rfl, hb1⟩
  · cases b2 : M.isPat u.data.toList
    · rw [b1] at hA
      rw [b2] at hB
      clear hC hx
      go_enter Try.func44, Try.ntmps44
      go_wp2_with fail
      refine (hA.out _).mono ?_
      rintro e w1 ⟨rfl, hb1⟩
      go_wp2_with fail
      refine (hB.out _).mono ?_
      rintro e w2 ⟨rfl, hb2⟩
      have hb3 := Lib.hid (btr hb1.out hb2.out)
      clear hb1 hb2
      go_wp2
      go_ret2
      exact ⟨rfl, hb3⟩
    · have h3 : (M.isPat s.data.toList && M.isPat u.data.toList) = true := by rw [b1, b2]; rfl
      have hC' := Lib.hid (hC.out h3)
      have hx' := Lib.hid (hx.out h3)
      rw [b1] at hA
      rw [b2] at hB
      rw [Bool.and_true, if_pos rfl]
      clear hC hx
      cases hcm : M.com1 s.data.toList u.data.toList with
      | none =>
        rw [hcm] at hC'
        rw [comOf_none hcm]
        have e0 : ((M.bs ((Option.map (fun x => x.1) (none : Option (List UInt8 × List UInt8 × List UInt8))).getD [])).toList == []) = true := by rw [bs_eq_nil]; rfl
        generalize M.bs ((Option.map (fun x => x.1) (none : Option (List UInt8 × List UInt8 × List UInt8))).getD []) = Z at *
        clear hx' hcm
        go_enter Try.func44, Try.ntmps44
        go_wp2_with fail
        refine (hA.out _).mono ?_
        rintro e w1 ⟨rfl, hb1⟩
        go_wp2_with fail
        refine (hB.out _).mono ?_
        rintro e w2 ⟨rfl, hb2⟩
        go_wp2_with fail
        refine (hC'.out _).mono ?_
        rintro e w3 ⟨rfl, hb3⟩
        have hb4 := Lib.hid (btr hb1.out (btr hb2.out hb3.out))
        clear hb1 hb2 hb3
        go_wp2
        go_ret2
        exact ⟨rfl, hb4⟩
      | some x =>
        rw [hcm] at hC'
        obtain ⟨hne, h120⟩ := hx'.out x hcm
        have hC2 : Hid (∀ W, Calls Try.prog 91 #[.string s, .string u] W fun e w' => e = .returned (.string (M.bs x.1)) ∧ Hid (Below W.heap.size W w')) := hC'.out
        have e0 : ((M.bs x.1).toList == []) = false := by rw [bs_eq_nil]; cases h : x.1 with
          | nil => exact absurd h hne
          | cons a b => rfl
        have hz : (M.bs x.1).size = x.1.length := M.bs_size _
        have hLt : Hid (∀ W, Calls Try.prog 88 #[.string (M.bs x.1)] W fun e w' => e = .returned (.int .i64 (M.numL x.1 : Int)) ∧ w' = W) := fun W => lettersIn (M.bs x.1) W (by omega)
        by_cases h60 : x.1.length ≤ 60
        · have hi : ¬ (60 : Int) < ((M.bs x.1).size : Int) := by omega
          by_cases h8 : M.numL x.1 ≤ 8
          · have hi8 : ¬ (8 : Int) < (M.numL x.1 : Int) := by omega
            have hNm : Hid (∀ W, Calls Try.prog 92 #[.string (M.bs x.1)] W fun e w' => e = .returned (.string (M.bs (M.nameFrom 0 x.1))) ∧ Hid (Below W.heap.size W w')) := fun W => namedInOrder (M.bs x.1) W (by omega) h8
            rw [comOf_good hcm h60 h8]
            clear hx' hcm hC' hne hz h60
            generalize M.bs (M.nameFrom 0 x.1) = Y at *
            generalize M.numL x.1 = N at *
            generalize M.bs x.1 = Z at *
            go_enter Try.func44, Try.ntmps44
            go_wp2_with fail
            refine (hA.out _).mono ?_
            rintro e w1 ⟨rfl, hb1⟩
            go_wp2_with fail
            refine (hB.out _).mono ?_
            rintro e w2 ⟨rfl, hb2⟩
            go_wp2_with fail
            refine (hC2.out _).mono ?_
            rintro e w3 ⟨rfl, hb3⟩
            go_wp2_with fail
            refine (hLt.out _).mono ?_
            rintro e w4 ⟨rfl, hw4⟩
            subst hw4
            go_wp2_with fail
            refine (hNm.out _).mono ?_
            rintro e w5 ⟨rfl, hb5⟩
            have hb4 := Lib.hid (btr hb1.out (btr hb2.out (btr hb3.out hb5.out)))
            clear hb1 hb2 hb3 hb5
            go_wp2
            go_ret2
            exact ⟨rfl, hb4⟩
          · have hi8 : (8 : Int) < (M.numL x.1 : Int) := by omega
            rw [comOf_bad hcm (fun h => h8 h.2)]
            clear hx' hcm hC' hne hz h60
            generalize M.numL x.1 = N at *
            generalize M.bs x.1 = Z at *
            go_enter Try.func44, Try.ntmps44
            go_wp2_with fail
            refine (hA.out _).mono ?_
            rintro e w1 ⟨rfl, hb1⟩
            go_wp2_with fail
            refine (hB.out _).mono ?_
            rintro e w2 ⟨rfl, hb2⟩
            go_wp2_with fail
            refine (hC2.out _).mono ?_
            rintro e w3 ⟨rfl, hb3⟩
            go_wp2_with fail
            refine (hLt.out _).mono ?_
            rintro e w4 ⟨rfl, hw4⟩
            subst hw4
            have hb4 := Lib.hid (btr hb1.out (btr hb2.out hb3.out))
            clear hb1 hb2 hb3
            go_wp2
            go_ret2
            exact ⟨rfl, hb4⟩
        · have hi : (60 : Int) < ((M.bs x.1).size : Int) := by omega
          rw [comOf_bad hcm (fun h => h60 h.1)]
          clear hx' hcm hC' hne hz h60 hLt
          generalize M.bs x.1 = Z at *
          go_enter Try.func44, Try.ntmps44
          go_wp2_with fail
          refine (hA.out _).mono ?_
          rintro e w1 ⟨rfl, hb1⟩
          go_wp2_with fail
          refine (hB.out _).mono ?_
          rintro e w2 ⟨rfl, hb2⟩
          go_wp2_with fail
          refine (hC2.out _).mono ?_
          rintro e w3 ⟨rfl, hb3⟩
          have hb4 := Lib.hid (btr hb1.out (btr hb2.out hb3.out))
          clear hb1 hb2 hb3
          go_wp2
          go_ret2
          exact ⟨rfl, hb4⟩

theorem l04Common (s u : ByteArray) (w : World) (h : (M.isPat s.data.toList && M.isPat u.data.toList) = true) : Calls Try.prog 90 #[.string s, .string u, .int .i64 0, .int .i64 0] w (ComQ s u (M.com1 s.data.toList u.data.toList) w) := by
  obtain ⟨h1, h2, h3, h4⟩ := two_pats h
  have key : ∀ f, ComAt s u s.data.toList u.data.toList f := by
    intro f
    induction f with
    | zero => intro _ _ _ h; omega
    | succ f ih => exact l04Common_step s u _ _ h3 h4 rfl rfl f (Lib.hid ih)
  have := key (s.size + 1) 0 0 w (by omega) (by omega) (by omega) ⟨[], by rw [List.drop_zero]; exact h1⟩ ⟨[], by rw [List.drop_zero]; exact h2⟩
  rw [List.drop_zero, List.drop_zero] at this
  exact this

set_option maxRecDepth 100000 in
set_option maxHeartbeats 8000000 in
theorem spec_CommonPattern : GivesPS 43 F_CommonPattern := by
  intro s u w hs hu
  have hA : Hid (∀ W, Calls Try.prog 65 #[.string s] W fun e w' => e = .returned (.bool (M.isPat s.data.toList)) ∧ Hid (Below W.heap.size W w')) := fun W => l04Is s W hs
  have hB : Hid (∀ W, Calls Try.prog 65 #[.string u] W fun e w' => e = .returned (.bool (M.isPat u.data.toList)) ∧ Hid (Below W.heap.size W w')) := fun W => l04Is u W hu
  have hF : Hid (F_CommonPattern s u = if M.isPat s.data.toList && M.isPat u.data.toList then comOf s u else (⟨#[]⟩, 6)) := rfl
  have hC : Hid ((M.isPat s.data.toList && M.isPat u.data.toList) = true → ∀ W, Calls Try.prog 90 #[.string s, .string u, .int .i64 0, .int .i64 0] W (ComQ s u (M.com1 s.data.toList u.data.toList) W)) := fun h W => l04Common s u W h
  have hx : Hid ((M.isPat s.data.toList && M.isPat u.data.toList) = true → ∀ x, M.com1 s.data.toList u.data.toList = some x → (∀ c ∈ x.1, M.okP c) ∧ x.1.length ≤ 120) := fun h x hx => by
    obtain ⟨h1, h2, h3, h4⟩ := two_pats h
    have := M.com1_len hx
    rw [← Lib.size_eq, ← Lib.size_eq] at this
    exact ⟨(M.com1_ok hx (M.piece_ok h1) (M.piece_ok h2)).2, by omega⟩
  rw [hF.out]
  clear hF
  cases b1 : M.isPat s.data.toList
  · rw [b1] at hA
    clear hB hC hx
    go_enter Try.func43, Try.ntmps43
    go_wp2_with (go_at_call_of 65 (Value.string s); refine (hA.out _).mono ?_; rintro e w1 ⟨rfl, hb1⟩)
    go_ret2
    exact ⟨rfl, hb1⟩
  · cases b2 : M.isPat u.data.toList
    · rw [b1] at hA
      rw [b2] at hB
      clear hC hx
      go_enter Try.func43, Try.ntmps43
      go_wp2_with fail
      refine (hA.out _).mono ?_
      rintro e w1 ⟨rfl, hb1⟩
      go_wp2_with fail
      refine (hB.out _).mono ?_
      rintro e w2 ⟨rfl, hb2⟩
      have hb3 := Lib.hid (btr hb1.out hb2.out)
      clear hb1 hb2
      go_wp2
      go_ret2
      exact ⟨rfl, hb3⟩
    · have h3 : (M.isPat s.data.toList && M.isPat u.data.toList) = true := by rw [b1, b2]; rfl
      have hC' := Lib.hid (hC.out h3)
      have hx' := Lib.hid (hx.out h3)
      rw [b1] at hA
      rw [b2] at hB
      rw [Bool.and_true, if_pos rfl]
      clear hC hx
      cases hcm : M.com1 s.data.toList u.data.toList with
      | none =>
        rw [hcm] at hC'
        rw [comOf_none hcm]
        clear hx' hcm
        go_enter Try.func43, Try.ntmps43
        go_wp2_with fail
        refine (hA.out _).mono ?_
        rintro e w1 ⟨rfl, hb1⟩
        go_wp2_with fail
        refine (hB.out _).mono ?_
        rintro e w2 ⟨rfl, hb2⟩
        go_wp2_with fail
        refine (hC'.out _).mono ?_
        rintro e w3 ⟨S, a3, b3, rfl, _, hb3⟩
        have hb4 := Lib.hid (btr hb1.out (btr hb2.out hb3.out))
        clear hb1 hb2 hb3
        go_wp2
        go_ret2
        exact ⟨rfl, hb4⟩
      | some x =>
        rw [hcm] at hC'
        obtain ⟨hok, h120⟩ := hx'.out x hcm
        have hcm' := Lib.hid hcm
        have hok' := Lib.hid hok
        clear hx' hcm hok
        go_enter Try.func43, Try.ntmps43
        go_wp2_with fail
        refine (hA.out _).mono ?_
        rintro e w1 ⟨rfl, hb1⟩
        go_wp2_with fail
        refine (hB.out _).mono ?_
        rintro e w2 ⟨rfl, hb2⟩
        go_wp2_with fail
        refine (hC'.out _).mono ?_
        rintro e w3 ⟨S, a3, b3, rfl, hT, hb3⟩
        obtain ⟨rfl, _, _⟩ := hT.out x rfl
        have hb4 := Lib.hid (btr hb1.out (btr hb2.out hb3.out))
        obtain ⟨cap, w4, hconv, hrow, hb5⟩ := bytes_of (M.bs x.1) w3
        have hrow' : Hid (RowU w4 w3.heap.size (M.namedTo x.1 0)) := by rw [M.namedTo_zero]; exact hrow
        have hb6 := Lib.hid (btr hb4.out hb5)
        have hg := hb4.out.size
        have hg4 := hrow.1
        have hz : Hid ((M.bs x.1).size = x.1.length) := M.bs_size _
        have hbk : Hid (∀ W, RowU W w3.heap.size (M.nameFrom 0 x.1) → (convert 98 9 (.slice (some ⟨w3.heap.size, 0, none⟩) (M.bs x.1).size cap)).run Try.prog W = .ok (.string (M.bs (M.nameFrom 0 x.1))) W) := fun W h => bytes_back _ _ _ _ W (by rw [M.nameFrom_len, hz.out]) h
        have hst : Hid (M.numL (x.1.take 0) = 0) := rfl
        have hn1 : (M.bs x.1).size ≤ 120 := by rw [hz.out]; exact h120
        clear hb1 hb2 hb3 hT hrow hb5 hA hB hC'
        obtain ⟨n0, hn0⟩ : ∃ n0, (M.bs x.1).size = n0 := ⟨_, rfl⟩
        rw [hn0] at hbk hconv hn1 hz
        clear hn0
        generalize M.bs x.1 = Z at *
        go_wp2
        clear hconv
        go_loopw [11, 12] (fun ql qi wr => ∃ (k n : Nat), k ≤ n0 ∧ n ≤ k ∧ qi = .int .i64 (k : Int) ∧ ql = .int .u8 (97 + (n : Int)) ∧ Hid (Below w.heap.size w wr) ∧ Hid (M.numL (x.1.take k) = n) ∧ Hid (RowU wr w3.heap.size (M.namedTo x.1 k))) (fun _ qi _ => n0 - (intOf qi).toNat)
        case atStart => exact ⟨0, 0, by omega, by omega, rfl, rfl, hb6, hst, hrow'⟩
        case round =>
          obtain ⟨k, n, hk, hn, rfl, rfl, hB, hN, hR⟩ := hrel
          clear hst hrow' hb6
          by_cases hlt : k < n0
          · have hki : (k : Int) < (n0 : Int) := by omega
            obtain ⟨c, hc⟩ : ∃ c, x.1[k]? = some c := ⟨_, List.getElem?_eq_getElem (by rw [← hz.out]; exact hlt)⟩
            have hcell := hR.out.2 k c (M.namedTo_at hc)
            have hc1 := hcell.1
            have hc2 := hcell.2
            have hokc := hok'.out c (List.mem_of_getElem? hc)
            have hx2 := M.numL_take hc
            rw [hN.out] at hx2
            cases hl : M.isL c
            · rw [hl] at hx2
              have hx3 : Hid (M.numL (x.1.take (k + 1)) = n) := hx2
              have hR2 : Hid (RowU wr w3.heap.size (M.namedTo x.1 (k + 1))) := by rw [M.namedTo_other hc hl]; exact hR.out
              have hkk := hokc.resolve_left (by rw [hl]; decide)
              clear hx2 hN hl hcell hR hbk hc hokc hok'
              rcases hkk with h40 | h41
              · have e40 : ((c.toNat : Int) != 40) = false := by rw [h40]; rfl
                clear h40
                go_wp2
                go_roundw
                case rel => exact ⟨k + 1, n, by omega, by omega, by go_num, rfl, hB, hx3, hR2⟩
                case measure => simp [intOf]; omega
              · have e40 : ((c.toNat : Int) != 40) = true := by rw [h41]; rfl
                have e41 : ((c.toNat : Int) != 41) = false := by rw [h41]; rfl
                clear h41
                go_wp2
                go_roundw
                case rel => exact ⟨k + 1, n, by omega, by omega, by go_num, rfl, hB, hx3, hR2⟩
                case measure => simp [intOf]; omega
            · rw [hl] at hx2
              have hx3 : Hid (M.numL (x.1.take (k + 1)) = n + 1) := hx2
              have e40 : ((c.toNat : Int) != 40) = true := ne_byte (M.ne_open hl)
              have e41 : ((c.toNat : Int) != 41) = true := ne_byte (M.ne_shut hl)
              have hR2 : Hid (RowU (wr.setCell ⟨w3.heap.size, k, none⟩ (.int .u8 (97 + (n : Int)))) w3.heap.size (M.namedTo x.1 (k + 1))) := by
                show RowU _ _ _
                rw [M.namedTo_let hc hl, hN.out, ← ofNat_let (n := n) (by omega)]
                exact rowU_set hR.out (by rw [M.namedTo_len, ← hz.out]; exact hlt) _
              have hB2 : Hid (Below w.heap.size w (wr.setCell ⟨w3.heap.size, k, none⟩ (.int .u8 (97 + (n : Int))))) := below_setCell hB.out hg _
              have hw : IntKind.u8.wrap (97 + (n : Int) + 1) = 97 + ((n + 1 : Nat) : Int) := by rw [IntWalk.u8_in _ (by omega)]; omega
              clear hx2 hN hl hcell hR hbk hc hokc hok' hB
              go_wp2
              go_roundw
              case rel => exact ⟨k + 1, n + 1, by omega, by omega, by go_num, by first | rfl | (congr 1; omega), hB2, hx3, hR2⟩
              case measure => simp [intOf]; omega
          · obtain rfl : k = n0 := by omega
            have hRe : RowU wr w3.heap.size (M.nameFrom 0 x.1) := by rw [← M.namedTo_end x.1 (by rw [← hz.out]; exact Nat.le_refl _)]; exact hR.out
            have hE := hbk.out wr hRe
            have hNn : M.numL x.1 = n := by rw [← hN.out, List.take_of_length_le (by rw [← hz.out]; exact Nat.le_refl _)]
            clear hbk hR hRe hok'
            by_cases h60 : k ≤ 60
            · have hi6 : ¬ (60 : Int) < (k : Int) := by omega
              by_cases h8 : n ≤ 8
              · have hi8 : ¬ (105 : Int) < 97 + (n : Int) := by omega
                have hG := Lib.hid (comOf_good hcm'.out (by rw [← hz.out]; exact h60) (by rw [hNn]; exact h8))
                clear hNn hN
                generalize M.bs (M.nameFrom 0 x.1) = Y at *
                go_wp2
                go_ret2
                rw [hG.out]
                exact ⟨rfl, hB⟩
              · have hi8 : (105 : Int) < 97 + (n : Int) := by omega
                have hG := Lib.hid (comOf_bad hcm'.out (fun h => h8 (by rw [← hNn]; exact h.2)))
                clear hNn hN hE
                go_wp2
                go_ret2
                rw [hG.out]
                exact ⟨rfl, hB⟩
            · have hi6 : (60 : Int) < (k : Int) := by omega
              have hG := Lib.hid (comOf_bad hcm'.out (fun h => h60 (by rw [hz.out]; exact h.1)))
              clear hNn hN hE
              go_wp2
              go_ret2
              rw [hG.out]
              exact ⟨rfl, hB⟩
end Go.Proofs.Ytbdmmeoelagdcaa
