/- The model's reader of patterns: l04End, l04Is. -/
import Derived.Test.YtbdmmeoelagdcaaPieceOf
namespace Go.Proofs.Ytbdmmeoelagdcaa
open Go.RowKit

/-- the slice value v owns a row of bools -/
abbrev OwnB (w : World) (B : Nat) (v : Value) (U : List Bool) : Prop := w.ownsRow B 4 1 v U.length (U.map Value.bool)
theorem ownB_set {w : World} {B g n c : Nat} {U : List Bool} (h : OwnB w B (.slice (some ⟨g, 0, none⟩) n c) U) (hn : U.length = n) (k : Nat) (x : Bool) :
    OwnB (w.setCell ⟨g, k, none⟩ (.bool x)) B (.slice (some ⟨g, 0, none⟩) n c) (U.set k x) := by
  subst hn
  have := (World.ownsRow.stored h k (.bool x)).1
  simpa [OwnB, List.map_set] using this
theorem ownB_cell {w : World} {B g n c : Nat} {U : List Bool} (h : OwnB w B (.slice (some ⟨g, 0, none⟩) n c) U) (hn : U.length = n) {k : Nat} {x : Bool} (hx : U[k]? = some x) :
    w.cell? ⟨g, k, none⟩ = some (.bool x) ∧ w.frozen? ⟨g, k, none⟩ = false := by
  subst hn
  have hk : k < U.length := (List.getElem?_eq_some_iff.1 hx).1
  exact ⟨(World.ownsRow.cellAt h k (by omega)).trans (by simp [hx]), World.ownsRow.frozenAt h k⟩
theorem ownB_made {w : World} {B n : Nat} (hB : B ≤ w.heap.size) (hn : n ≤ maxLen) :
    OwnB (w.alloc (.cells (madeCells #[.bool false] n) 4)) B (.slice (some ⟨w.heap.size, 0, none⟩) n n) (List.replicate n false) := by
  have h := World.ownsRow_lit (e := 4) (size := 1) w (madeCells #[.bool false] n) n hB hn (by simp [size_madeCells])
  rw [toList_madeCells_one] at h
  simpa [OwnB] using h

/-- the place behind what has been read, or none -/
def endOf (n : Nat) (R : Option (List UInt8 × List Bool)) : Int := match R with | some x => ((n - x.1.length : Nat) : Int) | none => -1
theorem getD_at {U : List Bool} {k : Nat} {x : Bool} (h : U.getD k true = x) (hk : k < U.length) : U[k]? = some x := by
  rw [List.getD_eq_getElem?_getD, List.getElem?_eq_getElem hk] at h
  rw [List.getElem?_eq_getElem hk, ← h]; rfl

/-- what has been told of the letters that have stood -/
def Told (R : Option (List UInt8 × List Bool)) (V : List Bool) : Prop := ∀ x, R = some x → x.2 = V
theorem told_none (V : List Bool) : Told none V := fun x h => by cases h
theorem told_some (r : List UInt8) (V : List Bool) : Told (some (r, V)) V := fun x h => by injection h with h; rw [← h]
/-- what l04End hands back -/
def EndQ (g n : Nat) (R : Option (List UInt8 × List Bool)) (w : World) (e : Ending) (w' : World) : Prop :=
  e = .returned (.int .i64 (endOf n R)) ∧ Hid (Below g w w') ∧ ∃ V, Hid (V.length = 8) ∧ Hid (OwnB w' g (.slice (some ⟨g, 0, none⟩) 8 8) V) ∧ Hid (Told R V)
theorem endQ_at (g n : Nat) (R : Option (List UInt8 × List Bool)) (w : World) {i : Int} (h : endOf n R = i) : EndQ g n R w = fun e w' => e = .returned (.int .i64 i) ∧ Hid (Below g w w') ∧ ∃ V, Hid (V.length = 8) ∧ Hid (OwnB w' g (.slice (some ⟨g, 0, none⟩) 8 8) V) ∧ Hid (Told R V) := by
  funext e w'
  rw [EndQ, h]
/-- what l04End must do with texts of less than f bytes -/
def EndUAt (s : ByteArray) (L : List UInt8) (f : Nat) : Prop := ∀ (j g : Nat) (U : List Bool) (w : World), s.size - j < f → j ≤ s.size → Hid (U.length = 8) → Hid (OwnB w g (.slice (some ⟨g, 0, none⟩) 8 8) U) →
  Calls Try.prog 124 #[.string s, .int .i64 (j : Int), .slice (some ⟨g, 0, none⟩) 8 8] w (EndQ g s.size (M.pieceU (L.drop j) U) w)
theorem drop_rest {L : List UInt8} {j : Nat} {U : List Bool} {x : List UInt8 × List Bool} (h : M.pieceU (L.drop j) U = some x) (hj : j ≤ L.length) : j < L.length - x.1.length ∧ L.length - x.1.length ≤ L.length ∧ L.drop (L.length - x.1.length) = x.1 ∧ x.2.length = U.length := by
  obtain ⟨h1, h2, h3⟩ := M.pieceU_len h
  rw [List.length_drop] at h2 h3
  rw [List.drop_drop] at h3
  refine ⟨by omega, by omega, ?_, h1⟩
  rw [show L.length - x.1.length = j + (L.length - j - x.1.length) by omega]
  exact h3

set_option maxRecDepth 100000 in
set_option maxHeartbeats 4000000 in
theorem l04End_step (s : ByteArray) (L : List UInt8) (hs : s.size ≤ 1000) (hL : Hid (L.length = s.size)) (hby : Hid (∀ k (h : k < s.size), L.drop k = s[k] :: L.drop (k + 1))) (f : Nat) (ih : Hid (EndUAt s L f)) : EndUAt s L (f + 1) := by
  intro j g U w hf hj hU hO
  obtain ⟨R, hR⟩ : ∃ R, M.pieceU (L.drop j) U = R := ⟨_, rfl⟩
  have HR := Lib.hid hR
  obtain ⟨Q, hQ⟩ : ∃ Q, EndQ g s.size R w = Q := ⟨_, rfl⟩
  have hEnd : Hid (∀ (i : Int) (w' : World) (V : List Bool), endOf s.size R = i → Hid (Below g w w') → Hid (V.length = 8) → Hid (OwnB w' g (.slice (some ⟨g, 0, none⟩) 8 8) V) → Told R V → Q (.returned (.int .i64 i)) w') := fun i w' V h1 h2 h3 h4 h5 => by
    rw [← hQ]
    exact ⟨by rw [h1], h2, V, h3, h4, Lib.hid h5⟩
  rw [hR, hQ]
  clear hQ hR
  have hB := Lib.hid (Below.refl g w)
  by_cases hlt : j < s.size
  · have hi : ¬ (s.size : Int) ≤ (j : Int) := by omega
    have hd := Lib.hid (hby.out j hlt)
    cases hc : M.isL s[j]
    · have hn : ¬ (97 ≤ (s[j].toNat : Int) ∧ (s[j].toNat : Int) ≤ 104) := fun h => by have := M.isL_iff (c := s[j]); rw [hc] at this; exact absurd (this.2 (by omega)) (by decide)
      by_cases h40 : s[j] = 40
      · have e40 : (s[j].toNat : Int) = 40 := by rw [h40]; rfl
        have hR0 : Hid (M.closeU (L.drop (j + 1)) 1 U = R) := by show _ = _; rw [← HR.out, hd.out, h40, M.pieceU_open]
        clear hd hc HR h40 hn
        go_enter Try.func124, Try.ntmps124
        go_wp2
        go_loopw [1] (fun qa wr => ∃ (k : Nat) (V : List Bool), j < k ∧ k ≤ s.size ∧ qa = .int .i64 (k : Int) ∧ Hid (V.length = 8) ∧ Hid (OwnB wr g (.slice (some ⟨g, 0, none⟩) 8 8) V) ∧ Hid (Below g w wr) ∧ Hid (M.closeU (L.drop k) 1 V = R)) (fun qa _ => s.size - (intOf qa).toNat)
        case atStart => exact ⟨j + 1, U, by omega, by omega, by go_num, hU, hO, hB, hR0⟩
        case round =>
          obtain ⟨k, V, hjk, hk, rfl, hV, hOV, hBV, hRV⟩ := hrel
          clear hU hO hB hR0
          by_cases hkl : k < s.size
          · have hki : (k : Int) < (s.size : Int) := by omega
            have hdk := Lib.hid (hby.out k hkl)
            by_cases h41 : s[k] = 41
            · have e41 : ((s[k].toNat : Int) != 41) = false := by rw [h41]; rfl
              have hRk : R = some (L.drop (k + 1), V) := by rw [← hRV.out, hdk.out, h41, M.closeU_shut, M.closeU_zero]
              have hfin := Lib.hid (hEnd.out ((k : Int) + 1) wr V (by
                rw [hRk]
                show (((s.size - (L.drop (k + 1)).length : Nat)) : Int) = _
                rw [List.length_drop, hL.out]; omega) hBV hV hOV (by rw [hRk]; exact told_some _ _))
              clear hEnd ih hdk hRk h41 hRV
              go_wp2
              exact hfin.out
            · have e41 : ((s[k].toNat : Int) != 41) = true := ne_byte h41
              have hC := Lib.hid (ih.out k g V wr (by omega) (by omega) hV hOV)
              have hst : M.closeU (L.drop k) 1 V = (M.pieceU (L.drop k) V).bind fun x => M.closeU x.1 1 x.2 := by rw [hdk.out]; exact M.closeU_piece h41 _ 0 V
              cases hp : M.pieceU (L.drop k) V with
              | none =>
                have hR1 : R = none := by rw [← hRV.out, hst, hp]; rfl
                have hE : Hid (∀ w', Hid (Below g w w') → ∀ V', Hid (V'.length = 8) → Hid (OwnB w' g (.slice (some ⟨g, 0, none⟩) 8 8) V') → Q (.returned (.int .i64 (-1))) w') := fun w' h1 V' h2 h3 => hEnd.out (-1) w' V' (by rw [hR1]; rfl) h1 h2 h3 (by rw [hR1]; exact told_none _)
                rw [hp, endQ_at g s.size none wr (i := -1) rfl] at hC
                clear hEnd ih hdk hst hR1 h41 hRV hp
                go_wp2_with (go_at_call 124; with_reducible refine hC.out.mono ?_; rintro e w2 ⟨rfl, hb2, V2, hV2, hO2, hT2⟩)
                have hfin := Lib.hid (hE.out w2 (Lib.hid (hBV.out.trans hb2.out)) V2 hV2 hO2)
                exact hfin.out
              | some x =>
                obtain ⟨r, V'⟩ := x
                have hr := drop_rest hp (by rw [hL.out]; omega)
                rw [hL.out] at hr
                simp only at hr
                obtain ⟨m, hm⟩ : ∃ m, s.size - r.length = m := ⟨_, rfl⟩
                have hR1 : Hid (M.closeU (L.drop m) 1 V' = R) := by show _ = _; rw [← hRV.out, hst, hp, ← hm, hr.2.2.1]; rfl
                rw [hm] at hr
                have hkm := hr.1
                have hms := hr.2.1
                rw [hp] at hC
                have he : endOf s.size (some (r, V')) = (m : Int) := by rw [endOf, hm]
                rw [endQ_at g s.size _ wr he] at hC
                have hmi : ¬ (m : Int) < 0 := by omega
                clear hEnd ih hdk hst h41 hRV hp hr he hm
                go_wp2_with (go_at_call 124; with_reducible refine hC.out.mono ?_; rintro e w2 ⟨rfl, hb2, V2, hV2, hO2, hT2⟩)
                have hVe : V' = V2 := hT2.out _ rfl
                subst hVe
                have hb3 := Lib.hid (hBV.out.trans hb2.out)
                clear hT2 hb2 hC
                go_roundw
                case rel => exact ⟨m, V', by omega, by omega, rfl, hV2, hO2, hb3, hR1⟩
                case measure => simp [intOf]; omega
          · obtain rfl : k = s.size := by omega
            have hRk : R = none := by rw [← hRV.out, List.drop_of_length_le (by have := hL.out; omega)]; rfl
            have hfin := Lib.hid (hEnd.out (-1) wr V (by rw [hRk]; rfl) hBV hV hOV (by rw [hRk]; exact told_none _))
            clear hEnd ih hRk hRV
            go_wp2
            exact hfin.out
      · have e40 : ((s[j].toNat : Int) != 40) = true := ne_byte h40
        have hP : R = none := by rw [← HR.out, hd.out]; exact M.pieceU_bad hc h40 _ U
        have hfin := Lib.hid (hEnd.out (-1) w U (by rw [hP]; rfl) hB hU hO (by rw [hP]; exact told_none _))
        clear hd hP hc hEnd ih HR
        by_cases hn1 : 97 ≤ (s[j].toNat : Int)
        · have hn2 : ¬ (s[j].toNat : Int) ≤ 104 := fun h => hn ⟨hn1, h⟩
          clear hn
          go_enter Try.func124, Try.ntmps124
          go_wp2
          exact hfin.out
        · clear hn
          go_enter Try.func124, Try.ntmps124
          go_wp2
          exact hfin.out
    · have hcc := M.isL_iff.1 hc
      obtain ⟨q, hq⟩ : ∃ q, s[j].toNat = 97 + q := ⟨s[j].toNat - 97, by omega⟩
      have hq8 : q < 8 := by omega
      have hz1 : (97 : Int) ≤ (s[j].toNat : Int) := by omega
      have hz2 : (s[j].toNat : Int) ≤ 104 := by omega
      have hw : IntKind.u8.wrap ((s[j].toNat : Int) - 97) = (q : Int) := by rw [IntWalk.u8_in _ (by omega)]; omega
      have hq' : s[j].toNat - 97 = q := by omega
      cases hb : U.getD q true
      · have hP : R = some (L.drop (j + 1), U.set q true) := by rw [← HR.out, hd.out, M.pieceU_let hc _ (by rw [hq']; exact hb), hq']
        have hcell := ownB_cell hO.out hU.out (getD_at hb (by rw [hU.out]; exact hq8))
        have hc1 := hcell.1
        have hc2 := hcell.2
        have hfin := Lib.hid (hEnd.out ((j : Int) + 1) (w.setCell ⟨g, q, none⟩ (.bool true)) (U.set q true) (by
          rw [hP]
          show (((s.size - (L.drop (j + 1)).length : Nat)) : Int) = _
          rw [List.length_drop, hL.out]; omega) (Lib.hid (below_setCell hB.out (Nat.le_refl g) _)) (by show _ = _; rw [List.length_set]; exact hU.out) (Lib.hid (ownB_set hO.out hU.out q true)) (by rw [hP]; exact told_some _ _))
        clear hd hP hb hc hcell hEnd ih HR hcc hq' hq
        go_enter Try.func124, Try.ntmps124
        go_wp2
        exact hfin.out
      · have hP : R = none := by rw [← HR.out, hd.out]; exact M.pieceU_used hc _ (by rw [hq']; exact hb)
        have hcell := (ownB_cell hO.out hU.out (getD_at hb (by rw [hU.out]; exact hq8))).1
        have hfin := Lib.hid (hEnd.out (-1) w U (by rw [hP]; rfl) hB hU hO (by rw [hP]; exact told_none _))
        clear hd hP hb hc hEnd ih HR hcc hq' hq
        go_enter Try.func124, Try.ntmps124
        go_wp2
        exact hfin.out
  · have hi : (s.size : Int) ≤ (j : Int) := by omega
    have hP : R = none := by rw [← HR.out, List.drop_of_length_le (by have := hL.out; omega)]; rfl
    have hfin := Lib.hid (hEnd.out (-1) w U (by rw [hP]; rfl) hB hU hO (by rw [hP]; exact told_none _))
    clear hP hEnd ih HR
    go_enter Try.func124, Try.ntmps124
    go_wp2
    exact hfin.out

theorem l04End (s : ByteArray) (hs : s.size ≤ 1000) : ∀ f, EndUAt s s.data.toList f
  | 0 => fun _ _ _ _ h => absurd h (Nat.not_lt_zero _)
  | f + 1 => l04End_step s s.data.toList hs (Lib.size_eq s).symm (Lib.hid fun _ h => byte_here s h) f (Lib.hid (l04End s hs f))

set_option maxRecDepth 100000 in
set_option maxHeartbeats 1000000 in
theorem l04Is (s : ByteArray) (w : World) (hs : s.size ≤ 1048576) : Calls Try.prog 65 #[.string s] w fun e w' => e = .returned (.bool (M.isPat s.data.toList)) ∧ Hid (Below w.heap.size w w') := by
  have hL : Hid (s.data.toList.length = s.size) := (Lib.size_eq s).symm
  by_cases h0 : s.size = 0
  · have hF : M.isPat s.data.toList = false := by
      rw [List.eq_nil_of_length_eq_zero (by rw [hL.out, h0] : s.data.toList.length = 0)]
      rfl
    have hi : ¬ (0 : Int) < (s.size : Int) := by omega
    rw [hF]
    clear hF
    go_enter Try.func65, Try.ntmps65
    go_wp2
    go_ret
    exact ⟨rfl, Lib.hid (b0 w)⟩
  · have hi : (0 : Int) < (s.size : Int) := by omega
    by_cases h60 : s.size ≤ 60
    · have hi6 : (s.size : Int) ≤ 60 := by omega
      have hC : Hid (∀ W, Hid (OwnB W w.heap.size (.slice (some ⟨w.heap.size, 0, none⟩) 8 8) (List.replicate 8 false)) → Calls Try.prog 124 #[.string s, .int .i64 0, .slice (some ⟨w.heap.size, 0, none⟩) 8 8] W (EndQ w.heap.size s.size (M.pieceU s.data.toList (List.replicate 8 false)) W)) := fun W hO => by
        have := l04End s (by omega) (s.size + 1) 0 w.heap.size (List.replicate 8 false) W (by omega) (by omega) (by simp [Hid]) hO
        rw [List.drop_zero] at this
        exact this
      have hF : Hid (M.isPat s.data.toList = (endOf s.size (M.pieceU s.data.toList (List.replicate 8 false)) == (s.size : Int))) := by
        show _ = _
        rw [Bool.eq_iff_iff, M.isPat_U (by rw [hL.out]; exact h60), beq_iff_eq]
        cases hp : M.pieceU s.data.toList (List.replicate 8 false) with
        | none => exact ⟨fun ⟨_, h⟩ => (by cases h), fun h => (by have h2 : (-1 : Int) = (s.size : Int) := h; omega)⟩
        | some x =>
          obtain ⟨r, V⟩ := x
          have h1 := (M.pieceU_len hp).2.1
          rw [hL.out] at h1
          simp only at h1
          constructor
          · rintro ⟨V', h⟩
            injection h with h
            injection h with h2 h3
            rw [h2]
            simp [endOf]
          · intro h
            have h2 : ((s.size - r.length : Nat) : Int) = (s.size : Int) := h
            have h3 : r = [] := List.eq_nil_of_length_eq_zero (by omega)
            exact ⟨V, by rw [h3]⟩
      rw [hF.out]
      clear hF
      obtain ⟨R, hR⟩ : ∃ R, M.pieceU s.data.toList (List.replicate 8 false) = R := ⟨_, rfl⟩
      obtain ⟨z, hz⟩ : ∃ z, endOf s.size R = z := ⟨_, rfl⟩
      have hC' : Hid (∀ W, Hid (OwnB W w.heap.size (.slice (some ⟨w.heap.size, 0, none⟩) 8 8) (List.replicate 8 false)) → Calls Try.prog 124 #[.string s, .int .i64 0, .slice (some ⟨w.heap.size, 0, none⟩) 8 8] W fun e w' => e = .returned (.int .i64 z) ∧ Hid (Below w.heap.size W w')) := fun W hO => by
        have := hC.out W hO
        rw [hR, endQ_at _ _ R W hz] at this
        exact this.mono fun e w' h => ⟨h.1, h.2.1⟩
      rw [hR, hz]
      clear hC hR hz
      have hM := Lib.hid (ownB_made (w := w) (B := w.heap.size) (n := 8) (Nat.le_refl _) (by decide))
      have hmk : ∀ W, (Instr.makeSlice 134 (.int .i64 8) (.int .i64 8)).run Try.prog W = .ok (.slice (some ⟨W.heap.size, 0, none⟩) 8 8) (W.alloc (.cells (madeCells #[.bool false] 8) 4)) := run_make_row' (P := Try.prog) 134 4 (.bool false) 1 Try.underlying134 (by kernel_rfl) rfl .i64 .i64 8 (by omega) (by omega)
      go_enter Try.func65, Try.ntmps65
      go_wp2_with fail
      refine (hC'.out _ hM).mono ?_
      rintro e w1 ⟨rfl, hb⟩
      have hB := Lib.hid ((bal (b0 w) (.cells (madeCells #[.bool false] 8) 4)).trans hb.out)
      clear hb hM hC'
      go_wp2
      go_ret
      exact ⟨rfl, hB⟩
    · have hi6 : ¬ (s.size : Int) ≤ 60 := by omega
      have hF : M.isPat s.data.toList = false := by
        rw [M.isPat, decide_eq_false (by rw [hL.out]; omega : ¬ s.data.toList.length ≤ 60)]
        simp
      rw [hF]
      clear hF
      go_enter Try.func65, Try.ntmps65
      go_wp2
      go_ret
      exact ⟨rfl, Lib.hid (b0 w)⟩
end Go.Proofs.Ytbdmmeoelagdcaa
