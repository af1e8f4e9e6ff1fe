/- ParseBrackets, the program's and the model's. -/
import Derived.Test.YtkeahaoeiiigeaaDoorBrackets
import Derived.Test.YtkeahaoeiiigeaaDoorFnIsBinary
import Derived.Test.YtkeahaoeiiigeaaDoorShelf
namespace Go.Proofs.YtkeahaoeiiigeaaDoor
open Go.RowKit

theorem digitOfBracket (x : Nat) (W : World) : Calls Tryd.prog 79 #[.int .i32 (x : Int)] W fun e w' => e = .returned (.int .i32 (digF (x : Int))) ∧ w' = W := by
  by_cases h1 : (x : Int) = 40
  · have e : digF (x : Int) = 49 := by rw [digF, if_pos h1]
    rw [e, h1]
    clear e h1
    go_enter Tryd.func79, Tryd.ntmps79
    go_wp2
    go_ret
    exact ⟨rfl, rfl⟩
  · by_cases h2 : (x : Int) = 41
    · have e : digF (x : Int) = -1 := by rw [digF, if_neg h1, if_pos h2]
      rw [e, h2]
      clear e h1 h2
      go_enter Tryd.func79, Tryd.ntmps79
      go_wp2
      go_ret
      exact ⟨rfl, rfl⟩
    · have e : digF (x : Int) = 48 := by rw [digF, if_neg h1, if_neg h2]
      rw [e]
      have b1 : ((x : Int) == 40) = false := beq_eq_false_iff_ne.2 h1
      have b2 : ((x : Int) == 41) = false := beq_eq_false_iff_ne.2 h2
      clear e
      go_enter Tryd.func79, Tryd.ntmps79
      go_wp2
      go_ret
      exact ⟨rfl, rfl⟩

/-- what a function of a text that reads the tables of runes and the program's variable must do -/
def GivesP (f : Nat) (F : ByteArray → ByteArray × Int) : Prop := ∀ (p : Addr) (s : ByteArray) (w : World), s.size ≤ 1048576 → w.cell? ⟨0, 0, none⟩ = some (errV p) → Lib.Utf8Tabs 2 3 w →
  Calls Tryd.prog f #[.string s] w fun e w' => e = .returned (.tuple #[.string (F s).1, .int .i64 (F s).2]) ∧ Hid (Below w.heap.size w w')

theorem digits (s : ByteArray) (w : World) (hs : s.size ≤ 1048576) (hT : Lib.Utf8Tabs 2 3 w) : Calls Tryd.prog 78 #[.func (.func 79) #[] #[], .string s] w fun e w' => e = .returned (.string (M.bs (Lib.mapD digF s.data.toList))) ∧ Below w.heap.size w w' :=
  Tryd.strings_Map_grows 79 #[] (enters_of Tryd.func79 (by kernel_rfl) rfl) digF s w (by omega)
    (fun W x _ _ => (digitOfBracket x W).mono fun e w' ⟨he, hw⟩ => ⟨he, by rw [hw]; exact b0 W⟩) (fun x hx => by rw [digF]; split; omega; split; omega; omega) hT

set_option maxRecDepth 100000 in
set_option maxHeartbeats 4000000 in
theorem impl_ParseBrackets : GivesP 45 F_ParseBrackets := by
  intro p s w hs hc hT
  have hD := Lib.hid (digits s w hs hT)
  have HC := Lib.hid hc
  rw [parse_same]
  have hz : Hid ((M.bs (Lib.mapD digF s.data.toList)).size ≤ 1048576) := by
    show _ ≤ _
    rw [M.bs_size]
    have := mapD_dig_len _ s.data.toList (Nat.le_refl _)
    rw [Lib.size_eq] at hs
    omega
  have hI := fun W h => Lib.hid (impl_IsBinary p (M.bs (Lib.mapD digF s.data.toList)) W hz.out h)
  simp only [F_IsBinary] at hI
  generalize M.bs (Lib.mapD digF s.data.toList) = S at *
  clear hc hT hz
  cases ho : okB S
  · rw [ho] at hI
    rw [parsed_no ho]
    clear ho
    go_enter Tryd.func45, Tryd.ntmps45
    go_wp2_with (first | (go_at_call 78; refine hD.out.mono ?_; rintro e w1 ⟨rfl, hb1⟩; have hb1 := Lib.hid hb1) | (go_at_call 17; refine (hI _ (cell_up hb1.out HC.out)).out.mono ?_; rintro e w2 ⟨rfl, hb2⟩))
    go_ret2
    exact ⟨rfl, Lib.hid (btr hb1.out hb2.out)⟩
  · obtain ⟨t, rfl, ht⟩ := okB_inv ho
    rw [ho] at hI
    have hp1 : brS t 0 = s → parsed t.str s = (t.str, 0) := fun h => parsed_hit ho h
    have hp2 : ¬ brS t 0 = s → parsed t.str s = (⟨#[]⟩, 6) := fun h => parsed_miss t h
    have hM := fun W h => Lib.hid (bracketsFrom p t.n t 0 W (Nat.le_refl _) (by omega) h)
    rw [show (97 : Int) + ((0 : Nat) : Int) = 97 from rfl] at hM
    clear ho
    generalize brS t 0 = R at *
    generalize t.str = S at *
    by_cases hR : R = s
    · rw [hp1 hR]
      clear hp1 hp2
      subst hR
      go_enter Tryd.func45, Tryd.ntmps45
      go_wp2_with (first | (go_at_call 78; refine hD.out.mono ?_; rintro e w1 ⟨rfl, hb1⟩; have hb1 := Lib.hid hb1) | (go_at_call 17; refine (hI _ (cell_up hb1.out HC.out)).out.mono ?_; rintro e w2 ⟨rfl, hb2⟩) | (go_at_call 77; refine (hM _ (cell_up hb2.out (cell_up hb1.out HC.out))).out.mono ?_; rintro e w3 ⟨rfl, hb3⟩))
      go_ret2
      exact ⟨rfl, Lib.hid (btr hb1.out (btr hb2.out hb3.out))⟩
    · rw [hp2 hR]
      have hR2 : (R.toList == s.toList) = false := beq_eq_false_iff_ne.2 fun e => hR (by
        rw [Lib.toList_data, Lib.toList_data] at e
        exact ByteArray.ext (Array.toList_inj.1 e))
      clear hp1 hp2 hR
      go_enter Tryd.func45, Tryd.ntmps45
      go_wp2_with (first | (go_at_call 78; refine hD.out.mono ?_; rintro e w1 ⟨rfl, hb1⟩; have hb1 := Lib.hid hb1) | (go_at_call 17; refine (hI _ (cell_up hb1.out HC.out)).out.mono ?_; rintro e w2 ⟨rfl, hb2⟩) | (go_at_call 77; refine (hM _ (cell_up hb2.out (cell_up hb1.out HC.out))).out.mono ?_; rintro e w3 ⟨rfl, hb3⟩))
      go_ret2
      exact ⟨rfl, Lib.hid (btr hb1.out (btr hb2.out hb3.out))⟩

/-- the model's digits up to a place -/
def sdigs (s : ByteArray) (k : Nat) : ByteArray := M.bs ((s.data.toList.take k).flatMap sdig)
theorem sdigs_next (s : ByteArray) {k : Nat} (h : k < s.size) : sdigs s (k + 1) = sdigs s k ++ M.bs (sdig s[k]) := by
  have h2 : k < s.data.toList.length := by rw [← Lib.size_eq]; exact h
  rw [sdigs, sdigs, M.bs_append, List.take_succ_eq_append_getElem h2, List.flatMap_append, List.flatMap_singleton]
  rfl
theorem sdig_len (b : UInt8) : (sdig b).length ≤ 1 := by
  rw [sdig]
  split
  · decide
  · split <;> decide
theorem sdigs_size (s : ByteArray) : ∀ k, k ≤ s.size → (sdigs s k).size ≤ k
  | 0, _ => by rw [sdigs, M.bs_size]; simp
  | k + 1, h => by
    have ih := sdigs_size s k (by omega)
    have := sdig_len (s[k]'(by omega))
    rw [sdigs_next s (by omega), ByteArray.size_append, M.bs_size]
    omega
theorem sdigs_open {s : ByteArray} {k : Nat} (h : k < s.size) (e : (s[k].toNat : Int) = 40) : sdigs s (k + 1) = sdigs s k ++ ⟨#[49]⟩ := by
  have : s[k] = 40 := UInt8.toNat_inj.1 (by simp; omega)
  rw [sdigs_next s h, this]
  rfl
theorem sdigs_letter {s : ByteArray} {k : Nat} (h : k < s.size) (e : (97 : Int) ≤ (s[k].toNat : Int)) (e2 : (s[k].toNat : Int) ≤ 122) : sdigs s (k + 1) = sdigs s k ++ ⟨#[48]⟩ := by
  have h1 : ¬ s[k] = 40 := fun h => by rw [h] at e; simp at e
  have h2 : 97 ≤ s[k] ∧ s[k] ≤ 122 := by
    constructor
    · rw [UInt8.le_iff_toNat_le]; simp; omega
    · rw [UInt8.le_iff_toNat_le]; simp; omega
  rw [sdigs_next s h, sdig, if_neg h1, if_pos h2]
  rfl
theorem sdigs_other {s : ByteArray} {k : Nat} (h : k < s.size) (e : ¬ (s[k].toNat : Int) = 40) (e2 : ¬ ((97 : Int) ≤ (s[k].toNat : Int) ∧ (s[k].toNat : Int) ≤ 122)) : sdigs s (k + 1) = sdigs s k := by
  have h1 : ¬ s[k] = 40 := fun h => by rw [h] at e; simp at e
  have h2 : ¬ (97 ≤ s[k] ∧ s[k] ≤ 122) := fun h => by
    rw [UInt8.le_iff_toNat_le, UInt8.le_iff_toNat_le] at h
    simp at h
    omega
  rw [sdigs_next s h, sdig, if_neg h1, if_neg h2]
  show _ ++ (⟨#[]⟩ : ByteArray) = _
  exact ByteArray.append_empty

set_option maxRecDepth 100000 in
set_option maxHeartbeats 4000000 in
theorem spec_ParseBrackets : GivesP 44 F_ParseBrackets := by
  intro p s w hs _ _
  have hG0 : Hid (sdigs s 0 = ⟨#[]⟩) := rfl
  have hG1 := Lib.hid (fun k h => @sdigs_open s k h)
  have hG2 := Lib.hid (fun k h => @sdigs_letter s k h)
  have hG3 := Lib.hid (fun k h => @sdigs_other s k h)
  have hGs := Lib.hid (sdigs_size s)
  have hF : F_ParseBrackets s = parsed (sdigs s s.size) s := by
    rw [F_ParseBrackets, sdigs, Lib.size_eq, List.take_length]
  rw [hF]
  clear hF
  have hC := fun W => Lib.hid (l03Is (sdigs s s.size) W (Nat.le_trans (sdigs_size s _ (Nat.le_refl _)) hs))
  generalize sdigs s = G at *
  obtain ⟨P, hP0⟩ : ∃ P, parsed (G s.size) s = P := ⟨_, rfl⟩
  have hP := Lib.hid hP0
  rw [hP0]
  clear hP0
  go_enter Tryd.func44, Tryd.ntmps44
  go_wp2
  go_loopw [4, 5] (fun qw qi wr => ∃ (k : Nat), k ≤ s.size ∧ qi = .int .i64 (k : Int) ∧ qw = .string (G k) ∧ wr = w) (fun _ qi _ => s.size - (intOf qi).toNat)
  case atStart => exact ⟨0, Nat.zero_le _, rfl, by rw [hG0.out], rfl⟩
  case round =>
    obtain ⟨k, hk, rfl, rfl, rfl⟩ := hrel
    by_cases hlt : k < s.size
    · have hki : (k : Int) < (s.size : Int) := by omega
      have hkn : ¬ s.size ≤ k := by omega
      have hsz : ¬ 9223372036854775807 < (G k).size + 1 := by have := hGs.out k hk; omega
      by_cases h40 : (s[k].toNat : Int) = 40
      · have e := Lib.hid (hG1.out k hlt h40)
        clear hG0 hG1 hG2 hG3 hGs hC
        go_wp2
        go_roundw
        case rel => exact ⟨k + 1, by omega, by go_num, by rw [e.out], trivial⟩
        case measure => simp [intOf]; omega
      · have q40 : ((s[k].toNat : Int) == 40) = false := beq_eq_false_iff_ne.2 h40
        by_cases h97 : (97 : Int) ≤ (s[k].toNat : Int)
        · by_cases h122 : (s[k].toNat : Int) ≤ 122
          · have e := Lib.hid (hG2.out k hlt h97 h122)
            clear hG0 hG1 hG2 hG3 hGs hC h40
            go_wp2
            go_roundw
            case rel => exact ⟨k + 1, by omega, by go_num, by rw [e.out], trivial⟩
            case measure => simp [intOf]; omega
          · have e := Lib.hid (hG3.out k hlt h40 (fun h => h122 h.2))
            clear hG0 hG1 hG2 hG3 hGs hC h40
            go_wp2
            go_roundw
            case rel => exact ⟨k + 1, by omega, by go_num, by rw [e.out], trivial⟩
            case measure => simp [intOf]; omega
        · have e := Lib.hid (hG3.out k hlt h40 (fun h => h97 h.1))
          clear hG0 hG1 hG2 hG3 hGs hC h40
          go_wp2
          go_roundw
          case rel => exact ⟨k + 1, by omega, by go_num, by rw [e.out], trivial⟩
          case measure => simp [intOf]; omega
    · obtain rfl : k = s.size := by omega
      have hCw := hC wr
      clear hG0 hG1 hG2 hG3 hGs hC
      have hP' := hP.out
      clear hP
      generalize G s.size = S at *
      cases ho : okB S
      · rw [ho] at hCw
        rw [parsed_no ho] at hP'
        subst hP'
        clear ho
        go_wp2_with (go_at_call 46; refine hCw.out.mono ?_; rintro e w' ⟨rfl, hw⟩; have hw' := hw.symm; subst hw')
        go_ret2
        exact ⟨rfl, Lib.hid (b0 _)⟩
      · obtain ⟨t, rfl, ht⟩ := okB_inv ho
        rw [ho] at hCw
        have hp1 : brS t 0 = s → parsed t.str s = (t.str, 0) := fun h => parsed_hit ho h
        have hp2 : ¬ brS t 0 = s → parsed t.str s = (⟨#[]⟩, 6) := fun h => parsed_miss t h
        have hM := fun W => Lib.hid (l03Brackets t.n t 0 W (Nat.le_refl _) (by omega))
        clear ho
        generalize brS t 0 = R at *
        generalize t.str = S at *
        by_cases hR : R = s
        · rw [hp1 hR] at hP'
          subst hP'
          clear hp1 hp2
          subst hR
          go_wp2_with (first | (go_at_call 46; refine hCw.out.mono ?_; rintro e w' ⟨rfl, hw⟩; have hw' := hw.symm; subst hw') | (go_at_call 76; refine (hM _).out.mono ?_; rintro e w2 ⟨rfl, hb2⟩))
          go_ret2
          exact ⟨rfl, hb2⟩
        · rw [hp2 hR] at hP'
          subst hP'
          have hR2 : (R.toList == s.toList) = false := beq_eq_false_iff_ne.2 fun e => hR (by
            rw [Lib.toList_data, Lib.toList_data] at e
            exact ByteArray.ext (Array.toList_inj.1 e))
          clear hp1 hp2 hR
          go_wp2_with (first | (go_at_call 46; refine hCw.out.mono ?_; rintro e w' ⟨rfl, hw⟩; have hw' := hw.symm; subst hw') | (go_at_call 76; refine (hM _).out.mono ?_; rintro e w2 ⟨rfl, hb2⟩))
          go_ret2
          exact ⟨rfl, hb2⟩
end Go.Proofs.YtkeahaoeiiigeaaDoor
