/- BracketsOf, the program's and the model's. -/
import Derived.Test.YtkeahaoeiiigeaaDoorVisitI
import Derived.Laws.IdiomStrings
namespace Go.Proofs.YtkeahaoeiiigeaaDoor
open Go.RowKit

/-- the brackets as a string -/
def brS (t : M.Bin) (k : Nat) : ByteArray := M.bs (t.brk k)
theorem brS_size (t : M.Bin) (k : Nat) : (brS t k).size = 3 * t.n + 1 := by rw [brS, M.bs_size, t.brk_len]
theorem brS_node (l r : M.Bin) (k : Nat) : brS (.node l r) k = ⟨#[40]⟩ ++ brS l k ++ brS r (k + l.n + 1) ++ ⟨#[41]⟩ := by
  show _ = M.bs [40] ++ M.bs (l.brk k) ++ M.bs (r.brk (k + l.n + 1)) ++ M.bs [41]
  rw [M.bs_append, M.bs_append, M.bs_append]
  rfl
noncomputable def F_BracketsOf (s : ByteArray) : ByteArray × Int := if okB s then (brS (treeOf s) 0, 0) else (⟨#[]⟩, 1)

/-- the string of one letter -/
theorem letter_run (k g : Nat) (W : World) (hk : k ≤ 150) (hc : W.cell? ⟨g, 0, none⟩ = some (.int .u8 (97 + (k : Int)))) : (convert 80 9 (.slice (some ⟨g, 0, none⟩) 1 1)).run Tryd.prog W = .ok (.string (brS .nil k)) W := by
  refine run_convert_bytes_back W 80 9 5 ⟨g, 0, none⟩ 1 [UInt8.ofNat (97 + k)] Tryd.underlying80 Tryd.underlying5 Tryd.underlying9 (fun j hj => ?_)
  simp only [List.length_cons, List.length_nil] at hj
  obtain rfl : j = 0 := by omega
  have e : ((UInt8.ofNat (97 + k)).toNat : Int) = 97 + (k : Int) := by rw [UInt8.toNat_ofNat']; omega
  show W.cell? ⟨g, 0 + 0, none⟩ = some (.int .u8 ((UInt8.ofNat (97 + k)).toNat : Int))
  rw [e]
  exact hc

set_option maxRecDepth 100000 in
set_option maxHeartbeats 4000000 in
theorem bracketsFrom (p : Addr) : ∀ (f : Nat) (t : M.Bin) (k : Nat) (w : World), t.n ≤ f → k + t.n ≤ 100 → w.cell? ⟨0, 0, none⟩ = some (errV p) →
    Calls Tryd.prog 77 #[.int .u8 (97 + (k : Int)), .string t.str] w fun e w' => e = .returned (.string (brS t k)) ∧ Hid (Below w.heap.size w w') := by
  intro f
  induction f with
  | zero =>
    intro t k w ht hk hc
    cases t with
    | node l r => simp only [M.Bin.n] at ht; omega
    | nil =>
      have hP := fun W h => Lib.hid (partOf p .nil W (by simp [M.Bin.n]) h)
      simp only [M.Bin.lef, M.Bin.rig] at hP
      have HC := Lib.hid hc
      clear hc
      generalize M.Bin.nil.str = S at *
      go_enter Tryd.func77, Tryd.ntmps77
      go_wp2_with (first | (go_at_call 49; refine (hP _ HC.out).out.mono ?_; rintro e w2 ⟨rfl, hb2⟩; have hcv := letter_run k (w2.heap.size + 1) ((w2.alloc (.cells #[.string ⟨#[]⟩, .string ⟨#[]⟩] 45)).alloc (.cells #[.int .u8 (97 + (k : Int))] 5)) (by omega) (by simp)))
      go_ret
      exact ⟨rfl, Lib.hid (bal (bal hb2.out _) _)⟩
  | succ f ih =>
    intro t k w ht hk hc
    cases t with
    | nil => exact ih .nil k w (by simp [M.Bin.n]) hk hc
    | node l r =>
      simp only [M.Bin.n] at ht hk
      have hP := fun W h => Lib.hid (partOf p (.node l r) W (by simp only [M.Bin.n]; omega) h)
      simp only [M.Bin.lef, M.Bin.rig] at hP
      have hl := str_no l
      have hN := fun W => Lib.hid (nodesIn l W (by omega))
      have hIl := fun W h => Lib.hid (ih l k W (by omega) (by omega) h)
      have hIr := fun W h => Lib.hid (ih r (k + l.n + 1) W (by omega) (by omega) h)
      have hz1 := brS_size l k
      have hz2 := brS_size r (k + l.n + 1)
      have ek : (97 : Int) + ((k + l.n + 1 : Nat) : Int) = 97 + (k : Int) + (l.n : Int) + 1 := by omega
      rw [ek] at hIr
      rw [brS_node]
      have hs1 : ¬ 9223372036854775807 < 1 + (brS l k).size := by omega
      have hs2 : ¬ 9223372036854775807 < 1 + (brS l k).size + (brS r (k + l.n + 1)).size := by omega
      have hs3 : ¬ 9223372036854775807 < 1 + (brS l k).size + (brS r (k + l.n + 1)).size + 1 := by omega
      have hk0 : (0 : Int) ≤ (k : Int) := by omega
      have hk1 : (k : Int) + (l.n : Int) + 1 ≤ 101 := by omega
      have hk2 : (0 : Int) ≤ (l.n : Int) := by omega
      have u1 : IntKind.u8.wrap (l.n : Int) = (l.n : Int) := by rw [IntKind.wrap_u8]; omega
      have u2 : IntKind.u8.wrap (97 + (k : Int) + (l.n : Int)) = 97 + (k : Int) + (l.n : Int) := by rw [IntKind.wrap_u8]; omega
      have u3 : IntKind.u8.wrap (97 + (k : Int) + (l.n : Int) + 1) = 97 + (k : Int) + (l.n : Int) + 1 := by rw [IntKind.wrap_u8]; omega
      have HC := Lib.hid hc
      clear hc ih ek hz1 hz2
      generalize brS l k = BL at *
      generalize brS r (k + l.n + 1) = BR at *
      generalize (M.Bin.node l r).str = S at *
      generalize l.str = SL at *
      generalize r.str = SR at *
      go_enter Tryd.func77, Tryd.ntmps77
      go_wp2_with (first | (go_at_call 49; refine (hP _ HC.out).out.mono ?_; rintro e w2 ⟨rfl, hb2⟩; have hP0 := Lib.hid (PartAt.new (t := 45) (a := SL) (c := SR) hb2.out)) | (go_at_call 52; refine (hN _).out.mono ?_; rintro e w' ⟨rfl, hw⟩; subst hw))
      obtain ⟨b, hb⟩ : ∃ b, w2.heap.size = b := ⟨_, rfl⟩
      obtain ⟨W0, hW0⟩ : ∃ W0, w2.alloc (.cells #[.string SL, .string SR] 45) = W0 := ⟨_, rfl⟩
      rw [hb, hW0] at hP0
      rw [hb, hW0]
      have c0 : W0.drew.cell? ⟨b, 0, none⟩ = some (.string SL) := hP0.out.1
      have c1 : W0.drew.cell? ⟨b, 1, none⟩ = some (.string SR) := hP0.out.2.1
      have K0 : Hid (PartAt w b SL SR W0.drew) := hP0.out.drew
      have HK : Hid (∀ W', Hid (PartAt w b SL SR W') → W'.cell? ⟨b, 0, none⟩ = some (.string SL) ∧ W'.cell? ⟨b, 1, none⟩ = some (.string SR)) := fun W' h => ⟨h.out.1, h.out.2.1⟩
      have HL : Hid (∀ W', Hid (PartAt w b SL SR W') → Calls Tryd.prog 77 #[.int .u8 (97 + (k : Int)), .string SL] W' fun e w' => e = .returned (.string BL) ∧ Hid (PartAt w b SL SR w')) := fun W' h => (hIl W' (cell_up h.out.2.2 HC.out)).out.mono fun e w' ⟨he, hb'⟩ => ⟨he, h.out.up hb'.out⟩
      have HR : Hid (∀ W', Hid (PartAt w b SL SR W') → Calls Tryd.prog 77 #[.int .u8 (97 + (k : Int) + (l.n : Int) + 1), .string SR] W' fun e w' => e = .returned (.string BR) ∧ Hid (PartAt w b SL SR w')) := fun W' h => (hIr W' (cell_up h.out.2.2 HC.out)).out.mono fun e w' ⟨he, hb'⟩ => ⟨he, h.out.up hb'.out⟩
      clear hW0 hb hb2 hP hIl hIr HC hP0
      go_region_held3 (fun w' => w'.cell? ⟨b, 0, none⟩ = some (.string SL) ∧ w'.cell? ⟨b, 1, none⟩ = some (.string SR) ∧ Hid (PartAt w b SL SR w')) (first | exact ⟨c0, c1, K0⟩ | exact ⟨(HK.out _ (by assumption)).1, (HK.out _ (by assumption)).2, by assumption⟩) (first | (go_at_call_of 77 (Value.string SL); refine (HL.out _ (by assumption)).mono ?_; rintro e w7 ⟨rfl, h7⟩) | (go_at_call 77; refine (HR.out _ (by assumption)).mono ?_; rintro e w8 ⟨rfl, h8⟩))
      go_wp2
      go_ret
      exact ⟨rfl, Lib.hid h8.out.2.2⟩

set_option maxRecDepth 100000 in
theorem impl_BracketsOf : GivesS1 43 F_BracketsOf := by
  intro p s w hs hc
  have hC := Lib.hid (codeB1 p s w hc)
  have HC := Lib.hid hc
  cases ho : okB s
  · rw [ho] at hC
    have hF : F_BracketsOf s = (⟨#[]⟩, 1) := by rw [F_BracketsOf, ho]; rfl
    rw [hF]
    clear hF ho hc
    go_enter Tryd.func43, Tryd.ntmps43
    go_wp2_with (go_at_call 47; refine hC.out.mono ?_; rintro e w' ⟨rfl, hb⟩)
    go_ret2
    exact ⟨rfl, hb⟩
  · obtain ⟨t, rfl, ht⟩ := okB_inv ho
    rw [ho] at hC
    have hF : F_BracketsOf t.str = (brS t 0, 0) := by rw [F_BracketsOf, ho, treeOf_str]; rfl
    rw [hF]
    have hM := fun W h => Lib.hid (bracketsFrom p t.n t 0 W (Nat.le_refl _) (by omega) h)
    rw [show (97 : Int) + ((0 : Nat) : Int) = 97 from rfl] at hM
    clear hF ho hc
    generalize brS t 0 = R at *
    generalize t.str = S at *
    go_enter Tryd.func43, Tryd.ntmps43
    go_wp2_with (first | (go_at_call 47; refine hC.out.mono ?_; rintro e w1 ⟨rfl, hb1⟩) | (go_at_call 77; refine (hM _ (cell_up hb1.out HC.out)).out.mono ?_; rintro e w2 ⟨rfl, hb2⟩))
    go_ret2
    exact ⟨rfl, Lib.hid (btr hb1.out hb2.out)⟩

set_option maxRecDepth 100000 in
set_option maxHeartbeats 4000000 in
theorem l03Brackets : ∀ (f : Nat) (t : M.Bin) (k : Nat) (w : World), t.n ≤ f → k + t.n ≤ 100 →
    Calls Tryd.prog 76 #[.string t.str, .int .i64 (k : Int)] w fun e w' => e = .returned (.string (brS t k)) ∧ Hid (Below w.heap.size w w') := by
  intro f
  induction f with
  | zero =>
    intro t k w ht hk
    cases t with
    | node l r => simp only [M.Bin.n] at ht; omega
    | nil =>
      have hq : (M.Bin.nil.str.toList == [48]) = true := str_nil .nil
      have hk1 : (k : Int) ≤ 100 := by omega
      have hk0 : (0 : Int) ≤ (k : Int) := by omega
      have u1 : IntKind.u8.wrap (97 + (k : Int)) = 97 + (k : Int) := by rw [IntKind.wrap_u8]; omega
      have hcv := letter_run k w.heap.size (w.alloc (.cells #[.int .u8 (97 + (k : Int))] 5)) (by omega) (by simp)
      generalize M.Bin.nil.str = S at *
      go_enter Tryd.func76, Tryd.ntmps76
      go_wp2
      go_ret
      exact ⟨rfl, Lib.hid (bal (b0 w) _)⟩
  | succ f ih =>
    intro t k w ht hk
    cases t with
    | nil => exact ih .nil k w (by simp [M.Bin.n]) hk
    | node l r =>
      simp only [M.Bin.n] at ht hk
      have hq : ((M.Bin.node l r).str.toList == [48]) = false := str_nil (.node l r)
      have hP := Lib.hid (l03Sides l r w (by omega))
      have hN := fun W => Lib.hid (l03N l W (by omega))
      have hIl := fun W => Lib.hid (ih l k W (by omega) (by omega))
      have hIr := fun W => Lib.hid (ih r (k + l.n + 1) W (by omega) (by omega))
      have hz1 := brS_size l k
      have hz2 := brS_size r (k + l.n + 1)
      have ek : ((k + l.n + 1 : Nat) : Int) = (k : Int) + (l.n : Int) + 1 := by omega
      rw [ek] at hIr
      rw [brS_node]
      have hs1 : ¬ 9223372036854775807 < 1 + (brS l k).size := by omega
      have hs2 : ¬ 9223372036854775807 < 1 + (brS l k).size + (brS r (k + l.n + 1)).size := by omega
      have hs3 : ¬ 9223372036854775807 < 1 + (brS l k).size + (brS r (k + l.n + 1)).size + 1 := by omega
      have hk0 : (0 : Int) ≤ (k : Int) := by omega
      have hk1 : (k : Int) + (l.n : Int) + 1 ≤ 101 := by omega
      have hk2 : (0 : Int) ≤ (l.n : Int) := by omega
      clear ih ek hz1 hz2
      generalize brS l k = BL at *
      generalize brS r (k + l.n + 1) = BR at *
      generalize (M.Bin.node l r).str = S at *
      generalize l.str = SL at *
      generalize r.str = SR at *
      go_enter Tryd.func76, Tryd.ntmps76
      go_wp2_with (first | (go_at_call 48; refine hP.out.mono ?_; rintro e w2 ⟨rfl, hb2⟩) | (go_at_call 51; refine (hN _).out.mono ?_; rintro e w' ⟨rfl, hw⟩; subst hw) | (go_at_call_of 76 (Value.string SL); refine (hIl _).out.mono ?_; rintro e w3 ⟨rfl, hb3⟩) | (go_at_call 76; refine (hIr _).out.mono ?_; rintro e w4 ⟨rfl, hb4⟩))
      go_ret
      exact ⟨rfl, Lib.hid (btr hb2.out (btr hb3.out hb4.out))⟩

set_option maxRecDepth 100000 in
theorem spec_BracketsOf : GivesS1 42 F_BracketsOf := by
  intro p s w hs _
  have hC := Lib.hid (l03Is s w hs)
  cases ho : okB s
  · rw [ho] at hC
    have hF : F_BracketsOf s = (⟨#[]⟩, 1) := by rw [F_BracketsOf, ho]; rfl
    rw [hF]
    clear hF ho
    go_enter Tryd.func42, Tryd.ntmps42
    go_wp2_with (go_at_call 46; refine hC.out.mono ?_; rintro e w' ⟨rfl, hw⟩; subst hw)
    go_ret2
    exact ⟨rfl, b0 _⟩
  · obtain ⟨t, rfl, ht⟩ := okB_inv ho
    rw [ho] at hC
    have hF : F_BracketsOf t.str = (brS t 0, 0) := by rw [F_BracketsOf, ho, treeOf_str]; rfl
    rw [hF]
    have hM := fun W => Lib.hid (l03Brackets t.n t 0 W (Nat.le_refl _) (by omega))
    clear hF ho
    generalize brS t 0 = R at *
    generalize t.str = S at *
    go_enter Tryd.func42, Tryd.ntmps42
    go_wp2_with (first | (go_at_call 46; refine hC.out.mono ?_; rintro e w' ⟨rfl, hw⟩; subst hw) | (go_at_call 76; refine (hM _).out.mono ?_; rintro e w2 ⟨rfl, hb2⟩))
    go_ret2
    exact ⟨rfl, hb2⟩
end Go.Proofs.YtkeahaoeiiigeaaDoor
