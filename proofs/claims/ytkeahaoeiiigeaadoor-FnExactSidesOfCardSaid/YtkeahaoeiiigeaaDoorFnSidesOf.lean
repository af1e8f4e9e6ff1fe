/- SidesOf, the program's and the model's. -/
import Derived.Test.YtkeahaoeiiigeaaDoorSides
namespace Go.Proofs.YtkeahaoeiiigeaaDoor
open Go.RowKit

def sidesOf : M.Bin → ByteArray × ByteArray × Int
  | .nil => (⟨#[]⟩, ⟨#[]⟩, 5)
  | .node l r => (l.str, r.str, 0)
noncomputable def F_SidesOf (s : ByteArray) : ByteArray × ByteArray × Int := if okB s then sidesOf (treeOf s) else (⟨#[]⟩, ⟨#[]⟩, 1)

theorem str_some (t : M.Bin) : ¬ t.str.toList = [] := fun h => by
  rw [M.Bin.str, Lib.toList_data, M.bs_data] at h
  cases t <;> simp [M.Bin.txt] at h

set_option maxRecDepth 100000 in
set_option maxHeartbeats 2000000 in
theorem impl_SidesOf : GivesSS1 19 F_SidesOf := by
  intro p s w hs hc
  have hC := Lib.hid (codeB1 p s w hc)
  cases ho : okB s
  · rw [ho] at hC
    have hF : F_SidesOf s = (⟨#[]⟩, ⟨#[]⟩, 1) := by rw [F_SidesOf, ho]; rfl
    rw [hF]
    clear hF ho hc
    go_enter Tryd.func19, Tryd.ntmps19
    go_wp2_with (go_at_call 47; refine hC.out.mono ?_; rintro e w' ⟨rfl, hb⟩)
    refine bodyPost_ret (v := .tuple #[.string ⟨#[]⟩, .string ⟨#[]⟩, .int .i64 1]) (by simp [results, Tryd.results19, go_sem]) rfl ⟨rfl, hb⟩
  · obtain ⟨t, rfl, ht⟩ := okB_inv ho
    rw [ho] at hC
    have hF : F_SidesOf t.str = sidesOf t := by rw [F_SidesOf, ho, treeOf_str]; rfl
    rw [hF]
    have HC := Lib.hid hc
    clear hF ho hc
    cases t with
    | nil =>
      show Calls _ _ _ _ fun e w' => e = .returned (.tuple #[.string ⟨#[]⟩, .string ⟨#[]⟩, .int .i64 5]) ∧ _
      go_enter Tryd.func19, Tryd.ntmps19
      go_wp2_with (first | (go_at_call 47; refine hC.out.mono ?_; rintro e w1 ⟨rfl, hb1⟩) | (go_at_call 49; refine (partOf p .nil _ (by simp [M.Bin.n]) (cell_up hb1.out HC.out)).mono ?_; rintro e w2 ⟨rfl, hb2⟩; simp only [M.Bin.lef, M.Bin.rig]))
      refine bodyPost_ret (v := .tuple #[.string ⟨#[]⟩, .string ⟨#[]⟩, .int .i64 5]) (by simp [results, Tryd.results19, go_sem]) rfl ⟨rfl, Lib.hid (btr hb1.out (bal hb2.out _))⟩
    | node l r =>
      have hl := str_some l
      have hzl : l.str.size ≤ 1000000 := by have := str_size l; simp only [M.Bin.n] at ht; omega
      have hzr : r.str.size ≤ 1000000 := by have := str_size r; simp only [M.Bin.n] at ht; omega
      have hcl := fun W => Lib.hid (cloneStr l.str W hzl)
      have hcr := fun W => Lib.hid (cloneStr r.str W hzr)
      have hP := fun W h => Lib.hid (partOf p (.node l r) W (by omega) h)
      simp only [M.Bin.lef, M.Bin.rig] at hP
      show Calls _ _ _ _ fun e w' => e = .returned (.tuple #[.string l.str, .string r.str, .int .i64 0]) ∧ _
      generalize (M.Bin.node l r).str = S at *
      generalize l.str = SL at *
      generalize r.str = SR at *
      go_enter Tryd.func19, Tryd.ntmps19
      go_wp2_with (first | (go_at_call 47; refine hC.out.mono ?_; rintro e w1 ⟨rfl, hb1⟩) | (go_at_call 49; refine (hP _ (cell_up hb1.out HC.out)).out.mono ?_; rintro e w2 ⟨rfl, hb2⟩))
      have hP0 := PartAt.new (t := 45) (a := SL) (c := SR) (btr hb1.out hb2.out)
      obtain ⟨b, hb⟩ : ∃ b, w2.heap.size = b := ⟨_, rfl⟩
      obtain ⟨W0, hW0⟩ : ∃ W0, w2.alloc (.cells #[.string SL, .string SR] 45) = W0 := ⟨_, rfl⟩
      rw [hb, hW0] at hP0
      rw [hb, hW0]
      have c0 : W0.drew.cell? ⟨b, 0, none⟩ = some (.string SL) := hP0.1
      have c1 : W0.drew.cell? ⟨b, 1, none⟩ = some (.string SR) := hP0.2.1
      have K0 : Hid (PartAt w b SL SR W0.drew) := hP0.drew
      have HK : Hid (∀ W', Hid (PartAt w b SL SR W') → W'.cell? ⟨b, 0, none⟩ = some (.string SL) ∧ W'.cell? ⟨b, 1, none⟩ = some (.string SR)) := fun W' h => ⟨h.out.1, h.out.2.1⟩
      have HL : Hid (∀ W', Hid (PartAt w b SL SR W') → Calls Tryd.prog 50 #[.string SL] W' fun e w' => e = .returned (.string SL) ∧ Hid (PartAt w b SL SR w')) := fun W' h => (hcl W').out.mono fun e w' ⟨he, hb'⟩ => ⟨he, h.out.up hb'.out⟩
      have HR : Hid (∀ W', Hid (PartAt w b SL SR W') → Calls Tryd.prog 50 #[.string SR] W' fun e w' => e = .returned (.string SR) ∧ Hid (PartAt w b SL SR w')) := fun W' h => (hcr W').out.mono fun e w' ⟨he, hb'⟩ => ⟨he, h.out.up hb'.out⟩
      clear hW0 hb hb1 hb2 hP hcl hcr hC HC hP0
      go_region_held3 (fun w' => w'.cell? ⟨b, 0, none⟩ = some (.string SL) ∧ w'.cell? ⟨b, 1, none⟩ = some (.string SR) ∧ Hid (PartAt w b SL SR w')) (first | exact ⟨c0, c1, K0⟩ | exact ⟨(HK.out _ (by assumption)).1, (HK.out _ (by assumption)).2, by assumption⟩) (first | (go_at_call_of 50 (Value.string SL); refine (HL.out _ (by assumption)).mono ?_; rintro e w7 ⟨rfl, h7⟩) | (go_at_call 50; refine (HR.out _ (by assumption)).mono ?_; rintro e w8 ⟨rfl, h8⟩))
      go_wp2
      refine bodyPost_ret (v := .tuple #[.string SL, .string SR, .int .i64 0]) (by simp [results, Tryd.results19, go_sem]) rfl ⟨rfl, Lib.hid h8.out.2.2⟩

set_option maxRecDepth 100000 in
set_option maxHeartbeats 2000000 in
theorem spec_SidesOf : GivesSS1 18 F_SidesOf := by
  intro p s w hs _
  have hC := Lib.hid (l03Is s w hs)
  cases ho : okB s
  · rw [ho] at hC
    have hF : F_SidesOf s = (⟨#[]⟩, ⟨#[]⟩, 1) := by rw [F_SidesOf, ho]; rfl
    rw [hF]
    clear hF ho
    go_enter Tryd.func18, Tryd.ntmps18
    go_wp2_with (go_at_call 46; refine hC.out.mono ?_; rintro e w' ⟨rfl, hw⟩; subst hw)
    refine bodyPost_ret (v := .tuple #[.string ⟨#[]⟩, .string ⟨#[]⟩, .int .i64 1]) (by simp [results, Tryd.results18, go_sem]) rfl ⟨rfl, b0 _⟩
  · obtain ⟨t, rfl, ht⟩ := okB_inv ho
    rw [ho] at hC
    have hF : F_SidesOf t.str = sidesOf t := by rw [F_SidesOf, ho, treeOf_str]; rfl
    rw [hF]
    clear hF ho
    cases t with
    | nil =>
      have hq : (M.Bin.nil.str.toList == [48]) = true := str_nil .nil
      show Calls _ _ _ _ fun e w' => e = .returned (.tuple #[.string ⟨#[]⟩, .string ⟨#[]⟩, .int .i64 5]) ∧ _
      go_enter Tryd.func18, Tryd.ntmps18
      go_wp2_with (go_at_call 46; refine hC.out.mono ?_; rintro e w' ⟨rfl, hw⟩; subst hw)
      refine bodyPost_ret (v := .tuple #[.string ⟨#[]⟩, .string ⟨#[]⟩, .int .i64 5]) (by simp [results, Tryd.results18, go_sem]) rfl ⟨rfl, b0 _⟩
    | node l r =>
      have hq : ((M.Bin.node l r).str.toList == [48]) = false := str_nil (.node l r)
      simp only [M.Bin.n] at ht
      have hP := Lib.hid (l03Sides l r w (by omega))
      show Calls _ _ _ _ fun e w' => e = .returned (.tuple #[.string l.str, .string r.str, .int .i64 0]) ∧ _
      generalize (M.Bin.node l r).str = S at *
      go_enter Tryd.func18, Tryd.ntmps18
      go_wp2_with (first | (go_at_call 46; refine hC.out.mono ?_; rintro e w' ⟨rfl, hw⟩; subst hw) | (go_at_call 48; refine hP.out.mono ?_; rintro e w2 ⟨rfl, hb⟩))
      refine bodyPost_ret (v := .tuple #[.string l.str, .string r.str, .int .i64 0]) (by simp [results, Tryd.results18, go_sem]) rfl ⟨rfl, hb⟩
end Go.Proofs.YtkeahaoeiiigeaaDoor
