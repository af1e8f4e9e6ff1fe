/- What a range over the lists by which t is inside u gives; the codes of FirstInside and CountInside. -/
import Derived.Test.YtbnnlifpldgcfaaInsJ
import Derived.Test.YtbnnlifpldgcfaaIs
namespace Go.Proofs.Ytbnnlifpldgcfaa
open Go.RowKit Go.Shelf Go.Maps
attribute [local go_sem] Oper.semAt_some

theorem insIn (nn : Nat) (At Au : Option Addr) (n ct U cu : Nat) (w : World) :
    CallsIn Fence.wide nn Try.prog 81 #[.slice At n ct, .slice Au U cu] w fun e w' => e = .returned (.func (.func 97) #[] #[.pointer (some ⟨w.heap.size, 0, none⟩), .pointer (some ⟨w.heap.size + 1, 0, none⟩)]) ∧
      w' = (w.alloc (.cells #[.slice At n ct] 22)).alloc (.cells #[.slice Au U cu] 22) := by
  refine callsIn_of_wp Try.func81 rfl trivial ?_ rfl
  simp only [Try.ntmps81, List.size_toArray, List.length_cons, List.length_nil, Nat.reduceAdd, Nat.reduceSub, Array.replicate_succ, Array.replicate_zero, List.push_toArray, List.append_toArray, List.nil_append, List.cons_append]
  gi_wp2
  go_ret
  exact ⟨rfl, rfl⟩

theorem ins_rows (nn : Nat) (hnn : 1 ≤ nn) (Bt Bu B D : Nat) (At Au : Option Addr) (xs us : List Int) (ct cu : Nat) (htx : Hid (M.isTree xs = true)) (htu : Hid (M.isTree us = true)) (hct : Hid (xs.length ≤ ct ∧ ct ≤ 1000000000000)) (hcu : Hid (us.length ≤ cu ∧ cu ≤ 1000000000000))
    (h1 : Bt ≠ D) (h2 : Bu ≠ D) (hDB : D < B) (hBt : Bt < B) (hBu : Bu < B) (w : World) (hC : InCtx D Bt Bu At Au xs us ct cu w) (hB : B ≤ w.heap.size) :
    SeqRowsW Fence.wide nn Try.prog 97 #[.pointer (some ⟨Bt, 0, none⟩), .pointer (some ⟨Bu, 0, none⟩)] (fun x => #[x]) (RowI us xs B) (KeepD D) (fun ys => ys.length = (insideLists us xs).length) (fun _ => True) w := fun l J Jx W hW hJ _ hY h0 =>
  ins1 nn hnn l Bt Bu B D At Au xs us ct cu htx htu hct hcu h1 h2 hDB hBt hBu J Jx W hJ hY (Lib.hid (hC.be hW (by omega))) (Nat.le_trans hB hW.size) h0

/-- the code of two trees, the second one with few nodes -/
def codeI (xs us : List Int) : Int := if M.isTree xs = true ∧ M.isTree us = true then (if 12 < us.length then 3 else 0) else 1
theorem codeI_zero {xs us : List Int} (h : codeI xs us = 0) : M.isTree xs = true ∧ M.isTree us = true ∧ us.length ≤ 12 := by
  rw [codeI] at h
  split at h
  · rename_i h1
    split at h
    · cases h
    · exact ⟨h1.1, h1.2, by omega⟩
  · cases h

set_option maxHeartbeats 2000000 in
set_option maxRecDepth 100000 in
theorem codeOfInside (A B : Option Addr) (xs us : List Int) (c d : Nat) (w : World) (hx : xs.length ≤ 1000000000000) (hu : us.length ≤ 1000000000000) (hA : Hid (Ints w w.heap.size A xs)) (hB : Hid (Ints w w.heap.size B us)) :
    Calls Try.prog 80 #[.agg #[.slice A xs.length c], .agg #[.slice B us.length d]] w fun e w' => e = .returned (.int .i64 (codeI xs us)) ∧ Hid (Below w.heap.size w w') := by
  have cT0 : Hid (((w.alloc (.cells #[.slice A xs.length c] 24)).alloc (.cells #[.slice B us.length d] 24)).cell? ⟨w.heap.size, 0, none⟩ = some (.slice A xs.length c)) := cell_al (by simp) _
  have cU0 : Hid (((w.alloc (.cells #[.slice A xs.length c] 24)).alloc (.cells #[.slice B us.length d] 24)).cell? ⟨w.heap.size + 1, 0, none⟩ = some (.slice B us.length d)) := by simp [Hid, go_sem]
  have hB0 := Lib.hid (bal (bal (b0 w) (.cells #[.slice A xs.length c] 24)) (.cells #[.slice B us.length d] 24))
  have hI1 := Lib.hid (fun W (hb : Below w.heap.size w W) => implIsTree A xs c W hx (hA.out.be hb))
  have hI2 := Lib.hid (fun W (hb : Below w.heap.size w W) => implIsTree B us d W hu (hB.out.be hb))
  cases ht : M.isTree xs
  · have e : codeI xs us = 1 := by rw [codeI, if_neg (by rw [ht]; simp)]
    rw [e]
    rw [ht] at hI1
    clear ht hA hB e
    go_enter Try.func80, Try.ntmps80
    go_wp2_with fail
    refine (hI1.out _ hB0.out).mono ?_
    rintro e w1 ⟨rfl, hb1⟩
    have hB1 := Lib.hid (btr hB0.out hb1)
    clear hb1
    go_wp2
    go_ret
    exact ⟨rfl, hB1⟩
  · cases htu : M.isTree us
    · have e : codeI xs us = 1 := by rw [codeI, if_neg (by rw [htu]; simp)]
      rw [e]
      rw [ht] at hI1
      rw [htu] at hI2
      clear ht htu hA hB e
      go_enter Try.func80, Try.ntmps80
      go_wp2_with fail
      refine (hI1.out _ hB0.out).mono ?_
      rintro e w1 ⟨rfl, hb1⟩
      have hB1 := Lib.hid (btr hB0.out hb1)
      have cU1 := cell_be cU0.out hb1
      clear hb1
      go_wp2_with fail
      refine (hI2.out _ hB1.out).mono ?_
      rintro e w2 ⟨rfl, hb2⟩
      have hB2 := Lib.hid (btr hB1.out hb2)
      clear hb2
      go_wp2
      go_ret
      exact ⟨rfl, hB2⟩
    · have e : codeI xs us = if 12 < us.length then 3 else 0 := by rw [codeI, if_pos ⟨ht, htu⟩]
      rw [e]
      rw [ht] at hI1
      rw [htu] at hI2
      clear ht htu hA hB e
      by_cases h12 : 12 < us.length
      · rw [if_pos h12]
        have h12i : (12 : Int) < (us.length : Int) := by omega
        go_enter Try.func80, Try.ntmps80
        go_wp2_with fail
        refine (hI1.out _ hB0.out).mono ?_
        rintro e w1 ⟨rfl, hb1⟩
        have hB1 := Lib.hid (btr hB0.out hb1)
        have cU1 := cell_be cU0.out hb1
        have CU1 := Lib.hid cU1
        clear hb1
        go_wp2_with fail
        refine (hI2.out _ hB1.out).mono ?_
        rintro e w2 ⟨rfl, hb2⟩
        have hB2 := Lib.hid (btr hB1.out hb2)
        have cU2 := cell_be CU1.out hb2
        clear hb2 cU1
        go_wp2
        go_ret
        exact ⟨rfl, hB2⟩
      · rw [if_neg h12]
        have h12i : ¬ (12 : Int) < (us.length : Int) := by omega
        go_enter Try.func80, Try.ntmps80
        go_wp2_with fail
        refine (hI1.out _ hB0.out).mono ?_
        rintro e w1 ⟨rfl, hb1⟩
        have hB1 := Lib.hid (btr hB0.out hb1)
        have cU1 := cell_be cU0.out hb1
        have CU1 := Lib.hid cU1
        clear hb1
        go_wp2_with fail
        refine (hI2.out _ hB1.out).mono ?_
        rintro e w2 ⟨rfl, hb2⟩
        have hB2 := Lib.hid (btr hB1.out hb2)
        have cU2 := cell_be CU1.out hb2
        clear hb2 cU1
        go_wp2
        go_ret
        exact ⟨rfl, hB2⟩

set_option maxHeartbeats 2000000 in
set_option maxRecDepth 100000 in
theorem l04Both (A B : Option Addr) (xs us : List Int) (c d : Nat) (w : World) (hx : xs.length ≤ 1000000000000) (hu : us.length ≤ 1000000000000) (hA : Hid (Ints w w.heap.size A xs)) (hB : Hid (Ints w w.heap.size B us)) :
    Calls Try.prog 78 #[.agg #[.slice A xs.length c], .agg #[.slice B us.length d]] w fun e w' => e = .returned (.int .i64 (codeI xs us)) ∧ Hid (Below w.heap.size w w') := by
  have cT0 : Hid (((w.alloc (.cells #[.slice A xs.length c] 24)).alloc (.cells #[.slice B us.length d] 24)).cell? ⟨w.heap.size, 0, none⟩ = some (.slice A xs.length c)) := cell_al (by simp) _
  have cU0 : Hid (((w.alloc (.cells #[.slice A xs.length c] 24)).alloc (.cells #[.slice B us.length d] 24)).cell? ⟨w.heap.size + 1, 0, none⟩ = some (.slice B us.length d)) := by simp [Hid, go_sem]
  have hB0 := Lib.hid (bal (bal (b0 w) (.cells #[.slice A xs.length c] 24)) (.cells #[.slice B us.length d] 24))
  have hI1 := Lib.hid (fun W (hb : Below w.heap.size w W) => specIs A xs c W hx (hA.out.be hb))
  have hI2 := Lib.hid (fun W (hb : Below w.heap.size w W) => specIs B us d W hu (hB.out.be hb))
  cases ht : M.isTree xs
  · have e : codeI xs us = 1 := by rw [codeI, if_neg (by rw [ht]; simp)]
    rw [e]
    rw [ht] at hI1
    clear ht hA hB e
    go_enter Try.func78, Try.ntmps78
    go_wp2_with fail
    refine (hI1.out _ hB0.out).mono ?_
    rintro e w1 ⟨rfl, hb1⟩
    have hB1 := Lib.hid (btr hB0.out hb1)
    clear hb1
    go_wp2
    go_ret
    exact ⟨rfl, hB1⟩
  · cases htu : M.isTree us
    · have e : codeI xs us = 1 := by rw [codeI, if_neg (by rw [htu]; simp)]
      rw [e]
      rw [ht] at hI1
      rw [htu] at hI2
      clear ht htu hA hB e
      go_enter Try.func78, Try.ntmps78
      go_wp2_with fail
      refine (hI1.out _ hB0.out).mono ?_
      rintro e w1 ⟨rfl, hb1⟩
      have hB1 := Lib.hid (btr hB0.out hb1)
      have cU1 := cell_be cU0.out hb1
      clear hb1
      go_wp2_with fail
      refine (hI2.out _ hB1.out).mono ?_
      rintro e w2 ⟨rfl, hb2⟩
      have hB2 := Lib.hid (btr hB1.out hb2)
      clear hb2
      go_wp2
      go_ret
      exact ⟨rfl, hB2⟩
    · have e : codeI xs us = if 12 < us.length then 3 else 0 := by rw [codeI, if_pos ⟨ht, htu⟩]
      rw [e]
      rw [ht] at hI1
      rw [htu] at hI2
      clear ht htu hA hB e
      have hN := Lib.hid (fun W => l01N B us.length d W)
      by_cases h12 : 12 < us.length
      · rw [if_pos h12]
        have h12i : (12 : Int) < (us.length : Int) := by omega
        go_enter Try.func78, Try.ntmps78
        go_wp2_with fail
        refine (hI1.out _ hB0.out).mono ?_
        rintro e w1 ⟨rfl, hb1⟩
        have hB1 := Lib.hid (btr hB0.out hb1)
        have cU1 := cell_be cU0.out hb1
        have CU1 := Lib.hid cU1
        clear hb1
        go_wp2_with fail
        refine (hI2.out _ hB1.out).mono ?_
        rintro e w2 ⟨rfl, hb2⟩
        have hB2 := Lib.hid (btr hB1.out hb2)
        have cU2 := cell_be CU1.out hb2
        clear hb2 cU1
        go_wp2_with fail
        refine (hN.out _).mono ?_
        rintro e w3 ⟨rfl, hb3⟩
        have hB3 := Lib.hid (btr hB2.out hb3)
        clear hb3
        go_wp2
        go_ret
        exact ⟨rfl, hB3⟩
      · rw [if_neg h12]
        have h12i : ¬ (12 : Int) < (us.length : Int) := by omega
        go_enter Try.func78, Try.ntmps78
        go_wp2_with fail
        refine (hI1.out _ hB0.out).mono ?_
        rintro e w1 ⟨rfl, hb1⟩
        have hB1 := Lib.hid (btr hB0.out hb1)
        have cU1 := cell_be cU0.out hb1
        have CU1 := Lib.hid cU1
        clear hb1
        go_wp2_with fail
        refine (hI2.out _ hB1.out).mono ?_
        rintro e w2 ⟨rfl, hb2⟩
        have hB2 := Lib.hid (btr hB1.out hb2)
        have cU2 := cell_be CU1.out hb2
        clear hb2 cU1
        go_wp2_with fail
        refine (hN.out _).mono ?_
        rintro e w3 ⟨rfl, hb3⟩
        have hB3 := Lib.hid (btr hB2.out hb3)
        clear hb3
        go_wp2
        go_ret
        exact ⟨rfl, hB3⟩
end Go.Proofs.Ytbnnlifpldgcfaa
