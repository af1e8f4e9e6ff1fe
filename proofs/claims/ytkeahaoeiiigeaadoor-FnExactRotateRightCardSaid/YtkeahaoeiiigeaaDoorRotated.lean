/- rotated: the code, or the text behind a rotation. -/
import Derived.Test.YtkeahaoeiiigeaaDoorRotAtR
namespace Go.Proofs.YtkeahaoeiiigeaaDoor
open Go.RowKit

/-- the part that begins at a node, and what stands behind it -/
noncomputable def spot (t : M.Bin) (i : Nat) : M.Bin × M.Bin × List UInt8 := @Classical.epsilon _ ⟨(M.Bin.nil, M.Bin.nil, [])⟩ fun q => t.txt.drop (M.place t.txt i) = (M.Bin.node q.1 q.2.1).txt ++ q.2.2
theorem spot_is {t : M.Bin} {i : Nat} (h : i < t.n) : t.txt.drop (M.place t.txt i) = (M.Bin.node (spot t i).1 (spot t i).2.1).txt ++ (spot t i).2.2 := by
  obtain ⟨a, b, r, e⟩ := M.place_part h
  exact @Classical.epsilon_spec _ (fun q : M.Bin × M.Bin × List UInt8 => t.txt.drop (M.place t.txt i) = (M.Bin.node q.1 q.2.1).txt ++ q.2.2) ⟨(a, b, r), e⟩
/-- the text behind a rotation at a node, empty where it cannot be done -/
noncomputable def rotOut (tn : M.Bin → M.Bin → Option (M.Bin × M.Bin)) (t : M.Bin) (i : Nat) : ByteArray := rotS (tn (spot t i).1 (spot t i).2.1) (M.place t.txt i) t (spot t i).2.2
def outOf (s : ByteArray) : ByteArray × Int := if s.toList.isEmpty = true then (⟨#[]⟩, 5) else (s, 0)
noncomputable def F_Rot (tn : M.Bin → M.Bin → Option (M.Bin × M.Bin)) (s : ByteArray) (i : Int) : ByteArray × Int := if okB s then (if 0 ≤ i ∧ i ≤ ((treeOf s).n : Int) - 1 then outOf (rotOut tn (treeOf s) i.toNat) else (⟨#[]⟩, 2)) else (⟨#[]⟩, 1)

set_option maxRecDepth 100000 in
set_option maxHeartbeats 2000000 in
theorem rotated (p : Addr) (tn : M.Bin → M.Bin → Option (M.Bin × M.Bin)) (s : ByteArray) (i : Int) (c1 c2 : Nat) (W : World) (hs : s.size ≤ 1048576) (hi1 : -9223372036854775808 ≤ i) (hi2 : i ≤ 9223372036854775807) (hc : W.cell? ⟨0, 0, none⟩ = some (errV p))
    (HF : ∀ (t : M.Bin) (j : Nat) (W' : World), s = t.str → t.n ≤ 23 → j < t.n → i = (j : Int) → Below W.heap.size W W' → Calls Tryd.prog 100 #[.string t.str, .pointer (some ⟨c1, 0, none⟩), .pointer (some ⟨c2, 0, none⟩)] W' fun e w' => e = .returned (.string (rotOut tn t j)) ∧ Hid (Below W'.heap.size W' w')) :
    Calls Tryd.prog 61 #[.string s, .int .i64 i, .func (.func 100) #[] #[.pointer (some ⟨c1, 0, none⟩), .pointer (some ⟨c2, 0, none⟩)]] W fun e w' => e = .returned (.tuple #[.string (F_Rot tn s i).1, .int .i64 (F_Rot tn s i).2]) ∧ Hid (Below W.heap.size W w') := by
  have hC := Lib.hid (codeB1 p s W hc)
  cases ho : okB s
  · rw [ho] at hC
    have hF : F_Rot tn s i = (⟨#[]⟩, 1) := by rw [F_Rot, ho]; rfl
    rw [hF]
    clear hF ho hc HF
    go_enter Tryd.func61, Tryd.ntmps61
    go_wp2_with (go_at_call 47; refine hC.out.mono ?_; rintro e w' ⟨rfl, hb⟩)
    go_ret2
    exact ⟨rfl, hb⟩
  · obtain ⟨t, rfl, ht⟩ := okB_inv ho
    rw [ho] at hC
    have hN := fun W => Lib.hid (nodesIn t W (by omega))
    have hn1 : (t.n : Int) ≤ 23 := by omega
    have hn0 : (0 : Int) ≤ (t.n : Int) := by omega
    have hw : IntKind.i64.wrap ((t.n : Int) - 1) = (t.n : Int) - 1 := IntWalk.i64_in _ (by omega)
    have hI := fun W => Lib.hid (withinB i 0 ((t.n : Int) - 1) W)
    obtain ⟨b, hb⟩ : ∃ b, (decide (0 ≤ i) && decide (i ≤ (t.n : Int) - 1)) = b := ⟨_, rfl⟩
    rw [hb] at hI
    cases b
    · have hF : F_Rot tn t.str i = (⟨#[]⟩, 2) := by
        rw [F_Rot, ho, treeOf_str, if_pos rfl, if_neg]
        rintro ⟨h1, h2⟩
        rw [decide_eq_true h1, decide_eq_true h2] at hb
        cases hb
      rw [hF]
      clear hF ho hc HF hb ht
      generalize t.str = S at *
      go_enter Tryd.func61, Tryd.ntmps61
      go_wp2_with (first | (go_at_call 47; refine hC.out.mono ?_; rintro e w1 ⟨rfl, hb1⟩) | (go_at_call 52; refine (hN _).out.mono ?_; rintro e w' ⟨rfl, hw⟩; subst hw) | (go_at_call 69; refine (hI _).out.mono ?_; rintro e w' ⟨rfl, hw⟩; subst hw))
      go_ret2
      exact ⟨rfl, hb1⟩
    · simp only [Bool.and_eq_true, decide_eq_true_eq] at hb
      obtain ⟨j, rfl⟩ := Int.eq_ofNat_of_zero_le hb.1
      have hF : F_Rot tn t.str (j : Int) = outOf (rotOut tn t j) := by rw [F_Rot, ho, treeOf_str, if_pos rfl, if_pos hb, Int.toNat_natCast]
      rw [hF]
      have HG := fun W' h => Lib.hid (HF t j W' rfl ht (by omega) rfl h)
      clear hF ho hc HF hb ht
      generalize rotOut tn t j = R at *
      generalize t.str = S at *
      go_enter Tryd.func61, Tryd.ntmps61
      go_wp2_with (first | (go_at_call 47; refine hC.out.mono ?_; rintro e w1 ⟨rfl, hb1⟩) | (go_at_call 52; refine (hN _).out.mono ?_; rintro e w' ⟨rfl, hw⟩; subst hw) | (go_at_call 69; refine (hI _).out.mono ?_; rintro e w' ⟨rfl, hw⟩; subst hw) | (go_at_call 100; refine (HG _ hb1.out).out.mono ?_; rintro e w2 ⟨rfl, hb2⟩))
      · rename_i h
        go_ret2
        rw [outOf, if_pos h]
        exact ⟨rfl, Lib.hid (btr hb1.out hb2.out)⟩
      · rename_i h
        go_ret2
        rw [outOf, if_neg (by simpa using h)]
        exact ⟨rfl, Lib.hid (btr hb1.out hb2.out)⟩
end Go.Proofs.YtkeahaoeiiigeaaDoor
