/- AddressOf, the program's and the model's: the places on the way down to a node, or a code. -/
import Derived.Test.YtdaghbfejcjknaaKids
import Derived.Test.YtdaghbfejcjknaaNodes
import Derived.Test.YtdaghbfejcjknaaGives
import Derived.Test.YtdaghbfejcjknaaToward
import Derived.Test.YtdaghbfejcjknaaTwo
import Derived.Deep.RegionHeld3
namespace Go.Proofs.Ytdaghbfejcjknaa
open Go.RowKit

def F_AddressOf (xs : List Int) (v : Int) : List Int × Int := if M.code xs [v] = 0 then (M.address xs v.toNat, 0) else ([], M.code xs [v])
theorem F_AddressOf_len (xs : List Int) (v : Int) : (F_AddressOf xs v).1.length ≤ 1048576 := by
  rw [F_AddressOf]
  split
  · rename_i h
    have h1 := (M.tree_len (M.code_tree h)).2
    show (M.address _ _).length ≤ _
    have := M.addrGo_len xs v.toNat xs.length 0
    rw [M.address]
    omega
  · simp

set_option maxHeartbeats 2000000 in
set_option maxRecDepth 100000 in
theorem impl_AddressOf : GivesList1 27 F_AddressOf := by
  intro A xs c v w hx hcc h
  obtain ⟨r, hr⟩ : ∃ r, Hid (M.code xs [v] = r) := ⟨_, rfl⟩
  have hc := codeOf A (some ⟨w.heap.size + 1, 0, none⟩) xs [v] c 1 ((w.alloc (.cells #[.slice A xs.length c] 28)).alloc (.cells #[.int .i64 v] 2)) (by omega) (by simp) ((h.al _).al _) (by have := ints_new (w.alloc (.cells #[.slice A xs.length c] 28)) #[.int .i64 v] [v] rfl; simpa using this) r hr
  simp only [List.length_cons, List.length_nil, Nat.zero_add] at hc
  have HC := Lib.hid hc
  clear hc
  by_cases h0 : r = 0
  · subst h0
    have hn := M.code_node hr.out
    have ht := M.code_tree hr.out
    have hlen := (M.tree_len ht).2
    obtain ⟨v, rfl⟩ := Int.eq_ofNat_of_zero_le hn.1
    have hvl := hn.2.1
    simp only [Int.toNat_natCast] at hvl
    have hF : F_AddressOf xs v = (M.address xs v, 0) := if_pos hr.out
    have hR := Lib.hid (M.addr_start ht hvl)
    have Ht := Lib.hid ht
    rw [hF]
    show Calls _ _ _ _ fun e w' => ∃ A' c', e = .returned (.tuple #[.slice A' (M.address xs v).length c', .int .i64 0]) ∧ Own64 w' w.heap.size (.slice A' (M.address xs v).length c') (M.address xs v) ∧ _
    generalize M.address xs v = R at *
    clear hF hn ht
    go_enter Try.func27, Try.ntmps27
    go_wp2_with fail
    refine HC.out.mono ?_
    rintro e w1 ⟨rfl, hb⟩
    have hB := Lib.hid (btr (bal (bal (b0 w) _) _) hb)
    have Hcell : Hid (w1.cell? ⟨w.heap.size, 0, none⟩ = some (.slice A xs.length c)) := cell_be (cell_al (by simp) _) hb
    have h1 := Lib.hid (((h.al _).al _).be hb)
    have z1 := hB.out.size
    clear hb h HC
    go_wp2
    go_loopw [7, 8, 9, 10] (fun q s8 _ _ wr => ∃ (a : Nat) (pre : List Int) (A' : Option Addr) (n c' : Nat), q = .slice A' n c' ∧ s8 = .int .i64 (a : Int) ∧ Hid (M.AddrAt xs v a pre R) ∧ Hid (Own64 wr w1.heap.size (.slice A' n c') pre) ∧ Hid (Below w1.heap.size w1 wr)) (fun _ s8 _ _ _ => v - (intOf s8).toNat)
    case atStart => exact ⟨0, [], none, 0, 0, rfl, rfl, hR, own64_nil _ _, b0 _⟩
    case round =>
      obtain ⟨a, pre, A', n, c', rfl, rfl, ha, ho, hbr⟩ := hrel
      have hnl := own64_len ho.out
      have hpa := ha.out.2.2.1
      have hav := ha.out.1
      by_cases hne : a = v
      · subst hne
        have he := M.addr_end ha.out
        subst he
        have hq : ((a : Int) != (a : Int)) = false := by simp
        clear hR
        go_wp2
        go_ret2
        subst hnl
        exact ⟨A', c', rfl, own_mono ho.out z1, btr hB.out hbr.out⟩
      · have hq : ((a : Int) != (v : Int)) = true := by simp; omega
        have hst := Lib.hid (M.addr_step Ht.out hvl ha.out hne)
        have hnx := M.next_ok Ht.out (a := a) (v := v) (by omega) ha.out.2.1 hvl
        have hct := Lib.hid (childToward A xs c a v wr hlen hcc.1 hcc.2 Ht (by omega) ha.out.2.1 hvl ((h1.out.be hbr.out)))
        have hcr := cell_be Hcell.out hbr.out
        generalize M.next xs a v = a2 at *
        generalize M.place xs a v = j at *
        have hn6 : n ≤ 1000000 := by omega
        clear hR ha hne hnl
        go_wp2_with fail
        refine hct.out.mono ?_
        rintro e w2 ⟨rfl, hb2⟩
        have ho2 := Lib.hid (own_be ho.out hb2)
        have hbr2 := Lib.hid (btr hbr.out hb2)
        have zr := hbr2.out.size
        clear hct hcr hb2 ho hbr
        go_wp2_with (at_builtin; refine push64 rfl (.tmp 29) (.tmp 31) rfl w2 w1.heap.size A' n c' pre (j : Int) rfl rfl ho2 zr hn6 ?_; intro A3 c3 w3 ho3 hb3)
        go_roundw
        case rel => exact ⟨a2, pre ++ [(j : Int)], A3, n + 1, c3, rfl, rfl, hst, ho3, hbr2.out.trans hb3.out⟩
        case measure => simp [intOf]; omega
  · have hF : F_AddressOf xs v = ([], r) := by rw [← hr.out]; exact if_neg (by rw [hr.out]; exact h0)
    rw [hF]
    have hq : (r != 0) = true := by simp [h0]
    clear hF h0
    go_enter Try.func27, Try.ntmps27
    go_wp2_with fail
    refine HC.out.mono ?_
    rintro e w1 ⟨rfl, hb⟩
    have hB := btr (bal (bal (b0 w) _) _) hb
    go_wp2
    go_ret2
    exact ⟨none, 0, rfl, own64_nil _ _, hB⟩

set_option maxHeartbeats 4000000 in
set_option maxRecDepth 100000 in
theorem spec_AddressOf : GivesList1 26 F_AddressOf := by
  intro A xs c v w hx hcc h
  obtain ⟨r, hr⟩ : ∃ r, Hid (M.code xs [v] = r) := ⟨_, rfl⟩
  have hc := l01Nodes A (some ⟨w.heap.size + 1, 0, none⟩) xs [v] c 1 ((w.alloc (.cells #[.slice A xs.length c] 28)).alloc (.cells #[.int .i64 v] 2)) (by omega) (by simp) ((h.al _).al _) (by have := ints_new (w.alloc (.cells #[.slice A xs.length c] 28)) #[.int .i64 v] [v] rfl; simpa using this) r hr
  simp only [List.length_cons, List.length_nil, Nat.zero_add] at hc
  have HC := Lib.hid hc
  clear hc
  by_cases h0 : r = 0
  · subst h0
    have hn := M.code_node hr.out
    have ht := M.code_tree hr.out
    have hlen := (M.tree_len ht).2
    obtain ⟨v, rfl⟩ := Int.eq_ofNat_of_zero_le hn.1
    have hvl := hn.2.1
    simp only [Int.toNat_natCast] at hvl
    have hF : F_AddressOf xs v = (M.address xs v, 0) := if_pos hr.out
    have hR := Lib.hid (M.addr_start ht hvl)
    have Ht := Lib.hid ht
    rw [hF]
    show Calls _ _ _ _ fun e w' => ∃ A' c', e = .returned (.tuple #[.slice A' (M.address xs v).length c', .int .i64 0]) ∧ Own64 w' w.heap.size (.slice A' (M.address xs v).length c') (M.address xs v) ∧ _
    generalize M.address xs v = R at *
    clear hF hn ht
    go_enter Try.func26, Try.ntmps26
    go_wp2_with fail
    refine HC.out.mono ?_
    rintro e w1 ⟨rfl, hb⟩
    have hB := Lib.hid (btr (bal (bal (b0 w) _) _) hb)
    have Hcell : Hid (w1.cell? ⟨w.heap.size, 0, none⟩ = some (.slice A xs.length c)) := cell_be (cell_al (by simp) _) hb
    have h1 := Lib.hid (((h.al _).al _).be hb)
    have z1 := hB.out.size
    have hst0 : Hid (Own64 (w1.alloc (.cells #[] 2)) w1.heap.size (.slice (some ⟨w1.heap.size, 0, none⟩) 0 0) []) := own64_empty (Nat.le_refl _)
    have hb00 : Hid (Below w1.heap.size w1 (w1.alloc (.cells #[] 2))) := bal (b0 w1) _
    clear hb h HC
    go_wp2
    go_loopw [7, 8, 9, 10] (fun q s8 _ _ wr => ∃ (a : Nat) (pre : List Int) (A' : Option Addr) (n c' : Nat), q = .slice A' n c' ∧ s8 = .int .i64 (a : Int) ∧ Hid (M.AddrAt xs v a pre R) ∧ Hid (Own64 wr w1.heap.size (.slice A' n c') pre) ∧ Hid (Below w1.heap.size w1 wr)) (fun _ s8 _ _ _ => v - (intOf s8).toNat)
    case atStart => exact ⟨0, [], _, 0, 0, rfl, rfl, hR, hst0, hb00⟩
    case round =>
      obtain ⟨a, pre, A', n, c', rfl, rfl, ha, ho, hbr⟩ := hrel
      clear hst0 hb00
      have hnl := own64_len ho.out
      have hpa := ha.out.2.2.1
      have hav := ha.out.1
      by_cases hne : a = v
      · subst hne
        have he := M.addr_end ha.out
        subst he
        have hq : ((a : Int) != (a : Int)) = false := by simp
        clear hR
        go_wp2
        go_ret2
        subst hnl
        exact ⟨A', c', rfl, own_mono ho.out z1, btr hB.out hbr.out⟩
      · have hq : ((a : Int) != (v : Int)) = true := by simp; omega
        have hst := Lib.hid (M.addr_step Ht.out hvl ha.out hne)
        have hnx := M.next_ok Ht.out (a := a) (v := v) (by omega) ha.out.2.1 hvl
        obtain ⟨d, hd, hd24, hpd, hp1, hp2⟩ := M.place_at Ht.out (a := a) (v := v) (by omega) ha.out.2.1 hvl
        have Hd := Lib.hid hd
        have hch := Lib.hid (l01Children A xs c a d wr hlen Ht Hd (h1.out.be hbr.out))
        have hcr := cell_be Hcell.out hbr.out
        have hn6 : n ≤ 1000000 := by omega
        have hnxe : Hid (M.next xs a v = M.kidAt xs a (M.place xs a v)) := rfl
        have Hp1 := Lib.hid hp1
        have Hp2 := Lib.hid hp2
        generalize M.next xs a v = a2 at *
        generalize M.place xs a v = j at *
        clear hR ha hne hnl hd hp1 hp2
        go_wp2_with fail
        refine hch.out.mono ?_
        rintro e w2 ⟨A3, c3, rfl, hok, hb2⟩
        have Hok := Lib.hid hok
        have hdis : Hid (∀ b, (Value.slice A' n c').ownBlock = some b → (Value.slice A3 d c3).ownBlock ≠ some b) := fun b e e2 => by
          have k1 := (World.ownsRow.lt ho.out b e).2
          have k2 := (World.ownsRow.lt hok b e2).1
          omega
        have ht2 : Hid (Two w2 w1.heap.size (.slice A' n c') (.slice A3 d c3) pre (M.childs xs a d)) := ⟨own_be ho.out hb2, own_mono hok hbr.out.size, hdis.out⟩
        have hbr2 := Lib.hid (btr hbr.out hb2)
        have hcr2 := cell_be hcr hb2
        obtain ⟨g3, rfl⟩ := ht2.out.symm.shape.2 (by omega)
        have Hcr2 := Lib.hid hcr2
        have zr2 := hbr2.out.size
        clear hch hcr hb2 ho hbr hok hdis Hok hcr2
        go_wp2
        go_loopw [7, 8, 10] (fun q s8 i wr => ∃ k, k ≤ j ∧ q = .slice A' n c' ∧ s8 = .int .i64 (a : Int) ∧ i = .int .i64 ((k : Nat) : Int) ∧ Hid (Below w2.heap.size w2 wr)) (fun _ _ i _ => 40 - (intOf i).toNat)
        case atStart => exact ⟨0, Nat.zero_le _, rfl, rfl, rfl, b0 _⟩
        case round =>
          obtain ⟨k, hk, rfl, rfl, rfl, hbi⟩ := hrel
          have hkd : (k : Int) < (d : Int) := by omega
          have hki0 : (0 : Int) ≤ (k : Int) := by omega
          have hkl := M.kid_lt Ht.out Hd.out (i := k) (by omega)
          have hok := Lib.hid (M.tree_ok Ht.out hkl)
          have hkj := M.kid_le (xs := xs) (v := a) hk
          have hHp1 := Hp1.out
          obtain ⟨C, hC⟩ : ∃ C, Hid (M.kidAt xs a k = C) := ⟨_, rfl⟩
          obtain ⟨E, hE⟩ : ∃ E, Hid (M.kidAt xs a (k + 1) = E) := ⟨_, rfl⟩
          have hCE : Hid (C + M.span 1 (xs.drop C) = E) := by show _ = _; rw [← hE.out, ← hC.out]; rfl
          rw [hC.out] at hkl hok hkj
          have hE24 : E ≤ 24 := by have := M.end_le (xs := xs) (v := C) (by omega); have := hCE.out; omega
          have hvC : (C : Int) ≤ (v : Int) := by omega
          have hat : Hid ((M.childs xs a d)[k]? = some (C : Int)) := by show _ = _; rw [M.childs_at xs a (by omega), hC.out]
          have g := (own64_cell ((ht2.out.2.1)) (M.childs_length xs a d) hat.out).1
          have hgB := (own64_cell ((ht2.out.2.1)) (M.childs_length xs a d) hat.out).2.2.2
          have hgi : Hid (wr.cell? ⟨g3, k, none⟩ = some (.int .i64 (C : Int))) := (hbi.out.cell (p := ⟨g3, k, none⟩) hgB).trans g
          have hgl : g3 < wr.heap.size := Nat.lt_of_lt_of_le hgB hbi.out.size
          have hcr := cell_be Hcr2.out hbi.out
          have hi1 := Lib.hid (h1.out.be (btr hbr2.out hbi.out))
          have HE : Hid (∀ W, Hid (Below wr.heap.size wr W) → Calls Try.prog 98 #[.agg #[.slice A xs.length c], .int .i64 (C : Int)] W fun e w' => e = .returned (.int .i64 (E : Int)) ∧ Hid (Below wr.heap.size wr w')) := fun W hW =>
            (l01End A xs c C E W hCE hlen hok (hi1.out.be hW.out)).mono fun e w' ⟨he, hb⟩ => ⟨he, btr hW.out hb⟩
          have HK : Hid (∀ W, Hid (Below wr.heap.size wr W) → W.cell? ⟨g3, k, none⟩ = some (.int .i64 (C : Int)) ∧ W.cell? ⟨w.heap.size, 0, none⟩ = some (.slice A xs.length c)) := fun W hW =>
            ⟨(hW.out.cell (p := ⟨g3, k, none⟩) hgl).trans hgi.out, cell_be hcr hW.out⟩
          have hK0 : Hid (Below wr.heap.size wr wr.drew) := (Below.refl _ _).drew
          have g0 : wr.drew.cell? ⟨g3, k, none⟩ = some (.int .i64 (C : Int)) := hgi.out
          have hcr0 : wr.drew.cell? ⟨w.heap.size, 0, none⟩ = some (.slice A xs.length c) := hcr
          clear hkl hkj hHp1 g hgB hcr
          rcases Nat.lt_or_ge k j with hkj2 | hkj2
          · have hEv := M.kid_le (xs := xs) (v := a) (i := k + 1) (j := j) (by omega)
            rw [hE.out] at hEv
            have hvE : ¬ (v : Int) < (E : Int) := by have := Hp1.out; omega
            clear hEv
            go_wp2
            go_region_held3 (fun w' => w'.cell? ⟨g3, k, none⟩ = some (.int .i64 (C : Int)) ∧ w'.cell? ⟨w.heap.size, 0, none⟩ = some (.slice A xs.length c) ∧ Hid (Below wr.heap.size wr w')) (first | exact ⟨g0, hcr0, hK0⟩ | exact ⟨(HK.out _ (by assumption)).1, (HK.out _ (by assumption)).2, by assumption⟩) (first | (go_at_call 98; refine (HE.out _ (by assumption)).mono ?_; rintro e w7 ⟨rfl, hb7⟩))
            have hbw : Hid (Below w2.heap.size w2 w7) := btr hbi.out hb7.out
            go_wp2
            go_roundw
            case rel => exact ⟨k + 1, by omega, rfl, rfl, by go_num, hbw⟩
            case measure => simp [intOf]; omega
          · obtain rfl : k = j := by omega
            have hvE : (v : Int) < (E : Int) := by have := Hp2.out; rw [hE.out] at this; omega
            have ha2 : Hid (a2 = C) := by show _ = _; rw [hnxe.out, hC.out]
            go_wp2
            go_region_held3 (fun w' => w'.cell? ⟨g3, k, none⟩ = some (.int .i64 (C : Int)) ∧ w'.cell? ⟨w.heap.size, 0, none⟩ = some (.slice A xs.length c) ∧ Hid (Below wr.heap.size wr w')) (first | exact ⟨g0, hcr0, hK0⟩ | exact ⟨(HK.out _ (by assumption)).1, (HK.out _ (by assumption)).2, by assumption⟩) (first | (go_at_call 98; refine (HE.out _ (by assumption)).mono ?_; rintro e w7 ⟨rfl, hb7⟩))
            have hbw : Hid (Below w2.heap.size w2 w7) := btr hbi.out hb7.out
            have ht7 : Hid (Two w7 w1.heap.size (.slice A' n c') (.slice (some ⟨g3, 0, none⟩) d c3) pre (M.childs xs a d)) := ⟨own_be ht2.out.1 hbw.out, own_be ht2.out.2.1 hbw.out, ht2.out.2.2⟩
            have hb17 := Lib.hid (btr hbr2.out hbw.out)
            have z7 := hb17.out.size
            go_wp2_with (at_builtin; refine pushTwo rfl (.tmp 47) (.tmp 49) rfl w7 w1.heap.size A' n c' (.slice (some ⟨g3, 0, none⟩) d c3) pre (M.childs xs a d) (k : Int) rfl w7.heap.size rfl rfl ht7 z7 hn6 ?_; intro A4 c4 w4 ht4 hb4; have g4 := (own64_cell ht4.out.2.1 (M.childs_length xs a d) hat.out).1)
            go_roundw
            case rel => exact ⟨a2, pre ++ [(k : Int)], A4, n + 1, c4, rfl, by rw [ha2.out], hst, ht4.out.1, hb17.out.trans hb4.out⟩
            case measure => simp [intOf]; have := ha2.out; omega
  · have hF : F_AddressOf xs v = ([], r) := by rw [← hr.out]; exact if_neg (by rw [hr.out]; exact h0)
    rw [hF]
    have hq : (r != 0) = true := by simp [h0]
    clear hF h0
    go_enter Try.func26, Try.ntmps26
    go_wp2_with fail
    refine HC.out.mono ?_
    rintro e w1 ⟨rfl, hb⟩
    have hB := btr (bal (bal (b0 w) _) _) hb
    go_wp2
    go_ret2
    exact ⟨none, 0, rfl, own64_nil _ _, hB⟩
end Go.Proofs.Ytdaghbfejcjknaa
