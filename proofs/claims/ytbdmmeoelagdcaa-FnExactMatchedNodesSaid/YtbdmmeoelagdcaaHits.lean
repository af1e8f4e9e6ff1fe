/- All nodes at which a pattern matches: matchedIn and the model's loop. -/
import Derived.Test.YtbdmmeoelagdcaaFnMatchesAt
namespace Go.Proofs.Ytbdmmeoelagdcaa
open Go.RowKit

/-- the nodes below k at which a pattern matches -/
def hits (P : List UInt8) (xs : List Int) : Nat → List Int
  | 0 => []
  | k + 1 => hits P xs k ++ (if (atNode P xs k).isSome then [(k : Int)] else [])
theorem hits_len (P : List UInt8) (xs : List Int) : ∀ k, (hits P xs k).length ≤ k := by
  intro k
  induction k with
  | zero => simp [hits]
  | succ k ih => simp only [hits, List.length_append]; split <;> simp <;> omega
theorem hits_hit {P : List UInt8} {xs : List Int} {k : Nat} (h : (atNode P xs k).isSome = true) : hits P xs (k + 1) = hits P xs k ++ [(k : Int)] := by rw [hits, if_pos h]
theorem hits_miss {P : List UInt8} {xs : List Int} {k : Nat} (h : (atNode P xs k).isSome = false) : hits P xs (k + 1) = hits P xs k := by rw [hits, if_neg (by rw [h]; decide), List.append_nil]

set_option maxRecDepth 100000 in
set_option maxHeartbeats 2000000 in
theorem matchedIn (A : Option Addr) (xs : List Int) (c : Nat) (p : ByteArray) (w : World) (ht : Hid (M.isTree xs = true)) (hcl : xs.length ≤ c) (hcu : c ≤ 9223372036854775807) (hp : p.size ≤ 60) (h : Hid (Ints w w.heap.size A xs)) :
    Calls Try.prog 76 #[.slice A xs.length c, .string p] w fun e w' => ∃ A' c', e = .returned (.slice A' (hits p.data.toList xs xs.length).length c') ∧ Hid (Own64 w' w.heap.size (.slice A' (hits p.data.toList xs xs.length).length c') (hits p.data.toList xs xs.length)) ∧ Hid (Below w.heap.size w w') := by
  have hx := Lib.hid (M.tree_len ht.out)
  have hM : Hid (∀ k W, k < xs.length → Below w.heap.size w W → Calls Try.prog 74 #[.slice A xs.length c, .int .i64 (k : Int), .string p] W fun e w' => e = .returned (.bool (atNode p.data.toList xs k).isSome) ∧ Hid (Below W.heap.size W w')) := fun k W hk hb =>
    matchesAt A xs c k p W ht hk hcl hcu hp (Lib.hid (h.out.be hb))
  have hb00 := Lib.hid (b0 w)
  have ho00 := Lib.hid (own64_nil w w.heap.size)
  have hst : Hid (hits p.data.toList xs 0 = []) := rfl
  have hx24 := hx.out.2
  generalize p.data.toList = P at *
  clear h ht
  go_enter Try.func76, Try.ntmps76
  go_wp2
  go_loopw [5, 9] (fun q i wr => ∃ (k : Nat) (A' : Option Addr) (n c' : Nat), k ≤ xs.length ∧ i = .int .i64 k ∧ q = .slice A' n c' ∧ Hid (Own64 wr w.heap.size (.slice A' n c') (hits P xs k)) ∧ Hid (Below w.heap.size w wr)) (fun _ i _ => xs.length - (intOf i).toNat)
  case atStart => exact ⟨0, none, 0, 0, Nat.zero_le _, rfl, rfl, own64_eq ho00.out hst.out.symm, hb00⟩
  case round =>
    obtain ⟨k, A', n, c', hk, rfl, rfl, ho, hbr⟩ := hrel
    have hnr : n ≤ 1000000 := by have h1 := own64_len ho.out; have h2 := hits_len P xs k; omega
    by_cases hlt : k < xs.length
    · have hki : (k : Int) < (xs.length : Int) := by omega
      have hC := Lib.hid (hM.out k wr hlt hbr.out)
      have hB1 := hbr.out.size
      clear hM
      cases hb : (atNode P xs k).isSome
      · have hl := Lib.hid (hits_miss hb)
        rw [hb] at hC
        clear hb
        go_wp2_with (go_at_call 74; refine hC.out.mono ?_; rintro e w2 ⟨rfl, hb2⟩)
        have ho2 := Lib.hid (own64_eq (own_be ho.out hb2.out) hl.out.symm)
        have hb3 := Lib.hid (btr hbr.out hb2.out)
        go_roundw
        case rel => exact ⟨k + 1, A', n, c', by omega, by go_num, rfl, ho2, hb3⟩
        case measure => simp [intOf]; omega
      · have hl := Lib.hid (hits_hit hb)
        rw [hb] at hC
        clear hb
        go_wp2_with fail
        refine hC.out.mono ?_
        rintro e w2 ⟨rfl, hb2⟩
        have ho2 := Lib.hid (own_be ho.out hb2.out)
        have hb3 := Lib.hid (btr hbr.out hb2.out)
        have hB3 := hb3.out.size
        go_wp2_with (at_builtin; refine push64 rfl (.tmp 16) (.tmp 18) rfl w2 w.heap.size A' n c' (hits P xs k) k rfl rfl ho2 hB3 hnr ?_; intro A3 c3 w3 ho3 hb4)
        go_roundw
        case rel => exact ⟨k + 1, A3, _, c3, by omega, by go_num, rfl, own64_eq ho3.out hl.out.symm, hb3.out.trans hb4.out⟩
        case measure => simp [intOf]; omega
    · obtain rfl : k = xs.length := by omega
      have hn := own64_len ho.out
      subst hn
      clear hM
      go_wp2
      go_ret
      exact ⟨A', c', rfl, ho, hbr⟩

set_option maxRecDepth 100000 in
set_option maxHeartbeats 4000000 in
theorem l04Nodes (A : Option Addr) (xs : List Int) (c : Nat) (p : ByteArray) (w : World) (ht : Hid (M.isTree xs = true)) (hcl : xs.length ≤ c) (hpt : Hid (M.isPat p.data.toList = true)) (h : Hid (Ints w w.heap.size A xs)) :
    Calls Try.prog 75 #[.agg #[.slice A xs.length c], .string p] w fun e w' => ∃ A' c', e = .returned (.slice A' (hits p.data.toList xs xs.length).length c') ∧ Hid (Own64 w' w.heap.size (.slice A' (hits p.data.toList xs xs.length).length c') (hits p.data.toList xs xs.length)) ∧ Hid (Below w.heap.size w w') := by
  have hx := Lib.hid (M.tree_len ht.out)
  have hT : Hid (∀ k W, k < xs.length → Below w.heap.size w W → Calls Try.prog 72 #[.agg #[.slice A xs.length c], .int .i64 (k : Int)] W fun e w' => ∃ A' n' c', e = .returned (.agg #[.slice A' n' c']) ∧ Hid (Below W.heap.size W w') ∧
      Hid (∀ W2, Below w'.heap.size w' W2 → Calls Try.prog 71 #[.agg #[.slice A' n' c']] W2 fun e w2 => e = .returned (.string (M.textL 24 (M.sub xs k))) ∧ Hid (Below W2.heap.size W2 w2))) := fun k W hk hb => textAtNode A xs c k W ht hk hcl (Lib.hid (h.out.be hb))
  have hM : Hid (∀ k W, k < xs.length → Calls Try.prog 70 #[.string p, .string (M.textL 24 (M.sub xs k))] W fun e w' => ∃ (A : Option Addr) (n' c : Nat), e = .returned (.tuple #[.slice A n' c, .bool (atNode p.data.toList xs k).isSome]) ∧ Hid (Below W.heap.size W w')) := fun k W hk =>
    (match_at xs k p W ht.out hk hpt.out).mono fun e w' ⟨A, n, c, h1, h2, _⟩ => ⟨A, n, c, h1, h2⟩
  have hb00 := Lib.hid (bal (bal (b0 w) (.cells #[.slice A xs.length c] 29)) (.cells #[] 2))
  have ho00 : Hid (Own64 ((w.alloc (.cells #[.slice A xs.length c] 29)).alloc (.cells #[] 2)) (w.heap.size + 1) (.slice (some ⟨w.heap.size + 1, 0, none⟩) 0 0) (hits p.data.toList xs 0)) := by
    have := own64_empty (w := w.alloc (.cells #[.slice A xs.length c] 29)) (B := w.heap.size + 1) (by simp)
    simpa [Hid, hits] using this
  have hx24 := hx.out.2
  generalize p.data.toList = P at *
  clear h ht hpt
  go_enter Try.func75, Try.ntmps75
  go_wp2
  go_loopw [5, 6] (fun q i wr => ∃ (k : Nat) (A' : Option Addr) (n c' : Nat), k ≤ xs.length ∧ i = .int .i64 k ∧ q = .slice A' n c' ∧ Hid (Own64 wr (w.heap.size + 1) (.slice A' n c') (hits P xs k)) ∧ Hid (Below w.heap.size w wr) ∧ wr.cell? ⟨w.heap.size, 0, none⟩ = some (.slice A xs.length c)) (fun _ i _ => xs.length - (intOf i).toNat)
  case atStart => exact ⟨0, _, 0, 0, Nat.zero_le _, rfl, rfl, ho00, hb00, cell_al (by simp) _⟩
  case round =>
    obtain ⟨k, A', n, c', hk, rfl, rfl, ho, hbr, hcr⟩ := hrel
    clear ho00 hb00
    have hnr : n ≤ 1000000 := by have h1 := own64_len ho.out; have h2 := hits_len P xs k; omega
    by_cases hlt : k < xs.length
    · have hki : (k : Int) < (xs.length : Int) := by omega
      go_wp2_with fail
      refine (l01N A xs.length c _).mono ?_
      rintro e wn ⟨rfl, hb⟩
      have hbn := Lib.hid (btr hbr.out hb)
      have hon := Lib.hid (own_be ho.out hb)
      have hcn := cell_be hcr hb
      clear hb ho hbr hcr
      go_wp2_with fail
      refine (hT.out k _ hlt hbn.out).mono ?_
      rintro e w2 ⟨A2, n2, c2, rfl, hb2, hT2⟩
      have hcn2 := cell_be hcn hb2.out
      go_wp2_with fail
      refine (hT2.out _ (b0 _)).mono ?_
      rintro e w3 ⟨rfl, hb3⟩
      have hcn3 := cell_be hcn2 hb3.out
      have hM4 := Lib.hid (hM.out k w3 hlt)
      have hb5 := Lib.hid (btr hbn.out (btr hb2.out hb3.out))
      have ho5 := Lib.hid (own_be hon.out (btr hb2.out hb3.out))
      clear hb2 hT2 hb3 hon hbn hcn hcn2 hT hM
      cases hb : (atNode P xs k).isSome
      · have hl := Lib.hid (hits_miss hb)
        rw [hb] at hM4
        clear hb
        go_wp2_with fail
        refine hM4.out.mono ?_
        rintro e w4 ⟨A4, n4, c4, rfl, hb4⟩
        have hcn4 := cell_be hcn3 hb4.out
        have ho2 := Lib.hid (own64_eq (own_be ho5.out hb4.out) hl.out.symm)
        have hb6 := Lib.hid (btr hb5.out hb4.out)
        clear hb4 hb5 ho5 hcn3 hM4 hl
        go_wp2
        go_roundw
        case rel => exact ⟨k + 1, A', n, c', by omega, by go_num, rfl, ho2, hb6, hcn4⟩
        case measure => simp [intOf]; omega
      · have hl := Lib.hid (hits_hit hb)
        rw [hb] at hM4
        clear hb
        go_wp2_with fail
        refine hM4.out.mono ?_
        rintro e w4 ⟨A4, n4, c4, rfl, hb4⟩
        have hcn4 := cell_be hcn3 hb4.out
        have ho2 := Lib.hid (own_be ho5.out hb4.out)
        have hb6 := Lib.hid (btr hb5.out hb4.out)
        have hB3 : w.heap.size + 1 ≤ w4.heap.size := World.block_lt_of_cell? _ _ hcn4
        clear hb4 hb5 ho5 hcn3 hM4
        go_wp2_with (at_builtin; refine push64 rfl (.tmp 26) (.tmp 28) rfl w4 (w.heap.size + 1) A' n c' (hits P xs k) k rfl rfl ho2 hB3 hnr ?_; intro A3 c3 w5 ho3 hb7)
        have hcn5 : w5.cell? ⟨w.heap.size, 0, none⟩ = some (.slice A xs.length c) := (hb7.out.cell (p := ⟨w.heap.size, 0, none⟩) (Nat.lt_succ_self _)).trans hcn4
        go_roundw
        case rel => exact ⟨k + 1, A3, _, c3, by omega, by go_num, rfl, own64_eq ho3.out hl.out.symm, hb6.out.trans (hb7.out.mono (Nat.le_succ _)), hcn5⟩
        case measure => simp [intOf]; omega
    · obtain rfl : k = xs.length := by omega
      have hn := own64_len ho.out
      subst hn
      clear hM hT
      go_wp2_with fail
      refine (l01N A xs.length c _).mono ?_
      rintro e wn ⟨rfl, hb⟩
      have hbn := Lib.hid (btr hbr.out hb)
      have hon := Lib.hid (own_be ho.out hb)
      clear hb ho hbr hcr
      go_wp2
      go_ret
      exact ⟨A', c', rfl, Lib.hid (own_mono hon.out (Nat.le_succ _)), hbn⟩
end Go.Proofs.Ytbdmmeoelagdcaa
