/- l02Tree: the model's tree of a rank, or nothing. -/
import Derived.Test.YtimjcdjeeocffaaUnrank
import Derived.Test.YtimjcdjeeocffaaTable
import Derived.Test.YtimjcdjeeocffaaPush
namespace Go.Proofs.Ytimjcdjeeocffaa
open Go.RowKit

set_option maxHeartbeats 4000000 in
set_option maxRecDepth 100000 in
theorem l02Tree (n r : Nat) (w : World) (hn1 : 1 ≤ n) (hn : n ≤ 24) (_ : (r : Int) ≤ 9223372036854775807) :
    Calls Try.prog 166 #[.int .i64 (n : Int), .int .i64 (r : Int)] w fun e w' => ∃ A' c', e = .returned (.tuple #[.agg #[.slice A' (M.unTree n r).length c'], .bool (decide (r < M.L n 1))]) ∧ Own64 w' w.heap.size (.slice A' (M.unTree n r).length c') (M.unTree n r) ∧ Below w.heap.size w w' := by
  have hLn := M.L_24 (n := n) (t := 1) hn
  have HT := Lib.hid (l02Table n (w.alloc (.cells #[.slice none 0 0] 26)) hn)
  rw [World.size_alloc] at HT
  obtain ⟨Ln, hLe⟩ : ∃ Ln, Hid (M.L n 1 = Ln) := ⟨_, rfl⟩
  have hUn : Hid (M.unTree n r = if r < Ln then M.unrank n 1 r else []) := by show _ = _; rw [M.unTree, hLe.out]
  rw [hLe.out] at hLn ⊢
  by_cases hlt : r < Ln
  · have hUe : M.unTree n r = M.unrank n 1 r := hUn.out.trans (if_pos hlt)
    have hU := Lib.hid (M.un_start (n := n) (r := r) (by rw [hLe.out]; exact hlt))
    have hUl : Hid ((M.unrank n 1 r).length = n) := M.unrank_len _ _ _
    have hge : ¬ (Ln : Int) ≤ (r : Int) := by omega
    rw [hUe, hUl.out, decide_eq_true hlt]
    generalize M.unrank n 1 r = U at *
    clear hUe hUn
    go_enter Try.func166, Try.ntmps166
    go_wp2_with fail
    refine HT.out.mono ?_
    rintro e w2 ⟨A2, c2, rfl, hG, hb⟩
    have hB : Hid (Below (w.heap.size + 1) (w.alloc (.cells #[.slice none 0 0] 26)) w2) := hb
    have hz2 : w.heap.size + 1 ≤ w2.heap.size := by have := hB.out.size; simpa using this
    obtain ⟨_, G, rfl⟩ := hG.out.shape1 (by omega)
    have hst : Hid (Own64 (w2.alloc (.cells #[] 2)) w2.heap.size (.slice (some ⟨w2.heap.size, 0, none⟩) 0 0) []) := own64_empty (Nat.le_refl _)
    have hb2 : Hid (Below w2.heap.size w2 (w2.alloc (.cells #[] 2))) := bal (b0 w2) _
    obtain ⟨g0, k1, k2⟩ := (hG.out.be (bal (b0 w2) (.cells #[] 2))).at_ (l := n) (by omega)
    have k3 := k2 1 _ (M.rowF_at (n := n) (l := n) (o := 1) hn1)
    rw [hLe.out] at k3
    clear k2 hb HT
    go_wp2
    simp only [show decide (Ln ≤ r) = false from decide_eq_false (by omega)]
    clear k1 k3
    go_loopw [1, 7, 8, 9, 10] (fun s1 s7 s8 i _ wr => ∃ (v o q : Nat) (pre : List Int) (A' : Option Addr) (c' : Nat), v ≤ n ∧ i = .int .i64 (v : Int) ∧ s1 = .int .i64 (q : Int) ∧ s7 = .int .i64 (o : Int) ∧ s8 = .slice A' v c' ∧ (q : Int) ≤ (r : Int) ∧ Hid (M.UnAt n U v o q pre) ∧ Hid (Own64 wr w2.heap.size (.slice A' v c') pre) ∧ Hid (Below w2.heap.size w2 wr)) (fun _ _ _ i _ _ => n - (intOf i).toNat)
    case atStart => exact ⟨0, 1, r, [], _, 0, Nat.zero_le _, rfl, rfl, rfl, rfl, Int.le_refl _, hU, hst, hb2⟩
    case round =>
      obtain ⟨v, o, q, pre, A', c', hv, rfl, rfl, rfl, rfl, hqr, hu, hro, hbr⟩ := hrel
      clear hst hb2 hU
      have hzr := hbr.out.size
      by_cases hvn : v < n
      · have hvn2 : (v : Int) < (n : Int) := by omega
        have hop := M.un_open hu.out hvn
        obtain ⟨l, hl⟩ : ∃ l, Hid (n - v - 1 = l) := ⟨_, rfl⟩
        obtain ⟨p, hp⟩ : ∃ p, Hid (o - 1 = p) := ⟨_, rfl⟩
        have hl2 : (n : Int) - (v : Int) - 1 = (l : Int) := by have := hl.out; omega
        have hp2 : (o : Int) - 1 = (p : Int) := by have := hp.out; omega
        have hpl : p ≤ l := by have := hl.out; have := hp.out; omega
        have hl23 : l ≤ 23 := by have := hl.out; omega
        have hln : l < n := by have := hl.out; omega
        have hli : (l : Int) < (n : Int) + 1 := by omega
        have hQ : Hid (q < M.L (l + 1) (p + 1)) := by
          show _ < _
          have h3 := hu.out.2.2
          have e1 : n - v = l + 1 := by have := hl.out; omega
          have e2 : o = p + 1 := by have := hp.out; omega
          rw [e1, e2] at h3
          exact h3
        obtain ⟨g', k1, k2⟩ := (hG.out.be hbr.out).at_ (l := l) (by omega)
        have K2 := Lib.hid k2
        have hqn : (q : Int) ≤ 281474976710656 := by omega
        clear hop k2
        go_wp2_with fail
        go_loop [1, 10] (fun s1 s10 => ∃ (d k : Nat), s1 = .int .i64 (k : Int) ∧ s10 = .int .i64 (d : Int) ∧ d ≤ l - p ∧ Hid (M.DigAt l p q d k)) (fun _ s10 => 60 - (intOf s10).toNat)
        case atStart => exact ⟨0, q, rfl, rfl, Nat.zero_le _, M.dig_start _ _ _⟩
        case round =>
          obtain ⟨d, k, rfl, rfl, hd, hD⟩ := hrel
          have hDs := hD.out.2
          have hkq : k ≤ q := by omega
          have hd23 : d ≤ 23 := by omega
          have hLl := M.L_24 (n := l) (t := p + d) (by omega)
          have k3 := K2.out (p + d) _ (M.rowF_at (n := n) (l := l) (o := p + d) (by omega))
          obtain ⟨z, hz⟩ : ∃ z, Hid (M.L l (p + d) = z) := ⟨_, rfl⟩
          rw [hz.out] at hLl k3
          have hpi : (p : Int) + (d : Int) < (n : Int) + 2 := by omega
          clear hDs
          by_cases hzk : z ≤ k
          · have hD2 : Hid (M.DigAt l p q (d + 1) (k - z)) := by have := M.dig_step (by omega) hD.out (by rw [hz.out]; exact hzk); rw [hz.out] at this; exact this
            have hd2 : d + 1 ≤ l - p := M.dig_le hpl hQ.out hD2.out
            have hge : (z : Int) ≤ (k : Int) := by omega
            go_wp2
            go_round
            case rel => exact ⟨d + 1, k - z, by go_num, by go_num, hd2, hD2⟩
            case measure => simp [intOf]; omega
          · have hst := Lib.hid (M.dig_stop (l := l) (p := p) (R := q) (d := d) (r := k) (by omega) hD.out (by rw [hz.out]; omega))
            have hge : ¬ (z : Int) ≤ (k : Int) := by omega
            have hu2 : Hid (M.UnAt n U (v + 1) (p + d) k (pre ++ [(d : Int)])) := by
              have := M.un_step (d := d) (r' := k) hu.out hvn (by rw [hl.out, hp.out]; exact hst.out) (by rw [hl.out, hp.out, hz.out]; omega)
              rw [hp.out] at this
              exact this
            clear hu
            go_wp2_with (at_builtin; refine push64 rfl (.tmp 60) (.tmp 62) rfl wr w2.heap.size A' v c' pre (d : Int) rfl rfl hro hzr (by omega) ?_; intro A3 c3 w3 ho3 hb3)
            go_roundw
            case rel => exact ⟨v + 1, p + d, k, pre ++ [(d : Int)], A3, c3, by omega, by go_num, rfl, by go_num, rfl, by omega, hu2, ho3, hbr.out.trans hb3.out⟩
            case measure => simp [intOf]; omega
      · obtain rfl : v = n := by omega
        have hge2 : ¬ (v : Int) < (v : Int) := by omega
        have hpre := M.un_end hu.out
        subst hpre
        have hbx : Hid (Below (w.heap.size + 1) (w.alloc (.cells #[.slice none 0 0] 26)) wr) := hB.out.trans (hbr.out.mono hz2)
        have cR : wr.cell? ⟨w.heap.size, 0, none⟩ = some (.slice none 0 0) := (hbx.out.cell (p := ⟨w.heap.size, 0, none⟩) (by simp)).trans (by simp)
        have fR : wr.frozen? ⟨w.heap.size, 0, none⟩ = false := (hbx.out.frozen (p := ⟨w.heap.size, 0, none⟩) (by simp)).trans (by simp)
        have hbF : Hid (Below w.heap.size w wr) := (bal (b0 w) _).trans (hbx.out.mono (by omega))
        clear hu
        go_wp2
        refine bodyPost_ret (v := .tuple #[.agg #[.slice A' v c'], .bool true]) (by simp [results, Try.results166, go_sem, cR]) rfl ?_
        exact ⟨_, _, rfl, own_mono (own_far hro.out (by omega) _) (by omega), below_setCell hbF.out (Nat.le_refl _) _⟩
  · have hUe : M.unTree n r = [] := hUn.out.trans (if_neg hlt)
    have hge : (Ln : Int) ≤ (r : Int) := by omega
    rw [hUe, decide_eq_false hlt]
    clear hUe hUn
    go_enter Try.func166, Try.ntmps166
    go_wp2_with fail
    refine HT.out.mono ?_
    rintro e w2 ⟨A2, c2, rfl, hG, hb⟩
    have hB : Hid (Below (w.heap.size + 1) (w.alloc (.cells #[.slice none 0 0] 26)) w2) := hb
    have hz2 : w.heap.size + 1 ≤ w2.heap.size := by have := hB.out.size; simpa using this
    obtain ⟨_, G, rfl⟩ := hG.out.shape1 (by omega)
    obtain ⟨g0, k1, k2⟩ := (hG.out.be (bal (b0 w2) (.cells #[] 2))).at_ (l := n) (by omega)
    have k3 := k2 1 _ (M.rowF_at (n := n) (l := n) (o := 1) hn1)
    rw [hLe.out] at k3
    have hbx : Hid (Below (w.heap.size + 1) (w.alloc (.cells #[.slice none 0 0] 26)) (w2.alloc (.cells #[] 2))) := hB.out.alloc hz2 _
    have cR : (w2.alloc (.cells #[] 2)).cell? ⟨w.heap.size, 0, none⟩ = some (.slice none 0 0) := (hbx.out.cell (p := ⟨w.heap.size, 0, none⟩) (by simp)).trans (by simp)
    have fR : (w2.alloc (.cells #[] 2)).frozen? ⟨w.heap.size, 0, none⟩ = false := (hbx.out.frozen (p := ⟨w.heap.size, 0, none⟩) (by simp)).trans (by simp)
    have hbF : Hid (Below w.heap.size w (w2.alloc (.cells #[] 2))) := (bal (b0 w) _).trans (hbx.out.mono (by omega))
    clear k2 hb HT
    go_wp2
    refine bodyPost_ret (v := .tuple #[.agg #[.slice none 0 0], .bool false]) (by simp [results, Try.results166, go_sem, cR]) rfl ?_
    exact ⟨none, 0, rfl, own64_nil _ _, below_setCell hbF.out (Nat.le_refl _) _⟩
end Go.Proofs.Ytimjcdjeeocffaa
