/- The model's table of what is known of the most pairs: places, memory, and its making. -/
import Derived.Test.YtgcabcmnhdaepaaSpFirsts
import Derived.Deep.DeepCutAuto
namespace Go.Proofs.Ytgcabcmnhdaepaa
open Go.RowKit

theorem cellB {W w1 : World} (hb : Below W.heap.size W w1) {b o : Nat} {v : Value} (h : W.cell? ⟨b, o, none⟩ = some v) : w1.cell? ⟨b, o, none⟩ = some v := ((bcell hb).1 _ _ (World.block_lt_of_cell? _ _ h)).trans h

namespace M
theorem mix {x x' d d' m : Nat} (h : x * m + d = x' * m + d') (hd : d < m) (hd' : d' < m) : x = x' ∧ d = d' := by
  have e : ∀ y f : Nat, f < m → (y * m + f) / m = y := fun y f hf => by rw [Nat.add_comm, Nat.add_mul_div_right _ _ (by omega), Nat.div_eq_of_lt hf, Nat.zero_add]
  have e1 := e x d hd
  have e2 := e x' d' hd'
  rw [h, e2] at e1
  subst e1
  exact ⟨rfl, by omega⟩
theorem mix_lt {x X d m : Nat} (hx : x < X) (hd : d < m) : x * m + d < X * m := by
  have h : (x + 1) * m ≤ X * m := Nat.mul_le_mul_right m hx
  rw [Nat.add_mul, Nat.one_mul] at h
  omega
/-- the place of what is known of a to b and c to d -/
def enc (n m a b c d : Nat) : Nat := ((a * n + b) * m + c) * m + d
theorem enc_inj {n m a b c d a' b' c' d' : Nat} (h : enc n m a b c d = enc n m a' b' c' d') (hb : b < n) (hb' : b' < n) (hc : c < m) (hc' : c' < m) (hd : d < m) (hd' : d' < m) : a = a' ∧ b = b' ∧ c = c' ∧ d = d' := by
  obtain ⟨h1, e4⟩ := mix h hd hd'
  obtain ⟨h2, e3⟩ := mix h1 hc hc'
  obtain ⟨e1, e2⟩ := mix h2 hb hb'
  exact ⟨e1, e2, e3, e4⟩
theorem enc_lt {n m a b c d : Nat} (ha : a < n) (hb : b < n) (hc : c < m) (hd : d < m) : enc n m a b c d < n * n * m * m := mix_lt (mix_lt (mix_lt ha hb) hc) hd
theorem cells_le {n m : Nat} (hn : n ≤ 25) (hm : m ≤ 25) : n * n ≤ 625 ∧ n * n * m ≤ 15625 ∧ n * n * m * m ≤ 390625 := by
  have h1 := Nat.mul_le_mul hn hn
  have h2 := Nat.mul_le_mul h1 hm
  have h3 := Nat.mul_le_mul h2 hm
  omega
end M

/-- block g holds what is known: each number of it is below 0, or what L says -/
def KTab (w : World) (g n m : Nat) (L : Nat → Nat → Nat → Nat → Nat) : Prop := ∀ a b c d, a < n → b < n → c < m → d < m → ∃ v : Int, w.cell? ⟨g, M.enc n m a b c d, none⟩ = some (.int .i8 v) ∧ w.frozen? ⟨g, M.enc n m a b c d, none⟩ = false ∧ (0 ≤ v → v = (L a b c d : Int)) ∧ -128 ≤ v ∧ v ≤ 127
theorem KTab.kept {w w' : World} {g n m : Nat} {L : Nat → Nat → Nat → Nat → Nat} (h : KTab w g n m L) (hg : ∀ o, w'.cell? ⟨g, o, none⟩ = w.cell? ⟨g, o, none⟩ ∧ w'.frozen? ⟨g, o, none⟩ = w.frozen? ⟨g, o, none⟩) : KTab w' g n m L := fun a b c d ha hb hc hd => by
  obtain ⟨v, h1, h2, h3⟩ := h a b c d ha hb hc hd
  exact ⟨v, (hg _).1.trans h1, (hg _).2.trans h2, h3⟩
theorem KTab.be {w w' : World} {g n m : Nat} {L : Nat → Nat → Nat → Nat → Nat} (h : KTab w g n m L) (hl : g < w.heap.size) (hb : Below w.heap.size w w') : KTab w' g n m L := h.kept fun _ => ⟨(bcell hb).1 _ _ hl, (bcell hb).2 _ _ hl⟩
theorem KTab.set {w : World} {g n m a b c d : Nat} {L : Nat → Nat → Nat → Nat → Nat} (h : KTab w g n m L) (ha : a < n) (hb : b < n) (hc : c < m) (hd : d < m) (hL : L a b c d ≤ 100) : KTab (w.setCell ⟨g, M.enc n m a b c d, none⟩ (.int .i8 (L a b c d : Int))) g n m L := fun a' b' c' d' ha' hb' hc' hd' => by
  obtain ⟨v, h1, h2, h3⟩ := h a' b' c' d' ha' hb' hc' hd'
  by_cases he : M.enc n m a' b' c' d' = M.enc n m a b c d
  · obtain ⟨rfl, rfl, rfl, rfl⟩ := M.enc_inj he hb' hb hc' hc hd' hd
    exact ⟨(L a' b' c' d' : Int), by simp [go_sem, h1], by simp [go_sem, h2], fun _ => rfl, by omega, by omega⟩
  · refine ⟨v, ?_, ?_, h3⟩
    · exact (World.cell?_setCell_other _ _ _ _ (by intro e; injection e with _ e; exact he e.symm)).trans h1
    · simp [go_sem, h2]

theorem info8 : (Try.prog.info? 176).map (fun i => (i.zero, i.size, i.bytes)) = some (some (.int .i8 0), 1, 1) := by kernel_rfl
/-- the slice value v owns a row of bytes with signs that reads zs -/
abbrev Own8 (w : World) (B : Nat) (v : Value) (zs : List Int) : Prop := w.ownsRow B 176 1 v zs.length (zs.map (Value.int .i8))
theorem own8_made {w : World} {B n : Nat} (hB : B ≤ w.heap.size) (hn : n ≤ maxLen) :
    Own8 (w.alloc (.cells (madeCells #[.int .i8 0] n) 176)) B (.slice (some ⟨w.heap.size, 0, none⟩) n n) (List.replicate n 0) := by
  have h := World.ownsRow_lit (e := 176) (size := 1) w (madeCells #[.int .i8 0] n) n hB hn (by simp [size_madeCells])
  rw [toList_madeCells_one] at h
  simpa [Own8] using h
theorem own8_set {w : World} {B g n c : Nat} {zs : List Int} (h : Own8 w B (.slice (some ⟨g, 0, none⟩) n c) zs) (hn : zs.length = n) (k : Nat) (x : Int) :
    Own8 (w.setCell ⟨g, k, none⟩ (.int .i8 x)) B (.slice (some ⟨g, 0, none⟩) n c) (zs.set k x) := by
  subst hn
  have := (World.ownsRow.stored h k (.int .i8 x)).1
  simpa [Own8, List.map_set] using this
theorem own8_cell {w : World} {B g n c : Nat} {zs : List Int} (h : Own8 w B (.slice (some ⟨g, 0, none⟩) n c) zs) (hn : zs.length = n) {k : Nat} {x : Int} (hx : zs[k]? = some x) :
    w.cell? ⟨g, k, none⟩ = some (.int .i8 x) ∧ w.frozen? ⟨g, k, none⟩ = false ∧ B ≤ g ∧ g < w.heap.size := by
  subst hn
  have hk : k < zs.length := (List.getElem?_eq_some_iff.1 hx).1
  have hl := World.ownsRow.lt h g rfl
  exact ⟨(World.ownsRow.cellAt h k (by omega)).trans (by simp [hx]), World.ownsRow.frozenAt h k, hl.1, hl.2⟩

theorem ktab_of {w : World} {B g N n m : Nat} {zs : List Int} (L : Nat → Nat → Nat → Nat → Nat) (h : Own8 w B (.slice (some ⟨g, 0, none⟩) N N) zs) (hN : zs.length = N) (he : N = n * n * m * m) (hz : ∀ j, j < N → zs[j]? = some (-1)) : KTab w g n m L := fun a b c d ha hb hc hd => by
  have hl := M.enc_lt (n := n) (m := m) ha hb hc hd
  obtain ⟨h1, h2, _⟩ := own8_cell h hN (hz _ (by rw [he]; exact hl))
  exact ⟨-1, h1, h2, fun e => by omega, by omega, by omega⟩

set_option maxHeartbeats 4000000 in
set_option maxRecDepth 100000 in
theorem l07New (A A2 : Option Addr) (k1 k2 c c2 : Nat) (L : Nat → Nat → Nat → Nat → Nat) (w : World) (h1 : k1 ≤ 24) (h2 : k2 ≤ 24) :
    Calls Try.prog 139 #[.agg #[.slice A k1 c], .agg #[.slice A2 k2 c2]] w fun e w' => ∃ g N, e = .returned (.agg #[.slice A k1 c, .slice A2 k2 c2, .slice (some ⟨g, 0, none⟩) N N]) ∧ Hid (N = (k1 + 1) * (k1 + 1) * (k2 + 1) * (k2 + 1)) ∧ Hid (KTab w' g (k1 + 1) (k2 + 1) L) ∧ Hid (w.heap.size ≤ g) ∧ Hid (g < w'.heap.size) ∧ Hid (Below w.heap.size w w') := by
  obtain ⟨W, hW⟩ : ∃ W, W = ((w.alloc (.cells #[.slice A k1 c] 44)).alloc (.cells #[.slice A2 k2 c2] 44)).alloc (.cells #[.slice none 0 0, .slice none 0 0, .slice none 0 0] 149) := ⟨_, rfl⟩
  have hBW : Hid (Below w.heap.size w W) := by subst hW; exact bal (bal (bal (b0 w) _) _) _
  have C1 : W.cell? ⟨w.heap.size, 0, none⟩ = some (.slice A k1 c) := by subst hW; simp [go_sem]
  have C2 : W.cell? ⟨w.heap.size + 1, 0, none⟩ = some (.slice A2 k2 c2) := by subst hW; simp [go_sem]
  have HS : Hid (∀ w', Hid (Below W.heap.size W w') → w'.cell? ⟨w.heap.size, 0, none⟩ = some (.slice A k1 c) ∧ w'.cell? ⟨w.heap.size + 1, 0, none⟩ = some (.slice A2 k2 c2)) := fun w' hb => ⟨cellB hb.out C1, cellB hb.out C2⟩
  have hres : Hid (W.heap[w.heap.size + 1 + 1]? = some (.cells #[.slice none 0 0, .slice none 0 0, .slice none 0 0] 149 (0, 0))) := by
    subst hW
    have h1 := World.alloc_heap_new ((w.alloc (.cells #[.slice A k1 c] 44)).alloc (.cells #[.slice A2 k2 c2] 44)) (.cells #[.slice none 0 0, .slice none 0 0, .slice none 0 0] 149)
    rw [World.size_alloc, World.size_alloc] at h1
    exact h1
  have zW : Hid (w.heap.size + 1 + 1 < W.heap.size) := lt_of_block hres.out
  have HN : Hid (∀ (A' : Option Addr) (n c : Nat) w', Hid (Below W.heap.size W w') → Calls Try.prog 93 #[.agg #[.slice A' n c]] w' fun e w'' => e = .returned (.int .i64 n) ∧ Hid (Below W.heap.size W w'')) := fun A' n c w' hb => (l01N A' n c w').mono fun e w'' ⟨he, hb2⟩ => ⟨he, btr hb.out hb2⟩
  obtain ⟨x1, hx1⟩ : ∃ x1, Hid ((k1 + 1) * (k1 + 1) = x1) := ⟨_, rfl⟩
  obtain ⟨x2, hx2⟩ : ∃ x2, Hid (x1 * (k2 + 1) = x2) := ⟨_, rfl⟩
  obtain ⟨N, hN⟩ : ∃ N, Hid (x2 * (k2 + 1) = N) := ⟨_, rfl⟩
  have hle := M.cells_le (n := k1 + 1) (m := k2 + 1) (by omega) (by omega)
  rw [hx1.out, hx2.out, hN.out] at hle
  obtain ⟨hle1, hle2, hle3⟩ := hle
  have hNe : Hid (N = (k1 + 1) * (k1 + 1) * (k2 + 1) * (k2 + 1)) := by show _ = _; rw [hx1.out, hx2.out, hN.out]
  have ea1 : IntKind.i64.wrap ((k1 : Int) + 1) = (k1 : Int) + 1 := IntWalk.i64_in _ (by omega)
  have ea2 : IntKind.i64.wrap ((k2 : Int) + 1) = (k2 : Int) + 1 := IntWalk.i64_in _ (by omega)
  have em1 : IntKind.i64.wrap (((k1 : Int) + 1) * ((k1 : Int) + 1)) = (x1 : Int) := by rw [show ((k1 : Int) + 1) * ((k1 : Int) + 1) = (x1 : Int) by rw [← hx1.out]; push_cast; rfl]; exact IntWalk.i64_in _ (by omega)
  have em2 : IntKind.i64.wrap ((x1 : Int) * ((k2 : Int) + 1)) = (x2 : Int) := by rw [show (x1 : Int) * ((k2 : Int) + 1) = (x2 : Int) by rw [← hx2.out]; push_cast; rfl]; exact IntWalk.i64_in _ (by omega)
  have em3 : IntKind.i64.wrap ((x2 : Int) * ((k2 : Int) + 1)) = (N : Int) := by rw [show (x2 : Int) * ((k2 : Int) + 1) = (N : Int) by rw [← hN.out]; push_cast; rfl]; exact IntWalk.i64_in _ (by omega)
  have hmk := run_make_row' (P := Try.prog) 147 176 (.int .i8 0) 1 Try.underlying147 info8 rfl .i64 .i64 N (by omega) (by omega)
  have K0 : Hid (Below W.heap.size W W.drew) := (b0 W).drew
  have HW := Lib.hid hW
  clear hW C1 C2 hx1 hx2 hN
  go_enter Try.func139, Try.ntmps139
  go_wp2
  rw [← HW.out]
  clear HW
  go_cut [5, 6] (fun s5 s6 wx => s5 = .int .i64 ((k1 : Int) + 1) ∧ s6 = .int .i64 ((k2 : Int) + 1) ∧ Hid (Below W.heap.size W wx))
  case first =>
    go_region_held3 (fun w' => w'.cell? ⟨w.heap.size, 0, none⟩ = some (.slice A k1 c) ∧ w'.cell? ⟨w.heap.size + 1, 0, none⟩ = some (.slice A2 k2 c2) ∧ Hid (Below W.heap.size W w')) (first | exact ⟨(HS.out _ K0).1, (HS.out _ K0).2, K0⟩ | exact ⟨(HS.out _ (by assumption)).1, (HS.out _ (by assumption)).2, by assumption⟩) (first | (go_at_call 93; refine (HN.out _ _ _ _ (by assumption)).mono ?_; rintro e wa ⟨rfl, hba⟩))
    all_goals (go_wp2_with fail)
    all_goals (go_meet)
    all_goals exact ⟨rfl, rfl, by assumption⟩
  case rest =>
    obtain ⟨rfl, rfl, hb1⟩ := hcut
    have hb1d : Hid (Below W.heap.size W wc.drew) := hb1.out.drew
    obtain ⟨c1, c2'⟩ := HS.out _ hb1d
    have HK : Hid (∀ w', Below W.heap.size W w' → w'.cell? ⟨w.heap.size, 0, none⟩ = some (.slice A k1 c) ∧ w'.cell? ⟨w.heap.size + 1, 0, none⟩ = some (.slice A2 k2 c2) ∧ Hid (Below W.heap.size W w')) := fun w' hb => ⟨(HS.out _ hb).1, (HS.out _ hb).2, hb⟩
    have hz1 := hb1.out.size
    go_wp2
    go_cut [7] (fun s7 wx => ∃ g B : Nat, s7 = .pointer (some ⟨B, 0, none⟩) ∧ Hid (g ≠ B) ∧ Hid (W.heap.size ≤ g) ∧ Hid (W.heap.size ≤ B) ∧ Hid (B < wx.heap.size) ∧ Hid (wx.cell? ⟨B, 0, none⟩ = some (.slice A k1 c) ∧ wx.cell? ⟨B, 1, none⟩ = some (.slice A2 k2 c2) ∧ wx.cell? ⟨B, 2, none⟩ = some (.slice (some ⟨g, 0, none⟩) N N)) ∧ Hid (Own8 wx W.heap.size (.slice (some ⟨g, 0, none⟩) N N) (List.replicate N 0)) ∧ Hid (Below W.heap.size W wx))
    case first =>
      go_region_held3 (fun w' => w'.cell? ⟨w.heap.size, 0, none⟩ = some (.slice A k1 c) ∧ w'.cell? ⟨w.heap.size + 1, 0, none⟩ = some (.slice A2 k2 c2) ∧ Hid (Below W.heap.size W w')) (first | exact HK.out _ hb1d.out | exact HK.out _ (bal hb1.out _).drew | exact HK.out _ (bal (bal hb1.out _) _).drew) (first | fail)
      · go_wp2_with fail
        go_meet
        refine ⟨wc.heap.size, wc.heap.size + 1, rfl, (show wc.heap.size ≠ wc.heap.size + 1 by omega), hz1, (show W.heap.size ≤ wc.heap.size + 1 by omega), (show wc.heap.size + 1 < _ by simp), ⟨by simp [go_sem], by simp [go_sem], by simp [go_sem]⟩, ?_, (bal (bal hb1.out _) _).drew⟩
        have h8 := own8_made (w := wc) (B := W.heap.size) (n := N) hz1 (by unfold maxLen; omega)
        exact h8.alloc _
      · go_wp2_with fail
        go_meet
        refine ⟨wc.heap.size + 1, wc.heap.size, rfl, (show wc.heap.size + 1 ≠ wc.heap.size by omega), (show W.heap.size ≤ wc.heap.size + 1 by omega), hz1, (show wc.heap.size < _ by simp; omega), ⟨by simp [go_sem], by simp [go_sem], by simp [go_sem]⟩, ?_, (bal (bal hb1.out _) _).drew⟩
        have h8 := own8_made (w := wc.alloc (.cells #[.slice A k1 c, .slice A2 k2 c2, .slice (some ⟨wc.heap.size + 1, 0, none⟩) N N] 149)) (B := W.heap.size) (n := N) (by simp; omega) (by unfold maxLen; omega)
        rw [World.size_alloc] at h8
        exact h8
    case rest =>
      obtain ⟨g, B, rfl, hgB, hg, hB, hBl, hcl, ho, hb2⟩ := hcut
      obtain ⟨d0, d1, d2⟩ := hcl.out
      have hgB' := hgB.out
      have hg' := hg.out
      clear hmk
      go_wp2
      go_loopw [29] (fun i wr => ∃ (k : Nat) (zs : List Int), k ≤ N ∧ i = .int .i64 (k : Int) ∧ Hid (zs.length = N) ∧ Hid (∀ j, j < k → zs[j]? = some (-1)) ∧ Hid (Own8 wr W.heap.size (.slice (some ⟨g, 0, none⟩) N N) zs) ∧ Hid (wr.cell? ⟨B, 0, none⟩ = some (.slice A k1 c) ∧ wr.cell? ⟨B, 1, none⟩ = some (.slice A2 k2 c2) ∧ wr.cell? ⟨B, 2, none⟩ = some (.slice (some ⟨g, 0, none⟩) N N)) ∧ Hid (Below W.heap.size W wr)) (fun i _ => N - (intOf i).toNat)
      case atStart => exact ⟨0, List.replicate N 0, Nat.zero_le _, rfl, (show _ = _ by simp), fun j hj => by omega, ho, hcl, hb2⟩
      case round =>
        obtain ⟨k, zs, hk, rfl, hzl, hz, ho3, hcl3, hb3⟩ := hrel
        clear d0 d1 d2 ho hcl hb2
        obtain ⟨d0, d1, d2⟩ := hcl3.out
        by_cases hlt : k < N
        · have hlt2 : (k : Int) < (N : Int) := by omega
          have hk0 : (0 : Int) ≤ (k : Int) := by omega
          obtain ⟨x, hzk⟩ : ∃ x, zs[k]? = some x := ⟨_, List.getElem?_eq_getElem (by rw [hzl.out]; exact hlt)⟩
          obtain ⟨e1, e2, e3, e4⟩ := own8_cell ho3.out hzl.out hzk
          have ho4 := Lib.hid (own8_set ho3.out hzl.out k (-1))
          have hz4 : Hid (∀ j, j < k + 1 → (zs.set k (-1))[j]? = some (-1)) := fun j hj => by
            by_cases e : j = k
            · subst e
              rw [List.getElem?_set_self (by rw [hzl.out]; exact hlt)]
            · rw [List.getElem?_set_ne (by omega)]
              exact hz.out j (by omega)
          have hcl4 : Hid ((wr.setCell ⟨g, k, none⟩ (.int .i8 (-1))).cell? ⟨B, 0, none⟩ = some (.slice A k1 c) ∧ (wr.setCell ⟨g, k, none⟩ (.int .i8 (-1))).cell? ⟨B, 1, none⟩ = some (.slice A2 k2 c2) ∧ (wr.setCell ⟨g, k, none⟩ (.int .i8 (-1))).cell? ⟨B, 2, none⟩ = some (.slice (some ⟨g, 0, none⟩) N N)) :=
            ⟨(World.cell?_setCell_far _ _ _ _ (show g ≠ B from hgB')).trans d0, (World.cell?_setCell_far _ _ _ _ (show g ≠ B from hgB')).trans d1, (World.cell?_setCell_far _ _ _ _ (show g ≠ B from hgB')).trans d2⟩
          have hbW := Lib.hid (below_setCell hb3.out (g := g) (k := k) hg' (.int .i8 (-1)))
          have hzl4 : Hid ((zs.set k (-1)).length = N) := by show _ = _; rw [List.length_set]; exact hzl.out
          clear hzk hz ho3
          go_wp2
          go_roundw
          case rel => exact ⟨k + 1, zs.set k (-1), by omega, by go_num, hzl4, hz4, ho4, hcl4, hbW⟩
          case measure => simp [intOf]; omega
        · obtain rfl : k = N := by omega
          have hge : ¬ (k : Int) < (k : Int) := by omega
          have hKT := Lib.hid (ktab_of L ho3.out hzl.out hNe.out hz.out)
          have hgl : g < wr.heap.size := (ho3.out.lt g rfl).2
          have hr8 : wr.heap[w.heap.size + 1 + 1]? = some (.cells #[.slice none 0 0, .slice none 0 0, .slice none 0 0] 149 (0, 0)) := (hb3.out.block _ zW.out).trans hres.out
          have hsz := hBW.out.size
          have zz := zW.out
          have r0 : wr.cell? ⟨w.heap.size + 1 + 1, 0, none⟩ = some (.slice none 0 0) := by simp [World.cell?, hr8]
          have r1 : wr.cell? ⟨w.heap.size + 1 + 1, 1, none⟩ = some (.slice none 0 0) := by simp [World.cell?, hr8]
          have r2 : wr.cell? ⟨w.heap.size + 1 + 1, 2, none⟩ = some (.slice none 0 0) := by simp [World.cell?, hr8]
          have f0 : wr.frozen? ⟨w.heap.size + 1 + 1, 0, none⟩ = false := by simp [World.frozen?, hr8]
          have f1 : wr.frozen? ⟨w.heap.size + 1 + 1, 1, none⟩ = false := by simp [World.frozen?, hr8]
          have f2 : wr.frozen? ⟨w.heap.size + 1 + 1, 2, none⟩ = false := by simp [World.frozen?, hr8]
          have Hr8 := Lib.hid hr8
          clear hr8 hz ho3
          go_wp2
          refine bodyPost_ret (v := .agg #[.slice A k1 c, .slice A2 k2 c2, .slice (some ⟨g, 0, none⟩) k k]) (by simp [results, Try.results139, go_sem, r0, r1, r2]) rfl ?_
          refine ⟨g, k, rfl, hNe, ?_, (show w.heap.size ≤ g by omega), (show g < _ by simpa [go_sem] using hgl), below_setCell (below_setCell (below_setCell (btr hBW.out hb3.out) (by omega) _) (by omega) _) (by omega) _⟩
          exact hKT.out.kept fun _ => ⟨by rw [World.cell?_setCell_far _ _ _ _ (show w.heap.size + 1 + 1 ≠ g by omega), World.cell?_setCell_far _ _ _ _ (show w.heap.size + 1 + 1 ≠ g by omega), World.cell?_setCell_far _ _ _ _ (show w.heap.size + 1 + 1 ≠ g by omega)], by simp [go_sem]⟩
end Go.Proofs.Ytgcabcmnhdaepaa
