/- l05Distances: the model's table of distances. -/
import Derived.Test.YtbnnlifpldgcfaaTab
import Derived.Test.YtbnnlifpldgcfaaLeast
import Derived.Test.YtbnnlifpldgcfaaSpecDepths
import Derived.Test.YtbnnlifpldgcfaaFnMeetOf
import Derived.Test.YtbnnlifpldgcfaaStepPush
import Derived.Deep.RegionHeld3
import Derived.Deep.DeepCutAuto
namespace Go.Proofs.Ytbnnlifpldgcfaa
open Go.RowKit

namespace M
noncomputable def distRows (xs : List Int) (k : Nat) : List (List Int) := (List.range k).map (distRow xs)
theorem distRows_succ (xs : List Int) (k : Nat) : distRows xs (k + 1) = distRows xs k ++ [distRow xs k] := by simp [distRows, List.range_succ]
theorem distRows_len (xs : List Int) (k : Nat) : (distRows xs k).length = k := by simp [distRows]
theorem distRows_at (xs : List Int) {k i : Nat} (h : i < k) : (distRows xs k)[i]? = some (distRow xs i) := by simp [distRows, h]
end M

set_option maxHeartbeats 8000000 in
set_option maxRecDepth 100000 in
theorem l05Distances (A : Option Addr) (xs : List Int) (c : Nat) (w : World) (ht : Hid (M.isTree xs = true)) (h : Hid (Ints w w.heap.size A xs)) :
    Calls Try.prog 73 #[.agg #[.slice A xs.length c]] w fun e w' => ∃ A' c', e = .returned (.slice A' xs.length c') ∧ Hid (Tab w' w.heap.size (.slice A' xs.length c') (M.distRows xs xs.length)) ∧ Hid (Below w.heap.size w w') := by
  have hl := M.tree_len ht.out
  have hE := Lib.hid (M.pars_ex ht.out)
  obtain ⟨n, hn⟩ : ∃ n, Hid (xs.length = n) := ⟨_, rfl⟩
  obtain ⟨W0, hW0⟩ : ∃ W0, w.alloc (.cells #[.slice A xs.length c] 24) = W0 := ⟨_, rfl⟩
  have hB0 : Hid (Below w.heap.size w W0) := by rw [← hW0]; exact bal (b0 w) _
  have hc0 : W0.cell? ⟨w.heap.size, 0, none⟩ = some (.slice A xs.length c) := by rw [← hW0]; simp
  have HW := Lib.hid hW0
  have HM : Hid (∀ (v u R : Nat) (W : World), v < n → u < n → Hid (M.meet xs v u = R) → Below W0.heap.size W0 W → Calls Try.prog 88 #[.agg #[.slice A n c], .int .i64 v, .int .i64 u] W fun e w' => e = .returned (.int .i64 (R : Int)) ∧ Hid (Below W.heap.size W w')) := fun v u R W hv hu hR hW => by
    have := l01Meet A xs c v u R W ht (by rw [hn.out]; exact hv) (by rw [hn.out]; exact hu) hR (h.out.be (btr hB0.out hW))
    rw [hn.out] at this
    exact this
  have HN : Hid (∀ W, Calls Try.prog 69 #[.agg #[.slice A n c]] W fun e w' => e = .returned (.int .i64 (n : Int)) ∧ Hid (Below W.heap.size W w')) := fun W => l01N A n c W
  have HD : Hid (Calls Try.prog 55 #[.agg #[.slice A n c]] W0 fun e w' => ∃ A' c' ds, e = .returned (.slice A' n c') ∧ Hid (M.DepsOK xs ds) ∧ Own64 w' W0.heap.size (.slice A' n c') ds ∧ Below W0.heap.size W0 w') := by
    have := l01Depths A xs c W0 ht (h.out.be hB0.out)
    rw [hn.out] at this
    exact this
  have z0 := hB0.out.size
  rw [hn.out] at hl hc0 HW ⊢
  clear hW0 h
  go_enter Try.func73, Try.ntmps73
  go_wp2_with fail
  rw [HW.out]
  refine HD.out.mono ?_
  rintro e w1 ⟨A7, c7, ds, rfl, hd, hod, hb1⟩
  have hdl : ds.length = n := hd.out.1.trans hn.out
  obtain ⟨gd, rfl⟩ : ∃ g, A7 = some ⟨g, 0, none⟩ := by
    rcases hod.2 with ⟨h0, _⟩ | ⟨g, cap, cur, hv, _⟩
    · injection h0 with _ e _; omega
    · injection hv with e1; exact ⟨g, e1⟩
  have hcA := cell_be hc0 hb1
  have HC : Hid (∀ W', Below w1.heap.size w1 W' → W'.cell? ⟨w.heap.size, 0, none⟩ = some (.slice A n c)) := fun W' hW => cell_be hcA hW
  have Hds : Hid (∀ W' j x, Below w1.heap.size w1 W' → ds[j]? = some x → W'.cell? ⟨gd, j, none⟩ = some (.int .i64 x)) := fun W' j x hW hx => (own64_cell (own_be hod hW) hdl hx).1
  have HB1 := Lib.hid hb1
  have hT0 : Hid (Tab (w1.alloc (.cells #[] 22)) w1.heap.size (.slice (some ⟨w1.heap.size, 0, none⟩) 0 0) (M.distRows xs 0)) := tab_empty (Nat.le_refl _)
  have hb0 : Hid (Below w1.heap.size w1 (w1.alloc (.cells #[] 22))) := bal (b0 w1) _
  clear hc0 hb1 hod HD HW
  go_wp2
  clear hcA
  go_loopw [4, 5, 6, 7] (fun q i _ _ wr => ∃ (v c' : Nat) (A' : Option Addr), v ≤ n ∧ i = .int .i64 v ∧ q = .slice A' v c' ∧ Hid (Tab wr w1.heap.size (.slice A' v c') (M.distRows xs v)) ∧ Hid (Below w1.heap.size w1 wr)) (fun _ i _ _ _ => n - (intOf i).toNat)
  case atStart => exact ⟨0, 0, _, Nat.zero_le _, rfl, rfl, hT0, hb0⟩
  case round =>
    obtain ⟨v, c', A', hv, rfl, rfl, hT, hb⟩ := hrel
    clear hT0 hb0
    have cA := HC.out _ hb.out
    by_cases hlt : v < n
    · go_wp2_with fail
      refine (HN.out _).mono ?_
      rintro e w2 ⟨rfl, hb2⟩
      have hB2 := Lib.hid (btr hb.out hb2.out)
      have hT2 := Lib.hid (hT.out.be hb2.out)
      have hvl : (v : Int) < (n : Int) := by omega
      have hr0 : Hid (Own64 (w2.alloc (.cells #[] 2)) w2.heap.size (.slice (some ⟨w2.heap.size, 0, none⟩) 0 0) (M.rowOf 0 fun u => (M.dist xs v u : Int))) := own64_empty (Nat.le_refl _)
      have hrb : Hid (Below w2.heap.size w2 (w2.alloc (.cells #[] 2))) := bal (b0 w2) _
      clear hb2 hb hT cA
      go_wp2
      go_loopw [6, 7] (fun q i wr => ∃ (k c3 : Nat) (A3 : Option Addr), k ≤ n ∧ i = .int .i64 k ∧ q = .slice A3 k c3 ∧ Hid (Own64 wr w2.heap.size (.slice A3 k c3) (M.rowOf k fun u => (M.dist xs v u : Int))) ∧ Hid (Below w2.heap.size w2 wr)) (fun _ i _ => n - (intOf i).toNat)
      case atStart => exact ⟨0, 0, _, Nat.zero_le _, rfl, rfl, hr0, hrb⟩
      case round =>
        obtain ⟨k, c3, A3, hk, rfl, rfl, ho, hb⟩ := hrel
        clear hr0 hrb
        have hbW := Lib.hid (btr hB2.out hb.out)
        have cA := HC.out _ hbW.out
        by_cases hkn : k < n
        · go_wp2_with fail
          refine (HN.out _).mono ?_
          rintro e w4 ⟨rfl, hb4⟩
          have hB4 := Lib.hid (btr hbW.out hb4.out)
          have hb24 := Lib.hid (btr hb.out hb4.out)
          have ho4 := Lib.hid (own_be ho.out hb4.out)
          have hvx : v < xs.length := by rw [hn.out]; exact hlt
          have hkx : k < xs.length := by rw [hn.out]; exact hkn
          obtain ⟨m, hm⟩ : ∃ m, Hid (M.meet xs v k = m) := ⟨_, rfl⟩
          have hmx : m < xs.length := by rw [← hm.out]; exact M.meet_lt hvx
          have hmn : m < n := by rw [← hn.out]; exact hmx
          obtain ⟨x, hx⟩ : ∃ x, ds[v]? = some x := ⟨_, List.getElem?_eq_getElem (by omega)⟩
          obtain ⟨y, hy⟩ : ∃ y, ds[k]? = some y := ⟨_, List.getElem?_eq_getElem (by omega)⟩
          obtain ⟨z, hz⟩ : ∃ z, ds[m]? = some z := ⟨_, List.getElem?_eq_getElem (by omega)⟩
          obtain ⟨ps, hps⟩ := hE.out
          have hdd := M.dist_depths ht.out hps hd.out hvx hkx hx hy (by rw [hm.out]; exact hz)
          have bx := M.depsOK_le ht.out hd.out (v + 1) v x (by omega) hx
          have by_ := M.depsOK_le ht.out hd.out (k + 1) k y (by omega) hy
          have bz := M.depsOK_le ht.out hd.out (m + 1) m z (by omega) hz
          have HK : Hid (∀ W', Hid (Below w2.heap.size w4 W') → W'.cell? ⟨w.heap.size, 0, none⟩ = some (.slice A n c) ∧ W'.cell? ⟨gd, v, none⟩ = some (.int .i64 x) ∧ W'.cell? ⟨gd, k, none⟩ = some (.int .i64 y) ∧ W'.cell? ⟨gd, m, none⟩ = some (.int .i64 z) ∧ Hid (Below w2.heap.size w4 W')) := fun W' hW =>
            ⟨HC.out _ (btr hB2.out (hb24.out.trans hW.out)), Hds.out _ v x (btr hB2.out (hb24.out.trans hW.out)) hx, Hds.out _ k y (btr hB2.out (hb24.out.trans hW.out)) hy, Hds.out _ m z (btr hB2.out (hb24.out.trans hW.out)) hz, hW⟩
          have HMe : Hid (∀ W', Hid (Below w2.heap.size w4 W') → Calls Try.prog 88 #[.agg #[.slice A n c], .int .i64 v, .int .i64 k] W' fun e w' => e = .returned (.int .i64 (m : Int)) ∧ Hid (Below W'.heap.size W' w')) := fun W' hW =>
            HM.out v k m W' hlt hkn hm (btr (btr HB1.out hB2.out) (hb24.out.trans hW.out))
          have HO : Hid (∀ W', Hid (Below w4.heap.size w4 W') → Own64 W' w2.heap.size (.slice A3 k c3) (M.rowOf k fun u => (M.dist xs v u : Int))) := fun W' hW => own_be ho4.out hW.out
          have v1 : IntKind.i64.wrap (x + y) = x + y := IntWalk.i64_in _ (by omega)
          have v2 : IntKind.i64.wrap (2 * z) = 2 * z := IntWalk.i64_in _ (by omega)
          have v3 : IntKind.i64.wrap (x + y - 2 * z) = x + y - 2 * z := IntWalk.i64_in _ (by omega)
          have hval := Lib.hid hdd
          have z4 := hb24.out.size
          have hkl : (k : Int) < (n : Int) := by omega
          have hml : (m : Int) < (n : Int) := by omega
          have hk0 : (0 : Int) ≤ (k : Int) := by omega
          have hm0 : (0 : Int) ≤ (m : Int) := by omega
          have hv0 : (0 : Int) ≤ (v : Int) := by omega
          clear hx hy hz hdd bx by_ bz hps hb hb4 ho hbW cA
          go_wp2_with fail
          have K1 : Hid (Below w4.heap.size w4 w4.drew) := (Below.refl _ _).drew
          have K0 : Hid (Below w2.heap.size w4 w4.drew) := (Below.refl _ _).drew
          go_region_held3 (fun w' => w'.cell? ⟨w.heap.size, 0, none⟩ = some (.slice A n c) ∧ w'.cell? ⟨gd, v, none⟩ = some (.int .i64 x) ∧ w'.cell? ⟨gd, k, none⟩ = some (.int .i64 y) ∧ w'.cell? ⟨gd, m, none⟩ = some (.int .i64 z) ∧ Hid (Below w2.heap.size w4 w')) (first | exact HK.out _ K0 | exact HK.out _ (by assumption) | exact HK.out _ (hB7w.out.alloc (Nat.le_trans z4 hB7.out.size) _)) (first | (go_at_call 88; refine (HMe.out _ (by first | exact K0 | assumption)).mono ?_; rintro e w7 ⟨rfl, hb7⟩; have hB7 : Hid (Below w4.heap.size w4 w7) := btr K1.out hb7.out; have hB7w : Hid (Below w2.heap.size w4 w7) := hB7.out.mono z4) | (refine stepPush rfl (.tmp 24) (.tmp 43) rfl _ w2.heap.size A3 k c3 _ (x + y - 2 * z) w7.heap.size (by rfl) (by rfl) (by first | (simp; done) | simp [go_sem]) (Lib.hid ((HO.out _ hB7).alloc _)) (by have := hB7.out.size; simp; omega) (by omega) ?_; intro g8 c8 w8 ho8 hb8; have hB8 : Hid (Below w2.heap.size w4 w8) := (hB7w.out.alloc (Nat.le_trans z4 hB7.out.size) _).trans hb8.out))
          rw [← hval.out, ← M.rowOf_succ k (fun u => (M.dist xs v u : Int))] at ho8
          have hbf : Hid (Below w2.heap.size w2 w8) := hb24.out.trans hB8.out
          go_wp2
          go_roundw
          case rel => exact ⟨k + 1, c8, _, by omega, by go_num, rfl, ho8, hbf⟩
          case measure => simp [intOf]; omega
        · obtain rfl : k = n := by omega
          go_wp2_with fail
          refine (HN.out _).mono ?_
          rintro e w4 ⟨rfl, hb4⟩
          have hb24 := Lib.hid (btr hb.out hb4.out)
          have hB4 := Lib.hid (btr hB2.out hb24.out)
          have hT4 := Lib.hid (hT2.out.be hb24.out)
          have ho4 := Lib.hid (own_mono (base' := w1.heap.size) (own_be ho.out hb4.out) hB2.out.size)
          have hne : Hid (∀ b, (Value.slice A' v c').ownBlock = some b → (Value.slice A3 k c3).ownBlock ≠ some b) := fun b hb1 hb2 => by
            have h1 := (hT2.out.lt hb1).2
            have h2 := (World.ownsRow.lt ho.out b hb2).1
            omega
          have hrl : Hid ((M.rowOf k fun u => (M.dist xs v u : Int)).length = k) := M.rowOf_len _ _
          have z4 := hB4.out.size
          have hsu : Hid (M.distRows xs v ++ [M.rowOf k fun u => (M.dist xs v u : Int)] = M.distRows xs (v + 1)) := by show _ = _; rw [M.distRows_succ, M.distRow, hn.out]
          clear hT2 ho hb hb4 cA hbW
          go_wp2_with (at_builtin; refine pushTab rfl (.tmp 45) (.tmp 47) rfl w4 w1.heap.size A' v c' (M.distRows xs v) A3 k c3 _ rfl _ rfl rfl hT4 ho4 hrl hne z4 (by omega) ?_; intro A5 c5 w5 hT5 hb5)
          rw [hsu.out] at hT5
          have hB5 : Hid (Below w1.heap.size w1 w5) := hB4.out.trans hb5.out
          go_roundw
          case rel => exact ⟨v + 1, c5, A5, by omega, by go_num, rfl, hT5, hB5⟩
          case measure => simp [intOf]; omega
    · obtain rfl : v = n := by omega
      go_wp2_with fail
      refine (HN.out _).mono ?_
      rintro e w4 ⟨rfl, hb4⟩
      have hB4 := Lib.hid (btr HB1.out (btr hb.out hb4.out))
      have hT4 := Lib.hid ((hT.out.be hb4.out).mono (Nat.le_trans z0 HB1.out.size))
      have hBw := Lib.hid (btr hB0.out hB4.out)
      clear hT hb hb4 cA
      go_wp2
      go_ret
      exact ⟨A', c', rfl, hT4, hBw⟩
end Go.Proofs.Ytbnnlifpldgcfaa
