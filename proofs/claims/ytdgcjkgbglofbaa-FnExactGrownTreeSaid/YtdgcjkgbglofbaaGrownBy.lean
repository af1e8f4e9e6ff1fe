/- grownBy: the tree that a list grows, and its growth, the program's. -/
import Derived.Test.YtdgcjkgbglofbaaGrowMix
import Derived.Test.YtdgcjkgbglofbaaImPutMade
import Derived.Test.YtdgcjkgbglofbaaTwo
import Derived.Test.YtdgcjkgbglofbaaEnd
namespace Go.Proofs.Ytdgcjkgbglofbaa
open Go.RowKit

theorem own64_litG {w : World} {B : Nat} (x : Int) (hB : B ≤ w.heap.size) : Own64 (w.alloc (.cells #[.int .i64 x] 2)) B (.slice (some ⟨w.heap.size, 0, none⟩) 1 1) [x] := by
  have h := World.ownsRow_lit (e := 2) (size := 1) w #[.int .i64 x] 1 hB (by simp [maxLen]) (by simp)
  simpa [Own64] using h
theorem own_capG {w : World} {B n c : Nat} {A : Option Addr} {zs : List Int} (h : Own64 w B (.slice A n c) zs) : n ≤ c ∧ c ≤ 9223372036854775807 := by
  rcases h.2 with ⟨h0, hx⟩ | ⟨g, cap, cur, hv, _, _, hnc, hcm, _⟩
  · injection h0 with _ e e'; omega
  · injection hv with _ e e'
    simp only [maxLen] at hcm
    omega

set_option maxRecDepth 100000 in
set_option maxHeartbeats 8000000 in
theorem grownBy (A : Option Addr) (l : List Int) (c : Nat) (w : World) (hl : l.length ≤ 23) (hg : Hid (M.Grows l)) (hI : Hid (Ints w w.heap.size A l)) :
    Calls Try.prog 263 #[.slice A l.length c] w fun e w' => ∃ A1 n1 c1 A2 n2 c2, e = .returned (.tuple #[.slice A1 n1 c1, .slice A2 n2 c2]) ∧ Hid (Two w' w.heap.size (.slice A1 n1 c1) (.slice A2 n2 c2) (M.W l 0).1 (M.posRow l)) ∧ Hid (Below w.heap.size w w') := by
  obtain ⟨W, hW⟩ : ∃ W, W = (w.alloc (.cells #[.int .i64 0] 2)).alloc (.cells #[.int .i64 0] 2) := ⟨_, rfl⟩
  have hbW : Hid (Below w.heap.size w W) := by rw [hW]; exact bal (bal (b0 w) _) _
  have hT0 : Hid (Two W w.heap.size (.slice (some ⟨w.heap.size, 0, none⟩) 1 1) (.slice (some ⟨w.heap.size + 1, 0, none⟩) 1 1) (M.W (l.take 0) 0).1 (M.posRow (l.take 0))) := by
    rw [hW, List.take_zero, M.W_nil, M.posRow_zero]
    have h1 := own64_litG (w := w) (B := w.heap.size) 0 (Nat.le_refl _)
    have h2 := own64_litG (w := w.alloc (.cells #[.int .i64 0] 2)) (B := w.heap.size) 0 (by simp)
    have e1 : (w.alloc (.cells #[.int .i64 0] 2)).heap.size = w.heap.size + 1 := by simp
    rw [e1] at h2
    exact ⟨h1.alloc _, h2, fun b hb => by simp [Value.ownBlock] at hb ⊢; omega⟩
  go_enter Try.func263, Try.ntmps263
  go_wp2
  rw [← hW]
  clear hW
  go_loopw [4, 5, 16] (fun q1 q2 i wr => ∃ (k n1 c1 n2 c2 : Nat) (A1 A2 : Option Addr), k ≤ l.length ∧ i = .int .i64 (k : Int) ∧ q1 = .slice A1 n1 c1 ∧ q2 = .slice A2 n2 c2 ∧ Hid (Two wr w.heap.size (.slice A1 n1 c1) (.slice A2 n2 c2) (M.W (l.take k) 0).1 (M.posRow (l.take k))) ∧ Hid (Below w.heap.size w wr)) (fun _ _ i _ => l.length - (intOf i).toNat)
  case atStart => exact ⟨0, 1, 1, 1, 1, _, _, Nat.zero_le _, rfl, rfl, rfl, hT0, hbW⟩
  case round =>
    clear hT0 hbW
    obtain ⟨k, n1, c1, n2, c2, A1, A2, hk, rfl, rfl, rfl, hT, hb⟩ := hrel
    by_cases hlt : k < l.length
    · obtain ⟨b, off, x, rfl, hbB, hcx, hX⟩ := (hI.out.below hb.out (Nat.le_refl _)).at_ hlt
      have hgx := hg.out k _ hX.out
      obtain ⟨p, rfl⟩ := Int.eq_ofNat_of_zero_le hgx.1
      have hlk : (l.take k).length = k := by rw [List.length_take]; omega
      have hGk := M.grows_take hg.out k
      obtain ⟨v, S, hv1, hv2, hv3, hv4, hput, hpos1, hpos2⟩ := M.grow_step hGk (by omega) (p := p) (by omega)
      have hsn := M.take_snoc hX.out
      have htr := M.W_tree hGk (by omega)
      have hWl : (M.W (l.take k) 0).1.length = k + 1 := by rw [M.W_len hGk 0 (Nat.zero_le _), M.W_count hGk, hlk]
      have hPl := M.posRow_len (l.take k)
      rw [hlk] at hPl
      have hpp : (M.posRow (l.take k))[p]? = some (v : Int) := by rw [M.posRow_at (by omega), hv1]
      have hstep := M.posRow_step hpos1 hpos2
      rw [← hsn, hlk] at hstep
      rw [← hsn] at hput
      obtain ⟨dg, hdg, hdg24⟩ := M.tree_degN htr hv2
      have hdd := M.deg_at hdg
      rw [hdd] at hput
      have hn1 := own64_len hT.out.1
      have hn2 := own64_len hT.out.2.1
      rw [hWl] at hn1
      rw [hPl] at hn2
      subst hn1
      subst hn2
      obtain ⟨g1, rfl⟩ := hT.out.shape.2 (by omega)
      obtain ⟨g2, rfl⟩ := hT.out.symm.shape.2 (by omega)
      have cp := (own64_cell hT.out.2.1 hPl hpp).1
      have cd := (own64_cell hT.out.1 hWl hdg).1
      have hcap := own_capG hT.out.1
      have hok := Lib.hid (M.tree_ok htr hv2)
      have HSz := Lib.hid (fun (X : World) (hX : Hid (Ints X X.heap.size (some ⟨g1, 0, none⟩) (M.W (l.take k) 0).1)) => sizeAt (some ⟨g1, 0, none⟩) (M.W (l.take k) 0).1 c1 v S X hv3 (by omega) (by omega) (by omega) hok.out hX.out)
      have HMk := Lib.hid (fun (X : World) (hX : Hid (Ints X X.heap.size (some ⟨g1, 0, none⟩) (M.W (l.take k) 0).1)) => puttingIn_made g1 0 (M.W (l.take k) 0).1 c1 v dg 0 X (by omega) (by omega) (by omega) htr hv2 (by omega) hX)
      rw [hput, hWl] at HMk
      rw [hWl] at HSz
      simp only [Int.natCast_zero] at HMk
      have HI1 := Lib.hid (ints_of_own64 hT.out.1)
      have hp0 : (0 : Int) ≤ (p : Int) := by omega
      have hpi : (p : Int) < ((k + 1 : Nat) : Int) := by omega
      have hv0 : (0 : Int) ≤ (v : Int) := by omega
      have hvi : (v : Int) < ((k + 1 : Nat) : Int) := by omega
      have hk0 : (0 : Int) ≤ (k : Int) := by omega
      have hki : (k : Int) < (l.length : Int) := by omega
      have hwv : IntKind.i64.wrap ((v : Int) + (S : Int)) = ((v + S : Nat) : Int) := by rw [IntWalk.i64_in _ (by omega)]; omega
      rw [Int.natCast_add] at hstep
      have Hst := Lib.hid hstep
      have hPat := Lib.hid (fun r (hr : r < k + 1) => (show ∃ y : Nat, (M.posRow (l.take k))[r]? = some (y : Int) ∧ y ≤ 24 from ⟨_, M.posRow_at (by omega), by have := M.pos_lt hGk (j := r) (by omega); omega⟩))
      have HPl := Lib.hid hPl
      have hX0 := hX
      clear hpp hstep hpos1 hpos2 hput hsn htr hGk hWl hdd hdg hv1 hv3 hPl hX hgx hok hlk
      go_wp2_with fail
      refine (HSz.out _ HI1).mono ?_
      rintro e w2 ⟨rfl, rfl⟩
      go_wp2_with fail
      refine (HMk.out _ HI1).mono ?_
      rintro e w3 ⟨A3, c3, n3, rfl, ho3, hb3⟩
      have hT3 : Hid (Two w3 w.heap.size (.slice A3 n3 c3) (.slice (some ⟨g2, 0, none⟩) (k + 1) c2) (M.W (l.take (k + 1)) 0).1 (M.mvTo (M.posRow (l.take k)) ((v : Int) + (S : Int)) 0)) := by
        rw [M.mvTo_zero]
        exact ⟨own_mono ho3.out hb.out.size, own_below hT.out.2.1 hb3.out (Nat.le_refl _), fun b hb1 hb2 => by have h1 := (ho3.out.lt b hb1).1; have h2 := (hT.out.2.1.lt b hb2).2; omega⟩
      have hb4 := Lib.hid (btr hb.out hb3.out)
      have hX1 := Lib.hid (M.take_snoc hX0.out)
      clear hT ho3 hb3 HSz HMk HI1 hb hcx cp cd
      go_wp2
      go_loopw [39] (fun ri wr => ∃ r : Nat, r ≤ k + 1 ∧ ri = .int .i64 (r : Int) ∧ Hid (Two wr w.heap.size (.slice A3 n3 c3) (.slice (some ⟨g2, 0, none⟩) (k + 1) c2) (M.W (l.take (k + 1)) 0).1 (M.mvTo (M.posRow (l.take k)) ((v : Int) + (S : Int)) r)) ∧ Hid (Below w.heap.size w wr)) (fun ri _ => k + 1 - (intOf ri).toNat)
      case atStart => exact ⟨0, Nat.zero_le _, rfl, hT3, hb4⟩
      case round =>
        clear hT3 hb4
        obtain ⟨r, hr, rfl, hT, hb⟩ := hrel
        rename World => V
        by_cases hrl : r < k + 1
        · obtain ⟨y, hy, hy24⟩ := hPat.out r hrl
          have hml : (M.mvTo (M.posRow (l.take k)) ((v : Int) + (S : Int)) r).length = k + 1 := by rw [M.mvTo_len]; exact HPl.out
          obtain ⟨m1, m2, hgb, _⟩ := own64_cell hT.out.2.1 hml (M.mvTo_at hy)
          have hr0 : (0 : Int) ≤ (r : Int) := by omega
          have hri : (r : Int) < ((k + 1 : Nat) : Int) := by omega
          by_cases hay : (v : Int) + (S : Int) ≤ (y : Int)
          · have hwy : IntKind.i64.wrap ((y : Int) + 1) = (y : Int) + 1 := IntWalk.i64_in _ (by omega)
            have hs := Lib.hid (hT.out.symm.set hml r ((y : Int) + 1)).symm
            rw [M.mvTo_hit hy hay] at hs
            have hbs := Lib.hid (below_setCell (g := g2) (k := r) hb.out hgb (.int .i64 ((y : Int) + 1)))
            clear hT hb hy hml
            go_wp2
            go_roundw
            case rel => exact ⟨r + 1, by omega, by go_num, hs, hbs⟩
            case measure => simp [intOf]; omega
          · rw [← M.mvTo_miss hy hay] at hT
            clear hy hml
            go_wp2
            go_roundw
            case rel => exact ⟨r + 1, by omega, by go_num, hT, hb⟩
            case measure => simp [intOf]; omega
        · obtain rfl : r = k + 1 := by omega
          have hge : ¬ ((k + 1 : Nat) : Int) < ((k + 1 : Nat) : Int) := by omega
          have hTs := Lib.hid hT.out.symm
          have hB := hb.out.size
          have hkm : k + 1 ≤ 1000000 := by omega
          clear hT
          go_wp2_with (at_builtin; refine pushTwo rfl (.tmp 54) (.tmp 56) rfl V w.heap.size (some ⟨g2, 0, none⟩) (k + 1) c2 (.slice A3 n3 c3) (M.mvTo (M.posRow (l.take k)) ((v : Int) + (S : Int)) (k + 1)) (M.W (l.take (k + 1)) 0).1 ((v : Int) + (S : Int)) rfl _ rfl rfl hTs hB hkm ?_; intro A5 c5 w5 ht5 hb5)
          have ht6 := Lib.hid ht5.out.symm
          rw [Hst.out] at ht6
          have hbf := Lib.hid (hb.out.trans hb5.out)
          go_roundw
          case rel => exact ⟨k + 1, n3, c3, k + 1 + 1, c5, A3, A5, by omega, by go_num, rfl, rfl, ht6, hbf⟩
          case measure => simp [intOf]; omega
    · obtain rfl : k = l.length := by omega
      have hge : ¬ (l.length : Int) < (l.length : Int) := by omega
      rw [List.take_length] at hT
      go_wp2
      refine bodyPost_ret (v := .tuple #[.slice A1 n1 c1, .slice A2 n2 c2]) (by simp [results, Try.results263, go_sem]) rfl ?_
      exact ⟨A1, n1, c1, A2, n2, c2, rfl, hT, hb⟩
end Go.Proofs.Ytdgcjkgbglofbaa
