/- kept, at the closure of most: a number that the map holds, or that is worked out and put there. -/
import Derived.Test.YtgcabcmnhdaepaaMemo4
namespace Go.Proofs.Ytgcabcmnhdaepaa
open Go.RowKit Go.Maps Go.WideMaps

set_option maxHeartbeats 1000000 in
set_option maxRecDepth 100000 in
theorem keptMost {L : Nat → Nat → Nat → Nat → Nat} (b i j k l : Nat) (p0 p1 p2 : Addr) (w : World) (hi : i < 32) (hj : j < 32) (hk : k < 32) (hl : l < 32) (hL : L i j k l ≤ 1152921504606846976) (hm : Hid (Memo L w b))
    (hcount : Hid (∀ W, Hid (Memo L W b) → Hid (w.grownBy W (some b)) → Calls Try.prog 164 #[.pointer (some p0), .pointer (some p1), .pointer (some p2)] W fun e W' => e = .returned (.int .i64 (L i j k l : Int)) ∧ Hid (Memo L W' b) ∧ Hid (W.grownBy W' (some b)))) :
    Calls Try.prog 162 #[.map (some b), .agg #[.int .i64 (i : Int), .int .i64 (j : Int), .int .i64 (k : Int), .int .i64 (l : Int)], .func (.func 164) #[] #[.pointer (some p0), .pointer (some p1), .pointer (some p2)]] w fun e w' => e = .returned (.int .i64 (L i j k l : Int)) ∧ Hid (Memo L w' b) ∧ Hid (w.grownBy w' (some b)) := by
  obtain ⟨D, h1, h2, h3⟩ := hm.out
  have hbw := h1.lt
  have hkey := keyOf_k4 (a := i) (b := j) (c := k) (d := l) (by omega) (by omega) (by omega) (by omega)
  have hg0 : Hid (w.grownBy (w.alloc (.cells #[.int .i64 (i : Int), .int .i64 (j : Int), .int .i64 (k : Int), .int .i64 (l : Int)] 180)) (some b)) := World.grownBy_alloc w _ _
  have hm0 : Hid (Memo L (w.alloc (.cells #[.int .i64 (i : Int), .int .i64 (j : Int), .int .i64 (k : Int), .int .i64 (l : Int)] 180)) b) := hm.out.alloc _
  have hown := Lib.hid (h1.alloc (.cells #[.int .i64 (i : Int), .int .i64 (j : Int), .int .i64 (k : Int), .int .i64 (l : Int)] 180))
  have hkb : Hid ((w.alloc (.cells #[.int .i64 (i : Int), .int .i64 (j : Int), .int .i64 (k : Int), .int .i64 (l : Int)] 180)).heap[w.heap.size]? = some (.cells #[.int .i64 (i : Int), .int .i64 (j : Int), .int .i64 (k : Int), .int .i64 (l : Int)] 180 (0, 0))) := World.alloc_heap_new w _
  have H2 := Lib.hid h2
  have Hkey := Lib.hid hkey
  obtain ⟨y, hy⟩ : ∃ y, Hid (L i j k l = y) := ⟨_, rfl⟩
  rw [hy.out] at hL hcount ⊢
  clear h1 h2 hkey
  cases hh : has D (k4 i j k l)
  · have hcw := Lib.hid (hcount.out _ hm0 hg0)
    have Hh := Lib.hid hh
    clear hh hcount
    go_enter Try.func162, Try.ntmps162
    go_wp2_with (first | (at_lookup; refine wpList_lookup_own_ok_int _ rfl _ _ 152 rfl 180 2 .i64 keyedS Try.underlying152 Try.underlying2 (zeroI _) b (Maps.size D) D rfl hown.out _ _ rfl Hkey.out ?_; intro c hat hwc; rw [Hh.out]) | fail)
    refine hcw.out.mono ?_
    rintro e W' ⟨rfl, hm1, hg1⟩
    obtain ⟨D1, h1, h2, h4⟩ := hm1.out
    have hT := Lib.hid (h1.tidy keyedS)
    have h2 := Lib.hid h2
    have hown1 := Lib.hid h1
    have hgt := Lib.hid (hg0.out.trans hg1.out)
    have hkb1 := Lib.hid ((hg1.out.block w.heap.size (by simp) (fun e => by injection e with e; omega)).trans hkb.out)
    obtain ⟨k0, k1, k2, k3⟩ : W'.cell? ⟨w.heap.size, 0, none⟩ = some (.int .i64 (i : Int)) ∧ W'.cell? ⟨w.heap.size, 1, none⟩ = some (.int .i64 (j : Int)) ∧ W'.cell? ⟨w.heap.size, 2, none⟩ = some (.int .i64 (k : Int)) ∧ W'.cell? ⟨w.heap.size, 3, none⟩ = some (.int .i64 (l : Int)) := by
      have := hkb1.out
      refine ⟨?_, ?_, ?_, ?_⟩ <;> simp [World.cell?, this]
    have hn1 : Maps.size D1 < maxLen := by unfold maxLen; omega
    have hpe : Hid (plainElem (H := Unit) Try.prog 2 (.int .i64 (y : Int)) = some (.lit (.int .i64 (y : Int)), [])) := plainElem_int Try.underlying2 (WalkArith.wf_i64 (by omega))
    clear hcw hm1 hg1 hat hwc h1
    go_wp2_with (first | (at_mapUpdate; refine wpList_mapUpdate_own _ rfl _ _ _ 152 rfl 180 2 keyedS Try.underlying152 _ b (Maps.size D1) D1 rfl hown1.out hn1 _ _ _ rfl rfl Hkey.out _ [] hpe.out ?_; intro w1 hown2 hgrow) | fail)
    go_ret
    have hput : Hid (Memo L w1 b) := Memo.put hi hj hk hl hT.out h2.out h4 (by rw [hy.out]; exact hown2)
    exact ⟨rfl, hput, hgt.out.trans hgrow⟩
  · have hat : Hid (D.atKey (k4 i j k l) (.lit (.int .i64 0)) = .lit (.int .i64 (y : Int))) := by show _ = _; rw [H2.out i j k l hi hj hk hl hh, hy.out]
    have Hh := Lib.hid hh
    clear hh hcount
    go_enter Try.func162, Try.ntmps162
    go_wp2_with (first | (at_lookup; refine wpList_lookup_own_ok_int _ rfl _ _ 152 rfl 180 2 .i64 keyedS Try.underlying152 Try.underlying2 (zeroI _) b (Maps.size D) D rfl hown.out _ _ rfl Hkey.out ?_; intro c hat2 hwc; rw [Hh.out]) | fail)
    go_ret
    have e : c = (y : Int) := by have := hat.out.symm.trans hat2; injection this with this; injection this with _ this; exact this.symm
    exact ⟨by rw [← e]; rfl, hm0, hg0⟩
end Go.Proofs.Ytgcabcmnhdaepaa
