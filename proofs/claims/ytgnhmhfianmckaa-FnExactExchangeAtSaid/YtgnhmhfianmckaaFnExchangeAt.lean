/- ExchangeAt, the program's and the model's: a growing order with two neighbours exchanged, or a code. -/
import Derived.Test.YtgnhmhfianmckaaFreeIn
import Derived.Test.YtgnhmhfianmckaaClone
namespace Go.Proofs.Ytgnhmhfianmckaa
open Go.RowKit

namespace M
noncomputable def exCode (xs l : List Int) (i : Int) : Int :=
  if gcode2 xs l ≠ 0 then gcode2 xs l else if ¬ (0 ≤ i ∧ i ≤ (l.length : Int) - 2) then 2 else if grows (parents xs) l = true ∧ freeAt (parents xs) l i.toNat = true then 0 else 5
def swapAt (l : List Int) (i : Nat) : List Int := (l.set i (l[i + 1]?.getD 0)).set (i + 1) (l[i]?.getD 0)
theorem swapAt_len (l : List Int) (i : Nat) : (swapAt l i).length = l.length := by simp [swapAt]
end M
noncomputable def F_ExchangeAt (xs l : List Int) (i : Int) : List Int × Int := if M.exCode xs l i = 0 then (M.swapAt l i.toNat, 0) else ([], M.exCode xs l i)
theorem F_ExchangeAt_yes {xs l : List Int} {i : Int} (h : M.exCode xs l i = 0) : F_ExchangeAt xs l i = (M.swapAt l i.toNat, 0) := by rw [F_ExchangeAt, if_pos h]
theorem F_ExchangeAt_no {xs l : List Int} {i : Int} {r : Int} (h : M.exCode xs l i = r) (h0 : r ≠ 0) : F_ExchangeAt xs l i = ([], r) := by rw [F_ExchangeAt, if_neg (by rw [h]; exact h0), h]
theorem exCode_zero {xs l : List Int} {i : Int} (h : M.exCode xs l i = 0) : M.gcode2 xs l = 0 := by
  rw [M.exCode] at h
  by_cases h2 : M.gcode2 xs l = 0
  · exact h2
  · rw [if_pos h2] at h; exact absurd h h2
theorem F_ExchangeAt_len (xs l : List Int) (i : Int) : (F_ExchangeAt xs l i).1.length ≤ 1048576 := by
  by_cases h : M.exCode xs l i = 0
  · rw [F_ExchangeAt_yes h]
    have h2 := M.gcode2_zero (exCode_zero h)
    have h3 := M.tree_len h2.1
    have h4 := (M.isOrd_iff.1 h2.2).1
    show (M.swapAt l i.toNat).length ≤ _
    rw [M.swapAt_len]
    omega
  · rw [F_ExchangeAt_no rfl h]; simp

theorem withinAt (n lo hi : Int) (w : World) (b : Bool) (hb : Hid ((decide (lo ≤ n) && decide (n ≤ hi)) = b)) :
    Calls Try.prog 85 #[.int .i64 n, .int .i64 lo, .int .i64 hi] w fun e w' => e = .returned (.bool b) ∧ w = w' := by
  by_cases h : lo ≤ n
  · have hb' : b = decide (n ≤ hi) := by rw [← hb.out]; simp [h]
    clear hb
    subst hb'
    go_enter Try.func85, Try.ntmps85
    go_wp2
    go_ret
    exact ⟨rfl, rfl⟩
  · have hb' : b = false := by rw [← hb.out]; simp [h]
    clear hb
    subst hb'
    have h' : decide (lo ≤ n) = false := decide_eq_false h
    go_enter Try.func85, Try.ntmps85
    go_wp2
    go_ret
    exact ⟨rfl, rfl⟩

set_option maxHeartbeats 8000000 in
set_option maxRecDepth 100000 in
theorem impl_ExchangeAt : GivesOL1 44 F_ExchangeAt := by
  intro A A2 xs l c c2 i w hx hl hcc hcc2 hi64 h h2
  obtain ⟨W, hW⟩ : ∃ W, W = (w.alloc (.cells #[.slice A xs.length c] 28)).alloc (.cells #[.slice A xs.length c, .slice A2 l.length c2] 54) := ⟨_, rfl⟩
  obtain ⟨f0, f1⟩ := order_cells (w.alloc (.cells #[.slice A xs.length c] 28)) (.slice A xs.length c) (.slice A2 l.length c2) 54
  rw [World.size_alloc] at f0 f1
  have hzW : W.heap.size = w.heap.size + 1 + 1 := by rw [hW]; simp
  have hB0 : Hid (Below w.heap.size w W) := by rw [hW]; exact bal (bal (b0 w) _) _
  have H1 : Hid (Ints W W.heap.size A xs) := by rw [hW]; exact (h.al _).al _
  have H2 : Hid (Ints W W.heap.size A2 l) := by rw [hW]; exact (h2.al _).al _
  rw [← hW] at f0 f1
  have HW := Lib.hid hW
  have hS2 : Hid (StepsIn (W.alloc (.cells #[.func (.func 57) #[] #[], .func (.func 58) #[] #[]] 87)) W.heap.size 2) := steps2_in W
  obtain ⟨r, hr⟩ : ∃ r, Hid (M.gcode2 xs l = r) := ⟨_, rfl⟩
  have HC := Lib.hid (codeTwo A A2 xs l c c2 W.heap.size (W.alloc (.cells #[.func (.func 57) #[] #[], .func (.func 58) #[] #[]] 87)) hx hcc (Lib.hid (H1.out.al _)) (Lib.hid (H2.out.al _)) hS2 r hr)
  have hB1 := Lib.hid (bal hB0.out (.cells #[.func (.func 57) #[] #[], .func (.func 58) #[] #[]] 87))
  have f0' := cellOf_al f0 (.cells #[.func (.func 57) #[] #[], .func (.func 58) #[] #[]] 87)
  have f1' := cellOf_al f1 (.cells #[.func (.func 57) #[] #[], .func (.func 58) #[] #[]] 87)
  rw [hzW] at HC
  by_cases h0 : r = 0
  · subst h0
    have hz := M.gcode2_zero hr.out
    have Ht := Lib.hid hz.1
    have Ho := Lib.hid hz.2
    have hlen := M.tree_len Ht.out
    have hll := (M.isOrd_iff.1 Ho.out).1
    have hn1 : 1 ≤ l.length := by omega
    have hn24 : l.length ≤ 24 := by omega
    have hEx : Hid (M.exCode xs l i = if ¬ (0 ≤ i ∧ i ≤ (l.length : Int) - 2) then 2 else if M.grows (M.parents xs) l = true ∧ M.freeAt (M.parents xs) l i.toNat = true then 0 else 5) := by
      show _ = _
      rw [M.exCode, if_neg (by rw [hr.out]; simp)]
    have hwr : IntKind.i64.wrap ((l.length : Int) - 2) = (l.length : Int) - 2 := IntWalk.i64_in _ (by omega)
    obtain ⟨bv, hbv⟩ : ∃ bv, Hid ((decide ((0 : Int) ≤ i) && decide (i ≤ (l.length : Int) - 2)) = bv) := ⟨_, rfl⟩
    obtain ⟨g, hg⟩ : ∃ g, Hid (M.grows (M.parents xs) l = g) := ⟨_, rfl⟩
    have hSt : ∀ X, Below W.heap.size W X → Calls Try.prog 59 #[.agg #[.slice A xs.length c, .slice A2 l.length c2]] X fun e w' => e = .returned (.int .i64 (if g then 0 else 5)) ∧ Below X.heap.size X w' := by
      intro X hX
      have := stateCode A A2 xs l c c2 xs.length X rfl hcc.1 hcc.2 Ht Ho (H1.out.be hX) (H2.out.be hX) (if g then 0 else 5) (by show _ = _; rw [hg.out])
      rw [hll]
      exact this
    have HSt := Lib.hid hSt
    have hFr : ∀ (j : Nat) X, j + 1 < l.length → Below W.heap.size W X → Calls Try.prog 81 #[.agg #[.slice A xs.length c, .slice A2 l.length c2], .int .i64 (j : Int)] X fun e w' => e = .returned (.bool (M.freeAt (M.parents xs) l j)) ∧ Below X.heap.size X w' := by
      intro j X hj hX
      have := areFree A A2 xs l c c2 xs.length j X rfl hcc.1 hcc.2 Ht Ho (by omega) (Lib.hid (H1.out.be hX)) (Lib.hid (H2.out.be hX))
      rw [hll]
      exact this
    have HFr := Lib.hid hFr
    cases bv
    · have hF : F_ExchangeAt xs l i = ([], 2) := F_ExchangeAt_no (by rw [hEx.out, if_pos (by have := hbv.out; simp at this; omega)]) (by decide)
      rw [hF]
      clear hF hz hll hSt hFr HSt HFr h h2 Ho Ht hg hEx hr hlen
      go_enter Try.func44, Try.ntmps44
      clear hW
      go_wp2_with fail
      rw [← HW.out]
      refine HC.out.mono ?_
      rintro e w5 ⟨rfl, hb⟩
      have hB5 := Lib.hid (btr hB1.out hb)
      clear f0' f1' hb HC HW hzW hS2
      go_wp2_with fail
      refine (withinAt i 0 _ w5 false hbv).mono ?_
      rintro e w6 ⟨rfl, rfl⟩
      go_wp2
      go_ret2
      exact ⟨none, 0, rfl, own64_nil _ _, hB5.out⟩
    · have hin : 0 ≤ i ∧ i ≤ (l.length : Int) - 2 := by have := hbv.out; simp at this; omega
      obtain ⟨j, rfl⟩ := Int.eq_ofNat_of_zero_le hin.1
      have hj : j + 1 < l.length := by omega
      have HFj := Lib.hid (fun X hX => HFr.out j X hj hX)
      obtain ⟨f, hf⟩ : ∃ f, Hid (M.freeAt (M.parents xs) l j = f) := ⟨_, rfl⟩
      rw [hf.out] at HFj
      have hE2 : Hid (M.exCode xs l (j : Int) = if g = true ∧ f = true then 0 else 5) := by
        show _ = _
        rw [hEx.out, if_neg (by omega), hg.out, Int.toNat_natCast, hf.out]
      clear hz hll hSt hFr HFr hEx h h2 Ho Ht hr hlen
      cases g
      · have hF : F_ExchangeAt xs l (j : Int) = ([], 5) := F_ExchangeAt_no (by rw [hE2.out]; simp) (by decide)
        rw [hF]
        clear hF hE2 HFj
        go_enter Try.func44, Try.ntmps44
        clear hW
        go_wp2_with fail
        rw [← HW.out]
        refine HC.out.mono ?_
        rintro e w5 ⟨rfl, hb⟩
        have f0 := cellOf_be f0' hb
        have f1 := cellOf_be f1' hb
        have hBW := Lib.hid (btr (bal (b0 W) _) hb)
        have hB5 := Lib.hid (btr hB1.out hb)
        clear f0' f1' hb HC HW hzW hS2
        go_wp2_with fail
        refine (withinAt (j : Int) 0 _ w5 true hbv).mono ?_
        rintro e w6 ⟨rfl, rfl⟩
        go_wp2_with fail
        refine (HSt.out w5 hBW.out).mono ?_
        rintro e w6 ⟨rfl, hb⟩
        have hB6 := Lib.hid (btr hB5.out hb)
        go_wp2
        go_ret2
        exact ⟨none, 0, rfl, own64_nil _ _, hB6.out⟩
      · cases f
        · have hF : F_ExchangeAt xs l (j : Int) = ([], 5) := F_ExchangeAt_no (by rw [hE2.out]; simp) (by decide)
          rw [hF]
          clear hF hE2
          go_enter Try.func44, Try.ntmps44
          clear hW
          go_wp2_with fail
          rw [← HW.out]
          refine HC.out.mono ?_
          rintro e w5 ⟨rfl, hb⟩
          have f0 := cellOf_be f0' hb
          have f1 := cellOf_be f1' hb
          have hBW := Lib.hid (btr (bal (b0 W) _) hb)
          have hB5 := Lib.hid (btr hB1.out hb)
          clear f0' f1' hb HC HW hzW hS2
          go_wp2_with fail
          refine (withinAt (j : Int) 0 _ w5 true hbv).mono ?_
          rintro e w6 ⟨rfl, rfl⟩
          go_wp2_with fail
          refine (HSt.out w5 hBW.out).mono ?_
          rintro e w6 ⟨rfl, hb⟩
          have hB6 := Lib.hid (btr hB5.out hb)
          have hBW6 := Lib.hid (btr hBW.out hb)
          have f0 := cellOf_be f0 hb
          have f1 := cellOf_be f1 hb
          clear hb
          go_wp2_with fail
          refine (HFj.out w6 hBW6.out).mono ?_
          rintro e w7 ⟨rfl, hb⟩
          have hB7 := Lib.hid (btr hB6.out hb)
          go_wp2
          go_ret2
          exact ⟨none, 0, rfl, own64_nil _ _, hB7.out⟩
        · have hF : F_ExchangeAt xs l (j : Int) = (M.swapAt l j, 0) := by have := F_ExchangeAt_yes (xs := xs) (l := l) (i := (j : Int)) (by rw [hE2.out]; simp); rwa [Int.toNat_natCast] at this
          rw [hF]
          obtain ⟨x, hx1⟩ : ∃ x, Hid (l[j]? = some x) := ⟨_, List.getElem?_eq_getElem (by omega)⟩
          obtain ⟨y, hy1⟩ : ∃ y, Hid (l[j + 1]? = some y) := ⟨_, List.getElem?_eq_getElem (by omega)⟩
          have hsw : Hid (M.swapAt l j = (l.set j y).set (j + 1) x) := by show _ = _; rw [M.swapAt, hx1.out, hy1.out]; rfl
          obtain ⟨b, off, e2, hbl, hcs⟩ := H2.out (by omega)
          subst e2
          have hcs' : Hid (∀ X, Below W.heap.size W X → ∀ j x, l[j]? = some x → X.cell? ⟨b, off + j, none⟩ = some (.int .i64 x)) := fun X hX j x hj => (hX.cell (p := ⟨b, off + j, none⟩) hbl).trans (hcs j x hj)
          rw [show (M.swapAt l j, (0 : Int)).1 = M.swapAt l j from rfl, show (M.swapAt l j, (0 : Int)).2 = 0 from rfl, M.swapAt_len, hsw.out]
          have H2' := H2
          clear hF hE2 hcs hbl
          go_enter Try.func44, Try.ntmps44
          clear hW
          go_wp2_with fail
          rw [← HW.out]
          refine HC.out.mono ?_
          rintro e w5 ⟨rfl, hb⟩
          have f0 := cellOf_be f0' hb
          have f1 := cellOf_be f1' hb
          have hBW := Lib.hid (btr (bal (b0 W) _) hb)
          have hB5 := Lib.hid (btr hB1.out hb)
          clear f0' f1' hb HC HW hzW hS2
          go_wp2_with fail
          refine (withinAt (j : Int) 0 _ w5 true hbv).mono ?_
          rintro e w6 ⟨rfl, rfl⟩
          go_wp2_with fail
          refine (HSt.out w5 hBW.out).mono ?_
          rintro e w6 ⟨rfl, hb⟩
          have hB6 := Lib.hid (btr hB5.out hb)
          have hBW6 := Lib.hid (btr hBW.out hb)
          have f0 := cellOf_be f0 hb
          have f1 := cellOf_be f1 hb
          clear hb HSt
          go_wp2_with fail
          refine (HFj.out w6 hBW6.out).mono ?_
          rintro e w7 ⟨rfl, hb⟩
          have hB7 := Lib.hid (btr hB6.out hb)
          have hBW7 := Lib.hid (btr hBW6.out hb)
          clear hb HFj f0 f1
          have hI7 := Lib.hid (H2.out.be hBW7.out)
          go_wp2_with fail
          refine (clone ⟨b, off, none⟩ l l.length c2 w7 rfl (by omega) hI7).mono ?_
          rintro e w8 ⟨A8, c8, rfl, ho8, hb⟩
          have hB8 := Lib.hid (btr hB7.out hb)
          have hBW8 := Lib.hid (btr hBW7.out hb)
          have hz7 : w.heap.size ≤ w7.heap.size := hB7.out.size
          have Ho8 := Lib.hid (own_mono ho8 hz7)
          obtain ⟨g8, rfl⟩ : ∃ g8, A8 = some ⟨g8, 0, none⟩ := by
            rcases ho8.2 with ⟨h1, h2⟩ | ⟨g8, cap, cur, hv, _⟩
            · omega
            · injection hv with h1; exact ⟨g8, h1⟩
          have hg8 := (World.ownsRow.lt ho8 g8 rfl).1
          have hbz : b < W.heap.size := by obtain ⟨_, _, e, hb, _⟩ := H2'.out (by omega); injection e with e; injection e with e1; omega
          have hbg : b < g8 := by have := hBW7.out.size; omega
          have c1 := hcs'.out w8 hBW8.out j x hx1.out
          have c2' := hcs'.out w8 hBW8.out (j + 1) y hy1.out
          obtain ⟨k1, q1, _, _⟩ := own64_cell Ho8.out rfl hx1.out
          obtain ⟨k2, q2, _, _⟩ := own64_cell Ho8.out rfl hy1.out
          have hO1 := own64_set (own64_set Ho8.out rfl j y) (by simp) (j + 1) x
          have HO1 := Lib.hid hO1
          have hj0 : (0 : Int) ≤ (j : Int) := by omega
          have hj1 : (j : Int) < (l.length : Int) := by omega
          have hj2 : (0 : Int) ≤ (j : Int) + 1 := by omega
          have hj3 : (j : Int) + 1 < (l.length : Int) := by omega
          have hton : ((j : Int) + 1).toNat = j + 1 := by omega
          have hw1 : IntKind.i64.wrap ((j : Int) + 1) = (j : Int) + 1 := IntWalk.i64_in _ (by omega)
          clear hb ho8 hO1 hI7 H2 H2' H1
          go_wp2
          go_region
          have hB9 : Hid (Below w.heap.size w ((w8.setCell ⟨g8, j, none⟩ (.int .i64 y)).setCell ⟨g8, j + 1, none⟩ (.int .i64 x)).drew) := (below_setCell (below_setCell hB8.out (by omega) _) (by omega) _).drew
          have HO2 : Hid (Own64 ((w8.setCell ⟨g8, j, none⟩ (.int .i64 y)).setCell ⟨g8, j + 1, none⟩ (.int .i64 x)).drew w.heap.size (.slice (some ⟨g8, 0, none⟩) l.length c8) ((l.set j y).set (j + 1) x)) := HO1.out
          go_wp2
          go_ret2
          exact ⟨_, _, rfl, HO2.out, hB9.out⟩
  · have hF : F_ExchangeAt xs l i = ([], r) := F_ExchangeAt_no (by rw [M.exCode, if_pos (by rw [hr.out]; exact h0), hr.out]) h0
    have h01 : (r != 0) = true := by simpa using h0
    rw [hF]
    clear hF h h2
    go_enter Try.func44, Try.ntmps44
    clear hW
    go_wp2_with fail
    rw [← HW.out]
    refine HC.out.mono ?_
    rintro e w5 ⟨rfl, hb⟩
    have hB5 := Lib.hid (btr hB1.out hb)
    clear f0' f1' hb HC HW hzW hS2
    go_wp2
    go_ret2
    exact ⟨none, 0, rfl, own64_nil _ _, hB5.out⟩

set_option maxHeartbeats 8000000 in
set_option maxRecDepth 100000 in
theorem spec_ExchangeAt : GivesOL1 43 F_ExchangeAt := by
  intro A A2 xs l c c2 i w hx hl hcc hcc2 hi64 h h2
  obtain ⟨W, hW⟩ : ∃ W, W = w.alloc (.cells #[.slice A xs.length c] 28) := ⟨_, rfl⟩
  have cT : Hid (W.cell? ⟨w.heap.size, 0, none⟩ = some (.slice A xs.length c)) := by rw [hW]; simp [Hid, go_sem]
  have hB0 : Hid (Below w.heap.size w W) := by rw [hW]; exact bal (b0 w) _
  have H1 : Hid (Ints W W.heap.size A xs) := by rw [hW]; exact h.al _
  have H2 : Hid (Ints W W.heap.size A2 l) := by rw [hW]; exact h2.al _
  have hI := specIs A xs c W (by omega) H1.out
  have HW := Lib.hid hW
  clear hW h h2
  rcases Bool.eq_false_or_eq_true (M.isTree xs) with ht | ht
  · rw [ht] at hI
    have HI := Lib.hid hI
    have Ht := Lib.hid ht
    have hlen := M.tree_len ht
    obtain ⟨q, hq⟩ : ∃ q, Hid (M.isOrd xs.length l = q) := ⟨_, rfl⟩
    have hO := fun X (hX : Below W.heap.size W X) => l09Order A A2 l xs.length c l.length c2 X hlen.2 rfl hl (H2.out.be hX)
    rw [hq.out] at hO
    have HO := Lib.hid hO
    clear hI ht hO
    have hwr : IntKind.i64.wrap ((l.length : Int) - 2) = (l.length : Int) - 2 := IntWalk.i64_in _ (by omega)
    cases q
    · have hF : F_ExchangeAt xs l i = ([], 2) := F_ExchangeAt_no (by rw [M.exCode, if_pos (by rw [(M.gcode_o Ht.out hq.out).2]; decide), (M.gcode_o Ht.out hq.out).2]) (by decide)
      rw [hF]
      clear hF
      go_enter Try.func43, Try.ntmps43
      go_wp2_with fail
      rw [← HW.out]
      refine HI.out.mono ?_
      rintro e w1 ⟨rfl, hb⟩
      have hBW := Lib.hid hb
      have c1 := cell_be cT.out hb
      clear hb HI
      go_wp2_with fail
      refine (HO.out w1 hBW.out).mono ?_
      rintro e w2 ⟨rfl, hb⟩
      have hB2 := Lib.hid (btr (btr hB0.out hBW.out) hb)
      go_wp2
      go_ret2
      exact ⟨none, 0, rfl, own64_nil _ _, hB2.out⟩
    · have hll := (M.isOrd_iff.1 hq.out).1
      have hg2 := (M.gcode_g Ht.out hq.out).2
      have hn1 : 1 ≤ l.length := by omega
      have hn24 : l.length ≤ 24 := by omega
      have hEx : Hid (M.exCode xs l i = if ¬ (0 ≤ i ∧ i ≤ (l.length : Int) - 2) then 2 else if M.grows (M.parents xs) l = true ∧ M.freeAt (M.parents xs) l i.toNat = true then 0 else 5) := by
        show _ = _
        rw [M.exCode, if_neg (by rw [hg2]; simp)]
      obtain ⟨bv, hbv⟩ : ∃ bv, Hid ((decide ((0 : Int) ≤ i) && decide (i ≤ (l.length : Int) - 2)) = bv) := ⟨_, rfl⟩
      obtain ⟨g, hg⟩ : ∃ g, Hid (M.grows (M.parents xs) l = g) := ⟨_, rfl⟩
      have hSt : ∀ X, Below W.heap.size W X → Calls Try.prog 84 #[.agg #[.slice A xs.length c], .slice A2 l.length c2] X fun e w' => e = .returned (.bool g) ∧ Below X.heap.size X w' := by
        intro X hX
        have := l09Growing A A2 xs l xs.length c c2 X rfl Ht hq (H1.out.be hX) (H2.out.be hX) g hg
        rw [hll]
        exact this
      have HSt := Lib.hid hSt
      have hFr : ∀ (j : Nat) X, j + 1 < l.length → Below W.heap.size W X → Calls Try.prog 80 #[.agg #[.slice A xs.length c], .slice A2 l.length c2, .int .i64 (j : Int)] X fun e w' => e = .returned (.bool (M.freeAt (M.parents xs) l j)) ∧ Below X.heap.size X w' := by
        intro j X hj hX
        have := l09Free A A2 xs l c c2 xs.length j X rfl Ht hq (by omega) (Lib.hid (H1.out.be hX)) (Lib.hid (H2.out.be hX))
        rw [hll]
        exact this
      have HFr := Lib.hid hFr
      cases bv
      · have hF : F_ExchangeAt xs l i = ([], 2) := F_ExchangeAt_no (by rw [hEx.out, if_pos (by have := hbv.out; simp at this; omega)]) (by decide)
        rw [hF]
        clear hF hll hg2 hSt hFr HSt HFr hEx hlen
        go_enter Try.func43, Try.ntmps43
        go_wp2_with fail
        rw [← HW.out]
        refine HI.out.mono ?_
        rintro e w1 ⟨rfl, hb⟩
        have hBW := Lib.hid hb
        have c1 := cell_be cT.out hb
        clear hb HI
        go_wp2_with fail
        refine (HO.out w1 hBW.out).mono ?_
        rintro e w2 ⟨rfl, hb⟩
        have hB2 := Lib.hid (btr (btr hB0.out hBW.out) hb)
        clear hb
        go_wp2_with fail
        refine (inAny i 0 _ w2 false hbv).mono ?_
        rintro e w3 ⟨rfl, rfl⟩
        go_wp2
        go_ret2
        exact ⟨none, 0, rfl, own64_nil _ _, hB2.out⟩
      · have hin : 0 ≤ i ∧ i ≤ (l.length : Int) - 2 := by have := hbv.out; simp at this; omega
        obtain ⟨j, rfl⟩ := Int.eq_ofNat_of_zero_le hin.1
        have hj : j + 1 < l.length := by omega
        have HFj := Lib.hid (fun X hX => HFr.out j X hj hX)
        obtain ⟨f, hf⟩ : ∃ f, Hid (M.freeAt (M.parents xs) l j = f) := ⟨_, rfl⟩
        rw [hf.out] at HFj
        have hE2 : Hid (M.exCode xs l (j : Int) = if g = true ∧ f = true then 0 else 5) := by
          show _ = _
          rw [hEx.out, if_neg (by omega), hg.out, Int.toNat_natCast, hf.out]
        clear hll hg2 hSt hFr HFr hEx hlen
        cases g
        · have hF : F_ExchangeAt xs l (j : Int) = ([], 5) := F_ExchangeAt_no (by rw [hE2.out]; simp) (by decide)
          rw [hF]
          clear hF hE2 HFj
          go_enter Try.func43, Try.ntmps43
          go_wp2_with fail
          rw [← HW.out]
          refine HI.out.mono ?_
          rintro e w1 ⟨rfl, hb⟩
          have hBW := Lib.hid hb
          have c1 := cell_be cT.out hb
          clear hb HI
          go_wp2_with fail
          refine (HO.out w1 hBW.out).mono ?_
          rintro e w2 ⟨rfl, hb⟩
          have hBW2 := Lib.hid (btr hBW.out hb)
          have c1 := cell_be c1 hb
          clear hb HO
          go_wp2_with fail
          refine (inAny (j : Int) 0 _ w2 true hbv).mono ?_
          rintro e w3 ⟨rfl, rfl⟩
          go_wp2_with fail
          refine (HSt.out w2 hBW2.out).mono ?_
          rintro e w4 ⟨rfl, hb⟩
          have hB4 := Lib.hid (btr (btr hB0.out hBW2.out) hb)
          go_wp2
          go_ret2
          exact ⟨none, 0, rfl, own64_nil _ _, hB4.out⟩
        · cases f
          · have hF : F_ExchangeAt xs l (j : Int) = ([], 5) := F_ExchangeAt_no (by rw [hE2.out]; simp) (by decide)
            rw [hF]
            clear hF hE2
            go_enter Try.func43, Try.ntmps43
            go_wp2_with fail
            rw [← HW.out]
            refine HI.out.mono ?_
            rintro e w1 ⟨rfl, hb⟩
            have hBW := Lib.hid hb
            have c1 := cell_be cT.out hb
            clear hb HI
            go_wp2_with fail
            refine (HO.out w1 hBW.out).mono ?_
            rintro e w2 ⟨rfl, hb⟩
            have hBW2 := Lib.hid (btr hBW.out hb)
            have c1 := cell_be c1 hb
            clear hb HO
            go_wp2_with fail
            refine (inAny (j : Int) 0 _ w2 true hbv).mono ?_
            rintro e w3 ⟨rfl, rfl⟩
            go_wp2_with fail
            refine (HSt.out w2 hBW2.out).mono ?_
            rintro e w4 ⟨rfl, hb⟩
            have hBW4 := Lib.hid (btr hBW2.out hb)
            have c1 := cell_be c1 hb
            clear hb HSt
            go_wp2_with fail
            refine (HFj.out w4 hBW4.out).mono ?_
            rintro e w5 ⟨rfl, hb⟩
            have hB5 := Lib.hid (btr (btr hB0.out hBW4.out) hb)
            go_wp2
            go_ret2
            exact ⟨none, 0, rfl, own64_nil _ _, hB5.out⟩
          · have hF : F_ExchangeAt xs l (j : Int) = (M.swapAt l j, 0) := by have := F_ExchangeAt_yes (xs := xs) (l := l) (i := (j : Int)) (by rw [hE2.out]; simp); rwa [Int.toNat_natCast] at this
            rw [hF]
            obtain ⟨x, hx1⟩ : ∃ x, Hid (l[j]? = some x) := ⟨_, List.getElem?_eq_getElem (by omega)⟩
            obtain ⟨y, hy1⟩ : ∃ y, Hid (l[j + 1]? = some y) := ⟨_, List.getElem?_eq_getElem (by omega)⟩
            have hsw : Hid (M.swapAt l j = (l.set j y).set (j + 1) x) := by show _ = _; rw [M.swapAt, hx1.out, hy1.out]; rfl
            obtain ⟨b, off, e2, hbl, hcs⟩ := H2.out (by omega)
            subst e2
            have hcs' : Hid (∀ X, Below W.heap.size W X → ∀ j x, l[j]? = some x → X.cell? ⟨b, off + j, none⟩ = some (.int .i64 x)) := fun X hX j x hj => (hX.cell (p := ⟨b, off + j, none⟩) hbl).trans (hcs j x hj)
            rw [show (M.swapAt l j, (0 : Int)).1 = M.swapAt l j from rfl, show (M.swapAt l j, (0 : Int)).2 = 0 from rfl, M.swapAt_len, hsw.out]
            have Hbl := Lib.hid hbl
            clear hF hE2 hcs hbl
            go_enter Try.func43, Try.ntmps43
            go_wp2_with fail
            rw [← HW.out]
            refine HI.out.mono ?_
            rintro e w1 ⟨rfl, hb⟩
            have hBW := Lib.hid hb
            have c1 := cell_be cT.out hb
            clear hb HI
            go_wp2_with fail
            refine (HO.out w1 hBW.out).mono ?_
            rintro e w2 ⟨rfl, hb⟩
            have hBW2 := Lib.hid (btr hBW.out hb)
            have c1 := cell_be c1 hb
            clear hb HO
            go_wp2_with fail
            refine (inAny (j : Int) 0 _ w2 true hbv).mono ?_
            rintro e w3 ⟨rfl, rfl⟩
            go_wp2_with fail
            refine (HSt.out w2 hBW2.out).mono ?_
            rintro e w4 ⟨rfl, hb⟩
            have hBW4 := Lib.hid (btr hBW2.out hb)
            have c1 := cell_be c1 hb
            clear hb HSt
            go_wp2_with fail
            refine (HFj.out w4 hBW4.out).mono ?_
            rintro e w5 ⟨rfl, hb⟩
            have hBW5 := Lib.hid (btr hBW4.out hb)
            have hB5 := Lib.hid (btr hB0.out hBW5.out)
            clear hb HFj c1
            have hI5 := Lib.hid (H2.out.be hBW5.out)
            go_wp2_with fail
            refine (l01Own (some ⟨b, off, none⟩) l l.length c2 w5 rfl (by omega) (Lib.hid (fun e => by cases e)) hI5).mono ?_
            rintro e w8 ⟨A8, c8, rfl, ho8, hb⟩
            have hB8 := Lib.hid (btr hB5.out hb)
            have hBW8 := Lib.hid (btr hBW5.out hb)
            have hz7 : w.heap.size ≤ w5.heap.size := hB5.out.size
            have Ho8 := Lib.hid (own_mono ho8 hz7)
            obtain ⟨g8, rfl⟩ : ∃ g8, A8 = some ⟨g8, 0, none⟩ := by
              rcases ho8.2 with ⟨h1, h2⟩ | ⟨g8, cap, cur, hv, _⟩
              · omega
              · injection hv with h1; exact ⟨g8, h1⟩
            have hg8 := (World.ownsRow.lt ho8 g8 rfl).1
            have hbg : b < g8 := by have := hBW5.out.size; have := Hbl.out; omega
            have hne : g8 ≠ b := by omega
            have c1 := hcs'.out w8 hBW8.out j x hx1.out
            have c2' := hcs'.out w8 hBW8.out (j + 1) y hy1.out
            obtain ⟨k1, q1, _, _⟩ := own64_cell Ho8.out rfl hx1.out
            have hO1 := own64_set Ho8.out rfl j y
            have hyy : (l.set j y)[j + 1]? = some y := by rw [List.getElem?_set_ne (by omega)]; exact hy1.out
            obtain ⟨k2, q2, _, _⟩ := own64_cell hO1 (by simp) hyy
            have c1s : (w8.setCell ⟨g8, j, none⟩ (.int .i64 y)).cell? ⟨b, off + j, none⟩ = some (.int .i64 x) := (World.cell?_setCell_other w8 (a := ⟨g8, j, none⟩) (b := ⟨b, off + j, none⟩) (v := .int .i64 y) (by intro e; injection e with e1; omega)).trans c1
            have hO2 := own64_set hO1 (by simp) (j + 1) x
            have HO1 := Lib.hid hO2
            have hj0 : (0 : Int) ≤ (j : Int) := by omega
            have hj1 : (j : Int) < (l.length : Int) := by omega
            have hj2 : (0 : Int) ≤ (j : Int) + 1 := by omega
            have hj3 : (j : Int) + 1 < (l.length : Int) := by omega
            have hton : ((j : Int) + 1).toNat = j + 1 := by omega
            have hw1 : IntKind.i64.wrap ((j : Int) + 1) = (j : Int) + 1 := IntWalk.i64_in _ (by omega)
            have hB9 : Hid (Below w.heap.size w ((w8.setCell ⟨g8, j, none⟩ (.int .i64 y)).setCell ⟨g8, j + 1, none⟩ (.int .i64 x))) := below_setCell (below_setCell hB8.out (by omega) _) (by omega) _
            clear hb ho8 hO1 hO2 hI5 H2 H1 hyy
            go_wp2
            go_ret2
            exact ⟨_, _, rfl, HO1.out, hB9.out⟩
  · have hF : F_ExchangeAt xs l i = ([], 1) := F_ExchangeAt_no (by rw [M.exCode, if_pos (by rw [(M.gcode_t ht).2]; decide), (M.gcode_t ht).2]) (by decide)
    rw [hF]
    rw [ht] at hI
    have HI := Lib.hid hI
    clear hF hI ht
    go_enter Try.func43, Try.ntmps43
    go_wp2_with fail
    rw [← HW.out]
    refine HI.out.mono ?_
    rintro e w1 ⟨rfl, hb⟩
    have hB1 := Lib.hid (btr hB0.out hb)
    go_wp2
    go_ret2
    exact ⟨none, 0, rfl, own64_nil _ _, hB1.out⟩
end Go.Proofs.Ytgnhmhfianmckaa
