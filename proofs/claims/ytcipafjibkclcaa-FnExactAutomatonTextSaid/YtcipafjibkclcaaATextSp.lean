/- AutomatonText, the model's: the text of an automaton, or a code. -/
import Derived.Test.YtcipafjibkclcaaDigits
import Derived.Test.YtcipafjibkclcaaFnIsAutomaton
namespace Go.Proofs.Ytcipafjibkclcaa
open Go.RowKit

namespace M
theorem good_dig {gs : List Int} {m : Nat} (hm : m ≤ 9) (h : goodTo gs m gs.length = true) : ∀ x ∈ gs, 0 ≤ x ∧ x ≤ 9 := by
  intro x hx
  obtain ⟨j, hj⟩ := List.getElem?_of_mem hx
  have h1 := goodAt_iff.1 (goodTo_each h j (List.getElem?_eq_some_iff.1 hj).1)
  rw [hj, Option.getD_some] at h1
  omega
theorem row_dig {st : Int} {Ss : List (List Int)} {gs : List Int} {m : Nat} (h : IsA st Ss gs m) {k : Nat} {r : List Int} (hr : Ss[k]? = some r) : ∀ x ∈ r, 0 ≤ x ∧ x ≤ 9 := by
  intro x hx
  have := (h.row r (List.mem_of_getElem? hr)).2 x hx
  have := h.le
  omega
/-- the lists of steps with '/' between them -/
def joinTo (Ss : List (List Int)) : Nat → List UInt8
  | 0 => []
  | k + 1 => joinTo Ss k ++ (if 0 < k then [47] else []) ++ dig (Ss[k]?.getD [])
theorem joinTo_len {st : Int} {Ss : List (List Int)} {gs : List Int} {m : Nat} (h : IsA st Ss gs m) : ∀ k, (joinTo Ss k).length ≤ 10 * k := by
  intro k
  induction k with
  | zero => simp [joinTo]
  | succ k ih =>
    have h1 : (Ss[k]?.getD []).length ≤ 9 := by
      cases hk : Ss[k]? with
      | none => simp
      | some r => have := (h.row r (List.mem_of_getElem? hk)).1; have := h.le; show r.length ≤ 9; omega
    rw [joinTo, List.length_append, List.length_append, dig_len]
    have h2 : (if 0 < k then ([47] : List UInt8) else []).length ≤ 1 := by split <;> simp
    omega
theorem join_first (P : List UInt8) {Ss : List (List Int)} {r : List Int} (h : Ss[0]? = some r) : bs (P ++ joinTo Ss 0) ++ bs (dig r) = bs (P ++ joinTo Ss 1) := by
  rw [bs_append]; simp [joinTo, h]
theorem join_next (P : List UInt8) {Ss : List (List Int)} {k : Nat} {r : List Int} (h : Ss[k]? = some r) (hk : 0 < k) : bs (P ++ joinTo Ss k) ++ (⟨#[47]⟩ : ByteArray) ++ bs (dig r) = bs (P ++ joinTo Ss (k + 1)) := by
  have e : (⟨#[47]⟩ : ByteArray) = bs [47] := rfl
  rw [e, bs_append, bs_append, joinTo, if_pos hk, h, Option.getD_some, List.append_assoc, List.append_assoc, List.append_assoc]
def autoText (st : Int) (Ss : List (List Int)) (gs : List Int) : List UInt8 := dig [st] ++ [58] ++ joinTo Ss Ss.length ++ [58] ++ dig gs
end M
def F_AutomatonText (st : Int) (Ss : List (List Int)) (gs : List Int) : ByteArray × Int := if M.isAuto st Ss gs = true then (M.bs (M.autoText st Ss gs), 0) else (⟨#[]⟩, 1)

set_option maxRecDepth 100000 in
set_option maxHeartbeats 4000000 in
theorem l06Text (st : Int) (As Ag : Option Addr) (Ss : List (List Int)) (gs : List Int) (m cm g cg : Nat) (w : World) (hA : Hid (M.IsA st Ss gs m)) (hg : Hid (gs.length = g)) (h : Hid (AutoR w As Ss Ag gs)) :
    Calls Try.prog 103 #[.agg #[.int .i64 st, .slice As m cm, .slice Ag g cg]] w fun e w' => e = .returned (.string (M.bs (M.autoText st Ss gs))) ∧ Hid (Below w.heap.size w w') := by
  obtain ⟨W, hW⟩ : ∃ W, W = w.alloc (.cells #[.int .i64 st, .slice As m cm, .slice Ag g cg] 40) := ⟨_, rfl⟩
  have C1 : Hid (BoxA W w.heap.size st As m cm Ag g cg) := by subst hW; exact BoxA.new _ _ _ _ _ _ _ _ _
  have hBW : Hid (Below w.heap.size w W) := by subst hW; exact bal (b0 w) _
  have HW := Lib.hid hW
  clear hW
  have hm9 := hA.out.le
  have hm1 := hA.out.pos
  have hst0 := hA.out.st0
  have hst1 := hA.out.st1
  have hg9 : g ≤ 9 := by have := M.good_le hA.out.good; have := hg.out; omega
  have hst9 : 0 ≤ st ∧ st ≤ 9 := by omega
  have HD := Lib.hid (fun W => Lib.hid (l01Dec1 st W hst9))
  have hR := h.out.rows
  obtain ⟨bb, off, rfl, hbl, hc⟩ := hR (by rw [hA.out.len]; exact hm1)
  have HC := Lib.hid hc
  have HG := Lib.hid (fun W => fun hW : Hid (Below w.heap.size w W) => Lib.hid (l06Digits Ag gs g cg W hg (by omega) (Lib.hid (M.good_dig hm9 hA.out.good)) (Lib.hid ((h.out.good.be hW.out)))))
  have hst : Hid (M.bs (M.dig [st]) ++ (⟨#[58]⟩ : ByteArray) = M.bs (M.dig [st] ++ [58] ++ M.joinTo Ss 0)) := by show _ = _; rw [M.joinTo, List.append_nil, ← M.bs_append]; rfl
  have hs1 : (M.bs (M.dig [st])).size = 1 := rfl
  have hend : Hid (M.bs (M.dig [st] ++ [58] ++ M.joinTo Ss m) ++ (⟨#[58]⟩ : ByteArray) ++ M.bs (M.dig gs) = M.bs (M.autoText st Ss gs)) := by
    show _ = _
    have := hA.out.len
    rw [M.autoText, this, ← M.bs_append, ← M.bs_append]; rfl
  have hsg : (M.bs (M.dig gs)).size ≤ 9 := by rw [M.bs_size, M.dig_len, hg.out]; exact hg9
  have hsk : Hid (∀ k, k ≤ m → (M.bs (M.dig [st] ++ [58] ++ M.joinTo Ss k)).size ≤ 100) := fun k hk => by
    rw [M.bs_size, List.length_append, List.length_append, M.dig_len]
    have := M.joinTo_len hA.out k
    simp only [List.length_cons, List.length_nil]
    omega
  generalize M.bs (M.dig [st]) = D at *
  generalize M.dig [st] ++ [58] = P at *
  generalize M.bs (M.dig gs) = G at *
  generalize M.bs (M.autoText st Ss gs) = R at *
  clear hc hR h
  go_enter Try.func103, Try.ntmps103
  go_wp2_with fail
  rw [← HW.out]
  refine (HD.out W).out.mono ?_
  rintro e w1 ⟨rfl, hb1⟩
  obtain ⟨c0, c1, c2⟩ := C1.out.be hb1.out
  have hB1 := Lib.hid (btr hBW.out hb1.out)
  have C2 := Lib.hid (C1.out.be hb1.out)
  have hW1 := Lib.hid (Below.refl w1.heap.size w1)
  clear hb1 HD C1
  go_wp2
  clear c0 c1 c2
  rw [hst.out]
  clear hst
  go_loopw [3, 4] (fun q i wr => ∃ k : Nat, k ≤ m ∧ i = .int .i64 (k : Int) ∧ q = .string (M.bs (P ++ M.joinTo Ss k)) ∧ Hid (Below w1.heap.size w1 wr)) (fun _ i _ => m - (intOf i).toNat)
  case atStart => exact ⟨0, Nat.zero_le _, rfl, rfl, hW1⟩
  case round =>
    obtain ⟨k, hk, rfl, rfl, hb⟩ := hrel
    clear hW1
    obtain ⟨c0, c1, c2⟩ := C2.out.be hb.out
    have hBk := Lib.hid (btr hB1.out hb.out)
    by_cases hlt : k < m
    · have hki : (k : Int) < (m : Int) := by omega
      have hk0 : (0 : Int) ≤ (k : Int) := by omega
      obtain ⟨r, hr⟩ : ∃ r, Ss[k]? = some r := ⟨_, List.getElem?_eq_getElem (by rw [hA.out.len]; exact hlt)⟩
      obtain ⟨A1, e1, h1, h2, h3⟩ := HC.out k r hr
      have hrl := (hA.out.row r (List.mem_of_getElem? hr)).1
      have g1 := (hBk.out.cell (p := ⟨bb, off + k, none⟩) hbl).trans h1
      rw [hrl] at g1
      have HD := Lib.hid (fun X => fun hX : Hid (Below w.heap.size w X) => Lib.hid (l06Digits A1 r m e1 X (Lib.hid hrl) (by omega) (Lib.hid (M.row_dig hA.out hr)) (Lib.hid (h3.be hX.out))))
      have hz := hsk.out k hk
      have hdz : (M.bs (M.dig r)).size ≤ 9 := by rw [M.bs_size, M.dig_len, hrl]; exact hm9
      rcases Nat.eq_zero_or_pos k with h0 | h0
      · subst h0
        rw [Nat.add_zero] at g1
        have hj := Lib.hid (M.join_first P hr)
        generalize M.bs (P ++ M.joinTo Ss 0) = R0 at *
        generalize M.bs (M.dig r) = D at *
        clear h1 h3 hr hrl
        go_wp2_with fail
        refine ((HD.out _ hBk).out).mono ?_
        rintro e w2 ⟨rfl, hb2⟩
        have hb3 := Lib.hid (btr hb.out hb2.out)
        clear hb2 HD
        go_wp2
        go_roundw
        case rel => exact ⟨0 + 1, by omega, by go_num, by rw [← hj.out], hb3⟩
        case measure => simp [intOf]; omega
      · have h0i : (0 : Int) < (k : Int) := by omega
        have hj := Lib.hid (M.join_next P hr h0)
        generalize M.bs (P ++ M.joinTo Ss k) = R0 at *
        generalize M.bs (M.dig r) = D at *
        clear h1 h3 hr hrl
        go_wp2_with fail
        refine ((HD.out _ hBk).out).mono ?_
        rintro e w2 ⟨rfl, hb2⟩
        have hb3 := Lib.hid (btr hb.out hb2.out)
        clear hb2 HD
        go_wp2
        go_roundw
        case rel => exact ⟨k + 1, by omega, by go_num, by rw [← hj.out], hb3⟩
        case measure => simp [intOf]; omega
    · obtain rfl : k = m := by omega
      have hge : ¬ (k : Int) < (k : Int) := by omega
      have hz := hsk.out k (Nat.le_refl _)
      clear hsk
      generalize M.bs (P ++ M.joinTo Ss k) = R0 at *
      go_wp2_with fail
      refine ((HG.out _ hBk).out).mono ?_
      rintro e w2 ⟨rfl, hb2⟩
      have hb3 := Lib.hid (btr hBk.out hb2.out)
      clear hb2
      go_wp2
      go_ret
      exact ⟨by rw [← hend.out]; rfl, hb3⟩
end Go.Proofs.Ytcipafjibkclcaa
