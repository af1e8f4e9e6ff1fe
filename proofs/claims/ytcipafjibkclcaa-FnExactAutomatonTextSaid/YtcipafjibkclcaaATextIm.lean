/- AutomatonText, the program's: a row of the texts of the lists, joined. -/
import Derived.Test.YtcipafjibkclcaaFnAutomatonText
import Derived.Test.YtcipafjibkclcaaStrs
import Derived.Test.YtcipafjibkclcaaShelf
import Derived.Deep.RegionHeld3
import Derived.Lib.Join
namespace Go.Proofs.Ytcipafjibkclcaa
open Go.RowKit

theorem ownS_made {w : World} {B n : Nat} (hB : B ≤ w.heap.size) (hn : n ≤ maxLen) :
    OwnS (w.alloc (.cells (madeCells #[.string ⟨#[]⟩] n) 9)) B (.slice (some ⟨w.heap.size, 0, none⟩) n n) (List.replicate n ⟨#[]⟩) := by
  have h := World.ownsRow_lit (e := 9) (size := 1) w (madeCells #[.string ⟨#[]⟩] n) n hB hn (by simp [size_madeCells])
  rw [toList_madeCells_one] at h
  simpa [OwnS] using h
theorem ownS_set {w : World} {B g n c : Nat} {zs : List ByteArray} (h : OwnS w B (.slice (some ⟨g, 0, none⟩) n c) zs) (hn : zs.length = n) (k : Nat) (x : ByteArray) :
    OwnS (w.setCell ⟨g, k, none⟩ (.string x)) B (.slice (some ⟨g, 0, none⟩) n c) (zs.set k x) := by
  subst hn
  have := (World.ownsRow.stored h k (.string x)).1
  simpa [OwnS, List.map_set] using this
theorem ownS_cells {w : World} {B g n c : Nat} {zs : List ByteArray} (h : OwnS w B (.slice (some ⟨g, 0, none⟩) n c) zs) (hn : zs.length = n) {k : Nat} {x : ByteArray} (hx : zs[k]? = some x) :
    w.cell? ⟨g, k, none⟩ = some (.string x) ∧ w.frozen? ⟨g, k, none⟩ = false := by
  subst hn
  have hk : k < zs.length := (List.getElem?_eq_some_iff.1 hx).1
  exact ⟨(World.ownsRow.cellAt h k (by omega)).trans (by simp [hx]), World.ownsRow.frozenAt h k⟩

namespace M
/-- the texts of the first k lists -/
def tsTo (Ss : List (List Int)) (m k : Nat) : List ByteArray := (List.range m).map fun i => if i < k then bs (dig (Ss[i]?.getD [])) else ⟨#[]⟩
theorem tsTo_len (Ss : List (List Int)) (m k : Nat) : (tsTo Ss m k).length = m := by simp [tsTo]
theorem tsTo_zero (Ss : List (List Int)) (m : Nat) : tsTo Ss m 0 = List.replicate m ⟨#[]⟩ := by
  apply List.ext_getElem?
  intro i
  by_cases h : i < m
  · simp [tsTo, h]
  · simp [tsTo, h]
theorem tsTo_set {Ss : List (List Int)} {m k : Nat} {r : List Int} (h : Ss[k]? = some r) : (tsTo Ss m k).set k (bs (dig r)) = tsTo Ss m (k + 1) := by
  apply List.ext_getElem?
  intro i
  rw [List.getElem?_set, tsTo_len]
  by_cases hi : i < m
  · by_cases e : k = i
    · subst e
      rw [if_pos rfl, if_pos hi]
      simp [tsTo, hi, h]
    · rw [if_neg e]
      by_cases h2 : i < k
      · have h3 : i < k + 1 := by omega
        simp [tsTo, hi, h2, h3]
      · have h3 : ¬ i < k + 1 := by omega
        simp [tsTo, hi, h2, h3]
  · by_cases e : k = i
    · subst e
      rw [if_pos rfl, if_neg hi]
      simp [tsTo, hi]
    · rw [if_neg e]
      simp [tsTo, hi]
theorem tsTo_all {Ss : List (List Int)} {m : Nat} (h : Ss.length = m) : (tsTo Ss m m).map (·.data.toList) = Ss.map dig := by
  apply List.ext_getElem?
  intro i
  by_cases hi : i < m
  · have hi2 : i < Ss.length := by omega
    simp [tsTo, hi, hi2, bs_data]
  · have hi2 : ¬ i < Ss.length := by omega
    simp [tsTo, hi, hi2]
theorem join_to (x : List Int) (r : List (List Int)) : ∀ k, k ≤ r.length → joinTo (x :: r) (k + 1) = dig x ++ Lib.joinTail [47] ((r.map dig).take k) := by
  intro k
  induction k with
  | zero => intro _; simp [joinTo, Lib.joinTail]
  | succ k ih =>
    intro hk
    obtain ⟨y, hy⟩ : ∃ y, r[k]? = some y := ⟨_, List.getElem?_eq_getElem (by omega)⟩
    have hy2 : (x :: r)[k + 1]? = some y := by simpa using hy
    have hy3 : (r.map dig)[k]? = some (dig y) := by simp [hy]
    rw [joinTo, ih (by omega), if_pos (by omega), hy2, Lib.joinTail_take_succ _ _ _ _ hy3]
    simp [List.append_assoc]
theorem join_dig {Ss : List (List Int)} (h : 0 < Ss.length) : Lib.join (Ss.map dig) [47] = joinTo Ss Ss.length := by
  cases Ss with
  | nil => simp at h
  | cons x r =>
    rw [List.map_cons, Lib.join_cons, List.length_cons, join_to x r r.length (Nat.le_refl _), List.take_of_length_le (by simp)]
end M

set_option maxRecDepth 100000 in
set_option maxHeartbeats 4000000 in
theorem impl_AutomatonText : GivesAText 57 := by
  intro st As Ag Ss gs m cm g cg w hm hm' hg hg' h
  obtain ⟨W, hW⟩ : ∃ W, W = w.alloc (.cells #[.int .i64 st, .slice As m cm, .slice Ag g cg] 40) := ⟨_, rfl⟩
  have C1 : Hid (BoxA W w.heap.size st As m cm Ag g cg) := by subst hW; exact BoxA.new _ _ _ _ _ _ _ _ _
  have hBW : Hid (Below w.heap.size w W) := by subst hW; exact bal (b0 w) _
  have HW := Lib.hid hW
  clear hW
  obtain ⟨b1, hb1⟩ : ∃ b, Hid (M.isAuto st Ss gs = b) := ⟨_, rfl⟩
  have HA := Lib.hid (impl_IsAutomaton st As Ag Ss gs m cm g cg W hm hm' hg hg' (Lib.hid (h.out.be hBW.out)) b1 hb1)
  cases b1
  · have hno : F_AutomatonText st Ss gs = (⟨#[]⟩, 1) := by rw [F_AutomatonText, hb1.out]; rfl
    rw [hno]
    clear hno h
    go_enter Try.func57, Try.ntmps57
    go_wp2_with fail
    rw [← HW.out]
    obtain ⟨a0, a1, a2⟩ := C1.out
    refine HA.out.mono ?_
    rintro e w1 ⟨rfl, hb⟩
    have B1 : Hid (Below w.heap.size w w1) := btr hBW.out hb.out
    go_wp2
    go_ret2
    exact ⟨rfl, B1⟩
  · have hyes : F_AutomatonText st Ss gs = (M.bs (M.autoText st Ss gs), 0) := by rw [F_AutomatonText, hb1.out]; rfl
    rw [hyes]
    have hIA : Hid (M.IsA st Ss gs m) := by rw [← hm.out]; exact M.isA_of hb1.out
    have hm9 := hIA.out.le
    have hm1 := hIA.out.pos
    have hst9 : 0 ≤ st ∧ st ≤ 9 := by have := hIA.out.st0; have := hIA.out.st1; omega
    have hg9 : g ≤ 9 := by have := M.good_le hIA.out.good; have := hg.out; omega
    have hR := h.out.rows
    obtain ⟨bb, off, rfl, hbl, hc⟩ := hR (by rw [hm.out]; exact hm1)
    have HC := Lib.hid hc
    have hmk := run_make_row' (P := Try.prog) 108 9 (.string ⟨#[]⟩) 16 Try.underlying108 infoStr rfl .i64 .i64 m (by omega) (by omega)
    clear hyes hc hR
    go_enter Try.func57, Try.ntmps57
    go_wp2_with fail
    rw [← HW.out]
    obtain ⟨a0, a1, a2⟩ := C1.out
    refine HA.out.mono ?_
    rintro e w1 ⟨rfl, hb⟩
    have B1 : Hid (Below w.heap.size w w1) := btr hBW.out hb.out
    have C2 := Lib.hid (C1.out.be hb.out)
    obtain ⟨d0, d1, d2⟩ := C1.out.be hb.out
    have hx1 : w.heap.size < w1.heap.size := C2.out.lt
    have ho := ownS_made (w := w1) (B := w1.heap.size) (n := m) (Nat.le_refl _) (by unfold maxLen; omega)
    have hO0 : Hid (OwnS (w1.alloc (.cells (madeCells #[.string ⟨#[]⟩] m) 9)) w1.heap.size (.slice (some ⟨w1.heap.size, 0, none⟩) m m) (M.tsTo Ss m 0)) := by rw [M.tsTo_zero]; exact ho
    have hb0 : Hid (Below w1.heap.size w1 (w1.alloc (.cells (madeCells #[.string ⟨#[]⟩] m) 9))) := bal (b0 w1) _
    clear a0 a1 a2 hb HA C1 ho
    go_wp2
    clear hmk d0 d1 d2
    go_loopw [17] (fun i wr => ∃ k : Nat, k ≤ m ∧ i = .int .i64 (k : Int) ∧ Hid (OwnS wr w1.heap.size (.slice (some ⟨w1.heap.size, 0, none⟩) m m) (M.tsTo Ss m k)) ∧ Hid (Below w1.heap.size w1 wr)) (fun i _ => m - (intOf i).toNat)
    case atStart => exact ⟨0, Nat.zero_le _, rfl, hO0, hb0⟩
    case round =>
      obtain ⟨k, hk, rfl, hO, hb⟩ := hrel
      clear hO0 hb0
      have hBk := Lib.hid (btr B1.out hb.out)
      by_cases hlt : k < m
      · have hki : (k : Int) < (m : Int) := by omega
        have hk0 : (0 : Int) ≤ (k : Int) := by omega
        obtain ⟨r, hr⟩ : ∃ r, Ss[k]? = some r := ⟨_, List.getElem?_eq_getElem (by rw [hIA.out.len]; exact hlt)⟩
        obtain ⟨A1, e1, h1, h2, h3⟩ := HC.out k r hr
        have hrl := (hIA.out.row r (List.mem_of_getElem? hr)).1
        have g1 := (hBk.out.cell (p := ⟨bb, off + k, none⟩) hbl).trans h1
        rw [hrl] at g1
        have HD := Lib.hid (fun X => fun hX : Hid (Below w.heap.size w X) => Lib.hid (digitsOf A1 r m e1 X (Lib.hid hrl) (by omega) (Lib.hid (M.row_dig hIA.out hr)) (Lib.hid (h3.be hX.out))))
        have hts := Lib.hid (M.tsTo_set (m := m) hr)
        generalize M.bs (M.dig r) = D at *
        clear h1 h3 hr hrl
        go_wp2_with fail
        refine ((HD.out _ hBk).out).mono ?_
        rintro e w2 ⟨rfl, hb2⟩
        have hO2 := ownS_be hO.out hb2.out
        obtain ⟨y, hy⟩ : ∃ y, (M.tsTo Ss m k)[k]? = some y := ⟨_, List.getElem?_eq_getElem (by rw [M.tsTo_len]; exact hlt)⟩
        obtain ⟨k1, k2⟩ := ownS_cells hO2 (M.tsTo_len _ _ _) hy
        have hset := ownS_set hO2 (M.tsTo_len _ _ _) k D
        rw [hts.out] at hset
        have Hset := Lib.hid hset
        have hb3 := Lib.hid (below_setCell (g := w1.heap.size) (k := k) (btr hb.out hb2.out) (Nat.le_refl _) (.string D))
        clear hset hy hO2 hO hb hb2 HD hts
        go_wp2
        go_roundw
        case rel => exact ⟨k + 1, by omega, by go_num, Hset, hb3⟩
        case measure => simp [intOf]; omega
      · obtain rfl : k = m := by omega
        have hge : ¬ (k : Int) < (k : Int) := by omega
        obtain ⟨c0, c1, c2⟩ := C2.out.be hb.out
        have hlJ : (M.joinTo Ss k).length ≤ 90 := by have := M.joinTo_len hIA.out k; omega
        have hJs : (M.bs (M.joinTo Ss k)).size ≤ 90 := hlJ
        have hDs : (M.bs (M.dig [st])).size = 1 := rfl
        have hGs : (M.bs (M.dig gs)).size ≤ 9 := by rw [M.bs_size, M.dig_len, hg.out]; exact hg9
        have hend : Hid (M.bs (M.dig [st]) ++ (⟨#[58]⟩ : ByteArray) ++ M.bs (M.joinTo Ss k) ++ (⟨#[58]⟩ : ByteArray) ++ M.bs (M.dig gs) = M.bs (M.autoText st Ss gs)) := by
          show _ = _
          have := hIA.out.len
          rw [M.autoText, this, ← M.bs_append, ← M.bs_append, ← M.bs_append, ← M.bs_append]; rfl
        have HJ : Hid (∀ X, Hid (Below wr.heap.size wr X) → Calls Try.prog 105 #[.slice (some ⟨w1.heap.size, 0, none⟩) k k, .string ⟨#[47]⟩] X fun e w' => e = .returned (.string (M.bs (M.joinTo Ss k))) ∧ Hid (Below X.heap.size X w')) := fun X hX => by
          have hO2 := ownS_be hO.out hX.out
          have hl := M.tsTo_all (Ss := Ss) hIA.out.len
          have hj := M.join_dig (Ss := Ss) (by have := hIA.out.len; omega)
          rw [← hl, hIA.out.len] at hj
          have e47 : (⟨#[47]⟩ : ByteArray).data.toList = [47] := rfl
          have := Try.strings_Join w1.heap.size 0 k (M.tsTo Ss k k) ⟨#[47]⟩ X (fun j x hx => by rw [Nat.zero_add]; exact (ownS_cells hO2 (M.tsTo_len _ _ _) hx).1) (World.ownsRow.lt hO2 w1.heap.size rfl).2 (by rw [M.tsTo_len]; omega) (by rw [M.tsTo_len]; exact Nat.le_refl _) (by rw [e47, hj]; omega)
          rw [M.tsTo_len, e47, hj] at this
          exact this.mono fun e w' ⟨h1, h2⟩ => ⟨h1, h2⟩
        have HG := Lib.hid (fun X => fun hX : Hid (Below wr.heap.size wr X) => Lib.hid (digitsOf Ag gs g cg X hg (by omega) (Lib.hid (M.good_dig hm9 hIA.out.good)) (Lib.hid (h.out.good.be (btr hBk.out hX.out)))))
        have hI1 := ints_new wr.drew #[.int .i64 st] [st] rfl
        have HD := digitsOf (some ⟨wr.drew.heap.size, 0, none⟩) [st] 1 1 (wr.drew.alloc (.cells #[.int .i64 st] 2)) (Lib.hid rfl) (by omega) (Lib.hid (fun x hx => by rw [List.mem_singleton] at hx; rw [hx]; exact hst9)) (Lib.hid (by simpa using hI1))
        have HD1 := Lib.hid HD
        generalize M.bs (M.dig [st]) = D at *
        generalize M.bs (M.dig gs) = G at *
        generalize M.bs (M.joinTo Ss k) = J at *
        have z1 : ¬ 9223372036854775807 < 2 + J.size := by omega
        have z2 : ¬ 9223372036854775807 < 2 + J.size + 1 := by omega
        have z3 : ¬ 9223372036854775807 < 2 + J.size + 1 + G.size := by omega
        have K0 : Hid (Below wr.heap.size wr wr.drew) := (Below.refl _ _).drew
        have e0 : wr.drew.cell? ⟨w.heap.size, 0, none⟩ = some (.int .i64 st) := c0
        have e2 : wr.drew.cell? ⟨w.heap.size, 2, none⟩ = some (.slice Ag g cg) := c2
        have E0 := Lib.hid c0
        have E2 := Lib.hid c2
        clear HD hI1 hO c0 c1 c2 HC h C2
        go_wp2
        go_region_held3 (fun w' => w'.cell? ⟨w.heap.size, 0, none⟩ = some (.int .i64 st) ∧ w'.cell? ⟨w.heap.size, 2, none⟩ = some (.slice Ag g cg) ∧ Hid (Below wr.heap.size wr w')) (first | exact ⟨e0, e2, K0⟩ | exact ⟨cellK (Hid.out (by assumption)) E0.out, cellK (Hid.out (by assumption)) E2.out, by assumption⟩ | exact ⟨cellK (bal K0.out _) E0.out, cellK (bal K0.out _) E2.out, bal K0.out _⟩) (first | (go_at_call_of 104 (Value.slice Ag g cg); refine (HG.out _ hb6).out.mono ?_; rintro e w7 ⟨rfl, hb⟩; have hb7 : Hid (Below wr.heap.size wr w7) := btr hb6.out hb.out) | (go_at_call 104; refine HD1.out.mono ?_; rintro e w5 ⟨rfl, hb⟩; have hb5 : Hid (Below wr.heap.size wr w5) := btr (bal K0.out _) hb.out) | (go_at_call 105; refine (HJ.out _ hb5).mono ?_; rintro e w6 ⟨rfl, hb⟩; have hb6 : Hid (Below wr.heap.size wr w6) := btr hb5.out hb.out))
        all_goals
          have B7 : Hid (Below w.heap.size w w7) := btr hBk.out hb7.out
          go_wp2
          go_ret2
          exact ⟨by rw [← hend.out]; rfl, B7⟩
end Go.Proofs.Ytcipafjibkclcaa
