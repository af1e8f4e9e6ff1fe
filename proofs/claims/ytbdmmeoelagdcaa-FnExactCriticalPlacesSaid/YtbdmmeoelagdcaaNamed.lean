/- Rows of bytes made from texts; lettersIn, namedInOrder. -/
import Derived.Test.YtbdmmeoelagdcaaComText
import Derived.Test.YtbdmmeoelagdcaaName
import Derived.Laws.IdiomStrings
namespace Go.Proofs.Ytbdmmeoelagdcaa
open Go.RowKit

/-- the block g holds the bytes of a text -/
def RowU (w : World) (g : Nat) (l : List UInt8) : Prop := g < w.heap.size ∧ ∀ (j : Nat) (c : UInt8), l[j]? = some c → w.cell? ⟨g, j, none⟩ = some (.int .u8 (c.toNat : Int)) ∧ w.frozen? ⟨g, j, none⟩ = false
theorem rowU_set {w : World} {g : Nat} {l : List UInt8} (h : RowU w g l) {k : Nat} (hk : k < l.length) (c : UInt8) : RowU (w.setCell ⟨g, k, none⟩ (.int .u8 (c.toNat : Int))) g (l.set k c) := by
  refine ⟨by simpa using h.1, fun j b hb => ?_⟩
  rw [List.getElem?_set] at hb
  by_cases e : k = j
  · subst e
    rw [if_pos rfl, if_pos hk] at hb
    injection hb with hb
    subst hb
    have h1 := h.2 k l[k] (List.getElem?_eq_getElem hk)
    exact ⟨World.cell?_setCell_same _ _ _ h1.1, by rw [World.frozen?_setCell]; exact h1.2⟩
  · rw [if_neg e] at hb
    have h1 := h.2 j b hb
    refine ⟨?_, by rw [World.frozen?_setCell]; exact h1.2⟩
    rw [World.cell?_setCell_other _ _ _ _ (by intro e2; injection e2 with _ e3 _; exact e e3)]
    exact h1.1
theorem rowU_be {w w' : World} {g : Nat} {l : List UInt8} (h : RowU w g l) (hb : Below w.heap.size w w') : RowU w' g l :=
  ⟨by have := h.1; have := hb.size; omega, fun j c hc => ⟨(hb.cell (p := ⟨g, j, none⟩) h.1).trans (h.2 j c hc).1, (hb.frozen (p := ⟨g, j, none⟩) h.1).trans (h.2 j c hc).2⟩⟩
/-- '[]byte(s)' -/
theorem bytes_of (s : ByteArray) (w : World) : ∃ cap w', (convert 9 98 (.string s)).run Try.prog w = .ok (.slice (some ⟨w.heap.size, 0, none⟩) s.size cap) w' ∧ RowU w' w.heap.size s.data.toList ∧ Below w.heap.size w w' := by
  have h := run_bytes_of_string (P := Try.prog) w 9 98 5 s Try.underlying9 Try.underlying98 Try.underlying5
  refine ⟨_, _, h, ⟨by simp, fun j c hc => ?_⟩, (b0 w).drew.alloc (by simp) _⟩
  have hj := (List.getElem?_eq_some_iff.1 hc).1
  have hj' : j < s.data.size := by simpa using hj
  have h1 := bytesRow_at s (grownCap w s.size 0 5) j hj'
  have hcc : s.data[j] = c := by
    rw [List.getElem?_eq_getElem hj] at hc
    injection hc with hc
  rw [hcc] at h1
  have hsz : j < (bytesRow s (grownCap w s.size 0 5)).size := by
    simp only [bytesRow, Array.size_append, Array.size_map]
    omega
  exact ⟨(World.cell?_alloc_mark w.drew _ _ _ j).trans h1, by
    have := World.frozen?_alloc_mark w.drew (bytesRow s (grownCap w s.size 0 5)) 5 (bytesRow s (grownCap w s.size 0 5)).size ((bytesRow s (grownCap w s.size 0 5)).size + 1) j
    rw [decide_eq_false (by omega : ¬ (bytesRow s (grownCap w s.size 0 5)).size ≤ j)] at this
    simpa using this⟩
/-- 'string(b)' -/
theorem bytes_back (l : List UInt8) (g n cap : Nat) (w : World) (hn : l.length = n) (h : RowU w g l) : (convert 98 9 (.slice (some ⟨g, 0, none⟩) n cap)).run Try.prog w = .ok (.string (M.bs l)) w := by
  subst hn
  refine run_convert_bytes_back (P := Try.prog) w 98 9 5 ⟨g, 0, none⟩ cap l Try.underlying98 Try.underlying5 Try.underlying9 fun j hj => ?_
  have := (h.2 j l[j] (List.getElem?_eq_getElem hj)).1
  rw [← this]
  have : (⟨g, 0, none⟩ : Addr).add j = ⟨g, j, none⟩ := by unfold Addr.add; split <;> simp_all
  rw [this]

set_option maxRecDepth 100000 in
set_option maxHeartbeats 1000000 in
theorem lettersIn (s : ByteArray) (w : World) (hs : s.size ≤ 1000000) : Calls Try.prog 88 #[.string s] w fun e w' => e = .returned (.int .i64 (M.numL s.data.toList : Int)) ∧ w' = w := by
  have hL : Hid (s.data.toList.length = s.size) := (Lib.size_eq s).symm
  have hat : Hid (∀ k (h : k < s.size), s.data.toList[k]? = some s[k]) := fun k h => by
    rw [← List.head?_drop, byte_here s h]; rfl
  have hIs : Hid (∀ c W, Calls Try.prog 98 #[.int .u8 ((c : UInt8).toNat : Int)] W fun e w' => e = .returned (.bool (M.isL c)) ∧ w' = W) := isLetter
  have hst : Hid (M.numL (s.data.toList.take 0) = 0) := rfl
  generalize s.data.toList = L at *
  go_enter Try.func88, Try.ntmps88
  go_wp2
  go_loopw [3, 7] (fun qc qi wr => ∃ (k n : Nat), k ≤ s.size ∧ n ≤ k ∧ qi = .int .i64 (k : Int) ∧ qc = .int .i64 (n : Int) ∧ wr = w ∧ Hid (M.numL (L.take k) = n)) (fun _ qi _ => s.size - (intOf qi).toNat)
  case atStart => exact ⟨0, 0, by omega, by omega, rfl, rfl, rfl, hst⟩
  case round =>
    obtain ⟨k, n, hk, hn, rfl, rfl, rfl, hN⟩ := hrel
    by_cases hlt : k < s.size
    · have hki : (k : Int) < (s.size : Int) := by omega
      have hI := fun W => Lib.hid (hIs.out s[k] W)
      have hx := M.numL_take (hat.out k hlt)
      rw [hN.out] at hx
      cases hc : M.isL s[k]
      · rw [hc] at hI hx
        have hx2 : Hid (M.numL (L.take (k + 1)) = n) := hx
        clear hat hIs hx hN hc hst
        go_wp2_with (go_at_call 98; refine (hI _).out.mono ?_; rintro e w' ⟨rfl, hw⟩; subst hw)
        go_roundw
        case rel => exact ⟨k + 1, n, by omega, by omega, by go_num, rfl, trivial, hx2⟩
        case measure => simp [intOf]; omega
      · rw [hc] at hI hx
        have hx2 : Hid (M.numL (L.take (k + 1)) = n + 1) := hx
        clear hat hIs hx hN hc hst
        go_wp2_with (go_at_call 98; refine (hI _).out.mono ?_; rintro e w' ⟨rfl, hw⟩; subst hw)
        go_roundw
        case rel => exact ⟨k + 1, n + 1, by omega, by omega, by go_num, by go_num, trivial, hx2⟩
        case measure => simp [intOf]; omega
    · obtain rfl : k = s.size := by omega
      have hx : M.numL L = n := by rw [← hN.out, List.take_of_length_le (by have := hL.out; omega)]
      clear hat hIs
      go_wp2
      go_ret
      exact ⟨by rw [hx]; rfl, rfl⟩

/-- the letters from the number n on -/
def lettersFrom (n : Nat) : ByteArray := M.bs (([97, 98, 99, 100, 101, 102, 103, 104] : List UInt8).drop n)
theorem lettersFrom_size (n : Nat) : (lettersFrom n).size = 8 - n := by rw [lettersFrom, M.bs_size, List.length_drop]; rfl
theorem lettersFrom_at : ∀ n : Fin 8, ∀ _h : 0 < (lettersFrom n.1).size, (lettersFrom n.1)[0].toNat = 97 + n.1 := by decide +kernel
theorem lettersFrom_next (n : Nat) : M.bs ((lettersFrom n).data.toList.drop 1) = lettersFrom (n + 1) := by
  rw [lettersFrom, lettersFrom, M.bs_data, List.drop_drop]
theorem ofNat_let {n : Nat} (h : n < 150) : ((UInt8.ofNat (97 + n)).toNat : Int) = 97 + (n : Int) := by rw [UInt8.toNat_ofNat']; omega

set_option maxRecDepth 100000 in
set_option maxHeartbeats 4000000 in
theorem namedInOrder (s : ByteArray) (w : World) (hs : s.size ≤ 1000) (h8 : M.numL s.data.toList ≤ 8) : Calls Try.prog 92 #[.string s] w fun e w' => e = .returned (.string (M.bs (M.nameFrom 0 s.data.toList))) ∧ Hid (Below w.heap.size w w') := by
  have hL : Hid (s.data.toList.length = s.size) := (Lib.size_eq s).symm
  have hIs : Hid (∀ c W, Calls Try.prog 98 #[.int .u8 ((c : UInt8).toNat : Int)] W fun e w' => e = .returned (.bool (M.isL c)) ∧ w' = W) := isLetter
  obtain ⟨cap, w1, hconv, hrow, hb⟩ := bytes_of s w
  have hrow' : Hid (RowU w1 w.heap.size (M.namedTo s.data.toList 0)) := by rw [M.namedTo_zero]; exact hrow
  have hb' := Lib.hid hb
  have hst : Hid (M.numL (s.data.toList.take 0) = 0) := rfl
  have hbk : Hid (∀ W, RowU W w.heap.size (M.nameFrom 0 s.data.toList) → (convert 98 9 (.slice (some ⟨w.heap.size, 0, none⟩) s.size cap)).run Try.prog W = .ok (.string (M.bs (M.nameFrom 0 s.data.toList))) W) := fun W h => bytes_back _ _ _ _ W (by rw [M.nameFrom_len, hL.out]) h
  clear hrow hb
  generalize s.data.toList = L at *
  go_enter Try.func92, Try.ntmps92
  go_wp2
  clear hconv
  go_loopw [4, 11] (fun qz qi wr => ∃ (k n : Nat), k ≤ s.size ∧ n ≤ 8 ∧ qi = .int .i64 (k : Int) ∧ qz = .string (lettersFrom n) ∧ Hid (Below w.heap.size w wr) ∧ Hid (M.numL (L.take k) = n) ∧ Hid (RowU wr w.heap.size (M.namedTo L k))) (fun _ qi _ => s.size - (intOf qi).toNat)
  case atStart => exact ⟨0, 0, by omega, by omega, rfl, rfl, hb', hst, hrow'⟩
  case round =>
    obtain ⟨k, n, hk, hn, rfl, rfl, hB, hN, hR⟩ := hrel
    clear hst hrow' hb'
    by_cases hlt : k < s.size
    · have hki : (k : Int) < (s.size : Int) := by omega
      obtain ⟨c, hc⟩ : ∃ c, L[k]? = some c := ⟨_, List.getElem?_eq_getElem (by rw [hL.out]; exact hlt)⟩
      have hcell := hR.out.2 k c (M.namedTo_at hc)
      have hc1 := hcell.1
      have hc2 := hcell.2
      have hI := fun W => Lib.hid (hIs.out c W)
      have hx := M.numL_take hc
      rw [hN.out] at hx
      cases hl : M.isL c
      · rw [hl] at hI hx
        have hx2 : Hid (M.numL (L.take (k + 1)) = n) := hx
        have hR2 : Hid (RowU wr w.heap.size (M.namedTo L (k + 1))) := by rw [M.namedTo_other hc hl]; exact hR.out
        clear hIs hx hN hl hcell hR hbk hc
        go_wp2_with (go_at_call 98; refine (hI _).out.mono ?_; rintro e w' ⟨rfl, hw⟩; subst hw)
        go_roundw
        case rel => exact ⟨k + 1, n, by omega, by omega, by go_num, rfl, hB, hx2, hR2⟩
        case measure => simp [intOf]; omega
      · rw [hl] at hI hx
        have hx2 : Hid (M.numL (L.take (k + 1)) = n + 1) := hx
        have hn8 : n < 8 := by have := M.numL_take_le L (k + 1); have := hx2.out; omega
        have hz0 : 0 < (lettersFrom n).size := by rw [lettersFrom_size n]; omega
        have hz1 : ((lettersFrom n)[0].toNat : Int) = ((UInt8.ofNat (97 + n)).toNat : Int) := by
          rw [ofNat_let (by omega)]
          have := lettersFrom_at ⟨n, hn8⟩ hz0
          simp only at this
          omega
        have hz2 : ∀ W, (Instr.slice 9 (.string (lettersFrom n)) (some (.int .i64 1)) none none).run Try.prog W = .ok (.string (lettersFrom (n + 1))) W := fun W => by
          have := run_slice_string_l (P := Try.prog) W 9 (lettersFrom n) Try.underlying9 .i64 1 (by omega) (by omega)
          rw [this, show ((1 : Int)).toNat = 1 by rfl, cut_from, lettersFrom_next]
        have hR2 : Hid (RowU (wr.setCell ⟨w.heap.size, k, none⟩ (.int .u8 ((lettersFrom n)[0].toNat : Int))) w.heap.size (M.namedTo L (k + 1))) := by
          show RowU _ _ _
          rw [hz1, M.namedTo_let hc hl, hN.out]
          exact rowU_set hR.out (by rw [M.namedTo_len, hL.out]; exact hlt) _
        have hB2 : Hid (Below w.heap.size w (wr.setCell ⟨w.heap.size, k, none⟩ (.int .u8 ((lettersFrom n)[0].toNat : Int)))) := below_setCell hB.out (Nat.le_refl _) _
        clear hIs hx hN hl hcell hR hbk hc hB hz1
        obtain ⟨Z2, hZ2⟩ : ∃ Z2, Hid (lettersFrom (n + 1) = Z2) := ⟨_, rfl⟩
        rw [hZ2.out] at hz2
        generalize lettersFrom n = Z at *
        go_wp2_with (go_at_call 98; refine (hI _).out.mono ?_; rintro e w' ⟨rfl, hw⟩; subst hw)
        go_roundw
        case rel => exact ⟨k + 1, n + 1, by omega, by omega, by go_num, by rw [hZ2.out], hB2, hx2, hR2⟩
        case measure => simp [intOf]; omega
    · obtain rfl : k = s.size := by omega
      have hE := hbk.out wr (by rw [← M.namedTo_end L (by rw [hL.out]; exact Nat.le_refl _)]; exact hR.out)
      clear hIs hbk hR
      go_wp2
      go_ret
      exact ⟨rfl, hB⟩
end Go.Proofs.Ytbdmmeoelagdcaa
