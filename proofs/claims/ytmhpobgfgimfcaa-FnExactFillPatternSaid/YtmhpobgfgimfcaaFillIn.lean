/- Patterns filled with texts: l04Letters, filledText, l04Fill. -/
import Derived.Test.YtmhpobgfgimfcaaFill
import Derived.Test.YtmhpobgfgimfcaaNamed
import Derived.Test.YtmhpobgfgimfcaaName
import Derived.Test.YtmhpobgfgimfcaaTreeAt
import Derived.Test.YtmhpobgfgimfcaaWoodsIn
import Derived.Test.YtmhpobgfgimfcaaFnMatchesAt
namespace Go.Proofs.Ytmhpobgfgimfcaa
open Go.RowKit

set_option maxRecDepth 100000 in
set_option maxHeartbeats 2000000 in
theorem l04Letters (s : ByteArray) (w : World) (hs : s.size ≤ 1000000) (hok : Hid (∀ c ∈ s.data.toList, M.okP c)) :
    Calls Try.prog 74 #[.string s] w fun e w' => e = .returned (.int .i64 (M.numL s.data.toList : Int)) ∧ Hid (Below w.heap.size w w') := by
  have hL : Hid (s.data.toList.length = s.size) := (Lib.size_eq s).symm
  have hat : Hid (∀ k (h : k < s.size), s.data.toList[k]? = some s[k]) := fun k h => by
    rw [← List.head?_drop, byte_here s h]; rfl
  have hst : Hid (M.numL (s.data.toList.take 0) = 0) := rfl
  have hb0 := Lib.hid (b0 w)
  generalize s.data.toList = L at *
  go_enter Try.func74, Try.ntmps74
  go_wp2
  go_loopw [3, 4] (fun qc qi wr => ∃ (k n : Nat), k ≤ s.size ∧ n ≤ k ∧ qi = .int .i64 (k : Int) ∧ qc = .int .i64 (n : Int) ∧ Hid (Below w.heap.size w wr) ∧ Hid (M.numL (L.take k) = n)) (fun _ qi _ => s.size - (intOf qi).toNat)
  case atStart => exact ⟨0, 0, by omega, by omega, rfl, rfl, hb0, hst⟩
  case round =>
    obtain ⟨k, n, hk, hn, rfl, rfl, hB, hN⟩ := hrel
    clear hb0
    by_cases hlt : k < s.size
    · have hki : (k : Int) < (s.size : Int) := by omega
      have hx := M.numL_take (hat.out k hlt)
      rw [hN.out] at hx
      have hkind := hok.out _ (List.mem_of_getElem? (hat.out k hlt))
      cases hc : M.isL s[k]
      · rw [hc] at hx
        have hx2 : Hid (M.numL (L.take (k + 1)) = n) := hx
        clear hat hx hN hst hok
        rcases hkind with h | h | h
        · rw [hc] at h; cases h
        · have e40 : ((s[k].toNat : Int) != 40) = false := by rw [h]; rfl
          clear hc h
          go_wp2
          go_roundw
          case rel => exact ⟨k + 1, n, by omega, by omega, by go_num, rfl, hB, hx2⟩
          case measure => simp [intOf]; omega
        · have e40 : ((s[k].toNat : Int) != 40) = true := by rw [h]; rfl
          have e41 : ((s[k].toNat : Int) != 41) = false := by rw [h]; rfl
          clear hc h
          go_wp2
          go_roundw
          case rel => exact ⟨k + 1, n, by omega, by omega, by go_num, rfl, hB, hx2⟩
          case measure => simp [intOf]; omega
      · rw [hc] at hx
        have hx2 : Hid (M.numL (L.take (k + 1)) = n + 1) := hx
        have e40 : ((s[k].toNat : Int) != 40) = true := ne_byte (M.ne_open hc)
        have e41 : ((s[k].toNat : Int) != 41) = true := ne_byte (M.ne_shut hc)
        clear hat hx hN hc hst hok hkind
        go_wp2
        go_roundw
        case rel => exact ⟨k + 1, n + 1, by omega, by omega, by go_num, by go_num, hB, hx2⟩
        case measure => simp [intOf]; omega
    · obtain rfl : k = s.size := by omega
      have hx : M.numL L = n := by rw [← hN.out, List.take_of_length_le (by have := hL.out; omega)]
      clear hat hok
      go_wp2
      go_ret
      exact ⟨by rw [hx]; rfl, hB⟩

/-- the trees of an argument, with their capacities -/
def TreesC (w : World) (A : Option Addr) (zss : List (List Int)) : Prop :=
  0 < zss.length → ∃ b, A = some ⟨b, 0, none⟩ ∧ b < w.heap.size ∧ ∀ (k : Nat) (zs : List Int), zss[k]? = some zs → ∃ A' c', zs.length ≤ c' ∧ c' ≤ 9223372036854775807 ∧ w.cell? ⟨b, k, none⟩ = some (.slice A' zs.length c') ∧ Ints w w.heap.size A' zs
theorem TreesC.trees {w : World} {A : Option Addr} {zss : List (List Int)} (h : TreesC w A zss) : Trees w A zss := fun hp => by
  obtain ⟨b, h1, h2, h3⟩ := h hp
  refine ⟨b, h1, h2, fun k zs hk => ?_⟩
  obtain ⟨A', c', _, _, h4, h5⟩ := h3 k zs hk
  exact ⟨A', c', h4, h5⟩
theorem TreesC.be {w w' : World} {A : Option Addr} {zss : List (List Int)} (h : TreesC w A zss) (hb : Below w.heap.size w w') : TreesC w' A zss := fun hp => by
  obtain ⟨b, rfl, hlt, hk⟩ := h hp
  refine ⟨b, rfl, Nat.lt_of_lt_of_le hlt hb.size, fun k zs hz => ?_⟩
  obtain ⟨A', c', h3, h4, h1, h2⟩ := hk k zs hz
  exact ⟨A', c', h3, h4, (hb.cell (p := ⟨b, k, none⟩) hlt).trans h1, h2.be hb⟩
theorem own_caps {w : World} {B n c : Nat} {A : Option Addr} {zs : List Int} (h : Own64 w B (.slice A n c) zs) : n ≤ c ∧ c ≤ 9223372036854775807 := by
  rcases h.2 with ⟨e, _⟩ | ⟨g, cap, cur, hv, _, _, h4, h5, _⟩
  · injection e with e1 e2 e3; omega
  · injection hv with e1 e2 e3
    subst e3
    unfold maxLen at h5
    omega
theorem Woods.treesC {w : World} {B n c : Nat} {A : Option Addr} {hs : List Hdr} {zss : List (List Int)} (h : Woods w B (.slice A n c) hs zss) : TreesC w A zss := fun hp => by
  obtain ⟨h1, h2⟩ := h.shape
  obtain ⟨g, rfl⟩ := h2 (by omega)
  refine ⟨g, rfl, (World.ownsRow.lt h.row g rfl).2, fun k zs hk => ?_⟩
  obtain ⟨h', hk', ho, hl⟩ := h.at_ hk
  have hc := h.cell hk'
  obtain ⟨g', m, c'⟩ := h'
  simp only at hl
  subst hl
  have := own_caps ho
  exact ⟨_, _, this.1, this.2, hc, ints_of_own64 ho⟩

set_option maxRecDepth 100000 in
set_option maxHeartbeats 4000000 in
theorem filledText (p : ByteArray) (A : Option Addr) (zss : List (List Int)) (n c : Nat) (w : World) (hp : p.size ≤ 60) (hn : Hid (zss.length = n)) (hcn : n ≤ c) (hcu : c ≤ 9223372036854775807) (hnum : Hid (M.nL p.data.toList = n)) (ht : Hid (∀ zs ∈ zss, M.isTree zs = true)) (h : Hid (TreesC w A zss)) :
    Calls Try.prog 80 #[.string p, .slice A n c] w fun e w' => e = .returned (.string (M.bs (M.fillT p.data.toList (zss.map txt)))) ∧ Hid (Below w.heap.size w w') := by
  have hL : Hid (p.data.toList.length = p.size) := (Lib.size_eq p).symm
  have hby : Hid (∀ k (h : k < p.size), p.data.toList.drop k = p[k] :: p.data.toList.drop (k + 1)) := fun _ h => byte_here p h
  have hcut : Hid (∀ (k : Nat) (h : k < p.size) (W : World), (Instr.slice 9 (.string p) (some (.int .i64 (k : Int))) (some (.int .i64 ((k : Int) + 1))) none).run Try.prog W = .ok (.string (M.bs [p[k]])) W) := fun k h W => by
    have := run_slice_string (P := Try.prog) W 9 p .i64 .i64 (k : Int) ((k : Int) + 1) Try.underlying9 (by omega) (by omega) (by omega)
    rw [this, show ((k : Int)).toNat = k by omega, show ((k : Int) + 1).toNat = k + 1 by omega, cut_one p h]
  have hIs : Hid (∀ c W, Calls Try.prog 105 #[.int .u8 ((c : UInt8).toNat : Int)] W fun e w' => e = .returned (.bool (M.isL c)) ∧ w' = W) := isLetter
  obtain ⟨R, hR⟩ : ∃ R, M.fillT p.data.toList (zss.map txt) = R := ⟨_, rfl⟩
  rw [hR]
  have hst : Hid ((⟨#[]⟩ : ByteArray).data.toList ++ M.fillT (p.data.toList.drop 0) ((zss.drop 0).map txt) = R) := by simpa [Hid] using hR
  have hnum0 : Hid (M.nL (p.data.toList.drop 0) = n) := hnum
  have hA0 : Hid (0 < n → ∃ b, A = some ⟨b, 0, none⟩ ∧ A = some (⟨b, 0, none⟩ : Addr)) := fun h0 => by
    obtain ⟨b, hb, _⟩ := h.out (by rw [hn.out]; exact h0)
    exact ⟨b, hb, hb⟩
  have hb0 := Lib.hid (b0 w)
  clear hR hnum
  generalize p.data.toList = P at *
  go_enter Try.func80, Try.ntmps80
  go_wp2
  go_loopw [1, 5, 9] (fun ql qu qi wr => ∃ (k j m cc : Nat) (A' : Option Addr) (u : ByteArray), k ≤ p.size ∧ qi = .int .i64 (k : Int) ∧ qu = .string u ∧ u.size ≤ 48 * k ∧ ql = .slice A' m cc ∧ j + m = n ∧ m ≤ cc ∧ cc ≤ 9223372036854775807 ∧ Hid (j < n → ∃ b, A = some ⟨b, 0, none⟩ ∧ A' = some ⟨b, j, none⟩) ∧ Hid (M.nL (P.drop k) = m) ∧ Hid (u.data.toList ++ M.fillT (P.drop k) ((zss.drop j).map txt) = R) ∧ Hid (Below w.heap.size w wr)) (fun _ _ qi _ => p.size - (intOf qi).toNat)
  case atStart => exact ⟨0, 0, n, c, A, ⟨#[]⟩, by omega, rfl, rfl, by decide, rfl, by omega, hcn, hcu, hA0, hnum0, hst, hb0⟩
  case round =>
    obtain ⟨k, j, m, cc, A', u, hk, rfl, rfl, hu, rfl, hjm, hmc, hcc, hA, hnm, hT, hB⟩ := hrel
    clear hst hnum0 hA0 hb0
    by_cases hlt : k < p.size
    · have hki : (k : Int) < (p.size : Int) := by omega
      have hd := Lib.hid (hby.out k hlt)
      have hsl := hcut.out k hlt
      have hIK := fun W => Lib.hid (hIs.out p[k] W)
      cases hc : M.isL p[k]
      · rw [hc] at hIK
        have hZs : (M.bs [p[k]]).size = 1 := by rw [M.bs_size]; rfl
        have hsz : ¬ 9223372036854775807 < u.size + (M.bs [p[k]]).size := by omega
        have hT' : Hid ((u ++ M.bs [p[k]]).data.toList ++ M.fillT (P.drop (k + 1)) ((zss.drop j).map txt) = R) := by
          show _ = _
          rw [← hT.out, hd.out, M.fillT_other hc, ByteArray.data_append, Array.toList_append, M.bs_data, List.append_assoc]; rfl
        have hnm' : Hid (M.nL (P.drop (k + 1)) = m) := by
          show _ = _
          rw [← hnm.out, hd.out, M.nL_other hc]
        have hus : Hid ((u ++ M.bs [p[k]]).size ≤ 48 * (k + 1)) := by show _ ≤ _; rw [ByteArray.size_append]; omega
        clear hd hby hcut hIs hc hT hnm hZs
        generalize M.bs [p[k]] = Z at *
        go_wp2_with (go_at_call 105; refine (hIK _).out.mono ?_; rintro e w' ⟨rfl, hw⟩; subst hw)
        go_roundw
        case rel => exact ⟨k + 1, j, m, cc, A', _, by omega, by go_num, rfl, hus.out, rfl, hjm, hmc, hcc, hA, hnm', hT', hB⟩
        case measure => simp [intOf]; omega
      · rw [hc] at hIK
        have hm1 : 0 < m := by have := hnm.out; rw [hd.out, M.nL_let hc] at this; omega
        have hjn : j < n := by omega
        obtain ⟨b, hAb, hAj⟩ := hA.out hjn
        subst hAj
        obtain ⟨b', hAb', hbl, hcells⟩ := h.out (by rw [hn.out]; omega)
        have hbb : b = b' := by rw [hAb] at hAb'; injection hAb' with e; injection e
        subst hbb
        have hjz : j < zss.length := by rw [hn.out]; exact hjn
        have hat : zss[j]? = some zss[j] := List.getElem?_eq_getElem hjz
        have htj := ht.out _ (List.mem_of_getElem? hat)
        have hdr : (zss.drop j).map txt = txt zss[j] :: (zss.drop (j + 1)).map txt := by rw [List.drop_eq_getElem_cons hjz, List.map_cons]
        obtain ⟨A1, c1, h3, h4, h1, h2⟩ := hcells j _ hat
        generalize zss[j] = zs at hat htj hdr h1 h2 h3 h4
        have hcl : wr.cell? ⟨b, j, none⟩ = some (.slice A1 zs.length c1) := (hB.out.cell (p := ⟨b, j, none⟩) hbl).trans h1
        have hz24 := (M.tree_len htj).2
        have hTx : Hid (Calls Try.prog 70 #[.slice A1 zs.length c1] wr fun e w' => e = .returned (.string (M.textL 24 zs)) ∧ Hid (Below wr.heap.size wr w')) := textOf A1 zs c1 wr 24 (Lib.hid htj) hz24 h3 h4 (Lib.hid (h2.be hB.out))
        have hZs : (M.textL 24 zs).size ≤ 48 := by rw [M.textL_size 24 _ htj hz24]; omega
        have hsz : ¬ 9223372036854775807 < u.size + (M.textL 24 zs).size := by omega
        have hT' : Hid ((u ++ M.textL 24 zs).data.toList ++ M.fillT (P.drop (k + 1)) ((zss.drop (j + 1)).map txt) = R) := by
          show _ = _
          rw [← hT.out, hd.out, hdr, M.fillT_let hc, ByteArray.data_append, Array.toList_append, List.append_assoc]; rfl
        have hnm' : Hid (M.nL (P.drop (k + 1)) = m - 1) := by
          show _ = _
          have := hnm.out
          rw [hd.out, M.nL_let hc] at this
          omega
        have hus : Hid ((u ++ M.textL 24 zs).size ≤ 48 * (k + 1)) := by show _ ≤ _; rw [ByteArray.size_append]; omega
        have hm1i : (0 : Int) < (m : Int) := by omega
        have hm2i : (1 : Int) ≤ (m : Int) := by omega
        have hmi : (m : Int) ≤ (cc : Int) := by omega
        clear hd hby hcut hIs hc hT hnm hcells hAb' hat htj hdr h1 h2 hsl hZs hz24
        generalize M.textL 24 zs = Z at *
        by_cases hc1 : cc = 1
        · have hA' : Hid (j + 1 < n → ∃ b', A = some ⟨b', 0, none⟩ ∧ (some ⟨b, j, none⟩ : Option Addr) = some ⟨b', j + 1, none⟩) := fun h => by omega
          subst hc1
          obtain rfl : m = 1 := by omega
          go_wp2_with fail
          refine (hIK _).out.mono ?_
          rintro e w' ⟨rfl, hw⟩
          subst hw
          go_wp2_with fail
          refine hTx.out.mono ?_
          rintro e w2 ⟨rfl, hb2⟩
          have hB2 := Lib.hid (btr hB.out hb2.out)
          clear hb2 hB hTx hcl
          go_wp2
          go_roundw
          case rel => exact ⟨k + 1, j + 1, 0, _, _, _, by omega, by go_num, rfl, hus.out, rfl, by omega, by omega, by omega, hA', hnm', hT', hB2⟩
          case measure => simp [intOf]; omega
        · have hA' : Hid (j + 1 < n → ∃ b', A = some ⟨b', 0, none⟩ ∧ (some ⟨b, j + 1, none⟩ : Option Addr) = some ⟨b', j + 1, none⟩) := fun h => ⟨b, hAb, rfl⟩
          go_wp2_with fail
          refine (hIK _).out.mono ?_
          rintro e w' ⟨rfl, hw⟩
          subst hw
          go_wp2_with fail
          refine hTx.out.mono ?_
          rintro e w2 ⟨rfl, hb2⟩
          have hB2 := Lib.hid (btr hB.out hb2.out)
          clear hb2 hB hTx hcl
          go_wp2
          go_roundw
          case rel => exact ⟨k + 1, j + 1, m - 1, _, _, _, by omega, by go_num, rfl, hus.out, rfl, by omega, by omega, by omega, hA', hnm', hT', hB2⟩
          case measure => simp [intOf]; omega
    · obtain rfl : k = p.size := by omega
      have hR1 : Hid (M.bs R = u) := by
        show _ = _
        rw [← hT.out, List.drop_of_length_le (by have := hL.out; omega)]
        show M.bs (u.data.toList ++ []) = u
        rw [List.append_nil]; rfl
      clear hT hby hcut hIs
      go_wp2
      go_ret
      exact ⟨by rw [hR1.out]; rfl, hB⟩

set_option maxRecDepth 100000 in
set_option maxHeartbeats 4000000 in
theorem l04Fill (p : ByteArray) (A : Option Addr) (ts : List (List UInt8)) (n c : Nat) (w : World) (hp : p.size ≤ 60) (hok : Hid (∀ c ∈ p.data.toList, M.okP c)) (hn : Hid (ts.length = n)) (hnum : Hid (M.nL p.data.toList = n)) (h48 : Hid (∀ Y ∈ ts, Y.length ≤ 48)) (h : Hid (OwnS w 0 (.slice A n c) (ts.map M.bs))) :
    Calls Try.prog 75 #[.string p, .slice A n c] w fun e w' => e = .returned (.string (M.bs (M.fillT p.data.toList ts))) ∧ Hid (Below w.heap.size w w') := by
  have hL : Hid (p.data.toList.length = p.size) := (Lib.size_eq p).symm
  have hby : Hid (∀ k (h : k < p.size), p.data.toList.drop k = p[k] :: p.data.toList.drop (k + 1)) := fun _ h => byte_here p h
  have hat : Hid (∀ k (h : k < p.size), p.data.toList[k]? = some p[k]) := fun k h => by
    rw [← List.head?_drop, byte_here p h]; rfl
  have hcut : Hid (∀ (k : Nat) (h : k < p.size) (W : World), (Instr.slice 9 (.string p) (some (.int .i64 (k : Int))) (some (.int .i64 ((k : Int) + 1))) none).run Try.prog W = .ok (.string (M.bs [p[k]])) W) := fun k h W => by
    have := run_slice_string (P := Try.prog) W 9 p .i64 .i64 (k : Int) ((k : Int) + 1) Try.underlying9 (by omega) (by omega) (by omega)
    rw [this, show ((k : Int)).toNat = k by omega, show ((k : Int) + 1).toNat = k + 1 by omega, cut_one p h]
  obtain ⟨R, hR⟩ : ∃ R, M.fillT p.data.toList ts = R := ⟨_, rfl⟩
  rw [hR]
  have hst : Hid ((⟨#[]⟩ : ByteArray).data.toList ++ M.fillT (p.data.toList.drop 0) (ts.drop 0) = R) := by simpa [Hid] using hR
  have hnum0 : Hid (M.nL (p.data.toList.drop 0) = n - 0) := hnum
  have hb0 := Lib.hid (b0 w)
  have hn60 : n ≤ 60 := by have h1 := hnum.out; have h2 := M.nL_le p.data.toList; have h3 := hL.out; omega
  clear hR hnum
  generalize p.data.toList = P at *
  go_enter Try.func75, Try.ntmps75
  go_wp2
  go_loopw [5, 6, 7] (fun qu qa qi wr => ∃ (k j : Nat) (u : ByteArray), k ≤ p.size ∧ qi = .int .i64 (k : Int) ∧ qu = .string u ∧ u.size ≤ 48 * k ∧ qa = .int .i64 (j : Int) ∧ j ≤ n ∧ Hid (M.nL (P.drop k) = n - j) ∧ Hid (u.data.toList ++ M.fillT (P.drop k) (ts.drop j) = R) ∧ Hid (Below w.heap.size w wr)) (fun _ _ qi _ => p.size - (intOf qi).toNat)
  case atStart => exact ⟨0, 0, ⟨#[]⟩, by omega, rfl, rfl, by decide, rfl, by omega, hnum0, hst, hb0⟩
  case round =>
    obtain ⟨k, j, u, hk, rfl, rfl, hu, rfl, hjn, hnm, hT, hB⟩ := hrel
    clear hst hnum0 hb0
    by_cases hlt : k < p.size
    · have hki : (k : Int) < (p.size : Int) := by omega
      have hd := Lib.hid (hby.out k hlt)
      have hsl := hcut.out k hlt
      have hkind := hok.out _ (List.mem_of_getElem? (hat.out k hlt))
      cases hc : M.isL p[k]
      · have hZs : (M.bs [p[k]]).size = 1 := by rw [M.bs_size]; rfl
        have hsz : ¬ 9223372036854775807 < u.size + (M.bs [p[k]]).size := by omega
        have hT' : Hid ((u ++ M.bs [p[k]]).data.toList ++ M.fillT (P.drop (k + 1)) (ts.drop j) = R) := by
          show _ = _
          rw [← hT.out, hd.out, M.fillT_other hc, ByteArray.data_append, Array.toList_append, M.bs_data, List.append_assoc]; rfl
        have hnm' : Hid (M.nL (P.drop (k + 1)) = n - j) := by
          show _ = _
          rw [← hnm.out, hd.out, M.nL_other hc]
        have hus : Hid ((u ++ M.bs [p[k]]).size ≤ 48 * (k + 1)) := by show _ ≤ _; rw [ByteArray.size_append]; omega
        clear hd hby hcut hT hnm hZs hat hok
        generalize M.bs [p[k]] = Z at *
        rcases hkind with h | h | h
        · rw [hc] at h; cases h
        · have e40 : ((p[k].toNat : Int) == 40) = true := by rw [h]; rfl
          clear hc h
          go_wp2
          go_roundw
          case rel => exact ⟨k + 1, j, _, by omega, by go_num, rfl, hus.out, rfl, hjn, hnm', hT', hB⟩
          case measure => simp [intOf]; omega
        · have e40 : ((p[k].toNat : Int) == 40) = false := by rw [h]; rfl
          have e41 : ((p[k].toNat : Int) == 41) = true := by rw [h]; rfl
          clear hc h
          go_wp2
          go_roundw
          case rel => exact ⟨k + 1, j, _, by omega, by go_num, rfl, hus.out, rfl, hjn, hnm', hT', hB⟩
          case measure => simp [intOf]; omega
      · have e40 : ((p[k].toNat : Int) == 40) = false := beq_eq_false_iff_ne.2 (by simpa using ne_byte (M.ne_open hc))
        have e41 : ((p[k].toNat : Int) == 41) = false := beq_eq_false_iff_ne.2 (by simpa using ne_byte (M.ne_shut hc))
        have hm1 : 0 < n - j := by have := hnm.out; rw [hd.out, M.nL_let hc] at this; omega
        have hjz : j < ts.length := by rw [hn.out]; omega
        have hatj : ts[j]? = some ts[j] := List.getElem?_eq_getElem hjz
        have hYl := h48.out _ (List.mem_of_getElem? hatj)
        have hdr : ts.drop j = ts[j] :: ts.drop (j + 1) := List.drop_eq_getElem_cons hjz
        generalize ts[j] = Y at hatj hYl hdr
        obtain ⟨g, rfl, hcl, hgl⟩ := ownS_cell h.out (k := j) (x := M.bs Y) (by rw [List.getElem?_map, hatj]; rfl)
        have hcl' : ∀ m, (wr.drewN m).cell? ⟨g, j, none⟩ = some (.string (M.bs Y)) := fun m => (hB.out.cell (p := ⟨g, j, none⟩) hgl).trans hcl
        have hcl0 : wr.cell? ⟨g, j, none⟩ = some (.string (M.bs Y)) := hcl' 0
        have hji : (j : Int) < (n : Int) := by omega
        have hj0 : (0 : Int) ≤ (j : Int) := by omega
        have hZs : (M.bs Y).size ≤ 48 := by rw [M.bs_size]; exact hYl
        have hsz : ¬ 9223372036854775807 < u.size + (M.bs Y).size := by omega
        have hT' : Hid ((u ++ M.bs Y).data.toList ++ M.fillT (P.drop (k + 1)) (ts.drop (j + 1)) = R) := by
          show _ = _
          rw [← hT.out, hd.out, hdr, M.fillT_let hc, ByteArray.data_append, Array.toList_append, M.bs_data, List.append_assoc]
        have hnm' : Hid (M.nL (P.drop (k + 1)) = n - (j + 1)) := by
          show _ = _
          have := hnm.out
          rw [hd.out, M.nL_let hc] at this
          omega
        have hus : Hid ((u ++ M.bs Y).size ≤ 48 * (k + 1)) := by show _ ≤ _; rw [ByteArray.size_append]; omega
        clear hd hby hcut hc hT hnm hatj hdr hsl hZs hat hok hkind hcl h
        generalize M.bs Y = Z at *
        go_wp2
        go_roundw
        case rel => exact ⟨k + 1, j + 1, _, by omega, by go_num, rfl, hus.out, by go_num, by omega, hnm', hT', hB⟩
        case measure => simp [intOf]; omega
    · obtain rfl : k = p.size := by omega
      have hR1 : Hid (M.bs R = u) := by
        show _ = _
        rw [← hT.out, List.drop_of_length_le (by have := hL.out; omega)]
        show M.bs (u.data.toList ++ []) = u
        rw [List.append_nil]; rfl
      clear hT hby hcut hok hat
      go_wp2
      go_ret
      exact ⟨by rw [hR1.out]; rfl, hB⟩
end Go.Proofs.Ytmhpobgfgimfcaa
