/- Lists of trees: append of one; equal, marked, held. -/
import Derived.Test.YtbdmmeoelagdcaaWoods
import Derived.Test.YtbdmmeoelagdcaaTot
namespace Go.Proofs.Ytbdmmeoelagdcaa
open Go.RowKit

set_option maxRecDepth 100000 in
theorem pushTree {ops : Array Oper} {rest : List Oper} {o : Oper} {a : Act} {Q : Exit → Act → World → Prop} (hgd : o.guard = none) (s x : Operand)
    (ho : o.op = .call { callee := .builtin .append, args := #[s, x], argTypes := #[39, 39] }) (w : World) (B : Nat) (A : Option Addr) (n c : Nat) (hs : List Hdr) (zss : List (List Int)) (h0 : Hdr) (zs : List Int)
    (hs0 : a.eval s = .slice A n c) (hx : a.eval x = .slice (some ⟨w.heap.size, 0, none⟩) 1 1) (hW : Hid (Woods w B (.slice A n c) hs zss)) (hrow : Hid (Own64 w B (hdr h0) zs)) (hne : Hid ((Value.slice A n c).ownBlock ≠ some h0.1)) (hfr : Hid (∀ h' ∈ hs, h'.1 ≠ h0.1)) (hB : B ≤ w.heap.size) (hlen : n ≤ 1000000)
    (h : ∀ A' c' w', Hid (Woods w' B (.slice A' (n + 1) c') (hs ++ [h0]) (zss ++ [zs])) → Hid (Below B w w') → wpList Try.prog ops Q rest (a.put o.dst (.slice A' (n + 1) c')) w') :
    wpList Try.prog ops Q (o :: rest) a (w.alloc (.cells #[hdr h0] 29)) := by
  obtain ⟨i0, hi0, hz0, hz1, hz2⟩ := info_parts infoTree
  have hn : hs.length = n := by rw [hW.out.len]; exact hW.out.shape.1.symm
  refine wpList_append_own_at _ hgd s x 39 ho B 29 i0 (.agg #[.slice none 0 0]) 1 24 Try.underlying39 hi0 hz0 hz1 hz2 rfl (by decide) _ hs.length (hs.map hdr) hs0 (hW.out.row.alloc _) ⟨w.heap.size, 0, none⟩ 1 1 [hdr h0] hx rfl (cell_one_new _ _ _) ?_ ?_ ?_ ?_ ?_
  · intro u hu; simp at hu; subst hu; rfl
  · unfold maxLen; omega
  · omega
  · simp; omega
  · intro v' w1 hown1 hg1 _ _
    obtain ⟨A', c', rfl⟩ : ∃ A' c', v' = .slice A' (hs.length + 1) c' := own_shape hown1
    have hres := woods_pushed hW.out hrow.out hne.out hfr.out hown1 hg1
    rw [hn] at hres ⊢
    exact h A' c' w1 hres (((Below.refl B w).alloc hB _).grown hg1 (by simp; omega) (fun k hk => (World.ownsRow.lt hW.out.row k hk).1))

set_option maxRecDepth 100000 in
set_option maxHeartbeats 2000000 in
theorem eqTreeS (A A' : Option Addr) (zss : List (List Int)) (n c c' : Nat) (w : World) (hn : Hid (zss.length = n)) (hn' : n ≤ 1000000000000) (hz : Hid (∀ zs ∈ zss, zs.length ≤ 1000000000000)) (h : Hid (Trees w A zss)) (h' : Hid (Trees w A' zss)) :
    Calls Try.prog 33 #[.slice A n c, .slice A' n c'] w fun e w' => e = .returned (.bool true) ∧ Below w.heap.size w w' := by
  have hne : ((n : Int) != (n : Int)) = false := by simp
  go_enter Try.func33, Try.ntmps33
  go_wp2
  go_loopw [5] (fun i wr => ∃ k : Nat, k ≤ n ∧ i = .int .i64 (k : Int) ∧ Hid (Below w.heap.size w wr)) (fun i _ => n - (intOf i).toNat)
  case atStart => exact ⟨0, Nat.zero_le _, rfl, b0 w⟩
  case round =>
    obtain ⟨k, hk, rfl, hb⟩ := hrel
    clear hne
    by_cases hlt : k < n
    · have hki : (k : Int) < (n : Int) := by omega
      have hk0 : (0 : Int) ≤ (k : Int) := by omega
      have hkz : k < zss.length := by rw [hn.out]; exact hlt
      have hat : zss[k]? = some zss[k] := List.getElem?_eq_getElem hkz
      have hzk := hz.out _ (List.mem_of_getElem? hat)
      generalize zss[k] = zs at hat hzk
      obtain ⟨b, rfl, hbl, hc⟩ := h.out (by omega)
      obtain ⟨b', rfl, hbl', hc'⟩ := h'.out (by omega)
      obtain ⟨A1, c1, h1, h2⟩ := hc k zs hat
      obtain ⟨A2, c2, h3, h4⟩ := hc' k zs hat
      have HC : Hid (∀ W', Hid (Below w.heap.size w W') → W'.cell? ⟨b, k, none⟩ = some (.slice A1 zs.length c1) ∧ W'.cell? ⟨b', k, none⟩ = some (.slice A2 zs.length c2)) := fun W' hW' => ⟨(hW'.out.cell (p := ⟨b, k, none⟩) hbl).trans h1, (hW'.out.cell (p := ⟨b', k, none⟩) hbl').trans h3⟩
      have HE : Hid (∀ W', Hid (Below w.heap.size w W') → Calls Try.prog 24 #[.agg #[.slice A1 zs.length c1], .agg #[.slice A2 zs.length c2]] W' fun e w' => e = .returned (.bool true) ∧ Hid (Below w.heap.size w w')) := fun W' hW' =>
        (eqTreeT A1 A2 zs c1 c2 W' (by omega) (h2.be hW'.out) (h4.be hW'.out)).mono fun e w' ⟨he, hb'⟩ => ⟨he, btr hW'.out hb'⟩
      have K0 : Hid (Below w.heap.size w wr.drew) := hb.out.drew
      obtain ⟨d1, d2⟩ := HC.out _ K0
      obtain ⟨e1, e2⟩ := HC.out _ hb
      clear hat hc hc' h1 h2 h3 h4 hbl hbl' hkz
      go_wp2
      go_region_held3 (fun w' => w'.cell? ⟨b, k, none⟩ = some (.slice A1 zs.length c1) ∧ w'.cell? ⟨b', k, none⟩ = some (.slice A2 zs.length c2)) (first | exact ⟨d1, d2⟩ | exact HC.out _ (by assumption)) (first | (go_at_call 24; refine (HE.out _ K0).mono ?_; rintro e w7 ⟨rfl, hb7⟩))
      clear d1 d2 e1 e2 K0 HE HC hb
      go_wp2
      go_roundw
      case rel => exact ⟨k + 1, by omega, by go_num, hb7⟩
      case measure => simp [intOf]; omega
    · obtain rfl : k = n := by omega
      have hge : ¬ (k : Int) < (k : Int) := by omega
      go_wp2
      go_ret
      exact ⟨rfl, hb.out⟩


/-- behind a write into one row -/
theorem Woods.set {w w' : World} {B : Nat} {v : Value} {hs : List Hdr} {zss zss' : List (List Int)} {k : Nat} {h' : Hdr} {ys : List Int} (h : Woods w B v hs zss) (hk : hs[k]? = some h') (hl : zss'.length = zss.length) (ho : ∀ j, j ≠ k → zss'[j]? = zss[j]?) (hy : zss'[k]? = some ys)
    (hown : Own64 w' B (hdr h') ys) (hg : w.grownBy w' (some h'.1)) : Woods w' B v hs zss' := by
  refine ⟨h.row.kept hg (.inr (h.off (List.mem_of_getElem? hk))), by rw [hl]; exact h.len, fun j h2 zs hj hz => ?_, h.apart⟩
  by_cases hjk : j = k
  · subst hjk
    rw [hk] at hj
    rw [hy] at hz
    injection hj with hj
    injection hz with hz
    subst hj
    subst hz
    exact hown
  · rw [ho j hjk] at hz
    exact (h.each j h2 zs hj hz).kept hg (.inr fun e => h.apart j k h2 h' hj hk hjk (by injection e))

set_option maxRecDepth 100000 in
set_option maxHeartbeats 2000000 in
theorem markTreeS (A : Option Addr) (n c : Nat) (hs : List Hdr) (zss : List (List Int)) (m : Int) (B : Nat) (w : World) (hn : Hid (zss.length = n)) (hn' : n ≤ 100000000) (hT : Hid (M.tot zss ≤ 2000000000)) (hm : 0 ≤ m) (hm' : m ≤ 100000000000) (hB : B ≤ w.heap.size) (hW : Hid (Woods w B (.slice A n c) hs zss)) :
    Calls Try.prog 34 #[.slice A n c, .int .i64 m] w fun e w' => e = .returned (.int .i64 (m + (M.tot zss : Int))) ∧ Woods w' B (.slice A n c) hs (M.partM m zss n) ∧ Below B w w' ∧ (∀ j, j < w.heap.size → (∀ h' ∈ hs, h'.1 ≠ j) → w'.heap[j]? = w.heap[j]?) := by
  go_enter Try.func34, Try.ntmps34
  go_wp2
  go_loopw [1, 5] (fun q i wr => ∃ k : Nat, k ≤ n ∧ i = .int .i64 (k : Int) ∧ q = .int .i64 (m + (M.tot (zss.take k) : Int)) ∧ Hid (Woods wr B (.slice A n c) hs (M.partM m zss k)) ∧ Hid (Below B w wr) ∧ Hid (∀ j, j < w.heap.size → (∀ h' ∈ hs, h'.1 ≠ j) → wr.heap[j]? = w.heap[j]?)) (fun _ i _ => n - (intOf i).toNat)
  case atStart => exact ⟨0, Nat.zero_le _, rfl, by simp [M.tot], by rw [M.partM_zero]; exact hW, Below.refl _ _, fun _ _ _ => rfl⟩
  case round =>
    obtain ⟨k, hk, rfl, rfl, hWk, hb, hfr⟩ := hrel
    clear hW
    by_cases hlt : k < n
    · have hki : (k : Int) < (n : Int) := by omega
      have hk0 : (0 : Int) ≤ (k : Int) := by omega
      have hkz : k < zss.length := by rw [hn.out]; exact hlt
      have hat : zss[k]? = some zss[k] := List.getElem?_eq_getElem hkz
      have hzk := M.tot_mem (List.mem_of_getElem? hat)
      have hT2 := hT.out
      generalize zss[k] = zs at hat hzk
      have htk := M.tot_take_le zss k
      have hts := Lib.hid (M.tot_take hat)
      obtain ⟨t, ht⟩ : ∃ t, Hid (M.tot (zss.take k) = t) := ⟨_, rfl⟩
      rw [ht.out] at hts htk ⊢
      obtain ⟨g, hA⟩ := hWk.out.shape.2 (by omega)
      subst hA
      obtain ⟨h', hk', ho, hl⟩ := hWk.out.at_ (M.partM_hi (m := m) hat (Nat.lt_irrefl k))
      have hcl := hWk.out.cell hk'
      obtain ⟨g', mm, c'⟩ := h'
      simp only at hl hcl
      subst hl
      have HM := Lib.hid (markInts (some ⟨g', 0, none⟩) zs.length c' zs (m + (t : Int)) B wr rfl (by omega) (by omega) (by omega) ho)
      have Hat := Lib.hid hat
      have Hk' := Lib.hid hk'
      have hzr := hb.out.size
      clear hat hk' ho hkz
      go_wp2_with fail
      refine HM.out.mono ?_
      rintro e w7 ⟨rfl, ho7, hg7⟩
      have hW7 : Hid (Woods w7 B (.slice (some ⟨g, 0, none⟩) n c) hs (M.partM m zss (k + 1))) := by
        refine hWk.out.set Hk'.out (by rw [M.partM_len, M.partM_len]) (fun j hj => M.partM_other hj) (M.partM_lo Hat.out (Nat.lt_succ_self k)) ?_ hg7
        rw [ht.out]
        exact ho7
      have hb7 : Hid (Below B w w7) := hb.out.grown hg7 (by omega) (fun j e => by
        have h1 := (hWk.out.lt (List.mem_of_getElem? Hk'.out)).1
        have h2 : g' = j := by injection e
        simp only at h1
        omega)
      have hfr7 : Hid (∀ j, j < w.heap.size → (∀ h' ∈ hs, h'.1 ≠ j) → w7.heap[j]? = w.heap[j]?) := fun j hj hh => (hg7.block j (Nat.lt_of_lt_of_le hj hzr) (fun e => by
        have h2 : j = g' := by injection e
        exact hh _ (List.mem_of_getElem? Hk'.out) h2.symm)).trans (hfr.out j hj hh)
      clear HM ho7 hg7 hWk hb hcl hfr
      go_wp2
      go_roundw
      case rel => exact ⟨k + 1, by omega, by go_num, by rw [hts.out]; go_num, hW7, hb7, hfr7⟩
      case measure => simp [intOf]; omega
    · obtain rfl : k = n := by omega
      have hge : ¬ (k : Int) < (k : Int) := by omega
      have htot : Hid (M.tot (zss.take k) = M.tot zss) := by show _ = _; rw [List.take_of_length_le (by rw [hn.out]; exact Nat.le_refl _)]
      rw [htot.out]
      go_wp2
      go_ret
      exact ⟨rfl, hWk.out, hb.out, fun j hj hh => hfr.out j hj (fun h' hh' => hh h'.1 h'.2.1 h'.2.2 hh')⟩

set_option maxRecDepth 100000 in
set_option maxHeartbeats 2000000 in
theorem heldTreeS (A : Option Addr) (n c : Nat) (zss : List (List Int)) (m : Int) (w : World) (hn : Hid (zss.length = n)) (hn' : n ≤ 100000) (hz : Hid (∀ zs ∈ zss, zs.length ≤ 100000)) (hm : 0 ≤ m) (hm' : m ≤ 100000000000) (h : Hid (Trees w A (M.partM m zss n))) :
    Calls Try.prog 35 #[.slice A n c, .int .i64 m] w fun e w' => e = .returned (.int .i64 (m + (M.tot zss : Int))) ∧ Below w.heap.size w w' := by
  go_enter Try.func35, Try.ntmps35
  go_wp2
  go_loopw [1, 5] (fun q i wr => ∃ k : Nat, k ≤ n ∧ i = .int .i64 (k : Int) ∧ q = .int .i64 (m + (M.tot (zss.take k) : Int)) ∧ Hid (Below w.heap.size w wr)) (fun _ i _ => n - (intOf i).toNat)
  case atStart => exact ⟨0, Nat.zero_le _, rfl, by simp [M.tot], b0 w⟩
  case round =>
    obtain ⟨k, hk, rfl, rfl, hb⟩ := hrel
    by_cases hlt : k < n
    · have hki : (k : Int) < (n : Int) := by omega
      have hk0 : (0 : Int) ≤ (k : Int) := by omega
      have hkz : k < zss.length := by rw [hn.out]; exact hlt
      have hat : zss[k]? = some zss[k] := List.getElem?_eq_getElem hkz
      have hzk := hz.out _ (List.mem_of_getElem? hat)
      generalize zss[k] = zs at hat hzk
      have htk := M.tot_le (zss := zss.take k) (b := 100000) (fun z hz' => hz.out z (List.mem_of_mem_take hz'))
      have hkl : (zss.take k).length = k := by rw [List.length_take]; omega
      rw [hkl] at htk
      have hts := Lib.hid (M.tot_take hat)
      obtain ⟨t, ht⟩ : ∃ t, Hid (M.tot (zss.take k) = t) := ⟨_, rfl⟩
      have hpl := M.partM_lo (m := m) hat hlt
      rw [ht.out] at hts htk hpl ⊢
      obtain ⟨b, rfl, hbl, hc⟩ := h.out (by rw [M.partM_len]; omega)
      obtain ⟨A1, c1, h1, h2⟩ := hc k _ hpl
      rw [marks_length] at h1
      have hcl : wr.cell? ⟨b, k, none⟩ = some (.slice A1 zs.length c1) := (hb.out.cell (p := ⟨b, k, none⟩) hbl).trans h1
      have HM := Lib.hid (heldInts A1 zs.length c1 (m + (t : Int)) wr (by omega) (by omega) (by omega) (h2.be hb.out))
      have hpos : ¬ m + (t : Int) + (zs.length : Int) < 0 := by omega
      clear hat hkz hkl hc h1 h2 hpl
      go_wp2_with fail
      refine HM.out.mono ?_
      rintro e w7 ⟨rfl, rfl⟩
      go_wp2
      go_roundw
      case rel => exact ⟨k + 1, by omega, by go_num, by rw [hts.out]; go_num, hb⟩
      case measure => simp [intOf]; omega
    · obtain rfl : k = n := by omega
      have hge : ¬ (k : Int) < (k : Int) := by omega
      have htot : Hid (M.tot (zss.take k) = M.tot zss) := by show _ = _; rw [List.take_of_length_le (by rw [hn.out]; exact Nat.le_refl _)]
      rw [htot.out]
      go_wp2
      go_ret
      exact ⟨rfl, hb.out⟩
end Go.Proofs.Ytbdmmeoelagdcaa
