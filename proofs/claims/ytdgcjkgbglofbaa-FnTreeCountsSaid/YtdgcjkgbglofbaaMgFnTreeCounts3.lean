/- Lists of trees: append of one; equal, marked, held. -/
import Derived.Test.YtdgcjkgbglofbaaMgFnTreeCounts2
import Derived.Laws.BitsLemmas
namespace Go.Proofs.Ytdgcjkgbglofbaa
open Go.RowKit

set_option maxRecDepth 100000 in
theorem pushTree {ops : Array Oper} {rest : List Oper} {o : Oper} {a : Act} {Q : Exit → Act → World → Prop} (hgd : o.guard = none) (s x : Operand)
    (ho : o.op = .call { callee := .builtin .append, args := #[s, x], argTypes := #[56, 56] }) (w : World) (B : Nat) (A : Option Addr) (n c : Nat) (hs : List Hdr) (zss : List (List Int)) (h0 : Hdr) (zs : List Int)
    (hs0 : a.eval s = .slice A n c) (hx : a.eval x = .slice (some ⟨w.heap.size, 0, none⟩) 1 1) (hW : Hid (Woods w B (.slice A n c) hs zss)) (hrow : Hid (Own64 w B (hdr h0) zs)) (hne : Hid ((Value.slice A n c).ownBlock ≠ some h0.1)) (hfr : Hid (∀ h' ∈ hs, h'.1 ≠ h0.1)) (hB : B ≤ w.heap.size) (hlen : n ≤ 1000000)
    (h : ∀ A' c' w', Hid (Woods w' B (.slice A' (n + 1) c') (hs ++ [h0]) (zss ++ [zs])) → Hid (Below B w w') → wpList Try.prog ops Q rest (a.put o.dst (.slice A' (n + 1) c')) w') :
    wpList Try.prog ops Q (o :: rest) a (w.alloc (.cells #[hdr h0] 26)) := by
  obtain ⟨i0, hi0, hz0, hz1, hz2⟩ := info_parts infoTree
  have hn : hs.length = n := by rw [hW.out.len]; exact hW.out.shape.1.symm
  refine wpList_append_own_at _ hgd s x 56 ho B 26 i0 (.agg #[.slice none 0 0]) 1 24 Try.underlying56 hi0 hz0 hz1 hz2 rfl (by decide) _ hs.length (hs.map hdr) hs0 (hW.out.row.alloc _) ⟨w.heap.size, 0, none⟩ 1 1 [hdr h0] hx rfl (cell_one_new _ _ _) ?_ ?_ ?_ ?_ ?_
  · intro u hu; simp at hu; subst hu; rfl
  · unfold maxLen; omega
  · omega
  · simp; omega
  · intro v' w1 hown1 hg1 _ _
    obtain ⟨A', c', rfl⟩ : ∃ A' c', v' = .slice A' (hs.length + 1) c' := own_shape hown1
    have hres := woods_pushed hW.out hrow.out hne.out hfr.out hown1 hg1
    rw [hn] at hres ⊢
    exact h A' c' w1 hres (((Below.refl B w).alloc hB _).grown hg1 (by simp; omega) (fun k hk => (World.ownsRow.lt hW.out.row k hk).1))

set_option maxRecDepth 100000 in
set_option maxHeartbeats 2000000 in
theorem eqTreeS (A A' : Option Addr) (zss : List (List Int)) (n c c' : Nat) (w : World) (hn : Hid (zss.length = n)) (hn' : n ≤ 1000000000000) (hz : Hid (∀ zs ∈ zss, zs.length ≤ 1000000000000)) (h : Hid (Trees w A zss)) (h' : Hid (Trees w A' zss)) :
    Calls Try.prog 135 #[.slice A n c, .slice A' n c'] w fun e w' => e = .returned (.bool true) ∧ Below w.heap.size w w' := by
  have hne : ((n : Int) != (n : Int)) = false := by simp
  go_enter Try.func135, Try.ntmps135
  go_wp2
  go_loopw [5] (fun i wr => ∃ k : Nat, k ≤ n ∧ i = .int .i64 (k : Int) ∧ Hid (Below w.heap.size w wr)) (fun i _ => n - (intOf i).toNat)
  case atStart => exact ⟨0, Nat.zero_le _, rfl, b0 w⟩
  case round =>
    obtain ⟨k, hk, rfl, hb⟩ := hrel
    clear hne
    by_cases hlt : k < n
    · have hki : (k : Int) < (n : Int) := by omega
      have hk0 : (0 : Int) ≤ (k : Int) := by omega
      have hkz : k < zss.length := by rw [hn.out]; exact hlt
      have hat : zss[k]? = some zss[k] := List.getElem?_eq_getElem hkz
      have hzk := hz.out _ (List.mem_of_getElem? hat)
      generalize zss[k] = zs at hat hzk
      obtain ⟨b, rfl, hbl, hc⟩ := h.out (by omega)
      obtain ⟨b', rfl, hbl', hc'⟩ := h'.out (by omega)
      obtain ⟨A1, c1, h1, h2⟩ := hc k zs hat
      obtain ⟨A2, c2, h3, h4⟩ := hc' k zs hat
      have HC : Hid (∀ W', Hid (Below w.heap.size w W') → W'.cell? ⟨b, k, none⟩ = some (.slice A1 zs.length c1) ∧ W'.cell? ⟨b', k, none⟩ = some (.slice A2 zs.length c2)) := fun W' hW' => ⟨(hW'.out.cell (p := ⟨b, k, none⟩) hbl).trans h1, (hW'.out.cell (p := ⟨b', k, none⟩) hbl').trans h3⟩
      have HE : Hid (∀ W', Hid (Below w.heap.size w W') → Calls Try.prog 136 #[.agg #[.slice A1 zs.length c1], .agg #[.slice A2 zs.length c2]] W' fun e w' => e = .returned (.bool true) ∧ Hid (Below w.heap.size w w')) := fun W' hW' =>
        (eqTreeT A1 A2 zs c1 c2 W' (by omega) (h2.be hW'.out) (h4.be hW'.out)).mono fun e w' ⟨he, hb'⟩ => ⟨he, btr hW'.out hb'⟩
      have K0 : Hid (Below w.heap.size w wr.drew) := hb.out.drew
      obtain ⟨d1, d2⟩ := HC.out _ K0
      obtain ⟨e1, e2⟩ := HC.out _ hb
      clear hat hc hc' h1 h2 h3 h4 hbl hbl' hkz
      go_wp2
      go_region_held3 (fun w' => w'.cell? ⟨b, k, none⟩ = some (.slice A1 zs.length c1) ∧ w'.cell? ⟨b', k, none⟩ = some (.slice A2 zs.length c2)) (first | exact ⟨d1, d2⟩ | exact HC.out _ (by assumption)) (first | (go_at_call 136; refine (HE.out _ K0).mono ?_; rintro e w7 ⟨rfl, hb7⟩))
      clear d1 d2 e1 e2 K0 HE HC hb
      go_wp2
      go_roundw
      case rel => exact ⟨k + 1, by omega, by go_num, hb7⟩
      case measure => simp [intOf]; omega
    · obtain rfl : k = n := by omega
      have hge : ¬ (k : Int) < (k : Int) := by omega
      go_wp2
      go_ret
      exact ⟨rfl, hb.out⟩


/-- behind a write into one row -/
theorem Woods.set {w w' : World} {B : Nat} {v : Value} {hs : List Hdr} {zss zss' : List (List Int)} {k : Nat} {h' : Hdr} {ys : List Int} (h : Woods w B v hs zss) (hk : hs[k]? = some h') (hl : zss'.length = zss.length) (ho : ∀ j, j ≠ k → zss'[j]? = zss[j]?) (hy : zss'[k]? = some ys)
    (hown : Own64 w' B (hdr h') ys) (hg : w.grownBy w' (some h'.1)) : Woods w' B v hs zss' := by
  refine ⟨h.row.kept hg (.inr (h.off (List.mem_of_getElem? hk))), by rw [hl]; exact h.len, fun j h2 zs hj hz => ?_, h.apart⟩
  by_cases hjk : j = k
  · subst hjk
    rw [hk] at hj
    rw [hy] at hz
    injection hj with hj
    injection hz with hz
    subst hj
    subst hz
    exact hown
  · rw [ho j hjk] at hz
    exact (h.each j h2 zs hj hz).kept hg (.inr fun e => h.apart j k h2 h' hj hk hjk (by injection e))

set_option maxRecDepth 100000 in
set_option maxHeartbeats 2000000 in
theorem markTreeS (A : Option Addr) (n c : Nat) (hs : List Hdr) (zss : List (List Int)) (m : Int) (B : Nat) (w : World) (hn : Hid (zss.length = n)) (hn' : n ≤ 100000000) (hT : Hid (M.tot zss ≤ 2000000000)) (hm : 0 ≤ m) (hm' : m ≤ 100000000000) (hB : B ≤ w.heap.size) (hW : Hid (Woods w B (.slice A n c) hs zss)) :
    Calls Try.prog 138 #[.slice A n c, .int .i64 m] w fun e w' => e = .returned (.int .i64 (m + (M.tot zss : Int))) ∧ Woods w' B (.slice A n c) hs (M.partM m zss n) ∧ Below B w w' ∧ (∀ j, j < w.heap.size → (∀ h' ∈ hs, h'.1 ≠ j) → w'.heap[j]? = w.heap[j]?) := by
  go_enter Try.func138, Try.ntmps138
  go_wp2
  go_loopw [1, 5] (fun q i wr => ∃ k : Nat, k ≤ n ∧ i = .int .i64 (k : Int) ∧ q = .int .i64 (m + (M.tot (zss.take k) : Int)) ∧ Hid (Woods wr B (.slice A n c) hs (M.partM m zss k)) ∧ Hid (Below B w wr) ∧ Hid (∀ j, j < w.heap.size → (∀ h' ∈ hs, h'.1 ≠ j) → wr.heap[j]? = w.heap[j]?)) (fun _ i _ => n - (intOf i).toNat)
  case atStart => exact ⟨0, Nat.zero_le _, rfl, by simp [M.tot], by rw [M.partM_zero]; exact hW, Below.refl _ _, fun _ _ _ => rfl⟩
  case round =>
    obtain ⟨k, hk, rfl, rfl, hWk, hb, hfr⟩ := hrel
    clear hW
    by_cases hlt : k < n
    · have hki : (k : Int) < (n : Int) := by omega
      have hk0 : (0 : Int) ≤ (k : Int) := by omega
      have hkz : k < zss.length := by rw [hn.out]; exact hlt
      have hat : zss[k]? = some zss[k] := List.getElem?_eq_getElem hkz
      have hzk := M.tot_mem (List.mem_of_getElem? hat)
      have hT2 := hT.out
      generalize zss[k] = zs at hat hzk
      have htk := M.tot_take_le zss k
      have hts := Lib.hid (M.tot_take hat)
      obtain ⟨t, ht⟩ : ∃ t, Hid (M.tot (zss.take k) = t) := ⟨_, rfl⟩
      rw [ht.out] at hts htk ⊢
      obtain ⟨g, hA⟩ := hWk.out.shape.2 (by omega)
      subst hA
      obtain ⟨h', hk', ho, hl⟩ := hWk.out.at_ (M.partM_hi (m := m) hat (Nat.lt_irrefl k))
      have hcl := hWk.out.cell hk'
      obtain ⟨g', mm, c'⟩ := h'
      simp only at hl hcl
      subst hl
      have HM := Lib.hid (markInts (some ⟨g', 0, none⟩) zs.length c' zs (m + (t : Int)) B wr rfl (by omega) (by omega) (by omega) ho)
      have Hat := Lib.hid hat
      have Hk' := Lib.hid hk'
      have hzr := hb.out.size
      clear hat hk' ho hkz
      go_wp2_with fail
      refine HM.out.mono ?_
      rintro e w7 ⟨rfl, ho7, hg7⟩
      have hW7 : Hid (Woods w7 B (.slice (some ⟨g, 0, none⟩) n c) hs (M.partM m zss (k + 1))) := by
        refine hWk.out.set Hk'.out (by rw [M.partM_len, M.partM_len]) (fun j hj => M.partM_other hj) (M.partM_lo Hat.out (Nat.lt_succ_self k)) ?_ hg7
        rw [ht.out]
        exact ho7
      have hb7 : Hid (Below B w w7) := hb.out.grown hg7 (by omega) (fun j e => by
        have h1 := (hWk.out.lt (List.mem_of_getElem? Hk'.out)).1
        have h2 : g' = j := by injection e
        simp only at h1
        omega)
      have hfr7 : Hid (∀ j, j < w.heap.size → (∀ h' ∈ hs, h'.1 ≠ j) → w7.heap[j]? = w.heap[j]?) := fun j hj hh => (hg7.block j (Nat.lt_of_lt_of_le hj hzr) (fun e => by
        have h2 : j = g' := by injection e
        exact hh _ (List.mem_of_getElem? Hk'.out) h2.symm)).trans (hfr.out j hj hh)
      clear HM ho7 hg7 hWk hb hcl hfr
      go_wp2
      go_roundw
      case rel => exact ⟨k + 1, by omega, by go_num, by rw [hts.out]; go_num, hW7, hb7, hfr7⟩
      case measure => simp [intOf]; omega
    · obtain rfl : k = n := by omega
      have hge : ¬ (k : Int) < (k : Int) := by omega
      have htot : Hid (M.tot (zss.take k) = M.tot zss) := by show _ = _; rw [List.take_of_length_le (by rw [hn.out]; exact Nat.le_refl _)]
      rw [htot.out]
      go_wp2
      go_ret
      exact ⟨rfl, hWk.out, hb.out, fun j hj hh => hfr.out j hj (fun h' hh' => hh h'.1 h'.2.1 h'.2.2 hh')⟩

set_option maxRecDepth 100000 in
set_option maxHeartbeats 2000000 in
theorem heldTreeS (A : Option Addr) (n c : Nat) (zss : List (List Int)) (m : Int) (w : World) (hn : Hid (zss.length = n)) (hn' : n ≤ 100000) (hz : Hid (∀ zs ∈ zss, zs.length ≤ 100000)) (hm : 0 ≤ m) (hm' : m ≤ 100000000000) (h : Hid (Trees w A (M.partM m zss n))) :
    Calls Try.prog 139 #[.slice A n c, .int .i64 m] w fun e w' => e = .returned (.int .i64 (m + (M.tot zss : Int))) ∧ Below w.heap.size w w' := by
  go_enter Try.func139, Try.ntmps139
  go_wp2
  go_loopw [1, 5] (fun q i wr => ∃ k : Nat, k ≤ n ∧ i = .int .i64 (k : Int) ∧ q = .int .i64 (m + (M.tot (zss.take k) : Int)) ∧ Hid (Below w.heap.size w wr)) (fun _ i _ => n - (intOf i).toNat)
  case atStart => exact ⟨0, Nat.zero_le _, rfl, by simp [M.tot], b0 w⟩
  case round =>
    obtain ⟨k, hk, rfl, rfl, hb⟩ := hrel
    by_cases hlt : k < n
    · have hki : (k : Int) < (n : Int) := by omega
      have hk0 : (0 : Int) ≤ (k : Int) := by omega
      have hkz : k < zss.length := by rw [hn.out]; exact hlt
      have hat : zss[k]? = some zss[k] := List.getElem?_eq_getElem hkz
      have hzk := hz.out _ (List.mem_of_getElem? hat)
      generalize zss[k] = zs at hat hzk
      have htk := M.tot_le (zss := zss.take k) (b := 100000) (fun z hz' => hz.out z (List.mem_of_mem_take hz'))
      have hkl : (zss.take k).length = k := by rw [List.length_take]; omega
      rw [hkl] at htk
      have hts := Lib.hid (M.tot_take hat)
      obtain ⟨t, ht⟩ : ∃ t, Hid (M.tot (zss.take k) = t) := ⟨_, rfl⟩
      have hpl := M.partM_lo (m := m) hat hlt
      rw [ht.out] at hts htk hpl ⊢
      obtain ⟨b, rfl, hbl, hc⟩ := h.out (by rw [M.partM_len]; omega)
      obtain ⟨A1, c1, h1, h2⟩ := hc k _ hpl
      rw [marks_length] at h1
      have hcl : wr.cell? ⟨b, k, none⟩ = some (.slice A1 zs.length c1) := (hb.out.cell (p := ⟨b, k, none⟩) hbl).trans h1
      have HM := Lib.hid (heldInts A1 zs.length c1 (m + (t : Int)) wr (by omega) (by omega) (by omega) (h2.be hb.out))
      have hpos : ¬ m + (t : Int) + (zs.length : Int) < 0 := by omega
      clear hat hkz hkl hc h1 h2 hpl
      go_wp2_with fail
      refine HM.out.mono ?_
      rintro e w7 ⟨rfl, rfl⟩
      go_wp2
      go_roundw
      case rel => exact ⟨k + 1, by omega, by go_num, by rw [hts.out]; go_num, hb⟩
      case measure => simp [intOf]; omega
    · obtain rfl : k = n := by omega
      have hge : ¬ (k : Int) < (k : Int) := by omega
      have htot : Hid (M.tot (zss.take k) = M.tot zss) := by show _ = _; rw [List.take_of_length_le (by rw [hn.out]; exact Nat.le_refl _)]
      rw [htot.out]
      go_wp2
      go_ret
      exact ⟨rfl, hb.out⟩
end Go.Proofs.Ytdgcjkgbglofbaa

/- Rows of rows in memory: a slice whose elements are slices of numbers, each in a block of its own; append of one row. -/
namespace Go.Proofs.Ytdgcjkgbglofbaa
open Go.RowKit

theorem infoRow : (Try.prog.info? 24).map (fun i => (i.zero, i.size, i.bytes)) = some (some (.slice none 0 0), 1, 24) := by kernel_rfl

abbrev rowV (m : Nat) (g : Nat) : Value := .slice (some ⟨g, 0, none⟩) m m
/-- the slice value v has k rows of m numbers: row l is R l; all lies from block B on -/
def Grid (w : World) (B : Nat) (v : Value) (m : Nat) (R : Nat → List Int) (k : Nat) : Prop :=
  ∃ gs : List Nat, gs.length = k ∧ w.ownsRow B 24 1 v k (gs.map (rowV m)) ∧ ∀ (l g : Nat), gs[l]? = some g → (R l).length = m ∧ Own64 w B (rowV m g) (R l) ∧ v.ownBlock ≠ some g

theorem Grid.be {w w' : World} {B : Nat} {v : Value} {m k : Nat} {R : Nat → List Int} (h : Grid w B v m R k) (hb : Below w.heap.size w w') : Grid w' B v m R k := by
  obtain ⟨gs, h1, h2, h3⟩ := h
  exact ⟨gs, h1, own_be h2 hb, fun l g hg => ⟨(h3 l g hg).1, own_be (h3 l g hg).2.1 hb, (h3 l g hg).2.2⟩⟩
theorem Grid.mono {w : World} {B B' : Nat} {v : Value} {m k : Nat} {R : Nat → List Int} (h : Grid w B v m R k) (hB : B' ≤ B) : Grid w B' v m R k := by
  obtain ⟨gs, h1, h2, h3⟩ := h
  exact ⟨gs, h1, own_mono h2 hB, fun l g hg => ⟨(h3 l g hg).1, own_mono (h3 l g hg).2.1 hB, (h3 l g hg).2.2⟩⟩
theorem Grid.shape {w : World} {B : Nat} {v : Value} {m k : Nat} {R : Nat → List Int} (h : Grid w B v m R k) : ∃ A c, v = .slice A k c := by
  obtain ⟨gs, h1, h2, h3⟩ := h
  exact own_shape h2
theorem Grid.shape1 {w : World} {B : Nat} {A : Option Addr} {n c : Nat} {m k : Nat} {R : Nat → List Int} (h : Grid w B (.slice A n c) m R k) (hk : 0 < k) : n = k ∧ ∃ g, A = some ⟨g, 0, none⟩ := by
  obtain ⟨gs, h1, h2, h3⟩ := h
  rcases h2.2 with ⟨h0, h4⟩ | ⟨g, cap, cur, hv, _⟩
  · omega
  · injection hv with e1 e2; exact ⟨e2, g, e1⟩
/-- a cell: the row's value, and the number in it -/
theorem Grid.at_ {w : World} {B : Nat} {G n c : Nat} {m k : Nat} {R : Nat → List Int} (h : Grid w B (.slice (some ⟨G, 0, none⟩) n c) m R k) {l : Nat} (hl : l < k) :
    ∃ g, w.cell? ⟨G, l, none⟩ = some (rowV m g) ∧ ∀ (j : Nat) (x : Int), (R l)[j]? = some x → w.cell? ⟨g, j, none⟩ = some (.int .i64 x) := by
  obtain ⟨gs, h1, h2, h3⟩ := h
  obtain ⟨g, hg⟩ : ∃ g, gs[l]? = some g := ⟨_, List.getElem?_eq_getElem (by omega)⟩
  refine ⟨g, ?_, fun j x hx => (own64_cell (h3 l g hg).2.1 (h3 l g hg).1 hx).1⟩
  have := h2.cells (g := G) rfl l (rowV m g) (by simp [hg])
  have ha : (⟨G, 0, none⟩ : Addr).add l = ⟨G, l, none⟩ := by unfold Addr.add; split <;> simp_all
  rw [ha] at this
  exact this

theorem grid_empty {w : World} {B : Nat} (hB : B ≤ w.heap.size) (m : Nat) (R : Nat → List Int) : Grid (w.alloc (.cells #[] 24)) B (.slice (some ⟨w.heap.size, 0, none⟩) 0 0) m R 0 :=
  ⟨[], rfl, World.ownsRow_made (e := 24) (size := 1) w #[] 0 hB (by simp [maxLen]) (by simp), fun l g h => by simp at h⟩

set_option maxRecDepth 100000 in
theorem pushRow {ops : Array Oper} {rest : List Oper} {o : Oper} {a : Act} {Q : Exit → Act → World → Prop} (hgd : o.guard = none) (s x : Operand)
    (ho : o.op = .call { callee := .builtin .append, args := #[s, x], argTypes := #[74, 74] }) (w : World) (B : Nat) (A : Option Addr) (n c m : Nat) (R : Nat → List Int) (g : Nat)
    (hs : a.eval s = .slice A n c) (hx : a.eval x = .slice (some ⟨w.heap.size, 0, none⟩) 1 1) (ht : Hid (Grid w B (.slice A n c) m R n)) (hrow : Hid (Own64 w B (rowV m g) (R n))) (hm : (R n).length = m) (hne : Hid ((Value.slice A n c).ownBlock ≠ some g)) (hB : B ≤ w.heap.size) (hlen : n ≤ 1000000)
    (h : ∀ A' c' w', Hid (Grid w' B (.slice A' (n + 1) c') m R (n + 1)) → Hid (Below B w w') → wpList Try.prog ops Q rest (a.put o.dst (.slice A' (n + 1) c')) w') :
    wpList Try.prog ops Q (o :: rest) a (w.alloc (.cells #[rowV m g] 24)) := by
  obtain ⟨i0, hi0, hz0, hz1, hz2⟩ := info_parts infoRow
  obtain ⟨gs, h1, h2, h3⟩ := ht.out
  refine wpList_append_own_at _ hgd s x 74 ho B 24 i0 (.slice none 0 0) 1 24 Try.underlying74 hi0 hz0 hz1 hz2 rfl (by decide) _ n (gs.map (rowV m)) hs (h2.alloc _) ⟨w.heap.size, 0, none⟩ 1 1 [rowV m g] hx rfl (cell_one_new _ _ _) ?_ ?_ ?_ ?_ ?_
  · intro u hu; simp at hu; subst hu; rfl
  · unfold maxLen; omega
  · omega
  · simp; omega
  · intro v' w1 hown1 hg1 _ hat
    obtain ⟨A', c', rfl⟩ : ∃ A' c', v' = .slice A' (n + 1) c' := own_shape hown1
    have hkeep : ∀ (q : Nat) (l : List Int), Own64 w B (rowV m q) l → (Value.slice A n c).ownBlock ≠ some q → Own64 w1 B (rowV m q) l ∧ (Value.slice A' (n + 1) c').ownBlock ≠ some q := fun q l ho hq => by
      refine ⟨(ho.alloc _).kept hg1 (.inr fun e => hq e.symm), fun e => ?_⟩
      rcases hat with e1 | e1
      · exact hq (e1 ▸ e)
      · have h4 := ho.lt q rfl
        rw [e] at e1
        injection e1 with e1
        simp at e1
        omega
    refine h A' c' w1 ⟨gs ++ [g], by simp [h1], by rw [List.map_append]; exact hown1, fun l q hq => ?_⟩ ?_
    · rcases Nat.lt_or_ge l n with hl | hl
      · rw [List.getElem?_append_left (by omega)] at hq
        obtain ⟨a1, a2, a3⟩ := h3 l q hq
        obtain ⟨b1, b2⟩ := hkeep q _ a2 a3
        exact ⟨a1, b1, b2⟩
      · rw [List.getElem?_append_right (by omega), h1] at hq
        have hl2 : l - n = 0 := by
          rcases Nat.eq_zero_or_pos (l - n) with e | e
          · exact e
          · rw [List.getElem?_eq_none (by simp; omega)] at hq; cases hq
        rw [hl2] at hq
        injection hq with hq
        subst hq
        obtain rfl : l = n := by omega
        obtain ⟨b1, b2⟩ := hkeep g _ hrow.out hne.out
        exact ⟨hm, b1, b2⟩
    · exact ((Below.refl B w).alloc hB _).grown hg1 (by simp; omega) (fun k hk => (h2.lt k hk).1)
end Go.Proofs.Ytdgcjkgbglofbaa

/- l02Table: the model's numbers of lists of trees, row by row. -/
namespace Go.Proofs.Ytdgcjkgbglofbaa
open Go.RowKit

namespace M
/-- row l: the numbers of lists of o trees with l nodes, o from 0 to n, and a 0 -/
def rowF (n l : Nat) : List Int := (List.range (n + 2)).map fun o => if o ≤ n then (L l o : Int) else 0
theorem rowF_len (n l : Nat) : (rowF n l).length = n + 2 := by simp [rowF]
theorem rowF_at {n l o : Nat} (h : o ≤ n) : (rowF n l)[o]? = some (L l o : Int) := by
  simp only [rowF, List.getElem?_map]
  rw [List.getElem?_range (by omega)]
  simp only [Option.map_some]
  rw [if_pos h]
theorem rowF_none {n : Nat} : (List.replicate (n + 2) (0 : Int)).set 0 1 = rowF n 0 := by
  apply List.ext_getElem?
  intro j
  rcases Nat.lt_or_ge j (n + 2) with hj | hj
  · simp only [rowF, List.getElem?_map]
    rw [List.getElem?_range hj]
    simp only [Option.map_some]
    rcases Nat.eq_zero_or_pos j with h0 | h0
    · subst h0
      rw [List.getElem?_set_self (by simp), if_pos (by omega)]; rfl
    · have e : L 0 j = 0 := by rw [L_base (.inl h0), if_neg (by omega)]
      rw [List.getElem?_set_ne (by omega), List.getElem?_replicate, if_pos hj, e]
      split <;> rfl
  · rw [List.getElem?_eq_none (by simp; omega), List.getElem?_eq_none (by rw [rowF_len]; omega)]
/-- the entries of row l that are told when q open places are done, from l downwards -/
def rowP (n l q : Nat) : List Int := (List.range (n + 2)).map fun o => if l + 2 ≤ o + q ∧ o ≤ n then (L l o : Int) else 0
theorem rowP_len (n l q : Nat) : (rowP n l q).length = n + 2 := by simp [rowP]
theorem rowP_start {n l : Nat} : rowP n l 0 = List.replicate (n + 2) 0 := by
  apply List.ext_getElem?
  intro j
  simp only [rowP, List.getElem?_map, List.getElem?_replicate]
  rcases Nat.lt_or_ge j (n + 2) with hj | hj
  · rw [List.getElem?_range hj, if_pos hj]
    simp only [Option.map_some]
    split
    · rw [L_base (.inl (by omega)), if_neg (by omega)]; rfl
    · rfl
  · rw [List.getElem?_eq_none (by simp; omega), if_neg (by omega)]; rfl
theorem rowP_end {n l : Nat} (hl : 0 < l) : rowP n l (l + 1) = rowF n l := by
  apply List.ext_getElem?
  intro j
  simp only [rowP, rowF, List.getElem?_map]
  rcases Nat.lt_or_ge j (n + 2) with hj | hj
  · rw [List.getElem?_range hj]
    simp only [Option.map_some]
    congr 1
    by_cases h0 : j = 0
    · subst h0
      rw [if_neg (by omega), if_pos (by omega), L_base (.inr rfl), if_neg (by omega)]; rfl
    · by_cases h1 : j ≤ n
      · rw [if_pos (by omega), if_pos h1]
      · rw [if_neg (by omega), if_neg h1]
  · rw [List.getElem?_eq_none (by simp; omega)]; rfl
theorem rowP_skip {n l q : Nat} (hq : q ≤ l) (h : n < l - q + 1) : rowP n l (q + 1) = rowP n l q := by
  apply List.ext_getElem?
  intro j
  simp only [rowP, List.getElem?_map]
  rcases Nat.lt_or_ge j (n + 2) with hj | hj
  · rw [List.getElem?_range hj]
    simp only [Option.map_some]
    congr 1
    by_cases h1 : l + 2 ≤ j + q ∧ j ≤ n
    · rw [if_pos h1, if_pos (by omega)]
    · rw [if_neg h1, if_neg (by omega)]
  · rw [List.getElem?_eq_none (by simp; omega)]; rfl
theorem rowP_set {n l q : Nat} (hq : q ≤ l) (h : l - q + 1 ≤ n) : (rowP n l q).set (l - q + 1) (L l (l - q + 1) : Int) = rowP n l (q + 1) := by
  apply List.ext_getElem?
  intro j
  rcases Nat.lt_or_ge j (n + 2) with hj | hj
  · by_cases hjd : l - q + 1 = j
    · subst hjd
      rw [List.getElem?_set_self (by rw [rowP_len]; exact hj)]
      simp only [rowP, List.getElem?_map]
      rw [List.getElem?_range hj]
      simp only [Option.map_some]
      rw [if_pos (by omega)]
    · rw [List.getElem?_set_ne hjd]
      simp only [rowP, List.getElem?_map]
      rw [List.getElem?_range hj]
      simp only [Option.map_some]
      congr 1
      by_cases h1 : l + 2 ≤ j + q ∧ j ≤ n
      · rw [if_pos h1, if_pos (by omega)]
      · rw [if_neg h1, if_neg (by omega)]
  · rw [List.getElem?_eq_none (by simp [rowP_len]; omega), List.getElem?_eq_none (by rw [rowP_len]; omega)]
/-- the sum over open places from l downwards -/
def suf (l q : Nat) : Nat := sumTo (fun x => L (l - 1) (l - x)) q
theorem suf_L {l q : Nat} (hl : l ≤ 24) (h0 : 0 < l) (hq : q ≤ l) : suf l (q + 1) = L l (l - q + 1) := by
  have : ((List.range 25).all fun l => decide (l = 0) || (List.range (l + 1)).all fun q => sumTo (fun x => entL (l - 1) (l - x)) (q + 1) == entL l (l - q + 1)) = true := by decide +kernel
  have h1 := List.all_eq_true.1 this l (List.mem_range.2 (by omega))
  have h2 : decide (l = 0) = false := by simp; omega
  rw [h2] at h1
  have h3 := List.all_eq_true.1 h1 q (List.mem_range.2 (by omega))
  have h4 : sumTo (fun x => entL (l - 1) (l - x)) (q + 1) = entL l (l - q + 1) := by simpa using h3
  rw [entL_eq l (by omega) _ (by omega)] at h4
  rw [← h4]
  exact sumTo_congr fun x hx => (entL_eq (l - 1) (by omega) (l - x) (by omega)).symm
end M

theorem own64_made_set1 {w : World} {B n : Nat} (hB : B ≤ w.heap.size) (hn : n ≤ maxLen) (x : Int) :
    Own64 (w.alloc (.cells ((madeCells #[.int .i64 0] n).setIfInBounds 0 (.int .i64 x)) 2)) B (.slice (some ⟨w.heap.size, 0, none⟩) n n) ((List.replicate n 0).set 0 x) := by
  have h := World.ownsRow_lit (e := 2) (size := 1) w ((madeCells #[.int .i64 0] n).setIfInBounds 0 (.int .i64 x)) n hB hn (by simp [size_madeCells])
  rw [Array.toList_setIfInBounds, toList_madeCells_one] at h
  simpa [Own64, List.map_set] using h

set_option maxHeartbeats 4000000 in
set_option maxRecDepth 100000 in
theorem l02Table (n : Nat) (w : World) (hn : n ≤ 24) :
    Calls Try.prog 285 #[.int .i64 (n : Int)] w fun e w' => ∃ A' c', e = .returned (.slice A' (n + 1) c') ∧ Hid (Grid w' w.heap.size (.slice A' (n + 1) c') (n + 2) (M.rowF n) (n + 1)) ∧ Hid (Below w.heap.size w w') := by
  have hmk := run_make_row' (P := Try.prog) 24 2 (.int .i64 0) 8 Try.underlying24 info64 rfl .i64 .i64 (n + 2) (by omega) (by omega)
  have ecast : ((n + 2 : Nat) : Int) = (n : Int) + 2 := by omega
  rw [ecast] at hmk
  have Hmk := Lib.hid hmk
  have hst : Hid (Grid (w.alloc (.cells #[] 24)) w.heap.size (.slice (some ⟨w.heap.size, 0, none⟩) 0 0) (n + 2) (M.rowF n) 0) := grid_empty (Nat.le_refl _) _ _
  have hb0 : Hid (Below w.heap.size w (w.alloc (.cells #[] 24))) := bal (b0 w) _
  clear ecast hmk
  go_enter Try.func285, Try.ntmps285
  go_wp2
  go_loopw [3, 4, 5, 6, 7] (fun q i _ _ _ wr => ∃ (l : Nat) (A' : Option Addr) (c' : Nat), l ≤ n + 1 ∧ i = .int .i64 (l : Int) ∧ q = .slice A' l c' ∧ Hid (Grid wr w.heap.size (.slice A' l c') (n + 2) (M.rowF n) l) ∧ Hid (Below w.heap.size w wr)) (fun _ i _ _ _ _ => 40 - (intOf i).toNat)
  case atStart => exact ⟨0, _, 0, Nat.zero_le _, rfl, rfl, hst, hb0⟩
  case round =>
    obtain ⟨l, A', c', hl, rfl, rfl, hG, hbr⟩ := hrel
    clear hst hb0
    have zr := hbr.out.size
    by_cases hlt : l ≤ n
    · have hlt2 : (l : Int) ≤ (n : Int) := by omega
      have hmk := Hmk.out
      obtain ⟨wo, rfl⟩ : ∃ wo : World, wo = wr := ⟨_, rfl⟩
      have hrow0 : Hid (Own64 (wo.alloc (.cells (madeCells #[.int .i64 0] (n + 2)) 2)) wo.heap.size (rowV (n + 2) wo.heap.size) (List.replicate (n + 2) 0)) := own64_made (w := wo) (B := wo.heap.size) (n := n + 2) (Nat.le_refl _) (by unfold maxLen; omega)
      have hbo : Hid (Below wo.heap.size wo (wo.alloc (.cells (madeCells #[.int .i64 0] (n + 2)) 2))) := bal (b0 wo) _
      have hne : Hid ((Value.slice A' l c').ownBlock ≠ some wo.heap.size) := fun e => by
        obtain ⟨gs, _, h2, _⟩ := hG.out
        have := (h2.lt _ e).2
        omega
      rcases Nat.eq_zero_or_pos l with h0 | h0
      · subst h0
        have hm0 : (madeCells #[Value.int .i64 0] (n + 2))[0]? = some (.int .i64 0) := by rw [← Array.getElem?_toList, toList_madeCells_one, List.getElem?_replicate, if_pos (by omega)]
        have hrow : Hid (Own64 (wo.alloc (.cells ((madeCells #[.int .i64 0] (n + 2)).setIfInBounds 0 (.int .i64 1)) 2)) w.heap.size (rowV (n + 2) wo.heap.size) (M.rowF n 0)) := by
          rw [← M.rowF_none]
          exact own_mono (own64_made_set1 (w := wo) (B := wo.heap.size) (n := n + 2) (Nat.le_refl _) (by unfold maxLen; omega) 1) zr
        have hG1 : Hid (Grid (wo.alloc (.cells ((madeCells #[.int .i64 0] (n + 2)).setIfInBounds 0 (.int .i64 1)) 2)) w.heap.size (.slice A' 0 c') (n + 2) (M.rowF n) 0) := hG.out.be (bal (b0 wo) _)
        have hb1 : Hid (Below w.heap.size w (wo.alloc (.cells ((madeCells #[.int .i64 0] (n + 2)).setIfInBounds 0 (.int .i64 1)) 2))) := bal hbr.out _
        have hzB : w.heap.size ≤ (wo.alloc (.cells ((madeCells #[.int .i64 0] (n + 2)).setIfInBounds 0 (.int .i64 1)) 2)).heap.size := Nat.le_trans zr (by simp)
        clear hG hrow0 hbo
        go_wp2_with (at_builtin; refine pushRow rfl (.tmp 45) (.tmp 47) rfl (wo.alloc (.cells ((madeCells #[.int .i64 0] (n + 2)).setIfInBounds 0 (.int .i64 1)) 2)) w.heap.size A' 0 c' (n + 2) (M.rowF n) wo.heap.size rfl (by simp [go_sem]) hG1 hrow (M.rowF_len _ _) hne hzB (by omega) ?_; intro A2 c2 w2 ho2 hb2)
        go_roundw
        case rel => exact ⟨1, A2, c2, by omega, by go_num, rfl, ho2, hb1.out.trans hb2.out⟩
        case measure => simp [intOf]
      · have hq0 : ((l : Int) == 0) = false := by simp; omega
        have hrow : Hid (Own64 (wo.alloc (.cells (madeCells #[.int .i64 0] (n + 2)) 2)) wo.heap.size (rowV (n + 2) wo.heap.size) (M.rowP n l 0)) := by rw [M.rowP_start]; exact hrow0.out
        obtain ⟨hlk, G, rfl⟩ := hG.out.shape1 h0
        clear hrow0
        go_wp2
        clear hmk
        go_loopw [6, 7] (fun s6 s7 wr => ∃ (q y : Nat) (x : Int), q ≤ l + 1 ∧ s7 = .int .i64 x ∧ x = (l : Int) - (q : Int) ∧ s6 = .int .i64 (y : Int) ∧ Hid (M.suf l q = y) ∧ Hid (Own64 wr wo.heap.size (rowV (n + 2) wo.heap.size) (M.rowP n l q)) ∧ Hid (Below wo.heap.size wo wr)) (fun _ s7 _ => (intOf s7 + 1).toNat)
        case atStart => exact ⟨0, 0, l, Nat.zero_le _, rfl, by omega, rfl, rfl, hrow, hbo⟩
        case round =>
          obtain ⟨q, y, x, hq, rfl, hx, rfl, hy, hro, hbi⟩ := hrel
          clear hrow hbo
          by_cases hql : q ≤ l
          · obtain ⟨o, ho⟩ : ∃ o, Hid (l - q = o) := ⟨_, rfl⟩
            have hoo := ho.out
            obtain rfl : x = (o : Int) := by omega
            obtain ⟨d, hd⟩ : ∃ d, Hid (l - 1 = d) := ⟨_, rfl⟩
            have hdo := hd.out
            have hld : (l : Int) - 1 = (d : Int) := by omega
            have hGi := hG.out.be hbi.out
            obtain ⟨g', k1, k2⟩ := hGi.at_ (l := d) (by omega)
            have k3 := k2 o _ (M.rowF_at (n := n) (l := d) (by omega))
            have hsl := M.suf_L (l := l) (q := q) (by omega) h0 hql
            have hs1 : Hid (M.suf l (q + 1) = y + M.L d o) := by show _ = _; rw [M.suf, M.sumTo, hd.out, ho.out]; rw [← hy.out]; simp only [M.suf, hd.out]
            have hLs := M.L_small (n := l) (t := l - q + 1) (by omega)
            rw [← hsl, hs1.out] at hLs
            have hs2 : Hid (M.L l (l - q + 1) = y + M.L d o) := hsl.symm.trans hs1.out
            generalize M.L d o = z at *
            have hx0 : (0 : Int) ≤ (o : Int) := by omega
            have hdl : (d : Int) < (l : Int) := by omega
            have hon : (o : Int) < (n : Int) + 2 := by omega
            clear k2 hGi hsl hx
            by_cases hon2 : o + 1 ≤ n
            · have hon3 : (o : Int) + 1 ≤ (n : Int) := by omega
              have hon4 : (o : Int) + 1 < (n : Int) + 2 := by omega
              obtain ⟨u, hu⟩ : ∃ u, (M.rowP n l q)[o + 1]? = some u := ⟨_, List.getElem?_eq_getElem (by rw [M.rowP_len]; omega)⟩
              obtain ⟨c1, c2, _, _⟩ := own64_cell hro.out (M.rowP_len _ _ _) hu
              have hset := own64_set hro.out (M.rowP_len _ _ _) (o + 1) ((y : Int) + (z : Int))
              have hrs := M.rowP_set (n := n) (l := l) (q := q) hql (by omega)
              rw [hs2.out, ho.out, Int.natCast_add] at hrs
              rw [hrs] at hset
              have hset := Lib.hid hset
              have hbs := Lib.hid (below_setCell (k := o + 1) hbi.out (Nat.le_refl _) (.int .i64 ((y : Int) + (z : Int))))
              clear hu hrs hro hbi hdo hoo
              go_wp2
              go_roundw
              case rel => exact ⟨q + 1, y + z, (o : Int) - 1, by omega, rfl, by have := ho.out; omega, by go_num, hs1, hset, hbs⟩
              case measure => simp [intOf]
            · have hon3 : ¬ (o : Int) + 1 ≤ (n : Int) := by omega
              have hrs : Hid (Own64 wr wo.heap.size (rowV (n + 2) wo.heap.size) (M.rowP n l (q + 1))) := by rw [M.rowP_skip hql (by omega)]; exact hro.out
              clear hro hdo hoo
              go_wp2
              go_roundw
              case rel => exact ⟨q + 1, y + z, (o : Int) - 1, by omega, rfl, by have := ho.out; omega, by go_num, hs1, hrs, hbi⟩
              case measure => simp [intOf]
          · obtain rfl : q = l + 1 := by omega
            obtain rfl : x = -1 := by omega
            have hrowF : Hid (Own64 wr w.heap.size (rowV (n + 2) wo.heap.size) (M.rowF n l)) := by rw [← M.rowP_end h0]; exact own_mono hro.out zr
            have hG1 : Hid (Grid wr w.heap.size (.slice (some ⟨G, 0, none⟩) l c') (n + 2) (M.rowF n) l) := hG.out.be hbi.out
            have hb1 := Lib.hid (btr hbr.out hbi.out)
            have hzB := hb1.out.size
            clear hx
            go_wp2_with (at_builtin; refine pushRow rfl (.tmp 45) (.tmp 47) rfl wr w.heap.size (some ⟨G, 0, none⟩) l c' (n + 2) (M.rowF n) wo.heap.size rfl rfl hG1 hrowF (M.rowF_len _ _) hne hzB (by omega) ?_; intro A2 c2 w2 ho2 hb2)
            go_roundw
            case rel => exact ⟨l + 1, A2, c2, by omega, by go_num, rfl, ho2, hb1.out.trans hb2.out⟩
            case measure => simp [intOf]; omega
    · obtain rfl : l = n + 1 := by omega
      have hge : ¬ ((n + 1 : Nat) : Int) ≤ (n : Int) := by omega
      go_wp2
      go_ret
      exact ⟨A', c', rfl, hG, hbr⟩
end Go.Proofs.Ytdgcjkgbglofbaa

/- l02Tree: the model's tree of a rank, or nothing. -/
namespace Go.Proofs.Ytdgcjkgbglofbaa
open Go.RowKit

set_option maxHeartbeats 4000000 in
set_option maxRecDepth 100000 in
theorem l02Tree (n r : Nat) (w : World) (hn1 : 1 ≤ n) (hn : n ≤ 24) (_ : (r : Int) ≤ 9223372036854775807) :
    Calls Try.prog 214 #[.int .i64 (n : Int), .int .i64 (r : Int)] w fun e w' => ∃ A' c', e = .returned (.tuple #[.agg #[.slice A' (M.unTree n r).length c'], .bool (decide (r < M.L n 1))]) ∧ Own64 w' w.heap.size (.slice A' (M.unTree n r).length c') (M.unTree n r) ∧ Below w.heap.size w w' := by
  have hLn := M.L_24 (n := n) (t := 1) hn
  have HT := Lib.hid (l02Table n (w.alloc (.cells #[.slice none 0 0] 26)) hn)
  rw [World.size_alloc] at HT
  obtain ⟨Ln, hLe⟩ : ∃ Ln, Hid (M.L n 1 = Ln) := ⟨_, rfl⟩
  have hUn : Hid (M.unTree n r = if r < Ln then M.unrank n 1 r else []) := by show _ = _; rw [M.unTree, hLe.out]
  rw [hLe.out] at hLn ⊢
  by_cases hlt : r < Ln
  · have hUe : M.unTree n r = M.unrank n 1 r := hUn.out.trans (if_pos hlt)
    have hU := Lib.hid (M.un_start (n := n) (r := r) (by rw [hLe.out]; exact hlt))
    have hUl : Hid ((M.unrank n 1 r).length = n) := M.unrank_len _ _ _
    have hge : ¬ (Ln : Int) ≤ (r : Int) := by omega
    rw [hUe, hUl.out, decide_eq_true hlt]
    generalize M.unrank n 1 r = U at *
    clear hUe hUn
    go_enter Try.func214, Try.ntmps214
    go_wp2_with fail
    refine HT.out.mono ?_
    rintro e w2 ⟨A2, c2, rfl, hG, hb⟩
    have hB : Hid (Below (w.heap.size + 1) (w.alloc (.cells #[.slice none 0 0] 26)) w2) := hb
    have hz2 : w.heap.size + 1 ≤ w2.heap.size := by have := hB.out.size; simpa using this
    obtain ⟨_, G, rfl⟩ := hG.out.shape1 (by omega)
    have hst : Hid (Own64 (w2.alloc (.cells #[] 2)) w2.heap.size (.slice (some ⟨w2.heap.size, 0, none⟩) 0 0) []) := own64_empty (Nat.le_refl _)
    have hb2 : Hid (Below w2.heap.size w2 (w2.alloc (.cells #[] 2))) := bal (b0 w2) _
    obtain ⟨g0, k1, k2⟩ := (hG.out.be (bal (b0 w2) (.cells #[] 2))).at_ (l := n) (by omega)
    have k3 := k2 1 _ (M.rowF_at (n := n) (l := n) (o := 1) hn1)
    rw [hLe.out] at k3
    clear k2 hb HT
    go_wp2
    simp only [show decide (Ln ≤ r) = false from decide_eq_false (by omega)]
    clear k1 k3
    go_loopw [1, 7, 8, 9, 10] (fun s1 s7 s8 i _ wr => ∃ (v o q : Nat) (pre : List Int) (A' : Option Addr) (c' : Nat), v ≤ n ∧ i = .int .i64 (v : Int) ∧ s1 = .int .i64 (q : Int) ∧ s7 = .int .i64 (o : Int) ∧ s8 = .slice A' v c' ∧ (q : Int) ≤ (r : Int) ∧ Hid (M.UnAt n U v o q pre) ∧ Hid (Own64 wr w2.heap.size (.slice A' v c') pre) ∧ Hid (Below w2.heap.size w2 wr)) (fun _ _ _ i _ _ => n - (intOf i).toNat)
    case atStart => exact ⟨0, 1, r, [], _, 0, Nat.zero_le _, rfl, rfl, rfl, rfl, Int.le_refl _, hU, hst, hb2⟩
    case round =>
      obtain ⟨v, o, q, pre, A', c', hv, rfl, rfl, rfl, rfl, hqr, hu, hro, hbr⟩ := hrel
      clear hst hb2 hU
      have hzr := hbr.out.size
      by_cases hvn : v < n
      · have hvn2 : (v : Int) < (n : Int) := by omega
        have hop := M.un_open hu.out hvn
        obtain ⟨l, hl⟩ : ∃ l, Hid (n - v - 1 = l) := ⟨_, rfl⟩
        obtain ⟨p, hp⟩ : ∃ p, Hid (o - 1 = p) := ⟨_, rfl⟩
        have hl2 : (n : Int) - (v : Int) - 1 = (l : Int) := by have := hl.out; omega
        have hp2 : (o : Int) - 1 = (p : Int) := by have := hp.out; omega
        have hpl : p ≤ l := by have := hl.out; have := hp.out; omega
        have hl23 : l ≤ 23 := by have := hl.out; omega
        have hln : l < n := by have := hl.out; omega
        have hli : (l : Int) < (n : Int) + 1 := by omega
        have hQ : Hid (q < M.L (l + 1) (p + 1)) := by
          show _ < _
          have h3 := hu.out.2.2
          have e1 : n - v = l + 1 := by have := hl.out; omega
          have e2 : o = p + 1 := by have := hp.out; omega
          rw [e1, e2] at h3
          exact h3
        obtain ⟨g', k1, k2⟩ := (hG.out.be hbr.out).at_ (l := l) (by omega)
        have K2 := Lib.hid k2
        have hqn : (q : Int) ≤ 281474976710656 := by omega
        clear hop k2
        go_wp2_with fail
        go_loop [1, 10] (fun s1 s10 => ∃ (d k : Nat), s1 = .int .i64 (k : Int) ∧ s10 = .int .i64 (d : Int) ∧ d ≤ l - p ∧ Hid (M.DigAt l p q d k)) (fun _ s10 => 60 - (intOf s10).toNat)
        case atStart => exact ⟨0, q, rfl, rfl, Nat.zero_le _, M.dig_start _ _ _⟩
        case round =>
          obtain ⟨d, k, rfl, rfl, hd, hD⟩ := hrel
          have hDs := hD.out.2
          have hkq : k ≤ q := by omega
          have hd23 : d ≤ 23 := by omega
          have hLl := M.L_24 (n := l) (t := p + d) (by omega)
          have k3 := K2.out (p + d) _ (M.rowF_at (n := n) (l := l) (o := p + d) (by omega))
          obtain ⟨z, hz⟩ : ∃ z, Hid (M.L l (p + d) = z) := ⟨_, rfl⟩
          rw [hz.out] at hLl k3
          have hpi : (p : Int) + (d : Int) < (n : Int) + 2 := by omega
          clear hDs
          by_cases hzk : z ≤ k
          · have hD2 : Hid (M.DigAt l p q (d + 1) (k - z)) := by have := M.dig_step (by omega) hD.out (by rw [hz.out]; exact hzk); rw [hz.out] at this; exact this
            have hd2 : d + 1 ≤ l - p := M.dig_le hpl hQ.out hD2.out
            have hge : (z : Int) ≤ (k : Int) := by omega
            go_wp2
            go_round
            case rel => exact ⟨d + 1, k - z, by go_num, by go_num, hd2, hD2⟩
            case measure => simp [intOf]; omega
          · have hst := Lib.hid (M.dig_stop (l := l) (p := p) (R := q) (d := d) (r := k) (by omega) hD.out (by rw [hz.out]; omega))
            have hge : ¬ (z : Int) ≤ (k : Int) := by omega
            have hu2 : Hid (M.UnAt n U (v + 1) (p + d) k (pre ++ [(d : Int)])) := by
              have := M.un_step (d := d) (r' := k) hu.out hvn (by rw [hl.out, hp.out]; exact hst.out) (by rw [hl.out, hp.out, hz.out]; omega)
              rw [hp.out] at this
              exact this
            clear hu
            go_wp2_with (at_builtin; refine push64 rfl (.tmp 60) (.tmp 62) rfl wr w2.heap.size A' v c' pre (d : Int) rfl rfl hro hzr (by omega) ?_; intro A3 c3 w3 ho3 hb3)
            go_roundw
            case rel => exact ⟨v + 1, p + d, k, pre ++ [(d : Int)], A3, c3, by omega, by go_num, rfl, by go_num, rfl, by omega, hu2, ho3, hbr.out.trans hb3.out⟩
            case measure => simp [intOf]; omega
      · obtain rfl : v = n := by omega
        have hge2 : ¬ (v : Int) < (v : Int) := by omega
        have hpre := M.un_end hu.out
        subst hpre
        have hbx : Hid (Below (w.heap.size + 1) (w.alloc (.cells #[.slice none 0 0] 26)) wr) := hB.out.trans (hbr.out.mono hz2)
        have cR : wr.cell? ⟨w.heap.size, 0, none⟩ = some (.slice none 0 0) := (hbx.out.cell (p := ⟨w.heap.size, 0, none⟩) (by simp)).trans (by simp)
        have fR : wr.frozen? ⟨w.heap.size, 0, none⟩ = false := (hbx.out.frozen (p := ⟨w.heap.size, 0, none⟩) (by simp)).trans (by simp)
        have hbF : Hid (Below w.heap.size w wr) := (bal (b0 w) _).trans (hbx.out.mono (by omega))
        clear hu
        go_wp2
        refine bodyPost_ret (v := .tuple #[.agg #[.slice A' v c'], .bool true]) (by simp [results, Try.results214, go_sem, cR]) rfl ?_
        exact ⟨_, _, rfl, own_mono (own_far hro.out (by omega) _) (by omega), below_setCell hbF.out (Nat.le_refl _) _⟩
  · have hUe : M.unTree n r = [] := hUn.out.trans (if_neg hlt)
    have hge : (Ln : Int) ≤ (r : Int) := by omega
    rw [hUe, decide_eq_false hlt]
    clear hUe hUn
    go_enter Try.func214, Try.ntmps214
    go_wp2_with fail
    refine HT.out.mono ?_
    rintro e w2 ⟨A2, c2, rfl, hG, hb⟩
    have hB : Hid (Below (w.heap.size + 1) (w.alloc (.cells #[.slice none 0 0] 26)) w2) := hb
    have hz2 : w.heap.size + 1 ≤ w2.heap.size := by have := hB.out.size; simpa using this
    obtain ⟨_, G, rfl⟩ := hG.out.shape1 (by omega)
    obtain ⟨g0, k1, k2⟩ := (hG.out.be (bal (b0 w2) (.cells #[] 2))).at_ (l := n) (by omega)
    have k3 := k2 1 _ (M.rowF_at (n := n) (l := n) (o := 1) hn1)
    rw [hLe.out] at k3
    have hbx : Hid (Below (w.heap.size + 1) (w.alloc (.cells #[.slice none 0 0] 26)) (w2.alloc (.cells #[] 2))) := hB.out.alloc hz2 _
    have cR : (w2.alloc (.cells #[] 2)).cell? ⟨w.heap.size, 0, none⟩ = some (.slice none 0 0) := (hbx.out.cell (p := ⟨w.heap.size, 0, none⟩) (by simp)).trans (by simp)
    have fR : (w2.alloc (.cells #[] 2)).frozen? ⟨w.heap.size, 0, none⟩ = false := (hbx.out.frozen (p := ⟨w.heap.size, 0, none⟩) (by simp)).trans (by simp)
    have hbF : Hid (Below w.heap.size w (w2.alloc (.cells #[] 2))) := (bal (b0 w) _).trans (hbx.out.mono (by omega))
    clear k2 hb HT
    go_wp2
    refine bodyPost_ret (v := .tuple #[.agg #[.slice none 0 0], .bool false]) (by simp [results, Try.results214, go_sem, cR]) rfl ?_
    exact ⟨none, 0, rfl, own64_nil _ _, below_setCell hbF.out (Nat.le_refl _) _⟩
end Go.Proofs.Ytdgcjkgbglofbaa

/- FirstTree, the program's and the model's: the path of n nodes, or a code. -/
namespace Go.Proofs.Ytdgcjkgbglofbaa
open Go.RowKit

namespace M
theorem firstL_one {m : Nat} (hm : 1 ≤ m) : List.replicate (m - 1) (1 : Int) ++ [0] = firstL m 1 := by
  apply List.ext_getElem?
  intro j
  simp only [firstL, firstTo, List.getElem?_map]
  by_cases hj : j < m
  · rw [List.getElem?_range hj]
    simp only [Option.map_some]
    by_cases h1 : j < m - 1
    · rw [List.getElem?_append_left (by simp; exact h1), List.getElem?_replicate, if_pos h1, if_pos (by omega)]
    · rw [List.getElem?_append_right (by simp; omega), List.length_replicate, if_neg (by omega)]
      obtain rfl : j = m - 1 := by omega
      simp
  · rw [List.getElem?_eq_none (by simp; omega), List.getElem?_eq_none (by simp; omega)]; rfl
end M

def F_FirstTree (n : Int) : List Int × Int := if 1 ≤ n ∧ n ≤ 24 then (M.firstL n.toNat 1, 0) else ([], 2)
theorem F_FirstTree_len (n : Int) : (F_FirstTree n).1.length ≤ 1048576 := by
  rw [F_FirstTree]
  split
  · show (M.firstL n.toNat 1).length ≤ _; rw [M.firstL_len]; omega
  · simp

theorem res_new (w : World) (o : Obj) : Hid ((w.alloc o).heap[w.heap.size]? = some o) := World.alloc_heap_new w o

set_option maxHeartbeats 1000000 in
set_option maxRecDepth 100000 in
theorem impl_FirstTree : GivesTreeN1 86 F_FirstTree := by
  intro n w _ _
  obtain ⟨b, hb⟩ : ∃ b, Hid ((decide ((1 : Int) ≤ n) && decide (n ≤ 24)) = b) := ⟨_, rfl⟩
  cases b
  · have hF : F_FirstTree n = ([], 2) := if_neg (by have := hb.out; simp at this; omega)
    rw [hF]
    clear hF
    go_enter Try.func86, Try.ntmps86
    go_wp2_with (go_at_call 216; refine (withinAny _ _ _ _ _ hb).mono ?_; rintro e w' ⟨rfl, rfl⟩)
    refine bodyPost_ret (v := .tuple #[.agg #[.slice none 0 0], .int .i64 2]) (by simp [results, Try.results86, go_sem]) rfl ?_
    exact ⟨none, 0, rfl, own64_nil _ _, (Below.refl _ _).alloc (Nat.le_refl _) _⟩
  · have h12 := hb.out
    simp only [Bool.and_eq_true, decide_eq_true_eq] at h12
    obtain ⟨m, rfl⟩ := Int.eq_ofNat_of_zero_le (show 0 ≤ n by omega)
    have hF : F_FirstTree m = (M.firstL m 1, 0) := if_pos h12
    have hm1 : 1 ≤ m := by omega
    have hm2 : m ≤ 24 := by omega
    rw [hF, M.firstL_len]
    clear hF h12
    go_enter Try.func86, Try.ntmps86
    go_wp2_with (go_at_call 216; refine (withinAny _ _ _ _ _ hb).mono ?_; rintro e w' ⟨rfl, rfl⟩)
    refine (appendFirst none 0 0 [] m 1 _ (w.heap.size + 1) hm1 hm2 (Nat.le_refl _) (by omega) (by omega) (own64_nil _ _) (by simp)).mono ?_
    rintro e w2 ⟨A', c', rfl, ho, hb2⟩
    have hr := (hb2.block w.heap.size (Nat.lt_succ_self _)).trans (World.alloc_heap_new w (.cells #[.slice none 0 0] 26))
    have hr2 := cell_of_one hr
    have hf2 := free_of_one hr
    have hB2 := Lib.hid (hb2)
    have Ho := Lib.hid ho
    rw [Nat.zero_add] at Ho
    clear ho hb2
    go_wp2
    refine bodyPost_ret (v := .tuple #[.agg #[.slice A' m c'], .int .i64 0]) (by simp [results, Try.results86, go_sem, hr2]) rfl ?_
    exact ⟨A', c', rfl, own_mono (own_far Ho.out (Nat.lt_succ_self _) _) (Nat.le_succ _), below_setCell ((bal (b0 w) _).trans (hB2.out.mono (Nat.le_succ _))) (Nat.le_refl _) _⟩

set_option maxHeartbeats 1000000 in
set_option maxRecDepth 100000 in
theorem spec_FirstTree : GivesTreeN1 87 F_FirstTree := by
  intro n w _ _
  obtain ⟨b, hb⟩ : ∃ b, Hid ((decide ((1 : Int) ≤ n) && decide (n ≤ 24)) = b) := ⟨_, rfl⟩
  cases b
  · have hF : F_FirstTree n = ([], 2) := if_neg (by have := hb.out; simp at this; omega)
    rw [hF]
    clear hF
    go_enter Try.func87, Try.ntmps87
    go_wp2_with (go_at_call 217; refine (l02Whole _ _ _ hb).mono ?_; rintro e w' ⟨rfl, rfl⟩)
    refine bodyPost_ret (v := .tuple #[.agg #[.slice none 0 0], .int .i64 2]) (by simp [results, Try.results87, go_sem]) rfl ?_
    exact ⟨none, 0, rfl, own64_nil _ _, (Below.refl _ _).alloc (Nat.le_refl _) _⟩
  · have h12 := hb.out
    simp only [Bool.and_eq_true, decide_eq_true_eq] at h12
    obtain ⟨m, rfl⟩ := Int.eq_ofNat_of_zero_le (show 0 ≤ n by omega)
    have hF : F_FirstTree m = (M.firstL m 1, 0) := if_pos h12
    have hm1 : 1 ≤ m := by omega
    have hm2 : m ≤ 24 := by omega
    rw [hF, M.firstL_len]
    have hL := Lib.hid (M.firstL_one hm1)
    clear hF h12
    go_enter Try.func87, Try.ntmps87
    go_wp2_with (go_at_call 217; refine (l02Whole _ _ _ hb).mono ?_; rintro e w' ⟨rfl, rfl⟩)
    go_loopw [4, 5] (fun q i wr => ∃ (k : Nat) (A' : Option Addr) (c' : Nat), k + 1 ≤ m ∧ i = .int .i64 ((k : Int) + 1) ∧ q = .slice A' k c' ∧ Hid (Own64 wr (w.heap.size + 1) (.slice A' k c') (List.replicate k 1)) ∧ Hid (Below (w.heap.size + 1) (w.alloc (.cells #[.slice none 0 0] 26)) wr)) (fun _ i _ => m - (intOf i).toNat)
    case atStart => exact ⟨0, some ⟨w.heap.size + 1, 0, none⟩, 0, hm1, rfl, rfl, by have := own64_empty (w := w.alloc (.cells #[.slice none 0 0] 26)) (B := w.heap.size + 1) (by simp); exact Lib.hid (by simpa using this), (Below.refl _ _).alloc (by simp) _⟩
    case round =>
      obtain ⟨k, A', c', hk2, rfl, rfl, ho, hbr⟩ := hrel
      have hB1 := hbr.out.size
      have hB2 : w.heap.size + 1 ≤ wr.heap.size := by simpa using hB1
      clear hB1
      by_cases hlt : k + 1 < m
      · have hrep : Hid (List.replicate k (1 : Int) ++ [1] = List.replicate (k + 1) 1) := by
          show _ = _
          rw [List.replicate_succ']
        have hlt2 : (k : Int) + 1 < (m : Int) := by omega
        go_wp2_with (at_builtin; refine push64 rfl (.tmp 16) (.tmp 17) rfl wr (w.heap.size + 1) A' k c' (List.replicate k 1) 1 rfl rfl ho hB2 (by omega) ?_; intro A2 c2 w2 ho2 hb2; have hb3 := Lib.hid (hbr.out.trans hb2.out))
        go_roundw
        case rel => exact ⟨k + 1, A2, c2, by omega, by go_num, rfl, own64_eq ho2.out hrep.out, hb3⟩
        case measure => simp [intOf]; omega
      · obtain rfl : m = k + 1 := by omega
        have hge : ¬ (k : Int) + 1 < ((k + 1 : Nat) : Int) := by omega
        have hL2 : Hid (List.replicate k (1 : Int) ++ [0] = M.firstL (k + 1) 1) := hL.out
        go_wp2_with (at_builtin; refine push64 rfl (.tmp 19) (.tmp 20) rfl wr (w.heap.size + 1) A' k c' (List.replicate k 1) 0 rfl rfl ho hB2 (by omega) ?_; intro A2 c2 w2 ho2 hb2; have hb3 := Lib.hid (hbr.out.trans hb2.out); have hr := (hb3.out.block w.heap.size (Nat.lt_succ_self _)).trans (World.alloc_heap_new w (.cells #[.slice none 0 0] 26)); have hr2 := cell_of_one hr; have hf2 := free_of_one hr)
        refine bodyPost_ret (v := .tuple #[.agg #[.slice A2 (k + 1) c2], .int .i64 0]) (by simp [results, Try.results87, go_sem, hr2]) rfl ?_
        exact ⟨A2, c2, rfl, own_mono (own_far (own64_eq ho2.out hL2.out) (Nat.lt_succ_self _) _) (Nat.le_succ _), below_setCell ((bal (b0 w) _).trans (hb3.out.mono (Nat.le_succ _))) (Nat.le_refl _) _⟩
end Go.Proofs.Ytdgcjkgbglofbaa

/- TreesOf, the program's and the model's: all trees of n nodes, or a code. -/
namespace Go.Proofs.Ytdgcjkgbglofbaa
open Go.RowKit Go.Shelf Go.Maps

namespace M
/-- the first k trees of n nodes -/
def firstT (n k : Nat) : List (List Int) := (List.range k).map (unrank n 1)
theorem firstT_len (n k : Nat) : (firstT n k).length = k := by simp [firstT]
theorem firstT_succ (n k : Nat) : firstT n (k + 1) = firstT n k ++ [unrank n 1 k] := by simp [firstT, List.range_succ]
theorem L_7 {n : Nat} (hn1 : 1 ≤ n) (hn : n ≤ 7) : 1 ≤ L n 1 ∧ L n 1 ≤ 8192 := by
  have h1 := L_le n 1 hn1
  have h2 : 2 ^ (2 * n - 1) ≤ 2 ^ 13 := Nat.pow_le_pow_right (by omega) (by omega)
  have h3 : (2 : Nat) ^ 13 = 8192 := by decide
  have h4 := rk_lt (firstL n 1) 1 (firstL_go n 1 (by omega) hn1).1
  rw [firstL_len] at h4
  omega
theorem firstT_small {n k : Nat} (hn : n ≤ 24) : ∀ zs ∈ firstT n k, zs.length ≤ 24 := by
  intro zs h
  simp only [firstT, List.mem_map] at h
  obtain ⟨r, _, rfl⟩ := h
  rw [unrank_len]
  exact hn
end M

def F_TreesOf (n : Int) : List (List Int) × Int := if 1 ≤ n ∧ n ≤ 24 then (if n ≤ 7 then (M.firstT n.toNat (M.L n.toNat 1), 0) else ([], 3)) else ([], 2)

/-- a number to a list of trees and a code -/
def GivesTreesN (f : Nat) (F : Int → List (List Int) × Int) : Prop :=
  ∀ (n : Int) (w : World), -9223372036854775808 ≤ n → n ≤ 9223372036854775807 →
    Calls Try.prog f #[.int .i64 n] w fun e w' => ∃ A' c' hs, e = .returned (.tuple #[.slice A' (F n).1.length c', .int .i64 (F n).2]) ∧ Woods w' w.heap.size (.slice A' (F n).1.length c') hs (F n).1 ∧ Below w.heap.size w w'

set_option maxRecDepth 100000 in
set_option maxHeartbeats 4000000 in
theorem spec_TreesOf : GivesTreesN 100 F_TreesOf := by
  intro n w _ _
  obtain ⟨b, hb⟩ : ∃ b, Hid ((decide ((1 : Int) ≤ n) && decide (n ≤ 24)) = b) := ⟨_, rfl⟩
  cases b
  · have hF : F_TreesOf n = ([], 2) := if_neg (by have := hb.out; simp at this; omega)
    rw [hF]
    clear hF
    go_enter Try.func100, Try.ntmps100
    go_wp2_with (go_at_call 217; refine (l02Whole _ _ _ hb).mono ?_; rintro e w' ⟨rfl, rfl⟩)
    go_ret2
    exact ⟨none, 0, [], rfl, woods_nil _ _, Below.refl _ _⟩
  · have h12 := hb.out
    simp only [Bool.and_eq_true, decide_eq_true_eq] at h12
    obtain ⟨n, rfl⟩ := Int.eq_ofNat_of_zero_le (show 0 ≤ n by omega)
    by_cases h7 : (n : Int) ≤ 7
    · have hF : F_TreesOf n = (M.firstT n (M.L n 1), 0) := by rw [F_TreesOf, if_pos h12, if_pos h7]; rfl
      have hn1 : 1 ≤ n := by omega
      have hn7 : ¬ (7 : Int) < (n : Int) := by omega
      have hL := M.L_7 hn1 (by omega)
      have hTr := fun (r : Nat) (W : World) (hr : (r : Int) ≤ 9223372036854775807) => l02Tree n r W hn1 (by omega) hr
      obtain ⟨Ln, hLe⟩ : ∃ Ln, Hid (M.L n 1 = Ln) := ⟨_, rfl⟩
      rw [hLe.out] at hF hL hTr
      rw [hF, M.firstT_len]
      have HTr := Lib.hid hTr
      have hst : Hid (Woods (w.alloc (.cells #[] 26)) w.heap.size (.slice (some ⟨w.heap.size, 0, none⟩) 0 0) [] (M.firstT n 0)) := woods_empty (Nat.le_refl _)
      have hb0 : Hid (Below w.heap.size w (w.alloc (.cells #[] 26))) := bal (b0 w) _
      clear hF h7 h12 hTr
      go_enter Try.func100, Try.ntmps100
      go_wp2_with (go_at_call 217; refine (l02Whole _ _ _ hb).mono ?_; rintro e w' ⟨rfl, rfl⟩)
      simp only [show decide ((7 : Int) < (n : Int)) = false from decide_eq_false (by omega)]
      go_loopw [4, 5] (fun q i wr => ∃ (k : Nat) (A' : Option Addr) (c' : Nat) (hs : List Hdr), k ≤ Ln ∧ i = .int .i64 (k : Int) ∧ q = .slice A' k c' ∧ Hid (Woods wr w.heap.size (.slice A' k c') hs (M.firstT n k)) ∧ Hid (Below w.heap.size w wr)) (fun _ i _ => Ln + 1 - (intOf i).toNat)
      case atStart => exact ⟨0, _, 0, [], Nat.zero_le _, rfl, rfl, hst, hb0⟩
      case round =>
        obtain ⟨k, A', c', hs, hk, rfl, rfl, hW, hbr⟩ := hrel
        have hzr := hbr.out.size
        clear hst hb0
        have HK := Lib.hid (HTr.out k wr (by omega))
        by_cases hlt : k < Ln
        · have hun : M.unTree n k = M.unrank n 1 k := by rw [M.unTree, hLe.out, if_pos hlt]
          have hul := M.unrank_len n 1 k
          rw [hun, decide_eq_true hlt] at HK
          have hsc := Lib.hid (M.firstT_succ n k)
          clear hun
          generalize M.unrank n 1 k = U at *
          subst hul
          go_wp2_with fail
          refine HK.out.mono ?_
          rintro e w2 ⟨A2, c2, rfl, ho2, hb2⟩
          obtain ⟨g2, rfl⟩ : ∃ g, A2 = some ⟨g, 0, none⟩ := by
            rcases ho2.2 with ⟨_, h0⟩ | ⟨g, cap, cur, hv, _⟩
            · omega
            · injection hv with e1; exact ⟨g, e1⟩
          have hg2 := (World.ownsRow.lt ho2 g2 rfl).1
          have hW2 : Hid (Woods (w2.alloc (.cells #[.slice (some ⟨g2, 0, none⟩) U.length c2] 26)) w.heap.size (.slice A' k c') hs (M.firstT U.length k)) := (hW.out.be hb2).alloc _
          have ho2' : Hid (Own64 (w2.alloc (.cells #[.slice (some ⟨g2, 0, none⟩) U.length c2] 26)) w.heap.size (hdr (g2, U.length, c2)) U) := own_mono (ho2.alloc _) hzr
          have hne : Hid ((Value.slice A' k c').ownBlock ≠ some (g2, U.length, c2).1) := fun e => by have := (World.ownsRow.lt hW.out.row _ e).2; simp only at this; omega
          have hfr : Hid (∀ h' ∈ hs, h'.1 ≠ (g2, U.length, c2).1) := fun h' hh e => by have := (hW.out.lt hh).2; simp only at e; omega
          have hB2 : w.heap.size ≤ (w2.alloc (.cells #[.slice (some ⟨g2, 0, none⟩) U.length c2] 26)).heap.size := by have := hb2.size; simp; omega
          have hb2' : Hid (Below w.heap.size w (w2.alloc (.cells #[.slice (some ⟨g2, 0, none⟩) U.length c2] 26))) := bal (btr hbr.out hb2) _
          clear ho2 hb2 hW hbr HK hg2
          go_wp2_with (at_builtin; refine pushTree rfl (.tmp 27) (.tmp 29) rfl _ w.heap.size A' k c' hs _ (g2, U.length, c2) U rfl (by simp only [World.size_alloc]; rfl) hW2 ho2' hne hfr hB2 (by omega) ?_; intro A3 c3 w3 hW3 hb3)
          have hb3' : Hid (Below w.heap.size w w3) := hb2'.out.trans hb3.out
          rw [← hsc.out] at hW3
          clear hW2 ho2' hne hfr hB2 hb2' hb3
          go_roundw
          case rel => exact ⟨k + 1, A3, c3, _, by omega, by go_num, rfl, hW3, hb3'⟩
          case measure => simp [intOf]; omega
        · obtain rfl : k = Ln := by omega
          have hun : M.unTree n k = [] := by rw [M.unTree, hLe.out, if_neg hlt]
          rw [hun, decide_eq_false hlt] at HK
          clear hun
          go_wp2_with fail
          refine HK.out.mono ?_
          rintro e w2 ⟨A2, c2, rfl, _, hb2⟩
          have hW2 : Hid (Woods (w2.alloc (.cells #[.slice A2 ([] : List Int).length c2] 26)) w.heap.size (.slice A' k c') hs (M.firstT n k)) := (hW.out.be hb2).alloc _
          have hb2' : Hid (Below w.heap.size w (w2.alloc (.cells #[.slice A2 ([] : List Int).length c2] 26))) := bal (btr hbr.out hb2) _
          clear hb2 hW hbr HK
          go_wp2
          go_ret2
          exact ⟨A', c', hs, rfl, hW2.out, hb2'.out⟩
    · have hF : F_TreesOf n = ([], 3) := by rw [F_TreesOf, if_pos h12, if_neg h7]
      have hn7 : (7 : Int) < (n : Int) := by omega
      rw [hF]
      clear hF h7 h12
      go_enter Try.func100, Try.ntmps100
      go_wp2_with (go_at_call 217; refine (l02Whole _ _ _ hb).mono ?_; rintro e w' ⟨rfl, rfl⟩)
      go_ret2
      exact ⟨none, 0, [], rfl, woods_nil _ _, Below.refl _ _⟩
end Go.Proofs.Ytdgcjkgbglofbaa

/- Orders of told numbers: by factorials and by choices. No program is named here. -/
namespace Go.Proofs.Ytdgcjkgbglofbaa.M
/-- the sum of the first k numbers; the sum of each times its place -/
def sumI (xs : List Int) : Nat → Int
  | 0 => 0
  | k + 1 => sumI xs k + xs[k]?.getD 0
def kidI (xs : List Int) : Nat → Int
  | 0 => 0
  | k + 1 => kidI xs k + (k : Int) * xs[k]?.getD 0
/-- the first k numbers are not negative, and no sum is over 20 -/
def okTo (xs : List Int) : Nat → Bool
  | 0 => true
  | k + 1 => okTo xs k && (decide (0 ≤ xs[k]?.getD 0) && decide (sumI xs (k + 1) ≤ 20))
theorem sumI_at {xs : List Int} {k : Nat} {x : Int} (h : xs[k]? = some x) : sumI xs (k + 1) = sumI xs k + x := by simp [sumI, h]
theorem kidI_at {xs : List Int} {k : Nat} {x : Int} (h : xs[k]? = some x) : kidI xs (k + 1) = kidI xs k + (k : Int) * x := by simp [kidI, h]
theorem okTo_at {xs : List Int} {k : Nat} {x : Int} (h : xs[k]? = some x) : okTo xs (k + 1) = (okTo xs k && (decide (0 ≤ x) && decide (x ≤ 20 - sumI xs k))) := by
  simp only [okTo, sumI, h, Option.getD_some]
  congr 2
  rw [decide_eq_decide]
  omega
theorem okTo_mono {xs : List Int} {j : Nat} : ∀ {k : Nat}, j ≤ k → okTo xs k = true → okTo xs j = true := by
  intro k
  induction k with
  | zero => intro h hk; obtain rfl : j = 0 := by omega
            exact hk
  | succ k ih =>
    intro h hk
    rcases Nat.lt_or_ge j (k + 1) with h1 | h1
    · simp only [okTo, Bool.and_eq_true] at hk
      exact ih (by omega) hk.1
    · obtain rfl : j = k + 1 := by omega
      exact hk
theorem okTo_sum {xs : List Int} : ∀ {k : Nat}, okTo xs k = true → 0 ≤ sumI xs k ∧ sumI xs k ≤ 20 := by
  intro k
  induction k with
  | zero => intro _; simp [sumI]
  | succ k ih =>
    intro h
    simp only [okTo, Bool.and_eq_true, decide_eq_true_eq] at h
    have := ih h.1
    have h1 := h.2.1
    have h2 := h.2.2
    simp only [sumI] at h2 ⊢
    omega
theorem okTo_of {xs : List Int} : ∀ {k : Nat}, (∀ i, i < k → 0 ≤ xs[i]?.getD 0) → sumI xs k ≤ 20 → okTo xs k = true := by
  intro k
  induction k with
  | zero => intro _ _; rfl
  | succ k ih =>
    intro h hs
    have h0 := h k (by omega)
    simp only [okTo, Bool.and_eq_true, decide_eq_true_eq]
    refine ⟨ih (fun i hi => h i (by omega)) ?_, h0, hs⟩
    simp only [sumI] at hs
    omega
theorem okTo_item {xs : List Int} {k i : Nat} {x : Int} (h : okTo xs k = true) (hi : i < k) (hx : xs[i]? = some x) : 0 ≤ x ∧ x ≤ 20 := by
  have h1 := okTo_mono (j := i + 1) (by omega) h
  have h2 := okTo_sum (okTo_mono (j := i) (by omega) h)
  rw [okTo_at hx] at h1
  simp only [Bool.and_eq_true, decide_eq_true_eq] at h1
  omega
def fact : Nat → Nat
  | 0 => 1
  | n + 1 => fact n * (n + 1)
theorem fact_pos : ∀ n, 0 < fact n := by
  intro n
  induction n with
  | zero => decide
  | succ n ih => exact Nat.mul_pos ih (Nat.succ_pos _)
theorem fact_small {n : Nat} (h : n ≤ 20) : fact n ≤ 2432902008176640000 := by
  have : ((List.range 21).all fun n => decide (fact n ≤ 2432902008176640000)) = true := by decide +kernel
  have h1 := List.all_eq_true.1 this n (List.mem_range.2 (by omega))
  simpa using h1
theorem fact_ch {n k : Nat} (hn : n ≤ 20) (hk : k ≤ n) : fact n = ch n (k : Int) * fact (n - k) * fact k := by
  have : ((List.range 21).all fun n => (List.range (n + 1)).all fun k => fact n == ch n (k : Int) * fact (n - k) * fact k) = true := by decide +kernel
  have h1 := List.all_eq_true.1 this n (List.mem_range.2 (by omega))
  have h2 := List.all_eq_true.1 h1 k (List.mem_range.2 (by omega))
  simpa using h2
/-- the numbers as such -/
def cN (xs : List Int) (k : Nat) : Nat := (xs[k]?.getD 0).toNat
def leftTo (xs : List Int) (n : Nat) : Nat → Nat
  | 0 => n
  | k + 1 => leftTo xs n k - cN xs k
def ordTo (xs : List Int) (n : Nat) : Nat → Nat
  | 0 => fact n
  | k + 1 => ordTo xs n k / fact (cN xs k)
def outTo (xs : List Int) (n : Nat) : Nat → Nat
  | 0 => 1
  | k + 1 => outTo xs n k * ch (leftTo xs n k) (cN xs k : Int)
theorem left_sum {xs : List Int} {n m : Nat} (hm : okTo xs m = true) (hn : sumI xs m = (n : Int)) : ∀ k, k ≤ m → (leftTo xs n k : Int) = (n : Int) - sumI xs k ∧ sumI xs k ≤ n := by
  intro k
  have mono : ∀ j, ∀ i, i ≤ j → j ≤ m → sumI xs i ≤ sumI xs j := by
    intro j
    induction j with
    | zero => intro i hi _; obtain rfl : i = 0 := by omega
              exact Int.le_refl _
    | succ j ih =>
      intro i hi hj
      have h1 := okTo_mono (j := j + 1) hj hm
      simp only [okTo, Bool.and_eq_true, decide_eq_true_eq] at h1
      rcases Nat.lt_or_ge i (j + 1) with h2 | h2
      · have := ih i (by omega) (by omega)
        simp only [sumI]
        have := h1.2.1
        omega
      · obtain rfl : i = j + 1 := by omega
        exact Int.le_refl _
  induction k with
  | zero => intro _; have := mono m 0 (by omega) (Nat.le_refl _); simp only [sumI] at this ⊢; simp only [leftTo]; omega
  | succ k ih =>
    intro hk
    obtain ⟨h1, h2⟩ := ih (by omega)
    have h3 := okTo_mono (j := k + 1) hk hm
    simp only [okTo, Bool.and_eq_true, decide_eq_true_eq] at h3
    have h4 := mono m (k + 1) hk (Nat.le_refl _)
    have h5 := h3.2.1
    simp only [leftTo, cN, sumI] at h4 ⊢
    omega
theorem ord_out {xs : List Int} {n m : Nat} (hm : okTo xs m = true) (hn : sumI xs m = (n : Int)) : ∀ k, k ≤ m → ordTo xs n k = outTo xs n k * fact (leftTo xs n k) := by
  have hn20 : n ≤ 20 := by have := okTo_sum hm; omega
  intro k
  induction k with
  | zero => intro _; simp [ordTo, outTo, leftTo]
  | succ k ih =>
    intro hk
    have h1 := left_sum hm hn k (by omega)
    have h2 := left_sum hm hn (k + 1) hk
    have h3 := okTo_mono (j := k + 1) hk hm
    simp only [okTo, Bool.and_eq_true, decide_eq_true_eq] at h3
    have hc : cN xs k ≤ leftTo xs n k := by
      have h5 := h3.2.1
      have h6 := h2.2
      simp only [sumI] at h6
      simp only [cN]
      omega
    have hl : leftTo xs n k ≤ 20 := by
      have h6 := okTo_sum (okTo_mono (j := k) (by omega) hm)
      omega
    rw [ordTo, ih (by omega), fact_ch hl hc]
    simp only [outTo, leftTo]
    rw [show outTo xs n k * (ch (leftTo xs n k) (cN xs k : Int) * fact (leftTo xs n k - cN xs k) * fact (cN xs k)) = outTo xs n k * ch (leftTo xs n k) (cN xs k : Int) * fact (leftTo xs n k - cN xs k) * fact (cN xs k) by
      simp only [Nat.mul_assoc]]
    rw [Nat.mul_div_cancel _ (fact_pos _)]
theorem ord_small {xs : List Int} {n : Nat} (hn : n ≤ 20) : ∀ k, ordTo xs n k ≤ 2432902008176640000 := by
  intro k
  induction k with
  | zero => exact fact_small hn
  | succ k ih => exact Nat.le_trans (Nat.div_le_self _ _) ih
theorem out_small {xs : List Int} {n m : Nat} (hm : okTo xs m = true) (hn : sumI xs m = (n : Int)) {k : Nat} (hk : k ≤ m) : outTo xs n k ≤ 2432902008176640000 := by
  have h1 := ord_out hm hn k hk
  have h2 := ord_small (xs := xs) (n := n) (by have := okTo_sum hm; omega) k
  have h3 := fact_pos (leftTo xs n k)
  rw [h1] at h2
  exact Nat.le_trans (Nat.le_mul_of_pos_right _ h3) h2
theorem out_end {xs : List Int} {n m : Nat} (hm : okTo xs m = true) (hn : sumI xs m = (n : Int)) : ordTo xs n m = outTo xs n m := by
  have h1 := left_sum hm hn m (Nat.le_refl _)
  rw [ord_out hm hn m (Nat.le_refl _), show leftTo xs n m = 0 by omega]
  simp [fact]
end Go.Proofs.Ytdgcjkgbglofbaa.M

/- CountByCounts, the program's and the model's: the number of trees with told counts, or a code. -/
namespace Go.Proofs.Ytdgcjkgbglofbaa
open Go.RowKit

namespace M
def lastOf (xs : List Int) : Int := xs[xs.length - 1]?.getD 0
def good (xs : List Int) : Bool := (decide (1 ≤ xs.length) && decide (xs.length ≤ 30)) && (!(lastOf xs == 0) && okTo xs xs.length)
end M

theorem kid_small {xs : List Int} : ∀ k, k ≤ 30 → M.okTo xs k = true → 0 ≤ M.kidI xs k ∧ M.kidI xs k ≤ 30 * M.sumI xs k := by
  intro k
  induction k with
  | zero => intro _ _; simp [M.kidI, M.sumI]
  | succ k ih =>
    intro hk h
    have h1 := ih (by omega) (M.okTo_mono (by omega) h)
    simp only [M.okTo, Bool.and_eq_true, decide_eq_true_eq] at h
    have h2 := h.2.1
    simp only [M.kidI, M.sumI]
    generalize xs[k]?.getD 0 = x at *
    have h3 : 0 ≤ (k : Int) * x := Int.mul_nonneg (by omega) h2
    have h4 : (k : Int) * x ≤ 30 * x := Int.mul_le_mul_of_nonneg_right (by omega) h2
    omega

def F_CountByCounts (xs : List Int) : Int × Int :=
  if M.good xs then (if M.kidI xs xs.length = M.sumI xs xs.length - 1 then ((M.outTo xs (M.sumI xs xs.length).toNat xs.length : Int) / M.sumI xs xs.length, 0) else (0, 5)) else (0, 2)

set_option maxHeartbeats 1000000 in
theorem areCounts (A : Option Addr) (xs : List Int) (c : Nat) (w : World) (hx : xs.length ≤ 1000000000) (hv : Hid (∀ x ∈ xs, -9223372036854775808 ≤ x ∧ x ≤ 9223372036854775807)) (h : Hid (Ints w w.heap.size A xs)) (r : Bool) (hr : Hid (M.good xs = r)) :
    Calls Try.prog 227 #[.slice A xs.length c] w fun e w' => e = .returned (.bool r) ∧ w = w' := by
  obtain ⟨b1, hb1⟩ : ∃ b1, Hid ((decide ((1 : Int) ≤ (xs.length : Int)) && decide ((xs.length : Int) ≤ 30)) = b1) := ⟨_, rfl⟩
  cases b1
  · have he : Hid (r = false) := by
      show _ = _
      have h1 := hb1.out
      rw [← hr.out, M.good]
      simp only [Bool.and_eq_false_iff, decide_eq_false_iff_not] at h1 ⊢
      omega
    rw [he.out]
    go_enter Try.func227, Try.ntmps227
    go_wp2_with (go_at_call 216; refine (withinAny _ _ _ _ _ hb1).mono ?_; rintro e w' ⟨rfl, rfl⟩)
    go_ret
    exact ⟨rfl, rfl⟩
  · have h12 := hb1.out
    simp only [Bool.and_eq_true, decide_eq_true_eq] at h12
    have hl1 : 1 ≤ xs.length := by omega
    have hl2 : xs.length ≤ 30 := by omega
    have hg : M.good xs = (!(M.lastOf xs == 0) && M.okTo xs xs.length) := by simp [M.good, hl1, hl2]
    obtain ⟨y, hy⟩ : ∃ y, xs[xs.length - 1]? = some y := ⟨_, List.getElem?_eq_getElem (by omega)⟩
    have hlast : M.lastOf xs = y := by simp [M.lastOf, hy]
    obtain ⟨b, off, rfl, hbB, hcells⟩ := h.out (by omega)
    have Hcells := Lib.hid hcells
    have cl := hcells _ _ hy
    have hlm : (0 : Int) ≤ (xs.length : Int) - 1 := by omega
    clear hcells hy h12
    by_cases hy0 : y = 0
    · have he : Hid (r = false) := by show _ = _; rw [← hr.out, hg, hlast, hy0]; rfl
      have hq : (y == 0) = true := by simp [hy0]
      rw [he.out]
      clear hg hlast hy0
      go_enter Try.func227, Try.ntmps227
      go_wp2_with (go_at_call 216; refine (withinAny _ _ _ _ _ hb1).mono ?_; rintro e w' ⟨rfl, rfl⟩)
      go_ret
      exact ⟨rfl, rfl⟩
    · have he : Hid (r = M.okTo xs xs.length) := by
        show _ = _
        rw [← hr.out, hg, hlast]
        have : (y == 0) = false := by simp [hy0]
        rw [this]
        rfl
      have hq : (y == 0) = false := by simp [hy0]
      clear hg hlast hy0 hr
      go_enter Try.func227, Try.ntmps227
      go_wp2_with (go_at_call 216; refine (withinAny _ _ _ _ _ hb1).mono ?_; rintro e w' ⟨rfl, rfl⟩)
      clear cl
      go_loop [3, 5, 21] (fun s3 _ i => ∃ (k : Nat) (z : Int), k ≤ xs.length ∧ i = .int .i64 (k : Int) ∧ s3 = .int .i64 (20 - z) ∧ Hid (M.sumI xs k = z) ∧ 0 ≤ z ∧ z ≤ 20 ∧ Hid (M.okTo xs k = true)) (fun _ _ i => xs.length - (intOf i).toNat)
      case atStart => exact ⟨0, 0, Nat.zero_le _, rfl, rfl, rfl, Int.le_refl _, by omega, rfl⟩
      case round =>
        obtain ⟨k, z, hk, rfl, rfl, hz, hz0, hz1, hok⟩ := hrel
        by_cases hlt : k < xs.length
        · obtain ⟨x, hX⟩ : ∃ x, xs[k]? = some x := ⟨_, List.getElem?_eq_getElem hlt⟩
          have g := Hcells.out k _ hX
          have hxv := hv.out x (List.mem_of_getElem? hX)
          have hst := M.okTo_at hX
          rw [hok.out, hz.out, Bool.true_and] at hst
          obtain ⟨b2, hb2⟩ : ∃ b2, Hid ((decide ((0 : Int) ≤ x) && decide (x ≤ 20 - z)) = b2) := ⟨_, rfl⟩
          rw [hb2.out] at hst
          have hsum := Lib.hid (M.sumI_at hX)
          have Hst := Lib.hid hst
          have hxv0 := hxv.1
          have hxv1 := hxv.2
          clear hst hX hxv
          cases b2
          · have hfin : Hid (M.okTo xs xs.length = false) := by
              show _ = _
              cases hq2 : M.okTo xs xs.length
              · rfl
              · have := M.okTo_mono (j := k + 1) (by omega) hq2
                rw [Hst.out] at this
                cases this
            go_wp2_with (go_at_call 216; refine (withinAny _ _ _ _ _ hb2).mono ?_; rintro e w' ⟨rfl, rfl⟩)
            go_ret
            exact ⟨by rw [he.out, hfin.out]; rfl, rfl⟩
          · have hx2 := hb2.out
            simp only [Bool.and_eq_true, decide_eq_true_eq] at hx2
            have hx3 := hx2.1
            have hx4 := hx2.2
            have hs2 : Hid (M.sumI xs (k + 1) = z + x) := by show _ = _; rw [hsum.out, hz.out]
            clear hx2
            go_wp2_with (go_at_call 216; refine (withinAny _ _ _ _ _ hb2).mono ?_; rintro e w' ⟨rfl, rfl⟩)
            go_round
            case rel => exact ⟨k + 1, z + x, by omega, by go_num, by go_num, hs2, by omega, by omega, Hst⟩
            case measure => simp [intOf]; omega
        · obtain rfl : k = xs.length := by omega
          go_wp2
          go_ret
          exact ⟨by rw [he.out, hok.out]; rfl, rfl⟩

set_option maxHeartbeats 1000000 in
theorem factorial (n : Nat) (w : World) (hn : n ≤ 20) :
    Calls Try.prog 228 #[.int .i64 (n : Int)] w fun e w' => e = .returned (.int .i64 (M.fact n : Int)) ∧ w = w' := by
  go_enter Try.func228, Try.ntmps228
  go_wp2
  go_loop [3, 4] (fun q i => ∃ (k p : Nat), 1 ≤ k ∧ (k ≤ n ∨ k = 1) ∧ i = .int .i64 ((k : Int) + 1) ∧ q = .int .i64 (p : Int) ∧ Hid (M.fact k = p)) (fun _ i => 40 - (intOf i).toNat)
  case atStart => exact ⟨1, 1, Nat.le_refl _, .inr rfl, rfl, rfl, rfl⟩
  case round =>
    obtain ⟨k, p, hk1, hk, rfl, rfl, hp⟩ := hrel
    by_cases hlt : k < n
    · have hlt2 : (k : Int) + 1 ≤ (n : Int) := by omega
      have hs := M.fact_small (n := k + 1) (by omega)
      obtain ⟨q, hq⟩ : ∃ q, Hid (M.fact (k + 1) = q) := ⟨_, rfl⟩
      have hqe : (p : Int) * ((k : Int) + 1) = (q : Int) := by rw [← hq.out, M.fact, hp.out, Int.natCast_mul]; rfl
      rw [hq.out] at hs
      go_wp2
      go_round
      case rel => exact ⟨k + 1, q, by omega, .inl (by omega), by go_num, rfl, hq⟩
      case measure => simp [intOf]; omega
    · have hge : ¬ (k : Int) + 1 ≤ (n : Int) := by omega
      have he : Hid (M.fact n = p) := by
        show _ = _
        rw [← hp.out]
        rcases Nat.lt_or_ge n 1 with h1 | h1
        · obtain rfl : n = 0 := by omega
          obtain rfl : k = 1 := by omega
          rfl
        · obtain rfl : k = n := by omega
          rfl
      go_wp2
      go_ret
      exact ⟨by rw [he.out]; rfl, rfl⟩

theorem good_parts {xs : List Int} (h : M.good xs = true) : (1 ≤ xs.length ∧ xs.length ≤ 30) ∧ M.lastOf xs ≠ 0 ∧ M.okTo xs xs.length = true := by
  simpa [M.good] using h

set_option maxHeartbeats 2000000 in
theorem impl_CountByCounts : GivesNumI 106 F_CountByCounts := by
  intro A xs c w hx hcc h hv
  have hc := areCounts A xs c w (by omega) hv h _ rfl
  cases hg : M.good xs
  · rw [hg] at hc
    have HC := Lib.hid hc
    have hF : F_CountByCounts xs = (0, 2) := by rw [F_CountByCounts, hg]; rfl
    rw [hF]
    clear hc hg hF
    go_enter Try.func106, Try.ntmps106
    go_wp2_with fail
    refine HC.out.mono ?_
    rintro e w' ⟨rfl, rfl⟩
    go_wp2
    go_ret2
    exact ⟨rfl, b0 _⟩
  · rw [hg] at hc
    have HC := Lib.hid hc
    obtain ⟨⟨hl1, hl2⟩, _, hok0⟩ := good_parts hg
    have hok := Lib.hid hok0
    have hs20 := M.okTo_sum hok0
    obtain ⟨N, hN0⟩ := Int.eq_ofNat_of_zero_le hs20.1
    have hN := Lib.hid hN0
    have hN20 : N ≤ 20 := by omega
    have hF : Hid (F_CountByCounts xs = if M.kidI xs xs.length = (N : Int) - 1 then ((M.outTo xs N xs.length : Int) / (N : Int), 0) else (0, 5)) := by
      show _ = _
      rw [F_CountByCounts, hg, hN0, Int.toNat_natCast]
      rfl
    obtain ⟨b, off, rfl, hbB, hcells⟩ := h (by omega)
    have Hcells := Lib.hid hcells
    have hsumLe : Hid (∀ k, k ≤ xs.length → 0 ≤ M.sumI xs k ∧ M.sumI xs k ≤ 20 ∧ 0 ≤ M.kidI xs k ∧ M.kidI xs k ≤ 600) := fun k hk => by
      have h1 := M.okTo_mono hk hok0
      have h2 := M.okTo_sum h1
      have h3 := kid_small k (by omega) h1
      omega
    obtain ⟨r1, r2, hR⟩ : ∃ r1 r2, Hid (F_CountByCounts xs = (r1, r2)) := ⟨_, _, rfl⟩
    rw [hR.out]
    clear hc hg hok0 hs20 hN0 hcells
    go_enter Try.func106, Try.ntmps106
    go_wp2_with fail
    refine HC.out.mono ?_
    rintro e w' ⟨rfl, rfl⟩
    clear HC
    go_wp2
    go_loop [4, 5, 6, 7, 16] (fun s4 s5 _ _ i => ∃ (k : Nat) (z y : Int), k ≤ xs.length ∧ i = .int .i64 (k : Int) ∧ s4 = .int .i64 z ∧ s5 = .int .i64 y ∧ Hid (M.sumI xs k = z) ∧ Hid (M.kidI xs k = y)) (fun _ _ _ _ i => xs.length - (intOf i).toNat)
    case atStart => exact ⟨0, 0, 0, Nat.zero_le _, rfl, rfl, rfl, rfl, rfl⟩
    case round =>
      obtain ⟨k, z, y, hk, rfl, rfl, rfl, hz, hy⟩ := hrel
      have hle := hsumLe.out k hk
      rw [hz.out, hy.out] at hle
      have hz0 := hle.1
      have hz1 := hle.2.1
      have hy0 := hle.2.2.1
      have hy1 := hle.2.2.2
      clear hle
      by_cases hlt : k < xs.length
      · obtain ⟨x, hX⟩ : ∃ x, xs[k]? = some x := ⟨_, List.getElem?_eq_getElem hlt⟩
        have g := Hcells.out k _ hX
        have hx2 := M.okTo_item hok.out hlt hX
        have hx3 := hx2.1
        have hx4 := hx2.2
        obtain ⟨v, hve⟩ : ∃ v, (k : Int) * x = v := ⟨_, rfl⟩
        have hs1 : Hid (M.sumI xs (k + 1) = z + x) := by show _ = _; rw [M.sumI_at hX, hz.out]
        have hs2 : Hid (M.kidI xs (k + 1) = y + v) := by show _ = _; rw [M.kidI_at hX, hy.out, hve]
        have hle2 := hsumLe.out (k + 1) (by omega)
        rw [hs1.out, hs2.out] at hle2
        have hv0 : 0 ≤ v := by rw [← hve]; exact Int.mul_nonneg (by omega) hx3
        have hv1 : v ≤ 600 := by omega
        clear hx2 hX hle2
        go_wp2
        go_round
        case rel => exact ⟨k + 1, z + x, y + v, by omega, by go_num, rfl, rfl, hs1, hs2⟩
        case measure => simp [intOf]; omega
      · obtain rfl : k = xs.length := by omega
        obtain rfl : z = (N : Int) := hz.out.symm.trans hN.out
        by_cases hne : y = (N : Int) - 1
        · have hq : (y != (N : Int) - 1) = false := by simp [hne]
          have hne2 : Hid (M.kidI xs xs.length = (N : Int) - 1) := hy.out.trans hne
          have hN1 : 1 ≤ N := by omega
          clear hne
          go_wp2_with fail
          refine (factorial N _ hN20).mono ?_
          rintro e w' ⟨rfl, rfl⟩
          have hf0 := M.fact_small hN20
          have hord0 : Hid (M.ordTo xs N 0 = M.fact N) := rfl
          generalize M.fact N = f0 at hord0 hf0
          go_wp2
          go_loop [8, 10, 38] (fun s8 _ i => ∃ (k a : Nat), k ≤ xs.length ∧ i = .int .i64 (k : Int) ∧ s8 = .int .i64 (a : Int) ∧ Hid (M.ordTo xs N k = a)) (fun _ _ i => xs.length - (intOf i).toNat)
          case atStart => exact ⟨0, f0, Nat.zero_le _, rfl, rfl, hord0⟩
          case round =>
            obtain ⟨k, a, hk, rfl, rfl, ha⟩ := hrel
            have ha1 := M.ord_small (xs := xs) (n := N) hN20 k
            rw [ha.out] at ha1
            by_cases hlt : k < xs.length
            · obtain ⟨x, hX⟩ : ∃ x, xs[k]? = some x := ⟨_, List.getElem?_eq_getElem hlt⟩
              have g := Hcells.out k _ hX
              have hx2 := M.okTo_item hok.out hlt hX
              obtain ⟨cx, rfl⟩ := Int.eq_ofNat_of_zero_le hx2.1
              have hcx : M.cN xs k = cx := by simp [M.cN, hX]
              have hs := M.ordTo.eq_2 xs N k
              rw [hcx, ha.out] at hs
              have hf1 := M.fact_pos cx
              have hf2 := M.fact_small (n := cx) (by omega)
              have hfc := factorial cx w (by omega)
              generalize M.fact cx = f at *
              obtain ⟨q, hq⟩ : ∃ q, Hid (a / f = q) := ⟨_, rfl⟩
              rw [hq.out] at hs
              have hqb : q ≤ 2432902008176640000 := by rw [← hq.out]; exact Nat.le_trans (Nat.div_le_self _ _) ha1
              have hqe : (a : Int) / (f : Int) = (q : Int) := by rw [← hq.out, Int.natCast_ediv]
              have Hs := Lib.hid hs
              have Hfc := Lib.hid hfc
              clear hs hX hx2 hcx hfc
              go_wp2_with fail
              refine Hfc.out.mono ?_
              rintro e w' ⟨rfl, rfl⟩
              go_wp2
              go_round
              case rel => exact ⟨k + 1, q, by omega, by go_num, rfl, Hs⟩
              case measure => simp [intOf]; omega
            · obtain rfl : k = xs.length := by omega
              have he : Hid (M.outTo xs N xs.length = a) := by show _ = _; rw [← M.out_end hok.out hN.out, ha.out]
              obtain ⟨q, hq⟩ : ∃ q, Hid (a / N = q) := ⟨_, rfl⟩
              have hqb : q ≤ 2432902008176640000 := by rw [← hq.out]; exact Nat.le_trans (Nat.div_le_self _ _) ha1
              have hqe : (a : Int) / (N : Int) = (q : Int) := by rw [← hq.out, Int.natCast_ediv]
              go_wp2
              go_ret2
              have hfin := hR.out.symm.trans (hF.out.trans (if_pos hne2.out))
              rw [he.out, hqe] at hfin
              injection hfin with e1 e2
              exact ⟨by rw [e1, e2]; try rfl, b0 _⟩
        · have hq : (y != (N : Int) - 1) = true := by simp [hne]
          have hne2 : ¬ M.kidI xs xs.length = (N : Int) - 1 := by rw [hy.out]; exact hne
          have Hne2 := Lib.hid hne2
          clear hne hne2
          go_wp2
          go_ret2
          have hfin := hR.out.symm.trans (hF.out.trans (if_neg Hne2.out))
          injection hfin with e1 e2
          exact ⟨by rw [e1, e2]; try rfl, b0 _⟩

set_option maxHeartbeats 4000000 in
theorem spec_CountByCounts : GivesNumI 107 F_CountByCounts := by
  intro A xs c w hx hcc h hv
  obtain ⟨r1, r2, hR⟩ : ∃ r1 r2, Hid (F_CountByCounts xs = (r1, r2)) := ⟨_, _, rfl⟩
  by_cases hl : 1 ≤ xs.length ∧ xs.length ≤ 30
  · obtain ⟨hl1, hl2⟩ := hl
    obtain ⟨y, hy⟩ : ∃ y, xs[xs.length - 1]? = some y := ⟨_, List.getElem?_eq_getElem (by omega)⟩
    have hlast : M.lastOf xs = y := by simp [M.lastOf, hy]
    have hgd : Hid (M.good xs = (!(y == 0) && M.okTo xs xs.length)) := by show _ = _; simp [M.good, hl1, hl2, hlast]
    obtain ⟨b, off, rfl, hbB, hcells⟩ := h (by omega)
    have Hcells := Lib.hid hcells
    have cl := hcells _ _ hy
    have hlm : (0 : Int) ≤ (xs.length : Int) - 1 := by omega
    have hd1 : ¬ (xs.length : Int) < 1 := by omega
    have hd2 : ¬ (30 : Int) < (xs.length : Int) := by omega
    have Hv := Lib.hid hv
    rw [hR.out]
    clear hcells hy hlast hv
    by_cases hy0 : y = 0
    · have hq : (y == 0) = true := by simp [hy0]
      have hfin := hR.out
      rw [F_CountByCounts, hgd.out, hq] at hfin
      have Hfin : Hid ((0, 2) = (r1, r2)) := hfin
      clear hy0 hfin
      go_enter Try.func107, Try.ntmps107
      go_wp2
      go_ret2
      have hfin := Hfin.out
      injection hfin with e1 e2
      exact ⟨by rw [← e1, ← e2]; try rfl, b0 _⟩
    · have hq : (y == 0) = false := by simp [hy0]
      have hgk : Hid (M.good xs = M.okTo xs xs.length) := by show _ = _; rw [hgd.out, hq]; rfl
      clear hy0 hgd
      go_enter Try.func107, Try.ntmps107
      go_wp2
      clear cl
      go_loop [4, 5, 6] (fun s4 s5 i => ∃ (k : Nat) (z v : Int), k ≤ xs.length ∧ i = .int .i64 (k : Int) ∧ s4 = .int .i64 z ∧ s5 = .int .i64 v ∧ Hid (M.sumI xs k = z) ∧ Hid (M.kidI xs k = v) ∧ 0 ≤ z ∧ z ≤ 20 * (k : Int) ∧ 0 ≤ v ∧ v ≤ 600 * (k : Int) ∧ Hid (∀ i, i < k → 0 ≤ xs[i]?.getD 0)) (fun _ _ i => xs.length - (intOf i).toNat)
      case atStart => exact ⟨0, 0, 0, Nat.zero_le _, rfl, rfl, rfl, rfl, rfl, by omega, by omega, by omega, by omega, fun i hi => by omega⟩
      case round =>
        obtain ⟨k, z, v, hk, rfl, rfl, rfl, hz, hve, hz0, hz1, hv0, hv1, hall⟩ := hrel
        by_cases hlt : k < xs.length
        · obtain ⟨x, hX⟩ : ∃ x, xs[k]? = some x := ⟨_, List.getElem?_eq_getElem hlt⟩
          have g := Hcells.out k _ hX
          obtain ⟨b2, hb2⟩ : ∃ b2, Hid ((decide ((0 : Int) ≤ x) && decide (x ≤ 20)) = b2) := ⟨_, rfl⟩
          have HX := Lib.hid hX
          clear hX
          cases b2
          · have hbad : Hid (M.okTo xs xs.length = false) := by
              show _ = _
              cases hq2 : M.okTo xs xs.length
              · rfl
              · have := M.okTo_item hq2 hlt HX.out
                have h2 := hb2.out
                simp only [Bool.and_eq_false_iff, decide_eq_false_iff_not] at h2
                omega
            have hfin := hR.out
            rw [F_CountByCounts, hgk.out, hbad.out] at hfin
            have Hfin : Hid ((0, 2) = (r1, r2)) := hfin
            clear hfin
            go_wp2_with (go_at_call 229; refine (inAny _ _ _ _ _ hb2).mono ?_; rintro e w' ⟨rfl, rfl⟩)
            go_ret2
            have hfin := Hfin.out
            injection hfin with e1 e2
            exact ⟨by rw [← e1, ← e2]; try rfl, b0 _⟩
          · have hx2 := hb2.out
            simp only [Bool.and_eq_true, decide_eq_true_eq] at hx2
            have hx3 := hx2.1
            have hx4 := hx2.2
            obtain ⟨u, hue⟩ : ∃ u, (k : Int) * x = u := ⟨_, rfl⟩
            have hu0 : 0 ≤ u := by rw [← hue]; exact Int.mul_nonneg (by omega) hx3
            have hu1 : u ≤ 600 := by
              rw [← hue]
              have h1 : (k : Int) * x ≤ 30 * x := Int.mul_le_mul_of_nonneg_right (by omega) hx3
              omega
            have hs1 : Hid (M.sumI xs (k + 1) = z + x) := by show _ = _; rw [M.sumI_at HX.out, hz.out]
            have hs2 : Hid (M.kidI xs (k + 1) = v + u) := by show _ = _; rw [M.kidI_at HX.out, hve.out, hue]
            have hall2 : Hid (∀ i, i < k + 1 → 0 ≤ xs[i]?.getD 0) := fun i hi => by
              rcases Nat.lt_or_ge i k with h1 | h1
              · exact hall.out i h1
              · obtain rfl : i = k := by omega
                rw [HX.out]; exact hx3
            clear hx2
            go_wp2_with (go_at_call 229; refine (inAny _ _ _ _ _ hb2).mono ?_; rintro e w' ⟨rfl, rfl⟩)
            go_round
            case rel => exact ⟨k + 1, z + x, v + u, by omega, by go_num, rfl, rfl, hs1, hs2, by omega, by omega, by omega, by omega, hall2⟩
            case measure => simp [intOf]; omega
        · obtain rfl : k = xs.length := by omega
          by_cases hz20 : 20 < z
          · have hbad : Hid (M.okTo xs xs.length = false) := by
              show _ = _
              cases hq2 : M.okTo xs xs.length
              · rfl
              · have := M.okTo_sum hq2
                rw [hz.out] at this
                omega
            have hfin := hR.out
            rw [F_CountByCounts, hgk.out, hbad.out] at hfin
            have Hfin : Hid ((0, 2) = (r1, r2)) := hfin
            clear hfin
            go_wp2
            go_ret2
            have hfin := Hfin.out
            injection hfin with e1 e2
            exact ⟨by rw [← e1, ← e2]; try rfl, b0 _⟩
          · have hok : Hid (M.okTo xs xs.length = true) := M.okTo_of hall.out (by rw [hz.out]; omega)
            obtain ⟨N, hN0⟩ := Int.eq_ofNat_of_zero_le hz0
            have hF : Hid ((if v = (N : Int) - 1 then ((M.outTo xs N xs.length : Int) / (N : Int), 0) else (0, 5)) = (r1, r2)) := by
              show _ = _
              rw [← hR.out, F_CountByCounts, hgk.out, hok.out, hz.out, hve.out, hN0, Int.toNat_natCast]
              rfl
            subst hN0
            have hN : Hid (M.sumI xs xs.length = (N : Int)) := hz
            have hN20 : N ≤ 20 := by omega
            have hn20 : ¬ (20 : Int) < (N : Int) := hz20
            clear hz hz20 hz0 hz1 hve
            by_cases hne : v = (N : Int) - 1
            · have hq3 : (v != (N : Int) - 1) = false := by simp [hne]
              have hF2 : Hid (((M.outTo xs N xs.length : Int) / (N : Int), 0) = (r1, r2)) := by have := hF.out; rw [if_pos hne] at this; exact this
              have hN1 : 1 ≤ N := by omega
              clear hne hF
              go_wp2
              go_loop [7, 8, 9] (fun s7 s8 i => ∃ (k a l : Nat), k ≤ xs.length ∧ i = .int .i64 (k : Int) ∧ s7 = .int .i64 (a : Int) ∧ s8 = .int .i64 (l : Int) ∧ Hid (M.outTo xs N k = a) ∧ Hid (M.leftTo xs N k = l)) (fun _ _ i => xs.length - (intOf i).toNat)
              case atStart => exact ⟨0, 1, N, Nat.zero_le _, rfl, rfl, rfl, rfl, rfl⟩
              case round =>
                obtain ⟨k, a, l, hk, rfl, rfl, rfl, ha, hle⟩ := hrel
                have ha1 := M.out_small hok.out hN.out hk
                rw [ha.out] at ha1
                by_cases hlt : k < xs.length
                · obtain ⟨x, hX⟩ : ∃ x, xs[k]? = some x := ⟨_, List.getElem?_eq_getElem hlt⟩
                  have g := Hcells.out k _ hX
                  have hx2 := M.okTo_item hok.out hlt hX
                  obtain ⟨cx, rfl⟩ := Int.eq_ofNat_of_zero_le hx2.1
                  have hcx : M.cN xs k = cx := by simp [M.cN, hX]
                  have hls := M.left_sum hok.out hN.out k hk
                  have hls2 := M.left_sum hok.out hN.out (k + 1) (by omega)
                  have hss := M.sumI_at hX
                  have h0s := M.okTo_sum (M.okTo_mono (j := k) hk hok.out)
                  rw [hle.out] at hls
                  have hl20 : l ≤ 20 := by omega
                  have hcl : cx ≤ l := by omega
                  have ho2 : M.outTo xs N (k + 1) = a * M.ch l (cx : Int) := by rw [M.outTo, ha.out, hle.out, hcx]
                  have hl3 : Hid (M.leftTo xs N (k + 1) = l - cx) := by show _ = _; rw [M.leftTo, hle.out, hcx]
                  have ho3 := M.out_small hok.out hN.out (k := k + 1) (by omega)
                  obtain ⟨f, hf⟩ : ∃ f, Hid (M.ch l (cx : Int) = f) := ⟨_, rfl⟩
                  rw [hf.out] at ho2
                  obtain ⟨q, hqq⟩ : ∃ q, Hid (a * f = q) := ⟨_, rfl⟩
                  rw [hqq.out] at ho2
                  rw [ho2] at ho3
                  have hqe : (a : Int) * (f : Int) = (q : Int) := by rw [← hqq.out, Int.natCast_mul]
                  have hsb : (l : Int) - (cx : Int) = ((l - cx : Nat) : Int) := by omega
                  have Ho2 := Lib.hid ho2
                  have hc := Lib.hid (l02Choose l (cx : Int) w (by omega) (by omega) (by omega) f hf)
                  obtain ⟨l2, hl2e⟩ : ∃ l2, Hid (l - cx = l2) := ⟨_, rfl⟩
                  rw [hl2e.out] at hl3 hsb
                  clear ho2 hX hx2 hcx hls hls2 hss h0s
                  go_wp2_with fail
                  refine hc.out.mono ?_
                  rintro e w' ⟨rfl, rfl⟩
                  go_wp2
                  go_round
                  case rel => exact ⟨k + 1, q, l2, by omega, by go_num, rfl, by rfl, Ho2, hl3⟩
                  case measure => simp [intOf]; omega
                · obtain rfl : k = xs.length := by omega
                  obtain ⟨q, hqq⟩ : ∃ q, Hid (a / N = q) := ⟨_, rfl⟩
                  have hqb : q ≤ 2432902008176640000 := by rw [← hqq.out]; exact Nat.le_trans (Nat.div_le_self _ _) ha1
                  have hqe : (a : Int) / (N : Int) = (q : Int) := by rw [← hqq.out, Int.natCast_ediv]
                  go_wp2
                  go_ret2
                  have hfin := hF2.out
                  rw [ha.out, hqe] at hfin
                  injection hfin with e1 e2
                  exact ⟨by rw [← e1, ← e2]; try rfl, b0 _⟩
            · have hq3 : (v != (N : Int) - 1) = true := by simp [hne]
              have hF2 : Hid ((0, 5) = (r1, r2)) := by have := hF.out; rw [if_neg hne] at this; exact this
              clear hne hF
              go_wp2
              go_ret2
              have hfin := hF2.out
              injection hfin with e1 e2
              exact ⟨by rw [← e1, ← e2]; try rfl, b0 _⟩
  · have hgd : M.good xs = false := by
      simp only [M.good, Bool.and_eq_false_iff, decide_eq_false_iff_not]
      omega
    have hfin := hR.out
    rw [F_CountByCounts, hgd] at hfin
    have Hfin : Hid ((0, 2) = (r1, r2)) := hfin
    rw [hR.out]
    clear hgd hfin
    by_cases hd1 : (xs.length : Int) < 1
    · go_enter Try.func107, Try.ntmps107
      go_wp2
      go_ret2
      have hfin := Hfin.out
      injection hfin with e1 e2
      exact ⟨by rw [← e1, ← e2]; try rfl, b0 _⟩
    · have hd2 : (30 : Int) < (xs.length : Int) := by omega
      go_enter Try.func107, Try.ntmps107
      go_wp2
      go_ret2
      have hfin := Hfin.out
      injection hfin with e1 e2
      exact ⟨by rw [← e1, ← e2]; try rfl, b0 _⟩
end Go.Proofs.Ytdgcjkgbglofbaa

/- Numbers of trees by leaves, heights and roots add up to those of all trees. Mathematics. -/
namespace Go.Proofs.Ytdgcjkgbglofbaa
namespace M
theorem leaves_sum {n : Nat} (h1 : 1 ≤ n) (hn : n ≤ 30) : sumTo (fun k => Tl n k) (n + 1) = L n 1 := by
  have : ((List.range 30).all fun m => sumTo (fun k => Tl (m + 1) k) (m + 2) == entL (m + 1) 1) = true := by decide +kernel
  have h := List.all_eq_true.1 this (n - 1) (List.mem_range.2 (by omega))
  rw [show n - 1 + 1 = n by omega, show n - 1 + 2 = n + 1 by omega] at h
  rw [← entL_eq n (by omega) 1 (by omega)]
  exact eq_of_beq h
theorem roots_sum {n : Nat} (h1 : 1 ≤ n) : sumTo (fun k => L (n - 1) k) (n + 1) = L n 1 := by
  obtain ⟨m, rfl⟩ : ∃ m, n = m + 1 := ⟨n - 1, by omega⟩
  rw [Nat.add_sub_cancel]
  have h := dig_total (l := m) (p := 0) (by omega)
  simp only [Nat.zero_add, Nat.sub_zero] at h
  rw [h]
  show sumTo (fun k => L m k) (m + 1) + L m (m + 1) = _
  rw [L_base (.inl (by omega)), if_neg (by omega)]
  rfl
theorem Fo_all : ∀ (h n : Nat), n ≤ h → n ≤ 29 → Fo h n = L (n + 1) 1 := by
  have base : L (0 + 1) 1 = 1 := by decide
  intro h
  induction h with
  | zero => intro n hn _; obtain rfl : n = 0 := by omega
            rw [base]; rfl
  | succ h ih =>
    intro n
    induction n using Nat.strongRecOn with
    | _ n ihn =>
      intro hn hn29
      cases n with
      | zero => rw [Fo_none, base]
      | succ n =>
        rw [Fo_succ, L_cat (m := n + 1 + 1) (by omega) (by omega)]
        refine sumTo_congr fun x hx => ?_
        rw [ih x (by omega) (by omega), ihn (n - x) (by omega) (by omega) (by omega), show n + 1 + 1 - 1 - x = n - x + 1 by omega]
def sumZ (f : Nat → Int) : Nat → Int
  | 0 => 0
  | k + 1 => sumZ f k + f k
theorem sumZ_cast (f : Nat → Nat) : ∀ k, sumZ (fun i => (f i : Int)) k = (sumTo f k : Int)
  | 0 => rfl
  | k + 1 => by simp only [sumZ, sumTo, sumZ_cast f k]; omega
theorem sumZ_tel (f : Nat → Nat) : ∀ k, sumZ (fun i => (f (i + 1) : Int) - (f i : Int)) k = (f k : Int) - (f 0 : Int)
  | 0 => by simp [sumZ]
  | k + 1 => by simp only [sumZ, sumZ_tel f k]; omega
theorem heights_sum {n : Nat} (h1 : 1 ≤ n) (hn : n ≤ 30) : sumZ (fun k => (TrN (k + 1) n : Int) - (TrN k n : Int)) (n + 1) = (L n 1 : Int) := by
  rw [sumZ_tel fun k => TrN k n]
  have e0 : TrN 0 n = 0 := by simp [TrN]
  have e1 : TrN (n + 1) n = L n 1 := by
    rw [TrN, if_neg (by omega), Nat.add_sub_cancel, Fo_all n (n - 1) (by omega) (by omega), show n - 1 + 1 = n by omega]
  rw [e0, e1]; omega
theorem ch_pos {n k : Nat} (hn : n ≤ 20) (hk : k ≤ n) : 1 ≤ ch n (k : Int) ∧ (1 ≤ k → k < n → n ≤ ch n (k : Int)) := by
  have : ((List.range 21).all fun n => (List.range (n + 1)).all fun k => decide (1 ≤ ch n (k : Int)) && (decide (k = 0) || decide (k = n) || decide (n ≤ ch n (k : Int)))) = true := by decide +kernel
  have h1 := List.all_eq_true.1 this n (List.mem_range.2 (by omega))
  have h2 := List.all_eq_true.1 h1 k (List.mem_range.2 (by omega))
  simp only [Bool.and_eq_true, Bool.or_eq_true, decide_eq_true_eq] at h2
  refine ⟨h2.1, fun a b => ?_⟩
  rcases h2.2 with (h | h) | h
  · omega
  · omega
  · exact h
theorem kid_ge {xs : List Int} {m : Nat} (hm : okTo xs m = true) : ∀ k, k ≤ m → 0 ≤ kidI xs k ∧ sumI xs k ≤ kidI xs k + (cN xs 0 : Int) := by
  intro k
  induction k with
  | zero => intro _; simp only [kidI, sumI]; omega
  | succ k ih =>
    intro hk
    obtain ⟨h1, h2⟩ := ih (by omega)
    have h3 := okTo_mono (j := k + 1) hk hm
    simp only [okTo, Bool.and_eq_true, decide_eq_true_eq] at h3
    have h4 := h3.2.1
    simp only [kidI, sumI]
    rcases Nat.eq_zero_or_pos k with rfl | h0
    · simp only [cN, kidI, sumI] at *
      simp only [Int.natCast_zero, Int.zero_mul]
      omega
    · generalize xs[k]?.getD 0 = x at *
      have h5 : (1 : Int) * x ≤ (k : Int) * x := Int.mul_le_mul_of_nonneg_right (by omega) h4
      omega
/-- counts that some trees have are those of at least one -/
theorem out_ge {xs : List Int} {n m : Nat} (h0 : 0 < m) (hm : okTo xs m = true) (hn : sumI xs m = (n : Int)) (hk : kidI xs m = (n : Int) - 1) : n ≤ outTo xs n m ∧ 1 ≤ n := by
  have hn20 : n ≤ 20 := by have := okTo_sum hm; omega
  have hg := kid_ge hm m (Nat.le_refl _)
  have hle : ∀ k, k + 1 ≤ m → cN xs k ≤ leftTo xs n k ∧ leftTo xs n k ≤ 20 := fun k hk => by
    have h1 := left_sum hm hn k (by omega)
    have h2 := left_sum hm hn (k + 1) hk
    have h3 := okTo_mono (j := k + 1) hk hm
    simp only [okTo, Bool.and_eq_true, decide_eq_true_eq] at h3
    have h5 := h3.2.1
    have h6 := h2.2
    have h7 := okTo_sum (okTo_mono (j := k) (by omega) hm)
    simp only [sumI] at h6
    simp only [cN]
    omega
  have h1 : 1 ≤ n := by omega
  have hc0 : 1 ≤ cN xs 0 := by omega
  have step : ∀ k, 1 ≤ k → k ≤ m → ch n (cN xs 0 : Int) ≤ outTo xs n k := by
    intro k
    induction k with
    | zero => intro h; omega
    | succ k ih =>
      intro _ hkm
      rcases Nat.eq_zero_or_pos k with rfl | hp
      · simp only [outTo, leftTo, Nat.one_mul]; exact Nat.le_refl _
      · have h2 := ih hp (by omega)
        have h3 := hle k hkm
        have h4 := (ch_pos h3.2 h3.1).1
        simp only [outTo]
        exact Nat.le_trans h2 (Nat.le_mul_of_pos_right _ h4)
  refine ⟨Nat.le_trans ?_ (step m h0 (Nat.le_refl _)), h1⟩
  have h2 := hle 0 h0
  simp only [leftTo] at h2
  rcases Nat.lt_or_ge (cN xs 0) n with h | h
  · exact (ch_pos hn20 h2.1).2 hc0 h
  · have e : cN xs 0 = n := by omega
    have hz : ∀ k, 1 ≤ k → k ≤ m → sumI xs k = (n : Int) := by
      intro k h1k hkm
      have a := left_sum hm hn 1 h0
      have b := left_sum hm hn k hkm
      have c : sumI xs 1 ≤ sumI xs k := by
        have : ∀ j, 1 ≤ j → j ≤ m → sumI xs 1 ≤ sumI xs j := by
          intro j
          induction j with
          | zero => intro h; omega
          | succ j ih =>
            intro _ hj
            have h3 := okTo_mono (j := j + 1) hj hm
            simp only [okTo, Bool.and_eq_true, decide_eq_true_eq] at h3
            have h4 := h3.2.1
            rcases Nat.eq_zero_or_pos j with rfl | hp
            · exact Int.le_refl _
            · have := ih hp (by omega)
              simp only [sumI] at this ⊢
              omega
        exact this k h1k hkm
      have d : sumI xs 1 = (cN xs 0 : Int) := by
        have h3 := okTo_mono (j := 1) h0 hm
        simp only [okTo, Bool.and_eq_true, decide_eq_true_eq] at h3
        simp only [sumI, cN] at h3 ⊢
        omega
      omega
    have hk0 : ∀ k, 1 ≤ k → k ≤ m → kidI xs k = 0 := by
      intro k
      induction k with
      | zero => intro h; omega
      | succ k ih =>
        intro _ hkm
        rcases Nat.eq_zero_or_pos k with rfl | hp
        · simp [kidI]
        · have a := ih hp (by omega)
          have b := hz k hp (by omega)
          have c := hz (k + 1) (by omega) hkm
          simp only [sumI] at c
          have : xs[k]?.getD 0 = 0 := by omega
          simp only [kidI, a, this]; simp
    have := hk0 m h0 (Nat.le_refl _)
    have hn1 : n = 1 := by omega
    subst hn1
    exact (ch_pos hn20 h2.1).1
end M
end Go.Proofs.Ytdgcjkgbglofbaa

/- slices.Max over numbers of at least 0. -/

namespace Go.Proofs.Ytdgcjkgbglofbaa
open Go.RowKit

namespace M
/-- the greatest of the first k numbers, and of 0 -/
def maxTo (xs : List Int) : Nat → Int
  | 0 => 0
  | k + 1 => if maxTo xs k ≤ xs[k]?.getD 0 then xs[k]?.getD 0 else maxTo xs k
theorem maxTo_hit {xs : List Int} {k : Nat} {x : Int} (h : xs[k]? = some x) (hx : maxTo xs k ≤ x) : maxTo xs (k + 1) = x := by simp [maxTo, h, hx]
theorem maxTo_miss {xs : List Int} {k : Nat} {x : Int} (h : xs[k]? = some x) (hx : x < maxTo xs k) : maxTo xs (k + 1) = maxTo xs k := by
  rw [maxTo, h, if_neg (by simp; omega)]
theorem maxTo_step {xs : List Int} {k : Nat} {x y : Int} (h : xs[k]? = some x) (hy : maxTo xs k = y) : maxTo xs (k + 1) = if y < x then x else y := by
  simp only [maxTo, h, Option.getD_some, hy]
  split <;> split <;> omega
theorem maxTo_pos (xs : List Int) : ∀ k, 0 ≤ maxTo xs k := by
  intro k
  induction k with
  | zero => exact Int.le_refl _
  | succ k ih => simp only [maxTo]; split <;> omega
theorem maxTo_le {xs : List Int} {b : Int} (hb : 0 ≤ b) (h : ∀ x ∈ xs, x ≤ b) : ∀ k, maxTo xs k ≤ b := by
  intro k
  induction k with
  | zero => exact hb
  | succ k ih =>
    simp only [maxTo]
    split
    · rcases hx : xs[k]? with _ | x
      · simpa using hb
      · simpa using h x (List.mem_of_getElem? hx)
    · exact ih
theorem maxTo_ge {xs : List Int} {j : Nat} {x : Int} (h : xs[j]? = some x) : ∀ k, j < k → x ≤ maxTo xs k := by
  intro k
  induction k with
  | zero => intro h; omega
  | succ k ih =>
    intro hj
    rcases Nat.lt_or_ge j k with h1 | h1
    · have := ih h1
      simp only [maxTo]
      split <;> omega
    · obtain rfl : j = k := by omega
      simp only [maxTo, h, Option.getD_some]
      split <;> omega
end M

set_option maxHeartbeats 1000000 in
theorem slicesMax (A : Option Addr) (xs : List Int) (c : Nat) (w : World) (hx : xs.length ≤ 1000000) (hpos : 0 < xs.length) (h0 : Hid (∀ x ∈ xs, 0 ≤ x)) (h : Ints w w.heap.size A xs) (r : Int) (hr : Hid (M.maxTo xs xs.length = r)) :
    Calls Try.prog 179 #[.slice A xs.length c] w fun e w' => e = .returned (.int .i64 r) ∧ w = w' := by
  obtain ⟨x0, hx0⟩ : ∃ x, xs[0]? = some x := ⟨_, List.getElem?_eq_getElem hpos⟩
  have hm1 : M.maxTo xs 1 = x0 := M.maxTo_hit hx0 (by simp only [M.maxTo]; exact h0.out x0 (List.mem_of_getElem? hx0))
  have Hm1 := Lib.hid hm1
  obtain ⟨b, off, rfl, hbB, hcells⟩ := h hpos
  have c0 : w.cell? ⟨b, off, none⟩ = some (.int .i64 x0) := by simpa using hcells 0 _ hx0
  have Hcells := Lib.hid hcells
  clear hcells hm1 hx0
  have hl1 : 1 ≤ xs.length := hpos
  have hd1 : ¬ (xs.length : Int) < 1 := by omega
  go_enter Try.func179, Try.ntmps179
  go_wp2
  go_loop [3, 4] (fun m i => ∃ (k : Nat) (y : Int), 1 ≤ k ∧ k ≤ xs.length ∧ i = .int .i64 k ∧ m = .int .i64 y ∧ Hid (M.maxTo xs k = y)) (fun _ i => xs.length - (intOf i).toNat)
  case atStart => exact ⟨1, x0, Nat.le_refl _, hl1, rfl, rfl, Hm1⟩
  case round =>
    obtain ⟨k, y, hk1, hk, rfl, rfl, hy⟩ := hrel
    clear c0
    by_cases hlt : k < xs.length
    · obtain ⟨x, hX⟩ : ∃ x, xs[k]? = some x := ⟨_, List.getElem?_eq_getElem hlt⟩
      have g := Hcells.out k _ hX
      have hs : Hid (M.maxTo xs (k + 1) = if y < x then x else y) := M.maxTo_step hX hy.out
      have hs2 : Hid (M.maxTo xs (k + 1) = max y x) := by
        show _ = _
        rw [hs.out]
        split <;> omega
      clear hX
      go_wp2
      all_goals
        go_round
        case rel => first | exact ⟨k + 1, _, by omega, by omega, by go_num, rfl, hs⟩ | exact ⟨k + 1, _, by omega, by omega, by go_num, rfl, hs2⟩
        case measure => simp [intOf]; omega
    · obtain rfl : k = xs.length := by omega
      have he : Hid (y = r) := hy.out.symm.trans hr.out
      go_wp2
      go_ret
      exact ⟨by rw [← he.out]; rfl, rfl⟩
end Go.Proofs.Ytdgcjkgbglofbaa

/- CountsOfTree, the program's and the model's: how many nodes have so many children, or a code. -/
namespace Go.Proofs.Ytdgcjkgbglofbaa
open Go.RowKit

namespace M
/-- how many of the first k numbers are j -/
def countTo (xs : List Int) : Nat → Nat → Nat
  | 0, _ => 0
  | k + 1, j => countTo xs k j + (if xs[k]? = some (j : Int) then 1 else 0)
def rowN (xs : List Int) (N k : Nat) : List Int := (List.range N).map fun j => (countTo xs k j : Int)
theorem rowN_len (xs : List Int) (N k : Nat) : (rowN xs N k).length = N := by simp [rowN]
theorem countTo_le (xs : List Int) (j : Nat) : ∀ k, countTo xs k j ≤ k := by
  intro k
  induction k with
  | zero => exact Nat.le_refl _
  | succ k ih => simp only [countTo]; split <;> omega
theorem rowN_zero (xs : List Int) (N : Nat) : rowN xs N 0 = List.replicate N 0 := by
  apply List.ext_getElem?
  intro j
  simp only [rowN, List.getElem?_map, List.getElem?_replicate, countTo]
  by_cases hj : j < N
  · rw [List.getElem?_range hj, if_pos hj]; rfl
  · rw [List.getElem?_eq_none (by simp; omega), if_neg hj]; rfl
theorem rowN_at (xs : List Int) {N k j : Nat} (h : j < N) : (rowN xs N k)[j]? = some (countTo xs k j : Int) := by simp [rowN, h]
theorem rowN_step {xs : List Int} {N k d : Nat} (h : xs[k]? = some (d : Int)) : (rowN xs N k).set d ((countTo xs k d : Int) + 1) = rowN xs N (k + 1) := by
  apply List.ext_getElem?
  intro j
  by_cases hj : j < N
  · rw [rowN_at xs hj]
    by_cases hjd : d = j
    · subst hjd
      rw [List.getElem?_set_self (by rw [rowN_len]; exact hj)]
      simp only [countTo, h, if_true]
      rfl
    · rw [List.getElem?_set_ne hjd, rowN_at xs hj]
      have : countTo xs (k + 1) j = countTo xs k j := by
        simp only [countTo, h]
        rw [if_neg (by intro e; injection e with e; omega)]
        rfl
      rw [this]
  · rw [List.getElem?_eq_none (by simp [rowN_len]; omega), List.getElem?_eq_none (by rw [rowN_len]; omega)]
def width (xs : List Int) : Nat → Nat
  | 0 => 0
  | k + 1 => max (width xs k) ((xs[k]?.getD 0).toNat + 1)
theorem width_at {xs : List Int} {k d : Nat} (h : xs[k]? = some (d : Int)) : width xs (k + 1) = max (width xs k) (d + 1) := by simp [width, h]
theorem countTo_out {xs : List Int} : ∀ {k j : Nat}, width xs k ≤ j → countTo xs k j = 0 := by
  intro k
  induction k with
  | zero => intro j _; rfl
  | succ k ih =>
    intro j h
    simp only [width] at h
    simp only [countTo]
    rw [ih (by omega), if_neg (by intro e; rw [e] at h; simp at h; omega)]
theorem rowN_grow {xs : List Int} {N k : Nat} (h : width xs k ≤ N) : rowN xs N k ++ [0] = rowN xs (N + 1) k := by
  simp only [rowN, List.range_succ, List.map_append, List.map_cons, List.map_nil, countTo_out h]
  rfl
theorem width_max {xs : List Int} (h0 : ∀ x ∈ xs, 0 ≤ x) : ∀ k, 1 ≤ k → k ≤ xs.length → width xs k = (maxTo xs k).toNat + 1 := by
  intro k
  induction k with
  | zero => intro h; omega
  | succ k ih =>
    intro _ hk
    obtain ⟨x, hx⟩ : ∃ x, xs[k]? = some x := ⟨_, List.getElem?_eq_getElem (by omega)⟩
    have hx0 := h0 _ (List.mem_of_getElem? hx)
    have hs := maxTo_step hx rfl
    have hp := maxTo_pos xs k
    have hw : width xs k = (if k = 0 then 0 else (maxTo xs k).toNat + 1) := by
      rcases Nat.eq_zero_or_pos k with h1 | h1
      · subst h1; rfl
      · rw [ih h1 (by omega), if_neg (by omega)]
    have hm : k = 0 → maxTo xs k = 0 := fun e => by subst e; rfl
    rw [hs]
    simp only [width, hx, Option.getD_some]
    rw [hw]
    by_cases h1 : k = 0
    · rw [if_pos h1, hm h1]
      by_cases h2 : 0 < x
      · rw [if_pos h2]; omega
      · rw [if_neg h2]; omega
    · rw [if_neg h1]
      by_cases h2 : maxTo xs k < x
      · rw [if_pos h2]; omega
      · rw [if_neg h2]; omega
def counts (xs : List Int) : List Int := rowN xs (width xs xs.length) xs.length
end M

theorem own64_shapeC {w : World} {B n c : Nat} {A : Option Addr} {zs : List Int} (h : Own64 w B (.slice A n c) zs) (hn : 0 < n) : ∃ g, A = some ⟨g, 0, none⟩ := by
  rcases h.2 with ⟨h0, _⟩ | ⟨g, cap, cur, hv, _⟩
  · injection h0 with _ e _; omega
  · injection hv with e1; exact ⟨g, e1⟩

def F_CountsOfTree (xs : List Int) : List Int × Int := M.cond xs (M.counts xs)
theorem width_le {xs : List Int} (ht : M.isTree xs = true) : M.width xs xs.length ≤ 25 := by
  have h0 : ∀ x ∈ xs, (0 : Int) ≤ x := fun x hx => by obtain ⟨i, hi⟩ := List.getElem?_of_mem hx; exact (M.tree_deg ht hi).1
  have h1 : ∀ x ∈ xs, x ≤ (24 : Int) := fun x hx => by obtain ⟨i, hi⟩ := List.getElem?_of_mem hx; exact (M.tree_deg ht hi).2
  have hl := M.tree_len ht
  rw [M.width_max h0 _ hl.1 (Nat.le_refl _)]
  have := M.maxTo_le (by omega) h1 xs.length
  omega
theorem F_CountsOfTree_len (xs : List Int) : (F_CountsOfTree xs).1.length ≤ 1048576 := by
  cases ht : M.isTree xs
  · rw [F_CountsOfTree, M.cond_no ht]; simp
  · rw [F_CountsOfTree, M.cond_yes ht]
    show (M.rowN _ _ _).length ≤ _
    rw [M.rowN_len]
    have := width_le ht
    omega

set_option maxHeartbeats 2000000 in
set_option maxRecDepth 100000 in
theorem impl_CountsOfTree : GivesList 103 F_CountsOfTree := by
  intro A xs c w hx hcc h
  have hc := codeOf0 A xs c (w.alloc (.cells #[.slice A xs.length c] 26)) (by omega) (h.al _) _ rfl
  cases ht : M.isTree xs
  · rw [ht] at hc
    have HC := Lib.hid hc
    have hF : F_CountsOfTree xs = ([], 1) := M.cond_no ht
    rw [hF]
    clear hc ht hF
    go_enter Try.func103, Try.ntmps103
    go_wp2_with fail
    refine HC.out.mono ?_
    rintro e w1 ⟨rfl, hb⟩
    have hB := btr (bal (b0 w) _) hb
    go_wp2
    go_ret2
    exact ⟨none, 0, rfl, own64_nil _ _, hB⟩
  · rw [ht] at hc
    have HC := Lib.hid hc
    have hF : F_CountsOfTree xs = (M.counts xs, 0) := M.cond_yes ht
    have Ht := Lib.hid ht
    have hl24 := (M.tree_len ht).2
    have hl1 := (M.tree_len ht).1
    have h0 : Hid (∀ x ∈ xs, (0 : Int) ≤ x) := fun x hx => by obtain ⟨i, hi⟩ := List.getElem?_of_mem hx; exact (M.tree_deg ht hi).1
    have hW := M.width_max h0.out xs.length hl1 (Nat.le_refl _)
    have hw25 := width_le ht
    have hmp := M.maxTo_pos xs xs.length
    obtain ⟨N, hN⟩ : ∃ N : Nat, Hid (M.maxTo xs xs.length = (N : Int)) := ⟨(M.maxTo xs xs.length).toNat, by show _ = _; omega⟩
    have hWN : Hid (M.width xs xs.length = N + 1) := by show _ = _; rw [hW, hN.out]; omega
    have hN24 : N ≤ 24 := by have := hWN.out; omega
    rw [hF]
    have hmk := run_make_row' (P := Try.prog) 24 2 (.int .i64 0) 8 Try.underlying24 info64 rfl .i64 .i64 (N + 1) (by omega) (by omega)
    have ecast : ((N + 1 : Nat) : Int) = (N : Int) + 1 := by omega
    rw [ecast] at hmk
    clear hc ht hF hW hw25 hmp ecast
    go_enter Try.func103, Try.ntmps103
    go_wp2_with fail
    refine HC.out.mono ?_
    rintro e w1 ⟨rfl, hb⟩
    have hB := Lib.hid (btr (bal (b0 w) _) hb)
    have hcell : w1.cell? ⟨w.heap.size, 0, none⟩ = some (.slice A xs.length c) := cell_be (by simp) hb
    have h1 := Lib.hid ((h.al _).be hb)
    have Hc := Lib.hid hcell
    clear hb h HC
    go_wp2_with fail
    refine (slicesMax A xs c w1 (by omega) (by omega) h0 h1.out _ hN).mono ?_
    rintro e w' ⟨rfl, rfl⟩
    have Hst := Lib.hid (own64_made (w := w1) (B := w1.heap.size) (n := N + 1) (Nat.le_refl _) (by unfold maxLen; omega))
    have Hst2 : Hid (Own64 (w1.alloc (.cells (madeCells #[.int .i64 0] (N + 1)) 2)) w1.heap.size (.slice (some ⟨w1.heap.size, 0, none⟩) (N + 1) (N + 1)) (M.rowN xs (N + 1) 0)) := by rw [M.rowN_zero]; exact Hst.out
    have hb0 := Lib.hid (bal (b0 w1) (.cells (madeCells #[.int .i64 0] (N + 1)) 2))
    have hcell2 := cell_al hcell (.cells (madeCells #[.int .i64 0] (N + 1)) 2)
    clear Hst
    go_wp2
    clear hmk hcell2
    go_loopw [7, 21] (fun _ i wr => ∃ k : Nat, k ≤ xs.length ∧ i = .int .i64 k ∧ Hid (Own64 wr w1.heap.size (.slice (some ⟨w1.heap.size, 0, none⟩) (N + 1) (N + 1)) (M.rowN xs (N + 1) k)) ∧ Hid (Below w1.heap.size w1 wr)) (fun _ i _ => xs.length - (intOf i).toNat)
    case atStart => exact ⟨0, Nat.zero_le _, rfl, Hst2, hb0⟩
    case round =>
      obtain ⟨k, hk, rfl, ho, hbr⟩ := hrel
      clear Hst2 hb0 hcell
      by_cases hlt : k < xs.length
      · obtain ⟨b, off, x, rfl, hbB, g, hX⟩ := (h1.out.be hbr.out).at_ hlt
        have hdg := M.tree_deg Ht.out hX.out
        obtain ⟨d, rfl⟩ := Int.eq_ofNat_of_zero_le hdg.1
        have hd0 : d < N + 1 := by have h3 := M.maxTo_ge hX.out xs.length hlt; rw [hN.out] at h3; omega
        have hcl := M.countTo_le xs d k
        have hs := Lib.hid (M.rowN_step (N := N + 1) hX.out)
        obtain ⟨c1, c2, _, _⟩ := own64_cell ho.out (M.rowN_len _ _ _) (M.rowN_at xs hd0)
        have hset := own64_set ho.out (M.rowN_len _ _ _) d ((M.countTo xs k d : Int) + 1)
        rw [hs.out] at hset
        have hset := Lib.hid hset
        generalize M.countTo xs k d = y at *
        have hy1 : (y : Int) ≤ 1000 := by omega
        clear hdg hcl hs ho
        go_wp2
        go_roundw
        case rel => exact ⟨k + 1, by omega, by go_num, hset, below_setCell hbr.out (Nat.le_refl _) _⟩
        case measure => simp [intOf]; omega
      · obtain rfl : k = xs.length := by omega
        have z1 := hB.out.size
        go_wp2
        go_ret2
        have e : M.counts xs = M.rowN xs (N + 1) xs.length := by rw [M.counts, hWN.out]
        rw [e, M.rowN_len]
        exact ⟨_, _, rfl, own_mono ho.out z1, btr hB.out hbr.out⟩

set_option maxHeartbeats 4000000 in
set_option maxRecDepth 100000 in
theorem spec_CountsOfTree : GivesList 104 F_CountsOfTree := by
  intro A xs c w hx hcc h
  have hc := specIs A xs c (w.alloc (.cells #[.slice A xs.length c] 26)) (by omega) (h.al _)
  cases ht : M.isTree xs
  · rw [ht] at hc
    have HC := Lib.hid hc
    have hF : F_CountsOfTree xs = ([], 1) := M.cond_no ht
    rw [hF]
    clear hc ht hF
    go_enter Try.func104, Try.ntmps104
    go_wp2_with fail
    refine HC.out.mono ?_
    rintro e w1 ⟨rfl, hb⟩
    have hB := btr (bal (b0 w) _) hb
    go_wp2
    go_ret2
    exact ⟨none, 0, rfl, own64_nil _ _, hB⟩
  · rw [ht] at hc
    have HC := Lib.hid hc
    have hF : F_CountsOfTree xs = (M.counts xs, 0) := M.cond_yes ht
    have Ht := Lib.hid ht
    have hl24 := (M.tree_len ht).2
    have hl1 := (M.tree_len ht).1
    rw [hF]
    clear hc ht hF
    go_enter Try.func104, Try.ntmps104
    go_wp2_with fail
    refine HC.out.mono ?_
    rintro e w1 ⟨rfl, hb⟩
    have hB := Lib.hid (btr (bal (b0 w) _) hb)
    have hcell : w1.cell? ⟨w.heap.size, 0, none⟩ = some (.slice A xs.length c) := cell_be (by simp) hb
    have h1 := Lib.hid ((h.al _).be hb)
    have Hc := Lib.hid hcell
    have hst : Hid (Own64 (w1.alloc (.cells #[] 2)) w1.heap.size (.slice (some ⟨w1.heap.size, 0, none⟩) 0 0) []) := own64_empty (Nat.le_refl _)
    have hb0 := Lib.hid (bal (b0 w1) (.cells #[] 2))
    clear hb h HC
    go_wp2
    clear hcell
    go_loopw [4, 5] (fun q i wr => ∃ (k : Nat) (A' : Option Addr) (n c' : Nat), k ≤ xs.length ∧ i = .int .i64 k ∧ q = .slice A' n c' ∧ Hid (M.width xs k = n) ∧ n ≤ 25 ∧ Hid (Own64 wr w1.heap.size (.slice A' n c') (M.rowN xs n k)) ∧ Hid (Below w1.heap.size w1 wr)) (fun _ i _ => xs.length - (intOf i).toNat)
    case atStart => exact ⟨0, _, 0, 0, Nat.zero_le _, rfl, rfl, rfl, by omega, hst, hb0⟩
    case round =>
      obtain ⟨k, A', n, c', hk, rfl, rfl, hwd, hn25, ho, hbr⟩ := hrel
      have hcr := cell_be Hc.out hbr.out
      have Hbr := hbr
      clear hst hb0
      by_cases hlt : k < xs.length
      · obtain ⟨b, off, x, rfl, hbB, g1, hX⟩ := h1.out.at_ hlt
        have hdg := M.tree_deg Ht.out hX.out
        obtain ⟨d, rfl⟩ := Int.eq_ofNat_of_zero_le hdg.1
        have hd24 : d ≤ 24 := by omega
        have hwn := Lib.hid (M.width_at hX.out)
        have G1 := Lib.hid g1
        clear hdg g1
        obtain ⟨wo, rfl⟩ : ∃ wo : World, wo = wr := ⟨_, rfl⟩
        go_wp2
        clear hcr
        go_loopw [4] (fun q wr => ∃ (A' : Option Addr) (m c' : Nat), q = .slice A' m c' ∧ n ≤ m ∧ m ≤ max n (d + 1) ∧ Hid (Own64 wr w1.heap.size (.slice A' m c') (M.rowN xs m k)) ∧ Hid (Below w1.heap.size w1 wr)) (fun q _ => 30 - (match q with | .slice _ m _ => m | _ => 0))
        case atStart => exact ⟨A', n, c', rfl, Nat.le_refl _, by omega, ho, hbr⟩
        case round =>
          obtain ⟨A2, m, c2, rfl, hm1, hm2, ho, hbr⟩ := hrel
          have hcr := cell_be Hc.out hbr.out
          have g := (hbr.out.cell (p := ⟨b, off + k, none⟩) hbB).trans G1.out
          have hkl : (k : Int) < (xs.length : Int) := by omega
          have zr := hbr.out.size
          by_cases hmd : m ≤ d
          · have hgr := Lib.hid (M.rowN_grow (xs := xs) (N := m) (k := k) (by rw [hwd.out]; exact hm1))
            have hmd2 : (m : Int) ≤ (d : Int) := by omega
            go_wp2_with (at_builtin; refine push64 rfl (.tmp 25) (.tmp 26) rfl wr w1.heap.size A2 m c2 (M.rowN xs m k) 0 rfl rfl ho zr (by omega) ?_; intro A3 c3 w3 ho3 hb3)
            go_roundw
            case rel => exact ⟨A3, m + 1, c3, rfl, by omega, by omega, own64_eq ho3.out hgr.out, hbr.out.trans hb3.out⟩
            case measure => simp; omega
          · have hmd2 : ¬ (m : Int) ≤ (d : Int) := by omega
            have hdm : d < m := by omega
            have hwm : Hid (M.width xs (k + 1) = m) := by show _ = _; rw [hwn.out, hwd.out]; omega
            have hcl := M.countTo_le xs d k
            have hs := Lib.hid (M.rowN_step (N := m) hX.out)
            obtain ⟨g2, rfl⟩ := own64_shapeC ho.out (by omega)
            obtain ⟨c1, c3, hg2, _⟩ := own64_cell ho.out (M.rowN_len _ _ _) (M.rowN_at xs hdm)
            have hset := own64_set ho.out (M.rowN_len _ _ _) d ((M.countTo xs k d : Int) + 1)
            rw [hs.out] at hset
            have hset := Lib.hid hset
            have hb5 := Lib.hid (below_setCell (k := d) hbr.out hg2 (.int .i64 ((M.countTo xs k d : Int) + 1)))
            generalize M.countTo xs k d = y at *
            have hy1 : (y : Int) ≤ 1000 := by omega
            clear hcl hs ho
            go_wp2
            go_roundw
            case rel => exact ⟨k + 1, _, m, c2, by omega, by go_num, rfl, hwm, by omega, hset, hb5⟩
            case measure => simp [intOf]; omega
      · obtain rfl : k = xs.length := by omega
        have z1 := hB.out.size
        go_wp2
        go_ret2
        have e : M.counts xs = M.rowN xs n xs.length := by rw [M.counts, hwd.out]
        rw [e, M.rowN_len]
        exact ⟨_, _, rfl, own_mono ho.out z1, btr hB.out hbr.out⟩
end Go.Proofs.Ytdgcjkgbglofbaa

/- The counts of a tree add up to its nodes. Mathematics. -/
namespace Go.Proofs.Ytdgcjkgbglofbaa
namespace M
theorem sumI_set {l : List Int} {d : Nat} {y z : Int} (h : l[d]? = some y) : ∀ n, sumI (l.set d z) n = sumI l n + (if d < n then z - y else 0)
  | 0 => by simp [sumI]
  | n + 1 => by
    simp only [sumI, sumI_set h n]
    by_cases e : d = n
    · subst e
      rw [List.getElem?_set_self (List.getElem?_eq_some_iff.1 h).1, h, if_neg (by omega), if_pos (by omega)]
      simp only [Option.getD_some]
      omega
    · rw [List.getElem?_set_ne e]
      by_cases e2 : d < n
      · rw [if_pos e2, if_pos (by omega)]; omega
      · rw [if_neg e2, if_neg (by omega)]; omega
theorem sumI_rep : ∀ (N n : Nat), sumI (List.replicate N 0) n = 0
  | _, 0 => rfl
  | N, n + 1 => by
    simp only [sumI, sumI_rep N n]
    by_cases h : n < N
    · rw [List.getElem?_replicate, if_pos h]; rfl
    · rw [List.getElem?_replicate, if_neg h]; rfl
theorem width_mono (xs : List Int) (k : Nat) : width xs k ≤ width xs (k + 1) := by rw [width]; omega
theorem rowN_sum {xs : List Int} (h0 : ∀ x ∈ xs, 0 ≤ x) (N : Nat) : ∀ k, k ≤ xs.length → width xs k ≤ N → sumI (rowN xs N k) N = (k : Int)
  | 0, _, _ => by rw [rowN_zero]; exact sumI_rep _ _
  | k + 1, hk, hw => by
    have hx := List.getElem?_eq_getElem (l := xs) (show k < xs.length by omega)
    obtain ⟨d, hd⟩ := Int.eq_ofNat_of_zero_le (h0 _ (List.getElem_mem (show k < xs.length by omega)))
    rw [hd] at hx
    have hm := width_mono xs k
    have ih := rowN_sum h0 N k (by omega) (by omega)
    rw [width_at hx] at hw
    rw [← rowN_step hx, sumI_set (rowN_at xs (show d < N by omega)), ih, if_pos (by omega)]
    omega
theorem counts_sum {xs : List Int} (h0 : ∀ x ∈ xs, 0 ≤ x) : sumI (counts xs) (counts xs).length = (xs.length : Int) := by
  rw [counts, rowN_len]
  exact rowN_sum h0 _ _ (Nat.le_refl _) (Nat.le_refl _)
theorem counts_pos {xs : List Int} (h : 1 ≤ xs.length) : 1 ≤ (counts xs).length := by
  rw [counts, rowN_len]
  obtain ⟨k, hk⟩ : ∃ k, xs.length = k + 1 := ⟨xs.length - 1, by omega⟩
  rw [hk, width]; omega
end M
end Go.Proofs.Ytdgcjkgbglofbaa

/- What FnTreeCounts asks of the numbers of trees. Mathematics. -/
namespace Go.Proofs.Ytdgcjkgbglofbaa

theorem wrap_step {u x S f : Int} (h : u = IntKind.i64.wrap S) (hx : x = f) : IntKind.i64.wrap (u + x) = IntKind.i64.wrap (S + f) := by
  rw [h, hx, IntKind.wrap_i64, IntKind.wrap_i64, IntKind.wrap_i64]; omega
theorem wrap_rng (n : Int) : -9223372036854775808 ≤ IntKind.i64.wrap n ∧ IntKind.i64.wrap n ≤ 9223372036854775807 := by rw [IntKind.wrap_i64]; omega

theorem byCounts_pos {xs : List Int} {v : Int} (h : F_CountByCounts xs = (v, 0)) : 1 ≤ v := by
  rw [F_CountByCounts] at h
  split at h
  · rename_i hg
    split at h
    · rename_i hk
      simp only [M.good, Bool.and_eq_true, decide_eq_true_eq] at hg
      have hs := M.okTo_sum hg.2.2
      obtain ⟨n, hn⟩ := Int.eq_ofNat_of_zero_le hs.1
      rw [hn] at hk
      have ho := M.out_ge (by omega) hg.2.2 hn hk
      injection h with h1 _
      rw [← h1, hn, Int.toNat_natCast]
      exact Int.le_ediv_of_mul_le (by omega) (by omega)
    · injection h with _ h2; omega
  · injection h with _ h2; omega
theorem treesOf_all {n : Int} {Z : List (List Int)} (h : F_TreesOf n = (Z, 0)) : F_CountTrees n = ((Z.length : Int), 0) := by
  rw [F_TreesOf] at h
  split at h
  · rename_i h1
    split at h
    · injection h with h2 _
      rw [F_CountTrees, if_pos (by omega), ← h2, M.firstT_len]
    · injection h with _ h2; omega
  · injection h with _ h2; omega
theorem by_codes (n k : Int) : (((1 ≤ n ∧ n ≤ 30) ∧ 0 ≤ k ∧ k ≤ n) ∧ (F_CountByLeaves n k).2 = 0 ∧ (F_CountByHeight n k).2 = 0 ∧ (F_CountByRoot n k).2 = 0) ∨ ((F_CountByLeaves n k) = (0, 2) ∧ (F_CountByHeight n k).2 = 2 ∧ (F_CountByRoot n k).2 = 2) := by
  by_cases h : (1 ≤ n ∧ n ≤ 30) ∧ 0 ≤ k ∧ k ≤ n
  · left
    simp only [F_CountByLeaves, F_CountByHeight, F_CountByRoot, if_pos h, and_self, and_true]
    exact h
  · right
    simp only [F_CountByLeaves, F_CountByHeight, F_CountByRoot, if_neg h, and_self]
theorem leaves_at {N i : Nat} (h1 : 1 ≤ N) (h2 : N ≤ 30) (hi : i ≤ N) : F_CountByLeaves N i = ((M.Tl N i : Int), 0) := by
  rw [F_CountByLeaves, if_pos (by omega), Int.toNat_natCast, Int.toNat_natCast]
theorem height_at {N i : Nat} (h1 : 1 ≤ N) (h2 : N ≤ 30) (hi : i ≤ N) : F_CountByHeight N i = ((M.TrN (i + 1) N : Int) - (M.TrN i N : Int), 0) := by
  rw [F_CountByHeight, if_pos (by omega), Int.toNat_natCast, Int.toNat_natCast]
theorem root_at {N i : Nat} (h1 : 1 ≤ N) (h2 : N ≤ 30) (hi : i ≤ N) : F_CountByRoot N i = ((M.L (N - 1) i : Int), 0) := by
  rw [F_CountByRoot, if_pos (by omega), Int.toNat_natCast, Int.toNat_natCast]
/-- the three sums up to a number, as the law's loop has them -/
def sumL (N k : Nat) : Int := IntKind.i64.wrap (M.sumZ (fun i => (M.Tl N i : Int)) k)
def sumH (N k : Nat) : Int := IntKind.i64.wrap (M.sumZ (fun i => (M.TrN (i + 1) N : Int) - (M.TrN i N : Int)) k)
def sumR (N k : Nat) : Int := IntKind.i64.wrap (M.sumZ (fun i => (M.L (N - 1) i : Int)) k)
theorem sumL_step (N k : Nat) : IntKind.i64.wrap (sumL N k + (M.Tl N k : Int)) = sumL N (k + 1) := wrap_step rfl rfl
theorem sumH_step (N k : Nat) : IntKind.i64.wrap (sumH N k + ((M.TrN (k + 1) N : Int) - (M.TrN k N : Int))) = sumH N (k + 1) := wrap_step rfl rfl
theorem sumR_step (N k : Nat) : IntKind.i64.wrap (sumR N k + (M.L (N - 1) k : Int)) = sumR N (k + 1) := wrap_step rfl rfl
theorem sums_end {N : Nat} (h1 : 1 ≤ N) (h2 : N ≤ 30) : ∃ a : Nat, F_CountTrees N = ((a : Int), 0) ∧ sumL N (N + 1) = a ∧ sumH N (N + 1) = a ∧ sumR N (N + 1) = a ∧ a ≤ 1152921504606846976 := by
  have hL := M.L_small (n := N) (t := 1) h2
  refine ⟨M.L N 1, by rw [F_CountTrees, if_pos (by omega), Int.toNat_natCast], ?_, ?_, ?_, hL⟩
  · rw [sumL, M.sumZ_cast, M.leaves_sum h1 h2]; exact IntWalk.i64_in _ (by omega)
  · rw [sumH, M.heights_sum h1 h2]; exact IntWalk.i64_in _ (by omega)
  · rw [sumR, M.sumZ_cast, M.roots_sum h1]; exact IntWalk.i64_in _ (by omega)
theorem sum_small {ts cs : List Int} (ht : M.isTree ts = true) (hc : M.counts ts = cs) : (∀ k, k ≤ cs.length → -1000000 ≤ M.sumI cs k ∧ M.sumI cs k ≤ 1000000) ∧ M.sumI cs cs.length = (ts.length : Int) := by
  have h0 : ∀ x ∈ ts, (0 : Int) ≤ x := fun x hx => by obtain ⟨i, hi⟩ := List.getElem?_of_mem hx; exact (M.tree_deg ht hi).1
  have hs := M.counts_sum h0
  rw [hc] at hs
  refine ⟨?_, hs⟩
  have hi : ∀ x ∈ cs, 0 ≤ x ∧ x ≤ 24 := fun x hx => by
    rw [← hc] at hx
    obtain ⟨j, _, rfl⟩ := List.mem_map.1 hx
    have := M.countTo_le ts j ts.length
    have := (M.tree_len ht).2
    omega
  have hl : cs.length ≤ 25 := by
    rw [← hc]
    show (M.rowN _ _ _).length ≤ _
    rw [M.rowN_len]
    exact width_le ht
  have : ∀ k, k ≤ cs.length → 0 ≤ M.sumI cs k ∧ M.sumI cs k ≤ 24 * (k : Int) := by
    intro k
    induction k with
    | zero => intro _; simp [M.sumI]
    | succ k ih =>
      intro hk
      have h1 := ih (by omega)
      have hx := List.getElem?_eq_getElem (l := cs) (show k < cs.length by omega)
      have h2 := hi _ (List.getElem_mem (show k < cs.length by omega))
      rw [M.sumI_at hx]
      omega
  intro k hk
  have := this k hk
  omega
theorem sum_of {ts cs : List Int} (h : F_CountsOfTree ts = (cs, 0)) : (∀ k, k ≤ cs.length → -1000000 ≤ M.sumI cs k ∧ M.sumI cs k ≤ 1000000) ∧ M.sumI cs cs.length = (ts.length : Int) := by
  cases ht : M.isTree ts
  · rw [F_CountsOfTree, M.cond_no ht] at h
    injection h with _ h2; omega
  · rw [F_CountsOfTree, M.cond_yes ht] at h
    injection h with h1 _
    exact sum_small ht h1
theorem treesF_len (n : Int) : (F_TreesOf n).1.length ≤ 8192 := by
  rw [F_TreesOf]
  split
  · split
    · rename_i h1 h2
      simp only [M.firstT_len]
      exact (M.L_7 (n := n.toNat) (by omega) (by omega)).2
    · simp
  · simp
theorem treesF_small (n : Int) : ∀ zs ∈ (F_TreesOf n).1, zs.length ≤ 24 := by
  rw [F_TreesOf]
  split
  · split
    · rename_i h1 h2
      exact M.firstT_small (by omega)
    · intro zs h; cases h
  · intro zs h; cases h
theorem sums_zero (N : Nat) : sumL N 0 = 0 ∧ sumH N 0 = 0 ∧ sumR N 0 = 0 := ⟨rfl, rfl, rfl⟩
end Go.Proofs.Ytdgcjkgbglofbaa

/- TreesOf, the program's: the trees come from the range over those behind the first one. -/
namespace Go.Proofs.Ytdgcjkgbglofbaa
open Go.RowKit Go.Shelf Go.Maps
attribute [local go_sem] Oper.semAt_some

namespace M
theorem first_tree {n : Nat} (hn1 : 1 ≤ n) (hn : n ≤ 24) : isTree (firstL n 1) = true := by
  rw [isTree_is (by rw [firstL_len]; exact hn1) (by rw [firstL_len]; exact hn)]
  exact (firstL_go n 1 (by omega) hn1).1
theorem first_unrank {n : Nat} (hn1 : 1 ≤ n) : unrank n 1 0 = firstL n 1 := by
  have h1 := firstL_go n 1 (by omega) hn1
  have := unrank_rk _ 1 h1.1
  rw [h1.2, firstL_len] at this
  exact this
theorem next_unrank {xs : List Int} (ht : isTree xs = true) : nextF 1 xs = if rk 1 xs + 1 < L xs.length 1 then some (unrank xs.length 1 (rk 1 xs + 1)) else none := by
  have h := next_rk xs 1 (tree_len ht).2 (tree_go ht)
  cases hn : nextF 1 xs with
  | none =>
    rw [hn] at h
    simp only at h
    rw [if_neg (by omega)]
  | some ys =>
    rw [hn] at h
    obtain ⟨h1, h2, h3⟩ := h
    have h4 := rk_lt ys 1 h1
    have h5 := unrank_rk ys 1 h1
    rw [h2, h3] at h4 h5
    rw [if_pos h4, h5]
theorem tafter_first {n : Nat} (hn1 : 1 ≤ n) (hn : n ≤ 24) : ∀ k, tafter (firstL n 1) k = if k + 1 < L n 1 then some (unrank n 1 (k + 1)) else none := by
  have ht := first_tree hn1 hn
  have h0 := (firstL_go n 1 (by omega) hn1).2
  intro k
  induction k with
  | zero =>
    have := next_unrank ht
    rw [h0, firstL_len] at this
    exact this
  | succ k ih =>
    by_cases hk : k + 1 < L n 1
    · rw [if_pos hk] at ih
      obtain ⟨i1, i2, i3⟩ := tafter_ok ht k _ ih
      have := next_unrank i1
      rw [i3, i2, h0, firstL_len] at this
      rw [tafter_succ ih, this]
      simp only [Nat.zero_add]
    · rw [if_neg hk] at ih
      rw [tafter, ih, if_neg (by omega)]
      rfl
end M

theorem own_max {w : World} {B n c : Nat} {A : Option Addr} {zs : List Int} (h : Own64 w B (.slice A n c) zs) : c ≤ 9223372036854775807 := by
  rcases h.2 with ⟨e, _⟩ | ⟨g, cap, cur, hv, _, _, _, h5, _⟩
  · injection e with e1 e2 e3; omega
  · injection hv with e1 e2 e3
    subst e3
    unfold maxLen at h5
    omega
theorem rows_apart {w : World} {b1 b2 s1 s2 n1 n2 g : Nat} {e1 e2 : TypeId} {v1 v2 : Value} {x1 x2 : List Value} (h1 : w.ownsRow b1 e1 s1 v1 n1 x1) (h2 : w.ownsRow b2 e2 s2 v2 n2 x2) (hne : e1 ≠ e2) (k1 : v1.ownBlock = some g) : v2.ownBlock ≠ some g := by
  intro k2
  rcases h1.2 with ⟨e, _⟩ | ⟨g1, _, _, hv1, _, hg1, _⟩
  · rw [e] at k1; cases k1
  · rcases h2.2 with ⟨e, _⟩ | ⟨g2, _, _, hv2, _, hg2, _⟩
    · rw [e] at k2; cases k2
    · rw [hv1] at k1
      rw [hv2] at k2
      have a1 : g1 = g := by injection k1
      have a2 : g2 = g := by injection k2
      rw [a1] at hg1
      rw [a2, hg1] at hg2
      injection hg2 with hg2
      injection hg2 with _ hg2
      exact hne hg2
theorem Woods.other {W W' : World} {B D : Nat} {v : Value} {hs : List Hdr} {zss : List (List Int)} {row : Option Nat} (h : Woods W B v hs zss) (hg : W.grownBy W' row) (hr : ∀ r, row = some r → D ≤ r ∧ ∃ o : Obj, W.heap[r]? = some o ∧ o.isCells = false) : Woods W' B v hs zss :=
  ⟨row_kept h.row hg hr, h.len, fun k h' zs hk hz => row_kept (h.each k h' zs hk hz) hg hr, h.apart⟩
theorem keepRows_grown {W W' : World} {row : Option Nat} (hg : W.grownBy W' row) (hr : ∀ (j : Nat) (cur : Array Value), row = some j → W.heap[j]? ≠ some (.cells cur 2 (0, 0))) : KeepRows W W' :=
  ⟨hg.size, fun j cur hj => (hg.block j (Array.getElem?_eq_some_iff.1 hj).1 (fun e => hr j cur e.symm hj)).trans hj⟩

set_option maxRecDepth 100000 in
set_option maxHeartbeats 8000000 in
theorem impl_TreesOf_in (n : Nat) (w : World) (hn1 : 1 ≤ n) (hn : n ≤ 7) :
    CallsIn Fence.wide 5 Try.prog 99 #[.int .i64 (n : Int)] w fun e w' => ∃ A' c' hs, e = .returned (.tuple #[.slice A' (M.L n 1) c', .int .i64 0]) ∧ Woods w' w.heap.size (.slice A' (M.L n 1) c') hs (M.firstT n (M.L n 1)) ∧ Below w.heap.size w w' := by
  have hn7 : ¬ (7 : Int) < (n : Int) := by omega
  obtain ⟨i0, hi0, hz0, hz1, hz2⟩ := info_parts infoTree
  have hF : F_FirstTree (n : Int) = (M.firstL n 1, 0) := if_pos (by omega)
  have HFst : Hid (Calls Try.prog 86 #[.int .i64 (n : Int)] w fun e w' => ∃ g1 c1, e = .returned (.tuple #[.agg #[.slice (some ⟨g1, 0, none⟩) n c1], .int .i64 0]) ∧ Hid (Own64 w' w.heap.size (hdr (g1, n, c1)) (M.firstL n 1)) ∧ Hid (Below w.heap.size w w')) := by
    refine (impl_FirstTree (n : Int) w (by omega) (by omega)).mono ?_
    rintro e w' ⟨A', c', rfl, ho, hb⟩
    rw [hF, M.firstL_len] at *
    obtain ⟨g1, rfl⟩ : ∃ g, A' = some ⟨g, 0, none⟩ := by
      rcases ho.2 with ⟨_, h0⟩ | ⟨g, cap, cur, hv, _⟩
      · rw [M.firstL_len] at h0; omega
      · injection hv with e1; exact ⟨g, e1⟩
    exact ⟨g1, c', rfl, ho, hb⟩
  have ht := Lib.hid (M.first_tree hn1 (by omega))
  have hlF := M.firstL_len n 1
  have haf := Lib.hid (M.tafter_first hn1 (by omega : n ≤ 24))
  have hT1 : Hid ([M.firstL n 1] = M.firstT n 1) := by show _ = _; rw [M.firstT_succ, M.first_unrank hn1]; rfl
  generalize M.firstL n 1 = X1 at *
  subst hlF
  clear hF
  refine callsIn_of_wp_marks Try.func99 rfl trivial ?_ rfl
  simp only [Try.ntmps99, List.size_toArray, List.length_cons, List.length_nil, Nat.reduceAdd, Nat.reduceSub, Array.replicate_succ, Array.replicate_zero, List.push_toArray, List.append_toArray, List.nil_append, List.cons_append]
  gi_wp2_with (first | (refine ⟨trivial, ?_⟩; gi_at_call 86; refine (callsIn_wide.2 HFst.out).mono ?_; rintro e w1 ⟨g1, c1, rfl, ho1, hb1⟩) | (refine ⟨trivial, ?_⟩; gi_at_call 213; refine (behindIn _ _ _ _ _).mono ?_; rintro e w' ⟨rfl, rfl⟩))
  simp only [show decide ((7 : Int) < (X1.length : Int)) = false from decide_eq_false (by omega)]
  have hz1' := hb1.out.size
  have hg1 := (World.ownsRow.lt ho1.out g1 rfl).2
  have hcl1 : X1.length ≤ c1 := own_cap' ho1.out
  have hcu1 := own_max ho1.out
  have hwd := woods_one (w := w1.alloc (.cells #[.slice (some ⟨g1, 0, none⟩) X1.length c1] 26)) (B := w.heap.size) (h := (g1, X1.length, c1)) (zs := X1) (by simp; omega) (ho1.out.alloc _)
  rw [hT1.out, World.size_alloc] at hwd
  have hwd2 := (hwd.alloc (.cells #[.slice (some ⟨w1.heap.size + 1, 0, none⟩) 1 1] 56)).alloc (.cells #[.slice (some ⟨g1, 0, none⟩) X1.length c1] 24)
  have bX0 := Boxed.new ((w1.alloc (.cells #[.slice (some ⟨g1, 0, none⟩) X1.length c1] 26)).alloc (.cells #[.slice (some ⟨g1, 0, none⟩) X1.length c1] 26)) 56 (.slice (some ⟨w1.heap.size + 1, 0, none⟩) 1 1)
  have bD := Boxed.new (((w1.alloc (.cells #[.slice (some ⟨g1, 0, none⟩) X1.length c1] 26)).alloc (.cells #[.slice (some ⟨g1, 0, none⟩) X1.length c1] 26)).alloc (.cells #[.slice (some ⟨w1.heap.size + 1, 0, none⟩) 1 1] 56)) 24 (.slice (some ⟨g1, 0, none⟩) X1.length c1)
  simp only [World.size_alloc] at bX0 bD
  have bX := bX0.alloc (.cells #[.slice (some ⟨g1, 0, none⟩) X1.length c1] 24)
  have hB0 := bal (bal (bal (bal hb1.out (.cells #[.slice (some ⟨g1, 0, none⟩) X1.length c1] 26)) (.cells #[.slice (some ⟨g1, 0, none⟩) X1.length c1] 26)) (.cells #[.slice (some ⟨w1.heap.size + 1, 0, none⟩) 1 1] 56)) (.cells #[.slice (some ⟨g1, 0, none⟩) X1.length c1] 24)
  have hI0 := (((((ints_of_own64 ho1.out).al (.cells #[.slice (some ⟨g1, 0, none⟩) X1.length c1] 26)).al (.cells #[.slice (some ⟨g1, 0, none⟩) X1.length c1] 26)).al (.cells #[.slice (some ⟨w1.heap.size + 1, 0, none⟩) 1 1] 56)).al (.cells #[.slice (some ⟨g1, 0, none⟩) X1.length c1] 24))
  obtain ⟨W0, hW0⟩ : ∃ W0, W0 = ((((w1.alloc (.cells #[.slice (some ⟨g1, 0, none⟩) X1.length c1] 26)).alloc (.cells #[.slice (some ⟨g1, 0, none⟩) X1.length c1] 26)).alloc (.cells #[.slice (some ⟨w1.heap.size + 1, 0, none⟩) 1 1] 56)).alloc (.cells #[.slice (some ⟨g1, 0, none⟩) X1.length c1] 24)) := ⟨_, rfl⟩
  have hsz : W0.heap.size = w1.heap.size + 1 + 1 + 1 + 1 := by rw [hW0]; simp
  rw [← hW0] at hwd2 bX bD hB0 hI0 ⊢
  have HI0 := Lib.hid hI0
  have hL := M.L_7 hn1 hn
  clear hW0 hwd bX0 ho1 hb1 hI0 HFst
  generalize w1.heap.size = d at *
  have h15 : 1 ≤ 5 := by omega
  refine wpIn_rangeRows (α := Value) rfl h15 (gf := 286) (lb := #[.pointer (some ⟨d + 1 + 1 + 1, 0, none⟩)]) rfl trivial (enters_of Try.func286 (by kernel_rfl) rfl)
    (behind_rows 4 (by omega) (d + 1 + 1 + 1) W0.heap.size (some ⟨g1, 0, none⟩) X1 c1 ht hcl1 hcu1 W0 bD HI0.out (Nat.le_refl _)) (Below.refl _ _) (fun h k => h.t k)
    (fun W r r' h => keepRows_turn h) (fun _ => rfl)
    (fun pre W => ∃ (A' : Option Addr) (c' : Nat) (hs0 : List Hdr), pre = hs0.map hdr ∧ pre.length + 1 ≤ M.L X1.length 1 ∧ Boxed W (d + 1 + 1) 56 (.slice A' (pre.length + 1) c') ∧ Woods W w.heap.size (.slice A' (pre.length + 1) c') ((g1, X1.length, c1) :: hs0) (M.firstT X1.length (pre.length + 1)) ∧ Below w.heap.size w W)
    (fun _ _ _ => False)
    (fun pre X Y r' ⟨A', c', hs0, h1, h2, h3, h4, h5⟩ hg hr => ⟨A', c', hs0, h1, h2, h3.kept hg (fun e => by have := (hr _ e.symm).1; omega), h4.other hg hr, h5.grown hg h5.size (fun k e => by have := (hr _ e).1; omega)⟩)
    (fun _ _ _ _ _ hs _ _ => hs)
    (RowC.from _ _ _)
    ⟨_, _, [], rfl, hL.1, bX, hwd2, hB0⟩
    (fun x => { tmps := #[.int .i64 (X1.length : Int), undef, .slice none 0 0, .int .i64 0, .pointer (some ⟨d, 0, none⟩), .int .i64 0, .pointer (some ⟨d + 1 + 1, 0, none⟩), x, .tuple #[.agg #[.slice (some ⟨g1, 0, none⟩) X1.length c1], .int .i64 0], .int .i64 (X1.length : Int), .tuple #[.agg #[.slice (some ⟨g1, 0, none⟩) X1.length c1], .int .i64 0], .agg #[.slice (some ⟨g1, 0, none⟩) X1.length c1], .int .i64 0, .int .i64 0, .bool false, undef, .int .i64 (X1.length : Int), .bool false, .agg #[.slice (some ⟨g1, 0, none⟩) X1.length c1], .slice (some ⟨d + 1, 0, none⟩) 1 1, .pointer (some ⟨d, 0, none⟩), .slice (some ⟨g1, 0, none⟩) X1.length c1, .func (.func 286) #[] #[.pointer (some ⟨d + 1 + 1 + 1, 0, none⟩)], x, undef, undef, undef, undef, undef, undef], defers := [] }) ?assign ?body ?done ?stop
  case assign =>
    intro l x W K hK
    gi_wp2
    exact hK
  case body =>
    rintro l pre x W ⟨A', c', hs0, hpre, hpl, hX, hW, hB⟩ ⟨ys, g, cc, ha, rfl, _, ho, hfr⟩
    have hk : pre.length + 1 < M.L X1.length 1 ∧ ys = M.unrank X1.length 1 (pre.length + 1) := by
      have := haf.out pre.length
      rw [ha] at this
      split at this
      · rename_i h1
        injection this with this
        exact ⟨h1, this⟩
      · cases this
    obtain ⟨hk1, hk2⟩ := hk
    have Hk2 := Lib.hid hk2
    clear hk2
    have hgB := (World.ownsRow.lt ho g rfl).1
    have hWsz := hB.size
    have hlen : ((g1, X1.length, c1) :: hs0).length = pre.length + 1 := by rw [hpre]; simp
    have hrow := hW.row
    rw [hlen] at hrow
    have hne : (Value.slice A' (pre.length + 1) c').ownBlock ≠ some g := rows_apart ho hrow (by decide) rfl
    have hfr2 : ∀ h' ∈ (g1, X1.length, c1) :: hs0, h'.1 ≠ g := fun h' hh => by
      rcases List.mem_cons.1 hh with rfl | hh
      · show g1 ≠ g
        omega
      · exact fun e => hfr (hdr h') (by rw [hpre]; exact List.mem_map_of_mem hh) (by show some h'.1 = _; rw [e])
    have cX := hX.cell
    have HX := Lib.hid hX
    have HW := Lib.hid hW
    have HB := Lib.hid hB
    have Ho := Lib.hid ho
    have Hfr2 := Lib.hid hfr2
    have Hne := Lib.hid hne
    have Hpre := Lib.hid hpre
    have hpl2 : pre.length ≤ 8192 := by omega
    have hWd : d + 1 + 1 < W.heap.size := hX.lt
    clear hX hW hB ho hfr hfr2 hne hpre ha
    gi_wp2_with (gi_at_builtin; refine wpListIn_append_own_at _ rfl _ _ 56 rfl w.heap.size 26 i0 (.agg #[.slice none 0 0]) 1 24 Try.underlying56 hi0 hz0 hz1 hz2 rfl (by decide) _ _ _ rfl (hrow.alloc _) ⟨W.heap.size, 0, none⟩ 1 1 [hdr (g, ys.length, cc)] rfl rfl (cell_one_new _ _ _) (by simp [Value.oneCell']) (by unfold maxLen; omega) (by omega) (by simp; omega) ?_; intro v' w2 hown2 hg2 _ hat2; obtain ⟨g2, c2, rfl⟩ := ownsRow_succ hown2; have bX2 := (HX.out.alloc (.cells #[hdr (g, ys.length, cc)] 26)).kept hg2 (HX.out.not_row (by decide) hrow); have cX2 := bX2.cell; have fX2 := bX2.frozen)
    have hnew := woods_pushed (zs := ys) (o := .cells #[hdr (g, ys.length, cc)] 26) HW.out (own_mono Ho.out (by omega) : Own64 W w.heap.size (hdr (g, ys.length, cc)) ys) Hne.out Hfr2.out (by rw [hlen]; exact hown2) hg2
    have hnewX : Woods (w2.setCell ⟨d + 1 + 1, 0, none⟩ (.slice (some ⟨g2, 0, none⟩) (pre.length + 1 + 1) c2)) w.heap.size (.slice (some ⟨g2, 0, none⟩) (pre.length + 1 + 1) c2) (((g1, X1.length, c1) :: hs0) ++ [(g, ys.length, cc)]) (M.firstT X1.length (pre.length + 1) ++ [ys]) := by
      refine hnew.kept (grownBy_setCell' w2 (d + 1 + 1) _) (fun k e => ?_)
      have e1 : d + 1 + 1 = k := by injection e
      subst e1
      refine ⟨(bX2.not_row (by decide) hown2).symm, fun h' hh e2 => ?_⟩
      obtain ⟨j, hj⟩ := List.getElem?_of_mem hh
      have hjl : j < (M.firstT X1.length (pre.length + 1) ++ [ys]).length := by rw [← hnew.len]; exact (List.getElem?_eq_some_iff.1 hj).1
      exact bX2.not_row (by decide) (hnew.each j h' _ hj (List.getElem?_eq_getElem hjl)) (by show _ = some h'.1; rw [e2])
    have hKa : KeepsOthers W (W.alloc (.cells #[hdr (g, ys.length, cc)] 26)) := KeepsOthers.alloc W _
    have hKb : KeepsOthers (W.alloc (.cells #[hdr (g, ys.length, cc)] 26)) w2 := KeepsOthers.of_grownBy hg2 (fun j o ej hj => row_cells (hrow.alloc _) j o ej hj)
    have hKR : KeepRows W (w2.setCell ⟨d + 1 + 1, 0, none⟩ (.slice (some ⟨g2, 0, none⟩) (pre.length + 1 + 1) c2)) := by
      refine ((keepRows_grown (World.grownBy_alloc W (.cells #[hdr (g, ys.length, cc)] 26) none) (fun j cur e => by cases e)).t (keepRows_grown hg2 (fun j cur e hj => ?_))).t (keepRows_grown (grownBy_setCell' w2 (d + 1 + 1) _) (fun j cur e hj => ?_))
      · rcases (hrow.alloc (.cells #[hdr (g, ys.length, cc)] 26)).2 with ⟨e0, _⟩ | ⟨g3, _, _, hv3, _, hg3, _⟩
        · rw [e0] at e; cases e
        · rw [hv3] at e
          have e4 : g3 = j := by injection e
          rw [e4, hj] at hg3
          injection hg3 with hg3
          injection hg3 with _ hg3
          exact absurd hg3 (by decide)
      · have e4 : d + 1 + 1 = j := by injection e
        have hb := show w2.heap[d + 1 + 1]? = _ from bX2
        rw [e4, hj] at hb
        injection hb with hb
        injection hb with _ hb
        exact absurd hb (by decide)
    have hBel : Below w.heap.size w (w2.setCell ⟨d + 1 + 1, 0, none⟩ (.slice (some ⟨g2, 0, none⟩) (pre.length + 1 + 1) c2)) := HB.out.trans (below_setCell (((Below.refl w.heap.size W).alloc hWsz _).grown hg2 (by simp; omega) (fun k hk => (World.ownsRow.lt hrow k hk).1)) (by omega) _)
    refine ⟨((hKa.trans hKb).trans (KeepsOthers.setCell _ _ _)).from _, hKR, some ⟨g2, 0, none⟩, c2, hs0 ++ [(g, ys.length, cc)], ?_, ?_, ?_, ?_, hBel⟩
    · rw [Hpre.out, List.map_append]; rfl
    · rw [List.length_append, List.length_singleton]; omega
    · rw [List.length_append, List.length_singleton]; exact bX2.set _
    · rw [List.length_append, List.length_singleton, M.firstT_succ, ← Hk2.out]
      exact hnewX
  case done =>
    rintro D ys W hD hS ⟨A', c', hs0, hpre, hpl, hX, hW, hB⟩ hK
    have hLe : M.L X1.length 1 = ys.length + 1 := by
      have := haf.out ys.length
      rw [show M.tafter X1 ys.length = none from hS] at this
      split at this
      · cases this
      · omega
    rw [← hLe] at hX hW
    have cX := hX.cell
    have HK := Lib.hid hK
    have HW := Lib.hid hW
    have HB := Lib.hid hB
    clear hX hW hB hK hS hpre hpl hLe
    gi_wp2
    refine ⟨by simp, .inl ⟨_, _, rfl, run_takeDeferred HK.out, ?_⟩⟩
    exact ⟨_, results_tmp2 rfl _ _ _, A', c', rfl, ⟨_, HW.out.other (D := 0) (grownBy_putObj' W D _) (fun r e => by injection e with e; subst e; exact ⟨Nat.zero_le _, _, HK.out, rfl⟩)⟩, HB.out.trans (belowK_b (w := w) (Nat.le_refl _) W D _ _ (by omega) HK.out rfl rfl)⟩
  case stop =>
    rintro D cc pre W _ _ h _
    exact h.elim

set_option maxRecDepth 100000 in
set_option maxHeartbeats 2000000 in
theorem impl_TreesOf : GivesTreesN 99 F_TreesOf := by
  intro n w hlo hhi
  have hFst := Lib.hid (impl_FirstTree n w hlo hhi)
  by_cases h12 : 1 ≤ n ∧ n ≤ 24
  · obtain ⟨n, rfl⟩ := Int.eq_ofNat_of_zero_le (show 0 ≤ n by omega)
    have hFF : F_FirstTree (n : Int) = (M.firstL n 1, 0) := if_pos h12
    by_cases h7 : (n : Int) ≤ 7
    · have hF : F_TreesOf n = (M.firstT n (M.L n 1), 0) := by rw [F_TreesOf, if_pos h12, if_pos h7]; rfl
      rw [hF]
      simp only [M.firstT_len]
      exact (callsIn_wide (n := 5)).1 (impl_TreesOf_in n w (by omega) (by omega))
    · have hF : F_TreesOf n = ([], 3) := by rw [F_TreesOf, if_pos h12, if_neg h7]
      have hn7 : (7 : Int) < (n : Int) := by omega
      rw [hFF] at hFst
      rw [hF]
      clear hF h7 hFF
      go_enter Try.func99, Try.ntmps99
      go_wp2_with fail
      refine hFst.out.mono ?_
      rintro e w1 ⟨A', c', rfl, _, hb⟩
      have hB := Lib.hid (bal hb (.cells #[.slice A' (M.firstL n 1).length c'] 26))
      clear hb
      go_wp2
      go_ret2
      exact ⟨none, 0, [], rfl, woods_nil _ _, hB.out⟩
  · have hF : F_TreesOf n = ([], 2) := if_neg h12
    have hFF : F_FirstTree n = ([], 2) := if_neg h12
    rw [hFF] at hFst
    rw [hF]
    clear hF hFF
    go_enter Try.func99, Try.ntmps99
    go_wp2_with fail
    refine hFst.out.mono ?_
    rintro e w1 ⟨A', c', rfl, _, hb⟩
    have hB := Lib.hid (bal hb (.cells #[.slice A' ([] : List Int).length c'] 26))
    clear hb
    go_wp2
    go_ret2
    exact ⟨none, 0, [], rfl, woods_nil _ _, hB.out⟩
end Go.Proofs.Ytdgcjkgbglofbaa

/- The source of the model's draws in memory: a box with the code's bytes, a place and a hash; the next number that it hands out. -/
namespace Go.Proofs.Ytdgcjkgbglofbaa
open Go.RowKit

/-- The slice value '.slice A zs.length c' reads as the bytes zs, below block B. -/
def Byts (w : World) (B : Nat) (A : Option Addr) (zs : List Int) : Prop :=
  0 < zs.length → ∃ b off, A = some ⟨b, off, none⟩ ∧ b < B ∧ ∀ j x, zs[j]? = some x → w.cell? ⟨b, off + j, none⟩ = some (.int .u8 x)
theorem Byts.keep {w w' : World} {B : Nat} {A : Option Addr} {zs : List Int} (h : Byts w B A zs) (hk : ∀ p : Addr, p.block < B → w'.cell? p = w.cell? p) : Byts w' B A zs := fun hn => by
  obtain ⟨b, off, e, hb, hc⟩ := h hn
  exact ⟨b, off, e, hb, fun j x hx => (hk ⟨b, off + j, none⟩ hb).trans (hc j x hx)⟩
theorem Byts.more {w : World} {B B' : Nat} {A : Option Addr} {zs : List Int} (h : Byts w B A zs) (hB : B ≤ B') : Byts w B' A zs := fun hn => by
  obtain ⟨b, off, e, hb, hc⟩ := h hn
  exact ⟨b, off, e, by omega, hc⟩
theorem Byts.below {w w' : World} {B B' : Nat} {A : Option Addr} {zs : List Int} (h : Byts w B A zs) (hb : Below B' w w') (hB : B ≤ B') : Byts w' B A zs :=
  h.keep fun p hp => hb.cell (p := p) (by omega)
theorem Byts.be {w w' : World} {A : Option Addr} {zs : List Int} (h : Byts w w.heap.size A zs) (hb : Below w.heap.size w w') : Byts w' w'.heap.size A zs :=
  (h.below hb (Nat.le_refl _)).more hb.size
/-- a box with the bytes zs, the place k and the hash h -/
def SrcBox (w : World) (g : Nat) (A : Option Addr) (zs : List Int) (c k : Nat) (h : Int) : Prop :=
  w.heap[g]? = some (.cells #[.slice A zs.length c, .int .i64 (k : Int), .int .u64 h] 221 (0, 0))
/-- a source of draws in block g, over bytes below block B -/
def Src (w : World) (B g : Nat) : Prop :=
  B ≤ g ∧ ∃ (A : Option Addr) (zs : List Int) (c k : Nat) (h : Int), SrcBox w g A zs c k h ∧ k ≤ zs.length ∧ zs.length ≤ c ∧ c ≤ 9223372036854775807 ∧ (∀ x ∈ zs, 0 ≤ x ∧ x ≤ 255) ∧ Byts w B A zs ∧ (0 ≤ h ∧ h ≤ 18446744073709551615)
theorem SrcBox.cells {w : World} {g : Nat} {A : Option Addr} {zs : List Int} {c k : Nat} {h : Int} (hb : SrcBox w g A zs c k h) :
    (w.cell? ⟨g, 0, none⟩ = some (.slice A zs.length c) ∧ w.cell? ⟨g, 1, none⟩ = some (.int .i64 (k : Int)) ∧ w.cell? ⟨g, 2, none⟩ = some (.int .u64 h)) ∧ w.frozen? ⟨g, 1, none⟩ = false ∧ w.frozen? ⟨g, 2, none⟩ = false ∧ g < w.heap.size := by
  have hb' : w.heap[g]? = _ := hb
  refine ⟨⟨?_, ?_, ?_⟩, ?_, ?_, (Array.getElem?_eq_some_iff.1 hb').1⟩ <;> simp [World.cell?, World.frozen?, hb']
theorem src_set {w : World} {X i T : Nat} {cs : Array Value} {p : Nat × Nat} (h : w.heap[X]? = some (.cells cs T p)) (u : Value) : (w.setCell ⟨X, i, none⟩ u).heap[X]? = some (.cells (cs.setIfInBounds i u) T p) := by
  simp [World.setCell, Array.getElem?_modify, h]
theorem src_grown (w : World) (X i : Nat) (u : Value) : w.grownBy (w.setCell ⟨X, i, none⟩ u) (some X) :=
  ⟨rfl, rfl, rfl, by simp, fun k _ hne => heap_setCell_other _ _ _ _ (fun e => hne (by rw [e]))⟩
theorem src_tr {a b c : World} {r : Option Nat} (h : a.grownBy b r) (k : b.grownBy c r) : a.grownBy c r :=
  ⟨k.os.trans h.os, k.tape.trans h.tape, k.output.trans h.output, Nat.le_trans h.size k.size, fun j hj hne => (k.block j (Nat.lt_of_lt_of_le hj h.size) hne).trans (h.block j hj hne)⟩
theorem src_drewN {a b : World} {r : Option Nat} (h : a.grownBy b r) (n : Nat) : a.grownBy (b.drewN n) r := ⟨h.os, h.tape, h.output, h.size, h.block⟩
theorem SrcBox.hash {w : World} {g : Nat} {A : Option Addr} {zs : List Int} {c k : Nat} {h : Int} (hb : SrcBox w g A zs c k h) (h' : Int) : SrcBox (w.setCell ⟨g, 2, none⟩ (.int .u64 h')) g A zs c k h' := src_set hb _
theorem SrcBox.step {w : World} {g : Nat} {A : Option Addr} {zs : List Int} {c k : Nat} {h : Int} (hb : SrcBox w g A zs c k h) (k' : Nat) : SrcBox (w.setCell ⟨g, 1, none⟩ (.int .i64 (k' : Int))) g A zs c k' h := src_set hb _
theorem grown_far {w w' : World} {g B : Nat} {A : Option Addr} {zs : List Int} (h : Byts w B A zs) (hg : w.grownBy w' (some g)) (hB : B ≤ g) : Byts w' B A zs := fun hn => by
  obtain ⟨b, off, e, hb, hc⟩ := h hn
  exact ⟨b, off, e, hb, fun j x hx => hg.cell (hc j x hx) (by show some b ≠ some g; intro e; injection e; omega)⟩
theorem Src.lt {w : World} {B g : Nat} (h : Src w B g) : g < w.heap.size := by
  obtain ⟨_, _, _, _, _, _, h, _⟩ := h
  exact h.cells.2.2.2
theorem Src.be {w w' : World} {B g : Nat} (h : Src w B g) (hb : Below w.heap.size w w') : Src w' B g := by
  have hl := h.lt
  obtain ⟨h0, A, zs, c, k, h1, h2, h3, h4, h5, h6, h7, h8⟩ := h
  exact ⟨h0, A, zs, c, k, h1, (hb.block g hl).trans h2, h3, h4, h5, h6, h7.below hb (by omega), h8⟩
/-- what else is made does not matter -/
theorem Src.kept {w w' : World} {B g : Nat} {row : Option Nat} (h : Src w B g) (hg : w.grownBy w' row) (hr : ∀ k, row = some k → B ≤ k ∧ k ≠ g) : Src w' B g := by
  have hl := h.lt
  obtain ⟨h0, A, zs, c, k, h1, h2, h3, h4, h5, h6, h7, h8⟩ := h
  refine ⟨h0, A, zs, c, k, h1, (hg.block g hl (fun e => (hr g e.symm).2 rfl)).trans h2, h3, h4, h5, h6, fun hn => ?_, h8⟩
  obtain ⟨b, off, e, hb, hc⟩ := h7 hn
  exact ⟨b, off, e, hb, fun j x hx => hg.cell (hc j x hx) (fun e => by have := (hr b e.symm).1; omega)⟩
end Go.Proofs.Ytdgcjkgbglofbaa

/- The next number that the model's source of draws hands out: from 0 to n - 1. -/
namespace Go.Proofs.Ytdgcjkgbglofbaa
open Go.RowKit

theorem wraps_u63 (n : Int) (h₀ : 0 ≤ n) (h₁ : n < 2 ^ 63) : IntKind.u64.wrap n = n := by rw [IntKind.wrap_u64]; omega
theorem draw_bits (H : Int) (h0 : 0 ≤ H) (h1 : H ≤ 18446744073709551615) : ∃ x : Int, wrap64 (bits BinOp.and IntKind.u64 (H / 8589934592) 16777215) = x ∧ 0 ≤ x ∧ x ≤ 16777215 := by
  have h := bits_mask .u64 63 (by decide) wraps_u63 24 (by decide) (H / 8589934592) (by omega) (by omega)
  have e : ((2 : Int) ^ 24 - 1) = 16777215 := by decide
  have e2 : ((2 : Int) ^ 24) = 16777216 := by decide
  rw [e, e2] at h
  rw [h, IntWalk.wrap64_in _ (by omega)]
  exact ⟨_, rfl, by omega, by omega⟩
theorem u64_range (n : Int) : 0 ≤ IntKind.u64.wrap n ∧ IntKind.u64.wrap n ≤ 18446744073709551615 := by rw [IntKind.wrap_u64]; omega

set_option maxRecDepth 100000 in
set_option maxHeartbeats 4000000 in
theorem l01Next (n : Int) (w : World) (B g : Nat) (hn : n ≤ 9223372036854775807) (hS : Hid (Src w B g)) :
    Calls Try.prog 186 #[.pointer (some ⟨g, 0, none⟩), .int .i64 n] w fun e w' => ∃ r : Int, e = .returned (.int .i64 r) ∧ (0 ≤ r ∧ (r < n ∨ r = 0)) ∧ Hid (Src w' B g) ∧ Hid (w.grownBy w' (some g)) := by
  obtain ⟨h0, A, zs, c, k, h, hbx, hk, hzc, hc, hz, hby, hh⟩ := hS.out
  obtain ⟨⟨c0, c1, c2⟩, f1, f2, hl⟩ := hbx.cells
  by_cases hn1 : n < 1
  · go_enter Try.func186, Try.ntmps186
    go_wp2
    go_ret
    exact ⟨0, rfl, ⟨by omega, .inr rfl⟩, hS, Lib.hid (World.grownBy.refl w _)⟩
  · have Hbx := Lib.hid hbx
    have Hby := Lib.hid hby
    have Hz := Lib.hid hz
    clear hbx hby hz
    go_enter Try.func186, Try.ntmps186
    go_wp2
    obtain ⟨H, hH⟩ : ∃ H, IntKind.u64.wrap (IntKind.u64.wrap (h * 6364136223846793005) + 1442695040888963407) = H := ⟨_, rfl⟩
    have hHr := u64_range (IntKind.u64.wrap (h * 6364136223846793005) + 1442695040888963407)
    rw [hH] at hHr ⊢
    obtain ⟨x, hx, hx0, hx1⟩ := draw_bits H hHr.1 hHr.2
    rw [hx]
    have Hb1 := Lib.hid (Hbx.out.hash H)
    have hg1 : Hid (w.grownBy (w.setCell ⟨g, 2, none⟩ (.int .u64 H)) (some g)) := src_grown w g 2 _
    have Hy1 : Hid (Byts (w.setCell ⟨g, 2, none⟩ (.int .u64 H)) B A zs) := grown_far Hby.out hg1.out h0
    clear hH hx c0 c1 c2 f1 f2 Hbx Hby
    generalize w.setCell ⟨g, 2, none⟩ (.int .u64 H) = W at Hb1 hg1 Hy1 ⊢
    obtain ⟨⟨c0, c1, c2⟩, f1, f2, hl1⟩ := Hb1.out.cells
    have hk0 : (0 : Int) ≤ (k : Int) := by omega
    by_cases hkz : k < zs.length
    · have hkz' : (k : Int) < (zs.length : Int) := by omega
      obtain ⟨b, off, rfl, hbB, hcell⟩ := Hy1.out (by omega)
      have hy := List.getElem?_eq_getElem hkz
      have hyr := Hz.out _ (List.mem_of_getElem? hy)
      generalize zs[k] = y at hy hyr
      have hcy := hcell k y hy
      have hw1 : IntKind.i64.wrap (x + y) = x + y := IntWalk.i64_in _ (by omega)
      have hw2 : IntKind.i64.wrap ((k : Int) + 1) = ((k + 1 : Nat) : Int) := by rw [IntWalk.i64_in _ (by omega)]; omega
      clear hcell hy
      go_quiet (fail)
      go_wp2
      go_quiet (fail)
      go_wp2
      go_ret
      refine ⟨_, rfl, ⟨Int.emod_nonneg _ (by omega), .inl (Int.emod_lt_of_pos _ (by omega))⟩, Lib.hid ⟨h0, _, zs, c, k + 1, H, SrcBox.step (show SrcBox _ g _ zs c k H from Hb1.out) (k + 1), by omega, hzc, hc, Hz.out, ?_, hHr⟩, ?_⟩
      · exact grown_far Hy1.out (src_tr (src_drewN (World.grownBy.refl W (some g)) _) (src_grown _ g 1 _)) h0
      · exact src_tr (src_drewN hg1.out _) (src_grown _ g 1 _)
    · have hkz' : ¬ (k : Int) < (zs.length : Int) := by omega
      go_quiet (fail)
      go_wp2
      go_ret
      exact ⟨_, rfl, ⟨Int.emod_nonneg _ (by omega), .inl (Int.emod_lt_of_pos _ (by omega))⟩, Lib.hid ⟨h0, A, zs, c, k, H, Hb1.out, hk, hzc, hc, Hz.out, Hy1.out, hHr⟩, Lib.hid (src_drewN hg1.out _)⟩
end Go.Proofs.Ytdgcjkgbglofbaa

/- One of some numbers that are told; a number near a range: the model's draws. -/
namespace Go.Proofs.Ytdgcjkgbglofbaa
open Go.RowKit

/-- a list whose cells do not lie in block g -/
def Off (w : World) (g : Nat) (A : Option Addr) (xs : List Int) : Prop :=
  ∃ b off, A = some ⟨b, off, none⟩ ∧ b ≠ g ∧ ∀ j x, xs[j]? = some x → w.cell? ⟨b, off + j, none⟩ = some (.int .i64 x)

set_option maxRecDepth 100000 in
set_option maxHeartbeats 4000000 in
theorem l01Pick (A : Option Addr) (xs : List Int) (n c : Nat) (w : World) (B g : Nat) (hn : Hid (xs.length = n)) (h1 : 1 ≤ n) (h2 : n ≤ 1000) (hI : Hid (Off w g A xs)) (hS : Hid (Src w B g)) :
    Calls Try.prog 209 #[.pointer (some ⟨g, 0, none⟩), .slice A n c] w fun e w' => ∃ r : Int, e = .returned (.int .i64 r) ∧ Hid (r ∈ xs) ∧ Hid (Src w' B g) ∧ Hid (w.grownBy w' (some g)) := by
  go_enter Try.func209, Try.ntmps209
  go_wp2_with fail
  refine (l01Next (n : Int) w B g (by omega) hS).mono ?_
  rintro e w1 ⟨r, rfl, ⟨hr0, hr1⟩, hS1, hg1⟩
  obtain ⟨k, rfl⟩ := Int.eq_ofNat_of_zero_le hr0
  have hk : k < n := by omega
  obtain ⟨b, off, rfl, hb, hcell⟩ := hI.out
  have hx := List.getElem?_eq_getElem (l := xs) (show k < xs.length by rw [hn.out]; exact hk)
  have hm := Lib.hid (List.mem_of_getElem? hx)
  have hcl := hg1.out.cell (hcell k _ hx) (by simp; exact hb)
  generalize xs[k]'_ = x at hm hcl
  clear hcell hx
  go_wp2
  go_ret
  exact ⟨x, rfl, hm, hS1, hg1⟩

theorem off_new (w : World) (g : Nat) (hg : g < w.heap.size) (xs : List Int) : Off (w.alloc (.cells (xs.map (Value.int .i64)).toArray 2)) g (some ⟨w.heap.size, 0, none⟩) xs :=
  ⟨w.heap.size, 0, rfl, by omega, fun j x hx => by
    rw [Nat.zero_add, World.cell?_alloc_new]
    simp [hx]⟩
end Go.Proofs.Ytdgcjkgbglofbaa

/- Drawn trees: a node of a tree gets one child more, a leaf at the end. Mathematics. -/
namespace Go.Proofs.Ytdgcjkgbglofbaa
namespace M
theorem isGo_snoc0 : ∀ (l : List Int) (o : Int), 0 ≤ o → isGo o l = true → isGo (o + 1) (l ++ [0]) = true := by
  intro l
  induction l with
  | nil =>
    intro o _ h
    simp [isGo] at h
    subst h
    rfl
  | cons d r ih =>
    intro o ho h
    have hp := isGo_pos _ _ h ho (by simp)
    simp only [isGo] at h
    split at h
    · cases h
    · rename_i hc
      simp at hc
      rw [List.cons_append, isGo, if_neg (by simp [hc.2.1, hc.2.2]; omega), show o + 1 - 1 + d = (o - 1 + d) + 1 by omega]
      exact ih _ (by omega) h
theorem isGo_inc : ∀ (l : List Int) (o : Int) (v : Nat) (x : Int), 0 ≤ o → isGo o l = true → l[v]? = some x → x + 1 ≤ 24 → isGo o (l.set v (x + 1) ++ [0]) = true := by
  intro l
  induction l with
  | nil => intro o v x _ _ hx; simp at hx
  | cons d r ih =>
    intro o v x ho h hx h24
    have hp := isGo_pos _ _ h ho (by simp)
    simp only [isGo] at h
    split at h
    · cases h
    · rename_i hc
      simp at hc
      cases v with
      | zero =>
        simp at hx
        subst hx
        rw [List.set_cons_zero, List.cons_append, isGo, if_neg (by simp; omega), show o - 1 + (d + 1) = (o - 1 + d) + 1 by omega]
        exact isGo_snoc0 _ _ (by omega) h
      | succ v =>
        simp at hx
        rw [List.set_cons_succ, List.cons_append, isGo, if_neg (by simp [hc.2.1, hc.2.2]; omega)]
        exact ih _ v x (by omega) h hx h24
theorem tree_degl {xs : List Int} (h : isTree xs = true) {v : Nat} {x : Int} (hx : xs[v]? = some x) : 0 ≤ x ∧ x + 1 ≤ xs.length := by
  have hv := (List.getElem?_eq_some_iff.1 hx).1
  obtain ⟨s, _, h1, h2⟩ := isGo_drop (tree_go h) v (by omega)
  have hs := h2 hv
  rw [drop_at hx, isGo] at h1
  split at h1
  · cases h1
  · rename_i hc
    simp at hc
    refine ⟨hc.2.1, ?_⟩
    rcases Int.lt_or_le ((xs.drop (v + 1)).length : Int) (s - 1 + x) with hb | hb
    · rw [isGo_big _ _ hb] at h1; cases h1
    · rw [List.length_drop] at hb; omega
theorem tree_inc {xs : List Int} (h : isTree xs = true) (hl : xs.length < 24) {v : Nat} {x : Int} (hx : xs[v]? = some x) : isTree (xs.set v (x + 1) ++ [0]) = true := by
  have := tree_degl h hx
  have hn := tree_len h
  simp only [isTree, Bool.and_eq_true, decide_eq_true_eq, List.length_append, List.length_set, List.length_singleton]
  exact ⟨⟨by omega, by omega⟩, isGo_inc _ _ _ _ (by omega) (tree_go h) hx (by omega)⟩
theorem tree_one : isTree [0] = true := rfl
end M
end Go.Proofs.Ytdgcjkgbglofbaa

/- A drawn tree of n nodes: the model's draw. -/
namespace Go.Proofs.Ytdgcjkgbglofbaa
open Go.RowKit

theorem own64_lit1 {w : World} {B : Nat} (x : Int) (hB : B ≤ w.heap.size) : Own64 (w.alloc (.cells #[.int .i64 x] 2)) B (.slice (some ⟨w.heap.size, 0, none⟩) 1 1) [x] := by
  have h := World.ownsRow_lit (e := 2) (size := 1) w #[.int .i64 x] 1 hB (by simp [maxLen]) (by simp)
  simpa [Own64] using h
/-- rows above a base that lies above g: other blocks than g are kept -/
theorem own_src {w w' : World} {base e size n g : Nat} {v : Value} {xs : List Value} (h : w.ownsRow base e size v n xs) (hg : w.grownBy w' (some g)) (hb : g < base) : w'.ownsRow base e size v n xs :=
  own_grown h hg (fun k e => by injection e with e; exact .inl (by omega))
theorem two_src {w w' : World} {base g : Nat} {v1 v2 : Value} {xs ys : List Int} (h : Two w base v1 v2 xs ys) (hg : w.grownBy w' (some g)) (hb : g < base) : Two w' base v1 v2 xs ys :=
  ⟨own_src h.1 hg hb, own_src h.2.1 hg hb, h.2.2⟩
theorem ints_take9 {w : World} {B : Nat} {A : Option Addr} {xs : List Int} (k : Nat) (h : Ints w B A xs) : Ints w B A (xs.take k) := fun hn => by
  rw [List.length_take] at hn
  obtain ⟨b, off, e, hb, hc⟩ := h (by omega)
  refine ⟨b, off, e, hb, fun j x hx => hc j x ?_⟩
  have := (List.getElem?_eq_some_iff.1 hx).1
  rw [List.length_take] at this
  rwa [List.getElem?_take_of_lt (by omega)] at hx
theorem two_beS {w w' : World} {B : Nat} {v1 v2 : Value} {xs ys : List Int} (h : Two w B v1 v2 xs ys) (hb : Below w.heap.size w w') : Two w' B v1 v2 xs ys :=
  ⟨own_below h.1 hb (Nat.le_refl _), own_below h.2.1 hb (Nat.le_refl _), h.2.2⟩
/-- what is only made above the start's blocks -/
theorem src_trans {a b c : World} {D g : Nat} (h : a.grownBy b (some g)) (k : Below D b c) (hD : a.heap.size ≤ D) : a.grownBy c (some g) :=
  ⟨k.os.trans h.os, k.tape.trans h.tape, k.output.trans h.output, Nat.le_trans h.size k.size, fun j hj hne => (k.block j (by omega)).trans (h.block j hj hne)⟩
theorem src_keep {b c : World} {B D g : Nat} (h : Src b B g) (k : Below D b c) (hg : g < D) : Src c B g := by
  obtain ⟨h0, A, zs, cc, kk, h1, h2, h3, h4, h5, h6, h7, h8⟩ := h
  exact ⟨h0, A, zs, cc, kk, h1, (k.block g hg).trans h2, h3, h4, h5, h6, h7.below k (by omega), h8⟩
theorem src_of {a b : World} {r : Option Nat} (h : Below a.heap.size a b) : a.grownBy b r := ⟨h.os, h.tape, h.output, h.size, fun j hj _ => h.block j hj⟩

set_option maxRecDepth 100000 in
set_option maxHeartbeats 8000000 in
theorem l01DrawOf (n : Nat) (w : World) (B g : Nat) (hn1 : 1 ≤ n) (hn : n ≤ 24) (hS : Hid (Src w B g)) :
    Calls Try.prog 205 #[.pointer (some ⟨g, 0, none⟩), .int .i64 (n : Int)] w fun e w' => ∃ A' c' ds, e = .returned (.agg #[.slice A' n c']) ∧ Hid (ds.length = n) ∧ Hid (M.isTree ds = true) ∧ Hid (Own64 w' w.heap.size (.slice A' n c') ds) ∧ Hid (Src w' B g) ∧ Hid (w.grownBy w' (some g)) := by
  have hgl := hS.out.lt
  -- the worlds of the start
  obtain ⟨W3, hW3⟩ : ∃ W3, W3 = ((w.alloc (.cells #[.slice none 0 0] 26)).alloc (.cells #[.int .i64 0] 2)).alloc (.cells #[.int .i64 0] 2) := ⟨_, rfl⟩
  have hz3 : W3.heap.size = w.heap.size + 1 + 1 + 1 := by rw [hW3]; simp
  have hb3 : Below w.heap.size w W3 := by rw [hW3]; exact bal (bal (bal (b0 w) _) _) _
  have hS3 := Lib.hid ((hS.out.be hb3).be (bal (b0 W3) (.cells #[.int .i64 1, .int .i64 2, .int .i64 4, .int .i64 30] 2)))
  have hO := Lib.hid (off_new W3 g (by omega) [1, 2, 4, 30])
  simp only [List.map_cons, List.map_nil] at hO
  have hT : Two W3 (w.heap.size + 1) (.slice (some ⟨w.heap.size + 1, 0, none⟩) 1 1) (.slice (some ⟨w.heap.size + 1 + 1, 0, none⟩) 1 1) [0] [0] := by
    rw [hW3]
    have e1 : (w.alloc (.cells #[.slice none 0 0] 26)).heap.size = w.heap.size + 1 := by simp
    have e2 : ((w.alloc (.cells #[.slice none 0 0] 26)).alloc (.cells #[.int .i64 0] 2)).heap.size = w.heap.size + 1 + 1 := by simp
    have h1 := own64_lit1 (w := w.alloc (.cells #[.slice none 0 0] 26)) (B := w.heap.size + 1) 0 (by omega)
    have h2 := own64_lit1 (w := (w.alloc (.cells #[.slice none 0 0] 26)).alloc (.cells #[.int .i64 0] 2)) (B := w.heap.size + 1) 0 (by omega)
    rw [e1] at h1
    rw [e2] at h2
    exact ⟨h1.alloc _, h2, fun b hb => by simp [Value.ownBlock] at hb ⊢; omega⟩
  have hres0 : W3.heap[w.heap.size]? = some (.cells #[.slice none 0 0] 26 (0, 0)) := by
    rw [hW3]
    exact (Below.heap_alloc _ _ _ (by simp; omega)).trans ((Below.heap_alloc _ _ _ (by simp)).trans (heap_alloc_new w _))
  go_enter Try.func205, Try.ntmps205
  go_wp2_with fail
  rw [← hW3]
  rw [hz3] at hO
  refine (l01Pick (some ⟨w.heap.size + 1 + 1 + 1, 0, none⟩) [1, 2, 4, 30] 4 4 _ B g rfl (by omega) (by omega) hO hS3).mono ?_
  rintro e w1 ⟨dp, rfl, hdp, hS1, hg1⟩
  have hdpr : 1 ≤ dp ∧ dp ≤ 30 := by
    have := hdp.out
    simp only [List.mem_cons, List.not_mem_nil, or_false] at this
    omega
  have hb4 : Hid (Below w.heap.size w (W3.alloc (.cells #[.int .i64 1, .int .i64 2, .int .i64 4, .int .i64 30] 2))) := bal hb3 _
  have hT1 := Lib.hid (two_src (two_beS hT (bal (b0 W3) (.cells #[.int .i64 1, .int .i64 2, .int .i64 4, .int .i64 30] 2))) hg1.out (show g < w.heap.size + 1 by omega))
  have hg01 : Hid (w.grownBy w1 (some g)) := src_tr (src_of hb4.out) hg1.out
  have hres1 : Hid (w1.heap[w.heap.size]? = some (.cells #[.slice none 0 0] 26 (0, 0))) :=
    (hg1.out.block w.heap.size (by simp; omega) (fun e => by injection e; omega)).trans ((Below.heap_alloc _ _ _ (Array.getElem?_eq_some_iff.1 hres0).1).trans hres0)
  clear hT hres0 hb3 hS3 hO hg1 hb4 hdp
  go_wp2
  go_loopw [5, 6, 8] (fun q1 q2 vi wr => ∃ (v n2 c1 c2 : Nat) (A1 A2 : Option Addr) (ds ws : List Int), 1 ≤ v ∧ v ≤ n ∧ vi = .int .i64 (v : Int) ∧ q1 = .slice A1 v c1 ∧ q2 = .slice A2 n2 c2 ∧ (1 ≤ n2 ∧ n2 ≤ v) ∧
      Hid (Two wr (w.heap.size + 1) (.slice A1 v c1) (.slice A2 n2 c2) ds ws) ∧ Hid (ds.length = v ∧ M.isTree ds = true) ∧ Hid (∀ x ∈ ws, 0 ≤ x ∧ x < (v : Int)) ∧ Hid (Src wr B g) ∧ Hid (w.grownBy wr (some g)) ∧
      Hid (wr.heap[w.heap.size]? = some (.cells #[.slice none 0 0] 26 (0, 0)))) (fun _ _ vi _ => n - (intOf vi).toNat)
  case atStart => exact ⟨1, 1, 1, 1, _, _, [0], [0], by omega, hn1, rfl, rfl, rfl, by omega, hT1, ⟨rfl, rfl⟩, fun x hx => by simp at hx; omega, hS1, hg01, hres1⟩
  case round =>
    clear hT1 hS1 hg01 hres1
    obtain ⟨v, n2, c1, c2, A1, A2, ds, ws, hv1, hvn, rfl, rfl, rfl, hn2, hT1, hds, hws, hSr, hgr, hres⟩ := hrel
    by_cases hlt : v < n
    · have hlt' : (v : Int) < (n : Int) := by omega
      have hwn : IntKind.i64.wrap ((n2 : Int) - 1) = ((n2 - 1 : Nat) : Int) := by rw [IntWalk.i64_in _ (by omega)]; omega
      rename World => V
      go_wp2
      go_loopw [9] (fun ai wr => ∃ a : Nat, a < n2 ∧ ai = .int .i64 (a : Int) ∧ Hid (Src wr B g) ∧ Hid (V.grownBy wr (some g))) (fun ai _ => (intOf ai).toNat)
      case atStart => exact ⟨n2 - 1, by omega, rfl, hSr, World.grownBy.refl _ _⟩
      case round =>
        clear hSr
        obtain ⟨a, ha, rfl, hS2, hV⟩ := hrel
        rename World => V2
        by_cases ha0 : 0 < a
        · have ha0' : (0 : Int) < (a : Int) := by omega
          have hwa1 : IntKind.i64.wrap ((a : Int) - 1) = ((a - 1 : Nat) : Int) := by rw [IntWalk.i64_in _ (by omega)]; omega
          go_wp2_with fail
          refine (l01Next dp V2 B g (by omega) hS2).mono ?_
          rintro e V3 ⟨r, rfl, ⟨hr0, hr1⟩, hS3, hV3⟩
          replace hV := Lib.hid (src_tr hV.out hV3.out)
          replace hS2 := hS3
          clear hS3 hV3
          by_cases hr : r = 0
          · subst hr
            go_wp2
            go_roundw
            case rel => exact ⟨a - 1, by omega, rfl, hS2, hV⟩
            case measure => simp [intOf]; omega
          · have hrb : (r == 0) = false := by simp [hr]
            rename World => V2
            have hV2 := hV.out
            have hT2 := Lib.hid (two_src hT1.out hV2 (show g < w.heap.size + 1 by omega))
            have hg2 : Hid (w.grownBy V2 (some g)) := src_tr hgr.out hV2
            have hres2 : Hid (V2.heap[w.heap.size]? = some (.cells #[.slice none 0 0] 26 (0, 0))) := (hV2.block w.heap.size (by have := hgr.out.size; have := (Array.getElem?_eq_some_iff.1 hres.out).1; omega) (fun e => by injection e; omega)).trans hres.out
            have hx := List.getElem?_eq_getElem (l := ws) (show a < ws.length by rw [← own64_len hT2.out.2.1]; exact ha)
            have hxr := hws.out _ (List.mem_of_getElem? hx)
            generalize ws[a]'_ = x at hx hxr
            obtain ⟨p, rfl⟩ := Int.eq_ofNat_of_zero_le hxr.1
            have hpv : p < v := by omega
            have hdl := hds.out.1
            have hd := List.getElem?_eq_getElem (l := ds) (show p < ds.length by omega)
            generalize ds[p]'_ = d0 at hd
            have hdg := M.tree_degl hds.out.2 hd
            have hinc := Lib.hid (M.tree_inc hds.out.2 (by omega) hd)
            obtain ⟨g1, rfl⟩ := hT2.out.shape.2 (by omega)
            obtain ⟨g2, rfl⟩ := hT2.out.symm.shape.2 (by omega)
            have hwl : ws.length = n2 := (own64_len hT2.out.2.1).symm
            have c2' := (own64_cell hT2.out.2.1 hwl hx).1
            obtain ⟨c1', f1', hg1lo, hg1hi⟩ := own64_cell hT2.out.1 hdl hd
            have hcap2 := hT2.out.symm.cap
            have hcap2' : (a : Int) + 1 ≤ (c2 : Int) := by omega
            have hset := Lib.hid (hT2.out.set hdl p (d0 + 1))
            have hapart : g1 ≠ g2 := fun e => hT2.out.2.2 g1 rfl (by rw [e]; rfl)
            have hbs : Hid (Below (w.heap.size + 1) V2 (V2.setCell ⟨g1, p, none⟩ (.int .i64 (d0 + 1)))) := below_setCell (Below.refl _ _) hg1lo _
            have hwd : IntKind.i64.wrap (d0 + 1) = d0 + 1 := IntWalk.i64_in _ (by omega)
            have hwa : IntKind.i64.wrap ((a : Int) + 1) = ((a + 1 : Nat) : Int) := by rw [IntWalk.i64_in _ (by omega)]; omega
            have hwv : IntKind.i64.wrap ((v : Int) + 1) = ((v + 1 : Nat) : Int) := by rw [IntWalk.i64_in _ (by omega)]; omega
            have hV2s : Hid (w.heap.size + 1 ≤ (V2.setCell ⟨g1, p, none⟩ (.int .i64 (d0 + 1))).heap.size) := by show _ ≤ _; have := hset.out.1.lt g1 rfl; omega
            have hIt := Lib.hid (ints_take9 (a + 1) (ints_of_own64 hset.out.2.1))
            have hOwn := fun (W : World) (hW : W = V2.setCell ⟨g1, p, none⟩ (.int .i64 (d0 + 1))) => l01Own (some ⟨g2, 0, none⟩) (ws.take (a + 1)) (a + 1) c2 W (Lib.hid (by rw [List.length_take]; omega)) (by omega) (Lib.hid (fun e => by cases e)) (Lib.hid (hW ▸ hIt.out))
            have HOwn := Lib.hid hOwn
            have Hws := Lib.hid (show ∀ x ∈ ws.take (a + 1) ++ [(v : Int)], 0 ≤ x ∧ x < ((v + 1 : Nat) : Int) from fun x hx => by
              rcases List.mem_append.1 hx with h | h
              · have := hws.out x (List.mem_of_mem_take h); omega
              · simp at h; omega)
            have hvl : v ≤ 1000000 := by omega
            have hal : a + 1 ≤ 1000000 := by omega
            have hds' := Lib.hid (show (ds.set p (d0 + 1) ++ [(0 : Int)]).length = v + 1 by simp; omega)
            clear hOwn hws hds hx hd hT1 hwl hIt hV2
            go_wp2_with (first | (go_at_call 207; refine (HOwn.out _ rfl).mono ?_; rintro e w3 ⟨A3, c3, rfl, ho3, hb3⟩; have hB3 : w.heap.size + 1 ≤ w3.heap.size := Nat.le_trans hV2s.out hb3.size; have hT3 : Hid (Two w3 (w.heap.size + 1) (.slice A3 (a + 1) c3) (.slice (some ⟨g1, 0, none⟩) v c1) (ws.take (a + 1)) (ds.set p (d0 + 1))) := Lib.hid ⟨own_mono ho3 hV2s.out, own_below hset.out.1 hb3 (Nat.le_refl _), fun b hb hb2 => by have h1 := (ho3.lt b hb).1; have h2 := (hset.out.1.lt b hb2).2; omega⟩; have Hb3 := Lib.hid hb3; clear ho3 hb3) | (at_builtin; refine pushTwo rfl (.tmp 46) (.tmp 48) rfl w3 (w.heap.size + 1) A3 (a + 1) c3 (.slice (some ⟨g1, 0, none⟩) v c1) (ws.take (a + 1)) (ds.set p (d0 + 1)) (v : Int) rfl _ rfl rfl hT3 hB3 hal ?_; intro A4 c4 w4 ht4 hb4; have hT4 := Lib.hid ht4.out.symm; have hB4 := Nat.le_trans hB3 hb4.out.size) | (at_builtin; refine pushTwo rfl (.tmp 50) (.tmp 51) rfl w4 (w.heap.size + 1) (some ⟨g1, 0, none⟩) v c1 (.slice A4 (a + 1 + 1) c4) (ds.set p (d0 + 1)) (ws.take (a + 1) ++ [(v : Int)]) 0 rfl _ rfl rfl hT4 hB4 hvl ?_; intro A5 c5 w5 ht5 hb5))
            have hbb := (hbs.out.trans (Hb3.out.mono hV2s.out)).trans (hb4.out.trans hb5.out)
            have hgf := Lib.hid (src_trans hg2.out hbb (by omega))
            have hSf := Lib.hid (src_keep hS2.out hbb (by omega))
            have hrf := Lib.hid ((hbb.block w.heap.size (by omega)).trans hres2.out)
            go_roundw
            case rel => exact ⟨v + 1, a + 1 + 1, c5, c4, A5, A4, _, _, by omega, by omega, by go_num, rfl, rfl, ⟨by omega, by omega⟩, ht5, ⟨hds'.out, hinc.out⟩, Hws, hSf, hgf, hrf⟩
            case measure => simp [intOf]; omega
        · have hna : ¬ (0 : Int) < (a : Int) := by omega
          have hV2 := hV.out
          have hT2 := Lib.hid (two_src hT1.out hV2 (show g < w.heap.size + 1 by omega))
          have hg2 : Hid (w.grownBy V2 (some g)) := src_tr hgr.out hV2
          have hres2 : Hid (V2.heap[w.heap.size]? = some (.cells #[.slice none 0 0] 26 (0, 0))) := (hV2.block w.heap.size (by have := hgr.out.size; have := (Array.getElem?_eq_some_iff.1 hres.out).1; omega) (fun e => by injection e; omega)).trans hres.out
          have hx := List.getElem?_eq_getElem (l := ws) (show a < ws.length by rw [← own64_len hT2.out.2.1]; exact ha)
          have hxr := hws.out _ (List.mem_of_getElem? hx)
          generalize ws[a]'_ = x at hx hxr
          obtain ⟨p, rfl⟩ := Int.eq_ofNat_of_zero_le hxr.1
          have hpv : p < v := by omega
          have hdl := hds.out.1
          have hd := List.getElem?_eq_getElem (l := ds) (show p < ds.length by omega)
          generalize ds[p]'_ = d0 at hd
          have hdg := M.tree_degl hds.out.2 hd
          have hinc := Lib.hid (M.tree_inc hds.out.2 (by omega) hd)
          obtain ⟨g1, rfl⟩ := hT2.out.shape.2 (by omega)
          obtain ⟨g2, rfl⟩ := hT2.out.symm.shape.2 (by omega)
          have hwl : ws.length = n2 := (own64_len hT2.out.2.1).symm
          have c2' := (own64_cell hT2.out.2.1 hwl hx).1
          obtain ⟨c1', f1', hg1lo, hg1hi⟩ := own64_cell hT2.out.1 hdl hd
          have hcap2 := hT2.out.symm.cap
          have hcap2' : (a : Int) + 1 ≤ (c2 : Int) := by omega
          have hset := Lib.hid (hT2.out.set hdl p (d0 + 1))
          have hapart : g1 ≠ g2 := fun e => hT2.out.2.2 g1 rfl (by rw [e]; rfl)
          have hbs : Hid (Below (w.heap.size + 1) V2 (V2.setCell ⟨g1, p, none⟩ (.int .i64 (d0 + 1)))) := below_setCell (Below.refl _ _) hg1lo _
          have hwd : IntKind.i64.wrap (d0 + 1) = d0 + 1 := IntWalk.i64_in _ (by omega)
          have hwa : IntKind.i64.wrap ((a : Int) + 1) = ((a + 1 : Nat) : Int) := by rw [IntWalk.i64_in _ (by omega)]; omega
          have hwv : IntKind.i64.wrap ((v : Int) + 1) = ((v + 1 : Nat) : Int) := by rw [IntWalk.i64_in _ (by omega)]; omega
          have hV2s : Hid (w.heap.size + 1 ≤ (V2.setCell ⟨g1, p, none⟩ (.int .i64 (d0 + 1))).heap.size) := by show _ ≤ _; have := hset.out.1.lt g1 rfl; omega
          have hIt := Lib.hid (ints_take9 (a + 1) (ints_of_own64 hset.out.2.1))
          have hOwn := fun (W : World) (hW : W = V2.setCell ⟨g1, p, none⟩ (.int .i64 (d0 + 1))) => l01Own (some ⟨g2, 0, none⟩) (ws.take (a + 1)) (a + 1) c2 W (Lib.hid (by rw [List.length_take]; omega)) (by omega) (Lib.hid (fun e => by cases e)) (Lib.hid (hW ▸ hIt.out))
          have HOwn := Lib.hid hOwn
          have Hws := Lib.hid (show ∀ x ∈ ws.take (a + 1) ++ [(v : Int)], 0 ≤ x ∧ x < ((v + 1 : Nat) : Int) from fun x hx => by
            rcases List.mem_append.1 hx with h | h
            · have := hws.out x (List.mem_of_mem_take h); omega
            · simp at h; omega)
          have hvl : v ≤ 1000000 := by omega
          have hal : a + 1 ≤ 1000000 := by omega
          have hds' := Lib.hid (show (ds.set p (d0 + 1) ++ [(0 : Int)]).length = v + 1 by simp; omega)
          clear hOwn hws hds hx hd hT1 hwl hIt hV2
          go_wp2_with (first | (go_at_call 207; refine (HOwn.out _ rfl).mono ?_; rintro e w3 ⟨A3, c3, rfl, ho3, hb3⟩; have hB3 : w.heap.size + 1 ≤ w3.heap.size := Nat.le_trans hV2s.out hb3.size; have hT3 : Hid (Two w3 (w.heap.size + 1) (.slice A3 (a + 1) c3) (.slice (some ⟨g1, 0, none⟩) v c1) (ws.take (a + 1)) (ds.set p (d0 + 1))) := Lib.hid ⟨own_mono ho3 hV2s.out, own_below hset.out.1 hb3 (Nat.le_refl _), fun b hb hb2 => by have h1 := (ho3.lt b hb).1; have h2 := (hset.out.1.lt b hb2).2; omega⟩; have Hb3 := Lib.hid hb3; clear ho3 hb3) | (at_builtin; refine pushTwo rfl (.tmp 46) (.tmp 48) rfl w3 (w.heap.size + 1) A3 (a + 1) c3 (.slice (some ⟨g1, 0, none⟩) v c1) (ws.take (a + 1)) (ds.set p (d0 + 1)) (v : Int) rfl _ rfl rfl hT3 hB3 hal ?_; intro A4 c4 w4 ht4 hb4; have hT4 := Lib.hid ht4.out.symm; have hB4 := Nat.le_trans hB3 hb4.out.size) | (at_builtin; refine pushTwo rfl (.tmp 50) (.tmp 51) rfl w4 (w.heap.size + 1) (some ⟨g1, 0, none⟩) v c1 (.slice A4 (a + 1 + 1) c4) (ds.set p (d0 + 1)) (ws.take (a + 1) ++ [(v : Int)]) 0 rfl _ rfl rfl hT4 hB4 hvl ?_; intro A5 c5 w5 ht5 hb5))
          have hbb := (hbs.out.trans (Hb3.out.mono hV2s.out)).trans (hb4.out.trans hb5.out)
          have hgf := Lib.hid (src_trans hg2.out hbb (by omega))
          have hSf := Lib.hid (src_keep hS2.out hbb (by omega))
          have hrf := Lib.hid ((hbb.block w.heap.size (by omega)).trans hres2.out)
          go_roundw
          case rel => exact ⟨v + 1, a + 1 + 1, c5, c4, A5, A4, _, _, by omega, by omega, by go_num, rfl, rfl, ⟨by omega, by omega⟩, ht5, ⟨hds'.out, hinc.out⟩, Hws, hSf, hgf, hrf⟩
          case measure => simp [intOf]; omega
    · obtain rfl : v = n := by omega
      have hge : ¬ (v : Int) < (v : Int) := by omega
      have hrc := cell_of_one hres.out
      have hrf := free_of_one hres.out
      rename World => V
      go_wp2
      refine bodyPost_ret (v := .agg #[.slice A1 v c1]) (by simp [results, Try.results205, go_sem, hrc]) rfl ?_
      exact ⟨A1, c1, rfl, ds, hds.out.1, hds.out.2, own_mono (own_far hT1.out.1 (by omega) _) (by omega), hSr.out.kept (src_grown V w.heap.size 0 _) (fun k e => by injection e with e; have := hS.out.1; omega), src_trans hgr.out (below_setCell (Below.refl w.heap.size V) (Nat.le_refl _) _) (Nat.le_refl _)⟩
end Go.Proofs.Ytdgcjkgbglofbaa
