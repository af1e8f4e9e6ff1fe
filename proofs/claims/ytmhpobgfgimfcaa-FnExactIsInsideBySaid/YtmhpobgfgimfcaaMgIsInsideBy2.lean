/- IsInsideBy, the program's: is a tree inside another one by a list of nodes. -/
import Derived.Test.YtmhpobgfgimfcaaMgIsInsideBy1
import Derived.ProofKit
import Derived.SizedLaws
import Derived.Lib.SmallJoins
import Derived.Deep.Slices
import Derived.Deep.Fields
namespace Go.Proofs.Ytmhpobgfgimfcaa
open Go.RowKit

/-- is xs inside us by vs -/
def inB (us vs xs : List Int) : Bool := ((List.range xs.length).all fun i => i == 0 || M.pa us (nodeF vs) i != -1) && (M.degs us (nodeF vs) xs.length == xs)
theorem inB_iff {us vs xs ps : List Int} (ht : M.isTree xs = true) (hp : M.ParsOK xs ps) (hl : vs.length = xs.length) {n : Int} (hg : M.goodTo vs n vs.length = true) :
    (∀ i, i < xs.length → M.pa us (nodeF vs) i = ps[i]?.getD 0) ↔ inB us vs xs = true := by
  rw [M.inside_iff ht hp (fun i j h1 h2 => node_asc hg i j h1 (by omega)), inB, Bool.and_eq_true, List.all_eq_true, beq_iff_eq]
  constructor
  · rintro ⟨h1, h2⟩
    refine ⟨fun i hi => ?_, h2⟩
    rcases Nat.eq_zero_or_pos i with h0 | h0
    · rw [h0]; rfl
    · have := h1 i h0 (List.mem_range.1 hi)
      simp [this]
  · rintro ⟨h1, h2⟩
    refine ⟨fun i h0 hi => ?_, h2⟩
    have := h1 i (List.mem_range.2 hi)
    simp only [Bool.or_eq_true, beq_iff_eq, bne_iff_ne] at this
    rcases this with h | h
    · omega
    · exact h
theorem pl_congr {u : List Int} {f g : Nat → Nat} {x : Nat} : ∀ k, (∀ j, j < k → f j = g j) → M.pl u f x k = M.pl u g x k := by
  intro k
  induction k with
  | zero => intro _; rfl
  | succ k ih => intro h; rw [M.pl, M.pl, h k (by omega), ih (fun j hj => h j (by omega))]
theorem nodeF_take {vs : List Int} {k j : Nat} (h : j < k) : nodeF (vs.take k) j = nodeF vs j := by rw [nodeF, nodeF, List.getElem?_take, if_pos h]
theorem pa_take {u vs : List Int} {k : Nat} : M.pl u (nodeF (vs.take k)) (nodeF vs k) k = M.pa u (nodeF vs) k := pl_congr k fun _ hj => nodeF_take hj
def F_IsInsideBy (xs us vs : List Int) : Bool × Int :=
  if M.isTree xs = true ∧ M.isTree us = true then (if vs.length = xs.length ∧ M.goodTo vs us.length vs.length = true then (inB us vs xs, 0) else (false, 2)) else (false, 1)
theorem F_In_no1 {xs us vs : List Int} (h : M.isTree xs = false) : F_IsInsideBy xs us vs = (false, 1) := if_neg (by rw [h]; simp)
theorem F_In_no2 {xs us vs : List Int} (h : M.isTree us = false) : F_IsInsideBy xs us vs = (false, 1) := if_neg (by rw [h]; simp)
theorem F_In_range {xs us vs : List Int} (h : M.isTree xs = true) (h1 : M.isTree us = true) (h2 : ¬ (vs.length = xs.length ∧ M.goodTo vs us.length vs.length = true)) : F_IsInsideBy xs us vs = (false, 2) := by rw [F_IsInsideBy, if_pos ⟨h, h1⟩, if_neg h2]
theorem F_In_yes {xs us vs : List Int} (h : M.isTree xs = true) (h1 : M.isTree us = true) (h2 : vs.length = xs.length) (h3 : M.goodTo vs us.length vs.length = true) : F_IsInsideBy xs us vs = (inB us vs xs, 0) := by rw [F_IsInsideBy, if_pos ⟨h, h1⟩, if_pos ⟨h2, h3⟩]
theorem ints_first {w : World} {B : Nat} {A : Option Addr} {xs : List Int} (h : Ints w B A xs) (k : Nat) : Ints w B A (xs.take k) := fun hz => by
  obtain ⟨b, off, rfl, hb, hc⟩ := h (by rw [List.length_take] at hz; omega)
  exact ⟨b, off, rfl, hb, fun j x hx => hc j x (by rw [List.getElem?_take] at hx; split at hx; exact hx; cases hx)⟩
/-- two trees and a list to a bool and a code -/
def GivesTTL (f : Nat) (F : List Int → List Int → List Int → Bool × Int) : Prop :=
  ∀ (A B C : Option Addr) (xs us vs : List Int) (c d n e : Nat) (w : World), xs.length ≤ 1048576 → us.length ≤ 1048576 → n ≤ 1048576 → xs.length ≤ c ∧ c ≤ 1000000000000 → us.length ≤ d ∧ d ≤ 1000000000000 → n ≤ e ∧ e ≤ 1000000000000 → Hid (vs.length = n) → Hid (Ints w w.heap.size A xs) → Hid (Ints w w.heap.size B us) → Hid (Ints w w.heap.size C vs) →
    Calls Try.prog f #[.agg #[.slice A xs.length c], .agg #[.slice B us.length d], .slice C n e] w fun en w' => en = .returned (.tuple #[.bool (F xs us vs).1, .int .i64 (F xs us vs).2]) ∧ Below w.heap.size w w'

set_option maxHeartbeats 4000000 in
set_option maxRecDepth 100000 in
theorem impl_IsInsideBy : GivesTTL 49 F_IsInsideBy := by
  intro A B C xs us vs c d n e w hx hu hn' hcc hdd hee hn hA hB hC
  have cT0 : Hid (((w.alloc (.cells #[.slice A xs.length c] 29)).alloc (.cells #[.slice B us.length d] 29)).cell? ⟨w.heap.size, 0, none⟩ = some (.slice A xs.length c)) := cell_al (by simp) _
  have cU0 : Hid (((w.alloc (.cells #[.slice A xs.length c] 29)).alloc (.cells #[.slice B us.length d] 29)).cell? ⟨w.heap.size + 1, 0, none⟩ = some (.slice B us.length d)) := by simp [Hid, go_sem]
  have hB0 := Lib.hid (bal (bal (b0 w) (.cells #[.slice A xs.length c] 29)) (.cells #[.slice B us.length d] 29))
  have hI1 := Lib.hid (fun W (hb : Below w.heap.size w W) => implIsTree A xs c W (by omega) (hA.out.be hb))
  have hI2 := Lib.hid (fun W (hb : Below w.heap.size w W) => implIsTree B us d W (by omega) (hB.out.be hb))
  cases ht : M.isTree xs
  · rw [F_In_no1 ht]
    rw [ht] at hI1
    clear ht hA hB hC
    go_enter Try.func49, Try.ntmps49
    go_wp2_with fail
    refine (hI1.out _ hB0.out).mono ?_
    rintro en w1 ⟨rfl, hb1⟩
    have hB1 := Lib.hid (btr hB0.out hb1)
    go_wp2
    go_ret2
    exact ⟨rfl, hB1.out⟩
  · rw [ht] at hI1
    cases hu' : M.isTree us
    · rw [F_In_no2 hu']
      rw [hu'] at hI2
      clear ht hu' hA hB hC
      go_enter Try.func49, Try.ntmps49
      go_wp2_with fail
      refine (hI1.out _ hB0.out).mono ?_
      rintro en w1 ⟨rfl, hb1⟩
      have hB1 := Lib.hid (btr hB0.out hb1)
      have cU1 := cell_be cU0.out hb1
      clear hb1
      go_wp2_with fail
      refine (hI2.out _ hB1.out).mono ?_
      rintro en w2 ⟨rfl, hb2⟩
      have hB2 := Lib.hid (btr hB1.out hb2)
      go_wp2
      go_ret2
      exact ⟨rfl, hB2.out⟩
    · rw [hu'] at hI2
      have hx24 := (M.tree_len ht).2
      have hu24 := (M.tree_len hu').2
      by_cases hl : vs.length = xs.length
      · have hAs := Lib.hid (fun W (hb : Below w.heap.size w W) => isAscendingBelow C vs n e us.length W hn hn' hu (Lib.hid (hC.out.be hb)))
        have hnn : Hid (n = xs.length) := by show _ = _; rw [← hn.out]; exact hl
        have hne : ((n : Int) != (xs.length : Int)) = false := by rw [hnn.out]; simp
        cases hg : M.goodTo vs us.length n
        · rw [F_In_range ht hu' (fun h => by rw [hn.out] at h; rw [hg] at h; cases h.2)]
          rw [hg] at hAs
          clear ht hu' hA hB hC hg
          go_enter Try.func49, Try.ntmps49
          go_wp2_with fail
          refine (hI1.out _ hB0.out).mono ?_
          rintro en w1 ⟨rfl, hb1⟩
          have hB1 := Lib.hid (btr hB0.out hb1)
          have cU1 := cell_be cU0.out hb1
          have cT1 := cell_be cT0.out hb1
          clear hb1
          go_wp2_with fail
          refine (hI2.out _ hB1.out).mono ?_
          rintro en w2 ⟨rfl, hb2⟩
          have hB2 := Lib.hid (btr hB1.out hb2)
          have cU2 := cell_be cU1 hb2
          have cT2 := cell_be cT1 hb2
          clear hb2 cU1 cT1
          go_wp2_with fail
          refine (hAs.out _ hB2.out).mono ?_
          rintro en w' ⟨rfl, rfl⟩
          go_wp2
          go_ret2
          exact ⟨rfl, hB2.out⟩
        · have hg' : M.goodTo vs us.length vs.length = true := by rw [hn.out]; exact hg
          rw [F_In_yes ht hu' hl hg']
          rw [hg] at hAs
          have hrng := M.goodTo_range hg'
          have hPar := Lib.hid (fun W (hb : Below w.heap.size w W) => (callsIn_wide (n := 5)).1 (parentsIn_in A xs c W hcc.1 hcc.2 (Lib.hid ht) (hA.out.be hb)))
          have hYes : Hid (∀ ps, M.ParsOK xs ps → ((∀ i, i < n → M.pa us (nodeF vs) i = ps[i]?.getD 0) ↔ inB us vs xs = true)) := fun ps hp => by rw [hnn.out]; exact inB_iff ht hp hl hg'
          have Hu := Lib.hid hu'
          have Hrng := Lib.hid hrng
          have hn24 : n ≤ 24 := by have := hnn.out; omega
          have Hxn := Lib.hid hnn.out.symm
          generalize inB us vs xs = R at *
          clear ht hu' hA hg hg' hrng hnn hl
          go_enter Try.func49, Try.ntmps49
          go_wp2_with fail
          refine (hI1.out _ hB0.out).mono ?_
          rintro en w1 ⟨rfl, hb1⟩
          have hB1 := Lib.hid (btr hB0.out hb1)
          have cU1 := cell_be cU0.out hb1
          have cT1 := cell_be cT0.out hb1
          clear hb1
          go_wp2_with fail
          refine (hI2.out _ hB1.out).mono ?_
          rintro en w2 ⟨rfl, hb2⟩
          have hB2 := Lib.hid (btr hB1.out hb2)
          have cU2 := cell_be cU1 hb2
          have cT2 := cell_be cT1 hb2
          clear hb2 cU1 cT1
          go_wp2_with fail
          refine (hAs.out _ hB2.out).mono ?_
          rintro en w' ⟨rfl, rfl⟩
          go_wp2_with fail
          refine (hPar.out _ hB2.out).mono ?_
          rintro en w3 ⟨Ap, cp, ps, rfl, hps, hop, hb3⟩
          have hB3 := Lib.hid (btr hB2.out hb3)
          have cU3 := Lib.hid (cell_be cU2 hb3)
          have hIp := Lib.hid (ints_of_own64 hop)
          have hIu := Lib.hid (hB.out.be hB3.out)
          have hIv := Lib.hid (hC.out.be hB3.out)
          have hpl : Hid (ps.length = xs.length) := hps.out.1
          have hY := Lib.hid (hYes.out ps hps.out)
          have hst : Hid (∀ i, i < 0 → M.pa us (nodeF vs) i = ps[i]?.getD 0) := fun i h => by omega
          clear hb3 hop cU2 cT2 hPar hAs hI1 hI2 hB hC hB0 hB1 cT0 cU0 hYes hps
          go_wp2
          go_loopw [38] (fun qi wr => ∃ (k m : Nat), k ≤ n ∧ qi = .int .i64 (k : Int) ∧ wr = w3.drewN m ∧ Hid (∀ i, i < k → M.pa us (nodeF vs) i = ps[i]?.getD 0)) (fun qi _ => n - (intOf qi).toNat)
          case atStart => exact ⟨0, 0, Nat.zero_le _, rfl, rfl, hst⟩
          case round =>
            obtain ⟨k, m, hk, rfl, rfl, hall⟩ := hrel
            clear hst
            by_cases hlt : k < n
            · have hki : (k : Int) < (n : Int) := by omega
              have hk0 : (0 : Int) ≤ (k : Int) := by omega
              have hkz : k < vs.length := by rw [hn.out]; exact hlt
              have hat : vs[k]? = some vs[k] := List.getElem?_eq_getElem hkz
              have hxr := Hrng.out _ (List.mem_of_getElem? hat)
              generalize vs[k] = x at hat hxr
              obtain ⟨b, off, rfl, hbl, hc⟩ := hIv.out (by omega)
              have hcell : (w3.drewN m).cell? ⟨b, off + k, none⟩ = some (.int .i64 x) := hc k x hat
              have hnode : x = (nodeF vs k : Int) := by rw [nodeF_at hat]; omega
              have htl : Hid ((vs.take k).length = k) := by show _ = _; rw [List.length_take]; omega
              have hCF : Hid (∀ q, Calls Try.prog 93 #[.slice Ap xs.length cp, .slice B us.length d, .slice (some ⟨b, off, none⟩) k e, .int .i64 ((nodeF vs k : Nat) : Int)] (w3.drewN (m + q)) fun en w' => en = .returned (.bool (M.pa us (nodeF vs) k == ps[k]?.getD 0)) ∧ ∃ n, w' = w3.drewN (m + n)) := fun q => by
                have := canFollow B (some ⟨b, off, none⟩) Ap us (vs.take k) ps d k e xs.length cp (nodeF vs k) (w3.drewN (m + q)) Hu hdd.1 hdd.2 htl (by omega) (Lib.hid fun y hy => Hrng.out y (List.mem_of_mem_take hy)) (Lib.hid hIu.out) (Lib.hid (ints_first hIv.out k)) hpl (Lib.hid hIp.out) (by have := Hxn.out; omega)
                rw [pa_take] at this
                exact this.mono fun en w' ⟨h1, r, h2⟩ => ⟨h1, q + r, by rw [h2, World.drewN_drewN, Nat.add_assoc]⟩
              have cU4 : w3.cell? ⟨w.heap.size + 1, 0, none⟩ = some (.slice B us.length d) := cU3.out
              have hke : (k : Int) ≤ (e : Int) := by omega
              have hken : k ≤ e := by omega
              have hR : Hid ((M.pa us (nodeF vs) k == ps[k]?.getD 0) = false → R = false) := fun h => by
                cases hr : R
                · rfl
                · rw [hr] at hY
                  rw [hY.out.2 rfl k hlt] at h
                  simp at h
              subst hnode
              cases hb : (M.pa us (nodeF vs) k == ps[k]?.getD 0)
              · have hR0 := hR.out hb
                rw [hb] at hCF
                clear hR hb hc hat hxr hY hall hIv hIu hIp hpl
                go_wp2_with fail
                go_quiet (first | (go_at_call 93; exact hCF.out _))
                go_wp2
                go_ret2
                subst hR0
                exact ⟨rfl, below_drewN (below_drewN hB3.out _) _⟩
              · rw [hb] at hCF
                have hall2 : Hid (∀ i, i < k + 1 → M.pa us (nodeF vs) i = ps[i]?.getD 0) := fun i hi => by
                  rcases Nat.lt_or_ge i k with h | h
                  · exact hall.out i h
                  · have : i = k := by omega
                    rw [this]; exact beq_iff_eq.1 hb
                clear hR hb hc hat hxr hY hall hIv hIu hIp hpl
                go_wp2_with fail
                go_quiet (first | (go_at_call 93; exact hCF.out _))
                go_wp2
                go_roundw
                case rel => exact ⟨k + 1, m + nq, by omega, by go_num, rfl, hall2⟩
                case measure => simp [intOf]; omega
            · obtain rfl : k = n := by omega
              have hR1 : R = true := hY.out.1 hall.out
              clear hY hall
              go_wp2
              go_ret2
              subst hR1
              exact ⟨rfl, below_drewN hB3.out _⟩
      · rw [F_In_range ht hu' (fun h => hl h.1)]
        have hne : ((n : Int) != (xs.length : Int)) = true := bne_iff_ne.2 (by rw [← hn.out]; omega)
        clear ht hu' hA hB hC hl
        go_enter Try.func49, Try.ntmps49
        go_wp2_with fail
        refine (hI1.out _ hB0.out).mono ?_
        rintro en w1 ⟨rfl, hb1⟩
        have hB1 := Lib.hid (btr hB0.out hb1)
        have cU1 := cell_be cU0.out hb1
        have cT1 := cell_be cT0.out hb1
        clear hb1
        go_wp2_with fail
        refine (hI2.out _ hB1.out).mono ?_
        rintro en w2 ⟨rfl, hb2⟩
        have hB2 := Lib.hid (btr hB1.out hb2)
        have cU2 := cell_be cU1 hb2
        have cT2 := cell_be cT1 hb2
        clear hb2 cU1 cT1
        go_wp2
        go_ret2
        exact ⟨rfl, hB2.out⟩
end Go.Proofs.Ytmhpobgfgimfcaa

/- ParseTree, the program's and the model's: the tree with a text, or a code. -/
namespace Go.Proofs.Ytmhpobgfgimfcaa
open Go.RowKit

/-- the bytes of a string, as numbers -/
def bytesOf (s : ByteArray) : List Int := s.data.toList.map fun b => (b.toNat : Int)
theorem bytesOf_length (s : ByteArray) : (bytesOf s).length = s.size := by simp [bytesOf]
theorem bytesOf_at (s : ByteArray) {k : Nat} (h : k < s.size) : (bytesOf s)[k]? = some (s[k].toNat : Int) := by
  have h' : k < s.data.toList.length := by simpa using h
  simp only [bytesOf, List.getElem?_map, List.getElem?_eq_getElem h']
  rfl

/-- what a function of a text that hands back a tree and a code must do -/
def GivesParse (f : Nat) : Prop :=
  ∀ (s : ByteArray) (w : World), s.size ≤ 1048576 →
    Calls Try.prog f #[.string s] w fun e w' => ∃ A' c', e = .returned (.tuple #[.agg #[.slice A' (M.parse (bytesOf s)).1.length c'], .int .i64 (M.parse (bytesOf s)).2]) ∧
      Own64 w' w.heap.size (.slice A' (M.parse (bytesOf s)).1.length c') (M.parse (bytesOf s)).1 ∧ Below w.heap.size w w'

theorem two_nil (w : World) (B : Nat) : Two w B (.slice none 0 0) (.slice none 0 0) [] [] := ⟨own64_nil _ _, own64_nil _ _, fun b h => by simp [Value.ownBlock] at h⟩

theorem parse_nil : M.parse (bytesOf ByteArray.empty) = ([], 6) := by simp [bytesOf, M.parse, M.prun]

set_option maxHeartbeats 8000000 in
set_option maxRecDepth 100000 in
theorem impl_ParseTree : GivesParse 72 := by
  intro s w hs
  have hB0 := Lib.hid (bal (b0 w) (.cells #[.slice none 0 0] 29))
  have hres : Hid ((w.alloc (.cells #[.slice none 0 0] 29)).heap[w.heap.size]? = some (.cells #[.slice none 0 0] 29 (0, 0))) := heap_alloc_new w _
  by_cases h0 : s.size = 0
  · obtain rfl : s = ByteArray.empty := by simpa using h0
    rw [parse_nil]
    clear h0
    go_enter Try.func72, Try.ntmps72
    go_wp2
    refine bodyPost_ret (v := .tuple #[.agg #[.slice none 0 0], .int .i64 6]) (by simp [results, Try.results72, go_sem]) rfl ?_
    exact ⟨none, 0, rfl, own64_nil _ _, hB0.out⟩
  · have hne : s.toList.isEmpty = false := by
      cases h : s.toList.isEmpty
      · rfl
      · refine absurd ?_ h0
        rw [ByteArray.toList_eq] at h
        have h' : s.data.toList = [] := by simpa using h
        have : s.data.toList.length = 0 := by rw [h']; rfl
        simpa using this
    have hbl := Lib.hid (bytesOf_length s)
    have hlong : Hid (48 < s.size → M.parse (bytesOf s) = ([], 6)) := fun e => M.parse_long (by rw [hbl.out]; exact e)
    have hfail : Hid (M.prun [] [] (bytesOf s) = none → M.parse (bytesOf s) = ([], 6)) := fun e => M.parse_fail e
    have hopen : Hid (∀ ds st, M.prun [] [] (bytesOf s) = some (ds, st) → 0 < st.length → M.parse (bytesOf s) = ([], 6)) := fun ds st e h => M.parse_open e h
    have hdone : Hid (∀ ds, s.size ≤ 48 → M.prun [] [] (bytesOf s) = some (ds, []) → ds ≠ [] → M.parse (bytesOf s) = (ds, 0)) := fun ds h e h' => M.parse_done (by rw [hbl.out]; exact h) e h'
    have hat : Hid (∀ k (h : k < s.size), (bytesOf s)[k]? = some ((s[k]'h).toNat : Int)) := fun k h => bytesOf_at s h
    have hprn : Hid (M.prun [] [] ((bytesOf s).drop 0) = M.prun [] [] (bytesOf s)) := by rfl
    generalize bytesOf s = L at *
    generalize hR : M.parse L = R at *
    generalize hP : M.prun [] [] L = P at *
    clear hR hP
    by_cases h48 : 48 < s.size
    · have hR := hlong.out h48
      subst hR
      have h48' : (48 : Int) < (s.size : Int) := by omega
      clear h0 hlong hfail hopen hdone hat hprn hbl
      go_enter Try.func72, Try.ntmps72
      go_wp2
      refine bodyPost_ret (v := .tuple #[.agg #[.slice none 0 0], .int .i64 6]) (by simp [results, Try.results72, go_sem]) rfl ?_
      exact ⟨none, 0, rfl, own64_nil _ _, hB0.out⟩
    · have h48' : ¬ (48 : Int) < (s.size : Int) := by omega
      have h49 : s.size ≤ 48 := by omega
      have hpos : 0 < s.size := by omega
      clear h0 hlong h48
      go_enter Try.func72, Try.ntmps72
      go_wp2
      go_loopw [4, 5, 6, 7, 18] (fun q1 q2 _ _ i wr => ∃ (k : Nat) (A1 : Option Addr) (n1 c1 : Nat) (A2 : Option Addr) (n2 c2 : Nat) (ds st : List Int), k ≤ s.size ∧ i = .int .i64 k ∧ q1 = .slice A1 n1 c1 ∧ q2 = .slice A2 n2 c2 ∧
          Hid (Two wr (w.heap.size + 1) (.slice A1 n1 c1) (.slice A2 n2 c2) ds st) ∧ Hid (M.prun ds st (L.drop k) = P) ∧ Hid (M.pgood k ds st) ∧ Hid (0 < k → ds ≠ []) ∧ Hid (Below (w.heap.size + 1) (w.alloc (.cells #[.slice none 0 0] 29)) wr)) (fun _ _ _ _ i _ => s.size - (intOf i).toNat)
      case atStart => exact ⟨0, none, 0, 0, none, 0, 0, [], [], Nat.zero_le _, rfl, rfl, rfl, two_nil _ _, hprn, M.pgood_nil, fun h => absurd h (by omega), Below.refl _ _⟩
      case round =>
        obtain ⟨k, A1, n1, c1, A2, n2, c2, ds, st, hk, rfl, rfl, rfl, ht, hg, hgood, hnz, hbr⟩ := hrel
        have hsh1 := ht.out.shape
        have hsh2 := ht.out.symm.shape
        have hn1 := hsh1.1
        have hn2 := hsh2.1
        have hp := hgood.out
        have hn1k : n1 ≤ 48 := by have := hp.1; omega
        have hn2k : n2 ≤ 48 := by have := hp.2.1; omega
        have hrr := (hbr.out.block w.heap.size (Nat.lt_succ_self _)).trans hres.out
        have hrc : wr.cell? ⟨w.heap.size, 0, none⟩ = some (.slice none 0 0) := cell_of_one hrr
        have hrf : wr.frozen? ⟨w.heap.size, 0, none⟩ = false := free_of_one hrr
        have hBw : Hid (Below w.heap.size w wr) := hB0.out.trans (hbr.out.mono (Nat.le_succ _))
        have hBsz := hbr.out.size
        simp only [World.size_alloc] at hBsz
        have Hn1 := Lib.hid hn1
        have Hn2 := Lib.hid hn2
        clear hrr hp hn1 hn2
        by_cases hlt : k < s.size
        · have hX := Lib.hid (hat.out k hlt)
          have hx0 : (0 : Int) ≤ (s[k].toNat : Int) := by omega
          by_cases hst : 0 < n2
          · -- a node is open
            obtain ⟨g2, rfl⟩ := hsh2.2 hst
            have hstl : 0 < st.length := by rw [← Hn2.out]; exact hst
            have hl0 : (0 : Int) ≤ (n2 : Int) - 1 := by omega
            have hl1 : ¬ (n2 : Int) - 1 < 0 := by omega
            have hlf : decide ((n2 : Int) - 1 < 0) = false := decide_eq_false hl1
            by_cases h40 : (s[k].toNat : Int) = 40
            · have hq : ((s[k].toNat : Int) == 40) = true := by simp [h40]
              -- the open node and its degree
              have hp : Hid (st[st.length - 1]? = some st[st.length - 1]) := List.getElem?_eq_getElem (by omega)
              obtain ⟨p0, hp0⟩ : ∃ p, st[st.length - 1] = p := ⟨_, rfl⟩
              rw [hp0] at hp
              have hpin := hgood.out.2.2.1 p0 (hp0 ▸ List.getElem_mem _)
              obtain ⟨p, rfl⟩ := Int.eq_ofNat_of_zero_le hpin.1
              have hpd : p < ds.length := by simpa using hpin.2
              have hd : Hid (ds[p]? = some ds[p]) := List.getElem?_eq_getElem hpd
              obtain ⟨d0, hd0⟩ : ∃ d, ds[p] = d := ⟨_, rfl⟩
              rw [hd0] at hd
              have hdr := hgood.out.2.2.2 d0 (hd0 ▸ List.getElem_mem _)
              have hd1 := hdr.1
              have hd2 := hdr.2
              have hpn : p < n1 := by rw [Hn1.out]; exact hpd
              obtain ⟨g1, rfl⟩ := hsh1.2 (by omega)
              have e2 : st.length - 1 = n2 - 1 := by rw [← Hn2.out]
              have gp := (own64_cell ht.out.2.1 Hn2.out.symm (k := n2 - 1) (x := (p : Int)) (by rw [← e2]; exact hp.out)).1
              obtain ⟨gd, gf, _, _⟩ := own64_cell ht.out.1 Hn1.out.symm (k := p) (x := d0) hd.out
              have hstep := Lib.hid (M.prun_step hX.out (by rw [h40]; exact M.pstep_open hp.out (by simpa using hd.out)))
              have hgood2 := Lib.hid (M.pgood_open (p := (p : Int)) hgood.out (by simpa using hd.out))
              simp only [Int.toNat_natCast] at hstep hgood2
              have hpl : p ≤ 48 := by omega
              have hset := Lib.hid (ht.out.set Hn1.out.symm p (d0 + 1))
              have hcast : ((n2 : Int) - 1).toNat = n2 - 1 := by omega
              clear hp0 hpin hd0 hdr e2 h40 hsh1 hsh2
              have hset' := Lib.hid hset.out.symm
              have hBs : w.heap.size + 1 ≤ (wr.setCell ⟨g1, p, none⟩ (.int .i64 (d0 + 1))).heap.size := by simpa using hBsz
              have hn1m : n1 ≤ 1000000 := by omega
              have hn2m : n2 ≤ 1000000 := by omega
              go_wp2_with (first | (at_builtin; refine pushTwo rfl (.tmp 48) (.tmp 51) rfl (wr.setCell ⟨g1, p, none⟩ (.int .i64 (d0 + 1))) (w.heap.size + 1) (some ⟨g2, 0, none⟩) n2 c2 (.slice (some ⟨g1, 0, none⟩) n1 c1) st (ds.set p (d0 + 1)) (n1 : Int) rfl _ rfl (by simp) hset' hBs hn2m ?_; intro A3 c3 w3 ht3 hb3; have ht3' := Lib.hid ht3.out.symm; have hB3 := Nat.le_trans hBs hb3.out.size) | (at_builtin; refine pushTwo rfl (.tmp 53) (.tmp 54) rfl w3 (w.heap.size + 1) (some ⟨g1, 0, none⟩) n1 c1 (.slice A3 (n2 + 1) c3) (ds.set p (d0 + 1)) (st ++ [(n1 : Int)]) 0 rfl _ rfl rfl ht3' hB3 hn1m ?_; intro A4 c4 w4 ht4 hb4))
              go_roundw
              case rel => exact ⟨k + 1, A4, _, c4, A3, _, c3, _, _, by omega, by go_num, rfl, rfl, ht4.out.eq rfl (by rw [Hn1.out]), hstep.out.symm.trans hg.out, hgood2, fun _ => by simp, ((below_setCell hbr.out (by have := ht.out.1.lt g1 rfl; omega) _).trans hb3.out).trans hb4.out⟩
              case measure => simp [intOf]; omega
            · have hq : ((s[k].toNat : Int) == 40) = false := by simp [h40]
              by_cases h41 : (s[k].toNat : Int) = 41
              · have hq2 : ((s[k].toNat : Int) == 41) = true := by simp [h41]
                have hstep := Lib.hid (M.prun_step hX.out (by rw [h41]; exact M.pstep_close (ds := ds) hstl))
                have hgood2 := Lib.hid (M.pgood_close hgood.out)
                have hpop := Lib.hid (ht.out.pop hst)
                have hcast : ((n2 : Int) - 1).toNat = n2 - 1 := by omega
                have hcap0 := ht.out.symm.cap
                have hnz0 := Lib.hid (show ds ≠ [] from fun e => by have := hgood.out.2.1; rw [e] at this; simp only [List.length_nil] at this; omega)
                have hcap : (n2 : Int) - 1 ≤ (c2 : Int) := by omega
                clear h40 h41 hsh1 hsh2
                go_wp2
                go_roundw
                case rel => exact ⟨k + 1, A1, n1, c1, some ⟨g2, 0, none⟩, n2 - 1, c2, _, _, by omega, by go_num, rfl, rfl, hpop, hstep.out.symm.trans hg.out, hgood2, fun _ => hnz0.out, hbr⟩
                case measure => simp [intOf]; omega
              · have hq2 : ((s[k].toNat : Int) == 41) = false := by simp [h41]
                have hR := hfail.out (hg.out.symm.trans (M.prun_fail hX.out (M.pstep_other h40 h41)))
                subst hR
                clear h40 h41 hsh1 hsh2 hg hgood hnz hfail hopen hdone
                go_wp2
                refine bodyPost_ret (v := .tuple #[.agg #[.slice none 0 0], .int .i64 6]) (by simp [results, Try.results72, go_sem, hrc]) rfl ?_
                exact ⟨none, 0, rfl, own64_nil _ _, below_setCell hBw.out (Nat.le_refl _) _⟩
          · -- no node is open
            have hn20 : n2 = 0 := by omega
            subst hn20
            have hst0 : st = [] := List.eq_nil_of_length_eq_zero Hn2.out.symm
            subst hst0
            by_cases hk0 : 0 < k
            · have hki : (0 : Int) < (k : Int) := by omega
              have hR := hfail.out (hg.out.symm.trans (M.prun_fail hX.out (M.pstep_none (.inl (hnz.out hk0)))))
              subst hR
              clear hsh1 hsh2 hg hgood hnz hfail hopen hdone hst hk0
              go_wp2
              refine bodyPost_ret (v := .tuple #[.agg #[.slice none 0 0], .int .i64 6]) (by simp [results, Try.results72, go_sem, hrc]) rfl ?_
              exact ⟨none, 0, rfl, own64_nil _ _, below_setCell hBw.out (Nat.le_refl _) _⟩
            · obtain rfl : k = 0 := by omega
              have hds0 : ds = [] := List.eq_nil_of_length_eq_zero (by have := hgood.out.1; omega)
              subst hds0
              have hn10 : n1 = 0 := Hn1.out
              subst hn10
              by_cases h40 : (s[0].toNat : Int) = 40
              · have hq : ((s[0].toNat : Int) == 40) = true := by simp [h40]
                have hstep := Lib.hid (M.prun_step hX.out (by rw [h40]; exact M.pstep_first))
                have hgood2 := Lib.hid M.pgood_first
                have hset' := Lib.hid ht.out.symm
                have hBs : w.heap.size + 1 ≤ wr.heap.size := hBsz
                clear h40 hsh1 hsh2 hst hk0
                go_wp2_with (first | (at_builtin; refine pushTwo rfl (.tmp 48) (.tmp 51) rfl wr (w.heap.size + 1) A2 0 c2 (.slice A1 0 c1) [] [] 0 rfl _ rfl (by simp) hset' hBs (by omega) ?_; intro A3 c3 w3 ht3 hb3; have ht3' := Lib.hid ht3.out.symm; have hB3 := Nat.le_trans hBs hb3.out.size) | (at_builtin; refine pushTwo rfl (.tmp 53) (.tmp 54) rfl w3 (w.heap.size + 1) A1 0 c1 (.slice A3 (0 + 1) c3) [] [0] 0 rfl _ rfl rfl ht3' hB3 (by omega) ?_; intro A4 c4 w4 ht4 hb4))
                go_roundw
                case rel => exact ⟨1, A4, _, c4, A3, _, c3, _, _, by omega, rfl, rfl, rfl, ht4.out.symm.symm, hstep.out.symm.trans hg.out, hgood2, fun _ => by simp, (hbr.out.trans hb3.out).trans hb4.out⟩
                case measure => simp [intOf]; omega
              · have hq : ((s[0].toNat : Int) == 40) = false := by simp [h40]
                have hR := hfail.out (hg.out.symm.trans (M.prun_fail hX.out (M.pstep_none (.inr h40))))
                subst hR
                clear hsh1 hsh2 hg hgood hnz hfail hopen hdone hst hk0 h40
                go_wp2
                all_goals refine bodyPost_ret (v := .tuple #[.agg #[.slice none 0 0], .int .i64 6]) (by simp [results, Try.results72, go_sem, hrc]) rfl ?_
                all_goals exact ⟨none, 0, rfl, own64_nil _ _, below_setCell hBw.out (Nat.le_refl _) _⟩
        · obtain rfl : k = s.size := by omega
          have hgf : Hid (P = some (ds, st)) := by
            have := hg.out
            rw [List.drop_of_length_le (by rw [hbl.out]; omega)] at this
            exact this.symm
          by_cases hst : 0 < n2
          · have hR := hopen.out ds st hgf.out (by rw [← Hn2.out]; exact hst)
            subst hR
            clear hsh1 hsh2 hg hgood hnz hfail hopen hdone
            go_wp2
            refine bodyPost_ret (v := .tuple #[.agg #[.slice none 0 0], .int .i64 6]) (by simp [results, Try.results72, go_sem, hrc]) rfl ?_
            exact ⟨none, 0, rfl, own64_nil _ _, below_setCell hBw.out (Nat.le_refl _) _⟩
          · have hn20 : n2 = 0 := by omega
            subst hn20
            have hst0 : st = [] := List.eq_nil_of_length_eq_zero Hn2.out.symm
            subst hst0
            have hR := hdone.out ds h49 hgf.out (hnz.out hpos)
            subst hR
            have hnn := Hn1.out
            subst hnn
            clear hsh1 hsh2 hg hgood hnz hfail hopen hdone hst
            go_wp2
            refine bodyPost_ret (v := .tuple #[.agg #[.slice A1 ds.length c1], .int .i64 0]) (by simp [results, Try.results72, go_sem, hrc]) rfl ?_
            exact ⟨A1, c1, rfl, own_mono (own_far ht.out.1 (Nat.lt_succ_self _) _) (Nat.le_succ _), below_setCell hBw.out (Nat.le_refl _) _⟩
end Go.Proofs.Ytmhpobgfgimfcaa

/- ParseTree, the model's. -/
namespace Go.Proofs.Ytmhpobgfgimfcaa
open Go.RowKit

/-- what the model's reader of a text must do -/
def GivesRead (f : Nat) : Prop :=
  ∀ (s : ByteArray) (w : World), s.size ≤ 1048576 →
    Calls Try.prog f #[.string s] w fun e w' => ∃ A' c', e = .returned (.tuple #[.agg #[.slice A' (M.parse (bytesOf s)).1.length c'], .bool ((M.parse (bytesOf s)).2 == 0)]) ∧
      Own64 w' w.heap.size (.slice A' (M.parse (bytesOf s)).1.length c') (M.parse (bytesOf s)).1 ∧ Below w.heap.size w w'

theorem two_empty (w : World) (t : TypeId) : Two (((w.alloc (.cells #[.slice none 0 0] t)).alloc (.cells #[] 2)).alloc (.cells #[] 2)) (w.heap.size + 1)
    (.slice (some ⟨w.heap.size + 1, 0, none⟩) 0 0) (.slice (some ⟨w.heap.size + 2, 0, none⟩) 0 0) [] [] := by
  have h1 := own64_empty (w := w.alloc (.cells #[.slice none 0 0] t)) (B := w.heap.size + 1) (by simp)
  have h2 := own64_empty (w := (w.alloc (.cells #[.slice none 0 0] t)).alloc (.cells #[] 2)) (B := w.heap.size + 1) (by simp)
  simp only [World.size_alloc] at h1 h2
  exact ⟨h1.alloc _, h2, fun b h h' => by simp [Value.ownBlock] at h h'; omega⟩

set_option maxHeartbeats 8000000 in
set_option maxRecDepth 100000 in
theorem spec_Read : GivesRead 68 := by
  intro s w hs
  have hB0 := Lib.hid (bal (b0 w) (.cells #[.slice none 0 0] 29))
  have hres : Hid ((w.alloc (.cells #[.slice none 0 0] 29)).heap[w.heap.size]? = some (.cells #[.slice none 0 0] 29 (0, 0))) := heap_alloc_new w _
  have hbl := Lib.hid (bytesOf_length s)
  have hlong : Hid (48 < s.size → M.parse (bytesOf s) = ([], 6)) := fun e => M.parse_long (by rw [hbl.out]; exact e)
  have hfail : Hid (M.prun [] [] (bytesOf s) = none → M.parse (bytesOf s) = ([], 6)) := fun e => M.parse_fail e
  have hopen : Hid (∀ ds st, M.prun [] [] (bytesOf s) = some (ds, st) → 0 < st.length → M.parse (bytesOf s) = ([], 6)) := fun ds st e h => M.parse_open e h
  have hempty : Hid (M.prun [] [] (bytesOf s) = some ([], []) → M.parse (bytesOf s) = ([], 6)) := fun e => M.parse_empty e
  have hdone : Hid (∀ ds, s.size ≤ 48 → M.prun [] [] (bytesOf s) = some (ds, []) → ds ≠ [] → M.parse (bytesOf s) = (ds, 0)) := fun ds h e h' => M.parse_done (by rw [hbl.out]; exact h) e h'
  have hat : Hid (∀ k (h : k < s.size), (bytesOf s)[k]? = some ((s[k]'h).toNat : Int)) := fun k h => bytesOf_at s h
  have hprn : Hid (M.prun [] [] ((bytesOf s).drop 0) = M.prun [] [] (bytesOf s)) := by rfl
  generalize bytesOf s = L at *
  generalize hR : M.parse L = R at *
  generalize hP : M.prun [] [] L = P at *
  clear hR hP
  by_cases h48 : 48 < s.size
  · have hR := hlong.out h48
    subst hR
    have h48' : (48 : Int) < (s.size : Int) := by omega
    clear hlong hfail hopen hempty hdone hat hprn hbl
    go_enter Try.func68, Try.ntmps68
    go_wp2
    refine bodyPost_ret (v := .tuple #[.agg #[.slice none 0 0], .bool false]) (by simp [results, Try.results68, go_sem]) rfl ?_
    exact ⟨none, 0, rfl, own64_nil _ _, hB0.out⟩
  · have h48' : ¬ (48 : Int) < (s.size : Int) := by omega
    have h49 : s.size ≤ 48 := by omega
    have htwo := Lib.hid (two_empty w 29)
    clear hlong h48
    · go_enter Try.func68, Try.ntmps68
      go_wp2
      go_loopw [4, 5, 6] (fun q1 q2 i wr => ∃ (k : Nat) (A1 : Option Addr) (n1 c1 : Nat) (A2 : Option Addr) (n2 c2 : Nat) (ds st : List Int), k ≤ s.size ∧ i = .int .i64 k ∧ q1 = .slice A1 n1 c1 ∧ q2 = .slice A2 n2 c2 ∧
          Hid (Two wr (w.heap.size + 1) (.slice A1 n1 c1) (.slice A2 n2 c2) ds st) ∧ Hid (M.prun ds st (L.drop k) = P) ∧ Hid (M.pgood k ds st) ∧ Hid (0 < k → ds ≠ []) ∧ Hid (Below (w.heap.size + 1) (w.alloc (.cells #[.slice none 0 0] 29)) wr)) (fun _ _ i _ => s.size - (intOf i).toNat)
      case atStart => exact ⟨0, _, 0, 0, _, 0, 0, [], [], Nat.zero_le _, rfl, rfl, rfl, htwo, hprn, M.pgood_nil, fun h => absurd h (by omega), ((Below.refl _ _).alloc (by simp) _).alloc (by simp) _⟩
      case round =>
        obtain ⟨k, A1, n1, c1, A2, n2, c2, ds, st, hk, rfl, rfl, rfl, ht, hg, hgood, hnz, hbr⟩ := hrel
        have hsh1 := ht.out.shape
        have hsh2 := ht.out.symm.shape
        have hn1 := hsh1.1
        have hn2 := hsh2.1
        have hp := hgood.out
        have hn1k : n1 ≤ 48 := by have := hp.1; omega
        have hn2k : n2 ≤ 48 := by have := hp.2.1; omega
        have hrr := (hbr.out.block w.heap.size (Nat.lt_succ_self _)).trans hres.out
        have hrc : wr.cell? ⟨w.heap.size, 0, none⟩ = some (.slice none 0 0) := cell_of_one hrr
        have hrf : wr.frozen? ⟨w.heap.size, 0, none⟩ = false := free_of_one hrr
        have hBw : Hid (Below w.heap.size w wr) := hB0.out.trans (hbr.out.mono (Nat.le_succ _))
        have hBsz := hbr.out.size
        simp only [World.size_alloc] at hBsz
        have Hn1 := Lib.hid hn1
        have Hn2 := Lib.hid hn2
        clear hrr hp hn1 hn2
        by_cases hlt : k < s.size
        · have hX := Lib.hid (hat.out k hlt)
          have hx0 : (0 : Int) ≤ (s[k].toNat : Int) := by omega
          by_cases hst : 0 < n2
          · -- a node is open
            obtain ⟨g2, rfl⟩ := hsh2.2 hst
            have hstl : 0 < st.length := by rw [← Hn2.out]; exact hst
            have hl0 : (0 : Int) ≤ (n2 : Int) - 1 := by omega
            have hl1 : ¬ (n2 : Int) - 1 < 0 := by omega
            have hlf : decide ((n2 : Int) - 1 < 0) = false := decide_eq_false hl1
            by_cases h40 : (s[k].toNat : Int) = 40
            · have hq : ((s[k].toNat : Int) == 40) = true := by simp [h40]
              -- the open node and its degree
              have hp : Hid (st[st.length - 1]? = some st[st.length - 1]) := List.getElem?_eq_getElem (by omega)
              obtain ⟨p0, hp0⟩ : ∃ p, st[st.length - 1] = p := ⟨_, rfl⟩
              rw [hp0] at hp
              have hpin := hgood.out.2.2.1 p0 (hp0 ▸ List.getElem_mem _)
              obtain ⟨p, rfl⟩ := Int.eq_ofNat_of_zero_le hpin.1
              have hpd : p < ds.length := by simpa using hpin.2
              have hd : Hid (ds[p]? = some ds[p]) := List.getElem?_eq_getElem hpd
              obtain ⟨d0, hd0⟩ : ∃ d, ds[p] = d := ⟨_, rfl⟩
              rw [hd0] at hd
              have hdr := hgood.out.2.2.2 d0 (hd0 ▸ List.getElem_mem _)
              have hd1 := hdr.1
              have hd2 := hdr.2
              have hpn : p < n1 := by rw [Hn1.out]; exact hpd
              obtain ⟨g1, rfl⟩ := hsh1.2 (by omega)
              have e2 : st.length - 1 = n2 - 1 := by rw [← Hn2.out]
              have gp := (own64_cell ht.out.2.1 Hn2.out.symm (k := n2 - 1) (x := (p : Int)) (by rw [← e2]; exact hp.out)).1
              obtain ⟨gd, gf, _, _⟩ := own64_cell ht.out.1 Hn1.out.symm (k := p) (x := d0) hd.out
              have hstep := Lib.hid (M.prun_step hX.out (by rw [h40]; exact M.pstep_open hp.out (by simpa using hd.out)))
              have hgood2 := Lib.hid (M.pgood_open (p := (p : Int)) hgood.out (by simpa using hd.out))
              simp only [Int.toNat_natCast] at hstep hgood2
              have hpl : p ≤ 48 := by omega
              have hset := Lib.hid (ht.out.set Hn1.out.symm p (d0 + 1))
              have hcast : ((n2 : Int) - 1).toNat = n2 - 1 := by omega
              clear hp0 hpin hd0 hdr e2 h40 hsh1 hsh2
              have hset' := Lib.hid hset.out.symm
              have hBs : w.heap.size + 1 ≤ (wr.setCell ⟨g1, p, none⟩ (.int .i64 (d0 + 1))).heap.size := by simpa using hBsz
              have hn1m : n1 ≤ 1000000 := by omega
              have hn2m : n2 ≤ 1000000 := by omega
              go_wp2_with (first | (at_builtin; refine pushTwo rfl (.tmp 49) (.tmp 52) rfl (wr.setCell ⟨g1, p, none⟩ (.int .i64 (d0 + 1))) (w.heap.size + 1) (some ⟨g2, 0, none⟩) n2 c2 (.slice (some ⟨g1, 0, none⟩) n1 c1) st (ds.set p (d0 + 1)) (n1 : Int) rfl _ rfl (by simp) hset' hBs hn2m ?_; intro A3 c3 w3 ht3 hb3; have ht3' := Lib.hid ht3.out.symm; have hB3 := Nat.le_trans hBs hb3.out.size) | (at_builtin; refine pushTwo rfl (.tmp 54) (.tmp 55) rfl w3 (w.heap.size + 1) (some ⟨g1, 0, none⟩) n1 c1 (.slice A3 (n2 + 1) c3) (ds.set p (d0 + 1)) (st ++ [(n1 : Int)]) 0 rfl _ rfl rfl ht3' hB3 hn1m ?_; intro A4 c4 w4 ht4 hb4))
              go_roundw
              case rel => exact ⟨k + 1, A4, _, c4, A3, _, c3, _, _, by omega, by go_num, rfl, rfl, ht4.out.eq rfl (by rw [Hn1.out]), hstep.out.symm.trans hg.out, hgood2, fun _ => by simp, ((below_setCell hbr.out (by have := ht.out.1.lt g1 rfl; omega) _).trans hb3.out).trans hb4.out⟩
              case measure => simp [intOf]; omega
            · have hq : ((s[k].toNat : Int) == 40) = false := by simp [h40]
              by_cases h41 : (s[k].toNat : Int) = 41
              · have hq2 : ((s[k].toNat : Int) == 41) = true := by simp [h41]
                have hstep := Lib.hid (M.prun_step hX.out (by rw [h41]; exact M.pstep_close (ds := ds) hstl))
                have hgood2 := Lib.hid (M.pgood_close hgood.out)
                have hpop := Lib.hid (ht.out.pop hst)
                have hcast : ((n2 : Int) - 1).toNat = n2 - 1 := by omega
                have hcap0 := ht.out.symm.cap
                have hnz0 := Lib.hid (show ds ≠ [] from fun e => by have := hgood.out.2.1; rw [e] at this; simp only [List.length_nil] at this; omega)
                have hcap : (n2 : Int) - 1 ≤ (c2 : Int) := by omega
                clear h40 h41 hsh1 hsh2
                go_wp2
                go_roundw
                case rel => exact ⟨k + 1, A1, n1, c1, some ⟨g2, 0, none⟩, n2 - 1, c2, _, _, by omega, by go_num, rfl, rfl, hpop, hstep.out.symm.trans hg.out, hgood2, fun _ => hnz0.out, hbr⟩
                case measure => simp [intOf]; omega
              · have hq2 : ((s[k].toNat : Int) == 41) = false := by simp [h41]
                have hR := hfail.out (hg.out.symm.trans (M.prun_fail hX.out (M.pstep_other h40 h41)))
                subst hR
                clear h40 h41 hsh1 hsh2 hg hgood hnz hfail hopen hdone
                go_wp2
                refine bodyPost_ret (v := .tuple #[.agg #[.slice none 0 0], .bool false]) (by simp [results, Try.results68, go_sem, hrc]) rfl ?_
                exact ⟨none, 0, rfl, own64_nil _ _, below_setCell hBw.out (Nat.le_refl _) _⟩
          · -- no node is open
            have hn20 : n2 = 0 := by omega
            subst hn20
            have hst0 : st = [] := List.eq_nil_of_length_eq_zero Hn2.out.symm
            subst hst0
            by_cases hk0 : 0 < k
            · have hnd := hnz.out hk0
              have hn1p : 0 < n1 := by rw [Hn1.out]; exact List.length_pos_iff.2 hnd
              have hq1 : ((n1 : Int) == 0) = false := by simp; omega
              have hR := hfail.out (hg.out.symm.trans (M.prun_fail hX.out (M.pstep_none (.inl hnd))))
              subst hR
              clear hsh1 hsh2 hg hgood hnz hfail hopen hdone hst hk0 hnd
              go_wp2
              all_goals refine bodyPost_ret (v := .tuple #[.agg #[.slice none 0 0], .bool false]) (by simp [results, Try.results68, go_sem, hrc]) rfl ?_
              all_goals exact ⟨none, 0, rfl, own64_nil _ _, below_setCell hBw.out (Nat.le_refl _) _⟩
            · obtain rfl : k = 0 := by omega
              have hds0 : ds = [] := List.eq_nil_of_length_eq_zero (by have := hgood.out.1; omega)
              subst hds0
              have hn10 : n1 = 0 := Hn1.out
              subst hn10
              by_cases h40 : (s[0].toNat : Int) = 40
              · have hq : ((s[0].toNat : Int) == 40) = true := by simp [h40]
                have hstep := Lib.hid (M.prun_step hX.out (by rw [h40]; exact M.pstep_first))
                have hgood2 := Lib.hid M.pgood_first
                have hset' := Lib.hid ht.out.symm
                have hBs : w.heap.size + 1 ≤ wr.heap.size := hBsz
                clear h40 hsh1 hsh2 hst hk0
                go_wp2_with (first | (at_builtin; refine pushTwo rfl (.tmp 49) (.tmp 52) rfl wr (w.heap.size + 1) A2 0 c2 (.slice A1 0 c1) [] [] 0 rfl _ rfl (by simp) hset' hBs (by omega) ?_; intro A3 c3 w3 ht3 hb3; have ht3' := Lib.hid ht3.out.symm; have hB3 := Nat.le_trans hBs hb3.out.size) | (at_builtin; refine pushTwo rfl (.tmp 54) (.tmp 55) rfl w3 (w.heap.size + 1) A1 0 c1 (.slice A3 (0 + 1) c3) [] [0] 0 rfl _ rfl rfl ht3' hB3 (by omega) ?_; intro A4 c4 w4 ht4 hb4))
                go_roundw
                case rel => exact ⟨1, A4, _, c4, A3, _, c3, _, _, by omega, rfl, rfl, rfl, ht4.out.symm.symm, hstep.out.symm.trans hg.out, hgood2, fun _ => by simp, (hbr.out.trans hb3.out).trans hb4.out⟩
                case measure => simp [intOf]; omega
              · have hq : ((s[0].toNat : Int) == 40) = false := by simp [h40]
                have hR := hfail.out (hg.out.symm.trans (M.prun_fail hX.out (M.pstep_none (.inr h40))))
                subst hR
                clear hsh1 hsh2 hg hgood hnz hfail hopen hdone hst hk0 h40
                go_wp2
                all_goals refine bodyPost_ret (v := .tuple #[.agg #[.slice none 0 0], .bool false]) (by simp [results, Try.results68, go_sem, hrc]) rfl ?_
                all_goals exact ⟨none, 0, rfl, own64_nil _ _, below_setCell hBw.out (Nat.le_refl _) _⟩
        · obtain rfl : k = s.size := by omega
          have hgf : Hid (P = some (ds, st)) := by
            have := hg.out
            rw [List.drop_of_length_le (by rw [hbl.out]; omega)] at this
            exact this.symm
          by_cases hst : 0 < n2
          · have hR := hopen.out ds st hgf.out (by rw [← Hn2.out]; exact hst)
            subst hR
            clear hsh1 hsh2 hg hgood hnz hfail hopen hdone
            go_wp2
            refine bodyPost_ret (v := .tuple #[.agg #[.slice none 0 0], .bool false]) (by simp [results, Try.results68, go_sem, hrc]) rfl ?_
            exact ⟨none, 0, rfl, own64_nil _ _, below_setCell hBw.out (Nat.le_refl _) _⟩
          · have hn20 : n2 = 0 := by omega
            subst hn20
            have hst0 : st = [] := List.eq_nil_of_length_eq_zero Hn2.out.symm
            subst hst0
            by_cases hn10 : n1 = 0
            · subst hn10
              have hds0 : ds = [] := List.eq_nil_of_length_eq_zero Hn1.out.symm
              subst hds0
              have hR := hempty.out hgf.out
              subst hR
              clear hsh1 hsh2 hg hgood hnz hfail hopen hempty hdone hst
              go_wp2
              refine bodyPost_ret (v := .tuple #[.agg #[.slice none 0 0], .bool false]) (by simp [results, Try.results68, go_sem, hrc]) rfl ?_
              exact ⟨none, 0, rfl, own64_nil _ _, below_setCell hBw.out (Nat.le_refl _) _⟩
            have hR := hdone.out ds h49 hgf.out (fun e => hn10 (by rw [Hn1.out, e]; rfl))
            subst hR
            have hq1 : ((n1 : Int) == 0) = false := by simp; omega
            have hnn := Hn1.out
            subst hnn
            clear hsh1 hsh2 hg hgood hnz hfail hopen hempty hdone hst hn10
            go_wp2
            refine bodyPost_ret (v := .tuple #[.agg #[.slice A1 ds.length c1], .bool true]) (by simp [results, Try.results68, go_sem, hrc]) rfl ?_
            exact ⟨A1, c1, rfl, own_mono (own_far ht.out.1 (Nat.lt_succ_self _) _) (Nat.le_succ _), below_setCell hBw.out (Nat.le_refl _) _⟩

theorem M.parse_or (l : List Int) : M.parse l = ([], 6) ∨ (M.parse l).2 = 0 := by
  simp only [M.parse]
  split
  · exact .inl rfl
  · split
    · split
      · exact .inl rfl
      · exact .inr rfl
    · exact .inl rfl

end Go.Proofs.Ytmhpobgfgimfcaa

/- Trees inside others by lists of nodes, the model's: l04Left, l01Same, l04Inside. -/
namespace Go.Proofs.Ytmhpobgfgimfcaa
open Go.RowKit

/-- places as numbers -/
def nums (st : List Nat) : List Int := st.map fun (j : Nat) => (j : Int)
theorem nums_len (st : List Nat) : (nums st).length = st.length := by simp [nums]
theorem nums_snoc (st : List Nat) (j : Nat) : nums (st ++ [j]) = nums st ++ [(j : Int)] := by simp [nums]
theorem nums_pop (st : List Nat) (j : Nat) : (nums (st ++ [j])).dropLast = nums st := by rw [nums_snoc]; simp
theorem snoc_of {st : List Nat} (h : 0 < st.length) : ∃ st' j, st = st' ++ [j] := ⟨st.dropLast, st.getLast (List.length_pos_iff.1 h), (List.dropLast_concat_getLast _).symm⟩
/-- what l04Left finds -/
def leftOk (us vs : List Int) : Bool := (List.range vs.length).all fun i => i == 0 || M.pa us (nodeF vs) i != -1
theorem left_no {us vs : List Int} {i : Nat} (h0 : 0 < i) (hi : i < vs.length) (h : M.pa us (nodeF vs) i = -1) : leftOk us vs = false := by
  cases hl : leftOk us vs
  · rfl
  · have := List.all_eq_true.1 hl i (List.mem_range.2 hi)
    simp only [h, Bool.or_eq_true, beq_iff_eq, bne_self_eq_false, Bool.false_eq_true, or_false] at this
    omega
theorem left_yes {us vs : List Int} (h : ∀ i, 0 < i → i < vs.length → M.pa us (nodeF vs) i ≠ -1) : leftOk us vs = true := by
  refine List.all_eq_true.2 fun i hi => ?_
  rcases Nat.eq_zero_or_pos i with h0 | h0
  · rw [h0]; rfl
  · have := h i h0 (List.mem_range.1 hi)
    simp [this]
theorem inB_left {us vs xs : List Int} (h : vs.length = xs.length) : inB us vs xs = (leftOk us vs && (M.degs us (nodeF vs) vs.length == xs)) := by rw [inB, leftOk, h]
theorem degs_small {us : List Int} {f : Nat → Nat} {n : Nat} : ∀ x ∈ M.degs us f n, 0 ≤ x ∧ x ≤ n := fun x hx => by
  simp only [M.degs, List.mem_map] at hx
  obtain ⟨j, _, rfl⟩ := hx
  have := List.countP_le_length (p := fun q => M.pa us f q == (j : Int)) (l := List.range n)
  rw [List.length_range] at this
  omega

def lenV : Value → Nat
  | .slice _ n _ => n
  | _ => 0
def LeftQ (D : List Int) (R : Bool) (n : Nat) (w : World) (en : Ending) (w' : World) : Prop := ∃ A' m' c', en = .returned (.tuple #[.agg #[.slice A' m' c'], .bool R]) ∧ Hid (R = true → m' = n ∧ Ints w' w'.heap.size A' D) ∧ Hid (Below w.heap.size w w')
theorem leftQ_mk {D : List Int} {R : Bool} {n m' c' : Nat} {A' : Option Addr} {w w' : World} (h1 : R = true → m' = n ∧ Ints w' w'.heap.size A' D) (h2 : Below w.heap.size w w') : LeftQ D R n w (.returned (.tuple #[.agg #[.slice A' m' c'], .bool R])) w' := ⟨A', m', c', rfl, h1, h2⟩
def StkPre (us : List Int) (f : Nat → Nat) (k : Nat) (st : List Nat) : Prop := (k = 0 ∧ st = []) ∨ (0 < k ∧ st = M.stk us f (f (k - 1)) k)
theorem stkPre_at {us : List Int} {f : Nat → Nat} {k n : Nat} {st : List Nat} (h : StkPre us f k st) (hk : k < n) (hasc : ∀ i j, i < j → j < n → f i < f j) : M.StkAt us f k st := by
  rcases h with ⟨rfl, rfl⟩ | ⟨h0, rfl⟩
  · exact M.stk_start
  · obtain ⟨q, rfl⟩ : ∃ q, k = q + 1 := ⟨k - 1, by omega⟩
    exact M.stk_round fun j q h1 h2 => hasc j q h1 (by omega)
theorem two_start (w : World) (o : Value) : Two (((((w.alloc (.cells #[o] 29)).alloc (.cells #[.slice none 0 0] 29))).alloc (.cells #[] 2)).alloc (.cells #[] 2)) (w.heap.size + 1 + 1)
    (.slice (some ⟨w.heap.size + 1 + 1, 0, none⟩) 0 0) (.slice (some ⟨w.heap.size + 1 + 1 + 1, 0, none⟩) 0 0) [] [] := by
  have := two_empty (w.alloc (.cells #[o] 29)) 29
  simpa using this

set_option maxHeartbeats 8000000 in
set_option maxRecDepth 100000 in
theorem l04Left (B C : Option Addr) (us vs : List Int) (d n e : Nat) (w : World) (hu : Hid (M.isTree us = true)) (hn : Hid (vs.length = n)) (hn24 : n ≤ 24) (hne : n ≤ e) (hg : Hid (M.goodTo vs us.length vs.length = true)) (hB : Hid (Ints w w.heap.size B us)) (hC : Hid (Ints w w.heap.size C vs)) :
    Calls Try.prog 121 #[.agg #[.slice B us.length d], .slice C n e] w (LeftQ (M.degs us (nodeF vs) n) (leftOk us vs) n w) := by
  obtain ⟨W0, hW0⟩ : ∃ W0, (w.alloc (.cells #[.slice B us.length d] 29)).alloc (.cells #[.slice none 0 0] 29) = W0 := ⟨_, rfl⟩
  have htwo := two_start w (.slice B us.length d)
  rw [hW0] at htwo
  have htwo' := Lib.hid htwo
  have hz0 : W0.heap.size = w.heap.size + 1 + 1 := by rw [← hW0]; simp
  have cU : Hid (W0.cell? ⟨w.heap.size, 0, none⟩ = some (.slice B us.length d)) := by rw [← hW0]; exact cell_al (by simp) _
  have hR : Hid (W0.heap[w.heap.size + 1]? = some (.cells #[.slice none 0 0] 29 (0, 0))) := by
    rw [← hW0]
    have := World.alloc_heap_new (w.alloc (.cells #[.slice B us.length d] 29)) (.cells #[.slice none 0 0] 29)
    simpa [Hid] using this
  have hBW : Hid (Below w.heap.size w W0) := by rw [← hW0]; exact bal (bal (b0 w) _) _
  have hst0 : Hid (Below (w.heap.size + 1 + 1) W0 ((W0.alloc (.cells #[] 2)).alloc (.cells #[] 2))) := ((Below.refl _ _).alloc (by omega) _).alloc (by simp; omega) _
  have hu24 := (M.tree_len hu.out).2
  have hasc : Hid (∀ i j, i < j → j < n → nodeF vs i < nodeF vs j) := fun i j h1 h2 => node_asc hg.out i j h1 (by rw [hn.out]; exact h2)
  have hrng : Hid (∀ i x, vs[i]? = some x → x = (nodeF vs i : Int) ∧ nodeF vs i < us.length) := fun i x hx => by
    have := M.goodTo_range hg.out x (List.mem_of_getElem? hx)
    rw [nodeF_at hx]; omega
  have hNo : Hid (∀ i, 0 < i → i < n → M.pa us (nodeF vs) i = -1 → leftOk us vs = false) := fun i h0 hi h => left_no h0 (by rw [hn.out]; exact hi) h
  have hYes : Hid ((∀ i, 0 < i → i < n → M.pa us (nodeF vs) i ≠ -1) → leftOk us vs = true) := fun h => left_yes (by rw [hn.out]; exact h)
  have hEnd : Hid (∀ i W, i < n → Hid (Below w.heap.size w W) → Calls Try.prog 112 #[.agg #[.slice B us.length d], .int .i64 (nodeF vs i : Int)] W fun e w' => e = .returned (.int .i64 (M.fin us (nodeF vs i) : Int)) ∧ Hid (Below W.heap.size W w')) := fun i W hi hb => by
    obtain ⟨_, hlt⟩ := hrng.out i _ (List.getElem?_eq_getElem (by rw [hn.out]; exact hi))
    exact l01End B us d (nodeF vs i) (M.fin us (nodeF vs i)) W rfl hu24 (Lib.hid (M.tree_ok hu.out hlt)) (hB.out.be hb.out)
  have hfin : Hid (∀ i, M.fin us (nodeF vs i) ≤ 100000) := fun i => by
    by_cases h : nodeF vs i < us.length
    · have := M.fin_le (xs := us) (v := nodeF vs i) (by omega); omega
    · have h1 := M.span_le (us.drop (nodeF vs i)) 1
      rw [List.length_drop] at h1
      by_cases h2 : i < n
      · obtain ⟨_, hlt⟩ := hrng.out i _ (List.getElem?_eq_getElem (by rw [hn.out]; exact h2))
        omega
      · have h3 : vs[i]? = none := List.getElem?_eq_none (by rw [hn.out]; omega)
        have h4 : nodeF vs i = 0 := by rw [nodeF, h3]; rfl
        unfold M.fin
        omega
  have hdeg : Hid (∀ (k j : Nat) (y : Int), (M.degs us (nodeF vs) k ++ [0])[j]? = some y → 0 ≤ y ∧ y ≤ k) := fun k j y h => by
    have := List.mem_of_getElem? h
    rcases List.mem_append.1 this with h | h
    · exact degs_small y h
    · rw [List.mem_singleton.1 h]; omega
  obtain ⟨R, hRl⟩ : ∃ R, Hid (leftOk us vs = R) := ⟨_, rfl⟩
  rw [hRl.out] at hNo hYes ⊢
  have HW := Lib.hid hW0
  generalize nodeF vs = f at *
  clear hW0 htwo hB hRl hg
  go_enter Try.func121, Try.ntmps121
  go_wp2
  rw [HW.out]
  go_loopw [6, 7, 8] (fun q1 q2 qi wr => ∃ (k n2 c1 c2 : Nat) (A1 A2 : Option Addr) (st : List Nat), k ≤ n ∧ qi = .int .i64 (k : Int) ∧ q1 = .slice A1 k c1 ∧ q2 = .slice A2 n2 c2 ∧ n2 ≤ k ∧ Hid (st.length = n2) ∧ Hid (Two wr (w.heap.size + 1 + 1) (.slice A1 k c1) (.slice A2 n2 c2) (M.degs us f k) (nums st)) ∧ Hid (StkPre us f k st) ∧ Hid (∀ i, 0 < i → i < k → M.pa us f i ≠ -1) ∧ Hid (Below (w.heap.size + 1 + 1) W0 wr)) (fun _ _ qi _ => n - (intOf qi).toNat)
  case atStart => exact ⟨0, 0, 0, 0, _, _, [], Nat.zero_le _, rfl, rfl, rfl, by omega, rfl, htwo', .inl ⟨rfl, rfl⟩, fun i h1 h2 => by omega, hst0⟩
  case round =>
    obtain ⟨k, n2, c1, c2, A1, A2, st, hk, rfl, rfl, rfl, hn2, hsl, hT, hS, hpa, hb⟩ := hrel
    clear htwo' hst0 HW
    have hzr := hb.out.size
    rw [hz0] at hzr
    by_cases hlt : k < n
    · have hki : (k : Int) < (n : Int) := by omega
      have hk0 : (0 : Int) ≤ (k : Int) := by omega
      have hS2 := Lib.hid (stkPre_at hS.out hlt hasc.out)
      have hkm : k ≤ 1000000 := by omega
      have hkz : k < vs.length := by rw [hn.out]; exact hlt
      obtain ⟨b, off, rfl, hbl, hc⟩ := hC.out (by omega)
      have hce : Hid (∀ i, i < n → w.cell? ⟨b, off + i, none⟩ = some (.int .i64 (f i : Int))) := fun i hi => by
        have h1 : vs[i]? = some (vs[i]'(by rw [hn.out]; exact hi)) := List.getElem?_eq_getElem _
        rw [hc i _ h1, (hrng.out i _ h1).1]
      have hlo : Hid (∀ W, Below (w.heap.size + 1 + 1) W0 W → ∀ i, i < n → W.cell? ⟨b, off + i, none⟩ = some (.int .i64 (f i : Int))) := fun W hW i hi => ((hBW.out.trans (hW.mono (by omega))).cell (p := ⟨b, off + i, none⟩) hbl).trans (hce.out i hi)
      have hcu : Hid (∀ W, Below (w.heap.size + 1 + 1) W0 W → W.cell? ⟨w.heap.size, 0, none⟩ = some (.slice B us.length d)) := fun W hW => (hW.cell (p := ⟨w.heap.size, 0, none⟩) (by show w.heap.size < _; omega)).trans cU.out
      clear hc
      go_wp2_with (at_builtin; refine pushTwo rfl (.tmp 17) (.tmp 18) rfl wr (w.heap.size + 1 + 1) A1 k c1 (.slice A2 n2 c2) (M.degs us f k) (nums st) 0 rfl _ rfl rfl hT hzr hkm ?_; intro A3 c3 w3 ht3 hb3)
      have hb3' : Hid (Below (w.heap.size + 1 + 1) W0 w3) := hb.out.trans hb3.out
      clear hT hb hb3 hS hzr
      go_loopw [7] (fun q wr => ∃ (m : Nat) (s : List Nat), q = .slice A2 m c2 ∧ m ≤ k ∧ Hid (s.length = m) ∧ Hid (Two wr (w.heap.size + 1 + 1) (.slice A3 (k + 1) c3) (.slice A2 m c2) (M.degs us f k ++ [0]) (nums s)) ∧ Hid (M.StkAt us f k s) ∧ Hid (Below (w.heap.size + 1 + 1) W0 wr)) (fun q _ => lenV q)
      case atStart => exact ⟨n2, st, rfl, hn2, hsl, ht3, hS2, hb3'⟩
      case round =>
        obtain ⟨m, s, rfl, hm, hsl2, hT, hS3, hb⟩ := hrel
        clear ht3 hS2 hb3' hsl
        have hzr := hb.out.size
        rw [hz0] at hzr
        by_cases hm0 : m = 0
        · subst hm0
          have hs0 : s = [] := List.eq_nil_of_length_eq_zero hsl2.out
          subst hs0
          have hpk := M.stk_empty hS3.out
          have hg0 : decide ((0 : Int) < ((0 : Nat) : Int)) = false := rfl
          have hg1 : ((((0 : Nat) : Int)) == 0) = true := rfl
          by_cases hk00 : k = 0
          · subst hk00
            have hTz := Lib.hid hT.out.symm
            have hzrd : ∀ q, w.heap.size + 1 + 1 ≤ (wr.drewN q).heap.size := fun q => hzr
            have hfu : Hid (f 0 < us.length) := (hrng.out 0 _ (List.getElem?_eq_getElem hkz)).2
            have hd1 : Hid (M.degs us f (0 + 1) = M.degs us f 0 ++ [0]) := M.degs_new hpk
            have hs1 : Hid (M.stk us f (f 0) 1 = [0]) := M.stk_alone hfu.out
            clear hEnd hfin hdeg hNo hYes hlo hcu hT hpk hS3
            go_wp2
            go_quiet (fail)
            have hTq : Hid (Two (wr.drewN nq) (w.heap.size + 1 + 1) (.slice A2 0 c2) (.slice A3 (0 + 1) c3) (nums []) (M.degs us f 0 ++ [0])) := hTz
            have hbq : Hid (Below (w.heap.size + 1 + 1) W0 (wr.drewN nq)) := below_drewN hb.out _
            have hzq := hzrd nq
            clear hTz hb
            go_wp2_with (at_builtin; refine pushTwo rfl (.tmp 63) (.tmp 65) rfl (wr.drewN nq) (w.heap.size + 1 + 1) A2 0 c2 (.slice A3 (0 + 1) c3) (nums []) (M.degs us f 0 ++ [0]) 0 rfl _ rfl rfl hTq hzq (by omega) ?_; intro A4 c4 w4 ht4 hb4)
            go_roundw
            case rel => exact ⟨0 + 1, 0 + 1, c3, c4, A3, A4, [0], hlt, by go_num, rfl, rfl, by omega, rfl, by rw [hd1.out]; exact ht4.out.symm, .inr ⟨by omega, hs1.out.symm⟩, fun i h1 h2 => by omega, hbq.out.trans hb4.out⟩
            case measure => simp [intOf]; omega
          · have hk0' : (0 : Int) < (k : Int) := by omega
            have hR0 : R = false := hNo.out k (by omega) hlt hpk
            subst hR0
            have hres := (hb.out.block (w.heap.size + 1) (by omega)).trans hR.out
            have hfin2 : Hid (Below w.heap.size w wr) := hBW.out.trans (hb.out.mono (by omega))
            have Hres := Lib.hid hres
            clear hEnd hfin hdeg hNo hYes hlo hcu hT hpk hS3 hres hb
            go_wp2
            go_quiet (fail)
            have hr2 : (wr.drewN nq).cell? ⟨w.heap.size + 1, 0, none⟩ = some (.slice none 0 0) := cell_of_one Hres.out
            have hf2 : (wr.drewN nq).frozen? ⟨w.heap.size + 1, 0, none⟩ = false := free_of_one Hres.out
            go_wp2
            have e1 : ((wr.drewN nq).setCell ⟨w.heap.size + 1, 0, none⟩ (.slice none 0 0)).cell? ⟨w.heap.size + 1, 0, none⟩ = some (.slice none 0 0) := (Boxed.set (W := wr.drewN nq) (.slice none 0 0) Hres.out).cell
            refine bodyPost_ret (v := .tuple #[.agg #[.slice none 0 0], .bool false]) (by simp [results, Try.results121, go_sem, e1]) rfl ?_
            exact leftQ_mk (fun h => by cases h) (below_setCell (below_drewN hfin2.out _) (by omega) _)
        · have hmp : 0 < m := by omega
          obtain ⟨s', j, rfl⟩ := snoc_of (st := s) (by rw [hsl2.out]; exact hmp)
          have hsl3 : Hid (s'.length = m - 1) := by have := hsl2.out; rw [List.length_append, List.length_singleton] at this; show _ = _; omega
          have hjk := M.stk_lt hS3.out
          obtain ⟨g2, rfl⟩ := hT.out.symm.shape.2 hmp
          obtain ⟨g1, rfl⟩ := hT.out.shape.2 (by omega)
          have hg0 : decide ((0 : Int) < (m : Int)) = true := decide_eq_true (by omega)
          have hmi : (0 : Int) < (m : Int) := by omega
          have hl0 : (0 : Int) ≤ (m : Int) - 1 := by omega
          have hl1 : (m : Int) - 1 < (m : Int) := by omega
          have hl2 : (1 : Int) ≤ (m : Int) := by omega
          have hcast : ((m : Int) - 1).toNat = m - 1 := by omega
          have hw1 : IntKind.i64.wrap ((m : Int) - 1) = (m : Int) - 1 := IntWalk.i64_in _ (by omega)
          have hm1 : ((m : Int) == 0) = false := beq_eq_false_iff_ne.2 (by omega)
          have hjn : (j : Int) < (n : Int) := by omega
          have hj0 : (0 : Int) ≤ (j : Int) := by omega
          have htop : Hid ((nums (s' ++ [j]))[m - 1]? = some (j : Int)) := by
            show _ = _
            rw [nums_snoc, ← hsl3.out, ← nums_len, List.getElem?_append_right (Nat.le_refl _), Nat.sub_self]; rfl
          have hnl : (nums (s' ++ [j])).length = m := by rw [nums_len]; exact hsl2.out
          have hgt := own64_cell hT.out.2.1 hnl htop.out
          have ct := hgt.1
          have hg2l := hgt.2.2.2
          have cx := hlo.out wr hb.out k hlt
          have cj := hlo.out wr hb.out j (by omega)
          have cu := hcu.out wr hb.out
          have hzW := hb.out
          have HK : Hid (∀ W, Hid (Below wr.heap.size wr W) → W.cell? ⟨b, off + k, none⟩ = some (.int .i64 (f k : Int)) ∧ W.cell? ⟨b, off + j, none⟩ = some (.int .i64 (f j : Int)) ∧ W.cell? ⟨g2, m - 1, none⟩ = some (.int .i64 (j : Int)) ∧ W.cell? ⟨w.heap.size, 0, none⟩ = some (.slice B us.length d)) := fun W hW =>
            ⟨hlo.out W (hzW.trans (hW.out.mono (by omega))) k hlt, hlo.out W (hzW.trans (hW.out.mono (by omega))) j (by omega), (hW.out.cell (p := ⟨g2, m - 1, none⟩) hg2l).trans ct, hcu.out W (hzW.trans (hW.out.mono (by omega)))⟩
          have HE : Hid (∀ W, Hid (Below wr.heap.size wr W) → Calls Try.prog 112 #[.agg #[.slice B us.length d], .int .i64 (f j : Int)] W fun e w' => e = .returned (.int .i64 (M.fin us (f j) : Int)) ∧ Hid (Below wr.heap.size wr w')) := fun W hW =>
            (hEnd.out j W (by omega) (hBW.out.trans ((hzW.mono (by omega)).trans (hW.out.mono (by omega))))).mono fun e w' ⟨he, hb⟩ => ⟨he, btr hW.out hb.out⟩
          have hK0 : Hid (Below wr.heap.size wr wr.drew) := (Below.refl _ _).drew
          have g0 : wr.drew.cell? ⟨b, off + k, none⟩ = some (.int .i64 (f k : Int)) := cx
          have g3 : wr.drew.cell? ⟨b, off + j, none⟩ = some (.int .i64 (f j : Int)) := cj
          have g4 : wr.drew.cell? ⟨g2, m - 1, none⟩ = some (.int .i64 (j : Int)) := ct
          have g5 : wr.drew.cell? ⟨w.heap.size, 0, none⟩ = some (.slice B us.length d) := cu
          have hf1 := hfin.out j
          by_cases hEX : M.fin us (f j) ≤ f k
          · have hEXi : (M.fin us (f j) : Int) ≤ (f k : Int) := by omega
            have hpop := Lib.hid (M.stk_pop hS3.out hEX)
            have hcap0 := hT.out.symm.cap
            have hcap : (m : Int) - 1 ≤ (c2 : Int) := by omega
            generalize M.fin us (f j) = E at *
            clear hfin hdeg hNo hYes hcu hS3 hgt hEX htop
            go_wp2
            go_region_held3 (fun w' => w'.cell? ⟨b, off + k, none⟩ = some (.int .i64 (f k : Int)) ∧ w'.cell? ⟨b, off + j, none⟩ = some (.int .i64 (f j : Int)) ∧ w'.cell? ⟨g2, m - 1, none⟩ = some (.int .i64 (j : Int)) ∧ w'.cell? ⟨w.heap.size, 0, none⟩ = some (.slice B us.length d) ∧ Hid (Below wr.heap.size wr w')) (first | exact ⟨g0, g3, g4, g5, hK0⟩ | exact ⟨(HK.out _ (by assumption)).1, (HK.out _ (by assumption)).2.1, (HK.out _ (by assumption)).2.2.1, (HK.out _ (by assumption)).2.2.2, by assumption⟩) (first | (go_at_call 112; refine (HE.out _ (by assumption)).mono ?_; rintro e w7 ⟨rfl, hb7⟩))
            have hT7 : Hid (Two w7 (w.heap.size + 1 + 1) (.slice (some ⟨g1, 0, none⟩) (k + 1) c3) (.slice (some ⟨g2, 0, none⟩) (m - 1) c2) (M.degs us f k ++ [0]) (nums s')) := by
              have h1 : Two w7 (w.heap.size + 1 + 1) (.slice (some ⟨g1, 0, none⟩) (k + 1) c3) (.slice (some ⟨g2, 0, none⟩) m c2) (M.degs us f k ++ [0]) (nums (s' ++ [j])) := ⟨own_be hT.out.1 hb7.out, own_be hT.out.2.1 hb7.out, hT.out.2.2⟩
              have h2 := h1.pop hmp
              rwa [nums_pop] at h2
            have hB7 : Hid (Below (w.heap.size + 1 + 1) W0 w7) := hb.out.trans (hb7.out.mono (by omega))
            clear hT hb hb7 HK HE g0 g3 g4 g5 hK0 ct cx cj cu
            go_wp2
            go_roundw
            case rel => exact ⟨m - 1, s', rfl, by omega, hsl3, hT7, hpop, hB7⟩
            case measure => simp [lenV]; omega
          · have hEXi : ¬ (M.fin us (f j) : Int) ≤ (f k : Int) := by omega
            have hfd := M.stk_found hu.out (fun q hq => (hrng.out q _ (List.getElem?_eq_getElem (by rw [hn.out]; omega))).2) (fun a q h1 h2 => hasc.out a q h1 (by omega)) hS3.out (by omega)
            have hkp : (0 : Int) < (k : Int) := by omega
            obtain ⟨y, hy⟩ : ∃ y, (M.degs us f k ++ [0])[j]? = some y := ⟨_, List.getElem?_eq_getElem (by rw [List.length_append, M.degs_len]; omega)⟩
            have hyr := hdeg.out k j y hy
            have hyr0 := hyr.1
            have hyr1 := hyr.2
            have hdl : (M.degs us f k ++ [0]).length = k + 1 := by rw [List.length_append, M.degs_len]; rfl
            have hunder : Hid (M.degs us f (k + 1) = (M.degs us f k ++ [0]).set j (y + 1)) := by
              show _ = _
              rw [M.degs_under hfd.2.1 hfd.1]
              congr 2
              rw [List.getElem?_append_left (by rw [M.degs_len]; exact hfd.1)] at hy
              rw [hy]; rfl
            have hstk := Lib.hid hfd.2.2
            have hpaj := Lib.hid hfd.2.1
            have hjki : (j : Int) < (k : Int) + 1 := by omega
            have Hy := Lib.hid hy
            have hdll := Lib.hid hdl
            generalize M.fin us (f j) = E at *
            clear hfin hdeg hNo hYes hcu hS3 hgt hEX hfd hy hyr hdl
            go_wp2
            go_region_held3 (fun w' => w'.cell? ⟨b, off + k, none⟩ = some (.int .i64 (f k : Int)) ∧ w'.cell? ⟨b, off + j, none⟩ = some (.int .i64 (f j : Int)) ∧ w'.cell? ⟨g2, m - 1, none⟩ = some (.int .i64 (j : Int)) ∧ w'.cell? ⟨w.heap.size, 0, none⟩ = some (.slice B us.length d) ∧ Hid (Below wr.heap.size wr w')) (first | exact ⟨g0, g3, g4, g5, hK0⟩ | exact ⟨(HK.out _ (by assumption)).1, (HK.out _ (by assumption)).2.1, (HK.out _ (by assumption)).2.2.1, (HK.out _ (by assumption)).2.2.2, by assumption⟩) (first | (go_at_call 112; refine (HE.out _ (by assumption)).mono ?_; rintro e w7 ⟨rfl, hb7⟩))
            have hT7 : Hid (Two w7 (w.heap.size + 1 + 1) (.slice (some ⟨g1, 0, none⟩) (k + 1) c3) (.slice (some ⟨g2, 0, none⟩) m c2) (M.degs us f k ++ [0]) (nums (s' ++ [j]))) := ⟨own_be hT.out.1 hb7.out, own_be hT.out.2.1 hb7.out, hT.out.2.2⟩
            have hB7 : Hid (Below (w.heap.size + 1 + 1) W0 w7) := hb.out.trans (hb7.out.mono (by omega))
            have ct7 := (own64_cell hT7.out.2.1 hnl htop.out).1
            obtain ⟨cd7, fd7, gl7, _⟩ := own64_cell hT7.out.1 hdll.out Hy.out
            have hz7 : w.heap.size + 1 + 1 ≤ w7.heap.size := by have := hB7.out.size; omega
            have hset : Hid (Two (w7.setCell ⟨g1, j, none⟩ (.int .i64 (y + 1))) (w.heap.size + 1 + 1) (.slice (some ⟨g2, 0, none⟩) m c2) (.slice (some ⟨g1, 0, none⟩) (k + 1) c3) (nums (s' ++ [j])) ((M.degs us f k ++ [0]).set j (y + 1))) := (hT7.out.set hdll.out j (y + 1)).symm
            have hB8 : Hid (Below (w.heap.size + 1 + 1) W0 (w7.setCell ⟨g1, j, none⟩ (.int .i64 (y + 1)))) := below_setCell hB7.out (by omega) _
            have hz8 : w.heap.size + 1 + 1 ≤ (w7.setCell ⟨g1, j, none⟩ (.int .i64 (y + 1))).heap.size := by simpa using hz7
            have hm6 : m ≤ 1000000 := by omega
            clear hT hb hb7 HK HE g0 g3 g4 g5 hK0 ct cx cj cu hT7 hB7
            go_wp2_with (at_builtin; refine pushTwo rfl (.tmp 63) (.tmp 65) rfl (w7.setCell ⟨g1, j, none⟩ (.int .i64 (y + 1))) (w.heap.size + 1 + 1) (some ⟨g2, 0, none⟩) m c2 (.slice (some ⟨g1, 0, none⟩) (k + 1) c3) (nums (s' ++ [j])) ((M.degs us f k ++ [0]).set j (y + 1)) (k : Int) rfl _ rfl (by simp) hset hz8 hm6 ?_; intro A4 c4 w4 ht4 hb4)
            have hTn : Hid (Two w4 (w.heap.size + 1 + 1) (.slice (some ⟨g1, 0, none⟩) (k + 1) c3) (.slice A4 (m + 1) c4) (M.degs us f (k + 1)) (nums (s' ++ [j] ++ [k]))) := by
              rw [hunder.out, nums_snoc (s' ++ [j]) k]; exact ht4.out.symm
            have hpan : Hid (∀ i, 0 < i → i < k + 1 → M.pa us f i ≠ -1) := fun i h1 h2 => by
              rcases Nat.lt_or_ge i k with h | h
              · exact hpa.out i h1 h
              · have : i = k := by omega
                rw [this, hpaj.out]; omega
            have hsln : Hid ((s' ++ [j] ++ [k]).length = m + 1) := by show _ = _; rw [List.length_append, hsl2.out]; rfl
            have hbn : Hid (Below (w.heap.size + 1 + 1) W0 w4) := hB8.out.trans hb4.out
            clear ht4 hb4 hB8 hset hpa
            go_roundw
            case rel => exact ⟨k + 1, m + 1, c3, c4, _, A4, s' ++ [j] ++ [k], hlt, by go_num, rfl, rfl, by omega, hsln, hTn, .inr ⟨by omega, by rw [Nat.add_sub_cancel]; exact hstk.out.symm⟩, hpan, hbn⟩
            case measure => simp [intOf]; omega
    · obtain rfl : k = n := by omega
      have hge : ¬ (k : Int) < (k : Int) := by omega
      have hR1 : R = true := hYes.out hpa.out
      have hres := (hb.out.block (w.heap.size + 1) (by omega)).trans hR.out
      have hr2 := cell_of_one hres
      have hf2 := free_of_one hres
      have hfin2 : Hid (Below w.heap.size w wr) := hBW.out.trans (hb.out.mono (by omega))
      have hI := Lib.hid (own_mono (base' := w.heap.size + 1 + 1) hT.out.1 (Nat.le_refl _))
      subst hR1
      clear hNo hYes hEnd hfin hdeg hpa hS hT hrng hasc
      go_wp2
      have e1 := (Boxed.set (.slice A1 k c1) hres).cell
      refine bodyPost_ret (v := .tuple #[.agg #[.slice A1 k c1], .bool true]) (by simp [results, Try.results121, go_sem, e1]) rfl ?_
      exact leftQ_mk (fun _ => ⟨rfl, ints_of_own64 (own_far hI.out (by omega) _)⟩) (below_setCell hfin2.out (by omega) _)
end Go.Proofs.Ytmhpobgfgimfcaa

/- IsInsideBy, the model's. -/
namespace Go.Proofs.Ytmhpobgfgimfcaa
open Go.RowKit

theorem tks_succ {xs ys : List Int} {k : Nat} {x : Int} (h : xs.take k = ys.take k) (hx : xs[k]? = some x) (hy : ys[k]? = some x) : xs.take (k + 1) = ys.take (k + 1) := by rw [List.take_add_one, List.take_add_one, h, hx, hy]

set_option maxHeartbeats 4000000 in
set_option maxRecDepth 100000 in
theorem l01Same (A B : Option Addr) (xs ys : List Int) (n m c d : Nat) (w : World) (hn : Hid (xs.length = n)) (hm : Hid (ys.length = m)) (hn' : n ≤ 1048576) (_hm' : m ≤ 1048576) (hA : Hid (Ints w w.heap.size A xs)) (hB : Hid (Ints w w.heap.size B ys)) :
    Calls Try.prog 122 #[.agg #[.slice A n c], .agg #[.slice B m d]] w fun e w' => e = .returned (.bool (xs == ys)) ∧ Hid (Below w.heap.size w w') := by
  obtain ⟨W0, hW0⟩ : ∃ W0, (w.alloc (.cells #[.slice A n c] 29)).alloc (.cells #[.slice B m d] 29) = W0 := ⟨_, rfl⟩
  have cT : W0.cell? ⟨w.heap.size, 0, none⟩ = some (.slice A n c) := by rw [← hW0]; exact cell_al (by simp) _
  have cU : W0.cell? ⟨w.heap.size + 1, 0, none⟩ = some (.slice B m d) := by rw [← hW0]; simp [go_sem]
  have hB0 : Hid (Below w.heap.size w W0) := by rw [← hW0]; exact bal (bal (b0 w) _) _
  have hI1 : Hid (Ints W0 W0.heap.size A xs) := hA.out.be hB0.out
  have hI2 : Hid (Ints W0 W0.heap.size B ys) := hB.out.be hB0.out
  have HW := Lib.hid hW0
  obtain ⟨R, hR⟩ : ∃ R, Hid ((xs == ys) = R) := ⟨_, rfl⟩
  rw [hR.out]
  clear hW0 hA hB
  by_cases hnm : n = m
  · have hne : ((n : Int) != (m : Int)) = false := by rw [hnm]; simp
    have Hnm := Lib.hid hnm
    clear hnm
    go_enter Try.func122, Try.ntmps122
    go_wp2
    rw [HW.out]
    go_wp2
    go_loopw [5] (fun qi wr => ∃ (k q : Nat), k ≤ n ∧ qi = .int .i64 (k : Int) ∧ wr = W0.drewN q ∧ Hid (xs.take k = ys.take k)) (fun qi _ => n - (intOf qi).toNat)
    case atStart => exact ⟨0, 0, Nat.zero_le _, rfl, rfl, by simp [Hid]⟩
    case round =>
      obtain ⟨k, q, hk, rfl, rfl, hT⟩ := hrel
      by_cases hlt : k < n
      · have hki : (k : Int) < (n : Int) := by omega
        have hk0 : (0 : Int) ≤ (k : Int) := by omega
        have hkm : (k : Int) < (m : Int) := by have := Hnm.out; omega
        have hx : xs[k]? = some (xs[k]'(by rw [hn.out]; exact hlt)) := List.getElem?_eq_getElem _
        have hy : ys[k]? = some (ys[k]'(by rw [hm.out]; have := Hnm.out; omega)) := List.getElem?_eq_getElem _
        generalize xs[k]'(by rw [hn.out]; exact hlt) = x at hx
        generalize ys[k]'(by rw [hm.out]; have := Hnm.out; omega) = y at hy
        obtain ⟨b, off, rfl, _, hc⟩ := hI1.out (by rw [hn.out]; omega)
        obtain ⟨b2, off2, rfl, _, hc2⟩ := hI2.out (by rw [hm.out]; have := Hnm.out; omega)
        have c1 := hc k x hx
        have c2 := hc2 k y hy
        by_cases hxy : x = y
        · subst hxy
          have e0 : (x != x) = false := by simp
          have hT2 := Lib.hid (tks_succ hT.out hx hy)
          clear hc hc2 hI1 hI2 hx hy hT
          go_wp2
          go_quiet (fail)
          go_wp2
          go_roundw
          case rel => exact ⟨k + 1, q + nq, by omega, by go_num, rfl, hT2⟩
          case measure => simp [intOf]; omega
        · have e0 : (x != y) = true := bne_iff_ne.2 hxy
          have hR0 : R = false := by
            rw [← hR.out]
            refine beq_eq_false_iff_ne.2 fun e => hxy ?_
            rw [e, hy] at hx
            injection hx with hx
            exact hx.symm
          clear hc hc2 hI1 hI2 hx hy hT hxy
          go_wp2
          go_quiet (fail)
          go_wp2
          go_ret
          exact ⟨by rw [hR0]; rfl, Lib.hid (below_drewN (below_drewN hB0.out _) _)⟩
      · obtain rfl : k = n := by omega
        have hR1 : R = true := by
          rw [← hR.out, beq_iff_eq]
          have := hT.out
          rwa [List.take_of_length_le (by rw [hn.out]; exact Nat.le_refl _), List.take_of_length_le (by rw [hm.out]; have := Hnm.out; omega)] at this
        clear hI1 hI2
        go_wp2
        go_ret
        exact ⟨by rw [hR1]; rfl, Lib.hid (below_drewN hB0.out _)⟩
  · have hne : ((n : Int) != (m : Int)) = true := bne_iff_ne.2 (by omega)
    have hR0 : R = false := by
      rw [← hR.out]
      refine beq_eq_false_iff_ne.2 fun e => hnm ?_
      rw [← hn.out, ← hm.out, e]
    clear hI1 hI2 hR hnm
    go_enter Try.func122, Try.ntmps122
    go_wp2
    rw [HW.out]
    go_wp2
    go_ret
    exact ⟨by rw [hR0]; rfl, hB0⟩

set_option maxHeartbeats 2000000 in
set_option maxRecDepth 100000 in
theorem l04Inside (A B C : Option Addr) (xs us vs : List Int) (c d n e : Nat) (w : World) (hx : xs.length ≤ 1000000) (hu : Hid (M.isTree us = true)) (hn : Hid (vs.length = n)) (hn24 : n ≤ 24) (hne : n ≤ e) (hl : Hid (vs.length = xs.length)) (hg : Hid (M.goodTo vs us.length vs.length = true)) (hA : Hid (Ints w w.heap.size A xs)) (hB : Hid (Ints w w.heap.size B us)) (hC : Hid (Ints w w.heap.size C vs)) :
    Calls Try.prog 90 #[.agg #[.slice A xs.length c], .agg #[.slice B us.length d], .slice C n e] w fun en w' => en = .returned (.bool (inB us vs xs)) ∧ Hid (Below w.heap.size w w') := by
  obtain ⟨W0, hW0⟩ : ∃ W0, (w.alloc (.cells #[.slice A xs.length c] 29)).alloc (.cells #[.slice B us.length d] 29) = W0 := ⟨_, rfl⟩
  have cT : W0.cell? ⟨w.heap.size, 0, none⟩ = some (.slice A xs.length c) := by rw [← hW0]; exact cell_al (by simp) _
  have cU : W0.cell? ⟨w.heap.size + 1, 0, none⟩ = some (.slice B us.length d) := by rw [← hW0]; simp [go_sem]
  have hB0 : Hid (Below w.heap.size w W0) := by rw [← hW0]; exact bal (bal (b0 w) _) _
  have hLf := Lib.hid (l04Left B C us vs d n e W0 hu hn hn24 hne hg (Lib.hid (hB.out.be hB0.out)) (Lib.hid (hC.out.be hB0.out)))
  have hSm : Hid (∀ A' m' c' W, Below w.heap.size w W → m' = n → Ints W W.heap.size A' (M.degs us (nodeF vs) n) → Calls Try.prog 122 #[.agg #[.slice A' m' c'], .agg #[.slice A xs.length c]] W fun e w' => e = .returned (.bool (M.degs us (nodeF vs) n == xs)) ∧ Hid (Below W.heap.size W w')) := fun A' m' c' W hb hm hI => by
    subst hm
    exact l01Same A' A (M.degs us (nodeF vs) m') xs m' xs.length c' c W (Lib.hid (M.degs_len _ _ _)) rfl (by omega) (by omega) (Lib.hid hI) (Lib.hid (hA.out.be hb))
  have hin : Hid (inB us vs xs = (leftOk us vs && (M.degs us (nodeF vs) n == xs))) := by show _ = _; rw [inB_left hl.out, hn.out]
  rw [hin.out]
  have HW := Lib.hid hW0
  generalize leftOk us vs = R at *
  generalize M.degs us (nodeF vs) n = D at *
  clear hW0 hA hB hC hin hg
  go_enter Try.func90, Try.ntmps90
  go_wp2_with fail
  rw [HW.out]
  refine hLf.out.mono ?_
  rintro en w1 ⟨A', m', c', rfl, hYes, hb1⟩
  have cT1 := cell_al (cell_be cT hb1.out) (.cells #[.slice A' m' c'] 29)
  have hB1 := Lib.hid (bal (btr hB0.out hb1.out) (.cells #[.slice A' m' c'] 29))
  cases R
  · clear hSm hYes hb1 hLf
    go_wp2
    go_ret
    exact ⟨rfl, hB1⟩
  · obtain ⟨hm, hI⟩ := hYes.out rfl
    have hS := Lib.hid (hSm.out A' m' c' _ hB1.out hm (hI.al (.cells #[.slice A' m' c'] 29)))
    clear hSm hYes hb1 hI hLf hm
    go_wp2_with fail
    refine hS.out.mono ?_
    rintro en w2 ⟨rfl, hb2⟩
    have hB2 := Lib.hid (btr hB1.out hb2.out)
    go_wp2
    go_ret
    exact ⟨rfl, hB2⟩
end Go.Proofs.Ytmhpobgfgimfcaa

/- IsInsideBy, the model's: the loop. -/
namespace Go.Proofs.Ytmhpobgfgimfcaa
open Go.RowKit

theorem anyTake {P : Program} {ops : Array Oper} {Q : Exit → Act → World → Prop} {md : Region.Mode} {S : World → Prop} {oi : Oper} {fuel : Nat} {listed : Array Bool} {a : Act} {w : World} (i : Nat) (d : Option Tmp) (v : Value) (hi : ops[i]? = some oi) (hd : oi.dst = d)
    (hs : Region.noSelect ops = true) (hf : Region.free md ops listed i = true) (hr : (Region.ready md ops listed).contains i = true)
    (hQ : ∀ c a w, Q (.panic c) (a.put d v) w → Q (.panic c) a w) (hw : Region.wanted oi (yielded ops a.tmps) = true) (hy : ∀ w, S w → (execOp a.eval oi).run P w = .ok (.value v) w) (hS : S w)
    (h : wpAnyH P md ops Q S fuel (listed.setIfInBounds i true) (a.put d v) w) : wpAnyH P md ops Q S (fuel + 1) listed a w := by
  subst hd; exact wpAnyH_take hi hs hf hr hQ (.inl ⟨hw, hy⟩) hS h

theorem anySkip {P : Program} {ops : Array Oper} {Q : Exit → Act → World → Prop} {md : Region.Mode} {S : World → Prop} {oi : Oper} {fuel : Nat} {listed : Array Bool} {a : Act} {w : World} (i : Nat) (d : Option Tmp) (hi : ops[i]? = some oi) (hd : oi.dst = d)
    (hs : Region.noSelect ops = true) (hf : Region.free md ops listed i = true) (hr : (Region.ready md ops listed).contains i = true)
    (hQ : ∀ c a w, Q (.panic c) (a.put d undef) w → Q (.panic c) a w) (hw : Region.wanted oi (yielded ops a.tmps) = false) (hS : S w)
    (h : wpAnyH P md ops Q S fuel (listed.setIfInBounds i true) (a.put d undef) w) : wpAnyH P md ops Q S (fuel + 1) listed a w := by
  subst hd; exact wpAnyH_take hi hs hf hr hQ (.inr ⟨hw, rfl⟩) hS h

set_option maxHeartbeats 4000000 in
set_option maxRecDepth 100000 in
theorem spec_IsInsideBy : GivesTTL 47 F_IsInsideBy := by
  intro A B C xs us vs c d n e w hx hu hn' hcc hdd hee hn hA hB hC
  have cT0 : Hid (((w.alloc (.cells #[.slice A xs.length c] 29)).alloc (.cells #[.slice B us.length d] 29)).cell? ⟨w.heap.size, 0, none⟩ = some (.slice A xs.length c)) := cell_al (by simp) _
  have cU0 : Hid (((w.alloc (.cells #[.slice A xs.length c] 29)).alloc (.cells #[.slice B us.length d] 29)).cell? ⟨w.heap.size + 1, 0, none⟩ = some (.slice B us.length d)) := by simp [Hid, go_sem]
  have hB0 := Lib.hid (bal (bal (b0 w) (.cells #[.slice A xs.length c] 29)) (.cells #[.slice B us.length d] 29))
  have hI1 := Lib.hid (fun W (hb : Below w.heap.size w W) => specIs A xs c W (by omega) (hA.out.be hb))
  have hI2 := Lib.hid (fun W (hb : Below w.heap.size w W) => specIs B us d W (by omega) (hB.out.be hb))
  cases ht : M.isTree xs
  · rw [F_In_no1 ht]
    rw [ht] at hI1
    clear ht hA hB hC
    go_enter Try.func47, Try.ntmps47
    go_wp2_with fail
    refine (hI1.out _ hB0.out).mono ?_
    rintro en w1 ⟨rfl, hb1⟩
    have hB1 := Lib.hid (btr hB0.out hb1)
    go_wp2
    go_ret2
    exact ⟨rfl, hB1.out⟩
  · rw [ht] at hI1
    cases hu' : M.isTree us
    · rw [F_In_no2 hu']
      rw [hu'] at hI2
      clear ht hu' hA hB hC
      go_enter Try.func47, Try.ntmps47
      go_wp2_with fail
      refine (hI1.out _ hB0.out).mono ?_
      rintro en w1 ⟨rfl, hb1⟩
      have hB1 := Lib.hid (btr hB0.out hb1)
      have cU1 := cell_be cU0.out hb1
      clear hb1
      go_wp2_with fail
      refine (hI2.out _ hB1.out).mono ?_
      rintro en w2 ⟨rfl, hb2⟩
      have hB2 := Lib.hid (btr hB1.out hb2)
      go_wp2
      go_ret2
      exact ⟨rfl, hB2.out⟩
    · rw [hu'] at hI2
      have hx24 := (M.tree_len ht).2
      have hu24 := (M.tree_len hu').2
      by_cases hl : vs.length = xs.length
      · have hnn : Hid (n = xs.length) := by show _ = _; rw [← hn.out]; exact hl
        have hne : ((n : Int) != (xs.length : Int)) = false := by rw [hnn.out]; simp
        have hFno : Hid (M.goodTo vs us.length vs.length = false → F_IsInsideBy xs us vs = (false, 2)) := fun h => F_In_range ht hu' (fun h' => by rw [h] at h'; cases h'.2)
        have hFyes : Hid (M.goodTo vs us.length vs.length = true → F_IsInsideBy xs us vs = (inB us vs xs, 0)) := fun h => F_In_yes ht hu' hl h
        have hIn : Hid (M.goodTo vs us.length vs.length = true → ∀ W, Below w.heap.size w W → Calls Try.prog 90 #[.agg #[.slice A xs.length c], .agg #[.slice B us.length d], .slice C n e] W fun en w' => en = .returned (.bool (inB us vs xs)) ∧ Hid (Below W.heap.size W w')) := fun h W hb =>
          l04Inside A B C xs us vs c d n e W (by omega) (Lib.hid hu') hn (by have := hnn.out; omega) hee.1 (Lib.hid hl) (Lib.hid h) (Lib.hid (hA.out.be hb)) (Lib.hid (hB.out.be hb)) (Lib.hid (hC.out.be hb))
        have hst : Hid (M.goodTo vs us.length 0 = true) := rfl
        generalize F_IsInsideBy xs us vs = F at *
        generalize inB us vs xs = R at *
        clear ht hu' hA hB hl
        go_enter Try.func47, Try.ntmps47
        go_wp2_with fail
        refine (hI1.out _ hB0.out).mono ?_
        rintro en w1 ⟨rfl, hb1⟩
        have hB1 := Lib.hid (btr hB0.out hb1)
        have cU1 := cell_be cU0.out hb1
        have cT1 := cell_be cT0.out hb1
        clear hb1
        go_wp2_with fail
        refine (hI2.out _ hB1.out).mono ?_
        rintro en w2 ⟨rfl, hb2⟩
        have hB2 := Lib.hid (btr hB1.out hb2)
        have cU2 := cell_be cU1 hb2
        have cT2 := cell_be cT1 hb2
        have HU2 := Lib.hid cU2
        have HT2 := Lib.hid cT2
        have hIv := Lib.hid (hC.out.be hB2.out)
        have hbw0 := Lib.hid (b0 w2)
        clear hb2 cU1 cT1 hC hB1 hI1 hI2 cT0 cU0
        go_wp2
        clear cT2 cU2
        go_loopw [8] (fun qi wr => ∃ (k : Nat), k ≤ n ∧ qi = .int .i64 (k : Int) ∧ Hid (M.goodTo vs us.length k = true) ∧ Hid (Below w2.heap.size w2 wr)) (fun qi _ => n - (intOf qi).toNat)
        case atStart => exact ⟨0, Nat.zero_le _, rfl, hst, hbw0⟩
        case round =>
          obtain ⟨k, hk, rfl, hg, hbr⟩ := hrel
          clear hst hbw0 hne
          by_cases hlt : k < n
          · have hki : (k : Int) < (n : Int) := by omega
            have hk0 : (0 : Int) ≤ (k : Int) := by omega
            have hkz : k < vs.length := by rw [hn.out]; exact hlt
            have hat : vs[k]? = some vs[k] := List.getElem?_eq_getElem hkz
            generalize vs[k] = x at hat
            obtain ⟨b, off, rfl, hbl, hc⟩ := hIv.out (by omega)
            have hgd := hat
            have hN : ∀ W, Hid (Below wr.heap.size wr W) → Calls Try.prog 89 #[.agg #[.slice B us.length d]] W fun e w' => e = .returned (.int .i64 us.length) ∧ Hid (Below wr.heap.size wr w') := fun W hW =>
              (l01N B us.length d W).mono fun e w' ⟨he, hb⟩ => ⟨he, btr hW.out hb⟩
            have HN := Lib.hid hN
            clear hN
            have hwrap : IntKind.i64.wrap ((us.length : Int) - 1) = (us.length : Int) - 1 := IntWalk.i64_in _ (by omega)
            obtain ⟨bv, hbv⟩ : ∃ bv, Hid ((decide ((0 : Int) ≤ x) && decide (x ≤ (us.length : Int) - 1)) = bv) := ⟨_, rfl⟩
            have hcell : ∀ j y, vs[j]? = some y → ∀ W, Hid (Below wr.heap.size wr W) → W.cell? ⟨b, off + j, none⟩ = some (.int .i64 y) := fun j y hj W hW => ((hbr.out.trans (hW.out.mono hbr.out.size)).cell (p := ⟨b, off + j, none⟩) hbl).trans (hc j y hj)
            have Hcell := Lib.hid hcell
            have HU : Hid (∀ W, Hid (Below wr.heap.size wr W) → W.cell? ⟨w.heap.size + 1, 0, none⟩ = some (.slice B us.length d)) := fun W hW => cell_be (cell_be HU2.out hbr.out) hW.out
            have hw0 : Hid (Below wr.heap.size wr wr) := b0 wr
            have hK0 : Hid (Below wr.heap.size wr wr.drew) := (Below.refl _ _).drew
            have g0 : wr.drew.cell? ⟨b, off + k, none⟩ = some (.int .i64 x) := Hcell.out k x hat _ hK0
            have g1 : wr.cell? ⟨b, off + k, none⟩ = some (.int .i64 x) := Hcell.out k x hat _ hw0
            have u0 : wr.drew.cell? ⟨w.heap.size + 1, 0, none⟩ = some (.slice B us.length d) := HU.out _ hK0
            have u1 : wr.cell? ⟨w.heap.size + 1, 0, none⟩ = some (.slice B us.length d) := HU.out _ hw0
            have Hat := Lib.hid hat
            have hgi := M.goodAt_iff (vs := vs) (n := (us.length : Int)) (j := k)
            rw [hat] at hgi
            have Hgi := Lib.hid hgi
            clear hcell hc hat hgd hgi
            cases bv
            · have hbad : M.goodAt vs us.length k = false := by
                cases h : M.goodAt vs us.length k
                · rfl
                · have := Hgi.out.1 h
                  have h2 := hbv.out
                  simp at h2
                  have h3 : (some x).getD 0 = x := rfl
                  omega
              have hF := hFno.out (M.goodTo_no (by rw [hn.out]; exact hlt) hbad)
              subst hF
              clear hbad hFno hFyes hIn hg
              go_wp2
              refine wp_region_held_drew (S := (fun w' => w'.cell? ⟨b, off + k, none⟩ = some (.int .i64 x) ∧ w'.cell? ⟨w.heap.size + 1, 0, none⟩ = some (.slice B us.length d) ∧ Hid (Below wr.heap.size wr w'))) (by kernel_rfl) (by exact ⟨g0, u0, hK0⟩) (fun hHeld0 => ?_)
              refine anyTake 0 (some 29) (.slice (some ⟨b, off, none⟩) n e) rfl rfl (by kernel_rfl) (by kernel_rfl) (by kernel_rfl) (fun _ _ _ h => h) (by rfl) (by intro w hSw; (try dsimp only at hSw); go_simp) (by assumption) ?_
              try simp only [Act.put, List.setIfInBounds_toArray, List.set_cons_zero, List.set_cons_succ]
              refine anyTake 1 (some 30) (.int .i64 ((k : Nat) : Int)) rfl rfl (by kernel_rfl) (by kernel_rfl) (by kernel_rfl) (fun _ _ _ h => h) (by rfl) (by intro w hSw; (try dsimp only at hSw); go_simp) (by assumption) ?_
              try simp only [Act.put, List.setIfInBounds_toArray, List.set_cons_zero, List.set_cons_succ]
              refine anyTake 2 (some 31) (.pointer (some ⟨b, off + k, none⟩)) rfl rfl (by kernel_rfl) (by kernel_rfl) (by kernel_rfl) (fun _ _ _ h => h) (by rfl) (by intro w hSw; (try dsimp only at hSw); go_simp) (by assumption) ?_
              try simp only [Act.put, List.setIfInBounds_toArray, List.set_cons_zero, List.set_cons_succ]
              refine anyTake 3 (some 32) (.int .i64 x) rfl rfl (by kernel_rfl) (by kernel_rfl) (by kernel_rfl) (fun _ _ _ h => h) (by rfl) (by intro w hSw; (try dsimp only at hSw); go_simp) (by assumption) ?_
              try simp only [Act.put, List.setIfInBounds_toArray, List.set_cons_zero, List.set_cons_succ]
              refine anyTake 4 (some 33) (.agg #[.slice B us.length d]) rfl rfl (by kernel_rfl) (by kernel_rfl) (by kernel_rfl) (fun _ _ _ h => h) (by rfl) (by intro w hSw; (try dsimp only at hSw); go_simp) (by assumption) ?_
              try simp only [Act.put, List.setIfInBounds_toArray, List.set_cons_zero, List.set_cons_succ]
              refine wpAnyH_ready (rs := [5]) (by kernel_rfl) (by simp) ?_
              refine AllReadyH.cons rfl (fun K hK => ?_) AllReadyH.nil
              go_simp
              go_at_call 89
              refine (HN.out _ (by exact hHeld0.2.2)).mono ?_
              rintro e w7 ⟨rfl, hb7⟩
              go_wp2_with fail
              refine hK.out _ _ (by exact ⟨Hcell.out k x Hat.out _ (by assumption), HU.out _ (by assumption), by assumption⟩) (fun hHeld => ?_)
              clear hK K
              try simp only [Act.put, List.setIfInBounds_toArray, List.set_cons_zero, List.set_cons_succ]
              clear hHeld0
              have hHeld0 := hHeld
              clear hHeld
              refine anyTake 6 (some 35) (.int .i64 ((us.length : Int) - 1)) rfl rfl (by kernel_rfl) (by kernel_rfl) (by kernel_rfl) (fun _ _ _ h => h) (by rfl) (by intro w hSw; (try dsimp only at hSw); go_simp) (by assumption) ?_
              try simp only [Act.put, List.setIfInBounds_toArray, List.set_cons_zero, List.set_cons_succ]
              refine wpAnyH_ready (rs := [7]) (by kernel_rfl) (by simp) ?_
              refine AllReadyH.cons rfl (fun K hK => ?_) AllReadyH.nil
              go_simp
              go_at_call 88
              refine (inAny _ _ _ _ false hbv).mono ?_
              rintro e w8 ⟨rfl, rfl⟩
              go_wp2_with fail
              refine hK.out _ _ (by exact ⟨Hcell.out k x Hat.out _ (by assumption), HU.out _ (by assumption), by assumption⟩) (fun hHeld => ?_)
              clear hK K
              try simp only [Act.put, List.setIfInBounds_toArray, List.set_cons_zero, List.set_cons_succ]
              clear hHeld0
              have hHeld0 := hHeld
              clear hHeld
              refine anyTake 8 (some 37) (.bool true) rfl rfl (by kernel_rfl) (by kernel_rfl) (by kernel_rfl) (fun _ _ _ h => h) (by rfl) (by intro w hSw; (try dsimp only at hSw); go_simp) (by assumption) ?_
              try simp only [Act.put, List.setIfInBounds_toArray, List.set_cons_zero, List.set_cons_succ]
              refine anyTake 9 (some 38) (.bool true) rfl rfl (by kernel_rfl) (by kernel_rfl) (by kernel_rfl) (fun _ _ _ h => h) (by rfl) (by intro w hSw; (try dsimp only at hSw); go_simp) (by assumption) ?_
              try simp only [Act.put, List.setIfInBounds_toArray, List.set_cons_zero, List.set_cons_succ]
              refine anySkip 10 (some 39) rfl rfl (by kernel_rfl) (by kernel_rfl) (by kernel_rfl) (fun _ _ _ h => h) (by rfl) (by assumption) ?_
              try simp only [Act.put, List.setIfInBounds_toArray, List.set_cons_zero, List.set_cons_succ]
              refine anySkip 11 (some 40) rfl rfl (by kernel_rfl) (by kernel_rfl) (by kernel_rfl) (fun _ _ _ h => h) (by rfl) (by assumption) ?_
              try simp only [Act.put, List.setIfInBounds_toArray, List.set_cons_zero, List.set_cons_succ]
              refine anySkip 12 (some 41) rfl rfl (by kernel_rfl) (by kernel_rfl) (by kernel_rfl) (fun _ _ _ h => h) (by rfl) (by assumption) ?_
              try simp only [Act.put, List.setIfInBounds_toArray, List.set_cons_zero, List.set_cons_succ]
              refine anySkip 13 (some 42) rfl rfl (by kernel_rfl) (by kernel_rfl) (by kernel_rfl) (fun _ _ _ h => h) (by rfl) (by assumption) ?_
              try simp only [Act.put, List.setIfInBounds_toArray, List.set_cons_zero, List.set_cons_succ]
              refine anySkip 14 (some 43) rfl rfl (by kernel_rfl) (by kernel_rfl) (by kernel_rfl) (fun _ _ _ h => h) (by rfl) (by assumption) ?_
              try simp only [Act.put, List.setIfInBounds_toArray, List.set_cons_zero, List.set_cons_succ]
              refine anySkip 15 (some 44) rfl rfl (by kernel_rfl) (by kernel_rfl) (by kernel_rfl) (fun _ _ _ h => h) (by rfl) (by assumption) ?_
              try simp only [Act.put, List.setIfInBounds_toArray, List.set_cons_zero, List.set_cons_succ]
              refine anySkip 16 (some 45) rfl rfl (by kernel_rfl) (by kernel_rfl) (by kernel_rfl) (fun _ _ _ h => h) (by rfl) (by assumption) ?_
              try simp only [Act.put, List.setIfInBounds_toArray, List.set_cons_zero, List.set_cons_succ]
              refine anySkip 17 (some 46) rfl rfl (by kernel_rfl) (by kernel_rfl) (by kernel_rfl) (fun _ _ _ h => h) (by rfl) (by assumption) ?_
              try simp only [Act.put, List.setIfInBounds_toArray, List.set_cons_zero, List.set_cons_succ]
              refine anySkip 18 (some 47) rfl rfl (by kernel_rfl) (by kernel_rfl) (by kernel_rfl) (fun _ _ _ h => h) (by rfl) (by assumption) ?_
              try simp only [Act.put, List.setIfInBounds_toArray, List.set_cons_zero, List.set_cons_succ]
              refine anySkip 19 (some 48) rfl rfl (by kernel_rfl) (by kernel_rfl) (by kernel_rfl) (fun _ _ _ h => h) (by rfl) (by assumption) ?_
              try simp only [Act.put, List.setIfInBounds_toArray, List.set_cons_zero, List.set_cons_succ]
              refine anySkip 20 (some 49) rfl rfl (by kernel_rfl) (by kernel_rfl) (by kernel_rfl) (fun _ _ _ h => h) (by rfl) (by assumption) ?_
              try simp only [Act.put, List.setIfInBounds_toArray, List.set_cons_zero, List.set_cons_succ]
              refine anySkip 21 (some 50) rfl rfl (by kernel_rfl) (by kernel_rfl) (by kernel_rfl) (fun _ _ _ h => h) (by rfl) (by assumption) ?_
              try simp only [Act.put, List.setIfInBounds_toArray, List.set_cons_zero, List.set_cons_succ]
              refine anySkip 22 (some 51) rfl rfl (by kernel_rfl) (by kernel_rfl) (by kernel_rfl) (fun _ _ _ h => h) (by rfl) (by assumption) ?_
              try simp only [Act.put, List.setIfInBounds_toArray, List.set_cons_zero, List.set_cons_succ]
              refine anySkip 23 (some 52) rfl rfl (by kernel_rfl) (by kernel_rfl) (by kernel_rfl) (fun _ _ _ h => h) (by rfl) (by assumption) ?_
              try simp only [Act.put, List.setIfInBounds_toArray, List.set_cons_zero, List.set_cons_succ]
              refine anyTake 24 (some 53) (.bool true) rfl rfl (by kernel_rfl) (by kernel_rfl) (by kernel_rfl) (fun _ _ _ h => h) (by rfl) (by intro w hSw; (try dsimp only at hSw); go_simp) (by assumption) ?_
              try simp only [Act.put, List.setIfInBounds_toArray, List.set_cons_zero, List.set_cons_succ]
              refine wpAnyH_done (by kernel_rfl) ?_ _
              have hB7 := Lib.hid (btr hB2.out (btr hbr.out hb7.out))
              go_wp2
              go_ret2
              exact ⟨rfl, hB7.out⟩
            · have hin : 0 ≤ x ∧ x < (us.length : Int) := by have h2 := hbv.out; simp at h2; omega
              by_cases hk00 : k = 0
              · subst hk00
                have hd0 : decide ((0 : Int) < ((0 : Nat) : Int)) = false := rfl
                have hg2 : Hid (M.goodTo vs us.length (0 + 1) = true) := by
                  show _ = _
                  rw [M.goodTo_succ, hg.out, Hgi.out.2 ⟨hin.1, hin.2, .inl rfl⟩]; rfl
                clear hFno hFyes hIn hg hin
                go_wp2
                refine wp_region_held_drew (S := (fun w' => w'.cell? ⟨b, off, none⟩ = some (.int .i64 x) ∧ w'.cell? ⟨w.heap.size + 1, 0, none⟩ = some (.slice B us.length d) ∧ Hid (Below wr.heap.size wr w'))) (by kernel_rfl) (by exact ⟨g0, u0, hK0⟩) (fun hHeld0 => ?_)
                refine anyTake 0 (some 29) (.slice (some ⟨b, off, none⟩) n e) rfl rfl (by kernel_rfl) (by kernel_rfl) (by kernel_rfl) (fun _ _ _ h => h) (by rfl) (by intro w hSw; (try dsimp only at hSw); go_simp) (by assumption) ?_
                try simp only [Act.put, List.setIfInBounds_toArray, List.set_cons_zero, List.set_cons_succ]
                refine anyTake 1 (some 30) (.int .i64 ((0 : Nat) : Int)) rfl rfl (by kernel_rfl) (by kernel_rfl) (by kernel_rfl) (fun _ _ _ h => h) (by rfl) (by intro w hSw; (try dsimp only at hSw); go_simp) (by assumption) ?_
                try simp only [Act.put, List.setIfInBounds_toArray, List.set_cons_zero, List.set_cons_succ]
                refine anyTake 2 (some 31) (.pointer (some ⟨b, off, none⟩)) rfl rfl (by kernel_rfl) (by kernel_rfl) (by kernel_rfl) (fun _ _ _ h => h) (by rfl) (by intro w hSw; (try dsimp only at hSw); go_simp) (by assumption) ?_
                try simp only [Act.put, List.setIfInBounds_toArray, List.set_cons_zero, List.set_cons_succ]
                refine anyTake 3 (some 32) (.int .i64 x) rfl rfl (by kernel_rfl) (by kernel_rfl) (by kernel_rfl) (fun _ _ _ h => h) (by rfl) (by intro w hSw; (try dsimp only at hSw); go_simp) (by assumption) ?_
                try simp only [Act.put, List.setIfInBounds_toArray, List.set_cons_zero, List.set_cons_succ]
                refine anyTake 4 (some 33) (.agg #[.slice B us.length d]) rfl rfl (by kernel_rfl) (by kernel_rfl) (by kernel_rfl) (fun _ _ _ h => h) (by rfl) (by intro w hSw; (try dsimp only at hSw); go_simp) (by assumption) ?_
                try simp only [Act.put, List.setIfInBounds_toArray, List.set_cons_zero, List.set_cons_succ]
                refine wpAnyH_ready (rs := [5]) (by kernel_rfl) (by simp) ?_
                refine AllReadyH.cons rfl (fun K hK => ?_) AllReadyH.nil
                go_simp
                go_at_call 89
                refine (HN.out _ (by exact hHeld0.2.2)).mono ?_
                rintro e w7 ⟨rfl, hb7⟩
                go_wp2_with fail
                refine hK.out _ _ (by exact ⟨Hcell.out 0 x Hat.out _ (by assumption), HU.out _ (by assumption), by assumption⟩) (fun hHeld => ?_)
                clear hK K
                try simp only [Act.put, List.setIfInBounds_toArray, List.set_cons_zero, List.set_cons_succ]
                clear hHeld0
                have hHeld0 := hHeld
                clear hHeld
                refine anyTake 6 (some 35) (.int .i64 ((us.length : Int) - 1)) rfl rfl (by kernel_rfl) (by kernel_rfl) (by kernel_rfl) (fun _ _ _ h => h) (by rfl) (by intro w hSw; (try dsimp only at hSw); go_simp) (by assumption) ?_
                try simp only [Act.put, List.setIfInBounds_toArray, List.set_cons_zero, List.set_cons_succ]
                refine wpAnyH_ready (rs := [7]) (by kernel_rfl) (by simp) ?_
                refine AllReadyH.cons rfl (fun K hK => ?_) AllReadyH.nil
                go_simp
                go_at_call 88
                refine (inAny _ _ _ _ true hbv).mono ?_
                rintro e w8 ⟨rfl, rfl⟩
                go_wp2_with fail
                refine hK.out _ _ (by exact ⟨Hcell.out 0 x Hat.out _ (by assumption), HU.out _ (by assumption), by assumption⟩) (fun hHeld => ?_)
                clear hK K
                try simp only [Act.put, List.setIfInBounds_toArray, List.set_cons_zero, List.set_cons_succ]
                clear hHeld0
                have hHeld0 := hHeld
                clear hHeld
                refine anyTake 8 (some 37) (.bool false) rfl rfl (by kernel_rfl) (by kernel_rfl) (by kernel_rfl) (fun _ _ _ h => h) (by rfl) (by intro w hSw; (try dsimp only at hSw); go_simp) (by assumption) ?_
                try simp only [Act.put, List.setIfInBounds_toArray, List.set_cons_zero, List.set_cons_succ]
                refine anyTake 9 (some 38) (.bool false) rfl rfl (by kernel_rfl) (by kernel_rfl) (by kernel_rfl) (fun _ _ _ h => h) (by rfl) (by intro w hSw; (try dsimp only at hSw); go_simp) (by assumption) ?_
                try simp only [Act.put, List.setIfInBounds_toArray, List.set_cons_zero, List.set_cons_succ]
                refine anyTake 10 (some 39) (.int .i64 ((0 : Nat) : Int)) rfl rfl (by kernel_rfl) (by kernel_rfl) (by kernel_rfl) (fun _ _ _ h => h) (by rfl) (by intro w hSw; (try dsimp only at hSw); go_simp) (by assumption) ?_
                try simp only [Act.put, List.setIfInBounds_toArray, List.set_cons_zero, List.set_cons_succ]
                refine anyTake 11 (some 40) (.bool false) rfl rfl (by kernel_rfl) (by kernel_rfl) (by kernel_rfl) (fun _ _ _ h => h) (by rfl) (by intro w hSw; (try dsimp only at hSw); go_simp) (by assumption) ?_
                try simp only [Act.put, List.setIfInBounds_toArray, List.set_cons_zero, List.set_cons_succ]
                refine anyTake 12 (some 41) (.bool false) rfl rfl (by kernel_rfl) (by kernel_rfl) (by kernel_rfl) (fun _ _ _ h => h) (by rfl) (by intro w hSw; (try dsimp only at hSw); go_simp) (by assumption) ?_
                try simp only [Act.put, List.setIfInBounds_toArray, List.set_cons_zero, List.set_cons_succ]
                refine anySkip 13 (some 42) rfl rfl (by kernel_rfl) (by kernel_rfl) (by kernel_rfl) (fun _ _ _ h => h) (by rfl) (by assumption) ?_
                try simp only [Act.put, List.setIfInBounds_toArray, List.set_cons_zero, List.set_cons_succ]
                refine anySkip 14 (some 43) rfl rfl (by kernel_rfl) (by kernel_rfl) (by kernel_rfl) (fun _ _ _ h => h) (by rfl) (by assumption) ?_
                try simp only [Act.put, List.setIfInBounds_toArray, List.set_cons_zero, List.set_cons_succ]
                refine anySkip 15 (some 44) rfl rfl (by kernel_rfl) (by kernel_rfl) (by kernel_rfl) (fun _ _ _ h => h) (by rfl) (by assumption) ?_
                try simp only [Act.put, List.setIfInBounds_toArray, List.set_cons_zero, List.set_cons_succ]
                refine anySkip 16 (some 45) rfl rfl (by kernel_rfl) (by kernel_rfl) (by kernel_rfl) (fun _ _ _ h => h) (by rfl) (by assumption) ?_
                try simp only [Act.put, List.setIfInBounds_toArray, List.set_cons_zero, List.set_cons_succ]
                refine anySkip 17 (some 46) rfl rfl (by kernel_rfl) (by kernel_rfl) (by kernel_rfl) (fun _ _ _ h => h) (by rfl) (by assumption) ?_
                try simp only [Act.put, List.setIfInBounds_toArray, List.set_cons_zero, List.set_cons_succ]
                refine anySkip 18 (some 47) rfl rfl (by kernel_rfl) (by kernel_rfl) (by kernel_rfl) (fun _ _ _ h => h) (by rfl) (by assumption) ?_
                try simp only [Act.put, List.setIfInBounds_toArray, List.set_cons_zero, List.set_cons_succ]
                refine anySkip 19 (some 48) rfl rfl (by kernel_rfl) (by kernel_rfl) (by kernel_rfl) (fun _ _ _ h => h) (by rfl) (by assumption) ?_
                try simp only [Act.put, List.setIfInBounds_toArray, List.set_cons_zero, List.set_cons_succ]
                refine anySkip 20 (some 49) rfl rfl (by kernel_rfl) (by kernel_rfl) (by kernel_rfl) (fun _ _ _ h => h) (by rfl) (by assumption) ?_
                try simp only [Act.put, List.setIfInBounds_toArray, List.set_cons_zero, List.set_cons_succ]
                refine anySkip 21 (some 50) rfl rfl (by kernel_rfl) (by kernel_rfl) (by kernel_rfl) (fun _ _ _ h => h) (by rfl) (by assumption) ?_
                try simp only [Act.put, List.setIfInBounds_toArray, List.set_cons_zero, List.set_cons_succ]
                refine anySkip 22 (some 51) rfl rfl (by kernel_rfl) (by kernel_rfl) (by kernel_rfl) (fun _ _ _ h => h) (by rfl) (by assumption) ?_
                try simp only [Act.put, List.setIfInBounds_toArray, List.set_cons_zero, List.set_cons_succ]
                refine anyTake 23 (some 52) (.bool false) rfl rfl (by kernel_rfl) (by kernel_rfl) (by kernel_rfl) (fun _ _ _ h => h) (by rfl) (by intro w hSw; (try dsimp only at hSw); go_simp) (by assumption) ?_
                try simp only [Act.put, List.setIfInBounds_toArray, List.set_cons_zero, List.set_cons_succ]
                refine anyTake 24 (some 53) (.bool false) rfl rfl (by kernel_rfl) (by kernel_rfl) (by kernel_rfl) (fun _ _ _ h => h) (by rfl) (by intro w hSw; (try dsimp only at hSw); go_simp) (by assumption) ?_
                try simp only [Act.put, List.setIfInBounds_toArray, List.set_cons_zero, List.set_cons_succ]
                refine wpAnyH_done (by kernel_rfl) ?_ _
                have hB7 := Lib.hid (btr hbr.out hb7.out)
                clear HN HU Hcell g0 g1 u0 u1 hK0 hw0
                go_wp2
                go_roundw
                case rel => exact ⟨0 + 1, hlt, by go_num, hg2, hB7⟩
                case measure => simp [intOf]; omega
              · have hd0 : decide ((0 : Int) < (k : Int)) = true := decide_eq_true (by omega)
                have hkp : (0 : Int) < (k : Int) := by omega
                have hkn : 0 < k := by omega
                have hk1 : (1 : Int) ≤ (k : Int) := by omega
                have hl0 : (0 : Int) ≤ (k : Int) - 1 := by omega
                have hl1 : (k : Int) - 1 < (n : Int) := by omega
                have hcast : ((k : Int) - 1).toNat = k - 1 := by omega
                have hw1 : IntKind.i64.wrap ((k : Int) - 1) = (k : Int) - 1 := IntWalk.i64_in _ (by omega)
                have hpz : k - 1 < vs.length := by rw [hn.out]; omega
                have hpt : vs[k - 1]? = some vs[k - 1] := List.getElem?_eq_getElem hpz
                generalize vs[k - 1] = y at hpt
                have g3 : wr.drew.cell? ⟨b, off + (k - 1), none⟩ = some (.int .i64 y) := Hcell.out (k - 1) y hpt _ hK0
                have g4 : wr.cell? ⟨b, off + (k - 1), none⟩ = some (.int .i64 y) := Hcell.out (k - 1) y hpt _ hw0
                have Hpt := Lib.hid hpt
                by_cases hyx : x ≤ y
                · have hbad : M.goodAt vs us.length k = false := by
                    cases h : M.goodAt vs us.length k
                    · rfl
                    · have := Hgi.out.1 h
                      rw [hpt] at this
                      have h3 : (some x).getD 0 = x := rfl
                      have h4 : (some y).getD 0 = y := rfl
                      omega
                  have hF := hFno.out (M.goodTo_no (by rw [hn.out]; exact hlt) hbad)
                  subst hF
                  clear hbad hFno hFyes hIn hg hin hpt
                  go_wp2
                  refine wp_region_held_drew (S := (fun w' => w'.cell? ⟨b, off + k, none⟩ = some (.int .i64 x) ∧ w'.cell? ⟨b, off + (k - 1), none⟩ = some (.int .i64 y) ∧ w'.cell? ⟨w.heap.size + 1, 0, none⟩ = some (.slice B us.length d) ∧ Hid (Below wr.heap.size wr w'))) (by kernel_rfl) (by exact ⟨g0, g3, u0, hK0⟩) (fun hHeld0 => ?_)
                  refine anyTake 0 (some 29) (.slice (some ⟨b, off, none⟩) n e) rfl rfl (by kernel_rfl) (by kernel_rfl) (by kernel_rfl) (fun _ _ _ h => h) (by rfl) (by intro w hSw; (try dsimp only at hSw); go_simp) (by assumption) ?_
                  try simp only [Act.put, List.setIfInBounds_toArray, List.set_cons_zero, List.set_cons_succ]
                  refine anyTake 1 (some 30) (.int .i64 (k : Int)) rfl rfl (by kernel_rfl) (by kernel_rfl) (by kernel_rfl) (fun _ _ _ h => h) (by rfl) (by intro w hSw; (try dsimp only at hSw); go_simp) (by assumption) ?_
                  try simp only [Act.put, List.setIfInBounds_toArray, List.set_cons_zero, List.set_cons_succ]
                  refine anyTake 2 (some 31) (.pointer (some ⟨b, off + k, none⟩)) rfl rfl (by kernel_rfl) (by kernel_rfl) (by kernel_rfl) (fun _ _ _ h => h) (by rfl) (by intro w hSw; (try dsimp only at hSw); go_simp) (by assumption) ?_
                  try simp only [Act.put, List.setIfInBounds_toArray, List.set_cons_zero, List.set_cons_succ]
                  refine anyTake 3 (some 32) (.int .i64 x) rfl rfl (by kernel_rfl) (by kernel_rfl) (by kernel_rfl) (fun _ _ _ h => h) (by rfl) (by intro w hSw; (try dsimp only at hSw); go_simp) (by assumption) ?_
                  try simp only [Act.put, List.setIfInBounds_toArray, List.set_cons_zero, List.set_cons_succ]
                  refine anyTake 4 (some 33) (.agg #[.slice B us.length d]) rfl rfl (by kernel_rfl) (by kernel_rfl) (by kernel_rfl) (fun _ _ _ h => h) (by rfl) (by intro w hSw; (try dsimp only at hSw); go_simp) (by assumption) ?_
                  try simp only [Act.put, List.setIfInBounds_toArray, List.set_cons_zero, List.set_cons_succ]
                  refine wpAnyH_ready (rs := [5]) (by kernel_rfl) (by simp) ?_
                  refine AllReadyH.cons rfl (fun K hK => ?_) AllReadyH.nil
                  go_simp
                  go_at_call 89
                  refine (HN.out _ (by exact hHeld0.2.2.2)).mono ?_
                  rintro e w7 ⟨rfl, hb7⟩
                  go_wp2_with fail
                  refine hK.out _ _ (by exact ⟨Hcell.out k x Hat.out _ (by assumption), Hcell.out (k - 1) y Hpt.out _ (by assumption), HU.out _ (by assumption), by assumption⟩) (fun hHeld => ?_)
                  clear hK K
                  try simp only [Act.put, List.setIfInBounds_toArray, List.set_cons_zero, List.set_cons_succ]
                  clear hHeld0
                  have hHeld0 := hHeld
                  clear hHeld
                  refine anyTake 6 (some 35) (.int .i64 ((us.length : Int) - 1)) rfl rfl (by kernel_rfl) (by kernel_rfl) (by kernel_rfl) (fun _ _ _ h => h) (by rfl) (by intro w hSw; (try dsimp only at hSw); go_simp) (by assumption) ?_
                  try simp only [Act.put, List.setIfInBounds_toArray, List.set_cons_zero, List.set_cons_succ]
                  refine wpAnyH_ready (rs := [7]) (by kernel_rfl) (by simp) ?_
                  refine AllReadyH.cons rfl (fun K hK => ?_) AllReadyH.nil
                  go_simp
                  go_at_call 88
                  refine (inAny _ _ _ _ true hbv).mono ?_
                  rintro e w8 ⟨rfl, rfl⟩
                  go_wp2_with fail
                  refine hK.out _ _ (by exact ⟨Hcell.out k x Hat.out _ (by assumption), Hcell.out (k - 1) y Hpt.out _ (by assumption), HU.out _ (by assumption), by assumption⟩) (fun hHeld => ?_)
                  clear hK K
                  try simp only [Act.put, List.setIfInBounds_toArray, List.set_cons_zero, List.set_cons_succ]
                  clear hHeld0
                  have hHeld0 := hHeld
                  clear hHeld
                  refine anyTake 8 (some 37) (.bool false) rfl rfl (by kernel_rfl) (by kernel_rfl) (by kernel_rfl) (fun _ _ _ h => h) (by rfl) (by intro w hSw; (try dsimp only at hSw); go_simp) (by assumption) ?_
                  try simp only [Act.put, List.setIfInBounds_toArray, List.set_cons_zero, List.set_cons_succ]
                  refine anyTake 9 (some 38) (.bool false) rfl rfl (by kernel_rfl) (by kernel_rfl) (by kernel_rfl) (fun _ _ _ h => h) (by rfl) (by intro w hSw; (try dsimp only at hSw); go_simp) (by assumption) ?_
                  try simp only [Act.put, List.setIfInBounds_toArray, List.set_cons_zero, List.set_cons_succ]
                  refine anyTake 10 (some 39) (.int .i64 (k : Int)) rfl rfl (by kernel_rfl) (by kernel_rfl) (by kernel_rfl) (fun _ _ _ h => h) (by rfl) (by intro w hSw; (try dsimp only at hSw); go_simp) (by assumption) ?_
                  try simp only [Act.put, List.setIfInBounds_toArray, List.set_cons_zero, List.set_cons_succ]
                  refine anyTake 11 (some 40) (.bool true) rfl rfl (by kernel_rfl) (by kernel_rfl) (by kernel_rfl) (fun _ _ _ h => h) (by rfl) (by intro w hSw; (try dsimp only at hSw); go_simp) (by assumption) ?_
                  try simp only [Act.put, List.setIfInBounds_toArray, List.set_cons_zero, List.set_cons_succ]
                  refine anyTake 12 (some 41) (.bool true) rfl rfl (by kernel_rfl) (by kernel_rfl) (by kernel_rfl) (fun _ _ _ h => h) (by rfl) (by intro w hSw; (try dsimp only at hSw); go_simp) (by assumption) ?_
                  try simp only [Act.put, List.setIfInBounds_toArray, List.set_cons_zero, List.set_cons_succ]
                  refine anyTake 13 (some 42) (.slice (some ⟨b, off, none⟩) n e) rfl rfl (by kernel_rfl) (by kernel_rfl) (by kernel_rfl) (fun _ _ _ h => h) (by rfl) (by intro w hSw; (try dsimp only at hSw); go_simp) (by assumption) ?_
                  try simp only [Act.put, List.setIfInBounds_toArray, List.set_cons_zero, List.set_cons_succ]
                  refine anyTake 14 (some 43) (.int .i64 (k : Int)) rfl rfl (by kernel_rfl) (by kernel_rfl) (by kernel_rfl) (fun _ _ _ h => h) (by rfl) (by intro w hSw; (try dsimp only at hSw); go_simp) (by assumption) ?_
                  try simp only [Act.put, List.setIfInBounds_toArray, List.set_cons_zero, List.set_cons_succ]
                  refine anyTake 15 (some 44) (.int .i64 ((k : Int) - 1)) rfl rfl (by kernel_rfl) (by kernel_rfl) (by kernel_rfl) (fun _ _ _ h => h) (by rfl) (by intro w hSw; (try dsimp only at hSw); go_simp) (by assumption) ?_
                  try simp only [Act.put, List.setIfInBounds_toArray, List.set_cons_zero, List.set_cons_succ]
                  refine anyTake 16 (some 45) (.pointer (some ⟨b, off + (k - 1), none⟩)) rfl rfl (by kernel_rfl) (by kernel_rfl) (by kernel_rfl) (fun _ _ _ h => h) (by rfl) (by intro w hSw; (try dsimp only at hSw); go_simp) (by assumption) ?_
                  try simp only [Act.put, List.setIfInBounds_toArray, List.set_cons_zero, List.set_cons_succ]
                  refine anyTake 17 (some 46) (.int .i64 y) rfl rfl (by kernel_rfl) (by kernel_rfl) (by kernel_rfl) (fun _ _ _ h => h) (by rfl) (by intro w hSw; (try dsimp only at hSw); go_simp) (by assumption) ?_
                  try simp only [Act.put, List.setIfInBounds_toArray, List.set_cons_zero, List.set_cons_succ]
                  refine anyTake 18 (some 47) (.slice (some ⟨b, off, none⟩) n e) rfl rfl (by kernel_rfl) (by kernel_rfl) (by kernel_rfl) (fun _ _ _ h => h) (by rfl) (by intro w hSw; (try dsimp only at hSw); go_simp) (by assumption) ?_
                  try simp only [Act.put, List.setIfInBounds_toArray, List.set_cons_zero, List.set_cons_succ]
                  refine anyTake 19 (some 48) (.int .i64 (k : Int)) rfl rfl (by kernel_rfl) (by kernel_rfl) (by kernel_rfl) (fun _ _ _ h => h) (by rfl) (by intro w hSw; (try dsimp only at hSw); go_simp) (by assumption) ?_
                  try simp only [Act.put, List.setIfInBounds_toArray, List.set_cons_zero, List.set_cons_succ]
                  refine anyTake 20 (some 49) (.pointer (some ⟨b, off + k, none⟩)) rfl rfl (by kernel_rfl) (by kernel_rfl) (by kernel_rfl) (fun _ _ _ h => h) (by rfl) (by intro w hSw; (try dsimp only at hSw); go_simp) (by assumption) ?_
                  try simp only [Act.put, List.setIfInBounds_toArray, List.set_cons_zero, List.set_cons_succ]
                  refine anyTake 21 (some 50) (.int .i64 x) rfl rfl (by kernel_rfl) (by kernel_rfl) (by kernel_rfl) (fun _ _ _ h => h) (by rfl) (by intro w hSw; (try dsimp only at hSw); go_simp) (by assumption) ?_
                  try simp only [Act.put, List.setIfInBounds_toArray, List.set_cons_zero, List.set_cons_succ]
                  refine anyTake 22 (some 51) (.bool true) rfl rfl (by kernel_rfl) (by kernel_rfl) (by kernel_rfl) (fun _ _ _ h => h) (by rfl) (by intro w hSw; (try dsimp only at hSw); go_simp) (by assumption) ?_
                  try simp only [Act.put, List.setIfInBounds_toArray, List.set_cons_zero, List.set_cons_succ]
                  refine anyTake 23 (some 52) (.bool true) rfl rfl (by kernel_rfl) (by kernel_rfl) (by kernel_rfl) (fun _ _ _ h => h) (by rfl) (by intro w hSw; (try dsimp only at hSw); go_simp) (by assumption) ?_
                  try simp only [Act.put, List.setIfInBounds_toArray, List.set_cons_zero, List.set_cons_succ]
                  refine anyTake 24 (some 53) (.bool true) rfl rfl (by kernel_rfl) (by kernel_rfl) (by kernel_rfl) (fun _ _ _ h => h) (by rfl) (by intro w hSw; (try dsimp only at hSw); go_simp) (by assumption) ?_
                  try simp only [Act.put, List.setIfInBounds_toArray, List.set_cons_zero, List.set_cons_succ]
                  refine wpAnyH_done (by kernel_rfl) ?_ _
                  have hB7 := Lib.hid (btr hB2.out (btr hbr.out hb7.out))
                  go_wp2
                  go_ret2
                  exact ⟨rfl, hB7.out⟩
                · have hg2 : Hid (M.goodTo vs us.length (k + 1) = true) := by
                    show _ = _
                    rw [M.goodTo_succ, hg.out, Hgi.out.2 ⟨hin.1, hin.2, .inr (by rw [hpt]; show y < x; omega)⟩]; rfl
                  clear hFno hFyes hIn hg hin hpt
                  go_wp2
                  refine wp_region_held_drew (S := (fun w' => w'.cell? ⟨b, off + k, none⟩ = some (.int .i64 x) ∧ w'.cell? ⟨b, off + (k - 1), none⟩ = some (.int .i64 y) ∧ w'.cell? ⟨w.heap.size + 1, 0, none⟩ = some (.slice B us.length d) ∧ Hid (Below wr.heap.size wr w'))) (by kernel_rfl) (by exact ⟨g0, g3, u0, hK0⟩) (fun hHeld0 => ?_)
                  refine anyTake 0 (some 29) (.slice (some ⟨b, off, none⟩) n e) rfl rfl (by kernel_rfl) (by kernel_rfl) (by kernel_rfl) (fun _ _ _ h => h) (by rfl) (by intro w hSw; (try dsimp only at hSw); go_simp) (by assumption) ?_
                  try simp only [Act.put, List.setIfInBounds_toArray, List.set_cons_zero, List.set_cons_succ]
                  refine anyTake 1 (some 30) (.int .i64 (k : Int)) rfl rfl (by kernel_rfl) (by kernel_rfl) (by kernel_rfl) (fun _ _ _ h => h) (by rfl) (by intro w hSw; (try dsimp only at hSw); go_simp) (by assumption) ?_
                  try simp only [Act.put, List.setIfInBounds_toArray, List.set_cons_zero, List.set_cons_succ]
                  refine anyTake 2 (some 31) (.pointer (some ⟨b, off + k, none⟩)) rfl rfl (by kernel_rfl) (by kernel_rfl) (by kernel_rfl) (fun _ _ _ h => h) (by rfl) (by intro w hSw; (try dsimp only at hSw); go_simp) (by assumption) ?_
                  try simp only [Act.put, List.setIfInBounds_toArray, List.set_cons_zero, List.set_cons_succ]
                  refine anyTake 3 (some 32) (.int .i64 x) rfl rfl (by kernel_rfl) (by kernel_rfl) (by kernel_rfl) (fun _ _ _ h => h) (by rfl) (by intro w hSw; (try dsimp only at hSw); go_simp) (by assumption) ?_
                  try simp only [Act.put, List.setIfInBounds_toArray, List.set_cons_zero, List.set_cons_succ]
                  refine anyTake 4 (some 33) (.agg #[.slice B us.length d]) rfl rfl (by kernel_rfl) (by kernel_rfl) (by kernel_rfl) (fun _ _ _ h => h) (by rfl) (by intro w hSw; (try dsimp only at hSw); go_simp) (by assumption) ?_
                  try simp only [Act.put, List.setIfInBounds_toArray, List.set_cons_zero, List.set_cons_succ]
                  refine wpAnyH_ready (rs := [5]) (by kernel_rfl) (by simp) ?_
                  refine AllReadyH.cons rfl (fun K hK => ?_) AllReadyH.nil
                  go_simp
                  go_at_call 89
                  refine (HN.out _ (by exact hHeld0.2.2.2)).mono ?_
                  rintro e w7 ⟨rfl, hb7⟩
                  go_wp2_with fail
                  refine hK.out _ _ (by exact ⟨Hcell.out k x Hat.out _ (by assumption), Hcell.out (k - 1) y Hpt.out _ (by assumption), HU.out _ (by assumption), by assumption⟩) (fun hHeld => ?_)
                  clear hK K
                  try simp only [Act.put, List.setIfInBounds_toArray, List.set_cons_zero, List.set_cons_succ]
                  clear hHeld0
                  have hHeld0 := hHeld
                  clear hHeld
                  refine anyTake 6 (some 35) (.int .i64 ((us.length : Int) - 1)) rfl rfl (by kernel_rfl) (by kernel_rfl) (by kernel_rfl) (fun _ _ _ h => h) (by rfl) (by intro w hSw; (try dsimp only at hSw); go_simp) (by assumption) ?_
                  try simp only [Act.put, List.setIfInBounds_toArray, List.set_cons_zero, List.set_cons_succ]
                  refine wpAnyH_ready (rs := [7]) (by kernel_rfl) (by simp) ?_
                  refine AllReadyH.cons rfl (fun K hK => ?_) AllReadyH.nil
                  go_simp
                  go_at_call 88
                  refine (inAny _ _ _ _ true hbv).mono ?_
                  rintro e w8 ⟨rfl, rfl⟩
                  go_wp2_with fail
                  refine hK.out _ _ (by exact ⟨Hcell.out k x Hat.out _ (by assumption), Hcell.out (k - 1) y Hpt.out _ (by assumption), HU.out _ (by assumption), by assumption⟩) (fun hHeld => ?_)
                  clear hK K
                  try simp only [Act.put, List.setIfInBounds_toArray, List.set_cons_zero, List.set_cons_succ]
                  clear hHeld0
                  have hHeld0 := hHeld
                  clear hHeld
                  refine anyTake 8 (some 37) (.bool false) rfl rfl (by kernel_rfl) (by kernel_rfl) (by kernel_rfl) (fun _ _ _ h => h) (by rfl) (by intro w hSw; (try dsimp only at hSw); go_simp) (by assumption) ?_
                  try simp only [Act.put, List.setIfInBounds_toArray, List.set_cons_zero, List.set_cons_succ]
                  refine anyTake 9 (some 38) (.bool false) rfl rfl (by kernel_rfl) (by kernel_rfl) (by kernel_rfl) (fun _ _ _ h => h) (by rfl) (by intro w hSw; (try dsimp only at hSw); go_simp) (by assumption) ?_
                  try simp only [Act.put, List.setIfInBounds_toArray, List.set_cons_zero, List.set_cons_succ]
                  refine anyTake 10 (some 39) (.int .i64 (k : Int)) rfl rfl (by kernel_rfl) (by kernel_rfl) (by kernel_rfl) (fun _ _ _ h => h) (by rfl) (by intro w hSw; (try dsimp only at hSw); go_simp) (by assumption) ?_
                  try simp only [Act.put, List.setIfInBounds_toArray, List.set_cons_zero, List.set_cons_succ]
                  refine anyTake 11 (some 40) (.bool true) rfl rfl (by kernel_rfl) (by kernel_rfl) (by kernel_rfl) (fun _ _ _ h => h) (by rfl) (by intro w hSw; (try dsimp only at hSw); go_simp) (by assumption) ?_
                  try simp only [Act.put, List.setIfInBounds_toArray, List.set_cons_zero, List.set_cons_succ]
                  refine anyTake 12 (some 41) (.bool true) rfl rfl (by kernel_rfl) (by kernel_rfl) (by kernel_rfl) (fun _ _ _ h => h) (by rfl) (by intro w hSw; (try dsimp only at hSw); go_simp) (by assumption) ?_
                  try simp only [Act.put, List.setIfInBounds_toArray, List.set_cons_zero, List.set_cons_succ]
                  refine anyTake 13 (some 42) (.slice (some ⟨b, off, none⟩) n e) rfl rfl (by kernel_rfl) (by kernel_rfl) (by kernel_rfl) (fun _ _ _ h => h) (by rfl) (by intro w hSw; (try dsimp only at hSw); go_simp) (by assumption) ?_
                  try simp only [Act.put, List.setIfInBounds_toArray, List.set_cons_zero, List.set_cons_succ]
                  refine anyTake 14 (some 43) (.int .i64 (k : Int)) rfl rfl (by kernel_rfl) (by kernel_rfl) (by kernel_rfl) (fun _ _ _ h => h) (by rfl) (by intro w hSw; (try dsimp only at hSw); go_simp) (by assumption) ?_
                  try simp only [Act.put, List.setIfInBounds_toArray, List.set_cons_zero, List.set_cons_succ]
                  refine anyTake 15 (some 44) (.int .i64 ((k : Int) - 1)) rfl rfl (by kernel_rfl) (by kernel_rfl) (by kernel_rfl) (fun _ _ _ h => h) (by rfl) (by intro w hSw; (try dsimp only at hSw); go_simp) (by assumption) ?_
                  try simp only [Act.put, List.setIfInBounds_toArray, List.set_cons_zero, List.set_cons_succ]
                  refine anyTake 16 (some 45) (.pointer (some ⟨b, off + (k - 1), none⟩)) rfl rfl (by kernel_rfl) (by kernel_rfl) (by kernel_rfl) (fun _ _ _ h => h) (by rfl) (by intro w hSw; (try dsimp only at hSw); go_simp) (by assumption) ?_
                  try simp only [Act.put, List.setIfInBounds_toArray, List.set_cons_zero, List.set_cons_succ]
                  refine anyTake 17 (some 46) (.int .i64 y) rfl rfl (by kernel_rfl) (by kernel_rfl) (by kernel_rfl) (fun _ _ _ h => h) (by rfl) (by intro w hSw; (try dsimp only at hSw); go_simp) (by assumption) ?_
                  try simp only [Act.put, List.setIfInBounds_toArray, List.set_cons_zero, List.set_cons_succ]
                  refine anyTake 18 (some 47) (.slice (some ⟨b, off, none⟩) n e) rfl rfl (by kernel_rfl) (by kernel_rfl) (by kernel_rfl) (fun _ _ _ h => h) (by rfl) (by intro w hSw; (try dsimp only at hSw); go_simp) (by assumption) ?_
                  try simp only [Act.put, List.setIfInBounds_toArray, List.set_cons_zero, List.set_cons_succ]
                  refine anyTake 19 (some 48) (.int .i64 (k : Int)) rfl rfl (by kernel_rfl) (by kernel_rfl) (by kernel_rfl) (fun _ _ _ h => h) (by rfl) (by intro w hSw; (try dsimp only at hSw); go_simp) (by assumption) ?_
                  try simp only [Act.put, List.setIfInBounds_toArray, List.set_cons_zero, List.set_cons_succ]
                  refine anyTake 20 (some 49) (.pointer (some ⟨b, off + k, none⟩)) rfl rfl (by kernel_rfl) (by kernel_rfl) (by kernel_rfl) (fun _ _ _ h => h) (by rfl) (by intro w hSw; (try dsimp only at hSw); go_simp) (by assumption) ?_
                  try simp only [Act.put, List.setIfInBounds_toArray, List.set_cons_zero, List.set_cons_succ]
                  refine anyTake 21 (some 50) (.int .i64 x) rfl rfl (by kernel_rfl) (by kernel_rfl) (by kernel_rfl) (fun _ _ _ h => h) (by rfl) (by intro w hSw; (try dsimp only at hSw); go_simp) (by assumption) ?_
                  try simp only [Act.put, List.setIfInBounds_toArray, List.set_cons_zero, List.set_cons_succ]
                  refine anyTake 22 (some 51) (.bool false) rfl rfl (by kernel_rfl) (by kernel_rfl) (by kernel_rfl) (fun _ _ _ h => h) (by rfl) (by intro w hSw; (try dsimp only at hSw); go_simp) (by assumption) ?_
                  try simp only [Act.put, List.setIfInBounds_toArray, List.set_cons_zero, List.set_cons_succ]
                  refine anyTake 23 (some 52) (.bool false) rfl rfl (by kernel_rfl) (by kernel_rfl) (by kernel_rfl) (fun _ _ _ h => h) (by rfl) (by intro w hSw; (try dsimp only at hSw); go_simp) (by assumption) ?_
                  try simp only [Act.put, List.setIfInBounds_toArray, List.set_cons_zero, List.set_cons_succ]
                  refine anyTake 24 (some 53) (.bool false) rfl rfl (by kernel_rfl) (by kernel_rfl) (by kernel_rfl) (fun _ _ _ h => h) (by rfl) (by intro w hSw; (try dsimp only at hSw); go_simp) (by assumption) ?_
                  try simp only [Act.put, List.setIfInBounds_toArray, List.set_cons_zero, List.set_cons_succ]
                  refine wpAnyH_done (by kernel_rfl) ?_ _
                  have hB7 := Lib.hid (btr hbr.out hb7.out)
                  clear HN HU Hcell g0 g1 u0 u1 hK0 hw0 g3 g4
                  go_wp2
                  go_roundw
                  case rel => exact ⟨k + 1, by omega, by go_num, hg2, hB7⟩
                  case measure => simp [intOf]; omega
          · obtain rfl : k = n := by omega
            have hg' : M.goodTo vs us.length vs.length = true := by rw [hn.out]; exact hg.out
            have hF := hFyes.out hg'
            subst hF
            have hB3 := Lib.hid (btr hB2.out hbr.out)
            have hI := Lib.hid (hIn.out hg' wr hB3.out)
            have cT3 := cell_be HT2.out hbr.out
            have cU3 := cell_be HU2.out hbr.out
            have hge : ¬ (k : Int) < (k : Int) := by omega
            clear hg' hFno hFyes hIn hg hIv hbr
            go_wp2_with fail
            refine hI.out.mono ?_
            rintro en w4 ⟨rfl, hb4⟩
            have hB4 := Lib.hid (btr hB3.out hb4.out)
            go_wp2
            go_ret2
            exact ⟨rfl, hB4.out⟩
      · rw [F_In_range ht hu' (fun h => hl h.1)]
        have hne : ((n : Int) != (xs.length : Int)) = true := bne_iff_ne.2 (by rw [← hn.out]; omega)
        clear ht hu' hA hB hC hl
        go_enter Try.func47, Try.ntmps47
        go_wp2_with fail
        refine (hI1.out _ hB0.out).mono ?_
        rintro en w1 ⟨rfl, hb1⟩
        have hB1 := Lib.hid (btr hB0.out hb1)
        have cU1 := cell_be cU0.out hb1
        have cT1 := cell_be cT0.out hb1
        clear hb1
        go_wp2_with fail
        refine (hI2.out _ hB1.out).mono ?_
        rintro en w2 ⟨rfl, hb2⟩
        have hB2 := Lib.hid (btr hB1.out hb2)
        have cU2 := cell_be cU1 hb2
        have cT2 := cell_be cT1 hb2
        clear hb2 cU1 cT1
        go_wp2
        go_ret2
        exact ⟨rfl, hB2.out⟩
end Go.Proofs.Ytmhpobgfgimfcaa

/- The walk of the law FnExactIsInsideBy: it returns true, and writes into nothing that was there. -/
namespace Go.Proofs.Ytmhpobgfgimfcaa
open Go.RowKit

set_option maxHeartbeats 4000000 in
set_option maxRecDepth 100000 in
theorem lawIsInsideBy (A A2 C : Option Addr) (xs ys vs : List Int) (c c2 c3 : Nat) (w : World) (hx : xs.length ≤ 9223372036854775807) (hy : ys.length ≤ 9223372036854775807) (hz : vs.length ≤ 9223372036854775807) (h : Ints w w.heap.size A xs) (h2 : Ints w w.heap.size A2 ys) (h3 : Ints w w.heap.size C vs) :
    Calls Try.prog 12 #[.agg #[.slice A xs.length c], .agg #[.slice A2 ys.length c2], .slice C vs.length c3] w fun e w' => e = .returned (.bool true) ∧ Below w.heap.size w w' := by
  obtain ⟨W, hW⟩ : ∃ W, W = (w.alloc (.cells #[.slice A xs.length c] 25)).alloc (.cells #[.slice A2 ys.length c2] 25) := ⟨_, rfl⟩
  have C1 : Hid (W.cell? ⟨w.heap.size, 0, none⟩ = some (.slice A xs.length c)) := by subst hW; exact cell_al (by simp) _
  have C2 : Hid (W.cell? ⟨w.heap.size + 1, 0, none⟩ = some (.slice A2 ys.length c2)) := by subst hW; exact World.cell?_alloc_at _ _ _ _ (by simp)
  have i1 : Hid (Ints W W.heap.size A xs) := by subst hW; exact (h.al _).al _
  have i2 : Hid (Ints W W.heap.size A2 ys) := by subst hW; exact (h2.al _).al _
  have i3 : Hid (Ints W W.heap.size C vs) := by subst hW; exact (h3.al _).al _
  have hBW : Hid (Below w.heap.size w W) := by subst hW; exact bal (bal (b0 w) _) _
  have HW := Lib.hid hW
  clear hW h h2 h3
  by_cases hv : vs.length ≤ 1048576
  · have hv1 : ¬ (1048576 : Int) < (vs.length : Int) := by omega
    have hz' : Hid (vs.length ≤ 1000000000000) := (show vs.length ≤ 1000000000000 by omega)
    by_cases hs : xs.length ≤ 1048576
    · have hl : Hid ((if (1048576 : Int) - xs.length < 0 then -1 else (1048576 : Int) - xs.length) = 1048576 - xs.length) := if_neg (by omega)
      have hl0 : (0 : Int) ≤ 1048576 - (xs.length : Int) := by omega
      have hl1 : ¬ (1048576 : Int) - (xs.length : Int) < 0 := by omega
      by_cases hs2 : (ys.length : Int) ≤ 1048576 - xs.length
      · have hl2 : Hid ((if (1048576 : Int) - xs.length - ys.length < 0 then -1 else (1048576 : Int) - xs.length - ys.length) = 1048576 - xs.length - ys.length) := if_neg (by omega)
        have hl3 : ¬ (1048576 : Int) - (xs.length : Int) - (ys.length : Int) < 0 := by omega
        have hx' : Hid (xs.length ≤ 1000000000000) := (show xs.length ≤ 1000000000000 by omega)
        have hy' : Hid (ys.length ≤ 1000000000000) := (show ys.length ≤ 1000000000000 by omega)
        have hys : ys.length ≤ 1048576 := by omega
        have hS := fun A' A3 A4 w' h' h3 h4 => spec_IsInsideBy A' A3 A4 xs ys vs xs.length ys.length vs.length vs.length w' hs hys hv ⟨Nat.le_refl _, hx'.out⟩ ⟨Nat.le_refl _, hy'.out⟩ ⟨Nat.le_refl _, hz'.out⟩ rfl h' h3 h4
        have hI := fun A' A3 A4 w' h' h3 h4 => impl_IsInsideBy A' A3 A4 xs ys vs xs.length ys.length vs.length vs.length w' hs hys hv ⟨Nat.le_refl _, hx'.out⟩ ⟨Nat.le_refl _, hy'.out⟩ ⟨Nat.le_refl _, hz'.out⟩ rfl h' h3 h4
        generalize (F_IsInsideBy xs ys vs).1 = r1 at hS hI
        generalize (F_IsInsideBy xs ys vs).2 = r2 at hS hI
        have HS := Lib.hid hS
        have HI := Lib.hid hI
        clear hx hy hz hS hI
        have HT : Hid (∀ W', Hid (Below W.heap.size W W') → ∀ (A' : Option Addr) (zs : List Int) (c' : Nat), Hid (Ints W W.heap.size A' zs) → Hid (zs.length ≤ 1000000000000) → Calls Try.prog 20 #[.agg #[.slice A' zs.length c']] W' fun e w' => ∃ g, e = .returned (.agg #[.slice (some ⟨g, 0, none⟩) zs.length zs.length]) ∧
            Hid (Own64 w' W'.heap.size (.slice (some ⟨g, 0, none⟩) zs.length zs.length) zs) ∧ Hid (Below W.heap.size W w') ∧ Hid (Below W'.heap.size W' w')) := fun W' hW' A' zs c' hi hz =>
          (toTree A' zs c' W' hz.out (hi.out.be hW'.out)).mono fun e w' ⟨g, he, ho, hb⟩ => ⟨g, he, ho, btr hW'.out hb, hb⟩
        have HL : Hid (∀ W', Hid (Below W.heap.size W W') → Calls Try.prog 48 #[.slice C vs.length c3] W' fun e w' => ∃ g, e = .returned (.slice (some ⟨g, 0, none⟩) vs.length vs.length) ∧
            Hid (Own64 w' W'.heap.size (.slice (some ⟨g, 0, none⟩) vs.length vs.length) vs) ∧ Hid (Below W.heap.size W w') ∧ Hid (Below W'.heap.size W' w')) := fun W' hW' =>
          (toInts C vs c3 W' hz'.out (i3.out.be hW'.out)).mono fun e w' ⟨g, he, ho, hb⟩ => ⟨g, he, ho, btr hW'.out hb, hb⟩
        go_enter Try.func12, Try.ntmps12
        go_wp2_with fail
        rw [← HW.out]
        have c1 := C1.out
        refine (szTree A xs.length c 1048576 _ (by omega) (by omega) (by omega)).mono ?_
        rintro e w1 ⟨he, hb⟩
        rw [hl.out] at he
        subst he
        have B := Lib.hid hb
        clear hb c1
        have c2' := cell_be C2.out B.out
        go_wp2_with fail
        refine (szTree A2 ys.length c2 (1048576 - xs.length) _ (by omega) (by omega) (by omega)).mono ?_
        rintro e w2 ⟨he, hb⟩
        rw [hl2.out] at he
        subst he
        replace B := Lib.hid (btr B.out hb)
        clear hb c2'
        have c1' := cell_be C1.out B.out
        have c2' := cell_be C2.out B.out
        go_wp2
        have K0 : Hid (Below W.heap.size W w2.drew) := B.out.drew
        have c10 : w2.drew.cell? ⟨w.heap.size, 0, none⟩ = some (.slice A xs.length c) := c1'
        have c20 : w2.drew.cell? ⟨w.heap.size + 1, 0, none⟩ = some (.slice A2 ys.length c2) := c2'
        have HK : Hid (∀ W', Hid (Below W.heap.size W W') → W'.cell? ⟨w.heap.size, 0, none⟩ = some (.slice A xs.length c) ∧ W'.cell? ⟨w.heap.size + 1, 0, none⟩ = some (.slice A2 ys.length c2)) := fun W' hW' => ⟨cell_be C1.out hW'.out, cell_be C2.out hW'.out⟩
        go_region_held3 (fun w' => w'.cell? ⟨w.heap.size, 0, none⟩ = some (.slice A xs.length c) ∧ w'.cell? ⟨w.heap.size + 1, 0, none⟩ = some (.slice A2 ys.length c2) ∧ Hid (Below W.heap.size W w')) (first | exact ⟨c10, c20, K0⟩ | exact ⟨(HK.out _ (by assumption)).1, (HK.out _ (by assumption)).2, by assumption⟩) (first | (go_at_call_of 20 (Value.agg #[Value.slice A xs.length c]); refine (HT.out _ K0 A xs c i1 hx').mono ?_; rintro e w7 ⟨g7, rfl, ho7, hb7, hc7⟩) | (go_at_call_of 20 (Value.agg #[Value.slice A2 ys.length c2]); refine (HT.out _ hb7 A2 ys c2 i2 hy').mono ?_; rintro e w8 ⟨g8, rfl, ho8, hb8, hc8⟩) | (go_at_call 48; refine (HL.out _ hb8).mono ?_; rintro e w8b ⟨g8b, rfl, ho8b, hb8b, hc8b⟩) | (go_at_call 47; refine (HS.out _ _ _ _ (((ints_of_own64 ho7.out).be hc8.out).be hc8b.out) ((ints_of_own64 ho8.out).be hc8b.out) (ints_of_own64 ho8b.out)).mono ?_; rintro e w9 ⟨rfl, hb⟩; have hb9 : Hid (Below W.heap.size W w9) := btr hb8b.out hb; clear hb))
        clear c1' c2' c10 c20 K0 HS hb7 hb8 hc7 hc8 ho7 ho8 B hb8b hc8b ho8b
        have B := hb9
        have c1' := cell_be C1.out B.out
        have c2' := cell_be C2.out B.out
        clear hb9
        go_wp2_with fail
        refine (HT.out _ B A xs c i1 hx').mono ?_
        rintro e w10 ⟨gx, rfl, Ox, B10, _⟩
        clear c1' c2' B
        have c1' := cell_al (cell_be C1.out B10.out) (.cells #[.slice (some ⟨gx, 0, none⟩) xs.length xs.length] 29)
        have c2' := cell_al (cell_be C2.out B10.out) (.cells #[.slice (some ⟨gx, 0, none⟩) xs.length xs.length] 29)
        have B11 : Hid (Below W.heap.size W (w10.alloc (.cells #[.slice (some ⟨gx, 0, none⟩) xs.length xs.length] 29))) := bal B10.out _
        go_wp2_with fail
        refine (HT.out _ B11 A2 ys c2 i2 hy').mono ?_
        rintro e w12 ⟨gy, rfl, Oy, B12, hb12⟩
        have dX : Hid (w12.cell? ⟨w10.heap.size, 0, none⟩ = some (.slice (some ⟨gx, 0, none⟩) xs.length xs.length)) := cell_be (by simp) hb12.out
        have Ox12 := Lib.hid (own_be (Ox.out.alloc (.cells #[.slice (some ⟨gx, 0, none⟩) xs.length xs.length] 29)) hb12.out)
        have c3' := Lib.hid (cell_al dX.out (.cells #[.slice (some ⟨gy, 0, none⟩) ys.length ys.length] 29))
        have B12b : Hid (Below W.heap.size W (w12.alloc (.cells #[.slice (some ⟨gy, 0, none⟩) ys.length ys.length] 29))) := bal B12.out _
        have Ox12b := Lib.hid (Ox12.out.alloc (.cells #[.slice (some ⟨gy, 0, none⟩) ys.length ys.length] 29))
        have Oy12b := Lib.hid (Oy.out.alloc (.cells #[.slice (some ⟨gy, 0, none⟩) ys.length ys.length] 29))
        have c4' : Hid ((w12.alloc (.cells #[.slice (some ⟨gy, 0, none⟩) ys.length ys.length] 29)).cell? ⟨w12.heap.size, 0, none⟩ = some (.slice (some ⟨gy, 0, none⟩) ys.length ys.length)) := by simp [Hid, go_sem]
        clear c1' c2' B10 B11 Ox hb12 dX Ox12 Oy B12
        go_wp2_with fail
        refine (HL.out _ B12b).mono ?_
        rintro e w12c ⟨gz, rfl, Oz, B12c, hb12c⟩
        have dX := cell_be c3'.out hb12c.out
        have dY := cell_be c4'.out hb12c.out
        have Ox12 := Lib.hid (own_be Ox12b.out hb12c.out)
        have Oy12 := Lib.hid (own_be Oy12b.out hb12c.out)
        clear c3' c4' Ox12b Oy12b hb12c B12b
        go_wp2_with fail
        refine (HI.out _ _ _ _ (ints_of_own64 Ox12.out) (ints_of_own64 Oy12.out) (ints_of_own64 Oz.out)).mono ?_
        rintro e w13 ⟨rfl, hb⟩
        have B13 : Hid (Below W.heap.size W w13) := btr B12c.out hb
        have eX : w13.cell? ⟨w10.heap.size, 0, none⟩ = some (.slice (some ⟨gx, 0, none⟩) xs.length xs.length) := cell_be dX hb
        have eY : w13.cell? ⟨w12.heap.size, 0, none⟩ = some (.slice (some ⟨gy, 0, none⟩) ys.length ys.length) := cell_be dY hb
        have Ox13 := Lib.hid (own_be Ox12.out hb)
        have Oy13 := Lib.hid (own_be Oy12.out hb)
        have Oz13 := Lib.hid (own_be Oz.out hb)
        have c1' := cell_be C1.out B13.out
        have c2' := cell_be C2.out B13.out
        clear hb dX dY Ox12 Oy12 Oz HI B12c
        go_wp2
        have HE : Hid (∀ (g g' : Nat) (zs : List Int) B' W', Hid (zs.length ≤ 1000000000000) → Hid (Ints W' W'.heap.size (some ⟨g, 0, none⟩) zs) → Hid (Own64 W' B' (.slice (some ⟨g', 0, none⟩) zs.length zs.length) zs) →
            Calls Try.prog 22 #[.agg #[.slice (some ⟨g, 0, none⟩) zs.length zs.length], .agg #[.slice (some ⟨g', 0, none⟩) zs.length zs.length]] W' fun e w' => e = .returned (.bool true) ∧ Hid (Below W'.heap.size W' w')) := fun g g' zs B' W' hz hi ho =>
          (eqTreeT _ _ zs _ _ W' (by have := hz.out; omega) hi.out (ints_of_own64 ho.out)).mono fun e w' ⟨he, hb⟩ => ⟨he, hb⟩
        have K0 : Hid (Below w13.heap.size w13 w13.drew) := (Below.refl _ _).drew
        have KW : Hid (Below W.heap.size W w13.drew) := B13.out.drew
        have c10 : w13.drew.cell? ⟨w.heap.size, 0, none⟩ = some (.slice A xs.length c) := c1'
        have x10 : w13.drew.cell? ⟨w10.heap.size, 0, none⟩ = some (.slice (some ⟨gx, 0, none⟩) xs.length xs.length) := eX
        go_region_held3 (fun w' => w'.cell? ⟨w.heap.size, 0, none⟩ = some (.slice A xs.length c) ∧ w'.cell? ⟨w10.heap.size, 0, none⟩ = some (.slice (some ⟨gx, 0, none⟩) xs.length xs.length) ∧ Hid (Below w13.heap.size w13 w')) (first | exact ⟨c10, x10, K0⟩ | exact ⟨cell_be c1' (Hid.out (by assumption)), cell_be eX (Hid.out (by assumption)), by assumption⟩) (first | (go_at_call 20; refine (HT.out _ KW A xs c i1 hx').mono ?_; rintro e w7 ⟨g7, rfl, ho7, hb7, hc7⟩; have hd7 : Hid (Below w13.heap.size w13 w7) := btr K0.out hc7.out) | (go_at_call 22; refine (HE.out gx g7 xs _ _ hx' ((ints_of_own64 Ox13.out).be hd7.out) ho7).mono ?_; rintro e w14 ⟨rfl, hb⟩; have hd8 : Hid (Below w13.heap.size w13 w14) := btr hd7.out hb.out))
        have B14 : Hid (Below W.heap.size W w14) := btr B13.out hd8.out
        have hd8' := hd8
        have fX := cell_be eX hd8.out
        have fY := cell_be eY hd8.out
        have Oy14 := Lib.hid (own_be Oy13.out hd8.out)
        clear c1' c2' c10 x10 K0 KW eX eY Ox13 Oy13 B13 hd8 hd7 hb7 hc7 ho7 hb
        have c2' := cell_be C2.out B14.out
        go_wp2
        have K0 : Hid (Below w14.heap.size w14 w14.drew) := (Below.refl _ _).drew
        have KW : Hid (Below W.heap.size W w14.drew) := B14.out.drew
        have c20 : w14.drew.cell? ⟨w.heap.size + 1, 0, none⟩ = some (.slice A2 ys.length c2) := c2'
        have y10 : w14.drew.cell? ⟨w12.heap.size, 0, none⟩ = some (.slice (some ⟨gy, 0, none⟩) ys.length ys.length) := fY
        go_region_held3 (fun w' => w'.cell? ⟨w.heap.size + 1, 0, none⟩ = some (.slice A2 ys.length c2) ∧ w'.cell? ⟨w12.heap.size, 0, none⟩ = some (.slice (some ⟨gy, 0, none⟩) ys.length ys.length) ∧ Hid (Below w14.heap.size w14 w')) (first | exact ⟨c20, y10, K0⟩ | exact ⟨cell_be c2' (Hid.out (by assumption)), cell_be fY (Hid.out (by assumption)), by assumption⟩) (first | (go_at_call 20; refine (HT.out _ KW A2 ys c2 i2 hy').mono ?_; rintro e w17 ⟨g17, rfl, ho17, hb17, hc17⟩; have hd17 : Hid (Below w14.heap.size w14 w17) := btr K0.out hc17.out) | (go_at_call 22; refine (HE.out gy g17 ys _ _ hy' ((ints_of_own64 Oy14.out).be hd17.out) ho17).mono ?_; rintro e w18 ⟨rfl, hb⟩; have hd18 : Hid (Below w14.heap.size w14 w18) := btr hd17.out hb.out))
        have B18 : Hid (Below W.heap.size W w18) := btr B14.out hd18.out
        have Oz18 := Lib.hid (own_be (own_be Oz13.out hd8'.out) hd18.out)
        clear c2' c20 y10 K0 KW fX fY Oy14 B14 hd17 hb17 hc17 ho17 hb Oz13
        go_wp2_with fail
        have HEL : Hid (∀ (g g' : Nat) B' W', Hid (Ints W' W'.heap.size (some ⟨g, 0, none⟩) vs) → Hid (Own64 W' B' (.slice (some ⟨g', 0, none⟩) vs.length vs.length) vs) →
            Calls Try.prog 25 #[.slice (some ⟨g, 0, none⟩) vs.length vs.length, .slice (some ⟨g', 0, none⟩) vs.length vs.length] W' fun e w' => e = .returned (.bool true) ∧ Hid (Below W'.heap.size W' w')) := fun g g' B' W' hi ho =>
          (eqInts _ _ vs vs _ _ W' (by have := hz'.out; omega) hi.out (ints_of_own64 ho.out)).mono fun e w' ⟨he, hb⟩ => ⟨by rw [he]; simp, hb⟩
        refine (HL.out _ B18).mono ?_
        rintro e w19 ⟨g19, rfl, ho19, hb19, hc19⟩
        have Oz19 := Lib.hid (own_be Oz18.out hc19.out)
        clear B18 Oz18
        go_wp2_with fail
        refine (HEL.out gz g19 _ _ (ints_of_own64 Oz19.out) ho19).mono ?_
        rintro e w20 ⟨rfl, hb⟩
        go_wp2
        go_ret
        exact ⟨rfl, btr hBW.out (btr hb19.out hb.out)⟩
      · have hl2 : Hid ((if (1048576 : Int) - xs.length - ys.length < 0 then -1 else (1048576 : Int) - xs.length - ys.length) = -1) := if_pos (by omega)
        go_enter Try.func12, Try.ntmps12
        go_wp2_with fail
        rw [← HW.out]
        have c1 := C1.out
        refine (szTree A xs.length c 1048576 _ (by omega) (by omega) (by omega)).mono ?_
        rintro e w1 ⟨he, hb⟩
        rw [hl.out] at he
        subst he
        have B := Lib.hid hb
        clear hb c1
        have c2' := cell_be C2.out B.out
        go_wp2_with fail
        refine (szTree A2 ys.length c2 (1048576 - xs.length) _ (by omega) (by omega) (by omega)).mono ?_
        rintro e w2 ⟨he, hb⟩
        rw [hl2.out] at he
        subst he
        replace B := Lib.hid (btr B.out hb)
        clear hb c2'
        go_wp2
        go_ret
        exact ⟨rfl, btr hBW.out B.out⟩
    · have hl : Hid ((if (1048576 : Int) - xs.length < 0 then -1 else (1048576 : Int) - xs.length) = -1) := if_pos (by omega)
      go_enter Try.func12, Try.ntmps12
      go_wp2_with fail
      rw [← HW.out]
      have c1 := C1.out
      refine (szTree A xs.length c 1048576 _ (by omega) (by omega) (by omega)).mono ?_
      rintro e w1 ⟨he, hb⟩
      rw [hl.out] at he
      subst he
      have B := Lib.hid hb
      clear hb c1
      go_wp2
      go_ret
      exact ⟨rfl, btr hBW.out B.out⟩
  · have hv1 : (1048576 : Int) < (vs.length : Int) := by omega
    go_enter Try.func12, Try.ntmps12
    go_wp2
    go_ret
    exact ⟨rfl, by first | exact hBW.out | (rw [← HW.out]; exact hBW.out)⟩
end Go.Proofs.Ytmhpobgfgimfcaa

/- An argument of type laws.Tree opened: its value, its numbers in memory. -/
namespace Go.Proofs.Ytmhpobgfgimfcaa
open Go.RowKit Go.Joins Go.ChangeShapes Go.WideShapes Go.ChangeAt Go.Deep

theorem own : ownKnob Try.prog.godebug = none := by kernel_rfl
theorem laidOut : laidOutB Try.prog = true := by kernel_rfl
theorem cells64 : Try.prog.cellsOf 2 = 1 := by kernel_rfl
theorem cellsTree : Try.prog.cellsOf 25 = 1 := by kernel_rfl

section
variable {H : Type} {enc : TypeId × Value → H} {P : Program} {w : World} {base : Nat} {spare : Nat → Bool} {held : Bool}
theorem open_agg1 {r : Reach} {b0 : Nat} {t : TypeId} {f0 : Field} {v : Value} {d : DataW H} {p : List MemPlace} (hs : P.underlying t = some (.struct #[f0])) (hone : oneCellFields P #[f0] = true) (hC : P.cellsOf t = 1)
    (hv : Value.okWide P w r b0 t v) (h : DataW.Trod enc P w base spare held t v d p) :
    ∃ (v0 : Value) (y0 : DataW H × List MemPlace) (n : Nat), v = .agg #[v0] ∧ d = .agg [y0.1] ∧ p = y0.2 ∧ DataW.trod enc P w base spare held n f0.type [v0] = some y0 := by
  obtain ⟨cs, rfl, hsz⟩ := okWide_struct hs hv
  obtain ⟨l⟩ := cs
  match l, hsz.trans hC with
  | [c0], _ =>
    obtain ⟨fuel, hf⟩ := h
    obtain ⟨xs, n, _, hx, _, hlen, hg⟩ := DataW.trod_struct hs hf
    obtain ⟨o0, k0⟩ := hone_of hone 0 f0 rfl
    match xs, hlen with
    | [y0], _ =>
      simp only [Prod.mk.injEq] at hx
      exact ⟨c0, y0, n, rfl, by simpa using hx.1, by simpa using hx.2, by simpa [Value.cells, o0, k0] using hg 0 f0 rfl⟩
end

/-- a slice of int64 as read, in this seat's words -/
theorem openInts {H : Type} {enc : TypeId × Value → H} {W : World} {fuel : Nat} {v : Value} {y : DataW H × List MemPlace}
    (h : DataW.trod enc Try.prog W 0 (fun _ => true) true fuel 23 [v] = some y) (hlt : ∀ x ∈ y.2, x.block < W.heap.size) :
    ∃ (A : Option Addr) (c : Nat) (xs : List Int), v = .slice A xs.length c ∧ xs.length ≤ 9223372036854775807 ∧ Ints W W.heap.size A xs ∧ ∀ x ∈ xs, -9223372036854775808 ≤ x ∧ x ≤ 9223372036854775807 := by
  rcases open_ints Try.underlying23 Try.underlying2 cells64 h with ⟨hcs, hx⟩ | ⟨a, len', cap', zs, hcs, _, hl, hm, hz, hx, hcell, hwz⟩
  · obtain rfl : v = .slice none 0 0 := by simpa using hcs
    exact ⟨none, 0, [], rfl, by simp, Ints.nil_ _ _ _, by simp⟩
  · obtain rfl : v = .slice (some a) len' cap' := by simpa using hcs
    simp only [if_true] at hz
    have hlz : len' ≤ zs.length := by omega
    have htl : (zs.take len').length = len' := by simp; omega
    subst hx
    refine ⟨some a, cap', zs.take len', by rw [htl], by rw [htl]; simp only [maxLen] at hm; omega, fun hpos => ?_, fun x hxm => ?_⟩
    · rw [htl] at hpos
      obtain ⟨b, off, spot⟩ := a
      have hspot : spot = none := by simpa [Addr.add] using World.cell?_spot (hcell 0 (by omega))
      subst hspot
      refine ⟨b, off, rfl, hlt (.cell b off) (MemPlace.mem_row.2 ⟨0, by omega, by simp⟩), fun j x hj => ?_⟩
      have hj' : j < zs.length := by
        have := (List.getElem?_eq_some_iff.1 hj).1
        rw [htl] at this
        omega
      have hj2 : zs[j]? = some x := by
        rw [List.getElem?_take] at hj
        split at hj
        · exact hj
        · cases hj
      rw [← add_plain, hcell j hj']
      simp [List.getD, hj2]
    · have := hwz x (List.mem_of_mem_take hxm)
      simpa [Lit.wf, IntKind.min, IntKind.max, IntKind.signed, IntKind.bits] using this

set_option maxRecDepth 100000 in
theorem openTree {H : Type} {enc : TypeId × Value → H} {W : World} {base : Nat} {v : Value} {d : DataW H} {p : List MemPlace} (hv : Value.okWide Try.prog W .any base 25 v)
    (h : DataW.Trod enc Try.prog W 0 (fun _ => true) true 25 v d p) (hlt : ∀ x ∈ p, x.block < W.heap.size) :
    ∃ (A : Option Addr) (c : Nat) (xs : List Int), v = .agg #[.slice A xs.length c] ∧ xs.length ≤ 9223372036854775807 ∧ Ints W W.heap.size A xs ∧ ∀ x ∈ xs, -9223372036854775808 ≤ x ∧ x ≤ 9223372036854775807 := by
  obtain ⟨v0, y0, n, rfl, rfl, rfl, hy⟩ := open_agg1 Try.underlying25 (by kernel_rfl) cellsTree hv h
  obtain ⟨A, c, xs, rfl, h1, h2, h3⟩ := openInts hy hlt
  exact ⟨A, c, xs, rfl, h1, h2, h3⟩
end Go.Proofs.Ytmhpobgfgimfcaa
