/- ParseTree, the program's and the model's: the tree with a text, or a code. -/
import Derived.Test.YtbdmmeoelagdcaaTwo
namespace Go.Proofs.Ytbdmmeoelagdcaa
open Go.RowKit

/-- the bytes of a string, as numbers -/
def bytesOf (s : ByteArray) : List Int := s.data.toList.map fun b => (b.toNat : Int)
theorem bytesOf_length (s : ByteArray) : (bytesOf s).length = s.size := by simp [bytesOf]
theorem bytesOf_at (s : ByteArray) {k : Nat} (h : k < s.size) : (bytesOf s)[k]? = some (s[k].toNat : Int) := by
  have h' : k < s.data.toList.length := by simpa using h
  simp only [bytesOf, List.getElem?_map, List.getElem?_eq_getElem h']
  rfl

/-- what a function of a text that hands back a tree and a code must do -/
def GivesParse (f : Nat) : Prop :=
  ∀ (s : ByteArray) (w : World), s.size ≤ 1048576 →
    Calls Try.prog f #[.string s] w fun e w' => ∃ A' c', e = .returned (.tuple #[.agg #[.slice A' (M.parse (bytesOf s)).1.length c'], .int .i64 (M.parse (bytesOf s)).2]) ∧
      Own64 w' w.heap.size (.slice A' (M.parse (bytesOf s)).1.length c') (M.parse (bytesOf s)).1 ∧ Below w.heap.size w w'

theorem two_nil (w : World) (B : Nat) : Two w B (.slice none 0 0) (.slice none 0 0) [] [] := ⟨own64_nil _ _, own64_nil _ _, fun b h => by simp [Value.ownBlock] at h⟩

theorem parse_nil : M.parse (bytesOf ByteArray.empty) = ([], 6) := by simp [bytesOf, M.parse, M.prun]

set_option maxHeartbeats 8000000 in
set_option maxRecDepth 100000 in
theorem impl_ParseTree : GivesParse 81 := by
  intro s w hs
  have hB0 := Lib.hid (bal (b0 w) (.cells #[.slice none 0 0] 29))
  have hres : Hid ((w.alloc (.cells #[.slice none 0 0] 29)).heap[w.heap.size]? = some (.cells #[.slice none 0 0] 29 (0, 0))) := heap_alloc_new w _
  by_cases h0 : s.size = 0
  · obtain rfl : s = ByteArray.empty := by simpa using h0
    rw [parse_nil]
    clear h0
    go_enter Try.func81, Try.ntmps81
    go_wp2
    refine bodyPost_ret (v := .tuple #[.agg #[.slice none 0 0], .int .i64 6]) (by simp [results, Try.results81, go_sem]) rfl ?_
    exact ⟨none, 0, rfl, own64_nil _ _, hB0.out⟩
  · have hne : s.toList.isEmpty = false := by
      cases h : s.toList.isEmpty
      · rfl
      · refine absurd ?_ h0
        rw [ByteArray.toList_eq] at h
        have h' : s.data.toList = [] := by simpa using h
        have : s.data.toList.length = 0 := by rw [h']; rfl
        simpa using this
    have hbl := Lib.hid (bytesOf_length s)
    have hlong : Hid (48 < s.size → M.parse (bytesOf s) = ([], 6)) := fun e => M.parse_long (by rw [hbl.out]; exact e)
    have hfail : Hid (M.prun [] [] (bytesOf s) = none → M.parse (bytesOf s) = ([], 6)) := fun e => M.parse_fail e
    have hopen : Hid (∀ ds st, M.prun [] [] (bytesOf s) = some (ds, st) → 0 < st.length → M.parse (bytesOf s) = ([], 6)) := fun ds st e h => M.parse_open e h
    have hdone : Hid (∀ ds, s.size ≤ 48 → M.prun [] [] (bytesOf s) = some (ds, []) → ds ≠ [] → M.parse (bytesOf s) = (ds, 0)) := fun ds h e h' => M.parse_done (by rw [hbl.out]; exact h) e h'
    have hat : Hid (∀ k (h : k < s.size), (bytesOf s)[k]? = some ((s[k]'h).toNat : Int)) := fun k h => bytesOf_at s h
    have hprn : Hid (M.prun [] [] ((bytesOf s).drop 0) = M.prun [] [] (bytesOf s)) := by rfl
    generalize bytesOf s = L at *
    generalize hR : M.parse L = R at *
    generalize hP : M.prun [] [] L = P at *
    clear hR hP
    by_cases h48 : 48 < s.size
    · have hR := hlong.out h48
      subst hR
      have h48' : (48 : Int) < (s.size : Int) := by omega
      clear h0 hlong hfail hopen hdone hat hprn hbl
      go_enter Try.func81, Try.ntmps81
      go_wp2
      refine bodyPost_ret (v := .tuple #[.agg #[.slice none 0 0], .int .i64 6]) (by simp [results, Try.results81, go_sem]) rfl ?_
      exact ⟨none, 0, rfl, own64_nil _ _, hB0.out⟩
    · have h48' : ¬ (48 : Int) < (s.size : Int) := by omega
      have h49 : s.size ≤ 48 := by omega
      have hpos : 0 < s.size := by omega
      clear h0 hlong h48
      go_enter Try.func81, Try.ntmps81
      go_wp2
      go_loopw [4, 5, 6, 7, 18] (fun q1 q2 _ _ i wr => ∃ (k : Nat) (A1 : Option Addr) (n1 c1 : Nat) (A2 : Option Addr) (n2 c2 : Nat) (ds st : List Int), k ≤ s.size ∧ i = .int .i64 k ∧ q1 = .slice A1 n1 c1 ∧ q2 = .slice A2 n2 c2 ∧
          Hid (Two wr (w.heap.size + 1) (.slice A1 n1 c1) (.slice A2 n2 c2) ds st) ∧ Hid (M.prun ds st (L.drop k) = P) ∧ Hid (M.pgood k ds st) ∧ Hid (0 < k → ds ≠ []) ∧ Hid (Below (w.heap.size + 1) (w.alloc (.cells #[.slice none 0 0] 29)) wr)) (fun _ _ _ _ i _ => s.size - (intOf i).toNat)
      case atStart => exact ⟨0, none, 0, 0, none, 0, 0, [], [], Nat.zero_le _, rfl, rfl, rfl, two_nil _ _, hprn, M.pgood_nil, fun h => absurd h (by omega), Below.refl _ _⟩
      case round =>
        obtain ⟨k, A1, n1, c1, A2, n2, c2, ds, st, hk, rfl, rfl, rfl, ht, hg, hgood, hnz, hbr⟩ := hrel
        have hsh1 := ht.out.shape
        have hsh2 := ht.out.symm.shape
        have hn1 := hsh1.1
        have hn2 := hsh2.1
        have hp := hgood.out
        have hn1k : n1 ≤ 48 := by have := hp.1; omega
        have hn2k : n2 ≤ 48 := by have := hp.2.1; omega
        have hrr := (hbr.out.block w.heap.size (Nat.lt_succ_self _)).trans hres.out
        have hrc : wr.cell? ⟨w.heap.size, 0, none⟩ = some (.slice none 0 0) := cell_of_one hrr
        have hrf : wr.frozen? ⟨w.heap.size, 0, none⟩ = false := free_of_one hrr
        have hBw : Hid (Below w.heap.size w wr) := hB0.out.trans (hbr.out.mono (Nat.le_succ _))
        have hBsz := hbr.out.size
        simp only [World.size_alloc] at hBsz
        have Hn1 := Lib.hid hn1
        have Hn2 := Lib.hid hn2
        clear hrr hp hn1 hn2
        by_cases hlt : k < s.size
        · have hX := Lib.hid (hat.out k hlt)
          have hx0 : (0 : Int) ≤ (s[k].toNat : Int) := by omega
          by_cases hst : 0 < n2
          · -- a node is open
            obtain ⟨g2, rfl⟩ := hsh2.2 hst
            have hstl : 0 < st.length := by rw [← Hn2.out]; exact hst
            have hl0 : (0 : Int) ≤ (n2 : Int) - 1 := by omega
            have hl1 : ¬ (n2 : Int) - 1 < 0 := by omega
            have hlf : decide ((n2 : Int) - 1 < 0) = false := decide_eq_false hl1
            by_cases h40 : (s[k].toNat : Int) = 40
            · have hq : ((s[k].toNat : Int) == 40) = true := by simp [h40]
              -- the open node and its degree
              have hp : Hid (st[st.length - 1]? = some st[st.length - 1]) := List.getElem?_eq_getElem (by omega)
              obtain ⟨p0, hp0⟩ : ∃ p, st[st.length - 1] = p := ⟨_, rfl⟩
              rw [hp0] at hp
              have hpin := hgood.out.2.2.1 p0 (hp0 ▸ List.getElem_mem _)
              obtain ⟨p, rfl⟩ := Int.eq_ofNat_of_zero_le hpin.1
              have hpd : p < ds.length := by simpa using hpin.2
              have hd : Hid (ds[p]? = some ds[p]) := List.getElem?_eq_getElem hpd
              obtain ⟨d0, hd0⟩ : ∃ d, ds[p] = d := ⟨_, rfl⟩
              rw [hd0] at hd
              have hdr := hgood.out.2.2.2 d0 (hd0 ▸ List.getElem_mem _)
              have hd1 := hdr.1
              have hd2 := hdr.2
              have hpn : p < n1 := by rw [Hn1.out]; exact hpd
              obtain ⟨g1, rfl⟩ := hsh1.2 (by omega)
              have e2 : st.length - 1 = n2 - 1 := by rw [← Hn2.out]
              have gp := (own64_cell ht.out.2.1 Hn2.out.symm (k := n2 - 1) (x := (p : Int)) (by rw [← e2]; exact hp.out)).1
              obtain ⟨gd, gf, _, _⟩ := own64_cell ht.out.1 Hn1.out.symm (k := p) (x := d0) hd.out
              have hstep := Lib.hid (M.prun_step hX.out (by rw [h40]; exact M.pstep_open hp.out (by simpa using hd.out)))
              have hgood2 := Lib.hid (M.pgood_open (p := (p : Int)) hgood.out (by simpa using hd.out))
              simp only [Int.toNat_natCast] at hstep hgood2
              have hpl : p ≤ 48 := by omega
              have hset := Lib.hid (ht.out.set Hn1.out.symm p (d0 + 1))
              have hcast : ((n2 : Int) - 1).toNat = n2 - 1 := by omega
              clear hp0 hpin hd0 hdr e2 h40 hsh1 hsh2
              have hset' := Lib.hid hset.out.symm
              have hBs : w.heap.size + 1 ≤ (wr.setCell ⟨g1, p, none⟩ (.int .i64 (d0 + 1))).heap.size := by simpa using hBsz
              have hn1m : n1 ≤ 1000000 := by omega
              have hn2m : n2 ≤ 1000000 := by omega
              go_wp2_with (first | (at_builtin; refine pushTwo rfl (.tmp 48) (.tmp 51) rfl (wr.setCell ⟨g1, p, none⟩ (.int .i64 (d0 + 1))) (w.heap.size + 1) (some ⟨g2, 0, none⟩) n2 c2 (.slice (some ⟨g1, 0, none⟩) n1 c1) st (ds.set p (d0 + 1)) (n1 : Int) rfl _ rfl (by simp) hset' hBs hn2m ?_; intro A3 c3 w3 ht3 hb3; have ht3' := Lib.hid ht3.out.symm; have hB3 := Nat.le_trans hBs hb3.out.size) | (at_builtin; refine pushTwo rfl (.tmp 53) (.tmp 54) rfl w3 (w.heap.size + 1) (some ⟨g1, 0, none⟩) n1 c1 (.slice A3 (n2 + 1) c3) (ds.set p (d0 + 1)) (st ++ [(n1 : Int)]) 0 rfl _ rfl rfl ht3' hB3 hn1m ?_; intro A4 c4 w4 ht4 hb4))
              go_roundw
              case rel => exact ⟨k + 1, A4, _, c4, A3, _, c3, _, _, by omega, by go_num, rfl, rfl, ht4.out.eq rfl (by rw [Hn1.out]), hstep.out.symm.trans hg.out, hgood2, fun _ => by simp, ((below_setCell hbr.out (by have := ht.out.1.lt g1 rfl; omega) _).trans hb3.out).trans hb4.out⟩
              case measure => simp [intOf]; omega
            · have hq : ((s[k].toNat : Int) == 40) = false := by simp [h40]
              by_cases h41 : (s[k].toNat : Int) = 41
              · have hq2 : ((s[k].toNat : Int) == 41) = true := by simp [h41]
                have hstep := Lib.hid (M.prun_step hX.out (by rw [h41]; exact M.pstep_close (ds := ds) hstl))
                have hgood2 := Lib.hid (M.pgood_close hgood.out)
                have hpop := Lib.hid (ht.out.pop hst)
                have hcast : ((n2 : Int) - 1).toNat = n2 - 1 := by omega
                have hcap0 := ht.out.symm.cap
                have hnz0 := Lib.hid (show ds ≠ [] from fun e => by have := hgood.out.2.1; rw [e] at this; simp only [List.length_nil] at this; omega)
                have hcap : (n2 : Int) - 1 ≤ (c2 : Int) := by omega
                clear h40 h41 hsh1 hsh2
                go_wp2
                go_roundw
                case rel => exact ⟨k + 1, A1, n1, c1, some ⟨g2, 0, none⟩, n2 - 1, c2, _, _, by omega, by go_num, rfl, rfl, hpop, hstep.out.symm.trans hg.out, hgood2, fun _ => hnz0.out, hbr⟩
                case measure => simp [intOf]; omega
              · have hq2 : ((s[k].toNat : Int) == 41) = false := by simp [h41]
                have hR := hfail.out (hg.out.symm.trans (M.prun_fail hX.out (M.pstep_other h40 h41)))
                subst hR
                clear h40 h41 hsh1 hsh2 hg hgood hnz hfail hopen hdone
                go_wp2
                refine bodyPost_ret (v := .tuple #[.agg #[.slice none 0 0], .int .i64 6]) (by simp [results, Try.results81, go_sem, hrc]) rfl ?_
                exact ⟨none, 0, rfl, own64_nil _ _, below_setCell hBw.out (Nat.le_refl _) _⟩
          · -- no node is open
            have hn20 : n2 = 0 := by omega
            subst hn20
            have hst0 : st = [] := List.eq_nil_of_length_eq_zero Hn2.out.symm
            subst hst0
            by_cases hk0 : 0 < k
            · have hki : (0 : Int) < (k : Int) := by omega
              have hR := hfail.out (hg.out.symm.trans (M.prun_fail hX.out (M.pstep_none (.inl (hnz.out hk0)))))
              subst hR
              clear hsh1 hsh2 hg hgood hnz hfail hopen hdone hst hk0
              go_wp2
              refine bodyPost_ret (v := .tuple #[.agg #[.slice none 0 0], .int .i64 6]) (by simp [results, Try.results81, go_sem, hrc]) rfl ?_
              exact ⟨none, 0, rfl, own64_nil _ _, below_setCell hBw.out (Nat.le_refl _) _⟩
            · obtain rfl : k = 0 := by omega
              have hds0 : ds = [] := List.eq_nil_of_length_eq_zero (by have := hgood.out.1; omega)
              subst hds0
              have hn10 : n1 = 0 := Hn1.out
              subst hn10
              by_cases h40 : (s[0].toNat : Int) = 40
              · have hq : ((s[0].toNat : Int) == 40) = true := by simp [h40]
                have hstep := Lib.hid (M.prun_step hX.out (by rw [h40]; exact M.pstep_first))
                have hgood2 := Lib.hid M.pgood_first
                have hset' := Lib.hid ht.out.symm
                have hBs : w.heap.size + 1 ≤ wr.heap.size := hBsz
                clear h40 hsh1 hsh2 hst hk0
                go_wp2_with (first | (at_builtin; refine pushTwo rfl (.tmp 48) (.tmp 51) rfl wr (w.heap.size + 1) A2 0 c2 (.slice A1 0 c1) [] [] 0 rfl _ rfl (by simp) hset' hBs (by omega) ?_; intro A3 c3 w3 ht3 hb3; have ht3' := Lib.hid ht3.out.symm; have hB3 := Nat.le_trans hBs hb3.out.size) | (at_builtin; refine pushTwo rfl (.tmp 53) (.tmp 54) rfl w3 (w.heap.size + 1) A1 0 c1 (.slice A3 (0 + 1) c3) [] [0] 0 rfl _ rfl rfl ht3' hB3 (by omega) ?_; intro A4 c4 w4 ht4 hb4))
                go_roundw
                case rel => exact ⟨1, A4, _, c4, A3, _, c3, _, _, by omega, rfl, rfl, rfl, ht4.out.symm.symm, hstep.out.symm.trans hg.out, hgood2, fun _ => by simp, (hbr.out.trans hb3.out).trans hb4.out⟩
                case measure => simp [intOf]; omega
              · have hq : ((s[0].toNat : Int) == 40) = false := by simp [h40]
                have hR := hfail.out (hg.out.symm.trans (M.prun_fail hX.out (M.pstep_none (.inr h40))))
                subst hR
                clear hsh1 hsh2 hg hgood hnz hfail hopen hdone hst hk0 h40
                go_wp2
                all_goals refine bodyPost_ret (v := .tuple #[.agg #[.slice none 0 0], .int .i64 6]) (by simp [results, Try.results81, go_sem, hrc]) rfl ?_
                all_goals exact ⟨none, 0, rfl, own64_nil _ _, below_setCell hBw.out (Nat.le_refl _) _⟩
        · obtain rfl : k = s.size := by omega
          have hgf : Hid (P = some (ds, st)) := by
            have := hg.out
            rw [List.drop_of_length_le (by rw [hbl.out]; omega)] at this
            exact this.symm
          by_cases hst : 0 < n2
          · have hR := hopen.out ds st hgf.out (by rw [← Hn2.out]; exact hst)
            subst hR
            clear hsh1 hsh2 hg hgood hnz hfail hopen hdone
            go_wp2
            refine bodyPost_ret (v := .tuple #[.agg #[.slice none 0 0], .int .i64 6]) (by simp [results, Try.results81, go_sem, hrc]) rfl ?_
            exact ⟨none, 0, rfl, own64_nil _ _, below_setCell hBw.out (Nat.le_refl _) _⟩
          · have hn20 : n2 = 0 := by omega
            subst hn20
            have hst0 : st = [] := List.eq_nil_of_length_eq_zero Hn2.out.symm
            subst hst0
            have hR := hdone.out ds h49 hgf.out (hnz.out hpos)
            subst hR
            have hnn := Hn1.out
            subst hnn
            clear hsh1 hsh2 hg hgood hnz hfail hopen hdone hst
            go_wp2
            refine bodyPost_ret (v := .tuple #[.agg #[.slice A1 ds.length c1], .int .i64 0]) (by simp [results, Try.results81, go_sem, hrc]) rfl ?_
            exact ⟨A1, c1, rfl, own_mono (own_far ht.out.1 (Nat.lt_succ_self _) _) (Nat.le_succ _), below_setCell hBw.out (Nat.le_refl _) _⟩
end Go.Proofs.Ytbdmmeoelagdcaa
