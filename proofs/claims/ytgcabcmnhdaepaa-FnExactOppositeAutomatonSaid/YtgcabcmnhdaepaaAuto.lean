/- Automata in memory: to be read; owned; what the laws' helpers do with them: size, copy, equal, marked. -/
import Derived.Test.YtgcabcmnhdaepaaRwsArg
import Derived.Test.YtgcabcmnhdaepaaAutoM
namespace Go.Proofs.Ytgcabcmnhdaepaa
open Go.RowKit Go.Joins Go.ChangeShapes Go.WideShapes Go.ChangeAt Go.Deep

/-- an automaton's steps and good states, to be read -/
structure AutoR (w : World) (As : Option Addr) (Ss : List (List Int)) (Ag : Option Addr) (gs : List Int) : Prop where
  rows : RowsL w As Ss
  good : Ints w w.heap.size Ag gs
theorem AutoR.be {w w' : World} {As Ag : Option Addr} {Ss : List (List Int)} {gs : List Int} (h : AutoR w As Ss Ag gs) (hb : Below w.heap.size w w') : AutoR w' As Ss Ag gs := ⟨h.rows.be hb, h.good.be hb⟩
theorem AutoR.al {w : World} {As Ag : Option Addr} {Ss : List (List Int)} {gs : List Int} (h : AutoR w As Ss Ag gs) (o : Obj) : AutoR (w.alloc o) As Ss Ag gs := h.be (bal (b0 w) o)
theorem AutoR.drew {w : World} {As Ag : Option Addr} {Ss : List (List Int)} {gs : List Int} (h : AutoR w As Ss Ag gs) : AutoR w.drew As Ss Ag gs := h.be (b0 w).drew

/-- an automaton of one's own: all lies from B on, its rows and its good states share no memory -/
structure AutoO (w : World) (B : Nat) (As : Option Addr) (m cm : Nat) (hs : List Hdr) (Ss : List (List Int)) (Ag : Option Addr) (g cg : Nat) (gs : List Int) : Prop where
  rows : Rws w B (.slice As m cm) hs Ss
  good : Own64 w B (.slice Ag g cg) gs
  apart : ∀ h ∈ hs, (Value.slice Ag g cg).ownBlock ≠ some h.1
theorem AutoO.be {w w' : World} {B m cm g cg : Nat} {As Ag : Option Addr} {hs : List Hdr} {Ss : List (List Int)} {gs : List Int} (h : AutoO w B As m cm hs Ss Ag g cg gs) (hb : Below w.heap.size w w') : AutoO w' B As m cm hs Ss Ag g cg gs := ⟨h.rows.be hb, own_be h.good hb, h.apart⟩
theorem AutoO.alloc {w : World} {B m cm g cg : Nat} {As Ag : Option Addr} {hs : List Hdr} {Ss : List (List Int)} {gs : List Int} (h : AutoO w B As m cm hs Ss Ag g cg gs) (o : Obj) : AutoO (w.alloc o) B As m cm hs Ss Ag g cg gs := h.be (bal (b0 w) o)
theorem AutoO.mono {w : World} {B B' m cm g cg : Nat} {As Ag : Option Addr} {hs : List Hdr} {Ss : List (List Int)} {gs : List Int} (h : AutoO w B As m cm hs Ss Ag g cg gs) (hB : B' ≤ B) : AutoO w B' As m cm hs Ss Ag g cg gs := ⟨h.rows.mono hB, own_mono h.good hB, h.apart⟩
theorem Rws.rowsL {w : World} {B n c : Nat} {A : Option Addr} {hs : List Hdr} {zss : List (List Int)} (h : Rws w B (.slice A n c) hs zss) (hz : ∀ zs ∈ zss, zs.length ≤ 9223372036854775807) : RowsL w A zss := fun hp => by
  obtain ⟨g, rfl, hlt, hk⟩ := h.rows0 hp
  refine ⟨g, 0, rfl, hlt, fun k zs hzk => ?_⟩
  obtain ⟨A', c', h1, h2⟩ := hk k zs hzk
  exact ⟨A', c', by rw [Nat.zero_add]; exact h1, hz _ (List.mem_of_getElem? hzk), h2⟩
theorem AutoO.read {w : World} {B m cm g cg : Nat} {As Ag : Option Addr} {hs : List Hdr} {Ss : List (List Int)} {gs : List Int} (h : AutoO w B As m cm hs Ss Ag g cg gs) (hz : ∀ zs ∈ Ss, zs.length ≤ 9223372036854775807) : AutoR w As Ss Ag gs := ⟨h.rows.rowsL hz, ints_of_own64 h.good⟩
theorem RowsL.rows0 {w : World} {b : Nat} {zss : List (List Int)} (h : RowsL w (some ⟨b, 0, none⟩) zss) : Rows0 w (some ⟨b, 0, none⟩) zss := fun hp => by
  obtain ⟨b', off, e, hlt, hk⟩ := h hp
  injection e with e
  injection e with e1 e2
  subst e1; subst e2
  refine ⟨_, rfl, hlt, fun k zs hzk => ?_⟩
  obtain ⟨A', c', h1, _, h2⟩ := hk k zs hzk
  rw [Nat.zero_add] at h1
  exact ⟨A', c', h1, h2⟩

theorem info40 : (Try.prog.info? 27).map (fun i => (i.zero, i.size, i.bytes)) = some (some (.agg #[.int .i64 0, .slice none 0 0, .slice none 0 0]), 3, 56) := by kernel_rfl

theorem Rws.below_set {w : World} {B : Nat} {v : Value} {hs : List Hdr} {zss : List (List Int)} (h : Rws w B v hs zss) {g k : Nat} (hg : g < B) {u : Value} : Rws (w.setCell ⟨g, k, none⟩ u) B v hs zss :=
  ⟨own_far h.row hg u, h.len, fun k' h' zs hk hz => own_far (h.each k' h' zs hk hz) hg u, h.apart⟩
theorem own_heap {w w' : World} {base e size n : Nat} {v : Value} {xs : List Value} (h : w.ownsRow base e size v n xs) (hh : ∀ k, v.ownBlock = some k → w'.heap[k]? = w.heap[k]?) : w'.ownsRow base e size v n xs := by
  refine ⟨h.1, ?_⟩
  rcases h.2 with h2 | ⟨g, cap, cur, hv, hg, h3, r⟩
  · exact .inl h2
  · exact .inr ⟨g, cap, cur, hv, hg, (hh g (by rw [hv]; rfl)).trans h3, r⟩
/-- rows of other elements lie in other blocks -/
theorem own_off {w : World} {B B' e e' size size' n n' : Nat} {v v' : Value} {xs xs' : List Value} (h : w.ownsRow B e size v n xs) (h' : w.ownsRow B' e' size' v' n' xs') (he : e ≠ e') {k : Nat} (hk : v.ownBlock = some k) : v'.ownBlock ≠ some k := by
  intro hk'
  rcases h.2 with ⟨e0, _⟩ | ⟨g, cap, cur, hv, _, hg, _⟩
  · rw [e0] at hk; cases hk
  · rcases h'.2 with ⟨e0, _⟩ | ⟨g', cap', cur', hv', _, hg', _⟩
    · rw [e0] at hk'; cases hk'
    · rw [hv] at hk
      rw [hv'] at hk'
      have e1 : g = k := by injection hk
      have e2 : g' = k := by injection hk'
      rw [e1] at hg
      rw [e2, hg] at hg'
      injection hg' with hg'
      injection hg' with _ hg'
      exact he hg'
theorem cellK {W w1 : World} (hb : Below W.heap.size W w1) {b o : Nat} {v : Value} (h : W.cell? ⟨b, o, none⟩ = some v) : w1.cell? ⟨b, o, none⟩ = some v := ((bcell hb).1 _ _ (World.block_lt_of_cell? _ _ h)).trans h
theorem frozenK {W w1 : World} (hb : Below W.heap.size W w1) {b o : Nat} (hl : b < W.heap.size) (h : W.frozen? ⟨b, o, none⟩ = false) : w1.frozen? ⟨b, o, none⟩ = false := ((bcell hb).2 _ _ hl).trans h

set_option maxRecDepth 100000 in
set_option maxHeartbeats 2000000 in
theorem szAutomaton (st : Int) (As Ag : Option Addr) (Ss : List (List Int)) (gs : List Int) (m cm g cg : Nat) (w : World) (hm : Hid (Ss.length = m)) (hm' : m ≤ 9223372036854775807) (hg' : g ≤ 9223372036854775807) (h : Hid (AutoR w As Ss Ag gs)) :
    Calls Try.prog 18 #[.agg #[.int .i64 st, .slice As m cm, .slice Ag g cg], .int .i64 1048576] w fun e w' => ∃ r : Int, e = .returned (.int .i64 r) ∧ (0 ≤ r → m + M.tot Ss + g ≤ 1048576 ∧ r = 1048576 - ((m + M.tot Ss + g : Nat) : Int)) ∧ (r < 0 → r = -1) ∧ Hid (Below w.heap.size w w') := by
  go_enter Try.func18, Try.ntmps18
  go_wp2_with fail
  have hR : Hid (RowsL (w.alloc (.cells #[.int .i64 st, .slice As m cm, .slice Ag g cg] 25)) As Ss) := (h.out.al _).rows
  refine (szInt64SS As Ss m cm _ hm hm' hR).mono ?_
  rintro e w1 ⟨r, rfl, h1, h2, hb⟩
  have B1 := Lib.hid (btr (bal (b0 w) (.cells #[.int .i64 st, .slice As m cm, .slice Ag g cg] 25)) hb)
  have cA : w1.cell? ⟨w.heap.size, 2, none⟩ = some (.slice Ag g cg) := by rw [(bcell hb).1 _ _ (by simp)]; simp
  have H1 := Lib.hid h1
  have H2 := Lib.hid h2
  clear h1 h2 hb hR
  by_cases hr : r < 0
  · have hr2 := H2.out hr
    subst hr2
    go_wp2
    go_ret
    exact ⟨-1, rfl, fun e => by omega, fun _ => rfl, B1⟩
  · obtain ⟨h3, h4⟩ := H1.out (by omega)
    have hrr : r ≤ 1048576 := by omega
    have hr0 : 0 ≤ r := by omega
    have HS := Lib.hid (szInts Ag g cg r w1 hg' hrr hr0)
    have H3 := Lib.hid h3
    have H4 := Lib.hid h4
    clear h3 h4
    by_cases hn : r - (g : Int) < 0
    · rw [if_pos hn] at HS
      clear hn
      go_wp2_with fail
      refine HS.out.mono ?_
      rintro e w2 ⟨rfl, rfl⟩
      go_wp2
      go_ret
      exact ⟨-1, rfl, fun e => by omega, fun _ => rfl, B1⟩
    · rw [if_neg hn] at HS
      go_wp2_with fail
      refine HS.out.mono ?_
      rintro e w2 ⟨rfl, rfl⟩
      go_wp2
      go_ret
      exact ⟨r - (g : Int), rfl, fun _ => ⟨by have := H3.out; have := H4.out; omega, by have := H3.out; have := H4.out; omega⟩, fun e => by omega, B1⟩

set_option maxRecDepth 100000 in
set_option maxHeartbeats 2000000 in
theorem toAutomaton (st : Int) (As Ag : Option Addr) (Ss : List (List Int)) (gs : List Int) (m cm g cg : Nat) (w : World) (hm : Hid (Ss.length = m)) (hm' : m ≤ 1048576) (hg : Hid (gs.length = g)) (hg' : g ≤ 1048576) (hz : Hid (∀ zs ∈ Ss, zs.length ≤ 1000000000000)) (h : Hid (AutoR w As Ss Ag gs)) :
    Calls Try.prog 20 #[.agg #[.int .i64 st, .slice As m cm, .slice Ag g cg]] w fun e w' => ∃ g1 hs g2, e = .returned (.agg #[.int .i64 st, .slice (some ⟨g1, 0, none⟩) m m, .slice (some ⟨g2, 0, none⟩) g g]) ∧ AutoO w' w.heap.size (some ⟨g1, 0, none⟩) m m hs Ss (some ⟨g2, 0, none⟩) g g gs ∧ Below w.heap.size w w' := by
  go_enter Try.func20, Try.ntmps20
  go_wp2_with fail
  have hR : Hid (RowsL (((w.alloc (.cells #[.int .i64 st, .slice As m cm, .slice Ag g cg] 25)).alloc (.cells #[.int .i64 0, .slice none 0 0, .slice none 0 0] 27)).alloc (.cells #[.int .i64 st, .slice none 0 0, .slice none 0 0] 27)) As Ss) := (((h.out.al _).al _).al _).rows
  have hG : Hid (Ints (((w.alloc (.cells #[.int .i64 st, .slice As m cm, .slice Ag g cg] 25)).alloc (.cells #[.int .i64 0, .slice none 0 0, .slice none 0 0] 27)).alloc (.cells #[.int .i64 st, .slice none 0 0, .slice none 0 0] 27)) _ Ag gs) := (((h.out.al _).al _).al _).good
  refine (toInt64SS As Ss m cm _ hm hm' hz hR).mono ?_
  rintro e w1 ⟨g1, hs, rfl, hW1, hb1⟩
  have z1 := hb1.size
  simp only [World.size_alloc] at z1
  have hB1 := Lib.hid (btr (bal (bal (bal (b0 w) (.cells #[.int .i64 st, .slice As m cm, .slice Ag g cg] 25)) (.cells #[.int .i64 0, .slice none 0 0, .slice none 0 0] 27)) (.cells #[.int .i64 st, .slice none 0 0, .slice none 0 0] 27)) hb1)
  have hW1' := Lib.hid (hW1.mono (B' := w.heap.size + 1 + 1 + 1) (by simp))
  have hG1 := Lib.hid (hG.out.be hb1)
  have a0 : w1.cell? ⟨w.heap.size, 2, none⟩ = some (.slice Ag g cg) := cellK hb1 (by simp [go_sem])
  have c0 : w1.cell? ⟨w.heap.size + 1 + 1, 0, none⟩ = some (.int .i64 st) := cellK hb1 (by simp [go_sem])
  have c1 : w1.cell? ⟨w.heap.size + 1 + 1, 1, none⟩ = some (.slice none 0 0) := cellK hb1 (by simp [go_sem])
  have c2 : w1.cell? ⟨w.heap.size + 1 + 1, 2, none⟩ = some (.slice none 0 0) := cellK hb1 (by simp [go_sem])
  have d0 : w1.cell? ⟨w.heap.size + 1, 0, none⟩ = some (.int .i64 0) := cellK hb1 (by simp [go_sem])
  have d1 : w1.cell? ⟨w.heap.size + 1, 1, none⟩ = some (.slice none 0 0) := cellK hb1 (by simp [go_sem])
  have d2 : w1.cell? ⟨w.heap.size + 1, 2, none⟩ = some (.slice none 0 0) := cellK hb1 (by simp [go_sem])
  have f1 : ∀ o, w1.frozen? ⟨w.heap.size + 1 + 1, o, none⟩ = false := fun o => frozenK hb1 (by simp; try omega) (by simp [go_sem])
  have f2 : ∀ o, w1.frozen? ⟨w.heap.size + 1, o, none⟩ = false := fun o => frozenK hb1 (by simp; try omega) (by simp [go_sem])
  clear hb1 hW1 hR hG
  go_wp2_with fail
  have hB1s : Below w.heap.size w (w1.setCell ⟨w.heap.size + 1 + 1, 1, none⟩ (.slice (some ⟨g1, 0, none⟩) m m)) := below_setCell hB1.out (by omega) _
  have hW2 : Hid (Rws (w1.setCell ⟨w.heap.size + 1 + 1, 1, none⟩ (.slice (some ⟨g1, 0, none⟩) m m)) (w.heap.size + 1 + 1 + 1) (.slice (some ⟨g1, 0, none⟩) m m) hs Ss) := hW1'.out.below_set (by omega)
  have HT := toInts Ag gs cg (w1.setCell ⟨w.heap.size + 1 + 1, 1, none⟩ (.slice (some ⟨g1, 0, none⟩) m m)) (by rw [hg.out]; omega) (h.out.good.be hB1s)
  rw [hg.out] at HT
  refine HT.mono ?_
  rintro e w2 ⟨g2, rfl, ho2, hb2⟩
  have hz2 : (w1.setCell ⟨w.heap.size + 1 + 1, 1, none⟩ (.slice (some ⟨g1, 0, none⟩) m m)).heap.size = w1.heap.size := by simp
  have c0' : w2.cell? ⟨w.heap.size + 1 + 1, 0, none⟩ = some (.int .i64 st) := cellK hb2 (by simp [go_sem, c0])
  have c1' : w2.cell? ⟨w.heap.size + 1 + 1, 1, none⟩ = some (.slice (some ⟨g1, 0, none⟩) m m) := cellK hb2 (by simp [go_sem, c1])
  have c2' : w2.cell? ⟨w.heap.size + 1 + 1, 2, none⟩ = some (.slice none 0 0) := cellK hb2 (by simp [go_sem, c2])
  have d0' : w2.cell? ⟨w.heap.size + 1, 0, none⟩ = some (.int .i64 0) := cellK hb2 (by simp [go_sem, d0])
  have d1' : w2.cell? ⟨w.heap.size + 1, 1, none⟩ = some (.slice none 0 0) := cellK hb2 (by simp [go_sem, d1])
  have d2' : w2.cell? ⟨w.heap.size + 1, 2, none⟩ = some (.slice none 0 0) := cellK hb2 (by simp [go_sem, d2])
  have f1' : ∀ o, w2.frozen? ⟨w.heap.size + 1 + 1, o, none⟩ = false := fun o => frozenK hb2 (by omega) (by simp [go_sem, f1])
  have f2' : ∀ o, w2.frozen? ⟨w.heap.size + 1, o, none⟩ = false := fun o => frozenK hb2 (by omega) (by simp [go_sem, f2])
  have hB2 := Lib.hid (btr hB1s hb2)
  have hW3 := Lib.hid (hW2.out.be hb2)
  have hap : Hid (∀ h' ∈ hs, (Value.slice (some ⟨g2, 0, none⟩) g g).ownBlock ≠ some h'.1) := fun h' hh e => by
    have h1 := (hW2.out.lt hh).2
    have h2 := (World.ownsRow.lt ho2 g2 rfl).1
    injection e with e
    have e' : g2 = h'.1 := e
    omega
  have ho3 : Hid (Own64 w2 (w.heap.size + 1 + 1 + 1) (.slice (some ⟨g2, 0, none⟩) g g) gs) := own_mono ho2 (by omega)
  have hB3 : Hid (Below w.heap.size w (w2.setCell ⟨w.heap.size + 1 + 1, 2, none⟩ (.slice (some ⟨g2, 0, none⟩) g g))) := below_setCell hB2.out (by omega) _
  have hW4 : Hid (Rws (w2.setCell ⟨w.heap.size + 1 + 1, 2, none⟩ (.slice (some ⟨g2, 0, none⟩) g g)) (w.heap.size + 1 + 1 + 1) (.slice (some ⟨g1, 0, none⟩) m m) hs Ss) := hW3.out.below_set (by omega)
  have ho4 : Hid (Own64 (w2.setCell ⟨w.heap.size + 1 + 1, 2, none⟩ (.slice (some ⟨g2, 0, none⟩) g g)) (w.heap.size + 1 + 1 + 1) (.slice (some ⟨g2, 0, none⟩) g g) gs) := own_far ho3.out (by omega) _
  clear c0 c1 c2 d0 d1 d2 f1 f2 ho2 hb2 HT hB1s
  go_wp2
  refine bodyPost_ret (v := .agg #[.int .i64 st, .slice (some ⟨g1, 0, none⟩) m m, .slice (some ⟨g2, 0, none⟩) g g]) (by simp [results, Try.results20, go_sem, d0', d1', d2']) rfl ?_
  refine ⟨g1, hs, g2, rfl, ⟨?_, ?_, hap.out⟩, ?_⟩
  · exact (((hW4.out.below_set (by omega)).below_set (by omega)).below_set (by omega)).mono (by omega)
  · exact own_mono (own_far (own_far (own_far ho4.out (by omega) _) (by omega) _) (by omega) _) (by omega)
  · exact below_setCell (below_setCell (below_setCell hB3.out (by omega) _) (by omega) _) (by omega) _

/-- what is compared: a slice of rows from its block's start, and a list -/
structure AutoE (w : World) (As : Option Addr) (Ss : List (List Int)) (Ag : Option Addr) (gs : List Int) : Prop where
  rows : Rows0 w As Ss
  good : Ints w w.heap.size Ag gs
theorem AutoE.be {w w' : World} {As Ag : Option Addr} {Ss : List (List Int)} {gs : List Int} (h : AutoE w As Ss Ag gs) (hb : Below w.heap.size w w') : AutoE w' As Ss Ag gs := ⟨h.rows.be hb, h.good.be hb⟩
theorem AutoO.eq {w : World} {B m cm g cg : Nat} {As Ag : Option Addr} {hs : List Hdr} {Ss : List (List Int)} {gs : List Int} (h : AutoO w B As m cm hs Ss Ag g cg gs) : AutoE w As Ss Ag gs := ⟨h.rows.rows0, ints_of_own64 h.good⟩

set_option maxRecDepth 100000 in
set_option maxHeartbeats 2000000 in
theorem eqAutomaton (st : Int) (As Ag As' Ag' : Option Addr) (Ss : List (List Int)) (gs : List Int) (m cm cm' g cg cg' : Nat) (w : World) (hm : Hid (Ss.length = m)) (hm' : m ≤ 1048576) (hg : Hid (gs.length = g)) (hg' : g ≤ 1048576) (hz : Hid (∀ zs ∈ Ss, zs.length ≤ 1000000000000)) (h : Hid (AutoE w As Ss Ag gs)) (h' : Hid (AutoE w As' Ss Ag' gs)) :
    Calls Try.prog 22 #[.agg #[.int .i64 st, .slice As m cm, .slice Ag g cg], .agg #[.int .i64 st, .slice As' m cm', .slice Ag' g cg']] w fun e w' => e = .returned (.bool true) ∧ Hid (Below w.heap.size w w') := by
  have hne : (st != st) = false := by simp
  have hB0 := Lib.hid (bal (bal (b0 w) (.cells #[.int .i64 st, .slice As m cm, .slice Ag g cg] 27)) (.cells #[.int .i64 st, .slice As' m cm', .slice Ag' g cg'] 27))
  have HE := Lib.hid (eqInt64SS As As' Ss m cm cm' _ hm (by omega) hz (Lib.hid (h.out.be hB0.out).rows) (Lib.hid (h'.out.be hB0.out).rows))
  go_enter Try.func22, Try.ntmps22
  go_wp2_with fail
  refine HE.out.mono ?_
  rintro e w1 ⟨rfl, hb1⟩
  have a1 : w1.cell? ⟨w.heap.size, 2, none⟩ = some (.slice Ag g cg) := cellK hb1 (by simp [go_sem])
  have a2 : w1.cell? ⟨w.heap.size + 1, 2, none⟩ = some (.slice Ag' g cg') := cellK hb1 (by simp [go_sem])
  have hB1 := Lib.hid (btr hB0.out hb1)
  clear hb1
  go_wp2_with fail
  have HI := eqIntsT Ag Ag' gs cg cg' w1 (by rw [hg.out]; omega) (h.out.be hB1.out).good (h'.out.be hB1.out).good
  rw [hg.out] at HI
  refine HI.mono ?_
  rintro e w2 ⟨rfl, hb2⟩
  have hB2 := Lib.hid (btr hB1.out hb2)
  clear hb2 HI
  go_wp2
  go_ret
  exact ⟨rfl, hB2⟩

set_option maxRecDepth 100000 in
set_option maxHeartbeats 2000000 in
/-- marked: what lay below is as it was, and no other block either -/
theorem markAutomaton (st : Int) (As Ag : Option Addr) (Ss : List (List Int)) (gs : List Int) (m cm g cg B : Nat) (hs : List Hdr) (k0 : Int) (hk0 : 0 ≤ k0) (hk1 : k0 ≤ 10000000000) (w : World) (hm : Hid (Ss.length = m)) (hm' : m ≤ 1048576) (hg : Hid (gs.length = g)) (hg' : g ≤ 1048576) (hT : Hid (M.tot Ss ≤ 1048576)) (hB : B ≤ w.heap.size) (h : Hid (AutoO w B As m cm hs Ss Ag g cg gs)) :
    Calls Try.prog 23 #[.agg #[.int .i64 st, .slice As m cm, .slice Ag g cg], .int .i64 k0] w fun e w' => e = .returned (.int .i64 (k0 + (M.tot Ss : Int) + (g : Int))) ∧ Rws w' B (.slice As m cm) hs (M.partM k0 Ss m) ∧ Own64 w' B (.slice Ag g cg) (marks (k0 + (M.tot Ss : Int)) g) ∧ Hid (Below B w w') ∧
      Hid (∀ j, j < w.heap.size → (∀ h' ∈ hs, h'.1 ≠ j) → (Value.slice Ag g cg).ownBlock ≠ some j → w'.heap[j]? = w.heap[j]?) := by
  obtain ⟨T, hTt⟩ : ∃ T, Hid (M.tot Ss = T) := ⟨_, rfl⟩
  rw [hTt.out] at hT
  have hTT := hT.out
  have hB0 : Hid (Below B w (w.alloc (.cells #[.int .i64 st, .slice As m cm, .slice Ag g cg] 27))) := (Below.refl B w).alloc hB _
  have hO := Lib.hid (h.out.alloc (.cells #[.int .i64 st, .slice As m cm, .slice Ag g cg] 27))
  have HM := Lib.hid (markInt64SS As m cm hs Ss k0 B (w.alloc (.cells #[.int .i64 st, .slice As m cm, .slice Ag g cg] 27)) hm (by omega) (by rw [hTt.out]; exact Lib.hid (by omega)) hk0 (by omega) (by simp; omega) (Lib.hid hO.out.rows))
  rw [hTt.out] at HM ⊢
  go_enter Try.func23, Try.ntmps23
  go_wp2_with fail
  refine HM.out.mono ?_
  rintro e w1 ⟨rfl, hW1, hb1, hfr1⟩
  have hz1 := hb1.size
  have hn0 : ∀ h' ∈ hs, h'.1 ≠ w.heap.size := fun h' hh e => by have := (h.out.rows.lt hh).2; omega
  have a1 : w1.cell? ⟨w.heap.size, 2, none⟩ = some (.slice Ag g cg) :=
    (World.cell?_of_block (w := w.alloc (.cells #[.int .i64 st, .slice As m cm, .slice Ag g cg] 27)) (a := ⟨w.heap.size, 2, none⟩) (hfr1 w.heap.size (by simp) hn0)).trans (by simp [go_sem])
  have ho1 : Own64 w1 B (.slice Ag g cg) gs := own_heap hO.out.good (fun k hk => by
    have h1 := h.out.good.lt k hk
    exact hfr1 k (by simp; omega) (fun h' hh e => h.out.apart h' hh (by rw [hk, e])))
  have hB1 := Lib.hid (hB0.out.trans hb1)
  have hf1 : Hid (∀ j, j < w.heap.size → (∀ h' ∈ hs, h'.1 ≠ j) → w1.heap[j]? = w.heap[j]?) := fun j hj hh => (hfr1 j (by simp; omega) hh).trans ((bal (b0 w) (.cells #[.int .i64 st, .slice As m cm, .slice Ag g cg] 27)).block j hj)
  have hW1' := Lib.hid hW1
  have w1r : IntKind.i64.wrap (k0 + (T : Int)) = k0 + (T : Int) := IntWalk.i64_in _ (by omega)
  clear hW1 hb1 hfr1 hn0 HM
  go_wp2_with fail
  refine (markInts Ag g cg gs (k0 + (T : Int)) B w1 hg.out (by omega) (by omega) (by omega) ho1).mono ?_
  rintro e w2 ⟨rfl, ho2, hg2⟩
  have ho2' := Lib.hid ho2
  have hW2 : Hid (Rws w2 B (.slice As m cm) hs (M.partM k0 Ss m)) := hW1'.out.kept hg2 (fun k hk => ⟨own_off ho1 hW1'.out.row (by decide) hk, fun h' hh e => h.out.apart h' hh (by rw [hk, e])⟩)
  have hB2 : Hid (Below B w w2) := hB1.out.grown hg2 (by have := hB1.out.size; omega) (fun k hk => (h.out.good.lt k hk).1)
  have hf2 : Hid (∀ j, j < w.heap.size → (∀ h' ∈ hs, h'.1 ≠ j) → (Value.slice Ag g cg).ownBlock ≠ some j → w2.heap[j]? = w.heap[j]?) := fun j hj hh hne => (hg2.block j (by have := hB1.out.size; omega) (fun e => hne e.symm)).trans (hf1.out j hj hh)
  clear ho2 hg2 ho1
  go_wp2
  go_ret
  exact ⟨rfl, hW2.out, ho2'.out, hB2, hf2⟩

/-- the box of an automaton -/
def BoxA (w : World) (b : Nat) (st : Int) (As : Option Addr) (m cm : Nat) (Ag : Option Addr) (g cg : Nat) : Prop :=
  w.cell? ⟨b, 0, none⟩ = some (.int .i64 st) ∧ w.cell? ⟨b, 1, none⟩ = some (.slice As m cm) ∧ w.cell? ⟨b, 2, none⟩ = some (.slice Ag g cg)
theorem BoxA.be {w w' : World} {b : Nat} {st : Int} {As Ag : Option Addr} {m cm g cg : Nat} (h : BoxA w b st As m cm Ag g cg) (hb : Below w.heap.size w w') : BoxA w' b st As m cm Ag g cg := ⟨cellK hb h.1, cellK hb h.2.1, cellK hb h.2.2⟩
theorem BoxA.al {w : World} {b : Nat} {st : Int} {As Ag : Option Addr} {m cm g cg : Nat} (h : BoxA w b st As m cm Ag g cg) (o : Obj) : BoxA (w.alloc o) b st As m cm Ag g cg := h.be (bal (b0 w) o)
theorem BoxA.new (w : World) (st : Int) (As Ag : Option Addr) (m cm g cg : Nat) (t : TypeId) : BoxA (w.alloc (.cells #[.int .i64 st, .slice As m cm, .slice Ag g cg] t)) w.heap.size st As m cm Ag g cg := ⟨by simp [go_sem], by simp [go_sem], by simp [go_sem]⟩
theorem BoxA.lt {w : World} {b : Nat} {st : Int} {As Ag : Option Addr} {m cm g cg : Nat} (h : BoxA w b st As m cm Ag g cg) : b < w.heap.size := World.block_lt_of_cell? _ _ h.1

end Go.Proofs.Ytgcabcmnhdaepaa
