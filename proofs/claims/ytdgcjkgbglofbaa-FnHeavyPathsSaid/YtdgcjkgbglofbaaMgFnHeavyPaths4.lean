/- A drawn tree: the model's draws l01Small and l01Draw. -/
import Derived.Test.YtdgcjkgbglofbaaMgFnHeavyPaths3
import Derived.Deep.Cut
import Derived.ProofKit
import Derived.SizedLaws
import Derived.Lib.SmallJoins
import Derived.Deep.Slices
import Derived.Deep.Fields
import Derived.JoinedOf
namespace Go.Proofs.Ytdgcjkgbglofbaa
open Go.RowKit

/-- a tree of the call's own comes out, the source goes on -/
def DrawnT (w w' : World) (B g : Nat) (e : Ending) : Prop :=
  ∃ (n : Nat) (A' : Option Addr) (c' : Nat) (ds : List Int), e = .returned (.agg #[.slice A' n c']) ∧ (1 ≤ n ∧ n ≤ 24) ∧ Hid (ds.length = n) ∧ Hid (M.isTree ds = true) ∧ Hid (Own64 w' w.heap.size (.slice A' n c') ds) ∧ Hid (Src w' B g) ∧ Hid (w.grownBy w' (some g))
theorem res_keep {w1 w2 : World} {R g : Nat} {o : Obj} (h : w1.heap[R]? = some o) (hg : w1.grownBy w2 (some g)) (hne : R ≠ g) : w2.heap[R]? = some o :=
  (hg.block R (Array.getElem?_eq_some_iff.1 h).1 (fun e => by injection e with e; exact hne e)).trans h
theorem drawn_end {w w2 : World} {B g D n c : Nat} {A : Option Addr} {ds : List Int} (v : Value) (hD : w.heap.size < D) (ho : Own64 w2 D (.slice A n c) ds) (hS : Src w2 B g) (hg : w.grownBy w2 (some g)) (hgl : g < w.heap.size) :
    Own64 (w2.setCell ⟨w.heap.size, 0, none⟩ v) w.heap.size (.slice A n c) ds ∧ Src (w2.setCell ⟨w.heap.size, 0, none⟩ v) B g ∧ w.grownBy (w2.setCell ⟨w.heap.size, 0, none⟩ v) (some g) :=
  ⟨own_mono (own_far ho hD _) (by omega), hS.kept (src_grown w2 w.heap.size 0 _) (fun k e => by injection e with e; have := hS.1; omega), src_trans hg (below_setCell (Below.refl w.heap.size w2) (Nat.le_refl _) _) (Nat.le_refl _)⟩

set_option maxRecDepth 100000 in
set_option maxHeartbeats 4000000 in
theorem l01Small (w : World) (B g : Nat) (hS : Hid (Src w B g)) :
    Calls Try.prog 189 #[.pointer (some ⟨g, 0, none⟩)] w fun e w' => DrawnT w w' B g e := by
  have hgl := hS.out.lt
  have hS0 := Lib.hid (hS.out.be (bal (b0 w) (.cells #[.slice none 0 0] 26)))
  have hr0 : Hid ((w.alloc (.cells #[.slice none 0 0] 26)).heap[w.heap.size]? = some (.cells #[.slice none 0 0] 26 (0, 0))) := heap_alloc_new w _
  have hz0 : (w.alloc (.cells #[.slice none 0 0] 26)).heap.size = w.heap.size + 1 := by simp
  have hg0 : Hid (w.grownBy (w.alloc (.cells #[.slice none 0 0] 26)) (some g)) := src_of (bal (b0 w) _)
  go_enter Try.func189, Try.ntmps189
  go_wp2_with fail
  refine (l01Next 6 _ B g (by omega) hS0).mono ?_
  rintro e w1 ⟨r, rfl, ⟨hr1, hr2⟩, hS1, hg1⟩
  obtain ⟨k, rfl⟩ := Int.eq_ofNat_of_zero_le hr1
  have hwk : IntKind.i64.wrap (1 + (k : Int)) = ((1 + k : Nat) : Int) := by rw [IntWalk.i64_in _ (by omega)]; omega
  have hz1 := hg1.out.size
  have hr3 := Lib.hid (res_keep hr0.out hg1.out (by omega))
  have hg2 := Lib.hid (src_tr hg0.out hg1.out)
  clear hg0 hg1 hr0
  go_wp2_with fail
  have hcall := l01DrawOf (1 + k) w1 B g (by omega) (by omega) hS1
  rw [← hwk] at hcall
  rw [IntWalk.i64_in _ (by omega)] at hcall
  refine hcall.mono ?_
  rintro e w2 ⟨A', c', ds, rfl, hl, ht, ho, hS2, hg3⟩
  have hr4 := res_keep hr3.out hg3.out (by omega)
  have hrc := cell_of_one hr4
  have hrf := free_of_one hr4
  obtain ⟨f1, f2, f3⟩ := drawn_end (w := w) (.slice A' (1 + k) c') (by omega) ho.out hS2.out (src_tr hg2.out hg3.out) hgl
  have F1 := Lib.hid f1
  have F2 := Lib.hid f2
  have F3 := Lib.hid f3
  clear f1 f2 f3
  go_wp2
  refine bodyPost_ret (v := .agg #[.slice A' (1 + k) c']) (by simp [results, Try.results189, go_sem, hrc]) rfl ?_
  exact ⟨1 + k, A', c', ds, rfl, ⟨by omega, by omega⟩, hl, ht, F1, F2, F3⟩

theorem grown_over9 {w w1 : World} {o : Obj} {r : Option Nat} (h : (w.alloc o).grownBy w1 r) : w.grownBy w1 r := src_tr (World.grownBy_alloc w o r) h
/-- append of one header to a row of headers -/
theorem pushHdr {ops : Array Oper} {rest : List Oper} {o : Oper} {a : Act} {Q : Exit → Act → World → Prop} (hgd : o.guard = none) (s x : Operand)
    (ho : o.op = .call { callee := .builtin .append, args := #[s, x], argTypes := #[56, 56] }) (w : World) (B : Nat) (A : Option Addr) (n c : Nat) (vs : List Value) (Ay : Option Addr) (ny cy : Nat)
    (hs0 : a.eval s = .slice A n c) (hx : a.eval x = .slice (some ⟨w.heap.size, 0, none⟩) 1 1) (hW : Hid (w.ownsRow B 26 1 (.slice A n c) n vs)) (hB : B ≤ w.heap.size) (hlen : n ≤ 1000000)
    (h : ∀ A' c' w', Hid (w'.ownsRow B 26 1 (.slice A' (n + 1) c') (n + 1) (vs ++ [.slice Ay ny cy])) → Hid (w.grownBy w' (Value.slice A n c).ownBlock) → Hid (Below B w w') → wpList Try.prog ops Q rest (a.put o.dst (.slice A' (n + 1) c')) w') :
    wpList Try.prog ops Q (o :: rest) a (w.alloc (.cells #[.slice Ay ny cy] 26)) := by
  obtain ⟨i0, hi0, hz0, hz1, hz2⟩ := info_parts infoTree
  refine wpList_append_own_at _ hgd s x 56 ho B 26 i0 (.agg #[.slice none 0 0]) 1 24 Try.underlying56 hi0 hz0 hz1 hz2 rfl (by decide) _ n vs hs0 (hW.out.alloc _) ⟨w.heap.size, 0, none⟩ 1 1 [.slice Ay ny cy] hx rfl (cell_one_new _ _ _) ?_ ?_ ?_ ?_ ?_
  · intro u hu; simp at hu; subst hu; rfl
  · unfold maxLen; omega
  · omega
  · simp; omega
  · intro v' w1 hown1 hg1 _ _
    obtain ⟨A', c', rfl⟩ : ∃ A' c', v' = .slice A' (n + 1) c' := own_shape hown1
    exact h A' c' w1 hown1 (grown_over9 hg1) (((Below.refl B w).alloc hB _).grown hg1 (by simp; omega) (fun k hk => (World.ownsRow.lt hW.out k hk).1))

/-- a row of equal headers is a list of equal trees -/
theorem trees_same {w : World} {B n c m cu : Nat} {A U : Option Addr} {ds : List Int} (h : w.ownsRow B 26 1 (.slice A n c) n (List.replicate n (.slice U m cu))) (hm : ds.length = m) (hI : Ints w w.heap.size U ds) : Trees w A (List.replicate n ds) := fun hp => by
  rw [List.length_replicate] at hp
  rcases h.2 with ⟨h0, _⟩ | ⟨g, cap, cur, hv, hg, _⟩
  · injection h0 with _ e _; omega
  · injection hv with e1 e2 e3
    subst e1
    refine ⟨g, rfl, (World.ownsRow.lt h g rfl).2, fun k zs hk => ?_⟩
    rw [List.getElem?_replicate] at hk
    split at hk
    · rename_i hkn
      injection hk with hk
      subst hk
      refine ⟨U, cu, ?_, hI⟩
      rw [hm]
      exact (World.ownsRow.cellAt h k (by simp; omega)).trans (by simp [hkn])
    · cases hk

/-- rows below what is left alone -/
theorem own_lowS {w w' : World} {D base e size n : Nat} {v : Value} {xs : List Value} (h : w.ownsRow base e size v n xs) (hb : Below D w w') (hlt : ∀ b, v.ownBlock = some b → b < D) : w'.ownsRow base e size v n xs := by
  refine ⟨h.1, ?_⟩
  rcases h.2 with h2 | ⟨g, cap, cur, hv, hg, hh, r⟩
  · exact .inl h2
  · exact .inr ⟨g, cap, cur, hv, hg, (hb.block g (hlt g (by rw [hv]; rfl))).trans hh, r⟩
theorem join_tree {zss : List (List Int)} {n : Nat} (hn : zss.length = n) (hl : n ≤ 24) (h : ∀ zs ∈ zss, M.isTree zs = true) (ht : 1 + M.tot zss ≤ 24) : M.isTree (M.joinP zss n) = true := by
  have hg := M.go_mk (ts := zss) (fun t hm => M.tree_go (h t hm)) (by omega)
  have hlen := M.joinP_len zss n
  have e : M.joinP zss n = (zss.length : Int) :: zss.flatten := by rw [M.joinP, ← hn, List.take_length]
  rw [← hn, List.take_length] at hlen
  simp only [M.isTree, Bool.and_eq_true, decide_eq_true_eq]
  rw [← hn] at e ⊢
  rw [e] at hlen ⊢
  exact ⟨⟨by omega, by omega⟩, hg⟩

set_option maxRecDepth 100000 in
set_option maxHeartbeats 8000000 in
theorem l01Draw (w : World) (B g : Nat) (hS : Hid (Src w B g)) :
    Calls Try.prog 185 #[.pointer (some ⟨g, 0, none⟩)] w fun e w' => DrawnT w w' B g e := by
  have hgl := hS.out.lt
  have hS0 := Lib.hid (hS.out.be (bal (b0 w) (.cells #[.slice none 0 0] 26)))
  have hr0 : Hid ((w.alloc (.cells #[.slice none 0 0] 26)).heap[w.heap.size]? = some (.cells #[.slice none 0 0] 26 (0, 0))) := heap_alloc_new w _
  have hz0 : (w.alloc (.cells #[.slice none 0 0] 26)).heap.size = w.heap.size + 1 := by simp
  have hg0 : Hid (w.grownBy (w.alloc (.cells #[.slice none 0 0] 26)) (some g)) := src_of (bal (b0 w) _)
  go_enter Try.func185, Try.ntmps185
  go_wp2_with fail
  refine (l01Next 5 _ B g (by omega) hS0).mono ?_
  rintro e V ⟨r, rfl, ⟨hr1, hr2⟩, HS, hg1⟩
  have hz1 := hg1.out.size
  have HR := Lib.hid (res_keep hr0.out hg1.out (by omega))
  have HG := Lib.hid (src_tr hg0.out hg1.out)
  have hVz : w.heap.size + 1 ≤ V.heap.size := by omega
  clear hg0 hg1 hr0 hS hS0 hz0 hz1
  by_cases h0 : r = 0
  · subst h0
    go_wp2_with fail
    refine (l01Small V B g HS).mono ?_
    rintro e w2 ⟨n, A', c', ds, rfl, hn, hl, ht, ho, hS2, hg3⟩
    have hr4 := res_keep HR.out hg3.out (by omega)
    have hrc := cell_of_one hr4
    have hrf := free_of_one hr4
    obtain ⟨f1, f2, f3⟩ := drawn_end (w := w) (.slice A' n c') (by omega) ho.out hS2.out (src_tr HG.out hg3.out) hgl
    have F1 := Lib.hid f1
    have F2 := Lib.hid f2
    have F3 := Lib.hid f3
    clear f1 f2 f3
    go_wp2
    refine bodyPost_ret (v := .agg #[.slice A' n c']) (by simp [results, Try.results185, go_sem, hrc]) rfl ?_
    exact ⟨n, A', c', ds, rfl, hn, hl, ht, F1, F2, F3⟩
  · have hb0 : (r == 0) = false := by simp [h0]
    by_cases h1 : r = 1
    · subst h1
      go_wp2_with fail
      refine (l01Next 5 V B g (by omega) HS).mono ?_
      rintro e w1 ⟨r, rfl, ⟨hr1, hr2⟩, hS1, hg1⟩
      obtain ⟨k, rfl⟩ := Int.eq_ofNat_of_zero_le hr1
      have hwk : IntKind.i64.wrap (1 + (k : Int)) = ((1 + k : Nat) : Int) := by rw [IntWalk.i64_in _ (by omega)]; omega
      have hr3 := Lib.hid (res_keep HR.out hg1.out (by omega))
      have hg2 := Lib.hid (src_tr HG.out hg1.out)
      have hz2 := Nat.le_trans hVz hg1.out.size
      clear HG hg1 HR HS
      go_wp2_with fail
      have hcall := l01DrawOf (1 + k) w1 B g (by omega) (by omega) hS1
      rw [← hwk] at hcall
      rw [IntWalk.i64_in _ (by omega)] at hcall
      refine hcall.mono ?_
      rintro e w2 ⟨U, cu, ds, rfl, hl, ht, ho, hS2, hg3⟩
      have hr4 := Lib.hid (res_keep hr3.out hg3.out (by omega))
      have hg4 := Lib.hid (src_tr hg2.out hg3.out)
      have hz3 := Nat.le_trans hz2 hg3.out.size
      have ho4 := Lib.hid (own_mono (base' := w.heap.size + 1) ho.out (by omega))
      clear hr3 hg2 hg3 ho hS1 hcall
      obtain ⟨X, hX⟩ : ∃ X, X = (w2.alloc (.cells #[.slice U (1 + k) cu] 26)).alloc (.cells #[] 26) := ⟨_, rfl⟩
      have hbX : Hid (Below w2.heap.size w2 X) := by rw [hX]; exact bal (bal (b0 w2) _) _
      have hzX : X.heap.size = w2.heap.size + 1 + 1 := by rw [hX]; simp
      have hUX : Hid (X.heap[w2.heap.size]? = some (.cells #[.slice U (1 + k) cu] 26 (0, 0))) := by
        rw [hX]; exact (Below.heap_alloc _ _ _ (by simp)).trans (heap_alloc_new w2 _)
      have hLX : Hid (X.ownsRow (w2.heap.size + 1) 26 1 (.slice (some ⟨w2.heap.size + 1, 0, none⟩) 0 0) 0 []) := by
        rw [hX]
        have := World.ownsRow_made (e := 26) (size := 1) (w2.alloc (.cells #[.slice U (1 + k) cu] 26)) #[] 0 (Nat.le_refl _) (by simp [maxLen]) (by simp)
        simpa [Hid] using this
      have hub : Hid (∀ b, (Value.slice U (1 + k) cu).ownBlock = some b → b < w2.heap.size) := fun b hb => (ho4.out.lt b hb).2
      have hoX := Lib.hid (own_below ho4.out hbX.out (Nat.le_refl _))
      have hSX := Lib.hid (hS2.out.be hbX.out)
      have hrX := Lib.hid ((hbX.out.block w.heap.size (by omega)).trans hr4.out)
      have hgX := Lib.hid (src_trans hg4.out hbX.out (by omega))
      clear hbX hr4 hg4 ho4 hS2
      go_wp2_with fail
      rw [← hX]
      refine (l01Next 5 X B g (by omega) hSX).mono ?_
      rintro e w3 ⟨r, rfl, ⟨hr1, hr2⟩, hS3, hg3⟩
      obtain ⟨k3, rfl⟩ := Int.eq_ofNat_of_zero_le hr1
      have hr5 := Lib.hid (res_keep hrX.out hg3.out (by omega))
      have hU5 := Lib.hid (res_keep hUX.out hg3.out (by omega))
      have hg5 := Lib.hid (src_tr hgX.out hg3.out)
      have ho5 := Lib.hid (own_src hoX.out hg3.out (by omega))
      have hL5 := Lib.hid (own_src hLX.out hg3.out (by omega))
      have hz5 : w2.heap.size + 1 + 1 ≤ w3.heap.size := by have := hg3.out.size; omega
      clear hrX hUX hgX hoX hLX hSX hg3 hX hzX
      go_wp2
      go_loopw [4, 5] (fun q ki wr => ∃ (m kk c' : Nat) (A' : Option Addr), m + kk ≤ 4 ∧ ki = .int .i64 (kk : Int) ∧ q = .slice A' m c' ∧
          Hid (wr.ownsRow (w2.heap.size + 1) 26 1 (.slice A' m c') m (List.replicate m (.slice U (1 + k) cu))) ∧ Hid (Own64 wr (w.heap.size + 1) (.slice U (1 + k) cu) ds) ∧ Hid (Src wr B g) ∧ Hid (w.grownBy wr (some g)) ∧
          Hid (wr.heap[w.heap.size]? = some (.cells #[.slice none 0 0] 26 (0, 0))) ∧ Hid (wr.heap[w2.heap.size]? = some (.cells #[.slice U (1 + k) cu] 26 (0, 0))) ∧ w2.heap.size + 1 + 1 ≤ wr.heap.size) (fun _ ki _ => (intOf ki).toNat)
      case atStart => exact ⟨0, k3, 0, _, by omega, rfl, rfl, hL5, ho5, hS3, hg5, hr5, hU5, hz5⟩
      case round =>
        clear hr5 hU5 hg5 ho5 hL5 hS3 hz5
        obtain ⟨m, kk, c', A', hmk, rfl, rfl, hL, ho, hS, hg, hr, hU, hz⟩ := hrel
        rename World => V
        by_cases hk0 : 0 < kk
        · have hk0' : (0 : Int) < (kk : Int) := by omega
          have hcu := cell_of_one hU.out
          have hwk2 : IntKind.i64.wrap ((kk : Int) - 1) = ((kk - 1 : Nat) : Int) := by rw [IntWalk.i64_in _ (by omega)]; omega
          go_wp2_with (at_builtin; refine pushHdr rfl (.tmp 28) (.tmp 30) rfl V (w2.heap.size + 1) A' m c' (List.replicate m (.slice U (1 + k) cu)) U (1 + k) cu rfl rfl hL (by omega) (by omega) ?_; intro A2 c2 w4 hL4 _ hb4)
          go_roundw
          case rel => exact ⟨m + 1, kk - 1, c2, A2, by omega, rfl, rfl, Lib.hid (by rw [List.replicate_succ']; exact hL4.out), Lib.hid (own_lowS ho.out hb4.out (fun b hb => by have := hub.out b hb; omega)), Lib.hid (src_keep hS.out hb4.out (by omega)), Lib.hid (src_trans hg.out hb4.out (by omega)), Lib.hid ((hb4.out.block _ (by omega)).trans hr.out), Lib.hid ((hb4.out.block _ (by omega)).trans hU.out), Nat.le_trans hz hb4.out.size⟩
          case measure => simp [intOf]; omega
        · obtain rfl : kk = 0 := by omega
          have hk0' : ¬ (0 : Int) < ((0 : Nat) : Int) := by omega
          have hT := Lib.hid (trees_same hL.out hl.out (ints_of_own64 ho.out))
          have hall := Lib.hid (show ∀ zs ∈ List.replicate m ds, M.isTree zs = true from fun zs hz => by rw [(List.mem_replicate.1 hz).2]; exact ht.out)
          go_wp2_with fail
          refine (l01Join A' (List.replicate m ds) m c' V (Lib.hid (by simp)) (by omega) hall hT).mono ?_
          rintro e w5 ⟨hj1, hj2⟩
          by_cases hj : 1 + M.tot (List.replicate m ds) ≤ 24
          · obtain ⟨A5, c5, rfl, ho5, hb5⟩ := hj1 hj
            have hjt := Lib.hid (join_tree (n := m) (by simp) (by omega) hall.out hj)
            have hjl : (M.joinP (List.replicate m ds) m).length ≤ 24 ∧ 1 ≤ (M.joinP (List.replicate m ds) m).length := by have := M.tree_len hjt.out; omega
            have hr6 := (hb5.block w.heap.size (by omega)).trans hr.out
            have hrc := cell_of_one hr6
            have hrf := free_of_one hr6
            have hg6 := Lib.hid (src_trans hg.out hb5 (by omega))
            have hS6 := Lib.hid (hS.out.be hb5)
            have ho6 := Lib.hid ho5
            have hz6 := hb5.size
            generalize M.joinP (List.replicate m ds) m = js at hjt hjl ho6
            have hb7 : Hid (Below w5.heap.size w5 (w5.alloc (.cells #[.slice A5 js.length c5] 26))) := bal (b0 w5) _
            have hrc7 : (w5.alloc (.cells #[.slice A5 js.length c5] 26)).cell? ⟨w.heap.size, 0, none⟩ = some (.slice none 0 0) := cell_al hrc _
            have hrf7 : (w5.alloc (.cells #[.slice A5 js.length c5] 26)).frozen? ⟨w.heap.size, 0, none⟩ = false := free_of_one ((hb7.out.block _ (by omega)).trans hr6)
            obtain ⟨f1, f2, f3⟩ := drawn_end (w := w) (.slice A5 js.length c5) (by omega) (ho6.out.alloc (.cells #[.slice A5 js.length c5] 26)) (hS6.out.be hb7.out) (src_trans hg6.out hb7.out (by omega)) hgl
            have F1 := Lib.hid f1
            have F2 := Lib.hid f2
            have F3 := Lib.hid f3
            clear f1 f2 f3 hj1 hj2 ho5 hb5 hr6 hj
            go_wp2
            refine bodyPost_ret (v := .agg #[.slice A5 js.length c5]) (by simp [results, Try.results185, go_sem, hrc7]) rfl ?_
            exact ⟨js.length, A5, c5, js, rfl, ⟨hjl.2, hjl.1⟩, rfl, hjt, F1, F2, F3⟩
          · obtain ⟨rfl, hb5⟩ := hj2 hj
            obtain ⟨V', hV'⟩ : ∃ V', V' = w5.alloc (.cells #[.slice none 0 0] 26) := ⟨_, rfl⟩
            have hbV : Below V.heap.size V V' := by rw [hV']; exact bal hb5 _
            have HR := Lib.hid ((hbV.block w.heap.size (by omega)).trans hr.out)
            have HG := Lib.hid (src_trans hg.out hbV (by omega))
            have HS := Lib.hid (hS.out.be hbV)
            have hVz : w.heap.size + 1 ≤ V'.heap.size := by have := hbV.size; omega
            clear hj1 hj2 hb5 hbV hj hT hall hL ho hS hg hr hU hz
            have hzV : w5.heap.size + 1 = V'.heap.size := by rw [hV']; simp
            have hS4 := Lib.hid (HS.out.be (bal (b0 V') (.cells #[.int .i64 8, .int .i64 12, .int .i64 24] 2)))
            have hO := Lib.hid (off_new V' g HS.out.lt [8, 12, 24])
            simp only [List.map_cons, List.map_nil] at hO
            have hgA : Hid (V'.grownBy (V'.alloc (.cells #[.int .i64 8, .int .i64 12, .int .i64 24] 2)) (some g)) := World.grownBy_alloc _ _ _
            go_wp2_with fail
            rw [← hV']
            clear hV' hzV
            go_wp2_with fail
            refine (l01Pick (some ⟨V'.heap.size, 0, none⟩) [8, 12, 24] 3 3 _ B g rfl (by omega) (by omega) hO hS4).mono ?_
            rintro e w5 ⟨q, rfl, hq, hS5, hg5⟩
            have hqr : 8 ≤ q ∧ q ≤ 24 := by
              have := hq.out
              simp only [List.mem_cons, List.not_mem_nil, or_false] at this
              omega
            go_wp2_with fail
            refine (l01Next q w5 B g (by omega) hS5).mono ?_
            rintro e w6 ⟨r6, rfl, ⟨hr61, hr62⟩, hS6, hg6⟩
            obtain ⟨k6, rfl⟩ := Int.eq_ofNat_of_zero_le hr61
            have hwk : IntKind.i64.wrap (1 + (k6 : Int)) = ((1 + k6 : Nat) : Int) := by rw [IntWalk.i64_in _ (by omega)]; omega
            have hg7 := Lib.hid (src_tr (src_tr HG.out hgA.out) (src_tr hg5.out hg6.out))
            have hr7 := Lib.hid (res_keep (res_keep (res_keep HR.out hgA.out (by omega)) hg5.out (by omega)) hg6.out (by omega))
            have hz7 := Nat.le_trans hVz (src_tr hgA.out (src_tr hg5.out hg6.out)).size
            have hcall := l01DrawOf (1 + k6) w6 B g (by omega) (by omega) hS6
            rw [← hwk] at hcall
            rw [IntWalk.i64_in _ (by omega)] at hcall
            have HC := Lib.hid hcall
            clear hcall hg5 hg6 hgA HG HR hS4 hS5 hO hq
            go_wp2_with fail
            refine HC.out.mono ?_
            rintro e w8 ⟨A', c', ds, rfl, hl, ht, ho, hS8, hg8⟩
            have hr8 := res_keep hr7.out hg8.out (by omega)
            have hrc := cell_of_one hr8
            have hrf := free_of_one hr8
            obtain ⟨f1, f2, f3⟩ := drawn_end (w := w) (.slice A' (1 + k6) c') (by omega) ho.out hS8.out (src_tr hg7.out hg8.out) hgl
            have F1 := Lib.hid f1
            have F2 := Lib.hid f2
            have F3 := Lib.hid f3
            clear f1 f2 f3 HC
            go_wp2
            refine bodyPost_ret (v := .agg #[.slice A' (1 + k6) c']) (by simp [results, Try.results185, go_sem, hrc]) rfl ?_
            exact ⟨1 + k6, A', c', ds, rfl, ⟨by omega, by omega⟩, hl, ht, F1, F2, F3⟩
    · have hb1 : (r == 1) = false := by simp [h1]
      have hS4 := Lib.hid (HS.out.be (bal (b0 V) (.cells #[.int .i64 8, .int .i64 12, .int .i64 24] 2)))
      have hO := Lib.hid (off_new V g HS.out.lt [8, 12, 24])
      simp only [List.map_cons, List.map_nil] at hO
      have hgA : Hid (V.grownBy (V.alloc (.cells #[.int .i64 8, .int .i64 12, .int .i64 24] 2)) (some g)) := World.grownBy_alloc _ _ _
      go_wp2_with fail
      refine (l01Pick (some ⟨V.heap.size, 0, none⟩) [8, 12, 24] 3 3 _ B g rfl (by omega) (by omega) hO hS4).mono ?_
      rintro e w5 ⟨q, rfl, hq, hS5, hg5⟩
      have hqr : 8 ≤ q ∧ q ≤ 24 := by
        have := hq.out
        simp only [List.mem_cons, List.not_mem_nil, or_false] at this
        omega
      go_wp2_with fail
      refine (l01Next q w5 B g (by omega) hS5).mono ?_
      rintro e w6 ⟨r6, rfl, ⟨hr61, hr62⟩, hS6, hg6⟩
      obtain ⟨k6, rfl⟩ := Int.eq_ofNat_of_zero_le hr61
      have hwk : IntKind.i64.wrap (1 + (k6 : Int)) = ((1 + k6 : Nat) : Int) := by rw [IntWalk.i64_in _ (by omega)]; omega
      have hg7 := Lib.hid (src_tr (src_tr HG.out hgA.out) (src_tr hg5.out hg6.out))
      have hr7 := Lib.hid (res_keep (res_keep (res_keep HR.out hgA.out (by omega)) hg5.out (by omega)) hg6.out (by omega))
      have hz7 := Nat.le_trans hVz (src_tr hgA.out (src_tr hg5.out hg6.out)).size
      have hcall := l01DrawOf (1 + k6) w6 B g (by omega) (by omega) hS6
      rw [← hwk] at hcall
      rw [IntWalk.i64_in _ (by omega)] at hcall
      have HC := Lib.hid hcall
      clear hcall hg5 hg6 hgA HG HR hS4 hS5 hO hq
      go_wp2_with fail
      refine HC.out.mono ?_
      rintro e w8 ⟨A', c', ds, rfl, hl, ht, ho, hS8, hg8⟩
      have hr8 := res_keep hr7.out hg8.out (by omega)
      have hrc := cell_of_one hr8
      have hrf := free_of_one hr8
      obtain ⟨f1, f2, f3⟩ := drawn_end (w := w) (.slice A' (1 + k6) c') (by omega) ho.out hS8.out (src_tr hg7.out hg8.out) hgl
      have F1 := Lib.hid f1
      have F2 := Lib.hid f2
      have F3 := Lib.hid f3
      clear f1 f2 f3 HC
      go_wp2
      refine bodyPost_ret (v := .agg #[.slice A' (1 + k6) c']) (by simp [results, Try.results185, go_sem, hrc]) rfl ?_
      exact ⟨1 + k6, A', c', ds, rfl, ⟨by omega, by omega⟩, hl, ht, F1, F2, F3⟩
end Go.Proofs.Ytdgcjkgbglofbaa

/- append of one number to a row of the call's own, with what else is kept: no conditions. -/
namespace Go.Proofs.Ytdgcjkgbglofbaa
open Go.RowKit

/-- append of one number, with what else is kept -/
theorem push64K {ops : Array Oper} {rest : List Oper} {o : Oper} {a : Act} {Q : Exit → Act → World → Prop} (hgd : o.guard = none) (s x : Operand)
    (ho : o.op = .call { callee := .builtin .append, args := #[s, x], argTypes := #[24, 24] }) (w : World) (B : Nat) (A : Option Addr) (n c : Nat) (zs : List Int) (y : Int)
    (hs : a.eval s = .slice A n c) (N : Nat) (hx : a.eval x = .slice (some ⟨N, 0, none⟩) 1 1) (hN : N = w.heap.size) (hown : Hid (Own64 w B (.slice A n c) zs)) (hB : B ≤ w.heap.size) (hlen : n ≤ 1000000)
    (h : ∀ A' c' w', Hid (Own64 w' B (.slice A' (n + 1) c') (zs ++ [y])) → Hid ((w.alloc (.cells #[.int .i64 y] 2)).grownBy w' (Value.slice A n c).ownBlock) → Hid ((Value.slice A' (n + 1) c').ownBlock = (Value.slice A n c).ownBlock ∨ (Value.slice A' (n + 1) c').ownBlock = some (w.alloc (.cells #[.int .i64 y] 2)).heap.size) → wpList Try.prog ops Q rest (a.put o.dst (.slice A' (n + 1) c')) w') :
    wpList Try.prog ops Q (o :: rest) a (w.alloc (.cells #[.int .i64 y] 2)) := by
  subst hN
  obtain ⟨i0, hi0, hz0, hz1, hz2⟩ := info_parts info64
  have hown := hown.out
  have hn := own64_len hown
  subst hn
  refine wpList_append_own_at _ hgd s x 24 ho B 2 i0 (.int .i64 0) 1 8 Try.underlying24 hi0 hz0 hz1 hz2 rfl (by decide) _ zs.length (zs.map (Value.int .i64)) hs (hown.alloc _) ⟨w.heap.size, 0, none⟩ 1 1 [.int .i64 y] hx rfl ?_ ?_ ?_ ?_ ?_ ?_
  · intro j u hj
    match j, hj with
    | 0, hj => simp at hj; subst hj; simp [Addr.add]
  · intro u hu; simp at hu; subst hu; rfl
  · unfold maxLen; omega
  · omega
  · simp; omega
  · intro v' w1 hown1 hg1 _ hwh
    obtain ⟨A, c, rfl⟩ : ∃ A c, v' = .slice A (zs.length + 1) c := own_shape hown1
    refine h A c w1 ?_ hg1 hwh
    have e : (zs ++ [y]).length = zs.length + 1 := by simp
    show Own64 _ _ _ _
    unfold Own64
    rw [e]
    simpa using hown1

end Go.Proofs.Ytdgcjkgbglofbaa

/- A tree that seldom is none: the model's draw l01Bad. -/
namespace Go.Proofs.Ytdgcjkgbglofbaa
open Go.RowKit

/-- what holds while a tree is spoiled -/
structure BadQ (w : World) (B g D R b3 b5 gO cO n : Nat) (A : Option Addr) (c : Nat) (ds : List Int) (X : World) : Prop where
  num : g < D ∧ D ≤ w.heap.size ∧ R = w.heap.size + 1 ∧ b3 = w.heap.size ∧ w.heap.size + 1 < b5 ∧ w.heap.size + 1 < gO ∧ gO < b5
  sub : ∀ b, (Value.slice A n c).ownBlock = some b → b < w.heap.size
  src : Src X B g
  grown : w.grownBy X (some g)
  res : X.heap[R]? = some (.cells #[.slice none 0 0] 26 (0, 0))
  arg : X.heap[b3]? = some (.cells #[.slice A n c] 26 (0, 0))
  out : X.heap[b5]? = some (.cells #[.slice (some ⟨gO, 0, none⟩) n cO] 26 (0, 0))
  row : ∃ zs : List Int, zs.length = n ∧ Own64 X (w.heap.size + 1 + 1) (.slice (some ⟨gO, 0, none⟩) n cO) zs
  own : Own64 X D (.slice A n c) ds
theorem own_lowB {w w' : World} {D base e size n : Nat} {v : Value} {xs : List Value} (h : w.ownsRow base e size v n xs) (hb : Below D w w') (hlt : ∀ b, v.ownBlock = some b → b < D) : w'.ownsRow base e size v n xs := by
  refine ⟨h.1, ?_⟩
  rcases h.2 with h2 | ⟨g, cap, cur, hv, hg, hh, r⟩
  · exact .inl h2
  · exact .inr ⟨g, cap, cur, hv, hg, (hb.block g (hlt g (by rw [hv]; rfl))).trans hh, r⟩
section
variable {w X X' : World} {B g D R b3 b5 gO cO n c : Nat} {A : Option Addr} {ds : List Int}
theorem BadQ.be (h : BadQ w B g D R b3 b5 gO cO n A c ds X) (hb : Below X.heap.size X X') : BadQ w B g D R b3 b5 gO cO n A c ds X' := by
  obtain ⟨zs, hz, ho⟩ := h.row
  have hs := h.grown.size
  exact ⟨h.num, h.sub, h.src.be hb, src_trans h.grown hb hs, (hb.block R (Array.getElem?_eq_some_iff.1 h.res).1).trans h.res, (hb.block b3 (Array.getElem?_eq_some_iff.1 h.arg).1).trans h.arg, (hb.block b5 (Array.getElem?_eq_some_iff.1 h.out).1).trans h.out, ⟨zs, hz, own_below ho hb (Nat.le_refl _)⟩, own_below h.own hb (Nat.le_refl _)⟩
theorem BadQ.draw (h : BadQ w B g D R b3 b5 gO cO n A c ds X) (hg : X.grownBy X' (some g)) (hS : Src X' B g) : BadQ w B g D R b3 b5 gO cO n A c ds X' := by
  obtain ⟨zs, hz, ho⟩ := h.row
  obtain ⟨n1, n2, n3, n4, n5, n6, n7⟩ := h.num
  have K : ∀ b o, X.heap[b]? = some o → b ≠ g → X'.heap[b]? = some o := fun b o hb hne => (hg.block b (Array.getElem?_eq_some_iff.1 hb).1 (fun e => by injection e with e; exact hne e)).trans hb
  exact ⟨h.num, h.sub, hS, src_tr h.grown hg, K _ _ h.res (by omega), K _ _ h.arg (by omega), K _ _ h.out (by omega), ⟨zs, hz, own_src ho hg (by omega)⟩, own_src h.own hg n1⟩
theorem BadQ.set (h : BadQ w B g D R b3 b5 gO cO n A c ds X) (k : Nat) (x : Int) : BadQ w B g D R b3 b5 gO cO n A c ds (X.setCell ⟨gO, k, none⟩ (.int .i64 x)) := by
  obtain ⟨zs, hz, ho⟩ := h.row
  obtain ⟨n1, n2, n3, n4, n5, n6, n7⟩ := h.num
  have hg := src_grown X gO k (.int .i64 x)
  have K : ∀ b o, X.heap[b]? = some o → b ≠ gO → (X.setCell ⟨gO, k, none⟩ (.int .i64 x)).heap[b]? = some o := fun b o hb hne => (hg.block b (Array.getElem?_eq_some_iff.1 hb).1 (fun e => by injection e with e; exact hne e)).trans hb
  refine ⟨h.num, h.sub, h.src.kept hg (fun k e => by injection e with e; have := h.src.1; omega), src_trans h.grown (below_setCell (Below.refl w.heap.size X) (by omega) _) (Nat.le_refl _), K _ _ h.res (by omega), K _ _ h.arg (by omega), K _ _ h.out (by omega), ⟨zs.set k x, by simp [hz], own64_set ho hz k x⟩, ?_⟩
  exact ownsRow_setCell_other h.own (a := ⟨gO, k, none⟩) (fun e => by have := h.sub gO e; omega) _
theorem BadQ.cell (h : BadQ w B g D R b3 b5 gO cO n A c ds X) {k : Nat} (hk : k < n) : (∃ x, X.cell? ⟨gO, k, none⟩ = some (.int .i64 x)) ∧ X.frozen? ⟨gO, k, none⟩ = false := by
  obtain ⟨zs, hz, ho⟩ := h.row
  have := own64_cell ho hz (List.getElem?_eq_getElem (show k < zs.length by omega))
  exact ⟨⟨_, this.1⟩, this.2.1⟩
end

theorem off_tree {w : World} {B e size n X : Nat} {v : Value} {xs : List Value} {cs : Array Value} {p : Nat × Nat} {T : TypeId} (h : w.ownsRow B e size v n xs) (hX : w.heap[X]? = some (.cells cs T p)) (he : e ≠ T) : v.ownBlock ≠ some X := by
  intro hk
  rcases h.2 with ⟨e0, _⟩ | ⟨g, cap, cur, hv, _, hg, _⟩
  · rw [e0] at hk; cases hk
  · rw [hv] at hk
    have e1 : g = X := by injection hk
    rw [e1, hX] at hg
    injection hg with hg
    injection hg with _ hg
    exact he hg.symm
theorem BadQ.fin {w X : World} {B g D R b3 b5 gO cO n c m cz : Nat} {A Az : Option Addr} {ds zs : List Int} (h : BadQ w B g D R b3 b5 gO cO n A c ds X) (ho : Own64 X D (.slice Az m cz) zs) (v : Value) :
    Own64 (X.setCell ⟨R, 0, none⟩ v) D (.slice Az m cz) zs ∧ Src (X.setCell ⟨R, 0, none⟩ v) B g ∧ w.grownBy (X.setCell ⟨R, 0, none⟩ v) (some g) := by
  obtain ⟨n1, n2, n3, n4, n5, n6, n7⟩ := h.num
  refine ⟨ownsRow_setCell_other ho (a := ⟨R, 0, none⟩) (off_tree ho h.res (by decide)) _, h.src.kept (src_grown X R 0 v) (fun k e => by injection e with e; have := h.src.1; omega), src_trans h.grown (below_setCell (Below.refl w.heap.size X) (by omega) _) (Nat.le_refl _)⟩
theorem off_be {w w' : World} {g : Nat} {A : Option Addr} {xs : List Int} (h : Off w g A xs) (hb : Below w.heap.size w w') : Hid (Off w' g A xs) := by
  obtain ⟨b, off, e, hne, hc⟩ := h
  exact ⟨b, off, e, hne, fun j x hx => (hb.cell (p := ⟨b, off + j, none⟩) (World.block_lt_of_cell? _ _ (hc j x hx))).trans (hc j x hx)⟩
theorem off_src {w w' : World} {g : Nat} {A : Option Addr} {xs : List Int} (h : Hid (Off w g A xs)) (hg : w.grownBy w' (some g)) : Hid (Off w' g A xs) := by
  obtain ⟨b, off, e, hne, hc⟩ := h.out
  exact ⟨b, off, e, hne, fun j x hx => hg.cell (hc j x hx) (by simp; exact hne)⟩
/-- a list comes out that seldom is no tree -/
def DrawnL (w w' : World) (B D g : Nat) (e : Ending) : Prop :=
  ∃ (m : Nat) (A' : Option Addr) (c' : Nat) (zs : List Int), e = .returned (.agg #[.slice A' m c']) ∧ m ≤ 25 ∧ Hid (zs.length = m) ∧ Hid (Own64 w' D (.slice A' m c') zs) ∧ Hid (Src w' B g) ∧ Hid (w.grownBy w' (some g))

set_option maxRecDepth 100000 in
theorem l01Copy (A : Option Addr) (xs : List Int) (m c : Nat) (w : World) (hm : Hid (xs.length = m)) (hx : m ≤ 1000) (hz : Hid (A = none → c = 0)) (h : Hid (Ints w w.heap.size A xs)) :
    Calls Try.prog 276 #[.agg #[.slice A m c]] w fun e w' => ∃ A' c', e = .returned (.agg #[.slice A' m c']) ∧ Hid (Own64 w' (w.heap.size + 1) (.slice A' m c') xs) ∧ Hid (Below w.heap.size w w') := by
  go_enter Try.func276, Try.ntmps276
  go_wp2_with fail
  obtain ⟨W, hW⟩ : ∃ W, W = (w.alloc (.cells #[.slice A m c] 26)).alloc (.cells #[.slice none 0 0] 26) := ⟨_, rfl⟩
  have hbW : Below w.heap.size w W := by rw [hW]; exact bal (bal (b0 w) _) _
  have hzW : W.heap.size = w.heap.size + 1 + 1 := by rw [hW]; simp
  have hr : W.heap[w.heap.size + 1]? = some (.cells #[.slice none 0 0] 26 (0, 0)) := by
    rw [hW]
    have := heap_alloc_new (w.alloc (.cells #[.slice A m c] 26)) (.cells #[.slice none 0 0] 26)
    simpa using this
  rw [← hW]
  refine (l01Make A xs m c W hm (by omega) hz (h.out.be hbW)).mono ?_
  rintro e w1 ⟨A', c', rfl, ho, hb⟩
  have hr1 := (hb.block _ (by omega)).trans hr
  have hrc := cell_of_one hr1
  have hrf := free_of_one hr1
  have F1 := Lib.hid (own_mono (base' := w.heap.size + 1) (own_far (g := w.heap.size + 1) (k := 0) ho (by omega) (.slice A' m c')) (by omega))
  have F2 := Lib.hid (below_setCell (g := w.heap.size + 1) (k := 0) (btr hbW hb) (by omega) (.slice A' m c'))
  clear hbW hr hr1 ho hb hW
  go_wp2
  refine bodyPost_ret (v := .agg #[.slice A' m c']) (by simp [results, Try.results276, go_sem, hrc]) rfl ?_
  exact ⟨A', c', rfl, F1, F2⟩

set_option maxRecDepth 100000 in
set_option maxHeartbeats 8000000 in
theorem l01Bad (A : Option Addr) (n c : Nat) (ds : List Int) (w : World) (B D g : Nat) (hn : 1 ≤ n ∧ n ≤ 24) (hl : Hid (ds.length = n)) (hgD : g < D) (hD : D ≤ w.heap.size) (ho : Hid (Own64 w D (.slice A n c) ds)) (hS : Hid (Src w B g)) :
    Calls Try.prog 191 #[.pointer (some ⟨g, 0, none⟩), .agg #[.slice A n c]] w fun e w' => DrawnL w w' B D g e := by
  obtain ⟨W, hW⟩ : ∃ W, W = (w.alloc (.cells #[.slice A n c] 26)).alloc (.cells #[.slice none 0 0] 26) := ⟨_, rfl⟩
  have hbW : Below w.heap.size w W := by rw [hW]; exact bal (bal (b0 w) _) _
  have hzW : W.heap.size = w.heap.size + 1 + 1 := by rw [hW]; simp
  have hr : W.heap[w.heap.size + 1]? = some (.cells #[.slice none 0 0] 26 (0, 0)) := by
    rw [hW]
    have := heap_alloc_new (w.alloc (.cells #[.slice A n c] 26)) (.cells #[.slice none 0 0] 26)
    simpa using this
  have ha : W.heap[w.heap.size]? = some (.cells #[.slice A n c] 26 (0, 0)) := by
    rw [hW]; exact (Below.heap_alloc _ _ _ (by simp)).trans (heap_alloc_new w _)
  have hac := cell_of_one ha
  go_enter Try.func191, Try.ntmps191
  go_wp2_with fail
  rw [← hW]
  refine (l01Copy A ds n c W hl (by omega) (Lib.hid (own64_z ho.out)) (Lib.hid ((ints_of_own64 ho.out).be hbW))).mono ?_
  rintro e w1 ⟨A1, cO, rfl, ho1, hb1⟩
  obtain ⟨gO, rfl⟩ : ∃ gO, A1 = some ⟨gO, 0, none⟩ := by
    rcases ho1.out.2 with ⟨q1, q2⟩ | ⟨pb, cap, cur, hv, _⟩
    · have := hl.out; omega
    · injection hv with q1; exact ⟨pb, q1⟩
  have hgl := World.ownsRow.lt ho1.out gO rfl
  obtain ⟨V, hV⟩ : ∃ V, V = w1.alloc (.cells #[.slice (some ⟨gO, 0, none⟩) n cO] 26) := ⟨_, rfl⟩
  have hbV : Below W.heap.size W V := by rw [hV]; exact bal hb1.out _
  have hout : V.heap[w1.heap.size]? = some (.cells #[.slice (some ⟨gO, 0, none⟩) n cO] 26 (0, 0)) := by rw [hV]; exact heap_alloc_new w1 _
  have hQ : Hid (BadQ w B g D (w.heap.size + 1) w.heap.size w1.heap.size gO cO n A c ds V) := by
    refine ⟨⟨hgD, hD, rfl, rfl, by omega, by omega, hgl.2⟩, fun b hb => (ho.out.lt b hb).2, (hS.out.be hbW).be hbV, src_trans (src_of hbW) hbV (by omega), (hbV.block _ (by omega)).trans hr, (hbV.block _ (by omega)).trans ha, hout, ⟨ds, hl.out, ?_⟩, own_below (own_below ho.out hbW (Nat.le_refl _)) hbV (Nat.le_refl _)⟩
    rw [hV]
    exact own_mono (ho1.out.alloc _) (by omega)
  have hzO : w.heap.size + 1 < w1.heap.size := by omega
  obtain ⟨b5, hb5⟩ : ∃ b5, w1.heap.size = b5 := ⟨_, rfl⟩
  rw [hb5] at hQ hzO
  clear hac hr ha hbW hbV hout hb1 ho1
  go_wp2_with fail
  rw [← hV]
  refine (l01Next 50 V B g (by omega) (Lib.hid hQ.out.src)).mono ?_
  rintro e w2 ⟨r, rfl, ⟨hr0, hr1⟩, hS2, hg2⟩
  have hQ2 := Lib.hid (hQ.out.draw hg2.out hS2.out)
  clear hQ hg2 hS2 hV hW hzW hgl hb5
  have c5 := cell_of_one hQ2.out.out
  have c3 := cell_of_one hQ2.out.arg
  have cR := cell_of_one hQ2.out.res
  have fR := free_of_one hQ2.out.res
  have f5 := free_of_one hQ2.out.out
  by_cases h0 : r = 0
  · subst h0
    obtain ⟨f1, f2, f3⟩ := hQ2.out.fin (own64_nil w2 D) (.slice none 0 0)
    have F1 := Lib.hid f1
    have F2 := Lib.hid f2
    have F3 := Lib.hid f3
    clear f1 f2 f3
    go_wp2
    refine bodyPost_ret (v := .agg #[.slice none 0 0]) (by simp [results, Try.results191, go_sem, cR]) rfl ?_
    exact ⟨0, none, 0, [], rfl, by omega, rfl, F1, F2, F3⟩
  · have hb0 : (r == 0) = false := by simp [h0]
    by_cases h1 : r = 1
    · subst h1
      go_wp2
      have hn0 := hn.1
      have QS := Lib.hid (fun (X : World) (hX : Hid (BadQ w B g D (w.heap.size + 1) w.heap.size b5 gO cO n A c ds X)) => (show X.cell? ⟨b5, 0, none⟩ = some (.slice (some ⟨gO, 0, none⟩) n cO) ∧ X.cell? ⟨w.heap.size, 0, none⟩ = some (.slice A n c) ∧ Hid (BadQ w B g D (w.heap.size + 1) w.heap.size b5 gO cO n A c ds X) from ⟨cell_of_one hX.out.out, cell_of_one hX.out.arg, hX⟩))
      have QA := Lib.hid (fun (X : World) (o : Obj) (hX : Hid (BadQ w B g D (w.heap.size + 1) w.heap.size b5 gO cO n A c ds X)) => (show Hid (BadQ w B g D (w.heap.size + 1) w.heap.size b5 gO cO n A c ds (X.alloc o)) from hX.out.be (bal (b0 X) o)))
      have QW := Lib.hid (fun (X : World) (k : Nat) (x : Int) (hX : Hid (BadQ w B g D (w.heap.size + 1) w.heap.size b5 gO cO n A c ds X)) => (show Hid (BadQ w B g D (w.heap.size + 1) w.heap.size b5 gO cO n A c ds (X.setCell ⟨gO, k, none⟩ (.int .i64 x))) from hX.out.set k x))
      have HN := Lib.hid (fun (X : World) (hX : Hid (BadQ w B g D (w.heap.size + 1) w.heap.size b5 gO cO n A c ds X)) => (l01N A n c X).mono fun e w' h => (show e = .returned (.int .i64 (n : Int)) ∧ Hid (BadQ w B g D (w.heap.size + 1) w.heap.size b5 gO cO n A c ds w') ∧ Hid (Below X.heap.size X w') from ⟨h.1, hX.out.be h.2, h.2⟩))
      have HX := Lib.hid (fun (X : World) (hX : Hid (BadQ w B g D (w.heap.size + 1) w.heap.size b5 gO cO n A c ds X)) => (l01Next (n : Int) X B g (by omega) (Lib.hid hX.out.src)).mono fun e w' h => (show ∃ k : Nat, e = .returned (.int .i64 (k : Int)) ∧ k < n ∧ Hid (BadQ w B g D (w.heap.size + 1) w.heap.size b5 gO cO n A c ds w') ∧ Hid (X.grownBy w' (some g)) from by
        obtain ⟨r, he, ⟨h1, h2⟩, h3, h4⟩ := h
        obtain ⟨k, rfl⟩ := Int.eq_ofNat_of_zero_le h1
        exact ⟨k, he, by omega, hX.out.draw h4.out h3.out, h4⟩))
      have HP := Lib.hid (fun (X : World) (N : Nat) (hX : Hid (BadQ w B g D (w.heap.size + 1) w.heap.size b5 gO cO n A c ds X)) (hO : Hid (Off X g (some ⟨N, 0, none⟩) [-1, 0, 1, 2, 25])) => (l01Pick (some ⟨N, 0, none⟩) [-1, 0, 1, 2, 25] 5 5 X B g rfl (by omega) (by omega) hO (Lib.hid hX.out.src)).mono fun e w' h => (show ∃ x : Int, e = .returned (.int .i64 x) ∧ Hid (BadQ w B g D (w.heap.size + 1) w.heap.size b5 gO cO n A c ds w') from by
        obtain ⟨r, he, h1, h3, h4⟩ := h
        exact ⟨r, he, hX.out.draw h4.out h3.out⟩))
      have OF := Lib.hid (fun (X : World) (hX : Hid (BadQ w B g D (w.heap.size + 1) w.heap.size b5 gO cO n A c ds X)) => (show Hid (Off (X.alloc (.cells #[.int .i64 (-1), .int .i64 0, .int .i64 1, .int .i64 2, .int .i64 25] 2)) g (some ⟨X.heap.size, 0, none⟩) [-1, 0, 1, 2, 25]) from by
        have := off_new X g hX.out.src.lt [-1, 0, 1, 2, 25]
        simp only [List.map_cons, List.map_nil] at this
        exact this))
      have K0 : Hid (BadQ w B g D (w.heap.size + 1) w.heap.size b5 gO cO n A c ds w2.drew) := hQ2.out.be (Below.refl _ _).drew
      clear c5 c3 cR fR f5 hQ2
      go_region_held3 (fun X => X.cell? ⟨b5, 0, none⟩ = some (.slice (some ⟨gO, 0, none⟩) n cO) ∧ X.cell? ⟨w.heap.size, 0, none⟩ = some (.slice A n c) ∧ Hid (BadQ w B g D (w.heap.size + 1) w.heap.size b5 gO cO n A c ds X)) (first | exact QS.out _ K0 | exact QS.out _ (QA.out _ _ K0) | exact QS.out _ K6 | exact QS.out _ (QA.out _ _ K6) | exact QS.out _ K7 | exact QS.out _ (QA.out _ _ K7) | exact QS.out _ K8 | exact QS.out _ (QW.out _ _ _ K8)) (first | (go_at_call 169; refine (HN.out _ (by first | exact K0 | exact QA.out _ _ K0)).mono ?_; rintro e w6 ⟨rfl, K6, hb6⟩) | (go_at_call 186; refine (HX.out _ (by first | exact K6 | exact QA.out _ _ K6)).mono ?_; rintro e w7 ⟨k7, rfl, hk7, K7, hg7⟩; have hk70 : (0 : Int) ≤ (k7 : Int) := (by omega); have hk7n : (k7 : Int) < (n : Int) := (by omega)) | (go_at_call 209; refine (HP.out _ _ (by first | exact K7 | exact QA.out _ _ K7) (by first | exact OF.out _ K7 | exact off_src (OF.out _ K6) hg7.out | exact off_src (off_be (OF.out _ K0).out hb6.out) hg7.out)).mono ?_; rintro e w8 ⟨x8, rfl, K8⟩; obtain ⟨⟨d8, cd8⟩, fd8⟩ := K8.out.cell hk7))
      all_goals
        have K9 := QW.out _ k7 x8 K8
        clear QS QA QW HN HX HP OF K0 K6 K7 K8 hb6 hg7 cd8 fd8
        generalize w8.setCell ⟨gO, k7, none⟩ (.int .i64 x8) = X9 at K9 ⊢
        obtain ⟨zs9, hz9, ho9⟩ := K9.out.row
        have c5 := cell_of_one K9.out.out
        have cR := cell_of_one K9.out.res
        have fR := free_of_one K9.out.res
        obtain ⟨f1, f2, f3⟩ := K9.out.fin (own_mono ho9 (by omega)) (.slice (some ⟨gO, 0, none⟩) n cO)
        have F1 := Lib.hid f1
        have F2 := Lib.hid f2
        have F3 := Lib.hid f3
        clear f1 f2 f3 ho9
        go_wp2
        refine bodyPost_ret (v := .agg #[.slice (some ⟨gO, 0, none⟩) n cO]) (by simp [results, Try.results191, go_sem, cR]) rfl ?_
        exact ⟨n, _, cO, zs9, rfl, by omega, hz9, F1, F2, F3⟩
    · have hb1 : (r == 1) = false := by simp [h1]
      by_cases h2 : r = 2
      · subst h2
        obtain ⟨n1, n2, n3, n4, n5, n6, n7⟩ := hQ2.out.num
        obtain ⟨zs, hzl, hoz⟩ := hQ2.out.row
        have Hoz := Lib.hid hoz
        have hsz := hQ2.out.grown.size
        have h5l := (Array.getElem?_eq_some_iff.1 hQ2.out.out).1
        have hRl := (Array.getElem?_eq_some_iff.1 hQ2.out.res).1
        have HK := Lib.hid (fun (X : World) (b : Nat) (o : Obj) (hX : w2.grownBy X (some gO)) (hb : w2.heap[b]? = some o) (hne : b ≠ gO) => (show X.heap[b]? = some o from (hX.block b (Array.getElem?_eq_some_iff.1 hb).1 (fun e => by injection e with e; exact hne e)).trans hb))
        clear hoz
        go_wp2_with (at_builtin; refine push64K rfl (.tmp 29) (.tmp 30) rfl w2 (w.heap.size + 1 + 1) (some ⟨gO, 0, none⟩) n cO zs 0 rfl _ rfl rfl Hoz (by omega) (by omega) ?_; intro A3 c3' w3 ho3 hg3 _; have hg4 := Lib.hid (src_tr (World.grownBy_alloc w2 (.cells #[.int .i64 0] 2) (some gO)) hg3.out); have K5 := Lib.hid (HK.out _ _ _ hg4.out hQ2.out.out (by omega)); have KR := Lib.hid (HK.out _ _ _ hg4.out hQ2.out.res (by omega)); have d5 := cell_of_one K5.out; have e5 := free_of_one K5.out; have dR := cell_of_one KR.out; have eR := free_of_one KR.out)
        refine bodyPost_ret (v := .agg #[.slice A3 (n + 1) c3']) (by simp [results, Try.results191, go_sem, dR]) rfl ?_
        have hS3 := hQ2.out.src.kept hg4.out (fun k e => by injection e with e; have := hQ2.out.src.1; omega)
        have hS4 := hS3.kept (src_grown w3 b5 0 (.slice A3 (n + 1) c3')) (fun k e => by injection e with e; have := hS3.1; omega)
        have hS5 := hS4.kept (src_grown (w3.setCell ⟨b5, 0, none⟩ (.slice A3 (n + 1) c3')) (w.heap.size + 1) 0 (.slice A3 (n + 1) c3')) (fun k e => by injection e with e; have := hS3.1; omega)
        have hb3 : Below w.heap.size w2 w3 := ⟨hg4.out.os, hg4.out.tape, hg4.out.output, hg4.out.size, fun j hj => hg4.out.block j (by omega) (fun e => by injection e; omega)⟩
        refine ⟨n + 1, A3, c3', zs ++ [0], rfl, by omega, Lib.hid (by simp [hzl]), ?_, hS5, src_trans hQ2.out.grown (below_setCell (below_setCell hb3 (by omega) _) (by omega) _) (Nat.le_refl _)⟩
        have o1 := ownsRow_setCell_other ho3.out (a := ⟨b5, 0, none⟩) (off_tree ho3.out K5.out (by decide)) (.slice A3 (n + 1) c3')
        exact own_mono (ownsRow_setCell_other o1 (a := ⟨w.heap.size + 1, 0, none⟩) (off_tree ho3.out KR.out (by decide)) _) (by omega)
      · have hb2 : (r == 2) = false := by simp [h2]
        obtain ⟨f1, f2, f3⟩ := hQ2.out.fin hQ2.out.own (.slice A n c)
        have F1 := Lib.hid f1
        have F2 := Lib.hid f2
        have F3 := Lib.hid f3
        clear f1 f2 f3
        go_wp2
        refine bodyPost_ret (v := .agg #[.slice A n c]) (by simp [results, Try.results191, go_sem, cR]) rfl ?_
        exact ⟨n, A, c, ds, rfl, by omega, hl, F1, F2, F3⟩
end Go.Proofs.Ytdgcjkgbglofbaa

/- A number near a range: the model's draw. -/
namespace Go.Proofs.Ytdgcjkgbglofbaa
open Go.RowKit

set_option maxRecDepth 100000 in
set_option maxHeartbeats 4000000 in
theorem l01Near (most : Int) (w : World) (B g : Nat) (hm0 : -1 ≤ most) (hm1 : most ≤ 4611686018427387903) (hS : Hid (Src w B g)) :
    Calls Try.prog 190 #[.pointer (some ⟨g, 0, none⟩), .int .i64 most] w fun e w' => ∃ r : Int, e = .returned (.int .i64 r) ∧ (-4611686018427387904 ≤ r ∧ r ≤ 4611686018427387904) ∧ Hid (Src w' B g) ∧ Hid (w.grownBy w' (some g)) := by
  have hwr : IntKind.i64.wrap (most + 1) = most + 1 := IntWalk.i64_in _ (by omega)
  go_enter Try.func190, Try.ntmps190
  go_wp2_with fail
  refine (l01Next 14 w B g (by omega) hS).mono ?_
  rintro e w1 ⟨r, rfl, ⟨hr0, hr1⟩, hS1, hg1⟩
  by_cases h0 : r = 0
  · subst h0
    have hS2 := Lib.hid (hS1.out.be (bal (b0 w1) (.cells #[.int .i64 (-1), .int .i64 (most + 1), .int .i64 1099511627776, .int .i64 (-4611686018427387904)] 2)))
    have hO := Lib.hid (off_new w1 g hS1.out.lt [-1, most + 1, 1099511627776, -4611686018427387904])
    simp only [List.map_cons, List.map_nil] at hO
    go_wp2_with fail
    refine (l01Pick (some ⟨w1.heap.size, 0, none⟩) [-1, most + 1, 1099511627776, -4611686018427387904] 4 4 _ B g rfl (by omega) (by omega) hO hS2).mono ?_
    rintro e w2 ⟨x, rfl, hx, hS3, hg2⟩
    have hxb : -4611686018427387904 ≤ x ∧ x ≤ 4611686018427387904 := by
      have := hx.out
      simp only [List.mem_cons, List.not_mem_nil, or_false] at this
      omega
    go_wp2
    go_ret
    exact ⟨x, rfl, hxb, hS3, Lib.hid (src_tr hg1.out (src_tr (World.grownBy_alloc w1 _ _) hg2.out))⟩
  · have hb : (r == 0) = false := by simp [h0]
    go_wp2_with fail
    refine (l01Next (most + 1) w1 B g (by omega) hS1).mono ?_
    rintro e w2 ⟨x, rfl, ⟨hx0, hx1⟩, hS3, hg2⟩
    go_wp2
    go_ret
    exact ⟨x, rfl, by omega, hS3, Lib.hid (src_tr hg1.out hg2.out)⟩
end Go.Proofs.Ytdgcjkgbglofbaa

/- The source of draws of a code: made in a box of its own. -/
namespace Go.Proofs.Ytdgcjkgbglofbaa
open Go.RowKit

theorem u64_range' (n : Int) : 0 ≤ IntKind.u64.wrap n ∧ IntKind.u64.wrap n ≤ 18446744073709551615 := by rw [IntKind.wrap_u64]; omega
set_option maxRecDepth 100000 in
set_option maxHeartbeats 4000000 in
theorem l01FromB (A : Option Addr) (zs : List Int) (c B : Nat) (w : World) (hB : B ≤ w.heap.size) (hzc : zs.length ≤ c) (hc : c ≤ 9223372036854775807) (hz : Hid (∀ x ∈ zs, 0 ≤ x ∧ x ≤ 255)) (h : Hid (Byts w B A zs)) :
    Calls Try.prog 165 #[.slice A zs.length c] w fun e w' => ∃ g, e = .returned (.pointer (some ⟨g, 0, none⟩)) ∧ w.heap.size ≤ g ∧ Hid (Src w' B g) ∧ Hid (Below w.heap.size w w') := by
  go_enter Try.func165, Try.ntmps165
  have hN := heap_alloc_new w (.cells #[.slice A zs.length c, .int .i64 0, .int .u64 (13911 + (zs.length : Int))] 221)
  go_wp2
  go_loopw [4] (fun i wr => ∃ (k : Nat) (h' : Int), k ≤ zs.length ∧ i = .int .i64 (k : Int) ∧ Hid (SrcBox wr w.heap.size A zs c 0 h') ∧ Hid (0 ≤ h' ∧ h' ≤ 18446744073709551615) ∧ Hid (Below w.heap.size w wr)) (fun i _ => zs.length - (intOf i).toNat)
  case atStart => exact ⟨0, _, Nat.zero_le _, rfl, hN, Lib.hid ⟨by omega, by omega⟩, bal (b0 w) _⟩
  case round =>
    clear hN
    obtain ⟨k, h', hk, rfl, hbx, hh, hb⟩ := hrel
    by_cases hlt : k < zs.length
    · have hlt' : (k : Int) < (zs.length : Int) := by omega
      by_cases h4 : k < 4096
      · have h4' : (k : Int) < 4096 := by omega
        have hk0 : (0 : Int) ≤ (k : Int) := by omega
        obtain ⟨b, off, rfl, hbB, hcell⟩ := h.out (by omega)
        have hy := List.getElem?_eq_getElem hlt
        have hyr := hz.out _ (List.mem_of_getElem? hy)
        generalize zs[k] = y at hy hyr
        have hcy := (hb.out.cell (p := ⟨b, off + k, none⟩) (Nat.lt_of_lt_of_le hbB hB)).trans (hcell k y hy)
        obtain ⟨⟨c0, c1, c2⟩, f1, f2, hl1⟩ := hbx.out.cells
        have hwk : IntKind.i64.wrap ((k : Int) + 1) = ((k + 1 : Nat) : Int) := by rw [IntWalk.i64_in _ (by omega)]; omega
        clear hcell hy
        go_wp2
        go_region
        go_wp2
        go_roundw
        case rel => exact ⟨k + 1, _, by omega, by go_num, hbx.out.hash _, u64_range' _, (below_setCell hb.out (Nat.le_refl _) _).drew⟩
        case measure => simp [intOf]; omega
      · have h4' : ¬ (k : Int) < 4096 := by omega
        go_wp2
        go_ret
        exact ⟨w.heap.size, rfl, Nat.le_refl _, ⟨hB, A, zs, c, 0, h', hbx.out, by omega, hzc, hc, hz.out, h.out.below hb.out hB, hh.out⟩, hb⟩
    · have hlt' : ¬ (k : Int) < (zs.length : Int) := by omega
      go_wp2
      go_ret
      exact ⟨w.heap.size, rfl, Nat.le_refl _, ⟨hB, A, zs, c, 0, h', hbx.out, by omega, hzc, hc, hz.out, h.out.below hb.out hB, hh.out⟩, hb⟩
theorem l01From (A : Option Addr) (zs : List Int) (c : Nat) (w : World) (hzc : zs.length ≤ c) (hc : c ≤ 9223372036854775807) (hz : Hid (∀ x ∈ zs, 0 ≤ x ∧ x ≤ 255)) (h : Hid (Byts w w.heap.size A zs)) :
    Calls Try.prog 165 #[.slice A zs.length c] w fun e w' => ∃ g, e = .returned (.pointer (some ⟨g, 0, none⟩)) ∧ Hid (Src w' w.heap.size g) ∧ Hid (Below w.heap.size w w') :=
  (l01FromB A zs c w.heap.size w (Nat.le_refl _) hzc hc hz h).mono fun _ _ ⟨g, he, _, h1, h2⟩ => ⟨g, he, h1, h2⟩
end Go.Proofs.Ytdgcjkgbglofbaa

/- A list that seldom is no tree; and with two numbers near its nodes: the model's draws l01Spoil and l01With. -/
namespace Go.Proofs.Ytdgcjkgbglofbaa
open Go.RowKit

set_option maxRecDepth 100000 in
set_option maxHeartbeats 4000000 in
theorem l01Spoil (w : World) (B g : Nat) (hS : Hid (Src w B g)) :
    Calls Try.prog 164 #[.pointer (some ⟨g, 0, none⟩)] w fun e w' => DrawnL w w' B w.heap.size g e := by
  have hgl := hS.out.lt
  have hS0 := Lib.hid (hS.out.be (bal (b0 w) (.cells #[.slice none 0 0] 26)))
  have hr0 : Hid ((w.alloc (.cells #[.slice none 0 0] 26)).heap[w.heap.size]? = some (.cells #[.slice none 0 0] 26 (0, 0))) := heap_alloc_new w _
  have hz0 : (w.alloc (.cells #[.slice none 0 0] 26)).heap.size = w.heap.size + 1 := by simp
  have hg0 : Hid (w.grownBy (w.alloc (.cells #[.slice none 0 0] 26)) (some g)) := src_of (bal (b0 w) _)
  go_enter Try.func164, Try.ntmps164
  go_wp2_with fail
  refine (l01Draw _ B g hS0).mono ?_
  rintro e w1 ⟨n, A, c, ds, rfl, hn, hl, ht, ho, hS1, hg1⟩
  rw [hz0] at ho
  have hz1 := hg1.out.size
  have hr3 := Lib.hid (res_keep hr0.out hg1.out (by omega))
  have hg2 := Lib.hid (src_tr hg0.out hg1.out)
  clear hg0 hg1 hr0
  go_wp2_with fail
  refine (l01Bad A n c ds w1 B (w.heap.size + 1) g hn hl (by omega) (by omega) ho hS1).mono ?_
  rintro e w2 ⟨m, A', c', zs, rfl, hm, hzl, ho2, hS2, hg3⟩
  have hr4 := res_keep hr3.out hg3.out (by omega)
  have hrc := cell_of_one hr4
  have hrf := free_of_one hr4
  obtain ⟨f1, f2, f3⟩ := drawn_end (w := w) (.slice A' m c') (by omega) ho2.out hS2.out (src_tr hg2.out hg3.out) hgl
  have F1 := Lib.hid f1
  have F2 := Lib.hid f2
  have F3 := Lib.hid f3
  clear f1 f2 f3
  go_wp2
  refine bodyPost_ret (v := .agg #[.slice A' m c']) (by simp [results, Try.results164, go_sem, hrc]) rfl ?_
  exact ⟨m, A', c', zs, rfl, hm, hzl, F1, F2, F3⟩

/-- what a draw of a list hands back, at the end -/
def TopT (w w' : World) (e : Ending) : Prop :=
  ∃ (m : Nat) (A' : Option Addr) (c' : Nat) (zs : List Int), e = .returned (.agg #[.slice A' m c']) ∧ m ≤ 25 ∧ Hid (zs.length = m) ∧ Hid (Own64 w' w.heap.size (.slice A' m c') zs) ∧ Hid (Below w.heap.size w w')
theorem below_src {w w1 w2 : World} {D g : Nat} (h : Below D w w1) (k : w1.grownBy w2 (some g)) (hg : D ≤ g) (hD : D ≤ w1.heap.size) : Below D w w2 :=
  Below.grown h k hD (fun j e => by injection e with e; omega)
theorem own_cap {w : World} {B n c : Nat} {A : Option Addr} {zs : List Int} (h : Own64 w B (.slice A n c) zs) : n ≤ c ∧ c ≤ 9223372036854775807 := by
  rcases h.2 with ⟨h0, hx⟩ | ⟨g, cap, cur, hv, _, _, hnc, hcm, _⟩
  · injection h0 with _ e e'; omega
  · injection hv with _ e e'
    simp only [maxLen] at hcm
    omega

/-- what a draw of a list and two numbers hands back -/
def TopW (w w' : World) (e : Ending) : Prop :=
  ∃ (m : Nat) (A' : Option Addr) (c' : Nat) (zs : List Int) (v u : Int), e = .returned (.tuple #[.agg #[.slice A' m c'], .int .i64 v, .int .i64 u]) ∧ m ≤ 25 ∧ ((-4611686018427387904 ≤ v ∧ v ≤ 4611686018427387904) ∧ (-4611686018427387904 ≤ u ∧ u ≤ 4611686018427387904)) ∧ Hid (zs.length = m) ∧ Hid (Own64 w' w.heap.size (.slice A' m c') zs) ∧ Hid (Below w.heap.size w w')

structure WithQ (w : World) (B D g bt n : Nat) (T : Option Addr) (ct : Nat) (ds : List Int) (X : World) : Prop where
  num : g < D ∧ D ≤ bt ∧ w.heap.size ≤ g ∧ w.heap.size < D ∧ w.heap.size < B ∧ B ≤ g
  src : Src X B g
  bel : Below w.heap.size w X
  own : Own64 X D (.slice T n ct) ds
  box : X.heap[bt]? = some (.cells #[.slice T n ct] 26 (0, 0))
  res : X.heap[w.heap.size]? = some (.cells #[.slice none 0 0] 26 (0, 0))
theorem WithQ.be {w X X' : World} {B D g bt n ct : Nat} {T : Option Addr} {ds : List Int} (h : WithQ w B D g bt n T ct ds X) (hb : Below X.heap.size X X') : WithQ w B D g bt n T ct ds X' :=
  ⟨h.num, h.src.be hb, h.bel.trans (hb.mono h.bel.size), own_below h.own hb (Nat.le_refl _), (hb.block _ (Array.getElem?_eq_some_iff.1 h.box).1).trans h.box, (hb.block _ (Array.getElem?_eq_some_iff.1 h.res).1).trans h.res⟩
theorem WithQ.draw {w X X' : World} {B D g bt n ct : Nat} {T : Option Addr} {ds : List Int} (h : WithQ w B D g bt n T ct ds X) (hg : X.grownBy X' (some g)) (hS : Src X' B g) : WithQ w B D g bt n T ct ds X' := by
  obtain ⟨n1, n2, n3, n4, n5, n6⟩ := h.num
  exact ⟨h.num, hS, below_src h.bel hg n3 h.bel.size, own_src h.own hg n1, res_keep h.box hg (by omega), res_keep h.res hg (by omega)⟩

set_option maxRecDepth 100000 in
set_option maxHeartbeats 8000000 in
theorem l01With (A : Option Addr) (zs : List Int) (c : Nat) (w : World) (hzc : zs.length ≤ c) (hc : c ≤ 9223372036854775807) (hz : Hid (∀ x ∈ zs, 0 ≤ x ∧ x ≤ 255)) (h : Hid (Byts w w.heap.size A zs)) :
    Calls Try.prog 182 #[.slice A zs.length c] w fun e w' => TopW w w' e := by
  obtain ⟨W, hW⟩ : ∃ W, W = w.alloc (.cells #[.slice none 0 0] 26) := ⟨_, rfl⟩
  have hbW : Hid (Below w.heap.size w W) := by rw [hW]; exact bal (b0 w) _
  have hzW : W.heap.size = w.heap.size + 1 := by rw [hW]; simp
  have hr0 : Hid (W.heap[w.heap.size]? = some (.cells #[.slice none 0 0] 26 (0, 0))) := by rw [hW]; exact heap_alloc_new w _
  go_enter Try.func182, Try.ntmps182
  go_wp2_with fail
  rw [← hW]
  refine (l01From A zs c W hzc hc hz (h.out.be hbW.out)).mono ?_
  rintro e w1 ⟨g, rfl, hS1, hb1⟩
  have hr1 := Lib.hid ((hb1.out.block w.heap.size (by omega)).trans hr0.out)
  have hbw1 := Lib.hid (hbW.out.trans (hb1.out.mono (by omega)))
  have hgW : W.heap.size ≤ g := hS1.out.1
  have hz1 := hb1.out.size
  clear hbW hr0 hb1 hW
  go_wp2_with fail
  refine (l01Draw w1 _ g hS1).mono ?_
  rintro e w2 ⟨n, T, ct, ds, rfl, hn, hl, ht, ho, hS2, hg2⟩
  have hr2 := Lib.hid (res_keep hr1.out hg2.out (by omega))
  have hbw2 := Lib.hid (below_src hbw1.out hg2.out (by omega) (by omega))
  have hgl1 := hS1.out.lt
  have hz2 := hg2.out.size
  clear hr1 hbw1 hg2 hS1
  obtain ⟨V, hV⟩ : ∃ V, V = w2.alloc (.cells #[.slice T n ct] 26) := ⟨_, rfl⟩
  have hbV : Below w2.heap.size w2 V := by rw [hV]; exact bal (b0 w2) _
  have hbx : V.heap[w2.heap.size]? = some (.cells #[.slice T n ct] 26 (0, 0)) := by rw [hV]; exact heap_alloc_new w2 _
  have hQ : Hid (WithQ w W.heap.size w1.heap.size g w2.heap.size n T ct ds V) :=
    ⟨⟨hgl1, hz2, by omega, by omega, by omega, hgW⟩, hS2.out.be hbV, hbw2.out.trans (hbV.mono (by omega)), own_below ho.out hbV (Nat.le_refl _), hbx, (hbV.block _ (by omega)).trans hr2.out⟩
  clear hbV hbx hbw2 hr2 ho hS2
  go_wp2
  rw [← hV]
  clear hV
  obtain ⟨bt, hbt⟩ : ∃ bt, w2.heap.size = bt := ⟨_, rfl⟩
  rw [hbt] at hQ ⊢
  have hwn : IntKind.i64.wrap ((n : Int) - 1) = (n : Int) - 1 := IntWalk.i64_in _ (by omega)
  have QS := Lib.hid (fun (X : World) (hX : Hid (WithQ w W.heap.size w1.heap.size g bt n T ct ds X)) => (show X.cell? ⟨bt, 0, none⟩ = some (.slice T n ct) ∧ Hid (WithQ w W.heap.size w1.heap.size g bt n T ct ds X) from ⟨cell_of_one hX.out.box, hX⟩))
  have HN := Lib.hid (fun (X : World) (hX : Hid (WithQ w W.heap.size w1.heap.size g bt n T ct ds X)) => (l01N T n ct X).mono fun e w' h => (show e = .returned (.int .i64 (n : Int)) ∧ Hid (WithQ w W.heap.size w1.heap.size g bt n T ct ds w') from ⟨h.1, hX.out.be h.2⟩))
  have HV := Lib.hid (fun (X : World) (hX : Hid (WithQ w W.heap.size w1.heap.size g bt n T ct ds X)) => (l01Near ((n : Int) - 1) X W.heap.size g (by omega) (by omega) (Lib.hid hX.out.src)).mono fun e w' h => (show ∃ r : Int, e = .returned (.int .i64 r) ∧ (-4611686018427387904 ≤ r ∧ r ≤ 4611686018427387904) ∧ Hid (WithQ w W.heap.size w1.heap.size g bt n T ct ds w') from by
    obtain ⟨r, he, h1, h3, h4⟩ := h
    exact ⟨r, he, h1, hX.out.draw h4.out h3.out⟩))
  have K0 : Hid (WithQ w W.heap.size w1.heap.size g bt n T ct ds V.drew) := hQ.out.be (Below.refl _ _).drew
  have c0 := cell_of_one hQ.out.box
  clear hQ
  go_region_held3 (fun X => X.cell? ⟨bt, 0, none⟩ = some (.slice T n ct) ∧ Hid (WithQ w W.heap.size w1.heap.size g bt n T ct ds X)) (first | exact QS.out _ (by assumption)) (first | (go_at_call 169; refine (HN.out _ (by assumption)).mono ?_; rintro e w4 ⟨rfl, K4⟩) | (go_at_call 190; have _ := hr5; refine (HV.out _ (by assumption)).mono ?_; rintro e w6 ⟨r6, rfl, hr6, K6⟩) | (go_at_call 190; refine (HV.out _ (by assumption)).mono ?_; rintro e w5 ⟨r5, rfl, hr5, K5⟩))
  have cb := cell_of_one K6.out.box
  have hz6 : w1.heap.size ≤ w6.heap.size := by have := (Array.getElem?_eq_some_iff.1 K6.out.box).1; omega
  clear QS HN HV K0 K4 K5 c0 hwn
  go_wp2_with fail
  refine (l01Bad T n ct ds w6 W.heap.size w1.heap.size g hn hl hgl1 hz6 (Lib.hid K6.out.own) (Lib.hid K6.out.src)).mono ?_
  rintro e w7 ⟨m, A', c', zs', rfl, hm, hzl, ho7, hS7, hg7⟩
  have hr7 := res_keep K6.out.res hg7.out (by omega)
  have hrc := cell_of_one hr7
  have hrf := free_of_one hr7
  have F1 := Lib.hid (own_mono (base' := w.heap.size) (own_far (g := w.heap.size) (k := 0) ho7.out (by omega) (.slice A' m c')) (by omega))
  have F2 := Lib.hid (below_setCell (g := w.heap.size) (k := 0) (below_src K6.out.bel hg7.out (by omega) K6.out.bel.size) (Nat.le_refl _) (.slice A' m c'))
  clear hr7 K6 ho7 hS7 hg7
  go_wp2
  refine bodyPost_ret (v := .tuple #[.agg #[.slice A' m c'], .int .i64 r5, .int .i64 r6]) (by simp [results, Try.results182, go_sem, hrc]) rfl ?_
  exact ⟨m, A', c', zs', r5, r6, rfl, hm, ⟨hr5, hr6⟩, hzl, F1, F2⟩
end Go.Proofs.Ytdgcjkgbglofbaa

/- The model's DrawHeavyPaths: what comes out of it. Written by gendraw.py. -/
namespace Go.Proofs.Ytdgcjkgbglofbaa
open Go.RowKit

set_option maxRecDepth 100000 in
set_option maxHeartbeats 4000000 in
theorem drawHeavyPaths (A : Option Addr) (zs : List Int) (c : Nat) (w : World) (hzc : zs.length ≤ c) (hc : c ≤ 9223372036854775807) (hz : Hid (∀ x ∈ zs, 0 ≤ x ∧ x ≤ 255)) (h : Hid (Byts w w.heap.size A zs)) :
    Calls Try.prog 108 #[.slice A zs.length c] w fun e w' => TopT w w' e := by
  obtain ⟨W, hW⟩ : ∃ W, W = w.alloc (.cells #[.slice none 0 0] 26) := ⟨_, rfl⟩
  have hbW : Hid (Below w.heap.size w W) := by rw [hW]; exact bal (b0 w) _
  have hzW : W.heap.size = w.heap.size + 1 := by rw [hW]; simp
  have hr0 : Hid (W.heap[w.heap.size]? = some (.cells #[.slice none 0 0] 26 (0, 0))) := by rw [hW]; exact heap_alloc_new w _
  go_enter Try.func108, Try.ntmps108
  go_wp2_with fail
  rw [← hW]
  refine (l01From A zs c W hzc hc hz (h.out.be hbW.out)).mono ?_
  rintro e w1 ⟨g, rfl, hS1, hb1⟩
  have hr1 := Lib.hid ((hb1.out.block w.heap.size (by omega)).trans hr0.out)
  have hbw1 := Lib.hid (hbW.out.trans (hb1.out.mono (by omega)))
  have hgW : W.heap.size ≤ g := hS1.out.1
  have hz1 := hb1.out.size
  clear hbW hr0 hb1 hW
  go_wp2_with fail
  refine (l01Spoil w1 _ g hS1).mono ?_
  rintro e w2 ⟨m, A', c', xs, rfl, hm, hxl, ho, hS2, hg2⟩
  have hr2 := res_keep hr1.out hg2.out (by omega)
  have hrc := cell_of_one hr2
  have hrf := free_of_one hr2
  have F1 := Lib.hid (own_mono (base' := w.heap.size) (own_far (g := w.heap.size) (k := 0) ho.out (by omega) (.slice A' m c')) (by omega))
  have F2 := Lib.hid (below_setCell (g := w.heap.size) (k := 0) (below_src hbw1.out hg2.out (by omega) (by omega)) (Nat.le_refl _) (.slice A' m c'))
  clear hr1 hbw1 hr2 ho hS1 hS2 hg2
  go_wp2
  refine bodyPost_ret (v := .agg #[.slice A' m c']) (by simp [results, Try.results108, go_sem, hrc]) rfl ?_
  exact ⟨m, A', c', xs, rfl, hm, hxl, F1, F2⟩
end Go.Proofs.Ytdgcjkgbglofbaa

/- The model's DrawIntervalOf: what comes out of it. Written by gendraw.py. -/
namespace Go.Proofs.Ytdgcjkgbglofbaa
open Go.RowKit

set_option maxRecDepth 100000 in
set_option maxHeartbeats 4000000 in
theorem drawIntervalOf (A : Option Addr) (zs : List Int) (c : Nat) (w : World) (hzc : zs.length ≤ c) (hc : c ≤ 9223372036854775807) (hz : Hid (∀ x ∈ zs, 0 ≤ x ∧ x ≤ 255)) (h : Hid (Byts w w.heap.size A zs)) :
    Calls Try.prog 234 #[.slice A zs.length c] w fun e w' => ∃ (m : Nat) (A' : Option Addr) (c' : Nat) (zs : List Int) (v : Int), e = .returned (.tuple #[.agg #[.slice A' m c'], .int .i64 v]) ∧ m ≤ 25 ∧ (-4611686018427387904 ≤ v ∧ v ≤ 4611686018427387904) ∧ Hid (zs.length = m) ∧ Hid (Own64 w' w.heap.size (.slice A' m c') zs) ∧ Hid (Below w.heap.size w w') := by
  obtain ⟨W, hW⟩ : ∃ W, W = w.alloc (.cells #[.slice none 0 0] 26) := ⟨_, rfl⟩
  have hbW : Hid (Below w.heap.size w W) := by rw [hW]; exact bal (b0 w) _
  have hzW : W.heap.size = w.heap.size + 1 := by rw [hW]; simp
  have hr0 : Hid (W.heap[w.heap.size]? = some (.cells #[.slice none 0 0] 26 (0, 0))) := by rw [hW]; exact heap_alloc_new w _
  go_enter Try.func234, Try.ntmps234
  go_wp2_with fail
  rw [← hW]
  refine (l01With A zs c W hzc hc hz (h.out.be hbW.out)).mono ?_
  rintro e w1 ⟨m, A', c', xs, v, u, rfl, hm, hvu, hxl, ho, hb⟩
  have hr1 := (hb.out.block w.heap.size (by omega)).trans hr0.out
  have hl1 := (Array.getElem?_eq_some_iff.1 hr1).1
  have hrc := cell_of_one hr1
  have hrf := free_of_one hr1
  have hb1 : Hid (Below w.heap.size w (w1.setCell ⟨w.heap.size, 0, none⟩ (.slice A' m c'))) := below_setCell (hbW.out.trans (hb.out.mono (by omega))) (Nat.le_refl _) _
  have hsz : w.heap.size < (w1.setCell ⟨w.heap.size, 0, none⟩ (.slice A' m c')).heap.size := by simp; exact hl1
  have hr2 := (Below.heap_alloc _ (.cells #[.slice A' m c'] 26) _ hsz).trans (src_set hr1 (i := 0) (.slice A' m c'))
  have hrc2 := cell_of_one hr2
  have F1 := Lib.hid ((own_mono (base' := w.heap.size) (own_far (g := w.heap.size) (k := 0) ho.out (by omega) (.slice A' m c')) (by omega)).alloc (.cells #[.slice A' m c'] 26))
  have F2 := Lib.hid (bal hb1.out (.cells #[.slice A' m c'] 26))
  clear hr1 hbW hr0 hW ho hb hb1 hr2
  go_wp2
  refine bodyPost_ret (v := .tuple #[.agg #[.slice A' m c'], .int .i64 v]) (by simp [results, Try.results234, go_sem, hrc2]) rfl ?_
  exact ⟨m, A', c', xs, v, rfl, hm, hvu.1, hxl, F1, F2⟩
end Go.Proofs.Ytdgcjkgbglofbaa

/- The model's DrawLightSteps and DrawAncestorOf: what comes out of them. -/
namespace Go.Proofs.Ytdgcjkgbglofbaa
open Go.RowKit

set_option maxRecDepth 100000 in
set_option maxHeartbeats 4000000 in
theorem drawLightSteps (A : Option Addr) (zs : List Int) (c : Nat) (w : World) (hzc : zs.length ≤ c) (hc : c ≤ 9223372036854775807) (hz : Hid (∀ x ∈ zs, 0 ≤ x ∧ x ≤ 255)) (h : Hid (Byts w w.heap.size A zs)) :
    Calls Try.prog 114 #[.slice A zs.length c] w fun e w' => ∃ (m : Nat) (A' : Option Addr) (c' : Nat) (zs : List Int) (v : Int), e = .returned (.tuple #[.agg #[.slice A' m c'], .int .i64 v]) ∧ m ≤ 25 ∧ (-4611686018427387904 ≤ v ∧ v ≤ 4611686018427387904) ∧ Hid (zs.length = m) ∧ Hid (Own64 w' w.heap.size (.slice A' m c') zs) ∧ Hid (Below w.heap.size w w') := by
  obtain ⟨W, hW⟩ : ∃ W, W = w.alloc (.cells #[.slice none 0 0] 26) := ⟨_, rfl⟩
  have hbW : Hid (Below w.heap.size w W) := by rw [hW]; exact bal (b0 w) _
  have hzW : W.heap.size = w.heap.size + 1 := by rw [hW]; simp
  have hr0 : Hid (W.heap[w.heap.size]? = some (.cells #[.slice none 0 0] 26 (0, 0))) := by rw [hW]; exact heap_alloc_new w _
  go_enter Try.func114, Try.ntmps114
  go_wp2_with fail
  rw [← hW]
  refine (drawIntervalOf A zs c W hzc hc hz (h.out.be hbW.out)).mono ?_
  rintro e w1 ⟨m, A', c', xs, v, rfl, hm, hv, hxl, ho, hb⟩
  have hr1 := (hb.out.block w.heap.size (by omega)).trans hr0.out
  have hrc := cell_of_one hr1
  have hrf := free_of_one hr1
  have F1 := Lib.hid (own_mono (base' := w.heap.size) (own_far (g := w.heap.size) (k := 0) ho.out (by omega) (.slice A' m c')) (by omega))
  have F2 := Lib.hid (below_setCell (g := w.heap.size) (k := 0) (hbW.out.trans (hb.out.mono (by omega))) (Nat.le_refl _) (.slice A' m c'))
  clear hr1 hbW hr0 hW ho hb
  go_wp2
  refine bodyPost_ret (v := .tuple #[.agg #[.slice A' m c'], .int .i64 v]) (by simp [results, Try.results114, go_sem, hrc]) rfl ?_
  exact ⟨m, A', c', xs, v, rfl, hm, hv, hxl, F1, F2⟩

/-- what holds while DrawAncestorOf goes on: its list lies in a box, its result has a box -/
structure AncQ (w : World) (B D g bt m : Nat) (T : Option Addr) (ct : Nat) (ds : List Int) (X : World) : Prop where
  num : w.heap.size < D ∧ D ≤ bt ∧ w.heap.size < g ∧ g < D ∧ B ≤ g ∧ B ≤ w.heap.size
  src : Src X B g
  bel : Below w.heap.size w X
  own : Own64 X D (.slice T m ct) ds
  box : X.heap[bt]? = some (.cells #[.slice T m ct] 26 (0, 0))
  res : ∃ r, X.heap[w.heap.size]? = some (.cells #[r] 26 (0, 0))
section
variable {w X X' : World} {B D g bt m ct : Nat} {T : Option Addr} {ds : List Int}
theorem AncQ.be (h : AncQ w B D g bt m T ct ds X) (hb : Below X.heap.size X X') : AncQ w B D g bt m T ct ds X' := by
  obtain ⟨r, hr⟩ := h.res
  exact ⟨h.num, h.src.be hb, h.bel.trans (hb.mono h.bel.size), own_below h.own hb (Nat.le_refl _), (hb.block _ (Array.getElem?_eq_some_iff.1 h.box).1).trans h.box, r, (hb.block _ (Array.getElem?_eq_some_iff.1 hr).1).trans hr⟩
theorem AncQ.draw (h : AncQ w B D g bt m T ct ds X) (hg : X.grownBy X' (some g)) (hS : Src X' B g) : AncQ w B D g bt m T ct ds X' := by
  obtain ⟨r, hr⟩ := h.res
  obtain ⟨n1, n2, n3, n4, n5, n6⟩ := h.num
  exact ⟨h.num, hS, below_src h.bel hg (by omega) h.bel.size, own_src h.own hg n4, res_keep h.box hg (by omega), r, res_keep hr hg (by omega)⟩
theorem AncQ.put (h : AncQ w B D g bt m T ct ds X) (u : Value) : AncQ w B D g bt m T ct ds (X.setCell ⟨w.heap.size, 0, none⟩ u) := by
  obtain ⟨r, hr⟩ := h.res
  obtain ⟨n1, n2, n3, n4, n5, n6⟩ := h.num
  have hg := src_grown X w.heap.size 0 u
  exact ⟨h.num, h.src.kept hg (fun k e => by injection e with e; omega), below_setCell h.bel (Nat.le_refl _) _, own_far h.own n1 _, (hg.block _ (Array.getElem?_eq_some_iff.1 h.box).1 (fun e => by injection e; omega)).trans h.box, u, src_set hr (i := 0) u⟩
theorem AncQ.cell (h : AncQ w B D g bt m T ct ds X) : (∃ r, X.cell? ⟨w.heap.size, 0, none⟩ = some r) ∧ X.frozen? ⟨w.heap.size, 0, none⟩ = false := by
  obtain ⟨r, hr⟩ := h.res
  exact ⟨⟨r, cell_of_one hr⟩, free_of_one hr⟩
end

set_option maxRecDepth 100000 in
set_option maxHeartbeats 8000000 in
theorem drawAncestorOf (A : Option Addr) (zs : List Int) (c : Nat) (w : World) (hzc : zs.length ≤ c) (hc : c ≤ 9223372036854775807) (hz : Hid (∀ x ∈ zs, 0 ≤ x ∧ x ≤ 255)) (h : Hid (Byts w w.heap.size A zs)) :
    Calls Try.prog 119 #[.slice A zs.length c] w fun e w' => TopW w w' e := by
  obtain ⟨W, hW⟩ : ∃ W, W = w.alloc (.cells #[.slice none 0 0] 26) := ⟨_, rfl⟩
  have hbW : Hid (Below w.heap.size w W) := by rw [hW]; exact bal (b0 w) _
  have hzW : W.heap.size = w.heap.size + 1 := by rw [hW]; simp
  have hr0 : Hid (W.heap[w.heap.size]? = some (.cells #[.slice none 0 0] 26 (0, 0))) := by rw [hW]; exact heap_alloc_new w _
  go_enter Try.func119, Try.ntmps119
  go_wp2_with fail
  rw [← hW]
  refine (l01FromB A zs c w.heap.size W hbW.out.size hzc hc hz (h.out.below hbW.out (Nat.le_refl _))).mono ?_
  rintro e w1 ⟨g, rfl, hgW, hS1, hb1⟩
  have hr1 := Lib.hid ((hb1.out.block w.heap.size (by omega)).trans hr0.out)
  have hbw1 := Lib.hid (hbW.out.trans (hb1.out.mono (by omega)))
  have hgl := hS1.out.lt
  have hz1 := hb1.out.size
  clear hbW hr0 hb1 hW
  go_wp2_with fail
  refine (l01With A zs c w1 hzc hc hz ((h.out.below hbw1.out (Nat.le_refl _)).more hbw1.out.size)).mono ?_
  rintro e w2 ⟨m, T, ct, ds, v, u, rfl, hm, hvu, hxl, ho, hb2⟩
  obtain ⟨V, hV⟩ : ∃ V, V = w2.alloc (.cells #[.slice T m ct] 26) := ⟨_, rfl⟩
  have hbV : Below w2.heap.size w2 V := by rw [hV]; exact bal (b0 w2) _
  have hbx : V.heap[w2.heap.size]? = some (.cells #[.slice T m ct] 26 (0, 0)) := by rw [hV]; exact heap_alloc_new w2 _
  have hz2 := hb2.out.size
  have hQ : Hid (AncQ w w.heap.size w1.heap.size g w2.heap.size m T ct ds V) :=
    ⟨⟨by omega, hz2, by omega, hgl, by omega, Nat.le_refl _⟩, (hS1.out.be hb2.out).be hbV, (hbw1.out.trans (hb2.out.mono (by omega))).trans (hbV.mono (by omega)), own_below ho.out hbV (Nat.le_refl _), hbx, _, (hbV.block _ (by omega)).trans ((hb2.out.block _ (by omega)).trans hr1.out)⟩
  clear hbV hbx hbw1 hr1 ho hb2 hS1
  go_wp2
  rw [← hV]
  clear hV
  obtain ⟨bt, hbt⟩ : ∃ bt, w2.heap.size = bt := ⟨_, rfl⟩
  rw [hbt] at hQ ⊢
  have QS := Lib.hid (fun (X : World) (hX : Hid (AncQ w w.heap.size w1.heap.size g bt m T ct ds X)) => (show X.cell? ⟨bt, 0, none⟩ = some (.slice T m ct) ∧ Hid (AncQ w w.heap.size w1.heap.size g bt m T ct ds X) from ⟨cell_of_one hX.out.box, hX⟩))
  have QA := Lib.hid (fun (X : World) (o : Obj) (hX : Hid (AncQ w w.heap.size w1.heap.size g bt m T ct ds X)) => (show Hid (AncQ w w.heap.size w1.heap.size g bt m T ct ds (X.alloc o)) from hX.out.be (bal (b0 X) o)))
  have QW := Lib.hid (fun (X : World) (u : Value) (hX : Hid (AncQ w w.heap.size w1.heap.size g bt m T ct ds X)) => (show Hid (AncQ w w.heap.size w1.heap.size g bt m T ct ds (X.setCell ⟨w.heap.size, 0, none⟩ u)) from hX.out.put u))
  have HP := Lib.hid (fun (X : World) (hX : Hid (AncQ w w.heap.size w1.heap.size g bt m T ct ds X)) => (l01Pick (some ⟨X.heap.size, 0, none⟩) [2, 4, 24] 3 3 (X.alloc (.cells #[.int .i64 2, .int .i64 4, .int .i64 24] 2)) w.heap.size g rfl (by omega) (by omega) (by
      have := off_new X g hX.out.src.lt [2, 4, 24]
      simp only [List.map_cons, List.map_nil] at this
      exact this) (Lib.hid (hX.out.src.be (bal (b0 X) _)))).mono fun e w' h => (show ∃ x : Int, e = .returned (.int .i64 x) ∧ (2 ≤ x ∧ x ≤ 24) ∧ Hid (AncQ w w.heap.size w1.heap.size g bt m T ct ds w') from by
    obtain ⟨r, he, h1, h3, h4⟩ := h
    refine ⟨r, he, ?_, (hX.out.be (bal (b0 X) _)).draw h4.out h3.out⟩
    have := h1.out
    simp only [List.mem_cons, List.not_mem_nil, or_false] at this
    omega))
  have HV := Lib.hid (fun (X : World) (x : Int) (hx : 2 ≤ x ∧ x ≤ 24) (hX : Hid (AncQ w w.heap.size w1.heap.size g bt m T ct ds X)) => (l01Near x X w.heap.size g (by omega) (by omega) (Lib.hid hX.out.src)).mono fun e w' h => (show ∃ r : Int, e = .returned (.int .i64 r) ∧ (-4611686018427387904 ≤ r ∧ r ≤ 4611686018427387904) ∧ Hid (AncQ w w.heap.size w1.heap.size g bt m T ct ds w') from by
    obtain ⟨r, he, h1, h3, h4⟩ := h
    exact ⟨r, he, h1, hX.out.draw h4.out h3.out⟩))
  have K0 : Hid (AncQ w w.heap.size w1.heap.size g bt m T ct ds V.drew) := hQ.out.be (Below.refl _ _).drew
  have c0 := cell_of_one hQ.out.box
  clear hQ
  go_region_held3 (fun X => X.cell? ⟨bt, 0, none⟩ = some (.slice T m ct) ∧ Hid (AncQ w w.heap.size w1.heap.size g bt m T ct ds X)) (first | exact QS.out _ (by assumption) | exact QS.out _ (QA.out _ _ K0) | exact QS.out _ (QW.out _ _ K6)) (first | (go_at_call 209; refine (HP.out _ K0).mono ?_; rintro e w5 ⟨x5, rfl, hx5, K5⟩) | (go_at_call 190; refine (HV.out _ _ hx5 K5).mono ?_; rintro e w6 ⟨r6, rfl, hr6, K6⟩; obtain ⟨⟨d6, cd6⟩, fd6⟩ := K6.out.cell))
  have K9 := QW.out _ (.slice T m ct) K6
  obtain ⟨r9, hr9⟩ := K6.out.res
  have hrc : (w6.setCell ⟨w.heap.size, 0, none⟩ (.slice T m ct)).cell? ⟨w.heap.size, 0, none⟩ = some (.slice T m ct) := cell_of_one (src_set hr9 (i := 0) (.slice T m ct))
  have F1 := Lib.hid (own_mono (base' := w.heap.size) K9.out.own (by omega))
  have F2 := Lib.hid K9.out.bel
  clear QS QA QW HP HV K0 c0 K5 K6 cd6 fd6 hr9 K9
  go_wp2
  refine bodyPost_ret (v := .tuple #[.agg #[.slice T m ct], .int .i64 v, .int .i64 r6]) (by simp [results, Try.results119, go_sem, hrc]) rfl ?_
  exact ⟨m, T, ct, ds, v, r6, rfl, hm, ⟨hvu.1, hr6⟩, hxl, F1, F2⟩
end Go.Proofs.Ytdgcjkgbglofbaa

/- The walk of the laws' likeInts: two lists of numbers are equal. -/
namespace Go.Proofs.Ytdgcjkgbglofbaa
open Go.RowKit

set_option maxHeartbeats 400000 in
theorem likeInts (A A' : Option Addr) (xs ys : List Int) (c c' : Nat) (w : World) (hy : ys.length ≤ 1000000000000000)
    (h : Ints w w.heap.size A xs) (h' : Ints w w.heap.size A' ys) :
    Calls Try.prog 33 #[.slice A xs.length c, .slice A' ys.length c'] w fun e w' => e = .returned (.bool (decide (xs = ys))) ∧ Below w.heap.size w w' := by
  by_cases hl : xs.length = ys.length
  · have hl' : ((xs.length : Int) != (ys.length : Int)) = false := by simp [hl]
    have Hl := Lib.hid hl
    have hl1 : xs.length ≤ ys.length := by omega
    clear hl
    go_enter Try.func33, Try.ntmps33
    go_wp2
    go_loopw [5] (fun i wr => ∃ k : Nat, k ≤ xs.length ∧ i = .int .i64 k ∧ Hid (xs.take k = ys.take k) ∧ Below w.heap.size w wr) (fun i _ => xs.length - (intOf i).toNat)
    case atStart => exact ⟨0, Nat.zero_le _, rfl, rfl, Below.refl _ _⟩
    case round =>
      obtain ⟨k, hk, rfl, he, hb⟩ := hrel
      by_cases hlt : k < xs.length
      · obtain ⟨b, off, x, rfl, hbB, g, hX⟩ := (h.below hb (Nat.le_refl _)).at_ hlt
        obtain ⟨b', off', y, rfl, hbB', g', hY⟩ := (h'.below hb (Nat.le_refl _)).at_ (k := k) (by omega)
        clear h h'
        by_cases hq : x = y
        · subst hq
          have hs := take_eq_succ hX hY he
          go_wp2
          go_quiet (fail)
          go_wp2
          go_roundw
          case rel => exact ⟨k + 1, by omega, by go_num, hs, below_drewN hb _⟩
          case measure => simp [intOf]; omega
        · have hq' : (x != y) = true := by simp [hq]
          have hs := ne_of_at hX hY hq
          clear hq
          go_wp2
          go_quiet (fail)
          go_wp2
          go_ret
          exact ⟨by simp [hs], below_drewN hb _⟩
      · obtain rfl : k = xs.length := by omega
        have hs : xs = ys := by
          have := he.out
          rw [List.take_length, Hl.out, List.take_length] at this
          exact this
        have Hs := Lib.hid hs
        clear hs
        go_wp2
        go_ret
        exact ⟨by simp [Hs.out], hb⟩
  · have hl' : ((xs.length : Int) != (ys.length : Int)) = true := by simp; omega
    go_enter Try.func33, Try.ntmps33
    go_wp2
    go_ret
    refine ⟨?_, Below.refl _ _⟩
    have : ¬ xs = ys := fun e => hl (by rw [e])
    simp [this]

theorem likeIntsT (A A' : Option Addr) (xs : List Int) (c c' : Nat) (w : World) (hy : xs.length ≤ 1000000000000000) (h : Ints w w.heap.size A xs) (h' : Ints w w.heap.size A' xs) :
    Calls Try.prog 33 #[.slice A xs.length c, .slice A' xs.length c'] w fun e w' => e = .returned (.bool true) ∧ Below w.heap.size w w' := by
  have := likeInts A A' xs xs c c' w hy h h'
  rwa [decide_eq_true rfl] at this
end Go.Proofs.Ytdgcjkgbglofbaa

/- The walk of the laws' rows9: two lists of lists are equal. -/
namespace Go.Proofs.Ytdgcjkgbglofbaa
open Go.RowKit

set_option maxRecDepth 100000 in
set_option maxHeartbeats 2000000 in
theorem likeRows9 (A A' : Option Addr) (zss : List (List Int)) (n c c' : Nat) (w : World) (hn : Hid (zss.length = n)) (hn' : n ≤ 1000000000000) (hz : Hid (∀ zs ∈ zss, zs.length ≤ 1000000000000)) (h : Hid (Rows0 w A zss)) (h' : Hid (Rows0 w A' zss)) :
    Calls Try.prog 111 #[.slice A n c, .slice A' n c'] w fun e w' => e = .returned (.bool true) ∧ Below w.heap.size w w' := by
  have hne : ((n : Int) != (n : Int)) = false := by simp
  go_enter Try.func111, Try.ntmps111
  go_wp2
  go_loopw [5] (fun i wr => ∃ k : Nat, k ≤ n ∧ i = .int .i64 (k : Int) ∧ Hid (Below w.heap.size w wr)) (fun i _ => n - (intOf i).toNat)
  case atStart => exact ⟨0, Nat.zero_le _, rfl, b0 w⟩
  case round =>
    obtain ⟨k, hk, rfl, hb⟩ := hrel
    clear hne
    by_cases hlt : k < n
    · have hki : (k : Int) < (n : Int) := by omega
      have hk0 : (0 : Int) ≤ (k : Int) := by omega
      have hkz : k < zss.length := by rw [hn.out]; exact hlt
      have hat : zss[k]? = some zss[k] := List.getElem?_eq_getElem hkz
      have hzk := hz.out _ (List.mem_of_getElem? hat)
      generalize zss[k] = zs at hat hzk
      obtain ⟨b, rfl, hbl, hc⟩ := h.out (by omega)
      obtain ⟨b', rfl, hbl', hc'⟩ := h'.out (by omega)
      obtain ⟨A1, c1, h1, h2⟩ := hc k zs hat
      obtain ⟨A2, c2, h3, h4⟩ := hc' k zs hat
      have HC : Hid (∀ W', Hid (Below w.heap.size w W') → W'.cell? ⟨b, k, none⟩ = some (.slice A1 zs.length c1) ∧ W'.cell? ⟨b', k, none⟩ = some (.slice A2 zs.length c2)) := fun W' hW' => ⟨(hW'.out.cell (p := ⟨b, k, none⟩) hbl).trans h1, (hW'.out.cell (p := ⟨b', k, none⟩) hbl').trans h3⟩
      have HE : Hid (∀ W', Hid (Below w.heap.size w W') → Calls Try.prog 33 #[.slice A1 zs.length c1, .slice A2 zs.length c2] W' fun e w' => e = .returned (.bool true) ∧ Hid (Below w.heap.size w w')) := fun W' hW' =>
        (likeIntsT A1 A2 zs c1 c2 W' (by omega) (h2.be hW'.out) (h4.be hW'.out)).mono fun e w' ⟨he, hb'⟩ => ⟨he, btr hW'.out hb'⟩
      have K0 : Hid (Below w.heap.size w wr.drew) := hb.out.drew
      obtain ⟨d1, d2⟩ := HC.out _ K0
      obtain ⟨e1, e2⟩ := HC.out _ hb
      clear hat hc hc' h1 h2 h3 h4 hbl hbl' hkz
      go_wp2
      go_region_held3 (fun w' => w'.cell? ⟨b, k, none⟩ = some (.slice A1 zs.length c1) ∧ w'.cell? ⟨b', k, none⟩ = some (.slice A2 zs.length c2)) (first | exact ⟨d1, d2⟩ | exact HC.out _ (by assumption)) (first | (go_at_call 33; refine (HE.out _ K0).mono ?_; rintro e w7 ⟨rfl, hb7⟩))
      clear d1 d2 e1 e2 K0 HE HC hb
      go_wp2
      go_roundw
      case rel => exact ⟨k + 1, by omega, by go_num, hb7⟩
      case measure => simp [intOf]; omega
    · obtain rfl : k = n := by omega
      have hge : ¬ (k : Int) < (k : Int) := by omega
      go_wp2
      go_ret
      exact ⟨rfl, hb.out⟩

end Go.Proofs.Ytdgcjkgbglofbaa

/- The walk of the laws' big: is a code longer than 4096 bytes? -/
namespace Go.Proofs.Ytdgcjkgbglofbaa
open Go.RowKit

theorem big_yes (A : Option Addr) (n c : Nat) (w : World) (hn : 4096 < n) : Calls Try.prog 17 #[.slice A n c] w fun e w' => e = .returned (.bool true) ∧ w = w' := by
  have h : (4096 : Int) < (n : Int) := by omega
  go_enter Try.func17, Try.ntmps17
  go_wp2
  go_ret
  exact ⟨rfl, rfl⟩
theorem big_no (A : Option Addr) (n c : Nat) (w : World) (hn : ¬ 4096 < n) : Calls Try.prog 17 #[.slice A n c] w fun e w' => e = .returned (.bool false) ∧ w = w' := by
  have h : ¬ (4096 : Int) < (n : Int) := by omega
  go_enter Try.func17, Try.ntmps17
  go_wp2
  go_ret
  exact ⟨rfl, rfl⟩
end Go.Proofs.Ytdgcjkgbglofbaa

/- Growing orders as mathematics: lists of all nodes, each once; orders in which parents come first; labels. No conditions. -/
namespace Go.Proofs.Ytdgcjkgbglofbaa.M

/-- the numbers below n, each once -/
def isOrd (n : Nat) (l : List Int) : Bool := decide (l.length = n ∧ l.Nodup ∧ ∀ x ∈ l, 0 ≤ x ∧ x < (n : Int))
theorem isOrd_iff {n : Nat} {l : List Int} : isOrd n l = true ↔ l.length = n ∧ l.Nodup ∧ ∀ x ∈ l, 0 ≤ x ∧ x < (n : Int) := by simp [isOrd]
/-- what the first k ones are, if nothing was wrong -/
def OrdTo (n : Nat) (l : List Int) (k : Nat) : Prop := (l.take k).Nodup ∧ ∀ x ∈ l.take k, 0 ≤ x ∧ x < (n : Int)
theorem ordTo_zero (n : Nat) (l : List Int) : OrdTo n l 0 := by simp [OrdTo]
theorem take_add_one {l : List Int} {k : Nat} {x : Int} (hx : l[k]? = some x) : l.take (k + 1) = l.take k ++ [x] := by
  rw [List.take_add_one, hx]; rfl
theorem ordTo_step {n : Nat} {l : List Int} {k : Nat} {x : Int} (h : OrdTo n l k) (hx : l[k]? = some x) (h0 : 0 ≤ x) (h1 : x < (n : Int)) (hm : x ∉ l.take k) : OrdTo n l (k + 1) := by
  obtain ⟨a, b⟩ := h
  rw [OrdTo, take_add_one hx]
  refine ⟨List.nodup_append.2 ⟨a, by simp, ?_⟩, ?_⟩
  · intro y hy z hz
    simp only [List.mem_singleton] at hz
    subst hz
    exact fun e => hm (e ▸ hy)
  · intro y hy
    rcases List.mem_append.1 hy with h | h
    · exact b y h
    · simp only [List.mem_singleton] at h
      subst h
      exact ⟨h0, h1⟩
theorem isOrd_end {n : Nat} {l : List Int} (h : OrdTo n l l.length) : isOrd n l = decide (l.length = n) := by
  rw [OrdTo, List.take_length] at h
  by_cases e : l.length = n
  · rw [decide_eq_true e]; exact isOrd_iff.2 ⟨e, h⟩
  · rw [decide_eq_false e]; exact Bool.eq_false_iff.2 fun h' => e (isOrd_iff.1 h').1
theorem isOrd_out {n : Nat} {l : List Int} {k : Nat} {x : Int} (hx : l[k]? = some x) (h : ¬ (0 ≤ x ∧ x < (n : Int))) : isOrd n l = false :=
  Bool.eq_false_iff.2 fun h' => h ((isOrd_iff.1 h').2.2 x (List.mem_of_getElem? hx))
theorem isOrd_twice {n : Nat} {l : List Int} {k : Nat} {x : Int} (hx : l[k]? = some x) (h : x ∈ l.take k) : isOrd n l = false :=
  Bool.eq_false_iff.2 fun h' => by
    have hn := (isOrd_iff.1 h').2.1
    have e : l = l.take k ++ l.drop k := (List.take_append_drop k l).symm
    rw [e] at hn
    have hk : k < l.length := (List.getElem?_eq_some_iff.1 hx).1
    refine (List.nodup_append.1 hn).2.2 x h x ?_ rfl
    exact List.mem_of_getElem? (i := 0) (by rw [List.getElem?_drop]; simpa using hx)
theorem isOrd_len {n : Nat} {l : List Int} (h : l.length ≠ n) : isOrd n l = false := Bool.eq_false_iff.2 fun h' => h (isOrd_iff.1 h').1

/-- the numbers from 0 on -/
def iota (n : Nat) : List Int := (List.range n).map fun v : Nat => (v : Int)
theorem iota_len (n : Nat) : (iota n).length = n := by simp [iota]
theorem iota_at {n i : Nat} (h : i < n) : (iota n)[i]? = some (i : Int) := by simp [iota, h]
theorem mem_iota {n : Nat} {x : Int} : x ∈ iota n ↔ 0 ≤ x ∧ x < (n : Int) := by
  simp only [iota, List.mem_map, List.mem_range]
  constructor
  · rintro ⟨a, h, rfl⟩; omega
  · rintro ⟨h0, h1⟩; exact ⟨x.toNat, by omega, by omega⟩
theorem iota_nodup (n : Nat) : (iota n).Nodup := by
  refine List.pairwise_map.2 ?_
  refine (List.nodup_range (n := n)).imp ?_
  intro a b h e
  exact h (by omega)
/-- an ascending list of n different numbers below n is the list of all of them -/
theorem asc_low : ∀ (l : List Int) (a : Int), l.Pairwise (· < ·) → (∀ x ∈ l, a ≤ x) → ∀ (i : Nat) x, l[i]? = some x → a + (i : Int) ≤ x := by
  intro l
  induction l with
  | nil => intro a _ _ i x h; simp at h
  | cons y r ih =>
    intro a hp ha i x hx
    obtain ⟨h1, h2⟩ := List.pairwise_cons.1 hp
    cases i with
    | zero =>
      simp only [List.getElem?_cons_zero] at hx
      injection hx with hx
      subst hx
      have := ha y (by simp)
      omega
    | succ i =>
      simp only [List.getElem?_cons_succ] at hx
      have := ih (a + 1) h2 (fun z hz => by have := h1 z hz; have := ha y (by simp); omega) i x hx
      omega
theorem asc_up : ∀ (l : List Int) (b : Int), l.Pairwise (· < ·) → (∀ x ∈ l, x < b) → ∀ (i : Nat) x, l[i]? = some x → x + (l.length : Int) ≤ b + (i : Int) := by
  intro l
  induction l with
  | nil => intro a _ _ i x h; simp at h
  | cons y r ih =>
    intro b hp hb i x hx
    obtain ⟨h1, h2⟩ := List.pairwise_cons.1 hp
    have hy := hb y (by simp)
    cases i with
    | zero =>
      simp only [List.getElem?_cons_zero] at hx
      injection hx with hx
      subst hx
      cases hr : r with
      | nil => simp; omega
      | cons z r' =>
        have h3 := ih b h2 (fun z hz => hb z (by simp [hz])) 0 z (by rw [hr]; rfl)
        have h4 := h1 z (by rw [hr]; simp)
        rw [hr] at h3
        simp only [List.length_cons] at h3 ⊢
        omega
    | succ i =>
      simp only [List.getElem?_cons_succ] at hx
      have := ih b h2 (fun z hz => hb z (by simp [hz])) i x hx
      simp only [List.length_cons]
      omega
theorem asc_iota {l : List Int} {n : Nat} (hl : l.length = n) (hp : l.Pairwise (· < ·)) (hr : ∀ x ∈ l, 0 ≤ x ∧ x < (n : Int)) : l = iota n := by
  refine List.ext_getElem? fun i => ?_
  rcases Nat.lt_or_ge i n with hi | hi
  · have hx : l[i]? = some l[i] := List.getElem?_eq_getElem (by omega)
    have h1 := asc_low l 0 hp (fun x hx => (hr x hx).1) i _ hx
    have h2 := asc_up l n hp (fun x hx => (hr x hx).2) i _ hx
    rw [iota_at hi, hx]
    congr 1
    omega
  · rw [List.getElem?_eq_none (by omega), List.getElem?_eq_none (by rw [iota_len]; omega)]
/-- the list in ascending order -/
def sorted (l : List Int) : List Int := l.mergeSort (fun x y => decide (x ≤ y))
theorem sorted_len (l : List Int) : (sorted l).length = l.length := List.length_mergeSort _
theorem sorted_perm (l : List Int) : (sorted l).Perm l := List.mergeSort_perm _ _
theorem sorted_iff {n : Nat} {l : List Int} (hl : l.length = n) : sorted l = iota n ↔ isOrd n l = true := by
  have hp := sorted_perm l
  constructor
  · intro h
    rw [h] at hp
    refine isOrd_iff.2 ⟨hl, hp.nodup (iota_nodup n), fun x hx => mem_iota.1 (hp.mem_iff.2 hx)⟩
  · intro h
    obtain ⟨_, h1, h2⟩ := isOrd_iff.1 h
    have hs : (sorted l).Pairwise (fun a b => decide (a ≤ b) = true) := List.pairwise_mergeSort (le := fun x y => decide (x ≤ y)) (fun a b c h1 h2 => by simp at *; omega) (fun a b => by simp; omega) l
    have hn : (sorted l).Nodup := hp.symm.nodup h1
    refine asc_iota (by rw [sorted_len, hl]) ?_ fun x hx => h2 x (hp.mem_iff.1 hx)
    have := hs.and hn
    exact this.imp fun {a b} h => by have h3 := of_decide_eq_true h.1; have h4 := h.2; omega

/-- the parent of a node, as the row of parents tells it -/
def parOf (ps : List Int) (v : Int) : Int := ps[v.toNat]?.getD (-1)
/-- each of the first k nodes comes behind its parent -/
def GrowTo (ps l : List Int) (k : Nat) : Prop := ∀ (i : Nat) x, i < k → l[i]? = some x → parOf ps x < 0 ∨ parOf ps x ∈ l.take i
open Classical in
noncomputable def grows (ps l : List Int) : Bool := decide (GrowTo ps l l.length)
theorem grows_iff {ps l : List Int} : grows ps l = true ↔ GrowTo ps l l.length := by simp [grows]
theorem growTo_zero (ps l : List Int) : GrowTo ps l 0 := fun i x h => by omega
theorem growTo_step {ps l : List Int} {k : Nat} {x : Int} (h : GrowTo ps l k) (hx : l[k]? = some x) (hm : parOf ps x < 0 ∨ parOf ps x ∈ l.take k) : GrowTo ps l (k + 1) := fun i y hi hy => by
  rcases Nat.lt_or_ge i k with h1 | h1
  · exact h i y h1 hy
  · obtain rfl : i = k := by omega
    rw [hx] at hy
    injection hy with hy
    subst hy
    exact hm
theorem grows_not {ps l : List Int} {k : Nat} {x : Int} (hx : l[k]? = some x) (h0 : 0 ≤ parOf ps x) (hm : parOf ps x ∉ l.take k) : grows ps l = false :=
  Bool.eq_false_iff.2 fun h => by
    rcases grows_iff.1 h k x (List.getElem?_eq_some_iff.1 hx).1 hx with h1 | h1
    · omega
    · exact hm h1

/-- the labels that the first k places give; 0 where there is none -/
def labTo (n : Nat) (l : List Int) (k : Nat) : List Int := (List.range n).map fun v : Nat => if (v : Int) ∈ l.take k then (l.idxOf (v : Int) : Int) else 0
theorem labTo_len (n : Nat) (l : List Int) (k : Nat) : (labTo n l k).length = n := by simp [labTo]
theorem labTo_zero (n : Nat) (l : List Int) : labTo n l 0 = List.replicate n 0 := by simp [labTo, List.map_const']
theorem idxOf_at {l : List Int} (hn : l.Nodup) {k : Nat} {x : Int} (hx : l[k]? = some x) : l.idxOf x = k := by
  obtain ⟨h1, h2⟩ := List.getElem?_eq_some_iff.1 hx
  have hm : x ∈ l := List.mem_of_getElem? hx
  have h3 : l.idxOf x < l.length := List.idxOf_lt_length_of_mem hm
  have h4 : l[l.idxOf x] = x := List.getElem_idxOf h3
  exact (List.getElem_inj (h₀ := h3) (h₁ := h1) hn).1 (by rw [h4, h2])
theorem labTo_step {n : Nat} {l : List Int} (h : isOrd n l = true) {k v : Nat} (hx : l[k]? = some (v : Int)) : (labTo n l k).set v (k : Int) = labTo n l (k + 1) := by
  obtain ⟨hl, hn, hr⟩ := isOrd_iff.1 h
  have hv := (hr _ (List.mem_of_getElem? hx)).2
  refine List.ext_getElem? fun i => ?_
  rcases Nat.lt_or_ge i n with hi | hi
  · rw [List.getElem?_set]
    simp only [labTo, List.length_map, List.length_range, List.getElem?_map, List.getElem?_range hi, Option.map_some]
    rw [take_add_one hx]
    by_cases hvi : v = i
    · subst hvi
      rw [if_pos rfl, if_pos hi, if_pos (by simp), idxOf_at hn hx]
    · rw [if_neg hvi]
      congr 1
      have : (i : Int) ≠ (v : Int) := by omega
      simp [this]
  · rw [List.getElem?_eq_none (by simp [labTo]; omega), List.getElem?_eq_none (by rw [labTo_len]; omega)]
def labs (n : Nat) (l : List Int) : List Int := labTo n l l.length
/-- a list of all numbers below n has each of them -/
theorem ord_has {n : Nat} {l : List Int} (h : isOrd n l = true) {v : Nat} (hv : v < n) : (v : Int) ∈ l := by
  have := (sorted_iff (isOrd_iff.1 h).1).2 h
  have hm : (v : Int) ∈ sorted l := by rw [this]; exact mem_iota.2 (by omega)
  exact (sorted_perm l).mem_iff.1 hm
theorem labs_at {n : Nat} {l : List Int} (h : isOrd n l = true) {v : Nat} (hv : v < n) : (labs n l)[v]? = some (l.idxOf (v : Int) : Int) := by
  have hm := ord_has h hv
  simp [labs, labTo, hv, hm]
/-- parents and labels: the order grows if no label of a node is less than its parent's -/
def LabOK (n : Nat) (ps l : List Int) (k : Nat) : Prop := ∀ v, 1 ≤ v → v < k → v < n → l.idxOf (parOf ps (v : Int)) ≤ l.idxOf (v : Int)
theorem idxOf_le {x : Int} : ∀ {l : List Int} {i : Nat}, l[i]? = some x → l.idxOf x ≤ i := by
  intro l
  induction l with
  | nil => intro i h; simp at h
  | cons y r ih =>
    intro i h
    rw [List.idxOf_cons]
    cases i with
    | zero =>
      simp only [List.getElem?_cons_zero] at h
      injection h with h
      subst h
      simp
    | succ i =>
      simp only [List.getElem?_cons_succ] at h
      have := ih h
      cases hb : y == x
      · simp; omega
      · simp
theorem mem_take_idx {l : List Int} {x : Int} {k : Nat} (hx : x ∈ l) : x ∈ l.take k ↔ l.idxOf x < k := by
  have h3 : l.idxOf x < l.length := List.idxOf_lt_length_of_mem hx
  have h4 : l[l.idxOf x]? = some x := by rw [List.getElem?_eq_getElem h3, List.getElem_idxOf h3]
  constructor
  · intro h
    rcases Nat.lt_or_ge (l.idxOf x) k with h5 | h5
    · exact h5
    · exfalso
      obtain ⟨i, hi⟩ := List.mem_iff_getElem?.1 h
      have hik : i < k := by
        have := (List.getElem?_eq_some_iff.1 hi).1
        rw [List.length_take] at this
        omega
      rw [List.getElem?_take_of_lt hik] at hi
      have := idxOf_le hi
      omega
  · intro h
    exact List.mem_of_getElem? (by rw [List.getElem?_take_of_lt h]; exact h4)
theorem grows_lab {n : Nat} {ps l : List Int} (h : isOrd n l = true) (hr : ∀ v : Nat, 1 ≤ v → v < n → 0 ≤ parOf ps (v : Int) ∧ parOf ps (v : Int) < (v : Int)) (h0 : parOf ps 0 < 0) : grows ps l = true ↔ LabOK n ps l n := by
  obtain ⟨hl, hn, hm⟩ := isOrd_iff.1 h
  rw [grows_iff]
  constructor
  · intro hg v hv _ hvn
    have hmv := ord_has h hvn
    have h3 : l.idxOf (v : Int) < l.length := List.idxOf_lt_length_of_mem hmv
    have h4 : l[l.idxOf (v : Int)]? = some (v : Int) := by rw [List.getElem?_eq_getElem h3, List.getElem_idxOf h3]
    obtain ⟨a, b⟩ := hr v hv hvn
    have hmp : parOf ps (v : Int) ∈ l := by
      have := ord_has h (v := (parOf ps (v : Int)).toNat) (by omega)
      rwa [Int.toNat_of_nonneg a] at this
    rcases hg _ _ h3 h4 with h5 | h5
    · omega
    · exact Nat.le_of_lt ((mem_take_idx hmp).1 h5)
  · intro hL i x hi hx
    obtain ⟨a, b⟩ := hm x (List.mem_of_getElem? hx)
    obtain ⟨v, rfl⟩ := Int.eq_ofNat_of_zero_le a
    rcases Nat.eq_zero_or_pos v with e | e
    · subst e; exact .inl h0
    · obtain ⟨c, d⟩ := hr v e (by omega)
      have hmp : parOf ps (v : Int) ∈ l := by
        have := ord_has h (v := (parOf ps (v : Int)).toNat) (by omega)
        rwa [Int.toNat_of_nonneg c] at this
      refine .inr ((mem_take_idx hmp).2 ?_)
      have h6 := hL v e (by omega) (by omega)
      have h7 := idxOf_at hn hx
      rcases Nat.lt_or_ge (l.idxOf (parOf ps (v : Int))) i with h8 | h8
      · exact h8
      · exfalso
        have h9 : l.idxOf (parOf ps (v : Int)) = i := by omega
        have h10 : l[i]? = some (parOf ps (v : Int)) := by rw [← h9, List.getElem?_eq_getElem (List.idxOf_lt_length_of_mem hmp), List.getElem_idxOf]
        rw [hx] at h10
        injection h10 with h10
        omega
end Go.Proofs.Ytdgcjkgbglofbaa.M

/- treeCode, labelsIn, nodesOf: the code of a tree, the labels of a list of nodes, all nodes in their order. -/
namespace Go.Proofs.Ytdgcjkgbglofbaa
open Go.RowKit

namespace M
/-- the first k ones are their own numbers -/
def nodTo (n k : Nat) : List Int := (List.range n).map fun v : Nat => if v < k then (v : Int) else 0
theorem nodTo_len (n k : Nat) : (nodTo n k).length = n := by simp [nodTo]
theorem nodTo_zero (n : Nat) : nodTo n 0 = List.replicate n 0 := by simp [nodTo, List.map_const']
theorem nodTo_done (n : Nat) : nodTo n n = iota n := by
  simp only [nodTo, iota]
  exact List.map_congr_left fun v hv => if_pos (List.mem_range.1 hv)
theorem nodTo_step {n k : Nat} (h : k < n) : (nodTo n k).set k (k : Int) = nodTo n (k + 1) := by
  refine List.ext_getElem? fun i => ?_
  rcases Nat.lt_or_ge i n with hi | hi
  · rw [List.getElem?_set]
    simp only [nodTo, List.length_map, List.length_range, List.getElem?_map, List.getElem?_range hi, Option.map_some]
    by_cases e : k = i
    · subst e; rw [if_pos rfl, if_pos h, if_pos (by omega)]
    · rw [if_neg e]
      congr 1
      by_cases h2 : i < k
      · rw [if_pos h2, if_pos (by omega)]
      · rw [if_neg h2, if_neg (by omega)]
  · rw [List.getElem?_eq_none (by simp [nodTo]; omega), List.getElem?_eq_none (by rw [nodTo_len]; omega)]
end M

set_option maxHeartbeats 1000000 in
theorem treeCode (A A2 : Option Addr) (xs : List Int) (c n2 c2 : Nat) (w : World) (hx : xs.length ≤ 1000000000000) (h : Ints w w.heap.size A xs) (r : Int) (hr : Hid ((if M.isTree xs then 0 else 1) = r)) :
    Calls Try.prog 321 #[.agg #[.slice A xs.length c, .slice A2 n2 c2]] w fun e w' => e = .returned (.int .i64 r) ∧ Below w.heap.size w w' := by
  have HC := Lib.hid (codeOf0 A xs c (w.alloc (.cells #[.slice A xs.length c, .slice A2 n2 c2] 206)) hx (h.al _) r hr)
  go_enter Try.func321, Try.ntmps321
  go_wp2_with fail
  refine HC.out.mono ?_
  rintro e w1 ⟨rfl, hb⟩
  have hB := btr (bal (b0 w) _) hb
  go_wp2
  go_ret
  exact ⟨rfl, hB⟩

set_option maxHeartbeats 2000000 in
set_option maxRecDepth 100000 in
theorem labelsIn (A : Option Addr) (l : List Int) (n c : Nat) (w : World) (hn : n ≤ 24) (ho : Hid (M.isOrd n l = true)) (hl : Hid (l.length = n)) (h : Ints w w.heap.size A l) :
    Calls Try.prog 267 #[.slice A n c] w fun e w' => e = .returned (.slice (some ⟨w.heap.size, 0, none⟩) n n) ∧ Own64 w' w.heap.size (.slice (some ⟨w.heap.size, 0, none⟩) n n) (M.labs n l) ∧ Below w.heap.size w w' := by
  have hmk := run_make_row' (P := Try.prog) 24 2 (.int .i64 0) 8 Try.underlying24 info64 rfl .i64 .i64 n (by omega) (by omega)
  have Hstart := Lib.hid (own64_made (w := w) (B := w.heap.size) (n := n) (Nat.le_refl _) (by unfold maxLen; omega))
  rw [← M.labTo_zero n l] at Hstart
  have h1 := Lib.hid h
  have hB0 := Lib.hid (bal (b0 w) (.cells (madeCells #[.int .i64 0] n) 2))
  clear h
  go_enter Try.func267, Try.ntmps267
  go_wp2
  clear hmk
  go_loopw [4, 5, 11] (fun _ _ i wr => ∃ (k : Nat), k ≤ n ∧ i = .int .i64 (k : Int) ∧ Hid (Own64 wr w.heap.size (.slice (some ⟨w.heap.size, 0, none⟩) n n) (M.labTo n l k)) ∧ Hid (Below w.heap.size w wr)) (fun _ _ i _ => n - (intOf i).toNat)
  case atStart => exact ⟨0, Nat.zero_le _, rfl, Hstart, hB0⟩
  case round =>
    obtain ⟨k, hk, rfl, ho1, hb⟩ := hrel
    clear Hstart
    by_cases hlt : k < n
    · obtain ⟨b, off, x, rfl, hbB, g1, hX⟩ := (h1.out.be hb.out).at_ (k := k) (by rw [hl.out]; exact hlt)
      have hr := (M.isOrd_iff.1 ho.out).2.2 x (List.mem_of_getElem? hX.out)
      obtain ⟨v, rfl⟩ := Int.eq_ofNat_of_zero_le hr.1
      have hv : v < n := by omega
      have hv0 : (0 : Int) ≤ (v : Int) := by omega
      have hv1 : (v : Int) < (n : Int) := hr.2
      have hs := Lib.hid (M.labTo_step ho.out hX.out)
      have hset := Lib.hid (own64_set ho1.out (M.labTo_len n l k) v (k : Int))
      rw [hs.out] at hset
      obtain ⟨y, hy⟩ : ∃ y, (M.labTo n l k)[v]? = some y := ⟨_, List.getElem?_eq_getElem (by rw [M.labTo_len]; exact hv)⟩
      obtain ⟨c3, f3, _, hw3⟩ := own64_cell ho1.out (M.labTo_len n l k) hy
      have hb2 := Lib.hid (below_setCell hb.out (Nat.le_refl _) (k := v) (.int .i64 (k : Int)))
      clear hX hs hr hy
      go_wp2
      go_roundw
      case rel => exact ⟨k + 1, by omega, by go_num, hset, hb2⟩
      case measure => simp [intOf]; omega
    · obtain rfl : k = n := by omega
      have hge : ¬ (k : Int) < (k : Int) := by omega
      have hR : Hid (M.labTo k l k = M.labs k l) := by show _ = _; rw [M.labs, hl.out]
      rw [hR.out] at ho1
      go_wp2
      go_ret
      exact ⟨rfl, ho1.out, hb.out⟩

set_option maxHeartbeats 2000000 in
set_option maxRecDepth 100000 in
theorem nodesOf (A : Option Addr) (n c : Nat) (w : World) (hn : n ≤ 24) :
    Calls Try.prog 354 #[.agg #[.slice A n c]] w fun e w' => ∃ A', e = .returned (.slice A' n n) ∧ Own64 w' w.heap.size (.slice A' n n) (M.iota n) ∧ Below w.heap.size w w' := by
  have hmk := run_make_row' (P := Try.prog) 24 2 (.int .i64 0) 8 Try.underlying24 info64 rfl .i64 .i64 n (by omega) (by omega)
  have Hstart := Lib.hid (own64_made (w := w.alloc (.cells #[.slice A n c] 26)) (B := w.heap.size) (n := n) (by simp) (by unfold maxLen; omega))
  rw [show List.replicate n (0 : Int) = M.nodTo n 0 from (M.nodTo_zero n).symm] at Hstart
  have hB0 := Lib.hid (bal (bal (b0 w) (.cells #[.slice A n c] 26)) (.cells (madeCells #[.int .i64 0] n) 2))
  obtain ⟨g, hg⟩ : ∃ g, g = w.heap.size + 1 := ⟨_, rfl⟩
  simp only [World.size_alloc] at Hstart
  go_enter Try.func354, Try.ntmps354
  go_wp2
  clear hmk
  go_loopw [4, 11] (fun _ i wr => ∃ (k : Nat), k ≤ n ∧ i = .int .i64 (k : Int) ∧ Hid (Own64 wr w.heap.size (.slice (some ⟨w.heap.size + 1, 0, none⟩) n n) (M.nodTo n k)) ∧ Hid (Below w.heap.size w wr)) (fun _ i _ => n - (intOf i).toNat)
  case atStart => exact ⟨0, Nat.zero_le _, rfl, Hstart, hB0⟩
  case round =>
    obtain ⟨k, hk, rfl, ho1, hb⟩ := hrel
    clear Hstart
    by_cases hlt : k < n
    · have hs := Lib.hid (M.nodTo_step hlt)
      have hset := Lib.hid (own64_set ho1.out (M.nodTo_len n k) k (k : Int))
      rw [hs.out] at hset
      obtain ⟨y, hy⟩ : ∃ y, (M.nodTo n k)[k]? = some y := ⟨_, List.getElem?_eq_getElem (by rw [M.nodTo_len]; exact hlt)⟩
      obtain ⟨c3, f3, _, hw3⟩ := own64_cell ho1.out (M.nodTo_len n k) hy
      have hb2 := Lib.hid (below_setCell hb.out (Nat.le_succ _) (k := k) (.int .i64 (k : Int)))
      have hki : (k : Int) < (n : Int) := by omega
      have hk0 : (0 : Int) ≤ (k : Int) := by omega
      clear hs hy
      go_wp2
      go_roundw
      case rel => exact ⟨k + 1, by omega, by go_num, hset, hb2⟩
      case measure => simp [intOf]; omega
    · obtain rfl : k = n := by omega
      have hge : ¬ (k : Int) < (k : Int) := by omega
      have hR := Lib.hid (M.nodTo_done k)
      rw [hR.out] at ho1
      go_wp2
      go_ret
      exact ⟨_, rfl, ho1.out, hb.out⟩

end Go.Proofs.Ytdgcjkgbglofbaa

/- Rows of bools: which nodes are there; what one operation of a drawn region held by a fact does. -/
namespace Go.Proofs.Ytdgcjkgbglofbaa
open Go.RowKit

/-- the slice value v owns a row of bools -/
abbrev OwnB (w : World) (B : Nat) (v : Value) (U : List Bool) : Prop := w.ownsRow B 4 1 v U.length (U.map Value.bool)
theorem infoB : (Try.prog.info? 4).map (fun i => (i.zero, i.size, i.bytes)) = some (some (.bool false), 1, 1) := by kernel_rfl
theorem ownB_set {w : World} {B g n c : Nat} {U : List Bool} (h : OwnB w B (.slice (some ⟨g, 0, none⟩) n c) U) (hn : U.length = n) (k : Nat) (x : Bool) :
    OwnB (w.setCell ⟨g, k, none⟩ (.bool x)) B (.slice (some ⟨g, 0, none⟩) n c) (U.set k x) := by
  subst hn
  have := (World.ownsRow.stored h k (.bool x)).1
  simpa [OwnB, List.map_set] using this
theorem ownB_cell {w : World} {B g n c : Nat} {U : List Bool} (h : OwnB w B (.slice (some ⟨g, 0, none⟩) n c) U) (hn : U.length = n) {k : Nat} {x : Bool} (hx : U[k]? = some x) :
    w.cell? ⟨g, k, none⟩ = some (.bool x) ∧ w.frozen? ⟨g, k, none⟩ = false ∧ B ≤ g ∧ g < w.heap.size := by
  subst hn
  have hk : k < U.length := (List.getElem?_eq_some_iff.1 hx).1
  have hl := World.ownsRow.lt h g rfl
  exact ⟨(World.ownsRow.cellAt h k (by omega)).trans (by simp [hx]), World.ownsRow.frozenAt h k, hl.1, hl.2⟩
theorem ownB_made {w : World} {B n : Nat} (hB : B ≤ w.heap.size) (hn : n ≤ maxLen) :
    OwnB (w.alloc (.cells (madeCells #[.bool false] n) 4)) B (.slice (some ⟨w.heap.size, 0, none⟩) n n) (List.replicate n false) := by
  have h := World.ownsRow_lit (e := 4) (size := 1) w (madeCells #[.bool false] n) n hB hn (by simp [size_madeCells])
  rw [toList_madeCells_one] at h
  simpa [OwnB] using h

namespace M
/-- which nodes are among the first k ones -/
def metRow (n : Nat) (l : List Int) (k : Nat) : List Bool := (List.range n).map fun v : Nat => decide ((v : Int) ∈ l.take k)
theorem metRow_len (n : Nat) (l : List Int) (k : Nat) : (metRow n l k).length = n := by simp [metRow]
theorem metRow_zero (n : Nat) (l : List Int) : metRow n l 0 = List.replicate n false := by simp [metRow, List.map_const']
theorem metRow_at {n : Nat} {l : List Int} {k v : Nat} (h : v < n) : (metRow n l k)[v]? = some (decide ((v : Int) ∈ l.take k)) := by simp [metRow, h]
theorem metRow_step {n : Nat} {l : List Int} {k v : Nat} (hx : l[k]? = some (v : Int)) : (metRow n l k).set v true = metRow n l (k + 1) := by
  refine List.ext_getElem? fun i => ?_
  rcases Nat.lt_or_ge i n with hi | hi
  · rw [List.getElem?_set, metRow_len, metRow_at hi, metRow_at hi, take_add_one hx]
    by_cases e : v = i
    · subst e
      rw [if_pos rfl, if_pos hi]
      simp
    · rw [if_neg e]
      have : (i : Int) ≠ (v : Int) := by omega
      simp [this]
  · rw [List.getElem?_eq_none (by simp [metRow]; omega), List.getElem?_eq_none (by rw [metRow_len]; omega)]
end M

theorem anyTake {P : Program} {ops : Array Oper} {Q : Exit → Act → World → Prop} {md : Region.Mode} {S : World → Prop} {oi : Oper} {fuel : Nat} {listed : Array Bool} {a : Act} {w : World} (i : Nat) (d : Option Tmp) (v : Value) (hi : ops[i]? = some oi) (hd : oi.dst = d)
    (hs : Region.noSelect ops = true) (hf : Region.free md ops listed i = true) (hr : (Region.ready md ops listed).contains i = true)
    (hQ : ∀ c a w, Q (.panic c) (a.put d v) w → Q (.panic c) a w) (hw : Region.wanted oi (yielded ops a.tmps) = true) (hy : ∀ w, S w → (execOp a.eval oi).run P w = .ok (.value v) w) (hS : S w)
    (h : wpAnyH P md ops Q S fuel (listed.setIfInBounds i true) (a.put d v) w) : wpAnyH P md ops Q S (fuel + 1) listed a w := by
  subst hd; exact wpAnyH_take hi hs hf hr hQ (.inl ⟨hw, hy⟩) hS h

theorem anySkip {P : Program} {ops : Array Oper} {Q : Exit → Act → World → Prop} {md : Region.Mode} {S : World → Prop} {oi : Oper} {fuel : Nat} {listed : Array Bool} {a : Act} {w : World} (i : Nat) (d : Option Tmp) (hi : ops[i]? = some oi) (hd : oi.dst = d)
    (hs : Region.noSelect ops = true) (hf : Region.free md ops listed i = true) (hr : (Region.ready md ops listed).contains i = true)
    (hQ : ∀ c a w, Q (.panic c) (a.put d undef) w → Q (.panic c) a w) (hw : Region.wanted oi (yielded ops a.tmps) = false) (hS : S w)
    (h : wpAnyH P md ops Q S fuel (listed.setIfInBounds i true) (a.put d undef) w) : wpAnyH P md ops Q S (fuel + 1) listed a w := by
  subst hd; exact wpAnyH_take hi hs hf hr hQ (.inr ⟨hw, rfl⟩) hS h
end Go.Proofs.Ytdgcjkgbglofbaa

/- The walk of the law FnHeavyPaths: it returns true at every code, and writes into nothing that was there. Written by genlawhp.py. -/
namespace Go.Proofs.Ytdgcjkgbglofbaa
open Go.RowKit

set_option maxHeartbeats 16000000 in
set_option maxRecDepth 100000 in
theorem lawFnHeavyPaths (A : Option Addr) (xs : List Int) (c : Nat) (w : World) (hxc : xs.length ≤ c) (hc : c ≤ 9223372036854775807) (hx : ∀ x ∈ xs, 0 ≤ x ∧ x ≤ 255) (h : Byts w w.heap.size A xs) :
    Calls Try.prog 7 #[.slice A xs.length c] w fun e w' => e = .returned (.bool true) ∧ Below w.heap.size w w' := by
  by_cases hbig : 4096 < xs.length
  · go_enter Try.func7, Try.ntmps7
    go_wp2_with fail
    refine (big_yes A xs.length c w hbig).mono ?_
    rintro e w1 ⟨rfl, rfl⟩
    go_wp2
    go_ret
    exact ⟨rfl, b0 w⟩
  · have hxB := Lib.hid hx
    have hBY := Lib.hid h
    clear hx h
    go_enter Try.func7, Try.ntmps7
    go_wp2_with fail
    refine (big_no A xs.length c w hbig).mono ?_
    rintro e w1 ⟨rfl, rfl⟩
    go_wp2_with fail
    refine (drawHeavyPaths A xs c w hxc hc hxB hBY).mono ?_
    rintro e w1 ⟨m1, T1, ct1, ts, rfl, hm1, hl1, o1, B⟩
    obtain rfl := hl1.out
    have hcap1 := own_cap o1.out
    have hle1 : ts.length ≤ 1048576 := by omega
    obtain ⟨bt, hbt⟩ : ∃ bt, Hid (w1.heap.size = bt) := ⟨_, rfl⟩
    have cT : (w1.alloc (.cells #[.slice T1 ts.length ct1] 26)).cell? ⟨bt, 0, none⟩ = some (.slice T1 ts.length ct1) := by rw [← hbt.out]; simp
    have O1 := Lib.hid (o1.out.alloc (.cells #[.slice T1 ts.length ct1] 26))
    replace B := Lib.hid (bal B.out (.cells #[.slice T1 ts.length ct1] 26))
    clear o1
    obtain ⟨P, p1, hF1⟩ : ∃ P p1, Hid (F_HeavyPaths ts = (P, p1)) := ⟨_, _, rfl⟩
    obtain ⟨Hv, p2, hF2⟩ : ∃ P p1, Hid (F_HeavyChildren ts = (P, p1)) := ⟨_, _, rfl⟩
    have HI1 := Lib.hid (fun w' h' => impl_HeavyPaths T1 ts ct1 w' hle1 hcap1 h')
    have HS1 := Lib.hid (fun w' h' => spec_HeavyPaths T1 ts ct1 w' hle1 hcap1 h')
    have HI2 := Lib.hid (fun w' h' => impl_HeavyChildren T1 ts ct1 w' hle1 hcap1 h')
    have HS2 := Lib.hid (fun w' h' => spec_HeavyChildren T1 ts ct1 w' hle1 hcap1 h')
    rw [hF1.out] at HI1 HS1
    rw [hF2.out] at HI2 HS2
    simp only at HI1 HS1 HI2 HS2
    have hPl := F_HeavyPaths_len ts
    rw [hF1.out] at hPl
    have hP5 : Hid (∀ zs ∈ P, zs.length ≤ 1000000000000) := fun zs hz => Nat.le_trans (hPl.2 zs hz) (by omega)
    have hPn : P.length ≤ 8192 := hPl.1
    have hHl := F_HeavyChildren_len ts
    rw [hF2.out] at hHl
    simp only at hHl
    have hnp1 : (p1 != p1) = false := by simp
    have hnp2 : (p2 != p2) = false := by simp
    clear hPl
    go_wp2_with fail
    rw [hbt.out]
    refine (HI1.out _ (ints_of_own64 O1.out)).mono ?_
    rintro e w2 ⟨A1, c1, hs1, rfl, rp, hb⟩
    replace B := Lib.hid (btr B.out hb)
    replace cT := cell_be cT hb
    replace O1 := Lib.hid (own_be O1.out hb)
    have RP := Lib.hid rp
    clear rp hb HI1
    go_wp2_with fail
    refine (HS1.out _ (ints_of_own64 O1.out)).mono ?_
    rintro e w3 ⟨A2, c2, hs2, rfl, rp2, hb⟩
    replace B := Lib.hid (btr B.out hb)
    replace cT := cell_be cT hb
    replace O1 := Lib.hid (own_be O1.out hb)
    replace RP := Lib.hid (RP.out.be hb)
    have RP2 := Lib.hid rp2
    clear rp2 hb HS1
    go_wp2_with fail
    refine (likeRows9 A1 A2 P P.length c1 c2 _ rfl (by omega) hP5 RP.out.rows0 RP2.out.rows0).mono ?_
    rintro e w4 ⟨rfl, hb⟩
    replace B := Lib.hid (btr B.out hb)
    replace cT := cell_be cT hb
    replace O1 := Lib.hid (own_be O1.out hb)
    replace RP := Lib.hid (RP.out.be hb)
    clear hb RP2 hP5
    go_wp2_with fail
    refine (HI2.out _ (ints_of_own64 O1.out)).mono ?_
    rintro e w5 ⟨A3, c3, rfl, oh, hb⟩
    replace B := Lib.hid (btr B.out hb)
    replace cT := cell_be cT hb
    replace O1 := Lib.hid (own_be O1.out hb)
    replace RP := Lib.hid (RP.out.be hb)
    have OH := Lib.hid oh
    clear oh hb HI2
    go_wp2_with fail
    refine (HS2.out _ (ints_of_own64 O1.out)).mono ?_
    rintro e w6 ⟨A4, c4, rfl, oh2, hb⟩
    replace B := Lib.hid (btr B.out hb)
    replace cT := cell_be cT hb
    replace O1 := Lib.hid (own_be O1.out hb)
    replace RP := Lib.hid (RP.out.be hb)
    replace OH := Lib.hid (own_be OH.out hb)
    clear hb HS2
    go_wp2_with fail
    refine (likeIntsT A3 A4 Hv c3 c4 _ (by omega) (ints_of_own64 OH.out) (ints_of_own64 oh2)).mono ?_
    rintro e w7 ⟨rfl, hb⟩
    replace B := Lib.hid (btr B.out hb)
    replace cT := cell_be cT hb
    replace O1 := Lib.hid (own_be O1.out hb)
    replace RP := Lib.hid (RP.out.be hb)
    replace OH := Lib.hid (own_be OH.out hb)
    clear hb oh2
    clear O1
    go_wp2_with fail
    refine (drawLightSteps A xs c _ hxc hc hxB (hBY.out.be B.out)).mono ?_
    rintro e w8 ⟨m2, T2, ct2, us, v, rfl, hm2, hv, hl2, o2, hb⟩
    replace B := Lib.hid (btr B.out hb.out)
    replace cT := cell_be cT hb.out
    replace RP := Lib.hid (RP.out.be hb.out)
    replace OH := Lib.hid (own_be OH.out hb.out)
    obtain rfl := hl2.out
    have hcap2 := own_cap o2.out
    have hle2 : us.length ≤ 1048576 := by omega
    obtain ⟨bu, hbu⟩ : ∃ bu, Hid (w8.heap.size = bu) := ⟨_, rfl⟩
    have cU : (w8.alloc (.cells #[.slice T2 us.length ct2] 26)).cell? ⟨bu, 0, none⟩ = some (.slice T2 us.length ct2) := by rw [← hbu.out]; simp
    have O2 := Lib.hid (o2.out.alloc (.cells #[.slice T2 us.length ct2] 26))
    replace B := Lib.hid (bal B.out (.cells #[.slice T2 us.length ct2] 26))
    replace cT := cell_al cT (.cells #[.slice T2 us.length ct2] 26)
    replace RP := Lib.hid (RP.out.be (bal (b0 _) (.cells #[.slice T2 us.length ct2] 26)))
    replace OH := Lib.hid (own_be OH.out (bal (b0 _) (.cells #[.slice T2 us.length ct2] 26)))
    clear o2 hb
    obtain ⟨Lg, q3, hF3⟩ : ∃ P p1, Hid (M.lightSteps us v = (P, p1)) := ⟨_, _, rfl⟩
    obtain ⟨lo, hi, q4, hF4⟩ : ∃ P P' p1, Hid (M.intervalOf us v = (P, P', p1)) := ⟨_, _, _, rfl⟩
    have HI3 := Lib.hid (fun w' h' => impl_LightSteps T2 us ct2 v w' hle2 hcap2 h')
    have HS3 := Lib.hid (fun w' h' => spec_LightSteps T2 us ct2 v w' hle2 hcap2 h')
    have HI4 := Lib.hid (fun w' h' => impl_IntervalOf T2 us ct2 v w' hle2 hcap2 h')
    have HS4 := Lib.hid (fun w' h' => spec_IntervalOf T2 us ct2 v w' hle2 hcap2 h')
    rw [hF3.out] at HI3 HS3
    rw [hF4.out] at HI4 HS4
    simp only at HI3 HS3 HI4 HS4
    have hnq3 : (q3 != q3) = false := by simp
    have hnLg : (Lg != Lg) = false := by simp
    have hnq4 : (q4 != q4) = false := by simp
    have hnlo : (lo != lo) = false := by simp
    have hnhi : (hi != hi) = false := by simp
    go_wp2_with fail
    rw [hbu.out]
    refine (HI3.out _ (ints_of_own64 O2.out)).mono ?_
    rintro e w9 ⟨rfl, hb⟩
    replace B := Lib.hid (btr B.out hb)
    replace cT := cell_be cT hb
    replace RP := Lib.hid (RP.out.be hb)
    replace OH := Lib.hid (own_be OH.out hb)
    replace cU := cell_be cU hb
    replace O2 := Lib.hid (own_be O2.out hb)
    clear hb HI3
    go_wp2_with fail
    refine (HS3.out _ (ints_of_own64 O2.out)).mono ?_
    rintro e w10 ⟨rfl, hb⟩
    replace B := Lib.hid (btr B.out hb)
    replace cT := cell_be cT hb
    replace RP := Lib.hid (RP.out.be hb)
    replace OH := Lib.hid (own_be OH.out hb)
    replace cU := cell_be cU hb
    replace O2 := Lib.hid (own_be O2.out hb)
    clear hb HS3
    go_wp2_with fail
    refine (HI4.out _ (ints_of_own64 O2.out)).mono ?_
    rintro e w11 ⟨rfl, hb⟩
    replace B := Lib.hid (btr B.out hb)
    replace cT := cell_be cT hb
    replace RP := Lib.hid (RP.out.be hb)
    replace OH := Lib.hid (own_be OH.out hb)
    replace cU := cell_be cU hb
    replace O2 := Lib.hid (own_be O2.out hb)
    clear hb HI4
    go_wp2_with fail
    refine (HS4.out _ (ints_of_own64 O2.out)).mono ?_
    rintro e w12 ⟨rfl, hb⟩
    replace B := Lib.hid (btr B.out hb)
    replace cT := cell_be cT hb
    replace RP := Lib.hid (RP.out.be hb)
    replace OH := Lib.hid (own_be OH.out hb)
    replace cU := cell_be cU hb
    replace O2 := Lib.hid (own_be O2.out hb)
    clear hb HS4
    go_wp2_with fail
    refine (drawAncestorOf A xs c _ hxc hc hxB (hBY.out.be B.out)).mono ?_
    rintro e w13 ⟨m3, T3, ct3, vs, nd, kk, rfl, hm3, hnk, hl3, o3, hb⟩
    replace B := Lib.hid (btr B.out hb.out)
    replace cT := cell_be cT hb.out
    replace RP := Lib.hid (RP.out.be hb.out)
    replace OH := Lib.hid (own_be OH.out hb.out)
    replace cU := cell_be cU hb.out
    replace O2 := Lib.hid (own_be O2.out hb.out)
    obtain rfl := hl3.out
    have hcap3 := own_cap o3.out
    have hle3 : vs.length ≤ 1048576 := by omega
    obtain ⟨bv, hbv⟩ : ∃ bv, Hid (w13.heap.size = bv) := ⟨_, rfl⟩
    have cV : (w13.alloc (.cells #[.slice T3 vs.length ct3] 26)).cell? ⟨bv, 0, none⟩ = some (.slice T3 vs.length ct3) := by rw [← hbv.out]; simp
    have O3 := Lib.hid (o3.out.alloc (.cells #[.slice T3 vs.length ct3] 26))
    replace B := Lib.hid (bal B.out (.cells #[.slice T3 vs.length ct3] 26))
    replace cT := cell_al cT (.cells #[.slice T3 vs.length ct3] 26)
    replace RP := Lib.hid (RP.out.be (bal (b0 _) (.cells #[.slice T3 vs.length ct3] 26)))
    replace OH := Lib.hid (own_be OH.out (bal (b0 _) (.cells #[.slice T3 vs.length ct3] 26)))
    replace cU := cell_al cU (.cells #[.slice T3 vs.length ct3] 26)
    replace O2 := Lib.hid (own_be O2.out (bal (b0 _) (.cells #[.slice T3 vs.length ct3] 26)))
    clear o3 hb
    obtain ⟨ab, q5, hF5⟩ : ∃ P p1, Hid (M.ancestorOf vs nd kk = (P, p1)) := ⟨_, _, rfl⟩
    have HI5 := Lib.hid (fun w' h' => impl_AncestorOf T3 vs ct3 nd kk w' hle3 hcap3 h')
    have HS5 := Lib.hid (fun w' h' => spec_AncestorOf T3 vs ct3 nd kk w' hle3 hcap3 h')
    rw [hF5.out] at HI5 HS5
    simp only at HI5 HS5
    have hnq5 : (q5 != q5) = false := by simp
    have hnab : (ab != ab) = false := by simp
    go_wp2_with fail
    rw [hbv.out]
    refine (HI5.out _ (ints_of_own64 O3.out)).mono ?_
    rintro e w14 ⟨rfl, hb⟩
    replace B := Lib.hid (btr B.out hb)
    replace cT := cell_be cT hb
    replace RP := Lib.hid (RP.out.be hb)
    replace OH := Lib.hid (own_be OH.out hb)
    replace cU := cell_be cU hb
    replace O2 := Lib.hid (own_be O2.out hb)
    replace cV := cell_be cV hb
    replace O3 := Lib.hid (own_be O3.out hb)
    clear hb HI5
    go_wp2_with fail
    refine (HS5.out _ (ints_of_own64 O3.out)).mono ?_
    rintro e w15 ⟨rfl, hb⟩
    replace B := Lib.hid (btr B.out hb)
    replace cT := cell_be cT hb
    replace RP := Lib.hid (RP.out.be hb)
    replace OH := Lib.hid (own_be OH.out hb)
    replace cU := cell_be cU hb
    replace O2 := Lib.hid (own_be O2.out hb)
    replace cV := cell_be cV hb
    replace O3 := Lib.hid (own_be O3.out hb)
    clear hb HS5
    go_upto_if 164 with fail
    have HI6 := Lib.hid (fun w' h' => impl_IsBelow T3 vs ct3 nd ab w' hle3 hcap3 h')
    go_cut [14] (fun s14 wx => s14 = .int .i64 Lg ∧ Hid (Below w15.heap.size w15 wx))
    case first => as_aux_lemma =>
      by_cases h5 : q5 = 0
      · subst h5
        have hF6 := M.anc_isBelow' hF5.out
        rw [hF6] at HI6
        clear hF6
        simp only at HI6
        go_wp2_with fail
        refine (HI6.out _ (ints_of_own64 O3.out)).mono ?_
        rintro e w16 ⟨rfl, hb⟩
        have HB := Lib.hid hb
        clear hb
        go_wp2
        go_meet
        case rel => exact ⟨rfl, HB⟩
      · have hb5 : (q5 == 0) = false := by simp [h5]
        go_wp2
        go_meet
        case rel => exact ⟨rfl, b0 _⟩
    case rest => as_aux_lemma =>
      obtain ⟨rfl, hb⟩ := hcut
      replace B := Lib.hid (btr B.out hb.out)
      replace cT := cell_be cT hb.out
      replace RP := Lib.hid (RP.out.be hb.out)
      replace OH := Lib.hid (own_be OH.out hb.out)
      replace cU := cell_be cU hb.out
      replace O2 := Lib.hid (own_be O2.out hb.out)
      replace cV := cell_be cV hb.out
      replace O3 := Lib.hid (own_be O3.out hb.out)
      rename World => V1
      clear hb cV O3 HI6 hnq5 hnab hF5 hnq4 hnlo hnhi hnLg hnq3 hnp1 hnp2
      go_upto_if 179 with fail
      go_cut [14] (fun s14 wx => s14 = .int .i64 Lg ∧ Hid (Below V1.heap.size V1 wx))
      case first => as_aux_lemma =>
        by_cases h3 : q3 = 0
        · subst h3
          obtain ⟨vn, k, S, rfl, hvn, htu, rfl, hk4, hk2, hI4, hsz, hS24⟩ := M.light_facts hF3.out
          have e4 := hF4.out.symm.trans hI4
          injection e4 with e4 e5
          injection e5 with e5 e6
          subst e4
          subst e5
          subst e6
          have hF7 : F_SizesOf us = (M.sizes us us.length, 0) := M.cond_yes htu
          have HI7 := Lib.hid (fun w' h' => impl_SizesOf T2 us ct2 w' hle2 hcap2 h')
          rw [hF7] at HI7
          simp only at HI7
          have hsl := M.sizes_len us us.length
          have Hsz := Lib.hid hsz
          have hw1 : IntKind.i64.wrap ((vn : Int) + (S : Int) - 1 - (vn : Int)) = (S : Int) - 1 := by rw [IntWalk.i64_in _ (by omega)]; omega
          have hw2 : IntKind.i64.wrap ((S : Int) - 1 + 1) = (S : Int) := by rw [IntWalk.i64_in _ (by omega)]; omega
          have hvn0 : (0 : Int) ≤ (vn : Int) := by omega
          have hvni : (vn : Int) < (us.length : Int) := by omega
          have hnS : ((S : Int) != (S : Int)) = false := by simp
          have Hk2 := Lib.hid hk2
          have Hsl := Lib.hid hsl
          clear hF7 hsz hI4 htu hk2 hsl
          go_wp2
          go_loopw [33, 34] (fun pw i wr => ∃ (j p : Nat), j ≤ k ∧ i = .int .i64 (j : Int) ∧ pw = .int .i64 (p : Int) ∧ Hid (p = 2 ^ j) ∧ wr = V1) (fun _ i _ => k - (intOf i).toNat)
          case atStart => exact ⟨0, 1, Nat.zero_le _, rfl, rfl, rfl, rfl⟩
          case round =>
            obtain ⟨j, p, hj, rfl, rfl, hp, rfl⟩ := hrel
            by_cases hlt : j < k
            · have hlt' : (j : Int) < (k : Int) := by omega
              have hpl : p ≤ 16 := by rw [hp.out]; exact Nat.le_trans (Nat.pow_le_pow_right (by omega) (show j ≤ 4 by omega)) (by decide)
              have hwp : IntKind.i64.wrap ((p : Int) * 2) = ((p * 2 : Nat) : Int) := by rw [IntWalk.i64_in _ (by omega)]; omega
              have hwj : IntKind.i64.wrap ((j : Int) + 1) = ((j + 1 : Nat) : Int) := by rw [IntWalk.i64_in _ (by omega)]; omega
              go_wp2
              go_roundw
              case rel => exact ⟨j + 1, p * 2, by omega, rfl, rfl, Lib.hid (by rw [hp.out, Nat.pow_succ]), by first | rfl | trivial⟩
              case measure => simp [intOf]; omega
            · obtain rfl : j = k := by omega
              have hge : ¬ (j : Int) < (j : Int) := by omega
              have hpu : ¬ (us.length : Int) < (p : Int) := by have := Hk2.out; rw [← hp.out] at this; omega
              clear hp
              go_wp2_with fail
              refine (HI7.out _ (ints_of_own64 O2.out)).mono ?_
              rintro e w17 ⟨A7, c7, rfl, o7, hb⟩
              obtain ⟨g7, rfl, _, _⟩ := own_headR o7 (by rw [Hsl.out]; omega)
              have c7s := (own64_cell o7 rfl Hsz.out).1
              have cU7 := cell_be cU hb
              have HB := Lib.hid hb
              rw [Hsl.out]
              clear o7 hb cT RP OH B O2 HI7
              go_wp2
              go_meet
              case rel => exact ⟨rfl, HB⟩
        · have hb3 : (q3 == 0) = false := by simp [h3]
          go_wp2
          go_meet
          case rel => exact ⟨rfl, b0 _⟩
      case rest => as_aux_lemma =>
        obtain ⟨rfl, hb⟩ := hcut
        replace B := Lib.hid (btr B.out hb.out)
        replace cT := cell_be cT hb.out
        replace RP := Lib.hid (RP.out.be hb.out)
        replace OH := Lib.hid (own_be OH.out hb.out)
        clear hb cU O2 hF3 hF4 hBY hxB
        rename World => V2
        by_cases ht : M.isTree ts = true
        · have e1 := hF1.out.symm.trans (M.heavyPaths_yes ht)
          injection e1 with e1 e2
          have e3 := hF2.out.symm.trans (show F_HeavyChildren ts = (M.heavy ts, 0) from M.cond_yes ht)
          injection e3 with e3 e4
          subst e2
          subst e4
          have HP := Lib.hid e1
          have HH := Lib.hid e3
          have hN := (M.tree_len ht).2
          have Ht := Lib.hid ht
          obtain ⟨Fl, hFl⟩ : ∃ Fl, Hid (P.flatten = Fl) := ⟨_, rfl⟩
          have hnd : Hid (Fl.Nodup) := by rw [← hFl.out, HP.out]; exact M.hvPaths_nodup ht _ (Nat.le_refl _)
          have hmk := run_make_row' (P := Try.prog) (w := V2) 81 4 (.bool false) 1 Try.underlying81 infoB rfl .i64 .i64 ts.length (by omega) (by omega)
          have hm0 : Hid (OwnB (V2.alloc (.cells (madeCells #[.bool false] ts.length) 4)) V2.heap.size (.slice (some ⟨V2.heap.size, 0, none⟩) ts.length ts.length) (M.metRow ts.length Fl (P.take 0).flatten.length)) := by
            rw [show (P.take 0).flatten.length = 0 from rfl, M.metRow_zero]
            exact ownB_made (Nat.le_refl _) (by unfold maxLen; omega)
          clear e1 e3 ht hF1 hF2
          go_wp2
          go_loopw [38] (fun i wr => ∃ k : Nat, k ≤ P.length ∧ i = .int .i64 (k : Int) ∧ Hid (OwnB wr V2.heap.size (.slice (some ⟨V2.heap.size, 0, none⟩) ts.length ts.length) (M.metRow ts.length Fl (P.take k).flatten.length)) ∧ Hid (Below V2.heap.size V2 wr)) (fun i _ => P.length - (intOf i).toNat)
          case atStart => exact ⟨0, Nat.zero_le _, rfl, hm0, bal (b0 V2) _⟩
          case round => as_aux_lemma =>
            obtain ⟨k, hk, rfl, hm, hbr⟩ := hrel
            clear hm0 hmk
            by_cases hlt : k < P.length
            · have hz := List.getElem?_eq_getElem hlt
              obtain ⟨zs, hzs⟩ : ∃ zs, P[k] = zs := ⟨_, rfl⟩
              rw [hzs] at hz
              obtain ⟨hz1, hz24, hzf⟩ := M.path_facts Ht.out (show (M.hvPaths ts ts.length)[k]? = some zs by rw [← HP.out]; exact hz)
              obtain ⟨g1, rfl⟩ := RP.out.shape.2 (by omega)
              have hN1 := (M.tree_len Ht.out).1
              have hHl2 : Hv.length = ts.length := by rw [HH.out]; exact M.heavy_len ts
              obtain ⟨g3, rfl, _, _⟩ := own_headR OH.out (by omega)
              obtain ⟨hd, hk', hoz, hzl⟩ := RP.out.at_ hz
              obtain ⟨gz, mz, cz⟩ := hd
              simp only at hzl
              subst hzl
              have HR : Hid (∀ W', Hid (Below V2.heap.size V2 W') → W'.cell? ⟨g1, k, none⟩ = some (.slice (some ⟨gz, 0, none⟩) zs.length cz) ∧ ∀ j x, zs[j]? = some x → W'.cell? ⟨gz, j, none⟩ = some (.int .i64 x)) := fun W' hW => ⟨(RP.out.be hW.out).cell hk', fun j x hj => (own64_cell (own_be hoz hW.out) rfl hj).1⟩
              have HV : Hid (∀ W' u, Hid (Below V2.heap.size V2 W') → u < ts.length → W'.cell? ⟨g3, u, none⟩ = some (.int .i64 (M.hvAt ts u))) := fun W' u hW hu => (own64_cell (own_be OH.out hW.out) rfl (by rw [HH.out]; exact M.heavy_at ts hu)).1
              have Hzf := Lib.hid hzf
              have Hz := Lib.hid hz
              have HK := Lib.hid (fun j (x : Int) (hj : zs[j]? = some x) => (show Fl[(P.take k).flatten.length + j]? = some x by rw [← hFl.out]; exact M.flat_at hz hj))
              have HN := Lib.hid (M.flat_next hz)
              obtain ⟨K, hKe⟩ : ∃ K, (P.take k).flatten.length = K := ⟨_, rfl⟩
              rw [hKe] at HK HN hm
              clear hk' hoz hz hzf hzs hKe
              have hki : (k : Int) < (P.length : Int) := by omega
              have hk0 : (0 : Int) ≤ (k : Int) := by omega
              have hzl := List.getElem?_eq_getElem (l := zs) (show zs.length - 1 < zs.length by omega)
              obtain ⟨ul, hul, hu2, hu3, _⟩ := Hzf.out _ _ hzl
              rw [hul] at hzl
              have chd := (HR.out _ hbr).1
              have cl := (HR.out _ hbr).2 _ _ hzl
              have ch := HV.out _ ul hbr hu2
              rw [hu3 (by omega)] at ch
              have hzn : ((zs.length : Int) == 0) = false := beq_eq_false_iff_ne.2 (by omega)
              have hwz : IntKind.i64.wrap ((zs.length : Int) - 1) = ((zs.length - 1 : Nat) : Int) := by rw [IntWalk.i64_in _ (by omega)]; omega
              have hb1 : (0 : Int) ≤ ((zs.length - 1 : Nat) : Int) := by omega
              have hb2 : ((zs.length - 1 : Nat) : Int) < (zs.length : Int) := by omega
              have hb3 : (0 : Int) ≤ (ul : Int) := by omega
              have hb4 : (ul : Int) < (Hv.length : Int) := by omega
              have hwk : IntKind.i64.wrap ((k : Int) + 1) = ((k + 1 : Nat) : Int) := by rw [IntWalk.i64_in _ (by omega)]; omega
              have Hlt := Lib.hid hlt
              have HHl := Lib.hid hHl2
              clear hzl hul hu3 hlt hHl2 hHl
              go_wp2
              go_quiet (fail)
              go_wp2
              rename World => V3
              go_loopw [39] (fun ji wr => ∃ j : Nat, j ≤ zs.length ∧ ji = .int .i64 (j : Int) ∧ Hid (OwnB wr V2.heap.size (.slice (some ⟨V2.heap.size, 0, none⟩) ts.length ts.length) (M.metRow ts.length Fl (K + j))) ∧ Hid (Below V2.heap.size V2 wr)) (fun ji _ => zs.length - (intOf ji).toNat)
              case atStart => exact ⟨0, Nat.zero_le _, rfl, Lib.hid (show OwnB _ _ _ _ from hm.out), below_drewN hbr.out _⟩
              case round => as_aux_lemma =>
                clear chd cl ch hm hbr
                obtain ⟨j, hj, rfl, hm, hbr⟩ := hrel
                have chd := (HR.out _ hbr).1
                by_cases hjl : j < zs.length
                · have hx := List.getElem?_eq_getElem hjl
                  obtain ⟨u, hxu, hun, _, _⟩ := Hzf.out _ _ hx
                  rw [hxu] at hx
                  have cx := (HR.out _ hbr).2 _ _ hx
                  have hFx := HK.out _ _ hx
                  have hmr := M.metRow_at (l := Fl) (k := K + j) hun
                  rw [decide_eq_false (M.nodup_new hnd.out hFx)] at hmr
                  obtain ⟨m1, m2, _, _⟩ := ownB_cell hm.out (M.metRow_len _ _ _) hmr
                  have hst := Lib.hid (ownB_set hm.out (M.metRow_len _ _ _) u true)
                  rw [M.metRow_step hFx] at hst
                  have hbs := fun q => Lib.hid (below_setCell (g := V2.heap.size) (k := u) (below_drewN hbr.out q) (Nat.le_refl _) (.bool true))
                  have Hbs := Lib.hid hbs
                  have hji : (j : Int) < (zs.length : Int) := by omega
                  have hj0 : (0 : Int) ≤ (j : Int) := by omega
                  have hu0 : (0 : Int) ≤ (u : Int) := by omega
                  have hui : (u : Int) < (ts.length : Int) := by omega
                  have hwj : IntKind.i64.wrap ((j : Int) + 1) = ((j + 1 : Nat) : Int) := by rw [IntWalk.i64_in _ (by omega)]; omega
                  rcases Nat.eq_zero_or_pos j with hj1 | hj1
                  · subst hj1
                    clear hmr hFx hx hxu hbs hm
                    go_wp2
                    go_quiet (fail)
                    go_wp2
                    go_roundw
                    case rel => exact ⟨0 + 1, by omega, by rfl, Lib.hid (show OwnB ((wr.drewN _).setCell _ _) _ _ _ from hst.out), Hbs.out _⟩
                    case measure => simp [intOf]; omega
                  · have hjp : (0 : Int) < (j : Int) := by omega
                    have hy := List.getElem?_eq_getElem (l := zs) (show j - 1 < zs.length by omega)
                    obtain ⟨u', hyu, hun', _, hnx⟩ := Hzf.out _ _ hy
                    rw [hyu] at hy
                    have cy := (HR.out _ hbr).2 _ _ hy
                    have ch := HV.out _ u' hbr hun'
                    rw [hnx _ (by rw [show j - 1 + 1 = j by omega]; exact hx)] at ch
                    have hwm : IntKind.i64.wrap ((j : Int) - 1) = ((j - 1 : Nat) : Int) := by rw [IntWalk.i64_in _ (by omega)]; omega
                    have hm0 : (0 : Int) ≤ ((j - 1 : Nat) : Int) := by omega
                    have hmi : ((j - 1 : Nat) : Int) < (zs.length : Int) := by omega
                    have hu'0 : (0 : Int) ≤ (u' : Int) := by omega
                    have hu'i : (u' : Int) < (Hv.length : Int) := by have := HHl.out; omega
                    have hne : ((u : Int) != (u : Int)) = false := by simp
                    clear hmr hFx hx hxu hbs hm hy hyu hnx
                    go_wp2
                    go_quiet (fail)
                    go_wp2
                    go_roundw
                    case rel => exact ⟨j + 1, by omega, by go_num, Lib.hid (show OwnB ((wr.drewN _).setCell _ _) _ _ _ from hst.out), Hbs.out _⟩
                    case measure => simp [intOf]; omega
                · obtain rfl : j = zs.length := by omega
                  have hge : ¬ (zs.length : Int) < (zs.length : Int) := by omega
                  rw [← HN.out] at hm
                  clear HR HV HK HN hjl hj
                  go_wp2
                  go_roundw
                  case rel => exact ⟨k + 1, by have := Hlt.out; omega, by go_num, hm, hbr⟩
                  case measure => have := Hlt.out; simp [intOf]; omega
            · obtain rfl : k = P.length := by omega
              have hge : ¬ (P.length : Int) < (P.length : Int) := by omega
              rw [List.take_length, hFl.out] at hm
              have hall : Hid (∀ x, x < ts.length → (M.metRow ts.length Fl Fl.length)[x]? = some true) := fun x hx => by
                rw [M.metRow_at hx, List.take_length]
                congr 1
                rw [← hFl.out, HP.out]
                exact decide_eq_true (M.hvPaths_all Ht.out hx)
              clear hlt hk
              go_wp2
              rename World => V3
              go_loopw [40] (fun xi wr => ∃ x : Nat, x ≤ ts.length ∧ xi = .int .i64 (x : Int) ∧ V3 = wr) (fun xi _ => ts.length - (intOf xi).toNat)
              case atStart => exact ⟨0, Nat.zero_le _, rfl, rfl⟩
              case round =>
                obtain ⟨x, hx, rfl, rfl⟩ := hrel
                by_cases hxl : x < ts.length
                · have cx := (ownB_cell hm.out (M.metRow_len _ _ _) (hall.out x hxl)).1
                  have hx0 : (0 : Int) ≤ (x : Int) := by omega
                  have hxi : (x : Int) < (ts.length : Int) := by omega
                  have hwx : IntKind.i64.wrap ((x : Int) + 1) = ((x + 1 : Nat) : Int) := by rw [IntWalk.i64_in _ (by omega)]; omega
                  go_wp2
                  go_roundw
                  case rel => exact ⟨x + 1, by omega, by go_num, by first | rfl | trivial⟩
                  case measure => simp [intOf]; omega
                · obtain rfl : x = ts.length := by omega
                  have hge2 : ¬ (ts.length : Int) < (ts.length : Int) := by omega
                  have BB := btr B.out hbr.out
                  go_wp2
                  go_ret
                  exact ⟨rfl, BB⟩
        · have hf : M.isTree ts = false := by simpa using ht
          have e1 := hF1.out.symm.trans (M.heavyPaths_no hf)
          injection e1 with e1 e2
          have e3 := hF2.out.symm.trans (show F_HeavyChildren ts = ([], 1) from M.cond_no hf)
          injection e3 with e3 e4
          subst e1
          subst e2
          subst e3
          subst e4
          have BB := B.out
          clear hF1 hF2 ht hf
          go_wp2
          go_ret
          exact ⟨rfl, BB⟩
end Go.Proofs.Ytdgcjkgbglofbaa

/- An argument of type laws.Tree opened: its value, its numbers in memory. -/
namespace Go.Proofs.Ytdgcjkgbglofbaa
open Go.RowKit Go.Joins Go.ChangeShapes Go.WideShapes Go.ChangeAt Go.Deep

theorem own : ownKnob Try.prog.godebug = none := by kernel_rfl
theorem laidOut : laidOutB Try.prog = true := by kernel_rfl
theorem cells64 : Try.prog.cellsOf 2 = 1 := by kernel_rfl
theorem cellsTree : Try.prog.cellsOf 92 = 1 := by kernel_rfl

section
variable {H : Type} {enc : TypeId × Value → H} {P : Program} {w : World} {base : Nat} {spare : Nat → Bool} {held : Bool}
theorem open_agg1 {r : Reach} {b0 : Nat} {t : TypeId} {f0 : Field} {v : Value} {d : DataW H} {p : List MemPlace} (hs : P.underlying t = some (.struct #[f0])) (hone : oneCellFields P #[f0] = true) (hC : P.cellsOf t = 1)
    (hv : Value.okWide P w r b0 t v) (h : DataW.Trod enc P w base spare held t v d p) :
    ∃ (v0 : Value) (y0 : DataW H × List MemPlace) (n : Nat), v = .agg #[v0] ∧ d = .agg [y0.1] ∧ p = y0.2 ∧ DataW.trod enc P w base spare held n f0.type [v0] = some y0 := by
  obtain ⟨cs, rfl, hsz⟩ := okWide_struct hs hv
  obtain ⟨l⟩ := cs
  match l, hsz.trans hC with
  | [c0], _ =>
    obtain ⟨fuel, hf⟩ := h
    obtain ⟨xs, n, _, hx, _, hlen, hg⟩ := DataW.trod_struct hs hf
    obtain ⟨o0, k0⟩ := hone_of hone 0 f0 rfl
    match xs, hlen with
    | [y0], _ =>
      simp only [Prod.mk.injEq] at hx
      exact ⟨c0, y0, n, rfl, by simpa using hx.1, by simpa using hx.2, by simpa [Value.cells, o0, k0] using hg 0 f0 rfl⟩
end

/-- a slice of int64 as read, in this seat's words -/
theorem openInts {H : Type} {enc : TypeId × Value → H} {W : World} {fuel : Nat} {v : Value} {y : DataW H × List MemPlace}
    (h : DataW.trod enc Try.prog W 0 (fun _ => true) true fuel 24 [v] = some y) (hlt : ∀ x ∈ y.2, x.block < W.heap.size) :
    ∃ (A : Option Addr) (c : Nat) (xs : List Int), v = .slice A xs.length c ∧ xs.length ≤ 9223372036854775807 ∧ Ints W W.heap.size A xs ∧ ∀ x ∈ xs, -9223372036854775808 ≤ x ∧ x ≤ 9223372036854775807 := by
  rcases open_ints Try.underlying24 Try.underlying2 cells64 h with ⟨hcs, hx⟩ | ⟨a, len', cap', zs, hcs, _, hl, hm, hz, hx, hcell, hwz⟩
  · obtain rfl : v = .slice none 0 0 := by simpa using hcs
    exact ⟨none, 0, [], rfl, by simp, Ints.nil_ _ _ _, by simp⟩
  · obtain rfl : v = .slice (some a) len' cap' := by simpa using hcs
    simp only [if_true] at hz
    have hlz : len' ≤ zs.length := by omega
    have htl : (zs.take len').length = len' := by simp; omega
    subst hx
    refine ⟨some a, cap', zs.take len', by rw [htl], by rw [htl]; simp only [maxLen] at hm; omega, fun hpos => ?_, fun x hxm => ?_⟩
    · rw [htl] at hpos
      obtain ⟨b, off, spot⟩ := a
      have hspot : spot = none := by simpa [Addr.add] using World.cell?_spot (hcell 0 (by omega))
      subst hspot
      refine ⟨b, off, rfl, hlt (.cell b off) (MemPlace.mem_row.2 ⟨0, by omega, by simp⟩), fun j x hj => ?_⟩
      have hj' : j < zs.length := by
        have := (List.getElem?_eq_some_iff.1 hj).1
        rw [htl] at this
        omega
      have hj2 : zs[j]? = some x := by
        rw [List.getElem?_take] at hj
        split at hj
        · exact hj
        · cases hj
      rw [← add_plain, hcell j hj']
      simp [List.getD, hj2]
    · have := hwz x (List.mem_of_mem_take hxm)
      simpa [Lit.wf, IntKind.min, IntKind.max, IntKind.signed, IntKind.bits] using this

set_option maxRecDepth 100000 in
theorem openTree {H : Type} {enc : TypeId × Value → H} {W : World} {base : Nat} {v : Value} {d : DataW H} {p : List MemPlace} (hv : Value.okWide Try.prog W .any base 92 v)
    (h : DataW.Trod enc Try.prog W 0 (fun _ => true) true 92 v d p) (hlt : ∀ x ∈ p, x.block < W.heap.size) :
    ∃ (A : Option Addr) (c : Nat) (xs : List Int), v = .agg #[.slice A xs.length c] ∧ xs.length ≤ 9223372036854775807 ∧ Ints W W.heap.size A xs ∧ ∀ x ∈ xs, -9223372036854775808 ≤ x ∧ x ≤ 9223372036854775807 := by
  obtain ⟨v0, y0, n, rfl, rfl, rfl, hy⟩ := open_agg1 Try.underlying92 (by kernel_rfl) cellsTree hv h
  obtain ⟨A, c, xs, rfl, h1, h2, h3⟩ := openInts hy hlt
  exact ⟨A, c, xs, rfl, h1, h2, h3⟩
end Go.Proofs.Ytdgcjkgbglofbaa

/- An argument of type []byte opened: its value, its bytes in memory. -/
namespace Go.Proofs.Ytdgcjkgbglofbaa
open Go.RowKit Go.Joins Go.ChangeShapes Go.WideShapes Go.ChangeAt Go.Deep

theorem cellsU8 : Try.prog.cellsOf 5 = 1 := by kernel_rfl
theorem openBytes {H : Type} {enc : TypeId × Value → H} {W : World} {fuel : Nat} {v : Value} {y : DataW H × List MemPlace}
    (h : DataW.trod enc Try.prog W 0 (fun _ => true) true fuel 22 [v] = some y) (hlt : ∀ x ∈ y.2, x.block < W.heap.size) :
    ∃ (A : Option Addr) (c : Nat) (xs : List Int), v = .slice A xs.length c ∧ (xs.length ≤ c ∧ c ≤ 9223372036854775807) ∧ Byts W W.heap.size A xs ∧ ∀ x ∈ xs, 0 ≤ x ∧ x ≤ 255 := by
  rcases open_ints Try.underlying22 Try.underlying5 cellsU8 h with ⟨hcs, hx⟩ | ⟨a, len', cap', zs, hcs, _, hl, hm, hz, hx, hcell, hwz⟩
  · obtain rfl : v = .slice none 0 0 := by simpa using hcs
    exact ⟨none, 0, [], rfl, by simp, fun h => by simp at h, by simp⟩
  · obtain rfl : v = .slice (some a) len' cap' := by simpa using hcs
    simp only [if_true] at hz
    have hlz : len' ≤ zs.length := by omega
    have htl : (zs.take len').length = len' := by simp; omega
    subst hx
    refine ⟨some a, cap', zs.take len', by rw [htl], by rw [htl]; simp only [maxLen] at hm; omega, fun hpos => ?_, fun x hxm => ?_⟩
    · rw [htl] at hpos
      obtain ⟨b, off, spot⟩ := a
      have hspot : spot = none := by simpa [Addr.add] using World.cell?_spot (hcell 0 (by omega))
      subst hspot
      refine ⟨b, off, rfl, hlt (.cell b off) (MemPlace.mem_row.2 ⟨0, by omega, by simp⟩), fun j x hj => ?_⟩
      have hj' : j < zs.length := by
        have := (List.getElem?_eq_some_iff.1 hj).1
        rw [htl] at this
        omega
      have hj2 : zs[j]? = some x := by
        rw [List.getElem?_take] at hj
        split at hj
        · exact hj
        · cases hj
      rw [← add_plain, hcell j hj']
      simp [List.getD, hj2]
    · have := hwz x (List.mem_of_mem_take hxm)
      simpa [Lit.wf, IntKind.min, IntKind.max, IntKind.signed, IntKind.bits] using this
end Go.Proofs.Ytdgcjkgbglofbaa

/- What every row of this seat asks of the whole program, once: three facts on how the cut was made (each takes the kernel near a minute and 9 GB). -/
namespace Go.Proofs.Ytdgcjkgbglofbaa

set_option maxHeartbeats 4000000 in
theorem shut_mayEnter : Try.pinned.checked.prog.mayEnter = true := by kernel_rfl
set_option maxHeartbeats 4000000 in
theorem shut_lifts : (false == Try.pinned.checked.prog.liftsFinal) = true := by kernel_rfl
set_option maxHeartbeats 4000000 in
theorem shut_make : (Try.pinned.checked.prog.make == some .cut) = true := by kernel_rfl
end Go.Proofs.Ytdgcjkgbglofbaa
