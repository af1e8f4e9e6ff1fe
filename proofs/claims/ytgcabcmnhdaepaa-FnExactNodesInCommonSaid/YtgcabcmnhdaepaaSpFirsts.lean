/- The model's firsts: for the nodes in postorder, how many come before their subtrees. -/
import Derived.Test.YtgcabcmnhdaepaaMost
import Derived.Test.YtgcabcmnhdaepaaFnPostorderOf
import Derived.Test.YtgcabcmnhdaepaaStepPush
import Derived.Test.YtgcabcmnhdaepaaEnd
namespace Go.Proofs.Ytgcabcmnhdaepaa
open Go.RowKit

namespace M
def flTo (xs : List Int) (k : Nat) : List Int := (List.range k).map fun (i : Nat) => (i : Int) + 1 - (szAt xs i : Int)
theorem flTo_succ (xs : List Int) (k : Nat) : flTo xs (k + 1) = flTo xs k ++ [(k : Int) + 1 - (szAt xs k : Int)] := by simp [flTo, List.range_succ]
theorem flTo_len (xs : List Int) (k : Nat) : (flTo xs k).length = k := by simp [flTo]
theorem flTo_at (xs : List Int) {n k : Nat} (h : k < n) : (flTo xs n)[k]? = some ((k : Int) + 1 - (szAt xs k : Int)) := by simp [flTo, h]
end M

theorem own64_bk {w : World} {B n c : Nat} {A : Option Addr} {zs : List Int} (h : Own64 w B (.slice A n c) zs) (hn : 0 < zs.length) : ∃ g, A = some ⟨g, 0, none⟩ := by
  have hl := own64_len h
  rcases h.2 with ⟨h0, _⟩ | ⟨g, cap, cur, hv, _⟩
  · injection h0 with _ e _; omega
  · injection hv with e1; exact ⟨g, e1⟩

set_option maxHeartbeats 4000000 in
set_option maxRecDepth 100000 in
theorem l07Firsts (A : Option Addr) (xs : List Int) (c : Nat) (w : World) (hx : xs.length ≤ 24) (ht : Hid (M.isTree xs = true)) (h : Hid (Ints w w.heap.size A xs)) :
    Calls Try.prog 140 #[.agg #[.slice A xs.length c]] w fun e w' => ∃ A' c', e = .returned (.slice A' xs.length c') ∧ Hid (Own64 w' w.heap.size (.slice A' xs.length c') (M.flTo xs xs.length)) ∧ Hid (Below w.heap.size w w') := by
  have hl1 := (M.tree_len ht.out).1
  have hpl := M.posts_len ht.out
  obtain ⟨W, hW⟩ : ∃ W, W = w.alloc (.cells #[.slice A xs.length c] 44) := ⟨_, rfl⟩
  have hbx : W.cell? ⟨w.heap.size, 0, none⟩ = some (.slice A xs.length c) := by subst hW; simp
  have hBW : Hid (Below w.heap.size w W) := by subst hW; exact bal (b0 w) _
  have hI : Hid (Ints W W.heap.size A xs) := h.out.be hBW.out
  have HP := Lib.hid (l01Post A xs c hx ht 24 0 (by omega) (by omega) W hI)
  obtain ⟨n, hn⟩ : ∃ n, Hid (xs.length = n) := ⟨_, rfl⟩
  have hn24 : n ≤ 24 := by rw [← hn.out]; exact hx
  have hn1 : 0 < n := by rw [← hn.out]; exact hl1
  have HPl : Hid ((M.posts xs).length = n) := hpl.trans hn.out
  have HW := Lib.hid hW
  clear hW h
  go_enter Try.func140, Try.ntmps140
  go_wp2_with fail
  rw [← HW.out]
  refine HP.out.mono ?_
  rintro e w1 ⟨A7, c7, n7, rfl, ho, hb1⟩
  have hop : Hid (Own64 w1 W.heap.size (.slice A7 n7 c7) (M.posts xs)) := ho
  have hn7 : n7 = n := by have := own64_len hop.out; rw [HPl.out] at this; exact this
  subst hn7
  obtain ⟨g7, rfl⟩ := own64_bk hop.out (by rw [HPl.out]; exact hn1)
  have hbx1 := Lib.hid (cell_be hbx hb1.out)
  have hI1 := Lib.hid (hI.out.be hb1.out)
  clear ho HP hbx
  obtain ⟨W2, hW2⟩ : ∃ W2, W2 = w1.alloc (.cells #[] 2) := ⟨_, rfl⟩
  have hB2 : Hid (Below w1.heap.size w1 W2) := by subst hW2; exact bal (b0 w1) _
  have ho2 : Hid (Own64 W2 w1.heap.size (.slice (some ⟨w1.heap.size, 0, none⟩) 0 0) []) := by subst hW2; exact own64_empty (Nat.le_refl _)
  have HW2 := Lib.hid hW2
  go_wp2
  rw [← HW2.out]
  clear hW2 HW2
  go_loopw [4, 5] (fun s4 i wr => ∃ (k : Nat) (A4 : Option Addr) (c4 : Nat), k ≤ n7 ∧ i = .int .i64 (k : Int) ∧ s4 = .slice A4 k c4 ∧ Hid (Own64 wr w1.heap.size (.slice A4 k c4) (M.flTo xs k)) ∧ Hid (Below w1.heap.size w1 wr)) (fun _ i _ => n7 - (intOf i).toNat)
  case atStart => exact ⟨0, _, 0, Nat.zero_le _, rfl, rfl, ho2, hB2⟩
  case round =>
    obtain ⟨k, A4, c4, hk, rfl, rfl, ho4, hbr⟩ := hrel
    clear ho2 hB2
    by_cases hlt : k < n7
    · have hlt2 : (k : Int) < (n7 : Int) := by omega
      have hk0 : (0 : Int) ≤ (k : Int) := by omega
      obtain ⟨u, hu, hul⟩ := M.posts_at ht.out (j := k) (by rw [hn.out]; exact hlt)
      obtain ⟨s, hs⟩ : ∃ s, Hid (M.span 1 (xs.drop u) = s) := ⟨_, rfl⟩
      obtain ⟨E, hE⟩ : ∃ E, Hid (u + M.span 1 (xs.drop u) = E) := ⟨_, rfl⟩
      have hEs : u + s = E := by rw [← hs.out]; exact hE.out
      have hsz : M.szAt xs k = s := by rw [M.szAt_at hu, M.sz, Int.toNat_natCast]; exact hs.out
      have hnext : Hid (M.flTo xs (k + 1) = M.flTo xs k ++ [(k : Int) + 1 - (s : Int)]) := by show _ = _; rw [M.flTo_succ, hsz]
      have hsn := M.end_le (xs := xs) (v := u) (by omega)
      rw [hs.out] at hsn
      have hul24 : u ≤ 24 := by omega
      have ew1 : IntKind.i64.wrap ((k : Int) + 1) = (k : Int) + 1 := IntWalk.i64_in _ (by omega)
      have ew2 : IntKind.i64.wrap ((E : Int) - (u : Int)) = (s : Int) := by rw [IntWalk.i64_in _ (by omega)]; omega
      have ew3 : IntKind.i64.wrap ((k : Int) + 1 - (s : Int)) = (k : Int) + 1 - (s : Int) := IntWalk.i64_in _ (by omega)
      have HC : Hid (∀ w', Hid (Below w1.heap.size w1 w') → w'.cell? ⟨w.heap.size, 0, none⟩ = some (.slice A xs.length c) ∧ w'.cell? ⟨g7, k, none⟩ = some (.int .i64 (u : Int))) := fun w' hb => ⟨cell_be hbx1.out hb.out, (own64_cell (own_be hop.out hb.out) HPl.out hu).1⟩
      have HE : Hid (∀ w', Hid (Below w1.heap.size w1 w') → Hid (Own64 w' w1.heap.size (.slice A4 k c4) (M.flTo xs k)) → Calls Try.prog 132 #[.agg #[.slice A xs.length c], .int .i64 (u : Int)] w' fun e w'' => e = .returned (.int .i64 (E : Int)) ∧ Hid (Own64 w'' w1.heap.size (.slice A4 k c4) (M.flTo xs k)) ∧ Hid (Below w1.heap.size w1 w'')) := fun w' hb ho' =>
        (l01End A xs c u E w' hE hx (Lib.hid (M.tree_ok ht.out hul)) (hI1.out.be hb.out)).mono fun e w'' ⟨he, hb2⟩ => ⟨he, own_be ho'.out hb2, btr hb.out hb2⟩
      have K0 : Hid (Below w1.heap.size w1 wr.drew) := hbr.out.drew
      have O0 : Hid (Own64 wr.drew w1.heap.size (.slice A4 k c4) (M.flTo xs k)) := ho4
      clear hu hul hsz hE hs hsn ho4 hbr hEs
      go_wp2
      go_region_held3 (fun w' => w'.cell? ⟨w.heap.size, 0, none⟩ = some (.slice A xs.length c) ∧ w'.cell? ⟨g7, k, none⟩ = some (.int .i64 (u : Int)) ∧ Hid (Below w1.heap.size w1 w')) (first | exact ⟨(HC.out _ K0).1, (HC.out _ K0).2, K0⟩ | exact ⟨(HC.out _ (by assumption)).1, (HC.out _ (by assumption)).2, by assumption⟩ | exact ⟨(HC.out _ (bal (Hid.out (by assumption)) _)).1, (HC.out _ (bal (Hid.out (by assumption)) _)).2, bal (Hid.out (by assumption)) _⟩) (first | (go_at_call 132; refine (HE.out _ K0 O0).mono ?_; rintro e w9 ⟨rfl, ho9, hb9⟩) | (refine stepPush rfl (.tmp 15) (.tmp 30) rfl _ w1.heap.size A4 k c4 (M.flTo xs k) ((k : Int) + 1 - (s : Int)) w9.heap.size rfl rfl (by simp) (Lib.hid (ho9.out.alloc _)) (by have := hb9.out.size; simp; omega) (by omega) ?_; intro g5 c5 w5 ho5 hb5; have hb5' : Hid (Below w1.heap.size w1 w5) := (bal hb9.out _).trans hb5.out))
      all_goals
        go_wp2
        go_roundw
        case rel => exact ⟨k + 1, _, c5, by omega, by go_num, rfl, by rw [hnext.out]; exact ho5, hb5'⟩
        case measure => simp [intOf]; omega
    · obtain rfl : k = n7 := by omega
      have hge : ¬ (k : Int) < (k : Int) := by omega
      have hzz := hBW.out.size
      have hz1 := hb1.out.size
      go_wp2
      go_ret
      rw [hn.out]
      exact ⟨A4, c4, rfl, own_mono ho4.out (by omega), btr hBW.out (btr hb1.out hbr.out)⟩
end Go.Proofs.Ytgcabcmnhdaepaa
