/- A list that seldom is no tree; and with two numbers near its nodes: the model's draws l01Spoil and l01With. -/
import Derived.Test.YtdgcjkgbglofbaaMgFnRanks3
import Derived.Deep.Cut
import Derived.ProofKit
import Derived.SizedLaws
import Derived.Lib.SmallJoins
import Derived.Deep.Slices
import Derived.Deep.Fields
import Derived.JoinedOf
namespace Go.Proofs.Ytdgcjkgbglofbaa
open Go.RowKit

set_option maxRecDepth 100000 in
set_option maxHeartbeats 4000000 in
theorem l01Spoil (w : World) (B g : Nat) (hS : Hid (Src w B g)) :
    Calls Try.prog 164 #[.pointer (some ⟨g, 0, none⟩)] w fun e w' => DrawnL w w' B w.heap.size g e := by
  have hgl := hS.out.lt
  have hS0 := Lib.hid (hS.out.be (bal (b0 w) (.cells #[.slice none 0 0] 26)))
  have hr0 : Hid ((w.alloc (.cells #[.slice none 0 0] 26)).heap[w.heap.size]? = some (.cells #[.slice none 0 0] 26 (0, 0))) := heap_alloc_new w _
  have hz0 : (w.alloc (.cells #[.slice none 0 0] 26)).heap.size = w.heap.size + 1 := by simp
  have hg0 : Hid (w.grownBy (w.alloc (.cells #[.slice none 0 0] 26)) (some g)) := src_of (bal (b0 w) _)
  go_enter Try.func164, Try.ntmps164
  go_wp2_with fail
  refine (l01Draw _ B g hS0).mono ?_
  rintro e w1 ⟨n, A, c, ds, rfl, hn, hl, ht, ho, hS1, hg1⟩
  rw [hz0] at ho
  have hz1 := hg1.out.size
  have hr3 := Lib.hid (res_keep hr0.out hg1.out (by omega))
  have hg2 := Lib.hid (src_tr hg0.out hg1.out)
  clear hg0 hg1 hr0
  go_wp2_with fail
  refine (l01Bad A n c ds w1 B (w.heap.size + 1) g hn hl (by omega) (by omega) ho hS1).mono ?_
  rintro e w2 ⟨m, A', c', zs, rfl, hm, hzl, ho2, hS2, hg3⟩
  have hr4 := res_keep hr3.out hg3.out (by omega)
  have hrc := cell_of_one hr4
  have hrf := free_of_one hr4
  obtain ⟨f1, f2, f3⟩ := drawn_end (w := w) (.slice A' m c') (by omega) ho2.out hS2.out (src_tr hg2.out hg3.out) hgl
  have F1 := Lib.hid f1
  have F2 := Lib.hid f2
  have F3 := Lib.hid f3
  clear f1 f2 f3
  go_wp2
  refine bodyPost_ret (v := .agg #[.slice A' m c']) (by simp [results, Try.results164, go_sem, hrc]) rfl ?_
  exact ⟨m, A', c', zs, rfl, hm, hzl, F1, F2, F3⟩

/-- what a draw of a list hands back, at the end -/
def TopT (w w' : World) (e : Ending) : Prop :=
  ∃ (m : Nat) (A' : Option Addr) (c' : Nat) (zs : List Int), e = .returned (.agg #[.slice A' m c']) ∧ m ≤ 25 ∧ Hid (zs.length = m) ∧ Hid (Own64 w' w.heap.size (.slice A' m c') zs) ∧ Hid (Below w.heap.size w w')
theorem below_src {w w1 w2 : World} {D g : Nat} (h : Below D w w1) (k : w1.grownBy w2 (some g)) (hg : D ≤ g) (hD : D ≤ w1.heap.size) : Below D w w2 :=
  Below.grown h k hD (fun j e => by injection e with e; omega)
theorem own_cap {w : World} {B n c : Nat} {A : Option Addr} {zs : List Int} (h : Own64 w B (.slice A n c) zs) : n ≤ c ∧ c ≤ 9223372036854775807 := by
  rcases h.2 with ⟨h0, hx⟩ | ⟨g, cap, cur, hv, _, _, hnc, hcm, _⟩
  · injection h0 with _ e e'; omega
  · injection hv with _ e e'
    simp only [maxLen] at hcm
    omega

/-- what a draw of a list and two numbers hands back -/
def TopW (w w' : World) (e : Ending) : Prop :=
  ∃ (m : Nat) (A' : Option Addr) (c' : Nat) (zs : List Int) (v u : Int), e = .returned (.tuple #[.agg #[.slice A' m c'], .int .i64 v, .int .i64 u]) ∧ m ≤ 25 ∧ ((-4611686018427387904 ≤ v ∧ v ≤ 4611686018427387904) ∧ (-4611686018427387904 ≤ u ∧ u ≤ 4611686018427387904)) ∧ Hid (zs.length = m) ∧ Hid (Own64 w' w.heap.size (.slice A' m c') zs) ∧ Hid (Below w.heap.size w w')

structure WithQ (w : World) (B D g bt n : Nat) (T : Option Addr) (ct : Nat) (ds : List Int) (X : World) : Prop where
  num : g < D ∧ D ≤ bt ∧ w.heap.size ≤ g ∧ w.heap.size < D ∧ w.heap.size < B ∧ B ≤ g
  src : Src X B g
  bel : Below w.heap.size w X
  own : Own64 X D (.slice T n ct) ds
  box : X.heap[bt]? = some (.cells #[.slice T n ct] 26 (0, 0))
  res : X.heap[w.heap.size]? = some (.cells #[.slice none 0 0] 26 (0, 0))
theorem WithQ.be {w X X' : World} {B D g bt n ct : Nat} {T : Option Addr} {ds : List Int} (h : WithQ w B D g bt n T ct ds X) (hb : Below X.heap.size X X') : WithQ w B D g bt n T ct ds X' :=
  ⟨h.num, h.src.be hb, h.bel.trans (hb.mono h.bel.size), own_below h.own hb (Nat.le_refl _), (hb.block _ (Array.getElem?_eq_some_iff.1 h.box).1).trans h.box, (hb.block _ (Array.getElem?_eq_some_iff.1 h.res).1).trans h.res⟩
theorem WithQ.draw {w X X' : World} {B D g bt n ct : Nat} {T : Option Addr} {ds : List Int} (h : WithQ w B D g bt n T ct ds X) (hg : X.grownBy X' (some g)) (hS : Src X' B g) : WithQ w B D g bt n T ct ds X' := by
  obtain ⟨n1, n2, n3, n4, n5, n6⟩ := h.num
  exact ⟨h.num, hS, below_src h.bel hg n3 h.bel.size, own_src h.own hg n1, res_keep h.box hg (by omega), res_keep h.res hg (by omega)⟩

set_option maxRecDepth 100000 in
set_option maxHeartbeats 8000000 in
theorem l01With (A : Option Addr) (zs : List Int) (c : Nat) (w : World) (hzc : zs.length ≤ c) (hc : c ≤ 9223372036854775807) (hz : Hid (∀ x ∈ zs, 0 ≤ x ∧ x ≤ 255)) (h : Hid (Byts w w.heap.size A zs)) :
    Calls Try.prog 182 #[.slice A zs.length c] w fun e w' => TopW w w' e := by
  obtain ⟨W, hW⟩ : ∃ W, W = w.alloc (.cells #[.slice none 0 0] 26) := ⟨_, rfl⟩
  have hbW : Hid (Below w.heap.size w W) := by rw [hW]; exact bal (b0 w) _
  have hzW : W.heap.size = w.heap.size + 1 := by rw [hW]; simp
  have hr0 : Hid (W.heap[w.heap.size]? = some (.cells #[.slice none 0 0] 26 (0, 0))) := by rw [hW]; exact heap_alloc_new w _
  go_enter Try.func182, Try.ntmps182
  go_wp2_with fail
  rw [← hW]
  refine (l01From A zs c W hzc hc hz (h.out.be hbW.out)).mono ?_
  rintro e w1 ⟨g, rfl, hS1, hb1⟩
  have hr1 := Lib.hid ((hb1.out.block w.heap.size (by omega)).trans hr0.out)
  have hbw1 := Lib.hid (hbW.out.trans (hb1.out.mono (by omega)))
  have hgW : W.heap.size ≤ g := hS1.out.1
  have hz1 := hb1.out.size
  clear hbW hr0 hb1 hW
  go_wp2_with fail
  refine (l01Draw w1 _ g hS1).mono ?_
  rintro e w2 ⟨n, T, ct, ds, rfl, hn, hl, ht, ho, hS2, hg2⟩
  have hr2 := Lib.hid (res_keep hr1.out hg2.out (by omega))
  have hbw2 := Lib.hid (below_src hbw1.out hg2.out (by omega) (by omega))
  have hgl1 := hS1.out.lt
  have hz2 := hg2.out.size
  clear hr1 hbw1 hg2 hS1
  obtain ⟨V, hV⟩ : ∃ V, V = w2.alloc (.cells #[.slice T n ct] 26) := ⟨_, rfl⟩
  have hbV : Below w2.heap.size w2 V := by rw [hV]; exact bal (b0 w2) _
  have hbx : V.heap[w2.heap.size]? = some (.cells #[.slice T n ct] 26 (0, 0)) := by rw [hV]; exact heap_alloc_new w2 _
  have hQ : Hid (WithQ w W.heap.size w1.heap.size g w2.heap.size n T ct ds V) :=
    ⟨⟨hgl1, hz2, by omega, by omega, by omega, hgW⟩, hS2.out.be hbV, hbw2.out.trans (hbV.mono (by omega)), own_below ho.out hbV (Nat.le_refl _), hbx, (hbV.block _ (by omega)).trans hr2.out⟩
  clear hbV hbx hbw2 hr2 ho hS2
  go_wp2
  rw [← hV]
  clear hV
  obtain ⟨bt, hbt⟩ : ∃ bt, w2.heap.size = bt := ⟨_, rfl⟩
  rw [hbt] at hQ ⊢
  have hwn : IntKind.i64.wrap ((n : Int) - 1) = (n : Int) - 1 := IntWalk.i64_in _ (by omega)
  have QS := Lib.hid (fun (X : World) (hX : Hid (WithQ w W.heap.size w1.heap.size g bt n T ct ds X)) => (show X.cell? ⟨bt, 0, none⟩ = some (.slice T n ct) ∧ Hid (WithQ w W.heap.size w1.heap.size g bt n T ct ds X) from ⟨cell_of_one hX.out.box, hX⟩))
  have HN := Lib.hid (fun (X : World) (hX : Hid (WithQ w W.heap.size w1.heap.size g bt n T ct ds X)) => (l01N T n ct X).mono fun e w' h => (show e = .returned (.int .i64 (n : Int)) ∧ Hid (WithQ w W.heap.size w1.heap.size g bt n T ct ds w') from ⟨h.1, hX.out.be h.2⟩))
  have HV := Lib.hid (fun (X : World) (hX : Hid (WithQ w W.heap.size w1.heap.size g bt n T ct ds X)) => (l01Near ((n : Int) - 1) X W.heap.size g (by omega) (by omega) (Lib.hid hX.out.src)).mono fun e w' h => (show ∃ r : Int, e = .returned (.int .i64 r) ∧ (-4611686018427387904 ≤ r ∧ r ≤ 4611686018427387904) ∧ Hid (WithQ w W.heap.size w1.heap.size g bt n T ct ds w') from by
    obtain ⟨r, he, h1, h3, h4⟩ := h
    exact ⟨r, he, h1, hX.out.draw h4.out h3.out⟩))
  have K0 : Hid (WithQ w W.heap.size w1.heap.size g bt n T ct ds V.drew) := hQ.out.be (Below.refl _ _).drew
  have c0 := cell_of_one hQ.out.box
  clear hQ
  go_region_held3 (fun X => X.cell? ⟨bt, 0, none⟩ = some (.slice T n ct) ∧ Hid (WithQ w W.heap.size w1.heap.size g bt n T ct ds X)) (first | exact QS.out _ (by assumption)) (first | (go_at_call 169; refine (HN.out _ (by assumption)).mono ?_; rintro e w4 ⟨rfl, K4⟩) | (go_at_call 190; have _ := hr5; refine (HV.out _ (by assumption)).mono ?_; rintro e w6 ⟨r6, rfl, hr6, K6⟩) | (go_at_call 190; refine (HV.out _ (by assumption)).mono ?_; rintro e w5 ⟨r5, rfl, hr5, K5⟩))
  have cb := cell_of_one K6.out.box
  have hz6 : w1.heap.size ≤ w6.heap.size := by have := (Array.getElem?_eq_some_iff.1 K6.out.box).1; omega
  clear QS HN HV K0 K4 K5 c0 hwn
  go_wp2_with fail
  refine (l01Bad T n ct ds w6 W.heap.size w1.heap.size g hn hl hgl1 hz6 (Lib.hid K6.out.own) (Lib.hid K6.out.src)).mono ?_
  rintro e w7 ⟨m, A', c', zs', rfl, hm, hzl, ho7, hS7, hg7⟩
  have hr7 := res_keep K6.out.res hg7.out (by omega)
  have hrc := cell_of_one hr7
  have hrf := free_of_one hr7
  have F1 := Lib.hid (own_mono (base' := w.heap.size) (own_far (g := w.heap.size) (k := 0) ho7.out (by omega) (.slice A' m c')) (by omega))
  have F2 := Lib.hid (below_setCell (g := w.heap.size) (k := 0) (below_src K6.out.bel hg7.out (by omega) K6.out.bel.size) (Nat.le_refl _) (.slice A' m c'))
  clear hr7 K6 ho7 hS7 hg7
  go_wp2
  refine bodyPost_ret (v := .tuple #[.agg #[.slice A' m c'], .int .i64 r5, .int .i64 r6]) (by simp [results, Try.results182, go_sem, hrc]) rfl ?_
  exact ⟨m, A', c', zs', r5, r6, rfl, hm, ⟨hr5, hr6⟩, hzl, F1, F2⟩
end Go.Proofs.Ytdgcjkgbglofbaa

/- The model's DrawRankOfTree: what comes out of it. Written by gendraw.py. -/
namespace Go.Proofs.Ytdgcjkgbglofbaa
open Go.RowKit

set_option maxRecDepth 100000 in
set_option maxHeartbeats 4000000 in
theorem drawRankOfTree (A : Option Addr) (zs : List Int) (c : Nat) (w : World) (hzc : zs.length ≤ c) (hc : c ≤ 9223372036854775807) (hz : Hid (∀ x ∈ zs, 0 ≤ x ∧ x ≤ 255)) (h : Hid (Byts w w.heap.size A zs)) :
    Calls Try.prog 76 #[.slice A zs.length c] w fun e w' => TopT w w' e := by
  obtain ⟨W, hW⟩ : ∃ W, W = w.alloc (.cells #[.slice none 0 0] 26) := ⟨_, rfl⟩
  have hbW : Hid (Below w.heap.size w W) := by rw [hW]; exact bal (b0 w) _
  have hzW : W.heap.size = w.heap.size + 1 := by rw [hW]; simp
  have hr0 : Hid (W.heap[w.heap.size]? = some (.cells #[.slice none 0 0] 26 (0, 0))) := by rw [hW]; exact heap_alloc_new w _
  go_enter Try.func76, Try.ntmps76
  go_wp2_with fail
  rw [← hW]
  refine (l01From A zs c W hzc hc hz (h.out.be hbW.out)).mono ?_
  rintro e w1 ⟨g, rfl, hS1, hb1⟩
  have hr1 := Lib.hid ((hb1.out.block w.heap.size (by omega)).trans hr0.out)
  have hbw1 := Lib.hid (hbW.out.trans (hb1.out.mono (by omega)))
  have hgW : W.heap.size ≤ g := hS1.out.1
  have hz1 := hb1.out.size
  clear hbW hr0 hb1 hW
  go_wp2_with fail
  refine (l01Spoil w1 _ g hS1).mono ?_
  rintro e w2 ⟨m, A', c', xs, rfl, hm, hxl, ho, hS2, hg2⟩
  have hr2 := res_keep hr1.out hg2.out (by omega)
  have hrc := cell_of_one hr2
  have hrf := free_of_one hr2
  have F1 := Lib.hid (own_mono (base' := w.heap.size) (own_far (g := w.heap.size) (k := 0) ho.out (by omega) (.slice A' m c')) (by omega))
  have F2 := Lib.hid (below_setCell (g := w.heap.size) (k := 0) (below_src hbw1.out hg2.out (by omega) (by omega)) (Nat.le_refl _) (.slice A' m c'))
  clear hr1 hbw1 hr2 ho hS1 hS2 hg2
  go_wp2
  refine bodyPost_ret (v := .agg #[.slice A' m c']) (by simp [results, Try.results76, go_sem, hrc]) rfl ?_
  exact ⟨m, A', c', xs, rfl, hm, hxl, F1, F2⟩
end Go.Proofs.Ytdgcjkgbglofbaa

/- The model's DrawFirstTree and DrawTreeOfRank: what comes out of them. -/
namespace Go.Proofs.Ytdgcjkgbglofbaa
open Go.RowKit

theorem below_srcR {w w1 w2 : World} {D g : Nat} (h : Below D w w1) (k : w1.grownBy w2 (some g)) (hg : D ≤ g) (hD : D ≤ w1.heap.size) : Below D w w2 :=
  Below.grown h k hD (fun j e => by injection e with e; omega)

set_option maxRecDepth 100000 in
set_option maxHeartbeats 4000000 in
theorem drawFirstTree (A : Option Addr) (zs : List Int) (c : Nat) (w : World) (hzc : zs.length ≤ c) (hc : c ≤ 9223372036854775807) (hz : Hid (∀ x ∈ zs, 0 ≤ x ∧ x ≤ 255)) (h : Hid (Byts w w.heap.size A zs)) :
    Calls Try.prog 85 #[.slice A zs.length c] w fun e w' => ∃ r : Int, e = .returned (.int .i64 r) ∧ (-4611686018427387904 ≤ r ∧ r ≤ 4611686018427387904) ∧ Hid (Below w.heap.size w w') := by
  go_enter Try.func85, Try.ntmps85
  go_wp2_with fail
  refine (l01From A zs c w hzc hc hz h).mono ?_
  rintro e w1 ⟨g, rfl, hS1, hb1⟩
  go_wp2_with fail
  refine (l01Near 24 w1 _ g (by omega) (by omega) hS1).mono ?_
  rintro e w2 ⟨r, rfl, hr, _, hg2⟩
  have HB := Lib.hid (below_srcR hb1.out hg2.out hS1.out.1 hb1.out.size)
  go_wp2
  go_ret
  exact ⟨r, rfl, hr, HB⟩

set_option maxRecDepth 100000 in
set_option maxHeartbeats 8000000 in
theorem drawTreeOfRank (A : Option Addr) (zs : List Int) (c : Nat) (w : World) (hzc : zs.length ≤ c) (hc : c ≤ 9223372036854775807) (hz : Hid (∀ x ∈ zs, 0 ≤ x ∧ x ≤ 255)) (h : Hid (Byts w w.heap.size A zs)) :
    Calls Try.prog 82 #[.slice A zs.length c] w fun e w' => ∃ n r : Int, e = .returned (.tuple #[.int .i64 n, .int .i64 r]) ∧ ((-9223372036854775808 ≤ n ∧ n ≤ 9223372036854775807) ∧ (-9223372036854775808 ≤ r ∧ r ≤ 9223372036854775807)) ∧ Hid (Below w.heap.size w w') := by
  go_enter Try.func82, Try.ntmps82
  go_wp2_with fail
  refine (l01From A zs c w hzc hc hz h).mono ?_
  rintro e w1 ⟨g, rfl, hS1, hb1⟩
  have hgw : w.heap.size ≤ g := hS1.out.1
  go_wp2_with fail
  refine (l01Near 24 w1 _ g (by omega) (by omega) hS1).mono ?_
  rintro e w2 ⟨r0, rfl, hr0, hS2, hg2⟩
  have hb2 := Lib.hid (below_srcR hb1.out hg2.out hgw hb1.out.size)
  clear hb1 hg2 hS1
  have hS3 := Lib.hid (hS2.out.be (bal (b0 w2) (.cells #[.int .i64 1, .int .i64 2, .int .i64 3, .int .i64 4, .int .i64 5, .int .i64 8, .int .i64 12, .int .i64 20, .int .i64 r0] 2)))
  have hO := Lib.hid (off_new w2 g hS2.out.lt [1, 2, 3, 4, 5, 8, 12, 20, r0])
  simp only [List.map_cons, List.map_nil] at hO
  go_wp2_with fail
  refine (l01Pick (some ⟨w2.heap.size, 0, none⟩) [1, 2, 3, 4, 5, 8, 12, 20, r0] 9 9 _ _ g rfl (by omega) (by omega) hO hS3).mono ?_
  rintro e w3 ⟨n, rfl, hn, hS4, hg3⟩
  have hnb : -4611686018427387904 ≤ n ∧ n ≤ 4611686018427387904 := by
    have := hn.out
    simp only [List.mem_cons, List.not_mem_nil, or_false] at this
    omega
  have hb3 := Lib.hid (below_srcR (bal hb2.out (.cells #[.int .i64 1, .int .i64 2, .int .i64 3, .int .i64 4, .int .i64 5, .int .i64 8, .int .i64 12, .int .i64 20, .int .i64 r0] 2)) hg3.out hgw (by simp; exact Nat.le_succ_of_le hb2.out.size))
  clear hO hS3 hS2 hb2 hg3 hn
  have hS5 := Lib.hid (hS4.out.be (bal (b0 w3) (.cells #[.int .i64 3, .int .i64 20, .int .i64 1000, .int .i64 100000000] 2)))
  have hO := Lib.hid (off_new w3 g hS4.out.lt [3, 20, 1000, 100000000])
  simp only [List.map_cons, List.map_nil] at hO
  go_wp2_with fail
  refine (l01Pick (some ⟨w3.heap.size, 0, none⟩) [3, 20, 1000, 100000000] 4 4 _ _ g rfl (by omega) (by omega) hO hS5).mono ?_
  rintro e w4 ⟨q, rfl, hq, hS6, hg4⟩
  have hqb : 3 ≤ q ∧ q ≤ 100000000 := by
    have := hq.out
    simp only [List.mem_cons, List.not_mem_nil, or_false] at this
    omega
  have hb4 := Lib.hid (below_srcR (bal hb3.out (.cells #[.int .i64 3, .int .i64 20, .int .i64 1000, .int .i64 100000000] 2)) hg4.out hgw (by simp; exact Nat.le_succ_of_le hb3.out.size))
  clear hO hS5 hS4 hb3 hg4 hq
  go_wp2_with fail
  refine (l01Near q w4 _ g (by omega) (by omega) hS6).mono ?_
  rintro e w5 ⟨r, rfl, hr, hS7, hg5⟩
  have hb5 := Lib.hid (below_srcR hb4.out hg5.out hgw hb4.out.size)
  clear hb4 hg5 hS6
  obtain ⟨ct, bad, hF⟩ : ∃ P p1, Hid (F_CountTrees n = (P, p1)) := ⟨_, _, rfl⟩
  have hcb : bad = 0 → 0 ≤ ct ∧ ct ≤ 1152921504606846976 := fun e => by
    have h1 := hF.out
    rw [F_CountTrees] at h1
    split at h1
    · injection h1 with h1 h2
      have := M.L_small (n := n.toNat) (t := 1) (by omega)
      omega
    · injection h1 with h1 h2
      omega
  have HC := Lib.hid (spec_CountTrees n w5 (by omega) (by omega))
  rw [hF.out] at HC
  simp only at HC
  go_wp2_with fail
  refine HC.out.mono ?_
  rintro e w6 ⟨rfl, hb6⟩
  have hS8 := Lib.hid (hS7.out.be hb6)
  have hb7 := Lib.hid (btr hb5.out hb6)
  clear hS7 hb5 hb6 HC
  by_cases h0 : bad = 0
  · subst h0
    obtain ⟨hc0, hc1⟩ := hcb rfl
    clear hcb
    go_wp2_with fail
    refine (l01Next 3 w6 _ g (by omega) hS8).mono ?_
    rintro e w7 ⟨x, rfl, ⟨hx0, hx1⟩, hS9, hg7⟩
    have hb8 := Lib.hid (below_srcR hb7.out hg7.out hgw hb7.out.size)
    clear hb7 hg7 hS8
    by_cases hx : x = 0
    · subst hx
      go_wp2_with fail
      refine (l01Next 2 w7 _ g (by omega) hS9).mono ?_
      rintro e w8 ⟨y, rfl, ⟨hy0, hy1⟩, hS10, hg8⟩
      have hb9 := Lib.hid (below_srcR hb8.out hg8.out hgw hb8.out.size)
      clear hb8 hg8 hS9 hS10
      go_wp2
      refine bodyPost_ret (v := .tuple #[.int .i64 n, .int .i64 (ct - 1 + y)]) (by simp [results, Try.results82, go_sem]) rfl ?_
      exact ⟨n, _, rfl, ⟨by omega, by omega⟩, hb9⟩
    · have hxb : (x == 0) = false := by simp [hx]
      go_wp2
      refine bodyPost_ret (v := .tuple #[.int .i64 n, .int .i64 (r)]) (by simp [results, Try.results82, go_sem]) rfl ?_
      exact ⟨n, r, rfl, ⟨by omega, by omega⟩, hb8⟩
  · have hbb : (bad == 0) = false := by simp [h0]
    go_wp2
    refine bodyPost_ret (v := .tuple #[.int .i64 n, .int .i64 (r)]) (by simp [results, Try.results82, go_sem]) rfl ?_
    exact ⟨n, r, rfl, ⟨by omega, by omega⟩, hb7⟩
end Go.Proofs.Ytdgcjkgbglofbaa

/- The walk of the laws' likeInts: two lists of numbers are equal. -/
namespace Go.Proofs.Ytdgcjkgbglofbaa
open Go.RowKit

set_option maxHeartbeats 400000 in
theorem likeInts (A A' : Option Addr) (xs ys : List Int) (c c' : Nat) (w : World) (hy : ys.length ≤ 1000000000000000)
    (h : Ints w w.heap.size A xs) (h' : Ints w w.heap.size A' ys) :
    Calls Try.prog 33 #[.slice A xs.length c, .slice A' ys.length c'] w fun e w' => e = .returned (.bool (decide (xs = ys))) ∧ Below w.heap.size w w' := by
  by_cases hl : xs.length = ys.length
  · have hl' : ((xs.length : Int) != (ys.length : Int)) = false := by simp [hl]
    have Hl := Lib.hid hl
    have hl1 : xs.length ≤ ys.length := by omega
    clear hl
    go_enter Try.func33, Try.ntmps33
    go_wp2
    go_loopw [5] (fun i wr => ∃ k : Nat, k ≤ xs.length ∧ i = .int .i64 k ∧ Hid (xs.take k = ys.take k) ∧ Below w.heap.size w wr) (fun i _ => xs.length - (intOf i).toNat)
    case atStart => exact ⟨0, Nat.zero_le _, rfl, rfl, Below.refl _ _⟩
    case round =>
      obtain ⟨k, hk, rfl, he, hb⟩ := hrel
      by_cases hlt : k < xs.length
      · obtain ⟨b, off, x, rfl, hbB, g, hX⟩ := (h.below hb (Nat.le_refl _)).at_ hlt
        obtain ⟨b', off', y, rfl, hbB', g', hY⟩ := (h'.below hb (Nat.le_refl _)).at_ (k := k) (by omega)
        clear h h'
        by_cases hq : x = y
        · subst hq
          have hs := take_eq_succ hX hY he
          go_wp2
          go_quiet (fail)
          go_wp2
          go_roundw
          case rel => exact ⟨k + 1, by omega, by go_num, hs, below_drewN hb _⟩
          case measure => simp [intOf]; omega
        · have hq' : (x != y) = true := by simp [hq]
          have hs := ne_of_at hX hY hq
          clear hq
          go_wp2
          go_quiet (fail)
          go_wp2
          go_ret
          exact ⟨by simp [hs], below_drewN hb _⟩
      · obtain rfl : k = xs.length := by omega
        have hs : xs = ys := by
          have := he.out
          rw [List.take_length, Hl.out, List.take_length] at this
          exact this
        have Hs := Lib.hid hs
        clear hs
        go_wp2
        go_ret
        exact ⟨by simp [Hs.out], hb⟩
  · have hl' : ((xs.length : Int) != (ys.length : Int)) = true := by simp; omega
    go_enter Try.func33, Try.ntmps33
    go_wp2
    go_ret
    refine ⟨?_, Below.refl _ _⟩
    have : ¬ xs = ys := fun e => hl (by rw [e])
    simp [this]

theorem likeIntsT (A A' : Option Addr) (xs : List Int) (c c' : Nat) (w : World) (hy : xs.length ≤ 1000000000000000) (h : Ints w w.heap.size A xs) (h' : Ints w w.heap.size A' xs) :
    Calls Try.prog 33 #[.slice A xs.length c, .slice A' xs.length c'] w fun e w' => e = .returned (.bool true) ∧ Below w.heap.size w w' := by
  have := likeInts A A' xs xs c c' w hy h h'
  rwa [decide_eq_true rfl] at this
end Go.Proofs.Ytdgcjkgbglofbaa

/- The walk of the laws' tree9: two trees are equal. -/
namespace Go.Proofs.Ytdgcjkgbglofbaa
open Go.RowKit

theorem likeTree9 (A A' : Option Addr) (xs : List Int) (c c' : Nat) (w : World) (hy : xs.length ≤ 1000000000000000) (h : Ints w w.heap.size A xs) (h' : Ints w w.heap.size A' xs) :
    Calls Try.prog 81 #[.agg #[.slice A xs.length c], .agg #[.slice A' xs.length c']] w fun e w' => e = .returned (.bool true) ∧ Below w.heap.size w w' := by
  have C := likeIntsT A A' xs c c' _ hy ((h.al (.cells #[.slice A xs.length c] 26)).al (.cells #[.slice A' xs.length c'] 26)) ((h'.al _).al _)
  have HC := Lib.hid C
  clear C
  go_enter Try.func81, Try.ntmps81
  go_wp2_with fail
  refine HC.out.mono ?_
  rintro e w1 ⟨rfl, hb⟩
  have hB := btr (bal (bal (b0 w) _) _) hb
  go_wp2
  go_ret
  exact ⟨rfl, hB⟩
end Go.Proofs.Ytdgcjkgbglofbaa

/- The walk of the laws' big: is a code longer than 4096 bytes? -/
namespace Go.Proofs.Ytdgcjkgbglofbaa
open Go.RowKit

theorem big_yes (A : Option Addr) (n c : Nat) (w : World) (hn : 4096 < n) : Calls Try.prog 17 #[.slice A n c] w fun e w' => e = .returned (.bool true) ∧ w = w' := by
  have h : (4096 : Int) < (n : Int) := by omega
  go_enter Try.func17, Try.ntmps17
  go_wp2
  go_ret
  exact ⟨rfl, rfl⟩
theorem big_no (A : Option Addr) (n c : Nat) (w : World) (hn : ¬ 4096 < n) : Calls Try.prog 17 #[.slice A n c] w fun e w' => e = .returned (.bool false) ∧ w = w' := by
  have h : ¬ (4096 : Int) < (n : Int) := by omega
  go_enter Try.func17, Try.ntmps17
  go_wp2
  go_ret
  exact ⟨rfl, rfl⟩
end Go.Proofs.Ytdgcjkgbglofbaa

/- The walk of the law FnRanks: it returns true at every code, and writes into nothing that was there. Written by genlawranks.py. -/
namespace Go.Proofs.Ytdgcjkgbglofbaa
open Go.RowKit

set_option maxHeartbeats 16000000 in
set_option maxRecDepth 100000 in
theorem lawFnRanks (A : Option Addr) (xs : List Int) (c : Nat) (w : World) (hxc : xs.length ≤ c) (hc : c ≤ 9223372036854775807) (hx : ∀ x ∈ xs, 0 ≤ x ∧ x ≤ 255) (h : Byts w w.heap.size A xs) :
    Calls Try.prog 5 #[.slice A xs.length c] w fun e w' => e = .returned (.bool true) ∧ Below w.heap.size w w' := by
  by_cases hbig : 4096 < xs.length
  · go_enter Try.func5, Try.ntmps5
    go_wp2_with fail
    refine (big_yes A xs.length c w hbig).mono ?_
    rintro e w1 ⟨rfl, rfl⟩
    go_wp2
    go_ret
    exact ⟨rfl, b0 w⟩
  · have hxB := Lib.hid hx
    have hBY := Lib.hid h
    clear hx h
    go_enter Try.func5, Try.ntmps5
    go_wp2_with fail
    refine (big_no A xs.length c w hbig).mono ?_
    rintro e w1 ⟨rfl, rfl⟩
    go_wp2_with fail
    refine (drawRankOfTree A xs c w hxc hc hxB hBY).mono ?_
    rintro e w1 ⟨m1, T1, ct1, ts, rfl, hm1, hl1, o1, B⟩
    obtain rfl := hl1.out
    have hcap1 := own_cap o1.out
    have hle1 : ts.length ≤ 1048576 := by omega
    obtain ⟨bt, hbt⟩ : ∃ bt, Hid (w1.heap.size = bt) := ⟨_, rfl⟩
    have cT : (w1.alloc (.cells #[.slice T1 ts.length ct1] 26)).cell? ⟨bt, 0, none⟩ = some (.slice T1 ts.length ct1) := by rw [← hbt.out]; simp
    have O1 := Lib.hid (o1.out.alloc (.cells #[.slice T1 ts.length ct1] 26))
    replace B := Lib.hid (bal B.out (.cells #[.slice T1 ts.length ct1] 26))
    clear o1
    obtain ⟨rk, q1, hF1⟩ : ∃ P p1, Hid (F_RankOfTree ts = (P, p1)) := ⟨_, _, rfl⟩
    obtain ⟨nx, q2, hF2⟩ : ∃ P p1, Hid (F_NextTree ts = (P, p1)) := ⟨_, _, rfl⟩
    have HI1 := Lib.hid (fun w' h' => impl_RankOfTree T1 ts ct1 w' hle1 hcap1 h')
    have HS1 := Lib.hid (fun w' h' => spec_RankOfTree T1 ts ct1 w' hle1 hcap1 h')
    have HI2 := Lib.hid (fun w' h' => impl_NextTree T1 ts ct1 w' hle1 hcap1 h')
    have HS2 := Lib.hid (fun w' h' => spec_NextTree T1 ts ct1 w' hle1 hcap1 h')
    rw [hF1.out] at HI1 HS1
    rw [hF2.out] at HI2 HS2
    simp only at HI1 HS1 HI2 HS2
    have hnx := F_NextTree_len ts
    rw [hF2.out] at hnx
    simp only at hnx
    have hnp1 : (q1 != q1) = false := by simp
    have hnp2 : (q2 != q2) = false := by simp
    have hnrk : (rk != rk) = false := by simp
    go_wp2_with fail
    rw [hbt.out]
    refine (HI1.out _ (ints_of_own64 O1.out)).mono ?_
    rintro e w2 ⟨rfl, hb⟩
    replace B := Lib.hid (btr B.out hb)
    replace cT := cell_be cT hb
    replace O1 := Lib.hid (own_be O1.out hb)
    clear hb
    go_wp2_with fail
    refine (HS1.out _ (ints_of_own64 O1.out)).mono ?_
    rintro e w3 ⟨rfl, hb⟩
    replace B := Lib.hid (btr B.out hb)
    replace cT := cell_be cT hb
    replace O1 := Lib.hid (own_be O1.out hb)
    clear hb HI1 HS1
    go_wp2_with fail
    refine (HI2.out _ (ints_of_own64 O1.out)).mono ?_
    rintro e w4 ⟨A2, c2, rfl, o2, hb⟩
    replace B := Lib.hid (btr B.out hb)
    replace cT := cell_be cT hb
    replace O1 := Lib.hid (own_be O1.out hb)
    have hcap2 := own_cap o2
    obtain ⟨bN, hbN⟩ : ∃ b, Hid (w4.heap.size = b) := ⟨_, rfl⟩
    have cN : (w4.alloc (.cells #[.slice A2 nx.length c2] 26)).cell? ⟨bN, 0, none⟩ = some (.slice A2 nx.length c2) := by rw [← hbN.out]; simp
    have ON := Lib.hid (o2.alloc (.cells #[.slice A2 nx.length c2] 26))
    replace B := Lib.hid (bal B.out (.cells #[.slice A2 nx.length c2] 26))
    replace cT := cell_al cT (.cells #[.slice A2 nx.length c2] 26)
    replace O1 := Lib.hid (own_be O1.out (bal (b0 _) (.cells #[.slice A2 nx.length c2] 26)))
    clear hb o2
    go_wp2_with fail
    rw [hbN.out]
    refine (HS2.out _ (ints_of_own64 O1.out)).mono ?_
    rintro e w5 ⟨A3, c3, rfl, o3, hb⟩
    replace B := Lib.hid (btr B.out hb)
    replace cT := cell_be cT hb
    replace O1 := Lib.hid (own_be O1.out hb)
    replace cN := cell_be cN hb
    replace ON := Lib.hid (own_be ON.out hb)
    obtain ⟨bM, hbM⟩ : ∃ b, Hid (w5.heap.size = b) := ⟨_, rfl⟩
    have cM : (w5.alloc (.cells #[.slice A3 nx.length c3] 26)).cell? ⟨bM, 0, none⟩ = some (.slice A3 nx.length c3) := by rw [← hbM.out]; simp
    have OM := Lib.hid (o3.alloc (.cells #[.slice A3 nx.length c3] 26))
    replace B := Lib.hid (bal B.out (.cells #[.slice A3 nx.length c3] 26))
    replace cT := cell_al cT (.cells #[.slice A3 nx.length c3] 26)
    replace O1 := Lib.hid (own_be O1.out (bal (b0 _) (.cells #[.slice A3 nx.length c3] 26)))
    replace cN := cell_al cN (.cells #[.slice A3 nx.length c3] 26)
    replace ON := Lib.hid (own_be ON.out (bal (b0 _) (.cells #[.slice A3 nx.length c3] 26)))
    clear hb o3 HI2 HS2
    go_wp2_with fail
    rw [hbM.out]
    refine (likeTree9 A2 A3 nx c2 c3 _ (by omega) (ints_of_own64 ON.out) (ints_of_own64 OM.out)).mono ?_
    rintro e w6 ⟨rfl, hb⟩
    replace B := Lib.hid (btr B.out hb)
    replace cT := cell_be cT hb
    replace O1 := Lib.hid (own_be O1.out hb)
    replace cN := cell_be cN hb
    replace ON := Lib.hid (own_be ON.out hb)
    replace cM := cell_be cM hb
    replace OM := Lib.hid (own_be OM.out hb)
    clear hb
    clear cM OM
    go_wp2_with fail
    refine (drawTreeOfRank A xs c _ hxc hc hxB (hBY.out.be B.out)).mono ?_
    rintro e w7 ⟨n, r, rfl, ⟨hn, hr⟩, hb⟩
    replace B := Lib.hid (btr B.out hb.out)
    replace cT := cell_be cT hb.out
    replace O1 := Lib.hid (own_be O1.out hb.out)
    replace cN := cell_be cN hb.out
    replace ON := Lib.hid (own_be ON.out hb.out)
    clear hb
    obtain ⟨md, q3, hF3⟩ : ∃ P p1, Hid (F_TreeOfRank n r = (P, p1)) := ⟨_, _, rfl⟩
    have HI3 := Lib.hid (fun w' => impl_TreeOfRank n r w' hn.1 hn.2 hr.1 hr.2)
    have HS3 := Lib.hid (fun w' => spec_TreeOfRank n r w' hn.1 hn.2 hr.1 hr.2)
    rw [hF3.out] at HI3 HS3
    simp only at HI3 HS3
    have hmd := F_TreeOfRank_len n r
    rw [hF3.out] at hmd
    simp only at hmd
    have hnp3 : (q3 != q3) = false := by simp
    go_wp2_with fail
    refine (HI3.out _).mono ?_
    rintro e w8 ⟨A4, c4, rfl, o4, hb⟩
    replace B := Lib.hid (btr B.out hb)
    replace cT := cell_be cT hb
    replace O1 := Lib.hid (own_be O1.out hb)
    replace cN := cell_be cN hb
    replace ON := Lib.hid (own_be ON.out hb)
    have hcap4 := own_cap o4
    obtain ⟨bD, hbD⟩ : ∃ b, Hid (w8.heap.size = b) := ⟨_, rfl⟩
    have cD : (w8.alloc (.cells #[.slice A4 md.length c4] 26)).cell? ⟨bD, 0, none⟩ = some (.slice A4 md.length c4) := by rw [← hbD.out]; simp
    have OD := Lib.hid (o4.alloc (.cells #[.slice A4 md.length c4] 26))
    replace B := Lib.hid (bal B.out (.cells #[.slice A4 md.length c4] 26))
    replace cT := cell_al cT (.cells #[.slice A4 md.length c4] 26)
    replace O1 := Lib.hid (own_be O1.out (bal (b0 _) (.cells #[.slice A4 md.length c4] 26)))
    replace cN := cell_al cN (.cells #[.slice A4 md.length c4] 26)
    replace ON := Lib.hid (own_be ON.out (bal (b0 _) (.cells #[.slice A4 md.length c4] 26)))
    clear hb o4
    go_wp2_with fail
    rw [hbD.out]
    refine (HS3.out _).mono ?_
    rintro e w9 ⟨A5, c5, rfl, o5, hb⟩
    replace B := Lib.hid (btr B.out hb)
    replace cT := cell_be cT hb
    replace O1 := Lib.hid (own_be O1.out hb)
    replace cN := cell_be cN hb
    replace ON := Lib.hid (own_be ON.out hb)
    replace cD := cell_be cD hb
    replace OD := Lib.hid (own_be OD.out hb)
    obtain ⟨bE, hbE⟩ : ∃ b, Hid (w9.heap.size = b) := ⟨_, rfl⟩
    have cE : (w9.alloc (.cells #[.slice A5 md.length c5] 26)).cell? ⟨bE, 0, none⟩ = some (.slice A5 md.length c5) := by rw [← hbE.out]; simp
    have OE := Lib.hid (o5.alloc (.cells #[.slice A5 md.length c5] 26))
    replace B := Lib.hid (bal B.out (.cells #[.slice A5 md.length c5] 26))
    replace cT := cell_al cT (.cells #[.slice A5 md.length c5] 26)
    replace O1 := Lib.hid (own_be O1.out (bal (b0 _) (.cells #[.slice A5 md.length c5] 26)))
    replace cN := cell_al cN (.cells #[.slice A5 md.length c5] 26)
    replace ON := Lib.hid (own_be ON.out (bal (b0 _) (.cells #[.slice A5 md.length c5] 26)))
    replace cD := cell_al cD (.cells #[.slice A5 md.length c5] 26)
    replace OD := Lib.hid (own_be OD.out (bal (b0 _) (.cells #[.slice A5 md.length c5] 26)))
    clear hb o5 HI3 HS3
    go_wp2_with fail
    rw [hbE.out]
    refine (likeTree9 A4 A5 md c4 c5 _ (by omega) (ints_of_own64 OD.out) (ints_of_own64 OE.out)).mono ?_
    rintro e w10 ⟨rfl, hb⟩
    replace B := Lib.hid (btr B.out hb)
    replace cT := cell_be cT hb
    replace O1 := Lib.hid (own_be O1.out hb)
    replace cN := cell_be cN hb
    replace ON := Lib.hid (own_be ON.out hb)
    replace cD := cell_be cD hb
    replace OD := Lib.hid (own_be OD.out hb)
    replace cE := cell_be cE hb
    replace OE := Lib.hid (own_be OE.out hb)
    clear hb
    clear cE OE
    go_wp2_with fail
    refine (drawFirstTree A xs c _ hxc hc hxB (hBY.out.be B.out)).mono ?_
    rintro e w11 ⟨k, rfl, hk, hb⟩
    replace B := Lib.hid (btr B.out hb.out)
    replace cT := cell_be cT hb.out
    replace O1 := Lib.hid (own_be O1.out hb.out)
    replace cN := cell_be cN hb.out
    replace ON := Lib.hid (own_be ON.out hb.out)
    replace cD := cell_be cD hb.out
    replace OD := Lib.hid (own_be OD.out hb.out)
    clear hb hBY hxB
    obtain ⟨fr, q4, hF4⟩ : ∃ P p1, Hid (F_FirstTree k = (P, p1)) := ⟨_, _, rfl⟩
    obtain ⟨la, q5, hF5⟩ : ∃ P p1, Hid (F_LastTree k = (P, p1)) := ⟨_, _, rfl⟩
    have HI4 := Lib.hid (fun w' => impl_FirstTree k w' (by omega) (by omega))
    have HS4 := Lib.hid (fun w' => spec_FirstTree k w' (by omega) (by omega))
    rw [hF4.out] at HI4 HS4
    simp only at HI4 HS4
    have hlfr := F_FirstTree_len k
    rw [hF4.out] at hlfr
    simp only at hlfr
    have hnp4 : (q4 != q4) = false := by simp
    have HI5 := Lib.hid (fun w' => impl_LastTree k w' (by omega) (by omega))
    have HS5 := Lib.hid (fun w' => spec_LastTree k w' (by omega) (by omega))
    rw [hF5.out] at HI5 HS5
    simp only at HI5 HS5
    have hlla := F_LastTree_len k
    rw [hF5.out] at hlla
    simp only at hlla
    have hnp5 : (q5 != q5) = false := by simp
    go_wp2_with fail
    refine (HI4.out _).mono ?_
    rintro e w12 ⟨AR, cR', rfl, o, hb⟩
    replace B := Lib.hid (btr B.out hb)
    replace cT := cell_be cT hb
    replace O1 := Lib.hid (own_be O1.out hb)
    replace cN := cell_be cN hb
    replace ON := Lib.hid (own_be ON.out hb)
    replace cD := cell_be cD hb
    replace OD := Lib.hid (own_be OD.out hb)
    have hcapR := own_cap o
    obtain ⟨bR, hbR⟩ : ∃ b, Hid (w12.heap.size = b) := ⟨_, rfl⟩
    have cR : (w12.alloc (.cells #[.slice AR fr.length cR'] 26)).cell? ⟨bR, 0, none⟩ = some (.slice AR fr.length cR') := by rw [← hbR.out]; simp
    have OR := Lib.hid (o.alloc (.cells #[.slice AR fr.length cR'] 26))
    replace B := Lib.hid (bal B.out (.cells #[.slice AR fr.length cR'] 26))
    replace cT := cell_al cT (.cells #[.slice AR fr.length cR'] 26)
    replace O1 := Lib.hid (own_be O1.out (bal (b0 _) (.cells #[.slice AR fr.length cR'] 26)))
    replace cN := cell_al cN (.cells #[.slice AR fr.length cR'] 26)
    replace ON := Lib.hid (own_be ON.out (bal (b0 _) (.cells #[.slice AR fr.length cR'] 26)))
    replace cD := cell_al cD (.cells #[.slice AR fr.length cR'] 26)
    replace OD := Lib.hid (own_be OD.out (bal (b0 _) (.cells #[.slice AR fr.length cR'] 26)))
    clear hb o
    go_wp2_with fail
    rw [hbR.out]
    refine (HS4.out _).mono ?_
    rintro e w13 ⟨AS, cS', rfl, o, hb⟩
    replace B := Lib.hid (btr B.out hb)
    replace cT := cell_be cT hb
    replace O1 := Lib.hid (own_be O1.out hb)
    replace cN := cell_be cN hb
    replace ON := Lib.hid (own_be ON.out hb)
    replace cD := cell_be cD hb
    replace OD := Lib.hid (own_be OD.out hb)
    replace cR := cell_be cR hb
    replace OR := Lib.hid (own_be OR.out hb)
    obtain ⟨bS, hbS⟩ : ∃ b, Hid (w13.heap.size = b) := ⟨_, rfl⟩
    have cS : (w13.alloc (.cells #[.slice AS fr.length cS'] 26)).cell? ⟨bS, 0, none⟩ = some (.slice AS fr.length cS') := by rw [← hbS.out]; simp
    have OS := Lib.hid (o.alloc (.cells #[.slice AS fr.length cS'] 26))
    replace B := Lib.hid (bal B.out (.cells #[.slice AS fr.length cS'] 26))
    replace cT := cell_al cT (.cells #[.slice AS fr.length cS'] 26)
    replace O1 := Lib.hid (own_be O1.out (bal (b0 _) (.cells #[.slice AS fr.length cS'] 26)))
    replace cN := cell_al cN (.cells #[.slice AS fr.length cS'] 26)
    replace ON := Lib.hid (own_be ON.out (bal (b0 _) (.cells #[.slice AS fr.length cS'] 26)))
    replace cD := cell_al cD (.cells #[.slice AS fr.length cS'] 26)
    replace OD := Lib.hid (own_be OD.out (bal (b0 _) (.cells #[.slice AS fr.length cS'] 26)))
    replace cR := cell_al cR (.cells #[.slice AS fr.length cS'] 26)
    replace OR := Lib.hid (own_be OR.out (bal (b0 _) (.cells #[.slice AS fr.length cS'] 26)))
    clear hb o HI4 HS4
    go_wp2_with fail
    rw [hbS.out]
    refine (likeTree9 AR AS fr cR' cS' _ (by omega) (ints_of_own64 OR.out) (ints_of_own64 OS.out)).mono ?_
    rintro e w14 ⟨rfl, hb⟩
    replace B := Lib.hid (btr B.out hb)
    replace cT := cell_be cT hb
    replace O1 := Lib.hid (own_be O1.out hb)
    replace cN := cell_be cN hb
    replace ON := Lib.hid (own_be ON.out hb)
    replace cD := cell_be cD hb
    replace OD := Lib.hid (own_be OD.out hb)
    replace cR := cell_be cR hb
    replace OR := Lib.hid (own_be OR.out hb)
    replace cS := cell_be cS hb
    replace OS := Lib.hid (own_be OS.out hb)
    clear hb
    clear cS OS
    go_wp2_with fail
    refine (HI5.out _).mono ?_
    rintro e w15 ⟨AP, cP', rfl, o, hb⟩
    replace B := Lib.hid (btr B.out hb)
    replace cT := cell_be cT hb
    replace O1 := Lib.hid (own_be O1.out hb)
    replace cN := cell_be cN hb
    replace ON := Lib.hid (own_be ON.out hb)
    replace cD := cell_be cD hb
    replace OD := Lib.hid (own_be OD.out hb)
    replace cR := cell_be cR hb
    replace OR := Lib.hid (own_be OR.out hb)
    have hcapP := own_cap o
    obtain ⟨bP, hbP⟩ : ∃ b, Hid (w15.heap.size = b) := ⟨_, rfl⟩
    have cP : (w15.alloc (.cells #[.slice AP la.length cP'] 26)).cell? ⟨bP, 0, none⟩ = some (.slice AP la.length cP') := by rw [← hbP.out]; simp
    have OP := Lib.hid (o.alloc (.cells #[.slice AP la.length cP'] 26))
    replace B := Lib.hid (bal B.out (.cells #[.slice AP la.length cP'] 26))
    replace cT := cell_al cT (.cells #[.slice AP la.length cP'] 26)
    replace O1 := Lib.hid (own_be O1.out (bal (b0 _) (.cells #[.slice AP la.length cP'] 26)))
    replace cN := cell_al cN (.cells #[.slice AP la.length cP'] 26)
    replace ON := Lib.hid (own_be ON.out (bal (b0 _) (.cells #[.slice AP la.length cP'] 26)))
    replace cD := cell_al cD (.cells #[.slice AP la.length cP'] 26)
    replace OD := Lib.hid (own_be OD.out (bal (b0 _) (.cells #[.slice AP la.length cP'] 26)))
    replace cR := cell_al cR (.cells #[.slice AP la.length cP'] 26)
    replace OR := Lib.hid (own_be OR.out (bal (b0 _) (.cells #[.slice AP la.length cP'] 26)))
    clear hb o
    go_wp2_with fail
    rw [hbP.out]
    refine (HS5.out _).mono ?_
    rintro e w16 ⟨AQ, cQ', rfl, o, hb⟩
    replace B := Lib.hid (btr B.out hb)
    replace cT := cell_be cT hb
    replace O1 := Lib.hid (own_be O1.out hb)
    replace cN := cell_be cN hb
    replace ON := Lib.hid (own_be ON.out hb)
    replace cD := cell_be cD hb
    replace OD := Lib.hid (own_be OD.out hb)
    replace cR := cell_be cR hb
    replace OR := Lib.hid (own_be OR.out hb)
    replace cP := cell_be cP hb
    replace OP := Lib.hid (own_be OP.out hb)
    obtain ⟨bQ, hbQ⟩ : ∃ b, Hid (w16.heap.size = b) := ⟨_, rfl⟩
    have cQ : (w16.alloc (.cells #[.slice AQ la.length cQ'] 26)).cell? ⟨bQ, 0, none⟩ = some (.slice AQ la.length cQ') := by rw [← hbQ.out]; simp
    have OQ := Lib.hid (o.alloc (.cells #[.slice AQ la.length cQ'] 26))
    replace B := Lib.hid (bal B.out (.cells #[.slice AQ la.length cQ'] 26))
    replace cT := cell_al cT (.cells #[.slice AQ la.length cQ'] 26)
    replace O1 := Lib.hid (own_be O1.out (bal (b0 _) (.cells #[.slice AQ la.length cQ'] 26)))
    replace cN := cell_al cN (.cells #[.slice AQ la.length cQ'] 26)
    replace ON := Lib.hid (own_be ON.out (bal (b0 _) (.cells #[.slice AQ la.length cQ'] 26)))
    replace cD := cell_al cD (.cells #[.slice AQ la.length cQ'] 26)
    replace OD := Lib.hid (own_be OD.out (bal (b0 _) (.cells #[.slice AQ la.length cQ'] 26)))
    replace cR := cell_al cR (.cells #[.slice AQ la.length cQ'] 26)
    replace OR := Lib.hid (own_be OR.out (bal (b0 _) (.cells #[.slice AQ la.length cQ'] 26)))
    replace cP := cell_al cP (.cells #[.slice AQ la.length cQ'] 26)
    replace OP := Lib.hid (own_be OP.out (bal (b0 _) (.cells #[.slice AQ la.length cQ'] 26)))
    clear hb o HI5 HS5
    go_wp2_with fail
    rw [hbQ.out]
    refine (likeTree9 AP AQ la cP' cQ' _ (by omega) (ints_of_own64 OP.out) (ints_of_own64 OQ.out)).mono ?_
    rintro e w17 ⟨rfl, hb⟩
    replace B := Lib.hid (btr B.out hb)
    replace cT := cell_be cT hb
    replace O1 := Lib.hid (own_be O1.out hb)
    replace cN := cell_be cN hb
    replace ON := Lib.hid (own_be ON.out hb)
    replace cD := cell_be cD hb
    replace OD := Lib.hid (own_be OD.out hb)
    replace cR := cell_be cR hb
    replace OR := Lib.hid (own_be OR.out hb)
    replace cP := cell_be cP hb
    replace OP := Lib.hid (own_be OP.out hb)
    replace cQ := cell_be cQ hb
    replace OQ := Lib.hid (own_be OQ.out hb)
    clear hb
    clear cQ OQ
    clear hnp1 hnp2 hnrk hnp3 hnp4 hnp5
    go_upto_if 149 with fail
    go_cut [4] (fun s4 wx => s4 = .int .i64 rk ∧ Hid (Below w17.heap.size w17 wx))
    case first => as_aux_lemma =>
      by_cases h3 : q3 = 0
      · subst h3
        have HI := Lib.hid (fun w' h' => impl_RankOfTree A4 md c4 w' (by omega) hcap4 h')
        rw [rank_made hF3.out] at HI
        simp only at HI
        have hnr : (r != r) = false := by simp
        go_wp2_with fail
        refine (HI.out _ (ints_of_own64 OD.out)).mono ?_
        rintro e w18 ⟨rfl, hb⟩
        have HB := Lib.hid hb
        clear hb
        go_wp2
        go_meet
        case rel => exact ⟨rfl, HB⟩
      · have hb3 : (q3 == 0) = false := by simp [h3]
        go_wp2
        go_meet
        case rel => exact ⟨rfl, b0 _⟩
    case rest => as_aux_lemma =>
      obtain ⟨rfl, hb⟩ := hcut
      replace B := Lib.hid (btr B.out hb.out)
      replace cT := cell_be cT hb.out
      replace O1 := Lib.hid (own_be O1.out hb.out)
      replace cN := cell_be cN hb.out
      replace ON := Lib.hid (own_be ON.out hb.out)
      replace cD := cell_be cD hb.out
      replace OD := Lib.hid (own_be OD.out hb.out)
      replace cR := cell_be cR hb.out
      replace OR := Lib.hid (own_be OR.out hb.out)
      replace cP := cell_be cP hb.out
      replace OP := Lib.hid (own_be OP.out hb.out)
      clear cD OD
      clear hb
      rename World => V1
      go_upto_if 163 with fail
      go_cut [4] (fun s4 wx => s4 = .int .i64 rk ∧ Hid (Below V1.heap.size V1 wx))
      case first => as_aux_lemma =>
        by_cases h4 : q4 = 0
        · subst h4
          obtain ⟨a, ha1, ha2, e1, e2, e3⟩ := rank_ends hF4.out hF5.out
          have HI := Lib.hid (fun w' h' => impl_RankOfTree AR fr cR' w' (by omega) hcapR h')
          have HJ := Lib.hid (fun w' h' => impl_RankOfTree AP la cP' w' (by omega) hcapP h')
          have HK := Lib.hid (fun w' => impl_CountTrees k w' (by omega) (by omega))
          rw [e1] at HI
          rw [e2] at HJ
          rw [e3] at HK
          simp only at HI HJ HK
          have hwa : IntKind.i64.wrap ((a : Int) - 1) = (a : Int) - 1 := IntWalk.i64_in _ (by omega)
          have hna : ((a : Int) - 1 != (a : Int) - 1) = false := by simp
          clear e1 e2 e3 hF4 hF5
          go_wp2_with fail
          refine (HI.out _ (ints_of_own64 OR.out)).mono ?_
          rintro e w18 ⟨rfl, hb⟩
          have cP1 := cell_be cP hb
          have OP1 := Lib.hid (own_be OP.out hb)
          have HB := Lib.hid hb
          clear hb
          go_wp2_with fail
          refine (HJ.out _ (ints_of_own64 OP1.out)).mono ?_
          rintro e w19 ⟨rfl, hb⟩
          replace HB := Lib.hid (btr HB.out hb)
          clear hb
          go_wp2_with fail
          refine (HK.out _).mono ?_
          rintro e w20 ⟨rfl, hb⟩
          replace HB := Lib.hid (btr HB.out hb)
          clear hb
          go_wp2
          go_meet
          case rel => exact ⟨rfl, HB⟩
        · have hb3 : (q4 == 0) = false := by simp [h4]
          go_wp2
          go_meet
          case rel => exact ⟨rfl, b0 _⟩
      case rest => as_aux_lemma =>
        obtain ⟨rfl, hb⟩ := hcut
        replace B := Lib.hid (btr B.out hb.out)
        replace cT := cell_be cT hb.out
        replace O1 := Lib.hid (own_be O1.out hb.out)
        replace cN := cell_be cN hb.out
        replace ON := Lib.hid (own_be ON.out hb.out)
        replace cR := cell_be cR hb.out
        replace OR := Lib.hid (own_be OR.out hb.out)
        replace cP := cell_be cP hb.out
        replace OP := Lib.hid (own_be OP.out hb.out)
        clear cR OR cP OP
        clear hb
        rename World => V2
        by_cases ht : M.isTree ts = true
        · have e1 := hF1.out.symm.trans (rank_yes ht)
          injection e1 with e1 e2
          subst e2
          have hrb : 0 ≤ rk ∧ rk ≤ 1000000000000000000 := by
            have h1 := M.rank_rk ht
            have h2 := M.rk_lt ts 1 (M.tree_go ht)
            have h3 := M.L_24 (n := ts.length) (t := 1) (M.tree_len ht).2
            omega
          rcases next_facts ht hF2.out with ⟨rfl, hE⟩ | ⟨rfl, hE, hC⟩
          · have HI := Lib.hid (fun w' => impl_LastTree (ts.length : Int) w' (by omega) (by omega))
            rw [hE] at HI
            simp only at HI
            clear hE e1 ht hF1 hF2 hF3 hF4 hF5
            go_wp2_with fail
            refine (HI.out _).mono ?_
            rintro e w21 ⟨A7, c7, rfl, o7, hb⟩
            have hb7 := bal hb (.cells #[.slice A7 ts.length c7] 26)
            have cT7 := cell_be cT hb7
            have O17 := own_be O1.out hb7
            have o77 := own_be o7 (bal (b0 w21) (.cells #[.slice A7 ts.length c7] 26))
            have BB := Lib.hid (btr B.out hb7)
            have HL := Lib.hid (likeTree9 A7 T1 ts c7 ct1 _ (by omega) (ints_of_own64 o77) (ints_of_own64 O17))
            clear hb hb7 o7 o77 O17
            go_wp2_with fail
            refine HL.out.mono ?_
            rintro e w22 ⟨rfl, hb⟩
            have BE := btr BB.out hb
            clear hb HL
            go_wp2
            go_ret
            exact ⟨rfl, BE⟩
          · rw [← e1] at hE
            have HI := Lib.hid (fun w' h' => impl_RankOfTree A2 nx c2 w' (by omega) hcap2 h')
            rw [hE] at HI
            have HC := Lib.hid (fun w' h1 h2 => impl_CompareTrees T1 A2 ts nx ct1 c2 w' (by omega) (by omega) h1 h2)
            rw [hC] at HC
            simp only at HI HC
            have hwr : IntKind.i64.wrap (rk + 1) = rk + 1 := IntWalk.i64_in _ (by omega)
            clear hE hC e1 ht hF1 hF2 hF3 hF4 hF5
            go_wp2_with fail
            refine (HI.out _ (ints_of_own64 ON.out)).mono ?_
            rintro e w21 ⟨rfl, hb⟩
            have cT7 := cell_be cT hb
            have cN7 := cell_be cN hb
            have O17 := Lib.hid (own_be O1.out hb)
            have ON7 := Lib.hid (own_be ON.out hb)
            have BB := Lib.hid (btr B.out hb)
            clear hb
            go_wp2_with fail
            refine (HC.out _ (ints_of_own64 O17.out) (ints_of_own64 ON7.out)).mono ?_
            rintro e w22 ⟨rfl, hb⟩
            have BE := btr BB.out hb
            clear hb
            go_wp2
            go_ret
            exact ⟨rfl, BE⟩
        · have hf : M.isTree ts = false := by simpa using ht
          have e1 := hF1.out.symm.trans (show F_RankOfTree ts = (0, 1) by simp [F_RankOfTree, hf])
          injection e1 with e1 e2
          have e3 := hF2.out.symm.trans (show F_NextTree ts = ([], 1) by simp [F_NextTree, hf])
          injection e3 with e3 e4
          subst e1
          subst e2
          subst e3
          subst e4
          have BB := B.out
          clear hF1 hF2 ht hf
          go_wp2
          go_ret
          exact ⟨rfl, BB⟩
end Go.Proofs.Ytdgcjkgbglofbaa

/- An argument of type laws.Tree opened: its value, its numbers in memory. -/
namespace Go.Proofs.Ytdgcjkgbglofbaa
open Go.RowKit Go.Joins Go.ChangeShapes Go.WideShapes Go.ChangeAt Go.Deep

theorem own : ownKnob Try.prog.godebug = none := by kernel_rfl
theorem laidOut : laidOutB Try.prog = true := by kernel_rfl
theorem cells64 : Try.prog.cellsOf 2 = 1 := by kernel_rfl
theorem cellsTree : Try.prog.cellsOf 92 = 1 := by kernel_rfl

section
variable {H : Type} {enc : TypeId × Value → H} {P : Program} {w : World} {base : Nat} {spare : Nat → Bool} {held : Bool}
theorem open_agg1 {r : Reach} {b0 : Nat} {t : TypeId} {f0 : Field} {v : Value} {d : DataW H} {p : List MemPlace} (hs : P.underlying t = some (.struct #[f0])) (hone : oneCellFields P #[f0] = true) (hC : P.cellsOf t = 1)
    (hv : Value.okWide P w r b0 t v) (h : DataW.Trod enc P w base spare held t v d p) :
    ∃ (v0 : Value) (y0 : DataW H × List MemPlace) (n : Nat), v = .agg #[v0] ∧ d = .agg [y0.1] ∧ p = y0.2 ∧ DataW.trod enc P w base spare held n f0.type [v0] = some y0 := by
  obtain ⟨cs, rfl, hsz⟩ := okWide_struct hs hv
  obtain ⟨l⟩ := cs
  match l, hsz.trans hC with
  | [c0], _ =>
    obtain ⟨fuel, hf⟩ := h
    obtain ⟨xs, n, _, hx, _, hlen, hg⟩ := DataW.trod_struct hs hf
    obtain ⟨o0, k0⟩ := hone_of hone 0 f0 rfl
    match xs, hlen with
    | [y0], _ =>
      simp only [Prod.mk.injEq] at hx
      exact ⟨c0, y0, n, rfl, by simpa using hx.1, by simpa using hx.2, by simpa [Value.cells, o0, k0] using hg 0 f0 rfl⟩
end

/-- a slice of int64 as read, in this seat's words -/
theorem openInts {H : Type} {enc : TypeId × Value → H} {W : World} {fuel : Nat} {v : Value} {y : DataW H × List MemPlace}
    (h : DataW.trod enc Try.prog W 0 (fun _ => true) true fuel 24 [v] = some y) (hlt : ∀ x ∈ y.2, x.block < W.heap.size) :
    ∃ (A : Option Addr) (c : Nat) (xs : List Int), v = .slice A xs.length c ∧ xs.length ≤ 9223372036854775807 ∧ Ints W W.heap.size A xs ∧ ∀ x ∈ xs, -9223372036854775808 ≤ x ∧ x ≤ 9223372036854775807 := by
  rcases open_ints Try.underlying24 Try.underlying2 cells64 h with ⟨hcs, hx⟩ | ⟨a, len', cap', zs, hcs, _, hl, hm, hz, hx, hcell, hwz⟩
  · obtain rfl : v = .slice none 0 0 := by simpa using hcs
    exact ⟨none, 0, [], rfl, by simp, Ints.nil_ _ _ _, by simp⟩
  · obtain rfl : v = .slice (some a) len' cap' := by simpa using hcs
    simp only [if_true] at hz
    have hlz : len' ≤ zs.length := by omega
    have htl : (zs.take len').length = len' := by simp; omega
    subst hx
    refine ⟨some a, cap', zs.take len', by rw [htl], by rw [htl]; simp only [maxLen] at hm; omega, fun hpos => ?_, fun x hxm => ?_⟩
    · rw [htl] at hpos
      obtain ⟨b, off, spot⟩ := a
      have hspot : spot = none := by simpa [Addr.add] using World.cell?_spot (hcell 0 (by omega))
      subst hspot
      refine ⟨b, off, rfl, hlt (.cell b off) (MemPlace.mem_row.2 ⟨0, by omega, by simp⟩), fun j x hj => ?_⟩
      have hj' : j < zs.length := by
        have := (List.getElem?_eq_some_iff.1 hj).1
        rw [htl] at this
        omega
      have hj2 : zs[j]? = some x := by
        rw [List.getElem?_take] at hj
        split at hj
        · exact hj
        · cases hj
      rw [← add_plain, hcell j hj']
      simp [List.getD, hj2]
    · have := hwz x (List.mem_of_mem_take hxm)
      simpa [Lit.wf, IntKind.min, IntKind.max, IntKind.signed, IntKind.bits] using this

set_option maxRecDepth 100000 in
theorem openTree {H : Type} {enc : TypeId × Value → H} {W : World} {base : Nat} {v : Value} {d : DataW H} {p : List MemPlace} (hv : Value.okWide Try.prog W .any base 92 v)
    (h : DataW.Trod enc Try.prog W 0 (fun _ => true) true 92 v d p) (hlt : ∀ x ∈ p, x.block < W.heap.size) :
    ∃ (A : Option Addr) (c : Nat) (xs : List Int), v = .agg #[.slice A xs.length c] ∧ xs.length ≤ 9223372036854775807 ∧ Ints W W.heap.size A xs ∧ ∀ x ∈ xs, -9223372036854775808 ≤ x ∧ x ≤ 9223372036854775807 := by
  obtain ⟨v0, y0, n, rfl, rfl, rfl, hy⟩ := open_agg1 Try.underlying92 (by kernel_rfl) cellsTree hv h
  obtain ⟨A, c, xs, rfl, h1, h2, h3⟩ := openInts hy hlt
  exact ⟨A, c, xs, rfl, h1, h2, h3⟩
end Go.Proofs.Ytdgcjkgbglofbaa

/- An argument of type []byte opened: its value, its bytes in memory. -/
namespace Go.Proofs.Ytdgcjkgbglofbaa
open Go.RowKit Go.Joins Go.ChangeShapes Go.WideShapes Go.ChangeAt Go.Deep

theorem cellsU8 : Try.prog.cellsOf 5 = 1 := by kernel_rfl
theorem openBytes {H : Type} {enc : TypeId × Value → H} {W : World} {fuel : Nat} {v : Value} {y : DataW H × List MemPlace}
    (h : DataW.trod enc Try.prog W 0 (fun _ => true) true fuel 22 [v] = some y) (hlt : ∀ x ∈ y.2, x.block < W.heap.size) :
    ∃ (A : Option Addr) (c : Nat) (xs : List Int), v = .slice A xs.length c ∧ (xs.length ≤ c ∧ c ≤ 9223372036854775807) ∧ Byts W W.heap.size A xs ∧ ∀ x ∈ xs, 0 ≤ x ∧ x ≤ 255 := by
  rcases open_ints Try.underlying22 Try.underlying5 cellsU8 h with ⟨hcs, hx⟩ | ⟨a, len', cap', zs, hcs, _, hl, hm, hz, hx, hcell, hwz⟩
  · obtain rfl : v = .slice none 0 0 := by simpa using hcs
    exact ⟨none, 0, [], rfl, by simp, fun h => by simp at h, by simp⟩
  · obtain rfl : v = .slice (some a) len' cap' := by simpa using hcs
    simp only [if_true] at hz
    have hlz : len' ≤ zs.length := by omega
    have htl : (zs.take len').length = len' := by simp; omega
    subst hx
    refine ⟨some a, cap', zs.take len', by rw [htl], by rw [htl]; simp only [maxLen] at hm; omega, fun hpos => ?_, fun x hxm => ?_⟩
    · rw [htl] at hpos
      obtain ⟨b, off, spot⟩ := a
      have hspot : spot = none := by simpa [Addr.add] using World.cell?_spot (hcell 0 (by omega))
      subst hspot
      refine ⟨b, off, rfl, hlt (.cell b off) (MemPlace.mem_row.2 ⟨0, by omega, by simp⟩), fun j x hj => ?_⟩
      have hj' : j < zs.length := by
        have := (List.getElem?_eq_some_iff.1 hj).1
        rw [htl] at this
        omega
      have hj2 : zs[j]? = some x := by
        rw [List.getElem?_take] at hj
        split at hj
        · exact hj
        · cases hj
      rw [← add_plain, hcell j hj']
      simp [List.getD, hj2]
    · have := hwz x (List.mem_of_mem_take hxm)
      simpa [Lit.wf, IntKind.min, IntKind.max, IntKind.signed, IntKind.bits] using this
end Go.Proofs.Ytdgcjkgbglofbaa

/- What every row of this seat asks of the whole program, once: three facts on how the cut was made (each takes the kernel near a minute and 9 GB). -/
namespace Go.Proofs.Ytdgcjkgbglofbaa

set_option maxHeartbeats 4000000 in
theorem shut_mayEnter : Try.pinned.checked.prog.mayEnter = true := by kernel_rfl
set_option maxHeartbeats 4000000 in
theorem shut_lifts : (false == Try.pinned.checked.prog.liftsFinal) = true := by kernel_rfl
set_option maxHeartbeats 4000000 in
theorem shut_make : (Try.pinned.checked.prog.make == some .cut) = true := by kernel_rfl
end Go.Proofs.Ytdgcjkgbglofbaa
