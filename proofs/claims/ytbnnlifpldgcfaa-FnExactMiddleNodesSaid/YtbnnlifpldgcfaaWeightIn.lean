/- weightAt: the weight of a node, the program's. -/
import Derived.Test.YtbnnlifpldgcfaaWeight
import Derived.Test.YtbnnlifpldgcfaaPost
import Derived.Test.YtbnnlifpldgcfaaEnd
import Derived.Shelf.RegionOpen
import Derived.Deep.RegionHeld3
namespace Go.Proofs.Ytbnnlifpldgcfaa
open Go.RowKit Go.Shelf Go.Maps
attribute [local go_sem] Oper.semAt_some

set_option maxRecDepth 100000 in
set_option maxHeartbeats 8000000 in
theorem weightAt_in (A : Option Addr) (xs : List Int) (c v d : Nat) (w : World) (hcl : xs.length ≤ c) (hcu : c ≤ 9223372036854775807) (ht : Hid (M.isTree xs = true)) (hd : Hid (xs[v]? = some (d : Int))) (hI : Hid (Ints w w.heap.size A xs)) :
    CallsIn Fence.wide 5 Try.prog 72 #[.slice A xs.length c, .int .i64 v] w fun e w' => e = .returned (.int .i64 (M.weightTo xs v d)) ∧ Hid (Below w.heap.size w w') := by
  have hx := (M.tree_len ht.out).2
  have hd24 : d ≤ 24 := by have := (M.tree_deg ht.out hd.out).2; omega
  have hv : v < xs.length := (List.getElem?_eq_some_iff.1 hd.out).1
  obtain ⟨S0, hS0⟩ : ∃ S, Hid (M.span 1 (xs.drop v) = S) := ⟨_, rfl⟩
  obtain ⟨y0, hy0⟩ : ∃ y, Hid (M.weightTo xs v 0 = y) := ⟨_, rfl⟩
  have hy : (xs.length : Int) - (S0 : Int) = y0 := by rw [← hy0.out, M.weightTo, hS0.out]
  have hyb : 0 ≤ y0 ∧ y0 ≤ 24 := by rw [← hy0.out]; exact M.weightTo_le hx (by omega) 0
  have hwr : IntKind.i64.wrap ((xs.length : Int) - (S0 : Int)) = y0 := by rw [hy]; exact IntWalk.i64_in _ (by omega)
  have HSz : Hid (∀ (C S : Nat) (W : World), Hid (M.span 1 (xs.drop C) = S) → C < xs.length → Hid (Below w.heap.size w W) → Calls Try.prog 92 #[.slice A xs.length c, .int .i64 (C : Int)] W fun e w' => e = .returned (.int .i64 S) ∧ W = w') := fun C S W hS hC hW =>
    sizeAt A xs c C S W hS hx hcl hcu (Lib.hid (M.tree_ok ht.out hC)) (hI.out.be hW.out)
  have hBa : Hid (Below w.heap.size w (w.alloc (.cells #[.slice A xs.length c] 22)).drew) := (bal (b0 w) _).drew
  have hBb : Hid (Below w.heap.size w ((w.alloc (.cells #[.slice A xs.length c] 22)).alloc (.cells #[.int .i64 0] 2)).drew) := (bal (bal (b0 w) _) _).drew
  have HSa := Lib.hid (HSz.out v S0 _ hS0 hv hBa)
  have HSb := Lib.hid (HSz.out v S0 _ hS0 hv hBb)
  have hmix : Try.prog.follows .mixedOrders = true := by kernel_rfl
  clear hy hyb
  refine callsIn_of_wp_marks Try.func72 rfl trivial ?_ rfl
  simp only [Try.ntmps72, List.size_toArray, List.length_cons, List.length_nil, Nat.reduceAdd, Nat.reduceSub, Array.replicate_succ, Array.replicate_zero, List.push_toArray, List.append_toArray, List.nil_append, List.cons_append]
  gi_wp2
  refine wpIn_wide.2 ?_
  have c10 : (w.alloc (.cells #[.slice A xs.length c] 22)).drew.cell? ⟨w.heap.size, 0, none⟩ = some (.slice A xs.length c) := by simp
  have c20 : ((w.alloc (.cells #[.slice A xs.length c] 22)).drew.alloc (.cells #[.int .i64 0] 2)).cell? ⟨w.heap.size, 0, none⟩ = some (.slice A xs.length c) := cell_al c10 _
  go_region_held3 (fun w' => w'.cell? ⟨w.heap.size, 0, none⟩ = some (.slice A xs.length c)) (first | exact c10 | exact c20 | exact cell_al c10 _) (first | (go_at_call 92; refine HSa.out.mono ?_; rintro e W2 ⟨rfl, rfl⟩) | (go_at_call 92; refine HSb.out.mono ?_; rintro e W2 ⟨rfl, rfl⟩))
  all_goals
    obtain ⟨X, hX⟩ : ∃ X, X = ((w.alloc (.cells #[.slice A xs.length c] 22)).alloc (.cells #[.int .i64 y0] 2)).drew := ⟨_, rfl⟩
    have hXs : X.heap.size = w.heap.size + 1 + 1 := by rw [hX]; simp
    have bG : Boxed X w.heap.size 22 (.slice A xs.length c) := by rw [hX]; exact (Boxed.new w _ _).alloc _
    have bY : Boxed X (w.heap.size + 1) 2 (.int .i64 y0) := by
      rw [hX]
      have := Boxed.new (w.alloc (.cells #[.slice A xs.length c] 22)) 2 (.int .i64 y0)
      rw [World.size_alloc] at this
      exact this
    have hBX : Below w.heap.size w X := by rw [hX]; exact (bal (bal (b0 w) _) _).drew
    have cG := bG.cell
    rw [← hX]
    clear hX c10 c20 HSa HSb hBa hBb hwr
    gi_wp2_with (refine ⟨trivial, ?_⟩; gi_at_call 87; refine (eachIn 4 A xs.length c v _).mono ?_; rintro e w' ⟨rfl, rfl⟩)
    have bD0 := Boxed.new X 22 (.slice A xs.length c)
    have bA0 := Boxed.new (X.alloc (.cells #[.slice A xs.length c] 22)) 2 (.int .i64 v)
    simp only [World.size_alloc, hXs] at bD0 bA0
    have bG1 := (bG.alloc (.cells #[.slice A xs.length c] 22)).alloc (.cells #[.int .i64 v] 2)
    have bY1 := (bY.alloc (.cells #[.slice A xs.length c] 22)).alloc (.cells #[.int .i64 v] 2)
    have bD := bD0.alloc (.cells #[.int .i64 v] 2)
    have hB0 := bal (bal hBX (.cells #[.slice A xs.length c] 22)) (.cells #[.int .i64 v] 2)
    obtain ⟨W0, hW0⟩ : ∃ W0, W0 = (X.alloc (.cells #[.slice A xs.length c] 22)).alloc (.cells #[.int .i64 v] 2) := ⟨_, rfl⟩
    have hsz : W0.heap.size = w.heap.size + 1 + 1 + 1 + 1 := by rw [hW0]; simp [hXs]
    rw [← hW0] at bG1 bY1 bD bA0 hB0 ⊢
    clear hW0 bD0 bG bY cG
    have hKb := KeepK.b (n₀ := w.heap.size) (Bd := w.heap.size + 1 + 1) (w := W0) (by omega) (by omega)
    have h15 : 1 ≤ 5 := by omega
    refine wpIn_rangeFunc_ownG (α := Nat) rfl h15 (gf := 99) (lb := #[.pointer (some ⟨w.heap.size + 1 + 1 + 1, 0, none⟩), .pointer (some ⟨w.heap.size + 1 + 1, 0, none⟩)]) rfl trivial (enters_of Try.func99 (by kernel_rfl) rfl)
      (each_stopsF (fun i => i) (fun x => #[.int .i64 (x : Int), .int .i64 (kidO xs v d x : Int)]) 4 (by omega) (w.heap.size + 1 + 1 + 1) (w.heap.size + 1 + 1) w.heap.size A xs c v d hx hcl hcu ht hd (fun k hk => by rw [kidO_at xs hk]) W0 bA0.cell bD (hI.out.below hB0 (Nat.le_refl _)) (by omega)) (fun h k => h.t k) hKb (Below.refl _ _) (fun _ => rfl)
      (fun pre W => (∃ y : Int, Boxed W (w.heap.size + 1) 2 (.int .i64 y) ∧ (pre = List.range pre.length → pre.length ≤ d → y = M.weightTo xs v pre.length)) ∧
        Boxed W w.heap.size 22 (.slice A xs.length c) ∧ Boxed W (w.heap.size + 1 + 1) 22 (.slice A xs.length c) ∧ Below w.heap.size w W)
      (fun _ _ _ => False)
      (fun pre X Y r' ⟨⟨s, h1, h2⟩, h6, h7, h8⟩ hg hr =>
        ⟨⟨s, h1.kept hg (fun e => by have := (hr _ e.symm).1; omega), h2⟩, h6.kept hg (fun e => by have := (hr _ e.symm).1; omega), h7.kept hg (fun e => by have := (hr _ e.symm).1; omega), h8.grown hg h8.size (fun k e => by have := (hr _ e).1; omega)⟩)
      (fun _ _ _ _ _ hs _ _ => hs)
      ⟨⟨_, bY1, fun _ _ => hy0.out.symm⟩, bG1, bD, hB0⟩
      (fun x => { tmps := #[.slice A xs.length c, .int .i64 (v : Int), .pointer (some ⟨w.heap.size, 0, none⟩), undef, .int .i64 0, .pointer (some ⟨w.heap.size + 1, 0, none⟩), undef, .int .i64 (kidO xs v d x : Int), .slice A xs.length c, .int .i64 (xs.length : Int), .slice A xs.length c, .int .i64 (v : Int), .int .i64 (S0 : Int), .int .i64 y0, .slice A xs.length c, .int .i64 (v : Int), .func (.func 99) #[] #[.pointer (some ⟨w.heap.size + 1 + 1 + 1, 0, none⟩), .pointer (some ⟨w.heap.size + 1 + 1, 0, none⟩)], .int .i64 (x : Int), .int .i64 (kidO xs v d x : Int), undef, undef, undef, undef, undef, undef], defers := [] }) ?assign ?body ?done ?stop
    case assign =>
      intro l x W K hK
      gi_wp2
      exact hK
    case body =>
      rintro l pre x W ⟨⟨y, h1, h2⟩, h6, h7, h8⟩ hlt
      have hCl : kidO xs v d x < xs.length := M.kid_lt ht.out hd.out (i := min x (d - 1)) (by omega)
      obtain ⟨S, hS⟩ : ∃ S, Hid (M.span 1 (xs.drop (kidO xs v d x)) = S) := ⟨_, rfl⟩
      have hkey : Hid (pre ++ [x] = List.range (pre ++ [x]).length → (pre ++ [x]).length ≤ d → (if y < (S : Int) then (S : Int) else y) = M.weightTo xs v (pre ++ [x]).length) := fun e hd' => by
        simp only [List.length_append, List.length_cons, List.length_nil, Nat.zero_add] at e hd' ⊢
        rw [List.range_succ] at e
        obtain ⟨e1, e2⟩ := List.append_inj' e rfl
        injection e2 with e2
        have hS2 := hS.out
        rw [e2, kidO_at xs (by omega)] at hS2
        rw [h2 e1 (by omega), M.weightTo_step hS2]
      have HS := Lib.hid (HSz.out (kidO xs v d x) S W.drew hS hCl h8.drew)
      generalize kidO xs v d x = C at *
      have c1' := h1.cell
      have f1' := h1.frozen
      have c2' := h6.cell
      have hmix : Try.prog.follows .mixedOrders = true := by kernel_rfl
      clear hS h2
      have kB : Below w.heap.size W (W.setCell ⟨w.heap.size + 1, 0, none⟩ (.int .i64 (if y < (S : Int) then (S : Int) else y))).drew := (below_setCell (Below.refl _ _) (by omega) _).drew
      have k7 : Boxed (W.setCell ⟨w.heap.size + 1, 0, none⟩ (.int .i64 (if y < (S : Int) then (S : Int) else y))).drew (w.heap.size + 1 + 1) 22 (.slice A xs.length c) := h7.other (by omega) _
      have k6 : Boxed (W.setCell ⟨w.heap.size + 1, 0, none⟩ (.int .i64 (if y < (S : Int) then (S : Int) else y))).drew w.heap.size 22 (.slice A xs.length c) := h6.other (by omega) _
      have k1 : Boxed (W.setCell ⟨w.heap.size + 1, 0, none⟩ (.int .i64 (if y < (S : Int) then (S : Int) else y))).drew (w.heap.size + 1) 2 (.int .i64 (if y < (S : Int) then (S : Int) else y)) := h1.set _
      have K1 := Lib.hid k1
      have K6 := Lib.hid k6
      have K7 := Lib.hid k7
      have H7 := Lib.hid h7
      have KB := Lib.hid kB
      have H8 := Lib.hid h8
      clear k1 k6 k7 kB h1 h6 h7 h8
      gi_wp2
      gi_region_with_o (refine ⟨trivial, ?_⟩; gi_at_call 92; refine (CallsIn.inRound l (callsIn_wide.2 HS.out)).mono ?_; rintro e W1 ⟨rfl, rfl⟩)
      all_goals exact ⟨((KeepsOthers.setCell _ _ _).trans (KeepsOthers.drew _)).from _, ⟨KB.out, K7.out.trans (show W.heap[_]? = _ from H7.out).symm⟩, ⟨_, K1.out, hkey.out⟩, K6.out, K7.out, H8.out.trans KB.out⟩
    case done =>
      rintro D ys W hD rfl ⟨⟨y, h1, h2⟩, h6, h7, h8⟩ hK
      have hs := h2 (by simp) (by simp)
      simp only [List.length_range, List.map_id'] at hs
      have c1' := h1.cell
      have HK := Lib.hid hK
      have H8 := Lib.hid h8
      have Hs := Lib.hid hs
      clear hs h1 h2 h6 h7 hK h8
      gi_wp2
      refine ⟨by simp, .inl ⟨_, _, rfl, run_takeDeferred HK.out, ?_⟩⟩
      refine ⟨_, results_tmp rfl _ _ _, ?_, H8.out.trans (belowK_b (w := w) (Nat.le_refl _) W D _ _ (by omega) HK.out rfl rfl)⟩
      rw [← Hs.out]
      rfl
    case stop =>
      rintro D c pre W _ _ h _
      exact h.elim
end Go.Proofs.Ytbnnlifpldgcfaa
