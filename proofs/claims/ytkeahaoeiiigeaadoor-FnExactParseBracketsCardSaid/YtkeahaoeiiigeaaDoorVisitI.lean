/- visitInner with the closure of InnerOrder. -/
import Derived.Test.YtkeahaoeiiigeaaDoorCol
import Derived.Deep.RegionHeld3
namespace Go.Proofs.YtkeahaoeiiigeaaDoor
open Go.RowKit
attribute [local go_sem ↓] appOp_eq

theorem str_no (t : M.Bin) : ¬ t.str.toList = [] := fun h => by
  rw [M.Bin.str, Lib.toList_data, M.bs_data] at h
  cases t <;> simp [M.Bin.txt] at h
/-- a part in a block -/
def PartB (b : Nat) (a c : ByteArray) (W : World) : Prop := W.heap[b]? = some (.cells #[.string a, .string c] 45 (0, 0))
theorem PartB.cells {W : World} {b : Nat} {a c : ByteArray} (h : PartB b a c W) : W.cell? ⟨b, 0, none⟩ = some (.string a) ∧ W.cell? ⟨b, 1, none⟩ = some (.string c) := by
  unfold PartB at h
  refine ⟨?_, ?_⟩ <;> simp [World.cell?, h]
theorem PartB.away {W W' : World} {b q : Nat} {a c : ByteArray} (h : PartB q a c W) (hb : Away b W W') (hq : q ≠ b) : PartB q a c W' := hb.2 q _ h hq (fun cs fz e => by injection e with e1 e2 e3; exact absurd e2 (by decide))
theorem PartB.up {W W' : World} {q : Nat} {a c : ByteArray} (h : PartB q a c W) (hb : Below W.heap.size W W') : PartB q a c W' := (hb.block q (Array.getElem?_eq_some_iff.1 h).1).trans h

set_option maxRecDepth 100000 in
set_option maxHeartbeats 2000000 in
theorem putInner (k : Int) (a c : ByteArray) (b : Nat) (zs : List Int) (W : World) (hz : zs.length ≤ 1000) (h : Col b zs W) : Calls Tryd.prog 58 #[.int .i64 k, .agg #[.string a, .string c], .pointer (some ⟨b, 0, none⟩)] W fun e w' => e = .returned (.tuple #[]) ∧ Hid (Col b (zs ++ [k]) w') ∧ Hid (Away b W w') := by
  obtain ⟨A, n, c', h1, h2⟩ := h
  have hn := own64_len h2
  have hlt := h1.lt
  obtain ⟨X, hX⟩ : ∃ X, (W.alloc (.cells #[.string a, .string c] 45)).alloc (.cells #[.int .i64 k] 2) = X := ⟨_, rfl⟩
  have hXs : X.heap.size = W.heap.size + 1 + 1 := by rw [← hX]; simp
  have hBX : Below W.heap.size W X := by rw [← hX]; exact bal (bal (b0 W) _) _
  have h1X : Boxed X b 29 (.slice A n c') := (hBX.block b hlt).trans h1
  have h2X : Own64 X (b + 1) (.slice A n c') zs := own_be h2 hBX
  have hgX : X.cell? ⟨W.heap.size + 1, 0, none⟩ = some (.int .i64 k) := by rw [← hX]; simp
  obtain ⟨A8, c8, w8, hrun, ho8, hg8⟩ := push_run X (b + 1) n c' (W.heap.size + 1) A zs k h2X hgX (by omega) (by omega)
  have hst := Col.step h1X h2X ho8.out hg8.out
  have hfin := Lib.hid (show Col b (zs ++ [k]) _ ∧ Away b W _ from ⟨hst.1, (Away.of hBX (by omega)).trans hst.2⟩)
  have h8 : Boxed w8 b 29 (.slice A n c') := h1X.kept hg8.out (h1X.not_row slice_not_int h2X)
  have cB := h1.cell
  have c8' := h8.cell
  have f8 := h8.frozen
  have hrA := hrun.out
  rw [← hX] at hrA
  clear hX hBX h1X h2X hgX hst h1 h2 hrun ho8 hg8 h8 hn
  go_enter Tryd.func58, Tryd.ntmps58
  go_wp2
  go_end0
  exact ⟨rfl, hfin.out.1, hfin.out.2⟩

theorem Away.part {b q : Nat} {a c : ByteArray} {W W' : World} (h : Away b W W') (hp : PartB q a c W) (hq : b < q) : PartB q a c W' := hp.away h (by omega)

set_option maxRecDepth 100000 in
set_option maxHeartbeats 4000000 in
theorem visitInner (p : Addr) : ∀ (f : Nat) (t : M.Bin) (k b : Nat) (zs : List Int) (W : World), t.n ≤ f → t.n ≤ 1000 → k + t.n ≤ 100000 → zs.length + t.n ≤ 1000 → W.cell? ⟨0, 0, none⟩ = some (errV p) → 0 < b → Col b zs W →
    Calls Tryd.prog 57 #[.string t.str, .int .i64 (k : Int), .func (.func 58) #[] #[.pointer (some ⟨b, 0, none⟩)]] W fun e w' => e = .returned (.tuple #[]) ∧ Hid (Col b (zs ++ t.inner k) w') ∧ Hid (Away b W w') := by
  intro f
  induction f with
  | zero =>
    intro t k b zs W ht _ _ _ hc hb hcol
    cases t with
    | node l r => simp only [M.Bin.n] at ht; omega
    | nil =>
      have hP := fun W h => Lib.hid (partOf p .nil W (by simp [M.Bin.n]) h)
      simp only [M.Bin.lef, M.Bin.rig] at hP
      have HC := Lib.hid hc
      have HCol := Lib.hid hcol
      clear hc hcol
      generalize M.Bin.nil.str = S at *
      go_enter Tryd.func57, Tryd.ntmps57
      go_wp2_with (go_at_call 49; refine (hP _ HC.out).out.mono ?_; rintro e w2 ⟨rfl, hb2⟩)
      have e0 : zs ++ M.Bin.nil.inner k = zs := List.append_nil zs
      refine bodyPost_ret (results_none rfl _ _ _) rfl ?_
      rw [e0]
      have hX := bal hb2.out (.cells #[.string ⟨#[]⟩, .string ⟨#[]⟩] 45)
      exact ⟨rfl, Lib.hid (HCol.out.up hX), Lib.hid (Away.of hX (Nat.le_of_lt HCol.out.lt))⟩
  | succ f ih =>
    intro t k b zs W ht ht2 hk hz hc hb hcol
    cases t with
    | nil => exact ih .nil k b zs W (by simp [M.Bin.n]) ht2 hk hz hc hb hcol
    | node l r =>
      simp only [M.Bin.n] at ht ht2 hk hz
      have hP := fun W h => Lib.hid (partOf p (.node l r) W (by simp only [M.Bin.n]; omega) h)
      simp only [M.Bin.lef, M.Bin.rig] at hP
      have hl := str_no l
      have hN := fun W => Lib.hid (nodesIn l W (by omega))
      have hv1 := Lib.hid (l.inner_len (k + 1))
      have hIl := fun W => Lib.hid (fun h1 h2 => ih l (k + 1) b zs W (by omega) (by omega) (by omega) (by omega) h1 hb h2)
      have hIr := fun W => Lib.hid (fun h1 h2 => ih r (k + 1 + l.n) b ((zs ++ l.inner (k + 1)) ++ [(k : Int)]) W (by omega) (by omega) (by omega) (by simp only [List.length_append, List.length_cons, List.length_nil, hv1.out]; omega) h1 hb h2)
      have hV : Hid (zs ++ (M.Bin.node l r).inner k = ((zs ++ l.inner (k + 1)) ++ [(k : Int)]) ++ r.inner (k + 1 + l.n)) := by
        show _ = _
        simp [M.Bin.inner]
      have hk1 : (k : Int) ≤ 100000 := by omega
      have hk3 : (l.n : Int) ≤ 1000 := by omega
      have ek : ((k + 1 : Nat) : Int) = (k : Int) + 1 := by omega
      have ek2 : ((k + 1 + l.n : Nat) : Int) = (k : Int) + 1 + (l.n : Int) := by omega
      have w1 : IntKind.i64.wrap ((k : Int) + 1) = (k : Int) + 1 := IntWalk.i64_in _ (by omega)
      have w2' : IntKind.i64.wrap ((k : Int) + 1 + (l.n : Int)) = (k : Int) + 1 + (l.n : Int) := IntWalk.i64_in _ (by omega)
      rw [ek] at hIl
      rw [ek2] at hIr
      have HC := Lib.hid hc
      have HCol := Lib.hid hcol
      have hbW := hcol.lt
      rw [hV.out]
      have hzl : Hid ((zs ++ l.inner (k + 1)).length ≤ 1000) := by show _ ≤ _; rw [List.length_append, hv1.out]; omega
      clear hc hcol ih hV hv1
      generalize l.inner (k + 1) = IL at *
      generalize r.inner (k + 1 + l.n) = IR at *
      generalize (M.Bin.node l r).str = S at *
      generalize l.str = SL at *
      generalize r.str = SR at *
      go_enter Tryd.func57, Tryd.ntmps57
      go_wp2_with (first | (go_at_call 49; refine (hP _ HC.out).out.mono ?_; rintro e w2 ⟨rfl, hb2⟩; have hX : Hid (Below W.heap.size W (w2.alloc (.cells #[.string SL, .string SR] 45))) := bal hb2.out _; have hPX : Hid (PartB w2.heap.size SL SR (w2.alloc (.cells #[.string SL, .string SR] 45))) := heap_alloc_new w2 _; have hbq : b < w2.heap.size := by have := hb2.out.size; omega) | (go_at_call_of 57 (Value.string SL); refine ((hIl _).out (cell_up hX.out HC.out) (HCol.out.up hX.out)).mono ?_; rintro e w4 ⟨rfl, hc4, ha4⟩; obtain ⟨p40, p41⟩ := (ha4.out.part hPX.out hbq).cells) | (go_at_call 58; refine (putInner (k : Int) SL SR b (zs ++ IL) w4 hzl.out hc4.out).mono ?_; rintro e w5 ⟨rfl, hc5, ha5⟩))
      have hA5 := Lib.hid ((Away.of hX.out (Nat.le_of_lt hbW)).trans (ha4.out.trans ha5.out))
      have hp5 : Hid (PartB w2.heap.size SL SR w5.drew) := ha5.out.part (ha4.out.part hPX.out hbq) hbq
      obtain ⟨c0, c1⟩ := hp5.out.cells
      have hE5 : Hid (w5.drew.cell? ⟨0, 0, none⟩ = some (errV p)) := (hA5.out.1.cell (p := ⟨0, 0, none⟩) hb).trans HC.out
      have hC5 : Hid (Col b (zs ++ IL ++ [(k : Int)]) w5.drew) := hc5.out
      have hA5d : Hid (Away b W w5.drew) := ⟨hA5.out.1.drew, hA5.out.2⟩
      clear hP hIl HC HCol hX hPX hb2 hA5 hc4 hc5 ha4 ha5
      generalize w2.heap.size = q at *
      go_region_held3 (fun w' => w'.cell? ⟨q, 0, none⟩ = some (.string SL) ∧ w'.cell? ⟨q, 1, none⟩ = some (.string SR)) (first | exact ⟨c0, c1⟩ | exact ⟨p60, p61⟩) (first | (go_at_call 52; refine (hN _).out.mono ?_; rintro e w' ⟨rfl, hw⟩; subst hw) | (go_at_call 57; refine ((hIr _).out hE5.out hC5.out).mono ?_; rintro e w6 ⟨rfl, hc6, ha6⟩; obtain ⟨p60, p61⟩ := (ha6.out.part hp5.out hbq).cells))
      go_end0
      exact ⟨rfl, hc6, Lib.hid (hA5d.out.trans ha6.out)⟩
end Go.Proofs.YtkeahaoeiiigeaaDoor
