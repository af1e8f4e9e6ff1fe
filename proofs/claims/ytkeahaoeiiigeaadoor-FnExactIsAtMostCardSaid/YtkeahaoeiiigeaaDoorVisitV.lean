/- visitInner with the closure of vectorOf. -/
import Derived.Test.YtkeahaoeiiigeaaDoorVisitI
namespace Go.Proofs.YtkeahaoeiiigeaaDoor
open Go.RowKit
attribute [local go_sem ↓] appOp_eq

set_option maxRecDepth 100000 in
set_option maxHeartbeats 2000000 in
theorem putVector (k : Int) (a : ByteArray) (t : M.Bin) (b : Nat) (zs : List Int) (W : World) (ht : t.n ≤ 1000) (hz : zs.length ≤ 1000) (h : Col b zs W) : Calls Tryd.prog 88 #[.int .i64 k, .agg #[.string a, .string t.str], .pointer (some ⟨b, 0, none⟩)] W fun e w' => e = .returned (.tuple #[]) ∧ Hid (Col b (zs ++ [(t.n : Int)]) w') ∧ Hid (Away b W w') := by
  obtain ⟨A, n, c', h1, h2⟩ := h
  have hn := own64_len h2
  have hlt := h1.lt
  have hN := fun W => Lib.hid (nodesIn t W (by omega))
  generalize t.str = c at *
  generalize (t.n : Int) = m at *
  obtain ⟨X, hX⟩ : ∃ X, ((W.alloc (.cells #[.string a, .string c] 45)).alloc (.cells #[.int .i64 m] 2)).drew = X := ⟨_, rfl⟩
  have hXs : X.heap.size = W.heap.size + 1 + 1 := by rw [← hX]; simp
  have hBX : Below W.heap.size W X := by rw [← hX]; exact (bal (bal (b0 W) _) _).drew
  have h1X : Boxed X b 29 (.slice A n c') := (hBX.block b hlt).trans h1
  have h2X : Own64 X (b + 1) (.slice A n c') zs := own_be h2 hBX
  have hgX : X.cell? ⟨W.heap.size + 1, 0, none⟩ = some (.int .i64 m) := by rw [← hX]; simp
  obtain ⟨A8, c8, w8, hrun, ho8, hg8⟩ := push_run X (b + 1) n c' (W.heap.size + 1) A zs m h2X hgX (by omega) (by omega)
  have hst := Col.step h1X h2X ho8.out hg8.out
  have hfin := Lib.hid (show Col b (zs ++ [m]) _ ∧ Away b W _ from ⟨hst.1, (Away.of hBX (by omega)).trans hst.2⟩)
  have h8 : Boxed w8 b 29 (.slice A n c') := h1X.kept hg8.out (h1X.not_row slice_not_int h2X)
  have cB := h1.cell
  have c8' := h8.cell
  have f8 := h8.frozen
  have hrA := hrun.out
  rw [← hX] at hrA
  clear hX hBX h1X h2X hgX hst h1 h2 hrun ho8 hg8 h8 hn
  go_enter Tryd.func88, Tryd.ntmps88
  go_wp2
  go_region_with (go_at_call 52; refine (hN _).out.mono ?_; rintro e w' ⟨rfl, hw⟩; subst hw)
  all_goals
    go_end0
    exact ⟨rfl, hfin.out.1, hfin.out.2⟩

set_option maxRecDepth 100000 in
set_option maxHeartbeats 4000000 in
theorem visitVector (p : Addr) : ∀ (f : Nat) (t : M.Bin) (k b : Nat) (zs : List Int) (W : World), t.n ≤ f → t.n ≤ 1000 → k + t.n ≤ 100000 → zs.length + t.n ≤ 1000 → W.cell? ⟨0, 0, none⟩ = some (errV p) → 0 < b → Col b zs W →
    Calls Tryd.prog 57 #[.string t.str, .int .i64 (k : Int), .func (.func 88) #[] #[.pointer (some ⟨b, 0, none⟩)]] W fun e w' => e = .returned (.tuple #[]) ∧ Hid (Col b (zs ++ t.vec) w') ∧ Hid (Away b W w') := by
  intro f
  induction f with
  | zero =>
    intro t k b zs W ht _ _ _ hc hb hcol
    cases t with
    | node l r => simp only [M.Bin.n] at ht; omega
    | nil =>
      have hP := fun W h => Lib.hid (partOf p .nil W (by simp [M.Bin.n]) h)
      simp only [M.Bin.lef, M.Bin.rig] at hP
      have HC := Lib.hid hc
      have HCol := Lib.hid hcol
      clear hc hcol
      generalize M.Bin.nil.str = S at *
      go_enter Tryd.func57, Tryd.ntmps57
      go_wp2_with (go_at_call 49; refine (hP _ HC.out).out.mono ?_; rintro e w2 ⟨rfl, hb2⟩)
      have e0 : zs ++ M.Bin.nil.vec = zs := List.append_nil zs
      refine bodyPost_ret (results_none rfl _ _ _) rfl ?_
      rw [e0]
      have hX := bal hb2.out (.cells #[.string ⟨#[]⟩, .string ⟨#[]⟩] 45)
      exact ⟨rfl, Lib.hid (HCol.out.up hX), Lib.hid (Away.of hX (Nat.le_of_lt HCol.out.lt))⟩
  | succ f ih =>
    intro t k b zs W ht ht2 hk hz hc hb hcol
    cases t with
    | nil => exact ih .nil k b zs W (by simp [M.Bin.n]) ht2 hk hz hc hb hcol
    | node l r =>
      simp only [M.Bin.n] at ht ht2 hk hz
      have hP := fun W h => Lib.hid (partOf p (.node l r) W (by simp only [M.Bin.n]; omega) h)
      simp only [M.Bin.lef, M.Bin.rig] at hP
      have hl := str_no l
      have hN := fun W => Lib.hid (nodesIn l W (by omega))
      have hv1 := Lib.hid (l.vec_len)
      have hIl := fun W => Lib.hid (fun h1 h2 => ih l (k + 1) b zs W (by omega) (by omega) (by omega) (by omega) h1 hb h2)
      have hIr := fun W => Lib.hid (fun h1 h2 => ih r (k + 1 + l.n) b ((zs ++ l.vec) ++ [(r.n : Int)]) W (by omega) (by omega) (by omega) (by simp only [List.length_append, List.length_cons, List.length_nil, hv1.out]; omega) h1 hb h2)
      have hV : Hid (zs ++ (M.Bin.node l r).vec = ((zs ++ l.vec) ++ [(r.n : Int)]) ++ r.vec) := by
        show _ = _
        simp [M.Bin.vec]
      have hk1 : (k : Int) ≤ 100000 := by omega
      have hk3 : (l.n : Int) ≤ 1000 := by omega
      have ek : ((k + 1 : Nat) : Int) = (k : Int) + 1 := by omega
      have ek2 : ((k + 1 + l.n : Nat) : Int) = (k : Int) + 1 + (l.n : Int) := by omega
      have w1 : IntKind.i64.wrap ((k : Int) + 1) = (k : Int) + 1 := IntWalk.i64_in _ (by omega)
      have w2' : IntKind.i64.wrap ((k : Int) + 1 + (l.n : Int)) = (k : Int) + 1 + (l.n : Int) := IntWalk.i64_in _ (by omega)
      rw [ek] at hIl
      rw [ek2] at hIr
      have HC := Lib.hid hc
      have HCol := Lib.hid hcol
      have hbW := hcol.lt
      rw [hV.out]
      have hzl : Hid ((zs ++ l.vec).length ≤ 1000) := by show _ ≤ _; rw [List.length_append, hv1.out]; omega
      clear hc hcol ih hV hv1
      generalize l.vec = IL at *
      generalize r.vec = IR at *
      generalize (M.Bin.node l r).str = S at *
      generalize l.str = SL at *
      go_enter Tryd.func57, Tryd.ntmps57
      go_wp2_with (first | (go_at_call 49; refine (hP _ HC.out).out.mono ?_; rintro e w2 ⟨rfl, hb2⟩; have hX : Hid (Below W.heap.size W (w2.alloc (.cells #[.string SL, .string r.str] 45))) := bal hb2.out _; have hPX : Hid (PartB w2.heap.size SL r.str (w2.alloc (.cells #[.string SL, .string r.str] 45))) := heap_alloc_new w2 _; have hbq : b < w2.heap.size := by have := hb2.out.size; omega) | (go_at_call_of 57 (Value.string SL); refine ((hIl _).out (cell_up hX.out HC.out) (HCol.out.up hX.out)).mono ?_; rintro e w4 ⟨rfl, hc4, ha4⟩; obtain ⟨p40, p41⟩ := (ha4.out.part hPX.out hbq).cells) | (go_at_call 88; refine (putVector (k : Int) SL r b (zs ++ IL) w4 (by omega) hzl.out hc4.out).mono ?_; rintro e w5 ⟨rfl, hc5, ha5⟩))
      have hA5 := Lib.hid ((Away.of hX.out (Nat.le_of_lt hbW)).trans (ha4.out.trans ha5.out))
      have hp5 : Hid (PartB w2.heap.size SL r.str w5.drew) := ha5.out.part (ha4.out.part hPX.out hbq) hbq
      obtain ⟨c0, c1⟩ := hp5.out.cells
      have hE5 : Hid (w5.drew.cell? ⟨0, 0, none⟩ = some (errV p)) := (hA5.out.1.cell (p := ⟨0, 0, none⟩) hb).trans HC.out
      have hC5 : Hid (Col b (zs ++ IL ++ [(r.n : Int)]) w5.drew) := hc5.out
      have hA5d : Hid (Away b W w5.drew) := ⟨hA5.out.1.drew, hA5.out.2⟩
      clear hP hIl HC HCol hX hPX hb2 hA5 hc4 hc5 ha4 ha5
      generalize w2.heap.size = q at *
      go_region_held3 (fun w' => w'.cell? ⟨q, 0, none⟩ = some (.string SL) ∧ w'.cell? ⟨q, 1, none⟩ = some (.string r.str)) (first | exact ⟨c0, c1⟩ | exact ⟨p60, p61⟩) (first | (go_at_call 52; refine (hN _).out.mono ?_; rintro e w' ⟨rfl, hw⟩; subst hw) | (go_at_call 57; refine ((hIr _).out hE5.out hC5.out).mono ?_; rintro e w6 ⟨rfl, hc6, ha6⟩; obtain ⟨p60, p61⟩ := (ha6.out.part hp5.out hbq).cells))
      go_end0
      exact ⟨rfl, hc6, Lib.hid (hA5d.out.trans ha6.out)⟩

set_option maxRecDepth 100000 in
theorem vectorOf (p : Addr) (t : M.Bin) (w : World) (ht : t.n ≤ 1000) (hc : w.cell? ⟨0, 0, none⟩ = some (errV p)) : Calls Tryd.prog 65 #[.string t.str] w fun e w' => ∃ A c, e = .returned (.slice A t.vec.length c) ∧ Hid (Own64 w' w.heap.size (.slice A t.vec.length c) t.vec) ∧ Hid (Below w.heap.size w w') := by
  have hw0 : 0 < w.heap.size := World.block_lt_of_cell? _ _ hc
  have hB := Lib.hid (bal (b0 w) (.cells #[.slice none 0 0] 29))
  have hM := Lib.hid (visitVector p t.n t 0 w.heap.size [] (w.alloc (.cells #[.slice none 0 0] 29)) (Nat.le_refl _) ht (by omega) (by simp; omega) (cell_up hB.out hc) hw0 (Col.new w))
  simp only [List.nil_append] at hM
  have hmf : ∀ (fn : Fn) (first cap : Array Value) (w : World), (Instr.makeFunc fn first cap).run Tryd.prog w = .ok (.func fn first cap) w := fun _ _ _ _ => rfl
  clear hc
  generalize t.vec = L at *
  generalize t.str = S at *
  go_enter Tryd.func65, Tryd.ntmps65
  go_wp2_with (go_at_call 57; refine hM.out.mono ?_; rintro e w2 ⟨rfl, hc2, ha2⟩; obtain ⟨A, n, c, hx, ho⟩ := hc2.out; have cx := hx.cell)
  have hn := own64_len ho
  subst hn
  go_ret
  exact ⟨A, c, rfl, own_mono ho (by omega), Lib.hid (hB.out.trans ha2.out.1)⟩
end Go.Proofs.YtkeahaoeiiigeaaDoor
