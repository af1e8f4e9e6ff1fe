/- A right rotation at a node: the closure of rotationAt with that of rightAt. -/
import Derived.Test.YtkeahaoeiiigeaaDoorTurnIn
import Derived.Deep.DeepCutAuto
namespace Go.Proofs.YtkeahaoeiiigeaaDoor
open Go.RowKit

/-- the text behind a rotation at a place -/
def rotS (q : Option (M.Bin × M.Bin)) (P : Nat) (t : M.Bin) (r : List UInt8) : ByteArray := match q with
  | none => ⟨#[]⟩
  | some z => M.bs (t.txt.take P) ++ (M.Bin.node z.1 z.2).str ++ M.bs r
theorem tL_none : tL none = ⟨#[]⟩ := rfl
theorem rotS_some (z : M.Bin × M.Bin) (P : Nat) (t : M.Bin) (r : List UInt8) : rotS (some z) P t r = t.str.extract 0 P ++ (M.Bin.node z.1 z.2).str ++ M.bs r := by
  show M.bs (t.txt.take P) ++ _ ++ _ = _
  have e : t.str.extract 0 P = M.bs (t.txt.take P) := by rw [M.Bin.str, M.bs_extract, List.drop_zero, Nat.sub_zero]
  rw [e]
theorem turnR_n {a b : M.Bin} {z : M.Bin × M.Bin} (h : turnR a b = some z) : z.1.n + z.2.n = a.n + b.n := by
  cases a with
  | nil => cases h
  | node x y => injection h with h; subst h; simp only [M.Bin.n]; omega
theorem turnL_n {a b : M.Bin} {z : M.Bin × M.Bin} (h : turnL a b = some z) : z.1.n + z.2.n = a.n + b.n := by
  cases b with
  | nil => cases a <;> cases h
  | node x y => cases a <;> (injection h with h; subst h; simp only [M.Bin.n]; omega)
theorem partB_alloc (W : World) (a c : ByteArray) : PartB W.heap.size a c (W.alloc (.cells #[.string a, .string c] 45)) := heap_alloc_new W _
theorem new_part {X w7 : World} {a c : ByteArray} (h : Below (X.alloc (.cells #[.string a, .string c] 45)).heap.size (X.alloc (.cells #[.string a, .string c] 45)) w7) : PartB X.heap.size a c w7 := (partB_alloc X a c).up h

set_option maxRecDepth 100000 in
set_option maxHeartbeats 4000000 in
theorem rotAtRight (p : Addr) (t a b : M.Bin) (i c1 c2 : Nat) (r : List UInt8) (W : World) (ht : t.n ≤ 23) (hi : i < t.n) (hd : t.txt.drop (M.place t.txt i) = (M.Bin.node a b).txt ++ r)
    (k1 : W.cell? ⟨c1, 0, none⟩ = some (.int .i64 (i : Int))) (k2 : W.cell? ⟨c2, 0, none⟩ = some (.func (.func 86) #[] #[])) (hc : W.cell? ⟨0, 0, none⟩ = some (errV p)) :
    Calls Tryd.prog 100 #[.string t.str, .pointer (some ⟨c1, 0, none⟩), .pointer (some ⟨c2, 0, none⟩)] W fun e w' => e = .returned (.string (rotS (turnR a b) (M.place t.txt i) t r)) ∧ Hid (Below W.heap.size W w') := by
  have hz := str_size t
  have hones : i < M.ones t.str.data.toList := by rw [M.Bin.str, M.bs_data, M.ones_txt]; exact hi
  have hBg := Lib.hid (beginOfPart t.str i W (by omega) hones)
  have hPl := M.place_lt (l := t.txt) (i := i) (by rw [M.ones_txt]; exact hi)
  rw [show M.place t.str.data.toList i = M.place t.txt i from rfl] at hBg
  have hlen := congrArg List.length hd
  rw [List.length_drop, List.length_append, (M.Bin.node a b).txt_len, t.txt_len] at hlen
  rw [t.txt_len] at hPl
  obtain ⟨P, hP⟩ : ∃ P, M.place t.txt i = P := ⟨_, rfl⟩
  rw [hP] at hBg hd hPl hlen ⊢
  have hnab : (M.Bin.node a b).n = a.n + b.n + 1 := rfl
  have hcut : t.str.extract P t.str.size = M.bs ((M.Bin.node a b).txt ++ r) := by rw [drop_str, ← hd]; rfl
  have hBe := behindPart p _ (t.str.extract P t.str.size) W (Nat.le_refl _) hc
  rw [hcut, M.bs_data] at hBe
  have K1 : Hid (Calls Tryd.prog 82 #[.string (t.str.extract P t.str.size)] W fun e w' => e = .returned (.string (M.bs r)) ∧ w' = W) := by
    unfold behindEnd at hBe
    rw [M.after_txt, M.after_zero] at hBe
    rw [hcut]
    exact hBe
  have hr : (M.bs r).size = r.length := M.bs_size r
  have hsub : t.str.extract P (t.str.size - (M.bs r).size) = (M.Bin.node a b).str := by
    rw [hr, str_size, M.Bin.str, M.bs_extract, hd, M.Bin.str]
    congr 1
    rw [show 2 * t.n + 1 - r.length - P = (M.Bin.node a b).txt.length by rw [(M.Bin.node a b).txt_len]; omega, List.take_left]
  have z1 : (P : Int) ≤ (t.str.size : Int) := by omega
  have z2 : (P : Int) ≤ (t.str.size : Int) - ((M.bs r).size : Int) := by omega
  have z3 : (t.str.size : Int) ≤ 1000 := by omega
  have z4 : (0 : Int) ≤ (P : Int) := by omega
  have z5 : IntKind.i64.wrap ((t.str.size : Int) - ((M.bs r).size : Int)) = (t.str.size : Int) - ((M.bs r).size : Int) := IntWalk.i64_in _ (by omega)
  have z6 : ((t.str.size : Int) - ((M.bs r).size : Int)).toNat = t.str.size - (M.bs r).size := by omega
  have hsl : ∀ W, (Instr.slice 9 (.string t.str) (some (.int .i64 (P : Int))) (some (.int .i64 ((t.str.size : Int) - ((M.bs r).size : Int)))) none).run Tryd.prog W = .ok (.string (t.str.extract P (t.str.size - (M.bs r).size))) W := fun W => by
    have := slice_str t.str (P : Int) ((t.str.size : Int) - ((M.bs r).size : Int)) W z4 z2 (by omega)
    rw [z6] at this
    exact this
  have HE : Hid (∀ W', Hid (Below W.heap.size W W') → W'.cell? ⟨0, 0, none⟩ = some (errV p)) := fun W' h => cell_up h.out hc
  have HP : Hid (∀ W', Hid (Below W.heap.size W W') → Calls Tryd.prog 49 #[.string (t.str.extract P (t.str.size - (M.bs r).size))] W' fun e w' => e = .returned (.agg #[.string a.str, .string b.str]) ∧ Hid (Below W.heap.size W w') ∧ Hid (Below W'.heap.size W' w')) := fun W' h => by
    rw [hsub]
    exact (partOf p (.node a b) W' (by omega) (HE.out W' h)).mono fun e w' ⟨he, hb⟩ => ⟨he, btr h.out hb.out, hb⟩
  have HT : Hid (∀ W', Hid (Below W.heap.size W W') → Calls Tryd.prog 86 #[.agg #[.string a.str, .string b.str]] W' fun e w' => e = .returned (.agg #[.string (tL (turnR a b)), .string (tR (turnR a b))]) ∧ Hid (Below W.heap.size W w') ∧ Hid (Below W'.heap.size W' w')) := fun W' h =>
    (turnRight p a b W' (by omega) (by omega) (HE.out W' h)).mono fun e w' ⟨he, hb⟩ => ⟨he, btr h.out hb.out, hb⟩
  have K0 : Hid (Below W.heap.size W W.drew) := (b0 W).drew
  have hrot : Hid (∀ z, rotS (some z) P t r = t.str.extract 0 P ++ (M.Bin.node z.1 z.2).str ++ M.bs r) := fun z => rotS_some z P t r
  have hn0 : Hid (∀ z, turnR a b = some z → z.1.n + z.2.n = a.n + b.n) := fun z h => turnR_n h
  have hab : a.n + b.n ≤ 23 := by omega
  have z7 : (t.str.extract 0 P).size ≤ 1000 := by rw [ByteArray.size_extract]; omega
  have z8 : (M.bs r).size ≤ 1000 := by omega
  clear hz hones hPl hlen hcut hBe hr hsub hP hnab
  obtain ⟨z, hz⟩ : ∃ z, turnR a b = z := ⟨_, rfl⟩
  rw [hz] at HT ⊢
  replace hn0 : Hid (∀ y, z = some y → y.1.n + y.2.n = a.n + b.n) := fun y h => hn0.out y (hz.trans h)
  obtain ⟨TL, hTL⟩ : ∃ TL, Hid (tL z = TL) := ⟨_, rfl⟩
  obtain ⟨TR, hTR⟩ : ∃ TR, Hid (tR z = TR) := ⟨_, rfl⟩
  rw [hTL.out, hTR.out] at HT
  clear hz
  generalize M.bs r = R at *
  generalize t.str = S at *
  generalize a.str = SA at *
  generalize b.str = SB at *
  go_enter Tryd.func100, Tryd.ntmps100
  go_upto_region 3 with (first | (go_at_call 101; refine hBg.out.mono ?_; rintro e w' ⟨rfl, hw⟩; have hw := hw.symm; subst hw) | (go_at_call 82; refine K1.out.mono ?_; rintro e w' ⟨rfl, hw⟩; have hw := hw.symm; subst hw))
  go_cut [7] (fun s7 wx => ∃ (q : Nat), s7 = .pointer (some ⟨q, 0, none⟩) ∧ Hid (PartB q TL TR wx) ∧ Hid (Below W.heap.size W wx))
  case first =>
    have k2d : W.drew.cell? ⟨c2, 0, none⟩ = some (.func (.func 86) #[] #[]) := k2
    have kA0 := cell_al k2 (.cells #[.string ⟨#[]⟩, .string ⟨#[]⟩] 45)
    go_region_with (first | (go_at_call 49; refine (HP.out _ (by first | exact K0 | exact bal K0.out _)).mono ?_; rintro e w7 ⟨rfl, hb7, hc7⟩; have k27 := cell_up hb7.out k2; have kA7 := cell_al k27 (.cells #[.string ⟨#[]⟩, .string ⟨#[]⟩] 45); first | (have kq7 : PartB W.heap.size ⟨#[]⟩ ⟨#[]⟩ w7 := new_part (X := W.drew) hc7.out; obtain ⟨e0, e1⟩ := kq7.cells; obtain ⟨e2, e3⟩ := partB_free kq7) | skip) | (go_at_call 86; refine (HT.out _ (by first | exact hb7 | exact bal hb7.out _)).mono ?_; rintro e w8 ⟨rfl, hb8, hc8⟩; have k28 := cell_up hb8.out k2; have kA8 := cell_al k28 (.cells #[.string ⟨#[]⟩, .string ⟨#[]⟩] 45); first | (have kq8 := kq7.up hc8.out; obtain ⟨f0, f1⟩ := kq8.cells; obtain ⟨f2, f3⟩ := partB_free kq8) | (have kq8 : PartB w7.heap.size ⟨#[]⟩ ⟨#[]⟩ w8 := new_part (X := w7) hc8.out; obtain ⟨f0, f1⟩ := kq8.cells; obtain ⟨f2, f3⟩ := partB_free kq8) | skip))
    all_goals (go_wp2_with fail)
    all_goals (go_meet)
    all_goals have z9 := hb7.out.size
    all_goals first
      | exact ⟨w8.heap.size, rfl, partB_alloc w8 TL TR, bal hb8.out _⟩
      | exact ⟨_, rfl, partB_set kq8, below_setCell (below_setCell hb8.out (by omega) _) (by omega) _⟩
  case rest =>
    obtain ⟨q, rfl, hpq, hBq⟩ := hcut
    obtain ⟨l0, l1⟩ := hpq.out.cells
    clear HE HP HT K0 K1 hBg hsl k1 k2 hc
    cases z with
    | none =>
      obtain rfl : TL = ⟨#[]⟩ := hTL.out.symm
      obtain rfl : TR = ⟨#[]⟩ := hTR.out.symm
      go_wp2
      go_ret
      exact ⟨rfl, hBq⟩
    | some y =>
      obtain rfl : TL = y.1.str := hTL.out.symm
      obtain rfl : TR = y.2.str := hTR.out.symm
      have hl := str_no y.1
      have hyn := hn0.out y rfl
      have hT2 := fun W => Lib.hid (partText_in y.1.str y.2.str W (by rw [str_size]; omega) (by rw [str_size]; omega))
      rw [partText_node] at hT2
      have hXz : (M.Bin.node y.1 y.2).str.size ≤ 1000 := by rw [str_size]; simp only [M.Bin.n]; omega
      have hry := Lib.hid (hrot.out y)
      have hs1 : ¬ 9223372036854775807 < (S.extract 0 P).size + (M.Bin.node y.1 y.2).str.size := by omega
      have hs2 : ¬ 9223372036854775807 < (S.extract 0 P).size + (M.Bin.node y.1 y.2).str.size + R.size := by omega
      have hsl0 : ∀ W, (Instr.slice 9 (.string S) none (some (.int .i64 (P : Int))) none).run Tryd.prog W = .ok (.string (S.extract 0 P)) W := fun W => by
        have := run_slice_string_h (P := Tryd.prog) W 9 S Tryd.underlying9 .i64 (P : Int) z4 z1
        rw [Int.toNat_natCast] at this
        exact this
      clear hn0 hrot hTL hTR hyn hXz z5 z6 z2
      generalize (M.Bin.node y.1 y.2).str = X at *
      generalize y.1.str = TL at *
      generalize y.2.str = TR at *
      generalize S.extract 0 P = SP at *
      go_wp2
      obtain ⟨d0, d1⟩ := (show PartB q TL TR wc.drew from hpq.out).cells
      have hBd : Hid (Below W.heap.size W wc.drew) := hBq.out.drew
      go_region_held3 (fun w' => w'.cell? ⟨q, 0, none⟩ = some (.string TL) ∧ w'.cell? ⟨q, 1, none⟩ = some (.string TR)) (first | exact ⟨d0, d1⟩ | exact ⟨n0, n1⟩) ((go_at_call 53; refine (hT2 _).out.mono ?_; rintro e w5 ⟨rfl, hb5⟩; obtain ⟨n0, n1⟩ := (PartB.up (W := wc.drew) hpq.out hb5.out).cells))
      go_wp2
      go_ret
      rw [hry.out]
      exact ⟨rfl, Lib.hid (btr hBd.out hb5.out)⟩
end Go.Proofs.YtkeahaoeiiigeaaDoor
