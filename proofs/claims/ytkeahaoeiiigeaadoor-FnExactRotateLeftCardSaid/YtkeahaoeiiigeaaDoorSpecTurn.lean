/- The model's l03Node and l03Turn. -/
import Derived.Test.YtkeahaoeiiigeaaDoorRotated
namespace Go.Proofs.YtkeahaoeiiigeaaDoor
open Go.RowKit

theorem bs1 : (⟨#[49]⟩ : ByteArray) = M.bs [49] := rfl
theorem bs11 : (⟨#[49, 49]⟩ : ByteArray) = M.bs [49, 49] := rfl
theorem rotR_text (P : Nat) (t x y b : M.Bin) (r : List UInt8) (SP S1 : ByteArray) (h0 : SP = M.bs (t.txt.take P)) (h1 : S1 = M.bs r) : SP ++ ⟨#[49]⟩ ++ x.str ++ ⟨#[49]⟩ ++ y.str ++ b.str ++ S1 = rotS (turnR (.node x y) b) P t r := by
  subst h0; subst h1
  show _ = M.bs (t.txt.take P) ++ M.bs (M.Bin.node x (.node y b)).txt ++ M.bs r
  simp only [bs1, M.Bin.str, M.bs_append, M.Bin.txt]
  congr 1
  simp
theorem rotL_text (P : Nat) (t a x y : M.Bin) (r : List UInt8) (SP S1 : ByteArray) (h0 : SP = M.bs (t.txt.take P)) (h1 : S1 = M.bs r) : SP ++ ⟨#[49, 49]⟩ ++ a.str ++ x.str ++ y.str ++ S1 = rotS (turnL a (.node x y)) P t r := by
  subst h0; subst h1
  have e : turnL a (.node x y) = some (.node a x, y) := by cases a <;> rfl
  rw [e]
  show _ = M.bs (t.txt.take P) ++ M.bs (M.Bin.node (.node a x) y).txt ++ M.bs r
  simp only [bs11, M.Bin.str, M.bs_append, M.Bin.txt]
  congr 1
  simp

/-- what both rotations need of a text -/
theorem turn_facts (t a b : M.Bin) (j P : Nat) (r : List UInt8) (W : World) (ht : t.n ≤ 23) (hj : j < t.n) (hP : M.place t.txt j = P) (hd : t.txt.drop P = (M.Bin.node a b).txt ++ r) :
    ∃ E : Nat, P ≤ E ∧ E ≤ t.str.size ∧ t.str.size ≤ 47 ∧ a.n + b.n ≤ 22 ∧ t.str.extract P E = (M.Bin.node a b).str ∧ t.str.extract E t.str.size = M.bs r ∧ t.str.extract 0 P = M.bs (t.txt.take P) ∧
      Hid (Calls Tryd.prog 84 #[.string t.str, .int .i64 (j : Int)] W fun e w' => e = .returned (.int .i64 (P : Int)) ∧ w' = W) ∧
      Hid (Calls Tryd.prog 80 #[.string t.str, .int .i64 (P : Int)] W fun e w' => e = .returned (.int .i64 (E : Int)) ∧ w' = W) := by
  have hz := str_size t
  have hones : j < M.ones t.str.data.toList := by rw [M.Bin.str, M.bs_data, M.ones_txt]; exact hj
  have hPl := l03Place t.str j W (by omega) hones (by omega)
  rw [show M.place t.str.data.toList j = M.place t.txt j from rfl, hP] at hPl
  have hlen := congrArg List.length hd
  rw [List.length_drop, List.length_append, (M.Bin.node a b).txt_len, t.txt_len] at hlen
  have hnab : (M.Bin.node a b).n = a.n + b.n + 1 := rfl
  have hE := l03End t.str P W (by omega) (by omega)
  have e1 : endAt t.str.data.toList P = ((t.str.size - r.length : Nat) : Int) := by
    rw [endAt, show t.str.data.toList.drop P = t.txt.drop P from rfl, hd, M.after_txt, M.after_zero, ← Lib.size_eq]
  rw [e1] at hE
  refine ⟨t.str.size - r.length, by omega, by omega, by omega, by omega, ?_, ?_, ?_, hPl, hE⟩
  · rw [str_size, M.Bin.str, M.bs_extract, hd, M.Bin.str]
    congr 1
    rw [show 2 * t.n + 1 - r.length - P = (M.Bin.node a b).txt.length by rw [(M.Bin.node a b).txt_len]; omega, List.take_left]
  · rw [drop_str]
    congr 1
    show t.txt.drop _ = r
    have e2 : t.str.size - r.length = P + (M.Bin.node a b).txt.length := by rw [(M.Bin.node a b).txt_len]; omega
    rw [e2, ← List.drop_drop, hd, List.drop_left]
  · rw [M.Bin.str, M.bs_extract, List.drop_zero, Nat.sub_zero]

set_option maxRecDepth 100000 in
set_option maxHeartbeats 4000000 in
theorem l03TurnR (t a b : M.Bin) (j : Nat) (r : List UInt8) (W : World) (ht : t.n ≤ 23) (hj : j < t.n) (hd : t.txt.drop (M.place t.txt j) = (M.Bin.node a b).txt ++ r) :
    Calls Tryd.prog 60 #[.string t.str, .int .i64 (j : Int), .bool true] W fun e w' => e = .returned (.tuple #[.string (rotS (turnR a b) (M.place t.txt j) t r), .bool (turnR a b).isSome]) ∧ Hid (Below W.heap.size W w') := by
  obtain ⟨P, hP⟩ : ∃ P, M.place t.txt j = P := ⟨_, rfl⟩
  rw [hP] at hd ⊢
  obtain ⟨E, q1, q2, q3, q4, hx, h1, h0, HP, HE⟩ := turn_facts t a b j P r W ht hj hP hd
  have hS := fun W => Lib.hid (l03Sides a b W (by omega))
  rw [← hx] at hS
  have p1 : (P : Int) ≤ (E : Int) := by omega
  have p2 : (E : Int) ≤ (t.str.size : Int) := by omega
  have p3 : (0 : Int) ≤ (P : Int) := by omega
  have p4 : (0 : Int) ≤ (E : Int) := by omega
  have p5 : (P : Int) ≤ (t.str.size : Int) := by omega
  have hsl : ∀ W, (Instr.slice 9 (.string t.str) (some (.int .i64 (P : Int))) (some (.int .i64 (E : Int))) none).run Tryd.prog W = .ok (.string (t.str.extract P E)) W := fun W => slice_str t.str P E W p3 p1 p2
  cases a with
  | nil =>
    have hq : (M.Bin.nil.str.toList == [48]) = true := str_nil .nil
    show Calls _ _ _ _ fun e w' => e = .returned (.tuple #[.string ⟨#[]⟩, .bool false]) ∧ _
    clear hx h1 h0 hd hP
    generalize t.str.extract P E = SX at *
    generalize M.Bin.nil.str = SA at *
    generalize t.str = S at *
    go_enter Tryd.func60, Tryd.ntmps60
    go_wp2_with (first | (go_at_call 84; refine HP.out.mono ?_; rintro e w' ⟨rfl, hw⟩; have hw := hw.symm; subst hw) | (go_at_call 80; refine HE.out.mono ?_; rintro e w' ⟨rfl, hw⟩; have hw := hw.symm; subst hw) | (go_at_call 48; refine (hS _).out.mono ?_; rintro e w2 ⟨rfl, hb2⟩))
    go_ret2
    exact ⟨rfl, hb2⟩
  | node x y =>
    have hq : ((M.Bin.node x y).str.toList == [48]) = false := str_nil (.node x y)
    simp only [M.Bin.n] at q4
    have hA := fun W => Lib.hid (l03Sides x y W (by omega))
    have hfin := Lib.hid (rotR_text P t x y b r _ _ h0 h1)
    have zx := str_size x
    have zy := str_size y
    have zb := str_size b
    have z0 : (t.str.extract 0 P).size ≤ 47 := by rw [ByteArray.size_extract]; omega
    have z1 : (t.str.extract E t.str.size).size ≤ 47 := by rw [ByteArray.size_extract]; omega
    show Calls _ _ _ _ fun e w' => e = .returned (.tuple #[.string (rotS (turnR (.node x y) b) P t r), .bool true]) ∧ _
    rw [← hfin.out]
    have hsl0 : ∀ W, (Instr.slice 9 (.string t.str) none (some (.int .i64 (P : Int))) none).run Tryd.prog W = .ok (.string (t.str.extract 0 P)) W := fun W => by
      have := run_slice_string_h (P := Tryd.prog) W 9 t.str Tryd.underlying9 .i64 (P : Int) p3 p5
      rw [Int.toNat_natCast] at this
      exact this
    have hsl1 : ∀ W, (Instr.slice 9 (.string t.str) (some (.int .i64 (E : Int))) none none).run Tryd.prog W = .ok (.string (t.str.extract E t.str.size)) W := fun W => by
      have := run_slice_string_l (P := Tryd.prog) W 9 t.str Tryd.underlying9 .i64 (E : Int) p4 p2
      rw [Int.toNat_natCast] at this
      exact this
    clear hx h1 h0 hd hP hfin
    generalize t.str.extract P E = SX at *
    generalize t.str.extract 0 P = SP at *
    generalize t.str.extract E t.str.size = SE at *
    generalize (M.Bin.node x y).str = SA at *
    generalize t.str = S at *
    generalize x.str = X at *
    generalize y.str = Y at *
    generalize b.str = B at *
    have s1 : ¬ 9223372036854775807 < SP.size + 1 := by omega
    have s2 : ¬ 9223372036854775807 < SP.size + 1 + X.size := by omega
    have s3 : ¬ 9223372036854775807 < SP.size + 1 + X.size + 1 := by omega
    have s4 : ¬ 9223372036854775807 < SP.size + 1 + X.size + 1 + Y.size := by omega
    have s5 : ¬ 9223372036854775807 < SP.size + 1 + X.size + 1 + Y.size + B.size := by omega
    have s6 : ¬ 9223372036854775807 < SP.size + 1 + X.size + 1 + Y.size + B.size + SE.size := by omega
    clear zx zy zb z0 z1
    go_enter Tryd.func60, Tryd.ntmps60
    go_wp2_with (first | (go_at_call 84; refine HP.out.mono ?_; rintro e w' ⟨rfl, hw⟩; have hw := hw.symm; subst hw) | (go_at_call 80; refine HE.out.mono ?_; rintro e w' ⟨rfl, hw⟩; have hw := hw.symm; subst hw) | (go_at_call_of 48 (Value.string SX); refine (hS _).out.mono ?_; rintro e w2 ⟨rfl, hb2⟩) | (go_at_call 48; refine (hA _).out.mono ?_; rintro e w3 ⟨rfl, hb3⟩))
    have hBd : Hid (Below W.heap.size W w3.drew) := (btr hb2.out hb3.out).drew
    go_region
    go_wp2
    go_ret2
    exact ⟨rfl, hBd⟩
set_option maxRecDepth 100000 in
set_option maxHeartbeats 4000000 in
theorem l03TurnL (t a b : M.Bin) (j : Nat) (r : List UInt8) (W : World) (ht : t.n ≤ 23) (hj : j < t.n) (hd : t.txt.drop (M.place t.txt j) = (M.Bin.node a b).txt ++ r) :
    Calls Tryd.prog 60 #[.string t.str, .int .i64 (j : Int), .bool false] W fun e w' => e = .returned (.tuple #[.string (rotS (turnL a b) (M.place t.txt j) t r), .bool (turnL a b).isSome]) ∧ Hid (Below W.heap.size W w') := by
  obtain ⟨P, hP⟩ : ∃ P, M.place t.txt j = P := ⟨_, rfl⟩
  rw [hP] at hd ⊢
  obtain ⟨E, q1, q2, q3, q4, hx, h1, h0, HP, HE⟩ := turn_facts t a b j P r W ht hj hP hd
  have hS := fun W => Lib.hid (l03Sides a b W (by omega))
  rw [← hx] at hS
  have p1 : (P : Int) ≤ (E : Int) := by omega
  have p2 : (E : Int) ≤ (t.str.size : Int) := by omega
  have p3 : (0 : Int) ≤ (P : Int) := by omega
  have p4 : (0 : Int) ≤ (E : Int) := by omega
  have p5 : (P : Int) ≤ (t.str.size : Int) := by omega
  have hsl : ∀ W, (Instr.slice 9 (.string t.str) (some (.int .i64 (P : Int))) (some (.int .i64 (E : Int))) none).run Tryd.prog W = .ok (.string (t.str.extract P E)) W := fun W => slice_str t.str P E W p3 p1 p2
  cases b with
  | nil =>
    have hq : (M.Bin.nil.str.toList == [48]) = true := str_nil .nil
    have e0 : turnL a .nil = none := by cases a <;> rfl
    rw [e0]
    show Calls _ _ _ _ fun e w' => e = .returned (.tuple #[.string ⟨#[]⟩, .bool false]) ∧ _
    clear e0
    clear hx h1 h0 hd hP
    generalize t.str.extract P E = SX at *
    generalize M.Bin.nil.str = SB at *
    generalize a.str = SA at *
    generalize t.str = S at *
    go_enter Tryd.func60, Tryd.ntmps60
    go_wp2_with (first | (go_at_call 84; refine HP.out.mono ?_; rintro e w' ⟨rfl, hw⟩; have hw := hw.symm; subst hw) | (go_at_call 80; refine HE.out.mono ?_; rintro e w' ⟨rfl, hw⟩; have hw := hw.symm; subst hw) | (go_at_call 48; refine (hS _).out.mono ?_; rintro e w2 ⟨rfl, hb2⟩))
    go_ret2
    exact ⟨rfl, hb2⟩
  | node x y =>
    have hq : ((M.Bin.node x y).str.toList == [48]) = false := str_nil (.node x y)
    simp only [M.Bin.n] at q4
    have hA := fun W => Lib.hid (l03Sides x y W (by omega))
    have hfin := Lib.hid (rotL_text P t a x y r _ _ h0 h1)
    have zx := str_size x
    have zy := str_size y
    have za := str_size a
    have z0 : (t.str.extract 0 P).size ≤ 47 := by rw [ByteArray.size_extract]; omega
    have z1 : (t.str.extract E t.str.size).size ≤ 47 := by rw [ByteArray.size_extract]; omega
    have e0 : (turnL a (.node x y)).isSome = true := by cases a <;> rfl
    rw [e0]
    clear e0
    rw [← hfin.out]
    have hsl0 : ∀ W, (Instr.slice 9 (.string t.str) none (some (.int .i64 (P : Int))) none).run Tryd.prog W = .ok (.string (t.str.extract 0 P)) W := fun W => by
      have := run_slice_string_h (P := Tryd.prog) W 9 t.str Tryd.underlying9 .i64 (P : Int) p3 p5
      rw [Int.toNat_natCast] at this
      exact this
    have hsl1 : ∀ W, (Instr.slice 9 (.string t.str) (some (.int .i64 (E : Int))) none none).run Tryd.prog W = .ok (.string (t.str.extract E t.str.size)) W := fun W => by
      have := run_slice_string_l (P := Tryd.prog) W 9 t.str Tryd.underlying9 .i64 (E : Int) p4 p2
      rw [Int.toNat_natCast] at this
      exact this
    clear hx h1 h0 hd hP hfin
    generalize t.str.extract P E = SX at *
    generalize t.str.extract 0 P = SP at *
    generalize t.str.extract E t.str.size = SE at *
    generalize (M.Bin.node x y).str = SB at *
    generalize t.str = S at *
    generalize x.str = X at *
    generalize y.str = Y at *
    generalize a.str = A at *
    have s1 : ¬ 9223372036854775807 < SP.size + 2 := by omega
    have s2 : ¬ 9223372036854775807 < SP.size + 2 + A.size := by omega
    have s3 : ¬ 9223372036854775807 < SP.size + 2 + A.size + X.size := by omega
    have s4 : ¬ 9223372036854775807 < SP.size + 2 + A.size + X.size + Y.size := by omega
    have s5 : ¬ 9223372036854775807 < SP.size + 2 + A.size + X.size + Y.size + SE.size := by omega
    clear zx zy za z0 z1
    go_enter Tryd.func60, Tryd.ntmps60
    go_wp2_with (first | (go_at_call 84; refine HP.out.mono ?_; rintro e w' ⟨rfl, hw⟩; have hw := hw.symm; subst hw) | (go_at_call 80; refine HE.out.mono ?_; rintro e w' ⟨rfl, hw⟩; have hw := hw.symm; subst hw) | (go_at_call_of 48 (Value.string SX); refine (hS _).out.mono ?_; rintro e w2 ⟨rfl, hb2⟩) | (go_at_call 48; refine (hA _).out.mono ?_; rintro e w3 ⟨rfl, hb3⟩))
    have hBd : Hid (Below W.heap.size W w3.drew) := (btr hb2.out hb3.out).drew
    go_region
    go_wp2
    go_ret2
    exact ⟨rfl, hBd⟩

set_option maxRecDepth 100000 in
theorem l03Node (s : ByteArray) (i : Int) (w : World) (hs : s.size ≤ 1048576) : Calls Tryd.prog 59 #[.string s, .int .i64 i] w fun e w' => e = .returned (.int .i64 (if okB s then (if 0 ≤ i ∧ i ≤ ((treeOf s).n : Int) - 1 then 0 else 2) else 1)) ∧ w' = w := by
  have hC := Lib.hid (l03Is s w hs)
  cases ho : okB s
  · rw [ho] at hC
    show Calls _ _ _ _ fun e w' => e = .returned (.int .i64 1) ∧ _
    clear ho
    go_enter Tryd.func59, Tryd.ntmps59
    go_wp2_with (go_at_call 46; refine hC.out.mono ?_; rintro e w' ⟨rfl, hw⟩; subst hw)
    go_ret
    exact ⟨rfl, rfl⟩
  · obtain ⟨t, rfl, ht⟩ := okB_inv ho
    rw [ho] at hC
    rw [treeOf_str, if_pos rfl]
    have hN := Lib.hid (l03N t w (by omega))
    have hn1 : (t.n : Int) ≤ 23 := by omega
    have hn0 : (0 : Int) ≤ (t.n : Int) := by omega
    have hw : IntKind.i64.wrap ((t.n : Int) - 1) = (t.n : Int) - 1 := IntWalk.i64_in _ (by omega)
    have hI := Lib.hid (l01In i 0 ((t.n : Int) - 1) w)
    by_cases hb : 0 ≤ i ∧ i ≤ (t.n : Int) - 1
    · rw [decide_eq_true hb.1, decide_eq_true hb.2] at hI
      rw [if_pos hb]
      clear ho hb ht
      generalize t.str = S at *
      go_enter Tryd.func59, Tryd.ntmps59
      go_wp2_with (first | (go_at_call 46; refine hC.out.mono ?_; rintro e w' ⟨rfl, hw⟩; have hw := hw.symm; subst hw) | (go_at_call 51; refine hN.out.mono ?_; rintro e w' ⟨rfl, hw⟩; have hw := hw.symm; subst hw) | (go_at_call 66; refine hI.out.mono ?_; rintro e w' ⟨rfl, hw⟩; have hw := hw.symm; subst hw))
      go_ret
      exact ⟨rfl, rfl⟩
    · have hb2 : (decide (0 ≤ i) && decide (i ≤ (t.n : Int) - 1)) = false := by
        rw [← Bool.not_eq_true, Bool.and_eq_true, decide_eq_true_eq, decide_eq_true_eq]; exact hb
      rw [hb2] at hI
      rw [if_neg hb]
      clear ho hb ht hb2
      generalize t.str = S at *
      go_enter Tryd.func59, Tryd.ntmps59
      go_wp2_with (first | (go_at_call 46; refine hC.out.mono ?_; rintro e w' ⟨rfl, hw⟩; have hw := hw.symm; subst hw) | (go_at_call 51; refine hN.out.mono ?_; rintro e w' ⟨rfl, hw⟩; have hw := hw.symm; subst hw) | (go_at_call 66; refine hI.out.mono ?_; rintro e w' ⟨rfl, hw⟩; have hw := hw.symm; subst hw))
      go_ret
      exact ⟨rfl, rfl⟩
theorem rotS_isEmpty (q : Option (M.Bin × M.Bin)) (P : Nat) (t : M.Bin) (r : List UInt8) : (rotS q P t r).toList.isEmpty = !q.isSome := by
  cases q with
  | none => show (⟨#[]⟩ : ByteArray).toList.isEmpty = true; rw [Lib.toList_data]; rfl
  | some z =>
    show (M.bs (t.txt.take P) ++ M.bs (M.Bin.node z.1 z.2).txt ++ M.bs r).toList.isEmpty = false
    rw [M.bs_append, M.bs_append, Lib.toList_data, M.bs_data]
    simp [M.Bin.txt]
end Go.Proofs.YtkeahaoeiiigeaaDoor
