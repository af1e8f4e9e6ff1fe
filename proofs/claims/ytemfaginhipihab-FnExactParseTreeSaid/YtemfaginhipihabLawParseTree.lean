/- The walk of the law FnExactParseTree, from the contracts of the program's function and of the model's: it returns true, and writes into nothing that was there. -/
import Derived.Test.YtemfaginhipihabFnParseSpec
namespace Go.Proofs.Ytemfaginhipihab
open Go.RowKit

theorem M.prun_len : ∀ (l ds st ds' st' : List Int), M.prun ds st l = some (ds', st') → ds'.length ≤ ds.length + l.length := by
  intro l
  induction l with
  | nil => intro ds st ds' st' h; simp only [M.prun, Option.some.injEq, Prod.mk.injEq] at h; rw [h.1]; simp
  | cons c r ih =>
    intro ds st ds' st' h
    simp only [M.prun] at h
    split at h
    · cases h
    · rename_i d1 s1 hs
      have := ih _ _ _ _ h
      have hd : d1.length ≤ ds.length + 1 := by
        simp only [M.pstep] at hs
        split at hs
        · split at hs
          · injection hs with hs; injection hs with e1 e2; rw [← e1]; simp
          · split at hs
            · injection hs with hs; injection hs with e1 e2; rw [← e1]; simp
            · cases hs
        · split at hs
          · split at hs
            · injection hs with hs; injection hs with e1 e2; rw [← e1]; simp
            · cases hs
          · cases hs
      simp only [List.length_cons]
      omega
theorem M.parse_len (l : List Int) : (M.parse l).1.length ≤ 48 := by
  simp only [M.parse]
  split
  · simp
  · rename_i hl
    split
    · rename_i ds h
      split
      · simp
      · have := M.prun_len _ _ _ _ _ h
        simp only [List.length_nil] at this
        show ds.length ≤ 48
        omega
    · simp

set_option maxHeartbeats 4000000 in
set_option maxRecDepth 100000 in
theorem lawParseTree (s : ByteArray) (w : World) :
    Calls Try.prog 13 #[.string s] w fun e w' => e = .returned (.bool true) ∧ Below w.heap.size w w' := by
  by_cases hs : s.size ≤ 1048576
  · have hs1 : ¬ (1048576 : Int) < (s.size : Int) := by omega
    have hf := M.parse_len (bytesOf s)
    have HS := Lib.hid (fun W => spec_ParseTree s W hs)
    have HI := Lib.hid (fun W => impl_ParseTree s W hs)
    generalize M.parse (bytesOf s) = R at *
    obtain ⟨xs, r⟩ := R
    simp only at hf HS HI
    go_enter Try.func13, Try.ntmps13
    go_wp2_with fail
    refine (HS.out _).mono ?_
    rintro e w1 ⟨Aw, cw, rfl, ow, hb⟩
    have B := Lib.hid hb
    have Wx := Lib.hid (World.ownsRow.lt ow)
    have Ow := Lib.hid ow
    have z1 := hb.size
    clear hb ow
    go_wp2_with fail
    refine (HI.out _).mono ?_
    rintro e w2 ⟨Ag, cg, rfl, og, hb⟩
    replace B := Lib.hid (btr (bal B.out _) hb)
    have cW : w2.cell? ⟨w1.heap.size, 0, none⟩ = some (.slice Aw xs.length cw) := cell_be (by simp) hb
    replace Ow := Lib.hid (own_be (Ow.out.alloc _) hb)
    have Bg := Lib.hid (World.ownsRow.lt og)
    have Gx : Hid (∀ k, (Value.slice Ag xs.length cg).ownBlock = some k → w1.heap.size < k ∧ k < w2.heap.size) := fun k hk => by have := Bg.out k hk; simp only [World.size_alloc] at this; omega
    have Og := Lib.hid (own_mono (base' := w1.heap.size + 1) og (by simp))
    have z2 : w1.heap.size < w2.heap.size := World.block_lt_of_cell? _ _ cW
    clear hb og Bg
    have cW' := cell_al cW (.cells #[.slice Ag xs.length cg] 26)
    have iG := Lib.hid ((ints_of_own64 Og.out).al (.cells #[.slice Ag xs.length cg] 26))
    have iW := Lib.hid ((ints_of_own64 Ow.out).al (.cells #[.slice Ag xs.length cg] 26))
    go_wp2_with fail
    refine (eqTreeT _ _ _ _ _ _ (by omega) iG.out iW.out).mono ?_
    rintro e w6 ⟨rfl, hb⟩
    replace B := Lib.hid (btr (bal B.out _) hb)
    replace cW := cell_be cW' hb
    have cG : w6.cell? ⟨w2.heap.size, 0, none⟩ = some (.slice Ag xs.length cg) := cell_be (by simp) hb
    replace Ow := Lib.hid (own_be (Ow.out.alloc _) hb)
    replace Og := Lib.hid (own_be (Og.out.alloc _) hb)
    clear hb cW' iG iW
    -- the result is marked
    go_wp2_with fail
    refine (markTree _ _ cg xs 1 _ _ rfl (by omega) (by omega) (by omega) Og.out).mono ?_
    rintro e w11 ⟨rfl, og, hg⟩
    replace B := Lib.hid (below_grown B.out hg (fun k e => by have := Gx.out k e; omega))
    replace cW := cell_grown cW hg (fun k e => by have := Gx.out k e; omega)
    replace cG := cell_grown cG hg (fun k e => by have := Gx.out k e; omega)
    replace Ow := Lib.hid (Ow.out.kept hg (by
      cases hv : (Value.slice Aw xs.length cw).ownBlock with
      | none => exact .inl rfl
      | some k => exact .inr fun e => by have h1 := Wx.out k hv; have h2 := Gx.out k e.symm; omega))
    replace Og := Lib.hid (own_mono (base' := 0) og (Nat.zero_le _))
    clear hg og
    go_wp2_with fail
    refine (heldTree _ _ cg 1 _ (by omega) (by omega) (by omega) (ints_of_own64 Og.out)).mono ?_
    rintro e w12 ⟨rfl, hb⟩
    replace B := Lib.hid (btr B.out hb)
    replace cW := cell_be cW hb
    replace cG := cell_be cG hb
    replace Ow := Lib.hid (own_be Ow.out hb)
    replace Og := Lib.hid (own_be Og.out hb)
    clear hb
    -- once more
    go_wp2_with fail
    refine (HI.out _).mono ?_
    rintro e w14 ⟨Ah, ch, rfl, oh, hb⟩
    replace B := Lib.hid (btr B.out hb)
    replace cW := cell_be cW hb
    replace cG := cell_be cG hb
    replace Ow := Lib.hid (own_be Ow.out hb)
    replace Og := Lib.hid (own_be Og.out hb)
    have Oh := Lib.hid oh
    clear hb oh
    have cW' := cell_al cW (.cells #[.slice Ah xs.length ch] 26)
    have cG' := cell_al cG (.cells #[.slice Ah xs.length ch] 26)
    have iH := Lib.hid ((ints_of_own64 Oh.out).al (.cells #[.slice Ah xs.length ch] 26))
    have iW := Lib.hid ((ints_of_own64 Ow.out).al (.cells #[.slice Ah xs.length ch] 26))
    go_wp2_with fail
    refine (eqTreeT _ _ _ _ _ _ (by omega) iH.out iW.out).mono ?_
    rintro e w15 ⟨rfl, hb⟩
    replace B := Lib.hid (btr (bal B.out _) hb)
    replace cG := cell_be cG' hb
    replace Og := Lib.hid (own_be (Og.out.alloc _) hb)
    clear hb Oh Ow cW cW' cG' iH iW
    go_wp2_with fail
    refine (heldTree _ _ cg 1 _ (by omega) (by omega) (by omega) (ints_of_own64 Og.out)).mono ?_
    rintro e w16 ⟨rfl, hb⟩
    replace B := Lib.hid (btr B.out hb)
    clear hb
    go_wp2
    go_ret
    exact ⟨rfl, B.out⟩
  · have hs1 : (1048576 : Int) < (s.size : Int) := by omega
    go_enter Try.func13, Try.ntmps13
    go_wp2
    go_ret
    exact ⟨rfl, b0 w⟩
end Go.Proofs.Ytemfaginhipihab
