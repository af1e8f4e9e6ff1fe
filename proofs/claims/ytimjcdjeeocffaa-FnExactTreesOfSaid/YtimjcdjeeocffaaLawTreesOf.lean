/- The walk of the law FnExactTreesOf, from the contracts of the program's function and of the model's: it returns true, and writes into nothing that was there. -/
import Derived.Test.YtimjcdjeeocffaaFnTreesOf
namespace Go.Proofs.Ytimjcdjeeocffaa
open Go.RowKit

set_option maxHeartbeats 4000000 in
set_option maxRecDepth 100000 in
theorem lawTreesOf (F : Int → List (List Int) × Int) (hS : Hid (GivesTreesN 83 F)) (hI : Hid (GivesTreesN 84 F)) (hF1 : ∀ n, (F n).1.length ≤ 8192) (hF2 : ∀ n, ∀ zs ∈ (F n).1, zs.length ≤ 24) (n : Int) (w : World) (hlo : -9223372036854775808 ≤ n) (hhi : n ≤ 9223372036854775807) :
    Calls Try.prog 10 #[.int .i64 n] w fun e w' => e = .returned (.bool true) ∧ Below w.heap.size w w' := by
  have HS := Lib.hid (fun W => hS.out n W hlo hhi)
  have HI := Lib.hid (fun W => hI.out n W hlo hhi)
  have h1 := hF1 n
  have h2 := hF2 n
  clear hS hI hF1 hF2
  generalize F n = R at *
  obtain ⟨Z, r⟩ := R
  simp only at HS HI h1 h2
  obtain ⟨m, hm⟩ : ∃ m, Hid (Z.length = m) := ⟨_, rfl⟩
  rw [hm.out] at HS HI h1
  have Hz5 : Hid (∀ zs ∈ Z, zs.length ≤ 100000) := fun zs h => Nat.le_trans (h2 zs h) (by omega)
  have Hz12 : Hid (∀ zs ∈ Z, zs.length ≤ 1000000000000) := fun zs h => Nat.le_trans (h2 zs h) (by omega)
  have htot := M.tot_le h2
  rw [hm.out] at htot
  obtain ⟨t, ht⟩ : ∃ t, Hid (M.tot Z = t) := ⟨_, rfl⟩
  rw [ht.out] at htot
  clear h2
  go_enter Try.func10, Try.ntmps10
  go_wp2_with fail
  refine (HS.out _).mono ?_
  rintro e w1 ⟨Aw, cw, hw, rfl, ow, hb1⟩
  have Ow := Lib.hid ow
  have B1 := Lib.hid hb1
  clear ow hb1 HS
  go_wp2_with fail
  refine (HI.out _).mono ?_
  rintro e w2 ⟨Ag, cg, hg, rfl, og, hb⟩
  have Og := Lib.hid og
  have B2 := Lib.hid hb
  clear og hb
  go_wp2_with fail
  refine (eqTreeS Ag Aw Z m cg cw w2 hm (by omega) Hz12 (Og.out.trees) ((Ow.out.be B2.out).trees)).mono ?_
  rintro e w3 ⟨rfl, hb⟩
  replace Og := Lib.hid (Og.out.be hb)
  have B3 := Lib.hid (btr B2.out hb)
  clear hb B2
  go_wp2_with fail
  refine (markTreeS Ag m cg hg Z 1 w1.heap.size w3 hm (by omega) Hz5 (by omega) (by omega) B3.out.size Og.out).mono ?_
  rintro e w4 ⟨he, og, hb⟩
  rw [ht.out] at he
  subst he
  have Om := Lib.hid og
  have B4 := Lib.hid (B3.out.trans hb)
  clear hb B3 og Og
  go_wp2_with fail
  refine (heldTreeS Ag m cg Z 1 w4 hm (by omega) Hz5 (by omega) (by omega) Om.out.trees).mono ?_
  rintro e w5 ⟨he, hb⟩
  rw [ht.out] at he
  subst he
  replace Om := Lib.hid (Om.out.be hb)
  have B5 := Lib.hid (btr B4.out hb)
  clear hb B4
  go_wp2_with fail
  refine (HI.out _).mono ?_
  rintro e w6 ⟨Ah, ch, hh, rfl, oh, hb⟩
  replace Om := Lib.hid (Om.out.be hb)
  have Oh := Lib.hid oh
  have B6 := Lib.hid (btr B5.out hb)
  clear oh hb B5 HI
  go_wp2_with fail
  refine (eqTreeS Ah Aw Z m ch cw w6 hm (by omega) Hz12 (Oh.out.trees) ((Ow.out.be B6.out).trees)).mono ?_
  rintro e w7 ⟨rfl, hb⟩
  replace Om := Lib.hid (Om.out.be hb)
  have B7 := Lib.hid (btr B6.out hb)
  clear hb B6 Oh Ow
  go_wp2_with fail
  refine (heldTreeS Ag m cg Z 1 w7 hm (by omega) Hz5 (by omega) (by omega) Om.out.trees).mono ?_
  rintro e w8 ⟨he, hb⟩
  rw [ht.out] at he
  subst he
  have B8 := Lib.hid (btr B7.out hb)
  clear hb B7 Om
  go_wp2
  go_ret
  exact ⟨rfl, btr B1.out B8.out⟩
end Go.Proofs.Ytimjcdjeeocffaa
