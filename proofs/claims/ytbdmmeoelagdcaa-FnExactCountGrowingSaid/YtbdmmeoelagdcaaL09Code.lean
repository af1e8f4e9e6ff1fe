/- l09Code: the code of a tree and a growing order, as the model says it. -/
import Derived.Test.YtbdmmeoelagdcaaGrowingIn
import Derived.Test.YtbdmmeoelagdcaaCodeBy
namespace Go.Proofs.Ytbdmmeoelagdcaa
open Go.RowKit

namespace M
theorem gcode_t {xs l : List Int} (h : isTree xs = false) : gcode xs l = 1 ∧ gcode2 xs l = 1 := by simp [gcode, gcode2, h]
theorem gcode_o {xs l : List Int} (h : isTree xs = true) (ho : isOrd xs.length l = false) : gcode xs l = 2 ∧ gcode2 xs l = 2 := by simp [gcode, gcode2, h, ho]
theorem gcode_g {xs l : List Int} (h : isTree xs = true) (ho : isOrd xs.length l = true) : gcode xs l = (if grows (parents xs) l then 0 else 5) ∧ gcode2 xs l = 0 := by simp [gcode, gcode2, h, ho]
end M

set_option maxHeartbeats 4000000 in
set_option maxRecDepth 100000 in
theorem l09Code (A A2 : Option Addr) (xs l : List Int) (c c2 : Nat) (w : World) (hx : xs.length ≤ 1048576) (hl : l.length ≤ 1048576) (h : Ints w w.heap.size A xs) (h2 : Ints w w.heap.size A2 l) :
    Calls Try.prog 114 #[.agg #[.slice A xs.length c], .slice A2 l.length c2] w fun e w' => e = .returned (.int .i64 (M.gcode xs l)) ∧ Below w.heap.size w w' := by
  have cT0 : Hid ((w.alloc (.cells #[.slice A xs.length c] 29)).cell? ⟨w.heap.size, 0, none⟩ = some (.slice A xs.length c)) := by simp [Hid, go_sem]
  have hB0 := Lib.hid (bal (b0 w) (.cells #[.slice A xs.length c] 29))
  have hI1 := specIs A xs c (w.alloc (.cells #[.slice A xs.length c] 29)) (by omega) (h.al _)
  cases ht : M.isTree xs
  · rw [(M.gcode_t ht).1]
    rw [ht] at hI1
    have HI := Lib.hid hI1
    clear hI1 ht h h2
    go_enter Try.func114, Try.ntmps114
    go_wp2_with fail
    refine HI.out.mono ?_
    rintro e w1 ⟨rfl, hb⟩
    have hB1 := Lib.hid (btr hB0.out hb)
    go_wp2
    go_ret
    exact ⟨rfl, hB1.out⟩
  · rw [ht] at hI1
    have HI := Lib.hid hI1
    have Ht := Lib.hid ht
    have hlen := M.tree_len ht
    have hO := fun W (hb : Below w.heap.size w W) => l09Order A A2 l xs.length c l.length c2 W hlen.2 rfl hl (h2.be hb)
    have Ha := Lib.hid h
    have Hb := Lib.hid h2
    obtain ⟨q, hq⟩ : ∃ q, Hid (M.isOrd xs.length l = q) := ⟨_, rfl⟩
    rw [hq.out] at hO
    have HO := Lib.hid hO
    clear hI1 ht h h2 hO
    cases q
    · rw [(M.gcode_o Ht.out hq.out).1]
      go_enter Try.func114, Try.ntmps114
      go_wp2_with fail
      refine HI.out.mono ?_
      rintro e w1 ⟨rfl, hb⟩
      have hB1 := Lib.hid (btr hB0.out hb)
      have cT1 := cell_be cT0.out hb
      clear hb HI
      go_wp2_with fail
      refine (HO.out _ hB1.out).mono ?_
      rintro e w2 ⟨rfl, hb⟩
      have hB2 := Lib.hid (btr hB1.out hb)
      go_wp2
      go_ret
      exact ⟨rfl, hB2.out⟩
    · rw [(M.gcode_g Ht.out hq.out).1]
      obtain ⟨r, hr⟩ : ∃ r, Hid (M.grows (M.parents xs) l = r) := ⟨_, rfl⟩
      have hll := (M.isOrd_iff.1 hq.out).1
      have hG := fun W (hb : Below w.heap.size w W) => l09Growing A A2 xs l xs.length c c2 W rfl Ht hq (Ha.out.be hb) (Hb.out.be hb) r hr
      rw [← hll] at hG
      have hG' : ∀ W, Below w.heap.size w W → Calls Try.prog 153 #[.agg #[.slice A xs.length c], .slice A2 l.length c2] W fun e w' => e = .returned (.bool r) ∧ Below W.heap.size W w' := by rw [← hll]; exact hG
      have HG := Lib.hid hG'
      rw [hr.out]
      clear hll hG hG'
      go_enter Try.func114, Try.ntmps114
      go_wp2_with fail
      refine HI.out.mono ?_
      rintro e w1 ⟨rfl, hb⟩
      have hB1 := Lib.hid (btr hB0.out hb)
      have cT1 := cell_be cT0.out hb
      clear hb HI
      go_wp2_with fail
      refine (HO.out _ hB1.out).mono ?_
      rintro e w2 ⟨rfl, hb⟩
      have hB2 := Lib.hid (btr hB1.out hb)
      have cT2 := cell_be cT1 hb
      clear hb HO
      go_wp2_with fail
      refine (HG.out _ hB2.out).mono ?_
      rintro e w3 ⟨rfl, hb⟩
      have hB3 := Lib.hid (btr hB2.out hb)
      clear hb HG
      cases r
      · go_wp2
        go_ret
        exact ⟨rfl, hB3.out⟩
      · go_wp2
        go_ret
        exact ⟨rfl, hB3.out⟩
end Go.Proofs.Ytbdmmeoelagdcaa
