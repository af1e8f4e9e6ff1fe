/- isLetter: whether a byte is a letter of patterns. -/
import Derived.Test.YtbdmmeoelagdcaaPat
import Derived.Test.YtbdmmeoelagdcaaGivesP
import Derived.Test.YtbdmmeoelagdcaaShelf
namespace Go.Proofs.Ytbdmmeoelagdcaa
open Go.RowKit

theorem index_all : ∀ n : Fin 256, decide (0 ≤ Lib.indexByte [97, 98, 99, 100, 101, 102, 103, 104] (UInt8.ofNat n.1)) = (decide (97 ≤ n.1) && decide (n.1 ≤ 104)) := by decide +kernel
theorem index_isL (c : UInt8) : decide (0 ≤ Lib.indexByte [97, 98, 99, 100, 101, 102, 103, 104] c) = M.isL c := by
  have h := index_all ⟨c.toNat, c.toNat_lt⟩
  rw [M.isL]
  simpa using h
theorem isLetter (c : UInt8) (w : World) : Calls Try.prog 98 #[.int .u8 (c.toNat : Int)] w fun e w' => e = .returned (.bool (M.isL c)) ∧ w' = w := by
  have h := Try.strings_IndexByte ⟨#[97, 98, 99, 100, 101, 102, 103, 104]⟩ (c.toNat : Int) w
  have hc : ((c.toNat : Int)).toNat.toUInt8 = c := by simp
  rw [hc] at h
  have h2 := index_isL c
  have h3 : (⟨#[97, 98, 99, 100, 101, 102, 103, 104]⟩ : ByteArray).data.toList = [97, 98, 99, 100, 101, 102, 103, 104] := rfl
  rw [h3] at h
  rw [← h2]
  have H := Lib.hid h
  clear h h2 h3 hc
  generalize Lib.indexByte [97, 98, 99, 100, 101, 102, 103, 104] c = z at *
  go_enter Try.func98, Try.ntmps98
  go_wp2_with (go_at_call 144; refine H.out.mono ?_; rintro e w' ⟨rfl, hw⟩; subst hw)
  go_ret
  exact ⟨rfl, rfl⟩
end Go.Proofs.Ytbdmmeoelagdcaa
