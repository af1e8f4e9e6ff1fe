/- A box made ahead of a call holds behind it. -/
import Derived.Test.YtdgcjkgbglofbaaBase
import Derived.RangeFuncBox
namespace Go.Proofs.Ytdgcjkgbglofbaa
open Go.RowKit

theorem boxNew {X w1 : World} {v : Value} {t : TypeId} (hb : Below (X.alloc (.cells #[v] t)).heap.size (X.alloc (.cells #[v] t)) w1) : Boxed w1 X.heap.size t v :=
  (hb.block X.heap.size (by simp)).trans (World.alloc_heap_new X _)
theorem boxNewD {X w1 : World} {v : Value} {t : TypeId} (hb : Below (X.drew.alloc (.cells #[v] t)).heap.size (X.drew.alloc (.cells #[v] t)) w1) : Boxed w1 X.heap.size t v := boxNew (X := X.drew) hb
theorem boxKeep {W w1 : World} {b : Nat} {v : Value} {t : TypeId} (h : Boxed W b t v) (hb : Below W.heap.size W w1) : Boxed w1 b t v := (hb.block b h.lt).trans h
end Go.Proofs.Ytdgcjkgbglofbaa
