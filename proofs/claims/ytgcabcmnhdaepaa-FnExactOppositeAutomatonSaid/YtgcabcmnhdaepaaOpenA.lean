/- An argument of type laws.Automaton opened: its value, its numbers in memory. -/
import Derived.Test.YtgcabcmnhdaepaaAuto
namespace Go.Proofs.Ytgcabcmnhdaepaa
open Go.RowKit Go.Joins Go.ChangeShapes Go.WideShapes Go.ChangeAt Go.Deep

theorem cellsAuto : Try.prog.cellsOf 25 = 3 := by kernel_rfl

set_option maxRecDepth 100000 in
theorem openAuto {H : Type} {enc : TypeId × Value → H} {W : World} {base : Nat} {v : Value} {d : DataW H} {p : List MemPlace} (hv : Value.okWide Try.prog W .any base 25 v)
    (h : DataW.Trod enc Try.prog W 0 (fun _ => true) true 25 v d p) (hlt : ∀ x ∈ p, x.block < W.heap.size) :
    ∃ (st : Int) (As Ag : Option Addr) (Ss : List (List Int)) (gs : List Int) (cm cg : Nat), v = .agg #[.int .i64 st, .slice As Ss.length cm, .slice Ag gs.length cg] ∧ (-9223372036854775808 ≤ st ∧ st ≤ 9223372036854775807) ∧ Ss.length ≤ 9223372036854775807 ∧ gs.length ≤ 9223372036854775807 ∧ AutoR W As Ss Ag gs := by
  obtain ⟨v0, v1, v2, y0, y1, y2, n, rfl, rfl, rfl, h0, h1, h2⟩ := open_agg3 Try.underlying25 (by kernel_rfl) cellsAuto hv h
  obtain ⟨st, e0, rfl, w0⟩ := DataW.trod_int Try.underlying2 h0
  obtain rfl : v0 = .int .i64 st := by simpa using e0
  obtain ⟨As, cm, Ss, rfl, l1, R1⟩ := openRows h1 (fun x hx => hlt x (List.mem_append_right _ (List.mem_append_left _ hx)))
  obtain ⟨Ag, cg, gs, rfl, l2, R2, _⟩ := openInts h2 (fun x hx => hlt x (List.mem_append_right _ (List.mem_append_right _ hx)))
  refine ⟨st, As, Ag, Ss, gs, cm, cg, rfl, ?_, l1, l2, ⟨R1, R2⟩⟩
  simpa [Lit.wf, IntKind.min, IntKind.max, IntKind.signed, IntKind.bits] using w0
end Go.Proofs.Ytgcabcmnhdaepaa
