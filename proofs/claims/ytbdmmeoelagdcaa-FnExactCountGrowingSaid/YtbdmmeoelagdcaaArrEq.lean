/- Two arrangements compared: the model's inequality of arrays of 24 numbers. -/
import Derived.Test.YtbdmmeoelagdcaaArrOf
namespace Go.Proofs.Ytbdmmeoelagdcaa
open Go.RowKit

theorem run_part64 (xs : List Int) (i : Nat) (x : Int) (hx : xs[i]? = some x) (w : World) : (part 2 (xs.map (Value.int .i64)).toArray (i * 1)).run Try.prog w = .ok (.int .i64 x) w := by
  have hag : (isAgg 2).run Try.prog w = .ok false w := Try.isAgg2 w
  have h : (xs.map (Value.int .i64)).toArray[i * 1]? = some (.int .i64 x) := by simp [hx]
  simp only [part, Sem.run_bind, hag, Result.andThen_ok, Bool.false_eq_true, if_false, h]
  rfl

theorem run_arr_loop (d : Nat) (xs ys : List Int) (hx : xs.length = 24) (hy : ys.length = 24) (w : World) :
    (Op.equalIn (d + 2) 170 (.agg (xs.map (Value.int .i64)).toArray) (.agg (ys.map (Value.int .i64)).toArray)).run Try.prog w = .ok (decide (xs = ys)) w := by
  have ht := Try.underlying170
  have he := Try.underlying2
  have hsz : (sizeOf 2).run Try.prog w = .ok 1 w := Try.sizeOf2 w
  rw [Op.equalIn]
  simp only [Sem.run_bind, run_underlying ht, Result.andThen_ok, hsz]
  rw [Std.Legacy.Range.forIn_eq_forIn_range']
  have key : ∀ m s, s + m = 24 → Sem.run Try.prog
            (forIn (List.range' s m 1) (none, ()) fun i (__s : Option Bool × Unit) => do
              let __do_lift ← part 2 (List.map (Value.int IntKind.i64) xs).toArray (i * 1)
              let __do_lift_1 ← part 2 (List.map (Value.int IntKind.i64) ys).toArray (i * 1)
              let __do_lift ← Op.equalIn (d + 1) 2 __do_lift __do_lift_1
              if (!__do_lift) = true then pure (ForInStep.done (some false, ())) else pure (ForInStep.yield (none, ())))
            w = .ok (if xs.drop s = ys.drop s then (none, ()) else (some false, ())) w := by
    intro m
    induction m with
    | zero =>
      intro s hs
      rw [List.drop_of_length_le (by omega), List.drop_of_length_le (by omega)]
      simp
    | succ m ih =>
      intro s hs
      have h1 : xs[s]? = some xs[s] := List.getElem?_eq_getElem (by omega)
      have h2 : ys[s]? = some ys[s] := List.getElem?_eq_getElem (by omega)
      rw [List.range'_succ]
      simp only [List.forIn_cons, Sem.run_bind, run_part64 xs s _ h1, run_part64 ys s _ h2, Result.andThen_ok, run_equalIn_int w d _ _ _ _ _ he]
      rw [List.drop_eq_getElem_cons (i := s) (by omega), List.drop_eq_getElem_cons (i := s) (by omega)]
      by_cases h : xs[s] = ys[s]
      · rw [h]
        simp only [beq_self_eq_true, Bool.not_true, Bool.false_eq_true, if_false, Sem.run_pure, Result.andThen_ok, List.cons.injEq, true_and]
        exact ih (s + 1) (by omega)
      · have hb : (xs[s] == ys[s]) = false := beq_eq_false_iff_ne.2 h
        simp only [hb, Bool.not_false, if_true, Sem.run_pure, Result.andThen_ok, List.cons.injEq, h, false_and, if_false]
  have := key 24 0 rfl
  simp only [List.drop_zero] at this
  have e24 : (List.range' ([:24] : Std.Legacy.Range).start ([:24] : Std.Legacy.Range).size ([:24] : Std.Legacy.Range).step) = List.range' 0 24 1 := by decide
  rw [e24, this]
  by_cases h : xs = ys
  · simp [h]
  · simp [h]

theorem arr_eql (l k : List Int) (w : World) :
    Sem.run Try.prog (Op.equalIn 10000 170 (.agg ((M.arr l).map (Value.int .i64)).toArray) (.agg ((M.arr k).map (Value.int .i64)).toArray)) w = .ok (decide (M.arr l = M.arr k)) w :=
  run_arr_loop 9998 (M.arr l) (M.arr k) (M.arr_len l) (M.arr_len k) w

theorem arr_guard : Try.prog.eqGuardType Try.prog.depth 170 = false := by kernel_rfl
end Go.Proofs.Ytbdmmeoelagdcaa
