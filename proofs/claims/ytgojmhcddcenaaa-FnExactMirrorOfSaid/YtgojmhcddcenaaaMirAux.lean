/- mirrored: what its loop keeps; append of a row as a run. -/
import Derived.Test.YtgojmhcddcenaaaMirHit
import Derived.Test.YtgojmhcddcenaaaMirSp
namespace Go.Proofs.Ytgojmhcddcenaaa
open Go.RowKit Go.Shelf Go.Maps
attribute [local go_sem] Oper.semAt_some

/-- what a round keeps: the box of the slice that the range goes over, and the row that it holds -/
def KeepA (Bd : Nat) (A : Option Addr) (X Y : World) : Prop := Y.heap[Bd]? = X.heap[Bd]? ∧ ∀ ad, A = some ad → Y.heap[ad.block]? = X.heap[ad.block]?
theorem KeepA.r {Bd : Nat} {A : Option Addr} (X : World) : KeepA Bd A X X := ⟨rfl, fun _ _ => rfl⟩
theorem KeepA.t {Bd : Nat} {A : Option Addr} {X Y Z : World} (h : KeepA Bd A X Y) (k : KeepA Bd A Y Z) : KeepA Bd A X Z := ⟨k.1.trans h.1, fun ad e => (k.2 ad e).trans (h.2 ad e)⟩
theorem KeepA.g {Bd : Nat} {A : Option Addr} {X Y : World} {row : Option Nat} (hg : X.grownBy Y row) (h1 : Bd < X.heap.size) (h2 : some Bd ≠ row) (h3 : ∀ ad, A = some ad → ad.block < X.heap.size ∧ some ad.block ≠ row) : KeepA Bd A X Y :=
  ⟨hg.block Bd h1 h2, fun ad e => hg.block _ (h3 ad e).1 (h3 ad e).2⟩
theorem KeepA.ints {Bd B : Nat} {A : Option Addr} {X Y : World} {zs : List Int} (h : KeepA Bd A X Y) (hI : Ints X B A zs) : Ints Y B A zs := fun hz => by
  obtain ⟨b, off, rfl, hb, hc⟩ := hI hz
  exact ⟨b, off, rfl, hb, fun j x hx => (World.cell?_of_block (a := ⟨b, off + j, none⟩) (h.2 ⟨b, off, none⟩ rfl)).trans (hc j x hx)⟩
/-- the map behind a write of what holds no cells and is not the map -/
theorem Known.non {w w' : World} {b B N Q : Nat} {No : Nat → Prop} {row : Option Nat} (h : Known w b B No N) (hg : w.grownBy w' row) (hb : some b ≠ row) (hr : ∀ r, row = some r → Q ≤ r ∧ ∃ o : Obj, w.heap[r]? = some o ∧ o.isCells = false) : Known w' b B No N := by
  obtain ⟨D, h1, h2, h3⟩ := h
  refine ⟨D, h1.kept hg hb, h2, fun xs ht hh => ?_⟩
  obtain ⟨g, n, c, k1, k2, k3⟩ := h3 xs ht hh
  exact ⟨g, n, c, k1, row_kept k2 hg hr, k3⟩

/-- what holds between the rounds: the result's box, its row, the map, and that nothing else has been written -/
def Inv (f : Nat) (w : World) (S0 R L b B : Nat) (No : Nat → Prop) (N : Nat) (xs : List Int) (d k : Nat) (W : World) : Prop := k ≤ d →
  ∃ g n c', Boxed W R 22 (.slice (some ⟨g, 0, none⟩) n c') ∧ Own64 W L (.slice (some ⟨g, 0, none⟩) n c') (M.mirK f xs d k) ∧ Known W b B (fun z => No z ∨ z = g) (N + (n - 1)) ∧ w.grownBy W (some b) ∧ (g = L ∨ S0 ≤ g) ∧ S0 ≤ W.heap.size
theorem Inv.own {f : Nat} {w : World} {R L b B S0 : Nat} {No : Nat → Prop} {N : Nat} {xs : List Int} {d k : Nat} {X Y : World} {r' : Option Nat} (h : Inv f w S0 R L b B No N xs d k X) (hg : X.grownBy Y r') (hr : ∀ r, r' = some r → S0 ≤ r ∧ ∃ o : Obj, X.heap[r]? = some o ∧ o.isCells = false)
    (h1 : R < S0) (h2 : b < S0) (h3 : w.heap.size ≤ S0) : Inv f w S0 R L b B No N xs d k Y := fun hk => by
  obtain ⟨g, n, c', a1, a2, a3, a4, a5, a6⟩ := h hk
  exact ⟨g, n, c', a1.kept hg (fun e => by have := (hr _ e.symm).1; omega), row_kept a2 hg hr, a3.non hg (fun e => by have := (hr _ e.symm).1; omega) hr, grown_trans a4 hg (fun g e => .inr (by have := (hr g e).1; omega)), a5, Nat.le_trans a6 hg.size⟩

theorem upon_eq {F : Fence} {n : Nat} {P : Program} {o : Oper} {a : Act} {K : Act → World → Prop} {Q : Exit → Act → World → Prop} {R R' : Result Next} {s x : Operand} {t u : TypeId} (_ : o.op = .call { callee := .builtin .append, args := #[s, x], argTypes := #[t, u] }) (h : R = R') (hk : Oper.uponIn F n P o a K Q R') : Oper.uponIn F n P o a K Q R := h ▸ hk

/-- append of a row to a row of one's own, as a run -/
theorem app_run (w : World) (L B g n c g7 n7 c7 : Nat) (ys zs : List Int) (h : Own64 w L (.slice (some ⟨g, 0, none⟩) n c) ys) (h7 : Own64 w B (.slice (some ⟨g7, 0, none⟩) n7 c7) zs) (hn : n + n7 ≤ 1000) (hn1 : 1 ≤ n) (hL : L ≤ w.heap.size) :
    ∃ g8 c8 w8, Hid ((Builtin.append_ #[22, 22] 22 #[.slice (some ⟨g, 0, none⟩) n c, .slice (some ⟨g7, 0, none⟩) n7 c7]).run Try.prog w = .ok (.slice (some ⟨g8, 0, none⟩) (n + n7) c8) w8) ∧
      Hid (Own64 w8 L (.slice (some ⟨g8, 0, none⟩) (n + n7) c8) (ys ++ zs)) ∧ Hid (w.grownBy w8 (some g)) ∧ Hid (g8 = g ∨ g8 = w.heap.size) := by
  obtain ⟨i0, hi0, hz0, hz1, hz2⟩ := info_parts info64
  have e1 := own64_len h
  have e2 := own64_len h7
  subst e1
  subst e2
  obtain ⟨v8, w8, hrun, ho, hg, hnil, hat⟩ := run_append_own_at (P := Try.prog) (w := w) L 22 22 2 i0 (.int .i64 0) 1 8 Try.underlying22 hi0 hz0 hz1 hz2 rfl (by decide) _ ys.length (ys.map (Value.int .i64)) h ⟨g7, 0, none⟩ zs.length c7 (zs.map (Value.int .i64)) (by simp)
    (fun j u hj => h7.cells rfl j u hj) (by
      intro u hu
      obtain ⟨y, _, rfl⟩ := List.mem_map.1 hu
      rfl) (by unfold maxLen; omega) (by omega) hL
  obtain ⟨k, hk⟩ : ∃ k, ys.length + zs.length = k + 1 := ⟨ys.length + zs.length - 1, by omega⟩
  rw [hk] at ho
  obtain ⟨g8, c8, rfl⟩ := ownsRow_succ ho
  rw [← hk] at ho hrun hat
  refine ⟨g8, c8, w8, hrun, ?_, hg, ?_⟩
  · show Own64 _ _ _ _
    unfold Own64
    rw [List.length_append, List.map_append]
    exact ho
  · rcases hat with e | e
    · exact .inl (by injection e)
    · exact .inr (by injection e)

end Go.Proofs.Ytgojmhcddcenaaa
