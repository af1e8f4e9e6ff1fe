/- textOfVector: the binary tree with a vector, or a panic. -/
import Derived.Test.YtkeahaoeiiigeaaDoorRotIn
namespace Go.Proofs.YtkeahaoeiiigeaaDoor
open Go.RowKit

theorem M.ofVec_fuel : ∀ (f g : Nat) (l : List Int), l.length < f → l.length < g → M.ofVec f l = M.ofVec g l := by
  intro f
  induction f with
  | zero => intro g l h; omega
  | succ f ih =>
    intro g l hf hg
    obtain ⟨g, rfl⟩ : ∃ k, g = k + 1 := ⟨g - 1, by omega⟩
    by_cases h0 : l.length = 0
    · rw [M.ofVec_nil f h0, M.ofVec_nil g h0]
    · cases hr : M.root l with
      | none => rw [M.ofVec_none f h0 hr, M.ofVec_none g h0 hr]
      | some i =>
        have hi : i < l.length := by
          rw [M.root, List.find?_range_eq_some] at hr
          simpa using hr.2.1
        rw [M.ofVec_some f h0 hr, M.ofVec_some g h0 hr, ih g (l.take i) (by rw [List.length_take]; omega) (by rw [List.length_take]; omega), ih g (l.drop (i + 1)) (by rw [List.length_drop]; omega) (by rw [List.length_drop]; omega)]
/-- the binary tree with a vector, if there is one -/
def ofV (l : List Int) : Option M.Bin := M.ofVec (l.length + 1) l
theorem ofV_nil : ofV [] = some .nil := rfl
theorem ofV_at {l : List Int} {i : Nat} (hi : l[i]? = some ((l.length : Int) - 1 - i)) (h : ∀ (j : Nat) (y : Int), j < i → l[j]? = some y → y ≠ (l.length : Int) - 1 - j) :
    ofV l = (match ofV (l.take i), ofV (l.drop (i + 1)) with | some a, some b => some (.node a b) | _, _ => none) := by
  have hl := (List.getElem?_eq_some_iff.1 hi).1
  have hr := M.root_at hi rfl h
  rw [ofV, M.ofVec_some _ (by omega) hr, ofV, ofV, M.ofVec_fuel l.length ((l.take i).length + 1) (l.take i) (by rw [List.length_take]; omega) (by omega), M.ofVec_fuel l.length ((l.drop (i + 1)).length + 1) (l.drop (i + 1)) (by rw [List.length_drop]; omega) (by omega)]
  generalize M.ofVec ((l.take i).length + 1) (l.take i) = a
  generalize M.ofVec ((l.drop (i + 1)).length + 1) (l.drop (i + 1)) = b
  cases a <;> cases b <;> rfl
theorem ofV_no {l : List Int} (h0 : l ≠ []) (h : ∀ (j : Nat) (y : Int), l[j]? = some y → y ≠ (l.length : Int) - 1 - j) : ofV l = none :=
  M.ofVec_none _ (fun e => h0 (List.eq_nil_of_length_eq_zero e)) (M.root_none h)
theorem ofV_n {l : List Int} {t : M.Bin} (h : ofV l = some t) : t.n = l.length := M.ofVec_n _ _ _ h

theorem ints_take {w : World} {B : Nat} {A : Option Addr} {xs : List Int} (h : Ints w B A xs) (k : Nat) : Ints w B A (xs.take k) := fun hz => by
  obtain ⟨b, off, rfl, hb, hc⟩ := h (by rw [List.length_take] at hz; omega)
  exact ⟨b, off, rfl, hb, fun j x hx => hc j x (by rw [List.getElem?_take] at hx; split at hx; exact hx; cases hx)⟩
theorem ints_drop {w : World} {B b off : Nat} {xs : List Int} (h : Ints w B (some ⟨b, off, none⟩) xs) (k : Nat) (A : Option Addr) (hA : k < xs.length → A = some ⟨b, off + k, none⟩) : Ints w B A (xs.drop k) := fun hz => by
  have hk : k < xs.length := by rw [List.length_drop] at hz; omega
  obtain ⟨b', off', e, hb, hc⟩ := h (by omega)
  injection e with e
  injection e with e1 e2
  subst e1; subst e2
  exact ⟨b, off + k, hA hk, hb, fun j x hx => by
    rw [List.getElem?_drop] at hx
    have := hc (k + j) x hx
    rwa [Nat.add_assoc]⟩

/-- the error of the program's other variable, wherever it lies -/
def vecEnd (p : Addr) (r : Option M.Bin) (w : World) (e : Ending) (w' : World) : Prop :=
  e = (match r with | some t => .returned (.string t.str) | none => .panicked [{ v := errV p, recovered := false }]) ∧ Hid (Below w.heap.size w w')
/-- what textOfVector must do with lists of at most f numbers -/
def VecAt (p : Addr) (f : Nat) : Prop := ∀ (A : Option Addr) (xs : List Int) (n c : Nat) (w : World), Hid (xs.length = n) → n < f → n ≤ 23 → n ≤ c → c ≤ 9223372036854775807 → Hid (∀ x ∈ xs, 0 ≤ x ∧ x ≤ 23) → Hid (Ints w w.heap.size A xs) → Hid (w.cell? ⟨1, 0, none⟩ = some (errV p)) →
  Calls Tryd.prog 73 #[.slice A n c] w (vecEnd p (ofV xs) w)

set_option maxRecDepth 100000 in
set_option maxHeartbeats 4000000 in
theorem textOfVector_step (p : Addr) (f : Nat) (ih : Hid (VecAt p f)) : VecAt p (f + 1) := by
  intro A xs n c w hn hf h23 hcn hcc hx hI hc
  by_cases h0 : n = 0
  · subst h0
    have hxs : xs = [] := List.eq_nil_of_length_eq_zero hn.out
    subst hxs
    have hE : Hid (vecEnd p (ofV []) w (.returned (.string ⟨#[48]⟩)) w) := ⟨rfl, Lib.hid (b0 w)⟩
    generalize vecEnd p (ofV []) w = E at *
    clear ih hx hI hc hn
    go_enter Tryd.func73, Tryd.ntmps73
    go_wp2
    exact hE.out
  · obtain ⟨b, off, rfl, hb, hcells⟩ := hI.out (by have := hn.out; omega)
    have hnz : ((n : Int) == 0) = false := beq_eq_false_iff_ne.2 (by omega)
    have hcE := hc.out
    rw [errV] at hcE
    have hcells' := Lib.hid hcells
    have hPan : Hid ((∀ (j : Nat) (y : Int), xs[j]? = some y → y ≠ (xs.length : Int) - 1 - j) → vecEnd p (ofV xs) w (.panicked [{ v := errV p, recovered := false }]) w) := fun h => by
      rw [ofV_no (fun e => by rw [e] at hn; exact h0 hn.out.symm) h]
      exact ⟨rfl, Lib.hid (b0 w)⟩
    rw [errV] at hPan
    obtain ⟨E, hE⟩ : ∃ E, vecEnd p (ofV xs) w = E := ⟨_, rfl⟩
    have HE := Lib.hid hE
    rw [hE] at hPan ⊢
    clear hE hcells hb
    go_enter Tryd.func73, Tryd.ntmps73
    go_wp2
    go_loopw [10] (fun qi wr => ∃ (k : Nat), k ≤ n ∧ qi = .int .i64 (k : Int) ∧ wr = w ∧ Hid (∀ (j : Nat) (y : Int), j < k → xs[j]? = some y → y ≠ (xs.length : Int) - 1 - j)) (fun qi _ => n - (intOf qi).toNat)
    case atStart => exact ⟨0, Nat.zero_le _, rfl, rfl, fun j y h => by omega⟩
    case round =>
      obtain ⟨k, hk, rfl, rfl, hno⟩ := hrel
      by_cases hlt : k < n
      · have hki : (k : Int) < (n : Int) := by omega
        have hxk : Hid (xs[k]? = some (xs[k]'(by have := hn.out; omega))) := List.getElem?_eq_getElem _
        have hxm := hx.out _ (List.getElem_mem (by have := hn.out; omega : k < xs.length))
        generalize xs[k]'(by have := hn.out; omega) = x at hxk hxm
        have hg := hcells'.out k x hxk.out
        have w1 : IntKind.i64.wrap ((k : Int) + x) = (k : Int) + x := IntWalk.i64_in _ (by omega)
        by_cases hroot : (k : Int) + x = (n : Int) - 1
        · have hq : ((k : Int) + x == (n : Int) - 1) = true := beq_iff_eq.2 hroot
          have hsp := Lib.hid (ofV_at (l := xs) (i := k) (by rw [hxk.out, hn.out]; congr 1; omega) hno.out)
          have hw2 : IntKind.i64.wrap ((k : Int) + 1) = (k : Int) + 1 := IntWalk.i64_in _ (by omega)
          have hkc : k ≤ c := by omega
          have hk1 : (0 : Int) ≤ (k : Int) + 1 ∧ (k : Int) + 1 ≤ (n : Int) := by omega
          have hlen1 : (xs.take k).length = k := by rw [List.length_take]; have := hn.out; omega
          have hlen2 : (xs.drop (k + 1)).length = n - (k + 1) := by rw [List.length_drop]; have := hn.out; omega
          have C1 := Lib.hid (ih.out (some ⟨b, off, none⟩) (xs.take k) k c wr.drew (Lib.hid hlen1) (by omega) (by omega) hkc hcc (Lib.hid fun y hy => hx.out y (List.mem_of_mem_take hy)) (Lib.hid (ints_take hI.out k)) (Lib.hid hc.out))
          have C2 : Hid (∀ (w1 : World) (A2 : Option Addr), Below wr.heap.size wr w1 → (k + 1 < n → A2 = some ⟨b, off + (k + 1), none⟩) → Calls Tryd.prog 73 #[.slice A2 (n - (k + 1)) (c - (k + 1))] w1 (vecEnd p (ofV (xs.drop (k + 1))) w1)) := fun w1 A2 hb hA =>
            ih.out A2 (xs.drop (k + 1)) _ _ w1 (Lib.hid hlen2) (by omega) (by omega) (by omega) (by omega) (Lib.hid fun y hy => hx.out y (List.mem_of_mem_drop hy)) (Lib.hid (ints_drop (hI.out.be hb) (k + 1) A2 (fun h => hA (by have := hn.out; omega)))) (Lib.hid (cell_up hb hc.out))
          have hAA : Hid (k + 1 < n → (if c = k + 1 then some (⟨b, off, none⟩ : Addr) else some ⟨b, off + (k + 1), none⟩) = some ⟨b, off + (k + 1), none⟩) := fun h => if_neg (by omega)
          have hN1 : Hid (ofV (xs.take k) = none → ∀ w1, Below wr.heap.size wr w1 → E (.panicked [{ v := errV p, recovered := false }]) w1) := fun h w1 hb => by
            rw [← HE.out, hsp.out, h]
            exact ⟨rfl, Lib.hid hb⟩
          have hN2 : Hid (∀ t, ofV (xs.take k) = some t → ofV (xs.drop (k + 1)) = none → ∀ w1, Below wr.heap.size wr w1 → E (.panicked [{ v := errV p, recovered := false }]) w1) := fun t h1 h w1 hb => by
            rw [← HE.out, hsp.out, h, h1]
            exact ⟨rfl, Lib.hid hb⟩
          have hS : Hid (∀ t u, ofV (xs.take k) = some t → ofV (xs.drop (k + 1)) = some u → (∀ w1, Below wr.heap.size wr w1 → E (.returned (.string (partText t.str u.str))) w1) ∧ t.str.size ≤ 1000000 ∧ u.str.size ≤ 1000000) := fun t u h1 h2 => by
            have n1 := ofV_n h1
            have n2 := ofV_n h2
            refine ⟨fun w1 hb => ?_, by rw [str_size]; omega, by rw [str_size]; omega⟩
            rw [← HE.out, hsp.out, h1, h2, partText_node]
            exact ⟨rfl, Lib.hid hb⟩
          rw [errV] at hN1 hN2
          clear hno hPan hI hx hcells' ih hsp HE hlen1 hlen2 hc
          go_wp2
          refine wp_region_any (by kernel_rfl) ?_
          change wpAny _ _ _ _ _ _ _ (World.drew _)
          refine wpAny_take (i := 0) (v := ?_) rfl (by kernel_rfl) (by kernel_rfl) (by kernel_rfl) (fun _ _ _ h => h) (Or.inl ⟨by rfl, ?_⟩) ?_; rotate_left 1; focus ((intro w; go_simp); try with_reducible rfl)
          refine wpAny_take (i := 1) (v := ?_) rfl (by kernel_rfl) (by kernel_rfl) (by kernel_rfl) (fun _ _ _ h => h) (Or.inl ⟨by rfl, ?_⟩) ?_; rotate_left 1; focus ((intro w; go_simp); try with_reducible rfl)
          refine wpAny_take (i := 2) (v := ?_) rfl (by kernel_rfl) (by kernel_rfl) (by kernel_rfl) (fun _ _ _ h => h) (Or.inl ⟨by rfl, ?_⟩) ?_; rotate_left 1; focus ((intro w; go_simp); try with_reducible rfl)
          refine wpAny_take (i := 4) (v := ?_) rfl (by kernel_rfl) (by kernel_rfl) (by kernel_rfl) (fun _ _ _ h => h) (Or.inl ⟨by rfl, ?_⟩) ?_; rotate_left 1; focus ((intro w; go_simp); try with_reducible rfl)
          refine wpAny_take (i := 5) (v := ?_) rfl (by kernel_rfl) (by kernel_rfl) (by kernel_rfl) (fun _ _ _ h => h) (Or.inl ⟨by rfl, ?_⟩) ?_; rotate_left 1; focus ((intro w; go_simp); try with_reducible rfl)
          refine wpAny_take (i := 6) (v := ?_) rfl (by kernel_rfl) (by kernel_rfl) (by kernel_rfl) (fun _ _ _ h => h) (Or.inl ⟨by rfl, ?_⟩) ?_; rotate_left 1; focus ((intro w; go_simp); try with_reducible rfl)
          refine wpAny_take (i := 7) (v := ?_) rfl (by kernel_rfl) (by kernel_rfl) (by kernel_rfl) (fun _ _ _ h => h) (Or.inl ⟨by rfl, ?_⟩) ?_; rotate_left 1; focus ((intro w; go_simp); try with_reducible rfl)
          refine wpAny_ready (rs := [3]) (by kernel_rfl) (by simp) ?_
          refine AllReady.cons rfl (fun K hK => ?_) AllReady.nil
          go_simp
          generalize (if c = k + 1 then some (⟨b, off, none⟩ : Addr) else some ⟨b, off + (k + 1), none⟩) = A2 at hAA ⊢
          rcases h1 : ofV (xs.take k) with _ | t
          · have hN := Lib.hid (hN1.out h1)
            rw [h1] at C1
            clear hN1 hN2 hS C2
            refine C1.out.mono ?_
            rintro e w1 ⟨rfl, hb⟩
            have hE := Lib.hid (hN.out w1 ((b0 wr).drew.trans hb.out))
            clear hN hK
            exact ⟨rfl, hE.out⟩
          · rw [h1] at C1
            refine C1.out.mono ?_
            rintro e w1 ⟨rfl, hb⟩
            have hb1 := Lib.hid ((b0 wr).drew.trans hb.out)
            have K2 := Lib.hid (C2.out w1 A2 hb1.out hAA.out)
            refine hK _ _ ?_
            clear hK K
            refine wpAny_ready (rs := [8]) (by kernel_rfl) (by simp) ?_
            refine AllReady.cons rfl (fun K hK => ?_) AllReady.nil
            go_simp
            rcases h2 : ofV (xs.drop (k + 1)) with _ | u
            · have hN := Lib.hid (hN2.out t h1 h2)
              rw [h2] at K2
              clear hN1 hN2 hS C2
              refine K2.out.mono ?_
              rintro e w2 ⟨rfl, hb2⟩
              have hE := Lib.hid (hN.out w2 (btr hb1.out hb2.out))
              clear hN hK
              exact ⟨rfl, hE.out⟩
            · rw [h2] at K2
              obtain ⟨s1', s2, s3⟩ := hS.out t u h1 h2
              have s1 := Lib.hid s1'
              clear s1'
              refine K2.out.mono ?_
              rintro e w2 ⟨rfl, hb2⟩
              have hb3 := Lib.hid (btr hb1.out hb2.out)
              refine hK _ _ ?_
              clear hK K
              have hX := Lib.hid (partText_in t.str u.str w2 s2 s3)
              generalize t.str = S at *
              generalize u.str = U at *
              clear hN1 hN2 hS C2
              refine wpAny_take (i := 9) (v := ?_) rfl (by kernel_rfl) (by kernel_rfl) (by kernel_rfl) (fun _ _ _ h => h) (Or.inl ⟨by rfl, ?_⟩) ?_; rotate_left 1; focus ((intro w; go_simp); try with_reducible rfl)
              refine wpAny_ready (rs := [10]) (by kernel_rfl) (by simp) ?_
              refine AllReady.cons rfl (fun K hK => ?_) AllReady.nil
              go_simp
              refine hX.out.mono ?_
              rintro e w3 ⟨rfl, hb4⟩
              refine hK _ _ ?_
              clear hK K
              have hE := Lib.hid (s1.out w3 (btr hb3.out hb4.out))
              refine wpAny_take (i := 11) (v := ?_) rfl (by kernel_rfl) (by kernel_rfl) (by kernel_rfl) (fun _ _ _ h => h) (Or.inl ⟨by rfl, ?_⟩) ?_; rotate_left 1; focus ((intro w; go_simp); try with_reducible rfl)
              refine wpAny_done (by kernel_rfl) ?_ _
              go_simp
              go_wp2
              exact hE.out
        · have hq : ((k : Int) + x == (n : Int) - 1) = false := beq_eq_false_iff_ne.2 hroot
          have hN : Hid (∀ (j : Nat) (y : Int), j < k + 1 → xs[j]? = some y → y ≠ (xs.length : Int) - 1 - j) := fun j y hj hy => by
            by_cases e : j < k
            · exact hno.out j y e hy
            · obtain rfl : j = k := by omega
              have := hxk.out
              rw [hy] at this
              injection this with this
              rw [hn.out]
              omega
          clear hno
          go_wp2
          go_roundw
          case rel => exact ⟨k + 1, by omega, by go_num, trivial, hN⟩
          case measure => simp [intOf]; omega
      · obtain rfl : k = n := by omega
        have hP := Lib.hid (hPan.out (fun j y hy => hno.out j y (by have := (List.getElem?_eq_some_iff.1 hy).1; have := hn.out; omega) hy))
        clear hPan hno
        go_wp2
        exact ⟨rfl, hP.out⟩

theorem textOfVector (p : Addr) : ∀ f, VecAt p f
  | 0 => fun _ _ _ _ _ _ h => absurd h (Nat.not_lt_zero _)
  | f + 1 => textOfVector_step p f (Lib.hid (textOfVector p f))
end Go.Proofs.YtkeahaoeiiigeaaDoor
