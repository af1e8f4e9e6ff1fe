/- The model's reader of vectors. -/
import Derived.Test.YtkeahaoeiiigeaaDoorVecIn
namespace Go.Proofs.YtkeahaoeiiigeaaDoor
open Go.RowKit

/-- what the model's reader hands back: the text if there is one, else no matter what short text -/
def ofEnd (r : Option M.Bin) (n : Nat) (w : World) (e : Ending) (w' : World) : Prop :=
  (∃ S : ByteArray, e = .returned (.tuple #[.string S, .bool r.isSome]) ∧ S.size ≤ 2 * n + 1 ∧ ∀ t, r = some t → S = t.str) ∧ w' = w
theorem ofEnd_none (S U : ByteArray) (w : World) (n : Nat) (h : S.size + U.size ≤ 2 * n) {v : Bool} (hv : v = false) : ofEnd none n w (.returned (.tuple #[.string ((⟨#[49]⟩ : ByteArray) ++ S ++ U), .bool v])) w := by
  refine ⟨⟨_, by rw [hv]; rfl, ?_, fun t h => by cases h⟩, rfl⟩
  simp only [ByteArray.size_append]
  show 1 + _ + _ ≤ _
  omega
theorem ofEnd_some (S U : ByteArray) (t1 t2 : M.Bin) (h1 : S = t1.str) (h2 : U = t2.str) (w : World) {n : Nat} (h : S.size + U.size ≤ 2 * n) : ofEnd (some (.node t1 t2)) n w (.returned (.tuple #[.string ((⟨#[49]⟩ : ByteArray) ++ S ++ U), .bool true])) w := by
  refine ⟨⟨_, rfl, ?_, fun t ht => ?_⟩, rfl⟩
  · simp only [ByteArray.size_append]
    show 1 + _ + _ ≤ _
    omega
  · cases ht
    rw [h1, h2, ← partText_node, partText, if_neg]
    intro h
    have := h.1
    rw [Lib.toList_data, M.Bin.str, M.bs_data] at this
    cases t1 <;> simp [M.Bin.txt] at this
/-- what l03Of must do with lists of less than f numbers -/
def OfAt (f : Nat) : Prop := ∀ (A : Option Addr) (xs : List Int) (n c : Nat) (w : World), Hid (xs.length = n) → n < f → n ≤ 23 → n ≤ c → c ≤ 9223372036854775807 → Hid (∀ x ∈ xs, 0 ≤ x ∧ x ≤ 23) → Hid (Ints w w.heap.size A xs) →
  Calls Tryd.prog 67 #[.slice A n c] w (ofEnd (ofV xs) n w)

set_option maxRecDepth 100000 in
set_option maxHeartbeats 4000000 in
theorem l03Of_step (f : Nat) (ih : Hid (OfAt f)) : OfAt (f + 1) := by
  intro A xs n c w hn hf h23 hcn hcc hx hI
  by_cases h0 : n = 0
  · subst h0
    have hxs : xs = [] := List.eq_nil_of_length_eq_zero hn.out
    subst hxs
    have hE : Hid (ofEnd (ofV []) 0 w (.returned (.tuple #[.string ⟨#[48]⟩, .bool true])) w) := ⟨⟨⟨#[48]⟩, by rw [ofV_nil]; rfl, by decide, fun t h => by rw [ofV_nil] at h; cases h; rfl⟩, rfl⟩
    generalize ofEnd (ofV []) 0 w = E at *
    clear ih hx hI hn
    go_enter Tryd.func67, Tryd.ntmps67
    go_wp2
    exact hE.out
  · obtain ⟨b, off, rfl, hb, hcells⟩ := hI.out (by have := hn.out; omega)
    have hnz : ((n : Int) == 0) = false := beq_eq_false_iff_ne.2 (by omega)
    have hcells' := Lib.hid hcells
    have hNo : Hid ((∀ (j : Nat) (y : Int), xs[j]? = some y → y ≠ (xs.length : Int) - 1 - j) → ofEnd (ofV xs) n w (.returned (.tuple #[.string ⟨#[]⟩, .bool false])) w) := fun h => by
      rw [ofV_no (fun e => by rw [e] at hn; exact h0 hn.out.symm) h]
      exact ⟨⟨_, rfl, Nat.zero_le _, fun t h => by cases h⟩, rfl⟩
    obtain ⟨E, hE⟩ : ∃ E, ofEnd (ofV xs) n w = E := ⟨_, rfl⟩
    have HE := Lib.hid hE
    rw [hE] at hNo ⊢
    clear hE hcells hb
    go_enter Tryd.func67, Tryd.ntmps67
    go_wp2
    go_loopw [4] (fun qi wr => ∃ (k : Nat), k ≤ n ∧ qi = .int .i64 (k : Int) ∧ wr = w ∧ Hid (∀ (j : Nat) (y : Int), j < k → xs[j]? = some y → y ≠ (xs.length : Int) - 1 - j)) (fun qi _ => n - (intOf qi).toNat)
    case atStart => exact ⟨0, Nat.zero_le _, rfl, rfl, fun j y h => by omega⟩
    case round =>
      obtain ⟨k, hk, rfl, rfl, hno⟩ := hrel
      by_cases hlt : k < n
      · have hki : (k : Int) < (n : Int) := by omega
        have hxk : Hid (xs[k]? = some (xs[k]'(by have := hn.out; omega))) := List.getElem?_eq_getElem _
        have hxm := hx.out _ (List.getElem_mem (by have := hn.out; omega : k < xs.length))
        generalize xs[k]'(by have := hn.out; omega) = x at hxk hxm
        have hg := hcells'.out k x hxk.out
        have w1 : IntKind.i64.wrap ((n : Int) - 1 - (k : Int)) = (n : Int) - 1 - (k : Int) := IntWalk.i64_in _ (by omega)
        by_cases hroot : x = (n : Int) - 1 - (k : Int)
        · have hq : (x != (n : Int) - 1 - (k : Int)) = false := by rw [hroot]; simp
          have hsp := Lib.hid (ofV_at (l := xs) (i := k) (by rw [hxk.out, hn.out, hroot]) hno.out)
          have hw2 : IntKind.i64.wrap ((k : Int) + 1) = (k : Int) + 1 := IntWalk.i64_in _ (by omega)
          have hkc : k ≤ c := by omega
          have hk1 : (0 : Int) ≤ (k : Int) + 1 ∧ (k : Int) + 1 ≤ (n : Int) := by omega
          have hlen1 : (xs.take k).length = k := by rw [List.length_take]; have := hn.out; omega
          have hlen2 : (xs.drop (k + 1)).length = n - (k + 1) := by rw [List.length_drop]; have := hn.out; omega
          have C1 := Lib.hid (ih.out (some ⟨b, off, none⟩) (xs.take k) k c wr (Lib.hid hlen1) (by omega) (by omega) hkc hcc (Lib.hid fun y hy => hx.out y (List.mem_of_mem_take hy)) (Lib.hid (ints_take hI.out k)))
          have hAA : k + 1 < n → (if c = k + 1 then some (⟨b, off, none⟩ : Addr) else some ⟨b, off + (k + 1), none⟩) = some ⟨b, off + (k + 1), none⟩ := fun h => if_neg (by omega)
          have C2 := Lib.hid (ih.out _ (xs.drop (k + 1)) (n - (k + 1)) (c - (k + 1)) wr (Lib.hid hlen2) (by omega) (by omega) (by omega) (by omega) (Lib.hid fun y hy => hx.out y (List.mem_of_mem_drop hy)) (Lib.hid (ints_drop hI.out (k + 1) _ (fun h => hAA (by have := hn.out; omega)))))
          have hS : Hid (∀ S U : ByteArray, S.size ≤ 2 * k + 1 → U.size ≤ 2 * (n - (k + 1)) + 1 → (∀ t, ofV (xs.take k) = some t → S = t.str) → (∀ t, ofV (xs.drop (k + 1)) = some t → U = t.str) →
              E (.returned (.tuple #[.string ((⟨#[49]⟩ : ByteArray) ++ S ++ U), .bool ((ofV (xs.take k)).isSome && (ofV (xs.drop (k + 1))).isSome)])) wr) := fun S U h1 h2 h3 h4 => by
            rw [← HE.out, hsp.out]
            cases e1 : ofV (xs.take k) with
            | none => exact ofEnd_none _ _ _ _ (by omega) rfl
            | some t1 =>
              cases e2 : ofV (xs.drop (k + 1)) with
              | none => exact ofEnd_none _ _ _ _ (by omega) rfl
              | some t2 => exact ofEnd_some _ _ _ _ (h3 t1 e1) (h4 t2 e2) _ (by omega)
          clear hno hNo hI hx hcells' ih hsp HE hlen1 hlen2 hAA
          generalize (ofV (xs.take k)) = r1 at *
          generalize (ofV (xs.drop (k + 1))) = r2 at *
          by_cases hck : c = k + 1
          · subst hck
            rw [if_pos rfl, Nat.sub_self, show n - (k + 1) = 0 by omega] at C2
            go_wp2_with fail
            refine C1.out.mono ?_
            rintro e w' ⟨⟨S, rfl, s1, s2⟩, hw⟩
            have hw' := hw.symm
            subst hw'
            clear hw C1
            go_wp2_with fail
            with_reducible refine C2.out.mono ?_
            rintro e w' ⟨⟨U, rfl, s3, s4⟩, hw⟩
            have hw' := hw.symm
            subst hw'
            have hE := Lib.hid (hS.out S U s1 (by omega) s2 s4)
            clear hw C2 hS s2 s4
            generalize r1.isSome = p1 at *
            generalize r2.isSome = p2 at *
            have hs1 : ¬ 9223372036854775807 < 1 + S.size := by omega
            have hs2 : ¬ 9223372036854775807 < 1 + S.size + U.size := by omega
            cases p1
            · go_wp2
              exact hE.out
            · go_wp2
              exact hE.out
          · rw [if_neg hck] at C2
            go_wp2_with fail
            refine C1.out.mono ?_
            rintro e w' ⟨⟨S, rfl, s1, s2⟩, hw⟩
            have hw' := hw.symm
            subst hw'
            clear hw C1
            go_wp2_with fail
            with_reducible refine C2.out.mono ?_
            rintro e w' ⟨⟨U, rfl, s3, s4⟩, hw⟩
            have hw' := hw.symm
            subst hw'
            have hE := Lib.hid (hS.out S U s1 (by omega) s2 s4)
            clear hw C2 hS s2 s4
            generalize r1.isSome = p1 at *
            generalize r2.isSome = p2 at *
            have hs1 : ¬ 9223372036854775807 < 1 + S.size := by omega
            have hs2 : ¬ 9223372036854775807 < 1 + S.size + U.size := by omega
            cases p1
            · go_wp2
              exact hE.out
            · go_wp2
              exact hE.out
        · have hq : (x != (n : Int) - 1 - (k : Int)) = true := by simp [hroot]
          have hN : Hid (∀ (j : Nat) (y : Int), j < k + 1 → xs[j]? = some y → y ≠ (xs.length : Int) - 1 - j) := fun j y hj hy => by
            by_cases e : j < k
            · exact hno.out j y e hy
            · obtain rfl : j = k := by omega
              have := hxk.out
              rw [hy] at this
              injection this with this
              rw [hn.out]
              omega
          clear hno
          go_wp2
          go_roundw
          case rel => exact ⟨k + 1, by omega, by go_num, trivial, hN⟩
          case measure => simp [intOf]; omega
      · obtain rfl : k = n := by omega
        have hP := Lib.hid (hNo.out (fun j y hy => hno.out j y (by have := (List.getElem?_eq_some_iff.1 hy).1; have := hn.out; omega) hy))
        clear hNo hno
        go_wp2
        exact hP.out

theorem l03Of : ∀ f, OfAt f
  | 0 => fun _ _ _ _ _ _ h => absurd h (Nat.not_lt_zero _)
  | f + 1 => l03Of_step f (Lib.hid (l03Of f))
end Go.Proofs.YtkeahaoeiiigeaaDoor
