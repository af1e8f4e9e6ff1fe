/- ReplaceAt, the program's side: a tree in the place of a subtree, or a code. -/
import Derived.Test.YtimjcdjeeocffaaRemoveIn
namespace Go.Proofs.Ytimjcdjeeocffaa
open Go.RowKit

/-- a tree, a number and a tree to a tree and a code -/
def GivesTree3 (f : Nat) (F : List Int → Int → List Int → List Int × Int) : Prop :=
  ∀ (A A2 : Option Addr) (xs ys : List Int) (c c2 : Nat) (v : Int) (w : World), xs.length ≤ 1048576 → ys.length ≤ 1048576 → xs.length ≤ c ∧ c ≤ 1000000000000 → ys.length ≤ c2 ∧ c2 ≤ 1000000000000 → Ints w w.heap.size A xs → Ints w w.heap.size A2 ys →
    Calls Try.prog f #[.agg #[.slice A xs.length c], .int .i64 v, .agg #[.slice A2 ys.length c2]] w fun e w' => ∃ A' c', e = .returned (.tuple #[.agg #[.slice A' (F xs v ys).1.length c'], .int .i64 (F xs v ys).2]) ∧
      Own64 w' w.heap.size (.slice A' (F xs v ys).1.length c') (F xs v ys).1 ∧ Below w.heap.size w w'

namespace M
/-- ys in the place of v's subtree -/
def repl (xs : List Int) (v : Nat) (ys : List Int) : List Int := (xs.take v ++ ys) ++ xs.drop (fin xs v)
end M
def F_ReplaceAt (xs : List Int) (v : Int) (ys : List Int) : List Int × Int :=
  if M.isTree xs && M.isTree ys then (if M.code xs [v] = 0 then (if (M.repl xs v.toNat ys).length ≤ 24 then (M.repl xs v.toNat ys, 0) else ([], 3)) else ([], M.code xs [v])) else ([], 1)
theorem F_ReplaceAt_len (xs : List Int) (v : Int) (ys : List Int) : (F_ReplaceAt xs v ys).1.length ≤ 1048576 := by
  rw [F_ReplaceAt]
  split
  · split
    · split
      · show (M.repl _ _ _).length ≤ _; omega
      · simp
    · simp
  · simp
/-- the three parts -/
def three (xs : List Int) (v E : Nat) (ys : List Int) : Nat → List Int
  | 0 => xs.take v
  | 1 => ys
  | _ => xs.drop E

theorem parts_three {w : World} {b off c v E c2 cy : Nat} {A2 Ay : Option Addr} {xs ys : List Int} (h : Ints w w.heap.size (some ⟨b, off, none⟩) xs) (hy : Ints w w.heap.size Ay ys) (hyz : Ay = none → cy = 0) (hv : v ≤ xs.length) (hE : E ≤ xs.length) (hA : A2 = some ⟨b, off + E, none⟩ ∨ (E = xs.length ∧ ∃ a, A2 = some a)) :
    Parts (w.alloc (.cells #[.slice (some ⟨b, off, none⟩) v c, .slice Ay ys.length cy, .slice A2 (xs.length - E) c2] 22)) w.heap.size 3 (three xs v E ys) := by
  intro j hj
  have h2 := h.al (.cells #[.slice (some ⟨b, off, none⟩) v c, .slice Ay ys.length cy, .slice A2 (xs.length - E) c2] 22)
  match j, hj with
  | 0, _ =>
    refine ⟨some ⟨b, off, none⟩, c, ?_, ?_, fun e => by cases e⟩
    · have e : (three xs v E ys 0).length = v := by simp only [three, List.length_take]; omega
      rw [e]; simp
    · have := ints_sub h2 0 v
      simpa [three] using this
  | 1, _ =>
    refine ⟨Ay, cy, ?_, hy.al _, hyz⟩
    simp [three]
  | 2, _ =>
    refine ⟨A2, c2, ?_, ?_, fun e => by rcases hA with rfl | ⟨_, a, rfl⟩ <;> cases e⟩
    · have e : (three xs v E ys 2).length = xs.length - E := by simp only [three, List.length_drop]
      rw [e]
      simp
    · rcases hA with rfl | ⟨rfl, _⟩
      · have := ints_sub h2 E (xs.length - E)
        have e : (xs.drop E).take (xs.length - E) = xs.drop E := List.take_of_length_le (by simp)
        rw [e] at this
        exact this
      · have e : three xs v xs.length ys 2 = [] := by simp [three]
        rw [e]
        exact Ints.nil_ _ _ _

set_option maxHeartbeats 4000000 in
set_option maxRecDepth 100000 in
theorem impl_ReplaceAt : GivesTree3 27 F_ReplaceAt := by
  intro A A2 xs ys c c2 v w hx hy hcc hcy h h2
  obtain ⟨W, hW⟩ : ∃ W, ((w.alloc (.cells #[.slice A xs.length c] 26)).alloc (.cells #[.slice A2 ys.length c2] 26)).alloc (.cells #[.slice none 0 0] 26) = W := ⟨_, rfl⟩
  have hWs : W.heap.size = w.heap.size + 1 + 1 + 1 := by rw [← hW]; simp
  have I1 : Hid (Ints W W.heap.size A xs) := by rw [← hW]; exact ((h.al _).al _).al _
  have I2 : Hid (Ints W W.heap.size A2 ys) := by rw [← hW]; exact ((h2.al _).al _).al _
  have C1 : Hid (W.cell? ⟨w.heap.size, 0, none⟩ = some (.slice A xs.length c)) := by rw [← hW]; exact cell_al (cell_al (by simp) _) _
  have C2 : Hid (W.cell? ⟨w.heap.size + 1, 0, none⟩ = some (.slice A2 ys.length c2)) := by rw [← hW]; exact cell_al (World.cell?_alloc_at _ _ _ _ (by simp)) _
  have R : Hid (W.heap[w.heap.size + 1 + 1]? = some (.cells #[.slice none 0 0] 26 (0, 0))) := by
    rw [← hW]
    have := World.alloc_heap_new ((w.alloc (.cells #[.slice A xs.length c] 26)).alloc (.cells #[.slice A2 ys.length c2] 26)) (.cells #[.slice none 0 0] 26)
    simpa [Hid] using this
  have BW : Hid (Below w.heap.size w W) := by rw [← hW]; exact bal (bal (bal (b0 w) _) _) _
  have HW := Lib.hid hW
  have T1 := Lib.hid (implIsTree A xs c W (by omega) I1.out)
  clear h h2 hW
  cases ht : M.isTree xs
  · have hF : F_ReplaceAt xs v ys = ([], 1) := by rw [F_ReplaceAt, ht]; rfl
    rw [ht] at T1
    rw [hF]
    clear hF ht
    go_enter Try.func27, Try.ntmps27
    go_wp2_with fail
    rw [HW.out]
    refine T1.out.mono ?_
    rintro e w1 ⟨rfl, hb⟩
    have B1 := Lib.hid hb
    clear hb T1
    have hres : Hid (w1.heap[w.heap.size + 1 + 1]? = some (.cells #[.slice none 0 0] 26 (0, 0))) := (B1.out.block _ (by omega)).trans R.out
    have hr2 := cell_of_one hres.out
    have hf2 := free_of_one hres.out
    have hBF := Lib.hid (btr BW.out B1.out)
    go_wp2
    refine bodyPost_ret (v := .tuple #[.agg #[.slice none 0 0], .int .i64 1]) (by simp [results, Try.results27, go_sem, hr2]) rfl ?_
    exact ⟨none, 0, rfl, own64_nil _ _, below_setCell hBF.out (by omega) _⟩
  · rw [ht] at T1
    have Ht := Lib.hid ht
    have hlen := M.tree_len ht
    have hfy : Hid (M.isTree ys = false → F_ReplaceAt xs v ys = ([], 1)) := fun e => by rw [F_ReplaceAt, ht, e]; rfl
    have hfs : Hid (M.isTree ys = true → F_ReplaceAt xs v ys = if M.code xs [v] = 0 then (if (M.repl xs v.toNat ys).length ≤ 24 then (M.repl xs v.toNat ys, 0) else ([], 3)) else ([], M.code xs [v])) := fun e => by rw [F_ReplaceAt, ht, e]; rfl
    clear ht
    cases hty : M.isTree ys
    · rw [hfy.out hty]
      clear hfy hfs
      go_enter Try.func27, Try.ntmps27
      go_wp2_with fail
      rw [HW.out]
      refine T1.out.mono ?_
      rintro e w1 ⟨rfl, hb⟩
      have B1 := Lib.hid hb
      have T2 := Lib.hid (implIsTree A2 ys c2 w1 (by omega) (I2.out.be hb))
      rw [hty] at T2
      have hct := cell_be C2.out hb
      clear hb T1 hty
      go_wp2_with fail
      refine T2.out.mono ?_
      rintro e w2 ⟨rfl, hb⟩
      have B2 := Lib.hid (btr B1.out hb)
      clear hb T2 hct
      have hres : Hid (w2.heap[w.heap.size + 1 + 1]? = some (.cells #[.slice none 0 0] 26 (0, 0))) := (B2.out.block _ (by omega)).trans R.out
      have hr2 := cell_of_one hres.out
      have hf2 := free_of_one hres.out
      have hBF := Lib.hid (btr BW.out B2.out)
      go_wp2
      refine bodyPost_ret (v := .tuple #[.agg #[.slice none 0 0], .int .i64 1]) (by simp [results, Try.results27, go_sem, hr2]) rfl ?_
      exact ⟨none, 0, rfl, own64_nil _ _, below_setCell hBF.out (by omega) _⟩
    · rw [hfs.out hty]
      have Hty := Lib.hid hty
      have hleny := M.tree_len hty
      clear hfy hfs
      obtain ⟨r, hr⟩ : ∃ r, Hid (M.code xs [v] = r) := ⟨_, rfl⟩
      have hgo : Hid (∀ w2 : World, Hid (Below W.heap.size W w2) → Calls Try.prog 118 #[.agg #[.slice A xs.length c], .slice (some ⟨w2.heap.size, 0, none⟩) 1 1] (w2.alloc (.cells #[.int .i64 v] 2)) fun e w' => e = .returned (.int .i64 r) ∧ Hid (Below W.heap.size W w')) := fun w2 hw2 => by
        have hc := codeOf A (some ⟨w2.heap.size, 0, none⟩) xs [v] c 1 (w2.alloc (.cells #[.int .i64 v] 2)) (by omega) (by simp) ((I1.out.be hw2.out).al _) (by have := ints_new w2 #[.int .i64 v] [v] rfl; simpa using this) r hr
        exact hc.mono fun e w' ⟨he, hb⟩ => ⟨he, btr (bal hw2.out _) hb⟩
      rw [hr.out]
      by_cases h0 : r = 0
      · subst h0
        rw [if_pos rfl]
        have hn := M.code_node hr.out
        obtain ⟨v, rfl⟩ := Int.eq_ofNat_of_zero_le hn.1
        have hvl : v < xs.length := by simpa using hn.2.1
        obtain ⟨S, hS⟩ : ∃ S, Hid (M.span 1 (xs.drop v) = S) := ⟨_, rfl⟩
        obtain ⟨E, hE⟩ : ∃ E, Hid (M.fin xs v = E) := ⟨_, rfl⟩
        have hES : (v : Int) + (S : Int) = (E : Int) := by have h1 := hE.out; have h2 := hS.out; simp only [M.fin] at h1; omega
        have hok := Lib.hid (M.tree_ok Ht.out hvl)
        have hEn : E ≤ xs.length := by have := M.end_le (xs := xs) (v := v) (by omega); have h1 := hE.out; simp only [M.fin] at h1; omega
        have hle : Hid (M.repl xs v ys = M.catTo (three xs v E ys) 3) := by show _ = _; rw [M.repl, hE.out]; simp [M.catTo, three]
        obtain ⟨b, off, rfl, _, _⟩ := I1.out (by omega)
        obtain ⟨b2, off2, rfl, _, _⟩ := I2.out (by omega)
        obtain ⟨F, hFe⟩ : ∃ F, Hid (F = if (M.repl xs v ys).length ≤ 24 then (M.repl xs v ys, (0 : Int)) else ([], 3)) := ⟨_, rfl⟩
        have hFin : Hid (((M.repl xs v ys).length ≤ 24 → F = (M.repl xs v ys, 0)) ∧ (¬ (M.repl xs v ys).length ≤ 24 → F = ([], 3))) := ⟨fun e => by rw [hFe.out, if_pos e], fun e => by rw [hFe.out, if_neg e]⟩
        simp only [Int.toNat_natCast]
        rw [← hFe.out]
        have hv1 : (0 : Int) ≤ (v : Int) := by omega
        have hvc : (v : Int) ≤ (c : Int) := by omega
        have hEc0 : (0 : Int) ≤ (E : Int) := by omega
        have hEl : (E : Int) ≤ (xs.length : Int) := by omega
        have hXl : Hid (∀ j, j < 3 → (three xs v E ys j).length ≤ 24) := fun j hj => by
          match j, hj with
          | 0, _ => simp only [three, List.length_take]; omega
          | 1, _ => simp only [three]; omega
          | 2, _ => simp only [three, List.length_drop]; omega
        have hcat : Hid (∀ (w3 : World), Hid (Below W.heap.size W w3) → ∀ (A2 : Option Addr) (c3 : Nat), (A2 = some ⟨b, off + E, none⟩ ∨ (E = xs.length ∧ ∃ a, A2 = some a)) → Calls Try.prog 127 #[.slice (some ⟨w3.drew.heap.size, 0, none⟩) 3 3] (w3.drew.alloc (.cells #[.slice (some ⟨b, off, none⟩) v c, .slice (some ⟨b2, off2, none⟩) ys.length c2, .slice A2 (xs.length - E) c3] 22)) fun e w' => ∃ A' c' n, e = .returned (.slice A' n c') ∧ Hid (Own64 w' w3.heap.size (.slice A' n c') (M.repl xs v ys)) ∧ Hid (Below w3.heap.size w3 w')) := fun w3 hw3 A2 c3 hA2 => by
          have hp := parts_three (w := w3.drew) (c := c) (v := v) (c2 := c3) (cy := c2) (I1.out.be hw3.out.drew) (I2.out.be hw3.out.drew) (fun e => by cases e) (by omega) hEn hA2
          refine (concat w3.drew.heap.size 3 (three xs v E ys) _ (by omega) hXl (by simp) hp).mono ?_
          rintro e w' ⟨A', c', n, he, ho, hb⟩
          exact ⟨A', c', n, he, by rw [hle.out]; exact own_mono ho (by simp), (bal (Below.refl w3.heap.size w3).drew _).trans (hb.mono (by simp))⟩
        clear hn hFe
        go_enter Try.func27, Try.ntmps27
        go_wp2_with fail
        rw [HW.out]
        refine T1.out.mono ?_
        rintro e w1 ⟨rfl, hb⟩
        have B1 := Lib.hid hb
        have T2 := Lib.hid (implIsTree (some ⟨b2, off2, none⟩) ys c2 w1 (by omega) (I2.out.be hb))
        rw [hty] at T2
        have hct := cell_be C2.out hb
        clear hb T1 hty
        go_wp2_with fail
        refine T2.out.mono ?_
        rintro e w2 ⟨rfl, hb⟩
        have B2 := Lib.hid (btr B1.out hb)
        have hct1 := cell_be C1.out B2.out
        clear hb T2 hct
        go_wp2_with fail
        refine (hgo.out _ B2).mono ?_
        rintro e w3 ⟨rfl, B3⟩
        clear hct1
        have hct3 := cell_be C1.out B3.out
        have hcu3 := cell_be C2.out B3.out
        have hI3 := Lib.hid (I1.out.be B3.out)
        go_wp2_with fail
        refine (sizeAt _ xs c v S _ hS hlen.2 hcc.1 hcc.2 hok hI3.out).mono ?_
        rintro e w' ⟨rfl, rfl⟩
        go_wp2
        have hK0 : Hid (Below w3.heap.size w3 w3.drew) := (Below.refl _ _).drew
        have ct0 : w3.drew.cell? ⟨w.heap.size, 0, none⟩ = some (.slice (some ⟨b, off, none⟩) xs.length c) := hct3
        have cu0 : w3.drew.cell? ⟨w.heap.size + 1, 0, none⟩ = some (.slice (some ⟨b2, off2, none⟩) ys.length c2) := hcu3
        have HS1 : Hid (∀ W', Hid (Below w3.heap.size w3 W') → W'.cell? ⟨w.heap.size, 0, none⟩ = some (.slice (some ⟨b, off, none⟩) xs.length c)) := fun W' hW' => cell_be hct3 hW'.out
        have HS2 : Hid (∀ W', Hid (Below w3.heap.size w3 W') → W'.cell? ⟨w.heap.size + 1, 0, none⟩ = some (.slice (some ⟨b2, off2, none⟩) ys.length c2)) := fun W' hW' => cell_be hcu3 hW'.out
        have z3 := B3.out.size
        rcases Nat.lt_or_ge E c with hEc | hEc
        · have hne : ¬ c = E := by omega
          have hEc2 : (E : Int) ≤ (c : Int) := by omega
          have HCat := Lib.hid (hcat.out w3 B3 (some ⟨b, off + E, none⟩) (c - E) (.inl rfl))
          clear hct3 hcu3 hcat
          go_region_held3 (fun w' => w'.cell? ⟨w.heap.size, 0, none⟩ = some (.slice (some ⟨b, off, none⟩) xs.length c) ∧ w'.cell? ⟨w.heap.size + 1, 0, none⟩ = some (.slice (some ⟨b2, off2, none⟩) ys.length c2) ∧ Hid (Below w3.heap.size w3 w')) (first | exact ⟨ct0, cu0, hK0⟩ | exact ⟨cell_al ct0 _, cell_al cu0 _, bal hK0.out _⟩ | exact ⟨HS1.out _ (by assumption), HS2.out _ (by assumption), by assumption⟩) (first | (go_at_call 127; refine HCat.out.mono ?_; rintro e w7 ⟨A7, c7, n7, rfl, ho7, hb7⟩))
          have hnl := Lib.hid (own64_len ho7.out)
          have B7 : Hid (Below W.heap.size W w7) := btr B3.out hb7.out
          clear HCat HS1 HS2 hK0 ct0 cu0
          by_cases hbig : n7 ≤ 24
          · have hbig2 : ¬ (24 : Int) < (n7 : Int) := by omega
            have hlr : (M.repl xs v ys).length ≤ 24 := by rw [← hnl.out]; exact hbig
            have hres : Hid (w7.heap[w.heap.size + 1 + 1]? = some (.cells #[.slice none 0 0] 26 (0, 0))) := (B7.out.block _ (by omega)).trans R.out
            have hr2 := cell_of_one hres.out
            have hf2 := free_of_one hres.out
            have hBF := Lib.hid (btr BW.out B7.out)
            have hF := hFin.out.1 hlr
            clear hbig
            go_wp2
            refine bodyPost_ret (v := .tuple #[.agg #[.slice A7 n7 c7], .int .i64 0]) (by simp [results, Try.results27, go_sem, hr2]) rfl ?_
            have hnl2 := hnl.out
            subst hnl2
            exact ⟨_, _, rfl, own_mono (own_far ho7.out (by omega) _) (by omega), below_setCell hBF.out (by omega) _⟩
          · have hbig2 : (24 : Int) < (n7 : Int) := by omega
            have hlr : ¬ (M.repl xs v ys).length ≤ 24 := by rw [← hnl.out]; exact hbig
            have hF := Lib.hid (hFin.out.2 hlr)
            clear hbig hlr
            have hres : Hid (w7.heap[w.heap.size + 1 + 1]? = some (.cells #[.slice none 0 0] 26 (0, 0))) := (B7.out.block _ (by omega)).trans R.out
            have hr2 := cell_of_one hres.out
            have hf2 := free_of_one hres.out
            have hBF := Lib.hid (btr BW.out B7.out)
            go_wp2
            refine bodyPost_ret (v := .tuple #[.agg #[.slice none 0 0], .int .i64 3]) (by simp [results, Try.results27, go_sem, hr2]) rfl ?_
            rw [hF.out]
            exact ⟨none, 0, rfl, own64_nil _ _, below_setCell hBF.out (by omega) _⟩
        · have hEq : c = E := by omega
          have hEx : E = xs.length := by omega
          have HCat := Lib.hid (hcat.out w3 B3 (some ⟨b, off, none⟩) 0 (.inr ⟨hEx, _, rfl⟩))
          have hzz : xs.length - E = 0 := by omega
          rw [hzz] at HCat
          obtain rfl : c = xs.length := hEq.trans hEx
          subst hEx
          clear hzz hEq hct3 hcu3 hcat
          go_region_held3 (fun w' => w'.cell? ⟨w.heap.size, 0, none⟩ = some (.slice (some ⟨b, off, none⟩) xs.length xs.length) ∧ w'.cell? ⟨w.heap.size + 1, 0, none⟩ = some (.slice (some ⟨b2, off2, none⟩) ys.length c2) ∧ Hid (Below w3.heap.size w3 w')) (first | exact ⟨ct0, cu0, hK0⟩ | exact ⟨cell_al ct0 _, cell_al cu0 _, bal hK0.out _⟩ | exact ⟨HS1.out _ (by assumption), HS2.out _ (by assumption), by assumption⟩) (first | (go_at_call 127; refine HCat.out.mono ?_; rintro e w7 ⟨A7, c7, n7, rfl, ho7, hb7⟩))
          have hnl := Lib.hid (own64_len ho7.out)
          have B7 : Hid (Below W.heap.size W w7) := btr B3.out hb7.out
          clear HCat HS1 HS2 hK0 ct0 cu0
          by_cases hbig : n7 ≤ 24
          · have hbig2 : ¬ (24 : Int) < (n7 : Int) := by omega
            have hlr : (M.repl xs v ys).length ≤ 24 := by rw [← hnl.out]; exact hbig
            have hres : Hid (w7.heap[w.heap.size + 1 + 1]? = some (.cells #[.slice none 0 0] 26 (0, 0))) := (B7.out.block _ (by omega)).trans R.out
            have hr2 := cell_of_one hres.out
            have hf2 := free_of_one hres.out
            have hBF := Lib.hid (btr BW.out B7.out)
            have hF := hFin.out.1 hlr
            clear hbig
            go_wp2
            refine bodyPost_ret (v := .tuple #[.agg #[.slice A7 n7 c7], .int .i64 0]) (by simp [results, Try.results27, go_sem, hr2]) rfl ?_
            have hnl2 := hnl.out
            subst hnl2
            exact ⟨_, _, rfl, own_mono (own_far ho7.out (by omega) _) (by omega), below_setCell hBF.out (by omega) _⟩
          · have hbig2 : (24 : Int) < (n7 : Int) := by omega
            have hlr : ¬ (M.repl xs v ys).length ≤ 24 := by rw [← hnl.out]; exact hbig
            have hF := Lib.hid (hFin.out.2 hlr)
            clear hbig hlr
            have hres : Hid (w7.heap[w.heap.size + 1 + 1]? = some (.cells #[.slice none 0 0] 26 (0, 0))) := (B7.out.block _ (by omega)).trans R.out
            have hr2 := cell_of_one hres.out
            have hf2 := free_of_one hres.out
            have hBF := Lib.hid (btr BW.out B7.out)
            go_wp2
            refine bodyPost_ret (v := .tuple #[.agg #[.slice none 0 0], .int .i64 3]) (by simp [results, Try.results27, go_sem, hr2]) rfl ?_
            rw [hF.out]
            exact ⟨none, 0, rfl, own64_nil _ _, below_setCell hBF.out (by omega) _⟩
      · rw [if_neg h0]
        have hq : (r != 0) = true := by simp [h0]
        clear h0
        go_enter Try.func27, Try.ntmps27
        go_wp2_with fail
        rw [HW.out]
        refine T1.out.mono ?_
        rintro e w1 ⟨rfl, hb⟩
        have B1 := Lib.hid hb
        have T2 := Lib.hid (implIsTree A2 ys c2 w1 (by omega) (I2.out.be hb))
        rw [hty] at T2
        have hct := cell_be C2.out hb
        clear hb T1 hty
        go_wp2_with fail
        refine T2.out.mono ?_
        rintro e w2 ⟨rfl, hb⟩
        have B2 := Lib.hid (btr B1.out hb)
        have hct1 := cell_be C1.out B2.out
        clear hb T2 hct
        go_wp2_with fail
        refine (hgo.out _ B2).mono ?_
        rintro e w3 ⟨rfl, B3⟩
        clear hct1
        have hres : Hid (w3.heap[w.heap.size + 1 + 1]? = some (.cells #[.slice none 0 0] 26 (0, 0))) := (B3.out.block _ (by omega)).trans R.out
        have hr2 := cell_of_one hres.out
        have hf2 := free_of_one hres.out
        have hBF := Lib.hid (btr BW.out B3.out)
        go_wp2
        refine bodyPost_ret (v := .tuple #[.agg #[.slice none 0 0], .int .i64 r]) (by simp [results, Try.results27, go_sem, hr2]) rfl ?_
        exact ⟨none, 0, rfl, own64_nil _ _, below_setCell hBF.out (by omega) _⟩
end Go.Proofs.Ytimjcdjeeocffaa
