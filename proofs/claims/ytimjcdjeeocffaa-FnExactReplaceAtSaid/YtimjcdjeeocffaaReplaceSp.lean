/- ReplaceAt, the model's side. -/
import Derived.Test.YtimjcdjeeocffaaReplaceIn
namespace Go.Proofs.Ytimjcdjeeocffaa
open Go.RowKit

theorem ends_nil (w : World) (B : Nat) (A : Option Addr) (xs : List Int) : Hid (Ints w B A (xs.drop xs.length)) := by show Ints _ _ _ _; rw [List.drop_length]; exact Ints.nil_ _ _ _

set_option maxHeartbeats 4000000 in
set_option maxRecDepth 100000 in
theorem l01Replace (A A2 : Option Addr) (xs ys : List Int) (c c2 v : Nat) (w : World) (hlen : 1 ≤ xs.length ∧ xs.length ≤ 24) (hleny : 1 ≤ ys.length ∧ ys.length ≤ 24) (hcc : xs.length ≤ c) (Ht : Hid (M.isTree xs = true)) (hvl : v < xs.length) (h : Ints w w.heap.size A xs) (h2 : Ints w w.heap.size A2 ys) :
    Calls Try.prog 125 #[.agg #[.slice A xs.length c], .int .i64 (v : Int), .agg #[.slice A2 ys.length c2]] w fun e w' =>
      ((M.repl xs v ys).length ≤ 24 → ∃ A' c', e = .returned (.tuple #[.agg #[.slice A' (M.repl xs v ys).length c'], .bool true]) ∧ Own64 w' w.heap.size (.slice A' (M.repl xs v ys).length c') (M.repl xs v ys) ∧ Below w.heap.size w w') ∧
      (¬ (M.repl xs v ys).length ≤ 24 → e = .returned (.tuple #[.agg #[.slice none 0 0], .bool false]) ∧ Below w.heap.size w w') := by
  obtain ⟨W, hW⟩ : ∃ W, ((w.alloc (.cells #[.slice A xs.length c] 26)).alloc (.cells #[.slice A2 ys.length c2] 26)).alloc (.cells #[.slice none 0 0] 26) = W := ⟨_, rfl⟩
  have hWs : W.heap.size = w.heap.size + 1 + 1 + 1 := by rw [← hW]; simp
  have I1 : Hid (Ints W W.heap.size A xs) := by rw [← hW]; exact ((h.al _).al _).al _
  have I2 : Hid (Ints W W.heap.size A2 ys) := by rw [← hW]; exact ((h2.al _).al _).al _
  have C1 : Hid (W.cell? ⟨w.heap.size, 0, none⟩ = some (.slice A xs.length c)) := by rw [← hW]; exact cell_al (cell_al (by simp) _) _
  have C2 : Hid (W.cell? ⟨w.heap.size + 1, 0, none⟩ = some (.slice A2 ys.length c2)) := by rw [← hW]; exact cell_al (World.cell?_alloc_at _ _ _ _ (by simp)) _
  have R : Hid (W.heap[w.heap.size + 1 + 1]? = some (.cells #[.slice none 0 0] 26 (0, 0))) := by
    rw [← hW]
    have := World.alloc_heap_new ((w.alloc (.cells #[.slice A xs.length c] 26)).alloc (.cells #[.slice A2 ys.length c2] 26)) (.cells #[.slice none 0 0] 26)
    simpa [Hid] using this
  have BW : Hid (Below w.heap.size w W) := by rw [← hW]; exact bal (bal (bal (b0 w) _) _) _
  have HW := Lib.hid hW
  clear h h2 hW
  obtain ⟨E, hE⟩ : ∃ E, Hid (M.fin xs v = E) := ⟨_, rfl⟩
  have hfin : Hid (v + M.span 1 (xs.drop v) = E) := hE
  have hok := Lib.hid (M.tree_ok Ht.out hvl)
  have hEn : E ≤ xs.length := by have := M.end_le (xs := xs) (v := v) (by omega); have h1 := hfin.out; omega
  have hrep : Hid (M.repl xs v ys = (xs.take v ++ ys) ++ xs.drop E) := by show _ = _; rw [M.repl, hE.out]
  obtain ⟨RP, hRP⟩ : ∃ RP, Hid (M.repl xs v ys = RP) := ⟨_, rfl⟩
  have hrl : Hid (v + ys.length + (xs.length - E) = RP.length) := by show _ = _; rw [← hRP.out, hrep.out]; simp only [List.length_append, List.length_take, List.length_drop]; omega
  rw [hRP.out] at hrep ⊢
  obtain ⟨b, off, rfl, _, _⟩ := I1.out (by omega)
  obtain ⟨b2, off2, rfl, _, _⟩ := I2.out (by omega)
  have hv1 : (0 : Int) ≤ (v : Int) := by omega
  have hvc : (v : Int) ≤ (c : Int) := by omega
  have hEc0 : (0 : Int) ≤ (E : Int) := by omega
  have hEl : (E : Int) ≤ (xs.length : Int) := by omega
  have hEc2 : (E : Int) ≤ (c : Int) := by omega
  have HOwn : Hid (Calls Try.prog 162 #[.slice (some ⟨b, off, none⟩) v c] W.drew fun e w' => ∃ A' c', e = .returned (.slice A' v c') ∧ Hid (Own64 w' W.heap.size (.slice A' v c') (xs.take v)) ∧ Hid (Below W.heap.size W w')) := by
    have hi : Hid (Ints W.drew W.drew.heap.size (some ⟨b, off, none⟩) (xs.take v)) := by
      have := ints_sub (I1.out) 0 v
      have this2 : Ints W W.heap.size (some ⟨b, off, none⟩) (xs.take v) := by simpa using this
      exact this2.be (Below.refl _ _).drew
    exact (l01Own _ (xs.take v) v c W.drew (show _ = _ by rw [List.length_take]; omega) (by omega) (fun e => by cases e) hi).mono fun e w' ⟨A', c', he, ho, hb⟩ => ⟨A', c', he, ho, btr (Below.refl W.heap.size W).drew hb⟩
  have HEnd : Hid (∀ W' (A' : Option Addr) (n' c' : Nat) (zs : List Int), Hid (Below W.heap.size W W') → Hid (Own64 W' W.heap.size (.slice A' n' c') zs) → Calls Try.prog 133 #[.agg #[.slice (some ⟨b, off, none⟩) xs.length c], .int .i64 (v : Int)] W' fun e w' => e = .returned (.int .i64 (E : Int)) ∧ Hid (Own64 w' W.heap.size (.slice A' n' c') zs) ∧ Hid (Below W.heap.size W w')) := fun W' A' n' c' zs hW' ho =>
    (l01End _ xs c v E W' hfin hlen.2 hok (I1.out.be hW'.out)).mono fun e w' ⟨he, hb⟩ => ⟨he, own_be ho.out hb, btr hW'.out hb⟩
  have HS1 : Hid (∀ W', Hid (Below W.heap.size W W') → W'.cell? ⟨w.heap.size, 0, none⟩ = some (.slice (some ⟨b, off, none⟩) xs.length c)) := fun W' hW' => cell_be C1.out hW'.out
  have HS2 : Hid (∀ W', Hid (Below W.heap.size W W') → W'.cell? ⟨w.heap.size + 1, 0, none⟩ = some (.slice (some ⟨b2, off2, none⟩) ys.length c2)) := fun W' hW' => cell_be C2.out hW'.out
  have hK0 : Hid (Below W.heap.size W W.drew) := (Below.refl _ _).drew
  have ct0 : W.drew.cell? ⟨w.heap.size, 0, none⟩ = some (.slice (some ⟨b, off, none⟩) xs.length c) := C1.out
  have cu0 : W.drew.cell? ⟨w.heap.size + 1, 0, none⟩ = some (.slice (some ⟨b2, off2, none⟩) ys.length c2) := C2.out
  go_enter Try.func125, Try.ntmps125
  go_wp2
  rw [HW.out]
  go_region_held3 (fun w' => w'.cell? ⟨w.heap.size, 0, none⟩ = some (.slice (some ⟨b, off, none⟩) xs.length c) ∧ w'.cell? ⟨w.heap.size + 1, 0, none⟩ = some (.slice (some ⟨b2, off2, none⟩) ys.length c2) ∧ Hid (Below W.heap.size W w')) (first | exact ⟨ct0, cu0, hK0⟩ | exact ⟨HS1.out _ (by assumption), HS2.out _ (by assumption), by assumption⟩) (first | (go_at_call 162; refine HOwn.out.mono ?_; rintro e w7 ⟨A7, c7, rfl, ho7, hb7⟩) | (refine stepInts rfl (.tmp 13) (.tmp 15) rfl _ W.heap.size A7 v c7 (xs.take v) (some ⟨b2, off2, none⟩) ys.length c2 ys rfl rfl ho7 (I2.out.be hb7.out) rfl (fun e => by cases e) hb7.out.size (by omega) (by omega) ?_; intro A8 c8 w8 ho8 hb8; have hb8' : Hid (Below W.heap.size W w8) := hb7.out.trans hb8.out))
  clear HOwn hK0 ct0 cu0 hb7 ho7 hb8
  have z8 := hb8'.out.size
  have hK8 : Hid (Below W.heap.size W w8.drew) := hb8'.out.drew
  have ct8 : w8.drew.cell? ⟨w.heap.size, 0, none⟩ = some (.slice (some ⟨b, off, none⟩) xs.length c) := HS1.out _ hK8
  have HEnd8 := Lib.hid (HEnd.out w8.drew A8 (v + ys.length) c8 (xs.take v ++ ys) hK8 ho8)
  have ctw := HS1.out _ hb8'
  go_wp2
  have hyl : ys.length ≤ 24 := hleny.2
  have hmE : Hid ((xs.drop E).length = xs.length - E) := by show _ = _; simp
  rcases Nat.lt_or_ge E c with hEc | hEc
  · have hne : ¬ c = E := by omega
    have HI2 : Hid (∀ W', Hid (Below W.heap.size W W') → Hid (Ints W' W'.heap.size (some ⟨b, off + E, none⟩) (xs.drop E))) := fun W' hW' => by
      have := ints_sub (I1.out.be hW'.out) E (xs.length - E)
      rw [show (xs.drop E).take (xs.length - E) = xs.drop E from List.take_of_length_le (by simp)] at this
      exact this
    go_region_held3 (fun w' => w'.cell? ⟨w.heap.size, 0, none⟩ = some (.slice (some ⟨b, off, none⟩) xs.length c) ∧ Hid (Below W.heap.size W w')) (first | exact ⟨ct8, hK8⟩ | exact ⟨HS1.out _ (by assumption), by assumption⟩) (first | (go_at_call 133; refine HEnd8.out.mono ?_; rintro e w9 ⟨rfl, ho9, hb9⟩) | (refine stepInts rfl (.tmp 17) (.tmp 23) rfl _ W.heap.size A8 (v + ys.length) c8 (xs.take v ++ ys) (some ⟨b, off + E, none⟩) (xs.length - E) (c - E) (xs.drop E) rfl rfl ho9 (HI2.out _ hb9) hmE (fun e => by cases e) hb9.out.size (by omega) (by omega) ?_; intro A3 c3 w3 ho3 hb3; have hb3' : Hid (Below W.heap.size W w3) := hb9.out.trans hb3.out))
    have ho3' : Hid (Own64 w3 W.heap.size (.slice A3 (v + ys.length + (xs.length - E)) c3) RP) := by have := ho3.out; show Own64 _ _ _ _; rw [hrep.out]; exact this
    have hres : Hid (w3.heap[w.heap.size + 1 + 1]? = some (.cells #[.slice none 0 0] 26 (0, 0))) := (hb3'.out.block _ (by omega)).trans R.out
    have hr2 := cell_of_one hres.out
    have hf2 := free_of_one hres.out
    have hBF := Lib.hid (btr BW.out hb3'.out)
    generalize v + ys.length + (xs.length - E) = n7 at *
    clear ho3 HS1 HS2 HEnd HEnd8 ct8 hK8 ctw ho8 ho9 hb9 hb3
    by_cases hbig : n7 ≤ 24
    · have hbig2 : ¬ (24 : Int) < (n7 : Int) := by omega
      have hlr : Hid (RP.length ≤ 24) := by show _ ≤ _; rw [← hrl.out]; exact hbig
      clear hbig
      go_wp2
      refine bodyPost_ret (v := .tuple #[.agg #[.slice A3 n7 c3], .bool true]) (by simp [results, Try.results125, go_sem, hr2]) rfl ?_
      have hnl2 := hrl.out
      subst hnl2
      exact ⟨fun _ => ⟨_, _, rfl, own_mono (own_far ho3'.out (by omega) _) (by omega), below_setCell hBF.out (by omega) _⟩, fun e => absurd hlr.out (by omega)⟩
    · have hbig2 : (24 : Int) < (n7 : Int) := by omega
      have hlr : Hid (¬ RP.length ≤ 24) := by show ¬ _; rw [← hrl.out]; exact hbig
      clear hbig
      go_wp2
      refine bodyPost_ret (v := .tuple #[.agg #[.slice none 0 0], .bool false]) (by simp [results, Try.results125, go_sem, hr2]) rfl ?_
      exact ⟨fun e => absurd e hlr.out, fun _ => ⟨rfl, below_setCell hBF.out (by omega) _⟩⟩
  · have hEq : c = E := by omega
    have hEx : E = xs.length := by omega
    obtain rfl : c = xs.length := hEq.trans hEx
    subst hEx
    clear hEq
    go_region_held3 (fun w' => w'.cell? ⟨w.heap.size, 0, none⟩ = some (.slice (some ⟨b, off, none⟩) xs.length xs.length) ∧ Hid (Below W.heap.size W w')) (first | exact ⟨ct8, hK8⟩ | exact ⟨HS1.out _ (by assumption), by assumption⟩) (first | (go_at_call 133; refine HEnd8.out.mono ?_; rintro e w9 ⟨rfl, ho9, hb9⟩) | (refine stepInts rfl (.tmp 17) (.tmp 23) rfl _ W.heap.size A8 (v + ys.length) c8 (xs.take v ++ ys) (some ⟨b, off, none⟩) 0 0 (xs.drop xs.length) rfl rfl ho9 (ends_nil _ _ _ _) (show _ = _ by simp) (fun e => by cases e) hb9.out.size (by omega) (by omega) ?_; intro A3 c3 w3 ho3 hb3; have hb3' : Hid (Below W.heap.size W w3) := hb9.out.trans hb3.out))
    have ho3' : Hid (Own64 w3 W.heap.size (.slice A3 (v + ys.length) c3) RP) := by have := ho3.out; show Own64 _ _ _ _; rw [hrep.out]; exact this
    have hres : Hid (w3.heap[w.heap.size + 1 + 1]? = some (.cells #[.slice none 0 0] 26 (0, 0))) := (hb3'.out.block _ (by omega)).trans R.out
    have hr2 := cell_of_one hres.out
    have hf2 := free_of_one hres.out
    have hBF := Lib.hid (btr BW.out hb3'.out)
    have hrl : Hid (v + ys.length = RP.length) := by have := hrl.out; show _ = _; omega
    generalize hnn : v + ys.length = n7 at *
    clear ho3 HS1 HS2 HEnd HEnd8 ct8 hK8 ctw ho8 ho9 hb9 hb3
    by_cases hbig : n7 ≤ 24
    · have hbig2 : ¬ (24 : Int) < (n7 : Int) := by omega
      have hlr : Hid (RP.length ≤ 24) := by show _ ≤ _; rw [← hrl.out]; exact hbig
      clear hbig
      go_wp2
      refine bodyPost_ret (v := .tuple #[.agg #[.slice A3 n7 c3], .bool true]) (by simp [results, Try.results125, go_sem, hr2]) rfl ?_
      have hnl2 := hrl.out
      subst hnl2
      exact ⟨fun _ => ⟨_, _, rfl, own_mono (own_far ho3'.out (by omega) _) (by omega), below_setCell hBF.out (by omega) _⟩, fun e => absurd hlr.out (by omega)⟩
    · have hbig2 : (24 : Int) < (n7 : Int) := by omega
      have hlr : Hid (¬ RP.length ≤ 24) := by show ¬ _; rw [← hrl.out]; exact hbig
      clear hbig
      go_wp2
      refine bodyPost_ret (v := .tuple #[.agg #[.slice none 0 0], .bool false]) (by simp [results, Try.results125, go_sem, hr2]) rfl ?_
      exact ⟨fun e => absurd e hlr.out, fun _ => ⟨rfl, below_setCell hBF.out (by omega) _⟩⟩

set_option maxHeartbeats 800000 in
set_option maxRecDepth 100000 in
theorem spec_ReplaceAt : GivesTree3 26 F_ReplaceAt := by
  intro A A2 xs ys c c2 v w hx hy hcc hcy h h2
  obtain ⟨W, hW⟩ : ∃ W, ((w.alloc (.cells #[.slice A xs.length c] 26)).alloc (.cells #[.slice A2 ys.length c2] 26)).alloc (.cells #[.slice none 0 0] 26) = W := ⟨_, rfl⟩
  have hWs : W.heap.size = w.heap.size + 1 + 1 + 1 := by rw [← hW]; simp
  have I1 : Hid (Ints W W.heap.size A xs) := by rw [← hW]; exact ((h.al _).al _).al _
  have I2 : Hid (Ints W W.heap.size A2 ys) := by rw [← hW]; exact ((h2.al _).al _).al _
  have C1 : Hid (W.cell? ⟨w.heap.size, 0, none⟩ = some (.slice A xs.length c)) := by rw [← hW]; exact cell_al (cell_al (by simp) _) _
  have C2 : Hid (W.cell? ⟨w.heap.size + 1, 0, none⟩ = some (.slice A2 ys.length c2)) := by rw [← hW]; exact cell_al (World.cell?_alloc_at _ _ _ _ (by simp)) _
  have R : Hid (W.heap[w.heap.size + 1 + 1]? = some (.cells #[.slice none 0 0] 26 (0, 0))) := by
    rw [← hW]
    have := World.alloc_heap_new ((w.alloc (.cells #[.slice A xs.length c] 26)).alloc (.cells #[.slice A2 ys.length c2] 26)) (.cells #[.slice none 0 0] 26)
    simpa [Hid] using this
  have BW : Hid (Below w.heap.size w W) := by rw [← hW]; exact bal (bal (bal (b0 w) _) _) _
  have HW := Lib.hid hW
  clear h h2 hW
  obtain ⟨r, hr⟩ : ∃ r, Hid (M.code xs [v] = r) := ⟨_, rfl⟩
  have hgo : Hid (Calls Try.prog 124 #[.agg #[.slice A xs.length c], .slice (some ⟨w.heap.size + 1 + 1 + 1, 0, none⟩) 1 1] (W.alloc (.cells #[.int .i64 v] 2)) fun e w' => e = .returned (.int .i64 r) ∧ Hid (Below W.heap.size W w')) := by
    rw [← hWs]
    have hc := l01Nodes A (some ⟨W.heap.size, 0, none⟩) xs [v] c 1 (W.alloc (.cells #[.int .i64 v] 2)) (by omega) (by simp) (I1.out.al _) (by have := ints_new W #[.int .i64 v] [v] rfl; simpa using this) r hr
    exact hc.mono fun e w' ⟨he, hb⟩ => ⟨he, btr (bal (b0 W) _) hb⟩
  have hF0 : Hid (M.isTree ys = false → F_ReplaceAt xs v ys = ([], 1)) := fun e => by rw [F_ReplaceAt, e, Bool.and_false]; rfl
  have hF1 : Hid (M.isTree ys = true → r ≠ 0 → F_ReplaceAt xs v ys = ([], r)) := fun e e2 => by
    rw [F_ReplaceAt, e, Bool.and_true]
    cases ht : M.isTree xs
    · have : r = 1 := by rw [← hr.out]; simp [M.code, ht]
      rw [this]; rfl
    · rw [if_pos rfl, if_neg (by rw [hr.out]; exact e2), hr.out]
  have hF2 : Hid (M.isTree ys = true → r = 0 → F_ReplaceAt xs v ys = if (M.repl xs v.toNat ys).length ≤ 24 then (M.repl xs v.toNat ys, 0) else ([], 3)) := fun e e2 => by
    have ht := M.code_tree (hr.out.trans e2)
    rw [F_ReplaceAt, e, ht, Bool.and_self, if_pos rfl, if_pos (hr.out.trans e2)]
  obtain ⟨ty, hty⟩ : ∃ ty, Hid (M.isTree ys = ty) := ⟨_, rfl⟩
  rw [hty.out] at hF0 hF1 hF2
  cases ty
  · rw [hF0.out rfl]
    clear hF0 hF1 hF2
    go_enter Try.func26, Try.ntmps26
    go_wp2_with fail
    rw [HW.out]
    refine hgo.out.mono ?_
    rintro e w3 ⟨rfl, B3⟩
    have T2 := Lib.hid (specIs A2 ys c2 w3 (by omega) (I2.out.be B3.out))
    rw [hty.out] at T2
    have hct := cell_be C2.out B3.out
    go_wp2_with fail
    refine T2.out.mono ?_
    rintro e w4 ⟨rfl, hb⟩
    have B4 := Lib.hid (btr B3.out hb)
    clear hb T2 hct
    have hres : Hid (w4.heap[w.heap.size + 1 + 1]? = some (.cells #[.slice none 0 0] 26 (0, 0))) := (B4.out.block _ (by omega)).trans R.out
    have hr2 := cell_of_one hres.out
    have hf2 := free_of_one hres.out
    have hBF := Lib.hid (btr BW.out B4.out)
    go_wp2
    refine bodyPost_ret (v := .tuple #[.agg #[.slice none 0 0], .int .i64 1]) (by simp [results, Try.results26, go_sem, hr2]) rfl ?_
    exact ⟨none, 0, rfl, own64_nil _ _, below_setCell hBF.out (by omega) _⟩
  · by_cases h0 : r = 0
    · rw [hF2.out rfl h0]
      subst h0
      clear hF0 hF1 hF2
      have hn := M.code_node hr.out
      have Ht := Lib.hid (M.code_tree hr.out)
      have hlen := M.tree_len Ht.out
      have hleny := M.tree_len hty.out
      obtain ⟨v, rfl⟩ := Int.eq_ofNat_of_zero_le hn.1
      have hvl : v < xs.length := by simpa using hn.2.1
      obtain ⟨F, hFe⟩ : ∃ F, Hid (F = if (M.repl xs v ys).length ≤ 24 then (M.repl xs v ys, (0 : Int)) else ([], 3)) := ⟨_, rfl⟩
      have hFin : Hid (((M.repl xs v ys).length ≤ 24 → F = (M.repl xs v ys, 0)) ∧ (¬ (M.repl xs v ys).length ≤ 24 → F = ([], 3))) := ⟨fun e => by rw [hFe.out, if_pos e], fun e => by rw [hFe.out, if_neg e]⟩
      simp only [Int.toNat_natCast]
      rw [← hFe.out]
      clear hn hFe
      go_enter Try.func26, Try.ntmps26
      go_wp2_with fail
      rw [HW.out]
      refine hgo.out.mono ?_
      rintro e w3 ⟨rfl, B3⟩
      have T2 := Lib.hid (specIs A2 ys c2 w3 (by omega) (I2.out.be B3.out))
      rw [hty.out] at T2
      have hct := cell_be C2.out B3.out
      go_wp2_with fail
      refine T2.out.mono ?_
      rintro e w4 ⟨rfl, hb⟩
      have B4 := Lib.hid (btr B3.out hb)
      clear hb T2 hct
      have hc1 := cell_be C1.out B4.out
      have hc2 := cell_be C2.out B4.out
      have hL := Lib.hid (l01Replace A A2 xs ys c c2 v w4 hlen hleny hcc.1 Ht hvl (I1.out.be B4.out) (I2.out.be B4.out))
      go_wp2_with fail
      refine hL.out.mono ?_
      rintro e w5 ⟨hp1, hp2⟩
      have z4 := B4.out.size
      by_cases hlr : (M.repl xs v ys).length ≤ 24
      · obtain ⟨A5, c5, rfl, ho5, hb5⟩ := hp1 hlr
        have B5 := Lib.hid (btr B4.out hb5)
        have hres : Hid (w5.heap[w.heap.size + 1 + 1]? = some (.cells #[.slice none 0 0] 26 (0, 0))) := (B5.out.block _ (by omega)).trans R.out
        have z5 := lt_of_block hres.out
        have hres2 : Hid ((w5.alloc (.cells #[.slice A5 (M.repl xs v ys).length c5] 26)).heap[w.heap.size + 1 + 1]? = some (.cells #[.slice none 0 0] 26 (0, 0))) := (Below.heap_alloc _ _ _ z5).trans hres.out
        have hr2 := cell_of_one hres2.out
        have hf2 := free_of_one hres2.out
        have hBF := Lib.hid (bal (btr BW.out B5.out) (.cells #[.slice A5 (M.repl xs v ys).length c5] 26))
        have hF := Lib.hid (hFin.out.1 hlr)
        have Ho5 : Hid (Own64 (w5.alloc (.cells #[.slice A5 (M.repl xs v ys).length c5] 26)) w4.heap.size (.slice A5 (M.repl xs v ys).length c5) (M.repl xs v ys)) := ho5.alloc _
        clear hp1 hp2 hL hb5 ho5 hc1 hc2 hlr z5
        go_wp2
        refine bodyPost_ret (v := .tuple #[.agg #[.slice A5 (M.repl xs v ys).length c5], .int .i64 0]) (by simp [results, Try.results26, go_sem, hr2]) rfl ?_
        rw [hF.out]
        exact ⟨_, _, rfl, own_mono (own_far Ho5.out (by omega) _) (by omega), below_setCell hBF.out (by omega) _⟩
      · obtain ⟨rfl, hb5⟩ := hp2 hlr
        have B5 := Lib.hid (btr B4.out hb5)
        have hres : Hid (w5.heap[w.heap.size + 1 + 1]? = some (.cells #[.slice none 0 0] 26 (0, 0))) := (B5.out.block _ (by omega)).trans R.out
        have z5 := lt_of_block hres.out
        have hres2 : Hid ((w5.alloc (.cells #[.slice none 0 0] 26)).heap[w.heap.size + 1 + 1]? = some (.cells #[.slice none 0 0] 26 (0, 0))) := (Below.heap_alloc _ _ _ z5).trans hres.out
        have hr2 := cell_of_one hres2.out
        have hf2 := free_of_one hres2.out
        have hBF := Lib.hid (bal (btr BW.out B5.out) (.cells #[.slice none 0 0] 26))
        have hF := Lib.hid (hFin.out.2 hlr)
        clear hp1 hp2 hL hb5 hc1 hc2 hlr z5
        go_wp2
        refine bodyPost_ret (v := .tuple #[.agg #[.slice none 0 0], .int .i64 3]) (by simp [results, Try.results26, go_sem, hr2]) rfl ?_
        rw [hF.out]
        exact ⟨none, 0, rfl, own64_nil _ _, below_setCell hBF.out (by omega) _⟩
    · rw [hF1.out rfl h0]
      have hq : (r != 0) = true := by simp [h0]
      clear h0 hF0 hF1 hF2
      go_enter Try.func26, Try.ntmps26
      go_wp2_with fail
      rw [HW.out]
      refine hgo.out.mono ?_
      rintro e w3 ⟨rfl, B3⟩
      have T2 := Lib.hid (specIs A2 ys c2 w3 (by omega) (I2.out.be B3.out))
      rw [hty.out] at T2
      have hct := cell_be C2.out B3.out
      go_wp2_with fail
      refine T2.out.mono ?_
      rintro e w4 ⟨rfl, hb⟩
      have B4 := Lib.hid (btr B3.out hb)
      clear hb T2 hct
      have hres : Hid (w4.heap[w.heap.size + 1 + 1]? = some (.cells #[.slice none 0 0] 26 (0, 0))) := (B4.out.block _ (by omega)).trans R.out
      have hr2 := cell_of_one hres.out
      have hf2 := free_of_one hres.out
      have hBF := Lib.hid (btr BW.out B4.out)
      go_wp2
      refine bodyPost_ret (v := .tuple #[.agg #[.slice none 0 0], .int .i64 r]) (by simp [results, Try.results26, go_sem, hr2]) rfl ?_
      exact ⟨none, 0, rfl, own64_nil _ _, below_setCell hBF.out (by omega) _⟩
end Go.Proofs.Ytimjcdjeeocffaa
