/- All nodes at which a pattern matches: matchedIn and the model's loop. -/
import Derived.Test.YtbdmmeoelagdcaaMgCountAvoiding2
import Derived.Laws.Cover3
import Derived.Deep.DeepCutAuto
import Derived.BigRegion
import Derived.OneCell
import Derived.ProofKit
import Derived.SizedLaws
import Derived.Lib.SmallJoins
import Derived.Deep.Slices
import Derived.Deep.Fields
import Derived.JoinedOf
namespace Go.Proofs.Ytbdmmeoelagdcaa
open Go.RowKit

/-- the nodes below k at which a pattern matches -/
def hits (P : List UInt8) (xs : List Int) : Nat → List Int
  | 0 => []
  | k + 1 => hits P xs k ++ (if (atNode P xs k).isSome then [(k : Int)] else [])
theorem hits_len (P : List UInt8) (xs : List Int) : ∀ k, (hits P xs k).length ≤ k := by
  intro k
  induction k with
  | zero => simp [hits]
  | succ k ih => simp only [hits, List.length_append]; split <;> simp <;> omega
theorem hits_hit {P : List UInt8} {xs : List Int} {k : Nat} (h : (atNode P xs k).isSome = true) : hits P xs (k + 1) = hits P xs k ++ [(k : Int)] := by rw [hits, if_pos h]
theorem hits_miss {P : List UInt8} {xs : List Int} {k : Nat} (h : (atNode P xs k).isSome = false) : hits P xs (k + 1) = hits P xs k := by rw [hits, if_neg (by rw [h]; decide), List.append_nil]

set_option maxRecDepth 100000 in
set_option maxHeartbeats 2000000 in
theorem matchedIn (A : Option Addr) (xs : List Int) (c : Nat) (p : ByteArray) (w : World) (ht : Hid (M.isTree xs = true)) (hcl : xs.length ≤ c) (hcu : c ≤ 9223372036854775807) (hp : p.size ≤ 60) (h : Hid (Ints w w.heap.size A xs)) :
    Calls Try.prog 76 #[.slice A xs.length c, .string p] w fun e w' => ∃ A' c', e = .returned (.slice A' (hits p.data.toList xs xs.length).length c') ∧ Hid (Own64 w' w.heap.size (.slice A' (hits p.data.toList xs xs.length).length c') (hits p.data.toList xs xs.length)) ∧ Hid (Below w.heap.size w w') := by
  have hx := Lib.hid (M.tree_len ht.out)
  have hM : Hid (∀ k W, k < xs.length → Below w.heap.size w W → Calls Try.prog 74 #[.slice A xs.length c, .int .i64 (k : Int), .string p] W fun e w' => e = .returned (.bool (atNode p.data.toList xs k).isSome) ∧ Hid (Below W.heap.size W w')) := fun k W hk hb =>
    matchesAt A xs c k p W ht hk hcl hcu hp (Lib.hid (h.out.be hb))
  have hb00 := Lib.hid (b0 w)
  have ho00 := Lib.hid (own64_nil w w.heap.size)
  have hst : Hid (hits p.data.toList xs 0 = []) := rfl
  have hx24 := hx.out.2
  generalize p.data.toList = P at *
  clear h ht
  go_enter Try.func76, Try.ntmps76
  go_wp2
  go_loopw [5, 9] (fun q i wr => ∃ (k : Nat) (A' : Option Addr) (n c' : Nat), k ≤ xs.length ∧ i = .int .i64 k ∧ q = .slice A' n c' ∧ Hid (Own64 wr w.heap.size (.slice A' n c') (hits P xs k)) ∧ Hid (Below w.heap.size w wr)) (fun _ i _ => xs.length - (intOf i).toNat)
  case atStart => exact ⟨0, none, 0, 0, Nat.zero_le _, rfl, rfl, own64_eq ho00.out hst.out.symm, hb00⟩
  case round =>
    obtain ⟨k, A', n, c', hk, rfl, rfl, ho, hbr⟩ := hrel
    have hnr : n ≤ 1000000 := by have h1 := own64_len ho.out; have h2 := hits_len P xs k; omega
    by_cases hlt : k < xs.length
    · have hki : (k : Int) < (xs.length : Int) := by omega
      have hC := Lib.hid (hM.out k wr hlt hbr.out)
      have hB1 := hbr.out.size
      clear hM
      cases hb : (atNode P xs k).isSome
      · have hl := Lib.hid (hits_miss hb)
        rw [hb] at hC
        clear hb
        go_wp2_with (go_at_call 74; refine hC.out.mono ?_; rintro e w2 ⟨rfl, hb2⟩)
        have ho2 := Lib.hid (own64_eq (own_be ho.out hb2.out) hl.out.symm)
        have hb3 := Lib.hid (btr hbr.out hb2.out)
        go_roundw
        case rel => exact ⟨k + 1, A', n, c', by omega, by go_num, rfl, ho2, hb3⟩
        case measure => simp [intOf]; omega
      · have hl := Lib.hid (hits_hit hb)
        rw [hb] at hC
        clear hb
        go_wp2_with fail
        refine hC.out.mono ?_
        rintro e w2 ⟨rfl, hb2⟩
        have ho2 := Lib.hid (own_be ho.out hb2.out)
        have hb3 := Lib.hid (btr hbr.out hb2.out)
        have hB3 := hb3.out.size
        go_wp2_with (at_builtin; refine push64 rfl (.tmp 16) (.tmp 18) rfl w2 w.heap.size A' n c' (hits P xs k) k rfl rfl ho2 hB3 hnr ?_; intro A3 c3 w3 ho3 hb4)
        go_roundw
        case rel => exact ⟨k + 1, A3, _, c3, by omega, by go_num, rfl, own64_eq ho3.out hl.out.symm, hb3.out.trans hb4.out⟩
        case measure => simp [intOf]; omega
    · obtain rfl : k = xs.length := by omega
      have hn := own64_len ho.out
      subst hn
      clear hM
      go_wp2
      go_ret
      exact ⟨A', c', rfl, ho, hbr⟩

set_option maxRecDepth 100000 in
set_option maxHeartbeats 4000000 in
theorem l04Nodes (A : Option Addr) (xs : List Int) (c : Nat) (p : ByteArray) (w : World) (ht : Hid (M.isTree xs = true)) (hcl : xs.length ≤ c) (hpt : Hid (M.isPat p.data.toList = true)) (h : Hid (Ints w w.heap.size A xs)) :
    Calls Try.prog 75 #[.agg #[.slice A xs.length c], .string p] w fun e w' => ∃ A' c', e = .returned (.slice A' (hits p.data.toList xs xs.length).length c') ∧ Hid (Own64 w' w.heap.size (.slice A' (hits p.data.toList xs xs.length).length c') (hits p.data.toList xs xs.length)) ∧ Hid (Below w.heap.size w w') := by
  have hx := Lib.hid (M.tree_len ht.out)
  have hT : Hid (∀ k W, k < xs.length → Below w.heap.size w W → Calls Try.prog 72 #[.agg #[.slice A xs.length c], .int .i64 (k : Int)] W fun e w' => ∃ A' n' c', e = .returned (.agg #[.slice A' n' c']) ∧ Hid (Below W.heap.size W w') ∧
      Hid (∀ W2, Below w'.heap.size w' W2 → Calls Try.prog 71 #[.agg #[.slice A' n' c']] W2 fun e w2 => e = .returned (.string (M.textL 24 (M.sub xs k))) ∧ Hid (Below W2.heap.size W2 w2))) := fun k W hk hb => textAtNode A xs c k W ht hk hcl (Lib.hid (h.out.be hb))
  have hM : Hid (∀ k W, k < xs.length → Calls Try.prog 70 #[.string p, .string (M.textL 24 (M.sub xs k))] W fun e w' => ∃ (A : Option Addr) (n' c : Nat), e = .returned (.tuple #[.slice A n' c, .bool (atNode p.data.toList xs k).isSome]) ∧ Hid (Below W.heap.size W w')) := fun k W hk =>
    (match_at xs k p W ht.out hk hpt.out).mono fun e w' ⟨A, n, c, h1, h2, _⟩ => ⟨A, n, c, h1, h2⟩
  have hb00 := Lib.hid (bal (bal (b0 w) (.cells #[.slice A xs.length c] 29)) (.cells #[] 2))
  have ho00 : Hid (Own64 ((w.alloc (.cells #[.slice A xs.length c] 29)).alloc (.cells #[] 2)) (w.heap.size + 1) (.slice (some ⟨w.heap.size + 1, 0, none⟩) 0 0) (hits p.data.toList xs 0)) := by
    have := own64_empty (w := w.alloc (.cells #[.slice A xs.length c] 29)) (B := w.heap.size + 1) (by simp)
    simpa [Hid, hits] using this
  have hx24 := hx.out.2
  generalize p.data.toList = P at *
  clear h ht hpt
  go_enter Try.func75, Try.ntmps75
  go_wp2
  go_loopw [5, 6] (fun q i wr => ∃ (k : Nat) (A' : Option Addr) (n c' : Nat), k ≤ xs.length ∧ i = .int .i64 k ∧ q = .slice A' n c' ∧ Hid (Own64 wr (w.heap.size + 1) (.slice A' n c') (hits P xs k)) ∧ Hid (Below w.heap.size w wr) ∧ wr.cell? ⟨w.heap.size, 0, none⟩ = some (.slice A xs.length c)) (fun _ i _ => xs.length - (intOf i).toNat)
  case atStart => exact ⟨0, _, 0, 0, Nat.zero_le _, rfl, rfl, ho00, hb00, cell_al (by simp) _⟩
  case round =>
    obtain ⟨k, A', n, c', hk, rfl, rfl, ho, hbr, hcr⟩ := hrel
    clear ho00 hb00
    have hnr : n ≤ 1000000 := by have h1 := own64_len ho.out; have h2 := hits_len P xs k; omega
    by_cases hlt : k < xs.length
    · have hki : (k : Int) < (xs.length : Int) := by omega
      go_wp2_with fail
      refine (l01N A xs.length c _).mono ?_
      rintro e wn ⟨rfl, hb⟩
      have hbn := Lib.hid (btr hbr.out hb)
      have hon := Lib.hid (own_be ho.out hb)
      have hcn := cell_be hcr hb
      clear hb ho hbr hcr
      go_wp2_with fail
      refine (hT.out k _ hlt hbn.out).mono ?_
      rintro e w2 ⟨A2, n2, c2, rfl, hb2, hT2⟩
      have hcn2 := cell_be hcn hb2.out
      go_wp2_with fail
      refine (hT2.out _ (b0 _)).mono ?_
      rintro e w3 ⟨rfl, hb3⟩
      have hcn3 := cell_be hcn2 hb3.out
      have hM4 := Lib.hid (hM.out k w3 hlt)
      have hb5 := Lib.hid (btr hbn.out (btr hb2.out hb3.out))
      have ho5 := Lib.hid (own_be hon.out (btr hb2.out hb3.out))
      clear hb2 hT2 hb3 hon hbn hcn hcn2 hT hM
      cases hb : (atNode P xs k).isSome
      · have hl := Lib.hid (hits_miss hb)
        rw [hb] at hM4
        clear hb
        go_wp2_with fail
        refine hM4.out.mono ?_
        rintro e w4 ⟨A4, n4, c4, rfl, hb4⟩
        have hcn4 := cell_be hcn3 hb4.out
        have ho2 := Lib.hid (own64_eq (own_be ho5.out hb4.out) hl.out.symm)
        have hb6 := Lib.hid (btr hb5.out hb4.out)
        clear hb4 hb5 ho5 hcn3 hM4 hl
        go_wp2
        go_roundw
        case rel => exact ⟨k + 1, A', n, c', by omega, by go_num, rfl, ho2, hb6, hcn4⟩
        case measure => simp [intOf]; omega
      · have hl := Lib.hid (hits_hit hb)
        rw [hb] at hM4
        clear hb
        go_wp2_with fail
        refine hM4.out.mono ?_
        rintro e w4 ⟨A4, n4, c4, rfl, hb4⟩
        have hcn4 := cell_be hcn3 hb4.out
        have ho2 := Lib.hid (own_be ho5.out hb4.out)
        have hb6 := Lib.hid (btr hb5.out hb4.out)
        have hB3 : w.heap.size + 1 ≤ w4.heap.size := World.block_lt_of_cell? _ _ hcn4
        clear hb4 hb5 ho5 hcn3 hM4
        go_wp2_with (at_builtin; refine push64 rfl (.tmp 26) (.tmp 28) rfl w4 (w.heap.size + 1) A' n c' (hits P xs k) k rfl rfl ho2 hB3 hnr ?_; intro A3 c3 w5 ho3 hb7)
        have hcn5 : w5.cell? ⟨w.heap.size, 0, none⟩ = some (.slice A xs.length c) := (hb7.out.cell (p := ⟨w.heap.size, 0, none⟩) (Nat.lt_succ_self _)).trans hcn4
        go_roundw
        case rel => exact ⟨k + 1, A3, _, c3, by omega, by go_num, rfl, own64_eq ho3.out hl.out.symm, hb6.out.trans (hb7.out.mono (Nat.le_succ _)), hcn5⟩
        case measure => simp [intOf]; omega
    · obtain rfl : k = xs.length := by omega
      have hn := own64_len ho.out
      subst hn
      clear hM hT
      go_wp2_with fail
      refine (l01N A xs.length c _).mono ?_
      rintro e wn ⟨rfl, hb⟩
      have hbn := Lib.hid (btr hbr.out hb)
      have hon := Lib.hid (own_be ho.out hb)
      clear hb ho hbr hcr
      go_wp2
      go_ret
      exact ⟨A', c', rfl, Lib.hid (own_mono hon.out (Nat.le_succ _)), hbn⟩
end Go.Proofs.Ytbdmmeoelagdcaa

/- The trees in which a pattern matches nowhere, the model's: l04Avoiding, l04Few. -/
namespace Go.Proofs.Ytbdmmeoelagdcaa
open Go.RowKit

/-- does a pattern match nowhere in a tree -/
def av (P : List UInt8) (xs : List Int) : Bool := (hits P xs xs.length).length == 0
theorem zip_snd {α β : Type} : ∀ (a : List α) (b : List β), a.length = b.length → (a.zip b).map Prod.snd = b
  | [], [], _ => rfl
  | x :: a, y :: b, h => by rw [List.zip_cons_cons, List.map_cons, zip_snd a b (by simpa using h)]
  | [], _ :: _, h => by simp at h
  | _ :: _, [], h => by simp at h
theorem zip_fst {α β : Type} : ∀ (a : List α) (b : List β), a.length = b.length → (a.zip b).map Prod.fst = a
  | [], [], _ => rfl
  | x :: a, y :: b, h => by rw [List.zip_cons_cons, List.map_cons, zip_fst a b (by simpa using h)]
  | [], _ :: _, h => by simp at h
  | _ :: _, [], h => by simp at h
/-- the headers of those trees, below k, of which f holds -/
def pick (f : List Int → Bool) (hs : List Hdr) (zss : List (List Int)) (k : Nat) : List (Hdr × List Int) := ((hs.zip zss).take k).filter fun x => f x.2
theorem pick_zero (f : List Int → Bool) (hs : List Hdr) (zss : List (List Int)) : pick f hs zss 0 = [] := by simp [pick]
theorem pick_len (f : List Int → Bool) (hs : List Hdr) (zss : List (List Int)) (k : Nat) : (pick f hs zss k).length ≤ k := by
  have h1 := List.length_filter_le (fun x : Hdr × List Int => f x.2) ((hs.zip zss).take k)
  rw [List.length_take] at h1
  unfold pick
  omega
theorem pick_succ {f : List Int → Bool} {hs : List Hdr} {zss : List (List Int)} {k : Nat} {h : Hdr} {zs : List Int} (h1 : hs[k]? = some h) (h2 : zss[k]? = some zs) : pick f hs zss (k + 1) = pick f hs zss k ++ if f zs then [(h, zs)] else [] := by
  have hz : (hs.zip zss)[k]? = some (h, zs) := by rw [List.getElem?_zip_eq_some]; exact ⟨h1, h2⟩
  rw [pick, pick, List.take_add_one, hz, List.filter_append]
  congr 1
  show List.filter (fun x : Hdr × List Int => f x.2) [(h, zs)] = _
  cases hf : f zs <;> simp [hf]
theorem pick_all {f : List Int → Bool} {hs : List Hdr} {zss : List (List Int)} {k : Nat} (hl : hs.length = zss.length) (hk : zss.length ≤ k) : (pick f hs zss k).map Prod.snd = zss.filter f := by
  rw [pick, List.take_of_length_le (by rw [List.length_zip]; omega)]
  have h1 := zip_snd hs zss hl
  generalize hs.zip zss = Z at *
  subst h1
  rw [List.filter_map]
  rfl
theorem Woods.picked {w : World} {B k : Nat} {v v' : Value} {hs : List Hdr} {zss : List (List Int)} {f : List Int → Bool} (h : Woods w B v hs zss) (hk : zss.length ≤ k)
    (hown : w.ownsRow B 29 1 v' ((pick f hs zss k).map Prod.fst).length (((pick f hs zss k).map Prod.fst).map hdr)) : Woods w B v' ((pick f hs zss k).map Prod.fst) (zss.filter f) := by
  have hall := pick_all (f := f) h.len hk
  refine ⟨hown, by rw [← hall, List.length_map, List.length_map], fun i h' zs hi hz => ?_, fun i j a b hi hj hij => ?_⟩
  · rw [← hall, List.getElem?_map] at hz
    rw [List.getElem?_map] at hi
    cases hx : (pick f hs zss k)[i]? with
    | none => rw [hx] at hi; cases hi
    | some x =>
      rw [hx] at hi hz
      injection hi with hi
      injection hz with hz
      have hm := List.mem_of_getElem? hx
      have hm2 := List.mem_of_mem_take (List.mem_filter.1 hm).1
      obtain ⟨q, hq⟩ := List.getElem?_of_mem hm2
      rw [List.getElem?_zip_eq_some] at hq
      rw [← hi, ← hz]
      exact h.each q _ _ hq.1 hq.2
  · have hp : hs.Pairwise fun a b => a.1 ≠ b.1 := by
      rw [List.pairwise_iff_getElem]
      intro i j hi hj hij
      exact h.apart i j _ _ (List.getElem?_eq_getElem hi) (List.getElem?_eq_getElem hj) (by omega)
    have hs2 : ((pick f hs zss k).map Prod.fst).Sublist hs := by
      have h1 : (pick f hs zss k).Sublist (hs.zip zss) := List.filter_sublist.trans (List.take_sublist _ _)
      have h2 := h1.map Prod.fst
      rwa [zip_fst hs zss h.len] at h2
    have hp2 := hp.sublist hs2
    rw [List.pairwise_iff_getElem] at hp2
    obtain ⟨hi1, hi2⟩ := List.getElem?_eq_some_iff.1 hi
    obtain ⟨hj1, hj2⟩ := List.getElem?_eq_some_iff.1 hj
    rcases Nat.lt_or_gt_of_ne hij with h' | h'
    · rw [← hi2, ← hj2]; exact hp2 i j hi1 hj1 h'
    · rw [← hi2, ← hj2]; exact fun e => hp2 j i hj1 hi1 h' e.symm

set_option maxRecDepth 100000 in
/-- append of one header -/
theorem pushHdr {ops : Array Oper} {rest : List Oper} {o : Oper} {a : Act} {Q : Exit → Act → World → Prop} (hgd : o.guard = none) (s x : Operand)
    (ho : o.op = .call { callee := .builtin .append, args := #[s, x], argTypes := #[39, 39] }) (w : World) (B : Nat) (A : Option Addr) (n c : Nat) (hs : List Hdr) (h0 : Hdr)
    (hs0 : a.eval s = .slice A n c) (hx : a.eval x = .slice (some ⟨w.heap.size, 0, none⟩) 1 1) (hn : Hid (hs.length = n)) (hW : Hid (w.ownsRow B 29 1 (.slice A n c) hs.length (hs.map hdr))) (hB : B ≤ w.heap.size) (hlen : n ≤ 1000000)
    (h : ∀ A' c' w', Hid (w'.ownsRow B 29 1 (.slice A' (n + 1) c') (hs ++ [h0]).length ((hs ++ [h0]).map hdr)) → Hid (Below B w w') → wpList Try.prog ops Q rest (a.put o.dst (.slice A' (n + 1) c')) w') :
    wpList Try.prog ops Q (o :: rest) a (w.alloc (.cells #[hdr h0] 29)) := by
  obtain ⟨i0, hi0, hz0, hz1, hz2⟩ := info_parts infoTree
  have hn := hn.out
  have hlt : ∀ k, (Value.slice A n c).ownBlock = some k → B ≤ k ∧ k < w.heap.size := fun k hk => World.ownsRow.lt hW.out k hk
  have hown : (w.alloc (.cells #[hdr h0] 29)).ownsRow B 29 1 (.slice A n c) hs.length (hs.map hdr) := own_be hW.out (bal (b0 w) _)
  refine wpList_append_own_at _ hgd s x 39 ho B 29 i0 (.agg #[.slice none 0 0]) 1 24 Try.underlying39 hi0 hz0 hz1 hz2 rfl (by decide) _ hs.length (hs.map hdr) hs0 hown ⟨w.heap.size, 0, none⟩ 1 1 [hdr h0] hx rfl (cell_one_new _ _ _) ?_ ?_ ?_ ?_ ?_
  · intro u hu; simp at hu; subst hu; rfl
  · unfold maxLen; omega
  · omega
  · simp; omega
  · intro v' w1 hown1 hg1 _ _
    obtain ⟨A', c', rfl⟩ : ∃ A' c', v' = .slice A' (hs.length + 1) c' := own_shape hown1
    have hres : w1.ownsRow B 29 1 (.slice A' (hs.length + 1) c') (hs ++ [h0]).length ((hs ++ [h0]).map hdr) := by
      rw [List.length_append, List.length_singleton, List.map_append]; exact hown1
    rw [hn] at hres ⊢
    exact h A' c' w1 hres (((Below.refl B w).alloc hB _).grown hg1 (by simp; omega) (fun k hk => (hlt k hk).1))

set_option maxRecDepth 100000 in
set_option maxHeartbeats 4000000 in
theorem l04Avoiding (n : Nat) (p : ByteArray) (w : World) (hn1 : 1 ≤ n) (hn : n ≤ 8) (hpt : Hid (M.isPat p.data.toList = true)) (htr : Hid (∀ zs ∈ M.suff n 1, M.isTree zs = true)) :
    Calls Try.prog 94 #[.int .i64 (n : Int), .string p] w fun e w' => ∃ A c' hs, e = .returned (.slice A ((M.suff n 1).filter (av p.data.toList)).length c') ∧ Hid (Woods w' w.heap.size (.slice A ((M.suff n 1).filter (av p.data.toList)).length c') hs ((M.suff n 1).filter (av p.data.toList))) ∧ Hid (Below w.heap.size w w') := by
  have hA := Lib.hid (l01All n w hn1 hn)
  have hL8 := M.L_8 (n := n) (t := 1) hn
  have hSl : Hid ((M.suff n 1).length = M.L n 1) := M.suff_len n 1
  have hN : Hid (∀ (A : Option Addr) (xs : List Int) (c : Nat) (W : World), xs ∈ M.suff n 1 → xs.length ≤ c → Hid (Ints W W.heap.size A xs) → Calls Try.prog 75 #[.agg #[.slice A xs.length c], .string p] W fun e w' => ∃ A' c' m, e = .returned (.slice A' m c') ∧ ((m : Int) == 0) = av p.data.toList xs ∧ Hid (Below W.heap.size W w')) := fun A xs c W hm hcl hI =>
    (l04Nodes A xs c p W (Lib.hid (htr.out xs hm)) hcl hpt hI).mono fun e w' ⟨A', c', h1, _, h2⟩ => ⟨A', c', _, h1, by rw [av]; generalize (hits p.data.toList xs xs.length).length = m; cases m <;> simp <;> omega, h2⟩
  generalize av p.data.toList = f at *
  generalize M.suff n 1 = S at *
  generalize M.L n 1 = N at *
  clear hpt htr
  go_enter Try.func94, Try.ntmps94
  go_wp2_with fail
  refine hA.out.mono ?_
  rintro e w1 ⟨g, c1, hs, rfl, hW, hb1⟩
  have hB1 := Lib.hid (bal hb1.out (.cells #[] 29))
  have hs1 : Hid ((w1.alloc (.cells #[] 29)).ownsRow w1.heap.size 29 1 (.slice (some ⟨w1.heap.size, 0, none⟩) 0 0) ((pick f hs S 0).map Prod.fst).length (((pick f hs S 0).map Prod.fst).map hdr)) := by
    rw [pick_zero]
    exact World.ownsRow_made (e := 29) (size := 1) w1 #[] 0 (Nat.le_refl _) (by simp [maxLen]) (by simp)
  have hbb := Lib.hid (bal (b0 w1) (.cells #[] 29))
  have hz1 := hb1.out.size
  have Hb1 := Lib.hid hb1.out
  clear hA hb1 hB1
  go_wp2
  go_loopw [6, 7] (fun q i wr => ∃ (k m : Nat) (A' : Option Addr) (c' : Nat), k ≤ N ∧ m ≤ k ∧ i = .int .i64 (k : Int) ∧ q = .slice A' m c' ∧ Hid (((pick f hs S k).map Prod.fst).length = m) ∧ Hid (wr.ownsRow w1.heap.size 29 1 (.slice A' m c') ((pick f hs S k).map Prod.fst).length (((pick f hs S k).map Prod.fst).map hdr)) ∧ Hid (Below w1.heap.size w1 wr)) (fun _ i _ => N - (intOf i).toNat)
  case atStart => exact ⟨0, 0, _, 0, by omega, by omega, rfl, rfl, by rw [pick_zero]; rfl, hs1, hbb⟩
  case round =>
    obtain ⟨k, m, A', c', hk, hmk, rfl, rfl, hm, hO, hb⟩ := hrel
    clear hs1 hbb
    by_cases hlt : k < N
    · have hki : (k : Int) < (N : Int) := by omega
      have hk0 : (0 : Int) ≤ (k : Int) := by omega
      have hkS : k < S.length := by rw [hSl.out]; exact hlt
      have hat : S[k]? = some S[k] := List.getElem?_eq_getElem hkS
      have hmS := List.mem_of_getElem? hat
      obtain ⟨h', hh, ho, hhl⟩ := hW.out.at_ hat
      have hsucc := pick_succ (f := f) hh hat
      generalize S[k] = zs at hat hmS ho hhl hsucc
      have hcl := hW.out.cell hh
      obtain ⟨g', m', c2⟩ := h'
      simp only at hhl
      subst hhl
      have hgl := (World.ownsRow.lt hW.out.row g rfl).2
      have hcl' : ∀ W, Below w1.heap.size w1 W → W.cell? ⟨g, k, none⟩ = some (.slice (some ⟨g', 0, none⟩) zs.length c2) := fun W h => (h.cell (p := ⟨g, k, none⟩) hgl).trans hcl
      have hI : Hid (Ints wr wr.heap.size (some ⟨g', 0, none⟩) zs) := ints_of_own64 (own_be ho hb.out)
      have hNo := Lib.hid (hN.out (some ⟨g', 0, none⟩) zs c2 wr hmS (own_cap ho) hI)
      have hc0 := hcl' wr hb.out
      have Hcl := Lib.hid hcl'
      clear hcl hat hmS ho hh hN hcl' hI
      cases hf : f zs
      · have hp : Hid (pick f hs S (k + 1) = pick f hs S k) := by show _ = _; rw [hsucc, hf]; simp
        rw [hf] at hNo
        clear hsucc hf
        go_wp2_with fail
        refine hNo.out.mono ?_
        rintro e w2 ⟨A2, c3, m2, rfl, hm2, hb2⟩
        have hO2 := Lib.hid (own_be hO.out hb2.out)
        have hB2 := Lib.hid (btr hb.out hb2.out)
        clear hb hb2 hO hNo hc0
        go_wp2
        rw [← hp.out] at hO2 hm
        go_roundw
        case rel => exact ⟨k + 1, m, A', c', by omega, by omega, by go_num, rfl, hm, hO2, hB2⟩
        case measure => simp [intOf]; omega
      · have hp : Hid (((pick f hs S (k + 1)).map Prod.fst) = (pick f hs S k).map Prod.fst ++ [(g', zs.length, c2)]) := by show _ = _; rw [hsucc, hf]; simp
        rw [hf] at hNo
        clear hsucc hf
        go_wp2_with fail
        refine hNo.out.mono ?_
        rintro e w2 ⟨A2, c3, m2, rfl, hm2, hb2⟩
        have hO2 := Lib.hid (own_be hO.out hb2.out)
        have hB2 := Lib.hid (btr hb.out hb2.out)
        have hc2 := Hcl.out w2 hB2.out
        have hz2 := hB2.out.size
        clear hb hb2 hO hNo hc0
        go_wp2_with (at_builtin; refine pushHdr rfl (.tmp 25) (.tmp 30) rfl _ w1.heap.size A' m c' _ (g', zs.length, c2) rfl rfl hm hO2 hz2 (by omega) ?_; intro A3 c4 w3 hO3 hb3)
        rw [← hp.out] at hO3
        have hm3 : Hid (((pick f hs S (k + 1)).map Prod.fst).length = m + 1) := by show _ = _; rw [hp.out, List.length_append, hm.out]; rfl
        have hB3 : Hid (Below w1.heap.size w1 w3) := hB2.out.trans hb3.out
        clear hB2 hb3 hO2 hm
        go_roundw
        case rel => exact ⟨k + 1, m + 1, A3, c4, by omega, by omega, by go_num, rfl, hm3, hO3, hB3⟩
        case measure => simp [intOf]; omega
    · obtain rfl : k = N := by omega
      have hge : ¬ (k : Int) < (k : Int) := by omega
      have hWf : Hid (Woods wr w.heap.size (.slice A' m c') ((pick f hs S k).map Prod.fst) (S.filter f)) := (hW.out.be hb.out).picked (by rw [hSl.out]; exact Nat.le_refl _) (own_mono hO.out hz1)
      have hml : m = (S.filter f).length := hWf.out.shape.1
      have hBz : Hid (Below w.heap.size w wr) := btr Hb1.out hb.out
      clear hW hO hm hN hb
      subst hml
      go_wp2
      go_ret
      exact ⟨A', c', rfl, ⟨_, hWf⟩, hBz⟩
end Go.Proofs.Ytbdmmeoelagdcaa

/- All trees of so many nodes by their ranks, one behind the other: the mathematics. -/
namespace Go.Proofs.Ytbdmmeoelagdcaa.M
theorem start_tree {n : Nat} (hn1 : 1 ≤ n) (hn : n ≤ 24) : isTree (firstL n 1) = true := by
  rw [isTree_is (by rw [firstL_len]; exact hn1) (by rw [firstL_len]; exact hn)]
  exact (firstL_go n 1 (by omega) hn1).1
theorem start_unrank {n : Nat} (hn1 : 1 ≤ n) : unrank n 1 0 = firstL n 1 := by
  have h1 := firstL_go n 1 (by omega) hn1
  have := unrank_rk _ 1 h1.1
  rw [h1.2, firstL_len] at this
  exact this
theorem step_unrank {xs : List Int} (ht : isTree xs = true) : nextF 1 xs = if rk 1 xs + 1 < L xs.length 1 then some (unrank xs.length 1 (rk 1 xs + 1)) else none := by
  have h := next_rk xs 1 (tree_len ht).2 (tree_go ht)
  cases hn : nextF 1 xs with
  | none =>
    rw [hn] at h
    simp only at h
    rw [if_neg (by omega)]
  | some ys =>
    rw [hn] at h
    obtain ⟨h1, h2, h3⟩ := h
    have h4 := rk_lt ys 1 h1
    have h5 := unrank_rk ys 1 h1
    rw [h2, h3] at h4 h5
    rw [if_pos h4, h5]
theorem unrank_tree {n : Nat} (hn1 : 1 ≤ n) (hn : n ≤ 24) : ∀ r, r < L n 1 → isTree (unrank n 1 r) = true ∧ rk 1 (unrank n 1 r) = r := by
  intro r
  induction r with
  | zero =>
    intro _
    rw [start_unrank hn1]
    exact ⟨start_tree hn1 hn, (firstL_go n 1 (by omega) hn1).2⟩
  | succ r ih =>
    intro h
    obtain ⟨i1, i2⟩ := ih (by omega)
    have h1 := step_unrank i1
    rw [i2, unrank_len, if_pos h] at h1
    have h2 := next_rk _ 1 (tree_len i1).2 (tree_go i1)
    rw [h1] at h2
    exact ⟨(next_tree i1 h1).1, by rw [h2.2.2, i2]⟩
theorem unrank_next {n r : Nat} (hn1 : 1 ≤ n) (hn : n ≤ 24) (hr : r < L n 1) : nextF 1 (unrank n 1 r) = if r + 1 < L n 1 then some (unrank n 1 (r + 1)) else none := by
  obtain ⟨i1, i2⟩ := unrank_tree hn1 hn r hr
  have h1 := step_unrank i1
  rwa [i2, unrank_len] at h1
theorem suff_tree {n : Nat} (hn1 : 1 ≤ n) (hn : n ≤ 24) : ∀ zs ∈ suff n 1, isTree zs = true := fun zs h => by
  obtain ⟨r, hr, rfl⟩ := List.mem_map.1 h
  exact (unrank_tree hn1 hn r (List.mem_range.1 hr)).1
theorem suff_at {n r : Nat} (hr : r < L n 1) : (suff n 1)[r]? = some (unrank n 1 r) := by
  rw [suff, List.getElem?_map, List.getElem?_range hr]; rfl
theorem L_pos {n : Nat} (hn1 : 1 ≤ n) : 1 ≤ L n 1 := by
  have h4 := rk_lt (firstL n 1) 1 (firstL_go n 1 (by omega) hn1).1
  rw [firstL_len] at h4
  omega
end Go.Proofs.Ytbdmmeoelagdcaa.M

/- CountAvoiding and FirstAvoiding, the model's; the codes of both. -/
namespace Go.Proofs.Ytbdmmeoelagdcaa
open Go.RowKit

def codeA (n : Int) (b : Bool) : Int := if b then (if 1 ≤ n ∧ n ≤ 8 then 0 else 2) else 6
theorem codeA_zero {n : Int} {b : Bool} (h : codeA n b = 0) : b = true ∧ 1 ≤ n ∧ n ≤ 8 := by
  rw [codeA] at h
  cases b
  · simp at h
  · rw [if_pos rfl] at h
    split at h
    · rename_i h1; exact ⟨rfl, h1⟩
    · cases h

theorem l04Few (n : Int) (p : ByteArray) (w : World) (hp : p.size ≤ 1048576) :
    Calls Try.prog 93 #[.int .i64 n, .string p] w fun e w' => e = .returned (.int .i64 (codeA n (M.isPat p.data.toList))) ∧ Hid (Below w.heap.size w w') := by
  have hP := Lib.hid (l04Is p w hp)
  obtain ⟨b, hb⟩ : ∃ b, Hid ((decide ((1 : Int) ≤ n) && decide (n ≤ 8)) = b) := ⟨_, rfl⟩
  have hI := fun W => Lib.hid (inAny n 1 8 W b hb)
  rw [codeA]
  generalize M.isPat p.data.toList = t at *
  cases t
  · go_enter Try.func93, Try.ntmps93
    go_wp2_with fail
    refine hP.out.mono ?_
    rintro e w1 ⟨rfl, hb1⟩
    go_wp2
    go_ret
    exact ⟨rfl, hb1⟩
  · cases b
    · have hne : ¬ (1 ≤ n ∧ n ≤ 8) := by have := hb.out; simp at this; omega
      rw [if_pos rfl, if_neg hne]
      clear hne hb
      go_enter Try.func93, Try.ntmps93
      go_wp2_with fail
      refine hP.out.mono ?_
      rintro e w1 ⟨rfl, hb1⟩
      go_wp2_with (go_at_call 136; refine (hI _).out.mono ?_; rintro e w' ⟨rfl, rfl⟩)
      go_ret
      exact ⟨rfl, hb1⟩
    · have hne : 1 ≤ n ∧ n ≤ 8 := by have := hb.out; simp at this; omega
      rw [if_pos rfl, if_pos hne]
      clear hne hb
      go_enter Try.func93, Try.ntmps93
      go_wp2_with fail
      refine hP.out.mono ?_
      rintro e w1 ⟨rfl, hb1⟩
      go_wp2_with (go_at_call 136; refine (hI _).out.mono ?_; rintro e w' ⟨rfl, rfl⟩)
      go_ret
      exact ⟨rfl, hb1⟩
theorem codeOfAvoiding (n : Int) (p : ByteArray) (w : World) (hp : p.size ≤ 1048576) :
    Calls Try.prog 95 #[.int .i64 n, .string p] w fun e w' => e = .returned (.int .i64 (codeA n (M.isPat p.data.toList))) ∧ Hid (Below w.heap.size w w') := by
  have hP := Lib.hid (impl_IsPattern p w hp)
  rw [F_IsPattern] at hP
  obtain ⟨b, hb⟩ : ∃ b, Hid ((decide ((1 : Int) ≤ n) && decide (n ≤ 8)) = b) := ⟨_, rfl⟩
  have hI := fun W => Lib.hid (withinAny n 1 8 W b hb)
  rw [codeA]
  generalize M.isPat p.data.toList = t at *
  cases t
  · go_enter Try.func95, Try.ntmps95
    go_wp2_with fail
    refine hP.out.mono ?_
    rintro e w1 ⟨rfl, hb1⟩
    go_wp2
    go_ret
    exact ⟨rfl, hb1⟩
  · cases b
    · have hne : ¬ (1 ≤ n ∧ n ≤ 8) := by have := hb.out; simp at this; omega
      rw [if_pos rfl, if_neg hne]
      clear hne hb
      go_enter Try.func95, Try.ntmps95
      go_wp2_with fail
      refine hP.out.mono ?_
      rintro e w1 ⟨rfl, hb1⟩
      go_wp2_with (go_at_call 139; refine (hI _).out.mono ?_; rintro e w' ⟨rfl, rfl⟩)
      go_ret
      exact ⟨rfl, hb1⟩
    · have hne : 1 ≤ n ∧ n ≤ 8 := by have := hb.out; simp at this; omega
      rw [if_pos rfl, if_pos hne]
      clear hne hb
      go_enter Try.func95, Try.ntmps95
      go_wp2_with fail
      refine hP.out.mono ?_
      rintro e w1 ⟨rfl, hb1⟩
      go_wp2_with (go_at_call 139; refine (hI _).out.mono ?_; rintro e w' ⟨rfl, rfl⟩)
      go_ret
      exact ⟨rfl, hb1⟩

/-- the trees of n nodes in which a pattern matches nowhere -/
def avs (n : Nat) (p : ByteArray) : List (List Int) := (M.suff n 1).filter (av p.data.toList)
theorem avs_len {n : Nat} (hn : n ≤ 8) (p : ByteArray) : (avs n p).length ≤ 65536 := by
  have h1 := List.length_filter_le (av p.data.toList) (M.suff n 1)
  rw [M.suff_len] at h1
  exact Nat.le_trans h1 (M.L_8 hn)
theorem avs_each {n : Nat} {p : ByteArray} : ∀ zs ∈ avs n p, zs.length = n := fun zs h => M.suff_each zs (List.mem_filter.1 h).1
def F_CountAvoiding (n : Int) (p : ByteArray) : Int × Int := if codeA n (M.isPat p.data.toList) = 0 then (((avs n.toNat p).length : Int), 0) else (0, codeA n (M.isPat p.data.toList))
theorem F_CountA_yes {n : Int} {p : ByteArray} (h : codeA n (M.isPat p.data.toList) = 0) : F_CountAvoiding n p = (((avs n.toNat p).length : Int), 0) := if_pos h
theorem F_CountA_no {n : Int} {p : ByteArray} (h : codeA n (M.isPat p.data.toList) ≠ 0) : F_CountAvoiding n p = (0, codeA n (M.isPat p.data.toList)) := if_neg h
def firstOf (V : List (List Int)) : List Int × Int := match V with | [] => ([], 4) | x :: _ => (x, 0)
def F_FirstAvoiding (n : Int) (p : ByteArray) : List Int × Int := if codeA n (M.isPat p.data.toList) = 0 then firstOf (avs n.toNat p) else ([], codeA n (M.isPat p.data.toList))
theorem F_FirstA_yes {n : Int} {p : ByteArray} (h : codeA n (M.isPat p.data.toList) = 0) : F_FirstAvoiding n p = firstOf (avs n.toNat p) := if_pos h
theorem F_FirstA_no {n : Int} {p : ByteArray} (h : codeA n (M.isPat p.data.toList) ≠ 0) : F_FirstAvoiding n p = ([], codeA n (M.isPat p.data.toList)) := if_neg h
theorem F_FirstAvoiding_len (n : Int) (p : ByteArray) : (F_FirstAvoiding n p).1.length ≤ 1048576 := by
  by_cases h : codeA n (M.isPat p.data.toList) = 0
  · rw [F_FirstA_yes h]
    obtain ⟨_, h1, h2⟩ := codeA_zero h
    cases hV : avs n.toNat p with
    | nil => simp [firstOf]
    | cons x r =>
      have := avs_each (n := n.toNat) (p := p) x (by rw [hV]; exact List.mem_cons_self ..)
      show x.length ≤ _
      omega
  · rw [F_FirstA_no h]; simp
/-- a number and a text to two numbers -/
def GivesNSN (f : Nat) (F : Int → ByteArray → Int × Int) : Prop :=
  ∀ (n : Int) (p : ByteArray) (w : World), p.size ≤ 1048576 → Calls Try.prog f #[.int .i64 n, .string p] w fun e w' => e = .returned (.tuple #[.int .i64 (F n p).1, .int .i64 (F n p).2]) ∧ Below w.heap.size w w'
/-- a number and a text to a tree and a code -/
def GivesNST (f : Nat) (F : Int → ByteArray → List Int × Int) : Prop :=
  ∀ (n : Int) (p : ByteArray) (w : World), p.size ≤ 1048576 → Calls Try.prog f #[.int .i64 n, .string p] w fun e w' => ∃ A' c', e = .returned (.tuple #[.agg #[.slice A' (F n p).1.length c'], .int .i64 (F n p).2]) ∧ Own64 w' w.heap.size (.slice A' (F n p).1.length c') (F n p).1 ∧ Below w.heap.size w w'

set_option maxRecDepth 100000 in
set_option maxHeartbeats 2000000 in
theorem spec_CountAvoiding : GivesNSN 45 F_CountAvoiding := by
  intro n p w hp
  have hC := Lib.hid (l04Few n p w hp)
  obtain ⟨r, hr⟩ : ∃ r, Hid (codeA n (M.isPat p.data.toList) = r) := ⟨_, rfl⟩
  rw [hr.out] at hC
  by_cases h0 : r = 0
  · subst h0
    obtain ⟨hpt, h1, h8⟩ := codeA_zero hr.out
    rw [F_CountA_yes hr.out]
    obtain ⟨m, rfl⟩ := Int.eq_ofNat_of_zero_le (show 0 ≤ n by omega)
    simp only [Int.toNat_natCast]
    have hA := Lib.hid (fun W => l04Avoiding m p W (by omega) (by omega) (Lib.hid hpt) (Lib.hid (M.suff_tree (by omega) (by omega))))
    have hl := avs_len (n := m) (by omega) p
    unfold avs at hl ⊢
    generalize ((M.suff m 1).filter (av p.data.toList)) = V at *
    clear hr hpt
    go_enter Try.func45, Try.ntmps45
    go_wp2_with fail
    refine hC.out.mono ?_
    rintro e w1 ⟨rfl, hb1⟩
    go_wp2_with fail
    refine (hA.out _).mono ?_
    rintro e w2 ⟨A2, c2, hs, rfl, _, hb2⟩
    have hB := btr hb1.out hb2.out
    go_wp2
    go_ret2
    exact ⟨rfl, hB⟩
  · rw [F_CountA_no (by rw [hr.out]; exact h0), hr.out]
    have hq : (r != 0) = true := by simp [h0]
    clear hr h0
    go_enter Try.func45, Try.ntmps45
    go_wp2_with fail
    refine hC.out.mono ?_
    rintro e w1 ⟨rfl, hb1⟩
    have hB := hb1.out
    go_wp2
    go_ret2
    exact ⟨rfl, hB⟩

set_option maxRecDepth 100000 in
set_option maxHeartbeats 2000000 in
theorem spec_FirstAvoiding : GivesNST 47 F_FirstAvoiding := by
  intro n p w hp
  obtain ⟨W, hW⟩ : ∃ W, w.alloc (.cells #[.slice none 0 0] 29) = W := ⟨_, rfl⟩
  have hWs : W.heap.size = w.heap.size + 1 := by rw [← hW]; simp
  have hR : Hid (W.heap[w.heap.size]? = some (.cells #[.slice none 0 0] 29 (0, 0))) := by rw [← hW]; exact World.alloc_heap_new w _
  have hBW : Hid (Below w.heap.size w W) := by rw [← hW]; exact bal (b0 w) _
  have hC := Lib.hid (l04Few n p W hp)
  obtain ⟨r, hr⟩ : ∃ r, Hid (codeA n (M.isPat p.data.toList) = r) := ⟨_, rfl⟩
  rw [hr.out] at hC
  have HW := Lib.hid hW
  clear hW
  by_cases h0 : r = 0
  · subst h0
    obtain ⟨hpt, h1, h8⟩ := codeA_zero hr.out
    rw [F_FirstA_yes hr.out]
    obtain ⟨m, rfl⟩ := Int.eq_ofNat_of_zero_le (show 0 ≤ n by omega)
    simp only [Int.toNat_natCast]
    have hA := Lib.hid (fun W => l04Avoiding m p W (by omega) (by omega) (Lib.hid hpt) (Lib.hid (M.suff_tree (by omega) (by omega))))
    have hl := avs_len (n := m) (by omega) p
    unfold avs at hl ⊢
    generalize ((M.suff m 1).filter (av p.data.toList)) = V at *
    clear hr hpt
    cases V with
    | nil =>
      rw [show firstOf [] = ([], 4) from rfl]
      go_enter Try.func47, Try.ntmps47
      go_wp2_with fail
      rw [HW.out]
      refine hC.out.mono ?_
      rintro e w1 ⟨rfl, hb1⟩
      have hres1 := Lib.hid ((hb1.out.block w.heap.size (lt_of_block hR.out)).trans hR.out)
      have hB1 := Lib.hid (btr hBW.out hb1.out)
      clear hb1
      go_wp2_with fail
      refine (hA.out _).mono ?_
      rintro e w2 ⟨A2, c2, hs, rfl, _, hb2⟩
      have hres2 := (hb2.out.block w.heap.size (lt_of_block hres1.out)).trans hres1.out
      have hr2 := cell_of_one hres2
      have hf2 := free_of_one hres2
      have hB2 := Lib.hid (btr hB1.out hb2.out)
      clear hb2
      go_wp2
      have e1 := (Boxed.set (.slice none 0 0) hres2).cell
      refine bodyPost_ret (v := .tuple #[.agg #[.slice none 0 0], .int .i64 4]) (by simp [results, Try.results47, go_sem, e1]) rfl ?_
      exact ⟨none, 0, rfl, own64_nil _ _, below_setCell hB2.out (Nat.le_refl _) _⟩
    | cons x V =>
      rw [show firstOf (x :: V) = (x, 0) from rfl]
      have hln : (((x :: V).length : Int) == 0) = false := beq_eq_false_iff_ne.2 (by simp; omega)
      have hlp : (0 : Int) < ((x :: V).length : Int) := by simp
      obtain ⟨N, hN⟩ : ∃ N, Hid ((x :: V).length = N) := ⟨_, rfl⟩
      rw [hN.out] at hln hlp hl hA
      go_enter Try.func47, Try.ntmps47
      go_wp2_with fail
      rw [HW.out]
      refine hC.out.mono ?_
      rintro e w1 ⟨rfl, hb1⟩
      have hres1 := Lib.hid ((hb1.out.block w.heap.size (lt_of_block hR.out)).trans hR.out)
      have hB1 := Lib.hid (btr hBW.out hb1.out)
      clear hb1
      go_wp2_with fail
      refine (hA.out _).mono ?_
      rintro e w2 ⟨A2, c2, hs, rfl, hWd, hb2⟩
      obtain ⟨g, rfl⟩ := hWd.out.shape.2 (by omega)
      obtain ⟨h', hh, ho, hhl⟩ := hWd.out.at_ (k := 0) (zs := x) rfl
      have hcl := hWd.out.cell hh
      obtain ⟨g', m', c'⟩ := h'
      simp only at hhl
      subst hhl
      have hz1 := lt_of_block hres1.out
      have hz2 := hB1.out.size
      have hres2 := (hb2.out.block w.heap.size hz1).trans hres1.out
      have hr2 := cell_of_one hres2
      have hf2 := free_of_one hres2
      have hB2 := Lib.hid (btr hB1.out hb2.out)
      have Ho := Lib.hid ho
      clear hb2 hWd ho hh
      go_wp2
      have e1 := (Boxed.set (.slice (some ⟨g', 0, none⟩) x.length c') hres2).cell
      refine bodyPost_ret (v := .tuple #[.agg #[.slice (some ⟨g', 0, none⟩) x.length c'], .int .i64 0]) (by simp [results, Try.results47, go_sem, e1]) rfl ?_
      exact ⟨_, _, rfl, own_mono (own_far Ho.out hz1 _) hz2, below_setCell hB2.out (Nat.le_refl _) _⟩
  · rw [F_FirstA_no (by rw [hr.out]; exact h0), hr.out]
    have hq : (r != 0) = true := by simp [h0]
    clear hr h0
    go_enter Try.func47, Try.ntmps47
    go_wp2_with fail
    rw [HW.out]
    refine hC.out.mono ?_
    rintro e w1 ⟨rfl, hb1⟩
    have hres1 := (hb1.out.block w.heap.size (lt_of_block hR.out)).trans hR.out
    have hr2 := cell_of_one hres1
    have hf2 := free_of_one hres1
    have hB1 := Lib.hid (btr hBW.out hb1.out)
    clear hb1
    go_wp2
    have e1 := (Boxed.set (.slice none 0 0) hres1).cell
    refine bodyPost_ret (v := .tuple #[.agg #[.slice none 0 0], .int .i64 r]) (by simp [results, Try.results47, go_sem, e1]) rfl ?_
    exact ⟨none, 0, rfl, own64_nil _ _, below_setCell hB1.out (Nat.le_refl _) _⟩
end Go.Proofs.Ytbdmmeoelagdcaa

/- The walk of the law FnExactCountAvoiding, from the contracts of the program's function and of the model's: it returns true, and writes into nothing that was there. -/
namespace Go.Proofs.Ytbdmmeoelagdcaa
open Go.RowKit

set_option maxHeartbeats 2000000 in
set_option maxRecDepth 100000 in
theorem lawCountAvoiding (F : Int → ByteArray → Int × Int) (hS0 : Hid (GivesNSN 45 F)) (hI0 : Hid (GivesNSN 46 F)) (n : Int) (p : ByteArray) (w : World) (_hn0 : -9223372036854775808 ≤ n) (_hn1 : n ≤ 9223372036854775807) :
    Calls Try.prog 10 #[.int .i64 n, .string p] w fun e w' => e = .returned (.bool true) ∧ Below w.heap.size w w' := by
  by_cases hp : p.size ≤ 1048576
  · have hp1 : ¬ (1048576 : Int) < (p.size : Int) := by omega
    have HS := Lib.hid (fun W => hS0.out n p W hp)
    have HI := Lib.hid (fun W => hI0.out n p W hp)
    generalize F n p = r at *
    obtain ⟨r1, r2⟩ := r
    simp only at HS HI
    clear hS0 hI0
    go_enter Try.func10, Try.ntmps10
    go_wp2_with fail
    refine (HS.out _).mono ?_
    rintro e w1 ⟨rfl, hb1⟩
    have B1 := Lib.hid hb1
    go_wp2_with fail
    refine (HI.out _).mono ?_
    rintro e w2 ⟨rfl, hb2⟩
    have B2 := Lib.hid (btr B1.out hb2)
    go_wp2
    go_ret
    exact ⟨rfl, B2.out⟩
  · have hp1 : (1048576 : Int) < (p.size : Int) := by omega
    go_enter Try.func10, Try.ntmps10
    go_wp2
    go_ret
    exact ⟨rfl, b0 w⟩
end Go.Proofs.Ytbdmmeoelagdcaa

/- A range over a function whose elements lie in memory: what the iterator has laid ahead of a round (C) is told to the body. No program is named here. -/
namespace Go.Proofs.Ytbdmmeoelagdcaa
open Go.RowKit

section
variable {F : Fence} {n : Nat} {P : Program}

/-- the contract of an iterator that lays its elements in memory: C pre x W: what can be said of x, in W, when it is handed over -/
def SeqRows {α : Type} (F : Fence) (n : Nat) (P : Program) (g : Nat) (lb : Array Value) (encs : α → Array Value) (C : List α → α → World → Prop) (Kp : World → World → Prop) (S Sp : List α → Prop) (w : World) : Prop :=
  ∀ (l : Nat) (J Jx : List α → World → Prop) (W : World), Below w.heap.size w W →
    (∀ s X Y, J s X → X.grownBy Y none → J s Y) →
    (∀ s X Y, Jx s X → X.grownBy Y none → Jx s Y) →
    (∀ pre x W1, J pre W1 → C pre x W1 → YieldAt F (n - 1) P l (encs x) W1 fun e W' =>
      (e = .returned (.bool true) ∧ J (pre ++ [x]) W' ∧ Kp W1 W') ∨ (e = .returned (.bool false) ∧ Jx (pre ++ [x]) W')) →
    J [] W →
    CallsIn F n P g (#[.func (.yield l) #[] #[]] ++ lb) W fun e W' => (∃ v, e = .returned v) ∧ ((∃ ys, S ys ∧ J ys W') ∨ (∃ pre, Sp pre ∧ Jx pre W'))

/-- the two blocks of a loop's book-keeping: the mark's at D, the record's behind it -/
def Books (D : Nat) (r : Loop) (W : World) : Prop := W.heap[D + 1]? = some (.loop r) ∧ W.heap[D]? = some (.deferred (some []))

theorem Books.turn {D : Nat} {r r' : Loop} {W : World} (h : Books D r W) : Books D r' (W.putObj (D + 1) (.loop r')) :=
  ⟨World.putObj_heap_same (Array.getElem?_eq_some_iff.1 h.1).1, (World.putObj_heap_other (by omega)).trans h.2⟩
theorem Books.grown {D : Nat} {r : Loop} {W W' : World} (h : Books D r W) (hg : W.grownBy W' none) : Books D r W' :=
  ⟨(hg.block _ (Array.getElem?_eq_some_iff.1 h.1).1 (by simp)).trans h.1, (hg.block _ (Array.getElem?_eq_some_iff.1 h.2).1 (by simp)).trans h.2⟩
theorem Books.from {D : Nat} {r : Loop} {W W' : World} (h : Books D r W) (hk : KeepsFrom D W W') : Books D r W' :=
  ⟨hk.same _ _ (by omega) h.1 rfl, hk.same _ _ (Nat.le_refl _) h.2 rfl⟩

theorem wpIn_rangeRows {α : Type} {g : Operand} {ps : Array Tmp} {assign body : Code} {Q : Exit → Act → World → Prop} {a : Act} {w : World}
    (hro : F.round = none) (h1 : 1 ≤ n) {gf : Nat} {lb : Array Value} (hg : a.eval g = .func (.func gf) #[] lb) (hFg : F.fn gf) (eg : ∀ args w, (callFunc gf args).run P w = .ok (.enter gf args) w)
    {encs : α → Array Value} {C : List α → α → World → Prop} {Kp : World → World → Prop} {S Sp : List α → Prop} {w0 : World} (hseq : SeqRows F (n - 1) P gf lb encs C Kp S Sp w0) (hb0 : Below w0.heap.size w0 w)
    (hKt : ∀ {X Y Z : World}, Kp X Y → Kp Y Z → Kp X Z) (hKb : ∀ (W : World) (r r' : Loop), W.heap[w.heap.size + 1]? = some (.loop r) → Kp W (W.putObj (w.heap.size + 1) (.loop r'))) (hps : ∀ x, (encs x).size = ps.size)
    (I : List α → World → Prop) (Ix : Code → List α → World → Prop) (hI : OwnFrom w.heap.size I) (hIx : ∀ c, OwnFrom w.heap.size (Ix c)) (hC : OwnFrom w.heap.size (fun (s : List α × α) W => C s.1 s.2 W)) (h0 : I [] w) (a₁ : α → Act)
    (hassign : ∀ (l : Nat) (x : α) (W : World) (K : Act → World → Prop), K (a₁ x) W →
      assign.wpIn (F.inRound l) (n - 1 - 1) P (Exit.then K (fun _ _ _ => False)) { tmps := (ps.zip (encs x)).foldl (fun t (p, v) => t.setIfInBounds p v) a.tmps, defers := [] } W)
    (hbody : ∀ (l : Nat) (pre : List α) (x : α) (W : World), I pre W → C pre x W → body.wpIn (F.inRound l) (n - 1 - 1) P (ownPostG w.heap.size Kp I Ix (pre ++ [x]) W) (a₁ x) W)
    (hdone : ∀ (D : Nat) (xs : List α) (W : World), w.heap.size ≤ D → S xs → I xs W → W.heap[D]? = some (.deferred (some [])) → Q .normal { a with defers := { target := .collected D, args := #[] } :: a.defers } W)
    (hstop : ∀ (D : Nat) (c : Code) (pre : List α) (W : World), w.heap.size ≤ D → Sp pre → Ix c pre W → W.heap[D]? = some (.deferred (some [])) → c.wpIn F n P Q { a with defers := { target := .collected D, args := #[] } :: a.defers } W) :
    (Code.rangeFunc g ps assign body).wpIn F n P Q a w := by
  refine wpIn_rangeFunc fun fn hfn => ?_
  rw [hro]
  obtain ⟨D, hD⟩ : ∃ D, w.heap.size = D := ⟨_, rfl⟩
  obtain ⟨R, hR⟩ : ∃ R : LoopState → Option Code → Loop, R = fun st pe => { state := st, pending := pe, fn, tmps := a.tmps, params := ps, assign, body, defers := D } := ⟨_, rfl⟩
  have hgr : w.grownBy ((w.alloc (.deferred (some []))).alloc (.loop (R .ready none))) none := (World.grownBy_alloc w _ none).trans (World.grownBy_alloc _ _ none)
  have hbk : Books D (R .ready none) ((w.alloc (.deferred (some []))).alloc (.loop (R .ready none))) := by
    refine ⟨?_, (Below.heap_alloc _ _ _ (by rw [← hD]; simp)).trans (by rw [← hD]; exact World.alloc_heap_new w _)⟩
    have := World.alloc_heap_new (w.alloc (.deferred (some []))) (.loop (R .ready none))
    rwa [World.size_alloc, hD] at this
  have hbW : Below w0.heap.size w0 ((w.alloc (.deferred (some []))).alloc (.loop (R .ready none))) := hb0.trans (((Below.refl w.heap.size w).grown hgr (Nat.le_refl _) (fun k e => by cases e)).mono hb0.size)
  have hent := run_enterLoop_outer (P := P) (w := w) fn a.tmps ps assign body
  rw [hD] at hent hI hIx hC hbody hdone hstop hKb
  have hi1 : I [] ((w.alloc (.deferred (some []))).alloc (.loop (R .ready none))) := hI _ _ _ _ h0 hgr (fun k e => by cases e)
  generalize hW1 : (w.alloc (.deferred (some []))).alloc (.loop (R .ready none)) = W1 at *
  refine ⟨D + 1, [{ target := .collected D, args := #[] }], W1, { target := .fn (.func gf) lb, args := #[.func (.yield (D + 1)) #[] #[]] }, W1, gf, #[.func (.yield (D + 1)) #[] #[]] ++ lb, W1, ?_, ?_, ?_, ?_, fun _ => h1, ?_⟩
  · rw [hent, ← hW1, hR]
  · simp only [resolve, hg]
    simp [go_sem]
  · intro f' hf'
    simp [Target.leads] at hf'
    rw [← hf']
    exact hFg
  · simp [invoke, go_sem, eg]
  refine (hseq (D + 1) (fun pre W => I pre W ∧ Books D (R .ready none) W) (fun pre W => ∃ c, Ix c pre W ∧ Books D (R .done (some c)) W) W1 hbW
    (fun s X Y h hg => ⟨hI _ _ _ _ h.1 hg (fun k e => by cases e), h.2.grown hg⟩) (fun s X Y ⟨c, h, hk⟩ hg => ⟨c, hIx c _ _ _ _ h hg (fun k e => by cases e), hk.grown hg⟩) ?_ ⟨hi1, hbk⟩).mono ?_
  · -- one round
    rintro pre x W ⟨hi, hk⟩ hc
    have hy := run_yield (P := P) (args := encs x) hk.1 (by rw [hR]; exact hps x)
    refine ⟨fn, _, assign, body, by rw [hR] at hy; exact hy, roundIn_of_wpIn hfn (hassign _ x W _ ⟨_, run_beginRound hk.1 (by rw [hR]), ?_⟩)⟩
    have hk2 := hk.turn (r' := { R .ready none with state := .busy })
    refine wpIn_mono (hbody _ pre x _ (hI.putObj _ hi (by omega) hk.1 rfl) (hC.putObj (s := (pre, x)) _ hc (by omega) hk.1 rfl)) ?_
    have fin : ∀ (jump : Option Code) (W3 : World), KeepsFrom D (W.putObj (D + 1) (.loop { R .ready none with state := .busy })) W3 →
        (Instr.endRound (D + 1) jump).run P W3 = .ok (.bool jump.isNone) (W3.putObj (D + 1) (.loop (R (if jump.isNone then .ready else .done) jump))) ∧ Books D { R .ready none with state := .busy } W3 := fun jump W3 h3 => by
      have h4 := hk2.from h3
      have := run_endRound (P := P) jump h4.1
      rw [hR] at this ⊢
      exact ⟨this, by rw [hR] at h4; exact h4⟩
    have hKs : Kp W (W.putObj (D + 1) (.loop { R .ready none with state := .busy })) := hKb _ _ _ hk.1
    intro e a3 W3 hp
    cases e with
    | normal =>
      obtain ⟨p1, p2, p3⟩ := hp
      obtain ⟨q1, q2⟩ := fin none W3 p1
      exact ⟨_, _, q1, .inl ⟨rfl, ⟨hI.putObj _ p3 (by omega) q2.1 rfl, q2.turn⟩, hKt (hKt hKs p2) (hKb _ _ _ q2.1)⟩⟩
    | ret =>
      obtain ⟨p1, p3⟩ := hp
      obtain ⟨q1, q2⟩ := fin (some .ret) W3 p1
      exact ⟨_, _, q1, .inr ⟨rfl, .ret, (hIx _).putObj _ p3 (by omega) q2.1 rfl, q2.turn⟩⟩
    | exit id =>
      obtain ⟨p1, p3⟩ := hp
      obtain ⟨q1, q2⟩ := fin (some (.exit id)) W3 p1
      exact ⟨_, _, q1, .inr ⟨rfl, .exit id, (hIx _).putObj _ p3 (by omega) q2.1 rfl, q2.turn⟩⟩
    | goto t =>
      obtain ⟨p1, p3⟩ := hp
      obtain ⟨q1, q2⟩ := fin (some (.goto t)) W3 p1
      exact ⟨_, _, q1, .inr ⟨rfl, .goto t, (hIx _).putObj _ p3 (by omega) q2.1 rfl, q2.turn⟩⟩
    | panic ch => exact hp.elim
    | outgrown => exact hp.elim
  · -- behind the iterator
    rintro e W2 ⟨⟨v, rfl⟩, (⟨xs, hS, hi, hk⟩ | ⟨pre, hSp, c, hi, hk⟩)⟩
    · have hr := run_endLoop (P := P) hk.1 (by rw [hR]; simp)
      refine ⟨none, _, by rw [hR] at hr; exact hr, hdone D xs _ (Nat.le_refl _) hS (hI.putObj _ hi (by omega) hk.1 rfl) ((World.putObj_heap_other (by omega)).trans hk.2)⟩
    · have hr := run_endLoop (P := P) hk.1 (by rw [hR]; simp)
      refine ⟨some c, _, by rw [hR] at hr; exact hr, hstop D c pre _ (Nat.le_refl _) hSp ((hIx c).putObj _ hi (by omega) hk.1 rfl) ((World.putObj_heap_other (by omega)).trans hk.2)⟩
end
end Go.Proofs.Ytbdmmeoelagdcaa

/- slices.Backward: the iterator over the indices and the elements of a slice from its end, for every loop body that keeps what lay below a block and the box of the slice. -/
namespace Go.Proofs.Ytbdmmeoelagdcaa
open Go.RowKit Go.Shelf
attribute [local go_sem] Oper.semAt_some

set_option maxRecDepth 100000 in
set_option maxHeartbeats 2000000 in
theorem back1 (encs : Nat → Array Value) (n : Nat) (hn : 1 ≤ n) (l Bd n₀ : Nat) (A : Option Addr) (xs : List Int) (c : Nat) (hx : xs.length ≤ 1000)
    (hmk : Hid (∀ k v (x : Int), k + 1 + v = xs.length → xs[v]? = some x → encs k = #[.int .i64 (v : Int), .int .i64 x])) (J Jx : List Nat → World → Prop)
    (hY : ∀ pre x W, J pre W → (pre = List.range x ∧ x < xs.length) → YieldAt Fence.wide (n - 1) Try.prog l (encs x) W fun e W' =>
      (e = .returned (.bool true) ∧ J (pre ++ [x]) W' ∧ KeepK n₀ Bd W W') ∨ (e = .returned (.bool false) ∧ Jx (pre ++ [x]) W'))
    (W : World) (hBd : Boxed W Bd 23 (.slice A xs.length c)) (hI : Ints W n₀ A xs) (_ : n₀ ≤ W.heap.size) (h0 : J [] W) :
    CallsIn Fence.wide n Try.prog 157 #[.func (.yield l) #[] #[], .pointer (some ⟨Bd, 0, none⟩)] W fun e W' => (∃ u, e = .returned u) ∧
      ((∃ ys, ys = List.range xs.length ∧ J ys W') ∨ (∃ pre, True ∧ Jx pre W')) := by
  have hcd := hBd.cell
  have HBd := Lib.hid hBd
  have HI := Lib.hid hI
  obtain ⟨m, hm⟩ : ∃ m, Hid (xs.length = m) := ⟨_, rfl⟩
  rw [hm.out] at hx hmk hY hcd HBd ⊢
  clear hI hBd
  refine callsIn_of_wp Try.func157 rfl trivial ?_ rfl
  simp only [Try.ntmps157, List.size_toArray, List.length_cons, List.length_nil, Nat.reduceAdd, Nat.reduceSub, Array.replicate_succ, Array.replicate_zero, List.push_toArray, List.append_toArray, List.nil_append, List.cons_append]
  gi_wp2
  gi_loopw [3] (fun i wr => ∃ k : Nat, k ≤ m ∧ i = .int .i64 ((m : Int) - 1 - (k : Int)) ∧ J (List.range k) wr ∧ Hid (KeepK n₀ Bd W wr))
    (fun i _ => (intOf i + 1).toNat)
  case atStart => exact ⟨0, Nat.zero_le _, by simp, h0, ⟨Below.refl _ _, rfl⟩⟩
  case round =>
    obtain ⟨k, hk, rfl, hJs, hnx⟩ := hrel
    clear hcd
    by_cases hlt : k < m
    · obtain ⟨v, hv⟩ : ∃ v : Nat, k + 1 + v = m := ⟨m - 1 - k, by omega⟩
      have hv2 : (m : Int) - 1 - (k : Int) = (v : Int) := by omega
      have hvm : (v : Int) < (m : Int) := by omega
      have hv0 : (0 : Int) ≤ (v : Int) := by omega
      obtain ⟨x, hX⟩ : ∃ x, xs[v]? = some x := ⟨_, List.getElem?_eq_getElem (by have := hm.out; omega)⟩
      have hYk := hY _ k wr hJs ⟨rfl, hlt⟩
      rw [hmk.out k v x hv hX] at hYk
      obtain ⟨fn, tmps, assign, body, hy, hR⟩ := hYk
      have hbd1 : Boxed wr Bd 23 (.slice A m c) := hnx.out.2.trans HBd.out
      have hc1 := hbd1.cell
      obtain ⟨b, off, rfl, hbB, hcells⟩ := (HI.out.below hnx.out.1 (Nat.le_refl _)) (by have := hm.out; omega)
      have hc0 := hcells v x hX
      rw [hv2]
      clear hbd1 hcells hX hbB hJs
      gi_wp2
      refine hR.mono ?_
      rintro e W3 (⟨rfl, hJ3, hk3⟩ | ⟨rfl, hJx3⟩)
      · have hk4 : Hid (KeepK n₀ Bd W W3) := hnx.out.t hk3
        have hv3 : (v : Int) - 1 = (m : Int) - 1 - ((k + 1 : Nat) : Int) := by omega
        clear hk3 hy hc1 hc0
        gi_wp2
        go_roundw
        case rel => exact ⟨k + 1, by omega, by go_num, by rw [List.range_succ]; exact hJ3, hk4⟩
        case measure => simp [intOf]; omega
      · gi_wp2
        refine bodyPost_ret (results_none rfl _ _ _) rfl ?_
        exact ⟨⟨_, rfl⟩, .inr ⟨_, trivial, hJx3⟩⟩
    · obtain rfl : k = m := by omega
      have hv2 : (k : Int) - 1 - (k : Int) = -1 := by omega
      rw [hv2]
      gi_wp2
      go_end0
      exact ⟨⟨_, rfl⟩, .inl ⟨_, rfl, hJs⟩⟩

set_option maxHeartbeats 1000000 in
/-- slices.Backward: the argument is boxed; the function value captures the box -/
theorem backIn (n : Nat) (A : Option Addr) (m c : Nat) (w : World) :
    CallsIn Fence.wide n Try.prog 119 #[.slice A m c] w fun e w' => e = .returned (.func (.func 157) #[] #[.pointer (some ⟨w.heap.size, 0, none⟩)]) ∧
      w' = w.alloc (.cells #[.slice A m c] 23) := by
  refine callsIn_of_wp Try.func119 rfl trivial ?_ rfl
  simp only [Try.ntmps119, List.size_toArray, List.length_cons, List.length_nil, Nat.reduceAdd, Nat.reduceSub, Array.replicate_succ, Array.replicate_zero, List.push_toArray, List.append_toArray, List.nil_append, List.cons_append]
  gi_wp2
  go_ret
  exact ⟨rfl, rfl⟩

/-- what a range over a slice from its end gives: all elements, in order, or a beginning where a round has said 'no more' -/
theorem back_rows (encs : Nat → Array Value) (n : Nat) (hn : 1 ≤ n) (Bd n₀ : Nat) (A : Option Addr) (xs : List Int) (c : Nat) (hx : xs.length ≤ 1000)
    (hmk : ∀ k v (x : Int), k + 1 + v = xs.length → xs[v]? = some x → encs k = #[.int .i64 (v : Int), .int .i64 x]) (w : World) (hBd : Boxed w Bd 23 (.slice A xs.length c)) (hI : Ints w n₀ A xs) (hn0 : n₀ ≤ w.heap.size) :
    SeqRows Fence.wide n Try.prog 157 #[.pointer (some ⟨Bd, 0, none⟩)] encs (fun pre x _ => pre = List.range x ∧ x < xs.length) (KeepK n₀ Bd)
      (fun ys => ys = List.range xs.length) (fun _ => True) w := fun l J Jx W hW _ _ hY h0 =>
  back1 encs n hn l Bd n₀ A xs c hx hmk J Jx hY W ((hW.block Bd hBd.lt).trans hBd) (hI.below hW hn0) (Nat.le_trans hn0 hW.size) h0
end Go.Proofs.Ytbdmmeoelagdcaa

/- nextDegrees: the next tree in a row of its own, or nil (a range over a slice from its end, with a return in it). -/
namespace Go.Proofs.Ytbdmmeoelagdcaa
open Go.RowKit Go.Shelf Go.Maps
attribute [local go_sem] Oper.semAt_some

theorem keepsOthers_be {W W' : World} (h : Below W.heap.size W W') : KeepsOthers W W' := ⟨h.size, fun k _ hk _ => (h.block k (Array.getElem?_eq_some_iff.1 hk).1).trans hk⟩
theorem keepK_turn {n₀ Bd D : Nat} (hn : n₀ ≤ D) (hB : Bd < D) (W : World) (o o' : Obj) (h : W.heap[D + 1]? = some o) : KeepK n₀ Bd W (W.putObj (D + 1) o') := by
  have hl := (Array.getElem?_eq_some_iff.1 h).1
  exact ⟨(Below.refl n₀ W).grown (grownBy_putObj' W (D + 1) o') (by omega) (fun k e => by injection e with e; omega), (grownBy_putObj' W (D + 1) o').block Bd (by omega) (fun e => by injection e with e; omega)⟩

/-- what nextDegrees hands back -/
def IsNext (w : World) (B : Nat) (xs : List Int) (e : Ending) (w' : World) : Prop :=
  match M.nextF 1 xs with
  | some ys => ∃ g c', e = .returned (.slice (some ⟨g, 0, none⟩) ys.length c') ∧ Own64 w' B (.slice (some ⟨g, 0, none⟩) ys.length c') ys ∧ Below B w w'
  | none => e = .returned (.slice none 0 0) ∧ Below B w w'

set_option maxRecDepth 100000 in
set_option maxHeartbeats 8000000 in
theorem nextDegrees_in (A : Option Addr) (xs : List Int) (c : Nat) (w : World) (ht : Hid (M.isTree xs = true)) (hcl : xs.length ≤ c) (hcu : c ≤ 9223372036854775807) (hI : Hid (Ints w w.heap.size A xs)) :
    CallsIn Fence.wide 5 Try.prog 142 #[.slice A xs.length c] w fun e w' => IsNext w w.heap.size xs e w' := by
  obtain ⟨i0, hi0, hz0, hz1, hz2⟩ := info_parts info64
  have hx := (M.tree_len ht.out).2
  have hx1 := (M.tree_len ht.out).1
  obtain ⟨b, off, rfl, _⟩ := hI.out (by omega)
  refine callsIn_of_wp_marks Try.func142 rfl trivial ?_ rfl
  simp only [Try.ntmps142, List.size_toArray, List.length_cons, List.length_nil, Nat.reduceAdd, Nat.reduceSub, Array.replicate_succ, Array.replicate_zero, List.push_toArray, List.append_toArray, List.nil_append, List.cons_append]
  gi_wp2_with (refine ⟨trivial, ?_⟩; gi_at_call 119; refine (backIn 4 (some ⟨b, off, none⟩) xs.length c _).mono ?_; rintro e w' ⟨rfl, rfl⟩)
  have bG0 := Boxed.new w 23 (.slice (some ⟨b, off, none⟩) xs.length c)
  have bR0 := Boxed.new (w.alloc (.cells #[.slice (some ⟨b, off, none⟩) xs.length c] 23)) 23 (.slice none 0 0)
  have bM0 := Boxed.new ((w.alloc (.cells #[.slice (some ⟨b, off, none⟩) xs.length c] 23)).alloc (.cells #[.slice none 0 0] 23)) 2 (.int .i64 0)
  have bD0 := Boxed.new (((w.alloc (.cells #[.slice (some ⟨b, off, none⟩) xs.length c] 23)).alloc (.cells #[.slice none 0 0] 23)).alloc (.cells #[.int .i64 0] 2)) 23 (.slice (some ⟨b, off, none⟩) xs.length c)
  simp only [World.size_alloc] at bR0 bM0 bD0
  have bG := ((bG0.alloc (.cells #[.slice none 0 0] 23)).alloc (.cells #[.int .i64 0] 2)).alloc (.cells #[.slice (some ⟨b, off, none⟩) xs.length c] 23)
  have bR := (bR0.alloc (.cells #[.int .i64 0] 2)).alloc (.cells #[.slice (some ⟨b, off, none⟩) xs.length c] 23)
  have bM := bM0.alloc (.cells #[.slice (some ⟨b, off, none⟩) xs.length c] 23)
  have hB0 := bal (bal (bal (bal (b0 w) (.cells #[.slice (some ⟨b, off, none⟩) xs.length c] 23)) (.cells #[.slice none 0 0] 23)) (.cells #[.int .i64 0] 2)) (.cells #[.slice (some ⟨b, off, none⟩) xs.length c] 23)
  obtain ⟨W0, hW0⟩ : ∃ W0, W0 = ((((w.alloc (.cells #[.slice (some ⟨b, off, none⟩) xs.length c] 23)).alloc (.cells #[.slice none 0 0] 23)).alloc (.cells #[.int .i64 0] 2)).alloc (.cells #[.slice (some ⟨b, off, none⟩) xs.length c] 23)) := ⟨_, rfl⟩
  have hsz : W0.heap.size = w.heap.size + 1 + 1 + 1 + 1 := by rw [hW0]; simp
  rw [← hW0] at bG bR bM bD0 hB0 ⊢
  clear hW0 bG0 bR0 bM0
  have h15 : 1 ≤ 5 := by omega
  have hend := M.next_end (xs := xs)
  have hdue := M.due_end_N ht.out
  refine wpIn_rangeRows rfl h15 (gf := 157) (lb := #[.pointer (some ⟨w.heap.size + 1 + 1 + 1, 0, none⟩)]) rfl trivial (enters_of Try.func157 (by kernel_rfl) rfl)
    (back_rows (fun k => #[.int .i64 ((xs.length - 1 - k : Nat) : Int), .int .i64 (xs[xs.length - 1 - k]?.getD 0)]) 4 (by omega) (w.heap.size + 1 + 1 + 1) w.heap.size (some ⟨b, off, none⟩) xs c (by omega) (fun k v x hk hv => by rw [show xs.length - 1 - k = v by omega, hv]; rfl) W0 bD0 (hI.out.below hB0 (Nat.le_refl _)) (by omega)) (Below.refl _ _) (fun h k => h.t k)
    (fun W r r' h => by rw [hsz] at h ⊢; exact keepK_turn (by omega) (by omega) W (.loop r) (.loop r') h) (fun _ => rfl)
    (fun pre W => (∃ m : Nat, Boxed W (w.heap.size + 1 + 1) 2 (.int .i64 (m : Int)) ∧ (pre = List.range pre.length → pre.length ≤ xs.length → m = M.dueN xs (xs.length - pre.length) ∧ M.nextF (M.dueN xs (xs.length - pre.length)) (xs.drop (xs.length - pre.length)) = none)) ∧
      Boxed W w.heap.size 23 (.slice (some ⟨b, off, none⟩) xs.length c) ∧ Boxed W (w.heap.size + 1) 23 (.slice none 0 0) ∧ Boxed W (w.heap.size + 1 + 1 + 1) 23 (.slice (some ⟨b, off, none⟩) xs.length c) ∧ Below w.heap.size w W)
    (fun cc _ W => cc = .ret ∧ ∃ ys g c', M.nextF 1 xs = some ys ∧ Boxed W (w.heap.size + 1) 23 (.slice (some ⟨g, 0, none⟩) ys.length c') ∧ Own64 W (w.heap.size + 1 + 1) (.slice (some ⟨g, 0, none⟩) ys.length c') ys ∧ Below w.heap.size w W)
    (fun pre X Y r' ⟨⟨m, h1, h2⟩, h3, h4, h5, h6⟩ hg hr =>
      ⟨⟨m, h1.kept hg (fun e => by have := (hr _ e.symm).1; omega), h2⟩, h3.kept hg (fun e => by have := (hr _ e.symm).1; omega), h4.kept hg (fun e => by have := (hr _ e.symm).1; omega), h5.kept hg (fun e => by have := (hr _ e.symm).1; omega), h6.grown hg h6.size (fun k e => by have := (hr _ e).1; omega)⟩)
    (fun cc pre X Y r' ⟨h1, ys, g, c', h2, h3, h4, h5⟩ hg hr => ⟨h1, ys, g, c', h2, h3.kept hg (fun e => by have := (hr _ e.symm).1; omega), row_kept h4 hg hr, h5.grown hg h5.size (fun k e => by have := (hr _ e).1; omega)⟩)
    (fun _ _ _ _ h _ _ => h)
    ⟨⟨0, bM, fun _ _ => ⟨by simp [hdue], by simpa using hend⟩⟩, bG, bR, bD0, hB0⟩
    (fun x => { tmps := #[.slice (some ⟨b, off, none⟩) xs.length c, .pointer (some ⟨w.heap.size, 0, none⟩), .pointer (some ⟨w.heap.size + 1, 0, none⟩), .pointer (some ⟨w.heap.size + 1 + 1, 0, none⟩), .int .i64 ((xs.length - 1 - x : Nat) : Int), .int .i64 (xs[xs.length - 1 - x]?.getD 0), undef, undef, .slice (some ⟨b, off, none⟩) xs.length c, .func (.func 157) #[] #[.pointer (some ⟨w.heap.size + 1 + 1 + 1, 0, none⟩)], .int .i64 ((xs.length - 1 - x : Nat) : Int), .int .i64 (xs[xs.length - 1 - x]?.getD 0), undef, undef, undef, undef, undef, undef, undef, undef, undef, undef, undef, undef, undef, undef, undef, undef, undef, undef, undef, undef, undef, undef, undef, undef, undef], defers := [] }) ?assign ?body ?done ?stop
  case assign =>
    intro l x W K hK
    gi_wp2
    exact hK
  case body =>
    rintro l pre x W ⟨⟨m, h1, h2⟩, h3, h4, h5, h6⟩ ⟨hpre, hlt⟩
    subst hpre
    obtain ⟨hm, hnone⟩ := h2 (by simp) (by simp; omega)
    rw [List.length_range] at hm hnone
    obtain ⟨v, hv⟩ : ∃ v, v + 1 + x = xs.length := ⟨xs.length - 1 - x, by omega⟩
    obtain ⟨d, hd, hd24⟩ := M.tree_degN ht.out (v := v) (by omega)
    rw [show xs.length - x = v + 1 by omega] at hm hnone
    have hmle := M.due_left ht.out (v := v + 1)
    have hdv := M.dueN_succ ht.out hd
    have hdp := M.dueN_pos ht.out (v := v) (by omega)
    rw [show xs.length - 1 - x = v by omega, hd, Option.getD_some]
    have hWsz := h6.size
    have hleft : (xs.length : Int) - 1 - (v : Int) = (x : Int) := by omega
    have c1 := h1.cell
    have c3 := h3.cell
    by_cases hmx : m < x
    · have hmx2 : (m : Int) < (x : Int) := by omega
      have hhit := M.next_hit ht.out hd hnone (by omega)
      rw [show xs.length - 1 - v = x by omega, ← hm] at hhit
      have Hhit := Lib.hid hhit
      have hvc : (v : Int) ≤ (c : Int) := by omega
      have hv0 : (0 : Int) ≤ (v : Int) := by omega
      obtain ⟨T, hT⟩ : ∃ T, Hid (xs.take v = T) := ⟨_, rfl⟩
      have hTl : Hid (T.length = v) := by show _ = _; rw [← hT.out, List.length_take]; omega
      have hIT : Hid (Ints W W.heap.size (some ⟨b, off, none⟩) T) := by
        have := ints_sub ((hI.out.below h6 (Nat.le_refl _)).more hWsz) 0 v
        rw [← hT.out]
        simpa [Hid] using this
      have HCl := Lib.hid (clone ⟨b, off, none⟩ T v c W hTl (by omega) hIT)
      have HAF : Hid (∀ (A : Option Addr) (n c' : Nat) (zs : List Int) (W' : World), n ≤ 1000 → Hid (Own64 W' W.heap.size (.slice A n c') zs) → W.heap.size ≤ W'.heap.size → Calls Try.prog 141 #[.slice A n c', .int .i64 (x : Int), .int .i64 ((m : Int) + 1)] W' fun e w' => ∃ A' c'', e = .returned (.slice A' (n + x) c'') ∧ Own64 w' W.heap.size (.slice A' (n + x) c'') (zs ++ M.firstL x (m + 1)) ∧ Below W.heap.size W' w') := fun A n c' zs W' hn ho hB => by
        have := appendFirst A n c' zs x (m + 1) W' W.heap.size (by omega) (by omega) (by omega) (by omega) hn ho hB
        rw [show ((m + 1 : Nat) : Int) = (m : Int) + 1 by omega] at this
        exact this
      clear hhit hmle hdv hdp hnone h2 hm hIT
      gi_wp2_with (first | (refine ⟨trivial, ?_⟩; gi_at_call 164; refine (CallsIn.inRound l (callsIn_wide.2 HCl.out)).mono ?_; rintro e W1 ⟨A1, c1', rfl, ho1, hb1⟩; have zb1 := hb1.size; have hT1 := hTl.out) | (gi_at_builtin; refine wpListIn_append_own _ rfl _ _ 23 rfl W.heap.size 2 i0 (.int .i64 0) 1 8 Try.underlying23 hi0 hz0 hz1 hz2 rfl (by decide) _ _ _ rfl (ho1.alloc _) ⟨W1.heap.size, 0, none⟩ 1 1 [.int .i64 ((d : Int) + 1)] rfl rfl (cell_one_new _ _ _) (by simp [Value.oneCell']) (by unfold maxLen; omega) (by omega) (by simp; omega) ?_; intro v' W2 hown2 hg2 _; obtain ⟨g2, c2, rfl⟩ := ownsRow_succ hown2; have hb2 : Hid (Below W.heap.size W W2) := (hb1.alloc zb1 _).grown hg2 (by simp; omega) (fun k e => (World.ownsRow.lt ho1 k e).1); have zb2 := hb2.out.size; have cM2 := (show Boxed W2 (w.heap.size + 1 + 1) 2 (.int .i64 (m : Int)) from (hb2.out.block _ h1.lt).trans h1).cell; have ho2 : Hid (Own64 W2 W.heap.size (.slice (some ⟨g2, 0, none⟩) (v + 1) c2) (T ++ [(d : Int) + 1])) := (by show Own64 _ _ _ _; unfold Own64; rw [List.length_append, List.map_append, hTl.out]; rw [hTl.out] at hown2; exact hown2)) | (refine ⟨trivial, ?_⟩; gi_at_call 141; refine (CallsIn.inRound l (callsIn_wide.2 (HAF.out _ _ _ _ _ (by omega) ho2 zb2))).mono ?_; rintro e W3 ⟨A3, c3, rfl, ho3, hb3⟩; have hb4 : Hid (Below W.heap.size W W3) := hb2.out.trans hb3; have bR3 : Hid (Boxed W3 (w.heap.size + 1) 23 (.slice none 0 0)) := (hb4.out.block _ h4.lt).trans h4; have cR3 := bR3.out.cell; have fR3 := bR3.out.frozen))
      have hys : Hid ((T ++ [(d : Int) + 1] ++ M.firstL x (m + 1)).length = xs.length) := by show _ = _; rw [List.length_append, List.length_append, hTl.out, M.firstL_len]; exact hv
      have z1 := h1.lt
      rw [hv] at ho3
      obtain ⟨g3, rfl⟩ : ∃ g, A3 = some ⟨g, 0, none⟩ := by
        rcases ho3.2 with ⟨h0, _⟩ | ⟨g, cap, cur, hvv, _⟩
        · injection h0 with _ e _; omega
        · injection hvv with e1; exact ⟨g, e1⟩
      have hN : M.nextF 1 xs = some (T ++ [(d : Int) + 1] ++ M.firstL x (m + 1)) := by rw [← hT.out]; exact Hhit.out
      refine ⟨((keepsOthers_be hb4.out).trans (KeepsOthers.setCell _ _ _)).from _, rfl, _, g3, c3, hN, ?_, ?_, ?_⟩
      · rw [hys.out]; exact bR3.out.set _
      · rw [hys.out]; exact own_mono (own_far ho3 (by omega) _) (by omega)
      · exact h6.trans (below_setCell (hb4.out.mono hWsz) (by omega) _)
    · have hmx2 : ¬ (m : Int) < (x : Int) := by omega
      have hmiss := Lib.hid (M.next_miss ht.out hd hnone (by omega))
      obtain ⟨m', hm'⟩ : ∃ m', M.dueN xs v = m' := ⟨_, rfl⟩
      have hmm : (m : Int) + (1 - (d : Int)) = (m' : Int) := by omega
      have hm24 : (m' : Int) ≤ 24 := by have := M.due_left ht.out (v := v); omega
      have hwr : IntKind.i64.wrap (m' : Int) = (m' : Int) := IntWalk.i64_in _ (by omega)
      have f1 := h1.frozen
      have HM := Lib.hid hm'
      clear hmle hdv hdp hnone h2 hm hm'
      gi_wp2
      try rw [IntWalk.wrap64_in _ (by omega)]
      have k1 : Below w.heap.size W (W.setCell ⟨w.heap.size + 1 + 1, 0, none⟩ (.int .i64 (m' : Int))) := below_setCell (Below.refl _ _) (by omega) _
      have k5 : Boxed (W.setCell ⟨w.heap.size + 1 + 1, 0, none⟩ (.int .i64 (m' : Int))) (w.heap.size + 1 + 1 + 1) 23 (.slice (some ⟨b, off, none⟩) xs.length c) := h5.other (by omega) _
      refine ⟨(KeepsOthers.setCell W _ _).from _, ⟨k1, k5.trans (show W.heap[_]? = _ from h5).symm⟩, ⟨m', h1.set _, fun _ _ => ?_⟩, h3.other (by omega) _, h4.other (by omega) _, k5, h6.trans k1⟩
      rw [List.length_append, List.length_range, List.length_singleton, show xs.length - (x + 1) = v by omega]
      exact ⟨HM.out.symm, hmiss.out⟩
  case done =>
    rintro D ys W hD rfl ⟨⟨m, h1, h2⟩, h3, h4, h5, h6⟩ hK
    have hn : Hid (M.nextF 1 xs = none) := by
      have := (h2 (by simp) (by simp)).2
      simp only [List.length_range, Nat.sub_self, List.drop_zero] at this
      rw [M.dueN_zero] at this
      exact this
    have c1 := h4.cell
    have f1 := h4.frozen
    have HK := Lib.hid hK
    have H6 := Lib.hid h6
    have H4 := Lib.hid h4
    clear h1 h2 h3 h4 h5 h6 hK
    gi_wp2
    have hne : D ≠ w.heap.size + 1 := by omega
    have hKD : (W.setCell ⟨w.heap.size + 1, 0, none⟩ (.slice none 0 0)).heap[D]? = some (.deferred (some [])) := (Below.heap_setCell W ⟨w.heap.size + 1, 0, none⟩ (.slice none 0 0) D hne).trans HK.out
    have hR := ((H4.out.set (.slice none 0 0)).kept (grownBy_putObj' _ D (.deferred none)) (fun e => by injection e with e; omega)).cell
    refine ⟨by simp, .inl ⟨_, _, rfl, run_takeDeferred hKD, ?_⟩⟩
    refine ⟨.slice none 0 0, by simp [results, Try.results142, go_sem, hR], ?_⟩
    unfold IsNext
    rw [hn.out]
    exact ⟨rfl, (below_setCell H6.out (by omega) _).trans (belowK_b (w := w) (Nat.le_refl _) _ D _ _ (by omega) hKD rfl rfl)⟩
  case stop =>
    rintro D cc pre W hD _ ⟨rfl, ys, g, c', h2, h3, h4, h5⟩ hK
    have c1 := h3.cell
    gi_wp2
    have hR := (h3.kept (grownBy_putObj' W D (.deferred none)) (fun e => by injection e with e; omega)).cell
    refine ⟨by simp, .inl ⟨_, _, rfl, run_takeDeferred hK, ?_⟩⟩
    refine ⟨.slice (some ⟨g, 0, none⟩) ys.length c', by simp [results, Try.results142, go_sem, hR], ?_⟩
    unfold IsNext
    rw [h2]
    exact ⟨g, c', rfl, own_mono (ownsRow_putObj h4 _ hK rfl) (by omega), h5.trans (belowK_b (w := w) (Nat.le_refl _) W D _ _ (by omega) hK rfl rfl)⟩

theorem nextDegrees (A : Option Addr) (xs : List Int) (c : Nat) (w : World) (ht : Hid (M.isTree xs = true)) (hcl : xs.length ≤ c) (hcu : c ≤ 9223372036854775807) (hI : Hid (Ints w w.heap.size A xs)) :
    Calls Try.prog 142 #[.slice A xs.length c] w fun e w' => IsNext w w.heap.size xs e w' :=
  (callsIn_wide (n := 5)).1 (nextDegrees_in A xs c w ht hcl hcu hI)
end Go.Proofs.Ytbdmmeoelagdcaa

/- treesBehind: the iterator over the trees behind one; each comes in a row of its own. -/
namespace Go.Proofs.Ytbdmmeoelagdcaa
open Go.RowKit Go.Shelf Go.Maps
attribute [local go_sem] Oper.semAt_some

namespace M
/-- the k-th tree behind xs -/
def tafter (xs : List Int) : Nat → Option (List Int)
  | 0 => nextF 1 xs
  | k + 1 => (tafter xs k).bind (nextF 1)
theorem tafter_ok {xs : List Int} (ht : isTree xs = true) : ∀ (k : Nat) (ys : List Int), tafter xs k = some ys → isTree ys = true ∧ ys.length = xs.length ∧ rk 1 ys = rk 1 xs + k + 1 := by
  intro k
  induction k with
  | zero =>
    intro ys h
    have h1 := next_tree ht h
    have h2 := next_rk xs 1 (tree_len ht).2 (tree_go ht)
    rw [show nextF 1 xs = some ys from h] at h2
    exact ⟨h1.1, h1.2, h2.2.2⟩
  | succ k ih =>
    intro ys h
    simp only [tafter] at h
    cases hz : tafter xs k with
    | none => rw [hz] at h; cases h
    | some zs =>
      rw [hz] at h
      obtain ⟨i1, i2, i3⟩ := ih zs hz
      have h0 : nextF 1 zs = some ys := h
      have h1 := next_tree i1 h0
      have h2 := next_rk zs 1 (tree_len i1).2 (tree_go i1)
      rw [h0] at h2
      exact ⟨h1.1, h1.2.trans i2, by rw [h2.2.2, i3]; omega⟩
theorem tafter_lt {xs ys : List Int} (ht : isTree xs = true) {k : Nat} (h : tafter xs k = some ys) : rk 1 xs + k + 1 < L xs.length 1 := by
  obtain ⟨h1, h2, h3⟩ := tafter_ok ht k ys h
  have := rk_lt ys 1 (tree_go h1)
  rw [h2, h3] at this
  exact this
theorem tafter_succ {xs ys : List Int} {k : Nat} (h : tafter xs k = some ys) : tafter xs (k + 1) = nextF 1 ys := by simp [tafter, h]
end M

/-- what a round of a loop over the trees behind one must keep: the rows of numbers -/
def KeepRows (W W' : World) : Prop := W.heap.size ≤ W'.heap.size ∧ ∀ (j : Nat) (cur : Array Value), W.heap[j]? = some (.cells cur 2 (0, 0)) → W'.heap[j]? = some (.cells cur 2 (0, 0))
theorem KeepRows.t {A B C : World} (h : KeepRows A B) (k : KeepRows B C) : KeepRows A C := ⟨Nat.le_trans h.1 k.1, fun j cur e => k.2 j cur (h.2 j cur e)⟩
theorem KeepRows.own {W W' : World} (h : KeepRows W W') {B : Nat} {v : Value} {zs : List Int} (ho : Own64 W B v zs) : Own64 W' B v zs := by
  refine ⟨ho.1, ?_⟩
  rcases ho.2 with h1 | ⟨g, cap, cur, h1, h2, h3, h4⟩
  · exact .inl h1
  · exact .inr ⟨g, cap, cur, h1, h2, h.2 g cur h3, h4⟩

theorem keepRows_turn {W : World} {l : Nat} {r r' : Loop} (h : W.heap[l]? = some (.loop r)) : KeepRows W (W.putObj l (.loop r')) :=
  ⟨(grownBy_putObj' W l _).size, fun j cur hj => ((grownBy_putObj' W l _).block j (Array.getElem?_eq_some_iff.1 hj).1 (fun e => by
    injection e with e
    subst e
    rw [hj] at h
    cases h)).trans hj⟩

/-- the numbers of a row in memory -/
def rowOf (W : World) : Value → List Int
  | .slice (some a) m _ => (List.range m).map fun j => match W.cell? ⟨a.block, j, none⟩ with
    | some v => intOf v
    | none => 0
  | _ => []
theorem rowOf_own {W : World} {B g n c : Nat} {zs : List Int} (h : Own64 W B (.slice (some ⟨g, 0, none⟩) n c) zs) : rowOf W (.slice (some ⟨g, 0, none⟩) n c) = zs := by
  have hn := own64_len h
  subst hn
  apply List.ext_getElem?
  intro j
  simp only [rowOf, List.getElem?_map]
  by_cases hj : j < zs.length
  · have hz : zs[j]? = some zs[j] := List.getElem?_eq_getElem hj
    obtain ⟨h1, _⟩ := own64_cell h rfl hz
    rw [List.getElem?_range hj, hz]
    simp only [Option.map_some, h1, intOf]
  · rw [List.getElem?_eq_none (by simp; omega), List.getElem?_eq_none (by omega)]
    rfl
/-- how many trees are still to come, for the loop's end -/
def leftOf (n : Nat) (W : World) (q : Value) : Nat := match q with
  | .slice (some _) _ _ => M.L n 1 - M.rk 1 (rowOf W q)
  | _ => 0

/-- what is told of an element -/
def RowC (xs : List Int) (B : Nat) (pre : List Value) (x : Value) (W : World) : Prop :=
  ∃ (ys : List Int) (g c' : Nat), M.tafter xs pre.length = some ys ∧ x = .slice (some ⟨g, 0, none⟩) ys.length c' ∧ c' ≤ 9223372036854775807 ∧ Own64 W B x ys ∧ ∀ y ∈ pre, y.ownBlock ≠ some g

theorem RowC.from (xs : List Int) (B D : Nat) : OwnFrom D (fun (s : List Value × Value) W => RowC xs B s.1 s.2 W) := fun _ _ _ _ ⟨ys, g, c', h1, h2, h3, h4, h5⟩ hg hr => ⟨ys, g, c', h1, h2, h3, row_kept h4 hg hr, h5⟩

/-- where the iterator stands: the tree at hand, or nothing -/
def AtTree (xs : List Int) (B : Nat) (pre : List Value) (q : Value) (W : World) : Prop :=
  match M.tafter xs pre.length with
  | some _ => RowC xs B pre q W
  | none => q = .slice none 0 0

theorem at_next {xs ys : List Int} {B : Nat} {pre : List Value} {W W' : World} {e : Ending} (hB : B ≤ W.heap.size) (h : IsNext W W.heap.size ys e W') (ha : M.tafter xs pre.length = M.nextF 1 ys) (hp : ∀ y ∈ pre, ∀ g, y.ownBlock = some g → g < W.heap.size) :
    ∃ q, e = .returned q ∧ AtTree xs B pre q W' ∧ Below W.heap.size W W' := by
  unfold IsNext at h
  cases hn : M.nextF 1 ys with
  | none =>
    rw [hn] at h
    exact ⟨_, h.1, by unfold AtTree; rw [ha, hn], h.2⟩
  | some zs =>
    rw [hn] at h
    obtain ⟨g, c', h1, h2, h3⟩ := h
    refine ⟨_, h1, ?_, h3⟩
    unfold AtTree
    rw [ha, hn]
    have hc : c' ≤ 9223372036854775807 := by
      rcases h2.2 with ⟨h0, _⟩ | ⟨g', cap, cur, hv, _, _, _, h5, _⟩
      · cases h0
      · injection hv with _ _ e3
        subst e3
        unfold maxLen at h5
        omega
    refine ⟨zs, g, c', ha.trans hn, rfl, hc, own_mono h2 hB, fun y hy e' => ?_⟩
    have h6 := hp y hy g e'
    have h7 := (World.ownsRow.lt h2 g rfl).1
    omega

theorem own_cap' {w : World} {B n c : Nat} {A : Option Addr} {zs : List Int} (h : Own64 w B (.slice A n c) zs) : n ≤ c := by
  rcases h.2 with ⟨e, _⟩ | ⟨g, cap, cur, hv, _, _, h4, _⟩
  · injection e with e1 e2 e3; omega
  · injection hv with e1 e2 e3; omega

theorem grown_of_below {W W' : World} (h : Below W.heap.size W W') : W.grownBy W' none := ⟨h.os, h.tape, h.output, h.size, fun k hk _ => h.block k hk⟩

theorem at_left {xs : List Int} {B : Nat} {pre : List Value} {x q : Value} {W W' : World} (ht : M.isTree xs = true) (h : RowC xs B pre x W) (h' : AtTree xs B (pre ++ [x]) q W') : leftOf xs.length W' q < leftOf xs.length W x := by
  obtain ⟨ys, g, c', h1, rfl, _, h4, _⟩ := h
  obtain ⟨k1, k2, k3⟩ := M.tafter_ok ht _ ys h1
  have k4 := M.tafter_lt ht h1
  have e1 : leftOf xs.length W (.slice (some ⟨g, 0, none⟩) ys.length c') = M.L xs.length 1 - M.rk 1 ys := by simp only [leftOf, rowOf_own h4]
  rw [e1]
  unfold AtTree at h'
  rw [List.length_append, List.length_singleton] at h'
  cases hn : M.tafter xs (pre.length + 1) with
  | none =>
    rw [hn] at h'
    simp only at h'
    rw [h']
    show 0 < _
    omega
  | some zs =>
    rw [hn] at h'
    obtain ⟨zs', g', c2, j1, rfl, _, j4, _⟩ := h'
    rw [List.length_append, List.length_singleton] at j1
    obtain ⟨i1, i2, i3⟩ := M.tafter_ok ht _ zs' j1
    have i4 := M.tafter_lt ht j1
    have e2 : leftOf xs.length W' (.slice (some ⟨g', 0, none⟩) zs'.length c2) = M.L xs.length 1 - M.rk 1 zs' := by simp only [leftOf, rowOf_own j4]
    rw [e2]
    omega

end Go.Proofs.Ytbdmmeoelagdcaa

/- treesAvoiding: the iterator over the trees in which a pattern matches nowhere; each comes in a row of its own. -/
namespace Go.Proofs.Ytbdmmeoelagdcaa
open Go.RowKit Go.Shelf Go.Maps
attribute [local go_sem] Oper.semAt_some

/-- how many of the first k trees of n nodes a pattern matches nowhere in -/
def cntA (P : List UInt8) (n k : Nat) : Nat := (((M.suff n 1).take k).filter (av P)).length
theorem cntA_zero (P : List UInt8) (n : Nat) : cntA P n 0 = 0 := by simp [cntA]
theorem cntA_hit {P : List UInt8} {n k : Nat} (hk : k < M.L n 1) (h : av P (M.unrank n 1 k) = true) : cntA P n (k + 1) = cntA P n k + 1 := by
  rw [cntA, cntA, List.take_add_one, M.suff_at hk, List.filter_append, List.length_append]
  show _ + (List.filter (av P) [M.unrank n 1 k]).length = _
  simp [h]
theorem cntA_miss {P : List UInt8} {n k : Nat} (hk : k < M.L n 1) (h : av P (M.unrank n 1 k) = false) : cntA P n (k + 1) = cntA P n k := by
  rw [cntA, cntA, List.take_add_one, M.suff_at hk, List.filter_append, List.length_append]
  show _ + (List.filter (av P) [M.unrank n 1 k]).length = _
  simp [h]
theorem cntA_end {p : ByteArray} {n k : Nat} (hk : M.L n 1 ≤ k) : cntA p.data.toList n k = (avs n p).length := by
  rw [cntA, List.take_of_length_le (by rw [M.suff_len]; exact hk)]; rfl
theorem avs_at {p : ByteArray} {n k : Nat} (hk : k < M.L n 1) (h : av p.data.toList (M.unrank n 1 k) = true) : (avs n p)[cntA p.data.toList n k]? = some (M.unrank n 1 k) := by
  have h1 := List.take_append_drop k (M.suff n 1)
  have h2 : (M.suff n 1).drop k = M.unrank n 1 k :: (M.suff n 1).drop (k + 1) := by
    rw [List.drop_eq_getElem_cons (by rw [M.suff_len]; exact hk)]
    congr 1
    have := M.suff_at hk
    rw [List.getElem?_eq_getElem (by rw [M.suff_len]; exact hk)] at this
    injection this
  rw [avs, ← h1, List.filter_append, h2, List.filter_cons_of_pos h, cntA, List.getElem?_append_right (Nat.le_refl _), Nat.sub_self]
  rfl

/-- what a round of a loop over those trees must keep: the rows of numbers from block B on, and the pattern's box -/
def KeepB (B : Nat) (W W' : World) : Prop := W.heap.size ≤ W'.heap.size ∧ ∀ (j : Nat) (cur : Array Value), B ≤ j → W.heap[j]? = some (.cells cur 2 (0, 0)) → W'.heap[j]? = some (.cells cur 2 (0, 0))
theorem KeepB.t {B : Nat} {X Y Z : World} (h : KeepB B X Y) (k : KeepB B Y Z) : KeepB B X Z := ⟨Nat.le_trans h.1 k.1, fun j cur hj e => k.2 j cur hj (h.2 j cur hj e)⟩
theorem KeepB.own {B : Nat} {W W' : World} (h : KeepB B W W') {v : Value} {zs : List Int} (ho : Own64 W B v zs) : Own64 W' B v zs := by
  refine ⟨ho.1, ?_⟩
  rcases ho.2 with h1 | ⟨g, cap, cur, h1, h2, h3, h4⟩
  · exact .inl h1
  · exact .inr ⟨g, cap, cur, h1, h2, h.2 g cur h2 h3, h4⟩
def KeepA (B Bp : Nat) (p : ByteArray) (W W' : World) : Prop := KeepB B W W' ∧ (Boxed W Bp 9 (.string p) → Boxed W' Bp 9 (.string p))
theorem KeepA.t {B Bp : Nat} {p : ByteArray} {X Y Z : World} (h : KeepA B Bp p X Y) (k : KeepA B Bp p Y Z) : KeepA B Bp p X Z := ⟨h.1.t k.1, fun b => k.2 (h.2 b)⟩
theorem keepA_turn {B Bp : Nat} {p : ByteArray} {W : World} {l : Nat} {r r' : Loop} (h : W.heap[l]? = some (.loop r)) : KeepA B Bp p W (W.putObj l (.loop r')) := ⟨⟨(keepRows_turn h).1, fun j cur _ e => (keepRows_turn h).2 j cur e⟩, fun b => b.kept (grownBy_putObj' W l _) (fun e => by
  injection e with e
  subst e
  unfold Boxed at b
  rw [h] at b
  cases b)⟩
/-- what is told of an element -/
def RowA (n : Nat) (p : ByteArray) (B : Nat) (pre : List Value) (x : Value) (W : World) : Prop :=
  ∃ k g c', k < M.L n 1 ∧ av p.data.toList (M.unrank n 1 k) = true ∧ pre.length = cntA p.data.toList n k ∧ x = .slice (some ⟨g, 0, none⟩) n c' ∧ c' ≤ 9223372036854775807 ∧ Own64 W B x (M.unrank n 1 k) ∧ ∀ y ∈ pre, y.ownBlock ≠ some g
theorem RowA.from (n : Nat) (p : ByteArray) (B D : Nat) : OwnFrom D (fun (s : List Value × Value) W => RowA n p B s.1 s.2 W) := fun _ _ _ _ ⟨k, g, c', h1, h2, h3, h4, h5, h6, h7⟩ hg hr => ⟨k, g, c', h1, h2, h3, h4, h5, row_kept h6 hg hr, h7⟩
/-- where the iterator stands -/
def AtA (n B k : Nat) (pre : List Value) (q : Value) (W : World) : Prop :=
  if k < M.L n 1 then ∃ g c', q = .slice (some ⟨g, 0, none⟩) n c' ∧ c' ≤ 9223372036854775807 ∧ Own64 W B q (M.unrank n 1 k) ∧ ∀ y ∈ pre, y.ownBlock ≠ some g else q = .slice none 0 0
theorem own_max' {w : World} {B n c : Nat} {A : Option Addr} {zs : List Int} (h : Own64 w B (.slice A n c) zs) : c ≤ 9223372036854775807 := by
  rcases h.2 with ⟨e, _⟩ | ⟨g, cap, cur, hv, _, _, _, h5, _⟩
  · injection e with e1 e2 e3; omega
  · injection hv with e1 e2 e3
    subst e3
    unfold maxLen at h5
    omega
theorem at_A {n B k : Nat} {pre : List Value} {W W' : World} {e : Ending} (hn1 : 1 ≤ n) (hn : n ≤ 24) (hk : k < M.L n 1) (hB : B ≤ W.heap.size) (h : IsNext W W.heap.size (M.unrank n 1 k) e W') (hp : ∀ y ∈ pre, ∀ g, y.ownBlock = some g → g < W.heap.size) :
    ∃ q, e = .returned q ∧ AtA n B (k + 1) pre q W' ∧ Below W.heap.size W W' := by
  unfold IsNext at h
  rw [M.unrank_next hn1 hn hk] at h
  unfold AtA
  by_cases h1 : k + 1 < M.L n 1
  · rw [if_pos h1] at h
    obtain ⟨g, c', rfl, ho, hb⟩ := h
    rw [M.unrank_len] at ho
    refine ⟨_, by rw [M.unrank_len], ?_, hb⟩
    rw [if_pos h1]
    exact ⟨g, c', rfl, own_max' ho, own_mono ho hB, fun y hy e => by
      have h6 := hp y hy g e
      have h7 := (World.ownsRow.lt ho g rfl).1
      omega⟩
  · rw [if_neg h1] at h
    refine ⟨_, h.1, ?_, h.2⟩
    rw [if_neg h1]
theorem left_at {n B k : Nat} {pre : List Value} {q : Value} {W : World} (hn1 : 1 ≤ n) (hn : n ≤ 24) (hk : k < M.L n 1) (h : AtA n B k pre q W) : leftOf n W q = M.L n 1 - k := by
  unfold AtA at h
  rw [if_pos hk] at h
  obtain ⟨g, c', rfl, _, ho, _⟩ := h
  simp only [leftOf, rowOf_own ho, (M.unrank_tree hn1 hn k hk).2]
theorem left_A {n B k : Nat} {pre pre' : List Value} {q q' : Value} {W W' : World} (hn1 : 1 ≤ n) (hn : n ≤ 24) (hk : k < M.L n 1) (h : AtA n B k pre q W) (h' : AtA n B (k + 1) pre' q' W') : leftOf n W' q' < leftOf n W q := by
  rw [left_at hn1 hn hk h]
  by_cases h1 : k + 1 < M.L n 1
  · rw [left_at hn1 hn h1 h']; omega
  · unfold AtA at h'
    rw [if_neg h1] at h'
    subst h'
    show 0 < _
    omega
theorem firstIn (n B : Nat) (W : World) (hn1 : 1 ≤ n) (hn : n ≤ 24) (hB : B ≤ W.heap.size) :
    Calls Try.prog 141 #[.slice none 0 0, .int .i64 (n : Int), .int .i64 1] W fun e W' => ∃ q, e = .returned q ∧ AtA n B 0 [] q W' ∧ Below W.heap.size W W' := by
  refine (appendFirst none 0 0 [] n 1 W W.heap.size hn1 hn (by omega) (by omega) (by omega) (Lib.hid (own64_nil _ _)) (Nat.le_refl _)).mono ?_
  rintro e w' ⟨A', c', rfl, ho, hb⟩
  rw [Nat.zero_add, List.nil_append, ← M.start_unrank hn1] at *
  have hs : ∃ g, A' = some ⟨g, 0, none⟩ := own_some ho (by omega)
  obtain ⟨g, rfl⟩ := hs
  refine ⟨_, rfl, ?_, hb⟩
  unfold AtA
  rw [if_pos (by have := M.L_pos hn1; omega)]
  exact ⟨g, c', rfl, own_max' ho, own_mono ho hB, fun y hy => by cases hy⟩

set_option maxRecDepth 100000 in
set_option maxHeartbeats 4000000 in
theorem avoid1 (nn : Nat) (hnn : 1 ≤ nn) (l Bn Bp B n : Nat) (p : ByteArray) (hn1 : 1 ≤ n) (hn8 : n ≤ 8) (hp : p.size ≤ 60) (J Jx : List Value → World → Prop)
    (hJ : Hid (∀ s X Y, J s X → X.grownBy Y none → J s Y))
    (hY : Hid (∀ pre x W, J pre W → RowA n p B pre x W → YieldAt Fence.wide (nn - 1) Try.prog l #[x] W fun e W' =>
      (e = .returned (.bool true) ∧ J (pre ++ [x]) W' ∧ KeepA B Bp p W W') ∨ (e = .returned (.bool false) ∧ Jx (pre ++ [x]) W')))
    (W : World) (hBn : W.cell? ⟨Bn, 0, none⟩ = some (.int .i64 (n : Int))) (hBp : Hid (Boxed W Bp 9 (.string p))) (hB : B ≤ W.heap.size) (h0 : Hid (J [] W)) :
    CallsIn Fence.wide nn Try.prog 140 #[.func (.yield l) #[] #[], .pointer (some ⟨Bn, 0, none⟩), .pointer (some ⟨Bp, 0, none⟩)] W fun e W' => (∃ u, e = .returned u) ∧
      ((∃ ys, ys.length = (avs n p).length ∧ J ys W') ∨ (∃ pre, True ∧ Jx pre W')) := by
  have HN := Lib.hid (firstIn n B W hn1 (by omega) hB)
  have heq := fun W A m c => run_neq_slice_nil (P := Try.prog) W 23 2 A m c Try.underlying23
  refine callsIn_of_wp Try.func140 rfl trivial ?_ rfl
  simp only [Try.ntmps140, List.size_toArray, List.length_cons, List.length_nil, Nat.reduceAdd, Nat.reduceSub, Array.replicate_succ, Array.replicate_zero, List.push_toArray, List.append_toArray, List.nil_append, List.cons_append]
  gi_wp2_with (refine ⟨trivial, ?_⟩; gi_at_call 141; refine (callsIn_wide.2 HN.out).mono ?_; rintro e W1 ⟨q1, rfl, hq1, hb1⟩)
  have hst : Hid (J [] W1) := hJ.out _ _ _ h0.out (grown_of_below hb1)
  have hbp1 : Hid (Boxed W1 Bp 9 (.string p)) := (hb1.block _ hBp.out.lt).trans hBp.out
  have hz1 := hb1.size
  have Hq1 := Lib.hid hq1
  clear hq1 hb1 h0 HN hBn
  gi_loopw [4] (fun q wr => ∃ (k : Nat) (pre : List Value), k ≤ M.L n 1 ∧ Hid (pre.length = cntA p.data.toList n k) ∧ Hid (J pre wr) ∧ Hid (AtA n B k pre q wr) ∧ Hid (∀ y ∈ pre, ∀ g, y.ownBlock = some g → g < wr.heap.size) ∧ Hid (B ≤ wr.heap.size) ∧ Hid (Boxed wr Bp 9 (.string p)))
    (fun q wr => leftOf n wr q)
  case atStart => exact ⟨0, [], Nat.zero_le _, by rw [cntA_zero]; rfl, hst, Hq1, Lib.hid (fun y hy => by cases hy), Lib.hid (Nat.le_trans hB hz1), hbp1⟩
  case round =>
    obtain ⟨k, pre, hk, hpl, hJp, hat, hbl, hBw, hbx⟩ := hrel
    clear hst Hq1 hbp1 hz1 hBp
    by_cases hkL : k < M.L n 1
    · have hq := hat.out
      unfold AtA at hq
      rw [if_pos hkL] at hq
      obtain ⟨g, c', rfl, hc', ho, hfr⟩ := hq
      have htr := M.unrank_tree hn1 (by omega) k hkL
      have hul := M.unrank_len n 1 k
      have hcap : n ≤ c' := own_cap' ho
      have Ho := Lib.hid ho
      have hcp := hbx.out.cell
      have HM : Hid (Calls Try.prog 76 #[.slice (some ⟨g, 0, none⟩) n c', .string p] wr fun e w' => ∃ A2 m2 c2, e = .returned (.slice A2 m2 c2) ∧ ((m2 : Int) == 0) = av p.data.toList (M.unrank n 1 k) ∧ Hid (Below wr.heap.size wr w')) := by
        have := matchedIn (some ⟨g, 0, none⟩) (M.unrank n 1 k) c' p wr (Lib.hid htr.1) (by rw [hul]; exact hcap) hc' hp (Lib.hid (ints_of_own64 ho))
        rw [hul] at this
        refine this.mono ?_
        rintro e w' ⟨A2, c2, h1, _, h2⟩
        refine ⟨A2, _, c2, h1, ?_, h2⟩
        rw [av, hul]
        generalize (hits p.data.toList (M.unrank n 1 k) n).length = m
        cases m <;> simp <;> omega
      cases hav : av p.data.toList (M.unrank n 1 k)
      · rw [hav] at HM
        have hpl2 : Hid (pre.length = cntA p.data.toList n (k + 1)) := by show _ = _; rw [cntA_miss hkL hav]; exact hpl.out
        clear hav ho hfr
        gi_wp2_with (refine ⟨trivial, ?_⟩; gi_at_call 76; refine (callsIn_wide.2 HM.out).mono ?_; rintro e w2 ⟨A2, m2, c2, rfl, hm2, hb2⟩)
        have hJ2 : Hid (J pre w2) := hJ.out _ _ _ hJp.out (grown_of_below hb2.out)
        have ho2 := Lib.hid (own_be Ho.out hb2.out)
        have hB2 : B ≤ w2.heap.size := Nat.le_trans hBw.out hb2.out.size
        have hbl2 : Hid (∀ y ∈ pre, ∀ g, y.ownBlock = some g → g < w2.heap.size) := fun y hy g e => Nat.lt_of_lt_of_le (hbl.out y hy g e) hb2.out.size
        have hbx2 : Hid (Boxed w2 Bp 9 (.string p)) := (hb2.out.block _ hbx.out.lt).trans hbx.out
        have hN3 : Hid (Calls Try.prog 142 #[.slice (some ⟨g, 0, none⟩) n c'] w2 fun e w' => IsNext w2 w2.heap.size (M.unrank n 1 k) e w') := by
          have := nextDegrees (some ⟨g, 0, none⟩) (M.unrank n 1 k) c' w2 (Lib.hid htr.1) (by rw [hul]; exact hcap) hc' (ints_of_own64 ho2.out)
          rwa [hul] at this
        clear hb2 hcp hJp hbx HM
        refine ⟨fun f h => (by cases h), ?_⟩
        gi_wp2_with (refine ⟨trivial, ?_⟩; gi_at_call 142; refine (callsIn_wide.2 hN3.out).mono ?_; intro e W4 hn4; obtain ⟨q4, rfl, hq4, hb4⟩ := at_A hn1 (by omega) hkL hB2 hn4 hbl2.out)
        have HJ4 := Lib.hid (hJ.out _ _ _ hJ2.out (grown_of_below hb4))
        have Hq4 := Lib.hid hq4
        have Hb4 := Lib.hid hb4
        have hbx4 : Hid (Boxed W4 Bp 9 (.string p)) := (hb4.block _ hbx2.out.lt).trans hbx2.out
        clear hq4 hb4 hn4 hN3
        go_roundw
        case rel => exact ⟨k + 1, pre, hkL, hpl2, HJ4, Hq4, fun y hy g' e' => Nat.lt_of_lt_of_le (hbl2.out y hy g' e') Hb4.out.size, Nat.le_trans hB2 Hb4.out.size, hbx4⟩
        case measure => exact left_A hn1 (by omega) hkL hat.out Hq4.out
      · rw [hav] at HM
        have Hav := Lib.hid hav
        have Hfr := Lib.hid hfr
        clear hav ho hfr
        gi_wp2_with (refine ⟨trivial, ?_⟩; gi_at_call 76; refine (callsIn_wide.2 HM.out).mono ?_; rintro e w2 ⟨A2, m2, c2, rfl, hm2, hb2⟩; have hJ2 := hJ.out _ _ _ hJp.out (grown_of_below hb2.out); have hRow2 : RowA n p B pre (.slice (some ⟨g, 0, none⟩) n c') w2 := ⟨k, g, c', hkL, Hav.out, hpl.out, rfl, hc', own_be Ho.out hb2.out, Hfr.out⟩; obtain ⟨fn, tmps, assign, body, hy, hR⟩ := hY.out pre _ w2 hJ2 hRow2; clear hJ2)
        refine hR.mono ?_
        rintro e W3 (⟨rfl, hJ3, hk3⟩ | ⟨rfl, hJx3⟩)
        · have ho3 : Hid (Own64 W3 B (.slice (some ⟨g, 0, none⟩) n c') (M.unrank n 1 k)) := hk3.1.own (own_be Ho.out hb2.out)
          have HJ3 := Lib.hid hJ3
          have hg2 := (World.ownsRow.lt Ho.out g rfl).2
          have hz3 : w2.heap.size ≤ W3.heap.size := hk3.1.1
          have hz2 := hb2.out.size
          have hbx3 : Hid (Boxed W3 Bp 9 (.string p)) := hk3.2 ((hb2.out.block _ hbx.out.lt).trans hbx.out)
          have hN3 : Hid (Calls Try.prog 142 #[.slice (some ⟨g, 0, none⟩) n c'] W3 fun e w' => IsNext W3 W3.heap.size (M.unrank n 1 k) e w') := by
            have := nextDegrees (some ⟨g, 0, none⟩) (M.unrank n 1 k) c' W3 (Lib.hid htr.1) (by rw [hul]; exact hcap) hc' (ints_of_own64 ho3.out)
            rwa [hul] at this
          have hbl3 : Hid (∀ y ∈ pre ++ [Value.slice (some ⟨g, 0, none⟩) n c'], ∀ g', y.ownBlock = some g' → g' < W3.heap.size) := fun y hy g' e' => by
            rcases List.mem_append.1 hy with h | h
            · have := hbl.out y h g' e'; omega
            · rw [List.mem_singleton.1 h] at e'
              have : g = g' := by injection e'
              omega
          have hB3 : B ≤ W3.heap.size := by have := hBw.out; omega
          have hpl3 : Hid ((pre ++ [Value.slice (some ⟨g, 0, none⟩) n c']).length = cntA p.data.toList n (k + 1)) := by show _ = _; rw [cntA_hit hkL Hav.out, List.length_append, hpl.out]; rfl
          clear hJ3 hk3 hy ho3 hRow2 hm2 hcp hbx
          gi_wp2_with (refine ⟨trivial, ?_⟩; gi_at_call 142; refine (callsIn_wide.2 hN3.out).mono ?_; intro e W4 hn4; obtain ⟨q4, rfl, hq4, hb4⟩ := at_A hn1 (by omega) hkL hB3 hn4 hbl3.out)
          have HJ4 := Lib.hid (hJ.out _ _ _ HJ3.out (grown_of_below hb4))
          have Hq4 := Lib.hid hq4
          have Hb4 := Lib.hid hb4
          have hbx4 : Hid (Boxed W4 Bp 9 (.string p)) := (hb4.block _ hbx3.out.lt).trans hbx3.out
          clear hq4 hb4 hn4 hN3
          go_roundw
          case rel => exact ⟨k + 1, _, hkL, hpl3, HJ4, Hq4, fun y hy g' e' => Nat.lt_of_lt_of_le (hbl3.out y hy g' e') Hb4.out.size, Nat.le_trans hB3 Hb4.out.size, hbx4⟩
          case measure => exact left_A hn1 (by omega) hkL hat.out Hq4.out
        · gi_wp2
          refine bodyPost_ret (results_none rfl _ _ _) rfl ?_
          exact ⟨⟨_, rfl⟩, .inr ⟨_, trivial, hJx3⟩⟩
    · have hq := hat.out
      unfold AtA at hq
      rw [if_neg hkL] at hq
      subst hq
      have hend : Hid (pre.length = (avs n p).length) := by show _ = _; rw [hpl.out, cntA_end (by omega)]
      clear hat
      gi_wp2
      go_end0
      exact ⟨⟨_, rfl⟩, .inl ⟨pre, hend.out, hJp.out⟩⟩

set_option maxHeartbeats 1000000 in
/-- treesAvoiding: the arguments are boxed; the function value captures the boxes -/
theorem avoidIn (nn n : Nat) (p : ByteArray) (w : World) :
    CallsIn Fence.wide nn Try.prog 96 #[.int .i64 (n : Int), .string p] w fun e w' => e = .returned (.func (.func 140) #[] #[.pointer (some ⟨w.heap.size, 0, none⟩), .pointer (some ⟨w.heap.size + 1, 0, none⟩)]) ∧
      w' = (w.alloc (.cells #[.int .i64 (n : Int)] 2)).alloc (.cells #[.string p] 9) := by
  refine callsIn_of_wp Try.func96 rfl trivial ?_ rfl
  simp only [Try.ntmps96, List.size_toArray, List.length_cons, List.length_nil, Nat.reduceAdd, Nat.reduceSub, Array.replicate_succ, Array.replicate_zero, List.push_toArray, List.append_toArray, List.nil_append, List.cons_append]
  gi_wp2
  go_ret
  exact ⟨rfl, rfl⟩

/-- what a range over those trees gives -/
theorem avoid_rows (nn : Nat) (hnn : 1 ≤ nn) (Bn Bp B n : Nat) (p : ByteArray) (hn1 : 1 ≤ n) (hn8 : n ≤ 8) (hp : p.size ≤ 60) (w : World)
    (hBn : Boxed w Bn 2 (.int .i64 (n : Int))) (hBp : Boxed w Bp 9 (.string p)) (hB : B ≤ w.heap.size) :
    SeqRows Fence.wide nn Try.prog 140 #[.pointer (some ⟨Bn, 0, none⟩), .pointer (some ⟨Bp, 0, none⟩)] (fun x => #[x]) (RowA n p B) (KeepA B Bp p) (fun ys => ys.length = (avs n p).length) (fun _ => True) w := fun l J Jx W hW hJ _ hY h0 =>
  avoid1 nn hnn l Bn Bp B n p hn1 hn8 hp J Jx hJ hY W (show Boxed W Bn _ _ from (hW.block Bn hBn.lt).trans hBn).cell (Lib.hid ((hW.block Bp hBp.lt).trans hBp)) (Nat.le_trans hB hW.size) h0
end Go.Proofs.Ytbdmmeoelagdcaa

/- FirstAvoiding, the program's: the first tree in which a pattern matches nowhere. -/
namespace Go.Proofs.Ytbdmmeoelagdcaa
open Go.RowKit Go.Shelf Go.Maps
attribute [local go_sem] Oper.semAt_some

set_option maxRecDepth 100000 in
set_option maxHeartbeats 8000000 in
theorem impl_FirstAvoiding_in (n : Nat) (p : ByteArray) (w : World) (hn1 : 1 ≤ n) (hn8 : n ≤ 8) (hp : p.size ≤ 60) (hC : Hid (codeA (n : Int) (M.isPat p.data.toList) = 0)) :
    CallsIn Fence.wide 5 Try.prog 48 #[.int .i64 (n : Int), .string p] w fun e w' => ∃ A' c', e = .returned (.tuple #[.agg #[.slice A' (firstOf (avs n p)).1.length c'], .int .i64 (firstOf (avs n p)).2]) ∧ Own64 w' w.heap.size (.slice A' (firstOf (avs n p)).1.length c') (firstOf (avs n p)).1 ∧ Below w.heap.size w w' := by
  have bR0 := Boxed.new w 29 (.slice none 0 0)
  have bK0 := Boxed.new (w.alloc (.cells #[.slice none 0 0] 29)) 2 (.int .i64 0)
  simp only [World.size_alloc] at bK0
  have bR := bR0.alloc (.cells #[.int .i64 0] 2)
  have hB0 := bal (bal (b0 w) (.cells #[.slice none 0 0] 29)) (.cells #[.int .i64 0] 2)
  have hc := codeOfAvoiding (n : Int) p ((w.alloc (.cells #[.slice none 0 0] 29)).alloc (.cells #[.int .i64 0] 2)) (by omega)
  rw [hC.out] at hc
  have HC := Lib.hid hc
  have HR := Lib.hid bR
  have HK := Lib.hid bK0
  have HB0 := Lib.hid hB0
  clear bR0 bR bK0 hB0 hc hC
  refine callsIn_of_wp_marks Try.func48 rfl trivial ?_ rfl
  simp only [Try.ntmps48, List.size_toArray, List.length_cons, List.length_nil, Nat.reduceAdd, Nat.reduceSub, Array.replicate_succ, Array.replicate_zero, List.push_toArray, List.append_toArray, List.nil_append, List.cons_append]
  gi_wp2_with (first | (refine ⟨trivial, ?_⟩; gi_at_call 95; refine (callsIn_wide.2 HC.out).mono ?_; rintro e w1 ⟨rfl, hb1⟩) | (refine ⟨trivial, ?_⟩; gi_at_call 96; refine (avoidIn _ n p _).mono ?_; rintro e w' ⟨rfl, rfl⟩))
  have hw1 : w.heap.size + 1 + 1 ≤ w1.heap.size := by have := hb1.out.size; simpa using this
  have bR1 : Boxed w1 w.heap.size 29 (.slice none 0 0) := (hb1.out.block _ HR.out.lt).trans HR.out
  have bK1 : Boxed w1 (w.heap.size + 1) 2 (.int .i64 0) := (hb1.out.block _ HK.out.lt).trans HK.out
  have hB1 : Below w.heap.size w w1 := btr HB0.out hb1.out
  have bN0 := Boxed.new w1 2 (.int .i64 (n : Int))
  have bP := Boxed.new (w1.alloc (.cells #[.int .i64 (n : Int)] 2)) 9 (.string p)
  have bN := bN0.alloc (.cells #[.string p] 9)
  have bR2 := (bR1.alloc (.cells #[.int .i64 (n : Int)] 2)).alloc (.cells #[.string p] 9)
  have bK2 := (bK1.alloc (.cells #[.int .i64 (n : Int)] 2)).alloc (.cells #[.string p] 9)
  have hB2 := bal (bal hB1 (.cells #[.int .i64 (n : Int)] 2)) (.cells #[.string p] 9)
  simp only [World.size_alloc] at bP
  obtain ⟨W0, hW0⟩ : ∃ W0, W0 = (w1.alloc (.cells #[.int .i64 (n : Int)] 2)).alloc (.cells #[.string p] 9) := ⟨_, rfl⟩
  obtain ⟨d, hdd⟩ : ∃ d, w1.heap.size = d := ⟨_, rfl⟩
  have hsz : W0.heap.size = d + 1 + 1 := by rw [hW0, ← hdd]; simp
  rw [← hW0] at bN bP bR2 bK2 hB2 ⊢
  rw [hdd] at bN bP hw1 ⊢
  clear hW0 bR1 bK1 hB1 HC HR HK HB0 bN0 hb1
  have h15 : 1 ≤ 5 := by omega
  refine wpIn_rangeRows (α := Value) rfl h15 (gf := 140) (lb := #[.pointer (some ⟨d, 0, none⟩), .pointer (some ⟨d + 1, 0, none⟩)]) rfl trivial (enters_of Try.func140 (by kernel_rfl) rfl)
    (avoid_rows 4 (by omega) d (d + 1) (d + 1 + 1) n p hn1 hn8 hp W0 bN bP (by omega)) (Below.refl _ _) (fun h k => h.t k)
    (fun W r r' h => keepA_turn h) (fun _ => rfl)
    (fun pre W => pre = [] ∧ Boxed W w.heap.size 29 (.slice none 0 0) ∧ Boxed W (w.heap.size + 1) 2 (.int .i64 0) ∧ Below w.heap.size w W)
    (fun cc _ W => cc = .ret ∧ ∃ ys g c', firstOf (avs n p) = (ys, 0) ∧ ys.length = n ∧ Boxed W w.heap.size 29 (.slice (some ⟨g, 0, none⟩) n c') ∧ Boxed W (w.heap.size + 1) 2 (.int .i64 0) ∧ Own64 W (d + 1 + 1) (.slice (some ⟨g, 0, none⟩) n c') ys ∧ Below w.heap.size w W)
    (fun pre X Y r' ⟨h0, h1, h2, h3⟩ hg hr => ⟨h0, h1.kept hg (fun e => by have := (hr _ e.symm).1; omega), h2.kept hg (fun e => by have := (hr _ e.symm).1; omega), h3.grown hg h3.size (fun k e => by have := (hr _ e).1; omega)⟩)
    (fun cc pre X Y r' ⟨h0, ys, g, c', h1, hl, h2, h3, h4, h5⟩ hg hr => ⟨h0, ys, g, c', h1, hl, h2.kept hg (fun e => by have := (hr _ e.symm).1; omega), h3.kept hg (fun e => by have := (hr _ e.symm).1; omega), row_kept h4 hg hr, h5.grown hg h5.size (fun k e => by have := (hr _ e).1; omega)⟩)
    (RowA.from _ _ _ _)
    ⟨rfl, bR2, bK2, hB2⟩
    (fun x => { tmps := #[.int .i64 (n : Int), .string p, undef, undef, .pointer (some ⟨w.heap.size, 0, none⟩), .pointer (some ⟨w.heap.size + 1, 0, none⟩), .int .i64 0, x, .int .i64 (n : Int), .string p, .int .i64 0, .int .i64 0, .bool false, undef, undef, .int .i64 (n : Int), .string p, .func (.func 140) #[] #[.pointer (some ⟨d, 0, none⟩), .pointer (some ⟨d + 1, 0, none⟩)], x, undef, undef, undef], defers := [] }) ?assign ?body ?done ?stop
  case assign =>
    intro l x W K hK
    gi_wp2
    exact hK
  case body =>
    rintro l pre x W ⟨rfl, h1, h2, h3⟩ ⟨k, g, c', hk, hav, hpl, rfl, _, ho, _⟩
    have hfirst : firstOf (avs n p) = (M.unrank n 1 k, 0) := by
      have := avs_at hk hav
      rw [← hpl] at this
      cases hV : avs n p with
      | nil => rw [hV] at this; cases this
      | cons y V => rw [hV] at this; injection this with this; rw [this]; rfl
    have hul := M.unrank_len n 1 k
    generalize M.unrank n 1 k = ys at *
    have Hf := Lib.hid hfirst
    have c1 := h1.cell
    have f1 := h1.frozen
    have k2 : Boxed (W.setCell ⟨w.heap.size, 0, none⟩ (.slice (some ⟨g, 0, none⟩) n c')) (w.heap.size + 1) 2 (.int .i64 0) := h2.other (by omega) _
    have c2 := k2.cell
    have f2 := k2.frozen
    clear hfirst hk hav hpl
    gi_wp2
    have k1 : Boxed ((W.setCell ⟨w.heap.size, 0, none⟩ (.slice (some ⟨g, 0, none⟩) n c')).setCell ⟨w.heap.size + 1, 0, none⟩ (.int .i64 0)) w.heap.size 29 (.slice (some ⟨g, 0, none⟩) n c') := (h1.set _).other (by omega) _
    exact ⟨((KeepsOthers.setCell W _ _).trans (KeepsOthers.setCell _ _ _)).from _, rfl, ys, g, c', Hf.out, hul, k1, k2.set _, own_far (own_far ho (by omega) _) (by omega) _, below_setCell (below_setCell h3 (by omega) _) (by omega) _⟩
  case done =>
    rintro D ys W hD hys ⟨rfl, h1, h2, h3⟩ hK
    have hf : firstOf (avs n p) = ([], 4) := by
      have : (avs n p).length = 0 := hys.symm
      rw [List.eq_nil_of_length_eq_zero this]; rfl
    have c1 := h1.cell
    have f1 := h1.frozen
    have k2 : Boxed (W.setCell ⟨w.heap.size, 0, none⟩ (.slice none 0 0)) (w.heap.size + 1) 2 (.int .i64 0) := h2.other (by omega) _
    have c2 := k2.cell
    have f2 := k2.frozen
    have HK := Lib.hid hK
    have Hf := Lib.hid hf
    clear hys hK hf
    gi_wp2
    have k1 : Boxed ((W.setCell ⟨w.heap.size, 0, none⟩ (.slice none 0 0)).setCell ⟨w.heap.size + 1, 0, none⟩ (.int .i64 4)) w.heap.size 29 (.slice none 0 0) := (h1.set _).other (by omega) _
    have k3 := k2.set (.int .i64 4)
    have hKD : ((W.setCell ⟨w.heap.size, 0, none⟩ (.slice none 0 0)).setCell ⟨w.heap.size + 1, 0, none⟩ (.int .i64 4)).heap[D]? = some (.deferred (some [])) :=
      (Below.heap_setCell _ ⟨w.heap.size + 1, 0, none⟩ _ D (show D ≠ w.heap.size + 1 by omega)).trans ((Below.heap_setCell W ⟨w.heap.size, 0, none⟩ _ D (show D ≠ w.heap.size by omega)).trans HK.out)
    have e1 := (k1.kept (grownBy_putObj' _ D (.deferred none)) (fun e => by injection e with e; omega)).cell
    have e2 := (k3.kept (grownBy_putObj' _ D (.deferred none)) (fun e => by injection e with e; omega)).cell
    refine ⟨by simp, .inl ⟨_, _, rfl, run_takeDeferred hKD, ?_⟩⟩
    refine ⟨.tuple #[.agg #[.slice none 0 0], .int .i64 4], by simp [results, Try.results48, go_sem, e1, e2], ?_⟩
    rw [Hf.out]
    exact ⟨none, 0, rfl, own64_nil _ _, (below_setCell (below_setCell h3 (by omega) _) (by omega) _).trans (belowK_b (w := w) (Nat.le_refl _) _ D _ _ (by omega) hKD rfl rfl)⟩
  case stop =>
    rintro D cc pre W hD _ ⟨rfl, ys, g, c', h1, hl, h2, h3, h4, h5⟩ hK
    have e1 := (h2.kept (grownBy_putObj' W D (.deferred none)) (fun e => by injection e with e; omega)).cell
    have e2 := (h3.kept (grownBy_putObj' W D (.deferred none)) (fun e => by injection e with e; omega)).cell
    have Hl := Lib.hid hl
    clear hl
    gi_wp2
    refine ⟨by simp, .inl ⟨_, _, rfl, run_takeDeferred hK, ?_⟩⟩
    refine ⟨.tuple #[.agg #[.slice (some ⟨g, 0, none⟩) n c'], .int .i64 0], by simp [results, Try.results48, go_sem, e1, e2], ?_⟩
    rw [h1]
    show ∃ A' c2, _ ∧ Own64 _ _ (.slice A' ys.length c2) ys ∧ _
    rw [Hl.out]
    exact ⟨some ⟨g, 0, none⟩, c', rfl, own_mono (ownsRow_putObj h4 _ hK rfl) (by omega), h5.trans (belowK_b (w := w) (Nat.le_refl _) W D _ _ (by omega) hK rfl rfl)⟩

set_option maxRecDepth 100000 in
set_option maxHeartbeats 2000000 in
theorem impl_FirstAvoiding : GivesNST 48 F_FirstAvoiding := by
  intro n p w hp
  by_cases h0 : codeA n (M.isPat p.data.toList) = 0
  · rw [F_FirstA_yes h0]
    obtain ⟨hpt, h1, h8⟩ := codeA_zero h0
    obtain ⟨m, rfl⟩ := Int.eq_ofNat_of_zero_le (show 0 ≤ n by omega)
    simp only [Int.toNat_natCast]
    exact (callsIn_wide (n := 5)).1 (impl_FirstAvoiding_in m p w (by omega) (by omega) (pat_60 hpt) h0)
  · rw [F_FirstA_no h0]
    have hc := codeOfAvoiding n p ((w.alloc (.cells #[.slice none 0 0] 29)).alloc (.cells #[.int .i64 0] 2)) hp
    generalize codeA n (M.isPat p.data.toList) = r at *
    have hq : (r != 0) = true := by simp [h0]
    have hB0 := Lib.hid (bal (bal (b0 w) (.cells #[.slice none 0 0] 29)) (.cells #[.int .i64 0] 2))
    have bR0 := Boxed.new w 29 (.slice none 0 0)
    have bK0 := Boxed.new (w.alloc (.cells #[.slice none 0 0] 29)) 2 (.int .i64 0)
    simp only [World.size_alloc] at bK0
    have HR := Lib.hid (bR0.alloc (.cells #[.int .i64 0] 2))
    have HK := Lib.hid bK0
    have HC := Lib.hid hc
    clear bR0 bK0 hc h0
    go_enter Try.func48, Try.ntmps48
    go_wp2_with fail
    refine HC.out.mono ?_
    rintro e w1 ⟨rfl, hb⟩
    have bR1 : Boxed w1 w.heap.size 29 (.slice none 0 0) := (hb.out.block _ HR.out.lt).trans HR.out
    have bK1 : Boxed w1 (w.heap.size + 1) 2 (.int .i64 0) := (hb.out.block _ HK.out.lt).trans HK.out
    have B1 := Lib.hid (btr hB0.out hb.out)
    have c1 := bR1.cell
    have f1 := bR1.frozen
    have bK2 : Boxed (w1.setCell ⟨w.heap.size, 0, none⟩ (.slice none 0 0)) (w.heap.size + 1) 2 (.int .i64 0) := bK1.other (by omega) _
    have c2 := bK2.cell
    have f2 := bK2.frozen
    clear hb HC
    go_wp2
    have e1 := ((bR1.set (.slice none 0 0)).other (show w.heap.size ≠ w.heap.size + 1 by omega) (.int .i64 r)).cell
    have e2 := (bK2.set (.int .i64 r)).cell
    refine bodyPost_ret (v := .tuple #[.agg #[.slice none 0 0], .int .i64 r]) (by simp [results, Try.results48, go_sem, e1, e2]) rfl ?_
    exact ⟨none, 0, rfl, own64_nil _ _, below_setCell (below_setCell B1.out (by omega) _) (by omega) _⟩
end Go.Proofs.Ytbdmmeoelagdcaa

/- CountAvoiding, the program's: how many trees a pattern matches nowhere in. -/
namespace Go.Proofs.Ytbdmmeoelagdcaa
open Go.RowKit Go.Shelf Go.Maps
attribute [local go_sem] Oper.semAt_some

set_option maxRecDepth 100000 in
set_option maxHeartbeats 8000000 in
theorem impl_CountAvoiding_in (n : Nat) (p : ByteArray) (w : World) (hn1 : 1 ≤ n) (hn8 : n ≤ 8) (hp : p.size ≤ 60) (hC : Hid (codeA (n : Int) (M.isPat p.data.toList) = 0)) :
    CallsIn Fence.wide 5 Try.prog 46 #[.int .i64 (n : Int), .string p] w fun e w' => e = .returned (.tuple #[.int .i64 ((avs n p).length : Int), .int .i64 0]) ∧ Below w.heap.size w w' := by
  have hc := codeOfAvoiding (n : Int) p w (by omega)
  rw [hC.out] at hc
  have HC := Lib.hid hc
  have hal := avs_len hn8 p
  clear hc hC
  refine callsIn_of_wp_marks Try.func46 rfl trivial ?_ rfl
  simp only [Try.ntmps46, List.size_toArray, List.length_cons, List.length_nil, Nat.reduceAdd, Nat.reduceSub, Array.replicate_succ, Array.replicate_zero, List.push_toArray, List.append_toArray, List.nil_append, List.cons_append]
  gi_wp2_with (first | (refine ⟨trivial, ?_⟩; gi_at_call 95; refine (callsIn_wide.2 HC.out).mono ?_; rintro e w1 ⟨rfl, hb1⟩) | (refine ⟨trivial, ?_⟩; gi_at_call 96; refine (avoidIn _ n p _).mono ?_; rintro e w' ⟨rfl, rfl⟩))
  have hB1 : Below w.heap.size w w1 := hb1.out
  have hw1 : w.heap.size ≤ w1.heap.size := hB1.size
  have bQ0 := Boxed.new w1 2 (.int .i64 0)
  have bN0 := Boxed.new (w1.alloc (.cells #[.int .i64 0] 2)) 2 (.int .i64 (n : Int))
  have bP := Boxed.new ((w1.alloc (.cells #[.int .i64 0] 2)).alloc (.cells #[.int .i64 (n : Int)] 2)) 9 (.string p)
  have bQ := (bQ0.alloc (.cells #[.int .i64 (n : Int)] 2)).alloc (.cells #[.string p] 9)
  have bN := bN0.alloc (.cells #[.string p] 9)
  have hB2 := bal (bal (bal hB1 (.cells #[.int .i64 0] 2)) (.cells #[.int .i64 (n : Int)] 2)) (.cells #[.string p] 9)
  simp only [World.size_alloc] at bP bN
  obtain ⟨W0, hW0⟩ : ∃ W0, W0 = ((w1.alloc (.cells #[.int .i64 0] 2)).alloc (.cells #[.int .i64 (n : Int)] 2)).alloc (.cells #[.string p] 9) := ⟨_, rfl⟩
  obtain ⟨d, hdd⟩ : ∃ d, w1.heap.size = d := ⟨_, rfl⟩
  have hsz : W0.heap.size = d + 1 + 1 + 1 := by rw [hW0, ← hdd]; simp
  rw [← hW0] at bN bP bQ hB2 ⊢
  rw [hdd] at bN bP bQ hw1 ⊢
  clear hW0 hB1 HC bQ0 bN0 hb1
  have h15 : 1 ≤ 5 := by omega
  refine wpIn_rangeRows (α := Value) rfl h15 (gf := 140) (lb := #[.pointer (some ⟨d + 1, 0, none⟩), .pointer (some ⟨d + 1 + 1, 0, none⟩)]) rfl trivial (enters_of Try.func140 (by kernel_rfl) rfl)
    (avoid_rows 4 (by omega) (d + 1) (d + 1 + 1) (d + 1 + 1 + 1) n p hn1 hn8 hp W0 bN bP (by omega)) (Below.refl _ _) (fun h k => h.t k)
    (fun W r r' h => keepA_turn h) (fun _ => rfl)
    (fun pre W => Boxed W d 2 (.int .i64 (pre.length : Int)) ∧ Below w.heap.size w W)
    (fun _ _ _ => False)
    (fun pre X Y r' ⟨h1, h3⟩ hg hr => ⟨h1.kept hg (fun e => by have := (hr _ e.symm).1; omega), h3.grown hg h3.size (fun k e => by have := (hr _ e).1; omega)⟩)
    (fun _ _ _ _ _ hs _ _ => hs)
    (RowA.from _ _ _ _)
    ⟨bQ, hB2⟩
    (fun x => { tmps := #[.int .i64 (n : Int), .string p, undef, undef, .int .i64 0, .int .i64 0, .int .i64 0, .pointer (some ⟨d, 0, none⟩), .int .i64 (n : Int), .string p, .int .i64 0, .int .i64 0, .bool false, undef, .int .i64 (n : Int), .string p, .func (.func 140) #[] #[.pointer (some ⟨d + 1, 0, none⟩), .pointer (some ⟨d + 1 + 1, 0, none⟩)], x, undef, undef, undef], defers := [] }) ?assign ?body ?done ?stop
  case assign =>
    intro l x W K hK
    gi_wp2
    simpa using hK
  case body =>
    rintro l pre x W ⟨h1, h3⟩ ⟨k, g, c', hk, hav, hpl, _, _, _, _⟩
    have hl1 : pre.length ≤ 65536 := by
      have h2 := List.length_filter_le (av p.data.toList) ((M.suff n 1).take k)
      rw [List.length_take, M.suff_len] at h2
      have h4 := M.L_8 (n := n) (t := 1) hn8
      unfold cntA at hpl
      omega
    have e3 : ((pre ++ [x]).length : Int) = (pre.length : Int) + 1 := by simp
    generalize pre.length = m at *
    have c1 := h1.cell
    have f1 := h1.frozen
    have w1' : IntKind.i64.wrap ((m : Int) + 1) = (m : Int) + 1 := IntWalk.i64_in _ (by omega)
    clear hk hav hpl
    gi_wp2
    refine ⟨(KeepsOthers.setCell W _ _).from _, ⟨⟨by simp, fun j cur hj e => (Below.heap_setCell W ⟨d, 0, none⟩ _ j (by show j ≠ d; omega)).trans e⟩, fun b => b.other (by omega) _⟩, ?_, below_setCell h3 (by omega) _⟩
    rw [e3]
    exact h1.set _
  case done =>
    rintro D ys W hD hys ⟨h1, h3⟩ hK
    have c1 := h1.cell
    have HK := Lib.hid hK
    have hl : Hid (ys.length = (avs n p).length) := hys
    clear hys hK
    rw [hl.out] at h1 c1
    gi_wp2
    refine ⟨by simp, .inl ⟨_, _, rfl, run_takeDeferred HK.out, ?_⟩⟩
    refine ⟨.tuple #[.int .i64 ((avs n p).length : Int), .int .i64 0], by simp [results, Try.results46, go_sem], ?_⟩
    exact ⟨rfl, h3.trans (belowK_b (w := w) (Nat.le_refl _) W D _ _ (by omega) HK.out rfl rfl)⟩
  case stop =>
    rintro D cc pre W hD _ h hK
    exact h.elim

set_option maxRecDepth 100000 in
set_option maxHeartbeats 2000000 in
theorem impl_CountAvoiding : GivesNSN 46 F_CountAvoiding := by
  intro n p w hp
  by_cases h0 : codeA n (M.isPat p.data.toList) = 0
  · rw [F_CountA_yes h0]
    obtain ⟨hpt, h1, h8⟩ := codeA_zero h0
    obtain ⟨m, rfl⟩ := Int.eq_ofNat_of_zero_le (show 0 ≤ n by omega)
    simp only [Int.toNat_natCast]
    exact (callsIn_wide (n := 5)).1 (impl_CountAvoiding_in m p w (by omega) (by omega) (pat_60 hpt) h0)
  · rw [F_CountA_no h0]
    have hc := codeOfAvoiding n p w hp
    generalize codeA n (M.isPat p.data.toList) = r at *
    have hq : (r != 0) = true := by simp [h0]
    have HC := Lib.hid hc
    clear hc h0
    go_enter Try.func46, Try.ntmps46
    go_wp2_with fail
    refine HC.out.mono ?_
    rintro e w1 ⟨rfl, hb⟩
    have hB := hb.out
    go_wp2
    go_ret2
    exact ⟨rfl, hB⟩
end Go.Proofs.Ytbdmmeoelagdcaa

/- An argument of type laws.Tree opened: its value, its numbers in memory. -/
namespace Go.Proofs.Ytbdmmeoelagdcaa
open Go.RowKit Go.Joins Go.ChangeShapes Go.WideShapes Go.ChangeAt Go.Deep

theorem own : ownKnob Try.prog.godebug = none := by kernel_rfl
theorem laidOut : laidOutB Try.prog = true := by kernel_rfl
theorem cells64 : Try.prog.cellsOf 2 = 1 := by kernel_rfl
theorem cellsTree : Try.prog.cellsOf 25 = 1 := by kernel_rfl

section
variable {H : Type} {enc : TypeId × Value → H} {P : Program} {w : World} {base : Nat} {spare : Nat → Bool} {held : Bool}
theorem open_agg1 {r : Reach} {b0 : Nat} {t : TypeId} {f0 : Field} {v : Value} {d : DataW H} {p : List MemPlace} (hs : P.underlying t = some (.struct #[f0])) (hone : oneCellFields P #[f0] = true) (hC : P.cellsOf t = 1)
    (hv : Value.okWide P w r b0 t v) (h : DataW.Trod enc P w base spare held t v d p) :
    ∃ (v0 : Value) (y0 : DataW H × List MemPlace) (n : Nat), v = .agg #[v0] ∧ d = .agg [y0.1] ∧ p = y0.2 ∧ DataW.trod enc P w base spare held n f0.type [v0] = some y0 := by
  obtain ⟨cs, rfl, hsz⟩ := okWide_struct hs hv
  obtain ⟨l⟩ := cs
  match l, hsz.trans hC with
  | [c0], _ =>
    obtain ⟨fuel, hf⟩ := h
    obtain ⟨xs, n, _, hx, _, hlen, hg⟩ := DataW.trod_struct hs hf
    obtain ⟨o0, k0⟩ := hone_of hone 0 f0 rfl
    match xs, hlen with
    | [y0], _ =>
      simp only [Prod.mk.injEq] at hx
      exact ⟨c0, y0, n, rfl, by simpa using hx.1, by simpa using hx.2, by simpa [Value.cells, o0, k0] using hg 0 f0 rfl⟩
end

/-- a slice of int64 as read, in this seat's words -/
theorem openInts {H : Type} {enc : TypeId × Value → H} {W : World} {fuel : Nat} {v : Value} {y : DataW H × List MemPlace}
    (h : DataW.trod enc Try.prog W 0 (fun _ => true) true fuel 23 [v] = some y) (hlt : ∀ x ∈ y.2, x.block < W.heap.size) :
    ∃ (A : Option Addr) (c : Nat) (xs : List Int), v = .slice A xs.length c ∧ xs.length ≤ 9223372036854775807 ∧ Ints W W.heap.size A xs ∧ ∀ x ∈ xs, -9223372036854775808 ≤ x ∧ x ≤ 9223372036854775807 := by
  rcases open_ints Try.underlying23 Try.underlying2 cells64 h with ⟨hcs, hx⟩ | ⟨a, len', cap', zs, hcs, _, hl, hm, hz, hx, hcell, hwz⟩
  · obtain rfl : v = .slice none 0 0 := by simpa using hcs
    exact ⟨none, 0, [], rfl, by simp, Ints.nil_ _ _ _, by simp⟩
  · obtain rfl : v = .slice (some a) len' cap' := by simpa using hcs
    simp only [if_true] at hz
    have hlz : len' ≤ zs.length := by omega
    have htl : (zs.take len').length = len' := by simp; omega
    subst hx
    refine ⟨some a, cap', zs.take len', by rw [htl], by rw [htl]; simp only [maxLen] at hm; omega, fun hpos => ?_, fun x hxm => ?_⟩
    · rw [htl] at hpos
      obtain ⟨b, off, spot⟩ := a
      have hspot : spot = none := by simpa [Addr.add] using World.cell?_spot (hcell 0 (by omega))
      subst hspot
      refine ⟨b, off, rfl, hlt (.cell b off) (MemPlace.mem_row.2 ⟨0, by omega, by simp⟩), fun j x hj => ?_⟩
      have hj' : j < zs.length := by
        have := (List.getElem?_eq_some_iff.1 hj).1
        rw [htl] at this
        omega
      have hj2 : zs[j]? = some x := by
        rw [List.getElem?_take] at hj
        split at hj
        · exact hj
        · cases hj
      rw [← add_plain, hcell j hj']
      simp [List.getD, hj2]
    · have := hwz x (List.mem_of_mem_take hxm)
      simpa [Lit.wf, IntKind.min, IntKind.max, IntKind.signed, IntKind.bits] using this

set_option maxRecDepth 100000 in
theorem openTree {H : Type} {enc : TypeId × Value → H} {W : World} {base : Nat} {v : Value} {d : DataW H} {p : List MemPlace} (hv : Value.okWide Try.prog W .any base 25 v)
    (h : DataW.Trod enc Try.prog W 0 (fun _ => true) true 25 v d p) (hlt : ∀ x ∈ p, x.block < W.heap.size) :
    ∃ (A : Option Addr) (c : Nat) (xs : List Int), v = .agg #[.slice A xs.length c] ∧ xs.length ≤ 9223372036854775807 ∧ Ints W W.heap.size A xs ∧ ∀ x ∈ xs, -9223372036854775808 ≤ x ∧ x ≤ 9223372036854775807 := by
  obtain ⟨v0, y0, n, rfl, rfl, rfl, hy⟩ := open_agg1 Try.underlying25 (by kernel_rfl) cellsTree hv h
  obtain ⟨A, c, xs, rfl, h1, h2, h3⟩ := openInts hy hlt
  exact ⟨A, c, xs, rfl, h1, h2, h3⟩
end Go.Proofs.Ytbdmmeoelagdcaa

/- What every row of this seat asks of the whole program, once: three facts on how the cut was made (each takes the kernel near a minute and 9 GB). -/
namespace Go.Proofs.Ytbdmmeoelagdcaa

set_option maxHeartbeats 4000000 in
theorem shut_mayEnter : Try.pinned.checked.prog.mayEnter = true := by kernel_rfl
set_option maxHeartbeats 4000000 in
theorem shut_lifts : (false == Try.pinned.checked.prog.liftsFinal) = true := by kernel_rfl
set_option maxHeartbeats 4000000 in
theorem shut_make : (Try.pinned.checked.prog.make == some .cut) = true := by kernel_rfl
end Go.Proofs.Ytbdmmeoelagdcaa
