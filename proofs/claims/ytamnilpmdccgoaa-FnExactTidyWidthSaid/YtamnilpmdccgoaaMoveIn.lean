/- between and move: a part of a drawing; all its columns increased. -/
import Derived.Test.YtamnilpmdccgoaaTidy
import Derived.Test.YtamnilpmdccgoaaEvenImp
import Derived.StillTailTactics
namespace Go.Proofs.Ytamnilpmdccgoaa
open Go.RowKit

namespace M
theorem bump_zero (l : List Int) (off : Nat) (s : Int) : bump l off 0 s = l := by simp [bump]
theorem bump_len (l : List Int) {off m : Nat} (s : Int) (h : off + m ≤ l.length) : (bump l off m s).length = l.length := by simp [bump]; omega
theorem bump_at {l : List Int} {off k i : Nat} {s x : Int} (hi : off + k ≤ i) (h : l[i]? = some x) : (bump l off k s)[i]? = some x := by
  have hl := (List.getElem?_eq_some_iff.1 h).1
  rw [bump, List.getElem?_append_right (by simp; omega)]
  simp only [List.length_append, List.length_take, List.length_map, List.length_drop]
  rw [show min off l.length = off by omega, show min k (l.length - off) = k by omega, List.getElem?_drop, show off + k + (i - (off + k)) = i by omega]
  exact h
theorem bump_step {l : List Int} {off k : Nat} {s x : Int} (h : l[off + k]? = some x) : (bump l off k s).set (off + k) (x + s) = bump l off (k + 1) s := by
  have hl := (List.getElem?_eq_some_iff.1 h).1
  have hx : l[off + k] = x := (List.getElem?_eq_some_iff.1 h).2
  have e1 : (l.take off ++ ((l.drop off).take k).map (· + s)).length = off + k := by simp; omega
  have e2 : l.drop (off + k) = x :: l.drop (off + (k + 1)) := by rw [drop_at h]; rfl
  have e3 : (l.drop off).take (k + 1) = (l.drop off).take k ++ [x] := by
    rw [List.take_add_one, List.getElem?_drop, h]; rfl
  rw [bump, List.set_append_right _ _ (by omega), e1, Nat.sub_self, e2, List.set_cons_zero, bump, e3, List.map_append]
  simp
theorem bump_mem {l : List Int} {off m : Nat} {s z : Int} (h : z ∈ bump l off m s) : z ∈ l ∨ ∃ x ∈ l, z = x + s := by
  rw [bump] at h
  rcases List.mem_append.1 h with h | h
  · rcases List.mem_append.1 h with h | h
    · exact .inl (List.mem_of_mem_take h)
    · obtain ⟨x, hx, rfl⟩ := List.mem_map.1 h
      exact .inr ⟨x, List.mem_of_mem_drop (List.mem_of_mem_take hx), rfl⟩
  · exact .inl (List.mem_of_mem_drop h)
end M

set_option maxHeartbeats 2000000 in
set_option maxRecDepth 100000 in
theorem between (b off b2 off2 n c n2 c2 p q : Nat) (w : World) (hpq : p < q) (hc : q ≤ c) (hc2 : q ≤ c2) :
    Calls Try.prog 123 #[.agg #[.slice (some ⟨b, off, none⟩) n c, .slice (some ⟨b2, off2, none⟩) n2 c2], .int .i64 (p : Int), .int .i64 (q : Int)] w fun e w' =>
      e = .returned (.agg #[.slice (some ⟨b, off + p, none⟩) (q - p) (q - p), .slice (some ⟨b2, off2 + p, none⟩) (q - p) (q - p)]) ∧ Hid (Below w.heap.size w w') := by
  have hp0 : (0 : Int) ≤ (p : Int) := by omega
  have hpqi : (p : Int) ≤ (q : Int) := by omega
  have hqc : (q : Int) ≤ (c : Int) := by omega
  have hqc2 : (q : Int) ≤ (c2 : Int) := by omega
  have hne : ¬ c = p := by omega
  have hne2 : ¬ c2 = p := by omega
  go_enter Try.func123, Try.ntmps123
  go_wp2
  obtain ⟨X, hX⟩ : ∃ X, X = (w.alloc (.cells #[.slice (some ⟨b, off, none⟩) n c, .slice (some ⟨b2, off2, none⟩) n2 c2] 126)).alloc (.cells #[.slice none 0 0, .slice none 0 0] 126) := ⟨_, rfl⟩
  have d0 : X.cell? ⟨w.heap.size, 0, none⟩ = some (.slice (some ⟨b, off, none⟩) n c) := by rw [hX]; exact cell_al (by simp) _
  have d1 : X.cell? ⟨w.heap.size, 1, none⟩ = some (.slice (some ⟨b2, off2, none⟩) n2 c2) := by rw [hX]; simp [go_sem]
  have hz : X.heap[w.heap.size + 1]? = some (.cells #[.slice none 0 0, .slice none 0 0] 126 (0, 0)) := by
    have := World.alloc_heap_new (w.alloc (.cells #[.slice (some ⟨b, off, none⟩) n c, .slice (some ⟨b2, off2, none⟩) n2 c2] 126)) (.cells #[.slice none 0 0, .slice none 0 0] 126)
    rw [World.size_alloc] at this
    rw [hX]; exact this
  have hB0 : Hid (Below w.heap.size w X) := by rw [hX]; exact bal (bal (b0 w) _) _
  rw [← hX]
  clear hX
  have e0 : X.cell? ⟨w.heap.size + 1, 0, none⟩ = some (.slice none 0 0) := by simp [World.cell?, hz]
  have e1 : X.cell? ⟨w.heap.size + 1, 1, none⟩ = some (.slice none 0 0) := by simp [World.cell?, hz]
  have f0 : X.frozen? ⟨w.heap.size + 1, 0, none⟩ = false := by simp [World.frozen?, hz]
  have f1 : X.frozen? ⟨w.heap.size + 1, 1, none⟩ = false := by simp [World.frozen?, hz]
  have hsub : (q : Int) - (p : Int) = ((q - p : Nat) : Int) := by omega
  clear hz
  go_still_tail 13, (by kernel_rfl)
  go_wp2
  obtain ⟨Y, hY⟩ : ∃ Y, Y = ((X.setCell ⟨w.heap.size + 1, 0, none⟩ (.slice (some ⟨b, off + p, none⟩) (q - p) (q - p))).setCell ⟨w.heap.size + 1, 1, none⟩ (.slice (some ⟨b2, off2 + p, none⟩) (q - p) (q - p))).drew := ⟨_, rfl⟩
  have r1 : Y.cell? ⟨w.heap.size + 1, 1, none⟩ = some (.slice (some ⟨b2, off2 + p, none⟩) (q - p) (q - p)) := by
    rw [hY]
    simp [go_sem, e1]
  have r0 : Y.cell? ⟨w.heap.size + 1, 0, none⟩ = some (.slice (some ⟨b, off + p, none⟩) (q - p) (q - p)) := by
    rw [hY]
    simp [go_sem, e0]
  have hBY : Hid (Below w.heap.size w Y) := by rw [hY]; exact (below_setCell (below_setCell hB0.out (by omega) _) (by omega) _).drew
  rw [← hY]
  clear hY
  refine bodyPost_ret (v := .agg #[.slice (some ⟨b, off + p, none⟩) (q - p) (q - p), .slice (some ⟨b2, off2 + p, none⟩) (q - p) (q - p)]) (by simp [results, Try.results123, go_sem, r0, r1]) rfl ?_
  exact ⟨rfl, hBY⟩

set_option maxHeartbeats 2000000 in
set_option maxRecDepth 100000 in
theorem move (g off n n0 m cm : Nat) (D : Value) (zs : List Int) (s : Int) (B : Nat) (w : World) (hm : off + m ≤ n) (hn : n ≤ 1000) (hzl : Hid (zs.length = n)) (hs0 : -1000 ≤ s) (hs1 : s ≤ 1000) (hz : Hid (∀ x ∈ zs, -1000 ≤ x ∧ x ≤ 1000)) (ho : Hid (Own64 w B (.slice (some ⟨g, 0, none⟩) n n0) zs)) :
    Calls Try.prog 124 #[.agg #[.slice (some ⟨g, off, none⟩) m cm, D], .int .i64 s] w fun e w' => (∃ u, e = .returned u) ∧ Hid (Own64 w' B (.slice (some ⟨g, 0, none⟩) n n0) (M.bump zs off m s)) ∧ Hid (w.grownBy w' (some g)) := by
  have hgl := (World.ownsRow.lt ho.out g rfl).2
  have c0 : Hid ((w.alloc (.cells #[.slice (some ⟨g, off, none⟩) m cm, D] 126)).cell? ⟨w.heap.size, 0, none⟩ = some (.slice (some ⟨g, off, none⟩) m cm)) := by simp [Hid, go_sem]
  have hst : Hid (Own64 (w.alloc (.cells #[.slice (some ⟨g, off, none⟩) m cm, D] 126)) B (.slice (some ⟨g, 0, none⟩) n n0) (M.bump zs off 0 s)) := by rw [M.bump_zero]; exact ho.out.alloc _
  have hg0 : Hid (w.grownBy (w.alloc (.cells #[.slice (some ⟨g, off, none⟩) m cm, D] 126)) (some g)) := World.grownBy_alloc w _ _
  go_enter Try.func124, Try.ntmps124
  go_wp2
  go_loopw [4, 8] (fun _ i wr => ∃ k : Nat, k ≤ m ∧ i = .int .i64 (k : Int) ∧ Hid (wr.cell? ⟨w.heap.size, 0, none⟩ = some (.slice (some ⟨g, off, none⟩) m cm)) ∧ Hid (Own64 wr B (.slice (some ⟨g, 0, none⟩) n n0) (M.bump zs off k s)) ∧ Hid (w.grownBy wr (some g))) (fun _ i _ => m - (intOf i).toNat)
  case atStart => exact ⟨0, Nat.zero_le _, rfl, c0, hst, hg0⟩
  case round =>
    obtain ⟨k, hk, rfl, hc, hok, hg⟩ := hrel
    clear hst hg0 c0
    by_cases hlt : k < m
    · have hlz : off + k < zs.length := by rw [hzl.out]; omega
      obtain ⟨x, hX⟩ : ∃ x, zs[off + k]? = some x := ⟨_, List.getElem?_eq_getElem hlz⟩
      have hxb := hz.out x (List.mem_of_getElem? hX)
      have hb := M.bump_at (l := zs) (off := off) (k := k) (i := off + k) (s := s) (Nat.le_refl _) hX
      have hbl : (M.bump zs off k s).length = n := by rw [M.bump_len zs s (by omega)]; exact hzl.out
      obtain ⟨c1, f1, _, hwr⟩ := own64_cell hok.out hbl hb
      have hset := own64_set hok.out hbl (off + k) (x + s)
      rw [M.bump_step hX] at hset
      have Hset := Lib.hid hset
      have hcc := hc.out
      have hki : (k : Int) < (m : Int) := by omega
      have hk0 : (0 : Int) ≤ (k : Int) := by omega
      have hw1 : IntKind.i64.wrap (x + s) = x + s := IntWalk.i64_in _ (by omega)
      have hc2 : Hid ((wr.setCell ⟨g, off + k, none⟩ (.int .i64 (x + s))).cell? ⟨w.heap.size, 0, none⟩ = some (.slice (some ⟨g, off, none⟩) m cm)) := (World.cell?_setCell_far _ _ _ _ (show g ≠ w.heap.size by omega)).trans hcc
      have hg2 : Hid (w.grownBy (wr.setCell ⟨g, off + k, none⟩ (.int .i64 (x + s))) (some g)) := grown_set hg.out (off + k) _
      clear hX hb hset hc hbl
      go_wp2
      go_roundw
      case rel => exact ⟨k + 1, by omega, by go_num, hc2, Hset, hg2⟩
      case measure => simp [intOf]; omega
    · obtain rfl : k = m := by omega
      go_wp2
      go_end0
      exact ⟨⟨_, rfl⟩, hok, hg⟩
end Go.Proofs.Ytamnilpmdccgoaa
