/- Numbers of growing orders by sizes: the product of the sizes of the nodes that are to come divides the product of 1 to their number. Mathematics, no conditions. -/
import Derived.Test.YtkcldfliiagloaaMgRankOfGrowing2
import Derived.ProofKit
import Derived.SizedLaws
import Derived.Lib.SmallJoins
import Derived.Deep.Slices
import Derived.Deep.Fields
import Derived.JoinedOf
namespace Go.Proofs.Ytkcldfliiagloaa
namespace M
def sumF (f : Nat → Nat) : Nat → Nat
  | 0 => 0
  | k + 1 => sumF f k + f k
theorem sumF_congr {f g : Nat → Nat} : ∀ {k : Nat}, (∀ u, u < k → f u = g u) → sumF f k = sumF g k := by
  intro k
  induction k with
  | zero => intro _; rfl
  | succ k ih => intro h; rw [sumF, sumF, ih (fun u hu => h u (by omega)), h k (by omega)]
theorem sumF_add (f g : Nat → Nat) : ∀ k, sumF (fun u => f u + g u) k = sumF f k + sumF g k := by
  intro k
  induction k with
  | zero => rfl
  | succ k ih => simp only [sumF]; rw [ih]; omega
theorem sumF_one {f : Nat → Nat} {v : Nat} (h : ∀ u, u ≠ v → f u = 0) : ∀ k, sumF f k = if v < k then f v else 0 := by
  intro k
  induction k with
  | zero => rfl
  | succ k ih =>
    rw [sumF, ih]
    by_cases h1 : v < k
    · rw [if_pos h1, if_pos (by omega), h k (by omega)]; omega
    · rw [if_neg h1]
      by_cases h2 : v = k
      · subst h2; rw [if_pos (by omega)]; omega
      · rw [if_neg (by omega), h k (by omega)]
/-- the size of a node's subtree -/
def sz (xs : List Int) (v : Nat) : Nat := span 1 (xs.drop v)
/-- the sizes of the first i children add up -/
theorem kids_sum {xs : List Int} (ht : isTree xs = true) {v d : Nat} (hd : xs[v]? = some (d : Int)) : ∀ i, i ≤ d → sumF (fun u => if ∃ j, j < i ∧ kidAt xs v j = u then sz xs u else 0) xs.length + (v + 1) = kidAt xs v i := by
  intro i
  induction i with
  | zero =>
    intro _
    rw [sumF_congr (g := fun _ => 0) (fun u _ => if_neg (fun ⟨j, h, _⟩ => by omega)), sumF_one (v := 0) (f := fun _ => 0) (fun _ _ => rfl)]
    simp [kidAt]
  | succ i ih =>
    intro hi
    have h1 := ih (by omega)
    have hk := kid_lt ht hd (i := i) (by omega)
    have hs : sumF (fun u => if ∃ j, j < i + 1 ∧ kidAt xs v j = u then sz xs u else 0) xs.length = sumF (fun u => (if ∃ j, j < i ∧ kidAt xs v j = u then sz xs u else 0) + (if u = kidAt xs v i then sz xs u else 0)) xs.length := by
      refine sumF_congr fun u _ => ?_
      by_cases e : u = kidAt xs v i
      · rw [if_pos ⟨i, by omega, e.symm⟩, if_pos e, if_neg]
        · omega
        · rintro ⟨j, hj, h2⟩
          have h3 := kid_le (xs := xs) (v := v) (i := j + 1) (j := i) hj
          have h4 := kid_lt ht hd (i := j) (by omega)
          have h5 := span_pos h4
          simp only [kidAt] at h3
          omega
      · rw [if_neg e]
        by_cases h2 : ∃ j, j < i ∧ kidAt xs v j = u
        · obtain ⟨j, hj, h3⟩ := h2
          rw [if_pos ⟨j, by omega, h3⟩, if_pos ⟨j, hj, h3⟩]; omega
        · rw [if_neg h2, if_neg]
          rintro ⟨j, hj, h3⟩
          rcases Nat.lt_or_ge j i with h4 | h4
          · exact h2 ⟨j, h4, h3⟩
          · obtain rfl : j = i := by omega
            exact e h3.symm
    rw [hs, sumF_add, sumF_one (v := kidAt xs v i) (f := fun u => if u = kidAt xs v i then sz xs u else 0) (fun u hu => if_neg hu), if_pos hk, if_pos rfl]
    simp only [kidAt, sz] at *
    omega
theorem kids_all {xs ps : List Int} (ht : isTree xs = true) (hp : ParsOK xs ps) {v : Nat} (hv : v < xs.length) : sumF (fun u => if parOf ps (u : Int) = (v : Int) then sz xs u else 0) xs.length + 1 = sz xs v := by
  obtain ⟨d, hd, _⟩ := tree_degN ht hv
  have h1 := kids_sum ht hd d (Nat.le_refl _)
  have h2 := kid_end ht hd
  have h3 : sumF (fun u => if parOf ps (u : Int) = (v : Int) then sz xs u else 0) xs.length = sumF (fun u => if ∃ j, j < d ∧ kidAt xs v j = u then sz xs u else 0) xs.length := by
    refine sumF_congr fun u hu => ?_
    have hiff : parOf ps (u : Int) = (v : Int) ↔ ∃ j, j < d ∧ kidAt xs v j = u := by
      constructor
      · intro h
        rcases Nat.eq_zero_or_pos u with e | e
        · subst e
          have := (parents_of ht hp).2.1
          have h0 : parOf ps ((0 : Nat) : Int) = parOf ps 0 := rfl
          omega
        · obtain ⟨q, hq⟩ := kid_has ht e hu
          have h4 := hp.2.2 q u hq
          rw [parOf, Int.toNat_natCast, h4] at h
          simp only [Option.getD_some] at h
          obtain rfl : q = v := by omega
          obtain ⟨d', i, hd', hi, hk⟩ := hq
          rw [hd] at hd'
          injection hd' with hd'
          exact ⟨i, by omega, hk⟩
      · rintro ⟨j, hj, h⟩
        rw [parOf, Int.toNat_natCast, hp.2.2 v u ⟨d, j, hd, hj, h⟩]
        rfl
    by_cases hq : parOf ps (u : Int) = (v : Int)
    · rw [if_pos hq, if_pos (hiff.1 hq)]
    · rw [if_neg hq, if_neg (fun h => hq (hiff.2 h))]
  rw [h3]
  simp only [sz] at *
  omega

/-- the sizes of those that can come next -/
def rdySum (xs ps b : List Int) (k : Nat) : Nat := sumF (fun u => if rdyB ps b u then sz xs u else 0) k
theorem rdySum_step {xs ps b : List Int} (ht : isTree xs = true) (hp : ParsOK xs ps) (hb : Bgn xs.length ps b) {v : Nat} (hv : v < xs.length) (hr : rdyB ps b v = true) : rdySum xs ps (b ++ [(v : Int)]) xs.length + 1 = rdySum xs ps b xs.length := by
  have hpar := parents_of ht hp
  obtain ⟨r1, r2⟩ := of_decide_eq_true hr
  have hk := kids_all ht hp hv
  have key : sumF (fun u => (if rdyB ps (b ++ [(v : Int)]) u then sz xs u else 0) + (if u = v then sz xs u else 0)) xs.length = sumF (fun u => (if rdyB ps b u then sz xs u else 0) + (if parOf ps (u : Int) = (v : Int) then sz xs u else 0)) xs.length := by
    refine sumF_congr fun u hu => ?_
    by_cases e : u = v
    · subst e
      have h1 : rdyB ps (b ++ [(u : Int)]) u = false := decide_eq_false fun h => h.1 (by simp)
      have h2 : ¬ parOf ps (u : Int) = (u : Int) := fun h => by
        rcases Nat.eq_zero_or_pos u with e | e
        · subst e; have := hpar.2.1; have h0 : parOf ps ((0 : Nat) : Int) = parOf ps 0 := rfl; omega
        · have := hpar.2.2 u e hu; omega
      rw [h1, hr, if_pos rfl, if_neg h2]; simp
    · rw [if_neg e]
      have hue : ¬ (u : Int) = (v : Int) := by omega
      by_cases hub : (u : Int) ∈ b
      · have h1 : rdyB ps (b ++ [(v : Int)]) u = false := decide_eq_false fun h => h.1 (by simp [hub])
        have h2 : rdyB ps b u = false := decide_eq_false fun h => h.1 hub
        have h3 : ¬ parOf ps (u : Int) = (v : Int) := fun h => by
          obtain ⟨i, hi⟩ := List.mem_iff_getElem?.1 hub
          rcases hb.2.2 i _ (List.getElem?_eq_some_iff.1 hi).1 hi with h4 | h4
          · omega
          · rw [h] at h4; exact r1 (List.mem_of_mem_take h4)
        rw [h1, h2, if_neg h3]
      · by_cases hq : parOf ps (u : Int) = (v : Int)
        · have h1 : rdyB ps (b ++ [(v : Int)]) u = true := decide_eq_true ⟨by simp [hub, hue], .inr (by rw [hq]; simp)⟩
          have h2 : rdyB ps b u = false := decide_eq_false fun h => by
            rcases h.2 with h4 | h4
            · subst h4; have := hpar.2.1; have h0 : parOf ps ((0 : Nat) : Int) = parOf ps 0 := rfl; omega
            · rw [hq] at h4; exact r1 h4
          rw [h1, h2, if_pos hq]; simp
        · have h1 : rdyB ps (b ++ [(v : Int)]) u = rdyB ps b u := by
            unfold rdyB
            simp only [List.mem_append, List.mem_singleton, hue, hq, or_false]
          rw [h1, if_neg hq]
  rw [sumF_add, sumF_add, sumF_one (v := v) (f := fun u => if u = v then sz xs u else 0) (fun u hu => if_neg hu), if_pos hv, if_pos rfl] at key
  simp only [rdySum]
  omega
theorem rdySum_all {xs ps : List Int} (ht : isTree xs = true) (hp : ParsOK xs ps) : ∀ (m : Nat) (b : List Int), b.length = m → Bgn xs.length ps b → rdySum xs ps b xs.length + b.length = xs.length := by
  have hpar := parents_of ht hp
  have hl := tree_len ht
  intro m
  induction m with
  | zero =>
    intro b hb _
    obtain rfl := List.length_eq_zero_iff.1 hb
    have h1 : rdySum xs ps [] xs.length = sumF (fun u => if u = 0 then sz xs u else 0) xs.length := by
      refine sumF_congr fun u _ => ?_
      have : rdyB ps [] u = decide (u = 0) := by unfold rdyB; simp
      rw [this]
      by_cases e : u = 0
      · simp [e]
      · simp [e]
    rw [h1, sumF_one (v := 0) (f := fun u => if u = 0 then sz xs u else 0) (fun u hu => if_neg hu), if_pos (by omega), if_pos rfl]
    have := fin_root ht
    simp only [fin] at this
    simp only [sz, List.length_nil]
    omega
  | succ m ih =>
    intro b hb hbg
    have hne : b ≠ [] := fun e => by rw [e] at hb; simp at hb
    have hsp := List.dropLast_concat_getLast hne
    generalize b.dropLast = b' at hsp
    generalize b.getLast hne = x at hsp
    subst hsp
    have hb' : b'.length = m := by simpa using hb
    have hbg' : Bgn xs.length ps b' := by have := bgn_take hbg b'.length; rwa [List.take_left'] at this; rfl
    have hx := hbg.2.1 x (by simp)
    obtain ⟨v, rfl⟩ := Int.eq_ofNat_of_zero_le hx.1
    have hv : v < xs.length := by omega
    have hnd := List.nodup_append.1 hbg.1
    have hvb : (v : Int) ∉ b' := fun h => hnd.2.2 _ h _ (by simp) rfl
    have hgr := hbg.2.2 b'.length (v : Int) (by simp) (by simp)
    have hr : rdyB ps b' v = true := by
      refine decide_eq_true ⟨hvb, ?_⟩
      rcases hgr with h | h
      · rcases Nat.eq_zero_or_pos v with e | e
        · exact .inl e
        · have := hpar.2.2 v e hv; omega
      · rw [List.take_left' rfl] at h; exact .inr h
    have h1 := rdySum_step ht hp hbg' hv hr
    have h2 := ih b' hb' hbg'
    rw [List.length_append, List.length_singleton]
    omega

/-- the product of the sizes of the nodes below k that are to come -/
def prodTo (xs b : List Int) : Nat → Nat
  | 0 => 1
  | k + 1 => if (k : Int) ∈ b then prodTo xs b k else prodTo xs b k * sz xs k
theorem prodTo_out {xs b : List Int} {v : Nat} (hvb : (v : Int) ∉ b) : ∀ k, prodTo xs b k = prodTo xs (b ++ [(v : Int)]) k * (if v < k then sz xs v else 1) := by
  intro k
  induction k with
  | zero => rfl
  | succ k ih =>
    rw [prodTo, prodTo, ih]
    by_cases e : k = v
    · subst e
      simp [hvb]
    · have hkv : ¬ (k : Int) = (v : Int) := by omega
      have hm : ((k : Int) ∈ b ++ [(v : Int)]) ↔ (k : Int) ∈ b := by simp [hkv]
      by_cases h : (k : Int) ∈ b
      · rw [if_pos h, if_pos (hm.2 h)]
        by_cases h2 : v < k
        · rw [if_pos h2, if_pos (by omega)]
        · rw [if_neg h2, if_neg (by omega)]
      · rw [if_neg h, if_neg (fun h2 => h (hm.1 h2))]
        by_cases h2 : v < k
        · rw [if_pos h2, if_pos (by omega), Nat.mul_assoc, Nat.mul_comm (sz xs v), Nat.mul_assoc]
        · rw [if_neg h2, if_neg (by omega), Nat.mul_one, Nat.mul_one]
theorem prodTo_done {xs b : List Int} : ∀ k, (∀ v : Nat, v < k → (v : Int) ∈ b) → prodTo xs b k = 1 := by
  intro k
  induction k with
  | zero => intro _; rfl
  | succ k ih => intro h; rw [prodTo, if_pos (h k (by omega)), ih fun v hv => h v (by omega)]
def facN : Nat → Nat
  | 0 => 1
  | k + 1 => (k + 1) * facN k
theorem dvd_rdySum {xs ps b : List Int} {D q m : Nat} (h : ∀ v : Nat, v < q → rdyB ps b v = true → D ∣ sz xs v * facN m) : ∀ k, k ≤ q → D ∣ rdySum xs ps b k * facN m := by
  intro k
  induction k with
  | zero => intro _; simp [rdySum, sumF]
  | succ k ih =>
    intro hk
    have h1 := ih (by omega)
    simp only [rdySum, sumF] at *
    rw [Nat.add_mul]
    refine Nat.dvd_add h1 ?_
    cases hb : rdyB ps b k
    · simp
    · simpa using h k (by omega) hb
/-- the numbers of orders are whole -/
theorem hook_dvd {xs ps : List Int} (ht : isTree xs = true) (hp : ParsOK xs ps) : ∀ (m : Nat) (b : List Int), Bgn xs.length ps b → b.length + m = xs.length → prodTo xs b xs.length ∣ facN m := by
  intro m
  induction m with
  | zero =>
    intro b hb hl
    have hord := bgn_ord hb (by omega)
    rw [prodTo_done _ fun v hv => ord_has hord hv]
    exact Nat.one_dvd _
  | succ m ih =>
    intro b hb hl
    have hs := rdySum_all ht hp b.length b rfl hb
    have h1 : rdySum xs ps b xs.length = m + 1 := by omega
    have h2 := dvd_rdySum (xs := xs) (ps := ps) (b := b) (D := prodTo xs b xs.length) (q := xs.length) (m := m) (fun v hv hr => by
      have hvb := (of_decide_eq_true hr).1
      rw [prodTo_out hvb xs.length, if_pos hv, Nat.mul_comm]
      refine Nat.mul_dvd_mul_left _ (ih (b ++ [(v : Int)]) (bgn_step (parents_of ht hp) hb (mem_rdyTo.2 ⟨v, rfl, hv, hr⟩)) ?_)
      simp only [List.length_append, List.length_singleton]; omega) xs.length (Nat.le_refl _)
    rw [h1] at h2
    exact h2
end M
end Go.Proofs.Ytkcldfliiagloaa

/- slices.Index: the first place of a number. -/
namespace Go.Proofs.Ytkcldfliiagloaa
open Go.RowKit

namespace M
theorem nextOf_mem (l : List Int) (x : Int) : ∀ (m k : Nat), k + m = l.length → decide (0 ≤ nextOf l x k m) = decide (x ∈ l.drop k) := by
  intro m
  induction m with
  | zero => intro k h; rw [List.drop_of_length_le (by omega)]; simp [nextOf]
  | succ m ih =>
    intro k h
    obtain ⟨y, hy⟩ : ∃ y, l[k]? = some y := ⟨_, List.getElem?_eq_getElem (by omega)⟩
    by_cases hyx : y = x
    · subst hyx
      rw [nextOf_hit hy, drop_at hy, decide_eq_true (by omega), decide_eq_true List.mem_cons_self]
    · rw [nextOf_miss hy hyx, ih (k + 1) (by omega), drop_at hy]
      have e : (x ∈ y :: l.drop (k + 1)) = (x ∈ l.drop (k + 1)) := by
        rw [List.mem_cons]
        exact propext ⟨fun h => h.resolve_left (fun e => hyx e.symm), .inr⟩
      simp only [e]
theorem idxOf_mem (l : List Int) (x : Int) : decide (0 ≤ idxOf l x) = decide (x ∈ l) := by
  have := nextOf_mem l x l.length 0 (by omega)
  rw [List.drop_zero] at this
  exact this
end M

set_option maxHeartbeats 1000000 in
theorem indexFirst (A : Option Addr) (gs : List Int) (g c : Nat) (s : Int) (w : World) (hg : Hid (gs.length = g)) (hg' : g ≤ 1048576) (h : Hid (Ints w w.heap.size A gs)) (r : Int) (hr : Hid (M.idxOf gs s = r)) :
    Calls Try.prog 217 #[.slice A g c, .int .i64 s] w fun e w' => e = .returned (.int .i64 r) ∧ w = w' := by
  have h0 : Hid (M.nextOf gs s 0 (g - 0) = r) := by show _ = _; rw [← hr.out, M.idxOf, hg.out]; rfl
  clear hr
  go_enter Try.func217, Try.ntmps217
  go_wp2
  go_loopw [8] (fun i wr => ∃ k : Nat, k ≤ g ∧ i = .int .i64 (k : Int) ∧ w = wr ∧ Hid (M.nextOf gs s k (g - k) = r)) (fun i _ => g - (intOf i).toNat)
  case atStart => exact ⟨0, Nat.zero_le _, rfl, rfl, h0⟩
  case round =>
    obtain ⟨k, hk, rfl, rfl, hn⟩ := hrel
    clear h0
    by_cases hlt : k < g
    · have hki : (k : Int) < (g : Int) := by omega
      have hk0 : (0 : Int) ≤ (k : Int) := by omega
      obtain ⟨b, off, x, rfl, hbB, hc, hX⟩ := h.out.at_ (k := k) (by rw [hg.out]; exact hlt)
      have hm : g - k = g - (k + 1) + 1 := by omega
      by_cases hxs : s = x
      · subst hxs
        have hin : Hid ((k : Int) = r) := by show _ = _; rw [← hn.out, hm, M.nextOf_hit hX.out]
        clear hn hX hm
        go_wp2
        go_ret
        exact ⟨by rw [← hin.out]; rfl, rfl⟩
      · have hb : (s == x) = false := by simpa using hxs
        have hn2 : Hid (M.nextOf gs s (k + 1) (g - (k + 1)) = r) := by show _ = _; rw [← hn.out, hm, M.nextOf_miss hX.out (fun e => hxs e.symm)]
        clear hxs hn hX hm
        go_wp2
        go_roundw
        case rel => exact ⟨k + 1, by omega, by go_num, trivial, hn2⟩
        case measure => simp [intOf]; omega
    · obtain rfl : k = g := by omega
      have hge : ¬ (k : Int) < (k : Int) := by omega
      have hout : Hid (-1 = r) := by show _ = _; rw [← hn.out, Nat.sub_self]; rfl
      clear hn
      go_wp2
      go_ret
      exact ⟨by rw [← hout.out]; rfl, rfl⟩

theorem containsIs (A : Option Addr) (gs : List Int) (g c : Nat) (s : Int) (w : World) (hg : Hid (gs.length = g)) (hg' : g ≤ 1048576) (h : Hid (Ints w w.heap.size A gs)) (b : Bool) (hb : Hid (decide (s ∈ gs) = b)) :
    Calls Try.prog 153 #[.slice A g c, .int .i64 s] w fun e w' => e = .returned (.bool b) ∧ w = w' := by
  obtain ⟨r, hr⟩ : ∃ r, Hid (M.idxOf gs s = r) := ⟨_, rfl⟩
  have hd : decide ((0 : Int) ≤ r) = b := by rw [← hr.out, M.idxOf_mem, hb.out]
  go_enter Try.func153, Try.ntmps153
  go_wp2_with fail
  refine (indexFirst A gs g c s w hg hg' h r hr).mono ?_
  rintro e w' ⟨rfl, rfl⟩
  clear hr hb
  cases b
  · go_wp2
    go_ret
    exact ⟨rfl, rfl⟩
  · go_wp2
    go_ret
    exact ⟨rfl, rfl⟩
end Go.Proofs.Ytkcldfliiagloaa

/- ways: the number of growing orders with a beginning, as the program counts it; factorial. -/
namespace Go.Proofs.Ytkcldfliiagloaa
open Go.RowKit

namespace M
theorem facN_pos : ∀ k, 1 ≤ facN k := by
  intro k
  induction k with
  | zero => exact Nat.le_refl _
  | succ k ih => rw [facN]; exact Nat.le_trans ih (Nat.le_mul_of_pos_left _ (by omega))
theorem facN_mono {a b : Nat} (h : a ≤ b) : facN a ≤ facN b := by
  induction b with
  | zero => obtain rfl : a = 0 := by omega
            exact Nat.le_refl _
  | succ b ih =>
    rcases Nat.lt_or_ge a (b + 1) with h1 | h1
    · rw [facN]; exact Nat.le_trans (ih (by omega)) (Nat.le_mul_of_pos_left _ (by omega))
    · obtain rfl : a = b + 1 := by omega
      exact Nat.le_refl _
theorem facN_20 {k : Nat} (h : k ≤ 20) : facN k ≤ 2432902008176640000 := Nat.le_trans (facN_mono h) (by decide)
theorem prodTo_pos {xs : List Int} (b : List Int) : ∀ k, k ≤ xs.length → 1 ≤ prodTo xs b k := by
  intro k
  induction k with
  | zero => intro _; exact Nat.le_refl _
  | succ k ih =>
    intro hk
    rw [prodTo]
    split
    · exact ih (by omega)
    · exact Nat.mul_pos (ih (by omega)) (span_pos (by omega))
theorem prodTo_mono {xs : List Int} (b : List Int) {k : Nat} : ∀ m, k ≤ m → m ≤ xs.length → prodTo xs b k ≤ prodTo xs b m := by
  intro m
  induction m with
  | zero => intro h _; obtain rfl : k = 0 := by omega
            exact Nat.le_refl _
  | succ m ih =>
    intro h hm
    rcases Nat.lt_or_ge k (m + 1) with h1 | h1
    · refine Nat.le_trans (ih (by omega) (by omega)) ?_
      rw [prodTo]
      split
      · exact Nat.le_refl _
      · exact Nat.le_mul_of_pos_right _ (span_pos (by omega))
    · obtain rfl : k = m + 1 := by omega
      exact Nat.le_refl _
theorem prodTo_le {xs ps b : List Int} (ht : isTree xs = true) (hp : ParsOK xs ps) (hb : Bgn xs.length ps b) (h20 : xs.length ≤ 20) {k : Nat} (hk : k ≤ xs.length) : prodTo xs b k ≤ 2432902008176640000 := by
  have hl := bgn_len hb
  have h1 := Nat.le_of_dvd (facN_pos _) (hook_dvd ht hp (xs.length - b.length) b hb (by omega))
  exact Nat.le_trans (prodTo_mono b xs.length hk (Nat.le_refl _)) (Nat.le_trans h1 (facN_20 (by omega)))
/-- the number of growing orders with a beginning -/
def waysN (xs b : List Int) : Nat := facN (xs.length - b.length) / prodTo xs b xs.length
end M

set_option maxHeartbeats 1000000 in
theorem factorial9 (n : Nat) (w : World) (hn : n ≤ 20) : Calls Try.prog 170 #[.int .i64 (n : Int)] w fun e w' => e = .returned (.int .i64 (M.facN n : Int)) ∧ w = w' := by
  go_enter Try.func170, Try.ntmps170
  go_wp2
  go_loop [3, 4] (fun q i => ∃ (k p : Nat), 1 ≤ k ∧ (k ≤ n ∨ k = 1) ∧ i = .int .i64 ((k : Int) + 1) ∧ q = .int .i64 (p : Int) ∧ Hid (M.facN k = p)) (fun _ i => 40 - (intOf i).toNat)
  case atStart => exact ⟨1, 1, Nat.le_refl _, .inr rfl, rfl, rfl, rfl⟩
  case round =>
    obtain ⟨k, p, hk1, hk, rfl, rfl, hp⟩ := hrel
    by_cases hlt : k < n
    · have hlt2 : (k : Int) + 1 ≤ (n : Int) := by omega
      have hs := M.facN_20 (k := k + 1) (by omega)
      obtain ⟨q, hq⟩ : ∃ q, Hid (M.facN (k + 1) = q) := ⟨_, rfl⟩
      have hqe : (p : Int) * ((k : Int) + 1) = (q : Int) := by rw [← hq.out, M.facN, hp.out, Int.natCast_mul, Int.mul_comm]; rfl
      rw [hq.out] at hs
      go_wp2
      go_round
      case rel => exact ⟨k + 1, q, by omega, .inl (by omega), by go_num, rfl, hq⟩
      case measure => simp [intOf]; omega
    · have hge : ¬ (k : Int) + 1 ≤ (n : Int) := by omega
      have he : Hid (M.facN n = p) := by
        show _ = _
        rw [← hp.out]
        rcases Nat.lt_or_ge n 1 with h1 | h1
        · obtain rfl : n = 0 := by omega
          obtain rfl : k = 1 := by omega
          rfl
        · obtain rfl : k = n := by omega
          rfl
      go_wp2
      go_ret
      exact ⟨by rw [he.out]; rfl, rfl⟩

theorem order_cells9 (w : World) (u v : Value) (t : TypeId) : (w.alloc (.cells #[u, v] t)).cell? ⟨w.heap.size, 0, none⟩ = some u ∧ (w.alloc (.cells #[u, v] t)).cell? ⟨w.heap.size, 1, none⟩ = some v :=
  ⟨by have := World.cell?_alloc_new w #[u, v] t 0; rw [this]; rfl, by have := World.cell?_alloc_new w #[u, v] t 1; rw [this]; rfl⟩

set_option maxHeartbeats 4000000 in
set_option maxRecDepth 100000 in
theorem ways9 (A A2 : Option Addr) (xs b : List Int) (n c L c2 : Nat) (w : World) (hn : Hid (xs.length = n)) (h20 : n ≤ 20) (hc1 : n ≤ c) (hc2 : c ≤ 1000000000000) (ht : Hid (M.isTree xs = true)) (hbg : Hid (M.Bgn n (M.parents xs) b)) (hL : Hid (b.length = L)) (hex : Hid (M.ParsOK xs (M.parents xs))) (h : Hid (Ints w w.heap.size A xs)) (h2 : Hid (Ints w w.heap.size A2 b)) :
    Calls Try.prog 94 #[.agg #[.slice A n c, .slice A2 L c2]] w fun e w' => e = .returned (.int .i64 (M.waysN xs b : Int)) ∧ Below w.heap.size w w' := by
  have hbg' : M.Bgn xs.length (M.parents xs) b := by rw [hn.out]; exact hbg.out
  have hLn : L ≤ n := by rw [← hL.out]; exact M.bgn_len hbg.out
  have hle := Lib.hid (fun k (hk : k ≤ xs.length) => M.prodTo_le ht.out hex.out hbg' (by rw [hn.out]; exact h20) hk)
  obtain ⟨d0, d1⟩ := order_cells9 w (.slice A n c) (.slice A2 L c2) 96
  have hB0 := Lib.hid (bal (b0 w) (.cells #[.slice A n c, .slice A2 L c2] 96))
  have H1 := Lib.hid (h.out.al (.cells #[.slice A n c, .slice A2 L c2] 96))
  have H2 := Lib.hid (h2.out.al (.cells #[.slice A n c, .slice A2 L c2] 96))
  obtain ⟨W, hW⟩ : ∃ W, W = w.alloc (.cells #[.slice A n c, .slice A2 L c2] 96) := ⟨_, rfl⟩
  rw [← hW] at d0 d1 hB0 H1 H2
  have hst : Hid (M.prodTo xs b 0 = 1) := rfl
  have hsz : Hid (∀ (v S : Nat), v < n → M.sz xs v = S → Calls Try.prog 159 #[.slice A n c, .int .i64 (v : Int)] W fun e w' => e = .returned (.int .i64 (S : Int)) ∧ W = w') := fun v S hv hS => by
    have := sizeAt A xs c v S W hS (by rw [hn.out]; omega) (by rw [hn.out]; exact hc1) (by omega) (M.tree_ok ht.out (by rw [hn.out]; exact hv)) H1.out
    rw [hn.out] at this
    exact this.mono fun e w' ⟨he, hw⟩ => ⟨he, hw⟩
  clear h h2 hbg'
  go_enter Try.func94, Try.ntmps94
  go_wp2
  rw [← hW]
  clear hW
  go_loop [4, 5, 11] (fun q _ i => ∃ (k p : Nat), k ≤ n ∧ i = .int .i64 (k : Int) ∧ q = .int .i64 (p : Int) ∧ Hid (M.prodTo xs b k = p)) (fun _ _ i => n - (intOf i).toNat)
  case atStart => exact ⟨0, 1, Nat.zero_le _, rfl, rfl, hst⟩
  case round =>
    obtain ⟨k, p, hk, rfl, rfl, hp⟩ := hrel
    clear hst
    by_cases hlt : k < n
    · have hki : (k : Int) < (n : Int) := by omega
      obtain ⟨q, hq⟩ : ∃ q, Hid (decide ((k : Int) ∈ b) = q) := ⟨_, rfl⟩
      have HC := Lib.hid (containsIs A2 b L c2 (k : Int) W hL (by omega) H2 q hq)
      cases q
      · obtain ⟨S, hS⟩ : ∃ S, Hid (M.sz xs k = S) := ⟨_, rfl⟩
        have hs : Hid (M.prodTo xs b (k + 1) = p * S) := by show _ = _; rw [M.prodTo, if_neg (of_decide_eq_false hq.out), hp.out, hS.out]
        have hbd := hle.out (k + 1) (by rw [hn.out]; omega)
        rw [hs.out] at hbd
        obtain ⟨r, hr⟩ : ∃ r, Hid (p * S = r) := ⟨_, rfl⟩
        rw [hr.out] at hbd hs
        have hmul : (p : Int) * (S : Int) = (r : Int) := by rw [← hr.out, Int.natCast_mul]
        have HS := Lib.hid (hsz.out k S hlt hS.out)
        go_wp2_with fail
        refine HC.out.mono ?_
        rintro e w' ⟨rfl, rfl⟩
        go_wp2_with fail
        refine HS.out.mono ?_
        rintro e w' ⟨rfl, rfl⟩
        go_wp2
        go_round
        case rel => exact ⟨k + 1, r, by omega, by go_num, rfl, hs⟩
        case measure => simp [intOf]; omega
      · have hs : Hid (M.prodTo xs b (k + 1) = p) := by show _ = _; rw [M.prodTo, if_pos (of_decide_eq_true hq.out), hp.out]
        go_wp2_with fail
        refine HC.out.mono ?_
        rintro e w' ⟨rfl, rfl⟩
        go_wp2
        go_round
        case rel => exact ⟨k + 1, p, by omega, by go_num, rfl, hs⟩
        case measure => simp [intOf]; omega
    · obtain rfl : k = n := by omega
      have hge : ¬ (k : Int) < (k : Int) := by omega
      have hwr : IntKind.i64.wrap ((k : Int) - (L : Int)) = ((k - L : Nat) : Int) := by rw [show (k : Int) - (L : Int) = ((k - L : Nat) : Int) by omega]; exact IntWalk.i64_in _ (by omega)
      have HF := Lib.hid (factorial9 (k - L) W (by omega))
      obtain ⟨f, hf⟩ : ∃ f, Hid (M.facN (k - L) = f) := ⟨_, rfl⟩
      rw [hf.out] at HF
      have hf20 : f ≤ 2432902008176640000 := by rw [← hf.out]; exact M.facN_20 (by omega)
      have hp1 : 1 ≤ p := by rw [← hp.out]; exact M.prodTo_pos b k (by rw [hn.out]; exact Nat.le_refl _)
      have hp0 : ¬ (p : Int) = 0 := by omega
      obtain ⟨u, hu⟩ : ∃ u, Hid (f / p = u) := ⟨_, rfl⟩
      have hR : Hid (M.waysN xs b = u) := by show _ = _; rw [M.waysN, hn.out, hL.out, hf.out, hp.out, hu.out]
      have hdl : u ≤ f := by rw [← hu.out]; exact Nat.div_le_self _ _
      have hq : IntKind.i64.wrap ((f : Int).tdiv (p : Int)) = (u : Int) := by
        rw [show (f : Int).tdiv (p : Int) = (u : Int) by rw [← Int.ofNat_tdiv, hu.out]]
        exact IntWalk.i64_in _ (by omega)
      have h9 : (f : Int) / (p : Int) = (u : Int) := by rw [← hu.out]; exact (Int.natCast_ediv f p).symm
      have hq9 : Hid (wrap64 ((f : Int) / (p : Int)) = (u : Int)) := by show _ = _; rw [h9]; exact IntWalk.wrap64_in _ ⟨by omega, by omega⟩
      clear h9 hq
      go_wp2_with fail
      refine HF.out.mono ?_
      rintro e w' ⟨rfl, rfl⟩
      go_wp2
      go_ret
      exact ⟨by rw [hR.out, ← hq9.out]; rfl, hB0.out⟩
end Go.Proofs.Ytkcldfliiagloaa

/- Ranks of growing orders: the numbers of orders that go on with each node add up; what comes ahead of an order; the order with a rank. Mathematics, no conditions. -/
namespace Go.Proofs.Ytkcldfliiagloaa
namespace M
theorem waysN_eq (xs b : List Int) : waysN xs b = facN (xs.length - b.length) / prodTo xs b xs.length := rfl
/-- numbers added up over a row -/
def sumL (f : Int → Nat) : List Int → Nat
  | [] => 0
  | x :: r => f x + sumL f r
theorem sumL_append (f : Int → Nat) (a b : List Int) : sumL f (a ++ b) = sumL f a + sumL f b := by
  induction a with
  | nil => simp [sumL]
  | cons x r ih => simp only [List.cons_append, sumL, ih]; omega
theorem sumL_take {f : Int → Nat} {r : List Int} {j : Nat} {x : Int} (h : r[j]? = some x) : sumL f (r.take (j + 1)) = sumL f (r.take j) + f x := by
  rw [List.take_add_one, h, sumL_append]; rfl
theorem sumL_drop {f : Int → Nat} {r : List Int} {j : Nat} {x : Int} (h : r[j]? = some x) : sumL f (r.drop j) = f x + sumL f (r.drop (j + 1)) := by
  obtain ⟨hlt, e⟩ := List.getElem?_eq_some_iff.1 h
  rw [List.drop_eq_getElem_cons hlt, e]; rfl
theorem sumL_split (f : Int → Nat) (r : List Int) (j : Nat) : sumL f r = sumL f (r.take j) + sumL f (r.drop j) := by
  rw [← sumL_append, List.take_append_drop]
theorem sumL_le {f g : Int → Nat} {r : List Int} (h : ∀ x ∈ r, f x ≤ g x) : sumL f r ≤ sumL g r := by
  induction r with
  | nil => exact Nat.le_refl _
  | cons x r ih =>
    have h1 := h x List.mem_cons_self
    have h2 := ih fun y hy => h y (List.mem_cons_of_mem _ hy)
    simp only [sumL]; omega
theorem sumL_zero {f : Int → Nat} {r : List Int} (h : ∀ x ∈ r, f x = 0) : sumL f r = 0 := by
  induction r with
  | nil => rfl
  | cons x r ih =>
    have h1 := h x List.mem_cons_self
    have h2 := ih fun y hy => h y (List.mem_cons_of_mem _ hy)
    simp only [sumL]; omega
theorem sumL_rdy (f : Int → Nat) (ps b : List Int) (k : Nat) : sumL f (rdyTo ps b k) = sumF (fun u => if rdyB ps b u then f (u : Int) else 0) k := by
  induction k with
  | zero => rfl
  | succ k ih =>
    rw [sumF, ← ih]
    cases h : rdyB ps b k
    · rw [rdyTo_miss h]; simp
    · rw [rdyTo_hit h, sumL_append]; simp [sumL]
/-- the numbers of orders that go on with each node that can come next add up -/
theorem ways_sum {xs ps b : List Int} (ht : isTree xs = true) (hp : ParsOK xs ps) (hb : Bgn xs.length ps b) (hl : b.length < xs.length) : sumL (fun x => waysN xs (b ++ [x])) (rdyTo ps b xs.length) = waysN xs b := by
  obtain ⟨m, hm⟩ : ∃ m, b.length + (m + 1) = xs.length := ⟨xs.length - b.length - 1, by omega⟩
  have hP := prodTo_pos (xs := xs) b xs.length (Nat.le_refl _)
  have hs := rdySum_all ht hp b.length b rfl hb
  have h1 : rdySum xs ps b xs.length = m + 1 := by omega
  have hd := hook_dvd ht hp (m + 1) b hb hm
  have key : ∀ k, k ≤ xs.length → sumF (fun u => if rdyB ps b u then waysN xs (b ++ [(u : Int)]) else 0) k * prodTo xs b xs.length = rdySum xs ps b k * facN m := by
    intro k
    induction k with
    | zero => intro _; simp [sumF, rdySum]
    | succ k ih =>
      intro hk
      have h2 := ih (by omega)
      simp only [rdySum, sumF] at *
      rw [Nat.add_mul, Nat.add_mul, h2]
      congr 1
      cases hr : rdyB ps b k
      · simp
      · have hkb := (of_decide_eq_true hr).1
        have hb2 := bgn_step (parents_of ht hp) hb (mem_rdyTo.2 ⟨k, rfl, by omega, hr⟩)
        have hd2 := hook_dvd ht hp m (b ++ [(k : Int)]) hb2 (by simp only [List.length_append, List.length_singleton]; omega)
        have ho := prodTo_out (xs := xs) hkb xs.length
        rw [if_pos (by omega : k < xs.length)] at ho
        have hlen : xs.length - (b ++ [(k : Int)]).length = m := by simp only [List.length_append, List.length_singleton]; omega
        simp only [if_true]
        rw [waysN_eq, hlen, ho, ← Nat.mul_assoc, Nat.div_mul_cancel hd2, Nat.mul_comm]
  have h3 := key xs.length (Nat.le_refl _)
  rw [h1] at h3
  rw [sumL_rdy]
  have h4 : waysN xs b * prodTo xs b xs.length = (m + 1) * facN m := by
    rw [waysN_eq, show xs.length - b.length = m + 1 by omega, Nat.div_mul_cancel hd]; rfl
  exact Nat.eq_of_mul_eq_mul_right hP (by rw [h3, h4])
theorem ways_le {xs b : List Int} (h20 : xs.length ≤ 20) : waysN xs b ≤ 2432902008176640000 := by
  rw [waysN_eq]
  exact Nat.le_trans (Nat.div_le_self _ _) (facN_20 (by omega))
/-- what a node adds to the rank -/
def gR (xs b : List Int) (v x : Int) : Nat := if x < v then waysN xs (b ++ [x]) else 0
theorem gR_hit {xs b : List Int} {v x : Int} (h : x < v) : gR xs b v x = waysN xs (b ++ [x]) := if_pos h
theorem gR_miss {xs b : List Int} {v x : Int} (h : ¬ x < v) : gR xs b v x = 0 := if_neg h
theorem asc_at9 {r : List Int} (h : r.Pairwise (· < ·)) {i j : Nat} {x y : Int} (hij : i < j) (hx : r[i]? = some x) (hy : r[j]? = some y) : x < y := by
  obtain ⟨h1, h2⟩ := List.getElem?_eq_some_iff.1 hx
  obtain ⟨h3, h4⟩ := List.getElem?_eq_some_iff.1 hy
  have := List.pairwise_iff_getElem.1 h i j h1 h3 hij
  rw [h2, h4] at this
  exact this
theorem gR_stop {xs b r : List Int} {v : Int} {p : Nat} (ha : r.Pairwise (· < ·)) (hv : r[p]? = some v) : sumL (gR xs b v) r = sumL (gR xs b v) (r.take p) := by
  rw [sumL_split _ r p, sumL_zero (r := r.drop p) fun x hx => ?_, Nat.add_zero]
  obtain ⟨i, hi⟩ := List.mem_iff_getElem?.1 hx
  rw [List.getElem?_drop] at hi
  refine gR_miss ?_
  rcases Nat.eq_zero_or_pos i with e | e
  · subst e; rw [Nat.add_zero, hv] at hi; injection hi with hi; omega
  · have := asc_at9 ha (by omega : p < p + i) hv hi; omega
theorem gR_bound {xs b r : List Int} {v : Int} {p : Nat} (ha : r.Pairwise (· < ·)) (hv : r[p]? = some v) : sumL (gR xs b v) r + waysN xs (b ++ [v]) ≤ sumL (fun x => waysN xs (b ++ [x])) r := by
  rw [gR_stop ha hv, sumL_split (fun x => waysN xs (b ++ [x])) r p, sumL_drop hv]
  have : sumL (gR xs b v) (r.take p) ≤ sumL (fun x => waysN xs (b ++ [x])) (r.take p) := sumL_le fun x _ => by
    by_cases h : x < v
    · rw [gR_hit h]; exact Nat.le_refl _
    · rw [gR_miss h]; exact Nat.zero_le _
  omega
/-- the rank, as far as the places below k tell -/
def rkTo (xs ps l : List Int) : Nat → Nat
  | 0 => 0
  | k + 1 => rkTo xs ps l k + sumL (gR xs (l.take k) (l[k]?.getD 0)) (rdyTo ps (l.take k) xs.length)
theorem rkTo_step {xs ps l : List Int} {k : Nat} {v : Int} (hv : l[k]? = some v) : rkTo xs ps l (k + 1) = rkTo xs ps l k + sumL (gR xs (l.take k) v) (rdyTo ps (l.take k) xs.length) := by rw [rkTo, hv, Option.getD_some]
/-- the node at a place of an order can come next there -/
theorem at_rdy {n : Nat} {ps l : List Int} (hp : Parents n ps) (hb : Bgn n ps l) {k : Nat} {v : Int} (hv : l[k]? = some v) : v ∈ rdyTo ps (l.take k) n := by
  have hx := hb.2.1 v (List.mem_of_getElem? hv)
  obtain ⟨u, rfl⟩ := Int.eq_ofNat_of_zero_le hx.1
  refine mem_rdyTo.2 ⟨u, rfl, by omega, decide_eq_true ⟨?_, ?_⟩⟩
  · intro hm
    obtain ⟨i, hi⟩ := List.mem_iff_getElem?.1 hm
    rw [List.getElem?_take] at hi
    split at hi
    · rename_i hik
      have h1 := (List.getElem?_eq_some_iff.1 hi)
      have h2 := (List.getElem?_eq_some_iff.1 hv)
      obtain ⟨a1, a2⟩ := h1
      obtain ⟨b1, b2⟩ := h2
      have := (List.nodup_iff_pairwise_ne.1 hb.1)
      have := List.pairwise_iff_getElem.1 this i k a1 b1 hik
      exact this (a2.trans b2.symm)
    · cases hi
  · have hlt := (List.getElem?_eq_some_iff.1 hv).1
    rcases hb.2.2 k (u : Int) hlt hv with h | h
    · rcases Nat.eq_zero_or_pos u with e | e
      · exact .inl e
      · have := hp.2.2 u e (by omega); omega
    · exact .inr h
theorem rk_bound {xs ps l : List Int} (ht : isTree xs = true) (hp : ParsOK xs ps) (hb : Bgn xs.length ps l) (hl : l.length = xs.length) : ∀ k, k ≤ xs.length → rkTo xs ps l k + waysN xs (l.take k) ≤ waysN xs [] := by
  intro k
  induction k with
  | zero => intro _; simp [rkTo]
  | succ k ih =>
    intro hk
    obtain ⟨v, hv⟩ : ∃ v, l[k]? = some v := ⟨_, List.getElem?_eq_getElem (by omega)⟩
    have h1 := ih (by omega)
    have hm := at_rdy (parents_of ht hp) hb hv
    obtain ⟨p, hpv⟩ := List.mem_iff_getElem?.1 hm
    have h2 := gR_bound (xs := xs) (b := l.take k) (rdyTo_asc ps (l.take k) xs.length) hpv
    rw [ways_sum ht hp (bgn_take hb k) (by rw [List.length_take]; omega)] at h2
    rw [rkTo_step hv, List.take_add_one, hv]
    simp only [Option.toList_some]
    omega
theorem rk_mid {xs ps l : List Int} (ht : isTree xs = true) (hp : ParsOK xs ps) (hb : Bgn xs.length ps l) (hl : l.length = xs.length) {k : Nat} {v : Int} (hv : l[k]? = some v) (j : Nat) : rkTo xs ps l k + sumL (gR xs (l.take k) v) ((rdyTo ps (l.take k) xs.length).take j) ≤ waysN xs [] := by
  have hk : k < xs.length := by have := (List.getElem?_eq_some_iff.1 hv).1; omega
  have h1 := rk_bound ht hp hb hl (k + 1) hk
  rw [rkTo_step hv, sumL_split _ _ j] at h1
  omega
/-- the node with which the order of a rank goes on, and what is left of the rank -/
def pickR (xs b : List Int) : List Int → Nat → Int × Nat
  | [], k => (0, k)
  | x :: r, k => if k < waysN xs (b ++ [x]) then (x, k) else pickR xs b r (k - waysN xs (b ++ [x]))
theorem pickR_hit {xs b r : List Int} {j k : Nat} {x : Int} (h : r[j]? = some x) (hk : k < waysN xs (b ++ [x])) : pickR xs b (r.drop j) k = (x, k) := by
  obtain ⟨hlt, e⟩ := List.getElem?_eq_some_iff.1 h
  rw [List.drop_eq_getElem_cons hlt, e, pickR, if_pos hk]
theorem pickR_miss {xs b r : List Int} {j k : Nat} {x : Int} (h : r[j]? = some x) (hk : ¬ k < waysN xs (b ++ [x])) : pickR xs b (r.drop j) k = pickR xs b (r.drop (j + 1)) (k - waysN xs (b ++ [x])) := by
  obtain ⟨hlt, e⟩ := List.getElem?_eq_some_iff.1 h
  rw [List.drop_eq_getElem_cons hlt, e, pickR, if_neg hk]
/-- the order with a rank -/
def unR (xs ps : List Int) : Nat → List Int → Nat → List Int
  | 0, b, _ => b
  | f + 1, b, k => unR xs ps f (b ++ [(pickR xs b (rdyTo ps b xs.length) k).1]) (pickR xs b (rdyTo ps b xs.length) k).2
theorem unR_len (xs ps : List Int) : ∀ (f : Nat) (b : List Int) (k : Nat), (unR xs ps f b k).length = b.length + f := by
  intro f
  induction f with
  | zero => intro b k; rfl
  | succ f ih => intro b k; rw [unR, ih]; simp only [List.length_append, List.length_singleton]; omega
theorem unR_go {xs ps b : List Int} {k : Nat} {x : Int} {k' : Nat} (hl : b.length < xs.length) (h : pickR xs b (rdyTo ps b xs.length) k = (x, k')) : unR xs ps (xs.length - b.length) b k = unR xs ps (xs.length - (b ++ [x]).length) (b ++ [x]) k' := by
  rw [show xs.length - b.length = (xs.length - (b ++ [x]).length) + 1 by simp only [List.length_append, List.length_singleton]; omega, unR, h]
theorem unR_done {xs ps b : List Int} {k : Nat} (hl : b.length = xs.length) : unR xs ps (xs.length - b.length) b k = b := by rw [hl, Nat.sub_self]; rfl
end M
end Go.Proofs.Ytkcldfliiagloaa

/- with: a beginning with a node at the next place, as a new list. Written by genw9.py. -/
namespace Go.Proofs.Ytkcldfliiagloaa
open Go.RowKit

namespace M
def pair2 (b : List Int) (v : Int) (j : Nat) : List Int := if j = 0 then b else [v]
theorem catTo_pair2 (b : List Int) (v : Int) : catTo (pair2 b v) 2 = b ++ [v] := by simp [catTo, pair2]
end M

theorem own64_one' {w : World} {B : Nat} (hB : B ≤ w.heap.size) (x : Int) : Own64 (w.alloc (.cells #[.int .i64 x] 2)) B (.slice (some ⟨w.heap.size, 0, none⟩) 1 1) [x] := by
  exact ⟨by simp, .inr ⟨w.heap.size, 1, #[.int .i64 x], rfl, hB, World.alloc_heap_new w _, by simp, by simp [maxLen], by simp, by simp⟩⟩

set_option maxHeartbeats 4000000 in
set_option maxRecDepth 100000 in
theorem withNode (A A2 : Option Addr) (b : List Int) (n c L c2 : Nat) (v : Int) (w : World) (hL : Hid (b.length = L)) (h24 : L ≤ 24) (hz2 : Hid (A2 = none → c2 = 0)) (h2 : Hid (Ints w w.heap.size A2 b)) :
    Calls Try.prog 93 #[.agg #[.slice A n c, .slice A2 L c2], .int .i64 v] w fun e w' => ∃ g c', e = .returned (.agg #[.slice A n c, .slice (some ⟨g, 0, none⟩) (L + 1) c']) ∧ Own64 w' w.heap.size (.slice (some ⟨g, 0, none⟩) (L + 1) c') (b ++ [v]) ∧ Below w.heap.size w w' := by
  obtain ⟨d0, d1⟩ := order_cells w (.slice A n c) (.slice A2 L c2) 96
  have hB0 := Lib.hid (bal (bal (b0 w) (.cells #[.slice A n c, .slice A2 L c2] 96)) (.cells #[.slice none 0 0, .slice none 0 0] 96))
  have d0' := cellOf_al d0 (.cells #[.slice none 0 0, .slice none 0 0] 96)
  have d1' := cellOf_al d1 (.cells #[.slice none 0 0, .slice none 0 0] 96)
  obtain ⟨z0, z1⟩ := order_cells (w.alloc (.cells #[.slice A n c, .slice A2 L c2] 96)) (.slice none 0 0) (.slice none 0 0) 96
  rw [World.size_alloc] at z0 z1
  have H2 := Lib.hid ((h2.out.al (.cells #[.slice A n c, .slice A2 L c2] 96)).al (.cells #[.slice none 0 0, .slice none 0 0] 96))
  obtain ⟨W, hW⟩ : ∃ W, W = (w.alloc (.cells #[.slice A n c, .slice A2 L c2] 96)).alloc (.cells #[.slice none 0 0, .slice none 0 0] 96) := ⟨_, rfl⟩
  have hzW : Hid (W.heap.size = w.heap.size + 1 + 1) := by show _ = _; rw [hW]; simp
  have zh : Hid (W.heap[w.heap.size + 1]? = some (.cells #[.slice none 0 0, .slice none 0 0] 96 (0, 0))) := by
    have := World.alloc_heap_new (w.alloc (.cells #[.slice A n c, .slice A2 L c2] 96)) (.cells #[.slice none 0 0, .slice none 0 0] 96)
    rw [World.size_alloc] at this
    rw [hW]; exact this
  rw [← hW] at d0' d1' z0 z1 H2 hB0
  clear d0 d1 h2
  go_enter Try.func93, Try.ntmps93
  go_wp2_with fail
  rw [← hW]
  clear hW
  have K0 : Hid (Below W.heap.size W W.drew) := (Below.refl _ _).drew
  have e0 : W.drew.cell? ⟨w.heap.size, 0, none⟩ = some (.slice A n c) := d0'
  have e1 : W.drew.cell? ⟨w.heap.size, 1, none⟩ = some (.slice A2 L c2) := d1'
  refine wp_region_held_drew (S := (fun w' => w'.cell? ⟨w.heap.size, 0, none⟩ = some (.slice A n c) ∧ w'.cell? ⟨w.heap.size, 1, none⟩ = some (.slice A2 L c2))) (by kernel_rfl) (by exact ⟨e0, e1⟩) (fun hHeld0 => ?_)
  refine anyTake 0 (some 5) (.pointer (some ⟨w.heap.size, 0, none⟩)) rfl rfl (by kernel_rfl) (by kernel_rfl) (by kernel_rfl) (fun _ _ _ h => h) (by rfl) (by intro w hSw; (try dsimp only at hSw); go_simp) (by assumption) ?_
  try simp only [Act.put, List.setIfInBounds_toArray, List.set_cons_zero, List.set_cons_succ]
  refine anyTake 1 (some 6) (.agg #[.slice A n c]) rfl rfl (by kernel_rfl) (by kernel_rfl) (by kernel_rfl) (fun _ _ _ h => h) (by rfl) (by intro w hSw; (try dsimp only at hSw); go_simp) (by assumption) ?_
  try simp only [Act.put, List.setIfInBounds_toArray, List.set_cons_zero, List.set_cons_succ]
  refine anyTake 2 (some 7) (.pointer (some ⟨w.heap.size, 1, none⟩)) rfl rfl (by kernel_rfl) (by kernel_rfl) (by kernel_rfl) (fun _ _ _ h => h) (by rfl) (by intro w hSw; (try dsimp only at hSw); go_simp) (by assumption) ?_
  try simp only [Act.put, List.setIfInBounds_toArray, List.set_cons_zero, List.set_cons_succ]
  refine anyTake 3 (some 8) (.slice A2 L c2) rfl rfl (by kernel_rfl) (by kernel_rfl) (by kernel_rfl) (fun _ _ _ h => h) (by rfl) (by intro w hSw; (try dsimp only at hSw); go_simp) (by assumption) ?_
  try simp only [Act.put, List.setIfInBounds_toArray, List.set_cons_zero, List.set_cons_succ]
  refine anyTake 4 (some 9) (.int .i64 v) rfl rfl (by kernel_rfl) (by kernel_rfl) (by kernel_rfl) (fun _ _ _ h => h) (by rfl) (by intro w hSw; (try dsimp only at hSw); go_simp) (by assumption) ?_
  try simp only [Act.put, List.setIfInBounds_toArray, List.set_cons_zero, List.set_cons_succ]
  refine wpAnyH_ready (rs := [5]) (by kernel_rfl) (by simp) ?_
  refine AllReadyH.cons rfl (fun K hK => ?_) AllReadyH.nil
  go_simp
  have B1 : Hid (Below W.heap.size W (W.alloc (.cells #[.int .i64 v] 2)).drew) := (bal (b0 W) _).drew
  refine hK.out _ _ (by exact ⟨cellOf_be d0' (Hid.out B1), cellOf_be d1' (Hid.out B1)⟩) (fun hHeld => ?_)
  clear hK K
  try simp only [Act.put, List.setIfInBounds_toArray, List.set_cons_zero, List.set_cons_succ]
  clear hHeld0
  have hHeld0 := hHeld
  clear hHeld
  refine wpAnyH_ready (rs := [6]) (by kernel_rfl) (by simp) ?_
  refine AllReadyH.cons rfl (fun K hK => ?_) AllReadyH.nil
  go_simp
  have B2 : Hid (Below W.heap.size W ((W.alloc (.cells #[.int .i64 v] 2)).alloc (.cells #[.slice A2 L c2, .slice (some ⟨W.heap.size, 0, none⟩) 1 1] 22)).drew) := (bal (bal (b0 W) _) _).drew
  refine hK.out _ _ (by exact ⟨cellOf_be d0' (Hid.out B2), cellOf_be d1' (Hid.out B2)⟩) (fun hHeld => ?_)
  clear hK K
  try simp only [Act.put, List.setIfInBounds_toArray, List.set_cons_zero, List.set_cons_succ]
  clear hHeld0
  have hHeld0 := hHeld
  clear hHeld
  have hz2' : ((W.alloc (.cells #[.int .i64 v] 2)).alloc (.cells #[.slice A2 L c2, .slice (some ⟨W.heap.size, 0, none⟩) 1 1] 22)).heap.size = W.heap.size + 1 + 1 := by simp
  have HP : Hid (Parts ((W.alloc (.cells #[.int .i64 v] 2)).alloc (.cells #[.slice A2 L c2, .slice (some ⟨W.heap.size, 0, none⟩) 1 1] 22)).drew (W.heap.size + 1) 2 (M.pair2 b v)) := fun j hj => by
    have hq0 := World.cell?_alloc_new (W.alloc (.cells #[.int .i64 v] 2)) #[.slice A2 L c2, .slice (some ⟨W.heap.size, 0, none⟩) 1 1] 22 0
    have hq1 := World.cell?_alloc_new (W.alloc (.cells #[.int .i64 v] 2)) #[.slice A2 L c2, .slice (some ⟨W.heap.size, 0, none⟩) 1 1] 22 1
    rw [World.size_alloc] at hq0 hq1
    match j, hj with
    | 0, _ => exact ⟨A2, c2, by show ((W.alloc (.cells #[.int .i64 v] 2)).alloc (.cells #[.slice A2 L c2, .slice (some ⟨W.heap.size, 0, none⟩) 1 1] 22)).cell? _ = _; rw [hq0]; simp [M.pair2, hL.out], by have := (H2.out.al (.cells #[.int .i64 v] 2)).al (.cells #[.slice A2 L c2, .slice (some ⟨W.heap.size, 0, none⟩) 1 1] 22); have h9 : Ints ((W.alloc (.cells #[.int .i64 v] 2)).alloc (.cells #[.slice A2 L c2, .slice (some ⟨W.heap.size, 0, none⟩) 1 1] 22)).drew ((W.alloc (.cells #[.int .i64 v] 2)).alloc (.cells #[.slice A2 L c2, .slice (some ⟨W.heap.size, 0, none⟩) 1 1] 22)).drew.heap.size A2 b := this; simpa [M.pair2] using h9, by simpa using hz2.out⟩
    | 1, _ => exact ⟨some ⟨W.heap.size, 0, none⟩, 1, by show ((W.alloc (.cells #[.int .i64 v] 2)).alloc (.cells #[.slice A2 L c2, .slice (some ⟨W.heap.size, 0, none⟩) 1 1] 22)).cell? _ = _; rw [hq1]; simp [M.pair2], by
        have := ((ints_of_own64 (own64_one' (w := W) (B := 0) (Nat.zero_le _) v)).al (.cells #[.slice A2 L c2, .slice (some ⟨W.heap.size, 0, none⟩) 1 1] 22)); have h9 : Ints ((W.alloc (.cells #[.int .i64 v] 2)).alloc (.cells #[.slice A2 L c2, .slice (some ⟨W.heap.size, 0, none⟩) 1 1] 22)).drew ((W.alloc (.cells #[.int .i64 v] 2)).alloc (.cells #[.slice A2 L c2, .slice (some ⟨W.heap.size, 0, none⟩) 1 1] 22)).drew.heap.size (some ⟨W.heap.size, 0, none⟩) [v] := this; simpa [M.pair2] using h9, fun e => by cases e⟩
  have HLen : Hid (∀ j, j < 2 → (M.pair2 b v j).length ≤ 24) := fun j hj => by
    match j, hj with
    | 0, _ => simp only [M.pair2]; have := hL.out; simp; omega
    | 1, _ => simp [M.pair2]
  have HC := Lib.hid (concat (W.heap.size + 1) 2 (M.pair2 b v) ((W.alloc (.cells #[.int .i64 v] 2)).alloc (.cells #[.slice A2 L c2, .slice (some ⟨W.heap.size, 0, none⟩) 1 1] 22)).drew (by omega) HLen (by show _ < ((W.alloc (.cells #[.int .i64 v] 2)).alloc (.cells #[.slice A2 L c2, .slice (some ⟨W.heap.size, 0, none⟩) 1 1] 22)).heap.size; omega) HP)
  clear HP HLen
  refine wpAnyH_ready (rs := [7]) (by kernel_rfl) (by simp) ?_
  refine AllReadyH.cons rfl (fun K hK => ?_) AllReadyH.nil
  go_simp
  go_at_call 169
  refine HC.out.mono ?_
  rintro e w5 ⟨A5, c5, n5, rfl, ho5, hb5⟩
  go_wp2_with fail
  rw [M.catTo_pair2] at ho5
  have hn5 : n5 = L + 1 := by have := own64_len ho5; rw [List.length_append, hL.out] at this; exact this
  subst hn5
  obtain ⟨g5, rfl⟩ : ∃ g5, A5 = some ⟨g5, 0, none⟩ := by
    rcases ho5.2 with ⟨q1, q2⟩ | ⟨g5, cap, cur, hv, _⟩
    · simp at q2
    · injection hv with q1; exact ⟨g5, q1⟩
  have B3 : Hid (Below W.heap.size W w5) := btr B2.out hb5
  have Ho5 : Hid (Own64 w5 W.heap.size (.slice (some ⟨g5, 0, none⟩) (L + 1) c5) (b ++ [v])) := own_mono ho5 (by show _ ≤ ((W.alloc (.cells #[.int .i64 v] 2)).alloc (.cells #[.slice A2 L c2, .slice (some ⟨W.heap.size, 0, none⟩) 1 1] 22)).heap.size; omega)
  clear ho5 hb5 HC
  refine hK.out _ _ (by exact ⟨cellOf_be d0' (Hid.out B3), cellOf_be d1' (Hid.out B3)⟩) (fun hHeld => ?_)
  clear hK K
  try simp only [Act.put, List.setIfInBounds_toArray, List.set_cons_zero, List.set_cons_succ]
  clear hHeld0
  have hHeld0 := hHeld
  clear hHeld
  refine anyTake 8 (some 13) (.agg #[.slice A n c, .slice (some ⟨g5, 0, none⟩) (L + 1) c5]) rfl rfl (by kernel_rfl) (by kernel_rfl) (by kernel_rfl) (fun _ _ _ h => h) (by rfl) (by intro w hSw; (try dsimp only at hSw); go_simp) (by assumption) ?_
  try simp only [Act.put, List.setIfInBounds_toArray, List.set_cons_zero, List.set_cons_succ]
  have y0 := cellOf_be z0 B3.out
  have y1 := cellOf_be z1 B3.out
  have zh5 : w5.heap[w.heap.size + 1]? = some (.cells #[.slice none 0 0, .slice none 0 0] 96 (0, 0)) := (B3.out.block _ (by have := hzW.out; omega)).trans zh.out
  have q0 : w5.frozen? ⟨w.heap.size + 1, 0, none⟩ = false := by simp [World.frozen?, zh5]
  have q1 : w5.frozen? ⟨w.heap.size + 1, 1, none⟩ = false := by simp [World.frozen?, zh5]
  have q2 : (w5.setCell ⟨w.heap.size + 1, 0, none⟩ (.slice A n c)).frozen? ⟨w.heap.size + 1, 1, none⟩ = false := by rw [World.frozen?_setCell]; exact q1
  have e5 := cellOf_be d0' B3.out
  have e6 := cellOf_be d1' B3.out
  have hzz := hzW.out
  have hgb := (World.ownsRow.lt Ho5.out g5 rfl).1
  have hB5 := Lib.hid (btr hB0.out B3.out)
  have hF5 : Hid (Below w.heap.size w ((w5.setCell ⟨w.heap.size + 1, 0, none⟩ (.slice A n c)).setCell ⟨w.heap.size + 1, 1, none⟩ (.slice (some ⟨g5, 0, none⟩) (L + 1) c5))) := below_setCell (below_setCell hB5.out (by omega) _) (by omega) _
  have hO5 : Hid (Own64 ((w5.setCell ⟨w.heap.size + 1, 0, none⟩ (.slice A n c)).setCell ⟨w.heap.size + 1, 1, none⟩ (.slice (some ⟨g5, 0, none⟩) (L + 1) c5)) W.heap.size (.slice (some ⟨g5, 0, none⟩) (L + 1) c5) (b ++ [v])) := own_far (own_far Ho5.out (by omega) _) (by omega) _
  have p0 : ((w5.setCell ⟨w.heap.size + 1, 0, none⟩ (.slice A n c)).setCell ⟨w.heap.size + 1, 1, none⟩ (.slice (some ⟨g5, 0, none⟩) (L + 1) c5)).cell? ⟨w.heap.size + 1, 0, none⟩ = some (.slice A n c) := (World.cell?_setCell_other _ _ _ _ (by intro e; injection e with e1 e2; omega)).trans (World.cell?_setCell_same _ _ _ y0)
  have p1 : ((w5.setCell ⟨w.heap.size + 1, 0, none⟩ (.slice A n c)).setCell ⟨w.heap.size + 1, 1, none⟩ (.slice (some ⟨g5, 0, none⟩) (L + 1) c5)).cell? ⟨w.heap.size + 1, 1, none⟩ = some (.slice (some ⟨g5, 0, none⟩) (L + 1) c5) := World.cell?_setCell_same _ _ _ ((World.cell?_setCell_other _ _ _ _ (by intro e; injection e with e1 e2; omega)).trans y1)
  have s0 : ((w5.setCell ⟨w.heap.size + 1, 0, none⟩ (.slice A n c)).setCell ⟨w.heap.size + 1, 1, none⟩ (.slice (some ⟨g5, 0, none⟩) (L + 1) c5)).cell? ⟨w.heap.size, 0, none⟩ = some (.slice A n c) := (World.cell?_setCell_other _ _ _ _ (by intro e; injection e with e1; omega)).trans ((World.cell?_setCell_other _ _ _ _ (by intro e; injection e with e1; omega)).trans e5)
  have s1 : ((w5.setCell ⟨w.heap.size + 1, 0, none⟩ (.slice A n c)).setCell ⟨w.heap.size + 1, 1, none⟩ (.slice (some ⟨g5, 0, none⟩) (L + 1) c5)).cell? ⟨w.heap.size, 1, none⟩ = some (.slice A2 L c2) := (World.cell?_setCell_other _ _ _ _ (by intro e; injection e with e1; omega)).trans ((World.cell?_setCell_other _ _ _ _ (by intro e; injection e with e1; omega)).trans e6)
  have HF5 := hF5
  clear hzz
  refine wpAnyH_ready (rs := [9]) (by kernel_rfl) (by simp) ?_
  refine AllReadyH.cons rfl (fun K hK => ?_) AllReadyH.nil
  go_simp
  refine hK.out _ _ ⟨s0, s1⟩ (fun hHeld => ?_)
  clear hK K hHeld
  refine wpAnyH_done (by kernel_rfl) ?_ _
  clear y0 y1 q0 q1 q2 s0 s1 e5 e6 hHeld0 z0 z1 zh5
  go_wp2_with fail
  refine bodyPost_ret (v := .agg #[.slice A n c, .slice (some ⟨g5, 0, none⟩) (L + 1) c5]) (by simp [results, Try.results93, go_sem, p0, p1]) rfl ?_
  exact ⟨g5, c5, rfl, own_mono hO5.out (by have := hzW.out; omega), hF5.out⟩
end Go.Proofs.Ytkcldfliiagloaa

/- ready: the nodes that can come next, as the program finds them; slices.Max and slices.Min of an ascending list. -/
namespace Go.Proofs.Ytkcldfliiagloaa
open Go.RowKit

namespace M
theorem rdy_nil {n : Nat} {ps : List Int} (h : 1 ≤ n) : rdyTo ps [] n = [0] := by
  have h1 : ∀ m, rdyTo ps [] (1 + m) = [0] := by
    intro m
    induction m with
    | zero => exact rdyTo_hit (ps := ps) (b := []) (k := 0) (decide_eq_true ⟨by simp, .inl rfl⟩)
    | succ m ih =>
      have : rdyB ps [] (1 + m) = false := decide_eq_false fun h => by
        rcases h.2 with e | e
        · omega
        · simp at e
      rw [show 1 + (m + 1) = (1 + m) + 1 by omega, rdyTo_miss this, ih]
  have := h1 (n - 1)
  rwa [show 1 + (n - 1) = n by omega] at this
theorem rdyB_code {n : Nat} {ps b : List Int} (hp : Parents n ps) (hb : Bgn n ps b) (hne : b ≠ []) {v : Nat} (hv : v < n) : rdyB ps b v = (decide (parOf ps (v : Int) ∈ b) && !decide ((v : Int) ∈ b)) := by
  have h0 := bgn_root hp hb hne
  rcases Nat.eq_zero_or_pos v with e | e
  · subst e
    have h1 : ¬ parOf ps ((0 : Nat) : Int) ∈ b := fun h => by
      have := (hb.2.1 _ h).1
      have h2 := hp.2.1
      have h3 : parOf ps ((0 : Nat) : Int) = parOf ps 0 := rfl
      omega
    rw [decide_eq_false h1, Bool.false_and]
    exact decide_eq_false fun h => h.1 h0
  · by_cases h1 : parOf ps (v : Int) ∈ b
    · rw [decide_eq_true h1, Bool.true_and]
      by_cases h2 : (v : Int) ∈ b
      · rw [decide_eq_true h2]; exact decide_eq_false fun h => h.1 h2
      · rw [decide_eq_false h2]; exact decide_eq_true ⟨h2, .inr h1⟩
    · rw [decide_eq_false h1, Bool.false_and]
      exact decide_eq_false fun h => by
        rcases h.2 with e2 | e2
        · omega
        · exact h1 e2
theorem asc_at {r : List Int} (h : r.Pairwise (· < ·)) {i j : Nat} {x y : Int} (hij : i < j) (hx : r[i]? = some x) (hy : r[j]? = some y) : x < y := by
  obtain ⟨h1, h2⟩ := List.getElem?_eq_some_iff.1 hx
  obtain ⟨h3, h4⟩ := List.getElem?_eq_some_iff.1 hy
  have := List.pairwise_iff_getElem.1 h i j h1 h3 hij
  rw [h2, h4] at this
  exact this
end M

set_option maxHeartbeats 2000000 in
theorem pickMax (A : Option Addr) (xs : List Int) (n c : Nat) (w : World) (hn : Hid (xs.length = n)) (hx : n ≤ 1000000) (hpos : 0 < n) (hasc : Hid (xs.Pairwise (· < ·))) (h : Hid (Ints w w.heap.size A xs)) :
    Calls Try.prog 145 #[.slice A n c] w fun e w' => e = .returned (.int .i64 (M.pick false xs)) ∧ w = w' := by
  obtain ⟨x0, hx0⟩ : ∃ x, Hid (xs[0]? = some x) := ⟨_, Lib.hid (List.getElem?_eq_getElem (by rw [hn.out]; exact hpos))⟩
  obtain ⟨b, off, rfl, hbB, hcells⟩ := h.out (by rw [hn.out]; exact hpos)
  have c0 : w.cell? ⟨b, off, none⟩ = some (.int .i64 x0) := by simpa using hcells 0 _ hx0.out
  have Hcells := Lib.hid hcells
  have hl1 : 1 ≤ n := hpos
  have hd1 : ¬ (n : Int) < 1 := by omega
  clear hcells
  go_enter Try.func145, Try.ntmps145
  go_wp2
  go_loop [3, 4] (fun m i => ∃ (k : Nat) (y : Int), 1 ≤ k ∧ k ≤ n ∧ i = .int .i64 k ∧ m = .int .i64 y ∧ Hid (xs[k - 1]? = some y)) (fun _ i => n - (intOf i).toNat)
  case atStart => exact ⟨1, x0, Nat.le_refl _, hl1, rfl, rfl, hx0⟩
  case round =>
    obtain ⟨k, y, hk1, hk, rfl, rfl, hy⟩ := hrel
    clear c0
    by_cases hlt : k < n
    · obtain ⟨x, hX⟩ : ∃ x, Hid (xs[k]? = some x) := ⟨_, List.getElem?_eq_getElem (by rw [hn.out]; exact hlt)⟩
      have g := Hcells.out k _ hX.out
      have hyx : y < x := M.asc_at hasc.out (by omega) hy.out hX.out
      go_wp2
      all_goals
        go_round
        case rel => exact ⟨k + 1, x, by omega, by omega, by go_num, by (first | rfl | (congr 1; omega)), hX⟩
        case measure => simp [intOf]; omega
    · obtain rfl : k = n := by omega
      have he : Hid (M.pick false xs = y) := by show _ = _; simp only [M.pick, Bool.false_eq_true, if_false]; rw [hn.out, hy.out]; rfl
      go_wp2
      go_ret
      exact ⟨by rw [he.out]; rfl, rfl⟩

set_option maxHeartbeats 2000000 in
theorem pickMin (A : Option Addr) (xs : List Int) (n c : Nat) (w : World) (hn : Hid (xs.length = n)) (hx : n ≤ 1000000) (hpos : 0 < n) (hasc : Hid (xs.Pairwise (· < ·))) (h : Hid (Ints w w.heap.size A xs)) :
    Calls Try.prog 191 #[.slice A n c] w fun e w' => e = .returned (.int .i64 (M.pick true xs)) ∧ w = w' := by
  obtain ⟨x0, hx0⟩ : ∃ x, Hid (xs[0]? = some x) := ⟨_, Lib.hid (List.getElem?_eq_getElem (by rw [hn.out]; exact hpos))⟩
  obtain ⟨b, off, rfl, hbB, hcells⟩ := h.out (by rw [hn.out]; exact hpos)
  have c0 : w.cell? ⟨b, off, none⟩ = some (.int .i64 x0) := by simpa using hcells 0 _ hx0.out
  have Hcells := Lib.hid hcells
  have hl1 : 1 ≤ n := hpos
  have hd1 : ¬ (n : Int) < 1 := by omega
  have he : Hid (M.pick true xs = x0) := by show _ = _; simp [M.pick, hx0.out]
  clear hcells
  go_enter Try.func191, Try.ntmps191
  go_wp2
  go_loop [3, 4] (fun m i => ∃ (k : Nat), 1 ≤ k ∧ k ≤ n ∧ i = .int .i64 k ∧ m = .int .i64 x0) (fun _ i => n - (intOf i).toNat)
  case atStart => exact ⟨1, Nat.le_refl _, hl1, rfl, rfl⟩
  case round =>
    obtain ⟨k, hk1, hk, rfl, rfl⟩ := hrel
    clear c0
    by_cases hlt : k < n
    · obtain ⟨x, hX⟩ : ∃ x, Hid (xs[k]? = some x) := ⟨_, List.getElem?_eq_getElem (by rw [hn.out]; exact hlt)⟩
      have g := Hcells.out k _ hX.out
      have hyx : x0 < x := M.asc_at hasc.out (by omega) hx0.out hX.out
      go_wp2
      all_goals
        go_round
        case rel => exact ⟨k + 1, by omega, by omega, by go_num, by (first | rfl | (congr 1; omega))⟩
        case measure => simp [intOf]; omega
    · obtain rfl : k = n := by omega
      go_wp2
      go_ret
      exact ⟨by rw [he.out]; rfl, rfl⟩

set_option maxHeartbeats 4000000 in
set_option maxRecDepth 100000 in
theorem ready (A A2 : Option Addr) (xs b : List Int) (n c L c2 : Nat) (w : World) (hn : Hid (xs.length = n)) (hc1 : n ≤ c) (hc2 : c ≤ 1000000000000) (ht : Hid (M.isTree xs = true)) (hpar : Hid (M.Parents n (M.parents xs))) (hbg : Hid (M.Bgn n (M.parents xs) b)) (hL : Hid (b.length = L)) (h : Hid (Ints w w.heap.size A xs)) (h2 : Hid (Ints w w.heap.size A2 b)) :
    Calls Try.prog 92 #[.agg #[.slice A n c, .slice A2 L c2]] w fun e w' => ∃ A' m c', e = .returned (.slice A' m c') ∧ Own64 w' w.heap.size (.slice A' m c') (M.rdyTo (M.parents xs) b n) ∧ Below w.heap.size w w' := by
  have hxl := M.tree_len ht.out
  rw [hn.out] at hxl
  have h24 := hxl.2
  have h1 := hxl.1
  have hLn : L ≤ n := by rw [← hL.out]; exact M.bgn_len hbg.out
  obtain ⟨d0, d1⟩ := order_cells w (.slice A n c) (.slice A2 L c2) 96
  have hB0 := Lib.hid (bal (b0 w) (.cells #[.slice A n c, .slice A2 L c2] 96))
  have H1 := Lib.hid (h.out.al (.cells #[.slice A n c, .slice A2 L c2] 96))
  have H2 := Lib.hid (h2.out.al (.cells #[.slice A n c, .slice A2 L c2] 96))
  have hzW : w.heap.size < (w.alloc (.cells #[.slice A n c, .slice A2 L c2] 96)).heap.size := by simp
  obtain ⟨W, hW⟩ : ∃ W, W = w.alloc (.cells #[.slice A n c, .slice A2 L c2] 96) := ⟨_, rfl⟩
  by_cases hL0 : L = 0
  · have hb0 : b = [] := List.length_eq_zero_iff.1 (by rw [hL.out]; exact hL0)
    have hR : M.rdyTo (M.parents xs) b n = [0] := by rw [hb0]; exact M.rdy_nil h1
    subst hL0
    rw [hR]
    have ho : Hid (Own64 (W.alloc (.cells #[.int .i64 0] 2)) w.heap.size (.slice (some ⟨W.heap.size, 0, none⟩) 1 1) [0]) := own64_one' (by rw [hW]; omega) 0
    have hB1 : Hid (Below w.heap.size w (W.alloc (.cells #[.int .i64 0] 2))) := by rw [hW]; exact bal hB0.out _
    have HW := Lib.hid hW
    clear hR hb0 hbg hW h h2 H1 H2
    go_enter Try.func92, Try.ntmps92
    go_wp2
    go_ret
    rw [HW.out] at ho hB1
    simp only [World.size_alloc] at ho
    exact ⟨some ⟨w.heap.size + 1, 0, none⟩, 1, 1, rfl, ho.out, hB1.out⟩
  · have hne : b ≠ [] := fun e => hL0 (by rw [← hL.out, e]; rfl)
    have hLe : ((L : Int) == 0) = false := by simp; omega
    rw [← hW] at d0 d1 hB0 H1 H2 hzW
    have hcode := Lib.hid (fun v (hv : v < n) => M.rdyB_code hpar.out hbg.out hne hv)
    have HP := Lib.hid ((callsIn_wide (n := 5)).1 (parentsIn_in A xs c W (by rw [hn.out]; exact hc1) hc2 ht H1.out))
    rw [hn.out] at HP
    clear h h2 H1 hbg hne
    go_enter Try.func92, Try.ntmps92
    go_wp2_with fail
    rw [← hW]
    clear hW
    refine HP.out.mono ?_
    rintro e w3 ⟨A3, c3, ps, rfl, hok, ho, hb⟩
    have hps := Lib.hid (M.parents_eq ht.out hok.out)
    rw [hps.out] at hcode hpar
    have hpl : Hid (ps.length = n) := by show _ = _; rw [hok.out.1, hn.out]
    have Hp := Lib.hid (ints_of_own64 ho)
    have hB3 := Lib.hid (btr hB0.out hb)
    have hbW3 := Lib.hid hb
    have hz3 : w.heap.size ≤ w3.heap.size := hB3.out.size
    have hst : Hid (Own64 w3 w3.heap.size (.slice none 0 0) (M.rdyTo ps b 0)) := own64_nil _ _
    clear ho hb HP hok hB0
    go_wp2
    go_loopw [3, 4, 5, 16] (fun q _ _ i wr => ∃ (k m : Nat) (A' : Option Addr) (c' : Nat), k ≤ n ∧ i = .int .i64 (k : Int) ∧ q = .slice A' m c' ∧ Hid (Own64 wr w3.heap.size (.slice A' m c') (M.rdyTo ps b k)) ∧ Hid (Below w3.heap.size w3 wr)) (fun _ _ _ i _ => n - (intOf i).toNat)
    case atStart => exact ⟨0, 0, none, 0, Nat.zero_le _, rfl, rfl, hst, Below.refl _ _⟩
    case round =>
      obtain ⟨k, m, A', c', hk, rfl, rfl, hr, hbr⟩ := hrel
      clear hst
      have hml := own64_len hr.out
      have hrl := M.rdyTo_len ps b k
      have hm1 : m ≤ 1000000 := by omega
      have hbW := Lib.hid (btr hbW3.out hbr.out)
      have f0 := cellOf_be d0 hbW.out
      have f1 := cellOf_be d1 hbW.out
      have hI2 := Lib.hid (H2.out.be hbW.out)
      have hzr : w3.heap.size ≤ wr.heap.size := hbr.out.size
      clear hml hrl
      by_cases hkn : k < n
      · obtain ⟨pb, po, p, rfl, hpb, g1, hX⟩ := (Hp.out.be hbr.out).at_ (k := k) (by rw [hpl.out]; exact hkn)
        have hpp : Hid (M.parOf ps (k : Int) = p) := by have := M.par_at hpar.out hkn; rw [hX.out] at this; injection this with this; exact this.symm
        have hck := hcode.out k hkn
        rw [hpp.out] at hck
        obtain ⟨q1, hq1⟩ : ∃ q, Hid (decide (p ∈ b) = q) := ⟨_, rfl⟩
        obtain ⟨q2, hq2⟩ : ∃ q, Hid (decide ((k : Int) ∈ b) = q) := ⟨_, rfl⟩
        rw [hq1.out, hq2.out] at hck
        have Hck := Lib.hid hck
        have hki : (k : Int) < (n : Int) := by omega
        have hk0 : (0 : Int) ≤ (k : Int) := by omega
        have HC1 := Lib.hid (containsIs A2 b L c2 p wr hL (by omega) hI2 q1 hq1)
        have HC2 := Lib.hid (containsIs A2 b L c2 (k : Int) wr hL (by omega) hI2 q2 hq2)
        clear hX hpp hck
        cases q1
        · have hs := M.rdyTo_miss Hck.out
          rw [← hs] at hr
          clear hs
          go_wp2_with fail
          refine HC1.out.mono ?_
          rintro e w' ⟨rfl, rfl⟩
          go_wp2
          go_roundw
          case rel => exact ⟨k + 1, m, A', c', by omega, by go_num, rfl, hr, hbr⟩
          case measure => simp [intOf]; omega
        · cases q2
          · have hs := Lib.hid (M.rdyTo_hit Hck.out)
            go_wp2_with fail
            refine HC1.out.mono ?_
            rintro e w' ⟨rfl, rfl⟩
            go_wp2_with fail
            refine HC2.out.mono ?_
            rintro e w' ⟨rfl, rfl⟩
            go_wp2_with (at_builtin; refine push64 rfl (.tmp 32) (.tmp 34) rfl wr w3.heap.size A' m c' (M.rdyTo ps b k) (k : Int) rfl rfl hr hzr hm1 ?_; intro A9 c9 w9 ho9 hb9)
            rw [← hs.out] at ho9
            have hb10 := Lib.hid (hbr.out.trans hb9.out)
            go_roundw
            case rel => exact ⟨k + 1, m + 1, A9, c9, by omega, by go_num, rfl, ho9, hb10⟩
            case measure => simp [intOf]; omega
          · have hs := M.rdyTo_miss Hck.out
            rw [← hs] at hr
            clear hs
            go_wp2_with fail
            refine HC1.out.mono ?_
            rintro e w' ⟨rfl, rfl⟩
            go_wp2_with fail
            refine HC2.out.mono ?_
            rintro e w' ⟨rfl, rfl⟩
            go_wp2
            go_roundw
            case rel => exact ⟨k + 1, m, A', c', by omega, by go_num, rfl, hr, hbr⟩
            case measure => simp [intOf]; omega
      · obtain rfl : k = n := by omega
        have hge : ¬ (k : Int) < (k : Int) := by omega
        have ho6 := Lib.hid (own_mono hr.out hz3)
        have hB6 := Lib.hid (btr hB3.out hbr.out)
        clear f0 f1
        go_wp2
        go_ret
        exact ⟨A', m, c', rfl, by rw [hps.out]; exact ho6.out, hB6.out⟩
end Go.Proofs.Ytkcldfliiagloaa

/- Each tree has a row of parents: mathematics. -/
namespace Go.Proofs.Ytkcldfliiagloaa
namespace M
open Classical in
theorem pars_ex9 {xs : List Int} (ht : isTree xs = true) : ∃ ps, ParsOK xs ps := by
  have hl := tree_len ht
  refine ⟨(List.range xs.length).map fun i => if h : ∃ p, IsKid xs p i then (h.choose : Int) else -1, by simp, ?_, fun p c h => ?_⟩
  · have h0 : ¬ ∃ p, IsKid xs p 0 := fun ⟨p, h⟩ => by have := kid_bounds ht h; omega
    rw [List.getElem?_map, List.getElem?_range (by omega)]
    simp only [Option.map_some, dif_neg h0]
  · have hb := kid_bounds ht h
    have hx : ∃ p, IsKid xs p c := ⟨p, h⟩
    rw [List.getElem?_map, List.getElem?_range hb.2.2]
    simp only [Option.map_some, dif_pos hx]
    rw [kid_unique ht hx.choose_spec h]
theorem parents_tree {xs : List Int} (ht : isTree xs = true) : Parents xs.length (parents xs) := by
  obtain ⟨ps, hp⟩ := pars_ex9 ht
  rw [parents_eq ht hp]
  exact parents_of ht hp
end M
end Go.Proofs.Ytkcldfliiagloaa

/- RankOfGrowing, the program's: the rank of a growing order, or a code. -/
namespace Go.Proofs.Ytkcldfliiagloaa
open Go.RowKit

noncomputable def F_RankOfGrowing (xs l : List Int) : Int × Int := if M.gcodeR xs l = 0 then ((M.rkTo xs (M.parents xs) l xs.length : Int), 0) else (0, M.gcodeR xs l)
theorem F_Rank_yes {xs l : List Int} (h : M.gcodeR xs l = 0) : F_RankOfGrowing xs l = ((M.rkTo xs (M.parents xs) l xs.length : Int), 0) := by rw [F_RankOfGrowing, if_pos h]
theorem F_Rank_no {xs l : List Int} (h : M.gcodeR xs l ≠ 0) : F_RankOfGrowing xs l = (0, M.gcodeR xs l) := by rw [F_RankOfGrowing, if_neg h]
theorem take_intsR {w : World} {B : Nat} {A : Option Addr} {l : List Int} (h : Ints w B A l) (k : Nat) : Ints w B A (l.take k) := fun hk => by
  obtain ⟨b, off, e, hb, hc⟩ := h (by have := List.length_take_le k l; rw [List.length_take] at hk; omega)
  exact ⟨b, off, e, hb, fun j x hj => hc j x (by
    rw [List.getElem?_take] at hj
    split at hj
    · exact hj
    · cases hj)⟩

set_option maxHeartbeats 8000000 in
set_option maxRecDepth 100000 in
theorem impl_RankOfGrowing : GivesON 21 F_RankOfGrowing := by
  intro A A2 xs l c c2 w hx hl hcc hcc2 h h2
  obtain ⟨W, hW⟩ : ∃ W, W = w.alloc (.cells #[.slice A xs.length c] 28) := ⟨_, rfl⟩
  have cT : W.cell? ⟨w.heap.size, 0, none⟩ = some (.slice A xs.length c) := by rw [hW]; simp [go_sem]
  have hB0 : Hid (Below w.heap.size w W) := by rw [hW]; exact bal (b0 w) _
  have H1 : Hid (Ints W W.heap.size A xs) := by rw [hW]; exact h.al _
  have H2 : Hid (Ints W W.heap.size A2 l) := by rw [hW]; exact h2.al _
  obtain ⟨r, hr⟩ : ∃ r, Hid (M.gcodeR xs l = r) := ⟨_, rfl⟩
  have HC : Hid (∀ g k X, Hid (Below W.heap.size W X) → Hid (OwnF X W.heap.size (.slice (some ⟨g, 0, none⟩) 4 k) steps4) → Calls Try.prog 89 #[.agg #[.slice A xs.length c, .slice A2 l.length c2], .slice (some ⟨g, 0, none⟩) 4 k] X fun e w' => e = .returned (.int .i64 r) ∧ Hid (Below W.heap.size W w')) := fun g k X hX hF =>
    (codeFour A A2 xs l c c2 g k X hx hcc (Lib.hid (H1.out.be hX.out)) (Lib.hid (H2.out.be hX.out)) W.heap.size hF r hr).mono fun e w' ⟨he, hb⟩ => ⟨he, btr hX.out hb⟩
  have K0 : Hid (Below W.heap.size W W.drew) := (Below.refl _ _).drew
  have S0 : W.drew.cell? ⟨w.heap.size, 0, none⟩ = some (.slice A xs.length c) ∧ Hid (Below W.heap.size W W.drew) := ⟨cT, K0⟩
  have S0A : (W.drew.alloc (.cells #[.func (.func 91) #[] #[]] 180)).cell? ⟨w.heap.size, 0, none⟩ = some (.slice A xs.length c) ∧ Hid (Below W.heap.size W (W.drew.alloc (.cells #[.func (.func 91) #[] #[]] 180))) := ⟨cell_al S0.1 _, Lib.hid (bal K0.out _)⟩
  have hcl : Hid (∀ X : World, (X.alloc (.cells #[.func (.func 91) #[] #[]] 180)).cell? ⟨X.heap.size, 0, none⟩ = some (funcV 91)) := fun X => by
    have := World.cell?_alloc_new X #[.func (.func 91) #[] #[]] 180 0
    rw [this]; rfl
  have hzD : W.heap.size ≤ W.drew.heap.size := Nat.le_refl _
  obtain ⟨P, hP⟩ : ∃ P, F_RankOfGrowing xs l = P := ⟨_, rfl⟩
  rw [hP]
  clear h h2
  go_enter Try.func21, Try.ntmps21
  go_wp2_with fail
  rw [← hW]
  clear hW
  go_region_held3 (fun X => X.cell? ⟨w.heap.size, 0, none⟩ = some (.slice A xs.length c) ∧ Hid (Below W.heap.size W X)) (first | exact S0 | exact S0A | exact S4 | exact S4A | exact S5 | exact S6) (first | (refine stepF rfl (.tmp 16) (.tmp 17) rfl _ W.heap.size (some ⟨g4, 0, none⟩) 3 3 steps3 _ 91 rfl rfl (by first | exact hoA | exact hoB) rfl (by first | exact hsA | exact hsB) (by first | exact h4A | exact h4) (by omega) ?_; intro g5 c5 w5 ho5 hb5; have S5 : w5.cell? ⟨w.heap.size, 0, none⟩ = some (.slice A xs.length c) ∧ Hid (Below W.heap.size W w5) := (by first | exact (fun hb => ⟨cell_be cT hb, Lib.hid hb⟩) ((show Below W.heap.size W (w4.alloc (.cells #[.func (.func 91) #[] #[]] 180)) from bal S4.2.out _).trans hb5.out) | exact (fun hb => ⟨cell_be cT hb, Lib.hid hb⟩) (S4.2.out.trans hb5.out))) | (go_at_call 90; refine (orderStepsF _).mono ?_; rintro e w4 ⟨g4, rfl, ho4, hb4⟩; have S4 : w4.cell? ⟨w.heap.size, 0, none⟩ = some (.slice A xs.length c) ∧ Hid (Below W.heap.size W w4) := (by first | exact ⟨cell_be S0.1 hb4, Lib.hid (btr S0.2.out hb4)⟩ | exact ⟨cell_be S0A.1 hb4, Lib.hid (btr S0A.2.out hb4)⟩); have S4A := (show (w4.alloc (.cells #[.func (.func 91) #[] #[]] 180)).cell? ⟨w.heap.size, 0, none⟩ = some (.slice A xs.length c) ∧ Hid (Below W.heap.size W (w4.alloc (.cells #[.func (.func 91) #[] #[]] 180))) from ⟨cell_al S4.1 _, Lib.hid (bal S4.2.out _)⟩); have h4 : W.heap.size ≤ w4.heap.size := S4.2.out.size; have h4A : W.heap.size ≤ (w4.alloc (.cells #[.func (.func 91) #[] #[]] 180)).heap.size := S4A.2.out.size; have hoB : Hid (OwnF w4 W.heap.size (.slice (some ⟨g4, 0, none⟩) 3 3) steps3) := Lib.hid (own_mono ho4 (by first | exact Nat.le_refl _ | simp)); have hoA : Hid (OwnF (w4.alloc (.cells #[.func (.func 91) #[] #[]] 180)) W.heap.size (.slice (some ⟨g4, 0, none⟩) 3 3) steps3) := Lib.hid (own_be hoB.out (bal (b0 w4) _)); have hsA := Lib.hid (hcl.out w4); (first | (have hsB : Hid (w4.cell? ⟨W.drew.heap.size, 0, none⟩ = some (funcV 91)) := Lib.hid (cell_be (hcl.out W.drew) hb4)) | skip)) | (go_at_call 89; refine (HC.out _ _ _ S5.2 ho5).mono ?_; rintro e w6 ⟨rfl, hb6⟩; have S6 : w6.cell? ⟨w.heap.size, 0, none⟩ = some (.slice A xs.length c) ∧ Hid (Below W.heap.size W w6) := ⟨cell_be cT hb6.out, hb6⟩))
  all_goals
    have B6 := S6.2
    have c6 := S6.1
    clear HC S4 S4A S5 S6 S0 S0A K0 hcl h4 h4A hoA hoB hsA ho4 hb4 ho5 hb5 hb6 hzD
    by_cases h0 : r = 0
    · subst h0
      have hz := M.gcodeR_zero hr.out
      have hz1 := M.gcode_zero hz.1
      have Ht := Lib.hid hz1.1
      have h20 := hz.2
      have hlen := M.tree_len Ht.out
      have hll : l.length = xs.length := (M.isOrd_iff.1 hz1.2.1).1
      have hBgn := Lib.hid (M.ord_bgn hz1.2.1 hz1.2.2)
      have hex : Hid (M.ParsOK xs (M.parents xs)) := by
        obtain ⟨ps, hp⟩ := M.pars_ex9 Ht.out
        show M.ParsOK _ _
        rw [M.parents_eq Ht.out hp]
        exact hp
      have hpar : Hid (M.Parents xs.length (M.parents xs)) := Lib.hid (M.parents_of Ht.out hex.out)
      rw [F_Rank_yes hr.out] at hP
      subst hP
      have hwl : M.waysN xs [] ≤ 2432902008176640000 := M.ways_le h20
      have hmid := Lib.hid (fun (k : Nat) (v : Int) (hv : l[k]? = some v) j => M.rk_mid Ht.out hex.out hBgn.out hll hv j)
      have hst : Hid (M.rkTo xs (M.parents xs) l 0 = 0) := rfl
      have Hll := Lib.hid hll
      have hB6 := Lib.hid (btr hB0.out B6.out)
      clear hz hz1 hr hll
      go_wp2
      go_loopw [7, 8, 9, 25] (fun q _ _ i wr => ∃ k p : Nat, k ≤ l.length ∧ i = .int .i64 (k : Int) ∧ q = .int .i64 (p : Int) ∧ Hid (M.rkTo xs (M.parents xs) l k = p) ∧ Hid (Below W.heap.size W wr)) (fun _ _ _ i _ => l.length - (intOf i).toNat)
      case atStart => exact ⟨0, 0, Nat.zero_le _, rfl, rfl, hst, B6⟩
      case round =>
        clear hst B6 c6 hB6
        obtain ⟨k, p, hk, rfl, rfl, hrk, hbw⟩ := hrel
        by_cases hlt : k < l.length
        · obtain ⟨v, hv⟩ : ∃ v, l[k]? = some v := ⟨_, List.getElem?_eq_getElem hlt⟩
          obtain ⟨ob, off, e2, hbl, hcs⟩ := (H2.out.below hbw.out (Nat.le_refl _)) (by omega)
          subst e2
          have q1 := hcs k v hv
          have hki : (k : Int) < (l.length : Int) := by omega
          have hk0 : (0 : Int) ≤ (k : Int) := by omega
          have hkc : (k : Int) ≤ (c2 : Int) := by omega
          have c7 := cell_be cT hbw.out
          have hkl : Hid ((l.take k).length = k) := by show _ = _; rw [List.length_take]; omega
          have hmid2 := Lib.hid (hmid.out k v hv)
          have hv' := Lib.hid hv
          clear hcs hv
          have c7a := cell_al c7 (.cells #[.slice none 0 0, .slice none 0 0] 96)
          go_wp2
          go_region
          obtain ⟨d0, d1⟩ := order_cells wr (.slice A xs.length c) (.slice (some ⟨ob, off, none⟩) k c2) 96
          obtain ⟨Z, hZ⟩ : ∃ Z, Z = (wr.alloc (.cells #[.slice A xs.length c, .slice (some ⟨ob, off, none⟩) k c2] 96)).drew := ⟨_, rfl⟩
          have e0 : Z.cell? ⟨wr.heap.size, 0, none⟩ = some (.slice A xs.length c) := by rw [hZ]; exact d0
          have e1 : Z.cell? ⟨wr.heap.size, 1, none⟩ = some (.slice (some ⟨ob, off, none⟩) k c2) := by rw [hZ]; exact d1
          have hbX : Hid (Below wr.heap.size wr Z) := by rw [hZ]; exact (bal (b0 wr) _).drew
          rw [← hZ]
          clear hZ d0 d1 c7 c7a q1
          have hbZ := Lib.hid (btr hbw.out hbX.out)
          have hI1 : Hid (Ints Z Z.heap.size A xs) := Lib.hid (H1.out.be hbZ.out)
          have hI2 : Hid (Ints Z Z.heap.size (some ⟨ob, off, none⟩) (l.take k)) := Lib.hid (take_intsR (H2.out.be hbZ.out) k)
          have HRd := Lib.hid (ready A (some ⟨ob, off, none⟩) xs (l.take k) xs.length c k c2 Z rfl hcc.1 hcc.2 Ht hpar (Lib.hid (M.bgn_take hBgn.out k)) hkl hI1 hI2)
          obtain ⟨rr, hrr⟩ : ∃ rr, Hid (M.rdyTo (M.parents xs) (l.take k) xs.length = rr) := ⟨_, rfl⟩
          rw [hrr.out] at HRd hmid2
          go_wp2_with fail
          refine HRd.out.mono ?_
          rintro e w8 ⟨A8, m8, c8, rfl, ho8, hb8⟩
          have hrl := M.rdyTo_len (M.parents xs) (l.take k) xs.length
          rw [hrr.out] at hrl
          have hm8 := own64_len ho8
          have hm24 : m8 ≤ 24 := by omega
          have Hm8 := Lib.hid hm8
          have Ho8 := Lib.hid ho8
          have e0' := Lib.hid (cellOf_be e0 hb8)
          have e1' := Lib.hid (cellOf_be e1 hb8)
          have hb9 := Lib.hid (btr hbZ.out hb8)
          have hst : Hid (p + M.sumL (M.gR xs (l.take k) v) (rr.take 0) = p) := rfl
          have hrks := Lib.hid (M.rkTo_step (xs := xs) (ps := M.parents xs) hv'.out)
          rw [hrk.out, hrr.out] at hrks
          rw [hrk.out] at hmid2
          clear hm8 ho8 hb8 e0 e1 hrl HRd hbX hbZ hI1 hI2 hmid
          go_wp2
          go_loopw [7, 12, 38] (fun q _ i ws => ∃ j u : Nat, j ≤ m8 ∧ i = .int .i64 (j : Int) ∧ q = .int .i64 (u : Int) ∧ Hid (p + M.sumL (M.gR xs (l.take k) v) (rr.take j) = u) ∧ Hid (Below w8.heap.size w8 ws)) (fun _ _ i _ => m8 - (intOf i).toNat)
          case atStart => exact ⟨0, p, Nat.zero_le _, rfl, rfl, hst, b0 w8⟩
          case round =>
            clear hst
            obtain ⟨j, u, hj, rfl, rfl, hsum, hbs⟩ := hrel
            by_cases hjm : j < m8
            · obtain ⟨x, hx⟩ : ∃ x, rr[j]? = some x := ⟨_, List.getElem?_eq_getElem (by rw [← Hm8.out]; exact hjm)⟩
              obtain ⟨g8, hA8⟩ : ∃ g, A8 = some ⟨g, 0, none⟩ := by
                rcases Ho8.out.2 with ⟨h0, _⟩ | ⟨g, cap, cur, hvv, _⟩
                · injection h0 with _ e _; omega
                · injection hvv with e1; exact ⟨g, e1⟩
              subst hA8
              obtain ⟨p1, p2, p3, p4⟩ := own64_cell (own_be Ho8.out hbs.out) Hm8.out.symm hx
              have hji : (j : Int) < (m8 : Int) := by omega
              have hj0 : (0 : Int) ≤ (j : Int) := by omega
              have hsn := Lib.hid (M.sumL_take (f := M.gR xs (l.take k) v) hx)
              have hbd := hmid2.out (j + 1)
              have hmem : x ∈ M.rdyTo (M.parents xs) (l.take k) xs.length := by rw [hrr.out]; exact List.mem_of_getElem? hx
              have g0 := cellOf_be e0'.out hbs.out
              have g1 := cellOf_be e1'.out hbs.out
              clear hx
              by_cases hxv : x < v
              · obtain ⟨W9, hW9⟩ : ∃ W9, Hid (M.waysN xs (l.take k ++ [x]) = W9) := ⟨_, rfl⟩
                have hu2 : Hid (p + M.sumL (M.gR xs (l.take k) v) (rr.take (j + 1)) = u + W9) := by
                  show _ = _
                  rw [hsn.out, M.gR_hit hxv, hW9.out, ← hsum.out]; omega
                have hub : u + W9 ≤ 2432902008176640000 := by
                  rw [hsn.out, M.gR_hit hxv, hW9.out] at hbd
                  have := hsum.out
                  omega
                have hbg2 : Hid (M.Bgn xs.length (M.parents xs) (l.take k ++ [x])) := Lib.hid (M.bgn_step hpar.out (M.bgn_take hBgn.out k) hmem)
                have hkl2 : Hid ((l.take k ++ [x]).length = k + 1) := by show _ = _; rw [List.length_append, hkl.out]; rfl
                have hbW := Lib.hid (btr hb9.out hbs.out)
                have hWi := Lib.hid (withNode A (some ⟨ob, off, none⟩) (l.take k) xs.length c k c2 x wr hkl (by have := Hll.out; omega) (by intro e; cases e) (Lib.hid (take_intsR (H2.out.be hbW.out) k)))
                have hWy : Hid (∀ g c9 X9, Below W.heap.size W X9 → Hid (Ints X9 X9.heap.size (some ⟨g, 0, none⟩) (l.take k ++ [x])) → Calls Try.prog 94 #[.agg #[.slice A xs.length c, .slice (some ⟨g, 0, none⟩) (k + 1) c9]] X9 fun e w' => e = .returned (.int .i64 (W9 : Int)) ∧ Below X9.heap.size X9 w') := fun g c9 X9 hX9 hI9 => by
                  have := ways9 A (some ⟨g, 0, none⟩) xs (l.take k ++ [x]) xs.length c (k + 1) c9 X9 rfl h20 hcc.1 hcc.2 Ht hbg2 hkl2 hex (Lib.hid (H1.out.be hX9)) hI9
                  rwa [hW9.out] at this
                clear hbd hmem hsn hbg2 hkl2 hW9
                go_wp2_with fail
                refine hWi.out.mono ?_
                rintro e w10 ⟨g10, c10, rfl, ho10, hb10⟩
                have hbW10 := Lib.hid (btr hbW.out hb10)
                have hI10 := Lib.hid (ints_of_own64 ho10)
                have hbs10 := Lib.hid (btr hbs.out hb10)
                clear ho10 hb10 g0 g1 p1
                go_wp2_with fail
                refine (hWy.out _ _ _ hbW10.out hI10).mono ?_
                rintro e w11 ⟨rfl, hb11⟩
                have hbs11 := Lib.hid (btr hbs10.out hb11)
                clear hb11
                go_wp2
                go_roundw
                case rel => exact ⟨j + 1, u + W9, by omega, by go_num, by go_num, hu2, hbs11⟩
                case measure => simp [intOf]; omega
              · have hu2 : Hid (p + M.sumL (M.gR xs (l.take k) v) (rr.take (j + 1)) = u) := by
                  show _ = _
                  rw [hsn.out, M.gR_miss hxv, ← hsum.out]; omega
                clear hbd hmem hsn
                go_wp2
                go_roundw
                case rel => exact ⟨j + 1, u, by omega, by go_num, rfl, hu2, hbs⟩
                case measure => simp [intOf]; omega
            · obtain rfl : j = m8 := by omega
              have hjm2 : ¬ (j : Int) < (j : Int) := by omega
              have hfin : Hid (M.rkTo xs (M.parents xs) l (k + 1) = u) := by
                show _ = _
                have := hsum.out
                rw [Hm8.out, List.take_length] at this
                rw [hrks.out]; exact this
              have hbW := Lib.hid (btr hb9.out hbs.out)
              go_wp2
              go_roundw
              case rel => exact ⟨k + 1, u, by omega, by go_num, rfl, hfin, hbW⟩
              case measure => simp [intOf]; omega
        · have hkn : k = xs.length := by have := Hll.out; omega
          have hki : ¬ (k : Int) < (l.length : Int) := by omega
          rw [hkn] at hrk
          have hB9 := Lib.hid (btr hB0.out hbw.out)
          clear hkn
          go_wp2
          go_ret2
          exact ⟨by rw [hrk.out]; rfl, hB9.out⟩
    · have h01 : (r != 0) = true := by simpa using h0
      rw [F_Rank_no (by rw [hr.out]; exact h0), hr.out] at hP
      subst hP
      have hB6 := Lib.hid (btr hB0.out B6.out)
      go_wp2
      go_ret2
      exact ⟨rfl, hB6.out⟩
end Go.Proofs.Ytkcldfliiagloaa

/- A product divided by another one that divides it, step by step by common divisors: mathematics of the model's count. No conditions. -/
namespace Go.Proofs.Ytkcldfliiagloaa
namespace M
def prodL : List Nat → Nat
  | [] => 1
  | x :: r => x * prodL r
theorem prodL_append (a b : List Nat) : prodL (a ++ b) = prodL a * prodL b := by
  induction a with
  | nil => simp [prodL]
  | cons x r ih => simp only [List.cons_append, prodL, ih, Nat.mul_assoc]
theorem prodL_set : ∀ {l : List Nat} {k x y g : Nat}, l[k]? = some x → y * g = x → prodL (l.set k y) * g = prodL l := by
  intro l
  induction l with
  | nil => intro k x y g h; simp at h
  | cons z r ih =>
    intro k x y g h e
    cases k with
    | zero =>
      simp only [List.getElem?_cons_zero] at h
      injection h with h
      subst h
      simp only [List.set_cons_zero, prodL]
      rw [← e, Nat.mul_assoc, Nat.mul_assoc, Nat.mul_comm (prodL r)]
    | succ k =>
      simp only [List.getElem?_cons_succ] at h
      simp only [List.set_cons_succ, prodL]
      rw [Nat.mul_assoc, ih h e]
theorem dvd_prodL {l : List Nat} {k x : Nat} (h : l[k]? = some x) : x ∣ prodL l := by
  induction l generalizing k with
  | nil => simp at h
  | cons z r ih =>
    cases k with
    | zero =>
      simp only [List.getElem?_cons_zero] at h
      injection h with h
      subst h
      exact Nat.dvd_mul_right _ _
    | succ k =>
      simp only [List.getElem?_cons_succ] at h
      exact Nat.dvd_trans (ih h) (Nat.dvd_mul_left _ _)
theorem coprime_prodL {y : Nat} : ∀ {l : List Nat}, (∀ (k x : Nat), l[k]? = some x → Nat.gcd x y = 1) → Nat.gcd (prodL l) y = 1 := by
  intro l
  induction l with
  | nil => intro _; simp [prodL]
  | cons z r ih =>
    intro h
    have h1 := h 0 z rfl
    have h2 := ih fun k x hx => h (k + 1) x (by simpa using hx)
    simp only [prodL]
    exact Nat.Coprime.mul_left h1 h2
theorem prodL_one : ∀ {l : List Nat}, (∀ (k x : Nat), l[k]? = some x → x = 1) → prodL l = 1 := by
  intro l
  induction l with
  | nil => intro _; rfl
  | cons z r ih => intro h; rw [prodL, h 0 z rfl, ih fun k x hx => h (k + 1) x (by simpa using hx)]

/-- what the steps keep: tops and lows of F and P, divided by the same number -/
def Red (F P : Nat) (T B : List Nat) : Prop := 0 < F ∧ P ∣ F ∧ ∃ D, prodL T * D = F ∧ prodL B * D = P
theorem red_pos {F P : Nat} {T B : List Nat} (h : Red F P T B) {k x : Nat} (hx : T[k]? = some x) : 0 < x := by
  obtain ⟨h0, _, D, h1, _⟩ := h
  rcases Nat.eq_zero_or_pos x with e | e
  · subst e
    have := dvd_prodL hx
    rw [Nat.zero_dvd.1 this] at h1
    simp at h1
    omega
  · exact e
theorem red_lows {F P : Nat} {T B : List Nat} (h : Red F P T B) {k x : Nat} (hx : B[k]? = some x) : 0 < x := by
  obtain ⟨h0, hd, D, _, h2⟩ := h
  rcases Nat.eq_zero_or_pos x with e | e
  · subst e
    have := dvd_prodL hx
    rw [Nat.zero_dvd.1 this] at h2
    simp at h2
    rw [← h2] at hd
    have := Nat.zero_dvd.1 hd
    omega
  · exact e
theorem red_dvd {F P : Nat} {T B : List Nat} (h : Red F P T B) : prodL B ∣ prodL T := by
  obtain ⟨h0, hd, D, h1, h2⟩ := h
  have hD : 0 < D := by
    rcases Nat.eq_zero_or_pos D with e | e
    · subst e; simp at h1; omega
    · exact e
  rw [← h1, ← h2] at hd
  exact Nat.dvd_of_mul_dvd_mul_right hD hd
theorem red_step {F P : Nat} {T B : List Nat} (h : Red F P T B) {k i x y : Nat} (hx : T[k]? = some x) (hy : B[i]? = some y) : Red F P (T.set k (x / Nat.gcd x y)) (B.set i (y / Nat.gcd x y)) := by
  obtain ⟨h0, hd, D, h1, h2⟩ := h
  refine ⟨h0, hd, Nat.gcd x y * D, ?_, ?_⟩
  · rw [← Nat.mul_assoc, prodL_set hx (Nat.div_mul_cancel (Nat.gcd_dvd_left _ _)), h1]
  · rw [← Nat.mul_assoc, prodL_set hy (Nat.div_mul_cancel (Nat.gcd_dvd_right _ _)), h2]
/-- the first k tops have nothing in common with the low at i -/
def Apart (T B : List Nat) (i k : Nat) : Prop := ∀ (j x y : Nat), j < k → T[j]? = some x → B[i]? = some y → Nat.gcd x y = 1
theorem apart_zero (T B : List Nat) (i : Nat) : Apart T B i 0 := fun j x y h => by omega
theorem apart_step {T B : List Nat} {i k x y : Nat} (h : Apart T B i k) (hx : T[k]? = some x) (hy : B[i]? = some y) (hp : 0 < y) : Apart (T.set k (x / Nat.gcd x y)) (B.set i (y / Nat.gcd x y)) i (k + 1) := by
  intro j u v hj hu hv
  have hi : i < B.length := (List.getElem?_eq_some_iff.1 hy).1
  have hk : k < T.length := (List.getElem?_eq_some_iff.1 hx).1
  rw [List.getElem?_set_self hi] at hv
  injection hv with hv
  rcases Nat.lt_or_ge j k with h1 | h1
  · rw [List.getElem?_set_ne (by omega)] at hu
    have h2 := h j u y h1 hu hy
    have h3 : v ∣ y := ⟨Nat.gcd x y, by rw [← hv]; exact (Nat.div_mul_cancel (Nat.gcd_dvd_right _ _)).symm⟩
    exact Nat.Coprime.coprime_dvd_right h3 h2
  · obtain rfl : j = k := by omega
    rw [List.getElem?_set_self hk] at hu
    injection hu with hu
    subst hu; subst hv
    exact Nat.coprime_div_gcd_div_gcd (Nat.gcd_pos_of_pos_right _ hp)
/-- behind a round the low is 1 -/
theorem low_one {F P : Nat} {T B : List Nat} (h : Red F P T B) {i y : Nat} (hy : B[i]? = some y) (ha : Apart T B i T.length) : y = 1 := by
  have h1 : y ∣ prodL T := Nat.dvd_trans (dvd_prodL hy) (red_dvd h)
  have h2 : Nat.gcd (prodL T) y = 1 := coprime_prodL fun k x hx => ha k x y (List.getElem?_eq_some_iff.1 hx).1 hx hy
  have h3 : y ∣ Nat.gcd (prodL T) y := Nat.dvd_gcd h1 (Nat.dvd_refl _)
  rw [h2] at h3
  exact Nat.dvd_one.1 h3
/-- at the end the tops' product is the quotient -/
theorem red_end {F P : Nat} {T B : List Nat} (h : Red F P T B) (h1 : ∀ (i y : Nat), B[i]? = some y → y = 1) : prodL T = F / P ∧ prodL T ≤ F := by
  obtain ⟨h0, hd, D, h2, h3⟩ := h
  rw [prodL_one h1, Nat.one_mul] at h3
  subst h3
  have hD : 0 < D := by
    rcases Nat.eq_zero_or_pos D with e | e
    · subst e; simp at h2; omega
    · exact e
  refine ⟨?_, ?_⟩
  · rw [← h2, Nat.mul_div_cancel _ hD]
  · rw [← h2]; exact Nat.le_mul_of_pos_right _ hD
end M
end Go.Proofs.Ytkcldfliiagloaa

/- The rows that the model's count divides: the numbers from 1 on, and the sizes of the nodes that are to come. Mathematics, no conditions. -/
namespace Go.Proofs.Ytkcldfliiagloaa
namespace M
/-- a list of numbers as the program has it -/
def ints (l : List Nat) : List Int := l.map fun x : Nat => (x : Int)
theorem ints_len (l : List Nat) : (ints l).length = l.length := by simp [ints]
theorem ints_at {l : List Nat} {k x : Nat} (h : l[k]? = some x) : (ints l)[k]? = some (x : Int) := by simp [ints, h]
theorem ints_app (l : List Nat) (x : Nat) : ints (l ++ [x]) = ints l ++ [(x : Int)] := by simp [ints]
theorem ints_set (l : List Nat) (k x : Nat) : ints (l.set k x) = (ints l).set k (x : Int) := by simp [ints, List.map_set]
/-- the sizes of the nodes below k that are to come -/
def lowTo (xs b : List Int) : Nat → List Nat
  | 0 => []
  | k + 1 => if (k : Int) ∈ b then lowTo xs b k else lowTo xs b k ++ [sz xs k]
/-- the numbers from 1 on -/
def topOf (m : Nat) : List Nat := (List.range m).map (· + 1)
theorem topOf_len (m : Nat) : (topOf m).length = m := by simp [topOf]
theorem topOf_succ (m : Nat) : topOf (m + 1) = topOf m ++ [m + 1] := by simp [topOf, List.range_succ]
theorem topOf_prod (m : Nat) : prodL (topOf m) = facN m := by
  induction m with
  | zero => rfl
  | succ m ih => rw [topOf_succ, prodL_append, ih, facN, prodL, prodL, Nat.mul_one, Nat.mul_comm]
theorem lowTo_prod (xs b : List Int) (k : Nat) : prodL (lowTo xs b k) = prodTo xs b k := by
  induction k with
  | zero => rfl
  | succ k ih =>
    rw [lowTo, prodTo]
    split
    · exact ih
    · rw [prodL_append, ih, prodL, prodL, Nat.mul_one]
theorem lowTo_len (xs b : List Int) (k : Nat) : (lowTo xs b k).length = ((List.range k).filter fun v : Nat => decide ((v : Int) ∉ b)).length := by
  induction k with
  | zero => rfl
  | succ k ih =>
    rw [lowTo, List.range_succ, List.filter_append, List.length_append, ← ih]
    by_cases h : (k : Int) ∈ b
    · simp [h]
    · simp [h]
theorem lowTo_le (xs b : List Int) (k : Nat) : (lowTo xs b k).length ≤ k := by
  rw [lowTo_len]
  exact Nat.le_trans (List.length_filter_le _ _) (by simp)
theorem hit_len (n : Nat) : ∀ (b : List Int), b.Nodup → (∀ x ∈ b, 0 ≤ x ∧ x < (n : Int)) → ((List.range n).filter fun v : Nat => decide ((v : Int) ∉ b)).length + b.length = n := by
  intro b
  induction b with
  | nil =>
    intro _ _
    rw [List.filter_eq_self.2 (by intro a _; simp)]
    simp
  | cons x r ih =>
    intro hd hx
    have h1 := ih (List.nodup_cons.1 hd).2 fun y hy => hx y (List.mem_cons_of_mem _ hy)
    have h2 := hx x List.mem_cons_self
    obtain ⟨u, rfl⟩ := Int.eq_ofNat_of_zero_le h2.1
    have hu : u < n := by omega
    have hur : (u : Int) ∉ r := (List.nodup_cons.1 hd).1
    have key : ((List.range n).filter fun v : Nat => decide ((v : Int) ∉ r)).length = ((List.range n).filter fun v : Nat => decide ((v : Int) ∉ (u : Int) :: r)).length + 1 := by
      clear h1 ih hd hx h2
      induction n with
      | zero => omega
      | succ n ihn =>
        rw [List.range_succ, List.filter_append, List.filter_append, List.length_append, List.length_append]
        by_cases e : u = n
        · subst e
          have hs : ((List.range u).filter fun v : Nat => decide ((v : Int) ∉ (u : Int) :: r)) = ((List.range u).filter fun v : Nat => decide ((v : Int) ∉ r)) := by
            refine List.filter_congr fun v hv => ?_
            have hvu : v < u := List.mem_range.1 hv
            have : (v : Int) ≠ (u : Int) := by omega
            simp [this]
          rw [hs]
          simp [hur]
        · have hlt : u < n := by omega
          have := ihn hlt
          have hne : (n : Int) ≠ (u : Int) := by omega
          have h3 : ([n].filter fun v : Nat => decide ((v : Int) ∉ (u : Int) :: r)) = ([n].filter fun v : Nat => decide ((v : Int) ∉ r)) := by
            refine List.filter_congr fun v hv => ?_
            obtain rfl := List.mem_singleton.1 hv
            simp [hne]
          rw [h3]
          omega
    rw [List.length_cons]
    omega
theorem lowTo_all {n : Nat} {xs ps b : List Int} (hb : Bgn n ps b) : (lowTo xs b n).length + b.length = n := by
  rw [lowTo_len]
  exact hit_len n b hb.1 hb.2.1
/-- at the beginning nothing is divided -/
theorem red_start {xs ps b : List Int} (ht : isTree xs = true) (hp : ParsOK xs ps) (hb : Bgn xs.length ps b) : Red (facN (xs.length - b.length)) (prodTo xs b xs.length) (topOf (lowTo xs b xs.length).length) (lowTo xs b xs.length) := by
  have h1 := lowTo_all (xs := xs) hb
  have h2 := hook_dvd ht hp (xs.length - b.length) b hb (by omega)
  have h3 : (lowTo xs b xs.length).length = xs.length - b.length := by omega
  refine ⟨?_, h2, 1, ?_, ?_⟩
  · clear h1 h2 h3
    generalize xs.length - b.length = m
    induction m with
    | zero => decide
    | succ m ih => exact Nat.mul_pos (by omega) ih
  · rw [topOf_prod, h3, Nat.mul_one]
  · rw [lowTo_prod, Nat.mul_one]
theorem red_top_le {F P : Nat} {T B : List Nat} (h : Red F P T B) {k x : Nat} (hx : T[k]? = some x) : x ≤ F := by
  obtain ⟨h0, _, D, h1, _⟩ := h
  exact Nat.le_of_dvd h0 (h1 ▸ Nat.dvd_trans (dvd_prodL hx) (Nat.dvd_mul_right _ _))
theorem red_low_le {F P : Nat} {T B : List Nat} (h : Red F P T B) {k x : Nat} (hx : B[k]? = some x) : x ≤ F := by
  obtain ⟨h0, hd, D, _, h2⟩ := h
  exact Nat.le_of_dvd h0 (Nat.dvd_trans (h2 ▸ Nat.dvd_trans (dvd_prodL hx) (Nat.dvd_mul_right _ _)) hd)
theorem prodL_take_succ {l : List Nat} {k x : Nat} (h : l[k]? = some x) : prodL (l.take (k + 1)) = prodL (l.take k) * x := by
  rw [List.take_add_one, h, prodL_append]
  simp [prodL]
theorem prodL_take_le {l : List Nat} (hp : ∀ (i y : Nat), l[i]? = some y → 0 < y) (k : Nat) : prodL (l.take k) ≤ prodL l := by
  have h1 : prodL l = prodL (l.take k) * prodL (l.drop k) := by rw [← prodL_append, List.take_append_drop]
  have h2 : 0 < prodL (l.drop k) := by
    have : ∀ r : List Nat, (∀ (i y : Nat), r[i]? = some y → 0 < y) → 0 < prodL r := by
      intro r
      induction r with
      | nil => intro _; decide
      | cons z r ih => intro h; exact Nat.mul_pos (h 0 z rfl) (ih fun i y hy => h (i + 1) y (by simpa using hy))
    exact this _ fun i y hy => hp (k + i) y (by rw [List.getElem?_drop] at hy; exact hy)
  rw [h1]
  exact Nat.le_mul_of_pos_right _ h2
end M
end Go.Proofs.Ytkcldfliiagloaa

/- l09Count: the number of growing orders with a beginning, as the model divides step by step. -/
namespace Go.Proofs.Ytkcldfliiagloaa
open Go.RowKit

theorem Two.be {w w' : World} {B : Nat} {v1 v2 : Value} {xs ys : List Int} (h : Two w B v1 v2 xs ys) (hb : Below w.heap.size w w') : Two w' B v1 v2 xs ys := ⟨own_be h.1 hb, own_be h.2.1 hb, h.2.2⟩
theorem low9 {w w' : World} {B base e size n : Nat} {v : Value} {xs : List Value} (h : w.ownsRow base e size v n xs) (hb : Below B w w') (hlt : ∀ k, v.ownBlock = some k → k < B) : w'.ownsRow base e size v n xs := by
  obtain ⟨h1, h2⟩ := h
  refine ⟨h1, ?_⟩
  rcases h2 with h2 | ⟨g, cap, cur, hv, hg, hh, r⟩
  · exact .inl h2
  · refine .inr ⟨g, cap, cur, hv, hg, ?_, r⟩
    rw [hb.block g (hlt g (by rw [hv]; rfl))]
    exact hh
theorem two_head {w : World} {B n c : Nat} {A : Option Addr} {v2 : Value} {xs ys : List Int} (h : Two w B (.slice A n c) v2 xs ys) (hn : 0 < n) : ∃ g, A = some ⟨g, 0, none⟩ := (Two.shape h).2 hn
theorem cell_low {w w' : World} {B g k : Nat} {v : Value} (h : w.cell? ⟨g, k, none⟩ = some v) (hb : Below B w w') (hlt : g < B) : w'.cell? ⟨g, k, none⟩ = some v :=
  (hb.cell (p := ⟨g, k, none⟩) hlt).trans h
theorem M.gcd_step9 (a b : Nat) : Nat.gcd b (a % b) = Nat.gcd a b := by
  rw [Nat.gcd_comm b (a % b), ← Nat.gcd_rec, Nat.gcd_comm]

theorem M.sz_le9 (xs : List Int) (v : Nat) : M.sz xs v ≤ xs.length := by
  have h1 := M.span_le (xs.drop v) 1
  rw [List.length_drop] at h1
  have h2 : M.sz xs v = M.span 1 (xs.drop v) := rfl
  omega

set_option maxHeartbeats 8000000 in
set_option maxRecDepth 100000 in
theorem l09Count (A A2 : Option Addr) (xs b : List Int) (n c L c2 : Nat) (w : World) (hn : Hid (xs.length = n)) (h20 : n ≤ 20) (ht : Hid (M.isTree xs = true)) (hbg : Hid (M.Bgn n (M.parents xs) b)) (hL : Hid (b.length = L)) (hex : Hid (M.ParsOK xs (M.parents xs))) (h : Hid (Ints w w.heap.size A xs)) (h2 : Hid (Ints w w.heap.size A2 b)) :
    Calls Try.prog 87 #[.agg #[.slice A n c], .slice A2 L c2] w fun e w' => e = .returned (.int .i64 (M.waysN xs b : Int)) ∧ Below w.heap.size w w' := by
  have hLn : L ≤ n := by rw [← hL.out]; exact M.bgn_len hbg.out
  have hred : Hid (M.Red (M.facN (n - L)) (M.prodTo xs b n) (M.topOf (M.lowTo xs b n).length) (M.lowTo xs b n)) := by
    have := M.red_start ht.out hex.out (b := b) (by rw [hn.out]; exact hbg.out)
    rwa [hn.out, hL.out] at this
  have hle : ∀ j, (M.lowTo xs b j).length ≤ j := M.lowTo_le xs b
  have Hle := Lib.hid hle
  have hF := M.facN_20 (k := n - L) (by omega)
  have hW0 : M.waysN xs b = M.facN (n - L) / M.prodTo xs b n := by rw [M.waysN, hn.out, hL.out]
  rw [hW0]
  clear hW0 hle
  generalize M.facN (n - L) = F at *
  generalize hP : M.prodTo xs b n = P at *
  clear hP
  obtain ⟨Q9, hQ9⟩ : ∃ Q9, Hid (F / P = Q9) := ⟨_, rfl⟩
  rw [hQ9.out]
  have hmk := fun W => run_make_row' (P := Try.prog) (w := W) 91 4 (.bool false) 1 Try.underlying91 infoB rfl .i64 .i64 n (by omega) (by omega)
  have cT0 : Hid ((w.alloc (.cells #[.slice A n c] 28)).cell? ⟨w.heap.size, 0, none⟩ = some (.slice A n c)) := by simp [Hid, go_sem]
  have hB0 := Lib.hid (bal (b0 w) (.cells #[.slice A n c] 28))
  have H1 := Lib.hid (h.out.al (.cells #[.slice A n c] 28))
  have H2 := Lib.hid h2.out
  have hzW : (w.alloc (.cells #[.slice A n c] 28)).heap.size = w.heap.size + 1 := by simp
  obtain ⟨W, hW⟩ : ∃ W, W = w.alloc (.cells #[.slice A n c] 28) := ⟨_, rfl⟩
  rw [← hW] at cT0 hB0 H1 hzW
  have hE9 : ∀ (v S : Nat) X, v < n → M.sz xs v = S → Below W.heap.size W X → Calls Try.prog 160 #[.agg #[.slice A n c], .int .i64 (v : Int)] X fun e w' => e = .returned (.int .i64 ((v + S : Nat) : Int)) ∧ Below X.heap.size X w' := fun v S X hv hS hX => by
    have := l01End A xs c v (v + S) X (by show _ = _; rw [← hS]; rfl) (by rw [hn.out]; omega) (M.tree_ok ht.out (by rw [hn.out]; exact hv)) (H1.out.be hX)
    rwa [hn.out] at this
  have HE := Lib.hid hE9
  clear h h2 hE9
  go_enter Try.func87, Try.ntmps87
  go_wp2_with fail
  rw [← hW]
  clear hW
  refine (l01N A n c _).mono ?_
  rintro e w1 ⟨rfl, hb1⟩
  have hB1 := Lib.hid (btr hB0.out hb1)
  have hBW1 := Lib.hid hb1
  have cT1 := Lib.hid (cell_be cT0.out hb1)
  have hz1 := hb1.size
  have hmk1 := hmk w1
  have Hm : Hid (OwnB (w1.alloc (.cells (madeCells #[.bool false] n) 4)) w.heap.size (.slice (some ⟨w1.heap.size, 0, none⟩) n n) (List.replicate n false)) := ownB_made (by omega) (by unfold maxLen; omega)
  rw [show List.replicate n false = M.metRow n b 0 from (M.metRow_zero n b).symm] at Hm
  have hB2 := Lib.hid (bal hB1.out (.cells (madeCells #[.bool false] n) 4))
  have hBW2 := Lib.hid (bal hBW1.out (.cells (madeCells #[.bool false] n) 4))
  have cT2 := Lib.hid (cell_al cT1.out (.cells (madeCells #[.bool false] n) 4))
  have hgz : w.heap.size < w1.heap.size := by omega
  have hz2 : w1.heap.size < (w1.alloc (.cells (madeCells #[.bool false] n) 4)).heap.size := by simp
  clear hb1 cT0 hB0 hB1 hBW1 cT1 hz1
  obtain ⟨Y, hY⟩ : ∃ Y, Y = w1.alloc (.cells (madeCells #[.bool false] n) 4) := ⟨_, rfl⟩
  rw [← hY] at Hm hB2 hBW2 cT2 hz2 hmk1
  generalize hg : w1.heap.size = g at *
  go_wp2
  try rw [hg]
  rw [← hY]
  clear hmk hmk1 hY hg
  -- the first loop: which are there
  go_loopw [6] (fun qi wr => ∃ (k : Nat), k ≤ L ∧ qi = .int .i64 (k : Int) ∧ Hid (OwnB wr w.heap.size (.slice (some ⟨g, 0, none⟩) n n) (M.metRow n b k)) ∧ Hid (wr.cell? ⟨w.heap.size, 0, none⟩ = some (.slice A n c)) ∧ Hid (Below w.heap.size w wr) ∧ Hid (Below W.heap.size W wr)) (fun qi _ => L - (intOf qi).toNat)
  case atStart => exact ⟨0, Nat.zero_le _, rfl, Hm, cT2, hB2, hBW2⟩
  case round =>
    obtain ⟨k, hk, rfl, hm, hc, hbr, hbw⟩ := hrel
    clear Hm cT2 hB2 hBW2 hz2
    by_cases hlt : k < L
    · obtain ⟨ob, off, x, rfl, hbl, g1, hX⟩ := (H2.out.below hbr.out (Nat.le_refl _)).at_ (k := k) (by rw [hL.out]; exact hlt)
      have hx := hbg.out.2.1 x (List.mem_of_getElem? hX.out)
      obtain ⟨v, rfl⟩ := Int.eq_ofNat_of_zero_le hx.1
      have hvn : v < n := by omega
      have hki : (k : Int) < (L : Int) := by omega
      have hk0 : (0 : Int) ≤ (k : Int) := by omega
      have hv0 : (0 : Int) ≤ (v : Int) := by omega
      have hvi : (v : Int) < (n : Int) := by omega
      have hmv := M.metRow_at (l := b) (k := k) hvn
      obtain ⟨m1, m2, _, hgl⟩ := ownB_cell hm.out (M.metRow_len n b k) hmv
      have hms := Lib.hid (M.metRow_step (n := n) hX.out)
      have hset := Lib.hid (ownB_set hm.out (M.metRow_len n b k) v true)
      rw [hms.out] at hset
      have hc2 := Lib.hid ((World.cell?_setCell_other wr (a := ⟨g, v, none⟩) (b := ⟨w.heap.size, 0, none⟩) (v := .bool true) (by intro e; injection e with e1; omega)).trans hc.out)
      have hb2 := Lib.hid (below_setCell hbr.out (Nat.le_of_lt hgz) (k := v) (.bool true))
      have hb3 := Lib.hid (below_setCell hbw.out (by omega : W.heap.size ≤ g) (k := v) (.bool true))
      clear hm hc hmv hms hX hred HE Hle
      go_wp2
      go_roundw
      case rel => exact ⟨k + 1, by omega, by go_num, hset, hc2, hb2, hb3⟩
      case measure => simp [intOf]; omega
    · obtain rfl : k = L := by omega
      have hge : ¬ (k : Int) < (k : Int) := by omega
      have hkb : b.take k = b := by rw [← hL.out, List.take_length]
      obtain ⟨R, hR⟩ : ∃ R, M.metRow n b k = R := ⟨_, rfl⟩
      have hRat : Hid (∀ v, v < n → R[v]? = some (decide ((v : Int) ∈ b))) := fun v hv => by rw [← hR, M.metRow_at hv, hkb]
      have hRl : Hid (R.length = n) := by show _ = _; rw [← hR]; exact M.metRow_len _ _ _
      rw [hR] at hm
      have Hge := Lib.hid hge
      obtain ⟨G, hG⟩ : ∃ G, wr.heap.size = G := ⟨_, rfl⟩
      have HG := Lib.hid hG
      obtain ⟨V, hV⟩ : ∃ V, V = (wr.alloc (.cells #[] 2)).alloc (.cells #[] 2) := ⟨_, rfl⟩
      have hgX : g < G := by
        rcases Nat.lt_or_ge 0 n with h0 | h0
        · rw [← hG]; exact (ownB_cell hm.out hRl.out (hRat.out 0 h0)).2.2.2
        · have := M.tree_len ht.out; rw [hn.out] at this; omega
      have hT0 : Hid (Two V G (.slice (some ⟨G, 0, none⟩) 0 0) (.slice (some ⟨G + 1, 0, none⟩) 0 0) [] []) := by
        rw [hV, ← hG]
        refine ⟨own_be (own64_empty (Nat.le_refl _)) (bal (b0 _) _), ?_, fun q h1 h2 => by
          have e1 : wr.heap.size = q := by injection h1
          have e2 : wr.heap.size + 1 = q := by injection h2
          omega⟩
        · have := own64_empty (w := wr.alloc (.cells #[] 2)) (B := wr.heap.size) (by simp)
          simpa using this
      have hm2 : Hid (OwnB V w.heap.size (.slice (some ⟨g, 0, none⟩) n n) R) := by rw [hV]; exact own_be (own_be hm.out (bal (b0 _) _)) (bal (b0 _) _)
      have hc2 : Hid (V.cell? ⟨w.heap.size, 0, none⟩ = some (.slice A n c)) := by rw [hV]; exact cell_al (cell_al hc.out _) _
      have hb2 : Hid (Below w.heap.size w V) := by rw [hV]; exact bal (bal hbr.out _) _
      have hb3 : Hid (Below W.heap.size W V) := by rw [hV]; exact bal (bal hbw.out _) _
      have hzV : G ≤ V.heap.size := by rw [hV]; simp; omega
      have hwG : W.heap.size ≤ G := by rw [← hG]; exact hbw.out.size
      clear hm hc hbr hbw hlt hk hge hR hkb H2 hbg
      go_wp2
      rw [← hV]
      clear hV hG
      -- the second loop: the rows that grow
      have hst : Hid (Two V G (.slice (some ⟨G, 0, none⟩) 0 0) (.slice (some ⟨G + 1, 0, none⟩) 0 0) (M.ints (M.topOf (M.lowTo xs b 0).length)) (M.ints (M.lowTo xs b 0))) := hT0
      clear hT0
      go_loopw [7, 8, 9] (fun qt ql qi wr => ∃ (j m : Nat) (A1 A3 : Option Addr) (c1 c3 : Nat), j ≤ n ∧ qi = .int .i64 (j : Int) ∧ Hid ((M.lowTo xs b j).length = m) ∧ qt = .slice A1 m c1 ∧ ql = .slice A3 m c3 ∧ Hid (Two wr G (.slice A1 m c1) (.slice A3 m c3) (M.ints (M.topOf (M.lowTo xs b j).length)) (M.ints (M.lowTo xs b j))) ∧ Hid (OwnB wr w.heap.size (.slice (some ⟨g, 0, none⟩) n n) R) ∧ Hid (wr.cell? ⟨w.heap.size, 0, none⟩ = some (.slice A n c)) ∧ Hid (Below w.heap.size w wr) ∧ Hid (Below W.heap.size W wr) ∧ G ≤ wr.heap.size) (fun _ _ qi _ => n - (intOf qi).toNat)
      case atStart => exact ⟨0, 0, _, _, 0, 0, Nat.zero_le _, rfl, rfl, rfl, rfl, hst, hm2, hc2, hb2, hb3, hzV⟩
      case round =>
        obtain ⟨j, m, A1, A3, c1, c3, hj, rfl, hjm, rfl, rfl, hT, hm, hc, hbr, hbw, hzr⟩ := hrel
        clear hst hm2 hc2 hb2 hb3 hzV
        have hm20 : m ≤ 20 := by have := Hle.out j; rw [hjm.out] at this; omega
        have cc := hc.out
        by_cases hjn : j < n
        · have hji : (j : Int) < (n : Int) := by omega
          have hj0 : (0 : Int) ≤ (j : Int) := by omega
          have hRj := hRat.out j hjn
          go_wp2_with fail
          refine (l01N A n c _).mono ?_
          rintro e w7 ⟨rfl, hb7⟩
          have hT7 := Lib.hid (hT.out.be hb7)
          have hm7 := Lib.hid (own_be hm.out hb7)
          have hc7 := Lib.hid (cell_be hc.out hb7)
          have hbr7 := Lib.hid (btr hbr.out hb7)
          have hbw7 := Lib.hid (btr hbw.out hb7)
          have hz7 : G ≤ w7.heap.size := Nat.le_trans hzr hb7.size
          obtain ⟨m1, m2, _, _⟩ := ownB_cell hm7.out hRl.out hRj
          clear hT hm hc hbr hbw cc hb7 hRj hzr
          by_cases hjb : (j : Int) ∈ b
          · rw [decide_eq_true hjb] at m1
            have hs := Lib.hid (show M.lowTo xs b (j + 1) = M.lowTo xs b j by rw [M.lowTo, if_pos hjb])
            have hjm2 : Hid ((M.lowTo xs b (j + 1)).length = m) := by show _ = _; rw [hs.out]; exact hjm.out
            rw [← hs.out] at hT7
            clear hs hjb hjm
            go_wp2
            go_roundw
            case rel => exact ⟨j + 1, m, A1, A3, c1, c3, by omega, by go_num, hjm2, rfl, rfl, hT7, hm7, hc7, hbr7, hbw7, hz7⟩
            case measure => simp [intOf]; omega
          · rw [decide_eq_false hjb] at m1
            obtain ⟨S, hS⟩ : ∃ S, M.sz xs j = S := ⟨_, rfl⟩
            have hs := Lib.hid (show M.lowTo xs b (j + 1) = M.lowTo xs b j ++ [S] by rw [M.lowTo, if_neg hjb, hS])
            have hs2 : Hid (M.topOf (M.lowTo xs b (j + 1)).length = M.topOf (M.lowTo xs b j).length ++ [m + 1]) := by show _ = _; rw [hs.out, List.length_append, List.length_singleton, M.topOf_succ, hjm.out]
            have hjm2 : Hid ((M.lowTo xs b (j + 1)).length = m + 1) := by show _ = _; rw [hs.out, List.length_append, hjm.out]; rfl
            have hSb : S ≤ 24 := by
              rw [← hS]
              have := M.sz_le9 xs j
              rw [hn.out] at this
              omega
            obtain ⟨E, hE⟩ : ∃ E, Hid (j + S = E) := ⟨_, rfl⟩
            have hEe : (E : Int) - (j : Int) = (S : Int) := by have := hE.out; omega
            have hE24 : E ≤ 44 := by have := hE.out; omega
            have HEj := Lib.hid (fun X hX => HE.out j S X hjn hS hX)
            rw [hE.out] at HEj
            generalize M.lowTo xs b j = B0 at *
            generalize M.topOf B0.length = T0 at *
            clear hS hjb hjm hE
            have hBG : Hid (∀ X, Below w7.heap.size w7 X → True) := fun _ _ => trivial
            clear hBG
            go_wp2_with (first | (at_builtin; refine pushTwo rfl (.tmp 45) (.tmp 49) rfl w7 G A1 m c1 (.slice A3 m c3) (M.ints T0) (M.ints B0) ((m : Int) + 1) rfl _ rfl rfl hT7 hz7 (by omega) ?_; intro A8 c8 w8 hT8 hb8; have cc8 := cell_low hc7.out hb8.out (by omega)) | (go_at_call 160; refine (HEj.out _ (hbw7.out.trans (hb8.out.mono hwG))).mono ?_; rintro e w9 ⟨rfl, hb9⟩) | (at_builtin; refine pushTwo rfl (.tmp 51) (.tmp 57) rfl w9 G A3 m c3 (.slice A8 (m + 1) c8) (M.ints B0) (M.ints (T0 ++ [m + 1])) (S : Int) rfl _ rfl rfl (Lib.hid ((by have := hT8.out.be hb9; rw [M.ints_app]; exact this.symm))) (Nat.le_trans hz7 (Nat.le_trans hb8.out.size hb9.size)) (by omega) ?_; intro A10 c10 w10 hT10 hb10))
            have hT11 : Hid (Two w10 G (.slice A8 (m + 1) c8) (.slice A10 (m + 1) c10) (M.ints (M.topOf (M.lowTo xs b (j + 1)).length)) (M.ints (M.lowTo xs b (j + 1)))) := by
              show Two _ _ _ _ _ _
              rw [hs2.out, hs.out, M.ints_app B0]
              exact hT10.out.symm
            have hB11 : Hid (Below G w7 w10) := (hb8.out.trans (hb9.mono (Nat.le_trans hz7 hb8.out.size))).trans hb10.out
            have hm11 := Lib.hid (low9 hm7.out hB11.out (fun q hq => by have e : some g = some q := hq; injection e with e; omega))
            have hc11 := Lib.hid (cell_low hc7.out hB11.out (by omega))
            have hbr11 := Lib.hid (hbr7.out.trans (hB11.out.mono (by omega)))
            have hbw11 := Lib.hid (hbw7.out.trans (hB11.out.mono hwG))
            have hz11 : G ≤ w10.heap.size := Nat.le_trans hz7 hB11.out.size
            clear hT8 hb8 hb9 hT10 hb10 hB11 cc8 hm7 hc7 hbr7 hbw7 hT7
            go_roundw
            case rel => exact ⟨j + 1, m + 1, A8, A10, c8, c10, by omega, by go_num, hjm2, rfl, rfl, hT11, hm11, hc11, hbr11, hbw11, hz11⟩
            case measure => simp [intOf]; omega
        · obtain rfl : j = n := by omega
          have hjn0 : ¬ (j : Int) < (j : Int) := by omega
          obtain ⟨T0, B0, hT0, hB0, hred0⟩ : ∃ T0 B0, Hid (M.topOf (M.lowTo xs b j).length = T0) ∧ Hid (M.lowTo xs b j = B0) ∧ Hid (M.Red F P T0 B0) := ⟨_, _, rfl, rfl, hred⟩
          have hTl : Hid (T0.length = m) := by show _ = _; rw [← hT0.out, M.topOf_len]; exact hjm.out
          have hBl : Hid (B0.length = m) := by show _ = _; rw [← hB0.out]; exact hjm.out
          rw [hT0.out, hB0.out] at hT
          go_wp2_with fail
          refine (l01N A j c _).mono ?_
          rintro e w7 ⟨rfl, hb7⟩
          have hT7 := Lib.hid (hT.out.be hb7)
          have hbr7 := Lib.hid (btr hbr.out hb7)
          have hz7 : G ≤ w7.heap.size := Nat.le_trans hzr hb7.size
          have hGw : w.heap.size ≤ G := by omega
          clear hT hm hc hbr hbw cc hb7 hzr hjm HE hRat hRl Hle hred hT0 hB0 H1 hn ht hex hwG hgX hjn0
          go_wp2
          go_loopw [10] (fun qi wr => ∃ (i : Nat) (T B : List Nat), i ≤ m ∧ qi = .int .i64 (i : Int) ∧ Hid (T.length = m) ∧ Hid (B.length = m) ∧ Hid (M.Red F P T B) ∧ Hid (∀ (u y : Nat), u < i → B[u]? = some y → y = 1) ∧ Hid (Two wr G (.slice A1 m c1) (.slice A3 m c3) (M.ints T) (M.ints B)) ∧ Hid (Below w.heap.size w wr) ∧ G ≤ wr.heap.size) (fun qi _ => m - (intOf qi).toNat)
          case atStart => exact ⟨0, T0, B0, Nat.zero_le _, rfl, hTl, hBl, hred0, fun u y h => by omega, hT7, hbr7, hz7⟩
          case round =>
            obtain ⟨i, T, B, hi, rfl, hTl2, hBl2, hred2, hone, hT, hbr, hzr⟩ := hrel
            clear hTl hBl hred0 hT7 hbr7 hz7
            by_cases him : i < m
            · have hii : (i : Int) < (m : Int) := by omega
              obtain ⟨g1, rfl⟩ := two_head hT.out (by omega)
              obtain ⟨g3, rfl⟩ := two_head hT.out.symm (by omega)
              have hap : Hid (M.Apart T B i 0) := M.apart_zero T B i
              go_wp2
              go_loopw [11] (fun qk ws => ∃ (k : Nat) (T B : List Nat), k ≤ m ∧ qk = .int .i64 (k : Int) ∧ Hid (T.length = m) ∧ Hid (B.length = m) ∧ Hid (M.Red F P T B) ∧ Hid (∀ (u y : Nat), u < i → B[u]? = some y → y = 1) ∧ Hid (M.Apart T B i k) ∧ Hid (Two ws G (.slice (some ⟨g1, 0, none⟩) m c1) (.slice (some ⟨g3, 0, none⟩) m c3) (M.ints T) (M.ints B)) ∧ Hid (Below w.heap.size w ws) ∧ G ≤ ws.heap.size) (fun qk _ => m - (intOf qk).toNat)
              case atStart => exact ⟨0, T, B, Nat.zero_le _, rfl, hTl2, hBl2, hred2, hone, hap, hT, hbr, hzr⟩
              case round =>
                clear hTl2 hBl2 hred2 hone hap hT hbr hzr T B
                obtain ⟨k, T, B, hk, rfl, hTl, hBl, hred, hone, hap, hT, hbr, hzs⟩ := hrel
                obtain ⟨y, hy⟩ : ∃ y, B[i]? = some y := ⟨_, List.getElem?_eq_getElem (by rw [hBl.out]; exact him)⟩
                have hy0 := M.red_lows hred.out hy
                have hyF := M.red_low_le hred.out hy
                obtain ⟨q1, q2, q3, q4⟩ := own64_cell hT.out.2.1 ((M.ints_len B).trans hBl.out) (M.ints_at hy)
                by_cases hkm : k < m
                · have hki : (k : Int) < (m : Int) := by omega
                  by_cases hy1 : 1 < y
                  · have hyi : (1 : Int) < (y : Int) := by omega
                    obtain ⟨x, hx⟩ : ∃ x, T[k]? = some x := ⟨_, List.getElem?_eq_getElem (by rw [hTl.out]; exact hkm)⟩
                    have hx0 := M.red_pos hred.out hx
                    have hxF := M.red_top_le hred.out hx
                    obtain ⟨p1, p2, p3, p4⟩ := own64_cell hT.out.1 ((M.ints_len T).trans hTl.out) (M.ints_at hx)
                    have Hx := Lib.hid hx
                    have Hy := Lib.hid hy
                    clear hx hy
                    go_wp2
                    go_region
                    obtain ⟨Z, hZ⟩ : ∃ Z, Z = wr.drew := ⟨_, rfl⟩
                    have hTZ : Hid (Two Z G (.slice (some ⟨g1, 0, none⟩) m c1) (.slice (some ⟨g3, 0, none⟩) m c3) (M.ints T) (M.ints B)) := by rw [hZ]; exact hT.out
                    have hbZ : Hid (Below w.heap.size w Z) := by rw [hZ]; exact hbr.out.drew
                    have hzZ : G ≤ Z.heap.size := by rw [hZ]; exact hzs
                    rw [← hZ]
                    clear hZ hT hbr hzs p1 p2 p4 q1 q2 q4 hki
                    obtain ⟨D, hD⟩ : ∃ D, Hid (Nat.gcd x y = D) := ⟨_, rfl⟩
                    have hD0 : 0 < D := by rw [← hD.out]; exact Nat.gcd_pos_of_pos_left _ hx0
                    have hDx : D ≤ x := by rw [← hD.out]; exact Nat.gcd_le_left _ hx0
                    have hDi : ¬ (D : Int) = 0 := by omega
                    go_wp2
                    go_loopw [12, 13] (fun qa qb ws => ∃ (u v : Nat), qa = .int .i64 (u : Int) ∧ qb = .int .i64 (v : Int) ∧ 0 < u ∧ u ≤ F ∧ v ≤ F ∧ Hid (Nat.gcd u v = D) ∧ ws = Z) (fun _ qb _ => (intOf qb).toNat)
                    case atStart => exact ⟨x, y, rfl, rfl, hx0, hxF, hyF, hD, rfl⟩
                    case round =>
                      obtain ⟨u, v, rfl, rfl, hu0, huF, hvF, hg, rfl⟩ := hrel
                      by_cases hv0 : 0 < v
                      · have hvi : (0 : Int) < (v : Int) := by omega
                        have hvn : ¬ (v : Int) = 0 := by omega
                        obtain ⟨r, hr⟩ : ∃ r, Hid (u % v = r) := ⟨_, rfl⟩
                        have hrv : r < v := by rw [← hr.out]; exact Nat.mod_lt _ hv0
                        have hg2 : Hid (Nat.gcd v r = D) := by show _ = _; rw [← hr.out, M.gcd_step9]; exact hg.out
                        have hri : (u : Int) % (v : Int) = (r : Int) := by rw [← hr.out]; exact (Int.natCast_emod u v).symm
                        have hri9 : Hid (wrap64 ((u : Int) % (v : Int)) = (r : Int)) := by show _ = _; rw [hri]; exact IntWalk.wrap64_in _ ⟨by omega, by omega⟩
                        clear hg hr
                        go_wp2
                        go_roundw
                        case rel => exact ⟨v, r, rfl, by rw [hri], hv0, hvF, by omega, hg2, trivial⟩
                        case measure => rw [hri]; simp [intOf]; omega
                      · obtain rfl : v = 0 := by omega
                        have hvi : ¬ (0 : Int) < ((0 : Nat) : Int) := by omega
                        have hu : u = D := by rw [← hg.out, Nat.gcd_zero_right]
                        subst hu
                        obtain ⟨X, hX⟩ : ∃ X, Hid (x / u = X) := ⟨_, rfl⟩
                        obtain ⟨Y9, hY9⟩ : ∃ Y9, Hid (y / u = Y9) := ⟨_, rfl⟩
                        have hxq : (x : Int) / (u : Int) = (X : Int) := by rw [← hX.out]; exact (Int.natCast_ediv x u).symm
                        have hyq : (y : Int) / (u : Int) = (Y9 : Int) := by rw [← hY9.out]; exact (Int.natCast_ediv y u).symm
                        have hXx : X ≤ x := by rw [← hX.out]; exact Nat.div_le_self _ _
                        have hYy : Y9 ≤ y := by rw [← hY9.out]; exact Nat.div_le_self _ _
                        have hX9 : Hid (wrap64 ((x : Int) / (u : Int)) = (X : Int)) := by show _ = _; rw [hxq]; exact IntWalk.wrap64_in _ ⟨by omega, by omega⟩
                        have hY8 : Hid (wrap64 ((y : Int) / (u : Int)) = (Y9 : Int)) := by show _ = _; rw [hyq]; exact IntWalk.wrap64_in _ ⟨by omega, by omega⟩
                        have hst := Lib.hid (M.red_step hred.out Hx.out Hy.out)
                        have hap2 := Lib.hid (M.apart_step hap.out Hx.out Hy.out hy0)
                        rw [hD.out, hX.out, hY9.out] at hst hap2
                        have hone2 : Hid (∀ (u y : Nat), u < i → (B.set i Y9)[u]? = some y → y = 1) := fun u' y' hu' hy' => hone.out u' y' hu' (by rwa [List.getElem?_set_ne (by omega)] at hy')
                        have hs1 := hTZ.out.set ((M.ints_len T).trans hTl.out) k (X : Int)
                        rw [← M.ints_set] at hs1
                        have hs2 := hs1.symm.set ((M.ints_len B).trans hBl.out) i (Y9 : Int)
                        rw [← M.ints_set] at hs2
                        have hs3 := Lib.hid hs2.symm
                        obtain ⟨p1, p2, p3, p4⟩ := own64_cell hTZ.out.1 ((M.ints_len T).trans hTl.out) (M.ints_at Hx.out)
                        obtain ⟨q1, q2, q3, q4⟩ := own64_cell hs1.2.1 ((M.ints_len B).trans hBl.out) (M.ints_at Hy.out)
                        have hb8 := Lib.hid (below_setCell (below_setCell hbZ.out (by omega : w.heap.size ≤ g1) (k := k) (.int .i64 (X : Int))) (by omega : w.heap.size ≤ g3) (k := i) (.int .i64 (Y9 : Int)))
                        have hz8 : G ≤ ((wr.setCell ⟨g1, k, none⟩ (.int .i64 (X : Int))).setCell ⟨g3, i, none⟩ (.int .i64 (Y9 : Int))).heap.size := by simpa using hzZ
                        clear hs1 hs2 hTZ hbZ hred hap hone hg hD
                        go_wp2
                        go_roundw
                        case rel => exact ⟨k + 1, T.set k X, B.set i Y9, by omega, by go_num, by show _ = _; rw [List.length_set]; exact hTl.out, by show _ = _; rw [List.length_set]; exact hBl.out, hst, hone2, hap2, hs3, hb8, hz8⟩
                        case measure => simp [intOf]; omega
                  · have hyi : ¬ (1 : Int) < (y : Int) := by omega
                    have hy1' : y = 1 := by omega
                    have hone2 : Hid (∀ (u y : Nat), u < i + 1 → B[u]? = some y → y = 1) := fun u y' hu hy' => by
                      rcases Nat.lt_or_ge u i with h1 | h1
                      · exact hone.out u y' h1 hy'
                      · obtain rfl : u = i := by omega
                        rw [hy] at hy'; injection hy' with e; omega
                    clear hone hap hy hy1'
                    go_wp2
                    go_roundw
                    case rel => exact ⟨i + 1, T, B, by omega, by go_num, hTl, hBl, hred, hone2, hT, hbr, hzs⟩
                    case measure => simp [intOf]; omega
                · obtain rfl : k = m := by omega
                  have hki : ¬ (k : Int) < (k : Int) := by omega
                  have hy1' : y = 1 := M.low_one hred.out hy (by rw [hTl.out]; exact hap.out)
                  have hone2 : Hid (∀ (u y : Nat), u < i + 1 → B[u]? = some y → y = 1) := fun u y' hu hy' => by
                    rcases Nat.lt_or_ge u i with h1 | h1
                    · exact hone.out u y' h1 hy'
                    · obtain rfl : u = i := by omega
                      rw [hy] at hy'; injection hy' with e; omega
                  clear hone hap hy hy1'
                  go_wp2
                  go_roundw
                  case rel => exact ⟨i + 1, T, B, by omega, by go_num, hTl, hBl, hred, hone2, hT, hbr, hzs⟩
                  case measure => simp [intOf]; omega
            · obtain rfl : i = m := by omega
              have hge : ¬ (i : Int) < (i : Int) := by omega
              have hend := Lib.hid (M.red_end hred2.out (fun u y hy => hone.out u y (by have := (List.getElem?_eq_some_iff.1 hy).1; have := hBl2.out; omega) hy))
              have hpos := Lib.hid (fun u y (hy : T[u]? = some y) => M.red_pos hred2.out hy)
              have hst : Hid (M.prodL (T.take 0) = 1) := rfl
              clear hone hred2
              go_wp2
              go_loopw [15, 16] (fun qo qk ws => ∃ (k p : Nat), k ≤ i ∧ qk = .int .i64 (k : Int) ∧ qo = .int .i64 (p : Int) ∧ Hid (M.prodL (T.take k) = p) ∧ ws = wr) (fun _ qk _ => i - (intOf qk).toNat)
              case atStart => exact ⟨0, 1, Nat.zero_le _, rfl, rfl, hst, rfl⟩
              case round =>
                obtain ⟨k, p, hk, rfl, rfl, hp, rfl⟩ := hrel
                clear hst
                by_cases hki : k < i
                · have hkii : (k : Int) < (i : Int) := by omega
                  obtain ⟨g1, rfl⟩ := two_head hT.out (by omega)
                  obtain ⟨x, hx⟩ : ∃ x, T[k]? = some x := ⟨_, List.getElem?_eq_getElem (by rw [hTl2.out]; exact hki)⟩
                  obtain ⟨p1, p2, p3, p4⟩ := own64_cell hT.out.1 ((M.ints_len T).trans hTl2.out) (M.ints_at hx)
                  obtain ⟨r, hr⟩ : ∃ r, Hid (p * x = r) := ⟨_, rfl⟩
                  have hs : Hid (M.prodL (T.take (k + 1)) = r) := by show _ = _; rw [M.prodL_take_succ hx, hp.out, hr.out]
                  have hrF : r ≤ F := by
                    rw [← hs.out]
                    exact Nat.le_trans (M.prodL_take_le hpos.out (k + 1)) hend.out.2
                  have hmul : (p : Int) * (x : Int) = (r : Int) := by rw [← hr.out, Int.natCast_mul]
                  clear hx hp hr hend
                  go_wp2
                  go_roundw
                  case rel => exact ⟨k + 1, r, by omega, by go_num, rfl, hs, trivial⟩
                  case measure => simp [intOf]; omega
                · obtain rfl : k = i := by omega
                  have hkii : ¬ (k : Int) < (k : Int) := by omega
                  have hfin : Hid (Q9 = p) := by
                    show _ = _
                    rw [← hQ9.out, ← hend.out.1, ← hp.out, List.take_of_length_le (by rw [hTl2.out]; exact Nat.le_refl _)]
                  clear hend hp
                  go_wp2
                  go_ret
                  exact ⟨by rw [hfin.out]; rfl, hbr.out⟩
end Go.Proofs.Ytkcldfliiagloaa

/- append of one number to a row of the call's own, with what else is kept: no conditions. -/
namespace Go.Proofs.Ytkcldfliiagloaa
open Go.RowKit

/-- append of one number, with what else is kept -/
theorem push64K {ops : Array Oper} {rest : List Oper} {o : Oper} {a : Act} {Q : Exit → Act → World → Prop} (hgd : o.guard = none) (s x : Operand)
    (ho : o.op = .call { callee := .builtin .append, args := #[s, x], argTypes := #[22, 22] }) (w : World) (B : Nat) (A : Option Addr) (n c : Nat) (zs : List Int) (y : Int)
    (hs : a.eval s = .slice A n c) (N : Nat) (hx : a.eval x = .slice (some ⟨N, 0, none⟩) 1 1) (hN : N = w.heap.size) (hown : Hid (Own64 w B (.slice A n c) zs)) (hB : B ≤ w.heap.size) (hlen : n ≤ 1000000)
    (h : ∀ A' c' w', Hid (Own64 w' B (.slice A' (n + 1) c') (zs ++ [y])) → Hid ((w.alloc (.cells #[.int .i64 y] 2)).grownBy w' (Value.slice A n c).ownBlock) → Hid ((Value.slice A' (n + 1) c').ownBlock = (Value.slice A n c).ownBlock ∨ (Value.slice A' (n + 1) c').ownBlock = some (w.alloc (.cells #[.int .i64 y] 2)).heap.size) → wpList Try.prog ops Q rest (a.put o.dst (.slice A' (n + 1) c')) w') :
    wpList Try.prog ops Q (o :: rest) a (w.alloc (.cells #[.int .i64 y] 2)) := by
  subst hN
  obtain ⟨i0, hi0, hz0, hz1, hz2⟩ := info_parts info64
  have hown := hown.out
  have hn := own64_len hown
  subst hn
  refine wpList_append_own_at _ hgd s x 22 ho B 2 i0 (.int .i64 0) 1 8 Try.underlying22 hi0 hz0 hz1 hz2 rfl (by decide) _ zs.length (zs.map (Value.int .i64)) hs (hown.alloc _) ⟨w.heap.size, 0, none⟩ 1 1 [.int .i64 y] hx rfl ?_ ?_ ?_ ?_ ?_ ?_
  · intro j u hj
    match j, hj with
    | 0, hj => simp at hj; subst hj; simp [Addr.add]
  · intro u hu; simp at hu; subst hu; rfl
  · unfold maxLen; omega
  · omega
  · simp; omega
  · intro v' w1 hown1 hg1 _ hwh
    obtain ⟨A, c, rfl⟩ : ∃ A c, v' = .slice A (zs.length + 1) c := own_shape hown1
    refine h A c w1 ?_ hg1 hwh
    have e : (zs ++ [y]).length = zs.length + 1 := by simp
    show Own64 _ _ _ _
    unfold Own64
    rw [e]
    simpa using hown1

end Go.Proofs.Ytkcldfliiagloaa

/- l09Next: the nodes that can come next, as the model finds them. Written by genn.py. -/
namespace Go.Proofs.Ytkcldfliiagloaa
open Go.RowKit

set_option maxHeartbeats 8000000 in
set_option maxRecDepth 100000 in
theorem l09Next (A A2 : Option Addr) (xs b : List Int) (n c L c2 : Nat) (w : World) (hn : Hid (xs.length = n)) (ht : Hid (M.isTree xs = true)) (hbg : Hid (M.Bgn n (M.parents xs) b)) (hL : Hid (b.length = L)) (h : Ints w w.heap.size A xs) (h2 : Ints w w.heap.size A2 b) :
    Calls Try.prog 86 #[.agg #[.slice A n c], .slice A2 L c2] w fun e w' => ∃ A' m c', e = .returned (.slice A' m c') ∧ Own64 w' w.heap.size (.slice A' m c') (M.rdyTo (M.parents xs) b n) ∧ Below w.heap.size w w' := by
  have hxl := M.tree_len ht.out
  rw [hn.out] at hxl
  have h24 := hxl.2
  have h1 := hxl.1
  have hLn : L ≤ n := by rw [← hL.out]; exact M.bgn_len hbg.out
  have hmk := fun W => run_make_row' (P := Try.prog) (w := W) 91 4 (.bool false) 1 Try.underlying91 infoB rfl .i64 .i64 n (by omega) (by omega)
  have cT0 : Hid ((w.alloc (.cells #[.slice A n c] 28)).cell? ⟨w.heap.size, 0, none⟩ = some (.slice A n c)) := by simp [Hid, go_sem]
  have hB0 := Lib.hid (bal (b0 w) (.cells #[.slice A n c] 28))
  have H1 := Lib.hid (h.al (.cells #[.slice A n c] 28))
  have H2 := Lib.hid h2
  have hzW : w.heap.size < (w.alloc (.cells #[.slice A n c] 28)).heap.size := by simp
  obtain ⟨W, hW⟩ : ∃ W, W = w.alloc (.cells #[.slice A n c] 28) := ⟨_, rfl⟩
  rw [← hW] at cT0 hB0 H1 hzW
  have hP : ∀ X, Hid (Below W.heap.size W X) → Calls Try.prog 103 #[.agg #[.slice A n c]] X fun e w' => ∃ pb c' ps, e = .returned (.slice (some ⟨pb, 0, none⟩) n c') ∧ Hid (M.ParsOK xs ps) ∧ Hid (Own64 w' X.heap.size (.slice (some ⟨pb, 0, none⟩) n c') ps) ∧ X.heap.size ≤ pb ∧ pb < w'.heap.size ∧ Below X.heap.size X w' := fun X hX => by
    have := l01Parents A xs c X ht (H1.out.be hX.out)
    rw [hn.out] at this
    refine this.mono fun e w' ⟨A', c', ps, he, hk, ho, hb⟩ => ?_
    have hpl : ps.length = n := by rw [hk.out.1, hn.out]
    obtain ⟨pb, rfl⟩ : ∃ pb, A' = some ⟨pb, 0, none⟩ := by
      rcases ho.2 with ⟨q1, q2⟩ | ⟨pb, cap, cur, hv, _⟩
      · rw [hpl] at q2; omega
      · injection hv with q1; exact ⟨pb, q1⟩
    have hlt := World.ownsRow.lt ho pb rfl
    exact ⟨pb, c', ps, he, hk, ho, hlt.1, hlt.2, hb⟩
  have HP := Lib.hid hP
  clear h h2 hxl hP
  go_enter Try.func86, Try.ntmps86
  go_wp2_with fail
  rw [← hW]
  clear hW
  have B : Hid (Below W.heap.size W W.drew) := (Below.refl _ _).drew
  have u0 : W.drew.cell? ⟨w.heap.size, 0, none⟩ = some (.slice A n c) := cT0.out
  refine wp_region_held_drew (S := (fun w' => w'.cell? ⟨w.heap.size, 0, none⟩ = some (.slice A n c) ∧ Hid (Below W.heap.size W w'))) (by kernel_rfl) (by exact ⟨u0, B⟩) (fun hHeld0 => ?_)
  refine anyTake 0 (some 10) (.agg #[.slice A n c]) rfl rfl (by kernel_rfl) (by kernel_rfl) (by kernel_rfl) (fun _ _ _ h => h) (by rfl) (by intro w hSw; (try dsimp only at hSw); go_simp) (by assumption) ?_
  try simp only [Act.put, List.setIfInBounds_toArray, List.set_cons_zero, List.set_cons_succ]
  refine anyTake 2 (some 12) (.agg #[.slice A n c]) rfl rfl (by kernel_rfl) (by kernel_rfl) (by kernel_rfl) (fun _ _ _ h => h) (by rfl) (by intro w hSw; (try dsimp only at hSw); go_simp) (by assumption) ?_
  try simp only [Act.put, List.setIfInBounds_toArray, List.set_cons_zero, List.set_cons_succ]
  refine wpAnyH_ready (rs := [1, 5]) (by kernel_rfl) (by simp) ?_
  refine AllReadyH.cons rfl (fun K hK => ?_) (AllReadyH.cons rfl (fun K hK => ?_) AllReadyH.nil)
  go_simp
  go_at_call 103
  refine (HP.out _ B).mono ?_
  rintro e x1 ⟨pb, c3, ps, rfl, hok, Hp, hp1, hp2, hb⟩
  go_wp2_with fail
  replace B : Hid (Below W.heap.size W x1) := btr B.out hb
  refine hK.out _ _ (by exact ⟨cell_be cT0.out B.out, B⟩) (fun hHeld => ?_)
  clear hK K
  try simp only [Act.put, List.setIfInBounds_toArray, List.set_cons_zero, List.set_cons_succ]
  replace Hp : Hid (Own64 x1 w.heap.size (.slice (some ⟨pb, 0, none⟩) n c3) ps) := own_mono Hp.out (by have : W.drew.heap.size = W.heap.size := rfl; omega)
  have zX : W.heap.size ≤ x1.heap.size := B.out.size
  have hpX : pb < x1.heap.size := hp2
  clear hp2 hb
  clear hHeld0
  have hHeld0 := hHeld
  clear hHeld
  refine wpAnyH_ready (rs := [3, 5]) (by kernel_rfl) (by simp) ?_
  refine AllReadyH.cons rfl (fun K hK => ?_) (AllReadyH.cons rfl (fun K hK => ?_) AllReadyH.nil)
  go_simp
  go_at_call 96
  refine (l01N A n c _).mono ?_
  rintro e x2 ⟨rfl, hb⟩
  go_wp2_with fail
  replace B : Hid (Below W.heap.size W x2) := btr B.out hb
  refine hK.out _ _ (by exact ⟨cell_be cT0.out B.out, B⟩) (fun hHeld => ?_)
  clear hK K
  try simp only [Act.put, List.setIfInBounds_toArray, List.set_cons_zero, List.set_cons_succ]
  replace Hp : Hid (Own64 x2 w.heap.size (.slice (some ⟨pb, 0, none⟩) n c3) ps) := own_be Hp.out hb
  replace zX : W.heap.size ≤ x2.heap.size := B.out.size
  replace hpX : pb < x2.heap.size := by have := hb.size; omega
  clear hb
  clear hHeld0
  have hHeld0 := hHeld
  clear hHeld
  refine anyTake 6 (some 5) (.slice (some ⟨pb, 0, none⟩) n c3) rfl rfl (by kernel_rfl) (by kernel_rfl) (by kernel_rfl) (fun _ _ _ h => h) (by rfl) (by intro w hSw; (try dsimp only at hSw); go_simp) (by assumption) ?_
  try simp only [Act.put, List.setIfInBounds_toArray, List.set_cons_zero, List.set_cons_succ]
  refine wpAnyH_ready (rs := [4, 5]) (by kernel_rfl) (by simp) ?_
  refine AllReadyH.cons rfl (fun K hK => ?_) (AllReadyH.cons rfl (fun K hK => ?_) AllReadyH.nil)
  have hmkX := hmk x2
  go_simp
  have hb := bal (b0 (x2)) (.cells (madeCells #[.bool false] n) 4)
  replace B : Hid (Below W.heap.size W ((x2).alloc (.cells (madeCells #[.bool false] n) 4))) := bal B.out _
  refine hK.out _ _ (by exact ⟨cell_be cT0.out B.out, B⟩) (fun hHeld => ?_)
  clear hK K
  try simp only [Act.put, List.setIfInBounds_toArray, List.set_cons_zero, List.set_cons_succ]
  have Hm : Hid (OwnB ((x2).alloc (.cells (madeCells #[.bool false] n) 4)) w.heap.size (.slice (some ⟨(x2).heap.size, 0, none⟩) n n) (List.replicate n false)) := ownB_made (by omega) (by unfold maxLen; omega)
  clear hmkX
  replace Hp : Hid (Own64 ((x2).alloc (.cells (madeCells #[.bool false] n) 4)) w.heap.size (.slice (some ⟨pb, 0, none⟩) n c3) ps) := own_be Hp.out hb
  have hsz : ((x2).alloc (.cells (madeCells #[.bool false] n) 4)).heap.size = (x2).heap.size + 1 := by simp
  obtain ⟨g, hg⟩ : ∃ g, (x2).heap.size = g := ⟨_, rfl⟩
  rw [hg] at Hm ⊢
  have hgX : g < ((x2).alloc (.cells (madeCells #[.bool false] n) 4)).heap.size := by omega
  have hpg' : pb < g := by omega
  have hWg : W.heap.size ≤ g := by omega
  replace hpX : pb < ((x2).alloc (.cells (madeCells #[.bool false] n) 4)).heap.size := by omega
  replace zX : W.heap.size ≤ ((x2).alloc (.cells (madeCells #[.bool false] n) 4)).heap.size := B.out.size
  clear hb hsz hg
  generalize ((x2).alloc (.cells (madeCells #[.bool false] n) 4)) = x3 at *
  clear hHeld0
  have hHeld0 := hHeld
  clear hHeld
  refine anyTake 7 (some 6) (.slice (some ⟨g, 0, none⟩) n n) rfl rfl (by kernel_rfl) (by kernel_rfl) (by kernel_rfl) (fun _ _ _ h => h) (by rfl) (by intro w hSw; (try dsimp only at hSw); go_simp) (by assumption) ?_
  try simp only [Act.put, List.setIfInBounds_toArray, List.set_cons_zero, List.set_cons_succ]
  refine wpAnyH_ready (rs := [5]) (by kernel_rfl) (by simp) ?_
  refine AllReadyH.cons rfl (fun K hK => ?_) AllReadyH.nil
  go_simp
  have hb := bal (b0 (x3)) (.cells #[] 2)
  replace B : Hid (Below W.heap.size W ((x3).alloc (.cells #[] 2))) := bal B.out _
  refine hK.out _ _ (by exact ⟨cell_be cT0.out B.out, B⟩) (fun hHeld => ?_)
  clear hK K
  try simp only [Act.put, List.setIfInBounds_toArray, List.set_cons_zero, List.set_cons_succ]
  have Ho : Hid (Own64 ((x3).alloc (.cells #[] 2)) w.heap.size (.slice (some ⟨(x3).heap.size, 0, none⟩) 0 0) []) := own64_empty (by omega)
  replace Hm : Hid (OwnB ((x3).alloc (.cells #[] 2)) w.heap.size (.slice (some ⟨g, 0, none⟩) n n) (List.replicate n false)) := own_be Hm.out hb
  replace Hp : Hid (Own64 ((x3).alloc (.cells #[] 2)) w.heap.size (.slice (some ⟨pb, 0, none⟩) n c3) ps) := own_be Hp.out hb
  have hsz : ((x3).alloc (.cells #[] 2)).heap.size = (x3).heap.size + 1 := by simp
  obtain ⟨o, ho⟩ : ∃ g, (x3).heap.size = g := ⟨_, rfl⟩
  rw [ho] at Ho ⊢
  have hoX : o < ((x3).alloc (.cells #[] 2)).heap.size := by omega
  have hWo : W.heap.size ≤ o := by omega
  have hog : g < o := by omega
  replace hgX : g < ((x3).alloc (.cells #[] 2)).heap.size := by omega
  have hopb : pb < o := by omega
  replace hpX : pb < ((x3).alloc (.cells #[] 2)).heap.size := by omega
  replace zX : W.heap.size ≤ ((x3).alloc (.cells #[] 2)).heap.size := B.out.size
  clear hb hsz ho
  generalize ((x3).alloc (.cells #[] 2)) = x4 at *
  clear hHeld0
  have hHeld0 := hHeld
  clear hHeld
  refine anyTake 8 (some 7) (.slice (some ⟨o, 0, none⟩) 0 0) rfl rfl (by kernel_rfl) (by kernel_rfl) (by kernel_rfl) (fun _ _ _ h => h) (by rfl) (by intro w hSw; (try dsimp only at hSw); go_simp) (by assumption) ?_
  try simp only [Act.put, List.setIfInBounds_toArray, List.set_cons_zero, List.set_cons_succ]
  refine wpAnyH_done (by kernel_rfl) ?_ _
  obtain ⟨X, hX⟩ : ∃ X, X = x4 := ⟨_, rfl⟩
  subst hX
  clear hHeld0
  rotate_left 1
  go_simp
  have hb := bal (b0 (x2)) (.cells #[] 2)
  replace B : Hid (Below W.heap.size W ((x2).alloc (.cells #[] 2))) := bal B.out _
  refine hK.out _ _ (by exact ⟨cell_be cT0.out B.out, B⟩) (fun hHeld => ?_)
  clear hK K
  try simp only [Act.put, List.setIfInBounds_toArray, List.set_cons_zero, List.set_cons_succ]
  have Ho : Hid (Own64 ((x2).alloc (.cells #[] 2)) w.heap.size (.slice (some ⟨(x2).heap.size, 0, none⟩) 0 0) []) := own64_empty (by omega)
  replace Hp : Hid (Own64 ((x2).alloc (.cells #[] 2)) w.heap.size (.slice (some ⟨pb, 0, none⟩) n c3) ps) := own_be Hp.out hb
  have hsz : ((x2).alloc (.cells #[] 2)).heap.size = (x2).heap.size + 1 := by simp
  obtain ⟨o, ho⟩ : ∃ g, (x2).heap.size = g := ⟨_, rfl⟩
  rw [ho] at Ho ⊢
  have hoX : o < ((x2).alloc (.cells #[] 2)).heap.size := by omega
  have hWo : W.heap.size ≤ o := by omega
  have hopb : pb < o := by omega
  replace hpX : pb < ((x2).alloc (.cells #[] 2)).heap.size := by omega
  replace zX : W.heap.size ≤ ((x2).alloc (.cells #[] 2)).heap.size := B.out.size
  clear hb hsz ho
  generalize ((x2).alloc (.cells #[] 2)) = x5 at *
  clear hHeld0
  have hHeld0 := hHeld
  clear hHeld
  refine wpAnyH_ready (rs := [4]) (by kernel_rfl) (by simp) ?_
  refine AllReadyH.cons rfl (fun K hK => ?_) AllReadyH.nil
  have hmkX := hmk x5
  go_simp
  have hb := bal (b0 (x5)) (.cells (madeCells #[.bool false] n) 4)
  replace B : Hid (Below W.heap.size W ((x5).alloc (.cells (madeCells #[.bool false] n) 4))) := bal B.out _
  refine hK.out _ _ (by exact ⟨cell_be cT0.out B.out, B⟩) (fun hHeld => ?_)
  clear hK K
  try simp only [Act.put, List.setIfInBounds_toArray, List.set_cons_zero, List.set_cons_succ]
  have Hm : Hid (OwnB ((x5).alloc (.cells (madeCells #[.bool false] n) 4)) w.heap.size (.slice (some ⟨(x5).heap.size, 0, none⟩) n n) (List.replicate n false)) := ownB_made (by omega) (by unfold maxLen; omega)
  clear hmkX
  replace Ho : Hid (Own64 ((x5).alloc (.cells (madeCells #[.bool false] n) 4)) w.heap.size (.slice (some ⟨o, 0, none⟩) 0 0) []) := own_be Ho.out hb
  replace Hp : Hid (Own64 ((x5).alloc (.cells (madeCells #[.bool false] n) 4)) w.heap.size (.slice (some ⟨pb, 0, none⟩) n c3) ps) := own_be Hp.out hb
  have hsz : ((x5).alloc (.cells (madeCells #[.bool false] n) 4)).heap.size = (x5).heap.size + 1 := by simp
  obtain ⟨g, hg⟩ : ∃ g, (x5).heap.size = g := ⟨_, rfl⟩
  rw [hg] at Hm ⊢
  have hgX : g < ((x5).alloc (.cells (madeCells #[.bool false] n) 4)).heap.size := by omega
  have hpg' : pb < g := by omega
  have hWg : W.heap.size ≤ g := by omega
  have hog : o < g := by omega
  replace hoX : o < ((x5).alloc (.cells (madeCells #[.bool false] n) 4)).heap.size := by omega
  replace hpX : pb < ((x5).alloc (.cells (madeCells #[.bool false] n) 4)).heap.size := by omega
  replace zX : W.heap.size ≤ ((x5).alloc (.cells (madeCells #[.bool false] n) 4)).heap.size := B.out.size
  clear hb hsz hg
  generalize ((x5).alloc (.cells (madeCells #[.bool false] n) 4)) = x6 at *
  clear hHeld0
  have hHeld0 := hHeld
  clear hHeld
  refine anyTake 7 (some 6) (.slice (some ⟨g, 0, none⟩) n n) rfl rfl (by kernel_rfl) (by kernel_rfl) (by kernel_rfl) (fun _ _ _ h => h) (by rfl) (by intro w hSw; (try dsimp only at hSw); go_simp) (by assumption) ?_
  try simp only [Act.put, List.setIfInBounds_toArray, List.set_cons_zero, List.set_cons_succ]
  refine anyTake 8 (some 7) (.slice (some ⟨o, 0, none⟩) 0 0) rfl rfl (by kernel_rfl) (by kernel_rfl) (by kernel_rfl) (fun _ _ _ h => h) (by rfl) (by intro w hSw; (try dsimp only at hSw); go_simp) (by assumption) ?_
  try simp only [Act.put, List.setIfInBounds_toArray, List.set_cons_zero, List.set_cons_succ]
  refine wpAnyH_done (by kernel_rfl) ?_ _
  obtain ⟨X, hX⟩ : ∃ X, X = x6 := ⟨_, rfl⟩
  subst hX
  clear hHeld0
  rotate_left 1
  go_simp
  have hb := bal (b0 (x1)) (.cells #[] 2)
  replace B : Hid (Below W.heap.size W ((x1).alloc (.cells #[] 2))) := bal B.out _
  refine hK.out _ _ (by exact ⟨cell_be cT0.out B.out, B⟩) (fun hHeld => ?_)
  clear hK K
  try simp only [Act.put, List.setIfInBounds_toArray, List.set_cons_zero, List.set_cons_succ]
  have Ho : Hid (Own64 ((x1).alloc (.cells #[] 2)) w.heap.size (.slice (some ⟨(x1).heap.size, 0, none⟩) 0 0) []) := own64_empty (by omega)
  replace Hp : Hid (Own64 ((x1).alloc (.cells #[] 2)) w.heap.size (.slice (some ⟨pb, 0, none⟩) n c3) ps) := own_be Hp.out hb
  have hsz : ((x1).alloc (.cells #[] 2)).heap.size = (x1).heap.size + 1 := by simp
  obtain ⟨o, ho⟩ : ∃ g, (x1).heap.size = g := ⟨_, rfl⟩
  rw [ho] at Ho ⊢
  have hoX : o < ((x1).alloc (.cells #[] 2)).heap.size := by omega
  have hWo : W.heap.size ≤ o := by omega
  have hopb : pb < o := by omega
  replace hpX : pb < ((x1).alloc (.cells #[] 2)).heap.size := by omega
  replace zX : W.heap.size ≤ ((x1).alloc (.cells #[] 2)).heap.size := B.out.size
  clear hb hsz ho
  generalize ((x1).alloc (.cells #[] 2)) = x7 at *
  clear hHeld0
  have hHeld0 := hHeld
  clear hHeld
  refine wpAnyH_ready (rs := [3]) (by kernel_rfl) (by simp) ?_
  refine AllReadyH.cons rfl (fun K hK => ?_) AllReadyH.nil
  go_simp
  go_at_call 96
  refine (l01N A n c _).mono ?_
  rintro e x8 ⟨rfl, hb⟩
  go_wp2_with fail
  replace B : Hid (Below W.heap.size W x8) := btr B.out hb
  refine hK.out _ _ (by exact ⟨cell_be cT0.out B.out, B⟩) (fun hHeld => ?_)
  clear hK K
  try simp only [Act.put, List.setIfInBounds_toArray, List.set_cons_zero, List.set_cons_succ]
  replace Hp : Hid (Own64 x8 w.heap.size (.slice (some ⟨pb, 0, none⟩) n c3) ps) := own_be Hp.out hb
  replace Ho : Hid (Own64 x8 w.heap.size (.slice (some ⟨o, 0, none⟩) 0 0) []) := own_be Ho.out hb
  replace hoX : o < x8.heap.size := by have := hb.size; omega
  replace zX : W.heap.size ≤ x8.heap.size := B.out.size
  replace hpX : pb < x8.heap.size := by have := hb.size; omega
  clear hb
  clear hHeld0
  have hHeld0 := hHeld
  clear hHeld
  refine anyTake 6 (some 5) (.slice (some ⟨pb, 0, none⟩) n c3) rfl rfl (by kernel_rfl) (by kernel_rfl) (by kernel_rfl) (fun _ _ _ h => h) (by rfl) (by intro w hSw; (try dsimp only at hSw); go_simp) (by assumption) ?_
  try simp only [Act.put, List.setIfInBounds_toArray, List.set_cons_zero, List.set_cons_succ]
  refine wpAnyH_ready (rs := [4]) (by kernel_rfl) (by simp) ?_
  refine AllReadyH.cons rfl (fun K hK => ?_) AllReadyH.nil
  have hmkX := hmk x8
  go_simp
  have hb := bal (b0 (x8)) (.cells (madeCells #[.bool false] n) 4)
  replace B : Hid (Below W.heap.size W ((x8).alloc (.cells (madeCells #[.bool false] n) 4))) := bal B.out _
  refine hK.out _ _ (by exact ⟨cell_be cT0.out B.out, B⟩) (fun hHeld => ?_)
  clear hK K
  try simp only [Act.put, List.setIfInBounds_toArray, List.set_cons_zero, List.set_cons_succ]
  have Hm : Hid (OwnB ((x8).alloc (.cells (madeCells #[.bool false] n) 4)) w.heap.size (.slice (some ⟨(x8).heap.size, 0, none⟩) n n) (List.replicate n false)) := ownB_made (by omega) (by unfold maxLen; omega)
  clear hmkX
  replace Ho : Hid (Own64 ((x8).alloc (.cells (madeCells #[.bool false] n) 4)) w.heap.size (.slice (some ⟨o, 0, none⟩) 0 0) []) := own_be Ho.out hb
  replace Hp : Hid (Own64 ((x8).alloc (.cells (madeCells #[.bool false] n) 4)) w.heap.size (.slice (some ⟨pb, 0, none⟩) n c3) ps) := own_be Hp.out hb
  have hsz : ((x8).alloc (.cells (madeCells #[.bool false] n) 4)).heap.size = (x8).heap.size + 1 := by simp
  obtain ⟨g, hg⟩ : ∃ g, (x8).heap.size = g := ⟨_, rfl⟩
  rw [hg] at Hm ⊢
  have hgX : g < ((x8).alloc (.cells (madeCells #[.bool false] n) 4)).heap.size := by omega
  have hpg' : pb < g := by omega
  have hWg : W.heap.size ≤ g := by omega
  have hog : o < g := by omega
  replace hoX : o < ((x8).alloc (.cells (madeCells #[.bool false] n) 4)).heap.size := by omega
  replace hpX : pb < ((x8).alloc (.cells (madeCells #[.bool false] n) 4)).heap.size := by omega
  replace zX : W.heap.size ≤ ((x8).alloc (.cells (madeCells #[.bool false] n) 4)).heap.size := B.out.size
  clear hb hsz hg
  generalize ((x8).alloc (.cells (madeCells #[.bool false] n) 4)) = x9 at *
  clear hHeld0
  have hHeld0 := hHeld
  clear hHeld
  refine anyTake 7 (some 6) (.slice (some ⟨g, 0, none⟩) n n) rfl rfl (by kernel_rfl) (by kernel_rfl) (by kernel_rfl) (fun _ _ _ h => h) (by rfl) (by intro w hSw; (try dsimp only at hSw); go_simp) (by assumption) ?_
  try simp only [Act.put, List.setIfInBounds_toArray, List.set_cons_zero, List.set_cons_succ]
  refine anyTake 8 (some 7) (.slice (some ⟨o, 0, none⟩) 0 0) rfl rfl (by kernel_rfl) (by kernel_rfl) (by kernel_rfl) (fun _ _ _ h => h) (by rfl) (by intro w hSw; (try dsimp only at hSw); go_simp) (by assumption) ?_
  try simp only [Act.put, List.setIfInBounds_toArray, List.set_cons_zero, List.set_cons_succ]
  refine wpAnyH_done (by kernel_rfl) ?_ _
  obtain ⟨X, hX⟩ : ∃ X, X = x9 := ⟨_, rfl⟩
  subst hX
  clear hHeld0
  rotate_left 1
  go_simp
  have hb := bal (b0 (W.drew)) (.cells #[] 2)
  replace B : Hid (Below W.heap.size W ((W.alloc (.cells #[] 2)).drew)) := bal B.out _
  refine hK.out _ _ (by exact ⟨cell_be cT0.out B.out, B⟩) (fun hHeld => ?_)
  clear hK K
  try simp only [Act.put, List.setIfInBounds_toArray, List.set_cons_zero, List.set_cons_succ]
  have Ho : Hid (Own64 ((W.alloc (.cells #[] 2)).drew) w.heap.size (.slice (some ⟨W.heap.size, 0, none⟩) 0 0) []) := own64_empty (by have : W.drew.heap.size = W.heap.size := rfl; omega)
  have hsz : ((W.alloc (.cells #[] 2)).drew).heap.size = W.heap.size + 1 := by simp
  have hoX : W.heap.size < ((W.alloc (.cells #[] 2)).drew).heap.size := by omega
  have hWo : W.heap.size ≤ W.heap.size := by omega
  have zX : W.heap.size ≤ ((W.alloc (.cells #[] 2)).drew).heap.size := B.out.size
  clear hb hsz
  generalize ((W.alloc (.cells #[] 2)).drew) = x10 at *
  clear hHeld0
  have hHeld0 := hHeld
  clear hHeld
  refine wpAnyH_ready (rs := [1]) (by kernel_rfl) (by simp) ?_
  refine AllReadyH.cons rfl (fun K hK => ?_) AllReadyH.nil
  go_simp
  go_at_call 103
  refine (HP.out _ B).mono ?_
  rintro e x11 ⟨pb, c3, ps, rfl, hok, Hp, hp1, hp2, hb⟩
  go_wp2_with fail
  replace B : Hid (Below W.heap.size W x11) := btr B.out hb
  refine hK.out _ _ (by exact ⟨cell_be cT0.out B.out, B⟩) (fun hHeld => ?_)
  clear hK K
  try simp only [Act.put, List.setIfInBounds_toArray, List.set_cons_zero, List.set_cons_succ]
  replace Hp : Hid (Own64 x11 w.heap.size (.slice (some ⟨pb, 0, none⟩) n c3) ps) := own_mono Hp.out (by have := zX; omega)
  replace Ho : Hid (Own64 x11 w.heap.size (.slice (some ⟨W.heap.size, 0, none⟩) 0 0) []) := own_be Ho.out hb
  have hopb : W.heap.size < pb := by omega
  replace hoX : W.heap.size < x11.heap.size := by have := hb.size; omega
  have zX : W.heap.size ≤ x11.heap.size := B.out.size
  have hpX : pb < x11.heap.size := hp2
  clear hp2 hb
  clear hHeld0
  have hHeld0 := hHeld
  clear hHeld
  refine wpAnyH_ready (rs := [3]) (by kernel_rfl) (by simp) ?_
  refine AllReadyH.cons rfl (fun K hK => ?_) AllReadyH.nil
  go_simp
  go_at_call 96
  refine (l01N A n c _).mono ?_
  rintro e x12 ⟨rfl, hb⟩
  go_wp2_with fail
  replace B : Hid (Below W.heap.size W x12) := btr B.out hb
  refine hK.out _ _ (by exact ⟨cell_be cT0.out B.out, B⟩) (fun hHeld => ?_)
  clear hK K
  try simp only [Act.put, List.setIfInBounds_toArray, List.set_cons_zero, List.set_cons_succ]
  replace Hp : Hid (Own64 x12 w.heap.size (.slice (some ⟨pb, 0, none⟩) n c3) ps) := own_be Hp.out hb
  replace Ho : Hid (Own64 x12 w.heap.size (.slice (some ⟨W.heap.size, 0, none⟩) 0 0) []) := own_be Ho.out hb
  replace hoX : W.heap.size < x12.heap.size := by have := hb.size; omega
  replace zX : W.heap.size ≤ x12.heap.size := B.out.size
  replace hpX : pb < x12.heap.size := by have := hb.size; omega
  clear hb
  clear hHeld0
  have hHeld0 := hHeld
  clear hHeld
  refine anyTake 6 (some 5) (.slice (some ⟨pb, 0, none⟩) n c3) rfl rfl (by kernel_rfl) (by kernel_rfl) (by kernel_rfl) (fun _ _ _ h => h) (by rfl) (by intro w hSw; (try dsimp only at hSw); go_simp) (by assumption) ?_
  try simp only [Act.put, List.setIfInBounds_toArray, List.set_cons_zero, List.set_cons_succ]
  refine wpAnyH_ready (rs := [4]) (by kernel_rfl) (by simp) ?_
  refine AllReadyH.cons rfl (fun K hK => ?_) AllReadyH.nil
  have hmkX := hmk x12
  go_simp
  have hb := bal (b0 (x12)) (.cells (madeCells #[.bool false] n) 4)
  replace B : Hid (Below W.heap.size W ((x12).alloc (.cells (madeCells #[.bool false] n) 4))) := bal B.out _
  refine hK.out _ _ (by exact ⟨cell_be cT0.out B.out, B⟩) (fun hHeld => ?_)
  clear hK K
  try simp only [Act.put, List.setIfInBounds_toArray, List.set_cons_zero, List.set_cons_succ]
  have Hm : Hid (OwnB ((x12).alloc (.cells (madeCells #[.bool false] n) 4)) w.heap.size (.slice (some ⟨(x12).heap.size, 0, none⟩) n n) (List.replicate n false)) := ownB_made (by omega) (by unfold maxLen; omega)
  clear hmkX
  replace Ho : Hid (Own64 ((x12).alloc (.cells (madeCells #[.bool false] n) 4)) w.heap.size (.slice (some ⟨W.heap.size, 0, none⟩) 0 0) []) := own_be Ho.out hb
  replace Hp : Hid (Own64 ((x12).alloc (.cells (madeCells #[.bool false] n) 4)) w.heap.size (.slice (some ⟨pb, 0, none⟩) n c3) ps) := own_be Hp.out hb
  have hsz : ((x12).alloc (.cells (madeCells #[.bool false] n) 4)).heap.size = (x12).heap.size + 1 := by simp
  obtain ⟨g, hg⟩ : ∃ g, (x12).heap.size = g := ⟨_, rfl⟩
  rw [hg] at Hm ⊢
  have hgX : g < ((x12).alloc (.cells (madeCells #[.bool false] n) 4)).heap.size := by omega
  have hpg' : pb < g := by omega
  have hWg : W.heap.size ≤ g := by omega
  have hog : W.heap.size < g := by omega
  replace hoX : W.heap.size < ((x12).alloc (.cells (madeCells #[.bool false] n) 4)).heap.size := by omega
  replace hpX : pb < ((x12).alloc (.cells (madeCells #[.bool false] n) 4)).heap.size := by omega
  replace zX : W.heap.size ≤ ((x12).alloc (.cells (madeCells #[.bool false] n) 4)).heap.size := B.out.size
  clear hb hsz hg
  generalize ((x12).alloc (.cells (madeCells #[.bool false] n) 4)) = x13 at *
  clear hHeld0
  have hHeld0 := hHeld
  clear hHeld
  refine anyTake 7 (some 6) (.slice (some ⟨g, 0, none⟩) n n) rfl rfl (by kernel_rfl) (by kernel_rfl) (by kernel_rfl) (fun _ _ _ h => h) (by rfl) (by intro w hSw; (try dsimp only at hSw); go_simp) (by assumption) ?_
  try simp only [Act.put, List.setIfInBounds_toArray, List.set_cons_zero, List.set_cons_succ]
  refine anyTake 8 (some 7) (.slice (some ⟨W.heap.size, 0, none⟩) 0 0) rfl rfl (by kernel_rfl) (by kernel_rfl) (by kernel_rfl) (fun _ _ _ h => h) (by rfl) (by intro w hSw; (try dsimp only at hSw); go_simp) (by assumption) ?_
  try simp only [Act.put, List.setIfInBounds_toArray, List.set_cons_zero, List.set_cons_succ]
  refine wpAnyH_done (by kernel_rfl) ?_ _
  obtain ⟨X, hX⟩ : ∃ X, X = x13 := ⟨_, rfl⟩
  subst hX
  clear hHeld0
  obtain ⟨o, hoE⟩ : ∃ o, o = W.heap.size := ⟨_, rfl⟩
  rw [← hoE] at Ho hopb hog hoX ⊢
  replace hWo : W.heap.size ≤ o := by omega
  clear hoE
  rotate_left 1
  all_goals
    have hpar := Lib.hid (M.parents_of ht.out hok.out)
    rw [hn.out] at hpar
    have hps := Lib.hid (M.parents_eq ht.out hok.out)
    have hpl : Hid (ps.length = n) := by show _ = _; rw [hok.out.1, hn.out]
    rw [hps.out] at hbg
    rw [show List.replicate n false = M.metRow n b 0 from (M.metRow_zero n b).symm] at Hm
    have hBX := Lib.hid (btr hB0.out B.out)
    have hcT := Lib.hid (cell_be cT0.out B.out)
    have hgo : g ≠ o := by omega
    have hpo : pb ≠ o := by omega
    have hpg : pb ≠ g := by omega
    have hwo : w.heap.size < o := by omega
    have hwg : w.heap.size < g := by omega
    have Ho1 := Lib.hid (own_mono (base' := w.heap.size) Ho.out (by omega))
    have hzX := hBX.out.size
    clear cT0 hB0 HP u0 B hok hmk Ho
    go_wp2
    -- the first loop: which are there
    go_loopw [8] (fun qi wr => ∃ (k : Nat), k ≤ L ∧ qi = .int .i64 (k : Int) ∧ Hid (OwnB wr w.heap.size (.slice (some ⟨g, 0, none⟩) n n) (M.metRow n b k)) ∧ Hid (Own64 wr w.heap.size (.slice (some ⟨pb, 0, none⟩) n c3) ps) ∧ Hid (Own64 wr w.heap.size (.slice (some ⟨o, 0, none⟩) 0 0) []) ∧ Hid (wr.cell? ⟨w.heap.size, 0, none⟩ = some (.slice A n c)) ∧ Hid (Below w.heap.size w wr)) (fun qi _ => L - (intOf qi).toNat)
    case atStart => exact ⟨0, Nat.zero_le _, rfl, Hm, Hp, Ho1, hcT, hBX⟩
    case round =>
      obtain ⟨k, hk, rfl, hm, hp, ho, hc, hbr⟩ := hrel
      clear Hm Hp Ho1 hcT hBX
      by_cases hlt : k < L
      · obtain ⟨ob, off, x, rfl, hbl, g1, hX⟩ := (H2.out.below hbr.out (Nat.le_refl _)).at_ (k := k) (by rw [hL.out]; exact hlt)
        have hx := hbg.out.2.1 x (List.mem_of_getElem? hX.out)
        obtain ⟨v, rfl⟩ := Int.eq_ofNat_of_zero_le hx.1
        have hvn : v < n := by omega
        have hki : (k : Int) < (L : Int) := by omega
        have hk0 : (0 : Int) ≤ (k : Int) := by omega
        have hv0 : (0 : Int) ≤ (v : Int) := by omega
        have hvi : (v : Int) < (n : Int) := by omega
        have hmv := M.metRow_at (l := b) (k := k) hvn
        obtain ⟨m1, m2, _, hgl⟩ := ownB_cell hm.out (M.metRow_len n b k) hmv
        have hms := Lib.hid (M.metRow_step (n := n) hX.out)
        have hset := Lib.hid (ownB_set hm.out (M.metRow_len n b k) v true)
        rw [hms.out] at hset
        have hp2 : Hid (Own64 (wr.setCell ⟨g, v, none⟩ (.bool true)) w.heap.size (.slice (some ⟨pb, 0, none⟩) n c3) ps) := ownsRow_setCell_other hp.out (a := ⟨g, v, none⟩) (fun e => by injection e with e; exact hpg e) _
        have ho2 : Hid (Own64 (wr.setCell ⟨g, v, none⟩ (.bool true)) w.heap.size (.slice (some ⟨o, 0, none⟩) 0 0) []) := ownsRow_setCell_other ho.out (a := ⟨g, v, none⟩) (fun e => by injection e with e; exact hgo e.symm) _
        have hc2 := Lib.hid ((World.cell?_setCell_other wr (a := ⟨g, v, none⟩) (b := ⟨w.heap.size, 0, none⟩) (v := .bool true) (by intro e; injection e with e1; omega)).trans hc.out)
        have hb2 := Lib.hid (below_setCell hbr.out (Nat.le_of_lt hwg) (k := v) (.bool true))
        clear hm hp ho hc hmv hms hX
        go_wp2
        go_roundw
        case rel => exact ⟨k + 1, by omega, by go_num, hset, hp2, ho2, hc2, hb2⟩
        case measure => simp [intOf]; omega
      · obtain rfl : k = L := by omega
        have hge : ¬ (k : Int) < (k : Int) := by omega
        have hst : Hid (Own64 wr w.heap.size (.slice (some ⟨o, 0, none⟩) 0 0) (M.rdyTo ps b 0)) := ho
        have hcl : Hid (∀ q, (Value.slice (some ⟨o, 0, none⟩) 0 0).ownBlock = some q → q ≠ g ∧ q ≠ pb ∧ w.heap.size < q) := fun q hq => by injection hq with hq; have hq' : o = q := hq; omega
        have hgX : g < wr.heap.size := (ownB_cell hm.out (M.metRow_len n b k) (M.metRow_at (l := b) (k := k) h1)).2.2.2
        have hpX : pb < wr.heap.size := (World.ownsRow.lt hp.out pb rfl).2
        have Hge := Lib.hid hge
        clear ho hlt hk
        go_wp2
        go_loopw [7, 9] (fun q i ws => ∃ (j m : Nat) (A' : Option Addr) (c' : Nat), j ≤ n ∧ i = .int .i64 (j : Int) ∧ q = .slice A' m c' ∧ Hid (Own64 ws w.heap.size (.slice A' m c') (M.rdyTo ps b j)) ∧ Hid (∀ q, (Value.slice A' m c').ownBlock = some q → q ≠ g ∧ q ≠ pb ∧ w.heap.size < q) ∧ Hid (OwnB ws w.heap.size (.slice (some ⟨g, 0, none⟩) n n) (M.metRow n b k)) ∧ Hid (Own64 ws w.heap.size (.slice (some ⟨pb, 0, none⟩) n c3) ps) ∧ Hid (ws.cell? ⟨w.heap.size, 0, none⟩ = some (.slice A n c)) ∧ Hid (Below w.heap.size w ws)) (fun _ i _ => n - (intOf i).toNat)
        case atStart => exact ⟨0, 0, _, 0, Nat.zero_le _, rfl, rfl, hst, hcl, hm, hp, hc, hbr⟩
        case round =>
          obtain ⟨j, m, A', c', hj, rfl, rfl, hr, hd, hm2, hp2, hc2, hb2⟩ := hrel
          clear hst hcl hm hp hc hbr
          have hml := own64_len hr.out
          have hrl := M.rdyTo_len ps b j
          have hm1 : m ≤ 1000000 := by omega
          have cc := hc2.out
          clear hml hrl
          by_cases hjn : j < n
          · have hji : (j : Int) < (n : Int) := by omega
            have hj0 : (0 : Int) ≤ (j : Int) := by omega
            go_wp2_with fail
            refine (l01N A n c _).mono ?_
            rintro e w7 ⟨rfl, hb7⟩
            have hr7 := Lib.hid (own_be hr.out hb7)
            have hm7 := Lib.hid (own_be hm2.out hb7)
            have hp7 := Lib.hid (own_be hp2.out hb7)
            have hc7 := Lib.hid (cell_be hc2.out hb7)
            have hb8 := Lib.hid (btr hb2.out hb7)
            have hmj := M.metRow_at (l := b) (k := k) hjn
            obtain ⟨m1, m2, _, hgl⟩ := ownB_cell hm7.out (M.metRow_len n b k) hmj
            have hkb : b.take k = b := by rw [← hL.out, List.take_length]
            rw [hkb] at m1
            have hpj := M.par_at hpar.out hjn
            obtain ⟨n1, n2, _, hpl2⟩ := own64_cell hp7.out hpl.out hpj
            have hgl2 := Lib.hid hgl
            clear hr hm2 hp2 hc2 hb2 hb7 cc hmj hkb hpj
            by_cases hjb : (j : Int) ∈ b
            · rw [decide_eq_true hjb] at m1
              have hs := M.rdyTo_miss (ps := ps) (b := b) (k := j) (decide_eq_false fun h => h.1 hjb)
              rw [← hs] at hr7
              clear hs hjb
              go_wp2
              go_roundw
              case rel => exact ⟨j + 1, m, A', c', by omega, by go_num, rfl, hr7, hd, hm7, hp7, hc7, hb8⟩
              case measure => simp [intOf]; omega
            · rw [decide_eq_false hjb] at m1
              by_cases hj1 : j = 0
              · subst hj1
                have hs := Lib.hid (M.rdyTo_hit (ps := ps) (b := b) (k := 0) (decide_eq_true ⟨hjb, .inl rfl⟩))
                have hz7 : w.heap.size ≤ w7.heap.size := hb8.out.size
                clear hjb
                go_wp2_with (at_builtin; refine push64K rfl (.tmp 52) (.tmp 54) rfl w7 w.heap.size A' m c' (M.rdyTo ps b 0) ((0 : Nat) : Int) rfl _ rfl rfl hr7 hz7 hm1 ?_; intro A9 c9 w9 ho9 hg9 hq9)
                rw [← hs.out] at ho9
                have hne : ∀ q, (Value.slice A' m c').ownBlock = some q → q ≠ g ∧ q ≠ pb ∧ w.heap.size < q := hd.out
                have hm9 := Lib.hid (((own_be hm7.out (bal (b0 w7) _)).kept hg9.out (.inr (fun e => (hne g e.symm).1 rfl))))
                have hp9 := Lib.hid (((own_be hp7.out (bal (b0 w7) _)).kept hg9.out (.inr (fun e => (hne pb e.symm).2.1 rfl))))
                have hc9 := Lib.hid (cell_grown (cell_al hc7.out _) hg9.out (fun q hq => Nat.ne_of_gt (hne q hq).2.2))
                have hb9 := Lib.hid (below_grown (bal hb8.out _) hg9.out (fun q hq => Nat.le_of_lt (hne q hq).2.2))
                have hz8 : (w7.alloc (.cells #[.int .i64 ((0 : Nat) : Int)] 2)).heap.size = w7.heap.size + 1 := by simp
                have hpz : pb < w7.heap.size := hpl2
                have hd9 : Hid (∀ q, (Value.slice A9 (m + 1) c9).ownBlock = some q → q ≠ g ∧ q ≠ pb ∧ w.heap.size < q) := fun q hq => by
                  rcases hq9.out with e | e
                  · exact hne q (e ▸ hq)
                  · rw [hq] at e
                    injection e with e
                    have := hgl2.out
                    omega
                clear hne
                go_roundw
                case rel => exact ⟨1, m + 1, A9, c9, by omega, by go_num, rfl, ho9, hd9, hm9, hp9, hc9, hb9⟩
                case measure => simp [intOf]; omega
              · obtain ⟨p1, p2⟩ := hpar.out.2.2 j (by omega) hjn
                obtain ⟨u, hu⟩ := Int.eq_ofNat_of_zero_le p1
                rw [hu] at n1 p2
                have hun : u < n := by omega
                have hu0 : (0 : Int) ≤ (u : Int) := by omega
                have hui : (u : Int) < (n : Int) := by omega
                have hj2 : ((j : Int) == 0) = false := by simp; omega
                have hmu := M.metRow_at (l := b) (k := k) hun
                obtain ⟨m3, m4, _, _⟩ := ownB_cell hm7.out (M.metRow_len n b k) hmu
                have hkb : b.take k = b := by rw [← hL.out, List.take_length]
                rw [hkb] at m3
                have Hu := Lib.hid hu
                clear hmu hkb hu p1
                by_cases hub : (u : Int) ∈ b
                · rw [decide_eq_true hub] at m3
                  have hs := Lib.hid (M.rdyTo_hit (ps := ps) (b := b) (k := j) (decide_eq_true ⟨hjb, .inr (by rw [Hu.out]; exact hub)⟩))
                  have hz7 : w.heap.size ≤ w7.heap.size := hb8.out.size
                  clear hjb hub
                  go_wp2_with (at_builtin; refine push64K rfl (.tmp 52) (.tmp 54) rfl w7 w.heap.size A' m c' (M.rdyTo ps b j) (j : Int) rfl _ rfl rfl hr7 hz7 hm1 ?_; intro A9 c9 w9 ho9 hg9 hq9)
                  rw [← hs.out] at ho9
                  have hne : ∀ q, (Value.slice A' m c').ownBlock = some q → q ≠ g ∧ q ≠ pb ∧ w.heap.size < q := hd.out
                  have hm9 := Lib.hid (((own_be hm7.out (bal (b0 w7) _)).kept hg9.out (.inr (fun e => (hne g e.symm).1 rfl))))
                  have hp9 := Lib.hid (((own_be hp7.out (bal (b0 w7) _)).kept hg9.out (.inr (fun e => (hne pb e.symm).2.1 rfl))))
                  have hc9 := Lib.hid (cell_grown (cell_al hc7.out _) hg9.out (fun q hq => Nat.ne_of_gt (hne q hq).2.2))
                  have hb9 := Lib.hid (below_grown (bal hb8.out _) hg9.out (fun q hq => Nat.le_of_lt (hne q hq).2.2))
                  have hz8 : (w7.alloc (.cells #[.int .i64 (j : Int)] 2)).heap.size = w7.heap.size + 1 := by simp
                  have hpz : pb < w7.heap.size := hpl2
                  have hd9 : Hid (∀ q, (Value.slice A9 (m + 1) c9).ownBlock = some q → q ≠ g ∧ q ≠ pb ∧ w.heap.size < q) := fun q hq => by
                    rcases hq9.out with e | e
                    · exact hne q (e ▸ hq)
                    · rw [hq] at e
                      injection e with e
                      have := hgl2.out
                      omega
                  clear hne
                  go_roundw
                  case rel => exact ⟨j + 1, m + 1, A9, c9, by omega, by go_num, rfl, ho9, hd9, hm9, hp9, hc9, hb9⟩
                  case measure => simp [intOf]; omega
                · rw [decide_eq_false hub] at m3
                  have hs := M.rdyTo_miss (ps := ps) (b := b) (k := j) (decide_eq_false fun h => by
                    rcases h.2 with e | e
                    · exact hj1 e
                    · rw [Hu.out] at e; exact hub e)
                  rw [← hs] at hr7
                  clear hs hjb hub
                  go_wp2
                  go_roundw
                  case rel => exact ⟨j + 1, m, A', c', by omega, by go_num, rfl, hr7, hd, hm7, hp7, hc7, hb8⟩
                  case measure => simp [intOf]; omega
          · obtain rfl : j = n := by omega
            have hge2 : ¬ (j : Int) < (j : Int) := by omega
            go_wp2_with fail
            refine (l01N A j c _).mono ?_
            rintro e w7 ⟨rfl, hb7⟩
            have hr7 := Lib.hid (own_be hr.out hb7)
            have hb8 := Lib.hid (btr hb2.out hb7)
            go_wp2
            go_ret
            exact ⟨A', m, c', rfl, by rw [hps.out]; exact hr7.out, hb8.out⟩
end Go.Proofs.Ytkcldfliiagloaa

/- copies of slices: l01Own, slices.Clone, l01Make. -/
namespace Go.Proofs.Ytkcldfliiagloaa
open Go.RowKit

set_option maxHeartbeats 400000 in
theorem l01Own (A : Option Addr) (xs : List Int) (m c : Nat) (w : World) (hm : Hid (xs.length = m)) (hx : m ≤ 1000000) (hz : Hid (A = none → c = 0)) (h : Hid (Ints w w.heap.size A xs)) :
    Calls Try.prog 88 #[.slice A m c] w fun e w' => ∃ A' c', e = .returned (.slice A' m c') ∧ Own64 w' w.heap.size (.slice A' m c') xs ∧ Below w.heap.size w w' := by
  have hs : Hid (Own64 (w.alloc (.cells #[] 2)) w.heap.size (.slice (some ⟨w.heap.size, 0, none⟩) 0 0) []) := own64_empty (Nat.le_refl _)
  have hi : Hid (Ints (w.alloc (.cells #[] 2)) (w.alloc (.cells #[] 2)).heap.size A xs) := h.out.al _
  have hB : w.heap.size ≤ (w.alloc (.cells #[] 2)).heap.size := by simp
  go_enter Try.func88, Try.ntmps88
  go_wp2_with (at_builtin; refine appendInts rfl (.tmp 3) (.tmp 4) rfl _ w.heap.size (some ⟨w.heap.size, 0, none⟩) 0 0 [] A m c xs rfl rfl hs hi hm hz hB (Nat.zero_le _) hx ?_; intro A2 c2 w2 ho2 hb2)
  go_ret
  exact ⟨A2, c2, by simp, by have := ho2.out; simpa using this, ((Below.refl _ _).alloc (Nat.le_refl _) _).trans hb2.out⟩

set_option maxHeartbeats 400000 in
set_option maxRecDepth 100000 in
theorem clone (ad : Addr) (xs : List Int) (m c : Nat) (w : World) (hm : Hid (xs.length = m)) (hx : m ≤ 1000000) (h : Hid (Ints w w.heap.size (some ad) xs)) :
    Calls Try.prog 245 #[.slice (some ad) m c] w fun e w' => ∃ A' c', e = .returned (.slice A' m c') ∧ Own64 w' w.heap.size (.slice A' m c') xs ∧ Below w.heap.size w w' := by
  have hs : Hid (Own64 (w.alloc (.cells #[] 2)) w.heap.size (.slice (some ⟨w.heap.size, 0, none⟩) 0 0) []) := own64_empty (Nat.le_refl _)
  have hi : Hid (Ints (w.alloc (.cells #[] 2)) (w.alloc (.cells #[] 2)).heap.size (some ad) xs) := h.out.al _
  have hB : w.heap.size ≤ (w.alloc (.cells #[] 2)).heap.size := by simp
  have hz : Hid ((some ad : Option Addr) = none → c = 0) := fun e => by cases e
  have heq := fun W => Lib.run_eql_slice_nil (P := Try.prog) W 22 2 (some ad) m c 0 0 Try.underlying22
  go_enter Try.func245, Try.ntmps245
  go_wp2_with (at_builtin; refine appendInts rfl (.tmp 5) (.tmp 6) rfl _ w.heap.size (some ⟨w.heap.size, 0, none⟩) 0 0 [] (some ad) m c xs rfl rfl hs hi hm hz hB (Nat.zero_le _) hx ?_; intro A2 c2 w2 ho2 hb2)
  go_ret
  exact ⟨A2, c2, by simp, by have := ho2.out; simpa using this, ((Below.refl _ _).alloc (Nat.le_refl _) _).trans hb2.out⟩

set_option maxHeartbeats 400000 in
theorem l01Make (A : Option Addr) (xs : List Int) (m c : Nat) (w : World) (hm : Hid (xs.length = m)) (hx : m ≤ 1000000) (hz : Hid (A = none → c = 0)) (h : Hid (Ints w w.heap.size A xs)) :
    Calls Try.prog 274 #[.slice A m c] w fun e w' => ∃ A' c', e = .returned (.agg #[.slice A' m c']) ∧ Own64 w' w.heap.size (.slice A' m c') xs ∧ Below w.heap.size w w' := by
  go_enter Try.func274, Try.ntmps274
  go_wp2_with fail
  refine (l01Own A xs m c _ hm hx hz (h.out.al _)).mono ?_
  rintro e w1 ⟨A', c', rfl, ho, hb⟩
  obtain ⟨hc, hf⟩ := bcell hb
  have hB := btr (bal (b0 w) _) hb
  have Ho := Lib.hid (own_mono (base' := w.heap.size + 1) ho (by simp))
  clear ho
  go_wp2
  refine bodyPost_ret (v := .agg #[.slice A' m c']) (by simp [results, Try.results274, go_sem, hc]) rfl ?_
  exact ⟨A', c', rfl, own_mono (own_far Ho.out (Nat.lt_succ_self _) _) (Nat.le_succ _), below_setCell hB (Nat.le_refl _) _⟩
end Go.Proofs.Ytkcldfliiagloaa

/- RankOfGrowing, the model's. -/
namespace Go.Proofs.Ytkcldfliiagloaa
open Go.RowKit

theorem low_cell9 {w w' : World} {B g k : Nat} {v : Value} (h : w.cell? ⟨g, k, none⟩ = some v) (hb : Below B w w') (hlt : g < B) : w'.cell? ⟨g, k, none⟩ = some v := (hb.cell (p := ⟨g, k, none⟩) hlt).trans h
theorem own64_one9 {w : World} {B : Nat} (hB : B ≤ w.heap.size) (x : Int) : Own64 (w.alloc (.cells #[.int .i64 x] 2)) B (.slice (some ⟨w.heap.size, 0, none⟩) 1 1) [x] :=
  ⟨by simp, .inr ⟨w.heap.size, 1, #[.int .i64 x], rfl, hB, World.alloc_heap_new w _, by simp, by simp [maxLen], by simp, by simp⟩⟩

set_option maxHeartbeats 8000000 in
set_option maxRecDepth 100000 in
theorem spec_RankOfGrowing : GivesON 18 F_RankOfGrowing := by
  intro A A2 xs l c c2 w hx hl hcc hcc2 h h2
  obtain ⟨W, hW⟩ : ∃ W, W = w.alloc (.cells #[.slice A xs.length c] 28) := ⟨_, rfl⟩
  have cT : W.cell? ⟨w.heap.size, 0, none⟩ = some (.slice A xs.length c) := by rw [hW]; simp [go_sem]
  have hB0 : Hid (Below w.heap.size w W) := by rw [hW]; exact bal (b0 w) _
  have H1 : Hid (Ints W W.heap.size A xs) := by rw [hW]; exact h.al _
  have H2 : Hid (Ints W W.heap.size A2 l) := by rw [hW]; exact h2.al _
  obtain ⟨r, hr⟩ : ∃ r, Hid (M.gcode xs l = r) := ⟨_, rfl⟩
  have hC := l09Code A A2 xs l c c2 W hx hl H1.out H2.out
  rw [hr.out] at hC
  have HC := Lib.hid hC
  obtain ⟨P, hP⟩ : ∃ P, F_RankOfGrowing xs l = P := ⟨_, rfl⟩
  rw [hP]
  clear hC h h2
  by_cases h0 : r = 0
  · subst h0
    have hz1 := M.gcode_zero hr.out
    have Ht := Lib.hid hz1.1
    have hlen := M.tree_len Ht.out
    have hll : l.length = xs.length := (M.isOrd_iff.1 hz1.2.1).1
    have hBgn := Lib.hid (M.ord_bgn hz1.2.1 hz1.2.2)
    have hex : Hid (M.ParsOK xs (M.parents xs)) := by
      obtain ⟨ps, hp⟩ := M.pars_ex9 Ht.out
      show M.ParsOK _ _
      rw [M.parents_eq Ht.out hp]
      exact hp
    have hpar : Hid (M.Parents xs.length (M.parents xs)) := Lib.hid (M.parents_of Ht.out hex.out)
    obtain ⟨q, hq⟩ : ∃ q, Hid (M.fewCode xs = q) := ⟨_, rfl⟩
    have hgq : M.gcodeR xs l = q := by rw [M.gcodeR, if_pos hr.out, ← hq.out, M.fewCode, Ht.out]; rfl
    have HF := Lib.hid (fun X (hX : Below W.heap.size W X) => l09Few A xs c X hx (H1.out.be hX) q hq)
    by_cases hq0 : q = 0
    · subst hq0
      have h20 := (M.gcodeR_zero hgq).2
      rw [F_Rank_yes hgq] at hP
      subst hP
      have hwl : M.waysN xs [] ≤ 2432902008176640000 := M.ways_le h20
      have hmid := Lib.hid (fun (k : Nat) (v : Int) (hv : l[k]? = some v) j => M.rk_mid Ht.out hex.out hBgn.out hll hv j)
      have hst : Hid (M.rkTo xs (M.parents xs) l 0 = 0) := rfl
      have Hll := Lib.hid hll
      obtain ⟨ob, off, e2, hbl, hcs⟩ := H2.out (by omega)
      subst e2
      have hcs' : Hid (∀ X, Below W.heap.size W X → ∀ j x, l[j]? = some x → X.cell? ⟨ob, off + j, none⟩ = some (.int .i64 x)) := fun X hX j x hj => (hX.cell (p := ⟨ob, off + j, none⟩) hbl).trans (hcs j x hj)
      have HN : Hid (∀ k X, k ≤ l.length → Below W.heap.size W X → Calls Try.prog 86 #[.agg #[.slice A xs.length c], .slice (some ⟨ob, off, none⟩) k c2] X fun e w' => ∃ A' m c', e = .returned (.slice A' m c') ∧ Own64 w' X.heap.size (.slice A' m c') (M.rdyTo (M.parents xs) (l.take k) xs.length) ∧ Below X.heap.size X w') := fun k X hk hX =>
        l09Next A (some ⟨ob, off, none⟩) xs (l.take k) xs.length c k c2 X rfl Ht (Lib.hid (M.bgn_take hBgn.out k)) (by show _ = _; rw [List.length_take]; omega) (H1.out.be hX) (take_intsR (H2.out.be hX) k)
      have HO : Hid (∀ k X, k ≤ l.length → Below W.heap.size W X → Calls Try.prog 88 #[.slice (some ⟨ob, off, none⟩) k c2] X fun e w' => ∃ A' c', e = .returned (.slice A' k c') ∧ Hid (Own64 w' X.heap.size (.slice A' k c') (l.take k)) ∧ Below X.heap.size X w') := fun k X hk hX =>
        (l01Own (some ⟨ob, off, none⟩) (l.take k) k c2 X (by show _ = _; rw [List.length_take]; omega) (by omega) (by intro e; cases e) (Lib.hid (take_intsR (H2.out.be hX) k))).mono fun e w' ⟨A', c', he, ho, hb⟩ => ⟨A', c', he, ho, hb⟩
      have HCt : Hid (∀ k x W9 A3 c3 X, k < l.length → x ∈ M.rdyTo (M.parents xs) (l.take k) xs.length → M.waysN xs (l.take k ++ [x]) = W9 → Below W.heap.size W X → Hid (Own64 X W.heap.size (.slice A3 (k + 1) c3) (l.take k ++ [x])) → Calls Try.prog 87 #[.agg #[.slice A xs.length c], .slice A3 (k + 1) c3] X fun e w' => e = .returned (.int .i64 (W9 : Int)) ∧ Below X.heap.size X w') := fun k x W9 A3 c3 X hk hm hw hX ho => by
        have := l09Count A A3 xs (l.take k ++ [x]) xs.length c (k + 1) c3 X rfl h20 Ht (Lib.hid (M.bgn_step hpar.out (M.bgn_take hBgn.out k) hm)) (by show _ = _; rw [List.length_append, List.length_take, List.length_singleton]; omega) hex (Lib.hid (H1.out.be hX)) (Lib.hid (ints_of_own64 ho.out))
        rwa [hw] at this
      clear hcs H1 H2 hr hq hgq hz1 hll
      go_enter Try.func18, Try.ntmps18
      go_wp2_with fail
      rw [← hW]
      clear hW
      refine HC.out.mono ?_
      rintro e w5 ⟨rfl, hb5⟩
      have hBW5 := Lib.hid hb5
      have c5 := cell_be cT hb5
      clear HC hb5
      go_wp2_with fail
      refine (HF.out _ hBW5.out).mono ?_
      rintro e w6 ⟨rfl, hb6⟩
      have hBW6 := Lib.hid (btr hBW5.out hb6)
      clear hb6 c5 HF
      go_wp2
      go_loopw [7, 8] (fun q i wr => ∃ k p : Nat, k ≤ l.length ∧ i = .int .i64 (k : Int) ∧ q = .int .i64 (p : Int) ∧ Hid (M.rkTo xs (M.parents xs) l k = p) ∧ Hid (Below W.heap.size W wr)) (fun _ i _ => l.length - (intOf i).toNat)
      case atStart => exact ⟨0, 0, Nat.zero_le _, rfl, rfl, hst, hBW6⟩
      case round =>
        clear hst hBW5 hBW6
        obtain ⟨k, p, hk, rfl, rfl, hrk, hbw⟩ := hrel
        by_cases hlt : k < l.length
        · obtain ⟨v, hv⟩ : ∃ v, l[k]? = some v := ⟨_, List.getElem?_eq_getElem hlt⟩
          have hki : (k : Int) < (l.length : Int) := by omega
          have hk0 : (0 : Int) ≤ (k : Int) := by omega
          have hkc : (k : Int) ≤ (c2 : Int) := by omega
          have cc := cell_be cT hbw.out
          have hmid2 := Lib.hid (hmid.out k v hv)
          obtain ⟨rr, hrr⟩ : ∃ rr, Hid (M.rdyTo (M.parents xs) (l.take k) xs.length = rr) := ⟨_, rfl⟩
          have HNk := Lib.hid (HN.out k)
          have hin := M.at_rdy hpar.out hBgn.out hv
          have hasc := M.rdyTo_asc (M.parents xs) (l.take k) xs.length
          have hrks := Lib.hid (M.rkTo_step (xs := xs) (ps := M.parents xs) hv)
          rw [hrr.out] at HNk hmid2 hin hasc hrks
          rw [hrk.out] at hrks hmid2
          obtain ⟨pI, hpI⟩ := List.mem_iff_getElem?.1 hin
          have HpI := Lib.hid hpI
          have Hasc := Lib.hid hasc
          have Hv := Lib.hid hv
          have hpl : pI < rr.length := (List.getElem?_eq_some_iff.1 hpI).1
          have B : Hid (Below W.heap.size W wr.drew) := hbw.out.drew
          clear hin hasc hpI hv hmid
          go_wp2
          go_region_held3 (fun w' => w'.cell? ⟨w.heap.size, 0, none⟩ = some (.slice A xs.length c)) (first | exact cc | exact cell_be (w := wr.drew) cc hb6.out) (first | (go_at_call 86; refine (HNk.out _ (by omega) B.out).mono ?_; rintro e w6 ⟨A6, m, c6, rfl, ho6, hb6'⟩; have hb6 := Lib.hid hb6'; have Ho6 := Lib.hid ho6; clear ho6 hb6'))
          have hm := own64_len Ho6.out
          have hrl := M.rdyTo_len (M.parents xs) (l.take k) xs.length
          rw [hrr.out] at hrl
          have hzr : W.heap.size ≤ wr.drew.heap.size := B.out.size
          have ho6 := Lib.hid (own_mono Ho6.out hzr)
          have hb6w := Lib.hid (btr B.out hb6.out)
          have hst : Hid (p + M.sumL (M.gR xs (l.take k) v) (rr.take 0) = p) := rfl
          have hm24 : m ≤ 24 := by omega
          have hpm : pI < m := by omega
          have Hm := Lib.hid hm
          clear hm hrl hbw hb6 Ho6 B cc HNk hpl
          go_wp2
          go_loopw [7, 10] (fun qu qj ws => ∃ j u : Nat, j ≤ pI ∧ qj = .int .i64 (j : Int) ∧ qu = .int .i64 (u : Int) ∧ Hid (p + M.sumL (M.gR xs (l.take k) v) (rr.take j) = u) ∧ Hid (Own64 ws W.heap.size (.slice A6 m c6) rr) ∧ Hid (Below W.heap.size W ws)) (fun _ qj _ => pI - (intOf qj).toNat)
          case atStart => exact ⟨0, p, Nat.zero_le _, rfl, rfl, hst, ho6, hb6w⟩
          case round =>
            clear hst ho6 hb6w
            obtain ⟨j, u, hj, rfl, rfl, hsum, ho, hbs⟩ := hrel
            have hjm : j < m := by omega
            obtain ⟨x, hx⟩ : ∃ x, rr[j]? = some x := ⟨_, List.getElem?_eq_getElem (by rw [← Hm.out]; exact hjm)⟩
            obtain ⟨g6, hA6⟩ : ∃ g, A6 = some ⟨g, 0, none⟩ := by
              rcases ho.out.2 with ⟨h0, _⟩ | ⟨g, cap, cur, hvv, _⟩
              · injection h0 with _ e _; omega
              · injection hvv with e1; exact ⟨g, e1⟩
            subst hA6
            obtain ⟨p1, p2, p3, p4⟩ := own64_cell ho.out Hm.out.symm hx
            have q1 := hcs'.out wr hbs.out k v Hv.out
            have hji : (j : Int) < (m : Int) := by omega
            have hj0 : (0 : Int) ≤ (j : Int) := by omega
            have cc := cell_be cT hbs.out
            by_cases hjp : j < pI
            · have hxv : x < v := M.asc_at9 Hasc.out hjp hx HpI.out
              have hne : (x != v) = true := by simp; omega
              have hmem : x ∈ M.rdyTo (M.parents xs) (l.take k) xs.length := by rw [hrr.out]; exact List.mem_of_getElem? hx
              obtain ⟨W9, hW9⟩ : ∃ W9, M.waysN xs (l.take k ++ [x]) = W9 := ⟨_, rfl⟩
              have hsn := M.sumL_take (f := M.gR xs (l.take k) v) hx
              have hu2 : Hid (p + M.sumL (M.gR xs (l.take k) v) (rr.take (j + 1)) = u + W9) := by
                show _ = _
                rw [hsn, M.gR_hit hxv, hW9, ← hsum.out]; omega
              have hub : u + W9 ≤ 2432902008176640000 := by
                have hbd := hmid2.out (j + 1)
                rw [hsn, M.gR_hit hxv, hW9] at hbd
                have := hsum.out
                omega
              have HCk := Lib.hid (fun A3 c3 X => HCt.out k x W9 A3 c3 X hlt hmem hW9)
              have HOk := Lib.hid (HO.out k)
              have hwr : IntKind.i64.wrap ((u : Int) + (W9 : Int)) = ((u + W9 : Nat) : Int) := by rw [IntWalk.i64_in _ (by omega)]; omega
              clear hsn hmem hx hW9
              go_wp2
              go_region
              go_wp2
              have hk24 : k ≤ 24 := by have := Hll.out; omega
              obtain ⟨Z0, hZ0⟩ : ∃ Z0, Z0 = wr.drew := ⟨_, rfl⟩
              have SZ : Z0.drew.cell? ⟨w.heap.size, 0, none⟩ = some (.slice A xs.length c) ∧ Z0.drew.cell? ⟨g6, j, none⟩ = some (.int .i64 x) := by rw [hZ0]; exact ⟨cc, p1⟩
              have hbZ : Below W.heap.size W Z0.drew := by rw [hZ0]; exact hbs.out.drew.drew
              have hoZ : Hid (Own64 Z0.drew W.heap.size (.slice (some ⟨g6, 0, none⟩) m c6) rr) := by rw [hZ0]; exact ho.out
              have hbZA : Below W.heap.size W (Z0.drew.alloc (.cells #[.int .i64 x] 2)) := hbZ.alloc hbZ.size _
              have SZA : (Z0.drew.alloc (.cells #[.int .i64 x] 2)).cell? ⟨w.heap.size, 0, none⟩ = some (.slice A xs.length c) ∧ (Z0.drew.alloc (.cells #[.int .i64 x] 2)).cell? ⟨g6, j, none⟩ = some (.int .i64 x) := ⟨cell_al SZ.1 _, cellOf_al SZ.2 _⟩
              have hzZ : W.heap.size ≤ Z0.drew.heap.size := hbZ.size
              have hgZ : g6 < Z0.drew.heap.size := World.block_lt_of_cell? _ _ SZ.2
              have hwZ : w.heap.size < Z0.drew.heap.size := World.block_lt_of_cell? _ _ SZ.1
              rw [← hZ0]
              clear hZ0 cc p1 p2 p4 q1 ho hbs
              go_region_held3 (fun X => X.cell? ⟨w.heap.size, 0, none⟩ = some (.slice A xs.length c) ∧ X.cell? ⟨g6, j, none⟩ = some (.int .i64 x)) (first | exact SZ | exact SZA | exact S7 | exact S7a | exact S8 | exact S9) (first | (refine stepInts rfl (.tmp 48) (.tmp 53) rfl _ Z0.drew.heap.size A7 k c7 (l.take k) _ 1 1 [x] rfl rfl (by first | exact hoA | exact hoB) (by first | exact hiA | exact hiB) rfl (fun e => by cases e) (by first | exact h7 | exact h7a) (by omega) (by omega) ?_; intro A8 c8 w8 ho8 hb8; have S8 : w8.cell? ⟨w.heap.size, 0, none⟩ = some (.slice A xs.length c) ∧ w8.cell? ⟨g6, j, none⟩ = some (.int .i64 x) := (by first | exact ⟨low_cell9 S7a.1 hb8.out hwZ, low_cell9 S7a.2 hb8.out hgZ⟩ | exact ⟨low_cell9 S7.1 hb8.out hwZ, low_cell9 S7.2 hb8.out hgZ⟩); have hbW8 : Below W.heap.size W w8 := (by first | exact (hbW7.alloc hbW7.size _).trans (hb8.out.mono hzZ) | exact hbW7.trans (hb8.out.mono hzZ)); have hbz8 : Below Z0.drew.heap.size Z0.drew w8 := (by first | exact (bal hbz7 _).trans hb8.out | exact hbz7.trans hb8.out)) | (go_at_call 88; refine (HOk.out _ (by omega) (by first | exact hbZ | exact hbZA)).mono ?_; rintro e w7 ⟨A7, c7, rfl, ho7, hb7⟩; have S7 : w7.cell? ⟨w.heap.size, 0, none⟩ = some (.slice A xs.length c) ∧ w7.cell? ⟨g6, j, none⟩ = some (.int .i64 x) := (by first | exact ⟨cellOf_be SZ.1 hb7, cellOf_be SZ.2 hb7⟩ | exact ⟨cellOf_be SZA.1 hb7, cellOf_be SZA.2 hb7⟩); have S7a := (show (w7.alloc (.cells #[.int .i64 x] 2)).cell? ⟨w.heap.size, 0, none⟩ = some (.slice A xs.length c) ∧ (w7.alloc (.cells #[.int .i64 x] 2)).cell? ⟨g6, j, none⟩ = some (.int .i64 x) from ⟨cellOf_al S7.1 _, cellOf_al S7.2 _⟩); have hbW7 : Below W.heap.size W w7 := (by first | exact btr hbZ hb7 | exact btr hbZA hb7); have hbz7 : Below Z0.drew.heap.size Z0.drew w7 := (by first | exact hb7 | exact btr (bal (b0 Z0.drew) _) hb7); have h7 : Z0.drew.heap.size ≤ w7.heap.size := (by have := hb7.size; first | exact this | (simp at this; exact Nat.le_of_succ_le this)); have h7a : Z0.drew.heap.size ≤ (w7.alloc (.cells #[.int .i64 x] 2)).heap.size := (by simp; exact Nat.le_succ_of_le h7); have hoB : Hid (Own64 w7 Z0.drew.heap.size (.slice A7 k c7) (l.take k)) := Lib.hid (own_mono ho7.out (by simp)); have hoA : Hid (Own64 (w7.alloc (.cells #[.int .i64 x] 2)) Z0.drew.heap.size (.slice A7 k c7) (l.take k)) := Lib.hid (own_be hoB.out (bal (b0 w7) _)); have hiA : Hid (Ints (w7.alloc (.cells #[.int .i64 x] 2)) (w7.alloc (.cells #[.int .i64 x] 2)).heap.size (some ⟨w7.heap.size, 0, none⟩) [x]) := Lib.hid (ints_of_own64 (own64_one9 (Nat.le_refl _) x)); (first | (have hiB : Hid (Ints w7 w7.heap.size (some ⟨Z0.drew.heap.size, 0, none⟩) [x]) := Lib.hid (ints_of_own64 (own_be (own64_one9 (w := Z0.drew) (Nat.le_refl _) x) hb7))) | skip)) | (go_at_call 87; refine (HCk.out _ _ _ hbW8 (Lib.hid (own_mono ho8.out hzZ))).mono ?_; rintro e w9 ⟨rfl, hb9⟩; have S9 : w9.cell? ⟨w.heap.size, 0, none⟩ = some (.slice A xs.length c) ∧ w9.cell? ⟨g6, j, none⟩ = some (.int .i64 x) := ⟨cellOf_be S8.1 hb9, cellOf_be S8.2 hb9⟩; have hB9 : Below W.heap.size W w9 := btr hbW8 hb9; have hbz9 := btr hbz8 hb9))
              all_goals
                have HB9 := Lib.hid hB9
                have ho9 := Lib.hid (own_be hoZ.out hbz9)
                clear S7 S7a S8 S9 h7 h7a hoA hoB hiA hb7 hb8 ho7 ho8 hbW7 hbW8 hB9 hb9 hbz7 hbz8 hbz9 SZ SZA hoZ hbZ hbZA
                go_wp2
                go_roundw
                case rel => exact ⟨j + 1, u + W9, by omega, by go_num, by go_num, hu2, ho9, HB9⟩
                case measure => simp [intOf]; omega
            · obtain rfl : j = pI := by omega
              have hxv : x = v := by rw [HpI.out] at hx; injection hx with e; exact e.symm
              subst hxv
              have hne : (x != x) = false := by simp
              have hfin : Hid (M.rkTo xs (M.parents xs) l (k + 1) = u) := by
                show _ = _
                rw [hrks.out, M.gR_stop Hasc.out HpI.out]
                exact hsum.out
              clear hx
              go_wp2
              go_region
              go_wp2
              go_roundw
              case rel => exact ⟨k + 1, u, by omega, by go_num, rfl, hfin, hbs.out.drew⟩
              case measure => simp [intOf]; omega
        · have hkn : k = xs.length := by have := Hll.out; omega
          have hki : ¬ (k : Int) < (l.length : Int) := by omega
          rw [hkn] at hrk
          have hB9 := Lib.hid (btr hB0.out hbw.out)
          clear hkn
          go_wp2
          go_ret2
          exact ⟨by rw [hrk.out]; rfl, hB9.out⟩
    · have h01 : (q != 0) = true := by simpa using hq0
      rw [F_Rank_no (by rw [hgq]; exact hq0), hgq] at hP
      subst hP
      clear hgq hz1 hll hlen
      go_enter Try.func18, Try.ntmps18
      go_wp2_with fail
      rw [← hW]
      clear hW
      refine HC.out.mono ?_
      rintro e w5 ⟨rfl, hb5⟩
      have hBW5 := Lib.hid hb5
      have c5 := cell_be cT hb5
      clear HC hb5
      go_wp2_with fail
      refine (HF.out _ hBW5.out).mono ?_
      rintro e w6 ⟨rfl, hb6⟩
      have hB6 := Lib.hid (btr hB0.out (btr hBW5.out hb6))
      clear hb6 c5 HF
      go_wp2
      go_ret2
      exact ⟨rfl, hB6.out⟩
  · have h01 : (r != 0) = true := by simpa using h0
    have h02 : (r == 0) = false := by simpa using h0
    have hgr : M.gcodeR xs l = r := by rw [M.gcodeR, if_neg (by rw [hr.out]; exact h0), hr.out]
    rw [F_Rank_no (by rw [hgr]; exact h0), hgr] at hP
    subst hP
    clear hgr
    go_enter Try.func18, Try.ntmps18
    go_wp2_with fail
    rw [← hW]
    clear hW
    refine HC.out.mono ?_
    rintro e w5 ⟨rfl, hb5⟩
    have hB5 := Lib.hid (btr hB0.out hb5)
    go_wp2
    go_ret2
    exact ⟨rfl, hB5.out⟩
end Go.Proofs.Ytkcldfliiagloaa

/- An argument of type laws.Tree opened: its value, its numbers in memory. -/
namespace Go.Proofs.Ytkcldfliiagloaa
open Go.RowKit Go.Joins Go.ChangeShapes Go.WideShapes Go.ChangeAt Go.Deep

theorem own : ownKnob Try.prog.godebug = none := by kernel_rfl
theorem laidOut : laidOutB Try.prog = true := by kernel_rfl
theorem cells64 : Try.prog.cellsOf 2 = 1 := by kernel_rfl
theorem cellsTree : Try.prog.cellsOf 24 = 1 := by kernel_rfl

section
variable {H : Type} {enc : TypeId × Value → H} {P : Program} {w : World} {base : Nat} {spare : Nat → Bool} {held : Bool}
theorem open_agg1 {r : Reach} {b0 : Nat} {t : TypeId} {f0 : Field} {v : Value} {d : DataW H} {p : List MemPlace} (hs : P.underlying t = some (.struct #[f0])) (hone : oneCellFields P #[f0] = true) (hC : P.cellsOf t = 1)
    (hv : Value.okWide P w r b0 t v) (h : DataW.Trod enc P w base spare held t v d p) :
    ∃ (v0 : Value) (y0 : DataW H × List MemPlace) (n : Nat), v = .agg #[v0] ∧ d = .agg [y0.1] ∧ p = y0.2 ∧ DataW.trod enc P w base spare held n f0.type [v0] = some y0 := by
  obtain ⟨cs, rfl, hsz⟩ := okWide_struct hs hv
  obtain ⟨l⟩ := cs
  match l, hsz.trans hC with
  | [c0], _ =>
    obtain ⟨fuel, hf⟩ := h
    obtain ⟨xs, n, _, hx, _, hlen, hg⟩ := DataW.trod_struct hs hf
    obtain ⟨o0, k0⟩ := hone_of hone 0 f0 rfl
    match xs, hlen with
    | [y0], _ =>
      simp only [Prod.mk.injEq] at hx
      exact ⟨c0, y0, n, rfl, by simpa using hx.1, by simpa using hx.2, by simpa [Value.cells, o0, k0] using hg 0 f0 rfl⟩
end

/-- a slice of int64 as read, in this seat's words -/
theorem openInts {H : Type} {enc : TypeId × Value → H} {W : World} {fuel : Nat} {v : Value} {y : DataW H × List MemPlace}
    (h : DataW.trod enc Try.prog W 0 (fun _ => true) true fuel 22 [v] = some y) (hlt : ∀ x ∈ y.2, x.block < W.heap.size) :
    ∃ (A : Option Addr) (c : Nat) (xs : List Int), v = .slice A xs.length c ∧ xs.length ≤ 9223372036854775807 ∧ Ints W W.heap.size A xs ∧ ∀ x ∈ xs, -9223372036854775808 ≤ x ∧ x ≤ 9223372036854775807 := by
  rcases open_ints Try.underlying22 Try.underlying2 cells64 h with ⟨hcs, hx⟩ | ⟨a, len', cap', zs, hcs, _, hl, hm, hz, hx, hcell, hwz⟩
  · obtain rfl : v = .slice none 0 0 := by simpa using hcs
    exact ⟨none, 0, [], rfl, by simp, Ints.nil_ _ _ _, by simp⟩
  · obtain rfl : v = .slice (some a) len' cap' := by simpa using hcs
    simp only [if_true] at hz
    have hlz : len' ≤ zs.length := by omega
    have htl : (zs.take len').length = len' := by simp; omega
    subst hx
    refine ⟨some a, cap', zs.take len', by rw [htl], by rw [htl]; simp only [maxLen] at hm; omega, fun hpos => ?_, fun x hxm => ?_⟩
    · rw [htl] at hpos
      obtain ⟨b, off, spot⟩ := a
      have hspot : spot = none := by simpa [Addr.add] using World.cell?_spot (hcell 0 (by omega))
      subst hspot
      refine ⟨b, off, rfl, hlt (.cell b off) (MemPlace.mem_row.2 ⟨0, by omega, by simp⟩), fun j x hj => ?_⟩
      have hj' : j < zs.length := by
        have := (List.getElem?_eq_some_iff.1 hj).1
        rw [htl] at this
        omega
      have hj2 : zs[j]? = some x := by
        rw [List.getElem?_take] at hj
        split at hj
        · exact hj
        · cases hj
      rw [← add_plain, hcell j hj']
      simp [List.getD, hj2]
    · have := hwz x (List.mem_of_mem_take hxm)
      simpa [Lit.wf, IntKind.min, IntKind.max, IntKind.signed, IntKind.bits] using this

set_option maxRecDepth 100000 in
theorem openTree {H : Type} {enc : TypeId × Value → H} {W : World} {base : Nat} {v : Value} {d : DataW H} {p : List MemPlace} (hv : Value.okWide Try.prog W .any base 24 v)
    (h : DataW.Trod enc Try.prog W 0 (fun _ => true) true 24 v d p) (hlt : ∀ x ∈ p, x.block < W.heap.size) :
    ∃ (A : Option Addr) (c : Nat) (xs : List Int), v = .agg #[.slice A xs.length c] ∧ xs.length ≤ 9223372036854775807 ∧ Ints W W.heap.size A xs ∧ ∀ x ∈ xs, -9223372036854775808 ≤ x ∧ x ≤ 9223372036854775807 := by
  obtain ⟨v0, y0, n, rfl, rfl, rfl, hy⟩ := open_agg1 Try.underlying24 (by kernel_rfl) cellsTree hv h
  obtain ⟨A, c, xs, rfl, h1, h2, h3⟩ := openInts hy hlt
  exact ⟨A, c, xs, rfl, h1, h2, h3⟩
end Go.Proofs.Ytkcldfliiagloaa

/- What every row of this seat asks of the whole program, once: three facts on how the cut was made (each takes the kernel near a minute and 9 GB). -/
namespace Go.Proofs.Ytkcldfliiagloaa

set_option maxHeartbeats 4000000 in
theorem shut_mayEnter : Try.pinned.checked.prog.mayEnter = true := by kernel_rfl
set_option maxHeartbeats 4000000 in
theorem shut_lifts : (false == Try.pinned.checked.prog.liftsFinal) = true := by kernel_rfl
set_option maxHeartbeats 4000000 in
theorem shut_make : (Try.pinned.checked.prog.make == some .cut) = true := by kernel_rfl
end Go.Proofs.Ytkcldfliiagloaa
