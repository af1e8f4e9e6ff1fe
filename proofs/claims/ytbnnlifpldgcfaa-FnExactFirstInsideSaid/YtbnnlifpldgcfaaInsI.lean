/- listsInside's iterator: every list by which t is inside u is handed over, in order. -/
import Derived.Test.YtbnnlifpldgcfaaInsR
import Derived.Test.YtbnnlifpldgcfaaRangeRowsW
import Derived.Test.YtbnnlifpldgcfaaParentsIn
import Derived.Test.YtbnnlifpldgcfaaInsIn
import Derived.Test.YtbnnlifpldgcfaaTwo
import Derived.Maps.OwnIn
namespace Go.Proofs.Ytbnnlifpldgcfaa
open Go.RowKit Go.Shelf Go.Maps
attribute [local go_sem] Oper.semAt_some

/-- append of one number to one of two rows, inside a fence -/
theorem pushTwoIn {F : Fence} {nF : Nat} {ops : Array Oper} {rest : List Oper} {o : Oper} {a : Act} {Q : Exit → Act → World → Prop} (hgd : o.guard = none) (s x : Operand)
    (ho : o.op = .call { callee := .builtin .append, args := #[s, x], argTypes := #[22, 22] }) (w : World) (B : Nat) (A : Option Addr) (n n1 c : Nat) (v2 : Value) (zs ys : List Int) (y : Int)
    (hs : a.eval s = .slice A n c) (N : Nat) (hx : a.eval x = .slice (some ⟨N, 0, none⟩) 1 1) (hN : N = w.heap.size) (ht : Hid (Two w B (.slice A n c) v2 zs ys)) (hB : B ≤ w.heap.size) (hlen : n ≤ 1000000) (hn1 : n1 = n + 1)
    (h : ∀ A' c' w', Hid (Two w' B (.slice A' n1 c') v2 (zs ++ [y]) ys) → Hid ((w.alloc (.cells #[.int .i64 y] 2)).grownBy w' (Value.slice A n c).ownBlock) → wpListIn F nF Try.prog ops Q rest (a.put o.dst (.slice A' n1 c')) w') :
    wpListIn F nF Try.prog ops Q (o :: rest) a (w.alloc (.cells #[.int .i64 y] 2)) := by
  obtain ⟨i0, hi0, hz0, hz1, hz2⟩ := info_parts info64
  obtain ⟨hown, hown2, hdis⟩ := ht.out
  have hn := own64_len hown
  subst hn
  subst hN
  subst hn1
  refine wpListIn_append_own_at _ hgd s x 22 ho B 2 i0 (.int .i64 0) 1 8 Try.underlying22 hi0 hz0 hz1 hz2 rfl (by decide) _ zs.length (zs.map (Value.int .i64)) hs (hown.alloc _) ⟨w.heap.size, 0, none⟩ 1 1 [.int .i64 y] hx rfl ?_ ?_ ?_ ?_ ?_ ?_
  · intro j u hj
    match j, hj with
    | 0, hj => simp at hj; subst hj; simp [Addr.add]
  · intro u hu; simp at hu; subst hu; rfl
  · unfold maxLen; omega
  · omega
  · simp; omega
  · intro v' w1 hown1 hg1 _ hat
    obtain ⟨A', c', rfl⟩ : ∃ A' c', v' = .slice A' (zs.length + 1) c' := own_shape hown1
    refine h A' c' w1 ⟨?_, ?_, ?_⟩ hg1
    · have e : (zs ++ [y]).length = zs.length + 1 := by simp
      unfold Own64
      rw [e]
      simpa using hown1
    · refine (hown2.alloc _).kept hg1 ?_
      cases hv : v2.ownBlock with
      | none => exact .inl rfl
      | some k => exact .inr fun e => hdis k e.symm hv
    · intro b hb hb2
      rcases hat with e | e
      · exact hdis b (e ▸ hb) hb2
      · have h1 := hown2.lt b hb2
        rw [hb] at e
        injection e with e
        simp at e
        omega

theorem own64_takeI {w : World} {B g n c : Nat} {zs : List Int} (h : Own64 w B (.slice (some ⟨g, 0, none⟩) n c) zs) {d : Nat} (hd : d ≤ n) : Own64 w B (.slice (some ⟨g, 0, none⟩) d c) (zs.take d) := by
  have hl := own64_len h
  rcases h.2 with ⟨h0, _⟩ | ⟨g', cap, cur, hv, hg, hh, hnc, hcm, hcs, ht⟩
  · injection h0 with e; cases e
  · injection hv with e1 e2 e3
    injection e1 with e1
    simp at e1
    subst e1
    subst e3
    have hlen : (zs.take d).length = d := by rw [List.length_take]; omega
    refine ⟨by simp, .inr ⟨g, c, cur, by rw [hlen], hg, hh, by rw [hlen]; omega, hcm, hcs, ?_⟩⟩
    rw [hlen, List.map_take, ← ht, List.take_take]
    congr 1
    omega
theorem grownOf {a w : World} (h : Below a.heap.size a w) : a.grownBy w none := ⟨h.os, h.tape, h.output, h.size, fun i hi _ => h.block i hi⟩
/-- what stands beside the list: the boxes and the trees -/
def InCtx (D Bt Bu : Nat) (At Au : Option Addr) (xs us : List Int) (ct cu : Nat) (W : World) : Prop :=
  Boxed W Bt 22 (.slice At xs.length ct) ∧ Boxed W Bu 22 (.slice Au us.length cu) ∧ Ints W D At xs ∧ Ints W D Au us
theorem InCtx.be {D Bt Bu : Nat} {At Au : Option Addr} {xs us : List Int} {ct cu : Nat} {W W' : World} (h : InCtx D Bt Bu At Au xs us ct cu W) (hb : Below W.heap.size W W') (hD : D ≤ W.heap.size) : InCtx D Bt Bu At Au xs us ct cu W' :=
  ⟨(hb.block _ h.1.lt).trans h.1, (hb.block _ h.2.1.lt).trans h.2.1, h.2.2.1.below hb hD, h.2.2.2.below hb hD⟩
theorem InCtx.keep {D Bt Bu : Nat} {At Au : Option Addr} {xs us : List Int} {ct cu : Nat} {W W' : World} (h : InCtx D Bt Bu At Au xs us ct cu W) (hk : KeepD D W W') (h1 : Bt ≠ D) (h2 : Bu ≠ D) : InCtx D Bt Bu At Au xs us ct cu W' :=
  ⟨hk.boxed h.1 h1, hk.boxed h.2.1 h2, hk.ints h.2.2.1 (Nat.le_refl _), hk.ints h.2.2.2 (Nat.le_refl _)⟩
theorem InCtx.grown {D Bt Bu B : Nat} {At Au : Option Addr} {xs us : List Int} {ct cu : Nat} {W W' : World} {r : Option Nat} (h : InCtx D Bt Bu At Au xs us ct cu W) (hg : W.grownBy W' r) (hr : ∀ k, r = some k → B ≤ k) (h1 : Bt < B) (h2 : Bu < B) (h3 : D ≤ B) (hD : D ≤ W.heap.size) : InCtx D Bt Bu At Au xs us ct cu W' :=
  ⟨(hg.block _ h.1.lt (fun e => by have := hr _ e.symm; omega)).trans h.1, (hg.block _ h.2.1.lt (fun e => by have := hr _ e.symm; omega)).trans h.2.1,
    h.2.2.1.keep fun p hp => by
      have e := hg.block p.block (by omega) (fun e => by have := hr _ e.symm; omega)
      simp only [World.cell?, e],
    h.2.2.2.keep fun p hp => by
      have e := hg.block p.block (by omega) (fun e => by have := hr _ e.symm; omega)
      simp only [World.cell?, e]⟩

theorem canFollowB (Au A Ap : Option Addr) (us ps : List Int) (l : List Nat) (cu m c n cp U v : Nat) (w : World) (htu : Hid (M.isTree us = true)) (hcu : Hid (us.length ≤ cu ∧ cu ≤ 1000000000000)) (hU : Hid (us.length = U)) (hlm : Hid (l.length = m)) (hm : m ≤ 24) (hlv : Hid (∀ x ∈ l, x < us.length)) (hpl : Hid (ps.length = n))
    (hIu : Hid (Ints w w.heap.size Au us)) (hIl : Hid (Ints w w.heap.size A (nums l))) (hIp : Hid (Ints w w.heap.size Ap ps)) :
    ∃ b, (Calls Try.prog 98 #[.slice Ap n cp, .slice Au U cu, .slice A m c, .int .i64 (v : Int)] w fun e w' => e = .returned (.bool b) ∧ ∃ q', w' = w.drewN q') ∧ (b = false → m < n → folI us ps l v = false) ∧ (b = true → m < n ∧ folI us ps l v = true) := by
  have hnv : Hid (∀ x ∈ nums l, 0 ≤ x ∧ x < (us.length : Int)) := fun x hx => by
    rw [nums, List.mem_map] at hx
    obtain ⟨y, hy, rfl⟩ := hx
    have := hlv.out y hy
    omega
  have hln : Hid ((nums l).length = m) := by show _ = _; rw [nums_len]; exact hlm.out
  have e : folI us ps l v = (M.pl us (nodeF (nums l)) v m == ps[m]?.getD 0) := by rw [folI, hlm.out]
  by_cases hmn : m < n
  · have h := canFollow Au A Ap us (nums l) ps cu m c n cp v w htu hcu.out.1 hcu.out.2 hln hm hnv hIu hIl hpl hIp hmn
    rw [← e, hU.out] at h
    exact ⟨folI us ps l v, h, fun h _ => h, fun h => ⟨hmn, h⟩⟩
  · exact ⟨false, canFollow_full Au A Ap m cu n c cp U (v : Int) w hmn, fun _ h => absurd h hmn, fun h => by cases h⟩
/-- how far the search is: what has been handed over, and what is still to come -/
def Far (us xs ps : List Int) (k : Nat) (l : List Nat) (f : Nat) : Prop := ∃ pref, pref.length = k ∧ insideLists us xs = pref ++ (M.cont us.length (folI us ps) xs.length l f ++ M.back us.length (folI us ps) xs.length l)
theorem far_start {us xs ps : List Int} (ht : M.isTree xs = true) (hp : M.ParsOK xs ps) : Far us xs ps 0 [] 0 := by
  refine ⟨[], rfl, ?_⟩
  rw [List.nil_append, M.found_cont (by have := (M.tree_len ht).1; omega)]
  exact (inside_found ht hp).symm
theorem far_skip {us xs ps : List Int} {k f v : Nat} {l : List Nat} (h : Far us xs ps k l f) (hc : M.cont us.length (folI us ps) xs.length l f = M.cont us.length (folI us ps) xs.length l v) : Far us xs ps k l v := by
  obtain ⟨pref, h1, h2⟩ := h
  exact ⟨pref, h1, by rw [← hc]; exact h2⟩
theorem far_push {us xs ps : List Int} {k v : Nat} {l : List Nat} (h : Far us xs ps k l v) (hv : v < us.length) (hl : l.length + 1 < xs.length) (hf : folI us ps l v = true) : Far us xs ps k (l ++ [v]) (v + 1) := by
  obtain ⟨pref, h1, h2⟩ := h
  exact ⟨pref, h1, by rw [← M.cont_push hv hl hf]; exact h2⟩
theorem far_hit {us xs ps : List Int} {k v : Nat} {l : List Nat} (h : Far us xs ps k l v) (hv : v < us.length) (hl : l.length + 1 = xs.length) (hf : folI us ps l v = true) : (insideLists us xs)[k]? = some (l ++ [v]) ∧ Far us xs ps (k + 1) (l ++ [v]) (v + 1) := by
  obtain ⟨pref, h1, h2⟩ := h
  rw [M.cont_hit hv hl hf] at h2
  refine ⟨by rw [h2, ← h1, List.getElem?_append_right (Nat.le_refl _), Nat.sub_self]; rfl, pref ++ [l ++ [v]], by simp [h1], by rw [h2]; simp⟩
theorem far_end {us xs ps : List Int} {k v : Nat} (h : Far us xs ps k [] v) (hv : us.length ≤ v) : (insideLists us xs).length = k := by
  obtain ⟨pref, h1, h2⟩ := h
  rw [M.cont_end hv, M.back_nil] at h2
  rw [h2]; simp [h1]
theorem far_back {us xs ps : List Int} {k v x : Nat} {l : List Nat} (h : Far us xs ps k (l ++ [x]) v) (hv : us.length ≤ v) : Far us xs ps k l (x + 1) := by
  obtain ⟨pref, h1, h2⟩ := h
  rw [M.cont_end hv, M.back_snoc, List.nil_append] at h2
  exact ⟨pref, h1, h2⟩
theorem nums_snoc' (l : List Nat) (v : Nat) : nums l ++ [(v : Int)] = nums (l ++ [v]) := by simp [nums]
theorem toNats (l : List Nat) : (nums l).map Int.toNat = l := by
  simp only [nums, List.map_map]
  have : (Int.toNat ∘ fun (x : Nat) => (x : Int)) = id := by funext x; simp
  exact (congrArg (fun f => l.map f) this).trans (List.map_id l)
end Go.Proofs.Ytbnnlifpldgcfaa
