/- TreeText, the program's and the model's: the text of a tree, or a code. -/
import Derived.Test.YtbdmmeoelagdcaaTextIn
import Derived.Test.YtbdmmeoelagdcaaTwo
import Derived.Test.YtbdmmeoelagdcaaGives
import Derived.Deep.RegionHeld3
namespace Go.Proofs.Ytbdmmeoelagdcaa
open Go.RowKit

def F_TreeText (xs : List Int) : ByteArray × Int := if M.isTree xs then (M.textL 24 xs, 0) else (⟨#[]⟩, 1)
theorem own_cap {w : World} {B n c : Nat} {A : Option Addr} {zs : List Int} (h : Own64 w B (.slice A n c) zs) : n ≤ c := by
  rcases h.2 with ⟨e, _⟩ | ⟨g, cap, cur, hv, _, _, h4, _⟩
  · injection e with e1 e2 e3; omega
  · injection hv with e1 e2 e3; omega

/-- what the model's text must be for trees of at most f nodes -/
def TextOf (f : Nat) : Prop := ∀ (A : Option Addr) (xs : List Int) (c : Nat) (w : World), Hid (M.isTree xs = true) → xs.length ≤ f → xs.length ≤ c → Hid (Ints w w.heap.size A xs) →
  Calls Try.prog 71 #[.agg #[.slice A xs.length c]] w fun e w' => e = .returned (.string (M.textL f xs)) ∧ Hid (Below w.heap.size w w')

set_option maxRecDepth 100000 in
set_option maxHeartbeats 4000000 in
theorem l01Text_step (f : Nat) (ih : Hid (TextOf f)) : TextOf (f + 1) := by
  intro A xs c w ht hf hcl h
  have hx := (M.tree_len ht.out).2
  obtain ⟨d, hd0, hd24⟩ := M.tree_degN ht.out (v := 0) (by have := (M.tree_len ht.out).1; omega)
  have hd := Lib.hid hd0
  obtain ⟨Wb, hWb⟩ : ∃ Wb, w.alloc (.cells #[.slice A xs.length c] 29) = Wb := ⟨_, rfl⟩
  have hWs : Wb.heap.size = w.heap.size + 1 := by rw [← hWb]; simp
  have Hct : Hid (Wb.cell? ⟨w.heap.size, 0, none⟩ = some (.slice A xs.length c)) := by rw [← hWb]; simp [Hid]
  have hIb : Hid (Ints Wb Wb.heap.size A xs) := by rw [← hWb]; exact h.out.al _
  have hBb : Hid (Below w.heap.size w Wb) := by rw [← hWb]; exact bal (b0 w) _
  have hch := Lib.hid (l01Children A xs c 0 d Wb hx ht hd hIb.out)
  have hct := Hct.out
  clear hd0
  go_enter Try.func71, Try.ntmps71
  go_wp2_with fail
  refine hch.out.mono ?_
  rintro e w2 ⟨A3, c3, rfl, hok, hb2⟩
  have Hok := Lib.hid hok
  have hbW2 := Lib.hid hb2
  clear hch hct hWb h hok hb2
  go_wp2
  go_loopw [3, 5] (fun q i wr => ∃ (k : Nat), k ≤ d ∧ i = .int .i64 (k : Int) ∧ q = .string (M.textK f xs k) ∧ Hid (Own64 wr Wb.heap.size (.slice A3 d c3) (M.childs xs 0 d)) ∧ Hid (Below Wb.heap.size Wb wr)) (fun _ i _ => d - (intOf i).toNat)
  case atStart => exact ⟨0, Nat.zero_le _, rfl, rfl, Hok, hbW2⟩
  case round =>
    obtain ⟨k, hk, rfl, rfl, hrow, hbr⟩ := hrel
    have hzr := hbr.out.size
    clear Hok hbW2
    by_cases hlt : k < d
    · have hkd : (k : Int) < (d : Int) := by omega
      have hki0 : (0 : Int) ≤ (k : Int) := by omega
      obtain ⟨g3, rfl⟩ : ∃ g3, A3 = some ⟨g3, 0, none⟩ := by
        rcases hrow.out.2 with ⟨_, h0⟩ | ⟨g, cap, cur, hv, _⟩
        · rw [M.childs_length] at h0; omega
        · injection hv with e1; exact ⟨g, e1⟩
      have hkl := M.kid_lt ht.out hd.out (i := k) (by omega)
      have hks := M.sub_short ht.out hd.out hlt
      have hpk := Lib.hid (M.textK_succ f xs k)
      have hpz := M.textK_size ht.out hf hd.out k (by omega)
      have hTz := M.textL_size f _ (M.sub_tree ht.out hkl) (by omega)
      have hat := Lib.hid (M.childs_at xs 0 hlt)
      generalize M.kidAt xs 0 k = C at *
      obtain ⟨P, hP⟩ : ∃ P, M.textK f xs k = P := ⟨_, rfl⟩
      obtain ⟨T, hT⟩ : ∃ T, Hid (M.textL f (M.sub xs C) = T) := ⟨_, rfl⟩
      obtain ⟨S, hS⟩ : ∃ S, Hid ((M.sub xs C).length = S) := ⟨_, rfl⟩
      rw [hP] at hpz hpk ⊢
      rw [hT.out] at hpk hTz
      rw [hS.out] at hTz hks
      have hsz : ¬ 9223372036854775807 < P.size + T.size := by omega
      have hsub : Hid (C + M.span 1 (xs.drop C) = C + S) := by show _ = _; rw [← hS.out, M.sub_length]
      obtain ⟨g, hfz, _, hgl⟩ := own64_cell hrow.out (M.childs_length xs 0 d) hat.out
      have hct := cell_be Hct.out hbr.out
      have hK0 : Hid (Below wr.heap.size wr wr.drew) := (Below.refl _ _).drew
      have g0 : wr.drew.cell? ⟨g3, k, none⟩ = some (.int .i64 (C : Int)) := g
      have hct0 : wr.drew.cell? ⟨w.heap.size, 0, none⟩ = some (.slice A xs.length c) := hct
      have HSub : Hid (∀ W', Hid (Below wr.heap.size wr W') → Calls Try.prog 72 #[.agg #[.slice A xs.length c], .int .i64 (C : Int)] W' fun e w' => ∃ A' c', e = .returned (.agg #[.slice A' S c']) ∧ Hid (Own64 w' wr.heap.size (.slice A' S c') (M.sub xs C)) ∧ Hid (Below wr.heap.size wr w')) := fun W' hW' => by
        have := l01Subtree A xs c C (C + S) W' hx hcl ht hkl hsub ((hIb.out.be hbr.out).be hW'.out)
        rw [Nat.add_sub_cancel_left] at this
        exact this.mono fun e w' ⟨A', c', he, ho, hb⟩ => ⟨A', c', he, own_mono ho hW'.out.size, btr hW'.out hb⟩
      have HTx : Hid (∀ (A' : Option Addr) (c' : Nat) W', Hid (Below wr.heap.size wr W') → Hid (Own64 W' wr.heap.size (.slice A' S c') (M.sub xs C)) → Calls Try.prog 71 #[.agg #[.slice A' S c']] W' fun e w' => e = .returned (.string T) ∧ Hid (Below wr.heap.size wr w')) := fun A' c' W' hW' ho => by
        have := ih.out A' (M.sub xs C) c' W' (Lib.hid (M.sub_tree ht.out hkl)) (by rw [hS.out]; omega) (by rw [hS.out]; exact own_cap ho.out) (ints_of_own64 ho.out)
        rw [hS.out, hT.out] at this
        exact this.mono fun e w' ⟨he, hb⟩ => ⟨he, btr hW'.out hb.out⟩
      have HC2 : Hid (∀ W', Hid (Below wr.heap.size wr W') → W'.cell? ⟨w.heap.size, 0, none⟩ = some (.slice A xs.length c) ∧ W'.cell? ⟨g3, k, none⟩ = some (.int .i64 (C : Int))) := fun W' hW' => ⟨cell_be hct hW'.out, (hW'.out.cell (p := ⟨g3, k, none⟩) hgl).trans g⟩
      clear hP hT hS hsub hfz hks hTz hpz hkl
      go_wp2
      go_region_held3 (fun w' => w'.cell? ⟨w.heap.size, 0, none⟩ = some (.slice A xs.length c) ∧ w'.cell? ⟨g3, k, none⟩ = some (.int .i64 (C : Int))) (first | exact ⟨hct0, g0⟩ | exact HC2.out _ (by assumption)) (first | (go_at_call 72; refine (HSub.out _ hK0).mono ?_; rintro e w7 ⟨A7, c7, rfl, ho7, hb7⟩) | (go_at_call 71; refine (HTx.out _ _ _ hb7 ho7).mono ?_; rintro e w8 ⟨rfl, hb8⟩))
      have hrow8 : Hid (Own64 w8 Wb.heap.size (.slice (some ⟨g3, 0, none⟩) d c3) (M.childs xs 0 d)) := own_be hrow.out hb8.out
      have hb9 : Hid (Below Wb.heap.size Wb w8) := btr hbr.out hb8.out
      clear HSub HTx HC2 g0 hct0 g hct hK0 hb7 ho7 hrow hbr
      go_wp2
      go_roundw
      case rel => exact ⟨k + 1, by omega, by go_num, by rw [hpk.out], hrow8, hb9⟩
      case measure => simp [intOf]; omega
    · obtain rfl : k = d := by omega
      have hpo : Hid (M.textL (f + 1) xs = M.textK f xs k ++ ⟨#[41]⟩) := M.textL_at hd.out
      have hfin := Lib.hid (btr hBb.out hbr.out)
      have hge : ¬ (k : Int) < (k : Int) := by omega
      have hsz1 : ¬ 9223372036854775807 < (M.textK f xs k).size + 1 := by have := M.textK_size ht.out hf hd.out k (by omega); have := M.kids_all ht.out hd.out; omega
      generalize M.textK f xs k = P at *
      go_wp2
      go_ret
      exact ⟨by rw [hpo.out]; rfl, hfin⟩

theorem l01Text : ∀ f, TextOf f := by
  intro f
  induction f with
  | zero => intro A xs c w ht hf; have := (M.tree_len ht.out).1; omega
  | succ f ih => exact l01Text_step f (Lib.hid ih)

end Go.Proofs.Ytbdmmeoelagdcaa
