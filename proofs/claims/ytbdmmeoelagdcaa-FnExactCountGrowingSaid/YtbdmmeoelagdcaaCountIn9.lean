/- l09Count: the number of growing orders with a beginning, as the model divides step by step. -/
import Derived.Test.YtbdmmeoelagdcaaCountMath
import Derived.Test.YtbdmmeoelagdcaaWays9
import Derived.Test.YtbdmmeoelagdcaaTwo
import Derived.Test.YtbdmmeoelagdcaaMet
import Derived.Test.YtbdmmeoelagdcaaListCode
namespace Go.Proofs.Ytbdmmeoelagdcaa
open Go.RowKit

theorem Two.be {w w' : World} {B : Nat} {v1 v2 : Value} {xs ys : List Int} (h : Two w B v1 v2 xs ys) (hb : Below w.heap.size w w') : Two w' B v1 v2 xs ys := ⟨own_be h.1 hb, own_be h.2.1 hb, h.2.2⟩
theorem low9 {w w' : World} {B base e size n : Nat} {v : Value} {xs : List Value} (h : w.ownsRow base e size v n xs) (hb : Below B w w') (hlt : ∀ k, v.ownBlock = some k → k < B) : w'.ownsRow base e size v n xs := by
  obtain ⟨h1, h2⟩ := h
  refine ⟨h1, ?_⟩
  rcases h2 with h2 | ⟨g, cap, cur, hv, hg, hh, r⟩
  · exact .inl h2
  · refine .inr ⟨g, cap, cur, hv, hg, ?_, r⟩
    rw [hb.block g (hlt g (by rw [hv]; rfl))]
    exact hh
theorem two_head {w : World} {B n c : Nat} {A : Option Addr} {v2 : Value} {xs ys : List Int} (h : Two w B (.slice A n c) v2 xs ys) (hn : 0 < n) : ∃ g, A = some ⟨g, 0, none⟩ := (Two.shape h).2 hn
theorem cell_low {w w' : World} {B g k : Nat} {v : Value} (h : w.cell? ⟨g, k, none⟩ = some v) (hb : Below B w w') (hlt : g < B) : w'.cell? ⟨g, k, none⟩ = some v :=
  (hb.cell (p := ⟨g, k, none⟩) hlt).trans h
theorem M.gcd_step9 (a b : Nat) : Nat.gcd b (a % b) = Nat.gcd a b := by
  rw [Nat.gcd_comm b (a % b), ← Nat.gcd_rec, Nat.gcd_comm]

theorem M.sz_le9 (xs : List Int) (v : Nat) : M.sz xs v ≤ xs.length := by
  have h1 := M.span_le (xs.drop v) 1
  rw [List.length_drop] at h1
  have h2 : M.sz xs v = M.span 1 (xs.drop v) := rfl
  omega

set_option maxHeartbeats 8000000 in
set_option maxRecDepth 100000 in
theorem l09Count (A A2 : Option Addr) (xs b : List Int) (n c L c2 : Nat) (w : World) (hn : Hid (xs.length = n)) (h20 : n ≤ 20) (ht : Hid (M.isTree xs = true)) (hbg : Hid (M.Bgn n (M.parents xs) b)) (hL : Hid (b.length = L)) (hex : Hid (M.ParsOK xs (M.parents xs))) (h : Hid (Ints w w.heap.size A xs)) (h2 : Hid (Ints w w.heap.size A2 b)) :
    Calls Try.prog 109 #[.agg #[.slice A n c], .slice A2 L c2] w fun e w' => e = .returned (.int .i64 (M.waysN xs b : Int)) ∧ Below w.heap.size w w' := by
  have hLn : L ≤ n := by rw [← hL.out]; exact M.bgn_len hbg.out
  have hred : Hid (M.Red (M.facN (n - L)) (M.prodTo xs b n) (M.topOf (M.lowTo xs b n).length) (M.lowTo xs b n)) := by
    have := M.red_start ht.out hex.out (b := b) (by rw [hn.out]; exact hbg.out)
    rwa [hn.out, hL.out] at this
  have hle : ∀ j, (M.lowTo xs b j).length ≤ j := M.lowTo_le xs b
  have Hle := Lib.hid hle
  have hF := M.facN_20 (k := n - L) (by omega)
  have hW0 : M.waysN xs b = M.facN (n - L) / M.prodTo xs b n := by rw [M.waysN, hn.out, hL.out]
  rw [hW0]
  clear hW0 hle
  generalize M.facN (n - L) = F at *
  generalize hP : M.prodTo xs b n = P at *
  clear hP
  obtain ⟨Q9, hQ9⟩ : ∃ Q9, Hid (F / P = Q9) := ⟨_, rfl⟩
  rw [hQ9.out]
  have hmk := fun W => run_make_row' (P := Try.prog) (w := W) 134 4 (.bool false) 1 Try.underlying134 infoB rfl .i64 .i64 n (by omega) (by omega)
  have cT0 : Hid ((w.alloc (.cells #[.slice A n c] 29)).cell? ⟨w.heap.size, 0, none⟩ = some (.slice A n c)) := by simp [Hid, go_sem]
  have hB0 := Lib.hid (bal (b0 w) (.cells #[.slice A n c] 29))
  have H1 := Lib.hid (h.out.al (.cells #[.slice A n c] 29))
  have H2 := Lib.hid h2.out
  have hzW : (w.alloc (.cells #[.slice A n c] 29)).heap.size = w.heap.size + 1 := by simp
  obtain ⟨W, hW⟩ : ∃ W, W = w.alloc (.cells #[.slice A n c] 29) := ⟨_, rfl⟩
  rw [← hW] at cT0 hB0 H1 hzW
  have hE9 : ∀ (v S : Nat) X, v < n → M.sz xs v = S → Below W.heap.size W X → Calls Try.prog 131 #[.agg #[.slice A n c], .int .i64 (v : Int)] X fun e w' => e = .returned (.int .i64 ((v + S : Nat) : Int)) ∧ Below X.heap.size X w' := fun v S X hv hS hX => by
    have := l01End A xs c v (v + S) X (by show _ = _; rw [← hS]; rfl) (by rw [hn.out]; omega) (M.tree_ok ht.out (by rw [hn.out]; exact hv)) (H1.out.be hX)
    rwa [hn.out] at this
  have HE := Lib.hid hE9
  clear h h2 hE9
  go_enter Try.func109, Try.ntmps109
  go_wp2_with fail
  rw [← hW]
  clear hW
  refine (l01N A n c _).mono ?_
  rintro e w1 ⟨rfl, hb1⟩
  have hB1 := Lib.hid (btr hB0.out hb1)
  have hBW1 := Lib.hid hb1
  have cT1 := Lib.hid (cell_be cT0.out hb1)
  have hz1 := hb1.size
  have hmk1 := hmk w1
  have Hm : Hid (OwnB (w1.alloc (.cells (madeCells #[.bool false] n) 4)) w.heap.size (.slice (some ⟨w1.heap.size, 0, none⟩) n n) (List.replicate n false)) := ownB_made (by omega) (by unfold maxLen; omega)
  rw [show List.replicate n false = M.metRow n b 0 from (M.metRow_zero n b).symm] at Hm
  have hB2 := Lib.hid (bal hB1.out (.cells (madeCells #[.bool false] n) 4))
  have hBW2 := Lib.hid (bal hBW1.out (.cells (madeCells #[.bool false] n) 4))
  have cT2 := Lib.hid (cell_al cT1.out (.cells (madeCells #[.bool false] n) 4))
  have hgz : w.heap.size < w1.heap.size := by omega
  have hz2 : w1.heap.size < (w1.alloc (.cells (madeCells #[.bool false] n) 4)).heap.size := by simp
  clear hb1 cT0 hB0 hB1 hBW1 cT1 hz1
  obtain ⟨Y, hY⟩ : ∃ Y, Y = w1.alloc (.cells (madeCells #[.bool false] n) 4) := ⟨_, rfl⟩
  rw [← hY] at Hm hB2 hBW2 cT2 hz2 hmk1
  generalize hg : w1.heap.size = g at *
  go_wp2
  try rw [hg]
  rw [← hY]
  clear hmk hmk1 hY hg
  -- the first loop: which are there
  go_loopw [6] (fun qi wr => ∃ (k : Nat), k ≤ L ∧ qi = .int .i64 (k : Int) ∧ Hid (OwnB wr w.heap.size (.slice (some ⟨g, 0, none⟩) n n) (M.metRow n b k)) ∧ Hid (wr.cell? ⟨w.heap.size, 0, none⟩ = some (.slice A n c)) ∧ Hid (Below w.heap.size w wr) ∧ Hid (Below W.heap.size W wr)) (fun qi _ => L - (intOf qi).toNat)
  case atStart => exact ⟨0, Nat.zero_le _, rfl, Hm, cT2, hB2, hBW2⟩
  case round =>
    obtain ⟨k, hk, rfl, hm, hc, hbr, hbw⟩ := hrel
    clear Hm cT2 hB2 hBW2 hz2
    by_cases hlt : k < L
    · obtain ⟨ob, off, x, rfl, hbl, g1, hX⟩ := (H2.out.below hbr.out (Nat.le_refl _)).at_ (k := k) (by rw [hL.out]; exact hlt)
      have hx := hbg.out.2.1 x (List.mem_of_getElem? hX.out)
      obtain ⟨v, rfl⟩ := Int.eq_ofNat_of_zero_le hx.1
      have hvn : v < n := by omega
      have hki : (k : Int) < (L : Int) := by omega
      have hk0 : (0 : Int) ≤ (k : Int) := by omega
      have hv0 : (0 : Int) ≤ (v : Int) := by omega
      have hvi : (v : Int) < (n : Int) := by omega
      have hmv := M.metRow_at (l := b) (k := k) hvn
      obtain ⟨m1, m2, _, hgl⟩ := ownB_cell hm.out (M.metRow_len n b k) hmv
      have hms := Lib.hid (M.metRow_step (n := n) hX.out)
      have hset := Lib.hid (ownB_set hm.out (M.metRow_len n b k) v true)
      rw [hms.out] at hset
      have hc2 := Lib.hid ((World.cell?_setCell_other wr (a := ⟨g, v, none⟩) (b := ⟨w.heap.size, 0, none⟩) (v := .bool true) (by intro e; injection e with e1; omega)).trans hc.out)
      have hb2 := Lib.hid (below_setCell hbr.out (Nat.le_of_lt hgz) (k := v) (.bool true))
      have hb3 := Lib.hid (below_setCell hbw.out (by omega : W.heap.size ≤ g) (k := v) (.bool true))
      clear hm hc hmv hms hX hred HE Hle
      go_wp2
      go_roundw
      case rel => exact ⟨k + 1, by omega, by go_num, hset, hc2, hb2, hb3⟩
      case measure => simp [intOf]; omega
    · obtain rfl : k = L := by omega
      have hge : ¬ (k : Int) < (k : Int) := by omega
      have hkb : b.take k = b := by rw [← hL.out, List.take_length]
      obtain ⟨R, hR⟩ : ∃ R, M.metRow n b k = R := ⟨_, rfl⟩
      have hRat : Hid (∀ v, v < n → R[v]? = some (decide ((v : Int) ∈ b))) := fun v hv => by rw [← hR, M.metRow_at hv, hkb]
      have hRl : Hid (R.length = n) := by show _ = _; rw [← hR]; exact M.metRow_len _ _ _
      rw [hR] at hm
      have Hge := Lib.hid hge
      obtain ⟨G, hG⟩ : ∃ G, wr.heap.size = G := ⟨_, rfl⟩
      have HG := Lib.hid hG
      obtain ⟨V, hV⟩ : ∃ V, V = (wr.alloc (.cells #[] 2)).alloc (.cells #[] 2) := ⟨_, rfl⟩
      have hgX : g < G := by
        rcases Nat.lt_or_ge 0 n with h0 | h0
        · rw [← hG]; exact (ownB_cell hm.out hRl.out (hRat.out 0 h0)).2.2.2
        · have := M.tree_len ht.out; rw [hn.out] at this; omega
      have hT0 : Hid (Two V G (.slice (some ⟨G, 0, none⟩) 0 0) (.slice (some ⟨G + 1, 0, none⟩) 0 0) [] []) := by
        rw [hV, ← hG]
        refine ⟨own_be (own64_empty (Nat.le_refl _)) (bal (b0 _) _), ?_, fun q h1 h2 => by
          have e1 : wr.heap.size = q := by injection h1
          have e2 : wr.heap.size + 1 = q := by injection h2
          omega⟩
        · have := own64_empty (w := wr.alloc (.cells #[] 2)) (B := wr.heap.size) (by simp)
          simpa using this
      have hm2 : Hid (OwnB V w.heap.size (.slice (some ⟨g, 0, none⟩) n n) R) := by rw [hV]; exact own_be (own_be hm.out (bal (b0 _) _)) (bal (b0 _) _)
      have hc2 : Hid (V.cell? ⟨w.heap.size, 0, none⟩ = some (.slice A n c)) := by rw [hV]; exact cell_al (cell_al hc.out _) _
      have hb2 : Hid (Below w.heap.size w V) := by rw [hV]; exact bal (bal hbr.out _) _
      have hb3 : Hid (Below W.heap.size W V) := by rw [hV]; exact bal (bal hbw.out _) _
      have hzV : G ≤ V.heap.size := by rw [hV]; simp; omega
      have hwG : W.heap.size ≤ G := by rw [← hG]; exact hbw.out.size
      clear hm hc hbr hbw hlt hk hge hR hkb H2 hbg
      go_wp2
      rw [← hV]
      clear hV hG
      -- the second loop: the rows that grow
      have hst : Hid (Two V G (.slice (some ⟨G, 0, none⟩) 0 0) (.slice (some ⟨G + 1, 0, none⟩) 0 0) (M.ints (M.topOf (M.lowTo xs b 0).length)) (M.ints (M.lowTo xs b 0))) := hT0
      clear hT0
      go_loopw [7, 8, 9] (fun qt ql qi wr => ∃ (j m : Nat) (A1 A3 : Option Addr) (c1 c3 : Nat), j ≤ n ∧ qi = .int .i64 (j : Int) ∧ Hid ((M.lowTo xs b j).length = m) ∧ qt = .slice A1 m c1 ∧ ql = .slice A3 m c3 ∧ Hid (Two wr G (.slice A1 m c1) (.slice A3 m c3) (M.ints (M.topOf (M.lowTo xs b j).length)) (M.ints (M.lowTo xs b j))) ∧ Hid (OwnB wr w.heap.size (.slice (some ⟨g, 0, none⟩) n n) R) ∧ Hid (wr.cell? ⟨w.heap.size, 0, none⟩ = some (.slice A n c)) ∧ Hid (Below w.heap.size w wr) ∧ Hid (Below W.heap.size W wr) ∧ G ≤ wr.heap.size) (fun _ _ qi _ => n - (intOf qi).toNat)
      case atStart => exact ⟨0, 0, _, _, 0, 0, Nat.zero_le _, rfl, rfl, rfl, rfl, hst, hm2, hc2, hb2, hb3, hzV⟩
      case round =>
        obtain ⟨j, m, A1, A3, c1, c3, hj, rfl, hjm, rfl, rfl, hT, hm, hc, hbr, hbw, hzr⟩ := hrel
        clear hst hm2 hc2 hb2 hb3 hzV
        have hm20 : m ≤ 20 := by have := Hle.out j; rw [hjm.out] at this; omega
        have cc := hc.out
        by_cases hjn : j < n
        · have hji : (j : Int) < (n : Int) := by omega
          have hj0 : (0 : Int) ≤ (j : Int) := by omega
          have hRj := hRat.out j hjn
          go_wp2_with fail
          refine (l01N A n c _).mono ?_
          rintro e w7 ⟨rfl, hb7⟩
          have hT7 := Lib.hid (hT.out.be hb7)
          have hm7 := Lib.hid (own_be hm.out hb7)
          have hc7 := Lib.hid (cell_be hc.out hb7)
          have hbr7 := Lib.hid (btr hbr.out hb7)
          have hbw7 := Lib.hid (btr hbw.out hb7)
          have hz7 : G ≤ w7.heap.size := Nat.le_trans hzr hb7.size
          obtain ⟨m1, m2, _, _⟩ := ownB_cell hm7.out hRl.out hRj
          clear hT hm hc hbr hbw cc hb7 hRj hzr
          by_cases hjb : (j : Int) ∈ b
          · rw [decide_eq_true hjb] at m1
            have hs := Lib.hid (show M.lowTo xs b (j + 1) = M.lowTo xs b j by rw [M.lowTo, if_pos hjb])
            have hjm2 : Hid ((M.lowTo xs b (j + 1)).length = m) := by show _ = _; rw [hs.out]; exact hjm.out
            rw [← hs.out] at hT7
            clear hs hjb hjm
            go_wp2
            go_roundw
            case rel => exact ⟨j + 1, m, A1, A3, c1, c3, by omega, by go_num, hjm2, rfl, rfl, hT7, hm7, hc7, hbr7, hbw7, hz7⟩
            case measure => simp [intOf]; omega
          · rw [decide_eq_false hjb] at m1
            obtain ⟨S, hS⟩ : ∃ S, M.sz xs j = S := ⟨_, rfl⟩
            have hs := Lib.hid (show M.lowTo xs b (j + 1) = M.lowTo xs b j ++ [S] by rw [M.lowTo, if_neg hjb, hS])
            have hs2 : Hid (M.topOf (M.lowTo xs b (j + 1)).length = M.topOf (M.lowTo xs b j).length ++ [m + 1]) := by show _ = _; rw [hs.out, List.length_append, List.length_singleton, M.topOf_succ, hjm.out]
            have hjm2 : Hid ((M.lowTo xs b (j + 1)).length = m + 1) := by show _ = _; rw [hs.out, List.length_append, hjm.out]; rfl
            have hSb : S ≤ 24 := by
              rw [← hS]
              have := M.sz_le9 xs j
              rw [hn.out] at this
              omega
            obtain ⟨E, hE⟩ : ∃ E, Hid (j + S = E) := ⟨_, rfl⟩
            have hEe : (E : Int) - (j : Int) = (S : Int) := by have := hE.out; omega
            have hE24 : E ≤ 44 := by have := hE.out; omega
            have HEj := Lib.hid (fun X hX => HE.out j S X hjn hS hX)
            rw [hE.out] at HEj
            generalize M.lowTo xs b j = B0 at *
            generalize M.topOf B0.length = T0 at *
            clear hS hjb hjm hE
            have hBG : Hid (∀ X, Below w7.heap.size w7 X → True) := fun _ _ => trivial
            clear hBG
            go_wp2_with (first | (at_builtin; refine pushTwo rfl (.tmp 45) (.tmp 49) rfl w7 G A1 m c1 (.slice A3 m c3) (M.ints T0) (M.ints B0) ((m : Int) + 1) rfl _ rfl rfl hT7 hz7 (by omega) ?_; intro A8 c8 w8 hT8 hb8; have cc8 := cell_low hc7.out hb8.out (by omega)) | (go_at_call 131; refine (HEj.out _ (hbw7.out.trans (hb8.out.mono hwG))).mono ?_; rintro e w9 ⟨rfl, hb9⟩) | (at_builtin; refine pushTwo rfl (.tmp 51) (.tmp 57) rfl w9 G A3 m c3 (.slice A8 (m + 1) c8) (M.ints B0) (M.ints (T0 ++ [m + 1])) (S : Int) rfl _ rfl rfl (Lib.hid ((by have := hT8.out.be hb9; rw [M.ints_app]; exact this.symm))) (Nat.le_trans hz7 (Nat.le_trans hb8.out.size hb9.size)) (by omega) ?_; intro A10 c10 w10 hT10 hb10))
            have hT11 : Hid (Two w10 G (.slice A8 (m + 1) c8) (.slice A10 (m + 1) c10) (M.ints (M.topOf (M.lowTo xs b (j + 1)).length)) (M.ints (M.lowTo xs b (j + 1)))) := by
              show Two _ _ _ _ _ _
              rw [hs2.out, hs.out, M.ints_app B0]
              exact hT10.out.symm
            have hB11 : Hid (Below G w7 w10) := (hb8.out.trans (hb9.mono (Nat.le_trans hz7 hb8.out.size))).trans hb10.out
            have hm11 := Lib.hid (low9 hm7.out hB11.out (fun q hq => by have e : some g = some q := hq; injection e with e; omega))
            have hc11 := Lib.hid (cell_low hc7.out hB11.out (by omega))
            have hbr11 := Lib.hid (hbr7.out.trans (hB11.out.mono (by omega)))
            have hbw11 := Lib.hid (hbw7.out.trans (hB11.out.mono hwG))
            have hz11 : G ≤ w10.heap.size := Nat.le_trans hz7 hB11.out.size
            clear hT8 hb8 hb9 hT10 hb10 hB11 cc8 hm7 hc7 hbr7 hbw7 hT7
            go_roundw
            case rel => exact ⟨j + 1, m + 1, A8, A10, c8, c10, by omega, by go_num, hjm2, rfl, rfl, hT11, hm11, hc11, hbr11, hbw11, hz11⟩
            case measure => simp [intOf]; omega
        · obtain rfl : j = n := by omega
          have hjn0 : ¬ (j : Int) < (j : Int) := by omega
          obtain ⟨T0, B0, hT0, hB0, hred0⟩ : ∃ T0 B0, Hid (M.topOf (M.lowTo xs b j).length = T0) ∧ Hid (M.lowTo xs b j = B0) ∧ Hid (M.Red F P T0 B0) := ⟨_, _, rfl, rfl, hred⟩
          have hTl : Hid (T0.length = m) := by show _ = _; rw [← hT0.out, M.topOf_len]; exact hjm.out
          have hBl : Hid (B0.length = m) := by show _ = _; rw [← hB0.out]; exact hjm.out
          rw [hT0.out, hB0.out] at hT
          go_wp2_with fail
          refine (l01N A j c _).mono ?_
          rintro e w7 ⟨rfl, hb7⟩
          have hT7 := Lib.hid (hT.out.be hb7)
          have hbr7 := Lib.hid (btr hbr.out hb7)
          have hz7 : G ≤ w7.heap.size := Nat.le_trans hzr hb7.size
          have hGw : w.heap.size ≤ G := by omega
          clear hT hm hc hbr hbw cc hb7 hzr hjm HE hRat hRl Hle hred hT0 hB0 H1 hn ht hex hwG hgX hjn0
          go_wp2
          go_loopw [10] (fun qi wr => ∃ (i : Nat) (T B : List Nat), i ≤ m ∧ qi = .int .i64 (i : Int) ∧ Hid (T.length = m) ∧ Hid (B.length = m) ∧ Hid (M.Red F P T B) ∧ Hid (∀ (u y : Nat), u < i → B[u]? = some y → y = 1) ∧ Hid (Two wr G (.slice A1 m c1) (.slice A3 m c3) (M.ints T) (M.ints B)) ∧ Hid (Below w.heap.size w wr) ∧ G ≤ wr.heap.size) (fun qi _ => m - (intOf qi).toNat)
          case atStart => exact ⟨0, T0, B0, Nat.zero_le _, rfl, hTl, hBl, hred0, fun u y h => by omega, hT7, hbr7, hz7⟩
          case round =>
            obtain ⟨i, T, B, hi, rfl, hTl2, hBl2, hred2, hone, hT, hbr, hzr⟩ := hrel
            clear hTl hBl hred0 hT7 hbr7 hz7
            by_cases him : i < m
            · have hii : (i : Int) < (m : Int) := by omega
              obtain ⟨g1, rfl⟩ := two_head hT.out (by omega)
              obtain ⟨g3, rfl⟩ := two_head hT.out.symm (by omega)
              have hap : Hid (M.Apart T B i 0) := M.apart_zero T B i
              go_wp2
              go_loopw [11] (fun qk ws => ∃ (k : Nat) (T B : List Nat), k ≤ m ∧ qk = .int .i64 (k : Int) ∧ Hid (T.length = m) ∧ Hid (B.length = m) ∧ Hid (M.Red F P T B) ∧ Hid (∀ (u y : Nat), u < i → B[u]? = some y → y = 1) ∧ Hid (M.Apart T B i k) ∧ Hid (Two ws G (.slice (some ⟨g1, 0, none⟩) m c1) (.slice (some ⟨g3, 0, none⟩) m c3) (M.ints T) (M.ints B)) ∧ Hid (Below w.heap.size w ws) ∧ G ≤ ws.heap.size) (fun qk _ => m - (intOf qk).toNat)
              case atStart => exact ⟨0, T, B, Nat.zero_le _, rfl, hTl2, hBl2, hred2, hone, hap, hT, hbr, hzr⟩
              case round =>
                clear hTl2 hBl2 hred2 hone hap hT hbr hzr T B
                obtain ⟨k, T, B, hk, rfl, hTl, hBl, hred, hone, hap, hT, hbr, hzs⟩ := hrel
                obtain ⟨y, hy⟩ : ∃ y, B[i]? = some y := ⟨_, List.getElem?_eq_getElem (by rw [hBl.out]; exact him)⟩
                have hy0 := M.red_lows hred.out hy
                have hyF := M.red_low_le hred.out hy
                obtain ⟨q1, q2, q3, q4⟩ := own64_cell hT.out.2.1 ((M.ints_len B).trans hBl.out) (M.ints_at hy)
                by_cases hkm : k < m
                · have hki : (k : Int) < (m : Int) := by omega
                  by_cases hy1 : 1 < y
                  · have hyi : (1 : Int) < (y : Int) := by omega
                    obtain ⟨x, hx⟩ : ∃ x, T[k]? = some x := ⟨_, List.getElem?_eq_getElem (by rw [hTl.out]; exact hkm)⟩
                    have hx0 := M.red_pos hred.out hx
                    have hxF := M.red_top_le hred.out hx
                    obtain ⟨p1, p2, p3, p4⟩ := own64_cell hT.out.1 ((M.ints_len T).trans hTl.out) (M.ints_at hx)
                    have Hx := Lib.hid hx
                    have Hy := Lib.hid hy
                    clear hx hy
                    go_wp2
                    go_region
                    obtain ⟨Z, hZ⟩ : ∃ Z, Z = wr.drew := ⟨_, rfl⟩
                    have hTZ : Hid (Two Z G (.slice (some ⟨g1, 0, none⟩) m c1) (.slice (some ⟨g3, 0, none⟩) m c3) (M.ints T) (M.ints B)) := by rw [hZ]; exact hT.out
                    have hbZ : Hid (Below w.heap.size w Z) := by rw [hZ]; exact hbr.out.drew
                    have hzZ : G ≤ Z.heap.size := by rw [hZ]; exact hzs
                    rw [← hZ]
                    clear hZ hT hbr hzs p1 p2 p4 q1 q2 q4 hki
                    obtain ⟨D, hD⟩ : ∃ D, Hid (Nat.gcd x y = D) := ⟨_, rfl⟩
                    have hD0 : 0 < D := by rw [← hD.out]; exact Nat.gcd_pos_of_pos_left _ hx0
                    have hDx : D ≤ x := by rw [← hD.out]; exact Nat.gcd_le_left _ hx0
                    have hDi : ¬ (D : Int) = 0 := by omega
                    go_wp2
                    go_loopw [12, 13] (fun qa qb ws => ∃ (u v : Nat), qa = .int .i64 (u : Int) ∧ qb = .int .i64 (v : Int) ∧ 0 < u ∧ u ≤ F ∧ v ≤ F ∧ Hid (Nat.gcd u v = D) ∧ ws = Z) (fun _ qb _ => (intOf qb).toNat)
                    case atStart => exact ⟨x, y, rfl, rfl, hx0, hxF, hyF, hD, rfl⟩
                    case round =>
                      obtain ⟨u, v, rfl, rfl, hu0, huF, hvF, hg, rfl⟩ := hrel
                      by_cases hv0 : 0 < v
                      · have hvi : (0 : Int) < (v : Int) := by omega
                        have hvn : ¬ (v : Int) = 0 := by omega
                        obtain ⟨r, hr⟩ : ∃ r, Hid (u % v = r) := ⟨_, rfl⟩
                        have hrv : r < v := by rw [← hr.out]; exact Nat.mod_lt _ hv0
                        have hg2 : Hid (Nat.gcd v r = D) := by show _ = _; rw [← hr.out, M.gcd_step9]; exact hg.out
                        have hri : (u : Int) % (v : Int) = (r : Int) := by rw [← hr.out]; exact (Int.natCast_emod u v).symm
                        have hri9 : Hid (wrap64 ((u : Int) % (v : Int)) = (r : Int)) := by show _ = _; rw [hri]; exact IntWalk.wrap64_in _ ⟨by omega, by omega⟩
                        clear hg hr
                        go_wp2
                        go_roundw
                        case rel => exact ⟨v, r, rfl, by rw [hri], hv0, hvF, by omega, hg2, trivial⟩
                        case measure => rw [hri]; simp [intOf]; omega
                      · obtain rfl : v = 0 := by omega
                        have hvi : ¬ (0 : Int) < ((0 : Nat) : Int) := by omega
                        have hu : u = D := by rw [← hg.out, Nat.gcd_zero_right]
                        subst hu
                        obtain ⟨X, hX⟩ : ∃ X, Hid (x / u = X) := ⟨_, rfl⟩
                        obtain ⟨Y9, hY9⟩ : ∃ Y9, Hid (y / u = Y9) := ⟨_, rfl⟩
                        have hxq : (x : Int) / (u : Int) = (X : Int) := by rw [← hX.out]; exact (Int.natCast_ediv x u).symm
                        have hyq : (y : Int) / (u : Int) = (Y9 : Int) := by rw [← hY9.out]; exact (Int.natCast_ediv y u).symm
                        have hXx : X ≤ x := by rw [← hX.out]; exact Nat.div_le_self _ _
                        have hYy : Y9 ≤ y := by rw [← hY9.out]; exact Nat.div_le_self _ _
                        have hX9 : Hid (wrap64 ((x : Int) / (u : Int)) = (X : Int)) := by show _ = _; rw [hxq]; exact IntWalk.wrap64_in _ ⟨by omega, by omega⟩
                        have hY8 : Hid (wrap64 ((y : Int) / (u : Int)) = (Y9 : Int)) := by show _ = _; rw [hyq]; exact IntWalk.wrap64_in _ ⟨by omega, by omega⟩
                        have hst := Lib.hid (M.red_step hred.out Hx.out Hy.out)
                        have hap2 := Lib.hid (M.apart_step hap.out Hx.out Hy.out hy0)
                        rw [hD.out, hX.out, hY9.out] at hst hap2
                        have hone2 : Hid (∀ (u y : Nat), u < i → (B.set i Y9)[u]? = some y → y = 1) := fun u' y' hu' hy' => hone.out u' y' hu' (by rwa [List.getElem?_set_ne (by omega)] at hy')
                        have hs1 := hTZ.out.set ((M.ints_len T).trans hTl.out) k (X : Int)
                        rw [← M.ints_set] at hs1
                        have hs2 := hs1.symm.set ((M.ints_len B).trans hBl.out) i (Y9 : Int)
                        rw [← M.ints_set] at hs2
                        have hs3 := Lib.hid hs2.symm
                        obtain ⟨p1, p2, p3, p4⟩ := own64_cell hTZ.out.1 ((M.ints_len T).trans hTl.out) (M.ints_at Hx.out)
                        obtain ⟨q1, q2, q3, q4⟩ := own64_cell hs1.2.1 ((M.ints_len B).trans hBl.out) (M.ints_at Hy.out)
                        have hb8 := Lib.hid (below_setCell (below_setCell hbZ.out (by omega : w.heap.size ≤ g1) (k := k) (.int .i64 (X : Int))) (by omega : w.heap.size ≤ g3) (k := i) (.int .i64 (Y9 : Int)))
                        have hz8 : G ≤ ((wr.setCell ⟨g1, k, none⟩ (.int .i64 (X : Int))).setCell ⟨g3, i, none⟩ (.int .i64 (Y9 : Int))).heap.size := by simpa using hzZ
                        clear hs1 hs2 hTZ hbZ hred hap hone hg hD
                        go_wp2
                        go_roundw
                        case rel => exact ⟨k + 1, T.set k X, B.set i Y9, by omega, by go_num, by show _ = _; rw [List.length_set]; exact hTl.out, by show _ = _; rw [List.length_set]; exact hBl.out, hst, hone2, hap2, hs3, hb8, hz8⟩
                        case measure => simp [intOf]; omega
                  · have hyi : ¬ (1 : Int) < (y : Int) := by omega
                    have hy1' : y = 1 := by omega
                    have hone2 : Hid (∀ (u y : Nat), u < i + 1 → B[u]? = some y → y = 1) := fun u y' hu hy' => by
                      rcases Nat.lt_or_ge u i with h1 | h1
                      · exact hone.out u y' h1 hy'
                      · obtain rfl : u = i := by omega
                        rw [hy] at hy'; injection hy' with e; omega
                    clear hone hap hy hy1'
                    go_wp2
                    go_roundw
                    case rel => exact ⟨i + 1, T, B, by omega, by go_num, hTl, hBl, hred, hone2, hT, hbr, hzs⟩
                    case measure => simp [intOf]; omega
                · obtain rfl : k = m := by omega
                  have hki : ¬ (k : Int) < (k : Int) := by omega
                  have hy1' : y = 1 := M.low_one hred.out hy (by rw [hTl.out]; exact hap.out)
                  have hone2 : Hid (∀ (u y : Nat), u < i + 1 → B[u]? = some y → y = 1) := fun u y' hu hy' => by
                    rcases Nat.lt_or_ge u i with h1 | h1
                    · exact hone.out u y' h1 hy'
                    · obtain rfl : u = i := by omega
                      rw [hy] at hy'; injection hy' with e; omega
                  clear hone hap hy hy1'
                  go_wp2
                  go_roundw
                  case rel => exact ⟨i + 1, T, B, by omega, by go_num, hTl, hBl, hred, hone2, hT, hbr, hzs⟩
                  case measure => simp [intOf]; omega
            · obtain rfl : i = m := by omega
              have hge : ¬ (i : Int) < (i : Int) := by omega
              have hend := Lib.hid (M.red_end hred2.out (fun u y hy => hone.out u y (by have := (List.getElem?_eq_some_iff.1 hy).1; have := hBl2.out; omega) hy))
              have hpos := Lib.hid (fun u y (hy : T[u]? = some y) => M.red_pos hred2.out hy)
              have hst : Hid (M.prodL (T.take 0) = 1) := rfl
              clear hone hred2
              go_wp2
              go_loopw [15, 16] (fun qo qk ws => ∃ (k p : Nat), k ≤ i ∧ qk = .int .i64 (k : Int) ∧ qo = .int .i64 (p : Int) ∧ Hid (M.prodL (T.take k) = p) ∧ ws = wr) (fun _ qk _ => i - (intOf qk).toNat)
              case atStart => exact ⟨0, 1, Nat.zero_le _, rfl, rfl, hst, rfl⟩
              case round =>
                obtain ⟨k, p, hk, rfl, rfl, hp, rfl⟩ := hrel
                clear hst
                by_cases hki : k < i
                · have hkii : (k : Int) < (i : Int) := by omega
                  obtain ⟨g1, rfl⟩ := two_head hT.out (by omega)
                  obtain ⟨x, hx⟩ : ∃ x, T[k]? = some x := ⟨_, List.getElem?_eq_getElem (by rw [hTl2.out]; exact hki)⟩
                  obtain ⟨p1, p2, p3, p4⟩ := own64_cell hT.out.1 ((M.ints_len T).trans hTl2.out) (M.ints_at hx)
                  obtain ⟨r, hr⟩ : ∃ r, Hid (p * x = r) := ⟨_, rfl⟩
                  have hs : Hid (M.prodL (T.take (k + 1)) = r) := by show _ = _; rw [M.prodL_take_succ hx, hp.out, hr.out]
                  have hrF : r ≤ F := by
                    rw [← hs.out]
                    exact Nat.le_trans (M.prodL_take_le hpos.out (k + 1)) hend.out.2
                  have hmul : (p : Int) * (x : Int) = (r : Int) := by rw [← hr.out, Int.natCast_mul]
                  clear hx hp hr hend
                  go_wp2
                  go_roundw
                  case rel => exact ⟨k + 1, r, by omega, by go_num, rfl, hs, trivial⟩
                  case measure => simp [intOf]; omega
                · obtain rfl : k = i := by omega
                  have hkii : ¬ (k : Int) < (k : Int) := by omega
                  have hfin : Hid (Q9 = p) := by
                    show _ = _
                    rw [← hQ9.out, ← hend.out.1, ← hp.out, List.take_of_length_le (by rw [hTl2.out]; exact Nat.le_refl _)]
                  clear hend hp
                  go_wp2
                  go_ret
                  exact ⟨by rw [hfin.out]; rfl, hbr.out⟩
end Go.Proofs.Ytbdmmeoelagdcaa
