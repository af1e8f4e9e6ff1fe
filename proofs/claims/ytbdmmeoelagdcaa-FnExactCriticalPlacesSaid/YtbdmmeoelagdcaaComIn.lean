/- commonText: the common pattern of two patterns. -/
import Derived.Test.YtbdmmeoelagdcaaMt
import Derived.Test.YtbdmmeoelagdcaaCom
namespace Go.Proofs.Ytbdmmeoelagdcaa
open Go.RowKit

/-- both texts from where they are read on, and what they will have in common behind C -/
def Ahead (Rt : Option (List UInt8)) (P Q C : List UInt8) : Prop :=
  (M.piece P = some [] ∧ M.piece Q = some [] ∧ (M.com1 P Q).map (fun x => C ++ x.1) = Rt) ∨ (∃ o, M.close P o = some [] ∧ M.close Q o = some [] ∧ (M.com o P Q).map (fun x => C ++ x.1) = Rt)
theorem ahead_end {Rt : Option (List UInt8)} {Q C : List UInt8} (h : Ahead Rt [] Q C) : Rt = some C := by
  rcases h with ⟨h, _⟩ | ⟨o, h1, h2, h3⟩
  · cases h
  · cases o with
    | zero => rw [← h3, M.com_zero]; simp
    | succ o => rw [M.close_nil] at h1; cases h1
theorem ahead_both {Rt : Option (List UInt8)} {c : UInt8} {P Q C : List UInt8} (h : Ahead Rt (c :: P) Q C) : ∃ d Q', Q = d :: Q' := by
  cases Q with
  | cons d Q' => exact ⟨d, Q', rfl⟩
  | nil =>
    rcases h with ⟨_, h, _⟩ | ⟨o, h1, h2, h3⟩
    · cases h
    · cases o with
      | zero => rw [M.close_zero] at h1; injection h1 with h1; cases h1
      | succ o => rw [M.close_nil] at h2; cases h2
theorem map_map_app (R : Option (List UInt8 × List UInt8 × List UInt8)) (C t : List UInt8) : (R.map fun x => (t ++ x.1, x.2)).map (fun x => C ++ x.1) = R.map (fun x => (C ++ t) ++ x.1) := by cases R <;> simp
theorem ahead_let {Rt : Option (List UInt8)} {c d : UInt8} {P Q C : List UInt8} (h : Ahead Rt (c :: P) (d :: Q) C) (hc : M.isL c = true) :
    (M.piece (d :: Q) = none ∧ Rt = none) ∨ (∃ r, M.piece (d :: Q) = some r ∧ Ahead Rt P r (C ++ (d :: Q).take ((d :: Q).length - r.length))) := by
  rcases h with ⟨h1, h2, h3⟩ | ⟨o, h1, h2, h3⟩
  · rw [M.piece_let hc] at h1
    injection h1 with h1
    subst h1
    refine .inr ⟨[], h2, .inr ⟨0, M.close_zero _, M.close_zero _, ?_⟩⟩
    rw [← h3, M.com1, if_pos hc, h2, M.com_zero]
    simp
  · cases o with
    | zero => rw [M.close_zero] at h1; injection h1 with h1; cases h1
    | succ o =>
      rw [M.close_let hc] at h1
      by_cases hd : d = 41
      · subst hd
        exact .inl ⟨M.piece_shut Q, by rw [← h3, M.com_half o P Q (.inr rfl) (M.ne_shut hc)]; rfl⟩
      · rw [M.close_piece hd] at h2
        cases hp : M.piece (d :: Q) with
        | none => rw [hp] at h2; cases h2
        | some r =>
          rw [hp] at h2
          exact .inr ⟨r, rfl, .inr ⟨o + 1, h1, h2, by rw [← h3, M.com_let o P Q hc hd hp, map_map_app]⟩⟩
theorem ahead_let2 {Rt : Option (List UInt8)} {c d : UInt8} {P Q C : List UInt8} (h : Ahead Rt (c :: P) (d :: Q) C) (hc : M.isL c = false) (hd : M.isL d = true) :
    (M.piece (c :: P) = none ∧ Rt = none) ∨ (∃ r, M.piece (c :: P) = some r ∧ Ahead Rt r Q (C ++ (c :: P).take ((c :: P).length - r.length))) := by
  rcases h with ⟨h1, h2, h3⟩ | ⟨o, h1, h2, h3⟩
  · rw [M.piece_let hd] at h2
    injection h2 with h2
    subst h2
    refine .inr ⟨[], h1, .inr ⟨0, M.close_zero _, M.close_zero _, ?_⟩⟩
    rw [← h3, M.com1, if_neg (by simp [hc]), if_pos hd, h1, M.com_zero]
    simp
  · cases o with
    | zero => rw [M.close_zero] at h1; injection h1 with h1; cases h1
    | succ o =>
      rw [M.close_let hd] at h2
      by_cases hc4 : c = 41
      · subst hc4
        exact .inl ⟨M.piece_shut P, by rw [← h3, M.com_half o P Q (.inl rfl) (Ne.symm (M.ne_shut hd))]; rfl⟩
      · rw [M.close_piece hc4] at h1
        cases hp : M.piece (c :: P) with
        | none => rw [hp] at h1; cases h1
        | some r =>
          rw [hp] at h1
          exact .inr ⟨r, rfl, .inr ⟨o + 1, h1, h2, by rw [← h3, M.com_let2 o P Q hc hc4 hd hp, map_map_app]⟩⟩
theorem ahead_same {Rt : Option (List UInt8)} {c d : UInt8} {P Q C : List UInt8} (h : Ahead Rt (c :: P) (d :: Q) C) (hc : M.isL c = false) (hd : M.isL d = false) :
    (c = d ∧ Ahead Rt P Q (C ++ [c])) ∨ (c ≠ d ∧ Rt = none) := by
  have hx : ∀ (t : List UInt8), (fun x : List UInt8 × List UInt8 × List UInt8 => (40 :: x.1, x.2)) = fun x => ([40] ++ x.1, x.2) := fun t => rfl
  rcases h with ⟨h1, h2, h3⟩ | ⟨o, h1, h2, h3⟩
  · by_cases hc0 : c = 40
    · by_cases hd0 : d = 40
      · subst hc0; subst hd0
        rw [M.piece_open] at h1 h2
        refine .inl ⟨rfl, .inr ⟨1, h1, h2, ?_⟩⟩
        rw [← h3, M.com1, if_neg (by decide), if_neg (by decide), if_pos ⟨rfl, rfl⟩, hx [], map_map_app]
      · rw [M.piece_bad hd hd0] at h2; cases h2
    · rw [M.piece_bad hc hc0] at h1; cases h1
  · cases o with
    | zero => rw [M.close_zero] at h1; injection h1 with h1; cases h1
    | succ o =>
      have hk : ∀ {b : UInt8} {L : List UInt8}, M.isL b = false → M.close (b :: L) (o + 1) = some [] → b = 40 ∨ b = 41 := fun {b L} hb h => by
        by_cases h0 : b = 40
        · exact .inl h0
        · by_cases h4 : b = 41
          · exact .inr h4
          · rw [M.close_bad hb h0 h4] at h; cases h
      rcases hk hc h1 with rfl | rfl
      · rcases hk hd h2 with rfl | rfl
        · rw [M.close_open] at h1 h2
          exact .inl ⟨rfl, .inr ⟨o + 2, h1, h2, by rw [← h3, M.com_same, hx [], map_map_app]⟩⟩
        · exact .inr ⟨by decide, by rw [← h3, M.com_half o P Q (.inr rfl) (by decide)]; rfl⟩
      · rcases hk hd h2 with rfl | rfl
        · exact .inr ⟨by decide, by rw [← h3, M.com_half o P Q (.inl rfl) (by decide)]; rfl⟩
        · rw [M.close_shut] at h1 h2
          exact .inl ⟨rfl, .inr ⟨o, h1, h2, by rw [← h3, M.com_shut, show (fun x : List UInt8 × List UInt8 × List UInt8 => (41 :: x.1, x.2)) = fun x => ([41] ++ x.1, x.2) from rfl, map_map_app]⟩⟩
end Go.Proofs.Ytbdmmeoelagdcaa
