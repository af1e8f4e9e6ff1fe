/- Trees come back from their texts: the mathematics. No program is named here. -/
import Derived.Test.YtgojmhcddcenaaaText
namespace Go.Proofs.Ytgojmhcddcenaaa.M
def bytes (s : ByteArray) : List Int := s.data.toList.map fun b => (b.toNat : Int)
theorem bytes_append (a b : ByteArray) : bytes (a ++ b) = bytes a ++ bytes b := by simp [bytes]
theorem bytes_open : bytes (ByteArray.mk #[40]) = [40] := by decide
theorem bytes_close : bytes (ByteArray.mk #[41]) = [41] := by decide
theorem bytes_length (s : ByteArray) : (bytes s).length = s.size := by simp [bytes]
theorem prun_cons {ds st ds' st' r : List Int} {c : Int} (hs : pstep ds st c = some (ds', st')) : prun ds st (c :: r) = prun ds' st' r := by rw [prun, hs]
/-- what the text of a tree does to a state with an open node p, and to the beginning -/
def ReadAt (T : ByteArray) (xs : List Int) : Prop :=
  ∀ (rest : List Int), (∀ (ds st : List Int) (p : Nat) (x : Int), ds[p]? = some x → prun ds (st ++ [(p : Int)]) (bytes T ++ rest) = prun (ds.set p (x + 1) ++ xs) (st ++ [(p : Int)]) rest) ∧ prun [] [] (bytes T ++ rest) = prun xs [] rest
theorem read_inner {f : Nat} {xs : List Int} {d : Nat} (ht : isTree xs = true) (hd : xs[0]? = some (d : Int)) (ih : ∀ k, k < d → ReadAt (textL f (sub xs (kidAt xs 0 k))) (sub xs (kidAt xs 0 k))) (dn st : List Int) :
    ∀ k, k ≤ d → ∃ B, bytes (textK f xs k) = 40 :: B ∧ ∀ rest, prun (dn ++ [0]) (st ++ [(dn.length : Int)]) (B ++ rest) = prun (dn ++ ((k : Int) :: (xs.drop 1).take (kidAt xs 0 k - 1))) (st ++ [(dn.length : Int)]) rest := by
  intro k
  induction k with
  | zero =>
    intro _
    exact ⟨[], by rw [textK_zero, bytes_open], fun rest => by simp [kidAt]⟩
  | succ k ihk =>
    intro hk
    obtain ⟨B, h1, h2⟩ := ihk (by omega)
    refine ⟨B ++ bytes (textL f (sub xs (kidAt xs 0 k))), by rw [textK_succ, bytes_append, h1]; rfl, fun rest => ?_⟩
    rw [List.append_assoc, h2]
    have h3 := (kid_due ht hd k (by omega)).2.2
    rw [((ih k (by omega)) rest).1 _ st dn.length k (by simp)]
    congr 1
    have e : (xs.drop 1).take (kidAt xs 0 (k + 1) - 1) = (xs.drop 1).take (kidAt xs 0 k - 1) ++ sub xs (kidAt xs 0 k) := by
      rw [kidAt, show kidAt xs 0 k + span 1 (xs.drop (kidAt xs 0 k)) - 1 = (kidAt xs 0 k - 1) + span 1 (xs.drop (kidAt xs 0 k)) by omega, List.take_add, List.drop_drop, show 1 + (kidAt xs 0 k - 1) = kidAt xs 0 k by omega]
      rfl
    rw [e]
    simp
theorem text_read : ∀ (f : Nat) (xs : List Int), isTree xs = true → xs.length ≤ f → ReadAt (textL f xs) xs := by
  intro f
  induction f with
  | zero => intro xs ht h; have := (tree_len ht).1; omega
  | succ f ih =>
    intro xs ht hf rest
    have hl := tree_len ht
    obtain ⟨d, hd, _⟩ := tree_degN ht (v := 0) (by omega)
    have hin := fun dn st => read_inner (f := f) ht hd (fun k hk => ih _ (sub_tree ht (kid_lt ht hd (i := k) (by omega))) (by have := sub_short ht hd hk; omega)) dn st d (Nat.le_refl _)
    have hxs : (d : Int) :: (xs.drop 1).take (kidAt xs 0 d - 1) = xs := by
      rw [kids_all ht hd, List.take_of_length_le (by simp)]
      exact (drop_at hd).symm
    have hb : ∀ B, bytes (textK f xs d) = 40 :: B → bytes (textL (f + 1) xs) ++ rest = 40 :: (B ++ (41 :: rest)) := fun B hB => by
      rw [textL_at hd, bytes_append, hB, bytes_close]; simp
    refine ⟨fun ds st p x hx => ?_, ?_⟩
    · obtain ⟨B, h1, h2⟩ := hin (ds.set p (x + 1)) (st ++ [(p : Int)])
      have hs := pstep_open (ds := ds) (st := st ++ [(p : Int)]) (p := (p : Int)) (d := x) (by simp) (by simpa using hx)
      rw [Int.toNat_natCast] at hs
      rw [hb B h1, prun_cons hs, show (ds.length : Int) = ((ds.set p (x + 1)).length : Int) by simp, h2, hxs, prun_cons (pstep_close (by simp))]
      simp
    · obtain ⟨B, h1, h2⟩ := hin [] []
      have h3 := h2 (41 :: rest)
      simp only [List.nil_append, List.length_nil] at h3
      rw [hb B h1, prun_cons pstep_first]
      rw [show ((0 : Nat) : Int) = 0 from rfl] at h3
      rw [h3, hxs, prun_cons (pstep_close (by simp))]
      rfl
theorem text_back {f : Nat} {xs : List Int} (ht : isTree xs = true) (hf : xs.length ≤ f) : prun [] [] (bytes (textL f xs)) = some (xs, []) := by
  have := (text_read f xs ht hf []).2
  simpa [prun] using this
theorem text_parse {f : Nat} {xs : List Int} (ht : isTree xs = true) (hf : xs.length ≤ f) : parse (bytes (textL f xs)) = (xs, 0) := by
  have h1 := textL_size f xs ht hf
  have h2 := tree_len ht
  refine parse_done (by rw [bytes_length]; omega) (text_back ht hf) (fun e => ?_)
  subst e
  simp at h2
theorem text_inj {f g : Nat} {xs ys : List Int} (ht : isTree xs = true) (hf : xs.length ≤ f) (hu : isTree ys = true) (hg : ys.length ≤ g) (h : textL f xs = textL g ys) : xs = ys := by
  have h1 := text_back ht hf
  rw [h, text_back hu hg] at h1
  injection h1 with h1
  injection h1 with h1
  exact h1.symm
end Go.Proofs.Ytgojmhcddcenaaa.M
