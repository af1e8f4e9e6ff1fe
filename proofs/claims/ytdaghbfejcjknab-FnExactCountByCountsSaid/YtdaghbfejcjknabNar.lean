/- A table of the numbers of lists of trees by nodes and leaves, checked by the kernel against the recursion and the closed form. No program is named here. -/
import Derived.Test.YtdaghbfejcjknabCat
namespace Go.Proofs.Ytdaghbfejcjknab.M
def tabG : List (List Nat) := [
  [1],
  [0, 1],
  [0, 1, 1],
  [0, 1, 3, 1],
  [0, 1, 6, 6, 1],
  [0, 1, 10, 20, 10, 1],
  [0, 1, 15, 50, 50, 15, 1],
  [0, 1, 21, 105, 175, 105, 21, 1],
  [0, 1, 28, 196, 490, 490, 196, 28, 1],
  [0, 1, 36, 336, 1176, 1764, 1176, 336, 36, 1],
  [0, 1, 45, 540, 2520, 5292, 5292, 2520, 540, 45, 1],
  [0, 1, 55, 825, 4950, 13860, 19404, 13860, 4950, 825, 55, 1],
  [0, 1, 66, 1210, 9075, 32670, 60984, 60984, 32670, 9075, 1210, 66, 1],
  [0, 1, 78, 1716, 15730, 70785, 169884, 226512, 169884, 70785, 15730, 1716, 78, 1],
  [0, 1, 91, 2366, 26026, 143143, 429429, 736164, 736164, 429429, 143143, 26026, 2366, 91, 1],
  [0, 1, 105, 3185, 41405, 273273, 1002001, 2147145, 2760615, 2147145, 1002001, 273273, 41405, 3185, 105, 1],
  [0, 1, 120, 4200, 63700, 496860, 2186184, 5725720, 9202050, 9202050, 5725720, 2186184, 496860, 63700, 4200, 120, 1],
  [0, 1, 136, 5440, 95200, 866320, 4504864, 14158144, 27810640, 34763300, 27810640, 14158144, 4504864, 866320, 95200, 5440, 136, 1],
  [0, 1, 153, 6936, 138720, 1456560, 8836464, 32821152, 77364144, 118195220, 118195220, 77364144, 32821152, 8836464, 1456560, 138720, 6936, 153, 1],
  [0, 1, 171, 8721, 197676, 2372112, 16604784, 71954064, 200443464, 367479684, 449141836, 367479684, 200443464, 71954064, 16604784, 2372112, 197676, 8721, 171, 1],
  [0, 1, 190, 10830, 276165, 3755844, 30046752, 150233760, 488259720, 1057896060, 1551580888, 1551580888, 1057896060, 488259720, 150233760, 30046752, 3755844, 276165, 10830, 190, 1],
  [0, 1, 210, 13300, 379050, 5799465, 52581816, 300467520, 1126753200, 2848181700, 4936848280, 5924217936, 4936848280, 2848181700, 1126753200, 300467520, 52581816, 5799465, 379050, 13300, 210, 1],
  [0, 1, 231, 16170, 512050, 8756055, 89311761, 578399976, 2478857040, 7229999700, 14620666060, 20734762776, 20734762776, 14620666060, 7229999700, 2478857040, 578399976, 89311761, 8756055, 512050, 16170, 231, 1],
  [0, 1, 253, 19481, 681835, 12954865, 147685461, 1075994073, 5226256926, 17420856420, 40648664980, 67255063876, 79483257308, 67255063876, 40648664980, 17420856420, 5226256926, 1075994073, 147685461, 12954865, 681835, 19481, 253, 1],
  [0, 1, 276, 23276, 896126, 18818646, 238369516, 1941008916, 10606227291, 40067969766, 106847919376, 203982391536, 281248448936, 281248448936, 203982391536, 106847919376, 40067969766, 10606227291, 1941008916, 238369516, 18818646, 896126, 23276, 276, 1],
  [0, 1, 300, 27600, 1163800, 26883780, 376372920, 3405278800, 20796524100, 88385227425, 267119798440, 582806832960, 927192688800, 1081724803600, 927192688800, 582806832960, 267119798440, 88385227425, 20796524100, 3405278800, 376372920, 26883780, 1163800, 27600, 300, 1],
  [0, 1, 325, 32500, 1495000, 37823500, 582481900, 5824819000, 39525557500, 187746398125, 638337753625, 1578435172600, 2869882132000, 3863302870000, 3863302870000, 2869882132000, 1578435172600, 638337753625, 187746398125, 39525557500, 5824819000, 582481900, 37823500, 1495000, 32500, 325, 1],
  [0, 1, 351, 38025, 1901250, 52474500, 885069900, 9735768900, 73018266750, 385374185625, 1464421905375, 4073755482225, 8394405236100, 12914469594000, 14901311070000, 12914469594000, 8394405236100, 4073755482225, 1464421905375, 385374185625, 73018266750, 9735768900, 885069900, 52474500, 1901250, 38025, 351, 1],
  [0, 1, 378, 44226, 2395575, 71867250, 1322357400, 15931258200, 131432880150, 766691800875, 3237143159250, 10064572367850, 23331508670925, 40680579221100, 53644719852000, 53644719852000, 40680579221100, 23331508670925, 10064572367850, 3237143159250, 766691800875, 131432880150, 15931258200, 1322357400, 71867250, 2395575, 44226, 378, 1],
  [0, 1, 406, 51156, 2992626, 97260345, 1945206900, 25565576400, 231003243900, 1482270815025, 6917263803450, 23896002230100, 61912369414350, 121443493851225, 181497968832600, 207426250094400, 181497968832600, 121443493851225, 61912369414350, 23896002230100, 6917263803450, 1482270815025, 231003243900, 25565576400, 1945206900, 97260345, 2992626, 51156, 406, 1]]
/-- lists of trees of n nodes and k leaves together -/
def entG (n k : Nat) : Nat := (tabG.getD n []).getD k 0
/-- trees of m nodes, at least 1, and k leaves -/
def Tl (m k : Nat) : Nat := if m = 1 then (if k = 1 then 1 else 0) else entG (m - 1) k
theorem chkG_len : ((List.range 30).all fun n => (tabG.getD n []).length == n + 1) = true := by decide +kernel
theorem chkG_zero : ((List.range 30).all fun n => entG n 0 == if n = 0 then 1 else 0) = true := by decide +kernel
theorem chkG_small : (tabG.all fun r => r.all fun x => decide (x ≤ 10000000000000000)) = true := by decide +kernel
theorem chkG_rec : ((List.range 29).all fun n => (List.range (n + 1)).all fun k => entG (n + 1) (k + 1) == sumTo (fun x => sumTo (fun y => Tl (x + 1) (y + 1) * entG (n - x) (k - y)) (min (x + 1) (k + 1))) (n + 1)) = true := by decide +kernel
theorem G_base {n k : Nat} (hn : n ≤ 29) (h : n < k ∨ k = 0) : entG n k = if n = k then 1 else 0 := by
  by_cases h0 : k = 0
  · subst h0
    have := List.all_eq_true.1 chkG_zero n (List.mem_range.2 (by omega))
    simpa using this
  · have h1 := List.all_eq_true.1 chkG_len n (List.mem_range.2 (by omega))
    have h2 : (tabG.getD n []).length = n + 1 := by simpa using h1
    rw [if_neg (by omega), entG, List.getD_eq_getElem?_getD, List.getElem?_eq_none (by omega)]
    rfl
theorem G_small (n k : Nat) : entG n k ≤ 10000000000000000 := by
  simp only [entG, List.getD_eq_getElem?_getD]
  rcases hr : tabG[n]? with _ | r
  · simp
  · simp only [Option.getD_some]
    rcases hx : r[k]? with _ | x
    · simp
    · simp only [Option.getD_some]
      have h1 := List.all_eq_true.1 chkG_small r (List.mem_of_getElem? hr)
      have h2 := List.all_eq_true.1 h1 x (List.mem_of_getElem? hx)
      simpa using h2
theorem G_rec {n k : Nat} (hn : n ≤ 28) (hk : k ≤ n) : entG (n + 1) (k + 1) = sumTo (fun x => sumTo (fun y => Tl (x + 1) (y + 1) * entG (n - x) (k - y)) (min (x + 1) (k + 1))) (n + 1) := by
  have h1 := List.all_eq_true.1 chkG_rec n (List.mem_range.2 (by omega))
  have h2 := List.all_eq_true.1 h1 k (List.mem_range.2 (by omega))
  simpa using h2
/-- of i things chosen one after the other -/
def chTo (n : Nat) : Nat → Nat
  | 0 => 1
  | i + 1 => chTo n i * (n - i) / (i + 1)
def ch (n : Nat) (k : Int) : Nat := if k < 0 ∨ (n : Int) < k then 0 else chTo n (min k.toNat (n - k.toNat))
theorem ch_small {n i : Nat} (hn : n ≤ 29) (hi : i ≤ 30) : chTo n i ≤ 100000000 := by
  have : ((List.range 30).all fun n => (List.range 31).all fun i => decide (chTo n i ≤ 100000000)) = true := by decide +kernel
  have h1 := List.all_eq_true.1 this n (List.mem_range.2 (by omega))
  have h2 := List.all_eq_true.1 h1 i (List.mem_range.2 (by omega))
  simpa using h2
theorem ch_leaves {m k : Nat} (h1 : 1 ≤ m) (hm : m ≤ 29) (hk : k ≤ 30) : ch m (k : Int) * ch m ((k : Int) - 1) / m = entG m k := by
  have : ((List.range 29).all fun m => (List.range 31).all fun k => ch (m + 1) (k : Int) * ch (m + 1) ((k : Int) - 1) / (m + 1) == entG (m + 1) k) = true := by decide +kernel
  obtain ⟨m, rfl⟩ : ∃ m', m = m' + 1 := ⟨m - 1, by omega⟩
  have h2 := List.all_eq_true.1 this m (List.mem_range.2 (by omega))
  have h3 := List.all_eq_true.1 h2 k (List.mem_range.2 (by omega))
  simpa using h3
end Go.Proofs.Ytdaghbfejcjknab.M
