/-
  The program's codes (mathematics): how many there are of each length, where they begin, which symbol stands where.
-/
import Derived.Test.YtnibbopdjeagoaaCdN
namespace Go.Proofs.Ytnibbopdjeagoaa.cd
set_option maxRecDepth 100000
open Go.Proofs.Ytnibbopdjeagoaa.fl

/-- How many codes there are of a length; of the length 0 none. -/
def cn (l : List Int) (n : Nat) : Nat := if n = 0 then 0 else cnt l n
theorem cn_pos (l : List Int) {n : Nat} (h : 1 ≤ n) : cn l n = cnt l n := by
  unfold cn
  rw [if_neg (by omega)]
/-- The first code of a length, and how many are shorter. -/
def fiN (l : List Int) : Nat → Nat
  | 0 => 0
  | n + 1 => 2 * (fiN l n + cn l n)
def shN (l : List Int) : Nat → Nat
  | 0 => 0
  | n + 1 => shN l n + cn l n
theorem fi_lim (l : List Int) : ∀ n, fiN l n + cn l n = lim l n
  | 0 => rfl
  | n + 1 => by rw [fiN, fi_lim l n, lim, cn_pos l (by omega)]
theorem fi_succ (l : List Int) (n : Nat) : fiN l (n + 1) = 2 * lim l n := by rw [fiN, fi_lim]
theorem sh_cons (x : Int) (l : List Int) : ∀ n, shN (x :: l) n = shN l n + if 1 ≤ x ∧ x < n then 1 else 0
  | 0 => by rw [if_neg (by omega)]; rfl
  | n + 1 => by
    rw [shN, sh_cons x l n, shN]
    unfold cn
    by_cases h0 : n = 0
    · subst h0
      simp only [if_pos]
      rw [if_neg (by omega), if_neg (by omega)]
    · rw [if_neg h0, if_neg h0, cnt_cons]
      by_cases h1 : 1 ≤ x ∧ x < n
      · rw [if_pos h1, if_neg (by omega), if_pos (by omega)]
        omega
      · rw [if_neg h1]
        by_cases h2 : x = (n : Int)
        · rw [if_pos h2, if_pos (by omega)]
          omega
        · rw [if_neg h2, if_neg (by omega)]
          omega
theorem sh_nil : ∀ n, shN [] n = 0
  | 0 => rfl
  | n + 1 => by
    rw [shN, sh_nil n]
    unfold cn cnt
    split <;> simp
theorem sh_all : ∀ l : List Int, inB l = true → shN l 16 = codesN l
  | [], _ => by rw [sh_nil]; rfl
  | x :: l, h => by
    have h2 := (inB_iff _).1 h x (by simp)
    have h3 : inB l = true := (inB_iff _).2 fun y hy => (inB_iff _).1 h y (by simp [hy])
    rw [sh_cons, sh_all l h3]
    unfold codesN
    rw [List.countP_cons]
    congr 1
    by_cases hx : 0 < x
    · rw [if_pos (by omega), if_pos (by simpa using hx)]
    · rw [if_neg (by omega), if_neg (by simpa using hx)]
theorem sh_mono (l : List Int) (n : Nat) : ∀ k, shN l n ≤ shN l (n + k)
  | 0 => Nat.le_refl _
  | k + 1 => by
    have := sh_mono l n k
    rw [show n + (k + 1) = (n + k) + 1 by omega, shN]
    omega
/-- Where a symbol stands among those that have a code. -/
def plN (l : List Int) (i : Nat) : Nat := shN l (lenN l i) + cnt (l.take i) (lenN l i)
theorem Has.place {l : List Int} {i n : Nat} (h : Has l i n) : plN l i = shN l n + cnt (l.take i) n := by
  unfold plN
  rw [h.len]
theorem Has.place_lt {l : List Int} {i n : Nat} (h : Has l i n) : plN l i < shN l (n + 1) := by
  rw [h.place, shN, cn_pos l h.2]
  have := cnt_take_lt h.1
  omega
theorem Has.place_all {l : List Int} (hb : inB l = true) {i n : Nat} (h : Has l i n) : plN l i < codesN l := by
  have h1 := h.place_lt
  have h2 := (inB_iff _).1 hb _ (List.mem_of_getElem? h.1)
  have h3 := sh_mono l (n + 1) (15 - n)
  rw [show n + 1 + (15 - n) = 16 by omega, sh_all l hb] at h3
  omega
theorem place_inj {l : List Int} {i j n m : Nat} (hi : Has l i n) (hj : Has l j m) (e : plN l i = plN l j) : i = j := by
  rcases Nat.lt_trichotomy n m with h | h | h
  · have h1 := hi.place_lt
    have h2 := sh_mono l (n + 1) (m - (n + 1))
    rw [show n + 1 + (m - (n + 1)) = m by omega] at h2
    rw [e, hj.place] at h1
    omega
  · subst h
    rw [hi.place, hj.place] at e
    exact rank_inj hi.1 hj.1 (by omega)
  · have h1 := hj.place_lt
    have h2 := sh_mono l (m + 1) (n - (m + 1))
    rw [show m + 1 + (n - (m + 1)) = n by omega] at h2
    rw [← e, hi.place] at h1
    omega
/-- The symbols that have a code stand in their codes' order. -/
def Sorted (l sy : List Int) (k : Nat) : Prop := sy.length = codesN l ∧ ∀ i n, Has l i n → i < k → sy[plN l i]? = some (i : Int)
theorem Sorted.zero {l sy : List Int} (h : sy.length = codesN l) : Sorted l sy 0 := ⟨h, fun _ _ _ h => by omega⟩
theorem Sorted.skip {l sy : List Int} {k : Nat} (h : Sorted l sy k) (hk : lenN l k = 0) : Sorted l sy (k + 1) := ⟨h.1, fun i n hi hk2 => h.2 i n hi (by
  rcases Nat.lt_or_ge i k with h2 | h2
  · exact h2
  · obtain rfl : i = k := by omega
    have := hi.len
    have := hi.2
    omega)⟩
theorem Sorted.next {l sy : List Int} {k n : Nat} (hb : inB l = true) (h : Sorted l sy k) (hk : Has l k n) : Sorted l (sy.set (plN l k) (k : Int)) (k + 1) := ⟨by rw [List.length_set]; exact h.1, fun i m hi hk2 => by
  by_cases e : i = k
  · subst e
    rw [List.getElem?_set_self (by rw [h.1]; exact hk.place_all hb)]
  · rw [List.getElem?_set_ne (fun e2 => e (place_inj hi hk e2.symm))]
    exact h.2 i m hi (by omega)⟩
/-- A symbol's word, as it is kept. -/
def wdI (l : List Int) (i : Nat) : Int × Int := if 0 < lenN l i then ((wordN l i : Nat), (lenN l i : Nat)) else (0, 0)
/-- The words of the first k symbols. -/
def wdL (l : List Int) (k : Nat) : List (Int × Int) := (List.range l.length).map fun i => if i < k then wdI l i else (0, 0)
theorem wdL_length (l : List Int) (k : Nat) : (wdL l k).length = l.length := by unfold wdL; simp
theorem wdL_get {l : List Int} {k i : Nat} (h : i < l.length) : (wdL l k)[i]? = some (if i < k then wdI l i else (0, 0)) := by
  unfold wdL
  rw [List.getElem?_map, List.getElem?_range h]
  rfl
theorem wdL_zero (l : List Int) : wdL l 0 = List.replicate l.length (0, 0) := by
  apply List.ext_getElem?
  intro i
  by_cases h : i < l.length
  · rw [wdL_get h, if_neg (by omega), List.getElem?_replicate, if_pos h]
  · rw [List.getElem?_eq_none (by rw [wdL_length]; omega), List.getElem?_eq_none (by simp; omega)]
theorem wdL_next {l : List Int} {k : Nat} (h : k < l.length) : wdL l (k + 1) = (wdL l k).set k (wdI l k) := by
  apply List.ext_getElem?
  intro i
  by_cases hi : i < l.length
  · rw [wdL_get hi]
    by_cases e : i = k
    · subst e
      rw [if_pos (by omega), List.getElem?_set_self (by rw [wdL_length]; exact h)]
    · rw [List.getElem?_set_ne (fun e2 => e e2.symm), wdL_get hi]
      congr 1
      by_cases h2 : i < k
      · rw [if_pos h2, if_pos (by omega)]
      · rw [if_neg h2, if_neg (by omega)]
  · rw [List.getElem?_eq_none (by rw [wdL_length]; omega), List.getElem?_eq_none (by rw [List.length_set, wdL_length]; omega)]
theorem wdL_skip {l : List Int} {k : Nat} (h : k < l.length) (hz : lenN l k = 0) : wdL l (k + 1) = wdL l k := by
  rw [wdL_next h]
  apply List.ext_getElem?
  intro i
  by_cases e : i = k
  · subst e
    rw [List.getElem?_set_self (by rw [wdL_length]; exact h), wdL_get h, if_neg (by omega)]
    unfold wdI
    rw [if_neg (by omega)]
  · rw [List.getElem?_set_ne (fun e2 => e e2.symm)]

/-- What stands in the array of counts. -/
def cntL (l : List Int) : List Int := (List.range 16).map fun n => (cn l n : Int)
theorem cntL_length (l : List Int) : (cntL l).length = 16 := by unfold cntL; simp
theorem cntL_get (l : List Int) {n : Nat} (h : n < 16) : (cntL l)[n]? = some (cn l n : Int) := by
  unfold cntL
  rw [List.getElem?_map, List.getElem?_range h]
  rfl
theorem cn_snoc (l : List Int) (x : Int) (n : Nat) : cn (l ++ [x]) n = cn l n + if n ≠ 0 ∧ x = n then 1 else 0 := by
  unfold cn
  by_cases h : n = 0
  · rw [if_pos h, if_pos h, if_neg (by omega)]
  · rw [if_neg h, if_neg h, cnt_append, cnt_cons]
    unfold cnt
    by_cases h2 : x = (n : Int)
    · rw [if_pos h2, if_pos ⟨h, h2⟩]; simp
    · rw [if_neg h2, if_neg (fun e => h2 e.2)]; simp
theorem cntL_snoc {l : List Int} {n : Nat} (h1 : 1 ≤ n) (h2 : n ≤ 15) : cntL (l ++ [(n : Int)]) = (cntL l).set n ((cn l n : Int) + 1) := by
  apply List.ext_getElem?
  intro i
  by_cases hi : i < 16
  · rw [cntL_get _ hi, cn_snoc]
    by_cases e : n = i
    · subst e
      rw [List.getElem?_set_self (by rw [cntL_length]; omega), if_pos ⟨by omega, rfl⟩]
      rfl
    · rw [List.getElem?_set_ne e, cntL_get _ hi, if_neg (fun e2 => e (by omega)), Nat.add_zero]
  · rw [List.getElem?_eq_none (by rw [cntL_length]; omega), List.getElem?_eq_none (by rw [List.length_set, cntL_length]; omega)]
theorem cntL_same {l : List Int} {x : Int} (h : ¬ (1 ≤ x ∧ x ≤ 15)) : cntL (l ++ [x]) = cntL l := by
  apply List.ext_getElem?
  intro i
  by_cases hi : i < 16
  · rw [cntL_get _ hi, cntL_get _ hi, cn_snoc, if_neg (fun e => h (by omega)), Nat.add_zero]
  · rw [List.getElem?_eq_none (by rw [cntL_length]; omega), List.getElem?_eq_none (by rw [cntL_length]; omega)]
theorem cntL_nil : cntL [] = List.replicate 16 0 := by decide
theorem cn_le (l : List Int) (n : Nat) : cn l n ≤ l.length := by
  unfold cn
  split
  · omega
  · exact List.count_le_length
/-- What is left of the room behind n lengths. -/
def leftI (l : List Int) : Nat → Int
  | 0 => 32768
  | n + 1 => leftI l n - (cn l n : Int) * 2 ^ (15 - n)
theorem cn_cons (x : Int) (l : List Int) (n : Nat) : cn (x :: l) n = cn l n + if n ≠ 0 ∧ x = n then 1 else 0 := by
  unfold cn
  by_cases h : n = 0
  · rw [if_pos h, if_pos h, if_neg (by omega)]
  · rw [if_neg h, if_neg h, cnt_cons]
    by_cases h2 : x = (n : Int)
    · rw [if_pos h2, if_pos ⟨h, h2⟩]
    · rw [if_neg h2, if_neg (fun e => h2 e.2)]
theorem left_cons (x : Int) (l : List Int) : ∀ n, leftI (x :: l) n = leftI l n - if 1 ≤ x ∧ x < n then 2 ^ (15 - x.toNat) else 0
  | 0 => by rw [if_neg (by omega)]; simp [leftI]
  | n + 1 => by
    rw [leftI, left_cons x l n, leftI, cn_cons]
    by_cases h1 : 1 ≤ x ∧ x < n
    · rw [if_pos h1, if_neg (by omega), if_pos (by omega)]
      simp only [Nat.add_zero]
      omega
    · rw [if_neg h1]
      by_cases h2 : n ≠ 0 ∧ x = (n : Int)
      · rw [if_pos h2, if_pos (by omega), h2.2, Int.toNat_natCast, Int.natCast_add, Int.add_mul]
        omega
      · rw [if_neg h2, if_neg (by omega)]
        simp
theorem left_nil : ∀ n, leftI [] n = 32768
  | 0 => rfl
  | n + 1 => by
    rw [leftI, left_nil n]
    unfold cn cnt
    split <;> simp
theorem left_all : ∀ l : List Int, leftI l 16 = roomI l
  | [] => by rw [left_nil]; rfl
  | x :: l => by
    rw [left_cons, left_all l]
    unfold roomI
    rw [usedS, usedI]
    by_cases h : 1 ≤ x ∧ x ≤ 15
    · rw [if_pos h, if_pos (by omega)]
      omega
    · rw [if_neg h, if_neg (by omega)]
      omega
theorem left_in (n : Nat) : ∀ l : List Int, 32768 - 16384 * (l.length : Int) ≤ leftI l n ∧ leftI l n ≤ 32768
  | [] => by rw [left_nil]; simp
  | x :: l => by
    have ih := left_in n l
    rw [left_cons, List.length_cons]
    by_cases h : 1 ≤ x ∧ x < n
    · rw [if_pos h]
      have h1 : (2 : Int) ^ (15 - x.toNat) ≤ 2 ^ 14 := by exact_mod_cast Nat.pow_le_pow_right (n := 2) (by omega) (by omega : 15 - x.toNat ≤ 14)
      have h2 : (0 : Int) < 2 ^ (15 - x.toNat) := Int.pow_pos (by omega)
      omega
    · rw [if_neg h]
      omega
/-- How many codes there are, whatever lengths: those from 1 to 15. -/
theorem all_sum (l : List Int) : (cntL l).foldl (· + ·) 0 = (shN l 16 : Int) := by
  unfold cntL
  simp [List.range, List.range.loop, shN, cn]
/-- The longest code's bits. -/
theorem lenN_le15 {l : List Int} (hb : inB l = true) (i : Nat) : lenN l i ≤ 15 := by
  unfold lenN
  cases h : l[i]? with
  | none => simp
  | some x =>
    have := (inB_iff _).1 hb x (List.mem_of_getElem? h)
    simp
    omega
theorem reach_most {l : List Int} (hb : inB l = true) {n : Nat} (h1 : 1 ≤ n) (h2 : n ≤ 15) (h3 : ∀ m, n < m → m ≤ 15 → cn l m = 0) (h4 : n = 1 ∨ cn l n ≠ 0) : mostW (wordsL l) = n := by
  have hle : longW (wordsL l) ≤ n := long_le fun w hw => by
    unfold wordsL at hw
    obtain ⟨i, hi, rfl⟩ := List.mem_map.1 hw
    have hi2 := List.mem_range.1 hi
    rw [wordB_length]
    apply Decidable.byContradiction
    intro hn
    have h5 := h3 (lenN l i) (by omega) (lenN_le15 hb i)
    rw [cn_pos l (by omega)] at h5
    have H : Has l i (lenN l i) := by
      refine ⟨?_, by omega⟩
      have h6 := List.getElem?_eq_getElem hi2
      have h7 := (inB_iff _).1 hb _ (List.getElem_mem hi2)
      unfold lenN
      rw [h6]
      simp
      omega
    have := cnt_take_lt H.1
    omega
  unfold mostW
  rcases h4 with rfl | h4
  · omega
  · rw [cn_pos l h1] at h4
    obtain ⟨i, h5, _⟩ := rank_find' l n 0 (by omega)
    have h6 : Has l i n := ⟨h5, h1⟩
    have h7 := long_ge (List.mem_of_getElem? (wordsL_get h6.at_))
    rw [wordB_length, h6.len] at h7
    omega
/-- A word that was begun by none is found, or is no word. -/
theorem step_hit {l got : List Int} (h : okB l = true) (hb : AllBit got) {k : Nat} {d : Int} (hk : got.length = k + 1) (hd : valH got = 2 * (lim l k : Int) + d) (h0 : 0 ≤ d) (h1 : d < cnt l (k + 1)) : ∃ i, findW (wordsL l) got = some i ∧ Has l i (k + 1) ∧ plN l i = shN l (k + 1) + d.toNat := by
  obtain ⟨i, h3, h4⟩ := rank_find' l (k + 1) d.toNat (by omega)
  have H : Has l i (k + 1) := ⟨h3, by omega⟩
  have hw : (wordN l i : Int) = valH got := by
    rw [H.word, h4, Nat.add_sub_cancel, hd]
    omega
  have e : wordB l i = got := by
    unfold wordB
    rw [H.len, hw, ← hk]
    exact (val_bits hb).symm
  refine ⟨i, ?_, H, ?_⟩
  · rw [← e]
    exact find_word h H
  · rw [H.place, h4]
theorem step_miss {l got : List Int} (h : okB l = true) {k : Nat} {d : Int} (hk : got.length = k + 1) (hd : valH got = 2 * (lim l k : Int) + d) (h1 : ¬ d < cnt l (k + 1)) : findW (wordsL l) got = none ∧ (lim l (k + 1) : Int) ≤ valH got := by
  refine ⟨?_, by rw [lim, hd]; omega⟩
  cases hf : findW (wordsL l) got with
  | none => rfl
  | some i =>
    exfalso
    obtain ⟨h2, h3, h4⟩ := find_some hf
    obtain ⟨_, hb, hr⟩ := (okB_iff l).1 h
    have hlen := congrArg List.length h3
    rw [wordB_length, hk] at hlen
    have H := word_has (fun x hx => (hb x hx).1) h2 (by rw [h3]; exact h4)
    have hn := (hb _ (List.mem_of_getElem? H.1)).2
    have h5 := valH_word (by omega) (by omega) H
    have h6 := H.lt
    rw [h3, hd] at h5
    rw [hlen, lim] at h6
    omega
end Go.Proofs.Ytnibbopdjeagoaa.cd
