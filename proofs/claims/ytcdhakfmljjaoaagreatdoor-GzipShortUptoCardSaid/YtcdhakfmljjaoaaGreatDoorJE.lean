/-
  Texts that belong together, joined: CpM CpA CpB CpC.
-/
import Derived.Test.YtcdhakfmljjaoaaGreatDoorJD
import Derived.Laws.Rows
import Derived.Laws.Tables
import Derived.KernelRfl
import Derived.BigRegion
import Derived.Deep.RegionHeld3

/-
  The program's codes (mathematics): how many there are of each length, where they begin, which symbol stands where.
-/

namespace Go.Proofs.YtcdhakfmljjaoaaGreatDoor.cd
set_option maxRecDepth 100000
open Go.Proofs.YtcdhakfmljjaoaaGreatDoor.fl

/-- How many codes there are of a length; of the length 0 none. -/
def cn (l : List Int) (n : Nat) : Nat := if n = 0 then 0 else cnt l n
theorem cn_pos (l : List Int) {n : Nat} (h : 1 ≤ n) : cn l n = cnt l n := by
  unfold cn
  rw [if_neg (by omega)]
/-- The first code of a length, and how many are shorter. -/
def fiN (l : List Int) : Nat → Nat
  | 0 => 0
  | n + 1 => 2 * (fiN l n + cn l n)
def shN (l : List Int) : Nat → Nat
  | 0 => 0
  | n + 1 => shN l n + cn l n
theorem fi_lim (l : List Int) : ∀ n, fiN l n + cn l n = lim l n
  | 0 => rfl
  | n + 1 => by rw [fiN, fi_lim l n, lim, cn_pos l (by omega)]
theorem fi_succ (l : List Int) (n : Nat) : fiN l (n + 1) = 2 * lim l n := by rw [fiN, fi_lim]
theorem sh_cons (x : Int) (l : List Int) : ∀ n, shN (x :: l) n = shN l n + if 1 ≤ x ∧ x < n then 1 else 0
  | 0 => by rw [if_neg (by omega)]; rfl
  | n + 1 => by
    rw [shN, sh_cons x l n, shN]
    unfold cn
    by_cases h0 : n = 0
    · subst h0
      simp only [if_pos]
      rw [if_neg (by omega), if_neg (by omega)]
    · rw [if_neg h0, if_neg h0, cnt_cons]
      by_cases h1 : 1 ≤ x ∧ x < n
      · rw [if_pos h1, if_neg (by omega), if_pos (by omega)]
        omega
      · rw [if_neg h1]
        by_cases h2 : x = (n : Int)
        · rw [if_pos h2, if_pos (by omega)]
          omega
        · rw [if_neg h2, if_neg (by omega)]
          omega
theorem sh_nil : ∀ n, shN [] n = 0
  | 0 => rfl
  | n + 1 => by
    rw [shN, sh_nil n]
    unfold cn cnt
    split <;> simp
theorem sh_all : ∀ l : List Int, inB l = true → shN l 16 = codesN l
  | [], _ => by rw [sh_nil]; rfl
  | x :: l, h => by
    have h2 := (inB_iff _).1 h x (by simp)
    have h3 : inB l = true := (inB_iff _).2 fun y hy => (inB_iff _).1 h y (by simp [hy])
    rw [sh_cons, sh_all l h3]
    unfold codesN
    rw [List.countP_cons]
    congr 1
    by_cases hx : 0 < x
    · rw [if_pos (by omega), if_pos (by simpa using hx)]
    · rw [if_neg (by omega), if_neg (by simpa using hx)]
theorem sh_mono (l : List Int) (n : Nat) : ∀ k, shN l n ≤ shN l (n + k)
  | 0 => Nat.le_refl _
  | k + 1 => by
    have := sh_mono l n k
    rw [show n + (k + 1) = (n + k) + 1 by omega, shN]
    omega
/-- Where a symbol stands among those that have a code. -/
def plN (l : List Int) (i : Nat) : Nat := shN l (lenN l i) + cnt (l.take i) (lenN l i)
theorem Has.place {l : List Int} {i n : Nat} (h : Has l i n) : plN l i = shN l n + cnt (l.take i) n := by
  unfold plN
  rw [h.len]
theorem Has.place_lt {l : List Int} {i n : Nat} (h : Has l i n) : plN l i < shN l (n + 1) := by
  rw [h.place, shN, cn_pos l h.2]
  have := cnt_take_lt h.1
  omega
theorem Has.place_all {l : List Int} (hb : inB l = true) {i n : Nat} (h : Has l i n) : plN l i < codesN l := by
  have h1 := h.place_lt
  have h2 := (inB_iff _).1 hb _ (List.mem_of_getElem? h.1)
  have h3 := sh_mono l (n + 1) (15 - n)
  rw [show n + 1 + (15 - n) = 16 by omega, sh_all l hb] at h3
  omega
theorem place_inj {l : List Int} {i j n m : Nat} (hi : Has l i n) (hj : Has l j m) (e : plN l i = plN l j) : i = j := by
  rcases Nat.lt_trichotomy n m with h | h | h
  · have h1 := hi.place_lt
    have h2 := sh_mono l (n + 1) (m - (n + 1))
    rw [show n + 1 + (m - (n + 1)) = m by omega] at h2
    rw [e, hj.place] at h1
    omega
  · subst h
    rw [hi.place, hj.place] at e
    exact rank_inj hi.1 hj.1 (by omega)
  · have h1 := hj.place_lt
    have h2 := sh_mono l (m + 1) (n - (m + 1))
    rw [show m + 1 + (n - (m + 1)) = n by omega] at h2
    rw [← e, hi.place] at h1
    omega
/-- The symbols that have a code stand in their codes' order. -/
def Sorted (l sy : List Int) (k : Nat) : Prop := sy.length = codesN l ∧ ∀ i n, Has l i n → i < k → sy[plN l i]? = some (i : Int)
theorem Sorted.zero {l sy : List Int} (h : sy.length = codesN l) : Sorted l sy 0 := ⟨h, fun _ _ _ h => by omega⟩
theorem Sorted.skip {l sy : List Int} {k : Nat} (h : Sorted l sy k) (hk : lenN l k = 0) : Sorted l sy (k + 1) := ⟨h.1, fun i n hi hk2 => h.2 i n hi (by
  rcases Nat.lt_or_ge i k with h2 | h2
  · exact h2
  · obtain rfl : i = k := by omega
    have := hi.len
    have := hi.2
    omega)⟩
theorem Sorted.next {l sy : List Int} {k n : Nat} (hb : inB l = true) (h : Sorted l sy k) (hk : Has l k n) : Sorted l (sy.set (plN l k) (k : Int)) (k + 1) := ⟨by rw [List.length_set]; exact h.1, fun i m hi hk2 => by
  by_cases e : i = k
  · subst e
    rw [List.getElem?_set_self (by rw [h.1]; exact hk.place_all hb)]
  · rw [List.getElem?_set_ne (fun e2 => e (place_inj hi hk e2.symm))]
    exact h.2 i m hi (by omega)⟩
/-- A symbol's word, as it is kept. -/
def wdI (l : List Int) (i : Nat) : Int × Int := if 0 < lenN l i then ((wordN l i : Nat), (lenN l i : Nat)) else (0, 0)
/-- The words of the first k symbols. -/
def wdL (l : List Int) (k : Nat) : List (Int × Int) := (List.range l.length).map fun i => if i < k then wdI l i else (0, 0)
theorem wdL_length (l : List Int) (k : Nat) : (wdL l k).length = l.length := by unfold wdL; simp
theorem wdL_get {l : List Int} {k i : Nat} (h : i < l.length) : (wdL l k)[i]? = some (if i < k then wdI l i else (0, 0)) := by
  unfold wdL
  rw [List.getElem?_map, List.getElem?_range h]
  rfl
theorem wdL_zero (l : List Int) : wdL l 0 = List.replicate l.length (0, 0) := by
  apply List.ext_getElem?
  intro i
  by_cases h : i < l.length
  · rw [wdL_get h, if_neg (by omega), List.getElem?_replicate, if_pos h]
  · rw [List.getElem?_eq_none (by rw [wdL_length]; omega), List.getElem?_eq_none (by simp; omega)]
theorem wdL_next {l : List Int} {k : Nat} (h : k < l.length) : wdL l (k + 1) = (wdL l k).set k (wdI l k) := by
  apply List.ext_getElem?
  intro i
  by_cases hi : i < l.length
  · rw [wdL_get hi]
    by_cases e : i = k
    · subst e
      rw [if_pos (by omega), List.getElem?_set_self (by rw [wdL_length]; exact h)]
    · rw [List.getElem?_set_ne (fun e2 => e e2.symm), wdL_get hi]
      congr 1
      by_cases h2 : i < k
      · rw [if_pos h2, if_pos (by omega)]
      · rw [if_neg h2, if_neg (by omega)]
  · rw [List.getElem?_eq_none (by rw [wdL_length]; omega), List.getElem?_eq_none (by rw [List.length_set, wdL_length]; omega)]
theorem wdL_skip {l : List Int} {k : Nat} (h : k < l.length) (hz : lenN l k = 0) : wdL l (k + 1) = wdL l k := by
  rw [wdL_next h]
  apply List.ext_getElem?
  intro i
  by_cases e : i = k
  · subst e
    rw [List.getElem?_set_self (by rw [wdL_length]; exact h), wdL_get h, if_neg (by omega)]
    unfold wdI
    rw [if_neg (by omega)]
  · rw [List.getElem?_set_ne (fun e2 => e e2.symm)]

/-- What stands in the array of counts. -/
def cntL (l : List Int) : List Int := (List.range 16).map fun n => (cn l n : Int)
theorem cntL_length (l : List Int) : (cntL l).length = 16 := by unfold cntL; simp
theorem cntL_get (l : List Int) {n : Nat} (h : n < 16) : (cntL l)[n]? = some (cn l n : Int) := by
  unfold cntL
  rw [List.getElem?_map, List.getElem?_range h]
  rfl
theorem cn_snoc (l : List Int) (x : Int) (n : Nat) : cn (l ++ [x]) n = cn l n + if n ≠ 0 ∧ x = n then 1 else 0 := by
  unfold cn
  by_cases h : n = 0
  · rw [if_pos h, if_pos h, if_neg (by omega)]
  · rw [if_neg h, if_neg h, cnt_append, cnt_cons]
    unfold cnt
    by_cases h2 : x = (n : Int)
    · rw [if_pos h2, if_pos ⟨h, h2⟩]; simp
    · rw [if_neg h2, if_neg (fun e => h2 e.2)]; simp
theorem cntL_snoc {l : List Int} {n : Nat} (h1 : 1 ≤ n) (h2 : n ≤ 15) : cntL (l ++ [(n : Int)]) = (cntL l).set n ((cn l n : Int) + 1) := by
  apply List.ext_getElem?
  intro i
  by_cases hi : i < 16
  · rw [cntL_get _ hi, cn_snoc]
    by_cases e : n = i
    · subst e
      rw [List.getElem?_set_self (by rw [cntL_length]; omega), if_pos ⟨by omega, rfl⟩]
      rfl
    · rw [List.getElem?_set_ne e, cntL_get _ hi, if_neg (fun e2 => e (by omega)), Nat.add_zero]
  · rw [List.getElem?_eq_none (by rw [cntL_length]; omega), List.getElem?_eq_none (by rw [List.length_set, cntL_length]; omega)]
theorem cntL_same {l : List Int} {x : Int} (h : ¬ (1 ≤ x ∧ x ≤ 15)) : cntL (l ++ [x]) = cntL l := by
  apply List.ext_getElem?
  intro i
  by_cases hi : i < 16
  · rw [cntL_get _ hi, cntL_get _ hi, cn_snoc, if_neg (fun e => h (by omega)), Nat.add_zero]
  · rw [List.getElem?_eq_none (by rw [cntL_length]; omega), List.getElem?_eq_none (by rw [cntL_length]; omega)]
theorem cntL_nil : cntL [] = List.replicate 16 0 := by decide
theorem cn_le (l : List Int) (n : Nat) : cn l n ≤ l.length := by
  unfold cn
  split
  · omega
  · exact List.count_le_length
/-- What is left of the room behind n lengths. -/
def leftI (l : List Int) : Nat → Int
  | 0 => 32768
  | n + 1 => leftI l n - (cn l n : Int) * 2 ^ (15 - n)
theorem cn_cons (x : Int) (l : List Int) (n : Nat) : cn (x :: l) n = cn l n + if n ≠ 0 ∧ x = n then 1 else 0 := by
  unfold cn
  by_cases h : n = 0
  · rw [if_pos h, if_pos h, if_neg (by omega)]
  · rw [if_neg h, if_neg h, cnt_cons]
    by_cases h2 : x = (n : Int)
    · rw [if_pos h2, if_pos ⟨h, h2⟩]
    · rw [if_neg h2, if_neg (fun e => h2 e.2)]
theorem left_cons (x : Int) (l : List Int) : ∀ n, leftI (x :: l) n = leftI l n - if 1 ≤ x ∧ x < n then 2 ^ (15 - x.toNat) else 0
  | 0 => by rw [if_neg (by omega)]; simp [leftI]
  | n + 1 => by
    rw [leftI, left_cons x l n, leftI, cn_cons]
    by_cases h1 : 1 ≤ x ∧ x < n
    · rw [if_pos h1, if_neg (by omega), if_pos (by omega)]
      simp only [Nat.add_zero]
      omega
    · rw [if_neg h1]
      by_cases h2 : n ≠ 0 ∧ x = (n : Int)
      · rw [if_pos h2, if_pos (by omega), h2.2, Int.toNat_natCast, Int.natCast_add, Int.add_mul]
        omega
      · rw [if_neg h2, if_neg (by omega)]
        simp
theorem left_nil : ∀ n, leftI [] n = 32768
  | 0 => rfl
  | n + 1 => by
    rw [leftI, left_nil n]
    unfold cn cnt
    split <;> simp
theorem left_all : ∀ l : List Int, leftI l 16 = roomI l
  | [] => by rw [left_nil]; rfl
  | x :: l => by
    rw [left_cons, left_all l]
    unfold roomI
    rw [usedS, usedI]
    by_cases h : 1 ≤ x ∧ x ≤ 15
    · rw [if_pos h, if_pos (by omega)]
      omega
    · rw [if_neg h, if_neg (by omega)]
      omega
theorem left_in (n : Nat) : ∀ l : List Int, 32768 - 16384 * (l.length : Int) ≤ leftI l n ∧ leftI l n ≤ 32768
  | [] => by rw [left_nil]; simp
  | x :: l => by
    have ih := left_in n l
    rw [left_cons, List.length_cons]
    by_cases h : 1 ≤ x ∧ x < n
    · rw [if_pos h]
      have h1 : (2 : Int) ^ (15 - x.toNat) ≤ 2 ^ 14 := by exact_mod_cast Nat.pow_le_pow_right (n := 2) (by omega) (by omega : 15 - x.toNat ≤ 14)
      have h2 : (0 : Int) < 2 ^ (15 - x.toNat) := Int.pow_pos (by omega)
      omega
    · rw [if_neg h]
      omega
/-- How many codes there are, whatever lengths: those from 1 to 15. -/
theorem all_sum (l : List Int) : (cntL l).foldl (· + ·) 0 = (shN l 16 : Int) := by
  unfold cntL
  simp [List.range, List.range.loop, shN, cn]
/-- The longest code's bits. -/
theorem lenN_le15 {l : List Int} (hb : inB l = true) (i : Nat) : lenN l i ≤ 15 := by
  unfold lenN
  cases h : l[i]? with
  | none => simp
  | some x =>
    have := (inB_iff _).1 hb x (List.mem_of_getElem? h)
    simp
    omega
theorem reach_most {l : List Int} (hb : inB l = true) {n : Nat} (h1 : 1 ≤ n) (h2 : n ≤ 15) (h3 : ∀ m, n < m → m ≤ 15 → cn l m = 0) (h4 : n = 1 ∨ cn l n ≠ 0) : mostW (wordsL l) = n := by
  have hle : longW (wordsL l) ≤ n := long_le fun w hw => by
    unfold wordsL at hw
    obtain ⟨i, hi, rfl⟩ := List.mem_map.1 hw
    have hi2 := List.mem_range.1 hi
    rw [wordB_length]
    apply Decidable.byContradiction
    intro hn
    have h5 := h3 (lenN l i) (by omega) (lenN_le15 hb i)
    rw [cn_pos l (by omega)] at h5
    have H : Has l i (lenN l i) := by
      refine ⟨?_, by omega⟩
      have h6 := List.getElem?_eq_getElem hi2
      have h7 := (inB_iff _).1 hb _ (List.getElem_mem hi2)
      unfold lenN
      rw [h6]
      simp
      omega
    have := cnt_take_lt H.1
    omega
  unfold mostW
  rcases h4 with rfl | h4
  · omega
  · rw [cn_pos l h1] at h4
    obtain ⟨i, h5, _⟩ := rank_find' l n 0 (by omega)
    have h6 : Has l i n := ⟨h5, h1⟩
    have h7 := long_ge (List.mem_of_getElem? (wordsL_get h6.at_))
    rw [wordB_length, h6.len] at h7
    omega
/-- A word that was begun by none is found, or is no word. -/
theorem step_hit {l got : List Int} (h : okB l = true) (hb : AllBit got) {k : Nat} {d : Int} (hk : got.length = k + 1) (hd : valH got = 2 * (lim l k : Int) + d) (h0 : 0 ≤ d) (h1 : d < cnt l (k + 1)) : ∃ i, findW (wordsL l) got = some i ∧ Has l i (k + 1) ∧ plN l i = shN l (k + 1) + d.toNat := by
  obtain ⟨i, h3, h4⟩ := rank_find' l (k + 1) d.toNat (by omega)
  have H : Has l i (k + 1) := ⟨h3, by omega⟩
  have hw : (wordN l i : Int) = valH got := by
    rw [H.word, h4, Nat.add_sub_cancel, hd]
    omega
  have e : wordB l i = got := by
    unfold wordB
    rw [H.len, hw, ← hk]
    exact (val_bits hb).symm
  refine ⟨i, ?_, H, ?_⟩
  · rw [← e]
    exact find_word h H
  · rw [H.place, h4]
theorem step_miss {l got : List Int} (h : okB l = true) {k : Nat} {d : Int} (hk : got.length = k + 1) (hd : valH got = 2 * (lim l k : Int) + d) (h1 : ¬ d < cnt l (k + 1)) : findW (wordsL l) got = none ∧ (lim l (k + 1) : Int) ≤ valH got := by
  refine ⟨?_, by rw [lim, hd]; omega⟩
  cases hf : findW (wordsL l) got with
  | none => rfl
  | some i =>
    exfalso
    obtain ⟨h2, h3, h4⟩ := find_some hf
    obtain ⟨_, hb, hr⟩ := (okB_iff l).1 h
    have hlen := congrArg List.length h3
    rw [wordB_length, hk] at hlen
    have H := word_has (fun x hx => (hb x hx).1) h2 (by rw [h3]; exact h4)
    have hn := (hb _ (List.mem_of_getElem? H.1)).2
    have h5 := valH_word (by omega) (by omega) H
    have h6 := H.lt
    rw [h3, hd] at h5
    rw [hlen, lim] at h6
    omega
end Go.Proofs.YtcdhakfmljjaoaaGreatDoor.cd

/-
  The program's arrays (counts of codes; where the codes of each length begin), as cells and as values; the operations on them.
-/



namespace Go.Proofs.YtcdhakfmljjaoaaGreatDoor.cd
set_option maxRecDepth 100000
open Go.RowKit Go.Maps Go.Proofs.YtcdhakfmljjaoaaGreatDoor.fl
set_option maxRecDepth 100000

theorem infoCn : (Tryz.prog.info? 153).map (·.size) = some 16 := by kernel_rfl
theorem infoLv : (Tryz.prog.info? 160).map (·.size) = some 32 := by kernel_rfl
/-- Levels as cells. -/
def lvs (L : List (Int × Int)) : List Value := L.flatMap fun x => [.int .i64 x.1, .int .i64 x.2]
theorem lvs_length : ∀ L : List (Int × Int), (lvs L).length = 2 * L.length
  | [] => rfl
  | x :: L => by
    show ([Value.int .i64 x.1, Value.int .i64 x.2] ++ lvs L).length = _
    rw [List.length_append, lvs_length L]
    simp
    omega
theorem lvs_one (L : List (Int × Int)) : ∀ v ∈ lvs L, v.oneCell' = true := by
  intro v hv
  obtain ⟨x, _, hx⟩ := List.mem_flatMap.1 hv
  rcases List.mem_cons.1 hx with rfl | hx
  · rfl
  · rw [List.mem_singleton.1 hx]; rfl
theorem lvs_get : ∀ (L : List (Int × Int)) (k : Nat) (x : Int × Int), L[k]? = some x → (lvs L)[2 * k]? = some (.int .i64 x.1) ∧ (lvs L)[2 * k + 1]? = some (.int .i64 x.2)
  | [], k, x, h => by simp at h
  | y :: L, 0, x, h => by
    obtain rfl : y = x := by simpa using h
    exact ⟨rfl, rfl⟩
  | y :: L, k + 1, x, h => by
    have h2 := lvs_get L k x (by simpa using h)
    show (Value.int .i64 y.1 :: Value.int .i64 y.2 :: lvs L)[2 * k + 2]? = _ ∧ (Value.int .i64 y.1 :: Value.int .i64 y.2 :: lvs L)[2 * k + 3]? = _
    exact h2
theorem lvs_set : ∀ (L : List (Int × Int)) (k : Nat) (x : Int × Int), ((lvs L).set (2 * k) (.int .i64 x.1)).set (2 * k + 1) (.int .i64 x.2) = lvs (L.set k x)
  | [], k, x => by simp [lvs]
  | y :: L, 0, x => rfl
  | y :: L, k + 1, x => by
    show (Value.int .i64 y.1 :: Value.int .i64 y.2 :: (((lvs L).set (2 * k) (.int .i64 x.1)).set (2 * k + 1) (.int .i64 x.2))) = _
    rw [lvs_set L k x]
    rfl
abbrev cnV (c : List Int) : Value := .agg (is c).toArray
abbrev lvV (L : List (Int × Int)) : Value := .agg (lvs L).toArray
abbrev no16 : List Int := List.replicate 16 0
abbrev noL16 : List (Int × Int) := List.replicate 16 (0, 0)

theorem run_allocCn (w : World) : (Instr.alloc 153 true (.tuple #[])).run Tryz.prog w = .ok (.pointer (some ⟨w.heap.size, 0, none⟩)) (w.alloc (.cells (is no16).toArray 153)) := by
  kernel_rfl
theorem run_allocLv (w : World) : (Instr.alloc 160 true (.tuple #[])).run Tryz.prog w = .ok (.pointer (some ⟨w.heap.size, 0, none⟩)) (w.alloc (.cells (lvs noL16).toArray 160)) := by
  kernel_rfl
section
variable {ops : Array Oper} {rest : List Oper} {o : Oper} {a : Act} {w : World} {Q : Exit → Act → World → Prop}
theorem wpList_allocCn (hg : o.guard = none) (ho : o.op = .alloc 153)
    (h : wpList Tryz.prog ops Q rest (a.put o.dst (.pointer (some ⟨w.heap.size, 0, none⟩))) (w.alloc (.cells (is no16).toArray 153))) : wpList Tryz.prog ops Q (o :: rest) a w := by
  refine wpList_plain hg fun K hK => ?_
  unfold Oper.wp
  simp only [execOp, ho, Sem.run_bind, run_allocCn, Result.andThen]
  exact hK _ _ h
theorem wpList_allocLv (hg : o.guard = none) (ho : o.op = .alloc 160)
    (h : wpList Tryz.prog ops Q rest (a.put o.dst (.pointer (some ⟨w.heap.size, 0, none⟩))) (w.alloc (.cells (lvs noL16).toArray 160))) : wpList Tryz.prog ops Q (o :: rest) a w := by
  refine wpList_plain hg fun K hK => ?_
  unfold Oper.wp
  simp only [execOp, ho, Sem.run_bind, run_allocLv, Result.andThen]
  exact hK _ _ h
theorem all_one {cs : List Value} (h : ∀ v ∈ cs, v.oneCell' = true) : cs.toArray.all (·.oneCell') = true :=
  Array.all_eq_true_iff_forall_mem.2 (fun v hv => h v (by simpa using hv))
/-- A whole array is laid into its variable. -/
theorem wpList_storeA {T : TypeId} {n : Nat} (hi : (Tryz.prog.info? T).map (·.size) = some n) (hgd : o.guard = none) (x y : Operand) (ho : o.op = .store T x y) (g : Nat) (cs old : List Value) (hl : cs.length = n) (hol : old.length = n) (h1 : ∀ v ∈ cs, v.oneCell' = true)
    (hx : a.eval x = .pointer (some ⟨g, 0, none⟩)) (hy : a.eval y = .agg cs.toArray) (hg : w.heap[g]? = some (.cells old.toArray T (0, 0)))
    (h : ∀ w', w'.heap[g]? = some (.cells cs.toArray T (0, 0)) → Fr (· = g) w w' → w'.heap.size = w.heap.size → wpList Tryz.prog ops Q rest (a.put o.dst undef) w') : wpList Tryz.prog ops Q (o :: rest) a w :=
  wpList_store_row hgd T x y ho g cs.toArray hx hy T old.toArray hg (by rw [List.size_toArray, hl]; exact hi) (by rw [List.size_toArray, List.size_toArray, hl, hol]) (all_one h1)
    (h _ (setRow_heap w g _ _ _ _ hg) ⟨rfl, rfl, rfl, by simp [World.setRow], fun i _ hi => setRow_other w g i _ hi⟩ (by simp [World.setRow]))
theorem wpList_loadCn (hgd : o.guard = none) (x : Operand) (ho : o.op = .load 153 x) (g : Nat) (c : List Int) (hl : c.length = 16)
    (hx : a.eval x = .pointer (some ⟨g, 0, none⟩)) (hg : w.heap[g]? = some (.cells (is c).toArray 153 (0, 0)))
    (h : wpList Tryz.prog ops Q rest (a.put o.dst (cnV c)) w) : wpList Tryz.prog ops Q (o :: rest) a w :=
  wpList_load_row hgd 153 x ho g hx 153 (is c).toArray (0, 0) _ hg Tryz.underlying153 rfl (by rw [List.size_toArray, is_length, hl]; exact infoCn) h
theorem wpList_loadLv (hgd : o.guard = none) (x : Operand) (ho : o.op = .load 160 x) (g : Nat) (L : List (Int × Int)) (hl : L.length = 16)
    (hx : a.eval x = .pointer (some ⟨g, 0, none⟩)) (hg : w.heap[g]? = some (.cells (lvs L).toArray 160 (0, 0)))
    (h : wpList Tryz.prog ops Q rest (a.put o.dst (lvV L)) w) : wpList Tryz.prog ops Q (o :: rest) a w :=
  wpList_load_row hgd 160 x ho g hx 160 (lvs L).toArray (0, 0) _ hg Tryz.underlying160 rfl (by rw [List.size_toArray, lvs_length, hl]; exact infoLv) h
theorem wpList_boxCn (hg : o.guard = none) (x : Operand) (ho : o.op = .box 153 x) (c : List Int) (hx : a.eval x = cnV c)
    (h : wpList Tryz.prog ops Q rest (a.put o.dst (.pointer (some ⟨w.heap.size, 0, none⟩))) (w.alloc (.cells (is c).toArray 153))) : wpList Tryz.prog ops Q (o :: rest) a w := by
  have hc : (a.eval x).cells = (is c).toArray := by rw [hx]; rfl
  refine wpList_plain hg fun K hK => ?_
  unfold Oper.wp execOp
  simp only [ho, Sem.run_bind, Instr.box, newVar, newRow, run_newObj_alloc, Sem.run_pure, Result.andThen_ok, hc]
  exact hK _ _ h
/-- .. where the operation has a guard that lets it be done. -/
theorem wpList_loadCnG (x : Operand) (ho : o.op = .load 153 x) (g : Nat) (c : List Int) (hl : c.length = 16)
    (hw : Region.wanted o (yielded ops a.tmps) = true) (hx : a.eval x = .pointer (some ⟨g, 0, none⟩)) (hg : w.heap[g]? = some (.cells (is c).toArray 153 (0, 0)))
    (h : wpList Tryz.prog ops Q rest (a.put o.dst (cnV c)) w) : wpList Tryz.prog ops Q (o :: rest) a w :=
  wpList_step fun K hK => by
    rw [if_pos hw]
    exact wp_load_row 153 x ho g hx 153 (is c).toArray (0, 0) _ hg Tryz.underlying153 rfl (by rw [List.size_toArray, is_length, hl]; exact infoCn) (hK _ _ h)
/-- An element of an array that is a value. -/
theorem run_indexCn (w : World) (c : List Int) (hl : c.length = 16) (k : Nat) (x : Int) (hk : c[k]? = some x) : (Instr.index 153 (cnV c) (.int .i64 (k : Int))).run Tryz.prog w = .ok (.int .i64 x) w := by
  have hlt : k < 16 := by have := (List.getElem?_eq_some_iff.1 hk).1; omega
  have hc : (is c).toArray[k]? = some (.int .i64 x) := by rw [List.getElem?_toArray, is_get, hk]; rfl
  have hsz : (sizeOf 3).run Tryz.prog w = .ok 1 w := by kernel_rfl
  have hag : (isAgg 3).run Tryz.prog w = .ok false w := by kernel_rfl
  have hu : (underlying 153).run Tryz.prog w = .ok (.array 16 3) w := run_underlying Tryz.underlying153 w
  have h0 : (0 : Int) ≤ (k : Int) ∧ (k : Int) < (16 : Nat) := by omega
  unfold Instr.index part
  simp only [asIntOf, Sem.run_bind, Sem.run_pure, Result.andThen_ok, hu, h0, and_self, if_true, hsz, hag, Nat.mul_one, Int.toNat_natCast, hc, Bool.false_eq_true, if_false]
theorem wpList_indexCn (hgd : o.guard = none) (x y : Operand) (ho : o.op = .index 153 x y) (c : List Int) (hl : c.length = 16) (k : Nat) (z : Int) (hk : c[k]? = some z) (hx : a.eval x = cnV c) (hy : a.eval y = .int .i64 (k : Int))
    (h : wpList Tryz.prog ops Q rest (a.put o.dst (.int .i64 z)) w) : wpList Tryz.prog ops Q (o :: rest) a w := by
  refine wpList_plain hgd fun K hK => ?_
  unfold Oper.wp
  simp only [execOp, ho, hx, hy, Sem.run_bind, Sem.run_pure, run_indexCn w c hl k z hk, Result.andThen_ok]
  exact hK _ _ h
end
theorem results_Cn {fn : Func} {p : Tmp} (h : fn.results = #[.cell p 153]) (tmps : Array Value) (w : World) (g : Nat) (c : List Int) (hl : c.length = 16)
    (hp : tmps.getD p undef = .pointer (some ⟨g, 0, none⟩)) (hg : w.heap[g]? = some (.cells (is c).toArray 153 (0, 0))) : (results fn tmps).run Tryz.prog w = .ok (cnV c) w :=
  results_cell_row h tmps w g 153 (is c).toArray (0, 0) _ hp hg Tryz.underlying153 rfl (by rw [List.size_toArray, is_length, hl]; exact infoCn)
theorem results_Lv {fn : Func} {p : Tmp} (h : fn.results = #[.cell p 160]) (tmps : Array Value) (w : World) (g : Nat) (L : List (Int × Int)) (hl : L.length = 16)
    (hp : tmps.getD p undef = .pointer (some ⟨g, 0, none⟩)) (hg : w.heap[g]? = some (.cells (lvs L).toArray 160 (0, 0))) : (results fn tmps).run Tryz.prog w = .ok (lvV L) w :=
  results_cell_row h tmps w g 160 (lvs L).toArray (0, 0) _ hp hg Tryz.underlying160 rfl (by rw [List.size_toArray, lvs_length, hl]; exact infoLv)
end Go.Proofs.YtcdhakfmljjaoaaGreatDoor.cd

/-
  The program's counts: count, all, left, reach, mayBe.
-/
namespace Go.Proofs.YtcdhakfmljjaoaaGreatDoor.cd
set_option maxRecDepth 100000
open Go.RowKit Go.Maps Go.Proofs.YtcdhakfmljjaoaaGreatDoor.fl
set_option maxRecDepth 100000

def isC (x : Int) : Bool := decide (1 ≤ x) && decide (x ≤ 15)
set_option maxHeartbeats 1000000 in
theorem pisCode (w : World) (x : Int) : Calls Tryz.prog 139 #[.int .i64 x] w fun e w' => e = .returned (.bool (isC x)) ∧ w = w' := by
  have HV := Lib.hid (show isC x = (decide (1 ≤ x) && decide (x ≤ 15)) from rfl)
  by_cases h1 : 1 ≤ x
  · rw [decide_eq_true h1, Bool.true_and] at HV
    go_enter Tryz.func139, Tryz.ntmps139
    go_wp2_with fail
    go_ret
    exact ⟨by rw [HV.out]; rfl, rfl⟩
  · rw [decide_eq_false h1, Bool.false_and] at HV
    go_enter Tryz.func139, Tryz.ntmps139
    go_wp2_with fail
    go_ret
    exact ⟨by rw [HV.out]; rfl, rfl⟩
def isW' (x : Int) : Bool := (x != 0) && !isC x
set_option maxHeartbeats 1000000 in
theorem pisWrong (w : World) (x : Int) : Calls Tryz.prog 125 #[.int .i64 x] w fun e w' => e = .returned (.bool (isW' x)) ∧ w = w' := by
  have HC := Lib.hid (pisCode w x)
  by_cases h1 : x = 0
  · have HV := Lib.hid (show isW' x = false by unfold isW'; subst h1; rfl)
    rw [HV.out]
    subst h1
    go_enter Tryz.func125, Tryz.ntmps125
    go_wp2_with (go_at_call 139; refine HC.out.mono ?_; rintro e w' ⟨rfl, rfl⟩)
    go_ret
    exact ⟨rfl, rfl⟩
  · have hne : (x != 0) = true := bne_iff_ne.2 h1
    have HV := Lib.hid (show isW' x = !isC x by unfold isW'; rw [hne]; rfl)
    rw [HV.out]
    obtain ⟨c, hc⟩ : ∃ c, c = isC x := ⟨_, rfl⟩
    rw [← hc] at HC ⊢
    clear hc
    go_enter Tryz.func125, Tryz.ntmps125
    go_wp2_with (go_at_call 139; refine HC.out.mono ?_; rintro e w' ⟨rfl, rfl⟩)
    go_ret
    exact ⟨rfl, rfl⟩
theorem cntL_cells (l : List Int) : (is (cntL l)).length = 16 := by rw [is_length, cntL_length]
theorem no16_cells : (is no16).length = 16 := by rw [is_length]; rfl
/-- What lies there while codes are counted. -/
structure Cnt (w : World) (l : List Int) (k : Nat) (wr : World) : Prop where
  res : wr.heap[w.heap.size]? = some (.cells (is no16).toArray 153 (0, 0))
  var : wr.heap[w.heap.size + 1]? = some (.cells (is (cntL (l.take k))).toArray 153 (0, 0))
  fr : Fr (fun _ => False) w wr
theorem Cnt.start (w : World) (l : List Int) : Cnt w l 0 ((w.alloc (.cells (is no16).toArray 153)).alloc (.cells (is no16).toArray 153)) :=
  ⟨heap_alloc2_old _ _ _, by rw [heap_alloc2_new, List.take_zero, cntL_nil], ((Fr.refl _ w).alloc _).alloc _⟩
theorem Cnt.skip {w wr : World} {l : List Int} {k : Nat} {x : Int} (h : Cnt w l k wr) (hx : l[k]? = some x) (hc : isC x = false) : Cnt w l (k + 1) wr := by
  refine ⟨h.res, ?_, h.fr⟩
  rw [h.var, List.take_add_one, hx]
  show _ = some (Obj.cells (is (cntL (l.take k ++ [x]))).toArray _ _)
  rw [cntL_same]
  rintro ⟨h1, h2⟩
  unfold isC at hc
  rw [decide_eq_true h1, decide_eq_true h2] at hc
  cases hc
theorem Cnt.at_ {w wr : World} {l : List Int} {k m : Nat} (h : Cnt w l k wr) (hx : l[k]? = some (m : Int)) (h1 : 1 ≤ m) (h2 : m ≤ 15) : ∃ c : Nat, c ≤ k ∧ wr.cell? ⟨w.heap.size + 1, m, none⟩ = some (.int .i64 (c : Int)) ∧ wr.frozen? ⟨w.heap.size + 1, m, none⟩ = false ∧ Hid (Cnt w l (k + 1) (wr.setCell ⟨w.heap.size + 1, m, none⟩ (.int .i64 ((c : Int) + 1)))) := by
  refine ⟨cn (l.take k) m, ?_, ?_, freeAt h.var m, ?_, ?_, ?_⟩
  · have := cn_le (l.take k) m
    rw [List.length_take] at this
    omega
  · rw [cellAt h.var, List.getElem?_toArray, is_get, cntL_get _ (by omega)]
    rfl
  · rw [Below.heap_setCell _ _ _ _ (by simp)]
    exact h.res
  · rw [heap_setCell_same _ _ _ _ _ _ h.var, List.take_add_one, hx]
    show _ = some (Obj.cells (is (cntL (l.take k ++ [(m : Int)]))).toArray _ _)
    rw [cntL_snoc h1 h2, ← is_set]
    simp
  · exact h.fr.setCell (p := ⟨w.heap.size + 1, m, none⟩) (Or.inr (by simp)) _
set_option maxHeartbeats 4000000 in
theorem pcount (w : World) (A : Option Addr) (cap : Nat) (l : List Int) (hr : RdI w w.heap.size A l) (hb : l.length ≤ 140737488351232) :
    Calls Tryz.prog 126 #[.slice A l.length cap] w fun e w' => e = .returned (cnV (cntL l)) ∧ Fr (fun _ => False) w w' := by
  obtain ⟨n, hn⟩ : ∃ n, n = l.length := ⟨_, rfl⟩
  rw [← hn] at hb ⊢
  have HR := Lib.hid hr
  have HN := Lib.hid hn
  have HS := Lib.hid (Cnt.start w l)
  clear hr hn
  go_enter Tryz.func126, Tryz.ntmps126
  go_wp2_with ((with_reducible refine wpList_allocCn ?_ ?_ ?_); (exact rfl); (exact rfl))
  go_loopw [5, 8] (fun _ i wr => ∃ k : Nat, k ≤ n ∧ i = .int .i64 k ∧ Hid (Cnt w l k wr)) (fun _ i _ => n - (intOf i).toNat)
  case atStart => exact ⟨0, Nat.zero_le _, rfl, HS⟩
  case round =>
    obtain ⟨k, hk, rfl, HC⟩ := hrel
    by_cases hlt : k < n
    · obtain ⟨x, hx⟩ : ∃ x, l[k]? = some x := ⟨_, List.getElem?_eq_getElem (by have := HN.out; omega)⟩
      obtain ⟨b, o, rfl, hbl, hcell⟩ := HR.out.1 (by rintro rfl; simp at hx)
      have p0 := (World.cell?_of_block (w := w) (w' := wr) (a := ⟨b, o + k, none⟩) (HC.out.fr.block b hbl id)).trans (hcell k x hx)
      have HI := Lib.hid (pisCode wr x)
      cases hq : isC x with
      | true =>
        rw [hq] at HI
        obtain ⟨m, rfl, hm1, hm2⟩ : ∃ m : Nat, x = (m : Int) ∧ 1 ≤ m ∧ m ≤ 15 := by
          unfold isC at hq
          simp at hq
          exact ⟨x.toNat, by omega, by omega, by omega⟩
        obtain ⟨c, hc, c0, f0, HNX⟩ := HC.out.at_ hx hm1 hm2
        clear hx hq hbl hcell
        go_wp2_with (go_at_call 139; refine HI.out.mono ?_; rintro e w' ⟨rfl, rfl⟩)
        go_roundw
        case rel => exact ⟨k + 1, by omega, by go_num, HNX⟩
        case measure => simp [intOf]; omega
      | false =>
        rw [hq] at HI
        have HNX := Lib.hid (HC.out.skip hx hq)
        clear hx hq hbl hcell
        go_wp2_with (go_at_call 139; refine HI.out.mono ?_; rintro e w' ⟨rfl, rfl⟩)
        go_roundw
        case rel => exact ⟨k + 1, by omega, by go_num, HNX⟩
        case measure => simp [intOf]; omega
    · obtain rfl : k = n := by omega
      have HV := Lib.hid (show wr.heap[w.heap.size + 1]? = some (.cells (is (cntL l)).toArray 153 (0, 0)) by have := HC.out.var; rwa [HN.out, List.take_length] at this)
      go_wp2_with (first
        | ((with_reducible refine wpList_loadCn ?_ (.tmp 3) ?_ (w.heap.size + 1) (cntL l) (cntL_length l) ?_ HV.out ?_); (exact rfl); (exact rfl); (exact rfl))
        | ((with_reducible refine wpList_storeA infoCn ?_ (.tmp 2) (.tmp 20) ?_ w.heap.size (is (cntL l)) (is no16) (cntL_cells l) no16_cells (is_one _) ?_ ?_ HC.out.res ?_); (exact rfl); (exact rfl); (exact rfl); (exact rfl); intro w3 h3 hF3 hs3; have H3 := Lib.hid h3; have HF3 := Lib.hid hF3; clear h3 hF3 hs3))
      try go_frame
      exact bodyPost_ret (v := cnV (cntL l)) (results_Cn rfl _ _ w.heap.size (cntL l) (cntL_length l) rfl H3.out) rfl ⟨rfl, (HC.out.fr.trans (HF3.out.mono (S := fun i => w.heap.size ≤ i) (fun i _ e => by omega)) (fun _ hi e => absurd hi (by omega)))⟩
theorem sh_le (l : List Int) : ∀ n, shN l n ≤ l.length
  | n => by
    induction l with
    | nil => rw [sh_nil]; exact Nat.le_refl _
    | cons x l ih =>
      rw [sh_cons, List.length_cons]
      split <;> omega
theorem box_fr {w : World} {o : Obj} : Fr (fun _ => False) w (w.alloc o) := (Fr.refl _ w).alloc _
set_option maxHeartbeats 2000000 in
theorem pall (w : World) (l : List Int) (hb : l.length ≤ 140737488351232) :
    Calls Tryz.prog 129 #[cnV (cntL l)] w fun e w' => e = .returned (.int .i64 (shN l 16 : Nat)) ∧ Fr (fun _ => False) w w' := by
  have HB := Lib.hid (heap_alloc_new w (.cells (is (cntL l)).toArray 153))
  have HF := Lib.hid (box_fr (w := w) (o := .cells (is (cntL l)).toArray 153))
  have HC := Lib.hid (cntL_length l)
  obtain ⟨z, hz⟩ : ∃ z, z = shN l 16 := ⟨_, rfl⟩
  have HZ := Lib.hid hz
  rw [← hz]
  clear hz
  go_enter Tryz.func129, Tryz.ntmps129
  go_wp2_with (first
    | ((with_reducible refine wpList_boxCn ?_ (.tmp 0) ?_ (cntL l) ?_ ?_); (exact rfl); (exact rfl); (exact rfl))
    | ((with_reducible refine wpList_loadCn ?_ (.tmp 1) ?_ w.heap.size (cntL l) HC.out ?_ HB.out ?_); (exact rfl); (exact rfl); (exact rfl)))
  go_loop [3, 5, 7] (fun s _ i => ∃ k c : Nat, k ≤ 16 ∧ s = .int .i64 c ∧ i = .int .i64 k ∧ Hid (c = shN l k)) (fun _ _ i => 16 - (intOf i).toNat)
  case atStart => exact ⟨0, 0, by omega, rfl, rfl, (show _ = _ from rfl)⟩
  case round =>
    obtain ⟨k, c, hk, rfl, rfl, HS⟩ := hrel
    by_cases hlt : k < 16
    · have HG := Lib.hid (cntL_get l hlt)
      obtain ⟨d, hd⟩ : ∃ d, d = cn l k := ⟨_, rfl⟩
      have HN := Lib.hid (show c + d = shN l (k + 1) by rw [shN, HS.out, hd])
      have hle : c + d ≤ 140737488351232 := by rw [HN.out]; exact Nat.le_trans (sh_le l (k + 1)) hb
      rw [← hd] at HG
      clear hd
      go_wp2_with ((with_reducible refine wpList_indexCn ?_ (.tmp 6) (.tmp 7) ?_ (cntL l) HC.out k (d : Int) HG.out ?_ ?_ ?_); (exact rfl); (exact rfl); (exact rfl); (exact rfl))
      go_round
      case rel => exact ⟨k + 1, c + d, by omega, by go_num, by go_num, HN⟩
      case measure => simp [intOf]; omega
    · obtain rfl : k = 16 := by omega
      go_wp2_with fail
      go_ret
      exact ⟨by rw [HZ.out, ← HS.out]; rfl, HF.out⟩
set_option maxHeartbeats 2000000 in
theorem pleft (w : World) (l : List Int) (hb : l.length ≤ 140737488351232) :
    Calls Tryz.prog 140 #[cnV (cntL l)] w fun e w' => e = .returned (.int .i64 (roomI l)) ∧ Fr (fun _ => False) w w' := by
  have HB := Lib.hid (heap_alloc_new w (.cells (is (cntL l)).toArray 153))
  have HF := Lib.hid (box_fr (w := w) (o := .cells (is (cntL l)).toArray 153))
  have HC := Lib.hid (cntL_length l)
  obtain ⟨z, hz⟩ : ∃ z, z = roomI l := ⟨_, rfl⟩
  have HZ := Lib.hid hz
  rw [← hz]
  clear hz
  go_enter Tryz.func140, Tryz.ntmps140
  go_wp2_with (first
    | ((with_reducible refine wpList_boxCn ?_ (.tmp 0) ?_ (cntL l) ?_ ?_); (exact rfl); (exact rfl); (exact rfl))
    | ((with_reducible refine wpList_loadCn ?_ (.tmp 1) ?_ w.heap.size (cntL l) HC.out ?_ HB.out ?_); (exact rfl); (exact rfl); (exact rfl)))
  go_loop [3, 4, 5, 7] (fun s _ _ i => ∃ (k : Nat) (c : Int), k ≤ 16 ∧ s = .int .i64 c ∧ i = .int .i64 k ∧ Hid (c = leftI l k)) (fun _ _ _ i => 16 - (intOf i).toNat)
  case atStart => exact ⟨0, 32768, by omega, rfl, rfl, (show _ = _ from rfl)⟩
  case round =>
    obtain ⟨k, c, hk, rfl, rfl, HS⟩ := hrel
    by_cases hlt : k < 16
    · have HG := Lib.hid (cntL_get l hlt)
      obtain ⟨d, hd⟩ : ∃ d, d = cn l k := ⟨_, rfl⟩
      obtain ⟨m, hm⟩ : ∃ m : Nat, m = 15 - k := ⟨_, rfl⟩
      have HN := Lib.hid (show c - (d : Int) * 2 ^ m = leftI l (k + 1) by rw [leftI, HS.out, hd, hm])
      have h1 := left_in k l
      have h2 := left_in (k + 1) l
      rw [← HN.out] at h2
      rw [← HS.out] at h1
      have hm2 : (15 : Int) - (k : Int) = (m : Int) := by omega
      rw [← hd] at HG
      clear hd hm
      go_wp2_with ((with_reducible refine wpList_indexCn ?_ (.tmp 6) (.tmp 7) ?_ (cntL l) HC.out k (d : Int) HG.out ?_ ?_ ?_); (exact rfl); (exact rfl); (exact rfl); (exact rfl))
      go_round
      case rel => exact ⟨k + 1, c - (d : Int) * 2 ^ m, by omega, by go_num, by go_num, HN⟩
      case measure => simp [intOf]; omega
    · obtain rfl : k = 16 := by omega
      go_wp2_with fail
      go_ret
      exact ⟨by rw [HZ.out, ← left_all, ← HS.out]; rfl, HF.out⟩
end Go.Proofs.YtcdhakfmljjaoaaGreatDoor.cd

/-
  The program's counts: reach, mayBe; levels: next, begins.
-/


namespace Go.Proofs.YtcdhakfmljjaoaaGreatDoor.cd
set_option maxRecDepth 100000
open Go.RowKit Go.Maps Go.Proofs.YtcdhakfmljjaoaaGreatDoor.fl
set_option maxRecDepth 100000

set_option maxHeartbeats 2000000 in
theorem preach (w : World) (l : List Int) (hi : inB l = true) :
    Calls Tryz.prog 128 #[cnV (cntL l)] w fun e w' => e = .returned (.int .i64 (mostW (wordsL l) : Nat)) ∧ Fr (fun _ => False) w w' := by
  have HB := Lib.hid (heap_alloc_new w (.cells (is (cntL l)).toArray 153))
  have HF := Lib.hid (box_fr (w := w) (o := .cells (is (cntL l)).toArray 153))
  have HI := Lib.hid hi
  obtain ⟨z, hz⟩ : ∃ z, z = mostW (wordsL l) := ⟨_, rfl⟩
  have HZ := Lib.hid hz
  rw [← hz]
  clear hz hi
  go_enter Tryz.func128, Tryz.ntmps128
  go_wp2_with ((with_reducible refine wpList_boxCn ?_ (.tmp 0) ?_ (cntL l) ?_ ?_); (exact rfl); (exact rfl); (exact rfl))
  obtain ⟨w1, hw1⟩ : ∃ w1, w1 = w.alloc (.cells (is (cntL l)).toArray 153) := ⟨_, rfl⟩
  rw [← hw1] at HB HF ⊢
  clear hw1
  go_loop [3] (fun i => ∃ k : Nat, 1 ≤ k ∧ k ≤ 15 ∧ i = .int .i64 k ∧ Hid (∀ m, k < m → m ≤ 15 → cn l m = 0)) (fun i => (intOf i).toNat)
  case atStart => exact ⟨15, by omega, by omega, rfl, (show ∀ _, _ from fun m h1 h2 => by omega)⟩
  case round =>
    obtain ⟨k, hk1, hk2, rfl, HS⟩ := hrel
    by_cases h1 : k = 1
    · have HE := Lib.hid (reach_most HI.out (n := k) hk1 hk2 HS.out (Or.inl h1))
      subst h1
      go_wp2_with fail
      go_ret
      exact ⟨by rw [HZ.out, HE.out]; rfl, HF.out⟩
    · have c0 : w1.cell? ⟨w.heap.size, k, none⟩ = some (.int .i64 (cn l k : Int)) := by rw [cellAt HB.out, List.getElem?_toArray, is_get, cntL_get _ (by omega)]; rfl
      have hgt : ¬ ((k : Int) ≤ 1) := by omega
      by_cases h2 : cn l k = 0
      · have HN := Lib.hid (show ∀ m, k - 1 < m → m ≤ 15 → cn l m = 0 from fun m h3 h4 => by
          by_cases e : m = k
          · rw [e]; exact h2
          · exact HS.out m (by omega) h4)
        rw [h2] at c0
        have e1 : (k : Int) - 1 = ((k - 1 : Nat) : Int) := by omega
        go_wp2_with fail
        go_round
        case rel => exact ⟨k - 1, by omega, by omega, by go_num, HN⟩
        case measure => simp [intOf]; omega
      · have HE := Lib.hid (reach_most HI.out (n := k) hk1 hk2 HS.out (Or.inr h2))
        obtain ⟨d, hd⟩ : ∃ d, d = cn l k := ⟨_, rfl⟩
        rw [← hd] at c0 h2
        clear hd
        have hne : ((d : Int) == 0) = false := by simpa using h2
        go_wp2_with fail
        go_ret
        exact ⟨by rw [HZ.out, HE.out]; rfl, HF.out⟩
/-- May there be so many codes? -/
def mayI (l : List Int) : Bool := decide (roomI l = 0) || decide (shN l 16 = 0) || decide (shN l 16 = 1) && decide (cn l 1 = 1)
theorem may_ok {l : List Int} (h1 : l.length ≤ 288) (h2 : inB l = true) : mayI l = okB l := by
  have hs := sh_all l h2
  have hc := cn_pos l (Nat.le_refl 1)
  unfold mayI
  rw [hs, hc]
  by_cases h : okB l = true
  · rw [h]
    obtain ⟨_, _, h3⟩ := (okB_iff l).1 h
    rcases h3 with h3 | ⟨_, h4, h5⟩
    · rw [decide_eq_true h3]; rfl
    · rcases Nat.eq_zero_or_pos (codesN l) with h6 | h6
      · rw [decide_eq_true h6, Bool.or_true]; rfl
      · have h7 : codesN l = 1 := by omega
        have h8 : cnt l 1 = 1 := by omega
        rw [decide_eq_true h7, decide_eq_true h8, Bool.and_true, Bool.or_true]
  · have h9 : okB l = false := by simpa using h
    rw [h9]
    apply Decidable.byContradiction
    intro hn
    apply h
    rw [okB_iff]
    refine ⟨h1, (inB_iff l).1 h2, ?_⟩
    have hk : ∀ x ∈ l, ¬ (0 < x) → usedI x = 0 := fun x _ hx => by unfold usedI; rw [if_neg (by omega)]
    by_cases hr : roomI l = 0
    · exact Or.inl hr
    · right
      rw [decide_eq_false hr, Bool.false_or] at hn
      have h10 : codesN l = 0 ∨ codesN l = 1 ∧ cnt l 1 = 1 := by
        by_cases e : codesN l = 0
        · exact Or.inl e
        · rw [decide_eq_false e, Bool.false_or] at hn
          right
          simpa using hn
      have hle : cnt l 1 ≤ codesN l := by
        have := sh_mono l 2 14
        rw [hs] at this
        have e2 : shN l 2 = cnt l 1 := by
          show 0 + cn l 0 + cn l 1 = _
          rw [hc]
          unfold cn
          simp
        omega
      refine ⟨?_, by omega, by omega⟩
      have hu : ∀ l : List Int, (∀ x ∈ l, 0 ≤ x ∧ x ≤ 15) → usedS l ≤ 16384 * (codesN l : Int) := by
        intro l
        induction l with
        | nil => intro _; simp [usedS, codesN]
        | cons x l ih =>
          intro hx
          have h11 := ih (fun y hy => hx y (by simp [hy]))
          have h12 : codesN (x :: l) = codesN l + if 0 < x then 1 else 0 := by
            unfold codesN
            rw [List.countP_cons]
            congr 1
            by_cases e : 0 < x
            · rw [if_pos (by simpa using e), if_pos e]
            · rw [if_neg (by simpa using e), if_neg e]
          rw [usedS, h12]
          unfold usedI
          by_cases e : 0 < x
          · have := hx x (by simp)
            rw [if_pos (by omega), if_pos e]
            have h13 : (2 : Int) ^ (15 - x.toNat) ≤ 2 ^ 14 := by exact_mod_cast Nat.pow_le_pow_right (n := 2) (by omega) (by omega : 15 - x.toNat ≤ 14)
            omega
          · rw [if_neg (by omega), if_neg e]
            omega
      have := hu l ((inB_iff l).1 h2)
      unfold roomI at hr ⊢
      omega
/-- What mayBe asks. -/
structure MayA (w : World) (l : List Int) (r : Int) (s d : Nat) : Prop where
  left : ∀ w, Calls Tryz.prog 140 #[cnV (cntL l)] w fun e w' => e = .returned (.int .i64 r) ∧ Fr (fun _ => False) w w'
  all : ∀ w, Calls Tryz.prog 129 #[cnV (cntL l)] w fun e w' => e = .returned (.int .i64 (s : Int)) ∧ Fr (fun _ => False) w w'
  keep : ∀ w', Fr (fun _ => False) (w.alloc (.cells (is (cntL l)).toArray 153)) w' → w'.heap[w.heap.size]? = some (.cells (is (cntL l)).toArray 153 (0, 0)) ∧ w'.cell? ⟨w.heap.size, 1, none⟩ = some (.int .i64 (d : Int))
theorem may_asks (w : World) (l : List Int) (hb : l.length ≤ 140737488351232) : MayA w l (roomI l) (shN l 16) (cn l 1) := ⟨fun w => pleft w l hb, fun w => pall w l hb, fun w' hF => by
  have hc1 : (is (cntL l)).toArray[1]? = some (.int .i64 (cn l 1 : Int)) := by rw [List.getElem?_toArray, is_get, cntL_get _ (by omega)]; rfl
  have h := (hF.block w.heap.size (by simp) id).trans (heap_alloc_new w _)
  exact ⟨h, (cellAt h 1).trans hc1⟩⟩
set_option maxHeartbeats 1000000 in
theorem may1 (w : World) (l : List Int) {s d : Nat} (H : MayA w l 0 s d)  : Calls Tryz.prog 127 #[cnV (cntL l)] w fun e w' => e = .returned (.bool true) ∧ Fr (fun _ => False) w w' := by
  have HH := Lib.hid H
  have HC := Lib.hid (cntL_length l)
  have HF := Lib.hid (box_fr (w := w) (o := .cells (is (cntL l)).toArray 153))
  have HR0 := Lib.hid (H.keep _ (Fr.refl _ _)).1
  clear H
  go_enter Tryz.func127, Tryz.ntmps127
  go_wp2_with (first
    | ((with_reducible refine wpList_boxCn ?_ (.tmp 0) ?_ (cntL l) ?_ ?_); (exact rfl); (exact rfl); (exact rfl))
    | ((with_reducible refine wpList_loadCn ?_ (.tmp 1) ?_ w.heap.size (cntL l) HC.out ?_ HR0.out ?_); (exact rfl); (exact rfl); (exact rfl))
    | (go_at_call 140; refine (HH.out.left _).mono ?_; rintro e w1 ⟨rfl, hF1⟩; have HF1 := Lib.hid hF1; have HR1 := Lib.hid (HH.out.keep _ hF1).1; clear hF1)
    | fail)
  go_ret
  exact ⟨rfl, HF.out.trans HF1.out (fun _ _ e => e)⟩
set_option maxHeartbeats 1000000 in
theorem may2 (w : World) (l : List Int) {r : Int} {d : Nat} (H : MayA w l r 0 d) (hr : (r == 0) = false) : Calls Tryz.prog 127 #[cnV (cntL l)] w fun e w' => e = .returned (.bool true) ∧ Fr (fun _ => False) w w' := by
  have HH := Lib.hid H
  have HC := Lib.hid (cntL_length l)
  have HF := Lib.hid (box_fr (w := w) (o := .cells (is (cntL l)).toArray 153))
  have HR0 := Lib.hid (H.keep _ (Fr.refl _ _)).1
  clear H
  go_enter Tryz.func127, Tryz.ntmps127
  go_wp2_with (first
    | ((with_reducible refine wpList_boxCn ?_ (.tmp 0) ?_ (cntL l) ?_ ?_); (exact rfl); (exact rfl); (exact rfl))
    | ((with_reducible refine wpList_loadCn ?_ (.tmp 1) ?_ w.heap.size (cntL l) HC.out ?_ HR0.out ?_); (exact rfl); (exact rfl); (exact rfl))
    | (go_at_call 140; refine (HH.out.left _).mono ?_; rintro e w1 ⟨rfl, hF1⟩; have HF1 := Lib.hid hF1; have HR1 := Lib.hid (HH.out.keep _ hF1).1; clear hF1)
    | ((with_reducible refine wpList_loadCnG (.tmp 1) ?_ w.heap.size (cntL l) HC.out ?_ ?_ HR1.out ?_); (exact rfl); (exact rfl); (exact rfl))
    | (go_at_call 129; refine (HH.out.all _).mono ?_; rintro e w2 ⟨rfl, hF2⟩; have HF2 := Lib.hid (HF1.out.trans hF2 (fun _ _ e => e)); clear hF2))
  go_ret
  exact ⟨rfl, HF.out.trans HF2.out (fun _ _ e => e)⟩
set_option maxHeartbeats 1000000 in
theorem may3 (w : World) (l : List Int) {r : Int} {d : Nat} (H : MayA w l r 1 d) (hr : (r == 0) = false) : Calls Tryz.prog 127 #[cnV (cntL l)] w fun e w' => e = .returned (.bool ((d : Int) == 1)) ∧ Fr (fun _ => False) w w' := by
  have HH := Lib.hid H
  have HC := Lib.hid (cntL_length l)
  have HF := Lib.hid (box_fr (w := w) (o := .cells (is (cntL l)).toArray 153))
  have HR0 := Lib.hid (H.keep _ (Fr.refl _ _)).1
  clear H
  go_enter Tryz.func127, Tryz.ntmps127
  go_wp2_with (first
    | ((with_reducible refine wpList_boxCn ?_ (.tmp 0) ?_ (cntL l) ?_ ?_); (exact rfl); (exact rfl); (exact rfl))
    | ((with_reducible refine wpList_loadCn ?_ (.tmp 1) ?_ w.heap.size (cntL l) HC.out ?_ HR0.out ?_); (exact rfl); (exact rfl); (exact rfl))
    | (go_at_call 140; refine (HH.out.left _).mono ?_; rintro e w1 ⟨rfl, hF1⟩; have HF1 := Lib.hid hF1; have HR1 := Lib.hid (HH.out.keep _ hF1).1; clear hF1)
    | ((with_reducible refine wpList_loadCnG (.tmp 1) ?_ w.heap.size (cntL l) HC.out ?_ ?_ HR3.out ?_); (exact rfl); (exact rfl); (exact rfl))
    | ((with_reducible refine wpList_loadCnG (.tmp 1) ?_ w.heap.size (cntL l) HC.out ?_ ?_ HR1.out ?_); (exact rfl); (exact rfl); (exact rfl))
    | ((fail_if_success (have := HR3)); go_at_call 129; refine (HH.out.all _).mono ?_; rintro e w2 ⟨rfl, hF2⟩; have HF2 := Lib.hid (HF1.out.trans hF2 (fun _ _ e => e)); have HR3 := Lib.hid (HH.out.keep _ HF2.out).1; clear hF2)
    | (go_at_call 129; refine (HH.out.all _).mono ?_; rintro e w3 ⟨rfl, hF3⟩; have HF3 := Lib.hid (HF2.out.trans hF3 (fun _ _ e => e)); have c1 := (HH.out.keep _ HF3.out).2; clear hF3))
  go_ret
  exact ⟨rfl, HF.out.trans HF3.out (fun _ _ e => e)⟩
set_option maxHeartbeats 1000000 in
theorem may4 (w : World) (l : List Int) {r : Int} {s d : Nat} (H : MayA w l r s d) (hr : (r == 0) = false) (hs : ((s : Int) == 0) = false) (hs1 : ((s : Int) == 1) = false) : Calls Tryz.prog 127 #[cnV (cntL l)] w fun e w' => e = .returned (.bool false) ∧ Fr (fun _ => False) w w' := by
  have HH := Lib.hid H
  have HC := Lib.hid (cntL_length l)
  have HF := Lib.hid (box_fr (w := w) (o := .cells (is (cntL l)).toArray 153))
  have HR0 := Lib.hid (H.keep _ (Fr.refl _ _)).1
  clear H
  go_enter Tryz.func127, Tryz.ntmps127
  go_wp2_with (first
    | ((with_reducible refine wpList_boxCn ?_ (.tmp 0) ?_ (cntL l) ?_ ?_); (exact rfl); (exact rfl); (exact rfl))
    | ((with_reducible refine wpList_loadCn ?_ (.tmp 1) ?_ w.heap.size (cntL l) HC.out ?_ HR0.out ?_); (exact rfl); (exact rfl); (exact rfl))
    | (go_at_call 140; refine (HH.out.left _).mono ?_; rintro e w1 ⟨rfl, hF1⟩; have HF1 := Lib.hid hF1; have HR1 := Lib.hid (HH.out.keep _ hF1).1; clear hF1)
    | ((with_reducible refine wpList_loadCnG (.tmp 1) ?_ w.heap.size (cntL l) HC.out ?_ ?_ HR3.out ?_); (exact rfl); (exact rfl); (exact rfl))
    | ((with_reducible refine wpList_loadCnG (.tmp 1) ?_ w.heap.size (cntL l) HC.out ?_ ?_ HR1.out ?_); (exact rfl); (exact rfl); (exact rfl))
    | ((fail_if_success (have := HR3)); go_at_call 129; refine (HH.out.all _).mono ?_; rintro e w2 ⟨rfl, hF2⟩; have HF2 := Lib.hid (HF1.out.trans hF2 (fun _ _ e => e)); have HR3 := Lib.hid (HH.out.keep _ HF2.out).1; clear hF2)
    | (go_at_call 129; refine (HH.out.all _).mono ?_; rintro e w3 ⟨rfl, hF3⟩; have HF3 := Lib.hid (HF2.out.trans hF3 (fun _ _ e => e)); have c1 := (HH.out.keep _ HF3.out).2; clear hF3))
  go_ret
  exact ⟨rfl, HF.out.trans HF3.out (fun _ _ e => e)⟩
theorem pmayBe (w : World) (l : List Int) (hb : l.length ≤ 140737488351232) :
    Calls Tryz.prog 127 #[cnV (cntL l)] w fun e w' => e = .returned (.bool (mayI l)) ∧ Fr (fun _ => False) w w' := by
  have H := may_asks w l hb
  unfold mayI
  obtain ⟨r, hr⟩ : ∃ r, r = roomI l := ⟨_, rfl⟩
  obtain ⟨s, hs⟩ : ∃ s, s = shN l 16 := ⟨_, rfl⟩
  obtain ⟨d, hd⟩ : ∃ d, d = cn l 1 := ⟨_, rfl⟩
  rw [← hr, ← hs, ← hd] at H ⊢
  clear hr hs hd
  by_cases h1 : r = 0
  · subst h1
    have := may1 w l H
    simpa using this
  have hr0 : (r == 0) = false := by simpa using h1
  rw [decide_eq_false h1, Bool.false_or]
  by_cases h2 : s = 0
  · subst h2
    have := may2 w l H hr0
    simpa using this
  have hs0 : ((s : Int) == 0) = false := by simpa using h2
  rw [decide_eq_false h2, Bool.false_or]
  by_cases h3 : s = 1
  · subst h3
    have := may3 w l H hr0
    have e : ((d : Int) == 1) = decide (d = 1) := by
      by_cases h4 : d = 1
      · subst h4; rfl
      · have : ((d : Int) == 1) = false := by rw [beq_eq_false_iff_ne]; omega
        rw [this, decide_eq_false h4]
    rw [e] at this
    rw [decide_eq_true rfl, Bool.true_and]
    exact this
  · have hs1 : ((s : Int) == 1) = false := by rw [beq_eq_false_iff_ne]; omega
    rw [decide_eq_false h3, Bool.false_and]
    exact may4 w l H hr0 hs0 hs1
set_option maxHeartbeats 2000000 in
theorem pnext (w : World) (a b c : Int) (ha : 0 ≤ a ∧ a ≤ 1000000) (hb : 0 ≤ b ∧ b ≤ 1000000) (hc : 0 ≤ c ∧ c ≤ 1000000) :
    Calls Tryz.prog 135 #[.agg #[.int .i64 a, .int .i64 b], .int .i64 c] w fun e w' => e = .returned (.agg #[.int .i64 ((a + c) * 2), .int .i64 (b + c)]) ∧ Fr (fun _ => False) w w' := by
  have HF := Lib.hid (show ∀ (u v : Obj), Fr (fun _ => False) w ((w.alloc u).alloc v) from fun u v => ((Fr.refl _ w).alloc u).alloc v)
  go_enter Tryz.func135, Tryz.ntmps135
  go_wp2_with fail
  exact bodyPost_ret (v := .agg #[.int .i64 ((a + c) * 2), .int .i64 (b + c)]) (results_cell_row rfl _ _ (w.heap.size + 1) 159 #[.int .i64 ((a + c) * 2), .int .i64 (b + c)] (0, 0) _ rfl (heap_alloc2_new _ _ _) Tryz.underlying159 rfl (by kernel_rfl)) rfl ⟨rfl, HF.out _ _⟩

/-- Where the codes of each length begin. -/
def lvL (l : List Int) (k : Nat) : List (Int × Int) := (List.range 16).map fun n => if n ≤ k then ((fiN l n : Int), (shN l n : Int)) else (0, 0)
theorem lvL_length (l : List Int) (k : Nat) : (lvL l k).length = 16 := by unfold lvL; simp
theorem lvL_get (l : List Int) (k : Nat) {n : Nat} (h : n < 16) : (lvL l k)[n]? = some (if n ≤ k then ((fiN l n : Int), (shN l n : Int)) else (0, 0)) := by
  unfold lvL
  rw [List.getElem?_map, List.getElem?_range h]
  rfl
theorem lvL_zero (l : List Int) : lvL l 0 = noL16 := by
  apply List.ext_getElem?
  intro i
  by_cases h : i < 16
  · rw [lvL_get l 0 h, List.getElem?_replicate, if_pos h]
    by_cases h0 : i = 0
    · subst h0; rfl
    · rw [if_neg (by omega)]
  · rw [List.getElem?_eq_none (by rw [lvL_length]; omega), List.getElem?_eq_none (by simp; omega)]
theorem lvL_next (l : List Int) {k : Nat} (_ : k < 15) : lvL l (k + 1) = (lvL l k).set (k + 1) ((((fiN l k : Int) + (cn l k : Int)) * 2, (shN l k : Int) + (cn l k : Int))) := by
  apply List.ext_getElem?
  intro i
  by_cases hi : i < 16
  · rw [lvL_get l _ hi]
    by_cases e : i = k + 1
    · subst e
      rw [List.getElem?_set_self (by rw [lvL_length]; omega), if_pos (Nat.le_refl _), fiN, shN]
      congr 2
      omega
    · rw [List.getElem?_set_ne (fun e2 => e e2.symm), lvL_get l _ hi]
      congr 1
      by_cases h2 : i ≤ k
      · rw [if_pos h2, if_pos (by omega)]
      · rw [if_neg h2, if_neg (by omega)]
  · rw [List.getElem?_eq_none (by rw [lvL_length]; omega), List.getElem?_eq_none (by rw [List.length_set, lvL_length]; omega)]
theorem fi_small {l : List Int} (h : okB l = true) {n : Nat} (hn : n ≤ 15) : fiN l n ≤ 65536 ∧ shN l n ≤ 288 ∧ cn l n ≤ 288 := by
  obtain ⟨h1, _, hr⟩ := (okB_iff l).1 h
  refine ⟨?_, Nat.le_trans (sh_le l n) h1, Nat.le_trans (cn_le l n) h1⟩
  cases n with
  | zero => rw [fiN]; omega
  | succ n =>
    rw [fi_succ]
    have h2 := lim_le (l := l) (by omega) (show n ≤ 15 by omega)
    have h3 : 2 ^ n ≤ 2 ^ 14 := Nat.pow_le_pow_right (by omega) (by omega)
    omega
theorem lvL_cells (l : List Int) (k : Nat) : (lvs (lvL l k)).length = 32 := by rw [lvs_length, lvL_length]
theorem noL16_cells : (lvs noL16).length = 32 := by rw [lvs_length]; rfl
/-- What lies there while the levels are told. -/
structure Bgn (w : World) (l : List Int) (k : Nat) (wr : World) : Prop where
  cnt : wr.heap[w.heap.size]? = some (.cells (is (cntL l)).toArray 153 (0, 0))
  res : wr.heap[w.heap.size + 1]? = some (.cells (lvs noL16).toArray 160 (0, 0))
  var : wr.heap[w.heap.size + 1 + 1]? = some (.cells (lvs (lvL l k)).toArray 160 (0, 0))
  fr : Fr (fun _ => False) w wr
  sz : w.heap.size + 3 ≤ wr.heap.size
theorem Bgn.start (w : World) (l : List Int) : Bgn w l 0 (((w.alloc (.cells (is (cntL l)).toArray 153)).alloc (.cells (lvs noL16).toArray 160)).alloc (.cells (lvs noL16).toArray 160)) := by
  refine ⟨?_, ?_, ?_, (((Fr.refl _ w).alloc _).alloc _).alloc _, by simp⟩
  · rw [Below.heap_alloc _ _ _ (by simp; omega)]
    exact heap_alloc2_old _ _ _
  · rw [Below.heap_alloc _ _ _ (by simp)]
    exact heap_alloc2_new _ _ _
  · rw [lvL_zero]
    have := heap_alloc_new ((w.alloc (.cells (is (cntL l)).toArray 153)).alloc (.cells (lvs noL16).toArray 160)) (.cells (lvs noL16).toArray 160)
    simpa using this
theorem Bgn.still {w wr w' : World} {l : List Int} {k : Nat} (h : Bgn w l k wr) (hF : Fr (fun _ => False) wr w') : Bgn w l k w' :=
  ⟨(hF.block _ (by have := h.sz; omega) id).trans h.cnt, (hF.block _ (by have := h.sz; omega) id).trans h.res, (hF.block _ (by have := h.sz; omega) id).trans h.var, h.fr.trans hF (fun _ _ e => e), Nat.le_trans h.sz hF.size⟩
theorem Bgn.at_ {w wr : World} {l : List Int} {k : Nat} (h : Bgn w l k wr) (hk : k < 15) : wr.cell? ⟨w.heap.size, k, none⟩ = some (.int .i64 (cn l k : Int)) ∧ wr.cell? ⟨w.heap.size + 1 + 1, k * 2, none⟩ = some (.int .i64 (fiN l k : Int)) ∧ wr.cell? ⟨w.heap.size + 1 + 1, k * 2 + 1, none⟩ = some (.int .i64 (shN l k : Int)) := by
  have h2 := lvs_get (lvL l k) k _ (lvL_get l k (by omega))
  rw [if_pos (Nat.le_refl _)] at h2
  refine ⟨?_, ?_, ?_⟩
  · rw [cellAt h.cnt, List.getElem?_toArray, is_get, cntL_get _ (by omega)]; rfl
  · rw [cellAt h.var, List.getElem?_toArray, Nat.mul_comm]; exact h2.1
  · rw [cellAt h.var, List.getElem?_toArray, Nat.mul_comm]; exact h2.2
theorem Bgn.put {w wr : World} {l : List Int} {k : Nat} (h : Bgn w l k wr) (hk : k < 15) :
    (∃ x y, wr.cell? ⟨w.heap.size + 1 + 1, (k + 1) * 2, none⟩ = some (.int .i64 x) ∧ wr.cell? ⟨w.heap.size + 1 + 1, (k + 1) * 2 + 1, none⟩ = some (.int .i64 y)) ∧ wr.frozen? ⟨w.heap.size + 1 + 1, (k + 1) * 2, none⟩ = false ∧ wr.frozen? ⟨w.heap.size + 1 + 1, (k + 1) * 2 + 1, none⟩ = false ∧
    Bgn w l (k + 1) ((wr.setCell ⟨w.heap.size + 1 + 1, (k + 1) * 2, none⟩ (.int .i64 (((fiN l k : Int) + (cn l k : Int)) * 2))).setCell ⟨w.heap.size + 1 + 1, (k + 1) * 2 + 1, none⟩ (.int .i64 ((shN l k : Int) + (cn l k : Int)))) := by
  have h2 := lvs_get (lvL l k) (k + 1) _ (lvL_get l k (by omega))
  rw [if_neg (by omega)] at h2
  refine ⟨⟨0, 0, ?_, ?_⟩, freeAt h.var _, freeAt h.var _, ?_, ?_, ?_, ?_, ?_⟩
  · rw [cellAt h.var, List.getElem?_toArray, Nat.mul_comm]; exact h2.1
  · rw [cellAt h.var, List.getElem?_toArray, Nat.mul_comm]; exact h2.2
  · rw [Below.heap_setCell _ _ _ _ (by simp; omega), Below.heap_setCell _ _ _ _ (by simp; omega)]
    exact h.cnt
  · rw [Below.heap_setCell _ _ _ _ (by simp), Below.heap_setCell _ _ _ _ (by simp)]
    exact h.res
  · rw [heap_setCell_same _ _ _ _ _ _ (heap_setCell_same _ _ _ _ _ _ h.var), lvL_next l hk, ← lvs_set, Nat.mul_comm 2]
    simp
  · exact (h.fr.setCell (p := ⟨w.heap.size + 1 + 1, (k + 1) * 2, none⟩) (Or.inr (by simp; omega)) _).setCell (p := ⟨w.heap.size + 1 + 1, (k + 1) * 2 + 1, none⟩) (Or.inr (by simp; omega)) _
  · simpa [World.setCell] using h.sz
theorem addr_ne {S o T p : Nat} (h : S ≠ T ∨ o ≠ p) : (⟨S, o, none⟩ : Addr) ≠ ⟨T, p, none⟩ := fun e => by cases e; omega
theorem keep3 {w : World} {S k : Nat} {c f s : Value} (h : w.cell? ⟨S, k, none⟩ = some c ∧ w.cell? ⟨S + 1 + 1, k * 2, none⟩ = some f ∧ w.cell? ⟨S + 1 + 1, k * 2 + 1, none⟩ = some s) (x y : Value) :
    ((w.setCell ⟨S + 1 + 1, (k + 1) * 2, none⟩ x).setCell ⟨S + 1 + 1, (k + 1) * 2 + 1, none⟩ y).cell? ⟨S, k, none⟩ = some c ∧ ((w.setCell ⟨S + 1 + 1, (k + 1) * 2, none⟩ x).setCell ⟨S + 1 + 1, (k + 1) * 2 + 1, none⟩ y).cell? ⟨S + 1 + 1, k * 2, none⟩ = some f ∧ ((w.setCell ⟨S + 1 + 1, (k + 1) * 2, none⟩ x).setCell ⟨S + 1 + 1, (k + 1) * 2 + 1, none⟩ y).cell? ⟨S + 1 + 1, k * 2 + 1, none⟩ = some s := by
  obtain ⟨h1, h2, h3⟩ := h
  refine ⟨?_, ?_, ?_⟩
  · rw [World.cell?_setCell_other _ _ _ _ (addr_ne (by omega)), World.cell?_setCell_other _ _ _ _ (addr_ne (by omega))]; exact h1
  · rw [World.cell?_setCell_other _ _ _ _ (addr_ne (by omega)), World.cell?_setCell_other _ _ _ _ (addr_ne (by omega))]; exact h2
  · rw [World.cell?_setCell_other _ _ _ _ (addr_ne (by omega)), World.cell?_setCell_other _ _ _ _ (addr_ne (by omega))]; exact h3
set_option maxHeartbeats 4000000 in
theorem pbegins (w : World) (l : List Int) (h : okB l = true) :
    Calls Tryz.prog 130 #[cnV (cntL l)] w fun e w' => e = .returned (lvV (lvL l 15)) ∧ Fr (fun _ => False) w w' := by
  have HS := Lib.hid (Bgn.start w l)
  have HK := Lib.hid (fun n (hn : n ≤ 15) => fi_small h hn)
  clear h
  go_enter Tryz.func130, Tryz.ntmps130
  go_wp2_with (first
    | ((with_reducible refine wpList_boxCn ?_ (.tmp 0) ?_ (cntL l) ?_ ?_); (exact rfl); (exact rfl); (exact rfl))
    | ((with_reducible refine wpList_allocLv ?_ ?_ ?_); (exact rfl); (exact rfl)))
  go_loopw [4, 5] (fun _ i wr => ∃ k : Nat, k ≤ 15 ∧ i = .int .i64 k ∧ Hid (Bgn w l k wr)) (fun _ i _ => 15 - (intOf i).toNat)
  case atStart => exact ⟨0, Nat.zero_le _, rfl, HS⟩
  case round =>
    obtain ⟨k, hk, rfl, HC⟩ := hrel
    by_cases hlt : k < 15
    · obtain ⟨c0, c1, c2⟩ := HC.out.at_ hlt
      have hs := HK.out k hk
      obtain ⟨f, hf⟩ : ∃ f, f = fiN l k := ⟨_, rfl⟩
      obtain ⟨s, hsh⟩ : ∃ s, s = shN l k := ⟨_, rfl⟩
      obtain ⟨c, hc⟩ : ∃ c, c = cn l k := ⟨_, rfl⟩
      have HP := Lib.hid (show ∀ w', Fr (fun _ => False) wr w' → (∃ x y, w'.cell? ⟨w.heap.size + 1 + 1, (k + 1) * 2, none⟩ = some (.int .i64 x) ∧ w'.cell? ⟨w.heap.size + 1 + 1, (k + 1) * 2 + 1, none⟩ = some (.int .i64 y)) ∧ w'.frozen? ⟨w.heap.size + 1 + 1, (k + 1) * 2, none⟩ = false ∧ w'.frozen? ⟨w.heap.size + 1 + 1, (k + 1) * 2 + 1, none⟩ = false ∧
        Bgn w l (k + 1) ((w'.setCell ⟨w.heap.size + 1 + 1, (k + 1) * 2, none⟩ (.int .i64 (((f : Int) + (c : Int)) * 2))).setCell ⟨w.heap.size + 1 + 1, (k + 1) * 2 + 1, none⟩ (.int .i64 ((s : Int) + (c : Int)))) from fun w' hF => by
        rw [hf, hsh, hc]; exact (HC.out.still hF).put hlt)
      have HN := Lib.hid (fun wx => pnext wx (f : Int) (s : Int) (c : Int) (by omega) (by omega) (by omega))
      rw [← hf] at c1
      rw [← hsh] at c2
      rw [← hc] at c0
      clear hf hsh hc hs
      have HE := Lib.hid (show ∀ w', Fr (fun _ => False) wr w' → w'.cell? ⟨w.heap.size, k, none⟩ = some (.int .i64 (c : Int)) ∧ w'.cell? ⟨w.heap.size + 1 + 1, k * 2, none⟩ = some (.int .i64 (f : Int)) ∧ w'.cell? ⟨w.heap.size + 1 + 1, k * 2 + 1, none⟩ = some (.int .i64 (s : Int)) from fun w' hF => by
        have hz := HC.out.sz
        exact ⟨(World.cell?_of_block (w := wr) (w' := w') (a := ⟨w.heap.size, k, none⟩) (hF.block w.heap.size (by omega) id)).trans c0, (World.cell?_of_block (w := wr) (w' := w') (a := ⟨w.heap.size + 1 + 1, k * 2, none⟩) (hF.block (w.heap.size + 1 + 1) (by omega) id)).trans c1, (World.cell?_of_block (w := wr) (w' := w') (a := ⟨w.heap.size + 1 + 1, k * 2 + 1, none⟩) (hF.block (w.heap.size + 1 + 1) (by omega) id)).trans c2⟩)
      have HD := Lib.hid ((Fr.refl (fun _ => False) wr).drew)
      have hk0 : (0 : Int) ≤ k := by omega
      have hk16 : (k : Int) < 16 := by omega
      have hj0 : (0 : Int) ≤ (k : Int) + 1 := by omega
      have hj16 : (k : Int) + 1 < 16 := by omega
      have hwr : IntKind.i64.wrap ((k : Int) + 1) = (k : Int) + 1 := IntWalk.i64_in _ (by omega)
      clear c0 c1 c2
      go_wp2_with fail
      go_region_held3 (fun w' => w'.cell? ⟨w.heap.size, k, none⟩ = some (.int .i64 (c : Int)) ∧ w'.cell? ⟨w.heap.size + 1 + 1, k * 2, none⟩ = some (.int .i64 (f : Int)) ∧ w'.cell? ⟨w.heap.size + 1 + 1, k * 2 + 1, none⟩ = some (.int .i64 (s : Int)))
        (first
          | exact HE.out _ HD.out
          | exact HE.out _ H7.out
          | exact HE7.out _ _)
        (first
          | (go_at_call 135; (refine (HN.out _).mono ?_); rintro e w7 ⟨rfl, hF7⟩; have H7 := Lib.hid (HD.out.trans hF7 (fun _ _ e => e)); obtain ⟨⟨x, y, q0, q1⟩, g0, g1, hb7⟩ := HP.out w7 H7.out; have HB7 := Lib.hid hb7; have HE7 := Lib.hid (fun (x y : Value) => keep3 (HE.out w7 H7.out) x y); clear hF7 hb7))
      all_goals trace_state
      all_goals
        go_wp2_with fail
        go_roundw
        case rel => exact ⟨k + 1, by omega, by go_num, HB7⟩
        case measure => simp [intOf]; omega
    · obtain rfl : k = 15 := by omega
      have HB := Lib.hid HC.out.var
      have HR := Lib.hid HC.out.res
      go_wp2_with (first
        | ((with_reducible refine wpList_loadLv ?_ (.tmp 3) ?_ (w.heap.size + 1 + 1) (lvL l 15) (lvL_length l 15) ?_ HB.out ?_); (exact rfl); (exact rfl); (exact rfl))
        | ((with_reducible refine wpList_storeA infoLv ?_ (.tmp 2) (.tmp 19) ?_ (w.heap.size + 1) (lvs (lvL l 15)) (lvs noL16) (lvL_cells l 15) noL16_cells (lvs_one _) ?_ ?_ HR.out ?_); (exact rfl); (exact rfl); (exact rfl); (exact rfl); intro w3 h3 hF3 hs3; have H3 := Lib.hid h3; have HF3 := Lib.hid hF3; clear h3 hF3 hs3))
      try go_frame
      exact bodyPost_ret (v := lvV (lvL l 15)) (results_Lv rfl _ _ (w.heap.size + 1) (lvL l 15) (lvL_length l 15) rfl H3.out) rfl ⟨rfl, (HC.out.fr.trans (HF3.out.mono (S := fun i => w.heap.size ≤ i) (fun i _ e => by omega)) (fun _ hi e => absurd hi (by omega)))⟩
end Go.Proofs.YtcdhakfmljjaoaaGreatDoor.cd
