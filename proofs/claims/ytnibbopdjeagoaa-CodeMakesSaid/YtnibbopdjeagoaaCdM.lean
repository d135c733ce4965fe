/-
  Codes of unequal length (mathematics): their words; none begins another; what is read.
-/
import Derived.Test.YtnibbopdjeagoaaFlX
namespace Go.Proofs.Ytnibbopdjeagoaa.cd
set_option maxRecDepth 100000
open Go.Proofs.Ytnibbopdjeagoaa.fl

/-- How many symbols have a code of n bits. -/
def cnt (l : List Int) (n : Nat) : Nat := l.count (n : Int)
/-- How many words of n bits begin with a code. -/
def lim (l : List Int) : Nat → Nat
  | 0 => 0
  | n + 1 => 2 * lim l n + cnt l (n + 1)
/-- A symbol's length, and its word. -/
def lenN (l : List Int) (i : Nat) : Nat := ((l[i]?).getD 0).toNat
def wordN (l : List Int) (i : Nat) : Nat := 2 * lim l (lenN l i - 1) + cnt (l.take i) (lenN l i)
def wordB (l : List Int) (i : Nat) : List Int := (lowI (wordN l i : Int) (lenN l i)).reverse
def wordsL (l : List Int) : List (List Int) := (List.range l.length).map (wordB l)
/-- What a length uses of the room. -/
def usedI (x : Int) : Int := if 1 ≤ x ∧ x ≤ 15 then 2 ^ (15 - x.toNat) else 0
def usedS : List Int → Int
  | [] => 0
  | x :: r => usedI x + usedS r
def roomI (l : List Int) : Int := 32768 - usedS l
def codesN (l : List Int) : Nat := l.countP fun x => decide (0 < x)
def inB (l : List Int) : Bool := l.all fun x => decide (0 ≤ x) && decide (x ≤ 15)
def okB (l : List Int) : Bool := decide (l.length ≤ 288) && inB l && (decide (roomI l = 0) || decide (0 < roomI l) && decide (codesN l ≤ 1) && decide (codesN l = cnt l 1))
def chkI (l : List Int) : Int := if okB l = true then 0 else 100

theorem inB_iff (l : List Int) : inB l = true ↔ ∀ x ∈ l, 0 ≤ x ∧ x ≤ 15 := by
  unfold inB
  simp
theorem inB_append (a b : List Int) : inB (a ++ b) = (inB a && inB b) := by unfold inB; rw [List.all_append]
theorem okB_iff (l : List Int) : okB l = true ↔ l.length ≤ 288 ∧ (∀ x ∈ l, 0 ≤ x ∧ x ≤ 15) ∧ (roomI l = 0 ∨ 0 < roomI l ∧ codesN l ≤ 1 ∧ codesN l = cnt l 1) := by
  unfold okB
  rw [Bool.and_eq_true, Bool.and_eq_true, inB_iff]
  simp [and_assoc]
theorem chk_ok (l : List Int) (h : chkI l = 0) : okB l = true := by
  unfold chkI at h
  by_cases hb : okB l = true
  · exact hb
  · rw [if_neg hb] at h
    cases h
theorem usedS_append : ∀ a b : List Int, usedS (a ++ b) = usedS a + usedS b
  | [], b => by simp [usedS]
  | x :: a, b => by rw [List.cons_append, usedS, usedS, usedS_append a b, Int.add_assoc]

theorem cnt_append (a b : List Int) (n : Nat) : cnt (a ++ b) n = cnt a n + cnt b n := by unfold cnt; rw [List.count_append]
theorem cnt_cons (x : Int) (l : List Int) (n : Nat) : cnt (x :: l) n = cnt l n + if x = n then 1 else 0 := by
  unfold cnt
  rw [List.count_cons]
  by_cases h : x = (n : Int)
  · simp [h]
  · rw [if_neg h, if_neg (by simpa using h)]
theorem cnt_take_succ {l : List Int} {i : Nat} {x : Int} (h : l[i]? = some x) (n : Nat) : cnt (l.take (i + 1)) n = cnt (l.take i) n + if x = n then 1 else 0 := by
  rw [List.take_add_one, h, cnt_append]
  congr 1
  show cnt [x] n = _
  rw [cnt_cons]
  unfold cnt
  simp
theorem cnt_take_le (l : List Int) (i n : Nat) : cnt (l.take i) n ≤ cnt l n := by
  have h : cnt (l.take i ++ l.drop i) n = cnt (l.take i) n + cnt (l.drop i) n := cnt_append _ _ _
  rw [List.take_append_drop] at h
  omega
theorem cnt_take_lt {l : List Int} {i : Nat} {n : Nat} (h : l[i]? = some (n : Int)) : cnt (l.take i) n < cnt l n := by
  have h1 := cnt_take_succ h n
  rw [if_pos rfl] at h1
  have := cnt_take_le l (i + 1) n
  omega
theorem cnt_take_mono (l : List Int) {i j : Nat} (h : i ≤ j) (n : Nat) : cnt (l.take i) n ≤ cnt (l.take j) n := by
  have := cnt_take_le (l.take j) i n
  rwa [List.take_take, Nat.min_eq_left h] at this
/-- Two symbols of one length have different ranks. -/
theorem rank_inj {l : List Int} {i j : Nat} {n : Nat} (hi : l[i]? = some (n : Int)) (hj : l[j]? = some (n : Int)) (h : cnt (l.take i) n = cnt (l.take j) n) : i = j := by
  have h1 := cnt_take_succ hi n
  have h2 := cnt_take_succ hj n
  rw [if_pos rfl] at h1 h2
  rcases Nat.lt_trichotomy i j with hlt | he | hlt
  · have := cnt_take_mono l (show i + 1 ≤ j from hlt) n
    omega
  · exact he
  · have := cnt_take_mono l (show j + 1 ≤ i from hlt) n
    omega
/-- Each rank is some symbol's. -/
theorem rank_find (l : List Int) (n : Nat) : ∀ k, ∀ r, r < cnt (l.take k) n → ∃ i, i < k ∧ l[i]? = some (n : Int) ∧ cnt (l.take i) n = r
  | 0, r, h => by
    rw [List.take_zero] at h
    simp [cnt] at h
  | k + 1, r, h => by
    by_cases hr : r < cnt (l.take k) n
    · obtain ⟨i, h1, h2, h3⟩ := rank_find l n k r hr
      exact ⟨i, by omega, h2, h3⟩
    · cases hk : l[k]? with
      | none =>
        rw [List.take_of_length_le (by have := List.getElem?_eq_none_iff.1 hk; omega)] at h
        rw [List.take_of_length_le (List.getElem?_eq_none_iff.1 hk)] at hr
        omega
      | some x =>
        rw [cnt_take_succ hk] at h
        by_cases hx : x = (n : Int)
        · rw [if_pos hx] at h
          exact ⟨k, by omega, by rw [hk, hx], by omega⟩
        · rw [if_neg hx] at h
          omega
theorem rank_find' (l : List Int) (n r : Nat) (h : r < cnt l n) : ∃ i, l[i]? = some (n : Int) ∧ cnt (l.take i) n = r := by
  obtain ⟨i, _, h2, h3⟩ := rank_find l n l.length r (by rwa [List.take_length])
  exact ⟨i, h2, h3⟩

theorem lim_nil : ∀ n, lim [] n = 0
  | 0 => rfl
  | n + 1 => by rw [lim, lim_nil n]; rfl
theorem lim_cons (x : Int) (l : List Int) : ∀ n, lim (x :: l) n = lim l n + if 1 ≤ x ∧ x ≤ n then 2 ^ (n - x.toNat) else 0
  | 0 => by rw [if_neg (by omega)]; rfl
  | n + 1 => by
    rw [lim, lim_cons x l n, lim, cnt_cons]
    by_cases h1 : 1 ≤ x ∧ x ≤ n
    · rw [if_pos h1, if_neg (by omega), if_pos (by omega), show n + 1 - x.toNat = (n - x.toNat) + 1 by omega, Nat.pow_succ]
      omega
    · rw [if_neg h1]
      by_cases h2 : x = ((n + 1 : Nat) : Int)
      · rw [if_pos h2, if_pos (by omega), show n + 1 - x.toNat = 0 by omega]
        omega
      · rw [if_neg h2, if_neg (by omega)]
        omega
theorem lim_used : ∀ l : List Int, (lim l 15 : Int) = usedS l
  | [] => by rw [lim_nil]; rfl
  | x :: l => by
    rw [lim_cons, usedS, Int.natCast_add, lim_used l, usedI]
    by_cases h : 1 ≤ x ∧ x ≤ 15
    · rw [if_pos (by omega), if_pos h]
      rw [Int.natCast_pow]
      exact Int.add_comm _ _
    · rw [if_neg (by omega), if_neg h]
      omega
theorem lim_grows (l : List Int) (n : Nat) : ∀ k, lim l n * 2 ^ k ≤ lim l (n + k)
  | 0 => by simp
  | k + 1 => by
    have ih := lim_grows l n k
    rw [show n + (k + 1) = (n + k) + 1 by omega, lim, Nat.pow_succ, ← Nat.mul_assoc]
    omega
theorem lim_le {l : List Int} (h : 0 ≤ roomI l) {n : Nat} (hn : n ≤ 15) : lim l n ≤ 2 ^ n := by
  have h1 := lim_grows l n (15 - n)
  rw [show n + (15 - n) = 15 by omega] at h1
  have h2 : lim l 15 ≤ 2 ^ 15 := by
    have := lim_used l
    unfold roomI at h
    have h3 : (lim l 15 : Int) ≤ 32768 := by omega
    have h4 : lim l 15 ≤ 32768 := by omega
    exact h4
  have h3 : 2 ^ 15 = 2 ^ n * 2 ^ (15 - n) := by rw [← Nat.pow_add, show n + (15 - n) = 15 by omega]
  have h4 : lim l n * 2 ^ (15 - n) ≤ 2 ^ n * 2 ^ (15 - n) := by omega
  exact Nat.le_of_mul_le_mul_right h4 (Nat.two_pow_pos _)

/-- A symbol with a code. -/
def Has (l : List Int) (i : Nat) (n : Nat) : Prop := l[i]? = some (n : Int) ∧ 1 ≤ n
theorem Has.len {l : List Int} {i n : Nat} (h : Has l i n) : lenN l i = n := by
  unfold lenN
  rw [h.1]
  rfl
theorem Has.word {l : List Int} {i n : Nat} (h : Has l i n) : wordN l i = 2 * lim l (n - 1) + cnt (l.take i) n := by
  unfold wordN
  rw [h.len]
theorem Has.lt {l : List Int} {i n : Nat} (h : Has l i n) : wordN l i < lim l n := by
  rw [h.word]
  have h1 := cnt_take_lt h.1
  obtain ⟨m, rfl⟩ : ∃ m, n = m + 1 := ⟨n - 1, by have := h.2; omega⟩
  rw [Nat.add_sub_cancel, lim]
  omega
theorem Has.ge {l : List Int} {i n : Nat} (h : Has l i n) : 2 * lim l (n - 1) ≤ wordN l i := by
  rw [h.word]
  omega
theorem Has.small {l : List Int} {i n : Nat} (hr : 0 ≤ roomI l) (hn : n ≤ 15) (h : Has l i n) : wordN l i < 2 ^ n := Nat.lt_of_lt_of_le h.lt (lim_le hr hn)
/-- Two symbols' words differ, however much of the longer one is looked at. -/
theorem apart {l : List Int} {i j n m : Nat} (hi : Has l i n) (hj : Has l j m) (hij : i ≠ j) (hnm : n ≤ m) : wordN l j / 2 ^ (m - n) ≠ wordN l i := by
  intro h
  rcases Nat.lt_or_ge n m with hlt | hge
  · have h1 := hj.ge
    have h2 := lim_grows l n (m - 1 - n)
    rw [show n + (m - 1 - n) = m - 1 by omega] at h2
    have h3 : lim l n * 2 ^ (m - n) ≤ wordN l j := by
      rw [show m - n = (m - 1 - n) + 1 by omega, Nat.pow_succ, ← Nat.mul_assoc]
      omega
    have h4 : lim l n ≤ wordN l j / 2 ^ (m - n) := (Nat.le_div_iff_mul_le (Nat.two_pow_pos _)).2 h3
    have := hi.lt
    omega
  · have e : m = n := by omega
    subst e
    rw [Nat.sub_self, Nat.pow_zero, Nat.div_one, hi.word, hj.word] at h
    exact hij (rank_inj hi.1 hj.1 (by omega))

/-- A number, highest bit first. -/
def valH (l : List Int) : Int := numI l.reverse
theorem valH_snoc (l : List Int) (x : Int) : valH (l ++ [x]) = 2 * valH l + x := by
  unfold valH
  rw [List.reverse_append]
  show numI (x :: l.reverse) = _
  rw [numI]
  omega
theorem wordB_length (l : List Int) (i : Nat) : (wordB l i).length = lenN l i := by unfold wordB; rw [List.length_reverse, lowI_length]
theorem wordB_bits (l : List Int) (i : Nat) : AllBit (wordB l i) := fun x hx => by
  unfold wordB at hx
  exact low_bits _ _ x (List.mem_reverse.1 hx)
theorem bits_rev {l : List Int} (h : AllBit l) : AllBit l.reverse := fun x hx => h x (List.mem_reverse.1 hx)
theorem valH_word {l : List Int} {i n : Nat} (hr : 0 ≤ roomI l) (hn : n ≤ 15) (h : Has l i n) : valH (wordB l i) = wordN l i := by
  unfold valH wordB
  rw [List.reverse_reverse, h.len, numI_low]
  have := h.small hr hn
  have h2 : ((wordN l i : Nat) : Int) < 2 ^ n := by exact_mod_cast this
  exact Int.emod_eq_of_lt (by omega) h2
/-- Bits are their number's. -/
theorem val_bits {g : List Int} (h : AllBit g) : g = (lowI (valH g) g.length).reverse := by
  have := low_num g.reverse (bits_rev h)
  rw [List.length_reverse] at this
  unfold valH
  rw [this, List.reverse_reverse]
theorem valH_in {g : List Int} (h : AllBit g) : 0 ≤ valH g ∧ valH g < 2 ^ g.length := by
  have := numI_in g.reverse (bits_rev h)
  rwa [List.length_reverse] at this
/-- What a number's beginning is worth. -/
theorem valH_append (a b : List Int) : valH (a ++ b) = valH a * 2 ^ b.length + valH b := by
  unfold valH
  rw [List.reverse_append, numI_append, List.length_reverse, Int.mul_comm]
  exact Int.add_comm _ _
theorem valH_begin {a b : List Int} (hb : AllBit b) : valH (a ++ b) / 2 ^ b.length = valH a := by
  have h := valH_in hb
  rw [valH_append, Int.add_comm, Int.add_mul_ediv_right _ _ (by have := Int.pow_pos (n := 2) (m := b.length) (by omega); omega), Int.ediv_eq_zero_of_lt h.1 h.2]
  omega

/-- The symbol of a word. -/
def isW (got w : List Int) : Bool := !w.isEmpty && decide (w = got)
def findW (W : List (List Int)) (got : List Int) : Option Nat := W.findIdx? (isW got)
theorem wordsL_get {l : List Int} {i : Nat} (h : i < l.length) : (wordsL l)[i]? = some (wordB l i) := by
  unfold wordsL
  rw [List.getElem?_map, List.getElem?_range h]
  rfl
theorem wordsL_length (l : List Int) : (wordsL l).length = l.length := by unfold wordsL; simp
theorem Has.at_ {l : List Int} {i n : Nat} (h : Has l i n) : i < l.length := (List.getElem?_eq_some_iff.1 h.1).1
theorem find_some {l : List Int} {got : List Int} {i : Nat} (h : findW (wordsL l) got = some i) : i < l.length ∧ wordB l i = got ∧ got ≠ [] := by
  unfold findW at h
  obtain ⟨hlt, h1, _⟩ := List.findIdx?_eq_some_iff_getElem.1 h
  rw [wordsL_length] at hlt
  have e : (wordsL l)[i] = wordB l i := by
    have := wordsL_get hlt
    rw [List.getElem?_eq_getElem (by rw [wordsL_length]; exact hlt)] at this
    exact Option.some.inj this
  rw [e] at h1
  unfold isW at h1
  simp at h1
  refine ⟨hlt, h1.2, ?_⟩
  rintro rfl
  exact h1.1 h1.2
theorem find_is {l : List Int} {i : Nat} (h : i < l.length) (hne : wordB l i ≠ []) : ∃ j, findW (wordsL l) (wordB l i) = some j := by
  cases hf : findW (wordsL l) (wordB l i) with
  | some j => exact ⟨j, rfl⟩
  | none =>
    unfold findW at hf
    have h1 := List.findIdx?_eq_none_iff.1 hf (wordB l i) (List.mem_of_getElem? (wordsL_get h))
    unfold isW at h1
    simp at h1
    exact absurd h1 hne
theorem word_has {l : List Int} (hr : ∀ x ∈ l, 0 ≤ x) {i : Nat} (h : i < l.length) (hne : wordB l i ≠ []) : Has l i (lenN l i) := by
  have h1 := List.getElem?_eq_getElem h
  have h2 := hr l[i] (List.getElem_mem h)
  have h3 : (lenN l i : Int) = l[i] := by
    unfold lenN
    rw [h1]
    simp
    omega
  refine ⟨by rw [h1, h3], ?_⟩
  apply Decidable.byContradiction
  intro hn
  apply hne
  have : (wordB l i).length = 0 := by rw [wordB_length]; omega
  exact List.eq_nil_of_length_eq_zero this
/-- A code's beginning is no other one. -/
theorem begin_eq {l : List Int} (h : okB l = true) {i s n : Nat} {suf : List Int} (hs : Has l s n) (hi : i < l.length) (hne : wordB l i ≠ []) (e : wordB l s = wordB l i ++ suf) : i = s := by
  obtain ⟨_, hb, hr⟩ := (okB_iff l).1 h
  have h0 : 0 ≤ roomI l := by omega
  have H1 := word_has (fun x hx => (hb x hx).1) hi hne
  have hin : lenN l i ≤ 15 := by
    have := (hb _ (List.mem_of_getElem? H1.1)).2
    omega
  have hsn : n ≤ 15 := by
    have := (hb _ (List.mem_of_getElem? hs.1)).2
    omega
  have hl : n = lenN l i + suf.length := by
    have := congrArg List.length e
    rw [wordB_length, List.length_append, wordB_length, hs.len] at this
    exact this
  apply Decidable.byContradiction
  intro hij
  apply apart H1 hs hij (by omega)
  have hsb : AllBit suf := fun x hx => wordB_bits l s x (by rw [e]; exact List.mem_append_right _ hx)
  have h2 := valH_begin (a := wordB l i) hsb
  rw [← e, valH_word h0 hsn hs, valH_word h0 hin H1] at h2
  have h3 : ((wordN l s / 2 ^ suf.length : Nat) : Int) = wordN l i := by
    rw [← h2]
    simp [Int.natCast_ediv, Int.natCast_pow]
  rw [show n - lenN l i = suf.length by omega]
  exact_mod_cast h3
theorem find_word {l : List Int} (h : okB l = true) {s n : Nat} (hs : Has l s n) : findW (wordsL l) (wordB l s) = some s := by
  have hne : wordB l s ≠ [] := fun e => by
    have := wordB_length l s
    rw [e, hs.len] at this
    have := hs.2
    simp at *
    omega
  obtain ⟨j, hj⟩ := find_is hs.at_ hne
  obtain ⟨h1, h2, h3⟩ := find_some hj
  rw [hj, begin_eq h hs h1 (by rw [h2]; exact hne) (suf := []) (by rw [h2, List.append_nil])]
theorem find_begin {l : List Int} (h : okB l = true) {s n : Nat} (hs : Has l s n) {got suf : List Int} (e : wordB l s = got ++ suf) (hsuf : suf ≠ []) : findW (wordsL l) got = none := by
  cases hf : findW (wordsL l) got with
  | none => rfl
  | some j =>
    obtain ⟨h1, h2, h3⟩ := find_some hf
    have e2 := begin_eq h hs h1 (by rw [h2]; exact h3) (suf := suf) (by rw [h2, e])
    subst e2
    rw [h2] at e
    exact absurd (List.append_cancel_left (show got ++ [] = got ++ suf by rw [List.append_nil]; exact e)).symm hsuf

/-- What is read from bit p on: a symbol, an error, and where the reader stands then. -/
def rdW (W : List (List Int)) (B : List Int) : Nat → List Int → Nat → Nat × Int × Nat
  | 0, _, p => (0, 110, p)
  | m + 1, got, p => match B[p]? with
    | none => (0, 7, p)
    | some x => match findW W (got ++ [x]) with
      | some i => (i, 0, p + 1)
      | none => rdW W B m (got ++ [x]) (p + 1)
def longW (W : List (List Int)) : Nat := W.foldl (fun n w => max n w.length) 0
def mostW (W : List (List Int)) : Nat := max 1 (longW W)
def rdC (l B : List Int) (p : Nat) : Nat × Int × Nat := rdW (wordsL l) B (mostW (wordsL l)) [] p
theorem long_from : ∀ (W : List (List Int)) (n : Nat), n ≤ W.foldl (fun n w => max n w.length) n ∧ ∀ w ∈ W, w.length ≤ W.foldl (fun n w => max n w.length) n
  | [], n => ⟨Nat.le_refl _, fun w hw => by cases hw⟩
  | v :: W, n => by
    have h := long_from W (max n v.length)
    rw [List.foldl_cons]
    refine ⟨by omega, fun w hw => ?_⟩
    rcases List.mem_cons.1 hw with rfl | hw
    · omega
    · exact h.2 w hw
theorem long_ge {W : List (List Int)} {w : List Int} (h : w ∈ W) : w.length ≤ longW W := (long_from W 0).2 w h
theorem long_le {W : List (List Int)} {k : Nat} (h : ∀ w ∈ W, w.length ≤ k) : longW W ≤ k := by
  unfold longW
  have : ∀ (W : List (List Int)) (n : Nat), n ≤ k → (∀ w ∈ W, w.length ≤ k) → W.foldl (fun n w => max n w.length) n ≤ k := by
    intro W
    induction W with
    | nil => exact fun n h _ => h
    | cons v W ih =>
      intro n hn hW
      rw [List.foldl_cons]
      exact ih _ (by have := hW v (by simp); omega) (fun w hw => hW w (by simp [hw]))
  exact this W 0 (Nat.zero_le _) h
theorem rd_word {l B : List Int} (h : okB l = true) {s n : Nat} (hs : Has l s n) : ∀ (suf got : List Int) (m p : Nat), wordB l s = got ++ suf → suf ≠ [] → suf.length ≤ m → (∀ j x, suf[j]? = some x → B[p + j]? = some x) → rdW (wordsL l) B m got p = (s, 0, p + suf.length)
  | [], _, _, _, _, hne, _, _ => absurd rfl hne
  | x :: suf, got, m, p, e, _, hm, hB => by
    obtain ⟨m, rfl⟩ : ∃ k, m = k + 1 := ⟨m - 1, by rw [List.length_cons] at hm; omega⟩
    have hx := hB 0 x rfl
    rw [Nat.add_zero] at hx
    rw [rdW, hx]
    have e2 : wordB l s = (got ++ [x]) ++ suf := by rw [e, List.append_assoc]; rfl
    by_cases hsuf : suf = []
    · subst hsuf
      rw [List.append_nil] at e2
      simp only [← e2, find_word h hs]
      rfl
    · simp only [find_begin h hs e2 hsuf]
      rw [rd_word h hs suf (got ++ [x]) m (p + 1) e2 hsuf (by rw [List.length_cons] at hm; omega) (fun j y hj => by rw [show p + 1 + j = p + (j + 1) by omega]; exact hB (j + 1) y hj), List.length_cons]
      congr 2
      omega
/-- A symbol that was written is read. -/
theorem read_word {l B : List Int} (h : okB l = true) {s n p : Nat} (hs : Has l s n) (hB : ∀ j x, (wordB l s)[j]? = some x → B[p + j]? = some x) : rdC l B p = (s, 0, p + n) := by
  have hlen : (wordB l s).length = n := by rw [wordB_length, hs.len]
  have := rd_word (B := B) (p := p) (m := mostW (wordsL l)) h hs (wordB l s) [] (by rfl) (fun e => by rw [e] at hlen; have := hs.2; simp at hlen; omega) (by
    have := long_ge (List.mem_of_getElem? (wordsL_get hs.at_))
    unfold mostW
    omega) hB
  rw [rdC, this, hlen]
/-- Of a full code any bits are read. -/
theorem rd_full {l B : List Int} (h : okB l = true) (hr : roomI l = 0) (hB : AllBit B) : ∀ (m : Nat) (got : List Int) (p : Nat), AllBit got → got.length + m = mostW (wordsL l) → (lim l got.length : Int) ≤ valH got → p + m ≤ B.length → (rdW (wordsL l) B m got p).2.1 = 0
  | 0, got, p, hg, hm, hv, _ => by
    exfalso
    obtain ⟨_, hb, _⟩ := (okB_iff l).1 h
    have h1 := valH_in hg
    have h2 : lim l got.length = 2 ^ got.length := by
      have hle : mostW (wordsL l) ≤ 15 := by
        have : longW (wordsL l) ≤ 15 := long_le (fun w hw => by
          unfold wordsL at hw
          obtain ⟨i, hi, rfl⟩ := List.mem_map.1 hw
          rw [wordB_length]
          have hi2 := List.mem_range.1 hi
          unfold lenN
          rw [List.getElem?_eq_getElem hi2]
          have := hb l[i] (List.getElem_mem hi2)
          simp
          omega)
        unfold mostW
        omega
      have hk : got.length ≤ 15 := by omega
      have hno : ∀ k, lim l (got.length + k) = lim l got.length * 2 ^ k ∨ 15 < got.length + k := by
        intro k
        induction k with
        | zero => left; simp
        | succ k ih =>
          rcases ih with ih | ih
          · by_cases h15 : 15 < got.length + (k + 1)
            · exact Or.inr h15
            · left
              have hz : cnt l (got.length + k + 1) = 0 := by
                apply Decidable.byContradiction
                intro hz
                obtain ⟨i, h3, _⟩ := rank_find' l (got.length + k + 1) 0 (by omega)
                have hi : i < l.length := (List.getElem?_eq_some_iff.1 h3).1
                have := long_ge (List.mem_of_getElem? (wordsL_get hi))
                rw [wordB_length] at this
                have e : lenN l i = got.length + k + 1 := by unfold lenN; rw [h3]; rfl
                unfold mostW at hm
                omega
              rw [show got.length + (k + 1) = (got.length + k) + 1 by omega, lim, hz, ih, Nat.pow_succ, Nat.add_zero, Nat.mul_comm 2, Nat.mul_assoc]
          · right
            omega
      rcases hno (15 - got.length) with e | e
      · rw [show got.length + (15 - got.length) = 15 by omega] at e
        have h3 := lim_used l
        unfold roomI at hr
        have h4 : lim l 15 = 2 ^ 15 := by
          have : (lim l 15 : Int) = 32768 := by omega
          have h6 : lim l 15 = 32768 := by omega
          exact h6
        have h5 : 2 ^ 15 = 2 ^ got.length * 2 ^ (15 - got.length) := by rw [← Nat.pow_add, show got.length + (15 - got.length) = 15 by omega]
        rw [h4, h5] at e
        exact (Nat.eq_of_mul_eq_mul_right (Nat.two_pow_pos _) e).symm
      · omega
    rw [h2] at hv
    have : ((2 ^ got.length : Nat) : Int) = 2 ^ got.length := Int.natCast_pow 2 _
    omega
  | m + 1, got, p, hg, hm, hv, hp => by
    have hx := List.getElem?_eq_getElem (l := B) (i := p) (by omega)
    have hbit := hB B[p] (List.getElem_mem (by omega))
    rw [rdW, hx]
    have hg2 : AllBit (got ++ [B[p]]) := hg.append (fun y hy => by rw [List.mem_singleton.1 hy]; exact hbit)
    cases hf : findW (wordsL l) (got ++ [B[p]]) with
    | some i => simp only [hf]
    | none =>
      simp only [hf]
      refine rd_full h hr hB m (got ++ [B[p]]) (p + 1) hg2 (by rw [List.length_append]; simp; omega) ?_ (by omega)
      apply Decidable.byContradiction
      intro hlt
      have hlen : (got ++ [B[p]]).length = got.length + 1 := by simp
      rw [hlen] at hlt
      have h0 := valH_in hg2
      obtain ⟨v, hv2⟩ : ∃ v : Nat, valH (got ++ [B[p]]) = v := ⟨(valH (got ++ [B[p]])).toNat, by omega⟩
      have hs := valH_snoc got B[p]
      rw [hv2] at hlt hs
      have hlt2 : v < lim l (got.length + 1) := by omega
      rw [lim] at hlt2
      have hge : 2 * lim l got.length ≤ v := by omega
      obtain ⟨i, h3, h4⟩ := rank_find' l (got.length + 1) (v - 2 * lim l got.length) (by omega)
      have hi : i < l.length := (List.getElem?_eq_some_iff.1 h3).1
      have H : Has l i (got.length + 1) := ⟨h3, by omega⟩
      have hw : wordN l i = v := by
        rw [H.word, h4, Nat.add_sub_cancel]
        omega
      have e : wordB l i = got ++ [B[p]] := by
        unfold wordB
        rw [H.len, hw, ← hv2, ← hlen]
        exact (val_bits hg2).symm
      have hne : wordB l i ≠ [] := by rw [e]; simp
      obtain ⟨j, hj⟩ := find_is hi hne
      rw [e, hf] at hj
      cases hj
theorem read_full {l B : List Int} (h : okB l = true) (hr : roomI l = 0) (hB : AllBit B) {p : Nat} (hp : p + 15 ≤ B.length) : (rdC l B p).2.1 = 0 := by
  have hle : mostW (wordsL l) ≤ 15 := by
    have : longW (wordsL l) ≤ 15 := long_le (fun w hw => by
      unfold wordsL at hw
      obtain ⟨i, hi, rfl⟩ := List.mem_map.1 hw
      rw [wordB_length]
      have hi2 := List.mem_range.1 hi
      unfold lenN
      rw [List.getElem?_eq_getElem hi2]
      have := ((okB_iff l).1 h).2.1 l[i] (List.getElem_mem hi2)
      simp
      omega)
    unfold mostW
    omega
  exact rd_full h hr hB _ [] p (fun x hx => by cases hx) (by simp) (by simp [lim, valH, numI]) (by omega)
end Go.Proofs.Ytnibbopdjeagoaa.cd
