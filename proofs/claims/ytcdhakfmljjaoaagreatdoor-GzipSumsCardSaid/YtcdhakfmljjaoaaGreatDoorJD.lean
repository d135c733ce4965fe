/-
  Texts that belong together, joined: CdM CdQ CdN FtM FtN FtB FtC FtD FtQ.
-/
import Derived.Test.YtcdhakfmljjaoaaGreatDoorJB

/-
  Codes of unequal length (mathematics): their words; none begins another; what is read.
-/

namespace Go.Proofs.YtcdhakfmljjaoaaGreatDoor.cd
set_option maxRecDepth 100000
open Go.Proofs.YtcdhakfmljjaoaaGreatDoor.fl

/-- How many symbols have a code of n bits. -/
def cnt (l : List Int) (n : Nat) : Nat := l.count (n : Int)
/-- How many words of n bits begin with a code. -/
def lim (l : List Int) : Nat → Nat
  | 0 => 0
  | n + 1 => 2 * lim l n + cnt l (n + 1)
/-- A symbol's length, and its word. -/
def lenN (l : List Int) (i : Nat) : Nat := ((l[i]?).getD 0).toNat
def wordN (l : List Int) (i : Nat) : Nat := 2 * lim l (lenN l i - 1) + cnt (l.take i) (lenN l i)
def wordB (l : List Int) (i : Nat) : List Int := (lowI (wordN l i : Int) (lenN l i)).reverse
def wordsL (l : List Int) : List (List Int) := (List.range l.length).map (wordB l)
/-- What a length uses of the room. -/
def usedI (x : Int) : Int := if 1 ≤ x ∧ x ≤ 15 then 2 ^ (15 - x.toNat) else 0
def usedS : List Int → Int
  | [] => 0
  | x :: r => usedI x + usedS r
def roomI (l : List Int) : Int := 32768 - usedS l
def codesN (l : List Int) : Nat := l.countP fun x => decide (0 < x)
def inB (l : List Int) : Bool := l.all fun x => decide (0 ≤ x) && decide (x ≤ 15)
def okB (l : List Int) : Bool := decide (l.length ≤ 288) && inB l && (decide (roomI l = 0) || decide (0 < roomI l) && decide (codesN l ≤ 1) && decide (codesN l = cnt l 1))
def chkI (l : List Int) : Int := if okB l = true then 0 else 100

theorem inB_iff (l : List Int) : inB l = true ↔ ∀ x ∈ l, 0 ≤ x ∧ x ≤ 15 := by
  unfold inB
  simp
theorem inB_append (a b : List Int) : inB (a ++ b) = (inB a && inB b) := by unfold inB; rw [List.all_append]
theorem okB_iff (l : List Int) : okB l = true ↔ l.length ≤ 288 ∧ (∀ x ∈ l, 0 ≤ x ∧ x ≤ 15) ∧ (roomI l = 0 ∨ 0 < roomI l ∧ codesN l ≤ 1 ∧ codesN l = cnt l 1) := by
  unfold okB
  rw [Bool.and_eq_true, Bool.and_eq_true, inB_iff]
  simp [and_assoc]
theorem chk_ok (l : List Int) (h : chkI l = 0) : okB l = true := by
  unfold chkI at h
  by_cases hb : okB l = true
  · exact hb
  · rw [if_neg hb] at h
    cases h
theorem usedS_append : ∀ a b : List Int, usedS (a ++ b) = usedS a + usedS b
  | [], b => by simp [usedS]
  | x :: a, b => by rw [List.cons_append, usedS, usedS, usedS_append a b, Int.add_assoc]

theorem cnt_append (a b : List Int) (n : Nat) : cnt (a ++ b) n = cnt a n + cnt b n := by unfold cnt; rw [List.count_append]
theorem cnt_cons (x : Int) (l : List Int) (n : Nat) : cnt (x :: l) n = cnt l n + if x = n then 1 else 0 := by
  unfold cnt
  rw [List.count_cons]
  by_cases h : x = (n : Int)
  · simp [h]
  · rw [if_neg h, if_neg (by simpa using h)]
theorem cnt_take_succ {l : List Int} {i : Nat} {x : Int} (h : l[i]? = some x) (n : Nat) : cnt (l.take (i + 1)) n = cnt (l.take i) n + if x = n then 1 else 0 := by
  rw [List.take_add_one, h, cnt_append]
  congr 1
  show cnt [x] n = _
  rw [cnt_cons]
  unfold cnt
  simp
theorem cnt_take_le (l : List Int) (i n : Nat) : cnt (l.take i) n ≤ cnt l n := by
  have h : cnt (l.take i ++ l.drop i) n = cnt (l.take i) n + cnt (l.drop i) n := cnt_append _ _ _
  rw [List.take_append_drop] at h
  omega
theorem cnt_take_lt {l : List Int} {i : Nat} {n : Nat} (h : l[i]? = some (n : Int)) : cnt (l.take i) n < cnt l n := by
  have h1 := cnt_take_succ h n
  rw [if_pos rfl] at h1
  have := cnt_take_le l (i + 1) n
  omega
theorem cnt_take_mono (l : List Int) {i j : Nat} (h : i ≤ j) (n : Nat) : cnt (l.take i) n ≤ cnt (l.take j) n := by
  have := cnt_take_le (l.take j) i n
  rwa [List.take_take, Nat.min_eq_left h] at this
/-- Two symbols of one length have different ranks. -/
theorem rank_inj {l : List Int} {i j : Nat} {n : Nat} (hi : l[i]? = some (n : Int)) (hj : l[j]? = some (n : Int)) (h : cnt (l.take i) n = cnt (l.take j) n) : i = j := by
  have h1 := cnt_take_succ hi n
  have h2 := cnt_take_succ hj n
  rw [if_pos rfl] at h1 h2
  rcases Nat.lt_trichotomy i j with hlt | he | hlt
  · have := cnt_take_mono l (show i + 1 ≤ j from hlt) n
    omega
  · exact he
  · have := cnt_take_mono l (show j + 1 ≤ i from hlt) n
    omega
/-- Each rank is some symbol's. -/
theorem rank_find (l : List Int) (n : Nat) : ∀ k, ∀ r, r < cnt (l.take k) n → ∃ i, i < k ∧ l[i]? = some (n : Int) ∧ cnt (l.take i) n = r
  | 0, r, h => by
    rw [List.take_zero] at h
    simp [cnt] at h
  | k + 1, r, h => by
    by_cases hr : r < cnt (l.take k) n
    · obtain ⟨i, h1, h2, h3⟩ := rank_find l n k r hr
      exact ⟨i, by omega, h2, h3⟩
    · cases hk : l[k]? with
      | none =>
        rw [List.take_of_length_le (by have := List.getElem?_eq_none_iff.1 hk; omega)] at h
        rw [List.take_of_length_le (List.getElem?_eq_none_iff.1 hk)] at hr
        omega
      | some x =>
        rw [cnt_take_succ hk] at h
        by_cases hx : x = (n : Int)
        · rw [if_pos hx] at h
          exact ⟨k, by omega, by rw [hk, hx], by omega⟩
        · rw [if_neg hx] at h
          omega
theorem rank_find' (l : List Int) (n r : Nat) (h : r < cnt l n) : ∃ i, l[i]? = some (n : Int) ∧ cnt (l.take i) n = r := by
  obtain ⟨i, _, h2, h3⟩ := rank_find l n l.length r (by rwa [List.take_length])
  exact ⟨i, h2, h3⟩

theorem lim_nil : ∀ n, lim [] n = 0
  | 0 => rfl
  | n + 1 => by rw [lim, lim_nil n]; rfl
theorem lim_cons (x : Int) (l : List Int) : ∀ n, lim (x :: l) n = lim l n + if 1 ≤ x ∧ x ≤ n then 2 ^ (n - x.toNat) else 0
  | 0 => by rw [if_neg (by omega)]; rfl
  | n + 1 => by
    rw [lim, lim_cons x l n, lim, cnt_cons]
    by_cases h1 : 1 ≤ x ∧ x ≤ n
    · rw [if_pos h1, if_neg (by omega), if_pos (by omega), show n + 1 - x.toNat = (n - x.toNat) + 1 by omega, Nat.pow_succ]
      omega
    · rw [if_neg h1]
      by_cases h2 : x = ((n + 1 : Nat) : Int)
      · rw [if_pos h2, if_pos (by omega), show n + 1 - x.toNat = 0 by omega]
        omega
      · rw [if_neg h2, if_neg (by omega)]
        omega
theorem lim_used : ∀ l : List Int, (lim l 15 : Int) = usedS l
  | [] => by rw [lim_nil]; rfl
  | x :: l => by
    rw [lim_cons, usedS, Int.natCast_add, lim_used l, usedI]
    by_cases h : 1 ≤ x ∧ x ≤ 15
    · rw [if_pos (by omega), if_pos h]
      rw [Int.natCast_pow]
      exact Int.add_comm _ _
    · rw [if_neg (by omega), if_neg h]
      omega
theorem lim_grows (l : List Int) (n : Nat) : ∀ k, lim l n * 2 ^ k ≤ lim l (n + k)
  | 0 => by simp
  | k + 1 => by
    have ih := lim_grows l n k
    rw [show n + (k + 1) = (n + k) + 1 by omega, lim, Nat.pow_succ, ← Nat.mul_assoc]
    omega
theorem lim_le {l : List Int} (h : 0 ≤ roomI l) {n : Nat} (hn : n ≤ 15) : lim l n ≤ 2 ^ n := by
  have h1 := lim_grows l n (15 - n)
  rw [show n + (15 - n) = 15 by omega] at h1
  have h2 : lim l 15 ≤ 2 ^ 15 := by
    have := lim_used l
    unfold roomI at h
    have h3 : (lim l 15 : Int) ≤ 32768 := by omega
    have h4 : lim l 15 ≤ 32768 := by omega
    exact h4
  have h3 : 2 ^ 15 = 2 ^ n * 2 ^ (15 - n) := by rw [← Nat.pow_add, show n + (15 - n) = 15 by omega]
  have h4 : lim l n * 2 ^ (15 - n) ≤ 2 ^ n * 2 ^ (15 - n) := by omega
  exact Nat.le_of_mul_le_mul_right h4 (Nat.two_pow_pos _)

/-- A symbol with a code. -/
def Has (l : List Int) (i : Nat) (n : Nat) : Prop := l[i]? = some (n : Int) ∧ 1 ≤ n
theorem Has.len {l : List Int} {i n : Nat} (h : Has l i n) : lenN l i = n := by
  unfold lenN
  rw [h.1]
  rfl
theorem Has.word {l : List Int} {i n : Nat} (h : Has l i n) : wordN l i = 2 * lim l (n - 1) + cnt (l.take i) n := by
  unfold wordN
  rw [h.len]
theorem Has.lt {l : List Int} {i n : Nat} (h : Has l i n) : wordN l i < lim l n := by
  rw [h.word]
  have h1 := cnt_take_lt h.1
  obtain ⟨m, rfl⟩ : ∃ m, n = m + 1 := ⟨n - 1, by have := h.2; omega⟩
  rw [Nat.add_sub_cancel, lim]
  omega
theorem Has.ge {l : List Int} {i n : Nat} (h : Has l i n) : 2 * lim l (n - 1) ≤ wordN l i := by
  rw [h.word]
  omega
theorem Has.small {l : List Int} {i n : Nat} (hr : 0 ≤ roomI l) (hn : n ≤ 15) (h : Has l i n) : wordN l i < 2 ^ n := Nat.lt_of_lt_of_le h.lt (lim_le hr hn)
/-- Two symbols' words differ, however much of the longer one is looked at. -/
theorem apart {l : List Int} {i j n m : Nat} (hi : Has l i n) (hj : Has l j m) (hij : i ≠ j) (hnm : n ≤ m) : wordN l j / 2 ^ (m - n) ≠ wordN l i := by
  intro h
  rcases Nat.lt_or_ge n m with hlt | hge
  · have h1 := hj.ge
    have h2 := lim_grows l n (m - 1 - n)
    rw [show n + (m - 1 - n) = m - 1 by omega] at h2
    have h3 : lim l n * 2 ^ (m - n) ≤ wordN l j := by
      rw [show m - n = (m - 1 - n) + 1 by omega, Nat.pow_succ, ← Nat.mul_assoc]
      omega
    have h4 : lim l n ≤ wordN l j / 2 ^ (m - n) := (Nat.le_div_iff_mul_le (Nat.two_pow_pos _)).2 h3
    have := hi.lt
    omega
  · have e : m = n := by omega
    subst e
    rw [Nat.sub_self, Nat.pow_zero, Nat.div_one, hi.word, hj.word] at h
    exact hij (rank_inj hi.1 hj.1 (by omega))

/-- A number, highest bit first. -/
def valH (l : List Int) : Int := numI l.reverse
theorem valH_snoc (l : List Int) (x : Int) : valH (l ++ [x]) = 2 * valH l + x := by
  unfold valH
  rw [List.reverse_append]
  show numI (x :: l.reverse) = _
  rw [numI]
  omega
theorem wordB_length (l : List Int) (i : Nat) : (wordB l i).length = lenN l i := by unfold wordB; rw [List.length_reverse, lowI_length]
theorem wordB_bits (l : List Int) (i : Nat) : AllBit (wordB l i) := fun x hx => by
  unfold wordB at hx
  exact low_bits _ _ x (List.mem_reverse.1 hx)
theorem bits_rev {l : List Int} (h : AllBit l) : AllBit l.reverse := fun x hx => h x (List.mem_reverse.1 hx)
theorem valH_word {l : List Int} {i n : Nat} (hr : 0 ≤ roomI l) (hn : n ≤ 15) (h : Has l i n) : valH (wordB l i) = wordN l i := by
  unfold valH wordB
  rw [List.reverse_reverse, h.len, numI_low]
  have := h.small hr hn
  have h2 : ((wordN l i : Nat) : Int) < 2 ^ n := by exact_mod_cast this
  exact Int.emod_eq_of_lt (by omega) h2
/-- Bits are their number's. -/
theorem val_bits {g : List Int} (h : AllBit g) : g = (lowI (valH g) g.length).reverse := by
  have := low_num g.reverse (bits_rev h)
  rw [List.length_reverse] at this
  unfold valH
  rw [this, List.reverse_reverse]
theorem valH_in {g : List Int} (h : AllBit g) : 0 ≤ valH g ∧ valH g < 2 ^ g.length := by
  have := numI_in g.reverse (bits_rev h)
  rwa [List.length_reverse] at this
/-- What a number's beginning is worth. -/
theorem valH_append (a b : List Int) : valH (a ++ b) = valH a * 2 ^ b.length + valH b := by
  unfold valH
  rw [List.reverse_append, numI_append, List.length_reverse, Int.mul_comm]
  exact Int.add_comm _ _
theorem valH_begin {a b : List Int} (hb : AllBit b) : valH (a ++ b) / 2 ^ b.length = valH a := by
  have h := valH_in hb
  rw [valH_append, Int.add_comm, Int.add_mul_ediv_right _ _ (by have := Int.pow_pos (n := 2) (m := b.length) (by omega); omega), Int.ediv_eq_zero_of_lt h.1 h.2]
  omega

/-- The symbol of a word. -/
def isW (got w : List Int) : Bool := !w.isEmpty && decide (w = got)
def findW (W : List (List Int)) (got : List Int) : Option Nat := W.findIdx? (isW got)
theorem wordsL_get {l : List Int} {i : Nat} (h : i < l.length) : (wordsL l)[i]? = some (wordB l i) := by
  unfold wordsL
  rw [List.getElem?_map, List.getElem?_range h]
  rfl
theorem wordsL_length (l : List Int) : (wordsL l).length = l.length := by unfold wordsL; simp
theorem Has.at_ {l : List Int} {i n : Nat} (h : Has l i n) : i < l.length := (List.getElem?_eq_some_iff.1 h.1).1
theorem find_some {l : List Int} {got : List Int} {i : Nat} (h : findW (wordsL l) got = some i) : i < l.length ∧ wordB l i = got ∧ got ≠ [] := by
  unfold findW at h
  obtain ⟨hlt, h1, _⟩ := List.findIdx?_eq_some_iff_getElem.1 h
  rw [wordsL_length] at hlt
  have e : (wordsL l)[i] = wordB l i := by
    have := wordsL_get hlt
    rw [List.getElem?_eq_getElem (by rw [wordsL_length]; exact hlt)] at this
    exact Option.some.inj this
  rw [e] at h1
  unfold isW at h1
  simp at h1
  refine ⟨hlt, h1.2, ?_⟩
  rintro rfl
  exact h1.1 h1.2
theorem find_is {l : List Int} {i : Nat} (h : i < l.length) (hne : wordB l i ≠ []) : ∃ j, findW (wordsL l) (wordB l i) = some j := by
  cases hf : findW (wordsL l) (wordB l i) with
  | some j => exact ⟨j, rfl⟩
  | none =>
    unfold findW at hf
    have h1 := List.findIdx?_eq_none_iff.1 hf (wordB l i) (List.mem_of_getElem? (wordsL_get h))
    unfold isW at h1
    simp at h1
    exact absurd h1 hne
theorem word_has {l : List Int} (hr : ∀ x ∈ l, 0 ≤ x) {i : Nat} (h : i < l.length) (hne : wordB l i ≠ []) : Has l i (lenN l i) := by
  have h1 := List.getElem?_eq_getElem h
  have h2 := hr l[i] (List.getElem_mem h)
  have h3 : (lenN l i : Int) = l[i] := by
    unfold lenN
    rw [h1]
    simp
    omega
  refine ⟨by rw [h1, h3], ?_⟩
  apply Decidable.byContradiction
  intro hn
  apply hne
  have : (wordB l i).length = 0 := by rw [wordB_length]; omega
  exact List.eq_nil_of_length_eq_zero this
/-- A code's beginning is no other one. -/
theorem begin_eq {l : List Int} (h : okB l = true) {i s n : Nat} {suf : List Int} (hs : Has l s n) (hi : i < l.length) (hne : wordB l i ≠ []) (e : wordB l s = wordB l i ++ suf) : i = s := by
  obtain ⟨_, hb, hr⟩ := (okB_iff l).1 h
  have h0 : 0 ≤ roomI l := by omega
  have H1 := word_has (fun x hx => (hb x hx).1) hi hne
  have hin : lenN l i ≤ 15 := by
    have := (hb _ (List.mem_of_getElem? H1.1)).2
    omega
  have hsn : n ≤ 15 := by
    have := (hb _ (List.mem_of_getElem? hs.1)).2
    omega
  have hl : n = lenN l i + suf.length := by
    have := congrArg List.length e
    rw [wordB_length, List.length_append, wordB_length, hs.len] at this
    exact this
  apply Decidable.byContradiction
  intro hij
  apply apart H1 hs hij (by omega)
  have hsb : AllBit suf := fun x hx => wordB_bits l s x (by rw [e]; exact List.mem_append_right _ hx)
  have h2 := valH_begin (a := wordB l i) hsb
  rw [← e, valH_word h0 hsn hs, valH_word h0 hin H1] at h2
  have h3 : ((wordN l s / 2 ^ suf.length : Nat) : Int) = wordN l i := by
    rw [← h2]
    simp [Int.natCast_ediv, Int.natCast_pow]
  rw [show n - lenN l i = suf.length by omega]
  exact_mod_cast h3
theorem find_word {l : List Int} (h : okB l = true) {s n : Nat} (hs : Has l s n) : findW (wordsL l) (wordB l s) = some s := by
  have hne : wordB l s ≠ [] := fun e => by
    have := wordB_length l s
    rw [e, hs.len] at this
    have := hs.2
    simp at *
    omega
  obtain ⟨j, hj⟩ := find_is hs.at_ hne
  obtain ⟨h1, h2, h3⟩ := find_some hj
  rw [hj, begin_eq h hs h1 (by rw [h2]; exact hne) (suf := []) (by rw [h2, List.append_nil])]
theorem find_begin {l : List Int} (h : okB l = true) {s n : Nat} (hs : Has l s n) {got suf : List Int} (e : wordB l s = got ++ suf) (hsuf : suf ≠ []) : findW (wordsL l) got = none := by
  cases hf : findW (wordsL l) got with
  | none => rfl
  | some j =>
    obtain ⟨h1, h2, h3⟩ := find_some hf
    have e2 := begin_eq h hs h1 (by rw [h2]; exact h3) (suf := suf) (by rw [h2, e])
    subst e2
    rw [h2] at e
    exact absurd (List.append_cancel_left (show got ++ [] = got ++ suf by rw [List.append_nil]; exact e)).symm hsuf

/-- What is read from bit p on: a symbol, an error, and where the reader stands then. -/
def rdW (W : List (List Int)) (B : List Int) : Nat → List Int → Nat → Nat × Int × Nat
  | 0, _, p => (0, 110, p)
  | m + 1, got, p => match B[p]? with
    | none => (0, 7, p)
    | some x => match findW W (got ++ [x]) with
      | some i => (i, 0, p + 1)
      | none => rdW W B m (got ++ [x]) (p + 1)
def longW (W : List (List Int)) : Nat := W.foldl (fun n w => max n w.length) 0
def mostW (W : List (List Int)) : Nat := max 1 (longW W)
def rdC (l B : List Int) (p : Nat) : Nat × Int × Nat := rdW (wordsL l) B (mostW (wordsL l)) [] p
theorem long_from : ∀ (W : List (List Int)) (n : Nat), n ≤ W.foldl (fun n w => max n w.length) n ∧ ∀ w ∈ W, w.length ≤ W.foldl (fun n w => max n w.length) n
  | [], n => ⟨Nat.le_refl _, fun w hw => by cases hw⟩
  | v :: W, n => by
    have h := long_from W (max n v.length)
    rw [List.foldl_cons]
    refine ⟨by omega, fun w hw => ?_⟩
    rcases List.mem_cons.1 hw with rfl | hw
    · omega
    · exact h.2 w hw
theorem long_ge {W : List (List Int)} {w : List Int} (h : w ∈ W) : w.length ≤ longW W := (long_from W 0).2 w h
theorem long_le {W : List (List Int)} {k : Nat} (h : ∀ w ∈ W, w.length ≤ k) : longW W ≤ k := by
  unfold longW
  have : ∀ (W : List (List Int)) (n : Nat), n ≤ k → (∀ w ∈ W, w.length ≤ k) → W.foldl (fun n w => max n w.length) n ≤ k := by
    intro W
    induction W with
    | nil => exact fun n h _ => h
    | cons v W ih =>
      intro n hn hW
      rw [List.foldl_cons]
      exact ih _ (by have := hW v (by simp); omega) (fun w hw => hW w (by simp [hw]))
  exact this W 0 (Nat.zero_le _) h
theorem rd_word {l B : List Int} (h : okB l = true) {s n : Nat} (hs : Has l s n) : ∀ (suf got : List Int) (m p : Nat), wordB l s = got ++ suf → suf ≠ [] → suf.length ≤ m → (∀ j x, suf[j]? = some x → B[p + j]? = some x) → rdW (wordsL l) B m got p = (s, 0, p + suf.length)
  | [], _, _, _, _, hne, _, _ => absurd rfl hne
  | x :: suf, got, m, p, e, _, hm, hB => by
    obtain ⟨m, rfl⟩ : ∃ k, m = k + 1 := ⟨m - 1, by rw [List.length_cons] at hm; omega⟩
    have hx := hB 0 x rfl
    rw [Nat.add_zero] at hx
    rw [rdW, hx]
    have e2 : wordB l s = (got ++ [x]) ++ suf := by rw [e, List.append_assoc]; rfl
    by_cases hsuf : suf = []
    · subst hsuf
      rw [List.append_nil] at e2
      simp only [← e2, find_word h hs]
      rfl
    · simp only [find_begin h hs e2 hsuf]
      rw [rd_word h hs suf (got ++ [x]) m (p + 1) e2 hsuf (by rw [List.length_cons] at hm; omega) (fun j y hj => by rw [show p + 1 + j = p + (j + 1) by omega]; exact hB (j + 1) y hj), List.length_cons]
      congr 2
      omega
/-- A symbol that was written is read. -/
theorem read_word {l B : List Int} (h : okB l = true) {s n p : Nat} (hs : Has l s n) (hB : ∀ j x, (wordB l s)[j]? = some x → B[p + j]? = some x) : rdC l B p = (s, 0, p + n) := by
  have hlen : (wordB l s).length = n := by rw [wordB_length, hs.len]
  have := rd_word (B := B) (p := p) (m := mostW (wordsL l)) h hs (wordB l s) [] (by rfl) (fun e => by rw [e] at hlen; have := hs.2; simp at hlen; omega) (by
    have := long_ge (List.mem_of_getElem? (wordsL_get hs.at_))
    unfold mostW
    omega) hB
  rw [rdC, this, hlen]
/-- Of a full code any bits are read. -/
theorem rd_full {l B : List Int} (h : okB l = true) (hr : roomI l = 0) (hB : AllBit B) : ∀ (m : Nat) (got : List Int) (p : Nat), AllBit got → got.length + m = mostW (wordsL l) → (lim l got.length : Int) ≤ valH got → p + m ≤ B.length → (rdW (wordsL l) B m got p).2.1 = 0
  | 0, got, p, hg, hm, hv, _ => by
    exfalso
    obtain ⟨_, hb, _⟩ := (okB_iff l).1 h
    have h1 := valH_in hg
    have h2 : lim l got.length = 2 ^ got.length := by
      have hle : mostW (wordsL l) ≤ 15 := by
        have : longW (wordsL l) ≤ 15 := long_le (fun w hw => by
          unfold wordsL at hw
          obtain ⟨i, hi, rfl⟩ := List.mem_map.1 hw
          rw [wordB_length]
          have hi2 := List.mem_range.1 hi
          unfold lenN
          rw [List.getElem?_eq_getElem hi2]
          have := hb l[i] (List.getElem_mem hi2)
          simp
          omega)
        unfold mostW
        omega
      have hk : got.length ≤ 15 := by omega
      have hno : ∀ k, lim l (got.length + k) = lim l got.length * 2 ^ k ∨ 15 < got.length + k := by
        intro k
        induction k with
        | zero => left; simp
        | succ k ih =>
          rcases ih with ih | ih
          · by_cases h15 : 15 < got.length + (k + 1)
            · exact Or.inr h15
            · left
              have hz : cnt l (got.length + k + 1) = 0 := by
                apply Decidable.byContradiction
                intro hz
                obtain ⟨i, h3, _⟩ := rank_find' l (got.length + k + 1) 0 (by omega)
                have hi : i < l.length := (List.getElem?_eq_some_iff.1 h3).1
                have := long_ge (List.mem_of_getElem? (wordsL_get hi))
                rw [wordB_length] at this
                have e : lenN l i = got.length + k + 1 := by unfold lenN; rw [h3]; rfl
                unfold mostW at hm
                omega
              rw [show got.length + (k + 1) = (got.length + k) + 1 by omega, lim, hz, ih, Nat.pow_succ, Nat.add_zero, Nat.mul_comm 2, Nat.mul_assoc]
          · right
            omega
      rcases hno (15 - got.length) with e | e
      · rw [show got.length + (15 - got.length) = 15 by omega] at e
        have h3 := lim_used l
        unfold roomI at hr
        have h4 : lim l 15 = 2 ^ 15 := by
          have : (lim l 15 : Int) = 32768 := by omega
          have h6 : lim l 15 = 32768 := by omega
          exact h6
        have h5 : 2 ^ 15 = 2 ^ got.length * 2 ^ (15 - got.length) := by rw [← Nat.pow_add, show got.length + (15 - got.length) = 15 by omega]
        rw [h4, h5] at e
        exact (Nat.eq_of_mul_eq_mul_right (Nat.two_pow_pos _) e).symm
      · omega
    rw [h2] at hv
    have : ((2 ^ got.length : Nat) : Int) = 2 ^ got.length := Int.natCast_pow 2 _
    omega
  | m + 1, got, p, hg, hm, hv, hp => by
    have hx := List.getElem?_eq_getElem (l := B) (i := p) (by omega)
    have hbit := hB B[p] (List.getElem_mem (by omega))
    rw [rdW, hx]
    have hg2 : AllBit (got ++ [B[p]]) := hg.append (fun y hy => by rw [List.mem_singleton.1 hy]; exact hbit)
    cases hf : findW (wordsL l) (got ++ [B[p]]) with
    | some i => simp only [hf]
    | none =>
      simp only [hf]
      refine rd_full h hr hB m (got ++ [B[p]]) (p + 1) hg2 (by rw [List.length_append]; simp; omega) ?_ (by omega)
      apply Decidable.byContradiction
      intro hlt
      have hlen : (got ++ [B[p]]).length = got.length + 1 := by simp
      rw [hlen] at hlt
      have h0 := valH_in hg2
      obtain ⟨v, hv2⟩ : ∃ v : Nat, valH (got ++ [B[p]]) = v := ⟨(valH (got ++ [B[p]])).toNat, by omega⟩
      have hs := valH_snoc got B[p]
      rw [hv2] at hlt hs
      have hlt2 : v < lim l (got.length + 1) := by omega
      rw [lim] at hlt2
      have hge : 2 * lim l got.length ≤ v := by omega
      obtain ⟨i, h3, h4⟩ := rank_find' l (got.length + 1) (v - 2 * lim l got.length) (by omega)
      have hi : i < l.length := (List.getElem?_eq_some_iff.1 h3).1
      have H : Has l i (got.length + 1) := ⟨h3, by omega⟩
      have hw : wordN l i = v := by
        rw [H.word, h4, Nat.add_sub_cancel]
        omega
      have e : wordB l i = got ++ [B[p]] := by
        unfold wordB
        rw [H.len, hw, ← hv2, ← hlen]
        exact (val_bits hg2).symm
      have hne : wordB l i ≠ [] := by rw [e]; simp
      obtain ⟨j, hj⟩ := find_is hi hne
      rw [e, hf] at hj
      cases hj
theorem read_full {l B : List Int} (h : okB l = true) (hr : roomI l = 0) (hB : AllBit B) {p : Nat} (hp : p + 15 ≤ B.length) : (rdC l B p).2.1 = 0 := by
  have hle : mostW (wordsL l) ≤ 15 := by
    have : longW (wordsL l) ≤ 15 := long_le (fun w hw => by
      unfold wordsL at hw
      obtain ⟨i, hi, rfl⟩ := List.mem_map.1 hw
      rw [wordB_length]
      have hi2 := List.mem_range.1 hi
      unfold lenN
      rw [List.getElem?_eq_getElem hi2]
      have := ((okB_iff l).1 h).2.1 l[i] (List.getElem_mem hi2)
      simp
      omega)
    unfold mostW
    omega
  exact rd_full h hr hB _ [] p (fun x hx => by cases hx) (by simp) (by simp [lim, valH, numI]) (by omega)
end Go.Proofs.YtcdhakfmljjaoaaGreatDoor.cd

/-
  What is asked of the program's codes.
-/
namespace Go.Proofs.YtcdhakfmljjaoaaGreatDoor.cd
set_option maxRecDepth 100000
open Go.RowKit Go.Maps Go.Proofs.YtcdhakfmljjaoaaGreatDoor.fl
set_option maxRecDepth 100000

abbrev CP := World → Addr → List Int → (Nat → Prop) → Prop
/-- Has the symbol a code? -/
def hasB (l : List Int) (s : Int) : Bool := decide (0 ≤ s) && decide (s < l.length) && decide (0 < lenN l s.toNat)
def symV (l : List Int) (s : Int) : Int × Int × Int := if hasB l s = true then ((wordN l s.toNat : Nat), (lenN l s.toNat : Nat), 0) else (0, 0, 5)
def symZ (l : List Int) (s : Int) : Int := if hasB l s = true then 0 else 5
def symL (l : List Int) (s : Int) (L : List Int) : List Int := if hasB l s = true then L ++ wordB l s.toNat else L
/-- The fixed lengths. -/
def fixI : List Int := (List.range 288).map fun i => if i ≤ 143 then 8 else if i ≤ 255 then 9 else if i ≤ 279 then 7 else 8
theorem hasB_iff (l : List Int) (s : Int) : hasB l s = true ↔ 0 ≤ s ∧ s < l.length ∧ 0 < lenN l s.toNat := by
  unfold hasB
  simp [and_assoc]
/-- The program's codes, as the chapter has them. -/
structure CodeP (R : RP) (V : VP) (C : CP) : Prop where
  c_keep : ∀ {w w' : World} {a : Addr} {l : List Int} {S S' : Nat → Prop}, C w a l S → Fr S' w w' → (∀ i, S i → ¬ S' i) → C w' a l S
  c_in : ∀ {w : World} {a : Addr} {l : List Int} {S : Nat → Prop}, C w a l S → (∀ i, S i → i < w.heap.size) ∧ okB l = true
  new_ok : ∀ (w : World) (A : Option Addr) (cap : Nat) (l : List Int), RdI w w.heap.size A l → (A = none → cap = 0) → l.length ≤ cap → l.length ≤ 140737488351232 → okB l = true → Calls Tryz.prog 104 #[.slice A l.length cap] w fun e w' => ∃ a S, e = .returned (.tuple #[.pointer (some a), .int .i64 0]) ∧ C w' a l S ∧ (∀ i, S i → w.heap.size ≤ i) ∧ Fr (fun _ => False) w w'
  new_no : ∀ (w : World) (A : Option Addr) (cap : Nat) (l : List Int), RdI w w.heap.size A l → (A = none → cap = 0) → l.length ≤ cap → l.length ≤ 140737488351232 → okB l = false → Calls Tryz.prog 104 #[.slice A l.length cap] w fun e w' => e = .returned (.tuple #[.pointer none, .int .i64 100]) ∧ Fr (fun _ => False) w w'
  read : ∀ (w : World) (c : Addr) (l : List Int) (S : Nat → Prop) (r : Addr) (b : List UInt8) (p : Nat) (T : Nat → Prop), C w c l S → R w r b p T → (∀ i, S i → ¬ T i) → Calls Tryz.prog 116 #[.pointer (some c), .pointer (some r)] w fun e w' => e = .returned (.tuple #[.int .i64 ((rdC l (bitsOf b) p).1 : Nat), .int .i64 (rdC l (bitsOf b) p).2.1]) ∧ RAft R w r b T (rdC l (bitsOf b) p).2.2 w'
  word : ∀ (w : World) (c : Addr) (l : List Int) (S : Nat → Prop) (s : Int), C w c l S → Big s → Calls Tryz.prog 122 #[.pointer (some c), .int .i64 s] w fun e w' => e = .returned (.tuple #[.int .i64 (symV l s).1, .int .i64 (symV l s).2.1, .int .i64 (symV l s).2.2]) ∧ Fr (fun _ => False) w w'
  write : ∀ (w : World) (c : Addr) (l : List Int) (S : Nat → Prop) (a : Addr) (L : List Int) (T : Nat → Prop) (s : Int), C w c l S → V w a L T → (∀ i, S i → ¬ T i) → L.length ≤ 3900000 → Big s → Calls Tryz.prog 101 #[.pointer (some c), .pointer (some a), .int .i64 s] w fun e w' => e = .returned (.int .i64 (symZ l s)) ∧ VAft V w a T (symL l s L) w'
  fixed : ∀ (w : World), Calls Tryz.prog 73 #[] w (NewL w fixI)

section
variable {R : RP} {V : VP} {C : CP}
/-- A code, a reader, and blocks of the law's, that were made behind w0. -/
structure JC (R : RP) (C : CP) (w0 : World) (c : Addr) (l : List Int) (a : Addr) (b : List UInt8) (X : Nat → Prop) (w : World) (p : Nat) : Prop where
  cr : ∃ S T, C w c l S ∧ R w a b p T ∧ (∀ i, S i → w0.heap.size ≤ i ∧ ¬ T i ∧ ¬ X i) ∧ (∀ i, T i → w0.heap.size ≤ i ∧ ¬ X i)
  fr : Fr (fun _ => False) w0 w
  x : ∀ i, X i → w0.heap.size ≤ i ∧ i < w.heap.size
variable {w0 w w' : World} {c a : Addr} {l : List Int} {b : List UInt8} {X : Nat → Prop} {p : Nat}
theorem JC.still (HF : FlowP R V) (HP : CodeP R V C) (h : JC R C w0 c l a b X w p) (hF : Fr (fun _ => False) w w') : JC R C w0 c l a b X w' p := by
  obtain ⟨S, T, h1, h2, h3, h4⟩ := h.cr
  exact ⟨⟨S, T, HP.c_keep h1 hF (fun _ _ e => e), HF.r_keep h2 hF (fun _ _ e => e), h3, h4⟩, h.fr.trans hF (fun _ _ e => e), fun i hi => ⟨(h.x i hi).1, Nat.lt_of_lt_of_le (h.x i hi).2 hF.size⟩⟩
/-- The law turns blocks of its own, and makes new ones. -/
theorem JC.xaft (HF : FlowP R V) (HP : CodeP R V C) (h : JC R C w0 c l a b X w p) (hF : Fr X w w') : JC R C w0 c l a b (fun i => X i ∨ (w.heap.size ≤ i ∧ i < w'.heap.size)) w' p := by
  obtain ⟨S, T, h1, h2, h3, h4⟩ := h.cr
  refine ⟨⟨S, T, HP.c_keep h1 hF (fun i hs => (h3 i hs).2.2), HF.r_keep h2 hF (fun i hs => (h4 i hs).2), fun i hi => ⟨(h3 i hi).1, (h3 i hi).2.1, fun e => ?_⟩, fun i hi => ⟨(h4 i hi).1, fun e => ?_⟩⟩, h.fr.trans hF (fun i hi e => by have := (h.x i e).1; omega), fun i e => ?_⟩
  · rcases e with e | e
    · exact (h3 i hi).2.2 e
    · have := (HP.c_in h1).1 i hi
      omega
  · rcases e with e | e
    · exact (h4 i hi).2 e
    · have := (HF.r_in h2).1 i hi
      omega
  · rcases e with e | e
    · exact ⟨(h.x i e).1, Nat.lt_of_lt_of_le (h.x i e).2 hF.size⟩
    · exact ⟨Nat.le_trans h.fr.size e.1, e.2⟩
theorem JC.less {Y : Nat → Prop} (h : JC R C w0 c l a b X w p) (hY : ∀ i, Y i → X i) : JC R C w0 c l a b Y w p := by
  obtain ⟨S, T, h1, h2, h3, h4⟩ := h.cr
  exact ⟨⟨S, T, h1, h2, fun i hi => ⟨(h3 i hi).1, (h3 i hi).2.1, fun e => (h3 i hi).2.2 (hY i e)⟩, fun i hi => ⟨(h4 i hi).1, fun e => (h4 i hi).2 (hY i e)⟩⟩, h.fr, fun i e => h.x i (hY i e)⟩
theorem JC.ok (HP : CodeP R V C) (h : JC R C w0 c l a b X w p) : okB l = true := by
  obtain ⟨S, T, h1, _⟩ := h.cr
  exact (HP.c_in h1).2
theorem JC.le (HF : FlowP R V) (h : JC R C w0 c l a b X w p) : p ≤ 8 * b.length := by
  obtain ⟨S, T, _, h2, _⟩ := h.cr
  exact (HF.r_in h2).2
theorem JC.read (_ : FlowP R V) (HP : CodeP R V C) (h : JC R C w0 c l a b X w p) : Calls Tryz.prog 116 #[.pointer (some c), .pointer (some a)] w fun e w' => e = .returned (.tuple #[.int .i64 ((rdC l (bitsOf b) p).1 : Nat), .int .i64 (rdC l (bitsOf b) p).2.1]) ∧ Kp X w w' ∧ JC R C w0 c l a b X w' (rdC l (bitsOf b) p).2.2 ∧ w.heap.size ≤ w'.heap.size := by
  obtain ⟨S, T, h1, h2, h3, h4⟩ := h.cr
  refine (HP.read w c l S a b p T h1 h2 (fun i hi => (h3 i hi).2.1)).mono fun e w' g => ?_
  obtain ⟨he, T', g1, g2, g3⟩ := g
  refine ⟨he, fun i hi => g3.block i (h.x i hi).2 (fun hs => (h4 i hs).2 hi), ⟨⟨S, T', HP.c_keep h1 g3 (fun i hs => (h3 i hs).2.1), g1, fun i hi => ⟨(h3 i hi).1, fun ht => ?_, (h3 i hi).2.2⟩, fun i hi => ?_⟩, h.fr.trans g3 (fun i hi hs => by have := (h4 i hs).1; omega), fun i hi => ⟨(h.x i hi).1, Nat.lt_of_lt_of_le (h.x i hi).2 g3.size⟩⟩, g3.size⟩
  · rcases g2 i ht with hs | hs
    · exact (h3 i hi).2.1 hs
    · have := (HP.c_in h1).1 i hi
      omega
  · rcases g2 i hi with hs | hs
    · exact h4 i hs
    · exact ⟨Nat.le_trans h.fr.size hs, fun e => by have := (h.x i e).2; omega⟩
theorem JC.at_ (HF : FlowP R V) (HP : CodeP R V C) (h : JC R C w0 c l a b X w p) : Calls Tryz.prog 55 #[.pointer (some a)] w fun e w' => e = .returned (.int .i64 (p : Int)) ∧ Calm w w' ∧ JC R C w0 c l a b X w' p := by
  obtain ⟨S, T, h1, h2, h3, h4⟩ := h.cr
  exact (HF.at_ w a b p T h2).mono fun _ _ g => ⟨g.1, g.2, h.still HF HP g.2.fr⟩
/-- A code and a writer that were made behind w0. -/
structure JV (V : VP) (C : CP) (w0 : World) (c : Addr) (l : List Int) (a : Addr) (X : Nat → Prop) (w : World) (L : List Int) : Prop where
  cv : ∃ S T, C w c l S ∧ V w a L T ∧ (∀ i, S i → w0.heap.size ≤ i ∧ ¬ T i ∧ ¬ X i) ∧ (∀ i, T i → w0.heap.size ≤ i ∧ ¬ X i)
  fr : Fr (fun _ => False) w0 w
  x : ∀ i, X i → w0.heap.size ≤ i ∧ i < w.heap.size
theorem JV.still {L : List Int} (HF : FlowP R V) (HP : CodeP R V C) (h : JV V C w0 c l a X w L) (hF : Fr (fun _ => False) w w') : JV V C w0 c l a X w' L := by
  obtain ⟨S, T, h1, h2, h3, h4⟩ := h.cv
  exact ⟨⟨S, T, HP.c_keep h1 hF (fun _ _ e => e), HF.v_keep h2 hF (fun _ _ e => e), h3, h4⟩, h.fr.trans hF (fun _ _ e => e), fun i hi => ⟨(h.x i hi).1, Nat.lt_of_lt_of_le (h.x i hi).2 hF.size⟩⟩
theorem JV.less {L : List Int} {Y : Nat → Prop} (h : JV V C w0 c l a X w L) (hY : ∀ i, Y i → X i) : JV V C w0 c l a Y w L := by
  obtain ⟨S, T, h1, h2, h3, h4⟩ := h.cv
  exact ⟨⟨S, T, h1, h2, fun i hi => ⟨(h3 i hi).1, (h3 i hi).2.1, fun e => (h3 i hi).2.2 (hY i e)⟩, fun i hi => ⟨(h4 i hi).1, fun e => (h4 i hi).2 (hY i e)⟩⟩, h.fr, fun i e => h.x i (hY i e)⟩
theorem JV.xaft {L : List Int} (HF : FlowP R V) (HP : CodeP R V C) (h : JV V C w0 c l a X w L) (hF : Fr X w w') : JV V C w0 c l a (fun i => X i ∨ (w.heap.size ≤ i ∧ i < w'.heap.size)) w' L := by
  obtain ⟨S, T, h1, h2, h3, h4⟩ := h.cv
  refine ⟨⟨S, T, HP.c_keep h1 hF (fun i hs => (h3 i hs).2.2), HF.v_keep h2 hF (fun i hs => (h4 i hs).2), fun i hi => ⟨(h3 i hi).1, (h3 i hi).2.1, fun e => ?_⟩, fun i hi => ⟨(h4 i hi).1, fun e => ?_⟩⟩, h.fr.trans hF (fun i hi e => by have := (h.x i e).1; omega), fun i e => ?_⟩
  · rcases e with e | e
    · exact (h3 i hi).2.2 e
    · have := (HP.c_in h1).1 i hi
      omega
  · rcases e with e | e
    · exact (h4 i hi).2 e
    · have := (HF.v_in h2).1 i hi
      omega
  · rcases e with e | e
    · exact ⟨(h.x i e).1, Nat.lt_of_lt_of_le (h.x i e).2 hF.size⟩
    · exact ⟨Nat.le_trans h.fr.size e.1, e.2⟩
theorem JV.write {L : List Int} (_ : FlowP R V) (HP : CodeP R V C) (h : JV V C w0 c l a X w L) (s : Int) (hL : L.length ≤ 3900000) (hs : Big s) : Calls Tryz.prog 101 #[.pointer (some c), .pointer (some a), .int .i64 s] w fun e w' => e = .returned (.int .i64 (symZ l s)) ∧ Kp X w w' ∧ JV V C w0 c l a X w' (symL l s L) ∧ w.heap.size ≤ w'.heap.size := by
  obtain ⟨S, T, h1, h2, h3, h4⟩ := h.cv
  refine (HP.write w c l S a L T s h1 h2 (fun i hi => (h3 i hi).2.1) hL hs).mono fun e w' g => ?_
  obtain ⟨he, T', g1, g2, g3⟩ := g
  refine ⟨he, fun i hi => g3.block i (h.x i hi).2 (fun hs => (h4 i hs).2 hi), ⟨⟨S, T', HP.c_keep h1 g3 (fun i hs => (h3 i hs).2.1), g1, fun i hi => ⟨(h3 i hi).1, fun ht => ?_, (h3 i hi).2.2⟩, fun i hi => ?_⟩, h.fr.trans g3 (fun i hi hs => by have := (h4 i hs).1; omega), fun i hi => ⟨(h.x i hi).1, Nat.lt_of_lt_of_le (h.x i hi).2 g3.size⟩⟩, g3.size⟩
  · rcases g2 i ht with hs | hs
    · exact (h3 i hi).2.1 hs
    · have := (HP.c_in h1).1 i hi
      omega
  · rcases g2 i hi with hs | hs
    · exact h4 i hs
    · exact ⟨Nat.le_trans h.fr.size hs, fun e => by have := (h.x i e).2; omega⟩
/-- All bytes of the writer; and a new reader of them. -/
theorem JV.all {L : List Int} (HF : FlowP R V) (HP : CodeP R V C) (h : JV V C w0 c l a X w L) (hL : L.length ≤ 4000000) : Calls Tryz.prog 84 #[.pointer (some a)] w fun e w' => ∃ A cap, e = .returned (.slice A (packI L).length cap) ∧ Own w' w.heap.size (.slice A (packI L).length cap) (packI L) ∧ Kp X w w' ∧ JV V C w0 c l a X w' L := by
  obtain ⟨S, T, h1, h2, h3, h4⟩ := h.cv
  refine (HF.all w a L T h2 hL).mono fun e w' g => ?_
  obtain ⟨A, cap, T', rfl, ho, g1, g2, g3⟩ := g
  refine ⟨A, cap, rfl, ho, fun i hi => g3.block i (h.x i hi).2 (fun hs => (h4 i hs).2 hi), ⟨⟨S, T', HP.c_keep h1 g3 (fun i hs => (h3 i hs).2.1), g1, fun i hi => ⟨(h3 i hi).1, fun ht => ?_, (h3 i hi).2.2⟩, fun i hi => ?_⟩, h.fr.trans g3 (fun i hi hs => by have := (h4 i hs).1; omega), fun i hi => ⟨(h.x i hi).1, Nat.lt_of_lt_of_le (h.x i hi).2 g3.size⟩⟩⟩
  · rcases (g2 i ht).1 with hs | hs
    · exact (h3 i hi).2.1 hs
    · have := (HP.c_in h1).1 i hi
      omega
  · rcases (g2 i hi).1 with hs | hs
    · exact h4 i hs
    · exact ⟨Nat.le_trans h.fr.size hs, fun e => by have := (h.x i e).2; omega⟩
end
end Go.Proofs.YtcdhakfmljjaoaaGreatDoor.cd

/-
  CodeBack: its mathematics; a code, a reader and a writer side by side.
-/
namespace Go.Proofs.YtcdhakfmljjaoaaGreatDoor.cd
set_option maxRecDepth 100000
open Go.RowKit Go.Maps Go.Proofs.YtcdhakfmljjaoaaGreatDoor.fl
set_option maxRecDepth 100000

/-- The bits of symbols. -/
def encS (l : List Int) (T : List Int) : List Int := T.flatMap fun s => wordB l s.toNat
theorem encS_snoc (l T : List Int) (s : Int) : encS l (T ++ [s]) = encS l T ++ wordB l s.toNat := by unfold encS; rw [List.flatMap_append]; simp
theorem encS_bits (l T : List Int) : AllBit (encS l T) := fun x hx => by
  unfold encS at hx
  obtain ⟨s, _, hs⟩ := List.mem_flatMap.1 hx
  exact wordB_bits l _ x hs
theorem lenN_le {l : List Int} (h : okB l = true) (i : Nat) : lenN l i ≤ 15 := by
  unfold lenN
  cases hi : l[i]? with
  | none => simp
  | some x =>
    have := ((okB_iff l).1 h).2.1 x (List.mem_of_getElem? hi)
    simp
    omega
theorem encS_len {l : List Int} (h : okB l = true) : ∀ T : List Int, (encS l T).length ≤ 15 * T.length
  | [] => by simp [encS]
  | s :: r => by
    have ih := encS_len h r
    unfold encS at *
    rw [List.flatMap_cons, List.length_append, List.length_cons, wordB_length]
    have := lenN_le h s.toNat
    omega
theorem encS_split {l T : List Int} {j : Nat} {s : Int} (h : T[j]? = some s) : encS l T = encS l (T.take j) ++ (wordB l s.toNat ++ encS l (T.drop (j + 1))) := by
  obtain ⟨h1, h2⟩ := List.getElem?_eq_some_iff.1 h
  have e : T = T.take j ++ (s :: T.drop (j + 1)) := by rw [← h2, ← List.drop_eq_getElem_cons h1, List.take_append_drop]
  have : encS l T = encS l (T.take j ++ (s :: T.drop (j + 1))) := by rw [← e]
  rw [this]
  unfold encS
  rw [List.flatMap_append, List.flatMap_cons]
theorem encS_take_succ {l T : List Int} {j : Nat} {s : Int} (h : T[j]? = some s) : encS l (T.take (j + 1)) = encS l (T.take j) ++ wordB l s.toNat := by
  rw [List.take_add_one, h]
  exact encS_snoc _ _ _
theorem mid_get {A B D Z : List Int} {k : Nat} {x : Int} (h : B[k]? = some x) : ((A ++ (B ++ D)) ++ Z)[A.length + k]? = some x := by
  have hk := (List.getElem?_eq_some_iff.1 h).1
  rw [List.append_assoc, List.getElem?_append_right (Nat.le_add_right _ _), Nat.add_sub_cancel_left, List.append_assoc, List.getElem?_append_left hk]
  exact h
theorem has_of {l : List Int} (h : okB l = true) {s : Int} (hs : hasB l s = true) : Has l s.toNat (lenN l s.toNat) := by
  obtain ⟨h1, h2, h3⟩ := (hasB_iff l s).1 hs
  have hi : s.toNat < l.length := by omega
  have hx := List.getElem?_eq_getElem hi
  have hp := (((okB_iff l).1 h).2.1 l[s.toNat] (List.getElem_mem hi)).1
  refine ⟨?_, h3⟩
  rw [hx]
  unfold lenN
  rw [hx]
  simp
  omega
/-- What is read behind the first j symbols. -/
theorem read_at {l T : List Int} (h : okB l = true) {j : Nat} {s : Int} (hj : T[j]? = some s) (hs : hasB l s = true) : rdC l (bitsOf (packI (encS l T))) (encS l (T.take j)).length = (s.toNat, 0, (encS l (T.take (j + 1))).length) := by
  rw [bits_pack (encS_bits l T), encS_take_succ hj, List.length_append, wordB_length]
  refine read_word h (has_of h hs) (fun k x hk => ?_)
  rw [encS_split hj]
  exact mid_get hk
/-- A reader goes on. -/
theorem rd_on : ∀ (W : List (List Int)) (B : List Int) (m : Nat) (got : List Int) (p : Nat), p ≤ (rdW W B m got p).2.2 ∧ ((rdW W B m got p).2.1 = 0 → p + 1 ≤ (rdW W B m got p).2.2) ∧ (p ≤ B.length → (rdW W B m got p).2.2 ≤ B.length) ∧ ((rdW W B m got p).1 ≤ W.length)
  | W, B, 0, got, p => ⟨Nat.le_refl _, fun h => (by cases h), fun h => h, Nat.zero_le _⟩
  | W, B, m + 1, got, p => by
    rw [rdW]
    cases hx : B[p]? with
    | none => exact ⟨Nat.le_refl _, fun h => (by cases h), fun h => h, Nat.zero_le _⟩
    | some x =>
      have hp := (List.getElem?_eq_some_iff.1 hx).1
      cases hf : findW W (got ++ [x]) with
      | some i =>
        simp only [hf]
        refine ⟨by omega, fun _ => Nat.le_refl _, fun _ => by omega, ?_⟩
        unfold findW at hf
        obtain ⟨hlt, _⟩ := List.findIdx?_eq_some_iff_getElem.1 hf
        omega
      | none =>
        simp only [hf]
        obtain ⟨h1, h2, h3, h4⟩ := rd_on W B m (got ++ [x]) (p + 1)
        exact ⟨by omega, fun e => by have := h2 e; omega, fun _ => h3 hp, h4⟩
theorem rdC_on (l B : List Int) (p : Nat) : p ≤ (rdC l B p).2.2 ∧ ((rdC l B p).2.1 = 0 → p + 1 ≤ (rdC l B p).2.2) ∧ (p ≤ B.length → (rdC l B p).2.2 ≤ B.length) ∧ ((rdC l B p).1 ≤ l.length) := by
  have := rd_on (wordsL l) B (mostW (wordsL l)) [] p
  rwa [wordsL_length] at this

section
variable {R : RP} {V : VP} {C : CP}
structure J3 (R : RP) (V : VP) (C : CP) (w0 : World) (c : Addr) (l : List Int) (a : Addr) (b : List UInt8) (v : Addr) (L : List Int) (X : Nat → Prop) (w : World) (p : Nat) : Prop where
  all : ∃ S T U, C w c l S ∧ R w a b p T ∧ V w v L U ∧ (∀ i, S i → w0.heap.size ≤ i ∧ ¬ T i ∧ ¬ X i) ∧ (∀ i, T i → w0.heap.size ≤ i ∧ ¬ U i ∧ ¬ X i) ∧ (∀ i, U i → w0.heap.size ≤ i ∧ ¬ X i)
  fr : Fr (fun _ => False) w0 w
  x : ∀ i, X i → w0.heap.size ≤ i ∧ i < w.heap.size
variable {w0 w w' : World} {c a v : Addr} {l L : List Int} {b : List UInt8} {X : Nat → Prop} {p : Nat}
theorem J3.still (HF : FlowP R V) (HP : CodeP R V C) (h : J3 R V C w0 c l a b v L X w p) (hF : Fr (fun _ => False) w w') : J3 R V C w0 c l a b v L X w' p := by
  obtain ⟨S, T, U, h1, h2, h3, h4, h5, h6⟩ := h.all
  exact ⟨⟨S, T, U, HP.c_keep h1 hF (fun _ _ e => e), HF.r_keep h2 hF (fun _ _ e => e), HF.v_keep h3 hF (fun _ _ e => e), h4, h5, h6⟩, h.fr.trans hF (fun _ _ e => e), fun i hi => ⟨(h.x i hi).1, Nat.lt_of_lt_of_le (h.x i hi).2 hF.size⟩⟩
theorem J3.read (HF : FlowP R V) (HP : CodeP R V C) (h : J3 R V C w0 c l a b v L X w p) : Calls Tryz.prog 116 #[.pointer (some c), .pointer (some a)] w fun e w' => e = .returned (.tuple #[.int .i64 ((rdC l (bitsOf b) p).1 : Nat), .int .i64 (rdC l (bitsOf b) p).2.1]) ∧ Kp X w w' ∧ J3 R V C w0 c l a b v L X w' (rdC l (bitsOf b) p).2.2 := by
  obtain ⟨S, T, U, h1, h2, h3, h4, h5, h6⟩ := h.all
  refine (HP.read w c l S a b p T h1 h2 (fun i hi => (h4 i hi).2.1)).mono fun e w' g => ?_
  obtain ⟨he, T', g1, g2, g3⟩ := g
  refine ⟨he, fun i hi => g3.block i (h.x i hi).2 (fun hs => (h5 i hs).2.2 hi), ⟨⟨S, T', U, HP.c_keep h1 g3 (fun i hs => (h4 i hs).2.1), g1, HF.v_keep h3 g3 (fun i hu ht => (h5 i ht).2.1 hu), fun i hi => ⟨(h4 i hi).1, fun ht => ?_, (h4 i hi).2.2⟩, fun i hi => ?_, h6⟩, h.fr.trans g3 (fun i hi hs => by have := (h5 i hs).1; omega), fun i hi => ⟨(h.x i hi).1, Nat.lt_of_lt_of_le (h.x i hi).2 g3.size⟩⟩⟩
  · rcases g2 i ht with hs | hs
    · exact (h4 i hi).2.1 hs
    · have := (HP.c_in h1).1 i hi
      omega
  · rcases g2 i hi with hs | hs
    · exact h5 i hs
    · exact ⟨Nat.le_trans h.fr.size hs, fun hu => by have := (HF.v_in h3).1 i hu; omega, fun e => by have := (h.x i e).2; omega⟩
theorem J3.at_ (HF : FlowP R V) (HP : CodeP R V C) (h : J3 R V C w0 c l a b v L X w p) : Calls Tryz.prog 55 #[.pointer (some a)] w fun e w' => e = .returned (.int .i64 (p : Int)) ∧ J3 R V C w0 c l a b v L X w' p := by
  obtain ⟨S, T, U, h1, h2, h3, h4, h5, h6⟩ := h.all
  exact (HF.at_ w a b p T h2).mono fun _ _ g => ⟨g.1, h.still HF HP g.2.fr⟩
/-- A new reader beside a code and a writer. -/
theorem JV.reader (HF : FlowP R V) (HP : CodeP R V C) (h : JV V C w0 c l v X w L) (A : Option Addr) (cap : Nat) (b : List UInt8) (hr : Rd w w.heap.size A b) (hA : A = none → cap = 0) (hc : b.length ≤ cap) (hb : b.length ≤ 140737488351232) : Calls Tryz.prog 52 #[.slice A b.length cap] w fun e w' => ∃ a, e = .returned (.pointer (some a)) ∧ Kp X w w' ∧ J3 R V C w0 c l a b v L X w' 0 := by
  obtain ⟨S, U, h1, h3, h4, h6⟩ := h.cv
  refine (HF.new w A cap b hr hA hc hb).mono fun e w' g => ?_
  obtain ⟨a, T, he, g1, g2, g3⟩ := g
  refine ⟨a, he, fun i hi => g3.block i (h.x i hi).2 (fun e => e), ⟨⟨S, T, U, HP.c_keep h1 g3 (fun _ _ e => e), g1, HF.v_keep h3 g3 (fun _ _ e => e), fun i hi => ⟨(h4 i hi).1, fun ht => ?_, (h4 i hi).2.2⟩, fun i hi => ⟨Nat.le_trans h.fr.size (g2 i hi), fun hu => ?_, fun e => ?_⟩, h6⟩, h.fr.trans g3 (fun _ _ e => e), fun i hi => ⟨(h.x i hi).1, Nat.lt_of_lt_of_le (h.x i hi).2 g3.size⟩⟩⟩
  · have := (HP.c_in h1).1 i hi
    have := g2 i ht
    omega
  · have := (HF.v_in h3).1 i hu
    have := g2 i hi
    omega
  · have := (h.x i e).2
    have := g2 i hi
    omega
end
end Go.Proofs.YtcdhakfmljjaoaaGreatDoor.cd

/-
  What is deflated, made as it was (mathematics): readings of bits, and what hangs on them.
-/
namespace Go.Proofs.YtcdhakfmljjaoaaGreatDoor.ft
set_option maxRecDepth 100000
open Go.Proofs.YtcdhakfmljjaoaaGreatDoor.fl Go.Proofs.YtcdhakfmljjaoaaGreatDoor.cd

/-- A reading: of bits, from a place on; what it tells and where it ends, or an error. -/
abbrev RdM (α : Type) := List Int → Nat → Except Int (α × Nat)
def ret {α : Type} (a : α) : RdM α := fun _ p => .ok (a, p)
def err {α : Type} (e : Int) : RdM α := fun _ _ => .error e
def bnd {α β : Type} (f : RdM α) (g : α → RdM β) : RdM β := fun B p => match f B p with
  | .error e => .error e
  | .ok (a, q) => g a B q
/-- A number of n bits; a symbol; to a byte's beginning; bytes. -/
def tk (n : Nat) : RdM Int := fun B p => if B.length < p + n then .error 7 else .ok (numI ((B.drop p).take n), p + n)
def sy (l : List Int) : RdM Nat := fun B p => if (rdC l B p).2.1 = 0 then .ok ((rdC l B p).1, (rdC l B p).2.2) else .error (rdC l B p).2.1
def up8 (p : Nat) : Nat := (p + 7) / 8 * 8
def al : RdM Unit := fun _ p => .ok ((), up8 p)
def by8 (n : Nat) : RdM (List UInt8) := fun B p => if B.length < p + 8 * n then .error 7 else .ok (packI ((B.drop p).take (8 * n)), p + 8 * n)
/-- Again and again, till it is through. -/
def loopF {σ β : Type} (step : σ → RdM (σ ⊕ β)) : Nat → σ → RdM β
  | 0, _ => fun _ _ => .error 99
  | f + 1, s => bnd (step s) fun r => match r with
    | .inl s' => loopF step f s'
    | .inr b => ret b
def loopM {σ β : Type} (step : σ → RdM (σ ⊕ β)) (s : σ) : RdM β := fun B p => loopF step (B.length + 1 - p) s B p

theorem bnd_ok {α β : Type} {f : RdM α} {g : α → RdM β} {B : List Int} {p q : Nat} {b : β} (h : bnd f g B p = .ok (b, q)) : ∃ a q1, f B p = .ok (a, q1) ∧ g a B q1 = .ok (b, q) := by
  unfold bnd at h
  cases hf : f B p with
  | error e => rw [hf] at h; cases h
  | ok v =>
    obtain ⟨a, q1⟩ := v
    rw [hf] at h
    exact ⟨a, q1, rfl, h⟩
theorem bnd_of {α β : Type} {f : RdM α} {g : α → RdM β} {B : List Int} {p q1 : Nat} {a : α} (h : f B p = .ok (a, q1)) : bnd f g B p = g a B q1 := by
  unfold bnd
  rw [h]
theorem bnd_err {α β : Type} {f : RdM α} {g : α → RdM β} {B : List Int} {p : Nat} {e : Int} (h : f B p = .error e) : bnd f g B p = .error e := by
  unfold bnd
  rw [h]

/-! ### what is read hangs on the bits that are read alone -/
def Agr (B B' : List Int) (q : Nat) : Prop := ∀ i, i < q → B'[i]? = B[i]?
theorem Agr.less {B B' : List Int} {q r : Nat} (h : Agr B B' q) (hr : r ≤ q) : Agr B B' r := fun i hi => h i (by omega)
theorem agr_take (B : List Int) (k : Nat) : Agr B (B.take k) k := fun i hi => by rw [List.getElem?_take, if_pos hi]
theorem agr_append (B Z : List Int) : Agr B (B ++ Z) B.length := fun _ hi => List.getElem?_append_left hi
theorem agr_part {B B' : List Int} {p n : Nat} (h : Agr B B' (p + n)) : (B'.drop p).take n = (B.drop p).take n := by
  apply List.ext_getElem?
  intro i
  rw [List.getElem?_take, List.getElem?_take]
  by_cases hi : i < n
  · rw [if_pos hi, if_pos hi, List.getElem?_drop, List.getElem?_drop]
    exact h (p + i) (by omega)
  · rw [if_neg hi, if_neg hi]
structure Good {α : Type} (f : RdM α) : Prop where
  ok : ∀ {B : List Int} {p q : Nat} {a : α}, B.length % 8 = 0 → p ≤ B.length → f B p = .ok (a, q) → p ≤ q ∧ q ≤ B.length
  same : ∀ {B B' : List Int} {p q : Nat} {a : α}, B.length % 8 = 0 → p ≤ B.length → f B p = .ok (a, q) → B'.length % 8 = 0 → q ≤ B'.length → Agr B B' q → f B' p = .ok (a, q)
  cut : ∀ {B : List Int} {p q k : Nat} {a : α}, B.length % 8 = 0 → p ≤ B.length → f B p = .ok (a, q) → k % 8 = 0 → p ≤ k → k < q → f (B.take k) p = .error 7
theorem good_ret {α : Type} (a : α) : Good (ret a) where
  ok := fun _ hp h => by cases h; exact ⟨Nat.le_refl _, hp⟩
  same := fun _ _ h _ _ _ => by cases h; rfl
  cut := fun _ _ h _ h1 h2 => by cases h; omega
theorem good_err {α : Type} (e : Int) : Good (err e : RdM α) := ⟨fun _ _ h => (by cases h), fun _ _ h _ _ _ => (by cases h), fun _ _ h _ _ _ => (by cases h)⟩
theorem good_bnd {α β : Type} {f : RdM α} {g : α → RdM β} (hf : Good f) (hg : ∀ a, Good (g a)) : Good (bnd f g) where
  ok := fun h8 hp h => by
    obtain ⟨a, q1, h1, h2⟩ := bnd_ok h
    obtain ⟨k1, k2⟩ := hf.ok h8 hp h1
    obtain ⟨k3, k4⟩ := (hg a).ok h8 k2 h2
    exact ⟨by omega, k4⟩
  same := fun h8 hp h h8' hq hA => by
    obtain ⟨a, q1, h1, h2⟩ := bnd_ok h
    obtain ⟨k1, k2⟩ := hf.ok h8 hp h1
    obtain ⟨k3, k4⟩ := (hg a).ok h8 k2 h2
    rw [bnd_of (hf.same h8 hp h1 h8' (by omega) (hA.less k3))]
    exact (hg a).same h8 k2 h2 h8' hq hA
  cut := fun {B p q k b} h8 hp h hk hpk hkq => by
    obtain ⟨a, q1, h1, h2⟩ := bnd_ok h
    obtain ⟨k1, k2⟩ := hf.ok h8 hp h1
    obtain ⟨k3, k4⟩ := (hg a).ok h8 k2 h2
    by_cases hlt : k < q1
    · exact bnd_err (hf.cut h8 hp h1 hk hpk hlt)
    · have hl : (B.take k).length = k := by rw [List.length_take]; omega
      rw [bnd_of (hf.same h8 hp h1 (by rw [hl]; exact hk) (by omega) ((agr_take B k).less (by omega)))]
      exact (hg a).cut h8 k2 h2 hk (by omega) hkq
theorem good_ite {α : Type} {c : Prop} [Decidable c] {f g : RdM α} (hf : Good f) (hg : Good g) : Good (if c then f else g) := by
  by_cases h : c
  · rw [if_pos h]; exact hf
  · rw [if_neg h]; exact hg
theorem good_tk (n : Nat) : Good (tk n) where
  ok := fun {B p q a} _ hp h => by
    unfold tk at h
    by_cases hs : B.length < p + n
    · rw [if_pos hs] at h; cases h
    · rw [if_neg hs] at h; cases h; omega
  same := fun {B B' p q a} _ hp h _ hq hA => by
    unfold tk at *
    by_cases hs : B.length < p + n
    · rw [if_pos hs] at h; cases h
    · rw [if_neg hs] at h
      cases h
      rw [if_neg (by omega), agr_part hA]
  cut := fun {B p q k a} _ hp h _ h1 h2 => by
    unfold tk at *
    by_cases hs : B.length < p + n
    · rw [if_pos hs] at h; cases h
    · rw [if_neg hs] at h
      cases h
      rw [if_pos (by rw [List.length_take]; omega)]
theorem good_by8 (n : Nat) : Good (by8 n) where
  ok := fun {B p q a} _ hp h => by
    unfold by8 at h
    by_cases hs : B.length < p + 8 * n
    · rw [if_pos hs] at h; cases h
    · rw [if_neg hs] at h; cases h; omega
  same := fun {B B' p q a} _ hp h _ hq hA => by
    unfold by8 at *
    by_cases hs : B.length < p + 8 * n
    · rw [if_pos hs] at h; cases h
    · rw [if_neg hs] at h
      cases h
      rw [if_neg (by omega), agr_part hA]
  cut := fun {B p q k a} _ hp h _ h1 h2 => by
    unfold by8 at *
    by_cases hs : B.length < p + 8 * n
    · rw [if_pos hs] at h; cases h
    · rw [if_neg hs] at h
      cases h
      rw [if_pos (by rw [List.length_take]; omega)]
theorem good_al : Good al where
  ok := fun {B p q a} h8 hp h => by
    cases h
    unfold up8
    omega
  same := fun _ _ h _ _ _ => by cases h; rfl
  cut := fun _ _ h hk h1 h2 => by
    cases h
    unfold up8 at h2
    omega
theorem rd_agree : ∀ (W : List (List Int)) (B B' : List Int) (m : Nat) (got : List Int) (p : Nat), (rdW W B m got p).2.1 = 0 → Agr B B' (rdW W B m got p).2.2 → rdW W B' m got p = rdW W B m got p
  | W, B, B', 0, got, p, h, _ => by cases h
  | W, B, B', m + 1, got, p, h, hA => by
    rw [rdW] at h hA ⊢
    rw [rdW]
    cases hx : B[p]? with
    | none => rw [hx] at h; cases h
    | some x =>
      rw [hx] at h hA
      cases hf : findW W (got ++ [x]) with
      | some i =>
        simp only [hf] at h hA ⊢
        have e := hA p (by omega)
        rw [hx] at e
        simp only [e, hf]
      | none =>
        simp only [hf] at h hA ⊢
        have hon := rd_on W B m (got ++ [x]) (p + 1)
        have e := hA p (by omega)
        rw [hx] at e
        simp only [e, hf]
        exact rd_agree W B B' m (got ++ [x]) (p + 1) h hA
theorem rd_cut : ∀ (W : List (List Int)) (B : List Int) (k m : Nat) (got : List Int) (p : Nat), (rdW W B m got p).2.1 = 0 → p ≤ k → k < (rdW W B m got p).2.2 → (rdW W (B.take k) m got p).2.1 = 7
  | W, B, k, 0, got, p, h, _, _ => by cases h
  | W, B, k, m + 1, got, p, h, h1, h2 => by
    rw [rdW] at h h2 ⊢
    cases hx : B[p]? with
    | none => rw [hx] at h; cases h
    | some x =>
      rw [hx] at h h2
      by_cases hpk : p < k
      · have e : (B.take k)[p]? = some x := by rw [List.getElem?_take, if_pos hpk]; exact hx
        rw [e]
        cases hf : findW W (got ++ [x]) with
        | some i =>
          simp only [hf] at h h2
          omega
        | none =>
          simp only [hf] at h h2 ⊢
          exact rd_cut W B k m (got ++ [x]) (p + 1) h hpk h2
      · have e : (B.take k)[p]? = none := by rw [List.getElem?_take, if_neg hpk]
        rw [e]
theorem sy_ok {l B : List Int} {p q s : Nat} (h : sy l B p = .ok (s, q)) : (rdC l B p).2.1 = 0 ∧ s = (rdC l B p).1 ∧ q = (rdC l B p).2.2 := by
  unfold sy at h
  by_cases he : (rdC l B p).2.1 = 0
  · rw [if_pos he] at h
    cases h
    exact ⟨he, rfl, rfl⟩
  · rw [if_neg he] at h
    cases h
theorem good_sy (l : List Int) : Good (sy l) where
  ok := fun {B p q a} _ hp h => by
    obtain ⟨h1, _, h3⟩ := sy_ok h
    obtain ⟨k1, _, k3, _⟩ := rdC_on l B p
    have := k3 hp
    omega
  same := fun {B B' p q a} _ hp h _ hq hA => by
    obtain ⟨h1, h2, h3⟩ := sy_ok h
    have e : rdC l B' p = rdC l B p := rd_agree _ _ _ _ _ _ h1 (by rw [h3] at hA; exact hA)
    unfold sy
    rw [e, if_pos h1, h2, h3]
  cut := fun {B p q k a} _ hp h _ hpk hkq => by
    obtain ⟨h1, h2, h3⟩ := sy_ok h
    have e : (rdC l (B.take k) p).2.1 = 7 := rd_cut _ _ _ _ _ _ h1 hpk (by rw [h3] at hkq; exact hkq)
    unfold sy
    rw [e, if_neg (by omega)]

section
variable {σ β : Type} {step : σ → RdM (σ ⊕ β)}
/-- A round that goes on reads something. -/
def Prog (step : σ → RdM (σ ⊕ β)) : Prop := ∀ (s s' : σ) (B : List Int) (p q : Nat), B.length % 8 = 0 → p ≤ B.length → step s B p = .ok (.inl s', q) → p < q
theorem loopF_more (hg : ∀ s, Good (step s)) (hp : Prog step) : ∀ (f f' : Nat) (s : σ) (B : List Int) (p : Nat), B.length % 8 = 0 → p ≤ B.length → B.length + 1 - p ≤ f → B.length + 1 - p ≤ f' → loopF step f s B p = loopF step f' s B p
  | 0, _, _, B, p, _, h, h1, _ => by omega
  | _ + 1, 0, _, B, p, _, h, _, h1 => by omega
  | f + 1, f' + 1, s, B, p, h8, h, h1, h2 => by
    rw [loopF, loopF]
    unfold bnd
    cases hs : step s B p with
    | error e => rfl
    | ok v =>
      obtain ⟨r, q⟩ := v
      cases r with
      | inr b => rfl
      | inl s' =>
        have k1 := hp s s' B p q h8 h hs
        have k2 := ((hg s).ok h8 h hs).2
        exact loopF_more hg hp f f' s' B q h8 k2 (by omega) (by omega)
theorem loopM_eq (hg : ∀ s, Good (step s)) (hp : Prog step) (s : σ) (B : List Int) (p : Nat) (h8 : B.length % 8 = 0) (h : p ≤ B.length) : loopM step s B p = match step s B p with
    | .error e => .error e
    | .ok (.inl s', q) => loopM step s' B q
    | .ok (.inr b, q) => .ok (b, q) := by
  unfold loopM
  rw [show B.length + 1 - p = (B.length - p) + 1 by omega, loopF]
  unfold bnd
  cases hs : step s B p with
  | error e => rfl
  | ok v =>
    obtain ⟨r, q⟩ := v
    cases r with
    | inr b => rfl
    | inl s' =>
      have k1 := hp s s' B p q h8 h hs
      have k2 := ((hg s).ok h8 h hs).2
      exact loopF_more hg hp _ _ s' B q h8 k2 (by omega) (by omega)
theorem loop_all (hg : ∀ s, Good (step s)) (hp : Prog step) : ∀ (n : Nat) (s : σ) (B : List Int) (p q : Nat) (b : β), B.length - p ≤ n → B.length % 8 = 0 → p ≤ B.length → loopM step s B p = .ok (b, q) →
    (p ≤ q ∧ q ≤ B.length) ∧ (∀ B' : List Int, B'.length % 8 = 0 → q ≤ B'.length → Agr B B' q → loopM step s B' p = .ok (b, q)) ∧ (∀ k, k % 8 = 0 → p ≤ k → k < q → loopM step s (B.take k) p = .error 7) := by
  intro n
  induction n with
  | zero =>
    intro s B p q b hn h8 h hl
    rw [loopM_eq hg hp s B p h8 h] at hl
    cases hs : step s B p with
    | error e => rw [hs] at hl; cases hl
    | ok v =>
      obtain ⟨r, q1⟩ := v
      rw [hs] at hl
      cases r with
      | inl s' =>
        have k1 := hp s s' B p q1 h8 h hs
        have k2 := ((hg s).ok h8 h hs).2
        omega
      | inr c =>
        cases hl
        obtain ⟨k1, k2⟩ := (hg s).ok h8 h hs
        refine ⟨⟨k1, k2⟩, fun B' h8' hq hA => ?_, fun k hk hpk hkq => ?_⟩
        · rw [loopM_eq hg hp s B' p h8' (by omega), (hg s).same h8 h hs h8' hq hA]
        · have hl : (B.take k).length = k := by rw [List.length_take]; omega
          rw [loopM_eq hg hp s (B.take k) p (by rw [hl]; exact hk) (by omega), (hg s).cut h8 h hs hk hpk hkq]
  | succ n ih =>
    intro s B p q b hn h8 h hl
    rw [loopM_eq hg hp s B p h8 h] at hl
    cases hs : step s B p with
    | error e => rw [hs] at hl; cases hl
    | ok v =>
      obtain ⟨r, q1⟩ := v
      rw [hs] at hl
      obtain ⟨k1, k2⟩ := (hg s).ok h8 h hs
      cases r with
      | inl s' =>
        have k3 := hp s s' B p q1 h8 h hs
        obtain ⟨⟨i1, i2⟩, i3, i4⟩ := ih s' B q1 q b (by omega) h8 k2 hl
        refine ⟨⟨by omega, i2⟩, fun B' h8' hq hA => ?_, fun k hk hpk hkq => ?_⟩
        · rw [loopM_eq hg hp s B' p h8' (by omega), (hg s).same h8 h hs h8' (by omega) (hA.less i1)]
          exact i3 B' h8' hq hA
        · have hl2 : (B.take k).length = k := by rw [List.length_take]; omega
          rw [loopM_eq hg hp s (B.take k) p (by rw [hl2]; exact hk) (by omega)]
          by_cases hlt : k < q1
          · rw [(hg s).cut h8 h hs hk hpk hlt]
          · rw [(hg s).same h8 h hs (by rw [hl2]; exact hk) (by omega) ((agr_take B k).less (by omega))]
            exact i4 k hk (by omega) hkq
      | inr c =>
        cases hl
        refine ⟨⟨k1, k2⟩, fun B' h8' hq hA => ?_, fun k hk hpk hkq => ?_⟩
        · rw [loopM_eq hg hp s B' p h8' (by omega), (hg s).same h8 h hs h8' hq hA]
        · have hl : (B.take k).length = k := by rw [List.length_take]; omega
          rw [loopM_eq hg hp s (B.take k) p (by rw [hl]; exact hk) (by omega), (hg s).cut h8 h hs hk hpk hkq]
theorem good_loop (hg : ∀ s, Good (step s)) (hp : Prog step) (s : σ) : Good (loopM step s) where
  ok := fun {B p q b} h8 h hl => (loop_all hg hp _ s B p q b (Nat.le_refl _) h8 h hl).1
  same := fun {B B' p q b} h8 h hl h8' hq hA => (loop_all hg hp _ s B p q b (Nat.le_refl _) h8 h hl).2.1 B' h8' hq hA
  cut := fun {B p q k b} h8 h hl hk hpk hkq => (loop_all hg hp _ s B p q b (Nat.le_refl _) h8 h hl).2.2 k hk hpk hkq
end

/-! ### one reading does as another one, but that it may end in ErrLong -/
def Rel {α : Type} (f g : RdM α) : Prop := ∀ B p, (∀ v, f B p = .ok v → g B p = .ok v) ∧ (∀ e, f B p = .error e → e = 3 ∨ g B p = .error e)
theorem rel_refl {α : Type} (f : RdM α) : Rel f f := fun _ _ => ⟨fun _ h => h, fun _ h => Or.inr h⟩
theorem rel_long {α : Type} (g : RdM α) : Rel (err 3) g := fun _ _ => ⟨fun _ h => (by cases h), fun e h => (by cases h; exact Or.inl rfl)⟩
theorem rel_bnd {α β : Type} {f f' : RdM α} {g g' : α → RdM β} (hf : Rel f f') (hg : ∀ a, Rel (g a) (g' a)) : Rel (bnd f g) (bnd f' g') := fun B p => by
  cases h : f B p with
  | error e =>
    rw [bnd_err h]
    refine ⟨fun v hv => (by cases hv), fun e' he => ?_⟩
    cases he
    rcases (hf B p).2 e h with e3 | e3
    · exact Or.inl e3
    · exact Or.inr (bnd_err e3)
  | ok v =>
    obtain ⟨a, q⟩ := v
    rw [bnd_of h, bnd_of ((hf B p).1 _ h)]
    exact hg a B q
theorem rel_ite {α : Type} {c : Prop} [Decidable c] {f f' g g' : RdM α} (hf : Rel f f') (hg : Rel g g') : Rel (if c then f else g) (if c then f' else g') := by
  by_cases h : c
  · rw [if_pos h, if_pos h]; exact hf
  · rw [if_neg h, if_neg h]; exact hg
/-- The room is asked for. -/
theorem rel_room {α : Type} {m m' n : Nat} (hm : m ≤ m') {f g : RdM α} (h : Rel f g) : Rel (if m < n then err 3 else f) (if m' < n then err 3 else g) := by
  by_cases h1 : m < n
  · rw [if_pos h1]; exact rel_long _
  · rw [if_neg h1, if_neg (by omega)]; exact h
theorem rel_loop {σ β : Type} {step step' : σ → RdM (σ ⊕ β)} (h : ∀ s, Rel (step s) (step' s)) (s : σ) : Rel (loopM step s) (loopM step' s) := fun B p => by
  have hF : ∀ (f : Nat) (s : σ), Rel (loopF step f s) (loopF step' f s) := by
    intro f
    induction f with
    | zero => exact fun s => rel_refl _
    | succ f ih =>
      intro s
      rw [loopF, loopF]
      refine rel_bnd (h s) (fun r => ?_)
      cases r with
      | inl s' => exact ih s'
      | inr b => exact rel_refl _
  exact hF _ s B p

/-- What every round keeps, the loop keeps. -/
theorem loop_inv {σ β : Type} {step : σ → RdM (σ ⊕ β)} (I : σ → Prop) (O : β → Prop) (h : ∀ s B p r q, I s → step s B p = .ok (r, q) → (∀ s', r = .inl s' → I s') ∧ (∀ b, r = .inr b → O b)) (s : σ) (hs : I s) (B : List Int) (p q : Nat) (b : β) (hl : loopM step s B p = .ok (b, q)) : O b := by
  have hF : ∀ (f : Nat) (s : σ) (p : Nat), I s → loopF step f s B p = .ok (b, q) → O b := by
    intro f
    induction f with
    | zero => intro s p _ h; cases h
    | succ f ih =>
      intro s p hI hl
      rw [loopF] at hl
      obtain ⟨r, q1, h1, h2⟩ := bnd_ok hl
      obtain ⟨k1, k2⟩ := h s B p r q1 hI h1
      cases r with
      | inl s' => exact ih s' q1 (k1 s' rfl) h2
      | inr c =>
        cases h2
        exact k2 _ rfl
  exact hF _ s p hs hl
end Go.Proofs.YtcdhakfmljjaoaaGreatDoor.ft

/-
  Streams as the document has them (mathematics): short beginnings, bounds, more room.
-/
namespace Go.Proofs.YtcdhakfmljjaoaaGreatDoor.ft
set_option maxRecDepth 100000
open Go.Proofs.YtcdhakfmljjaoaaGreatDoor.fl Go.Proofs.YtcdhakfmljjaoaaGreatDoor.cd

abbrev By := List UInt8
/-- A copy's length, of the symbol 257 and k: its base and its extra bits; a distance's. -/
def spanB (k : Nat) : Nat := if k < 8 then 3 + k else if k = 28 then 258 else 3 + (4 + k % 4) * 2 ^ (k / 4 - 1)
def spanX (k : Nat) : Nat := if k < 8 then 0 else if k = 28 then 0 else k / 4 - 1
def farB (k : Nat) : Nat := if k < 4 then 1 + k else 1 + (2 + k % 2) * 2 ^ (k / 2 - 1)
def farX (k : Nat) : Nat := if k < 4 then 0 else k / 2 - 1
/-- n bytes, each from so far back. -/
def copyL (back : Nat) : Nat → By → By
  | 0, out => out
  | n + 1, out => copyL back n (out ++ [(out[out.length - back]?).getD 0])
theorem copyL_len (back : Nat) : ∀ (n : Nat) (out : By), (copyL back n out).length = out.length + n
  | 0, _ => rfl
  | n + 1, out => by rw [copyL, copyL_len back n, List.length_append]; simp; omega

def plainM (most : Nat) (out : By) : RdM By :=
  bnd al fun _ => bnd (tk 16) fun n => bnd (tk 16) fun m =>
    if n + m ≠ 65535 then err 110 else if most < out.length + n.toNat then err 3 else bnd (by8 n.toNat) fun b => ret (out ++ b)
def copyM (most : Nat) (ds : List Int) (out : By) (k : Nat) : RdM By :=
  if 28 < k then err 110 else bnd (tk (spanX k)) fun x => bnd (sy ds) fun d =>
    if 29 < d then err 110 else bnd (tk (farX d)) fun y =>
      if out.length < farB d + y.toNat then err 110 else if most < out.length + (spanB k + x.toNat) then err 3 else ret (copyL (farB d + y.toNat) (spanB k + x.toNat) out)
def symS (most : Nat) (ls ds : List Int) (out : By) : RdM (By ⊕ By) :=
  bnd (sy ls) fun s => if s = 256 then ret (.inr out) else if 256 < s then bnd (copyM most ds out (s - 257)) fun o => ret (.inl o)
    else if most < out.length + 1 then err 3 else ret (.inl (out ++ [UInt8.ofNat s]))
def symsM (most : Nat) (ls ds : List Int) (out : By) : RdM By := loopM (symS most ls ds) out
def five : List Int := List.replicate 30 5
/-- Lengths, told by a code. -/
def lenS (first : List Int) (n : Nat) (out : List Int) : RdM (List Int ⊕ List Int) :=
  if n ≤ out.length then ret (.inr out) else bnd (sy first) fun k =>
    if k ≤ 15 then ret (.inl (out ++ [(k : Int)]))
    else if k = 16 then (match out.getLast? with
      | none => err 110
      | some x => bnd (tk 2) fun t => if n < out.length + (3 + t.toNat) then err 110 else ret (.inl (out ++ List.replicate (3 + t.toNat) x)))
    else if k = 17 then bnd (tk 3) fun t => if n < out.length + (3 + t.toNat) then err 110 else ret (.inl (out ++ List.replicate (3 + t.toNat) 0))
    else bnd (tk 7) fun t => if n < out.length + (11 + t.toNat) then err 110 else ret (.inl (out ++ List.replicate (11 + t.toNat) 0))
def lensM (first : List Int) (n : Nat) : RdM (List Int) := loopM (lenS first n) []
def manyM {α : Type} (f : RdM α) : Nat → RdM (List α)
  | 0 => ret []
  | n + 1 => bnd f fun a => bnd (manyM f n) fun r => ret (a :: r)
def orderL : List Nat := [16, 17, 18, 0, 8, 7, 9, 6, 10, 5, 11, 4, 12, 3, 13, 2, 14, 1, 15]
def firstL (v : List Int) : List Int := (List.range 19).map fun s => (v[orderL.idxOf s]?).getD 0
def toldM (most : Nat) (out : By) : RdM By :=
  bnd (tk 5) fun l => bnd (tk 5) fun d => bnd (tk 4) fun c =>
    if 286 < 257 + l.toNat ∨ 30 < 1 + d.toNat then err 110 else bnd (manyM (tk 3) (4 + c.toNat)) fun v =>
      if okB (firstL v) = true then bnd (lensM (firstL v) (257 + l.toNat + (1 + d.toNat))) fun a =>
        if (a[256]?).getD 0 = 0 then err 110 else if okB (a.take (257 + l.toNat)) = true ∧ okB (a.drop (257 + l.toNat)) = true then symsM most (a.take (257 + l.toNat)) (a.drop (257 + l.toNat)) out else err 110
      else err 110
def kindM (most : Nat) (kind : Int) (out : By) : RdM By :=
  if kind = 0 then plainM most out else if kind = 1 then symsM most fixI five out else if kind = 2 then toldM most out else err 110
def blockS (most : Nat) (out : By) : RdM (By ⊕ By) :=
  bnd (tk 1) fun last => bnd (tk 2) fun kind => bnd (kindM most kind out) fun o => ret (if last = 0 then .inl o else .inr o)
def inflM (most : Nat) : RdM By := loopM (blockS most) []
def inflV (b : By) (most : Int) : By × Nat × Int :=
  if most < 0 ∨ 262144 < most then ([], 0, 2) else match inflM most.toNat (bitsOf b) 0 with
    | .error e => ([], 0, e)
    | .ok (o, q) => (o, (q + 7) / 8, 0)

/-! ### what is read -/
theorem sy_on {l B : List Int} {p q s : Nat} (h : sy l B p = .ok (s, q)) : p < q := by
  obtain ⟨h1, _, h3⟩ := sy_ok h
  have := (rdC_on l B p).2.1 h1
  omega
theorem prog_bnd {σ β α : Type} {f : RdM α} {g : α → RdM (σ ⊕ β)} {B : List Int} {p q : Nat} {r : σ ⊕ β} (h8 : B.length % 8 = 0) (hp : p ≤ B.length) (hf : Good f) (hlt : ∀ a q1, f B p = .ok (a, q1) → p < q1) (hg : ∀ a, Good (g a)) (h : bnd f g B p = .ok (r, q)) : p < q := by
  obtain ⟨a, q1, h1, h2⟩ := bnd_ok h
  have k1 := hlt a q1 h1
  have k2 := ((hf.ok h8 hp h1).2)
  have k3 := ((hg a).ok h8 k2 h2).1
  omega
theorem good_plain (most : Nat) (out : By) : Good (plainM most out) :=
  good_bnd good_al fun _ => good_bnd (good_tk 16) fun _ => good_bnd (good_tk 16) fun _ => good_ite (good_err _) (good_ite (good_err _) (good_bnd (good_by8 _) fun _ => good_ret _))
theorem good_copy (most : Nat) (ds : List Int) (out : By) (k : Nat) : Good (copyM most ds out k) :=
  good_ite (good_err _) (good_bnd (good_tk _) fun _ => good_bnd (good_sy _) fun _ => good_ite (good_err _) (good_bnd (good_tk _) fun _ => good_ite (good_err _) (good_ite (good_err _) (good_ret _))))
theorem good_symS (most : Nat) (ls ds : List Int) (out : By) : Good (symS most ls ds out) :=
  good_bnd (good_sy _) fun _ => good_ite (good_ret _) (good_ite (good_bnd (good_copy _ _ _ _) fun _ => good_ret _) (good_ite (good_err _) (good_ret _)))
theorem prog_symS (most : Nat) (ls ds : List Int) : Prog (symS most ls ds) := fun _ _ _ _ _ h8 hp h =>
  prog_bnd h8 hp (good_sy _) (fun _ _ h => sy_on h) (fun _ => good_ite (good_ret _) (good_ite (good_bnd (good_copy _ _ _ _) fun _ => good_ret _) (good_ite (good_err _) (good_ret _)))) h
theorem good_syms (most : Nat) (ls ds : List Int) (out : By) : Good (symsM most ls ds out) := good_loop (good_symS most ls ds) (prog_symS most ls ds) out
theorem good_lenS_in (n : Nat) (out : List Int) (k : Nat) : Good (if k ≤ 15 then ret (.inl (out ++ [(k : Int)]))
    else if k = 16 then (match out.getLast? with
      | none => err 110
      | some x => bnd (tk 2) fun t => if n < out.length + (3 + t.toNat) then err 110 else ret (.inl (out ++ List.replicate (3 + t.toNat) x)))
    else if k = 17 then bnd (tk 3) fun t => if n < out.length + (3 + t.toNat) then err 110 else ret (.inl (out ++ List.replicate (3 + t.toNat) 0))
    else bnd (tk 7) fun t => if n < out.length + (11 + t.toNat) then err 110 else ret (.inl (out ++ List.replicate (11 + t.toNat) 0)) : RdM (List Int ⊕ List Int)) := by
  refine good_ite (good_ret _) (good_ite ?_ (good_ite ?_ ?_))
  · cases out.getLast? with
    | none => exact good_err _
    | some x => exact good_bnd (good_tk _) fun _ => good_ite (good_err _) (good_ret _)
  · exact good_bnd (good_tk _) fun _ => good_ite (good_err _) (good_ret _)
  · exact good_bnd (good_tk _) fun _ => good_ite (good_err _) (good_ret _)
theorem good_lenS (first : List Int) (n : Nat) (out : List Int) : Good (lenS first n out) := good_ite (good_ret _) (good_bnd (good_sy _) (good_lenS_in n out))
theorem prog_lenS (first : List Int) (n : Nat) : Prog (lenS first n) := fun s s' B p q h8 hp h => by
  unfold lenS at h
  by_cases hn : n ≤ s.length
  · rw [if_pos hn] at h
    cases h
  · rw [if_neg hn] at h
    exact prog_bnd h8 hp (good_sy _) (fun _ _ h => sy_on h) (good_lenS_in n s) h
theorem good_lens (first : List Int) (n : Nat) : Good (lensM first n) := good_loop (good_lenS first n) (prog_lenS first n) []
theorem good_many {α : Type} {f : RdM α} (h : Good f) : ∀ n, Good (manyM f n)
  | 0 => good_ret _
  | n + 1 => good_bnd h fun _ => good_bnd (good_many h n) fun _ => good_ret _
theorem good_told (most : Nat) (out : By) : Good (toldM most out) :=
  good_bnd (good_tk _) fun _ => good_bnd (good_tk _) fun _ => good_bnd (good_tk _) fun _ => good_ite (good_err _) (good_bnd (good_many (good_tk 3) _) fun _ => good_ite (good_bnd (good_lens _ _) fun _ => good_ite (good_err _) (good_ite (good_syms _ _ _ _) (good_err _))) (good_err _))
theorem good_kind (most : Nat) (kind : Int) (out : By) : Good (kindM most kind out) := good_ite (good_plain _ _) (good_ite (good_syms _ _ _ _) (good_ite (good_told _ _) (good_err _)))
theorem good_blockS (most : Nat) (out : By) : Good (blockS most out) := good_bnd (good_tk _) fun _ => good_bnd (good_tk _) fun _ => good_bnd (good_kind _ _ _) fun _ => good_ret _
theorem tk_on {n : Nat} {B : List Int} {p q : Nat} {a : Int} (h : tk n B p = .ok (a, q)) : q = p + n ∧ p + n ≤ B.length ∧ a = numI ((B.drop p).take n) := by
  unfold tk at h
  by_cases hs : B.length < p + n
  · rw [if_pos hs] at h; cases h
  · rw [if_neg hs] at h
    cases h
    exact ⟨rfl, by omega, rfl⟩
theorem prog_blockS (most : Nat) : Prog (blockS most) := fun _ _ _ _ _ h8 hp h =>
  prog_bnd h8 hp (good_tk _) (fun _ _ h => by have := (tk_on h).1; omega) (fun _ => good_bnd (good_tk _) fun _ => good_bnd (good_kind _ _ _) fun _ => good_ret _) h
theorem good_infl (most : Nat) : Good (inflM most) := good_loop (good_blockS most) (prog_blockS most) []

/-! ### more room -/
section
variable {m m' : Nat} (hm : m ≤ m')
include hm
theorem rel_plain (out : By) : Rel (plainM m out) (plainM m' out) :=
  rel_bnd (rel_refl _) fun _ => rel_bnd (rel_refl _) fun _ => rel_bnd (rel_refl _) fun _ => rel_ite (rel_refl _) (rel_room hm (rel_refl _))
theorem rel_copy (ds : List Int) (out : By) (k : Nat) : Rel (copyM m ds out k) (copyM m' ds out k) :=
  rel_ite (rel_refl _) (rel_bnd (rel_refl _) fun _ => rel_bnd (rel_refl _) fun _ => rel_ite (rel_refl _) (rel_bnd (rel_refl _) fun _ => rel_ite (rel_refl _) (rel_room hm (rel_refl _))))
theorem rel_syms (ls ds : List Int) (out : By) : Rel (symsM m ls ds out) (symsM m' ls ds out) :=
  rel_loop (fun s => rel_bnd (rel_refl _) fun _ => rel_ite (rel_refl _) (rel_ite (rel_bnd (rel_copy hm ds s _) fun _ => rel_refl _) (rel_room hm (rel_refl _)))) out
theorem rel_told (out : By) : Rel (toldM m out) (toldM m' out) :=
  rel_bnd (rel_refl _) fun _ => rel_bnd (rel_refl _) fun _ => rel_bnd (rel_refl _) fun _ => rel_ite (rel_refl _) (rel_bnd (rel_refl _) fun _ => rel_ite (rel_bnd (rel_refl _) fun _ => rel_ite (rel_refl _) (rel_ite (rel_syms hm _ _ out) (rel_refl _))) (rel_refl _))
theorem rel_infl : Rel (inflM m) (inflM m') :=
  rel_loop (fun s => rel_bnd (rel_refl _) fun _ => rel_bnd (rel_refl _) fun _ => rel_bnd (rel_ite (rel_plain hm s) (rel_ite (rel_syms hm _ _ s) (rel_ite (rel_told hm s) (rel_refl _)))) fun _ => rel_refl _) []
end

/-! ### no more than may be -/
theorem by8_on {n : Nat} {B : List Int} {p q : Nat} {a : By} (h : by8 n B p = .ok (a, q)) : q = p + 8 * n ∧ p + 8 * n ≤ B.length ∧ a = packI ((B.drop p).take (8 * n)) := by
  unfold by8 at h
  by_cases hs : B.length < p + 8 * n
  · rw [if_pos hs] at h; cases h
  · rw [if_neg hs] at h
    cases h
    exact ⟨rfl, by omega, rfl⟩
theorem plain_le {most : Nat} {out o : By} {B : List Int} {p q : Nat} (h : plainM most out B p = .ok (o, q)) : o.length ≤ most := by
  obtain ⟨_, q1, _, h⟩ := bnd_ok h
  obtain ⟨n, q2, _, h⟩ := bnd_ok h
  obtain ⟨m, q3, _, h⟩ := bnd_ok h
  by_cases h1 : n + m ≠ 65535
  · rw [if_pos h1] at h; cases h
  · rw [if_neg h1] at h
    by_cases h2 : most < out.length + n.toNat
    · rw [if_pos h2] at h; cases h
    · rw [if_neg h2] at h
      obtain ⟨b, q4, hb, h⟩ := bnd_ok h
      cases h
      obtain ⟨_, k1, rfl⟩ := by8_on hb
      rw [List.length_append, packI_length, List.length_take, List.length_drop]
      omega
theorem copy_le {most : Nat} {ds : List Int} {k : Nat} {out o : By} {B : List Int} {p q : Nat} (h : copyM most ds out k B p = .ok (o, q)) : o.length ≤ most := by
  unfold copyM at h
  by_cases h0 : 28 < k
  · rw [if_pos h0] at h; cases h
  · rw [if_neg h0] at h
    obtain ⟨x, q1, _, h⟩ := bnd_ok h
    obtain ⟨d, q2, _, h⟩ := bnd_ok h
    by_cases h1 : 29 < d
    · rw [if_pos h1] at h; cases h
    · rw [if_neg h1] at h
      obtain ⟨y, q3, _, h⟩ := bnd_ok h
      by_cases h2 : out.length < farB d + y.toNat
      · rw [if_pos h2] at h; cases h
      · rw [if_neg h2] at h
        by_cases h3 : most < out.length + (spanB k + x.toNat)
        · rw [if_pos h3] at h; cases h
        · rw [if_neg h3] at h
          cases h
          rw [copyL_len]
          omega
theorem syms_le {most : Nat} {ls ds : List Int} {out o : By} (ho : out.length ≤ most) {B : List Int} {p q : Nat} (h : symsM most ls ds out B p = .ok (o, q)) : o.length ≤ most := by
  refine loop_inv (fun s : By => s.length ≤ most) (fun o => o.length ≤ most) ?_ out ho B p q o h
  intro s B p r q hs h
  obtain ⟨n, q1, _, h⟩ := bnd_ok h
  by_cases h1 : n = 256
  · rw [if_pos h1] at h
    cases h
    exact ⟨fun _ e => (by cases e), fun _ e => (by cases e; exact hs)⟩
  · rw [if_neg h1] at h
    by_cases h2 : 256 < n
    · rw [if_pos h2] at h
      obtain ⟨o, q2, ho, h⟩ := bnd_ok h
      cases h
      exact ⟨fun _ e => (by cases e; exact copy_le ho), fun _ e => (by cases e)⟩
    · rw [if_neg h2] at h
      by_cases h3 : most < s.length + 1
      · rw [if_pos h3] at h; cases h
      · rw [if_neg h3] at h
        cases h
        exact ⟨fun _ e => (by cases e; rw [List.length_append]; simp; omega), fun _ e => (by cases e)⟩
theorem told_le {most : Nat} {out o : By} (ho : out.length ≤ most) {B : List Int} {p q : Nat} (h : toldM most out B p = .ok (o, q)) : o.length ≤ most := by
  obtain ⟨l, q1, _, h⟩ := bnd_ok h
  obtain ⟨d, q2, _, h⟩ := bnd_ok h
  obtain ⟨c, q3, _, h⟩ := bnd_ok h
  by_cases h1 : 286 < 257 + l.toNat ∨ 30 < 1 + d.toNat
  · rw [if_pos h1] at h; cases h
  · rw [if_neg h1] at h
    obtain ⟨v, q4, _, h⟩ := bnd_ok h
    by_cases h2 : okB (firstL v) = true
    · rw [if_pos h2] at h
      obtain ⟨a, q5, _, h⟩ := bnd_ok h
      by_cases h3 : (a[256]?).getD 0 = 0
      · rw [if_pos h3] at h; cases h
      · rw [if_neg h3] at h
        by_cases h4 : okB (a.take (257 + l.toNat)) = true ∧ okB (a.drop (257 + l.toNat)) = true
        · rw [if_pos h4] at h
          exact syms_le ho h
        · rw [if_neg h4] at h; cases h
    · rw [if_neg h2] at h; cases h
theorem kind_le {most : Nat} {kind : Int} {out o : By} (ho : out.length ≤ most) {B : List Int} {p q : Nat} (h : kindM most kind out B p = .ok (o, q)) : o.length ≤ most := by
  unfold kindM at h
  by_cases h0 : kind = 0
  · rw [if_pos h0] at h; exact plain_le h
  · rw [if_neg h0] at h
    by_cases h1 : kind = 1
    · rw [if_pos h1] at h; exact syms_le ho h
    · rw [if_neg h1] at h
      by_cases h2 : kind = 2
      · rw [if_pos h2] at h; exact told_le ho h
      · rw [if_neg h2] at h; cases h
theorem infl_le {most : Nat} {o : By} {B : List Int} {p q : Nat} (h : inflM most B p = .ok (o, q)) : o.length ≤ most := by
  refine loop_inv (fun s : By => s.length ≤ most) (fun o => o.length ≤ most) ?_ [] (Nat.zero_le _) B p q o h
  intro s B p r q hs h
  obtain ⟨last, q1, _, h⟩ := bnd_ok h
  obtain ⟨kind, q2, _, h⟩ := bnd_ok h
  obtain ⟨o, q3, ho, h⟩ := bnd_ok h
  have hle := kind_le hs ho
  by_cases hl : last = 0
  · rw [if_pos hl] at h
    cases h
    exact ⟨fun _ e => (by cases e; exact hle), fun _ e => (by cases e)⟩
  · rw [if_neg hl] at h
    cases h
    exact ⟨fun _ e => (by cases e), fun _ e => (by cases e; exact hle)⟩

/-! ### an error is one -/
def NZ {α : Type} (f : RdM α) : Prop := ∀ B p e, f B p = .error e → e ≠ 0
theorem nz_ret {α : Type} (a : α) : NZ (ret a) := fun _ _ _ h => (by cases h)
theorem nz_err {α : Type} {e : Int} (he : e ≠ 0) : NZ (err e : RdM α) := fun _ _ _ h => (by cases h; exact he)
theorem nz_bnd {α β : Type} {f : RdM α} {g : α → RdM β} (hf : NZ f) (hg : ∀ a, NZ (g a)) : NZ (bnd f g) := fun B p e h => by
  cases hf2 : f B p with
  | error e2 =>
    rw [bnd_err hf2] at h
    cases h
    exact hf B p e hf2
  | ok v =>
    obtain ⟨a, q⟩ := v
    rw [bnd_of hf2] at h
    exact hg a B q e h
theorem nz_ite {α : Type} {c : Prop} [Decidable c] {f g : RdM α} (hf : NZ f) (hg : NZ g) : NZ (if c then f else g) := by
  by_cases h : c
  · rw [if_pos h]; exact hf
  · rw [if_neg h]; exact hg
theorem nz_tk (n : Nat) : NZ (tk n) := fun B p e h => by
  unfold tk at h
  by_cases hs : B.length < p + n
  · rw [if_pos hs] at h; cases h; decide
  · rw [if_neg hs] at h; cases h
theorem nz_by8 (n : Nat) : NZ (by8 n) := fun B p e h => by
  unfold by8 at h
  by_cases hs : B.length < p + 8 * n
  · rw [if_pos hs] at h; cases h; decide
  · rw [if_neg hs] at h; cases h
theorem nz_sy (l : List Int) : NZ (sy l) := fun B p e h => by
  unfold sy at h
  by_cases hs : (rdC l B p).2.1 = 0
  · rw [if_pos hs] at h; cases h
  · rw [if_neg hs] at h; cases h; exact hs
theorem nz_loop {σ β : Type} {step : σ → RdM (σ ⊕ β)} (h : ∀ s, NZ (step s)) (s : σ) : NZ (loopM step s) := fun B p => by
  have hF : ∀ (f : Nat) (s : σ), NZ (loopF step f s) := by
    intro f
    induction f with
    | zero => exact fun s => nz_err (by decide)
    | succ f ih =>
      intro s
      rw [loopF]
      refine nz_bnd (h s) (fun r => ?_)
      cases r with
      | inl s' => exact ih s'
      | inr b => exact nz_ret _
  exact hF _ s B p
theorem nz_110 {α : Type} : NZ (err 110 : RdM α) := nz_err (by decide)
theorem nz_3 {α : Type} : NZ (err 3 : RdM α) := nz_err (by decide)
theorem nz_plain (most : Nat) (out : By) : NZ (plainM most out) :=
  nz_bnd (fun _ _ _ h => (by cases h)) fun _ => nz_bnd (nz_tk 16) fun _ => nz_bnd (nz_tk 16) fun _ => nz_ite nz_110 (nz_ite nz_3 (nz_bnd (nz_by8 _) fun _ => nz_ret _))
theorem nz_copy (most : Nat) (ds : List Int) (out : By) (k : Nat) : NZ (copyM most ds out k) :=
  nz_ite nz_110 (nz_bnd (nz_tk _) fun _ => nz_bnd (nz_sy _) fun _ => nz_ite nz_110 (nz_bnd (nz_tk _) fun _ => nz_ite nz_110 (nz_ite nz_3 (nz_ret _))))
theorem nz_syms (most : Nat) (ls ds : List Int) (out : By) : NZ (symsM most ls ds out) :=
  nz_loop (fun _ => nz_bnd (nz_sy _) fun _ => nz_ite (nz_ret _) (nz_ite (nz_bnd (nz_copy _ _ _ _) fun _ => nz_ret _) (nz_ite nz_3 (nz_ret _)))) out
theorem nz_lens (first : List Int) (n : Nat) : NZ (lensM first n) := nz_loop (fun out => by
  refine nz_ite (nz_ret _) (nz_bnd (nz_sy _) fun k => nz_ite (nz_ret _) (nz_ite ?_ (nz_ite ?_ ?_)))
  · cases out.getLast? with
    | none => exact nz_110
    | some x => exact nz_bnd (nz_tk _) fun _ => nz_ite nz_110 (nz_ret _)
  · exact nz_bnd (nz_tk _) fun _ => nz_ite nz_110 (nz_ret _)
  · exact nz_bnd (nz_tk _) fun _ => nz_ite nz_110 (nz_ret _)) []
theorem nz_many {α : Type} {f : RdM α} (h : NZ f) : ∀ n, NZ (manyM f n)
  | 0 => nz_ret _
  | n + 1 => nz_bnd h fun _ => nz_bnd (nz_many h n) fun _ => nz_ret _
theorem nz_told (most : Nat) (out : By) : NZ (toldM most out) :=
  nz_bnd (nz_tk _) fun _ => nz_bnd (nz_tk _) fun _ => nz_bnd (nz_tk _) fun _ => nz_ite nz_110 (nz_bnd (nz_many (nz_tk 3) _) fun _ => nz_ite (nz_bnd (nz_lens _ _) fun _ => nz_ite nz_110 (nz_ite (nz_syms _ _ _ _) nz_110)) nz_110)
theorem nz_infl (most : Nat) : NZ (inflM most) :=
  nz_loop (fun _ => nz_bnd (nz_tk _) fun _ => nz_bnd (nz_tk _) fun _ => nz_bnd (nz_ite (nz_plain _ _) (nz_ite (nz_syms _ _ _ _) (nz_ite (nz_told _ _) nz_110))) fun _ => nz_ret _) []

/-! ### what the laws want of it -/
theorem bits8 (b : By) : (bitsOf b).length % 8 = 0 := by rw [bitsOf_length]; omega
theorem inflV_is {b : By} {most : Nat} (hm : most ≤ 262144) {o : By} {q : Nat} (h : inflM most (bitsOf b) 0 = .ok (o, q)) : inflV b most = (o, (q + 7) / 8, 0) := by
  unfold inflV
  rw [if_neg (by omega), Int.toNat_natCast, h]
theorem inflV_no {b : By} {most : Nat} (hm : most ≤ 262144) {e : Int} (h : inflM most (bitsOf b) 0 = .error e) : inflV b most = ([], 0, e) ∧ e ≠ 0 := by
  refine ⟨?_, nz_infl most _ _ e h⟩
  unfold inflV
  rw [if_neg (by omega), Int.toNat_natCast, h]
/-- Either it is made, or there is an error and nothing. -/
theorem inflV_ok {b : By} {most : Nat} (hm : most ≤ 262144) (h : (inflV b most).2.2 = 0) : ∃ o q, inflM most (bitsOf b) 0 = .ok (o, q) ∧ inflV b most = (o, (q + 7) / 8, 0) ∧ o.length ≤ most ∧ q ≤ 8 * b.length ∧ 3 ≤ q := by
  cases hi : inflM most (bitsOf b) 0 with
  | error e =>
    obtain ⟨h1, h2⟩ := inflV_no hm hi
    rw [h1] at h
    exact absurd h h2
  | ok v =>
    obtain ⟨o, q⟩ := v
    have hb := ((good_infl most).ok (bits8 b) (Nat.zero_le _) hi).2
    rw [bitsOf_length] at hb
    refine ⟨o, q, rfl, inflV_is hm hi, infl_le hi, hb, ?_⟩
    have hi2 := hi
    unfold inflM at hi2
    rw [loopM_eq (good_blockS most) (prog_blockS most) _ _ _ (bits8 b) (Nat.zero_le _)] at hi2
    cases hs : blockS most [] (bitsOf b) 0 with
    | error e => rw [hs] at hi2; cases hi2
    | ok v =>
      obtain ⟨r, q1⟩ := v
      have h3 : 3 ≤ q1 := by
        obtain ⟨x, p1, h1, h2⟩ := bnd_ok hs
        obtain ⟨y, p2, h3, h4⟩ := bnd_ok h2
        have k1 := tk_on h1
        have k2 := tk_on h3
        have k3 := ((good_bnd (good_kind most y []) fun o => good_ret (if x = 0 then (Sum.inl o : By ⊕ By) else .inr o)).ok (bits8 b) (by omega) h4).1
        omega
      rw [hs] at hi2
      cases r with
      | inr o2 => cases hi2; exact h3
      | inl s2 =>
        have hq1 := ((good_blockS most []).ok (bits8 b) (Nat.zero_le _) hs).2
        have := ((good_infl most).ok (bits8 b) (Nat.zero_le _) hi)
        have h5 := ((good_loop (good_blockS most) (prog_blockS most) s2).ok (bits8 b) hq1 hi2).1
        omega
theorem inflV_zero {b : By} {most : Nat} (hm : most ≤ 262144) (h : (inflV b most).2.2 ≠ 0) : ∃ e, inflM most (bitsOf b) 0 = .error e ∧ inflV b most = ([], 0, e) := by
  cases hi : inflM most (bitsOf b) 0 with
  | error e => exact ⟨e, rfl, (inflV_no hm hi).1⟩
  | ok v =>
    obtain ⟨o, q⟩ := v
    rw [inflV_is hm hi] at h
    exact absurd rfl h
/-- What stands behind changes nothing. -/
theorem infl_more {b : By} {most : Nat} {o : By} {q : Nat} (h : inflM most (bitsOf b) 0 = .ok (o, q)) (more : By) : inflM most (bitsOf (b.take ((q + 7) / 8) ++ more)) 0 = .ok (o, q) := by
  have hq := ((good_infl most).ok (bits8 b) (Nat.zero_le _) h).2
  rw [bitsOf_length] at hq
  have hlen : (b.take ((q + 7) / 8)).length = (q + 7) / 8 := by rw [List.length_take]; omega
  refine (good_infl most).same (bits8 b) (Nat.zero_le _) h (bits8 _) ?_ ?_
  · rw [bitsOf_length, List.length_append, hlen]
    omega
  · intro i hi
    rw [bitsOf_append, List.getElem?_append_left (by rw [bitsOf_length, hlen]; omega), ← bitsOf_take b _ (by omega), List.getElem?_take, if_pos (by omega)]
/-- A beginning is short. -/
theorem infl_short {b : By} {most : Nat} {o : By} {q k : Nat} (h : inflM most (bitsOf b) 0 = .ok (o, q)) (hk : k < (q + 7) / 8) : inflM most (bitsOf (b.take k)) 0 = .error 7 := by
  have hq := ((good_infl most).ok (bits8 b) (Nat.zero_le _) h).2
  rw [bitsOf_length] at hq
  rw [← bitsOf_take b k (by omega)]
  exact (good_infl most).cut (bits8 b) (Nat.zero_le _) h (by omega) (Nat.zero_le _) (by omega)
end Go.Proofs.YtcdhakfmljjaoaaGreatDoor.ft

/-
  What was deflated, by each of the plain ways, is made as it was (mathematics).
-/
namespace Go.Proofs.YtcdhakfmljjaoaaGreatDoor.ft
set_option maxRecDepth 100000
open Go.Proofs.YtcdhakfmljjaoaaGreatDoor.fl Go.Proofs.YtcdhakfmljjaoaaGreatDoor.cd

/-! ### plain blocks -/
def blkV (last : UInt8) (c : By) : By := [last, UInt8.ofNat (c.length % 256), UInt8.ofNat (c.length / 256), UInt8.ofNat ((65535 - c.length) % 256), UInt8.ofNat ((65535 - c.length) / 256)] ++ c
def storeF : Nat → By → By
  | 0, b => blkV 1 b
  | f + 1, b => if b.length ≤ 65535 then blkV 1 b else blkV 0 (b.take 65535) ++ storeF f (b.drop 65535)
def storeV (b : By) : By := storeF (b.length / 65535) b
theorem part_mid (Z c R : By) : ((bitsOf (Z ++ (c ++ R))).drop (8 * Z.length)).take (8 * c.length) = bitsOf c := by
  rw [bitsOf_append, bitsOf_append]
  have h1 : (bitsOf Z).length = 8 * Z.length := bitsOf_length Z
  have h2 : (bitsOf c).length = 8 * c.length := bitsOf_length c
  rw [← h1, List.drop_left, ← h2, List.take_left]
theorem tk16 (Z R : By) (x y : UInt8) (n : Nat) (hn : n = x.toNat + 256 * y.toNat) : tk 16 (bitsOf (Z ++ ([x, y] ++ R))) (8 * Z.length) = .ok ((n : Int), 8 * (Z.length + 2)) := by
  have h := part_mid Z [x, y] R
  unfold tk
  rw [if_neg (by rw [bitsOf_length]; simp; omega)]
  rw [show 8 * [x, y].length = 16 from rfl] at h
  rw [h]
  have e : numI (bitsOf [x, y]) = (n : Int) := by
    rw [bitsOf_cons, bitsOf_cons, show bitsOf [] = [] from rfl, List.append_nil, numI_append, num_byte, num_byte, lowI_length, hn]
    simp
  rw [e, show 8 * (Z.length + 2) = 8 * Z.length + 16 by omega]
theorem by8_mid (Z c R : By) : by8 c.length (bitsOf (Z ++ (c ++ R))) (8 * Z.length) = .ok (c, 8 * (Z.length + c.length)) := by
  unfold by8
  rw [if_neg (by rw [bitsOf_length, List.length_append, List.length_append]; omega), part_mid, pack_bits, Nat.mul_add]
theorem first_bits (Z R : By) (x : UInt8) (hx : x = 0 ∨ x = 1) : tk 1 (bitsOf (Z ++ ([x] ++ R))) (8 * Z.length) = .ok ((x.toNat : Int), 8 * Z.length + 1) ∧ tk 2 (bitsOf (Z ++ ([x] ++ R))) (8 * Z.length + 1) = .ok (0, 8 * Z.length + 3) := by
  have hl : (bitsOf (Z ++ ([x] ++ R))).length = 8 * (Z.length + (1 + R.length)) := by rw [bitsOf_length]; simp; omega
  have hd : (bitsOf (Z ++ ([x] ++ R))).drop (8 * Z.length) = lowI (x.toNat : Int) 8 ++ bitsOf R := by
    rw [bitsOf_append, ← bitsOf_length Z, List.drop_left, bitsOf_append, bitsOf_cons, show bitsOf [] = [] from rfl, List.append_nil]
  unfold tk
  rw [if_neg (by omega), if_neg (by omega), ← List.drop_drop, hd]
  rcases hx with rfl | rfl
  · exact ⟨rfl, rfl⟩
  · exact ⟨rfl, rfl⟩
theorem byte_mod (n : Nat) (h : n ≤ 65535) : n = (UInt8.ofNat (n % 256)).toNat + 256 * (UInt8.ofNat (n / 256)).toNat := by
  rw [UInt8.toNat_ofNat', UInt8.toNat_ofNat']
  omega
/-- A plain block is read. -/
theorem blk_read (most : Nat) (Z c R out : By) (last : UInt8) (hx : last = 0 ∨ last = 1) (hc : c.length ≤ 65535) (hm : out.length + c.length ≤ most) :
    blockS most out (bitsOf (Z ++ (blkV last c ++ R))) (8 * Z.length) = .ok (if last = 0 then .inl (out ++ c) else .inr (out ++ c), 8 * (Z ++ blkV last c).length) := by
  obtain ⟨f1, f2⟩ := first_bits Z ([UInt8.ofNat (c.length % 256), UInt8.ofNat (c.length / 256), UInt8.ofNat ((65535 - c.length) % 256), UInt8.ofNat ((65535 - c.length) / 256)] ++ c ++ R) last hx
  have e0 : Z ++ (blkV last c ++ R) = Z ++ ([last] ++ ([UInt8.ofNat (c.length % 256), UInt8.ofNat (c.length / 256), UInt8.ofNat ((65535 - c.length) % 256), UInt8.ofNat ((65535 - c.length) / 256)] ++ c ++ R)) := by
    unfold blkV
    simp
  have e1 : Z ++ (blkV last c ++ R) = (Z ++ [last]) ++ ([UInt8.ofNat (c.length % 256), UInt8.ofNat (c.length / 256)] ++ ([UInt8.ofNat ((65535 - c.length) % 256), UInt8.ofNat ((65535 - c.length) / 256)] ++ (c ++ R))) := by
    unfold blkV
    simp
  have e2 : Z ++ (blkV last c ++ R) = (Z ++ [last] ++ [UInt8.ofNat (c.length % 256), UInt8.ofNat (c.length / 256)]) ++ ([UInt8.ofNat ((65535 - c.length) % 256), UInt8.ofNat ((65535 - c.length) / 256)] ++ (c ++ R)) := by
    unfold blkV
    simp
  have e3 : Z ++ (blkV last c ++ R) = (Z ++ [last] ++ [UInt8.ofNat (c.length % 256), UInt8.ofNat (c.length / 256)] ++ [UInt8.ofNat ((65535 - c.length) % 256), UInt8.ofNat ((65535 - c.length) / 256)]) ++ (c ++ R) := by
    unfold blkV
    simp
  have t1 := tk16 (Z ++ [last]) ([UInt8.ofNat ((65535 - c.length) % 256), UInt8.ofNat ((65535 - c.length) / 256)] ++ (c ++ R)) (UInt8.ofNat (c.length % 256)) (UInt8.ofNat (c.length / 256)) c.length (byte_mod _ hc)
  have t2 := tk16 (Z ++ [last] ++ [UInt8.ofNat (c.length % 256), UInt8.ofNat (c.length / 256)]) (c ++ R) (UInt8.ofNat ((65535 - c.length) % 256)) (UInt8.ofNat ((65535 - c.length) / 256)) (65535 - c.length) (byte_mod _ (by omega))
  have t3 := by8_mid (Z ++ [last] ++ [UInt8.ofNat (c.length % 256), UInt8.ofNat (c.length / 256)] ++ [UInt8.ofNat ((65535 - c.length) % 256), UInt8.ofNat ((65535 - c.length) / 256)]) c R
  rw [← e0] at f1 f2
  rw [← e1] at t1
  rw [← e2] at t2
  rw [← e3] at t3
  have l1 : (Z ++ [last]).length = Z.length + 1 := by simp
  have l2 : (Z ++ [last] ++ [UInt8.ofNat (c.length % 256), UInt8.ofNat (c.length / 256)]).length = Z.length + 3 := by simp
  have l3 : (Z ++ [last] ++ [UInt8.ofNat (c.length % 256), UInt8.ofNat (c.length / 256)] ++ [UInt8.ofNat ((65535 - c.length) % 256), UInt8.ofNat ((65535 - c.length) / 256)]).length = Z.length + 5 := by simp
  have l4 : (Z ++ blkV last c).length = Z.length + 5 + c.length := by unfold blkV; simp; omega
  rw [l1] at t1
  rw [l2] at t2
  rw [l3] at t3
  unfold blockS
  rw [bnd_of f1, bnd_of f2]
  have hk : kindM most 0 out (bitsOf (Z ++ (blkV last c ++ R))) (8 * Z.length + 3) = .ok (out ++ c, 8 * (Z ++ blkV last c).length) := by
    unfold kindM
    rw [if_pos rfl]
    unfold plainM
    have ha : al (bitsOf (Z ++ (blkV last c ++ R))) (8 * Z.length + 3) = .ok ((), 8 * (Z.length + 1)) := by
      unfold al up8
      congr 2
      omega
    rw [bnd_of ha, bnd_of t1, bnd_of (show tk 16 (bitsOf (Z ++ (blkV last c ++ R))) (8 * (Z.length + 1 + 2)) = _ from t2)]
    rw [if_neg (by omega), Int.toNat_natCast, if_neg (by omega), bnd_of (show by8 c.length (bitsOf (Z ++ (blkV last c ++ R))) (8 * (Z.length + 3 + 2)) = _ from t3)]
    rw [l4]
    rfl
  rw [bnd_of hk]
  rcases hx with rfl | rfl
  · rfl
  · rfl
theorem store_read (most : Nat) : ∀ (f : Nat) (b Z out : By), b.length / 65535 ≤ f → out.length + b.length ≤ most → loopM (blockS most) out (bitsOf (Z ++ storeF f b)) (8 * Z.length) = .ok (out ++ b, 8 * (Z ++ storeF f b).length)
  | 0, b, Z, out, hf, hm => by
    rw [loopM_eq (good_blockS most) (prog_blockS most) _ _ _ (bits8 _) (by rw [bitsOf_length, List.length_append]; omega)]
    have h := blk_read most Z b [] out 1 (Or.inr rfl) (by omega) hm
    rw [List.append_nil] at h
    rw [storeF, h]
    rfl
  | f + 1, b, Z, out, hf, hm => by
    rw [loopM_eq (good_blockS most) (prog_blockS most) _ _ _ (bits8 _) (by rw [bitsOf_length, List.length_append]; omega), storeF]
    by_cases hb : b.length ≤ 65535
    · rw [if_pos hb]
      have h := blk_read most Z b [] out 1 (Or.inr rfl) hb hm
      rw [List.append_nil] at h
      rw [h]
      rfl
    · rw [if_neg hb]
      have ht : (b.take 65535).length = 65535 := by rw [List.length_take]; omega
      have hd : (b.drop 65535).length = b.length - 65535 := List.length_drop
      have h := blk_read most Z (b.take 65535) (storeF f (b.drop 65535)) out 0 (Or.inl rfl) (by omega) (by omega)
      rw [h]
      have ih := store_read most f (b.drop 65535) (Z ++ blkV 0 (b.take 65535)) (out ++ b.take 65535) (by omega) (by rw [List.length_append, ht, hd]; omega)
      rw [List.append_assoc] at ih
      show loopM (blockS most) (out ++ b.take 65535) _ _ = _
      rw [ih, List.append_assoc, List.take_append_drop]
theorem store_back {b : By} {most : Nat} (hm : b.length ≤ most) : inflM most (bitsOf (storeV b)) 0 = .ok (b, 8 * (storeV b).length) := by
  have h := store_read most (b.length / 65535) b [] [] (Nat.le_refl _) (by simpa using hm)
  exact h

/-! ### bits that stand at a place -/
def AtB (B : List Int) (p : Nat) (L : List Int) : Prop := ∀ j x, L[j]? = some x → B[p + j]? = some x
theorem AtB.split {B : List Int} {p : Nat} {L M : List Int} (h : AtB B p (L ++ M)) : AtB B p L ∧ AtB B (p + L.length) M := by
  refine ⟨fun j x hj => h j x ?_, fun j x hj => ?_⟩
  · rw [List.getElem?_append_left (List.getElem?_eq_some_iff.1 hj).1]
    exact hj
  · rw [Nat.add_assoc]
    refine h (L.length + j) x ?_
    rw [List.getElem?_append_right (Nat.le_add_right _ _), Nat.add_sub_cancel_left]
    exact hj
theorem AtB.le {B : List Int} {p : Nat} {L : List Int} (h : AtB B p L) (hp : p ≤ B.length) : p + L.length ≤ B.length := by
  rcases Nat.eq_zero_or_pos L.length with h0 | h0
  · omega
  · have h1 := h (L.length - 1) _ (List.getElem?_eq_getElem (by omega))
    have := (List.getElem?_eq_some_iff.1 h1).1
    omega
theorem AtB.part {B : List Int} {p : Nat} {L : List Int} (h : AtB B p L) : (B.drop p).take L.length = L := by
  apply List.ext_getElem?
  intro i
  rw [List.getElem?_take]
  by_cases hi : i < L.length
  · rw [if_pos hi, List.getElem?_drop, List.getElem?_eq_getElem hi]
    exact h i _ (List.getElem?_eq_getElem hi)
  · rw [if_neg hi, List.getElem?_eq_none (by omega)]
theorem tk_at {B : List Int} {p : Nat} {L : List Int} (h : AtB B p L) (hp : p ≤ B.length) {n : Nat} (hn : n = L.length) : tk n B p = .ok (numI L, p + n) := by
  have := h.le hp
  unfold tk
  rw [if_neg (by omega), hn, h.part]
theorem at_pack {L : List Int} (h : AllBit L) : AtB (bitsOf (packI L)) 0 L := fun j x hj => by
  rw [bits_pack h, Nat.zero_add, List.getElem?_append_left (List.getElem?_eq_some_iff.1 hj).1]
  exact hj
theorem fix_ok : okB fixI = true := by decide +kernel
theorem sy_word {l B : List Int} {p s n : Nat} (h : okB l = true) (hs : Has l s n) (hB : AtB B p (wordB l s)) : sy l B p = .ok (s, p + n) := by
  have hr := read_word (B := B) (p := p) h hs hB
  unfold sy
  rw [hr]
  rfl
theorem fix_len {s : Nat} (h : s < 288) : Has fixI s (lenN fixI s) ∧ lenN fixI s ≤ 9 ∧ (256 ≤ s → lenN fixI s ≤ 8) := by
  have hall : ∀ s, s < 288 → (fixI[s]? = some ((lenN fixI s : Nat) : Int) ∧ 1 ≤ lenN fixI s) ∧ lenN fixI s ≤ 9 ∧ (256 ≤ s → lenN fixI s ≤ 8) := by decide +kernel
  exact hall s h
theorem end_len : lenN fixI 256 = 7 := by decide +kernel
/-- The bits of a byte, and of the end. -/
def litB (c : UInt8) : List Int := wordB fixI c.toNat
def endB : List Int := wordB fixI 256
theorem endB_len : endB.length = 7 := by unfold endB; rw [wordB_length]; exact end_len
section
variable {most : Nat} {B : List Int}
theorem sym_lit {out : By} {p : Nat} {c : UInt8} (hB : AtB B p (litB c)) (hm : out.length + 1 ≤ most) : symS most fixI five out B p = .ok (.inl (out ++ [c]), p + (litB c).length) := by
  have hc := c.toNat_lt
  have h1 := sy_word fix_ok (fix_len (s := c.toNat) (by omega)).1 hB
  unfold symS
  rw [bnd_of h1, if_neg (by omega), if_neg (by omega), if_neg (by omega)]
  unfold litB
  rw [wordB_length, UInt8.ofNat_toNat]
  rfl
theorem sym_end {out : By} {p : Nat} (hB : AtB B p endB) : symS most fixI five out B p = .ok (.inr out, p + 7) := by
  have h1 := sy_word fix_ok (fix_len (s := 256) (by omega)).1 hB
  rw [end_len] at h1
  unfold symS
  rw [bnd_of h1, if_pos rfl]
  rfl
theorem five_zero {p : Nat} (hB : AtB B p [0, 0, 0, 0, 0]) : sy five B p = .ok (0, p + 5) := by
  have b0 := hB 0 0 rfl
  have b1 := hB 1 0 rfl
  have b2 := hB 2 0 rfl
  have b3 := hB 3 0 rfl
  have b4 := hB 4 0 rfl
  rw [Nat.add_zero] at b0
  have hm : mostW (wordsL five) = 5 := by decide +kernel
  have f1 : findW (wordsL five) [0] = none := by decide +kernel
  have f2 : findW (wordsL five) [0, 0] = none := by decide +kernel
  have f3 : findW (wordsL five) [0, 0, 0] = none := by decide +kernel
  have f4 : findW (wordsL five) [0, 0, 0, 0] = none := by decide +kernel
  have f5 : findW (wordsL five) [0, 0, 0, 0, 0] = some 0 := by decide +kernel
  have hr : rdC five B p = (0, 0, p + 5) := by
    unfold rdC
    rw [hm]
    simp only [rdW, List.nil_append, List.cons_append, b0, f1, b1, f2, show p + 1 + 1 = p + 2 by omega, b2, f3, show p + 2 + 1 = p + 3 by omega, b3, f4, show p + 3 + 1 = p + 4 by omega, b4, f5]
  unfold sy
  rw [hr]
  rfl
theorem copy_one : ∀ (n : Nat) (out : By) (c : UInt8), out.getLast? = some c → copyL 1 n out = out ++ List.replicate n c
  | 0, out, c, _ => by simp [copyL]
  | n + 1, out, c, h => by
    rw [List.getLast?_eq_getElem?] at h
    rw [copyL, h, Option.getD_some, copy_one n _ c (by simp), List.append_assoc, List.replicate_succ]
    rfl
/-- A choice of a length's symbol. -/
def LenSym (ls : Nat → Nat) : Prop := ∀ n, 3 ≤ n → n ≤ 258 → ls n ≤ 28 ∧ spanB (ls n) ≤ n ∧ n - spanB (ls n) < 2 ^ spanX (ls n)
def againB (ls : Nat → Nat) (n : Nat) : List Int := wordB fixI (257 + ls n) ++ (lowI ((n - spanB (ls n) : Nat) : Int) (spanX (ls n)) ++ [0, 0, 0, 0, 0])
theorem span_small (k : Nat) (h : k ≤ 28) : spanX k ≤ 5 := by
  have hall : ∀ k, k < 29 → spanX k ≤ 5 := by decide +kernel
  exact hall k (by omega)
theorem again_len {ls : Nat → Nat} (hl : LenSym ls) {n : Nat} (h1 : 3 ≤ n) (h2 : n ≤ 258) : (againB ls n).length ≤ 18 := by
  obtain ⟨k1, _, _⟩ := hl n h1 h2
  have k2 := (fix_len (s := 257 + ls n) (by omega)).2.2 (by omega)
  have k3 := span_small _ k1
  unfold againB
  rw [List.length_append, List.length_append, wordB_length, lowI_length]
  simp
  omega
theorem sym_copy {ls : Nat → Nat} (hl : LenSym ls) {out : By} {p n : Nat} {c : UInt8} (hp : p ≤ B.length) (hc : out.getLast? = some c) (h1 : 3 ≤ n) (h2 : n ≤ 258) (hB : AtB B p (againB ls n)) (hm : out.length + n ≤ most) :
    symS most fixI five out B p = .ok (.inl (out ++ List.replicate n c), p + (againB ls n).length) := by
  obtain ⟨k1, k2, k3⟩ := hl n h1 h2
  have hb := hB.le hp
  unfold againB at hB hb ⊢
  obtain ⟨a1, a2⟩ := hB.split
  obtain ⟨a3, a4⟩ := a2.split
  have hw := wordB_length fixI (257 + ls n)
  rw [List.length_append, List.length_append] at hb
  have s1 := sy_word fix_ok (fix_len (s := 257 + ls n) (by omega)).1 a1
  rw [← hw] at s1
  have s2 := tk_at a3 (by omega) (lowI_length _ _).symm
  have s3 := five_zero a4
  rw [lowI_length] at s3 hb
  have hnum : numI (lowI ((n - spanB (ls n) : Nat) : Int) (spanX (ls n))) = ((n - spanB (ls n) : Nat) : Int) := by
    rw [numI_low]
    have : ((n - spanB (ls n) : Nat) : Int) < 2 ^ spanX (ls n) := by exact_mod_cast k3
    exact Int.emod_eq_of_lt (by omega) this
  rw [hnum] at s2
  have hne : out.length ≠ 0 := fun e => by
    rw [List.eq_nil_of_length_eq_zero e] at hc
    cases hc
  unfold symS
  rw [bnd_of s1, if_neg (by omega), if_pos (by omega), show 257 + ls n - 257 = ls n by omega]
  have hcp : copyM most five out (ls n) B (p + (wordB fixI (257 + ls n)).length) = .ok (out ++ List.replicate n c, p + (wordB fixI (257 + ls n)).length + spanX (ls n) + 5) := by
    unfold copyM
    rw [if_neg (by omega), bnd_of s2, bnd_of s3, if_neg (by omega)]
    have s4 : tk (farX 0) B (p + (wordB fixI (257 + ls n)).length + spanX (ls n) + 5) = .ok (0, p + (wordB fixI (257 + ls n)).length + spanX (ls n) + 5) := by
      unfold tk
      rw [show farX 0 = 0 from rfl, if_neg (by simp at hb; omega)]
      simp [numI]
    rw [bnd_of s4, show farB 0 + (0 : Int).toNat = 1 from rfl, if_neg (by omega), Int.toNat_natCast, show spanB (ls n) + (n - spanB (ls n)) = n by omega, if_neg (by omega), copy_one n out c hc]
    rfl
  rw [bnd_of hcp, List.length_append, List.length_append, lowI_length]
  have e : p + (wordB fixI (257 + ls n)).length + spanX (ls n) + 5 = p + ((wordB fixI (257 + ls n)).length + (spanX (ls n) + [(0 : Int), 0, 0, 0, 0].length)) := by
    rw [show [(0 : Int), 0, 0, 0, 0].length = 5 from rfl]
    omega
  rw [← e]
  rfl
/-- The symbols go on, round by round. -/
theorem syms_step {out out' : By} {p q : Nat} (h8 : B.length % 8 = 0) (hp : p ≤ B.length) (h : symS most fixI five out B p = .ok (.inl out', q)) : symsM most fixI five out B p = symsM most fixI five out' B q := by
  unfold symsM
  rw [loopM_eq (good_symS most fixI five) (prog_symS most fixI five) _ _ _ h8 hp, h]
theorem syms_end {out : By} {p q : Nat} (h8 : B.length % 8 = 0) (hp : p ≤ B.length) (h : symS most fixI five out B p = .ok (.inr out, q)) : symsM most fixI five out B p = .ok (out, q) := by
  unfold symsM
  rw [loopM_eq (good_symS most fixI five) (prog_symS most fixI five) _ _ _ h8 hp, h]
theorem syms_lits (h8 : B.length % 8 = 0) : ∀ (b out : By) (p : Nat), p ≤ B.length → AtB B p (b.flatMap litB) → out.length + b.length ≤ most → symsM most fixI five out B p = symsM most fixI five (out ++ b) B (p + (b.flatMap litB).length) ∧ p + (b.flatMap litB).length ≤ B.length
  | [], out, p, hp, _, _ => by simp [hp]
  | c :: b, out, p, hp, hB, hm => by
    rw [List.flatMap_cons] at hB ⊢
    obtain ⟨a1, a2⟩ := hB.split
    rw [List.length_cons] at hm
    have hs := sym_lit a1 (show out.length + 1 ≤ most by omega)
    have hq := a1.le hp
    rw [syms_step h8 hp hs]
    obtain ⟨i1, i2⟩ := syms_lits h8 b (out ++ [c]) (p + (litB c).length) hq a2 (by rw [List.length_append]; simp; omega)
    rw [i1, List.append_assoc, List.length_append, ← Nat.add_assoc]
    exact ⟨rfl, i2⟩
end
theorem litB_bits (c : UInt8) : AllBit (litB c) := wordB_bits _ _
theorem lits_bits (b : By) : AllBit (b.flatMap litB) := fun x hx => by
  obtain ⟨c, _, hc⟩ := List.mem_flatMap.1 hx
  exact litB_bits c x hc
/-- A fixed block of symbols is read. -/
theorem fixed_read {most : Nat} {L : List Int} (hL : AllBit L) {b : By} (h : ∀ B : List Int, B.length % 8 = 0 → AtB B 3 (L ++ endB) → 3 ≤ B.length → symsM most fixI five [] B 3 = .ok (b, 3 + L.length + 7)) :
    inflM most (bitsOf (packI ([1, 1, 0] ++ (L ++ endB)))) 0 = .ok (b, ([1, 1, 0] ++ (L ++ endB)).length) := by
  have hall : AllBit ([1, 1, 0] ++ (L ++ endB)) := AllBit.append (fun x hx => by simp at hx; omega) (hL.append (wordB_bits _ _))
  have hB := at_pack hall
  obtain ⟨B, hBB⟩ : ∃ B, B = bitsOf (packI ([1, 1, 0] ++ (L ++ endB))) := ⟨_, rfl⟩
  have h8 : B.length % 8 = 0 := by rw [hBB]; exact bits8 _
  rw [← hBB] at hB ⊢
  obtain ⟨a1, a2⟩ := hB.split
  have hle := hB.le (Nat.zero_le _)
  have hlen : ([1, 1, 0] ++ (L ++ endB)).length = 3 + L.length + 7 := by rw [List.length_append, List.length_append, endB_len]; simp; omega
  rw [hlen] at hle ⊢
  have t1 : tk 1 B 0 = .ok (1, 1) := tk_at (L := [1]) (fun j x hj => a1 j x (by cases j with
    | zero => exact hj
    | succ j => simp at hj)) (Nat.zero_le _) rfl
  have t2 : tk 2 B 1 = .ok (1, 3) := tk_at (L := [1, 0]) (fun j x hj => by
    have := a1 (j + 1) x (by simpa using hj)
    rw [show 0 + (j + 1) = 1 + j by omega] at this
    exact this) (by omega) rfl
  have hs := h B h8 a2 (by omega)
  unfold inflM
  rw [loopM_eq (good_blockS most) (prog_blockS most) _ _ _ h8 (Nat.zero_le _)]
  unfold blockS
  rw [bnd_of t1, bnd_of t2]
  have hk : kindM most 1 [] B 3 = .ok (b, 3 + L.length + 7) := by
    unfold kindM
    rw [if_neg (by decide), if_pos rfl]
    exact hs
  rw [bnd_of hk]
  rfl
def fixedV (b : By) : By := packI ([1, 1, 0] ++ (b.flatMap litB ++ endB))
theorem fixed_back {b : By} {most : Nat} (hm : b.length ≤ most) : inflM most (bitsOf (fixedV b)) 0 = .ok (b, ([1, 1, 0] ++ (b.flatMap litB ++ endB)).length) := by
  refine fixed_read (lits_bits b) (fun B h8 hB h3 => ?_)
  obtain ⟨a1, a2⟩ := hB.split
  obtain ⟨i1, i2⟩ := syms_lits h8 b [] 3 h3 a1 (by simpa using hm)
  rw [i1, List.nil_append]
  exact syms_end h8 i2 (sym_end a2)

/-! ### runs -/
def runB (ls : Nat → Nat) (c : UInt8) : Nat → Nat → List Int
  | 0, left => (List.replicate left c).flatMap litB
  | f + 1, left => if 3 ≤ left then againB ls (min left 258) ++ runB ls c f (left - min left 258) else (List.replicate left c).flatMap litB
/-- How many of these stand at the beginning. -/
def headN (c : UInt8) (b : By) : Nat := (b.takeWhile (· == c)).length
def runsB (ls : Nat → Nat) : Nat → By → List Int
  | 0, _ => []
  | _ + 1, [] => []
  | f + 1, c :: r => litB c ++ (runB ls c (headN c r) (headN c r) ++ runsB ls f (r.drop (headN c r)))
def runsV (ls : Nat → Nat) (b : By) : By := packI ([1, 1, 0] ++ (runsB ls b.length b ++ endB))
theorem again_bits (ls : Nat → Nat) (n : Nat) : AllBit (againB ls n) := (wordB_bits _ _).append ((low_bits _ _).append (fun x hx => by simp at hx; exact Or.inl hx))
theorem runB_bits (ls : Nat → Nat) (c : UInt8) : ∀ f left, AllBit (runB ls c f left)
  | 0, _ => lits_bits _
  | f + 1, left => by
    rw [runB]
    by_cases h : 3 ≤ left
    · rw [if_pos h]; exact (again_bits _ _).append (runB_bits ls c f _)
    · rw [if_neg h]; exact lits_bits _
theorem runsB_bits (ls : Nat → Nat) : ∀ f b, AllBit (runsB ls f b)
  | 0, _ => fun x hx => by cases hx
  | _ + 1, [] => fun x hx => by cases hx
  | f + 1, c :: r => (litB_bits c).append ((runB_bits ls c _ _).append (runsB_bits ls f _))
section
variable {most : Nat} {B : List Int} {ls : Nat → Nat}
theorem run_read (hl : LenSym ls) (h8 : B.length % 8 = 0) (c : UInt8) : ∀ (f left : Nat) (out : By) (p : Nat), left ≤ 3 * f + 2 → p ≤ B.length → out.getLast? = some c → AtB B p (runB ls c f left) → out.length + left ≤ most → symsM most fixI five out B p = symsM most fixI five (out ++ List.replicate left c) B (p + (runB ls c f left).length) ∧ p + (runB ls c f left).length ≤ B.length
  | 0, left, out, p, _, hp, _, hB, hm => by
    rw [runB] at hB ⊢
    exact syms_lits h8 (List.replicate left c) out p hp hB (by rw [List.length_replicate]; exact hm)
  | f + 1, left, out, p, hf, hp, hc, hB, hm => by
    rw [runB] at hB ⊢
    by_cases h3 : 3 ≤ left
    · rw [if_pos h3] at hB ⊢
      obtain ⟨a1, a2⟩ := hB.split
      have hk : 3 ≤ min left 258 ∧ min left 258 ≤ 258 ∧ min left 258 ≤ left := by omega
      have hs := sym_copy hl hp hc hk.1 hk.2.1 a1 (show out.length + min left 258 ≤ most by omega)
      rw [syms_step h8 hp hs]
      obtain ⟨i1, i2⟩ := run_read hl h8 c f (left - min left 258) (out ++ List.replicate (min left 258) c) (p + (againB ls (min left 258)).length) (by omega) (a1.le hp) (by
        rw [List.getLast?_append, List.getLast?_replicate, if_neg (by omega)]
        rfl) a2 (by rw [List.length_append, List.length_replicate]; omega)
      rw [i1, List.append_assoc, List.replicate_append_replicate, show min left 258 + (left - min left 258) = left by omega, List.length_append, ← Nat.add_assoc]
      exact ⟨rfl, i2⟩
    · rw [if_neg h3] at hB ⊢
      exact syms_lits h8 (List.replicate left c) out p hp hB (by rw [List.length_replicate]; exact hm)
theorem head_run (c : UInt8) : ∀ r : By, r = List.replicate (headN c r) c ++ r.drop (headN c r)
  | [] => rfl
  | x :: r => by
    unfold headN
    rw [List.takeWhile_cons]
    by_cases hx : x == c
    · rw [if_pos hx, List.length_cons, List.replicate_succ, List.drop_succ_cons, List.cons_append]
      have := head_run c r
      unfold headN at this
      rw [← this]
      congr 1
      simpa using hx
    · rw [if_neg hx]
      rfl
theorem headN_le (c : UInt8) (r : By) : headN c r ≤ r.length := by
  have h := congrArg List.length (head_run c r)
  rw [List.length_append, List.length_replicate] at h
  omega
theorem runs_read (hl : LenSym ls) (h8 : B.length % 8 = 0) : ∀ (f : Nat) (b out : By) (p : Nat), b.length ≤ f → p ≤ B.length → AtB B p (runsB ls f b) → out.length + b.length ≤ most → symsM most fixI five out B p = symsM most fixI five (out ++ b) B (p + (runsB ls f b).length) ∧ p + (runsB ls f b).length ≤ B.length
  | 0, b, out, p, hf, hp, _, _ => by
    obtain rfl : b = [] := List.eq_nil_of_length_eq_zero (by omega)
    simp [runsB, hp]
  | _ + 1, [], out, p, _, hp, _, _ => by simp [runsB, hp]
  | f + 1, c :: r, out, p, hf, hp, hB, hm => by
    rw [runsB] at hB ⊢
    rw [List.length_cons] at hf hm
    have hh := headN_le c r
    have hr := congrArg List.length (head_run c r)
    rw [List.length_append, List.length_replicate, List.length_drop] at hr
    obtain ⟨a1, a2⟩ := hB.split
    obtain ⟨a3, a4⟩ := a2.split
    have hs := sym_lit (most := most) a1 (show out.length + 1 ≤ most by omega)
    rw [syms_step h8 hp hs]
    obtain ⟨i1, i2⟩ := run_read (most := most) hl h8 c (headN c r) (headN c r) (out ++ [c]) (p + (litB c).length) (by omega) (a1.le hp) (by simp) a3 (by rw [List.length_append]; simp; omega)
    obtain ⟨j1, j2⟩ := runs_read hl h8 f (r.drop (headN c r)) (out ++ [c] ++ List.replicate (headN c r) c) (p + (litB c).length + (runB ls c (headN c r) (headN c r)).length) (by rw [List.length_drop]; omega) i2 a4 (by rw [List.length_append, List.length_append, List.length_replicate, List.length_drop]; simp; omega)
    rw [i1, j1, List.length_append, List.length_append, List.append_assoc, List.append_assoc]
    refine ⟨?_, by omega⟩
    have e : out ++ ([c] ++ (List.replicate (headN c r) c ++ r.drop (headN c r))) = out ++ c :: r := by
      rw [← head_run]
      rfl
    rw [e, show p + (litB c).length + (runB ls c (headN c r) (headN c r)).length + (runsB ls f (r.drop (headN c r))).length = p + ((litB c).length + ((runB ls c (headN c r) (headN c r)).length + (runsB ls f (r.drop (headN c r))).length)) by omega]
end
theorem runs_back {ls : Nat → Nat} (hl : LenSym ls) {b : By} {most : Nat} (hm : b.length ≤ most) : inflM most (bitsOf (runsV ls b)) 0 = .ok (b, ([1, 1, 0] ++ (runsB ls b.length b ++ endB)).length) := by
  refine fixed_read (runsB_bits ls _ b) (fun B h8 hB h3 => ?_)
  obtain ⟨a1, a2⟩ := hB.split
  obtain ⟨i1, i2⟩ := runs_read (most := most) hl h8 b.length b [] 3 (Nat.le_refl _) h3 a1 (by simpa using hm)
  rw [i1, List.nil_append]
  exact syms_end h8 i2 (sym_end a2)

/-! ### like bytes -/
theorem lit_len (c : UInt8) : (litB c).length ≤ 9 := by
  unfold litB
  rw [wordB_length]
  exact (fix_len (by have := c.toNat_lt; omega)).2.1
theorem lits_len (c : UInt8) : ∀ n, ((List.replicate n c).flatMap litB).length ≤ 9 * n
  | 0 => by simp
  | n + 1 => by
    have := lits_len c n
    have := lit_len c
    rw [List.replicate_succ, List.flatMap_cons, List.length_append]
    omega
theorem run_len {ls : Nat → Nat} (hl : LenSym ls) (c : UInt8) : ∀ f left, left ≤ 3 * f + 2 → (runB ls c f left).length ≤ 18 * (left / 258) + 36
  | 0, left, h => by
    have := lits_len c left
    rw [runB]
    omega
  | f + 1, left, h => by
    rw [runB]
    by_cases h3 : 3 ≤ left
    · rw [if_pos h3, List.length_append]
      have h1 := again_len hl (n := min left 258) (by omega) (by omega)
      by_cases hbig : 258 ≤ left
      · have ih := run_len hl c f (left - 258) (by omega)
        rw [show min left 258 = 258 by omega] at h1 ⊢
        omega
      · rw [show min left 258 = left by omega] at h1 ⊢
        rw [Nat.sub_self]
        have hz : runB ls c f 0 = [] := by cases f <;> simp [runB]
        rw [hz]
        simp
        omega
    · rw [if_neg h3]
      have := lits_len c left
      omega
theorem head_all (c : UInt8) : ∀ n, headN c (List.replicate n c) = n
  | 0 => rfl
  | n + 1 => by
    have ih := head_all c n
    unfold headN at *
    rw [List.replicate_succ, List.takeWhile_cons, if_pos (by simp), List.length_cons, ih]
theorem runs_like {ls : Nat → Nat} (hl : LenSym ls) (c : UInt8) (n : Nat) : (runsV ls (List.replicate n c)).length ≤ 8 + n / 100 := by
  unfold runsV
  rw [packI_length, List.length_append, List.length_append, endB_len, List.length_replicate]
  cases n with
  | zero => simp [runsB]
  | succ n =>
    have hd : runsB ls (n + 1) (List.replicate (n + 1) c) = litB c ++ (runB ls c n n ++ []) := by
      rw [List.replicate_succ, runsB, head_all, List.drop_of_length_le (by rw [List.length_replicate]; exact Nat.le_refl _)]
      cases n <;> rfl
    rw [hd, List.append_nil, List.length_append]
    have h1 := lit_len c
    have h2 := run_len hl c n n (by omega)
    simp only [List.length_cons, List.length_nil]
    omega
end Go.Proofs.YtcdhakfmljjaoaaGreatDoor.ft

/-
  What the laws ask of streams (mathematics).
-/
namespace Go.Proofs.YtcdhakfmljjaoaaGreatDoor.ft
set_option maxRecDepth 100000
open Go.Proofs.YtcdhakfmljjaoaaGreatDoor.fl Go.Proofs.YtcdhakfmljjaoaaGreatDoor.cd

/-- Bytes z are made b, and end where they end. -/
def Undo (z b : By) : Prop := ∀ most, b.length ≤ most → ∃ q, inflM most (bitsOf z) 0 = .ok (b, q) ∧ (q + 7) / 8 = z.length
theorem undo_store (b : By) : Undo (storeV b) b := fun most hm => ⟨_, store_back hm, by omega⟩
theorem undo_fixed (b : By) : Undo (fixedV b) b := fun most hm => ⟨_, fixed_back hm, by unfold fixedV; rw [packI_length]⟩
theorem undo_runs {ls : Nat → Nat} (hl : LenSym ls) (b : By) : Undo (runsV ls b) b := fun most hm => ⟨_, runs_back hl hm, by unfold runsV; rw [packI_length]⟩
theorem Undo.back {z b : By} (h : Undo z b) (hb : b.length ≤ 262144) (more : By) : inflV (z ++ more) b.length = (b, z.length, 0) := by
  obtain ⟨q, h1, h2⟩ := h b.length (Nat.le_refl _)
  have h3 := infl_more h1 more
  rw [h2, List.take_length] at h3
  rw [inflV_is hb h3, h2]
theorem Undo.long {z b : By} (h : Undo z b) (hb : b.length ≤ 262144) (h0 : 0 < b.length) : inflV z ((b.length : Int) - 1) = ([], 0, 3) := by
  obtain ⟨q, h1, h2⟩ := h b.length (Nat.le_refl _)
  rw [show (b.length : Int) - 1 = ((b.length - 1 : Nat) : Int) by omega]
  cases hi : inflM (b.length - 1) (bitsOf z) 0 with
  | ok v =>
    obtain ⟨o, q2⟩ := v
    have h3 := (rel_infl (show b.length - 1 ≤ b.length by omega) (bitsOf z) 0).1 _ hi
    rw [h1] at h3
    cases h3
    have := infl_le hi
    omega
  | error e =>
    rcases (rel_infl (show b.length - 1 ≤ b.length by omega) (bitsOf z) 0).2 _ hi with rfl | h3
    · exact (inflV_no (by omega) hi).1
    · rw [h1] at h3
      cases h3
section
variable {b : By} {most : Nat} (hm : most ≤ 262144)
include hm
theorem short_ok (h : (inflV b most).2.2 = 0) : 1 ≤ (inflV b most).2.1 ∧ (inflV b most).2.1 ≤ b.length ∧ (inflV b most).1.length ≤ most ∧ (∀ more, inflV (b.take (inflV b most).2.1 ++ more) most = inflV b most) ∧ ∀ k, k < (inflV b most).2.1 → inflV (b.take k) most = ([], 0, 7) := by
  obtain ⟨o, q, h1, h2, h3, h4, h5⟩ := inflV_ok hm h
  rw [h2]
  refine ⟨by show 1 ≤ (q + 7) / 8; omega, by show (q + 7) / 8 ≤ b.length; omega, h3, fun more => ?_, fun k hk => ?_⟩
  · exact inflV_is hm (infl_more h1 more)
  · exact (inflV_no hm (infl_short h1 hk)).1
theorem short_no (h : (inflV b most).2.2 ≠ 0) : (inflV b most).1 = [] ∧ (inflV b most).2.1 = 0 := by
  obtain ⟨e, _, h2⟩ := inflV_zero hm h
  rw [h2]
  exact ⟨rfl, rfl⟩
theorem bounds_ok {m2 : Nat} (h12 : most ≤ m2) (hm2 : m2 ≤ 262144) : (inflV b most).1.length ≤ most ∧ (inflV b most).2.1 ≤ b.length ∧ ((inflV b most).2.2 = 0 → inflV b m2 = inflV b most) ∧ ((inflV b most).2.2 ≠ 0 → (inflV b most).2.2 = 3 ∨ (inflV b most).2.2 = (inflV b m2).2.2) := by
  by_cases h : (inflV b most).2.2 = 0
  · obtain ⟨o, q, h1, h2, h3, h4, h5⟩ := inflV_ok hm h
    have h6 := (rel_infl h12 (bitsOf b) 0).1 _ h1
    refine ⟨by rw [h2]; exact h3, by rw [h2]; show (q + 7) / 8 ≤ b.length; omega, fun _ => ?_, fun hn => absurd h hn⟩
    rw [h2, inflV_is hm2 h6]
  · obtain ⟨e, h1, h2⟩ := inflV_zero hm h
    refine ⟨by rw [h2]; exact Nat.zero_le _, by rw [h2]; exact Nat.zero_le _, fun h0 => absurd h0 h, fun _ => ?_⟩
    rw [h2]
    rcases (rel_infl h12 (bitsOf b) 0).2 _ h1 with h3 | h3
    · exact Or.inl h3
    · rw [(inflV_no hm2 h3).1]
      exact Or.inr rfl
end
/-- The chapter's examples. -/
theorem ex_fix : fixedV [97] = [75, 4, 0] := by decide +kernel
theorem ex_a : inflV [75, 4, 0] 9 = ([97], 3, 0) := by
  have h := (undo_fixed [97]) 9 (by decide)
  rw [ex_fix] at h
  obtain ⟨q, h1, h2⟩ := h
  have h3 := inflV_is (most := 9) (by decide) h1
  rw [h2] at h3
  exact h3
theorem ex_b : inflV [1, 0, 0, 255, 255] 0 = ([], 5, 0) := by
  have hs : storeV [] = [1, 0, 0, 255, 255] := by decide
  have h := (undo_store []) 0 (by decide)
  rw [hs] at h
  obtain ⟨q, h1, h2⟩ := h
  have h3 := inflV_is (most := 0) (by decide) h1
  rw [h2] at h3
  exact h3
theorem ex_c : inflV [6] 9 = ([], 0, 110) := by
  have e : inflM 9 (bitsOf [6]) 0 = .error 110 := by
    unfold inflM
    rw [loopM_eq (good_blockS 9) (prog_blockS 9) _ _ _ (bits8 _) (Nat.zero_le _)]
    have t1 : tk 1 (bitsOf [6]) 0 = .ok (0, 1) := rfl
    have t2 : tk 2 (bitsOf [6]) 1 = .ok (3, 3) := rfl
    unfold blockS
    rw [bnd_of t1, bnd_of t2]
    rfl
  exact (inflV_no (most := 9) (by decide) e).1
end Go.Proofs.YtcdhakfmljjaoaaGreatDoor.ft

/-
  How long streams are (mathematics).
-/
namespace Go.Proofs.YtcdhakfmljjaoaaGreatDoor.ft
set_option maxRecDepth 100000
open Go.RowKit Go.Maps Go.Proofs.YtcdhakfmljjaoaaGreatDoor.fl Go.Proofs.YtcdhakfmljjaoaaGreatDoor.cd

theorem storeF_len : ∀ (f : Nat) (b : By), (storeF f b).length ≤ b.length + 5 * (f + 1)
  | 0, b => by simp [storeF, blkV]
  | f + 1, b => by
    rw [storeF]
    by_cases h : b.length ≤ 65535
    · rw [if_pos h]
      simp [blkV]
      omega
    · rw [if_neg h, List.length_append]
      have ih := storeF_len f (b.drop 65535)
      rw [List.length_drop] at ih
      have hb : (blkV 0 (b.take 65535)).length = 5 + 65535 := by
        unfold blkV
        rw [List.length_append, List.length_take]
        simp
        omega
      omega
theorem store_small (b : By) : (storeV b).length ≤ 2 * b.length + 20 := by
  have := storeF_len (b.length / 65535) b
  unfold storeV
  omega
theorem lits_small : ∀ b : By, (b.flatMap litB).length ≤ 9 * b.length
  | [] => by simp
  | c :: b => by
    have := lits_small b
    have := lit_len c
    rw [List.flatMap_cons, List.length_append, List.length_cons]
    omega
theorem fixed_small (b : By) : (fixedV b).length ≤ 2 * b.length + 20 := by
  have := lits_small b
  unfold fixedV
  rw [packI_length, List.length_append, List.length_append, endB_len]
  simp only [List.length_cons, List.length_nil]
  omega
theorem runB_small {ls : Nat → Nat} (hl : LenSym ls) (c : UInt8) : ∀ f left, (runB ls c f left).length ≤ 9 * left
  | 0, left => by
    rw [runB]
    exact lits_len c left
  | f + 1, left => by
    rw [runB]
    by_cases h3 : 3 ≤ left
    · rw [if_pos h3, List.length_append]
      have h1 := again_len hl (n := min left 258) (by omega) (by omega)
      have ih := runB_small hl c f (left - min left 258)
      omega
    · rw [if_neg h3]
      exact lits_len c left
theorem runsB_small {ls : Nat → Nat} (hl : LenSym ls) : ∀ (f : Nat) (b : By), (runsB ls f b).length ≤ 9 * b.length
  | 0, _ => by simp [runsB]
  | _ + 1, [] => by simp [runsB]
  | f + 1, c :: r => by
    have h1 := lit_len c
    have h2 := runB_small hl c (headN c r) (headN c r)
    have h3 := runsB_small hl f (r.drop (headN c r))
    have h4 := headN_le c r
    rw [List.length_drop] at h3
    rw [runsB, List.length_append, List.length_append, List.length_cons]
    omega
theorem runs_small {ls : Nat → Nat} (hl : LenSym ls) (b : By) : (runsV ls b).length ≤ 2 * b.length + 20 := by
  have := runsB_small hl b.length b
  unfold runsV
  rw [packI_length, List.length_append, List.length_append, endB_len]
  simp
  omega

end Go.Proofs.YtcdhakfmljjaoaaGreatDoor.ft

/-
  What is asked of the program's streams.
-/
namespace Go.Proofs.YtcdhakfmljjaoaaGreatDoor.ft
set_option maxRecDepth 100000
open Go.RowKit Go.Maps Go.Proofs.YtcdhakfmljjaoaaGreatDoor.fl Go.Proofs.YtcdhakfmljjaoaaGreatDoor.cd
set_option maxRecDepth 100000

theorem own_shapeB {w : World} {base n : Nat} {v : Value} {l : By} {xs : List Value} (hn : n = l.length) (hx : xs = bs l) (h : w.ownsRow base 5 1 v n xs) : ∃ A cap, v = .slice A n cap ∧ Own w base (.slice A l.length cap) l := by
  subst hn
  subst hx
  obtain ⟨h1, h2⟩ := id h
  rcases h2 with ⟨rfl, h0⟩ | ⟨g, cap, cur, rfl, hg, hh, r⟩
  · refine ⟨none, 0, by rw [h0], ?_⟩
    rw [h0]
    exact h
  · exact ⟨_, cap, rfl, h⟩
theorem own_past_ge {w0 w : World} {n : Nat} {v : Value} {xs : List Value} {q : Nat} (h : w.ownsRow w0.heap.size 5 1 v n xs) (e : v.ownBlock = some q) : False ∨ w0.heap.size ≤ q := by
  rcases h.2 with ⟨rfl, _⟩ | ⟨g, cap, cur, rfl, hg, _⟩
  · cases e
  · cases e
    exact Or.inr hg
/-- New bytes, to be read. -/
def NewR (w : World) (l : By) (e : Ending) (w' : World) : Prop := ∃ A cap, e = .returned (.slice A l.length cap) ∧ Rd w' w'.heap.size A l ∧ (A = none → cap = 0) ∧ l.length ≤ cap ∧ Fr (fun _ => False) w w'
/-- The program's streams, as the chapter has them. D: what lies in the program's data (its tables). -/
structure FlateP (D : World → Prop) (ls : Nat → Nat) : Prop where
  lens : LenSym ls
  d_keep : ∀ {w w' : World}, D w → Fr (fun _ => False) w w' → D w'
  inflate : ∀ (w : World) (A : Option Addr) (cap : Nat) (b : By) (most : Int), Rd w w.heap.size A b → (A = none → cap = 0) → b.length ≤ cap → b.length ≤ 4000000 → Big most → D w → Calls Tryz.prog 29 #[.slice A b.length cap, .int .i64 most] w fun e w' => ∃ A' cap', e = .returned (.tuple #[.slice A' (inflV b most).1.length cap', .int .i64 ((inflV b most).2.1 : Nat), .int .i64 (inflV b most).2.2]) ∧ Rd w' w'.heap.size A' (inflV b most).1 ∧ Fr (fun _ => False) w w'
  runs : ∀ (w : World) (A : Option Addr) (cap : Nat) (b : By), Rd w w.heap.size A b → (A = none → cap = 0) → b.length ≤ cap → b.length ≤ 262144 → D w → Calls Tryz.prog 38 #[.slice A b.length cap] w (NewR w (runsV ls b))
end Go.Proofs.YtcdhakfmljjaoaaGreatDoor.ft
