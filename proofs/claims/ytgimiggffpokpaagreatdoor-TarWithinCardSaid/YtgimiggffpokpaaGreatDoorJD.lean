/-
  Texts that belong together, joined: HeM VrM.
-/
import Derived.Test.YtgimiggffpokpaaGreatDoorJA
import Derived.Test.YtgimiggffpokpaaGreatDoorPtM

/-
  Headers as bytes (mathematics).
-/

namespace Go.Proofs.YtgimiggffpokpaaGreatDoor.he
set_option maxRecDepth 100000

abbrev Bts := List UInt8
/-- A text: up to the first 0. -/
def textL (b : Bts) : Bts := b.takeWhile (fun x => decide (x ≠ 0))
def isD (x : UInt8) : Bool := decide (48 ≤ x.toNat) && decide (x.toNat ≤ 55)
def num8 (l : Bts) : Nat := l.foldl (fun n x => 8 * n + (x.toNat - 48)) 0
def skipB (b : Bts) : Bts := b.dropWhile (fun x => decide (x = 32))
def digB (b : Bts) : Bts := ((skipB b).take 12).takeWhile isD
def endB (x : UInt8) : Bool := decide (x = 32) || decide (x = 0)
/-- Octal. -/
def octalV (b : Bts) : Int × Int :=
  if (digB b).length < 1 ∨ 11 < (digB b).length ∨ (skipB b).drop (digB b).length = [] ∨ ((skipB b).drop (digB b).length).all endB = false then (0, 130) else ((num8 (digB b) : Int), 0)
def sumAt (i : Nat) (x : UInt8) : Nat := if 148 ≤ i ∧ i < 156 then 32 else x.toNat
def sumF (i : Nat) : Bts → Nat
  | [] => 0
  | x :: r => sumAt i x + sumF (i + 1) r
def sumV (b : Bts) : Nat := sumF 0 b
def emptyV (b : Bts) : Bool := b.all (fun x => decide (x = 0)) && decide (b.length = 512)
structure Hd where
  name : Bts
  link : Bts
  mode : Int
  size : Int
  kind : UInt8
def noHd : Hd := ⟨[], [], 0, 0, 0⟩
def fld (b : Bts) (a k : Nat) : Bts := (b.drop a).take k
def ustar : Bts := [117, 115, 116, 97, 114, 0, 48, 48]
def nameV (b : Bts) : Bts := if textL (fld b 345 155) = [] then textL (fld b 0 100) else textL (fld b 345 155) ++ 47 :: textL (fld b 0 100)
def kindV (x : UInt8) : UInt8 := if x = 0 then 48 else x
/-- May it be a header? -/
def headB (b : Bts) : Prop := b.length = 512 ∧ fld b 257 8 = ustar ∧ (octalV (fld b 100 8)).2 = 0 ∧ (octalV (fld b 124 12)).2 = 0 ∧ (octalV (fld b 148 8)).2 = 0 ∧ (octalV (fld b 148 8)).1 = (sumV b : Int) ∧ (octalV (fld b 124 12)).1 ≤ 262144 ∧ textL (fld b 0 100) ≠ []
instance (b : Bts) : Decidable (headB b) := inferInstanceAs (Decidable (_ ∧ _))
def headOf (b : Bts) : Hd := ⟨nameV b, textL (fld b 157 100), (octalV (fld b 100 8)).1 % 4096, (octalV (fld b 124 12)).1, kindV (b.getD 156 0)⟩
def parseV (b : Bts) : Hd × Int := if headB b then (headOf b, 0) else (noHd, 130)

/-! ### numbers -/
theorem octal_cases (b : Bts) : octalV b = (0, 130) ∨ (octalV b = ((num8 (digB b) : Int), 0) ∧ 1 ≤ (digB b).length ∧ (digB b).length ≤ 11 ∧ (skipB b).drop (digB b).length ≠ [] ∧ ((skipB b).drop (digB b).length).all endB = true) := by
  unfold octalV
  by_cases h : (digB b).length < 1 ∨ 11 < (digB b).length ∨ (skipB b).drop (digB b).length = [] ∨ ((skipB b).drop (digB b).length).all endB = false
  · rw [if_pos h]; exact Or.inl rfl
  · rw [if_neg h]
    refine Or.inr ⟨rfl, by omega, by omega, fun e => h (Or.inr (Or.inr (Or.inl e))), ?_⟩
    cases e : ((skipB b).drop (digB b).length).all endB with
    | true => rfl
    | false => exact absurd (Or.inr (Or.inr (Or.inr e))) h
theorem octal_nonneg (b : Bts) : 0 ≤ (octalV b).1 := by
  rcases octal_cases b with h | ⟨h, _⟩ <;> rw [h] <;> simp
/-- k digits to the base 8. -/
def octL : Nat → Nat → Bts
  | 0, _ => []
  | k + 1, x => octL k (x / 8) ++ [UInt8.ofNat (48 + x % 8)]
theorem octL_length : ∀ k x, (octL k x).length = k
  | 0, _ => rfl
  | k + 1, x => by rw [octL, List.length_append, octL_length k]; rfl
theorem dig_of (x : Nat) : isD (UInt8.ofNat (48 + x % 8)) = true ∧ (UInt8.ofNat (48 + x % 8)).toNat = 48 + x % 8 := by
  have h : (UInt8.ofNat (48 + x % 8)).toNat = 48 + x % 8 := by rw [UInt8.toNat_ofNat']; omega
  refine ⟨?_, h⟩
  unfold isD
  rw [h, decide_eq_true (by omega), decide_eq_true (by omega)]; rfl
theorem octL_digs : ∀ k x, ∀ y ∈ octL k x, isD y = true
  | 0, _, y, h => by cases h
  | k + 1, x, y, h => by
    rw [octL] at h
    rcases List.mem_append.1 h with h | h
    · exact octL_digs k _ y h
    · rw [List.mem_singleton.1 h]; exact (dig_of x).1
theorem num8_snoc (l : Bts) (y : UInt8) : num8 (l ++ [y]) = 8 * num8 l + (y.toNat - 48) := by unfold num8; rw [List.foldl_append]; rfl
theorem num8_octL : ∀ k x, num8 (octL k x) = x % 8 ^ k
  | 0, x => by simp [octL, num8, Nat.mod_one]
  | k + 1, x => by
    rw [octL, num8_snoc, num8_octL k, (dig_of x).2, Nat.pow_succ, Nat.mul_comm (8 ^ k) 8, Nat.mod_mul]
    omega
theorem isD_ne {y : UInt8} (h : isD y = true) : y ≠ 32 ∧ y ≠ 0 := by
  unfold isD at h
  simp only [Bool.and_eq_true, decide_eq_true_eq] at h
  constructor <;> rintro rfl <;> revert h <;> decide
theorem takeWhile_all {p : UInt8 → Bool} : ∀ {l r : Bts}, (∀ y ∈ l, p y = true) → (∀ y, r.head? = some y → p y = false) → (l ++ r).takeWhile p = l
  | [], [], _, _ => rfl
  | [], y :: r, _, h => by simp [h y rfl]
  | x :: l, r, h, k => by rw [List.cons_append, List.takeWhile_cons, h x (by simp), if_pos rfl, takeWhile_all (fun y hy => h y (by simp [hy])) k]
theorem octal_back {k x : Nat} {t : Bts} (hk : 1 ≤ k) (hk2 : k ≤ 11) (hx : x < 8 ^ k) (ht : t ≠ []) (he : t.all endB = true) : octalV (octL k x ++ t) = ((x : Int), 0) := by
  have hl := octL_length k x
  have hd := octL_digs k x
  have h0 : ∃ y r, octL k x = y :: r := by
    cases h : octL k x with
    | nil => rw [h] at hl; simp at hl; omega
    | cons y r => exact ⟨y, r, rfl⟩
  have hs : skipB (octL k x ++ t) = octL k x ++ t := by
    obtain ⟨y, r, e⟩ := h0
    have hy := (isD_ne (hd y (by rw [e]; simp))).1
    unfold skipB
    rw [e, List.cons_append, List.dropWhile_cons, if_neg (by simp [hy])]
  have hg : digB (octL k x ++ t) = octL k x := by
    unfold digB
    rw [hs, List.take_append, List.take_of_length_le (by omega), hl]
    refine takeWhile_all hd (fun y hy => ?_)
    have hm : y ∈ t := by
      have := List.mem_of_mem_head? hy
      exact List.mem_of_mem_take this
    have := List.all_eq_true.1 he y hm
    cases hD : isD y with
    | false => rfl
    | true =>
      have h2 := isD_ne hD
      unfold endB at this
      simp [h2.1, h2.2] at this
  unfold octalV
  rw [hg, hs, ← hl, List.drop_left, hl, if_neg (by rintro (e | e | e | e); omega; omega; exact ht e; rw [he] at e; cases e), num8_octL, Nat.mod_eq_of_lt hx]

/-! ### how Octal goes -/
theorem skip_next {b : Bts} {i : Nat} (h : b[i]? = some 32) : skipB (b.drop i) = skipB (b.drop (i + 1)) := by
  obtain ⟨h1, h2⟩ := List.getElem?_eq_some_iff.1 h
  unfold skipB
  rw [List.drop_eq_getElem_cons h1, h2, List.dropWhile_cons, if_pos (by simp)]
theorem skip_stop {b : Bts} {i : Nat} {x : UInt8} (h : b[i]? = some x) (hx : x ≠ 32) : skipB (b.drop i) = b.drop i := by
  obtain ⟨h1, h2⟩ := List.getElem?_eq_some_iff.1 h
  unfold skipB
  rw [List.drop_eq_getElem_cons h1, h2, List.dropWhile_cons, if_neg (by simp [hx])]
theorem skip_end {b : Bts} : skipB (b.drop b.length) = b.drop b.length := by rw [List.drop_length]; rfl
theorem fold8_lt : ∀ (l : Bts) (n : Nat), (∀ y ∈ l, isD y = true) → l.foldl (fun n x => 8 * n + (x.toNat - 48)) n < (n + 1) * 8 ^ l.length
  | [], n, _ => by simp
  | y :: l, n, h => by
    have hy := h y (by simp)
    unfold isD at hy
    simp only [Bool.and_eq_true, decide_eq_true_eq] at hy
    have ih := fold8_lt l (8 * n + (y.toNat - 48)) (fun z hz => h z (by simp [hz]))
    rw [List.foldl_cons, List.length_cons, Nat.pow_succ]
    have h1 : (8 * n + (y.toNat - 48) + 1) * 8 ^ l.length ≤ (8 * (n + 1)) * 8 ^ l.length := Nat.mul_le_mul_right _ (by omega)
    have h2 : (8 * (n + 1)) * 8 ^ l.length = (n + 1) * (8 ^ l.length * 8) := by rw [Nat.mul_comm 8 (n + 1), Nat.mul_assoc, Nat.mul_comm 8]
    omega
theorem num8_lt (l : Bts) (h : ∀ y ∈ l, isD y = true) : num8 l < 8 ^ l.length := by
  have := fold8_lt l 0 h
  rwa [Nat.zero_add, Nat.one_mul] at this
structure DgI (r : Bts) (m v : Nat) : Prop where
  le : m ≤ 12
  in_ : m ≤ r.length
  digs : ∀ y ∈ r.take m, isD y = true
  val : v = num8 (r.take m)
theorem DgI.zero (r : Bts) : DgI r 0 0 := ⟨by omega, Nat.zero_le _, by simp, rfl⟩
theorem DgI.next {r : Bts} {m v : Nat} {x : UInt8} (h : DgI r m v) (hx : r[m]? = some x) (hd : isD x = true) (hm : m < 12) : DgI r (m + 1) (8 * v + (x.toNat - 48)) :=
  ⟨hm, (List.getElem?_eq_some_iff.1 hx).1, fun y hy => by
    rw [List.take_add_one, hx] at hy
    rcases List.mem_append.1 hy with hy | hy
    · exact h.digs y hy
    · simp at hy; subst hy; exact hd, by rw [List.take_add_one, hx, h.val]; exact (num8_snoc _ x).symm⟩
theorem DgI.small {r : Bts} {m v : Nat} (h : DgI r m v) : v < 68719476736 := by
  have h1 := num8_lt (r.take m) h.digs
  rw [← h.val, List.length_take] at h1
  have h2 : (8 : Nat) ^ min m r.length ≤ 8 ^ 12 := Nat.pow_le_pow_right (by omega) (by have := h.le; omega)
  omega
theorem DgI.stop {r : Bts} {m v : Nat} (h : DgI r m v) (hs : m = r.length ∨ m = 12 ∨ ∃ x, r[m]? = some x ∧ isD x = false) : (r.take 12).takeWhile isD = r.take m := by
  have e : r.take 12 = r.take m ++ (r.take 12).drop m := by
    conv => lhs; rw [← List.take_append_drop m (r.take 12), List.take_take, Nat.min_eq_left h.le]
  rw [e]
  refine takeWhile_all h.digs (fun y hy => ?_)
  rw [List.head?_drop, List.getElem?_take] at hy
  rcases hs with hs | hs | ⟨x, hx, hd⟩
  · rw [List.getElem?_eq_none (by omega)] at hy
    split at hy <;> cases hy
  · rw [if_neg (by omega)] at hy; cases hy
  · rw [hx] at hy
    split at hy
    · cases hy; exact hd
    · cases hy
/-- Where the digits end. -/
structure OcI (b : Bts) (i0 m v : Nat) : Prop where
  skip : skipB b = b.drop i0
  dig : digB b = (b.drop i0).take m
  len : m + i0 ≤ b.length
  le : m ≤ 12
  val : v = num8 (digB b)
theorem OcI.of {b : Bts} {i0 m v : Nat} (hi : i0 ≤ b.length) (hk : skipB b = b.drop i0) (h : DgI (b.drop i0) m v) (hs : m = (b.drop i0).length ∨ m = 12 ∨ ∃ x, (b.drop i0)[m]? = some x ∧ isD x = false) : OcI b i0 m v :=
  have hd : digB b = (b.drop i0).take m := by unfold digB; rw [hk]; exact h.stop hs
  ⟨hk, hd, by have := h.in_; rw [List.length_drop] at this; omega, h.le, by rw [hd]; exact h.val⟩
theorem OcI.digl {b : Bts} {i0 m v : Nat} (h : OcI b i0 m v) : (digB b).length = m := by rw [h.dig, List.length_take, List.length_drop]; have := h.len; omega
theorem OcI.rest {b : Bts} {i0 m v : Nat} (h : OcI b i0 m v) : (skipB b).drop (digB b).length = b.drop (i0 + m) := by rw [h.digl, h.skip, List.drop_drop]
theorem OcI.bad {b : Bts} {i0 m v : Nat} (h : OcI b i0 m v) (hb : m < 1 ∨ 11 < m ∨ i0 + m = b.length) : octalV b = (0, 130) := by
  unfold octalV
  rw [if_pos]
  rw [h.rest, h.digl]
  rcases hb with hb | hb | hb
  · exact Or.inl hb
  · exact Or.inr (Or.inl hb)
  · exact Or.inr (Or.inr (Or.inl (by rw [hb, List.drop_length])))
theorem OcI.worse {b : Bts} {i0 m v j : Nat} {x : UInt8} (h : OcI b i0 m v) (hj : i0 + m ≤ j) (hx : b[j]? = some x) (he : endB x = false) : octalV b = (0, 130) := by
  unfold octalV
  rw [if_pos]
  rw [h.rest]
  refine Or.inr (Or.inr (Or.inr (List.all_eq_false.2 ⟨x, ?_, by rw [he]; simp⟩)))
  refine List.mem_of_getElem? (i := j - (i0 + m)) ?_
  rw [List.getElem?_drop, show i0 + m + (j - (i0 + m)) = j by omega, hx]
theorem OcI.good {b : Bts} {i0 m v : Nat} (h : OcI b i0 m v) (h1 : 1 ≤ m) (h2 : m ≤ 11) (h3 : i0 + m < b.length) (he : (b.drop (i0 + m)).all endB = true) : octalV b = ((v : Int), 0) := by
  unfold octalV
  rw [if_neg, h.val]
  rw [h.rest, h.digl, he]
  rintro (e | e | e | e)
  · omega
  · omega
  · have := congrArg List.length e; rw [List.length_drop, List.length_nil] at this; omega
  · cases e

/-! ### sums -/
theorem sumF_app : ∀ (a b : Bts) (i : Nat), sumF i (a ++ b) = sumF i a + sumF (i + a.length) b
  | [], b, i => by simp [sumF]
  | x :: a, b, i => by rw [List.cons_append, sumF, sumF, sumF_app a b, List.length_cons, show i + 1 + a.length = i + (a.length + 1) by omega, Nat.add_assoc]
theorem sumAt_le (i : Nat) (x : UInt8) : sumAt i x ≤ 255 := by
  unfold sumAt
  have := x.toNat_lt
  split <;> omega
theorem sumF_le : ∀ (b : Bts) (i : Nat), sumF i b ≤ 255 * b.length
  | [], i => by simp [sumF]
  | x :: r, i => by have := sumF_le r (i + 1); have := sumAt_le i x; rw [sumF, List.length_cons]; omega
/-- A byte that is turned turns the sum. -/
theorem sumF_set : ∀ (b : Bts) (i k : Nat) (y : UInt8) (h : k < b.length), ¬ (148 ≤ i + k ∧ i + k < 156) → sumF i (b.set k y) + b[k].toNat = sumF i b + y.toNat
  | [], _, _, _, h, _ => by simp at h
  | x :: r, i, 0, y, _, hn => by
    rw [List.set_cons_zero, sumF, sumF]
    unfold sumAt
    rw [if_neg (by omega), if_neg (by omega)]
    simp only [List.getElem_cons_zero]
    omega
  | x :: r, i, k + 1, y, h, hn => by
    have ih := sumF_set r (i + 1) k y (by simpa using h) (by omega)
    rw [List.set_cons_succ, sumF, sumF]
    simp only [List.getElem_cons_succ]
    omega
theorem fld_set {b : Bts} {k a n : Nat} (y : UInt8) (h : k < a ∨ a + n ≤ k) : fld (b.set k y) a n = fld b a n := by
  unfold fld
  rcases h with h | h
  · rw [List.drop_set_of_lt h]
  · rw [List.drop_set, if_neg (by omega)]
    rw [List.take_set_of_le (by omega)]

/-! ### Print -/
def partedV (s : Bts) : Option (Bts × Bts) := if s = [] then none else if s.length ≤ 100 then some ([], s) else (List.range s.length).reverse.findSome? fun i => if 0 < i ∧ s[i]? = some 47 ∧ i ≤ 155 ∧ 1 ≤ s.length - i - 1 ∧ s.length - i - 1 ≤ 100 then some (s.take i, s.drop (i + 1)) else none
def padR (k : Nat) (s : Bts) : Bts := s ++ List.replicate (k - s.length) 0
def preH (name : Bts) (mode size : Nat) : Bts := padR 100 name ++ (octL 7 mode ++ [0]) ++ (octL 7 0 ++ [0]) ++ (octL 7 0 ++ [0]) ++ (octL 11 size ++ [0]) ++ (octL 11 0 ++ [0])
def postH (kind : UInt8) (link pre : Bts) : Bts := [kind] ++ padR 100 link ++ ustar ++ List.replicate 80 0 ++ padR 155 pre ++ List.replicate 12 0
def hdrV (name link pre : Bts) (mode size : Nat) (kind : UInt8) (s8 : Bts) : Bts := preH name mode size ++ s8 ++ postH kind link pre
def sum8 (s : Nat) : Bts := octL 6 s ++ [0, 32]
def mayH (h : Hd) : Prop := (partedV h.name).isSome = true ∧ h.link.length ≤ 100 ∧ (0 : UInt8) ∉ h.name ∧ (0 : UInt8) ∉ h.link ∧ 0 ≤ h.mode ∧ h.mode ≤ 4095 ∧ 0 ≤ h.size ∧ h.size ≤ 262144 ∧ h.kind ≠ 0
instance (h : Hd) : Decidable (mayH h) := inferInstanceAs (Decidable (_ ∧ _))
def blankV (h : Hd) (q : Bts × Bts) : Bts := hdrV q.2 h.link q.1 h.mode.toNat h.size.toNat h.kind (List.replicate 8 0)
def printB (h : Hd) (q : Bts × Bts) : Bts := hdrV q.2 h.link q.1 h.mode.toNat h.size.toNat h.kind (sum8 (sumV (blankV h q)))
def printV (h : Hd) : Bts × Int := match partedV h.name with
  | none => ([], 2)
  | some q => if mayH h then (printB h q, 0) else ([], 2)
theorem padR_len {k : Nat} {s : Bts} (h : s.length ≤ k) : (padR k s).length = k := by unfold padR; rw [List.length_append, List.length_replicate]; omega
theorem text_pad {k : Nat} {s : Bts} (h : (0 : UInt8) ∉ s) : textL (padR k s) = s := by
  unfold textL padR
  refine takeWhile_all (fun y hy => decide_eq_true (fun e => h (e ▸ hy))) (fun y hy => ?_)
  have := List.mem_of_mem_head? hy
  rw [List.eq_of_mem_replicate this]
  rfl
theorem parted_some {s : Bts} {q : Bts × Bts} (h : partedV s = some q) : q.2 ≠ [] ∧ q.2.length ≤ 100 ∧ q.1.length ≤ 155 ∧ ((q.1 = [] ∧ q.2 = s) ∨ (q.1 ≠ [] ∧ s = q.1 ++ 47 :: q.2)) := by
  unfold partedV at h
  by_cases h0 : s = []
  · rw [if_pos h0] at h; cases h
  · rw [if_neg h0] at h
    by_cases h1 : s.length ≤ 100
    · rw [if_pos h1] at h
      cases h
      exact ⟨h0, h1, Nat.zero_le _, Or.inl ⟨rfl, rfl⟩⟩
    · rw [if_neg h1] at h
      obtain ⟨i, _, hi⟩ := List.exists_of_findSome?_eq_some h
      split at hi
      · rename_i hc
        cases hi
        obtain ⟨c1, c2, c3, c4, c5⟩ := hc
        have hl := (List.getElem?_eq_some_iff.1 c2).1
        refine ⟨?_, ?_, ?_, Or.inr ⟨?_, ?_⟩⟩
        · intro e; have := congrArg List.length e; rw [List.length_drop, List.length_nil] at this; omega
        · simp; omega
        · simp; omega
        · intro e; have := congrArg List.length e; rw [List.length_take, List.length_nil] at this; omega
        · show s = s.take i ++ 47 :: s.drop (i + 1)
          conv => lhs; rw [← List.take_append_drop i s, List.drop_eq_getElem_cons hl, (List.getElem?_eq_some_iff.1 c2).2]
      · cases hi
theorem preH_len {name : Bts} {mode size : Nat} (h : name.length ≤ 100) : (preH name mode size).length = 148 := by
  unfold preH
  simp only [List.length_append, padR_len h, octL_length, List.length_singleton]
theorem postH_len {kind : UInt8} {link pre : Bts} (h1 : link.length ≤ 100) (h2 : pre.length ≤ 155) : (postH kind link pre).length = 356 := by
  unfold postH ustar
  simp only [List.length_append, padR_len h1, padR_len h2, List.length_replicate, List.length_cons, List.length_nil]
theorem hdr_len {name link pre s8 : Bts} {mode size : Nat} {kind : UInt8} (h1 : name.length ≤ 100) (h2 : link.length ≤ 100) (h3 : pre.length ≤ 155) (h4 : s8.length = 8) : (hdrV name link pre mode size kind s8).length = 512 := by
  unfold hdrV
  rw [List.length_append, List.length_append, preH_len h1, postH_len h2 h3, h4]
theorem sumF_eight : ∀ (s t : Bts), s.length = t.length → ∀ i, 148 ≤ i → i + s.length ≤ 156 → sumF i s = sumF i t
  | [], [], _, _, _, _ => rfl
  | x :: s, y :: t, h, i, h1, h2 => by
    rw [List.length_cons] at h2
    rw [sumF, sumF, sumF_eight s t (by simpa using h) (i + 1) (by omega) (by omega)]
    unfold sumAt
    rw [if_pos (by omega), if_pos (by omega)]
  | [], _ :: _, h, _, _, _ => by simp at h
  | _ :: _, [], h, _, _, _ => by simp at h
theorem sum_hdr {name link pre s8 t8 : Bts} {mode size : Nat} {kind : UInt8} (h1 : name.length ≤ 100) (h4 : s8.length = 8) (h5 : t8.length = 8) : sumV (hdrV name link pre mode size kind s8) = sumV (hdrV name link pre mode size kind t8) := by
  unfold sumV hdrV
  rw [sumF_app, sumF_app, sumF_app, sumF_app, List.length_append, List.length_append, preH_len h1, h4, h5, sumF_eight s8 t8 (by omega) _ (by omega) (by omega)]
theorem fld_mid {a f c : Bts} {n k : Nat} (h1 : a.length = n) (h2 : f.length = k) : fld (a ++ f ++ c) n k = f := by
  unfold fld
  rw [List.append_assoc, ← h1, List.drop_left, ← h2, List.take_left]
theorem sum8_len (s : Nat) : (sum8 s).length = 8 := by unfold sum8; rw [List.length_append, octL_length]; rfl
/-- What a header that was printed holds. -/
theorem print_fields {h : Hd} {q : Bts × Bts} {s8 : Bts} (hq1 : q.2.length ≤ 100) (hq2 : q.1.length ≤ 155) (hl : h.link.length ≤ 100) (h8 : s8.length = 8) :
    let b := hdrV q.2 h.link q.1 h.mode.toNat h.size.toNat h.kind s8
    b.length = 512 ∧ fld b 0 100 = padR 100 q.2 ∧ fld b 100 8 = octL 7 h.mode.toNat ++ [0] ∧ fld b 124 12 = octL 11 h.size.toNat ++ [0] ∧ fld b 148 8 = s8 ∧ b.getD 156 0 = h.kind ∧ fld b 157 100 = padR 100 h.link ∧ fld b 257 8 = ustar ∧ fld b 345 155 = padR 155 q.1 := by
  intro b
  have p1 := padR_len hq1
  have p2 := padR_len hl
  have p3 := padR_len hq2
  have o7 := fun x => octL_length 7 x
  have o11 := fun x => octL_length 11 x
  refine ⟨hdr_len hq1 hl hq2 h8, ?_, ?_, ?_, ?_, ?_, ?_, ?_, ?_⟩
  · have e : b = [] ++ padR 100 q.2 ++ ((octL 7 h.mode.toNat ++ [0]) ++ (octL 7 0 ++ [0]) ++ (octL 7 0 ++ [0]) ++ (octL 11 h.size.toNat ++ [0]) ++ (octL 11 0 ++ [0]) ++ s8 ++ postH h.kind h.link q.1) := by show hdrV _ _ _ _ _ _ _ = _; unfold hdrV preH; simp only [List.append_assoc, List.nil_append]
    rw [e]; exact fld_mid rfl p1
  · have e : b = padR 100 q.2 ++ (octL 7 h.mode.toNat ++ [0]) ++ ((octL 7 0 ++ [0]) ++ (octL 7 0 ++ [0]) ++ (octL 11 h.size.toNat ++ [0]) ++ (octL 11 0 ++ [0]) ++ s8 ++ postH h.kind h.link q.1) := by show hdrV _ _ _ _ _ _ _ = _; unfold hdrV preH; simp only [List.append_assoc]
    rw [e]; exact fld_mid p1 (by simp [o7])
  · have e : b = (padR 100 q.2 ++ (octL 7 h.mode.toNat ++ [0]) ++ (octL 7 0 ++ [0]) ++ (octL 7 0 ++ [0])) ++ (octL 11 h.size.toNat ++ [0]) ++ ((octL 11 0 ++ [0]) ++ s8 ++ postH h.kind h.link q.1) := by show hdrV _ _ _ _ _ _ _ = _; unfold hdrV preH; simp only [List.append_assoc]
    rw [e]; exact fld_mid (by simp [o7, p1]) (by simp [o11])
  · exact fld_mid (preH_len hq1) h8
  · have e : b = (preH q.2 h.mode.toNat h.size.toNat ++ s8) ++ (h.kind :: (padR 100 h.link ++ ustar ++ List.replicate 80 0 ++ padR 155 q.1 ++ List.replicate 12 0)) := by show hdrV _ _ _ _ _ _ _ = _; unfold hdrV postH; simp only [List.append_assoc, List.cons_append, List.nil_append]
    have hl9 : (preH q.2 h.mode.toNat h.size.toNat ++ s8).length = 156 := by rw [List.length_append, preH_len hq1, h8]
    rw [e, List.getD_eq_getElem?_getD, ← hl9, List.getElem?_append_right (Nat.le_refl _), Nat.sub_self]
    rfl
  · have e : b = (preH q.2 h.mode.toNat h.size.toNat ++ s8 ++ [h.kind]) ++ padR 100 h.link ++ (ustar ++ List.replicate 80 0 ++ padR 155 q.1 ++ List.replicate 12 0) := by show hdrV _ _ _ _ _ _ _ = _; unfold hdrV postH; simp only [List.append_assoc]
    rw [e]; exact fld_mid (by rw [List.length_append, List.length_append, preH_len hq1, h8]; rfl) p2
  · have e : b = (preH q.2 h.mode.toNat h.size.toNat ++ s8 ++ [h.kind] ++ padR 100 h.link) ++ ustar ++ (List.replicate 80 0 ++ padR 155 q.1 ++ List.replicate 12 0) := by show hdrV _ _ _ _ _ _ _ = _; unfold hdrV postH; simp only [List.append_assoc]
    rw [e]; exact fld_mid (by rw [List.length_append, List.length_append, List.length_append, preH_len hq1, h8, p2]; rfl) rfl
  · have e : b = (preH q.2 h.mode.toNat h.size.toNat ++ s8 ++ [h.kind] ++ padR 100 h.link ++ ustar ++ List.replicate 80 0) ++ padR 155 q.1 ++ List.replicate 12 0 := by show hdrV _ _ _ _ _ _ _ = _; unfold hdrV postH; simp only [List.append_assoc]
    rw [e]; exact fld_mid (by rw [List.length_append, List.length_append, List.length_append, List.length_append, List.length_append, preH_len hq1, h8, p2, List.length_replicate]; rfl) p3
theorem print_ok {h : Hd} {b : Bts} (hp : printV h = (b, 0)) : ∃ q, partedV h.name = some q ∧ mayH h ∧ b = printB h q := by
  unfold printV at hp
  cases hq : partedV h.name with
  | none => rw [hq] at hp; cases hp
  | some q =>
    rw [hq] at hp
    by_cases hm : mayH h
    · simp only [hm, if_true] at hp
      exact ⟨q, rfl, hm, (Prod.mk.inj hp).1.symm⟩
    · simp only [hm, if_false] at hp
      cases hp
theorem print_no {h : Hd} {b : Bts} {z : Int} (hp : printV h = (b, z)) (hz : z ≠ 0) : b = [] ∧ z = 2 := by
  unfold printV at hp
  cases hq : partedV h.name with
  | none => rw [hq] at hp; cases hp; exact ⟨rfl, rfl⟩
  | some q =>
    rw [hq] at hp
    by_cases hm : mayH h
    · simp only [hm, if_true] at hp; cases hp; exact absurd rfl hz
    · simp only [hm, if_false] at hp; cases hp; exact ⟨rfl, rfl⟩
theorem print_sum {h : Hd} {b : Bts} (hp : printV h = (b, 0)) : b.length = 512 ∧ octalV (fld b 148 8) = ((sumV b : Int), 0) := by
  obtain ⟨q, hq, hm, rfl⟩ := print_ok hp
  obtain ⟨q1, q2, q3, _⟩ := parted_some hq
  have hf := print_fields (h := h) q2 q3 hm.2.1 (sum8_len (sumV (blankV h q)))
  have hs : sumV (printB h q) = sumV (blankV h q) := sum_hdr q2 (sum8_len _) (by simp)
  refine ⟨hf.1, ?_⟩
  have h5 := hf.2.2.2.2.1
  show octalV (fld (printB h q) 148 8) = _
  rw [show fld (printB h q) 148 8 = sum8 (sumV (blankV h q)) from h5, hs]
  have hb : sumV (blankV h q) < 8 ^ 6 := by
    have := sumF_le (blankV h q) 0
    have hl : (blankV h q).length = 512 := (print_fields (h := h) q2 q3 hm.2.1 (s8 := List.replicate 8 0) (by simp)).1
    rw [hl] at this
    have : sumV (blankV h q) ≤ 255 * 512 := this
    omega
  exact octal_back (by omega) (by omega) hb (by simp) (by decide)
/-- What was told is read. -/
theorem parse_print {h : Hd} {b : Bts} (hp : printV h = (b, 0)) : parseV b = (h, 0) ∧ emptyV b = false := by
  obtain ⟨hl, hsum⟩ := print_sum hp
  obtain ⟨q, hq, hm, rfl⟩ := print_ok hp
  obtain ⟨q1, q2, q3, q4⟩ := parted_some hq
  obtain ⟨f1, f2, f3, f4, f5, f6, f7, f8, f9⟩ := print_fields (h := h) q2 q3 hm.2.1 (sum8_len (sumV (blankV h q)))
  have e : printB h q = hdrV q.2 h.link q.1 h.mode.toNat h.size.toNat h.kind (sum8 (sumV (blankV h q))) := rfl
  rw [← e] at f1 f2 f3 f4 f5 f6 f7 f8 f9
  clear e
  obtain ⟨B, hB⟩ : ∃ B, B = printB h q := ⟨_, rfl⟩
  rw [← hB] at f1 f2 f3 f4 f5 f6 f7 f8 f9 hl hsum ⊢
  clear hB f1 f5
  obtain ⟨m1, m2, m3, m4, m5, m6, m7, m8, m9⟩ := hm
  have z2 : (0 : UInt8) ∉ q.2 ∧ (0 : UInt8) ∉ q.1 := by
    rcases q4 with ⟨e1, e2⟩ | ⟨_, e2⟩
    · rw [e1, e2]; exact ⟨m3, by simp⟩
    · rw [e2] at m3
      exact ⟨fun hc => m3 (by simp [hc]), fun hc => m3 (by simp [hc])⟩
  have t1 : textL (fld B 0 100) = q.2 := by rw [f2]; exact text_pad z2.1
  have t2 : textL (fld B 345 155) = q.1 := by rw [f9]; exact text_pad z2.2
  have t3 : textL (fld B 157 100) = h.link := by rw [f7]; exact text_pad m4
  have o1 : octalV (fld B 100 8) = (h.mode, 0) := by
    rw [f3, octal_back (by omega) (by omega) (by omega) (by simp) (by decide)]
    congr 1; omega
  have o2 : octalV (fld B 124 12) = (h.size, 0) := by
    rw [f4, octal_back (by omega) (by omega) (by omega) (by simp) (by decide)]
    congr 1; omega
  constructor
  · unfold parseV
    rw [if_pos ⟨hl, f8, by rw [o1], by rw [o2], by rw [hsum], by rw [hsum], by rw [o2]; exact m8, by rw [t1]; exact q1⟩]
    unfold headOf nameV kindV
    rw [t1, t2, t3, o1, o2, f6, if_neg m9]
    have hn : (if q.1 = [] then q.2 else q.1 ++ 47 :: q.2) = h.name := by
      rcases q4 with ⟨e1, e2⟩ | ⟨e1, e2⟩
      · rw [if_pos e1, e2]
      · rw [if_neg e1, e2]
    rw [hn]
    have hmd : h.mode % 4096 = h.mode := by omega
    simp only [hmd]
  · unfold emptyV
    cases ha : B.all (fun x => decide (x = 0)) with
    | false => rfl
    | true =>
      exfalso
      have hu : ∀ x ∈ fld B 257 8, x = 0 := fun x hx => by
        have : x ∈ B := List.mem_of_mem_drop (List.mem_of_mem_take hx)
        exact of_decide_eq_true (List.all_eq_true.1 ha x this)
      rw [f8] at hu
      exact absurd (hu 117 (by decide)) (by decide)
/-- A byte turned is found. -/
theorem parse_turned {h : Hd} {b : Bts} (hp : printV h = (b, 0)) {k : Nat} {y : UInt8} (hk : k < b.length) (hn : ¬ (148 ≤ k ∧ k < 156)) (hy : y ≠ b[k]) : parseV (b.set k y) = (noHd, 130) := by
  obtain ⟨hl, hsum⟩ := print_sum hp
  unfold parseV
  rw [if_neg]
  rintro ⟨_, _, _, _, _, h6, _⟩
  rw [fld_set y (by omega), hsum] at h6
  have hs := sumF_set b 0 k y hk (by omega)
  have h7 : sumF 0 b = sumF 0 (b.set k y) := by
    have : ((sumV b : Nat) : Int) = ((sumV (b.set k y) : Nat) : Int) := h6
    exact_mod_cast this
  have : b[k].toNat = y.toNat := by omega
  exact hy (UInt8.toNat_inj.1 this.symm)
/-- What a header tells is within bounds. -/
theorem parse_within {b : Bts} {h : Hd} (hp : parseV b = (h, 0)) : h.name ≠ [] ∧ h.name.length ≤ 256 ∧ h.link.length ≤ 100 ∧ 0 ≤ h.mode ∧ h.mode ≤ 4095 ∧ 0 ≤ h.size ∧ h.size ≤ 262144 ∧ h.kind ≠ 0 := by
  unfold parseV at hp
  by_cases hh : headB b
  · rw [if_pos hh] at hp
    obtain ⟨rfl, -⟩ := Prod.mk.inj hp
    have tl : ∀ a k, (textL (fld b a k)).length ≤ k := fun a k => by
      unfold textL fld
      exact Nat.le_trans (List.takeWhile_sublist _).length_le (by rw [List.length_take]; omega)
    obtain ⟨_, _, _, _, _, _, h7, h8⟩ := hh
    refine ⟨?_, ?_, tl 157 100, Int.emod_nonneg _ (by omega), ?_, octal_nonneg _, h7, ?_⟩
    · show nameV b ≠ []
      unfold nameV
      split
      · exact h8
      · simp
    · show (nameV b).length ≤ 256
      unfold nameV
      have := tl 345 155
      have := tl 0 100
      split
      · omega
      · rw [List.length_append, List.length_cons]; omega
    · have := Int.emod_lt_of_pos (octalV (fld b 100 8)).1 (show (0 : Int) < 4096 by omega)
      show (octalV (fld b 100 8)).1 % 4096 ≤ 4095
      omega
    · show kindV _ ≠ 0
      unfold kindV
      split
      · decide
      · assumption
  · rw [if_neg hh] at hp
    cases hp
theorem parse_no {b : Bts} {h : Hd} {z : Int} (hp : parseV b = (h, z)) (hz : z ≠ 0) : h = noHd ∧ z = 130 := by
  unfold parseV at hp
  by_cases hh : headB b
  · rw [if_pos hh] at hp; cases hp; exact absurd rfl hz
  · rw [if_neg hh] at hp; cases hp; exact ⟨rfl, rfl⟩
theorem ex_octal : octalV [48, 48, 48, 48, 54, 52, 52, 32] = (420, 0) := by decide
end Go.Proofs.YtgimiggffpokpaaGreatDoor.he

/-
  Versions (mathematics).
-/

namespace Go.Proofs.YtgimiggffpokpaaGreatDoor.vr
set_option maxRecDepth 100000
open Go.Proofs.YtgimiggffpokpaaGreatDoor.pt (Tx splitB joinB split_join join_split split_all split_ne split_len)

/-- A version. -/
@[ext] structure Ve where
  parts : List Int
  tail : Tx
deriving DecidableEq
def noV : Ve := ⟨[], []⟩
def tailCh (b : UInt8) : Bool := (decide (97 ≤ b.toNat) && decide (b.toNat ≤ 122)) || (decide (48 ≤ b.toNat) && decide (b.toNat ≤ 57))
def tailB (t : Tx) : Bool := t.all tailCh && decide (t.length ≤ 8)
def partB (n : Int) : Bool := decide (0 ≤ n) && decide (n ≤ 999999)
def okV (v : Ve) : Bool := decide (1 ≤ v.parts.length) && decide (v.parts.length ≤ 4) && tailB v.tail && v.parts.all partB
def checkV (v : Ve) : Int := if okV v then 0 else 170

/-! ### numbers and their digits -/
def digB (b : UInt8) : Bool := decide (48 ≤ b.toNat) && decide (b.toNat ≤ 57)
def numL (s : Tx) : Nat := s.foldl (fun n b => n * 10 + (b.toNat - 48)) 0
def wholeB (s : Tx) (d : Nat) : Bool := decide (s ≠ []) && decide (s.length ≤ d) && (decide (s.length ≤ 1) || decide (s.head? ≠ some 48)) && s.all digB
def wholeV (s : Tx) (d : Nat) : Option Nat := if wholeB s d then some (numL s) else none
def dch (n : Nat) : UInt8 := UInt8.ofNat (48 + n)
theorem dch_nat (n : Nat) (h : n < 10) : (dch n).toNat = 48 + n := by unfold dch; rw [UInt8.toNat_ofNat']; omega
theorem dch_dig (n : Nat) (h : n < 10) : digB (dch n) = true := by unfold digB; rw [dch_nat n h]; simp; omega
theorem dch_of {b : UInt8} (h : digB b = true) : dch (b.toNat - 48) = b ∧ b.toNat - 48 < 10 := by
  unfold digB at h
  simp at h
  refine ⟨?_, by omega⟩
  apply UInt8.toNat_inj.1
  rw [dch_nat _ (by omega)]
  omega
def itoaV (n : Nat) : Tx := if n < 10 then [dch n] else itoaV (n / 10) ++ [dch (n % 10)]
termination_by n
decreasing_by omega
theorem numL_snoc (s : Tx) (b : UInt8) : numL (s ++ [b]) = numL s * 10 + (b.toNat - 48) := by unfold numL; rw [List.foldl_append]; rfl
theorem itoa_small {n : Nat} (h : n < 10) : itoaV n = [dch n] := by rw [itoaV, if_pos h]
theorem itoa_big {n : Nat} (h : ¬ n < 10) : itoaV n = itoaV (n / 10) ++ [dch (n % 10)] := by rw [itoaV, if_neg h]
theorem itoa_ne (n : Nat) : itoaV n ≠ [] := by
  by_cases h : n < 10
  · rw [itoa_small h]; simp
  · rw [itoa_big h]; simp
theorem num_itoa (n : Nat) : numL (itoaV n) = n := by
  induction n using Nat.strongRecOn with
  | ind n ih =>
    by_cases h : n < 10
    · rw [itoa_small h]
      show 0 * 10 + ((dch n).toNat - 48) = n
      rw [dch_nat n h]
      omega
    · rw [itoa_big h, numL_snoc, ih (n / 10) (by omega), dch_nat _ (by omega)]
      omega
theorem itoa_dig (n : Nat) : (itoaV n).all digB = true := by
  induction n using Nat.strongRecOn with
  | ind n ih =>
    by_cases h : n < 10
    · rw [itoa_small h]; simp [dch_dig n h]
    · rw [itoa_big h, List.all_append, ih (n / 10) (by omega)]
      simp [dch_dig (n % 10) (by omega)]
theorem itoa_head (n : Nat) (h : n ≠ 0) : (itoaV n).head? ≠ some 48 := by
  induction n using Nat.strongRecOn with
  | ind n ih =>
    by_cases h1 : n < 10
    · rw [itoa_small h1]
      intro e
      have e2 : dch n = 48 := by simpa using e
      have := congrArg UInt8.toNat e2
      rw [dch_nat n h1] at this
      change 48 + n = 48 at this
      omega
    · rw [itoa_big h1]
      have h2 := ih (n / 10) (by omega) (by omega)
      cases hs : itoaV (n / 10) with
      | nil => exact absurd hs (itoa_ne _)
      | cons x r =>
        rw [hs] at h2
        simpa using h2
theorem itoa_len (n k : Nat) (hk : n < 10 ^ (k + 1)) : (itoaV n).length ≤ k + 1 := by
  induction k generalizing n with
  | zero => rw [itoa_small (by omega)]; simp
  | succ k ih =>
    by_cases h : n < 10
    · rw [itoa_small h]; simp
    · rw [itoa_big h, List.length_append]
      have := ih (n / 10) (by rw [Nat.pow_succ] at hk; omega)
      simp only [List.length_singleton]
      omega
theorem whole_itoa (n : Nat) (h : n ≤ 999999) : wholeV (itoaV n) 6 = some n := by
  have h1 := itoa_len n 5 (by omega)
  have hb : wholeB (itoaV n) 6 = true := by
    unfold wholeB
    rw [itoa_dig]
    have h2 : ((itoaV n).length ≤ 1) ∨ (itoaV n).head? ≠ some 48 := by
      by_cases h0 : n = 0
      · rw [h0, itoa_small (by omega)]; simp
      · exact Or.inr (itoa_head n h0)
    simp only [Bool.and_eq_true, Bool.or_eq_true, decide_eq_true_iff, and_true]
    exact ⟨⟨itoa_ne n, h1⟩, h2⟩
  unfold wholeV
  rw [if_pos hb, num_itoa]
theorem digits_back : ∀ (n : Nat) (r : Tx) (x : UInt8), r.length = n → digB x = true → x ≠ 48 → r.all digB = true → itoaV (numL (x :: r)) = x :: r
  | 0, r, x, hn, hx, _, _ => by
    obtain rfl := List.eq_nil_of_length_eq_zero hn
    show itoaV (0 * 10 + (x.toNat - 48)) = [x]
    obtain ⟨h1, h2⟩ := dch_of hx
    rw [itoa_small (by omega), show 0 * 10 + (x.toNat - 48) = x.toNat - 48 by omega, h1]
  | n + 1, r, x, hn, hx, h0, hr => by
    rcases List.eq_nil_or_concat r with rfl | ⟨L, y, rfl⟩
    · cases hn
    · rw [List.concat_eq_append] at hn hr ⊢
      rw [List.all_append] at hr
      simp only [Bool.and_eq_true] at hr
      have hy : digB y = true := by simpa using hr.2
      obtain ⟨h1, h2⟩ := dch_of hy
      have h3 := digits_back n L x (by rw [List.length_append] at hn; simpa using hn) hx h0 hr.1
      rw [← List.cons_append, numL_snoc]
      have hpos : 0 < numL (x :: L) := by
        apply Nat.pos_of_ne_zero
        intro e
        rw [e, itoa_small (by omega)] at h3
        have : dch 0 = x := (List.cons.inj h3).1
        exact h0 (by rw [← this]; rfl)
      rw [itoa_big (by omega), show (numL (x :: L) * 10 + (y.toNat - 48)) / 10 = numL (x :: L) by omega, show (numL (x :: L) * 10 + (y.toNat - 48)) % 10 = y.toNat - 48 by omega, h3, h1]
theorem itoa_whole {s : Tx} {d n : Nat} (h : wholeV s d = some n) : itoaV n = s := by
  unfold wholeV at h
  split at h
  case isFalse => cases h
  case isTrue hb =>
    obtain rfl := Option.some.inj h
    unfold wholeB at hb
    simp only [Bool.and_eq_true, Bool.or_eq_true, decide_eq_true_iff] at hb
    obtain ⟨⟨⟨h1, _⟩, h3⟩, h4⟩ := hb
    cases s with
    | nil => exact absurd rfl h1
    | cons x r =>
      have hx : digB x = true ∧ r.all digB = true := by simpa using h4
      by_cases h0 : x = 48
      · have hr : r = [] := by
          rcases h3 with h3 | h3
          · simp at h3; exact h3
          · exact absurd (by rw [h0]; rfl) h3
        subst hr
        subst h0
        show itoaV 0 = [48]
        rw [itoa_small (by omega)]
        rfl
      · exact digits_back _ r x rfl hx.1 h0 hx.2

/-! ### read, told -/
def headV (s : Tx) : Tx := s.takeWhile (fun b => decide (b ≠ 45))
def restV (s : Tx) : Tx := s.dropWhile (fun b => decide (b ≠ 45))
/-- All of a list's numbers, or none. -/
def wholesV : List Tx → Option (List Int)
  | [] => some []
  | x :: l => match wholeV x 6 with
    | none => none
    | some n => match wholesV l with
      | none => none
      | some r => some ((n : Int) :: r)
def rawV (s : Tx) : Option Ve :=
  if restV s ≠ [] ∧ (restV s).tail = [] then none else
  match wholesV (splitB 46 (headV s)) with
  | none => none
  | some l => if okV ⟨l, (restV s).tail⟩ then some ⟨l, (restV s).tail⟩ else none
def parseV (s : Tx) : Ve × Int := match rawV s with
  | none => (noV, 170)
  | some v => (v, 0)
def tailT (t : Tx) : Tx := if t = [] then [] else 45 :: t
def numsT (l : List Int) : Tx := joinB 46 (l.map fun n => itoaV n.toNat)
def printV (v : Ve) : Tx × Int := if okV v then (numsT v.parts ++ tailT v.tail, 0) else ([], 170)
theorem okV_of {v : Ve} (h : okV v = true) : 1 ≤ v.parts.length ∧ v.parts.length ≤ 4 ∧ tailB v.tail = true ∧ v.parts.all partB = true := by
  unfold okV at h
  simp only [Bool.and_eq_true, decide_eq_true_iff] at h
  exact ⟨h.1.1.1, h.1.1.2, h.1.2, h.2⟩
theorem wholes_itoa : ∀ (l : List Int), l.all partB = true → wholesV (l.map fun n => itoaV n.toNat) = some l
  | [], _ => rfl
  | x :: l, h => by
    have hx : partB x = true ∧ l.all partB = true := by simpa using h
    have h1 : 0 ≤ x ∧ x ≤ 999999 := by simpa [partB] using hx.1
    simp only [List.map_cons, wholesV, whole_itoa x.toNat (by omega), wholes_itoa l hx.2]
    rw [Int.toNat_of_nonneg h1.1]
theorem itoa_wholes : ∀ {ls : List Tx} {l : List Int}, wholesV ls = some l → (l.map fun n => itoaV n.toNat) = ls ∧ l.length = ls.length
  | [], l, h => by cases h; exact ⟨rfl, rfl⟩
  | x :: ls, l, h => by
    simp only [wholesV] at h
    cases h1 : wholeV x 6 with
    | none => rw [h1] at h; cases h
    | some n =>
      rw [h1] at h
      cases h2 : wholesV ls with
      | none => rw [h2] at h; cases h
      | some r =>
        rw [h2] at h
        obtain rfl := (Option.some.inj h).symm
        obtain ⟨h3, h4⟩ := itoa_wholes h2
        exact ⟨by simp only [List.map_cons, Int.toNat_natCast, itoa_whole h1, h3], by simp [h4]⟩
theorem dig_ne {s : Tx} (h : s.all digB = true) (c : UInt8) (hc : c = 46 ∨ c = 45) : c ∉ s := fun hm => by
  have := List.all_eq_true.1 h c hm
  rcases hc with rfl | rfl <;> exact absurd this (by decide)
theorem tail_ne {s : Tx} (h : tailB s = true) : (45 : UInt8) ∉ s := fun hm => by
  unfold tailB at h
  simp only [Bool.and_eq_true] at h
  exact absurd (List.all_eq_true.1 h.1 45 hm) (by decide)
theorem join_mem {c x : UInt8} (hx : x ≠ c) : ∀ {l : List Tx}, (∀ p ∈ l, x ∉ p) → x ∉ joinB c l
  | [], _ => by simp [joinB]
  | [a], h => h a (by simp)
  | a :: b :: r, h => by
    intro hm
    rw [pt.join_cons (by simp)] at hm
    rcases List.mem_append.1 hm with hm | hm
    · exact h a (by simp) hm
    · rcases List.mem_cons.1 hm with e | hm
      · exact hx e
      · exact join_mem hx (l := b :: r) (fun p hp => h p (by simp [List.mem_cons.1 hp])) hm
theorem cut_at {a b : Tx} (ha : (45 : UInt8) ∉ a) : headV (a ++ 45 :: b) = a ∧ restV (a ++ 45 :: b) = 45 :: b := by
  unfold headV restV
  have h : ∀ x ∈ a, (fun y : UInt8 => decide (y ≠ 45)) x = true := fun x hx => by
    simp only [decide_eq_true_iff]
    intro e
    exact ha (e ▸ hx)
  rw [List.takeWhile_append_of_pos h, List.dropWhile_append_of_pos h]
  simp
theorem cut_no {a : Tx} (ha : (45 : UInt8) ∉ a) : headV a = a ∧ restV a = [] := by
  unfold headV restV
  have h : ∀ x ∈ a, (fun y : UInt8 => decide (y ≠ 45)) x = true := fun x hx => by
    simp only [decide_eq_true_iff]
    intro e
    exact ha (e ▸ hx)
  have h1 := List.takeWhile_append_of_pos (l₂ := []) h
  have h2 := List.dropWhile_append_of_pos (l₂ := []) h
  simp at h1 h2
  exact ⟨by simpa using h1, by simpa using h2⟩
theorem nums_no (l : List Int) : (45 : UInt8) ∉ numsT l := join_mem (by decide) (fun p hp => by
  obtain ⟨n, _, rfl⟩ := List.mem_map.1 hp
  exact dig_ne (itoa_dig _) _ (Or.inr rfl))
theorem parse_print {v : Ve} (h : okV v = true) : parseV (printV v).1 = (v, 0) := by
  obtain ⟨h1, h2, h3, h4⟩ := okV_of h
  have hs : splitB 46 (numsT v.parts) = v.parts.map fun n => itoaV n.toNat := split_join (by intro e; rw [List.map_eq_nil_iff] at e; rw [e] at h1; simp at h1) (fun p hp => by
    obtain ⟨n, _, rfl⟩ := List.mem_map.1 hp
    exact dig_ne (itoa_dig _) _ (Or.inl rfl))
  have hw := wholes_itoa v.parts h4
  unfold printV
  rw [if_pos h]
  show parseV (numsT v.parts ++ tailT v.tail) = (v, 0)
  have hr : rawV (numsT v.parts ++ tailT v.tail) = some v := by
    unfold rawV tailT
    by_cases ht : v.tail = []
    · rw [if_pos ht, List.append_nil, (cut_no (nums_no v.parts)).1, (cut_no (nums_no v.parts)).2, hs, hw]
      have e : (⟨v.parts, []⟩ : Ve) = v := by ext1 <;> simp [ht]
      simp [e, h]
    · rw [if_neg ht, (cut_at (nums_no v.parts)).1, (cut_at (nums_no v.parts)).2, hs, hw]
      simp [ht, h]
  unfold parseV
  rw [hr]
theorem cut_back (s : Tx) : headV s ++ restV s = s := List.takeWhile_append_dropWhile
theorem rest_head {s : Tx} (h : restV s ≠ []) : restV s = 45 :: (restV s).tail := by
  unfold restV at h ⊢
  cases hd : s.dropWhile (fun b => decide (b ≠ 45)) with
  | nil => exact absurd hd h
  | cons x r =>
    have := List.head?_dropWhile_not (fun b : UInt8 => decide (b ≠ 45)) s
    rw [hd] at this
    simp at this
    rw [this]
    rfl
theorem raw_of {s : Tx} {v : Ve} (h : rawV s = some v) : okV v = true ∧ numsT v.parts = headV s ∧ v.tail = (restV s).tail ∧ (restV s = [] ∨ (restV s).tail ≠ []) := by
  unfold rawV at h
  split at h
  · cases h
  · rename_i hn
    cases hw : wholesV (splitB 46 (headV s)) with
    | none => rw [hw] at h; cases h
    | some l =>
      rw [hw] at h
      simp only at h
      split at h
      · rename_i hok
        obtain rfl := Option.some.inj h
        refine ⟨hok, ?_, rfl, ?_⟩
        · show joinB 46 (l.map fun n => itoaV n.toNat) = headV s
          rw [(itoa_wholes hw).1, join_split]
        · by_cases h0 : restV s = []
          · exact Or.inl h0
          · exact Or.inr (fun e => hn ⟨h0, e⟩)
      · cases h
theorem print_parse {s : Tx} {v : Ve} (h : rawV s = some v) : printV v = (s, 0) := by
  obtain ⟨h1, h2, h3, h4⟩ := raw_of h
  unfold printV
  rw [if_pos h1, h2]
  have ht : tailT v.tail = restV s := by
    unfold tailT
    rw [h3]
    rcases h4 with h4 | h4
    · rw [h4]; rfl
    · rw [if_neg h4]
      exact (rest_head (by intro e; rw [e] at h4; exact h4 rfl)).symm
  rw [ht, cut_back]
end Go.Proofs.YtgimiggffpokpaaGreatDoor.vr
