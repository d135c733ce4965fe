/-
  Plain mathematics of bits of bytes: numbers, maps, runs. No dump.
-/
import Derived.Laws.BitsLemmas
import Derived.WalkKit
namespace Go.Proofs.Ytnibbopdjeagoaa
set_option maxRecDepth 100000
open Go Go.RowKit

/-! ### numbers -/
def leNum : List UInt8 → Nat
  | [] => 0
  | b :: t => b.toNat + 256 * leNum t
theorem leNum_snoc (l : List UInt8) (b : UInt8) : leNum (l ++ [b]) = leNum l + 256 ^ l.length * b.toNat := by
  induction l with
  | nil => simp [leNum]
  | cons x t ih =>
    simp only [List.cons_append, leNum, ih, List.length_cons, Nat.pow_succ]
    rw [Nat.mul_add, Nat.mul_comm (256 ^ t.length) 256, Nat.mul_assoc, Nat.add_assoc]
theorem leNum_lt (l : List UInt8) : leNum l < 256 ^ l.length := by
  induction l with
  | nil => simp [leNum]
  | cons x t ih =>
    have := x.toNat_lt
    simp only [leNum, List.length_cons, Nat.pow_succ]
    omega
def numAt (l : List UInt8) (a k : Nat) : Nat := leNum ((l.drop a).take k)
theorem numAt_zero (l : List UInt8) (a : Nat) : numAt l a 0 = 0 := by simp [numAt, leNum]
theorem drop_take_succ (l : List UInt8) {a k : Nat} (h : a + k < l.length) : (l.drop a).take (k + 1) = (l.drop a).take k ++ [l[a + k]] := by
  rw [List.take_succ_eq_append_getElem (by rw [List.length_drop]; omega), List.getElem_drop]
theorem numAt_succ (l : List UInt8) {a k : Nat} (h : a + k < l.length) : numAt l a (k + 1) = numAt l a k + 256 ^ k * l[a + k].toNat := by
  unfold numAt
  rw [drop_take_succ l h, leNum_snoc, List.length_take, List.length_drop, Nat.min_eq_left (by omega)]
theorem numAt_cons (l : List UInt8) {a k : Nat} (h : a < l.length) : numAt l a (k + 1) = l[a].toNat + 256 * numAt l (a + 1) k := by
  unfold numAt
  rw [List.drop_eq_getElem_cons h, List.take_succ_cons]
  rfl
theorem numAt_lt (l : List UInt8) (a k : Nat) : numAt l a k < 256 ^ k := by
  unfold numAt
  refine Nat.lt_of_lt_of_le (leNum_lt _) (Nat.pow_le_pow_right (by decide) ?_)
  rw [List.length_take]; omega
theorem p4 {k : Nat} (h : k < 4) : 256 ^ k * 256 ≤ 4294967296 ∧ 1 ≤ 256 ^ k := by
  have h2 : k = 0 ∨ k = 1 ∨ k = 2 ∨ k = 3 := by omega
  rcases h2 with rfl | rfl | rfl | rfl <;> decide
theorem p5 {k : Nat} (h : k ≤ 4) : 256 ^ k ≤ 4294967296 ∧ 1 ≤ 256 ^ k := by
  have h2 : k = 0 ∨ k = 1 ∨ k = 2 ∨ k = 3 ∨ k = 4 := by omega
  rcases h2 with rfl | rfl | rfl | rfl | rfl <;> decide
theorem two8 (k : Nat) : (2 : Nat) ^ (8 * k) = 256 ^ k := by rw [Nat.pow_mul]
theorem two8i (k : Nat) : (2 : Int) ^ (8 * k) = ((256 ^ k : Nat) : Int) := by rw [← two8]; push_cast; rfl
theorem numAt_small (l : List UInt8) (a : Nat) {k : Nat} (h : k ≤ 4) : numAt l a k < 4294967296 := Nat.lt_of_lt_of_le (numAt_lt l a k) (p5 h).1

theorem wraps_i64 (n : Int) (h₀ : 0 ≤ n) (h₁ : n < 2 ^ 63) : IntKind.i64.wrap n = n := by rw [IntKind.wrap_i64]; omega
theorem or_step (l : List UInt8) {a k : Nat} (h : a + k < l.length) (hk : k < 4) :
    bits .or .i64 ((numAt l a k : Nat) : Int) (wrap64 (((l[a + k].toNat : Nat) : Int) * 2 ^ (8 * k))) = ((numAt l a (k + 1) : Nat) : Int) := by
  have h1 := numAt_lt l a k
  have h2 := p4 hk
  have h3 := l[a + k].toNat_lt
  rw [numAt_succ l h, two8i, ← Int.natCast_mul]
  have h4 : l[a + k].toNat * 256 ^ k < 4294967296 := by
    have : l[a + k].toNat * 256 ^ k ≤ 255 * 256 ^ k := Nat.mul_le_mul_right _ (by omega)
    omega
  rw [IntWalk.wrap64_in _ ⟨by omega, by omega⟩]
  have hj : (256 ^ k : Nat) * l[a + k].toNat = 2 ^ (8 * k) * l[a + k].toNat := by rw [two8]
  rw [(bits_nat .i64 63 (by decide) wraps_i64 _ _ (by omega) (by omega)).2, Nat.mul_comm, hj]
  congr 1
  rw [Nat.or_comm, ← Nat.two_pow_add_eq_or_of_lt (by rw [two8]; exact h1)]
  omega

/-! ### what is put -/
def putL (l : List UInt8) (a n : Nat) : Nat → List UInt8
  | 0 => l
  | k + 1 => (putL l a n k).set (a + k) (UInt8.ofNat (n / 256 ^ k))
theorem putL_length (l : List UInt8) (a n k : Nat) : (putL l a n k).length = l.length := by
  induction k with
  | zero => rfl
  | succ k ih => rw [putL, List.length_set, ih]
theorem putL_take (l : List UInt8) (a n k : Nat) : (putL l a n k).take a = l.take a := by
  induction k with
  | zero => rfl
  | succ k ih =>
    rw [putL, List.take_set, List.set_eq_of_length_le (by rw [List.length_take]; omega), ih]
theorem putL_drop (l : List UInt8) (a n k : Nat) : ∀ j, a + k ≤ j → (putL l a n k).drop j = l.drop j := by
  induction k with
  | zero => intro j _; rfl
  | succ k ih =>
    intro j hj
    rw [putL, List.drop_set_of_lt (by omega), ih j (by omega)]
theorem putL_num (l : List UInt8) (a n k : Nat) (h : a + k ≤ l.length) : numAt (putL l a n k) a k = n % 256 ^ k := by
  induction k with
  | zero => simp [numAt_zero, Nat.mod_one]
  | succ k ih =>
    have hl : a + k < (putL l a n (k + 1)).length := by rw [putL_length]; omega
    rw [numAt_succ _ hl]
    have h1 : numAt (putL l a n (k + 1)) a k = numAt (putL l a n k) a k := by
      unfold numAt
      rw [putL, List.drop_set, if_neg (by omega), List.take_set, List.set_eq_of_length_le (by rw [List.length_take, List.length_drop, putL_length]; omega)]
    have h2 : (putL l a n (k + 1))[a + k] = UInt8.ofNat (n / 256 ^ k) := by
      simp [putL]
    rw [h1, ih (by omega), h2, UInt8.toNat_ofNat']
    exact (Nat.mod_pow_succ (x := n) (b := 256) (k := k)).symm

theorem wrap8 (n : Int) : IntKind.u8.wrap n = n % 256 := IntKind.wrap_u8 n
theorem byte_shr (N k : Nat) : IntKind.u8.wrap ((N : Int) / 2 ^ (8 * k)) = (((UInt8.ofNat (N / 256 ^ k)).toNat : Nat) : Int) := by
  rw [wrap8, two8i, UInt8.toNat_ofNat']
  omega
theorem byte_mod (N k : Nat) : IntKind.u8.wrap (((N / 256 ^ k : Nat) : Int) % 256) = (((UInt8.ofNat (N / 256 ^ k)).toNat : Nat) : Int) := by
  rw [wrap8, UInt8.toNat_ofNat']
  omega
theorem byte_mod' (N k : Nat) : ((N / 256 ^ k : Nat) : Int) % 256 = (((UInt8.ofNat (N / 256 ^ k)).toNat : Nat) : Int) := by
  rw [UInt8.toNat_ofNat']
  omega
theorem next_div (N k : Nat) : ((N / 256 ^ k : Nat) : Int) / 256 = ((N / 256 ^ (k + 1) : Nat) : Int) := by
  rw [Nat.pow_succ, ← Nat.div_div_eq_div_mul]
  omega
/-- n goes into k bytes. -/
def goesB (n : Int) (k : Nat) : Bool := n / 2 ^ (8 * k) == 0
theorem goesB_iff (n : Int) (k : Nat) : goesB n k = true ↔ 0 ≤ n ∧ n < (256 ^ k : Nat) := by
  unfold goesB
  rw [two8i, beq_iff_eq]
  have h : (0 : Int) < ((256 ^ k : Nat) : Int) := by have := Nat.pow_pos (n := k) (show 0 < 256 by decide); omega
  constructor
  · intro e
    have h1 := Int.emod_add_mul_ediv n ((256 ^ k : Nat) : Int)
    have h2 := Int.emod_nonneg n (show ((256 ^ k : Nat) : Int) ≠ 0 by omega)
    have h3 := Int.emod_lt_of_pos n h
    rw [e] at h1
    simp only [Int.mul_zero] at h1
    omega
  · rintro ⟨h1, h2⟩
    exact Int.ediv_eq_zero_of_lt h1 h2

/-! ### bits -/
def bitN (x s : Nat) : Nat := x / 2 ^ s % 2
def bitB (l : List UInt8) (i : Nat) : Bool := bitN (l.getD (i / 8) 0).toNat (i % 8) == 1
def bitI (l : List UInt8) (i : Nat) : Int := if bitB l i then 1 else 0
theorem bitI_in (l : List UInt8) (i : Nat) : bitI l i = 0 ∨ bitI l i = 1 := by unfold bitI; split <;> simp
theorem and_one (l : List UInt8) {i : Nat} (h : i / 8 < l.length) : bits .and .i64 (wrap64 (((l[i / 8].toNat : Nat) : Int) / 2 ^ (i % 8))) 1 = bitI l i := by
  have hx := l[i / 8].toNat_lt
  have hc : ((l[i / 8].toNat : Nat) : Int) / 2 ^ (i % 8) = ((l[i / 8].toNat / 2 ^ (i % 8) : Nat) : Int) := by push_cast; rfl
  have hd : l[i / 8].toNat / 2 ^ (i % 8) ≤ l[i / 8].toNat := Nat.div_le_self _ _
  obtain ⟨q, hq⟩ : ∃ q, q = l[i / 8].toNat / 2 ^ (i % 8) := ⟨_, rfl⟩
  rw [hc, ← hq]
  rw [← hq] at hd
  rw [IntWalk.wrap64_in _ ⟨by omega, by omega⟩]
  have hm := bits_mask .i64 63 (by decide) wraps_i64 1 (by decide) (q : Int) (by omega) (by omega)
  rw [show (2 : Int) ^ 1 - 1 = 1 from rfl] at hm
  rw [hm]
  unfold bitI bitB bitN
  rw [List.getD_eq_getElem?_getD, List.getElem?_eq_getElem h, Option.getD_some, ← hq]
  split
  · rename_i e; rw [beq_iff_eq] at e; omega
  · rename_i e; rw [beq_iff_eq] at e; omega
theorem halves (x k : Nat) : ((x / 2 ^ k : Nat) : Int) / 2 = ((x / 2 ^ (k + 1) : Nat) : Int) := by
  rw [Nat.pow_succ, ← Nat.div_div_eq_div_mul]
  omega
theorem last_bit (l : List UInt8) {i : Nat} (h : i / 8 < l.length) : (((l[i / 8].toNat / 2 ^ (i % 8) : Nat) : Int) % 2 == 1) = bitB l i := by
  unfold bitB bitN
  rw [List.getD_eq_getElem?_getD, List.getElem?_eq_getElem h, Option.getD_some, Bool.eq_iff_iff, beq_iff_eq, beq_iff_eq]
  omega

def setN (x s : Nat) (on : Bool) : Nat := if on then (if bitN x s == 1 then x else x + 2 ^ s) else (if bitN x s == 1 then x - 2 ^ s else x)
def setL (l : List UInt8) (i : Nat) (on : Bool) : List UInt8 := l.set (i / 8) (UInt8.ofNat (setN (l.getD (i / 8) 0).toNat (i % 8) on))
theorem setL_length (l : List UInt8) (i : Nat) (on : Bool) : (setL l i on).length = l.length := List.length_set
theorem set_facts : ∀ (x : Fin 256) (s : Fin 8) (on : Bool), setN x s on < 256 ∧ bitN (setN x s on) s = on.toNat ∧ (∀ t : Fin 8, t ≠ s → bitN (setN x s on) t = bitN x t) := by decide +kernel
theorem or_facts : ∀ (x : Fin 256) (s : Fin 8), bits .or .u8 ((x : Nat) : Int) (((2 ^ (s : Nat) : Nat)) : Int) = ((setN x s true : Nat) : Int) := by decide +kernel
theorem andNot_facts : ∀ (x : Fin 256) (s : Fin 8), bits .andNot .u8 ((x : Nat) : Int) (((2 ^ (s : Nat) : Nat)) : Int) = ((setN x s false : Nat) : Int) := by decide +kernel

theorem setL_bit (l : List UInt8) {i : Nat} (on : Bool) (h : i / 8 < l.length) : bitB (setL l i on) i = on := by
  unfold bitB setL
  rw [List.getD_eq_getElem?_getD, List.getElem?_set_self h, Option.getD_some, UInt8.toNat_ofNat']
  have hx := (l.getD (i / 8) 0).toNat_lt
  have h1 := set_facts ⟨(l.getD (i / 8) 0).toNat, hx⟩ ⟨i % 8, Nat.mod_lt _ (by decide)⟩ on
  simp only at h1
  rw [Nat.mod_eq_of_lt h1.1, h1.2.1]
  cases on <;> rfl
theorem setL_other (l : List UInt8) {i j : Nat} (on : Bool) (h : i / 8 < l.length) (hj : j ≠ i) : bitB (setL l i on) j = bitB l j := by
  unfold bitB setL
  by_cases e : j / 8 = i / 8
  · rw [e, List.getD_eq_getElem?_getD, List.getElem?_set_self h, Option.getD_some, UInt8.toNat_ofNat']
    have hx := (l.getD (i / 8) 0).toNat_lt
    have h1 := set_facts ⟨(l.getD (i / 8) 0).toNat, hx⟩ ⟨i % 8, Nat.mod_lt _ (by decide)⟩ on
    simp only at h1
    have h2 := h1.2.2 ⟨j % 8, Nat.mod_lt _ (by decide)⟩ (by intro e2; have e3 := congrArg Fin.val e2; simp only at e3; omega)
    simp only at h2
    rw [Nat.mod_eq_of_lt h1.1, h2]
  · rw [List.getD_eq_getElem?_getD, List.getElem?_set_ne (fun e2 => e e2.symm), ← List.getD_eq_getElem?_getD]

/-! ### how many -/
def cnt (l : List UInt8) : Nat → Nat
  | 0 => 0
  | k + 1 => cnt l k + (bitB l k).toNat
theorem cnt_le (l : List UInt8) (k : Nat) : cnt l k ≤ k := by
  induction k with
  | zero => simp [cnt]
  | succ k ih => have : (bitB l k).toNat ≤ 1 := Bool.toNat_le _; simp only [cnt]; omega
theorem cnt_set (l : List UInt8) {i : Nat} (on : Bool) (h : i / 8 < l.length) (m : Nat) :
    (cnt (setL l i on) m : Int) - cnt l m = if i < m then (on.toNat : Int) - (bitB l i).toNat else 0 := by
  induction m with
  | zero => simp [cnt]
  | succ m ih =>
    simp only [cnt]
    by_cases e : m = i
    · subst e
      rw [if_neg (by omega)] at ih
      rw [if_pos (by omega), setL_bit l on h]
      omega
    · rw [setL_other l on h e]
      by_cases hm : i < m
      · rw [if_pos hm] at ih
        rw [if_pos (by omega)]
        omega
      · rw [if_neg hm] at ih
        rw [if_neg (by omega)]
        omega

/-! ### the first that is free -/
def ff (l : List UInt8) (a : Nat) : Nat → Int
  | 0 => -1
  | d + 1 => if bitB l a then ff l (a + 1) d else a
theorem ff_set (l : List UInt8) (a d : Nat) (h : bitB l a = true) : ff l a (d + 1) = ff l (a + 1) d := by rw [ff, if_pos h]
theorem ff_free (l : List UInt8) (a d : Nat) (h : bitB l a = false) : ff l a (d + 1) = a := by rw [ff, if_neg (by rw [h]; decide)]
theorem ff_spec (l : List UInt8) (d : Nat) : ∀ a, (ff l a d = -1 ∧ ∀ i, a ≤ i → i < a + d → bitB l i = true) ∨ (∃ k : Nat, ff l a d = k ∧ a ≤ k ∧ k < a + d ∧ bitB l k = false ∧ ∀ i, a ≤ i → i < k → bitB l i = true) := by
  induction d with
  | zero => intro a; exact Or.inl ⟨rfl, fun i h1 h2 => by omega⟩
  | succ d ih =>
    intro a
    by_cases hb : bitB l a = true
    · rw [ff_set l a d hb]
      rcases ih (a + 1) with ⟨h1, h2⟩ | ⟨k, h1, h2, h3, h4, h5⟩
      · refine Or.inl ⟨h1, fun i hi1 hi2 => ?_⟩
        by_cases e : i = a
        · subst e; exact hb
        · exact h2 i (by omega) (by omega)
      · refine Or.inr ⟨k, h1, by omega, by omega, h4, fun i hi1 hi2 => ?_⟩
        by_cases e : i = a
        · subst e; exact hb
        · exact h5 i (by omega) (by omega)
    · have hb' : bitB l a = false := by simpa using hb
      rw [ff_free l a d hb']
      exact Or.inr ⟨a, rfl, Nat.le_refl _, by omega, hb', fun i h1 h2 => by omega⟩

/-! ### runs -/
def bump (R : List Int) : List Int := R.set (R.length - 1) (R.getD (R.length - 1) 0 + 1)
def grow (R : List Int) (b : Bool) : List Int := if b = decide (R.length % 2 = 1) then R ++ [0] else R
def runsTo (l : List UInt8) : Nat → List Int
  | 0 => [0]
  | k + 1 => bump (grow (runsTo l k) (bitB l k))
theorem bump_length (R : List Int) : (bump R).length = R.length := List.length_set
theorem grow_length (R : List Int) (b : Bool) : R.length ≤ (grow R b).length ∧ (grow R b).length ≤ R.length + 1 := by
  unfold grow
  split <;> simp
theorem runsTo_length (l : List UInt8) (k : Nat) : 1 ≤ (runsTo l k).length ∧ (runsTo l k).length ≤ k + 1 := by
  induction k with
  | zero => simp [runsTo]
  | succ k ih =>
    rw [runsTo, bump_length]
    have := grow_length (runsTo l k) (bitB l k)
    omega
end Go.Proofs.Ytnibbopdjeagoaa
