/-
  Texts that belong together, joined: BitsM BitsF BitsG BitsP.
-/
import Derived.Laws.BitsLemmas
import Derived.WalkKit
import Derived.Test.YtflapnbpaodhaaaGreatDoorJA
import Derived.Lib.SliceRun
import Derived.KernelRfl

/-
  Plain mathematics of bits of bytes: numbers, maps, runs. No dump.
-/


namespace Go.Proofs.YtflapnbpaodhaaaGreatDoor
set_option maxRecDepth 100000
open Go Go.RowKit

/-! ### numbers -/
def leNum : List UInt8 → Nat
  | [] => 0
  | b :: t => b.toNat + 256 * leNum t
theorem leNum_snoc (l : List UInt8) (b : UInt8) : leNum (l ++ [b]) = leNum l + 256 ^ l.length * b.toNat := by
  induction l with
  | nil => simp [leNum]
  | cons x t ih =>
    simp only [List.cons_append, leNum, ih, List.length_cons, Nat.pow_succ]
    rw [Nat.mul_add, Nat.mul_comm (256 ^ t.length) 256, Nat.mul_assoc, Nat.add_assoc]
theorem leNum_lt (l : List UInt8) : leNum l < 256 ^ l.length := by
  induction l with
  | nil => simp [leNum]
  | cons x t ih =>
    have := x.toNat_lt
    simp only [leNum, List.length_cons, Nat.pow_succ]
    omega
def numAt (l : List UInt8) (a k : Nat) : Nat := leNum ((l.drop a).take k)
theorem numAt_zero (l : List UInt8) (a : Nat) : numAt l a 0 = 0 := by simp [numAt, leNum]
theorem drop_take_succ (l : List UInt8) {a k : Nat} (h : a + k < l.length) : (l.drop a).take (k + 1) = (l.drop a).take k ++ [l[a + k]] := by
  rw [List.take_succ_eq_append_getElem (by rw [List.length_drop]; omega), List.getElem_drop]
theorem numAt_succ (l : List UInt8) {a k : Nat} (h : a + k < l.length) : numAt l a (k + 1) = numAt l a k + 256 ^ k * l[a + k].toNat := by
  unfold numAt
  rw [drop_take_succ l h, leNum_snoc, List.length_take, List.length_drop, Nat.min_eq_left (by omega)]
theorem numAt_cons (l : List UInt8) {a k : Nat} (h : a < l.length) : numAt l a (k + 1) = l[a].toNat + 256 * numAt l (a + 1) k := by
  unfold numAt
  rw [List.drop_eq_getElem_cons h, List.take_succ_cons]
  rfl
theorem numAt_lt (l : List UInt8) (a k : Nat) : numAt l a k < 256 ^ k := by
  unfold numAt
  refine Nat.lt_of_lt_of_le (leNum_lt _) (Nat.pow_le_pow_right (by decide) ?_)
  rw [List.length_take]; omega
theorem p4 {k : Nat} (h : k < 4) : 256 ^ k * 256 ≤ 4294967296 ∧ 1 ≤ 256 ^ k := by
  have h2 : k = 0 ∨ k = 1 ∨ k = 2 ∨ k = 3 := by omega
  rcases h2 with rfl | rfl | rfl | rfl <;> decide
theorem p5 {k : Nat} (h : k ≤ 4) : 256 ^ k ≤ 4294967296 ∧ 1 ≤ 256 ^ k := by
  have h2 : k = 0 ∨ k = 1 ∨ k = 2 ∨ k = 3 ∨ k = 4 := by omega
  rcases h2 with rfl | rfl | rfl | rfl | rfl <;> decide
theorem two8 (k : Nat) : (2 : Nat) ^ (8 * k) = 256 ^ k := by rw [Nat.pow_mul]
theorem two8i (k : Nat) : (2 : Int) ^ (8 * k) = ((256 ^ k : Nat) : Int) := by rw [← two8]; push_cast; rfl
theorem numAt_small (l : List UInt8) (a : Nat) {k : Nat} (h : k ≤ 4) : numAt l a k < 4294967296 := Nat.lt_of_lt_of_le (numAt_lt l a k) (p5 h).1

theorem wraps_i64 (n : Int) (h₀ : 0 ≤ n) (h₁ : n < 2 ^ 63) : IntKind.i64.wrap n = n := by rw [IntKind.wrap_i64]; omega
theorem or_step (l : List UInt8) {a k : Nat} (h : a + k < l.length) (hk : k < 4) :
    bits .or .i64 ((numAt l a k : Nat) : Int) (wrap64 (((l[a + k].toNat : Nat) : Int) * 2 ^ (8 * k))) = ((numAt l a (k + 1) : Nat) : Int) := by
  have h1 := numAt_lt l a k
  have h2 := p4 hk
  have h3 := l[a + k].toNat_lt
  rw [numAt_succ l h, two8i, ← Int.natCast_mul]
  have h4 : l[a + k].toNat * 256 ^ k < 4294967296 := by
    have : l[a + k].toNat * 256 ^ k ≤ 255 * 256 ^ k := Nat.mul_le_mul_right _ (by omega)
    omega
  rw [IntWalk.wrap64_in _ ⟨by omega, by omega⟩]
  have hj : (256 ^ k : Nat) * l[a + k].toNat = 2 ^ (8 * k) * l[a + k].toNat := by rw [two8]
  rw [(bits_nat .i64 63 (by decide) wraps_i64 _ _ (by omega) (by omega)).2, Nat.mul_comm, hj]
  congr 1
  rw [Nat.or_comm, ← Nat.two_pow_add_eq_or_of_lt (by rw [two8]; exact h1)]
  omega

/-! ### what is put -/
def putL (l : List UInt8) (a n : Nat) : Nat → List UInt8
  | 0 => l
  | k + 1 => (putL l a n k).set (a + k) (UInt8.ofNat (n / 256 ^ k))
theorem putL_length (l : List UInt8) (a n k : Nat) : (putL l a n k).length = l.length := by
  induction k with
  | zero => rfl
  | succ k ih => rw [putL, List.length_set, ih]
theorem putL_take (l : List UInt8) (a n k : Nat) : (putL l a n k).take a = l.take a := by
  induction k with
  | zero => rfl
  | succ k ih =>
    rw [putL, List.take_set, List.set_eq_of_length_le (by rw [List.length_take]; omega), ih]
theorem putL_drop (l : List UInt8) (a n k : Nat) : ∀ j, a + k ≤ j → (putL l a n k).drop j = l.drop j := by
  induction k with
  | zero => intro j _; rfl
  | succ k ih =>
    intro j hj
    rw [putL, List.drop_set_of_lt (by omega), ih j (by omega)]
theorem putL_num (l : List UInt8) (a n k : Nat) (h : a + k ≤ l.length) : numAt (putL l a n k) a k = n % 256 ^ k := by
  induction k with
  | zero => simp [numAt_zero, Nat.mod_one]
  | succ k ih =>
    have hl : a + k < (putL l a n (k + 1)).length := by rw [putL_length]; omega
    rw [numAt_succ _ hl]
    have h1 : numAt (putL l a n (k + 1)) a k = numAt (putL l a n k) a k := by
      unfold numAt
      rw [putL, List.drop_set, if_neg (by omega), List.take_set, List.set_eq_of_length_le (by rw [List.length_take, List.length_drop, putL_length]; omega)]
    have h2 : (putL l a n (k + 1))[a + k] = UInt8.ofNat (n / 256 ^ k) := by
      simp [putL]
    rw [h1, ih (by omega), h2, UInt8.toNat_ofNat']
    exact (Nat.mod_pow_succ (x := n) (b := 256) (k := k)).symm

theorem wrap8 (n : Int) : IntKind.u8.wrap n = n % 256 := IntKind.wrap_u8 n
theorem byte_shr (N k : Nat) : IntKind.u8.wrap ((N : Int) / 2 ^ (8 * k)) = (((UInt8.ofNat (N / 256 ^ k)).toNat : Nat) : Int) := by
  rw [wrap8, two8i, UInt8.toNat_ofNat']
  omega
theorem byte_mod (N k : Nat) : IntKind.u8.wrap (((N / 256 ^ k : Nat) : Int) % 256) = (((UInt8.ofNat (N / 256 ^ k)).toNat : Nat) : Int) := by
  rw [wrap8, UInt8.toNat_ofNat']
  omega
theorem byte_mod' (N k : Nat) : ((N / 256 ^ k : Nat) : Int) % 256 = (((UInt8.ofNat (N / 256 ^ k)).toNat : Nat) : Int) := by
  rw [UInt8.toNat_ofNat']
  omega
theorem next_div (N k : Nat) : ((N / 256 ^ k : Nat) : Int) / 256 = ((N / 256 ^ (k + 1) : Nat) : Int) := by
  rw [Nat.pow_succ, ← Nat.div_div_eq_div_mul]
  omega
/-- n goes into k bytes. -/
def goesB (n : Int) (k : Nat) : Bool := n / 2 ^ (8 * k) == 0
theorem goesB_iff (n : Int) (k : Nat) : goesB n k = true ↔ 0 ≤ n ∧ n < (256 ^ k : Nat) := by
  unfold goesB
  rw [two8i, beq_iff_eq]
  have h : (0 : Int) < ((256 ^ k : Nat) : Int) := by have := Nat.pow_pos (n := k) (show 0 < 256 by decide); omega
  constructor
  · intro e
    have h1 := Int.emod_add_mul_ediv n ((256 ^ k : Nat) : Int)
    have h2 := Int.emod_nonneg n (show ((256 ^ k : Nat) : Int) ≠ 0 by omega)
    have h3 := Int.emod_lt_of_pos n h
    rw [e] at h1
    simp only [Int.mul_zero] at h1
    omega
  · rintro ⟨h1, h2⟩
    exact Int.ediv_eq_zero_of_lt h1 h2

/-! ### bits -/
def bitN (x s : Nat) : Nat := x / 2 ^ s % 2
def bitB (l : List UInt8) (i : Nat) : Bool := bitN (l.getD (i / 8) 0).toNat (i % 8) == 1
def bitI (l : List UInt8) (i : Nat) : Int := if bitB l i then 1 else 0
theorem bitI_in (l : List UInt8) (i : Nat) : bitI l i = 0 ∨ bitI l i = 1 := by unfold bitI; split <;> simp
theorem and_one (l : List UInt8) {i : Nat} (h : i / 8 < l.length) : bits .and .i64 (wrap64 (((l[i / 8].toNat : Nat) : Int) / 2 ^ (i % 8))) 1 = bitI l i := by
  have hx := l[i / 8].toNat_lt
  have hc : ((l[i / 8].toNat : Nat) : Int) / 2 ^ (i % 8) = ((l[i / 8].toNat / 2 ^ (i % 8) : Nat) : Int) := by push_cast; rfl
  have hd : l[i / 8].toNat / 2 ^ (i % 8) ≤ l[i / 8].toNat := Nat.div_le_self _ _
  obtain ⟨q, hq⟩ : ∃ q, q = l[i / 8].toNat / 2 ^ (i % 8) := ⟨_, rfl⟩
  rw [hc, ← hq]
  rw [← hq] at hd
  rw [IntWalk.wrap64_in _ ⟨by omega, by omega⟩]
  have hm := bits_mask .i64 63 (by decide) wraps_i64 1 (by decide) (q : Int) (by omega) (by omega)
  rw [show (2 : Int) ^ 1 - 1 = 1 from rfl] at hm
  rw [hm]
  unfold bitI bitB bitN
  rw [List.getD_eq_getElem?_getD, List.getElem?_eq_getElem h, Option.getD_some, ← hq]
  split
  · rename_i e; rw [beq_iff_eq] at e; omega
  · rename_i e; rw [beq_iff_eq] at e; omega
theorem halves (x k : Nat) : ((x / 2 ^ k : Nat) : Int) / 2 = ((x / 2 ^ (k + 1) : Nat) : Int) := by
  rw [Nat.pow_succ, ← Nat.div_div_eq_div_mul]
  omega
theorem last_bit (l : List UInt8) {i : Nat} (h : i / 8 < l.length) : (((l[i / 8].toNat / 2 ^ (i % 8) : Nat) : Int) % 2 == 1) = bitB l i := by
  unfold bitB bitN
  rw [List.getD_eq_getElem?_getD, List.getElem?_eq_getElem h, Option.getD_some, Bool.eq_iff_iff, beq_iff_eq, beq_iff_eq]
  omega

def setN (x s : Nat) (on : Bool) : Nat := if on then (if bitN x s == 1 then x else x + 2 ^ s) else (if bitN x s == 1 then x - 2 ^ s else x)
def setL (l : List UInt8) (i : Nat) (on : Bool) : List UInt8 := l.set (i / 8) (UInt8.ofNat (setN (l.getD (i / 8) 0).toNat (i % 8) on))
theorem setL_length (l : List UInt8) (i : Nat) (on : Bool) : (setL l i on).length = l.length := List.length_set
theorem set_facts : ∀ (x : Fin 256) (s : Fin 8) (on : Bool), setN x s on < 256 ∧ bitN (setN x s on) s = on.toNat ∧ (∀ t : Fin 8, t ≠ s → bitN (setN x s on) t = bitN x t) := by decide +kernel
theorem or_facts : ∀ (x : Fin 256) (s : Fin 8), bits .or .u8 ((x : Nat) : Int) (((2 ^ (s : Nat) : Nat)) : Int) = ((setN x s true : Nat) : Int) := by decide +kernel
theorem andNot_facts : ∀ (x : Fin 256) (s : Fin 8), bits .andNot .u8 ((x : Nat) : Int) (((2 ^ (s : Nat) : Nat)) : Int) = ((setN x s false : Nat) : Int) := by decide +kernel

theorem setL_bit (l : List UInt8) {i : Nat} (on : Bool) (h : i / 8 < l.length) : bitB (setL l i on) i = on := by
  unfold bitB setL
  rw [List.getD_eq_getElem?_getD, List.getElem?_set_self h, Option.getD_some, UInt8.toNat_ofNat']
  have hx := (l.getD (i / 8) 0).toNat_lt
  have h1 := set_facts ⟨(l.getD (i / 8) 0).toNat, hx⟩ ⟨i % 8, Nat.mod_lt _ (by decide)⟩ on
  simp only at h1
  rw [Nat.mod_eq_of_lt h1.1, h1.2.1]
  cases on <;> rfl
theorem setL_other (l : List UInt8) {i j : Nat} (on : Bool) (h : i / 8 < l.length) (hj : j ≠ i) : bitB (setL l i on) j = bitB l j := by
  unfold bitB setL
  by_cases e : j / 8 = i / 8
  · rw [e, List.getD_eq_getElem?_getD, List.getElem?_set_self h, Option.getD_some, UInt8.toNat_ofNat']
    have hx := (l.getD (i / 8) 0).toNat_lt
    have h1 := set_facts ⟨(l.getD (i / 8) 0).toNat, hx⟩ ⟨i % 8, Nat.mod_lt _ (by decide)⟩ on
    simp only at h1
    have h2 := h1.2.2 ⟨j % 8, Nat.mod_lt _ (by decide)⟩ (by intro e2; have e3 := congrArg Fin.val e2; simp only at e3; omega)
    simp only at h2
    rw [Nat.mod_eq_of_lt h1.1, h2]
  · rw [List.getD_eq_getElem?_getD, List.getElem?_set_ne (fun e2 => e e2.symm), ← List.getD_eq_getElem?_getD]

/-! ### how many -/
def cnt (l : List UInt8) : Nat → Nat
  | 0 => 0
  | k + 1 => cnt l k + (bitB l k).toNat
theorem cnt_le (l : List UInt8) (k : Nat) : cnt l k ≤ k := by
  induction k with
  | zero => simp [cnt]
  | succ k ih => have : (bitB l k).toNat ≤ 1 := Bool.toNat_le _; simp only [cnt]; omega
theorem cnt_set (l : List UInt8) {i : Nat} (on : Bool) (h : i / 8 < l.length) (m : Nat) :
    (cnt (setL l i on) m : Int) - cnt l m = if i < m then (on.toNat : Int) - (bitB l i).toNat else 0 := by
  induction m with
  | zero => simp [cnt]
  | succ m ih =>
    simp only [cnt]
    by_cases e : m = i
    · subst e
      rw [if_neg (by omega)] at ih
      rw [if_pos (by omega), setL_bit l on h]
      omega
    · rw [setL_other l on h e]
      by_cases hm : i < m
      · rw [if_pos hm] at ih
        rw [if_pos (by omega)]
        omega
      · rw [if_neg hm] at ih
        rw [if_neg (by omega)]
        omega

/-! ### the first that is free -/
def ff (l : List UInt8) (a : Nat) : Nat → Int
  | 0 => -1
  | d + 1 => if bitB l a then ff l (a + 1) d else a
theorem ff_set (l : List UInt8) (a d : Nat) (h : bitB l a = true) : ff l a (d + 1) = ff l (a + 1) d := by rw [ff, if_pos h]
theorem ff_free (l : List UInt8) (a d : Nat) (h : bitB l a = false) : ff l a (d + 1) = a := by rw [ff, if_neg (by rw [h]; decide)]
theorem ff_spec (l : List UInt8) (d : Nat) : ∀ a, (ff l a d = -1 ∧ ∀ i, a ≤ i → i < a + d → bitB l i = true) ∨ (∃ k : Nat, ff l a d = k ∧ a ≤ k ∧ k < a + d ∧ bitB l k = false ∧ ∀ i, a ≤ i → i < k → bitB l i = true) := by
  induction d with
  | zero => intro a; exact Or.inl ⟨rfl, fun i h1 h2 => by omega⟩
  | succ d ih =>
    intro a
    by_cases hb : bitB l a = true
    · rw [ff_set l a d hb]
      rcases ih (a + 1) with ⟨h1, h2⟩ | ⟨k, h1, h2, h3, h4, h5⟩
      · refine Or.inl ⟨h1, fun i hi1 hi2 => ?_⟩
        by_cases e : i = a
        · subst e; exact hb
        · exact h2 i (by omega) (by omega)
      · refine Or.inr ⟨k, h1, by omega, by omega, h4, fun i hi1 hi2 => ?_⟩
        by_cases e : i = a
        · subst e; exact hb
        · exact h5 i (by omega) (by omega)
    · have hb' : bitB l a = false := by simpa using hb
      rw [ff_free l a d hb']
      exact Or.inr ⟨a, rfl, Nat.le_refl _, by omega, hb', fun i h1 h2 => by omega⟩

/-! ### runs -/
def bump (R : List Int) : List Int := R.set (R.length - 1) (R.getD (R.length - 1) 0 + 1)
def grow (R : List Int) (b : Bool) : List Int := if b = decide (R.length % 2 = 1) then R ++ [0] else R
def runsTo (l : List UInt8) : Nat → List Int
  | 0 => [0]
  | k + 1 => bump (grow (runsTo l k) (bitB l k))
theorem bump_length (R : List Int) : (bump R).length = R.length := List.length_set
theorem grow_length (R : List Int) (b : Bool) : R.length ≤ (grow R b).length ∧ (grow R b).length ≤ R.length + 1 := by
  unfold grow
  split <;> simp
theorem runsTo_length (l : List UInt8) (k : Nat) : 1 ≤ (runsTo l k).length ∧ (runsTo l k).length ≤ k + 1 := by
  induction k with
  | zero => simp [runsTo]
  | succ k ih =>
    rw [runsTo, bump_length]
    have := grow_length (runsTo l k) (bitB l k)
    omega
end Go.Proofs.YtflapnbpaodhaaaGreatDoor

/-
  The calls of bits, and the document's: numbers.
-/



namespace Go.Proofs.YtflapnbpaodhaaaGreatDoor
set_option maxRecDepth 100000
open Go.RowKit Go.Maps

/-- So many bytes stand there. -/
def Std (n : Nat) (a k : Int) : Prop := 1 ≤ k ∧ k ≤ 4 ∧ 0 ≤ a ∧ a ≤ (n : Int) - k

set_option maxHeartbeats 400000 in
theorem stands_ok (w : World) (A : Option Addr) (n cap : Nat) (a k : Int) (hl : n ≤ 140737488351232) (h : Std n a k) :
    Calls Tryz.prog 108 #[.slice A n cap, .int .i64 a, .int .i64 k] w fun e w' => e = .returned (.bool true) ∧ w = w' := by
  obtain ⟨h1, h2, h3, h4⟩ := h
  go_enter Tryz.func108, Tryz.ntmps108
  go_wp2_with fail
  go_ret
  exact ⟨by simp, rfl⟩
set_option maxHeartbeats 400000 in
theorem stands_no (w : World) (A : Option Addr) (n cap : Nat) (a k : Int) (hl : n ≤ 140737488351232) (h : ¬ Std n a k) :
    Calls Tryz.prog 108 #[.slice A n cap, .int .i64 a, .int .i64 k] w fun e w' => e = .returned (.bool false) ∧ w = w' := by
  have H := Lib.hid h
  clear h
  go_enter Tryz.func108, Tryz.ntmps108
  go_wp2_with fail
  all_goals go_ret
  all_goals
    refine ⟨?_, rfl⟩
    have h := H.out
    unfold Std at h
    simp
    try omega
set_option maxHeartbeats 400000 in
theorem goes_any (w : World) (n : Int) (k : Nat) (hk : k ≤ 4) (h1 : 1 ≤ k) (b : Bool) (hb : goesB n k = b) :
    Calls Tryz.prog 109 #[.int .i64 n, .int .i64 (k : Int)] w fun e w' => e = .returned (.bool b) ∧ w = w' := by
  have HB := Lib.hid (show (n / 2 ^ (8 * k) == 0) = b from hb)
  clear hb
  go_enter Tryz.func109, Tryz.ntmps109
  go_wp2_with fail
  go_ret
  exact ⟨by rw [← HB.out]; rfl, rfl⟩

/-! ### Get -/
set_option maxHeartbeats 1000000 in
theorem get_no (w : World) (A : Option Addr) (n cap : Nat) (a k : Int) (hl : n ≤ 140737488351232) (h : ¬ Std n a k) :
    Calls Tryz.prog 94 #[.slice A n cap, .int .i64 a, .int .i64 k] w fun e w' => e = .returned (.tuple #[.int .i64 0, .int .i64 2]) ∧ w = w' := by
  have H := Lib.hid h
  clear h
  go_enter Tryz.func94, Tryz.ntmps94
  go_wp2_with (go_at_call 108; refine (stands_no _ _ _ _ _ _ hl H.out).mono ?_; rintro e w' ⟨rfl, rfl⟩)
  go_ret2
  exact ⟨rfl, rfl⟩
set_option maxHeartbeats 1000000 in
theorem get_ok (w : World) (A : Option Addr) (n cap B a k : Nat) (l : List UInt8) (hr : Rd w B A l) (hn : l.length = n) (hl : n ≤ 140737488351232) (h1 : 1 ≤ k) (h4 : k ≤ 4) (hak : a + k ≤ n) :
    Calls Tryz.prog 94 #[.slice A n cap, .int .i64 (a : Int), .int .i64 (k : Int)] w fun e w' => e = .returned (.tuple #[.int .i64 ((numAt l a k : Nat) : Int), .int .i64 0]) ∧ w = w' := by
  have HS := Lib.hid (show Std n a k from ⟨by omega, by omega, by omega, by omega⟩)
  have HR := Lib.hid hr
  have HN := Lib.hid hn
  have HZ := Lib.hid (numAt_zero l a)
  clear hr hn
  go_enter Tryz.func94, Tryz.ntmps94
  go_wp2_with (go_at_call 108; refine (stands_ok _ _ _ _ _ _ hl HS.out).mono ?_; rintro e w' ⟨rfl, rfl⟩)
  go_loop [8, 9, 16] (fun v _ i => ∃ j : Nat, j ≤ k ∧ i = .int .i64 j ∧ v = .int .i64 ((numAt l a j : Nat) : Int)) (fun _ _ i => k - (intOf i).toNat)
  case atStart => exact ⟨0, Nat.zero_le _, rfl, by rw [HZ.out]; rfl⟩
  case round =>
    obtain ⟨j, hj, rfl, rfl⟩ := hrel
    by_cases hlt : j < k
    · have hjl : a + j < l.length := by have := HN.out; omega
      obtain ⟨blk, off, rfl, _, hc⟩ := HR.out.at_ hjl
      have hor := or_step l hjl (by omega)
      have hsm := numAt_small l a (k := j) (by omega)
      have hsm2 := numAt_small l a (k := j + 1) (by omega)
      have hx := l[a + j].toNat_lt
      obtain ⟨x, hxx⟩ : ∃ x, x = l[a + j].toNat := ⟨_, rfl⟩
      rw [← hxx] at hc hor hx
      obtain ⟨N1, hN1⟩ : ∃ N, N = numAt l a (j + 1) := ⟨_, rfl⟩
      rw [← hN1] at hor hsm2
      have HN1 := Lib.hid hN1
      generalize numAt l a j = N0 at hor hsm ⊢
      clear hjl hxx hN1
      have hi1 : (0 : Int) ≤ (a : Int) + j := by omega
      have hi2 : (a : Int) + j < n := by omega
      go_wp2_with fail
      go_round
      case rel => exact ⟨j + 1, by omega, by go_num, by rw [HN1.out]⟩
      case measure => simp [intOf]; omega
    · have hjk : j = k := by omega
      subst hjk
      go_wp2_with fail
      go_ret2
      exact ⟨rfl, rfl⟩
end Go.Proofs.YtflapnbpaodhaaaGreatDoor

/-
  The document's Get; Clone; Put, the program's and the document's.
-/
namespace Go.Proofs.YtflapnbpaodhaaaGreatDoor
set_option maxRecDepth 100000
open Go.RowKit Go.Maps

/-! ### Clone -/
set_option maxHeartbeats 1000000 in
theorem clone_any (w : World) (A : Option Addr) (n cap B : Nat) (l : List UInt8) (hr : Rd w B A l) (hn : l.length = n) (hB : B ≤ w.heap.size) (hA : A = none → cap = 0) (hl : n ≤ 140737488351232) :
    Calls Tryz.prog 110 #[.slice A n cap] w (NewB w l) := by
  obtain ⟨i0, hi, hz0, hz1, hz2⟩ := info_parts infoB
  have hO : (w.alloc (.cells #[] 5)).ownsRow w.heap.size 5 1 (.slice (some ⟨w.heap.size, 0, none⟩) 0 0) 0 [] := World.ownsRow_made w #[] 0 (Nat.le_refl _) (Nat.zero_le _) (by simp)
  have hF : Fr (fun _ => False) w (w.alloc (.cells #[] 5)) := (Fr.refl _ w).alloc _
  have HO := Lib.hid hO
  have HF := Lib.hid hF
  have HI := Lib.hid (⟨hi, hz0, hz1, hz2⟩ : _ ∧ _ ∧ _ ∧ _)
  have q22 : ∀ (w : World) (a : Option Addr) (n c n' c' : Nat), (binOp .eql 33 (.slice a n c) (.slice none n' c')).run Tryz.prog w = .ok (.bool a.isNone) w := fun w a n c n' c' => Lib.run_eql_slice_nil w _ _ a n c n' c' Tryz.underlying33
  clear hO hF hi hz0 hz1 hz2
  have HN := Lib.hid hn
  cases A with
  | none =>
    have h0 : l = [] := by
      apply Decidable.byContradiction
      intro hne
      obtain ⟨_, _, e, _⟩ := hr hne
      cases e
    obtain rfl : cap = 0 := hA rfl
    obtain rfl : n = 0 := by rw [← hn, h0]; rfl
    have H0 := Lib.hid h0
    clear hr hA hl hn h0
    go_enter Tryz.func110, Tryz.ntmps110
    go_wp2_with fail
    go_ret
    rw [H0.out]
    exact ⟨none, 0, rfl, ⟨rfl, Or.inl ⟨rfl, rfl⟩⟩, Fr.refl _ _⟩
  | some ad =>
    have hr1 := hr.still HF.out hB
    have HS := Lib.hid hr1.src
    clear hr hA hn hr1
    go_enter Tryz.func110, Tryz.ntmps110
    go_wp2_with (at_builtin; refine wpList_append_own _ rfl (.tmp 5) (.tmp 6) 33 rfl w.heap.size 5 i0 (.int .u8 0) 1 1 Tryz.underlying33 HI.out.1 HI.out.2.1 HI.out.2.2.1 HI.out.2.2.2 rfl (by omega) _ 0 [] rfl HO.out ad n cap (bs l) rfl ?c1 HS.out (bs_one l) ?c2 ?c3 ?c4 ?c5)
    case c1 => rw [bs_length, HN.out]; omega
    case c2 => unfold maxLen; omega
    case c3 => omega
    case c4 => simp
    case c5 =>
      intro v' w1 hown hgrow hnil
      have hfr := HF.out.grown hgrow (fun k hk => Or.inr (by simp [Value.ownBlock] at hk; omega))
      have HW := Lib.hid (⟨hown, hfr, hnil⟩ : _ ∧ _ ∧ _)
      clear hown hgrow hnil hfr
      go_wp2
      go_ret
      exact NewB.of_own HN.out.symm rfl HW.out.2.2 HW.out.1 HW.out.2.1

/-- The refused way of the calls that make bytes. -/
theorem put_no (w : World) (A : Option Addr) (n cap : Nat) (a k m : Int) (hl : n ≤ 140737488351232) (h : ¬ Std n a k) :
    Calls Tryz.prog 92 #[.slice A n cap, .int .i64 a, .int .i64 k, .int .i64 m] w fun e w' => e = .returned (.tuple #[.slice none 0 0, .int .i64 2]) ∧ w = w' := by
  have H := Lib.hid h
  clear h
  go_enter Tryz.func92, Tryz.ntmps92
  go_wp2_with (go_at_call 108; refine (stands_no _ _ _ _ _ _ hl H.out).mono ?_; rintro e w' ⟨rfl, rfl⟩)
  go_ret2
  exact ⟨rfl, rfl⟩
theorem put_no2 (w : World) (A : Option Addr) (n cap : Nat) (a : Int) (k : Nat) (m : Int) (hl : n ≤ 140737488351232) (h : Std n a k) (hg : goesB m k = false) :
    Calls Tryz.prog 92 #[.slice A n cap, .int .i64 a, .int .i64 (k : Int), .int .i64 m] w fun e w' => e = .returned (.tuple #[.slice none 0 0, .int .i64 2]) ∧ w = w' := by
  have H := Lib.hid h
  have h1 : 1 ≤ k := by have := h.1; omega
  have h2 : k ≤ 4 := by have := h.2.1; omega
  have HG := Lib.hid hg
  clear h hg
  go_enter Tryz.func92, Tryz.ntmps92
  go_wp2_with (first
    | (go_at_call 108; refine (stands_ok _ _ _ _ _ _ hl H.out).mono ?_; rintro e w' ⟨rfl, rfl⟩)
    | (go_at_call 109; refine (goes_any _ _ _ h2 h1 _ HG.out).mono ?_; rintro e w' ⟨rfl, rfl⟩))
  go_ret2
  exact ⟨rfl, rfl⟩

/-- Bytes that a call made, and no error. -/
def NewB2 (w : World) (l : List UInt8) (e : Ending) (w' : World) : Prop :=
  ∃ A cap, e = .returned (.tuple #[.slice A l.length cap, .int .i64 0]) ∧ Own w' w.heap.size (.slice A l.length cap) l ∧ (A = none → cap = 0) ∧ Fr (fun _ => False) w w'

theorem own_none {w : World} {base cap n : Nat} {A : Option Addr} {l : List UInt8} (h : Own w base (.slice A n cap) l) (hA : A = none) : cap = 0 := by
  subst hA
  obtain ⟨_, h2⟩ := h
  rcases h2 with ⟨e, _⟩ | ⟨g, cap', cur, hv, _⟩
  · cases e; rfl
  · cases hv

end Go.Proofs.YtflapnbpaodhaaaGreatDoor

/-
  Put, the program's and the document's, where it puts.
-/
namespace Go.Proofs.YtflapnbpaodhaaaGreatDoor
set_option maxRecDepth 100000
open Go.RowKit Go.Maps

/-- What a loop that stores keeps. -/
def PutR (w wr : World) (A : Option Addr) (cap : Nat) (l : List UInt8) : Prop := Own wr w.heap.size (.slice A l.length cap) l ∧ Fr (fun _ => False) w wr
theorem PutR.step {w wr : World} {A : Option Addr} {cap : Nat} {l : List UInt8} (h : PutR w wr A cap l) {i : Nat} (hi : i < l.length) :
    ∃ g, A = some ⟨g, 0, none⟩ ∧ wr.cell? ⟨g, i, none⟩ = some (.int .u8 (l[i].toNat : Int)) ∧ wr.frozen? ⟨g, i, none⟩ = false ∧ ∀ c : UInt8, PutR w (wr.setCell ⟨g, i, none⟩ (.int .u8 (c.toNat : Int))) A cap (l.set i c) := by
  obtain ⟨g, hg, hb, hlt, hc, hf, hs⟩ := h.1.at_ hi
  exact ⟨g, hg, hc, hf, fun c => ⟨hs c, h.2.setCell (Or.inr hb) _⟩⟩

set_option maxRecDepth 100000 in
set_option maxHeartbeats 1000000 in
theorem put_ok (w : World) (A : Option Addr) (n cap B a k N : Nat) (l : List UInt8) (hr : Rd w B A l) (hn : l.length = n) (hB : B ≤ w.heap.size) (hA : A = none → cap = 0) (hl : n ≤ 140737488351232) (h1 : 1 ≤ k) (h4 : k ≤ 4) (hak : a + k ≤ n) (hg : goesB (N : Int) k = true) :
    Calls Tryz.prog 92 #[.slice A n cap, .int .i64 (a : Int), .int .i64 (k : Int), .int .i64 (N : Int)] w (NewB2 w (putL l a N k)) := by
  have HS := Lib.hid (show Std n a k from ⟨by omega, by omega, by omega, by omega⟩)
  have HC := Lib.hid (clone_any w A n cap B l hr hn hB hA hl)
  have HN := Lib.hid hn
  have HG := Lib.hid hg
  clear hr hn hB hA hg
  go_enter Tryz.func92, Tryz.ntmps92
  go_wp2_with (first
    | (go_at_call 108; refine (stands_ok _ _ _ _ _ _ hl HS.out).mono ?_; rintro e w' ⟨rfl, rfl⟩)
    | (go_at_call 109; refine (goes_any _ _ _ h4 h1 _ HG.out).mono ?_; rintro e w' ⟨rfl, rfl⟩))
  refine HC.out.mono ?_
  rintro e w1 ⟨A1, cap1, rfl, ho, hF⟩
  have H0 := Lib.hid (show PutR w w1 A1 cap1 (putL l a N 0) from ⟨ho, hF⟩)
  rw [HN.out]
  clear ho hF HC
  go_wp2_with fail
  go_loopw [11, 26] (fun _ i wr => ∃ j : Nat, j ≤ k ∧ i = .int .i64 j ∧ Hid (PutR w wr A1 cap1 (putL l a N j))) (fun _ i _ => k - (intOf i).toNat)
  case atStart => exact ⟨0, Nat.zero_le _, rfl, H0⟩
  case round =>
    obtain ⟨j, hj, rfl, HP⟩ := hrel
    clear H0
    by_cases hlt : j < k
    · have hlen : (putL l a N j).length = n := by rw [putL_length, HN.out]
      obtain ⟨g, rfl, hc, hf, hset⟩ := HP.out.step (i := a + j) (by rw [hlen]; omega)
      have hnew := hset (UInt8.ofNat (N / 256 ^ j))
      rw [show (putL l a N j).set (a + j) (UInt8.ofNat (N / 256 ^ j)) = putL l a N (j + 1) from rfl] at hnew
      have hb := byte_shr N j
      obtain ⟨X, hX⟩ : ∃ X : Int, X = (((UInt8.ofNat (N / 256 ^ j)).toNat : Nat) : Int) := ⟨_, rfl⟩
      rw [← hX] at hb hnew
      have HNew := Lib.hid hnew
      generalize ((putL l a N j)[a + j]'(by rw [hlen]; omega)).toNat = y at hc
      clear hnew hX hset hlen HP
      have hi1 : (0 : Int) ≤ (a : Int) + j := by omega
      have hi2 : (a : Int) + j < n := by omega
      go_wp2_with fail
      go_roundw
      case rel => exact ⟨j + 1, by omega, by go_num, HNew⟩
      case measure => simp [intOf]; omega
    · have hjk : j = k := by omega
      subst hjk
      have HL := Lib.hid (show n = (putL l a N j).length by rw [putL_length, HN.out])
      go_wp2_with fail
      go_ret2
      rw [HL.out] at *
      exact ⟨A1, cap1, rfl, HP.out.1, own_none HP.out.1, HP.out.2⟩

/-- A call that refuses behind memory that it made. -/
def RefB (w : World) (e : Ending) (w' : World) : Prop := e = .returned (.tuple #[.slice none 0 0, .int .i64 2]) ∧ Fr (fun _ => False) w w'

def RPut (w : World) (l : List UInt8) (ok : Bool) (e : Ending) (w' : World) : Prop := (ok = true → NewB2 w l e w') ∧ (ok = false → RefB w e w')

end Go.Proofs.YtflapnbpaodhaaaGreatDoor
