/-
  The checksum's register as a linear function: plain mathematics, no program.
-/
import Derived.Lib.Hide
namespace Go.Proofs.YtccagamldlpefaaDoor
open Go.RowKit

abbrev W32 := BitVec 32
def poly : W32 := 0xedb88320#32
/-- One bit taken in. -/
def one (c : W32) : W32 := (c >>> 1) ^^^ (if c.getLsbD 0 then poly else 0#32)
def four (c : W32) : W32 := one (one (one (one c)))
def eight (c : W32) : W32 := four (four c)
theorem one_xor (a b : W32) : one (a ^^^ b) = one a ^^^ one b := by
  unfold one
  rw [BitVec.getLsbD_xor, BitVec.ushiftRight_xor_distrib]
  cases a.getLsbD 0 <;> cases b.getLsbD 0 <;> simp only [Bool.xor_false, Bool.xor_true, Bool.not_false, Bool.not_true, Bool.false_eq_true, if_true, if_false, BitVec.xor_zero]
  · ac_rfl
  · ac_rfl
  · have : a >>> 1 ^^^ poly ^^^ (b >>> 1 ^^^ poly) = a >>> 1 ^^^ b >>> 1 ^^^ (poly ^^^ poly) := by ac_rfl
    rw [this, BitVec.xor_self]
    exact BitVec.xor_zero.symm
theorem xor_cancel {a b : W32} (h : a ^^^ b = 0#32) : a = b := by
  have h2 : a ^^^ b ^^^ b = 0#32 ^^^ b := by rw [h]
  rw [BitVec.xor_assoc, BitVec.xor_self] at h2
  simpa using h2
theorem one_zero {c : W32} (hc : one c = 0#32) : c = 0#32 := by
  unfold one at hc
  cases h0 : c.getLsbD 0
  · rw [h0] at hc
    simp at hc
    apply BitVec.eq_of_getLsbD_eq
    intro i hi
    match i with
    | 0 => simpa using h0
    | k + 1 =>
      have := congrArg (fun x => x.getLsbD k) hc
      simp at this
      simpa [Nat.add_comm] using this
  · rw [h0] at hc
    have := congrArg (fun x => x.getLsbD 31) hc
    simp [poly] at this
theorem one_inj {a b : W32} (h : one a = one b) : a = b :=
  xor_cancel (one_zero (by rw [one_xor, h, BitVec.xor_self]))
theorem four_xor (a b : W32) : four (a ^^^ b) = four a ^^^ four b := by
  unfold four
  rw [one_xor, one_xor, one_xor, one_xor]
theorem eight_xor (a b : W32) : eight (a ^^^ b) = eight a ^^^ eight b := by
  unfold eight
  rw [four_xor, four_xor]
theorem four_inj {a b : W32} (h : four a = four b) : a = b := one_inj (one_inj (one_inj (one_inj h)))
theorem eight_inj {a b : W32} (h : eight a = eight b) : a = b := four_inj (four_inj h)
theorem eight_zero : eight 0#32 = 0#32 := by decide
theorem four_high (h : W32) (hh : ∀ i, i < 4 → h.getLsbD i = false) : four h = h >>> 4 := by
  have e : ∀ c : W32, c.getLsbD 0 = false → one c = c >>> 1 := by
    intro c hc
    unfold one
    rw [hc]
    simp
  unfold four
  rw [e h (hh 0 (by omega)), e (h >>> 1) (by simpa using hh 1 (by omega)), ← BitVec.shiftRight_add, e (h >>> (1 + 1)) (by simpa using hh 2 (by omega)), ← BitVec.shiftRight_add, e (h >>> (1 + 1 + 1)) (by simpa using hh 3 (by omega)), ← BitVec.shiftRight_add]

/-- The table of sixteen. -/
def tab : List Nat := [0, 498536548, 997073096, 651767980, 1994146192, 1802195444, 1303535960, 1342533948, 3988292384, 4027552580, 3604390888, 3412177804, 2607071920, 2262029012, 2685067896, 3183342108]
def tabAt (l : W32) : W32 := BitVec.ofNat 32 (tab.getD l.toNat 0)
theorem four_low : ∀ l : Fin 16, four (BitVec.ofNat 32 l.val) = BitVec.ofNat 32 (tab.getD l.val 0) := by decide
theorem low_lt (c : W32) : (c &&& 15#32).toNat < 16 := by
  rw [BitVec.toNat_and]
  exact Nat.lt_of_le_of_lt Nat.and_le_right (by decide)
theorem four_tab (c : W32) : four c = (c >>> 4) ^^^ tabAt (c &&& 15#32) := by
  have hc : c = (c &&& 4294967280#32) ^^^ (c &&& 15#32) := by
    apply BitVec.eq_of_getLsbD_eq
    intro i hi
    have key : ∀ i : Fin 32, (4294967280#32).getLsbD i.val = !((15#32).getLsbD i.val) := by decide
    have k := key ⟨i, hi⟩
    simp only at k
    rw [BitVec.getLsbD_xor, BitVec.getLsbD_and, BitVec.getLsbD_and, k]
    cases c.getLsbD i <;> cases (15#32).getLsbD i <;> rfl
  have hl : four (c &&& 15#32) = tabAt (c &&& 15#32) := by
    have h := four_low ⟨(c &&& 15#32).toNat, low_lt c⟩
    simp only [BitVec.ofNat_toNat, BitVec.setWidth_eq] at h
    exact h
  have hh : four (c &&& 4294967280#32) = c >>> 4 := by
    rw [four_high]
    · apply BitVec.eq_of_getLsbD_eq
      intro i hi
      rw [BitVec.getLsbD_ushiftRight, BitVec.getLsbD_ushiftRight, BitVec.getLsbD_and]
      have key : ∀ i : Fin 32, (4294967280#32).getLsbD (4 + i.val) = decide (4 + i.val < 32) := by decide
      have k := key ⟨i, hi⟩
      simp only at k
      rw [k]
      by_cases h : 4 + i < 32
      · simp [h]
      · rw [BitVec.getLsbD_of_ge c (4 + i) (by omega)]
        simp
    · intro i hi
      rw [BitVec.getLsbD_and]
      have key : ∀ i : Fin 4, (4294967280#32).getLsbD i.val = false := by decide
      have k := key ⟨i, hi⟩
      simp only at k
      rw [k, Bool.and_false]
  conv => lhs; rw [hc]
  rw [four_xor, hl, hh]

/-- A byte taken in. -/
def w8 (b : UInt8) : W32 := BitVec.ofNat 32 b.toNat
def step (c : W32) (b : UInt8) : W32 := eight (c ^^^ w8 b)
def run (c : W32) (l : List UInt8) : W32 := l.foldl step c
/-- The checksum with bytes behind. -/
def crcMore (s : W32) (l : List UInt8) : W32 := ~~~ run (~~~ s) l
def zeros (n : Nat) : List UInt8 := List.replicate n 0
theorem w8_inj {a b : UInt8} (h : w8 a = w8 b) : a = b := by
  unfold w8 at h
  have h2 := congrArg BitVec.toNat h
  have ha := a.toNat_lt
  have hb := b.toNat_lt
  rw [BitVec.toNat_ofNat, BitVec.toNat_ofNat, Nat.mod_eq_of_lt (by omega), Nat.mod_eq_of_lt (by omega)] at h2
  exact UInt8.toNat_inj.1 h2
theorem w8_xor (a b : UInt8) : w8 (a ^^^ b) = w8 a ^^^ w8 b := by
  unfold w8
  apply BitVec.eq_of_toNat_eq
  have ha := a.toNat_lt
  have hb := b.toNat_lt
  have hx : a.toNat ^^^ b.toNat < 2 ^ 8 := Nat.xor_lt_two_pow (by omega) (by omega)
  rw [BitVec.toNat_xor, BitVec.toNat_ofNat, BitVec.toNat_ofNat, BitVec.toNat_ofNat, UInt8.toNat_xor, Nat.mod_eq_of_lt (by omega), Nat.mod_eq_of_lt (by omega), Nat.mod_eq_of_lt (by omega)]
theorem step_inj {a b : W32} {x : UInt8} (h : step a x = step b x) : a = b := by
  have h2 := eight_inj h
  have h3 : a ^^^ w8 x ^^^ (b ^^^ w8 x) = 0#32 := by rw [h2, BitVec.xor_self]
  apply xor_cancel
  rw [← h3]
  have : a ^^^ w8 x ^^^ (b ^^^ w8 x) = a ^^^ b ^^^ (w8 x ^^^ w8 x) := by ac_rfl
  rw [this, BitVec.xor_self, BitVec.xor_zero]
theorem step_inj2 {a : W32} {x y : UInt8} (h : step a x = step a y) : x = y := by
  have h2 := eight_inj h
  have h3 : a ^^^ w8 x ^^^ (a ^^^ w8 y) = 0#32 := by rw [h2, BitVec.xor_self]
  apply w8_inj
  apply xor_cancel
  rw [← h3]
  have : a ^^^ w8 x ^^^ (a ^^^ w8 y) = w8 x ^^^ w8 y ^^^ (a ^^^ a) := by ac_rfl
  rw [this, BitVec.xor_self, BitVec.xor_zero]
theorem run_nil (c : W32) : run c [] = c := rfl
theorem run_append (c : W32) (l m : List UInt8) : run c (l ++ m) = run (run c l) m := List.foldl_append
theorem run_snoc (c : W32) (l : List UInt8) (b : UInt8) : run c (l ++ [b]) = step (run c l) b := by rw [run_append]; rfl
theorem run_inj {a b : W32} : ∀ {l : List UInt8}, run a l = run b l → a = b
  | [], h => h
  | _ :: l, h => step_inj (run_inj (l := l) h)
theorem step_xor (a b : W32) (x y : UInt8) : step (a ^^^ b) (x ^^^ y) = step a x ^^^ step b y := by
  unfold step
  rw [w8_xor, ← eight_xor]
  congr 1
  ac_rfl
/-- Lists of one length, byte by byte xor. -/
def xors : List UInt8 → List UInt8 → List UInt8
  | a :: l, b :: m => (a ^^^ b) :: xors l m
  | _, _ => []
theorem run_xor (a b : W32) : ∀ (l m : List UInt8), l.length = m.length → run (a ^^^ b) (xors l m) = run a l ^^^ run b m := by
  intro l
  induction l generalizing a b with
  | nil => intro m h; cases m with
    | nil => rfl
    | cons => simp at h
  | cons x l ih => intro m h; cases m with
    | nil => simp at h
    | cons y m =>
      show run (step (a ^^^ b) (x ^^^ y)) (xors l m) = run (step a x) l ^^^ run (step b y) m
      rw [step_xor]
      exact ih _ _ m (by simpa using h)
theorem xors_length : ∀ {l m : List UInt8}, l.length = m.length → (xors l m).length = l.length
  | [], [], _ => rfl
  | _ :: l, _ :: m, h => by
    show (xors l m).length + 1 = l.length + 1
    rw [xors_length (by simpa using h)]
  | [], _ :: _, h => by simp at h
  | _ :: _, [], h => by simp at h
theorem xors_zeros : ∀ l : List UInt8, xors l (zeros l.length) = l
  | [] => rfl
  | a :: l => by
    show (a ^^^ 0) :: xors l (zeros l.length) = a :: l
    rw [xors_zeros l, UInt8.xor_zero]
theorem step_00 : step 0#32 0 = 0#32 := by decide
theorem run_zeros : ∀ n, run 0#32 (zeros n) = 0#32
  | 0 => rfl
  | n + 1 => by
    show run (step 0#32 0) (zeros n) = 0#32
    rw [step_00, run_zeros n]

/-- One byte turned, noughts around. -/
def spike (n k : Nat) (x : UInt8) : List UInt8 := zeros k ++ x :: zeros (n - 1 - k)
def delta (n k : Nat) (x : UInt8) : W32 := run (step 0#32 x) (zeros (n - 1 - k))
theorem run_spike (n k : Nat) (x : UInt8) : run 0#32 (spike n k x) = delta n k x := by
  unfold spike delta
  rw [run_append, run_zeros]
  rfl
theorem spike_length {n k : Nat} (x : UInt8) (h : k < n) : (spike n k x).length = n := by
  unfold spike zeros
  simp
  omega
theorem delta_zero {n k : Nat} {x : UInt8} (h : delta n k x = 0#32) : x = 0 := by
  unfold delta at h
  have h2 : run (step 0#32 x) (zeros (n - 1 - k)) = run 0#32 (zeros (n - 1 - k)) := by rw [h, run_zeros]
  have h3 := run_inj h2
  exact step_inj2 (a := 0#32) (h3.trans step_00.symm)
theorem delta_of_zero (n k : Nat) : delta n k 0 = 0#32 := by
  unfold delta
  rw [step_00]
  exact run_zeros _
theorem xors_spike {l : List UInt8} {k : Nat} (x : UInt8) (h : k < l.length) : xors l (spike l.length k x) = l.set k (l[k] ^^^ x) := by
  induction l generalizing k with
  | nil => simp at h
  | cons a l ih =>
    cases k with
    | zero =>
      show (a ^^^ x) :: xors l (zeros (l.length + 1 - 1 - 0)) = _
      rw [show l.length + 1 - 1 - 0 = l.length by omega, xors_zeros]
      rfl
    | succ k =>
      have hk : k < l.length := by simpa using h
      have e : spike (a :: l).length (k + 1) x = 0 :: spike l.length k x := by
        unfold spike zeros
        rw [List.replicate_succ, show (a :: l).length - 1 - (k + 1) = l.length - 1 - k by simp; omega]
        rfl
      rw [e]
      show (a ^^^ 0) :: xors l (spike l.length k x) = _
      rw [ih hk, UInt8.xor_zero]
      rfl
/-- What a flip does to the checksum. -/
theorem crc_flip (s : W32) {l : List UInt8} {k : Nat} (x : UInt8) (h : k < l.length) :
    crcMore s (l.set k (l[k] ^^^ x)) = crcMore s l ^^^ delta l.length k x := by
  unfold crcMore
  rw [← xors_spike x h, ← run_spike]
  have e := run_xor (~~~ s) 0#32 l (spike l.length k x) (spike_length x h).symm
  rw [BitVec.xor_zero] at e
  rw [e, BitVec.not_xor_left]
theorem crc_finds (s : W32) {l : List UInt8} {k : Nat} {x : UInt8} (h : k < l.length) (hx : x ≠ 0) : crcMore s (l.set k (l[k] ^^^ x)) ≠ crcMore s l := by
  rw [crc_flip s x h]
  intro e
  have h2 : crcMore s l ^^^ delta l.length k x ^^^ crcMore s l = 0#32 := by rw [e, BitVec.xor_self]
  have h3 : crcMore s l ^^^ delta l.length k x ^^^ crcMore s l = delta l.length k x ^^^ (crcMore s l ^^^ crcMore s l) := by ac_rfl
  rw [h3, BitVec.xor_self, BitVec.xor_zero] at h2
  exact hx (delta_zero h2)
theorem crc_append (s : W32) (l m : List UInt8) : crcMore s (l ++ m) = crcMore (crcMore s l) m := by
  unfold crcMore
  rw [run_append, BitVec.not_not]
theorem crc_nil (s : W32) : crcMore s [] = s := by
  unfold crcMore
  rw [run_nil, BitVec.not_not]
/-- Three lists and their xor. -/
theorem crc_xor {a b c : List UInt8} (h1 : a.length = b.length) (h2 : a.length = c.length) :
    crcMore 0#32 a ^^^ crcMore 0#32 b ^^^ crcMore 0#32 c ^^^ crcMore 0#32 (xors (xors a b) c) = 0#32 := by
  have hF : (~~~ 0#32) = ~~~ 0#32 ^^^ ~~~ 0#32 ^^^ ~~~ 0#32 := by decide
  have e : run (~~~ 0#32) (xors (xors a b) c) = run (~~~ 0#32) a ^^^ run (~~~ 0#32) b ^^^ run (~~~ 0#32) c := by
    conv => lhs; rw [hF]
    rw [run_xor _ _ _ _ (by rw [xors_length h1]; exact h2), run_xor _ _ _ _ h1]
  unfold crcMore
  rw [e]
  generalize run (~~~ 0#32) a = p
  generalize run (~~~ 0#32) b = q
  generalize run (~~~ 0#32) c = r
  have n : ∀ v : W32, ~~~ v = v ^^^ BitVec.allOnes 32 := fun v => by rw [BitVec.xor_allOnes]
  rw [n p, n q, n r, n]
  have : p ^^^ BitVec.allOnes 32 ^^^ (q ^^^ BitVec.allOnes 32) ^^^ (r ^^^ BitVec.allOnes 32) ^^^ (p ^^^ q ^^^ r ^^^ BitVec.allOnes 32)
      = (p ^^^ p) ^^^ (q ^^^ q) ^^^ (r ^^^ r) ^^^ (BitVec.allOnes 32 ^^^ BitVec.allOnes 32) ^^^ (BitVec.allOnes 32 ^^^ BitVec.allOnes 32) := by ac_rfl
  rw [this]
  simp

end Go.Proofs.YtccagamldlpefaaDoor
