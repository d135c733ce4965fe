/-
  Texts that belong together, joined: CrcM CrcS CrcF CrcG CrcH.
-/
import Derived.Lib.Hide
import Derived.Test.YtcdhakfmljjaoaaGreatDoorProg
import Derived.Test.YtcdhakfmljjaoaaGreatDoorJA
import Derived.Laws.BitsAllLaws
import Derived.Laws.BitsLemmas
import Derived.Deep.LoopGhost
import Derived.LoopTactic
import Derived.Laws.MakeOwn
import Derived.KernelRfl
import Derived.Lib.SlBytesConst

/-
  The checksum's register as a linear function: plain mathematics, no program.
-/

namespace Go.Proofs.YtcdhakfmljjaoaaGreatDoor
set_option maxRecDepth 100000
open Go.RowKit

abbrev W32 := BitVec 32
def poly : W32 := 0xedb88320#32
/-- One bit taken in. -/
def one (c : W32) : W32 := (c >>> 1) ^^^ (if c.getLsbD 0 then poly else 0#32)
def four (c : W32) : W32 := one (one (one (one c)))
def eight (c : W32) : W32 := four (four c)
theorem one_xor (a b : W32) : one (a ^^^ b) = one a ^^^ one b := by
  unfold one
  rw [BitVec.getLsbD_xor, BitVec.ushiftRight_xor_distrib]
  cases a.getLsbD 0 <;> cases b.getLsbD 0 <;> simp only [Bool.xor_false, Bool.xor_true, Bool.not_false, Bool.not_true, Bool.false_eq_true, if_true, if_false, BitVec.xor_zero]
  · ac_rfl
  · ac_rfl
  · have : a >>> 1 ^^^ poly ^^^ (b >>> 1 ^^^ poly) = a >>> 1 ^^^ b >>> 1 ^^^ (poly ^^^ poly) := by ac_rfl
    rw [this, BitVec.xor_self]
    exact BitVec.xor_zero.symm
theorem xor_cancel {a b : W32} (h : a ^^^ b = 0#32) : a = b := by
  have h2 : a ^^^ b ^^^ b = 0#32 ^^^ b := by rw [h]
  rw [BitVec.xor_assoc, BitVec.xor_self] at h2
  simpa using h2
theorem one_zero {c : W32} (hc : one c = 0#32) : c = 0#32 := by
  unfold one at hc
  cases h0 : c.getLsbD 0
  · rw [h0] at hc
    simp at hc
    apply BitVec.eq_of_getLsbD_eq
    intro i hi
    match i with
    | 0 => simpa using h0
    | k + 1 =>
      have := congrArg (fun x => x.getLsbD k) hc
      simp at this
      simpa [Nat.add_comm] using this
  · rw [h0] at hc
    have := congrArg (fun x => x.getLsbD 31) hc
    simp [poly] at this
theorem one_inj {a b : W32} (h : one a = one b) : a = b :=
  xor_cancel (one_zero (by rw [one_xor, h, BitVec.xor_self]))
theorem four_xor (a b : W32) : four (a ^^^ b) = four a ^^^ four b := by
  unfold four
  rw [one_xor, one_xor, one_xor, one_xor]
theorem eight_xor (a b : W32) : eight (a ^^^ b) = eight a ^^^ eight b := by
  unfold eight
  rw [four_xor, four_xor]
theorem four_inj {a b : W32} (h : four a = four b) : a = b := one_inj (one_inj (one_inj (one_inj h)))
theorem eight_inj {a b : W32} (h : eight a = eight b) : a = b := four_inj (four_inj h)
theorem eight_zero : eight 0#32 = 0#32 := by decide
theorem four_high (h : W32) (hh : ∀ i, i < 4 → h.getLsbD i = false) : four h = h >>> 4 := by
  have e : ∀ c : W32, c.getLsbD 0 = false → one c = c >>> 1 := by
    intro c hc
    unfold one
    rw [hc]
    simp
  unfold four
  rw [e h (hh 0 (by omega)), e (h >>> 1) (by simpa using hh 1 (by omega)), ← BitVec.shiftRight_add, e (h >>> (1 + 1)) (by simpa using hh 2 (by omega)), ← BitVec.shiftRight_add, e (h >>> (1 + 1 + 1)) (by simpa using hh 3 (by omega)), ← BitVec.shiftRight_add]

/-- The table of sixteen. -/
def tab : List Nat := [0, 498536548, 997073096, 651767980, 1994146192, 1802195444, 1303535960, 1342533948, 3988292384, 4027552580, 3604390888, 3412177804, 2607071920, 2262029012, 2685067896, 3183342108]
def tabAt (l : W32) : W32 := BitVec.ofNat 32 (tab.getD l.toNat 0)
theorem four_low : ∀ l : Fin 16, four (BitVec.ofNat 32 l.val) = BitVec.ofNat 32 (tab.getD l.val 0) := by decide
theorem low_lt (c : W32) : (c &&& 15#32).toNat < 16 := by
  rw [BitVec.toNat_and]
  exact Nat.lt_of_le_of_lt Nat.and_le_right (by decide)
theorem four_tab (c : W32) : four c = (c >>> 4) ^^^ tabAt (c &&& 15#32) := by
  have hc : c = (c &&& 4294967280#32) ^^^ (c &&& 15#32) := by
    apply BitVec.eq_of_getLsbD_eq
    intro i hi
    have key : ∀ i : Fin 32, (4294967280#32).getLsbD i.val = !((15#32).getLsbD i.val) := by decide
    have k := key ⟨i, hi⟩
    simp only at k
    rw [BitVec.getLsbD_xor, BitVec.getLsbD_and, BitVec.getLsbD_and, k]
    cases c.getLsbD i <;> cases (15#32).getLsbD i <;> rfl
  have hl : four (c &&& 15#32) = tabAt (c &&& 15#32) := by
    have h := four_low ⟨(c &&& 15#32).toNat, low_lt c⟩
    simp only [BitVec.ofNat_toNat, BitVec.setWidth_eq] at h
    exact h
  have hh : four (c &&& 4294967280#32) = c >>> 4 := by
    rw [four_high]
    · apply BitVec.eq_of_getLsbD_eq
      intro i hi
      rw [BitVec.getLsbD_ushiftRight, BitVec.getLsbD_ushiftRight, BitVec.getLsbD_and]
      have key : ∀ i : Fin 32, (4294967280#32).getLsbD (4 + i.val) = decide (4 + i.val < 32) := by decide
      have k := key ⟨i, hi⟩
      simp only at k
      rw [k]
      by_cases h : 4 + i < 32
      · simp [h]
      · rw [BitVec.getLsbD_of_ge c (4 + i) (by omega)]
        simp
    · intro i hi
      rw [BitVec.getLsbD_and]
      have key : ∀ i : Fin 4, (4294967280#32).getLsbD i.val = false := by decide
      have k := key ⟨i, hi⟩
      simp only at k
      rw [k, Bool.and_false]
  conv => lhs; rw [hc]
  rw [four_xor, hl, hh]

/-- A byte taken in. -/
def w8 (b : UInt8) : W32 := BitVec.ofNat 32 b.toNat
def step (c : W32) (b : UInt8) : W32 := eight (c ^^^ w8 b)
def run (c : W32) (l : List UInt8) : W32 := l.foldl step c
/-- The checksum with bytes behind. -/
def crcMore (s : W32) (l : List UInt8) : W32 := ~~~ run (~~~ s) l
def zeros (n : Nat) : List UInt8 := List.replicate n 0
theorem w8_inj {a b : UInt8} (h : w8 a = w8 b) : a = b := by
  unfold w8 at h
  have h2 := congrArg BitVec.toNat h
  have ha := a.toNat_lt
  have hb := b.toNat_lt
  rw [BitVec.toNat_ofNat, BitVec.toNat_ofNat, Nat.mod_eq_of_lt (by omega), Nat.mod_eq_of_lt (by omega)] at h2
  exact UInt8.toNat_inj.1 h2
theorem w8_xor (a b : UInt8) : w8 (a ^^^ b) = w8 a ^^^ w8 b := by
  unfold w8
  apply BitVec.eq_of_toNat_eq
  have ha := a.toNat_lt
  have hb := b.toNat_lt
  have hx : a.toNat ^^^ b.toNat < 2 ^ 8 := Nat.xor_lt_two_pow (by omega) (by omega)
  rw [BitVec.toNat_xor, BitVec.toNat_ofNat, BitVec.toNat_ofNat, BitVec.toNat_ofNat, UInt8.toNat_xor, Nat.mod_eq_of_lt (by omega), Nat.mod_eq_of_lt (by omega), Nat.mod_eq_of_lt (by omega)]
theorem step_inj {a b : W32} {x : UInt8} (h : step a x = step b x) : a = b := by
  have h2 := eight_inj h
  have h3 : a ^^^ w8 x ^^^ (b ^^^ w8 x) = 0#32 := by rw [h2, BitVec.xor_self]
  apply xor_cancel
  rw [← h3]
  have : a ^^^ w8 x ^^^ (b ^^^ w8 x) = a ^^^ b ^^^ (w8 x ^^^ w8 x) := by ac_rfl
  rw [this, BitVec.xor_self, BitVec.xor_zero]
theorem step_inj2 {a : W32} {x y : UInt8} (h : step a x = step a y) : x = y := by
  have h2 := eight_inj h
  have h3 : a ^^^ w8 x ^^^ (a ^^^ w8 y) = 0#32 := by rw [h2, BitVec.xor_self]
  apply w8_inj
  apply xor_cancel
  rw [← h3]
  have : a ^^^ w8 x ^^^ (a ^^^ w8 y) = w8 x ^^^ w8 y ^^^ (a ^^^ a) := by ac_rfl
  rw [this, BitVec.xor_self, BitVec.xor_zero]
theorem run_nil (c : W32) : run c [] = c := rfl
theorem run_append (c : W32) (l m : List UInt8) : run c (l ++ m) = run (run c l) m := List.foldl_append
theorem run_snoc (c : W32) (l : List UInt8) (b : UInt8) : run c (l ++ [b]) = step (run c l) b := by rw [run_append]; rfl
theorem run_inj {a b : W32} : ∀ {l : List UInt8}, run a l = run b l → a = b
  | [], h => h
  | _ :: l, h => step_inj (run_inj (l := l) h)
theorem step_xor (a b : W32) (x y : UInt8) : step (a ^^^ b) (x ^^^ y) = step a x ^^^ step b y := by
  unfold step
  rw [w8_xor, ← eight_xor]
  congr 1
  ac_rfl
/-- Lists of one length, byte by byte xor. -/
def xors : List UInt8 → List UInt8 → List UInt8
  | a :: l, b :: m => (a ^^^ b) :: xors l m
  | _, _ => []
theorem run_xor (a b : W32) : ∀ (l m : List UInt8), l.length = m.length → run (a ^^^ b) (xors l m) = run a l ^^^ run b m := by
  intro l
  induction l generalizing a b with
  | nil => intro m h; cases m with
    | nil => rfl
    | cons => simp at h
  | cons x l ih => intro m h; cases m with
    | nil => simp at h
    | cons y m =>
      show run (step (a ^^^ b) (x ^^^ y)) (xors l m) = run (step a x) l ^^^ run (step b y) m
      rw [step_xor]
      exact ih _ _ m (by simpa using h)
theorem xors_length : ∀ {l m : List UInt8}, l.length = m.length → (xors l m).length = l.length
  | [], [], _ => rfl
  | _ :: l, _ :: m, h => by
    show (xors l m).length + 1 = l.length + 1
    rw [xors_length (by simpa using h)]
  | [], _ :: _, h => by simp at h
  | _ :: _, [], h => by simp at h
theorem xors_zeros : ∀ l : List UInt8, xors l (zeros l.length) = l
  | [] => rfl
  | a :: l => by
    show (a ^^^ 0) :: xors l (zeros l.length) = a :: l
    rw [xors_zeros l, UInt8.xor_zero]
theorem step_00 : step 0#32 0 = 0#32 := by decide
theorem run_zeros : ∀ n, run 0#32 (zeros n) = 0#32
  | 0 => rfl
  | n + 1 => by
    show run (step 0#32 0) (zeros n) = 0#32
    rw [step_00, run_zeros n]

/-- One byte turned, noughts around. -/
def spike (n k : Nat) (x : UInt8) : List UInt8 := zeros k ++ x :: zeros (n - 1 - k)
def delta (n k : Nat) (x : UInt8) : W32 := run (step 0#32 x) (zeros (n - 1 - k))
theorem run_spike (n k : Nat) (x : UInt8) : run 0#32 (spike n k x) = delta n k x := by
  unfold spike delta
  rw [run_append, run_zeros]
  rfl
theorem spike_length {n k : Nat} (x : UInt8) (h : k < n) : (spike n k x).length = n := by
  unfold spike zeros
  simp
  omega
theorem delta_zero {n k : Nat} {x : UInt8} (h : delta n k x = 0#32) : x = 0 := by
  unfold delta at h
  have h2 : run (step 0#32 x) (zeros (n - 1 - k)) = run 0#32 (zeros (n - 1 - k)) := by rw [h, run_zeros]
  have h3 := run_inj h2
  exact step_inj2 (a := 0#32) (h3.trans step_00.symm)
theorem delta_of_zero (n k : Nat) : delta n k 0 = 0#32 := by
  unfold delta
  rw [step_00]
  exact run_zeros _
theorem xors_spike {l : List UInt8} {k : Nat} (x : UInt8) (h : k < l.length) : xors l (spike l.length k x) = l.set k (l[k] ^^^ x) := by
  induction l generalizing k with
  | nil => simp at h
  | cons a l ih =>
    cases k with
    | zero =>
      show (a ^^^ x) :: xors l (zeros (l.length + 1 - 1 - 0)) = _
      rw [show l.length + 1 - 1 - 0 = l.length by omega, xors_zeros]
      rfl
    | succ k =>
      have hk : k < l.length := by simpa using h
      have e : spike (a :: l).length (k + 1) x = 0 :: spike l.length k x := by
        unfold spike zeros
        rw [List.replicate_succ, show (a :: l).length - 1 - (k + 1) = l.length - 1 - k by simp; omega]
        rfl
      rw [e]
      show (a ^^^ 0) :: xors l (spike l.length k x) = _
      rw [ih hk, UInt8.xor_zero]
      rfl
/-- What a flip does to the checksum. -/
theorem crc_flip (s : W32) {l : List UInt8} {k : Nat} (x : UInt8) (h : k < l.length) :
    crcMore s (l.set k (l[k] ^^^ x)) = crcMore s l ^^^ delta l.length k x := by
  unfold crcMore
  rw [← xors_spike x h, ← run_spike]
  have e := run_xor (~~~ s) 0#32 l (spike l.length k x) (spike_length x h).symm
  rw [BitVec.xor_zero] at e
  rw [e, BitVec.not_xor_left]
theorem crc_finds (s : W32) {l : List UInt8} {k : Nat} {x : UInt8} (h : k < l.length) (hx : x ≠ 0) : crcMore s (l.set k (l[k] ^^^ x)) ≠ crcMore s l := by
  rw [crc_flip s x h]
  intro e
  have h2 : crcMore s l ^^^ delta l.length k x ^^^ crcMore s l = 0#32 := by rw [e, BitVec.xor_self]
  have h3 : crcMore s l ^^^ delta l.length k x ^^^ crcMore s l = delta l.length k x ^^^ (crcMore s l ^^^ crcMore s l) := by ac_rfl
  rw [h3, BitVec.xor_self, BitVec.xor_zero] at h2
  exact hx (delta_zero h2)
theorem crc_append (s : W32) (l m : List UInt8) : crcMore s (l ++ m) = crcMore (crcMore s l) m := by
  unfold crcMore
  rw [run_append, BitVec.not_not]
theorem crc_nil (s : W32) : crcMore s [] = s := by
  unfold crcMore
  rw [run_nil, BitVec.not_not]
/-- Three lists and their xor. -/
theorem crc_xor {a b c : List UInt8} (h1 : a.length = b.length) (h2 : a.length = c.length) :
    crcMore 0#32 a ^^^ crcMore 0#32 b ^^^ crcMore 0#32 c ^^^ crcMore 0#32 (xors (xors a b) c) = 0#32 := by
  have hF : (~~~ 0#32) = ~~~ 0#32 ^^^ ~~~ 0#32 ^^^ ~~~ 0#32 := by decide
  have e : run (~~~ 0#32) (xors (xors a b) c) = run (~~~ 0#32) a ^^^ run (~~~ 0#32) b ^^^ run (~~~ 0#32) c := by
    conv => lhs; rw [hF]
    rw [run_xor _ _ _ _ (by rw [xors_length h1]; exact h2), run_xor _ _ _ _ h1]
  unfold crcMore
  rw [e]
  generalize run (~~~ 0#32) a = p
  generalize run (~~~ 0#32) b = q
  generalize run (~~~ 0#32) c = r
  have n : ∀ v : W32, ~~~ v = v ^^^ BitVec.allOnes 32 := fun v => by rw [BitVec.xor_allOnes]
  rw [n p, n q, n r, n]
  have : p ^^^ BitVec.allOnes 32 ^^^ (q ^^^ BitVec.allOnes 32) ^^^ (r ^^^ BitVec.allOnes 32) ^^^ (p ^^^ q ^^^ r ^^^ BitVec.allOnes 32)
      = (p ^^^ p) ^^^ (q ^^^ q) ^^^ (r ^^^ r) ^^^ (BitVec.allOnes 32 ^^^ BitVec.allOnes 32) ^^^ (BitVec.allOnes 32 ^^^ BitVec.allOnes 32) := by ac_rfl
  rw [this]
  simp

end Go.Proofs.YtcdhakfmljjaoaaGreatDoor

/-
  One byte taken in: the program's step and the document's.
-/






namespace Go.Proofs.YtcdhakfmljjaoaaGreatDoor
set_option maxRecDepth 100000
open Go.RowKit

/-- A register as a number. -/
def uv (c : W32) : Int := (c.toNat : Int)
theorem uv_lo (c : W32) : 0 ≤ uv c := by unfold uv; omega
theorem uv_hi (c : W32) : uv c ≤ 4294967295 := by unfold uv; have := c.isLt; omega
theorem uv_inj {a b : W32} (h : uv a = uv b) : a = b := by
  unfold uv at h
  exact BitVec.eq_of_toNat_eq (by omega)
theorem uv_ofInt (c : W32) : BitVec.ofInt 32 (uv c) = c := by
  unfold uv
  rw [BitVec.ofInt_natCast, BitVec.ofNat_toNat, BitVec.setWidth_eq]
theorem uv_wrap (c : W32) : IntKind.u32.wrap (uv c) = uv c := by
  rw [IntKind.wrap_u32]
  have := uv_lo c
  have := uv_hi c
  omega
theorem bits_xor (a b : W32) : bits .xor .u32 (uv a) (uv b) = uv (a ^^^ b) := by
  show IntKind.u32.wrap ((BitVec.ofInt 32 (uv a) ^^^ BitVec.ofInt 32 (uv b)).toNat : Int) = _
  rw [uv_ofInt, uv_ofInt]
  exact uv_wrap _
theorem bits_and15 (a : W32) : bits .and .u32 (uv a) 15 = uv (a &&& 15#32) := by
  show IntKind.u32.wrap ((BitVec.ofInt 32 (uv a) &&& BitVec.ofInt 32 15).toNat : Int) = _
  rw [uv_ofInt, show BitVec.ofInt 32 15 = 15#32 by decide]
  exact uv_wrap _
theorem uv_shr4 (a : W32) : uv a / (16 : Int) = uv (a >>> 4) := by
  unfold uv
  rw [BitVec.toNat_ushiftRight, Nat.shiftRight_eq_div_pow]
  omega
theorem uv_half (a : W32) : uv a / (2 : Int) = uv (a >>> 1) := by
  unfold uv
  rw [BitVec.toNat_ushiftRight, Nat.shiftRight_eq_div_pow]
  omega
theorem uv_w8 (b : UInt8) : uv (w8 b) = (b.toNat : Int) := by
  unfold uv w8
  have := b.toNat_lt
  rw [BitVec.toNat_ofNat, Nat.mod_eq_of_lt (by omega)]
theorem uv_not (a : W32) : bits .xor .u32 4294967295 (uv a) = uv (~~~ a) := by
  have h := bits_xor (BitVec.allOnes 32) a
  rw [BitVec.allOnes_xor] at h
  exact h
theorem uv_bit0 (a : W32) : uv a % (2 : Int) = if a.getLsbD 0 then 1 else 0 := by
  unfold uv
  have h : a.getLsbD 0 = a.toNat.testBit 0 := rfl
  rw [h, Nat.testBit_zero]
  by_cases h2 : a.toNat % 2 = 1
  · simp [h2]; omega
  · simp [h2]; omega

/-- The table's sixteen cells. -/
def Tab (w : World) : Prop := ∀ j, j < 16 → w.cell? ⟨1, j, none⟩ = some (.int .u32 ((tab.getD j 0 : Nat) : Int))
theorem Tab.fr {w w' : World} (h : Tab w) (hF : Fr (fun _ => False) w w') : Tab w' := fun j hj => by
  have hc := h j hj
  rw [World.cell?_of_block (hF.block _ (by
    apply Decidable.byContradiction
    intro hn
    rw [World.cell?, Array.getElem?_eq_none (by omega)] at hc
    cases hc) id)]
  exact hc
theorem Tab.at_ {w : World} (h : Tab w) (c : W32) : w.cell? ⟨1, (c &&& 15#32).toNat, none⟩ = some (.int .u32 (uv (tabAt (c &&& 15#32)))) := by
  rw [h _ (low_lt c)]
  have hb : ∀ i : Fin 16, tab.getD i.val 0 < 4294967296 := by decide
  have := hb ⟨_, low_lt c⟩
  unfold uv tabAt
  rw [BitVec.toNat_ofNat, Nat.mod_eq_of_lt (by simpa using this)]

set_option maxHeartbeats 400000 in
theorem step_core (w : World) (C X C1 S1 T1 C2 S2 T2 C3 : Int) (N1 N2 : Nat) (hX : 0 ≤ X) (hX2 : X ≤ 255)
    (r1 : bits .xor .u32 C X = C1) (r2 : C1 / 16 = S1) (r3 : bits .and .u32 C1 15 = (N1 : Int)) (h1 : N1 < 16) (c1 : w.cell? ⟨1, N1, none⟩ = some (.int .u32 T1))
    (r4 : bits .xor .u32 S1 T1 = C2) (r5 : C2 / 16 = S2) (r6 : bits .and .u32 C2 15 = (N2 : Int)) (h2 : N2 < 16) (c2 : w.cell? ⟨1, N2, none⟩ = some (.int .u32 T2)) (r7 : bits .xor .u32 S2 T2 = C3) :
    Calls Tryz.prog 56 #[.int .u32 C, .int .u8 X] w fun e w' => e = .returned (.int .u32 C3) ∧ w = w' := by
  go_enter Tryz.func56, Tryz.ntmps56
  go_wp2
  go_ret
  exact ⟨rfl, rfl⟩

theorem step_any (w : World) (hT : Tab w) (c : W32) (b : UInt8) :
    Calls Tryz.prog 56 #[.int .u32 (uv c), .int .u8 (b.toNat : Int)] w fun e w' => e = .returned (.int .u32 (uv (step c b))) ∧ w = w' := by
  have hb := b.toNat_lt
  refine step_core w (uv c) (b.toNat : Int) (uv (c ^^^ w8 b)) (uv ((c ^^^ w8 b) >>> 4)) (uv (tabAt ((c ^^^ w8 b) &&& 15#32))) (uv (four (c ^^^ w8 b))) (uv (four (c ^^^ w8 b) >>> 4)) (uv (tabAt (four (c ^^^ w8 b) &&& 15#32))) _
    ((c ^^^ w8 b) &&& 15#32).toNat (four (c ^^^ w8 b) &&& 15#32).toNat (by omega) (by omega) (by rw [← uv_w8]; exact bits_xor _ _) (uv_shr4 _) (bits_and15 _) (low_lt _) (hT.at_ _) (by rw [four_tab (c ^^^ w8 b)]; exact bits_xor _ _) (uv_shr4 _) (bits_and15 _) (low_lt _) (hT.at_ _) ?_
  rw [bits_xor, ← four_tab]
  rfl

def iter : Nat → W32 → W32
  | 0, c => c
  | k + 1, c => one (iter k c)
theorem one_of_bit {c : W32} (h : c.getLsbD 0 = true) : one c = (c >>> 1) ^^^ poly := by unfold one; rw [h]; rfl
theorem one_of_not {c : W32} (h : c.getLsbD 0 = false) : one c = c >>> 1 := by
  unfold one
  rw [h]
  exact BitVec.xor_zero
theorem bits_poly (a : W32) : bits .xor .u32 (uv a) 3988292384 = uv (a ^^^ poly) := bits_xor a poly

set_option maxHeartbeats 400000 in
theorem rstep_any (w : World) (c : W32) (b : UInt8) :
    Calls Tryz.prog 65 #[.int .u32 (uv c), .int .u8 (b.toNat : Int)] w fun e w' => e = .returned (.int .u32 (uv (step c b))) ∧ w = w' := by
  have hb := b.toNat_lt
  obtain ⟨x, hx⟩ : ∃ x : Int, x = (b.toNat : Int) := ⟨_, rfl⟩
  have r1 : bits .xor .u32 (uv c) x = uv (c ^^^ w8 b) := by rw [hx, ← uv_w8]; exact bits_xor _ _
  rw [← hx]
  have hx0 : 0 ≤ x := by omega
  have hx1 : x ≤ 255 := by omega
  have he : step c b = iter 8 (c ^^^ w8 b) := rfl
  rw [he]
  generalize c ^^^ w8 b = d at r1
  obtain ⟨D, hD⟩ : ∃ D, D = uv d := ⟨_, rfl⟩
  rw [← hD] at r1
  have HD := Lib.hid hD
  clear he hx hb hD
  go_enter Tryz.func65, Tryz.ntmps65
  go_wp2_with fail
  go_loop [0, 5] (fun c i => ∃ (k : Nat) (C : Int), k ≤ 8 ∧ i = .int .i64 k ∧ c = .int .u32 C ∧ Hid (C = uv (iter k d))) (fun _ i => 8 - (intOf i).toNat)
  case atStart => exact ⟨0, D, Nat.zero_le _, rfl, rfl, HD⟩
  case round =>
    obtain ⟨k, C, hk, rfl, rfl, HC⟩ := hrel
    clear r1
    have hlo : 0 ≤ C := by have h1 := HC.out; have := uv_lo (iter k d); omega
    have hhi : C ≤ 4294967295 := by have h1 := HC.out; have := uv_hi (iter k d); omega
    by_cases hlt : k < 8
    · have hm := uv_bit0 (iter k d)
      have hh := uv_half (iter k d)
      have hp := bits_poly (iter k d >>> 1)
      rw [← hh] at hp
      rw [← HC.out] at hm hh hp
      cases hbit : (iter k d).getLsbD 0
      · rw [hbit, if_neg (by decide)] at hm
        have t1 : ((C % 2) == 1) = false := by rw [hm]; decide
        have HN := Lib.hid (show C / 2 = uv (iter (k + 1) d) by rw [hh]; exact (congrArg uv (one_of_not hbit)).symm)
        clear hm hh hp hbit
        go_wp2
        go_round
        case rel => exact ⟨k + 1, _, by omega, by go_num, rfl, HN⟩
        case measure => simp [intOf]; omega
      · rw [hbit, if_pos rfl] at hm
        have t1 : ((C % 2) == 1) = true := by rw [hm]; decide
        obtain ⟨E, hE⟩ : ∃ E, E = uv (iter (k + 1) d) := ⟨_, rfl⟩
        have hp' : bits .xor .u32 (C / 2) 3988292384 = E := by rw [hp, hE]; exact (congrArg uv (one_of_bit hbit)).symm
        have HE := Lib.hid hE
        clear hm hh hp hbit hE
        go_wp2
        go_round
        case rel => exact ⟨k + 1, E, by omega, by go_num, rfl, HE⟩
        case measure => simp [intOf]; omega
    · have hk8 : k = 8 := by omega
      subst hk8
      go_wp2
      go_ret
      have h := HC.out
      subst h
      exact ⟨rfl, rfl⟩

end Go.Proofs.YtcdhakfmljjaoaaGreatDoor

/-
  The calls of crc, and the document's.
-/


namespace Go.Proofs.YtcdhakfmljjaoaaGreatDoor
set_option maxRecDepth 100000
open Go.RowKit Go.Maps

theorem zeros_snoc (k : Nat) : zeros (k + 1) = zeros k ++ [0] := by unfold zeros; rw [List.replicate_succ']
theorem zeros_length (k : Nat) : (zeros k).length = k := List.length_replicate
theorem run_take (c : W32) (l : List UInt8) {k : Nat} (h : k < l.length) : run c (l.take (k + 1)) = step (run c (l.take k)) l[k] := by
  rw [List.take_succ_eq_append_getElem h, run_snoc]

theorem step_zero (w : World) (hT : Tab w) (c : W32) : Calls Tryz.prog 56 #[.int .u32 (uv c), .int .u8 0] w fun e w' => e = .returned (.int .u32 (uv (step c 0))) ∧ w = w' :=
  step_any w hT c 0

theorem uv_not_lit (a : W32) : bits .xor .u32 IntKind.u32.max (uv a) = uv (~~~ a) := uv_not a
theorem uv_not_lit' (a : W32) : bits .xor .u32 (uv a) 4294967295 = uv (~~~ a) := by
  have h := bits_xor a (BitVec.allOnes 32)
  rw [BitVec.xor_allOnes] at h
  exact h

set_option maxHeartbeats 400000 in
theorem more_any (w : World) (hT : Tab w) (s : W32) (A : Option Addr) (cap B : Nat) (l : List UInt8) (hr : Rd w B A l) (hl : l.length ≤ 9223372036854775807) :
    Calls Tryz.prog 32 #[.int .u32 (uv s), .slice A l.length cap] w fun e w' => e = .returned (.int .u32 (uv (crcMore s l))) ∧ w = w' := by
  obtain ⟨n, hn⟩ : ∃ n, n = l.length := ⟨_, rfl⟩
  rw [← hn] at hl ⊢
  have HT := Lib.hid hT
  have HR := Lib.hid hr
  have HN := Lib.hid hn
  have r1 := uv_not_lit s
  have r2 := fun l => uv_not_lit (run (~~~ s) l)
  have R2 := Lib.hid r2
  clear hn hT hr r2
  go_enter Tryz.func32, Tryz.ntmps32
  go_wp2_with fail
  go_loop [5, 7, 12] (fun v _ i => ∃ k : Nat, k ≤ n ∧ i = .int .i64 k ∧ v = .int .u32 (uv (run (~~~ s) (l.take k)))) (fun _ _ i => n - (intOf i).toNat)
  case atStart => exact ⟨0, Nat.zero_le _, rfl, rfl⟩
  case round =>
    obtain ⟨k, hk, rfl, rfl⟩ := hrel
    clear r1
    by_cases hlt : k < n
    · have hk1 : k < l.length := by have := HN.out; omega
      obtain ⟨blk, off, rfl, _, hc⟩ := HR.out.at_ hk1
      have HS := Lib.hid (run_take (~~~ s) l hk1)
      generalize l[k] = b at hc HS
      clear hk1
      go_wp2_with (go_at_call 56; refine (step_any _ HT.out _ b).mono ?_; rintro e w' ⟨rfl, rfl⟩)
      go_round
      case rel => exact ⟨k + 1, by omega, by go_num, by rw [HS.out]⟩
      case measure => simp [intOf]; omega
    · have hkn : k = n := by omega
      subst hkn
      have ht : l.take k = l := List.take_of_length_le (by have := HN.out; omega)
      have r3 := R2.out l
      rw [ht]
      go_wp2_with fail
      go_ret
      exact ⟨rfl, rfl⟩

set_option maxHeartbeats 400000 in
theorem sum_any (w : World) (hT : Tab w) (A : Option Addr) (cap B : Nat) (l : List UInt8) (hr : Rd w B A l) (hl : l.length ≤ 9223372036854775807) :
    Calls Tryz.prog 17 #[.slice A l.length cap] w fun e w' => e = .returned (.int .u32 (uv (crcMore 0#32 l))) ∧ w = w' := by
  have HM := Lib.hid (more_any w hT 0#32 A cap B l hr hl)
  clear hT hr hl
  go_enter Tryz.func17, Tryz.ntmps17
  go_wp2_with (go_at_call 32; refine HM.out.mono ?_; rintro e w' ⟨rfl, rfl⟩)
  go_ret
  exact ⟨rfl, rfl⟩

set_option maxHeartbeats 400000 in
theorem rmore_any (w : World) (s : W32) (A : Option Addr) (cap B : Nat) (l : List UInt8) (hr : Rd w B A l) (hl : l.length ≤ 9223372036854775807) :
    Calls Tryz.prog 43 #[.int .u32 (uv s), .slice A l.length cap] w fun e w' => e = .returned (.int .u32 (uv (crcMore s l))) ∧ w = w' := by
  obtain ⟨n, hn⟩ : ∃ n, n = l.length := ⟨_, rfl⟩
  rw [← hn] at hl ⊢
  have HR := Lib.hid hr
  have HN := Lib.hid hn
  have r1 := uv_not_lit' s
  have r2 := fun l => uv_not_lit' (run (~~~ s) l)
  have R2 := Lib.hid r2
  clear hn hr r2
  go_enter Tryz.func43, Tryz.ntmps43
  go_wp2_with fail
  go_loop [5, 6] (fun v i => ∃ k : Nat, k ≤ n ∧ i = .int .i64 k ∧ v = .int .u32 (uv (run (~~~ s) (l.take k)))) (fun _ i => n - (intOf i).toNat)
  case atStart => exact ⟨0, Nat.zero_le _, rfl, rfl⟩
  case round =>
    obtain ⟨k, hk, rfl, rfl⟩ := hrel
    clear r1
    by_cases hlt : k < n
    · have hk1 : k < l.length := by have := HN.out; omega
      obtain ⟨blk, off, rfl, _, hc⟩ := HR.out.at_ hk1
      have HS := Lib.hid (run_take (~~~ s) l hk1)
      generalize l[k] = b at hc HS
      clear hk1
      go_wp2_with (go_at_call 65; refine (rstep_any _ _ b).mono ?_; rintro e w' ⟨rfl, rfl⟩)
      go_round
      case rel => exact ⟨k + 1, by omega, by go_num, by rw [HS.out]⟩
      case measure => simp [intOf]; omega
    · have hkn : k = n := by omega
      subst hkn
      have ht : l.take k = l := List.take_of_length_le (by have := HN.out; omega)
      have r3 := R2.out l
      rw [ht]
      go_wp2_with fail
      go_ret
      exact ⟨rfl, rfl⟩

set_option maxHeartbeats 400000 in
theorem rsum_any (w : World) (A : Option Addr) (cap B : Nat) (l : List UInt8) (hr : Rd w B A l) (hl : l.length ≤ 9223372036854775807) :
    Calls Tryz.prog 26 #[.slice A l.length cap] w fun e w' => e = .returned (.int .u32 (uv (crcMore 0#32 l))) ∧ w = w' := by
  have HM := Lib.hid (rmore_any w 0#32 A cap B l hr hl)
  clear hr hl
  go_enter Tryz.func26, Tryz.ntmps26
  go_wp2_with (go_at_call 43; refine HM.out.mono ?_; rintro e w' ⟨rfl, rfl⟩)
  go_ret
  exact ⟨rfl, rfl⟩

def zn (z : Int) : Nat := (min z 65536).toNat

end Go.Proofs.YtcdhakfmljjaoaaGreatDoor

/-
  Flip, the document's Zeros and Flip, the statements' works.
-/


namespace Go.Proofs.YtcdhakfmljjaoaaGreatDoor
set_option maxRecDepth 100000
open Go.RowKit Go.Maps

theorem step_lit (w : World) (hT : Tab w) (b : UInt8) : Calls Tryz.prog 56 #[.int .u32 0, .int .u8 (b.toNat : Int)] w fun e w' => e = .returned (.int .u32 (uv (step 0#32 b))) ∧ w = w' :=
  step_any w hT 0#32 b
/-- What a flip is answered. -/
def flipBad (n k : Int) : Prop := 65536 < n ∨ k < 0 ∨ n ≤ k

theorem cellAny {w : World} {b : Nat} {cs : Array Value} {t : TypeId} {f : Nat × Nat} (h : w.heap[b]? = some (.cells cs t f)) (j : Nat) : w.cell? ⟨b, j, none⟩ = cs[j]? := by simp [World.cell?, h]
def nine : List UInt8 := [49, 50, 51, 52, 53, 54, 55, 56, 57]
theorem crc_nine : uv (crcMore 0#32 nine) = 3421780262 := by kernel_rfl
theorem crc_none : uv (crcMore 0#32 []) = 0 := by kernel_rfl
theorem sum_nine (w : World) (hT : Tab w) :
    Calls Tryz.prog 17 #[.slice (some ⟨w.heap.size, 0, none⟩) 9 9] (w.alloc (.cells #[.int .u8 49, .int .u8 50, .int .u8 51, .int .u8 52, .int .u8 53, .int .u8 54, .int .u8 55, .int .u8 56, .int .u8 57] 5 (9, 10))) fun e w' =>
      e = .returned (.int .u32 3421780262) ∧ (w.alloc (.cells #[.int .u8 49, .int .u8 50, .int .u8 51, .int .u8 52, .int .u8 53, .int .u8 54, .int .u8 55, .int .u8 56, .int .u8 57] 5 (9, 10))) = w' := by
  have hF : Fr (fun _ => False) w (w.alloc (.cells #[.int .u8 49, .int .u8 50, .int .u8 51, .int .u8 52, .int .u8 53, .int .u8 54, .int .u8 55, .int .u8 56, .int .u8 57] 5 (9, 10))) := (Fr.refl _ w).alloc _
  have h := sum_any _ (hT.fr hF) (some ⟨w.heap.size, 0, none⟩) 9 (w.heap.size + 1) nine (fun _ => ⟨_, 0, rfl, by omega, fun j x hj => by
    rw [cellAny (heap_alloc_new _ _), Nat.zero_add]
    have : (#[.int .u8 49, .int .u8 50, .int .u8 51, .int .u8 52, .int .u8 53, .int .u8 54, .int .u8 55, .int .u8 56, .int .u8 57] : Array Value) = (bs nine).toArray := rfl
    rw [this, List.getElem?_toArray, bs_get, hj]
    rfl⟩) (by decide)
  rw [crc_nine] at h
  exact h
theorem sum_nil (w : World) (hT : Tab w) : Calls Tryz.prog 17 #[.slice none 0 0] w fun e w' => e = .returned (.int .u32 0) ∧ w = w' := by
  have h := sum_any w hT none 0 0 [] (Rd.nil _ _ _) (by simp)
  rw [crc_none] at h
  exact h

end Go.Proofs.YtcdhakfmljjaoaaGreatDoor

/-
  The document's Zeros and Flip.
-/
namespace Go.Proofs.YtcdhakfmljjaoaaGreatDoor
set_option maxRecDepth 100000
open Go.RowKit Go.Maps

/-- Noughts that make has laid, in a world with a name. -/
theorem made_at (w : World) (n : Nat) (h : n ≤ 140737488351232) : ∃ w1, (Instr.makeSlice 22 (.int .i64 (n : Int)) (.int .i64 (n : Int))).run Tryz.prog w = .ok (.slice (some ⟨w.heap.size, 0, none⟩) n n) w1 ∧
    Own w1 w.heap.size (.slice (some ⟨w.heap.size, 0, none⟩) (zeros n).length n) (zeros n) ∧ Fr (fun _ => False) w w1 ∧ w.heap.size < w1.heap.size :=
  ⟨_, run_make_bytes n h w, own_zb w n h, (Fr.refl _ w).alloc _, by simp⟩

theorem rsum_own {w : World} {base n cap : Nat} {A : Option Addr} {l : List UInt8} (ho : Own w base (.slice A l.length cap) l) (hn : l.length = n) (hl : n ≤ 9223372036854775807) :
    Calls Tryz.prog 26 #[.slice A n cap] w fun e w' => e = .returned (.int .u32 (uv (crcMore 0#32 l))) ∧ w = w' := by
  subst hn
  exact rsum_any w A cap _ l ho.rd hl

theorem sum_own {w : World} (hT : Tab w) {base n cap : Nat} {A : Option Addr} {l : List UInt8} (ho : Own w base (.slice A l.length cap) l) (hn : l.length = n) (hl : n ≤ 9223372036854775807) :
    Calls Tryz.prog 17 #[.slice A n cap] w fun e w' => e = .returned (.int .u32 (uv (crcMore 0#32 l))) ∧ w = w' := by
  subst hn
  exact sum_any w hT A cap _ l ho.rd hl
theorem sum_rd {w : World} (hT : Tab w) {n cap B : Nat} {A : Option Addr} {l : List UInt8} (hr : Rd w B A l) (hn : l.length = n) (hl : n ≤ 9223372036854775807) :
    Calls Tryz.prog 17 #[.slice A n cap] w fun e w' => e = .returned (.int .u32 (uv (crcMore 0#32 l))) ∧ w = w' := by
  subst hn
  exact sum_any w hT A cap _ l hr hl
theorem bytes_rd {w : World} {B n cap : Nat} {A : Option Addr} {l : List UInt8} (hr : Rd w B A l) (hB : B ≤ w.heap.size) (hA : A = none → cap = 0) (hn : l.length = n) (hl : n ≤ 140737488351232) :
    Calls Tryz.prog 8 #[.slice A n cap] w fun e w' => ∃ A' cap', e = .returned (.slice A' n cap') ∧ Own w' w.heap.size (.slice A' l.length cap') l ∧ Fr (fun _ => False) w w' := by
  subst hn
  exact bytes_any w A cap l (hr.more hB) hA hl

theorem xor_twice (s c d : W32) : s ^^^ c ^^^ (c ^^^ d) = s ^^^ d := by
  have : s ^^^ c ^^^ (c ^^^ d) = s ^^^ d ^^^ (c ^^^ c) := by ac_rfl
  rw [this, BitVec.xor_self, BitVec.xor_zero]

end Go.Proofs.YtcdhakfmljjaoaaGreatDoor
