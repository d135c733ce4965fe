/-
  Texts that belong together, joined: GzM GzN GzO.
-/
import Derived.Test.YtcdhakfmljjaoaaGreatDoorJD

/-
  Frames as the document has them (mathematics): what is read at a place is what is read behind it.
-/

namespace Go.Proofs.YtcdhakfmljjaoaaGreatDoor.gz
set_option maxRecDepth 100000
open Go.Proofs.YtcdhakfmljjaoaaGreatDoor.fl Go.Proofs.YtcdhakfmljjaoaaGreatDoor.cd Go.Proofs.YtcdhakfmljjaoaaGreatDoor.ft

/-- What is told, as if so many bits more stood ahead. -/
def shf {α : Type} (s : Nat) : Except Int (α × Nat) → Except Int (α × Nat)
  | .error e => .error e
  | .ok (a, q) => .ok (a, s + q)
def Shift {α : Type} (f : RdM α) : Prop := ∀ (B : List Int) (s p : Nat), s % 8 = 0 → B.length % 8 = 0 → s + p ≤ B.length → f B (s + p) = shf s (f (B.drop s) p)
theorem shift_ret {α : Type} (a : α) : Shift (ret a) := fun _ _ _ _ _ _ => rfl
theorem shift_err {α : Type} (e : Int) : Shift (err e : RdM α) := fun _ _ _ _ _ _ => rfl
theorem shift_bnd {α β : Type} {f : RdM α} {g : α → RdM β} (hf : Shift f) (gf : ft.Good f) (hg : ∀ a, Shift (g a)) : Shift (bnd f g) := fun B s p hs h8 hp => by
  have h1 := hf B s p hs h8 hp
  have hl : (B.drop s).length = B.length - s := List.length_drop
  cases h : f (B.drop s) p with
  | error e =>
    rw [h] at h1
    rw [bnd_err h1, bnd_err h]
    rfl
  | ok v =>
    obtain ⟨a, q⟩ := v
    rw [h] at h1
    have hq := (gf.ok (by omega) (by omega) h).2
    rw [bnd_of h1, bnd_of h]
    exact hg a B s q hs h8 (by omega)
theorem shift_ite {α : Type} {c : Prop} [Decidable c] {f g : RdM α} (hf : Shift f) (hg : Shift g) : Shift (if c then f else g) := by
  by_cases h : c
  · rw [if_pos h]; exact hf
  · rw [if_neg h]; exact hg
theorem shift_tk (n : Nat) : Shift (tk n) := fun B s p _ _ hp => by
  unfold tk
  rw [List.length_drop]
  by_cases h : B.length < s + p + n
  · rw [if_pos h, if_pos (by omega)]
    rfl
  · rw [if_neg h, if_neg (by omega), List.drop_drop]
    show Except.ok _ = Except.ok _
    rw [Nat.add_assoc]
theorem shift_by8 (n : Nat) : Shift (by8 n) := fun B s p _ _ hp => by
  unfold by8
  rw [List.length_drop]
  by_cases h : B.length < s + p + 8 * n
  · rw [if_pos h, if_pos (by omega)]
    rfl
  · rw [if_neg h, if_neg (by omega), List.drop_drop]
    show Except.ok _ = Except.ok _
    rw [Nat.add_assoc]
theorem shift_al : Shift al := fun B s p hs _ _ => by
  unfold al up8
  show Except.ok _ = Except.ok _
  rw [show (s + p + 7) / 8 * 8 = s + (p + 7) / 8 * 8 by omega]
theorem shift_rd (W : List (List Int)) (B : List Int) (s : Nat) : ∀ (m : Nat) (got : List Int) (p : Nat), rdW W B m got (s + p) = ((rdW W (B.drop s) m got p).1, (rdW W (B.drop s) m got p).2.1, s + (rdW W (B.drop s) m got p).2.2)
  | 0, _, _ => rfl
  | m + 1, got, p => by
    rw [rdW, rdW, List.getElem?_drop]
    cases hx : B[s + p]? with
    | none => rfl
    | some x =>
      cases hf : findW W (got ++ [x]) with
      | some i =>
        simp only [hf]
        rw [Nat.add_assoc]
      | none =>
        simp only [hf]
        rw [Nat.add_assoc]
        exact shift_rd W B s m (got ++ [x]) (p + 1)
theorem shift_sy (l : List Int) : Shift (sy l) := fun B s p _ _ _ => by
  have h := shift_rd (wordsL l) B s (mostW (wordsL l)) [] p
  have h2 : rdC l B (s + p) = ((rdC l (B.drop s) p).1, (rdC l (B.drop s) p).2.1, s + (rdC l (B.drop s) p).2.2) := h
  unfold sy
  rw [h2]
  by_cases he : (rdC l (B.drop s) p).2.1 = 0
  · rw [if_pos he, if_pos he]
    rfl
  · rw [if_neg he, if_neg he]
    rfl
theorem shift_loop {σ β : Type} {step : σ → RdM (σ ⊕ β)} (h : ∀ s, Shift (step s)) (hg : ∀ s, ft.Good (step s)) (s0 : σ) : Shift (loopM step s0) := fun B s p hs h8 hp => by
  have hl : (B.drop s).length = B.length - s := List.length_drop
  have hF : ∀ (f : Nat) (s1 : σ) (p : Nat), s + p ≤ B.length → loopF step f s1 B (s + p) = shf s (loopF step f s1 (B.drop s) p) := by
    intro f
    induction f with
    | zero => exact fun _ _ _ => rfl
    | succ f ih =>
      intro s1 p hp
      rw [loopF]
      have h1 := h s1 B s p hs h8 hp
      cases hst : step s1 (B.drop s) p with
      | error e =>
        rw [hst] at h1
        rw [bnd_err h1, bnd_err hst]
        rfl
      | ok v =>
        obtain ⟨r, q⟩ := v
        rw [hst] at h1
        have hq := ((hg s1).ok (by omega) (by omega) hst).2
        rw [bnd_of h1, bnd_of hst]
        cases r with
        | inl s' => exact ih s' q (by omega)
        | inr b => rfl
  unfold loopM
  rw [show B.length + 1 - (s + p) = (B.drop s).length + 1 - p by omega]
  exact hF _ s0 p hp
theorem shift_plain (most : Nat) (out : By) : Shift (plainM most out) :=
  shift_bnd shift_al good_al fun _ => shift_bnd (shift_tk 16) (good_tk 16) fun _ => shift_bnd (shift_tk 16) (good_tk 16) fun _ => shift_ite (shift_err _) (shift_ite (shift_err _) (shift_bnd (shift_by8 _) (good_by8 _) fun _ => shift_ret _))
theorem shift_copy (most : Nat) (ds : List Int) (out : By) (k : Nat) : Shift (copyM most ds out k) :=
  shift_ite (shift_err _) (shift_bnd (shift_tk _) (good_tk _) fun _ => shift_bnd (shift_sy _) (good_sy _) fun _ => shift_ite (shift_err _) (shift_bnd (shift_tk _) (good_tk _) fun _ => shift_ite (shift_err _) (shift_ite (shift_err _) (shift_ret _))))
theorem shift_syms (most : Nat) (ls ds : List Int) (out : By) : Shift (symsM most ls ds out) :=
  shift_loop (fun s => shift_bnd (shift_sy _) (good_sy _) fun _ => shift_ite (shift_ret _) (shift_ite (shift_bnd (shift_copy most ds s _) (good_copy _ _ _ _) fun _ => shift_ret _) (shift_ite (shift_err _) (shift_ret _)))) (good_symS most ls ds) out
theorem shift_lens (first : List Int) (n : Nat) : Shift (lensM first n) :=
  shift_loop (fun out => by
    refine shift_ite (shift_ret _) (shift_bnd (shift_sy _) (good_sy _) fun k => shift_ite (shift_ret _) (shift_ite ?_ (shift_ite ?_ ?_)))
    · cases out.getLast? with
      | none => exact shift_err _
      | some x => exact shift_bnd (shift_tk _) (good_tk _) fun _ => shift_ite (shift_err _) (shift_ret _)
    · exact shift_bnd (shift_tk _) (good_tk _) fun _ => shift_ite (shift_err _) (shift_ret _)
    · exact shift_bnd (shift_tk _) (good_tk _) fun _ => shift_ite (shift_err _) (shift_ret _)) (good_lenS first n) []
theorem shift_many {α : Type} {f : RdM α} (h : Shift f) (hg : ft.Good f) : ∀ n, Shift (manyM f n)
  | 0 => shift_ret _
  | n + 1 => shift_bnd h hg fun _ => shift_bnd (shift_many h hg n) (good_many hg n) fun _ => shift_ret _
theorem shift_told (most : Nat) (out : By) : Shift (toldM most out) :=
  shift_bnd (shift_tk _) (good_tk _) fun _ => shift_bnd (shift_tk _) (good_tk _) fun _ => shift_bnd (shift_tk _) (good_tk _) fun _ => shift_ite (shift_err _) (shift_bnd (shift_many (shift_tk 3) (good_tk 3) _) (good_many (good_tk 3) _) fun _ => shift_ite (shift_bnd (shift_lens _ _) (good_lens _ _) fun _ => shift_ite (shift_err _) (shift_ite (shift_syms _ _ _ _) (shift_err _))) (shift_err _))
theorem shift_infl (most : Nat) : Shift (inflM most) :=
  shift_loop (fun s => shift_bnd (shift_tk _) (good_tk _) fun _ => shift_bnd (shift_tk _) (good_tk _) fun k => shift_bnd (shift_ite (shift_plain _ _) (shift_ite (shift_syms _ _ _ _) (shift_ite (shift_told _ _) (shift_err _)))) (good_kind most k s) fun _ => shift_ret _) (good_blockS most) []
/-- A stream behind other bytes. -/
theorem infl_behind (most : Nat) (b : By) (at_ : Nat) (h : at_ ≤ b.length) : inflM most (bitsOf b) (8 * at_) = shf (8 * at_) (inflM most (bitsOf (b.drop at_)) 0) := by
  have h1 := shift_infl most (bitsOf b) (8 * at_) 0 (by omega) (bits8 b) (by rw [bitsOf_length]; omega)
  rw [Nat.add_zero, bitsOf_drop b at_ h] at h1
  exact h1

/-! ### the frame -/
def num : By → Nat
  | [] => 0
  | x :: r => x.toNat + 256 * num r
def numL (n : Nat) : Nat → By
  | 0 => []
  | k + 1 => UInt8.ofNat (n % 256) :: numL (n / 256) k
theorem numL_len : ∀ (k n : Nat), (numL n k).length = k
  | 0, _ => rfl
  | k + 1, n => by rw [numL, List.length_cons, numL_len k]
theorem num_numL : ∀ (k n : Nat), num (numL n k) = n % 256 ^ k
  | 0, n => by rw [Nat.pow_zero, Nat.mod_one]; rfl
  | k + 1, n => by
    rw [numL, num, num_numL k, UInt8.toNat_ofNat', show 256 ^ (k + 1) = 256 * 256 ^ k by rw [Nat.pow_succ, Nat.mul_comm], Nat.mod_mul]
    have : n % 256 % 2 ^ 8 = n % 256 := by omega
    rw [this]
/-- A byte; one that has to be; bytes up to and with a 0; what stands ahead. -/
def b1 : RdM UInt8 := bnd (by8 1) fun l => ret (l.headD 0)
def isM (x : UInt8) : RdM Unit := bnd b1 fun y => if y = x then ret () else err 120
def zeroM : RdM Unit := loopM (fun _ : Unit => bnd b1 fun y => if y = 0 then ret (.inr ()) else ret (.inl ())) ()
def herM : RdM By := fun B p => .ok (packI (B.take p), p)
theorem good_b1 : ft.Good b1 := good_bnd (good_by8 1) fun _ => good_ret _
theorem good_is (x : UInt8) : ft.Good (isM x) := good_bnd good_b1 fun _ => good_ite (good_ret _) (good_err _)
theorem b1_on {B : List Int} {p q : Nat} {a : UInt8} (h : b1 B p = .ok (a, q)) : q = p + 8 := by
  obtain ⟨l, q1, h1, h2⟩ := bnd_ok h
  have := (by8_on h1).1
  cases h2
  omega
theorem good_zero : ft.Good zeroM := good_loop (fun _ => good_bnd good_b1 fun _ => good_ite (good_ret _) (good_ret _)) (fun _ _ _ _ _ h8 hp h => prog_bnd h8 hp good_b1 (fun _ _ h => by have := b1_on h; omega) (fun _ => good_ite (good_ret _) (good_ret _)) h) ()
theorem good_her : ft.Good herM where
  ok := fun _ hp h => by cases h; exact ⟨Nat.le_refl _, hp⟩
  same := fun {B B' p q a} _ _ h _ _ hA => by
    unfold herM at *
    cases h
    have e : B'.take p = B.take p := by
      have := agr_part (p := 0) (n := p) (by rw [Nat.zero_add]; exact hA)
      simpa using this
    rw [e]
  cut := fun _ _ h _ h1 h2 => by cases h; omega
/-- The header, with any checksum of bytes. -/
def headM (sum : By → Nat) : RdM Unit :=
  bnd (isM 0x1f) fun _ => bnd (isM 0x8b) fun _ => bnd (isM 8) fun _ => bnd b1 fun fl =>
    if 32 ≤ fl.toNat then err 120 else bnd (by8 6) fun _ =>
      bnd (if fl.toNat / 4 % 2 = 1 then bnd (by8 2) fun n => bnd (by8 (num n)) fun _ => ret () else ret ()) fun _ =>
      bnd (if fl.toNat / 8 % 2 = 1 then zeroM else ret ()) fun _ =>
      bnd (if fl.toNat / 16 % 2 = 1 then zeroM else ret ()) fun _ =>
      if fl.toNat / 2 % 2 = 1 then bnd herM fun a => bnd (by8 2) fun n => if num n = sum a % 65536 then ret () else err 121 else ret ()
/-- A stream, and up to a byte's beginning. -/
def streamM (most : Nat) : RdM By := bnd (inflM most) fun o => bnd al fun _ => ret o
/-- The frame up to its last number. -/
def bodyM (sum : By → Nat) (most : Nat) : RdM By :=
  bnd (headM sum) fun _ => bnd (streamM most) fun o => bnd (by8 4) fun s =>
    if num s = sum o then bnd (by8 4) fun n => if num n = o.length then ret o else err 121 else err 121
theorem good_head (sum : By → Nat) : ft.Good (headM sum) :=
  good_bnd (good_is _) fun _ => good_bnd (good_is _) fun _ => good_bnd (good_is _) fun _ => good_bnd good_b1 fun _ => good_ite (good_err _) (good_bnd (good_by8 _) fun _ => good_bnd (good_ite (good_bnd (good_by8 _) fun _ => good_bnd (good_by8 _) fun _ => good_ret _) (good_ret _)) fun _ => good_bnd (good_ite good_zero (good_ret _)) fun _ => good_bnd (good_ite good_zero (good_ret _)) fun _ => good_ite (good_bnd good_her fun _ => good_bnd (good_by8 _) fun _ => good_ite (good_ret _) (good_err _)) (good_ret _))
theorem good_stream (most : Nat) : ft.Good (streamM most) := good_bnd (good_infl most) fun _ => good_bnd good_al fun _ => good_ret _
theorem good_body (sum : By → Nat) (most : Nat) : ft.Good (bodyM sum most) :=
  good_bnd (good_head sum) fun _ => good_bnd (good_stream most) fun _ => good_bnd (good_by8 _) fun _ => good_ite (good_bnd (good_by8 _) fun _ => good_ite (good_ret _) (good_err _)) (good_err _)
def headV (sum : By → Nat) (b : By) : Nat × Int := match headM sum (bitsOf b) 0 with
  | .error e => (0, e)
  | .ok (_, q) => (q / 8, 0)
def openV (sum : By → Nat) (b : By) (most : Int) : By × Int :=
  if most < 0 ∨ 262144 < most then ([], 2) else match bodyM sum most.toNat (bitsOf b) 0 with
    | .error e => ([], e)
    | .ok (o, q) => if 8 * b.length = q then (o, 0) else ([], 120)
end Go.Proofs.YtcdhakfmljjaoaaGreatDoor.gz

/-
  Frames that were made (mathematics): opened as they were, found when turned, short, with more behind.
-/
namespace Go.Proofs.YtcdhakfmljjaoaaGreatDoor.gz
set_option maxRecDepth 100000
open Go.Proofs.YtcdhakfmljjaoaaGreatDoor.fl Go.Proofs.YtcdhakfmljjaoaaGreatDoor.cd Go.Proofs.YtcdhakfmljjaoaaGreatDoor.ft

/-- Behind Z the reading takes the bytes c, whatever stands behind these, and tells a. -/
def Eat {α : Type} (f : RdM α) (Z c : By) (a : α) : Prop := ∀ R : By, f (bitsOf (Z ++ (c ++ R))) (8 * Z.length) = .ok (a, 8 * (Z ++ c).length)
theorem eat_bnd {α β : Type} {f : RdM α} {g : α → RdM β} {Z c d : By} {a : α} {b : β} (h1 : Eat f Z c a) (h2 : Eat (g a) (Z ++ c) d b) : Eat (bnd f g) Z (c ++ d) b := fun R => by
  have k1 := h1 (d ++ R)
  have k2 := h2 R
  rw [List.append_assoc] at k2
  rw [List.append_assoc, bnd_of k1, k2, List.append_assoc]
theorem eat_bnd0 {α β : Type} {f : RdM α} {g : α → RdM β} {Z d : By} {a : α} {b : β} (h1 : Eat f Z [] a) (h2 : Eat (g a) Z d b) : Eat (bnd f g) Z d b := by
  have := eat_bnd (c := []) h1 (by rw [List.append_nil]; exact h2)
  rwa [List.nil_append] at this
theorem eat_ret {α : Type} (Z : By) (a : α) : Eat (ret a) Z [] a := fun R => by rw [List.append_nil]; rfl
theorem eat_by8 (Z c : By) {n : Nat} (hn : n = c.length) : Eat (by8 n) Z c c := fun R => by rw [hn, by8_mid, List.length_append]
theorem eat_b1 (Z : By) (x : UInt8) : Eat b1 Z [x] x := by
  have := eat_bnd (g := fun l : By => ret (l.headD 0)) (eat_by8 Z [x] (n := 1) rfl) (eat_ret (Z ++ [x]) x)
  exact this
theorem eat_is (Z : By) (x : UInt8) : Eat (isM x) Z [x] () := by
  have := eat_bnd (g := fun y : UInt8 => if y = x then ret () else err 120) (eat_b1 Z x) (d := []) (b := ()) (by rw [if_pos rfl]; exact eat_ret _ _)
  exact this
theorem eat_her (Z : By) : Eat herM Z [] Z := fun R => by
  unfold herM
  have h : (bitsOf (Z ++ ([] ++ R))).take (8 * Z.length) = bitsOf Z := by
    rw [List.nil_append, bitsOf_append, ← bitsOf_length Z, List.take_left]
  rw [h, pack_bits, List.append_nil]
theorem prog_zero : Prog (fun _ : Unit => bnd b1 fun y => if y = 0 then ret (.inr ()) else ret (.inl () : Unit ⊕ Unit)) := fun _ _ _ _ _ h8 hp h => prog_bnd h8 hp good_b1 (fun _ _ h => by have := b1_on h; omega) (fun _ => good_ite (good_ret _) (good_ret _)) h
theorem eat_zero : ∀ (t Z : By), (∀ x ∈ t, x ≠ 0) → Eat zeroM Z (t ++ [0]) ()
  | [], Z, _ => fun R => by
    unfold zeroM
    rw [loopM_eq (fun _ => good_bnd good_b1 fun _ => good_ite (good_ret _) (good_ret _)) prog_zero _ _ _ (bits8 _) (by rw [bitsOf_length, List.length_append]; omega)]
    have h := eat_b1 Z 0 R
    rw [List.nil_append, bnd_of h, if_pos rfl]
    rfl
  | x :: t, Z, ht => fun R => by
    have hx := ht x (by simp)
    have ih := eat_zero t (Z ++ [x]) (fun y hy => ht y (by simp [hy])) R
    unfold zeroM at ih ⊢
    rw [loopM_eq (fun _ => good_bnd good_b1 fun _ => good_ite (good_ret _) (good_ret _)) prog_zero _ _ _ (bits8 _) (by rw [bitsOf_length, List.length_append]; omega)]
    have h := eat_b1 Z x (t ++ [0] ++ R)
    have e : Z ++ ((x :: t) ++ [0] ++ R) = Z ++ ([x] ++ (t ++ [0] ++ R)) := rfl
    rw [List.append_assoc] at ih
    rw [e, bnd_of h, if_neg hx]
    show loopM _ () _ _ = _
    rw [show Z ++ ([x] ++ (t ++ [0] ++ R)) = Z ++ ([x] ++ (t ++ [0] ++ R)) from rfl, ih, List.append_assoc]
    rfl
theorem eat_stream {most : Nat} {z b : By} (h : Undo z b) (hm : b.length ≤ most) (Z : By) : Eat (streamM most) Z z b := fun R => by
  obtain ⟨q, h1, h2⟩ := h most hm
  have h3 := infl_more h1 R
  rw [h2, List.take_length] at h3
  have h4 := infl_behind most (Z ++ (z ++ R)) Z.length (by rw [List.length_append]; omega)
  rw [List.drop_left, h3] at h4
  unfold streamM
  rw [bnd_of (show inflM most (bitsOf (Z ++ (z ++ R))) (8 * Z.length) = .ok (b, 8 * Z.length + q) from h4)]
  have ha : al (bitsOf (Z ++ (z ++ R))) (8 * Z.length + q) = .ok ((), 8 * (Z ++ z).length) := by
    unfold al up8
    rw [List.length_append, ← h2, show (8 * Z.length + q + 7) / 8 * 8 = 8 * (Z.length + (q + 7) / 8) by omega]
  rw [bnd_of ha]
  rfl

/-! ### frames that are made -/
def hasN (l : By) (n : Nat) : Nat := if l = [] then 0 else n
def flagN (name note extra : By) (hc : Bool) : Nat := hasN extra 4 + hasN name 8 + hasN note 16 + if hc then 2 else 0
def exB (extra : By) : By := if extra = [] then [] else numL extra.length 2 ++ extra
def txB (t : By) : By := if t = [] then [] else t ++ [0]
def hdA (name note extra : By) (hc : Bool) : By := [0x1f] ++ ([0x8b] ++ ([8] ++ ([UInt8.ofNat (flagN name note extra hc)] ++ ([0, 0, 0, 0, 0, 0] ++ (exB extra ++ (txB name ++ txB note))))))
def hdS (sum : By → Nat) (name note extra : By) (hc : Bool) : By := if hc then numL (sum (hdA name note extra hc) % 65536) 2 else []
def hdB (sum : By → Nat) (name note extra : By) (hc : Bool) : By := hdA name note extra hc ++ hdS sum name note extra hc
def dressB (sum : By → Nat) (ls : Nat → Nat) (b name note extra : By) (hc : Bool) : By := hdB sum name note extra hc ++ (runsV ls b ++ (numL (sum b) 4 ++ numL b.length 4))
def mayD (name note extra : By) : Bool := !name.contains 0 && !note.contains 0 && decide (extra.length ≤ 65535)
def dressV (sum : By → Nat) (ls : Nat → Nat) (b name note extra : By) (hc : Bool) : By × Int := if mayD name note extra = true then (dressB sum ls b name note extra hc, 0) else ([], 2)
def wrapV (sum : By → Nat) (ls : Nat → Nat) (b : By) : By := dressB sum ls b [] [] [] false
theorem mayD_iff (name note extra : By) : mayD name note extra = true ↔ (∀ x ∈ name, x ≠ 0) ∧ (∀ x ∈ note, x ≠ 0) ∧ extra.length ≤ 65535 := by
  unfold mayD
  rw [Bool.and_eq_true, Bool.and_eq_true, Bool.not_eq_true', Bool.not_eq_true', decide_eq_true_iff]
  have h : ∀ l : By, l.contains 0 = false ↔ ∀ x ∈ l, x ≠ 0 := fun l => by
    rw [← Bool.not_eq_true, List.contains_iff_mem]
    exact ⟨fun h x hx e => h (e ▸ hx), fun h hm => h 0 hm rfl⟩
  rw [h, h, and_assoc]
theorem flag_bits (name note extra : By) (hc : Bool) : flagN name note extra hc < 32 ∧ (flagN name note extra hc / 4 % 2 = 1 ↔ extra ≠ []) ∧ (flagN name note extra hc / 8 % 2 = 1 ↔ name ≠ []) ∧ (flagN name note extra hc / 16 % 2 = 1 ↔ note ≠ []) ∧ (flagN name note extra hc / 2 % 2 = 1 ↔ hc = true) := by
  unfold flagN hasN
  by_cases h1 : extra = [] <;> by_cases h2 : name = [] <;> by_cases h3 : note = [] <;> cases hc <;> simp [h1, h2, h3]
section
variable {sum : By → Nat} {name note extra : By} {hc : Bool}
theorem eat_head (hm : mayD name note extra = true) : Eat (headM sum) [] (hdB sum name note extra hc) () := by
  obtain ⟨m1, m2, m3⟩ := (mayD_iff _ _ _).1 hm
  obtain ⟨f0, f1, f2, f3, f4⟩ := flag_bits name note extra hc
  obtain ⟨fl, hfl⟩ : ∃ fl, fl = UInt8.ofNat (flagN name note extra hc) := ⟨_, rfl⟩
  have hfn : fl.toNat = flagN name note extra hc := by rw [hfl, UInt8.toNat_ofNat']; omega
  rw [← hfn] at f0 f1 f2 f3 f4
  have hA : hdA name note extra hc = [0x1f] ++ ([0x8b] ++ ([8] ++ ([fl] ++ ([0, 0, 0, 0, 0, 0] ++ (exB extra ++ (txB name ++ txB note)))))) := by unfold hdA; rw [hfl]
  have ht : ∀ (t Z : By) (n : Nat), (∀ x ∈ t, x ≠ 0) → (fl.toNat / n % 2 = 1 ↔ t ≠ []) → Eat (if fl.toNat / n % 2 = 1 then zeroM else ret ()) Z (txB t) () := fun t Z n h0 hn => by
    unfold txB
    by_cases h : t = []
    · rw [if_pos h, if_neg (fun e => (hn.1 e) h)]
      exact eat_ret _ _
    · rw [if_neg h, if_pos (hn.2 h)]
      exact eat_zero t Z h0
  have hx : ∀ Z : By, Eat (if fl.toNat / 4 % 2 = 1 then bnd (by8 2) fun n => bnd (by8 (num n)) fun _ => ret () else ret ()) Z (exB extra) () := fun Z => by
    unfold exB
    by_cases h : extra = []
    · rw [if_pos h, if_neg (fun e => (f1.1 e) h)]
      exact eat_ret _ _
    · rw [if_neg h, if_pos (f1.2 h)]
      refine eat_bnd (eat_by8 Z _ (numL_len 2 _).symm) ?_
      have e : num (numL extra.length 2) = extra.length := by rw [num_numL]; omega
      rw [e]
      have := eat_bnd (g := fun _ : By => ret ()) (eat_by8 (Z ++ numL extra.length 2) extra rfl) (eat_ret _ ())
      rwa [List.append_nil] at this
  unfold hdB
  rw [hA]
  simp only [List.append_assoc]
  unfold headM
  refine eat_bnd (eat_is _ _) (eat_bnd (eat_is _ _) (eat_bnd (eat_is _ _) (eat_bnd (eat_b1 _ _) ?_)))
  rw [if_neg (by omega)]
  refine eat_bnd (eat_by8 _ _ rfl) (eat_bnd (hx _) (eat_bnd (ht name _ 8 m1 f2) (eat_bnd (ht note _ 16 m2 f3) ?_)))
  unfold hdS
  cases hc with
  | false =>
    rw [if_neg (fun e => by have := f4.1 e; cases this)]
    exact eat_ret _ _
  | true =>
    rw [if_pos (f4.2 rfl)]
    refine eat_bnd0 (eat_her _) ?_
    have e2 : [] ++ [0x1f] ++ [0x8b] ++ [8] ++ [fl] ++ [0, 0, 0, 0, 0, 0] ++ exB extra ++ txB name ++ txB note = hdA name note extra true := by rw [hA]; simp
    rw [e2, if_pos rfl]
    have h := eat_bnd (g := fun n : By => if num n = sum (hdA name note extra true) % 65536 then ret () else err 121) (eat_by8 (hdA name note extra true) (numL (sum (hdA name note extra true) % 65536) 2) (n := 2) (numL_len 2 _).symm) (d := []) (b := ()) (by
      rw [num_numL, if_pos (by omega)]
      exact eat_ret _ _)
    rwa [List.append_nil] at h
theorem eat_body {ls : Nat → Nat} (hl : LenSym ls) (hs : ∀ b, sum b < 4294967296) (hm : mayD name note extra = true) {b : By} {most : Nat} (hb : b.length ≤ most) (h32 : b.length < 4294967296) : Eat (bodyM sum most) [] (dressB sum ls b name note extra hc) b := by
  unfold dressB bodyM
  refine eat_bnd (eat_head hm) (eat_bnd (eat_stream (undo_runs hl b) hb _) (eat_bnd (eat_by8 _ _ (numL_len 4 _).symm) ?_))
  have hsb := hs b
  rw [num_numL, if_pos (by omega)]
  have h := eat_bnd (g := fun n : By => if num n = b.length then ret b else err 121) (eat_by8 ([] ++ hdB sum name note extra hc ++ runsV ls b ++ numL (sum b) 4) (numL b.length 4) (n := 4) (numL_len 4 _).symm) (d := []) (b := b) (by
    rw [num_numL, if_pos (by omega)]
    exact eat_ret _ _)
  rwa [List.append_nil] at h
theorem hd_len (sum : By → Nat) (name note extra : By) (hc : Bool) : 10 ≤ (hdB sum name note extra hc).length := by
  unfold hdB hdA
  simp
theorem dress_head {ls : Nat → Nat} {b : By} (hm : mayD name note extra = true) : headV sum (dressB sum ls b name note extra hc) = ((hdB sum name note extra hc).length, 0) ∧ (hdB sum name note extra hc).length < (dressB sum ls b name note extra hc).length := by
  have h := eat_head (sum := sum) (hc := hc) hm (runsV ls b ++ (numL (sum b) 4 ++ numL b.length 4))
  rw [List.nil_append, List.nil_append] at h
  refine ⟨?_, ?_⟩
  · unfold headV dressB
    rw [show (0 : Nat) = 8 * ([] : By).length from rfl, h]
    simp
  · unfold dressB
    rw [List.length_append, List.length_append, List.length_append, numL_len, numL_len]
    omega
section
variable {ls : Nat → Nat} (hl : LenSym ls) (hs : ∀ b, sum b < 4294967296) (hm : mayD name note extra = true) {b : By} {most : Nat} (hb : b.length ≤ most) (hmx : most ≤ 262144)
include hl hs hm hb hmx
theorem dress_back : openV sum (dressB sum ls b name note extra hc) most = (b, 0) := by
  have h := eat_body (hc := hc) hl hs hm hb (by omega) []
  rw [List.nil_append, List.append_nil] at h
  unfold openV
  rw [if_neg (by omega), Int.toNat_natCast, show (0 : Nat) = 8 * ([] : By).length from rfl, h]
  simp
theorem dress_more (x : UInt8) : openV sum (dressB sum ls b name note extra hc ++ [x]) most = ([], 120) := by
  have h := eat_body (hc := hc) hl hs hm hb (by omega) [x]
  rw [List.nil_append] at h
  unfold openV
  rw [if_neg (by omega), Int.toNat_natCast, show (0 : Nat) = 8 * ([] : By).length from rfl, h]
  simp
  omega
theorem dress_short {k : Nat} (hk : k < (dressB sum ls b name note extra hc).length) : openV sum ((dressB sum ls b name note extra hc).take k) most = ([], 7) := by
  have h := eat_body (hc := hc) hl hs hm hb (by omega) []
  rw [List.nil_append, List.append_nil] at h
  have hc := (good_body sum most).cut (bits8 _) (Nat.zero_le _) h (k := 8 * k) (by omega) (Nat.zero_le _) (by rw [List.nil_append]; omega)
  rw [bitsOf_take _ k (by omega)] at hc
  unfold openV
  rw [if_neg (by omega), Int.toNat_natCast, hc]
end
end
/-- A byte that is turned behind others. -/
theorem set_app (v : UInt8) (C : By) (j : Nat) : ∀ A : By, (A ++ C).set (A.length + j) v = A ++ C.set j v
  | [] => by rw [List.nil_append, List.nil_append, List.length_nil, Nat.zero_add]
  | a :: A => by
    rw [List.cons_append, List.length_cons, show A.length + 1 + j = (A.length + j) + 1 by omega, List.set_cons_succ, set_app v C j A, List.cons_append]
theorem num_inj : ∀ {a b : By}, a.length = b.length → num a = num b → a = b
  | [], [], _, _ => rfl
  | x :: a, y :: b, hl, h => by
    rw [num, num] at h
    have hx := x.toNat_lt
    have hy := y.toNat_lt
    rw [num_inj (a := a) (b := b) (by simpa using hl) (by omega)]
    congr 1
    exact UInt8.toNat_inj.1 (by omega)
theorem set_ne {C : By} {j : Nat} {x : UInt8} (hj : j < C.length) (hx : x ≠ 0) : num (C.set j (C[j] ^^^ x)) ≠ num C := fun h => by
  have e := num_inj (by rw [List.length_set]) h
  have e2 := congrArg (fun l : By => l[j]?) e
  simp only [List.getElem?_set_self hj, List.getElem?_eq_getElem hj, Option.some.injEq] at e2
  apply hx
  have h3 : C[j] ^^^ (C[j] ^^^ x) = C[j] ^^^ C[j] := by rw [e2]
  rw [← UInt8.xor_assoc, UInt8.xor_self, UInt8.zero_xor] at h3
  exact h3
theorem wrap_found {sum : By → Nat} {ls : Nat → Nat} (hl : LenSym ls) (hs : ∀ b, sum b < 4294967296) {b : By} {most : Nat} (hb : b.length ≤ most) (hmx : most ≤ 262144) {j : Nat} (hj : j < 8) {x : UInt8} (hx : x ≠ 0) (hk : (wrapV sum ls b).length - 8 + j < (wrapV sum ls b).length) :
    openV sum ((wrapV sum ls b).set ((wrapV sum ls b).length - 8 + j) ((wrapV sum ls b)[(wrapV sum ls b).length - 8 + j] ^^^ x)) most = ([], 121) := by
  obtain ⟨A, hA⟩ : ∃ A, A = hdB sum [] [] [] false ++ runsV ls b := ⟨_, rfl⟩
  obtain ⟨C, hC⟩ : ∃ C, C = numL (sum b) 4 := ⟨_, rfl⟩
  obtain ⟨L, hL⟩ : ∃ L, L = numL b.length 4 := ⟨_, rfl⟩
  have lC : C.length = 4 := by rw [hC, numL_len]
  have lL : L.length = 4 := by rw [hL, numL_len]
  have hW : wrapV sum ls b = A ++ (C ++ L) := by
    unfold wrapV dressB
    rw [hA, hC, hL, List.append_assoc]
  have hlen : (wrapV sum ls b).length - 8 = A.length := by rw [hW, List.length_append, List.length_append, lC, lL]; omega
  have hAB : Eat (bnd (headM sum) fun _ => streamM most) [] A b := by
    rw [hA]
    exact eat_bnd (eat_head (by decide)) (eat_stream (undo_runs hl b) hb _)
  have hget : (wrapV sum ls b)[(wrapV sum ls b).length - 8 + j]? = (C ++ L)[j]? := by
    rw [hlen, hW, List.getElem?_append_right (Nat.le_add_right _ _), Nat.add_sub_cancel_left]
  have hsum := hs b
  have hnC : num C = sum b := by rw [hC, num_numL]; omega
  have hnL : num L = b.length := by rw [hL, num_numL]; omega
  have main : ∀ C' L' : By, C'.length = 4 → L'.length = 4 → (num C' ≠ sum b ∨ (num C' = sum b ∧ num L' ≠ b.length)) → openV sum (A ++ (C' ++ L')) most = ([], 121) := fun C' L' k1 k2 k3 => by
    have h1 := hAB (C' ++ L')
    rw [List.nil_append, List.nil_append] at h1
    have h2 := eat_by8 A C' k1.symm L'
    have h3 := eat_by8 (A ++ C') L' k2.symm []
    rw [List.append_nil, List.append_assoc] at h3
    have hb1 : bodyM sum most (bitsOf (A ++ (C' ++ L'))) (8 * ([] : By).length) = .error 121 := by
      have hassoc : bodyM sum most = bnd (bnd (headM sum) fun _ => streamM most) fun o => bnd (by8 4) fun s => if num s = sum o then bnd (by8 4) fun n => if num n = o.length then ret o else err 121 else err 121 := by
        unfold bodyM bnd
        funext B p
        cases headM sum B p with
        | error e => rfl
        | ok v => rfl
      rw [hassoc, bnd_of h1, bnd_of h2]
      rcases k3 with k3 | ⟨k3, k4⟩
      · rw [if_neg k3]
        rfl
      · rw [if_pos k3, bnd_of h3, if_neg k4]
        rfl
    unfold openV
    rw [if_neg (by omega), Int.toNat_natCast, show (0 : Nat) = 8 * ([] : By).length from rfl, hb1]
  have hval := List.getElem?_eq_getElem hk
  rw [hget] at hval
  rcases Nat.lt_or_ge j 4 with h4 | h4
  · rw [List.getElem?_append_left (by omega), List.getElem?_eq_getElem (by omega)] at hval
    have hv := Option.some.inj hval
    rw [← hv, hlen]
    conv => lhs; arg 2; arg 1; rw [hW]
    rw [set_app, List.set_append_left _ _ (by omega)]
    exact main _ _ (by rw [List.length_set]; exact lC) lL (Or.inl (by rw [← hnC]; exact set_ne (by omega) hx))
  · rw [List.getElem?_append_right (by omega), lC, List.getElem?_eq_getElem (by omega)] at hval
    have hv := Option.some.inj hval
    rw [← hv, hlen]
    conv => lhs; arg 2; arg 1; rw [hW]
    have e : (C ++ L).set j (L[j - 4] ^^^ x) = C ++ L.set (j - 4) (L[j - 4] ^^^ x) := by
      have h := set_app (L[j - 4] ^^^ x) L (j - 4) C
      rw [lC, show 4 + (j - 4) = j by omega] at h
      exact h
    rw [set_app, e]
    exact main _ _ lC (by rw [List.length_set]; exact lL) (Or.inr ⟨hnC, by rw [← hnL]; exact set_ne (by omega) hx⟩)
end Go.Proofs.YtcdhakfmljjaoaaGreatDoor.gz

/-
  What is opened has the checksum and the length that stand at the frame's end (mathematics).
-/
namespace Go.Proofs.YtcdhakfmljjaoaaGreatDoor.gz
set_option maxRecDepth 100000
open Go.Proofs.YtcdhakfmljjaoaaGreatDoor.fl Go.Proofs.YtcdhakfmljjaoaaGreatDoor.cd Go.Proofs.YtcdhakfmljjaoaaGreatDoor.ft

theorem nz_120 {α : Type} : NZ (err 120 : RdM α) := nz_err (by decide)
theorem nz_121 {α : Type} : NZ (err 121 : RdM α) := nz_err (by decide)
theorem nz_b1 : NZ b1 := nz_bnd (nz_by8 1) fun _ => nz_ret _
theorem nz_is (x : UInt8) : NZ (isM x) := nz_bnd nz_b1 fun _ => nz_ite (nz_ret _) nz_120
theorem nz_zero : NZ zeroM := nz_loop (fun _ => nz_bnd nz_b1 fun _ => nz_ite (nz_ret _) (nz_ret _)) ()
theorem nz_her : NZ herM := fun _ _ _ h => by cases h
theorem nz_head (sum : By → Nat) : NZ (headM sum) :=
  nz_bnd (nz_is _) fun _ => nz_bnd (nz_is _) fun _ => nz_bnd (nz_is _) fun _ => nz_bnd nz_b1 fun _ => nz_ite nz_120 (nz_bnd (nz_by8 _) fun _ => nz_bnd (nz_ite (nz_bnd (nz_by8 _) fun _ => nz_bnd (nz_by8 _) fun _ => nz_ret _) (nz_ret _)) fun _ => nz_bnd (nz_ite nz_zero (nz_ret _)) fun _ => nz_bnd (nz_ite nz_zero (nz_ret _)) fun _ => nz_ite (nz_bnd nz_her fun _ => nz_bnd (nz_by8 _) fun _ => nz_ite (nz_ret _) nz_121) (nz_ret _))
theorem nz_body (sum : By → Nat) (most : Nat) : NZ (bodyM sum most) :=
  nz_bnd (nz_head sum) fun _ => nz_bnd (nz_bnd (nz_infl most) fun _ => nz_bnd (fun _ _ _ h => by cases h) fun _ => nz_ret _) fun _ => nz_bnd (nz_by8 _) fun _ => nz_ite (nz_bnd (nz_by8 _) fun _ => nz_ite (nz_ret _) nz_121) nz_121
theorem is_on {x : UInt8} {B : List Int} {p q : Nat} {a : Unit} (h : isM x B p = .ok (a, q)) : q = p + 8 := by
  obtain ⟨y, q1, h1, h2⟩ := bnd_ok h
  have := b1_on h1
  by_cases e : y = x
  · rw [if_pos e] at h2
    cases h2
    exact this
  · rw [if_neg e] at h2
    cases h2
theorem head_on {sum : By → Nat} {b : By} {q : Nat} (h : headM sum (bitsOf b) 0 = .ok ((), q)) : 80 ≤ q ∧ q ≤ 8 * b.length := by
  have hq := ((good_head sum).ok (bits8 b) (Nat.zero_le _) h).2
  rw [bitsOf_length] at hq
  refine ⟨?_, hq⟩
  obtain ⟨_, q1, h1, h⟩ := bnd_ok h
  obtain ⟨_, q2, h2, h⟩ := bnd_ok h
  obtain ⟨_, q3, h3, h⟩ := bnd_ok h
  obtain ⟨fl, q4, h4, h⟩ := bnd_ok h
  have k1 := is_on h1
  have k2 := is_on h2
  have k3 := is_on h3
  have k4 := b1_on h4
  by_cases hf : 32 ≤ fl.toNat
  · rw [if_pos hf] at h
    cases h
  · rw [if_neg hf] at h
    obtain ⟨l, q5, h5, h⟩ := bnd_ok h
    obtain ⟨k5, k6, _⟩ := by8_on h5
    have hr := ((good_bnd (good_ite (c := fl.toNat / 4 % 2 = 1) (good_bnd (good_by8 2) fun n => good_bnd (good_by8 (num n)) fun _ => good_ret ()) (good_ret ())) fun _ => good_bnd (good_ite (c := fl.toNat / 8 % 2 = 1) good_zero (good_ret ())) fun _ => good_bnd (good_ite (c := fl.toNat / 16 % 2 = 1) good_zero (good_ret ())) fun _ => good_ite (c := fl.toNat / 2 % 2 = 1) (good_bnd good_her fun a => good_bnd (good_by8 2) fun n => good_ite (c := num n = sum a % 65536) (good_ret ()) (good_err 121)) (good_ret ())).ok (bits8 b) (by omega) h).1
    omega
/-- What is opened; or there is an error and nothing. -/
theorem open_ok {sum : By → Nat} {b : By} {most : Nat} (hm : most ≤ 262144) (h : (openV sum b most).2 = 0) : 18 ≤ b.length ∧ num ((b.drop (b.length - 8)).take 4) = sum (openV sum b most).1 ∧ num ((b.drop (b.length - 4)).take 4) = (openV sum b most).1.length ∧ (openV sum b most).1.length ≤ most := by
  unfold openV at h ⊢
  rw [if_neg (by omega), Int.toNat_natCast] at h ⊢
  cases hb : bodyM sum most (bitsOf b) 0 with
  | error e =>
    rw [hb] at h
    exact absurd h (nz_body sum most _ _ _ hb)
  | ok v =>
    obtain ⟨o, q⟩ := v
    simp only [hb] at h ⊢
    by_cases hq : 8 * b.length = q
    · rw [if_pos hq]
      obtain ⟨_, q1, h1, h2⟩ := bnd_ok hb
      obtain ⟨o2, q2, h3, h4⟩ := bnd_ok h2
      obtain ⟨s, q3, h5, h6⟩ := bnd_ok h4
      have k1 := (head_on h1).1
      have k2 := (good_stream most).ok (bits8 b) (by rw [bitsOf_length]; exact (head_on h1).2) h3
      obtain ⟨k3, k4, k5⟩ := by8_on h5
      have hle : o2.length ≤ most := by
        obtain ⟨o3, q5, j1, j2⟩ := bnd_ok h3
        obtain ⟨_, q6, j3, j4⟩ := bnd_ok j2
        cases j4
        exact infl_le j1
      by_cases c1 : num s = sum o2
      · rw [if_pos c1] at h6
        obtain ⟨n, q4, h7, h8⟩ := bnd_ok h6
        obtain ⟨k6, k7, k8⟩ := by8_on h7
        by_cases c2 : num n = o2.length
        · rw [if_pos c2] at h8
          cases h8
          have e2 : q2 = 8 * (b.length - 8) := by omega
          have e3 : q3 = 8 * (b.length - 4) := by omega
          rw [e2, pack_part b (b.length - 8) 4 (by omega)] at k5
          rw [e3, pack_part b (b.length - 4) 4 (by omega)] at k8
          exact ⟨by omega, by rw [← k5]; exact c1, by rw [← k8]; exact c2, hle⟩
        · rw [if_neg c2] at h8
          cases h8
      · rw [if_neg c1] at h6
        cases h6
    · rw [if_neg hq] at h
      cases h
theorem open_no {sum : By → Nat} {b : By} {most : Int} (h : (openV sum b most).2 ≠ 0) : (openV sum b most).1 = [] := by
  unfold openV at *
  by_cases hm : most < 0 ∨ 262144 < most
  · rw [if_pos hm]
  · rw [if_neg hm] at h ⊢
    cases hb : bodyM sum most.toNat (bitsOf b) 0 with
    | error e => rfl
    | ok v =>
      obtain ⟨o, q⟩ := v
      simp only [hb] at h ⊢
      by_cases hq : 8 * b.length = q
      · rw [if_pos hq] at h
        exact absurd rfl h
      · rw [if_neg hq]
/-- The bytes of a number. -/
theorem num_get : ∀ (l : By) (i : Nat) (y : UInt8), l[i]? = some y → y.toNat = num l / 256 ^ i % 256
  | [], _, _, h => by simp at h
  | x :: l, 0, y, h => by
    have e : x = y := by simpa using h
    have := x.toNat_lt
    rw [num, Nat.pow_zero, Nat.div_one, e]
    rw [e] at this
    omega
  | x :: l, i + 1, y, h => by
    have hx := x.toNat_lt
    rw [num_get l i y (by simpa using h), num, show 256 ^ (i + 1) = 256 * 256 ^ i by rw [Nat.pow_succ, Nat.mul_comm], ← Nat.div_div_eq_div_mul, show (x.toNat + 256 * num l) / 256 = num l by omega]
theorem num_lt : ∀ l : By, num l < 256 ^ l.length
  | [] => by simp [num]
  | x :: l => by
    have hx := x.toNat_lt
    have ih := num_lt l
    rw [num, List.length_cons, Nat.pow_succ]
    omega
end Go.Proofs.YtcdhakfmljjaoaaGreatDoor.gz
