/-
  The document's runs (mathematics): which symbol a length has; runs without fuel.
-/
import Derived.Test.YtcdhakfmljjaoaaGreatDoorJD
namespace Go.Proofs.YtcdhakfmljjaoaaGreatDoor.ft
set_option maxRecDepth 100000
open Go.Proofs.YtcdhakfmljjaoaaGreatDoor.fl Go.Proofs.YtcdhakfmljjaoaaGreatDoor.cd

/-- The symbol that the document takes for a length, from symbol k down. -/
def pkN (n : Nat) : Nat → Nat
  | 0 => 0
  | k + 1 => if spanB (k + 1) ≤ n ∧ (k + 1 = 28 ∨ n ≠ 258) then k + 1 else pkN n k
def rls (n : Nat) : Nat := pkN n 28
theorem rls_sym : LenSym rls := by
  have h : ∀ n, n < 259 → 3 ≤ n → rls n ≤ 28 ∧ spanB (rls n) ≤ n ∧ n - spanB (rls n) < 2 ^ spanX (rls n) := by decide +kernel
  exact fun n h1 h2 => h n (by omega) h1
theorem rls_258 : rls 258 = 28 := by decide +kernel
theorem pkN_take {n k : Nat} (h1 : spanB k ≤ n) (h2 : k = 28 ∨ n ≠ 258) : pkN n k = k := by
  cases k with
  | zero => rfl
  | succ k => rw [pkN, if_pos ⟨h1, h2⟩]
theorem pkN_less {n k : Nat} (h : ¬ (spanB (k + 1) ≤ n ∧ (k + 1 = 28 ∨ n ≠ 258))) : pkN n (k + 1) = pkN n k := by rw [pkN, if_neg h]
theorem runB_fuel (ls : Nat → Nat) (c : UInt8) : ∀ (f g left : Nat), left ≤ f → left ≤ g → runB ls c f left = runB ls c g left
  | 0, 0, _, _, _ => rfl
  | 0, g + 1, left, h, _ => by
    obtain rfl : left = 0 := by omega
    rw [runB, runB, if_neg (by omega)]
  | f + 1, 0, left, _, h => by
    obtain rfl : left = 0 := by omega
    rw [runB, runB, if_neg (by omega)]
  | f + 1, g + 1, left, h1, h2 => by
    rw [runB, runB]
    by_cases h : 3 ≤ left
    · rw [if_pos h, if_pos h, runB_fuel ls c f g (left - min left 258) (by omega) (by omega)]
    · rw [if_neg h, if_neg h]
/-- A run's rest. -/
def runL (ls : Nat → Nat) (c : UInt8) (left : Nat) : List Int := runB ls c left left
theorem runL_step (ls : Nat → Nat) (c : UInt8) {left : Nat} (h : 3 ≤ left) : runL ls c left = againB ls (min left 258) ++ runL ls c (left - min left 258) := by
  unfold runL
  obtain ⟨m, rfl⟩ : ∃ m, left = m + 1 := ⟨left - 1, by omega⟩
  rw [runB, if_pos h, runB_fuel ls c m (m + 1 - min (m + 1) 258) _ (by omega) (Nat.le_refl _)]
theorem runL_end (ls : Nat → Nat) (c : UInt8) {left : Nat} (h : ¬ 3 ≤ left) : runL ls c left = (List.replicate left c).flatMap litB := by
  unfold runL
  cases left with
  | zero => rfl
  | succ m => rw [runB, if_neg h]
theorem headN_drop (c : UInt8) (r : By) : (r.drop (headN c r)).length ≤ r.length := by rw [List.length_drop]; omega
theorem runsB_fuel (ls : Nat → Nat) : ∀ (f g : Nat) (b : By), b.length ≤ f → b.length ≤ g → runsB ls f b = runsB ls g b
  | 0, 0, _, _, _ => rfl
  | 0, g + 1, b, h, _ => by
    obtain rfl : b = [] := List.eq_nil_of_length_eq_zero (by omega)
    rfl
  | f + 1, 0, b, _, h => by
    obtain rfl : b = [] := List.eq_nil_of_length_eq_zero (by omega)
    rfl
  | f + 1, g + 1, [], _, _ => rfl
  | f + 1, g + 1, c :: r, h1, h2 => by
    have h3 := headN_drop c r
    rw [List.length_cons] at h1 h2
    rw [runsB, runsB, runsB_fuel ls f g (r.drop (headN c r)) (by omega) (by omega)]
/-- All runs of bytes. -/
def rnsL (ls : Nat → Nat) (b : By) : List Int := runsB ls b.length b
theorem rnsL_nil (ls : Nat → Nat) : rnsL ls [] = [] := rfl
theorem rnsL_cons (ls : Nat → Nat) (c : UInt8) (r : By) : rnsL ls (c :: r) = litB c ++ (runL ls c (headN c r) ++ rnsL ls (r.drop (headN c r))) := by
  unfold rnsL
  rw [List.length_cons, runsB, runsB_fuel ls r.length (r.drop (headN c r)).length _ (headN_drop c r) (Nat.le_refl _)]
  rfl
theorem runsV_eq (ls : Nat → Nat) (b : By) : runsV ls b = packI ([1, 1, 0] ++ (rnsL ls b ++ endB)) := rfl
theorem rnsL_small {ls : Nat → Nat} (hl : LenSym ls) (b : By) : (rnsL ls b).length ≤ 9 * b.length := runsB_small hl _ _
theorem rnsL_bits (ls : Nat → Nat) (b : By) : AllBit (rnsL ls b) := runsB_bits ls _ _
theorem litB_len (c : UInt8) : (litB c).length ≤ 9 := by
  have h : ∀ s, s < 288 → (wordB fixI s).length ≤ 9 := by decide +kernel
  have := c.toNat_lt
  exact h _ (by omega)
/-- How many like bytes follow: as far as was looked. -/
theorem headN_is {c : UInt8} {r : By} {m : Nat} (h1 : ∀ j, j < m → r[j]? = some c) (h2 : r[m]? ≠ some c) : headN c r = m := by
  induction m generalizing r with
  | zero =>
    cases r with
    | nil => rfl
    | cons x r =>
      unfold headN
      have hx : x ≠ c := fun e => h2 (by rw [e]; rfl)
      rw [List.takeWhile_cons, if_neg (by simpa using hx)]
      rfl
  | succ m ih =>
    cases r with
    | nil => have := h1 0 (by omega); simp at this
    | cons x r =>
      have hx : x = c := by have := h1 0 (by omega); simpa using this
      subst hx
      have := ih (r := r) (fun j hj => by have := h1 (j + 1) (by omega); simpa using this) (by simpa using h2)
      unfold headN at this ⊢
      rw [List.takeWhile_cons, if_pos (by simp), List.length_cons, this]
end Go.Proofs.YtcdhakfmljjaoaaGreatDoor.ft
