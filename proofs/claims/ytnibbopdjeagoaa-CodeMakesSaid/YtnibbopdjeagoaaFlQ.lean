/-
  What is asked of the program's readers and writers; the law's works over it.
-/
import Derived.Test.YtnibbopdjeagoaaFlF
namespace Go.Proofs.Ytnibbopdjeagoaa.fl
set_option maxRecDepth 100000
open Go.RowKit Go.Maps
set_option maxRecDepth 100000

abbrev RP := World → Addr → List UInt8 → Nat → (Nat → Prop) → Prop
abbrev VP := World → Addr → List Int → (Nat → Prop) → Prop
abbrev Big (n : Int) : Prop := -9223372036854775808 ≤ n ∧ n ≤ 9223372036854775807
/-- What a writer has behind a call. -/
def putL' (L : List Int) (n k : Int) : List Int := if lowB n k = true then L ++ lowL n k else L
def codeL (L : List Int) (n k : Int) : List Int := if lowB n k = true then L ++ (lowL n k).reverse else L
def putZ (n k : Int) : Int := if lowB n k = true then 0 else 2
def padL (L : List Int) : List Int := L ++ List.replicate ((8 - L.length % 8) % 8) 0
def wbL (L : List Int) (d : List UInt8) : List Int := if L.length % 8 = 0 then L ++ bitsOf d else L
def wbZ (L : List Int) : Int := if L.length % 8 = 0 then 0 else 2
/-- A reader behind a call: it stands at p; what it has is its own, or new. -/
def RAft (R : RP) (w : World) (a : Addr) (b : List UInt8) (S : Nat → Prop) (p : Nat) (w' : World) : Prop := ∃ S', R w' a b p S' ∧ (∀ i, S' i → S i ∨ w.heap.size ≤ i) ∧ Fr S w w'
def VAft (V : VP) (w : World) (a : Addr) (S : Nat → Prop) (L : List Int) (w' : World) : Prop := ∃ S', V w' a L S' ∧ (∀ i, S' i → S i ∨ w.heap.size ≤ i) ∧ Fr S w w'
/-- The program's readers and writers, as the chapter has them. -/
structure FlowP (R : RP) (V : VP) : Prop where
  r_keep : ∀ {w w' : World} {a : Addr} {b : List UInt8} {p : Nat} {S S' : Nat → Prop}, R w a b p S → Fr S' w w' → (∀ i, S i → ¬ S' i) → R w' a b p S
  r_in : ∀ {w : World} {a : Addr} {b : List UInt8} {p : Nat} {S : Nat → Prop}, R w a b p S → (∀ i, S i → i < w.heap.size) ∧ p ≤ 8 * b.length
  new : ∀ (w : World) (A : Option Addr) (cap : Nat) (b : List UInt8), Rd w w.heap.size A b → (A = none → cap = 0) → b.length ≤ cap → b.length ≤ 140737488351232 → Calls Try.prog 22 #[.slice A b.length cap] w fun e w' => ∃ a S, e = .returned (.pointer (some a)) ∧ R w' a b 0 S ∧ (∀ i, S i → w.heap.size ≤ i) ∧ Fr (fun _ => False) w w'
  take : ∀ (w : World) (a : Addr) (b : List UInt8) (p : Nat) (S : Nat → Prop) (n : Int), R w a b p S → Big n → Calls Try.prog 46 #[.pointer (some a), .int .i64 n] w fun e w' => e = .returned (.tuple #[.int .i64 (takeV (bitsOf b) p n).1, .int .i64 (takeV (bitsOf b) p n).2]) ∧ RAft R w a b S (takeA (bitsOf b) p n) w'
  at_ : ∀ (w : World) (a : Addr) (b : List UInt8) (p : Nat) (S : Nat → Prop), R w a b p S → Calls Try.prog 26 #[.pointer (some a)] w fun e w' => e = .returned (.int .i64 (p : Int)) ∧ Calm w w'
  left : ∀ (w : World) (a : Addr) (b : List UInt8) (p : Nat) (S : Nat → Prop), R w a b p S → Calls Try.prog 32 #[.pointer (some a)] w fun e w' => e = .returned (.int .i64 ((8 * b.length - p : Nat) : Int)) ∧ Calm w w'
  v_keep : ∀ {w w' : World} {a : Addr} {L : List Int} {S S' : Nat → Prop}, V w a L S → Fr S' w w' → (∀ i, S i → ¬ S' i) → V w' a L S
  v_in : ∀ {w : World} {a : Addr} {L : List Int} {S : Nat → Prop}, V w a L S → (∀ i, S i → i < w.heap.size) ∧ AllBit L
  write : ∀ (w : World), Calls Try.prog 27 #[] w fun e w' => ∃ a S, e = .returned (.pointer (some a)) ∧ V w' a [] S ∧ (∀ i, S i → w.heap.size ≤ i) ∧ Fr (fun _ => False) w w'
  code : ∀ (w : World) (a : Addr) (L : List Int) (S : Nat → Prop) (n k : Int), V w a L S → L.length ≤ 1000000 → Big n → Big k → Calls Try.prog 52 #[.pointer (some a), .int .i64 n, .int .i64 k] w fun e w' => e = .returned (.int .i64 (putZ n k)) ∧ VAft V w a S (codeL L n k) w'
  all : ∀ (w : World) (a : Addr) (L : List Int) (S : Nat → Prop), V w a L S → L.length ≤ 1000000 → Calls Try.prog 30 #[.pointer (some a)] w fun e w' => ∃ A cap S', e = .returned (.slice A (packI L).length cap) ∧ Own w' w.heap.size (.slice A (packI L).length cap) (packI L) ∧ V w' a L S' ∧ (∀ i, S' i → (S i ∨ w.heap.size ≤ i) ∧ (Value.slice A (packI L).length cap).ownBlock ≠ some i) ∧ Fr S w w'
  len : ∀ (w : World) (a : Addr) (L : List Int) (S : Nat → Prop), V w a L S → Calls Try.prog 31 #[.pointer (some a)] w fun e w' => e = .returned (.int .i64 (L.length : Int)) ∧ Calm w w'

theorem ex_bits : bitsOf [5, 1] = [1, 0, 1, 0, 0, 0, 0, 0, 1, 0, 0, 0, 0, 0, 0, 0] := by decide
theorem ex_low : lowL 1 3 = [1, 0, 0] ∧ lowB 1 3 = true := by decide
theorem ex_pack : packI [0, 0, 1, 1, 0, 0] = [12] := by decide
end Go.Proofs.Ytnibbopdjeagoaa.fl
