/-
  Calls that come in, opened.
-/
import Derived.Test.YtnibbopdjeagoaaFlH
import Derived.Deep.Slices
import Derived.ChangeArms
import Derived.ChangeSlices
import Derived.OpenShut
import Derived.SizedLaws
import Derived.Lib.SmallJoins
namespace Go.Proofs.Ytnibbopdjeagoaa.fl
set_option maxRecDepth 100000
open Go.Joins Go.RowKit Go.Maps Go.ChangeShapes Go.WideShapes Go.Deep

theorem cellsInt : Try.prog.cellsOf 3 = 1 := by kernel_rfl
theorem list4 {α : Type} : ∀ {l : List α}, l.length = 4 → ∃ a b c d, l = [a, b, c, d]
  | [a, b, c, d], _ => ⟨a, b, c, d, rfl⟩
/-- A call, by the row's first address. -/
structure ActRaw (w : World) (ad : Addr) (i : Nat) (a : AF) : Prop where
  c0 : w.cell? (ad.add (i * 4 + 0)) = some (.int .i64 a.do_)
  c1 : w.cell? (ad.add (i * 4 + 1)) = some (.int .i64 a.n)
  c2 : w.cell? (ad.add (i * 4 + 2)) = some (.int .i64 a.bits)
  c3 : w.cell? (ad.add (i * 4 + 3)) = some (.slice a.A a.d.length a.cap)
  ok : AFok w w.heap.size a
theorem weights_mem {H : Type} {P : Program} {e : TypeId} : ∀ {l : List (DataW H)} {i : Nat} {d : DataW H}, l[i]? = some d → ∀ n ∈ d.weights P e, n ∈ DataW.weightsAll P e l
  | [], _, _, h, _, _ => by simp at h
  | x :: l, 0, d, h, n, hn => by
    simp only [List.getElem?_cons_zero, Option.some.injEq] at h
    subst h
    simp only [DataW.weightsAll, List.mem_append]
    exact Or.inl hn
  | x :: l, i + 1, d, h, n, hn => by
    rw [List.getElem?_cons_succ] at h
    simp only [DataW.weightsAll, List.mem_append]
    exact Or.inr (weights_mem h n hn)
section
variable {H : Type} {enc : TypeId × Value → H} {w : World} {base : Nat} {spare : Nat → Bool} {held : Bool}
/-- A cell with bytes, opened. -/
theorem bytes_cell {n' : Nat} {c3 : Value} {y3 : DataW H × List MemPlace} (hs : ∀ b, spare b = true) (hw3 : ∀ n ∈ y3.1.weights Try.prog 39, n ≤ reachBytes) (f3 : DataW.trod enc Try.prog w base spare held n' 39 [c3] = some y3) :
    ∃ (A : Option Addr) (cap : Nat) (l : List UInt8), c3 = .slice A l.length cap ∧ Rd w w.heap.size A l ∧ (A = none → cap = 0) ∧ l.length ≤ cap ∧ l.length ≤ 140737488351232 := by
  rcases open_ints Try.underlying39 Try.underlying5 cellsU f3 with ⟨hc, _⟩ | ⟨ad3, ln, cp, zs, hc, _, hl3, hm3, hz, hx3, hcell, hwf⟩
  · simp only [List.cons.injEq, and_true] at hc
    subst hc
    exact ⟨none, 0, [], rfl, Rd.nil _ _ _, fun _ => rfl, Nat.le_refl _, by simp⟩
  · simp only [List.cons.injEq, and_true] at hc
    subst hc
    rw [if_pos (hs _)] at hz
    have hreach := hw3 ((zs.take ln).length * 1 + (zs.drop ln).length * 1) (by
      rw [(Prod.mk.inj hx3).1]
      simp only [DataW.weights, Try.underlying39, lits, List.length_map]
      rw [bytesU, Nat.add_mul]
      exact List.mem_cons_self)
    rw [List.length_take, List.length_drop] at hreach
    simp only [reachBytes] at hreach
    have hlen3 : ((zs.take ln).map fun z => UInt8.ofNat z.toNat).length = ln := by rw [List.length_map, List.length_take]; omega
    refine ⟨some ad3, cp, (zs.take ln).map fun z => UInt8.ofNat z.toNat, by rw [hlen3], fun hne => ?_, (fun e => by cases e), by rw [hlen3]; exact hl3, by rw [hlen3]; omega⟩
    have h0 : 0 < ln := by
      rcases Nat.eq_zero_or_pos ln with e | e
      · exact absurd (List.eq_nil_of_length_eq_zero (hlen3.trans e)) hne
      · exact e
    obtain ⟨e1, e2⟩ := addr_of_cell (hcell 0 (by omega))
    refine ⟨ad3.block, ad3.off, by rw [← e1], e2, fun j x hj => ?_⟩
    have hj2 := (List.getElem?_eq_some_iff.1 hj).1
    have hj' : j < ln := by omega
    rw [List.getElem?_map, List.getElem?_take_of_lt hj'] at hj
    obtain ⟨z, hz1, rfl⟩ := Option.map_eq_some_iff.1 hj
    have h1 := cell_add e1 (hcell j (by omega))
    rw [List.getD_eq_getElem?_getD, hz1] at h1
    have hw := hwf z (List.mem_of_getElem? hz1)
    have hb : 0 ≤ z ∧ z ≤ 255 := by simpa using bounds_u8 hw
    rw [h1]
    have hn : ((UInt8.ofNat z.toNat).toNat : Int) = z := by
      rw [UInt8.toNat_ofNat']
      omega
    rw [hn]
    rfl
end
end Go.Proofs.Ytnibbopdjeagoaa.fl
