/-
  A digest that comes in by value.
-/
import Derived.Test.YtoikgnmhnlcbhaaDoorDgQ
import Derived.OpenShut
import Derived.ProofKit
namespace Go.Proofs.YtoikgnmhnlcbhaaDoor.dg
set_option maxRecDepth 100000
open Go.RowKit Go.Maps Go.ChangeShapes Go.WideShapes Go.Deep
set_option maxRecDepth 100000

theorem all_bytes : ∀ L : List Value, (∀ (i : Nat) (v : Value), L[i]? = some v → ∃ b : UInt8, v = .int .u8 (b.toNat : Int)) → ∃ l : Bts, L = bs l
  | [], _ => ⟨[], rfl⟩
  | v :: L, h => by
    obtain ⟨b, hb⟩ := h 0 v rfl
    obtain ⟨l, hl⟩ := all_bytes L (fun i u hu => h (i + 1) u (by simpa using hu))
    exact ⟨b :: l, by rw [hb, hl]; rfl⟩
section
variable {H : Type} {enc : TypeId × Value → H} {w : World} {base : Nat} {spare : Nat → Bool} {held : Bool}
theorem dg_open {r : Reach} {b0 : Nat} {v : Value} {d : DataW H} {p : List MemPlace} (hv : Value.okWide Tryd.prog w r b0 24 v) (h : DataW.Trod enc Tryd.prog w base spare held 24 v d p) :
    ∃ l : Bts, v = dgV l ∧ l.length = 32 := by
  simp only [Value.okWide, Tryd.underlying24] at hv
  obtain ⟨cs, rfl, hsz, _⟩ := hv
  rw [show Tryd.prog.cellsOf 24 = 32 from by kernel_rfl] at hsz
  obtain ⟨fuel, hf⟩ := h
  obtain ⟨xs, m, _, _, hl, hxl, hg⟩ := DataW.trod_array Tryd.underlying24 hf
  rw [cellsU] at hg
  obtain ⟨L⟩ := cs
  have hL : L.length = 32 := hsz
  obtain ⟨l, hlL⟩ := all_bytes L (fun i u hu => by
    have hi : i < 32 := by have := (List.getElem?_eq_some_iff.1 hu).1; omega
    have h1 := hg i hi
    have e1 : ((Value.agg L.toArray).cells.toList.drop (i * 1)).take 1 = [u] := by
      show (L.drop (i * 1)).take 1 = [u]
      rw [Nat.mul_one, List.take_one, List.head?_drop, hu]
      rfl
    rw [e1, List.getElem?_eq_getElem (by omega)] at h1
    obtain ⟨n, e, _, wf⟩ := DataW.trod_int Tryd.underlying5 h1
    obtain rfl : u = .int .u8 n := by simpa using e
    have hb : 0 ≤ n ∧ n ≤ 255 := by simpa using bounds_u8 wf
    exact ⟨UInt8.ofNat n.toNat, by rw [UInt8.toNat_ofNat', Nat.mod_eq_of_lt (by omega)]; congr 1; omega⟩)
  refine ⟨l, by rw [hlL], ?_⟩
  rw [← bs_length, ← hlL]
  exact hL
end
end Go.Proofs.YtoikgnmhnlcbhaaDoor.dg
