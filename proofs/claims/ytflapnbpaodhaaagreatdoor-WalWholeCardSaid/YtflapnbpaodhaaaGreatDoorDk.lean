/-
  A disk as a value: its limit, its crash.
-/
import Derived.Test.YtflapnbpaodhaaaGreatDoorDt
namespace Go.Proofs.YtflapnbpaodhaaaGreatDoor.ds
set_option maxRecDepth 100000
open Go.RowKit Go.Maps
set_option maxRecDepth 100000

def DS.limit (d : DS) (n : Int) : DS := ⟨d.img, d.sur, d.may, d.ops, n, d.dk, d.cl⟩
/-- Behind a crash that left f. -/
def DS.behind (f : Int → List UInt8) (n : Int) : DS := ⟨f, f, fun x y => y = f x, n, -1, false, true⟩
section
variable {w0 w : World} {pb N B : Nat} {d : DS}
theorem IsD.limit (h : IsD w0 pb N B d w) (n : Nat) (hn : n ≤ 1000) :
    Calls Tryz.prog 11 #[.pointer (some ⟨pb, 0, none⟩), .int .i64 n] w fun e w' => e = .returned (.tuple #[]) ∧ IsD w0 pb N B (d.limit n) w' ∧ Keep w w' := by
  obtain ⟨⟨bv, bt, c, V, T, hg, h1, a1, a2, a3, a4⟩, hf⟩ := h
  obtain ⟨nv, nt, hd, ha, hb⟩ := hg.disk
  have hn0 := hg.n0
  refine (limit_any _ hd.blk (by omega) n).mono ?_
  rintro e w' ⟨rfl, g1, g2, _⟩
  have hm : max (n : Int) (-1) = n := by omega
  rw [hm] at g1
  have hg' := turned hg g1 g2 ⟨hg.ops0, hg.ops1⟩ ⟨by omega, by omega⟩
  exact ⟨rfl, ⟨⟨bv, bt, c, V, T, hg', h1, a1, a2, a3, a4⟩, fr_go hf g2 (fun i e => by omega)⟩, keep_of hg g2 (fun i e => Or.inl e)⟩

/-- A crash's picks, that lie in a block of ahead. -/
def PicksIn (w0 w : World) (A : Option Addr) (l : List Int) : Prop := l.length ≤ 140737488351232 ∧ (l ≠ [] → ∃ blk off, A = some ⟨blk, off, none⟩ ∧ blk < w0.heap.size ∧ ∀ j x, l[j]? = some x → w.cell? ⟨blk, off + j, none⟩ = some (.int .i64 x))
theorem IsD.crash (h : IsD w0 pb N B d w) (A : Option Addr) (cap : Nat) (l : List Int) (hp : PicksIn w0 w A l) :
    Calls Tryz.prog 13 #[.pointer (some ⟨pb, 0, none⟩), .slice A l.length cap] w fun e w' => e = .returned (.int .i64 0) ∧ ∃ f, (∀ s, I64 s → d.may s (f s)) ∧ IsD w0 pb N B (DS.behind f d.ops) w' ∧ Keep w w' := by
  obtain ⟨⟨bv, bt, c, V, T, hg, h1, a1, a2, a3, a4⟩, hf⟩ := h
  have hfs := hf.size
  have hP : Picks w bv (.slice A l.length cap) l := ⟨A, cap, rfl, by have := hp.1; omega, fun hne => by
    obtain ⟨blk, off, e, hlt, hc⟩ := hp.2 hne
    exact ⟨blk, off, e, by omega, by omega, hc⟩⟩
  refine (crash_good hg _ l hP).mono ?_
  rintro e w' ⟨rfl, bt', V', L, hg', hR, hL, k1, k2, k3, hF⟩
  refine ⟨rfl, fun s => V' s 0, fun s hs => ?_, ⟨⟨bv, bt', 0, V', fun _ => 0, hg', fun s _ => ⟨rfl, rfl, fun t t0 t1 => ?_⟩, a1, a2, by omega, fun _ => rfl⟩, fr_go hf hF (fun i e => by rcases e with e | e <;> omega)⟩, keep_of hg hF (fun i e => by rcases e with e | e; exact Or.inl e; exact Or.inr (Or.inl e))⟩
  · obtain ⟨_, _, hm⟩ := h1 s hs
    have hT := hg.turns s hs
    have hsm := hg.small
    show d.may s (V' s 0)
    by_cases hs' : s ∈ L
    · obtain ⟨i, hi⟩ := List.mem_iff_getElem?.1 hs'
      rw [k1 i s hi]
      have := pickOf_in l i (m := T s + 1) (by omega) (by omega)
      exact hm _ this.1 (by omega)
    · rw [k2 s hs']
      exact hm 0 (by omega) hT.1
  · have t1 : t ≤ 0 := t1
    obtain rfl : t = 0 := by omega
    rfl
end
end Go.Proofs.YtflapnbpaodhaaaGreatDoor.ds
