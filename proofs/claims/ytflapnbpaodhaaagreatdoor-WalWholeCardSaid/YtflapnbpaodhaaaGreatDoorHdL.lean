/-
  What a header logs.
-/
import Derived.Test.YtflapnbpaodhaaaGreatDoorBl
namespace Go.Proofs.YtflapnbpaodhaaaGreatDoor.hd
set_option maxRecDepth 100000
open Go.RowKit Go.Maps ds
set_option maxRecDepth 100000

/-- Home number i that a header tells, and what is logged for it. -/
def homeN (h : List UInt8) (i : Nat) : Nat := numAt h (10 + i * 2) 2
def okAt (N at_ rc : Nat) (h : List UInt8) (i : Nat) : Prop := at_ + 1 + rc ≤ homeN h i ∧ homeN h i < N ∧ (0 < i → homeN h (i - 1) < homeN h i)
instance (N at_ rc : Nat) (h : List UInt8) (i : Nat) : Decidable (okAt N at_ rc h i) := inferInstanceAs (Decidable (_ ∧ _))
def logAt (d : DS) (at_ : Nat) (h : List UInt8) (i : Nat) : Int × List UInt8 := ((homeN h i : Int), d.img ((at_ + 1 + i : Nat) : Int))
def logL (d : DS) (at_ : Nat) (h : List UInt8) (n : Nat) : List (Int × List UInt8) := (List.range n).map (logAt d at_ h)
theorem logL_succ (d : DS) (at_ : Nat) (h : List UInt8) (n : Nat) : logL d at_ h (n + 1) = logL d at_ h n ++ [logAt d at_ h n] := by simp [logL, List.range_succ]
theorem logL_length (d : DS) (at_ : Nat) (h : List UInt8) (n : Nat) : (logL d at_ h n).length = n := by simp [logL]
def rightH (N at_ rc : Nat) (h : List UInt8) : Prop := numAt h 8 2 ≤ rc ∧ ∀ i, i < numAt h 8 2 → okAt N at_ rc h i

/-- The call's own, in its loop. -/
structure Lg (w0 w : World) (pb N B : Nat) (d : DS) (at_ rc : Nat) (h : List UInt8) (wr : World) : Prop where
  box : BoxR wr w.heap.size pb at_ rc
  hdr : wr.heap[w.heap.size + 1]? = some (.cells (secC h) 100 (0, 0))
  dsk : IsD w0 pb N B d wr
  fr : Fr (fun _ => False) w wr
  lt : w.heap.size + 2 ≤ wr.heap.size
section
variable {w0 w wr : World} {pb N B at_ rc : Nat} {d : DS} {h : List UInt8}
theorem Lg.calm (k : Lg w0 w pb N B d at_ rc h wr) {w2 : World} (hF : Fr (fun _ => False) wr w2) : Lg w0 w pb N B d at_ rc h w2 :=
  ⟨k.box.calm hF, (hF.block _ (Array.getElem?_eq_some_iff.1 k.hdr).1 id).trans k.hdr, k.dsk.calm hF, k.fr.trans hF (fun _ _ e => e), Nat.le_trans k.lt hF.size⟩
/-- What is as wa was but for blocks since. -/
theorem Lg.mk2 (hD : IsD w0 pb N B d w) (h : List UInt8) : Lg w0 w pb N B d at_ rc h ((w.alloc (.cells #[.pointer (some ⟨pb, 0, none⟩), .int .i64 (at_ : Int), .int .i64 (rc : Int)] 72)).alloc (.cells (secC h) 100)) :=
  ⟨heap_alloc2_old _ _ _, heap_alloc2_new _ _ _, hD.calm (((Fr.refl _ w).alloc _).alloc _), ((Fr.refl _ w).alloc _).alloc _, by simp⟩
theorem Lg.grown (k : Lg w0 w pb N B d at_ rc h wr) (hD : IsD w0 pb N B d w) {w2 : World} {row : Option Nat} (hg : wr.grownBy w2 row) (hr : ∀ j, row = some j → w.heap.size + 2 ≤ j) : Lg w0 w pb N B d at_ rc h w2 := by
  have hF : Fr (fun _ => False) w w2 := k.fr.grown hg (fun j e => Or.inr (by have := hr j e; omega))
  refine ⟨(hg.block _ (Array.getElem?_eq_some_iff.1 k.box).1 (fun e => ?_)).trans k.box, (hg.block _ (Array.getElem?_eq_some_iff.1 k.hdr).1 (fun e => ?_)).trans k.hdr, hD.calm hF, hF, Nat.le_trans k.lt hg.size⟩
  · have := hr _ e.symm
    omega
  · have := hr _ e.symm
    omega
theorem Lg.held (k : Lg w0 w pb N B d at_ rc h wr) : wr.cell? ⟨w.heap.size, 0, none⟩ = some (.pointer (some ⟨pb, 0, none⟩)) ∧ wr.cell? ⟨w.heap.size, 1, none⟩ = some (.int .i64 (at_ : Int)) ∧ wr.cell? ⟨w.heap.size, 2, none⟩ = some (.int .i64 (rc : Int)) ∧ wr.rangeAt (w.heap.size + 1) 0 (cellsOf h) :=
  ⟨k.box.c.1, k.box.c.2.1, k.box.c.2.2, range_arr k.hdr⟩
end
/-- The loop's list. -/
def LgR (d : DS) (at_ : Nat) (h : List UInt8) (wr : World) (base : Nat) (v : Value) (k : Nat) : Prop := ∃ L, BRow wr base v L ∧ L.map (fun x => (x.1, x.2.2)) = logL d at_ h k
theorem LgR.shape {d : DS} {at_ : Nat} {h : List UInt8} {wr : World} {base : Nat} {v : Value} {k : Nat} (r : LgR d at_ h wr base v k) : ∃ p cap, v = .slice p k cap ∧ BksT wr p (logL d at_ h k) := by
  obtain ⟨L, hL, hm⟩ := r
  obtain ⟨p, cap, rfl, _⟩ := hL.shape
  have hlen : L.length = k := by have := congrArg List.length hm; simpa [logL_length] using this
  have hb := hL.bks.2
  rw [hm] at hb
  exact ⟨p, cap, by rw [hlen], hb⟩
theorem LgR.calm {d : DS} {at_ : Nat} {h : List UInt8} {wr w2 : World} {base : Nat} {v : Value} {k : Nat} (r : LgR d at_ h wr base v k) (hF : Fr (fun _ => False) wr w2) : LgR d at_ h w2 base v k := by
  obtain ⟨L, hL, hm⟩ := r
  exact ⟨L, hL.calm hF, hm⟩
theorem LgR.prev {d : DS} {at_ : Nat} {h : List UInt8} {wr : World} {base : Nat} {p : Option Addr} {n cap k : Nat} (r : LgR d at_ h wr base (.slice p n cap) (k + 1)) : n = k + 1 ∧ ∃ g, p = some ⟨g, 0, none⟩ ∧ g < wr.heap.size ∧ wr.cell? ⟨g, k * 2, none⟩ = some (.int .i64 (homeN h k : Int)) := by
  obtain ⟨L, hL, hm⟩ := r
  have hlen : L.length = k + 1 := by have := congrArg List.length hm; simpa [logL_length] using this
  obtain ⟨x, hx⟩ : ∃ x, L[k]? = some x := ⟨_, List.getElem?_eq_getElem (by omega)⟩
  have hx1 : (x.1, x.2.2) = logAt d at_ h k := by
    have h1 : (L.map fun x => (x.1, x.2.2))[k]? = some (x.1, x.2.2) := by rw [List.getElem?_map, hx]; rfl
    rw [hm, logL, List.getElem?_map, List.getElem?_range (by omega)] at h1
    simpa using h1.symm
  obtain ⟨g, hp, hg, c0, _⟩ := hL.cell0 hx
  refine ⟨hL.bks.1.trans hlen, g, hp, hg, ?_⟩
  rw [c0, show x.1 = (homeN h k : Int) from congrArg Prod.fst hx1]
theorem LgR.row {d : DS} {at_ : Nat} {h : List UInt8} {wr : World} {base : Nat} {p : Option Addr} {cap k : Nat} (r : LgR d at_ h wr base (.slice p k cap) k) : ∃ L, BRow wr base (.slice p k cap) L ∧ L.length = k ∧ L.map (fun x => (x.1, x.2.2)) = logL d at_ h k := by
  obtain ⟨L, hL, hm⟩ := r
  exact ⟨L, hL, hL.bks.1.symm, hm⟩
end Go.Proofs.YtflapnbpaodhaaaGreatDoor.hd
