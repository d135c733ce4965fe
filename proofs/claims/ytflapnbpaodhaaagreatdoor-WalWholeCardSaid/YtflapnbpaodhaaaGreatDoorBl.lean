/-
  Sectors with their homes, in a row of the call's own.
-/
import Derived.Test.YtflapnbpaodhaaaGreatDoorHdK
import Derived.Test.YtflapnbpaodhaaaGreatDoorHdN
import Derived.Test.YtflapnbpaodhaaaGreatDoorDt
import Derived.Maps.AppendAt
import Derived.Deep.MidRow
namespace Go.Proofs.YtflapnbpaodhaaaGreatDoor.hd
set_option maxRecDepth 100000
open Go.RowKit Go.Maps ds
set_option maxRecDepth 100000

theorem infoBlk : (Tryz.prog.info? 38).map (fun i => (i.zero, i.size, i.bytes)) = some (some (.agg #[.int .i64 0, .slice none 0 0]), 2, 32) := by kernel_rfl

/-- Bytes of a sector, as a value; not of a row of sectors. -/
def DatT (w : World) (v : Value) (l : List UInt8) : Prop := ∃ b o c t, v = .slice (some ⟨b, o, none⟩) 256 c ∧ l.length = 256 ∧ Ty w t b ∧ (t ≠ 66 ∧ t ≠ 74) ∧ t ≠ 38 ∧ Reads w b o l
theorem DatT.one {w : World} {v : Value} {l : List UInt8} (h : DatT w v l) : v.oneCell' = true := by
  obtain ⟨b, o, c, t, rfl, _⟩ := h
  rfl
theorem DatT.keep {w w' : World} {v : Value} {l : List UInt8} (h : DatT w v l) (hK : Keep w w') : DatT w' v l := by
  obtain ⟨b, o, c, t, hv, hl, ht, hd, hb, hr⟩ := h
  exact ⟨b, o, c, t, hv, hl, hK.ty ht hd.1, hd, hb, fun j y hj => (cell_keep hK ht hd.1 _).trans (hr j y hj)⟩
theorem DatT.grown {w w' : World} {v : Value} {l : List UInt8} (h : DatT w v l) {row : Option Nat} (hg : w.grownBy w' row) (hr : ∀ k, row = some k → Ty w 38 k) : DatT w' v l := by
  obtain ⟨b, o, c, t, hv, hl, ht, hd, hb, hrd⟩ := h
  have hne : some b ≠ row := fun e => (hr b e.symm).ne ht (fun e => hb e.symm) rfl
  have hbl : w'.heap[b]? = w.heap[b]? := hg.block b ht.lt hne
  obtain ⟨cs, hc⟩ := ht
  exact ⟨b, o, c, t, hv, hl, ⟨cs, hbl.trans hc⟩, hd, hb, fun j y hj => (World.cell?_of_block (w := w) (w' := w') (a := ⟨b, o + j, none⟩) hbl).trans (hrd j y hj)⟩

/-- Their cells: of each its home and its bytes. -/
def bcs : List (Int × Value × List UInt8) → List Value
  | [] => []
  | x :: r => .int .i64 x.1 :: x.2.1 :: bcs r
theorem bcs_length : ∀ L, (bcs L).length = L.length * 2
  | [] => rfl
  | x :: r => by simp only [bcs, List.length_cons, bcs_length r]; omega
theorem bcs_append : ∀ a b, bcs (a ++ b) = bcs a ++ bcs b
  | [], b => rfl
  | x :: r, b => by simp only [List.cons_append, bcs, bcs_append r b]
theorem bcs_get : ∀ (L : List (Int × Value × List UInt8)) (i : Nat) (x : Int × Value × List UInt8), L[i]? = some x → (bcs L)[i * 2]? = some (.int .i64 x.1) ∧ (bcs L)[i * 2 + 1]? = some x.2.1
  | [], i, x, h => by simp at h
  | y :: r, 0, x, h => by
    simp at h
    subst h
    exact ⟨rfl, rfl⟩
  | y :: r, i + 1, x, h => by
    have := bcs_get r i x (by simpa using h)
    rw [show (i + 1) * 2 = i * 2 + 1 + 1 by omega]
    simpa [bcs] using this

structure BRow (w : World) (base : Nat) (v : Value) (L : List (Int × Value × List UInt8)) : Prop where
  own : w.ownsRow base 38 2 v L.length (bcs L)
  dat : ∀ x ∈ L, DatT w x.2.1 x.2.2
section
variable {w w' : World} {base : Nat} {v : Value} {L : List (Int × Value × List UInt8)}
theorem BRow.nil (w : World) (base : Nat) : BRow w base (.slice none 0 0) [] := ⟨⟨rfl, Or.inl ⟨rfl, rfl⟩⟩, fun x hx => by cases hx⟩
theorem BRow.keep (h : BRow w base v L) (hK : Keep w w') : BRow w' base v L := by
  refine ⟨⟨h.own.1, ?_⟩, fun x hx => (h.dat x hx).keep hK⟩
  rcases h.own.2 with h2 | ⟨g, cap, cur, hv, hg, hh, r⟩
  · exact Or.inl h2
  · exact Or.inr ⟨g, cap, cur, hv, hg, (hK.2 _ g ⟨_, hh⟩ (by decide)).trans hh, r⟩
theorem BRow.calm (h : BRow w base v L) (hF : Fr (fun _ => False) w w') : BRow w' base v L := h.keep (Keep.of_fr hF)
theorem BRow.shape (h : BRow w base v L) : ∃ p cap, v = .slice p L.length cap ∧ (p = none → L = [] ∧ cap = 0) := by
  rcases h.own.2 with ⟨rfl, hn⟩ | ⟨g, cap, cur, rfl, _⟩
  · exact ⟨none, 0, by rw [hn], fun _ => ⟨List.eq_nil_of_length_eq_zero hn, rfl⟩⟩
  · exact ⟨_, cap, rfl, fun e => by cases e⟩
theorem BRow.bks {p : Option Addr} {n cap : Nat} (h : BRow w base (.slice p n cap) L) : n = L.length ∧ BksT w p (L.map fun x => (x.1, x.2.2)) := by
  rcases h.own.2 with ⟨e, hn⟩ | ⟨g, c, cur, e, hb, hg, hc, _, hs, hx⟩
  · cases e
    have hL : L = [] := List.eq_nil_of_length_eq_zero hn
    subst hL
    exact ⟨rfl, fun h => absurd rfl h⟩
  · cases e
    refine ⟨rfl, fun _ => ⟨g, 0, rfl, ⟨_, hg⟩, fun i y hi => ?_⟩⟩
    rw [List.getElem?_map] at hi
    cases hLi : L[i]? with
    | none => rw [hLi] at hi; cases hi
    | some x =>
      rw [hLi] at hi
      obtain rfl : (x.1, x.2.2) = y := by simpa using hi
      obtain ⟨b, o, c', t, hv, hl, ht, hd, hbk, hr⟩ := h.dat x (List.mem_of_getElem? hLi)
      obtain ⟨g0, g1⟩ := bcs_get L i x hLi
      have hlt := (List.getElem?_eq_some_iff.1 hLi).1
      have key : ∀ j u, j < L.length * 2 → (bcs L)[j]? = some u → w.cell? ⟨g, 0 + j, none⟩ = some u := fun j u hj hu => by
        rw [cellAt hg, Nat.zero_add]
        rw [← hx, List.getElem?_take, if_pos hj] at hu
        simpa using hu
      exact ⟨key (i * 2) _ (by omega) g0, b, o, c', t, by rw [← hv, Nat.add_assoc]; exact key (i * 2 + 1) _ (by omega) g1, hl, ht, hd, hbk, hr⟩
theorem BRow.row (h : BRow w base v L) : ∀ k, v.ownBlock = some k → base ≤ k ∧ Ty w 38 k := fun k hk => by
  rcases h.own.2 with ⟨rfl, _⟩ | ⟨g, c, cur, rfl, hb, hg, _⟩
  · cases hk
  · cases hk
    exact ⟨hb, _, hg⟩
/-- One more behind them. -/
theorem BRow.snoc (h : BRow w base v L) {v' : Value} {x : Int × Value × List UInt8} (hd : DatT w x.2.1 x.2.2) (ho : w'.ownsRow base 38 2 v' (L.length + 1) (bcs L ++ [.int .i64 x.1, x.2.1])) (hg : w.grownBy w' v.ownBlock) : BRow w' base v' (L ++ [x]) := by
  refine ⟨?_, fun y hy => ?_⟩
  · rw [List.length_append, bcs_append]
    exact ho
  · rcases List.mem_append.1 hy with hy | hy
    · exact (h.dat y hy).grown hg (fun k hk => (h.row k hk).2)
    · obtain rfl : y = x := by simpa using hy
      exact hd.grown hg (fun k hk => (h.row k hk).2)
theorem BRow.cell0 {p : Option Addr} {n cap : Nat} (h : BRow w base (.slice p n cap) L) {i : Nat} {x : Int × Value × List UInt8} (hi : L[i]? = some x) : ∃ g, p = some ⟨g, 0, none⟩ ∧ g < w.heap.size ∧ w.cell? ⟨g, i * 2, none⟩ = some (.int .i64 x.1) ∧ w.cell? ⟨g, i * 2 + 1, none⟩ = some x.2.1 := by
  obtain ⟨g0, g1⟩ := bcs_get L i x hi
  have hlt := (List.getElem?_eq_some_iff.1 hi).1
  rcases h.own.2 with ⟨e, hn⟩ | ⟨g, c, cur, e, hb, hg, hc, _, hs, hx⟩
  · omega
  · cases e
    have key : ∀ j u, j < L.length * 2 → (bcs L)[j]? = some u → w.cell? ⟨g, j, none⟩ = some u := fun j u hj hu => by
      rw [cellAt hg]
      rw [← hx, List.getElem?_take, if_pos hj] at hu
      simpa using hu
    exact ⟨g, rfl, (Array.getElem?_eq_some_iff.1 hg).1, key _ _ (by omega) g0, key _ _ (by omega) g1⟩
end
theorem row_some {W : World} {base : Nat} {e : TypeId} {size : Nat} {v : Value} {k : Nat} {xs : List Value} (h : W.ownsRow base e size v (k + 1) xs) : ∃ g cap, v = .slice (some ⟨g, 0, none⟩) (k + 1) cap := by
  rcases h.2 with ⟨_, h0⟩ | ⟨g, cap, cur, hv, _⟩
  · omega
  · exact ⟨g, cap, hv⟩
theorem range_arr {w : World} {g : Nat} {t : TypeId} {l : List UInt8} (h : w.heap[g]? = some (.cells (secC l) t (0, 0))) : w.rangeAt g 0 (cellsOf l) := fun j v hj => by
  rw [cellAt h, Nat.zero_add]
  show (cellsOf l).toArray[j]? = _
  rw [List.getElem?_toArray, hj]
theorem pair_cells (w : World) (x : Int) (v : Value) : ∀ (j : Nat) u, [Value.int .i64 x, v][j]? = some u → (w.alloc (.cells #[.int .i64 x, v] 38)).cell? ((⟨w.heap.size, 0, none⟩ : Addr).add j) = some u := fun j u hu => by
  rw [add_plain, cellAt (heap_alloc_new _ _), Nat.zero_add]
  have : (#[Value.int .i64 x, v] : Array Value)[j]? = [Value.int .i64 x, v][j]? := by
    rw [← List.getElem?_toArray]
  rw [this]
  exact hu
end Go.Proofs.YtflapnbpaodhaaaGreatDoor.hd
