/-
  The disk and the document's, side by side.
-/
import Derived.Test.YtbmbibepcnpngaaPTie
import Derived.Test.YtbmbibepcnpngaaPOpen
namespace Go.Proofs.Ytbmbibepcnpngaa.play
open Go.RowKit Go.Maps rf

/-- Both disks; X are the blocks that the document's has not. -/
structure Jt (X : Nat → Prop) (w0 : World) (pb bv bt yb gv N B c : Nat) (ops lim : Int) (dk : Bool) (V : Int → Int → List UInt8) (T : Int → Int) (L : Nat → List (List UInt8)) (w : World) : Prop where
  good : Good w pb bv bt N B c ops lim dk V T
  rd : RD X w0.heap.size w yb gv N L lim dk ops
  tie : Tie N c V T L
  gp : w0.heap.size ≤ pb
  gm : w0.heap.size ≤ bv
  gt : w0.heap.size ≤ bt
  fr : Fr (fun _ => False) w0 w
  small : B ≤ 900000
/-- .. whatever they hold. -/
def JtE (X : Nat → Prop) (w0 : World) (pb yb N B : Nat) (w : World) : Prop := ∃ bv bt gv c ops lim dk V T L, Jt X w0 pb bv bt yb gv N B c ops lim dk V T L w

theorem Good.tyP {w : World} {pb bv bt N B c : Nat} {ops lim : Int} {dk : Bool} {V : Int → Int → List UInt8} {T : Int → Int} (h : Good w pb bv bt N B c ops lim dk V T) : Ty w 65 pb := by
  obtain ⟨nv, nt, hd, _, _⟩ := h.disk
  exact ⟨_, hd.blk⟩
theorem good_apart {w : World} {pb bv bt N B c : Nat} {ops lim : Int} {dk : Bool} {V : Int → Int → List UInt8} {T : Int → Int} (h : Good w pb bv bt N B c ops lim dk V T) {t : TypeId} {i : Nat} (ht : Ty w t i) (hne : t ≠ 65) : i ≠ pb ∧ i ≠ bv ∧ i ≠ bt := by
  refine ⟨ht.ne (Good.tyP h) hne, ?_, ?_⟩ <;> obtain ⟨nv, nt, hd, _, _⟩ := h.disk <;> obtain ⟨cs, hc⟩ := ht <;> rintro rfl
  · obtain ⟨D, ⟨es, clock, h1, _⟩, _⟩ := hd.sec
    rw [hc] at h1
    cases h1
  · obtain ⟨D, ⟨es, clock, h1, _⟩, _⟩ := hd.turn
    rw [hc] at h1
    cases h1
theorem tyD : (5 : TypeId) ≠ 65 ∧ (22 : TypeId) ≠ 65 ∧ (58 : TypeId) ≠ 65 ∧ (52 : TypeId) ≠ 65 := by decide

/-- The disk's own blocks. -/
def Own3 (pb bv bt : Nat) (i : Nat) : Prop := i = pb ∨ i = bv ∨ i = bt

section
variable {X : Nat → Prop} {w0 : World} {pb bv bt yb gv N B c : Nat} {ops lim : Int} {dk : Bool} {V : Int → Int → List UInt8} {T : Int → Int} {L : Nat → List (List UInt8)} {w : World}

theorem Jt.hT (h : Jt X w0 pb bv bt yb gv N B c ops lim dk V T L w) : ∀ s : Nat, s < N → 0 ≤ T s ∧ T s < 1000000 := fun s hs => by
  have := h.good.n1
  have h2 := h.good.turns s (by constructor <;> omega)
  have h3 := h.small
  omega
theorem Jt.hT0 (h : Jt X w0 pb bv bt yb gv N B c ops lim dk V T L w) : ∀ s : Nat, s < N → 0 ≤ T s := fun s hs => (h.hT s hs).1
theorem Jt.hL (h : Jt X w0 pb bv bt yb gv N B c ops lim dk V T L w) : ∀ j, j < N → (L j).length ≤ 1000000 := fun s hs => by
  have := h.hT s hs
  have := h.tie.len s hs
  omega
theorem Jt.calm (h : Jt X w0 pb bv bt yb gv N B c ops lim dk V T L w) {w' : World} (hF : Fr (fun _ => False) w w') : Jt X w0 pb bv bt yb gv N B c ops lim dk V T L w' :=
  ⟨h.good.calm hF, h.rd.calm hF, h.tie, h.gp, h.gm, h.gt, h.fr.trans hF (fun _ _ e => e), h.small⟩
theorem Jt.to (h : Jt X w0 pb bv bt yb gv N B c ops lim dk V T L w) {Y : Nat → Prop} (hY : ∀ i, Ty w 5 i → ¬ X i → ¬ Y i) : Jt Y w0 pb bv bt yb gv N B c ops lim dk V T L w :=
  ⟨h.good, h.rd.to hY, h.tie, h.gp, h.gm, h.gt, h.fr, h.small⟩
/-- A block that came later is none of the document's disk's. -/
theorem Jt.lend (h : Jt (fun _ => False) w0 pb bv bt yb gv N B c ops lim dk V T L w) {g : Nat} (hg : w.heap.size ≤ g) : Jt (fun i => i = g) w0 pb bv bt yb gv N B c ops lim dk V T L w :=
  h.to (fun i ht _ e => by have := ht.lt; omega)

theorem rd_behind {base : Nat} {left : Int} {off : Bool} {taken : Int} (h : RD X base w yb gv N L left off taken) (hg : Good w pb bv bt N B c ops lim dk V T) {S : Nat → Prop} {w' : World} (hF : Fr S w w') (hS : ∀ i, S i → Own3 pb bv bt i) : RD X base w' yb gv N L left off taken := by
  have no : ∀ (t : TypeId) i, t ≠ 65 → Ty w t i → ¬ S i := fun t i hne ht hs => by
    obtain ⟨a, b, c⟩ := good_apart hg ht hne
    rcases hS i hs with e | e | e
    · exact a e
    · exact b e
    · exact c e
  exact h.kept hF (no _ _ tyD.2.2.2 h.tyY) (no _ _ tyD.2.2.1 h.tyG) (fun i hs _ ht => no _ _ tyD.1 ht hs) (fun i hs ht => no _ _ tyD.2.1 ht hs)
theorem good_behind {base : Nat} {left : Int} {off : Bool} {taken : Int} (hg : Good w pb bv bt N B c ops lim dk V T) (h : RD X base w yb gv N L left off taken) {S : Nat → Prop} {w' : World} (hF : Fr S w w') (hS : ∀ i, S i → Own2 yb gv i) : Good w' pb bv bt N B c ops lim dk V T := by
  have hy := good_apart hg h.tyY tyD.2.2.2
  have hgv := good_apart hg h.tyG tyD.2.2.1
  refine hg.kept hF (fun e => ?_) (fun e => ?_) (fun e => ?_)
  · rcases hS _ e with e | e
    · exact hy.1 e.symm
    · exact hgv.1 e.symm
  · rcases hS _ e with e | e
    · exact hy.2.1 e.symm
    · exact hgv.2.1 e.symm
  · rcases hS _ e with e | e
    · exact hy.2.2 e.symm
    · exact hgv.2.2 e.symm

/-- Blocks of other types stay as they are. -/
def Keep (w w' : World) : Prop := w.heap.size ≤ w'.heap.size ∧ ∀ t i, Ty w t i → t ≠ 65 → w'.heap[i]? = w.heap[i]?
theorem keep_of (hg : Good w pb bv bt N B c ops lim dk V T) {S : Nat → Prop} {w' : World} (hF : Fr S w w') (hS : ∀ i, S i → Own3 pb bv bt i) : Keep w w' :=
  ⟨hF.size, fun t i ht hne => hF.block i ht.lt (fun e => by
    obtain ⟨a, b, c⟩ := good_apart hg ht hne
    rcases hS i e with e | e | e
    · exact a e
    · exact b e
    · exact c e)⟩
theorem Keep.refl (w : World) : Keep w w := ⟨Nat.le_refl _, fun _ _ _ _ => rfl⟩
theorem Keep.cell {w' : World} (h : Keep w w') {t : TypeId} {i k : Nat} (ht : Ty w t i) (hne : t ≠ 65) : w'.cell? ⟨i, k, none⟩ = w.cell? ⟨i, k, none⟩ := World.cell?_of_block (w := w) (w' := w') (a := ⟨i, k, none⟩) (h.2 t i ht hne)
theorem RD.base_le {base base' : Nat} {left : Int} {off : Bool} {taken : Int} (h : RD X base w yb gv N L left off taken) (hb : base' ≤ base) : RD X base' w yb gv N L left off taken := ⟨Nat.le_trans hb h.yb_ge, Nat.le_trans hb h.gv_ge, h.blk, h.row⟩
theorem Jt.big (h : Jt X w0 pb bv bt yb gv N B c ops lim dk V T L w) {B' : Nat} (hB : B ≤ B') (hs : B' ≤ 900000) : Jt X w0 pb bv bt yb gv N B' c ops lim dk V T L w := ⟨h.good.big hB (by omega), h.rd, h.tie, h.gp, h.gm, h.gt, h.fr, hs⟩
theorem JtE.big (h : JtE X w0 pb yb N B w) {B' : Nat} (hB : B ≤ B') (hs : B' ≤ 900000) : JtE X w0 pb yb N B' w := by
  obtain ⟨bv, bt, gv, c, ops, lim, dk, V, T, L, h⟩ := h
  exact ⟨bv, bt, gv, c, ops, lim, dk, V, T, L, h.big hB hs⟩
theorem JtE.calm (h : JtE X w0 pb yb N B w) {w' : World} (hF : Fr (fun _ => False) w w') : JtE X w0 pb yb N B w' := by
  obtain ⟨bv, bt, gv, c, ops, lim, dk, V, T, L, h⟩ := h
  exact ⟨bv, bt, gv, c, ops, lim, dk, V, T, L, h.calm hF⟩
theorem JtE.fr (h : JtE X w0 pb yb N B w) : Fr (fun _ => False) w0 w := by
  obtain ⟨bv, bt, gv, c, ops, lim, dk, V, T, L, h⟩ := h
  exact h.fr
/-- The lent block is written. -/
theorem JtE.lent {g : Nat} (h : JtE (fun i => i = g) w0 pb yb N B w) (hg : w0.heap.size ≤ g) (ht : Ty w 5 g) {w' : World} (hF : Fr (fun i => i = g) w w') : JtE (fun i => i = g) w0 pb yb N B w' := by
  obtain ⟨bv, bt, gv, c, ops, lim, dk, V, T, L, h⟩ := h
  obtain ⟨n1, n2, n3⟩ := good_apart h.good ht tyD.1
  refine ⟨bv, bt, gv, c, ops, lim, dk, V, T, L, h.good.kept hF (fun e => n1 e.symm) (fun e => n2 e.symm) (fun e => n3 e.symm), ?_, h.tie, h.gp, h.gm, h.gt, Fr.go h.fr hF (fun i e => by omega), h.small⟩
  exact h.rd.kept hF (fun e => ht.ne h.rd.tyY tyU.1 e.symm) (fun e => ht.ne h.rd.tyG tyU.2.1 e.symm) (fun i e hn => absurd e hn) (fun i e ht2 => ht2.ne ht (by decide) e)
theorem JtE.give {Y : Nat → Prop} (h : JtE Y w0 pb yb N B w) : JtE (fun _ => False) w0 pb yb N B w := by
  obtain ⟨bv, bt, gv, c, ops, lim, dk, V, T, L, h⟩ := h
  exact ⟨bv, bt, gv, c, ops, lim, dk, V, T, L, h.to (fun _ _ _ e => e)⟩
/-- Both disks, new. -/
theorem start_new {w1 w2 : World} {N : Nat} {e1 e2 : Ending} (h1 : NewGood w0 N e1 w1) (h2 : NewR w1 N e2 w2) : ∃ pb yb, e1 = .returned (.tuple #[.pointer (some ⟨pb, 0, none⟩), .int .i64 0]) ∧ e2 = .returned (.tuple #[.pointer (some ⟨yb, 0, none⟩), .int .i64 0]) ∧ JtE (fun _ => False) w0 pb yb N 5000 w2 := by
  obtain ⟨pb, bv, bt, rfl, hg, g1, g2, g3, hF1⟩ := h1
  obtain ⟨yb, gv, rfl, hr, hF2⟩ := h2
  exact ⟨pb, yb, rfl, rfl, bv, bt, gv, 0, 0, -1, false, _, _, _, (hg.calm hF2).big (by omega) (by omega), RD.base_le hr hF1.size, Tie.new N, g1, g2, g3, hF1.trans hF2 (fun _ _ e => e), by omega⟩
/-- Both disks, of an image. -/
theorem start_load {wa w1 w2 : World} {N : Nat} {l : List UInt8} {e1 e2 : Ending} (h0 : Fr (fun _ => False) w0 wa) (hN : N ≤ 4096) (h1 : dl.LoadGood wa N l e1 w1) (h2 : LoadR w1 N l e2 w2) : ∃ pb yb, e1 = .returned (.tuple #[.pointer (some ⟨pb, 0, none⟩), .int .i64 0]) ∧ e2 = .returned (.tuple #[.pointer (some ⟨yb, 0, none⟩), .int .i64 0]) ∧ JtE (fun _ => False) w0 pb yb N 5000 w2 := by
  obtain ⟨pb, bv, bt, rfl, hg, g1, g2, g3, hF1⟩ := h1
  obtain ⟨yb, gv, rfl, hr, hF2⟩ := h2
  have hs := h0.size
  exact ⟨pb, yb, rfl, rfl, bv, bt, gv, 0, 0, -1, false, _, _, _, (hg.calm hF2).big (by omega) (by omega), RD.base_le hr (Nat.le_trans hs hF1.size), Tie.load N l, by omega, by omega, by omega, (h0.trans hF1 (fun _ _ e => e)).trans hF2 (fun _ _ e => e), by omega⟩
end
end Go.Proofs.Ytbmbibepcnpngaa.play
