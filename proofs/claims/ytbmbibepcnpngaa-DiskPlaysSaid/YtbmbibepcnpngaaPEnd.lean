/-
  The clone's turn, the questions behind each round, and the images at the end.
-/
import Derived.Test.YtbmbibepcnpngaaPOps
namespace Go.Proofs.Ytbmbibepcnpngaa.play
open Go.RowKit Go.Maps rf

section
variable {w0 : World} {pb bv bt yb gv N B c : Nat} {ops lim : Int} {dk : Bool} {V : Int → Int → List UInt8} {T : Int → Int} {L : Nat → List (List UInt8)} {w : World}

/-- The old disk goes on; the clone and the document's stay. -/
theorem old_on {qb qv qt : Nat} {gq cq B' : Nat} {opsq limq : Int} {dkq : Bool} {Vq : Int → Int → List UInt8} {Tq : Int → Int} {Lq : Nat → List (List UInt8)} (hg : Good w pb bv bt N B' c ops lim dk V T) (hq : Jt (fun _ => False) w0 qb qv qt yb gq N B cq opsq limq dkq Vq Tq Lq w)
    (hap : ∀ i, Own3 pb bv bt i → i ≠ qb ∧ i ≠ qv ∧ i ≠ qt) (hlo : ∀ i, Own3 pb bv bt i → w0.heap.size ≤ i) {S : Nat → Prop} {w' : World} (hF : Fr S w w') (hS : ∀ i, S i → Own3 pb bv bt i) : Jt (fun _ => False) w0 qb qv qt yb gq N B cq opsq limq dkq Vq Tq Lq w' :=
  ⟨hq.good.kept hF (fun e => (hap _ (hS _ e)).1 rfl) (fun e => (hap _ (hS _ e)).2.1 rfl) (fun e => (hap _ (hS _ e)).2.2 rfl), rd_behind hq.rd hg hF hS, hq.tie, hq.gp, hq.gm, hq.gt, Fr.go hq.fr hF (fun i e => hlo i (hS i e)), hq.small⟩

/-- Behind the clone: the old disk's write and sync leave the rest. -/
def ClHalf (w0 : World) (pb yb N B : Nat) (e : Ending) (w' : World) : Prop :=
  ∃ qb, e = .returned (.pointer (some ⟨qb, 0, none⟩)) ∧ ∀ w2, Fr (fun _ => False) w' w2 → ∀ g cap, w'.heap.size ≤ g → OneB w2 g 253 →
    Calls Try.prog 16 #[.pointer (some ⟨pb, 0, none⟩), .int .i64 0, .slice (some ⟨g, 0, none⟩) 256 cap] w2 fun e w3 => (∃ z, e = .returned (.int .i64 z)) ∧ ∀ w4, Fr (fun _ => False) w3 w4 →
      Calls Try.prog 18 #[.pointer (some ⟨pb, 0, none⟩)] w4 fun e w5 => (∃ z, e = .returned (.int .i64 z)) ∧ JtE (fun _ => False) w0 qb yb N B w5

theorem old_sync {qb qv qt : Nat} {gq cq B' : Nat} {opsq limq : Int} {dkq : Bool} {Vq : Int → Int → List UInt8} {Tq : Int → Int} {Lq : Nat → List (List UInt8)} (hg : Good w pb bv bt N B' c ops lim dk V T) (hB' : B' ≤ 1000000) (hq : Jt (fun _ => False) w0 qb qv qt yb gq N B cq opsq limq dkq Vq Tq Lq w)
    (hap : ∀ i, Own3 pb bv bt i → i ≠ qb ∧ i ≠ qv ∧ i ≠ qt) (hlo : ∀ i, Own3 pb bv bt i → w0.heap.size ≤ i) :
    Calls Try.prog 18 #[.pointer (some ⟨pb, 0, none⟩)] w fun e w5 => (∃ z, e = .returned (.int .i64 z)) ∧ JtE (fun _ => False) w0 qb yb N B w5 := by
  by_cases hl : lim = 0 ∨ dk = true
  · refine (sync_gone hg hl).mono ?_
    rintro e w' ⟨rfl, _, hF'⟩
    exact ⟨⟨_, rfl⟩, _, _, _, _, _, _, _, _, _, _, old_on hg hq hap hlo hF' (fun i e => Or.inl e)⟩
  · have hl0 : lim ≠ 0 := fun e => hl (Or.inl e)
    have hdk : dk = false := by cases dk; rfl; exact absurd (Or.inr rfl) hl
    subst hdk
    refine (sync_good hg hl0 (by omega)).mono ?_
    rintro e w' ⟨rfl, _, _, _, _, _, hF'⟩
    exact ⟨⟨_, rfl⟩, _, _, _, _, _, _, _, _, _, _, old_on hg hq hap hlo hF' (fun i e => by rcases e with e | e; exact Or.inl e; exact Or.inr (Or.inl e))⟩

theorem Jt.clone (h : Jt (fun _ => False) w0 pb bv bt yb gv N B c ops lim dk V T L w) :
    Calls Try.prog 28 #[.pointer (some ⟨pb, 0, none⟩)] w (ClHalf w0 pb yb N B) := by
  have hlt := h.good.lt
  have hgp := h.gp
  have hgm := h.gm
  have hgt := h.gt
  have hws := h.fr.size
  have hn0 := h.good.n0
  have hsm := h.small
  refine (clone_good h.good).mono ?_
  rintro e w' ⟨qb, qv, qt, rfl, hq, b1, b2, b3, hF1⟩
  have h1 := h.calm hF1
  have hJ : Jt (fun _ => False) w0 qb qv qt yb gv N B c ops lim dk V T L w' := ⟨hq, h1.rd, h.tie, by omega, by omega, by omega, h1.fr, hsm⟩
  have hap : ∀ i, Own3 pb bv bt i → i ≠ qb ∧ i ≠ qv ∧ i ≠ qt := fun i e => by rcases e with e | e | e <;> omega
  have hlo : ∀ i, Own3 pb bv bt i → w0.heap.size ≤ i := fun i e => by rcases e with e | e | e <;> omega
  have hs1 := hF1.size
  refine ⟨qb, rfl, fun w2 hF2 g cap hg2 ho => ?_⟩
  have h2 := h1.calm hF2
  have hJ2 := hJ.calm hF2
  by_cases hl : lim = 0 ∨ dk = true
  · refine (write_gone h2.good hl 0 (by omega) (by omega) _ cap).mono ?_
    rintro e w3 ⟨rfl, hg3, hF3⟩
    have hJ3 := old_on h2.good hJ2 hap hlo hF3 (fun i e => Or.inl e)
    exact ⟨⟨_, rfl⟩, fun w4 hF4 => old_sync (hg3.calm hF4) (by omega) (hJ3.calm hF4) hap hlo⟩
  · have hl0 : lim ≠ 0 := fun e => hl (Or.inl e)
    have hdk : dk = false := by cases dk; rfl; exact absurd (Or.inr rfl) hl
    subst hdk
    refine (write_good h2.good hl0 (by omega) 0 (by omega) (by omega) g 0 cap (one 253) (one_length 253) ho.ty.lt (reads_of_block ho) (by omega) (by omega) (by omega)).mono ?_
    rintro e w3 ⟨rfl, hg3, hF3⟩
    have hJ3 := old_on h2.good hJ2 hap hlo hF3 (fun i e => e)
    exact ⟨⟨_, rfl⟩, fun w4 hF4 => old_sync (hg3.calm hF4) (by omega) (hJ3.calm hF4) hap hlo⟩

/-- A call that only looks. -/
def Looks (w : World) (f : FuncId) (args : Array Value) (v : Value) : Prop := ∀ q, Calls Try.prog f args (w.drewN q) fun e w' => e = .returned v ∧ w' = w.drewN q
/-- What is asked behind each round. -/
theorem JtE.asks (h : JtE (fun _ => False) w0 pb yb N B w) : ∃ (c : Nat) (ops : Int) (gv cap : Nat), Looks w 29 #[.pointer (some ⟨pb, 0, none⟩)] (.int .i64 c) ∧ Looks w 30 #[.pointer (some ⟨yb, 0, none⟩)] (.int .i64 c) ∧
    Looks w 31 #[.pointer (some ⟨pb, 0, none⟩)] (.int .i64 ops) ∧ w.cell? ⟨yb, 3, none⟩ = some (.int .i64 ops) ∧ Looks w 32 #[.pointer (some ⟨pb, 0, none⟩)] (.int .i64 N) ∧ w.cell? ⟨yb, 0, none⟩ = some (.slice (some ⟨gv, 0, none⟩) N cap) := by
  obtain ⟨bv, bt, gv, c, ops, lim, dk, V, T, L, h⟩ := h
  obtain ⟨cap, c0⟩ := h.rd.c0
  have hq : ∀ q, Fr (fun _ => False) w (w.drewN q) := fun q => (Fr.refl _ w).drewN q
  refine ⟨c, ops, gv, cap, fun q => (pending_good (h.calm (hq q)).good).mono fun _ _ h => ⟨h.1, h.2.symm⟩, fun q => ?_, fun q => (ops_good (h.calm (hq q)).good).mono fun _ _ h => ⟨h.1, h.2.symm⟩, h.rd.c3, fun q => (sectors_good (h.calm (hq q)).good).mono fun _ _ h => ⟨h.1, h.2.symm⟩, c0⟩
  have := rf.pending_any (h.calm (hq q)).rd h.good.n1
  rw [← h.tie.cnt] at this
  exact this.mono fun _ _ h => ⟨h.1, h.2.symm⟩

/-- Behind an image of the disk's: the document's is the same. -/
def ImHalf (yb : Nat) (f : FuncId) (w : World) (e : Ending) (w' : World) : Prop :=
  ∃ A cap l, e = .returned (.slice A l.length cap) ∧ l.length ≤ 140737488351232 ∧ Rd w' w'.heap.size A l ∧ Fr (fun _ => False) w w' ∧ ∀ w2, Fr (fun _ => False) w' w2 →
    Calls Try.prog f #[.pointer (some ⟨yb, 0, none⟩)] w2 fun e w3 => ∃ A cap, e = .returned (.slice A l.length cap) ∧ Rd w3 w3.heap.size A l ∧ Fr (fun _ => False) w2 w3

theorem Jt.image (h : Jt (fun _ => False) w0 pb bv bt yb gv N B c ops lim dk V T L w) :
    Calls Try.prog 33 #[.pointer (some ⟨pb, 0, none⟩)] w (ImHalf yb 34 w) := by
  have hN := h.good.n1
  have hsame : gath (fun k => V k (T k)) N = gathL (fun j => lastOf (L j)) N := gath_same fun k hk => (h.tie.last h.hT0 hk).symm
  have hlen := gathL_length (fun j => lastOf (L j)) N (fun k hk => h.rd.len hk)
  refine (image_good h.good).mono ?_
  rintro e w' ⟨g, cap, rfl, hg, hg2, hr, hF⟩
  rw [hsame] at hr ⊢
  refine ⟨_, cap, _, rfl, by omega, fun _ => ⟨g, 0, rfl, hg2, hr⟩, hF, fun w2 hF2 => ?_⟩
  have h2 := (h.calm hF).calm hF2
  refine (rf.image_any h2.rd hN h.hL).mono ?_
  rintro e w3 ⟨A, cap3, rfl, ho, hF3⟩
  exact ⟨A, cap3, rfl, ho.rd, hF3⟩
theorem Jt.sure (h : Jt (fun _ => False) w0 pb bv bt yb gv N B c ops lim dk V T L w) :
    Calls Try.prog 35 #[.pointer (some ⟨pb, 0, none⟩)] w (ImHalf yb 36 w) := by
  have hN := h.good.n1
  have hsame : gath (fun k => V k 0) N = gathL (fun j => firstOf (L j)) N := gath_same fun k hk => (h.tie.first h.hT0 hk).symm
  have hlen := gathL_length (fun j => firstOf (L j)) N (fun k hk => h.rd.len0 hk)
  refine (sure_good h.good).mono ?_
  rintro e w' ⟨g, cap, rfl, hg, hg2, hr, hF⟩
  rw [hsame] at hr ⊢
  refine ⟨_, cap, _, rfl, by omega, fun _ => ⟨g, 0, rfl, hg2, hr⟩, hF, fun w2 hF2 => ?_⟩
  have h2 := (h.calm hF).calm hF2
  refine (rf.sure_any h2.rd hN h.hL).mono ?_
  rintro e w3 ⟨A, cap3, rfl, ho, hF3⟩
  exact ⟨A, cap3, rfl, ho.rd, hF3⟩
end
end Go.Proofs.Ytbmbibepcnpngaa.play
