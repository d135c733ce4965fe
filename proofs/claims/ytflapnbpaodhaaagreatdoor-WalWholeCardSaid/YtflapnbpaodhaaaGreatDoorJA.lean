/-
  Texts that belong together, joined: Mem By Take Arr Map Val Look Small.
-/
import Derived.WalkKit
import Derived.Maps.OwnSet
import Derived.Maps.RangeWalk
import Derived.Laws.Rows
import Derived.OneCell
import Derived.Lib.Hide
import Derived.Deep.Quiet
import Derived.Test.YtflapnbpaodhaaaGreatDoorProg
import Derived.Laws.CopyOwn
import Derived.Laws.MakeOwn
import Derived.Laws.OwnMore
import Derived.Laws.BitsLemmas
import Derived.Laws.AppendOwnNone
import Derived.Deep.LoopGhost
import Derived.Deep.QuietTactic
import Derived.BigQuiet
import Derived.Deep.Slices
import Derived.ChangeArms
import Derived.ChangeSlices
import Derived.OpenShut
import Derived.SizedLaws
import Derived.KernelRfl
import Derived.DeepKeys4
import Derived.StillTailTactics
import Derived.Outline

/-
  Memory: what has turned between two worlds, but for some blocks.
-/







namespace Go.Proofs.YtflapnbpaodhaaaGreatDoor
set_option maxRecDepth 100000
open Go.RowKit Go.Maps

/-- From w to w' nothing that was there has turned but for the blocks in S. -/
structure Fr (S : Nat → Prop) (w w' : World) : Prop where
  os : w'.os = w.os
  tape : w'.tape = w.tape
  output : w'.output = w.output
  size : w.heap.size ≤ w'.heap.size
  block : ∀ i, i < w.heap.size → ¬ S i → w'.heap[i]? = w.heap[i]?

theorem Fr.refl (S : Nat → Prop) (w : World) : Fr S w w := ⟨rfl, rfl, rfl, Nat.le_refl _, fun _ _ _ => rfl⟩

theorem Fr.trans {S S' : Nat → Prop} {a b c : World} (h : Fr S a b) (k : Fr S' b c) (hS : ∀ i, i < a.heap.size → S' i → S i) : Fr S a c :=
  ⟨k.os.trans h.os, k.tape.trans h.tape, k.output.trans h.output, Nat.le_trans h.size k.size, fun i hi hn =>
    (k.block i (Nat.lt_of_lt_of_le hi h.size) (fun e => hn (hS i hi e))).trans (h.block i hi hn)⟩

theorem Fr.mono {S S' : Nat → Prop} {a b : World} (h : Fr S' a b) (hS : ∀ i, i < a.heap.size → S' i → S i) : Fr S a b :=
  ⟨h.os, h.tape, h.output, h.size, fun i hi hn => h.block i hi (fun e => hn (hS i hi e))⟩

theorem Fr.alloc {S : Nat → Prop} {a w : World} (h : Fr S a w) (o : Obj) : Fr S a (w.alloc o) :=
  h.trans (S' := fun _ => False) ⟨rfl, rfl, rfl, by simp, fun k hk _ => Below.heap_alloc _ _ _ hk⟩ (fun _ _ e => e.elim)

theorem Fr.drew {S : Nat → Prop} {a w : World} (h : Fr S a w) : Fr S a w.drew := ⟨h.os, h.tape, h.output, h.size, h.block⟩

theorem Fr.drewN {S : Nat → Prop} {a w : World} (h : Fr S a w) (n : Nat) : Fr S a (w.drewN n) := ⟨h.os, h.tape, h.output, h.size, h.block⟩

theorem Fr.setCell {S : Nat → Prop} {a w : World} (h : Fr S a w) {p : Addr} (hp : S p.block ∨ a.heap.size ≤ p.block) (u : Value) : Fr S a (w.setCell p u) :=
  ⟨h.os, h.tape, h.output, by simpa [World.setCell] using h.size, fun i hi hn => by
    have hne : i ≠ p.block := by
      intro e
      rcases hp with hp | hp
      · exact hn (e ▸ hp)
      · omega
    exact (Below.heap_setCell _ _ _ _ hne).trans (h.block i hi hn)⟩

theorem Fr.grown {S : Nat → Prop} {a w w' : World} {row : Option Nat} (h : Fr S a w) (hg : w.grownBy w' row) (hr : ∀ k, row = some k → S k ∨ a.heap.size ≤ k) : Fr S a w' :=
  ⟨hg.os.trans h.os, hg.tape.trans h.tape, hg.output.trans h.output, Nat.le_trans h.size hg.size, fun i hi hn =>
    (hg.block i (Nat.lt_of_lt_of_le hi h.size) (fun e => by
      rcases hr i e.symm with h1 | h1
      · exact hn h1
      · omega)).trans (h.block i hi hn)⟩

theorem Fr.ofBelow {S : Nat → Prop} {w w' : World} {B : Nat} (h : Below B w w') (hB : ∀ i, i < w.heap.size → ¬ S i → i < B) : Fr S w w' :=
  ⟨h.os, h.tape, h.output, h.size, fun i hi hn => h.block i (hB i hi hn)⟩

theorem Fr.below {S : Nat → Prop} {w w' : World} (h : Fr S w w') {B : Nat} (hB : B ≤ w.heap.size) (hS : ∀ i, i < B → ¬ S i) : Below B w w' :=
  ⟨h.os, h.tape, h.output, h.size, fun i hi => h.block i (Nat.lt_of_lt_of_le hi hB) (hS i hi)⟩

theorem Fr.ofTurned {S : Nat → Prop} {a w w' : World} {b : Nat} (h : Fr S a w) (ht : w.mapTurned w' b) (hb : S b ∨ a.heap.size ≤ b) : Fr S a w' :=
  h.grown ht.grown (fun k e => by cases e; exact hb)

theorem Fr.ownsMap {S : Nat → Prop} {H : Type} {P : Program} {k : TypeId} {R : Value → Option (DataW H × List MemPlace)} {w w' : World} {b n : Nat} {D : DataW H} (h : Fr S w w') (hm : w.ownsMap P k R b n D) (hb : ¬ S b) : w'.ownsMap P k R b n D := by
  have hlt := hm.lt
  obtain ⟨es, clock, h1, F, hs, hD⟩ := hm
  exact ⟨es, clock, (h.block b hlt hb).trans h1, F, hs, hD⟩

/-- A block of cells that may be written, and what its cells hold. -/
theorem cellAt {w : World} {b : Nat} {cs : Array Value} {t : TypeId} (h : w.heap[b]? = some (.cells cs t (0, 0))) (j : Nat) : w.cell? ⟨b, j, none⟩ = cs[j]? := by simp [World.cell?, h]
theorem freeAt {w : World} {b : Nat} {cs : Array Value} {t : TypeId} (h : w.heap[b]? = some (.cells cs t (0, 0))) (j : Nat) : w.frozen? ⟨b, j, none⟩ = false := by simp [World.frozen?, h]

theorem heap_alloc_keep {w : World} {b : Nat} {o o' : Obj} (h : w.heap[b]? = some o) : (w.alloc o').heap[b]? = some o := by
  have hlt : b < w.heap.size := (Array.getElem?_eq_some_iff.1 h).1
  rw [Below.heap_alloc _ _ _ hlt]
  exact h

end Go.Proofs.YtflapnbpaodhaaaGreatDoor

/-
  Slices of bytes: what is read out of them, the helpers Bytes, SameBytes, Among.
-/














namespace Go.Proofs.YtflapnbpaodhaaaGreatDoor
set_option maxRecDepth 100000
open Go.RowKit Go.Maps Go.ChangeShapes Go.WideShapes Go.Deep

/-- Nothing has turned but the draws. -/
def Calm (w w' : World) : Prop := ∃ n, w' = w.drewN n
theorem Calm.refl (w : World) : Calm w w := ⟨0, rfl⟩
theorem Calm.trans {a b c : World} (h : Calm a b) (k : Calm b c) : Calm a c := by
  obtain ⟨n, rfl⟩ := h
  obtain ⟨m, rfl⟩ := k
  exact ⟨n + m, by simp [World.drewN, Nat.add_assoc]⟩
theorem Calm.fr {a b : World} (h : Calm a b) : Fr (fun _ => False) a b := by
  obtain ⟨n, rfl⟩ := h
  exact (Fr.refl _ a).drewN n
theorem Calm.cell {a b : World} (h : Calm a b) (x : Addr) : b.cell? x = a.cell? x := by
  obtain ⟨n, rfl⟩ := h
  rfl
theorem Calm.size {a b : World} (h : Calm a b) : b.heap.size = a.heap.size := by
  obtain ⟨n, rfl⟩ := h
  rfl

theorem cellsU : Tryz.prog.cellsOf 5 = 1 := by kernel_rfl
theorem laidOut : laidOutB Tryz.prog = true := by kernel_rfl
theorem bytesU : Tryz.prog.bytesOf 5 = 1 := by kernel_rfl
theorem infoB : (Tryz.prog.info? 5).map (fun i => (i.zero, i.size, i.bytes)) = some (some (.int .u8 0), 1, 1) := by kernel_rfl

/-- Bytes as cells. -/
def bs (l : List UInt8) : List Value := l.map fun b => .int .u8 (b.toNat : Int)
theorem bs_length (l : List UInt8) : (bs l).length = l.length := by unfold bs; rw [List.length_map]
theorem bs_append (a b : List UInt8) : bs (a ++ b) = bs a ++ bs b := by unfold bs; rw [List.map_append]
theorem bs_get (l : List UInt8) (j : Nat) : (bs l)[j]? = l[j]?.map fun b => .int .u8 (b.toNat : Int) := by unfold bs; rw [List.getElem?_map]
theorem bs_one (l : List UInt8) : ∀ u ∈ bs l, u.oneCell' = true := by
  unfold bs
  intro u hu
  obtain ⟨b, _, rfl⟩ := List.mem_map.1 hu
  rfl
theorem bs_set (l : List UInt8) (k : Nat) (c : UInt8) : (bs l).set k (.int .u8 (c.toNat : Int)) = bs (l.set k c) := by unfold bs; rw [List.map_set]

theorem bits_xor8 (a b : UInt8) : bits .xor .u8 (a.toNat : Int) (b.toNat : Int) = ((a ^^^ b).toNat : Int) := by
  have ha := a.toNat_lt
  have hb := b.toNat_lt
  have h1 : (BitVec.ofInt 8 (a.toNat : Int)).toNat = a.toNat := by rw [BitVec.ofInt_natCast, BitVec.toNat_ofNat]; exact Nat.mod_eq_of_lt (by omega)
  have h2 : (BitVec.ofInt 8 (b.toNat : Int)).toNat = b.toNat := by rw [BitVec.ofInt_natCast, BitVec.toNat_ofNat]; exact Nat.mod_eq_of_lt (by omega)
  show IntKind.u8.wrap ((BitVec.ofInt 8 (a.toNat : Int) ^^^ BitVec.ofInt 8 (b.toNat : Int)).toNat : Int) = _
  rw [BitVec.toNat_xor, h1, h2, UInt8.toNat_xor, IntKind.wrap_u8]
  have : a.toNat ^^^ b.toNat < 2 ^ 8 := Nat.xor_lt_two_pow (by omega) (by omega)
  omega
/-- A slice at A reads as these bytes; it lies below block B. -/
def Rd (w : World) (B : Nat) (A : Option Addr) (l : List UInt8) : Prop :=
  l ≠ [] → ∃ blk off, A = some ⟨blk, off, none⟩ ∧ blk < B ∧ ∀ j x, l[j]? = some x → w.cell? ⟨blk, off + j, none⟩ = some (.int .u8 (x.toNat : Int))

theorem Rd.nil (w : World) (B : Nat) (A : Option Addr) : Rd w B A [] := fun h => absurd rfl h
theorem Rd.kept {w w' : World} {B : Nat} {A : Option Addr} {l : List UInt8} (h : Rd w B A l) {S : Nat → Prop} (hF : Fr S w w') (hB : B ≤ w.heap.size) (hS : ∀ i, i < B → ¬ S i) : Rd w' B A l := fun hne => by
  obtain ⟨blk, off, hp, hb, hc⟩ := h hne
  exact ⟨blk, off, hp, hb, fun j x hj => (World.cell?_of_block (w := w) (w' := w') (hF.block blk (by omega) (hS blk hb))).trans (hc j x hj)⟩
theorem Rd.calm {w w' : World} {B : Nat} {A : Option Addr} {l : List UInt8} (h : Rd w B A l) (hC : Calm w w') : Rd w' B A l := fun hne => by
  obtain ⟨blk, off, hp, hb, hc⟩ := h hne
  exact ⟨blk, off, hp, hb, fun j x hj => (hC.cell _).trans (hc j x hj)⟩
theorem Rd.still {w w' : World} {B : Nat} {A : Option Addr} {l : List UInt8} (h : Rd w B A l) (hF : Fr (fun _ => False) w w') (hB : B ≤ w.heap.size) : Rd w' B A l := h.kept hF hB (fun _ _ e => e)
theorem Rd.more {w : World} {B B' : Nat} {A : Option Addr} {l : List UInt8} (h : Rd w B A l) (hB : B ≤ B') : Rd w B' A l := fun hne => by
  obtain ⟨blk, off, hp, hb, hc⟩ := h hne
  exact ⟨blk, off, hp, by omega, hc⟩
theorem Rd.at_ {w : World} {B : Nat} {A : Option Addr} {l : List UInt8} (h : Rd w B A l) {k : Nat} (hk : k < l.length) :
    ∃ blk off, A = some ⟨blk, off, none⟩ ∧ blk < B ∧ w.cell? ⟨blk, off + k, none⟩ = some (.int .u8 (l[k].toNat : Int)) := by
  obtain ⟨blk, off, hp, hb, hc⟩ := h (by intro e; subst e; simp at hk)
  exact ⟨blk, off, hp, hb, hc k _ (List.getElem?_eq_getElem hk)⟩
theorem Rd.take {w : World} {B : Nat} {A : Option Addr} {l : List UInt8} (h : Rd w B A l) (k : Nat) : Rd w B A (l.take k) := fun hne => by
  obtain ⟨blk, off, hp, hb, hc⟩ := h (by intro e; subst e; exact hne (by simp))
  refine ⟨blk, off, hp, hb, fun j x hj => hc j x ?_⟩
  rw [List.getElem?_take] at hj
  split at hj
  · exact hj
  · cases hj
theorem add_plain (b o j : Nat) : (⟨b, o, none⟩ : Addr).add j = ⟨b, o + j, none⟩ := by unfold Addr.add; split <;> simp_all
theorem Rd.drop {w : World} {B : Nat} {A : Option Addr} {l : List UInt8} (h : Rd w B A l) {k cap : Nat} (hc : l.length ≤ cap) : Rd w B (if cap = k then A else A.map (·.add k)) (l.drop k) := fun hne => by
  have hk : k < l.length := by
    apply Decidable.byContradiction
    intro hn
    exact hne (List.drop_eq_nil_of_le (by omega))
  obtain ⟨blk, off, rfl, hb, hcell⟩ := h (by intro e; subst e; simp at hk)
  rw [if_neg (by omega)]
  refine ⟨blk, off + k, by simp [add_plain], hb, fun j x hj => ?_⟩
  rw [List.getElem?_drop] at hj
  have := hcell (k + j) x hj
  rwa [← Nat.add_assoc] at this
theorem add_zero (a : Addr) : a.add 0 = a := if_pos rfl
set_option maxRecDepth 100000 in
/-- b[:k], b[k:]. -/
theorem cut_low (w : World) (A : Option Addr) (n c k : Nat) (hk : k ≤ c) :
    (Instr.slice 33 (.slice A n c) none (some (.int .i64 (k : Int))) none).run Tryz.prog w = .ok (.slice A k c) w := by
  rw [run_slice_h w 33 A n c Tryz.underlying33 .i64 k (by omega) (by omega)]
  have hs : (sizeOf (Tryz.prog.elem 33)).run Tryz.prog w = .ok 1 w := by kernel_rfl
  rw [hs]
  simp only [Result.andThen, sliced, Int.toNat_natCast, Nat.zero_mul, Nat.sub_zero]
  have : A.map (·.add 0) = A := by cases A <;> simp [add_zero]
  rw [this, ite_self]
set_option maxRecDepth 100000 in
theorem cut_high (w : World) (B : Nat) (A : Option Addr) (l : List UInt8) (n c k : Nat) (hr : Rd w B A l) (hn : l.length = n) (hc : n ≤ c) (hk : k ≤ n) :
    ∃ A', (Instr.slice 33 (.slice A n c) (some (.int .i64 (k : Int))) none none).run Tryz.prog w = .ok (.slice A' (n - k) (c - k)) w ∧ Rd w B A' (l.drop k) := by
  refine ⟨if c = k then A else A.map (·.add k), ?_, hr.drop (by omega)⟩
  rw [run_slice_l w 33 A n c Tryz.underlying33 .i64 k (by omega) (by omega)]
  have hs : (sizeOf (Tryz.prog.elem 33)).run Tryz.prog w = .ok 1 w := by kernel_rfl
  rw [hs]
  simp only [Result.andThen, sliced, Int.toNat_natCast, Nat.mul_one]
theorem Rd.src {w : World} {B : Nat} {ad : Addr} {l : List UInt8} (h : Rd w B (some ad) l) : ∀ j u, (bs l)[j]? = some u → w.cell? (ad.add j) = some u := by
  intro j u hu
  rw [bs_get] at hu
  obtain ⟨b, hb, rfl⟩ := Option.map_eq_some_iff.1 hu
  obtain ⟨blk, off, hp, _, hc⟩ := h (by intro e; subst e; simp at hb)
  cases hp
  rw [add_plain]
  exact hc j b hb

/-- A slice at A reads as these numbers. -/
def RdI (w : World) (B : Nat) (A : Option Addr) (l : List Int) : Prop :=
  (l ≠ [] → ∃ blk off, A = some ⟨blk, off, none⟩ ∧ blk < B ∧ ∀ j x, l[j]? = some x → w.cell? ⟨blk, off + j, none⟩ = some (.int .i64 x)) ∧ ∀ x ∈ l, -9223372036854775808 ≤ x ∧ x ≤ 9223372036854775807
theorem RdI.nil (w : World) (B : Nat) (A : Option Addr) : RdI w B A [] := ⟨fun h => absurd rfl h, by simp⟩
theorem RdI.kept {w w' : World} {B : Nat} {A : Option Addr} {l : List Int} (h : RdI w B A l) {S : Nat → Prop} (hF : Fr S w w') (hB : B ≤ w.heap.size) (hS : ∀ i, i < B → ¬ S i) : RdI w' B A l := ⟨fun hne => by
  obtain ⟨blk, off, hp, hb, hc⟩ := h.1 hne
  exact ⟨blk, off, hp, hb, fun j x hj => (World.cell?_of_block (w := w) (w' := w') (hF.block blk (by omega) (hS blk hb))).trans (hc j x hj)⟩, h.2⟩
theorem RdI.still {w w' : World} {B : Nat} {A : Option Addr} {l : List Int} (h : RdI w B A l) (hF : Fr (fun _ => False) w w') (hB : B ≤ w.heap.size) : RdI w' B A l := h.kept hF hB (fun _ _ e => e)
theorem RdI.calm {w w' : World} {B : Nat} {A : Option Addr} {l : List Int} (h : RdI w B A l) (hC : Calm w w') : RdI w' B A l := ⟨fun hne => by
  obtain ⟨blk, off, hp, hb, hc⟩ := h.1 hne
  exact ⟨blk, off, hp, hb, fun j x hj => (hC.cell _).trans (hc j x hj)⟩, h.2⟩
theorem RdI.at_ {w : World} {B : Nat} {A : Option Addr} {l : List Int} (h : RdI w B A l) {k : Nat} (hk : k < l.length) :
    ∃ blk off, A = some ⟨blk, off, none⟩ ∧ blk < B ∧ w.cell? ⟨blk, off + k, none⟩ = some (.int .i64 l[k]) ∧ -9223372036854775808 ≤ l[k] ∧ l[k] ≤ 9223372036854775807 := by
  obtain ⟨blk, off, hp, hb, hc⟩ := h.1 (by intro e; subst e; simp at hk)
  exact ⟨blk, off, hp, hb, hc k _ (List.getElem?_eq_getElem hk), h.2 _ (List.getElem_mem hk)⟩

/-- A slice of the call's own that holds these bytes. -/
def Own (w : World) (base : Nat) (v : Value) (l : List UInt8) : Prop := w.ownsRow base 5 1 v l.length (bs l)
theorem Own.kept {w w' : World} {base : Nat} {v : Value} {l : List UInt8} (h : Own w base v l) (hF : Fr (fun _ => False) w w') : Own w' base v l := by
  obtain ⟨h1, h2⟩ := h
  refine ⟨h1, ?_⟩
  rcases h2 with h2 | ⟨g, cap, cur, hv, hg, hh, r⟩
  · exact Or.inl h2
  · exact Or.inr ⟨g, cap, cur, hv, hg, (hF.block g (Array.getElem?_eq_some_iff.1 hh).1 id).trans hh, r⟩
theorem Own.rd {w : World} {base cap : Nat} {A : Option Addr} {l : List UInt8} (h : Own w base (.slice A l.length cap) l) : Rd w w.heap.size A l := fun hne => by
  obtain ⟨_, h2⟩ := h
  rcases h2 with ⟨_, h0⟩ | ⟨g, cap', cur, hv, hg, hh, _, _, _, ht⟩
  · exact absurd (List.eq_nil_of_length_eq_zero h0) hne
  · cases hv
    refine ⟨g, 0, rfl, (Array.getElem?_eq_some_iff.1 hh).1, fun j x hj => ?_⟩
    rw [cellAt hh, Nat.zero_add, ← Array.getElem?_toList]
    have h1 : (cur.toList.take (l.length * 1))[j]? = some (.int .u8 (x.toNat : Int)) := by rw [ht, bs_get, hj]; rfl
    rw [List.getElem?_take] at h1
    split at h1
    · exact h1
    · cases h1
/-- Where an own slice lies, if it holds a byte. -/
theorem Own.at_ {w : World} {base cap : Nat} {A : Option Addr} {l : List UInt8} (h : Own w base (.slice A l.length cap) l) {k : Nat} (hk : k < l.length) :
    ∃ g, A = some ⟨g, 0, none⟩ ∧ base ≤ g ∧ g < w.heap.size ∧ w.cell? ⟨g, k, none⟩ = some (.int .u8 (l[k].toNat : Int)) ∧ w.frozen? ⟨g, k, none⟩ = false ∧
      ∀ c : UInt8, Own (w.setCell ⟨g, k, none⟩ (.int .u8 (c.toNat : Int))) base (.slice A (l.set k c).length cap) (l.set k c) := by
  obtain ⟨h1, h2⟩ := id h
  rcases h2 with ⟨_, h0⟩ | ⟨g, cap', cur, hv, hg, hh, hn, hm, hs, ht⟩
  · omega
  · cases hv
    have hcell := (h.rd.at_ hk)
    obtain ⟨blk, off, e, _, hc⟩ := hcell
    cases e
    rw [Nat.zero_add] at hc
    refine ⟨g, rfl, hg, (Array.getElem?_eq_some_iff.1 hh).1, hc, freeAt hh k, fun c => ⟨by rw [bs_length]; omega, Or.inr ⟨g, cap, cur.setIfInBounds k (.int .u8 (c.toNat : Int)), rfl, hg, ?_, ?_, hm, ?_, ?_⟩⟩⟩
    · exact heap_setCell_same _ _ _ _ _ _ hh
    · rw [List.length_set]; exact hn
    · rw [Array.size_setIfInBounds]; exact hs
    · rw [Array.toList_setIfInBounds, List.length_set, List.take_set, ht, bs_set]

/-- A slice of noughts that make lays. -/
def zb (n : Nat) : Array Value := (bs (List.replicate n 0)).toArray
theorem run_make_bytes (n : Nat) (h : n ≤ 140737488351232) (w : World) :
    (Instr.makeSlice 33 (.int .i64 (n : Int)) (.int .i64 (n : Int))).run Tryz.prog w = .ok (.slice (some ⟨w.heap.size, 0, none⟩) n n) (w.alloc (.cells (zb n) 5)) := by
  obtain ⟨i0, hi, hz0, hz1, hz2⟩ := info_parts infoB
  have hr := run_make (P := Tryz.prog) w 33 5 i0 (.int .u8 0) Tryz.underlying33 hi hz0 .i64 .i64 n n (by omega) (by omega) (by rw [hz2]; omega) (by omega)
  rw [hr, Int.toNat_natCast, hz1, Nat.mul_one]
  have : madeCells (Value.int .u8 0).cells n = zb n := by
    apply Array.toList_inj.1
    unfold zb bs
    rw [List.map_replicate]
    exact toList_madeCells_one _ _
  rw [this]
theorem own_made (w : World) (l : List UInt8) (h : l.length ≤ maxLen) : Own (w.alloc (.cells (bs l).toArray 5)) w.heap.size (.slice (some ⟨w.heap.size, 0, none⟩) l.length l.length) l :=
  ⟨by rw [bs_length, Nat.mul_one], Or.inr ⟨w.heap.size, l.length, (bs l).toArray, rfl, Nat.le_refl _, heap_alloc_new _ _, Nat.le_refl _, h, by simp [bs_length], by rw [Nat.mul_one]; exact List.take_of_length_le (by simp [bs_length])⟩⟩
theorem own_zb (w : World) (n : Nat) (h : n ≤ 140737488351232) : Own (w.alloc (.cells (zb n) 5)) w.heap.size (.slice (some ⟨w.heap.size, 0, none⟩) (List.replicate n (0 : UInt8)).length n) (List.replicate n 0) := by
  have := own_made w (List.replicate n 0) (by rw [List.length_replicate]; unfold maxLen; omega)
  rw [List.length_replicate] at this ⊢
  exact this

/-- A new slice of bytes. -/
def NewB (w : World) (l : List UInt8) (e : Ending) (w' : World) : Prop :=
  ∃ A cap, e = .returned (.slice A l.length cap) ∧ Own w' w.heap.size (.slice A l.length cap) l ∧ Fr (fun _ => False) w w'

theorem NewB.of_own {w w' : World} {l : List UInt8} {v : Value} {n : Nat} {xs : List Value} (hn : n = l.length) (hx : xs = bs l) (hnn : v ≠ .slice none 0 0) (h : w'.ownsRow w.heap.size 5 1 v n xs) (hF : Fr (fun _ => False) w w') : NewB w l (.returned v) w' := by
  subst hn
  subst hx
  obtain ⟨h1, h2⟩ := id h
  rcases h2 with ⟨e, _⟩ | ⟨g, cap, cur, rfl, hg, hh, r⟩
  · exact absurd e hnn
  · exact ⟨_, cap, rfl, h, hF⟩

theorem take_same_succ {l1 l2 : List UInt8} {k : Nat} (h : l1.take k = l2.take k) (h1 : k < l1.length) (h2 : k < l2.length) (e : l1[k] = l2[k]) : l1.take (k + 1) = l2.take (k + 1) := by
  rw [List.take_succ_eq_append_getElem h1, List.take_succ_eq_append_getElem h2, h, e]

set_option maxRecDepth 100000 in
set_option maxHeartbeats 1000000 in
theorem same_core (w : World) (A1 A2 : Option Addr) (B1 B2 c1 c2 : Nat) (l1 l2 : List UInt8) (hr1 : Rd w B1 A1 l1) (hr2 : Rd w B2 A2 l2) (hl : l1.length = l2.length) (hb : l1.length ≤ 140737488351232) :
    Calls Tryz.prog 19 #[.slice A1 l1.length c1, .slice A2 l2.length c2] w fun e w' => e = .returned (.bool (decide (l1 = l2))) ∧ Calm w w' := by
  obtain ⟨n, hn⟩ : ∃ n, n = l1.length := ⟨_, rfl⟩
  rw [← hl, ← hn]
  have hb' : n ≤ 140737488351232 := by omega
  have HR1 := Lib.hid hr1
  have HR2 := Lib.hid hr2
  have HN := Lib.hid hn
  have HL := Lib.hid hl
  clear hr1 hr2 hn hl hb
  go_enter Tryz.func19, Tryz.ntmps19
  go_wp2_with fail
  go_loopw [5] (fun i wr => ∃ k : Nat, k ≤ n ∧ i = .int .i64 k ∧ Hid (l1.take k = l2.take k ∧ Calm w wr)) (fun i _ => n - (intOf i).toNat)
  case atStart => exact ⟨0, Nat.zero_le _, rfl, (show _ ∧ _ from ⟨rfl, Calm.refl _⟩)⟩
  case round =>
    obtain ⟨k, hk, rfl, HC⟩ := hrel
    by_cases hlt : k < n
    · have hk1 : k < l1.length := by have := HN.out; omega
      have hk2 : k < l2.length := by have := HN.out; have := HL.out; omega
      obtain ⟨b1, o1, rfl, _, d1⟩ := (HR1.out.calm HC.out.2).at_ hk1
      obtain ⟨b2, o2, rfl, _, d2⟩ := (HR2.out.calm HC.out.2).at_ hk2
      by_cases he : l1[k] = l2[k]
      · have HE := Lib.hid (take_same_succ HC.out.1 hk1 hk2 he)
        rw [← he] at d2
        have hx := l1[k].toNat_lt
        obtain ⟨x, hxx⟩ : ∃ x : Nat, x = l1[k].toNat := ⟨_, rfl⟩
        rw [← hxx] at d1 d2
        have h0 : (0 : Int) ≤ k := by omega
        have h1 : (k : Int) < n := by omega
        clear he hk1 hk2 hxx hx
        go_wp2_with fail
        go_quiet (fail)
        go_wp2
        go_roundw
        case rel => exact ⟨k + 1, by omega, by go_num, (show _ ∧ _ from ⟨HE.out, HC.out.2.trans ⟨nq, rfl⟩⟩)⟩
        case measure => simp [intOf]; omega
      · have hd : decide (l1 = l2) = false := decide_eq_false (fun e => he (by subst e; rfl))
        have HD := Lib.hid hd
        have hne : ((l1[k].toNat : Int) != (l2[k].toNat : Int)) = true := by
          rw [bne_iff_ne]
          intro e
          exact he (UInt8.toNat_inj.1 (by omega))
        obtain ⟨x, hxx⟩ : ∃ x : Nat, x = l1[k].toNat := ⟨_, rfl⟩
        obtain ⟨y, hyy⟩ : ∃ y : Nat, y = l2[k].toNat := ⟨_, rfl⟩
        rw [← hxx] at d1 hne
        rw [← hyy] at d2 hne
        have h0 : (0 : Int) ≤ k := by omega
        have h1 : (k : Int) < n := by omega
        clear he hk1 hk2 hxx hyy hd
        go_wp2_with fail
        go_quiet (fail)
        go_wp2
        go_ret
        exact ⟨by rw [HD.out]; rfl, HC.out.2.trans ⟨nq, rfl⟩⟩
    · have hkn : k = n := by omega
      subst hkn
      have hd : decide (l1 = l2) = true := decide_eq_true (by
        have h := HC.out.1
        rw [List.take_of_length_le (by have := HN.out; omega), List.take_of_length_le (by have := HN.out; have := HL.out; omega)] at h
        exact h)
      have HD := Lib.hid hd
      clear hd
      go_wp2_with fail
      go_wp2
      go_ret
      exact ⟨by rw [HD.out]; rfl, HC.out.2⟩

set_option maxHeartbeats 400000 in
theorem same_len (w : World) (p1 p2 : Option Addr) (n1 n2 c1 c2 : Nat) (h : n1 ≠ n2) :
    Calls Tryz.prog 19 #[.slice p1 n1 c1, .slice p2 n2 c2] w fun e w' => e = .returned (.bool false) ∧ w = w' := by
  have hne : ((n1 : Int) != (n2 : Int)) = true := by rw [bne_iff_ne]; omega
  clear h
  go_enter Tryz.func19, Tryz.ntmps19
  go_wp2
  go_ret
  exact ⟨rfl, rfl⟩

theorem same_any (w : World) (A1 A2 : Option Addr) (B1 B2 c1 c2 : Nat) (l1 l2 : List UInt8) (hr1 : Rd w B1 A1 l1) (hr2 : Rd w B2 A2 l2) (hb : l1.length ≤ 140737488351232) :
    Calls Tryz.prog 19 #[.slice A1 l1.length c1, .slice A2 l2.length c2] w fun e w' => e = .returned (.bool (decide (l1 = l2))) ∧ Calm w w' := by
  by_cases h : l1.length = l2.length
  · exact same_core w A1 A2 B1 B2 c1 c2 l1 l2 hr1 hr2 h hb
  · refine (same_len w A1 A2 _ _ c1 c2 h).mono ?_
    rintro e w' ⟨rfl, rfl⟩
    exact ⟨by rw [decide_eq_false (fun e => h (by rw [e]))], Calm.refl _⟩

def amongZ (n m : Int) : Int := wrap64 ((IntKind.u64.wrap n).tmod m)
theorem wrap_u64_in (n : Int) : 0 ≤ IntKind.u64.wrap n ∧ IntKind.u64.wrap n < 18446744073709551616 := by
  have h : IntKind.u64.wrap n = n % 18446744073709551616 := by
    unfold IntKind.wrap
    simp only
    have hs : IntKind.u64.signed = false := rfl
    rw [hs]
    rfl
  omega
theorem amongZ_in {n m : Int} (h1 : 1 ≤ m) (h2 : m ≤ 9223372036854775807) : 0 ≤ amongZ n m ∧ amongZ n m < m := by
  unfold amongZ
  have h := wrap_u64_in n
  rw [Int.tmod_eq_emod_of_nonneg h.1]
  have h3 := Int.emod_nonneg (IntKind.u64.wrap n) (show m ≠ 0 by omega)
  have h4 := Int.emod_lt_of_pos (IntKind.u64.wrap n) (show 0 < m by omega)
  rw [IntWalk.wrap64_in _ ⟨by omega, by omega⟩]
  exact ⟨h3, h4⟩

set_option maxHeartbeats 400000 in
theorem among_any (w : World) (n m : Int) (h1 : 1 ≤ m) (h2 : m ≤ 9223372036854775807) :
    Calls Tryz.prog 6 #[.int .i64 n, .int .i64 m] w fun e w' => e = .returned (.int .i64 (amongZ n m)) ∧ w = w' := by
  go_enter Tryz.func6, Tryz.ntmps6
  go_wp2
  go_ret
  exact ⟨rfl, rfl⟩

/-- .. as a place. -/
theorem among_nat (w : World) (n : Int) (m : Nat) (h1 : 1 ≤ m) (h2 : m ≤ 9223372036854775807) :
    Calls Tryz.prog 6 #[.int .i64 n, .int .i64 (m : Int)] w fun e w' => ∃ k : Nat, k < m ∧ e = .returned (.int .i64 (k : Int)) ∧ w = w' := by
  refine (among_any w n m (by omega) (by omega)).mono ?_
  rintro e w' ⟨rfl, rfl⟩
  have h := amongZ_in (n := n) (m := m) (by omega) (by omega)
  exact ⟨(amongZ n m).toNat, by omega, by rw [Int.toNat_of_nonneg h.1], rfl⟩

section
variable {H : Type} {enc : TypeId × Value → H} {w : World} {base : Nat} {spare : Nat → Bool} {held : Bool}

theorem addr_of_cell {w : World} {a : Addr} {v : Value} (h : w.cell? (a.add 0) = some v) : a = ⟨a.block, a.off, none⟩ ∧ a.block < w.heap.size := by
  have h0 : a.add 0 = a := if_pos rfl
  rw [h0] at h
  have hs := World.cell?_spot h
  refine ⟨?_, block_lt_of_cell h⟩
  obtain ⟨b, o, s⟩ := a
  simp only at hs
  rw [hs]
theorem cell_add {w : World} {a : Addr} {j : Nat} {v : Value} (ha : a = ⟨a.block, a.off, none⟩) (h : w.cell? (a.add j) = some v) : w.cell? ⟨a.block, a.off + j, none⟩ = some v := by
  rw [ha, add_plain] at h
  exact h

set_option maxRecDepth 100000 in
/-- A slice of bytes that came in. -/
theorem bytes_open {v : Value} {d : DataW H} {ps : List MemPlace} (hs : ∀ b, spare b = true) (hsz : ∀ el sp, d = .slice el sp → (el.length + sp.length) * Tryz.prog.bytesOf 5 ≤ reachBytes) {base2 : Nat} (hok : Value.okWide Tryz.prog w .any base2 33 v) (h : DataW.Trod enc Tryz.prog w base spare held 33 v d ps) :
    ∃ (A : Option Addr) (cap : Nat) (l : List UInt8), v = .slice A l.length cap ∧ Rd w w.heap.size A l ∧ (A = none → cap = 0) ∧ l.length ≤ cap ∧ l.length ≤ 140737488351232 := by
  obtain ⟨a0, len, cap, rfl⟩ := okWide_slice Tryz.underlying33 hok
  obtain ⟨fuel, hf⟩ := h
  have hf' : DataW.trod enc Tryz.prog w base spare held fuel 33 [.slice a0 len cap] = some (d, ps) := hf
  rcases open_ints Tryz.underlying33 Tryz.underlying5 cellsU hf' with ⟨hc, _⟩ | ⟨ad, ln, cp, zs, hc, _, hl, hm, hz, hx, hcell, hwf⟩
  · simp only [List.cons.injEq, Value.slice.injEq, and_true] at hc
    obtain ⟨rfl, rfl, rfl⟩ := hc
    exact ⟨none, 0, [], rfl, Rd.nil _ _ _, fun _ => rfl, Nat.le_refl _, by simp⟩
  · simp only [List.cons.injEq, Value.slice.injEq, and_true] at hc
    obtain ⟨rfl, rfl, rfl⟩ := hc
    rw [if_pos (hs _)] at hz
    have hreach := hsz _ _ (Prod.mk.inj hx).1
    rw [bytesU] at hreach
    simp only [lits, List.length_map, List.length_take, List.length_drop, reachBytes] at hreach
    have hlen : ((zs.take len).map fun z => UInt8.ofNat z.toNat).length = len := by rw [List.length_map, List.length_take]; omega
    refine ⟨some ad, cap, (zs.take len).map fun z => UInt8.ofNat z.toNat, by rw [hlen], fun hne => ?_, (fun e => by cases e), by rw [hlen]; exact hl, by rw [hlen]; omega⟩
    have h0 : 0 < len := by
      rcases Nat.eq_zero_or_pos len with e | e
      · exact absurd (List.eq_nil_of_length_eq_zero (hlen.trans e)) hne
      · exact e
    obtain ⟨e1, e2⟩ := addr_of_cell (hcell 0 (by omega))
    refine ⟨ad.block, ad.off, by rw [← e1], e2, fun j x hj => ?_⟩
    have hj' : j < len := by
      have := (List.getElem?_eq_some_iff.1 hj).1
      omega
    rw [List.getElem?_map, List.getElem?_take_of_lt hj'] at hj
    obtain ⟨z, hz1, rfl⟩ := Option.map_eq_some_iff.1 hj
    have h1 := cell_add e1 (hcell j (by omega))
    rw [List.getD_eq_getElem?_getD, hz1] at h1
    have hw := hwf z (List.mem_of_getElem? hz1)
    have hb : 0 ≤ z ∧ z ≤ 255 := by simpa using bounds_u8 hw
    rw [h1]
    have hn : ((UInt8.ofNat z.toNat).toNat : Int) = z := by
      rw [UInt8.toNat_ofNat_of_lt' (by have := hb.2; show z.toNat < 256; omega)]
      omega
    rw [hn]
    rfl

theorem cellsI : Tryz.prog.cellsOf 3 = 1 := by kernel_rfl
theorem bytesI : Tryz.prog.bytesOf 3 = 8 := by kernel_rfl
set_option maxRecDepth 100000 in
/-- A slice of numbers that came in. -/
theorem ints_open {v : Value} {d : DataW H} {ps : List MemPlace} (hs : ∀ b, spare b = true) (hsz : ∀ el sp, d = .slice el sp → (el.length + sp.length) * Tryz.prog.bytesOf 3 ≤ reachBytes) {base2 : Nat} (hok : Value.okWide Tryz.prog w .any base2 22 v) (h : DataW.Trod enc Tryz.prog w base spare held 22 v d ps) :
    ∃ (A : Option Addr) (cap : Nat) (l : List Int), v = .slice A l.length cap ∧ RdI w w.heap.size A l ∧ (A = none → cap = 0) ∧ l.length ≤ cap ∧ l.length ≤ 140737488351232 := by
  obtain ⟨a0, len, cap, rfl⟩ := okWide_slice Tryz.underlying22 hok
  obtain ⟨fuel, hf⟩ := h
  have hf' : DataW.trod enc Tryz.prog w base spare held fuel 22 [.slice a0 len cap] = some (d, ps) := hf
  rcases open_ints Tryz.underlying22 Tryz.underlying3 cellsI hf' with ⟨hc, _⟩ | ⟨ad, ln, cp, zs, hc, _, hl, hm, hz, hx, hcell, hwf⟩
  · simp only [List.cons.injEq, Value.slice.injEq, and_true] at hc
    obtain ⟨rfl, rfl, rfl⟩ := hc
    exact ⟨none, 0, [], rfl, RdI.nil _ _ _, fun _ => rfl, Nat.le_refl _, by simp⟩
  · simp only [List.cons.injEq, Value.slice.injEq, and_true] at hc
    obtain ⟨rfl, rfl, rfl⟩ := hc
    rw [if_pos (hs _)] at hz
    have hreach := hsz _ _ (Prod.mk.inj hx).1
    rw [bytesI] at hreach
    simp only [lits, List.length_map, List.length_take, List.length_drop, reachBytes] at hreach
    have hlen : (zs.take len).length = len := by rw [List.length_take]; omega
    refine ⟨some ad, cap, zs.take len, by rw [hlen], ⟨fun hne => ?_, fun x hx => ?_⟩, (fun e => by cases e), by rw [hlen]; exact hl, by rw [hlen]; omega⟩
    · have h0 : 0 < len := by
        rcases Nat.eq_zero_or_pos len with e | e
        · exact absurd (List.eq_nil_of_length_eq_zero (hlen.trans e)) hne
        · exact e
      obtain ⟨e1, e2⟩ := addr_of_cell (hcell 0 (by omega))
      refine ⟨ad.block, ad.off, by rw [← e1], e2, fun j x hj => ?_⟩
      have hj' : j < len := by
        have := (List.getElem?_eq_some_iff.1 hj).1
        omega
      rw [List.getElem?_take_of_lt hj'] at hj
      have h1 := cell_add e1 (hcell j (by omega))
      rw [List.getD_eq_getElem?_getD, hj] at h1
      exact h1
    · have hw := hwf x (List.mem_of_mem_take hx)
      simpa using bounds_i64 hw
end

end Go.Proofs.YtflapnbpaodhaaaGreatDoor

/-
  disk's smallest calls: made, has, take.
-/

namespace Go.Proofs.YtflapnbpaodhaaaGreatDoor
set_option maxRecDepth 100000
open Go.RowKit Go.Maps

set_option maxHeartbeats 400000 in
theorem made_nil (w : World) : Calls Tryz.prog 29 #[.pointer none] w fun e w' => e = .returned (.bool false) ∧ w = w' := by
  go_enter Tryz.func29, Tryz.ntmps29
  go_wp2
  go_ret
  exact ⟨rfl, rfl⟩

set_option maxHeartbeats 400000 in
theorem made_any (pb : Nat) (N : Int) (w : World) (c0 : w.cell? ⟨pb, 0, none⟩ = some (.int .i64 N)) : Calls Tryz.prog 29 #[.pointer (some ⟨pb, 0, none⟩)] w fun e w' => e = .returned (.bool (decide (0 < N))) ∧ w = w' := by
  go_enter Tryz.func29, Tryz.ntmps29
  go_wp2
  go_ret
  exact ⟨rfl, rfl⟩

theorem made_yes (pb : Nat) (N : Int) (w : World) (c0 : w.cell? ⟨pb, 0, none⟩ = some (.int .i64 N)) (hN : 0 < N) : Calls Tryz.prog 29 #[.pointer (some ⟨pb, 0, none⟩)] w fun e w' => e = .returned (.bool true) ∧ w = w' :=
  (made_any pb N w c0).mono fun e w' h => by rw [decide_eq_true hN] at h; exact h

set_option maxHeartbeats 400000 in
theorem has_any (pb : Nat) (N at_ : Int) (w : World) (c0 : w.cell? ⟨pb, 0, none⟩ = some (.int .i64 N)) : Calls Tryz.prog 30 #[.pointer (some ⟨pb, 0, none⟩), .int .i64 at_] w fun e w' => e = .returned (.bool (decide (0 ≤ at_) && decide (at_ < N))) ∧ w = w' := by
  by_cases h : 0 ≤ at_
  · go_enter Tryz.func30, Tryz.ntmps30
    go_wp2
    go_ret
    exact ⟨by simp [h], rfl⟩
  · go_enter Tryz.func30, Tryz.ntmps30
    go_wp2
    go_ret
    exact ⟨by simp; omega, rfl⟩

/-- The six cells of a disk. -/
abbrev dcells (N : Int) (bv bt : Nat) (ops lim : Int) (dk : Bool) : Array Value := #[.int .i64 N, .map (some bv), .map (some bt), .int .i64 ops, .int .i64 lim, .bool dk]

/-- Block pb is a disk's. -/
def Blk (w : World) (pb : Nat) (N : Int) (bv bt : Nat) (ops lim : Int) (dk : Bool) : Prop := w.heap[pb]? = some (.cells (dcells N bv bt ops lim dk) 66 (0, 0))

section
variable {w : World} {pb : Nat} {N : Int} {bv bt : Nat} {ops lim : Int} {dk : Bool}
theorem Blk.c0 (h : Blk w pb N bv bt ops lim dk) : w.cell? ⟨pb, 0, none⟩ = some (.int .i64 N) := by rw [cellAt h]; rfl
theorem Blk.c1 (h : Blk w pb N bv bt ops lim dk) : w.cell? ⟨pb, 1, none⟩ = some (.map (some bv)) := by rw [cellAt h]; rfl
theorem Blk.c2 (h : Blk w pb N bv bt ops lim dk) : w.cell? ⟨pb, 2, none⟩ = some (.map (some bt)) := by rw [cellAt h]; rfl
theorem Blk.c3 (h : Blk w pb N bv bt ops lim dk) : w.cell? ⟨pb, 3, none⟩ = some (.int .i64 ops) := by rw [cellAt h]; rfl
theorem Blk.c4 (h : Blk w pb N bv bt ops lim dk) : w.cell? ⟨pb, 4, none⟩ = some (.int .i64 lim) := by rw [cellAt h]; rfl
theorem Blk.c5 (h : Blk w pb N bv bt ops lim dk) : w.cell? ⟨pb, 5, none⟩ = some (.bool dk) := by rw [cellAt h]; rfl
theorem Blk.free (h : Blk w pb N bv bt ops lim dk) (j : Nat) : w.frozen? ⟨pb, j, none⟩ = false := freeAt h j
theorem Blk.lt (h : Blk w pb N bv bt ops lim dk) : pb < w.heap.size := (Array.getElem?_eq_some_iff.1 h).1
theorem Blk.set2 (h : Blk w pb N bv bt ops lim dk) (b : Nat) : Blk (w.setCell ⟨pb, 2, none⟩ (.map (some b))) pb N bv b ops lim dk := by
  unfold Blk; rw [heap_setCell_same _ _ _ _ _ _ h]; rfl
theorem Blk.set1 (h : Blk w pb N bv bt ops lim dk) (b : Nat) : Blk (w.setCell ⟨pb, 1, none⟩ (.map (some b))) pb N b bt ops lim dk := by
  unfold Blk; rw [heap_setCell_same _ _ _ _ _ _ h]; rfl
theorem Blk.set3 (h : Blk w pb N bv bt ops lim dk) (x : Int) : Blk (w.setCell ⟨pb, 3, none⟩ (.int .i64 x)) pb N bv bt x lim dk := by
  unfold Blk; rw [heap_setCell_same _ _ _ _ _ _ h]; rfl
theorem Blk.set4 (h : Blk w pb N bv bt ops lim dk) (x : Int) : Blk (w.setCell ⟨pb, 4, none⟩ (.int .i64 x)) pb N bv bt ops x dk := by
  unfold Blk; rw [heap_setCell_same _ _ _ _ _ _ h]; rfl
theorem Blk.set5 (h : Blk w pb N bv bt ops lim dk) (x : Bool) : Blk (w.setCell ⟨pb, 5, none⟩ (.bool x)) pb N bv bt ops lim x := by
  unfold Blk; rw [heap_setCell_same _ _ _ _ _ _ h]; rfl
theorem Blk.kept {w' : World} (h : Blk w pb N bv bt ops lim dk) {S : Nat → Prop} (hf : Fr S w w') (hn : ¬ S pb) : Blk w' pb N bv bt ops lim dk := (hf.block pb h.lt hn).trans h
end

theorem Blk.ne_map {w : World} {pb : Nat} {N : Int} {bv bt : Nat} {ops lim : Int} {dk : Bool} (h : Blk w pb N bv bt ops lim dk) {b : Nat} {es : Array MapEntry} {clock : Nat} (hm : w.heap[b]? = some (.map es clock)) : b ≠ pb := by
  intro e
  subst e
  unfold Blk at h
  rw [hm] at h
  cases h

/-- take: the power is gone, or goes. -/
theorem take_no (w : World) {pb : Nat} {N : Int} {bv bt : Nat} {ops lim : Int} {dk : Bool} (hb : Blk w pb N bv bt ops lim dk) (h : lim = 0 ∨ dk = true) :
    Calls Tryz.prog 47 #[.pointer (some ⟨pb, 0, none⟩)] w fun e w' => e = .returned (.int .i64 10) ∧ Blk w' pb N bv bt ops lim true ∧ Fr (· = pb) w w' ∧ w'.heap.size = w.heap.size := by
  have c4 := hb.c4
  have c5 := hb.c5
  have f5 := hb.free 5
  have F0 := Fr.refl (· = pb) w
  by_cases hl : lim = 0
  · subst hl
    have h1 := hb.set5 true
    have F1 := F0.setCell (p := ⟨pb, 5, none⟩) (Or.inl rfl) (.bool true)
    have H := Lib.hid h1; have HF := Lib.hid F1; clear h1 F1 F0 hb h
    go_enter Tryz.func47, Tryz.ntmps47
    go_wp2
    go_ret
    exact ⟨rfl, H.out, HF.out, by simp⟩
  · have hd : dk = true := by simpa [hl] using h
    subst hd
    have hl' : (lim == 0) = false := by simpa using hl
    have H := Lib.hid hb; have HF := Lib.hid F0; clear F0 hb h
    go_enter Tryz.func47, Tryz.ntmps47
    go_wp2
    go_ret
    exact ⟨rfl, H.out, HF.out, rfl⟩

def lessOne (lim : Int) : Int := if 0 < lim then lim - 1 else lim

/-- take: an operation is taken. -/
theorem take_yes (w : World) {pb : Nat} {N : Int} {bv bt : Nat} {ops lim : Int} (hb : Blk w pb N bv bt ops lim false) (h : lim ≠ 0) (hlo : -1 ≤ lim) (hhi : lim ≤ 9223372036854775807) (h0 : 0 ≤ ops) (hops : ops ≤ 1000000000000) :
    Calls Tryz.prog 47 #[.pointer (some ⟨pb, 0, none⟩)] w fun e w' => e = .returned (.int .i64 0) ∧ Blk w' pb N bv bt (ops + 1) (lessOne lim) false ∧ Fr (· = pb) w w' ∧ w'.heap.size = w.heap.size := by
  have c4 := hb.c4
  have c5 := hb.c5
  have c3 := hb.c3
  have f3 := hb.free 3
  have f4 := hb.free 4
  have F0 := Fr.refl (· = pb) w
  have hl' : (lim == 0) = false := by simpa using h
  by_cases hp : 0 < lim
  · have h1 := (hb.set4 (lim - 1)).set3 (ops + 1)
    have F1 := (F0.setCell (p := ⟨pb, 4, none⟩) (Or.inl rfl) (.int .i64 (lim - 1))).setCell (p := ⟨pb, 3, none⟩) (Or.inl rfl) (.int .i64 (ops + 1))
    have e1 : lessOne lim = lim - 1 := if_pos hp
    have H := Lib.hid h1; have HF := Lib.hid F1; have HE := Lib.hid e1; clear h1 F1 F0 hb e1 h
    go_enter Tryz.func47, Tryz.ntmps47
    go_wp2
    go_ret
    exact ⟨rfl, by rw [HE.out]; exact H.out, HF.out, by simp⟩
  · have h1 := hb.set3 (ops + 1)
    have F1 := (F0.setCell (p := ⟨pb, 3, none⟩) (Or.inl rfl) (.int .i64 (ops + 1)))
    have e1 : lessOne lim = lim := if_neg hp
    have H := Lib.hid h1; have HF := Lib.hid F1; have HE := Lib.hid e1; clear h1 F1 F0 hb e1 h
    go_enter Tryz.func47, Tryz.ntmps47
    go_wp2
    go_ret
    exact ⟨rfl, by rw [HE.out]; exact H.out, HF.out, by simp⟩

end Go.Proofs.YtflapnbpaodhaaaGreatDoor

/-
  A sector's value: an array of 256 bytes, as cells and as one value; the operations on it.
-/


namespace Go.Proofs.YtflapnbpaodhaaaGreatDoor
set_option maxRecDepth 100000
open Go.RowKit Go.Maps

/-- Bytes as cells. -/
def cellsOf (l : List UInt8) : List Value := l.map fun b => Value.int .u8 (b.toNat : Int)
theorem cellsOf_length (l : List UInt8) : (cellsOf l).length = l.length := by simp [cellsOf]
theorem cellsOf_one (l : List UInt8) : ∀ v ∈ cellsOf l, v.oneCell' = true := by
  intro v hv
  obtain ⟨b, _, rfl⟩ := List.mem_map.1 hv
  rfl
theorem cellsOf_get (l : List UInt8) (j : Nat) : (cellsOf l)[j]? = (l[j]?).map fun b => Value.int .u8 (b.toNat : Int) := by simp [cellsOf]
theorem cellsOf_inj {l l' : List UInt8} (h : cellsOf l = cellsOf l') : l = l' := by
  unfold cellsOf at h
  refine (List.map_inj_right ?_).1 h
  intro a b hab
  simp only [Value.int.injEq, true_and] at hab
  exact UInt8.toNat_inj.1 (by omega)

/-- An array of bytes as one value. -/
def secC (l : List UInt8) : Array Value := (cellsOf l).toArray
def secV (l : List UInt8) : Value := .agg (secC l)
theorem secC_size (l : List UInt8) : (secC l).size = l.length := by simp [secC, cellsOf]
theorem secC_one (l : List UInt8) : (secC l).all (·.oneCell') = true := by
  rw [Array.all_eq_true_iff_forall_mem]
  intro v hv
  exact cellsOf_one l v (by simpa [secC] using hv)
theorem secV_inj {l l' : List UInt8} (h : secV l = secV l') : l = l' := by
  unfold secV secC at h
  simp only [Value.agg.injEq] at h
  exact cellsOf_inj (by simpa using congrArg Array.toList h)

/-- 256 noughts. -/
def noughts : List UInt8 := List.replicate 256 0
theorem noughts_length : noughts.length = 256 := List.length_replicate

theorem infoArr : (Tryz.prog.info? 68).map (·.size) = some 256 := by kernel_rfl
theorem infoByte : (Tryz.prog.info? 5).map (·.size) = some 1 := by kernel_rfl
theorem arrOk : ∀ d, Tryz.prog.underlying 68 = some d → (match d with | .struct _ | .array _ _ => true | _ => false) = true := by
  intro d h
  rw [Tryz.underlying68] at h
  cases h
  rfl
theorem zeroArr (w : World) : (zeroValue 68).run Tryz.prog w = .ok (secV noughts) w := by kernel_rfl
theorem run_allocArr (w : World) : (Instr.alloc 68 true (.tuple #[])).run Tryz.prog w = .ok (.pointer (some ⟨w.heap.size, 0, none⟩)) (w.alloc (.cells (secC noughts) 68)) := by
  kernel_rfl

theorem run_sliceArr (g : Nat) (w : World) : (Instr.sliceAt 68 (.pointer (some ⟨g, 0, none⟩)) none none none).run Tryz.prog w = .ok (.slice (some ⟨g, 0, none⟩) 256 256) w := by
  kernel_rfl

section
variable {ops : Array Oper} {rest : List Oper} {o : Oper} {a : Act} {w : World} {Q : Exit → Act → World → Prop}
theorem wpList_allocArr (hg : o.guard = none) (ho : o.op = .alloc 68)
    (h : wpList Tryz.prog ops Q rest (a.put o.dst (.pointer (some ⟨w.heap.size, 0, none⟩))) (w.alloc (.cells (secC noughts) 68))) : wpList Tryz.prog ops Q (o :: rest) a w := by
  refine wpList_plain hg fun K hK => ?_
  unfold Oper.wp
  simp only [execOp, ho, Sem.run_bind, run_allocArr, Result.andThen]
  exact hK _ _ h

theorem wpList_sliceArr (hgd : o.guard = none) (x : Operand) (ho : o.op = .slice 68 x none none none) (g : Nat) (hx : a.eval x = .pointer (some ⟨g, 0, none⟩))
    (h : wpList Tryz.prog ops Q rest (a.put o.dst (.slice (some ⟨g, 0, none⟩) 256 256)) w) : wpList Tryz.prog ops Q (o :: rest) a w := by
  refine wpList_plain hgd fun K hK => ?_
  unfold Oper.wp
  simp only [execOp, ho, hx, Option.map_none, Sem.run_bind, run_sliceArr, Result.andThen]
  exact hK _ _ h

/-- A whole array is laid into its variable. -/
theorem wpList_storeArr (hgd : o.guard = none) (x y : Operand) (ho : o.op = .store 68 x y) (g : Nat) (l old : List UInt8) (hl : l.length = 256) (hol : old.length = 256)
    (hx : a.eval x = .pointer (some ⟨g, 0, none⟩)) (hy : a.eval y = secV l) (hg : w.heap[g]? = some (.cells (secC old) 68 (0, 0)))
    (h : ∀ w', w'.heap[g]? = some (.cells (secC l) 68 (0, 0)) → Fr (· = g) w w' → w'.heap.size = w.heap.size → wpList Tryz.prog ops Q rest (a.put o.dst undef) w') : wpList Tryz.prog ops Q (o :: rest) a w :=
  wpList_store_row hgd 68 x y ho g (secC l) hx hy 68 (secC old) hg (by rw [secC_size, hl]; exact infoArr) (by rw [secC_size, secC_size, hl, hol]) (secC_one l)
    (h _ (setRow_heap w g _ _ _ _ hg) ⟨rfl, rfl, rfl, by simp [World.setRow], fun i _ hi => setRow_other w g i _ hi⟩ (by simp [World.setRow]))

theorem wpList_loadArr (hgd : o.guard = none) (x : Operand) (ho : o.op = .load 68 x) (g : Nat) (l : List UInt8) (hl : l.length = 256)
    (hx : a.eval x = .pointer (some ⟨g, 0, none⟩)) (hg : w.heap[g]? = some (.cells (secC l) 68 (0, 0)))
    (h : wpList Tryz.prog ops Q rest (a.put o.dst (secV l)) w) : wpList Tryz.prog ops Q (o :: rest) a w :=
  wpList_load_row hgd 68 x ho g hx 68 (secC l) (0, 0) _ hg Tryz.underlying68 rfl (by rw [secC_size, hl]; exact infoArr) h
end

/-- A result that is an array lies in its cell. -/
theorem results_arr {fn : Func} {p : Tmp} (h : fn.results = #[.cell p 68]) (tmps : Array Value) (w : World) (g : Nat) (l : List UInt8) (hl : l.length = 256)
    (hp : tmps.getD p undef = .pointer (some ⟨g, 0, none⟩)) (hg : w.heap[g]? = some (.cells (secC l) 68 (0, 0))) : (results fn tmps).run Tryz.prog w = .ok (secV l) w :=
  results_cell_row h tmps w g 68 (secC l) (0, 0) _ hp hg Tryz.underlying68 rfl (by rw [secC_size, hl]; exact infoArr)

/-- A slice of bytes that reads as l. -/
def Bytes (w : World) (v : Value) (l : List UInt8) : Prop :=
  ∃ p cap, v = .slice p l.length cap ∧ (0 < l.length → ∃ blk off, p = some ⟨blk, off, none⟩ ∧ ∀ j b, l[j]? = some b → w.cell? ⟨blk, off + j, none⟩ = some (.int .u8 (b.toNat : Int)))

end Go.Proofs.YtflapnbpaodhaaaGreatDoor

/-
  A disk's two maps: values (keys: sector and turn; elements: 256 bytes), turns (keys and elements: numbers).
-/


namespace Go.Proofs.YtflapnbpaodhaaaGreatDoor
set_option maxRecDepth 100000
open Go.RowKit Go.Maps Go.WideMaps

theorem rowPlace : (93 : TypeId) < Tryz.prog.types.size := of_decide_eq_true (by kernel_rfl)
theorem ktAtPlace : Tryz.prog.keyTypeAt 2 93 = true := by kernel_rfl
theorem two_le : (2 : Nat) + 1 ≤ 10000 := by omega
theorem lawPlace : KeyLaw Tryz.prog 93 := deep_law_laid laidOut two_le rowPlace ktAtPlace (by rw [Tryz.underlying93])
theorem keyedPlace : Keyed Tryz.prog 93 := Keyed.of_law lawPlace
theorem keyedInt : Keyed Tryz.prog 3 := int_keyed Tryz.underlying3
theorem zeroInt (w : World) : (zeroValue 3).run Tryz.prog w = .ok (.int .i64 0) w := by kernel_rfl
theorem ktPlace : Tryz.prog.keyType 93 = true := by kernel_rfl
theorem cellsPlace : Tryz.prog.cellsOf 93 = 2 := by kernel_rfl
theorem cellsInt : Tryz.prog.cellsOf 3 = 1 := by kernel_rfl
theorem typesSize : ∃ m, Tryz.prog.types.size = m + 1 := by
  have h : (93 : Nat) < Tryz.prog.types.size := rowPlace
  exact ⟨_, (Nat.succ_pred_eq_of_pos (Nat.lt_of_le_of_lt (Nat.zero_le _) h)).symm⟩

/-- A number of 64 bits. -/
abbrev I64 (x : Int) : Prop := -9223372036854775808 ≤ x ∧ x ≤ 9223372036854775807
theorem I64.wf {x : Int} (h : I64 x) : (Lit.int .i64 x).wf = true := WalkArith.wf_i64 (by omega)

theorem I64.of_wf {x : Int} (h : (Lit.int .i64 x).wf = true) : I64 x := by
  have h1 : (decide (-9223372036854775808 ≤ x) && decide (x ≤ 9223372036854775807)) = true := h
  simpa using h1

/-- The key of a value. -/
def keyV (s t : Int) : Value := .agg #[.int .i64 s, .int .i64 t]
def kl (s t : Int) : Lit := .string (keyBytes [.int .i64 s, .int .i64 t])

theorem keyOf_place {s t : Int} (hs : I64 s) (ht : I64 t) : keyOf Tryz.prog 93 (keyV s t) = some (kl s t) := by
  obtain ⟨m, hm⟩ := typesSize
  have ws := hs.wf
  have wt := ht.wf
  unfold keyOf keyV kl
  simp only [Tryz.underlying93]
  rw [if_pos (by simp [ktPlace, Value.formed, Tryz.underlying93, cellsPlace]), hm]
  unfold Program.keyLits
  simp only [Tryz.underlying93, Value.cells]
  rw [if_pos (by rw [cellsPlace]; exact ⟨rfl, by simp⟩)]
  simp [Program.keyLits, cellsInt, Tryz.underlying3, ws, wt]

theorem kl_ne {s t s' t' : Int} (hs : I64 s) (ht : I64 t) (hs' : I64 s') (ht' : I64 t') (h : ¬ (s = s' ∧ t = t')) : kl s t ≠ kl s' t' := by
  intro e
  have h1 := keyOf_place hs ht
  have h2 := keyOf_place hs' ht'
  rw [← e] at h2
  have h3 := keyedPlace.inj h1 h2
  unfold keyV at h3
  simp only [Value.agg.injEq] at h3
  have h4 := congrArg Array.toList h3
  simp only [List.cons.injEq, Value.int.injEq, true_and, and_true] at h4
  exact h h4

/-! ### an element -/
abbrev DU := DataW Unit
def byteOf : Value → Option UInt8
  | .int .u8 n => if 0 ≤ n ∧ n < 256 then some (UInt8.ofNat n.toNat) else none
  | _ => none
def secR (v : Value) : Option (DU × List MemPlace) :=
  match v with
  | .agg cs => if cs.size = 256 then (cs.toList.mapM byteOf).map fun l => (.lit (.string l), []) else none
  | _ => none

theorem byteOf_mk (b : UInt8) : byteOf (.int .u8 (b.toNat : Int)) = some b := by
  have h := b.toNat_lt
  show (if 0 ≤ (b.toNat : Int) ∧ (b.toNat : Int) < 256 then some (UInt8.ofNat (b.toNat : Int).toNat) else none) = some b
  rw [if_pos (by omega)]
  simp

theorem byteOf_inv {v : Value} {b : UInt8} (h : byteOf v = some b) : v = .int .u8 (b.toNat : Int) := by
  unfold byteOf at h
  split at h
  · rename_i n
    split at h
    · rename_i hn
      simp only [Option.some.injEq] at h
      subst h
      congr 1
      rw [UInt8.toNat_ofNat']
      omega
    · cases h
  · cases h

theorem mapM_byteOf : ∀ l : List UInt8, (cellsOf l).mapM byteOf = some l
  | [] => rfl
  | b :: l => by
    have h := mapM_byteOf l
    unfold cellsOf at h ⊢
    rw [List.map_cons, List.mapM_cons, byteOf_mk, h]
    rfl

theorem mapM_byteOf_inv : ∀ {vs : List Value} {l : List UInt8}, vs.mapM byteOf = some l → vs = cellsOf l
  | [], l, h => by
    simp only [List.mapM_nil] at h
    cases h
    rfl
  | v :: vs, l, h => by
    rw [List.mapM_cons] at h
    cases hv : byteOf v with
    | none => rw [hv] at h; cases h
    | some b =>
      rw [hv] at h
      cases hl : vs.mapM byteOf with
      | none => rw [hl] at h; cases h
      | some l' =>
        rw [hl] at h
        cases h
        rw [byteOf_inv hv, mapM_byteOf_inv hl]
        rfl

theorem secR_mk {l : List UInt8} (hl : l.length = 256) : secR (secV l) = some (.lit (.string l), []) := by
  unfold secR secV
  simp only
  rw [if_pos (by rw [secC_size, hl])]
  unfold secC
  simp only [mapM_byteOf, Option.map_some]

theorem secR_inv {v : Value} {y : DU × List MemPlace} (h : secR v = some y) : ∃ l, l.length = 256 ∧ v = secV l ∧ y = (.lit (.string l), []) := by
  unfold secR at h
  split at h
  · rename_i cs
    split at h
    · rename_i hs
      cases hl : cs.toList.mapM byteOf with
      | none => rw [hl] at h; cases h
      | some l =>
        rw [hl] at h
        cases h
        have hc := mapM_byteOf_inv hl
        refine ⟨l, ?_, ?_, rfl⟩
        · have := congrArg List.length hc
          rw [cellsOf_length] at this
          rw [← this]
          simpa using hs
        · unfold secV secC
          rw [← hc]
    · cases h
  · cases h

/-! ### values -/
/-- Block b is the map of values: V tells what a place reads as (256 noughts where there is nothing). -/
def SecMap (w : World) (b n : Nat) (V : Int → Int → List UInt8) : Prop :=
  ∃ D : DU, w.ownsMap Tryz.prog 93 secR b n D ∧ ∀ s t, I64 s → I64 t → D.atKey (kl s t) (.lit (.string noughts)) = .lit (.string (V s t))

def upd (V : Int → Int → List UInt8) (s t : Int) (l : List UInt8) : Int → Int → List UInt8 := fun s' t' => if s' = s ∧ t' = t then l else V s' t'

theorem SecMap.lt {w : World} {b n : Nat} {V : Int → Int → List UInt8} (h : SecMap w b n V) : b < w.heap.size := by
  obtain ⟨D, h, _⟩ := h
  exact h.lt
theorem SecMap.ne_blk {w : World} {b n : Nat} {V : Int → Int → List UInt8} (h : SecMap w b n V) {pb : Nat} {N : Int} {bv bt : Nat} {ops lim : Int} {dk : Bool} (hb : Blk w pb N bv bt ops lim dk) : b ≠ pb := by
  obtain ⟨D, ⟨es, clock, h1, _⟩, _⟩ := h
  exact hb.ne_map h1
theorem SecMap.mono {w : World} {b n n' : Nat} {V : Int → Int → List UInt8} (h : SecMap w b n V) (hn : n ≤ n') : SecMap w b n' V := by
  obtain ⟨D, h, e⟩ := h
  exact ⟨D, h.mono hn, e⟩
theorem SecMap.kept {w w' : World} {b n : Nat} {V : Int → Int → List UInt8} {S : Nat → Prop} (h : SecMap w b n V) (hf : Fr S w w') (hb : ¬ S b) : SecMap w' b n V := by
  obtain ⟨D, h, e⟩ := h
  exact ⟨D, hf.ownsMap h hb, e⟩
theorem SecMap.congr {w : World} {b n : Nat} {V V' : Int → Int → List UInt8} (h : SecMap w b n V) (hV : ∀ s t, V s t = V' s t) : SecMap w b n V' := by
  obtain ⟨D, h, e⟩ := h
  exact ⟨D, h, fun s t hs ht => by rw [e s t hs ht, hV]⟩
theorem SecMap.made (w : World) : SecMap (w.alloc (.map #[] 0)) w.heap.size 0 (fun _ _ => noughts) :=
  ⟨.map [], World.ownsMap_made _ _ _ _, fun _ _ _ _ => rfl⟩

theorem SecMap.look {w : World} {b n : Nat} {V : Int → Int → List UInt8} (h : SecMap w b n V) {s t : Int} (hs : I64 s) (ht : I64 t) :
    (Instr.lookup 63 (.map (some b)) (keyV s t) false).run Tryz.prog w = .ok (secV (V s t)) w ∧ (V s t).length = 256 := by
  obtain ⟨D, h, e⟩ := h
  obtain ⟨v, ps, hrun, hv⟩ := h.lookup keyedPlace Tryz.underlying63 (zeroArr _) (secR_mk noughts_length) (keyOf_place hs ht)
  rw [e s t hs ht] at hv
  obtain ⟨l, hl, rfl, hy⟩ := secR_inv hv
  simp only [Prod.mk.injEq, DataW.lit.injEq, Lit.string.injEq] at hy
  obtain ⟨hy, _⟩ := hy
  rw [hy]
  exact ⟨hrun, hl⟩

theorem SecMap.put {w w' : World} {b n m : Nat} {D : DU} {V : Int → Int → List UInt8} (h : w.ownsMap Tryz.prog 93 secR b n D) (e : ∀ s t, I64 s → I64 t → D.atKey (kl s t) (.lit (.string noughts)) = .lit (.string (V s t)))
    {s t : Int} (hs : I64 s) (ht : I64 t) {l : List UInt8} (h' : w'.ownsMap Tryz.prog 93 secR b m (D.put (kl s t) (.lit (.string l)))) : SecMap w' b m (upd V s t l) := by
  refine ⟨_, h', fun s' t' hs' ht' => ?_⟩
  unfold upd
  by_cases hc : s' = s ∧ t' = t
  · rw [if_pos hc]
    obtain ⟨rfl, rfl⟩ := hc
    exact atKey_put_same h.isMap (keyedPlace.key (keyOf_place hs ht)) _ _
  · rw [if_neg hc, atKey_put_other (kl_ne hs' ht' hs ht hc), e s' t' hs' ht']

theorem SecMap.store {w : World} {b n : Nat} {V : Int → Int → List UInt8} (h : SecMap w b n V) {s t : Int} (hs : I64 s) (ht : I64 t) {l : List UInt8} (hl : l.length = 256) (hn : n < maxLen) :
    ∃ w', (Instr.mapUpdate 63 (.map (some b)) (keyV s t) (secV l)).run Tryz.prog w = .ok () w' ∧ SecMap w' b (n + 1) (upd V s t l) ∧ w.mapTurned w' b := by
  obtain ⟨D, h, e⟩ := h
  obtain ⟨w', hrun, h1, h2⟩ := h.store keyedPlace Tryz.underlying63 hn (keyOf_place hs ht) (secR_mk hl)
  exact ⟨w', hrun, SecMap.put h e hs ht h1, h2⟩

theorem SecMap.drop {w : World} {b n : Nat} {V : Int → Int → List UInt8} (h : SecMap w b n V) {s t : Int} (hs : I64 s) (ht : I64 t) (ty : TypeId) :
    ∃ w', (Builtin.delete_ #[63, 93] ty #[.map (some b), keyV s t]).run Tryz.prog w = .ok (.tuple #[]) w' ∧ SecMap w' b n (upd V s t noughts) ∧ w.mapTurned w' b := by
  obtain ⟨D, h, e⟩ := h
  obtain ⟨w', hrun, h1, h2⟩ := h.drop keyedPlace Tryz.underlying63 (keyOf_place hs ht) ty
  refine ⟨w', hrun, ⟨_, h1, fun s' t' hs' ht' => ?_⟩, h2⟩
  unfold upd
  by_cases hc : s' = s ∧ t' = t
  · rw [if_pos hc]
    obtain ⟨rfl, rfl⟩ := hc
    exact atKey_del_same _
  · rw [if_neg hc, atKey_del_other (kl_ne hs' ht' hs ht hc), e s' t' hs' ht']

theorem mapTurned_fr {w w' : World} {b : Nat} (h : w.mapTurned w' b) : Fr (· = b) w w' := (Fr.refl _ w).ofTurned h (Or.inl rfl)
theorem mapTurned_size {w w' : World} {b : Nat} (h : w.mapTurned w' b) : w'.heap.size = w.heap.size := by
  obtain ⟨es, c, es', c', _, rfl⟩ := h
  simp [ChangeMaps.setBlock]

section
variable {ops : Array Oper} {rest : List Oper} {o : Oper} {a : Act} {w : World} {Q : Exit → Act → World → Prop}

theorem wpList_lookSec (hg : o.guard = none) (m x : Operand) (ho : o.op = .lookup 63 m x false) (b n : Nat) (V : Int → Int → List UInt8) (s t : Int) (hown : SecMap w b n V) (hs : I64 s) (ht : I64 t)
    (hm : a.eval m = .map (some b)) (hx : a.eval x = keyV s t) (h : (V s t).length = 256 → wpList Tryz.prog ops Q rest (a.put o.dst (secV (V s t))) w) : wpList Tryz.prog ops Q (o :: rest) a w := by
  refine wpList_plain hg fun K hK => ?_
  obtain ⟨hrun, hl⟩ := hown.look hs ht
  unfold Oper.wp
  simp [execOp, ho, hm, hx, hrun, Result.andThen]
  exact hK _ _ (h hl)

theorem wpList_storeSec (hg : o.guard = none) (m x v : Operand) (ho : o.op = .mapUpdate 63 m x v) (b n : Nat) (V : Int → Int → List UInt8) (s t : Int) (l : List UInt8) (hown : SecMap w b n V) (hs : I64 s) (ht : I64 t) (hl : l.length = 256) (hn : n < maxLen)
    (hm : a.eval m = .map (some b)) (hx : a.eval x = keyV s t) (hv : a.eval v = secV l) (h : ∀ w', SecMap w' b (n + 1) (upd V s t l) → w.mapTurned w' b → wpList Tryz.prog ops Q rest (a.put o.dst undef) w') : wpList Tryz.prog ops Q (o :: rest) a w := by
  refine wpList_plain hg fun K hK => ?_
  obtain ⟨w', hrun, h1, h2⟩ := hown.store hs ht hl hn
  unfold Oper.wp
  simp [execOp, ho, hm, hx, hv, hrun, Result.andThen]
  exact hK _ _ (h w' h1 h2)

theorem wpList_dropSec (hg : o.guard = none) (m x : Operand) (ho : o.op = Op.call { callee := Callee.builtin Builtin.delete, args := #[m, x], argTypes := #[63, 93] }) (b n : Nat) (V : Int → Int → List UInt8) (s t : Int) (hown : SecMap w b n V) (hs : I64 s) (ht : I64 t)
    (hm : a.eval m = .map (some b)) (hx : a.eval x = keyV s t) (h : ∀ w', SecMap w' b n (upd V s t noughts) → w.mapTurned w' b → wpList Tryz.prog ops Q rest (a.put o.dst (.tuple #[])) w') : wpList Tryz.prog ops Q (o :: rest) a w := by
  refine wpList_plain hg fun K hK => ?_
  obtain ⟨w', hrun, h1, h2⟩ := hown.drop hs ht o.type
  unfold Oper.wp
  simp [execOp, ho, resolve, invoke, builtin, hm, hx, hrun, Result.andThen]
  exact hK _ _ (h w' h1 h2)
end

/-- A region that draws its order: all that reads, in the text's order, then its end. -/
theorem region_tail {P : Program} {id : Nat} {Q : Exit → Act → World → Prop} {a : Act} {w : World} {l : List Oper} (n : Nat) (hm : P.follows .mixedOrders = true) (hB : Region.lexTailB .any l.toArray n = true) (W : World) (hW : W = w.drew)
    (h : wpStill P l.toArray W (fun a' => wpList P l.toArray Q (l.drop n) a' W) (l.take n) a) : (Code.region id l.toArray true).wp P Q a w := by
  subst hW
  exact wp_region_still_tail n hm hB h

theorem still_value {P : Program} {ops : Array Oper} {w : World} {Q : Act → Prop} {a : Act} {o : Oper} {rest : List Oper} (hg : o.guard = none) (v : Value) (hrun : (execOp a.eval o).run P w = .ok (.value v) w)
    (h : wpStill P ops w Q rest (a.put o.dst v)) : wpStill P ops w Q (o :: rest) a := by
  refine wpStill_step fun K hK => ?_
  have hw : Region.wanted o (yielded ops a.tmps) = true := by simp [Region.wanted, hg]
  rw [if_pos hw]
  unfold Oper.still
  rw [hrun, Oper.stillUpon_value]
  exact hK _ h

theorem still_lookSec {ops : Array Oper} {w : World} {Q : Act → Prop} {a : Act} {o : Oper} {rest : List Oper} (hg : o.guard = none) (m x : Operand) (ho : o.op = .lookup 63 m x false) (b n : Nat) (V : Int → Int → List UInt8) (s t : Int) (hown : SecMap w b n V) (hs : I64 s) (ht : I64 t)
    (hm : a.eval m = .map (some b)) (hx : a.eval x = keyV s t) (h : wpStill Tryz.prog ops w Q rest (a.put o.dst (secV (V s t)))) : wpStill Tryz.prog ops w Q (o :: rest) a := by
  refine still_value hg _ ?_ h
  obtain ⟨hrun, _⟩ := hown.look hs ht
  simp [execOp, ho, hm, hx, hrun, Result.andThen]

theorem still_loadArr {ops : Array Oper} {w : World} {Q : Act → Prop} {a : Act} {o : Oper} {rest : List Oper} (hgd : o.guard = none) (x : Operand) (ho : o.op = .load 68 x) (g : Nat) (l : List UInt8) (hl : l.length = 256)
    (hx : a.eval x = .pointer (some ⟨g, 0, none⟩)) (hg : w.heap[g]? = some (.cells (secC l) 68 (0, 0))) (h : wpStill Tryz.prog ops w Q rest (a.put o.dst (secV l))) : wpStill Tryz.prog ops w Q (o :: rest) a := by
  refine still_value hgd (secV l) ?_ h
  have hrun := run_loadVar_row (P := Tryz.prog) w g 68 68 (secC l) (0, 0) _ hg Tryz.underlying68 rfl (by rw [secC_size, hl]; exact infoArr)
  unfold execOp
  simp only [ho, hx, Instr.loadAt, Instr.sureAddr, Sem.run_bind, Sem.run_pure, Result.andThen_ok, hrun]
  rfl

/-! ### turns -/
/-- Block b is the map of turns: T tells each sector's (0 where there is none); cnt: how many sectors have one. -/
structure TurnD (D : DU) (T : Int → Int) (cnt : Nat) : Prop where
  at_ : ∀ s, I64 s → D.atKey (.int .i64 s) (.lit (.int .i64 0)) = .lit (.int .i64 (T s))
  has : ∀ s, I64 s → Maps.has D (.int .i64 s) = decide (0 < T s)
  size : Maps.size D = cnt

def TurnMap (w : World) (b n : Nat) (T : Int → Int) (cnt : Nat) : Prop :=
  ∃ D : DU, w.ownsMap Tryz.prog 3 (plainElem Tryz.prog 3) b n D ∧ TurnD D T cnt

def updT (T : Int → Int) (s x : Int) : Int → Int := fun s' => if s' = s then x else T s'

/-- How many sectors have a turn, behind one more. -/
def cntUp (t : Int) (c : Nat) : Nat := if 0 < t then c else c + 1

theorem TurnMap.lt {w : World} {b n : Nat} {T : Int → Int} {c : Nat} (h : TurnMap w b n T c) : b < w.heap.size := by
  obtain ⟨D, h, _⟩ := h
  exact h.lt
theorem TurnMap.ne_blk {w : World} {b n : Nat} {T : Int → Int} {c : Nat} (h : TurnMap w b n T c) {pb : Nat} {N : Int} {bv bt : Nat} {ops lim : Int} {dk : Bool} (hb : Blk w pb N bv bt ops lim dk) : b ≠ pb := by
  obtain ⟨D, ⟨es, clock, h1, _⟩, _⟩ := h
  exact hb.ne_map h1
theorem TurnMap.mono {w : World} {b n n' : Nat} {T : Int → Int} {c : Nat} (h : TurnMap w b n T c) (hn : n ≤ n') : TurnMap w b n' T c := by
  obtain ⟨D, h, e⟩ := h
  exact ⟨D, h.mono hn, e⟩
theorem TurnMap.kept {w w' : World} {b n : Nat} {T : Int → Int} {c : Nat} {S : Nat → Prop} (h : TurnMap w b n T c) (hf : Fr S w w') (hb : ¬ S b) : TurnMap w' b n T c := by
  obtain ⟨D, h, e⟩ := h
  exact ⟨D, hf.ownsMap h hb, e⟩
theorem TurnMap.congr {w : World} {b n : Nat} {T T' : Int → Int} {c : Nat} (h : TurnMap w b n T c) (hT : ∀ s, T s = T' s) : TurnMap w b n T' c := by
  obtain ⟨D, h, e⟩ := h
  exact ⟨D, h, ⟨fun s hs => by rw [e.at_ s hs, hT], fun s hs => by rw [e.has s hs, hT], e.size⟩⟩
theorem TurnMap.made (w : World) : TurnMap (w.alloc (.map #[] 0)) w.heap.size 0 (fun _ => 0) 0 :=
  ⟨.map [], World.ownsMap_made _ _ _ _, ⟨fun _ _ => rfl, fun _ _ => rfl, rfl⟩⟩

theorem TurnMap.look {w : World} {b n : Nat} {T : Int → Int} {c : Nat} (h : TurnMap w b n T c) {s : Int} (hs : I64 s) :
    (Instr.lookup 64 (.map (some b)) (.int .i64 s) false).run Tryz.prog w = .ok (.int .i64 (T s)) w ∧ I64 (T s) := by
  obtain ⟨D, h, e⟩ := h
  obtain ⟨x, hrun, hat, hw⟩ := h.lookup_int keyedInt Tryz.underlying64 Tryz.underlying3 (zeroInt _) (keyOf_int_mk Tryz.underlying3 hs.wf)
  rw [e.at_ s hs] at hat
  simp only [DataW.lit.injEq, Lit.int.injEq, true_and] at hat
  rw [hat]
  exact ⟨hrun, I64.of_wf hw⟩

theorem TurnMap.store {w : World} {b n : Nat} {T : Int → Int} {c : Nat} (h : TurnMap w b n T c) {s x : Int} (hs : I64 s) (hx : I64 x) (h0 : 0 < x) (hn : n < maxLen) :
    ∃ w', (Instr.mapUpdate 64 (.map (some b)) (.int .i64 s) (.int .i64 x)).run Tryz.prog w = .ok () w' ∧ TurnMap w' b (n + 1) (updT T s x) (cntUp (T s) c) ∧ w.mapTurned w' b := by
  obtain ⟨D, h, e⟩ := h
  obtain ⟨w', hrun, h1, h2⟩ := h.store keyedInt Tryz.underlying64 hn (keyOf_int_mk Tryz.underlying3 hs.wf) (plainElem_int Tryz.underlying3 hx.wf)
  have hkl : WideAt.IsKeyLit (.int .i64 s) := keyedInt.key (keyOf_int_mk Tryz.underlying3 hs.wf)
  refine ⟨w', hrun, ⟨_, h1, ⟨fun s' hs' => ?_, fun s' hs' => ?_, ?_⟩⟩, h2⟩
  · unfold updT
    by_cases hc : s' = s
    · rw [if_pos hc, hc]
      exact atKey_put_same h.isMap hkl _ _
    · rw [if_neg hc, atKey_put_other (by intro e'; cases e'; exact hc rfl), e.at_ s' hs']
  · unfold updT
    by_cases hc : s' = s
    · rw [if_pos hc, hc, has_put_same h.isMap hkl]
      simp [h0]
    · rw [if_neg hc, has_put_other (by intro e'; cases e'; exact hc rfl), e.has s' hs']
  · rw [size_put (h.tidy keyedInt), e.has s hs, e.size]
    simp [cntUp]

theorem TurnMap.len {w : World} {b n : Nat} {T : Int → Int} {c : Nat} (h : TurnMap w b n T c) (ty : TypeId) : (Builtin.len_ #[64] ty #[.map (some b)]).run Tryz.prog w = .ok (.int .i64 c) w := by
  obtain ⟨D, h, e⟩ := h
  rw [← e.size]
  exact h.len Tryz.underlying64 ty

section
variable {ops : Array Oper} {rest : List Oper} {o : Oper} {a : Act} {w : World} {Q : Exit → Act → World → Prop}
theorem wpList_lookTurn (hg : o.guard = none) (m x : Operand) (ho : o.op = .lookup 64 m x false) (b n : Nat) (T : Int → Int) (c : Nat) (s : Int) (hown : TurnMap w b n T c) (hs : I64 s)
    (hm : a.eval m = .map (some b)) (hx : a.eval x = .int .i64 s) (h : wpList Tryz.prog ops Q rest (a.put o.dst (.int .i64 (T s))) w) : wpList Tryz.prog ops Q (o :: rest) a w := by
  refine wpList_plain hg fun K hK => ?_
  obtain ⟨hrun, _⟩ := hown.look hs
  unfold Oper.wp
  simp [execOp, ho, hm, hx, hrun, Result.andThen]
  exact hK _ _ h

theorem wpList_storeTurn (hg : o.guard = none) (m x v : Operand) (ho : o.op = .mapUpdate 64 m x v) (b n : Nat) (T : Int → Int) (c : Nat) (s y : Int) (hown : TurnMap w b n T c) (hs : I64 s) (hy : I64 y) (h0 : 0 < y) (hn : n < maxLen)
    (hm : a.eval m = .map (some b)) (hx : a.eval x = .int .i64 s) (hv : a.eval v = .int .i64 y) (h : ∀ w', TurnMap w' b (n + 1) (updT T s y) (cntUp (T s) c) → w.mapTurned w' b → wpList Tryz.prog ops Q rest (a.put o.dst undef) w') : wpList Tryz.prog ops Q (o :: rest) a w := by
  refine wpList_plain hg fun K hK => ?_
  obtain ⟨w', hrun, h1, h2⟩ := hown.store hs hy h0 hn
  unfold Oper.wp
  simp [execOp, ho, hm, hx, hv, hrun, Result.andThen]
  exact hK _ _ (h w' h1 h2)
end

theorem still_lookTurn {ops : Array Oper} {w : World} {Q : Act → Prop} {a : Act} {o : Oper} {rest : List Oper} (hg : o.guard = none) (m x : Operand) (ho : o.op = .lookup 64 m x false) (b n : Nat) (T : Int → Int) (c : Nat) (s : Int) (hown : TurnMap w b n T c) (hs : I64 s)
    (hm : a.eval m = .map (some b)) (hx : a.eval x = .int .i64 s) (h : wpStill Tryz.prog ops w Q rest (a.put o.dst (.int .i64 (T s)))) : wpStill Tryz.prog ops w Q (o :: rest) a := by
  refine still_value hg _ ?_ h
  obtain ⟨hrun, _⟩ := hown.look hs
  simp [execOp, ho, hm, hx, hrun, Result.andThen]

end Go.Proofs.YtflapnbpaodhaaaGreatDoor

/-
  valueOf.
-/
namespace Go.Proofs.YtflapnbpaodhaaaGreatDoor
set_option maxRecDepth 100000
open Go.RowKit Go.Maps

theorem splice_whole {α : Type} (a b : List α) (h : a.length = b.length) : splice a 0 b = b := by
  simp [splice, h]

/-- The copy's hypotheses, as one fact. -/
structure CopyIn (w : World) (g : Nat) (old : List UInt8) (blk off : Nat) (l : List UInt8) : Prop where
  hg : w.heap[g]? = some (.cells (cellsOf old).toArray 68 (0, 0))
  hsrc : ∀ j v, (cellsOf l)[j]? = some v → w.cell? ((⟨blk, off, none⟩ : Addr).add j) = some v

theorem CopyIn.mk2 (w : World) (X Y : Obj) (blk off : Nat) (old l : List UInt8) (hY : Y = .cells (secC old) 68 (0, 0)) (hblk : blk < w.heap.size) (hc : ∀ j b, l[j]? = some b → w.cell? ⟨blk, off + j, none⟩ = some (.int .u8 (b.toNat : Int))) :
    CopyIn ((w.alloc X).alloc Y) (w.heap.size + 1) old blk off l := by
  subst hY
  refine ⟨heap_alloc2_new _ _ _, fun j v hv => ?_⟩
  rw [cellsOf_get] at hv
  cases hj : l[j]? with
  | none => simp [hj] at hv
  | some b =>
    simp only [hj, Option.map_some, Option.some.injEq] at hv
    subst hv
    have hadd : (⟨blk, off, none⟩ : Addr).add j = ⟨blk, off + j, none⟩ := by unfold Addr.add; split <;> simp_all
    rw [hadd, ← hc j b hj]
    refine World.cell?_of_block (w := w) ?_
    show ((w.alloc X).alloc _).heap[blk]? = _
    rw [Below.heap_alloc _ _ _ (by simp; omega), Below.heap_alloc _ _ _ hblk]

set_option maxHeartbeats 400000 in
theorem valueOf_any (w : World) (blk off len cap : Nat) (l : List UInt8) (hl : l.length = 256) (hlen : 256 ≤ len) (hblk : blk < w.heap.size) (hc : ∀ j b, l[j]? = some b → w.cell? ⟨blk, off + j, none⟩ = some (.int .u8 (b.toNat : Int))) :
    Calls Tryz.prog 48 #[.slice (some ⟨blk, off, none⟩) len cap] w fun e w' => e = .returned (secV l) ∧ Below w.heap.size w w' := by
  have HI := CopyIn.mk2 w (.cells (secC noughts) 68) (.cells (secC noughts) 68) blk off noughts l rfl hblk hc
  have hmin : 256 = Nat.min len 256 := (Nat.min_eq_right hlen).symm
  have HM : Hid ((cellsOf l).length = Nat.min len 256) := by show _ = _; rw [cellsOf_length, hl]; exact hmin
  have HF : Hid (0 + (cellsOf l).length ≤ (cellsOf noughts).length) := by show _ ≤ _; rw [cellsOf_length, cellsOf_length, hl, noughts_length]; omega
  have HE : Hid (splice (cellsOf noughts) 0 (cellsOf l) = cellsOf l) := splice_whole _ _ (by rw [cellsOf_length, cellsOf_length, hl, noughts_length])
  have HO : Hid (∀ w2, Below (w.heap.size + 1) ((w.alloc (.cells (secC noughts) 68)).alloc (.cells (secC noughts) 68)) w2 → w2.heap[w.heap.size]? = some (.cells (secC noughts) 68 (0, 0)) ∧ Below w.heap.size w w2) := fun w2 hB =>
    ⟨(hB.block _ (by omega)).trans (heap_alloc2_old _ _ _), (((Below.refl _ w).alloc (Nat.le_refl _) _).alloc (by simp) _).trans (hB.mono (by omega))⟩
  have HL := Lib.hid hl
  clear hc hl hmin
  go_enter Tryz.func48, Tryz.ntmps48
  go_wp2_with (first
    | ((with_reducible refine wpList_allocArr ?_ ?_ ?_); (exact rfl); (exact rfl))
    | ((with_reducible refine wpList_sliceArr ?_ (.tmp 3) ?_ _ ?_ ?_); (exact rfl); (exact rfl); (exact rfl))
    | ((with_reducible refine wpList_copy_splice ?_ (.tmp 4) (.tmp 5) 33 33 ?_ 5 Tryz.underlying33 infoByte (some ⟨w.heap.size + 1, 0, none⟩) (some ⟨blk, off, none⟩) 256 256 len cap ?_ ?_ (w.heap.size + 1) 0 (cellsOf noughts) 68 HI.hg (cellsOf l) HM.out ?_ HF.out (cellsOf_one l) (w.heap.size + 1) _ (Below.refl _ _) (Nat.le_refl _) ?_); (exact rfl); (exact rfl); (exact rfl); (exact rfl); (exact fun _ => ⟨rfl, _, rfl, HI.hsrc⟩); intro w2 HG HB; rw [HE.out] at HG; have HG1 : Hid (w2.heap[w.heap.size + 1]? = some (.cells (secC l) 68 (0, 0))) := HG; clear HG; have HG0 := Lib.hid (HO.out w2 HB); clear HB)
    | ((with_reducible refine wpList_loadArr ?_ (.tmp 3) ?_ (w.heap.size + 1) l HL.out ?_ HG1.out ?_); (exact rfl); (exact rfl); (exact rfl))
    | ((with_reducible refine wpList_storeArr ?_ (.tmp 2) (.tmp 7) ?_ w.heap.size l noughts HL.out noughts_length ?_ ?_ HG0.out.1 ?_); (exact rfl); (exact rfl); (exact rfl); (exact rfl); intro w3 h3 hF3 hs3; have H3 := Lib.hid h3; have HF3 := Lib.hid hF3; clear h3 hF3 hs3))
  go_frame
  refine bodyPost_ret (v := secV l) (results_arr rfl _ _ w.heap.size l HL.out rfl H3.out) rfl ⟨rfl, ?_⟩
  exact HG0.out.2.trans (HF3.out.below HG0.out.2.size (fun i hi e => by omega))

end Go.Proofs.YtflapnbpaodhaaaGreatDoor

/-
  latest, sure: what a sector reads as.
-/

namespace Go.Proofs.YtflapnbpaodhaaaGreatDoor
set_option maxRecDepth 100000
open Go.RowKit Go.Maps

set_option maxRecDepth 100000 in
set_option maxHeartbeats 400000 in
theorem latest_any (w : World) {pb : Nat} {N : Int} {bv bt nv nt : Nat} {ops lim : Int} {dk : Bool} {V : Int → Int → List UInt8} {T : Int → Int} {c : Nat} (hb : Blk w pb N bv bt ops lim dk) (hv : SecMap w bv nv V) (ht : TurnMap w bt nt T c) (s : Int) (hs : I64 s) (hT : I64 (T s)) :
    Calls Tryz.prog 31 #[.pointer (some ⟨pb, 0, none⟩), .int .i64 s] w fun e w' => e = .returned (secV (V s (T s))) ∧ (V s (T s)).length = 256 ∧ Below w.heap.size w w' := by
  have hlt := hb.lt
  have F1 : Fr (fun _ => False) w ((w.alloc (.cells (secC noughts) 68)).drew) := ((Fr.refl _ w).alloc _).drew
  obtain ⟨w1, hw1⟩ : ∃ w1, w1 = ((w.alloc (.cells (secC noughts) 68)).drew) := ⟨_, rfl⟩
  rw [← hw1] at F1
  have HW := Lib.hid hw1
  have hb1 := hb.kept F1 id
  have hv1 := hv.kept F1 id
  have ht1 := ht.kept F1 id
  have c1 := hb1.c1
  have c2 := hb1.c2
  have hl := (hv.look hs hT).2
  have HL := Lib.hid hl
  have HV := Lib.hid hv1
  have HT := Lib.hid ht1
  have HF := Lib.hid F1
  have HR : Hid (w1.heap[w.heap.size]? = some (.cells (secC noughts) 68 (0, 0))) := by rw [hw1]; exact heap_alloc_new _ _
  clear hl hw1 F1 hv1 ht1 hv ht hb hb1
  go_enter Tryz.func31, Tryz.ntmps31
  go_wp2_with (first
    | ((with_reducible refine wpList_allocArr ?_ ?_ ?_); (exact rfl); (exact rfl)))
  refine region_tail 13 (by kernel_rfl) (by kernel_rfl) w1 HW.out ?_
  simp only [List.take_succ_cons, List.take_zero, List.drop_succ_cons, List.drop_zero]
  repeat (first
    | ((with_reducible refine still_lookTurn ?_ (.tmp 13) (.tmp 14) ?_ bt nt T c s HT.out hs ?_ ?_ ?_); (exact rfl); (exact rfl); (exact rfl); (exact rfl))
    | ((with_reducible refine still_lookSec ?_ (.tmp 8) (.tmp 16) ?_ bv nv V s (T s) HV.out hs hT ?_ ?_ ?_); (exact rfl); (exact rfl); (exact rfl); (exact rfl))
    | still_step)
  refine wpStill_nil ?_
  go_wp2_with (first
    | ((with_reducible refine wpList_storeArr ?_ (.tmp 4) (.tmp 17) ?_ w.heap.size (V s (T s)) noughts HL.out noughts_length ?_ ?_ HR.out ?_); (exact rfl); (exact rfl); (exact rfl); (exact rfl); intro w3 h3 hF3 hs3; have H3 := Lib.hid h3; have HF3 := Lib.hid hF3; clear h3 hF3 hs3))
  go_frame
  refine bodyPost_ret (v := secV (V s (T s))) (results_arr rfl _ _ w.heap.size (V s (T s)) HL.out rfl H3.out) rfl ⟨rfl, HL.out, ?_⟩
  exact (HF.out.below (Nat.le_refl _) (fun _ _ e => e.elim)).trans (HF3.out.below HF.out.size (fun i hi e => by omega))

theorem I64.zero : I64 0 := by constructor <;> omega

end Go.Proofs.YtflapnbpaodhaaaGreatDoor

/-
  Sectors, Ops, Pending, Limit.
-/
namespace Go.Proofs.YtflapnbpaodhaaaGreatDoor
set_option maxRecDepth 100000
open Go.RowKit Go.Maps

section
variable (w : World) {pb : Nat} {N : Int} {bv bt nt : Nat} {ops lim : Int} {dk : Bool} {T : Int → Int} {c : Nat}

set_option maxHeartbeats 400000 in
theorem sectors_any (hb : Blk w pb N bv bt ops lim dk) (hN : 0 < N) : Calls Tryz.prog 59 #[.pointer (some ⟨pb, 0, none⟩)] w fun e w' => e = .returned (.int .i64 N) ∧ w = w' := by
  have c0 := hb.c0
  have hm := made_yes pb N w c0 hN
  have HM := Lib.hid hm
  clear hm hb
  go_enter Tryz.func59, Tryz.ntmps59
  go_wp2_with (go_at_call 29; refine (HM.out).mono ?_; rintro e w' ⟨rfl, rfl⟩)
  go_ret
  exact ⟨rfl, rfl⟩

set_option maxHeartbeats 400000 in
theorem ops_any (hb : Blk w pb N bv bt ops lim dk) (hN : 0 < N) : Calls Tryz.prog 16 #[.pointer (some ⟨pb, 0, none⟩)] w fun e w' => e = .returned (.int .i64 ops) ∧ w = w' := by
  have c0 := hb.c0
  have c3 := hb.c3
  have hm := made_yes pb N w c0 hN
  have HM := Lib.hid hm
  clear hm hb
  go_enter Tryz.func16, Tryz.ntmps16
  go_wp2_with (go_at_call 29; refine (HM.out).mono ?_; rintro e w' ⟨rfl, rfl⟩)
  go_ret
  exact ⟨rfl, rfl⟩

set_option maxHeartbeats 400000 in
theorem limit_any (hb : Blk w pb N bv bt ops lim dk) (hN : 0 < N) (n : Int) : Calls Tryz.prog 11 #[.pointer (some ⟨pb, 0, none⟩), .int .i64 n] w fun e w' => e = .returned (.tuple #[]) ∧ Blk w' pb N bv bt ops (max n (-1)) dk ∧ Fr (· = pb) w w' ∧ w'.heap.size = w.heap.size := by
  have c0 := hb.c0
  have c4 := hb.c4
  have f4 := hb.free 4
  have hm := made_yes pb N w c0 hN
  have h1 := hb.set4 (max n (-1))
  have F1 := (Fr.refl (· = pb) w).setCell (p := ⟨pb, 4, none⟩) (Or.inl rfl) (.int .i64 (max n (-1)))
  have HM := Lib.hid hm
  have H1 := Lib.hid h1
  have HF := Lib.hid F1
  clear hm hb h1 F1
  go_enter Tryz.func11, Tryz.ntmps11
  go_wp2_with (go_at_call 29; refine (HM.out).mono ?_; rintro e w' ⟨rfl, rfl⟩)
  · have e1 : max n (-1) = -1 := by omega
    have h1 := H1.out
    have hf := HF.out
    rw [e1] at h1 hf
    go_end0
    exact ⟨rfl, by rw [e1]; exact h1, hf, by simp⟩
  · have e1 : max n (-1) = n := by omega
    have h1 := H1.out
    have hf := HF.out
    rw [e1] at h1 hf
    go_end0
    exact ⟨rfl, by rw [e1]; exact h1, hf, by simp⟩
end

end Go.Proofs.YtflapnbpaodhaaaGreatDoor
